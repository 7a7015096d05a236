/- Colours: numbers of sixteen digits are read (strconv.ParseUint at base 16). -/
import Derived.Test.YtilndlifmpbfnaaDoorBgB
import Derived.Deep.QuietTactic
import Derived.BigQuiet
import Derived.Deep.Cut
import Derived.WalkSmall
namespace Go.Proofs.YtilndlifmpbfnaaDoor
open Go.RowKit
set_option linter.unusedVariables false
set_option linter.unusedSimpArgs false

namespace M
/-- A digit of sixteen, as a number; 99 where it is none. -/
def hexN (c : UInt8) : Nat := if 48 ≤ c.toNat ∧ c.toNat ≤ 57 then c.toNat - 48 else if 97 ≤ c.toNat ∧ c.toNat ≤ 102 then c.toNat - 87 else if 65 ≤ c.toNat ∧ c.toNat ≤ 70 then c.toNat - 55 else 99
def hexNum (l : List UInt8) : Nat := l.foldl (fun n c => n * 16 + hexN c) 0
end M
theorem hexN_ways (c : UInt8) (h : M.hexN c < 16) : (48 ≤ c.toNat ∧ c.toNat ≤ 57 ∧ M.hexN c = c.toNat - 48) ∨ (97 ≤ c.toNat ∧ c.toNat ≤ 102 ∧ M.hexN c = c.toNat - 87) ∨ (65 ≤ c.toNat ∧ c.toNat ≤ 70 ∧ M.hexN c = c.toNat - 55) := by
  unfold M.hexN at h ⊢
  split
  · omega
  · split
    · omega
    · split
      · omega
      · rename_i h1 h2 h3; simp [h1, h2, h3] at h
theorem or32 (c : Int) (h0 : 65 ≤ c) (h1 : c ≤ 70) : bits .or .u8 c 32 = c + 32 := by
  have : c = 65 ∨ c = 66 ∨ c = 67 ∨ c = 68 ∨ c = 69 ∨ c = 70 := by omega
  rcases this with rfl | rfl | rfl | rfl | rfl | rfl <;> decide +kernel
theorem or32s (c : Int) (h0 : 97 ≤ c) (h1 : c ≤ 102) : bits .or .u8 c 32 = c := by
  have : c = 97 ∨ c = 98 ∨ c = 99 ∨ c = 100 ∨ c = 101 ∨ c = 102 := by omega
  rcases this with rfl | rfl | rfl | rfl | rfl | rfl <;> decide +kernel
theorem hexNum_snoc (l : List UInt8) (j : Nat) (hj : j < l.length) : M.hexNum (l.take (j + 1)) = M.hexNum (l.take j) * 16 + M.hexN (l.getD j 0) := by
  rw [List.take_add_one, List.getElem?_eq_getElem hj, List.getD_eq_getElem?_getD, List.getElem?_eq_getElem hj]
  unfold M.hexNum
  rw [List.foldl_append]
  rfl
theorem hexNum_lt (l : List UInt8) (h : ∀ c ∈ l, M.hexN c < 16) (n : Nat) (hn : n ≤ l.length) : M.hexNum (l.take n) < 16 ^ n := by
  induction n with
  | zero => simp [M.hexNum]
  | succ n ih =>
    rw [hexNum_snoc l n (by omega), Nat.pow_succ]
    have := ih (by omega)
    have h2 := h (l.getD n 0) (by rw [List.getD_eq_getElem?_getD, List.getElem?_eq_getElem (by omega)]; exact List.getElem_mem _)
    omega
set_option maxRecDepth 100000 in
set_option maxHeartbeats 4000000 in
theorem pu16_in (l : List UInt8) (bw mx : Int) (w : World) (h : ∀ c ∈ l, M.hexN c < 16) (h0 : l ≠ []) (hb : (bw = 8 ∧ mx = 255 ∧ l.length ≤ 2) ∨ (bw = 16 ∧ mx = 65535 ∧ l.length ≤ 4)) :
    Calls Tryd.prog 41 #[.string (bytes l), .int .i64 16, .int .i64 bw] w fun e w' => e = .returned (.tuple #[.int .u64 (M.hexNum l : Int), .nilIface]) ∧ Below w.heap.size w w' := by
  have hlen : 1 ≤ l.length := by
    cases l with
    | nil => exact absurd rfl h0
    | cons _ _ => simp
  have hmx : ∀ n, n ≤ l.length → (M.hexNum (l.take n) : Int) ≤ mx ∧ mx ≤ 65535 := by
    intro n hn
    have h1 := hexNum_lt l h n hn
    rcases hb with ⟨_, rfl, hl⟩ | ⟨_, rfl, hl⟩
    · have : 16 ^ n ≤ 16 ^ 2 := Nat.pow_le_pow_right (by decide) (by omega)
      have : (16 : Nat) ^ 2 = 256 := by decide
      omega
    · have : 16 ^ n ≤ 16 ^ 4 := Nat.pow_le_pow_right (by decide) (by omega)
      have : (16 : Nat) ^ 4 = 65536 := by decide
      omega
  have hcv := bw_conv w (bytes l)
  have hbs := bw_bs w (bytes l) (by rw [bytes_size]; omega)
  have hbb := bw_below w (bytes l)
  have hbz := bw_size w (bytes l)
  rw [bytes_list] at hbs
  rw [bytes_size] at hcv hbs
  have hne : ((bytes l).toList == []) = false := by rw [ByteArray.toList_eq, bytes_list]; simpa using h0
  obtain ⟨n, hn⟩ : ∃ n, l.length = n := ⟨_, rfl⟩
  rw [hn] at hcv hbs
  obtain ⟨cp, hcp⟩ : ∃ cap, grownCap w n 0 5 = cap := ⟨_, rfl⟩
  rw [hcp] at hcv hbs
  have hcell : ∀ k, k < n → (Lib.bytesWorld w 5 (bytes l)).cell? ⟨w.heap.size, k, none⟩ = some (.int .u8 ((l.getD k 0).toNat : Int)) := by
    intro k hk
    obtain ⟨a', cap', e, g1, g2, g3⟩ := hbs
    simp only [Value.slice.injEq] at e
    obtain ⟨rfl, -, rfl⟩ := e
    obtain ⟨b, off, e2, _, hc⟩ := g3 (by omega)
    simp only [Option.some.injEq, Addr.mk.injEq, and_true] at e2
    obtain ⟨rfl, rfl⟩ := e2
    have := hc k (by omega)
    rw [Nat.zero_add] at this
    rw [this]; simp [List.getD, show k < l.length by omega]
  obtain ⟨W, hW⟩ : ∃ W, Lib.bytesWorld w 5 (bytes l) = W := ⟨_, rfl⟩
  rw [hW] at hcv hbb hbz hcell
  obtain ⟨S, hS⟩ : ∃ S, bytes l = S := ⟨_, rfl⟩
  rw [hS] at hcv hne ⊢
  have HN := Lib.hid hn
  have HCE := Lib.hid hcell
  have HBB := Lib.hid hbb
  have HMX := Lib.hid hmx
  have HH := Lib.hid h
  have n0 : (n : Int) ≤ 4 := by omega
  have HT := Lib.hid (show l.take n = l by rw [← hn]; exact List.take_of_length_le (Nat.le_refl _))
  clear hn hcell hbb hbz hbs hS hW hcp hmx h h0 hlen
  rcases hb with ⟨rfl, rfl, hl⟩ | ⟨rfl, rfl, hl⟩
  · clear hl
    go_enter Tryd.func41, Tryd.ntmps41
    go_wp2
    go_loopw [12, 13, 101] (fun uv nv iv wr => ∃ j : Nat, iv = .int .i64 (j : Int) ∧ j ≤ n ∧ uv = .bool false ∧ nv = .int .u64 (M.hexNum (l.take j) : Int) ∧ wr = W) (fun _ _ iv _ => n - (intOf iv).toNat)
    case atStart => exact ⟨0, rfl, by omega, rfl, rfl, rfl⟩
    case round =>
      obtain ⟨j, rfl, hj, rfl, rfl, rfl⟩ := hrel
      by_cases hjn : j < n
      · have c1 := HCE.out j hjn
        have j1 : (j : Int) < n := by omega
        have hN := HN.out
        have hx := HH.out (l.getD j 0) (by rw [List.getD_eq_getElem?_getD, List.getElem?_eq_getElem (by omega)]; exact List.getElem_mem _)
        have hw := hexN_ways _ hx
        have hs := hexNum_snoc l j (by omega)
        obtain ⟨m1, m3⟩ := HMX.out j (by omega)
        obtain ⟨m2, _⟩ := HMX.out (j + 1) (by omega)
        rw [hs] at m2
        have HS := Lib.hid hs
        obtain ⟨c, hc⟩ : ∃ c, l.getD j 0 = c := ⟨_, rfl⟩
        rw [hc] at c1 hx hw HS m2
        obtain ⟨v, hv⟩ : ∃ v, M.hexN c = v := ⟨_, rfl⟩
        rw [hv] at hx hw HS m2
        obtain ⟨N, hN2⟩ : ∃ v, M.hexNum (l.take j) = v := ⟨_, rfl⟩
        rw [hN2] at m1 m2 HS ⊢
        obtain ⟨X, hX⟩ : ∃ X : Int, (c.toNat : Int) = X := ⟨_, rfl⟩
        rw [hX] at c1
        have hw2 : (48 ≤ X ∧ X ≤ 57 ∧ (v : Int) = X - 48) ∨ (97 ≤ X ∧ X ≤ 102 ∧ (v : Int) = X - 87) ∨ (65 ≤ X ∧ X ≤ 70 ∧ (v : Int) = X - 55) := by omega
        have m4 : (N : Int) * 16 + v ≤ 255 := by have := m2; omega
        have m5 : (N : Int) ≤ 255 := m1
        have m6 : (0 : Int) ≤ N := by omega
        obtain ⟨Z, hZ⟩ : ∃ Z : Int, (N : Int) = Z := ⟨_, rfl⟩
        rw [hZ] at m4 m5 m6 ⊢
        have HZ := Lib.hid hZ
        clear hs hc hv hN2 hX hw m1 m2 m3 hN hZ
        rcases hw2 with ⟨x0, x1, x2⟩ | ⟨x0, x1, x2⟩ | ⟨x0, x1, x2⟩
        · have m4 : Z * 16 + (X - 48) ≤ 255 := by omega
          have HX2 := Lib.hid x2
          clear x2
          go_wp2
          go_roundw
          case rel => exact ⟨j + 1, by go_num, by omega, rfl, by rw [HS.out]; have := HX2.out; have := HZ.out; congr 1; omega, trivial⟩
          case measure => simp [intOf]; omega
        · have o1 := or32s X x0 x1
          have m4 : Z * 16 + (X - 87) ≤ 255 := by omega
          have HX2 := Lib.hid x2
          clear x2
          go_wp2
          go_roundw
          case rel => exact ⟨j + 1, by go_num, by omega, rfl, by rw [HS.out]; have := HX2.out; have := HZ.out; congr 1; omega, trivial⟩
          case measure => simp [intOf]; omega
        · have o1 := or32 X x0 x1
          have m4 : Z * 16 + (X - 55) ≤ 255 := by omega
          have HX2 := Lib.hid x2
          clear x2
          go_wp2
          go_roundw
          case rel => exact ⟨j + 1, by go_num, by omega, rfl, by rw [HS.out]; have := HX2.out; have := HZ.out; congr 1; omega, trivial⟩
          case measure => simp [intOf]; omega
      · obtain rfl : j = n := by omega
        have jf : decide ((j : Int) < j) = false := by simp
        rw [HT.out]
        go_wp2
        go_ret2
        exact ⟨rfl, HBB.out⟩
  · clear hl
    go_enter Tryd.func41, Tryd.ntmps41
    go_wp2
    go_loopw [12, 13, 101] (fun uv nv iv wr => ∃ j : Nat, iv = .int .i64 (j : Int) ∧ j ≤ n ∧ uv = .bool false ∧ nv = .int .u64 (M.hexNum (l.take j) : Int) ∧ wr = W) (fun _ _ iv _ => n - (intOf iv).toNat)
    case atStart => exact ⟨0, rfl, by omega, rfl, rfl, rfl⟩
    case round =>
      obtain ⟨j, rfl, hj, rfl, rfl, rfl⟩ := hrel
      by_cases hjn : j < n
      · have c1 := HCE.out j hjn
        have j1 : (j : Int) < n := by omega
        have hN := HN.out
        have hx := HH.out (l.getD j 0) (by rw [List.getD_eq_getElem?_getD, List.getElem?_eq_getElem (by omega)]; exact List.getElem_mem _)
        have hw := hexN_ways _ hx
        have hs := hexNum_snoc l j (by omega)
        obtain ⟨m1, m3⟩ := HMX.out j (by omega)
        obtain ⟨m2, _⟩ := HMX.out (j + 1) (by omega)
        rw [hs] at m2
        have HS := Lib.hid hs
        obtain ⟨c, hc⟩ : ∃ c, l.getD j 0 = c := ⟨_, rfl⟩
        rw [hc] at c1 hx hw HS m2
        obtain ⟨v, hv⟩ : ∃ v, M.hexN c = v := ⟨_, rfl⟩
        rw [hv] at hx hw HS m2
        obtain ⟨N, hN2⟩ : ∃ v, M.hexNum (l.take j) = v := ⟨_, rfl⟩
        rw [hN2] at m1 m2 HS ⊢
        obtain ⟨X, hX⟩ : ∃ X : Int, (c.toNat : Int) = X := ⟨_, rfl⟩
        rw [hX] at c1
        have hw2 : (48 ≤ X ∧ X ≤ 57 ∧ (v : Int) = X - 48) ∨ (97 ≤ X ∧ X ≤ 102 ∧ (v : Int) = X - 87) ∨ (65 ≤ X ∧ X ≤ 70 ∧ (v : Int) = X - 55) := by omega
        have m4 : (N : Int) * 16 + v ≤ 65535 := by have := m2; omega
        have m5 : (N : Int) ≤ 65535 := m1
        have m6 : (0 : Int) ≤ N := by omega
        obtain ⟨Z, hZ⟩ : ∃ Z : Int, (N : Int) = Z := ⟨_, rfl⟩
        rw [hZ] at m4 m5 m6 ⊢
        have HZ := Lib.hid hZ
        clear hs hc hv hN2 hX hw m1 m2 m3 hN hZ
        rcases hw2 with ⟨x0, x1, x2⟩ | ⟨x0, x1, x2⟩ | ⟨x0, x1, x2⟩
        · have m4 : Z * 16 + (X - 48) ≤ 65535 := by omega
          have HX2 := Lib.hid x2
          clear x2
          go_wp2
          go_roundw
          case rel => exact ⟨j + 1, by go_num, by omega, rfl, by rw [HS.out]; have := HX2.out; have := HZ.out; congr 1; omega, trivial⟩
          case measure => simp [intOf]; omega
        · have o1 := or32s X x0 x1
          have m4 : Z * 16 + (X - 87) ≤ 65535 := by omega
          have HX2 := Lib.hid x2
          clear x2
          go_wp2
          go_roundw
          case rel => exact ⟨j + 1, by go_num, by omega, rfl, by rw [HS.out]; have := HX2.out; have := HZ.out; congr 1; omega, trivial⟩
          case measure => simp [intOf]; omega
        · have o1 := or32 X x0 x1
          have m4 : Z * 16 + (X - 55) ≤ 65535 := by omega
          have HX2 := Lib.hid x2
          clear x2
          go_wp2
          go_roundw
          case rel => exact ⟨j + 1, by go_num, by omega, rfl, by rw [HS.out]; have := HX2.out; have := HZ.out; congr 1; omega, trivial⟩
          case measure => simp [intOf]; omega
      · obtain rfl : j = n := by omega
        have jf : decide ((j : Int) < j) = false := by simp
        rw [HT.out]
        go_wp2
        go_ret2
        exact ⟨rfl, HBB.out⟩
end Go.Proofs.YtilndlifmpbfnaaDoor
