/- Four digits of sixteen are read, or are none (strconv.ParseUint at base 16, 16 bits). -/
import Derived.Test.YtbfnlgmhfhaglaaGreatDoorJgB
import Derived.Deep.QuietTactic
import Derived.BigQuiet
import Derived.Deep.Cut
import Derived.WalkSmall
namespace Go.Proofs.YtbfnlgmhfhaglaaGreatDoor
open Go.RowKit
set_option linter.unusedVariables false
set_option linter.unusedSimpArgs false

namespace M
/-- A digit of sixteen, as a number; 99 where it is none. -/
def hexC (c : UInt8) : Nat := if 48 ≤ c.toNat ∧ c.toNat ≤ 57 then c.toNat - 48 else if 97 ≤ c.toNat ∧ c.toNat ≤ 102 then c.toNat - 87 else if 65 ≤ c.toNat ∧ c.toNat ≤ 70 then c.toNat - 55 else 99
def hexCs (l : List UInt8) : Nat := l.foldl (fun n c => n * 16 + hexC c) 0
end M
theorem hexC_ways (c : UInt8) (h : M.hexC c < 16) : (48 ≤ c.toNat ∧ c.toNat ≤ 57 ∧ M.hexC c = c.toNat - 48) ∨ (97 ≤ c.toNat ∧ c.toNat ≤ 102 ∧ M.hexC c = c.toNat - 87) ∨ (65 ≤ c.toNat ∧ c.toNat ≤ 70 ∧ M.hexC c = c.toNat - 55) := by
  unfold M.hexC at h ⊢
  split
  · omega
  · split
    · omega
    · split
      · omega
      · rename_i h1 h2 h3; simp [h1, h2, h3] at h
theorem zor32 (c : Int) (h0 : 65 ≤ c) (h1 : c ≤ 70) : bits .or .u8 c 32 = c + 32 := by
  have : c = 65 ∨ c = 66 ∨ c = 67 ∨ c = 68 ∨ c = 69 ∨ c = 70 := by omega
  rcases this with rfl | rfl | rfl | rfl | rfl | rfl <;> decide +kernel
theorem zor32s (c : Int) (h0 : 97 ≤ c) (h1 : c ≤ 102) : bits .or .u8 c 32 = c := by
  have : c = 97 ∨ c = 98 ∨ c = 99 ∨ c = 100 ∨ c = 101 ∨ c = 102 := by omega
  rcases this with rfl | rfl | rfl | rfl | rfl | rfl <;> decide +kernel
theorem hexCs_snoc (l : List UInt8) (j : Nat) (hj : j < l.length) : M.hexCs (l.take (j + 1)) = M.hexCs (l.take j) * 16 + M.hexC (l.getD j 0) := by
  rw [List.take_add_one, List.getElem?_eq_getElem hj, List.getD_eq_getElem?_getD, List.getElem?_eq_getElem hj]
  unfold M.hexCs
  rw [List.foldl_append]
  rfl
theorem hexCs_lt (l : List UInt8) (h : ∀ c ∈ l, M.hexC c < 16) (n : Nat) (hn : n ≤ l.length) : M.hexCs (l.take n) < 16 ^ n := by
  induction n with
  | zero => simp [M.hexCs]
  | succ n ih =>
    rw [hexCs_snoc l n (by omega), Nat.pow_succ]
    have := ih (by omega)
    have h2 := h (l.getD n 0) (by rw [List.getD_eq_getElem?_getD, List.getElem?_eq_getElem (by omega)]; exact List.getElem_mem _)
    omega
theorem hexC_far (c : UInt8) (h : ¬ M.hexC c < 16) : ¬ (48 ≤ c.toNat ∧ c.toNat ≤ 57) ∧ ¬ (97 ≤ c.toNat ∧ c.toNat ≤ 102) ∧ ¬ (65 ≤ c.toNat ∧ c.toNat ≤ 70) := by
  unfold M.hexC at h
  refine ⟨fun h1 => ?_, fun h1 => ?_, fun h1 => ?_⟩
  · rw [if_pos h1] at h; omega
  · rw [if_neg (by omega), if_pos h1] at h; omega
  · rw [if_neg (by omega), if_neg (by omega), if_pos h1] at h; omega
theorem low_all : ∀ c : Fin 256, bits .or .u8 (c.val : Int) 32 = if (65 ≤ c.val ∧ c.val ≤ 90) then (c.val : Int) + 32 else if (97 ≤ c.val ∧ c.val ≤ 122) then (c.val : Int) else bits .or .u8 (c.val : Int) 32 := by decide +kernel
theorem low_far : ∀ c : Fin 256, ¬ (65 ≤ c.val ∧ c.val ≤ 90) → ¬ (97 ≤ c.val ∧ c.val ≤ 122) → bits .or .u8 (c.val : Int) 32 < 97 ∨ 122 < bits .or .u8 (c.val : Int) 32 := by decide +kernel
/-- What the letter in small is, of one that is no digit of sixteen. -/
theorem low_bad (c : UInt8) (X : Int) (hX : (c.toNat : Int) = X) (h : ¬ M.hexC c < 16) : ¬ (48 ≤ X ∧ X ≤ 57) ∧ ∃ o : Int, bits .or .u8 X 32 = o ∧ (o < 97 ∨ 122 < o ∨ (103 ≤ o ∧ o ≤ 122)) := by
  obtain ⟨h1, h2, h3⟩ := hexC_far c h
  subst hX
  have hc := c.toNat_lt
  refine ⟨by omega, _, rfl, ?_⟩
  have a := low_all ⟨c.toNat, hc⟩
  have b := low_far ⟨c.toNat, hc⟩
  dsimp only at a b
  by_cases q1 : 65 ≤ c.toNat ∧ c.toNat ≤ 90
  · rw [if_pos q1] at a; rw [a]; omega
  · by_cases q2 : 97 ≤ c.toNat ∧ c.toNat ≤ 122
    · rw [if_neg q1, if_pos q2] at a; rw [a]; omega
    · rcases b q1 q2 with b | b
      · exact .inl b
      · exact .inr (.inl b)
set_option maxRecDepth 100000 in
set_option maxHeartbeats 4000000 in
theorem zpu_in (l : List UInt8) (w : World) (h0 : l ≠ []) (hl : l.length ≤ 4) (g : Nat) (hg : g ≤ l.length) (h : ∀ k, k < g → M.hexC (l.getD k 0) < 16) (hbad : g < l.length → ¬ M.hexC (l.getD g 0) < 16) (E : Value) (hE : E = if g = l.length then .tuple #[.int .u64 (M.hexCs l : Int), .nilIface] else .tuple #[.int .u64 0, .iface 175 (.int .i64 2)]) :
    Calls Tryz.prog 166 #[.string (bytes l), .int .i64 16, .int .i64 16] w fun e w' => e = .returned E ∧ Below w.heap.size w w' := by
  have hlen : 1 ≤ l.length := by
    cases l with
    | nil => exact absurd rfl h0
    | cons _ _ => simp
  have hmx : ∀ n, n ≤ g → (M.hexCs (l.take n) : Int) ≤ 65535 := by
    intro n hn
    have h1 := hexCs_lt (l.take g) (fun c hc => by
      obtain ⟨k, hk, rfl⟩ := List.getElem_of_mem hc
      have := h k (by simp at hk; omega)
      rw [List.getD_eq_getElem?_getD, List.getElem?_eq_getElem (by simp at hk; omega)] at this
      simpa using this) n (by simp; omega)
    rw [List.take_take, Nat.min_eq_left hn] at h1
    have : 16 ^ n ≤ 16 ^ 4 := Nat.pow_le_pow_right (by decide) (by omega)
    have : (16 : Nat) ^ 4 = 65536 := by decide
    omega
  have hcv := bw_conv w (bytes l)
  have hbs := bw_bs w (bytes l) (by rw [bytes_size]; omega)
  have hbb := bw_below w (bytes l)
  have hbz := bw_size w (bytes l)
  rw [bytes_list] at hbs
  rw [bytes_size] at hcv hbs
  have hne : ((bytes l).toList == []) = false := by rw [ByteArray.toList_eq, bytes_list]; simpa using h0
  obtain ⟨n, hn⟩ : ∃ n, l.length = n := ⟨_, rfl⟩
  rw [hn] at hcv hbs hl hg
  obtain ⟨cp, hcp⟩ : ∃ cap, grownCap w n 0 5 = cap := ⟨_, rfl⟩
  rw [hcp] at hcv hbs
  have hcell : ∀ k, k < n → (Lib.bytesWorld w 5 (bytes l)).cell? ⟨w.heap.size, k, none⟩ = some (.int .u8 ((l.getD k 0).toNat : Int)) := by
    intro k hk
    obtain ⟨a', cap', e, g1, g2, g3⟩ := hbs
    simp only [Value.slice.injEq] at e
    obtain ⟨rfl, -, rfl⟩ := e
    obtain ⟨b, off, e2, _, hc⟩ := g3 (by omega)
    simp only [Option.some.injEq, Addr.mk.injEq, and_true] at e2
    obtain ⟨rfl, rfl⟩ := e2
    have := hc k (by omega)
    rw [Nat.zero_add] at this
    rw [this]; simp [List.getD, show k < l.length by omega]
  obtain ⟨W, hW⟩ : ∃ W, Lib.bytesWorld w 5 (bytes l) = W := ⟨_, rfl⟩
  rw [hW] at hcv hbb hbz hcell
  obtain ⟨S, hS⟩ : ∃ S, bytes l = S := ⟨_, rfl⟩
  rw [hS] at hcv hne ⊢
  have HN := Lib.hid hn
  have HCE := Lib.hid hcell
  have HBB := Lib.hid hbb
  have HMX := Lib.hid hmx
  have HH := Lib.hid h
  have HBAD := Lib.hid hbad
  have HG := Lib.hid hg
  have HE := Lib.hid hE
  rw [hn] at HE HBAD
  have n0 : (n : Int) ≤ 4 := by omega
  have HT := Lib.hid (show l.take n = l by rw [← hn]; exact List.take_of_length_le (Nat.le_refl _))
  clear hn hcell hbb hbz hbs hS hW hcp hmx h h0 hlen hbad hE hl hg
  go_enter Tryz.func166, Tryz.ntmps166
  go_wp2
  go_loopw [12, 13, 101] (fun uv nv iv wr => ∃ j : Nat, iv = .int .i64 (j : Int) ∧ j ≤ g ∧ uv = .bool false ∧ nv = .int .u64 (M.hexCs (l.take j) : Int) ∧ wr = W) (fun _ _ iv _ => n - (intOf iv).toNat)
  case atStart => exact ⟨0, rfl, by omega, rfl, rfl, rfl⟩
  case round =>
    obtain ⟨j, rfl, hj, rfl, rfl, rfl⟩ := hrel
    by_cases hjn : j < g
    · have gn := HG.out
      have c1 := HCE.out j (by omega)
      have j1 : (j : Int) < n := by omega
      have hN := HN.out
      have hx := HH.out j hjn
      have hw := hexC_ways _ hx
      have hs := hexCs_snoc l j (by omega)
      have m1 := HMX.out j (by omega)
      have m2 := HMX.out (j + 1) (by omega)
      rw [hs] at m2
      have HS := Lib.hid hs
      obtain ⟨c, hc⟩ : ∃ c, l.getD j 0 = c := ⟨_, rfl⟩
      rw [hc] at c1 hx hw HS m2
      obtain ⟨v, hv⟩ : ∃ v, M.hexC c = v := ⟨_, rfl⟩
      rw [hv] at hx hw HS m2
      obtain ⟨N, hN2⟩ : ∃ v, M.hexCs (l.take j) = v := ⟨_, rfl⟩
      rw [hN2] at m1 m2 HS ⊢
      obtain ⟨X, hX⟩ : ∃ X : Int, (c.toNat : Int) = X := ⟨_, rfl⟩
      rw [hX] at c1
      have hw2 : (48 ≤ X ∧ X ≤ 57 ∧ (v : Int) = X - 48) ∨ (97 ≤ X ∧ X ≤ 102 ∧ (v : Int) = X - 87) ∨ (65 ≤ X ∧ X ≤ 70 ∧ (v : Int) = X - 55) := by omega
      have m4 : (N : Int) * 16 + v ≤ 65535 := by have := m2; omega
      have m5 : (N : Int) ≤ 65535 := m1
      have m6 : (0 : Int) ≤ N := by omega
      obtain ⟨Z, hZ⟩ : ∃ Z : Int, (N : Int) = Z := ⟨_, rfl⟩
      rw [hZ] at m4 m5 m6 ⊢
      have HZ := Lib.hid hZ
      clear hs hc hv hN2 hX hw m1 m2 hN hZ
      rcases hw2 with ⟨x0, x1, x2⟩ | ⟨x0, x1, x2⟩ | ⟨x0, x1, x2⟩
      · have m4 : Z * 16 + (X - 48) ≤ 65535 := by omega
        have HX2 := Lib.hid x2
        clear x2
        go_wp2
        go_roundw
        case rel => exact ⟨j + 1, by go_num, by omega, rfl, by rw [HS.out]; have := HX2.out; have := HZ.out; congr 1; omega, trivial⟩
        case measure => simp [intOf]; omega
      · have o1 := zor32s X x0 x1
        have m4 : Z * 16 + (X - 87) ≤ 65535 := by omega
        have HX2 := Lib.hid x2
        clear x2
        go_wp2
        go_roundw
        case rel => exact ⟨j + 1, by go_num, by omega, rfl, by rw [HS.out]; have := HX2.out; have := HZ.out; congr 1; omega, trivial⟩
        case measure => simp [intOf]; omega
      · have o1 := zor32 X x0 x1
        have m4 : Z * 16 + (X - 55) ≤ 65535 := by omega
        have HX2 := Lib.hid x2
        clear x2
        go_wp2
        go_roundw
        case rel => exact ⟨j + 1, by go_num, by omega, rfl, by rw [HS.out]; have := HX2.out; have := HZ.out; congr 1; omega, trivial⟩
        case measure => simp [intOf]; omega
    · obtain rfl : j = g := by omega
      by_cases hjn2 : j = n
      · subst hjn2
        have e1 := HE.out
        rw [if_pos rfl] at e1
        have jf : decide ((j : Int) < j) = false := by simp
        rw [HT.out]
        go_wp2
        go_ret2
        exact ⟨by first | rfl | (rw [e1]; rfl), HBB.out⟩
      · have gn := HG.out
        have c1 := HCE.out j (by omega)
        have j1 : (j : Int) < n := by omega
        have hx := HBAD.out (by omega)
        have e1 := HE.out
        rw [if_neg hjn2] at e1
        obtain ⟨c, hc⟩ : ∃ c, l.getD j 0 = c := ⟨_, rfl⟩
        rw [hc] at c1 hx
        obtain ⟨X, hX⟩ : ∃ X : Int, (c.toNat : Int) = X := ⟨_, rfl⟩
        obtain ⟨x1, o, ho, hw⟩ := low_bad c X hX hx
        rw [hX] at c1
        obtain ⟨Z, hZ⟩ : ∃ Z : Int, (M.hexCs (l.take j) : Int) = Z := ⟨_, rfl⟩
        rw [hZ]
        clear hc hx hX hZ
        have x2 : X < 48 ∨ 57 < X := by omega
        clear x1
        rcases x2 with x2 | x2
        all_goals
          rcases hw with hw | hw | ⟨hw, hw3⟩
          all_goals
            go_wp2
            all_goals
              go_ret2
              exact ⟨by first | rfl | (rw [e1]; rfl), HBB.out⟩
end Go.Proofs.YtbfnlgmhfhaglaaGreatDoor
