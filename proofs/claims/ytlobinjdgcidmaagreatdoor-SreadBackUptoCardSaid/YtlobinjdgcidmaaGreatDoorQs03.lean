/- Texts of ours in one: WTied ZHx ZUM ZUN. -/
import Derived.Test.YtlobinjdgcidmaaGreatDoorCards
import Derived.Test.YtlobinjdgcidmaaGreatDoorTie
import Derived.Test.YtlobinjdgcidmaaGreatDoorQs02
import Derived.Deep.DeepHandedRow
import Derived.Deep.DeepWitnessRowRef
import Derived.LaidMore
import Derived.Lib.LaidU8T
import Derived.Lib.LaidTab
import Derived.Lib.TrailingZeros
import Derived.Stop.LaidErr
import Derived.PinnedBridge
import Derived.MakeChecks
import Derived.ChangeOld
import Derived.Deep.QuietTactic
import Derived.BigQuiet
import Derived.Deep.Cut
import Derived.WalkSmall
import Derived.Test.YtlobinjdgcidmaaGreatDoorQs00
/- What the tied rows of chapters 16 and 17 share: the tables of UTF-8, the one of bits and the one that strconv.Itoa reads; a world for the witness. -/
namespace Go.Proofs.YtlobinjdgcidmaaGreatDoor
open Go.RowKit Go.Lib Go.Shelf

def ren : Ren := ⟨fun n => n, fun | 5 => 5 | 119 => 158 | 138 => 160 | 139 => 161 | n => n, fun | 3 => 1 | 4 => 2 | n => n⟩
theorem u8t : U8Types Tryz.prog ren := { t5 := by kernel_rfl, t119 := by kernel_rfl, t138 := by kernel_rfl, t139 := by kernel_rfl }
theorem u8x : U8Extra Tryz.prog ren := { n3 := by kernel_rfl, n4 := by kernel_rfl, y3 := by kernel_rfl, y4 := by kernel_rfl, c5 := by kernel_rfl, c119 := by kernel_rfl, c138 := by kernel_rfl }
def laidList : List (String × DataW Unit) := [("math/bits.deBruijn32tab", Rows.laid_math_bits_deBruijn32tab), ("math/bits.deBruijn64tab", Rows.laid_math_bits_deBruijn64tab), ("internal/strconv.uint64pow10", Rows.laid_internal_strconv_uint64pow10), ("unicode/utf8.acceptRanges", Rows.laid_unicode_utf8_acceptRanges), ("strconv.ErrRange", Rows.laid_strconv_ErrRange), ("strconv.ErrSyntax", Rows.laid_strconv_ErrSyntax), ("unicode/utf8.first", Rows.laid_unicode_utf8_first)]
theorem powD : (Rows.laid_internal_strconv_uint64pow10 : DataW Unit) = tabData .u64 pow10Tab := by kernel_rfl
def bitTab : List Int := List.map (fun n : Nat => (n : Int)) Lib.deBruijn64tab
theorem bitD : (Rows.laid_math_bits_deBruijn64tab : DataW Unit) = tabData .u8 bitTab := by kernel_rfl
theorem tabs_of {W : World} (h : laidMetH Tryz.prog laidList W) : Tabs W := by
  rw [MakeChecks.laidMetH_plain _ _ _ (by kernel_rfl)] at h
  have h1 : VarReads Tryz.prog W "unicode/utf8.acceptRanges" acceptData := by
    have := laidMet.reads h (n := "unicode/utf8.acceptRanges") (d := Rows.laid_unicode_utf8_acceptRanges) (by simp [laidList])
    exact this
  have h2 : VarReads Tryz.prog W "unicode/utf8.first" firstData := by
    have := laidMet.reads h (n := "unicode/utf8.first") (d := Rows.laid_unicode_utf8_first) (by simp [laidList])
    rw [show Rows.laid_unicode_utf8_first = firstData from Pinned.utf8First_eq] at this
    exact this
  have h3 := h.tail
  rw [bitD] at h3
  have h4 := tabIs_of_head (g := 7) (by kernel_rfl) (by kernel_rfl) Tryz.underlying199 Tryz.underlying5 (by kernel_rfl) (by kernel_rfl) h3
  have h6 := h.tail.tail
  rw [powD] at h6
  exact ⟨utf8Tabs_of_readsT u8t u8x h2 h1, tabIs_of_head (g := 3) (by kernel_rfl) (by kernel_rfl) Tryz.underlying188 Tryz.underlying130 (by kernel_rfl) (by kernel_rfl) h6, h4.cell (g := 7) (by kernel_rfl) 15 (by decide)⟩
def firstCells : Array Value := ((List.range 256).map fun i => Value.int .u8 (Lib.firstT i : Int)).toArray
def refill (cs : Array Value) : Obj → Obj
  | .cells _ t frozen => .cells cs t frozen
  | o => o
noncomputable def laidWorld (os : Os) : World :=
  { World.doorLaid Tryz.prog 72 os with heap := (World.doorLaid Tryz.prog 72 os).heap.modify 1 (refill firstCells) }
theorem own : ownKnob Tryz.prog.godebug = none := by kernel_rfl
theorem laidOut : laidOutB Tryz.prog = true := by kernel_rfl
end Go.Proofs.YtlobinjdgcidmaaGreatDoor
/- Four digits of sixteen are read, or are none (strconv.ParseUint at base 16, 16 bits). -/
namespace Go.Proofs.YtlobinjdgcidmaaGreatDoor
open Go.RowKit
set_option linter.unusedVariables false
set_option linter.unusedSimpArgs false

namespace M
def hexC (c : UInt8) : Nat := if 48 ≤ c.toNat ∧ c.toNat ≤ 57 then c.toNat - 48 else if 97 ≤ c.toNat ∧ c.toNat ≤ 102 then c.toNat - 87 else if 65 ≤ c.toNat ∧ c.toNat ≤ 70 then c.toNat - 55 else 99
def hexCs (l : List UInt8) : Nat := l.foldl (fun n c => n * 16 + hexC c) 0
end M
theorem hexC_ways (c : UInt8) (h : M.hexC c < 16) : (48 ≤ c.toNat ∧ c.toNat ≤ 57 ∧ M.hexC c = c.toNat - 48) ∨ (97 ≤ c.toNat ∧ c.toNat ≤ 102 ∧ M.hexC c = c.toNat - 87) ∨ (65 ≤ c.toNat ∧ c.toNat ≤ 70 ∧ M.hexC c = c.toNat - 55) := by
  unfold M.hexC at h ⊢
  split
  · omega
  · split
    · omega
    · split
      · omega
      · rename_i h1 h2 h3; simp [h1, h2, h3] at h
theorem zor32 (c : Int) (h0 : 65 ≤ c) (h1 : c ≤ 70) : bits .or .u8 c 32 = c + 32 := by
  have : c = 65 ∨ c = 66 ∨ c = 67 ∨ c = 68 ∨ c = 69 ∨ c = 70 := by omega
  rcases this with rfl | rfl | rfl | rfl | rfl | rfl <;> decide +kernel
theorem zor32s (c : Int) (h0 : 97 ≤ c) (h1 : c ≤ 102) : bits .or .u8 c 32 = c := by
  have : c = 97 ∨ c = 98 ∨ c = 99 ∨ c = 100 ∨ c = 101 ∨ c = 102 := by omega
  rcases this with rfl | rfl | rfl | rfl | rfl | rfl <;> decide +kernel
theorem hexCs_snoc (l : List UInt8) (j : Nat) (hj : j < l.length) : M.hexCs (l.take (j + 1)) = M.hexCs (l.take j) * 16 + M.hexC (l.getD j 0) := by
  rw [List.take_add_one, List.getElem?_eq_getElem hj, List.getD_eq_getElem?_getD, List.getElem?_eq_getElem hj]
  unfold M.hexCs
  rw [List.foldl_append]
  rfl
theorem hexCs_lt (l : List UInt8) (h : ∀ c ∈ l, M.hexC c < 16) (n : Nat) (hn : n ≤ l.length) : M.hexCs (l.take n) < 16 ^ n := by
  induction n with
  | zero => simp [M.hexCs]
  | succ n ih =>
    rw [hexCs_snoc l n (by omega), Nat.pow_succ]
    have := ih (by omega)
    have h2 := h (l.getD n 0) (by rw [List.getD_eq_getElem?_getD, List.getElem?_eq_getElem (by omega)]; exact List.getElem_mem _)
    omega
theorem hexC_far (c : UInt8) (h : ¬ M.hexC c < 16) : ¬ (48 ≤ c.toNat ∧ c.toNat ≤ 57) ∧ ¬ (97 ≤ c.toNat ∧ c.toNat ≤ 102) ∧ ¬ (65 ≤ c.toNat ∧ c.toNat ≤ 70) := by
  unfold M.hexC at h
  refine ⟨fun h1 => ?_, fun h1 => ?_, fun h1 => ?_⟩
  · rw [if_pos h1] at h; omega
  · rw [if_neg (by omega), if_pos h1] at h; omega
  · rw [if_neg (by omega), if_neg (by omega), if_pos h1] at h; omega
theorem low_all : ∀ c : Fin 256, bits .or .u8 (c.val : Int) 32 = if (65 ≤ c.val ∧ c.val ≤ 90) then (c.val : Int) + 32 else if (97 ≤ c.val ∧ c.val ≤ 122) then (c.val : Int) else bits .or .u8 (c.val : Int) 32 := by decide +kernel
theorem low_far : ∀ c : Fin 256, ¬ (65 ≤ c.val ∧ c.val ≤ 90) → ¬ (97 ≤ c.val ∧ c.val ≤ 122) → bits .or .u8 (c.val : Int) 32 < 97 ∨ 122 < bits .or .u8 (c.val : Int) 32 := by decide +kernel
theorem low_bad (c : UInt8) (X : Int) (hX : (c.toNat : Int) = X) (h : ¬ M.hexC c < 16) : ¬ (48 ≤ X ∧ X ≤ 57) ∧ ∃ o : Int, bits .or .u8 X 32 = o ∧ (o < 97 ∨ 122 < o ∨ (103 ≤ o ∧ o ≤ 122)) := by
  obtain ⟨h1, h2, h3⟩ := hexC_far c h
  subst hX
  have hc := c.toNat_lt
  refine ⟨by omega, _, rfl, ?_⟩
  have a := low_all ⟨c.toNat, hc⟩
  have b := low_far ⟨c.toNat, hc⟩
  dsimp only at a b
  by_cases q1 : 65 ≤ c.toNat ∧ c.toNat ≤ 90
  · rw [if_pos q1] at a; rw [a]; omega
  · by_cases q2 : 97 ≤ c.toNat ∧ c.toNat ≤ 122
    · rw [if_neg q1, if_pos q2] at a; rw [a]; omega
    · rcases b q1 q2 with b | b
      · exact .inl b
      · exact .inr (.inl b)
set_option maxRecDepth 100000 in
set_option maxHeartbeats 4000000 in
theorem zpu_in (l : List UInt8) (w : World) (h0 : l ≠ []) (hl : l.length ≤ 4) (g : Nat) (hg : g ≤ l.length) (h : ∀ k, k < g → M.hexC (l.getD k 0) < 16) (hbad : g < l.length → ¬ M.hexC (l.getD g 0) < 16) (E : Value) (hE : E = if g = l.length then .tuple #[.int .u64 (M.hexCs l : Int), .nilIface] else .tuple #[.int .u64 0, .iface 182 (.int .i64 2)]) :
    Calls Tryz.prog 144 #[.string (bytes l), .int .i64 16, .int .i64 16] w fun e w' => e = .returned E ∧ Below w.heap.size w w' := by
  have hlen : 1 ≤ l.length := by
    cases l with
    | nil => exact absurd rfl h0
    | cons _ _ => simp
  have hmx : ∀ n, n ≤ g → (M.hexCs (l.take n) : Int) ≤ 65535 := by
    intro n hn
    have h1 := hexCs_lt (l.take g) (fun c hc => by
      obtain ⟨k, hk, rfl⟩ := List.getElem_of_mem hc
      have := h k (by simp at hk; omega)
      rw [List.getD_eq_getElem?_getD, List.getElem?_eq_getElem (by simp at hk; omega)] at this
      simpa using this) n (by simp; omega)
    rw [List.take_take, Nat.min_eq_left hn] at h1
    have : 16 ^ n ≤ 16 ^ 4 := Nat.pow_le_pow_right (by decide) (by omega)
    have : (16 : Nat) ^ 4 = 65536 := by decide
    omega
  have hcv := bw_conv w (bytes l)
  have hbs := bw_bs w (bytes l) (by rw [bytes_size]; omega)
  have hbb := bw_below w (bytes l)
  have hbz := bw_size w (bytes l)
  rw [bytes_list] at hbs
  rw [bytes_size] at hcv hbs
  have hne : ((bytes l).toList == []) = false := by rw [ByteArray.toList_eq, bytes_list]; simpa using h0
  obtain ⟨n, hn⟩ : ∃ n, l.length = n := ⟨_, rfl⟩
  rw [hn] at hcv hbs hl hg
  obtain ⟨cp, hcp⟩ : ∃ cap, grownCap w n 0 5 = cap := ⟨_, rfl⟩
  rw [hcp] at hcv hbs
  have hcell : ∀ k, k < n → (Lib.bytesWorld w 5 (bytes l)).cell? ⟨w.heap.size, k, none⟩ = some (.int .u8 ((l.getD k 0).toNat : Int)) := by
    intro k hk
    obtain ⟨a', cap', e, g1, g2, g3⟩ := hbs
    simp only [Value.slice.injEq] at e
    obtain ⟨rfl, -, rfl⟩ := e
    obtain ⟨b, off, e2, _, hc⟩ := g3 (by omega)
    simp only [Option.some.injEq, Addr.mk.injEq, and_true] at e2
    obtain ⟨rfl, rfl⟩ := e2
    have := hc k (by omega)
    rw [Nat.zero_add] at this
    rw [this]; simp [List.getD, show k < l.length by omega]
  obtain ⟨W, hW⟩ : ∃ W, Lib.bytesWorld w 5 (bytes l) = W := ⟨_, rfl⟩
  rw [hW] at hcv hbb hbz hcell
  obtain ⟨S, hS⟩ : ∃ S, bytes l = S := ⟨_, rfl⟩
  rw [hS] at hcv hne ⊢
  have HN := Lib.hid hn
  have HCE := Lib.hid hcell
  have HBB := Lib.hid hbb
  have HMX := Lib.hid hmx
  have HH := Lib.hid h
  have HBAD := Lib.hid hbad
  have HG := Lib.hid hg
  have HE := Lib.hid hE
  rw [hn] at HE HBAD
  have n0 : (n : Int) ≤ 4 := by omega
  have HT := Lib.hid (show l.take n = l by rw [← hn]; exact List.take_of_length_le (Nat.le_refl _))
  clear hn hcell hbb hbz hbs hS hW hcp hmx h h0 hlen hbad hE hl hg
  go_enter Tryz.func144, Tryz.ntmps144
  go_wp2
  go_loopw [12, 13, 101] (fun uv nv iv wr => ∃ j : Nat, iv = .int .i64 (j : Int) ∧ j ≤ g ∧ uv = .bool false ∧ nv = .int .u64 (M.hexCs (l.take j) : Int) ∧ wr = W) (fun _ _ iv _ => n - (intOf iv).toNat)
  case atStart => exact ⟨0, rfl, by omega, rfl, rfl, rfl⟩
  case round =>
    obtain ⟨j, rfl, hj, rfl, rfl, rfl⟩ := hrel
    by_cases hjn : j < g
    · have gn := HG.out
      have c1 := HCE.out j (by omega)
      have j1 : (j : Int) < n := by omega
      have hN := HN.out
      have hx := HH.out j hjn
      have hw := hexC_ways _ hx
      have hs := hexCs_snoc l j (by omega)
      have m1 := HMX.out j (by omega)
      have m2 := HMX.out (j + 1) (by omega)
      rw [hs] at m2
      have HS := Lib.hid hs
      obtain ⟨c, hc⟩ : ∃ c, l.getD j 0 = c := ⟨_, rfl⟩
      rw [hc] at c1 hx hw HS m2
      obtain ⟨v, hv⟩ : ∃ v, M.hexC c = v := ⟨_, rfl⟩
      rw [hv] at hx hw HS m2
      obtain ⟨N, hN2⟩ : ∃ v, M.hexCs (l.take j) = v := ⟨_, rfl⟩
      rw [hN2] at m1 m2 HS ⊢
      obtain ⟨X, hX⟩ : ∃ X : Int, (c.toNat : Int) = X := ⟨_, rfl⟩
      rw [hX] at c1
      have hw2 : (48 ≤ X ∧ X ≤ 57 ∧ (v : Int) = X - 48) ∨ (97 ≤ X ∧ X ≤ 102 ∧ (v : Int) = X - 87) ∨ (65 ≤ X ∧ X ≤ 70 ∧ (v : Int) = X - 55) := by omega
      have m4 : (N : Int) * 16 + v ≤ 65535 := by have := m2; omega
      have m5 : (N : Int) ≤ 65535 := m1
      have m6 : (0 : Int) ≤ N := by omega
      obtain ⟨Z, hZ⟩ : ∃ Z : Int, (N : Int) = Z := ⟨_, rfl⟩
      rw [hZ] at m4 m5 m6 ⊢
      have HZ := Lib.hid hZ
      clear hs hc hv hN2 hX hw m1 m2 hN hZ
      rcases hw2 with ⟨x0, x1, x2⟩ | ⟨x0, x1, x2⟩ | ⟨x0, x1, x2⟩
      · have m4 : Z * 16 + (X - 48) ≤ 65535 := by omega
        have HX2 := Lib.hid x2
        clear x2
        go_wp2
        go_roundw
        case rel => exact ⟨j + 1, by go_num, by omega, rfl, by rw [HS.out]; have := HX2.out; have := HZ.out; congr 1; omega, trivial⟩
        case measure => simp [intOf]; omega
      · have o1 := zor32s X x0 x1
        have m4 : Z * 16 + (X - 87) ≤ 65535 := by omega
        have HX2 := Lib.hid x2
        clear x2
        go_wp2
        go_roundw
        case rel => exact ⟨j + 1, by go_num, by omega, rfl, by rw [HS.out]; have := HX2.out; have := HZ.out; congr 1; omega, trivial⟩
        case measure => simp [intOf]; omega
      · have o1 := zor32 X x0 x1
        have m4 : Z * 16 + (X - 55) ≤ 65535 := by omega
        have HX2 := Lib.hid x2
        clear x2
        go_wp2
        go_roundw
        case rel => exact ⟨j + 1, by go_num, by omega, rfl, by rw [HS.out]; have := HX2.out; have := HZ.out; congr 1; omega, trivial⟩
        case measure => simp [intOf]; omega
    · obtain rfl : j = g := by omega
      by_cases hjn2 : j = n
      · subst hjn2
        have e1 := HE.out
        rw [if_pos rfl] at e1
        have jf : decide ((j : Int) < j) = false := by simp
        rw [HT.out]
        go_wp2
        go_ret2
        exact ⟨by first | rfl | (rw [e1]; rfl), HBB.out⟩
      · have gn := HG.out
        have c1 := HCE.out j (by omega)
        have j1 : (j : Int) < n := by omega
        have hx := HBAD.out (by omega)
        have e1 := HE.out
        rw [if_neg hjn2] at e1
        obtain ⟨c, hc⟩ : ∃ c, l.getD j 0 = c := ⟨_, rfl⟩
        rw [hc] at c1 hx
        obtain ⟨X, hX⟩ : ∃ X : Int, (c.toNat : Int) = X := ⟨_, rfl⟩
        obtain ⟨x1, o, ho, hw⟩ := low_bad c X hX hx
        rw [hX] at c1
        obtain ⟨Z, hZ⟩ : ∃ Z : Int, (M.hexCs (l.take j) : Int) = Z := ⟨_, rfl⟩
        rw [hZ]
        clear hc hx hX hZ
        have x2 : X < 48 ∨ 57 < X := by omega
        clear x1
        rcases x2 with x2 | x2
        all_goals
          rcases hw with hw | hw | ⟨hw, hw3⟩
          all_goals
            go_wp2
            all_goals
              go_ret2
              exact ⟨by first | rfl | (rw [e1]; rfl), HBB.out⟩
end Go.Proofs.YtlobinjdgcidmaaGreatDoor
/- jparse.Units, plain: element by element. Nothing of the program is imported. -/
namespace Go.Proofs.YtlobinjdgcidmaaGreatDoor.M
open Go.Lib
set_option linter.unusedVariables false
set_option linter.unusedSimpArgs false

set_option maxRecDepth 100000 in
set_option maxHeartbeats 4000000 in
/-- A mark behind a text is no part of a code point. -/
theorem dec_quote (s : List UInt8) (h0 : 0 < s.length) : dec (s ++ [34]) = dec s := by
  unfold dec
  obtain ⟨n, hn⟩ : ∃ n, s.length = n := ⟨_, rfl⟩
  have hq : byte (s ++ [34]) n = 34 := by unfold byte; rw [← hn]; simp [List.getD]
  have hs : ∀ i, i < n → byte (s ++ [34]) i = byte s i := fun i hi => byte_append s _ i (by omega)
  rw [List.length_append, hn, hs 0 (by omega)]
  simp only [List.length_cons, List.length_nil, Nat.zero_add]
  generalize byte s 0 = b0
  by_cases n1 : n = 1
  · subst n1
    rw [hq]
    unfold decodeN
    repeat' split
    all_goals first | (exfalso; omega) | rfl
  · rw [hs 1 (by omega)]
    by_cases n2 : n = 2
    · subst n2
      rw [hq]
      unfold decodeN
      repeat' split
      all_goals first | (exfalso; omega) | rfl
    · rw [hs 2 (by omega)]
      by_cases n3 : n = 3
      · subst n3
        rw [hq]
        unfold decodeN
        repeat' split
        all_goals first | (exfalso; omega) | rfl
      · rw [hs 3 (by omega)]
        unfold decodeN
        repeat' split
        all_goals first | (exfalso; omega) | rfl
theorem nx_quote (s : List UInt8) (h0 : 0 < s.length) : nx (s ++ [34]) = nx s := by unfold nx; rw [dec_quote s h0]
def elS (s : List UInt8) : Nat × Nat :=
  if s.getD 0 0 = 92 then
    (if s.length = 1 then (0, 0)
     else if s.getD 1 0 = 117 then (if s.length < 6 then (0, 0) else if hex4ok (s.drop 2) then (hex4 (s.drop 2), 6) else (0, 0))
     else if s.getD 1 0 ∈ escL then (escV (s.getD 1 0), 2) else (0, 0))
  else if (nx s).2.2 = true ∧ 32 ≤ (dec s).1 ∧ (dec s).1 ≠ 34 then dec s else (0, 0)
def Good (t : List UInt8) : Prop := jtS t = some t.length ∧ (validAll t).2 = true
theorem elS_le (s : List UInt8) (h0 : 0 < s.length) : (elS s).2 ≤ s.length := by
  unfold elS
  have := dec_le s h0
  repeat' split
  all_goals first | exact this | (simp only; omega) | exact Nat.zero_le _
theorem hex4_le (t : List UInt8) : hex4 t ≤ 65535 := by
  have h := fun k => hexV_lt (t.getD k 0)
  have h0 := h 0
  have h1 := h 1
  have h2 := h 2
  have h3 := h 3
  unfold hex4 hexN
  omega
theorem escV_le (d : UInt8) : escV d ≤ 255 := by
  have := d.toNat_lt
  unfold escV
  repeat' split
  all_goals omega
theorem elS_val (s : List UInt8) : (elS s).1 ≤ 1114111 := by
  unfold elS
  have h1 := hex4_le (s.drop 2)
  have h2 := escV_le (s.getD 1 0)
  have h3 := dec_rune s
  repeat' split
  all_goals first | (simp only; omega) | exact h3
end Go.Proofs.YtlobinjdgcidmaaGreatDoor.M
/- jparse.Units, plain: what the elements tell is what the page's own reading tells. Nothing of the program is imported. -/
namespace Go.Proofs.YtlobinjdgcidmaaGreatDoor.M
open Go.Lib
set_option linter.unusedVariables false
set_option linter.unusedSimpArgs false

theorem dec_hi (s : List UInt8) (h : ¬ (s.getD 0 0).toNat < 128) : 128 ≤ (dec s).1 := by
  have hb : ¬ byte s 0 < 128 := h
  unfold dec decodeN
  rw [if_neg hb]
  repeat' split
  all_goals (simp only; omega)
theorem hexOk_app (v : List UInt8) (k : Nat) (h : k < v.length) : hexOk (v ++ [34]) k = hexOk v k := by
  have e : (v ++ [34]).getD k 0 = v.getD k 0 := by simp [List.getD, List.getElem?_append_left h]
  unfold hexOk
  rw [e]
theorem hex4ok_app (v : List UInt8) (h : 4 ≤ v.length) : hex4ok (v ++ [34]) = hex4ok v := by
  unfold hex4ok; rw [hexOk_app v 0 (by omega), hexOk_app v 1 (by omega), hexOk_app v 2 (by omega), hexOk_app v 3 (by omega)]
theorem hex4_app (v : List UInt8) (h : 4 ≤ v.length) : hex4 (v ++ [34]) = hex4 v := by
  have e : ∀ k, k < 4 → (v ++ [34]).getD k 0 = v.getD k 0 := fun k hk => by simp [List.getD, List.getElem?_append_left (show k < v.length by omega)]
  unfold hex4 hexN; rw [e 0 (by omega), e 1 (by omega), e 2 (by omega), e 3 (by omega)]
theorem hex4ok_len (v : List UInt8) (h : hex4ok v = true) : 4 ≤ v.length := by
  unfold hex4ok at h
  simp only [Bool.and_eq_true] at h
  have := (hexOk_in _ _ h.2).1
  omega
theorem hex4ok_low (v : List UInt8) (h : hex4ok v = true) : ∀ j, j < 4 → (v.getD j 0).toNat < 128 := by
  unfold hex4ok at h
  simp only [Bool.and_eq_true] at h
  have q0 := hexOk_in _ _ h.1.1.1
  have q1 := hexOk_in _ _ h.1.1.2
  have q2 := hexOk_in _ _ h.1.2
  have q3 := hexOk_in _ _ h.2
  intro j hj
  have : j = 0 ∨ j = 1 ∨ j = 2 ∨ j = 3 := by omega
  rcases this with rfl | rfl | rfl | rfl <;> omega
theorem esc_low (d : UInt8) (h : d ∈ escL) : d.toNat < 128 := by
  unfold escL at h
  simp only [List.mem_cons, List.mem_nil_iff, or_false] at h
  rcases h with rfl | rfl | rfl | rfl | rfl | rfl | rfl | rfl <;> decide
theorem pair_low (n : Nat) (h : n < 65536) : pairU n = [n] := by unfold pairU; rw [if_pos h]
theorem elS_hex (v : List UInt8) : elS (92 :: 117 :: v) = if (92 :: 117 :: v).length < 6 then (0, 0) else if hex4ok v then (hex4 v, 6) else (0, 0) := by
  have h1 : ¬ (92 :: 117 :: v).length = 1 := by simp
  have h2 : ((92 :: 117 :: v : List UInt8).getD 0 0 = 92) := rfl
  have h3 : ((92 :: 117 :: v : List UInt8).getD 1 0 = 117) := rfl
  unfold elS
  rw [if_pos h2, if_neg h1, if_pos h3]
  rfl
theorem elS_esc (d : UInt8) (v : List UInt8) (h : d ≠ 117) : elS (92 :: d :: v) = if d ∈ escL then (escV d, 2) else (0, 0) := by
  have h1 : ¬ (92 :: d :: v).length = 1 := by simp
  have h2 : ((92 :: d :: v : List UInt8).getD 0 0 = 92) := rfl
  have h3 : ¬ ((92 :: d :: v : List UInt8).getD 1 0 = 117) := h
  unfold elS
  rw [if_pos h2, if_neg h1, if_neg h3]
  rfl
theorem elS_cp (c : UInt8) (u : List UInt8) (h : c ≠ 92) : elS (c :: u) = if (nx (c :: u)).2.2 = true ∧ 32 ≤ (dec (c :: u)).1 ∧ (dec (c :: u)).1 ≠ 34 then dec (c :: u) else (0, 0) := by
  have h2 : ¬ ((c :: u : List UInt8).getD 0 0 = 92) := h
  unfold elS
  rw [if_neg h2]
theorem el_fwd (t : List UInt8) (h0 : 0 < t.length) (g : Good (t ++ [34])) :
    0 < (elS t).2 ∧ Good (t.drop (elS t).2 ++ [34]) ∧ ulS (t ++ [34]) = pairU (elS t).1 ++ ulS (t.drop (elS t).2 ++ [34]) := by
  match t, h0 with
  | c :: u, _ =>
    by_cases hc : c = 92
    · subst hc
      have g1 : jtS (92 :: (u ++ [34])) = some ((u ++ [34]).length + 1) := by have := g.1; simpa using this
      have g2 : (validAll (92 :: (u ++ [34]))).2 = true := g.2
      match u with
      | [] =>
        have := jt_esc [34] g1 g2 (by decide)
        simp at this
      | d :: v =>
        by_cases hd : d = 117
        · subst hd
          have k := jt_hex (117 :: v ++ [34]) g1 g2 rfl
          have kl : 4 ≤ v.length := by have := k.1; simp at this; omega
          have k2 : hex4ok v = true := by have := k.2.1; simp only [List.cons_append, List.drop_succ_cons, List.drop_zero] at this; rwa [hex4ok_app v kl] at this
          have hE : elS (92 :: 117 :: v) = (hex4 v, 6) := by
            rw [elS_hex, if_neg (by simp only [List.length_cons]; omega), if_pos k2]
          rw [hE]
          have e5 : (117 :: v ++ [34]).drop 5 = v.drop 4 ++ [34] := by
            simp only [List.cons_append, List.drop_succ_cons]
            exact List.drop_append_of_le_length kl
          have e6 : (92 :: 117 :: v).drop 6 = v.drop 4 := rfl
          simp only
          rw [e6]
          rw [e5] at k
          refine ⟨by omega, ⟨k.2.2.1, k.2.2.2⟩, ?_⟩
          have := ulS_hex (117 :: v ++ [34]) rfl
          rw [e5] at this
          show ulS (92 :: (117 :: v ++ [34])) = _
          rw [this]
          simp only [List.cons_append, List.drop_succ_cons, List.drop_zero]
          rw [hex4_app v kl, pair_low _ (by have := hex4_le v; omega)]
          rfl
        · have k := jt_esc (d :: v ++ [34]) g1 g2 (by simpa using hd)
          have k2 : d ∈ escL := by simpa using k.2.1
          have hE : elS (92 :: d :: v) = (escV d, 2) := by
            rw [elS_esc d v hd, if_pos k2]
          rw [hE]
          have e1 : (d :: v ++ [34]).drop 1 = v ++ [34] := rfl
          have e2 : (92 :: d :: v).drop 2 = v := rfl
          simp only
          rw [e2]
          rw [e1] at k
          refine ⟨by omega, ⟨k.2.2.1, k.2.2.2⟩, ?_⟩
          have := ulS_esc (d :: v ++ [34]) (by simp) (by simpa using hd)
          rw [e1] at this
          show ulS (92 :: (d :: v ++ [34])) = _
          rw [this, pair_low _ (by have := escV_le d; omega)]
          rfl
    · have hc2 : (c :: u ++ [34]).getD 0 0 ≠ 92 := by simpa using hc
      have k := jt_cp (c :: u ++ [34]) g.1 (by simp) g.2 hc2
      rw [nx_quote _ (by simp), dec_quote _ (by simp)] at k
      have kc : c ≠ 34 := by simpa using k.1
      have kd : 32 ≤ c.toNat := by simpa using k.2.1
      have hr : 32 ≤ (dec (c :: u)).1 ∧ (dec (c :: u)).1 ≠ 34 := by
        by_cases hlow : c.toNat < 128
        · have := (nx_ascii (c :: u) (by simp) (by simpa using hlow)).2.2
          simp only [List.getD_cons_zero] at this
          rw [this]
          refine ⟨kd, fun e => kc ?_⟩
          exact UInt8.toNat_inj.mp (by rw [e]; rfl)
        · have := dec_hi (c :: u) (by simpa using hlow)
          exact ⟨by omega, by omega⟩
      have hE : elS (c :: u) = dec (c :: u) := by
        rw [elS_cp c u hc, if_pos ⟨k.2.2.1, hr.1, hr.2⟩]
      rw [hE]
      have hw := dec_width (c :: u)
      have hle := dec_le (c :: u) (by simp)
      have e1 : (c :: u ++ [34]).drop (dec (c :: u)).2 = (c :: u).drop (dec (c :: u)).2 ++ [34] := List.drop_append_of_le_length hle
      rw [e1] at k
      refine ⟨by omega, ⟨k.2.2.2.2.1, k.2.2.2.2.2⟩, ?_⟩
      have := ulS_cp c (u ++ [34]) (by simp) hc
      rw [show c :: (u ++ [34]) = (c :: u) ++ [34] from rfl, dec_quote _ (by simp), e1] at this
      exact this
theorem el_bwd (t : List UInt8) (h0 : 0 < t.length) (hn : 0 < (elS t).2) (g : Good (t.drop (elS t).2 ++ [34])) : Good (t ++ [34]) := by
  match t, h0 with
  | c :: u, _ =>
    by_cases hc : c = 92
    · subst hc
      match u with
      | [] => exact absurd hn (by decide)
      | d :: v =>
        by_cases hd : d = 117
        · subst hd
          have hE : elS (92 :: 117 :: v) = if (92 :: 117 :: v).length < 6 then (0, 0) else if hex4ok v then (hex4 v, 6) else (0, 0) := elS_hex v
          by_cases h6 : (92 :: 117 :: v).length < 6
          · rw [hE, if_pos h6] at hn; exact absurd hn (by decide)
          · rw [hE, if_neg h6] at hn g
            cases h4 : hex4ok v with
            | false => rw [h4] at hn; simp at hn
            | true =>
              rw [h4, if_pos rfl] at g
              have kl := hex4ok_len v h4
              have lo := hex4ok_low v h4
              have e6 : (92 :: 117 :: v).drop 6 = v.drop 4 := rfl
              simp only at g
              rw [e6] at g
              have e5 : (117 :: v ++ [34]).drop 5 = v.drop 4 ++ [34] := by
                simp only [List.cons_append, List.drop_succ_cons]
                exact List.drop_append_of_le_length kl
              have h117 : (117 :: v ++ [34] : List UInt8).getD 0 0 = 117 := rfl
              refine ⟨?_, ?_⟩
              · show jtS (92 :: (117 :: v ++ [34])) = _
                rw [jtS_cons, if_neg (by decide), if_neg (by decide), if_neg (by simp), if_pos h117, e5]
                simp only [List.cons_append, List.drop_succ_cons, List.drop_zero]
                rw [hex4ok_app v kl, h4, if_pos rfl, g.1]
                simp
                omega
              · rw [valid_asciis 6 _ (by simp; omega) (fun j hj => by
                  have : j = 0 ∨ j = 1 ∨ j = 2 ∨ j = 3 ∨ j = 4 ∨ j = 5 := by omega
                  have e : ∀ k, k < 4 → (v ++ [34]).getD k 0 = v.getD k 0 := fun k hk => by simp [List.getD, List.getElem?_append_left (show k < v.length by omega)]
                  rcases this with rfl | rfl | rfl | rfl | rfl | rfl
                  · simp
                  · simp
                  · show ((v ++ [34]).getD 0 0).toNat < 128; rw [e 0 (by omega)]; exact lo 0 (by omega)
                  · show ((v ++ [34]).getD 1 0).toNat < 128; rw [e 1 (by omega)]; exact lo 1 (by omega)
                  · show ((v ++ [34]).getD 2 0).toNat < 128; rw [e 2 (by omega)]; exact lo 2 (by omega)
                  · show ((v ++ [34]).getD 3 0).toNat < 128; rw [e 3 (by omega)]; exact lo 3 (by omega))]
                have : (92 :: 117 :: v ++ [34]).drop 6 = v.drop 4 ++ [34] := e5
                rw [this]
                exact g.2
        · have hE : elS (92 :: d :: v) = if d ∈ escL then (escV d, 2) else (0, 0) := elS_esc d v hd
          by_cases h2 : d ∈ escL
          · rw [hE, if_pos h2] at g
            have e2 : (92 :: d :: v).drop 2 = v := rfl
            simp only at g
            rw [e2] at g
            refine ⟨?_, ?_⟩
            · show jtS (92 :: (d :: v ++ [34])) = _
              rw [jtS_cons, if_neg (by decide), if_neg (by decide), if_neg (by simp), if_neg (by simpa using hd), if_pos (by simpa using h2)]
              show (jtS (v ++ [34])).map _ = _
              rw [g.1]
              simp
            · rw [valid_asciis 2 _ (by simp) (fun j hj => by
                have : j = 0 ∨ j = 1 := by omega
                rcases this with rfl | rfl
                · simp
                · simpa using esc_low d h2)]
              exact g.2
          · rw [hE, if_neg h2] at hn; exact absurd hn (by decide)
    · have hE : elS (c :: u) = if (nx (c :: u)).2.2 = true ∧ 32 ≤ (dec (c :: u)).1 ∧ (dec (c :: u)).1 ≠ 34 then dec (c :: u) else (0, 0) := elS_cp c u hc
      by_cases hk : (nx (c :: u)).2.2 = true ∧ 32 ≤ (dec (c :: u)).1 ∧ (dec (c :: u)).1 ≠ 34
      · rw [hE, if_pos hk] at g
        have hw := dec_width (c :: u)
        have hle := dec_le (c :: u) (by simp)
        have e1 : (c :: u ++ [34]).drop (dec (c :: u)).2 = (c :: u).drop (dec (c :: u)).2 ++ [34] := List.drop_append_of_le_length hle
        refine ⟨?_, ?_⟩
        · by_cases hlow : c.toNat < 128
          · have ha := nx_ascii (c :: u) (by simp) (by simpa using hlow)
            simp only [List.getD_cons_zero] at ha
            rw [ha.2.1] at g
            have h32 : 32 ≤ c.toNat := by rw [← ha.2.2]; exact hk.2.1
            have h34 : c ≠ 34 := fun e => hk.2.2 (by rw [ha.2.2, e]; rfl)
            show jtS (c :: (u ++ [34])) = _
            rw [jtS_cons, if_neg h34, if_neg (by omega), if_pos hc]
            have g1 := g.1
            simp only [List.drop_succ_cons, List.drop_zero] at g1
            rw [g1]
            simp
          · have hcont := dec_cont (c :: u) hk.1
            have hh : ∀ x ∈ (c :: u).take (dec (c :: u)).2, 128 ≤ x.toNat := by
              intro x hx
              obtain ⟨j, hj, rfl⟩ := List.getElem_of_mem hx
              rw [List.getElem_take]
              simp only [List.length_take] at hj
              by_cases hj0 : j = 0
              · subst hj0; simpa using hlow
              · have := hcont j (by omega) (by omega)
                rwa [byte_get _ j (by omega)] at this
            have : c :: u ++ [34] = (c :: u).take (dec (c :: u)).2 ++ ((c :: u).drop (dec (c :: u)).2 ++ [34]) := by rw [← List.append_assoc, List.take_append_drop]
            rw [this, jtS_high _ _ hh, g.1]
            simp only [Option.map_some, List.length_append, List.length_take, List.length_drop, List.length_cons, List.length_nil, Option.some.injEq]
            simp only [List.length_cons] at hle
            omega
        · rw [validAll_step _ (by simp), nx_quote _ (by simp), dec_quote _ (by simp), hk.1, e1, g.2]; rfl
      · rw [hE, if_neg hk] at hn; exact absurd hn (by decide)
def uF : Nat → List UInt8 → Option (List Nat)
  | 0, _ => none
  | f + 1, t => if t.length = 0 then some [] else if (elS t).2 = 0 then none else (uF f (t.drop (elS t).2)).map (pairU (elS t).1 ++ ·)
theorem uF_some (f : Nat) : ∀ (t : List UInt8) (u : List Nat), t.length < f → uF f t = some u → Good (t ++ [34]) ∧ ulS (t ++ [34]) = u := by
  induction f with
  | zero => intro t u h; omega
  | succ f ih =>
    intro t u h hu
    unfold uF at hu
    by_cases h0 : t.length = 0
    · rw [if_pos h0] at hu
      obtain rfl : t = [] := List.eq_nil_of_length_eq_zero h0
      have : u = [] := by simpa using hu.symm
      subst this
      exact ⟨⟨by rw [List.nil_append, jtS_cons, if_pos rfl]; rfl, by decide⟩, ulS_end _ (by simp)⟩
    · rw [if_neg h0] at hu
      by_cases hn : (elS t).2 = 0
      · rw [if_pos hn] at hu; exact absurd hu (by simp)
      · rw [if_neg hn] at hu
        cases hr : uF f (t.drop (elS t).2) with
        | none => rw [hr] at hu; exact absurd hu (by simp)
        | some w =>
          rw [hr] at hu
          have hu2 : pairU (elS t).1 ++ w = u := by simpa using hu
          have := ih _ w (by rw [List.length_drop]; omega) hr
          have gg := el_bwd t (by omega) (by omega) this.1
          refine ⟨gg, ?_⟩
          rw [(el_fwd t (by omega) gg).2.2, this.2, hu2]
theorem uF_none (f : Nat) : ∀ (t : List UInt8), t.length < f → uF f t = none → ¬ Good (t ++ [34]) := by
  induction f with
  | zero => intro t h; omega
  | succ f ih =>
    intro t h hu g
    unfold uF at hu
    by_cases h0 : t.length = 0
    · rw [if_pos h0] at hu; exact absurd hu (by simp)
    · rw [if_neg h0] at hu
      have k := el_fwd t (by omega) g
      rw [if_neg (by omega)] at hu
      cases hr : uF f (t.drop (elS t).2) with
      | none => exact ih _ (by rw [List.length_drop]; omega) hr k.2.1
      | some w => rw [hr] at hu; exact absurd hu (by simp)
theorem jtS_last (l : List UInt8) : ∀ n, jtS l = some n → l.getD (n - 1) 0 = 34 := by
  induction l using jtS.induct with
  | case1 => intro n h; rw [jtS_nil] at h; exact absurd h (by simp)
  | case2 t => intro n h; rw [jtS_cons, if_pos rfl] at h; simp at h; subst h; rfl
  | case3 c t h1 h2 => intro n h; rw [jtS_cons, if_neg h1, if_pos h2] at h; exact absurd h (by simp)
  | case4 c t h1 h2 h3 ih =>
    intro n h; rw [jtS_cons, if_neg h1, if_neg h2, if_pos h3] at h
    cases hh : jtS t with
    | none => rw [hh] at h; exact absurd h (by simp)
    | some m =>
      rw [hh] at h; simp at h
      have := ih m hh
      have hm := jtS_le _ m hh
      subst h
      rw [show m + 1 - 1 = (m - 1) + 1 by omega]
      exact this
  | case5 c t h1 h2 h3 h4 h5 ih =>
    intro n h; rw [jtS_cons, if_neg h1, if_neg h2, if_neg h3, if_pos h4, if_pos h5] at h
    cases hh : jtS (t.drop 5) with
    | none => rw [hh] at h; exact absurd h (by simp)
    | some m =>
      rw [hh] at h; simp at h
      have := ih m hh
      have hm := jtS_le _ m hh
      subst h
      rw [show m + 6 - 1 = (5 + (m - 1)) + 1 by omega, List.getD_cons_succ, ← this]
      simp [List.getD]
  | case6 c t h1 h2 h3 h4 h5 => intro n h; rw [jtS_cons, if_neg h1, if_neg h2, if_neg h3, if_pos h4, if_neg h5] at h; exact absurd h (by simp)
  | case7 c t h1 h2 h3 h4 h5 ih =>
    intro n h; rw [jtS_cons, if_neg h1, if_neg h2, if_neg h3, if_neg h4, if_pos h5] at h
    cases hh : jtS (t.drop 1) with
    | none => rw [hh] at h; exact absurd h (by simp)
    | some m =>
      rw [hh] at h; simp at h
      have := ih m hh
      have hm := jtS_le _ m hh
      subst h
      rw [show m + 2 - 1 = (1 + (m - 1)) + 1 by omega, List.getD_cons_succ, ← this]
      simp [List.getD, Nat.add_comm]
  | case8 c t h1 h2 h3 h4 h5 => intro n h; rw [jtS_cons, if_neg h1, if_neg h2, if_neg h3, if_neg h4, if_neg h5] at h; exact absurd h (by simp)
theorem uF_iff (f : Nat) (t : List UInt8) (hf : t.length < f) : uF f t = if jtS (t ++ [34]) = some (t ++ [34]).length ∧ (validAll (t ++ [34])).2 = true then some (ulS (t ++ [34])) else none := by
  cases h : uF f t with
  | none =>
    have hg : ¬ (jtS (t ++ [34]) = some (t ++ [34]).length ∧ (validAll (t ++ [34])).2 = true) := uF_none _ t hf h
    rw [if_neg hg]
  | some u =>
    have := uF_some _ t u hf h
    have hg : (jtS (t ++ [34]) = some (t ++ [34]).length ∧ (validAll (t ++ [34])).2 = true) := this.1
    rw [if_pos hg, this.2]
end Go.Proofs.YtlobinjdgcidmaaGreatDoor.M
