/- Several texts of ours in one: Dec DRev DSum DAdd DAdd2 NSign NDiv NRead NRead2. -/
import Derived.Test.YtilndlifmpbfnaaDoorBgB
import Derived.Test.YtilndlifmpbfnaaDoorBgD
import Derived.Test.YtilndlifmpbfnaaDoorShelf
import Derived.WalkLawsBesides
import Derived.Sort.WalkB12
import Derived.Sort.WalkC
import Derived.BigRegion
import Derived.WalkSmall
import Derived.Deep.QuietTactic
import Derived.BigQuiet
import Derived.Laws.Concat
import Derived.Below
import Derived.Deep.RegionWith
import Derived.Lib.AppendIntMem
import Derived.Lib.SmallJoins
import Derived.Deep.RegionHeld3
/- Decimals: what the functions of package decimal return that read texts alone. -/
namespace Go.Proofs.YtilndlifmpbfnaaDoor
open Go.RowKit
set_option linter.unusedVariables false

theorem bytes_data (l : List UInt8) : (bytes l).data = l.toArray := rfl
theorem bytes_of (s : ByteArray) : bytes s.data.toList = s := by
  unfold bytes; cases s; simp
theorem bytes_inj {k l : List UInt8} (h : bytes k = bytes l) : k = l := by
  have := congrArg (fun s : ByteArray => s.data.toList) h
  simpa [bytes] using this
theorem ret_i {k : IntKind} {a b : Int} (h : a = b) : Ending.returned (.int k a) = .returned (.int k b) := by rw [h]
theorem hasPre_minus (l : List UInt8) : Lib.hasPrefix l [45] = M.isNeg l := by
  unfold M.isNeg Lib.hasPrefix
  cases l with
  | nil => decide
  | cons c t => rw [Bool.eq_iff_iff]; simp [List.isPrefixOf]; exact ⟨Eq.symm, Eq.symm⟩
theorem trimPre_minus (l : List UInt8) : Lib.trimPrefix l [45] = M.unsign l := by
  unfold Lib.trimPrefix M.unsign
  rw [hasPre_minus]
  unfold M.isNeg
  cases l with
  | nil => rfl
  | cons c t => by_cases h : c = 45 <;> simp [h]
end Go.Proofs.YtilndlifmpbfnaaDoor

/- slices.Reverse at bytes of the call's own. -/
namespace Go.Proofs.YtilndlifmpbfnaaDoor
open Go.RowKit Go.Sort
set_option linter.unusedVariables false

def enc8 (c : UInt8) : Value := .int .u8 (c.toNat : Int)
/-- i exchanges from both ends. -/
def swE (d : Array UInt8) : Nat → Array UInt8
  | 0 => d
  | i + 1 => swp (swE d i) i (d.size - 1 - i)
theorem swp_size (d : Array UInt8) (i j : Nat) : (swp d i j).size = d.size := by simp [swp]
theorem swE_size (d : Array UInt8) (i : Nat) : (swE d i).size = d.size := by
  induction i with
  | zero => rfl
  | succ i ih => rw [swE, swp_size, ih]
theorem swp_get (d : Array UInt8) (i j k : Nat) (hi : i < d.size) (hj : j < d.size) (hk : k < d.size) : (swp d i j)[k]! = if k = j then d[i]! else if k = i then d[j]! else d[k]! := by
  have e1 : ∀ (a : Array UInt8) (m : Nat) (x : UInt8), m < a.size → ∀ k, k < a.size → (a.setIfInBounds m x)[k]! = if k = m then x else a[k]! := by
    intro a m x hm k hk
    by_cases h : k = m
    · subst h; rw [if_pos rfl]; exact getElem!_set_same a k x hm
    · rw [if_neg h, getElem!_pos _ k (by simpa using hk), getElem!_pos a k hk, Array.getElem_setIfInBounds, if_neg (fun hh => h hh.symm)]
  unfold swp
  rw [e1 _ _ _ (by simpa using hj) k (by simpa using hk), e1 _ _ _ hi k hk]
theorem swE_get (d : Array UInt8) (i k : Nat) (hi : 2 * i ≤ d.size) (hk : k < d.size) : (swE d i)[k]! = if k < i ∨ d.size - 1 - k < i then d[d.size - 1 - k]! else d[k]! := by
  induction i generalizing k with
  | zero => simp [swE]
  | succ i ih =>
    have hs := swE_size d i
    rw [swE, swp_get _ _ _ _ (by omega) (by omega) (by omega), ih i (by omega) (by omega), ih (d.size - 1 - i) (by omega) (by omega), ih k (by omega) hk]
    by_cases h1 : k = d.size - 1 - i
    · subst h1
      rw [if_pos rfl, if_neg (by omega), if_pos (by omega), show d.size - 1 - (d.size - 1 - i) = i by omega]
    · rw [if_neg h1]
      by_cases h2 : k = i
      · subst h2
        rw [if_pos rfl, if_neg (by omega), if_pos (by omega)]
      · rw [if_neg h2]
        by_cases h3 : k < i ∨ d.size - 1 - k < i
        · rw [if_pos h3, if_pos (by omega)]
        · rw [if_neg h3, if_neg (by omega)]
theorem swE_rev (d : Array UInt8) : swE d (d.size / 2) = d.reverse := by
  have hs := swE_size d (d.size / 2)
  apply Array.ext
  · rw [hs]; simp
  · intro k h1 h2
    have hk : k < d.size := by omega
    have := swE_get d (d.size / 2) k (by omega) hk
    rw [getElem!_pos _ k h1] at this
    rw [this]
    simp only [Array.getElem_reverse]
    by_cases h3 : k < d.size / 2 ∨ d.size - 1 - k < d.size / 2
    · rw [if_pos h3, getElem!_pos d _ (by omega)]
    · rw [if_neg h3, getElem!_pos d k hk]
      congr 1
      omega

theorem holds_own {B : Nat} {w : World} {g n cap : Nat} {l : List UInt8} (h : OwnB B w (.slice (some ⟨g, 0, none⟩) n cap) l) : n = l.length ∧ Holds enc8 w g 0 l.toArray := by
  have hc := h
  obtain ⟨h1, ⟨h2, _⟩ | ⟨g', cap', cur, he, h2, h3, h4, h5, h6, h7⟩⟩ := h
  · simp at h2
  · simp only [Value.slice.injEq, Option.some.injEq, Addr.mk.injEq, and_true] at he
    obtain ⟨rfl, rfl, rfl⟩ := he
    refine ⟨rfl, fun j hj => ⟨?_, ?_⟩⟩
    · have hj' : j < l.length := by simpa using hj
      have := World.ownsRow.cells hc rfl j (.int .u8 (l[j].toNat : Int)) (by simp [bcells, hj'])
      rw [show (⟨g, 0, none⟩ : Addr).add j = ⟨g, 0 + j, none⟩ by cases j <;> simp [Addr.add]] at this
      rw [this]
      unfold enc8
      rw [getElem!_pos _ j hj]
      simp
    · simp [World.frozen?, h3]

theorem own_put {B : Nat} {w : World} {g n cap : Nat} {l : List UInt8} (h : OwnB B w (.slice (some ⟨g, 0, none⟩) n cap) l) (d : Array UInt8) (hd : d.size = l.length) (q : Nat) :
    OwnB B ((putRow enc8 w g 0 d).drewN q) (.slice (some ⟨g, 0, none⟩) n cap) d.toList ∧ Below B w ((putRow enc8 w g 0 d).drewN q) := by
  obtain ⟨h1, ⟨h2, _⟩ | ⟨g', cap', cur, he, h2, h3, h4, h5, h6, h7⟩⟩ := h
  · simp at h2
  · simp only [Value.slice.injEq, Option.some.injEq, Addr.mk.injEq, and_true] at he
    obtain ⟨rfl, rfl, rfl⟩ := he
    have hlt : g < w.heap.size := (Array.getElem?_eq_some_iff.1 h3).1
    have hput : (putRow enc8 w g 0 d).heap[g]? = some (.cells (putCells enc8 0 d cur) 5 (0, 0)) := by
      unfold putRow mapBlock
      simp only [Array.getElem?_modify, if_true]
      rw [h3]
      rfl
    have hlen : d.toList.length = l.length := by simpa using hd
    refine ⟨⟨by simp [bcells, hd], .inr ⟨g, cap, putCells enc8 0 d cur, by rw [hlen], h2, hput, by rw [hlen]; exact h4, h5, by simp [putCells, h6], ?_⟩⟩, ?_⟩
    · rw [hlen, Nat.mul_one]
      apply List.ext_getElem
      · simp [putCells, bcells, hd, h6]; omega
      · intro k k1 k2
        have hk : k < l.length := by simp [bcells, hd] at k2; omega
        have hk3 : k < d.size := by omega
        simp [putCells, bcells, enc8, hk3]
    · refine ⟨rfl, rfl, rfl, by show w.heap.size ≤ (w.heap.modify g _).size; simp, fun k hk => ?_⟩
      show (w.heap.modify g _)[k]? = _
      rw [Array.getElem?_modify, if_neg (by omega)]

end Go.Proofs.YtilndlifmpbfnaaDoor

/- Decimals: adding and taking off, digit by digit; a row of digits with a sign; which is a decimal, which of two is less. -/
namespace Go.Proofs.YtilndlifmpbfnaaDoor
open Go.RowKit
set_option linter.unusedVariables false

theorem one_digit (w : World) (d : Nat) (v : Value) (h : v = .int .u8 ((M.ofD d).toNat : Int)) : Bs (w.alloc (.cells #[v] 5)) (.slice (some ⟨w.heap.size, 0, none⟩) 1 1) [M.ofD d] := by
  subst h; exact bs_cells_new w [M.ofD d] _ 1 rfl rfl (by simp)
theorem ofD_val (d : Nat) (x : Int) (h : x = 48 + (d % 10 : Nat)) : Value.int .u8 x = .int .u8 ((M.ofD d).toNat : Int) := by
  rw [M.ofD_nat, h]; congr 1

end Go.Proofs.YtilndlifmpbfnaaDoor

/- Decimals: what signed, Right, lessDigits, Add and Less return. -/
namespace Go.Proofs.YtilndlifmpbfnaaDoor
open Go.RowKit
set_option linter.unusedVariables false

theorem strip_len (l : List UInt8) : (M.strip l).length ≤ l.length := by
  unfold M.strip; exact (List.dropWhile_sublist _).length_le
theorem toList_bytes (l : List UInt8) : (bytes l).toList = l := by
  rw [ByteArray.toList_eq]; simp [bytes]
theorem unsign_len (l : List UInt8) : (M.unsign l).length ≤ l.length := by
  unfold M.unsign; split <;> simp
theorem dless_iff (k l : List UInt8) : Op.bytesLess k l = decide (k < l) := by
  induction k generalizing l with
  | nil => cases l <;> simp [Op.bytesLess]
  | cons a k ih =>
    cases l with
    | nil => simp [Op.bytesLess]
    | cons b l =>
      simp only [Op.bytesLess, ih, List.cons_lt_cons_iff]
      by_cases h1 : a < b
      · simp [h1]
      · by_cases h2 : a = b
        · subst h2; simp [h1]
        · simp [h1, h2]
end Go.Proofs.YtilndlifmpbfnaaDoor

/- Decimals: what Add and Less return, for any two texts. -/
namespace Go.Proofs.YtilndlifmpbfnaaDoor
open Go.RowKit
set_option linter.unusedVariables false

def strB (r : List UInt8 × Bool) : Value := .tuple #[.string (bytes r.1), .bool r.2]
end Go.Proofs.YtilndlifmpbfnaaDoor

/- Numbers: a sign, and digits, cut off a text. -/
namespace Go.Proofs.YtilndlifmpbfnaaDoor
open Go.RowKit
set_option linter.unusedVariables false
set_option linter.unusedSimpArgs false

theorem ext_b (l : List UInt8) (i j : Nat) : (bytes l).extract i j = bytes ((l.drop i).take (j - i)) := by
  apply ByteArray.ext
  simp [bytes, List.extract_toArray, List.extract]
theorem ext_from (l : List UInt8) (i : Nat) : (bytes l).extract i l.length = bytes (l.drop i) := by
  rw [ext_b, List.take_of_length_le (by simp)]
theorem ext_to (l : List UInt8) (j : Nat) : (bytes l).extract 0 j = bytes (l.take j) := by
  rw [ext_b]; simp
theorem hasPre_one (l : List UInt8) (c : UInt8) : Lib.hasPrefix l [c] = (l.head? == some c) := by
  unfold Lib.hasPrefix
  cases l with
  | nil => rfl
  | cons a t => rw [Bool.eq_iff_iff]; simp [List.isPrefixOf]; exact ⟨Eq.symm, Eq.symm⟩
theorem ret_bs {a b : ByteArray} {c d : Bool} (h : a = b) (h2 : c = d) : Ending.returned (.tuple #[.bool c, .string a]) = .returned (.tuple #[.bool d, .string b]) := by rw [h, h2]
theorem ret_ss {a b c d : ByteArray} (h : a = b) (h2 : c = d) : Ending.returned (.tuple #[.string a, .string c]) = .returned (.tuple #[.string b, .string d]) := by rw [h, h2]
theorem dg_get (l : List UInt8) : ∀ k, (k < (M.dg l).length → ∃ h : k < l.length, M.dig l[k] = true) ∧ (k = (M.dg l).length → ∀ h : k < l.length, M.dig l[k] = false) := by
  intro k
  have e := M.dg_rs l
  obtain ⟨D, hD⟩ : ∃ D, M.dg l = D := ⟨_, rfl⟩
  obtain ⟨R, hR⟩ : ∃ D, M.rs l = D := ⟨_, rfl⟩
  have hd := M.dg_dig l
  have hr := M.rs_head l
  rw [hD] at e hd ⊢
  rw [hR] at e hr
  subst e
  refine ⟨fun h => ⟨by simp; omega, ?_⟩, fun h hk => ?_⟩
  · rw [List.getElem_append_left h]; exact hd _ (List.getElem_mem h)
  · subst h
    rw [List.getElem_append_right (Nat.le_refl _)]
    simp only [Nat.sub_self]
    cases R with
    | nil => simp at hk
    | cons c t => exact hr c rfl
theorem dg_take (l : List UInt8) : l.take (M.dg l).length = M.dg l ∧ l.drop (M.dg l).length = M.rs l := by
  have h1 := List.take_left (l₁ := M.dg l) (l₂ := M.rs l)
  have h2 := List.drop_left (l₁ := M.dg l) (l₂ := M.rs l)
  rw [M.dg_rs l] at h1 h2
  exact ⟨h1, h2⟩
end Go.Proofs.YtilndlifmpbfnaaDoor

/- Numbers: a text divided into its parts. -/
namespace Go.Proofs.YtilndlifmpbfnaaDoor
open Go.RowKit
set_option linter.unusedVariables false
set_option linter.unusedSimpArgs false

def partsV (p : M.Parts) : Array Value := #[.bool p.1, .string (bytes p.2.1), .string (bytes p.2.2.1), .bool p.2.2.2.1, .bool p.2.2.2.2.1, .string (bytes p.2.2.2.2.2)]
theorem below_drewN {B : Nat} {a w : World} (h : Below B a w) (n : Nat) : Below B a (w.drewN n) := ⟨h.os, h.tape, h.output, h.size, h.block⟩
theorem csign_len (l : List UInt8) (p : Bool) (k : List UInt8) (h : M.csign l = (p, k)) : k.length ≤ l.length := by
  unfold M.csign at h
  split at h
  · simp only [Prod.mk.injEq] at h; rw [← h.2]; simp
  · simp only [Prod.mk.injEq] at h; rw [← h.2]; exact unsign_len l
theorem rs_len (l k : List UInt8) (h : M.rs l = k) : k.length ≤ l.length := by
  rw [← h]; unfold M.rs; exact (List.dropWhile_sublist _).length_le
theorem dg_len (l k : List UInt8) (h : M.dg l = k) : k.length ≤ l.length := by
  rw [← h]; unfold M.dg; exact (List.takeWhile_sublist _).length_le
theorem str_nil (S : ByteArray) (l : List UInt8) (h : bytes l = S) (h0 : l = []) : S.toList = [] ∧ S.toList.isEmpty = true ∧ (!S.toList.isEmpty) = false := by
  rw [← h, toList_bytes, h0]; exact ⟨rfl, rfl, rfl⟩
theorem str_ne (S : ByteArray) (l : List UInt8) (h : bytes l = S) (h0 : l ≠ []) : S.toList.isEmpty = false ∧ (!S.toList.isEmpty) = true ∧ 1 ≤ S.size := by
  rw [← h, toList_bytes, bytes_size]
  have := List.length_pos_iff.2 h0
  cases l with
  | nil => exact absurd rfl h0
  | cons c t => exact ⟨rfl, rfl, by simp⟩
theorem agg6 {a0 b0 a3 b3 a4 b4 : Bool} {a1 b1 a2 b2 a5 b5 : ByteArray} {c d : Bool} (h0 : a0 = b0) (h1 : a1 = b1) (h2 : a2 = b2) (h3 : a3 = b3) (h4 : a4 = b4) (h5 : a5 = b5) (h6 : c = d) :
    Ending.returned (.tuple #[.agg #[.bool a0, .string a1, .string a2, .bool a3, .bool a4, .string a5], .bool c]) = .returned (.tuple #[.agg #[.bool b0, .string b1, .string b2, .bool b3, .bool b4, .string b5], .bool d]) := by rw [h0, h1, h2, h3, h4, h5, h6]
end Go.Proofs.YtilndlifmpbfnaaDoor
/- Numbers: a text is read. -/
namespace Go.Proofs.YtilndlifmpbfnaaDoor
open Go.RowKit
set_option linter.unusedVariables false
set_option linter.unusedSimpArgs false

def numV (n : M.NumV) : Array Value := #[.bool n.1, .string (bytes n.2.1), .string (bytes n.2.2)]
/-- The table that strconv.Itoa reads is as its initialiser lays it. -/
def Tabs (w : World) : Prop := Lib.TabIs Tryd.prog w "internal/strconv.uint64pow10" .u64 Lib.pow10Tab
theorem Tabs.keep {w w' : World} (h : Tabs w) (hb : Below w.heap.size w w') : Tabs w' :=
  Joins.tab_stays (g := 2) (by kernel_rfl) h hb (Nat.le_refl _)
theorem Tabs.p {w : World} (h : Tabs w) : Lib.TabIs Tryd.prog w "internal/strconv.uint64pow10" .u64 Lib.pow10Tab := h
theorem bcell {W w1 : World} (hb : Below W.heap.size W w1) : (∀ b o, b < W.heap.size → w1.cell? ⟨b, o, none⟩ = W.cell? ⟨b, o, none⟩) ∧ (∀ b o, b < W.heap.size → w1.frozen? ⟨b, o, none⟩ = W.frozen? ⟨b, o, none⟩) :=
  ⟨fun b o h => hb.cell (p := ⟨b, o, none⟩) h, fun b o h => hb.frozen (p := ⟨b, o, none⟩) h⟩
theorem decD (u : Nat) : Lib.decDigits u = M.decS u := by
  induction u using Nat.strongRecOn with
  | ind u ih =>
    rw [Lib.decDigits]
    by_cases h : u < 10
    · rw [dif_pos h, M.decS_small u (by omega)]
      unfold M.ofD
      rw [show u % 10 = u by omega]
    · rw [dif_neg h, ih (u / 10) (by omega), M.decS_step u (by omega)]
      rfl
theorem itoa_txt (z : Int) : Lib.itoa z = M.txt z := by
  unfold Lib.itoa
  rw [decD, decD]
  rcases M.txt_cases z with ⟨h, e⟩ | ⟨h, e⟩
  · rw [if_neg (by omega), e, show z.toNat = z.natAbs by omega]
  · rw [if_pos h, e]
theorem itoa_any (z : Int) (w : World) (h1 : -100000000 ≤ z) (h2 : z ≤ 100000000) (hT : Tabs w) :
    Calls Tryd.prog 61 #[.int .i64 z] w fun e w' => e = .returned (.string (bytes (M.txt z))) ∧ Below w.heap.size w w' := by
  have h := Tryd.strconv_Itoa z (by omega) (by omega) w hT.p
  rw [itoa_txt] at h
  exact h.mono fun e w' ⟨he, k, os, hw⟩ => ⟨he, by rw [hw]; exact Lib.below_grow _ _ (Nat.le_refl _) _ _⟩
end Go.Proofs.YtilndlifmpbfnaaDoor

/- Numbers: a text is read, whole. -/
namespace Go.Proofs.YtilndlifmpbfnaaDoor
open Go.RowKit
set_option linter.unusedVariables false
set_option linter.unusedSimpArgs false

theorem divW_dig (l : List UInt8) (p : M.Parts) (h : M.divW l = (p, true)) : (∀ c ∈ p.2.1 ++ p.2.2.1, M.dig c = true) ∧ (∀ c ∈ p.2.2.2.2.2, M.dig c = true) ∧ (p.2.1 ++ p.2.2.1).length ≤ l.length ∧ p.2.2.2.2.2.length ≤ l.length := by
  obtain ⟨a, s1, hcs⟩ : ∃ a s1, M.csign l = (a, s1) := ⟨_, _, rfl⟩
  have l1 := csign_len l a s1 hcs
  have e1 := congrArg List.length (M.dg_rs s1)
  rw [List.length_append] at e1
  have hE : ∀ (F s3 : List UInt8), (∀ c ∈ F, M.dig c = true) → (M.dg s1).length + F.length + s3.length ≤ l.length → M.divE a (M.dg s1) F s3 = (p, true) → (∀ c ∈ p.2.1 ++ p.2.2.1, M.dig c = true) ∧ (∀ c ∈ p.2.2.2.2.2, M.dig c = true) ∧ (p.2.1 ++ p.2.2.1).length ≤ l.length ∧ p.2.2.2.2.2.length ≤ l.length := by
    intro F s3 hF hle h
    unfold M.divE at h
    have hd : ∀ c ∈ M.dg s1 ++ F, M.dig c = true := fun c hc => (List.mem_append.1 hc).elim (M.dg_dig s1 c) (hF c)
    split at h
    · simp only [Prod.mk.injEq] at h
      obtain ⟨rfl, _⟩ := h
      have h2 := csign_len s3.tail _ _ rfl
      have h3 := dg_len (M.csign s3.tail).2 _ rfl
      refine ⟨hd, M.dg_dig _, by simp only [List.length_append]; omega, ?_⟩
      simp only
      have h4 : s3.tail.length ≤ s3.length := by simp
      exact Nat.le_trans h3 (Nat.le_trans h2 (by omega))
    · simp only [Prod.mk.injEq] at h
      obtain ⟨rfl, _⟩ := h
      exact ⟨hd, by simp, by simp only [List.length_append]; omega, by simp⟩
  unfold M.divW at h
  rw [hcs] at h
  simp only at h
  split at h
  · split at h
    · simp at h
    · refine hE _ _ (M.dg_dig _) ?_ h
      have e2 := congrArg List.length (M.dg_rs (M.rs s1).tail)
      rw [List.length_append] at e2
      have : (M.rs s1).tail.length ≤ (M.rs s1).length := by simp
      omega
  · split at h
    · simp at h
    · exact hE [] _ (by simp) (by simp only [List.length_nil]; omega) h
theorem agg3 {a0 b0 : Bool} {a1 b1 a2 b2 : ByteArray} {c d : Bool} (h0 : a0 = b0) (h1 : a1 = b1) (h2 : a2 = b2) (h6 : c = d) :
    Ending.returned (.tuple #[.agg #[.bool a0, .string a1, .string a2], .bool c]) = .returned (.tuple #[.agg #[.bool b0, .string b1, .string b2], .bool d]) := by rw [h0, h1, h2, h6]
/-- A row of three cells, laid ahead of a call that turns nothing of what was there. -/
theorem keep3 {w w1 : World} {c0 c1 c2 : Value} {T : TypeId} (h : Below (w.alloc (.cells #[c0, c1, c2] T)).heap.size (w.alloc (.cells #[c0, c1, c2] T)) w1) :
    (w1.cell? ⟨w.heap.size, 0, none⟩ = some c0 ∧ w1.cell? ⟨w.heap.size, 1, none⟩ = some c1 ∧ w1.cell? ⟨w.heap.size, 2, none⟩ = some c2) ∧
    (w1.frozen? ⟨w.heap.size, 0, none⟩ = false ∧ w1.frozen? ⟨w.heap.size, 1, none⟩ = false ∧ w1.frozen? ⟨w.heap.size, 2, none⟩ = false) ∧ w.heap.size < w1.heap.size ∧ Below w.heap.size w w1 := by
  obtain ⟨hc, hf⟩ := bcell h
  have hs := h.size
  simp only [World.size_alloc] at hs
  refine ⟨⟨?_, ?_, ?_⟩, ⟨?_, ?_, ?_⟩, by omega, ((Below.refl _ _).alloc (Nat.le_refl _) _).trans (h.mono (by simp))⟩
  · rw [hc _ _ (by simp), World.cell?_alloc_at _ _ _ _ rfl]; rfl
  · rw [hc _ _ (by simp), World.cell?_alloc_at _ _ _ _ rfl]; rfl
  · rw [hc _ _ (by simp), World.cell?_alloc_at _ _ _ _ rfl]; rfl
  · rw [hf _ _ (by simp)]; exact World.frozen?_alloc_at _ _ _ _ rfl
  · rw [hf _ _ (by simp)]; exact World.frozen?_alloc_at _ _ _ _ rfl
  · rw [hf _ _ (by simp)]; exact World.frozen?_alloc_at _ _ _ _ rfl
end Go.Proofs.YtilndlifmpbfnaaDoor
