/- The walk of CspellUnits. -/
import Derived.Test.YtbmfoedglhfcaaaGreatDoorWAlive
import Derived.Test.YtbmfoedglhfcaaaGreatDoorWTied
import Derived.Test.YtbmfoedglhfcaaaGreatDoorMgY
namespace Go.Proofs.YtbmfoedglhfcaaaGreatDoor
open Go.RowKit
set_option linter.unusedVariables false
set_option linter.unusedSimpArgs false

/-- A block that holds a row of cells. -/
def CBt (w : World) (b : Nat) (cs : Array Value) (t : TypeId) : Prop := w.heap[b]? = some (.cells cs t (0, 0))
theorem CBt.lt {w : World} {b : Nat} {cs : Array Value} {t : TypeId} (h : CBt w b cs t) : b < w.heap.size := (Array.getElem?_eq_some_iff.1 h).1
theorem CBt.keep {w w' : World} {b : Nat} {cs : Array Value} {t : TypeId} (h : CBt w b cs t) {B : Nat} (hb : Below B w w') (hB : b < B) : CBt w' b cs t := by
  unfold CBt; rw [hb.block b hB]; exact h
theorem CBt.new (w : World) (cs : Array Value) (t : TypeId) : CBt (w.alloc (.cells cs t)) w.heap.size cs t := heap_alloc_new w _
theorem CBt.cell {w : World} {b : Nat} {cs : Array Value} {t : TypeId} (h : CBt w b cs t) (j : Nat) : w.cell? ⟨b, j, none⟩ = cs[j]? := cell_of_row w b j cs _ _ h
theorem us0 : M.unitS [112, 120] = [112, 120] := by
  unfold M.unitS
  rw [if_neg (by decide +kernel), pn_lit [112, 120] _ (by decide +kernel) (by decide +kernel)]
  decide +kernel
theorem us1 : M.unitS [101] = [101] := by
  unfold M.unitS
  rw [if_neg (by decide +kernel), pn_lit [101] _ (by decide +kernel) (by decide +kernel)]
  decide +kernel
theorem us2 : M.unitS [101, 51] = [92, 54, 53, 32, 51] := by
  unfold M.unitS
  rw [if_pos (by decide +kernel), show ([101, 51] : List UInt8).drop 1 = [51] from rfl, pn_lit [51] _ (by decide +kernel) (by decide +kernel)]
  decide +kernel
theorem us3 : M.unitS [69, 51] = [92, 52, 53, 32, 51] := by
  unfold M.unitS
  rw [if_pos (by decide +kernel), show ([69, 51] : List UInt8).drop 1 = [51] from rfl, pn_lit [51] _ (by decide +kernel) (by decide +kernel)]
  decide +kernel
theorem us4 : M.unitS [101, 45, 51] = [92, 54, 53, 32, 45, 51] := by
  unfold M.unitS
  rw [if_pos (by decide +kernel), show ([101, 45, 51] : List UInt8).drop 1 = [45, 51] from rfl, pn_lit [45, 51] _ (by decide +kernel) (by decide +kernel)]
  decide +kernel
theorem us5 : M.unitS [69, 45, 97] = [69, 45, 97] := by
  unfold M.unitS
  rw [if_neg (by decide +kernel), pn_lit [69, 45, 97] _ (by decide +kernel) (by decide +kernel)]
  decide +kernel
theorem us6 : M.unitS [101, 45] = [101, 45] := by
  unfold M.unitS
  rw [if_neg (by decide +kernel), pn_lit [101, 45] _ (by decide +kernel) (by decide +kernel)]
  decide +kernel
theorem us7 : M.unitS [101, 120] = [101, 120] := by
  unfold M.unitS
  rw [if_neg (by decide +kernel), pn_lit [101, 120] _ (by decide +kernel) (by decide +kernel)]
  decide +kernel
theorem us8 : M.unitS [45] = [92, 45] := by
  unfold M.unitS
  rw [if_neg (by decide +kernel), pn_lit [45] _ (by decide +kernel) (by decide +kernel)]
  decide +kernel
theorem us9 : M.unitS [45, 45] = [45, 45] := by
  unfold M.unitS
  rw [if_neg (by decide +kernel), pn_lit [45, 45] _ (by decide +kernel) (by decide +kernel)]
  decide +kernel
theorem us10 : M.unitS [45, 97] = [45, 97] := by
  unfold M.unitS
  rw [if_neg (by decide +kernel), pn_lit [45, 97] _ (by decide +kernel) (by decide +kernel)]
  decide +kernel
theorem us11 : M.unitS [120, 51] = [120, 51] := by
  unfold M.unitS
  rw [if_neg (by decide +kernel), pn_lit [120, 51] _ (by decide +kernel) (by decide +kernel)]
  decide +kernel
theorem us12 : M.unitS [49] = [92, 51, 49, 32] := by
  unfold M.unitS
  rw [if_neg (by decide +kernel), pn_lit [49] _ (by decide +kernel) (by decide +kernel)]
  decide +kernel
theorem us13 : M.unitS [37] = [92, 37] := by
  unfold M.unitS
  rw [if_neg (by decide +kernel), pn_lit [37] _ (by decide +kernel) (by decide +kernel)]
  decide +kernel
theorem us14 : M.unitS [101, 195, 169] = [101, 195, 169] := by
  unfold M.unitS
  rw [if_neg (by decide +kernel), pn_lit [101, 233] _ (by decide +kernel) (by decide +kernel)]
  decide +kernel
def unL : List (List UInt8) := [[112, 120], [101], [101, 51], [69, 51], [101, 45, 51], [69, 45, 97], [101, 45], [101, 120], [45], [45, 45], [45, 97], [120, 51], [49], [37], [101, 195, 169]]
def urL : List (List UInt8) := [[112, 120], [101], [92, 54, 53, 32, 51], [92, 52, 53, 32, 51], [92, 54, 53, 32, 45, 51], [69, 45, 97], [101, 45], [101, 120], [92, 45], [45, 45], [45, 97], [120, 51], [92, 51, 49, 32], [92, 37], [101, 195, 169]]
theorem us_all (j : Nat) (h : j < 15) : M.unitS (unL.getD j []) = urL.getD j [] ∧ M.cleanS (unL.getD j []) = true ∧ unL.getD j [] ≠ [] ∧ (unL.getD j []).length ≤ 3 ∧ (urL.getD j []).length ≤ 6 :=
  match j, h with
  | 0, _ => ⟨us0, by decide +kernel, by decide, by decide, by decide⟩
  | 1, _ => ⟨us1, by decide +kernel, by decide, by decide, by decide⟩
  | 2, _ => ⟨us2, by decide +kernel, by decide, by decide, by decide⟩
  | 3, _ => ⟨us3, by decide +kernel, by decide, by decide, by decide⟩
  | 4, _ => ⟨us4, by decide +kernel, by decide, by decide, by decide⟩
  | 5, _ => ⟨us5, by decide +kernel, by decide, by decide, by decide⟩
  | 6, _ => ⟨us6, by decide +kernel, by decide, by decide, by decide⟩
  | 7, _ => ⟨us7, by decide +kernel, by decide, by decide, by decide⟩
  | 8, _ => ⟨us8, by decide +kernel, by decide, by decide, by decide⟩
  | 9, _ => ⟨us9, by decide +kernel, by decide, by decide, by decide⟩
  | 10, _ => ⟨us10, by decide +kernel, by decide, by decide, by decide⟩
  | 11, _ => ⟨us11, by decide +kernel, by decide, by decide, by decide⟩
  | 12, _ => ⟨us12, by decide +kernel, by decide, by decide, by decide⟩
  | 13, _ => ⟨us13, by decide +kernel, by decide, by decide, by decide⟩
  | 14, _ => ⟨us14, by decide +kernel, by decide, by decide, by decide⟩
  | n + 15, h => absurd h (by omega)
def unA : Array Value := #[.string ⟨#[112, 120]⟩, .string ⟨#[101]⟩, .string ⟨#[101, 51]⟩, .string ⟨#[69, 51]⟩, .string ⟨#[101, 45, 51]⟩, .string ⟨#[69, 45, 97]⟩, .string ⟨#[101, 45]⟩, .string ⟨#[101, 120]⟩, .string ⟨#[45]⟩, .string ⟨#[45, 45]⟩, .string ⟨#[45, 97]⟩, .string ⟨#[120, 51]⟩, .string ⟨#[49]⟩, .string ⟨#[37]⟩, .string ⟨#[101, 195, 169]⟩]
def urA : Array Value := #[.string ⟨#[112, 120]⟩, .string ⟨#[101]⟩, .string ⟨#[92, 54, 53, 32, 51]⟩, .string ⟨#[92, 52, 53, 32, 51]⟩, .string ⟨#[92, 54, 53, 32, 45, 51]⟩, .string ⟨#[69, 45, 97]⟩, .string ⟨#[101, 45]⟩, .string ⟨#[101, 120]⟩, .string ⟨#[92, 45]⟩, .string ⟨#[45, 45]⟩, .string ⟨#[45, 97]⟩, .string ⟨#[120, 51]⟩, .string ⟨#[92, 51, 49, 32]⟩, .string ⟨#[92, 37]⟩, .string ⟨#[101, 195, 169]⟩]
theorem un_at (j : Nat) (h : j < 15) : unA[j]? = some (.string (bytes (unL.getD j []))) :=
  match j, h with
  | 0, _ => rfl
  | 1, _ => rfl
  | 2, _ => rfl
  | 3, _ => rfl
  | 4, _ => rfl
  | 5, _ => rfl
  | 6, _ => rfl
  | 7, _ => rfl
  | 8, _ => rfl
  | 9, _ => rfl
  | 10, _ => rfl
  | 11, _ => rfl
  | 12, _ => rfl
  | 13, _ => rfl
  | 14, _ => rfl
  | n + 15, h => absurd h (by omega)
theorem ur_at (j : Nat) (h : j < 15) : urA[j]? = some (.string (bytes (urL.getD j []))) :=
  match j, h with
  | 0, _ => rfl
  | 1, _ => rfl
  | 2, _ => rfl
  | 3, _ => rfl
  | 4, _ => rfl
  | 5, _ => rfl
  | 6, _ => rfl
  | 7, _ => rfl
  | 8, _ => rfl
  | 9, _ => rfl
  | 10, _ => rfl
  | 11, _ => rfl
  | 12, _ => rfl
  | 13, _ => rfl
  | 14, _ => rfl
  | n + 15, h => absurd h (by omega)
set_option maxRecDepth 100000 in
set_option maxHeartbeats 4000000 in
theorem units_main (j : Nat) (x1 : Bool) (s1 t1 : ByteArray) (w : World) (hj : j < 15) (h1 : s1.size ≤ 100) (h2 : t1.size ≤ 6) (hT : Tabs w) :
    Calls Tryz.prog 7 #[.int .i64 (j : Int), .agg #[.bool x1, .string s1, .string t1]] w fun e w' => e = .returned (.bool true) ∧ Below w.heap.size w w' := by
  have HT := Lib.hid hT
  have A1 := Lib.hid (fun W hW => alive_any W hW)
  obtain ⟨D, hD⟩ : ∃ D, bytes D = s1 := ⟨s1.data.toList, by simp [bytes]⟩
  obtain ⟨E, hE⟩ : ∃ E, bytes E = t1 := ⟨t1.data.toList, by simp [bytes]⟩
  have hl1 : D.length ≤ 100 := by rw [← hD, bytes_size] at h1; exact h1
  have hl2 : E.length ≤ 6 := by rw [← hE, bytes_size] at h2; exact h2
  obtain ⟨rt, hrt⟩ : ∃ r, M.rightN D E = r := ⟨_, rfl⟩
  have RN : Hid (∀ w : World, Calls Tryz.prog 27 #[.agg #[.bool x1, .string s1, .string t1]] w fun e w' => e = .returned (.bool rt) ∧ Below w.heap.size w w') :=
    Lib.hid (fun w => by
      have h := refrightn_any x1 D E rt w (by omega) (by omega) hrt
      unfold numV at h
      simp only at h
      rw [hD, hE] at h
      exact h.mono fun e w' ⟨h1, h2⟩ => ⟨h1, by rw [h2]; exact (Below.refl _ _).alloc (Nat.le_refl _) _⟩)
  obtain ⟨hus, huc, hu0, hul, hrl⟩ := us_all j hj
  obtain ⟨u, hu⟩ : ∃ u, unL.getD j [] = u := ⟨_, rfl⟩
  obtain ⟨v, hv⟩ : ∃ v, urL.getD j [] = v := ⟨_, rfl⟩
  have uj := un_at j hj
  have vj := ur_at j hj
  rw [hu] at hus huc hu0 hul uj
  rw [hv] at hus hrl vj
  obtain ⟨UB, hUB⟩ : ∃ S, bytes u = S := ⟨_, rfl⟩
  obtain ⟨VB, hVB⟩ : ∃ S, bytes v = S := ⟨_, rfl⟩
  rw [hUB] at uj
  rw [hVB] at vj
  have tj1 : ((j : Int) < 15) := by omega
  have tj0 : (0 ≤ (j : Int)) := by omega
  have ts1 : decide ((s1.size : Int) ≤ 100) = true := by simp; omega
  have ts2 : decide ((t1.size : Int) ≤ 6) = true := by simp; omega
  have us1 : decide (100 < (s1.size : Int)) = false := by simp; omega
  have us2 : decide (6 < (t1.size : Int)) = false := by simp; omega
  have vj1 : decide ((15 : Int) ≤ (j : Int)) = false := by simp; omega
  have vj0 : decide ((j : Int) < 0) = false := by simp
  obtain ⟨W0, hW0⟩ : ∃ W, w.alloc (.cells #[.bool x1, .string s1, .string t1] 23) = W := ⟨_, rfl⟩
  have hcs : CBt W0 w.heap.size #[.bool x1, .string s1, .string t1] 23 := by rw [← hW0]; exact CBt.new _ _ _
  have B1 : Hid (Below w.heap.size w W0) := Lib.hid (by rw [← hW0]; exact (Below.refl _ _).alloc (Nat.le_refl _) _)
  have HW0 := Lib.hid hW0
  clear hW0
  cases rt with
  | false =>
    clear uj vj hus huc hu0 hul hrl hu hv hUB hVB hrt hT
    go_enter Tryz.func7, Tryz.ntmps7
    go_upto_region 1 with (fail)
    rw [HW0.out]
    have HC := Lib.hid hcs
    clear hcs
    go_wp2_with fail
    refine (A1.out _ (HT.out.keep B1.out)).mono ?_
    rintro e w1 ⟨rfl, hb1⟩
    have HB1 := Lib.hid (B1.out.trans (hb1.mono B1.out.size))
    have HC1 := Lib.hid (HC.out.keep hb1 HC.out.lt)
    clear hb1 HC
    go_upto_region 4 with (fail)
    obtain ⟨W2, hW2⟩ : ∃ W, (w1.alloc (.cells #[.string ⟨#[112, 120]⟩, .string ⟨#[101]⟩, .string ⟨#[101, 51]⟩, .string ⟨#[69, 51]⟩, .string ⟨#[101, 45, 51]⟩, .string ⟨#[69, 45, 97]⟩, .string ⟨#[101, 45]⟩, .string ⟨#[101, 120]⟩, .string ⟨#[45]⟩, .string ⟨#[45, 45]⟩, .string ⟨#[45, 97]⟩, .string ⟨#[120, 51]⟩, .string ⟨#[49]⟩, .string ⟨#[37]⟩, .string ⟨#[101, 195, 169]⟩] 9)).alloc (.cells #[.string ⟨#[112, 120]⟩, .string ⟨#[101]⟩, .string ⟨#[92, 54, 53, 32, 51]⟩, .string ⟨#[92, 52, 53, 32, 51]⟩, .string ⟨#[92, 54, 53, 32, 45, 51]⟩, .string ⟨#[69, 45, 97]⟩, .string ⟨#[101, 45]⟩, .string ⟨#[101, 120]⟩, .string ⟨#[92, 45]⟩, .string ⟨#[45, 45]⟩, .string ⟨#[45, 97]⟩, .string ⟨#[120, 51]⟩, .string ⟨#[92, 51, 49, 32]⟩, .string ⟨#[92, 37]⟩, .string ⟨#[101, 195, 169]⟩] 9) = W := ⟨_, rfl⟩
    rw [hW2]
    have b2 : Below w1.heap.size w1 W2 := by rw [← hW2]; exact ((Below.refl _ _).alloc (Nat.le_refl _) _).alloc (by simp) _
    have HB2 := Lib.hid (HB1.out.trans (b2.mono HB1.out.size))
    have HC2 := Lib.hid (HC1.out.keep b2 HC1.out.lt)
    have HL2 : Hid (CBt W2 w1.heap.size unA 9) := Lib.hid (by rw [← hW2]; exact (CBt.new w1 _ _).keep ((Below.refl _ _).alloc (Nat.le_refl _) _) (by simp))
    have HS2 : Hid (CBt W2 (w1.heap.size + 1) urA 9) := Lib.hid (by rw [← hW2]; rw [show w1.heap.size + 1 = (w1.alloc (.cells #[.string ⟨#[112, 120]⟩, .string ⟨#[101]⟩, .string ⟨#[101, 51]⟩, .string ⟨#[69, 51]⟩, .string ⟨#[101, 45, 51]⟩, .string ⟨#[69, 45, 97]⟩, .string ⟨#[101, 45]⟩, .string ⟨#[101, 120]⟩, .string ⟨#[45]⟩, .string ⟨#[45, 45]⟩, .string ⟨#[45, 97]⟩, .string ⟨#[120, 51]⟩, .string ⟨#[49]⟩, .string ⟨#[37]⟩, .string ⟨#[101, 195, 169]⟩] 9)).heap.size by simp]; exact CBt.new _ _ _)
    clear hW2 b2 HC1
    have q0 : W2.cell? ⟨w.heap.size, 0, none⟩ = some (.bool x1) := HC2.out.cell 0
    have q1 : W2.cell? ⟨w.heap.size, 1, none⟩ = some (.string s1) := HC2.out.cell 1
    have q2 : W2.cell? ⟨w.heap.size, 2, none⟩ = some (.string t1) := HC2.out.cell 2
    go_wp2_with fail
    refine (RN.out _).mono ?_
    rintro e w3 ⟨rfl, hb3⟩
    have HF := Lib.hid (HB2.out.trans (hb3.mono HB2.out.size))
    clear hb3
    go_wp2
    go_ret
    exact ⟨rfl, HF.out⟩
  | true =>
    have hsmall : Small { kind := 12, num := (x1, D, E), unit := u } := ⟨by simp, by simp; omega, by simp; omega, by simp; omega⟩
    have hright : rightG ({ kind := 12, num := (x1, D, E), unit := u }, z4, 0) = true := by
      rw [rightG_T _ _ (by decide)]
      exact M.dim_right (x1, D, E) hrt u hu0 huc
    obtain ⟨ns, hns⟩ : ∃ s, M.numS (x1, D, E) false false = s := ⟨_, rfl⟩
    have hsp : M.spellT { kind := 12, num := (x1, D, E), unit := u } = ns ++ v := by
      show M.numS (x1, D, E) false false ++ M.unitS u = _
      rw [hns, hus]
    have hsl : (M.spellT { kind := 12, num := (x1, D, E), unit := u }).length ≤ 39000 := by
      rw [hsp, List.length_append]
      have := numS_len (x1, D, E) false false (by simp; omega) (by simp; omega)
      rw [hns] at this
      omega
    have hnl : ns.length ≤ 30000 := by rw [← hns]; have := numS_len (x1, D, E) false false (by simp; omega) (by simp; omega); omega
    have hspg : spellG ({ kind := 12, num := (x1, D, E), unit := u }, z4, 0) = ns ++ v := by
      unfold spellG
      rw [if_pos hright, hsp]
    have R1 := Lib.hid (fun W hW => cright_any ({ kind := 12, num := (x1, D, E), unit := u }, z4, 0) true W hW hsmall hsl hright)
    have S1 := Lib.hid (fun W hW => cspell_any ({ kind := 12, num := (x1, D, E), unit := u }, z4, 0) _ W hW hsmall hsl hspg)
    have N1 := Lib.hid (fun W hW => number_any (x1, D, E) false false ns W hW (by simp; omega) (by simp; omega) hns)
    unfold numV at N1
    simp only at N1
    rw [hD, hE] at N1
    obtain ⟨NB, hNB⟩ : ∃ S, bytes ns = S := ⟨_, rfl⟩
    rw [hNB] at N1
    have hnb : NB.size ≤ 30000 := by rw [← hNB, bytes_size]; exact hnl
    have hvb : VB.size ≤ 6 := by rw [← hVB, bytes_size]; exact hrl
    have e0 : gtv ({ kind := 12, num := (x1, D, E), unit := u }, z4, 0) = #[.int .i64 12, .string ⟨#[]⟩, .string UB, .bool x1, .string s1, .string t1, .bool false, .bool false, .int .i64 0, .int .i64 0, .int .i64 0, .int .i64 0, .int .i64 0] := by
      rw [← hUB, ← hD, ← hE]; rfl
    rw [e0] at R1 S1
    rw [← cat2, hNB, hVB] at S1
    clear hnl hus huc hu0 hul hrl hu hv hUB hVB hrt hT hsmall hright hns hsp hsl hspg hNB e0 hD hE
    have HU := Lib.hid uj
    have HV := Lib.hid vj
    clear uj vj
    go_enter Tryz.func7, Tryz.ntmps7
    go_upto_region 1 with (fail)
    rw [HW0.out]
    have HC := Lib.hid hcs
    clear hcs
    go_wp2_with fail
    refine (A1.out _ (HT.out.keep B1.out)).mono ?_
    rintro e w1 ⟨rfl, hb1⟩
    have HB1 := Lib.hid (B1.out.trans (hb1.mono B1.out.size))
    have HC1 := Lib.hid (HC.out.keep hb1 HC.out.lt)
    clear hb1 HC
    go_upto_region 4 with (fail)
    obtain ⟨W2, hW2⟩ : ∃ W, (w1.alloc (.cells #[.string ⟨#[112, 120]⟩, .string ⟨#[101]⟩, .string ⟨#[101, 51]⟩, .string ⟨#[69, 51]⟩, .string ⟨#[101, 45, 51]⟩, .string ⟨#[69, 45, 97]⟩, .string ⟨#[101, 45]⟩, .string ⟨#[101, 120]⟩, .string ⟨#[45]⟩, .string ⟨#[45, 45]⟩, .string ⟨#[45, 97]⟩, .string ⟨#[120, 51]⟩, .string ⟨#[49]⟩, .string ⟨#[37]⟩, .string ⟨#[101, 195, 169]⟩] 9)).alloc (.cells #[.string ⟨#[112, 120]⟩, .string ⟨#[101]⟩, .string ⟨#[92, 54, 53, 32, 51]⟩, .string ⟨#[92, 52, 53, 32, 51]⟩, .string ⟨#[92, 54, 53, 32, 45, 51]⟩, .string ⟨#[69, 45, 97]⟩, .string ⟨#[101, 45]⟩, .string ⟨#[101, 120]⟩, .string ⟨#[92, 45]⟩, .string ⟨#[45, 45]⟩, .string ⟨#[45, 97]⟩, .string ⟨#[120, 51]⟩, .string ⟨#[92, 51, 49, 32]⟩, .string ⟨#[92, 37]⟩, .string ⟨#[101, 195, 169]⟩] 9) = W := ⟨_, rfl⟩
    rw [hW2]
    have b2 : Below w1.heap.size w1 W2 := by rw [← hW2]; exact ((Below.refl _ _).alloc (Nat.le_refl _) _).alloc (by simp) _
    have HB2 := Lib.hid (HB1.out.trans (b2.mono HB1.out.size))
    have HC2 := Lib.hid (HC1.out.keep b2 HC1.out.lt)
    have HL2 : Hid (CBt W2 w1.heap.size unA 9) := Lib.hid (by rw [← hW2]; exact (CBt.new w1 _ _).keep ((Below.refl _ _).alloc (Nat.le_refl _) _) (by simp))
    have HS2 : Hid (CBt W2 (w1.heap.size + 1) urA 9) := Lib.hid (by rw [← hW2]; rw [show w1.heap.size + 1 = (w1.alloc (.cells #[.string ⟨#[112, 120]⟩, .string ⟨#[101]⟩, .string ⟨#[101, 51]⟩, .string ⟨#[69, 51]⟩, .string ⟨#[101, 45, 51]⟩, .string ⟨#[69, 45, 97]⟩, .string ⟨#[101, 45]⟩, .string ⟨#[101, 120]⟩, .string ⟨#[45]⟩, .string ⟨#[45, 45]⟩, .string ⟨#[45, 97]⟩, .string ⟨#[120, 51]⟩, .string ⟨#[49]⟩, .string ⟨#[37]⟩, .string ⟨#[101, 195, 169]⟩] 9)).heap.size by simp]; exact CBt.new _ _ _)
    clear hW2 b2 HC1
    have q0 : W2.cell? ⟨w.heap.size, 0, none⟩ = some (.bool x1) := HC2.out.cell 0
    have q1 : W2.cell? ⟨w.heap.size, 1, none⟩ = some (.string s1) := HC2.out.cell 1
    have q2 : W2.cell? ⟨w.heap.size, 2, none⟩ = some (.string t1) := HC2.out.cell 2
    go_wp2_with fail
    refine (RN.out _).mono ?_
    rintro e w3 ⟨rfl, hb3⟩
    have HB3 := Lib.hid (HB2.out.trans (hb3.mono HB2.out.size))
    have HC3 := Lib.hid (HC2.out.keep hb3 HC2.out.lt)
    have HL3 := Lib.hid (HL2.out.keep hb3 HL2.out.lt)
    have HS3 := Lib.hid (HS2.out.keep hb3 HS2.out.lt)
    clear hb3 HC2 HL2 HS2 q0 q1 q2
    have uc : w3.cell? ⟨w1.heap.size, j, none⟩ = some (.string UB) := (HL3.out.cell j).trans HU.out
    have q0 : w3.cell? ⟨w.heap.size, 0, none⟩ = some (.bool x1) := HC3.out.cell 0
    have q1 : w3.cell? ⟨w.heap.size, 1, none⟩ = some (.string s1) := HC3.out.cell 1
    have q2 : w3.cell? ⟨w.heap.size, 2, none⟩ = some (.string t1) := HC3.out.cell 2
    clear RN HW0
    have uc2 : (w3.alloc (.cells #[.int .i64 0, .string ⟨#[]⟩, .string ⟨#[]⟩, .bool false, .string ⟨#[]⟩, .string ⟨#[]⟩, .bool false, .bool false, .int .i64 0, .int .i64 0, .int .i64 0, .int .i64 0, .int .i64 0] 26)).cell? ⟨w1.heap.size, j, none⟩ = some (.string UB) := (((Below.refl w3.heap.size w3).alloc (Nat.le_refl _) _).cell (p := ⟨w1.heap.size, j, none⟩) HL3.out.lt).trans uc
    have uc3 : (w3.alloc (.cells #[.int .i64 0, .string ⟨#[]⟩, .string ⟨#[]⟩, .bool false, .string ⟨#[]⟩, .string ⟨#[]⟩, .bool false, .bool false, .int .i64 0, .int .i64 0, .int .i64 0, .int .i64 0, .int .i64 0] 26)).drew.cell? ⟨w1.heap.size, j, none⟩ = some (.string UB) := uc2
    have p0 : (w3.alloc (.cells #[.int .i64 0, .string ⟨#[]⟩, .string ⟨#[]⟩, .bool false, .string ⟨#[]⟩, .string ⟨#[]⟩, .bool false, .bool false, .int .i64 0, .int .i64 0, .int .i64 0, .int .i64 0, .int .i64 0] 26)).cell? ⟨w.heap.size, 0, none⟩ = some (.bool x1) := (((Below.refl w3.heap.size w3).alloc (Nat.le_refl _) _).cell (p := ⟨w.heap.size, 0, none⟩) HC3.out.lt).trans q0
    have r0 : (w3.alloc (.cells #[.int .i64 0, .string ⟨#[]⟩, .string ⟨#[]⟩, .bool false, .string ⟨#[]⟩, .string ⟨#[]⟩, .bool false, .bool false, .int .i64 0, .int .i64 0, .int .i64 0, .int .i64 0, .int .i64 0] 26)).drew.cell? ⟨w.heap.size, 0, none⟩ = some (.bool x1) := p0
    have p1 : (w3.alloc (.cells #[.int .i64 0, .string ⟨#[]⟩, .string ⟨#[]⟩, .bool false, .string ⟨#[]⟩, .string ⟨#[]⟩, .bool false, .bool false, .int .i64 0, .int .i64 0, .int .i64 0, .int .i64 0, .int .i64 0] 26)).cell? ⟨w.heap.size, 1, none⟩ = some (.string s1) := (((Below.refl w3.heap.size w3).alloc (Nat.le_refl _) _).cell (p := ⟨w.heap.size, 1, none⟩) HC3.out.lt).trans q1
    have r1 : (w3.alloc (.cells #[.int .i64 0, .string ⟨#[]⟩, .string ⟨#[]⟩, .bool false, .string ⟨#[]⟩, .string ⟨#[]⟩, .bool false, .bool false, .int .i64 0, .int .i64 0, .int .i64 0, .int .i64 0, .int .i64 0] 26)).drew.cell? ⟨w.heap.size, 1, none⟩ = some (.string s1) := p1
    have p2 : (w3.alloc (.cells #[.int .i64 0, .string ⟨#[]⟩, .string ⟨#[]⟩, .bool false, .string ⟨#[]⟩, .string ⟨#[]⟩, .bool false, .bool false, .int .i64 0, .int .i64 0, .int .i64 0, .int .i64 0, .int .i64 0] 26)).cell? ⟨w.heap.size, 2, none⟩ = some (.string t1) := (((Below.refl w3.heap.size w3).alloc (Nat.le_refl _) _).cell (p := ⟨w.heap.size, 2, none⟩) HC3.out.lt).trans q2
    have r2 : (w3.alloc (.cells #[.int .i64 0, .string ⟨#[]⟩, .string ⟨#[]⟩, .bool false, .string ⟨#[]⟩, .string ⟨#[]⟩, .bool false, .bool false, .int .i64 0, .int .i64 0, .int .i64 0, .int .i64 0, .int .i64 0] 26)).drew.cell? ⟨w.heap.size, 2, none⟩ = some (.string t1) := p2
    have uc4 : (w3.drew.alloc (.cells #[.int .i64 0, .string ⟨#[]⟩, .string ⟨#[]⟩, .bool false, .string ⟨#[]⟩, .string ⟨#[]⟩, .bool false, .bool false, .int .i64 0, .int .i64 0, .int .i64 0, .int .i64 0, .int .i64 0] 26)).cell? ⟨w1.heap.size, j, none⟩ = some (.string UB) := uc2
    go_wp2_with fail
    go_region
    clear uc uc2 uc3 uc4 p0 p1 p2 r0 r1 r2 q0 q1 q2
    obtain ⟨W4, hW4⟩ : ∃ W, (w3.alloc (.cells #[.int .i64 12, .string ⟨#[]⟩, .string UB, .bool x1, .string s1, .string t1, .bool false, .bool false, .int .i64 0, .int .i64 0, .int .i64 0, .int .i64 0, .int .i64 0] 26)).drew = W := ⟨_, rfl⟩
    rw [hW4]
    have b4 : Below w3.heap.size w3 W4 := by rw [← hW4]; exact ((Below.refl _ _).alloc (Nat.le_refl _) _).drew
    have k4 : CB W4 w3.heap.size #[.int .i64 12, .string ⟨#[]⟩, .string UB, .bool x1, .string s1, .string t1, .bool false, .bool false, .int .i64 0, .int .i64 0, .int .i64 0, .int .i64 0, .int .i64 0] := by rw [← hW4]; exact cb_drew (CB.new w3 _)
    have HI4 : Hid (Is13 w3.heap.size (.int .i64 12) (.string ⟨#[]⟩) (.string UB) (.bool x1) (.string s1) (.string t1) (.bool false) (.bool false) (.int .i64 0) (.int .i64 0) (.int .i64 0) (.int .i64 0) (.int .i64 0) W4) := Lib.hid ⟨k4.cell 0, k4.cell 1, k4.cell 2, k4.cell 3, k4.cell 4, k4.cell 5, k4.cell 6, k4.cell 7, k4.cell 8, k4.cell 9, k4.cell 10, k4.cell 11, k4.cell 12⟩
    have HB4 := Lib.hid (HB3.out.trans (b4.mono HB3.out.size))
    have HC4 := Lib.hid (HC3.out.keep b4 HC3.out.lt)
    have HS4 := Lib.hid (HS3.out.keep b4 HS3.out.lt)
    clear hW4 b4 k4 HC3 HL3 HS3 HB3
    have HV4 : Hid (W4.cell? ⟨w1.heap.size + 1, j, none⟩ = some (.string VB)) := Lib.hid ((HS4.out.cell j).trans HV.out)
    go_upto_region 7 with (fail)
    refine wp_region_noPanic ?_
    refine wp_region_held_drew (S := fun W : World => Is13 w3.heap.size (.int .i64 12) (.string ⟨#[]⟩) (.string UB) (.bool x1) (.string s1) (.string t1) (.bool false) (.bool false) (.int .i64 0) (.int .i64 0) (.int .i64 0) (.int .i64 0) (.int .i64 0) W ∧ W.cell? ⟨w.heap.size, 0, none⟩ = some (.bool x1) ∧ W.cell? ⟨w.heap.size, 1, none⟩ = some (.string s1) ∧ W.cell? ⟨w.heap.size, 2, none⟩ = some (.string t1) ∧ W.cell? ⟨w1.heap.size + 1, j, none⟩ = some (.string VB)) (by kernel_rfl) ⟨HI4.out, HC4.out.cell 0, HC4.out.cell 1, HC4.out.cell 2, HV4.out⟩ (fun hS => ?_)
    have HC5 : Hid (CBt W4.drew w.heap.size #[.bool x1, .string s1, .string t1] 23) := Lib.hid HC4.out
    have HS5 : Hid (CBt W4.drew (w1.heap.size + 1) urA 9) := Lib.hid HS4.out
    have HB5 := Lib.hid HB4.out.drew
    clear HC4 HS4 HB4 HI4 HV4
    refine wpAnyH_take (i := 0) (oi := _) (v := ?_) (List.getElem?_toArray.trans (by simp only [List.getElem?_cons_succ, List.getElem?_cons_zero]; exact rfl)) (by kernel_rfl) (by kernel_rfl) (by kernel_rfl) (fun _ _ _ h => h) (Or.inl ⟨by rfl, ?_⟩) (by assumption) ?_
    rotate_left
    · (intro V hSV; (try dsimp only at hSV); (try obtain ⟨⟨t0, t1', t2, t3, t4, t5, t6, t7, t8, t9, t10, t11, t12⟩, q0, q1, q2, vc⟩ := hSV); go_simp; (try rw [if_neg (by omega)]); (try with_reducible rfl))
    try simp only [List.getElem_toArray, List.getElem_cons_succ, List.getElem_cons_zero, Act.put, List.setIfInBounds_toArray, List.set_cons_zero, List.set_cons_succ]
    refine wpAnyH_ready (rs := [1]) (by kernel_rfl) (by simp) ?_
    refine AllReadyH.cons rfl (fun K hK => ?_) AllReadyH.nil
    go_simp
    refine (R1.out _ (HT.out.keep HB5.out)).mono ?_
    rintro e w6 ⟨rfl, hb6⟩
    refine hK.out _ _ (⟨Is13.keep hS.1 hb6, (HC5.out.keep hb6 HC5.out.lt).cell 0, (HC5.out.keep hb6 HC5.out.lt).cell 1, (HC5.out.keep hb6 HC5.out.lt).cell 2, ((HS5.out.keep hb6 HS5.out.lt).cell j).trans HV.out⟩) (fun hS => ?_)
    clear hK K
    try simp only [List.getElem_toArray, List.getElem_cons_succ, List.getElem_cons_zero, Act.put, List.setIfInBounds_toArray, List.set_cons_zero, List.set_cons_succ]
    have HB6 := Lib.hid (HB5.out.trans (hb6.mono HB5.out.size))
    have HC6 := Lib.hid (HC5.out.keep hb6 HC5.out.lt)
    have HS6 := Lib.hid (HS5.out.keep hb6 HS5.out.lt)
    clear hb6 HB5 HC5 HS5
    refine wpAnyH_take (i := 2) (oi := _) (v := ?_) (List.getElem?_toArray.trans (by simp only [List.getElem?_cons_succ, List.getElem?_cons_zero]; exact rfl)) (by kernel_rfl) (by kernel_rfl) (by kernel_rfl) (fun _ _ _ h => h) (Or.inl ⟨by rfl, ?_⟩) (by assumption) ?_
    rotate_left
    · (intro V hSV; (try dsimp only at hSV); (try obtain ⟨⟨t0, t1', t2, t3, t4, t5, t6, t7, t8, t9, t10, t11, t12⟩, q0, q1, q2, vc⟩ := hSV); go_simp; (try rw [if_neg (by omega)]); (try with_reducible rfl))
    try simp only [List.getElem_toArray, List.getElem_cons_succ, List.getElem_cons_zero, Act.put, List.setIfInBounds_toArray, List.set_cons_zero, List.set_cons_succ]
    refine wpAnyH_take (i := 3) (oi := _) (v := ?_) (List.getElem?_toArray.trans (by simp only [List.getElem?_cons_succ, List.getElem?_cons_zero]; exact rfl)) (by kernel_rfl) (by kernel_rfl) (by kernel_rfl) (fun _ _ _ h => h) (Or.inl ⟨by rfl, ?_⟩) (by assumption) ?_
    rotate_left
    · (intro V hSV; (try dsimp only at hSV); (try obtain ⟨⟨t0, t1', t2, t3, t4, t5, t6, t7, t8, t9, t10, t11, t12⟩, q0, q1, q2, vc⟩ := hSV); go_simp; (try rw [if_neg (by omega)]); (try with_reducible rfl))
    try simp only [List.getElem_toArray, List.getElem_cons_succ, List.getElem_cons_zero, Act.put, List.setIfInBounds_toArray, List.set_cons_zero, List.set_cons_succ]
    refine wpAnyH_take (i := 5) (oi := _) (v := ?_) (List.getElem?_toArray.trans (by simp only [List.getElem?_cons_succ, List.getElem?_cons_zero]; exact rfl)) (by kernel_rfl) (by kernel_rfl) (by kernel_rfl) (fun _ _ _ h => h) (Or.inl ⟨by rfl, ?_⟩) (by assumption) ?_
    rotate_left
    · (intro V hSV; (try dsimp only at hSV); (try obtain ⟨⟨t0, t1', t2, t3, t4, t5, t6, t7, t8, t9, t10, t11, t12⟩, q0, q1, q2, vc⟩ := hSV); go_simp; (try rw [if_neg (by omega)]); (try with_reducible rfl))
    try simp only [List.getElem_toArray, List.getElem_cons_succ, List.getElem_cons_zero, Act.put, List.setIfInBounds_toArray, List.set_cons_zero, List.set_cons_succ]
    refine wpAnyH_take (i := 7) (oi := _) (v := ?_) (List.getElem?_toArray.trans (by simp only [List.getElem?_cons_succ, List.getElem?_cons_zero]; exact rfl)) (by kernel_rfl) (by kernel_rfl) (by kernel_rfl) (fun _ _ _ h => h) (Or.inl ⟨by rfl, ?_⟩) (by assumption) ?_
    rotate_left
    · (intro V hSV; (try dsimp only at hSV); (try obtain ⟨⟨t0, t1', t2, t3, t4, t5, t6, t7, t8, t9, t10, t11, t12⟩, q0, q1, q2, vc⟩ := hSV); go_simp; (try rw [if_neg (by omega)]); (try with_reducible rfl))
    try simp only [List.getElem_toArray, List.getElem_cons_succ, List.getElem_cons_zero, Act.put, List.setIfInBounds_toArray, List.set_cons_zero, List.set_cons_succ]
    refine wpAnyH_take (i := 8) (oi := _) (v := ?_) (List.getElem?_toArray.trans (by simp only [List.getElem?_cons_succ, List.getElem?_cons_zero]; exact rfl)) (by kernel_rfl) (by kernel_rfl) (by kernel_rfl) (fun _ _ _ h => h) (Or.inl ⟨by rfl, ?_⟩) (by assumption) ?_
    rotate_left
    · (intro V hSV; (try dsimp only at hSV); (try obtain ⟨⟨t0, t1', t2, t3, t4, t5, t6, t7, t8, t9, t10, t11, t12⟩, q0, q1, q2, vc⟩ := hSV); go_simp; (try rw [if_neg (by omega)]); (try with_reducible rfl))
    try simp only [List.getElem_toArray, List.getElem_cons_succ, List.getElem_cons_zero, Act.put, List.setIfInBounds_toArray, List.set_cons_zero, List.set_cons_succ]
    refine wpAnyH_take (i := 9) (oi := _) (v := ?_) (List.getElem?_toArray.trans (by simp only [List.getElem?_cons_succ, List.getElem?_cons_zero]; exact rfl)) (by kernel_rfl) (by kernel_rfl) (by kernel_rfl) (fun _ _ _ h => h) (Or.inl ⟨by rfl, ?_⟩) (by assumption) ?_
    rotate_left
    · (intro V hSV; (try dsimp only at hSV); (try obtain ⟨⟨t0, t1', t2, t3, t4, t5, t6, t7, t8, t9, t10, t11, t12⟩, q0, q1, q2, vc⟩ := hSV); go_simp; (try rw [if_neg (by omega)]); (try with_reducible rfl))
    try simp only [List.getElem_toArray, List.getElem_cons_succ, List.getElem_cons_zero, Act.put, List.setIfInBounds_toArray, List.set_cons_zero, List.set_cons_succ]
    refine wpAnyH_take (i := 10) (oi := _) (v := ?_) (List.getElem?_toArray.trans (by simp only [List.getElem?_cons_succ, List.getElem?_cons_zero]; exact rfl)) (by kernel_rfl) (by kernel_rfl) (by kernel_rfl) (fun _ _ _ h => h) (Or.inl ⟨by rfl, ?_⟩) (by assumption) ?_
    rotate_left
    · (intro V hSV; (try dsimp only at hSV); (try obtain ⟨⟨t0, t1', t2, t3, t4, t5, t6, t7, t8, t9, t10, t11, t12⟩, q0, q1, q2, vc⟩ := hSV); go_simp; (try rw [if_neg (by omega)]); (try with_reducible rfl))
    try simp only [List.getElem_toArray, List.getElem_cons_succ, List.getElem_cons_zero, Act.put, List.setIfInBounds_toArray, List.set_cons_zero, List.set_cons_succ]
    refine wpAnyH_ready (rs := [4]) (by kernel_rfl) (by simp) ?_
    refine AllReadyH.cons rfl (fun K hK => ?_) AllReadyH.nil
    go_simp
    refine (S1.out _ (HT.out.keep HB6.out)).mono ?_
    rintro e w7 ⟨rfl, hb7⟩
    refine hK.out _ _ (⟨Is13.keep hS.1 hb7, (HC6.out.keep hb7 HC6.out.lt).cell 0, (HC6.out.keep hb7 HC6.out.lt).cell 1, (HC6.out.keep hb7 HC6.out.lt).cell 2, ((HS6.out.keep hb7 HS6.out.lt).cell j).trans HV.out⟩) (fun hS => ?_)
    clear hK K
    try simp only [List.getElem_toArray, List.getElem_cons_succ, List.getElem_cons_zero, Act.put, List.setIfInBounds_toArray, List.set_cons_zero, List.set_cons_succ]
    have HB7 := Lib.hid (HB6.out.trans (hb7.mono HB6.out.size))
    have HC7 := Lib.hid (HC6.out.keep hb7 HC6.out.lt)
    have HS7 := Lib.hid (HS6.out.keep hb7 HS6.out.lt)
    clear hb7 HB6 HC6 HS6
    refine wpAnyH_ready (rs := [6]) (by kernel_rfl) (by simp) ?_
    refine AllReadyH.cons rfl (fun K hK => ?_) AllReadyH.nil
    go_simp
    refine (N1.out _ (HT.out.keep HB7.out)).mono ?_
    rintro e w8 ⟨rfl, hb8⟩
    refine hK.out _ _ (⟨Is13.keep hS.1 hb8, (HC7.out.keep hb8 HC7.out.lt).cell 0, (HC7.out.keep hb8 HC7.out.lt).cell 1, (HC7.out.keep hb8 HC7.out.lt).cell 2, ((HS7.out.keep hb8 HS7.out.lt).cell j).trans HV.out⟩) (fun hS => ?_)
    clear hK K
    try simp only [List.getElem_toArray, List.getElem_cons_succ, List.getElem_cons_zero, Act.put, List.setIfInBounds_toArray, List.set_cons_zero, List.set_cons_succ]
    have HB8 := Lib.hid (HB7.out.trans (hb8.mono HB7.out.size))
    clear hb8 HB7 HC7 HS7
    refine wpAnyH_take (i := 11) (oi := _) (v := ?_) (List.getElem?_toArray.trans (by simp only [List.getElem?_cons_succ, List.getElem?_cons_zero]; exact rfl)) (by kernel_rfl) (by kernel_rfl) (by kernel_rfl) (fun _ _ _ h => h) (Or.inl ⟨by rfl, ?_⟩) (by assumption) ?_
    rotate_left
    · (intro V hSV; (try dsimp only at hSV); (try obtain ⟨⟨t0, t1', t2, t3, t4, t5, t6, t7, t8, t9, t10, t11, t12⟩, q0, q1, q2, vc⟩ := hSV); go_simp; (try rw [if_neg (by omega)]); (try with_reducible rfl))
    try simp only [List.getElem_toArray, List.getElem_cons_succ, List.getElem_cons_zero, Act.put, List.setIfInBounds_toArray, List.set_cons_zero, List.set_cons_succ]
    refine wpAnyH_take (i := 12) (oi := _) (v := ?_) (List.getElem?_toArray.trans (by simp only [List.getElem?_cons_succ, List.getElem?_cons_zero]; exact rfl)) (by kernel_rfl) (by kernel_rfl) (by kernel_rfl) (fun _ _ _ h => h) (Or.inl ⟨by rfl, ?_⟩) (by assumption) ?_
    rotate_left
    · (intro V hSV; (try dsimp only at hSV); (try obtain ⟨⟨t0, t1', t2, t3, t4, t5, t6, t7, t8, t9, t10, t11, t12⟩, q0, q1, q2, vc⟩ := hSV); go_simp; (try rw [if_neg (by omega)]); (try with_reducible rfl))
    try simp only [List.getElem_toArray, List.getElem_cons_succ, List.getElem_cons_zero, Act.put, List.setIfInBounds_toArray, List.set_cons_zero, List.set_cons_succ]
    refine wpAnyH_take (i := 13) (oi := _) (v := ?_) (List.getElem?_toArray.trans (by simp only [List.getElem?_cons_succ, List.getElem?_cons_zero]; exact rfl)) (by kernel_rfl) (by kernel_rfl) (by kernel_rfl) (fun _ _ _ h => h) (Or.inl ⟨by rfl, ?_⟩) (by assumption) ?_
    rotate_left
    · (intro V hSV; (try dsimp only at hSV); (try obtain ⟨⟨t0, t1', t2, t3, t4, t5, t6, t7, t8, t9, t10, t11, t12⟩, q0, q1, q2, vc⟩ := hSV); go_simp; (try rw [if_neg (by omega)]); (try with_reducible rfl))
    try simp only [List.getElem_toArray, List.getElem_cons_succ, List.getElem_cons_zero, Act.put, List.setIfInBounds_toArray, List.set_cons_zero, List.set_cons_succ]
    refine wpAnyH_take (i := 14) (oi := _) (v := ?_) (List.getElem?_toArray.trans (by simp only [List.getElem?_cons_succ, List.getElem?_cons_zero]; exact rfl)) (by kernel_rfl) (by kernel_rfl) (by kernel_rfl) (fun _ _ _ h => h) (Or.inl ⟨by rfl, ?_⟩) (by assumption) ?_
    rotate_left
    · (intro V hSV; (try dsimp only at hSV); (try obtain ⟨⟨t0, t1', t2, t3, t4, t5, t6, t7, t8, t9, t10, t11, t12⟩, q0, q1, q2, vc⟩ := hSV); go_simp; (try rw [if_neg (by omega)]); (try with_reducible rfl))
    try simp only [List.getElem_toArray, List.getElem_cons_succ, List.getElem_cons_zero, Act.put, List.setIfInBounds_toArray, List.set_cons_zero, List.set_cons_succ]
    refine wpAnyH_done (by kernel_rfl) ?_ _
    refine NoPanic.normal ?_
    go_wp2
    go_ret
    exact ⟨by first | rfl | simp, HB8.out⟩
set_option maxRecDepth 100000 in
set_option maxHeartbeats 4000000 in
theorem units_walk (x0 : Int) (x1 : Bool) (s1 t1 : ByteArray) (w : World) (m0 : (Lit.int .i64 x0).wf = true) (hT : Tabs w) :
    Calls Tryz.prog 7 #[.int .i64 x0, .agg #[.bool x1, .string s1, .string t1]] w fun e w' => e = .returned (.bool true) ∧ Below w.heap.size w w' := by
  by_cases hm : 0 ≤ x0 ∧ x0 < 15 ∧ s1.size ≤ 100 ∧ t1.size ≤ 6
  · obtain ⟨j, rfl⟩ : ∃ j : Nat, x0 = (j : Int) := ⟨x0.toNat, by omega⟩
    exact units_main j x1 s1 t1 w (by omega) hm.2.2.1 hm.2.2.2 hT
  have HT := Lib.hid hT
  have A1 := Lib.hid (fun W hW => alive_any W hW)
  obtain ⟨W0, hW0⟩ : ∃ W, w.alloc (.cells #[.bool x1, .string s1, .string t1] 23) = W := ⟨_, rfl⟩
  have hcs : CBt W0 w.heap.size #[.bool x1, .string s1, .string t1] 23 := by rw [← hW0]; exact CBt.new _ _ _
  have B1 : Hid (Below w.heap.size w W0) := Lib.hid (by rw [← hW0]; exact (Below.refl _ _).alloc (Nat.le_refl _) _)
  have HW0 := Lib.hid hW0
  clear hW0
  have hway : (decide (x0 < 0) = true) ∨ (decide (x0 < 0) = false ∧ decide (15 ≤ x0) = true) ∨ (decide (x0 < 0) = false ∧ decide (15 ≤ x0) = false ∧ decide (100 < (s1.size : Int)) = true) ∨ (decide (x0 < 0) = false ∧ decide (15 ≤ x0) = false ∧ decide (100 < (s1.size : Int)) = false ∧ decide (6 < (t1.size : Int)) = true) := by
    simp only [decide_eq_true_iff, decide_eq_false_iff_not]
    omega
  clear hT hm
  rcases hway with z1 | ⟨z1, z2⟩ | ⟨z1, z2, z3⟩ | ⟨z1, z2, z3, z4'⟩
  · go_enter Tryz.func7, Tryz.ntmps7
    go_upto_region 1 with (fail)
    rw [HW0.out]
    have HC := Lib.hid hcs
    clear hcs
    go_wp2_with fail
    refine (A1.out _ (HT.out.keep B1.out)).mono ?_
    rintro e w1 ⟨rfl, hb1⟩
    have HB1 := Lib.hid (B1.out.trans (hb1.mono B1.out.size))
    have HC1 := Lib.hid (HC.out.keep hb1 HC.out.lt)
    clear hb1 HC
    go_upto_region 4 with (fail)
    obtain ⟨W2, hW2⟩ : ∃ W, (w1.alloc (.cells #[.string ⟨#[112, 120]⟩, .string ⟨#[101]⟩, .string ⟨#[101, 51]⟩, .string ⟨#[69, 51]⟩, .string ⟨#[101, 45, 51]⟩, .string ⟨#[69, 45, 97]⟩, .string ⟨#[101, 45]⟩, .string ⟨#[101, 120]⟩, .string ⟨#[45]⟩, .string ⟨#[45, 45]⟩, .string ⟨#[45, 97]⟩, .string ⟨#[120, 51]⟩, .string ⟨#[49]⟩, .string ⟨#[37]⟩, .string ⟨#[101, 195, 169]⟩] 9)).alloc (.cells #[.string ⟨#[112, 120]⟩, .string ⟨#[101]⟩, .string ⟨#[92, 54, 53, 32, 51]⟩, .string ⟨#[92, 52, 53, 32, 51]⟩, .string ⟨#[92, 54, 53, 32, 45, 51]⟩, .string ⟨#[69, 45, 97]⟩, .string ⟨#[101, 45]⟩, .string ⟨#[101, 120]⟩, .string ⟨#[92, 45]⟩, .string ⟨#[45, 45]⟩, .string ⟨#[45, 97]⟩, .string ⟨#[120, 51]⟩, .string ⟨#[92, 51, 49, 32]⟩, .string ⟨#[92, 37]⟩, .string ⟨#[101, 195, 169]⟩] 9) = W := ⟨_, rfl⟩
    rw [hW2]
    have b2 : Below w1.heap.size w1 W2 := by rw [← hW2]; exact ((Below.refl _ _).alloc (Nat.le_refl _) _).alloc (by simp) _
    have HB2 := Lib.hid (HB1.out.trans (b2.mono HB1.out.size))
    have HC2 := Lib.hid (HC1.out.keep b2 HC1.out.lt)
    have HL2 : Hid (CBt W2 w1.heap.size unA 9) := Lib.hid (by rw [← hW2]; exact (CBt.new w1 _ _).keep ((Below.refl _ _).alloc (Nat.le_refl _) _) (by simp))
    have HS2 : Hid (CBt W2 (w1.heap.size + 1) urA 9) := Lib.hid (by rw [← hW2]; rw [show w1.heap.size + 1 = (w1.alloc (.cells #[.string ⟨#[112, 120]⟩, .string ⟨#[101]⟩, .string ⟨#[101, 51]⟩, .string ⟨#[69, 51]⟩, .string ⟨#[101, 45, 51]⟩, .string ⟨#[69, 45, 97]⟩, .string ⟨#[101, 45]⟩, .string ⟨#[101, 120]⟩, .string ⟨#[45]⟩, .string ⟨#[45, 45]⟩, .string ⟨#[45, 97]⟩, .string ⟨#[120, 51]⟩, .string ⟨#[49]⟩, .string ⟨#[37]⟩, .string ⟨#[101, 195, 169]⟩] 9)).heap.size by simp]; exact CBt.new _ _ _)
    clear hW2 b2 HC1
    have q0 : W2.cell? ⟨w.heap.size, 0, none⟩ = some (.bool x1) := HC2.out.cell 0
    have q1 : W2.cell? ⟨w.heap.size, 1, none⟩ = some (.string s1) := HC2.out.cell 1
    have q2 : W2.cell? ⟨w.heap.size, 2, none⟩ = some (.string t1) := HC2.out.cell 2
    go_wp2
    go_ret
    exact ⟨rfl, HB2.out⟩
  · go_enter Tryz.func7, Tryz.ntmps7
    go_upto_region 1 with (fail)
    rw [HW0.out]
    have HC := Lib.hid hcs
    clear hcs
    go_wp2_with fail
    refine (A1.out _ (HT.out.keep B1.out)).mono ?_
    rintro e w1 ⟨rfl, hb1⟩
    have HB1 := Lib.hid (B1.out.trans (hb1.mono B1.out.size))
    have HC1 := Lib.hid (HC.out.keep hb1 HC.out.lt)
    clear hb1 HC
    go_upto_region 4 with (fail)
    obtain ⟨W2, hW2⟩ : ∃ W, (w1.alloc (.cells #[.string ⟨#[112, 120]⟩, .string ⟨#[101]⟩, .string ⟨#[101, 51]⟩, .string ⟨#[69, 51]⟩, .string ⟨#[101, 45, 51]⟩, .string ⟨#[69, 45, 97]⟩, .string ⟨#[101, 45]⟩, .string ⟨#[101, 120]⟩, .string ⟨#[45]⟩, .string ⟨#[45, 45]⟩, .string ⟨#[45, 97]⟩, .string ⟨#[120, 51]⟩, .string ⟨#[49]⟩, .string ⟨#[37]⟩, .string ⟨#[101, 195, 169]⟩] 9)).alloc (.cells #[.string ⟨#[112, 120]⟩, .string ⟨#[101]⟩, .string ⟨#[92, 54, 53, 32, 51]⟩, .string ⟨#[92, 52, 53, 32, 51]⟩, .string ⟨#[92, 54, 53, 32, 45, 51]⟩, .string ⟨#[69, 45, 97]⟩, .string ⟨#[101, 45]⟩, .string ⟨#[101, 120]⟩, .string ⟨#[92, 45]⟩, .string ⟨#[45, 45]⟩, .string ⟨#[45, 97]⟩, .string ⟨#[120, 51]⟩, .string ⟨#[92, 51, 49, 32]⟩, .string ⟨#[92, 37]⟩, .string ⟨#[101, 195, 169]⟩] 9) = W := ⟨_, rfl⟩
    rw [hW2]
    have b2 : Below w1.heap.size w1 W2 := by rw [← hW2]; exact ((Below.refl _ _).alloc (Nat.le_refl _) _).alloc (by simp) _
    have HB2 := Lib.hid (HB1.out.trans (b2.mono HB1.out.size))
    have HC2 := Lib.hid (HC1.out.keep b2 HC1.out.lt)
    have HL2 : Hid (CBt W2 w1.heap.size unA 9) := Lib.hid (by rw [← hW2]; exact (CBt.new w1 _ _).keep ((Below.refl _ _).alloc (Nat.le_refl _) _) (by simp))
    have HS2 : Hid (CBt W2 (w1.heap.size + 1) urA 9) := Lib.hid (by rw [← hW2]; rw [show w1.heap.size + 1 = (w1.alloc (.cells #[.string ⟨#[112, 120]⟩, .string ⟨#[101]⟩, .string ⟨#[101, 51]⟩, .string ⟨#[69, 51]⟩, .string ⟨#[101, 45, 51]⟩, .string ⟨#[69, 45, 97]⟩, .string ⟨#[101, 45]⟩, .string ⟨#[101, 120]⟩, .string ⟨#[45]⟩, .string ⟨#[45, 45]⟩, .string ⟨#[45, 97]⟩, .string ⟨#[120, 51]⟩, .string ⟨#[49]⟩, .string ⟨#[37]⟩, .string ⟨#[101, 195, 169]⟩] 9)).heap.size by simp]; exact CBt.new _ _ _)
    clear hW2 b2 HC1
    have q0 : W2.cell? ⟨w.heap.size, 0, none⟩ = some (.bool x1) := HC2.out.cell 0
    have q1 : W2.cell? ⟨w.heap.size, 1, none⟩ = some (.string s1) := HC2.out.cell 1
    have q2 : W2.cell? ⟨w.heap.size, 2, none⟩ = some (.string t1) := HC2.out.cell 2
    go_wp2
    go_ret
    exact ⟨rfl, HB2.out⟩
  · go_enter Tryz.func7, Tryz.ntmps7
    go_upto_region 1 with (fail)
    rw [HW0.out]
    have HC := Lib.hid hcs
    clear hcs
    go_wp2_with fail
    refine (A1.out _ (HT.out.keep B1.out)).mono ?_
    rintro e w1 ⟨rfl, hb1⟩
    have HB1 := Lib.hid (B1.out.trans (hb1.mono B1.out.size))
    have HC1 := Lib.hid (HC.out.keep hb1 HC.out.lt)
    clear hb1 HC
    go_upto_region 4 with (fail)
    obtain ⟨W2, hW2⟩ : ∃ W, (w1.alloc (.cells #[.string ⟨#[112, 120]⟩, .string ⟨#[101]⟩, .string ⟨#[101, 51]⟩, .string ⟨#[69, 51]⟩, .string ⟨#[101, 45, 51]⟩, .string ⟨#[69, 45, 97]⟩, .string ⟨#[101, 45]⟩, .string ⟨#[101, 120]⟩, .string ⟨#[45]⟩, .string ⟨#[45, 45]⟩, .string ⟨#[45, 97]⟩, .string ⟨#[120, 51]⟩, .string ⟨#[49]⟩, .string ⟨#[37]⟩, .string ⟨#[101, 195, 169]⟩] 9)).alloc (.cells #[.string ⟨#[112, 120]⟩, .string ⟨#[101]⟩, .string ⟨#[92, 54, 53, 32, 51]⟩, .string ⟨#[92, 52, 53, 32, 51]⟩, .string ⟨#[92, 54, 53, 32, 45, 51]⟩, .string ⟨#[69, 45, 97]⟩, .string ⟨#[101, 45]⟩, .string ⟨#[101, 120]⟩, .string ⟨#[92, 45]⟩, .string ⟨#[45, 45]⟩, .string ⟨#[45, 97]⟩, .string ⟨#[120, 51]⟩, .string ⟨#[92, 51, 49, 32]⟩, .string ⟨#[92, 37]⟩, .string ⟨#[101, 195, 169]⟩] 9) = W := ⟨_, rfl⟩
    rw [hW2]
    have b2 : Below w1.heap.size w1 W2 := by rw [← hW2]; exact ((Below.refl _ _).alloc (Nat.le_refl _) _).alloc (by simp) _
    have HB2 := Lib.hid (HB1.out.trans (b2.mono HB1.out.size))
    have HC2 := Lib.hid (HC1.out.keep b2 HC1.out.lt)
    have HL2 : Hid (CBt W2 w1.heap.size unA 9) := Lib.hid (by rw [← hW2]; exact (CBt.new w1 _ _).keep ((Below.refl _ _).alloc (Nat.le_refl _) _) (by simp))
    have HS2 : Hid (CBt W2 (w1.heap.size + 1) urA 9) := Lib.hid (by rw [← hW2]; rw [show w1.heap.size + 1 = (w1.alloc (.cells #[.string ⟨#[112, 120]⟩, .string ⟨#[101]⟩, .string ⟨#[101, 51]⟩, .string ⟨#[69, 51]⟩, .string ⟨#[101, 45, 51]⟩, .string ⟨#[69, 45, 97]⟩, .string ⟨#[101, 45]⟩, .string ⟨#[101, 120]⟩, .string ⟨#[45]⟩, .string ⟨#[45, 45]⟩, .string ⟨#[45, 97]⟩, .string ⟨#[120, 51]⟩, .string ⟨#[49]⟩, .string ⟨#[37]⟩, .string ⟨#[101, 195, 169]⟩] 9)).heap.size by simp]; exact CBt.new _ _ _)
    clear hW2 b2 HC1
    have q0 : W2.cell? ⟨w.heap.size, 0, none⟩ = some (.bool x1) := HC2.out.cell 0
    have q1 : W2.cell? ⟨w.heap.size, 1, none⟩ = some (.string s1) := HC2.out.cell 1
    have q2 : W2.cell? ⟨w.heap.size, 2, none⟩ = some (.string t1) := HC2.out.cell 2
    go_wp2
    go_ret
    exact ⟨rfl, HB2.out⟩
  · go_enter Tryz.func7, Tryz.ntmps7
    go_upto_region 1 with (fail)
    rw [HW0.out]
    have HC := Lib.hid hcs
    clear hcs
    go_wp2_with fail
    refine (A1.out _ (HT.out.keep B1.out)).mono ?_
    rintro e w1 ⟨rfl, hb1⟩
    have HB1 := Lib.hid (B1.out.trans (hb1.mono B1.out.size))
    have HC1 := Lib.hid (HC.out.keep hb1 HC.out.lt)
    clear hb1 HC
    go_upto_region 4 with (fail)
    obtain ⟨W2, hW2⟩ : ∃ W, (w1.alloc (.cells #[.string ⟨#[112, 120]⟩, .string ⟨#[101]⟩, .string ⟨#[101, 51]⟩, .string ⟨#[69, 51]⟩, .string ⟨#[101, 45, 51]⟩, .string ⟨#[69, 45, 97]⟩, .string ⟨#[101, 45]⟩, .string ⟨#[101, 120]⟩, .string ⟨#[45]⟩, .string ⟨#[45, 45]⟩, .string ⟨#[45, 97]⟩, .string ⟨#[120, 51]⟩, .string ⟨#[49]⟩, .string ⟨#[37]⟩, .string ⟨#[101, 195, 169]⟩] 9)).alloc (.cells #[.string ⟨#[112, 120]⟩, .string ⟨#[101]⟩, .string ⟨#[92, 54, 53, 32, 51]⟩, .string ⟨#[92, 52, 53, 32, 51]⟩, .string ⟨#[92, 54, 53, 32, 45, 51]⟩, .string ⟨#[69, 45, 97]⟩, .string ⟨#[101, 45]⟩, .string ⟨#[101, 120]⟩, .string ⟨#[92, 45]⟩, .string ⟨#[45, 45]⟩, .string ⟨#[45, 97]⟩, .string ⟨#[120, 51]⟩, .string ⟨#[92, 51, 49, 32]⟩, .string ⟨#[92, 37]⟩, .string ⟨#[101, 195, 169]⟩] 9) = W := ⟨_, rfl⟩
    rw [hW2]
    have b2 : Below w1.heap.size w1 W2 := by rw [← hW2]; exact ((Below.refl _ _).alloc (Nat.le_refl _) _).alloc (by simp) _
    have HB2 := Lib.hid (HB1.out.trans (b2.mono HB1.out.size))
    have HC2 := Lib.hid (HC1.out.keep b2 HC1.out.lt)
    have HL2 : Hid (CBt W2 w1.heap.size unA 9) := Lib.hid (by rw [← hW2]; exact (CBt.new w1 _ _).keep ((Below.refl _ _).alloc (Nat.le_refl _) _) (by simp))
    have HS2 : Hid (CBt W2 (w1.heap.size + 1) urA 9) := Lib.hid (by rw [← hW2]; rw [show w1.heap.size + 1 = (w1.alloc (.cells #[.string ⟨#[112, 120]⟩, .string ⟨#[101]⟩, .string ⟨#[101, 51]⟩, .string ⟨#[69, 51]⟩, .string ⟨#[101, 45, 51]⟩, .string ⟨#[69, 45, 97]⟩, .string ⟨#[101, 45]⟩, .string ⟨#[101, 120]⟩, .string ⟨#[45]⟩, .string ⟨#[45, 45]⟩, .string ⟨#[45, 97]⟩, .string ⟨#[120, 51]⟩, .string ⟨#[49]⟩, .string ⟨#[37]⟩, .string ⟨#[101, 195, 169]⟩] 9)).heap.size by simp]; exact CBt.new _ _ _)
    clear hW2 b2 HC1
    have q0 : W2.cell? ⟨w.heap.size, 0, none⟩ = some (.bool x1) := HC2.out.cell 0
    have q1 : W2.cell? ⟨w.heap.size, 1, none⟩ = some (.string s1) := HC2.out.cell 1
    have q2 : W2.cell? ⟨w.heap.size, 2, none⟩ = some (.string t1) := HC2.out.cell 2
    go_wp2
    go_ret
    exact ⟨rfl, HB2.out⟩
end Go.Proofs.YtbmfoedglhfcaaaGreatDoor
