/- The walk of CnameFirst. -/
import Derived.Test.YtkaojigdogeliaaDoorEAlive
import Derived.Deep.QuietTactic
import Derived.BigQuiet
import Derived.Outline
namespace Go.Proofs.YtkaojigdogeliaaDoor
open Go.RowKit
set_option linter.unusedVariables false
set_option linter.unusedSimpArgs false

def fL : List (List UInt8) := [[], [97], [49], [45], [45, 45], [45, 49], [45, 97], [97, 45], [32], [10], [127], [33], [95], [195, 169], [97, 49], [49, 97], [45, 49, 97], [1], [97, 31], [46], [92], [45, 46], [45, 45, 49]]
def fC : List (List Int) := [[], [97], [49], [45], [45, 45], [45, 49], [45, 97], [97, 45], [32], [10], [127], [33], [95], [233], [97, 49], [49, 97], [45, 49, 97], [1], [97, 31], [46], [92], [45, 46], [45, 45, 49]]
def fS : List (List UInt8) := [[], [97], [92, 51, 49, 32], [92, 45], [45, 45], [45, 92, 51, 49, 32], [45, 97], [97, 45], [92, 32], [92, 97, 32], [92, 55, 102, 32], [92, 33], [95], [195, 169], [97, 49], [92, 51, 49, 32, 97], [45, 92, 51, 49, 32, 97], [92, 49, 32], [97, 92, 49, 102, 32], [92, 46], [92, 92], [45, 92, 46], [45, 45, 49]]
theorem f_fin : ∀ k : Fin 23, M.encZs (fC.getD k.val []) = fL.getD k.val [] ∧ (∀ r ∈ fC.getD k.val [], M.okP r) ∧ M.encZs (M.spF (fC.getD k.val [])) = fS.getD k.val [] ∧ (fL.getD k.val []).length ≤ 100 := by decide +kernel
theorem f_spell (k : Nat) (h : k < 23) (w : World) (hT : TabsE w) : Calls Tryd.prog 18 #[.string (bytes (fL.getD k []))] w (StP w (fS.getD k [])) := by
  obtain ⟨h1, h2, h3, h4⟩ := f_fin ⟨k, h⟩
  exact spell_any _ _ w hT (by simp only at h4; omega) (by rw [pn_lit _ _ h1 h2]; exact h3)
def eblkL : Obj := Obj.cells #[.string ⟨#[]⟩, .string ⟨#[97]⟩, .string ⟨#[49]⟩, .string ⟨#[45]⟩, .string ⟨#[45, 45]⟩, .string ⟨#[45, 49]⟩, .string ⟨#[45, 97]⟩, .string ⟨#[97, 45]⟩, .string ⟨#[32]⟩, .string ⟨#[10]⟩, .string ⟨#[127]⟩, .string ⟨#[33]⟩, .string ⟨#[95]⟩, .string ⟨#[195, 169]⟩, .string ⟨#[97, 49]⟩, .string ⟨#[49, 97]⟩, .string ⟨#[45, 49, 97]⟩, .string ⟨#[1]⟩, .string ⟨#[97, 31]⟩, .string ⟨#[46]⟩, .string ⟨#[92]⟩, .string ⟨#[45, 46]⟩, .string ⟨#[45, 45, 49]⟩] 9
def eblkS : Obj := Obj.cells #[.string ⟨#[]⟩, .string ⟨#[97]⟩, .string ⟨#[92, 51, 49, 32]⟩, .string ⟨#[92, 45]⟩, .string ⟨#[45, 45]⟩, .string ⟨#[45, 92, 51, 49, 32]⟩, .string ⟨#[45, 97]⟩, .string ⟨#[97, 45]⟩, .string ⟨#[92, 32]⟩, .string ⟨#[92, 97, 32]⟩, .string ⟨#[92, 55, 102, 32]⟩, .string ⟨#[92, 33]⟩, .string ⟨#[95]⟩, .string ⟨#[195, 169]⟩, .string ⟨#[97, 49]⟩, .string ⟨#[92, 51, 49, 32, 97]⟩, .string ⟨#[45, 92, 51, 49, 32, 97]⟩, .string ⟨#[92, 49, 32]⟩, .string ⟨#[97, 92, 49, 102, 32]⟩, .string ⟨#[92, 46]⟩, .string ⟨#[92, 92]⟩, .string ⟨#[45, 92, 46]⟩, .string ⟨#[45, 45, 49]⟩] 9
theorem ecases (k : Nat) (hk : k < 23) : k = 0 ∨ k = 1 ∨ k = 2 ∨ k = 3 ∨ k = 4 ∨ k = 5 ∨ k = 6 ∨ k = 7 ∨ k = 8 ∨ k = 9 ∨ k = 10 ∨ k = 11 ∨ k = 12 ∨ k = 13 ∨ k = 14 ∨ k = 15 ∨ k = 16 ∨ k = 17 ∨ k = 18 ∨ k = 19 ∨ k = 20 ∨ k = 21 ∨ k = 22 := by omega
theorem ecellL (w : World) (k : Nat) (hk : k < 23) : ((w.alloc eblkL).alloc eblkS).cell? ⟨w.heap.size, k, none⟩ = some (.string (bytes (fL.getD k []))) := by
  unfold eblkL eblkS
  rw [World.cell?_alloc_past _ _ _ (by simp), World.cell?_alloc_at _ _ _ _ rfl]
  rcases ecases k hk with rfl | rfl | rfl | rfl | rfl | rfl | rfl | rfl | rfl | rfl | rfl | rfl | rfl | rfl | rfl | rfl | rfl | rfl | rfl | rfl | rfl | rfl | rfl <;> rfl
theorem ecellS (w : World) (k : Nat) (hk : k < 23) : ((w.alloc eblkL).alloc eblkS).cell? ⟨w.heap.size + 1, k, none⟩ = some (.string (bytes (fS.getD k []))) := by
  unfold eblkL eblkS
  rw [World.cell?_alloc_at _ _ _ _ (by simp)]
  rcases ecases k hk with rfl | rfl | rfl | rfl | rfl | rfl | rfl | rfl | rfl | rfl | rfl | rfl | rfl | rfl | rfl | rfl | rfl | rfl | rfl | rfl | rfl | rfl | rfl <;> rfl
set_option maxRecDepth 100000 in
set_option maxHeartbeats 2000000 in
theorem efirst_walk (x0 : Int) (w : World) {P0 : Prop} (m0 : P0) (hT : TabsE w) :
    Calls Tryd.prog 7 #[.int .i64 x0] w fun e w' => e = .returned (.bool true) ∧ Below w.heap.size w w' := by
  have al := Lib.hid (alive_any w hT)
  have HT := Lib.hid hT
  by_cases hin : x0 < 0 ∨ 23 ≤ x0
  · clear hT
    rcases hin with hin | hin
    · go_enter Tryd.func7, Tryd.ntmps7
      go_wp2_with fail
      refine al.out.mono ?_
      rintro e w1 ⟨rfl, hb⟩
      have HB := Lib.hid hb
      clear hb
      go_wp2
      go_ret
      exact ⟨rfl, ((HB.out.alloc HB.out.size _).alloc (by have := HB.out.size; simp; omega) _)⟩
    · go_enter Tryd.func7, Tryd.ntmps7
      go_wp2_with fail
      refine al.out.mono ?_
      rintro e w1 ⟨rfl, hb⟩
      have HB := Lib.hid hb
      clear hb
      go_wp2
      go_ret
      exact ⟨rfl, ((HB.out.alloc HB.out.size _).alloc (by have := HB.out.size; simp; omega) _)⟩
  · obtain ⟨k, rfl⟩ : ∃ k : Nat, x0 = (k : Int) := ⟨x0.toNat, by omega⟩
    have hk : k < 23 := by omega
    have hk' : (k : Int) < 23 := by omega
    have hk0 : (0 : Int) ≤ k := by omega
    have SP := Lib.hid (fun W hW => f_spell k hk W hW)
    unfold StP at SP
    have hc1 := fun w1 => ecellL w1 k hk
    have hc2 := fun w1 => ecellS w1 k hk
    generalize bytes (fL.getD k []) = A at SP hc1
    generalize bytes (fS.getD k []) = B at SP hc2
    have eB : (B.toList == B.toList) = true := by simp
    have HC1 := Lib.hid hc1
    have HC2 := Lib.hid hc2
    clear hT hin hc1 hc2
    go_enter Tryd.func7, Tryd.ntmps7
    go_wp2_with fail
    refine al.out.mono ?_
    rintro e w1 ⟨rfl, hb⟩
    have c1 := HC1.out w1
    have c2 := HC2.out w1
    obtain ⟨W0, hW0⟩ : ∃ W0, (w1.alloc eblkL).alloc eblkS = W0 := ⟨_, rfl⟩
    have hb0 : Below w.heap.size w W0 := by rw [← hW0]; exact (hb.alloc hb.size _).alloc (by have := hb.size; simp; omega) _
    have hz0 : W0.heap.size = w1.heap.size + 1 + 1 := by rw [← hW0]; simp
    have q0 : w1.heap.size < W0.heap.size := by omega
    have q1 : w1.heap.size + 1 < W0.heap.size := by omega
    rw [hW0] at c1 c2
    unfold eblkL eblkS at hW0
    have HW0 := Lib.hid hW0
    have B0 := Lib.hid hb0
    have C1 := Lib.hid c1
    have C2 := Lib.hid c2
    clear hb hW0 hb0 c1 c2 HC1 HC2 hz0
    go_wp2
    rw [HW0.out]
    clear HW0
    refine wp_region_noPanic ?_
    refine wp_region_held_drew (S := fun V : World => V.cell? ⟨w1.heap.size, k, none⟩ = some (.string A) ∧ V.cell? ⟨w1.heap.size + 1, k, none⟩ = some (.string B)) (by kernel_rfl) ⟨C1.out, C2.out⟩ (fun hS => ?_)
    refine wpAnyH_take (i := 0) (oi := _) (v := ?_) (List.getElem?_toArray.trans (by simp only [List.getElem?_cons_succ, List.getElem?_cons_zero]; exact rfl)) (by kernel_rfl) (by kernel_rfl) (by kernel_rfl) (fun _ _ _ h => h) (Or.inl ⟨by rfl, ?_⟩) (by assumption) ?_
    rotate_left
    · (intro V hSV; (try dsimp only at hSV); go_simp; (try rw [if_neg (by omega)]); (try with_reducible rfl))
    try simp only [List.getElem_toArray, List.getElem_cons_succ, List.getElem_cons_zero, Act.put, List.setIfInBounds_toArray, List.set_cons_zero, List.set_cons_succ]
    refine wpAnyH_take (i := 1) (oi := _) (v := ?_) (List.getElem?_toArray.trans (by simp only [List.getElem?_cons_succ, List.getElem?_cons_zero]; exact rfl)) (by kernel_rfl) (by kernel_rfl) (by kernel_rfl) (fun _ _ _ h => h) (Or.inl ⟨by rfl, ?_⟩) (by assumption) ?_
    rotate_left
    · (intro V hSV; (try dsimp only at hSV); go_simp; (try rw [if_neg (by omega)]); (try with_reducible rfl))
    try simp only [List.getElem_toArray, List.getElem_cons_succ, List.getElem_cons_zero, Act.put, List.setIfInBounds_toArray, List.set_cons_zero, List.set_cons_succ]
    refine wpAnyH_take (i := 2) (oi := _) (v := ?_) (List.getElem?_toArray.trans (by simp only [List.getElem?_cons_succ, List.getElem?_cons_zero]; exact rfl)) (by kernel_rfl) (by kernel_rfl) (by kernel_rfl) (fun _ _ _ h => h) (Or.inl ⟨by rfl, ?_⟩) (by assumption) ?_
    rotate_left
    · (intro V hSV; (try dsimp only at hSV); go_simp; (try rw [if_neg (by omega)]); (try with_reducible rfl))
    try simp only [List.getElem_toArray, List.getElem_cons_succ, List.getElem_cons_zero, Act.put, List.setIfInBounds_toArray, List.set_cons_zero, List.set_cons_succ]
    refine wpAnyH_take (i := 3) (oi := _) (v := ?_) (List.getElem?_toArray.trans (by simp only [List.getElem?_cons_succ, List.getElem?_cons_zero]; exact rfl)) (by kernel_rfl) (by kernel_rfl) (by kernel_rfl) (fun _ _ _ h => h) (Or.inl ⟨by rfl, ?_⟩) (by assumption) ?_
    rotate_left
    · (intro V hSV; (try dsimp only at hSV); go_simp; (try rw [if_neg (by omega)]); (try with_reducible rfl))
    try simp only [List.getElem_toArray, List.getElem_cons_succ, List.getElem_cons_zero, Act.put, List.setIfInBounds_toArray, List.set_cons_zero, List.set_cons_succ]
    refine wpAnyH_take (i := 5) (oi := _) (v := ?_) (List.getElem?_toArray.trans (by simp only [List.getElem?_cons_succ, List.getElem?_cons_zero]; exact rfl)) (by kernel_rfl) (by kernel_rfl) (by kernel_rfl) (fun _ _ _ h => h) (Or.inl ⟨by rfl, ?_⟩) (by assumption) ?_
    rotate_left
    · (intro V hSV; (try dsimp only at hSV); go_simp; (try rw [if_neg (by omega)]); (try with_reducible rfl))
    try simp only [List.getElem_toArray, List.getElem_cons_succ, List.getElem_cons_zero, Act.put, List.setIfInBounds_toArray, List.set_cons_zero, List.set_cons_succ]
    refine wpAnyH_take (i := 6) (oi := _) (v := ?_) (List.getElem?_toArray.trans (by simp only [List.getElem?_cons_succ, List.getElem?_cons_zero]; exact rfl)) (by kernel_rfl) (by kernel_rfl) (by kernel_rfl) (fun _ _ _ h => h) (Or.inl ⟨by rfl, ?_⟩) (by assumption) ?_
    rotate_left
    · (intro V hSV; (try dsimp only at hSV); go_simp; (try rw [if_neg (by omega)]); (try with_reducible rfl))
    try simp only [List.getElem_toArray, List.getElem_cons_succ, List.getElem_cons_zero, Act.put, List.setIfInBounds_toArray, List.set_cons_zero, List.set_cons_succ]
    refine wpAnyH_take (i := 7) (oi := _) (v := ?_) (List.getElem?_toArray.trans (by simp only [List.getElem?_cons_succ, List.getElem?_cons_zero]; exact rfl)) (by kernel_rfl) (by kernel_rfl) (by kernel_rfl) (fun _ _ _ h => h) (Or.inl ⟨by rfl, ?_⟩) (by assumption) ?_
    rotate_left
    · (intro V hSV; (try dsimp only at hSV); go_simp; (try rw [if_neg (by omega)]); (try with_reducible rfl))
    try simp only [List.getElem_toArray, List.getElem_cons_succ, List.getElem_cons_zero, Act.put, List.setIfInBounds_toArray, List.set_cons_zero, List.set_cons_succ]
    refine wpAnyH_take (i := 8) (oi := _) (v := ?_) (List.getElem?_toArray.trans (by simp only [List.getElem?_cons_succ, List.getElem?_cons_zero]; exact rfl)) (by kernel_rfl) (by kernel_rfl) (by kernel_rfl) (fun _ _ _ h => h) (Or.inl ⟨by rfl, ?_⟩) (by assumption) ?_
    rotate_left
    · (intro V hSV; (try dsimp only at hSV); go_simp; (try rw [if_neg (by omega)]); (try with_reducible rfl))
    try simp only [List.getElem_toArray, List.getElem_cons_succ, List.getElem_cons_zero, Act.put, List.setIfInBounds_toArray, List.set_cons_zero, List.set_cons_succ]
    refine wpAnyH_ready (rs := [4]) (by kernel_rfl) (by simp) ?_
    refine AllReadyH.cons rfl (fun K hK => ?_) AllReadyH.nil
    go_simp
    refine (SP.out _ (HT.out.keep B0.out.drew)).mono ?_
    rintro e w5 ⟨rfl, hb5⟩
    refine hK.out _ _ (⟨(hb5.cell (p := ⟨w1.heap.size, k, none⟩) q0).trans hS.1, (hb5.cell (p := ⟨w1.heap.size + 1, k, none⟩) q1).trans hS.2⟩) (fun hS => ?_)
    clear hK K
    try simp only [List.getElem_toArray, List.getElem_cons_succ, List.getElem_cons_zero, Act.put, List.setIfInBounds_toArray, List.set_cons_zero, List.set_cons_succ]
    refine wpAnyH_take (i := 9) (oi := _) (v := ?_) (List.getElem?_toArray.trans (by simp only [List.getElem?_cons_succ, List.getElem?_cons_zero]; exact rfl)) (by kernel_rfl) (by kernel_rfl) (by kernel_rfl) (fun _ _ _ h => h) (Or.inl ⟨by rfl, ?_⟩) (by assumption) ?_
    rotate_left
    · (intro V hSV; (try dsimp only at hSV); go_simp; (try rw [if_neg (by omega)]); (try with_reducible rfl))
    try simp only [List.getElem_toArray, List.getElem_cons_succ, List.getElem_cons_zero, Act.put, List.setIfInBounds_toArray, List.set_cons_zero, List.set_cons_succ]
    refine wpAnyH_take (i := 10) (oi := _) (v := ?_) (List.getElem?_toArray.trans (by simp only [List.getElem?_cons_succ, List.getElem?_cons_zero]; exact rfl)) (by kernel_rfl) (by kernel_rfl) (by kernel_rfl) (fun _ _ _ h => h) (Or.inl ⟨by rfl, ?_⟩) (by assumption) ?_
    rotate_left
    · (intro V hSV; (try dsimp only at hSV); go_simp; (try rw [if_neg (by omega)]); (try with_reducible rfl))
    try simp only [List.getElem_toArray, List.getElem_cons_succ, List.getElem_cons_zero, Act.put, List.setIfInBounds_toArray, List.set_cons_zero, List.set_cons_succ]
    refine wpAnyH_done (by kernel_rfl) ?_ _
    refine NoPanic.normal ?_
    have hb6 : Below w.heap.size w w5 := B0.out.drew.trans (hb5.mono B0.out.size)
    clear hb5
    go_wp2
    go_ret
    exact ⟨rfl, hb6⟩
end Go.Proofs.YtkaojigdogeliaaDoor
