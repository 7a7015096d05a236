/- Texts of ours in one: ZUe WTd ZRec ZTxt ZNum ZLst ZItA ZList ZParse. -/
import Derived.Test.YtlobinjdgcidmaaDoorQj14
import Derived.Test.YtlobinjdgcidmaaDoorQj02
import Derived.Test.YtlobinjdgcidmaaDoorQj09
import Derived.Test.YtlobinjdgcidmaaDoorQj15
import Derived.Test.YtlobinjdgcidmaaDoorQj13
import Derived.Deep.RegionHeld
import Derived.Deep.QuietTactic
import Derived.BigQuiet
import Derived.Test.YtlobinjdgcidmaaDoorQj12
import Derived.Tactics
import Derived.Tactics2
import Derived.Defers
import Derived.Recover
import Derived.Laws.Pointers
import Derived.Test.YtlobinjdgcidmaaDoorQj08
import Derived.Deep.DeepCutAuto
import Derived.Great.BuildSlice
/- jparse.Units of the program. -/
namespace Go.Proofs.YtlobinjdgcidmaaDoor
open Go.RowKit
set_option linter.unusedVariables false
set_option linter.unusedSimpArgs false

theorem pairU_two (r : Nat) : (M.pairU r).length ≤ 2 := by unfold M.pairU; split <;> simp
end Go.Proofs.YtlobinjdgcidmaaDoor
/- A region whose order is drawn, whose last operations write a cell that earlier ones read: what is held is held up to a chosen operation. -/
namespace Go.Proofs.YtlobinjdgcidmaaDoor
open Go.RowKit
set_option linter.unusedVariables false
set_option linter.unusedSimpArgs false

section
variable {P : Program} {ops : Array Oper} {Q : Exit → Act → World → Prop} {md : Region.Mode} {S : World → Prop} {d : Nat}

def AnyTo (P : Program) (md : Region.Mode) (ops : Array Oper) (Q : Exit → Act → World → Prop) (S : World → Prop) (d : Nat) : Nat → Array Bool → Act → World → Prop
  | 0, l, a, w => Region.ready md ops l = [] ∧ Q .normal a w
  | n + 1, l, a, w => (Region.ready md ops l = [] → Q .normal a w) ∧
    ∀ i ∈ Region.ready md ops l, wpOp P ops Q i (fun a' w' => ((l.setIfInBounds i true).getD d true = false → S w') ∧ AnyTo P md ops Q S d n (l.setIfInBounds i true) a' w') a w
theorem AnyTo.any : ∀ (n : Nat) (l : Array Bool) (a : Act) (w : World), AnyTo P md ops Q S d n l a w → wpAny P md ops Q n l a w
  | 0, _, _, _, h => h
  | n + 1, _, _, _, h => ⟨h.1, fun i hi => wpOp_mono (fun a' w' g => AnyTo.any n _ a' w' g.2) (h.2 i hi)⟩
def waitsFor (md : Region.Mode) (ops : Array Oper) (d i : Nat) : Bool := (ops[d]?.map fun o => o.after.any fun e => Region.binds md e && (e.on == i)).getD false
theorem waits_not {i : Nat} {l : Array Bool} (hw : waitsFor md ops d i = true) (hi : l.getD i true = false) : d ∉ Region.ready md ops l := by
  intro hd
  obtain ⟨-, o, ho, hall⟩ := mem_ready.1 hd
  unfold waitsFor at hw
  rw [ho] at hw
  simp only [Option.map_some, Option.getD_some, Array.any_eq_true, Bool.and_eq_true, beq_iff_eq] at hw
  obtain ⟨k, hk, hb, he⟩ := hw
  have := hall o.after[k] (Array.getElem_mem hk) hb
  rw [he] at this
  rcases Nat.lt_or_ge i l.size with h' | h'
  · simp [h'] at hi this; rw [hi] at this; cases this
  · simp [Array.getElem?_eq_none h'] at this
theorem AnyTo.first {T : World → Prop} {i : Nat} {oi : Oper} {v : Value} (hi : ops[i]? = some oi) (hsel : ∀ (j : Nat) (o : Oper) cs b, ops[j]? = some o → o.op ≠ .select cs b)
    (hQ : ∀ c a w, Q (.panic c) (a.put oi.dst v) w → Q (.panic c) a w) (hid : i ≠ d)
    (hT : ∀ w, T w ∨ (waitsFor md ops d i = true ∧ (S w → T w))) :
    ∀ (n : Nat) (l : Array Bool) (a : Act) (w : World),
      (∀ j oj, ops[j]? = some oj → j ≠ i → l.getD j true = false → (∀ e ∈ oj.after, Region.binds md e = true → e.on ≠ i) → oi.apart ops oj = true) →
      i ∈ Region.ready md ops l → YieldsIf P ops T oi v a → T w → (l.getD d true = false → S w) → (waitsFor md ops d i = true → l.getD d true = false) →
      AnyTo P md ops Q S d n (l.setIfInBounds i true) (a.put oi.dst v) w → AnyTo P md ops Q S d (n + 1) l a w := by
  have hset : ∀ l : Array Bool, (l.setIfInBounds i true).getD d true = l.getD d true := fun l => getD_set_ne true hid
  intro n
  induction n with
  | zero =>
    intro l a w _ hr hy hTw hS _ H
    refine ⟨fun h => (by rw [h] at hr; cases hr), fun j hj => ?_⟩
    by_cases hji : j = i
    · subst hji; exact hy.wpOp hi hTw ⟨fun h => hS (by rw [← hset l]; exact h), H⟩
    · have := ready_mono hj hji
      rw [H.1] at this
      cases this
  | succ n ih =>
    intro l a w hfree hr hy hTw hS hdl H
    refine ⟨fun h => (by rw [h] at hr; cases hr), fun j hj => ?_⟩
    by_cases hji : j = i
    · subst hji; exact hy.wpOp hi hTw ⟨fun h => hS (by rw [← hset l]; exact h), H⟩
    · have h1 := H.2 j (ready_mono hj hji)
      obtain ⟨hjun, oj, hoj, hall⟩ := mem_ready.1 hj
      have hiun := (mem_ready.1 hr).1
      have hnot : ∀ e ∈ oj.after, Region.binds md e = true → e.on ≠ i := fun e he hb heq => by
        have h1 := hall e he hb
        rw [heq] at h1
        rcases Nat.lt_or_ge i l.size with h' | h'
        · simp [h'] at hiun h1; rw [hiun] at h1; cases h1
        · simp [Array.getElem?_eq_none h'] at h1
      have hjd : waitsFor md ops d i = true → j ≠ d := fun hw e => waits_not hw hiun (e ▸ hj)
      have hset2 : ∀ m : Array Bool, j ≠ d → (m.setIfInBounds j true).getD d true = m.getD d true := fun m h => getD_set_ne true h
      have h2 := wpOp_putIf hoj (hfree j oj hoj hji hjun hnot) (fun cs b => hsel i oi cs b hi) (fun cs b => hsel j oj cs b hoj) hQ hy h1
      have hfree' : ∀ k ok, ops[k]? = some ok → k ≠ i → (l.setIfInBounds j true).getD k true = false →
          (∀ e ∈ ok.after, Region.binds md e = true → e.on ≠ i) → oi.apart ops ok = true := fun k ok hk hki hun hno => by
        refine hfree k ok hk hki ?_ hno
        by_cases hjk : j = k
        · subst hjk; exact hjun
        · rw [getD_set_ne true hjk] at hun; exact hun
      have comm : (l.setIfInBounds i true).setIfInBounds j true = (l.setIfInBounds j true).setIfInBounds i true := Array.setIfInBounds_comm _ _ (Ne.symm hji)
      refine wpOp_mono (fun a' w' h3 => ?_) h2
      have hS' : (l.setIfInBounds j true).getD d true = false → S w' := fun h => h3.2.1 (by rw [comm, hset]; exact h)
      have hd' : waitsFor md ops d i = true → (l.setIfInBounds j true).getD d true = false := fun hw => by rw [hset2 _ (hjd hw)]; exact hdl hw
      refine ⟨hS', ih (l.setIfInBounds j true) a' w' hfree' (ready_mono hr (Ne.symm hji)) h3.1 ?_ hS' hd' ?_⟩
      · rcases hT w' with h | ⟨hw, h⟩
        · exact h
        · exact h (hS' (hd' hw))
      · rw [← comm]; exact h3.2.2
theorem dtk (i : Nat) {oi : Oper} {v : Value} {fuel : Nat} {listed l2 : Array Bool} {a a2 : Act} {w : World}
    (h : AnyTo P md ops Q S d fuel l2 a2 w)
    (hi : ops[i]? = some oi := by exact (List.getElem?_toArray.trans (by simp only [List.getElem?_cons_succ, List.getElem?_cons_zero]; exact rfl)))
    (hy : YieldsIf P ops S oi v a := by exact Or.inl ⟨by rfl, by intro V hSV; (try dsimp only at hSV); (first | obtain ⟨s0, s1, s2, s3, s4, s5⟩ := hSV | obtain ⟨s0, s1, s2, s3, s4⟩ := hSV | obtain ⟨s0, s1, s2, s3⟩ := hSV | obtain ⟨s0, s1, s2⟩ := hSV | obtain ⟨s0, s1⟩ := hSV | skip); go_simp; (first | rw [if_neg (by omega)] | rw [if_pos (by omega)] | skip); (try with_reducible rfl)⟩)
    (hs : Region.noSelect ops = true := by kernel_rfl) (hf : Region.free md ops listed i = true := by kernel_rfl) (hr : (Region.ready md ops listed).contains i = true := by kernel_rfl)
    (hw : (waitsFor md ops d i && (listed.getD d true == false) && (i != d)) = true := by kernel_rfl)
    (hQ : ∀ c a w, Q (.panic c) (a.put oi.dst v) w → Q (.panic c) a w := by exact fun _ _ _ h => h) (hS : S w := by assumption)
    (hl : listed.setIfInBounds i true = l2 := by first | (simp only [List.getElem_toArray, List.getElem_cons_succ, List.getElem_cons_zero, Act.put, List.setIfInBounds_toArray, List.set_cons_zero, List.set_cons_succ]; done) | (simp only [List.getElem_toArray, List.getElem_cons_succ, List.getElem_cons_zero, Act.put, List.setIfInBounds_toArray, List.set_cons_zero, List.set_cons_succ]; exact rfl) | exact rfl)
    (ha : a.put oi.dst v = a2 := by first | (simp only [List.getElem_toArray, List.getElem_cons_succ, List.getElem_cons_zero, Act.put, List.setIfInBounds_toArray, List.set_cons_zero, List.set_cons_succ]; done) | (simp only [List.getElem_toArray, List.getElem_cons_succ, List.getElem_cons_zero, Act.put, List.setIfInBounds_toArray, List.set_cons_zero, List.set_cons_succ]; exact rfl) | exact rfl) :
    AnyTo P md ops Q S d (fuel + 1) listed a w := by
  rw [Bool.and_eq_true, Bool.and_eq_true] at hw
  obtain ⟨⟨h1, h2⟩, h3⟩ := hw
  exact AnyTo.first (T := S) hi (Region.noSelect_spec hs) hQ (by simpa using h3) (fun _ => .inr ⟨h1, id⟩) fuel listed a w (Region.free_spec hi hf) (by simpa using hr) hy hS (fun _ => hS) (fun _ => by simpa using h2) (by rw [hl, ha]; exact h)
theorem dtp (i : Nat) {oi : Oper} {v : Value} {fuel : Nat} {listed l2 : Array Bool} {a a2 : Act} {w : World}
    (h : AnyTo P md ops Q S d fuel l2 a2 w)
    (hi : ops[i]? = some oi := by exact (List.getElem?_toArray.trans (by simp only [List.getElem?_cons_succ, List.getElem?_cons_zero]; exact rfl)))
    (hy : YieldsIf P ops (fun _ => True) oi v a := by exact Or.inl ⟨by rfl, by intro V hSV; go_simp; (first | rw [if_neg (by omega)] | rw [if_pos (by omega)] | skip); (try with_reducible rfl)⟩)
    (hs : Region.noSelect ops = true := by kernel_rfl) (hf : Region.free md ops listed i = true := by kernel_rfl) (hr : (Region.ready md ops listed).contains i = true := by kernel_rfl)
    (hw : (i != d && (!(waitsFor md ops d i) || (listed.getD d true == false))) = true := by kernel_rfl)
    (hQ : ∀ c a w, Q (.panic c) (a.put oi.dst v) w → Q (.panic c) a w := by exact fun _ _ _ h => h) (hS : S w := by assumption)
    (hl : listed.setIfInBounds i true = l2 := by first | (simp only [List.getElem_toArray, List.getElem_cons_succ, List.getElem_cons_zero, Act.put, List.setIfInBounds_toArray, List.set_cons_zero, List.set_cons_succ]; done) | (simp only [List.getElem_toArray, List.getElem_cons_succ, List.getElem_cons_zero, Act.put, List.setIfInBounds_toArray, List.set_cons_zero, List.set_cons_succ]; exact rfl) | exact rfl)
    (ha : a.put oi.dst v = a2 := by first | (simp only [List.getElem_toArray, List.getElem_cons_succ, List.getElem_cons_zero, Act.put, List.setIfInBounds_toArray, List.set_cons_zero, List.set_cons_succ]; done) | (simp only [List.getElem_toArray, List.getElem_cons_succ, List.getElem_cons_zero, Act.put, List.setIfInBounds_toArray, List.set_cons_zero, List.set_cons_succ]; exact rfl) | exact rfl) :
    AnyTo P md ops Q S d (fuel + 1) listed a w := by
  rw [Bool.and_eq_true, Bool.or_eq_true] at hw
  obtain ⟨h3, h2⟩ := hw
  refine AnyTo.first (T := fun _ => True) hi (Region.noSelect_spec hs) hQ (by simpa using h3) (fun _ => .inl trivial) fuel listed a w (Region.free_spec hi hf) (by simpa using hr) hy trivial (fun _ => hS) (fun h => ?_) (by rw [hl, ha]; exact h)
  rcases h2 with h2 | h2
  · rw [h] at h2; simp at h2
  · simpa using h2
def ReadyTo (P : Program) (md : Region.Mode) (ops : Array Oper) (Q : Exit → Act → World → Prop) (S : World → Prop) (d : Nat) (fuel : Nat) (l : Array Bool) (a : Act) (w : World) (rs : List Nat) : Prop :=
  ∀ i ∈ rs, wpOp P ops Q i (fun a' w' => ((l.setIfInBounds i true).getD d true = false → S w') ∧ AnyTo P md ops Q S d fuel (l.setIfInBounds i true) a' w') a w
theorem ReadyTo.nil {fuel : Nat} {l : Array Bool} {a : Act} {w : World} : ReadyTo P md ops Q S d fuel l a w [] := fun _ h => by cases h
theorem ReadyTo.cons {fuel : Nat} {l : Array Bool} {a : Act} {w : World} {i : Nat} {o : Oper} {rs : List Nat} (ho : ops[i]? = some o)
    (h : ∀ K' : Act → World → Prop, Shut (∀ a w, S w → (S w → AnyTo P md ops Q S d fuel (l.setIfInBounds i true) a w) → K' a w) → if Region.wanted o (yielded ops a.tmps) = true then Oper.wp P o a w K' Q else K' (a.put o.dst undef) w)
    (hs : ReadyTo P md ops Q S d fuel l a w rs) : ReadyTo P md ops Q S d fuel l a w (i :: rs) := fun j hj => by
  rcases List.mem_cons.1 hj with rfl | hj
  · exact wpOp_step ho (fun K' hK => h K' (fun a w hS hW => hK a w ⟨fun _ => hS, hW hS⟩))
  · exact hs j hj
theorem ReadyTo.last {fuel : Nat} {l : Array Bool} {a : Act} {w : World} {i : Nat} {o : Oper} {rs : List Nat} (ho : ops[i]? = some o) (hd : (l.setIfInBounds i true).getD d true = true)
    (h : ∀ K' : Act → World → Prop, Shut (∀ a w, AnyTo P md ops Q S d fuel (l.setIfInBounds i true) a w → K' a w) → if Region.wanted o (yielded ops a.tmps) = true then Oper.wp P o a w K' Q else K' (a.put o.dst undef) w)
    (hs : ReadyTo P md ops Q S d fuel l a w rs) : ReadyTo P md ops Q S d fuel l a w (i :: rs) := fun j hj => by
  rcases List.mem_cons.1 hj with rfl | hj
  · exact wpOp_step ho (fun K' hK => h K' (fun a w hW => hK a w ⟨(fun h => by rw [hd] at h; cases h), hW⟩))
  · exact hs j hj
theorem AnyTo.ready {rs : List Nat} {fuel : Nat} {l : Array Bool} {a : Act} {w : World} (hr : Region.ready md ops l = rs) (hne : rs ≠ [])
    (h : ReadyTo P md ops Q S d fuel l a w rs) : AnyTo P md ops Q S d (fuel + 1) l a w :=
  ⟨fun h0 => absurd (hr ▸ h0) hne, hr ▸ h⟩
theorem AnyTo.done {l : Array Bool} {a : Act} {w : World} (hr : Region.ready md ops l = []) (h : Q .normal a w) : ∀ fuel, AnyTo P md ops Q S d fuel l a w
  | 0 => ⟨hr, h⟩
  | _ + 1 => ⟨fun _ => h, by rw [hr]; simp⟩
theorem wp_region_to {id : Nat} (d : Nat) {a : Act} {w : World} (hm : P.follows .mixedOrders = true) (hS : S w.drew)
    (h : S w.drew → AnyTo P .any ops Q S d ops.size (Array.replicate ops.size false) a w.drew) : (Code.region id ops true).wp P Q a w :=
  wp_region_any hm (AnyTo.any _ _ _ _ (h hS))
end
end Go.Proofs.YtlobinjdgcidmaaDoor
/- jparse.Parse's deferred closure: what it does to a frame that panics with a stop, and to one that returns. -/
namespace Go.Proofs.YtlobinjdgcidmaaDoor
open Go.RowKit
set_option linter.unusedVariables false
set_option linter.unusedSimpArgs false

theorem infoF1 : (Tryd.prog.info? 39).map (·.size) = some 2 := by kernel_rfl
def zvl : List Value := vvl ⟨0, [], false, [], [], 0, 0, []⟩ nilV nilV nilV
end Go.Proofs.YtlobinjdgcidmaaDoor
/- jparse: text and number. -/
namespace Go.Proofs.YtlobinjdgcidmaaDoor
open Go.RowKit
set_option linter.unusedVariables false
set_option linter.unusedSimpArgs false

def Nw (B : Nat) (w : World) (b : Nat) : Prop := B ≤ b ∧ b < w.heap.size
theorem ownI_isP {B : Nat} {w : World} {v : Value} {l : List Int} (h : OwnI B w v l) : IsP (Nw B w) w v l := by
  have hn := OwnI.nn h
  have hlt := World.ownsRow.lt h
  have hh := h
  obtain ⟨a, cap, rfl, h1, h2, h3⟩ := OwnI.is h
  refine ⟨a, cap, rfl, h1, h2, fun e => by subst e; exact hn _ _ rfl, fun h0 => ?_⟩
  obtain ⟨b, off, rfl, hb, hc⟩ := h3 h0
  refine ⟨b, off, rfl, ⟨?_, hb⟩, hc⟩
  obtain ⟨_, ⟨e, _⟩ | ⟨g, c, cur, e, _⟩⟩ := hh
  · simp at e
  · simp only [Value.slice.injEq, Option.some.injEq, Addr.mk.injEq] at e
    rw [e.1.1]
    exact (hlt g (by rw [e.1.1, e.1.2.1]; rfl)).1
theorem Fr.setCell {pb : Nat} {w w' : World} (h : Fr pb w w') {g : Nat} (hg : w.heap.size ≤ g) (hp : pb ≤ g) (j : Nat) (u : Value) : Fr pb w (w'.setCell ⟨g, j, none⟩ u) :=
  ⟨h.lo.setCell (p := ⟨g, j, none⟩) hp u, fun i hi hn => by rw [heap_setCell_other _ _ _ _ (by show i ≠ g; omega)]; exact h.oth i hi hn⟩
theorem info3 : (Tryd.prog.info? 33).map (·.size) = some 3 := by kernel_rfl
end Go.Proofs.YtlobinjdgcidmaaDoor
/- jparse: number. -/
namespace Go.Proofs.YtlobinjdgcidmaaDoor
open Go.RowKit
set_option linter.unusedVariables false
set_option linter.unusedSimpArgs false

theorem readN_len (l : List UInt8) (hl : l.length ≤ 90000) : (M.readN l).1.2.1.length ≤ maxLen ∧ (M.readN l).1.2.2.length ≤ maxLen := by
  unfold M.readN
  cases h : (M.divW l).2 with
  | false => simp
  | true =>
    rw [if_pos rfl]
    have hp : M.divW l = ((M.divW l).1, true) := by rw [← h]
    have k := divW_dig l _ hp
    obtain ⟨p, hpp⟩ : ∃ p, (M.divW l).1 = p := ⟨_, rfl⟩
    rw [hpp] at k ⊢
    simp only
    unfold M.norm
    by_cases h0 : M.rstrip (M.strip (p.2.1 ++ p.2.2.1)) = []
    · rw [if_pos h0]; simp
    · rw [if_neg h0]
      have a1 := M.rstrip_len (M.strip (p.2.1 ++ p.2.2.1))
      have a2 := M.strip_len2 (p.2.1 ++ p.2.2.1)
      have a3 := k.2.2.1
      have a4 := M.dval_lt _ k.2.1
      have a5 := k.2.2.2
      refine ⟨by show (M.rstrip (M.strip (p.2.1 ++ p.2.2.1))).length ≤ _; unfold maxLen; omega, ?_⟩
      have a6 : p.2.2.1.length ≤ l.length := by rw [List.length_append] at a3; omega
      have hz : ((M.expV p - p.2.2.1.length) + ((M.strip (p.2.1 ++ p.2.2.1)).length - (M.rstrip (M.strip (p.2.1 ++ p.2.2.1))).length - (0 : Int))).natAbs < 10 ^ (l.length + 6) := by
        have e1 : (M.expV p).natAbs = M.dval p.2.2.2.2.2 := by unfold M.expV; split <;> omega
        have e2 : (10 : Nat) ^ p.2.2.2.2.2.length ≤ 10 ^ l.length := Nat.pow_le_pow_right (by decide) (by omega)
        have e3 : (10 : Nat) ^ (l.length + 6) = 10 ^ l.length * 1000000 := by rw [Nat.pow_add]
        have e4 : 1 ≤ (10 : Nat) ^ l.length := Nat.pos_of_ne_zero (by simp)
        rw [e3]
        generalize (10 : Nat) ^ l.length = T at *
        generalize (10 : Nat) ^ p.2.2.2.2.2.length = U at *
        omega
      have := M.txt_len _ _ (by omega) hz
      show (M.txt _).length ≤ _
      unfold maxLen
      omega
theorem Fr.setMid {pb : Nat} {w w' : World} (h : Fr pb w w') {g : Nat} (hg : w.heap.size ≤ g) (hp : pb ≤ g) (o : Nat) (vs : List Value) : Fr pb w (w'.setCells g o vs) :=
  ⟨below_setCells h.lo hp vs o, fun i hi hn => by rw [setCells_other _ _ _ _ _ (by omega)]; exact h.oth i hi hn⟩
end Go.Proofs.YtlobinjdgcidmaaDoor
/- jparse: a list of values that is being read: its box, the row of its items, the row of its marks. -/
namespace Go.Proofs.YtlobinjdgcidmaaDoor
open Go.RowKit
set_option linter.unusedVariables false
set_option linter.unusedSimpArgs false

theorem ownV_frame' {E sz B : Nat} {w w' : World} {v : Value} {l : List (List Value)} (h : OwnV E sz B w v l) (hf : ∀ j, v.ownBlock = some j → w'.heap[j]? = w.heap[j]?) : OwnV E sz B w' v l := by
  obtain ⟨⟨h1, h2⟩, h3, h4⟩ := h
  refine ⟨⟨h1, ?_⟩, h3, h4⟩
  rcases h2 with h2 | ⟨g, cap, cur, rfl, a, b, c⟩
  · exact .inl h2
  · exact .inr ⟨g, cap, cur, rfl, a, by rw [hf g rfl]; exact b, c⟩
theorem own_types' {E1 E2 s1 s2 B : Nat} {w : World} {v1 v2 : Value} {l1 l2 : List (List Value)} (h1 : OwnV E1 s1 B w v1 l1) (h2 : OwnV E2 s2 B w v2 l2) (hne : E1 ≠ E2) : ∀ j, v1.ownBlock = some j → some j ≠ v2.ownBlock := by
  intro j hj e
  obtain ⟨⟨_, h1⟩, _⟩ := h1
  obtain ⟨⟨_, h2⟩, _⟩ := h2
  rcases h1 with ⟨rfl, _⟩ | ⟨g, cap, cur, rfl, _, b, _⟩
  · simp [Value.ownBlock] at hj
  · rcases h2 with ⟨rfl, _⟩ | ⟨g', cap', cur', rfl, _, b', _⟩
    · simp [Value.ownBlock] at e
    · simp only [Value.ownBlock, Option.some.injEq] at hj e
      subst hj
      subst e
      rw [b] at b'
      simp only [Option.some.injEq, Obj.cells.injEq] at b'
      exact hne b'.2.1
theorem tneVI : 36 ≠ 3 := by decide
def icl (l : List Int) : List (List Value) := l.map fun z => [.int .i64 z]
def KidsC (P : Nat → Prop) (w : World) : List (List Value) → Vo → Prop
  | L, .nil => L = []
  | L, .cons h kids rest => ∃ tv v mv L', L = vvl h tv v mv :: L' ∧ HdP P w h tv mv ∧ VoP P w v kids ∧ KidsC P w L' rest
theorem KidsC.keep {P P' : Nat → Prop} {w w' : World} (hf : ∀ b, P b → w'.heap[b]? = w.heap[b]?) (hP : ∀ b, P b → P' b) (F : Vo) : ∀ L, KidsC P w L F → KidsC P' w' L F := by
  induction F with
  | nil => intro L h; exact h
  | cons k kids rest ih1 ih2 =>
    rintro L ⟨tv, v, mv, L', rfl, h1, h2, h3⟩
    exact ⟨tv, v, mv, L', rfl, (h1.keep hf).mono hP, (h2.keep hf).mono hP, ih2 L' h3⟩
theorem KidsC.len {P : Nat → Prop} {w : World} (F : Vo) : ∀ L, KidsC P w L F → L.length = F.len := by
  induction F with
  | nil => intro L h; rw [show L = [] from h]; rfl
  | cons k kids rest ih1 ih2 =>
    rintro L ⟨tv, v, mv, L', rfl, h1, h2, h3⟩
    simp only [List.length_cons, Vo.len, ih2 L' h3]
theorem KidsC.snoc {P : Nat → Prop} {w : World} {h : Vh} {tv v mv : Value} {kids : Vo} (hd : HdP P w h tv mv) (hv : VoP P w v kids) (F : Vo) : ∀ L, KidsC P w L F → KidsC P w (L ++ [vvl h tv v mv]) (F.snoc h kids) := by
  induction F with
  | nil => intro L h; rw [show L = [] from h]; exact ⟨tv, v, mv, [], rfl, hd, hv, rfl⟩
  | cons k1 kids1 rest ih1 ih2 =>
    rintro L ⟨tv1, v1, mv1, L', rfl, h1, h2, h3⟩
    exact ⟨tv1, v1, mv1, L' ++ [vvl h tv v mv], rfl, h1, h2, ih2 L' h3⟩
theorem kidsC_at {P : Nat → Prop} {w : World} {b : Nat} (F : Vo) : ∀ L off, KidsC P w L F → (∀ j (h : j < L.length) i u, L[j][i]? = some u → w.cell? ⟨b, off + (j * 9 + i), none⟩ = some u) → VoAt P w F b off := by
  induction F with
  | nil => intro L off _ _; trivial
  | cons h kids rest ih1 ih2 =>
    rintro L off ⟨tv, v, mv, L', rfl, h1, h2, h3⟩ hc
    obtain ⟨a, cap, rfl, p1, p2, p3, p4⟩ := h2
    refine ⟨⟨tv, mv, a, cap, h1, fun i u hu => ?_, p1, p2, p3, p4⟩, ih2 L' (off + 9) h3 fun j hj i u hu => ?_⟩
    · have := hc 0 (by simp) i u hu
      rw [Nat.zero_mul, Nat.zero_add] at this
      exact this
    · have := hc (j + 1) (by simp only [List.length_cons]; omega) i u (by simpa using hu)
      rw [show off + ((j + 1) * 9 + i) = off + 9 + (j * 9 + i) by omega] at this
      exact this
def Pk (bx : Nat) (W : World) (iv mv : Value) (b : Nat) : Prop := bx < b ∧ b < W.heap.size ∧ iv.ownBlock ≠ some b ∧ mv.ownBlock ≠ some b
structure Lst (pb bx : Nat) (W : World) (h : Vh) (iv mv : Value) (cs : List (List Value)) (L : Vo) : Prop where
  vb : VB W bx h nilV iv mv
  tx : h.tx = []
  dg : h.dg = []
  ex : h.ex = []
  lt : pb < bx
  io : OwnV 36 9 (bx + 1) W iv cs
  ks : KidsC (Pk bx W iv mv) W cs L
  mo : OwnV 3 1 (bx + 1) W mv (icl h.ms)
structure FrB (pb bx : Nat) (w w' : World) : Prop where
  lo : Below pb w w'
  oth : ∀ j, j < bx → j ≠ pb → w'.heap[j]? = w.heap[j]?
theorem FrB.refl (pb bx : Nat) (w : World) : FrB pb bx w w := ⟨Below.refl _ _, fun _ _ _ => rfl⟩
theorem FrB.trans {pb bx : Nat} {a b c : World} (h : FrB pb bx a b) (k : FrB pb bx b c) : FrB pb bx a c := ⟨h.lo.trans k.lo, fun j hj hn => (k.oth j hj hn).trans (h.oth j hj hn)⟩
theorem Fr.box {pb bx : Nat} {w w' : World} (h : Fr pb w w') (hb : bx ≤ w.heap.size) : FrB pb bx w w' := ⟨h.lo, fun j hj hn => h.oth j (by omega) hn⟩
theorem Lst.fr {pb bx : Nat} {W W' : World} {h : Vh} {iv mv : Value} {cs : List (List Value)} {L : Vo} (x : Lst pb bx W h iv mv cs L) (f : Fr pb W W') : Lst pb bx W' h iv mv cs L := by
  have lt := x.lt
  have lb := x.vb.lt
  refine ⟨x.vb.frame (f.oth _ lb (by omega)), x.tx, x.dg, x.ex, x.lt, ownV_frame' x.io fun j hj => ?_, x.ks.keep (fun b hb => ?_) (fun b hb => ?_), ownV_frame' x.mo fun j hj => ?_⟩
  · have := own_in x.io j hj; exact f.oth j this.2 (by omega)
  · exact f.oth b hb.2.1 (by have := hb.1; omega)
  · exact ⟨hb.1, Nat.lt_of_lt_of_le hb.2.1 f.lo.size, hb.2.2.1, hb.2.2.2⟩
  · have := own_in x.mo j hj; exact f.oth j this.2 (by omega)
theorem Lst.push {pb bx : Nat} {W W' : World} {h h2 : Vh} {iv mv iv' tv2 v2 mv2 : Value} {cs : List (List Value)} {L kids : Vo} (x : Lst pb bx W h iv mv cs L) {Q : Nat → Prop} (hd : HdP Q W h2 tv2 mv2) (hv : VoP Q W v2 kids)
    (hQ : ∀ b, Q b → Pk bx W iv mv b) (ho : OwnV 36 9 (bx + 1) W' iv' (cs ++ [vvl h2 tv2 v2 mv2])) (hb : Below (bx + 1) W W') (hf : ∀ j, j < W.heap.size → some j ≠ iv.ownBlock → W'.heap[j]? = W.heap[j]?) (hw : iv'.ownBlock = iv.ownBlock ∨ iv'.ownBlock = some W.heap.size) :
    Lst pb bx (W'.setCell ⟨bx, 5, none⟩ iv') h iv' mv (cs ++ [vvl h2 tv2 v2 mv2]) (L.snoc h2 kids) ∧ FrB pb bx W (W'.setCell ⟨bx, 5, none⟩ iv') := by
  have lt := x.lt
  have lb := x.vb.lt
  have hv1 := x.vb.frame (hb.block _ (by omega))
  have ne : ∀ {E s : Nat} {v : Value} {l : List (List Value)}, OwnV E s (bx + 1) W' v l → v.ownBlock ≠ some bx := fun h e => by have := (own_in h _ e).1; omega
  have m1 := ownV_frame' x.mo (w' := W') fun j hj => hf j (own_in x.mo j hj).2 (fun e => own_types' x.io x.mo tneVI j e.symm hj.symm)
  have nb : ∀ b, Pk bx W iv mv b → W'.heap[b]? = W.heap[b]? := fun b hp => hf b hp.2.1 (fun e => hp.2.2.1 e.symm)
  have nP : ∀ b, Pk bx W iv mv b → Pk bx (W'.setCell ⟨bx, 5, none⟩ iv') iv' mv b := fun b hp => ⟨hp.1, by rw [World.size_setCell]; exact Nat.lt_of_lt_of_le hp.2.1 hb.size, (by
    rcases hw with e | e
    · rw [e]; exact hp.2.2.1
    · rw [e]; intro e2; simp only [Option.some.injEq] at e2; have := hp.2.1; omega), hp.2.2.2⟩
  have nc : ∀ b, Pk bx W iv mv b → (W'.setCell ⟨bx, 5, none⟩ iv').heap[b]? = W.heap[b]? := fun b hp => by
    rw [heap_setCell_other _ _ _ _ (by show b ≠ bx; have := hp.1; omega)]; exact nb b hp
  refine ⟨⟨BK.setCell hv1 5 iv', x.tx, x.dg, x.ex, x.lt, OwnV.setOther ho _ _ (ne ho), ?_, OwnV.setOther m1 _ _ (ne m1)⟩, ?_⟩
  · exact KidsC.snoc ((hd.mono hQ |>.keep nc).mono nP) ((hv.mono hQ |>.keep nc).mono nP) L cs (x.ks.keep nc nP)
  · refine ⟨(hb.mono (by omega)).setCell (p := ⟨bx, 5, none⟩) (by show pb ≤ bx; omega) iv', fun j hj hn => ?_⟩
    rw [heap_setCell_other _ _ _ _ (by show j ≠ bx; omega)]
    exact hb.block j (by omega)
theorem Lst.mark {pb bx : Nat} {W W' : World} {h : Vh} {iv mv mv' : Value} {cs : List (List Value)} {L : Vo} {z : Int} (x : Lst pb bx W h iv mv cs L)
    (ho : OwnV 3 1 (bx + 1) W' mv' (icl (h.ms ++ [z]))) (hb : Below (bx + 1) W W') (hf : ∀ j, j < W.heap.size → some j ≠ mv.ownBlock → W'.heap[j]? = W.heap[j]?) (hw : mv'.ownBlock = mv.ownBlock ∨ mv'.ownBlock = some W.heap.size) :
    Lst pb bx (W'.setCell ⟨bx, 8, none⟩ mv') { h with ms := h.ms ++ [z] } iv mv' cs L ∧ FrB pb bx W (W'.setCell ⟨bx, 8, none⟩ mv') := by
  have lt := x.lt
  have lb := x.vb.lt
  have hv1 := x.vb.frame (hb.block _ (by omega))
  have ne : ∀ {E s : Nat} {v : Value} {l : List (List Value)}, OwnV E s (bx + 1) W' v l → v.ownBlock ≠ some bx := fun h e => by have := (own_in h _ e).1; omega
  have i1 := ownV_frame' x.io (w' := W') fun j hj => hf j (own_in x.io j hj).2 (own_types' x.io x.mo tneVI j hj)
  have nb : ∀ b, Pk bx W iv mv b → W'.heap[b]? = W.heap[b]? := fun b hp => hf b hp.2.1 (fun e => hp.2.2.2 e.symm)
  have nP : ∀ b, Pk bx W iv mv b → Pk bx (W'.setCell ⟨bx, 8, none⟩ mv') iv mv' b := fun b hp => ⟨hp.1, by rw [World.size_setCell]; exact Nat.lt_of_lt_of_le hp.2.1 hb.size, hp.2.2.1, (by
    rcases hw with e | e
    · rw [e]; exact hp.2.2.2
    · rw [e]; intro e2; simp only [Option.some.injEq] at e2; have := hp.2.1; omega)⟩
  have nc : ∀ b, Pk bx W iv mv b → (W'.setCell ⟨bx, 8, none⟩ mv').heap[b]? = W.heap[b]? := fun b hp => by
    rw [heap_setCell_other _ _ _ _ (by show b ≠ bx; have := hp.1; omega)]; exact nb b hp
  refine ⟨⟨BK.setCell hv1 8 mv', x.tx, x.dg, x.ex, x.lt, OwnV.setOther i1 _ _ (ne i1), x.ks.keep nc nP, OwnV.setOther ho _ _ (ne ho)⟩, ?_⟩
  · refine ⟨(hb.mono (by omega)).setCell (p := ⟨bx, 8, none⟩) (by show pb ≤ bx; omega) mv', fun j hj hn => ?_⟩
    rw [heap_setCell_other _ _ _ _ (by show j ≠ bx; omega)]
    exact hb.block j (by omega)
theorem icl_isP {B : Nat} {P : Nat → Prop} {W : World} {mv : Value} {ml : List Int} (h : OwnV 3 1 B W mv (icl ml)) (hP : ∀ b, B ≤ b → b < W.heap.size → P b) : IsP P W mv ml := by
  have hn := OwnV.nn h
  have hin := own_in h
  obtain ⟨a, cap, rfl, h1, h2, h3⟩ := OwnV.vs h
  have hl : (icl ml).length = ml.length := by simp [icl]
  refine ⟨a, cap, by rw [hl], by omega, h2, fun e => by subst e; exact hn _ _ rfl, fun h0 => ?_⟩
  obtain ⟨b, off, rfl, hb, hc⟩ := h3 (by omega)
  refine ⟨b, off, rfl, hP b ?_ hb, fun j hj => ?_⟩
  · obtain ⟨⟨_, q⟩, _⟩ := h
    rcases q with ⟨e, _⟩ | ⟨g, c, cur, e, _⟩
    · simp at e
    · simp only [Value.slice.injEq, Option.some.injEq, Addr.mk.injEq] at e
      rw [e.1.1]
      have := (hin g (by rw [e.1.1, e.1.2.1]; rfl)).1
      exact this
  · have := hc j (by omega) 0 (.int .i64 ml[j]) (by simp [icl])
    rw [Nat.mul_one, Nat.add_zero] at this
    exact this
end Go.Proofs.YtlobinjdgcidmaaDoor
/- jparse: item: what both forms want; an item of an array. -/
namespace Go.Proofs.YtlobinjdgcidmaaDoor
open Go.RowKit
set_option linter.unusedVariables false
set_option linter.unusedSimpArgs false

theorem infoValz : (Tryd.prog.info? 36).map (fun i => (i.zero, i.size, i.bytes)) = some (some (.agg zv), 9, 136) := by kernel_rfl
theorem fillz (c0 c1 c2 c3 c4 c5 c6 c7 c8 : Value) (s : Nat) (hs : s = 9) (zc : Array Value) (hz : zc.size = 9) : Instr.fill (fun i => some (i * s, s)) zc [(0, .agg #[c0, c1, c2, c3, c4, c5, c6, c7, c8])] = some #[c0, c1, c2, c3, c4, c5, c6, c7, c8] := by
  subst hs
  have e : zc = #[zc[0], zc[1], zc[2], zc[3], zc[4], zc[5], zc[6], zc[7], zc[8]] := by
    apply Array.ext
    · simp [hz]
    · intro i h1 h2
      have : i = 0 ∨ i = 1 ∨ i = 2 ∨ i = 3 ∨ i = 4 ∨ i = 5 ∨ i = 6 ∨ i = 7 ∨ i = 8 := by omega
      rcases this with rfl | rfl | rfl | rfl | rfl | rfl | rfl | rfl | rfl <;> rfl
  rw [e]
  simp [Instr.fill, Value.cells, List.zipIdx]
theorem wp_bsz {o : Oper} {a : Act} {w : World} {K : Act → World → Prop} {Q : Exit → Act → World → Prop} (x : Operand) (ho : o.op = .buildSlice 34 1 #[(0, x)])
    (c0 c1 c2 c3 c4 c5 c6 c7 c8 : Value) (hx : a.eval x = .agg #[c0, c1, c2, c3, c4, c5, c6, c7, c8])
    (h : K (a.put o.dst (.slice (some ⟨w.heap.size, 0, none⟩) 1 1)) (w.alloc (.cells #[c0, c1, c2, c3, c4, c5, c6, c7, c8] 36))) : o.wp Tryd.prog a w K Q := by
  obtain ⟨i0, hi, hz0, hz1, hz2⟩ := info_parts infoValz
  refine wp_buildSlice 34 36 1 _ ho #[c0, c1, c2, c3, c4, c5, c6, c7, c8] i0 _ Tryd.underlying34 hi hz0 (by rw [hz1]; decide) (by rw [hz1]; decide) ?_ h
  simp only [List.map_toArray, List.map_cons, List.map_nil, hx]
  exact fillz c0 c1 c2 c3 c4 c5 c6 c7 c8 _ hz1 _ (by rw [hz1]; simp)
theorem pk_new {pb bx : Nat} {W W' : World} {h : Vh} {iv mv : Value} {cs : List (List Value)} {L : Vo} (x : Lst pb bx W h iv mv cs L) {b : Nat} (hb : Nw W.heap.size W' b) : Pk bx W' iv mv b := by
  have lb := x.vb.lt
  refine ⟨by have := hb.1; omega, hb.2, fun e => ?_, fun e => ?_⟩
  · have := (own_in x.io b e).2; have := hb.1; omega
  · have := (own_in x.mo b e).2; have := hb.1; omega
theorem vvl_nine (h : Vh) {tv v mv : Value} (h1 : tv.oneCell' = true) (h2 : v.oneCell' = true) (h3 : mv.oneCell' = true) : ∀ c ∈ vvl h tv v mv, c.oneCell' = true := fun c hc =>
  (Array.all_eq_true_iff_forall_mem.1 (vv_one h h1 h2 h3)) c (by simpa [vv] using hc)
end Go.Proofs.YtlobinjdgcidmaaDoor
/- jparse: list: an array or an object. -/
namespace Go.Proofs.YtlobinjdgcidmaaDoor
open Go.RowKit
set_option linter.unusedVariables false
set_option linter.unusedSimpArgs false

theorem Lst.done2 {pb bx : Nat} {W : World} {h : Vh} {iv mv : Value} {cs : List (List Value)} {L : Vo} (x : Lst pb bx W h iv mv cs L) : HdP (fun b => bx < b ∧ b < W.heap.size) W h nilV mv ∧ VoP (fun b => bx < b ∧ b < W.heap.size) W iv L := by
  refine ⟨⟨by rw [x.dg]; exact Nat.zero_le _, by rw [x.ex]; exact Nat.zero_le _, by rw [x.tx]; exact isP_nil _ _, icl_isP x.mo fun b h1 h2 => ⟨by omega, h2⟩⟩, ?_⟩
  have hn := OwnV.nn x.io
  have hin := own_in x.io
  have hl := KidsC.len L cs x.ks
  have io := x.io
  obtain ⟨a, cap, rfl, h1, h2, h3⟩ := OwnV.vs x.io
  refine ⟨a, cap, by rw [← hl], by omega, h2, fun e => by subst e; exact hn _ _ rfl, fun h0 => ?_⟩
  obtain ⟨b, off, rfl, hb, hc⟩ := h3 (by omega)
  refine ⟨b, off, rfl, ⟨?_, hb⟩, voAt_mono (fun b hb => ⟨hb.1, hb.2.1⟩) L b off (kidsC_at L cs off x.ks hc)⟩
  obtain ⟨⟨_, q⟩, _⟩ := io
  rcases q with ⟨e, _⟩ | ⟨g, c, cur, e, _⟩
  · simp at e
  · simp only [Value.slice.injEq, Option.some.injEq, Addr.mk.injEq] at e
    rw [e.1.1]
    have := (hin g (by rw [e.1.1, e.1.2.1]; rfl)).1
    omega
theorem Fr.transB {pb bx : Nat} {a b c : World} (h : Fr pb a b) (k : FrB pb bx b c) (ha : a.heap.size ≤ bx) : Fr pb a c := ⟨h.lo.trans k.lo, fun j hj hn => (k.oth j (by omega) hn).trans (h.oth j hj hn)⟩
theorem Lst.shut {pb bx : Nat} {W : World} {h : Vh} {iv mv : Value} {cs : List (List Value)} {L : Vo} (x : Lst pb bx W h iv mv cs L) (z : Int) :
    VB (W.setCell ⟨bx, 7, none⟩ (.int .i64 z)) bx { h with tt := z } nilV iv mv ∧ HdP (fun b => bx < b ∧ b < W.heap.size) (W.setCell ⟨bx, 7, none⟩ (.int .i64 z)) { h with tt := z } nilV mv ∧ VoP (fun b => bx < b ∧ b < W.heap.size) (W.setCell ⟨bx, 7, none⟩ (.int .i64 z)) iv L := by
  obtain ⟨h1, h2⟩ := x.done2
  have ne : ∀ b, (bx < b ∧ b < W.heap.size) → (W.setCell ⟨bx, 7, none⟩ (.int .i64 z)).heap[b]? = W.heap[b]? := fun b hb => heap_setCell_other _ _ _ _ (by show b ≠ bx; omega)
  have k := h1.keep ne
  exact ⟨BK.setCell x.vb 7 (.int .i64 z), ⟨k.d, k.e, k.t, k.m⟩, h2.keep ne⟩
end Go.Proofs.YtlobinjdgcidmaaDoor
/- jparse.Parse. -/
namespace Go.Proofs.YtlobinjdgcidmaaDoor
open Go.RowKit
set_option linter.unusedVariables false
set_option linter.unusedSimpArgs false

def dpN (depth : Int) : Nat := (max 0 (min depth 60)).toNat
def parseV (l : List UInt8) (depth : Int) : Except (Int × Int) (Vh × Vo) := if (M.splitV l).2.1 = 0 then parP l (dpN depth) (M.splitV l).1 else .error ((M.splitV l).2.1, (M.splitV l).2.2)
def ParQ (R : Except (Int × Int) (Vh × Vo)) (w : World) (e : Ending) (w' : World) : Prop := match R with
  | .ok (h, kids) => ∃ tv v mv, e = .returned (.tuple #[.agg (vv h tv v mv), .agg #[.int .i64 0, .int .i64 0]]) ∧ HdP (Nw w.heap.size w') w' h tv mv ∧ VoP (Nw w.heap.size w') w' v kids ∧ Below w.heap.size w w'
  | .error x => e = .returned (.tuple #[.agg zvl.toArray, .agg #[.int .i64 x.1, .int .i64 x.2]]) ∧ Below w.heap.size w w'
theorem res_vf {fn : Func} {p q : Tmp} (h : fn.results = #[.cell p 36, .cell q 39]) (tmps : Array Value) (w : World) (g g2 : Nat) (cs ds : List Value)
    (hp : tmps.getD p undef = .pointer (some ⟨g, 0, none⟩)) (hq : tmps.getD q undef = .pointer (some ⟨g2, 0, none⟩)) (hg : BK 36 w g cs.toArray) (hs : cs.length = 9) (hg2 : BK 39 w g2 ds.toArray) (hs2 : ds.length = 2) :
    (results fn tmps).run Tryd.prog w = .ok (.tuple #[.agg cs.toArray, .agg ds.toArray]) w := by
  have e : (results fn tmps).run Tryd.prog w = ((asAddr (tmps.getD p undef)).run Tryd.prog w).andThen fun a w₁ => ((loadVar 36 a).run Tryd.prog w₁).andThen fun x w₂ => ((asAddr (tmps.getD q undef)).run Tryd.prog w₂).andThen fun b w₃ => ((loadVar 39 b).run Tryd.prog w₃).andThen fun y w₄ => .ok (.tuple #[x, y]) w₄ := by
    simp only [results, h]
    simp [Sem.run_bind, Result.andThen]
  rw [e, hp, hq]
  have a1 : (asAddr (.pointer (some ⟨g, 0, none⟩))).run Tryd.prog w = .ok ⟨g, 0, none⟩ w := rfl
  have a2 : (asAddr (.pointer (some ⟨g2, 0, none⟩))).run Tryd.prog w = .ok ⟨g2, 0, none⟩ w := rfl
  rw [a1]
  simp only [Result.andThen]
  rw [run_loadVar_mid w g 0 36 cs _ (hg.range 0 cs (by intro j u h; simpa using h)) Tryd.underlying36 rfl (by rw [hs]; exact infoV1)]
  simp only [Result.andThen]
  rw [a2]
  simp only [Result.andThen]
  rw [run_loadVar_mid w g2 0 39 ds _ (hg2.range 0 ds (by intro j u h; simpa using h)) Tryd.underlying39 rfl (by rw [hs2]; exact infoF1)]
theorem split_zero (l : List UInt8) (ts : M.Toks) (a : Int) (h : M.splitV l = (ts, 0, a)) : l.length ≤ 20000 ∧ a = 0 ∧ M.lexS l 0 = .ok ts ∧ (M.validAll l).2 = true := by
  unfold M.splitV at h
  split at h
  · simp at h
  · split at h
    · simp at h
    · cases hx : M.lexS l 0 with
      | error e => rw [hx] at h; simp at h
      | ok r =>
        rw [hx] at h
        simp only [Prod.mk.injEq] at h
        rename_i h1 h2
        exact ⟨by omega, by omega, by rw [h.1], by simpa using h2⟩
theorem cov_in (l : List UInt8) (r : M.Toks) : ∀ p, M.Cov l p r → TkIn l r := by
  induction r with
  | nil => intro p _ x hx; simp at hx
  | cons t r ih =>
    rintro p ⟨h1, h2, h3, h4, h5⟩ x hx
    rcases List.mem_cons.1 hx with rfl | hx
    · exact ⟨h2, h3⟩
    · exact ih _ h5 x hx
theorem lex_in (l : List UInt8) (r : M.Toks) (h : M.lexS l 0 = .ok r) : TkIn l r ∧ r.length ≤ l.length :=
  ⟨cov_in l r 0 (M.lex_cov l.length l 0 r (by omega) (by omega) (by simpa using h)), M.lex_len l r h⟩
theorem dpN_int (depth : Int) : ((dpN depth : Nat) : Int) = max 0 (min depth 60) ∧ dpN depth ≤ 60 := by unfold dpN; omega
end Go.Proofs.YtlobinjdgcidmaaDoor
