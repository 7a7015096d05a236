/- Texts of ours in one: WTd ZRec ZTxt. -/
import Derived.Test.YtlobinjdgcidmaaGreatDoorQs02
import Derived.Deep.RegionHeld
import Derived.Deep.QuietTactic
import Derived.BigQuiet
import Derived.Test.YtlobinjdgcidmaaGreatDoorQs19
import Derived.Tactics
import Derived.Tactics2
import Derived.Defers
import Derived.Recover
import Derived.Laws.Pointers
import Derived.Test.YtlobinjdgcidmaaGreatDoorQs18
/- A region whose order is drawn, whose last operations write a cell that earlier ones read: what is held is held up to a chosen operation. -/
namespace Go.Proofs.YtlobinjdgcidmaaGreatDoor
open Go.RowKit
set_option linter.unusedVariables false
set_option linter.unusedSimpArgs false

section
variable {P : Program} {ops : Array Oper} {Q : Exit → Act → World → Prop} {md : Region.Mode} {S : World → Prop} {d : Nat}

def AnyTo (P : Program) (md : Region.Mode) (ops : Array Oper) (Q : Exit → Act → World → Prop) (S : World → Prop) (d : Nat) : Nat → Array Bool → Act → World → Prop
  | 0, l, a, w => Region.ready md ops l = [] ∧ Q .normal a w
  | n + 1, l, a, w => (Region.ready md ops l = [] → Q .normal a w) ∧
    ∀ i ∈ Region.ready md ops l, wpOp P ops Q i (fun a' w' => ((l.setIfInBounds i true).getD d true = false → S w') ∧ AnyTo P md ops Q S d n (l.setIfInBounds i true) a' w') a w
theorem AnyTo.any : ∀ (n : Nat) (l : Array Bool) (a : Act) (w : World), AnyTo P md ops Q S d n l a w → wpAny P md ops Q n l a w
  | 0, _, _, _, h => h
  | n + 1, _, _, _, h => ⟨h.1, fun i hi => wpOp_mono (fun a' w' g => AnyTo.any n _ a' w' g.2) (h.2 i hi)⟩
def waitsFor (md : Region.Mode) (ops : Array Oper) (d i : Nat) : Bool := (ops[d]?.map fun o => o.after.any fun e => Region.binds md e && (e.on == i)).getD false
theorem waits_not {i : Nat} {l : Array Bool} (hw : waitsFor md ops d i = true) (hi : l.getD i true = false) : d ∉ Region.ready md ops l := by
  intro hd
  obtain ⟨-, o, ho, hall⟩ := mem_ready.1 hd
  unfold waitsFor at hw
  rw [ho] at hw
  simp only [Option.map_some, Option.getD_some, Array.any_eq_true, Bool.and_eq_true, beq_iff_eq] at hw
  obtain ⟨k, hk, hb, he⟩ := hw
  have := hall o.after[k] (Array.getElem_mem hk) hb
  rw [he] at this
  rcases Nat.lt_or_ge i l.size with h' | h'
  · simp [h'] at hi this; rw [hi] at this; cases this
  · simp [Array.getElem?_eq_none h'] at this
theorem AnyTo.first {T : World → Prop} {i : Nat} {oi : Oper} {v : Value} (hi : ops[i]? = some oi) (hsel : ∀ (j : Nat) (o : Oper) cs b, ops[j]? = some o → o.op ≠ .select cs b)
    (hQ : ∀ c a w, Q (.panic c) (a.put oi.dst v) w → Q (.panic c) a w) (hid : i ≠ d)
    (hT : ∀ w, T w ∨ (waitsFor md ops d i = true ∧ (S w → T w))) :
    ∀ (n : Nat) (l : Array Bool) (a : Act) (w : World),
      (∀ j oj, ops[j]? = some oj → j ≠ i → l.getD j true = false → (∀ e ∈ oj.after, Region.binds md e = true → e.on ≠ i) → oi.apart ops oj = true) →
      i ∈ Region.ready md ops l → YieldsIf P ops T oi v a → T w → (l.getD d true = false → S w) → (waitsFor md ops d i = true → l.getD d true = false) →
      AnyTo P md ops Q S d n (l.setIfInBounds i true) (a.put oi.dst v) w → AnyTo P md ops Q S d (n + 1) l a w := by
  have hset : ∀ l : Array Bool, (l.setIfInBounds i true).getD d true = l.getD d true := fun l => getD_set_ne true hid
  intro n
  induction n with
  | zero =>
    intro l a w _ hr hy hTw hS _ H
    refine ⟨fun h => (by rw [h] at hr; cases hr), fun j hj => ?_⟩
    by_cases hji : j = i
    · subst hji; exact hy.wpOp hi hTw ⟨fun h => hS (by rw [← hset l]; exact h), H⟩
    · have := ready_mono hj hji
      rw [H.1] at this
      cases this
  | succ n ih =>
    intro l a w hfree hr hy hTw hS hdl H
    refine ⟨fun h => (by rw [h] at hr; cases hr), fun j hj => ?_⟩
    by_cases hji : j = i
    · subst hji; exact hy.wpOp hi hTw ⟨fun h => hS (by rw [← hset l]; exact h), H⟩
    · have h1 := H.2 j (ready_mono hj hji)
      obtain ⟨hjun, oj, hoj, hall⟩ := mem_ready.1 hj
      have hiun := (mem_ready.1 hr).1
      have hnot : ∀ e ∈ oj.after, Region.binds md e = true → e.on ≠ i := fun e he hb heq => by
        have h1 := hall e he hb
        rw [heq] at h1
        rcases Nat.lt_or_ge i l.size with h' | h'
        · simp [h'] at hiun h1; rw [hiun] at h1; cases h1
        · simp [Array.getElem?_eq_none h'] at h1
      have hjd : waitsFor md ops d i = true → j ≠ d := fun hw e => waits_not hw hiun (e ▸ hj)
      have hset2 : ∀ m : Array Bool, j ≠ d → (m.setIfInBounds j true).getD d true = m.getD d true := fun m h => getD_set_ne true h
      have h2 := wpOp_putIf hoj (hfree j oj hoj hji hjun hnot) (fun cs b => hsel i oi cs b hi) (fun cs b => hsel j oj cs b hoj) hQ hy h1
      have hfree' : ∀ k ok, ops[k]? = some ok → k ≠ i → (l.setIfInBounds j true).getD k true = false →
          (∀ e ∈ ok.after, Region.binds md e = true → e.on ≠ i) → oi.apart ops ok = true := fun k ok hk hki hun hno => by
        refine hfree k ok hk hki ?_ hno
        by_cases hjk : j = k
        · subst hjk; exact hjun
        · rw [getD_set_ne true hjk] at hun; exact hun
      have comm : (l.setIfInBounds i true).setIfInBounds j true = (l.setIfInBounds j true).setIfInBounds i true := Array.setIfInBounds_comm _ _ (Ne.symm hji)
      refine wpOp_mono (fun a' w' h3 => ?_) h2
      have hS' : (l.setIfInBounds j true).getD d true = false → S w' := fun h => h3.2.1 (by rw [comm, hset]; exact h)
      have hd' : waitsFor md ops d i = true → (l.setIfInBounds j true).getD d true = false := fun hw => by rw [hset2 _ (hjd hw)]; exact hdl hw
      refine ⟨hS', ih (l.setIfInBounds j true) a' w' hfree' (ready_mono hr (Ne.symm hji)) h3.1 ?_ hS' hd' ?_⟩
      · rcases hT w' with h | ⟨hw, h⟩
        · exact h
        · exact h (hS' (hd' hw))
      · rw [← comm]; exact h3.2.2
theorem dtk (i : Nat) {oi : Oper} {v : Value} {fuel : Nat} {listed l2 : Array Bool} {a a2 : Act} {w : World}
    (h : AnyTo P md ops Q S d fuel l2 a2 w)
    (hi : ops[i]? = some oi := by exact (List.getElem?_toArray.trans (by simp only [List.getElem?_cons_succ, List.getElem?_cons_zero]; exact rfl)))
    (hy : YieldsIf P ops S oi v a := by exact Or.inl ⟨by rfl, by intro V hSV; (try dsimp only at hSV); (first | obtain ⟨s0, s1, s2, s3, s4, s5⟩ := hSV | obtain ⟨s0, s1, s2, s3, s4⟩ := hSV | obtain ⟨s0, s1, s2, s3⟩ := hSV | obtain ⟨s0, s1, s2⟩ := hSV | obtain ⟨s0, s1⟩ := hSV | skip); go_simp; (first | rw [if_neg (by omega)] | rw [if_pos (by omega)] | skip); (try with_reducible rfl)⟩)
    (hs : Region.noSelect ops = true := by kernel_rfl) (hf : Region.free md ops listed i = true := by kernel_rfl) (hr : (Region.ready md ops listed).contains i = true := by kernel_rfl)
    (hw : (waitsFor md ops d i && (listed.getD d true == false) && (i != d)) = true := by kernel_rfl)
    (hQ : ∀ c a w, Q (.panic c) (a.put oi.dst v) w → Q (.panic c) a w := by exact fun _ _ _ h => h) (hS : S w := by assumption)
    (hl : listed.setIfInBounds i true = l2 := by first | (simp only [List.getElem_toArray, List.getElem_cons_succ, List.getElem_cons_zero, Act.put, List.setIfInBounds_toArray, List.set_cons_zero, List.set_cons_succ]; done) | (simp only [List.getElem_toArray, List.getElem_cons_succ, List.getElem_cons_zero, Act.put, List.setIfInBounds_toArray, List.set_cons_zero, List.set_cons_succ]; exact rfl) | exact rfl)
    (ha : a.put oi.dst v = a2 := by first | (simp only [List.getElem_toArray, List.getElem_cons_succ, List.getElem_cons_zero, Act.put, List.setIfInBounds_toArray, List.set_cons_zero, List.set_cons_succ]; done) | (simp only [List.getElem_toArray, List.getElem_cons_succ, List.getElem_cons_zero, Act.put, List.setIfInBounds_toArray, List.set_cons_zero, List.set_cons_succ]; exact rfl) | exact rfl) :
    AnyTo P md ops Q S d (fuel + 1) listed a w := by
  rw [Bool.and_eq_true, Bool.and_eq_true] at hw
  obtain ⟨⟨h1, h2⟩, h3⟩ := hw
  exact AnyTo.first (T := S) hi (Region.noSelect_spec hs) hQ (by simpa using h3) (fun _ => .inr ⟨h1, id⟩) fuel listed a w (Region.free_spec hi hf) (by simpa using hr) hy hS (fun _ => hS) (fun _ => by simpa using h2) (by rw [hl, ha]; exact h)
theorem dtp (i : Nat) {oi : Oper} {v : Value} {fuel : Nat} {listed l2 : Array Bool} {a a2 : Act} {w : World}
    (h : AnyTo P md ops Q S d fuel l2 a2 w)
    (hi : ops[i]? = some oi := by exact (List.getElem?_toArray.trans (by simp only [List.getElem?_cons_succ, List.getElem?_cons_zero]; exact rfl)))
    (hy : YieldsIf P ops (fun _ => True) oi v a := by exact Or.inl ⟨by rfl, by intro V hSV; go_simp; (first | rw [if_neg (by omega)] | rw [if_pos (by omega)] | skip); (try with_reducible rfl)⟩)
    (hs : Region.noSelect ops = true := by kernel_rfl) (hf : Region.free md ops listed i = true := by kernel_rfl) (hr : (Region.ready md ops listed).contains i = true := by kernel_rfl)
    (hw : (i != d && (!(waitsFor md ops d i) || (listed.getD d true == false))) = true := by kernel_rfl)
    (hQ : ∀ c a w, Q (.panic c) (a.put oi.dst v) w → Q (.panic c) a w := by exact fun _ _ _ h => h) (hS : S w := by assumption)
    (hl : listed.setIfInBounds i true = l2 := by first | (simp only [List.getElem_toArray, List.getElem_cons_succ, List.getElem_cons_zero, Act.put, List.setIfInBounds_toArray, List.set_cons_zero, List.set_cons_succ]; done) | (simp only [List.getElem_toArray, List.getElem_cons_succ, List.getElem_cons_zero, Act.put, List.setIfInBounds_toArray, List.set_cons_zero, List.set_cons_succ]; exact rfl) | exact rfl)
    (ha : a.put oi.dst v = a2 := by first | (simp only [List.getElem_toArray, List.getElem_cons_succ, List.getElem_cons_zero, Act.put, List.setIfInBounds_toArray, List.set_cons_zero, List.set_cons_succ]; done) | (simp only [List.getElem_toArray, List.getElem_cons_succ, List.getElem_cons_zero, Act.put, List.setIfInBounds_toArray, List.set_cons_zero, List.set_cons_succ]; exact rfl) | exact rfl) :
    AnyTo P md ops Q S d (fuel + 1) listed a w := by
  rw [Bool.and_eq_true, Bool.or_eq_true] at hw
  obtain ⟨h3, h2⟩ := hw
  refine AnyTo.first (T := fun _ => True) hi (Region.noSelect_spec hs) hQ (by simpa using h3) (fun _ => .inl trivial) fuel listed a w (Region.free_spec hi hf) (by simpa using hr) hy trivial (fun _ => hS) (fun h => ?_) (by rw [hl, ha]; exact h)
  rcases h2 with h2 | h2
  · rw [h] at h2; simp at h2
  · simpa using h2
def ReadyTo (P : Program) (md : Region.Mode) (ops : Array Oper) (Q : Exit → Act → World → Prop) (S : World → Prop) (d : Nat) (fuel : Nat) (l : Array Bool) (a : Act) (w : World) (rs : List Nat) : Prop :=
  ∀ i ∈ rs, wpOp P ops Q i (fun a' w' => ((l.setIfInBounds i true).getD d true = false → S w') ∧ AnyTo P md ops Q S d fuel (l.setIfInBounds i true) a' w') a w
theorem ReadyTo.nil {fuel : Nat} {l : Array Bool} {a : Act} {w : World} : ReadyTo P md ops Q S d fuel l a w [] := fun _ h => by cases h
theorem ReadyTo.cons {fuel : Nat} {l : Array Bool} {a : Act} {w : World} {i : Nat} {o : Oper} {rs : List Nat} (ho : ops[i]? = some o)
    (h : ∀ K' : Act → World → Prop, Shut (∀ a w, S w → (S w → AnyTo P md ops Q S d fuel (l.setIfInBounds i true) a w) → K' a w) → if Region.wanted o (yielded ops a.tmps) = true then Oper.wp P o a w K' Q else K' (a.put o.dst undef) w)
    (hs : ReadyTo P md ops Q S d fuel l a w rs) : ReadyTo P md ops Q S d fuel l a w (i :: rs) := fun j hj => by
  rcases List.mem_cons.1 hj with rfl | hj
  · exact wpOp_step ho (fun K' hK => h K' (fun a w hS hW => hK a w ⟨fun _ => hS, hW hS⟩))
  · exact hs j hj
theorem ReadyTo.last {fuel : Nat} {l : Array Bool} {a : Act} {w : World} {i : Nat} {o : Oper} {rs : List Nat} (ho : ops[i]? = some o) (hd : (l.setIfInBounds i true).getD d true = true)
    (h : ∀ K' : Act → World → Prop, Shut (∀ a w, AnyTo P md ops Q S d fuel (l.setIfInBounds i true) a w → K' a w) → if Region.wanted o (yielded ops a.tmps) = true then Oper.wp P o a w K' Q else K' (a.put o.dst undef) w)
    (hs : ReadyTo P md ops Q S d fuel l a w rs) : ReadyTo P md ops Q S d fuel l a w (i :: rs) := fun j hj => by
  rcases List.mem_cons.1 hj with rfl | hj
  · exact wpOp_step ho (fun K' hK => h K' (fun a w hW => hK a w ⟨(fun h => by rw [hd] at h; cases h), hW⟩))
  · exact hs j hj
theorem AnyTo.ready {rs : List Nat} {fuel : Nat} {l : Array Bool} {a : Act} {w : World} (hr : Region.ready md ops l = rs) (hne : rs ≠ [])
    (h : ReadyTo P md ops Q S d fuel l a w rs) : AnyTo P md ops Q S d (fuel + 1) l a w :=
  ⟨fun h0 => absurd (hr ▸ h0) hne, hr ▸ h⟩
theorem AnyTo.done {l : Array Bool} {a : Act} {w : World} (hr : Region.ready md ops l = []) (h : Q .normal a w) : ∀ fuel, AnyTo P md ops Q S d fuel l a w
  | 0 => ⟨hr, h⟩
  | _ + 1 => ⟨fun _ => h, by rw [hr]; simp⟩
theorem wp_region_to {id : Nat} (d : Nat) {a : Act} {w : World} (hm : P.follows .mixedOrders = true) (hS : S w.drew)
    (h : S w.drew → AnyTo P .any ops Q S d ops.size (Array.replicate ops.size false) a w.drew) : (Code.region id ops true).wp P Q a w :=
  wp_region_any hm (AnyTo.any _ _ _ _ (h hS))
end
end Go.Proofs.YtlobinjdgcidmaaGreatDoor
/- jparse.Parse's deferred closure: what it does to a frame that panics with a stop, and to one that returns. -/
namespace Go.Proofs.YtlobinjdgcidmaaGreatDoor
open Go.RowKit
set_option linter.unusedVariables false
set_option linter.unusedSimpArgs false

theorem ta_nil (xT : TypeId) (w : World) : (Instr.typeAssert .nilIface xT 68 true).run Tryz.prog w = .ok (.tuple #[.agg #[.int .i64 0, .int .i64 0], .bool false]) w := by kernel_rfl
theorem ta_stop (v : Value) (xT : TypeId) (w : World) : (Instr.typeAssert (.iface 68 v) xT 68 true).run Tryz.prog w = .ok (.tuple #[v, .bool true]) w := by kernel_rfl
set_option maxRecDepth 100000 in
set_option maxHeartbeats 2000000 in
theorem catch_idle (p q : Addr) (w : World) :
    CallsD Tryz.prog 28 #[.pointer (some p), .pointer (some q)] .returning w fun e u' w' => e = .returned (.tuple #[]) ∧ u' = .returning ∧ Below w.heap.size w w' := by
  have h1 := ta_nil
  refine callsD_of_wpS Tryz.func28 rfl fun c₀ cs hu => ?_
  apply wpS_seq
  apply wpS_region
  simp [wpOpsS, go_sem, recoverD, hu, Tryz.ntmps28, Exit.thenS, h1]
  apply wpS_seq
  apply wpS_region
  simp [wpOpsS, go_sem, Exit.thenS, Array.replicate]
  refine wpS_cond (t := false) (by simp [Act.eval]) ?_
  simp only [Bool.false_eq_true, if_false]
  refine wpS_of_wp (wp_skip ?_)
  cases c₀
  simp_all [bodyPostS, results, Tryz.results28]
  exact (Below.refl _ _).alloc (Nat.le_refl _) _
theorem infoF1 : (Tryz.prog.info? 51).map (·.size) = some 2 := by kernel_rfl
structure Fr2 (p q : Nat) (w w' : World) : Prop where
  lo : Below 0 w w'
  oth : ∀ j, j < w.heap.size → j ≠ p → j ≠ q → w'.heap[j]? = w.heap[j]?
def zvl : List Value := vvl ⟨0, [], false, [], [], 0, 0, []⟩ nilV nilV nilV
set_option maxRecDepth 100000 in
set_option maxHeartbeats 2000000 in
theorem catch_stop (bp bq : Nat) (er at' : Int) (oldp oldq : Array Value) (older : List PanicEntry) (w : World) (hp : BK 48 w bp oldp) (hq : BK 51 w bq oldq) (hne : bp ≠ bq) (np : oldp.size = 9) (nq : oldq.size = 2) :
    CallsD Tryz.prog 28 #[.pointer (some ⟨bp, 0, none⟩), .pointer (some ⟨bq, 0, none⟩)] (.panicking ({ v := .iface 68 (.agg #[.int .i64 er, .int .i64 at']), recovered := false } :: older)) w fun e u' w' =>
      e = .returned (.tuple #[]) ∧ u' = .panicking ({ v := .iface 68 (.agg #[.int .i64 er, .int .i64 at']), recovered := true } :: older) ∧ BK 48 w' bp zvl.toArray ∧ BK 51 w' bq #[.int .i64 er, .int .i64 at'] ∧ Fr2 bp bq w w' := by
  have h1 := ta_stop
  have l1 := hp.lt
  have l2 := hq.lt
  refine callsD_of_wpS Tryz.func28 rfl fun c₀ cs hu => ?_
  apply wpS_seq
  apply wpS_region
  simp [wpOpsS, go_sem, recoverD, hu, Tryz.ntmps28, Exit.thenS, h1]
  apply wpS_seq
  apply wpS_region
  simp [wpOpsS, go_sem, Exit.thenS, Array.replicate]
  refine wpS_cond (t := true) (by simp [Act.eval]) ?_
  simp only [if_true]
  refine wpS_of_wp ?_
  have bN : Below w.heap.size w (w.alloc (.cells #[.int .i64 er, .int .i64 at'] 68)).drew := ((Below.refl w.heap.size w).alloc (Nat.le_refl _) _).drew
  have K2 : BK 68 (w.alloc (.cells #[.int .i64 er, .int .i64 at'] 68)).drew w.heap.size #[.int .i64 er, .int .i64 at'] := (BK.new 68 w #[.int .i64 er, .int .i64 at']).keep ((Below.refl _ _).drew)
  have hp2 := hp.keep bN
  have hq2 := hq.keep bN
  refine wp_region_to 4 (S := fun V => V.cell? ⟨w.heap.size, 0, none⟩ = some (.int .i64 er) ∧ V.cell? ⟨w.heap.size, 1, none⟩ = some (.int .i64 at')) (by kernel_rfl) ⟨K2.cell 0, K2.cell 1⟩ (fun hS => ?_)
  obtain ⟨W1, hW1⟩ : ∃ x, (w.alloc (.cells #[.int .i64 er, .int .i64 at'] 68)).drew = x := ⟨_, rfl⟩
  rw [hW1] at bN K2 hp2 hq2 hS ⊢
  clear hW1
  refine dtp 0 ?_
  refine dtp 1 ?_
  refine dtk 2 ?_
  refine AnyTo.ready (rs := [3]) (by kernel_rfl) (by simp) ?_
  refine ReadyTo.cons rfl (fun K hK => ?_) ReadyTo.nil
  rw [if_pos (by rfl)]
  refine wp_store_row 48 _ _ rfl bp zvl.toArray rfl rfl 48 oldp hp2 infoV1 (by rw [np]; rfl) (vv_one ⟨0, [], false, [], [], 0, 0, []⟩ rfl rfl rfl) ?_
  have K3 := K2.frame (setRow_other W1 bp w.heap.size zvl.toArray (by omega))
  have hp3 := hp2.set zvl.toArray
  have hq3 := hq2.frame (setRow_other W1 bp bq zvl.toArray (by omega))
  refine hK.out _ _ (⟨K3.cell 0, K3.cell 1⟩) (fun hS => ?_)
  clear hK K
  refine AnyTo.ready (rs := [4]) (by kernel_rfl) (by simp) ?_
  refine ReadyTo.last rfl (by kernel_rfl) (fun K hK => ?_) ReadyTo.nil
  rw [if_pos (by rfl)]
  refine wp_store_row 51 _ _ rfl bq #[.int .i64 er, .int .i64 at'] rfl rfl 51 oldq hq3 infoF1 (by rw [nq]; rfl) (by simp [Value.oneCell']) ?_
  refine hK.out _ _ ?_
  clear hK K
  refine AnyTo.done (by kernel_rfl) ?_ _
  have hp4 := hp3.frame (setRow_other (W1.setRow bp zvl.toArray) bq bp #[.int .i64 er, .int .i64 at'] (by omega))
  have hq4 := hq3.set #[.int .i64 er, .int .i64 at']
  have fr : Fr2 bp bq w ((W1.setRow bp zvl.toArray).setRow bq #[.int .i64 er, .int .i64 at']) := ⟨below_setRowK (below_setRowK (bN.mono (Nat.zero_le _)) (Nat.zero_le _) _) (Nat.zero_le _) _, fun j hj h1 h2 => by rw [setRow_other _ _ _ _ (by omega), setRow_other _ _ _ _ (by omega)]; exact bN.block j hj⟩
  obtain ⟨W4, hW4⟩ : ∃ x, (W1.setRow bp zvl.toArray).setRow bq #[.int .i64 er, .int .i64 at'] = x := ⟨_, rfl⟩
  rw [hW4] at hp4 hq4 fr ⊢
  simp [bodyPostS, results, Tryz.results28, Act.put]
  exact ⟨hp4, hq4, fr⟩
end Go.Proofs.YtlobinjdgcidmaaGreatDoor
/- jparse: text and number. -/
namespace Go.Proofs.YtlobinjdgcidmaaGreatDoor
open Go.RowKit
set_option linter.unusedVariables false
set_option linter.unusedSimpArgs false

def Nw (B : Nat) (w : World) (b : Nat) : Prop := B ≤ b ∧ b < w.heap.size
theorem ownI_isP {B : Nat} {w : World} {v : Value} {l : List Int} (h : OwnI B w v l) : IsP (Nw B w) w v l := by
  have hn := OwnI.nn h
  have hlt := World.ownsRow.lt h
  have hh := h
  obtain ⟨a, cap, rfl, h1, h2, h3⟩ := OwnI.is h
  refine ⟨a, cap, rfl, h1, h2, fun e => by subst e; exact hn _ _ rfl, fun h0 => ?_⟩
  obtain ⟨b, off, rfl, hb, hc⟩ := h3 h0
  refine ⟨b, off, rfl, ⟨?_, hb⟩, hc⟩
  obtain ⟨_, ⟨e, _⟩ | ⟨g, c, cur, e, _⟩⟩ := hh
  · simp at e
  · simp only [Value.slice.injEq, Option.some.injEq, Addr.mk.injEq] at e
    rw [e.1.1]
    exact (hlt g (by rw [e.1.1, e.1.2.1]; rfl)).1
def ValQ (w0 : World) (bv : Value) (D : Int) (l : List UInt8) (R : PRes) (w : World) (e : Ending) (w' : World) : Prop := match R with
  | .ok (h, kids, r) => ∃ tv v mv tw', e = .returned (.agg (vv h tv v mv)) ∧ HdP (Nw w.heap.size w') w' h tv mv ∧ VoP (Nw w.heap.size w') w' v kids ∧ PsW w0 bv D l w' tw' r ∧ Fr w0.heap.size w w'
  | .error x => Pan e x ∧ Below w0.heap.size w w'
theorem PsW.setOther {w0 w : World} {bv tw : Value} {D : Int} {l : List UInt8} {ts : M.Toks} (x : PsW w0 bv D l w tw ts) {g : Nat} (hg : w0.heap.size < g) (j : Nat) (u : Value) : PsW w0 bv D l (w.setCell ⟨g, j, none⟩ u) tw ts :=
  ⟨x.blk.other (by omega) j u, x.lo.setCell (p := ⟨g, j, none⟩) (Nat.le_of_lt hg) u, x.bs, x.tk, x.tb, x.ll⟩
theorem Fr.setCell {pb : Nat} {w w' : World} (h : Fr pb w w') {g : Nat} (hg : w.heap.size ≤ g) (hp : pb ≤ g) (j : Nat) (u : Value) : Fr pb w (w'.setCell ⟨g, j, none⟩ u) :=
  ⟨h.lo.setCell (p := ⟨g, j, none⟩) hp u, fun i hi hn => by rw [heap_setCell_other _ _ _ _ (by show i ≠ g; omega)]; exact h.oth i hi hn⟩
theorem info3 : (Tryz.prog.info? 45).map (·.size) = some 3 := by kernel_rfl
set_option maxRecDepth 100000 in
set_option maxHeartbeats 4000000 in
theorem jptext_any {w0 w : World} {bv tw : Value} {D : Int} {l : List UInt8} {fr te : Nat} {r : M.Toks} (x : PsW w0 bv D l w tw ((7, fr, te) :: r)) (hX : TabX w0) (ht : fr < te ∧ te ≤ l.length) (hl : l.length ≤ 20000) :
    Calls Tryz.prog 49 #[ptrP w0] w (ValQ w0 bv D l (.ok (textV l (7, fr, te), .nil, r)) w) := by
  have hlt := x.lt
  obtain ⟨b, off, cap, rfl, h1, h2, hb, d0, d1, d2, h3⟩ := x.first
  have b0 := Lib.hid ((Below.refl w.heap.size w).alloc (Nat.le_refl _) (.cells zv 48))
  have K0 := Lib.hid (BK.new 48 w zv)
  obtain ⟨W1, hW1⟩ : ∃ x, w.alloc (.cells zv 48) = x := ⟨_, rfl⟩
  rw [hW1] at b0 K0
  have HW1 := Lib.hid (show w.alloc (.cells #[.int .i64 0, .slice none 0 0, .bool false, .string ⟨#[]⟩, .string ⟨#[]⟩, .slice none 0 0, .int .i64 0, .int .i64 0, .slice none 0 0] 48) = W1 from hW1)
  have x1 := x.keep b0.out
  obtain ⟨b', off', cap', e', h1', h2', hb', d0', d1', d2', h3'⟩ := x1.first
  simp only [Value.slice.injEq, Option.some.injEq, Addr.mk.injEq, and_true, true_and] at e'
  obtain ⟨⟨rfl, rfl⟩, rfl⟩ := e'
  obtain ⟨c0, c1, c2⟩ := x1.cells
  have d0'' : W1.cell? ⟨b, off, none⟩ = some (.int .i64 7) := d0'
  have q2 : (0 : Int) < (r.length : Int) + 1 := by omega
  have b1 := Lib.hid ((Below.refl W1.heap.size W1).alloc (Nat.le_refl _) (.cells #[.int .i64 7, .int .i64 (fr : Int), .int .i64 (te : Int)] 98))
  have K1 := Lib.hid (BK.new 98 W1 #[.int .i64 7, .int .i64 (fr : Int), .int .i64 (te : Int)])
  obtain ⟨W2, hW2⟩ : ∃ x, W1.alloc (.cells #[.int .i64 7, .int .i64 (fr : Int), .int .i64 (te : Int)] 98) = x := ⟨_, rfl⟩
  rw [hW2] at b1 K1
  have HW2 := Lib.hid hW2
  have x2 := x1.keep b1.out
  have SA0 := single_any 3 7 (by decide) x2
  have hR : takeP l.length 7 ((7, fr, te) :: r) = .ok ((7, fr, te), r) := by simp [takeP]
  unfold SingQ at SA0
  rw [hR] at SA0
  dsimp only at SA0
  unfold ValQ
  dsimp only
  unfold ptrP at SA0 ⊢
  have SA : Hid (Calls Tryz.prog 51 #[.pointer (some ⟨w0.heap.size, 0, none⟩), .int .i64 3, .int .i64 7] W2 fun e w' => (∃ tw, PsW w0 bv D l w' tw r) ∧ e = .returned (.agg #[.int .i64 3, .slice none 0 0, .bool false, .string (bytes []), .string (bytes []), .slice none 0 0, .int .i64 (fr : Int), .int .i64 0, .slice none 0 0]) ∧ Fr w0.heap.size W2 w') := Lib.hid SA0
  have X2 := Lib.hid x2
  have hl1 := K0.out.lt
  have hl2 := K1.out.lt
  have hs1 := b0.out.size
  have hs2 := b1.out.size
  clear hW1 hW2 x1 h3 h3' d0 d1 d2 d0' hR h1' h2' hb' SA0 x2 x
  go_enter Tryz.func49, Tryz.ntmps49
  go_upto_region 1 with fail
  rw [HW1.out]
  go_upto_region 2 with fail
  rw [HW2.out]
  go_wp2_with fail
  refine SA.out.mono ?_
  rintro e w3 ⟨⟨tw3, x3⟩, rfl, f3⟩
  have K03 := Lib.hid (K0.out.frame ((f3.oth _ (by omega) (by omega)).trans (b1.out.block _ (by omega))))
  have K13 := Lib.hid (K1.out.frame (f3.oth _ hl2 (by omega)))
  have hs3 := f3.lo.size
  have b3 := Lib.hid ((Below.refl w3.heap.size w3).alloc (Nat.le_refl _) (.cells #[.int .i64 3, .slice none 0 0, .bool false, .string (bytes []), .string (bytes []), .slice none 0 0, .int .i64 (fr : Int), .int .i64 0, .slice none 0 0] 48))
  have K3 := Lib.hid (BK.new 48 w3 #[.int .i64 3, .slice none 0 0, .bool false, .string (bytes []), .string (bytes []), .slice none 0 0, .int .i64 (fr : Int), .int .i64 0, .slice none 0 0])
  obtain ⟨W3, hW3⟩ : ∃ x, w3.alloc (.cells #[.int .i64 3, .slice none 0 0, .bool false, .string (bytes []), .string (bytes []), .slice none 0 0, .int .i64 (fr : Int), .int .i64 0, .slice none 0 0] 48) = x := ⟨_, rfl⟩
  rw [hW3] at b3 K3
  have HW3 := Lib.hid hW3
  clear hW3
  go_upto_region 3 with fail
  rw [HW3.out]
  obtain ⟨ba, bcap, hbv, g1, g2, g3⟩ := x3.bs
  obtain ⟨bb, boff, rfl, hbb, hbc⟩ := g3 (by omega)
  obtain ⟨n, hn⟩ : ∃ n, l.length = n := ⟨_, rfl⟩
  rw [hn] at hbv g1
  subst hbv
  have hx3bs : Bs w0 (.slice (some ⟨bb, boff, none⟩) n bcap) l := x3.bs
  have hpt := bs_part hx3bs fr te (by omega) (by omega)
  have ttb : (l.drop fr).take (te - fr) = tokB l (7, fr, te) := rfl
  rw [ttb] at hpt
  have tbl : (tokB l (7, fr, te)).length ≤ 20000 := by unfold tokB; simp only [List.length_take, List.length_drop]; omega
  have BD := Lib.hid (x3.lo.trans (((b3.out.trans ((Below.refl W3.heap.size W3).drew.mono b3.out.size))).mono (by have := x3.lo.size; omega)))
  have D3 := Lib.hid ((Below.refl W3.heap.size W3).drew)
  refine wp_region_noPanic ?_
  have KD := Lib.hid ((K3.out.keep (D3.out)))
  have KD0 := Lib.hid ((K03.out.keep b3.out).keep D3.out)
  have KD1 := Lib.hid ((K13.out.keep b3.out).keep D3.out)
  have xD := Lib.hid ((x3.keep b3.out).keep D3.out)
  have UA0 := unitsz_any _ _ W3.drew (hX.keep BD.out) (hpt.keep BD.out) (by omega)
  have UA : Hid (Calls Tryz.prog 72 #[.slice (some ⟨bb, boff + fr, none⟩) (te - fr) (bcap - fr)] W3.drew fun e w' => ∃ tv b, e = .returned (.tuple #[tv, .bool b]) ∧ IsP (Nw W3.drew.heap.size w') w' tv (txtL l (7, fr, te)) ∧ Below W3.drew.heap.size W3.drew w') := by
    refine Lib.hid (UA0.mono ?_)
    intro e w' h
    unfold txtL
    cases hu : unitsV (tokB l (7, fr, te)) with
    | none => rw [hu] at h; exact ⟨_, _, h.1, isP_nil _ _, h.2⟩
    | some us => rw [hu] at h; obtain ⟨v', h1, h2, h3⟩ := h; exact ⟨_, _, h1, ownI_isP h2, h3⟩
  clear UA0
  have SS : ∀ V : World, PsW w0 (.slice (some ⟨bb, boff, none⟩) n bcap) D l V tw3 r → BK 98 V W1.heap.size #[.int .i64 7, .int .i64 (fr : Int), .int .i64 (te : Int)] → (V.cell? ⟨w0.heap.size, 0, none⟩ = some (.slice (some ⟨bb, boff, none⟩) n bcap) ∧ V.cell? ⟨W1.heap.size, 1, none⟩ = some (.int .i64 (fr : Int)) ∧ V.cell? ⟨W1.heap.size, 2, none⟩ = some (.int .i64 (te : Int))) := fun V h k => ⟨h.cells.1, k.cell 1, k.cell 2⟩
  refine wp_region_to 14 (S := fun V => (V.cell? ⟨w0.heap.size, 0, none⟩ = some (.slice (some ⟨bb, boff, none⟩) n bcap) ∧ V.cell? ⟨W1.heap.size, 1, none⟩ = some (.int .i64 (fr : Int)) ∧ V.cell? ⟨W1.heap.size, 2, none⟩ = some (.int .i64 (te : Int)))) (by kernel_rfl) (SS _ xD.out KD1.out) (fun hS => ?_)
  have i1 : (fr : Int) ≤ te := by omega
  have i2 : (te : Int) ≤ n := by omega
  have i3 : (n : Int) ≤ bcap := by omega
  have i4 : ¬ bcap - fr = 0 := by omega
  have i5 : (te : Int) ≤ bcap := by omega
  obtain ⟨WD, hWD⟩ : ∃ x, W3.drew = x := ⟨_, rfl⟩
  rw [hWD] at UA KD KD0 KD1 xD hS BD D3 ⊢
  clear hWD
  refine dtp 0 ?_
  refine dtp 1 ?_
  refine dtp 2 ?_
  refine dtk 3 ?_
  refine dtp 4 ?_
  refine dtk 5 ?_
  refine dtp 6 ?_
  refine dtk 7 ?_
  refine dtp (v := .slice (some ⟨bb, boff + fr, none⟩) (te - fr) (bcap - fr)) 8 (hy := Or.inl ⟨by rfl, by intro V hSV; go_simp; omega⟩) ?_
  refine AnyTo.ready (rs := [9]) (by kernel_rfl) (by simp) ?_
  refine ReadyTo.cons rfl (fun K hK => ?_) ReadyTo.nil
  go_simp
  refine UA.out.mono ?_
  rintro e w4 ⟨tv, ub, rfl, ip, hb4⟩
  refine hK.out _ _ (SS _ (xD.out.keep hb4) (KD1.out.keep hb4)) (fun hS => ?_)
  clear hK K
  have K4 := Lib.hid (KD.out.keep hb4)
  have K04 := Lib.hid (KD0.out.keep hb4)
  have x4 := Lib.hid (xD.out.keep hb4)
  refine dtp 10 ?_
  refine dtp 11 ?_
  refine dtp 12 ?_
  refine dtp 13 ?_
  obtain ⟨ta, tcap, htv⟩ := ip.slice
  have cc : w4.cell? ⟨w3.heap.size, 1, none⟩ = some (.slice none 0 0) := K4.out.cell 1
  have zz : w4.frozen? ⟨w3.heap.size, 1, none⟩ = false := frozen_of_row _ _ _ _ _ K4.out
  refine AnyTo.ready (rs := [14]) (by kernel_rfl) (by simp) ?_
  refine ReadyTo.last rfl (by kernel_rfl) (fun K hK => ?_) ReadyTo.nil
  go_simp
  refine hK.out _ _ ?_
  clear hK K
  refine AnyTo.done (by kernel_rfl) ?_ _
  refine NoPanic.normal ?_
  have K5 : VB (w4.setCell ⟨w3.heap.size, 1, none⟩ tv) w3.heap.size (textV l (7, fr, te)) tv nilV nilV := K4.out.setCell 1 tv
  have K05 := K04.out.other (c := w3.heap.size) (by omega) 1 tv
  have x5 := x4.out.setOther (g := w3.heap.size) (by omega) 1 tv
  have F1 := ((Fr.of b0.out (Nat.le_of_lt hlt)).trans (Fr.of b1.out (by omega))).trans f3
  have F2 := (F1.trans (Fr.of b3.out (by omega))).trans (Fr.of D3.out (by have := b3.out.size; omega))
  have F4 := F2.trans (Fr.of hb4 (by have := b3.out.size; have := D3.out.size; omega))
  have F5 := F4.setCell (g := w3.heap.size) (by omega) (by omega) 1 tv
  have hz4 := hb4.size
  have hz3 := b3.out.size
  have hzD := D3.out.size
  have hzw : w3.heap.size < WD.heap.size := KD.out.lt
  have t1 := ip.one
  obtain ⟨W5, hW5⟩ : ∃ x, w4.setCell ⟨w3.heap.size, 1, none⟩ tv = x := ⟨_, rfl⟩
  have ip5 : IsP (Nw WD.heap.size W5) W5 tv (txtL l (7, fr, te)) := by
    rw [← hW5]
    refine (ip.keep (w' := w4.setCell ⟨w3.heap.size, 1, none⟩ tv) (fun b hb => heap_setCell_other _ _ _ _ (by show b ≠ w3.heap.size; have := hb.1; omega))).mono (fun b hb => ⟨hb.1, by rw [World.size_setCell]; exact hb.2⟩)
  have hs5 : W5.heap.size = w4.heap.size := by rw [← hW5, World.size_setCell]
  rw [hW5] at K5 K05 x5 F5
  have HS5 := Lib.hid hW5
  have VV := Lib.hid K5
  have VK := Lib.hid K05
  rw [htv] at HS5
  clear hW5 htv ip hb4 K5 K05 cc zz hS
  rw [HS5.out]
  have hVx : vv (textV l (7, fr, te)) tv nilV nilV = #[.int .i64 3, tv, .bool false, .string (bytes []), .string (bytes []), .slice none 0 0, .int .i64 (fr : Int), .int .i64 0, .slice none 0 0] := rfl
  go_wp2_with (first | (refine wpl_ldV rfl _ rfl w3.heap.size 0 (textV l (7, fr, te)) tv nilV nilV rfl (VB.range VV.out) ?_) | (refine wpl_stV rfl _ _ rfl w.heap.size zv (textV l (7, fr, te)) tv nilV nilV rfl rfl VK.out rfl t1 rfl rfl ?_))
  go_wp2
  refine bodyPost_ret (res_bk Tryz.underlying48 rfl infoV1 rfl _ _ w.heap.size (vvl (textV l (7, fr, te)) tv nilV nilV) rfl (BK.set VK.out _) rfl) rfl ⟨tv, nilV, nilV, tw3, rfl, ⟨by simp [textV], by simp [textV], ?_, isP_nil _ _⟩, voP_nil _ _, x5.setRow hlt _, F5.setRow (Nat.le_refl _) (Nat.le_of_lt hlt) _⟩
  exact (ip5.keep (fun b hb => setRow_other _ _ _ _ (by have := hb.1; omega))).mono (fun b hb => ⟨by have := hb.1; omega, Nat.lt_of_lt_of_le hb.2 (below_setRowK (Below.refl 0 W5) (Nat.zero_le _) _).size⟩)
end Go.Proofs.YtlobinjdgcidmaaGreatDoor
