/- jparse.Parse's deferred closure: what it does to a frame that panics with a stop, and to one that returns. -/
import Derived.Test.YtbfnlgmhfhaglaaGreatDoorZSing
import Derived.Test.YtbfnlgmhfhaglaaGreatDoorWTd
import Derived.Tactics
import Derived.Tactics2
import Derived.Defers
import Derived.Recover
import Derived.Laws.Pointers
namespace Go.Proofs.YtbfnlgmhfhaglaaGreatDoor
open Go.RowKit
set_option linter.unusedVariables false
set_option linter.unusedSimpArgs false

theorem ta_nil (xT : TypeId) (w : World) : (Instr.typeAssert .nilIface xT 57 true).run Tryz.prog w = .ok (.tuple #[.agg #[.int .i64 0, .int .i64 0], .bool false]) w := by kernel_rfl
theorem ta_stop (v : Value) (xT : TypeId) (w : World) : (Instr.typeAssert (.iface 57 v) xT 57 true).run Tryz.prog w = .ok (.tuple #[v, .bool true]) w := by kernel_rfl
set_option maxRecDepth 100000 in
set_option maxHeartbeats 2000000 in
theorem catch_idle (p q : Addr) (w : World) :
    CallsD Tryz.prog 25 #[.pointer (some p), .pointer (some q)] .returning w fun e u' w' => e = .returned (.tuple #[]) ∧ u' = .returning ∧ Below w.heap.size w w' := by
  have h1 := ta_nil
  refine callsD_of_wpS Tryz.func25 rfl fun c₀ cs hu => ?_
  apply wpS_seq
  apply wpS_region
  simp [wpOpsS, go_sem, recoverD, hu, Tryz.ntmps25, Exit.thenS, h1]
  apply wpS_seq
  apply wpS_region
  simp [wpOpsS, go_sem, Exit.thenS, Array.replicate]
  refine wpS_cond (t := false) (by simp [Act.eval]) ?_
  simp only [Bool.false_eq_true, if_false]
  refine wpS_of_wp (wp_skip ?_)
  cases c₀
  simp_all [bodyPostS, results, Tryz.results25]
  exact (Below.refl _ _).alloc (Nat.le_refl _) _
theorem infoF1 : (Tryz.prog.info? 34).map (·.size) = some 2 := by kernel_rfl
/-- All blocks but these two are as they were. -/
structure Fr2 (p q : Nat) (w w' : World) : Prop where
  lo : Below 0 w w'
  oth : ∀ j, j < w.heap.size → j ≠ p → j ≠ q → w'.heap[j]? = w.heap[j]?
def zvl : List Value := vvl ⟨0, [], false, [], [], 0, 0, []⟩ nilV nilV nilV
set_option maxRecDepth 100000 in
set_option maxHeartbeats 2000000 in
theorem catch_stop (bp bq : Nat) (er at' : Int) (oldp oldq : Array Value) (older : List PanicEntry) (w : World) (hp : BK 27 w bp oldp) (hq : BK 34 w bq oldq) (hne : bp ≠ bq) (np : oldp.size = 9) (nq : oldq.size = 2) :
    CallsD Tryz.prog 25 #[.pointer (some ⟨bp, 0, none⟩), .pointer (some ⟨bq, 0, none⟩)] (.panicking ({ v := .iface 57 (.agg #[.int .i64 er, .int .i64 at']), recovered := false } :: older)) w fun e u' w' =>
      e = .returned (.tuple #[]) ∧ u' = .panicking ({ v := .iface 57 (.agg #[.int .i64 er, .int .i64 at']), recovered := true } :: older) ∧ BK 27 w' bp zvl.toArray ∧ BK 34 w' bq #[.int .i64 er, .int .i64 at'] ∧ Fr2 bp bq w w' := by
  have h1 := ta_stop
  have l1 := hp.lt
  have l2 := hq.lt
  refine callsD_of_wpS Tryz.func25 rfl fun c₀ cs hu => ?_
  apply wpS_seq
  apply wpS_region
  simp [wpOpsS, go_sem, recoverD, hu, Tryz.ntmps25, Exit.thenS, h1]
  apply wpS_seq
  apply wpS_region
  simp [wpOpsS, go_sem, Exit.thenS, Array.replicate]
  refine wpS_cond (t := true) (by simp [Act.eval]) ?_
  simp only [if_true]
  refine wpS_of_wp ?_
  have bN : Below w.heap.size w (w.alloc (.cells #[.int .i64 er, .int .i64 at'] 57)).drew := ((Below.refl w.heap.size w).alloc (Nat.le_refl _) _).drew
  have K2 : BK 57 (w.alloc (.cells #[.int .i64 er, .int .i64 at'] 57)).drew w.heap.size #[.int .i64 er, .int .i64 at'] := (BK.new 57 w #[.int .i64 er, .int .i64 at']).keep ((Below.refl _ _).drew)
  have hp2 := hp.keep bN
  have hq2 := hq.keep bN
  refine wp_region_to 4 (S := fun V => V.cell? ⟨w.heap.size, 0, none⟩ = some (.int .i64 er) ∧ V.cell? ⟨w.heap.size, 1, none⟩ = some (.int .i64 at')) (by kernel_rfl) ⟨K2.cell 0, K2.cell 1⟩ (fun hS => ?_)
  obtain ⟨W1, hW1⟩ : ∃ x, (w.alloc (.cells #[.int .i64 er, .int .i64 at'] 57)).drew = x := ⟨_, rfl⟩
  rw [hW1] at bN K2 hp2 hq2 hS ⊢
  clear hW1
  refine dtp 0 ?_
  refine dtp 1 ?_
  refine dtk 2 ?_
  refine AnyTo.ready (rs := [3]) (by kernel_rfl) (by simp) ?_
  refine ReadyTo.cons rfl (fun K hK => ?_) ReadyTo.nil
  rw [if_pos (by rfl)]
  refine wp_store_row 27 _ _ rfl bp zvl.toArray rfl rfl 27 oldp hp2 infoV1 (by rw [np]; rfl) (vv_one ⟨0, [], false, [], [], 0, 0, []⟩ rfl rfl rfl) ?_
  have K3 := K2.frame (setRow_other W1 bp w.heap.size zvl.toArray (by omega))
  have hp3 := hp2.set zvl.toArray
  have hq3 := hq2.frame (setRow_other W1 bp bq zvl.toArray (by omega))
  refine hK.out _ _ (⟨K3.cell 0, K3.cell 1⟩) (fun hS => ?_)
  clear hK K
  refine AnyTo.ready (rs := [4]) (by kernel_rfl) (by simp) ?_
  refine ReadyTo.last rfl (by kernel_rfl) (fun K hK => ?_) ReadyTo.nil
  rw [if_pos (by rfl)]
  refine wp_store_row 34 _ _ rfl bq #[.int .i64 er, .int .i64 at'] rfl rfl 34 oldq hq3 infoF1 (by rw [nq]; rfl) (by simp [Value.oneCell']) ?_
  refine hK.out _ _ ?_
  clear hK K
  refine AnyTo.done (by kernel_rfl) ?_ _
  have hp4 := hp3.frame (setRow_other (W1.setRow bp zvl.toArray) bq bp #[.int .i64 er, .int .i64 at'] (by omega))
  have hq4 := hq3.set #[.int .i64 er, .int .i64 at']
  have fr : Fr2 bp bq w ((W1.setRow bp zvl.toArray).setRow bq #[.int .i64 er, .int .i64 at']) := ⟨below_setRowK (below_setRowK (bN.mono (Nat.zero_le _)) (Nat.zero_le _) _) (Nat.zero_le _) _, fun j hj h1 h2 => by rw [setRow_other _ _ _ _ (by omega), setRow_other _ _ _ _ (by omega)]; exact bN.block j hj⟩
  obtain ⟨W4, hW4⟩ : ∃ x, (W1.setRow bp zvl.toArray).setRow bq #[.int .i64 er, .int .i64 at'] = x := ⟨_, rfl⟩
  rw [hW4] at hp4 hq4 fr ⊢
  simp [bodyPostS, results, Tryz.results25, Act.put]
  exact ⟨hp4, hq4, fr⟩
end Go.Proofs.YtbfnlgmhfhaglaaGreatDoor
