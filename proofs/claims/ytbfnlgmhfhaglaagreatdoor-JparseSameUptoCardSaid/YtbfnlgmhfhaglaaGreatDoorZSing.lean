/- jparse: single. -/
import Derived.Test.YtbfnlgmhfhaglaaGreatDoorZTake
namespace Go.Proofs.YtbfnlgmhfhaglaaGreatDoor
open Go.RowKit
set_option linter.unusedVariables false
set_option linter.unusedSimpArgs false

def leafP (k : Int) (fr : Int) : Vh := ⟨k, [], false, [], [], fr, 0, []⟩
def nilV : Value := .slice none 0 0
theorem PsW.fr {w0 w w' : World} {bv tw : Value} {D : Int} {l : List UInt8} {ts : M.Toks} (x : PsW w0 bv D l w tw ts) (h : Fr w0.heap.size w w') (hb : w'.heap[w0.heap.size]? = w.heap[w0.heap.size]?) : PsW w0 bv D l w' tw ts :=
  ⟨x.blk.frame hb, x.lo.trans h.lo, x.bs, x.tk, x.tb, x.ll⟩
/-- A row stored into another block. -/
theorem PsW.setRow {w0 w : World} {bv tw : Value} {D : Int} {l : List UInt8} {ts : M.Toks} (x : PsW w0 bv D l w tw ts) {g : Nat} (hg : w0.heap.size < g) (cs : Array Value) : PsW w0 bv D l (w.setRow g cs) tw ts :=
  ⟨x.blk.frame (setRow_other _ _ _ _ (by omega)), below_setRowK x.lo (Nat.le_of_lt hg) cs, x.bs, x.tk, x.tb, x.ll⟩
theorem Fr.setRow {pb : Nat} {w w' : World} (h : Fr pb w w') {g : Nat} (hg : w.heap.size ≤ g) (hp : pb ≤ g) (cs : Array Value) : Fr pb w (w'.setRow g cs) :=
  ⟨below_setRowK h.lo hp cs, fun j hj hn => by rw [setRow_other _ _ _ _ (by omega)]; exact h.oth j hj hn⟩
def SingQ (w0 : World) (bv : Value) (D : Int) (l : List UInt8) (kd : Int) (k : Nat) (ts : M.Toks) (w : World) (e : Ending) (w' : World) : Prop := match takeP l.length k ts with
  | .ok (t, r) => (∃ tw, PsW w0 bv D l w' tw r) ∧ e = .returned (.agg (vv (leafP kd t.2.1) nilV nilV nilV)) ∧ Fr w0.heap.size w w'
  | .error x => Pan e x ∧ Below w0.heap.size w w'
theorem infoV1 : (Tryz.prog.info? 27).map (·.size) = some 9 := infoVal
theorem field_from (a b c : Int) (w : World) : (Instr.field 51 (.agg #[.int .i64 a, .int .i64 b, .int .i64 c]) 1).run Tryz.prog w = .ok (.int .i64 b) w := by kernel_rfl
set_option maxRecDepth 100000 in
set_option maxHeartbeats 2000000 in
theorem single_any {w0 w : World} {bv tw : Value} {D : Int} {l : List UInt8} {ts : M.Toks} (kd : Int) (k : Nat) (hk : 1 ≤ k) (x : PsW w0 bv D l w tw ts) :
    Calls Tryz.prog 47 #[ptrP w0, .int .i64 kd, .int .i64 (k : Int)] w (SingQ w0 bv D l kd k ts w) := by
  have b0 := Lib.hid ((Below.refl w.heap.size w).alloc (Nat.le_refl _) (.cells zv 27))
  have K0 := Lib.hid (BK.new 27 w zv)
  obtain ⟨W1, hW1⟩ : ∃ x, w.alloc (.cells zv 27) = x := ⟨_, rfl⟩
  rw [hW1] at b0 K0
  have x1 := x.keep b0.out
  have HW1 := Lib.hid (show w.alloc (.cells #[.int .i64 0, .slice none 0 0, .bool false, .string ⟨#[]⟩, .string ⟨#[]⟩, .slice none 0 0, .int .i64 0, .int .i64 0, .slice none 0 0] 27) = W1 from hW1)
  have hlt := x.lt
  clear hW1
  have TA := Lib.hid (take_any k hk x1)
  unfold TakeQ at TA
  unfold SingQ
  cases hR : takeP l.length k ts with
  | error er =>
    rw [hR] at TA
    dsimp only at TA ⊢
    unfold ptrP at TA ⊢
    clear x x1
    go_enter Tryz.func47, Tryz.ntmps47
    go_upto_region 1 with fail
    rw [HW1.out]
    go_wp2_with fail
    refine TA.out.mono ?_
    rintro e w2 ⟨rfl, hb2⟩
    go_wp2
    exact ⟨rfl, rfl, (b0.out.mono (Nat.le_of_lt hlt)).trans hb2⟩
  | ok tr =>
    obtain ⟨t, r⟩ := tr
    rw [hR] at TA
    dsimp only at TA ⊢
    unfold ptrP at TA ⊢
    clear x x1
    go_enter Tryz.func47, Tryz.ntmps47
    go_upto_region 1 with fail
    rw [HW1.out]
    go_wp2_with fail
    refine TA.out.mono ?_
    rintro e w2 ⟨tw2, rfl, hx2, hf2⟩
    have hfd := field_from (t.1 : Int) (t.2.1 : Int) (t.2.2 : Int)
    have K2 := K0.out.frame (hf2.oth _ K0.out.lt (by omega))
    go_wp2_with (refine wpl_stV rfl _ _ rfl w.heap.size zv (leafP kd t.2.1) nilV nilV nilV rfl rfl K2 rfl rfl rfl rfl ?_)
    go_wp2
    refine bodyPost_ret (res_bk Tryz.underlying27 rfl infoV1 rfl _ _ w.heap.size (vvl (leafP kd t.2.1) nilV nilV nilV) rfl (BK.set K2 _) rfl) rfl ⟨⟨_, hx2.setRow hlt _⟩, rfl, Fr.setRow ((Fr.of b0.out (Nat.le_of_lt hlt)).trans hf2) (Nat.le_refl _) (Nat.le_of_lt hlt) _⟩
end Go.Proofs.YtbfnlgmhfhaglaaGreatDoor
