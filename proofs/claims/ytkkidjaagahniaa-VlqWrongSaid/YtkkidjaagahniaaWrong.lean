/- VlqWrong: for every int, the law returns true and its argument reads as it read. No condition. -/
import Derived.Test.YtkkidjaagahniaaRows
import Derived.WalkKit
import Derived.ProofKit
import Derived.OpenShut
import Derived.Below
import Derived.Test.YtkkidjaagahniaaAlive
import Derived.ShutString
namespace Go.Proofs.Ytkkidjaagahniaa.vlqWrong
open Go.ChangeShapes Go.WideShapes Go.ChangeAt Go.RowKit
open Go.ChangeMaps (open_string shut_string)
set_option linter.unusedVariables false      -- a walk need not use every 'w<i>' (that an integer argument fits its kind)

theorem own : ownKnob Try.prog.godebug = none := by kernel_rfl

/-- The texts that the law tries, and whether each is a number. -/
def strs : List ByteArray := [⟨#[65]⟩, ⟨#[66]⟩, ⟨#[67]⟩, ⟨#[68]⟩, ⟨#[]⟩, ⟨#[103]⟩, ⟨#[103, 65]⟩, ⟨#[103, 66]⟩, ⟨#[103, 103, 65]⟩, ⟨#[33]⟩, ⟨#[97]⟩, ⟨#[47]⟩, ⟨#[43, 68]⟩, ⟨#[103, 103, 103, 103, 103, 103, 103, 67]⟩, ⟨#[103, 103, 103, 103, 103, 103, 103, 103, 103, 103, 103, 67]⟩, ⟨#[61]⟩, ⟨#[65, 65]⟩]
def oks : List Bool := [true, false, true, true, false, false, false, true, false, false, true, false, true, true, false, false, true]
def strK (k : Nat) : ByteArray := strs.getD k ⟨#[]⟩
def okK (k : Nat) : Bool := oks.getD k false
theorem strK_size (k : Nat) (hk : k < 17) : (strK k).size ≤ 1048576 := by
  have : ∀ k, k < 17 → (strK k).size ≤ 1048576 := by decide +kernel
  exact this k hk
theorem strK_ok (k : Nat) (hk : k < 17) : ∃ x y, M.gN 0 (M.getAt (strK k).data.toList 0) = (x, y, okK k) := by
  have : ∀ k, k < 17 → (M.gN 0 (M.getAt (strK k).data.toList 0)).2.2 = okK k := by decide +kernel
  exact ⟨_, _, by rw [← this k hk]⟩
def blkS : Obj := .cells #[.string ⟨#[65]⟩, .string ⟨#[66]⟩, .string ⟨#[67]⟩, .string ⟨#[68]⟩, .string ⟨#[]⟩, .string ⟨#[103]⟩, .string ⟨#[103, 65]⟩, .string ⟨#[103, 66]⟩, .string ⟨#[103, 103, 65]⟩, .string ⟨#[33]⟩, .string ⟨#[97]⟩, .string ⟨#[47]⟩, .string ⟨#[43, 68]⟩, .string ⟨#[103, 103, 103, 103, 103, 103, 103, 67]⟩, .string ⟨#[103, 103, 103, 103, 103, 103, 103, 103, 103, 103, 103, 67]⟩, .string ⟨#[61]⟩, .string ⟨#[65, 65]⟩] 9
def blkB : Obj := .cells #[.bool true, .bool false, .bool true, .bool true, .bool false, .bool false, .bool false, .bool true, .bool false, .bool false, .bool true, .bool false, .bool true, .bool true, .bool false, .bool false, .bool true] 4
theorem cases17 (k : Nat) (hk : k < 17) : k = 0 ∨ k = 1 ∨ k = 2 ∨ k = 3 ∨ k = 4 ∨ k = 5 ∨ k = 6 ∨ k = 7 ∨ k = 8 ∨ k = 9 ∨ k = 10 ∨ k = 11 ∨ k = 12 ∨ k = 13 ∨ k = 14 ∨ k = 15 ∨ k = 16 := by omega
theorem cellS (w : World) (k : Nat) (hk : k < 17) : ((w.alloc blkS).alloc blkB).cell? ⟨w.heap.size, k, none⟩ = some (.string (strK k)) := by
  unfold blkS blkB
  rw [World.cell?_alloc_past _ _ _ (by simp), World.cell?_alloc_at _ _ _ _ rfl]
  rcases cases17 k hk with rfl | rfl | rfl | rfl | rfl | rfl | rfl | rfl | rfl | rfl | rfl | rfl | rfl | rfl | rfl | rfl | rfl <;> rfl
theorem cellB (w : World) (k : Nat) (hk : k < 17) : ((w.alloc blkS).alloc blkB).cell? ⟨w.heap.size + 1, k, none⟩ = some (.bool (okK k)) := by
  unfold blkS blkB
  rw [World.cell?_alloc_at _ _ _ _ (by simp)]
  rcases cases17 k hk with rfl | rfl | rfl | rfl | rfl | rfl | rfl | rfl | rfl | rfl | rfl | rfl | rfl | rfl | rfl | rfl | rfl <;> rfl

set_option maxHeartbeats 400000 in
theorem walk (a0 : Int) (w0 : (Lit.int .i64 a0).wf = true) (w : World) :
    Calls Try.prog 6 #[.int .i64 a0] w fun e w' => e = .returned (.bool true) ∧ Below w.heap.size w w' := by
  by_cases ho : a0 < 0 ∨ 17 ≤ a0
  · rcases ho with ho | ho
    all_goals
      go_enter Try.func6, Try.ntmps6
      go_wp2_with fail
      refine (alive_any _).mono ?_
      rintro e w1 ⟨rfl, hb⟩
      go_wp2
      go_ret
      exact ⟨rfl, (hb.alloc hb.size _).alloc (by simp; have := hb.size; omega) _⟩
  · obtain ⟨k, rfl⟩ : ∃ k : Nat, a0 = k := ⟨a0.toNat, by omega⟩
    have hk : k < 17 := by omega
    have hsz := strK_size k hk
    obtain ⟨x, y, hxy⟩ := strK_ok k hk
    have Hxy := Lib.hid hxy
    clear ho w0 hxy
    go_enter Try.func6, Try.ntmps6
    go_wp2_with fail
    refine (alive_any _).mono ?_
    rintro e w1 ⟨rfl, hb⟩
    have c1 := cellS w1 k hk
    have c2 := cellB w1 k hk
    have hb2 : Below w.heap.size w ((w1.alloc blkS).alloc blkB) := (hb.alloc hb.size _).alloc (by simp; have := hb.size; omega) _
    clear hb
    unfold blkS blkB at c1 c2 hb2
    generalize strK k = s at *
    generalize okK k = o at *
    go_wp2_with fail
    refine (get_any s 0 (x, y, o) _ hsz Hxy.out).mono ?_
    rintro e w3 ⟨rfl, rfl⟩
    unfold tri
    go_wp2
    go_ret
    exact ⟨by simp, hb2⟩

set_option maxRecDepth 100000 in
theorem lifted (os : Os) (started : os.Started) (H : Type) (enc : TypeId × Value → H) :
    ReturnsInHanded {} Try.checked os 6 .any (Rows.vlqWrongSpec.pre6 enc Try.prog Try.f6 Rows.vlqWrongRow.domain false) (Rows.vlqWrongSpec.post enc Try.prog Try.f6 false true false false) := by
  refine returnsInHanded_of_change (C := Try.checked) own started (by kernel_rfl) Try.func6
    (ChangeSpec.witness6 (enc := enc) (C := Try.checked) false ⟨#[], #[.int .i64 0], []⟩ 8 (by kernel_rfl) (by kernel_rfl) (by kernel_rfl) (by kernel_rfl)) ?_
  intro W base args ds gs before hval0 hW hcnd _
  have hval : ∀ (j : Nat) t v, Try.f6.params[j]? = some t → args[j]? = some v → Value.okWide Try.prog W .any base t v := hval0
  have hW' := hW
  obtain ⟨p, q, hA0, hV, rfl, hfz, hnd⟩ := hW
  have hA : DataW.TrodAll enc Try.prog W 0 (fun _ => true) true Try.f6.params.toList args.toList ds p := hA0
  rw [Try.params6] at hA hval
  obtain ⟨v0, vs0, d0, ds0, p0, q0, hargs, rfl, rfl, h0, r0⟩ := trodAll_cons hA
  obtain ⟨rfl, rfl, rfl⟩ := trodAll_nil r0
  obtain rfl : args = #[v0] := by cases args; simp_all
  obtain ⟨rfl, rfl⟩ := trodVars_none hV
  obtain ⟨a0, rfl, rfl, rfl, w0⟩ := open_int Try.underlying3 (hval 0 3 v0 rfl rfl) h0
  clear hA0 hval0
  simp only [List.append_nil] at hW'
  refine (walk a0 w0 W).mono fun e W' ⟨he, bel⟩ => ?_
  subst he
  exact ⟨_, rfl, _, _, _, [], _, [], hW', trodAll_mk1 (shut_bool Try.underlying4 _), (trodAll_cons_mk (shut_int Try.underlying3 w0) trodAll_mk0), rfl, bel.frame _, fun h => by cases h⟩

theorem over : Rows.vlqWrongRow.holds Try.pinned (OpenSpec.ofChange Rows.vlqWrongSpec) :=
  OpenClaim.holds_of_wide 6 Try.f6 rfl rfl rfl rfl rfl rfl rfl ⟨rfl, rfl, rfl, rfl, rfl⟩ rfl rfl rfl rfl rfl (by kernel_rfl) Try.func6 (by kernel_rfl)
    (of_decide_eq_true (by kernel_rfl)) (by unfold Func.isWrapper; first | (rw [if_pos (by decide +kernel)]; kernel_rfl) | (rw [if_neg (by decide +kernel)]; exact ⟨rfl, rfl⟩))
    (fun os started H enc _ => lifted os started H enc)

/-- ████ THE STATEMENT ████ -/
theorem proved : Rows.VlqWrongSaid :=
  over
end Go.Proofs.Ytkkidjaagahniaa.vlqWrong
