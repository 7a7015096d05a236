/- RenderCat: whatever the three documents, the width and the indent, it is one how documents are held together, side by side; for documents and ints that fit the row (no other condition). -/
import Derived.Test.YtehofomfblfhaaaRows
import Derived.WalkKit
import Derived.ProofKit
import Derived.OpenShut
import Derived.Test.YtehofomfblfhaaaYCatW
import Derived.Test.YtehofomfblfhaaaTForest
import Derived.Below
import Derived.ShutString
namespace Go.Proofs.Ytehofomfblfhaaa.renderCat
open Go.ChangeShapes Go.WideShapes Go.ChangeAt Go.RowKit
open Go.ChangeMaps (open_string shut_string)
set_option linter.unusedVariables false

theorem own : ownKnob Try.prog.godebug = none := by kernel_rfl
theorem laidOut : laidOutB Try.prog = true := by kernel_rfl

set_option maxRecDepth 100000 in
theorem lifted (os : Os) (started : os.Started) (H : Type) (enc : TypeId × Value → H) :
    ReturnsInHanded {} Try.checked os 8 .any (Rows.renderCatSpec.pre6 enc Try.prog Try.f8 Rows.renderCatRow.domain false) (Rows.renderCatSpec.post enc Try.prog Try.f8 false true false false) := by
  refine returnsInHanded_of_change (C := Try.checked) own started (by kernel_rfl) Try.func8
    (ChangeSpec.witness6 (enc := enc) (C := Try.checked) false ⟨#[], #[.agg #[.int .i64 0, .int .i64 0, .string ⟨#[]⟩, .slice none 0 0], .agg #[.int .i64 0, .int .i64 0, .string ⟨#[]⟩, .slice none 0 0], .agg #[.int .i64 0, .int .i64 0, .string ⟨#[]⟩, .slice none 0 0], .int .i64 0, .int .i64 0], []⟩ 8 (by kernel_rfl) (by kernel_rfl) (by kernel_rfl) (by kernel_rfl)) ?_
  intro W base args ds gs before hval0 hW hcnd _
  have hval : ∀ (j : Nat) t v, Try.f8.params[j]? = some t → args[j]? = some v → Value.okWide Try.prog W .any base t v := hval0
  have hW' := hW
  obtain ⟨p, q, hA0, hV, rfl, hfz, hnd⟩ := hW
  have hA : DataW.TrodAll enc Try.prog W 0 (fun _ => true) true Try.f8.params.toList args.toList ds p := hA0
  rw [Try.params8] at hA hval
  obtain ⟨v0, vs0, d0, ds0, p0, q0, hargs, rfl, rfl, h0, r0⟩ := trodAll_cons hA
  obtain ⟨v1, vs1, d1, ds1, p1, q1, rfl, rfl, rfl, h1, r1⟩ := trodAll_cons r0
  obtain ⟨v2, vs2, d2, ds2, p2, q2, rfl, rfl, rfl, h2, r2⟩ := trodAll_cons r1
  obtain ⟨v3, vs3, d3, ds3, p3, q3, rfl, rfl, rfl, h3, r3⟩ := trodAll_cons r2
  obtain ⟨v4, vs4, d4, ds4, p4, q4, rfl, rfl, rfl, h4, r4⟩ := trodAll_cons r3
  obtain ⟨rfl, rfl, rfl⟩ := trodAll_nil r4
  obtain rfl : args = #[v0, v1, v2, v3, v4] := by cases args; simp_all
  obtain ⟨rfl, rfl⟩ := trodVars_none hV
  have k0 := h0
  have lt0 : ∀ x ∈ p0, x.block < W.heap.size := by obtain ⟨m, hm⟩ := k0; exact DataW.trod_lt m _ _ _ hm
  obtain ⟨cs0, rfl, _⟩ := okWide_struct Try.underlying24 (hval 0 24 v0 rfl rfl)
  obtain ⟨a0, b0, s0, u0, L0, ec0, m0, f0⟩ : ∃ k f s v L, cs0 = #[.int .i64 k, .int .i64 f, .string s, v] ∧ s.size ≤ maxLen ∧ FoS W v L := by
    obtain ⟨fuel, hf⟩ := h0
    obtain ⟨k, f, s, v, L, hc, hm, hl⟩ := open_doc_n fuel _ _ hf
    refine ⟨k, f, s, v, L, ?_, hm, hl⟩
    have hc' : cs0.toList = [.int .i64 k, .int .i64 f, .string s, v] := by simpa [Value.cells] using hc
    rw [← Array.toArray_toList (xs := cs0), hc']
  subst ec0
  have k1 := h1
  have lt1 : ∀ x ∈ p1, x.block < W.heap.size := by obtain ⟨m, hm⟩ := k1; exact DataW.trod_lt m _ _ _ hm
  obtain ⟨cs1, rfl, _⟩ := okWide_struct Try.underlying24 (hval 1 24 v1 rfl rfl)
  obtain ⟨a1, b1, s1, u1, L1, ec1, m1, f1⟩ : ∃ k f s v L, cs1 = #[.int .i64 k, .int .i64 f, .string s, v] ∧ s.size ≤ maxLen ∧ FoS W v L := by
    obtain ⟨fuel, hf⟩ := h1
    obtain ⟨k, f, s, v, L, hc, hm, hl⟩ := open_doc_n fuel _ _ hf
    refine ⟨k, f, s, v, L, ?_, hm, hl⟩
    have hc' : cs1.toList = [.int .i64 k, .int .i64 f, .string s, v] := by simpa [Value.cells] using hc
    rw [← Array.toArray_toList (xs := cs1), hc']
  subst ec1
  have k2 := h2
  have lt2 : ∀ x ∈ p2, x.block < W.heap.size := by obtain ⟨m, hm⟩ := k2; exact DataW.trod_lt m _ _ _ hm
  obtain ⟨cs2, rfl, _⟩ := okWide_struct Try.underlying24 (hval 2 24 v2 rfl rfl)
  obtain ⟨a2, b2, s2, u2, L2, ec2, m2, f2⟩ : ∃ k f s v L, cs2 = #[.int .i64 k, .int .i64 f, .string s, v] ∧ s.size ≤ maxLen ∧ FoS W v L := by
    obtain ⟨fuel, hf⟩ := h2
    obtain ⟨k, f, s, v, L, hc, hm, hl⟩ := open_doc_n fuel _ _ hf
    refine ⟨k, f, s, v, L, ?_, hm, hl⟩
    have hc' : cs2.toList = [.int .i64 k, .int .i64 f, .string s, v] := by simpa [Value.cells] using hc
    rw [← Array.toArray_toList (xs := cs2), hc']
  subst ec2
  have k3 := h3
  have lt3 : ∀ x ∈ p3, x.block < W.heap.size := by obtain ⟨m, hm⟩ := k3; exact DataW.trod_lt m _ _ _ hm
  obtain ⟨x3, rfl, rfl, rfl, m3⟩ := open_int Try.underlying3 (hval 3 3 v3 rfl rfl) h3
  have k4 := h4
  have lt4 : ∀ x ∈ p4, x.block < W.heap.size := by obtain ⟨m, hm⟩ := k4; exact DataW.trod_lt m _ _ _ hm
  obtain ⟨x4, rfl, rfl, rfl, m4⟩ := open_int Try.underlying3 (hval 4 3 v4 rfl rfl) h4
  clear hA0 hval0
  refine (rcat_walk a0 b0 s0 u0 L0 a1 b1 s1 u1 L1 a2 b2 s2 u2 L2 x3 x4 W f0 f1 f2).mono fun e W' ⟨he, bel⟩ => ?_
  subst he
  exact ⟨_, rfl, _, _, _, [], _, [], hW', trodAll_mk1 (shut_bool Try.underlying4 _), (trodAll_cons_mk (Below.trod laidOut (by kernel_rfl) (of_decide_eq_true (by kernel_rfl)) k0 bel lt0) (trodAll_cons_mk (Below.trod laidOut (by kernel_rfl) (of_decide_eq_true (by kernel_rfl)) k1 bel lt1) (trodAll_cons_mk (Below.trod laidOut (by kernel_rfl) (of_decide_eq_true (by kernel_rfl)) k2 bel lt2) (trodAll_cons_mk (Below.trod laidOut (by kernel_rfl) (of_decide_eq_true (by kernel_rfl)) k3 bel lt3) (trodAll_cons_mk (Below.trod laidOut (by kernel_rfl) (of_decide_eq_true (by kernel_rfl)) k4 bel lt4) trodAll_mk0))))), rfl, bel.frame _, fun h => by cases h⟩

theorem over : Rows.renderCatRow.holds Try.pinned (OpenSpec.ofChange Rows.renderCatSpec) :=
  OpenClaim.holds_of_wide 8 Try.f8 rfl rfl rfl rfl rfl rfl rfl ⟨rfl, rfl, rfl, rfl, rfl⟩ rfl rfl rfl rfl rfl (by kernel_rfl) Try.func8 (by kernel_rfl)
    (of_decide_eq_true (by kernel_rfl)) (by unfold Func.isWrapper; first | (rw [if_pos (by decide +kernel)]; kernel_rfl) | (rw [if_neg (by decide +kernel)]; exact ⟨rfl, rfl⟩))
    (fun os started H enc _ => lifted os started H enc)

/-- The statement. -/
theorem proved : Rows.RenderCatSaid :=
  over
end Go.Proofs.Ytehofomfblfhaaa.renderCat
