/- VlqApart: for every two ints, the law returns true and its arguments read as they read. No condition. -/
import Derived.Test.YtkkidjaagahniaaRows
import Derived.WalkKit
import Derived.ProofKit
import Derived.OpenShut
import Derived.Below
import Derived.Test.YtkkidjaagahniaaAlive
import Derived.ShutString
namespace Go.Proofs.Ytkkidjaagahniaa.vlqApart
open Go.ChangeShapes Go.WideShapes Go.ChangeAt Go.RowKit
open Go.ChangeMaps (open_string shut_string)
set_option linter.unusedVariables false      -- a walk need not use every 'w<i>' (that an integer argument fits its kind)

theorem own : ownKnob Try.prog.godebug = none := by kernel_rfl

theorem len_bytes (l : List UInt8) : (M.bytes l).size = l.length := by simp [M.bytes, ByteArray.size]
theorem bytes_inj (k l : List UInt8) (h : M.bytes k = M.bytes l) : k = l := by
  have := congrArg (fun b : ByteArray => b.data.toList) h
  simpa [M.bytes] using this
theorem cut_ne (a b : Int) (a1 : -1099511627776 ≤ a) (a2 : a ≤ 1099511627776) (b1 : -1099511627776 ≤ b) (b2 : b ≤ 1099511627776) (h : a ≠ b) :
    (M.bytes (M.text b)).extract 0 (M.bytes (M.text a)).size ≠ M.bytes (M.text a) := by
  intro hh
  have h2 : (M.text b).take (M.text a).length = M.text a := by
    have := congrArg (fun b : ByteArray => b.data.toList) hh
    simpa [M.bytes, ByteArray.size] using this
  refine h (M.text_inj a b a1 a2 b1 b2 ((M.text b).drop (M.text a).length) ?_)
  conv => lhs; rw [← List.take_append_drop (M.text a).length (M.text b), h2]
theorem ne_of (a b : Int) (a1 : -1099511627776 ≤ a) (a2 : a ≤ 1099511627776) (b1 : -1099511627776 ≤ b) (b2 : b ≤ 1099511627776) (h : a ≠ b) :
    M.bytes (M.text a) ≠ M.bytes (M.text b) := fun hh => h (M.text_inj a b a1 a2 b1 b2 [] (by rw [bytes_inj _ _ hh]; simp))

theorem out_of (a0 a1 : Int) (w : World) (h : a0 < -1099511627776 ∨ (-1099511627776 ≤ a0 ∧ 1099511627776 < a0) ∨ (-1099511627776 ≤ a0 ∧ a0 ≤ 1099511627776 ∧ a1 < -1099511627776) ∨ (-1099511627776 ≤ a0 ∧ a0 ≤ 1099511627776 ∧ -1099511627776 ≤ a1 ∧ 1099511627776 < a1)) :
    Calls Try.prog 7 #[.int .i64 a0, .int .i64 a1] w fun e w' => e = .returned (.bool true) ∧ Below w.heap.size w w' := by
  rcases h with h | ⟨_, h⟩ | ⟨_, _, h⟩ | ⟨_, _, _, h⟩
  all_goals
    go_enter Try.func7, Try.ntmps7
    go_wp2_with fail
    refine (alive_any _).mono ?_
    rintro e w1 ⟨rfl, hb⟩
    go_wp2
    go_ret
    exact ⟨rfl, hb⟩

set_option maxHeartbeats 400000 in
theorem walk (a0 : Int) (a1 : Int) (w0 : (Lit.int .i64 a0).wf = true) (w1 : (Lit.int .i64 a1).wf = true) (w : World) :
    Calls Try.prog 7 #[.int .i64 a0, .int .i64 a1] w fun e w' => e = .returned (.bool true) ∧ Below w.heap.size w w' := by
  by_cases ho : -1099511627776 ≤ a0 ∧ a0 ≤ 1099511627776 ∧ -1099511627776 ≤ a1 ∧ a1 ≤ 1099511627776
  · obtain ⟨x1, x2, y1, y2⟩ := ho
    clear w0 w1
    obtain ⟨t, ht⟩ : ∃ t : ByteArray, t = M.bytes (M.text a0) := ⟨_, rfl⟩
    obtain ⟨u, hu⟩ : ∃ u : ByteArray, u = M.bytes (M.text a1) := ⟨_, rfl⟩
    have ht0 : 1 ≤ t.size := by rw [ht, len_bytes]; exact M.text_pos a0
    have hu0 : 1 ≤ u.size := by rw [hu, len_bytes]; exact M.text_pos a1
    have ht9 : t.size ≤ 9 := by rw [ht, len_bytes]; exact M.text_len a0
    have hu9 : u.size ≤ 9 := by rw [hu, len_bytes]; exact M.text_len a1
    have n1 : ¬ t = ByteArray.empty := by intro h; rw [h] at ht0; simp at ht0
    have n3 : ((t.size : Int) == 0) = false := beq_eq_false_iff_ne.2 (by omega)
    have n4 : ((u.size : Int) == 0) = false := beq_eq_false_iff_ne.2 (by omega)
    have q1 : decide (a0 < -1099511627776) = false := by simp; omega
    have q2 : decide (1099511627776 < a0) = false := by simp; omega
    have q3 : decide (a1 < -1099511627776) = false := by simp; omega
    have q4 : decide (1099511627776 < a1) = false := by simp; omega
    by_cases he : a0 = a1
    · subst he
      obtain rfl : u = t := by rw [ht, hu]
      have Ht := Lib.hid ht
      clear ht hu
      go_enter Try.func7, Try.ntmps7
      go_wp2_with fail
      refine (alive_any _).mono ?_
      rintro e w1 ⟨rfl, hb⟩
      go_wp2_with fail
      refine (put_to ⟨#[]⟩ u a0 _ x1 x2 (by decide) (by rw [empty_bytes, Ht.out])).mono ?_
      rintro e w2 ⟨rfl, hb2⟩
      go_wp2_with fail
      refine (put_to ⟨#[]⟩ u a0 _ x1 x2 (by decide) (by rw [empty_bytes, Ht.out])).mono ?_
      rintro e w3 ⟨rfl, hb3⟩
      have hb4 := (hb.trans (hb2.mono hb.size)).trans (hb3.mono (Nat.le_trans hb.size hb2.size))
      clear hb hb2 hb3
      go_wp2
      go_ret
      exact ⟨rfl, hb4⟩
    · have e1 : (a0 == a1) = false := by simpa using he
      have e2 : ¬ t.toList = u.toList := by
        intro h; rw [ByteArray.toList_eq, ByteArray.toList_eq, ht, hu] at h
        exact ne_of a0 a1 x1 x2 y1 y2 he (ByteArray.ext (Array.toList_inj.1 h))
      have e4 : (t.toList == u.toList) = false := by simpa using e2
      have e3 : ¬ (u.extract 0 t.size).toList = t.toList := by
        intro h; rw [ByteArray.toList_eq, ByteArray.toList_eq, ht, hu] at h
        exact cut_ne a0 a1 x1 x2 y1 y2 he (ByteArray.ext (Array.toList_inj.1 h))
      have e5 : ((u.extract 0 t.size).toList == t.toList) = false := by simpa using e3
      have Ht := Lib.hid ht
      have Hu := Lib.hid hu
      clear ht hu he
      by_cases hl : u.size < t.size
      all_goals
        go_enter Try.func7, Try.ntmps7
        go_wp2_with fail
        refine (alive_any _).mono ?_
        rintro e w1 ⟨rfl, hb⟩
        go_wp2_with fail
        refine (put_to ⟨#[]⟩ t a0 _ x1 x2 (by decide) (by rw [empty_bytes, Ht.out])).mono ?_
        rintro e w2 ⟨rfl, hb2⟩
        go_wp2_with fail
        refine (put_to ⟨#[]⟩ u a1 _ y1 y2 (by decide) (by rw [empty_bytes, Hu.out])).mono ?_
        rintro e w3 ⟨rfl, hb3⟩
        have hb4 := (hb.trans (hb2.mono hb.size)).trans (hb3.mono (Nat.le_trans hb.size hb2.size))
        clear hb hb2 hb3
        go_wp2
        go_ret
        exact ⟨rfl, hb4⟩
  · exact out_of a0 a1 w (by omega)

set_option maxRecDepth 100000 in
theorem lifted (os : Os) (started : os.Started) (H : Type) (enc : TypeId × Value → H) :
    ReturnsInHanded {} Try.checked os 7 .any (Rows.vlqApartSpec.pre6 enc Try.prog Try.f7 Rows.vlqApartRow.domain false) (Rows.vlqApartSpec.post enc Try.prog Try.f7 false true false false) := by
  refine returnsInHanded_of_change (C := Try.checked) own started (by kernel_rfl) Try.func7
    (ChangeSpec.witness6 (enc := enc) (C := Try.checked) false ⟨#[], #[.int .i64 0, .int .i64 0], []⟩ 8 (by kernel_rfl) (by kernel_rfl) (by kernel_rfl) (by kernel_rfl)) ?_
  intro W base args ds gs before hval0 hW hcnd _
  have hval : ∀ (j : Nat) t v, Try.f7.params[j]? = some t → args[j]? = some v → Value.okWide Try.prog W .any base t v := hval0
  have hW' := hW
  obtain ⟨p, q, hA0, hV, rfl, hfz, hnd⟩ := hW
  have hA : DataW.TrodAll enc Try.prog W 0 (fun _ => true) true Try.f7.params.toList args.toList ds p := hA0
  rw [Try.params7] at hA hval
  obtain ⟨v0, vs0, d0, ds0, p0, q0, hargs, rfl, rfl, h0, r0⟩ := trodAll_cons hA
  obtain ⟨v1, vs1, d1, ds1, p1, q1, rfl, rfl, rfl, h1, r1⟩ := trodAll_cons r0
  obtain ⟨rfl, rfl, rfl⟩ := trodAll_nil r1
  obtain rfl : args = #[v0, v1] := by cases args; simp_all
  obtain ⟨rfl, rfl⟩ := trodVars_none hV
  obtain ⟨a0, rfl, rfl, rfl, w0⟩ := open_int Try.underlying3 (hval 0 3 v0 rfl rfl) h0
  obtain ⟨a1, rfl, rfl, rfl, w1⟩ := open_int Try.underlying3 (hval 1 3 v1 rfl rfl) h1
  clear hA0 hval0
  simp only [List.append_nil] at hW'
  refine (walk a0 a1 w0 w1 W).mono fun e W' ⟨he, bel⟩ => ?_
  subst he
  exact ⟨_, rfl, _, _, _, [], _, [], hW', trodAll_mk1 (shut_bool Try.underlying4 _), (trodAll_cons_mk (shut_int Try.underlying3 w0) (trodAll_cons_mk (shut_int Try.underlying3 w1) trodAll_mk0)), rfl, bel.frame _, fun h => by cases h⟩

theorem over : Rows.vlqApartRow.holds Try.pinned (OpenSpec.ofChange Rows.vlqApartSpec) :=
  OpenClaim.holds_of_wide 7 Try.f7 rfl rfl rfl rfl rfl rfl rfl ⟨rfl, rfl, rfl, rfl, rfl⟩ rfl rfl rfl rfl rfl (by kernel_rfl) Try.func7 (by kernel_rfl)
    (of_decide_eq_true (by kernel_rfl)) (by unfold Func.isWrapper; first | (rw [if_pos (by decide +kernel)]; kernel_rfl) | (rw [if_neg (by decide +kernel)]; exact ⟨rfl, rfl⟩))
    (fun os started H enc _ => lifted os started H enc)

/-- ████ THE STATEMENT ████ -/
theorem proved : Rows.VlqApartSaid :=
  over
end Go.Proofs.Ytkkidjaagahniaa.vlqApart
