/- VlqTells: for every text and every two ints, the law returns true and its arguments read as they read. No condition. -/
import Derived.Test.YtkkidjaagahniaaRows
import Derived.WalkKit
import Derived.ProofKit
import Derived.OpenShut
import Derived.Below
import Derived.Test.YtkkidjaagahniaaAlive
import Derived.Test.YtkkidjaagahniaaRef
import Derived.ShutString
namespace Go.Proofs.Ytkkidjaagahniaa.vlqTells
open Go.ChangeShapes Go.WideShapes Go.ChangeAt Go.RowKit
open Go.ChangeMaps (open_string shut_string)
set_option linter.unusedVariables false      -- a walk need not use every 'w<i>' (that an integer argument fits its kind)

theorem own : ownKnob Try.prog.godebug = none := by kernel_rfl

theorem refget_out (s : ByteArray) (k0 : Int) (w : World) (h : k0 < 0 ∨ (s.size : Int) < k0) :
    Calls Try.prog 10 #[.string s, .int .i64 k0] w fun e w' => e = .returned (tri (0, 0, false)) ∧ w' = w := by
  by_cases h0 : k0 < 0
  · clear h
    go_enter Try.func10, Try.ntmps10
    go_wp2
    go_ret3
    exact ⟨rfl, rfl⟩
  · have h2 : (s.size : Int) < k0 := by omega
    clear h
    go_enter Try.func10, Try.ntmps10
    go_wp2
    refine wp_loop_rounds 1 ?_
    rw [rounds_succ]
    go_wp2
    go_ret3
    exact ⟨rfl, rfl⟩

theorem refget_any (s : ByteArray) (k0 : Int) (r : Int × Int × Bool) (w : World) (hs : s.size ≤ 1048576) (hr : M.gN k0 (M.getAt s.data.toList k0) = r) :
    Calls Try.prog 10 #[.string s, .int .i64 k0] w fun e w' => e = .returned (tri r) ∧ Dr w w' := by
  subst hr
  have hl : s.data.toList.length = s.size := by simp
  by_cases h : k0 < 0 ∨ (s.size : Int) < k0
  · have : M.getAt s.data.toList k0 = none := by unfold M.getAt; rw [if_pos (by omega)]
    rw [this]
    exact (refget_out s k0 w h).mono fun e w' ⟨he, hw⟩ => ⟨he, hw ▸ Dr.refl _⟩
  · obtain ⟨k, rfl⟩ : ∃ k : Nat, k0 = k := ⟨k0.toNat, by omega⟩
    have e : M.getAt s.data.toList k = M.get (s.data.toList.drop k) := by
      unfold M.getAt
      split
      · rw [List.drop_eq_nil_of_le (by omega)]; rfl
      · simp
    rw [e]
    exact refget_in s k w hs (by omega)

theorem Dr.below {B : Nat} {w v u : World} (h : Below B w v) (d : Dr v u) : Below B w u := by
  obtain ⟨q, rfl⟩ := d; exact ⟨h.os, h.tape, h.output, h.size, h.block⟩

set_option maxHeartbeats 400000 in
theorem walk (a0 : ByteArray) (a1 : Int) (a2 : Int) (w0 : a0.size ≤ maxLen) (w1 : (Lit.int .i64 a1).wf = true) (w2 : (Lit.int .i64 a2).wf = true) (w : World) :
    Calls Try.prog 3 #[.string a0, .int .i64 a1, .int .i64 a2] w fun e w' => e = .returned (.bool true) ∧ Below w.heap.size w w' := by
  clear w0 w1 w2
  by_cases ho : 100 < a0.size
  · go_enter Try.func3, Try.ntmps3
    go_wp2_with fail
    refine (alive_any _).mono ?_
    rintro e w1 ⟨rfl, hb⟩
    go_wp2
    go_ret
    exact ⟨rfl, hb⟩
  · obtain ⟨r, hr⟩ : ∃ r, M.gN a2 (M.getAt a0.data.toList a2) = r := ⟨_, rfl⟩
    have Hr := Lib.hid hr
    clear hr
    obtain ⟨x, y, z⟩ := r
    by_cases hn : a1 < -1099511627776 ∨ 1099511627776 < a1
    · have Hn := Lib.hid hn
      clear hn
      go_enter Try.func3, Try.ntmps3
      go_wp2_with fail
      refine (alive_any _).mono ?_
      rintro e w1 ⟨rfl, hb⟩
      go_wp2_with fail
      refine (get_any a0 a2 _ _ (by omega) Hr.out).mono ?_
      rintro e w2 ⟨rfl, rfl⟩
      unfold tri
      go_wp2_with fail
      refine (refget_any a0 a2 _ _ (by omega) Hr.out).mono ?_
      rintro e w2 ⟨rfl, hd⟩
      unfold tri
      go_wp2_with fail
      refine (put_out a0 a1 _ Hn.out).mono ?_
      rintro e w3 ⟨rfl, rfl⟩
      go_wp2_with fail
      refine (refput_out a0 a1 _ Hn.out).mono ?_
      rintro e w3 ⟨rfl, rfl⟩
      go_wp2
      go_ret
      exact ⟨by simp, Dr.below hb hd⟩
    · obtain ⟨t, ht⟩ : ∃ t, a0 ++ M.bytes (M.text a1) = t := ⟨_, rfl⟩
      have h1 : -1099511627776 ≤ a1 := by omega
      have h2 : a1 ≤ 1099511627776 := by omega
      have Ht := Lib.hid ht
      clear ht hn
      go_enter Try.func3, Try.ntmps3
      go_wp2_with fail
      refine (alive_any _).mono ?_
      rintro e w1 ⟨rfl, hb⟩
      go_wp2_with fail
      refine (get_any a0 a2 _ _ (by omega) Hr.out).mono ?_
      rintro e w2 ⟨rfl, rfl⟩
      unfold tri
      go_wp2_with fail
      refine (refget_any a0 a2 _ _ (by omega) Hr.out).mono ?_
      rintro e w2 ⟨rfl, hd⟩
      have hb2 := Dr.below hb hd
      clear hb hd
      unfold tri
      go_wp2_with fail
      refine (put_to a0 t a1 _ h1 h2 (by omega) Ht.out).mono ?_
      rintro e w3 ⟨rfl, hb3⟩
      have hb4 := hb2.trans (hb3.mono hb2.size)
      clear hb2 hb3
      go_wp2_with fail
      refine (refput_in a0 a1 _ h1 h2 (by omega)).mono ?_
      rw [Ht.out]
      rintro e w5 ⟨rfl, rfl⟩
      go_wp2
      go_ret
      exact ⟨by simp, hb4⟩

set_option maxRecDepth 100000 in
theorem lifted (os : Os) (started : os.Started) (H : Type) (enc : TypeId × Value → H) :
    ReturnsInHanded {} Try.checked os 3 .any (Rows.vlqTellsSpec.pre6 enc Try.prog Try.f3 Rows.vlqTellsRow.domain false) (Rows.vlqTellsSpec.post enc Try.prog Try.f3 false true false false) := by
  refine returnsInHanded_of_change (C := Try.checked) own started (by kernel_rfl) Try.func3
    (ChangeSpec.witness6 (enc := enc) (C := Try.checked) false ⟨#[], #[.string ByteArray.empty, .int .i64 0, .int .i64 0], []⟩ 8 (by kernel_rfl) (by kernel_rfl) (by kernel_rfl) (by kernel_rfl)) ?_
  intro W base args ds gs before hval0 hW hcnd _
  have hval : ∀ (j : Nat) t v, Try.f3.params[j]? = some t → args[j]? = some v → Value.okWide Try.prog W .any base t v := hval0
  have hW' := hW
  obtain ⟨p, q, hA0, hV, rfl, hfz, hnd⟩ := hW
  have hA : DataW.TrodAll enc Try.prog W 0 (fun _ => true) true Try.f3.params.toList args.toList ds p := hA0
  rw [Try.params3] at hA hval
  obtain ⟨v0, vs0, d0, ds0, p0, q0, hargs, rfl, rfl, h0, r0⟩ := trodAll_cons hA
  obtain ⟨v1, vs1, d1, ds1, p1, q1, rfl, rfl, rfl, h1, r1⟩ := trodAll_cons r0
  obtain ⟨v2, vs2, d2, ds2, p2, q2, rfl, rfl, rfl, h2, r2⟩ := trodAll_cons r1
  obtain ⟨rfl, rfl, rfl⟩ := trodAll_nil r2
  obtain rfl : args = #[v0, v1, v2] := by cases args; simp_all
  obtain ⟨rfl, rfl⟩ := trodVars_none hV
  obtain ⟨a0, rfl, rfl, rfl, w0⟩ := open_string Try.underlying9 (hval 0 9 v0 rfl rfl) h0
  obtain ⟨a1, rfl, rfl, rfl, w1⟩ := open_int Try.underlying3 (hval 1 3 v1 rfl rfl) h1
  obtain ⟨a2, rfl, rfl, rfl, w2⟩ := open_int Try.underlying3 (hval 2 3 v2 rfl rfl) h2
  clear hA0 hval0
  simp only [List.append_nil] at hW'
  refine (walk a0 a1 a2 w0 w1 w2 W).mono fun e W' ⟨he, bel⟩ => ?_
  subst he
  exact ⟨_, rfl, _, _, _, [], _, [], hW', trodAll_mk1 (shut_bool Try.underlying4 _), (trodAll_cons_mk (shut_string Try.underlying9 w0) (trodAll_cons_mk (shut_int Try.underlying3 w1) (trodAll_cons_mk (shut_int Try.underlying3 w2) trodAll_mk0))), rfl, bel.frame _, fun h => by cases h⟩

theorem over : Rows.vlqTellsRow.holds Try.pinned (OpenSpec.ofChange Rows.vlqTellsSpec) :=
  OpenClaim.holds_of_wide 3 Try.f3 rfl rfl rfl rfl rfl rfl rfl ⟨rfl, rfl, rfl, rfl, rfl⟩ rfl rfl rfl rfl rfl (by kernel_rfl) Try.func3 (by kernel_rfl)
    (of_decide_eq_true (by kernel_rfl)) (by unfold Func.isWrapper; first | (rw [if_pos (by decide +kernel)]; kernel_rfl) | (rw [if_neg (by decide +kernel)]; exact ⟨rfl, rfl⟩))
    (fun os started H enc _ => lifted os started H enc)

/-- ████ THE STATEMENT ████ -/
theorem proved : Rows.VlqTellsSaid :=
  over
end Go.Proofs.Ytkkidjaagahniaa.vlqTells
