/- VlqShort: for every int, the law returns true and its argument reads as it read. No condition. -/
import Derived.Test.YtkkidjaagahniaaRows
import Derived.WalkKit
import Derived.ProofKit
import Derived.OpenShut
import Derived.Below
import Derived.Test.YtkkidjaagahniaaAlive
import Derived.ShutString
namespace Go.Proofs.Ytkkidjaagahniaa.vlqShort
open Go.ChangeShapes Go.WideShapes Go.ChangeAt Go.RowKit
open Go.ChangeMaps (open_string shut_string)
set_option linter.unusedVariables false      -- a walk need not use every 'w<i>' (that an integer argument fits its kind)

theorem own : ownKnob Try.prog.godebug = none := by kernel_rfl

theorem cutAt (l : ByteArray) (n : Int) (hl : l = M.bytes (M.text n)) : M.gN 0 (M.getAt (l.extract 0 (l.size - 1)).data.toList 0) = (0, 0, false) := by
  subst hl
  have e : ((M.bytes (M.text n)).extract 0 ((M.bytes (M.text n)).size - 1)).data.toList = (M.text n).take ((M.text n).length - 1) := by
    rw [← List.dropLast_eq_take]; simp [M.bytes, ByteArray.size]
  have g : M.getAt ((M.text n).take ((M.text n).length - 1)) 0 = none := by
    unfold M.getAt
    split
    · rfl
    · simpa using M.get_cut n
  rw [e, g]
  rfl

theorem len_bytes (l : List UInt8) : (M.bytes l).size = l.length := by simp [M.bytes, ByteArray.size]

set_option maxHeartbeats 400000 in
theorem walk (a0 : Int) (w0 : (Lit.int .i64 a0).wf = true) (w : World) :
    Calls Try.prog 5 #[.int .i64 a0] w fun e w' => e = .returned (.bool true) ∧ Below w.heap.size w w' := by
  by_cases ho : a0 < -1099511627776 ∨ 1099511627776 < a0
  · rcases ho with ho | ho
    all_goals
      go_enter Try.func5, Try.ntmps5
      go_wp2_with fail
      refine (alive_any _).mono ?_
      rintro e w1 ⟨rfl, hb⟩
      go_wp2
      go_ret
      exact ⟨rfl, hb⟩
  · have h1 : -1099511627776 ≤ a0 := by omega
    have h2 : a0 ≤ 1099511627776 := by omega
    have b1 : decide (a0 < -1099511627776) = false := by simp; omega
    have b2 : decide (1099511627776 < a0) = false := by simp; omega
    obtain ⟨t, ht⟩ : ∃ t : ByteArray, t = M.bytes (M.text a0) := ⟨_, rfl⟩
    have htl : t.size = (M.text a0).length := by rw [ht, len_bytes]
    have hcut := cutAt t a0 ht
    have ht1 : t.size ≤ 9 := by rw [htl]; exact M.text_len a0
    have ht0 : 1 ≤ t.size := by rw [htl]; exact M.text_pos a0
    have hst := M.cnt_start a0 h1 h2
    rw [← htl] at hst
    have Ht := Lib.hid ht
    have Hcut := Lib.hid hcut
    have Hst := Lib.hid hst
    clear ho ht hcut hst htl
    by_cases hneg : a0 < 0
    all_goals
      go_enter Try.func5, Try.ntmps5
      go_wp2_with fail
      refine (alive_any _).mono ?_
      rintro e w1 ⟨rfl, hb⟩
      go_wp2_with fail
      refine (put_to ⟨#[]⟩ t a0 _ h1 h2 (by decide) (by rw [empty_bytes, Ht.out])).mono ?_
      rintro e w2 ⟨rfl, hb2⟩
      have hb3 := hb.trans (hb2.mono hb.size)
      clear hb hb2
      go_wp2
      go_loop [5, 6] (fun xv nv => ∃ f y want : Nat, xv = .int .i64 y ∧ nv = .int .i64 want ∧ M.Cnt t.size f y want) (fun xv _ => (intOf xv).toNat)
      case atStart => exact ⟨8, a0.natAbs / 16, 1, congrArg (Value.int .i64) (by omega), rfl, Hst.out⟩
      case round =>
        obtain ⟨f, y, want, rfl, rfl, hC⟩ := hrel
        have hw1 : want ≤ 9 := by have := hC.2.2.1; omega
        have HC := Lib.hid hC
        clear hC
        by_cases hy : 0 < y
        · go_wp2
          go_round
          case rel =>
            obtain ⟨g, hg⟩ := M.cnt_step HC.out hy
            exact ⟨g, y / 32, want + 1, by simp, by simp, hg⟩
          case measure => simp [intOf]; omega
        · obtain rfl : y = 0 := by omega
          obtain rfl : want = t.size := M.cnt_stop HC.out
          clear hy
          go_wp2_with fail
          refine (get_any _ 0 (0, 0, false) _ (by simp [ByteArray.size_extract]; omega) Hcut.out).mono ?_
          rintro e w3 ⟨rfl, rfl⟩
          unfold tri
          go_wp2
          go_ret
          exact ⟨rfl, hb3⟩

set_option maxRecDepth 100000 in
theorem lifted (os : Os) (started : os.Started) (H : Type) (enc : TypeId × Value → H) :
    ReturnsInHanded {} Try.checked os 5 .any (Rows.vlqShortSpec.pre6 enc Try.prog Try.f5 Rows.vlqShortRow.domain false) (Rows.vlqShortSpec.post enc Try.prog Try.f5 false true false false) := by
  refine returnsInHanded_of_change (C := Try.checked) own started (by kernel_rfl) Try.func5
    (ChangeSpec.witness6 (enc := enc) (C := Try.checked) false ⟨#[], #[.int .i64 0], []⟩ 8 (by kernel_rfl) (by kernel_rfl) (by kernel_rfl) (by kernel_rfl)) ?_
  intro W base args ds gs before hval0 hW hcnd _
  have hval : ∀ (j : Nat) t v, Try.f5.params[j]? = some t → args[j]? = some v → Value.okWide Try.prog W .any base t v := hval0
  have hW' := hW
  obtain ⟨p, q, hA0, hV, rfl, hfz, hnd⟩ := hW
  have hA : DataW.TrodAll enc Try.prog W 0 (fun _ => true) true Try.f5.params.toList args.toList ds p := hA0
  rw [Try.params5] at hA hval
  obtain ⟨v0, vs0, d0, ds0, p0, q0, hargs, rfl, rfl, h0, r0⟩ := trodAll_cons hA
  obtain ⟨rfl, rfl, rfl⟩ := trodAll_nil r0
  obtain rfl : args = #[v0] := by cases args; simp_all
  obtain ⟨rfl, rfl⟩ := trodVars_none hV
  obtain ⟨a0, rfl, rfl, rfl, w0⟩ := open_int Try.underlying3 (hval 0 3 v0 rfl rfl) h0
  clear hA0 hval0
  simp only [List.append_nil] at hW'
  refine (walk a0 w0 W).mono fun e W' ⟨he, bel⟩ => ?_
  subst he
  exact ⟨_, rfl, _, _, _, [], _, [], hW', trodAll_mk1 (shut_bool Try.underlying4 _), (trodAll_cons_mk (shut_int Try.underlying3 w0) trodAll_mk0), rfl, bel.frame _, fun h => by cases h⟩

theorem over : Rows.vlqShortRow.holds Try.pinned (OpenSpec.ofChange Rows.vlqShortSpec) :=
  OpenClaim.holds_of_wide 5 Try.f5 rfl rfl rfl rfl rfl rfl rfl ⟨rfl, rfl, rfl, rfl, rfl⟩ rfl rfl rfl rfl rfl (by kernel_rfl) Try.func5 (by kernel_rfl)
    (of_decide_eq_true (by kernel_rfl)) (by unfold Func.isWrapper; first | (rw [if_pos (by decide +kernel)]; kernel_rfl) | (rw [if_neg (by decide +kernel)]; exact ⟨rfl, rfl⟩))
    (fun os started H enc _ => lifted os started H enc)

/-- ████ THE STATEMENT ████ -/
theorem proved : Rows.VlqShortSaid :=
  over
end Go.Proofs.Ytkkidjaagahniaa.vlqShort
