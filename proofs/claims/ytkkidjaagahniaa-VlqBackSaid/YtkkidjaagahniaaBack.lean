/- VlqBack: for every slice of ints, the law returns true and its argument reads as it read. No condition. -/
import Derived.Test.YtkkidjaagahniaaRows
import Derived.WalkKit
import Derived.ProofKit
import Derived.OpenShut
import Derived.Test.YtkkidjaagahniaaAlive
import Derived.ShutString
import Derived.ChangeOld
import Derived.Below
namespace Go.Proofs.Ytkkidjaagahniaa.vlqBack
open Go.ChangeShapes Go.WideShapes Go.ChangeAt Go.RowKit
open Go.ChangeMaps (open_string shut_string)
set_option linter.unusedVariables false

theorem own : ownKnob Try.prog.godebug = none := by kernel_rfl
theorem laidOut : laidOutB Try.prog = true := by kernel_rfl

/-- WHAT THE WALK IS TOLD OF A SLICE OF INTEGERS THAT CAME IN: it is nil; or it leads to a row of 'cap' cells, the numbers 'zs' (the first 'len' are its elements, the rest its spare room), each fitting its kind. -/
def IsRow (k : IntKind) (w : World) (a : Option Addr) (len cap : Nat) (zs : List Int) : Prop :=
  (a = none ∧ len = 0 ∧ cap = 0 ∧ zs = []) ∨
  ∃ x, a = some x ∧ len ≤ cap ∧ cap ≤ maxLen ∧ zs.length = cap ∧ (∀ i, i < zs.length → w.cell? (x.add i) = some (.int k (zs.getD i 0))) ∧ ∀ n ∈ zs, (Lit.int k n).wf = true

theorem len_bytes (l : List UInt8) : (M.bytes l).size = l.length := by simp [M.bytes, ByteArray.size]
theorem bytes_append (k l : List UInt8) : M.bytes k ++ M.bytes l = M.bytes (k ++ l) := by apply ByteArray.ext; simp [M.bytes]
/-- The numbers one behind the other. -/
def joined (l : List Int) : List UInt8 := l.flatMap M.text
theorem joined_snoc (zs : List Int) (k : Nat) (h : k < zs.length) : joined (zs.take (k + 1)) = joined (zs.take k) ++ M.text (zs.getD k 0) := by
  rw [List.take_succ_eq_append_getElem h, show zs.getD k 0 = zs[k] by simp [h]]
  simp only [joined, List.flatMap_append, List.flatMap_cons, List.flatMap_nil, List.append_nil]
theorem joined_len (l : List Int) : (joined l).length ≤ 9 * l.length := by
  induction l with
  | nil => simp [joined]
  | cons a l ih =>
    have := M.text_len a
    simp only [joined, List.flatMap_cons, List.length_append, List.length_cons] at *
    omega
theorem joined_at (zs : List Int) (n k : Nat) (hk : k < n) (hn : n ≤ zs.length) (h1 : -1099511627776 ≤ zs.getD k 0) (h2 : zs.getD k 0 ≤ 1099511627776) :
    M.gN ((joined (zs.take k)).length : Int) (M.getAt (joined (zs.take n)) ((joined (zs.take k)).length : Int)) = (zs.getD k 0, ((joined (zs.take (k + 1))).length : Int), true) := by
  have e : joined (zs.take n) = joined (zs.take k) ++ (M.text (zs.getD k 0) ++ joined ((zs.take n).drop (k + 1))) := by
    rw [← List.append_assoc, ← joined_snoc zs k (by omega)]
    conv => lhs; rw [← List.take_append_drop (k + 1) (zs.take n)]
    simp only [joined, List.flatMap_append, List.take_take]
    rw [Nat.min_eq_left (by omega)]
  have hp := M.text_pos (zs.getD k 0)
  unfold M.getAt
  rw [if_neg (by rw [e]; simp only [List.length_append]; omega), Int.toNat_natCast, e, List.drop_left, M.get_text _ h1 h2, joined_snoc zs k (by omega)]
  simp [M.gN]
theorem joined_end (zs : List Int) : M.gN ((joined zs).length : Int) (M.getAt (joined zs) ((joined zs).length : Int)) = (0, 0, false) := by
  unfold M.getAt
  rw [if_pos (by omega)]
  rfl
theorem bytes_list (l : List UInt8) : (M.bytes l).data.toList = l := by simp [M.bytes]

theorem back_zero (a : Option Addr) (cap : Nat) (w : World) :
    Calls Try.prog 4 #[.slice a 0 cap] w fun e w' => e = .returned (.bool true) ∧ Below w.heap.size w w' := by
  go_enter Try.func4, Try.ntmps4
  go_wp2_with fail
  refine (alive_any _).mono ?_
  rintro e w1 ⟨rfl, hb⟩
  go_wp2
  refine wp_loop_rounds 1 ?_
  rw [rounds_succ]
  go_wp2
  refine wp_loop_rounds 1 ?_
  rw [rounds_succ]
  go_wp2_with fail
  refine (get_any _ 0 (0, 0, false) _ (by decide) (by decide +kernel)).mono ?_
  rintro e w3 ⟨rfl, rfl⟩
  unfold tri
  go_wp2
  go_ret
  exact ⟨rfl, hb⟩

theorem back_long (a : Option Addr) (len cap : Nat) (w : World) (h : 40 < len) :
    Calls Try.prog 4 #[.slice a len cap] w fun e w' => e = .returned (.bool true) ∧ Below w.heap.size w w' := by
  go_enter Try.func4, Try.ntmps4
  go_wp2_with fail
  refine (alive_any _).mono ?_
  rintro e w1 ⟨rfl, hb⟩
  go_wp2
  go_ret
  exact ⟨rfl, hb⟩

set_option maxHeartbeats 400000 in
theorem back_row (b off len cap : Nat) (zs : List Int) (w : World) (hl : len ≤ 40) (hz : len ≤ zs.length)
    (hc : ∀ j, j < zs.length → w.cell? ⟨b, off + j, none⟩ = some (.int .i64 (zs.getD j 0))) (hbk : b < w.heap.size) :
    Calls Try.prog 4 #[.slice (some ⟨b, off, none⟩) len cap] w fun e w' => e = .returned (.bool true) ∧ Below w.heap.size w w' := by
  have hq : decide (40 < (len : Int)) = false := by simp; omega
  have Hc := Lib.hid hc
  clear hc
  go_enter Try.func4, Try.ntmps4
  go_wp2_with fail
  refine (alive_any _).mono ?_
  rintro e w1 ⟨rfl, hb⟩
  go_wp2
  go_loopw [4, 5] (fun sv iv wr => ∃ i : Nat, i ≤ len ∧ iv = .int .i64 i ∧ sv = .string (M.bytes (joined (zs.take i))) ∧ (∀ j, j < i → -1099511627776 ≤ zs.getD j 0 ∧ zs.getD j 0 ≤ 1099511627776) ∧ Below w.heap.size w wr) (fun _ iv _ => len - (intOf iv).toNat)
  case atStart => exact ⟨0, by omega, rfl, rfl, by omega, hb⟩
  case round =>
    obtain ⟨i, hi, rfl, rfl, hin, hbr⟩ := hrel
    have Hin := Lib.hid hin
    have hjl : (M.bytes (joined (zs.take i))).size ≤ 360 := by
      rw [len_bytes]; have := joined_len (zs.take i); have := List.length_take_le i zs; omega
    clear hin
    by_cases hlt : i < len
    · have hcell : wr.cell? ⟨b, off + i, none⟩ = some (.int .i64 (zs.getD i 0)) := by
        rw [hbr.cell (p := ⟨b, off + i, none⟩) hbk]; exact Hc.out i (by omega)
      obtain ⟨z, hzz⟩ : ∃ z, zs.getD i 0 = z := ⟨_, rfl⟩
      rw [hzz] at hcell
      have Hz := Lib.hid hzz
      clear hzz
      by_cases ho : -1099511627776 ≤ z ∧ z ≤ 1099511627776
      · obtain ⟨z1, z2⟩ := ho
        go_wp2_with fail
        refine (put_any _ z _ z1 z2 (by omega)).mono ?_
        rintro e w2 ⟨rfl, hb2⟩
        have hb3 := hbr.trans (hb2.mono hbr.size)
        clear hbr hb2
        go_wp2
        go_roundw
        case rel =>
          refine ⟨i + 1, by omega, by go_num, ?_, ?_, hb3⟩
          · rw [bytes_append, joined_snoc zs i (by omega), Hz.out]
          · intro j hj
            by_cases hji : j = i
            · subst hji; rw [Hz.out]; exact ⟨z1, z2⟩
            · exact Hin.out j (by omega)
        case measure => simp [intOf]; omega
      · have ho2 : z < -1099511627776 ∨ 1099511627776 < z := by omega
        rcases ho2 with ho2 | ho2
        all_goals
          clear ho
          go_wp2
          go_ret
          exact ⟨rfl, hbr⟩
    · obtain rfl : i = len := by omega
      clear hlt
      go_wp2
      go_loop [6, 7] (fun av kv => ∃ k : Nat, k ≤ i ∧ kv = .int .i64 k ∧ av = .int .i64 ((joined (zs.take k)).length : Int)) (fun _ kv => i - (intOf kv).toNat)
      case atStart => exact ⟨0, by omega, rfl, by simp [joined]⟩
      case round =>
        obtain ⟨k, hk, rfl, rfl⟩ := hrel
        by_cases hlt : k < i
        · have hcell : wr.cell? ⟨b, off + k, none⟩ = some (.int .i64 (zs.getD k 0)) := by
            rw [hbr.cell (p := ⟨b, off + k, none⟩) hbk]; exact Hc.out k (by omega)
          have hj := joined_at zs i k hlt hz (Hin.out k hlt).1 (Hin.out k hlt).2
          have hgrow : (joined (zs.take k)).length < (joined (zs.take (k + 1))).length := by
            rw [joined_snoc zs k (by omega)]; have := M.text_pos (zs.getD k 0); rw [List.length_append]; omega
          have Hj := Lib.hid hj
          clear hj
          generalize zs.getD k 0 = z at *
          go_wp2_with fail
          refine (get_any _ _ (z, ((joined (zs.take (k + 1))).length : Int), true) _ (by omega) (by rw [bytes_list]; exact Hj.out)).mono ?_
          rintro e w3 ⟨rfl, rfl⟩
          unfold tri
          go_wp2
          go_round
          case rel => exact ⟨k + 1, by omega, by go_num, rfl⟩
          case measure => simp [intOf]; omega
        · obtain rfl : k = i := by omega
          clear hlt
          have hszr := len_bytes (joined (zs.take k))
          go_wp2_with fail
          refine (get_any _ _ (0, 0, false) _ (by omega) (by rw [bytes_list]; exact joined_end _)).mono ?_
          rintro e w3 ⟨rfl, rfl⟩
          unfold tri
          go_wp2
          go_ret
          exact ⟨rfl, hbr⟩

theorem walk (a0 : Option Addr) (len0 cap0 : Nat) (z0 : List Int) (w : World) (w0 : IsRow .i64 w a0 len0 cap0 z0) :
    Calls Try.prog 4 #[.slice a0 len0 cap0] w fun e w' => e = .returned (.bool true) ∧ Below w.heap.size w w' := by
  by_cases h0 : len0 = 0
  · subst h0; exact back_zero _ _ _
  by_cases h40 : 40 < len0
  · exact back_long _ _ _ _ h40
  rcases w0 with ⟨_, h, _⟩ | ⟨x, rfl, hl, hm, hz, hc, _⟩
  · exact absurd h h0
  · obtain ⟨b, off, rfl, hc2⟩ := ints_at hc (by omega)
    exact back_row b off len0 cap0 z0 w (by omega) (by omega) hc2 (World.block_lt_of_cell? w _ (hc2 0 (by omega)))

set_option maxRecDepth 100000 in
theorem lifted (os : Os) (started : os.Started) (H : Type) (enc : TypeId × Value → H) :
    ReturnsInHanded {} Try.checked os 4 .any (Rows.vlqBackSpec.pre6 enc Try.prog Try.f4 Rows.vlqBackRow.domain false) (Rows.vlqBackSpec.post enc Try.prog Try.f4 false true false false) := by
  refine returnsInHanded_of_change (C := Try.checked) own started (by kernel_rfl) Try.func4
    (ChangeSpec.witness6 (enc := enc) (C := Try.checked) false ⟨#[], #[.slice none 0 0], []⟩ 8 (by kernel_rfl) (by kernel_rfl) (by kernel_rfl) (by kernel_rfl)) ?_
  intro W base args ds gs before hval0 hW hcnd _
  have hval : ∀ (j : Nat) t v, Try.f4.params[j]? = some t → args[j]? = some v → Value.okWide Try.prog W .any base t v := hval0
  have hW' := hW
  obtain ⟨p, q, hA0, hV, rfl, hfz, hnd⟩ := hW
  have hA : DataW.TrodAll enc Try.prog W 0 (fun _ => true) true Try.f4.params.toList args.toList ds p := hA0
  rw [Try.params4] at hA hval
  obtain ⟨v0, vs0, d0, ds0, p0, q0, hargs, rfl, rfl, h0, r0⟩ := trodAll_cons hA
  obtain ⟨rfl, rfl, rfl⟩ := trodAll_nil r0
  obtain rfl : args = #[v0] := by cases args; simp_all
  obtain ⟨rfl, rfl⟩ := trodVars_none hV
  obtain ⟨a0, len0, cap0, rfl⟩ := okWide_slice Try.underlying27 (hval 0 27 v0 rfl rfl)
  have k0 := h0
  have lt0 : ∀ x ∈ p0, x.block < W.heap.size := by obtain ⟨m, hm⟩ := k0; exact DataW.trod_lt m _ _ _ hm
  obtain ⟨z0, w0⟩ : ∃ zs, IsRow .i64 W a0 len0 cap0 zs := by
    obtain ⟨fuel, hf⟩ := h0
    rcases open_ints Try.underlying27 Try.underlying3 (by kernel_rfl) hf with ⟨hcs, _⟩ | ⟨x, l, c, zs, hcs, _, hl, hm, hz, _, hcell, hwz⟩
    · simp [Value.cells] at hcs
      obtain ⟨rfl, rfl, rfl⟩ := hcs
      exact ⟨[], .inl ⟨rfl, rfl, rfl, rfl⟩⟩
    · simp [Value.cells] at hcs
      obtain ⟨rfl, rfl, rfl⟩ := hcs
      exact ⟨zs, .inr ⟨_, rfl, hl, hm, by simpa using hz, hcell, hwz⟩⟩
  clear hA0 hval0
  refine (walk a0 len0 cap0 z0 W w0).mono fun e W' ⟨he, bel⟩ => ?_
  subst he
  exact ⟨_, rfl, _, _, _, [], _, [], hW', trodAll_mk1 (shut_bool Try.underlying4 _), (trodAll_cons_mk (Below.trod laidOut (by kernel_rfl) (of_decide_eq_true (by kernel_rfl)) k0 bel lt0) trodAll_mk0), rfl, bel.frame _, fun h => by cases h⟩

theorem over : Rows.vlqBackRow.holds Try.pinned (OpenSpec.ofChange Rows.vlqBackSpec) :=
  OpenClaim.holds_of_wide 4 Try.f4 rfl rfl rfl rfl rfl rfl rfl ⟨rfl, rfl, rfl, rfl, rfl⟩ rfl rfl rfl rfl rfl (by kernel_rfl) Try.func4 (by kernel_rfl)
    (of_decide_eq_true (by kernel_rfl)) (by unfold Func.isWrapper; first | (rw [if_pos (by decide +kernel)]; kernel_rfl) | (rw [if_neg (by decide +kernel)]; exact ⟨rfl, rfl⟩))
    (fun os started H enc _ => lifted os started H enc)

/-- ████ THE STATEMENT ████ -/
theorem proved : Rows.VlqBackSaid := over
end Go.Proofs.Ytkkidjaagahniaa.vlqBack
