/- The walk of DocWide. -/
import Derived.Test.YtmhebcimpibipaaTDoc6
import Derived.Test.YtmhebcimpibipaaTMath
import Derived.Test.YtmhebcimpibipaaURef2
import Derived.Test.YtmhebcimpibipaaMgB
namespace Go.Proofs.Ytmhebcimpibipaa
open Go.RowKit
set_option linter.unusedVariables false
set_option linter.unusedSimpArgs false

set_option maxRecDepth 100000 in
set_option maxHeartbeats 2000000 in
theorem dwide_walk (a0 : Option Addr) (len0 cap0 : Nat) (z0 : List Int) (w : World) (w0 : RowI w a0 len0 cap0 z0) :
    Calls Try.prog 3 #[.slice a0 len0 cap0] w fun e w' => e = .returned (.bool true) ∧ Below w.heap.size w w' := by
  obtain ⟨zs, hl, b0, n0⟩ := row_is w0
  clear w0 n0
  have al := Lib.hid (alive_any w)
  by_cases h : 100 < len0
  · have h' : (100 : Int) < len0 := by omega
    clear b0 hl
    go_enter Try.func3, Try.ntmps3
    go_wp2_with fail
    refine al.out.mono ?_
    rintro e w1 ⟨rfl, hb⟩
    go_wp2
    go_ret
    exact ⟨rfl, hb⟩
  have k0 : len0 ≤ 100 := by omega
  have q0 : ¬ (100 : Int) < len0 := by omega
  obtain ⟨a1, cap1, he, m1, m2, m3⟩ := b0
  simp only [Value.slice.injEq] at he
  obtain ⟨rfl, hq, rfl⟩ := he
  clear hq
  have M3 := Lib.hid m3
  have HL := Lib.hid hl
  have hsz : (bytes (M.encZs zs)).size < 9223372036854775807 := by
    have := (M.encZs_len zs).2
    rw [bytes_size]; omega
  have WD := Lib.hid (fun W => wide_any (bytes (M.encZs zs)) len0 W hsz (by rw [← hl]; exact M.count_all zs))
  clear m3 hl h m1 hsz
  go_enter Try.func3, Try.ntmps3
  go_wp2_with fail
  refine al.out.mono ?_
  rintro e w1 ⟨rfl, hb⟩
  have HB1 := Lib.hid hb
  clear hb
  go_wp2
  go_loopw [4, 5] (fun bv iv wr => ∃ i : Nat, iv = .int .i64 (i : Int) ∧ i ≤ len0 ∧ OwnB w.heap.size wr bv (M.encZs (zs.take i)) ∧ Below w.heap.size w wr) (fun _ iv _ => len0 - (intOf iv).toNat)
  case atStart => exact ⟨0, rfl, by omega, World.ownsRow_nil _ _ _ _, HB1.out⟩
  case round =>
    obtain ⟨i, rfl, hi, ho, hb⟩ := hrel
    by_cases hlt : i < len0
    · obtain ⟨b, off, rfl, hbk, hc⟩ := M3.out (by rw [HL.out]; omega)
      have hil : i < zs.length := by rw [HL.out]; exact hlt
      have cr := (hb.cell (p := ⟨b, off + i, none⟩) hbk).trans (hc i hil)
      have hln := (M.encZs_len (zs.take i)).2
      have hln2 := List.length_take_le i zs
      obtain ⟨r, hr⟩ : ∃ r, zs[i] = r := ⟨_, rfl⟩
      rw [hr] at cr
      have hnx : M.encZs (zs.take i) ++ M.enc r = M.encZs (zs.take (i + 1)) := by rw [List.take_succ_eq_append_getElem hil, hr, M.encZs_append, M.encZs_cons, M.encZs_nil, List.append_nil]
      have PT := Lib.hid (refput_any w.heap.size u4 (M.encZs (zs.take i)) (M.encZs (zs.take (i + 1))) r wr ho (by omega) hb.size hnx)
      have i0 : (0 : Int) ≤ i := by omega
      have i1 : (i : Int) < len0 := by omega
      clear hc hr hnx ho hln hln2 hil
      as_aux_lemma =>
        go_wp2_with fail
        refine (PT.out).mono ?_
        rintro e w2 ⟨v2, rfl, ho2, hb2⟩
        have hb3 := hb.trans hb2
        clear hb hb2
        go_wp2
        go_roundw
        case rel => exact ⟨i + 1, by go_num, by omega, ho2, hb3⟩
        case measure => simp [intOf]; omega
    · obtain rfl : i = len0 := by omega
      have hfull : zs.take i = zs := List.take_of_length_le (by rw [HL.out]; exact Nat.le_refl _)
      rw [hfull] at ho
      have hcv := conv_own ho
      have t1 : decide ((i : Int) < i) = false := by simp
      clear hlt hfull ho
      as_aux_lemma =>
        go_wp2_with fail
        refine (WD.out _).mono ?_
        rintro e w3 ⟨rfl, hb3⟩
        have hb4 := hb.trans (hb3.mono hb.size)
        clear hb hb3
        go_wp2
        go_ret
        exact ⟨rfl, hb4⟩
end Go.Proofs.Ytmhebcimpibipaa
