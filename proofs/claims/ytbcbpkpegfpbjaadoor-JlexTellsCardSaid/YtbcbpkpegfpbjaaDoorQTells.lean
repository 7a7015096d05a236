/- The walk of JlexTells. -/
import Derived.Test.YtbcbpkpegfpbjaaDoorQAlive
import Derived.Test.YtbcbpkpegfpbjaaDoorQMath6
import Derived.Test.YtbcbpkpegfpbjaaDoorQJoins
import Derived.Test.YtbcbpkpegfpbjaaDoorQR5
import Derived.Deep.QuietTactic
namespace Go.Proofs.YtbcbpkpegfpbjaaDoor
open Go.RowKit
set_option linter.unusedVariables false
set_option linter.unusedSimpArgs false

set_option maxRecDepth 100000 in
set_option maxHeartbeats 8000000 in
theorem jtells_walk (a0 : Option Addr) (len0 cap0 : Nat) (l : List UInt8) (w : World) (hl : l.length = len0) (b0 : Bs w (.slice a0 len0 cap0) l) (n0 : ∀ n c, Value.slice a0 len0 cap0 = .slice none n c → c = 0) (hT : Tabs w) :
    Calls Tryd.prog 3 #[.slice a0 len0 cap0] w fun e w' => e = .returned (.bool true) ∧ Below w.heap.size w w' := by
  have al := Lib.hid (alive_any w hT)
  by_cases h0 : 600 < len0
  · have h0' : (600 : Int) < len0 := by omega
    clear b0 n0 hT hl
    go_enter Tryd.func3, Tryd.ntmps3
    go_wp2_with fail
    refine al.out.mono ?_
    rintro e w1 ⟨rfl, hb⟩
    go_wp2
    go_ret
    exact ⟨rfl, hb⟩
  have q1 : decide ((600 : Int) < len0) = false := by simp; omega
  have k0 : len0 ≤ 600 := by omega
  have B0 := Lib.hid b0
  have N0 := Lib.hid n0
  have HT := Lib.hid hT
  obtain ⟨R, hR⟩ : ∃ R, M.splitV l = R := ⟨_, rfl⟩
  have hlen : R.1.length ≤ 600 := by
    rcases M.split_cases l (by omega) with ⟨e, a, hs, _⟩ | ⟨ts, hs, hx, _⟩
    · rw [← hR, hs]; simp
    · have := M.lex_len l ts hx
      rw [← hR, hs]; simp only; omega
  have S1 := Lib.hid (fun v W hW hB => split_any v l _ W hW hB (by omega) hR)
  have S2 := Lib.hid (fun v W hB => refjlex_any v l _ W hB (by omega) hR)
  obtain ⟨ts, ea, aa⟩ := R
  dsimp only at hlen
  have HL := Lib.hid hl
  clear b0 n0 hT hl hR h0
  go_enter Tryd.func3, Tryd.ntmps3
  go_wp2_with fail
  refine al.out.mono ?_
  rintro e w1 ⟨rfl, hb1⟩
  have hb1z := hb1.size
  go_wp2_with (at_builtin; refine wpl_append rfl _ _ rfl w.heap.size (.slice none 0 0) (.slice a0 len0 cap0) [] l l rfl (World.ownsRow_nil _ _ _ _) rfl (B0.out.keep hb1) N0.out (by rw [HL.out]; simp; omega) hb1z rfl ?_)
  intro v2 w2 ho2 hb2
  have c2 := hb1.trans hb2
  clear hb1 hb2
  go_wp2_with fail
  refine (S1.out _ _ (HT.out.keep c2) ho2.bs).mono ?_
  rintro e w3 ⟨v3, rfl, ho3, hb3⟩
  have c3 := c2.trans (hb3.mono c2.size)
  have ts3 := tsAt_of ho3.vs
  obtain ⟨a3, cap3, rfl, _⟩ := id ts3
  have hb4 : Below w3.heap.size w3 (w3.alloc (.cells #[.int .i64 ea, .int .i64 aa] 27)) := (Below.refl _ _).alloc (Nat.le_refl _) _
  have f0 : (w3.alloc (.cells #[.int .i64 ea, .int .i64 aa] 27)).cell? ⟨w3.heap.size, 0, none⟩ = some (.int .i64 ea) := by simp
  have f1 : (w3.alloc (.cells #[.int .i64 ea, .int .i64 aa] 27)).cell? ⟨w3.heap.size, 1, none⟩ = some (.int .i64 aa) := by simp
  have z4 : (w3.alloc (.cells #[.int .i64 ea, .int .i64 aa] 27)).heap.size = w3.heap.size + 1 := by simp
  obtain ⟨W4, hW4⟩ : ∃ W, w3.alloc (.cells #[.int .i64 ea, .int .i64 aa] 27) = W := ⟨_, rfl⟩
  rw [hW4] at hb4 f0 f1 z4
  have c4 := c3.trans (hb4.mono c3.size)
  have F := Lib.hid (And.intro f0 f1)
  have Z4 := Lib.hid z4
  have T3 := Lib.hid (tsAt_keep ts3 hb4 (Nat.le_refl _))
  have HW4 := Lib.hid hW4
  clear hb3 c2 c3 ts3 ho3 ho2 hb4 f0 f1 z4 hW4 al S1
  unfold fv
  dsimp only
  go_wp2_with fail
  rw [HW4.out]
  refine (S2.out _ _ (B0.out.keep c4)).mono ?_
  rintro e w5 ⟨v5, rfl, ho5, hb5⟩
  have c5 := c4.trans (hb5.mono c4.size)
  have ts5 := tsAt_of ho5.vs
  obtain ⟨a5, cap5, rfl, _⟩ := id ts5
  have hlt3 : w3.heap.size < w5.heap.size := by have := hb5.size; rw [Z4.out] at this; omega
  have f0 := (hb5.cell (p := ⟨w3.heap.size, 0, none⟩) (by show w3.heap.size < _; rw [Z4.out]; omega)).trans F.out.1
  have f1 := (hb5.cell (p := ⟨w3.heap.size, 1, none⟩) (by show w3.heap.size < _; rw [Z4.out]; omega)).trans F.out.2
  have g0 : ∀ o : Obj, (w5.alloc o).cell? ⟨w3.heap.size, 0, none⟩ = some (.int .i64 ea) := fun o => by rw [World.cell?_alloc_past _ _ _ hlt3]; exact f0
  have g1 : ∀ o : Obj, (w5.alloc o).cell? ⟨w3.heap.size, 1, none⟩ = some (.int .i64 aa) := fun o => by rw [World.cell?_alloc_past _ _ _ hlt3]; exact f1
  have T3' := Lib.hid (tsAt_keep T3.out hb5 (by rw [Z4.out]; omega))
  have T5' := Lib.hid ts5
  obtain ⟨n, hn⟩ : ∃ n, ts.length = n := ⟨_, rfl⟩
  have HN := Lib.hid hn
  rw [hn] at hlen
  unfold fv
  dsimp only
  rw [hn]
  clear hb5 ho5 ts5 hn F c4 T3 S2
  obtain ⟨WB, hWB⟩ : ∃ W, w5.alloc (.cells #[.int .i64 ea, .int .i64 aa] 27) = W := ⟨_, rfl⟩
  have hB : Below w5.heap.size w5 WB := by rw [← hWB]; exact (Below.refl _ _).alloc (Nat.le_refl _) _
  have cB := c5.trans (hB.mono c5.size)
  have TA := Lib.hid (tsAt_keep T3'.out hB (Nat.le_of_lt hlt3))
  have TC := Lib.hid (tsAt_keep T5'.out hB (Nat.le_refl _))
  have HWB := Lib.hid hWB
  clear hWB hB T3' T5' f0 f1
  go_wp2
  rw [HWB.out]
  clear g0 g1
  go_loopw [8] (fun iv wx => ∃ i q : Nat, iv = .int .i64 (i : Int) ∧ i ≤ n ∧ wx = WB.drewN q) (fun iv _ => n - (intOf iv).toNat)
  case atStart => exact ⟨0, 0, rfl, by omega, rfl⟩
  case round =>
    obtain ⟨i, q, rfl, hi, rfl⟩ := hrel
    by_cases hlt : i < n
    · have hil : i < ts.length := by rw [HN.out]; exact hlt
      obtain ⟨a3', c3', hs3, hv3⟩ := TA.out
      obtain ⟨b3, o3, hA3, hl3, hc3⟩ := hv3 (by omega)
      obtain ⟨rfl, -, rfl⟩ : a3' = a3 ∧ True ∧ c3' = cap3 := by simp only [Value.slice.injEq] at hs3; exact ⟨hs3.1.symm, trivial, hs3.2.2.symm⟩
      subst hA3
      obtain ⟨a5', c5', hs5, hv5⟩ := TC.out
      obtain ⟨b5, o5, hA5, hl5, hc5⟩ := hv5 (by omega)
      obtain ⟨rfl, -, rfl⟩ : a5' = a5 ∧ True ∧ c5' = cap5 := by simp only [Value.slice.injEq] at hs5; exact ⟨hs5.1.symm, trivial, hs5.2.2.symm⟩
      subst hA5
      obtain ⟨x0, x1, x2⟩ := hc3 i hil
      obtain ⟨y0, y1, y2⟩ := hc5 i hil
      obtain ⟨P, hP⟩ : ∃ P : Int, (ts[i].1 : Int) = P := ⟨_, rfl⟩
      obtain ⟨Q, hQ⟩ : ∃ P : Int, (ts[i].2.1 : Int) = P := ⟨_, rfl⟩
      obtain ⟨S, hS⟩ : ∃ P : Int, (ts[i].2.2 : Int) = P := ⟨_, rfl⟩
      rw [hP] at x0 y0
      rw [hQ] at x1 y1
      rw [hS] at x2 y2
      have u1 : (i : Int) < n := by omega
      clear hP hQ hS hc3 hc5 hv3 hv5 hs3 hs5 hil
      go_wp2
      go_quiet (fail)
      go_wp2
      go_roundw
      case rel => exact ⟨i + 1, _, by go_num, by omega, rfl⟩
      case measure => simp [intOf]; omega
    · obtain rfl : i = n := by omega
      clear hlt
      go_wp2
      go_ret
      exact ⟨rfl, below_drewN cB _⟩
end Go.Proofs.YtbcbpkpegfpbjaaDoor
