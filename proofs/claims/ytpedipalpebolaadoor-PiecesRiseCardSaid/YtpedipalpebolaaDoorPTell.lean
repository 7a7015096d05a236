/- The walk of PiecesTell. -/
import Derived.Test.YtpedipalpebolaaDoorPSame
namespace Go.Proofs.YtpedipalpebolaaDoor
open Go.RowKit
set_option linter.unusedVariables false
set_option linter.unusedSimpArgs false

theorem Ps.len {w : World} {a : Option Addr} {n cap : Nat} {L : M.Pcs} (h : Ps w (.slice a n cap) L) : n = L.length := by
  obtain ⟨a', c, e, _⟩ := h
  rw [List.length_map] at e
  simp only [Value.slice.injEq] at e
  exact e.2.1
set_option maxRecDepth 100000 in
set_option maxHeartbeats 4000000 in
theorem ptell_walk (a0 : Option Addr) (len0 cap0 : Nat) (a1 : Option Addr) (len1 cap1 : Nat) (L : M.Pcs) (src : List UInt8) (w : World) (e0 : L.length = len0) (b0 : Ps w (.slice a0 len0 cap0) L) (n0 : NNv (.slice a0 len0 cap0))
    (e1 : src.length = len1) (b1 : Bs w (.slice a1 len1 cap1) src) (n1 : ∀ n c, Value.slice a1 len1 cap1 = .slice none n c → c = 0) (u0 : L.length + (M.textP L).length ≤ 1048576) (hT : Tabs w) :
    Calls Tryd.prog 3 #[.slice a0 len0 cap0, .slice a1 len1 cap1] w fun e w' => e = .returned (.bool true) ∧ Below w.heap.size w w' := by
  have al := Lib.hid (palive_any w hT)
  obtain ⟨r, hr⟩ : ∃ r, decide (L.length + (M.textP L).length ≤ 400) = r := ⟨_, rfl⟩
  have FW := Lib.hid (fun W hW => pfew_any (.slice a0 len0 cap0) L r W hW u0 hr)
  have B0 := Lib.hid b0
  have B1 := Lib.hid b1
  have HT := Lib.hid hT
  have N0 := Lib.hid n0
  clear b0 b1 n1 hT n0
  cases r with
  | false =>
    clear hr
    go_enter Tryd.func3, Tryd.ntmps3
    go_wp2_with fail
    refine al.out.mono ?_
    rintro e w1 ⟨rfl, hb1⟩
    go_wp2_with fail
    refine (FW.out _ (B0.out.keep hb1)).mono ?_
    rintro e w' ⟨rfl, rfl⟩
    go_wp2
    go_ret
    exact ⟨rfl, hb1⟩
  | true =>
    have h400 := of_decide_eq_true hr
    clear hr
    by_cases h200 : 200 < len1
    · have q : (200 : Int) < len1 := by omega
      go_enter Tryd.func3, Tryd.ntmps3
      go_wp2_with fail
      refine al.out.mono ?_
      rintro e w1 ⟨rfl, hb1⟩
      go_wp2_with fail
      refine (FW.out _ (B0.out.keep hb1)).mono ?_
      rintro e w' ⟨rfl, rfl⟩
      go_wp2
      go_ret
      exact ⟨rfl, hb1⟩
    · have q : ¬ (200 : Int) < len1 := by omega
      obtain ⟨t, ht⟩ : ∃ t, M.textP L = t := ⟨_, rfl⟩
      rw [ht] at h400 u0
      have R1 := Lib.hid (fun v vs W hW hv hvs => psegs_any v vs L src t W hW hv hvs (by omega) (by omega) (by omega) ht)
      have R2 := Lib.hid (fun v vs W hv hvs => prefsegs_any v vs L src t W hv hvs (by omega) (by omega) (by omega) ht)
      have hsl := M.segsP_le t src L 0
      obtain ⟨G, hG⟩ : ∃ G, M.segsP t src 0 L = G := ⟨_, rfl⟩
      rw [hG] at R1 R2 hsl
      have S1 := Lib.hid (fun B C v u W hv hu => psame_one B C v u G W hv hu (by omega))
      have hp9 : ([] : M.Pcs).length + L.length ≤ 4294967296 := by simp; omega
      clear hG hsl ht e0 e1 u0 h400
      go_enter Tryd.func3, Tryd.ntmps3
      go_wp2_with fail
      refine al.out.mono ?_
      rintro e w1 ⟨rfl, hb1⟩
      go_wp2_with fail
      refine (FW.out _ (B0.out.keep hb1)).mono ?_
      rintro e w' ⟨rfl, rfl⟩
      have hs1 := hb1.size
      have HB1 := Lib.hid hb1
      clear hb1
      go_wp2_with (at_builtin; refine wpl_pieces rfl _ _ rfl w1.heap.size (.slice none 0 0) (.slice a0 len0 cap0) [] L L rfl (ownV_nil _ _ _ _) rfl (B0.out.keep HB1.out) N0.out hp9 (Nat.le_refl _) (List.nil_append _) ?_)
      intro v2 w2 ho2 hb2
      have hb3 := HB1.out.trans (hb2.mono hs1)
      have HB3 := Lib.hid hb3
      have HO2 := Lib.hid ho2.ps
      clear hb2 hb3 ho2
      go_wp2_with fail
      refine (R1.out _ _ _ (HT.out.keep HB3.out) HO2.out (B1.out.keep HB3.out)).mono ?_
      rintro e w4 ⟨v4, rfl, ho4, hb4⟩
      have hb5 := HB3.out.trans (hb4.mono HB3.out.size)
      have HB5 := Lib.hid hb5
      have HO4 := Lib.hid ho4
      clear hb4 hb5 ho4
      go_wp2_with fail
      refine (R2.out _ _ _ (B0.out.keep HB5.out) (B1.out.keep HB5.out)).mono ?_
      rintro e w6 ⟨v6, rfl, ho6, hb6⟩
      have hb7 := HB5.out.trans (hb6.mono HB5.out.size)
      have hs4 := ssAt_keep (ssAt_of HO4.out) hb6 (Nat.le_refl _)
      have hs6 := ssAt_of ho6
      have HB7 := Lib.hid hb7
      clear hb6 hb7 ho6
      go_wp2_with fail
      refine (S1.out _ _ _ _ _ hs4 hs6).mono ?_
      rintro e w8 ⟨rfl, hb8⟩
      have hb9 := HB7.out.trans (hb8.mono HB7.out.size)
      clear hb8 hs4 hs6
      go_wp2
      go_ret
      exact ⟨rfl, hb9⟩
end Go.Proofs.YtpedipalpebolaaDoor
