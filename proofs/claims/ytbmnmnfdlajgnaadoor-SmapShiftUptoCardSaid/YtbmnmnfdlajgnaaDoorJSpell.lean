/- Texts of JSON, written: what jstring.Spell returns of units. -/
import Derived.Test.YtbmnmnfdlajgnaaDoorJStr
namespace Go.Proofs.YtbmnmnfdlajgnaaDoor
open Go.RowKit
set_option linter.unusedVariables false

set_option maxHeartbeats 1000000 in
theorem jspell_any (v : Value) (l : List Nat) (t : ByteArray) (w : World) (hv : Is w v (iN l)) (hl : l.length ≤ 1048576) (hu : ∀ u ∈ l, u ≤ 65535) (ht : bytes (M.spell l) = t) :
    Calls Tryd.prog 25 #[v] w fun e w' => e = .returned (.string t) ∧ Below w.heap.size w w' := by
  have hR := rightU_iN l hu
  have Hv := Lib.hid hv
  have HR := Lib.hid hR
  have Ht := Lib.hid ht
  have Hu := Lib.hid hu
  obtain ⟨a, cap, rfl, h1, h2, h3⟩ := hv
  rw [iN_len] at h1 Hv ⊢
  have hblen := M.body_len l
  clear hR ht hu h3
  have hbn : ∀ W : World, Below w.heap.size w W → Below w.heap.size w (W.alloc (.cells #[.int .u8 34] 5)) := fun W h => h.alloc h.size _
  have Hbn := Lib.hid hbn
  clear hbn
  go_enter Tryd.func25, Tryd.ntmps25
  go_wp2_with fail
  refine (jright_any _ (iN l) true _ Hv.out (by rw [iN_len]; omega) HR.out).mono ?_
  rintro e w' ⟨rfl, rfl⟩
  go_wp2
  go_loopw [0, 3, 4, 5] (fun lv ov _ _ wr => ∃ (m : Nat) (pre : List UInt8), m ≤ l.length ∧ Is w lv (iN (l.drop m)) ∧ OwnB w.heap.size wr ov (34 :: pre) ∧ pre ++ M.body (l.drop m) = M.body l ∧ Below w.heap.size w wr) (fun lv _ _ _ _ => match lv with | .slice _ n _ => n | _ => 0)
  case atStart =>
    refine ⟨0, [], by omega, ?_, ownB_built w.heap.size w [34] _ 1 (Nat.le_refl _) rfl rfl (by decide), rfl, Hbn.out _ (Below.refl _ _)⟩
    exact Hv.out
  case round =>
    obtain ⟨m, pre, hm, hIs, ho, hpre, hb⟩ := hrel
    have hIs2 := hIs
    have HIs := Lib.hid hIs
    obtain ⟨a', cap', rfl, g1, g2, g3⟩ := hIs2
    have hplen : pre.length ≤ 6 * l.length := by
      have := congrArg List.length hpre
      rw [List.length_append] at this; omega
    have hlen2 : (iN (l.drop m)).length = l.length - m := by rw [iN_len, List.length_drop]
    have g3' : m < l.length → _ := fun hh => g3 (by rw [hlen2]; omega)
    rw [hlen2] at HIs g1 ⊢
    have Hpre := Lib.hid hpre
    have hsz := hb.size
    clear hIs hpre hlen2 g3
    obtain ⟨L, hL⟩ : ∃ L, l.length - m = L := ⟨_, rfl⟩
    have hLm : m + L = l.length := by rw [← hL]; exact Nat.add_sub_cancel' hm
    rw [hL] at HIs g1 ⊢
    by_cases hlt : m < l.length
    · obtain ⟨b', off', rfl, hbk, hcx⟩ := g3' hlt
      clear hcx
      have hne : l.drop m ≠ [] := by intro hh; have := congrArg List.length hh; simp at this; omega
      obtain ⟨R, N, hRN⟩ : ∃ R N, M.firstU (l.drop m) = (R, N) := ⟨_, _, rfl⟩
      have hfl := M.first_len (l.drop m) hne
      have hfv := M.first_val (l.drop m) (fun u hh => Hu.out u (List.mem_of_mem_drop hh))
      have hstep := M.body_step (l.drop m) hne
      rw [hRN] at hfl hfv hstep
      simp only [List.drop_drop, List.length_drop] at hfl hfv hstep
      have hpre2 : (pre ++ M.spel R) ++ M.body (l.drop (m + N)) = M.body l := by rw [← Hpre.out, hstep, List.append_assoc]
      have hdrop : (iN (l.drop m)).drop N = iN (l.drop (m + N)) := by rw [iN_drop, List.drop_drop]
      obtain ⟨t, hsp⟩ : ∃ t, M.spel R = t := ⟨_, rfl⟩
      rw [hsp] at hpre2
      have hsl := (M.spel_len R).1
      rw [hsp] at hsl
      have hR1 := hfv.1
      have hN1 := hfl.1
      have hN2 := hfl.2.1
      have hpos : (0 : Int) < (L : Int) := by omega
      have Hne := Lib.hid hne
      have HRN := Lib.hid hRN
      have Hpre2 := Lib.hid hpre2
      have Hdrop := Lib.hid hdrop
      have Hsp := Lib.hid hsp
      rw [hL] at hN2
      clear hne hRN hpre2 hdrop hsp hstep hfv hfl g3' hL
      go_wp2_with fail
      refine (first_any _ (l.drop m) R N wr (HIs.out.keep hb) Hne.out HRN.out).mono ?_
      rintro e w1 ⟨rfl, hb1⟩
      have hb2 := hb.trans (hb1.mono hsz)
      have ho1 := ho.keep hb1
      clear hb hb1 ho hsz
      go_wp2_with fail
      refine (spelling_any R t _ hR1 Hsp.out).mono ?_
      rintro e w2 ⟨v2, rfl, k1, k2, k3⟩
      have hb3 := hb2.trans (k3.mono hb2.size)
      have hsz3 := hb3.size
      have ho2 := ho1.keep k3
      clear hb2 ho1 k3
      go_wp2_with (at_builtin; refine wpl_append rfl _ _ rfl w.heap.size _ v2 (34 :: pre) t (34 :: (pre ++ t)) rfl ho2 rfl k1 k2 (by simp only [List.length_cons]; omega) hsz3 rfl ?_)
      intro v3 w3 ho3 hb4
      have hb5 := hb3.trans hb4
      clear hb3 ho2 k1 k2 hb4 hsz3
      have fin := is_drop HIs.out N hN2
      rw [Hdrop.out] at fin
      by_cases hcN : cap' = N
      · obtain rfl : L = cap' := by omega
        subst hcN
        rw [if_pos rfl] at fin
        simp only [Nat.sub_self] at fin
        have Fin := Lib.hid fin
        clear fin
        go_wp2
        go_roundw
        case rel => exact ⟨m + L, pre ++ t, by omega, Fin.out, ho3, Hpre2.out, hb5⟩
        case measure => simp; omega
      · rw [if_neg hcN] at fin
        have Fin := Lib.hid fin
        clear fin
        go_wp2
        go_roundw
        case rel => exact ⟨m + N, pre ++ t, by omega, Fin.out, ho3, Hpre2.out, hb5⟩
        case measure => simp; omega
    · obtain rfl : m = l.length := by omega
      obtain rfl : L = 0 := by omega
      rw [List.drop_length] at Hpre
      have hpe : pre = M.body l := by have := Hpre.out; simpa [M.body] using this
      have hfin : bytes (34 :: (pre ++ [34])) = t := by rw [← Ht.out, hpe]; rfl
      have Hfin := Lib.hid hfin
      clear hlt g3' hpe hfin hL hLm
      go_wp2_with (at_builtin; refine wpl_append rfl _ _ rfl w.heap.size _ (.slice (some ⟨wr.heap.size, 0, none⟩) 1 1) (34 :: pre) [34] (34 :: (pre ++ [34])) rfl (ho.keep ((Below.refl _ _).alloc (Nat.le_refl _) _)) rfl (bs_cells_new wr [34] _ 1 rfl rfl (by decide)) (nn_some _ _ _) (by simp; omega) (by simp; omega) rfl ?_)
      intro v3 w3 ho3 hb4
      have hcv := conv_own ho3
      rw [Hfin.out] at hcv
      have hb5 := (hb.alloc hsz _).trans hb4
      clear hb4 ho hb ho3
      go_wp2
      go_ret
      exact ⟨rfl, hb5⟩

theorem jspell_no (v : Value) (l : List Int) (w : World) (hv : Is w v l) (hl : l.length ≤ 1048576) (hr : M.rightU l = false) :
    Calls Tryd.prog 25 #[v] w fun e w' => e = .returned (.string ⟨#[]⟩) ∧ Below w.heap.size w w' := by
  have Hv := Lib.hid hv
  have Hr := Lib.hid hr
  clear hv hr
  go_enter Tryd.func25, Tryd.ntmps25
  go_wp2_with fail
  refine (jright_any v l false _ Hv.out (by omega) Hr.out).mono ?_
  rintro e w' ⟨rfl, rfl⟩
  go_wp2
  go_ret
  exact ⟨rfl, Below.refl _ _⟩
/-- What is written of any ints. -/
def spellI (l : List Int) : ByteArray := if M.rightU l then bytes (M.spell (l.map Int.toNat)) else ⟨#[]⟩
theorem spellI_iN (l : List Nat) (h : ∀ u ∈ l, u ≤ 65535) : spellI (iN l) = bytes (M.spell l) := by
  unfold spellI
  rw [rightU_iN l h, if_pos rfl]
  congr 2
  unfold iN
  rw [List.map_map]
  conv => rhs; rw [← List.map_id l]
  apply List.map_congr_left
  intro x _
  simp
theorem jspell_all (v : Value) (l : List Int) (t : ByteArray) (w : World) (hv : Is w v l) (hl : l.length ≤ 1048576) (ht : spellI l = t) :
    Calls Tryd.prog 25 #[v] w fun e w' => e = .returned (.string t) ∧ Below w.heap.size w w' := by
  cases hr : M.rightU l with
  | false =>
    have : t = ⟨#[]⟩ := by rw [← ht]; unfold spellI; rw [hr]; rfl
    subst this
    exact jspell_no v l w hv hl hr
  | true =>
    obtain ⟨k, rfl, hk⟩ := iN_of l hr
    rw [spellI_iN k hk] at ht
    exact jspell_any v k t w hv (by rw [iN_len] at hl; exact hl) hk ht
end Go.Proofs.YtbmnmnfdlajgnaaDoor
