/- Texts of ours in one: RdTx. -/
import Derived.Test.YtlobinjdgcidmaaGreatDoorQs10
import Derived.Test.YtlobinjdgcidmaaGreatDoorQs02
import Derived.Test.YtlobinjdgcidmaaGreatDoorQs00
/- sread.text: the bytes of units of UTF-16. -/
namespace Go.Proofs.YtlobinjdgcidmaaGreatDoor
open Go.RowKit
set_option linter.unusedVariables false
set_option linter.unusedSimpArgs false

def txtU (l : List Nat) : List UInt8 := if h : l = [] then [] else M.enc ((M.firstU l).1 : Int) ++ txtU (l.drop (M.firstU l).2)
termination_by l.length
decreasing_by
  have := M.first_len l h
  simp only [List.length_drop]
  omega
theorem txtU_nil : txtU [] = [] := by rw [txtU]; rfl
theorem txtU_step (l : List Nat) (h : l ≠ []) : txtU l = M.enc ((M.firstU l).1 : Int) ++ txtU (l.drop (M.firstU l).2) := by
  conv => lhs; rw [txtU]
  rw [dif_neg h]
theorem txtU_len : ∀ (n : Nat) (l : List Nat), l.length ≤ n → (txtU l).length ≤ 4 * l.length := by
  intro n
  induction n with
  | zero =>
    intro l hl
    have : l = [] := List.eq_nil_of_length_eq_zero (by omega)
    subst this
    rw [txtU_nil]; simp
  | succ n ih =>
    intro l hl
    by_cases h : l = []
    · subst h; rw [txtU_nil]; simp
    · have h1 := M.first_len l h
      have h2 := M.enc_le ((M.firstU l).1 : Int)
      have h3 := ih (l.drop (M.firstU l).2) (by simp only [List.length_drop]; omega)
      rw [txtU_step l h, List.length_append]
      simp only [List.length_drop] at h3
      omega
set_option maxRecDepth 100000 in
set_option maxHeartbeats 2000000 in
theorem stext_any (v : Value) (l : List Nat) (t : ByteArray) (w : World) (hv : Is w v (iN l)) (hl : l.length ≤ 1048576) (hu : ∀ u ∈ l, u ≤ 65535) (ht : bytes (txtU l) = t) :
    Calls Tryz.prog 19 #[v] w fun e w' => e = .returned (.string t) ∧ Below w.heap.size w w' := by
  have Hv := Lib.hid hv
  have Ht := Lib.hid ht
  have Hu := Lib.hid hu
  obtain ⟨a, cap, rfl, h1, h2, h3⟩ := hv
  rw [iN_len] at h1 Hv ⊢
  have hblen := txtU_len l.length l (Nat.le_refl _)
  clear ht hu h3
  go_enter Tryz.func19, Tryz.ntmps19
  go_wp2
  go_loopw [0, 3, 4, 5] (fun lv ov _ _ wr => ∃ (m : Nat) (pre : List UInt8), m ≤ l.length ∧ Is w lv (iN (l.drop m)) ∧ OwnB w.heap.size wr ov pre ∧ pre ++ txtU (l.drop m) = txtU l ∧ Below w.heap.size w wr) (fun lv _ _ _ _ => match lv with | .slice _ n _ => n | _ => 0)
  case atStart => exact ⟨0, [], by omega, Hv.out, World.ownsRow_nil _ _ _ _, rfl, Below.refl _ _⟩
  case round =>
    obtain ⟨m, pre, hm, hIs, ho, hpre, hb⟩ := hrel
    have hIs2 := hIs
    have HIs := Lib.hid hIs
    obtain ⟨a', cap', rfl, g1, g2, g3⟩ := hIs2
    have hplen : pre.length ≤ 4 * l.length := by
      have := congrArg List.length hpre
      rw [List.length_append] at this; omega
    have hlen2 : (iN (l.drop m)).length = l.length - m := by rw [iN_len, List.length_drop]
    have g3' : m < l.length → _ := fun hh => g3 (by rw [hlen2]; omega)
    rw [hlen2] at HIs g1 ⊢
    have Hpre := Lib.hid hpre
    have hsz := hb.size
    clear hIs hpre hlen2 g3
    obtain ⟨L, hL⟩ : ∃ L, l.length - m = L := ⟨_, rfl⟩
    have hLm : m + L = l.length := by rw [← hL]; exact Nat.add_sub_cancel' hm
    rw [hL] at HIs g1 ⊢
    by_cases hlt : m < l.length
    · obtain ⟨b', off', rfl, hbk, hcx⟩ := g3' hlt
      clear hcx
      have hne : l.drop m ≠ [] := by intro hh; have := congrArg List.length hh; simp at this; omega
      obtain ⟨R, N, hRN⟩ : ∃ R N, M.firstU (l.drop m) = (R, N) := ⟨_, _, rfl⟩
      have hfl := M.first_len (l.drop m) hne
      have hfv := M.first_val (l.drop m) (fun u hh => Hu.out u (List.mem_of_mem_drop hh))
      have hstep := txtU_step (l.drop m) hne
      rw [hRN] at hfl hfv hstep
      simp only [List.drop_drop, List.length_drop] at hfl hfv hstep
      have hpre2 : (pre ++ M.enc (R : Int)) ++ txtU (l.drop (m + N)) = txtU l := by rw [← Hpre.out, hstep, List.append_assoc]
      have hdrop : (iN (l.drop m)).drop N = iN (l.drop (m + N)) := by rw [iN_drop, List.drop_drop]
      have hR1 := hfv.1
      have hN1 := hfl.1
      have hN2 := hfl.2.1
      have hpos : (0 : Int) < (L : Int) := by omega
      have Hne := Lib.hid hne
      have HRN := Lib.hid hRN
      have Hpre2 := Lib.hid hpre2
      have Hdrop := Lib.hid hdrop
      rw [hL] at hN2
      clear hne hRN hpre2 hdrop hstep hfv hfl g3' hL
      go_wp2_with fail
      refine (first_any _ (l.drop m) R N wr (HIs.out.keep hb) Hne.out HRN.out).mono ?_
      rintro e w1 ⟨rfl, hb1⟩
      have hb2 := hb.trans (hb1.mono hsz)
      have ho1 := ho.keep hb1
      clear hb hb1 ho hsz
      obtain ⟨r, hr⟩ : ∃ r : Int, (R : Int) = r := ⟨_, rfl⟩
      rw [hr] at Hpre2 ⊢
      have el := M.enc_le r
      go_wp2_with fail
      refine (put_any (.slice none 0 0) [] (M.enc r) r _ (bs_nil _) (by simp) rfl).mono ?_
      rintro e w2 ⟨v2, rfl, ho2, k3⟩
      have hb3 := hb2.trans (k3.mono hb2.size)
      have hsz3 := hb3.size
      have ho3 := ho1.keep k3
      have k1 := ho2.bs
      have k2 : ∀ n c, v2 = .slice none n c → c = 0 := by
        obtain ⟨_, ⟨rfl, h0⟩ | ⟨g, cap, cur, rfl, _⟩⟩ := ho2
        · intro n c h; simp at h; omega
        · intro n c h; simp at h
      clear hb2 ho1 k3 ho2
      go_wp2_with (at_builtin; refine wpl_append rfl _ _ rfl w.heap.size _ v2 pre (M.enc r) (pre ++ M.enc r) rfl ho3 rfl k1 k2 (by omega) hsz3 rfl ?_)
      intro v3 w3 ho4 hb4
      have hb5 := hb3.trans hb4
      clear hb3 ho3 k1 k2 hb4 hsz3
      have fin := is_drop HIs.out N hN2
      rw [Hdrop.out] at fin
      by_cases hcN : cap' = N
      · obtain rfl : L = cap' := by omega
        subst hcN
        rw [if_pos rfl] at fin
        simp only [Nat.sub_self] at fin
        have Fin := Lib.hid fin
        clear fin hr
        go_wp2
        go_roundw
        case rel => exact ⟨m + L, pre ++ M.enc r, by omega, Fin.out, ho4, Hpre2.out, hb5⟩
        case measure => simp; omega
      · rw [if_neg hcN] at fin
        have Fin := Lib.hid fin
        clear fin hr
        go_wp2
        go_roundw
        case rel => exact ⟨m + N, pre ++ M.enc r, by omega, Fin.out, ho4, Hpre2.out, hb5⟩
        case measure => simp; omega
    · obtain rfl : m = l.length := by omega
      obtain rfl : L = 0 := by omega
      rw [List.drop_length] at Hpre
      have hpe : pre = txtU l := by have := Hpre.out; rw [txtU_nil, List.append_nil] at this; exact this
      rw [hpe] at ho
      have hcv := conv_own ho
      rw [Ht.out] at hcv
      clear hlt g3' hpe hL hLm Hpre
      go_wp2
      go_ret
      exact ⟨rfl, hb⟩
end Go.Proofs.YtlobinjdgcidmaaGreatDoor
