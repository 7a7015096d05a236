/- Texts of ours in one: ZJu. -/
import Derived.Test.YtlobinjdgcidmaaDoorQj17
import Derived.Test.YtlobinjdgcidmaaDoorQj15
import Derived.StillTailTactics
import Derived.Test.YtlobinjdgcidmaaDoorQj11
import Derived.Test.YtlobinjdgcidmaaDoorQj09
import Derived.Deep.QuietTactic
import Derived.BigQuiet
import Derived.Outline
import Derived.Test.YtlobinjdgcidmaaDoorQj03
/- The page's JUnits: its answer is a list of its own (JgX's walk again, with the stronger ending). -/
namespace Go.Proofs.YtlobinjdgcidmaaDoor
open Go.RowKit
set_option linter.unusedVariables false
set_option linter.unusedSimpArgs false

def JuO (w : World) (n : Nat) (us : List Nat) (ok : Bool) (e : Ending) (w' : World) : Prop := ∃ v', e = .returned (.tuple #[v', .bool ok]) ∧ (ok = true → OwnI w.heap.size w' v' (iN us) ∧ us.length ≤ 2 * n) ∧ Below w.heap.size w w'

set_option maxRecDepth 100000 in
set_option maxHeartbeats 8000000 in
theorem junits_own (v : Value) (l : List UInt8) (us : List Nat) (ok : Bool) (w : World) (hv : Bs w v l) (hl : l.length ≤ 1048576) (hr : junits l = if ok then some us else none) :
    Calls Tryd.prog 22 #[v] w (JuO w l.length us ok) := by
  have hv2 := hv
  obtain ⟨a, cap, rfl, h1, h2, h3⟩ := hv2
  obtain ⟨n, hn⟩ : ∃ n, l.length = n := ⟨_, rfl⟩
  rw [hn] at hv h1 hl ⊢
  unfold junits at hr
  rw [hn] at hr
  by_cases hn2 : n < 2
  · rw [if_neg (by omega)] at hr
    have := if_no hr
    subst this
    have n2 : (n : Int) < 2 := by omega
    clear hr h3 hv hn hn2
    go_enter Tryd.func22, Tryd.ntmps22
    go_wp2
    go_ret2
    exact ⟨_, rfl, fun h => absurd h (by simp), Below.refl _ _⟩
  · obtain ⟨b, off, rfl, hb, hcl⟩ := h3 (by omega)
    have hcg : ∀ j, j < l.length → w.cell? ⟨b, off + j, none⟩ = some (.int .u8 ((l.getD j 0).toNat : Int)) := fun j hj => by rw [hcl j hj]; simp [hj]
    have hc0 := hcg 0 (by omega)
    rw [Nat.add_zero] at hc0
    have n2 : ¬ (n : Int) < 2 := by omega
    have n3 : 2 ≤ n := by omega
    obtain ⟨c, hc⟩ : ∃ c, l.getD 0 0 = c := ⟨_, rfl⟩
    rw [hc] at hc0 hr
    obtain ⟨C, hC⟩ : ∃ C : Int, (c.toNat : Int) = C := ⟨_, rfl⟩
    rw [hC] at hc0
    by_cases h34 : c = 34
    · obtain ⟨T, hT⟩ : ∃ T, jtI l 1 = T := ⟨_, rfl⟩
      have J1 : Calls Tryd.prog 39 #[.slice (some ⟨b, off, none⟩) n cap, .int .i64 0] w fun e w' => e = .returned (.int .i64 T) ∧ Below w.heap.size w w' := jtext_any _ l 0 T w hv (by omega) (by omega) hT
      have t1 := eq_n c C hC 34 34 rfl h34
      have t2 := eq_b c C hC 34 34 rfl h34
      rw [hT] at hr
      have HJ := Lib.hid J1
      by_cases hTn : T = n
      · have t3 : (T != (n : Int)) = false := by simp [hTn]
        have t4 : (T == (n : Int)) = true := by simp [hTn]
        obtain ⟨⟨q, vok⟩, hval⟩ : ∃ x, M.validAll l = x := ⟨_, rfl⟩
        have V1 := fun W hb => refvalid_any (.slice (some ⟨b, off, none⟩) n cap) l q vok W hb (by omega) hval
        have Hvs := Lib.hid hv
        have HV := Lib.hid V1
        rw [hval] at hr
        cases vok with
        | false =>
          rw [if_neg (by simp)] at hr
          have := if_no hr
          subst this
          clear hr h3 hv hn hn2 hcl hcg hc hC h34 hT J1 V1 hval hTn
          go_enter Tryd.func22, Tryd.ntmps22
          go_wp2_with fail
          refine HJ.out.mono ?_
          rintro e w1 ⟨rfl, hb1⟩
          go_wp2_with fail
          refine (HV.out _ (Hvs.out.keep hb1)).mono ?_
          rintro e w' ⟨rfl, rfl⟩
          go_wp2
          go_ret2
          exact ⟨_, rfl, fun h => absurd h (by simp), hb1⟩
        | true =>
          rw [if_pos ⟨n3, h34, hTn, rfl⟩] at hr
          have : ok = true := by cases ok with
            | true => rfl
            | false => exact absurd hr (by simp)
          subst this
          simp only [if_true, Option.some.injEq] at hr
          have hst := rest_start l (by rw [hc]; exact h34) (by omega) (by rw [hT, hTn, hn]) (by rw [hval])
          have HG := Lib.hid hcg
          have HN := Lib.hid hn
          have HR := Lib.hid hr
          have HS := Lib.hid hst
          clear hr h3 hv hn hn2 hcl hcg hc hC h34 hT J1 V1 hval hTn hst
          go_enter Tryd.func22, Tryd.ntmps22
          go_wp2_with fail
          refine HJ.out.mono ?_
          rintro e w1 ⟨rfl, hb1⟩
          go_wp2_with fail
          refine (HV.out _ (Hvs.out.keep hb1)).mono ?_
          rintro e w' ⟨rfl, rfl⟩
          go_wp2
          clear hc0 t1 t2
          go_loopw [6, 7, 8, 9, 10, 11, 12, 13] (fun lv iv _ _ _ _ _ _ wr => ∃ (i : Nat) (pre : List Nat), iv = .int .i64 i ∧ i < n ∧ Rest l i ∧ pre ++ M.ulS (l.drop i) = us ∧ pre.length ≤ 2 * i ∧ OwnI w.heap.size wr lv (iN pre) ∧ Below w.heap.size w wr) (fun _ iv _ _ _ _ _ _ _ => n - (intOf iv).toNat)
          case atStart => exact ⟨1, [], rfl, by omega, HS.out, by rw [List.nil_append]; exact HR.out, by simp, World.ownsRow_nil _ _ _ _, hb1⟩
          case round =>
            obtain ⟨i, pre, rfl, hi, hrest, hpre, hpl, ho, hbr⟩ := hrel
            have Hrest := Lib.hid hrest
            have Hpre := Lib.hid hpre
            have hszr := hbr.size
            have Ho := Lib.hid ho
            clear hrest hpre ho
            by_cases hlt : i + 1 < n
            · have i1 : (0 : Int) ≤ i := by omega
              have i2 : (i : Int) < (n : Int) - 1 := by omega
              have i3 : (i : Int) < n := by omega
              have hci := HG.out i (by rw [HN.out]; omega)
              have hcr := hbr.cell (p := ⟨b, off + i, none⟩) hb
              rw [hci] at hcr
              obtain ⟨c, hc⟩ : ∃ c, l.getD i 0 = c := ⟨_, rfl⟩
              rw [hc] at hcr
              obtain ⟨C, hC⟩ : ∃ C : Int, (c.toNat : Int) = C := ⟨_, rfl⟩
              rw [hC] at hcr
              by_cases h92 : c = 92
              · have t1 := eq_n c C hC 92 92 rfl h92
                have t2 := eq_b c C hC 92 92 rfl h92
                obtain ⟨d, hd⟩ : ∃ d, l.getD (i + 1) 0 = d := ⟨_, rfl⟩
                have hcd := HG.out (i + 1) (by rw [HN.out]; omega)
                have hcdr := hbr.cell (p := ⟨b, off + (i + 1), none⟩) hb
                rw [hcd, hd] at hcdr
                obtain ⟨D, hD⟩ : ∃ C : Int, (d.toNat : Int) = C := ⟨_, rfl⟩
                rw [hD] at hcdr
                have D0 : 0 ≤ D := by omega
                have D9 : D < 256 := by have := d.toNat_lt; omega
                have i4 : ((i : Int) + 1).toNat = i + 1 := by omega
                have i5 : (0 : Int) ≤ (i : Int) + 1 := by omega
                have i6 : (i : Int) + 1 < n := by omega
                by_cases h117 : d = 117
                · have t3 := eq_b d D hD 117 117 rfl h117
                  obtain ⟨h6, hdig, hR, hul⟩ := rest_hex l i Hrest.out (by rw [HN.out]; exact hlt) (by rw [hc]; exact h92) (by rw [hd]; exact h117)
                  rw [HN.out] at h6
                  have hfin : (pre ++ [hexA l (i + 2) 4]) ++ M.ulS (l.drop (i + 6)) = us := by rw [List.append_assoc, List.singleton_append, ← hul]; exact Hpre.out
                  have HF := Lib.hid hfin
                  have HRR := Lib.hid hR
                  have HD4 := Lib.hid hdig
                  clear hc hC h92 hd hD h117 hR hul hfin hci hcd hdig
                  go_wp2
                  go_loop [11, 12] (fun xv kv => ∃ j : Nat, kv = .int .i64 ((i : Int) + 2 + j) ∧ j ≤ 4 ∧ xv = .int .i64 ((hexA l (i + 2) j : Nat) : Int)) (fun _ kv => ((i : Int) + 6 - intOf kv).toNat)
                  case atStart => exact ⟨0, by simp, by omega, rfl⟩
                  case round =>
                    obtain ⟨j, rfl, hj, rfl⟩ := hrel
                    by_cases hj4 : j < 4
                    · have k0 : (i : Int) + 2 + j < i + 6 := by omega
                      have hck := HG.out (i + 2 + j) (by rw [HN.out]; omega)
                      have hckr := hbr.cell (p := ⟨b, off + (i + 2 + j), none⟩) hb
                      rw [hck] at hckr
                      have hx0 := HD4.out j hj4
                      have hxl := M.hexV_lt (l.getD (i + 2 + j) 0)
                      obtain ⟨x, hx⟩ : ∃ x : Nat, M.hexV (l.getD (i + 2 + j) 0) = x := ⟨_, (Int.toNat_of_nonneg hx0).symm⟩
                      have hstep : hexA l (i + 2) (j + 1) = hexA l (i + 2) j * 16 + x := by rw [hexA, hx]; simp
                      have hal := hexA_lt l (i + 2) j
                      have hal2 : (16 : Nat) ^ j ≤ 16 ^ 3 := Nat.pow_le_pow_right (by omega) (by omega)
                      obtain ⟨A, hA⟩ : ∃ A, hexA l (i + 2) j = A := ⟨_, rfl⟩
                      rw [hA] at hstep hal ⊢
                      rw [hx] at hxl
                      have hA4 : A < 4096 := by omega
                      have hor := jor_16 A x (by omega) (by omega)
                      rw [← hstep] at hor
                      have hc1 := fun W => hex_any (l.getD (i + 2 + j) 0) x W hx
                      have Hc1 := Lib.hid hc1
                      have k2 : (0 : Int) ≤ (i : Int) + 2 + j := by omega
                      have k3 : (i : Int) + 2 + j < n := by omega
                      have k4 : ((i : Int) + 2 + j).toNat = i + 2 + j := by omega
                      clear hck hx0 hx hstep hal hal2 hA hc1
                      go_wp2_with fail
                      refine (Hc1.out _).mono ?_
                      rintro e w' ⟨rfl, rfl⟩
                      go_wp2
                      go_round
                      case rel => exact ⟨j + 1, by congr 1 <;> omega, by omega, rfl⟩
                      case measure => simp [intOf]; omega
                    · obtain rfl : j = 4 := by omega
                      have k0 : ¬ (i : Int) + 2 + 4 < i + 6 := by omega
                      obtain ⟨X, hX⟩ : ∃ A, hexA l (i + 2) 4 = A := ⟨_, rfl⟩
                      rw [hX] at HF ⊢
                      clear hX
                      go_wp2_with (at_builtin; refine wpl_appendI rfl _ _ rfl w.heap.size _ (.slice (some ⟨wr.heap.size, 0, none⟩) 1 1) (iN pre) [((X : Nat) : Int)] (iN (pre ++ [X])) rfl (ownsRow_keep Ho.out ((Below.refl _ _).alloc (Nat.le_refl _) _)) rfl (is_one wr _) (nn_some _ _ _) (by rw [iN_len]; simp; omega) (by simp; omega) (by rw [iN_append]; rfl) ?_)
                      intro v3 w3 ho3 hb4
                      have hb5 := (hbr.alloc hszr _).trans hb4
                      clear hb4
                      go_wp2
                      go_roundw
                      case rel => exact ⟨i + 6, pre ++ [X], by go_num, h6, HRR.out, HF.out, by simp; omega, ho3, hb5⟩
                      case measure => simp [intOf]; omega
                · have t3 := ne_b d D hD 117 117 rfl h117
                  obtain ⟨h6, hR, hul⟩ := rest_esc l i Hrest.out (by rw [HN.out]; exact hlt) (by rw [hc]; exact h92) (by rw [hd]; exact h117)
                  rw [HN.out] at h6
                  rw [hd] at hul
                  obtain ⟨x, hx⟩ : ∃ x, M.escV d = x := ⟨_, rfl⟩
                  have hes := escV_cases d
                  rw [hx] at hul hes
                  have hfin : (pre ++ [x]) ++ M.ulS (l.drop (i + 2)) = us := by rw [List.append_assoc, List.singleton_append, ← hul]; exact Hpre.out
                  have tst : ((D == 98) = true ∧ x = 8) ∨ ((D == 98) = false ∧ (D == 102) = true ∧ x = 12) ∨ ((D == 98) = false ∧ (D == 102) = false ∧ (D == 110) = true ∧ x = 10) ∨ ((D == 98) = false ∧ (D == 102) = false ∧ (D == 110) = false ∧ (D == 114) = true ∧ x = 13) ∨ ((D == 98) = false ∧ (D == 102) = false ∧ (D == 110) = false ∧ (D == 114) = false ∧ (D == 116) = true ∧ x = 9) ∨ ((D == 98) = false ∧ (D == 102) = false ∧ (D == 110) = false ∧ (D == 114) = false ∧ (D == 116) = false ∧ (x : Int) = D) := by
                    simp only [beq_iff_eq, beq_eq_false_iff_ne]
                    have q : ∀ k : UInt8, d = k → D = (k.toNat : Int) := fun k h => by rw [← hD, h]
                    have p : ∀ k : UInt8, d ≠ k → D ≠ (k.toNat : Int) := fun k h hh => h (UInt8.toNat_inj.1 (by omega))
                    rcases hes with ⟨e1, e2⟩ | ⟨e1, e2⟩ | ⟨e1, e2⟩ | ⟨e1, e2⟩ | ⟨e1, e2⟩ | ⟨e1, e2, e3, e4, e5, e6⟩
                    · have := q _ e1; simp at this; omega
                    · have := q _ e1; simp at this; omega
                    · have := q _ e1; simp at this; omega
                    · have := q _ e1; simp at this; omega
                    · have := q _ e1; simp at this; omega
                    · have p1 := p _ e1; have p2 := p _ e2; have p3 := p _ e3; have p4 := p _ e4; have p5 := p _ e5
                      simp at p1 p2 p3 p4 p5
                      omega
                  have HF := Lib.hid hfin
                  have HRR := Lib.hid hR
                  clear hc hC h92 hd hD h117 hR hul hfin hci hcd hes hx
                  rcases tst with ⟨s1, rfl⟩ | ⟨s1, s2, rfl⟩ | ⟨s1, s2, s3, rfl⟩ | ⟨s1, s2, s3, s4, rfl⟩ | ⟨s1, s2, s3, s4, s5, rfl⟩ | ⟨s1, s2, s3, s4, s5, hxD⟩
                  · go_wp2_with (at_builtin; refine wpl_appendI rfl _ _ rfl w.heap.size _ (.slice (some ⟨wr.heap.size, 0, none⟩) 1 1) (iN pre) [8] (iN (pre ++ [8])) rfl (ownsRow_keep Ho.out ((Below.refl _ _).alloc (Nat.le_refl _) _)) rfl (is_one wr _) (nn_some _ _ _) (by rw [iN_len]; simp; omega) (by simp; omega) (by rw [iN_append]; rfl) ?_)
                    intro v3 w3 ho3 hb4
                    have hb5 := (hbr.alloc hszr _).trans hb4
                    clear hb4
                    go_wp2
                    go_roundw
                    case rel => exact ⟨i + 2, pre ++ [8], by go_num, h6, HRR.out, HF.out, by simp; omega, ho3, hb5⟩
                    case measure => simp [intOf]; omega
                  · go_wp2_with (at_builtin; refine wpl_appendI rfl _ _ rfl w.heap.size _ (.slice (some ⟨wr.heap.size, 0, none⟩) 1 1) (iN pre) [12] (iN (pre ++ [12])) rfl (ownsRow_keep Ho.out ((Below.refl _ _).alloc (Nat.le_refl _) _)) rfl (is_one wr _) (nn_some _ _ _) (by rw [iN_len]; simp; omega) (by simp; omega) (by rw [iN_append]; rfl) ?_)
                    intro v3 w3 ho3 hb4
                    have hb5 := (hbr.alloc hszr _).trans hb4
                    clear hb4
                    go_wp2
                    go_roundw
                    case rel => exact ⟨i + 2, pre ++ [12], by go_num, h6, HRR.out, HF.out, by simp; omega, ho3, hb5⟩
                    case measure => simp [intOf]; omega
                  · go_wp2_with (at_builtin; refine wpl_appendI rfl _ _ rfl w.heap.size _ (.slice (some ⟨wr.heap.size, 0, none⟩) 1 1) (iN pre) [10] (iN (pre ++ [10])) rfl (ownsRow_keep Ho.out ((Below.refl _ _).alloc (Nat.le_refl _) _)) rfl (is_one wr _) (nn_some _ _ _) (by rw [iN_len]; simp; omega) (by simp; omega) (by rw [iN_append]; rfl) ?_)
                    intro v3 w3 ho3 hb4
                    have hb5 := (hbr.alloc hszr _).trans hb4
                    clear hb4
                    go_wp2
                    go_roundw
                    case rel => exact ⟨i + 2, pre ++ [10], by go_num, h6, HRR.out, HF.out, by simp; omega, ho3, hb5⟩
                    case measure => simp [intOf]; omega
                  · go_wp2_with (at_builtin; refine wpl_appendI rfl _ _ rfl w.heap.size _ (.slice (some ⟨wr.heap.size, 0, none⟩) 1 1) (iN pre) [13] (iN (pre ++ [13])) rfl (ownsRow_keep Ho.out ((Below.refl _ _).alloc (Nat.le_refl _) _)) rfl (is_one wr _) (nn_some _ _ _) (by rw [iN_len]; simp; omega) (by simp; omega) (by rw [iN_append]; rfl) ?_)
                    intro v3 w3 ho3 hb4
                    have hb5 := (hbr.alloc hszr _).trans hb4
                    clear hb4
                    go_wp2
                    go_roundw
                    case rel => exact ⟨i + 2, pre ++ [13], by go_num, h6, HRR.out, HF.out, by simp; omega, ho3, hb5⟩
                    case measure => simp [intOf]; omega
                  · go_wp2_with (at_builtin; refine wpl_appendI rfl _ _ rfl w.heap.size _ (.slice (some ⟨wr.heap.size, 0, none⟩) 1 1) (iN pre) [9] (iN (pre ++ [9])) rfl (ownsRow_keep Ho.out ((Below.refl _ _).alloc (Nat.le_refl _) _)) rfl (is_one wr _) (nn_some _ _ _) (by rw [iN_len]; simp; omega) (by simp; omega) (by rw [iN_append]; rfl) ?_)
                    intro v3 w3 ho3 hb4
                    have hb5 := (hbr.alloc hszr _).trans hb4
                    clear hb4
                    go_wp2
                    go_roundw
                    case rel => exact ⟨i + 2, pre ++ [9], by go_num, h6, HRR.out, HF.out, by simp; omega, ho3, hb5⟩
                    case measure => simp [intOf]; omega
                  · have HxD := Lib.hid hxD
                    clear hxD
                    go_wp2_with (at_builtin; refine wpl_appendI rfl _ _ rfl w.heap.size _ (.slice (some ⟨wr.heap.size, 0, none⟩) 1 1) (iN pre) [D] (iN (pre ++ [x])) rfl (ownsRow_keep Ho.out ((Below.refl _ _).alloc (Nat.le_refl _) _)) rfl (is_one wr _) (nn_some _ _ _) (by rw [iN_len]; simp; omega) (by simp; omega) (by rw [iN_append, ← HxD.out]; rfl) ?_)
                    intro v3 w3 ho3 hb4
                    have hb5 := (hbr.alloc hszr _).trans hb4
                    clear hb4
                    go_wp2
                    go_roundw
                    case rel => exact ⟨i + 2, pre ++ [x], by go_num, h6, HRR.out, HF.out, by simp; omega, ho3, hb5⟩
                    case measure => simp [intOf]; omega
              · have t1 := ne_n c C hC 92 92 rfl h92
                have t2 := ne_b c C hC 92 92 rfl h92
                obtain ⟨r, m, hnx, hr1, hm1, him, hR, hul⟩ := rest_cp l i Hrest.out (by rw [HN.out]; exact hlt) (by rw [hc]; exact h92)
                have N1 := fun W hb => refnext_any (.slice (some ⟨b, off, none⟩) n cap) l i _ W hb (by rw [HN.out]; omega) hnx
                unfold tri at N1
                dsimp only at N1
                have hP := fun W => pair_any r W hr1
                have hpl2 := pairU_len r
                have hfin : (pre ++ M.pairU r) ++ M.ulS (l.drop (i + m)) = us := by rw [List.append_assoc, ← hul]; exact Hpre.out
                have him2 : i + m < n := by rw [← HN.out]; exact him
                have HN1 := Lib.hid N1
                have HP := Lib.hid hP
                have HF := Lib.hid hfin
                have HRR := Lib.hid hR
                clear hc hC h92 hnx hR hul N1 hP hfin him hci
                obtain ⟨RI, hRI⟩ : ∃ R : Int, (r : Int) = R := ⟨_, rfl⟩
                have R0 : 0 ≤ RI := by omega
                have R1 : RI ≤ 1114111 := by omega
                rw [hRI] at HN1 HP
                clear hRI hr1
                go_wp2_with fail
                refine (HN1.out _ (Hvs.out.keep hbr)).mono ?_
                rintro e w' ⟨rfl, rfl⟩
                go_wp2_with fail
                refine (HP.out _).mono ?_
                rintro e w2 ⟨v2, rfl, hi2, hn2, hb2⟩
                have ho2 : OwnI w.heap.size w2 u6 (iN pre) := ownsRow_keep Ho.out hb2
                have hb3 := hbr.trans (hb2.mono hszr)
                have hsz3 := hb3.size
                go_wp2_with (at_builtin; refine wpl_appendI rfl _ _ rfl w.heap.size _ v2 (iN pre) (iN (M.pairU r)) (iN (pre ++ M.pairU r)) rfl ho2 rfl hi2 hn2 (by rw [iN_len, iN_len]; omega) hsz3 (iN_append _ _).symm ?_)
                intro v3 w3 ho3 hb4
                have hb5 := hb3.trans hb4
                clear hb3 hb4 hb2 hi2 hn2 ho2
                go_wp2
                go_roundw
                case rel => exact ⟨i + m, pre ++ M.pairU r, by go_num, him2, HRR.out, HF.out, by simp; omega, ho3, hb5⟩
                case measure => simp [intOf]; omega
            · have hfin := Hpre.out
              rw [M.ulS_end _ (by simp; rw [HN.out]; omega), List.append_nil] at hfin
              subst hfin
              have i2 : ¬ (i : Int) < (n : Int) - 1 := by omega
              have hpl3 : pre.length ≤ 2 * n := by omega
              have HF : Hid (JuO w n pre true (.returned (.tuple #[u6, .bool true])) wr) := Lib.hid ⟨_, rfl, fun _ => ⟨Ho.out, hpl3⟩, hbr⟩
              clear hlt
              go_wp2
              go_ret2
              exact HF.out
      · have t3 : (T != (n : Int)) = true := by simpa using hTn
        have t4 : (T == (n : Int)) = false := by simpa using hTn
        rw [if_neg (by intro hh; exact hTn hh.2.2.1)] at hr
        have := if_no hr
        subst this
        clear hr h3 hv hn hn2 hcl hcg hc hC h34 hT J1
        go_enter Tryd.func22, Tryd.ntmps22
        go_wp2_with fail
        refine HJ.out.mono ?_
        rintro e w1 ⟨rfl, hb1⟩
        go_wp2
        go_ret2
        exact ⟨_, rfl, fun h => absurd h (by simp), hb1⟩
    · have t2 := ne_b c C hC 34 34 rfl h34
      have t1 := ne_n c C hC 34 34 rfl h34
      rw [if_neg (by intro hh; exact h34 hh.2.1)] at hr
      have := if_no hr
      subst this
      clear hr h3 hv hn hn2 hcl hcg hc hC h34
      go_enter Tryd.func22, Tryd.ntmps22
      go_wp2
      go_ret2
      exact ⟨_, rfl, fun h => absurd h (by simp), Below.refl _ _⟩
theorem junitsz_any (v : Value) (l : List UInt8) (w : World) (hv : Bs w v l) (hl : l.length ≤ 1048576) :
    Calls Tryd.prog 22 #[v] w fun e w' => ∃ tv b, e = .returned (.tuple #[tv, .bool b]) ∧ IsP (Nw w.heap.size w') w' tv (iN ((unitsV l).getD [])) ∧ Below w.heap.size w w' := by
  rw [units_page]
  cases hr : junits l with
  | none =>
    refine (junits_no v l w hv hl hr).mono ?_
    rintro e w' ⟨rfl, h⟩
    exact ⟨_, _, rfl, isP_nil _ _, h⟩
  | some us =>
    refine (junits_own v l us true w hv hl (by rw [hr]; rfl)).mono ?_
    rintro e w' ⟨v', rfl, h1, h2⟩
    exact ⟨_, _, rfl, ownI_isP (h1 rfl).1, h2⟩
end Go.Proofs.YtlobinjdgcidmaaDoor
