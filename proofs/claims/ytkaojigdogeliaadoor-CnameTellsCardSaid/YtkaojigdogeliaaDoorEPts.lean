/- The code points of a text, as the reference finds them; whether a text is clean. -/
import Derived.Test.YtkaojigdogeliaaDoorEAlive
import Derived.Test.YtkaojigdogeliaaDoorIBase
import Derived.Outline
namespace Go.Proofs.YtkaojigdogeliaaDoor
open Go.RowKit
set_option linter.unusedVariables false
set_option linter.unusedSimpArgs false

theorem is_one1 (w : World) (r : Int) : Is (w.alloc (.cells #[.int .i64 r] 3)) (.slice (some ⟨w.heap.size, 0, none⟩) 1 1) [r] := is_new w [r] (by simp)
/-- Numbers are returned. -/
def IsP (w : World) (ps : List Int) (e : Ending) (w' : World) : Prop := ∃ v, e = .returned v ∧ Is w' v ps ∧ Below w.heap.size w w'
set_option maxRecDepth 100000 in
set_option maxHeartbeats 2000000 in
theorem points_any (l : List UInt8) (ps : List Int) (w : World) (hl : l.length ≤ 100000) (hp : M.pn l 0 = ps) :
    Calls Tryd.prog 26 #[.string (bytes l)] w (IsP w ps) := by
  have hsz0 : (bytes l).size = l.length := bytes_size l
  obtain ⟨n, hn⟩ : ∃ n, l.length = n := ⟨_, rfl⟩
  have hcv := bw_conv w (bytes l)
  have hbs := bw_bs w (bytes l) (by rw [hsz0]; omega)
  have hbb := bw_below w (bytes l)
  rw [bytes_toList] at hbs
  rw [hsz0] at hcv hbs
  rw [hn] at hcv hbs hl
  obtain ⟨W1, hW1⟩ : ∃ W1, Lib.bytesWorld w 5 (bytes l) = W1 := ⟨_, rfl⟩
  rw [hW1] at hcv hbs hbb
  obtain ⟨cap, hcap⟩ : ∃ W1, grownCap w n 0 5 = W1 := ⟨_, rfl⟩
  rw [hcap] at hcv hbs
  have Hn := Lib.hid hn
  have Hbs := Lib.hid hbs
  have Hbb := Lib.hid hbb
  have Hp := Lib.hid hp
  obtain ⟨S, hS⟩ : ∃ S, bytes l = S := ⟨_, rfl⟩
  rw [hS] at hcv ⊢
  have hz := hbb.size
  clear hn hbs hbb hp hW1 hcap hsz0 hS
  go_enter Tryd.func26, Tryd.ntmps26
  go_wp2
  go_loopw [3, 5] (fun ov iv wr => ∃ (i : Nat) (pre : List Int), iv = .int .i64 i ∧ i ≤ n ∧ pre ++ M.pn l i = ps ∧ pre.length ≤ i ∧ OwnI W1.heap.size wr ov pre ∧ Below W1.heap.size W1 wr) (fun _ iv _ => n - (intOf iv).toNat)
  case atStart => exact ⟨0, [], rfl, by omega, Hp.out, by simp, World.ownsRow_nil _ _ _ _, Below.refl _ _⟩
  case round =>
    obtain ⟨i, pre, rfl, hi, hpre, hpl, ho, hb⟩ := hrel
    have hsz := hb.size
    by_cases hlt : i < n
    · have hil : i < l.length := by rw [Hn.out]; exact hlt
      obtain ⟨ok, hnx⟩ := M.next_dec l i hil
      have N1 := refnext_any _ l i _ wr (Hbs.out.keep hb) (by rw [Hn.out]; omega) hnx
      unfold tri at N1
      dsimp only at N1
      have hw := M.dec_width (l.drop i)
      have hle := M.dec_le (l.drop i) (by simp; omega)
      rw [List.length_drop, Hn.out] at hle
      rw [M.pn_in l i hil] at hpre
      unfold M.ptv at hpre
      obtain ⟨D, hD⟩ : ∃ D, (M.dec (l.drop i)).1 = D := ⟨_, rfl⟩
      obtain ⟨K, hK⟩ : ∃ D, (M.dec (l.drop i)).2 = D := ⟨_, rfl⟩
      rw [hD, hK] at N1 hpre
      rw [hK] at hw hle
      obtain ⟨R, hR⟩ : ∃ R : Int, (if D = 0 then 65533 else (D : Int)) = R := ⟨_, rfl⟩
      rw [hR] at hpre
      have hpre2 : (pre ++ [R]) ++ M.pn l (i + K) = ps := by rw [← hpre]; simp
      have Hpre := Lib.hid hpre2
      have HN := Lib.hid N1
      have hw1 := hw.1
      have hba := hb.alloc hsz (.cells #[.int .i64 R] 3)
      have hoa : OwnI W1.heap.size (wr.alloc (.cells #[.int .i64 R] 3)) u3 pre := World.ownsRow.alloc ho _
      have hbaz := hba.size
      have OI := Lib.hid (is_one1 wr R)
      clear N1 hpre hpre2 hD hK hnx hw hil hb ho
      by_cases h0 : D = 0
      · subst h0
        rw [if_pos rfl] at hR
        subst hR
        go_wp2_with fail
        refine (HN.out).mono ?_
        rintro e w' ⟨rfl, rfl⟩
        go_wp2_with (at_builtin; refine wpl_appendI rfl _ _ rfl W1.heap.size u3 (.slice (some ⟨wr.heap.size, 0, none⟩) 1 1) pre [65533] (pre ++ [65533]) rfl hoa rfl OI.out (nn_some _ _ _) (by simp; omega) hbaz rfl ?_)
        intro v6 w6 ho6 hb6
        have hb7 := hba.trans hb6
        clear hba hb6 hoa
        go_wp2
        go_roundw
        case rel => exact ⟨i + K, pre ++ [65533], by go_num, by omega, Hpre.out, by simp; omega, ho6, hb7⟩
        case measure => simp [intOf]; omega
      · rw [if_neg h0] at hR
        have t0 : (R == 0) = false := by rw [beq_eq_false_iff_ne]; omega
        rw [hR] at HN
        clear h0 hR
        go_wp2_with fail
        refine (HN.out).mono ?_
        rintro e w' ⟨rfl, rfl⟩
        go_wp2_with (at_builtin; refine wpl_appendI rfl _ _ rfl W1.heap.size u3 (.slice (some ⟨wr.heap.size, 0, none⟩) 1 1) pre [R] (pre ++ [R]) rfl hoa rfl OI.out (nn_some _ _ _) (by simp; omega) hbaz rfl ?_)
        intro v6 w6 ho6 hb6
        have hb7 := hba.trans hb6
        clear hba hb6 hoa
        go_wp2
        go_roundw
        case rel => exact ⟨i + K, pre ++ [R], by go_num, by omega, Hpre.out, by simp; omega, ho6, hb7⟩
        case measure => simp [intOf]; omega
    · rw [M.pn_out l i (by rw [Hn.out]; omega), List.append_nil] at hpre
      have hge : (n : Int) ≤ i := by omega
      have HF : Hid (IsP w ps (.returned u3) wr) := Lib.hid ⟨_, rfl, by rw [← hpre]; exact ho.is, Hbb.out.trans (hb.mono hz)⟩
      clear hpre ho hb
      go_wp2
      go_ret
      exact HF.out
theorem enc_wid (r : Int) (h : M.isCP r = true) : ((M.enc r).length : Int) = if r ≥ 65536 then 4 else if r ≥ 2048 then 3 else if r ≥ 128 then 2 else 1 := by
  have hc := (M.isCP_iff r).1 h
  obtain ⟨n, rfl⟩ : ∃ n : Nat, r = (n : Int) := ⟨r.toNat, by omega⟩
  rw [M.enc_len n h]
  unfold M.wid
  repeat' split
  all_goals first | omega | rfl
theorem cleanL_false (l : List Int) (i : Nat) (h : i < l.length) (h2 : l.getD i (-1) = 65533) : M.cleanL l = false := by
  rw [getD_lt l i h] at h2
  simp only [M.cleanL, List.all_eq_false]
  exact ⟨l[i], List.getElem_mem h, by simp [h2]⟩
theorem cleanL_all (l : List Int) (h : ∀ i, i < l.length → l.getD i (-1) ≠ 65533) : M.cleanL l = true := by
  simp only [M.cleanL, List.all_eq_true]
  intro r hr
  obtain ⟨i, hi, rfl⟩ := List.getElem_of_mem hr
  have := h i hi
  rw [getD_lt l i hi] at this
  simp [this]
set_option maxRecDepth 100000 in
set_option maxHeartbeats 2000000 in
theorem clean_any (l : List UInt8) (b : Bool) (w : World) (hl : l.length ≤ 100000) (hb0 : M.cleanL (M.pn l 0) = b) :
    Calls Tryd.prog 24 #[.string (bytes l)] w fun e w' => e = .returned (.bool b) ∧ Below w.heap.size w w' := by
  obtain ⟨ps, hps⟩ : ∃ ps, M.pn l 0 = ps := ⟨_, rfl⟩
  have hok := M.pn_ok l l.length 0 (by omega)
  have hlen := M.pn_len l l.length 0 (by omega)
  have hcl := M.clean_enc l l.length 0 (by omega)
  rw [hps] at hb0 hok hlen hcl
  have P := Lib.hid (points_any l ps w hl hps)
  obtain ⟨n, hn⟩ : ∃ n, ps.length = n := ⟨_, rfl⟩
  rw [hn] at hlen
  have hnl : n ≤ 100000 := by omega
  have Hb0 := Lib.hid hb0
  have Hok := Lib.hid hok
  have Hcl := Lib.hid hcl
  have Hn := Lib.hid hn
  have hsz := bytes_size l
  obtain ⟨m, hm⟩ : ∃ m, l.length = m := ⟨_, rfl⟩
  rw [hm] at hsz hl
  have Hm := Lib.hid hm
  obtain ⟨S, hS⟩ : ∃ S, bytes l = S := ⟨_, rfl⟩
  rw [hS] at P hsz ⊢
  have Hsz := Lib.hid hsz
  have hsm : S.size ≤ 100000 := by omega
  clear hb0 hok hlen hcl hps hn hm hS hsz
  go_enter Tryd.func24, Tryd.ntmps24
  go_wp2_with fail
  refine (P.out).mono ?_
  rintro e w1 ⟨v1, rfl, hv, hbl⟩
  obtain ⟨a, cap, rfl, h1, h2, h3⟩ := hv
  have H3 := Lib.hid h3
  have Hbl := Lib.hid hbl
  rw [Hn.out] at h1 ⊢
  unfold maxLen at h2
  clear h3 hbl
  go_wp2
  go_loop [4, 5] (fun kv iv => ∃ i : Nat, iv = .int .i64 i ∧ i ≤ n ∧ (∀ j, j < i → ps.getD j (-1) ≠ 65533) ∧ kv = .int .i64 ((M.encZs (ps.take i)).length : Int)) (fun _ iv => n - (intOf iv).toNat)
  case atStart => exact ⟨0, rfl, by omega, fun j h => by omega, rfl⟩
  case round =>
    obtain ⟨i, rfl, hi, hcl, rfl⟩ := hrel
    by_cases hlt : i < n
    · obtain ⟨b1, off, rfl, hbk, hc⟩ := H3.out (by rw [Hn.out]; omega)
      have hil : i < ps.length := by rw [Hn.out]; exact hlt
      have c0 := hc i hil
      have hg := getD_lt ps i hil (-1)
      rw [← hg] at c0
      have hin : ps[i] ∈ ps := List.getElem_mem hil
      have hcp := (Hok.out _ hin).1
      have hge1 := (Hok.out _ hin).2
      rw [← hg] at hcp hge1
      have hew := enc_wid _ hcp
      have htk : M.encZs (ps.take (i + 1)) = M.encZs (ps.take i) ++ M.enc (ps.getD i (-1)) := by
        rw [List.take_succ_eq_append_getElem hil, M.encZs_append, M.encZs_cons, M.encZs_nil, List.append_nil, hg]
      have hll := (M.encZs_len (ps.take i)).2
      rw [List.length_take] at hll
      obtain ⟨r, hr⟩ : ∃ r, ps.getD i (-1) = r := ⟨_, rfl⟩
      have Hcl := Lib.hid hcl
      have hf := cleanL_false ps i hil
      rw [hr] at c0 hew htk hf hge1
      have Hr := Lib.hid hr
      obtain ⟨N, hN⟩ : ∃ N, (M.encZs (ps.take i)).length = N := ⟨_, rfl⟩
      have htk2 : ((M.encZs (ps.take (i + 1))).length : Int) = (N : Int) + (M.enc r).length := by rw [htk, List.length_append, hN]; simp
      rw [hew] at htk2
      rw [hN] at hll ⊢
      have i1 : (0 : Int) ≤ i := by omega
      have i2 : (i : Int) < n := by omega
      have hN4 : N ≤ 400000 := by omega
      by_cases hff : r = 65533
      · have hbf : b = false := by rw [← Hb0.out]; exact hf hff
        subst hbf
        subst hff
        clear hc hcp hew htk hf hr hN htk2 hcl hg hll hge1 hin
        go_wp2
        go_ret
        exact ⟨rfl, Hbl.out⟩
      · have t0 : (r == 65533) = false := by rw [beq_eq_false_iff_ne]; exact hff
        have Hnf : Hid (∀ j, j < i + 1 → ps.getD j (-1) ≠ 65533) := Lib.hid (fun j hj => by
          by_cases hji : j < i
          · exact Hcl.out j hji
          · obtain rfl : j = i := by omega
            rw [Hr.out]; exact hff)
        have hway : (65536 ≤ r ∧ ((M.encZs (ps.take (i + 1))).length : Int) = (N : Int) + 4) ∨ (r < 65536 ∧ 2048 ≤ r ∧ ((M.encZs (ps.take (i + 1))).length : Int) = (N : Int) + 3) ∨ (r < 65536 ∧ r < 2048 ∧ 128 ≤ r ∧ ((M.encZs (ps.take (i + 1))).length : Int) = (N : Int) + 2) ∨ (r < 65536 ∧ r < 2048 ∧ r < 128 ∧ ((M.encZs (ps.take (i + 1))).length : Int) = (N : Int) + 1) := by
          revert htk2
          repeat' split
          all_goals (intro htk2; omega)
        clear hc hcp hew htk hf hr hN htk2 hcl hg hll hff hin
        rcases hway with ⟨w1, hL⟩ | ⟨w1, w2, hL⟩ | ⟨w1, w2, w3, hL⟩ | ⟨w1, w2, w3, hL⟩
        all_goals
          have HL := Lib.hid hL
          clear hL
          go_wp2
          go_round
          case rel => exact ⟨i + 1, by go_num, by omega, Hnf.out, by rw [HL.out]⟩
          case measure => simp [intOf]; omega
    · obtain rfl : i = n := by omega
      have hca : M.cleanL ps = true := cleanL_all ps (fun j hj => hcl j (by rw [Hn.out] at hj; exact hj))
      have hbt : b = true := by rw [← Hb0.out]; exact hca
      subst hbt
      have he := Hcl.out hca
      rw [List.drop_zero] at he
      have hlen2 : (M.encZs (ps.take i)).length = S.size := by
        rw [List.take_of_length_le (by rw [Hn.out]; exact Nat.le_refl _), he, Hm.out, Hsz.out]
      rw [hlen2]
      clear hca he hlen2 hcl hlt
      go_wp2
      go_ret
      exact ⟨by first | rfl | simp, Hbl.out⟩
end Go.Proofs.YtkaojigdogeliaaDoor
