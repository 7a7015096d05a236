/- The reference of names: Quoted, QuotedText. -/
import Derived.Test.YtkaojigdogeliaaDoorERef4
import Derived.Outline
namespace Go.Proofs.YtkaojigdogeliaaDoor
open Go.RowKit
set_option linter.unusedVariables false
set_option linter.unusedSimpArgs false

set_option maxRecDepth 100000 in
set_option maxHeartbeats 4000000 in
theorem rquoted_any (l : List UInt8) (q : UInt8) (t : List UInt8) (w : World) (hl : l.length ≤ 1000) (hq : q = 34 ∨ q = 39) (ht : M.encZs (M.qF q.toNat (M.pn l 0)) = t) :
    Calls Tryd.prog 44 #[.string (bytes l), .int .i64 (q.toNat : Int)] w (StP w t) := by
  obtain ⟨ps, hp⟩ : ∃ ps, M.pn l 0 = ps := ⟨_, rfl⟩
  have hok := M.pn_ok l l.length 0 (by omega)
  have hlen := M.pn_len l l.length 0 (by omega)
  rw [M.qF_bytes q hq, hp] at ht
  rw [hp] at hok hlen
  rw [← M.qacc_full] at ht
  have P := Lib.hid (points_any l ps w (by omega) hp)
  unfold IsP at P
  obtain ⟨Q, hQ⟩ : ∃ Q : Int, (q.toNat : Int) = Q := ⟨_, rfl⟩
  have hQ2 : Q = 34 ∨ Q = 39 := by rcases hq with rfl | rfl; left; rw [← hQ]; rfl; right; rw [← hQ]; rfl
  have hQe : M.enc Q = [q] := by rw [← hQ]; exact M.enc_byte q (by omega)
  rw [hQ] at ht ⊢
  obtain ⟨n, hn⟩ : ∃ n, ps.length = n := ⟨_, rfl⟩
  rw [hn] at hlen ht
  have hnl : n ≤ 1000 := by omega
  have Hok := Lib.hid hok
  have Hn := Lib.hid hn
  have Ht := Lib.hid ht
  have PQ := Lib.hid (fun W => refput_any W.heap.size (.slice none 0 0) [] [q] Q W (World.ownsRow_nil _ _ _ _) (by simp) (Nat.le_refl _) (by rw [hQe]; rfl))
  obtain ⟨QS, hQS⟩ : ∃ S, bytes [q] = S := ⟨_, rfl⟩
  have hQSz : QS.size = 1 := by rw [← hQS, bytes_size]; rfl
  have hQSz2 : QS.size ≤ 1 := by omega
  have HQS := Lib.hid hQS
  obtain ⟨S, hS⟩ : ∃ S, bytes l = S := ⟨_, rfl⟩
  rw [hS] at P ⊢
  clear hok hlen hn hS hp ht hQe hQ hQS hQSz hq
  go_enter Tryd.func44, Tryd.ntmps44
  go_wp2_with fail
  refine (P.out).mono ?_
  rintro e w1 ⟨v1, rfl, hv, hbl⟩
  obtain ⟨a, cap, rfl, h1, h2, h3⟩ := hv
  rw [Hn.out] at h1 ⊢
  unfold maxLen at h2
  have H3 := Lib.hid h3
  have Hbl := Lib.hid hbl
  clear h3 hbl
  go_wp2_with fail
  refine (PQ.out _).mono ?_
  rintro e w2 ⟨v2, rfl, ho2, hb2⟩
  have hcvq := conv_own ho2
  rw [HQS.out] at hcvq
  have B2 := Lib.hid hb2
  clear ho2 hb2
  go_wp2
  clear hcvq
  go_loopw [6, 8, 9, 10] (fun tv iv _ _ wr => ∃ i : Nat, iv = .int .i64 i ∧ i ≤ n ∧ tv = .string (bytes (q :: M.encZs (M.qacc Q ps i))) ∧ Below w1.heap.size w1 wr) (fun _ iv _ _ _ => n - (intOf iv).toNat)
  case atStart => exact ⟨0, rfl, by omega, by rw [← HQS.out]; rfl, B2.out⟩
  case round =>
    obtain ⟨i, rfl, hi, rfl, hb⟩ := hrel
    have HB := Lib.hid hb
    have hTs : (bytes (q :: M.encZs (M.qacc Q ps i))).size ≤ 100000 := by
      have h4 := M.qacc_len Q ps i
      have := encZs_le4 (M.qacc Q ps i)
      rw [bytes_size]; simp; omega
    obtain ⟨Tx, hTx⟩ : ∃ S, bytes (q :: M.encZs (M.qacc Q ps i)) = S := ⟨_, rfl⟩
    rw [hTx] at hTs ⊢
    have HTx := Lib.hid hTx
    by_cases hlt : i < n
    · obtain ⟨b1, off, rfl, hbk, hc⟩ := H3.out (by rw [Hn.out]; omega)
      have hil : i < ps.length := by rw [Hn.out]; exact hlt
      have c0 := hc i hil
      have hg : ps.getD i 0 = ps[i] := by simp [List.getD, hil]
      rw [← hg] at c0
      have cr := (hb.cell (p := ⟨b1, off + i, none⟩) hbk).trans c0
      have cx : i + 1 < n → w1.cell? ⟨b1, off + (i + 1), none⟩ = some (.int .i64 (ps.getD (i + 1) 0)) := fun hj => by
        have hj' : i + 1 < ps.length := by rw [Hn.out]; exact hj
        rw [hc (i + 1) hj']; simp [List.getD, hj']
      have c00 : n ≤ i + 1 → ps.getD (i + 1) 0 = 0 := fun hj => by simp [List.getD, List.getElem?_eq_none (show ps.length ≤ i + 1 by rw [Hn.out]; exact hj)]
      have hin := List.getElem_mem hil
      have hcp := Hok.out _ hin
      rw [← hg] at hcp
      obtain ⟨r, hr⟩ : ∃ r, ps.getD i 0 = r := ⟨_, rfl⟩
      obtain ⟨x, hx⟩ : ∃ r, ps.getD (i + 1) 0 = r := ⟨_, rfl⟩
      have Hr := Lib.hid hr
      have Hx := Lib.hid hx
      rw [hr] at cr hcp
      rw [hx] at cx c00
      have hr1 := hcp.2
      have i1 : (0 : Int) ≤ i := by omega
      have i2 : (i : Int) < n := by omega
      have PT := Lib.hid (refput_any wr.heap.size (.slice none 0 0) [] (M.enc r) r wr (World.ownsRow_nil _ _ _ _) (by simp) (Nat.le_refl _) (by simp))
      obtain ⟨PS, hPS⟩ : ∃ S, bytes (M.enc r) = S := ⟨_, rfl⟩
      have hPz : PS.size ≤ 4 := by rw [← hPS, bytes_size]; exact M.enc_le r
      have HPS := Lib.hid hPS
      obtain ⟨k, hkr⟩ : ∃ k : Nat, (k : Int) = r := ⟨r.toNat, by omega⟩
      have hsucc : bytes (q :: M.encZs (M.qacc Q ps (i + 1))) = Tx ++ bytes (M.encZs (M.qt Q r x)) := by
        rw [M.qacc_succ, Hr.out, Hx.out, M.encZs_append, ← HTx.out, cat2]; simp
      have Hsucc := Lib.hid hsucc
      clear hc c0 hg hin hcp hr hx hb hTx hil hPS hsucc
      by_cases hA : r = Q ∨ r = 92
      · have HSUM : Hid ((Tx ++ (ByteArray.mk #[92])) ++ PS = bytes (q :: M.encZs (M.qacc Q ps (i + 1)))) := Lib.hid (by
          rw [Hsucc.out, show M.qt Q r x = [92, r] by unfold M.qt; rw [if_pos hA], M.encZs_cons, M.encZs_cons, M.encZs_nil, List.append_nil, M.enc_ascii 92 (by decide) (by decide), ← cat2, HPS.out, ← ByteArray.append_assoc]; rfl)
        have hway : (r == Q) = true ∨ ((r == Q) = false ∧ (r == 92) = true) := by
          by_cases h : r = Q
          · left; rw [beq_iff_eq]; exact h
          · right; refine ⟨by rw [beq_eq_false_iff_ne]; exact h, by rw [beq_iff_eq]; omega⟩
        clear hA cx c00 hkr
        rcases hway with hw1 | ⟨hw1, hw2⟩
        all_goals
          go_wp2_with fail
          refine (PT.out).mono ?_
          rintro e w3 ⟨v3, rfl, ho3, hb3⟩
          have hcv := conv_own ho3
          rw [HPS.out] at hcv
          have HB3 := Lib.hid (HB.out.trans (hb3.mono HB.out.size))
          clear ho3 hb3
          go_wp2
          go_roundw
          case rel => exact ⟨i + 1, by go_num, by omega, by rw [← HSUM.out], HB3.out⟩
          case measure => simp [intOf]; omega
      have tA : (r == Q) = false := by rw [beq_eq_false_iff_ne]; omega
      have tB : (r == 92) = false := by rw [beq_eq_false_iff_ne]; omega
      by_cases hL : r = 10 ∨ r = 12 ∨ r = 13
      · have NB := Lib.hid (fun W => rnum_any k W (by omega) (by omega))
        rw [hkr] at NB
        have hsz2 := enum_size r
        obtain ⟨NS, hNS⟩ : ∃ S, bytes (M.encZs (92 :: M.hexd r)) = S := ⟨_, rfl⟩
        rw [hNS] at NB hsz2
        have hqt : M.qt Q r x = (92 :: M.hexd r) ++ (if M.jn x then [32] else []) := by unfold M.qt; rw [if_neg hA, if_pos hL]
        have HS1 : M.jn x = true → (Tx ++ NS) ++ (ByteArray.mk #[32]) = bytes (q :: M.encZs (M.qacc Q ps (i + 1))) := fun hj => by
          rw [Hsucc.out, hqt, if_pos hj, M.encZs_append, ← cat2, hNS, ← ByteArray.append_assoc, show M.encZs [32] = [32] by decide +kernel]; rfl
        have HS2 : M.jn x = false → Tx ++ NS = bytes (q :: M.encZs (M.qacc Q ps (i + 1))) := fun hj => by
          rw [Hsucc.out, hqt, if_neg (by rw [hj]; decide), List.append_nil, hNS]
        have S1 := Lib.hid HS1
        have S2 := Lib.hid HS2
        have hway : (r == 10) = true ∨ ((r == 10) = false ∧ (r == 12) = true) ∨ ((r == 10) = false ∧ (r == 12) = false ∧ (r == 13) = true) := by
          rcases hL with rfl | rfl | rfl
          · left; rfl
          · right; left; exact ⟨by decide, by decide⟩
          · right; right; exact ⟨by decide, by decide, by decide⟩
        have hCX := Lib.hid cx
        have hC0 := Lib.hid c00
        clear hA hqt HS1 HS2 hNS hL cx c00 hkr
        rcases hway with hw1 | ⟨hw1, hw2⟩ | ⟨hw1, hw2, hw3⟩
        all_goals
          as_aux_lemma =>
            go_wp2_with fail
            refine (PT.out).mono ?_
            rintro e w3 ⟨v3, rfl, ho3, hb3⟩
            have hcv := conv_own ho3
            rw [HPS.out] at hcv
            have HB3 := Lib.hid (HB.out.trans (hb3.mono HB.out.size))
            clear ho3 hb3
            go_wp2_with fail
            refine (NB.out _).mono ?_
            rintro e w' ⟨rfl, rfl⟩
            by_cases hin : i + 1 < n
            · have hcx := (HB3.out.cell (p := ⟨b1, off + (i + 1), none⟩) hbk).trans (hCX.out hin)
              have j1 : (i : Int) + 1 < n := by omega
              have j2 : ((i : Int) + 1).toNat = i + 1 := by omega
              have j3 : decide ((i : Int) + 1 < n) = true := by simpa using j1
              cases hX : M.isX x with
              | true =>
                have HX := Lib.hid (rhex_any x _ w3 (hexO_x _ hX))
                have hxr := M.xv_range _ hX
                obtain ⟨xx, hxx⟩ : ∃ y, M.xv x = y := ⟨_, rfl⟩
                rw [hxx] at HX hxr
                have y0 := hxr.1
                have hs := S1.out (by simp [M.jn, hX])
                have HSS := Lib.hid hs
                clear hs hxr hxx hX hcv
                go_wp2_with fail
                refine (HX.out).mono ?_
                rintro e w' ⟨rfl, rfl⟩
                go_wp2
                go_roundw
                case rel => exact ⟨i + 1, by go_num, by omega, by rw [← HSS.out], HB3.out⟩
                case measure => simp [intOf]; omega
              | false =>
                have HX := Lib.hid (rhex_any x _ w3 (hexO_n _ hX))
                cases hBl : M.isBl x with
                | true =>
                  have BX := Lib.hid (risbl_any x true w3 hBl)
                  have hs := S1.out (by simp [M.jn, hBl])
                  have HSS := Lib.hid hs
                  clear hs hX hBl hcv
                  go_wp2_with fail
                  refine (HX.out).mono ?_
                  rintro e w' ⟨rfl, rfl⟩
                  go_wp2_with fail
                  refine (BX.out).mono ?_
                  rintro e w' ⟨rfl, rfl⟩
                  go_wp2
                  go_roundw
                  case rel => exact ⟨i + 1, by go_num, by omega, by rw [← HSS.out], HB3.out⟩
                  case measure => simp [intOf]; omega
                | false =>
                  have BX := Lib.hid (risbl_any x false w3 hBl)
                  by_cases h12 : x = 12
                  · subst h12
                    have hs := S1.out (by decide)
                    have HSS := Lib.hid hs
                    clear hs hX hBl hcv
                    go_wp2_with fail
                    refine (HX.out).mono ?_
                    rintro e w' ⟨rfl, rfl⟩
                    go_wp2_with fail
                    refine (BX.out).mono ?_
                    rintro e w' ⟨rfl, rfl⟩
                    go_wp2
                    go_roundw
                    case rel => exact ⟨i + 1, by go_num, by omega, by rw [← HSS.out], HB3.out⟩
                    case measure => simp [intOf]; omega
                  have x12 : (x == 12) = false := by rw [beq_eq_false_iff_ne]; exact h12
                  by_cases h13 : x = 13
                  · subst h13
                    have hs := S1.out (by decide)
                    have HSS := Lib.hid hs
                    clear hs hX hBl hcv h12
                    go_wp2_with fail
                    refine (HX.out).mono ?_
                    rintro e w' ⟨rfl, rfl⟩
                    go_wp2_with fail
                    refine (BX.out).mono ?_
                    rintro e w' ⟨rfl, rfl⟩
                    go_wp2
                    go_roundw
                    case rel => exact ⟨i + 1, by go_num, by omega, by rw [← HSS.out], HB3.out⟩
                    case measure => simp [intOf]; omega
                  · have x13 : (x == 13) = false := by rw [beq_eq_false_iff_ne]; exact h13
                    have hs := S2.out (by simp [M.jn, hX, hBl, h12, h13])
                    have HSS := Lib.hid hs
                    clear hs hX hBl hcv h12 h13
                    go_wp2_with fail
                    refine (HX.out).mono ?_
                    rintro e w' ⟨rfl, rfl⟩
                    go_wp2_with fail
                    refine (BX.out).mono ?_
                    rintro e w' ⟨rfl, rfl⟩
                    go_wp2
                    go_roundw
                    case rel => exact ⟨i + 1, by go_num, by omega, by rw [← HSS.out], HB3.out⟩
                    case measure => simp [intOf]; omega
            · have hx0 := hC0.out (by omega)
              subst hx0
              have j3 : decide ((i : Int) + 1 < n) = false := by simp; omega
              have hs := S2.out (by decide)
              have HSS := Lib.hid hs
              clear hs hcv hin
              go_wp2
              go_roundw
              case rel => exact ⟨i + 1, by go_num, by omega, by rw [← HSS.out], HB3.out⟩
              case measure => simp [intOf]; omega
      have ta : (r == 10) = false := by rw [beq_eq_false_iff_ne]; omega
      have tb : (r == 12) = false := by rw [beq_eq_false_iff_ne]; omega
      have tc : (r == 13) = false := by rw [beq_eq_false_iff_ne]; omega
      have HSUM : Hid (Tx ++ PS = bytes (q :: M.encZs (M.qacc Q ps (i + 1)))) := Lib.hid (by
        rw [Hsucc.out, show M.qt Q r x = [r] by unfold M.qt; rw [if_neg hA, if_neg hL], M.encZs_cons, M.encZs_nil, List.append_nil, HPS.out])
      clear hA hL cx c00 hkr
      go_wp2_with fail
      refine (PT.out).mono ?_
      rintro e w3 ⟨v3, rfl, ho3, hb3⟩
      have hcv := conv_own ho3
      rw [HPS.out] at hcv
      have HB3 := Lib.hid (HB.out.trans (hb3.mono HB.out.size))
      clear ho3 hb3
      go_wp2
      go_roundw
      case rel => exact ⟨i + 1, by go_num, by omega, by rw [← HSUM.out], HB3.out⟩
      case measure => simp [intOf]; omega
    · obtain rfl : i = n := by omega
      have hfin : Tx ++ QS = bytes t := by rw [← HTx.out, ← HQS.out, cat2, ← Ht.out]; simp
      have HF : Hid (StP w t (.returned (.string (Tx ++ QS))) wr) := Lib.hid ⟨by rw [hfin], Hbl.out.trans (HB.out.mono Hbl.out.size)⟩
      clear hlt hb hTx hfin
      go_wp2
      go_ret
      exact HF.out
set_option maxRecDepth 100000 in
set_option maxHeartbeats 1000000 in
theorem rqtext_any (l t : List UInt8) (w : World) (hl : l.length ≤ 1000) (ht : M.qText (M.pn l 0) = t) :
    Calls Tryd.prog 23 #[.string (bytes l)] w (StP w t) := by
  unfold M.qText at ht
  have Q1 := Lib.hid (fun W => rquoted_any l 34 _ W hl (.inl rfl) rfl)
  have Q2 := Lib.hid (fun W => rquoted_any l 39 _ W hl (.inr rfl) rfl)
  rw [show ((34 : UInt8).toNat : Int) = 34 from rfl] at Q1
  rw [show ((39 : UInt8).toNat : Int) = 39 from rfl] at Q2
  obtain ⟨A, hA⟩ : ∃ A, M.encZs (M.qF 34 (M.pn l 0)) = A := ⟨_, rfl⟩
  obtain ⟨B, hB⟩ : ∃ A, M.encZs (M.qF 39 (M.pn l 0)) = A := ⟨_, rfl⟩
  rw [hA, hB] at ht
  rw [hA] at Q1
  rw [hB] at Q2
  unfold StP at Q1 Q2
  have sA := bytes_size A
  have sB := bytes_size B
  obtain ⟨SA, hSA⟩ : ∃ A', bytes A = A' := ⟨_, rfl⟩
  obtain ⟨SB, hSB⟩ : ∃ A', bytes B = A' := ⟨_, rfl⟩
  rw [hSA] at Q1 sA
  rw [hSB] at Q2 sB
  rw [← sA, ← sB] at ht
  obtain ⟨S, hS⟩ : ∃ S, bytes l = S := ⟨_, rfl⟩
  rw [hS] at Q1 Q2 ⊢
  have HA := Lib.hid hSA
  have HB := Lib.hid hSB
  clear hSA hSB hA hB hS sA sB hl
  by_cases hlt : SB.size < SA.size
  · rw [if_pos hlt] at ht
    subst ht
    have q1 : decide ((SB.size : Int) < SA.size) = true := by simpa using hlt
    have q2 : decide (SB.size < SA.size) = true := by simpa using hlt
    clear hlt
    go_enter Tryd.func23, Tryd.ntmps23
    go_wp2_with fail
    refine (Q1.out _).mono ?_
    rintro e w2 ⟨rfl, hb2⟩
    go_wp2_with fail
    refine (Q2.out _).mono ?_
    rintro e w3 ⟨rfl, hb3⟩
    have HF : Hid (StP w B (.returned (.string SB)) w3) := Lib.hid ⟨by rw [HB.out], hb2.trans (hb3.mono hb2.size)⟩
    clear hb2 hb3
    go_wp2
    go_ret
    exact HF.out
  · rw [if_neg hlt] at ht
    subst ht
    have q1 : decide ((SB.size : Int) < SA.size) = false := by simpa using hlt
    have q2 : decide (SB.size < SA.size) = false := by simpa using hlt
    clear hlt
    go_enter Tryd.func23, Tryd.ntmps23
    go_wp2_with fail
    refine (Q1.out _).mono ?_
    rintro e w2 ⟨rfl, hb2⟩
    go_wp2_with fail
    refine (Q2.out _).mono ?_
    rintro e w3 ⟨rfl, hb3⟩
    have HF : Hid (StP w A (.returned (.string SA)) w3) := Lib.hid ⟨by rw [HA.out], hb2.trans (hb3.mono hb2.size)⟩
    clear hb2 hb3
    go_wp2
    go_ret
    exact HF.out
end Go.Proofs.YtkaojigdogeliaaDoor
