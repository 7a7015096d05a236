/- The reference of names: spell, Spell, SpellRest. -/
import Derived.Test.YtkaojigdogeliaaDoorERef3
import Derived.Test.YtkaojigdogeliaaDoorEPts
import Derived.Outline
namespace Go.Proofs.YtkaojigdogeliaaDoor
open Go.RowKit
set_option linter.unusedVariables false
set_option linter.unusedSimpArgs false

theorem ctr_num (f : Bool) (ps : List Int) (i : Nat) (h : ps.getD i 0 < 32 ∨ ps.getD i 0 = 127 ∨ (f = true ∧ M.nDg (ps.getD i 0) = true ∧ (i = 0 ∨ (i = 1 ∧ ps.getD 0 0 = 45)))) : M.ctr f ps i = M.numN (ps.getD i 0) := by unfold M.ctr; rw [if_pos h]
theorem ctr_in (f : Bool) (ps : List Int) (i : Nat) (h : ¬ (ps.getD i 0 < 32 ∨ ps.getD i 0 = 127 ∨ (f = true ∧ M.nDg (ps.getD i 0) = true ∧ (i = 0 ∨ (i = 1 ∧ ps.getD 0 0 = 45))))) (h2 : ¬ (f = true ∧ ps.getD i 0 = 45 ∧ ps.length = 1)) (h3 : M.nIn (ps.getD i 0) = true) : M.ctr f ps i = [ps.getD i 0] := by
  unfold M.ctr; rw [if_neg h, if_neg h2, if_pos h3]
theorem ctr_out (f : Bool) (ps : List Int) (i : Nat) (h : ¬ (ps.getD i 0 < 32 ∨ ps.getD i 0 = 127 ∨ (f = true ∧ M.nDg (ps.getD i 0) = true ∧ (i = 0 ∨ (i = 1 ∧ ps.getD 0 0 = 45))))) (h2 : ¬ (f = true ∧ ps.getD i 0 = 45 ∧ ps.length = 1)) (h3 : M.nIn (ps.getD i 0) = false) : M.ctr f ps i = [92, ps.getD i 0] := by
  unfold M.ctr; rw [if_neg h, if_neg h2, if_neg (by rw [h3]; decide)]
theorem ctr_dash (ps : List Int) (i : Nat) (h : ps.getD i 0 = 45) (h2 : ps.length = 1) : M.ctr true ps i = [92, 45] := by
  unfold M.ctr; rw [h, if_neg (by intro hh; rcases hh with hh | hh | hh; omega; omega; exact absurd hh.2.1 (by decide)), if_pos ⟨rfl, rfl, h2⟩]
theorem enum_split (r : Int) : bytes (M.encZs (92 :: M.hexd r)) ++ bytes [32] = bytes (M.encZs (M.numN r)) := by
  rw [cat2]; congr 1
  show _ = M.encZs ((92 :: M.hexd r) ++ [32])
  rw [M.encZs_append, show M.encZs [32] = [32] by decide +kernel]
theorem enum_size (r : Int) : (bytes (M.encZs (92 :: M.hexd r))).size ≤ 16 := by
  have h1 := (M.encZs_len (92 :: M.hexd r)).2
  have h2 : (92 :: M.hexd r).length ≤ 4 := by unfold M.hexd; split <;> simp
  rw [bytes_size]; omega
set_option maxRecDepth 100000 in
set_option maxHeartbeats 4000000 in
theorem rspell_false (l : List UInt8) (ps : List Int) (w : World) (hl : l.length ≤ 1000) (hp : M.pn l 0 = ps) :
    Calls Tryd.prog 40 #[.string (bytes l), .bool false] w (StP w (M.encZs (M.accN false ps ps.length))) := by
  have hok := M.pn_ok l l.length 0 (by omega)
  have hlen := M.pn_len l l.length 0 (by omega)
  rw [hp] at hok hlen
  have P := Lib.hid (points_any l ps w (by omega) hp)
  unfold IsP at P
  obtain ⟨n, hn⟩ : ∃ n, ps.length = n := ⟨_, rfl⟩
  rw [hn] at hlen ⊢
  have hnl : n ≤ 1000 := by omega
  have Hok := Lib.hid hok
  have Hn := Lib.hid hn
  obtain ⟨S, hS⟩ : ∃ S, bytes l = S := ⟨_, rfl⟩
  rw [hS] at P ⊢
  clear hok hlen hn hS hp
  go_enter Tryd.func40, Tryd.ntmps40
  go_wp2_with fail
  refine (P.out).mono ?_
  rintro e w1 ⟨v1, rfl, hv, hbl⟩
  obtain ⟨a, cap, rfl, h1, h2, h3⟩ := hv
  have H3 := Lib.hid h3
  have Hbl := Lib.hid hbl
  rw [Hn.out] at h1 ⊢
  unfold maxLen at h2
  clear h3 hbl
  go_wp2
  go_loopw [6, 7, 8] (fun tv iv _ wr => ∃ i : Nat, iv = .int .i64 i ∧ i ≤ n ∧ tv = .string (bytes (M.encZs (M.accN false ps i))) ∧ Below w1.heap.size w1 wr) (fun _ iv _ _ => n - (intOf iv).toNat)
  case atStart => exact ⟨0, rfl, by omega, rfl, Below.refl _ _⟩
  case round =>
    obtain ⟨i, rfl, hi, rfl, hb⟩ := hrel
    have HB := Lib.hid hb
    have hTs : (bytes (M.encZs (M.accN false ps i))).size ≤ 100000 := by
      have h4 := M.accN_len false ps i
      rw [bytes_size]
      exact Nat.le_trans (encZs_le4 _) (by omega)
    obtain ⟨Tx, hTx⟩ : ∃ S, bytes (M.encZs (M.accN false ps i)) = S := ⟨_, rfl⟩
    rw [hTx] at hTs ⊢
    have HTx := Lib.hid hTx
    by_cases hlt : i < n
    · obtain ⟨b1, off, rfl, hbk, hc⟩ := H3.out (by rw [Hn.out]; omega)
      have hil : i < ps.length := by rw [Hn.out]; exact hlt
      have c0 := hc i hil
      have hg : ps.getD i 0 = ps[i] := by simp [List.getD, hil]
      rw [← hg] at c0
      have cz := hc 0 (by rw [Hn.out]; omega)
      have hgz : ps.getD 0 0 = ps[0]'(by rw [Hn.out]; omega) := by simp [List.getD, show 0 < ps.length by rw [Hn.out]; omega]
      rw [← hgz] at cz
      have cr := (hb.cell (p := ⟨b1, off + i, none⟩) hbk).trans c0
      have crz := (hb.cell (p := ⟨b1, off + 0, none⟩) hbk).trans cz
      rw [Nat.add_zero] at crz
      have hin := List.getElem_mem hil
      have hcp := Hok.out _ hin
      rw [← hg] at hcp
      obtain ⟨r, hr⟩ : ∃ r, ps.getD i 0 = r := ⟨_, rfl⟩
      obtain ⟨z, hz⟩ : ∃ r, ps.getD 0 0 = r := ⟨_, rfl⟩
      have Hr := Lib.hid hr
      have Hz := Lib.hid hz
      rw [hr] at cr hcp
      rw [hz] at crz
      have hr1 := hcp.2
      have i1 : (0 : Int) ≤ i := by omega
      have i2 : (i : Int) < n := by omega
      have PT := Lib.hid (refput_any wr.heap.size (.slice none 0 0) [] (M.enc r) r wr (World.ownsRow_nil _ _ _ _) (by simp) (Nat.le_refl _) (by simp))
      obtain ⟨PS, hPS⟩ : ∃ S, bytes (M.enc r) = S := ⟨_, rfl⟩
      have hPz : PS.size ≤ 4 := by rw [← hPS, bytes_size]; exact M.enc_le r
      have hn1 : ((n : Int) == 1) = decide (n = 1) := by
        by_cases h : n = 1
        · subst h; rfl
        · rw [decide_eq_false h, beq_eq_false_iff_ne]; omega
      obtain ⟨k, hkr⟩ : ∃ k : Nat, (k : Int) = r := ⟨r.toNat, by omega⟩
      clear hc c0 cz hg hgz hin hcp hr hz hb hTx hil
      by_cases hA : r < 32
      · clear hPS hn1 PT hPz
        have NB := Lib.hid (rnum_any k wr (by omega) (by omega))
        rw [hkr] at NB
        have hes := enum_split r
        have hsz2 := enum_size r
        obtain ⟨NS, hNS⟩ : ∃ S, bytes (M.encZs (92 :: M.hexd r)) = S := ⟨_, rfl⟩
        rw [hNS] at NB hes hsz2
        have HSUM : Hid ((Tx ++ NS) ++ (ByteArray.mk #[32]) = bytes (M.encZs (M.accN false ps (i + 1)))) := Lib.hid (by
          rw [M.accN_succ, ctr_num false ps i (by rw [Hr.out]; exact .inl hA), Hr.out, M.encZs_append, ← cat2, HTx.out, ← hes, ← ByteArray.append_assoc]; rfl)
        clear hNS hes 
        go_wp2_with fail
        refine (NB.out).mono ?_
        rintro e w' ⟨rfl, rfl⟩
        go_wp2
        go_roundw
        case rel => exact ⟨i + 1, by go_num, by omega, by rw [← HSUM.out], HB.out⟩
        case measure => simp [intOf]; omega
      by_cases hB : r = 127
      · clear hPS hn1 PT hPz
        have NB := Lib.hid (rnum_any k wr (by omega) (by omega))
        rw [hkr] at NB
        have hes := enum_split r
        have hsz2 := enum_size r
        obtain ⟨NS, hNS⟩ : ∃ S, bytes (M.encZs (92 :: M.hexd r)) = S := ⟨_, rfl⟩
        rw [hNS] at NB hes hsz2
        have HSUM : Hid ((Tx ++ NS) ++ (ByteArray.mk #[32]) = bytes (M.encZs (M.accN false ps (i + 1)))) := Lib.hid (by
          rw [M.accN_succ, ctr_num false ps i (by rw [Hr.out]; exact .inr (.inl hB)), Hr.out, M.encZs_append, ← cat2, HTx.out, ← hes, ← ByteArray.append_assoc]; rfl)
        subst hB
        clear hNS hes
        go_wp2_with fail
        refine (NB.out).mono ?_
        rintro e w' ⟨rfl, rfl⟩
        go_wp2
        go_roundw
        case rel => exact ⟨i + 1, by go_num, by omega, by rw [← HSUM.out], HB.out⟩
        case measure => simp [intOf]; omega
      have tA : decide (r < 32) = false := by simpa using hA
      have tB : (r == 127) = false := by rw [beq_eq_false_iff_ne]; exact hB
      cases hin : M.nIn r with
      | true =>
        have XI := Lib.hid (rnin_any r true wr hin)
        have HSUM : Hid (Tx ++ PS = bytes (M.encZs (M.accN false ps (i + 1)))) := Lib.hid (by
          rw [M.accN_succ, ctr_in false ps i (by rw [Hr.out]; intro hh; rcases hh with hh | hh | hh; exact hA hh; exact hB hh; exact absurd hh.1 (by decide)) (by rw [Hr.out]; intro hh; exact absurd hh.1 (by decide)) (by rw [Hr.out]; exact hin), Hr.out, M.encZs_append, ← cat2, HTx.out, M.encZs_cons, M.encZs_nil, List.append_nil, hPS])
        have HPS := Lib.hid hPS
        clear hin hA hB hkr hPS
        go_wp2_with fail
        refine (XI.out).mono ?_
        rintro e w' ⟨rfl, rfl⟩
        go_wp2_with fail
        refine (PT.out).mono ?_
        rintro e w2 ⟨v2, rfl, ho2, hb2⟩
        have hcv := conv_own ho2
        rw [HPS.out] at hcv
        have hb3 := HB.out.trans (hb2.mono HB.out.size)
        clear ho2 hb2
        go_wp2
        go_roundw
        case rel => exact ⟨i + 1, by go_num, by omega, by rw [← HSUM.out], hb3⟩
        case measure => simp [intOf]; omega
      | false =>
        have XI := Lib.hid (rnin_any r false wr hin)
        have HSUM : Hid ((Tx ++ (ByteArray.mk #[92])) ++ PS = bytes (M.encZs (M.accN false ps (i + 1)))) := Lib.hid (by
          rw [M.accN_succ, ctr_out false ps i (by rw [Hr.out]; intro hh; rcases hh with hh | hh | hh; exact hA hh; exact hB hh; exact absurd hh.1 (by decide)) (by rw [Hr.out]; intro hh; exact absurd hh.1 (by decide)) (by rw [Hr.out]; exact hin), Hr.out, M.encZs_append, ← cat2, HTx.out, M.encZs_cons, M.encZs_cons, M.encZs_nil, List.append_nil, M.enc_ascii 92 (by decide) (by decide), ← cat2, hPS, ← ByteArray.append_assoc]; rfl)
        have HPS := Lib.hid hPS
        clear hin hA hB hkr hPS
        go_wp2_with fail
        refine (XI.out).mono ?_
        rintro e w' ⟨rfl, rfl⟩
        go_wp2_with fail
        refine (PT.out).mono ?_
        rintro e w2 ⟨v2, rfl, ho2, hb2⟩
        have hcv := conv_own ho2
        rw [HPS.out] at hcv
        have hb3 := HB.out.trans (hb2.mono HB.out.size)
        clear ho2 hb2
        go_wp2
        go_roundw
        case rel => exact ⟨i + 1, by go_num, by omega, by rw [← HSUM.out], hb3⟩
        case measure => simp [intOf]; omega
    · obtain rfl : i = n := by omega
      have HF : Hid (StP w (M.encZs (M.accN false ps i)) (.returned (.string Tx)) wr) := Lib.hid ⟨by rw [HTx.out], Hbl.out.trans (HB.out.mono Hbl.out.size)⟩
      clear hlt hb hTx
      go_wp2
      go_ret
      exact HF.out
set_option maxRecDepth 100000 in
set_option maxHeartbeats 4000000 in
theorem rspell_true (l : List UInt8) (ps : List Int) (w : World) (hl : l.length ≤ 1000) (hp : M.pn l 0 = ps) :
    Calls Tryd.prog 40 #[.string (bytes l), .bool true] w (StP w (M.encZs (M.accN true ps ps.length))) := by
  have hok := M.pn_ok l l.length 0 (by omega)
  have hlen := M.pn_len l l.length 0 (by omega)
  rw [hp] at hok hlen
  have P := Lib.hid (points_any l ps w (by omega) hp)
  unfold IsP at P
  obtain ⟨n, hn⟩ : ∃ n, ps.length = n := ⟨_, rfl⟩
  rw [hn] at hlen ⊢
  have hnl : n ≤ 1000 := by omega
  have Hok := Lib.hid hok
  have Hn := Lib.hid hn
  obtain ⟨S, hS⟩ : ∃ S, bytes l = S := ⟨_, rfl⟩
  rw [hS] at P ⊢
  clear hok hlen hn hS hp
  go_enter Tryd.func40, Tryd.ntmps40
  go_wp2_with fail
  refine (P.out).mono ?_
  rintro e w1 ⟨v1, rfl, hv, hbl⟩
  obtain ⟨a, cap, rfl, h1, h2, h3⟩ := hv
  have H3 := Lib.hid h3
  have Hbl := Lib.hid hbl
  rw [Hn.out] at h1 ⊢
  unfold maxLen at h2
  clear h3 hbl
  go_wp2
  go_loopw [6, 7, 8] (fun tv iv _ wr => ∃ i : Nat, iv = .int .i64 i ∧ i ≤ n ∧ tv = .string (bytes (M.encZs (M.accN true ps i))) ∧ Below w1.heap.size w1 wr) (fun _ iv _ _ => n - (intOf iv).toNat)
  case atStart => exact ⟨0, rfl, by omega, rfl, Below.refl _ _⟩
  case round =>
    obtain ⟨i, rfl, hi, rfl, hb⟩ := hrel
    have HB := Lib.hid hb
    have hTs : (bytes (M.encZs (M.accN true ps i))).size ≤ 100000 := by
      have h4 := M.accN_len true ps i
      rw [bytes_size]
      exact Nat.le_trans (encZs_le4 _) (by omega)
    obtain ⟨Tx, hTx⟩ : ∃ S, bytes (M.encZs (M.accN true ps i)) = S := ⟨_, rfl⟩
    rw [hTx] at hTs ⊢
    have HTx := Lib.hid hTx
    by_cases hlt : i < n
    · obtain ⟨b1, off, rfl, hbk, hc⟩ := H3.out (by rw [Hn.out]; omega)
      have hil : i < ps.length := by rw [Hn.out]; exact hlt
      have c0 := hc i hil
      have hg : ps.getD i 0 = ps[i] := by simp [List.getD, hil]
      rw [← hg] at c0
      have cz := hc 0 (by rw [Hn.out]; omega)
      have hgz : ps.getD 0 0 = ps[0]'(by rw [Hn.out]; omega) := by simp [List.getD, show 0 < ps.length by rw [Hn.out]; omega]
      rw [← hgz] at cz
      have cr := (hb.cell (p := ⟨b1, off + i, none⟩) hbk).trans c0
      have crz := (hb.cell (p := ⟨b1, off + 0, none⟩) hbk).trans cz
      rw [Nat.add_zero] at crz
      have hin := List.getElem_mem hil
      have hcp := Hok.out _ hin
      rw [← hg] at hcp
      obtain ⟨r, hr⟩ : ∃ r, ps.getD i 0 = r := ⟨_, rfl⟩
      obtain ⟨z, hz⟩ : ∃ r, ps.getD 0 0 = r := ⟨_, rfl⟩
      have Hr := Lib.hid hr
      have Hz := Lib.hid hz
      rw [hr] at cr hcp
      rw [hz] at crz
      have hr1 := hcp.2
      have i1 : (0 : Int) ≤ i := by omega
      have i2 : (i : Int) < n := by omega
      have PT := Lib.hid (refput_any wr.heap.size (.slice none 0 0) [] (M.enc r) r wr (World.ownsRow_nil _ _ _ _) (by simp) (Nat.le_refl _) (by simp))
      obtain ⟨PS, hPS⟩ : ∃ S, bytes (M.enc r) = S := ⟨_, rfl⟩
      have hPz : PS.size ≤ 4 := by rw [← hPS, bytes_size]; exact M.enc_le r
      have hn1 : ((n : Int) == 1) = decide (n = 1) := by
        by_cases h : n = 1
        · subst h; rfl
        · rw [decide_eq_false h, beq_eq_false_iff_ne]; omega
      obtain ⟨k, hkr⟩ : ∃ k : Nat, (k : Int) = r := ⟨r.toNat, by omega⟩
      clear hc c0 cz hg hgz hin hcp hr hz hb hTx hil
      by_cases hA : r < 32
      · clear hPS hn1 PT hPz
        have NB := Lib.hid (rnum_any k wr (by omega) (by omega))
        rw [hkr] at NB
        have hes := enum_split r
        have hsz2 := enum_size r
        obtain ⟨NS, hNS⟩ : ∃ S, bytes (M.encZs (92 :: M.hexd r)) = S := ⟨_, rfl⟩
        rw [hNS] at NB hes hsz2
        have HSUM : Hid ((Tx ++ NS) ++ (ByteArray.mk #[32]) = bytes (M.encZs (M.accN true ps (i + 1)))) := Lib.hid (by
          rw [M.accN_succ, ctr_num true ps i (by rw [Hr.out]; exact .inl hA), Hr.out, M.encZs_append, ← cat2, HTx.out, ← hes, ← ByteArray.append_assoc]; rfl)
        clear hNS hes 
        go_wp2_with fail
        refine (NB.out).mono ?_
        rintro e w' ⟨rfl, rfl⟩
        go_wp2
        go_roundw
        case rel => exact ⟨i + 1, by go_num, by omega, by rw [← HSUM.out], HB.out⟩
        case measure => simp [intOf]; omega
      by_cases hB : r = 127
      · clear hPS hn1 PT hPz
        have NB := Lib.hid (rnum_any k wr (by omega) (by omega))
        rw [hkr] at NB
        have hes := enum_split r
        have hsz2 := enum_size r
        obtain ⟨NS, hNS⟩ : ∃ S, bytes (M.encZs (92 :: M.hexd r)) = S := ⟨_, rfl⟩
        rw [hNS] at NB hes hsz2
        have HSUM : Hid ((Tx ++ NS) ++ (ByteArray.mk #[32]) = bytes (M.encZs (M.accN true ps (i + 1)))) := Lib.hid (by
          rw [M.accN_succ, ctr_num true ps i (by rw [Hr.out]; exact .inr (.inl hB)), Hr.out, M.encZs_append, ← cat2, HTx.out, ← hes, ← ByteArray.append_assoc]; rfl)
        subst hB
        clear hNS hes
        go_wp2_with fail
        refine (NB.out).mono ?_
        rintro e w' ⟨rfl, rfl⟩
        go_wp2
        go_roundw
        case rel => exact ⟨i + 1, by go_num, by omega, by rw [← HSUM.out], HB.out⟩
        case measure => simp [intOf]; omega
      have tA : decide (r < 32) = false := by simpa using hA
      have tB : (r == 127) = false := by rw [beq_eq_false_iff_ne]; exact hB
      cases hd : M.nDg r with
      | true =>
        have DG := Lib.hid (rndg_any r true wr hd)
        have hd48 := (M.nDg_iff r).1 hd
        by_cases hi0 : i = 0
        · have j0 : ((i : Int) == 0) = true := by rw [beq_iff_eq]; omega
          clear hPS hn1 PT hPz
          have NB := Lib.hid (rnum_any k wr (by omega) (by omega))
          rw [hkr] at NB
          have hes := enum_split r
          have hsz2 := enum_size r
          obtain ⟨NS, hNS⟩ : ∃ S, bytes (M.encZs (92 :: M.hexd r)) = S := ⟨_, rfl⟩
          rw [hNS] at NB hes hsz2
          have HSUM : Hid ((Tx ++ NS) ++ (ByteArray.mk #[32]) = bytes (M.encZs (M.accN true ps (i + 1)))) := Lib.hid (by
            rw [M.accN_succ, ctr_num true ps i (by rw [Hr.out]; exact .inr (.inr ⟨rfl, hd, .inl hi0⟩)), Hr.out, M.encZs_append, ← cat2, HTx.out, ← hes, ← ByteArray.append_assoc]; rfl)
          clear hNS hes hd hi0 hA hB
          go_wp2_with fail
          refine (DG.out).mono ?_
          rintro e w' ⟨rfl, rfl⟩
          go_wp2_with fail
          refine (NB.out).mono ?_
          rintro e w' ⟨rfl, rfl⟩
          go_wp2
          go_roundw
          case rel => exact ⟨i + 1, by go_num, by omega, by rw [← HSUM.out], HB.out⟩
          case measure => simp [intOf]; omega
        have j0 : ((i : Int) == 0) = false := by rw [beq_eq_false_iff_ne]; omega
        by_cases hi1 : i = 1
        · have j1 : ((i : Int) == 1) = true := by rw [beq_iff_eq]; omega
          by_cases hz45 : z = 45
          · have jz : (z == 45) = true := by rw [beq_iff_eq]; exact hz45
            clear hPS hn1 PT hPz
            have NB := Lib.hid (rnum_any k wr (by omega) (by omega))
            rw [hkr] at NB
            have hes := enum_split r
            have hsz2 := enum_size r
            obtain ⟨NS, hNS⟩ : ∃ S, bytes (M.encZs (92 :: M.hexd r)) = S := ⟨_, rfl⟩
            rw [hNS] at NB hes hsz2
            have HSUM : Hid ((Tx ++ NS) ++ (ByteArray.mk #[32]) = bytes (M.encZs (M.accN true ps (i + 1)))) := Lib.hid (by
              rw [M.accN_succ, ctr_num true ps i (by rw [Hr.out]; exact .inr (.inr ⟨rfl, hd, .inr ⟨hi1, by rw [Hz.out]; exact hz45⟩⟩)), Hr.out, M.encZs_append, ← cat2, HTx.out, ← hes, ← ByteArray.append_assoc]; rfl)
            clear hNS hes hd hi0 hi1 hA hB hz45
            go_wp2_with fail
            refine (DG.out).mono ?_
            rintro e w' ⟨rfl, rfl⟩
            go_wp2_with fail
            refine (NB.out).mono ?_
            rintro e w' ⟨rfl, rfl⟩
            go_wp2
            go_roundw
            case rel => exact ⟨i + 1, by go_num, by omega, by rw [← HSUM.out], HB.out⟩
            case measure => simp [intOf]; omega
          · have jz : (z == 45) = false := by rw [beq_eq_false_iff_ne]; exact hz45
            have jr : (r == 45) = false := by rw [beq_eq_false_iff_ne]; omega
            have hin : M.nIn r = true := by rw [M.nIn_iff]; omega
            have XI := Lib.hid (rnin_any r true wr hin)
            have HSUM : Hid (Tx ++ PS = bytes (M.encZs (M.accN true ps (i + 1)))) := Lib.hid (by
              rw [M.accN_succ, ctr_in true ps i (by rw [Hr.out]; intro hh; rcases hh with hh | hh | hh; exact hA hh; exact hB hh; obtain ⟨_, _, hh⟩ := hh; rcases hh with hh | hh; exact hi0 hh; exact hz45 (by rw [← Hz.out]; exact hh.2)) (by rw [Hr.out]; intro hh; have := hh.2.1; omega) (by rw [Hr.out]; exact hin), Hr.out, M.encZs_append, ← cat2, HTx.out, M.encZs_cons, M.encZs_nil, List.append_nil, hPS])
            have HPS := Lib.hid hPS
            clear hin hA hB hkr hd hi0 hi1 hz45 hPS
            go_wp2_with fail
            refine (DG.out).mono ?_
            rintro e w' ⟨rfl, rfl⟩
            go_wp2_with fail
            refine (XI.out).mono ?_
            rintro e w' ⟨rfl, rfl⟩
            go_wp2_with fail
            refine (PT.out).mono ?_
            rintro e w2 ⟨v2, rfl, ho2, hb2⟩
            have hcv := conv_own ho2
            rw [HPS.out] at hcv
            have hb3 := HB.out.trans (hb2.mono HB.out.size)
            clear ho2 hb2
            go_wp2
            go_roundw
            case rel => exact ⟨i + 1, by go_num, by omega, by rw [← HSUM.out], hb3⟩
            case measure => simp [intOf]; omega
        · have j1 : ((i : Int) == 1) = false := by rw [beq_eq_false_iff_ne]; omega
          have jr : (r == 45) = false := by rw [beq_eq_false_iff_ne]; omega
          have hin : M.nIn r = true := by rw [M.nIn_iff]; omega
          have XI := Lib.hid (rnin_any r true wr hin)
          have HSUM : Hid (Tx ++ PS = bytes (M.encZs (M.accN true ps (i + 1)))) := Lib.hid (by
            rw [M.accN_succ, ctr_in true ps i (by rw [Hr.out]; intro hh; rcases hh with hh | hh | hh; exact hA hh; exact hB hh; obtain ⟨_, _, hh⟩ := hh; rcases hh with hh | hh; exact hi0 hh; exact hi1 hh.1) (by rw [Hr.out]; intro hh; have := hh.2.1; omega) (by rw [Hr.out]; exact hin), Hr.out, M.encZs_append, ← cat2, HTx.out, M.encZs_cons, M.encZs_nil, List.append_nil, hPS])
          have HPS := Lib.hid hPS
          clear hin hA hB hkr hd hi0 hi1 hPS
          go_wp2_with fail
          refine (DG.out).mono ?_
          rintro e w' ⟨rfl, rfl⟩
          go_wp2_with fail
          refine (XI.out).mono ?_
          rintro e w' ⟨rfl, rfl⟩
          go_wp2_with fail
          refine (PT.out).mono ?_
          rintro e w2 ⟨v2, rfl, ho2, hb2⟩
          have hcv := conv_own ho2
          rw [HPS.out] at hcv
          have hb3 := HB.out.trans (hb2.mono HB.out.size)
          clear ho2 hb2
          go_wp2
          go_roundw
          case rel => exact ⟨i + 1, by go_num, by omega, by rw [← HSUM.out], hb3⟩
          case measure => simp [intOf]; omega
      | false =>
        have DG := Lib.hid (rndg_any r false wr hd)
        by_cases h45 : r = 45
        · have jr : (r == 45) = true := by rw [beq_iff_eq]; exact h45
          by_cases hnn : n = 1
          · have HSUM : Hid (Tx ++ (ByteArray.mk #[92, 45]) = bytes (M.encZs (M.accN true ps (i + 1)))) := Lib.hid (by
              rw [M.accN_succ, ctr_dash ps i (by rw [Hr.out]; exact h45) (by rw [Hn.out]; exact hnn), M.encZs_append, ← cat2, HTx.out, show M.encZs [92, 45] = [92, 45] by decide +kernel]; rfl)
            rw [decide_eq_true hnn] at hn1
            clear hPS PT hPz hd h45 hA hB hkr hnn
            go_wp2_with fail
            refine (DG.out).mono ?_
            rintro e w' ⟨rfl, rfl⟩
            go_wp2
            go_roundw
            case rel => exact ⟨i + 1, by go_num, by omega, by rw [← HSUM.out], HB.out⟩
            case measure => simp [intOf]; omega
          · rw [decide_eq_false hnn] at hn1
            have hin : M.nIn r = true := by rw [M.nIn_iff]; omega
            have XI := Lib.hid (rnin_any r true wr hin)
            have HSUM : Hid (Tx ++ PS = bytes (M.encZs (M.accN true ps (i + 1)))) := Lib.hid (by
              rw [M.accN_succ, ctr_in true ps i (by rw [Hr.out]; intro hh; rcases hh with hh | hh | hh; exact hA hh; exact hB hh; rw [hd] at hh; exact absurd hh.2.1 (by decide)) (by rw [Hr.out]; intro hh; exact hnn (by rw [← Hn.out]; exact hh.2.2)) (by rw [Hr.out]; exact hin), Hr.out, M.encZs_append, ← cat2, HTx.out, M.encZs_cons, M.encZs_nil, List.append_nil, hPS])
            have HPS := Lib.hid hPS
            clear hin hA hB hkr hd h45 hnn hPS
            go_wp2_with fail
            refine (DG.out).mono ?_
            rintro e w' ⟨rfl, rfl⟩
            go_wp2_with fail
            refine (XI.out).mono ?_
            rintro e w' ⟨rfl, rfl⟩
            go_wp2_with fail
            refine (PT.out).mono ?_
            rintro e w2 ⟨v2, rfl, ho2, hb2⟩
            have hcv := conv_own ho2
            rw [HPS.out] at hcv
            have hb3 := HB.out.trans (hb2.mono HB.out.size)
            clear ho2 hb2
            go_wp2
            go_roundw
            case rel => exact ⟨i + 1, by go_num, by omega, by rw [← HSUM.out], hb3⟩
            case measure => simp [intOf]; omega
        · have jr : (r == 45) = false := by rw [beq_eq_false_iff_ne]; exact h45
          cases hin : M.nIn r with
          | true =>
            have XI := Lib.hid (rnin_any r true wr hin)
            have HSUM : Hid (Tx ++ PS = bytes (M.encZs (M.accN true ps (i + 1)))) := Lib.hid (by
              rw [M.accN_succ, ctr_in true ps i (by rw [Hr.out]; intro hh; rcases hh with hh | hh | hh; exact hA hh; exact hB hh; rw [hd] at hh; exact absurd hh.2.1 (by decide)) (by rw [Hr.out]; intro hh; exact h45 hh.2.1) (by rw [Hr.out]; exact hin), Hr.out, M.encZs_append, ← cat2, HTx.out, M.encZs_cons, M.encZs_nil, List.append_nil, hPS])
            have HPS := Lib.hid hPS
            clear hin hA hB hkr hd h45 hPS
            go_wp2_with fail
            refine (DG.out).mono ?_
            rintro e w' ⟨rfl, rfl⟩
            go_wp2_with fail
            refine (XI.out).mono ?_
            rintro e w' ⟨rfl, rfl⟩
            go_wp2_with fail
            refine (PT.out).mono ?_
            rintro e w2 ⟨v2, rfl, ho2, hb2⟩
            have hcv := conv_own ho2
            rw [HPS.out] at hcv
            have hb3 := HB.out.trans (hb2.mono HB.out.size)
            clear ho2 hb2
            go_wp2
            go_roundw
            case rel => exact ⟨i + 1, by go_num, by omega, by rw [← HSUM.out], hb3⟩
            case measure => simp [intOf]; omega
          | false =>
            have XI := Lib.hid (rnin_any r false wr hin)
            have HSUM : Hid ((Tx ++ (ByteArray.mk #[92])) ++ PS = bytes (M.encZs (M.accN true ps (i + 1)))) := Lib.hid (by
              rw [M.accN_succ, ctr_out true ps i (by rw [Hr.out]; intro hh; rcases hh with hh | hh | hh; exact hA hh; exact hB hh; rw [hd] at hh; exact absurd hh.2.1 (by decide)) (by rw [Hr.out]; intro hh; exact h45 hh.2.1) (by rw [Hr.out]; exact hin), Hr.out, M.encZs_append, ← cat2, HTx.out, M.encZs_cons, M.encZs_cons, M.encZs_nil, List.append_nil, M.enc_ascii 92 (by decide) (by decide), ← cat2, hPS, ← ByteArray.append_assoc]; rfl)
            have HPS := Lib.hid hPS
            clear hin hA hB hkr hd h45 hPS
            go_wp2_with fail
            refine (DG.out).mono ?_
            rintro e w' ⟨rfl, rfl⟩
            go_wp2_with fail
            refine (XI.out).mono ?_
            rintro e w' ⟨rfl, rfl⟩
            go_wp2_with fail
            refine (PT.out).mono ?_
            rintro e w2 ⟨v2, rfl, ho2, hb2⟩
            have hcv := conv_own ho2
            rw [HPS.out] at hcv
            have hb3 := HB.out.trans (hb2.mono HB.out.size)
            clear ho2 hb2
            go_wp2
            go_roundw
            case rel => exact ⟨i + 1, by go_num, by omega, by rw [← HSUM.out], hb3⟩
            case measure => simp [intOf]; omega
    · obtain rfl : i = n := by omega
      have HF : Hid (StP w (M.encZs (M.accN true ps i)) (.returned (.string Tx)) wr) := Lib.hid ⟨by rw [HTx.out], Hbl.out.trans (HB.out.mono Hbl.out.size)⟩
      clear hlt hb hTx
      go_wp2
      go_ret
      exact HF.out
set_option maxRecDepth 100000 in
set_option maxHeartbeats 1000000 in
theorem rspellrest_any (l t : List UInt8) (w : World) (hl : l.length ≤ 1000) (ht : M.encZs (M.spR (M.pn l 0)) = t) :
    Calls Tryd.prog 21 #[.string (bytes l)] w (StP w t) := by
  have X := rspell_false l _ w hl rfl
  rw [M.accN_false, ht] at X
  have HX := Lib.hid X
  obtain ⟨S, hS⟩ : ∃ S, bytes l = S := ⟨_, rfl⟩
  rw [hS] at HX ⊢
  unfold StP at HX
  clear X ht hS hl
  go_enter Tryd.func21, Tryd.ntmps21
  go_wp2_with fail
  refine (HX.out).mono ?_
  rintro e w2 ⟨rfl, hb2⟩
  have HF : Hid (StP w t (.returned (.string (bytes t))) w2) := Lib.hid ⟨rfl, hb2⟩
  clear hb2
  go_wp2
  go_ret
  exact HF.out
set_option maxRecDepth 100000 in
set_option maxHeartbeats 1000000 in
theorem rspellf_any (l t : List UInt8) (w : World) (hl : l.length ≤ 1000) (ht : M.encZs (M.spF (M.pn l 0)) = t) :
    Calls Tryd.prog 19 #[.string (bytes l)] w (StP w t) := by
  have X := rspell_true l _ w hl rfl
  rw [M.accN_true _ (M.pn_ok l l.length 0 (by omega)), ht] at X
  have HX := Lib.hid X
  obtain ⟨S, hS⟩ : ∃ S, bytes l = S := ⟨_, rfl⟩
  rw [hS] at HX ⊢
  unfold StP at HX
  clear X ht hS hl
  go_enter Tryd.func19, Tryd.ntmps19
  go_wp2_with fail
  refine (HX.out).mono ?_
  rintro e w2 ⟨rfl, hb2⟩
  have HF : Hid (StP w t (.returned (.string (bytes t))) w2) := Lib.hid ⟨rfl, hb2⟩
  clear hb2
  go_wp2
  go_ret
  exact HF.out
end Go.Proofs.YtkaojigdogeliaaDoor
