/- The reference's Segments and SameSegments, and the law's Few: for any pieces. -/
import Derived.Test.YtpedipalpebolaaDoorPSeg
import Derived.Deep.QuietTactic
import Derived.BigQuiet
namespace Go.Proofs.YtpedipalpebolaaDoor
open Go.RowKit
set_option linter.unusedVariables false
set_option linter.unusedSimpArgs false

set_option maxRecDepth 100000 in
set_option maxHeartbeats 4000000 in
theorem prefsegs_any (v vs : Value) (L : M.Pcs) (src t : List UInt8) (w : World) (hv : Ps w v L) (hvs : Bs w vs src) (hl : t.length ≤ 1000000) (hL : L.length ≤ 1000000) (hsrc : src.length ≤ 1000000) (ht : M.textP L = t) :
    Calls Tryd.prog 10 #[v, vs] w (SgP w (M.segsP t src 0 L)) := by
  have hpa := psAt_of hv
  obtain ⟨a, cap, rfl, h1, h2, -⟩ := id hpa
  obtain ⟨n, hn⟩ : ∃ n, L.length = n := ⟨_, rfl⟩
  obtain ⟨m, hm⟩ : ∃ n, src.length = n := ⟨_, rfl⟩
  have hvs2 := hvs
  obtain ⟨a9, caps, rfl, k1, k2, -⟩ := hvs2
  have HP := Lib.hid hpa
  have HVS := Lib.hid hvs
  have HN := Lib.hid hn
  have HM := Lib.hid hm
  have HTX := Lib.hid ht
  have htl := bytes_size t
  have htd := bytes_list t
  obtain ⟨S, hS⟩ : ∃ S, bytes t = S := ⟨_, rfl⟩
  rw [hS] at htl htd
  have TX := Lib.hid (preftext_any (.slice a L.length cap) L t w hv (by omega) (by omega) ht)
  rw [hS] at TX
  rw [hn] at h1 hL TX ⊢
  rw [hm] at k1 hsrc ⊢
  have hconv := fun W => bw_conv W S
  have HTL := Lib.hid htl
  have HTD := Lib.hid htd
  have hS9 : S.size ≤ 1000000 := by omega
  clear hpa hv hvs hn hm ht hS htl htd
  have hbw1 := bw_below w S
  have hbs1 := bw_bs w S (by omega)
  rw [HTD.out] at hbs1
  go_enter Tryd.func10, Tryd.ntmps10
  go_wp2_with fail
  refine TX.out.mono ?_
  rintro e w1 ⟨rfl, rfl⟩
  go_wp2
  obtain ⟨W1, hW1⟩ : ∃ W, Lib.bytesWorld w 5 S = W := ⟨_, rfl⟩
  rw [hW1] at hbw1 hbs1 ⊢
  have hs1 := hbw1.size
  have HB1 := Lib.hid hbw1
  have HBS := Lib.hid hbs1
  have hPs1 := psAt_keep HP.out hbw1 (Nat.le_refl _)
  have HP1 := Lib.hid hPs1
  have hVs1 := HVS.out.keep hbw1
  have HVS1 := Lib.hid hVs1
  clear hbw1 hbs1 hW1 hconv hPs1 hVs1
  go_loopw [5, 7, 8] (fun ov tv iv wr => ∃ i : Nat, iv = .int .i64 (i : Int) ∧ i ≤ n ∧ tv = .int .i64 ((M.textP (L.take i)).length : Int) ∧ OwnS W1.heap.size wr ov (M.segsP t src 0 (L.take i)) ∧ Below W1.heap.size W1 wr) (fun _ _ iv _ => n - (intOf iv).toNat)
  case atStart => exact ⟨0, rfl, by omega, rfl, ownV_nil _ _ _ _, Below.refl _ _⟩
  case round =>
    obtain ⟨i, rfl, hi, rfl, how, hb⟩ := hrel
    have hbz := hb.size
    by_cases hlt : i < n
    · have hil : i < L.length := by rw [HN.out]; exact hlt
      obtain ⟨b, off, rfl, hbk, c0, c1⟩ := psAt_get (by have h := HP1.out; rw [HN.out] at h; exact psAt_keep h hb hs1) i hil
      have hz0 := bytes_size (L[i]).1
      obtain ⟨S0, hS0⟩ : ∃ S, bytes (L[i]).1 = S := ⟨_, rfl⟩
      obtain ⟨f, hf⟩ : ∃ f, (L[i]).2 = f := ⟨_, rfl⟩
      rw [hS0] at c0 hz0
      rw [hf] at c1
      have hle := M.textP_take_le L i
      have hle2 := M.textP_take_le L (i + 1)
      have hsn2 := congrArg List.length (M.textP_take_succ L i hil)
      rw [List.length_append] at hsn2
      rw [HTX.out] at hle hle2
      have hsn := M.segsP_take_succ t src L i hil
      obtain ⟨q, hq⟩ : ∃ q, (M.textP (L.take i)).length = q := ⟨_, rfl⟩
      obtain ⟨q2, hq2⟩ : ∃ q, (M.textP (L.take (i + 1))).length = q := ⟨_, rfl⟩
      rw [hq] at hle hsn hsn2 ⊢
      rw [hq2] at hle2 hsn2
      have hq3 : q + S0.size = q2 := by omega
      have hq4 : (q : Int) + S0.size ≤ 1000000 := by omega
      have i1 : (i : Int) < n := by omega
      have HOW := Lib.hid how
      have HF := Lib.hid hf
      have HQ2 := Lib.hid hq2
      have HQ3 := Lib.hid hq3
      have nx := pstr_nil S0 _ hS0
      have ny := pstr_ne S0 _ hS0
      have hpl := segs_len HN.out i (by omega : i ≤ n) t src
      obtain ⟨pls, hpls⟩ : ∃ x, M.segsP t src 0 (L.take i) = x := ⟨_, rfl⟩
      have hway : (S0.toList = [] ∧ S0.toList.isEmpty = true ∧ (!S0.toList.isEmpty) = false ∧ M.segsP t src 0 (L.take (i + 1)) = M.segsP t src 0 (L.take i)) ∨
          (S0.toList.isEmpty = false ∧ (¬ S0.toList = []) ∧ (!S0.toList.isEmpty) = true ∧ f < 0 ∧ M.segsP t src 0 (L.take (i + 1)) = M.segsP t src 0 (L.take i)) ∨
          (S0.toList.isEmpty = false ∧ (¬ S0.toList = []) ∧ (!S0.toList.isEmpty) = true ∧ 0 ≤ f ∧ (m : Int) < f ∧ M.segsP t src 0 (L.take (i + 1)) = M.segsP t src 0 (L.take i)) ∨
          (S0.toList.isEmpty = false ∧ (¬ S0.toList = []) ∧ (!S0.toList.isEmpty) = true ∧ 0 ≤ f ∧ f ≤ m ∧ M.segsP t src 0 (L.take i) ++ [M.segOf t src q L[i]] = M.segsP t src 0 (L.take (i + 1))) := by
        by_cases h0 : (L[i]).1 = []
        · obtain ⟨x1, x2, x3⟩ := nx h0
          refine .inl ⟨x1, x2, x3, ?_⟩
          rw [hsn, if_neg (by simp [M.okP, h0])]; simp
        · obtain ⟨x1, x2, x3⟩ := ny h0
          by_cases h1 : f < 0
          · refine .inr (.inl ⟨x1, x3, x2, h1, ?_⟩)
            rw [hsn, if_neg (by simp [M.okP, hf]; omega)]; simp
          · by_cases h2 : (m : Int) < f
            · refine .inr (.inr (.inl ⟨x1, x3, x2, by omega, h2, ?_⟩))
              rw [hsn, if_neg (by simp [M.okP, hf, HM.out]; omega)]; simp
            · refine .inr (.inr (.inr ⟨x1, x3, x2, by omega, by omega, ?_⟩))
              rw [hsn, if_pos (by simp [M.okP, hf, HM.out, h0]; omega)]
      rw [hpls] at HOW hway hpl
      have hp9 : pls.length ≤ 4294967296 := by omega
      clear hS0 hf hsn hq hq2 hq3 hsn2 how nx ny hpls hpl hz0
      rcases hway with ⟨x1, x2, x6, hE⟩ | ⟨x1, x2, x6, x3, hE⟩ | ⟨x1, x2, x6, x3, x4, hE⟩ | ⟨x1, x2, x6, x3, x4, hE⟩
      · have HE := Lib.hid hE
        clear hE
        go_wp2
        go_roundw
        case rel => exact ⟨i + 1, by go_num, by omega, by rw [HQ2.out, ← HQ3.out]; go_num, by rw [HE.out]; exact HOW.out, hb⟩
        case measure => simp [intOf]; omega
      · have HE := Lib.hid hE
        have x5 : ¬ 0 ≤ f := by omega
        clear hE
        go_wp2
        go_roundw
        case rel => exact ⟨i + 1, by go_num, by omega, by rw [HQ2.out, ← HQ3.out]; go_num, by rw [HE.out]; exact HOW.out, hb⟩
        case measure => simp [intOf]; omega
      · have HE := Lib.hid hE
        have x5 : ¬ f ≤ (m : Int) := by omega
        clear hE
        go_wp2
        go_roundw
        case rel => exact ⟨i + 1, by go_num, by omega, by rw [HQ2.out, ← HQ3.out]; go_num, by rw [HE.out]; exact HOW.out, hb⟩
        case measure => simp [intOf]; omega
      · obtain ⟨F, hF⟩ : ∃ F : Nat, f = (F : Int) := ⟨f.toNat, by omega⟩
        have hseg : M.segOf t src q L[i] = ((M.atP t q).1, (M.atP t q).2, (M.atP src F).1, (M.atP src F).2) := by
          unfold M.segOf; rw [HF.out, hF]; rfl
        subst hF
        rw [hseg] at hE
        have A1 := Lib.hid (fun W (hW : Bs W (.slice (some ⟨w.heap.size, 0, none⟩) S.size (grownCap w S.size 0 5)) t) => refat_any _ t q (q : Int) W hW (by omega) (by omega) (.inl rfl) _ rfl)
        have A2 := Lib.hid (fun W (hW : Bs W (.slice a9 src.length caps) src) => refat_any _ src F (F : Int) W hW (by rw [HM.out]; omega) (by rw [HM.out]; omega) (.inl rfl) _ rfl)
        rw [HM.out] at A2
        obtain ⟨p1, hp1⟩ : ∃ p, (M.atP t q).1 = p := ⟨_, rfl⟩
        obtain ⟨p2, hp2⟩ : ∃ p, (M.atP t q).2 = p := ⟨_, rfl⟩
        obtain ⟨p3, hp3⟩ : ∃ p, (M.atP src F).1 = p := ⟨_, rfl⟩
        obtain ⟨p4, hp4⟩ : ∃ p, (M.atP src F).2 = p := ⟨_, rfl⟩
        simp only [hp1, hp2] at A1
        simp only [hp3, hp4] at A2
        simp only [hp1, hp2, hp3, hp4] at hE
        have HE := Lib.hid hE
        have z1 := HBS.out.keep (w' := wr) (by have h := hb; exact h)
        have z2 : Bs wr (.slice a9 m caps) src := by have h := HVS1.out.keep (w' := wr) hb; rwa [HM.out] at h
        have Z1 := Lib.hid z1
        have Z2 := Lib.hid z2
        clear hE hseg hp1 hp2 hp3 hp4 HF z1 z2
        go_wp2_with fail
        refine (A1.out _ Z1.out).mono ?_
        rintro e w5 ⟨rfl, rfl⟩
        go_wp2_with fail
        refine (A2.out _ Z2.out).mono ?_
        rintro e w5 ⟨rfl, rfl⟩
        go_wp2_with (at_builtin; refine wpl_seg rfl _ _ rfl W1.heap.size _ (.slice (some ⟨wr.heap.size, 0, none⟩) 1 1) pls (M.segsP t src 0 (L.take (i + 1))) (p1, p2, p3, p4) rfl (OwnS.keep HOW.out ((Below.refl _ _).alloc (Nat.le_refl _) _)) rfl (one_seg wr p1 p2 p3 p4) (nnv_some _ _ _) hp9 (by simp; omega) HE.out ?_)
        intro v6 w6 ho6 hb6
        have hb7 := (hb.alloc hbz (.cells #[.int .i64 (p1 : Int), .int .i64 (p2 : Int), .int .i64 (p3 : Int), .int .i64 (p4 : Int)] 35)).trans hb6
        have hbk6 := hb7.cell (p := ⟨b, off + i * 2, none⟩) (by show b < _; omega)
        have hc6 : w6.cell? ⟨b, off + i * 2, none⟩ = some (.string S0) := by
          rw [hbk6, ← c0]; exact (hb.cell (p := ⟨b, off + i * 2, none⟩) (by show b < _; omega)).symm
        clear hb6 hbk6 c0 c1
        go_wp2
        go_roundw
        case rel => exact ⟨i + 1, by go_num, by omega, by rw [HQ2.out, ← HQ3.out]; go_num, ho6, hb7⟩
        case measure => simp [intOf]; omega
    · obtain rfl : i = n := by omega
      have hfull : L.take i = L := List.take_of_length_le (by rw [HN.out]; exact Nat.le_refl _)
      rw [hfull] at how ⊢
      have HOW := Lib.hid how
      have hbf := HB1.out.trans (hb.mono hs1)
      clear how hfull hlt hb
      go_wp2
      go_ret
      refine ⟨_, rfl, ?_, hbf⟩
      have h := HOW.out
      exact ⟨ownsRow_low h.1 hs1, h.2⟩
end Go.Proofs.YtpedipalpebolaaDoor
