/- The walk of CnameBack. -/
import Derived.Test.YtkaojigdogeliaaDoorEEsc0
import Derived.Outline
namespace Go.Proofs.YtkaojigdogeliaaDoor
open Go.RowKit
set_option linter.unusedVariables false
set_option linter.unusedSimpArgs false

theorem eand1023 (z : Int) : ∃ a : Nat, bits .and .i64 z 1023 = (a : Int) ∧ a < 1024 := by
  refine ⟨(BitVec.ofInt 64 z &&& BitVec.ofInt 64 1023).toNat, ?_, ?_⟩
  · have h : (BitVec.ofInt 64 z &&& BitVec.ofInt 64 1023).toNat ≤ 1023 := by
      rw [BitVec.toNat_and]
      exact Nat.le_trans Nat.and_le_right (by decide)
    show IntKind.i64.wrap ((BitVec.ofInt 64 z &&& BitVec.ofInt 64 1023).toNat : Int) = _
    rw [IntKind.wrap_i64]
    omega
  · rw [BitVec.toNat_and]
    exact Nat.lt_of_le_of_lt Nat.and_le_right (by decide)
def eblkE : Obj := Obj.cells #[.string ⟨#[]⟩, .string ⟨#[40]⟩, .string ⟨#[41]⟩, .string ⟨#[123]⟩, .string ⟨#[59]⟩, .string ⟨#[58]⟩, .string ⟨#[44]⟩, .string ⟨#[34]⟩, .string ⟨#[62]⟩, .string ⟨#[32]⟩] 9
def endL (k : Nat) : List UInt8 := [[], [40], [41], [123], [59], [58], [44], [34], [62], [32]].getD k []
theorem endL_fin : ∀ k : Fin 10, M.encZs (M.endB k.val) = endL k.val := by decide +kernel
theorem ecellE (w : World) (k : Nat) (hk : k < 10) : (w.alloc eblkE).cell? ⟨w.heap.size, k, none⟩ = some (.string (bytes (M.encZs (M.endB k)))) := by
  rw [endL_fin ⟨k, hk⟩]
  unfold eblkE
  rw [World.cell?_alloc_at _ _ _ _ (by simp)]
  have : k = 0 ∨ k = 1 ∨ k = 2 ∨ k = 3 ∨ k = 4 ∨ k = 5 ∨ k = 6 ∨ k = 7 ∨ k = 8 ∨ k = 9 := by omega
  rcases this with rfl | rfl | rfl | rfl | rfl | rfl | rfl | rfl | rfl | rfl <;> rfl
/-- Runes of a text that is written by code points: they are these. -/
theorem runes_of (c : List Int) (t : List UInt8) (N : Nat) (hc : M.encZs c = t) (ho : ∀ r ∈ c, M.Okr r) (hl : t.length ≤ 1048576) (hN : c.length = N) (v : Value) (W : World) (hv : Bs W v t) :
    Calls Tryd.prog 25 #[v] W fun e w' => ∃ a cap, e = .returned (.slice a N cap) ∧ Lc w' (.slice a N cap) c ∧ Below W.heap.size W w' := by
  subst hN
  refine (refruns_any v t (M.rn t 0) W hv hl rfl).mono ?_
  rintro e w' ⟨v2, rfl, ho2, hb⟩
  have l2 := ho2.vs
  change Rs w' v2 (M.rn t 0) at l2
  have l3 := l2.lc
  rw [rn_lit c t hc ho] at l3
  have l4 := l3
  obtain ⟨a, cap, rfl, _, _, _⟩ := l4
  exact ⟨a, cap, rfl, l3, hb⟩
set_option maxRecDepth 100000 in
set_option maxHeartbeats 4000000 in
theorem eback_main (l : List UInt8) (x1 : Int) (w : World) (hT : TabsE w) (hl0 : 1 ≤ l.length) (hl : l.length ≤ 200) (hc : M.cleanL (M.pn l 0) = true) :
    Calls Tryd.prog 4 #[.string (bytes l), .int .i64 x1] w fun e w' => e = .returned (.bool true) ∧ Below w.heap.size w w' := by
  have al := Lib.hid (alive_any w hT)
  have CL := Lib.hid (fun W => clean_any l true W (by omega) hc)
  have SP := Lib.hid (fun W hW => spell_any l _ W hW (by omega) rfl)
  have SR := Lib.hid (fun W hW => sprest_any l _ W hW (by omega) rfl)
  have he := M.clean_enc l l.length 0 (by omega) hc
  rw [List.drop_zero] at he
  have hok := M.pn_ok l l.length 0 (by omega)
  have hpl := M.pn_len l l.length 0 (by omega)
  have hne : M.pn l 0 ≠ [] := by
    intro h
    rw [h] at he
    rw [← he] at hl0
    exact absurd hl0 (by decide)
  obtain ⟨ps, hps⟩ : ∃ ps, M.pn l 0 = ps := ⟨_, rfl⟩
  rw [hps] at SP SR he hok hpl hne
  obtain ⟨aa, ha, ha2⟩ := eand1023 x1
  obtain ⟨k, hk⟩ : ∃ k : Nat, (aa : Int) % 10 = (k : Int) := ⟨aa % 10, by omega⟩
  have hk10 : k < 10 := by omega
  have hf := M.spF_okr ps hok
  have hr := M.spR_okr ps hok
  have hE := M.endB_fin ⟨k, hk10⟩
  have tkF := M.takeN_spF ps hok (M.endB k)
  have tkR := M.takeN_spR ps hok []
  have bg := M.begN_spF ps hok hne (M.endB k)
  rw [M.takeN_end k hk10] at tkF
  rw [M.takeN_nil, List.append_nil] at tkR
  simp only [List.append_nil, Nat.add_zero] at tkF tkR
  have lR := M.spR_len ps
  have lF : (M.spF ps).length ≤ 4 * ps.length + 4 := by
    have h4 : ∀ r, (M.numN r).length ≤ 4 := fun r => by unfold M.numN M.hexd; split <;> simp
    unfold M.spF
    split
    · simp
    · rename_i a t
      split
      · have := M.spR_len t; have := h4 a; simp; omega
      · split
        · split
          · simp
          · rename_i b u
            split
            · have := M.spR_len u; have := h4 b; simp; omega
            · have := M.spR_len (b :: u); simp at this ⊢; omega
        · have := M.spR_len (a :: t); simp at this ⊢; omega
  have lE : (M.endB k).length ≤ 1 := by
    have : ∀ k : Fin 10, (M.endB k.val).length ≤ 1 := by decide +kernel
    exact this ⟨k, hk10⟩
  obtain ⟨F, hF⟩ : ∃ F, M.spF ps = F := ⟨_, rfl⟩
  obtain ⟨R, hR⟩ : ∃ F, M.spR ps = F := ⟨_, rfl⟩
  rw [hF] at SP hf tkF bg lF
  rw [hR] at SR hr tkR lR
  obtain ⟨NF, hNF⟩ : ∃ n, F.length = n := ⟨_, rfl⟩
  obtain ⟨NR, hNR⟩ : ∃ n, R.length = n := ⟨_, rfl⟩
  obtain ⟨NE, hNE⟩ : ∃ n, (F ++ M.endB k).length = n := ⟨_, rfl⟩
  have hNE2 : NE ≤ NF + 1 := by rw [← hNE, List.length_append]; omega
  have hfe : ∀ r ∈ F ++ M.endB k, M.Okr r := by
    intro r hr'
    rcases List.mem_append.1 hr' with h | h
    · exact hf r h
    · exact hE r h
  obtain ⟨tF, htF⟩ : ∃ t, M.encZs F = t := ⟨_, rfl⟩
  obtain ⟨tR, htR⟩ : ∃ t, M.encZs R = t := ⟨_, rfl⟩
  obtain ⟨tE, htE⟩ : ∃ t, M.encZs (F ++ M.endB k) = t := ⟨_, rfl⟩
  have bF : tF.length ≤ 100000 := by rw [← htF]; exact Nat.le_trans (M.encZs_len F).2 (by omega)
  have bR : tR.length ≤ 100000 := by rw [← htR]; exact Nat.le_trans (M.encZs_len R).2 (by omega)
  have bE : tE.length ≤ 100000 := by rw [← htE]; exact Nat.le_trans (M.encZs_len _).2 (by omega)
  have hjoin : bytes tF ++ bytes (M.encZs (M.endB k)) = bytes tE := by rw [cat2, ← htF, ← htE, M.encZs_append]
  rw [htF] at SP
  rw [htR] at SR
  rw [hNF] at tkF lF
  rw [hNR] at tkR lR
  have RF := Lib.hid (runes_of F tF NF htF hf (by omega) hNF)
  have RR := Lib.hid (runes_of R tR NR htR hr (by omega) hNR)
  have RE := Lib.hid (runes_of (F ++ M.endB k) tE NE htE hfe (by omega) hNE)
  have KE := Lib.hid (fun v W (hv : Lc W v (F ++ M.endB k)) => ntake_core v _ 0 ps NF W hv (by rw [hNE]; omega) (by rw [hNE, show clampN 0 NE = 0 from by unfold clampN; omega, List.drop_zero, tkF]) (by rw [hNE, show clampN 0 NE = 0 from by unfold clampN; omega, List.drop_zero, tkF, Nat.zero_add]))
  have KR := Lib.hid (fun v W (hv : Lc W v R) => ntake_core v _ 0 ps NR W hv (by rw [hNR]; omega) (by rw [hNR, show clampN 0 NR = 0 from by unfold clampN; omega, List.drop_zero, tkR]) (by rw [hNR, show clampN 0 NR = 0 from by unfold clampN; omega, List.drop_zero, tkR, Nat.zero_add]))
  have BE := Lib.hid (fun v W (hv : Lc W v (F ++ M.endB k)) => nbegins_any v _ 0 true W hv (by rw [hNE]; omega) (by simpa using bg))
  unfold TkP at KE KR
  unfold StP at SP SR
  rw [he] at KE KR
  have hszl := bytes_size l
  have sF := bytes_size tF
  have sE : (bytes (M.encZs (M.endB k))).size ≤ 4 := by rw [bytes_size]; exact Nat.le_trans (M.encZs_len _).2 (by omega)
  have hcvF := fun W => bw_conv W (bytes tF)
  have hcvR := fun W => bw_conv W (bytes tR)
  have hcvE := fun W => bw_conv W (bytes tE)
  have BsF := Lib.hid (fun W => bw_bs W (bytes tF) (by rw [bytes_size]; omega))
  have BsR := Lib.hid (fun W => bw_bs W (bytes tR) (by rw [bytes_size]; omega))
  have BsE := Lib.hid (fun W => bw_bs W (bytes tE) (by rw [bytes_size]; omega))
  rw [bytes_toList] at BsF BsR BsE
  have BbF := Lib.hid (fun W => bw_below W (bytes tF))
  have BbR := Lib.hid (fun W => bw_below W (bytes tR))
  have BbE := Lib.hid (fun W => bw_below W (bytes tE))
  have cE := fun w1 => ecellE w1 k hk10
  unfold eblkE at cE
  obtain ⟨S, hS⟩ : ∃ S, bytes l = S := ⟨_, rfl⟩
  obtain ⟨SF, hSF⟩ : ∃ S, bytes tF = S := ⟨_, rfl⟩
  obtain ⟨SRr, hSR⟩ : ∃ S, bytes tR = S := ⟨_, rfl⟩
  obtain ⟨SE, hSE⟩ : ∃ S, bytes tE = S := ⟨_, rfl⟩
  obtain ⟨SN, hSN⟩ : ∃ S, bytes (M.encZs (M.endB k)) = S := ⟨_, rfl⟩
  simp only [hS] at CL SP SR KE KR hszl ⊢
  simp only [hSF] at SP hcvF BsF BbF hjoin sF
  simp only [hSR] at SR hcvR BsR BbR
  simp only [hSE] at hcvE BsE BbE hjoin
  simp only [hSN] at cE hjoin sE
  have HT := Lib.hid hT
  have CE := Lib.hid cE
  have z1 : (1 : Int) ≤ S.size := by omega
  have z2 : (S.size : Int) ≤ 200 := by omega
  have d1 : decide ((S.size : Int) < 1) = false := by simp; omega
  have d2 : decide ((200 : Int) < S.size) = false := by simp; omega
  have eS : (S.toList == S.toList) = true := by simp
  have a1 : ∀ W, (Op.stringOp .add SF SN).run Tryd.prog W = .ok (.string SE) W := fun W => by rw [← hjoin]; exact run_string_add W _ _ (by omega) (by omega)
  have HK := Lib.hid hk
  have HA := Lib.hid ha
  have k0 : (0 : Int) ≤ k := by omega
  have k10 : (k : Int) < 10 := by omega
  have A1 := Lib.hid a1
  have HcF := Lib.hid hcvF
  have HcR := Lib.hid hcvR
  have HcE := Lib.hid hcvE
  clear hT hl0 hl hc he hok hpl hne hps ha hk hf hr hE tkF tkR bg lR lF lE hF hR hNF hNR hNE hfe htF htR htE bF bR bE hjoin cE hS hSF hSR hSE hSN a1 hszl sF sE hcvF hcvR hcvE hNE2
  go_enter Tryd.func4, Tryd.ntmps4
  go_wp2_with fail
  refine al.out.mono ?_
  rintro e w1 ⟨rfl, hb1⟩
  have HT1 := Lib.hid (HT.out.keep hb1)
  go_wp2_with fail
  refine (CL.out _).mono ?_
  rintro e w2 ⟨rfl, hb2⟩
  have HT2 := Lib.hid (HT1.out.keep hb2)
  have D2 := Lib.hid (hb1.trans (hb2.mono hb1.size))
  clear hb1 hb2
  go_wp2_with fail
  refine (SP.out _ HT2.out).mono ?_
  rintro e w3 ⟨rfl, hb3⟩
  have d3 := D2.out.trans (hb3.mono D2.out.size)
  have D3 := Lib.hid d3
  have cE := CE.out w3
  have ha := HA.out
  have hk := HK.out
  have aa0 : (0 : Int) ≤ aa := by omega
  clear hb3 d3
  go_upto_region 6 with (fail)
  obtain ⟨W4, hW4⟩ : ∃ W, w3.alloc (Obj.cells #[.string ⟨#[]⟩, .string ⟨#[40]⟩, .string ⟨#[41]⟩, .string ⟨#[123]⟩, .string ⟨#[59]⟩, .string ⟨#[58]⟩, .string ⟨#[44]⟩, .string ⟨#[34]⟩, .string ⟨#[62]⟩, .string ⟨#[32]⟩] 9) = W := ⟨_, rfl⟩
  rw [hW4] at cE ⊢
  have D4 : Hid (Below w.heap.size w W4) := Lib.hid (by rw [← hW4]; exact D3.out.alloc D3.out.size _)
  have a1 := A1.out W4
  have hcv := HcE.out W4
  obtain ⟨W5, hW5⟩ : ∃ W, Lib.bytesWorld W4 5 SE = W := ⟨_, rfl⟩
  obtain ⟨c5, hc5⟩ : ∃ c, grownCap W4 SE.size 0 5 = c := ⟨_, rfl⟩
  have b5 := BsE.out W4
  have bb5 := BbE.out W4
  rw [hW5, hc5] at hcv b5
  rw [hW5] at bb5
  have B5 := Lib.hid b5
  have D5 := Lib.hid (D4.out.trans (bb5.mono D4.out.size))
  clear hW4 hW5 hc5 b5 bb5
  go_wp2_with fail
  refine (RE.out _ _ B5.out).mono ?_
  rintro e w6 ⟨a6, cap6, rfl, l6, hb6⟩
  have D6 := Lib.hid (D5.out.trans (hb6.mono D5.out.size))
  have L6 := Lib.hid l6
  clear hb6 l6 cE ha hk hcv a1
  go_wp2_with fail
  refine (KE.out _ _ L6.out).mono ?_
  rintro e w7 ⟨rfl, hb7⟩
  have D7 := Lib.hid (D6.out.trans (hb7.mono D6.out.size))
  have L7 := Lib.hid (L6.out.keep hb7)
  clear hb7
  have HT7 := Lib.hid (HT.out.keep D7.out)
  go_wp2_with fail
  refine (SR.out _ HT7.out).mono ?_
  rintro e w8 ⟨rfl, hb8⟩
  have D8 := Lib.hid (D7.out.trans (hb8.mono D7.out.size))
  have L8 := Lib.hid (L7.out.keep hb8)
  clear hb8
  have hcv := HcR.out w8
  obtain ⟨W9, hW9⟩ : ∃ W, Lib.bytesWorld w8 5 SRr = W := ⟨_, rfl⟩
  obtain ⟨c9, hc9⟩ : ∃ c, grownCap w8 SRr.size 0 5 = c := ⟨_, rfl⟩
  have b9 := BsR.out w8
  have bb9 := BbR.out w8
  rw [hW9, hc9] at hcv b9
  rw [hW9] at bb9
  have B9 := Lib.hid b9
  have D9 := Lib.hid (D8.out.trans (bb9.mono D8.out.size))
  have L9 := Lib.hid (L8.out.keep bb9)
  clear hW9 hc9 b9 bb9
  go_wp2_with fail
  refine (RR.out _ _ B9.out).mono ?_
  rintro e w10 ⟨a10, cap10, rfl, l10, hb10⟩
  have D10 := Lib.hid (D9.out.trans (hb10.mono D9.out.size))
  have M10 := Lib.hid l10
  have L10 := Lib.hid (L9.out.keep hb10)
  clear hb10 l10 hcv
  go_wp2_with fail
  refine (KR.out _ _ M10.out).mono ?_
  rintro e w11 ⟨rfl, hb11⟩
  have D11 := Lib.hid (D10.out.trans (hb11.mono D10.out.size))
  have L11 := Lib.hid (L10.out.keep hb11)
  clear hb11
  have hcv := HcF.out w11
  obtain ⟨W12, hW12⟩ : ∃ W, Lib.bytesWorld w11 5 SF = W := ⟨_, rfl⟩
  obtain ⟨c12, hc12⟩ : ∃ c, grownCap w11 SF.size 0 5 = c := ⟨_, rfl⟩
  have b12 := BsF.out w11
  have bb12 := BbF.out w11
  rw [hW12, hc12] at hcv b12
  rw [hW12] at bb12
  have B12 := Lib.hid b12
  have D12 := Lib.hid (D11.out.trans (bb12.mono D11.out.size))
  have L12 := Lib.hid (L11.out.keep bb12)
  clear hW12 hc12 b12 bb12
  go_wp2_with fail
  refine (RF.out _ _ B12.out).mono ?_
  rintro e w13 ⟨a13, cap13, rfl, l13, hb13⟩
  have D13 := Lib.hid (D12.out.trans (hb13.mono D12.out.size))
  have L13 := Lib.hid (L12.out.keep hb13)
  clear hb13 l13 hcv
  go_wp2_with fail
  refine (BE.out _ _ L13.out).mono ?_
  rintro e w' ⟨rfl, rfl⟩
  have HT13 := Lib.hid (HT.out.keep D13.out)
  go_wp2_with fail
  refine (SR.out _ HT13.out).mono ?_
  rintro e w14 ⟨rfl, hb14⟩
  have D14 := Lib.hid (D13.out.trans (hb14.mono D13.out.size))
  clear hb14
  have hcv := HcR.out w14
  obtain ⟨W15, hW15⟩ : ∃ W, Lib.bytesWorld w14 5 SRr = W := ⟨_, rfl⟩
  obtain ⟨c15, hc15⟩ : ∃ c, grownCap w14 SRr.size 0 5 = c := ⟨_, rfl⟩
  have b15 := BsR.out w14
  have bb15 := BbR.out w14
  rw [hW15, hc15] at hcv b15
  rw [hW15] at bb15
  have B15 := Lib.hid b15
  have D15 := Lib.hid (D14.out.trans (bb15.mono D14.out.size))
  clear hW15 hc15 b15 bb15
  go_wp2_with fail
  refine (RR.out _ _ B15.out).mono ?_
  rintro e w16 ⟨a16, cap16, rfl, l16, hb16⟩
  have D16 := Lib.hid (D15.out.trans (hb16.mono D15.out.size))
  clear hb16 l16 hcv
  go_wp2
  go_ret
  exact ⟨by first | rfl | (simp; done), D16.out⟩
set_option maxRecDepth 100000 in
set_option maxHeartbeats 2000000 in
theorem eback_walk (s0 : ByteArray) (x1 : Int) (w : World) {P0 P1 : Prop} (m0 : P0) (m1 : P1) (hT : TabsE w) :
    Calls Tryd.prog 4 #[.string s0, .int .i64 x1] w fun e w' => e = .returned (.bool true) ∧ Below w.heap.size w w' := by
  have hs : bytes s0.data.toList = s0 := by apply ByteArray.ext; simp [bytes]
  obtain ⟨l, hl⟩ : ∃ l, s0.data.toList = l := ⟨_, rfl⟩
  rw [hl] at hs
  subst hs
  have hsz := bytes_size l
  by_cases hbig : l.length < 1 ∨ 200 < l.length
  · have al := Lib.hid (alive_any w hT)
    obtain ⟨S, hS⟩ : ∃ S, bytes l = S := ⟨_, rfl⟩
    rw [hS] at hsz ⊢
    have hway : ((S.size : Int) < 1) ∨ (¬ (S.size : Int) < 1 ∧ (200 : Int) < S.size) := by omega
    clear hsz hbig hT hS hl m0 m1
    rcases hway with hb | ⟨hb0, hb⟩
    · have hb2 : decide ((S.size : Int) < 1) = true := by simpa using hb
      go_enter Tryd.func4, Tryd.ntmps4
      go_wp2_with fail
      refine al.out.mono ?_
      rintro e w1 ⟨rfl, hb1⟩
      go_wp2
      go_ret
      exact ⟨rfl, hb1⟩
    · have hb2 : decide ((200 : Int) < S.size) = true := by simpa using hb
      have hb3 : decide ((S.size : Int) < 1) = false := by simpa using hb0
      go_enter Tryd.func4, Tryd.ntmps4
      go_wp2_with fail
      refine al.out.mono ?_
      rintro e w1 ⟨rfl, hb1⟩
      go_wp2
      go_ret
      exact ⟨rfl, hb1⟩
  cases hc : M.cleanL (M.pn l 0) with
  | false =>
    have al := Lib.hid (alive_any w hT)
    have CL := Lib.hid (fun W => clean_any l false W (by omega) hc)
    obtain ⟨S, hS⟩ : ∃ S, bytes l = S := ⟨_, rfl⟩
    rw [hS] at hsz ⊢
    simp only [hS] at CL
    have hb : ¬ (200 : Int) < S.size := by omega
    have hb0 : ¬ (S.size : Int) < 1 := by omega
    have hb2 : decide ((200 : Int) < S.size) = false := by simpa using hb
    have hb3 : decide ((S.size : Int) < 1) = false := by simpa using hb0
    clear hsz hbig hT hS hl hc m0 m1
    go_enter Tryd.func4, Tryd.ntmps4
    go_wp2_with fail
    refine al.out.mono ?_
    rintro e w1 ⟨rfl, hb1⟩
    go_wp2_with fail
    refine (CL.out _).mono ?_
    rintro e w2 ⟨rfl, hb2'⟩
    have hb3 := hb1.trans (hb2'.mono hb1.size)
    clear hb1 hb2'
    go_wp2
    go_ret
    exact ⟨rfl, hb3⟩
  | true => exact eback_main l x1 w hT (by omega) (by omega) hc
end Go.Proofs.YtkaojigdogeliaaDoor
