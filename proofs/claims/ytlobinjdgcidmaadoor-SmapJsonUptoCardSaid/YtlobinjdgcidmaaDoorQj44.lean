/- Texts of ours in one: ZSk. -/
import Derived.Test.YtlobinjdgcidmaaDoorQj27
import Derived.Test.YtlobinjdgcidmaaDoorQj28
import Derived.Test.YtlobinjdgcidmaaDoorQj43
import Derived.Test.YtlobinjdgcidmaaDoorQj10
import Derived.Test.YtlobinjdgcidmaaDoorQj03
import Derived.Test.YtlobinjdgcidmaaDoorQj15
import Derived.Deep.DeepCutAuto
/- The walk of SmapJson. -/
namespace Go.Proofs.YtlobinjdgcidmaaDoor
open Go.RowKit
set_option linter.unusedVariables false
set_option linter.unusedSimpArgs false

theorem cell_keep1 {V V' : World} (hb : Below V.heap.size V V') {p : Addr} {c : Value} (h : V.cell? p = some c) : V'.cell? p = some c := by
  rw [hb.cell (World.block_lt_of_cell? V _ h)]
  exact h
theorem isP_is {w w' : World} {v : Value} {l : List Int} (h : IsP (In w) w v l) (hb : Below w.heap.size w w') : Is w' v l :=
  (h.keep (fun b x => hb.block b x)).is (fun b x => Nat.lt_of_lt_of_le x hb.size)
set_option maxRecDepth 100000 in
set_option maxHeartbeats 8000000 in
theorem sjson_walk (a : Option Addr) (len cap : Nat) (s : ByteArray) (L : List M.S4) (w : World) (hn : L.length = len) (hv : SsS w (.slice a len cap) L) (hz : NNv (.slice a len cap)) {P1 : Prop} (m1 : P1) (u0 : L.length ≤ 209715) (hT : Tabs w) :
    Calls Tryd.prog 3 #[.slice a len cap, .string s] w fun e w' => e = .returned (.bool true) ∧ Below w.heap.size w w' := by
  have al := Lib.hid (salive_any w hT)
  have FW := Lib.hid (fun W hv => sfewq_any (.slice a len cap) L W hv)
  obtain ⟨R, hR⟩ : ∃ R, M.maps L = R := ⟨_, rfl⟩
  have MR := Lib.hid (fun W hv => refmaps_any (.slice a len cap) L R W hv u0 hR)
  unfold MpP mres at MR
  have HT := Lib.hid hT
  have HV := Lib.hid hv
  have HN := Lib.hid hn
  have HR := Lib.hid hR
  clear hT hv hz hn hR m1
  go_enter Tryd.func3, Tryd.ntmps3
  go_wp2_with fail
  refine al.out.mono ?_
  rintro e w1 ⟨rfl, hb1⟩
  have HB1 := Lib.hid hb1
  clear hb1
  go_wp2_with fail
  refine (MR.out w1 (HV.out.keep HB1.out)).mono ?_
  rintro e w2 ⟨rfl, hb2⟩
  have HB2 := Lib.hid (HB1.out.trans (hb2.mono HB1.out.size))
  clear hb2
  go_wp2_with fail
  refine (FW.out w2 (HV.out.keep HB2.out)).mono ?_
  rintro e w' ⟨q, rfl, hq, hwq⟩
  have hwq := hwq.symm
  subst hwq
  cases q with
  | false =>
    have hb := HB2.out
    clear hq
    go_wp2
    go_ret
    exact ⟨rfl, hb⟩
  | true =>
    obtain ⟨hl60, hlin⟩ := hq rfl
    clear hq
    by_cases hs : 100 < s.size
    · have hb := HB2.out
      go_wp2
      go_ret
      exact ⟨rfl, hb⟩
    have hs2 : s.size ≤ 100 := by omega
    have hsl : s.data.toList.length ≤ 100 := by have : s.data.toList.length = s.size := Array.length_toList; omega
    cases R with
    | none =>
      have hb := HB2.out
      simp only [Option.isSome_none, Option.getD_none] at *
      go_wp2
      go_ret
      exact ⟨rfl, hb⟩
    | some acc =>
      have hacc := maps_short L acc hlin HR.out
      have hpl := mapsG_pl L true (0, 0, 0, 0) acc HR.out
      obtain ⟨l, hl⟩ : ∃ l, s.data.toList = l := ⟨_, rfl⟩
      rw [hl] at hsl
      obtain ⟨ua, tl, tz, h, kids, pv, hk, hke⟩ := sj_all l acc hsl hpl (by omega)
      obtain ⟨U, hU⟩ : ∃ U, unitsL l = U := ⟨_, rfl⟩
      obtain ⟨V, hV⟩ : ∃ V, acc.map UInt8.toNat = V := ⟨_, rfl⟩
      have Ul : U.length ≤ 300 := by rw [← hU]; have := unitsL_len l.length l (Nat.le_refl _); omega
      have Vl : V.length ≤ 3000 := by rw [← hV, List.length_map]; omega
      have MW := Lib.hid (fun W hT hv => swrite_any s l (.slice a len cap) L (some acc) W hT hl (by omega) hv (by omega) HR.out)
      dsimp only [wres] at MW
      rw [hU] at tl tz pv hke MW
      rw [hV] at tl tz pv hke ua
      obtain ⟨Z, hZ⟩ : ∃ Z, wtx (bytes (M.spell U)) (bytes acc) = Z := ⟨_, rfl⟩
      rw [hZ] at tl MW
      have zs : Z.size ≤ 20000 := by have : Z.data.toList.length = Z.size := Array.length_toList; rw [tl] at this; omega
      obtain ⟨TX, hTX⟩ : ∃ x, sjS (M.spell U) (M.spell V) = x := ⟨_, rfl⟩
      rw [hTX] at tl tz pv
      simp only [Option.isSome_some, Option.getD_some]
      obtain ⟨mb, hmb⟩ : ∃ x, bytes acc = x := ⟨_, rfl⟩
      have mbl : mb.data.toList = acc := by rw [← hmb]; exact bytes_list _
      rw [hmb]
      have UN := Lib.hid (fun W => lunits_any s l U W hl (by omega) hU)
      have UM := Lib.hid (fun W => lunits_any mb acc V W mbl (by omega) ua)
      have UK := Lib.hid (fun j (hj : j < 4) W => lunits_any (kS j) _ (kT j) W rfl (kS_len j hj) (kS_units j hj))
      have SK := Lib.hid (sj_keys hke)
      have SR := Lib.hid (sj_rest hke)
      have TL := Lib.hid tl
      have TZ := Lib.hid tz
      have PV := Lib.hid pv
      have HK := Lib.hid hk
      have HL := Lib.hid hl
      have HUl := Lib.hid Ul
      have HVl := Lib.hid Vl
      clear hlin hl60 hacc hpl ua tl tz pv hk hke hU hV hZ hTX hmb mbl Ul Vl hl
      -- the name, as bytes
      have cv := bw_conv w2 s
      have hbs := bw_bs w2 s (by omega)
      rw [HL.out] at hbs
      have bwb := bw_below w2 s
      obtain ⟨cc, hcc⟩ : ∃ x, grownCap w2 s.size 0 5 = x := ⟨_, rfl⟩
      rw [hcc] at cv hbs
      obtain ⟨WX, hWX⟩ : ∃ x, Lib.bytesWorld w2 5 s = x := ⟨_, rfl⟩
      rw [hWX] at cv hbs bwb
      obtain ⟨vq, vok, hvv⟩ : ∃ q ok, M.validAll l = (q, ok) := ⟨_, _, rfl⟩
      have VA := Lib.hid (refvalid_any _ l vq vok WX hbs (by omega) hvv)
      have BX := Lib.hid (HB2.out.trans (bwb.mono HB2.out.size))
      clear hbs bwb hcc hWX hvv hs
      go_wp2_with fail
      refine VA.out.mono ?_
      rintro e w' ⟨rfl, rfl⟩
      go_wp2_with fail
      refine (MW.out WX (HT.out.keep BX.out) (HV.out.keep BX.out)).mono ?_
      rintro e w3 ⟨rfl, hb3⟩
      have BX3 := Lib.hid (BX.out.trans (hb3.mono BX.out.size))
      clear hb3 cv
      -- the map, as bytes
      have cv := bw_conv w3 Z
      have hbs := bw_bs w3 Z (by omega)
      rw [TL.out] at hbs
      have bwb := bw_below w3 Z
      obtain ⟨cc3, hcc⟩ : ∃ x, grownCap w3 Z.size 0 5 = x := ⟨_, rfl⟩
      rw [hcc] at cv hbs
      obtain ⟨WY, hWY⟩ : ∃ x, Lib.bytesWorld w3 5 Z = x := ⟨_, rfl⟩
      rw [hWY] at cv hbs bwb
      have bY := BX3.out.trans (bwb.mono BX3.out.size)
      have PB0 := refjparse_any _ TX 60 WY ⟨HT.out.keep bY⟩ hbs
      rw [PV.out] at PB0
      unfold ParQ at PB0
      dsimp only at PB0
      have PB := Lib.hid PB0
      have BY := Lib.hid bY
      clear hbs bwb hcc hWY bY PB0
      go_wp2_with fail
      refine PB.out.mono ?_
      rintro e w5 ⟨tv, v, mv, rfl, hd, hv, hb5⟩
      obtain ⟨p5, hp5⟩ : ∃ x, w5.heap.size + 1 = x := ⟨_, rfl⟩
      obtain ⟨k1, k2, k3, k4, bb⟩ := two_laid w5 (vv h tv v mv) (.int .i64 0) (.int .i64 0) p5 hp5
      have C5 := BY.out.trans (hb5.mono BY.out.size)
      have B6 := C5.trans (bb.mono C5.size)
      have t3 := hd.t.one
      have t4 := hv.one
      have t5 := hd.m.one
      have hdS0 : HdS w5 h tv mv := hd.mono (fun b hb => hb.2)
      have hvS0 : VoS w5 v kids := hv.mono (fun b hb => hb.2)
      have hdS := hdS0.below bb
      have hvS := hvS0.below bb
      obtain ⟨W6, hW6⟩ : ∃ x, (((w5.alloc (.cells zv 36)).alloc (.cells #[.int .i64 0, .int .i64 0] 39)).setRow w5.heap.size (vv h tv v mv)).setRow p5 #[.int .i64 0, .int .i64 0] = x := ⟨_, rfl⟩
      rw [hW6] at k3 k4 B6 hdS hvS
      have HW6 := Lib.hid (show (((w5.alloc (.cells #[.int .i64 0, .slice none 0 0, .bool false, .string ⟨#[]⟩, .string ⟨#[]⟩, .slice none 0 0, .int .i64 0, .int .i64 0, .slice none 0 0] 36)).alloc (.cells #[.int .i64 0, .int .i64 0] 39)).setRow w5.heap.size (vv h tv v mv)).setRow p5 #[.int .i64 0, .int .i64 0] = W6 from hW6)
      have g0 : W6.cell? ⟨p5, 0, none⟩ = some (.int .i64 0) := k4.cell 0
      have VX := Lib.hid (show VB W6 w5.heap.size h tv v mv from k3)
      have HD := Lib.hid hdS
      have HVS := Lib.hid hvS
      have BB6 := Lib.hid B6
      clear hW6 bb hb5 hd hv C5 B6 hdS hvS hdS0 hvS0 k3 k4 cv
      go_upto_region 8 with (first | (refine wpl_stV rfl _ _ rfl w5.heap.size zv h tv v mv rfl rfl k1 rfl t3 t4 t5 ?_) | (refine wpl_stK infoF1 rfl _ _ rfl p5 _ #[.int .i64 0, .int .i64 0] rfl rfl k2 rfl rfl (by simp [Value.oneCell']) ?_))
      rw [HW6.out]
      obtain ⟨qv, hqv⟩ : ∃ x, w5.heap.size = x := ⟨_, rfl⟩
      rw [hqv] at VX ⊢
      clear k1 k2 t3 t4 t5 HW6 hp5 hqv
      obtain ⟨va, vc, hvs⟩ := HVS.out.slice
      have g5 := VX.out.cells.2.2.2.2.2.1
      have gk := VX.out.cells.1
      rw [hvs, SR.out.1] at g5
      rw [HK.out] at gk
      have HV5 := Lib.hid hvs
      clear hvs
      go_wp2
      clear g0 g5 gk
      have b7 := (Below.refl W6.heap.size W6).alloc (Nat.le_refl _) (.cells #[.string ⟨#[118, 101, 114, 115, 105, 111, 110]⟩, .string ⟨#[115, 111, 117, 114, 99, 101, 115]⟩, .string ⟨#[110, 97, 109, 101, 115]⟩, .string ⟨#[109, 97, 112, 112, 105, 110, 103, 115]⟩] 9)
      have bk0 := BK.new 9 W6 #[.string ⟨#[118, 101, 114, 115, 105, 111, 110]⟩, .string ⟨#[115, 111, 117, 114, 99, 101, 115]⟩, .string ⟨#[110, 97, 109, 101, 115]⟩, .string ⟨#[109, 97, 112, 112, 105, 110, 103, 115]⟩]
      obtain ⟨W7, hW7⟩ : ∃ x, W6.alloc (.cells #[.string ⟨#[118, 101, 114, 115, 105, 111, 110]⟩, .string ⟨#[115, 111, 117, 114, 99, 101, 115]⟩, .string ⟨#[110, 97, 109, 101, 115]⟩, .string ⟨#[109, 97, 112, 112, 105, 110, 103, 115]⟩] 9) = x := ⟨_, rfl⟩
      rw [hW7] at b7 bk0 ⊢
      obtain ⟨bk, hbk⟩ : ∃ x, W6.heap.size = x := ⟨_, rfl⟩
      have kc : ∀ j, j < 4 → W7.cell? ⟨W6.heap.size, j, none⟩ = some (.string (kS j)) := four4 (by rw [bk0.cell 0]; rfl) (by rw [bk0.cell 1]; rfl) (by rw [bk0.cell 2]; rfl) (by rw [bk0.cell 3]; rfl)
      have VX7 := Lib.hid (VX.out.keep b7)
      have HV7 := Lib.hid (HVS.out.below b7)
      have BB7 := Lib.hid (BB6.out.trans (b7.mono BB6.out.size))
      rw [hbk] at kc ⊢
      have KC := Lib.hid kc
      clear hW7 b7 bk0 kc hbk VX HVS
      go_loopw [15] (fun iv wr => ∃ j : Nat, iv = .int .i64 (j : Int) ∧ j ≤ 4 ∧ Below W7.heap.size W7 wr) (fun iv _ => 4 - (intOf iv).toNat)
      case atStart => exact ⟨0, rfl, by omega, Below.refl _ _⟩
      case round =>
        obtain ⟨j, rfl, hj, hb⟩ := hrel
        have vx := VX7.out.keep hb
        have hv8 := HV7.out.below hb
        have HB := Lib.hid hb
        obtain ⟨a2, c2, e, -, -, -, hq⟩ := hv8
        rw [HV5.out] at e
        simp only [Value.slice.injEq] at e
        obtain ⟨rfl, -, rfl⟩ := e
        obtain ⟨ib, ioff, hva, hib, hat⟩ := hq (by rw [SR.out.1]; omega)
        have g5 := vx.cells.2.2.2.2.2.1
        rw [HV5.out, SR.out.1] at g5
        by_cases hlt : j < 4
        · obtain ⟨hk0, kk0, x1, x2⟩ := SK.out j hlt
          subst hva
          obtain ⟨t1, m1, v1, hd1, hr1, -⟩ := voAt_get kids ib ioff (2 * j) hk0 kk0 hat x1
          have c1 := hr1 1 _ rfl
          have his : IsP (In wr) wr t1 (iN (kT j)) := by have := hd1.t; rw [x2] at this; exact this
          have kc1 := cell_keep1 hb (KC.out j hlt)
          obtain ⟨ta, tc, ht1⟩ := his.slice
          rw [ht1] at c1 his
          have nk : (iN (kT j)).length ≤ 100 := by rw [iN_len]; exact kT_len j hlt
          have UKj := Lib.hid (UK.out j hlt)
          obtain ⟨ks, hks⟩ : ∃ x, kS j = x := ⟨_, rfl⟩
          rw [hks] at kc1 UKj
          obtain ⟨kl, hkl⟩ : ∃ x, iN (kT j) = x := ⟨_, rfl⟩
          rw [hkl] at his c1 UKj nk
          obtain ⟨kn, hkn⟩ : ∃ x, kl.length = x := ⟨_, rfl⟩
          rw [hkn] at his c1 nk
          have HIS := Lib.hid his
          have HKN := Lib.hid hkn
          obtain ⟨j2, hj2⟩ : ∃ x, 2 * j = x := ⟨_, rfl⟩
          have e2 : (2 : Int) * (j : Int) = (j2 : Int) := by omega
          have d0 : (0 : Int) ≤ j2 := by omega
          have d1 : (j2 : Int) < 8 := by omega
          have wj : IntKind.i64.wrap (j2 : Int) = (j2 : Int) := by rw [IntKind.wrap_i64]; omega
          have d2 : (0 : Int) ≤ j := by omega
          have d3 : (j : Int) < 4 := by omega
          rw [hj2] at c1
          clear hq hat hr1 hd1 his ht1 hks hkl hkn hj2 x1 x2 vx hb
          go_upto_region 14 with (fail)
          refine wp_region_noPanic ?_
          refine wp_region_held_drew (S := fun V : World => V.cell? ⟨qv, 5, none⟩ = some (.slice (some ⟨ib, ioff, none⟩) 8 vc) ∧ V.cell? ⟨ib, ioff + j2 * 9 + 1, none⟩ = some (.slice ta kn tc) ∧ V.cell? ⟨bk, j, none⟩ = some (.string ks)) (by kernel_rfl) ⟨g5, c1, kc1⟩ (fun hS => ?_)
          refine wpAnyH_take (i := 0) (oi := _) (v := ?_) (List.getElem?_toArray.trans (by simp only [List.getElem?_cons_succ, List.getElem?_cons_zero]; exact rfl)) (by kernel_rfl) (by kernel_rfl) (by kernel_rfl) (fun _ _ _ h => h) (Or.inl ⟨by rfl, ?_⟩) (by assumption) ?_
          rotate_left
          · (intro V hSV; (try dsimp only at hSV); (try obtain ⟨s0, s1, s2⟩ := hSV); go_simp; (try rw [if_neg (by omega)]); (try with_reducible rfl))
          try simp only [List.getElem_toArray, List.getElem_cons_succ, List.getElem_cons_zero, Act.put, List.setIfInBounds_toArray, List.set_cons_zero, List.set_cons_succ]
          refine wpAnyH_take (i := 1) (oi := _) (v := ?_) (List.getElem?_toArray.trans (by simp only [List.getElem?_cons_succ, List.getElem?_cons_zero]; exact rfl)) (by kernel_rfl) (by kernel_rfl) (by kernel_rfl) (fun _ _ _ h => h) (Or.inl ⟨by rfl, ?_⟩) (by assumption) ?_
          rotate_left
          · (intro V hSV; (try dsimp only at hSV); (try obtain ⟨s0, s1, s2⟩ := hSV); go_simp; (try rw [if_neg (by omega)]); (try with_reducible rfl))
          try simp only [List.getElem_toArray, List.getElem_cons_succ, List.getElem_cons_zero, Act.put, List.setIfInBounds_toArray, List.set_cons_zero, List.set_cons_succ]
          refine wpAnyH_take (i := 2) (oi := _) (v := ?_) (List.getElem?_toArray.trans (by simp only [List.getElem?_cons_succ, List.getElem?_cons_zero]; exact rfl)) (by kernel_rfl) (by kernel_rfl) (by kernel_rfl) (fun _ _ _ h => h) (Or.inl ⟨by rfl, ?_⟩) (by assumption) ?_
          rotate_left
          · (intro V hSV; (try dsimp only at hSV); (try obtain ⟨s0, s1, s2⟩ := hSV); go_simp; (try rw [if_neg (by omega)]); (try with_reducible rfl))
          try simp only [List.getElem_toArray, List.getElem_cons_succ, List.getElem_cons_zero, Act.put, List.setIfInBounds_toArray, List.set_cons_zero, List.set_cons_succ]
          refine wpAnyH_take (i := 3) (oi := _) (v := ?_) (List.getElem?_toArray.trans (by simp only [List.getElem?_cons_succ, List.getElem?_cons_zero]; exact rfl)) (by kernel_rfl) (by kernel_rfl) (by kernel_rfl) (fun _ _ _ h => h) (Or.inl ⟨by rfl, ?_⟩) (by assumption) ?_
          rotate_left
          · (intro V hSV; (try dsimp only at hSV); (try obtain ⟨s0, s1, s2⟩ := hSV); go_simp; (try rw [if_neg (by omega)]); (try with_reducible rfl))
          try simp only [List.getElem_toArray, List.getElem_cons_succ, List.getElem_cons_zero, Act.put, List.setIfInBounds_toArray, List.set_cons_zero, List.set_cons_succ]
          refine wpAnyH_take (i := 4) (oi := _) (v := ?_) (List.getElem?_toArray.trans (by simp only [List.getElem?_cons_succ, List.getElem?_cons_zero]; exact rfl)) (by kernel_rfl) (by kernel_rfl) (by kernel_rfl) (fun _ _ _ h => h) (Or.inl ⟨by rfl, ?_⟩) (by assumption) ?_
          rotate_left
          · (intro V hSV; (try dsimp only at hSV); (try obtain ⟨s0, s1, s2⟩ := hSV); go_simp; (try rw [if_neg (by omega)]); (try with_reducible rfl))
          try simp only [List.getElem_toArray, List.getElem_cons_succ, List.getElem_cons_zero, Act.put, List.setIfInBounds_toArray, List.set_cons_zero, List.set_cons_succ]
          refine wpAnyH_take (i := 5) (oi := _) (v := ?_) (List.getElem?_toArray.trans (by simp only [List.getElem?_cons_succ, List.getElem?_cons_zero]; exact rfl)) (by kernel_rfl) (by kernel_rfl) (by kernel_rfl) (fun _ _ _ h => h) (Or.inl ⟨by rfl, ?_⟩) (by assumption) ?_
          rotate_left
          · (intro V hSV; (try dsimp only at hSV); (try obtain ⟨s0, s1, s2⟩ := hSV); go_simp; (try rw [if_neg (by omega)]); (try with_reducible rfl))
          try simp only [List.getElem_toArray, List.getElem_cons_succ, List.getElem_cons_zero, Act.put, List.setIfInBounds_toArray, List.set_cons_zero, List.set_cons_succ]
          refine wpAnyH_take (i := 6) (oi := _) (v := ?_) (List.getElem?_toArray.trans (by simp only [List.getElem?_cons_succ, List.getElem?_cons_zero]; exact rfl)) (by kernel_rfl) (by kernel_rfl) (by kernel_rfl) (fun _ _ _ h => h) (Or.inl ⟨by rfl, ?_⟩) (by assumption) ?_
          rotate_left
          · (intro V hSV; (try dsimp only at hSV); (try obtain ⟨s0, s1, s2⟩ := hSV); go_simp; (try rw [if_neg (by omega)]); (try with_reducible rfl))
          try simp only [List.getElem_toArray, List.getElem_cons_succ, List.getElem_cons_zero, Act.put, List.setIfInBounds_toArray, List.set_cons_zero, List.set_cons_succ]
          refine wpAnyH_take (i := 7) (oi := _) (v := ?_) (List.getElem?_toArray.trans (by simp only [List.getElem?_cons_succ, List.getElem?_cons_zero]; exact rfl)) (by kernel_rfl) (by kernel_rfl) (by kernel_rfl) (fun _ _ _ h => h) (Or.inl ⟨by rfl, ?_⟩) (by assumption) ?_
          rotate_left
          · (intro V hSV; (try dsimp only at hSV); (try obtain ⟨s0, s1, s2⟩ := hSV); go_simp; (try rw [if_neg (by omega)]); (try with_reducible rfl))
          try simp only [List.getElem_toArray, List.getElem_cons_succ, List.getElem_cons_zero, Act.put, List.setIfInBounds_toArray, List.set_cons_zero, List.set_cons_succ]
          refine wpAnyH_take (i := 8) (oi := _) (v := ?_) (List.getElem?_toArray.trans (by simp only [List.getElem?_cons_succ, List.getElem?_cons_zero]; exact rfl)) (by kernel_rfl) (by kernel_rfl) (by kernel_rfl) (fun _ _ _ h => h) (Or.inl ⟨by rfl, ?_⟩) (by assumption) ?_
          rotate_left
          · (intro V hSV; (try dsimp only at hSV); (try obtain ⟨s0, s1, s2⟩ := hSV); go_simp; (try rw [if_neg (by omega)]); (try with_reducible rfl))
          try simp only [List.getElem_toArray, List.getElem_cons_succ, List.getElem_cons_zero, Act.put, List.setIfInBounds_toArray, List.set_cons_zero, List.set_cons_succ]
          refine wpAnyH_take (i := 9) (oi := _) (v := ?_) (List.getElem?_toArray.trans (by simp only [List.getElem?_cons_succ, List.getElem?_cons_zero]; exact rfl)) (by kernel_rfl) (by kernel_rfl) (by kernel_rfl) (fun _ _ _ h => h) (Or.inl ⟨by rfl, ?_⟩) (by assumption) ?_
          rotate_left
          · (intro V hSV; (try dsimp only at hSV); (try obtain ⟨s0, s1, s2⟩ := hSV); go_simp; (try rw [if_neg (by omega)]); (try with_reducible rfl))
          try simp only [List.getElem_toArray, List.getElem_cons_succ, List.getElem_cons_zero, Act.put, List.setIfInBounds_toArray, List.set_cons_zero, List.set_cons_succ]
          refine wpAnyH_take (i := 10) (oi := _) (v := ?_) (List.getElem?_toArray.trans (by simp only [List.getElem?_cons_succ, List.getElem?_cons_zero]; exact rfl)) (by kernel_rfl) (by kernel_rfl) (by kernel_rfl) (fun _ _ _ h => h) (Or.inl ⟨by rfl, ?_⟩) (by assumption) ?_
          rotate_left
          · (intro V hSV; (try dsimp only at hSV); (try obtain ⟨s0, s1, s2⟩ := hSV); go_simp; (try rw [if_neg (by omega)]); (try with_reducible rfl))
          try simp only [List.getElem_toArray, List.getElem_cons_succ, List.getElem_cons_zero, Act.put, List.setIfInBounds_toArray, List.set_cons_zero, List.set_cons_succ]
          refine wpAnyH_ready (rs := [11]) (by kernel_rfl) (by simp) ?_
          refine AllReadyH.cons rfl (fun K hK => ?_) AllReadyH.nil
          go_simp
          refine (UKj.out _).mono ?_
          rintro e w8 ⟨tv8, rfl, his8, hb8⟩
          refine hK.out _ _ (⟨cell_keep1 hb8 hS.1, cell_keep1 hb8 hS.2.1, cell_keep1 hb8 hS.2.2⟩) (fun hS => ?_)
          clear hK K
          have q8 := (Below.refl wr.heap.size wr).drew.trans hb8
          have is8 := isP_is HIS.out q8
          have it8 : Is w8 tv8 kl := his8.is (fun b x => x.2)
          obtain ⟨t8a, t8c, rfl⟩ := his8.slice
          have SM := Lib.hid (same_any _ _ kl kl true w8 is8 it8 (by have := HKN.out; omega) (by have := HKN.out; omega) (by simp))
          have Q8 := Lib.hid q8
          clear his8 hb8 q8 is8 it8
          refine wpAnyH_ready (rs := [12]) (by kernel_rfl) (by simp) ?_
          refine AllReadyH.cons rfl (fun K hK => ?_) AllReadyH.nil
          go_simp
          refine SM.out.mono ?_
          rintro e w9 ⟨rfl, hb9⟩
          refine hK.out _ _ (⟨cell_keep1 hb9 hS.1, cell_keep1 hb9 hS.2.1, cell_keep1 hb9 hS.2.2⟩) (fun hS => ?_)
          clear hK K
          refine wpAnyH_take (i := 13) (oi := _) (v := ?_) (List.getElem?_toArray.trans (by simp only [List.getElem?_cons_succ, List.getElem?_cons_zero]; exact rfl)) (by kernel_rfl) (by kernel_rfl) (by kernel_rfl) (fun _ _ _ h => h) (Or.inl ⟨by rfl, ?_⟩) (by assumption) ?_
          rotate_left
          · (intro V hSV; (try dsimp only at hSV); (try obtain ⟨s0, s1, s2⟩ := hSV); go_simp; (try rw [if_neg (by omega)]); (try with_reducible rfl))
          try simp only [List.getElem_toArray, List.getElem_cons_succ, List.getElem_cons_zero, Act.put, List.setIfInBounds_toArray, List.set_cons_zero, List.set_cons_succ]
          refine wpAnyH_done (by kernel_rfl) ?_ _
          refine NoPanic.normal ?_
          have b9 := HB.out.trans ((Q8.out.trans (hb9.mono Q8.out.size)).mono HB.out.size)
          have HB9 := Lib.hid b9
          clear hb9 b9 hS
          go_wp2
          go_roundw
          case rel => exact ⟨j + 1, by go_num, by omega, HB9.out⟩
          case measure => simp [intOf]; omega
        · obtain rfl : j = 4 := by omega
          subst hva
          obtain ⟨-, ⟨h1, k1, x1, xg, xd, xe⟩, ⟨h3, k3, hu, ku, x3, x3k, x3l, x3a, x3t⟩, ⟨h5, k5, x5, x5l⟩, ⟨h7, k7, x7, x7t⟩⟩ := SR.out
          obtain ⟨t1, m1, v1, -, hr1, -⟩ := voAt_get kids ib ioff 1 h1 k1 hat x1
          obtain ⟨t3, m3, v3, hd3, hr3, hv3⟩ := voAt_get kids ib ioff 3 h3 k3 hat x3
          obtain ⟨t5, m5, v5, -, hr5, hv5⟩ := voAt_get kids ib ioff 5 h5 k5 hat x5
          obtain ⟨t7, m7, v7, hd7, hr7, -⟩ := voAt_get kids ib ioff 7 h7 k7 hat x7
          obtain ⟨sa, sc, hsv⟩ := hv3.slice
          obtain ⟨fa, fc, hfv⟩ := hv5.slice
          obtain ⟨ga, gc, hgt⟩ := hd7.t.slice
          rw [x3l] at hsv
          rw [x5l] at hfv
          rw [x7t] at hgt
          have n1 : wr.cell? ⟨ib, ioff + 9 + 2, none⟩ = some (.bool false) := by have := hr1 2 _ rfl; rw [xg] at this; exact this
          have n2 : wr.cell? ⟨ib, ioff + 9 + 3, none⟩ = some (.string ⟨#[51]⟩) := by have := hr1 3 _ rfl; rw [xd] at this; exact this
          have n3 : wr.cell? ⟨ib, ioff + 9 + 4, none⟩ = some (.string ⟨#[48]⟩) := by have := hr1 4 _ rfl; rw [xe] at this; exact this
          have n5 : wr.cell? ⟨ib, ioff + 45 + 5, none⟩ = some (.slice fa 0 fc) := by have := hr5 5 _ rfl; rw [hfv] at this; exact this
          have n7 : wr.cell? ⟨ib, ioff + 63 + 1, none⟩ = some (.slice ga (iN V).length gc) := by have := hr7 1 _ rfl; rw [hgt] at this; exact this
          have is7 : IsP (In wr) wr t7 (iN V) := by have := hd7.t; rw [x7t] at this; exact this
          -- the array of the name
          obtain ⟨sa2, sc2, e3, -, -, -, hq3⟩ := id hv3
          rw [hsv, x3l] at e3
          simp only [Value.slice.injEq] at e3
          obtain ⟨rfl, -, rfl⟩ := e3
          obtain ⟨sb, so, hsa, hsb, hat3⟩ := hq3 (by rw [x3l]; omega)
          subst hsa
          obtain ⟨tu, mu, vu, hdu, hru, -⟩ := voAt_get k3 sb so 0 hu ku hat3 x3a
          obtain ⟨ua, uc, hut⟩ := hdu.t.slice
          rw [x3t] at hut
          have nu : wr.cell? ⟨sb, so + 1, none⟩ = some (.slice ua (iN U).length uc) := by have := hru 1 _ rfl; rw [hut] at this; simpa using this
          have isu : IsP (In wr) wr tu (iN U) := by have := hdu.t; rw [x3t] at this; exact this
          -- it is copied
          have t3a := hd3.t.one
          have t3b := hv3.one
          have t3c := hd3.m.one
          have kz := BK.new 36 wr zv
          obtain ⟨W9, hW9⟩ : ∃ x, (wr.alloc (.cells zv 36)).setRow wr.heap.size (vv h3 t3 v3 m3) = x := ⟨_, rfl⟩
          obtain ⟨vb9, b9⟩ := vbox_set W9 hW9
          have HW9 := Lib.hid (show (wr.alloc (.cells #[.int .i64 0, .slice none 0 0, .bool false, .string ⟨#[]⟩, .string ⟨#[]⟩, .slice none 0 0, .int .i64 0, .int .i64 0, .slice none 0 0] 36)).setRow wr.heap.size (vv h3 t3 v3 m3) = W9 from hW9)
          have HR3 := Lib.hid hr3
          have KZ := Lib.hid kz
          have VB9 := Lib.hid vb9
          have S0 := cell_keep1 b9 g5
          have S1 := cell_keep1 b9 n1
          have S2 := cell_keep1 b9 n2
          have S3 := cell_keep1 b9 n3
          have S4 := cell_keep1 b9 n5
          have S5 := cell_keep1 b9 n7
          have S6 := cell_keep1 b9 nu
          have HI7 := Lib.hid is7
          have HIu := Lib.hid isu
          have HB9 := Lib.hid b9
          have HS := Lib.hid hsv
          have HX3 := Lib.hid x3k
          have H7 := Lib.hid hgt
          have Hu := Lib.hid hut
          clear hat hr1 hr3 hr5 hr7 hd3 hd7 hv3 hv5 hsv hfv hgt x1 xg xd xe x3 x3k x3l x3a x3t x5 x5l x7 x7t hat3 hdu hru hut hq hq3 is7 isu hW9 vb9 b9 kz vx hb hlt hib hsb
          go_upto_region 17 with (first | (refine wpl_ldV rfl _ rfl ib (ioff + 27) h3 t3 v3 m3 rfl HR3.out ?_) | (refine wpl_stV rfl _ _ rfl wr.heap.size zv h3 t3 v3 m3 rfl rfl KZ.out rfl t3a t3b t3c ?_) | fail)
          rw [HW9.out]
          have HV9 := Lib.hid (show Is W9 (.slice ga (iN V).length gc) (iN V) by have := isP_is HI7.out HB9.out; rw [H7.out] at this; exact this)
          have HU9 := Lib.hid (show Is W9 (.slice ua (iN U).length uc) (iN U) by have := isP_is HIu.out HB9.out; rw [Hu.out] at this; exact this)
          have BW9 := Lib.hid (BB7.out.trans ((HB.out.trans (HB9.out.mono HB.out.size)).mono BB7.out.size))
          obtain ⟨nb, hnb⟩ : ∃ x, wr.heap.size = x := ⟨_, rfl⟩
          have q0 := VB9.out.cells.1
          have q5 := VB9.out.cells.2.2.2.2.2.1
          rw [HX3.out] at q0
          rw [HS.out] at q5
          rw [hnb] at q0 q5 ⊢
          obtain ⟨vn, hvn⟩ : ∃ x, (iN V).length = x := ⟨_, rfl⟩
          obtain ⟨un, hun⟩ : ∃ x, (iN U).length = x := ⟨_, rfl⟩
          rw [hvn] at S5 HV9
          rw [hun] at S6 HU9
          clear hnb hvn hun HI7 HIu HW9 HR3 KZ VB9 HS HX3 H7 Hu t3a t3b t3c g5 n1 n2 n3 n5 n7 nu
          cases vok with
          | true =>
              refine wp_region_noPanic ?_
              refine wp_region_held_drew (S := fun Z : World => Z.cell? ⟨qv, 5, none⟩ = some (.slice (some ⟨ib, ioff, none⟩) 8 vc) ∧ Z.cell? ⟨ib, ioff + 9 + 2, none⟩ = some (.bool false) ∧ Z.cell? ⟨ib, ioff + 9 + 3, none⟩ = some (.string ⟨#[51]⟩) ∧ Z.cell? ⟨ib, ioff + 9 + 4, none⟩ = some (.string ⟨#[48]⟩) ∧ Z.cell? ⟨ib, ioff + 45 + 5, none⟩ = some (.slice fa 0 fc) ∧ Z.cell? ⟨ib, ioff + 63 + 1, none⟩ = some (.slice ga vn gc) ∧ Z.cell? ⟨sb, so + 1, none⟩ = some (.slice ua un uc) ∧ Z.cell? ⟨nb, 0, none⟩ = some (.int .i64 2) ∧ Z.cell? ⟨nb, 5, none⟩ = some (.slice (some ⟨sb, so, none⟩) 1 sc)) (by kernel_rfl) ⟨S0, S1, S2, S3, S4, S5, S6, q0, q5⟩ (fun hS => ?_)
              refine wpAnyH_take (i := 0) (oi := _) (v := ?_) (List.getElem?_toArray.trans (by simp only [List.getElem?_cons_succ, List.getElem?_cons_zero]; exact rfl)) (by kernel_rfl) (by kernel_rfl) (by kernel_rfl) (fun _ _ _ h => h) (Or.inl ⟨by rfl, ?_⟩) (by assumption) ?_
              rotate_left
              · (intro V hSV; (try dsimp only at hSV); (try obtain ⟨s0, s1, s2, s3, s4, s5, s6, s7, s8⟩ := hSV); go_simp; (try rw [if_neg (by omega)]); (try with_reducible rfl))
              try simp only [List.getElem_toArray, List.getElem_cons_succ, List.getElem_cons_zero, Act.put, List.setIfInBounds_toArray, List.set_cons_zero, List.set_cons_succ]
              refine wpAnyH_take (i := 1) (oi := _) (v := ?_) (List.getElem?_toArray.trans (by simp only [List.getElem?_cons_succ, List.getElem?_cons_zero]; exact rfl)) (by kernel_rfl) (by kernel_rfl) (by kernel_rfl) (fun _ _ _ h => h) (Or.inl ⟨by rfl, ?_⟩) (by assumption) ?_
              rotate_left
              · (intro V hSV; (try dsimp only at hSV); (try obtain ⟨s0, s1, s2, s3, s4, s5, s6, s7, s8⟩ := hSV); go_simp; (try rw [if_neg (by omega)]); (try with_reducible rfl))
              try simp only [List.getElem_toArray, List.getElem_cons_succ, List.getElem_cons_zero, Act.put, List.setIfInBounds_toArray, List.set_cons_zero, List.set_cons_succ]
              refine wpAnyH_take (i := 2) (oi := _) (v := ?_) (List.getElem?_toArray.trans (by simp only [List.getElem?_cons_succ, List.getElem?_cons_zero]; exact rfl)) (by kernel_rfl) (by kernel_rfl) (by kernel_rfl) (fun _ _ _ h => h) (Or.inl ⟨by rfl, ?_⟩) (by assumption) ?_
              rotate_left
              · (intro V hSV; (try dsimp only at hSV); (try obtain ⟨s0, s1, s2, s3, s4, s5, s6, s7, s8⟩ := hSV); go_simp; (try rw [if_neg (by omega)]); (try with_reducible rfl))
              try simp only [List.getElem_toArray, List.getElem_cons_succ, List.getElem_cons_zero, Act.put, List.setIfInBounds_toArray, List.set_cons_zero, List.set_cons_succ]
              refine wpAnyH_take (i := 3) (oi := _) (v := ?_) (List.getElem?_toArray.trans (by simp only [List.getElem?_cons_succ, List.getElem?_cons_zero]; exact rfl)) (by kernel_rfl) (by kernel_rfl) (by kernel_rfl) (fun _ _ _ h => h) (Or.inl ⟨by rfl, ?_⟩) (by assumption) ?_
              rotate_left
              · (intro V hSV; (try dsimp only at hSV); (try obtain ⟨s0, s1, s2, s3, s4, s5, s6, s7, s8⟩ := hSV); go_simp; (try rw [if_neg (by omega)]); (try with_reducible rfl))
              try simp only [List.getElem_toArray, List.getElem_cons_succ, List.getElem_cons_zero, Act.put, List.setIfInBounds_toArray, List.set_cons_zero, List.set_cons_succ]
              refine wpAnyH_take (i := 4) (oi := _) (v := ?_) (List.getElem?_toArray.trans (by simp only [List.getElem?_cons_succ, List.getElem?_cons_zero]; exact rfl)) (by kernel_rfl) (by kernel_rfl) (by kernel_rfl) (fun _ _ _ h => h) (Or.inl ⟨by rfl, ?_⟩) (by assumption) ?_
              rotate_left
              · (intro V hSV; (try dsimp only at hSV); (try obtain ⟨s0, s1, s2, s3, s4, s5, s6, s7, s8⟩ := hSV); go_simp; (try rw [if_neg (by omega)]); (try with_reducible rfl))
              try simp only [List.getElem_toArray, List.getElem_cons_succ, List.getElem_cons_zero, Act.put, List.setIfInBounds_toArray, List.set_cons_zero, List.set_cons_succ]
              refine wpAnyH_take (i := 5) (oi := _) (v := ?_) (List.getElem?_toArray.trans (by simp only [List.getElem?_cons_succ, List.getElem?_cons_zero]; exact rfl)) (by kernel_rfl) (by kernel_rfl) (by kernel_rfl) (fun _ _ _ h => h) (Or.inl ⟨by rfl, ?_⟩) (by assumption) ?_
              rotate_left
              · (intro V hSV; (try dsimp only at hSV); (try obtain ⟨s0, s1, s2, s3, s4, s5, s6, s7, s8⟩ := hSV); go_simp; (try rw [if_neg (by omega)]); (try with_reducible rfl))
              try simp only [List.getElem_toArray, List.getElem_cons_succ, List.getElem_cons_zero, Act.put, List.setIfInBounds_toArray, List.set_cons_zero, List.set_cons_succ]
              refine wpAnyH_take (i := 6) (oi := _) (v := ?_) (List.getElem?_toArray.trans (by simp only [List.getElem?_cons_succ, List.getElem?_cons_zero]; exact rfl)) (by kernel_rfl) (by kernel_rfl) (by kernel_rfl) (fun _ _ _ h => h) (Or.inl ⟨by rfl, ?_⟩) (by assumption) ?_
              rotate_left
              · (intro V hSV; (try dsimp only at hSV); (try obtain ⟨s0, s1, s2, s3, s4, s5, s6, s7, s8⟩ := hSV); go_simp; (try rw [if_neg (by omega)]); (try with_reducible rfl))
              try simp only [List.getElem_toArray, List.getElem_cons_succ, List.getElem_cons_zero, Act.put, List.setIfInBounds_toArray, List.set_cons_zero, List.set_cons_succ]
              refine wpAnyH_take (i := 7) (oi := _) (v := ?_) (List.getElem?_toArray.trans (by simp only [List.getElem?_cons_succ, List.getElem?_cons_zero]; exact rfl)) (by kernel_rfl) (by kernel_rfl) (by kernel_rfl) (fun _ _ _ h => h) (Or.inl ⟨by rfl, ?_⟩) (by assumption) ?_
              rotate_left
              · (intro V hSV; (try dsimp only at hSV); (try obtain ⟨s0, s1, s2, s3, s4, s5, s6, s7, s8⟩ := hSV); go_simp; (try rw [if_neg (by omega)]); (try with_reducible rfl))
              try simp only [List.getElem_toArray, List.getElem_cons_succ, List.getElem_cons_zero, Act.put, List.setIfInBounds_toArray, List.set_cons_zero, List.set_cons_succ]
              refine wpAnyH_take (i := 8) (oi := _) (v := ?_) (List.getElem?_toArray.trans (by simp only [List.getElem?_cons_succ, List.getElem?_cons_zero]; exact rfl)) (by kernel_rfl) (by kernel_rfl) (by kernel_rfl) (fun _ _ _ h => h) (Or.inl ⟨by rfl, ?_⟩) (by assumption) ?_
              rotate_left
              · (intro V hSV; (try dsimp only at hSV); (try obtain ⟨s0, s1, s2, s3, s4, s5, s6, s7, s8⟩ := hSV); go_simp; (try rw [if_neg (by omega)]); (try with_reducible rfl))
              try simp only [List.getElem_toArray, List.getElem_cons_succ, List.getElem_cons_zero, Act.put, List.setIfInBounds_toArray, List.set_cons_zero, List.set_cons_succ]
              refine wpAnyH_take (i := 9) (oi := _) (v := ?_) (List.getElem?_toArray.trans (by simp only [List.getElem?_cons_succ, List.getElem?_cons_zero]; exact rfl)) (by kernel_rfl) (by kernel_rfl) (by kernel_rfl) (fun _ _ _ h => h) (Or.inl ⟨by rfl, ?_⟩) (by assumption) ?_
              rotate_left
              · (intro V hSV; (try dsimp only at hSV); (try obtain ⟨s0, s1, s2, s3, s4, s5, s6, s7, s8⟩ := hSV); go_simp; (try rw [if_neg (by omega)]); (try with_reducible rfl))
              try simp only [List.getElem_toArray, List.getElem_cons_succ, List.getElem_cons_zero, Act.put, List.setIfInBounds_toArray, List.set_cons_zero, List.set_cons_succ]
              refine wpAnyH_take (i := 10) (oi := _) (v := ?_) (List.getElem?_toArray.trans (by simp only [List.getElem?_cons_succ, List.getElem?_cons_zero]; exact rfl)) (by kernel_rfl) (by kernel_rfl) (by kernel_rfl) (fun _ _ _ h => h) (Or.inl ⟨by rfl, ?_⟩) (by assumption) ?_
              rotate_left
              · (intro V hSV; (try dsimp only at hSV); (try obtain ⟨s0, s1, s2, s3, s4, s5, s6, s7, s8⟩ := hSV); go_simp; (try rw [if_neg (by omega)]); (try with_reducible rfl))
              try simp only [List.getElem_toArray, List.getElem_cons_succ, List.getElem_cons_zero, Act.put, List.setIfInBounds_toArray, List.set_cons_zero, List.set_cons_succ]
              refine wpAnyH_take (i := 11) (oi := _) (v := ?_) (List.getElem?_toArray.trans (by simp only [List.getElem?_cons_succ, List.getElem?_cons_zero]; exact rfl)) (by kernel_rfl) (by kernel_rfl) (by kernel_rfl) (fun _ _ _ h => h) (Or.inl ⟨by rfl, ?_⟩) (by assumption) ?_
              rotate_left
              · (intro V hSV; (try dsimp only at hSV); (try obtain ⟨s0, s1, s2, s3, s4, s5, s6, s7, s8⟩ := hSV); go_simp; (try rw [if_neg (by omega)]); (try with_reducible rfl))
              try simp only [List.getElem_toArray, List.getElem_cons_succ, List.getElem_cons_zero, Act.put, List.setIfInBounds_toArray, List.set_cons_zero, List.set_cons_succ]
              refine wpAnyH_take (i := 12) (oi := _) (v := ?_) (List.getElem?_toArray.trans (by simp only [List.getElem?_cons_succ, List.getElem?_cons_zero]; exact rfl)) (by kernel_rfl) (by kernel_rfl) (by kernel_rfl) (fun _ _ _ h => h) (Or.inl ⟨by rfl, ?_⟩) (by assumption) ?_
              rotate_left
              · (intro V hSV; (try dsimp only at hSV); (try obtain ⟨s0, s1, s2, s3, s4, s5, s6, s7, s8⟩ := hSV); go_simp; (try rw [if_neg (by omega)]); (try with_reducible rfl))
              try simp only [List.getElem_toArray, List.getElem_cons_succ, List.getElem_cons_zero, Act.put, List.setIfInBounds_toArray, List.set_cons_zero, List.set_cons_succ]
              refine wpAnyH_take (i := 13) (oi := _) (v := ?_) (List.getElem?_toArray.trans (by simp only [List.getElem?_cons_succ, List.getElem?_cons_zero]; exact rfl)) (by kernel_rfl) (by kernel_rfl) (by kernel_rfl) (fun _ _ _ h => h) (Or.inl ⟨by rfl, ?_⟩) (by assumption) ?_
              rotate_left
              · (intro V hSV; (try dsimp only at hSV); (try obtain ⟨s0, s1, s2, s3, s4, s5, s6, s7, s8⟩ := hSV); go_simp; (try rw [if_neg (by omega)]); (try with_reducible rfl))
              try simp only [List.getElem_toArray, List.getElem_cons_succ, List.getElem_cons_zero, Act.put, List.setIfInBounds_toArray, List.set_cons_zero, List.set_cons_succ]
              refine wpAnyH_take (i := 14) (oi := _) (v := ?_) (List.getElem?_toArray.trans (by simp only [List.getElem?_cons_succ, List.getElem?_cons_zero]; exact rfl)) (by kernel_rfl) (by kernel_rfl) (by kernel_rfl) (fun _ _ _ h => h) (Or.inl ⟨by rfl, ?_⟩) (by assumption) ?_
              rotate_left
              · (intro V hSV; (try dsimp only at hSV); (try obtain ⟨s0, s1, s2, s3, s4, s5, s6, s7, s8⟩ := hSV); go_simp; (try rw [if_neg (by omega)]); (try with_reducible rfl))
              try simp only [List.getElem_toArray, List.getElem_cons_succ, List.getElem_cons_zero, Act.put, List.setIfInBounds_toArray, List.set_cons_zero, List.set_cons_succ]
              refine wpAnyH_take (i := 15) (oi := _) (v := ?_) (List.getElem?_toArray.trans (by simp only [List.getElem?_cons_succ, List.getElem?_cons_zero]; exact rfl)) (by kernel_rfl) (by kernel_rfl) (by kernel_rfl) (fun _ _ _ h => h) (Or.inl ⟨by rfl, ?_⟩) (by assumption) ?_
              rotate_left
              · (intro V hSV; (try dsimp only at hSV); (try obtain ⟨s0, s1, s2, s3, s4, s5, s6, s7, s8⟩ := hSV); go_simp; (try rw [if_neg (by omega)]); (try with_reducible rfl))
              try simp only [List.getElem_toArray, List.getElem_cons_succ, List.getElem_cons_zero, Act.put, List.setIfInBounds_toArray, List.set_cons_zero, List.set_cons_succ]
              refine wpAnyH_take (i := 16) (oi := _) (v := ?_) (List.getElem?_toArray.trans (by simp only [List.getElem?_cons_succ, List.getElem?_cons_zero]; exact rfl)) (by kernel_rfl) (by kernel_rfl) (by kernel_rfl) (fun _ _ _ h => h) (Or.inl ⟨by rfl, ?_⟩) (by assumption) ?_
              rotate_left
              · (intro V hSV; (try dsimp only at hSV); (try obtain ⟨s0, s1, s2, s3, s4, s5, s6, s7, s8⟩ := hSV); go_simp; (try rw [if_neg (by omega)]); (try with_reducible rfl))
              try simp only [List.getElem_toArray, List.getElem_cons_succ, List.getElem_cons_zero, Act.put, List.setIfInBounds_toArray, List.set_cons_zero, List.set_cons_succ]
              refine wpAnyH_take (i := 17) (oi := _) (v := ?_) (List.getElem?_toArray.trans (by simp only [List.getElem?_cons_succ, List.getElem?_cons_zero]; exact rfl)) (by kernel_rfl) (by kernel_rfl) (by kernel_rfl) (fun _ _ _ h => h) (Or.inl ⟨by rfl, ?_⟩) (by assumption) ?_
              rotate_left
              · (intro V hSV; (try dsimp only at hSV); (try obtain ⟨s0, s1, s2, s3, s4, s5, s6, s7, s8⟩ := hSV); go_simp; (try rw [if_neg (by omega)]); (try with_reducible rfl))
              try simp only [List.getElem_toArray, List.getElem_cons_succ, List.getElem_cons_zero, Act.put, List.setIfInBounds_toArray, List.set_cons_zero, List.set_cons_succ]
              refine wpAnyH_take (i := 18) (oi := _) (v := ?_) (List.getElem?_toArray.trans (by simp only [List.getElem?_cons_succ, List.getElem?_cons_zero]; exact rfl)) (by kernel_rfl) (by kernel_rfl) (by kernel_rfl) (fun _ _ _ h => h) (Or.inl ⟨by rfl, ?_⟩) (by assumption) ?_
              rotate_left
              · (intro V hSV; (try dsimp only at hSV); (try obtain ⟨s0, s1, s2, s3, s4, s5, s6, s7, s8⟩ := hSV); go_simp; (try rw [if_neg (by omega)]); (try with_reducible rfl))
              try simp only [List.getElem_toArray, List.getElem_cons_succ, List.getElem_cons_zero, Act.put, List.setIfInBounds_toArray, List.set_cons_zero, List.set_cons_succ]
              refine wpAnyH_take (i := 19) (oi := _) (v := ?_) (List.getElem?_toArray.trans (by simp only [List.getElem?_cons_succ, List.getElem?_cons_zero]; exact rfl)) (by kernel_rfl) (by kernel_rfl) (by kernel_rfl) (fun _ _ _ h => h) (Or.inl ⟨by rfl, ?_⟩) (by assumption) ?_
              rotate_left
              · (intro V hSV; (try dsimp only at hSV); (try obtain ⟨s0, s1, s2, s3, s4, s5, s6, s7, s8⟩ := hSV); go_simp; (try rw [if_neg (by omega)]); (try with_reducible rfl))
              try simp only [List.getElem_toArray, List.getElem_cons_succ, List.getElem_cons_zero, Act.put, List.setIfInBounds_toArray, List.set_cons_zero, List.set_cons_succ]
              refine wpAnyH_take (i := 20) (oi := _) (v := ?_) (List.getElem?_toArray.trans (by simp only [List.getElem?_cons_succ, List.getElem?_cons_zero]; exact rfl)) (by kernel_rfl) (by kernel_rfl) (by kernel_rfl) (fun _ _ _ h => h) (Or.inl ⟨by rfl, ?_⟩) (by assumption) ?_
              rotate_left
              · (intro V hSV; (try dsimp only at hSV); (try obtain ⟨s0, s1, s2, s3, s4, s5, s6, s7, s8⟩ := hSV); go_simp; (try rw [if_neg (by omega)]); (try with_reducible rfl))
              try simp only [List.getElem_toArray, List.getElem_cons_succ, List.getElem_cons_zero, Act.put, List.setIfInBounds_toArray, List.set_cons_zero, List.set_cons_succ]
              refine wpAnyH_take (i := 21) (oi := _) (v := ?_) (List.getElem?_toArray.trans (by simp only [List.getElem?_cons_succ, List.getElem?_cons_zero]; exact rfl)) (by kernel_rfl) (by kernel_rfl) (by kernel_rfl) (fun _ _ _ h => h) (Or.inl ⟨by rfl, ?_⟩) (by assumption) ?_
              rotate_left
              · (intro V hSV; (try dsimp only at hSV); (try obtain ⟨s0, s1, s2, s3, s4, s5, s6, s7, s8⟩ := hSV); go_simp; (try rw [if_neg (by omega)]); (try with_reducible rfl))
              try simp only [List.getElem_toArray, List.getElem_cons_succ, List.getElem_cons_zero, Act.put, List.setIfInBounds_toArray, List.set_cons_zero, List.set_cons_succ]
              refine wpAnyH_take (i := 22) (oi := _) (v := ?_) (List.getElem?_toArray.trans (by simp only [List.getElem?_cons_succ, List.getElem?_cons_zero]; exact rfl)) (by kernel_rfl) (by kernel_rfl) (by kernel_rfl) (fun _ _ _ h => h) (Or.inl ⟨by rfl, ?_⟩) (by assumption) ?_
              rotate_left
              · (intro V hSV; (try dsimp only at hSV); (try obtain ⟨s0, s1, s2, s3, s4, s5, s6, s7, s8⟩ := hSV); go_simp; (try rw [if_neg (by omega)]); (try with_reducible rfl))
              try simp only [List.getElem_toArray, List.getElem_cons_succ, List.getElem_cons_zero, Act.put, List.setIfInBounds_toArray, List.set_cons_zero, List.set_cons_succ]
              refine wpAnyH_take (i := 23) (oi := _) (v := ?_) (List.getElem?_toArray.trans (by simp only [List.getElem?_cons_succ, List.getElem?_cons_zero]; exact rfl)) (by kernel_rfl) (by kernel_rfl) (by kernel_rfl) (fun _ _ _ h => h) (Or.inl ⟨by rfl, ?_⟩) (by assumption) ?_
              rotate_left
              · (intro V hSV; (try dsimp only at hSV); (try obtain ⟨s0, s1, s2, s3, s4, s5, s6, s7, s8⟩ := hSV); go_simp; (try rw [if_neg (by omega)]); (try with_reducible rfl))
              try simp only [List.getElem_toArray, List.getElem_cons_succ, List.getElem_cons_zero, Act.put, List.setIfInBounds_toArray, List.set_cons_zero, List.set_cons_succ]
              refine wpAnyH_take (i := 24) (oi := _) (v := ?_) (List.getElem?_toArray.trans (by simp only [List.getElem?_cons_succ, List.getElem?_cons_zero]; exact rfl)) (by kernel_rfl) (by kernel_rfl) (by kernel_rfl) (fun _ _ _ h => h) (Or.inl ⟨by rfl, ?_⟩) (by assumption) ?_
              rotate_left
              · (intro V hSV; (try dsimp only at hSV); (try obtain ⟨s0, s1, s2, s3, s4, s5, s6, s7, s8⟩ := hSV); go_simp; (try rw [if_neg (by omega)]); (try with_reducible rfl))
              try simp only [List.getElem_toArray, List.getElem_cons_succ, List.getElem_cons_zero, Act.put, List.setIfInBounds_toArray, List.set_cons_zero, List.set_cons_succ]
              refine wpAnyH_take (i := 25) (oi := _) (v := ?_) (List.getElem?_toArray.trans (by simp only [List.getElem?_cons_succ, List.getElem?_cons_zero]; exact rfl)) (by kernel_rfl) (by kernel_rfl) (by kernel_rfl) (fun _ _ _ h => h) (Or.inl ⟨by rfl, ?_⟩) (by assumption) ?_
              rotate_left
              · (intro V hSV; (try dsimp only at hSV); (try obtain ⟨s0, s1, s2, s3, s4, s5, s6, s7, s8⟩ := hSV); go_simp; (try rw [if_neg (by omega)]); (try with_reducible rfl))
              try simp only [List.getElem_toArray, List.getElem_cons_succ, List.getElem_cons_zero, Act.put, List.setIfInBounds_toArray, List.set_cons_zero, List.set_cons_succ]
              refine wpAnyH_take (i := 26) (oi := _) (v := ?_) (List.getElem?_toArray.trans (by simp only [List.getElem?_cons_succ, List.getElem?_cons_zero]; exact rfl)) (by kernel_rfl) (by kernel_rfl) (by kernel_rfl) (fun _ _ _ h => h) (Or.inl ⟨by rfl, ?_⟩) (by assumption) ?_
              rotate_left
              · (intro V hSV; (try dsimp only at hSV); (try obtain ⟨s0, s1, s2, s3, s4, s5, s6, s7, s8⟩ := hSV); go_simp; (try rw [if_neg (by omega)]); (try with_reducible rfl))
              try simp only [List.getElem_toArray, List.getElem_cons_succ, List.getElem_cons_zero, Act.put, List.setIfInBounds_toArray, List.set_cons_zero, List.set_cons_succ]
              refine wpAnyH_take (i := 27) (oi := _) (v := ?_) (List.getElem?_toArray.trans (by simp only [List.getElem?_cons_succ, List.getElem?_cons_zero]; exact rfl)) (by kernel_rfl) (by kernel_rfl) (by kernel_rfl) (fun _ _ _ h => h) (Or.inl ⟨by rfl, ?_⟩) (by assumption) ?_
              rotate_left
              · (intro V hSV; (try dsimp only at hSV); (try obtain ⟨s0, s1, s2, s3, s4, s5, s6, s7, s8⟩ := hSV); go_simp; (try rw [if_neg (by omega)]); (try with_reducible rfl))
              try simp only [List.getElem_toArray, List.getElem_cons_succ, List.getElem_cons_zero, Act.put, List.setIfInBounds_toArray, List.set_cons_zero, List.set_cons_succ]
              refine wpAnyH_ready (rs := [28]) (by kernel_rfl) (by simp) ?_
              refine AllReadyH.cons rfl (fun K hK => ?_) AllReadyH.nil
              go_simp
              refine (UN.out _).mono ?_
              rintro e wa ⟨tva, rfl, hisa, hba⟩
              refine hK.out _ _ (⟨cell_keep1 hba hS.1, cell_keep1 hba hS.2.1, cell_keep1 hba hS.2.2.1, cell_keep1 hba hS.2.2.2.1, cell_keep1 hba hS.2.2.2.2.1, cell_keep1 hba hS.2.2.2.2.2.1, cell_keep1 hba hS.2.2.2.2.2.2.1, cell_keep1 hba hS.2.2.2.2.2.2.2.1, cell_keep1 hba hS.2.2.2.2.2.2.2.2⟩) (fun hS => ?_)
              clear hK K
              have qa := ((Below.refl W9.heap.size W9).drew).trans hba
              have isa1 := HU9.out.below qa (Nat.le_refl _)
              have isa2 : Is wa tva (iN U) := hisa.is (fun b x => x.2)
              obtain ⟨taa, tac, rfl⟩ := hisa.slice
              have SMa := Lib.hid (same_any _ _ (iN U) (iN U) true wa isa1 isa2 (by rw [iN_len]; have := HUl.out; omega) (by rw [iN_len]; have := HUl.out; omega) (by simp))
              have QA := Lib.hid qa
              clear hisa hba qa isa1 isa2
              refine wpAnyH_ready (rs := [29]) (by kernel_rfl) (by simp) ?_
              refine AllReadyH.cons rfl (fun K hK => ?_) AllReadyH.nil
              go_simp
              refine SMa.out.mono ?_
              rintro e wb ⟨rfl, hbb⟩
              refine hK.out _ _ (⟨cell_keep1 hbb hS.1, cell_keep1 hbb hS.2.1, cell_keep1 hbb hS.2.2.1, cell_keep1 hbb hS.2.2.2.1, cell_keep1 hbb hS.2.2.2.2.1, cell_keep1 hbb hS.2.2.2.2.2.1, cell_keep1 hbb hS.2.2.2.2.2.2.1, cell_keep1 hbb hS.2.2.2.2.2.2.2.1, cell_keep1 hbb hS.2.2.2.2.2.2.2.2⟩) (fun hS => ?_)
              clear hK K
              have QB := Lib.hid (QA.out.trans (hbb.mono QA.out.size))
              clear hbb
              refine wpAnyH_take (i := 30) (oi := _) (v := ?_) (List.getElem?_toArray.trans (by simp only [List.getElem?_cons_succ, List.getElem?_cons_zero]; exact rfl)) (by kernel_rfl) (by kernel_rfl) (by kernel_rfl) (fun _ _ _ h => h) (Or.inl ⟨by rfl, ?_⟩) (by assumption) ?_
              rotate_left
              · (intro V hSV; (try dsimp only at hSV); (try obtain ⟨s0, s1, s2, s3, s4, s5, s6, s7, s8⟩ := hSV); go_simp; (try rw [if_neg (by omega)]); (try with_reducible rfl))
              try simp only [List.getElem_toArray, List.getElem_cons_succ, List.getElem_cons_zero, Act.put, List.setIfInBounds_toArray, List.set_cons_zero, List.set_cons_succ]
              refine wpAnyH_take (i := 31) (oi := _) (v := ?_) (List.getElem?_toArray.trans (by simp only [List.getElem?_cons_succ, List.getElem?_cons_zero]; exact rfl)) (by kernel_rfl) (by kernel_rfl) (by kernel_rfl) (fun _ _ _ h => h) (Or.inl ⟨by rfl, ?_⟩) (by assumption) ?_
              rotate_left
              · (intro V hSV; (try dsimp only at hSV); (try obtain ⟨s0, s1, s2, s3, s4, s5, s6, s7, s8⟩ := hSV); go_simp; (try rw [if_neg (by omega)]); (try with_reducible rfl))
              try simp only [List.getElem_toArray, List.getElem_cons_succ, List.getElem_cons_zero, Act.put, List.setIfInBounds_toArray, List.set_cons_zero, List.set_cons_succ]
              refine wpAnyH_take (i := 32) (oi := _) (v := ?_) (List.getElem?_toArray.trans (by simp only [List.getElem?_cons_succ, List.getElem?_cons_zero]; exact rfl)) (by kernel_rfl) (by kernel_rfl) (by kernel_rfl) (fun _ _ _ h => h) (Or.inl ⟨by rfl, ?_⟩) (by assumption) ?_
              rotate_left
              · (intro V hSV; (try dsimp only at hSV); (try obtain ⟨s0, s1, s2, s3, s4, s5, s6, s7, s8⟩ := hSV); go_simp; (try rw [if_neg (by omega)]); (try with_reducible rfl))
              try simp only [List.getElem_toArray, List.getElem_cons_succ, List.getElem_cons_zero, Act.put, List.setIfInBounds_toArray, List.set_cons_zero, List.set_cons_succ]
              refine wpAnyH_take (i := 33) (oi := _) (v := ?_) (List.getElem?_toArray.trans (by simp only [List.getElem?_cons_succ, List.getElem?_cons_zero]; exact rfl)) (by kernel_rfl) (by kernel_rfl) (by kernel_rfl) (fun _ _ _ h => h) (Or.inl ⟨by rfl, ?_⟩) (by assumption) ?_
              rotate_left
              · (intro V hSV; (try dsimp only at hSV); (try obtain ⟨s0, s1, s2, s3, s4, s5, s6, s7, s8⟩ := hSV); go_simp; (try rw [if_neg (by omega)]); (try with_reducible rfl))
              try simp only [List.getElem_toArray, List.getElem_cons_succ, List.getElem_cons_zero, Act.put, List.setIfInBounds_toArray, List.set_cons_zero, List.set_cons_succ]
              refine wpAnyH_take (i := 34) (oi := _) (v := ?_) (List.getElem?_toArray.trans (by simp only [List.getElem?_cons_succ, List.getElem?_cons_zero]; exact rfl)) (by kernel_rfl) (by kernel_rfl) (by kernel_rfl) (fun _ _ _ h => h) (Or.inl ⟨by rfl, ?_⟩) (by assumption) ?_
              rotate_left
              · (intro V hSV; (try dsimp only at hSV); (try obtain ⟨s0, s1, s2, s3, s4, s5, s6, s7, s8⟩ := hSV); go_simp; (try rw [if_neg (by omega)]); (try with_reducible rfl))
              try simp only [List.getElem_toArray, List.getElem_cons_succ, List.getElem_cons_zero, Act.put, List.setIfInBounds_toArray, List.set_cons_zero, List.set_cons_succ]
              refine wpAnyH_take (i := 35) (oi := _) (v := ?_) (List.getElem?_toArray.trans (by simp only [List.getElem?_cons_succ, List.getElem?_cons_zero]; exact rfl)) (by kernel_rfl) (by kernel_rfl) (by kernel_rfl) (fun _ _ _ h => h) (Or.inl ⟨by rfl, ?_⟩) (by assumption) ?_
              rotate_left
              · (intro V hSV; (try dsimp only at hSV); (try obtain ⟨s0, s1, s2, s3, s4, s5, s6, s7, s8⟩ := hSV); go_simp; (try rw [if_neg (by omega)]); (try with_reducible rfl))
              try simp only [List.getElem_toArray, List.getElem_cons_succ, List.getElem_cons_zero, Act.put, List.setIfInBounds_toArray, List.set_cons_zero, List.set_cons_succ]
              refine wpAnyH_take (i := 36) (oi := _) (v := ?_) (List.getElem?_toArray.trans (by simp only [List.getElem?_cons_succ, List.getElem?_cons_zero]; exact rfl)) (by kernel_rfl) (by kernel_rfl) (by kernel_rfl) (fun _ _ _ h => h) (Or.inl ⟨by rfl, ?_⟩) (by assumption) ?_
              rotate_left
              · (intro V hSV; (try dsimp only at hSV); (try obtain ⟨s0, s1, s2, s3, s4, s5, s6, s7, s8⟩ := hSV); go_simp; (try rw [if_neg (by omega)]); (try with_reducible rfl))
              try simp only [List.getElem_toArray, List.getElem_cons_succ, List.getElem_cons_zero, Act.put, List.setIfInBounds_toArray, List.set_cons_zero, List.set_cons_succ]
              refine wpAnyH_take (i := 37) (oi := _) (v := ?_) (List.getElem?_toArray.trans (by simp only [List.getElem?_cons_succ, List.getElem?_cons_zero]; exact rfl)) (by kernel_rfl) (by kernel_rfl) (by kernel_rfl) (fun _ _ _ h => h) (Or.inl ⟨by rfl, ?_⟩) (by assumption) ?_
              rotate_left
              · (intro V hSV; (try dsimp only at hSV); (try obtain ⟨s0, s1, s2, s3, s4, s5, s6, s7, s8⟩ := hSV); go_simp; (try rw [if_neg (by omega)]); (try with_reducible rfl))
              try simp only [List.getElem_toArray, List.getElem_cons_succ, List.getElem_cons_zero, Act.put, List.setIfInBounds_toArray, List.set_cons_zero, List.set_cons_succ]
              refine wpAnyH_take (i := 38) (oi := _) (v := ?_) (List.getElem?_toArray.trans (by simp only [List.getElem?_cons_succ, List.getElem?_cons_zero]; exact rfl)) (by kernel_rfl) (by kernel_rfl) (by kernel_rfl) (fun _ _ _ h => h) (Or.inl ⟨by rfl, ?_⟩) (by assumption) ?_
              rotate_left
              · (intro V hSV; (try dsimp only at hSV); (try obtain ⟨s0, s1, s2, s3, s4, s5, s6, s7, s8⟩ := hSV); go_simp; (try rw [if_neg (by omega)]); (try with_reducible rfl))
              try simp only [List.getElem_toArray, List.getElem_cons_succ, List.getElem_cons_zero, Act.put, List.setIfInBounds_toArray, List.set_cons_zero, List.set_cons_succ]
              refine wpAnyH_take (i := 39) (oi := _) (v := ?_) (List.getElem?_toArray.trans (by simp only [List.getElem?_cons_succ, List.getElem?_cons_zero]; exact rfl)) (by kernel_rfl) (by kernel_rfl) (by kernel_rfl) (fun _ _ _ h => h) (Or.inl ⟨by rfl, ?_⟩) (by assumption) ?_
              rotate_left
              · (intro V hSV; (try dsimp only at hSV); (try obtain ⟨s0, s1, s2, s3, s4, s5, s6, s7, s8⟩ := hSV); go_simp; (try rw [if_neg (by omega)]); (try with_reducible rfl))
              try simp only [List.getElem_toArray, List.getElem_cons_succ, List.getElem_cons_zero, Act.put, List.setIfInBounds_toArray, List.set_cons_zero, List.set_cons_succ]
              refine wpAnyH_take (i := 40) (oi := _) (v := ?_) (List.getElem?_toArray.trans (by simp only [List.getElem?_cons_succ, List.getElem?_cons_zero]; exact rfl)) (by kernel_rfl) (by kernel_rfl) (by kernel_rfl) (fun _ _ _ h => h) (Or.inl ⟨by rfl, ?_⟩) (by assumption) ?_
              rotate_left
              · (intro V hSV; (try dsimp only at hSV); (try obtain ⟨s0, s1, s2, s3, s4, s5, s6, s7, s8⟩ := hSV); go_simp; (try rw [if_neg (by omega)]); (try with_reducible rfl))
              try simp only [List.getElem_toArray, List.getElem_cons_succ, List.getElem_cons_zero, Act.put, List.setIfInBounds_toArray, List.set_cons_zero, List.set_cons_succ]
              refine wpAnyH_take (i := 41) (oi := _) (v := ?_) (List.getElem?_toArray.trans (by simp only [List.getElem?_cons_succ, List.getElem?_cons_zero]; exact rfl)) (by kernel_rfl) (by kernel_rfl) (by kernel_rfl) (fun _ _ _ h => h) (Or.inl ⟨by rfl, ?_⟩) (by assumption) ?_
              rotate_left
              · (intro V hSV; (try dsimp only at hSV); (try obtain ⟨s0, s1, s2, s3, s4, s5, s6, s7, s8⟩ := hSV); go_simp; (try rw [if_neg (by omega)]); (try with_reducible rfl))
              try simp only [List.getElem_toArray, List.getElem_cons_succ, List.getElem_cons_zero, Act.put, List.setIfInBounds_toArray, List.set_cons_zero, List.set_cons_succ]
              refine wpAnyH_take (i := 42) (oi := _) (v := ?_) (List.getElem?_toArray.trans (by simp only [List.getElem?_cons_succ, List.getElem?_cons_zero]; exact rfl)) (by kernel_rfl) (by kernel_rfl) (by kernel_rfl) (fun _ _ _ h => h) (Or.inl ⟨by rfl, ?_⟩) (by assumption) ?_
              rotate_left
              · (intro V hSV; (try dsimp only at hSV); (try obtain ⟨s0, s1, s2, s3, s4, s5, s6, s7, s8⟩ := hSV); go_simp; (try rw [if_neg (by omega)]); (try with_reducible rfl))
              try simp only [List.getElem_toArray, List.getElem_cons_succ, List.getElem_cons_zero, Act.put, List.setIfInBounds_toArray, List.set_cons_zero, List.set_cons_succ]
              refine wpAnyH_take (i := 43) (oi := _) (v := ?_) (List.getElem?_toArray.trans (by simp only [List.getElem?_cons_succ, List.getElem?_cons_zero]; exact rfl)) (by kernel_rfl) (by kernel_rfl) (by kernel_rfl) (fun _ _ _ h => h) (Or.inl ⟨by rfl, ?_⟩) (by assumption) ?_
              rotate_left
              · (intro V hSV; (try dsimp only at hSV); (try obtain ⟨s0, s1, s2, s3, s4, s5, s6, s7, s8⟩ := hSV); go_simp; (try rw [if_neg (by omega)]); (try with_reducible rfl))
              try simp only [List.getElem_toArray, List.getElem_cons_succ, List.getElem_cons_zero, Act.put, List.setIfInBounds_toArray, List.set_cons_zero, List.set_cons_succ]
              refine wpAnyH_take (i := 44) (oi := _) (v := ?_) (List.getElem?_toArray.trans (by simp only [List.getElem?_cons_succ, List.getElem?_cons_zero]; exact rfl)) (by kernel_rfl) (by kernel_rfl) (by kernel_rfl) (fun _ _ _ h => h) (Or.inl ⟨by rfl, ?_⟩) (by assumption) ?_
              rotate_left
              · (intro V hSV; (try dsimp only at hSV); (try obtain ⟨s0, s1, s2, s3, s4, s5, s6, s7, s8⟩ := hSV); go_simp; (try rw [if_neg (by omega)]); (try with_reducible rfl))
              try simp only [List.getElem_toArray, List.getElem_cons_succ, List.getElem_cons_zero, Act.put, List.setIfInBounds_toArray, List.set_cons_zero, List.set_cons_succ]
              refine wpAnyH_take (i := 45) (oi := _) (v := ?_) (List.getElem?_toArray.trans (by simp only [List.getElem?_cons_succ, List.getElem?_cons_zero]; exact rfl)) (by kernel_rfl) (by kernel_rfl) (by kernel_rfl) (fun _ _ _ h => h) (Or.inl ⟨by rfl, ?_⟩) (by assumption) ?_
              rotate_left
              · (intro V hSV; (try dsimp only at hSV); (try obtain ⟨s0, s1, s2, s3, s4, s5, s6, s7, s8⟩ := hSV); go_simp; (try rw [if_neg (by omega)]); (try with_reducible rfl))
              try simp only [List.getElem_toArray, List.getElem_cons_succ, List.getElem_cons_zero, Act.put, List.setIfInBounds_toArray, List.set_cons_zero, List.set_cons_succ]
              refine wpAnyH_take (i := 46) (oi := _) (v := ?_) (List.getElem?_toArray.trans (by simp only [List.getElem?_cons_succ, List.getElem?_cons_zero]; exact rfl)) (by kernel_rfl) (by kernel_rfl) (by kernel_rfl) (fun _ _ _ h => h) (Or.inl ⟨by rfl, ?_⟩) (by assumption) ?_
              rotate_left
              · (intro V hSV; (try dsimp only at hSV); (try obtain ⟨s0, s1, s2, s3, s4, s5, s6, s7, s8⟩ := hSV); go_simp; (try rw [if_neg (by omega)]); (try with_reducible rfl))
              try simp only [List.getElem_toArray, List.getElem_cons_succ, List.getElem_cons_zero, Act.put, List.setIfInBounds_toArray, List.set_cons_zero, List.set_cons_succ]
              refine wpAnyH_take (i := 47) (oi := _) (v := ?_) (List.getElem?_toArray.trans (by simp only [List.getElem?_cons_succ, List.getElem?_cons_zero]; exact rfl)) (by kernel_rfl) (by kernel_rfl) (by kernel_rfl) (fun _ _ _ h => h) (Or.inl ⟨by rfl, ?_⟩) (by assumption) ?_
              rotate_left
              · (intro V hSV; (try dsimp only at hSV); (try obtain ⟨s0, s1, s2, s3, s4, s5, s6, s7, s8⟩ := hSV); go_simp; (try rw [if_neg (by omega)]); (try with_reducible rfl))
              try simp only [List.getElem_toArray, List.getElem_cons_succ, List.getElem_cons_zero, Act.put, List.setIfInBounds_toArray, List.set_cons_zero, List.set_cons_succ]
              refine wpAnyH_ready (rs := [48]) (by kernel_rfl) (by simp) ?_
              refine AllReadyH.cons rfl (fun K hK => ?_) AllReadyH.nil
              go_simp
              refine (UM.out _).mono ?_
              rintro e wc ⟨tvc, rfl, hisc, hbc⟩
              refine hK.out _ _ (⟨cell_keep1 hbc hS.1, cell_keep1 hbc hS.2.1, cell_keep1 hbc hS.2.2.1, cell_keep1 hbc hS.2.2.2.1, cell_keep1 hbc hS.2.2.2.2.1, cell_keep1 hbc hS.2.2.2.2.2.1, cell_keep1 hbc hS.2.2.2.2.2.2.1, cell_keep1 hbc hS.2.2.2.2.2.2.2.1, cell_keep1 hbc hS.2.2.2.2.2.2.2.2⟩) (fun hS => ?_)
              clear hK K
              have qc := (QB.out).trans (hbc.mono (QB.out).size)
              have isc1 := HV9.out.below qc (Nat.le_refl _)
              have isc2 : Is wc tvc (iN V) := hisc.is (fun b x => x.2)
              obtain ⟨tca, tcc, rfl⟩ := hisc.slice
              have SMc := Lib.hid (same_any _ _ (iN V) (iN V) true wc isc1 isc2 (by rw [iN_len]; have := HVl.out; omega) (by rw [iN_len]; have := HVl.out; omega) (by simp))
              have QC := Lib.hid qc
              clear hisc hbc qc isc1 isc2
              refine wpAnyH_ready (rs := [49]) (by kernel_rfl) (by simp) ?_
              refine AllReadyH.cons rfl (fun K hK => ?_) AllReadyH.nil
              go_simp
              refine SMc.out.mono ?_
              rintro e wd ⟨rfl, hbd⟩
              refine hK.out _ _ (⟨cell_keep1 hbd hS.1, cell_keep1 hbd hS.2.1, cell_keep1 hbd hS.2.2.1, cell_keep1 hbd hS.2.2.2.1, cell_keep1 hbd hS.2.2.2.2.1, cell_keep1 hbd hS.2.2.2.2.2.1, cell_keep1 hbd hS.2.2.2.2.2.2.1, cell_keep1 hbd hS.2.2.2.2.2.2.2.1, cell_keep1 hbd hS.2.2.2.2.2.2.2.2⟩) (fun hS => ?_)
              clear hK K
              refine wpAnyH_take (i := 50) (oi := _) (v := ?_) (List.getElem?_toArray.trans (by simp only [List.getElem?_cons_succ, List.getElem?_cons_zero]; exact rfl)) (by kernel_rfl) (by kernel_rfl) (by kernel_rfl) (fun _ _ _ h => h) (Or.inl ⟨by rfl, ?_⟩) (by assumption) ?_
              rotate_left
              · (intro V hSV; (try dsimp only at hSV); (try obtain ⟨s0, s1, s2, s3, s4, s5, s6, s7, s8⟩ := hSV); go_simp; (try rw [if_neg (by omega)]); (try with_reducible rfl))
              try simp only [List.getElem_toArray, List.getElem_cons_succ, List.getElem_cons_zero, Act.put, List.setIfInBounds_toArray, List.set_cons_zero, List.set_cons_succ]
              refine wpAnyH_take (i := 51) (oi := _) (v := ?_) (List.getElem?_toArray.trans (by simp only [List.getElem?_cons_succ, List.getElem?_cons_zero]; exact rfl)) (by kernel_rfl) (by kernel_rfl) (by kernel_rfl) (fun _ _ _ h => h) (Or.inl ⟨by rfl, ?_⟩) (by assumption) ?_
              rotate_left
              · (intro V hSV; (try dsimp only at hSV); (try obtain ⟨s0, s1, s2, s3, s4, s5, s6, s7, s8⟩ := hSV); go_simp; (try rw [if_neg (by omega)]); (try with_reducible rfl))
              try simp only [List.getElem_toArray, List.getElem_cons_succ, List.getElem_cons_zero, Act.put, List.setIfInBounds_toArray, List.set_cons_zero, List.set_cons_succ]
              refine wpAnyH_done (by kernel_rfl) ?_ _
              refine NoPanic.normal ?_
              have bd := BW9.out.trans ((QC.out.trans (hbd.mono QC.out.size)).mono BW9.out.size)
              go_wp2
              go_ret
              exact ⟨rfl, bd⟩

          | false =>
              refine wp_region_noPanic ?_
              refine wp_region_held_drew (S := fun Z : World => Z.cell? ⟨qv, 5, none⟩ = some (.slice (some ⟨ib, ioff, none⟩) 8 vc) ∧ Z.cell? ⟨ib, ioff + 9 + 2, none⟩ = some (.bool false) ∧ Z.cell? ⟨ib, ioff + 9 + 3, none⟩ = some (.string ⟨#[51]⟩) ∧ Z.cell? ⟨ib, ioff + 9 + 4, none⟩ = some (.string ⟨#[48]⟩) ∧ Z.cell? ⟨ib, ioff + 45 + 5, none⟩ = some (.slice fa 0 fc) ∧ Z.cell? ⟨ib, ioff + 63 + 1, none⟩ = some (.slice ga vn gc) ∧ Z.cell? ⟨sb, so + 1, none⟩ = some (.slice ua un uc) ∧ Z.cell? ⟨nb, 0, none⟩ = some (.int .i64 2) ∧ Z.cell? ⟨nb, 5, none⟩ = some (.slice (some ⟨sb, so, none⟩) 1 sc)) (by kernel_rfl) ⟨S0, S1, S2, S3, S4, S5, S6, q0, q5⟩ (fun hS => ?_)
              refine wpAnyH_take (i := 0) (oi := _) (v := ?_) (List.getElem?_toArray.trans (by simp only [List.getElem?_cons_succ, List.getElem?_cons_zero]; exact rfl)) (by kernel_rfl) (by kernel_rfl) (by kernel_rfl) (fun _ _ _ h => h) (Or.inl ⟨by rfl, ?_⟩) (by assumption) ?_
              rotate_left
              · (intro V hSV; (try dsimp only at hSV); (try obtain ⟨s0, s1, s2, s3, s4, s5, s6, s7, s8⟩ := hSV); go_simp; (try rw [if_neg (by omega)]); (try with_reducible rfl))
              try simp only [List.getElem_toArray, List.getElem_cons_succ, List.getElem_cons_zero, Act.put, List.setIfInBounds_toArray, List.set_cons_zero, List.set_cons_succ]
              refine wpAnyH_take (i := 1) (oi := _) (v := ?_) (List.getElem?_toArray.trans (by simp only [List.getElem?_cons_succ, List.getElem?_cons_zero]; exact rfl)) (by kernel_rfl) (by kernel_rfl) (by kernel_rfl) (fun _ _ _ h => h) (Or.inl ⟨by rfl, ?_⟩) (by assumption) ?_
              rotate_left
              · (intro V hSV; (try dsimp only at hSV); (try obtain ⟨s0, s1, s2, s3, s4, s5, s6, s7, s8⟩ := hSV); go_simp; (try rw [if_neg (by omega)]); (try with_reducible rfl))
              try simp only [List.getElem_toArray, List.getElem_cons_succ, List.getElem_cons_zero, Act.put, List.setIfInBounds_toArray, List.set_cons_zero, List.set_cons_succ]
              refine wpAnyH_take (i := 2) (oi := _) (v := ?_) (List.getElem?_toArray.trans (by simp only [List.getElem?_cons_succ, List.getElem?_cons_zero]; exact rfl)) (by kernel_rfl) (by kernel_rfl) (by kernel_rfl) (fun _ _ _ h => h) (Or.inl ⟨by rfl, ?_⟩) (by assumption) ?_
              rotate_left
              · (intro V hSV; (try dsimp only at hSV); (try obtain ⟨s0, s1, s2, s3, s4, s5, s6, s7, s8⟩ := hSV); go_simp; (try rw [if_neg (by omega)]); (try with_reducible rfl))
              try simp only [List.getElem_toArray, List.getElem_cons_succ, List.getElem_cons_zero, Act.put, List.setIfInBounds_toArray, List.set_cons_zero, List.set_cons_succ]
              refine wpAnyH_take (i := 3) (oi := _) (v := ?_) (List.getElem?_toArray.trans (by simp only [List.getElem?_cons_succ, List.getElem?_cons_zero]; exact rfl)) (by kernel_rfl) (by kernel_rfl) (by kernel_rfl) (fun _ _ _ h => h) (Or.inl ⟨by rfl, ?_⟩) (by assumption) ?_
              rotate_left
              · (intro V hSV; (try dsimp only at hSV); (try obtain ⟨s0, s1, s2, s3, s4, s5, s6, s7, s8⟩ := hSV); go_simp; (try rw [if_neg (by omega)]); (try with_reducible rfl))
              try simp only [List.getElem_toArray, List.getElem_cons_succ, List.getElem_cons_zero, Act.put, List.setIfInBounds_toArray, List.set_cons_zero, List.set_cons_succ]
              refine wpAnyH_take (i := 4) (oi := _) (v := ?_) (List.getElem?_toArray.trans (by simp only [List.getElem?_cons_succ, List.getElem?_cons_zero]; exact rfl)) (by kernel_rfl) (by kernel_rfl) (by kernel_rfl) (fun _ _ _ h => h) (Or.inl ⟨by rfl, ?_⟩) (by assumption) ?_
              rotate_left
              · (intro V hSV; (try dsimp only at hSV); (try obtain ⟨s0, s1, s2, s3, s4, s5, s6, s7, s8⟩ := hSV); go_simp; (try rw [if_neg (by omega)]); (try with_reducible rfl))
              try simp only [List.getElem_toArray, List.getElem_cons_succ, List.getElem_cons_zero, Act.put, List.setIfInBounds_toArray, List.set_cons_zero, List.set_cons_succ]
              refine wpAnyH_take (i := 5) (oi := _) (v := ?_) (List.getElem?_toArray.trans (by simp only [List.getElem?_cons_succ, List.getElem?_cons_zero]; exact rfl)) (by kernel_rfl) (by kernel_rfl) (by kernel_rfl) (fun _ _ _ h => h) (Or.inl ⟨by rfl, ?_⟩) (by assumption) ?_
              rotate_left
              · (intro V hSV; (try dsimp only at hSV); (try obtain ⟨s0, s1, s2, s3, s4, s5, s6, s7, s8⟩ := hSV); go_simp; (try rw [if_neg (by omega)]); (try with_reducible rfl))
              try simp only [List.getElem_toArray, List.getElem_cons_succ, List.getElem_cons_zero, Act.put, List.setIfInBounds_toArray, List.set_cons_zero, List.set_cons_succ]
              refine wpAnyH_take (i := 6) (oi := _) (v := ?_) (List.getElem?_toArray.trans (by simp only [List.getElem?_cons_succ, List.getElem?_cons_zero]; exact rfl)) (by kernel_rfl) (by kernel_rfl) (by kernel_rfl) (fun _ _ _ h => h) (Or.inl ⟨by rfl, ?_⟩) (by assumption) ?_
              rotate_left
              · (intro V hSV; (try dsimp only at hSV); (try obtain ⟨s0, s1, s2, s3, s4, s5, s6, s7, s8⟩ := hSV); go_simp; (try rw [if_neg (by omega)]); (try with_reducible rfl))
              try simp only [List.getElem_toArray, List.getElem_cons_succ, List.getElem_cons_zero, Act.put, List.setIfInBounds_toArray, List.set_cons_zero, List.set_cons_succ]
              refine wpAnyH_take (i := 7) (oi := _) (v := ?_) (List.getElem?_toArray.trans (by simp only [List.getElem?_cons_succ, List.getElem?_cons_zero]; exact rfl)) (by kernel_rfl) (by kernel_rfl) (by kernel_rfl) (fun _ _ _ h => h) (Or.inl ⟨by rfl, ?_⟩) (by assumption) ?_
              rotate_left
              · (intro V hSV; (try dsimp only at hSV); (try obtain ⟨s0, s1, s2, s3, s4, s5, s6, s7, s8⟩ := hSV); go_simp; (try rw [if_neg (by omega)]); (try with_reducible rfl))
              try simp only [List.getElem_toArray, List.getElem_cons_succ, List.getElem_cons_zero, Act.put, List.setIfInBounds_toArray, List.set_cons_zero, List.set_cons_succ]
              refine wpAnyH_take (i := 8) (oi := _) (v := ?_) (List.getElem?_toArray.trans (by simp only [List.getElem?_cons_succ, List.getElem?_cons_zero]; exact rfl)) (by kernel_rfl) (by kernel_rfl) (by kernel_rfl) (fun _ _ _ h => h) (Or.inl ⟨by rfl, ?_⟩) (by assumption) ?_
              rotate_left
              · (intro V hSV; (try dsimp only at hSV); (try obtain ⟨s0, s1, s2, s3, s4, s5, s6, s7, s8⟩ := hSV); go_simp; (try rw [if_neg (by omega)]); (try with_reducible rfl))
              try simp only [List.getElem_toArray, List.getElem_cons_succ, List.getElem_cons_zero, Act.put, List.setIfInBounds_toArray, List.set_cons_zero, List.set_cons_succ]
              refine wpAnyH_take (i := 9) (oi := _) (v := ?_) (List.getElem?_toArray.trans (by simp only [List.getElem?_cons_succ, List.getElem?_cons_zero]; exact rfl)) (by kernel_rfl) (by kernel_rfl) (by kernel_rfl) (fun _ _ _ h => h) (Or.inl ⟨by rfl, ?_⟩) (by assumption) ?_
              rotate_left
              · (intro V hSV; (try dsimp only at hSV); (try obtain ⟨s0, s1, s2, s3, s4, s5, s6, s7, s8⟩ := hSV); go_simp; (try rw [if_neg (by omega)]); (try with_reducible rfl))
              try simp only [List.getElem_toArray, List.getElem_cons_succ, List.getElem_cons_zero, Act.put, List.setIfInBounds_toArray, List.set_cons_zero, List.set_cons_succ]
              refine wpAnyH_take (i := 10) (oi := _) (v := ?_) (List.getElem?_toArray.trans (by simp only [List.getElem?_cons_succ, List.getElem?_cons_zero]; exact rfl)) (by kernel_rfl) (by kernel_rfl) (by kernel_rfl) (fun _ _ _ h => h) (Or.inl ⟨by rfl, ?_⟩) (by assumption) ?_
              rotate_left
              · (intro V hSV; (try dsimp only at hSV); (try obtain ⟨s0, s1, s2, s3, s4, s5, s6, s7, s8⟩ := hSV); go_simp; (try rw [if_neg (by omega)]); (try with_reducible rfl))
              try simp only [List.getElem_toArray, List.getElem_cons_succ, List.getElem_cons_zero, Act.put, List.setIfInBounds_toArray, List.set_cons_zero, List.set_cons_succ]
              refine wpAnyH_take (i := 11) (oi := _) (v := ?_) (List.getElem?_toArray.trans (by simp only [List.getElem?_cons_succ, List.getElem?_cons_zero]; exact rfl)) (by kernel_rfl) (by kernel_rfl) (by kernel_rfl) (fun _ _ _ h => h) (Or.inl ⟨by rfl, ?_⟩) (by assumption) ?_
              rotate_left
              · (intro V hSV; (try dsimp only at hSV); (try obtain ⟨s0, s1, s2, s3, s4, s5, s6, s7, s8⟩ := hSV); go_simp; (try rw [if_neg (by omega)]); (try with_reducible rfl))
              try simp only [List.getElem_toArray, List.getElem_cons_succ, List.getElem_cons_zero, Act.put, List.setIfInBounds_toArray, List.set_cons_zero, List.set_cons_succ]
              refine wpAnyH_take (i := 12) (oi := _) (v := ?_) (List.getElem?_toArray.trans (by simp only [List.getElem?_cons_succ, List.getElem?_cons_zero]; exact rfl)) (by kernel_rfl) (by kernel_rfl) (by kernel_rfl) (fun _ _ _ h => h) (Or.inl ⟨by rfl, ?_⟩) (by assumption) ?_
              rotate_left
              · (intro V hSV; (try dsimp only at hSV); (try obtain ⟨s0, s1, s2, s3, s4, s5, s6, s7, s8⟩ := hSV); go_simp; (try rw [if_neg (by omega)]); (try with_reducible rfl))
              try simp only [List.getElem_toArray, List.getElem_cons_succ, List.getElem_cons_zero, Act.put, List.setIfInBounds_toArray, List.set_cons_zero, List.set_cons_succ]
              refine wpAnyH_take (i := 13) (oi := _) (v := ?_) (List.getElem?_toArray.trans (by simp only [List.getElem?_cons_succ, List.getElem?_cons_zero]; exact rfl)) (by kernel_rfl) (by kernel_rfl) (by kernel_rfl) (fun _ _ _ h => h) (Or.inl ⟨by rfl, ?_⟩) (by assumption) ?_
              rotate_left
              · (intro V hSV; (try dsimp only at hSV); (try obtain ⟨s0, s1, s2, s3, s4, s5, s6, s7, s8⟩ := hSV); go_simp; (try rw [if_neg (by omega)]); (try with_reducible rfl))
              try simp only [List.getElem_toArray, List.getElem_cons_succ, List.getElem_cons_zero, Act.put, List.setIfInBounds_toArray, List.set_cons_zero, List.set_cons_succ]
              refine wpAnyH_take (i := 14) (oi := _) (v := ?_) (List.getElem?_toArray.trans (by simp only [List.getElem?_cons_succ, List.getElem?_cons_zero]; exact rfl)) (by kernel_rfl) (by kernel_rfl) (by kernel_rfl) (fun _ _ _ h => h) (Or.inl ⟨by rfl, ?_⟩) (by assumption) ?_
              rotate_left
              · (intro V hSV; (try dsimp only at hSV); (try obtain ⟨s0, s1, s2, s3, s4, s5, s6, s7, s8⟩ := hSV); go_simp; (try rw [if_neg (by omega)]); (try with_reducible rfl))
              try simp only [List.getElem_toArray, List.getElem_cons_succ, List.getElem_cons_zero, Act.put, List.setIfInBounds_toArray, List.set_cons_zero, List.set_cons_succ]
              refine wpAnyH_take (i := 15) (oi := _) (v := ?_) (List.getElem?_toArray.trans (by simp only [List.getElem?_cons_succ, List.getElem?_cons_zero]; exact rfl)) (by kernel_rfl) (by kernel_rfl) (by kernel_rfl) (fun _ _ _ h => h) (Or.inl ⟨by rfl, ?_⟩) (by assumption) ?_
              rotate_left
              · (intro V hSV; (try dsimp only at hSV); (try obtain ⟨s0, s1, s2, s3, s4, s5, s6, s7, s8⟩ := hSV); go_simp; (try rw [if_neg (by omega)]); (try with_reducible rfl))
              try simp only [List.getElem_toArray, List.getElem_cons_succ, List.getElem_cons_zero, Act.put, List.setIfInBounds_toArray, List.set_cons_zero, List.set_cons_succ]
              refine wpAnyH_take (i := 16) (oi := _) (v := ?_) (List.getElem?_toArray.trans (by simp only [List.getElem?_cons_succ, List.getElem?_cons_zero]; exact rfl)) (by kernel_rfl) (by kernel_rfl) (by kernel_rfl) (fun _ _ _ h => h) (Or.inl ⟨by rfl, ?_⟩) (by assumption) ?_
              rotate_left
              · (intro V hSV; (try dsimp only at hSV); (try obtain ⟨s0, s1, s2, s3, s4, s5, s6, s7, s8⟩ := hSV); go_simp; (try rw [if_neg (by omega)]); (try with_reducible rfl))
              try simp only [List.getElem_toArray, List.getElem_cons_succ, List.getElem_cons_zero, Act.put, List.setIfInBounds_toArray, List.set_cons_zero, List.set_cons_succ]
              refine wpAnyH_take (i := 17) (oi := _) (v := ?_) (List.getElem?_toArray.trans (by simp only [List.getElem?_cons_succ, List.getElem?_cons_zero]; exact rfl)) (by kernel_rfl) (by kernel_rfl) (by kernel_rfl) (fun _ _ _ h => h) (Or.inl ⟨by rfl, ?_⟩) (by assumption) ?_
              rotate_left
              · (intro V hSV; (try dsimp only at hSV); (try obtain ⟨s0, s1, s2, s3, s4, s5, s6, s7, s8⟩ := hSV); go_simp; (try rw [if_neg (by omega)]); (try with_reducible rfl))
              try simp only [List.getElem_toArray, List.getElem_cons_succ, List.getElem_cons_zero, Act.put, List.setIfInBounds_toArray, List.set_cons_zero, List.set_cons_succ]
              refine wpAnyH_take (i := 18) (oi := _) (v := ?_) (List.getElem?_toArray.trans (by simp only [List.getElem?_cons_succ, List.getElem?_cons_zero]; exact rfl)) (by kernel_rfl) (by kernel_rfl) (by kernel_rfl) (fun _ _ _ h => h) (Or.inl ⟨by rfl, ?_⟩) (by assumption) ?_
              rotate_left
              · (intro V hSV; (try dsimp only at hSV); (try obtain ⟨s0, s1, s2, s3, s4, s5, s6, s7, s8⟩ := hSV); go_simp; (try rw [if_neg (by omega)]); (try with_reducible rfl))
              try simp only [List.getElem_toArray, List.getElem_cons_succ, List.getElem_cons_zero, Act.put, List.setIfInBounds_toArray, List.set_cons_zero, List.set_cons_succ]
              refine wpAnyH_take (i := 19) (oi := _) (v := ?_) (List.getElem?_toArray.trans (by simp only [List.getElem?_cons_succ, List.getElem?_cons_zero]; exact rfl)) (by kernel_rfl) (by kernel_rfl) (by kernel_rfl) (fun _ _ _ h => h) (Or.inl ⟨by rfl, ?_⟩) (by assumption) ?_
              rotate_left
              · (intro V hSV; (try dsimp only at hSV); (try obtain ⟨s0, s1, s2, s3, s4, s5, s6, s7, s8⟩ := hSV); go_simp; (try rw [if_neg (by omega)]); (try with_reducible rfl))
              try simp only [List.getElem_toArray, List.getElem_cons_succ, List.getElem_cons_zero, Act.put, List.setIfInBounds_toArray, List.set_cons_zero, List.set_cons_succ]
              refine wpAnyH_take (i := 20) (oi := _) (v := ?_) (List.getElem?_toArray.trans (by simp only [List.getElem?_cons_succ, List.getElem?_cons_zero]; exact rfl)) (by kernel_rfl) (by kernel_rfl) (by kernel_rfl) (fun _ _ _ h => h) (Or.inl ⟨by rfl, ?_⟩) (by assumption) ?_
              rotate_left
              · (intro V hSV; (try dsimp only at hSV); (try obtain ⟨s0, s1, s2, s3, s4, s5, s6, s7, s8⟩ := hSV); go_simp; (try rw [if_neg (by omega)]); (try with_reducible rfl))
              try simp only [List.getElem_toArray, List.getElem_cons_succ, List.getElem_cons_zero, Act.put, List.setIfInBounds_toArray, List.set_cons_zero, List.set_cons_succ]
              refine wpAnyH_take (i := 21) (oi := _) (v := ?_) (List.getElem?_toArray.trans (by simp only [List.getElem?_cons_succ, List.getElem?_cons_zero]; exact rfl)) (by kernel_rfl) (by kernel_rfl) (by kernel_rfl) (fun _ _ _ h => h) (Or.inl ⟨by rfl, ?_⟩) (by assumption) ?_
              rotate_left
              · (intro V hSV; (try dsimp only at hSV); (try obtain ⟨s0, s1, s2, s3, s4, s5, s6, s7, s8⟩ := hSV); go_simp; (try rw [if_neg (by omega)]); (try with_reducible rfl))
              try simp only [List.getElem_toArray, List.getElem_cons_succ, List.getElem_cons_zero, Act.put, List.setIfInBounds_toArray, List.set_cons_zero, List.set_cons_succ]
              refine rts 22 ?_
              refine rts 23 ?_
              refine rts 24 ?_
              refine rts 25 ?_
              refine rts 26 ?_
              refine rts 27 ?_
              refine rts 28 ?_
              refine rts 29 ?_
              refine wpAnyH_take (i := 30) (oi := _) (v := ?_) (List.getElem?_toArray.trans (by simp only [List.getElem?_cons_succ, List.getElem?_cons_zero]; exact rfl)) (by kernel_rfl) (by kernel_rfl) (by kernel_rfl) (fun _ _ _ h => h) (Or.inl ⟨by rfl, ?_⟩) (by assumption) ?_
              rotate_left
              · (intro V hSV; (try dsimp only at hSV); (try obtain ⟨s0, s1, s2, s3, s4, s5, s6, s7, s8⟩ := hSV); go_simp; (try rw [if_neg (by omega)]); (try with_reducible rfl))
              try simp only [List.getElem_toArray, List.getElem_cons_succ, List.getElem_cons_zero, Act.put, List.setIfInBounds_toArray, List.set_cons_zero, List.set_cons_succ]
              refine wpAnyH_take (i := 31) (oi := _) (v := ?_) (List.getElem?_toArray.trans (by simp only [List.getElem?_cons_succ, List.getElem?_cons_zero]; exact rfl)) (by kernel_rfl) (by kernel_rfl) (by kernel_rfl) (fun _ _ _ h => h) (Or.inl ⟨by rfl, ?_⟩) (by assumption) ?_
              rotate_left
              · (intro V hSV; (try dsimp only at hSV); (try obtain ⟨s0, s1, s2, s3, s4, s5, s6, s7, s8⟩ := hSV); go_simp; (try rw [if_neg (by omega)]); (try with_reducible rfl))
              try simp only [List.getElem_toArray, List.getElem_cons_succ, List.getElem_cons_zero, Act.put, List.setIfInBounds_toArray, List.set_cons_zero, List.set_cons_succ]
              refine wpAnyH_take (i := 32) (oi := _) (v := ?_) (List.getElem?_toArray.trans (by simp only [List.getElem?_cons_succ, List.getElem?_cons_zero]; exact rfl)) (by kernel_rfl) (by kernel_rfl) (by kernel_rfl) (fun _ _ _ h => h) (Or.inl ⟨by rfl, ?_⟩) (by assumption) ?_
              rotate_left
              · (intro V hSV; (try dsimp only at hSV); (try obtain ⟨s0, s1, s2, s3, s4, s5, s6, s7, s8⟩ := hSV); go_simp; (try rw [if_neg (by omega)]); (try with_reducible rfl))
              try simp only [List.getElem_toArray, List.getElem_cons_succ, List.getElem_cons_zero, Act.put, List.setIfInBounds_toArray, List.set_cons_zero, List.set_cons_succ]
              refine wpAnyH_take (i := 33) (oi := _) (v := ?_) (List.getElem?_toArray.trans (by simp only [List.getElem?_cons_succ, List.getElem?_cons_zero]; exact rfl)) (by kernel_rfl) (by kernel_rfl) (by kernel_rfl) (fun _ _ _ h => h) (Or.inl ⟨by rfl, ?_⟩) (by assumption) ?_
              rotate_left
              · (intro V hSV; (try dsimp only at hSV); (try obtain ⟨s0, s1, s2, s3, s4, s5, s6, s7, s8⟩ := hSV); go_simp; (try rw [if_neg (by omega)]); (try with_reducible rfl))
              try simp only [List.getElem_toArray, List.getElem_cons_succ, List.getElem_cons_zero, Act.put, List.setIfInBounds_toArray, List.set_cons_zero, List.set_cons_succ]
              refine wpAnyH_take (i := 34) (oi := _) (v := ?_) (List.getElem?_toArray.trans (by simp only [List.getElem?_cons_succ, List.getElem?_cons_zero]; exact rfl)) (by kernel_rfl) (by kernel_rfl) (by kernel_rfl) (fun _ _ _ h => h) (Or.inl ⟨by rfl, ?_⟩) (by assumption) ?_
              rotate_left
              · (intro V hSV; (try dsimp only at hSV); (try obtain ⟨s0, s1, s2, s3, s4, s5, s6, s7, s8⟩ := hSV); go_simp; (try rw [if_neg (by omega)]); (try with_reducible rfl))
              try simp only [List.getElem_toArray, List.getElem_cons_succ, List.getElem_cons_zero, Act.put, List.setIfInBounds_toArray, List.set_cons_zero, List.set_cons_succ]
              refine wpAnyH_take (i := 35) (oi := _) (v := ?_) (List.getElem?_toArray.trans (by simp only [List.getElem?_cons_succ, List.getElem?_cons_zero]; exact rfl)) (by kernel_rfl) (by kernel_rfl) (by kernel_rfl) (fun _ _ _ h => h) (Or.inl ⟨by rfl, ?_⟩) (by assumption) ?_
              rotate_left
              · (intro V hSV; (try dsimp only at hSV); (try obtain ⟨s0, s1, s2, s3, s4, s5, s6, s7, s8⟩ := hSV); go_simp; (try rw [if_neg (by omega)]); (try with_reducible rfl))
              try simp only [List.getElem_toArray, List.getElem_cons_succ, List.getElem_cons_zero, Act.put, List.setIfInBounds_toArray, List.set_cons_zero, List.set_cons_succ]
              refine wpAnyH_take (i := 36) (oi := _) (v := ?_) (List.getElem?_toArray.trans (by simp only [List.getElem?_cons_succ, List.getElem?_cons_zero]; exact rfl)) (by kernel_rfl) (by kernel_rfl) (by kernel_rfl) (fun _ _ _ h => h) (Or.inl ⟨by rfl, ?_⟩) (by assumption) ?_
              rotate_left
              · (intro V hSV; (try dsimp only at hSV); (try obtain ⟨s0, s1, s2, s3, s4, s5, s6, s7, s8⟩ := hSV); go_simp; (try rw [if_neg (by omega)]); (try with_reducible rfl))
              try simp only [List.getElem_toArray, List.getElem_cons_succ, List.getElem_cons_zero, Act.put, List.setIfInBounds_toArray, List.set_cons_zero, List.set_cons_succ]
              refine wpAnyH_take (i := 37) (oi := _) (v := ?_) (List.getElem?_toArray.trans (by simp only [List.getElem?_cons_succ, List.getElem?_cons_zero]; exact rfl)) (by kernel_rfl) (by kernel_rfl) (by kernel_rfl) (fun _ _ _ h => h) (Or.inl ⟨by rfl, ?_⟩) (by assumption) ?_
              rotate_left
              · (intro V hSV; (try dsimp only at hSV); (try obtain ⟨s0, s1, s2, s3, s4, s5, s6, s7, s8⟩ := hSV); go_simp; (try rw [if_neg (by omega)]); (try with_reducible rfl))
              try simp only [List.getElem_toArray, List.getElem_cons_succ, List.getElem_cons_zero, Act.put, List.setIfInBounds_toArray, List.set_cons_zero, List.set_cons_succ]
              refine wpAnyH_take (i := 38) (oi := _) (v := ?_) (List.getElem?_toArray.trans (by simp only [List.getElem?_cons_succ, List.getElem?_cons_zero]; exact rfl)) (by kernel_rfl) (by kernel_rfl) (by kernel_rfl) (fun _ _ _ h => h) (Or.inl ⟨by rfl, ?_⟩) (by assumption) ?_
              rotate_left
              · (intro V hSV; (try dsimp only at hSV); (try obtain ⟨s0, s1, s2, s3, s4, s5, s6, s7, s8⟩ := hSV); go_simp; (try rw [if_neg (by omega)]); (try with_reducible rfl))
              try simp only [List.getElem_toArray, List.getElem_cons_succ, List.getElem_cons_zero, Act.put, List.setIfInBounds_toArray, List.set_cons_zero, List.set_cons_succ]
              refine wpAnyH_take (i := 39) (oi := _) (v := ?_) (List.getElem?_toArray.trans (by simp only [List.getElem?_cons_succ, List.getElem?_cons_zero]; exact rfl)) (by kernel_rfl) (by kernel_rfl) (by kernel_rfl) (fun _ _ _ h => h) (Or.inl ⟨by rfl, ?_⟩) (by assumption) ?_
              rotate_left
              · (intro V hSV; (try dsimp only at hSV); (try obtain ⟨s0, s1, s2, s3, s4, s5, s6, s7, s8⟩ := hSV); go_simp; (try rw [if_neg (by omega)]); (try with_reducible rfl))
              try simp only [List.getElem_toArray, List.getElem_cons_succ, List.getElem_cons_zero, Act.put, List.setIfInBounds_toArray, List.set_cons_zero, List.set_cons_succ]
              refine wpAnyH_take (i := 40) (oi := _) (v := ?_) (List.getElem?_toArray.trans (by simp only [List.getElem?_cons_succ, List.getElem?_cons_zero]; exact rfl)) (by kernel_rfl) (by kernel_rfl) (by kernel_rfl) (fun _ _ _ h => h) (Or.inl ⟨by rfl, ?_⟩) (by assumption) ?_
              rotate_left
              · (intro V hSV; (try dsimp only at hSV); (try obtain ⟨s0, s1, s2, s3, s4, s5, s6, s7, s8⟩ := hSV); go_simp; (try rw [if_neg (by omega)]); (try with_reducible rfl))
              try simp only [List.getElem_toArray, List.getElem_cons_succ, List.getElem_cons_zero, Act.put, List.setIfInBounds_toArray, List.set_cons_zero, List.set_cons_succ]
              refine wpAnyH_take (i := 41) (oi := _) (v := ?_) (List.getElem?_toArray.trans (by simp only [List.getElem?_cons_succ, List.getElem?_cons_zero]; exact rfl)) (by kernel_rfl) (by kernel_rfl) (by kernel_rfl) (fun _ _ _ h => h) (Or.inl ⟨by rfl, ?_⟩) (by assumption) ?_
              rotate_left
              · (intro V hSV; (try dsimp only at hSV); (try obtain ⟨s0, s1, s2, s3, s4, s5, s6, s7, s8⟩ := hSV); go_simp; (try rw [if_neg (by omega)]); (try with_reducible rfl))
              try simp only [List.getElem_toArray, List.getElem_cons_succ, List.getElem_cons_zero, Act.put, List.setIfInBounds_toArray, List.set_cons_zero, List.set_cons_succ]
              refine wpAnyH_take (i := 42) (oi := _) (v := ?_) (List.getElem?_toArray.trans (by simp only [List.getElem?_cons_succ, List.getElem?_cons_zero]; exact rfl)) (by kernel_rfl) (by kernel_rfl) (by kernel_rfl) (fun _ _ _ h => h) (Or.inl ⟨by rfl, ?_⟩) (by assumption) ?_
              rotate_left
              · (intro V hSV; (try dsimp only at hSV); (try obtain ⟨s0, s1, s2, s3, s4, s5, s6, s7, s8⟩ := hSV); go_simp; (try rw [if_neg (by omega)]); (try with_reducible rfl))
              try simp only [List.getElem_toArray, List.getElem_cons_succ, List.getElem_cons_zero, Act.put, List.setIfInBounds_toArray, List.set_cons_zero, List.set_cons_succ]
              refine wpAnyH_take (i := 43) (oi := _) (v := ?_) (List.getElem?_toArray.trans (by simp only [List.getElem?_cons_succ, List.getElem?_cons_zero]; exact rfl)) (by kernel_rfl) (by kernel_rfl) (by kernel_rfl) (fun _ _ _ h => h) (Or.inl ⟨by rfl, ?_⟩) (by assumption) ?_
              rotate_left
              · (intro V hSV; (try dsimp only at hSV); (try obtain ⟨s0, s1, s2, s3, s4, s5, s6, s7, s8⟩ := hSV); go_simp; (try rw [if_neg (by omega)]); (try with_reducible rfl))
              try simp only [List.getElem_toArray, List.getElem_cons_succ, List.getElem_cons_zero, Act.put, List.setIfInBounds_toArray, List.set_cons_zero, List.set_cons_succ]
              refine wpAnyH_take (i := 44) (oi := _) (v := ?_) (List.getElem?_toArray.trans (by simp only [List.getElem?_cons_succ, List.getElem?_cons_zero]; exact rfl)) (by kernel_rfl) (by kernel_rfl) (by kernel_rfl) (fun _ _ _ h => h) (Or.inl ⟨by rfl, ?_⟩) (by assumption) ?_
              rotate_left
              · (intro V hSV; (try dsimp only at hSV); (try obtain ⟨s0, s1, s2, s3, s4, s5, s6, s7, s8⟩ := hSV); go_simp; (try rw [if_neg (by omega)]); (try with_reducible rfl))
              try simp only [List.getElem_toArray, List.getElem_cons_succ, List.getElem_cons_zero, Act.put, List.setIfInBounds_toArray, List.set_cons_zero, List.set_cons_succ]
              refine wpAnyH_take (i := 45) (oi := _) (v := ?_) (List.getElem?_toArray.trans (by simp only [List.getElem?_cons_succ, List.getElem?_cons_zero]; exact rfl)) (by kernel_rfl) (by kernel_rfl) (by kernel_rfl) (fun _ _ _ h => h) (Or.inl ⟨by rfl, ?_⟩) (by assumption) ?_
              rotate_left
              · (intro V hSV; (try dsimp only at hSV); (try obtain ⟨s0, s1, s2, s3, s4, s5, s6, s7, s8⟩ := hSV); go_simp; (try rw [if_neg (by omega)]); (try with_reducible rfl))
              try simp only [List.getElem_toArray, List.getElem_cons_succ, List.getElem_cons_zero, Act.put, List.setIfInBounds_toArray, List.set_cons_zero, List.set_cons_succ]
              refine wpAnyH_take (i := 46) (oi := _) (v := ?_) (List.getElem?_toArray.trans (by simp only [List.getElem?_cons_succ, List.getElem?_cons_zero]; exact rfl)) (by kernel_rfl) (by kernel_rfl) (by kernel_rfl) (fun _ _ _ h => h) (Or.inl ⟨by rfl, ?_⟩) (by assumption) ?_
              rotate_left
              · (intro V hSV; (try dsimp only at hSV); (try obtain ⟨s0, s1, s2, s3, s4, s5, s6, s7, s8⟩ := hSV); go_simp; (try rw [if_neg (by omega)]); (try with_reducible rfl))
              try simp only [List.getElem_toArray, List.getElem_cons_succ, List.getElem_cons_zero, Act.put, List.setIfInBounds_toArray, List.set_cons_zero, List.set_cons_succ]
              refine wpAnyH_take (i := 47) (oi := _) (v := ?_) (List.getElem?_toArray.trans (by simp only [List.getElem?_cons_succ, List.getElem?_cons_zero]; exact rfl)) (by kernel_rfl) (by kernel_rfl) (by kernel_rfl) (fun _ _ _ h => h) (Or.inl ⟨by rfl, ?_⟩) (by assumption) ?_
              rotate_left
              · (intro V hSV; (try dsimp only at hSV); (try obtain ⟨s0, s1, s2, s3, s4, s5, s6, s7, s8⟩ := hSV); go_simp; (try rw [if_neg (by omega)]); (try with_reducible rfl))
              try simp only [List.getElem_toArray, List.getElem_cons_succ, List.getElem_cons_zero, Act.put, List.setIfInBounds_toArray, List.set_cons_zero, List.set_cons_succ]
              refine wpAnyH_ready (rs := [48]) (by kernel_rfl) (by simp) ?_
              refine AllReadyH.cons rfl (fun K hK => ?_) AllReadyH.nil
              go_simp
              refine (UM.out _).mono ?_
              rintro e wc ⟨tvc, rfl, hisc, hbc⟩
              refine hK.out _ _ (⟨cell_keep1 hbc hS.1, cell_keep1 hbc hS.2.1, cell_keep1 hbc hS.2.2.1, cell_keep1 hbc hS.2.2.2.1, cell_keep1 hbc hS.2.2.2.2.1, cell_keep1 hbc hS.2.2.2.2.2.1, cell_keep1 hbc hS.2.2.2.2.2.2.1, cell_keep1 hbc hS.2.2.2.2.2.2.2.1, cell_keep1 hbc hS.2.2.2.2.2.2.2.2⟩) (fun hS => ?_)
              clear hK K
              have qc := ((Below.refl W9.heap.size W9).drew).trans (hbc.mono ((Below.refl W9.heap.size W9).drew).size)
              have isc1 := HV9.out.below qc (Nat.le_refl _)
              have isc2 : Is wc tvc (iN V) := hisc.is (fun b x => x.2)
              obtain ⟨tca, tcc, rfl⟩ := hisc.slice
              have SMc := Lib.hid (same_any _ _ (iN V) (iN V) true wc isc1 isc2 (by rw [iN_len]; have := HVl.out; omega) (by rw [iN_len]; have := HVl.out; omega) (by simp))
              have QC := Lib.hid qc
              clear hisc hbc qc isc1 isc2
              refine wpAnyH_ready (rs := [49]) (by kernel_rfl) (by simp) ?_
              refine AllReadyH.cons rfl (fun K hK => ?_) AllReadyH.nil
              go_simp
              refine SMc.out.mono ?_
              rintro e wd ⟨rfl, hbd⟩
              refine hK.out _ _ (⟨cell_keep1 hbd hS.1, cell_keep1 hbd hS.2.1, cell_keep1 hbd hS.2.2.1, cell_keep1 hbd hS.2.2.2.1, cell_keep1 hbd hS.2.2.2.2.1, cell_keep1 hbd hS.2.2.2.2.2.1, cell_keep1 hbd hS.2.2.2.2.2.2.1, cell_keep1 hbd hS.2.2.2.2.2.2.2.1, cell_keep1 hbd hS.2.2.2.2.2.2.2.2⟩) (fun hS => ?_)
              clear hK K
              refine wpAnyH_take (i := 50) (oi := _) (v := ?_) (List.getElem?_toArray.trans (by simp only [List.getElem?_cons_succ, List.getElem?_cons_zero]; exact rfl)) (by kernel_rfl) (by kernel_rfl) (by kernel_rfl) (fun _ _ _ h => h) (Or.inl ⟨by rfl, ?_⟩) (by assumption) ?_
              rotate_left
              · (intro V hSV; (try dsimp only at hSV); (try obtain ⟨s0, s1, s2, s3, s4, s5, s6, s7, s8⟩ := hSV); go_simp; (try rw [if_neg (by omega)]); (try with_reducible rfl))
              try simp only [List.getElem_toArray, List.getElem_cons_succ, List.getElem_cons_zero, Act.put, List.setIfInBounds_toArray, List.set_cons_zero, List.set_cons_succ]
              refine wpAnyH_take (i := 51) (oi := _) (v := ?_) (List.getElem?_toArray.trans (by simp only [List.getElem?_cons_succ, List.getElem?_cons_zero]; exact rfl)) (by kernel_rfl) (by kernel_rfl) (by kernel_rfl) (fun _ _ _ h => h) (Or.inl ⟨by rfl, ?_⟩) (by assumption) ?_
              rotate_left
              · (intro V hSV; (try dsimp only at hSV); (try obtain ⟨s0, s1, s2, s3, s4, s5, s6, s7, s8⟩ := hSV); go_simp; (try rw [if_neg (by omega)]); (try with_reducible rfl))
              try simp only [List.getElem_toArray, List.getElem_cons_succ, List.getElem_cons_zero, Act.put, List.setIfInBounds_toArray, List.set_cons_zero, List.set_cons_succ]
              refine wpAnyH_done (by kernel_rfl) ?_ _
              refine NoPanic.normal ?_
              have bd := BW9.out.trans ((QC.out.trans (hbd.mono QC.out.size)).mono BW9.out.size)
              go_wp2
              go_ret
              exact ⟨rfl, bd⟩
end Go.Proofs.YtlobinjdgcidmaaDoor
