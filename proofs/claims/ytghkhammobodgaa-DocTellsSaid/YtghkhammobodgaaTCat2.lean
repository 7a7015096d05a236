/- doc.Cat of any documents, its walk. -/
import Derived.Test.YtghkhammobodgaaTCat
import Derived.Test.YtghkhammobodgaaTDoc5
namespace Go.Proofs.Ytghkhammobodgaa
open Go.RowKit
set_option linter.unusedVariables false
set_option linter.unusedSimpArgs false

set_option maxRecDepth 100000 in
set_option maxHeartbeats 8000000 in
theorem catT (k : Int) (v : Value) (L : Fo) (w : World) (hv : FoS w v L) (hN : FoN L ≤ 1000) :
    Calls Try.prog 22 #[.int .i64 k, v] w fun e w' => ∃ v', e = .returned (.agg (dv k 0 ⟨#[]⟩ v')) ∧ FoS w' v' L ∧ Below w.heap.size w w' := by
  have hln := fo_len_n L
  have hv' := hv
  obtain ⟨va, vc, rfl⟩ := hv.slice
  obtain ⟨n, hn⟩ : ∃ n, L.len = n := ⟨_, rfl⟩
  have b0 := Lib.hid ((Below.refl w.heap.size w).alloc (Nat.le_refl _) (.cells #[.int .i64 0, .int .i64 0, .string ⟨#[]⟩, .slice none 0 0] 24))
  have db0 := Lib.hid (DB.new w #[.int .i64 0, .int .i64 0, .string ⟨#[]⟩, .slice none 0 0])
  obtain ⟨W0, hW0⟩ : ∃ W, w.alloc (.cells #[.int .i64 0, .int .i64 0, .string ⟨#[]⟩, .slice none 0 0] 24) = W := ⟨_, rfl⟩
  have z0 := Lib.hid (show W0.heap.size = w.heap.size + 1 by rw [← hW0]; simp)
  rw [hW0] at b0 db0
  have HW0 := Lib.hid hW0
  rw [hn] at hln hv hv' ⊢
  have CL := Lib.hid (cloneF va n vc L W0 (hv.keep b0.out) (by omega))
  have HFS := Lib.hid (FoP.of hv')
  have HNN := Lib.hid hN
  have HLN := Lib.hid hn
  clear hv hv' hW0 hN hln hn
  go_enter Try.func22, Try.ntmps22
  go_wp2_with fail
  rw [HW0.out]
  refine (CL.out).mono ?_
  rintro e w1 ⟨a1, c1, rfl, k1, k2, k3, hb1, kc⟩
  have z1 := Lib.hid hb1.size
  obtain ⟨b5, hb5⟩ : ∃ b, w1.heap.size = b := ⟨_, rfl⟩
  have HB5 := Lib.hid hb5
  have FP1 := Lib.hid (clone_reads (N := w.heap.size) (b5 := b5) k1 k2 k3 (by rw [z0.out]; omega) (fun g _ hd => by have := hd.lt; omega) kc L (((HFS.out.keep (w' := w1) (fun b hb => ((b0.out.trans (hb1.mono b0.out.size)).block b hb))).mono fun b hb => .inl hb)))
  have HX1 : Hid (0 < L.len → ∃ g c, (Value.slice a1 n c1) = .slice (some ⟨g, 0, none⟩) L.len c ∧ w.heap.size < g) := Lib.hid (fun h0 => by
    obtain ⟨b, off, g, _, e2, e3, _⟩ := kc (by rw [← HLN.out]; exact h0)
    exact ⟨g, c1, by rw [e2, HLN.out], by have := z0.out; omega⟩)
  have dd2 := Lib.hid (DB.new w1 #[.int .i64 k, .int .i64 0, .string ⟨#[]⟩, (.slice a1 n c1)])
  have b2 := Lib.hid ((Below.refl w1.heap.size w1).alloc (Nat.le_refl _) (.cells #[.int .i64 k, .int .i64 0, .string ⟨#[]⟩, (.slice a1 n c1)] 24))
  obtain ⟨W2, hW2⟩ : ∃ W, w1.alloc (.cells #[.int .i64 k, .int .i64 0, .string ⟨#[]⟩, (.slice a1 n c1)] 24) = W := ⟨_, rfl⟩
  have z2 := Lib.hid (show W2.heap.size = w1.heap.size + 1 by rw [← hW2]; simp)
  rw [hW2] at b2 dd2
  have HW2 := Lib.hid hW2
  rw [hb5] at dd2
  have c53 : W2.cell? ⟨b5, 3, none⟩ = some (.slice a1 n c1) := dd2.out.cell 3
  have b3 := Lib.hid ((Below.refl W2.heap.size W2).alloc (Nat.le_refl _) (.cells #[(.slice a1 n c1)] 22))
  have OL0 : Hid (OwnL W2.heap.size (W2.alloc (.cells #[(.slice a1 n c1)] 22)) (.slice (some ⟨W2.heap.size, 0, none⟩) 1 1) [(.slice a1 n c1)]) := Lib.hid ⟨World.ownsRow_lit W2 #[(.slice a1 n c1)] 1 (Nat.le_refl _) (by decide) rfl, by simp, by simp; rfl⟩
  obtain ⟨W3, hW3⟩ : ∃ W, W2.alloc (.cells #[(.slice a1 n c1)] 22) = W := ⟨_, rfl⟩
  have HW3 := Lib.hid hW3
  rw [hW3] at b3 OL0
  have bl1 := Lib.hid (b0.out.trans (hb1.mono b0.out.size))
  have KP3 := Lib.hid ((KP.of_below (N := w.heap.size) (b5 := b5) b2.out bl1.out.size).trans (KP.of_below b3.out (Nat.le_trans bl1.out.size b2.out.size)))
  have FP3 := Lib.hid (KP3.out.fo _ _ FP1.out)
  have CF3 : Hid (CatF w b5 W2.heap.size (.slice a1 n c1) L k W3) := Lib.hid ⟨FP3.out, dd2.out.keep b3.out (by rw [z2.out]; omega), ((db0.out.keep hb1 (by rw [z0.out]; omega)).keep b2.out (by have := z0.out; have := z1.out; omega)).keep b3.out (by have := z0.out; have := z1.out; have := z2.out; omega), (bl1.out.trans (b2.out.mono bl1.out.size)).trans (b3.out.mono (Nat.le_trans bl1.out.size b2.out.size)), b3.out.size⟩
  have hwB : Hid (w.heap.size < W2.heap.size) := Lib.hid (by have := z0.out; have := z1.out; have := z2.out; omega)
  have h5B : Hid (b5 < W2.heap.size) := Lib.hid (by rw [z2.out]; omega)
  clear hW2 hb1 hW3 hb5 k1 k2 k3 kc
  go_upto_region 2 with fail
  rw [HW2.out, HB5.out]
  go_upto_region 3 with fail
  rw [HW3.out]
  obtain ⟨bB, hbB⟩ : ∃ b, W2.heap.size = b := ⟨_, rfl⟩
  rw [hbB] at OL0 hwB h5B b3 CF3
  have HBB := Lib.hid hbB
  clear hbB
  go_upto_region 3 with fail
  (try rw [HBB.out])
  clear b2 dd2 z2 z1 b0 db0 CL z0 HW2 HB5 HW0 HFS FP1 bl1 KP3
  go_loopg [6, 7, 8] (1 + FoN L) (fun g sv _ _ wr => CatF w b5 bB (.slice a1 n c1) L k wr ∧ ∃ G : List (Value × Fo), FoNs G = g ∧ g ≤ 1001 ∧ OwnL bB wr sv (G.map (·.1)) ∧ ∀ x ∈ G, WLi w.heap.size b5 wr x)
  case atStart => exact ⟨CF3.out, [((.slice a1 n c1), L)], by simp [FoNs], by have := HNN.out; omega, OL0.out, fun x hx => by simp at hx; subst hx; exact ⟨FP3.out, HX1.out⟩⟩
  case round =>
    obtain ⟨hcf, G, hgk, hgk2, ho, hwl⟩ := hrel
    have HCF := Lib.hid hcf
    have HGK := Lib.hid hgk
    have HGK2 := Lib.hid hgk2
    clear hcf hgk hgk2
    rcases nil_or_snoc G with rfl | ⟨G', x, rfl⟩
    · obtain ⟨a6, c6, hsv⟩ : ∃ a c, u6 = .slice a 0 c := by
        obtain ⟨_, ⟨h, h0⟩ | ⟨g, cap, cur, h, _⟩⟩ := ho.1
        · exact ⟨none, 0, h⟩
        · exact ⟨_, cap, by rw [h]; rfl⟩
      subst hsv
      have hd5 := HCF.out.d5
      have hdw := HCF.out.dw
      have hfs : Hid (FoS (wr.setRow w.heap.size (dv k 0 ⟨#[]⟩ (.slice a1 n c1))) (.slice a1 n c1) L) := Lib.hid (by
        refine ((HCF.out.fo.keep (w' := wr.setRow w.heap.size (dv k 0 ⟨#[]⟩ (.slice a1 n c1))) fun b hb => ?_).mono fun b hb => ?_).to
        · exact setRow_other wr _ b _ (by rcases hb with hb | ⟨hb, _⟩ <;> omega)
        · rw [setRow_size]; exact pw_lt hb HCF.out.bl.size)
      have hblS := Lib.hid (below_setRowD HCF.out.bl (Nat.le_refl w.heap.size) (dv k 0 ⟨#[]⟩ (.slice a1 n c1)))
      clear ho hwl
      as_aux_lemma =>
        go_wp2_with (first | (refine wpl_ldD rfl _ rfl b5 _ rfl hd5 rfl ?_) | (refine wpl_stD rfl _ _ rfl w.heap.size _ (dv k 0 ⟨#[]⟩ (.slice a1 n c1)) rfl rfl hdw rfl rfl (dv_one _ _ _ _ rfl) ?_))
        (try simp only [Exit.inBlock, Exit.then])
        exact bodyPost_ret (res_doc rfl _ _ w.heap.size _ rfl (DB.set hdw _) rfl) rfl ⟨_, rfl, hfs.out, hblS.out⟩
    · obtain ⟨vx, Fx⟩ := x
      have hwx := hwl (vx, Fx) (by simp)
      have HWL := Lib.hid (show ∀ y ∈ G', WLi w.heap.size b5 wr y from fun y hy => hwl y (by simp [hy]))
      obtain ⟨xa, xc, e0, -, -, -, -⟩ := hwx.1
      simp only at e0
      subst e0
      obtain ⟨nx, hnx⟩ : ∃ m, Fx.len = m := ⟨_, rfl⟩
      have HNX := Lib.hid hnx
      have hnx2 : nx ≤ 1000 := by
        have := fo_len_n Fx
        have h1 := HGK.out
        have h2 := HGK2.out
        rw [foNs_append] at h1
        simp only [FoNs] at h1
        omega
      have HKF : Hid (FoN Fx ≤ 1000 ∧ FoNs G' + FoN Fx ≤ 1001 ∧ FoNs G' + FoN Fx < gk) := Lib.hid (by
        have h1 := HGK.out
        have h2 := HGK2.out
        rw [foNs_append] at h1
        simp only [FoNs] at h1
        omega)
      obtain ⟨m, hm⟩ : ∃ m, G'.length = m := ⟨_, rfl⟩
      have hm2 : m ≤ 1001 := by have := foNs_len G'; have := HKF.out; omega
      rw [List.map_append] at ho
      obtain ⟨gs, caps, hsv, hgs1, hgs2, hgs3, hgs4⟩ := ownL_form ho (by simp)
      simp only [List.length_append, List.length_map, List.length_singleton, List.map_cons, List.map_nil] at hsv hgs3
      rw [hm] at hsv hgs3
      unfold maxLen at hgs4
      have m4 : (m : Int) ≤ caps := by omega
      subst hsv
      have ho' : OwnL bB wr (.slice (some ⟨gs, 0, none⟩) ((G'.map (·.1)).length + 1) caps) (G'.map (·.1) ++ [.slice xa Fx.len xc]) := by rw [List.length_map, hm]; exact ho
      obtain ⟨hp1, hp2⟩ := ownL_pop ho'
      rw [List.length_map, hm] at hp1 hp2
      rw [hnx] at hp2
      have HP1 := Lib.hid hp1
      have m0 : (0 : Int) ≤ m := by omega
      have m1 : (m : Int) ≤ 1001 := by omega
      have m2 : (m : Int) + 1 - 1 = m := by omega
      have m3 : (0 : Int) < (m : Int) + 1 := by omega
      have HWX := Lib.hid hwx
      rw [hnx] at HWX
      clear ho hp1 ho' hwl hwx hnx hm
      go_wp2
      go_loopg [6, 8, 32] nx (fun gi sv2 _ iv wx => ∃ (j : Nat) (R : Fo) (D : List (Value × Fo)), iv = .int .i64 (j : Int) ∧ gi + j = nx ∧ InF Fx R j D ∧ CatF w b5 bB (.slice a1 n c1) L k wx ∧ OwnL bB wx sv2 ((G' ++ D).map (·.1)) ∧ (∀ y ∈ G' ++ D, WLi w.heap.size b5 wx y) ∧ WLi w.heap.size b5 wx (.slice xa nx xc, Fx))
      case atStart => exact ⟨0, Fx, [], rfl, by omega, ⟨by omega, fun i => by rw [Nat.zero_add], by simp [FoNs]⟩, HCF.out, by rw [List.append_nil]; exact HP1.out, by rw [List.append_nil]; exact HWL.out, HWX.out⟩
      case round =>
        obtain ⟨j, R, D, rfl, hgj, hin, hcf2, ho2, hw2, hwx2⟩ := hrel
        have HC2 := Lib.hid hcf2
        have HO2 := Lib.hid ho2
        have HW2 := Lib.hid hw2
        have HX2 := Lib.hid hwx2
        clear hcf2 ho2 hw2 hwx2
        by_cases hlt : j < nx
        · cases R with
          | nil => exfalso; have := hin.1; have := HNX.out; simp [Fo.len] at *; omega
          | cons y0 y1 Y kids rest =>
            obtain ⟨HIN0, hat⟩ := hin.go (.slice none 0 0)
            have HIN := Lib.hid (fun u => (hin.go u).1)
            obtain ⟨g, cg, eg, hNg⟩ := HX2.out.2 (by have := HNX.out; show 0 < Fx.len; omega)
            simp only [Value.slice.injEq] at eg
            obtain ⟨rfl, -, rfl⟩ := eg
            obtain ⟨a0, c0, e0, q1, q2, q3, q4⟩ := HX2.out.1
            simp only [Value.slice.injEq] at e0
            obtain ⟨rfl, -, rfl⟩ := e0
            obtain ⟨b', off', e1, hpg, hfo⟩ := q4 (by have := HNX.out; show 0 < Fx.len; omega)
            simp only [Option.some.injEq, Addr.mk.injEq, and_true] at e1
            obtain ⟨rfl, rfl⟩ := e1
            have hdb : g ≠ b5 ∧ DocB wr g := by
              rcases hpg with hp | ⟨_, h2, h3⟩
              · omega
              · exact ⟨h2, h3⟩
            obtain ⟨u, hcu, hfu⟩ := foPA_get Fx g 0 j y0 y1 Y kids hfo hat
            rw [Nat.zero_add] at hcu
            have hfu' := hfu
            obtain ⟨ua, uc, e2, -, -, -, -⟩ := hfu'
            obtain ⟨un, hun⟩ : ∃ m, kids.len = m := ⟨_, rfl⟩
            rw [hun] at e2
            subst e2
            have hun2 : un ≤ 1000 := by
              have h1 := fo_len_n kids
              have h2 := HKF.out.1
              have h3 := hin.2.2
              simp only [FoN] at h3
              omega
            have CL1 := Lib.hid (cloneF ua un uc kids wr (hfu.fos HC2.out.bl.size) hun2)
            have HFU := Lib.hid hfu
            have HDB := Lib.hid hdb
            have HNG := Lib.hid hNg
            have HUN := Lib.hid hun
            have HLEN : Hid ((G' ++ D).length ≤ 1001) := Lib.hid (by
              have h1 := foNs_len (G' ++ D)
              rw [foNs_append] at h1
              have h2 := hin.2.2
              have h3 := HKF.out.2.1
              omega)
            have HGLT := Lib.hid hdb.2.lt
            have j0 : (0 : Int) ≤ j := by omega
            have j1 : (j : Int) < nx := by omega
            clear hin HIN0 hat q1 q2 q3 q4 hfo hfu hun hpg hdb hNg
            as_aux_lemma =>
              go_wp2_with fail
              refine (CL1.out).mono ?_
              rintro e w2 ⟨a', c', rfl, k1, k2, k3, hb2, kc⟩
              obtain ⟨cf2, kp2⟩ := HC2.out.below hb2
              have dg2 : DocB w2 g := by obtain ⟨cs, hcs⟩ := HDB.out.2; exact ⟨cs, by rw [hb2.block g HGLT.out]; exact hcs⟩
              have q5 := (hb2.cell (p := ⟨g, j * 4 + 3, none⟩) HGLT.out).trans hcu
              have hfz := dg2.frozen (j * 4 + 3)
              have HH := clone_reads (N := w.heap.size) (b5 := b5) (uc := uc) k1 k2 k3 (by have := HC2.out.bB; have := hwB.out; omega) (fun x h1 _ => by have := HC2.out.bB; have := h5B.out; omega) kc
              obtain ⟨cf3, kp3⟩ := cf2.store HNG.out HDB.out.1 q5 k1 k2 k3 HH
              have CF3' := Lib.hid cf3
              have KP3' := Lib.hid (kp2.trans kp3)
              have NEWF := Lib.hid (kp3.fo _ _ (HH kids (kp2.fo _ _ HFU.out)))
              have NEWX : Hid (0 < kids.len → ∃ g c, (Value.slice a' un c') = .slice (some ⟨g, 0, none⟩) kids.len c ∧ w.heap.size < g) := Lib.hid (fun h0 => by
                obtain ⟨b, off, g', _, e2, e3, _⟩ := kc (by rw [← HUN.out]; exact h0)
                exact ⟨g', c', by rw [e2, HUN.out], by have := HC2.out.bB; have := hwB.out; omega⟩)
              have HO3 : Hid (OwnL bB (w2.setCell ⟨g, j * 4 + 3, none⟩ (.slice a' un c')) u6 ((G' ++ D).map (·.1))) := Lib.hid (OwnV.setOther (OwnV.keep HO2.out hb2) ⟨g, j * 4 + 3, none⟩ _ (fun e => ownL_ne HO2.out HDB.out.2 e.symm))
              have qS : (w2.setCell ⟨g, j * 4 + 3, none⟩ (.slice a' un c')).cell? ⟨g, j * 4 + 3, none⟩ = some (.slice a' un c') := World.cell?_setCell_same _ _ _ q5
              obtain ⟨wS, hwS⟩ : ∃ W, w2.setCell ⟨g, j * 4 + 3, none⟩ (.slice a' un c') = W := ⟨_, rfl⟩
              have HWS := Lib.hid hwS
              rw [hwS] at CF3' KP3' NEWF HO3 qS
              clear k1 k2 k3 hb2 kc cf2 kp2 HH cf3 kp3 hwS dg2
              go_upto_region 10 with fail
              rw [HWS.out]
              obtain ⟨cf4, kp4⟩ := CF3'.out.below ((Below.refl wS.heap.size wS).alloc (Nat.le_refl _) (.cells #[.slice a' un c'] 22))
              have HO4 := Lib.hid (OwnV.keep HO3.out ((Below.refl wS.heap.size wS).alloc (Nat.le_refl _) (.cells #[.slice a' un c'] 22)))
              have CF4 := Lib.hid cf4
              have KP4 := Lib.hid (KP3'.out.trans kp4)
              have KP4' := Lib.hid kp4
              clear cf4 kp4
              go_wp2_with (at_builtin; refine wpl_appendVG rfl _ _ rfl Try.underlying58 infoSl rfl (by decide) bB u6 (.slice (some ⟨wS.heap.size, 0, none⟩) 1 1) (((G' ++ D).map (·.1)).map fun u => [u]) [[Value.slice a' un c']] (((G' ++ (D ++ [(Value.slice a' un c', kids)])).map (·.1)).map fun u => [u]) rfl HO4.out rfl (vs_cells 1 22 wS [[.slice a' un c']] #[.slice a' un c'] 1 rfl (by simp) rfl (by simp)) (nnv_some _ _ _) (by simp) (by simp; rfl) (by have := HLEN.out; rw [List.length_map, List.length_map]; simp only [List.length_singleton]; omega) (by decide) CF4.out.bB (by simp) ?_)
              intro v2 w4 ho2 hb4 hfr4 _
              obtain ⟨cf5, kp5⟩ := CF4.out.append HO4.out h5B.out hwB.out hb4 (fun j h1 h2 => hfr4 j (by simpa using h1) h2)
              have kp6 := KP4.out.trans kp5
              have kp7 := KP4'.out.trans kp5
              have hnew : WLi w.heap.size b5 w4 (.slice a' un c', kids) := ⟨kp7.fo _ _ NEWF.out, NEWX.out⟩
              clear hb4 hfr4 kp5
              go_wp2
              go_roundg (nx - (j + 1))
              case rel =>
                refine ⟨j + 1, rest, D ++ [(.slice a' un c', kids)], by go_num, by omega, HIN.out (.slice a' un c'), cf5, (by unfold OwnL; simpa using ho2), fun y hy => ?_, HX2.out.step kp6⟩
                rw [← List.append_assoc] at hy
                rcases List.mem_append.1 hy with hy | hy
                · exact (HW2.out y hy).step kp6
                · obtain rfl : y = (.slice a' un c', kids) := by simpa using hy
                  exact hnew
              case measure => omega
        · obtain rfl : j = nx := by omega
          have t1 : decide ((j : Int) < j) = false := by simp
          have hnil : R = .nil := by
            have h1 := hin.1
            have h2 := HNX.out
            cases R with
            | nil => rfl
            | cons _ _ _ _ _ => simp [Fo.len] at h1; omega
          subst hnil
          have hfn : Hid (FoNs (G' ++ D) = FoNs G' + FoN Fx) := Lib.hid (by rw [foNs_append]; have := hin.2.2; simp only [FoN] at this; omega)
          clear hlt hin
          as_aux_lemma =>
            go_wp2
            go_roundg (FoNs (G' ++ D))
            case rel => exact ⟨HC2.out, G' ++ D, rfl, by rw [hfn.out]; exact HKF.out.2.1, HO2.out, HW2.out⟩
            case measure => rw [hfn.out]; exact HKF.out.2.2
end Go.Proofs.Ytghkhammobodgaa
