/- Texts of ours in one: ZRb. -/
import Derived.Test.YtlobinjdgcidmaaDoorQj36
import Derived.Test.YtlobinjdgcidmaaDoorQj16
import Derived.Test.YtlobinjdgcidmaaDoorQj42
import Derived.Deep.QuietTactic
import Derived.BigQuiet
/- The page's Jparse of any bytes. -/
namespace Go.Proofs.YtlobinjdgcidmaaDoor
open Go.RowKit
set_option linter.unusedVariables false
set_option linter.unusedSimpArgs false

set_option maxRecDepth 100000 in
set_option maxHeartbeats 1000000 in
theorem zcap_any (x lo hi : Int) (w : World) (y : Int) (h : (if x < lo then lo else if hi < x then hi else x) = y) :
    Calls Tryd.prog 20 #[.int .i64 x, .int .i64 lo, .int .i64 hi] w fun e w' => e = .returned (.int .i64 y) ∧ w' = w := by
  by_cases h1 : x < lo
  · rw [if_pos h1] at h
    subst h
    go_enter Tryd.func20, Tryd.ntmps20
    go_wp2
    go_ret
    exact ⟨rfl, rfl⟩
  · rw [if_neg h1] at h
    have t1 : lo ≤ x := by omega
    by_cases h2 : hi < x
    · rw [if_pos h2] at h
      subst h
      go_enter Tryd.func20, Tryd.ntmps20
      go_wp2
      go_ret
      exact ⟨rfl, rfl⟩
    · rw [if_neg h2] at h
      have t2 : x ≤ hi := by omega
      subst h
      go_enter Tryd.func20, Tryd.ntmps20
      go_wp2
      go_ret
      exact ⟨rfl, rfl⟩
set_option maxRecDepth 100000 in
set_option maxHeartbeats 8000000 in
theorem refjparse_any (v : Value) (l : List UInt8) (depth : Int) (w : World) (hX : TabX w) (hb : Bs w v l) :
    Calls Tryd.prog 9 #[v, .int .i64 depth] w (ParQ (parseV l depth) w) := by
  have hb' := hb
  obtain ⟨va, vc, rfl, g1, g2, g3⟩ := hb'
  clear g1 g2 g3
  obtain ⟨R, hR⟩ : ∃ R, parseV l depth = R := ⟨_, rfl⟩
  rw [hR]
  unfold parseV at hR
  obtain ⟨⟨ts, er, at'⟩, hSP⟩ : ∃ x, M.splitV l = x := ⟨_, rfl⟩
  rw [hSP] at hR
  simp only at hR
  have b4 := (Below.refl w.heap.size w).alloc (Nat.le_refl _) (.cells zv 36)
  have K4 := BK.new 36 w zv
  obtain ⟨W1, hW1⟩ : ∃ x, w.alloc (.cells zv 36) = x := ⟨_, rfl⟩
  rw [hW1] at b4 K4
  have b5 := (Below.refl W1.heap.size W1).alloc (Nat.le_refl _) (.cells #[.int .i64 0, .int .i64 0] 39)
  have K5 := BK.new 39 W1 #[.int .i64 0, .int .i64 0]
  obtain ⟨W2, hW2⟩ : ∃ x, W1.alloc (.cells #[.int .i64 0, .int .i64 0] 39) = x := ⟨_, rfl⟩
  rw [hW2] at b5 K5
  have HW1 := Lib.hid (show w.alloc (.cells #[.int .i64 0, .slice none 0 0, .bool false, .string ⟨#[]⟩, .string ⟨#[]⟩, .slice none 0 0, .int .i64 0, .int .i64 0, .slice none 0 0] 36) = W1 from hW1)
  have HW2 := Lib.hid hW2
  obtain ⟨p5, hp5⟩ : ∃ x, w.heap.size + 1 = x := ⟨_, rfl⟩
  have hs1 : W1.heap.size = p5 := by rw [← hW1, ← hp5]; simp
  rw [hs1] at K5 b5
  have l4 := K4.lt
  have l5 := K5.lt
  have B2 := Lib.hid (b4.trans (b5.mono (by omega)))
  have K42 := Lib.hid (K4.keep (by rw [hs1]; exact b5))
  have K52 := Lib.hid K5
  have SP := Lib.hid (refjlex_all _ l (ts, er, at') W2 (hb.keep B2.out) hSP)
  unfold SpP fv at SP
  simp only at SP
  have HBs := Lib.hid (hb.keep B2.out)
  have HX2 := Lib.hid (hX.keep B2.out)
  clear hs1 hW1 hW2 b4 b5 K4 K5 hX hb
  go_enter Tryd.func9, Tryd.ntmps9
  go_upto_region 1 with fail
  rw [HW1.out, HW2.out]
  go_wp2_with fail
  refine SP.out.mono ?_
  rintro e w3 ⟨tv, rfl, ot, hb3⟩
  have b6 := (Below.refl w3.heap.size w3).alloc (Nat.le_refl _) (.cells #[.int .i64 er, .int .i64 at'] 39)
  have K7 := BK.new 39 w3 #[.int .i64 er, .int .i64 at']
  have hs3 := hb3.size
  have K43 := Lib.hid ((K42.out.keep hb3).keep b6)
  have K53 := Lib.hid ((K52.out.keep hb3).keep b6)
  have B3 := Lib.hid ((B2.out.trans (hb3.mono (by omega))).trans (b6.mono (by have := B2.out.size; omega)))
  have tk3 : Ts _ tv ts := Vs.keep (OwnV.vs ot) b6
  have BS3 := (HBs.out.keep hb3).keep b6
  have TX3 := (HX2.out.keep hb3).keep b6
  obtain ⟨W3, hW3⟩ : ∃ x, w3.alloc (.cells #[.int .i64 er, .int .i64 at'] 39) = x := ⟨_, rfl⟩
  rw [hW3] at K43 K53 B3 K7 tk3 b6 BS3 TX3
  have l43 := K43.out.lt
  have l53 := K53.out.lt
  have h53 : p5 < w3.heap.size := by omega
  obtain ⟨p7, hp7⟩ : ∃ x, w3.heap.size = x := ⟨_, rfl⟩
  rw [hp7] at K7 h53
  have HW3 := Lib.hid hW3
  have TK3 := Lib.hid tk3
  have B3S := Lib.hid BS3
  have X3 := Lib.hid TX3
  have K73 := Lib.hid K7
  have l73 := K7.lt
  clear hW3 tk3 b6 hb3 ot BS3 TX3 K7
  obtain ⟨ta, tc, rfl, -⟩ := TK3.out
  go_upto_region 2 with fail
  rw [HW3.out]
  (try rw [hp7])
  have e7 : W3.cell? ⟨p7, 0, none⟩ = some (.int .i64 er) := K73.out.cell 0
  by_cases h0 : er = 0
  · subst h0
    rw [if_pos rfl] at hR
    obtain ⟨hl2, ha, hlx, hva⟩ := split_zero l ts at' hSP
    subst ha
    obtain ⟨htk, htl⟩ := lex_in l ts hlx
    obtain ⟨hD1, hD2⟩ := dpN_int depth
    clear hSP hlx hva
    rw [← par_agr] at hR
    unfold parR at hR
    have BK8 := BK.new 58 W3 #[.slice va l.length vc, .slice ta (tvs ts).length tc, .int .i64 0, .int .i64 0, .int .i64 0]
    have b8 := (Below.refl W3.heap.size W3).alloc (Nat.le_refl _) (.cells #[.slice va l.length vc, .slice ta (tvs ts).length tc, .int .i64 0, .int .i64 0, .int .i64 0] 58)
    obtain ⟨W4, hW4⟩ : ∃ x, W3.alloc (.cells #[.slice va l.length vc, .slice ta (tvs ts).length tc, .int .i64 0, .int .i64 0, .int .i64 0] 58) = x := ⟨_, rfl⟩
    rw [hW4] at BK8 b8
    have rd : RdP W3 (.slice va l.length vc) (.slice ta (tvs ts).length tc) l ts W4 (.ok ts) := ⟨0, ⟨BK8, b8, B3S.out, TK3.out, X3.out, Nat.zero_le _, hl2, by omega⟩, rfl⟩
    have K44 := Lib.hid (K43.out.keep b8)
    have K54 := Lib.hid (K53.out.keep b8)
    have B4 := Lib.hid (B3.out.trans (b8.mono (by have := B3.out.size; omega)))
    have h44 := b8.size
    have l84 := BK8.lt
    have HW4 := Lib.hid hW4
    obtain ⟨DV, hDV⟩ : ∃ q : Int, (if depth < 0 then 0 else if 60 < depth then 60 else depth) = q := ⟨_, rfl⟩
    have hdv : ((dpN depth : Nat) : Int) = DV := by rw [hD1, ← hDV]; split <;> (try split) <;> omega
    have CP := Lib.hid (zcap_any depth 0 60 W4 DV hDV)
    have VA0 := rdval_all W3 (.slice va l.length vc) (.slice ta (tvs ts).length tc) l ts htk ts.length (g := 2 * ts.length + 2) hdv (by omega) (Nat.le_refl _) (by show 2 * ts.length + 1 ≤ _; omega) rd
    unfold ptrP at VA0
    obtain ⟨⟨h, kids, st⟩, hV⟩ : ∃ x, valR l (2 * ts.length + 2) (dpN depth) (.ok ts) = x := ⟨_, rfl⟩
    rw [hV] at hR VA0
    simp only at hR VA0
    have VA := Lib.hid VA0
    clear VA0 hV hD1 hD2 hDV hdv rd BK8 b8 hW4
    go_upto_region 5 with fail
    rw [HW4.out]
    clear e7
    go_wp2_with fail
    refine CP.out.mono ?_
    rintro e w' ⟨rfl, hw⟩
    rw [hw]
    clear hw w'
    go_wp2_with fail
    refine VA.out.mono ?_
    rintro e w6 ⟨tv, v, mv, rfl, hd, hv, hq⟩
    have t1 := hd.t.one
    have t2 := hv.one
    have t3 := hd.m.one
    have hs6 := hq.2.lo.size
    have l44 := K44.out.lt
    have l54 := K54.out.lt
    have K46 := Lib.hid (K44.out.frame (hq.2.oth _ l44 (by omega)))
    have K56 := Lib.hid (K54.out.frame (hq.2.oth _ l54 (by omega)))
    have B6 := Lib.hid (B4.out.trans (hq.2.lo.mono (by have := B3.out.size; omega)))
    have XB := Lib.hid (BK.new 36 w6 zv)
    have HA := Lib.hid (show w6.alloc (.cells #[.int .i64 0, .slice none 0 0, .bool false, .string ⟨#[]⟩, .string ⟨#[]⟩, .slice none 0 0, .int .i64 0, .int .i64 0, .slice none 0 0] 36) = w6.alloc (.cells zv 36) from rfl)
    have al := (Below.refl w6.heap.size w6).alloc (Nat.le_refl _) (.cells zv 36)
    have al2 := below_setRowK al (Nat.le_refl _) (vv h tv v mv)
    have XV := XB.out.set (vv h tv v mv)
    have K4A := K46.out.keep al2
    have K5A := K56.out.keep al2
    have XA := hq.1.keep al2
    have hdA := (hd.keep (fun b hb => al2.block b hb.2)).mono (Q := fun b => W4.heap.size ≤ b ∧ b < ((w6.alloc (.cells zv 36)).setRow w6.heap.size (vv h tv v mv)).heap.size) (fun b hb => ⟨hb.1, by have := hb.2; have := al2.size; omega⟩)
    have hvA := (hv.keep (fun b hb => al2.block b hb.2)).mono (Q := fun b => W4.heap.size ≤ b ∧ b < ((w6.alloc (.cells zv 36)).setRow w6.heap.size (vv h tv v mv)).heap.size) (fun b hb => ⟨hb.1, by have := hb.2; have := al2.size; omega⟩)
    have BA := B6.out.trans (al2.mono (by have := B6.out.size; omega))
    obtain ⟨p9, hp9⟩ : ∃ x, w6.heap.size = x := ⟨_, rfl⟩
    obtain ⟨WA, hWA⟩ : ∃ x, (w6.alloc (.cells zv 36)).setRow w6.heap.size (vv h tv v mv) = x := ⟨_, rfl⟩
    rw [hWA] at XV K4A K5A XA hdA hvA BA
    rw [hp9] at XV
    have HWA := Lib.hid (show (w6.alloc (.cells #[.int .i64 0, .slice none 0 0, .bool false, .string ⟨#[]⟩, .string ⟨#[]⟩, .slice none 0 0, .int .i64 0, .int .i64 0, .slice none 0 0] 36)).setRow w6.heap.size (vv h tv v mv) = WA from hWA)
    have h69 : W3.heap.size < p9 := by omega
    have HP9 := Lib.hid hp9
    clear hp9
    have K4A := Lib.hid K4A
    have K5A := Lib.hid K5A
    have XA := Lib.hid XA
    have hdA := Lib.hid hdA
    have hvA := Lib.hid hvA
    have BA := Lib.hid BA
    have XV := Lib.hid XV
    clear hWA al al2 hd hv hq CP VA K46 K56 B6
    go_upto_region 6 with (refine wpl_stV rfl _ _ rfl w6.heap.size zv h tv v mv rfl rfl XB.out rfl t1 t2 t3 ?_)
    rw [HWA.out]
    (try rw [HP9.out])
    clear XB HA
    cases st with
    | error x =>
      simp only at hR
      subst hR
      have FA := Lib.hid (fun (V : World) (y : RdP W3 (.slice va l.length vc) (.slice ta (tvs ts).length tc) l ts V (.error x)) => rdfail_any (e' := 3) (by decide) y)
      unfold ptrP at FA
      obtain ⟨hx0, n, x8⟩ := XA.out
      obtain ⟨c0, c1, c2, c3, c4⟩ := x8.cells
      have tl := tvs_len ts
      by_cases hn : n < ts.length
      · have t5 : decide ((n : Int) < ((tvs ts).length : Nat)) = true := by simp; omega
        clear x8
        go_wp2_with fail
        refine (FA.out WA XA.out).mono ?_
        rintro e W8 ⟨rfl, hq8⟩
        have K4W := Lib.hid (K4A.out.frame (hq8.2.oth _ K4A.out.lt (by omega)))
        have K5W := Lib.hid (K5A.out.frame (hq8.2.oth _ K5A.out.lt (by omega)))
        have XW := Lib.hid (show RdP W3 (.slice va l.length vc) (.slice ta (tvs ts).length tc) l ts W8 (.error x) from hq8.1)
        have BW := Lib.hid (BA.out.trans (hq8.2.lo.mono (by have := B3.out.size; omega)))
        clear hq8 c0 c1 c2 c3 c4
        obtain ⟨hx0, n8, x8⟩ := XW.out
        obtain ⟨c0, c1, c2, c3, c4⟩ := x8.cells
        obtain ⟨xe, xa⟩ := x
        simp only at hx0 c3 c4
        have t6 : (xe != 0) = true := by simpa using hx0
        have BKX := Lib.hid x8.blk
        clear x8
        go_upto_region 9 with fail
        refine wp_region_noPanic ?_
        have D4 := Lib.hid ((Below.refl W8.heap.size W8).drew)
        have K4D := Lib.hid (K4W.out.keep D4.out)
        have K5D := Lib.hid (K5W.out.keep D4.out)
        have K7D := Lib.hid (BKX.out.keep D4.out)
        have BD := Lib.hid (BW.out.trans (D4.out.mono (by have := BW.out.size; omega)))
        have SR : ∀ V : World, BK 58 V W3.heap.size #[.slice va l.length vc, .slice ta (tvs ts).length tc, .int .i64 (n8 : Int), .int .i64 xe, .int .i64 xa] → V.rangeAt W3.heap.size 3 [.int .i64 xe, .int .i64 xa] := fun V k => k.range 3 _ (fun j u h => by rcases j with _ | _ | j <;> simp at h ⊢ <;> exact h)
        refine wp_region_to 6 (S := fun V => V.rangeAt W3.heap.size 3 [.int .i64 xe, .int .i64 xa]) (by kernel_rfl) (SR _ K7D.out) (fun hS => ?_)
        obtain ⟨WD, hWD⟩ : ∃ x, W8.drew = x := ⟨_, rfl⟩
        rw [hWD] at K4D K5D K7D BD hS ⊢
        clear hWD c0 c1 c2 c3 c4
        refine dtp (v := .agg zvl.toArray) 0 (hy := Or.inl ⟨by rfl, by intro V hSV; kernel_rfl⟩) ?_
        refine dtp 1 ?_
        refine dtp 2 ?_
        refine dtp 3 ?_
        refine dtk (v := .agg #[.int .i64 xe, .int .i64 xa]) 4 (hy := yieldsIf_load_mid (by rfl) 39 _ rfl W3.heap.size 3 rfl [.int .i64 xe, .int .i64 xa] _ (fun w hS => hS) Tryd.underlying39 rfl infoF1) ?_
        refine AnyTo.ready (rs := [5]) (by kernel_rfl) (by simp) ?_
        refine ReadyTo.cons rfl (fun K hK => ?_) ReadyTo.nil
        rw [if_pos (by rfl)]
        refine wp_store_row 36 _ _ rfl w.heap.size zvl.toArray rfl rfl 36 zv K4D.out infoV1 rfl (vv_one ⟨0, [], false, [], [], 0, 0, []⟩ rfl rfl rfl) ?_
        have K5E := K5D.out.frame (setRow_other WD w.heap.size p5 zvl.toArray (by omega))
        have K7E := K7D.out.frame (setRow_other WD w.heap.size W3.heap.size zvl.toArray (by omega))
        have K4E := K4D.out.set zvl.toArray
        have BE := below_setRowK BD.out (Nat.le_refl _) zvl.toArray
        refine hK.out _ _ (SR _ K7E) (fun hS => ?_)
        clear hK K
        refine AnyTo.ready (rs := [6]) (by kernel_rfl) (by simp) ?_
        refine ReadyTo.last rfl (by kernel_rfl) (fun K hK => ?_) ReadyTo.nil
        rw [if_pos (by rfl)]
        refine wp_store_row 39 _ _ rfl p5 #[.int .i64 xe, .int .i64 xa] rfl rfl 39 _ K5E infoF1 rfl (by simp [Value.oneCell']) ?_
        refine hK.out _ _ ?_
        clear hK K
        refine AnyTo.done (by kernel_rfl) ?_ _
        refine NoPanic.normal ?_
        have K4F := K4E.frame (setRow_other (WD.setRow w.heap.size zvl.toArray) p5 w.heap.size #[.int .i64 xe, .int .i64 xa] (by omega))
        have K5F := K5E.set #[.int .i64 xe, .int .i64 xa]
        have BF := below_setRowK BE (show w.heap.size ≤ p5 by omega) #[.int .i64 xe, .int .i64 xa]
        obtain ⟨WF, hWF⟩ : ∃ x, (WD.setRow w.heap.size zvl.toArray).setRow p5 #[.int .i64 xe, .int .i64 xa] = x := ⟨_, rfl⟩
        rw [hWF] at K4F K5F BF ⊢
        go_wp2
        refine bodyPost_ret (res_vf rfl _ _ w.heap.size p5 zvl [.int .i64 xe, .int .i64 xa] rfl rfl K4F rfl K5F rfl) rfl ?_
        unfold ParQ
        (try rw [HXE.out])
        exact ⟨rfl, BF⟩
      · have t5 : decide ((n : Int) < ((tvs ts).length : Nat)) = false := by simp; omega
        clear x8
        go_upto_region 8 with fail
        obtain ⟨W8, hW8⟩ : ∃ x, WA = x := ⟨_, rfl⟩
        have K4W := Lib.hid (hW8 ▸ K4A.out)
        have K5W := Lib.hid (hW8 ▸ K5A.out)
        have XW := Lib.hid (hW8 ▸ XA.out)
        have BW := Lib.hid (hW8 ▸ BA.out)
        rw [hW8]
        clear hW8 c0 c1 c2 c3 c4
        obtain ⟨hx0, n8, x8⟩ := XW.out
        obtain ⟨c0, c1, c2, c3, c4⟩ := x8.cells
        obtain ⟨xe, xa⟩ := x
        simp only at hx0 c3 c4
        have t6 : (xe != 0) = true := by simpa using hx0
        have BKX := Lib.hid x8.blk
        clear x8
        go_upto_region 9 with fail
        refine wp_region_noPanic ?_
        have D4 := Lib.hid ((Below.refl W8.heap.size W8).drew)
        have K4D := Lib.hid (K4W.out.keep D4.out)
        have K5D := Lib.hid (K5W.out.keep D4.out)
        have K7D := Lib.hid (BKX.out.keep D4.out)
        have BD := Lib.hid (BW.out.trans (D4.out.mono (by have := BW.out.size; omega)))
        have SR : ∀ V : World, BK 58 V W3.heap.size #[.slice va l.length vc, .slice ta (tvs ts).length tc, .int .i64 (n8 : Int), .int .i64 xe, .int .i64 xa] → V.rangeAt W3.heap.size 3 [.int .i64 xe, .int .i64 xa] := fun V k => k.range 3 _ (fun j u h => by rcases j with _ | _ | j <;> simp at h ⊢ <;> exact h)
        refine wp_region_to 6 (S := fun V => V.rangeAt W3.heap.size 3 [.int .i64 xe, .int .i64 xa]) (by kernel_rfl) (SR _ K7D.out) (fun hS => ?_)
        obtain ⟨WD, hWD⟩ : ∃ x, W8.drew = x := ⟨_, rfl⟩
        rw [hWD] at K4D K5D K7D BD hS ⊢
        clear hWD c0 c1 c2 c3 c4
        refine dtp (v := .agg zvl.toArray) 0 (hy := Or.inl ⟨by rfl, by intro V hSV; kernel_rfl⟩) ?_
        refine dtp 1 ?_
        refine dtp 2 ?_
        refine dtp 3 ?_
        refine dtk (v := .agg #[.int .i64 xe, .int .i64 xa]) 4 (hy := yieldsIf_load_mid (by rfl) 39 _ rfl W3.heap.size 3 rfl [.int .i64 xe, .int .i64 xa] _ (fun w hS => hS) Tryd.underlying39 rfl infoF1) ?_
        refine AnyTo.ready (rs := [5]) (by kernel_rfl) (by simp) ?_
        refine ReadyTo.cons rfl (fun K hK => ?_) ReadyTo.nil
        rw [if_pos (by rfl)]
        refine wp_store_row 36 _ _ rfl w.heap.size zvl.toArray rfl rfl 36 zv K4D.out infoV1 rfl (vv_one ⟨0, [], false, [], [], 0, 0, []⟩ rfl rfl rfl) ?_
        have K5E := K5D.out.frame (setRow_other WD w.heap.size p5 zvl.toArray (by omega))
        have K7E := K7D.out.frame (setRow_other WD w.heap.size W3.heap.size zvl.toArray (by omega))
        have K4E := K4D.out.set zvl.toArray
        have BE := below_setRowK BD.out (Nat.le_refl _) zvl.toArray
        refine hK.out _ _ (SR _ K7E) (fun hS => ?_)
        clear hK K
        refine AnyTo.ready (rs := [6]) (by kernel_rfl) (by simp) ?_
        refine ReadyTo.last rfl (by kernel_rfl) (fun K hK => ?_) ReadyTo.nil
        rw [if_pos (by rfl)]
        refine wp_store_row 39 _ _ rfl p5 #[.int .i64 xe, .int .i64 xa] rfl rfl 39 _ K5E infoF1 rfl (by simp [Value.oneCell']) ?_
        refine hK.out _ _ ?_
        clear hK K
        refine AnyTo.done (by kernel_rfl) ?_ _
        refine NoPanic.normal ?_
        have K4F := K4E.frame (setRow_other (WD.setRow w.heap.size zvl.toArray) p5 w.heap.size #[.int .i64 xe, .int .i64 xa] (by omega))
        have K5F := K5E.set #[.int .i64 xe, .int .i64 xa]
        have BF := below_setRowK BE (show w.heap.size ≤ p5 by omega) #[.int .i64 xe, .int .i64 xa]
        obtain ⟨WF, hWF⟩ : ∃ x, (WD.setRow w.heap.size zvl.toArray).setRow p5 #[.int .i64 xe, .int .i64 xa] = x := ⟨_, rfl⟩
        rw [hWF] at K4F K5F BF ⊢
        go_wp2
        refine bodyPost_ret (res_vf rfl _ _ w.heap.size p5 zvl [.int .i64 xe, .int .i64 xa] rfl rfl K4F rfl K5F rfl) rfl ?_
        unfold ParQ
        (try rw [HXE.out])
        exact ⟨rfl, BF⟩
    | ok ts2 =>
      obtain ⟨n, x8, hdr⟩ := XA.out
      obtain ⟨c0, c1, c2, c3, c4⟩ := x8.cells
      have tl := tvs_len ts
      cases ts2 with
      | cons t r =>
        simp only at hR
        subst hR
        have hn := (drop_next hdr).1
        have FA := Lib.hid (fun (V : World) (y : RdP W3 (.slice va l.length vc) (.slice ta (tvs ts).length tc) l ts V (.ok (t :: r))) => rdfail_any (e' := 3) (by decide) y)
        unfold ptrP at FA
        have t5 : decide ((n : Int) < ((tvs ts).length : Nat)) = true := by simp; omega
        clear x8 hdr
        go_wp2_with fail
        refine (FA.out WA XA.out).mono ?_
        rintro e W8 ⟨rfl, hq8⟩
        have K4W := Lib.hid (K4A.out.frame (hq8.2.oth _ K4A.out.lt (by omega)))
        have K5W := Lib.hid (K5A.out.frame (hq8.2.oth _ K5A.out.lt (by omega)))
        obtain ⟨x, hx⟩ : ∃ x, synP l.length (t :: r) = x := ⟨_, rfl⟩
        have XW := Lib.hid (show RdP W3 (.slice va l.length vc) (.slice ta (tvs ts).length tc) l ts W8 (.error x) from by rw [← hx]; exact hq8.1)
        have BW := Lib.hid (BA.out.trans (hq8.2.lo.mono (by have := B3.out.size; omega)))
        have HXE := Lib.hid hx
        clear hq8 c0 c1 c2 c3 c4 hx
        obtain ⟨hx0, n8, x8⟩ := XW.out
        obtain ⟨c0, c1, c2, c3, c4⟩ := x8.cells
        obtain ⟨xe, xa⟩ := x
        simp only at hx0 c3 c4
        have t6 : (xe != 0) = true := by simpa using hx0
        have BKX := Lib.hid x8.blk
        clear x8
        go_upto_region 9 with fail
        refine wp_region_noPanic ?_
        have D4 := Lib.hid ((Below.refl W8.heap.size W8).drew)
        have K4D := Lib.hid (K4W.out.keep D4.out)
        have K5D := Lib.hid (K5W.out.keep D4.out)
        have K7D := Lib.hid (BKX.out.keep D4.out)
        have BD := Lib.hid (BW.out.trans (D4.out.mono (by have := BW.out.size; omega)))
        have SR : ∀ V : World, BK 58 V W3.heap.size #[.slice va l.length vc, .slice ta (tvs ts).length tc, .int .i64 (n8 : Int), .int .i64 xe, .int .i64 xa] → V.rangeAt W3.heap.size 3 [.int .i64 xe, .int .i64 xa] := fun V k => k.range 3 _ (fun j u h => by rcases j with _ | _ | j <;> simp at h ⊢ <;> exact h)
        refine wp_region_to 6 (S := fun V => V.rangeAt W3.heap.size 3 [.int .i64 xe, .int .i64 xa]) (by kernel_rfl) (SR _ K7D.out) (fun hS => ?_)
        obtain ⟨WD, hWD⟩ : ∃ x, W8.drew = x := ⟨_, rfl⟩
        rw [hWD] at K4D K5D K7D BD hS ⊢
        clear hWD c0 c1 c2 c3 c4
        refine dtp (v := .agg zvl.toArray) 0 (hy := Or.inl ⟨by rfl, by intro V hSV; kernel_rfl⟩) ?_
        refine dtp 1 ?_
        refine dtp 2 ?_
        refine dtp 3 ?_
        refine dtk (v := .agg #[.int .i64 xe, .int .i64 xa]) 4 (hy := yieldsIf_load_mid (by rfl) 39 _ rfl W3.heap.size 3 rfl [.int .i64 xe, .int .i64 xa] _ (fun w hS => hS) Tryd.underlying39 rfl infoF1) ?_
        refine AnyTo.ready (rs := [5]) (by kernel_rfl) (by simp) ?_
        refine ReadyTo.cons rfl (fun K hK => ?_) ReadyTo.nil
        rw [if_pos (by rfl)]
        refine wp_store_row 36 _ _ rfl w.heap.size zvl.toArray rfl rfl 36 zv K4D.out infoV1 rfl (vv_one ⟨0, [], false, [], [], 0, 0, []⟩ rfl rfl rfl) ?_
        have K5E := K5D.out.frame (setRow_other WD w.heap.size p5 zvl.toArray (by omega))
        have K7E := K7D.out.frame (setRow_other WD w.heap.size W3.heap.size zvl.toArray (by omega))
        have K4E := K4D.out.set zvl.toArray
        have BE := below_setRowK BD.out (Nat.le_refl _) zvl.toArray
        refine hK.out _ _ (SR _ K7E) (fun hS => ?_)
        clear hK K
        refine AnyTo.ready (rs := [6]) (by kernel_rfl) (by simp) ?_
        refine ReadyTo.last rfl (by kernel_rfl) (fun K hK => ?_) ReadyTo.nil
        rw [if_pos (by rfl)]
        refine wp_store_row 39 _ _ rfl p5 #[.int .i64 xe, .int .i64 xa] rfl rfl 39 _ K5E infoF1 rfl (by simp [Value.oneCell']) ?_
        refine hK.out _ _ ?_
        clear hK K
        refine AnyTo.done (by kernel_rfl) ?_ _
        refine NoPanic.normal ?_
        have K4F := K4E.frame (setRow_other (WD.setRow w.heap.size zvl.toArray) p5 w.heap.size #[.int .i64 xe, .int .i64 xa] (by omega))
        have K5F := K5E.set #[.int .i64 xe, .int .i64 xa]
        have BF := below_setRowK BE (show w.heap.size ≤ p5 by omega) #[.int .i64 xe, .int .i64 xa]
        obtain ⟨WF, hWF⟩ : ∃ x, (WD.setRow w.heap.size zvl.toArray).setRow p5 #[.int .i64 xe, .int .i64 xa] = x := ⟨_, rfl⟩
        rw [hWF] at K4F K5F BF ⊢
        go_wp2
        refine bodyPost_ret (res_vf rfl _ _ w.heap.size p5 zvl [.int .i64 xe, .int .i64 xa] rfl rfl K4F rfl K5F rfl) rfl ?_
        unfold ParQ
        (try rw [HXE.out])
        exact ⟨rfl, BF⟩
      | nil =>
        simp only at hR
        subst hR
        have hn : n = ts.length := by
          have := x8.hn
          have h5 := List.drop_eq_nil_iff.1 hdr
          omega
        have t5 : decide ((n : Int) < ((tvs ts).length : Nat)) = false := by simp; omega
        have K40 := K4A.out
        have K50 := K5A.out
        have V9 : VB WA p9 h tv v mv := XV.out
        have K4Z := K40.set (vv h tv v mv)
        have K5Z := K50.frame (setRow_other WA w.heap.size p5 (vv h tv v mv) (by omega))
        have BZ := below_setRowK BA.out (Nat.le_refl _) (vv h tv v mv)
        have K4Y := K4Z.frame (setRow_other (WA.setRow w.heap.size (vv h tv v mv)) p5 w.heap.size #[.int .i64 0, .int .i64 0] (by omega))
        have K5Y := K5Z.set #[.int .i64 0, .int .i64 0]
        have BY := below_setRowK BZ (show w.heap.size ≤ p5 by omega) #[.int .i64 0, .int .i64 0]
        clear x8 hdr
        go_wp2_with (first | (refine wpl_ldV rfl _ rfl p9 0 h tv v mv rfl (VB.range V9) ?_) | (refine wpl_stV rfl _ _ rfl w.heap.size zv h tv v mv rfl rfl K40 rfl t1 t2 t3 ?_) | (refine wpl_stK infoF1 rfl _ _ rfl p5 _ #[.int .i64 0, .int .i64 0] rfl rfl K5Z rfl rfl (by simp [Value.oneCell']) ?_))
        go_wp2
        refine bodyPost_ret (res_vf rfl _ _ w.heap.size p5 (vvl h tv v mv) [.int .i64 0, .int .i64 0] rfl rfl K4Y rfl K5Y rfl) rfl ?_
        unfold ParQ
        dsimp only
        have ke : ∀ b, (W4.heap.size ≤ b ∧ b < WA.heap.size) → ((WA.setRow w.heap.size (vv h tv v mv)).setRow p5 #[.int .i64 0, .int .i64 0]).heap[b]? = WA.heap[b]? := fun b hb => by
          have := hb.1
          rw [setRow_other _ _ _ _ (by omega), setRow_other _ _ _ _ (by omega)]
        have hsz : WA.heap.size ≤ ((WA.setRow w.heap.size (vv h tv v mv)).setRow p5 #[.int .i64 0, .int .i64 0]).heap.size := (below_setRowK (below_setRowK (Below.refl 0 WA) (Nat.zero_le _) (vv h tv v mv)) (Nat.zero_le _) _).size
        have km : ∀ b, (W4.heap.size ≤ b ∧ b < WA.heap.size) → Nw w.heap.size ((WA.setRow w.heap.size (vv h tv v mv)).setRow p5 #[.int .i64 0, .int .i64 0]) b := fun b hb => ⟨by have := hb.1; omega, by have := hb.2; omega⟩
        exact ⟨tv, v, mv, rfl, (hdA.out.keep ke).mono km, (hvA.out.keep ke).mono km, BY⟩
  · rw [if_neg h0] at hR
    subst hR
    have t1 : (er != 0) = true := by simpa using h0
    go_upto_region 3 with fail
    refine wp_region_noPanic ?_
    have D4 := Lib.hid ((Below.refl W3.heap.size W3).drew)
    have K4D := Lib.hid (K43.out.keep D4.out)
    have K5D := Lib.hid (K53.out.keep D4.out)
    have K7D := Lib.hid (K73.out.keep D4.out)
    have BD := Lib.hid (B3.out.trans (D4.out.mono (by have := B3.out.size; omega)))
    refine wp_region_to 3 (S := fun V => V.rangeAt p7 0 [.int .i64 er, .int .i64 at']) (by kernel_rfl) (K7D.out.range 0 _ (fun j u h => by rw [Nat.zero_add]; simpa using h)) (fun hS => ?_)
    obtain ⟨WD, hWD⟩ : ∃ x, W3.drew = x := ⟨_, rfl⟩
    rw [hWD] at K4D K5D K7D BD hS ⊢
    clear hWD
    refine dtp (v := .agg zvl.toArray) 0 (hy := Or.inl ⟨by rfl, by intro V hSV; kernel_rfl⟩) ?_
    refine dtk (v := .agg #[.int .i64 er, .int .i64 at']) 1 (hy := yieldsIf_load_mid (by rfl) 39 _ rfl p7 0 rfl [.int .i64 er, .int .i64 at'] _ (fun w hS => hS) Tryd.underlying39 rfl infoF1) ?_
    refine AnyTo.ready (rs := [2]) (by kernel_rfl) (by simp) ?_
    refine ReadyTo.cons rfl (fun K hK => ?_) ReadyTo.nil
    rw [if_pos (by rfl)]
    refine wp_store_row 36 _ _ rfl w.heap.size zvl.toArray rfl rfl 36 zv K4D.out infoV1 rfl (vv_one ⟨0, [], false, [], [], 0, 0, []⟩ rfl rfl rfl) ?_
    have K5E := K5D.out.frame (setRow_other WD w.heap.size p5 zvl.toArray (by omega))
    have K7E := K7D.out.frame (setRow_other WD w.heap.size p7 zvl.toArray (by omega))
    have K4E := K4D.out.set zvl.toArray
    have BE := below_setRowK BD.out (Nat.le_refl _) zvl.toArray
    refine hK.out _ _ (K7E.range 0 _ (fun j u h => by rw [Nat.zero_add]; simpa using h)) (fun hS => ?_)
    clear hK K
    refine AnyTo.ready (rs := [3]) (by kernel_rfl) (by simp) ?_
    refine ReadyTo.last rfl (by kernel_rfl) (fun K hK => ?_) ReadyTo.nil
    rw [if_pos (by rfl)]
    refine wp_store_row 39 _ _ rfl p5 #[.int .i64 er, .int .i64 at'] rfl rfl 39 _ K5E infoF1 rfl (by simp [Value.oneCell']) ?_
    refine hK.out _ _ ?_
    clear hK K
    refine AnyTo.done (by kernel_rfl) ?_ _
    refine NoPanic.normal ?_
    have K4F := K4E.frame (setRow_other (WD.setRow w.heap.size zvl.toArray) p5 w.heap.size #[.int .i64 er, .int .i64 at'] (by omega))
    have K5F := K5E.set #[.int .i64 er, .int .i64 at']
    have BF := below_setRowK BE (show w.heap.size ≤ p5 by omega) #[.int .i64 er, .int .i64 at']
    obtain ⟨WF, hWF⟩ : ∃ x, (WD.setRow w.heap.size zvl.toArray).setRow p5 #[.int .i64 er, .int .i64 at'] = x := ⟨_, rfl⟩
    rw [hWF] at K4F K5F BF ⊢
    go_wp2
    refine bodyPost_ret (res_vf rfl _ _ w.heap.size p5 zvl [.int .i64 er, .int .i64 at'] rfl rfl K4F rfl K5F rfl) rfl ?_
    unfold ParQ
    exact ⟨rfl, BF⟩
end Go.Proofs.YtlobinjdgcidmaaDoor
