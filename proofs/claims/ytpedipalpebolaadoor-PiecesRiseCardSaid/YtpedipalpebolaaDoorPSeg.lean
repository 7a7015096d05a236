/- pieces.Segments, the reference's Segments and SameSegments, and the law's Few: for any pieces. -/
import Derived.Test.YtpedipalpebolaaDoorPAll
import Derived.Test.YtpedipalpebolaaDoorPRef
import Derived.Test.YtpedipalpebolaaDoorUConv
import Derived.Deep.RegionHeld3
namespace Go.Proofs.YtpedipalpebolaaDoor
open Go.RowKit
set_option linter.unusedVariables false
set_option linter.unusedSimpArgs false

def SgP (w : World) (l : List M.Sg) (e : Ending) (w' : World) : Prop := ∃ v', e = .returned v' ∧ OwnS w.heap.size w' v' l ∧ Below w.heap.size w w'
theorem lsAt_get {B : Nat} {w : World} {a : Option Addr} {n cap : Nat} {l : List (Nat × Nat × Nat)} (h : LsAt B w (.slice a n cap) l) (j : Nat) (hj : j < l.length) :
    ∃ b off, a = some ⟨b, off, none⟩ ∧ b < B ∧ w.cell? ⟨b, off + j * 3, none⟩ = some (.int .i64 (l[j].1 : Int)) ∧ w.cell? ⟨b, off + j * 3 + 1, none⟩ = some (.int .i64 (l[j].2.1 : Int)) ∧ w.cell? ⟨b, off + j * 3 + 2, none⟩ = some (.int .i64 (l[j].2.2 : Int)) := by
  obtain ⟨a', c', hs, h3⟩ := h
  simp only [Value.slice.injEq] at hs
  obtain ⟨rfl, _, _⟩ := hs
  obtain ⟨b, off, rfl, hb, hc⟩ := h3 (by omega)
  exact ⟨b, off, rfl, hb, hc j hj⟩
theorem ownsRow_low {B C : Nat} {w : World} {e : TypeId} {s : Nat} {v : Value} {n : Nat} {xs : List Value} (h : w.ownsRow B e s v n xs) (hC : C ≤ B) : w.ownsRow C e s v n xs := by
  obtain ⟨h1, h2 | ⟨g, cap, cur, e, h3, h4⟩⟩ := h
  · exact ⟨h1, .inl h2⟩
  · exact ⟨h1, .inr ⟨g, cap, cur, e, Nat.le_trans hC h3, h4⟩⟩
theorem below_two (w : World) (A B : Obj) : Below w.heap.size w ((w.alloc A).alloc B).drew := (((Below.refl _ _).alloc (Nat.le_refl _) _).alloc (by simp) _).drew
theorem one_seg2 (w : World) (A B : Obj) (a b c d : Nat) : Vs 4 (((w.alloc A).alloc B).drew.alloc (.cells #[.int .i64 (a : Int), .int .i64 (b : Int), .int .i64 (c : Int), .int .i64 (d : Int)] 35)) (.slice (some ⟨w.heap.size + 2, 0, none⟩) 1 1) [sgv (a, b, c, d)] := by
  have := one_seg ((w.alloc A).alloc B).drew a b c d
  simpa using this
theorem segs_len {L : M.Pcs} {n : Nat} (hn : L.length = n) (i : Nat) (hi : i ≤ n) (t src : List UInt8) : (M.segsP t src 0 (L.take i)).length ≤ n := by
  have := M.segsP_le t src (L.take i) 0
  rw [List.length_take] at this
  omega
set_option maxRecDepth 100000 in
set_option maxHeartbeats 4000000 in
theorem psegs_any (v vs : Value) (L : M.Pcs) (src t : List UInt8) (w : World) (hT : Tabs w) (hv : Ps w v L) (hvs : Bs w vs src) (hl : t.length ≤ 1000000) (hL : L.length ≤ 1000000) (hsrc : src.length ≤ 1000000) (ht : M.textP L = t) :
    Calls Tryd.prog 9 #[v, vs] w (SgP w (M.segsP t src 0 L)) := by
  have hpa := psAt_of hv
  obtain ⟨a, cap, rfl, h1, h2, -⟩ := id hpa
  obtain ⟨n, hn⟩ : ∃ n, L.length = n := ⟨_, rfl⟩
  obtain ⟨m, hm⟩ : ∃ n, src.length = n := ⟨_, rfl⟩
  have hvs2 := hvs
  obtain ⟨a9, caps, rfl, k1, k2, -⟩ := hvs2
  have HP := Lib.hid hpa
  have HV := Lib.hid hv
  have HVS := Lib.hid hvs
  have HN := Lib.hid hn
  have HM := Lib.hid hm
  have HT := Lib.hid hT
  have HTX := Lib.hid ht
  have htl := bytes_size t
  have htd := bytes_list t
  obtain ⟨S, hS⟩ : ∃ S, bytes t = S := ⟨_, rfl⟩
  rw [hS] at htl htd
  have TX := Lib.hid (fun W hV => ptext_any (.slice a L.length cap) L t W hV (by omega) (by omega) ht)
  have ST := Lib.hid (fun W hV => pstarts_any (.slice a L.length cap) L W hV (by rw [ht]; omega) (by omega))
  rw [hS] at TX
  rw [hn] at h1 hL TX ST ⊢
  rw [hm] at k1 hsrc ⊢
  have hconv := fun W => bw_conv W S
  have CONV := Lib.hid hconv
  have HTL := Lib.hid htl
  have HTD := Lib.hid htd
  have hS9 : S.size ≤ 1000000 := by omega
  clear hpa hv hvs hn hm hT ht hS htl htd
  go_enter Tryd.func9, Tryd.ntmps9
  go_wp2_with fail
  refine (TX.out _ (by have h := HV.out; rw [HN.out] at h; exact h)).mono ?_
  rintro e w1 ⟨rfl, hb1⟩
  clear hconv
  have hconv := CONV.out w1
  go_wp2_with fail
  have hbw1 := bw_below w1 S
  have hbs1 := bw_bs w1 S (by omega)
  rw [HTD.out] at hbs1
  have hsz1 := bw_size w1 S
  obtain ⟨W1, hW1⟩ : ∃ W, Lib.bytesWorld w1 5 S = W := ⟨_, rfl⟩
  rw [hW1] at hbw1 hbs1 hsz1 ⊢
  have hb2 := hb1.trans (hbw1.mono hb1.size)
  have HB2 := Lib.hid hb2
  have HBS1 := Lib.hid hbs1
  clear hb1 hbw1 hbs1 hsz1 hb2 hconv hW1
  refine (pall_any _ t W1 (HT.out.keep HB2.out) HBS1.out (by omega)).mono ?_
  rintro e w2 ⟨vh, rfl, hoh, hb3⟩
  have hlh := lsAt_of hoh
  have hb4 := HB2.out.trans (hb3.mono HB2.out.size)
  obtain ⟨ah, caph, hvh, -⟩ := id hlh
  rw [placesP_len] at hvh
  subst hvh
  have HLH := Lib.hid hlh
  have HB4 := Lib.hid hb4
  clear hlh hb4 hb3 hoh
  go_wp2_with fail
  refine (pall_any _ src w2 (HT.out.keep HB4.out) (by have h := HVS.out.keep HB4.out; rw [HM.out] at h; exact h) (by rw [HM.out]; omega)).mono ?_
  rintro e w3 ⟨vt, rfl, hot, hb5⟩
  have hlt := lsAt_of hot
  have hlh3 := lsAt_keep HLH.out hb5 (Nat.le_refl _)
  have hb6 := HB4.out.trans (hb5.mono HB4.out.size)
  have hs5 := hb5.size
  obtain ⟨at', capt, hvt, -⟩ := id hlt
  rw [placesP_len] at hvt
  rw [HM.out] at hvt
  subst hvt
  have HLT := Lib.hid hlt
  have HLH3 := Lib.hid hlh3
  have HB6 := Lib.hid hb6
  clear hlt hlh3 hb6 hb5 hot
  go_wp2_with fail
  refine (ST.out _ (by have h := HV.out.keep HB6.out; rw [HN.out] at h; exact h)).mono ?_
  rintro e w4 ⟨vst, rfl, host, hb7⟩
  have hb8 := HB6.out.trans (hb7.mono HB6.out.size)
  have hs7 := hb7.size
  have hlt4 := lsAt_keep HLT.out hb7 (Nat.le_refl _)
  have hlh4 := lsAt_keep HLH3.out hb7 hs5
  have his := host.is
  obtain ⟨ai, capi, hvi, -, -, hci⟩ := id his
  rw [startsP_len, HN.out] at hvi
  subst hvi
  have HI := Lib.hid his
  have HLT4 := Lib.hid hlt4
  have HLH4 := Lib.hid hlh4
  have HB8 := Lib.hid hb8
  have hPs4 := psAt_keep HP.out hb8 (Nat.le_refl _)
  have HPs4 := Lib.hid hPs4
  have hw4 := hb8.size
  clear hlt4 hlh4 his hb8 hb7 host hPs4 hci
  go_wp2
  go_loopw [7, 22] (fun ov iv wr => ∃ i : Nat, iv = .int .i64 (i : Int) ∧ i ≤ n ∧ OwnS w4.heap.size wr ov (M.segsP t src 0 (L.take i)) ∧ Below w4.heap.size w4 wr) (fun _ iv _ => n - (intOf iv).toNat)
  case atStart => exact ⟨0, rfl, by omega, ownV_nil _ _ _ _, Below.refl _ _⟩
  case round =>
    obtain ⟨i, rfl, hi, how, hb⟩ := hrel
    have hbz := hb.size
    by_cases hlt : i < n
    · have hil : i < L.length := by rw [HN.out]; exact hlt
      obtain ⟨b, off, rfl, hbk, c0, c1⟩ := psAt_get (by have h := HPs4.out; rw [HN.out] at h; exact psAt_keep h hb hw4) i hil
      obtain ⟨S0, hS0⟩ : ∃ S, bytes (L[i]).1 = S := ⟨_, rfl⟩
      obtain ⟨f, hf⟩ : ∃ f, (L[i]).2 = f := ⟨_, rfl⟩
      rw [hS0] at c0
      rw [hf] at c1
      have hst := startsP_at L i hil
      have hle := M.textP_take_le L i
      rw [HTX.out] at hle
      have hsn := M.segsP_take_succ t src L i hil
      obtain ⟨q, hq⟩ : ∃ q, (M.textP (L.take i)).length = q := ⟨_, rfl⟩
      rw [hq] at hst hle hsn
      obtain ⟨bi, oi, hai, hbi, hci⟩ : ∃ bi oi, ai = some ⟨bi, oi, none⟩ ∧ bi < w4.heap.size ∧ wr.cell? ⟨bi, oi + i, none⟩ = some (.int .i64 (q : Int)) := by
        obtain ⟨a', c', hs', _, _, hv'⟩ := HI.out
        rw [startsP_len, HN.out] at hs'
        simp only [Value.slice.injEq] at hs'
        obtain ⟨rfl, _, rfl⟩ := hs'
        obtain ⟨bi, oi, rfl, hbi, hcc⟩ := hv' (by rw [startsP_len]; omega)
        refine ⟨bi, oi, rfl, hbi, ?_⟩
        rw [hb.cell (p := ⟨bi, oi + i, none⟩) hbi]
        have hc' := hcc i (by rw [startsP_len]; exact hil)
        rw [hc']
        congr 2
        have hst2 := hst
        simpa [HN.out] using hst2
      subst hai
      have i1 : (i : Int) < n := by omega
      have HOW := Lib.hid how
      have HF := Lib.hid hf
      have nx := pstr_nil S0 _ hS0
      have ny := pstr_ne S0 _ hS0
      have hway : (S0.toList = [] ∧ S0.toList.isEmpty = true ∧ M.segsP t src 0 (L.take (i + 1)) = M.segsP t src 0 (L.take i)) ∨
          (S0.toList.isEmpty = false ∧ (¬ S0.toList = []) ∧ f < 0 ∧ M.segsP t src 0 (L.take (i + 1)) = M.segsP t src 0 (L.take i)) ∨
          (S0.toList.isEmpty = false ∧ (¬ S0.toList = []) ∧ 0 ≤ f ∧ (m : Int) < f ∧ M.segsP t src 0 (L.take (i + 1)) = M.segsP t src 0 (L.take i)) ∨
          (S0.toList.isEmpty = false ∧ (¬ S0.toList = []) ∧ 0 ≤ f ∧ f ≤ m ∧ M.segsP t src 0 (L.take i) ++ [M.segOf t src q L[i]] = M.segsP t src 0 (L.take (i + 1))) := by
        by_cases h0 : (L[i]).1 = []
        · obtain ⟨x1, x2, _⟩ := nx h0
          refine .inl ⟨x1, x2, ?_⟩
          rw [hsn, if_neg (by simp [M.okP, h0])]; simp
        · obtain ⟨x1, _, x3⟩ := ny h0
          by_cases h1 : f < 0
          · refine .inr (.inl ⟨x1, x3, h1, ?_⟩)
            rw [hsn, if_neg (by simp [M.okP, hf]; omega)]; simp
          · by_cases h2 : (m : Int) < f
            · refine .inr (.inr (.inl ⟨x1, x3, by omega, h2, ?_⟩))
              rw [hsn, if_neg (by simp [M.okP, hf, HM.out]; omega)]; simp
            · refine .inr (.inr (.inr ⟨x1, x3, by omega, by omega, ?_⟩))
              rw [hsn, if_pos (by simp [M.okP, hf, HM.out, h0]; omega)]
      clear hS0 hf hst hsn hq how nx ny
      rcases hway with ⟨x1, x2, hE⟩ | ⟨x1, x2, x3, hE⟩ | ⟨x1, x2, x3, x4, hE⟩ | ⟨x1, x2, x3, x4, hE⟩
      · have HE := Lib.hid hE
        clear hE
        go_wp2
        go_roundw
        case rel => exact ⟨i + 1, by go_num, by omega, by rw [HE.out]; exact HOW.out, hb⟩
        case measure => simp [intOf]; omega
      · have HE := Lib.hid hE
        clear hE
        go_wp2
        go_roundw
        case rel => exact ⟨i + 1, by go_num, by omega, by rw [HE.out]; exact HOW.out, hb⟩
        case measure => simp [intOf]; omega
      · have HE := Lib.hid hE
        have x5 : ¬ f < 0 := by omega
        clear hE
        go_wp2
        go_roundw
        case rel => exact ⟨i + 1, by go_num, by omega, by rw [HE.out]; exact HOW.out, hb⟩
        case measure => simp [intOf]; omega
      · have x5 : ¬ f < 0 := by omega
        obtain ⟨F, hF⟩ : ∃ F : Nat, f = (F : Int) := ⟨f.toNat, by omega⟩
        have hseg : M.segOf t src q L[i] = ((M.atP t q).1, (M.atP t q).2, (M.atP src F).1, (M.atP src F).2) := by
          unfold M.segOf; rw [HF.out, hF]; rfl
        obtain ⟨bh, oh, hah, hbh, d0, d1, d2⟩ := lsAt_get (lsAt_keep HLH4.out hb (by omega)) q (by rw [placesP_len]; omega)
        obtain ⟨bt, ot, hat, hbt, g0, g1, g2⟩ := lsAt_get (by have h := lsAt_keep HLT4.out hb (by omega); rw [HM.out] at h; exact h) F (by rw [placesP_len]; omega)
        rw [placesP_at t _ q (by omega)] at d0 d1 d2
        rw [placesP_at src _ F (by omega)] at g0 g1 g2
        subst hF
        subst hah
        subst hat
        rw [hseg] at hE
        obtain ⟨p1, hp1⟩ : ∃ p, (M.atP t q).1 = p := ⟨_, rfl⟩
        obtain ⟨p2, hp2⟩ : ∃ p, (M.atP t q).2 = p := ⟨_, rfl⟩
        obtain ⟨p3, hp3⟩ : ∃ p, (M.atP src F).1 = p := ⟨_, rfl⟩
        obtain ⟨p4, hp4⟩ : ∃ p, (M.atP src F).2 = p := ⟨_, rfl⟩
        simp only [hp1, hp2, hp3, hp4] at hE d0 d1 d2 g0 g1 g2
        have HE := Lib.hid hE
        clear hE hseg hp1 hp2 hp3 hp4 HF
        have y1 : (q : Int) < (t.length : Int) + 1 := by omega
        have y2 : (F : Int) < (m : Int) + 1 := by omega
        have y3 : (0 : Int) ≤ q := by omega
        have y4 : (0 : Int) ≤ F := by omega
        go_wp2
        go_region_held3 (fun W : World => W.cell? ⟨bh, oh + q * 3, none⟩ = some (.int .i64 (q : Int)) ∧ W.cell? ⟨bh, oh + q * 3 + 1, none⟩ = some (.int .i64 (p1 : Int)) ∧ W.cell? ⟨bh, oh + q * 3 + 2, none⟩ = some (.int .i64 (p2 : Int)) ∧ W.cell? ⟨bt, ot + F * 3, none⟩ = some (.int .i64 (F : Int)) ∧ W.cell? ⟨bt, ot + F * 3 + 1, none⟩ = some (.int .i64 (p3 : Int)) ∧ W.cell? ⟨bt, ot + F * 3 + 2, none⟩ = some (.int .i64 (p4 : Int))) (go_keep) (fail)
        all_goals
          have hpl := segs_len HN.out i (by omega : i ≤ n) t src
          obtain ⟨pls, hpls⟩ : ∃ x, M.segsP t src 0 (L.take i) = x := ⟨_, rfl⟩
          rw [hpls] at HOW HE hpl
          have hp9 : pls.length ≤ 4294967296 := by omega
          clear hpls hpl
          go_wp2_with (at_builtin; refine wpl_seg rfl _ _ rfl w4.heap.size _ (.slice (some ⟨wr.heap.size + 2, 0, none⟩) 1 1) pls (M.segsP t src 0 (L.take (i + 1))) (p1, p2, p3, p4) rfl (OwnS.keep HOW.out ((below_two wr _ _).alloc (by simp; omega) _)) rfl (one_seg2 wr _ _ p1 p2 p3 p4) (nnv_some _ _ _) hp9 (by simp; omega) HE.out ?_)
          intro v6 w6 ho6 hb6
          have hb7 := (hb.trans (((below_two wr _ _).alloc (by simp; omega) _).mono hbz)).trans hb6
          clear hb6
          go_wp2
          go_roundw
          case rel => exact ⟨i + 1, by go_num, by omega, ho6, hb7⟩
          case measure => simp [intOf]; omega
    · obtain rfl : i = n := by omega
      have hfull : L.take i = L := List.take_of_length_le (by rw [HN.out]; exact Nat.le_refl _)
      rw [hfull] at how
      have HOW := Lib.hid how
      have hbf := HB8.out.trans (hb.mono hw4)
      clear how hfull hlt hb
      go_wp2
      go_ret
      refine ⟨_, rfl, ?_, hbf⟩
      have h := HOW.out
      exact ⟨ownsRow_low h.1 hw4, h.2⟩
end Go.Proofs.YtpedipalpebolaaDoor
