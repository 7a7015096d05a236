/- Texts of ours in one: ZSame. -/
import Derived.Test.YtbfnlgmhfhaglaaGreatDoorQk23
import Derived.Test.YtbfnlgmhfhaglaaGreatDoorQk27
import Derived.StillTail
import Derived.StillTailTactics
/- jparse.Same: of any two values. -/
namespace Go.Proofs.YtbfnlgmhfhaglaaGreatDoor
open Go.RowKit
set_option linter.unusedVariables false
set_option linter.unusedSimpArgs false

theorem app_C (L K : Vo) : VoC (L.app K) = VoC L + VoC K := by
  induction L with
  | nil => simp [Vo.app, VoC]
  | cons h k r _ ih => simp only [Vo.app, VoC, ih]; omega
theorem KidsC.app {P : Nat → Prop} {w : World} {B : List (List Value)} {K : Vo} (hk : KidsC P w B K) (L : Vo) : ∀ A, KidsC P w A L → KidsC P w (A ++ B) (L.app K) := by
  induction L with
  | nil => intro A h; rw [show A = [] from h]; exact hk
  | cons k1 kids1 rest ih1 ih2 =>
    rintro A ⟨tv1, v1, mv1, L', rfl, h1, h2, h3⟩
    exact ⟨tv1, v1, mv1, L' ++ B, rfl, h1, h2, ih2 L' h3⟩
theorem KidsC.unapp {P : Nat → Prop} {w : World} {h : Vh} {kids : Vo} (M : Vo) : ∀ cs, KidsC P w cs (M.app (.cons h kids .nil)) → ∃ cs' tv v mv, cs = cs' ++ [vvl h tv v mv] ∧ KidsC P w cs' M ∧ HdP P w h tv mv ∧ VoP P w v kids := by
  induction M with
  | nil =>
    rintro cs ⟨tv, v, mv, L', rfl, h1, h2, h3⟩
    rw [show L' = [] from h3]
    exact ⟨[], tv, v, mv, rfl, rfl, h1, h2⟩
  | cons k1 kids1 rest ih1 ih2 =>
    rintro cs ⟨tv1, v1, mv1, L', rfl, h1, h2, h3⟩
    obtain ⟨cs', tv, v, mv, rfl, e1, e2, e3⟩ := ih2 L' h3
    exact ⟨vvl k1 tv1 v1 mv1 :: cs', tv, v, mv, rfl, ⟨tv1, v1, mv1, cs', rfl, h1, h2, e1⟩, e2, e3⟩
theorem voAt_rows {w : World} {b : Nat} (L : Vo) : ∀ off, VoAt (In w) w L b off → ∃ cs : List (List Value), cs.length = L.len ∧ KidsC (In w) w cs L ∧ ∀ j (h : j < cs.length) i u, cs[j][i]? = some u → w.cell? ⟨b, off + (j * 9 + i), none⟩ = some u := by
  induction L with
  | nil => intro off _; exact ⟨[], rfl, rfl, fun j h => by simp at h⟩
  | cons h kids rest ih1 ih2 =>
    rintro off ⟨⟨tv, mv, a, cap, hd, hr, p1, p2, p3, p4⟩, h5⟩
    obtain ⟨cs, hl, hk, hc⟩ := ih2 (off + 9) h5
    refine ⟨vvl h tv (.slice a kids.len cap) mv :: cs, by simp only [List.length_cons, Vo.len, hl], ⟨tv, _, mv, cs, rfl, hd, ⟨a, cap, rfl, p1, p2, p3, p4⟩, hk⟩, fun j hj i u hu => ?_⟩
    cases j with
    | zero =>
      rw [Nat.zero_mul, Nat.zero_add]
      exact hr i u hu
    | succ j =>
      have := hc j (by simpa using hj) i u (by simpa using hu)
      rw [show off + ((j + 1) * 9 + i) = off + 9 + (j * 9 + i) by omega]
      exact this
theorem voP_rows {w : World} {v : Value} {L : Vo} (h : VoS w v L) : ∃ cs : List (List Value), cs.length = L.len ∧ KidsC (In w) w cs L ∧ Vs 9 w v cs ∧ NNv v := by
  obtain ⟨a, cap, rfl, h1, h2, h3, h4⟩ := h
  rcases Nat.eq_zero_or_pos L.len with hz | hz
  · cases L with
    | nil => exact ⟨[], rfl, rfl, ⟨a, cap, rfl, by simp, h2, fun h => by simp at h⟩, fun n c e => by
        simp only [Value.slice.injEq] at e
        obtain ⟨e1, -, e2⟩ := e
        rw [← e2]; exact h3 e1⟩
    | cons _ _ _ => simp [Vo.len] at hz
  · obtain ⟨b, off, rfl, hb, hat⟩ := h4 hz
    obtain ⟨cs, hl, hk, hc⟩ := voAt_rows L off hat
    exact ⟨cs, hl, hk, ⟨_, cap, by rw [hl], by rw [hl]; exact h1, h2, fun _ => ⟨b, off, rfl, hb, hc⟩⟩, nnv_some _ _ _⟩
structure SmI (w : World) (wr : World) (lv rv : Value) (cs1 cs2 : List (List Value)) (L1 L2 : Vo) : Prop where
  lo : Below w.heap.size w wr
  o1 : OwnV 27 9 w.heap.size wr lv cs1
  o2 : OwnV 27 9 w.heap.size wr rv cs2
  k1 : KidsC (In w) w cs1 L1
  k2 : KidsC (In w) w cs2 L2
  ne : ∀ j, lv.ownBlock = some j → rv.ownBlock ≠ some j
theorem own_one (B : Nat) (w : World) (h : Vh) (tv v mv : Value) (hB : B ≤ w.heap.size) (h1 : tv.oneCell' = true) (h2 : v.oneCell' = true) (h3 : mv.oneCell' = true) : OwnV 27 9 B (w.alloc (.cells (vv h tv v mv) 27)) (.slice (some ⟨w.heap.size, 0, none⟩) 1 1) [vvl h tv v mv] :=
  ⟨⟨by simp [vvl], .inr ⟨w.heap.size, 1, _, rfl, hB, heap_alloc_new w _, Nat.le_refl _, by unfold maxLen; omega, by simp [vv, vvl], by simp [vv, vvl]⟩⟩, by simp [vvl], fun y hy c hc => by rw [List.mem_singleton.1 hy] at hc; exact vvl_nine h h1 h2 h3 c hc⟩
set_option maxRecDepth 100000 in
set_option maxHeartbeats 8000000 in
theorem jsame_any (h : Vh) (kids : Vo) (h' : Vh) (kids' : Vo) (w : World) (tv v mv tv' v' mv' : Value) (hC : 1 + h.tx.length + h.ms.length + VoC kids ≤ 2097152) (hC' : 1 + h'.tx.length + h'.ms.length + VoC kids' ≤ 2097152) (ht : HdS w h tv mv) (hv : VoS w v kids) (ht' : HdS w h' tv' mv') (hv' : VoS w v' kids') :
    Calls Tryz.prog 12 #[.agg (vv h tv v mv), .agg (vv h' tv' v' mv')] w fun e w' => e = .returned (.bool (sameH h kids h' kids')) ∧ Below w.heap.size w w' := by
  obtain ⟨a, c, rfl⟩ := hv.slice
  obtain ⟨ta, tc, rfl⟩ := ht.t.slice
  obtain ⟨ma, mc, rfl⟩ := ht.m.slice
  obtain ⟨a', c', rfl⟩ := hv'.slice
  obtain ⟨ta', tc', rfl⟩ := ht'.t.slice
  obtain ⟨ma', mc', rfl⟩ := ht'.m.slice
  obtain ⟨R, hR⟩ : ∃ R, sameH h kids h' kids' = R := ⟨_, rfl⟩
  rw [hR]
  have b1 := (Below.refl w.heap.size w).alloc (Nat.le_refl _) (.cells (vv h (.slice ta h.tx.length tc) (.slice a kids.len c) (.slice ma h.ms.length mc)) 27)
  have x1 := VB.new w h (.slice ta h.tx.length tc) (.slice a kids.len c) (.slice ma h.ms.length mc)
  obtain ⟨W1, hW1⟩ : ∃ W, w.alloc (.cells (vv h (.slice ta h.tx.length tc) (.slice a kids.len c) (.slice ma h.ms.length mc)) 27) = W := ⟨_, rfl⟩
  rw [hW1] at b1 x1
  obtain ⟨p5, hp5⟩ : ∃ x, w.heap.size + 1 = x := ⟨_, rfl⟩
  have hs1 : W1.heap.size = p5 := by rw [← hW1, ← hp5]; simp
  have b2 := (Below.refl W1.heap.size W1).alloc (Nat.le_refl _) (.cells (vv h' (.slice ta' h'.tx.length tc') (.slice a' kids'.len c') (.slice ma' h'.ms.length mc')) 27)
  have x2 := VB.new W1 h' (.slice ta' h'.tx.length tc') (.slice a' kids'.len c') (.slice ma' h'.ms.length mc')
  obtain ⟨W2, hW2⟩ : ∃ W, W1.alloc (.cells (vv h' (.slice ta' h'.tx.length tc') (.slice a' kids'.len c') (.slice ma' h'.ms.length mc')) 27) = W := ⟨_, rfl⟩
  rw [hW2] at b2 x2
  have x12 := Lib.hid (x1.keep b2)
  rw [hs1] at x2
  have B2 := Lib.hid (b1.trans (b2.mono (by omega)))
  have x2 := Lib.hid x2
  have HV := Lib.hid hv
  have HV' := Lib.hid hv'
  have HT := Lib.hid ht
  have HT' := Lib.hid ht'
  have hs2 : p5 < W2.heap.size := x2.out.lt
  have HW1 := Lib.hid hW1
  have HW2 := Lib.hid hW2
  clear b1 x1 b2 hW1 hW2 hs1 ht hv ht' hv'
  go_enter Tryz.func12, Tryz.ntmps12
  go_upto_region 1 with fail
  rw [HW1.out, HW2.out]
  go_cut [5, 6] (fun lq rq wx => ∃ (la lo' : Nat) , lq = .slice (some ⟨la, 0, none⟩) 1 1 ∧ rq = .slice (some ⟨lo', 0, none⟩) 1 1 ∧ SmI w wx (.slice (some ⟨la, 0, none⟩) 1 1) (.slice (some ⟨lo', 0, none⟩) 1 1) [(vvl h (.slice ta h.tx.length tc) (.slice a kids.len c) (.slice ma h.ms.length mc))] [(vvl h' (.slice ta' h'.tx.length tc') (.slice a' kids'.len c') (.slice ma' h'.ms.length mc'))] (.cons h kids .nil) (.cons h' kids' .nil))
  case first =>
    rename_i J K' hJ hK'
    refine wp_region_noPanic ?_
    have D2 := (Below.refl W2.heap.size W2).drew
    have y1 := Lib.hid (x12.out.keep D2)
    have y2 := Lib.hid (x2.out.keep D2)
    have BD := Lib.hid (B2.out.trans (D2.mono (by omega)))
    have hsD : W2.heap.size ≤ W2.drew.heap.size := D2.size
    have SS : ∀ V : World, VB V w.heap.size h (.slice ta h.tx.length tc) (.slice a kids.len c) (.slice ma h.ms.length mc) → VB V p5 h' (.slice ta' h'.tx.length tc') (.slice a' kids'.len c') (.slice ma' h'.ms.length mc') → (V.rangeAt w.heap.size 0 (vvl h (.slice ta h.tx.length tc) (.slice a kids.len c) (.slice ma h.ms.length mc)) ∧ V.rangeAt p5 0 (vvl h' (.slice ta' h'.tx.length tc') (.slice a' kids'.len c') (.slice ma' h'.ms.length mc'))) := fun V p q => ⟨VB.range p, VB.range q⟩
    refine wp_region_to 5 (S := fun V => V.rangeAt w.heap.size 0 (vvl h (.slice ta h.tx.length tc) (.slice a kids.len c) (.slice ma h.ms.length mc)) ∧ V.rangeAt p5 0 (vvl h' (.slice ta' h'.tx.length tc') (.slice a' kids'.len c') (.slice ma' h'.ms.length mc'))) (by kernel_rfl) (SS _ y1.out y2.out) (fun hS => ?_)
    obtain ⟨WD, hWD⟩ : ∃ x, W2.drew = x := ⟨_, rfl⟩
    rw [hWD] at y1 y2 BD hS hsD ⊢
    clear hWD D2
    refine dtk (v := .agg (vv h (.slice ta h.tx.length tc) (.slice a kids.len c) (.slice ma h.ms.length mc))) 0 (hy := yieldsIf_load_mid (by rfl) 27 _ rfl w.heap.size 0 rfl (vvl h (.slice ta h.tx.length tc) (.slice a kids.len c) (.slice ma h.ms.length mc)) _ (fun w hS => hS.1) Tryz.underlying27 rfl infoVal) ?_
    refine dtk (v := .agg (vv h' (.slice ta' h'.tx.length tc') (.slice a' kids'.len c') (.slice ma' h'.ms.length mc'))) 2 (hy := yieldsIf_load_mid (by rfl) 27 _ rfl p5 0 rfl (vvl h' (.slice ta' h'.tx.length tc') (.slice a' kids'.len c') (.slice ma' h'.ms.length mc')) _ (fun w hS => hS.2) Tryz.underlying27 rfl infoVal) ?_
    refine AnyTo.ready (rs := [1, 3]) (by kernel_rfl) (by simp) ?_
    refine ReadyTo.cons rfl (fun K hK => ?ordA) (ReadyTo.cons rfl (fun K hK => ?ordB) ReadyTo.nil)
    case ordA =>
      rw [if_pos (by rfl)]
      refine wp_bsz _ rfl _ _ _ _ _ _ _ _ _ rfl ?_
      have alA := (Below.refl WD.heap.size WD).alloc (Nat.le_refl _) (.cells (vv h (.slice ta h.tx.length tc) (.slice a kids.len c) (.slice ma h.ms.length mc)) 27)
      have oX := own_one w.heap.size WD h (.slice ta h.tx.length tc) (.slice a kids.len c) (.slice ma h.ms.length mc) BD.out.size rfl rfl rfl
      have s1 := Lib.hid (y1.out.keep alA)
      have s2 := Lib.hid (y2.out.keep alA)
      refine hK.out _ _ (SS _ s1.out s2.out) (fun hS => ?_)
      clear hK K
      have hsE : WD.heap.size < (WD.alloc (.cells (vv h (.slice ta h.tx.length tc) (.slice a kids.len c) (.slice ma h.ms.length mc)) 27)).heap.size := by simp
      obtain ⟨WE, hWE⟩ : ∃ x, WD.alloc (.cells (vv h (.slice ta h.tx.length tc) (.slice a kids.len c) (.slice ma h.ms.length mc)) 27) = x := ⟨_, rfl⟩
      have hWE' : WD.alloc (.cells #[.int .i64 h.k, .slice ta h.tx.length tc, .bool h.ng, .string (bytes h.dg), .string (bytes h.ex), .slice a kids.len c, .int .i64 h.fr, .int .i64 h.tt, .slice ma h.ms.length mc] 27) = WE := hWE
      rw [hWE] at alA oX s1 s2 hsE
      rw [hWE'] at hS ⊢
      clear hWE hWE'
      refine dtp 4 ?_
      refine AnyTo.ready (rs := [3]) (by kernel_rfl) (by simp) ?_
      refine ReadyTo.cons rfl (fun K hK => ?_) ReadyTo.nil
      rw [if_pos (by rfl)]
      refine wp_bsz _ rfl _ _ _ _ _ _ _ _ _ rfl ?_
      have alB := (Below.refl WE.heap.size WE).alloc (Nat.le_refl _) (.cells (vv h' (.slice ta' h'.tx.length tc') (.slice a' kids'.len c') (.slice ma' h'.ms.length mc')) 27)
      have oY := own_one w.heap.size WE h' (.slice ta' h'.tx.length tc') (.slice a' kids'.len c') (.slice ma' h'.ms.length mc') (by have := BD.out.size; omega) rfl rfl rfl
      have s3 := Lib.hid (s1.out.keep alB)
      have s4 := Lib.hid (s2.out.keep alB)
      refine hK.out _ _ (SS _ s3.out s4.out) (fun hS => ?_)
      clear hK K
      have oX2 := Lib.hid (OwnV.keep oX alB)
      have BF := Lib.hid ((BD.out.trans (alA.mono BD.out.size)).trans (alB.mono (by have := BD.out.size; omega)))
      obtain ⟨WF, hWF⟩ : ∃ x, WE.alloc (.cells (vv h' (.slice ta' h'.tx.length tc') (.slice a' kids'.len c') (.slice ma' h'.ms.length mc')) 27) = x := ⟨_, rfl⟩
      have hWF' : WE.alloc (.cells #[.int .i64 h'.k, .slice ta' h'.tx.length tc', .bool h'.ng, .string (bytes h'.dg), .string (bytes h'.ex), .slice a' kids'.len c', .int .i64 h'.fr, .int .i64 h'.tt, .slice ma' h'.ms.length mc'] 27) = WF := hWF
      rw [hWF] at oX2 oY BF
      rw [hWF'] at hS ⊢
      have oY2 := Lib.hid oY
      clear hWF hWF' alA alB s1 s2 s3 s4 oX oY
      refine AnyTo.ready (rs := [5]) (by kernel_rfl) (by simp) ?_
      refine ReadyTo.last rfl (by kernel_rfl) (fun K hK => ?_) ReadyTo.nil
      go_simp
      refine hK.out _ _ ?_
      clear hK K
      refine AnyTo.done (by kernel_rfl) ?_ _
      refine NoPanic.normal ?_
      (try simp only [List.getElem_toArray, List.getElem_cons_succ, List.getElem_cons_zero, Act.put, List.setIfInBounds_toArray, List.set_cons_zero, List.set_cons_succ])
      refine hK' _ _ (Met.intro (hJ _ _ ?_))
      (repeat apply Exists.intro)
      refine ⟨?rel, rfl⟩
      case rel => exact ⟨_, _, rfl, rfl, ⟨BF.out, oX2.out, oY2.out, ⟨_, _, _, [], rfl, HT.out, HV.out, rfl⟩, ⟨_, _, _, [], rfl, HT'.out, HV'.out, rfl⟩, fun j e e2 => by simp only [Value.ownBlock, Option.some.injEq] at e e2; omega⟩⟩
    case ordB =>
      rw [if_pos (by rfl)]
      refine wp_bsz _ rfl _ _ _ _ _ _ _ _ _ rfl ?_
      have alA := (Below.refl WD.heap.size WD).alloc (Nat.le_refl _) (.cells (vv h' (.slice ta' h'.tx.length tc') (.slice a' kids'.len c') (.slice ma' h'.ms.length mc')) 27)
      have oX := own_one w.heap.size WD h' (.slice ta' h'.tx.length tc') (.slice a' kids'.len c') (.slice ma' h'.ms.length mc') BD.out.size rfl rfl rfl
      have s1 := Lib.hid (y1.out.keep alA)
      have s2 := Lib.hid (y2.out.keep alA)
      refine hK.out _ _ (SS _ s1.out s2.out) (fun hS => ?_)
      clear hK K
      have hsE : WD.heap.size < (WD.alloc (.cells (vv h' (.slice ta' h'.tx.length tc') (.slice a' kids'.len c') (.slice ma' h'.ms.length mc')) 27)).heap.size := by simp
      obtain ⟨WE, hWE⟩ : ∃ x, WD.alloc (.cells (vv h' (.slice ta' h'.tx.length tc') (.slice a' kids'.len c') (.slice ma' h'.ms.length mc')) 27) = x := ⟨_, rfl⟩
      have hWE' : WD.alloc (.cells #[.int .i64 h'.k, .slice ta' h'.tx.length tc', .bool h'.ng, .string (bytes h'.dg), .string (bytes h'.ex), .slice a' kids'.len c', .int .i64 h'.fr, .int .i64 h'.tt, .slice ma' h'.ms.length mc'] 27) = WE := hWE
      rw [hWE] at alA oX s1 s2 hsE
      rw [hWE'] at hS ⊢
      clear hWE hWE'
      refine AnyTo.ready (rs := [1]) (by kernel_rfl) (by simp) ?_
      refine ReadyTo.cons rfl (fun K hK => ?_) ReadyTo.nil
      rw [if_pos (by rfl)]
      refine wp_bsz _ rfl _ _ _ _ _ _ _ _ _ rfl ?_
      have alB := (Below.refl WE.heap.size WE).alloc (Nat.le_refl _) (.cells (vv h (.slice ta h.tx.length tc) (.slice a kids.len c) (.slice ma h.ms.length mc)) 27)
      have oY := own_one w.heap.size WE h (.slice ta h.tx.length tc) (.slice a kids.len c) (.slice ma h.ms.length mc) (by have := BD.out.size; omega) rfl rfl rfl
      have s3 := Lib.hid (s1.out.keep alB)
      have s4 := Lib.hid (s2.out.keep alB)
      refine hK.out _ _ (SS _ s3.out s4.out) (fun hS => ?_)
      clear hK K
      have oX2 := Lib.hid (OwnV.keep oX alB)
      have BF := Lib.hid ((BD.out.trans (alA.mono BD.out.size)).trans (alB.mono (by have := BD.out.size; omega)))
      obtain ⟨WF, hWF⟩ : ∃ x, WE.alloc (.cells (vv h (.slice ta h.tx.length tc) (.slice a kids.len c) (.slice ma h.ms.length mc)) 27) = x := ⟨_, rfl⟩
      have hWF' : WE.alloc (.cells #[.int .i64 h.k, .slice ta h.tx.length tc, .bool h.ng, .string (bytes h.dg), .string (bytes h.ex), .slice a kids.len c, .int .i64 h.fr, .int .i64 h.tt, .slice ma h.ms.length mc] 27) = WF := hWF
      rw [hWF] at oX2 oY BF
      rw [hWF'] at hS ⊢
      have oY2 := Lib.hid oY
      clear hWF hWF' alA alB s1 s2 s3 s4 oX oY
      refine dtp 4 ?_
      refine AnyTo.ready (rs := [5]) (by kernel_rfl) (by simp) ?_
      refine ReadyTo.last rfl (by kernel_rfl) (fun K hK => ?_) ReadyTo.nil
      go_simp
      refine hK.out _ _ ?_
      clear hK K
      refine AnyTo.done (by kernel_rfl) ?_ _
      refine NoPanic.normal ?_
      (try simp only [List.getElem_toArray, List.getElem_cons_succ, List.getElem_cons_zero, Act.put, List.setIfInBounds_toArray, List.set_cons_zero, List.set_cons_succ])
      refine hK' _ _ (Met.intro (hJ _ _ ?_))
      (repeat apply Exists.intro)
      refine ⟨?rel, rfl⟩
      case rel => exact ⟨_, _, rfl, rfl, ⟨BF.out, oY2.out, oX2.out, ⟨_, _, _, [], rfl, HT.out, HV.out, rfl⟩, ⟨_, _, _, [], rfl, HT'.out, HV'.out, rfl⟩, fun j e e2 => by simp only [Value.ownBlock, Option.some.injEq] at e e2; omega⟩⟩
  case rest =>
  obtain ⟨la, lo', rfl, rfl, sm⟩ := hcut
  obtain ⟨v3, rfl⟩ : ∃ x, x = wc := ⟨_, rfl⟩
  have hcl : VoC (.cons h kids .nil) ≤ 2097152 := by simp only [VoC]; omega
  have hcl' : VoC (.cons h' kids' .nil) ≤ 2097152 := by simp only [VoC]; omega
  have hR0 : sameVo (.cons h kids .nil) (.cons h' kids' .nil) = R := by rw [← hR]; simp [sameVo, sameH]
  have HR0 := Lib.hid hR0
  have SM := Lib.hid sm
  clear hR hR0 hC hC' x12 x2 B2 HV HV' HT HT' hs2 HW1 HW2 sm
  go_wp2
  go_loopg [5, 6, 7, 8, 9] (VoC (.cons h kids .nil)) (fun g lq rq _ _ _ wr => ∃ (L1 L2 : Vo) (cs1 cs2 : List (List Value)), VoC L1 = g ∧ VoC L1 ≤ 2097152 ∧ VoC L2 ≤ 2097152 ∧ L1.len = L2.len ∧ sameVo L1 L2 = R ∧ SmI w wr lq rq cs1 cs2 L1 L2)
  case atStart => exact ⟨_, _, _, _, rfl, hcl, hcl', rfl, HR0.out, SM.out⟩
  case round =>
    obtain ⟨L1, L2, cs1, cs2, hg, hc1, hc2, hlen, hRR, sm⟩ := hrel
    have hl1 := KidsC.len L1 cs1 sm.k1
    have hl2 := KidsC.len L2 cs2 sm.k2
    clear HR0 SM
    rcases Nat.eq_zero_or_pos L1.len with hz | hz
    · -- nothing is left
      have e1 : cs1 = [] := List.eq_nil_of_length_eq_zero (by omega)
      have hRt : R = true := by
        rw [← hRR]
        cases L1 with
        | nil =>
          cases L2 with
          | nil => rfl
          | cons _ _ _ => simp [Vo.len] at hlen
        | cons _ _ _ => simp [Vo.len] at hz
      subst hRt
      subst e1
      have hlo := Lib.hid sm.lo
      obtain ⟨ia, icap, rfl, -⟩ := OwnV.vs sm.o1
      simp only [List.length_nil]
      clear hg hc1 hc2 hlen hRR hl1 hl2 sm hz
      go_wp2
      go_ret
      exact ⟨rfl, hlo.out⟩
    · obtain ⟨n, hn⟩ : ∃ n, L1.len = n + 1 := ⟨L1.len - 1, by omega⟩
      obtain ⟨M1, h, kids, rfl, hm1⟩ := vo_last L1 n hn
      obtain ⟨M2, h', kids', rfl, hm2⟩ := vo_last L2 n (by omega)
      obtain ⟨cs1, tv, v, mv, rfl, k1, ht, hv⟩ := KidsC.unapp M1 cs1 sm.k1
      obtain ⟨cs2, tv', v', mv', rfl, k2, ht', hv'⟩ := KidsC.unapp M2 cs2 sm.k2
      obtain ⟨g1, cap1, rfl, i1, i2, i3, i4, o1, r1⟩ := OwnV.pop sm.o1
      obtain ⟨g2, cap2, rfl, j1, j2, j3, j4, o2, r2⟩ := OwnV.pop sm.o2
      have hq1 : cs1.length = n := by have := KidsC.len M1 cs1 k1; omega
      have hq2 : cs2.length = n := by have := KidsC.len M2 cs2 k2; omega
      rw [hq1] at i1 o1 r1 ⊢
      rw [hq2] at j1 o2 r2 ⊢
      have hne : g1 ≠ g2 := fun e => sm.ne g1 rfl (by rw [e]; rfl)
      rw [sameVo_app M1 M2 _ _ (by omega)] at hRR
      have hRR2 : (sameVo M1 M2 && sameH h kids h' kids') = R := by rw [← hRR]; simp [sameVo, sameH]
      rw [app_C] at hg hc1 hc2
      simp only [VoC] at hg hc1 hc2
      have hnC : n ≤ 2097152 := by have := voC_len M1; omega
      have hkC : kids.len ≤ 2097152 := by have := voC_len kids; omega
      have hkC' : kids'.len ≤ 2097152 := by have := voC_len kids'; omega
      have LO := Lib.hid sm.lo
      have R1 := Lib.hid r1
      have R2 := Lib.hid r2
      have O1 := Lib.hid o1
      have O2 := Lib.hid o2
      have HRR := Lib.hid hRR2
      have HG := Lib.hid hg
      have HQ1 := Lib.hid hq1
      have HQ2 := Lib.hid hq2
      have K1 := Lib.hid k1
      have K2 := Lib.hid k2
      have HT := Lib.hid ht
      have HT' := Lib.hid ht'
      have HV := Lib.hid hv
      have HV' := Lib.hid hv'
      obtain ⟨a, c, rfl⟩ := hv.slice
      obtain ⟨ta, tc, rfl⟩ := ht.t.slice
      obtain ⟨ma, mc, rfl⟩ := ht.m.slice
      obtain ⟨a', c', rfl⟩ := hv'.slice
      obtain ⟨ta', tc', rfl⟩ := ht'.t.slice
      obtain ⟨ma', mc', rfl⟩ := ht'.m.slice
      have n1 : (0 : Int) < (n : Int) + 1 := by omega
      clear hg hRR hRR2 hl1 hl2 sm hz hn k1 k2 o1 o2 r1 r2 hq1 hq2 ht hv ht' hv' hm1 hm2 hlen
      go_upto_region 4 with fail
      go_cut [8, 9] (fun xq yq wx => ∃ xb yb : Nat, xq = .pointer (some ⟨xb, 0, none⟩) ∧ yq = .pointer (some ⟨yb, 0, none⟩) ∧ VB wx xb h (.slice ta h.tx.length tc) (.slice a kids.len c) (.slice ma h.ms.length mc) ∧ VB wx yb h' (.slice ta' h'.tx.length tc') (.slice a' kids'.len c') (.slice ma' h'.ms.length mc') ∧ wr.heap.size ≤ xb ∧ wr.heap.size ≤ yb ∧ Below wr.heap.size wr wx)
      case first =>
        rename_i J K' hJ hK'
        refine wp_region_noPanic ?_
        have D2 := (Below.refl wr.heap.size wr).drew
        have R1D := Lib.hid (rangeAt_keep R1.out (D2.block g1 i4))
        have R2D := Lib.hid (rangeAt_keep R2.out (D2.block g2 j4))
        have BD := Lib.hid D2
        have hsD : wr.heap.size ≤ wr.drew.heap.size := D2.size
        refine wp_region_to 11 (S := fun V => V.rangeAt g1 (n * 9) (vvl h (.slice ta h.tx.length tc) (.slice a kids.len c) (.slice ma h.ms.length mc)) ∧ V.rangeAt g2 (n * 9) (vvl h' (.slice ta' h'.tx.length tc') (.slice a' kids'.len c') (.slice ma' h'.ms.length mc'))) (by kernel_rfl) ⟨R1D.out, R2D.out⟩ (fun hS => ?_)
        obtain ⟨WD, hWD⟩ : ∃ x, wr.drew = x := ⟨_, rfl⟩
        rw [hWD] at R1D R2D BD hS hsD ⊢
        clear hWD D2
        refine dtp 0 ?_
        refine dtp 1 ?_
        refine dtp 2 (v := .pointer (some ⟨g1, n * 9, none⟩)) (hy := Or.inl ⟨by rfl, by intro V hSV; go_simp; (try rw [if_pos (by omega)]); (try omega)⟩) ?_
        refine dtk (v := .agg (vv h (.slice ta h.tx.length tc) (.slice a kids.len c) (.slice ma h.ms.length mc))) 3 (hy := yieldsIf_load_mid (by rfl) 27 _ rfl g1 (n * 9) rfl (vvl h (.slice ta h.tx.length tc) (.slice a kids.len c) (.slice ma h.ms.length mc)) _ (fun w hS => hS.1) Tryz.underlying27 rfl infoVal) ?_
        refine dtp 4 ?_
        refine dtp 5 ?_
        refine dtp 6 (v := .pointer (some ⟨g2, n * 9, none⟩)) (hy := Or.inl ⟨by rfl, by intro V hSV; go_simp; (try rw [if_pos (by omega)]); (try omega)⟩) ?_
        refine dtk (v := .agg (vv h' (.slice ta' h'.tx.length tc') (.slice a' kids'.len c') (.slice ma' h'.ms.length mc'))) 7 (hy := yieldsIf_load_mid (by rfl) 27 _ rfl g2 (n * 9) rfl (vvl h' (.slice ta' h'.tx.length tc') (.slice a' kids'.len c') (.slice ma' h'.ms.length mc')) _ (fun w hS => hS.2) Tryz.underlying27 rfl infoVal) ?_
        refine AnyTo.ready (rs := [8, 9]) (by kernel_rfl) (by simp) ?_
        refine ReadyTo.cons rfl (fun K hK => ?ordA) (ReadyTo.cons rfl (fun K hK => ?ordB) ReadyTo.nil)
        case ordA =>
          go_simp
          have alA := (Below.refl WD.heap.size WD).alloc (Nat.le_refl _) (.cells zv 27)
          have kA0 := BK.new 27 WD zv
          have hsE : WD.heap.size < (WD.alloc (.cells zv 27)).heap.size := by simp
          have s1 := Lib.hid (rangeAt_keep R1D.out (alA.block g1 (by omega)))
          have s2 := Lib.hid (rangeAt_keep R2D.out (alA.block g2 (by omega)))
          refine hK.out _ _ ⟨s1.out, s2.out⟩ (fun hS => ?_)
          clear hK K
          obtain ⟨WE, hWE⟩ : ∃ x, WD.alloc (.cells zv 27) = x := ⟨_, rfl⟩
          have hWE' : WD.alloc (.cells #[.int .i64 0, .slice none 0 0, .bool false, .string ⟨#[]⟩, .string ⟨#[]⟩, .slice none 0 0, .int .i64 0, .int .i64 0, .slice none 0 0] 27) = WE := hWE
          rw [hWE] at alA kA0 s1 s2 hsE
          rw [hWE'] at hS ⊢
          clear hWE hWE'
          refine AnyTo.ready (rs := [9]) (by kernel_rfl) (by simp) ?_
          refine ReadyTo.cons rfl (fun K hK => ?_) ReadyTo.nil
          go_simp
          have alB := (Below.refl WE.heap.size WE).alloc (Nat.le_refl _) (.cells zv 27)
          have kB := BK.new 27 WE zv
          have kA := kA0.keep alB
          have s3 := Lib.hid (rangeAt_keep s1.out (alB.block g1 (by omega)))
          have s4 := Lib.hid (rangeAt_keep s2.out (alB.block g2 (by omega)))
          refine hK.out _ _ ⟨s3.out, s4.out⟩ (fun hS => ?_)
          clear hK K
          have BF := (BD.out.trans (alA.mono (by omega))).trans (alB.mono (by omega))
          obtain ⟨WF, hWF⟩ : ∃ x, WE.alloc (.cells zv 27) = x := ⟨_, rfl⟩
          have hWF' : WE.alloc (.cells #[.int .i64 0, .slice none 0 0, .bool false, .string ⟨#[]⟩, .string ⟨#[]⟩, .slice none 0 0, .int .i64 0, .int .i64 0, .slice none 0 0] 27) = WF := hWF
          rw [hWF] at kA kB s3 s4 BF
          rw [hWF'] at hS ⊢
          obtain ⟨bA, hbA⟩ : ∃ x, WD.heap.size = x := ⟨_, rfl⟩
          obtain ⟨bB, hbB⟩ : ∃ x, WE.heap.size = x := ⟨_, rfl⟩
          rw [hbA] at kA hsE
          rw [hbB] at kB hsE
          have hwA : wr.heap.size ≤ bA := by omega
          have kX := Lib.hid kA
          have kY := Lib.hid kB
          have BF := Lib.hid BF
          (try rw [hbA])
          (try rw [hbB])
          clear hWF hWF' alB kA0 kA kB
          refine AnyTo.ready (rs := [10]) (by kernel_rfl) (by simp) ?_
          refine ReadyTo.cons rfl (fun K hK => ?_) ReadyTo.nil
          rw [if_pos (by rfl)]
          refine wp_store_row 27 _ _ rfl bA (vv h (.slice ta h.tx.length tc) (.slice a kids.len c) (.slice ma h.ms.length mc)) rfl rfl 27 zv kX.out infoV1 rfl (vv_one h rfl rfl rfl) ?_
          have s5 := Lib.hid (rangeAt_keep s3.out (setRow_other WF bA g1 (vv h (.slice ta h.tx.length tc) (.slice a kids.len c) (.slice ma h.ms.length mc)) (by omega)))
          have s6 := Lib.hid (rangeAt_keep s4.out (setRow_other WF bA g2 (vv h (.slice ta h.tx.length tc) (.slice a kids.len c) (.slice ma h.ms.length mc)) (by omega)))
          have kX2 := kX.out.set (vv h (.slice ta h.tx.length tc) (.slice a kids.len c) (.slice ma h.ms.length mc))
          have kY2 := kY.out.frame (setRow_other WF bA bB (vv h (.slice ta h.tx.length tc) (.slice a kids.len c) (.slice ma h.ms.length mc)) (by omega))
          have BG := below_setRowK BF.out (show wr.heap.size ≤ bA by omega) (vv h (.slice ta h.tx.length tc) (.slice a kids.len c) (.slice ma h.ms.length mc))
          refine hK.out _ _ ⟨s5.out, s6.out⟩ (fun hS => ?_)
          clear hK K
          refine AnyTo.ready (rs := [11]) (by kernel_rfl) (by simp) ?_
          refine ReadyTo.last rfl (by kernel_rfl) (fun K hK => ?_) ReadyTo.nil
          rw [if_pos (by rfl)]
          refine wp_store_row 27 _ _ rfl bB (vv h' (.slice ta' h'.tx.length tc') (.slice a' kids'.len c') (.slice ma' h'.ms.length mc')) rfl rfl 27 zv kY2 infoV1 rfl (vv_one h' rfl rfl rfl) ?_
          refine hK.out _ _ ?_
          clear hK K
          refine AnyTo.done (by kernel_rfl) ?_ _
          refine NoPanic.normal ?_
          have kX3 := kX2.frame (setRow_other (WF.setRow bA (vv h (.slice ta h.tx.length tc) (.slice a kids.len c) (.slice ma h.ms.length mc))) bB bA (vv h' (.slice ta' h'.tx.length tc') (.slice a' kids'.len c') (.slice ma' h'.ms.length mc')) (by omega))
          have kY3 := kY2.set (vv h' (.slice ta' h'.tx.length tc') (.slice a' kids'.len c') (.slice ma' h'.ms.length mc'))
          have BH := below_setRowK BG (show wr.heap.size ≤ bB by omega) (vv h' (.slice ta' h'.tx.length tc') (.slice a' kids'.len c') (.slice ma' h'.ms.length mc'))
          (try simp only [List.getElem_toArray, List.getElem_cons_succ, List.getElem_cons_zero, Act.put, List.setIfInBounds_toArray, List.set_cons_zero, List.set_cons_succ])
          refine hK' _ _ (Met.intro (hJ _ _ ?_))
          (repeat apply Exists.intro)
          refine ⟨?rel, rfl⟩
          case rel => exact ⟨_, _, rfl, rfl, kX3, kY3, by omega, by omega, BH⟩
        case ordB =>
          go_simp
          have alA := (Below.refl WD.heap.size WD).alloc (Nat.le_refl _) (.cells zv 27)
          have kA0 := BK.new 27 WD zv
          have hsE : WD.heap.size < (WD.alloc (.cells zv 27)).heap.size := by simp
          have s1 := Lib.hid (rangeAt_keep R1D.out (alA.block g1 (by omega)))
          have s2 := Lib.hid (rangeAt_keep R2D.out (alA.block g2 (by omega)))
          refine hK.out _ _ ⟨s1.out, s2.out⟩ (fun hS => ?_)
          clear hK K
          obtain ⟨WE, hWE⟩ : ∃ x, WD.alloc (.cells zv 27) = x := ⟨_, rfl⟩
          have hWE' : WD.alloc (.cells #[.int .i64 0, .slice none 0 0, .bool false, .string ⟨#[]⟩, .string ⟨#[]⟩, .slice none 0 0, .int .i64 0, .int .i64 0, .slice none 0 0] 27) = WE := hWE
          rw [hWE] at alA kA0 s1 s2 hsE
          rw [hWE'] at hS ⊢
          clear hWE hWE'
          refine AnyTo.ready (rs := [8]) (by kernel_rfl) (by simp) ?_
          refine ReadyTo.cons rfl (fun K hK => ?_) ReadyTo.nil
          go_simp
          have alB := (Below.refl WE.heap.size WE).alloc (Nat.le_refl _) (.cells zv 27)
          have kB := BK.new 27 WE zv
          have kA := kA0.keep alB
          have s3 := Lib.hid (rangeAt_keep s1.out (alB.block g1 (by omega)))
          have s4 := Lib.hid (rangeAt_keep s2.out (alB.block g2 (by omega)))
          refine hK.out _ _ ⟨s3.out, s4.out⟩ (fun hS => ?_)
          clear hK K
          have BF := (BD.out.trans (alA.mono (by omega))).trans (alB.mono (by omega))
          obtain ⟨WF, hWF⟩ : ∃ x, WE.alloc (.cells zv 27) = x := ⟨_, rfl⟩
          have hWF' : WE.alloc (.cells #[.int .i64 0, .slice none 0 0, .bool false, .string ⟨#[]⟩, .string ⟨#[]⟩, .slice none 0 0, .int .i64 0, .int .i64 0, .slice none 0 0] 27) = WF := hWF
          rw [hWF] at kA kB s3 s4 BF
          rw [hWF'] at hS ⊢
          obtain ⟨bA, hbA⟩ : ∃ x, WD.heap.size = x := ⟨_, rfl⟩
          obtain ⟨bB, hbB⟩ : ∃ x, WE.heap.size = x := ⟨_, rfl⟩
          rw [hbA] at kA hsE
          rw [hbB] at kB hsE
          have hwA : wr.heap.size ≤ bA := by omega
          have kX := Lib.hid kB
          have kY := Lib.hid kA
          have BF := Lib.hid BF
          (try rw [hbA])
          (try rw [hbB])
          clear hWF hWF' alB kA0 kA kB
          refine AnyTo.ready (rs := [10]) (by kernel_rfl) (by simp) ?_
          refine ReadyTo.cons rfl (fun K hK => ?_) ReadyTo.nil
          rw [if_pos (by rfl)]
          refine wp_store_row 27 _ _ rfl bB (vv h (.slice ta h.tx.length tc) (.slice a kids.len c) (.slice ma h.ms.length mc)) rfl rfl 27 zv kX.out infoV1 rfl (vv_one h rfl rfl rfl) ?_
          have s5 := Lib.hid (rangeAt_keep s3.out (setRow_other WF bB g1 (vv h (.slice ta h.tx.length tc) (.slice a kids.len c) (.slice ma h.ms.length mc)) (by omega)))
          have s6 := Lib.hid (rangeAt_keep s4.out (setRow_other WF bB g2 (vv h (.slice ta h.tx.length tc) (.slice a kids.len c) (.slice ma h.ms.length mc)) (by omega)))
          have kX2 := kX.out.set (vv h (.slice ta h.tx.length tc) (.slice a kids.len c) (.slice ma h.ms.length mc))
          have kY2 := kY.out.frame (setRow_other WF bB bA (vv h (.slice ta h.tx.length tc) (.slice a kids.len c) (.slice ma h.ms.length mc)) (by omega))
          have BG := below_setRowK BF.out (show wr.heap.size ≤ bB by omega) (vv h (.slice ta h.tx.length tc) (.slice a kids.len c) (.slice ma h.ms.length mc))
          refine hK.out _ _ ⟨s5.out, s6.out⟩ (fun hS => ?_)
          clear hK K
          refine AnyTo.ready (rs := [11]) (by kernel_rfl) (by simp) ?_
          refine ReadyTo.last rfl (by kernel_rfl) (fun K hK => ?_) ReadyTo.nil
          rw [if_pos (by rfl)]
          refine wp_store_row 27 _ _ rfl bA (vv h' (.slice ta' h'.tx.length tc') (.slice a' kids'.len c') (.slice ma' h'.ms.length mc')) rfl rfl 27 zv kY2 infoV1 rfl (vv_one h' rfl rfl rfl) ?_
          refine hK.out _ _ ?_
          clear hK K
          refine AnyTo.done (by kernel_rfl) ?_ _
          refine NoPanic.normal ?_
          have kX3 := kX2.frame (setRow_other (WF.setRow bB (vv h (.slice ta h.tx.length tc) (.slice a kids.len c) (.slice ma h.ms.length mc))) bA bB (vv h' (.slice ta' h'.tx.length tc') (.slice a' kids'.len c') (.slice ma' h'.ms.length mc')) (by omega))
          have kY3 := kY2.set (vv h' (.slice ta' h'.tx.length tc') (.slice a' kids'.len c') (.slice ma' h'.ms.length mc'))
          have BH := below_setRowK BG (show wr.heap.size ≤ bA by omega) (vv h' (.slice ta' h'.tx.length tc') (.slice a' kids'.len c') (.slice ma' h'.ms.length mc'))
          (try simp only [List.getElem_toArray, List.getElem_cons_succ, List.getElem_cons_zero, Act.put, List.setIfInBounds_toArray, List.set_cons_zero, List.set_cons_succ])
          refine hK' _ _ (Met.intro (hJ _ _ ?_))
          (repeat apply Exists.intro)
          refine ⟨?rel, rfl⟩
          case rel => exact ⟨_, _, rfl, rfl, kX3, kY3, by omega, by omega, BH⟩
      case rest =>
      obtain ⟨xb, yb, rfl, rfl, vx, vy, hxb, hyb, bx⟩ := hcut
      obtain ⟨v4, rfl⟩ : ∃ x, x = wc := ⟨_, rfl⟩
      have b4 := Lib.hid (LO.out.trans (bx.mono LO.out.size))
      obtain ⟨c0, c1, c2, c3, c4, c5, c6, c7, c8⟩ := vx.cells
      obtain ⟨d0, d1, d2, d3, d4, d5, d6, d7, d8⟩ := vy.cells
      have SE := Lib.hid (seq_any (.slice ta h.tx.length tc) (.slice ta' h'.tx.length tc') h.tx h'.tx _ v4 ((HT.out.t.is (fun _ h => h)).keep b4.out) ((HT'.out.t.is (fun _ h => h)).keep b4.out) (by omega) (by omega) rfl)
      have en := fun W => neqnum_any h.ng h'.ng h.dg h.ex h'.dg h'.ex W
      have BX := Lib.hid bx
      have VX := Lib.hid vx
      have VY := Lib.hid vy
      have HKL := Lib.hid (show sameH h kids h' kids' = (decide (h.k = h'.k) && decide (h.tx = h'.tx) && decide (h.ng = h'.ng ∧ h.dg = h'.dg ∧ h.ex = h'.ex) && decide (kids.len = kids'.len) && sameVo kids kids') from rfl)
      obtain ⟨kb, hkb⟩ : ∃ b, decide (h.k = h'.k) = b := ⟨_, rfl⟩
      obtain ⟨nb, hnb⟩ : ∃ b, decide (h.ng = h'.ng ∧ h.dg = h'.dg ∧ h.ex = h'.ex) = b := ⟨_, rfl⟩
      obtain ⟨tb, htb⟩ : ∃ b, decide (h.tx = h'.tx) = b := ⟨_, rfl⟩
      obtain ⟨lb, hlb⟩ : ∃ b, decide (kids.len = kids'.len) = b := ⟨_, rfl⟩
      have HLB := Lib.hid hlb
      have t1 : (h.k != h'.k) = !kb := by rw [← hkb]; by_cases e : h.k = h'.k <;> simp [e]
      have t2 : (((kids.len : Nat) : Int) != (kids'.len : Int)) = !lb := by
        rw [← hlb]; by_cases e : kids.len = kids'.len
        · simp [e]
        · simp [e]; omega
      simp only [hnb] at en
      rw [htb] at SE
      rw [hkb, hnb, htb, hlb] at HKL
      obtain ⟨K, hK⟩ : ∃ x, h.k = x := ⟨_, rfl⟩
      obtain ⟨K', hK'⟩ : ∃ x, h'.k = x := ⟨_, rfl⟩
      rw [hK] at c0 t1
      rw [hK'] at d0 t1
      clear bx vx vy c6 c7 c8 d6 d7 d8 hkb hnb htb hlb hK hK'
      have hkl := HKL.out
      have hrr := HRR.out
      cases kb with
      | false =>
        have hRf : R = false := by rw [← hrr, hkl]; simp
        subst hRf
        clear hkl hrr
        simp only [Bool.not_false] at t1
        go_wp2_with fail
        go_ret
        exact ⟨rfl, b4.out⟩
      | true =>
        simp only [Bool.not_true] at t1
        cases nb with
        | false =>
          have hRf : R = false := by rw [← hrr, hkl]; simp
          subst hRf
          clear hkl hrr
          simp only [Bool.not_false] at en
          go_wp2_with fail
          go_ret
          exact ⟨rfl, b4.out⟩
        | true =>
          simp only [Bool.not_true] at en
          cases tb with
          | false =>
            have hRf : R = false := by rw [← hrr, hkl]; simp
            subst hRf
            clear hkl hrr
            go_wp2_with fail
            refine SE.out.mono ?_
            rintro e w5 ⟨rfl, hb5⟩
            have b5 := Lib.hid (b4.out.trans (hb5.mono b4.out.size))
            clear hb5
            go_wp2
            go_ret
            exact ⟨rfl, b5.out⟩
          | true =>
            go_wp2_with fail
            refine SE.out.mono ?_
            rintro e w5 ⟨rfl, hb5⟩
            have b5 := Lib.hid (b4.out.trans (hb5.mono b4.out.size))
            have c5' : w5.cell? ⟨xb, 5, none⟩ = some (.slice a kids.len c) := (VX.out.keep hb5).cells.2.2.2.2.2.1
            have d5' : w5.cell? ⟨yb, 5, none⟩ = some (.slice a' kids'.len c') := (VY.out.keep hb5).cells.2.2.2.2.2.1
            have VX5 := Lib.hid (VX.out.keep hb5)
            have VY5 := Lib.hid (VY.out.keep hb5)
            have BX5 := Lib.hid (BX.out.trans (hb5.mono BX.out.size))
            clear hb5
            cases lb with
            | false =>
              have hRf : R = false := by rw [← hrr, hkl]; simp
              subst hRf
              clear hkl hrr
              simp only [Bool.not_false] at t2
              go_wp2
              go_ret
              exact ⟨rfl, b5.out⟩
            | true =>
              simp only [Bool.not_true] at t2
              have hRR : (sameVo M1 M2 && sameVo kids kids') = R := by rw [← hrr, hkl]; simp
              have HR2 := Lib.hid hRR
              clear hkl hrr hRR
              obtain ⟨ks, hkl, kk, kvs, knn⟩ := voP_rows HV.out
              obtain ⟨ks', hkl', kk', kvs', knn'⟩ := voP_rows HV'.out
              have nine := kidsC_nine kids ks kk
              have nine' := kidsC_nine kids' ks' kk'
              have B5D := Lib.hid (b5.out.trans ((Below.refl w5.heap.size w5).drew.mono b5.out.size))
              have hlt5 := Lib.hid BX5.out.size
              have O1D := Lib.hid (OwnV.keep (OwnV.keep O1.out BX5.out) ((Below.refl w5.heap.size w5).drew))
              have O2D := Lib.hid (OwnV.keep (OwnV.keep O2.out BX5.out) ((Below.refl w5.heap.size w5).drew))
              have VYD := Lib.hid (VY5.out.keep ((Below.refl w5.heap.size w5).drew))
              have KVS := Lib.hid (Vs.keep kvs B5D.out)
              have KVS' := Lib.hid kvs'
              have KNN := Lib.hid knn
              have KNN' := Lib.hid knn'
              have N9 := Lib.hid nine
              have N9' := Lib.hid nine'
              have KK := Lib.hid kk
              have KK' := Lib.hid kk'
              have HKL := Lib.hid hkl
              have HKL' := Lib.hid hkl'
              have n2 : (0 : Int) ≤ (n : Int) := by omega
              have n3 : (n : Int) ≤ (cap1 : Int) := by omega
              have n4 : (n : Int) ≤ (cap2 : Int) := by omega
              clear kvs kvs' knn knn' nine nine' kk kk' hkl hkl'
              go_upto_region 7 with fail
              refine wp_region_still_tail 5 (by kernel_rfl) (by kernel_rfl) ?_
              simp only [List.take_succ_cons, List.take_zero, List.drop_succ_cons, List.drop_zero]
              repeat still_step
              refine wpStill_nil ?_
              change wpList _ _ _ _ _ w5.drew
              obtain ⟨WD, hWD⟩ : ∃ x, w5.drew = x := ⟨_, rfl⟩
              rw [hWD] at B5D O1D O2D VYD KVS ⊢
              have hsD : w5.heap.size ≤ WD.heap.size := by rw [← hWD]; exact (Below.refl w5.heap.size w5).drew.size
              clear hWD
              go_wp2_with (refine wpl_appendVG rfl _ _ rfl Tryz.underlying25 infoValz rfl (by decide) w.heap.size (.slice (some ⟨g1, 0, none⟩) n cap1) (.slice a kids.len c) cs1 ks (cs1 ++ ks) rfl O1D.out rfl KVS.out KNN.out (fun y hy => (N9.out y hy).1) (fun y hy => (N9.out y hy).2) (by rw [HQ1.out, HKL.out]; omega) (by decide) B5D.out.size rfl ?_)
              intro l6 W7 ho7 hb7 hf7 hw7
              have hg2 : g2 < WD.heap.size := by have := hlt5.out; omega
              have O27 := Lib.hid (ownV_frame' O2D.out (w' := W7) (fun j hj => hf7 j (own_in O2D.out j hj).2 (fun e => by simp only [Value.ownBlock, Option.some.injEq] at hj e; omega)))
              have hyl : yb < WD.heap.size := VYD.out.lt
              have VY7 := Lib.hid (VYD.out.frame (hf7 yb hyl (fun e => by simp only [Value.ownBlock, Option.some.injEq] at e; omega)))
              have d5' : W7.cell? ⟨yb, 5, none⟩ = some (.slice a' kids'.len c') := VY7.out.cells.2.2.2.2.2.1
              have B7 := Lib.hid (B5D.out.trans hb7)
              have hn7 : ∀ j, l6.ownBlock = some j → j = g1 ∨ WD.heap.size ≤ j := fun j hj => by
                rcases hw7 with e | e
                · rw [e] at hj; simp only [Value.ownBlock, Option.some.injEq] at hj; exact .inl hj.symm
                · rw [e] at hj; simp only [Option.some.injEq] at hj; exact .inr (by omega)
              have HN7 := Lib.hid hn7
              have O17 := Lib.hid ho7
              have hs7 := hb7.size
              clear hb7 hf7 hw7 ho7 hn7
              have O18 := Lib.hid (OwnV.keep O17.out ((Below.refl W7.heap.size W7).drew))
              have O28 := Lib.hid (OwnV.keep O27.out ((Below.refl W7.heap.size W7).drew))
              have B8D := Lib.hid (B7.out.trans ((Below.refl W7.heap.size W7).drew.mono B7.out.size))
              have KVS8 := Lib.hid (Vs.keep KVS'.out B8D.out)
              obtain ⟨la6, lc6, rfl, -⟩ := OwnV.vs O17.out
              go_upto_region 8 with fail
              refine wp_region_still_tail 5 (by kernel_rfl) (by kernel_rfl) ?_
              simp only [List.take_succ_cons, List.take_zero, List.drop_succ_cons, List.drop_zero]
              repeat still_step
              refine wpStill_nil ?_
              change wpList _ _ _ _ _ W7.drew
              obtain ⟨WE, hWE⟩ : ∃ x, W7.drew = x := ⟨_, rfl⟩
              rw [hWE] at O18 O28 B8D KVS8 ⊢
              have hsE : W7.heap.size ≤ WE.heap.size := by rw [← hWE]; exact (Below.refl W7.heap.size W7).drew.size
              clear hWE
              go_wp2_with (refine wpl_appendVG rfl _ _ rfl Tryz.underlying25 infoValz rfl (by decide) w.heap.size (.slice (some ⟨g2, 0, none⟩) n cap2) (.slice a' kids'.len c') cs2 ks' (cs2 ++ ks') rfl O28.out rfl KVS8.out KNN'.out (fun y hy => (N9'.out y hy).1) (fun y hy => (N9'.out y hy).2) (by rw [HQ2.out, HKL'.out]; omega) (by decide) B8D.out.size rfl ?_)
              intro r6 W9 ho9 hb9 hf9 hw9
              have O19 := Lib.hid (ownV_frame' O18.out (w' := W9) (fun j hj => hf9 j (own_in O18.out j hj).2 (fun e => by
                simp only [Value.ownBlock, Option.some.injEq] at e
                rcases HN7.out j hj with e2 | e2
                · omega
                · omega)))
              have hne9 : ∀ j, (Value.slice la6 (cs1 ++ ks).length lc6).ownBlock = some j → r6.ownBlock ≠ some j := fun j hj e => by
                have hjl := (own_in O18.out j hj).2
                rcases hw9 with e2 | e2
                · rw [e2] at e
                  simp only [Value.ownBlock, Option.some.injEq] at e
                  rcases HN7.out j hj with e3 | e3
                  · omega
                  · omega
                · rw [e2] at e
                  simp only [Option.some.injEq] at e
                  omega
              have SN : Hid (SmI w W9 (.slice la6 (cs1 ++ ks).length lc6) r6 (cs1 ++ ks) (cs2 ++ ks') (M1.app kids) (M2.app kids')) := Lib.hid ⟨B8D.out.trans hb9, O19.out, ho9, KidsC.app KK.out M1 cs1 K1.out, KidsC.app KK'.out M2 cs2 K2.out, hne9⟩
              have hgg := HG.out
              have hll := HLB.out
              have hm := (KidsC.len M1 cs1 K1.out)
              have hm' := (KidsC.len M2 cs2 K2.out)
              have hq1 := HQ1.out
              have hq2 := HQ2.out
              have FL : Hid ((M1.app kids).len = (M2.app kids').len ∧ sameVo (M1.app kids) (M2.app kids') = R) := Lib.hid ⟨by rw [app_len, app_len]; have := of_decide_eq_true hll; omega, by rw [sameVo_app M1 M2 _ _ (by omega)]; exact HR2.out⟩
              have FC : Hid (VoC (M1.app kids) ≤ 2097152 ∧ VoC (M2.app kids') ≤ 2097152) := Lib.hid ⟨by rw [app_C]; omega, by rw [app_C]; omega⟩
              have hmea : VoC (M1.app kids) < gk := by rw [app_C]; omega
              have HMEA := Lib.hid hmea
              clear ho9 hb9 hf9 hw9 hne9 hm hm' hgg hmea hll
              go_wp2
              go_roundg (VoC (M1.app kids))
              case rel => exact ⟨_, _, _, _, rfl, FC.out.1, FC.out.2, FL.out.1, FL.out.2, by have := SN.out; simp only [List.length_append] at this; exact this⟩
              case measure => exact HMEA.out
end Go.Proofs.YtbfnlgmhfhaglaaGreatDoor
