/- Texts of ours in one: ZVal. -/
import Derived.Test.YtlobinjdgcidmaaGreatDoorQs24
/- jparse: value. -/
namespace Go.Proofs.YtlobinjdgcidmaaGreatDoor
open Go.RowKit
set_option linter.unusedVariables false
set_option linter.unusedSimpArgs false

theorem valP_list (l : List UInt8) (obj : Bool) (f deep fr te : Nat) (r : M.Toks) : valP l (f + 1) deep ((opL obj, fr, te) :: r) = RestR l obj deep fr f r := by
  cases obj <;> cases deep <;> simp [valP, RestR, opL, shL] <;> rfl
theorem valP_leaf (l : List UInt8) (f deep k fr te : Nat) (r : M.Toks) (h : k = 9 ∨ k = 10 ∨ k = 11) : valP l (f + 1) deep ((k, fr, te) :: r) = .ok (leafP ((k : Int) - 4) fr, .nil, r) := by
  rcases h with rfl | rfl | rfl <;> simp [valP]
theorem valP_text (l : List UInt8) (f deep fr te : Nat) (r : M.Toks) : valP l (f + 1) deep ((7, fr, te) :: r) = .ok (textV l (7, fr, te), .nil, r) := by simp [valP]
theorem valP_num (l : List UInt8) (f deep fr te : Nat) (r : M.Toks) : valP l (f + 1) deep ((8, fr, te) :: r) = .ok (numbV l (8, fr, te), .nil, r) := by simp [valP]
theorem valP_none (l : List UInt8) (f deep k fr te : Nat) (r : M.Toks) (h : k ≠ 7 ∧ k ≠ 8 ∧ k ≠ 9 ∧ k ≠ 10 ∧ k ≠ 11 ∧ k ≠ 1 ∧ k ≠ 3) : valP l (f + 1) deep ((k, fr, te) :: r) = .error (synP l.length ((k, fr, te) :: r)) := by
  obtain ⟨a, b, c, d, e, g, i⟩ := h
  simp [valP, a, b, c, d, e, g, i]
theorem sing_val {w0 w : World} {bv tw : Value} {D : Int} {l : List UInt8} {k fr te : Nat} {r : M.Toks} (kd : Int) (hk : 1 ≤ k) (x : PsW w0 bv D l w tw ((k, fr, te) :: r)) :
    Calls Tryz.prog 51 #[ptrP w0, .int .i64 kd, .int .i64 (k : Int)] w (ValQ w0 bv D l (.ok (leafP kd fr, .nil, r)) w) := by
  refine (single_any kd k hk x).mono ?_
  intro e w' h
  unfold SingQ at h
  rw [show takeP l.length k ((k, fr, te) :: r) = .ok ((k, fr, te), r) by simp [takeP]] at h
  obtain ⟨⟨tw', hx⟩, he, hf⟩ := h
  exact ⟨nilV, nilV, nilV, tw', he, ⟨by simp [leafP], by simp [leafP], isP_nil _ _, isP_nil _ _⟩, voP_nil _ _, hx, hf⟩
theorem val_end {w0 w W1 w2 : World} {bv tw : Value} {D : Int} {l : List UInt8} {r : M.Toks} {h : Vh} {kids : Vo} {tv v mv : Value} (b0 : Below w.heap.size w W1) (hlt : w0.heap.size < w.heap.size) (l1 : w.heap.size < W1.heap.size)
    (hd : HdP (Nw W1.heap.size w2) w2 h tv mv) (hv : VoP (Nw W1.heap.size w2) w2 v kids) (x2 : PsW w0 bv D l w2 tw r) (f2 : Fr w0.heap.size W1 w2) :
    ValQ w0 bv D l (.ok (h, kids, r)) w (.returned (.agg (vv h tv v mv))) (w2.setRow w.heap.size (vv h tv v mv)) := by
  have bS := below_setRowK (Below.refl 0 w2) (Nat.zero_le w.heap.size) (vv h tv v mv)
  have ke : ∀ b, Nw W1.heap.size w2 b → (w2.setRow w.heap.size (vv h tv v mv)).heap[b]? = w2.heap[b]? := fun b hb => setRow_other _ _ _ _ (by have := hb.1; omega)
  have km : ∀ b, Nw W1.heap.size w2 b → Nw w.heap.size (w2.setRow w.heap.size (vv h tv v mv)) b := fun b hb => ⟨by have := hb.1; omega, Nat.lt_of_lt_of_le hb.2 bS.size⟩
  exact ⟨tv, v, mv, tw, rfl, (hd.keep ke).mono km, (hv.keep ke).mono km, x2.setRow hlt _, Fr.setRow ((Fr.of b0 (Nat.le_of_lt hlt)).trans f2) (Nat.le_refl _) (Nat.le_of_lt hlt) _⟩
set_option maxRecDepth 100000 in
set_option maxHeartbeats 4000000 in
theorem val_bad {w0 w : World} {bv tw : Value} {D : Int} {l : List UInt8} {ts : M.Toks} {lv : Int} (x : PsW w0 bv D l w tw ts) (hk : kindP ts ≠ 7 ∧ kindP ts ≠ 8 ∧ kindP ts ≠ 9 ∧ kindP ts ≠ 10 ∧ kindP ts ≠ 11 ∧ kindP ts ≠ 1 ∧ kindP ts ≠ 3) :
    Calls Tryz.prog 30 #[ptrP w0, .int .i64 lv] w (ValQ w0 bv D l (.error (synP l.length ts)) w) := by
  have hlt := x.lt
  have b0 := Lib.hid ((Below.refl w.heap.size w).alloc (Nat.le_refl _) (.cells zv 48))
  obtain ⟨W1, hW1⟩ : ∃ x, w.alloc (.cells zv 48) = x := ⟨_, rfl⟩
  rw [hW1] at b0
  have HW1 := Lib.hid (show w.alloc (.cells #[.int .i64 0, .slice none 0 0, .bool false, .string ⟨#[]⟩, .string ⟨#[]⟩, .slice none 0 0, .int .i64 0, .int .i64 0, .slice none 0 0] 48) = W1 from hW1)
  have x1 := x.keep b0.out
  have KA := Lib.hid (kind_any x1)
  have UA := Lib.hid (unfit_any x1)
  obtain ⟨kq, hkq⟩ : ∃ q : Int, (kindP ts : Int) = q := ⟨_, rfl⟩
  rw [hkq] at KA
  obtain ⟨aa, haa⟩ : ∃ q : Int, atP l.length ts = q := ⟨_, rfl⟩
  unfold ValQ
  dsimp only
  unfold synP
  rw [haa] at UA ⊢
  unfold ptrP at KA UA ⊢
  obtain ⟨h1, h2, h3, h4, h5, h6, h7⟩ := hk
  have k7 : ¬ kq = 7 := by omega
  have k8 : ¬ kq = 8 := by omega
  have k9 : ¬ kq = 9 := by omega
  have k10 : ¬ kq = 10 := by omega
  have k11 : ¬ kq = 11 := by omega
  have k1 : ¬ kq = 1 := by omega
  have k3 : ¬ kq = 3 := by omega
  clear hW1 x x1 hkq haa h1 h2 h3 h4 h5 h6 h7
  go_enter Tryz.func30, Tryz.ntmps30
  go_upto_region 1 with fail
  rw [HW1.out]
  go_wp2_with fail
  refine KA.out.mono ?_
  rintro e w' ⟨rfl, hw⟩
  rw [hw]
  clear hw w'
  go_wp2_with fail
  refine UA.out.mono ?_
  rintro e w2 ⟨rfl, hb2⟩
  go_wp2
  exact ⟨rfl, rfl, (b0.out.trans (hb2.mono b0.out.size)).mono (Nat.le_of_lt hlt)⟩
set_option maxRecDepth 100000 in
set_option maxHeartbeats 8000000 in
theorem value_all (w0 : World) (bv : Value) (Dn : Nat) (l : List UInt8) (hX : TabX w0) (hl : l.length ≤ 20000) (hD : Dn ≤ 60) (N : Nat) : ∀ {w : World} {tw : Value} {ts : M.Toks} {g deep lv : Nat}, ts.length ≤ N → PsW w0 bv (Dn : Int) l w tw ts → TkIn l ts → 2 * ts.length + 1 ≤ g → lv + deep = Dn → ts.length ≤ 20000 →
    Calls Tryz.prog 30 #[ptrP w0, .int .i64 (lv : Int)] w (ValQ w0 bv (Dn : Int) l (valP l g deep ts) w) := by
  induction N with
  | zero =>
    intro w tw ts g deep lv hn x htk hg hld hlen
    obtain rfl := List.eq_nil_of_length_eq_zero (Nat.le_zero.1 hn)
    obtain ⟨g, rfl⟩ : ∃ q, g = q + 1 := ⟨g - 1, by omega⟩
    exact val_bad x (by decide)
  | succ N ih =>
    intro w tw ts g deep lv hn x htk hg hld hlen
    obtain ⟨g, rfl⟩ : ∃ q, g = q + 1 := ⟨g - 1, by omega⟩
    have hlt := x.lt
    have b0 := Lib.hid ((Below.refl w.heap.size w).alloc (Nat.le_refl _) (.cells zv 48))
    have K0 := Lib.hid (BK.new 48 w zv)
    obtain ⟨W1, hW1⟩ : ∃ x, w.alloc (.cells zv 48) = x := ⟨_, rfl⟩
    rw [hW1] at b0 K0
    have HW1 := Lib.hid (show w.alloc (.cells #[.int .i64 0, .slice none 0 0, .bool false, .string ⟨#[]⟩, .string ⟨#[]⟩, .slice none 0 0, .int .i64 0, .int .i64 0, .slice none 0 0] 48) = W1 from hW1)
    have x1 := x.keep b0.out
    clear hW1
    cases ts with
    | nil => exact val_bad x (by decide)
    | cons t r =>
      obtain ⟨tk, fr, te⟩ := t
      have ht := htk _ (List.mem_cons_self ..)
      simp only at ht
      have hn' : r.length ≤ N := by simp only [List.length_cons] at hn; omega
      by_cases k7 : tk = 7
      · subst k7
        rw [valP_text]
        have KA2 : Hid (Calls Tryz.prog 47 #[.pointer (some ⟨w0.heap.size, 0, none⟩)] W1 fun e w' => e = .returned (.int .i64 7) ∧ w' = W1) := Lib.hid (kind_any x1)
        have C0 := jptext_any x1 hX ht hl
        obtain ⟨H, hH⟩ : ∃ x, textV l (7, fr, te) = x := ⟨_, rfl⟩
        rw [hH] at C0 ⊢
        unfold ValQ at C0
        dsimp only at C0
        unfold ptrP at C0 ⊢
        have C : Hid (Calls Tryz.prog 49 #[.pointer (some ⟨w0.heap.size, 0, none⟩)] W1 fun e w' => ∃ tv v mv tw', e = .returned (.agg (vv H tv v mv)) ∧ HdP (Nw W1.heap.size w') w' H tv mv ∧ VoP (Nw W1.heap.size w') w' v .nil ∧ PsW w0 bv (Dn : Int) l w' tw' r ∧ Fr w0.heap.size W1 w') := Lib.hid C0
        clear x x1 ih htk hH C0 hlen hg
        go_enter Tryz.func30, Tryz.ntmps30
        go_upto_region 1 with fail
        rw [HW1.out]
        go_wp2_with fail
        refine KA2.out.mono ?_
        rintro e w' ⟨rfl, hw⟩
        rw [hw]
        clear hw w'
        go_wp2_with fail
        refine C.out.mono ?_
        rintro e w2 ⟨tv, v, mv, tw2, rfl, hd, hv, x2, f2⟩
        have K2 := K0.out.frame (f2.oth _ K0.out.lt (by omega))
        have t1 := hd.t.one
        have t2 := hv.one
        have t3 := hd.m.one
        go_wp2_with (refine wpl_stV rfl _ _ rfl w.heap.size zv H tv v mv rfl rfl K2 rfl t1 t2 t3 ?_)
        go_wp2
        refine bodyPost_ret (res_bk Tryz.underlying48 rfl infoV1 rfl _ _ w.heap.size (vvl H tv v mv) rfl (BK.set K2 _) rfl) rfl ?_
        exact val_end b0.out hlt K0.out.lt hd hv x2 f2
      by_cases k8 : tk = 8
      · subst k8
        rw [valP_num]
        have KA2 : Hid (Calls Tryz.prog 47 #[.pointer (some ⟨w0.heap.size, 0, none⟩)] W1 fun e w' => e = .returned (.int .i64 8) ∧ w' = W1) := Lib.hid (kind_any x1)
        have C0 := jpnum_any x1 hX ht hl
        obtain ⟨H, hH⟩ : ∃ x, numbV l (8, fr, te) = x := ⟨_, rfl⟩
        rw [hH] at C0 ⊢
        unfold ValQ at C0
        dsimp only at C0
        unfold ptrP at C0 ⊢
        have C : Hid (Calls Tryz.prog 50 #[.pointer (some ⟨w0.heap.size, 0, none⟩)] W1 fun e w' => ∃ tv v mv tw', e = .returned (.agg (vv H tv v mv)) ∧ HdP (Nw W1.heap.size w') w' H tv mv ∧ VoP (Nw W1.heap.size w') w' v .nil ∧ PsW w0 bv (Dn : Int) l w' tw' r ∧ Fr w0.heap.size W1 w') := Lib.hid C0
        clear x x1 ih htk hH C0 hlen hg
        go_enter Tryz.func30, Tryz.ntmps30
        go_upto_region 1 with fail
        rw [HW1.out]
        go_wp2_with fail
        refine KA2.out.mono ?_
        rintro e w' ⟨rfl, hw⟩
        rw [hw]
        clear hw w'
        go_wp2_with fail
        refine C.out.mono ?_
        rintro e w2 ⟨tv, v, mv, tw2, rfl, hd, hv, x2, f2⟩
        have K2 := K0.out.frame (f2.oth _ K0.out.lt (by omega))
        have t1 := hd.t.one
        have t2 := hv.one
        have t3 := hd.m.one
        go_wp2_with (refine wpl_stV rfl _ _ rfl w.heap.size zv H tv v mv rfl rfl K2 rfl t1 t2 t3 ?_)
        go_wp2
        refine bodyPost_ret (res_bk Tryz.underlying48 rfl infoV1 rfl _ _ w.heap.size (vvl H tv v mv) rfl (BK.set K2 _) rfl) rfl ?_
        exact val_end b0.out hlt K0.out.lt hd hv x2 f2
      by_cases k9 : tk = 9
      · subst k9
        rw [show valP l (g + 1) deep ((9, fr, te) :: r) = .ok (leafP 5 fr, .nil, r) from valP_leaf l g deep 9 fr te r (by decide)]
        have KA2 : Hid (Calls Tryz.prog 47 #[.pointer (some ⟨w0.heap.size, 0, none⟩)] W1 fun e w' => e = .returned (.int .i64 9) ∧ w' = W1) := Lib.hid (kind_any x1)
        have C0 := sing_val 5 (by decide) x1
        obtain ⟨H, hH⟩ : ∃ x, leafP 5 fr = x := ⟨_, rfl⟩
        rw [hH] at C0 ⊢
        unfold ValQ at C0
        dsimp only at C0
        unfold ptrP at C0 ⊢
        have C : Hid (Calls Tryz.prog 51 #[.pointer (some ⟨w0.heap.size, 0, none⟩), .int .i64 5, .int .i64 9] W1 fun e w' => ∃ tv v mv tw', e = .returned (.agg (vv H tv v mv)) ∧ HdP (Nw W1.heap.size w') w' H tv mv ∧ VoP (Nw W1.heap.size w') w' v .nil ∧ PsW w0 bv (Dn : Int) l w' tw' r ∧ Fr w0.heap.size W1 w') := Lib.hid C0
        clear x x1 ih htk hH C0 hlen hg
        go_enter Tryz.func30, Tryz.ntmps30
        go_upto_region 1 with fail
        rw [HW1.out]
        go_wp2_with fail
        refine KA2.out.mono ?_
        rintro e w' ⟨rfl, hw⟩
        rw [hw]
        clear hw w'
        go_wp2_with fail
        refine C.out.mono ?_
        rintro e w2 ⟨tv, v, mv, tw2, rfl, hd, hv, x2, f2⟩
        have K2 := K0.out.frame (f2.oth _ K0.out.lt (by omega))
        have t1 := hd.t.one
        have t2 := hv.one
        have t3 := hd.m.one
        go_wp2_with (refine wpl_stV rfl _ _ rfl w.heap.size zv H tv v mv rfl rfl K2 rfl t1 t2 t3 ?_)
        go_wp2
        refine bodyPost_ret (res_bk Tryz.underlying48 rfl infoV1 rfl _ _ w.heap.size (vvl H tv v mv) rfl (BK.set K2 _) rfl) rfl ?_
        exact val_end b0.out hlt K0.out.lt hd hv x2 f2
      by_cases k10 : tk = 10
      · subst k10
        rw [show valP l (g + 1) deep ((10, fr, te) :: r) = .ok (leafP 6 fr, .nil, r) from valP_leaf l g deep 10 fr te r (by decide)]
        have KA2 : Hid (Calls Tryz.prog 47 #[.pointer (some ⟨w0.heap.size, 0, none⟩)] W1 fun e w' => e = .returned (.int .i64 10) ∧ w' = W1) := Lib.hid (kind_any x1)
        have C0 := sing_val 6 (by decide) x1
        obtain ⟨H, hH⟩ : ∃ x, leafP 6 fr = x := ⟨_, rfl⟩
        rw [hH] at C0 ⊢
        unfold ValQ at C0
        dsimp only at C0
        unfold ptrP at C0 ⊢
        have C : Hid (Calls Tryz.prog 51 #[.pointer (some ⟨w0.heap.size, 0, none⟩), .int .i64 6, .int .i64 10] W1 fun e w' => ∃ tv v mv tw', e = .returned (.agg (vv H tv v mv)) ∧ HdP (Nw W1.heap.size w') w' H tv mv ∧ VoP (Nw W1.heap.size w') w' v .nil ∧ PsW w0 bv (Dn : Int) l w' tw' r ∧ Fr w0.heap.size W1 w') := Lib.hid C0
        clear x x1 ih htk hH C0 hlen hg
        go_enter Tryz.func30, Tryz.ntmps30
        go_upto_region 1 with fail
        rw [HW1.out]
        go_wp2_with fail
        refine KA2.out.mono ?_
        rintro e w' ⟨rfl, hw⟩
        rw [hw]
        clear hw w'
        go_wp2_with fail
        refine C.out.mono ?_
        rintro e w2 ⟨tv, v, mv, tw2, rfl, hd, hv, x2, f2⟩
        have K2 := K0.out.frame (f2.oth _ K0.out.lt (by omega))
        have t1 := hd.t.one
        have t2 := hv.one
        have t3 := hd.m.one
        go_wp2_with (refine wpl_stV rfl _ _ rfl w.heap.size zv H tv v mv rfl rfl K2 rfl t1 t2 t3 ?_)
        go_wp2
        refine bodyPost_ret (res_bk Tryz.underlying48 rfl infoV1 rfl _ _ w.heap.size (vvl H tv v mv) rfl (BK.set K2 _) rfl) rfl ?_
        exact val_end b0.out hlt K0.out.lt hd hv x2 f2
      by_cases k11 : tk = 11
      · subst k11
        rw [show valP l (g + 1) deep ((11, fr, te) :: r) = .ok (leafP 7 fr, .nil, r) from valP_leaf l g deep 11 fr te r (by decide)]
        have KA2 : Hid (Calls Tryz.prog 47 #[.pointer (some ⟨w0.heap.size, 0, none⟩)] W1 fun e w' => e = .returned (.int .i64 11) ∧ w' = W1) := Lib.hid (kind_any x1)
        have C0 := sing_val 7 (by decide) x1
        obtain ⟨H, hH⟩ : ∃ x, leafP 7 fr = x := ⟨_, rfl⟩
        rw [hH] at C0 ⊢
        unfold ValQ at C0
        dsimp only at C0
        unfold ptrP at C0 ⊢
        have C : Hid (Calls Tryz.prog 51 #[.pointer (some ⟨w0.heap.size, 0, none⟩), .int .i64 7, .int .i64 11] W1 fun e w' => ∃ tv v mv tw', e = .returned (.agg (vv H tv v mv)) ∧ HdP (Nw W1.heap.size w') w' H tv mv ∧ VoP (Nw W1.heap.size w') w' v .nil ∧ PsW w0 bv (Dn : Int) l w' tw' r ∧ Fr w0.heap.size W1 w') := Lib.hid C0
        clear x x1 ih htk hH C0 hlen hg
        go_enter Tryz.func30, Tryz.ntmps30
        go_upto_region 1 with fail
        rw [HW1.out]
        go_wp2_with fail
        refine KA2.out.mono ?_
        rintro e w' ⟨rfl, hw⟩
        rw [hw]
        clear hw w'
        go_wp2_with fail
        refine C.out.mono ?_
        rintro e w2 ⟨tv, v, mv, tw2, rfl, hd, hv, x2, f2⟩
        have K2 := K0.out.frame (f2.oth _ K0.out.lt (by omega))
        have t1 := hd.t.one
        have t2 := hv.one
        have t3 := hd.m.one
        go_wp2_with (refine wpl_stV rfl _ _ rfl w.heap.size zv H tv v mv rfl rfl K2 rfl t1 t2 t3 ?_)
        go_wp2
        refine bodyPost_ret (res_bk Tryz.underlying48 rfl infoV1 rfl _ _ w.heap.size (vvl H tv v mv) rfl (BK.set K2 _) rfl) rfl ?_
        exact val_end b0.out hlt K0.out.lt hd hv x2 f2
      by_cases k1 : tk = 1
      · subst k1
        have hvl := valP_list l true g deep fr te r
        have KA2 : Hid (Calls Tryz.prog 47 #[.pointer (some ⟨w0.heap.size, 0, none⟩)] W1 fun e w' => e = .returned (.int .i64 1) ∧ w' = W1) := Lib.hid (kind_any x1)
        have C0 := list_any (f := g) (deep := deep) (lv := lv) true (fun g' d ts' V tw' a b c t y => by
          have := ih (w := V) (tw := tw') (ts := ts') (g := g') (deep := d) (lv := lv + 1) (by omega) y t b c (by simp only [List.length_cons] at hlen; omega)
          rw [show (((lv + 1 : Nat)) : Int) = (lv : Int) + 1 by omega] at this
          exact this) x1 hX hl htk (by simp only [List.length_cons] at hg; omega) hld hD (by simp only [List.length_cons] at hlen; omega)
        have hE : valP l (g + 1) deep ((1, fr, te) :: r) = RestR l true deep fr g r := hvl
        rw [hE]
        obtain ⟨LV, hLV⟩ : ∃ q : Int, (lv : Int) = q := ⟨_, rfl⟩
        rw [hLV] at C0 ⊢
        have hlv0 : 0 ≤ LV := by omega
        have hlv1 : LV ≤ 60 := by omega
        obtain ⟨R, hR⟩ : ∃ x, RestR l true deep fr g r = x := ⟨_, rfl⟩
        rw [hR] at C0 ⊢
        unfold ptrP at C0 ⊢
        clear x x1 ih htk hR hE hvl hlen hg hLV
        cases R with
        | error er =>
          unfold ValQ at C0 ⊢
          dsimp only at C0 ⊢
          have C : Hid (Calls Tryz.prog 48 #[.pointer (some ⟨w0.heap.size, 0, none⟩), .int .i64 1, .int .i64 1, .int .i64 2, .int .i64 LV] W1 fun e w' => Pan e er ∧ Below w0.heap.size W1 w') := Lib.hid C0
          clear C0
          go_enter Tryz.func30, Tryz.ntmps30
          go_upto_region 1 with fail
          rw [HW1.out]
          go_wp2_with fail
          refine KA2.out.mono ?_
          rintro e w' ⟨rfl, hw⟩
          rw [hw]
          clear hw w'
          go_wp2_with fail
          refine C.out.mono ?_
          rintro e w2 ⟨rfl, hb2⟩
          go_wp2
          exact ⟨rfl, rfl, (b0.out.mono (Nat.le_of_lt hlt)).trans hb2⟩
        | ok q =>
          obtain ⟨H, kids, r2⟩ := q
          unfold ValQ at C0
          dsimp only at C0
          have C : Hid (Calls Tryz.prog 48 #[.pointer (some ⟨w0.heap.size, 0, none⟩), .int .i64 1, .int .i64 1, .int .i64 2, .int .i64 LV] W1 fun e w' => ∃ tv v mv tw', e = .returned (.agg (vv H tv v mv)) ∧ HdP (Nw W1.heap.size w') w' H tv mv ∧ VoP (Nw W1.heap.size w') w' v kids ∧ PsW w0 bv (Dn : Int) l w' tw' r2 ∧ Fr w0.heap.size W1 w') := Lib.hid C0
          clear C0
          go_enter Tryz.func30, Tryz.ntmps30
          go_upto_region 1 with fail
          rw [HW1.out]
          go_wp2_with fail
          refine KA2.out.mono ?_
          rintro e w' ⟨rfl, hw⟩
          rw [hw]
          clear hw w'
          go_wp2_with fail
          refine C.out.mono ?_
          rintro e w2 ⟨tv, v, mv, tw2, rfl, hd, hv, x2, f2⟩
          have K2 := K0.out.frame (f2.oth _ K0.out.lt (by omega))
          have t1 := hd.t.one
          have t2 := hv.one
          have t3 := hd.m.one
          go_wp2_with (refine wpl_stV rfl _ _ rfl w.heap.size zv H tv v mv rfl rfl K2 rfl t1 t2 t3 ?_)
          go_wp2
          refine bodyPost_ret (res_bk Tryz.underlying48 rfl infoV1 rfl _ _ w.heap.size (vvl H tv v mv) rfl (BK.set K2 _) rfl) rfl ?_
          exact val_end b0.out hlt K0.out.lt hd hv x2 f2
      by_cases k3 : tk = 3
      · subst k3
        have hvl := valP_list l false g deep fr te r
        have KA2 : Hid (Calls Tryz.prog 47 #[.pointer (some ⟨w0.heap.size, 0, none⟩)] W1 fun e w' => e = .returned (.int .i64 3) ∧ w' = W1) := Lib.hid (kind_any x1)
        have C0 := list_any (f := g) (deep := deep) (lv := lv) false (fun g' d ts' V tw' a b c t y => by
          have := ih (w := V) (tw := tw') (ts := ts') (g := g') (deep := d) (lv := lv + 1) (by omega) y t b c (by simp only [List.length_cons] at hlen; omega)
          rw [show (((lv + 1 : Nat)) : Int) = (lv : Int) + 1 by omega] at this
          exact this) x1 hX hl htk (by simp only [List.length_cons] at hg; omega) hld hD (by simp only [List.length_cons] at hlen; omega)
        have hE : valP l (g + 1) deep ((3, fr, te) :: r) = RestR l false deep fr g r := hvl
        rw [hE]
        obtain ⟨LV, hLV⟩ : ∃ q : Int, (lv : Int) = q := ⟨_, rfl⟩
        rw [hLV] at C0 ⊢
        have hlv0 : 0 ≤ LV := by omega
        have hlv1 : LV ≤ 60 := by omega
        obtain ⟨R, hR⟩ : ∃ x, RestR l false deep fr g r = x := ⟨_, rfl⟩
        rw [hR] at C0 ⊢
        unfold ptrP at C0 ⊢
        clear x x1 ih htk hR hE hvl hlen hg hLV
        cases R with
        | error er =>
          unfold ValQ at C0 ⊢
          dsimp only at C0 ⊢
          have C : Hid (Calls Tryz.prog 48 #[.pointer (some ⟨w0.heap.size, 0, none⟩), .int .i64 2, .int .i64 3, .int .i64 4, .int .i64 LV] W1 fun e w' => Pan e er ∧ Below w0.heap.size W1 w') := Lib.hid C0
          clear C0
          go_enter Tryz.func30, Tryz.ntmps30
          go_upto_region 1 with fail
          rw [HW1.out]
          go_wp2_with fail
          refine KA2.out.mono ?_
          rintro e w' ⟨rfl, hw⟩
          rw [hw]
          clear hw w'
          go_wp2_with fail
          refine C.out.mono ?_
          rintro e w2 ⟨rfl, hb2⟩
          go_wp2
          exact ⟨rfl, rfl, (b0.out.mono (Nat.le_of_lt hlt)).trans hb2⟩
        | ok q =>
          obtain ⟨H, kids, r2⟩ := q
          unfold ValQ at C0
          dsimp only at C0
          have C : Hid (Calls Tryz.prog 48 #[.pointer (some ⟨w0.heap.size, 0, none⟩), .int .i64 2, .int .i64 3, .int .i64 4, .int .i64 LV] W1 fun e w' => ∃ tv v mv tw', e = .returned (.agg (vv H tv v mv)) ∧ HdP (Nw W1.heap.size w') w' H tv mv ∧ VoP (Nw W1.heap.size w') w' v kids ∧ PsW w0 bv (Dn : Int) l w' tw' r2 ∧ Fr w0.heap.size W1 w') := Lib.hid C0
          clear C0
          go_enter Tryz.func30, Tryz.ntmps30
          go_upto_region 1 with fail
          rw [HW1.out]
          go_wp2_with fail
          refine KA2.out.mono ?_
          rintro e w' ⟨rfl, hw⟩
          rw [hw]
          clear hw w'
          go_wp2_with fail
          refine C.out.mono ?_
          rintro e w2 ⟨tv, v, mv, tw2, rfl, hd, hv, x2, f2⟩
          have K2 := K0.out.frame (f2.oth _ K0.out.lt (by omega))
          have t1 := hd.t.one
          have t2 := hv.one
          have t3 := hd.m.one
          go_wp2_with (refine wpl_stV rfl _ _ rfl w.heap.size zv H tv v mv rfl rfl K2 rfl t1 t2 t3 ?_)
          go_wp2
          refine bodyPost_ret (res_bk Tryz.underlying48 rfl infoV1 rfl _ _ w.heap.size (vvl H tv v mv) rfl (BK.set K2 _) rfl) rfl ?_
          exact val_end b0.out hlt K0.out.lt hd hv x2 f2
      rw [valP_none l g deep tk fr te r ⟨k7, k8, k9, k10, k11, k1, k3⟩]
      exact val_bad x ⟨k7, k8, k9, k10, k11, k1, k3⟩
end Go.Proofs.YtlobinjdgcidmaaGreatDoor
