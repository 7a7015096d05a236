/- Layouts: render's fits and push. -/
import Derived.Test.YtehofomfblfhaaaYLy
import Derived.Deep.QuietTactic
import Derived.BigQuiet
import Derived.Great.BuildSlice
namespace Go.Proofs.Ytehofomfblfhaaa
open Go.RowKit
set_option linter.unusedVariables false
set_option linter.unusedSimpArgs false

theorem below_drewNY {B : Nat} {a w : World} (h : Below B a w) (k : Nat) : Below B a (w.drewN k) := ⟨h.os, h.tape, h.output, h.size, h.block⟩
/-- An entry's fourteen cells. -/
def ec (k f : Int) (s : ByteArray) (xd vk : Value) (l : List UInt8) (h : Bool) (lb : Nat × Bool) (lv : Nat) (fl : Bool) (af : Nat) : List Value := [.int .i64 k, .int .i64 f, .string s, xd, vk, .int .i64 (M.wl l : Int), .string (bytes (M.hd3 l)), .string (bytes (M.tl3 l)), .bool h, .int .i64 (lb.1 : Int), .bool lb.2, .int .i64 (lv : Int), .bool fl, .int .i64 (af : Int)]
theorem infoEn : (Try.prog.info? 58).map (fun i => (i.zero, i.size, i.bytes)) = some (some (.agg #[.int .i64 0, .int .i64 0, .string ⟨#[]⟩, .slice none 0 0, .slice none 0 0, .int .i64 0, .string ⟨#[]⟩, .string ⟨#[]⟩, .bool false, .int .i64 0, .bool false, .int .i64 0, .bool false, .int .i64 0]), 14, 168) := by kernel_rfl
theorem infoEn1 : (Try.prog.info? 58).map (·.size) = some 14 := by kernel_rfl
set_option maxRecDepth 100000 in
set_option maxHeartbeats 4000000 in
theorem fits_any (N lb K0 : Nat) (w0 WN w : World) (tv ov : Value) (wd ind col : Nat) (te : List (List Value)) (o : List Pc) (k f : Int) (s : ByteArray) (xd vk : Value) (l : List UInt8) (h : Bool) (lbx : Nat × Bool) (lv : Nat) (fl : Bool) (af : Nat)
    (hly : Ly N lb K0 w0 WN w tv ov wd ind col te o) (h1 : col ≤ 1000000000) (h2 : M.wl l ≤ 1000000000) (h3 : af ≤ 1000000000) (h4 : wd ≤ 1000000000) :
    Calls Try.prog 42 #[.pointer (some ⟨lb, 0, none⟩), .agg (ec k f s xd vk l h lbx lv fl af).toArray] w fun e w' => e = .returned (.bool (!h && decide (col + M.wl l + af ≤ wd))) ∧ Below w.heap.size w w' := by
  obtain ⟨n, hn⟩ : ∃ n, M.wl l = n := ⟨_, rfl⟩
  obtain ⟨H1, e1⟩ : ∃ n, bytes (M.hd3 l) = n := ⟨_, rfl⟩
  obtain ⟨T1, e2⟩ : ∃ n, bytes (M.tl3 l) = n := ⟨_, rfl⟩
  unfold ec
  rw [hn, e1, e2]
  rw [hn] at h2
  obtain ⟨W1, hW1⟩ : ∃ W, w.alloc (.cells #[.int .i64 k, .int .i64 f, .string s, xd, vk, .int .i64 (n : Int), .string H1, .string T1, .bool h, .int .i64 (lbx.1 : Int), .bool lbx.2, .int .i64 (lv : Int), .bool fl, .int .i64 (af : Int)] 58) = W := ⟨_, rfl⟩
  have hb := BK.new 58 w #[.int .i64 k, .int .i64 f, .string s, xd, vk, .int .i64 (n : Int), .string H1, .string T1, .bool h, .int .i64 (lbx.1 : Int), .bool lbx.2, .int .i64 (lv : Int), .bool fl, .int .i64 (af : Int)]
  have b1 : Below w.heap.size w (w.alloc (.cells #[.int .i64 k, .int .i64 f, .string s, xd, vk, .int .i64 (n : Int), .string H1, .string T1, .bool h, .int .i64 (lbx.1 : Int), .bool lbx.2, .int .i64 (lv : Int), .bool fl, .int .i64 (af : Int)] 58)) := (Below.refl _ _).alloc (Nat.le_refl _) _
  rw [hW1] at hb b1
  have hl := hly.keep b1
  have B1 := Lib.hid b1
  have c8 : W1.cell? ⟨w.heap.size, 8, none⟩ = some (.bool h) := hb.cell 8
  have c5 : W1.cell? ⟨w.heap.size, 5, none⟩ = some (.int .i64 (n : Int)) := hb.cell 5
  have c13 : W1.cell? ⟨w.heap.size, 13, none⟩ = some (.int .i64 (af : Int)) := hb.cell 13
  have d3 : W1.cell? ⟨lb, 3, none⟩ = some (.int .i64 (col : Int)) := hl.hb.cell 3
  have d1 : W1.cell? ⟨lb, 1, none⟩ = some (.int .i64 (wd : Int)) := hl.hb.cell 1
  have HW1 := Lib.hid hW1
  have n0 : (0 : Int) ≤ n := by omega
  have n1 : (n : Int) ≤ 1000000000 := by omega
  have a0 : (0 : Int) ≤ af := by omega
  have a1 : (af : Int) ≤ 1000000000 := by omega
  have q0 : (0 : Int) ≤ col := by omega
  have q1 : (col : Int) ≤ 1000000000 := by omega
  have v1 : IntKind.i64.wrap ((col : Int) + n) = (col : Int) + n := by rw [IntKind.wrap_i64]; omega
  have v2 : IntKind.i64.wrap ((col : Int) + n + af) = (col : Int) + n + af := by rw [IntKind.wrap_i64]; omega
  have e5 : decide (col + n + af ≤ wd) = decide ((col : Int) + n + af ≤ wd) := by
    rw [decide_eq_decide]; omega
  rw [e5]
  clear hn e1 e2 hW1 hly hl hb b1 e5
  cases h with
  | true =>
    go_enter Try.func42, Try.ntmps42
    go_upto_region 1 with fail
    rw [HW1.out]
    go_quiet (fail)
    go_wp2
    go_ret
    exact ⟨rfl, by first | exact B1.out | exact below_drewNY B1.out _⟩
  | false =>
    go_enter Try.func42, Try.ntmps42
    go_upto_region 1 with fail
    rw [HW1.out]
    go_quiet (fail)
    go_wp2
    go_ret
    exact ⟨by simp, by first | exact B1.out | exact below_drewNY B1.out _⟩
theorem PaC.get {P : Nat → Prop} {w : World} {k f : Int} {s : ByteArray} {kids : Fo} {y : List Value} (h : PaC P w k f s kids y) : ∃ (xd vk : Value) (lk : List (List Value)), y = pcs k f s xd vk (allD k s kids) (hardD k kids) (lbD k s kids) ∧ SlV xd ∧ VsP P 11 w vk lk ∧ lk.length = kids.len ∧
    ∀ (j : Nat) (hj : j < lk.length) k' f' s' kids', kids.at? j = some (k', f', s', kids') → PaC P w k' f' s' kids' lk[j] := by
  cases h with
  | mk _ _ _ _ xd vk lk hs hx hv hl hk => exact ⟨xd, vk, lk, rfl, hx, hv, hl, hk⟩
theorem pcs_inj {k f : Int} {s : ByteArray} {xd vk xd' vk' : Value} {l : List UInt8} {h : Bool} {lb : Nat × Bool} (e : pcs k f s xd vk l h lb = pcs k f s xd' vk' l h lb) : xd = xd' ∧ vk = vk' := by
  simp only [pcs, List.cons.injEq, true_and, and_true] at e
  exact e
/-- How big a document is. -/
def itSz (x : It) : Nat := x.s.size + 1 + FoSz x.kids
/-- An entry of what is to do, ahead of a row. -/
def EnR (C N lb : Nat) (WN : World) (x : It) (R : List It) (e : List Value) : Prop :=
  ∃ (xd vk : Value) (af : Nat), e = ec x.k x.f x.s xd vk (allD x.k x.s x.kids) (hardD x.k x.kids) (lbD x.k x.s x.kids) x.lv x.fl af ∧ xd.oneCell' = true ∧ vk.oneCell' = true ∧
    PaC (fun b => b < N ∧ b ≠ lb) WN x.k x.f x.s x.kids (pcs x.k x.f x.s xd vk (allD x.k x.s x.kids) (hardD x.k x.kids) (lbD x.k x.s x.kids)) ∧ (x.fl = false → af = (afterR R).1) ∧ af + itSz x ≤ C
/-- What is to do, the last first. -/
inductive TodoR (C N lb : Nat) (WN : World) : List It → List (List Value) → Prop where
  | nil : TodoR C N lb WN [] []
  | snoc {x : It} {R : List It} {te : List (List Value)} {e : List Value} (h : TodoR C N lb WN R te) (he : EnR C N lb WN x R e) : TodoR C N lb WN (x :: R) (te ++ [e])
theorem TodoR.len {C N lb : Nat} {WN : World} {R : List It} {te : List (List Value)} (h : TodoR C N lb WN R te) : te.length = R.length := by
  induction h with
  | nil => rfl
  | snoc h he ih => simp [ih]
/-- The rest of a list of documents. -/
def Fo.drop : Fo → Nat → Fo
  | L, 0 => L
  | .nil, _ + 1 => .nil
  | .cons _ _ _ _ r, n + 1 => r.drop n
theorem fo_drop_zero (L : Fo) : L.drop 0 = L := by cases L <;> rfl
theorem fo_drop_at (L : Fo) : ∀ i k f s kids, L.at? i = some (k, f, s, kids) → L.drop i = .cons k f s kids (L.drop (i + 1)) := by
  induction L with
  | nil => intro i k f s kids h; simp [Fo.at?] at h
  | cons k0 f0 s0 kids0 rest _ ih =>
    intro i k f s kids h
    cases i with
    | zero =>
      simp only [Fo.at?, Option.some.injEq, Prod.mk.injEq] at h
      obtain ⟨rfl, rfl, rfl, rfl⟩ := h
      simp only [Fo.drop, fo_drop_zero]
    | succ i => exact ih i k f s kids h
theorem fo_drop_len (L : Fo) : L.drop L.len = .nil := by
  induction L with
  | nil => rfl
  | cons k f s kids rest _ ih => exact ih
theorem fo_drop_sz (L : Fo) : ∀ i, FoSz (L.drop i) ≤ FoSz L := by
  induction L with
  | nil => intro i; cases i <;> simp [Fo.drop]
  | cons k f s kids rest _ ih =>
    intro i
    cases i with
    | zero => simp [Fo.drop]
    | succ i => simp only [Fo.drop, FoSz]; have := ih i; omega
theorem fo_drop_le (L : Fo) : ∀ i, (L.drop i).len ≤ L.len := by
  induction L with
  | nil => intro i; cases i <;> simp [Fo.drop]
  | cons k f s kids rest _ ih =>
    intro i
    cases i with
    | zero => simp [Fo.drop]
    | succ i => simp only [Fo.drop, Fo.len]; have := ih i; omega
/-- A struct is built: it may be taken first. -/
theorem yieldsIf_build {P : Program} {ops : Array Oper} {S : World → Prop} {op : Oper} {a : Act} (hw : Region.wanted op (yielded ops a.tmps) = true) (t : TypeId) (parts : Array (Nat × Operand)) (ho : op.op = .build t parts) (cells : Array Value)
    (h : P.built t (parts.map fun (i, x) => (i, a.eval x)).toList = some cells) : YieldsIf P ops S op (.agg cells) a :=
  .inl ⟨hw, fun w _ => by
    unfold execOp
    simp only [ho, Sem.run_bind, run_build w t _ cells h, Result.andThen_ok]
    first | rfl | simp⟩
theorem built_en (c0 c1 c2 c3 c4 c5 c6 c7 c8 c9 c10 : Value) (lv : Int) (fl : Bool) (af : Int) : Try.prog.built 58 [(0, .agg #[c0, c1, c2, c3, c4, c5, c6, c7, c8, c9, c10]), (1, .int .i64 lv), (2, .bool fl), (3, .int .i64 af)] = some #[c0, c1, c2, c3, c4, c5, c6, c7, c8, c9, c10, .int .i64 lv, .bool fl, .int .i64 af] := by
  kernel_rfl
theorem fill14 (c0 c1 c2 c3 c4 c5 c6 c7 c8 c9 c10 c11 c12 c13 : Value) (s : Nat) (hs : s = 14) (zc : Array Value) (hz : zc.size = 14) : Instr.fill (fun i => some (i * s, s)) zc [(0, .agg #[c0, c1, c2, c3, c4, c5, c6, c7, c8, c9, c10, c11, c12, c13])] = some #[c0, c1, c2, c3, c4, c5, c6, c7, c8, c9, c10, c11, c12, c13] := by
  subst hs
  have e : zc = #[zc[0], zc[1], zc[2], zc[3], zc[4], zc[5], zc[6], zc[7], zc[8], zc[9], zc[10], zc[11], zc[12], zc[13]] := by
    apply Array.ext
    · simp [hz]
    · intro i h1 h2
      have : i = 0 ∨ i = 1 ∨ i = 2 ∨ i = 3 ∨ i = 4 ∨ i = 5 ∨ i = 6 ∨ i = 7 ∨ i = 8 ∨ i = 9 ∨ i = 10 ∨ i = 11 ∨ i = 12 ∨ i = 13 := by omega
      rcases this with rfl | rfl | rfl | rfl | rfl | rfl | rfl | rfl | rfl | rfl | rfl | rfl | rfl | rfl <;> rfl
  rw [e]
  simp [Instr.fill, Value.cells, List.zipIdx]
/-- A slice of one entry is made. -/
theorem wp_bsE {o : Oper} {a : Act} {w : World} {K : Act → World → Prop} {Q : Exit → Act → World → Prop} (x : Operand) (ho : o.op = .buildSlice 48 1 #[(0, x)])
    (c0 c1 c2 c3 c4 c5 c6 c7 c8 c9 c10 c11 c12 c13 : Value) (hx : a.eval x = .agg #[c0, c1, c2, c3, c4, c5, c6, c7, c8, c9, c10, c11, c12, c13])
    (h : K (a.put o.dst (.slice (some ⟨w.heap.size, 0, none⟩) 1 1)) (w.alloc (.cells #[c0, c1, c2, c3, c4, c5, c6, c7, c8, c9, c10, c11, c12, c13] 58))) : o.wp Try.prog a w K Q := by
  obtain ⟨i0, hi, hz0, hz1, hz2⟩ := info_parts infoEn
  refine wp_buildSlice 48 58 1 _ ho #[c0, c1, c2, c3, c4, c5, c6, c7, c8, c9, c10, c11, c12, c13] i0 _ Try.underlying48 hi hz0 (by rw [hz1]; decide) (by rw [hz1]; decide) ?_ h
  simp only [List.map_toArray, List.map_cons, List.map_nil, hx]
  exact fill14 c0 c1 c2 c3 c4 c5 c6 c7 c8 c9 c10 c11 c12 c13 _ hz1 _ (by rw [hz1]; simp)
/-- On the way through the kids, from the last one: i of them are left. -/
structure PuS (C N lb K0 : Nat) (w0 WN : World) (wd ind col : Nat) (ov : Value) (o : List Pc) (L : Fo) (lv : Nat) (fl : Bool) (afe : Nat) (R : List It) (eb : Nat) (en : List Value) (wr : World) (i : Nat) (tv : Value) (te : List (List Value)) (af : Nat) : Prop where
  ly : Ly N lb K0 w0 WN wr tv ov wd ind col te o
  td : TodoR C N lb WN (items lv fl (L.drop i) ++ R) te
  en : BK 58 wr eb en.toArray
  ne : tv.ownBlock ≠ some eb
  aft : fl = false → af = (comb (lbF (L.drop i)) (afterR R)).1
  afb : af ≤ afe + FoSz (L.drop i)
set_option maxRecDepth 100000 in
set_option maxHeartbeats 4000000 in
theorem push_any (C N lb K0 : Nat) (w0 WN w : World) (tv ov : Value) (wd ind col : Nat) (te : List (List Value)) (o : List Pc) (k f : Int) (s : ByteArray) (kids : Fo) (xd vk : Value) (lv : Nat) (fl : Bool) (af : Nat) (R : List It)
    (hly : Ly N lb K0 w0 WN w tv ov wd ind col te o) (htd : TodoR C N lb WN R te) (hx : xd.oneCell' = true) (hv : vk.oneCell' = true)
    (hpa : PaC (fun b => b < N ∧ b ≠ lb) WN k f s kids (pcs k f s xd vk (allD k s kids) (hardD k kids) (lbD k s kids))) (haf : fl = false → af = (afterR R).1) (hsz : af + FoSz kids ≤ C) (hC : C ≤ 100000000) (hrl : R.length + kids.len ≤ 10000000) (hlv : lv ≤ 1000000) :
    Calls Try.prog 41 #[.pointer (some ⟨lb, 0, none⟩), .agg (ec k f s xd vk (allD k s kids) (hardD k kids) (lbD k s kids) lv fl af).toArray] w fun e w' =>
      e = .returned (.tuple #[]) ∧ ∃ tv' te', Ly N lb K0 w0 WN w' tv' ov wd ind col te' o ∧ TodoR C N lb WN (items lv fl kids ++ R) te' := by
  obtain ⟨xd2, vk2, lk, he, -, hvs, hlk, hkin⟩ := hpa.get
  obtain ⟨rfl, rfl⟩ := pcs_inj he
  clear he
  obtain ⟨EN, hEN⟩ : ∃ EN, ec k f s xd vk (allD k s kids) (hardD k kids) (lbD k s kids) lv fl af = EN := ⟨_, rfl⟩
  have hb := BK.new 58 w EN.toArray
  have b1 : Below w.heap.size w (w.alloc (.cells EN.toArray 58)) := (Below.refl _ _).alloc (Nat.le_refl _) _
  obtain ⟨W1, hW1⟩ : ∃ W, w.alloc (.cells EN.toArray 58) = W := ⟨_, rfl⟩
  rw [hW1] at hb b1
  obtain ⟨va, vcap, hvk, hv1, hv2, hv3⟩ := hvs.1
  obtain ⟨n, hn⟩ : ∃ n, kids.len = n := ⟨_, rfl⟩
  rw [hlk, hn] at hvk hv1
  subst hvk
  have P0 : Hid (PuS C N lb K0 w0 WN wd ind col ov o kids lv fl af R w.heap.size EN W1 n tv te af) := Lib.hid (by
    refine ⟨hly.keep b1, ?_, hb, ?_, ?_, ?_⟩
    · rw [← hn, fo_drop_len]; exact htd
    · intro e; have := (own_in hly.ht _ e).2; omega
    · intro h; rw [haf h, ← hn, fo_drop_len]; simp [lbF, comb]
    · omega)
  have HV3 := Lib.hid hv3
  have NWW := Lib.hid hly.sz
  have HLBN := Lib.hid hly.hlb
  have HKIN := Lib.hid hkin
  have HVS := Lib.hid hvs
  have HLK := Lib.hid hlk
  have HN := Lib.hid hn
  have HAT := Lib.hid (fun i h => Fo.at_some kids i h)
  have HW1 := Lib.hid hW1
  have HEN := Lib.hid hEN
  have c14 : W1.cell? ⟨w.heap.size, 13, none⟩ = some (.int .i64 (af : Int)) := by rw [hb.cell, ← hEN]; rfl
  have c4 : W1.cell? ⟨w.heap.size, 4, none⟩ = some (.slice va n vcap) := by rw [hb.cell, ← hEN]; rfl
  have n0 : (n : Int) ≤ 10000000 := by omega
  rw [hEN]
  clear hW1 hly htd hpa hvs hv3 hkin hlk hn hb b1 haf
  go_enter Try.func41, Try.ntmps41
  go_upto_region 1 with fail
  rw [HW1.out]
  go_upto_region 3 with fail
  clear c14 c4
  go_loopw [4, 5] (fun av iv wr => ∃ (i : Nat) (z : Int) (tv : Value) (te : List (List Value)) (ac : Nat), av = .int .i64 (ac : Int) ∧ iv = .int .i64 z ∧ z + 1 = (i : Int) ∧ i ≤ n ∧ PuS C N lb K0 w0 WN wd ind col ov o kids lv fl af R w.heap.size EN wr i tv te ac) (fun _ iv _ => (intOf iv + 1).toNat)
  case atStart => exact ⟨n, (n : Int) - 1, tv, te, af, rfl, rfl, by omega, Nat.le_refl _, P0.out⟩
  case round =>
    obtain ⟨i, z, tv2, te2, ac, rfl, rfl, hz, hi, hps⟩ := hrel
    have HP := Lib.hid hps
    clear hps
    cases i with
    | zero =>
      obtain rfl : z = -1 := by omega
      as_aux_lemma =>
        go_wp2
        go_end0
        have h1 := HP.out.td
        rw [fo_drop_zero] at h1
        exact ⟨rfl, _, _, HP.out.ly, h1⟩
    | succ i =>
      obtain rfl : z = (i : Int) := by omega
      obtain ⟨x0, x1, X, kk, hat⟩ := HAT.out i (by rw [HN.out]; omega)
      have hil : i < lk.length := by rw [HLK.out, HN.out]; omega
      have hkp := HKIN.out i hil x0 x1 X kk hat
      obtain ⟨xd', vk', lk', hlki, hx', hvs', -, -⟩ := hkp.get
      obtain ⟨va', vc', hvv', -⟩ := hvs'.1
      obtain ⟨xa, xn, xc, rfl⟩ := hx'
      obtain ⟨vn', hvn⟩ : ∃ q, lk'.length = q := ⟨_, rfl⟩
      rw [hvn] at hvv'
      subst hvv'
      have hdr := fo_drop_at kids i x0 x1 X kk hat
      have hds := fo_drop_sz kids i
      have hdl := fo_drop_le kids i
      have hafb := HP.out.afb
      rw [hdr] at hds hdl
      simp only [FoSz, Fo.len] at hds hdl
      have hlbl := lbD_le x0 X kk
      have hEN2 : Hid (EnR C N lb WN ⟨x0, x1, X, kk, lv, fl⟩ (items lv fl (kids.drop (i + 1)) ++ R) (ec x0 x1 X (.slice xa xn xc) (.slice va' vn' vc') (allD x0 X kk) (hardD x0 kk) (lbD x0 X kk) lv fl ac)) := Lib.hid (by
        refine ⟨_, _, ac, rfl, rfl, rfl, by rw [← hlki]; exact hkp, fun h => ?_, ?_⟩
        · have h2 := HP.out.aft h
          simp only at h
          subst h
          rw [afterR_append, afterR_items]
          exact h2
        · simp only [itSz]; omega)
      have hafN : Hid (∀ b', fl = false → (if (lbD x0 X kk).2 = true then (lbD x0 X kk).1 else ac + (lbD x0 X kk).1) = (comb (lbF (kids.drop i)) (afterR R)).1) := Lib.hid (fun _ : Unit => fun h => by
        have h2 := HP.out.aft h
        rw [hdr, lbF_cons, comb_assoc]
        generalize comb (lbF (kids.drop (i + 1))) (afterR R) = q at h2
        rw [h2]
        unfold comb
        split
        · rfl
        · simp only; omega)
      have hafM : Hid ((if (lbD x0 X kk).2 = true then (lbD x0 X kk).1 else ac + (lbD x0 X kk).1) ≤ af + FoSz (kids.drop i)) := Lib.hid (by
        rw [hdr]; simp only [FoSz]
        split <;> omega)
      have hacC : ac + (lbD x0 X kk).1 ≤ 100000000 := by omega
      obtain ⟨b, off, hva, hbl, hcc⟩ := HV3.out (by omega)
      have hva0 := hva
      obtain rfl : va = some ⟨b, off, none⟩ := hva
      have hPb := HVS.out.2 b off n vcap rfl (by omega)
      have hrg0 : WN.rangeAt b (off + i * 11) (pcs x0 x1 X (.slice xa xn xc) (.slice va' vn' vc') (allD x0 X kk) (hardD x0 kk) (lbD x0 X kk)) := fun j u hu => by
        have := hcc i hil j u (by rw [hlki]; exact hu)
        rw [← Nat.add_assoc] at this
        exact this
      have hrg := rangeAt_keep hrg0 (HP.out.ly.fr b hPb.1 hPb.2)
      obtain ⟨LL, hLL⟩ : ∃ x, lbD x0 X kk = x := ⟨_, rfl⟩
      obtain ⟨HD, hHD⟩ : ∃ x, hardD x0 kk = x := ⟨_, rfl⟩
      obtain ⟨AL, hAL⟩ : ∃ x, allD x0 X kk = x := ⟨_, rfl⟩
      rw [hLL] at hEN2 hafN hafM hacC hrg
      rw [hHD, hAL] at hEN2 hrg
      obtain ⟨l1, l2⟩ := LL
      obtain ⟨D1, e1⟩ : ∃ x : Int, (M.wl AL : Int) = x := ⟨_, rfl⟩
      obtain ⟨D2, e2⟩ : ∃ x, bytes (M.hd3 AL) = x := ⟨_, rfl⟩
      obtain ⟨D3, e3⟩ : ∃ x, bytes (M.tl3 AL) = x := ⟨_, rfl⟩
      unfold pcs at hrg
      unfold ec at hEN2
      rw [e1, e2, e3] at hrg hEN2
      simp only at hafN hafM hacC
      obtain ⟨hh, hhh⟩ : ∃ x, HD = x := ⟨_, rfl⟩
      rw [hhh] at hrg hEN2
      have hone : (#[.int .i64 x0, .int .i64 x1, .string X, .slice xa xn xc, .slice va' vn' vc', .int .i64 D1, .string D2, .string D3, .bool hh, .int .i64 (l1 : Int), .bool l2] : Array Value).all (·.oneCell') = true := all_oneCell_toArray (cs := [.int .i64 x0, .int .i64 x1, .string X, .slice xa xn xc, .slice va' vn' vc', .int .i64 D1, .string D2, .string D3, .bool hh, .int .i64 (l1 : Int), .bool l2]) (by
        intro c hc
        simp only [List.mem_cons, List.mem_nil_iff, or_false] at hc
        rcases hc with rfl | rfl | rfl | rfl | rfl | rfl | rfl | rfl | rfl | rfl | rfl
        all_goals first | rfl | assumption)
      have c4 : wr.cell? ⟨w.heap.size, 4, none⟩ = some (.slice (some ⟨b, off, none⟩) n vcap) := by rw [HP.out.en.cell, ← HEN.out]; rfl
      have hkb := BK.new 55 wr pz
      have bA : Below wr.heap.size wr (wr.alloc (.cells pz 55)) := (Below.refl _ _).alloc (Nat.le_refl _) _
      have HKB := Lib.hid hkb
      have BA := Lib.hid bA
      have i0 : (0 : Int) ≤ i := by omega
      have i1 : (i : Int) < n := by omega
      have HRG := Lib.hid hrg
      have HONE := Lib.hid hone
      have HDR := Lib.hid hdr
      clear hat hkp hlki hvs' hvn hdr hds hdl hafb hlbl hcc hrg0 hrg hLL hHD hAL e1 e2 e3 hhh hva0 hPb hkb bA hone
      as_aux_lemma =>
        go_upto_region 6 with (first | (refine wpList_load_mid rfl 55 _ rfl b (off + i * 11) rfl [.int .i64 x0, .int .i64 x1, .string X, .slice xa xn xc, .slice va' vn' vc', .int .i64 D1, .string D2, .string D3, .bool hh, .int .i64 (l1 : Int), .bool l2] _ HRG.out Try.underlying55 rfl infoPt1 ?_) | (refine wpl_stK infoPt1 rfl _ _ rfl wr.heap.size pz #[.int .i64 x0, .int .i64 x1, .string X, .slice xa xn xc, .slice va' vn' vc', .int .i64 D1, .string D2, .string D3, .bool hh, .int .i64 (l1 : Int), .bool l2] rfl rfl HKB.out rfl rfl HONE.out ?_))
        have B2 := Lib.hid (below_setRowK BA.out (Nat.le_refl _) #[.int .i64 x0, .int .i64 x1, .string X, .slice xa xn xc, .slice va' vn' vc', .int .i64 D1, .string D2, .string D3, .bool hh, .int .i64 (l1 : Int), .bool l2])
        have HK2 := Lib.hid (HKB.out.set #[.int .i64 x0, .int .i64 x1, .string X, .slice xa xn xc, .slice va' vn' vc', .int .i64 D1, .string D2, .string D3, .bool hh, .int .i64 (l1 : Int), .bool l2])
        obtain ⟨wk, hwk⟩ : ∃ x, (wr.alloc (.cells pz 55)).setRow wr.heap.size #[.int .i64 x0, .int .i64 x1, .string X, .slice xa xn xc, .slice va' vn' vc', .int .i64 D1, .string D2, .string D3, .bool hh, .int .i64 (l1 : Int), .bool l2] = x := ⟨_, rfl⟩
        rw [hwk] at B2 HK2
        rw [show (wr.alloc (.cells #[.int .i64 0, .int .i64 0, .string ⟨#[]⟩, .slice none 0 0, .slice none 0 0, .int .i64 0, .string ⟨#[]⟩, .string ⟨#[]⟩, .bool false, .int .i64 0, .bool false] 55)).setRow wr.heap.size #[.int .i64 x0, .int .i64 x1, .string X, .slice xa xn xc, .slice va' vn' vc', .int .i64 D1, .string D2, .string D3, .bool hh, .int .i64 (l1 : Int), .bool l2] = wk from hwk]
        clear hwk BA HKB c4 HONE
        have L2 := Lib.hid (HP.out.ly.keep B2.out)
        have E2 := Lib.hid (HP.out.en.keep B2.out)
        obtain ⟨ta, tc, htv⟩ : ∃ a c, tv2 = .slice a te2.length c := by
          obtain ⟨a, c, e, _⟩ := L2.out.ht.vs
          exact ⟨a, c, e⟩
        subst htv
        have hlen := HP.out.td.len
        rw [List.length_append, items_len] at hlen
        have hdl2 := fo_drop_le kids (i + 1)
        obtain ⟨m, hm⟩ : ∃ m, te2.length = m := ⟨_, rfl⟩
        have HM := Lib.hid hm
        have hm2 : m ≤ 20000000 := by have := HN.out; omega
        have OW := Lib.hid HP.out.ly.ht
        have NE := Lib.hid HP.out.ne
        rw [hm] at L2 NE OW
        have TD := Lib.hid HP.out.td
        have ZW := Lib.hid (show w.heap.size < wr.heap.size from HP.out.en.lt)
        have KW := Lib.hid HK2.out.lt
        have NLB := Lib.hid (show lb < wr.heap.size from HP.out.ly.hb.lt)
        clear hlen hdl2 HP
        clear hm
        refine wp_region_noPanic ?_
        have SV : ∀ V : World, Ly N lb K0 w0 WN V (.slice ta m tc) ov wd ind col te2 o → BK 55 V wr.heap.size #[.int .i64 x0, .int .i64 x1, .string X, .slice xa xn xc, .slice va' vn' vc', .int .i64 D1, .string D2, .string D3, .bool hh, .int .i64 (l1 : Int), .bool l2] → BK 58 V w.heap.size EN.toArray →
          (V.cell? ⟨lb, 0, none⟩ = some (.slice ta m tc) ∧ V.rangeAt wr.heap.size 0 [.int .i64 x0, .int .i64 x1, .string X, .slice xa xn xc, .slice va' vn' vc', .int .i64 D1, .string D2, .string D3, .bool hh, .int .i64 (l1 : Int), .bool l2] ∧ V.cell? ⟨w.heap.size, 11, none⟩ = some (.int .i64 (lv : Int)) ∧ V.cell? ⟨w.heap.size, 12, none⟩ = some (.bool fl)) := fun V h1 h2 h3 =>
          ⟨h1.hb.cell 0, h2.range 0 _ (by intro j u h; simpa using h), by rw [h3.cell, ← HEN.out]; rfl, by rw [h3.cell, ← HEN.out]; rfl⟩
        refine wp_region_to 16 (S := fun V => V.cell? ⟨lb, 0, none⟩ = some (.slice ta m tc) ∧ V.rangeAt wr.heap.size 0 [.int .i64 x0, .int .i64 x1, .string X, .slice xa xn xc, .slice va' vn' vc', .int .i64 D1, .string D2, .string D3, .bool hh, .int .i64 (l1 : Int), .bool l2] ∧ V.cell? ⟨w.heap.size, 11, none⟩ = some (.int .i64 (lv : Int)) ∧ V.cell? ⟨w.heap.size, 12, none⟩ = some (.bool fl)) (by kernel_rfl) (SV wk.drew L2.out.drew HK2.out E2.out) (fun hS => ?_)
        refine dtp 0 ?_
        refine dtp 1 ?_
        refine dtp 2 ?_
        refine dtp 3 ?_
        refine dtk 4 ?_
        refine dtk (v := .agg #[.int .i64 x0, .int .i64 x1, .string X, .slice xa xn xc, .slice va' vn' vc', .int .i64 D1, .string D2, .string D3, .bool hh, .int .i64 (l1 : Int), .bool l2]) 5 (hy := yieldsIf_load_mid (by rfl) 55 _ rfl wr.heap.size 0 rfl [.int .i64 x0, .int .i64 x1, .string X, .slice xa xn xc, .slice va' vn' vc', .int .i64 D1, .string D2, .string D3, .bool hh, .int .i64 (l1 : Int), .bool l2] _ (fun w hS => hS.2.1) Try.underlying55 rfl infoPt1) ?_
        refine dtp 6 ?_
        refine dtk 7 ?_
        refine dtp 8 ?_
        refine dtk 9 ?_
        refine dtp 10 ?_
        refine dtp (v := .agg #[.int .i64 x0, .int .i64 x1, .string X, .slice xa xn xc, .slice va' vn' vc', .int .i64 D1, .string D2, .string D3, .bool hh, .int .i64 (l1 : Int), .bool l2, .int .i64 (lv : Int), .bool fl, .int .i64 (ac : Int)]) 11 (hy := yieldsIf_build (by rfl) 58 _ rfl #[.int .i64 x0, .int .i64 x1, .string X, .slice xa xn xc, .slice va' vn' vc', .int .i64 D1, .string D2, .string D3, .bool hh, .int .i64 (l1 : Int), .bool l2, .int .i64 (lv : Int), .bool fl, .int .i64 (ac : Int)] (by simp only [List.map_toArray, List.map_cons, List.map_nil]; exact built_en _ _ _ _ _ _ _ _ _ _ _ _ _ _)) ?_
        refine AnyTo.ready (rs := [12]) (by kernel_rfl) (by simp) ?_
        refine ReadyTo.cons rfl (fun K hK => ?_) ReadyTo.nil
        rw [if_pos (by rfl)]
        refine wp_bsE _ rfl _ _ _ _ _ _ _ _ _ _ _ _ _ _ rfl ?_
        have bE : Below wk.heap.size wk (wk.drew.alloc (.cells #[.int .i64 x0, .int .i64 x1, .string X, .slice xa xn xc, .slice va' vn' vc', .int .i64 D1, .string D2, .string D3, .bool hh, .int .i64 (l1 : Int), .bool l2, .int .i64 (lv : Int), .bool fl, .int .i64 (ac : Int)] 58)) := (Below.refl wk.heap.size wk).drew.alloc (Nat.le_refl _) _
        have hz1 : BK 58 (wk.drew.alloc (.cells #[.int .i64 x0, .int .i64 x1, .string X, .slice xa xn xc, .slice va' vn' vc', .int .i64 D1, .string D2, .string D3, .bool hh, .int .i64 (l1 : Int), .bool l2, .int .i64 (lv : Int), .bool fl, .int .i64 (ac : Int)] 58)) wk.heap.size #[.int .i64 x0, .int .i64 x1, .string X, .slice xa xn xc, .slice va' vn' vc', .int .i64 D1, .string D2, .string D3, .bool hh, .int .i64 (l1 : Int), .bool l2, .int .i64 (lv : Int), .bool fl, .int .i64 (ac : Int)] := BK.new 58 wk.drew #[.int .i64 x0, .int .i64 x1, .string X, .slice xa xn xc, .slice va' vn' vc', .int .i64 D1, .string D2, .string D3, .bool hh, .int .i64 (l1 : Int), .bool l2, .int .i64 (lv : Int), .bool fl, .int .i64 (ac : Int)]
        have z3 : (wk.drew.alloc (.cells #[.int .i64 x0, .int .i64 x1, .string X, .slice xa xn xc, .slice va' vn' vc', .int .i64 D1, .string D2, .string D3, .bool hh, .int .i64 (l1 : Int), .bool l2, .int .i64 (lv : Int), .bool fl, .int .i64 (ac : Int)] 58)).heap.size = wk.heap.size + 1 := by rw [World.size_alloc]; rfl
        have L3 := Lib.hid (L2.out.keep bE)
        have K3 := Lib.hid (HK2.out.keep bE)
        have E3 := Lib.hid (E2.out.keep bE)
        refine hK.out _ (wk.drew.alloc (.cells #[.int .i64 x0, .int .i64 x1, .string X, .slice xa xn xc, .slice va' vn' vc', .int .i64 D1, .string D2, .string D3, .bool hh, .int .i64 (l1 : Int), .bool l2, .int .i64 (lv : Int), .bool fl, .int .i64 (ac : Int)] 58)) (SV _ L3.out K3.out E3.out) (fun hS => ?_)
        clear hK K
        obtain ⟨w3, hw3⟩ : ∃ x, wk.drew.alloc (.cells #[.int .i64 x0, .int .i64 x1, .string X, .slice xa xn xc, .slice va' vn' vc', .int .i64 D1, .string D2, .string D3, .bool hh, .int .i64 (l1 : Int), .bool l2, .int .i64 (lv : Int), .bool fl, .int .i64 (ac : Int)] 58) = x := ⟨_, rfl⟩
        rw [hw3] at hz1 z3 L3 K3 E3 hS ⊢
        clear hw3 L2 HK2 E2 bE
        have zc : w3.rangeAt wk.heap.size 0 [.int .i64 x0, .int .i64 x1, .string X, .slice xa xn xc, .slice va' vn' vc', .int .i64 D1, .string D2, .string D3, .bool hh, .int .i64 (l1 : Int), .bool l2, .int .i64 (lv : Int), .bool fl, .int .i64 (ac : Int)] := hz1.range 0 _ (by intro j u h; simpa using h)
        have hone4 : ∀ c ∈ ([.int .i64 x0, .int .i64 x1, .string X, .slice xa xn xc, .slice va' vn' vc', .int .i64 D1, .string D2, .string D3, .bool hh, .int .i64 (l1 : Int), .bool l2, .int .i64 (lv : Int), .bool fl, .int .i64 (ac : Int)] : List Value), c.oneCell' = true := by
          intro c hc
          simp only [List.mem_cons, List.mem_nil_iff, or_false] at hc
          rcases hc with rfl | rfl | rfl | rfl | rfl | rfl | rfl | rfl | rfl | rfl | rfl | rfl | rfl | rfl
          all_goals first | rfl | assumption
        refine AnyTo.ready (rs := [13]) (by kernel_rfl) (by simp) ?_
        refine ReadyTo.cons rfl (fun K hK => ?_) ReadyTo.nil
        rw [if_pos (by rfl)]
        refine wp_appV _ _ rfl Try.underlying48 infoEn rfl (by decide) N (.slice ta m tc) te2 (te2 ++ [[.int .i64 x0, .int .i64 x1, .string X, .slice xa xn xc, .slice va' vn' vc', .int .i64 D1, .string D2, .string D3, .bool hh, .int .i64 (l1 : Int), .bool l2, .int .i64 (lv : Int), .bool fl, .int .i64 (ac : Int)]]) [.int .i64 x0, .int .i64 x1, .string X, .slice xa xn xc, .slice va' vn' vc', .int .i64 D1, .string D2, .string D3, .bool hh, .int .i64 (l1 : Int), .bool l2, .int .i64 (lv : Int), .bool fl, .int .i64 (ac : Int)] wk.heap.size 1 m HM.out rfl L3.out.ht rfl zc rfl hone4 (by omega) (by decide) (by have := L3.out.sz; omega) rfl ?_
        intro g cap w4 ho4 hb4 hfr4 hgo hgl
        have hb5 := L3.out.hb.frame (hfr4 lb L3.out.hb.lt fun e => L3.out.tlb e.symm)
        have K4 := K3.out.frame (hfr4 _ K3.out.lt fun e => by have := (own_in OW.out _ e.symm).2; omega)
        have E4 := E3.out.frame (hfr4 _ E3.out.lt fun e => NE.out e.symm)
        have L4 := Lib.hid (L3.out.todo ho4 hb4 hfr4)
        have ek : w.heap.size < wk.heap.size := by have := KW.out; have := ZW.out; omega
        have GE : Hid (Value.ownBlock (.slice (some ⟨g, 0, none⟩) (m + 1) cap) ≠ some w.heap.size) := Lib.hid (by
          intro e
          simp only [Value.ownBlock, Option.some.injEq] at e
          rcases hgo with h | h
          · exact NE.out (by rw [h, e])
          · omega)
        have hs4 : w4.cell? ⟨lb, 0, none⟩ = some (.slice ta m tc) ∧ w4.rangeAt wr.heap.size 0 [.int .i64 x0, .int .i64 x1, .string X, .slice xa xn xc, .slice va' vn' vc', .int .i64 D1, .string D2, .string D3, .bool hh, .int .i64 (l1 : Int), .bool l2] ∧ w4.cell? ⟨w.heap.size, 11, none⟩ = some (.int .i64 (lv : Int)) ∧ w4.cell? ⟨w.heap.size, 12, none⟩ = some (.bool fl) :=
          ⟨hb5.cell 0, K4.range 0 _ (by intro j u h; simpa using h), by rw [E4.cell, ← HEN.out]; rfl, by rw [E4.cell, ← HEN.out]; rfl⟩
        clear ho4 hb4 hfr4 hgo hgl zc hz1 L3 K3 E3 z3 hone4 SV
        refine hK.out _ _ (hs4) (fun hS => ?_)
        clear hK K
        refine dtp 14 ?_
        refine dtp 15 ?_
        have c0 : w4.cell? ⟨lb, 0, none⟩ = some (.slice ta m tc) := hb5.cell 0
        have f0 := frozen_of_row w4 lb 0 _ _ hb5
        refine AnyTo.ready (rs := [16]) (by kernel_rfl) (by simp) ?_
        refine ReadyTo.last rfl (by kernel_rfl) (fun K hK => ?_) ReadyTo.nil
        go_simp
        refine hK.out _ (w4.setCell ⟨lb, 0, none⟩ (.slice (some ⟨g, 0, none⟩) (m + 1) cap)) ?_
        clear hK K
        refine AnyTo.done (by kernel_rfl) ?_ _
        refine NoPanic.normal ?_
        have K5 := K4.other (c := lb) (by have := NLB.out; omega) 0 (.slice (some ⟨g, 0, none⟩) (m + 1) cap)
        have E5 := E4.other (c := lb) (by have := NWW.out; have := HLBN.out; omega) 0 (.slice (some ⟨g, 0, none⟩) (m + 1) cap)
        obtain ⟨w5, hw5⟩ : ∃ x, w4.setCell ⟨lb, 0, none⟩ (.slice (some ⟨g, 0, none⟩) (m + 1) cap) = x := ⟨_, rfl⟩
        rw [hw5] at L4 K5 E5 ⊢
        have PN : Hid (PuS C N lb K0 w0 WN wd ind col ov o kids lv fl af R w.heap.size EN w5 i (.slice (some ⟨g, 0, none⟩) (m + 1) cap) (te2 ++ [[.int .i64 x0, .int .i64 x1, .string X, .slice xa xn xc, .slice va' vn' vc', .int .i64 D1, .string D2, .string D3, .bool hh, .int .i64 (l1 : Int), .bool l2, .int .i64 (lv : Int), .bool fl, .int .i64 (ac : Int)]]) (if l2 = true then l1 else ac + l1)) := Lib.hid (by
          refine ⟨L4.out, ?_, E5, GE.out, fun h => hafN.out () h, hafM.out⟩
          rw [HDR.out, items_append]
          exact .snoc TD.out hEN2.out)
        have kc10 : w5.cell? ⟨wr.heap.size, 10, none⟩ = some (.bool l2) := K5.cell 10
        have kc9 : w5.cell? ⟨wr.heap.size, 9, none⟩ = some (.int .i64 (l1 : Int)) := K5.cell 9
        clear hw5 K4 E4 K5 E5 L4 GE hs4 hS c0 f0 hb5
        cases l2 with
        | true =>
          rw [if_pos rfl] at PN
          go_wp2
          go_roundw
          case rel => exact ⟨i, (i : Int) - 1, _, _, l1, rfl, rfl, by omega, by omega, PN.out⟩
          case measure => simp [intOf]
        | false =>
          rw [if_neg (by simp)] at PN
          have hac : (ac : Int) + l1 ≤ 100000000 := by omega
          go_wp2
          go_roundw
          case rel => exact ⟨i, (i : Int) - 1, _, _, ac + l1, by go_num, rfl, by omega, by omega, PN.out⟩
          case measure => simp [intOf]
end Go.Proofs.Ytehofomfblfhaaa
