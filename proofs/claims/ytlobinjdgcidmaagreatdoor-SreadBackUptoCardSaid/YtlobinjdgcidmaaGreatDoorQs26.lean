/- Texts of ours in one: ZParse BSam0 ZAl7 APie APie2 ZUnW. -/
import Derived.Test.YtlobinjdgcidmaaGreatDoorQs25
import Derived.Test.YtlobinjdgcidmaaGreatDoorQs20
import Derived.Test.YtlobinjdgcidmaaGreatDoorQs14
import Derived.Test.YtlobinjdgcidmaaGreatDoorQs02
import Derived.Laws.StructEq
import Derived.ChangeKeysEq
import Derived.Test.YtlobinjdgcidmaaGreatDoorQs22
import Derived.Deep.QuietTactic
import Derived.BigQuiet
import Derived.Outline
import Derived.StillTail
import Derived.StillTailTactics
import Derived.Test.YtlobinjdgcidmaaGreatDoorQs18
import Derived.Test.YtlobinjdgcidmaaGreatDoorQs15
import Derived.Deep.AppendLies
import Derived.Deep.RegionHeld3
import Derived.Test.YtlobinjdgcidmaaGreatDoorQs10
import Derived.Test.YtlobinjdgcidmaaGreatDoorQs13
import Derived.Test.YtlobinjdgcidmaaGreatDoorQs12
/- jparse.Parse. -/
namespace Go.Proofs.YtlobinjdgcidmaaGreatDoor
open Go.RowKit
set_option linter.unusedVariables false
set_option linter.unusedSimpArgs false

def dpN (depth : Int) : Nat := (max 0 (min depth 60)).toNat
def parseV (l : List UInt8) (depth : Int) : Except (Int × Int) (Vh × Vo) := if (M.splitV l).2.1 = 0 then parP l (dpN depth) (M.splitV l).1 else .error ((M.splitV l).2.1, (M.splitV l).2.2)
def ParQ (R : Except (Int × Int) (Vh × Vo)) (w : World) (e : Ending) (w' : World) : Prop := match R with
  | .ok (h, kids) => ∃ tv v mv, e = .returned (.tuple #[.agg (vv h tv v mv), .agg #[.int .i64 0, .int .i64 0]]) ∧ HdP (Nw w.heap.size w') w' h tv mv ∧ VoP (Nw w.heap.size w') w' v kids ∧ Below w.heap.size w w'
  | .error x => e = .returned (.tuple #[.agg zvl.toArray, .agg #[.int .i64 x.1, .int .i64 x.2]]) ∧ Below w.heap.size w w'
theorem res_vf {fn : Func} {p q : Tmp} (h : fn.results = #[.cell p 48, .cell q 51]) (tmps : Array Value) (w : World) (g g2 : Nat) (cs ds : List Value)
    (hp : tmps.getD p undef = .pointer (some ⟨g, 0, none⟩)) (hq : tmps.getD q undef = .pointer (some ⟨g2, 0, none⟩)) (hg : BK 48 w g cs.toArray) (hs : cs.length = 9) (hg2 : BK 51 w g2 ds.toArray) (hs2 : ds.length = 2) :
    (results fn tmps).run Tryz.prog w = .ok (.tuple #[.agg cs.toArray, .agg ds.toArray]) w := by
  have e : (results fn tmps).run Tryz.prog w = ((asAddr (tmps.getD p undef)).run Tryz.prog w).andThen fun a w₁ => ((loadVar 48 a).run Tryz.prog w₁).andThen fun x w₂ => ((asAddr (tmps.getD q undef)).run Tryz.prog w₂).andThen fun b w₃ => ((loadVar 51 b).run Tryz.prog w₃).andThen fun y w₄ => .ok (.tuple #[x, y]) w₄ := by
    simp only [results, h]
    simp [Sem.run_bind, Result.andThen]
  rw [e, hp, hq]
  have a1 : (asAddr (.pointer (some ⟨g, 0, none⟩))).run Tryz.prog w = .ok ⟨g, 0, none⟩ w := rfl
  have a2 : (asAddr (.pointer (some ⟨g2, 0, none⟩))).run Tryz.prog w = .ok ⟨g2, 0, none⟩ w := rfl
  rw [a1]
  simp only [Result.andThen]
  rw [run_loadVar_mid w g 0 48 cs _ (hg.range 0 cs (by intro j u h; simpa using h)) Tryz.underlying48 rfl (by rw [hs]; exact infoV1)]
  simp only [Result.andThen]
  rw [a2]
  simp only [Result.andThen]
  rw [run_loadVar_mid w g2 0 51 ds _ (hg2.range 0 ds (by intro j u h; simpa using h)) Tryz.underlying51 rfl (by rw [hs2]; exact infoF1)]
theorem split_zero (l : List UInt8) (ts : M.Toks) (a : Int) (h : M.splitV l = (ts, 0, a)) : l.length ≤ 20000 ∧ a = 0 ∧ M.lexS l 0 = .ok ts ∧ (M.validAll l).2 = true := by
  unfold M.splitV at h
  split at h
  · simp at h
  · split at h
    · simp at h
    · cases hx : M.lexS l 0 with
      | error e => rw [hx] at h; simp at h
      | ok r =>
        rw [hx] at h
        simp only [Prod.mk.injEq] at h
        rename_i h1 h2
        exact ⟨by omega, by omega, by rw [h.1], by simpa using h2⟩
theorem cov_in (l : List UInt8) (r : M.Toks) : ∀ p, M.Cov l p r → TkIn l r := by
  induction r with
  | nil => intro p _ x hx; simp at hx
  | cons t r ih =>
    rintro p ⟨h1, h2, h3, h4, h5⟩ x hx
    rcases List.mem_cons.1 hx with rfl | hx
    · exact ⟨h2, h3⟩
    · exact ih _ h5 x hx
theorem lex_in (l : List UInt8) (r : M.Toks) (h : M.lexS l 0 = .ok r) : TkIn l r ∧ r.length ≤ l.length :=
  ⟨cov_in l r 0 (M.lex_cov l.length l 0 r (by omega) (by omega) (by simpa using h)), M.lex_len l r h⟩
theorem below_of {B : Nat} {a b : World} (h : Below 0 a b) (k : ∀ j, j < B → b.heap[j]? = a.heap[j]?) : Below B a b := ⟨h.os, h.tape, h.output, h.size, k⟩
theorem dpN_int (depth : Int) : ((dpN depth : Nat) : Int) = max 0 (min depth 60) ∧ dpN depth ≤ 60 := by unfold dpN; omega
theorem tok_ne {w : World} {g b off : Nat} {x y z : Int} (K : BK 48 w g zv) (h0 : w.cell? ⟨b, off, none⟩ = some (.int .i64 x)) (h1 : w.cell? ⟨b, off + 1, none⟩ = some (.int .i64 y)) (h2 : w.cell? ⟨b, off + 2, none⟩ = some (.int .i64 z)) : b ≠ g := by
  intro e
  subst e
  rw [K.cell] at h0 h1 h2
  have hlt : off + 2 < 9 := by
    have := (Array.getElem?_eq_some_iff.1 h2).1
    exact this
  have : off = 0 ∨ off = 1 ∨ off = 2 ∨ off = 3 ∨ off = 4 ∨ off = 5 ∨ off = 6 := by omega
  rcases this with rfl | rfl | rfl | rfl | rfl | rfl | rfl
  · simp [zv] at h1
  · simp [zv] at h0
  · simp [zv] at h0
  · simp [zv] at h0
  · simp [zv] at h0
  · simp [zv] at h0
  · simp [zv] at h2
theorem PsW.lay {w0 w6 : World} {bv tw : Value} {D : Int} {l : List UInt8} {t : Nat × Nat × Nat} {r : M.Toks} (x : PsW w0 bv D l w6 tw (t :: r)) {g : Nat} (K0 : BK 48 w0 g zv) (K6 : BK 48 w6 g zv) (cs : Array Value) (hbs : Bs (w0.setRow g cs) bv l) (htb : Tabs (w0.setRow g cs)) :
    (w0.setRow g cs).heap.size = w0.heap.size ∧ PsW (w0.setRow g cs) bv D l (w6.setRow g cs) tw (t :: r) := by
  have hs : (w0.setRow g cs).heap.size = w0.heap.size := by unfold World.setRow; simp
  refine ⟨hs, ⟨by rw [hs]; exact x.blk.frame (setRow_other _ _ _ _ (by have := K0.lt; omega)), ?_, hbs, ?_, htb, x.ll⟩⟩
  · rw [hs]
    have b1 := below_setRowK (below_setRowK (Below.refl 0 w0) (Nat.zero_le g) cs) (Nat.zero_le g) cs
    have lo := x.lo
    have h1 := below_setRowK (Below.refl 0 w0) (Nat.zero_le g) cs
    have h2 := below_setRowK (Below.refl 0 w6) (Nat.zero_le g) cs
    refine ⟨by rw [h2.os, h1.os]; exact lo.os, by rw [h2.tape, h1.tape]; exact lo.tape, by rw [h2.output, h1.output]; exact lo.output, ?_, fun k hk => ?_⟩
    · rw [hs]; exact Nat.le_trans lo.size h2.size
    · by_cases e : k = g
      · subst e
        rw [K6.set cs, K0.set cs]
      · rw [setRow_other _ _ _ _ e, setRow_other _ _ _ _ e]; exact lo.block k hk
  · obtain ⟨a, cap, e, h1, h2, h3⟩ := x.tk
    refine ⟨a, cap, e, h1, h2, fun h0 => ?_⟩
    obtain ⟨b, off, ea, hb, hc⟩ := h3 h0
    have c := hc 0 (by rw [tvs_len]; simp)
    have hne : b ≠ g := tok_ne K0 (x := t.1) (y := t.2.1) (z := t.2.2) (by have := c 0 (.int .i64 t.1) rfl; simpa using this) (by have := c 1 (.int .i64 t.2.1) rfl; simpa using this) (by have := c 2 (.int .i64 t.2.2) rfl; simpa using this)
    exact ⟨b, off, ea, by rw [hs]; exact hb, fun j hj i u hu => by rw [cell_same (setRow_other _ _ _ _ hne)]; exact hc j hj i u hu⟩
set_option maxRecDepth 100000 in
set_option maxHeartbeats 8000000 in
theorem parse_any (v : Value) (l : List UInt8) (depth : Int) (w : World) (hX : TabX w) (hb : Bs w v l) (hl : l.length ≤ 1048000) :
    Calls Tryz.prog 15 #[v, .int .i64 depth] w (ParQ (parseV l depth) w) := by
  have hb' := hb
  obtain ⟨va, vc, rfl, g1, g2, g3⟩ := hb'
  clear g1 g2 g3
  have hmf : ∀ (fn : Fn) (first cap : Array Value) (w : World), (Instr.makeFunc fn first cap).run Tryz.prog w = .ok (.func fn first cap) w := fun _ _ _ _ => rfl
  obtain ⟨R, hR⟩ : ∃ R, parseV l depth = R := ⟨_, rfl⟩
  rw [hR]
  unfold parseV at hR
  obtain ⟨⟨ts, er, at'⟩, hSP⟩ : ∃ x, M.splitV l = x := ⟨_, rfl⟩
  rw [hSP] at hR
  simp only at hR
  have b4 := (Below.refl w.heap.size w).alloc (Nat.le_refl _) (.cells zv 48)
  have K4 := BK.new 48 w zv
  obtain ⟨W1, hW1⟩ : ∃ x, w.alloc (.cells zv 48) = x := ⟨_, rfl⟩
  rw [hW1] at b4 K4
  have b5 := (Below.refl W1.heap.size W1).alloc (Nat.le_refl _) (.cells #[.int .i64 0, .int .i64 0] 51)
  have K5 := BK.new 51 W1 #[.int .i64 0, .int .i64 0]
  obtain ⟨W2, hW2⟩ : ∃ x, W1.alloc (.cells #[.int .i64 0, .int .i64 0] 51) = x := ⟨_, rfl⟩
  rw [hW2] at b5 K5
  have HW1 := Lib.hid (show w.alloc (.cells #[.int .i64 0, .slice none 0 0, .bool false, .string ⟨#[]⟩, .string ⟨#[]⟩, .slice none 0 0, .int .i64 0, .int .i64 0, .slice none 0 0] 48) = W1 from hW1)
  have HW2 := Lib.hid hW2
  obtain ⟨p5, hp5⟩ : ∃ x, w.heap.size + 1 = x := ⟨_, rfl⟩
  have hs1 : W1.heap.size = p5 := by rw [← hW1, ← hp5]; simp
  rw [hs1] at K5 b5
  have l4 := K4.lt
  have l5 := K5.lt
  have B2 := Lib.hid (b4.trans (b5.mono (by omega)))
  have K42 := Lib.hid (K4.keep (by rw [hs1]; exact b5))
  have K52 := Lib.hid K5
  have SP := Lib.hid (split_any _ l (ts, er, at') W2 (hX.keep B2.out).tab (hb.keep B2.out) (by omega) hSP)
  unfold SpP fv at SP
  simp only at SP
  have X2 := Lib.hid (hX.keep B2.out)
  have HBs := Lib.hid (hb.keep B2.out)
  have HB0 := Lib.hid hb
  have HX0 := Lib.hid hX
  clear hs1 hW1 hW2 b4 b5 K4 K5 hX hb
  go_enter_defers Tryz.func15, Tryz.ntmps15
  go_upto_region 1 with fail
  rw [HW1.out, HW2.out]
  go_wp2_with fail
  refine SP.out.mono ?_
  rintro e w3 ⟨tv, rfl, ot, hb3⟩
  have K43 := Lib.hid (K42.out.keep hb3)
  have K53 := Lib.hid (K52.out.keep hb3)
  have c50 : w3.cell? ⟨p5, 0, none⟩ = some (.int .i64 0) := K53.out.cell 0
  have c51 : w3.cell? ⟨p5, 1, none⟩ = some (.int .i64 0) := K53.out.cell 1
  have z50 : w3.frozen? ⟨p5, 0, none⟩ = false := frozen_of_row _ _ _ _ _ K53.out
  have z51 : w3.frozen? ⟨p5, 1, none⟩ = false := frozen_of_row _ _ _ _ _ K53.out
  have HB3 := Lib.hid hb3
  have OT := Lib.hid ot
  clear hb3 ot
  by_cases h0 : er = 0
  · subst h0
    rw [if_pos rfl] at hR
    obtain ⟨hl2, ha, hlx, hva⟩ := split_zero l ts at' hSP
    subst ha
    obtain ⟨htk, htl⟩ := lex_in l ts hlx
    obtain ⟨hD1, hD2⟩ := dpN_int depth
    clear hSP hlx hva
    have K54 := Lib.hid ((K53.out.setCell 0 (.int .i64 0)).setCell 1 (.int .i64 0))
    have K44 := Lib.hid ((K43.out.other (c := p5) (by omega) 0 (.int .i64 0)).other (c := p5) (by omega) 1 (.int .i64 0))
    have B4 := Lib.hid (((B2.out.trans (HB3.out.mono (by omega))).setCell (p := ⟨p5, 0, none⟩) (by show w.heap.size ≤ p5; omega) (.int .i64 0)).setCell (p := ⟨p5, 1, none⟩) (by show w.heap.size ≤ p5; omega) (.int .i64 0))
    have hs3 := HB3.out.size
    have ot4 := (OT.out.setOther ⟨p5, 0, none⟩ (.int .i64 0) (fun e => by have := (own_in OT.out p5 e).1; omega)).setOther ⟨p5, 1, none⟩ (.int .i64 0) (fun e => by
      have h := OT.out.setOther ⟨p5, 0, none⟩ (.int .i64 0) (fun e => by have := (own_in OT.out p5 e).1; omega)
      have := (own_in h p5 e).1; omega)
    obtain ⟨W4, hW4⟩ : ∃ x, (w3.setCell ⟨p5, 0, none⟩ (.int .i64 0)).setCell ⟨p5, 1, none⟩ (.int .i64 0) = x := ⟨_, rfl⟩
    rw [hW4] at K54 K44 B4 ot4
    have HW4 := Lib.hid hW4
    have e0 : W4.cell? ⟨p5, 0, none⟩ = some (.int .i64 0) := K54.out.cell 0
    clear hW4
    go_upto_region 3 with fail
    rw [HW4.out]
    have tk4 : Ts W4 tv ts := OwnV.vs ot4
    obtain ⟨ta, tc, rfl, -⟩ := OwnV.vs ot4
    have bs4 : Bs W4 (.slice va l.length vc) l := HB0.out.keep B4.out
    have X4 : TabX W4 := HX0.out.keep B4.out
    obtain ⟨DV, hDV⟩ : ∃ q : Int, max 0 (min depth 60) = q := ⟨_, rfl⟩
    have x5 : PsW W4 (.slice va l.length vc) DV l (W4.alloc (.cells #[.slice va l.length vc, .slice ta (tvs ts).length tc, .int .i64 DV] 75)) (.slice ta (tvs ts).length tc) ts :=
      ⟨BK.new 75 W4 _, (Below.refl _ _).alloc (Nat.le_refl _) _, bs4, tk4, X4.tab, by omega⟩
    have b5 := (Below.refl W4.heap.size W4).alloc (Nat.le_refl _) (.cells #[.slice va l.length vc, .slice ta (tvs ts).length tc, .int .i64 DV] 75)
    obtain ⟨W5, hW5⟩ : ∃ x, W4.alloc (.cells #[.slice va l.length vc, .slice ta (tvs ts).length tc, .int .i64 DV] 75) = x := ⟨_, rfl⟩
    rw [hW5] at x5 b5
    have HW5 := Lib.hid hW5
    have hdv : DV = ((dpN depth : Nat) : Int) := by rw [hD1, hDV]
    have x5' : PsW W4 (.slice va l.length vc) ((dpN depth : Nat) : Int) l W5 (.slice ta (tvs ts).length tc) ts := by rw [← hdv]; exact x5
    have VA0 := value_all W4 (.slice va l.length vc) (dpN depth) l X4 hl2 hD2 ts.length (g := 2 * ts.length + 2) (deep := dpN depth) (lv := 0) (Nat.le_refl _) x5' htk (by omega) (by omega) (by omega)
    unfold ptrP at VA0
    have l44 := K44.out.lt
    have l54 := K54.out.lt
    have K45 := Lib.hid (K44.out.keep b5)
    have K55 := Lib.hid (K54.out.keep b5)
    have B5 := Lib.hid (B4.out.trans (b5.mono (by omega)))
    have hs5 := b5.size
    unfold parP at hR
    clear hW5 x5 x5' hdv hD1 hD2 bs4 X4 tk4 ot4 c50 c51 z50 z51
    cases hV : valP l (2 * ts.length + 2) (dpN depth) ts with
    | error x =>
      rw [hV] at hR VA0
      simp only at hR
      subst hR
      unfold ValQ at VA0
      dsimp only at VA0
      have VA : Hid (Calls Tryz.prog 30 #[.pointer (some ⟨W4.heap.size, 0, none⟩), .int .i64 0] W5 fun e w' => Pan e x ∧ Below W4.heap.size W5 w') := Lib.hid VA0
      clear VA0 hV
      go_upto_region 6 with fail
      rw [HW5.out]
      go_wp2_with fail
      refine VA.out.mono ?_
      rintro e w6 ⟨rfl, hb6⟩
      go_wp2
      refine leaves_cons (f := 28) (args := #[.pointer (some ⟨w.heap.size, 0, none⟩), .pointer (some ⟨p5, 0, none⟩)]) (by simp) (by simp [go_sem]) ?_
      refine (catch_stop w.heap.size p5 x.1 x.2 _ _ [] _ (K45.out.keepB hb6 l44) (K55.out.keepB hb6 l54) (by omega) rfl rfl).mono ?_
      rintro e u' w7 ⟨rfl, rfl, kv, kf, f2⟩
      refine ⟨_, res_vf rfl _ _ w.heap.size p5 zvl [.int .i64 x.1, .int .i64 x.2] rfl rfl kv rfl kf rfl, ?_⟩
      unfold ParQ
      exact ⟨rfl, (B5.out.trans (hb6.mono (by omega))).trans (below_of f2.lo (fun j hj => f2.oth j (by have := hb6.size; omega) (by omega) (by omega)))⟩
    | ok q =>
      obtain ⟨h, kids, r⟩ := q
      rw [hV] at hR VA0
      unfold ValQ at VA0
      dsimp only at VA0
      have VA : Hid (Calls Tryz.prog 30 #[.pointer (some ⟨W4.heap.size, 0, none⟩), .int .i64 0] W5 fun e w' => ∃ tv v mv tw', e = .returned (.agg (vv h tv v mv)) ∧ HdP (Nw W5.heap.size w') w' h tv mv ∧ VoP (Nw W5.heap.size w') w' v kids ∧ PsW W4 (.slice va l.length vc) ((dpN depth : Nat) : Int) l w' tw' r ∧ Fr W4.heap.size W5 w') := Lib.hid VA0
      clear VA0 hV
      go_upto_region 6 with fail
      rw [HW5.out]
      go_wp2_with fail
      refine VA.out.mono ?_
      rintro e w6 ⟨tv, v, mv, tw6, rfl, hd, hv, x6, f6⟩
      have t1 := hd.t.one
      have t2 := hv.one
      have t3 := hd.m.one
      have l45 := K45.out.lt
      have l55 := K55.out.lt
      have K46 := K45.out.frame (f6.oth _ l45 (by omega))
      have K56 := K55.out.frame (f6.oth _ l55 (by omega))
      have hs6 := f6.lo.size
      have K47 := K46.set (vv h tv v mv)
      have K57 := K56.frame (setRow_other w6 w.heap.size p5 (vv h tv v mv) (by omega))
      have B6 := B5.out.trans (f6.lo.mono (by omega))
      have B7 := below_setRowK B6 (Nat.le_refl _) (vv h tv v mv)
      have blk7 := x6.blk.frame (setRow_other w6 w.heap.size W4.heap.size (vv h tv v mv) (by omega))
      obtain ⟨a6, cap6, rfl, i1, i2, -⟩ := x6.toks
      cases r with
      | nil =>
        simp only at hR
        subst hR
        obtain ⟨W7, hW7⟩ : ∃ x, w6.setRow w.heap.size (vv h tv v mv) = x := ⟨_, rfl⟩
        rw [hW7] at K47 K57 B7 blk7
        have HW7 := Lib.hid hW7
        have c1 : W7.cell? ⟨W4.heap.size, 1, none⟩ = some (.slice a6 0 cap6) := blk7.cell 1
        have vb7 : VB W7 w.heap.size h tv v mv := K47
        have K58 := K57.frame (setRow_other W7 w.heap.size p5 (vv h tv v mv) (by omega))
        have K48 := (K47.set (vv h tv v mv)).frame (setRow_other (W7.setRow w.heap.size (vv h tv v mv)) p5 w.heap.size #[.int .i64 0, .int .i64 0] (by omega))
        have B9 := below_setRowK (below_setRowK B7 (Nat.le_refl _) (vv h tv v mv)) (show w.heap.size ≤ p5 by omega) #[.int .i64 0, .int .i64 0]
        have K59 := K58.set #[.int .i64 0, .int .i64 0]
        have ke : ∀ b, Nw W5.heap.size w6 b → ((W7.setRow w.heap.size (vv h tv v mv)).setRow p5 #[.int .i64 0, .int .i64 0]).heap[b]? = w6.heap[b]? := fun b hb => by
          have := hb.1
          rw [setRow_other _ _ _ _ (by omega), setRow_other _ _ _ _ (by omega), ← hW7, setRow_other _ _ _ _ (by omega)]
        have hs7 : w6.heap.size ≤ ((W7.setRow w.heap.size (vv h tv v mv)).setRow p5 #[.int .i64 0, .int .i64 0]).heap.size := by
          rw [← hW7]
          exact (below_setRowK (below_setRowK (below_setRowK (Below.refl 0 w6) (Nat.zero_le _) (vv h tv v mv)) (Nat.zero_le _) (vv h tv v mv)) (Nat.zero_le _) _).size
        have hd9 := Lib.hid (hd.keep ke)
        have hv9 := Lib.hid (hv.keep ke)
        clear hW7 K57 hd hv x6 f6 B6 ke
        go_upto_region 7 with (refine wpl_stV rfl _ _ rfl w.heap.size zv h tv v mv rfl rfl K46 rfl t1 t2 t3 ?_)
        rw [HW7.out]
        go_upto_region 9 with fail
        go_wp2_with (first | (refine wpl_ldV rfl _ rfl w.heap.size 0 h tv v mv rfl (VB.range vb7) ?_) | (refine wpl_stV rfl _ _ rfl w.heap.size (vv h tv v mv) h tv v mv rfl rfl vb7 rfl t1 t2 t3 ?_) | (refine wpl_stK infoF1 rfl _ _ rfl p5 _ #[.int .i64 0, .int .i64 0] rfl rfl K58 rfl rfl (by simp [Value.oneCell']) ?_))
        obtain ⟨W9, hW9⟩ : ∃ x, (W7.setRow w.heap.size (vv h tv v mv)).setRow p5 #[.int .i64 0, .int .i64 0] = x := ⟨_, rfl⟩
        rw [hW9] at K48 B9 K59 hd9 hv9 hs7
        rw [hW9]
        clear hW9
        (try simp only [Act.put])
        refine leaves_cons (f := 28) (args := #[.pointer (some ⟨w.heap.size, 0, none⟩), .pointer (some ⟨p5, 0, none⟩)]) (by simp) (by simp [go_sem]) ?_
        refine (catch_idle ⟨w.heap.size, 0, none⟩ ⟨p5, 0, none⟩ _).mono ?_
        rintro e u' w10 ⟨rfl, rfl, hb10⟩
        refine ⟨_, res_vf rfl _ _ w.heap.size p5 (vvl h tv v mv) [.int .i64 0, .int .i64 0] rfl rfl (K48.keep hb10) rfl (K59.keep hb10) rfl, ?_⟩
        unfold ParQ
        have kb : ∀ b, Nw W5.heap.size w6 b → w10.heap[b]? = W9.heap[b]? := fun b hb => hb10.block b (by have := hb.2; omega)
        have km : ∀ b, Nw W5.heap.size w6 b → Nw w.heap.size w10 b := fun b hb => ⟨by have := hb.1; omega, by have := hb.2; have := hb10.size; omega⟩
        exact ⟨tv, v, mv, rfl, (hd9.out.keep kb).mono km, (hv9.out.keep kb).mono km, B9.trans (hb10.mono B9.size)⟩
      | cons t r =>
        simp only at hR
        subst hR
        have B4' := below_setRowK B4.out (Nat.le_refl _) (vv h tv v mv)
        obtain ⟨hsz, x7⟩ := x6.lay K44.out K46 (vv h tv v mv) (HB0.out.keep B4') (HX0.out.keep B4').tab
        obtain ⟨W7, hW7⟩ : ∃ x, w6.setRow w.heap.size (vv h tv v mv) = x := ⟨_, rfl⟩
        rw [hW7] at K47 K57 B7 blk7 x7
        have UA0 := unfit_any x7
        unfold ptrP at UA0
        rw [hsz] at UA0
        have UA := Lib.hid UA0
        have HW7 := Lib.hid hW7
        have c1 : W7.cell? ⟨W4.heap.size, 1, none⟩ = some (.slice a6 (r.length + 1) cap6) := blk7.cell 1
        have q2 : (0 : Int) < (r.length : Int) + 1 := by omega
        have B7 := Lib.hid B7
        have K47 := Lib.hid K47
        have K57 := Lib.hid K57
        obtain ⟨aa, haa⟩ : ∃ q : Int, atP l.length (t :: r) = q := ⟨_, rfl⟩
        rw [haa] at UA
        have HAA := Lib.hid haa
        clear hW7 hd hv x6 f6 B6 x7 UA0 blk7 hsz B4' haa
        go_upto_region 7 with (refine wpl_stV rfl _ _ rfl w.heap.size zv h tv v mv rfl rfl K46 rfl t1 t2 t3 ?_)
        rw [HW7.out]
        go_wp2_with fail
        refine UA.out.mono ?_
        rintro e w8 ⟨rfl, hb8⟩
        go_wp2
        refine leaves_cons (f := 28) (args := #[.pointer (some ⟨w.heap.size, 0, none⟩), .pointer (some ⟨p5, 0, none⟩)]) (by simp) (by simp [go_sem]) ?_
        refine (catch_stop w.heap.size p5 3 aa _ _ [] _ (K47.out.keep hb8) (K57.out.keep hb8) (by omega) rfl rfl).mono ?_
        rintro e u' w9 ⟨rfl, rfl, kv, kf, f2⟩
        refine ⟨_, res_vf rfl _ _ w.heap.size p5 zvl [.int .i64 3, .int .i64 aa] rfl rfl kv rfl kf rfl, ?_⟩
        unfold ParQ
        have hs7 := B7.out.size
        exact ⟨by show _ = Ending.returned (.tuple #[.agg zvl.toArray, .agg #[.int .i64 3, .int .i64 (atP l.length (t :: r))]]); rw [HAA.out], (B7.out.trans (hb8.mono B7.out.size)).trans (below_of f2.lo (fun j hj => f2.oth j (by have := hb8.size; omega) (by omega) (by omega)))⟩
  · rw [if_neg h0] at hR
    subst hR
    have h0' : ¬ er = 0 := h0
    clear h0
    go_upto_region 3 with (refine wpl_stK infoF1 rfl _ _ rfl p5 #[.int .i64 0, .int .i64 0] #[.int .i64 er, .int .i64 at'] rfl rfl K53.out rfl (by simp [Value.oneCell']) ?_)
    have K54 := Lib.hid ((K53.out.setCell 0 (.int .i64 er)).setCell 1 (.int .i64 at'))
    have K44 := Lib.hid ((K43.out.other (c := p5) (by omega) 0 (.int .i64 er)).other (c := p5) (by omega) 1 (.int .i64 at'))
    have B4 := Lib.hid (((B2.out.trans (HB3.out.mono (by omega))).setCell (p := ⟨p5, 0, none⟩) (by show w.heap.size ≤ p5; omega) (.int .i64 er)).setCell (p := ⟨p5, 1, none⟩) (by show w.heap.size ≤ p5; omega) (.int .i64 at'))
    obtain ⟨W4, hW4⟩ : ∃ x, (w3.setCell ⟨p5, 0, none⟩ (.int .i64 er)).setCell ⟨p5, 1, none⟩ (.int .i64 at') = x := ⟨_, rfl⟩
    rw [hW4] at K54 K44 B4 ⊢
    have e0 : W4.cell? ⟨p5, 0, none⟩ = some (.int .i64 er) := K54.out.cell 0
    have t1 : (er != 0) = true := by simpa using h0'
    clear hW4 c50 c51 z50 z51
    go_upto_region 4 with fail
    refine wp_region_noPanic ?_
    have D4 := Lib.hid ((Below.refl W4.heap.size W4).drew)
    have K4D := Lib.hid (K44.out.keep D4.out)
    have K5D := Lib.hid (K54.out.keep D4.out)
    have BD := Lib.hid (B4.out.trans (D4.out.mono (by have := K44.out.lt; omega)))
    refine wp_region_to 3 (S := fun V => V.rangeAt p5 0 [.int .i64 er, .int .i64 at']) (by kernel_rfl) (K5D.out.range 0 _ (fun j u h => by rw [Nat.zero_add]; simpa using h)) (fun hS => ?_)
    obtain ⟨WD, hWD⟩ : ∃ x, W4.drew = x := ⟨_, rfl⟩
    rw [hWD] at K4D K5D BD hS ⊢
    clear hWD
    refine dtp (v := .agg zvl.toArray) 0 (hy := Or.inl ⟨by rfl, by intro V hSV; kernel_rfl⟩) ?_
    refine dtk (v := .agg #[.int .i64 er, .int .i64 at']) 1 (hy := yieldsIf_load_mid (by rfl) 51 _ rfl p5 0 rfl [.int .i64 er, .int .i64 at'] _ (fun w hS => hS) Tryz.underlying51 rfl infoF1) ?_
    refine AnyTo.ready (rs := [2]) (by kernel_rfl) (by simp) ?_
    refine ReadyTo.cons rfl (fun K hK => ?_) ReadyTo.nil
    rw [if_pos (by rfl)]
    refine wp_store_row 48 _ _ rfl w.heap.size zvl.toArray rfl rfl 48 zv K4D.out infoV1 rfl (vv_one ⟨0, [], false, [], [], 0, 0, []⟩ rfl rfl rfl) ?_
    have K5E := K5D.out.frame (setRow_other WD w.heap.size p5 zvl.toArray (by omega))
    have K4E := K4D.out.set zvl.toArray
    have BE := below_setRowK BD.out (Nat.le_refl _) zvl.toArray
    refine hK.out _ _ (K5E.range 0 _ (fun j u h => by rw [Nat.zero_add]; simpa using h)) (fun hS => ?_)
    clear hK K
    refine AnyTo.ready (rs := [3]) (by kernel_rfl) (by simp) ?_
    refine ReadyTo.last rfl (by kernel_rfl) (fun K hK => ?_) ReadyTo.nil
    rw [if_pos (by rfl)]
    refine wp_store_row 51 _ _ rfl p5 #[.int .i64 er, .int .i64 at'] rfl rfl 51 _ K5E infoF1 rfl (by simp [Value.oneCell']) ?_
    refine hK.out _ _ ?_
    clear hK K
    refine AnyTo.done (by kernel_rfl) ?_ _
    refine NoPanic.normal ?_
    have K4F := K4E.frame (setRow_other (WD.setRow w.heap.size zvl.toArray) p5 w.heap.size #[.int .i64 er, .int .i64 at'] (by omega))
    have K5F := K5E.set #[.int .i64 er, .int .i64 at']
    have BF := below_setRowK BE (show w.heap.size ≤ p5 by omega) #[.int .i64 er, .int .i64 at']
    obtain ⟨WF, hWF⟩ : ∃ x, (WD.setRow w.heap.size zvl.toArray).setRow p5 #[.int .i64 er, .int .i64 at'] = x := ⟨_, rfl⟩
    rw [hWF] at K4F K5F BF ⊢
    go_wp2
    (try simp only [List.getElem_toArray, List.getElem_cons_succ, List.getElem_cons_zero, Act.put, List.setIfInBounds_toArray, List.set_cons_zero, List.set_cons_succ])
    refine leaves_cons (f := 28) (args := #[.pointer (some ⟨w.heap.size, 0, none⟩), .pointer (some ⟨p5, 0, none⟩)]) (by simp) (by simp [go_sem]) ?_
    refine (catch_idle ⟨w.heap.size, 0, none⟩ ⟨p5, 0, none⟩ _).mono ?_
    rintro e u' w6 ⟨rfl, rfl, hb6⟩
    refine ⟨_, res_vf rfl _ _ w.heap.size p5 zvl [.int .i64 er, .int .i64 at'] rfl rfl (K4F.keep hb6) rfl (K5F.keep hb6) rfl, ?_⟩
    unfold ParQ
    exact ⟨rfl, BF.trans (hb6.mono BF.size)⟩
end Go.Proofs.YtlobinjdgcidmaaGreatDoor
/- Values of any shape: when two are one, plain; == of numbers. -/
namespace Go.Proofs.YtlobinjdgcidmaaGreatDoor
open Go.RowKit
set_option linter.unusedVariables false
set_option linter.unusedSimpArgs false

def sameHd (h h' : Vh) (n n' : Nat) : Bool := decide (h.k = h'.k) && decide (h.tx = h'.tx) && decide (h.ng = h'.ng ∧ h.dg = h'.dg ∧ h.ex = h'.ex) && decide (n = n')
def sameVo : Vo → Vo → Bool
  | .cons h kids rest, .cons h' kids' rest' => sameHd h h' kids.len kids'.len && sameVo kids kids' && sameVo rest rest'
  | .nil, .nil => true
  | .nil, .cons _ _ _ => false
  | .cons _ _ _, .nil => false
def sameH (h : Vh) (kids : Vo) (h' : Vh) (kids' : Vo) : Bool := sameHd h h' kids.len kids'.len && sameVo kids kids'
def Vo.app : Vo → Vo → Vo
  | .nil, K => K
  | .cons h k r, K => .cons h k (r.app K)
theorem app_nil (L : Vo) : L.app .nil = L := by
  induction L with
  | nil => rfl
  | cons h k r _ ih => simp only [Vo.app, ih]
theorem sameVo_len (L : Vo) : ∀ M : Vo, L.len ≠ M.len → sameVo L M = false := by
  induction L with
  | nil =>
    intro M h
    cases M with
    | nil => simp [Vo.len] at h
    | cons _ _ _ => rfl
  | cons h k r _ ih =>
    intro M hl
    cases M with
    | nil => rfl
    | cons h' k' r' => simp only [sameVo]; rw [ih r' (by simpa [Vo.len] using hl)]; simp
end Go.Proofs.YtlobinjdgcidmaaGreatDoor
/- Chapter 7's alive. -/
namespace Go.Proofs.YtlobinjdgcidmaaGreatDoor
open Go.RowKit
set_option linter.unusedVariables false
set_option linter.unusedSimpArgs false

theorem two_laid (w : World) (cs : Array Value) (x y : Value) (p2 : Nat) (hp : w.heap.size + 1 = p2) :
    BK 48 ((w.alloc (.cells zv 48)).alloc (.cells #[.int .i64 0, .int .i64 0] 51)) w.heap.size zv ∧
    BK 51 (((w.alloc (.cells zv 48)).alloc (.cells #[.int .i64 0, .int .i64 0] 51)).setRow w.heap.size cs) p2 #[.int .i64 0, .int .i64 0] ∧
    BK 48 ((((w.alloc (.cells zv 48)).alloc (.cells #[.int .i64 0, .int .i64 0] 51)).setRow w.heap.size cs).setRow p2 #[x, y]) w.heap.size cs ∧
    BK 51 ((((w.alloc (.cells zv 48)).alloc (.cells #[.int .i64 0, .int .i64 0] 51)).setRow w.heap.size cs).setRow p2 #[x, y]) p2 #[x, y] ∧
    Below w.heap.size w ((((w.alloc (.cells zv 48)).alloc (.cells #[.int .i64 0, .int .i64 0] 51)).setRow w.heap.size cs).setRow p2 #[x, y]) := by
  subst hp
  have k1 := BK.new 48 w zv
  have b1 := (Below.refl w.heap.size w).alloc (Nat.le_refl _) (.cells zv 48)
  have hs : (w.alloc (.cells zv 48)).heap.size = w.heap.size + 1 := by simp
  obtain ⟨W1, hW1⟩ : ∃ x, w.alloc (.cells zv 48) = x := ⟨_, rfl⟩
  rw [hW1] at k1 b1 hs ⊢
  have k2 := BK.new 51 W1 #[.int .i64 0, .int .i64 0]
  have b2 := (Below.refl W1.heap.size W1).alloc (Nat.le_refl _) (.cells #[.int .i64 0, .int .i64 0] 51)
  rw [hs] at k2
  have k3 := k1.keep b2
  have B := b1.trans (b2.mono (by omega))
  have k4 := k2.frame (setRow_other _ w.heap.size (w.heap.size + 1) cs (by omega))
  have k5 := k3.set cs
  have k6 := k5.frame (setRow_other _ (w.heap.size + 1) w.heap.size #[x, y] (by omega))
  exact ⟨k3, k4, k6, k4.set _, below_setRowK (below_setRowK B (Nat.le_refl _) cs) (by omega) _⟩
end Go.Proofs.YtlobinjdgcidmaaGreatDoor
/- Values of any shape: jmin.Pieces, what it gives, plain; jmin.single, mark. -/
namespace Go.Proofs.YtlobinjdgcidmaaGreatDoor
open Go.RowKit
set_option linter.unusedVariables false
set_option linter.unusedSimpArgs false

abbrev Jp := List UInt8 × Int
def sglB (h : Vh) : List UInt8 := if h.k = 3 then M.spell (h.tx.map Int.toNat) else if h.k = 4 then M.shortN (M.plainN h.ng h.dg h.ex) else if h.k = 5 then [116, 114, 117, 101] else if h.k = 6 then [102, 97, 108, 115, 101] else [110, 117, 108, 108]
def mkB (k : Int) (i : Nat) : List UInt8 := if k = 1 ∧ i % 2 = 1 then [58] else [44]
def opB (k : Int) : List UInt8 := if k = 1 then [123] else [91]
def clB (k : Int) : List UInt8 := if k = 1 then [125] else [93]
def pcsL (k : Int) (ms : List Int) : Vo → Nat → List Jp
  | .nil, _ => []
  | .cons h kids rest, i => (if 0 < i then [(mkB k i, ms.getD (i - 1) 0)] else []) ++ ((if h.k = 1 ∨ h.k = 2 then (opB h.k, h.fr) :: (pcsL h.k h.ms kids 0 ++ [(clB h.k, h.tt)]) else [(sglB h, h.fr)]) ++ pcsL k ms rest (i + 1))
def pcsV (h : Vh) (kids : Vo) : List Jp := if h.k = 1 ∨ h.k = 2 then (opB h.k, h.fr) :: (pcsL h.k h.ms kids 0 ++ [(clB h.k, h.tt)]) else [(sglB h, h.fr)]
theorem pcsL_cons (k : Int) (ms : List Int) (h : Vh) (kids rest : Vo) (i : Nat) : pcsL k ms (.cons h kids rest) i = (if 0 < i then [(mkB k i, ms.getD (i - 1) 0)] else []) ++ (pcsV h kids ++ pcsL k ms rest (i + 1)) := rfl
end Go.Proofs.YtlobinjdgcidmaaGreatDoor
/- Values of any shape: jmin.appendList, appendValue, Pieces. -/
namespace Go.Proofs.YtlobinjdgcidmaaGreatDoor
open Go.RowKit
set_option linter.unusedVariables false
set_option linter.unusedSimpArgs false

theorem right_parts {h : Vh} {kids : Vo} {d : Nat} (hr : rightH h kids d = true) (hk : h.k = 1 ∨ h.k = 2) : h.ms.length = kids.len - 1 ∧ rightVo kids (d - 1) = true := by
  unfold rightH headB at hr
  rw [if_pos hk] at hr
  simp only [Bool.and_eq_true, decide_eq_true_eq] at hr
  obtain ⟨-, -, ⟨⟨hm, -⟩, hv⟩⟩ := hr
  unfold marksB at hm
  simp only [Bool.and_eq_true, decide_eq_true_eq] at hm
  exact ⟨hm.1.2, hv⟩
end Go.Proofs.YtlobinjdgcidmaaGreatDoor
/- JparseUnits: the program's Units and the page's JUnits. -/
namespace Go.Proofs.YtlobinjdgcidmaaGreatDoor
open Go.RowKit
set_option linter.unusedVariables false
set_option linter.unusedSimpArgs false

theorem units_page (s : List UInt8) : unitsV s = junits s := by
  unfold unitsV junits
  by_cases h2 : 2 ≤ s.length
  · by_cases h0 : s.getD 0 0 = 34
    · match s, h2 with
      | c :: t, h2 =>
        simp only [List.getD_cons_zero] at h0
        subst h0
        have hv : (M.validAll (34 :: t)).2 = (M.validAll t).2 := by rw [M.valid_ascii (34 :: t) (by simp) (show (34 : UInt8).toNat < 128 by decide)]; rfl
        have hj : (jtI (34 :: t) 1 = ((34 :: t).length : Nat)) ↔ M.jtS t = some t.length := by
          unfold jtI
          simp only [List.drop_succ_cons, List.drop_zero, List.length_cons]
          cases M.jtS t with
          | none => simp; omega
          | some m => simp; omega
        by_cases hq : (34 :: t).getD ((34 :: t).length - 1) 0 = 34
        · rw [if_pos ⟨h2, rfl, hq⟩]
          have ht : t = (((34 :: t).drop 1).take ((34 :: t).length - 2)) ++ [34] := by
            simp only [List.length_cons] at h2
            obtain ⟨n, hn⟩ : ∃ n, t.length = n + 1 := ⟨t.length - 1, by omega⟩
            simp only [List.drop_succ_cons, List.drop_zero, List.length_cons, hn]
            rw [show n + 1 + 1 - 2 = n by omega]
            have hq' : t.getD n 0 = 34 := by simpa [hn, List.getD] using hq
            conv => lhs; rw [← List.take_append_drop n t]
            congr 1
            rw [List.drop_eq_getElem_cons (by omega), List.drop_eq_nil_of_le (by omega)]
            simp only [List.getD, List.getElem?_eq_getElem (show n < t.length by omega), Option.getD_some] at hq'
            rw [hq']
          obtain ⟨u, hu⟩ : ∃ u, (((34 :: t).drop 1).take ((34 :: t).length - 2)) = u := ⟨_, rfl⟩
          rw [hu] at ht ⊢
          rw [M.uF_iff _ u (by rw [← hu]; simp; omega), ← ht]
          have hg : (34 :: t).getD 0 0 = 34 := rfl
          by_cases hg1 : M.jtS t = some t.length ∧ (M.validAll t).2 = true
          · rw [if_pos hg1, if_pos ⟨h2, rfl, hj.2 hg1.1, by rw [hv]; exact hg1.2⟩]; rfl
          · rw [if_neg hg1, if_neg (fun h => hg1 ⟨hj.1 h.2.2.1, by rw [← hv]; exact h.2.2.2⟩)]
        · rw [if_neg (fun h => hq h.2.2), if_neg]
          intro h
          apply hq
          have := M.jtS_last t _ (hj.1 h.2.2.1)
          simp only [List.length_cons] at h2
          obtain ⟨n, hn⟩ : ∃ n, t.length = n + 1 := ⟨t.length - 1, by omega⟩
          simp only [List.length_cons, hn, Nat.add_sub_cancel] at this ⊢
          exact this
    · rw [if_neg (fun h => h0 h.2.1), if_neg (fun h => h0 h.2.1)]
  · rw [if_neg (fun h => h2 h.1), if_neg (fun h => h2 h.1)]
end Go.Proofs.YtlobinjdgcidmaaGreatDoor
