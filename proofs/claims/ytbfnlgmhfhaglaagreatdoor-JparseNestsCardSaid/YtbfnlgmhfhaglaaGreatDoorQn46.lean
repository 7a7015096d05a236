import Derived.Test.YtbfnlgmhfhaglaaGreatDoorQn26
import Derived.Test.YtbfnlgmhfhaglaaGreatDoorQn43
import Derived.Test.YtbfnlgmhfhaglaaGreatDoorQn44
import Derived.Test.YtbfnlgmhfhaglaaGreatDoorQn29
import Derived.Test.YtbfnlgmhfhaglaaGreatDoorQn45
import Derived.ArgAppend
import Derived.Lib.SlFresh
set_option maxHeartbeats 16000000
set_option maxRecDepth 100000
namespace Go.Proofs.YtbfnlgmhfhaglaaGreatDoor
open Go.RowKit
set_option linter.unusedVariables false
set_option linter.unusedSimpArgs false
theorem par_uni {R : Except (Int × Int) (Vh × Vo)} {w w' : World} {e : Ending} (h : ParQ R w e w') :
  ∃ hd kids tv v mv fe fa, e = .returned (.tuple #[.agg (vv hd tv v mv), .agg #[.int .i64 fe, .int .i64 fa]]) /\ HdS w' hd tv mv /\ VoS w' v kids /\ Below w.heap.size w w' /\ (R = .ok (hd, kids) /\ fe = 0 \/ ∃ x, R = .error x /\ fe = x.1) := by
 cases R with
 | error x =>
  obtain ⟨rfl, hb⟩ := h
  exact ⟨noV, .nil, nilV, nilV, nilV, x.1, x.2, rfl, ⟨by simp [noV], by simp [noV], isP_nil _ _, isP_nil _ _⟩, voP_nil _ _, hb, .inr ⟨x, rfl, rfl⟩⟩
 | ok q =>
  obtain ⟨hd, kids⟩ := q
  obtain ⟨tv, v, mv, rfl, a, b, c⟩ := h
  exact ⟨hd, kids, tv, v, mv, 0, 0, rfl, a.mono (fun b hb => hb.2), b.mono (fun b hb => hb.2), c, .inl ⟨rfl, rfl⟩⟩
theorem wpl_append_full {w : World} {ops : Array Oper} {rest : List Oper} {o : Oper} {a : Act} {Q : Exit -> Act -> World -> Prop} (hgd : o.guard = none) (s x : Operand)
  (ho : o.op = .call { callee := .builtin .append, args := #[s, x], argTypes := #[37, 37] })
  (b : Addr) (u : Value) (l k t : List UInt8) (hs : a.eval s = .slice (some b) l.length l.length) (hv : Bs w (.slice (some b) l.length l.length) l) (hx : a.eval x = u) (hu : Bs w u k) (hk : 0 < k.length) (h0 : 0 < l.length)
  (hlen : l.length + k.length <= 1048576) (ht : l ++ k = t)
  (h : ∀ v' w', OwnB w.heap.size w' v' t -> Below w.heap.size w w' -> wpList Tryz.prog ops Q rest (a.put o.dst v') w') : wpList Tryz.prog ops Q (o :: rest) a w := by
 subst ht
 obtain ⟨i0, hi, hz0, hz1, hz2⟩ := info_parts infoB
 obtain ⟨ad, cap, rfl, h1, h2, h3⟩ := hu
 obtain ⟨bk, ok, rfl, hbk, hck⟩ := h3 hk
 obtain ⟨ad0, cap0, e0, g1, g2, g3⟩ := hv
 obtain ⟨bl, ol, e1, hbl, hcl⟩ := g3 h0
 simp only [Value.slice.injEq] at e0
 obtain ⟨e0, -, -⟩ := e0
 rw [e1] at e0
 simp only [Option.some.injEq] at e0
 subst e0
 obtain ⟨v', w', hr, how, hg⟩ := run_append_arg_grows (P := Tryz.prog) w 37 o.type 5 i0 _ 1 1 Tryz.underlying37 hi hz0 hz1 hz2 rfl (by decide) ⟨bl, ol, none⟩ l.length l.length (bcells l) (by simp [bcells]) (fun j u hu => by
   have hj := (List.getElem?_eq_some_iff.1 hu).1
   simp only [bcells, List.length_map] at hj
   have := hcl j hj
   rw [Addr.add_mid, this]
   simp [bcells, List.getElem?_eq_getElem hj] at hu
   simp [<- hu, List.getD, List.getElem?_eq_getElem hj]) ⟨bk, ok, none⟩ k.length cap (bcells k) (by simp [bcells]) (fun j u hu => by
   have hj := (List.getElem?_eq_some_iff.1 hu).1
   simp only [bcells, List.length_map] at hj
   have := hck j hj
   rw [Addr.add_mid, this]
   simp [bcells, List.getElem?_eq_getElem hj] at hu
   simp [<- hu, List.getD, List.getElem?_eq_getElem hj]) (by omega) (by unfold maxLen; omega) (by omega)
 refine Go.Lib.wpList_append_run_sl w hgd s x _ ho _ _ hs hx hr (h v' w' ?_ ((Below.refl _ w).grown hg (Nat.le_refl _) (by simp)))
 have e : bcells l ++ bcells k = bcells (l ++ k) := by simp [bcells]
 rw [e] at how
 unfold OwnB
 rw [List.length_append]
 exact how
theorem nef_0 (W : World) : (binOp .neq 34 (.agg #[.int .i64 0, .int .i64 0]) (.agg #[.int .i64 0, .int .i64 0])).run Tryz.prog W = .ok (.bool false) W := by kernel_rfl
theorem rest_fr (l : List UInt8) : ∀ f obj d (fr : Nat) ts ms L h kids r, restP l f obj d fr ts ms L = .ok (h, kids, r) -> h.fr = fr := by
 intro f
 induction f with
 | zero => intro obj d fr ts ms L h kids r e; simp [restP] at e
 | succ f ih =>
  intro obj d fr ts ms L h kids r e
  unfold restP at e
  by_cases hk : kindP ts = shL obj
  ·rw [if_pos hk] at e
   cases ht : takeP l.length (shL obj) ts with
   | error y => rw [ht] at e; simp at e
   | ok q =>
    obtain ⟨t, r1⟩ := q
    rw [ht] at e
    simp only [Except.ok.injEq, Prod.mk.injEq] at e
    rw [<- e.1]
  ·rw [if_neg hk] at e
   cases ht : takeP l.length 6 ts with
   | error y => rw [ht] at e; simp at e
   | ok q =>
    obtain ⟨c, r1⟩ := q
    rw [ht] at e
    simp only at e
    cases hi : itemW l (valP l f d) obj r1 (ms ++ [(c.2.1 : Int)]) L with
    | error y => rw [hi] at e; simp at e
    | ok q => obtain ⟨ms2, L2, r2⟩ := q; rw [hi] at e; exact ih _ _ _ _ _ _ _ _ _ e
theorem val_fr {l : List UInt8} {f d : Nat} {ts : M.Toks} {h : Vh} {kids : Vo} {r : M.Toks} (e : valP l f d ts = .ok (h, kids, r)) : ∃ t r0, ts = t :: r0 /\ h.fr = (t.2.1 : Int) := by
 cases f with
 | zero => simp [valP] at e
 | succ f =>
  cases ts with
  | nil => simp [valP] at e
  | cons t r0 =>
   refine ⟨t, r0, rfl, ?_⟩
   unfold valP at e
   simp only at e
   by_cases h7 : t.1 = 7
   ·rw [if_pos h7] at e; simp only [Except.ok.injEq, Prod.mk.injEq] at e; rw [<- e.1]; rfl
   rw [if_neg h7] at e
   by_cases h8 : t.1 = 8
   ·rw [if_pos h8] at e; simp only [Except.ok.injEq, Prod.mk.injEq] at e; rw [<- e.1]; rfl
   rw [if_neg h8] at e
   by_cases h9 : t.1 = 9 \/ t.1 = 10 \/ t.1 = 11
   ·rw [if_pos h9] at e; simp only [Except.ok.injEq, Prod.mk.injEq] at e; rw [<- e.1]; rfl
   rw [if_neg h9] at e
   by_cases h1 : t.1 = 1 \/ t.1 = 3
   ·rw [if_pos h1] at e
    cases d with
    | zero => simp at e
    | succ d =>
     simp only at e
     by_cases hk : kindP r0 = t.1 + 1
     ·rw [if_pos hk] at e; exact rest_fr _ _ _ _ _ _ _ _ _ _ _ e
     ·rw [if_neg hk] at e
      cases hi : itemW l (valP l f d) (decide (t.1 = 1)) r0 [] .nil with
      | error y => rw [hi] at e; simp at e
      | ok q => obtain ⟨ms, L, r2⟩ := q; rw [hi] at e; exact rest_fr _ _ _ _ _ _ _ _ _ _ _ e
   ·rw [if_neg h1] at e; simp at e
theorem VoC_sh (d : Nat) (L : Vo) : VoC (shVo d L) = VoC L := by
 induction L with
 | nil => rfl
 | cons h k r ih1 ih2 => simp only [shVo, VoC, ih1, ih2, shH, List.length_map]
theorem parV_sz {l : List UInt8} {h : Vh} {kids : Vo} (hl : l.length <= 200) (e : parseV l 50 = .ok (h, kids)) : 0 < l.length /\ 0 <= h.fr /\ h.fr <= 200 /\ 1 + h.tx.length + h.ms.length + VoC kids <= 1200 := by
 obtain ⟨ts, hs, hp, -⟩ := parV_ok e
 have sz := (par_sz (by omega) hs hp).1
 have e := par_ok hp
 obtain ⟨t, r0, ht, hf⟩ := val_fr e
 have lk := lex_kinds l ts (by omega) hs t (by rw [ht]; exact List.mem_cons_self ..)
 exact ⟨by omega, by omega, by omega, sz⟩
theorem jpnests_walk (a0 : Option Addr) (len0 cap0 : Nat) (a1 : Option Addr) (len1 cap1 : Nat) (la lb : List UInt8) (w : World) (hla : la.length = len0) (b0 : Bs w (.slice a0 len0 cap0) la) (n0 : ∀ n c, Value.slice a0 len0 cap0 = .slice none n c -> c = 0) (hlb : lb.length = len1) (b1 : Bs w (.slice a1 len1 cap1) lb) (n1 : ∀ n c, Value.slice a1 len1 cap1 = .slice none n c -> c = 0) (hT : TabX w) :
  Calls Tryz.prog 5 #[.slice a0 len0 cap0, .slice a1 len1 cap1] w fun e w' => e = .returned (.bool true) /\ Below w.heap.size w w' := by
 have AL := LH (alive7_any w hT)
 have HT := LH hT
 have B0 := LH b0
 have B1 := LH b1
 have N1 := LH n1
 have HLA := LH hla
 have HLB := LH hlb
 have RPa := LH (fun (W : World) (hW : Below w.heap.size w W) => refjparse_any (.slice a0 len0 cap0) la 50 W (HT.out.keep hW) (B0.out.keep hW))
 have RPb := LH (fun (W : World) (hW : Below w.heap.size w W) => refjparse_any (.slice a1 len1 cap1) lb 50 W (HT.out.keep hW) (B1.out.keep hW))
 clear hT b0 b1 n0 n1 hla hlb
 go_enter Tryz.func5, Tryz.ntmps5
 go_wp2_with fail
 refine AL.out.mono ?_
 rintro e w1 ⟨rfl, hb1⟩
 have C1 := LH hb1
 go_wp2_with fail
 refine (RPa.out w1 hb1).mono ?_
 intro e w2 hpq
 obtain ⟨hx, kx, tvx, vx, mvx, fe, fa, rfl, hdx, hvx, hb2, hRa⟩ := par_uni hpq
 clear hpq
 obtain ⟨p2, hp2⟩ : ∃ x, w2.heap.size + 1 = x := ⟨_, rfl⟩
 obtain ⟨k1, k2, k3, k4, bb⟩ := two_laid w2 (vv hx tvx vx mvx) (.int .i64 fe) (.int .i64 fa) p2 hp2
 have C2 := hb1.trans (hb2.mono hb1.size)
 have B3 := LH (C2.trans (bb.mono C2.size))
 have t1 := hdx.t.one
 have t2 := hvx.one
 have t3 := hdx.m.one
 have hdS := hdx.below bb
 have hvS := hvx.below bb
 obtain ⟨W4, hW4⟩ : ∃ x, (((w2.alloc (.cells zv 27)).alloc (.cells #[.int .i64 0, .int .i64 0] 34)).setRow w2.heap.size (vv hx tvx vx mvx)).setRow p2 #[.int .i64 fe, .int .i64 fa] = x := ⟨_, rfl⟩
 rw [hW4] at k3 k4 B3 hdS hvS
 have HW4 := LH (show (((w2.alloc (.cells #[.int .i64 0, .slice none 0 0, .bool false, .string ⟨#[]⟩, .string ⟨#[]⟩, .slice none 0 0, .int .i64 0, .int .i64 0, .slice none 0 0] 27)).alloc (.cells #[.int .i64 0, .int .i64 0] 34)).setRow w2.heap.size (vv hx tvx vx mvx)).setRow p2 #[.int .i64 fe, .int .i64 fa] = W4 from hW4)
 have hdX := LH hdS
 have hvX := LH hvS
 have K3 := LH k3
 have K4 := LH k4
 have HRA := LH hRa
 clear hW4 bb hb1 hb2 hdx hvx C2 hdS hvS k3 k4 hRa
 go_upto_region 3 with (first | (refine wpl_stV rfl _ _ rfl w2.heap.size zv hx tvx vx mvx rfl rfl k1 rfl t1 t2 t3 ?_) | (refine wpl_stK infoF1 rfl _ _ rfl p2 _ #[.int .i64 fe, .int .i64 fa] rfl rfl k2 rfl rfl (by simp [Value.oneCell']) ?_))
 rw [HW4.out]
 have hp2' := LH hp2
 clear k1 k2 t1 t2 t3 hp2
 go_wp2_with fail
 refine (RPb.out W4 B3.out).mono ?_
 intro e w5 hpq
 obtain ⟨hy, ky, tvy, vy, mvy, ge, ga, rfl, hdy, hvy, hb5, hRb⟩ := par_uni hpq
 clear hpq
 obtain ⟨p5, hp5⟩ : ∃ x, w5.heap.size + 1 = x := ⟨_, rfl⟩
 obtain ⟨k1, k2, k3, k4, bb⟩ := two_laid w5 (vv hy tvy vy mvy) (.int .i64 ge) (.int .i64 ga) p5 hp5
 have C5 := hb5.trans (bb.mono hb5.size)
 have B6 := LH (B3.out.trans (C5.mono B3.out.size))
 have t1 := hdy.t.one
 have t2 := hvy.one
 have t3 := hdy.m.one
 have hdS := hdy.below bb
 have hvS := hvy.below bb
 have K3' := K3.out.keep C5
 have K4' := K4.out.keep C5
 have hdX' := hdX.out.below C5
 have hvX' := hvX.out.below C5
 obtain ⟨W6, hW6⟩ : ∃ x, (((w5.alloc (.cells zv 27)).alloc (.cells #[.int .i64 0, .int .i64 0] 34)).setRow w5.heap.size (vv hy tvy vy mvy)).setRow p5 #[.int .i64 ge, .int .i64 ga] = x := ⟨_, rfl⟩
 rw [hW6] at k3 k4 B6 hdS hvS K3' K4' hdX' hvX'
 have HW6 := LH (show (((w5.alloc (.cells #[.int .i64 0, .slice none 0 0, .bool false, .string ⟨#[]⟩, .string ⟨#[]⟩, .slice none 0 0, .int .i64 0, .int .i64 0, .slice none 0 0] 27)).alloc (.cells #[.int .i64 0, .int .i64 0] 34)).setRow w5.heap.size (vv hy tvy vy mvy)).setRow p5 #[.int .i64 ge, .int .i64 ga] = W6 from hW6)
 have hdX := LH hdX'
 have hvX := LH hvX'
 have hdY := LH hdS
 have hvY := LH hvS
 have KX := LH K3'
 have KY := LH k3
 have HRB := LH hRb
 have e0 : W6.cell? ⟨p2, 0, none⟩ = some (.int .i64 fe) := K4'.cell 0
 have g0 : W6.cell? ⟨p5, 0, none⟩ = some (.int .i64 ge) := k4.cell 0
 clear hW6 bb hb5 hdy hvy C5 hdS hvS k3 k4 hRb K3' K4' hdX' hvX' K3 K4
 go_upto_region 4 with (first | (refine wpl_stV rfl _ _ rfl w5.heap.size zv hy tvy vy mvy rfl rfl k1 rfl t1 t2 t3 ?_) | (refine wpl_stK infoF1 rfl _ _ rfl p5 _ #[.int .i64 ge, .int .i64 ga] rfl rfl k2 rfl rfl (by simp [Value.oneCell']) ?_))
 rw [HW6.out]
 have hp5' := LH hp5
 clear k1 k2 t1 t2 t3 HW4 HW6 hp5
 by_cases c1 : 200 < len0
 ·have q1 : decide ((200 : Int) < (len0 : Int)) = true := by simp; omega
  go_wp2
  go_ret
  exact ⟨rfl, B6.out⟩
 have q1 : decide ((200 : Int) < (len0 : Int)) = false := by simp; omega
 by_cases c2 : 200 < len1
 ·have q2 : decide ((200 : Int) < (len1 : Int)) = true := by simp; omega
  go_wp2
  go_ret
  exact ⟨rfl, B6.out⟩
 have q2 : decide ((200 : Int) < (len1 : Int)) = false := by simp; omega
 by_cases c3 : fe = 0
 case neg =>
  have q3 : (fe != 0) = true := by simpa using c3
  go_wp2
  go_ret
  exact ⟨rfl, B6.out⟩
 subst c3
 by_cases c4 : ge = 0
 case neg =>
  have q4 : (ge != 0) = true := by simpa using c4
  go_wp2
  go_ret
  exact ⟨rfl, B6.out⟩
 subst c4
 have oka : parseV la 50 = .ok (hx, kx) := by
  rcases HRA.out with ⟨h, _⟩ | ⟨x, h, h0⟩
  ·exact h
  ·exact absurd h0.symm (parV_err h)
 have okb : parseV lb 50 = .ok (hy, ky) := by
  rcases HRB.out with ⟨h, _⟩ | ⟨x, h, h0⟩
  ·exact h
  ·exact absurd h0.symm (parV_err h)
 have la2 : la.length <= 200 := by rw [HLA.out]; omega
 have lb2 : lb.length <= 200 := by rw [HLB.out]; omega
 have NP := nest_parse la lb hx hy kx ky la2 lb2 oka okb
 obtain ⟨xa, xb, xc, xd⟩ := parV_sz la2 oka
 obtain ⟨ya, yb, yc, yd⟩ := parV_sz lb2 okb
 rw [HLA.out] at xa NP la2
 rw [HLB.out] at ya NP lb2
 have W6s := B6.out.size
 obtain ⟨W7, hW7⟩ : ∃ x, W6.alloc (.cells (bcells [91]).toArray 5 (1, 2)) = x := ⟨_, rfl⟩
 obtain ⟨W7', hW7'⟩ : ∃ x, W6.alloc (.cells #[.int .u8 91] 5) = x := ⟨_, rfl⟩
 have kc : (convert 37 37 (.slice (some ⟨W6.heap.size, 0, none⟩) 1 1)).run Tryz.prog W7' = .ok (.slice (some ⟨W6.heap.size, 0, none⟩) 1 1) W7 := by
  have := Lib.run_convert_bytes_const (P := Tryz.prog) W6 37 5 #[.int .u8 91] 1 1 Tryz.underlying37 Tryz.underlying5
  rw [hW7'] at this
  rw [this]
  exact congrArg _ hW7
 have b7 := (Below.refl W6.heap.size W6).alloc (Nat.le_refl _) (.cells (bcells [91]).toArray 5 (1, 2))
 have bs7 := bs_newm W6 [91] (1, 2) (by decide)
 rw [hW7] at b7 bs7
 have B7 := LH (B6.out.trans (b7.mono W6s))
 have HW7 := LH hW7'
 have BS7 := LH bs7
 have S7 := LH b7.size
 have D67 := LH b7
 clear hW7 hW7' bs7 b7 HRA HRB oka okb RPa RPb c1 c2
 go_wp2_with (first | (rw [HW7.out]) | (at_builtin; refine wpl_append_full rfl _ _ rfl ⟨W6.heap.size, 0, none⟩ (.slice a0 len0 cap0) [91] la (91 :: la) rfl BS7.out rfl (B0.out.keep B7.out) (by rw [HLA.out]; exact xa) (by decide) (by rw [HLA.out]; simp; omega) rfl ?_))
 intro v8 w8 ho8 d8
 have d8z := d8.size
 have c8 := B7.out.trans (d8.mono B7.out.size)
 have ho8' := OwnB.keep ho8 ((Below.refl _ _).alloc (Nat.le_refl _) (.cells #[.int .u8 44] 5))
 have d8' := d8.alloc d8z (.cells #[.int .u8 44] 5)
 have d8z' := d8'.size
 have cm : Bs (w8.alloc (.cells #[.int .u8 44] 5)) (.slice (some ⟨w8.heap.size, 0, none⟩) 1 1) [44] := bs_new w8 [44] (by decide)
 clear ho8 d8
 go_wp2_with (at_builtin; refine wpl_append rfl _ _ rfl W7.heap.size v8 (.slice (some ⟨w8.heap.size, 0, none⟩) 1 1) (91 :: la) [44] (91 :: (la ++ [44])) rfl ho8' rfl cm (nnv_some _ _ _) (by simp only [List.length_cons, List.length_nil]; rw [HLA.out]; omega) d8z' rfl ?_)
 intro v9 w9 ho9 d9
 have d79 := d8'.trans d9
 have d79z := d79.size
 have c9 := B7.out.trans (d79.mono B7.out.size)
 clear d8' d9 ho8' cm c8
 go_wp2_with (at_builtin; refine wpl_append rfl _ _ rfl W7.heap.size v9 (.slice a1 len1 cap1) (91 :: (la ++ [44])) lb (91 :: (la ++ 44 :: lb)) rfl ho9 rfl (B1.out.keep c9) N1.out (by simp only [List.length_cons, List.length_nil, List.length_append]; rw [HLA.out, HLB.out]; omega) d79z (by simp) ?_)
 intro v10 w10 ho10 d10
 have d710 := d79.trans d10
 have d710z := d710.size
 have ho10' := OwnB.keep ho10 ((Below.refl _ _).alloc (Nat.le_refl _) (.cells #[.int .u8 93] 5))
 have d10' := d710.alloc d710z (.cells #[.int .u8 93] 5)
 have d10z' := d10'.size
 have cm : Bs (w10.alloc (.cells #[.int .u8 93] 5)) (.slice (some ⟨w10.heap.size, 0, none⟩) 1 1) [93] := bs_new w10 [93] (by decide)
 have EN : (91 :: (la ++ 44 :: lb)) ++ [93] = nestL la lb := by simp [nestL]
 have EL : (91 :: (la ++ 44 :: lb)).length + [93].length <= 4294967296 := by
  simp only [List.length_append, List.length_cons, List.length_nil]
  rw [HLA.out, HLB.out]; omega
 clear ho9 d79 d10 ho10 c9 d710
 go_wp2_with (at_builtin; refine wpl_append rfl _ _ rfl W7.heap.size v10 (.slice (some ⟨w10.heap.size, 0, none⟩) 1 1) (91 :: (la ++ 44 :: lb)) [93] (nestL la lb) rfl ho10' rfl cm (nnv_some _ _ _) EL d10z' EN ?_)
 intro v11 w11 ho11 d11
 have d711 := d10'.trans d11
 have c11 := LH (B7.out.trans (d711.mono B7.out.size))
 have e11 := LH (D67.out.trans (d711.mono S7.out))
 have hlen : (nestL la lb).length = len0 + len1 + 3 := by unfold nestL; simp only [List.length_append, List.length_cons, List.length_nil]; rw [HLA.out, HLB.out]; omega
 have bs11 := OwnB.bs ho11
 obtain ⟨a11, cap11, e11', -⟩ := id bs11
 rw [hlen] at e11'
 subst e11'
 have PA := parse_any (.slice a11 (len0 + len1 + 3) cap11) (nestL la lb) 60 w11 (HT.out.keep c11.out) bs11 (by rw [hlen]; omega)
 rw [NP] at PA
 obtain ⟨hN, ehN⟩ : ∃ x, (⟨2, [], false, [], [], 0, (len0 + len1 + 2 : Nat), [((len0 + 1 : Nat) : Int)]⟩ : Vh) = x := ⟨_, rfl⟩
 rw [ehN] at PA
 unfold ParQ at PA
 dsimp only at PA
 have PA := LH PA
 have EHN := LH ehN
 clear ho10' d10' d10z' cm ho11 d11 d711 bs11 NP ehN d8z d8z' d79z d710z hlen
 go_wp2_with fail
 refine PA.out.mono ?_
 rintro e w12 ⟨tvn, vn, mvn, rfl, hdn, hvn, hb12⟩
 obtain ⟨p12, hp12⟩ : ∃ x, w12.heap.size + 1 = x := ⟨_, rfl⟩
 obtain ⟨k1, k2, k3, k4, bb⟩ := two_laid w12 (vv hN tvn vn mvn) (.int .i64 0) (.int .i64 0) p12 hp12
 have t1 := hdn.t.one
 have t2 := hvn.one
 have t3 := hdn.m.one
 have C12 := hb12.trans (bb.mono hb12.size)
 have D12 := e11.out.trans (C12.mono e11.out.size)
 have B13 := LH (B6.out.trans (D12.mono W6s))
 have hdS := (hdn.mono (Q := fun b => b < w12.heap.size) (fun b hb => hb.2) : HdS w12 hN tvn mvn).below bb
 have hvS := (hvn.mono (Q := fun b => b < w12.heap.size) (fun b hb => hb.2) : VoS w12 vn _).below bb
 have KX' := KX.out.keep D12
 have KY' := KY.out.keep D12
 have hdX' := hdX.out.below D12
 have hvX' := hvX.out.below D12
 have hdY' := hdY.out.below D12
 have hvY' := hvY.out.below D12
 obtain ⟨W13, hW13⟩ : ∃ x, (((w12.alloc (.cells zv 27)).alloc (.cells #[.int .i64 0, .int .i64 0] 34)).setRow w12.heap.size (vv hN tvn vn mvn)).setRow p12 #[.int .i64 0, .int .i64 0] = x := ⟨_, rfl⟩
 rw [hW13] at k3 k4 B13 hdS hvS KX' KY' hdX' hvX' hdY' hvY'
 have HW13 := LH (show (((w12.alloc (.cells #[.int .i64 0, .slice none 0 0, .bool false, .string ⟨#[]⟩, .string ⟨#[]⟩, .slice none 0 0, .int .i64 0, .int .i64 0, .slice none 0 0] 27)).alloc (.cells #[.int .i64 0, .int .i64 0] 34)).setRow w12.heap.size (vv hN tvn vn mvn)).setRow p12 #[.int .i64 0, .int .i64 0] = W13 from hW13)
 have hdX := LH hdX'
 have hvX := LH hvX'
 have hdY := LH hdY'
 have hvY := LH hvY'
 have KX := LH KX'
 have KY := LH KY'
 have hdN := LH hdS
 have hvN := LH hvS
 have VN : VB W13 w12.heap.size hN tvn vn mvn := k3
 have K4 := LH k4
 clear hW13 bb hb12 hdn hvn C12 D12 hdS hvS k3 k4 KX' KY' hdX' hvX' hdY' hvY' e11
 go_upto_region 8 with (first | (refine wpl_stV rfl _ _ rfl w12.heap.size zv hN tvn vn mvn rfl rfl k1 rfl t1 t2 t3 ?_) | (refine wpl_stK infoF1 rfl _ _ rfl p12 _ #[.int .i64 0, .int .i64 0] rfl rfl k2 rfl rfl (by simp [Value.oneCell']) ?_))
 rw [HW13.out]
 have hp12' := LH hp12
 clear k1 k2 t1 t2 t3 hp12
 obtain ⟨ia, icap, rfl, i1, i2, i3, i4⟩ := hvN.out
 obtain ⟨ib, ioff, rfl, hib, ⟨⟨tv1, mv1, q1a, q1c, hd1, r1, u1, u2, u3, u4⟩, ⟨tv2, mv2, q2a, q2c, hd2, r2, v1, v2, v3, v4⟩, -⟩⟩ := i4 (by simp [Vo.len])
 have hm := hdN.out.m
 have ems : hN.ms = [((len0 + 1 : Nat) : Int)] := by rw [<- EHN.out]
 rw [ems] at hm
 obtain ⟨ma, mcap, rfl, m1, m2, m3, m4⟩ := hm
 obtain ⟨mb, moff, rfl, hmb, mc⟩ := m4 (by simp)
 have mc0 := mc 0 (by simp)
 rw [Nat.add_zero] at mc0
 simp only [List.getElem_cons_zero] at mc0
 obtain ⟨g0, g1, g2, g3, g4, g5, g6, g7, g8⟩ := VN.cells
 have k2 : hN.k = 2 := by rw [<- EHN.out]
 have k7 : hN.tt = ((len0 + len1 + 2 : Nat) : Int) := by rw [<- EHN.out]
 rw [k2] at g0
 rw [k7] at g7
 simp only [Vo.len, List.length_cons, List.length_nil] at g5 g8 i1 m1
 obtain ⟨h1, eh1⟩ : ∃ x, shH 1 hx = x := ⟨_, rfl⟩
 obtain ⟨h2, eh2⟩ : ∃ x, shH (len0 + 2) hy = x := ⟨_, rfl⟩
 obtain ⟨n1, en1⟩ : ∃ x, shVo 1 kx = x := ⟨_, rfl⟩
 obtain ⟨n2, en2⟩ : ∃ x, shVo (len0 + 2) ky = x := ⟨_, rfl⟩
 have fr1 : h1.fr = hx.fr + 1 := by rw [<- eh1]; rfl
 have fr2 : h2.fr = hy.fr + ((len0 + 2 : Nat) : Int) := by rw [<- eh2]; rfl
 have sm1 : sameH h1 n1 hx kx = true := by rw [<- eh1, <- en1]; exact sh_same 1 hx kx
 have sm2 : sameH h2 n2 hy ky = true := by rw [<- eh2, <- en2]; exact sh_same _ hy ky
 have z1 : 1 + h1.tx.length + h1.ms.length + VoC n1 <= 2097152 := by rw [<- eh1, <- en1, VoC_sh]; simp only [shH, List.length_map]; omega
 have z2 : 1 + h2.tx.length + h2.ms.length + VoC n2 <= 2097152 := by rw [<- eh2, <- en2, VoC_sh]; simp only [shH, List.length_map]; omega
 rw [eh1] at hd1 r1
 rw [eh2] at hd2 r2
 rw [en1] at r1 u1 u4
 rw [en2] at r2 v1 v4
 have vs1 : VoS W13 (.slice q1a n1.len q1c) n1 := ⟨q1a, q1c, rfl, u1, u2, u3, u4⟩
 have vs2 : VoS W13 (.slice q2a n2.len q2c) n2 := ⟨q2a, q2c, rfl, v1, v2, v3, v4⟩
 have SA := LH (fun (V : World) (hV : Below W13.heap.size W13 V) => (sm1 ▸ sv_any h1 n1 hx kx V tv1 (.slice q1a n1.len q1c) mv1 tvx vx mvx z1 (by omega) (hd1.below hV) (vs1.below hV) (hdX.out.below hV) (hvX.out.below hV) : Calls Tryz.prog 13 #[.agg (vv h1 tv1 (.slice q1a n1.len q1c) mv1), .agg (vv hx tvx vx mvx)] V fun e w' => e = .returned (.bool true) /\ Below V.heap.size V w'))
 have SB := LH (fun (V : World) (hV : Below W13.heap.size W13 V) => (sm2 ▸ sv_any h2 n2 hy ky V tv2 (.slice q2a n2.len q2c) mv2 tvy vy mvy z2 (by omega) (hd2.below hV) (vs2.below hV) (hdY.out.below hV) (hvY.out.below hV) : Calls Tryz.prog 13 #[.agg (vv h2 tv2 (.slice q2a n2.len q2c) mv2), .agg (vv hy tvy vy mvy)] V fun e w' => e = .returned (.bool true) /\ Below V.heap.size V w'))
 have f0 : W13.rangeAt p12 0 [.int .i64 0, .int .i64 0] := K4.out.range 0 _ (fun j u h => by rw [Nat.zero_add]; simpa using h)
 have nf := nef_0
 have HIB := LH hib
 have HMB := LH hmb
 have R1 := LH r1
 have R2 := LH r2
 have MC := LH mc0
 have G5 := LH g5
 have G7 := LH g7
 have G8 := LH g8
 have XW := LH (show VB W13 w2.heap.size hx tvx vx mvx from KX.out)
 have YW := LH (show VB W13 w5.heap.size hy tvy vy mvy from KY.out)
 clear i4 u4 v4 m4 hd1 hd2 vs1 vs2 sm1 sm2 eh1 eh2 en1 en2 mc g1 g2 g3 g4 g6 hdX hvX hdY hvY hdN hvN KX KY z1 z2 u1 u2 u3 v1 v2 v3 hib hmb r1 r2 mc0 ems
 go_upto_region 10 with (first | (refine wpl_ldK Tryz.underlying34 rfl infoF1 rfl _ rfl p12 [.int .i64 0, .int .i64 0] rfl K4.out rfl ?_) | fail)
 have d13 : Hid (Below W13.heap.size W13 W13.drew) := LH ((Below.refl _ _).drew)
 obtain ⟨FX, hFX⟩ : ∃ x, hx.fr = x := ⟨_, rfl⟩
 obtain ⟨FY, hFY⟩ : ∃ x, hy.fr = x := ⟨_, rfl⟩
 have lib : ib < W13.heap.size := HIB.out
 have lmb : mb < W13.heap.size := HMB.out
 have lx : w2.heap.size < W13.heap.size := XW.out.lt
 have ly : w5.heap.size < W13.heap.size := YW.out.lt
 have lv : w12.heap.size < W13.heap.size := VN.lt
 have SS : ∀ V : World, Below W13.heap.size W13 V -> (V.cell? ⟨w12.heap.size, 5, none⟩ = some (.slice (some ⟨ib, ioff, none⟩) 2 icap) /\ V.cell? ⟨w12.heap.size, 7, none⟩ = some (.int .i64 ((len0 : Int) + len1 + 2)) /\ V.cell? ⟨w12.heap.size, 8, none⟩ = some (.slice (some ⟨mb, moff, none⟩) 1 mcap) /\ V.cell? ⟨ib, ioff + 6, none⟩ = some (.int .i64 (FX + 1)) /\ V.cell? ⟨ib, ioff + 9 + 6, none⟩ = some (.int .i64 (FY + len0 + 2)) /\ V.cell? ⟨w2.heap.size, 6, none⟩ = some (.int .i64 FX) /\ V.cell? ⟨w5.heap.size, 6, none⟩ = some (.int .i64 FY) /\ V.cell? ⟨mb, moff, none⟩ = some (.int .i64 ((len0 : Int) + 1)) /\ V.rangeAt ib ioff (vvl h1 tv1 (.slice q1a n1.len q1c) mv1) /\ V.rangeAt ib (ioff + 9) (vvl h2 tv2 (.slice q2a n2.len q2c) mv2) /\ V.rangeAt w2.heap.size 0 (vvl hx tvx vx mvx) /\ V.rangeAt w5.heap.size 0 (vvl hy tvy vy mvy)) := fun V h => by
  have x6 := XW.out.cells.2.2.2.2.2.2.1
  have y6 := YW.out.cells.2.2.2.2.2.2.1
  rw [hFX] at x6
  rw [hFY] at y6
  have z1 := R1.out 6 _ rfl
  have z2 := R2.out 6 _ rfl
  rw [fr1, hFX] at z1
  rw [fr2, hFY] at z2
  refine ⟨(h.cell (p := ⟨w12.heap.size, 5, none⟩) lv).trans G5.out, (h.cell (p := ⟨w12.heap.size, 7, none⟩) lv).trans (by rw [G7.out]; simp), (h.cell (p := ⟨w12.heap.size, 8, none⟩) lv).trans G8.out, (h.cell (p := ⟨ib, ioff + 6, none⟩) lib).trans z1, (h.cell (p := ⟨ib, ioff + 9 + 6, none⟩) lib).trans (by rw [z2]; congr 2; omega), (h.cell (p := ⟨w2.heap.size, 6, none⟩) lx).trans x6, (h.cell (p := ⟨w5.heap.size, 6, none⟩) ly).trans y6, (h.cell (p := ⟨mb, moff, none⟩) lmb).trans (by rw [MC.out]; simp), range_same R1.out (h.block ib lib), range_same R2.out (h.block ib lib), range_same (VB.range XW.out) (h.block _ lx), range_same (VB.range YW.out) (h.block _ ly)⟩
 rw [hFX] at xb xc
 rw [hFY] at yb yc
 have wr1 : IntKind.i64.wrap (FX + 1) = FX + 1 := by rw [IntKind.wrap_i64]; omega
 have wr2 : IntKind.i64.wrap (FY + len0) = FY + len0 := by rw [IntKind.wrap_i64]; omega
 have wr3 : IntKind.i64.wrap (FY + len0 + 2) = FY + len0 + 2 := by rw [IntKind.wrap_i64]; omega
 have wr4 : IntKind.i64.wrap ((len0 : Int) + 1) = (len0 : Int) + 1 := by rw [IntKind.wrap_i64]; omega
 have wr5 : IntKind.i64.wrap ((len0 : Int) + len1 + 3 - 1) = (len0 : Int) + len1 + 2 := by rw [IntKind.wrap_i64]; omega
 refine wp_region_noPanic ?_
 refine wp_region_to 57 (S := fun V => (V.cell? ⟨w12.heap.size, 5, none⟩ = some (.slice (some ⟨ib, ioff, none⟩) 2 icap) /\ V.cell? ⟨w12.heap.size, 7, none⟩ = some (.int .i64 ((len0 : Int) + len1 + 2)) /\ V.cell? ⟨w12.heap.size, 8, none⟩ = some (.slice (some ⟨mb, moff, none⟩) 1 mcap) /\ V.cell? ⟨ib, ioff + 6, none⟩ = some (.int .i64 (FX + 1)) /\ V.cell? ⟨ib, ioff + 9 + 6, none⟩ = some (.int .i64 (FY + len0 + 2)) /\ V.cell? ⟨w2.heap.size, 6, none⟩ = some (.int .i64 FX) /\ V.cell? ⟨w5.heap.size, 6, none⟩ = some (.int .i64 FY) /\ V.cell? ⟨mb, moff, none⟩ = some (.int .i64 ((len0 : Int) + 1)) /\ V.rangeAt ib ioff (vvl h1 tv1 (.slice q1a n1.len q1c) mv1) /\ V.rangeAt ib (ioff + 9) (vvl h2 tv2 (.slice q2a n2.len q2c) mv2) /\ V.rangeAt w2.heap.size 0 (vvl hx tvx vx mvx) /\ V.rangeAt w5.heap.size 0 (vvl hy tvy vy mvy))) (by kernel_rfl) (SS _ d13.out) (fun hS => ?_)
 obtain ⟨WD, hWD⟩ : ∃ x, W13.drew = x := ⟨_, rfl⟩
 rw [hWD] at d13 hS ⊢
 clear hWD
 refine dtp 0 ?_
 refine dtk (v := .slice (some ⟨ib, ioff, none⟩) 2 icap) 1 (hy := Or.inl ⟨by rfl, by intro V hSV; obtain ⟨s0, s1, s2, s3, s4, s5, s6, s7, s8, s9, s10, s11⟩ := hSV; go_simp⟩) ?_
 refine dtp (v := .pointer (some ⟨ib, ioff, none⟩)) 2 (hy := Or.inl ⟨by rfl, by intro V hSV; go_simp⟩) ?_
 refine dtk (v := .agg (vv h1 tv1 (.slice q1a n1.len q1c) mv1)) 3 (hy := yieldsIf_load_mid (by rfl) 27 _ rfl ib ioff rfl (vvl h1 tv1 (.slice q1a n1.len q1c) mv1) _ (fun w hS => hS.2.2.2.2.2.2.2.2.1) Tryz.underlying27 rfl infoVal) ?_
 refine dtk (v := .agg (vv hx tvx vx mvx)) 4 (hy := yieldsIf_load_mid (by rfl) 27 _ rfl w2.heap.size 0 rfl (vvl hx tvx vx mvx) _ (fun w hS => hS.2.2.2.2.2.2.2.2.2.2.1) Tryz.underlying27 rfl infoVal) ?_
 refine AnyTo.ready (rs := [5]) (by kernel_rfl) (by simp) ?_
 refine ReadyTo.one rfl fun K hK => ?_
 go_simp
 refine (SA.out WD d13.out).mono ?_
 rintro e w14 ⟨rfl, hb14⟩
 refine hK.out _ _ (SS _ (d13.out.trans (hb14.mono d13.out.size))) (fun hS => ?_)
 clear hK K
 have d14 := LH (d13.out.trans (hb14.mono d13.out.size))
 clear hb14
 refine dtp 6 ?_
 refine dtp 7 ?_
 refine dtk (v := .slice (some ⟨ib, ioff, none⟩) 2 icap) 8 (hy := Or.inl ⟨by rfl, by intro V hSV; obtain ⟨s0, s1, s2, s3, s4, s5, s6, s7, s8, s9, s10, s11⟩ := hSV; go_simp⟩) ?_
 refine dtp (v := .pointer (some ⟨ib, ioff + 9, none⟩)) 9 (hy := Or.inl ⟨by rfl, by intro V hSV; go_simp⟩) ?_
 refine dtk (v := .agg (vv h2 tv2 (.slice q2a n2.len q2c) mv2)) 10 (hy := yieldsIf_load_mid (by rfl) 27 _ rfl ib (ioff + 9) rfl (vvl h2 tv2 (.slice q2a n2.len q2c) mv2) _ (fun w hS => hS.2.2.2.2.2.2.2.2.2.1) Tryz.underlying27 rfl infoVal) ?_
 refine dtk (v := .agg (vv hy tvy vy mvy)) 11 (hy := yieldsIf_load_mid (by rfl) 27 _ rfl w5.heap.size 0 rfl (vvl hy tvy vy mvy) _ (fun w hS => hS.2.2.2.2.2.2.2.2.2.2.2) Tryz.underlying27 rfl infoVal) ?_
 refine AnyTo.ready (rs := [12]) (by kernel_rfl) (by simp) ?_
 refine ReadyTo.one rfl fun K hK => ?_
 go_simp
 refine (SB.out w14 d14.out).mono ?_
 rintro e w15 ⟨rfl, hb15⟩
 refine hK.out _ _ (SS _ (d14.out.trans (hb15.mono d14.out.size))) (fun hS => ?_)
 clear hK K
 have d15 := LH (d14.out.trans (hb15.mono d14.out.size))
 clear hb15
 refine dtp 13 ?_
 refine dtp 14 ?_
 refine dtp 15 ?_
 refine dtk (v := .slice (some ⟨ib, ioff, none⟩) 2 icap) 16 (hy := Or.inl ⟨by rfl, by intro V hSV; obtain ⟨s0, s1, s2, s3, s4, s5, s6, s7, s8, s9, s10, s11⟩ := hSV; go_simp⟩) ?_
 refine dtp (v := .pointer (some ⟨ib, ioff, none⟩)) 17 (hy := Or.inl ⟨by rfl, by intro V hSV; go_simp⟩) ?_
 refine dtp (v := .pointer (some ⟨ib, ioff + 6, none⟩)) 18 (hy := Or.inl ⟨by rfl, by intro V hSV; go_simp⟩) ?_
 refine dtk (v := .int .i64 (FX + 1)) 19 (hy := Or.inl ⟨by rfl, by intro V hSV; obtain ⟨s0, s1, s2, s3, s4, s5, s6, s7, s8, s9, s10, s11⟩ := hSV; go_simp⟩) ?_
 refine dtp 20 ?_
 refine dtk (v := .int .i64 FX) 21 (hy := Or.inl ⟨by rfl, by intro V hSV; obtain ⟨s0, s1, s2, s3, s4, s5, s6, s7, s8, s9, s10, s11⟩ := hSV; go_simp⟩) ?_
 refine dtp (v := .int .i64 (FX + 1)) 22 (hy := Or.inl ⟨by rfl, by intro V hSV; go_simp⟩) ?_
 refine dtp (v := .bool true) 23 (hy := Or.inl ⟨by rfl, by intro V hSV; go_simp⟩) ?_
 refine dtp 24 ?_
 refine dtp 25 ?_
 refine dtp 26 ?_
 refine dtk (v := .slice (some ⟨ib, ioff, none⟩) 2 icap) 27 (hy := Or.inl ⟨by rfl, by intro V hSV; obtain ⟨s0, s1, s2, s3, s4, s5, s6, s7, s8, s9, s10, s11⟩ := hSV; go_simp⟩) ?_
 refine dtp (v := .pointer (some ⟨ib, ioff + 9, none⟩)) 28 (hy := Or.inl ⟨by rfl, by intro V hSV; go_simp⟩) ?_
 refine dtp (v := .pointer (some ⟨ib, ioff + 9 + 6, none⟩)) 29 (hy := Or.inl ⟨by rfl, by intro V hSV; go_simp⟩) ?_
 refine dtk (v := .int .i64 (FY + len0 + 2)) 30 (hy := Or.inl ⟨by rfl, by intro V hSV; obtain ⟨s0, s1, s2, s3, s4, s5, s6, s7, s8, s9, s10, s11⟩ := hSV; go_simp⟩) ?_
 refine dtp 31 ?_
 refine dtk (v := .int .i64 FY) 32 (hy := Or.inl ⟨by rfl, by intro V hSV; obtain ⟨s0, s1, s2, s3, s4, s5, s6, s7, s8, s9, s10, s11⟩ := hSV; go_simp⟩) ?_
 refine dtp 33 ?_
 refine dtp 34 ?_
 refine dtp (v := .int .i64 (FY + len0)) 35 (hy := Or.inl ⟨by rfl, by intro V hSV; go_simp⟩) ?_
 refine dtp (v := .int .i64 (FY + len0 + 2)) 36 (hy := Or.inl ⟨by rfl, by intro V hSV; go_simp⟩) ?_
 refine dtp (v := .bool true) 37 (hy := Or.inl ⟨by rfl, by intro V hSV; go_simp⟩) ?_
 refine dtp 38 ?_
 refine dtp 39 ?_
 refine dtp 40 ?_
 refine dtk (v := .slice (some ⟨mb, moff, none⟩) 1 mcap) 41 (hy := Or.inl ⟨by rfl, by intro V hSV; obtain ⟨s0, s1, s2, s3, s4, s5, s6, s7, s8, s9, s10, s11⟩ := hSV; go_simp⟩) ?_
 refine dtp (v := .pointer (some ⟨mb, moff, none⟩)) 42 (hy := Or.inl ⟨by rfl, by intro V hSV; go_simp⟩) ?_
 refine dtk (v := .int .i64 ((len0 : Int) + 1)) 43 (hy := Or.inl ⟨by rfl, by intro V hSV; obtain ⟨s0, s1, s2, s3, s4, s5, s6, s7, s8, s9, s10, s11⟩ := hSV; go_simp⟩) ?_
 refine dtp 44 ?_
 refine dtp 45 ?_
 refine dtp (v := .int .i64 ((len0 : Int) + 1)) 46 (hy := Or.inl ⟨by rfl, by intro V hSV; go_simp⟩) ?_
 refine dtp (v := .bool true) 47 (hy := Or.inl ⟨by rfl, by intro V hSV; go_simp⟩) ?_
 refine dtp 48 ?_
 refine dtp 49 ?_
 refine dtp 50 ?_
 refine dtk (v := .int .i64 ((len0 : Int) + len1 + 2)) 51 (hy := Or.inl ⟨by rfl, by intro V hSV; obtain ⟨s0, s1, s2, s3, s4, s5, s6, s7, s8, s9, s10, s11⟩ := hSV; go_simp⟩) ?_
 refine dtp 52 ?_
 refine dtp (v := .int .i64 ((len0 : Int) + len1 + 3)) 53 (hy := Or.inl ⟨by rfl, by intro V hSV; go_simp⟩) ?_
 refine dtp (v := .int .i64 ((len0 : Int) + len1 + 2)) 54 (hy := Or.inl ⟨by rfl, by intro V hSV; go_simp⟩) ?_
 refine dtp (v := .bool true) 55 (hy := Or.inl ⟨by rfl, by intro V hSV; go_simp⟩) ?_
 refine dtp 56 ?_
 refine AnyTo.ready (rs := [57]) (by kernel_rfl) (by simp) ?_
 refine ReadyTo.lone rfl (by kernel_rfl) fun K hK => ?_
 go_simp
 refine hK.out _ _ ?_
 clear hK K
 refine AnyTo.done (by kernel_rfl) ?_ _
 refine NoPanic.normal ?_
 go_wp2
 go_ret
 exact ⟨rfl, B13.out.trans (d15.out.mono B13.out.size)⟩
end Go.Proofs.YtbfnlgmhfhaglaaGreatDoor
