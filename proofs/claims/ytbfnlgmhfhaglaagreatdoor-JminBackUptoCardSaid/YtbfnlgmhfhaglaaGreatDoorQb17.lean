import Derived.Test.YtbfnlgmhfhaglaaGreatDoorQb16
import Derived.Test.YtbfnlgmhfhaglaaGreatDoorQb02
import Derived.Test.YtbfnlgmhfhaglaaGreatDoorQb10
import Derived.Deep.AppendLies
import Derived.Deep.RegionHeld3
set_option maxHeartbeats 8000000
set_option maxRecDepth 100000
namespace Go.Proofs.YtbfnlgmhfhaglaaGreatDoor
open Go.RowKit
set_option linter.unusedVariables false
set_option linter.unusedSimpArgs false
def srow (l : List (List UInt8)) : List (List Value) := l.map fun s => [.string (bytes s)]
theorem srow_app (k l : List (List UInt8)) : srow (k ++ l) = srow k ++ srow l := by simp [srow]
theorem srow_len (l : List (List UInt8)) : (srow l).length = l.length := by simp [srow]
theorem srow_one (l : List (List UInt8)) : ∀ y ∈ srow l, y.length = 1 := by
 intro y hy; simp only [srow, List.mem_map] at hy; obtain ⟨s, _, rfl⟩ := hy; rfl
theorem srow_cell (l : List (List UInt8)) : ∀ y ∈ srow l, ∀ c ∈ y, c.oneCell' = true := by
 intro y hy c hc; simp only [srow, List.mem_map] at hy; obtain ⟨s, _, rfl⟩ := hy; simp at hc; subst hc; rfl
def Ss (w : World) (v : Value) (l : List (List UInt8)) : Prop := Vs 1 w v (srow l)
def OwnS (B : Nat) (w : World) (v : Value) (l : List (List UInt8)) : Prop := OwnV 9 1 B w v (srow l)
theorem infoS : (Tryz.prog.info? 9).map (fun i => (i.zero, i.size, i.bytes)) = some (some (.string ⟨#[]⟩), 1, 16) := by kernel_rfl
theorem one_s (w : World) (c : List UInt8) (S : ByteArray) (h : bytes c = S) : Ss (w.alloc (.cells #[.string S] 9)) (.slice (some ⟨w.heap.size, 0, none⟩) 1 1) [c] :=
 vs_cells 1 _ w _ _ 1 (by rw [<- h]; rfl) (srow_one _) rfl (by simp [srow])
theorem wpl_appS {w : World} {ops : Array Oper} {rest : List Oper} {o : Oper} {a : Act} {Q : Exit -> Act -> World -> Prop} (hgd : o.guard = none) (s x : Operand)
  (ho : o.op = .call { callee := .builtin .append, args := #[s, x], argTypes := #[73, 73] })
  (B : Nat) (v u : Value) (l t : List (List UInt8)) (c : List UInt8) (hs : a.eval s = v) (hown : OwnS B w v l) (hx : a.eval x = u) (hu : Ss w u [c]) (hnn : NNv u) (hlen : l.length <= 100) (hB : B <= w.heap.size) (ht : l ++ [c] = t)
  (h : ∀ v' w', OwnS B w' v' t -> Below B w w' -> wpList Tryz.prog ops Q rest (a.put o.dst v') w') : wpList Tryz.prog ops Q (o :: rest) a w :=
 wpl_appendV hgd s x ho Tryz.underlying73 infoS rfl (by decide) B v u (srow l) (srow [c]) (srow t) hs hown hx hu hnn (srow_one _) (srow_cell _) (by rw [srow_len, srow_len]; simp; omega) (by decide) hB (by rw [<- ht, srow_app]) h
theorem stepl_str {w : World} {ops : Array Oper} {o : Oper} {a : Act} {K : Act -> World -> Prop} {Q : Exit -> Act -> World -> Prop} {E : Prop} (hgd : o.guard = none) (s x : Operand)
  (ho : o.op = .call { callee := .builtin .append, args := #[s, x], argTypes := #[73, 73] })
  (B : Nat) (v u : Value) (l t : List (List UInt8)) (c : List UInt8) (hs : a.eval s = v) (hown : OwnS B w v l) (hx : a.eval x = u) (hu : Ss w u [c])
  (hlen : l.length <= 100) (hB : B <= w.heap.size) (ht : l ++ [c] = t)
  (h : ∀ v' w', OwnS B w' v' t -> Below B w w' -> K (a.put o.dst v') w') : if Region.wanted o (yielded ops a.tmps) = true then Oper.wp Tryz.prog o a w K Q else E := by
 subst ht
 obtain ⟨i0, hi, hz0, hz1, hz2⟩ := info_parts infoS
 obtain ⟨ad, cap, rfl, h1, h2, h3⟩ := hu
 obtain ⟨hown, hsz, hone⟩ := hown
 have hlt := World.ownsRow.lt hown
 obtain ⟨b, off, rfl, _, hc⟩ := h3 (by simp [srow])
 have hcs : ∀ j d, (srow [c]).flatten[j]? = some d -> w.cell? ((⟨b, off, none⟩ : Addr).add j) = some d := by
  intro j d hj
  have hjl := (List.getElem?_eq_some_iff.1 hj).1
  rw [flat_len _ (srow_one _)] at hjl
  have hj2 : j < 1 := by simpa [srow] using hjl
  have hf := flat_get (srow [c]) (srow_one _) 0 (by simp [srow]) j hj2
  rw [Nat.zero_mul, Nat.zero_add, hj] at hf
  rw [Go.WideShapes.add_plain]
  have := hc 0 (by simp [srow]) j d hf.symm
  simpa using this
 refine step_append_lies w hgd s x 73 ho B 9 i0 _ 1 16 Tryz.underlying73 hi hz0 hz1 hz2 rfl (by decide) v (srow l).length (srow l).flatten hs hown ⟨b, off, none⟩ (srow [c]).length cap (srow [c]).flatten hx (flat_len _ (srow_one _)) hcs (fun u hu => ?_) (by simp [srow]) (by rw [srow_len, srow_len]; unfold maxLen; simp; omega) (by rw [srow_len, srow_len]; simp; omega) hB _ rfl ?_
 ·obtain ⟨y, hy, hu⟩ := List.mem_flatten.1 hu
  exact srow_cell _ y hy u hu
 ·intro g cap' w' hown' hg hgo _
  refine h _ w' ⟨?_, srow_one _, srow_cell _⟩ ((Below.refl B w).grown hg hB (fun j hj => (hlt j hj).1))
  rw [srow_app]
  rw [<- List.flatten_append, <- List.length_append] at hown'
  rw [<- List.length_append]
  exact hown'
theorem ownV_keep' {B : Nat} {w w' : World} {v : Value} {l : List (List UInt8)} (h : OwnS B w v l) (hb : Below w.heap.size w w') : OwnS B w' v l := OwnV.keep h hb
def Box (n : Nat) (c0 c1 c2 : Value) (W : World) : Prop := W.cell? ⟨n, 0, none⟩ = some c0 /\ W.cell? ⟨n, 1, none⟩ = some c1 /\ W.cell? ⟨n, 2, none⟩ = some c2
theorem box_keep {n B : Nat} {c0 c1 c2 : Value} {w w' : World} (h : Box n c0 c1 c2 w) (hb : Below B w w') (hn : n < B) : Box n c0 c1 c2 w' :=
 ⟨(hb.cell (p := ⟨n, 0, none⟩) hn).trans h.1, (hb.cell (p := ⟨n, 1, none⟩) hn).trans h.2.1, (hb.cell (p := ⟨n, 2, none⟩) hn).trans h.2.2⟩
theorem upE_le (D E : List UInt8) (hr : M.rightD E = true) (h1 : D.length <= 700) (h2 : E.length <= 700) : (M.upE D E).length <= 800 := by
 obtain ⟨K, hK⟩ : ∃ K, K = 700 := ⟨_, rfl⟩
 rw [<- M.txt_val E hr, M.upE_txt]
 have h3 := M.val_abs E hr K (by omega)
 have h4 := M.sum_abs (M.valD E) ((D.length : Int) - 1) K h3 (by
  have : ((D.length : Int) - 1).natAbs <= 1000 := by omega
  exact Nat.lt_of_le_of_lt this (Nat.lt_of_lt_of_le (show 1000 < 10 ^ 4 by decide) (Nat.pow_le_pow_right (by decide) (by omega))))
 have := M.txt_len (M.valD E + ((D.length : Int) - 1)) (K + 1) (by omega) h4
 omega
theorem plain_any (ng : Bool) (D E : List UInt8) (R : List (List UInt8)) (w : World) (hT : Tabs w) (h1 : D.length <= 700) (h2 : E.length <= 700) (hR : M.plainN ng D E = R) :
  Calls Tryz.prog 106 #[.agg (numV (ng, D, E))] w fun e w' => ∃ v, e = .returned v /\ Ss w' v R /\ Below w.heap.size w w' := by
 obtain ⟨rt, hrt⟩ : ∃ r, M.rightN D E = r := ⟨_, rfl⟩
 have R1 := LH (fun w => rightn_any ng D E rt w (by omega) (by omega) hrt)
 unfold M.plainN at hR
 rw [hrt] at hR
 unfold numV at R1 ⊢
 simp only at R1 ⊢
 obtain ⟨SD, hSD⟩ : ∃ S, bytes D = S := ⟨_, rfl⟩
 obtain ⟨SE, hSE⟩ : ∃ S, bytes E = S := ⟨_, rfl⟩
 rw [hSD, hSE] at R1 ⊢
 cases rt with
 | false =>
  simp only [Bool.false_eq_true, if_false] at hR
  subst hR
  clear hrt hSD hSE
  go_enter Tryz.func106, Tryz.ntmps106
  go_wp2_with fail
  refine (R1.out _).mono ?_
  rintro e w1 ⟨rfl, hb1⟩
  have hb0 := (keep3 hb1).2.2.2
  clear hb1
  go_wp2
  go_ret
  exact ⟨_, rfl, vs_nil 1 _, hb0⟩
 | true =>
  simp only [if_true] at hR
  obtain ⟨sg, hsg⟩ : ∃ sg, M.sgl ng = sg := ⟨_, rfl⟩
  have lsg : sg.length <= 1 := by rw [<- hsg, M.sgl_len]; split <;> simp
  rw [hsg] at hR
  obtain ⟨SG, hSG⟩ : ∃ S, bytes sg = S := ⟨_, rfl⟩
  have hngs : (ng = false /\ SG = ⟨#[]⟩) \/ (ng = true /\ SG = ⟨#[45]⟩) := by
   rw [<- hSG, <- hsg]; cases ng <;> simp [M.sgl, bytes]
  by_cases h0 : D = []
  ·rw [if_pos h0] at hR
   subst hR
   obtain ⟨e1, e2, e3⟩ := str_nil SD D hSD h0
   have a1 := cat_run sg [48] _ rfl (by omega) (by simp)
   rw [show bytes [48] = (⟨#[48]⟩ : ByteArray) from rfl, hSG] at a1
   obtain ⟨SC, hSC⟩ : ∃ S, bytes (sg ++ [48]) = S := ⟨_, rfl⟩
   rw [hSC] at a1
   have HSC := LH hSC
   clear hrt hSD hSE h0 hsg hSG hSC
   rcases hngs with ⟨rfl, rfl⟩ | ⟨rfl, rfl⟩
   all_goals
    go_enter Tryz.func106, Tryz.ntmps106
    go_wp2_with fail
    refine (R1.out _).mono ?_
    rintro e w1 ⟨rfl, hb1⟩
    obtain ⟨⟨g0, g1, g2⟩, -, hs1, hb0⟩ := keep3 hb1
    clear hb1
    go_wp2
    go_ret
    exact ⟨_, rfl, one_s _ _ _ HSC.out, hb0.alloc (by omega) _⟩
  ·rw [if_neg h0] at hR
   obtain ⟨e1, e2, e3⟩ := str_ne SD D hSD h0
   have hrE : M.rightD E = true := by
    rw [M.right_prog D E h0] at hrt
    simp only [Bool.and_eq_true] at hrt
    exact hrt.2
   have hul := upE_le D E hrE h1 h2
   obtain ⟨x, okx, hx⟩ : ∃ x o, M.intD E = (x, o) := ⟨_, _, rfl⟩
   have hxb : -1000000 <= x /\ x <= 1000000 := by
    unfold M.intD at hx
    split at hx
    ·rename_i h; simp only [Prod.mk.injEq] at hx; rw [<- hx.1]; exact h.2
    ·simp only [Prod.mk.injEq] at hx; rw [<- hx.1]; exact ⟨by decide, by decide⟩
   have I1 := LH (fun w => int_any E _ w (by omega) hx)
   unfold intB at I1
   simp only at I1
   obtain ⟨u, hu⟩ : ∃ u, M.unsc D x = u := ⟨_, rfl⟩
   have hlu : u.length <= 1000 := by
    rw [<- hu]; unfold M.unsc
    split
    ·simp; omega
    ·split
     ·simp; omega
     ·split
      ·simp; omega
      ·simp
   have U1 := LH (fun w => unsc_any D u x w (by omega) h0 hxb.1 hxb.2 hu)
   have PL := LH (fun w hw => plus_any (M.valD E) ((D.length : Int) - 1) _ w (by rw [M.txt_val E hrE]; omega) (by omega) (by omega) hw rfl)
   have hup := M.upE_txt D (M.valD E)
   rw [M.txt_val E hrE] at PL hup
   rw [<- hup] at PL
   obtain ⟨up, hupn⟩ : ∃ u, M.upE D E = u := ⟨_, rfl⟩
   unfold M.plain1 M.plain3 at hR
   rw [hx, hupn] at hR
   rw [hsg] at hR
   rw [hupn] at hul PL
   simp only at hR
   rw [hu] at hR
   have aU := cat_run sg u _ rfl (by omega) (by omega)
   have b1 := cat_run sg D _ rfl (by omega) (by omega)
   have b2 := cat_run (sg ++ D) [101] _ rfl (by simp; omega) (by simp)
   have b3 := cat_run (sg ++ D ++ [101]) E (sg ++ (D ++ 101 :: E)) (by simp) (by simp; omega) (by omega)
   have x1 := ext_to D 1
   have x2 := ext_from D 1
   have k1 := cat_run sg (D.take 1) _ rfl (by omega) (by simp; omega)
   have k2 := cat_run (sg ++ D.take 1) [46] _ rfl (by simp; omega) (by simp)
   have k3 := cat_run (sg ++ D.take 1 ++ [46]) (D.drop 1) _ rfl (by simp; omega) (by simp; omega)
   have k4 := cat_run (sg ++ D.take 1 ++ [46] ++ D.drop 1) [101] _ rfl (by simp; omega) (by simp)
   have k5 := cat_run (sg ++ D.take 1 ++ [46] ++ D.drop 1 ++ [101]) up (sg ++ (D.take 1 ++ 46 :: (D.drop 1 ++ 101 :: up))) (by simp) (by simp; omega) (by omega)
   rw [<- x1] at k1
   rw [<- x2] at k3
   rw [show bytes [46] = (⟨#[46]⟩ : ByteArray) from rfl] at k2
   rw [show bytes [101] = (⟨#[101]⟩ : ByteArray) from rfl] at b2 k4
   obtain ⟨SU, hSU⟩ : ∃ S, bytes u = S := ⟨_, rfl⟩
   obtain ⟨SP, hSP⟩ : ∃ S, bytes up = S := ⟨_, rfl⟩
   obtain ⟨C0, hC0⟩ : ∃ S, bytes (sg ++ u) = S := ⟨_, rfl⟩
   obtain ⟨B1, hB1⟩ : ∃ S, bytes (sg ++ D) = S := ⟨_, rfl⟩
   obtain ⟨B2, hB2⟩ : ∃ S, bytes (sg ++ D ++ [101]) = S := ⟨_, rfl⟩
   obtain ⟨B3, hB3⟩ : ∃ S, bytes (sg ++ (D ++ 101 :: E)) = S := ⟨_, rfl⟩
   obtain ⟨K1, hK1⟩ : ∃ S, bytes (sg ++ D.take 1) = S := ⟨_, rfl⟩
   obtain ⟨K2, hK2⟩ : ∃ S, bytes (sg ++ D.take 1 ++ [46]) = S := ⟨_, rfl⟩
   obtain ⟨K3, hK3⟩ : ∃ S, bytes (sg ++ D.take 1 ++ [46] ++ D.drop 1) = S := ⟨_, rfl⟩
   obtain ⟨K4, hK4⟩ : ∃ S, bytes (sg ++ D.take 1 ++ [46] ++ D.drop 1 ++ [101]) = S := ⟨_, rfl⟩
   obtain ⟨K5, hK5⟩ : ∃ S, bytes (sg ++ (D.take 1 ++ 46 :: (D.drop 1 ++ 101 :: up))) = S := ⟨_, rfl⟩
   have hsz := bytes_size D
   rw [hSD] at hsz k1 k3 b1 U1
   rw [<- hsz] at k3 PL
   rw [hSE] at PL I1 b3
   rw [hSG] at aU b1 k1
   rw [hSU] at aU U1
   rw [hC0] at aU
   rw [hB1] at b1 b2
   rw [hB2] at b2 b3
   rw [hB3] at b3
   rw [hK1] at k1 k2
   rw [hK2] at k2 k3
   rw [hK3] at k3 k4
   rw [hK4] at k4 k5
   rw [hSP] at k5 PL
   rw [hK5] at k5
   have hqu : (u = [] /\ SU.toList.isEmpty = true /\ SU.toList = []) \/ (u ≠ [] /\ SU.toList.isEmpty = false /\ (!SU.toList.isEmpty) = true) := by
    by_cases h : u = []
    ·have := str_nil SU u hSU h; exact .inl ⟨h, this.2.1, this.1⟩
    ·have := str_ne SU u hSU h; exact .inr ⟨h, this.1, this.2.1⟩
   have hqp : (up = [48] /\ (SP.toList == [48]) = true /\ SP.toList = [48]) \/ (up ≠ [48] /\ (SP.toList == [48]) = false /\ SP.toList ≠ [48]) := by
    rw [<- hSP, toList_bytes]
    by_cases h : up = [48]
    ·exact .inl ⟨h, by rw [h]; rfl, h⟩
    ·exact .inr ⟨h, by simpa using h, h⟩
   have hlast : ∀ (P : List (List UInt8)) (V : Value) (W : World), True := fun _ _ _ => trivial
   have HC0 := LH hC0
   have HB3 := LH hB3
   have HK5 := LH hK5
   have HQU := LH hqu
   have HQP := LH hqp
   have HR := LH hR
   have HT := LH hT
   have HSZ := LH hsz
   have z1 : SD.size <= 700 := by omega
   have z2 : 1 <= SD.size := by omega
   have z3 : (1 : Int) <= (SD.size : Int) := by omega
   clear hrt hSD hSE hsg hSG hrE hul hx hxb hu hup hupn x1 x2 hSU hSP hC0 hB1 hB2 hB3 hK1 hK2 hK3 hK4 hK5 hqu hqp hlast hR hT hsz h0 hlu
   rcases hngs with ⟨rfl, rfl⟩ | ⟨rfl, rfl⟩
   ·cases okx with
    | false =>
     go_enter Tryz.func106, Tryz.ntmps106
     go_wp2_with fail
     refine (R1.out _).mono ?_
     rintro e w1 ⟨rfl, hb1⟩
     obtain ⟨⟨g0, g1, g2⟩, -, hs1, hb0⟩ := keep3 hb1
     have Hbox : Hid (∀ W, Below w1.heap.size w1 W -> W.cell? ⟨w.heap.size, 0, none⟩ = some (.bool false) /\ W.cell? ⟨w.heap.size, 1, none⟩ = some (.string SD) /\ W.cell? ⟨w.heap.size, 2, none⟩ = some (.string SE)) := LH (fun W hW => box_keep ⟨g0, g1, g2⟩ hW hs1)
     have Hb0 := LH hb0
     clear hb1 hb0
     go_wp2_with fail
     refine (I1.out _).mono ?_
     rintro e w2 ⟨rfl, hb2⟩
     clear g0 g1 g2
     obtain ⟨g0, g1, g2⟩ := Hbox.out _ hb2
     have hs2 := hb2.size
     have HB2 := LH hb2
     clear hb2
     have hp1 : (if (false = true /\ u ≠ []) then [sg ++ u] else []) = ([] : List (List UInt8)) := by simp
     have HP := LH hp1
     clear hp1
     have ho4 : OwnS w1.heap.size w2 (.slice none 0 0) [] := ownV_nil _ _ _ _
     have Ho4 := LH ho4
     clear ho4
     have W4 := HB2
     go_wp2_with (at_builtin; refine wpl_appS rfl _ _ rfl w1.heap.size (.slice none 0 0) (.slice (some ⟨w2.heap.size, 0, none⟩) 1 1) ([] : List (List UInt8)) (([] : List (List UInt8)) ++ [sg ++ (D ++ 101 :: E)]) (sg ++ (D ++ 101 :: E)) rfl (ownV_keep' Ho4.out ((Below.refl _ _).alloc (Nat.le_refl _) _)) rfl (one_s _ _ _ HB3.out) (nnv_some _ _ _) (by simp) (by simp; omega) rfl ?_)
     intro v6 w6 ho6 hb6
     have hb7 := W4.out.trans (((Below.refl _ _).alloc hs2 (.cells #[.string B3] 9)).trans hb6)
     have hs6 := hb7.size
     clear g0 g1 g2
     obtain ⟨g0, g1, g2⟩ := Hbox.out _ hb7
     have Ho6 := LH ho6
     have HB7 := LH hb7
     clear hb6 hb7 ho6 W4 Ho4
     by_cases hone : 1 < SD.size
     ·go_wp2_with fail
      refine (PL.out _ (HT.out.keep (Hb0.out.trans (HB7.out.mono Hb0.out.size)))).mono ?_
      rintro e w8 ⟨rfl, hb8⟩
      have hb9 := HB7.out.trans (hb8.mono HB7.out.size)
      have hs8 := hb9.size
      clear g0 g1 g2
      obtain ⟨g0, g1, g2⟩ := Hbox.out _ hb9
      have Ho8 := LH (ownV_keep' Ho6.out hb8)
      have HB9 := LH hb9
      clear hb8 hb9 Ho6 HB7
      rcases HQP.out with ⟨p0, p1, p2⟩ | ⟨p0, p1, p2⟩
      ·have P0 := LH p0
       clear p0
       go_wp2
       go_ret
       refine ⟨_, rfl, ?_, Hb0.out.trans (HB9.out.mono Hb0.out.size)⟩
       have h := OwnV.vs Ho8.out
       rw [<- HR.out, HP.out, if_neg (fun hh => hh.2 P0.out), List.append_nil]
       exact h
      ·have P0 := LH p0
       clear p0
       have B0 : Hid (Below w1.heap.size w1 w8.drew) := LH HB9.out.drew
       have B1 : Hid (∀ o : Obj, Below w1.heap.size w1 (w8.alloc o).drew) := LH (fun o => (HB9.out.alloc hs8 o).drew)
       have B2 : Hid (∀ (o : Obj) (w5 : World), Below w1.heap.size (w8.alloc o).drew w5 -> Below w1.heap.size w1 w5) := LH (fun o w5 h => ((HB9.out.alloc hs8 o).drew).trans h)
       have HS : Hid (∀ W, Below w1.heap.size w1 W -> W.cell? ⟨w.heap.size, 1, none⟩ = some (.string SD)) := LH (fun W h => (Hbox.out W h).2.1)
       have hs9 : w1.heap.size <= (w8.alloc (.cells #[.string K5] 9)).drew.heap.size := by show _ <= (w8.alloc _).heap.size; simp; omega
       clear g0 g1 g2
       go_wp2
       go_region_held3 (fun W : World => W.cell? ⟨w.heap.size, 1, none⟩ = some (.string SD))
        (first
         | with_reducible exact HS.out _ B0.out
         | with_reducible exact HS.out _ (B1.out _)
         | with_reducible exact HS.out _ (B2.out _ _ hb11))
        ((refine stepl_str (by rfl) _ _ (by rfl) w1.heap.size v6 (.slice (some ⟨w8.heap.size, 0, none⟩) 1 1) (([] : List (List UInt8)) ++ [sg ++ (D ++ 101 :: E)]) (([] : List (List UInt8)) ++ [sg ++ (D ++ 101 :: E)] ++ [sg ++ (D.take 1 ++ 46 :: (D.drop 1 ++ 101 :: up))]) (sg ++ (D.take 1 ++ 46 :: (D.drop 1 ++ 101 :: up))) (by rfl) (ownV_keep' Ho8.out ((Below.refl _ _).alloc (Nat.le_refl _) _).drew) (by rfl) (one_s w8.drew _ _ HK5.out) (by simp) hs9 rfl ?_; intro v11 w11 ho11 hb11))
       all_goals
        have hb12 := B2.out _ _ hb11
        have Ho11 := LH ho11
        have HB12 := LH hb12
        clear ho11 hb11 hb12
        go_wp2
        go_ret
        refine ⟨_, rfl, ?_, Hb0.out.trans (HB12.out.mono Hb0.out.size)⟩
        have h := OwnV.vs Ho11.out
        rw [<- HR.out, HP.out, if_pos ⟨by rw [<- HSZ.out]; exact hone, P0.out⟩, <- List.append_assoc]
        exact h
     ·go_wp2
      go_ret
      refine ⟨_, rfl, ?_, Hb0.out.trans (HB7.out.mono Hb0.out.size)⟩
      have h := OwnV.vs Ho6.out
      rw [<- HR.out, HP.out, if_neg (fun hh => hone (by rw [HSZ.out]; exact hh.1)), List.append_nil]
      exact h
    | true =>
     rcases HQU.out with ⟨u0, u1, u2⟩ | ⟨u0, u1, u2⟩
     ·have hp1 : (if (true = true /\ u ≠ []) then [sg ++ u] else []) = ([] : List (List UInt8)) := by simp [u0]
      have HP := LH hp1
      clear hp1 u0
      go_enter Tryz.func106, Tryz.ntmps106
      go_wp2_with fail
      refine (R1.out _).mono ?_
      rintro e w1 ⟨rfl, hb1⟩
      obtain ⟨⟨g0, g1, g2⟩, -, hs1, hb0⟩ := keep3 hb1
      have Hbox : Hid (∀ W, Below w1.heap.size w1 W -> W.cell? ⟨w.heap.size, 0, none⟩ = some (.bool false) /\ W.cell? ⟨w.heap.size, 1, none⟩ = some (.string SD) /\ W.cell? ⟨w.heap.size, 2, none⟩ = some (.string SE)) := LH (fun W hW => box_keep ⟨g0, g1, g2⟩ hW hs1)
      have Hb0 := LH hb0
      clear hb1 hb0
      go_wp2_with fail
      refine (I1.out _).mono ?_
      rintro e w2 ⟨rfl, hb2⟩
      clear g0 g1 g2
      obtain ⟨g0, g1, g2⟩ := Hbox.out _ hb2
      have hs2 := hb2.size
      have HB2 := LH hb2
      clear hb2
      go_wp2_with fail
      refine (U1.out _).mono ?_
      rintro e w3 ⟨rfl, hb3⟩
      have hb4 := HB2.out.trans (hb3.mono HB2.out.size)
      clear g0 g1 g2 HB2 hb3
      obtain ⟨g0, g1, g2⟩ := Hbox.out _ hb4
      have hs3 := hb4.size
      have HB2 := LH hb4
      clear hb4
      have ho4 : OwnS w1.heap.size w3 (.slice none 0 0) [] := ownV_nil _ _ _ _
      have Ho4 := LH ho4
      clear ho4
      have W4 := HB2
      go_wp2_with (at_builtin; refine wpl_appS rfl _ _ rfl w1.heap.size (.slice none 0 0) (.slice (some ⟨w3.heap.size, 0, none⟩) 1 1) ([] : List (List UInt8)) (([] : List (List UInt8)) ++ [sg ++ (D ++ 101 :: E)]) (sg ++ (D ++ 101 :: E)) rfl (ownV_keep' Ho4.out ((Below.refl _ _).alloc (Nat.le_refl _) _)) rfl (one_s _ _ _ HB3.out) (nnv_some _ _ _) (by simp) (by simp; omega) rfl ?_)
      intro v6 w6 ho6 hb6
      have hb7 := W4.out.trans (((Below.refl _ _).alloc hs3 (.cells #[.string B3] 9)).trans hb6)
      have hs6 := hb7.size
      clear g0 g1 g2
      obtain ⟨g0, g1, g2⟩ := Hbox.out _ hb7
      have Ho6 := LH ho6
      have HB7 := LH hb7
      clear hb6 hb7 ho6 W4 Ho4
      by_cases hone : 1 < SD.size
      ·go_wp2_with fail
       refine (PL.out _ (HT.out.keep (Hb0.out.trans (HB7.out.mono Hb0.out.size)))).mono ?_
       rintro e w8 ⟨rfl, hb8⟩
       have hb9 := HB7.out.trans (hb8.mono HB7.out.size)
       have hs8 := hb9.size
       clear g0 g1 g2
       obtain ⟨g0, g1, g2⟩ := Hbox.out _ hb9
       have Ho8 := LH (ownV_keep' Ho6.out hb8)
       have HB9 := LH hb9
       clear hb8 hb9 Ho6 HB7
       rcases HQP.out with ⟨p0, p1, p2⟩ | ⟨p0, p1, p2⟩
       ·have P0 := LH p0
        clear p0
        go_wp2
        go_ret
        refine ⟨_, rfl, ?_, Hb0.out.trans (HB9.out.mono Hb0.out.size)⟩
        have h := OwnV.vs Ho8.out
        rw [<- HR.out, HP.out, if_neg (fun hh => hh.2 P0.out), List.append_nil]
        exact h
       ·have P0 := LH p0
        clear p0
        have B0 : Hid (Below w1.heap.size w1 w8.drew) := LH HB9.out.drew
        have B1 : Hid (∀ o : Obj, Below w1.heap.size w1 (w8.alloc o).drew) := LH (fun o => (HB9.out.alloc hs8 o).drew)
        have B2 : Hid (∀ (o : Obj) (w5 : World), Below w1.heap.size (w8.alloc o).drew w5 -> Below w1.heap.size w1 w5) := LH (fun o w5 h => ((HB9.out.alloc hs8 o).drew).trans h)
        have HS : Hid (∀ W, Below w1.heap.size w1 W -> W.cell? ⟨w.heap.size, 1, none⟩ = some (.string SD)) := LH (fun W h => (Hbox.out W h).2.1)
        have hs9 : w1.heap.size <= (w8.alloc (.cells #[.string K5] 9)).drew.heap.size := by show _ <= (w8.alloc _).heap.size; simp; omega
        clear g0 g1 g2
        go_wp2
        go_region_held3 (fun W : World => W.cell? ⟨w.heap.size, 1, none⟩ = some (.string SD))
         (first
          | with_reducible exact HS.out _ B0.out
          | with_reducible exact HS.out _ (B1.out _)
          | with_reducible exact HS.out _ (B2.out _ _ hb11))
         ((refine stepl_str (by rfl) _ _ (by rfl) w1.heap.size v6 (.slice (some ⟨w8.heap.size, 0, none⟩) 1 1) (([] : List (List UInt8)) ++ [sg ++ (D ++ 101 :: E)]) (([] : List (List UInt8)) ++ [sg ++ (D ++ 101 :: E)] ++ [sg ++ (D.take 1 ++ 46 :: (D.drop 1 ++ 101 :: up))]) (sg ++ (D.take 1 ++ 46 :: (D.drop 1 ++ 101 :: up))) (by rfl) (ownV_keep' Ho8.out ((Below.refl _ _).alloc (Nat.le_refl _) _).drew) (by rfl) (one_s w8.drew _ _ HK5.out) (by simp) hs9 rfl ?_; intro v11 w11 ho11 hb11))
        all_goals
         have hb12 := B2.out _ _ hb11
         have Ho11 := LH ho11
         have HB12 := LH hb12
         clear ho11 hb11 hb12
         go_wp2
         go_ret
         refine ⟨_, rfl, ?_, Hb0.out.trans (HB12.out.mono Hb0.out.size)⟩
         have h := OwnV.vs Ho11.out
         rw [<- HR.out, HP.out, if_pos ⟨by rw [<- HSZ.out]; exact hone, P0.out⟩, <- List.append_assoc]
         exact h
      ·go_wp2
       go_ret
       refine ⟨_, rfl, ?_, Hb0.out.trans (HB7.out.mono Hb0.out.size)⟩
       have h := OwnV.vs Ho6.out
       rw [<- HR.out, HP.out, if_neg (fun hh => hone (by rw [HSZ.out]; exact hh.1)), List.append_nil]
       exact h
     ·have hp1 : (if (true = true /\ u ≠ []) then [sg ++ u] else []) = [sg ++ u] := by simp [u0]
      have HP := LH hp1
      clear hp1 u0
      go_enter Tryz.func106, Tryz.ntmps106
      go_wp2_with fail
      refine (R1.out _).mono ?_
      rintro e w1 ⟨rfl, hb1⟩
      obtain ⟨⟨g0, g1, g2⟩, -, hs1, hb0⟩ := keep3 hb1
      have Hbox : Hid (∀ W, Below w1.heap.size w1 W -> W.cell? ⟨w.heap.size, 0, none⟩ = some (.bool false) /\ W.cell? ⟨w.heap.size, 1, none⟩ = some (.string SD) /\ W.cell? ⟨w.heap.size, 2, none⟩ = some (.string SE)) := LH (fun W hW => box_keep ⟨g0, g1, g2⟩ hW hs1)
      have Hb0 := LH hb0
      clear hb1 hb0
      go_wp2_with fail
      refine (I1.out _).mono ?_
      rintro e w2 ⟨rfl, hb2⟩
      clear g0 g1 g2
      obtain ⟨g0, g1, g2⟩ := Hbox.out _ hb2
      have hs2 := hb2.size
      have HB2 := LH hb2
      clear hb2
      go_wp2_with fail
      refine (U1.out _).mono ?_
      rintro e w3 ⟨rfl, hb3⟩
      have hb4 := HB2.out.trans (hb3.mono HB2.out.size)
      clear g0 g1 g2 HB2 hb3
      obtain ⟨g0, g1, g2⟩ := Hbox.out _ hb4
      have hs3 := hb4.size
      have HB2 := LH hb4
      clear hb4
      go_wp2_with (at_builtin; refine wpl_appS rfl _ _ rfl w1.heap.size (.slice none 0 0) (.slice (some ⟨w3.heap.size, 0, none⟩) 1 1) [] [sg ++ u] (sg ++ u) rfl (ownV_nil _ _ _ _) rfl (one_s _ _ _ HC0.out) (nnv_some _ _ _) (by simp) (by simp; omega) rfl ?_)
      intro v4 w4 ho4 hb4
      have hb5 := HB2.out.trans (((Below.refl _ _).alloc hs3 (.cells #[.string C0] 9)).trans hb4)
      have hs4 := hb5.size
      have W4 := LH hb5
      have Ho4 := LH ho4
      obtain ⟨g0, g1, g2⟩ := Hbox.out _ hb5
      clear hb4 hb5 ho4 HB2
      go_wp2_with (at_builtin; refine wpl_appS rfl _ _ rfl w1.heap.size v4 (.slice (some ⟨w4.heap.size, 0, none⟩) 1 1) [sg ++ u] ([sg ++ u] ++ [sg ++ (D ++ 101 :: E)]) (sg ++ (D ++ 101 :: E)) rfl (ownV_keep' Ho4.out ((Below.refl _ _).alloc (Nat.le_refl _) _)) rfl (one_s _ _ _ HB3.out) (nnv_some _ _ _) (by simp) (by simp; omega) rfl ?_)
      intro v6 w6 ho6 hb6
      have hb7 := W4.out.trans (((Below.refl _ _).alloc hs4 (.cells #[.string B3] 9)).trans hb6)
      have hs6 := hb7.size
      clear g0 g1 g2
      obtain ⟨g0, g1, g2⟩ := Hbox.out _ hb7
      have Ho6 := LH ho6
      have HB7 := LH hb7
      clear hb6 hb7 ho6 W4 Ho4
      by_cases hone : 1 < SD.size
      ·go_wp2_with fail
       refine (PL.out _ (HT.out.keep (Hb0.out.trans (HB7.out.mono Hb0.out.size)))).mono ?_
       rintro e w8 ⟨rfl, hb8⟩
       have hb9 := HB7.out.trans (hb8.mono HB7.out.size)
       have hs8 := hb9.size
       clear g0 g1 g2
       obtain ⟨g0, g1, g2⟩ := Hbox.out _ hb9
       have Ho8 := LH (ownV_keep' Ho6.out hb8)
       have HB9 := LH hb9
       clear hb8 hb9 Ho6 HB7
       rcases HQP.out with ⟨p0, p1, p2⟩ | ⟨p0, p1, p2⟩
       ·have P0 := LH p0
        clear p0
        go_wp2
        go_ret
        refine ⟨_, rfl, ?_, Hb0.out.trans (HB9.out.mono Hb0.out.size)⟩
        have h := OwnV.vs Ho8.out
        rw [<- HR.out, HP.out, if_neg (fun hh => hh.2 P0.out), List.append_nil]
        exact h
       ·have P0 := LH p0
        clear p0
        have B0 : Hid (Below w1.heap.size w1 w8.drew) := LH HB9.out.drew
        have B1 : Hid (∀ o : Obj, Below w1.heap.size w1 (w8.alloc o).drew) := LH (fun o => (HB9.out.alloc hs8 o).drew)
        have B2 : Hid (∀ (o : Obj) (w5 : World), Below w1.heap.size (w8.alloc o).drew w5 -> Below w1.heap.size w1 w5) := LH (fun o w5 h => ((HB9.out.alloc hs8 o).drew).trans h)
        have HS : Hid (∀ W, Below w1.heap.size w1 W -> W.cell? ⟨w.heap.size, 1, none⟩ = some (.string SD)) := LH (fun W h => (Hbox.out W h).2.1)
        have hs9 : w1.heap.size <= (w8.alloc (.cells #[.string K5] 9)).drew.heap.size := by show _ <= (w8.alloc _).heap.size; simp; omega
        clear g0 g1 g2
        go_wp2
        go_region_held3 (fun W : World => W.cell? ⟨w.heap.size, 1, none⟩ = some (.string SD))
         (first
          | with_reducible exact HS.out _ B0.out
          | with_reducible exact HS.out _ (B1.out _)
          | with_reducible exact HS.out _ (B2.out _ _ hb11))
         ((refine stepl_str (by rfl) _ _ (by rfl) w1.heap.size v6 (.slice (some ⟨w8.heap.size, 0, none⟩) 1 1) ([sg ++ u] ++ [sg ++ (D ++ 101 :: E)]) ([sg ++ u] ++ [sg ++ (D ++ 101 :: E)] ++ [sg ++ (D.take 1 ++ 46 :: (D.drop 1 ++ 101 :: up))]) (sg ++ (D.take 1 ++ 46 :: (D.drop 1 ++ 101 :: up))) (by rfl) (ownV_keep' Ho8.out ((Below.refl _ _).alloc (Nat.le_refl _) _).drew) (by rfl) (one_s w8.drew _ _ HK5.out) (by simp) hs9 rfl ?_; intro v11 w11 ho11 hb11))
        all_goals
         have hb12 := B2.out _ _ hb11
         have Ho11 := LH ho11
         have HB12 := LH hb12
         clear ho11 hb11 hb12
         go_wp2
         go_ret
         refine ⟨_, rfl, ?_, Hb0.out.trans (HB12.out.mono Hb0.out.size)⟩
         have h := OwnV.vs Ho11.out
         rw [<- HR.out, HP.out, if_pos ⟨by rw [<- HSZ.out]; exact hone, P0.out⟩, <- List.append_assoc]
         exact h
      ·go_wp2
       go_ret
       refine ⟨_, rfl, ?_, Hb0.out.trans (HB7.out.mono Hb0.out.size)⟩
       have h := OwnV.vs Ho6.out
       rw [<- HR.out, HP.out, if_neg (fun hh => hone (by rw [HSZ.out]; exact hh.1)), List.append_nil]
       exact h
   ·cases okx with
    | false =>
     go_enter Tryz.func106, Tryz.ntmps106
     go_wp2_with fail
     refine (R1.out _).mono ?_
     rintro e w1 ⟨rfl, hb1⟩
     obtain ⟨⟨g0, g1, g2⟩, -, hs1, hb0⟩ := keep3 hb1
     have Hbox : Hid (∀ W, Below w1.heap.size w1 W -> W.cell? ⟨w.heap.size, 0, none⟩ = some (.bool true) /\ W.cell? ⟨w.heap.size, 1, none⟩ = some (.string SD) /\ W.cell? ⟨w.heap.size, 2, none⟩ = some (.string SE)) := LH (fun W hW => box_keep ⟨g0, g1, g2⟩ hW hs1)
     have Hb0 := LH hb0
     clear hb1 hb0
     go_wp2_with fail
     refine (I1.out _).mono ?_
     rintro e w2 ⟨rfl, hb2⟩
     clear g0 g1 g2
     obtain ⟨g0, g1, g2⟩ := Hbox.out _ hb2
     have hs2 := hb2.size
     have HB2 := LH hb2
     clear hb2
     have hp1 : (if (false = true /\ u ≠ []) then [sg ++ u] else []) = ([] : List (List UInt8)) := by simp
     have HP := LH hp1
     clear hp1
     have ho4 : OwnS w1.heap.size w2 (.slice none 0 0) [] := ownV_nil _ _ _ _
     have Ho4 := LH ho4
     clear ho4
     have W4 := HB2
     go_wp2_with (at_builtin; refine wpl_appS rfl _ _ rfl w1.heap.size (.slice none 0 0) (.slice (some ⟨w2.heap.size, 0, none⟩) 1 1) ([] : List (List UInt8)) (([] : List (List UInt8)) ++ [sg ++ (D ++ 101 :: E)]) (sg ++ (D ++ 101 :: E)) rfl (ownV_keep' Ho4.out ((Below.refl _ _).alloc (Nat.le_refl _) _)) rfl (one_s _ _ _ HB3.out) (nnv_some _ _ _) (by simp) (by simp; omega) rfl ?_)
     intro v6 w6 ho6 hb6
     have hb7 := W4.out.trans (((Below.refl _ _).alloc hs2 (.cells #[.string B3] 9)).trans hb6)
     have hs6 := hb7.size
     clear g0 g1 g2
     obtain ⟨g0, g1, g2⟩ := Hbox.out _ hb7
     have Ho6 := LH ho6
     have HB7 := LH hb7
     clear hb6 hb7 ho6 W4 Ho4
     by_cases hone : 1 < SD.size
     ·go_wp2_with fail
      refine (PL.out _ (HT.out.keep (Hb0.out.trans (HB7.out.mono Hb0.out.size)))).mono ?_
      rintro e w8 ⟨rfl, hb8⟩
      have hb9 := HB7.out.trans (hb8.mono HB7.out.size)
      have hs8 := hb9.size
      clear g0 g1 g2
      obtain ⟨g0, g1, g2⟩ := Hbox.out _ hb9
      have Ho8 := LH (ownV_keep' Ho6.out hb8)
      have HB9 := LH hb9
      clear hb8 hb9 Ho6 HB7
      rcases HQP.out with ⟨p0, p1, p2⟩ | ⟨p0, p1, p2⟩
      ·have P0 := LH p0
       clear p0
       go_wp2
       go_ret
       refine ⟨_, rfl, ?_, Hb0.out.trans (HB9.out.mono Hb0.out.size)⟩
       have h := OwnV.vs Ho8.out
       rw [<- HR.out, HP.out, if_neg (fun hh => hh.2 P0.out), List.append_nil]
       exact h
      ·have P0 := LH p0
       clear p0
       have B0 : Hid (Below w1.heap.size w1 w8.drew) := LH HB9.out.drew
       have B1 : Hid (∀ o : Obj, Below w1.heap.size w1 (w8.alloc o).drew) := LH (fun o => (HB9.out.alloc hs8 o).drew)
       have B2 : Hid (∀ (o : Obj) (w5 : World), Below w1.heap.size (w8.alloc o).drew w5 -> Below w1.heap.size w1 w5) := LH (fun o w5 h => ((HB9.out.alloc hs8 o).drew).trans h)
       have HS : Hid (∀ W, Below w1.heap.size w1 W -> W.cell? ⟨w.heap.size, 1, none⟩ = some (.string SD)) := LH (fun W h => (Hbox.out W h).2.1)
       have hs9 : w1.heap.size <= (w8.alloc (.cells #[.string K5] 9)).drew.heap.size := by show _ <= (w8.alloc _).heap.size; simp; omega
       clear g0 g1 g2
       go_wp2
       go_region_held3 (fun W : World => W.cell? ⟨w.heap.size, 1, none⟩ = some (.string SD))
        (first
         | with_reducible exact HS.out _ B0.out
         | with_reducible exact HS.out _ (B1.out _)
         | with_reducible exact HS.out _ (B2.out _ _ hb11))
        ((refine stepl_str (by rfl) _ _ (by rfl) w1.heap.size v6 (.slice (some ⟨w8.heap.size, 0, none⟩) 1 1) (([] : List (List UInt8)) ++ [sg ++ (D ++ 101 :: E)]) (([] : List (List UInt8)) ++ [sg ++ (D ++ 101 :: E)] ++ [sg ++ (D.take 1 ++ 46 :: (D.drop 1 ++ 101 :: up))]) (sg ++ (D.take 1 ++ 46 :: (D.drop 1 ++ 101 :: up))) (by rfl) (ownV_keep' Ho8.out ((Below.refl _ _).alloc (Nat.le_refl _) _).drew) (by rfl) (one_s w8.drew _ _ HK5.out) (by simp) hs9 rfl ?_; intro v11 w11 ho11 hb11))
       all_goals
        have hb12 := B2.out _ _ hb11
        have Ho11 := LH ho11
        have HB12 := LH hb12
        clear ho11 hb11 hb12
        go_wp2
        go_ret
        refine ⟨_, rfl, ?_, Hb0.out.trans (HB12.out.mono Hb0.out.size)⟩
        have h := OwnV.vs Ho11.out
        rw [<- HR.out, HP.out, if_pos ⟨by rw [<- HSZ.out]; exact hone, P0.out⟩, <- List.append_assoc]
        exact h
     ·go_wp2
      go_ret
      refine ⟨_, rfl, ?_, Hb0.out.trans (HB7.out.mono Hb0.out.size)⟩
      have h := OwnV.vs Ho6.out
      rw [<- HR.out, HP.out, if_neg (fun hh => hone (by rw [HSZ.out]; exact hh.1)), List.append_nil]
      exact h
    | true =>
     rcases HQU.out with ⟨u0, u1, u2⟩ | ⟨u0, u1, u2⟩
     ·have hp1 : (if (true = true /\ u ≠ []) then [sg ++ u] else []) = ([] : List (List UInt8)) := by simp [u0]
      have HP := LH hp1
      clear hp1 u0
      go_enter Tryz.func106, Tryz.ntmps106
      go_wp2_with fail
      refine (R1.out _).mono ?_
      rintro e w1 ⟨rfl, hb1⟩
      obtain ⟨⟨g0, g1, g2⟩, -, hs1, hb0⟩ := keep3 hb1
      have Hbox : Hid (∀ W, Below w1.heap.size w1 W -> W.cell? ⟨w.heap.size, 0, none⟩ = some (.bool true) /\ W.cell? ⟨w.heap.size, 1, none⟩ = some (.string SD) /\ W.cell? ⟨w.heap.size, 2, none⟩ = some (.string SE)) := LH (fun W hW => box_keep ⟨g0, g1, g2⟩ hW hs1)
      have Hb0 := LH hb0
      clear hb1 hb0
      go_wp2_with fail
      refine (I1.out _).mono ?_
      rintro e w2 ⟨rfl, hb2⟩
      clear g0 g1 g2
      obtain ⟨g0, g1, g2⟩ := Hbox.out _ hb2
      have hs2 := hb2.size
      have HB2 := LH hb2
      clear hb2
      go_wp2_with fail
      refine (U1.out _).mono ?_
      rintro e w3 ⟨rfl, hb3⟩
      have hb4 := HB2.out.trans (hb3.mono HB2.out.size)
      clear g0 g1 g2 HB2 hb3
      obtain ⟨g0, g1, g2⟩ := Hbox.out _ hb4
      have hs3 := hb4.size
      have HB2 := LH hb4
      clear hb4
      have ho4 : OwnS w1.heap.size w3 (.slice none 0 0) [] := ownV_nil _ _ _ _
      have Ho4 := LH ho4
      clear ho4
      have W4 := HB2
      go_wp2_with (at_builtin; refine wpl_appS rfl _ _ rfl w1.heap.size (.slice none 0 0) (.slice (some ⟨w3.heap.size, 0, none⟩) 1 1) ([] : List (List UInt8)) (([] : List (List UInt8)) ++ [sg ++ (D ++ 101 :: E)]) (sg ++ (D ++ 101 :: E)) rfl (ownV_keep' Ho4.out ((Below.refl _ _).alloc (Nat.le_refl _) _)) rfl (one_s _ _ _ HB3.out) (nnv_some _ _ _) (by simp) (by simp; omega) rfl ?_)
      intro v6 w6 ho6 hb6
      have hb7 := W4.out.trans (((Below.refl _ _).alloc hs3 (.cells #[.string B3] 9)).trans hb6)
      have hs6 := hb7.size
      clear g0 g1 g2
      obtain ⟨g0, g1, g2⟩ := Hbox.out _ hb7
      have Ho6 := LH ho6
      have HB7 := LH hb7
      clear hb6 hb7 ho6 W4 Ho4
      by_cases hone : 1 < SD.size
      ·go_wp2_with fail
       refine (PL.out _ (HT.out.keep (Hb0.out.trans (HB7.out.mono Hb0.out.size)))).mono ?_
       rintro e w8 ⟨rfl, hb8⟩
       have hb9 := HB7.out.trans (hb8.mono HB7.out.size)
       have hs8 := hb9.size
       clear g0 g1 g2
       obtain ⟨g0, g1, g2⟩ := Hbox.out _ hb9
       have Ho8 := LH (ownV_keep' Ho6.out hb8)
       have HB9 := LH hb9
       clear hb8 hb9 Ho6 HB7
       rcases HQP.out with ⟨p0, p1, p2⟩ | ⟨p0, p1, p2⟩
       ·have P0 := LH p0
        clear p0
        go_wp2
        go_ret
        refine ⟨_, rfl, ?_, Hb0.out.trans (HB9.out.mono Hb0.out.size)⟩
        have h := OwnV.vs Ho8.out
        rw [<- HR.out, HP.out, if_neg (fun hh => hh.2 P0.out), List.append_nil]
        exact h
       ·have P0 := LH p0
        clear p0
        have B0 : Hid (Below w1.heap.size w1 w8.drew) := LH HB9.out.drew
        have B1 : Hid (∀ o : Obj, Below w1.heap.size w1 (w8.alloc o).drew) := LH (fun o => (HB9.out.alloc hs8 o).drew)
        have B2 : Hid (∀ (o : Obj) (w5 : World), Below w1.heap.size (w8.alloc o).drew w5 -> Below w1.heap.size w1 w5) := LH (fun o w5 h => ((HB9.out.alloc hs8 o).drew).trans h)
        have HS : Hid (∀ W, Below w1.heap.size w1 W -> W.cell? ⟨w.heap.size, 1, none⟩ = some (.string SD)) := LH (fun W h => (Hbox.out W h).2.1)
        have hs9 : w1.heap.size <= (w8.alloc (.cells #[.string K5] 9)).drew.heap.size := by show _ <= (w8.alloc _).heap.size; simp; omega
        clear g0 g1 g2
        go_wp2
        go_region_held3 (fun W : World => W.cell? ⟨w.heap.size, 1, none⟩ = some (.string SD))
         (first
          | with_reducible exact HS.out _ B0.out
          | with_reducible exact HS.out _ (B1.out _)
          | with_reducible exact HS.out _ (B2.out _ _ hb11))
         ((refine stepl_str (by rfl) _ _ (by rfl) w1.heap.size v6 (.slice (some ⟨w8.heap.size, 0, none⟩) 1 1) (([] : List (List UInt8)) ++ [sg ++ (D ++ 101 :: E)]) (([] : List (List UInt8)) ++ [sg ++ (D ++ 101 :: E)] ++ [sg ++ (D.take 1 ++ 46 :: (D.drop 1 ++ 101 :: up))]) (sg ++ (D.take 1 ++ 46 :: (D.drop 1 ++ 101 :: up))) (by rfl) (ownV_keep' Ho8.out ((Below.refl _ _).alloc (Nat.le_refl _) _).drew) (by rfl) (one_s w8.drew _ _ HK5.out) (by simp) hs9 rfl ?_; intro v11 w11 ho11 hb11))
        all_goals
         have hb12 := B2.out _ _ hb11
         have Ho11 := LH ho11
         have HB12 := LH hb12
         clear ho11 hb11 hb12
         go_wp2
         go_ret
         refine ⟨_, rfl, ?_, Hb0.out.trans (HB12.out.mono Hb0.out.size)⟩
         have h := OwnV.vs Ho11.out
         rw [<- HR.out, HP.out, if_pos ⟨by rw [<- HSZ.out]; exact hone, P0.out⟩, <- List.append_assoc]
         exact h
      ·go_wp2
       go_ret
       refine ⟨_, rfl, ?_, Hb0.out.trans (HB7.out.mono Hb0.out.size)⟩
       have h := OwnV.vs Ho6.out
       rw [<- HR.out, HP.out, if_neg (fun hh => hone (by rw [HSZ.out]; exact hh.1)), List.append_nil]
       exact h
     ·have hp1 : (if (true = true /\ u ≠ []) then [sg ++ u] else []) = [sg ++ u] := by simp [u0]
      have HP := LH hp1
      clear hp1 u0
      go_enter Tryz.func106, Tryz.ntmps106
      go_wp2_with fail
      refine (R1.out _).mono ?_
      rintro e w1 ⟨rfl, hb1⟩
      obtain ⟨⟨g0, g1, g2⟩, -, hs1, hb0⟩ := keep3 hb1
      have Hbox : Hid (∀ W, Below w1.heap.size w1 W -> W.cell? ⟨w.heap.size, 0, none⟩ = some (.bool true) /\ W.cell? ⟨w.heap.size, 1, none⟩ = some (.string SD) /\ W.cell? ⟨w.heap.size, 2, none⟩ = some (.string SE)) := LH (fun W hW => box_keep ⟨g0, g1, g2⟩ hW hs1)
      have Hb0 := LH hb0
      clear hb1 hb0
      go_wp2_with fail
      refine (I1.out _).mono ?_
      rintro e w2 ⟨rfl, hb2⟩
      clear g0 g1 g2
      obtain ⟨g0, g1, g2⟩ := Hbox.out _ hb2
      have hs2 := hb2.size
      have HB2 := LH hb2
      clear hb2
      go_wp2_with fail
      refine (U1.out _).mono ?_
      rintro e w3 ⟨rfl, hb3⟩
      have hb4 := HB2.out.trans (hb3.mono HB2.out.size)
      clear g0 g1 g2 HB2 hb3
      obtain ⟨g0, g1, g2⟩ := Hbox.out _ hb4
      have hs3 := hb4.size
      have HB2 := LH hb4
      clear hb4
      go_wp2_with (at_builtin; refine wpl_appS rfl _ _ rfl w1.heap.size (.slice none 0 0) (.slice (some ⟨w3.heap.size, 0, none⟩) 1 1) [] [sg ++ u] (sg ++ u) rfl (ownV_nil _ _ _ _) rfl (one_s _ _ _ HC0.out) (nnv_some _ _ _) (by simp) (by simp; omega) rfl ?_)
      intro v4 w4 ho4 hb4
      have hb5 := HB2.out.trans (((Below.refl _ _).alloc hs3 (.cells #[.string C0] 9)).trans hb4)
      have hs4 := hb5.size
      have W4 := LH hb5
      have Ho4 := LH ho4
      obtain ⟨g0, g1, g2⟩ := Hbox.out _ hb5
      clear hb4 hb5 ho4 HB2
      go_wp2_with (at_builtin; refine wpl_appS rfl _ _ rfl w1.heap.size v4 (.slice (some ⟨w4.heap.size, 0, none⟩) 1 1) [sg ++ u] ([sg ++ u] ++ [sg ++ (D ++ 101 :: E)]) (sg ++ (D ++ 101 :: E)) rfl (ownV_keep' Ho4.out ((Below.refl _ _).alloc (Nat.le_refl _) _)) rfl (one_s _ _ _ HB3.out) (nnv_some _ _ _) (by simp) (by simp; omega) rfl ?_)
      intro v6 w6 ho6 hb6
      have hb7 := W4.out.trans (((Below.refl _ _).alloc hs4 (.cells #[.string B3] 9)).trans hb6)
      have hs6 := hb7.size
      clear g0 g1 g2
      obtain ⟨g0, g1, g2⟩ := Hbox.out _ hb7
      have Ho6 := LH ho6
      have HB7 := LH hb7
      clear hb6 hb7 ho6 W4 Ho4
      by_cases hone : 1 < SD.size
      ·go_wp2_with fail
       refine (PL.out _ (HT.out.keep (Hb0.out.trans (HB7.out.mono Hb0.out.size)))).mono ?_
       rintro e w8 ⟨rfl, hb8⟩
       have hb9 := HB7.out.trans (hb8.mono HB7.out.size)
       have hs8 := hb9.size
       clear g0 g1 g2
       obtain ⟨g0, g1, g2⟩ := Hbox.out _ hb9
       have Ho8 := LH (ownV_keep' Ho6.out hb8)
       have HB9 := LH hb9
       clear hb8 hb9 Ho6 HB7
       rcases HQP.out with ⟨p0, p1, p2⟩ | ⟨p0, p1, p2⟩
       ·have P0 := LH p0
        clear p0
        go_wp2
        go_ret
        refine ⟨_, rfl, ?_, Hb0.out.trans (HB9.out.mono Hb0.out.size)⟩
        have h := OwnV.vs Ho8.out
        rw [<- HR.out, HP.out, if_neg (fun hh => hh.2 P0.out), List.append_nil]
        exact h
       ·have P0 := LH p0
        clear p0
        have B0 : Hid (Below w1.heap.size w1 w8.drew) := LH HB9.out.drew
        have B1 : Hid (∀ o : Obj, Below w1.heap.size w1 (w8.alloc o).drew) := LH (fun o => (HB9.out.alloc hs8 o).drew)
        have B2 : Hid (∀ (o : Obj) (w5 : World), Below w1.heap.size (w8.alloc o).drew w5 -> Below w1.heap.size w1 w5) := LH (fun o w5 h => ((HB9.out.alloc hs8 o).drew).trans h)
        have HS : Hid (∀ W, Below w1.heap.size w1 W -> W.cell? ⟨w.heap.size, 1, none⟩ = some (.string SD)) := LH (fun W h => (Hbox.out W h).2.1)
        have hs9 : w1.heap.size <= (w8.alloc (.cells #[.string K5] 9)).drew.heap.size := by show _ <= (w8.alloc _).heap.size; simp; omega
        clear g0 g1 g2
        go_wp2
        go_region_held3 (fun W : World => W.cell? ⟨w.heap.size, 1, none⟩ = some (.string SD))
         (first
          | with_reducible exact HS.out _ B0.out
          | with_reducible exact HS.out _ (B1.out _)
          | with_reducible exact HS.out _ (B2.out _ _ hb11))
         ((refine stepl_str (by rfl) _ _ (by rfl) w1.heap.size v6 (.slice (some ⟨w8.heap.size, 0, none⟩) 1 1) ([sg ++ u] ++ [sg ++ (D ++ 101 :: E)]) ([sg ++ u] ++ [sg ++ (D ++ 101 :: E)] ++ [sg ++ (D.take 1 ++ 46 :: (D.drop 1 ++ 101 :: up))]) (sg ++ (D.take 1 ++ 46 :: (D.drop 1 ++ 101 :: up))) (by rfl) (ownV_keep' Ho8.out ((Below.refl _ _).alloc (Nat.le_refl _) _).drew) (by rfl) (one_s w8.drew _ _ HK5.out) (by simp) hs9 rfl ?_; intro v11 w11 ho11 hb11))
        all_goals
         have hb12 := B2.out _ _ hb11
         have Ho11 := LH ho11
         have HB12 := LH hb12
         clear ho11 hb11 hb12
         go_wp2
         go_ret
         refine ⟨_, rfl, ?_, Hb0.out.trans (HB12.out.mono Hb0.out.size)⟩
         have h := OwnV.vs Ho11.out
         rw [<- HR.out, HP.out, if_pos ⟨by rw [<- HSZ.out]; exact hone, P0.out⟩, <- List.append_assoc]
         exact h
      ·go_wp2
       go_ret
       refine ⟨_, rfl, ?_, Hb0.out.trans (HB7.out.mono Hb0.out.size)⟩
       have h := OwnV.vs Ho6.out
       rw [<- HR.out, HP.out, if_neg (fun hh => hone (by rw [HSZ.out]; exact hh.1)), List.append_nil]
       exact h
end Go.Proofs.YtbfnlgmhfhaglaaGreatDoor
