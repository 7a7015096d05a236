import Derived.Test.YtimjbjppmhdjnaaGreatDoorWTok
import Derived.Test.YtimjbjppmhdjnaaGreatDoorMgM
set_option maxHeartbeats 8000000
set_option maxRecDepth 100000
namespace Go.Proofs.YtimjbjppmhdjnaaGreatDoor
open Go.RowKit
set_option linter.unusedVariables false
set_option linter.unusedSimpArgs false
def readsG (s : List UInt8) (l : List GT) : Bool := decide ((M.tksC (M.rn (s ++ M.tailS (l.map Prod.fst)) 0)).map (fun x => ((x.1, z4) : M.CT × C4)) = l.map keyG ++ (M.tailT (l.map Prod.fst)).map (fun t => ((t, z4) : M.CT × C4)))
theorem wpl_tokG {w : World} {ops : Array Oper} {rest : List Oper} {o : Oper} {a : Act} {Q : Exit -> Act -> World -> Prop} (hgd : o.guard = none) (s x : Operand)
  (ho : o.op = .call { callee := .builtin .append, args := #[s, x], argTypes := #[24, 24] })
  (B : Nat) (v u : Value) (l k t : List GT) (hs : a.eval s = v) (hown : OwnG B w v l) (hx : a.eval x = u) (hu : Gs w u k) (hnn : NNv u)
  (hlen : l.length + k.length <= 1000000) (hB : B <= w.heap.size) (ht : l ++ k = t)
  (h : ∀ v' w', OwnG B w' v' t -> Below B w w' -> wpList Tryz.prog ops Q rest (a.put o.dst v') w') : wpList Tryz.prog ops Q (o :: rest) a w :=
 wpl_appendV hgd s x ho Tryz.underlying24 infoC rfl (by decide) B v u (gls l) (gls k) (gls t) hs hown hx hu hnn (gls_size _) (gls_one _) (by rw [gls_len, gls_len]; omega) (by decide) hB (by rw [<- ht, gls_append]) h
theorem one_tokG (w : World) (t : M.CT) (z : Int) : Gs (w.alloc (.cells (ctv t z) 33)) (.slice (some ⟨w.heap.size, 0, none⟩) 1 1) [(t, z4, z)] := by
 have := one_tokC w t z
 rw [tvs_gls] at this
 exact this
theorem one_tokG' (w : World) (g : GT) : Gs (w.alloc (.cells (gtv g) 33)) (.slice (some ⟨w.heap.size, 0, none⟩) 1 1) [g] :=
 vs_cells 13 33 w (gls [g]) _ 1 (by simp [gls, gl]) (gls_size _) rfl (by simp [gls])
theorem reads_any (s : List UInt8) (v : Value) (l : List GT) (r : Bool) (w : World) (hT : Tabs w) (hv : Gs w v l) (hnn : NNv v) (hs : s.length <= 39000) (hl : l.length <= 1000) (hx : ∀ g ∈ l, g.1.text.length <= 4000000) (hr : readsG s l = r) :
  Calls Tryz.prog 43 #[.string (bytes s), v] w fun e w' => e = .returned (.bool r) /\ Below w.heap.size w w' := by
 have C1 := Lib.hid (clonet_any v l w hv hnn (by omega))
 obtain ⟨n, hn⟩ : ∃ n, l.length = n := ⟨_, rfl⟩
 have HN := Lib.hid hn
 obtain ⟨a, cap, rfl, x1, x2, x3⟩ := gs_cells hv hn
 have HX := Lib.hid x3
 have HT := Lib.hid hT
 rw [hn] at hl
 unfold readsG at hr
 clear hv hnn hn x3 hT x1 x2
 by_cases hn0 : n = 0
 ·subst hn0
  obtain rfl : l = [] := List.length_eq_zero_iff.1 HN.out
  have hr2 : decide ((M.tksC (M.rn s 0)).map (fun x => ((x.1, z4) : M.CT × C4)) = []) = r := by
   rw [<- hr]; simp [M.tailS, M.tailT]
  have HR := Lib.hid hr2
  clear hr hr2 HX hx hl
  go_enter Tryz.func43, Tryz.ntmps43
  go_wp2_with fail
  refine C1.out.mono ?_
  rintro e w1 ⟨u, rfl, ho, hb1⟩
  have HB := Lib.hid hb1
  have HG := Lib.hid ho.gs
  clear hb1 ho
  have hcv := bw_conv w1 (bytes s)
  have hbs := bw_bs w1 (bytes s) (by rw [bytes_size]; omega)
  have hbb := bw_below w1 (bytes s)
  rw [bytes_list] at hbs
  rw [bytes_size] at hcv hbs
  obtain ⟨W1, hW1⟩ : ∃ W, Lib.bytesWorld w1 5 (bytes s) = W := ⟨_, rfl⟩
  rw [hW1] at hcv hbs hbb
  obtain ⟨rs, hrs⟩ : ∃ rs, M.rn s 0 = rs := ⟨_, rfl⟩
  have hrl : rs.length <= 40000 := by rw [<- hrs]; have := M.rn_len s s.length 0 (by omega); omega
  have R1 := Lib.hid (cruns_any _ s rs W1 ((HT.out.keep HB.out).keep hbb) hbs (by omega) hrs)
  obtain ⟨TT, hTT⟩ : ∃ T, M.tksC rs = T := ⟨_, rfl⟩
  have hTl : TT.length <= 40000 := by rw [<- hTT]; have := tksC_len rs rs.length 0 (by omega); rw [List.drop_zero] at this; omega
  have HTT := Lib.hid hTT
  have HRS := Lib.hid hrs
  have HB1 := Lib.hid (HB.out.trans (hbb.mono HB.out.size))
  have HG1 := Lib.hid (HG.out.keep hbb)
  obtain ⟨S1, hS1⟩ : ∃ S, bytes s = S := ⟨_, rfl⟩
  rw [hS1] at hcv ⊢
  clear hS1
  clear hbb hbs hW1 hrs hTT
  go_wp2_with fail
  refine R1.out.mono ?_
  rintro e w2 ⟨v2, rfl, ho2, hb2⟩
  have HB2 := Lib.hid (HB1.out.trans (hb2.mono HB1.out.size))
  have HG2 := Lib.hid (HG1.out.keep hb2)
  have S1 := Lib.hid (csplit_any v2 rs TT w2 (HT.out.keep HB2.out) (OwnV.vs ho2) hrl HTT.out)
  clear hb2 ho2 hcv
  go_wp2_with fail
  refine S1.out.mono ?_
  rintro e w3 ⟨v3, rfl, ho3, hb3⟩
  have HB3 := Lib.hid (HB2.out.trans (hb3.mono HB2.out.size))
  have E1 := Lib.hid (equal_any v3 u (TT.map toG) ([]) r w3 ho3.cs.gs (HG2.out.keep hb3) (by rw [List.length_map]; omega) (by simp) (by rw [<- HR.out, <- HTT.out, <- HRS.out, List.map_map]; rfl))
  clear hb3 ho3
  go_wp2_with fail
  refine E1.out.mono ?_
  rintro e w4 ⟨rfl, hb4⟩
  have HF := Lib.hid (HB3.out.trans (hb4.mono HB3.out.size))
  clear hb4
  go_wp2
  go_ret
  exact ⟨rfl, HF.out⟩
 ·have hgl : n - 1 < l.length := by rw [HN.out]; omega
  obtain ⟨b, off, rfl, hb, hc⟩ := HX.out (n - 1) hgl
  obtain ⟨g, hg⟩ : ∃ g, l[n - 1] = g := ⟨_, rfl⟩
  rw [hg] at hc
  have hgt := hx g (by rw [<- hg]; exact List.getElem_mem hgl)
  have hlast : (l.map Prod.fst).getLast? = some g.1 := by
   rw [List.getLast?_map, List.getLast?_eq_getElem?, HN.out, List.getElem?_eq_getElem hgl, hg]; rfl
  have CX := Lib.hid (fun W (hW : Below w.heap.size w W) k' (hk' : k' < 13) => (hW.cell (p := ⟨b, off + (n - 1) * 13 + k', none⟩) hb).trans (hc k' hk'))
  obtain ⟨b1, hb1⟩ : ∃ x, M.lineT g.1 = x := ⟨_, rfl⟩
  obtain ⟨b2, hb2⟩ : ∃ x, M.urlF g.1 = x := ⟨_, rfl⟩
  have L1 := Lib.hid (fun w => lineb_any g b1 w hb1)
  have U1 := Lib.hid (fun w => isurl_any g b2 w hgt hb2)
  have hn1 : 1 <= n := by omega
  have hll : l.length <= 1000 := by rw [HN.out]; omega
  unfold M.tailS M.tailT at hr
  rw [hlast] at hr
  simp only [hb1, hb2] at hr
  clear hx hgl hlast hg hgt HX hb hc hb1 hb2 hn0
  cases b1 with
  | true =>
   simp only [if_true] at hr
   have HR := Lib.hid hr
   have a1 := cat_run s [10] _ rfl (by omega) (by simp)
   have hsl2 : (s ++ [10]).length <= 39001 := by simp; omega
   obtain ⟨s2, hs2⟩ : ∃ t, s ++ [10] = t := ⟨_, rfl⟩
   rw [hs2] at HR a1 hsl2
   obtain ⟨S, hS⟩ : ∃ S, bytes s = S := ⟨_, rfl⟩
   obtain ⟨S2, hS2⟩ : ∃ S, bytes s2 = S := ⟨_, rfl⟩
   have zS : S.size <= 39000 := by rw [<- hS, bytes_size]; exact hs
   rw [hS, hS2, show bytes [10] = (⟨#[10]⟩ : ByteArray) from rfl] at a1
   rw [hS]
   have HS2 := Lib.hid hS2
   clear hr hS hS2 hs2 U1
   go_enter Tryz.func43, Tryz.ntmps43
   go_wp2_with fail
   refine C1.out.mono ?_
   rintro e w1 ⟨u, rfl, ho, hb1⟩
   have HB := Lib.hid hb1
   have HO := Lib.hid ho
   clear hb1 ho
   go_wp2_with (first | (refine wpl_ldM rfl _ rfl b (off + (n - 1) * 13) (gtv g) rfl rfl (CX.out _ HB.out) ?_))
   refine (L1.out _).mono ?_
   rintro e w9 ⟨rfl, hb9⟩
   have HB9 := Lib.hid (HB.out.trans (hb9.mono HB.out.size))
   have HO9 := Lib.hid (HO.out.keep hb9)
   clear hb9 L1 CX
   go_wp2_with (first | (refine wpl_bsT rfl _ rfl { kind := 13, text := [10] } 0 rfl ?_) | (at_builtin; refine wpl_tokG rfl _ _ rfl w.heap.size _ (.slice (some ⟨w9.heap.size, 0, none⟩) 1 1) l [({ kind := 13, text := [10] }, z4, 0)] (l ++ [({ kind := 13, text := [10] }, z4, 0)]) rfl (HO9.out.keep ((Below.refl _ _).alloc (Nat.le_refl _) _)) rfl (one_tokG w9 _ 0) (nnv_some _ _ _) (by simp; omega) (by have := HB9.out.size; simp; omega) rfl ?_))
   intro u2 wA hoA hbA
   have HBA := Lib.hid ((HB9.out.alloc HB9.out.size _).trans hbA)
   have HGA := Lib.hid hoA.gs
   clear hbA hoA HO9 HO
   have hcv := bw_conv wA (bytes s2)
   have hbs := bw_bs wA (bytes s2) (by rw [bytes_size]; omega)
   have hbb := bw_below wA (bytes s2)
   rw [bytes_list] at hbs
   rw [bytes_size] at hcv hbs
   obtain ⟨W1, hW1⟩ : ∃ W, Lib.bytesWorld wA 5 (bytes s2) = W := ⟨_, rfl⟩
   rw [hW1] at hcv hbs hbb
   obtain ⟨rs, hrs⟩ : ∃ rs, M.rn s2 0 = rs := ⟨_, rfl⟩
   have hrl : rs.length <= 40000 := by rw [<- hrs]; have := M.rn_len s2 s2.length 0 (by omega); omega
   have R1 := Lib.hid (cruns_any _ s2 rs W1 ((HT.out.keep HBA.out).keep hbb) hbs (by omega) hrs)
   obtain ⟨TT, hTT⟩ : ∃ T, M.tksC rs = T := ⟨_, rfl⟩
   have hTl : TT.length <= 40000 := by rw [<- hTT]; have := tksC_len rs rs.length 0 (by omega); rw [List.drop_zero] at this; omega
   have HTT := Lib.hid hTT
   have HRS := Lib.hid hrs
   have HB1 := Lib.hid (HBA.out.trans (hbb.mono HBA.out.size))
   have HG1 := Lib.hid (HGA.out.keep hbb)
   rw [HS2.out] at hcv
   clear hbb hbs hW1 hrs hTT
   go_wp2_with fail
   refine R1.out.mono ?_
   rintro e w2 ⟨v2, rfl, ho2, hb2⟩
   have HB2 := Lib.hid (HB1.out.trans (hb2.mono HB1.out.size))
   have HG2 := Lib.hid (HG1.out.keep hb2)
   have S1 := Lib.hid (csplit_any v2 rs TT w2 (HT.out.keep HB2.out) (OwnV.vs ho2) hrl HTT.out)
   clear hb2 ho2 hcv
   go_wp2_with fail
   refine S1.out.mono ?_
   rintro e w3 ⟨v3, rfl, ho3, hb3⟩
   have HB3 := Lib.hid (HB2.out.trans (hb3.mono HB2.out.size))
   have E1 := Lib.hid (equal_any v3 u2 (TT.map toG) (l ++ [({ kind := 13, text := [10] }, z4, 0)]) r w3 ho3.cs.gs (HG2.out.keep hb3) (by rw [List.length_map]; omega) (by simp; omega) (by rw [<- HR.out, <- HTT.out, <- HRS.out, List.map_map]; rw [List.map_append]; rfl))
   clear hb3 ho3
   go_wp2_with fail
   refine E1.out.mono ?_
   rintro e w4 ⟨rfl, hb4⟩
   have HF := Lib.hid (HB3.out.trans (hb4.mono HB3.out.size))
   clear hb4
   go_wp2
   go_ret
   exact ⟨rfl, HF.out⟩
  | false =>
   simp only [Bool.false_eq_true, if_false] at hr
   cases b2 with
   | true =>
    simp only [if_true] at hr
    have HR := Lib.hid hr
    have a1 := cat_run s [34, 34] _ rfl (by omega) (by simp)
    have hsl2 : (s ++ [34, 34]).length <= 39002 := by simp; omega
    obtain ⟨s2, hs2⟩ : ∃ t, s ++ [34, 34] = t := ⟨_, rfl⟩
    rw [hs2] at HR a1 hsl2
    obtain ⟨S, hS⟩ : ∃ S, bytes s = S := ⟨_, rfl⟩
    obtain ⟨S2, hS2⟩ : ∃ S, bytes s2 = S := ⟨_, rfl⟩
    have zS : S.size <= 39000 := by rw [<- hS, bytes_size]; exact hs
    rw [hS, hS2, show bytes [34, 34] = (⟨#[34, 34]⟩ : ByteArray) from rfl] at a1
    rw [hS]
    have HS2 := Lib.hid hS2
    clear hr hS hS2 hs2
    go_enter Tryz.func43, Tryz.ntmps43
    go_wp2_with fail
    refine C1.out.mono ?_
    rintro e w1 ⟨u, rfl, ho, hb1⟩
    have HB := Lib.hid hb1
    have HO := Lib.hid ho
    clear hb1 ho
    go_wp2_with (first | (refine wpl_ldM rfl _ rfl b (off + (n - 1) * 13) (gtv g) rfl rfl (CX.out _ HB.out) ?_))
    refine (L1.out _).mono ?_
    rintro e w9 ⟨rfl, hb9⟩
    have HB9 := Lib.hid (HB.out.trans (hb9.mono HB.out.size))
    have HO9 := Lib.hid (HO.out.keep hb9)
    clear hb9 L1
    go_wp2_with (first | (refine wpl_ldM rfl _ rfl b (off + (n - 1) * 13) (gtv g) rfl rfl (CX.out _ HB9.out) ?_))
    refine (U1.out _).mono ?_
    rintro e w8 ⟨rfl, hb8⟩
    have HB8 := Lib.hid (HB9.out.trans (hb8.mono HB9.out.size))
    have HO8 := Lib.hid (HO9.out.keep hb8)
    clear hb8 U1 CX
    go_wp2_with (first | (refine wpl_bsT rfl _ rfl { kind := 5 } 0 rfl ?_) | (at_builtin; refine wpl_tokG rfl _ _ rfl w.heap.size _ (.slice (some ⟨w8.heap.size, 0, none⟩) 1 1) l [({ kind := 5 }, z4, 0)] (l ++ [({ kind := 5 }, z4, 0)]) rfl (HO8.out.keep ((Below.refl _ _).alloc (Nat.le_refl _) _)) rfl (one_tokG w8 _ 0) (nnv_some _ _ _) (by simp; omega) (by have := HB8.out.size; simp; omega) rfl ?_))
    intro u2 wA hoA hbA
    have HBA := Lib.hid ((HB8.out.alloc HB8.out.size _).trans hbA)
    have HGA := Lib.hid hoA.gs
    clear hbA hoA HO9 HO HO8
    have hcv := bw_conv wA (bytes s2)
    have hbs := bw_bs wA (bytes s2) (by rw [bytes_size]; omega)
    have hbb := bw_below wA (bytes s2)
    rw [bytes_list] at hbs
    rw [bytes_size] at hcv hbs
    obtain ⟨W1, hW1⟩ : ∃ W, Lib.bytesWorld wA 5 (bytes s2) = W := ⟨_, rfl⟩
    rw [hW1] at hcv hbs hbb
    obtain ⟨rs, hrs⟩ : ∃ rs, M.rn s2 0 = rs := ⟨_, rfl⟩
    have hrl : rs.length <= 40000 := by rw [<- hrs]; have := M.rn_len s2 s2.length 0 (by omega); omega
    have R1 := Lib.hid (cruns_any _ s2 rs W1 ((HT.out.keep HBA.out).keep hbb) hbs (by omega) hrs)
    obtain ⟨TT, hTT⟩ : ∃ T, M.tksC rs = T := ⟨_, rfl⟩
    have hTl : TT.length <= 40000 := by rw [<- hTT]; have := tksC_len rs rs.length 0 (by omega); rw [List.drop_zero] at this; omega
    have HTT := Lib.hid hTT
    have HRS := Lib.hid hrs
    have HB1 := Lib.hid (HBA.out.trans (hbb.mono HBA.out.size))
    have HG1 := Lib.hid (HGA.out.keep hbb)
    rw [HS2.out] at hcv
    clear hbb hbs hW1 hrs hTT
    go_wp2_with fail
    refine R1.out.mono ?_
    rintro e w2 ⟨v2, rfl, ho2, hb2⟩
    have HB2 := Lib.hid (HB1.out.trans (hb2.mono HB1.out.size))
    have HG2 := Lib.hid (HG1.out.keep hb2)
    have S1 := Lib.hid (csplit_any v2 rs TT w2 (HT.out.keep HB2.out) (OwnV.vs ho2) hrl HTT.out)
    clear hb2 ho2 hcv
    go_wp2_with fail
    refine S1.out.mono ?_
    rintro e w3 ⟨v3, rfl, ho3, hb3⟩
    have HB3 := Lib.hid (HB2.out.trans (hb3.mono HB2.out.size))
    have E1 := Lib.hid (equal_any v3 u2 (TT.map toG) (l ++ [({ kind := 5 }, z4, 0)]) r w3 ho3.cs.gs (HG2.out.keep hb3) (by rw [List.length_map]; omega) (by simp; omega) (by rw [<- HR.out, <- HTT.out, <- HRS.out, List.map_map]; rw [List.map_append]; rfl))
    clear hb3 ho3
    go_wp2_with fail
    refine E1.out.mono ?_
    rintro e w4 ⟨rfl, hb4⟩
    have HF := Lib.hid (HB3.out.trans (hb4.mono HB3.out.size))
    clear hb4
    go_wp2
    go_ret
    exact ⟨rfl, HF.out⟩
   | false =>
    simp only [Bool.false_eq_true, if_false, List.append_nil, List.map_nil] at hr
    have HR := Lib.hid hr
    clear hr
    go_enter Tryz.func43, Tryz.ntmps43
    go_wp2_with fail
    refine C1.out.mono ?_
    rintro e w1 ⟨u, rfl, ho, hb1⟩
    have HB := Lib.hid hb1
    have HO := Lib.hid ho
    clear hb1 ho
    go_wp2_with (first | (refine wpl_ldM rfl _ rfl b (off + (n - 1) * 13) (gtv g) rfl rfl (CX.out _ HB.out) ?_))
    refine (L1.out _).mono ?_
    rintro e w9 ⟨rfl, hb9⟩
    have HB9 := Lib.hid (HB.out.trans (hb9.mono HB.out.size))
    have HO9 := Lib.hid (HO.out.keep hb9)
    clear hb9 L1
    go_wp2_with (first | (refine wpl_ldM rfl _ rfl b (off + (n - 1) * 13) (gtv g) rfl rfl (CX.out _ HB9.out) ?_))
    refine (U1.out _).mono ?_
    rintro e w8 ⟨rfl, hb8⟩
    have HB8 := Lib.hid (HB9.out.trans (hb8.mono HB9.out.size))
    have HG8 := Lib.hid (HO9.out.keep hb8).gs
    clear hb8 U1 CX HO HO9
    have hcv := bw_conv w8 (bytes s)
    have hbs := bw_bs w8 (bytes s) (by rw [bytes_size]; omega)
    have hbb := bw_below w8 (bytes s)
    rw [bytes_list] at hbs
    rw [bytes_size] at hcv hbs
    obtain ⟨W1, hW1⟩ : ∃ W, Lib.bytesWorld w8 5 (bytes s) = W := ⟨_, rfl⟩
    rw [hW1] at hcv hbs hbb
    obtain ⟨rs, hrs⟩ : ∃ rs, M.rn s 0 = rs := ⟨_, rfl⟩
    have hrl : rs.length <= 40000 := by rw [<- hrs]; have := M.rn_len s s.length 0 (by omega); omega
    have R1 := Lib.hid (cruns_any _ s rs W1 ((HT.out.keep HB8.out).keep hbb) hbs (by omega) hrs)
    obtain ⟨TT, hTT⟩ : ∃ T, M.tksC rs = T := ⟨_, rfl⟩
    have hTl : TT.length <= 40000 := by rw [<- hTT]; have := tksC_len rs rs.length 0 (by omega); rw [List.drop_zero] at this; omega
    have HTT := Lib.hid hTT
    have HRS := Lib.hid hrs
    have HB1 := Lib.hid (HB8.out.trans (hbb.mono HB8.out.size))
    have HG1 := Lib.hid (HG8.out.keep hbb)
    obtain ⟨S1, hS1⟩ : ∃ S, bytes s = S := ⟨_, rfl⟩
    rw [hS1] at hcv ⊢
    clear hS1
    clear hbb hbs hW1 hrs hTT
    go_wp2_with fail
    refine R1.out.mono ?_
    rintro e w2 ⟨v2, rfl, ho2, hb2⟩
    have HB2 := Lib.hid (HB1.out.trans (hb2.mono HB1.out.size))
    have HG2 := Lib.hid (HG1.out.keep hb2)
    have S1 := Lib.hid (csplit_any v2 rs TT w2 (HT.out.keep HB2.out) (OwnV.vs ho2) hrl HTT.out)
    clear hb2 ho2 hcv
    go_wp2_with fail
    refine S1.out.mono ?_
    rintro e w3 ⟨v3, rfl, ho3, hb3⟩
    have HB3 := Lib.hid (HB2.out.trans (hb3.mono HB2.out.size))
    have E1 := Lib.hid (equal_any v3 u (TT.map toG) (l) r w3 ho3.cs.gs (HG2.out.keep hb3) (by rw [List.length_map]; omega) (by rw [HN.out]; omega) (by rw [<- HR.out, <- HTT.out, <- HRS.out, List.map_map]; rfl))
    clear hb3 ho3
    go_wp2_with fail
    refine E1.out.mono ?_
    rintro e w4 ⟨rfl, hb4⟩
    have HF := Lib.hid (HB3.out.trans (hb4.mono HB3.out.size))
    clear hb4
    go_wp2
    go_ret
    exact ⟨rfl, HF.out⟩
end Go.Proofs.YtimjbjppmhdjnaaGreatDoor
