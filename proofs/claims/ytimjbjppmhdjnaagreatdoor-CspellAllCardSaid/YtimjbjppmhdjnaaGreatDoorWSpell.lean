import Derived.Test.YtimjbjppmhdjnaaGreatDoorWTk
import Derived.Test.YtimjbjppmhdjnaaGreatDoorWUrl
import Derived.Test.YtimjbjppmhdjnaaGreatDoorWNumP
set_option maxHeartbeats 4000000
set_option maxRecDepth 100000
namespace Go.Proofs.YtimjbjppmhdjnaaGreatDoor
open Go.RowKit
set_option linter.unusedVariables false
set_option linter.unusedSimpArgs false
theorem strip_StP' {P : Program} {f : FuncId} {args : Array Value} {w : World} {t : List UInt8} (h : Calls P f args w (StP w t)) : Calls P f args w fun e w' => e = .returned (.string (bytes t)) /\ Below w.heap.size w w' := h
theorem keep6 {b : Nat} {u2 u3 u4 u5 u6 u7 : Value} {w w' : World} (h : w.cell? ⟨b, 2, none⟩ = some u2 /\ w.cell? ⟨b, 3, none⟩ = some u3 /\ w.cell? ⟨b, 4, none⟩ = some u4 /\ w.cell? ⟨b, 5, none⟩ = some u5 /\ w.cell? ⟨b, 6, none⟩ = some u6 /\ w.cell? ⟨b, 7, none⟩ = some u7) (hb : Below w.heap.size w w') (hl : b < w.heap.size) :
  w'.cell? ⟨b, 2, none⟩ = some u2 /\ w'.cell? ⟨b, 3, none⟩ = some u3 /\ w'.cell? ⟨b, 4, none⟩ = some u4 /\ w'.cell? ⟨b, 5, none⟩ = some u5 /\ w'.cell? ⟨b, 6, none⟩ = some u6 /\ w'.cell? ⟨b, 7, none⟩ = some u7 :=
 ⟨(hb.cell (p := ⟨b, 2, none⟩) hl).trans h.1, (hb.cell (p := ⟨b, 3, none⟩) hl).trans h.2.1, (hb.cell (p := ⟨b, 4, none⟩) hl).trans h.2.2.1, (hb.cell (p := ⟨b, 5, none⟩) hl).trans h.2.2.2.1, (hb.cell (p := ⟨b, 6, none⟩) hl).trans h.2.2.2.2.1, (hb.cell (p := ⟨b, 7, none⟩) hl).trans h.2.2.2.2.2⟩
def Small (t : M.CT) : Prop := t.text.length <= 1700 /\ t.unit.length <= 1700 /\ t.num.2.1.length <= 500 /\ t.num.2.2.length <= 500
theorem str_join (a b : ByteArray) (t : List UInt8) (x y : List UInt8) (ha : bytes x = a) (hb : bytes y = b) (h : x ++ y = t) : a ++ b = bytes t := by rw [<- ha, <- hb, cat2, h]
theorem names_len (s : List UInt8) (h : s.length <= 1700) : (M.encZs (M.spF (M.pn s 0))).length <= 34000 := by
 have h1 := M.pn_len s s.length 0 (by omega)
 have h3 := spF_bytes_len (M.pn s 0)
 omega
theorem numS_len (n : M.NumV) (a b : Bool) (h1 : n.2.1.length <= 500) (h2 : n.2.2.length <= 500) : (M.numS n a b).length <= 20601 := by
 unfold M.numS
 split
 ·have hx : (if a then M.wholeS n.2.1 n.2.2 else M.shortS n.2.1 n.2.2).length <= 20600 := by
   cases a with
   | true =>
    simp only [if_true]
    unfold M.wholeS
    split
    ·simp
    ·split
     ·simp; omega
     ·simp
   | false =>
    simp only [Bool.false_eq_true, if_false]
    have := short_len n.2.1 n.2.2 h1 h2
    omega
  obtain ⟨x, hxx⟩ : ∃ x, (if a then M.wholeS n.2.1 n.2.2 else M.shortS n.2.1 n.2.2) = x := ⟨_, rfl⟩
  rw [hxx] at hx ⊢
  unfold M.sgS
  split
  ·simp
  ·split
   ·simp; exact hx
   ·split
    ·simp; exact hx
    ·omega
 ·simp
theorem unitS_len (s : List UInt8) (h : s.length <= 1700) : (M.unitS s).length <= 34100 := by
 unfold M.unitS
 split
 ·have h1 := M.pn_len (s.drop 1) (s.drop 1).length 0 (by omega)
  have h2 := spR_bytes_len (M.pn (s.drop 1) 0)
  have h3 := (M.encZs_len (M.numN (M.byte s 0))).2
  have h4 := M.numN_len (M.byte s 0)
  rw [List.length_append]
  rw [List.length_drop] at h1
  omega
 ·have := names_len s h; omega
theorem spellt_ident (g : GT) (t : List UInt8) (w : World) (hT : Tabs w) (hs : Small g.1) (hk : g.1.kind = 1) (ht : M.encZs (M.spF (M.pn g.1.text 0)) = t) :
  Calls Tryz.prog 19 #[.agg (gtv g)] w (StP w t) := by
 obtain ⟨⟨k, text, unit, ⟨n0, n1, n2⟩, flag, sign⟩, ⟨c0, c1, c2, c3⟩, z⟩ := g
 obtain ⟨h1, h2, h3, h4⟩ := hs
 simp only at h1 h2 h3 h4 hk ht
 have HT := Lib.hid hT
 subst hk
 have e1 := gtv_lit 1 text unit n0 n1 n2 flag sign c0 c1 c2 c3 z
 rw [e1]
 unfold StP
 obtain ⟨r, hr⟩ : ∃ r, M.encZs (M.spF (M.pn text 0)) = r := ⟨_, rfl⟩
 rw [hr] at ht
 have S1 := Lib.hid (fun W hW => strip_StP' (spell_any text r W hW (by omega) hr))
 have hrl := names_len text h1
 rw [hr] at hrl
 have zr := bytes_size r
 obtain ⟨RB, hRB⟩ : ∃ S, bytes r = S := ⟨_, rfl⟩
 rw [hRB] at S1 zr
 have HRB := Lib.hid hRB
 have Ht := Lib.hid ht
 have zR : RB.size <= 34000 := by omega
 obtain ⟨TB, hTB⟩ : ∃ S, bytes text = S := ⟨_, rfl⟩
 obtain ⟨UB, hUB⟩ : ∃ S, bytes unit = S := ⟨_, rfl⟩
 obtain ⟨N1, hN1⟩ : ∃ S, bytes n1 = S := ⟨_, rfl⟩
 obtain ⟨N2, hN2⟩ : ∃ S, bytes n2 = S := ⟨_, rfl⟩
 rw [hTB, hUB, hN1, hN2]
 rw [hTB] at S1
 have B0 : Hid (Below w.heap.size w (w.alloc (.cells #[.int .i64 1, .string TB, .string UB, .bool n0, .string N1, .string N2, .bool flag, .bool sign, .int .i64 c0, .int .i64 c1, .int .i64 c2, .int .i64 c3, .int .i64 z] 33))) := Lib.hid ((Below.refl _ _).alloc (Nat.le_refl _) _)
 clear hT e1 hr hRB hTB hUB hN1 hN2 h1 h2 h3 h4 ht zr hrl
 go_enter Tryz.func19, Tryz.ntmps19
 go_wp2_with fail
 refine (S1.out _ (HT.out.keep B0.out).e).mono ?_
 rintro e w1 ⟨rfl, hb1⟩
 have HF := Lib.hid (B0.out.trans (hb1.mono B0.out.size))
 clear hb1
 go_wp2
 go_ret
 exact ⟨congrArg (fun x => Ending.returned (Value.string x)) (by rw [<- Ht.out]; exact HRB.out.symm), HF.out⟩
theorem spellt_func (g : GT) (t : List UInt8) (w : World) (hT : Tabs w) (hs : Small g.1) (hk : g.1.kind = 2) (ht : M.encZs (M.spF (M.pn g.1.text 0)) ++ [40] = t) :
  Calls Tryz.prog 19 #[.agg (gtv g)] w (StP w t) := by
 obtain ⟨⟨k, text, unit, ⟨n0, n1, n2⟩, flag, sign⟩, ⟨c0, c1, c2, c3⟩, z⟩ := g
 obtain ⟨h1, h2, h3, h4⟩ := hs
 simp only at h1 h2 h3 h4 hk ht
 have HT := Lib.hid hT
 subst hk
 have e1 := gtv_lit 2 text unit n0 n1 n2 flag sign c0 c1 c2 c3 z
 rw [e1]
 unfold StP
 obtain ⟨r, hr⟩ : ∃ r, M.encZs (M.spF (M.pn text 0)) = r := ⟨_, rfl⟩
 rw [hr] at ht
 have S1 := Lib.hid (fun W hW => strip_StP' (spell_any text r W hW (by omega) hr))
 have hrl := names_len text h1
 rw [hr] at hrl
 have zr := bytes_size r
 obtain ⟨RB, hRB⟩ : ∃ S, bytes r = S := ⟨_, rfl⟩
 rw [hRB] at S1 zr
 have HRB := Lib.hid hRB
 have Ht := Lib.hid ht
 have zR : RB.size <= 34000 := by omega
 obtain ⟨TB, hTB⟩ : ∃ S, bytes text = S := ⟨_, rfl⟩
 obtain ⟨UB, hUB⟩ : ∃ S, bytes unit = S := ⟨_, rfl⟩
 obtain ⟨N1, hN1⟩ : ∃ S, bytes n1 = S := ⟨_, rfl⟩
 obtain ⟨N2, hN2⟩ : ∃ S, bytes n2 = S := ⟨_, rfl⟩
 rw [hTB, hUB, hN1, hN2]
 rw [hTB] at S1
 have B0 : Hid (Below w.heap.size w (w.alloc (.cells #[.int .i64 2, .string TB, .string UB, .bool n0, .string N1, .string N2, .bool flag, .bool sign, .int .i64 c0, .int .i64 c1, .int .i64 c2, .int .i64 c3, .int .i64 z] 33))) := Lib.hid ((Below.refl _ _).alloc (Nat.le_refl _) _)
 clear hT e1 hr hRB hTB hUB hN1 hN2 h1 h2 h3 h4 ht zr hrl
 go_enter Tryz.func19, Tryz.ntmps19
 go_wp2_with fail
 refine (S1.out _ (HT.out.keep B0.out).e).mono ?_
 rintro e w1 ⟨rfl, hb1⟩
 have HF := Lib.hid (B0.out.trans (hb1.mono B0.out.size))
 clear hb1
 go_wp2
 go_ret
 exact ⟨congrArg (fun x => Ending.returned (Value.string x)) (str_join RB ⟨#[40]⟩ t r [40] HRB.out rfl Ht.out), HF.out⟩
theorem spellt_at (g : GT) (t : List UInt8) (w : World) (hT : Tabs w) (hs : Small g.1) (hk : g.1.kind = 3) (ht : 64 :: M.encZs (M.spF (M.pn g.1.text 0)) = t) :
  Calls Tryz.prog 19 #[.agg (gtv g)] w (StP w t) := by
 obtain ⟨⟨k, text, unit, ⟨n0, n1, n2⟩, flag, sign⟩, ⟨c0, c1, c2, c3⟩, z⟩ := g
 obtain ⟨h1, h2, h3, h4⟩ := hs
 simp only at h1 h2 h3 h4 hk ht
 have HT := Lib.hid hT
 subst hk
 have e1 := gtv_lit 3 text unit n0 n1 n2 flag sign c0 c1 c2 c3 z
 rw [e1]
 unfold StP
 obtain ⟨r, hr⟩ : ∃ r, M.encZs (M.spF (M.pn text 0)) = r := ⟨_, rfl⟩
 rw [hr] at ht
 have S1 := Lib.hid (fun W hW => strip_StP' (spell_any text r W hW (by omega) hr))
 have hrl := names_len text h1
 rw [hr] at hrl
 have zr := bytes_size r
 obtain ⟨RB, hRB⟩ : ∃ S, bytes r = S := ⟨_, rfl⟩
 rw [hRB] at S1 zr
 have HRB := Lib.hid hRB
 have Ht := Lib.hid ht
 have zR : RB.size <= 34000 := by omega
 obtain ⟨TB, hTB⟩ : ∃ S, bytes text = S := ⟨_, rfl⟩
 obtain ⟨UB, hUB⟩ : ∃ S, bytes unit = S := ⟨_, rfl⟩
 obtain ⟨N1, hN1⟩ : ∃ S, bytes n1 = S := ⟨_, rfl⟩
 obtain ⟨N2, hN2⟩ : ∃ S, bytes n2 = S := ⟨_, rfl⟩
 rw [hTB, hUB, hN1, hN2]
 rw [hTB] at S1
 have B0 : Hid (Below w.heap.size w (w.alloc (.cells #[.int .i64 3, .string TB, .string UB, .bool n0, .string N1, .string N2, .bool flag, .bool sign, .int .i64 c0, .int .i64 c1, .int .i64 c2, .int .i64 c3, .int .i64 z] 33))) := Lib.hid ((Below.refl _ _).alloc (Nat.le_refl _) _)
 clear hT e1 hr hRB hTB hUB hN1 hN2 h1 h2 h3 h4 ht zr hrl
 go_enter Tryz.func19, Tryz.ntmps19
 go_wp2_with fail
 refine (S1.out _ (HT.out.keep B0.out).e).mono ?_
 rintro e w1 ⟨rfl, hb1⟩
 have HF := Lib.hid (B0.out.trans (hb1.mono B0.out.size))
 clear hb1
 go_wp2
 go_ret
 exact ⟨congrArg (fun x => Ending.returned (Value.string x)) (str_join ⟨#[64]⟩ RB t [64] r rfl HRB.out Ht.out), HF.out⟩
theorem spellt_hash (g : GT) (t : List UInt8) (w : World) (hT : Tabs w) (hs : Small g.1) (hk : g.1.kind = 4) (ht : M.hashS g.1 = t) :
  Calls Tryz.prog 19 #[.agg (gtv g)] w (StP w t) := by
 obtain ⟨⟨k, text, unit, ⟨n0, n1, n2⟩, flag, sign⟩, ⟨c0, c1, c2, c3⟩, z⟩ := g
 obtain ⟨h1, h2, h3, h4⟩ := hs
 simp only at h1 h2 h3 h4 hk ht
 have HT := Lib.hid hT
 subst hk
 have e1 := gtv_lit 4 text unit n0 n1 n2 flag sign c0 c1 c2 c3 z
 have S1 := Lib.hid (fun W hW => strip_StP' (hash_any (⟨4, text, unit, (n0, n1, n2), flag, sign⟩, (c0, c1, c2, c3), z) t W hW (by simp only; omega) ht))
 rw [e1] at S1
 rw [e1]
 unfold StP
 obtain ⟨TB, hTB⟩ : ∃ S, bytes text = S := ⟨_, rfl⟩
 obtain ⟨UB, hUB⟩ : ∃ S, bytes unit = S := ⟨_, rfl⟩
 obtain ⟨N1, hN1⟩ : ∃ S, bytes n1 = S := ⟨_, rfl⟩
 obtain ⟨N2, hN2⟩ : ∃ S, bytes n2 = S := ⟨_, rfl⟩
 rw [hTB, hUB, hN1, hN2] at S1 ⊢
 have B0 : Hid (Below w.heap.size w (w.alloc (.cells #[.int .i64 4, .string TB, .string UB, .bool n0, .string N1, .string N2, .bool flag, .bool sign, .int .i64 c0, .int .i64 c1, .int .i64 c2, .int .i64 c3, .int .i64 z] 33))) := Lib.hid ((Below.refl _ _).alloc (Nat.le_refl _) _)
 clear hT e1 hTB hUB hN1 hN2 h1 h2 h3 h4 ht
 go_enter Tryz.func19, Tryz.ntmps19
 go_wp2_with fail
 refine (S1.out _ (HT.out.keep B0.out)).mono ?_
 rintro e w1 ⟨rfl, hb1⟩
 have HF := Lib.hid (B0.out.trans (hb1.mono B0.out.size))
 clear hb1
 go_wp2
 go_ret
 exact ⟨rfl, HF.out⟩
theorem spellt_text (g : GT) (t : List UInt8) (w : World) (hT : Tabs w) (hs : Small g.1) (hk : g.1.kind = 5) (ht : M.qText (M.pn g.1.text 0) = t) :
  Calls Tryz.prog 19 #[.agg (gtv g)] w (StP w t) := by
 obtain ⟨⟨k, text, unit, ⟨n0, n1, n2⟩, flag, sign⟩, ⟨c0, c1, c2, c3⟩, z⟩ := g
 obtain ⟨h1, h2, h3, h4⟩ := hs
 simp only at h1 h2 h3 h4 hk ht
 have HT := Lib.hid hT
 subst hk
 have e1 := gtv_lit 5 text unit n0 n1 n2 flag sign c0 c1 c2 c3 z
 rw [e1]
 unfold StP
 have S1 := Lib.hid (fun W hW => strip_StP' (ctextq_any text t W hW (by omega) ht))
 obtain ⟨TB, hTB⟩ : ∃ S, bytes text = S := ⟨_, rfl⟩
 obtain ⟨UB, hUB⟩ : ∃ S, bytes unit = S := ⟨_, rfl⟩
 obtain ⟨N1, hN1⟩ : ∃ S, bytes n1 = S := ⟨_, rfl⟩
 obtain ⟨N2, hN2⟩ : ∃ S, bytes n2 = S := ⟨_, rfl⟩
 rw [hTB, hUB, hN1, hN2]
 rw [hTB] at S1
 have B0 : Hid (Below w.heap.size w (w.alloc (.cells #[.int .i64 5, .string TB, .string UB, .bool n0, .string N1, .string N2, .bool flag, .bool sign, .int .i64 c0, .int .i64 c1, .int .i64 c2, .int .i64 c3, .int .i64 z] 33))) := Lib.hid ((Below.refl _ _).alloc (Nat.le_refl _) _)
 clear hT e1 hTB hUB hN1 hN2 h1 h2 h3 h4 ht
 go_enter Tryz.func19, Tryz.ntmps19
 go_wp2_with fail
 refine (S1.out _ (HT.out.keep B0.out).e).mono ?_
 rintro e w1 ⟨rfl, hb1⟩
 have HF := Lib.hid (B0.out.trans (hb1.mono B0.out.size))
 clear hb1
 go_wp2
 go_ret
 exact ⟨rfl, HF.out⟩
theorem spellt_url (g : GT) (t : List UInt8) (w : World) (hT : Tabs w) (hs : Small g.1) (hk : g.1.kind = 7) (ht : M.urlS g.1.text = t) :
  Calls Tryz.prog 19 #[.agg (gtv g)] w (StP w t) := by
 obtain ⟨⟨k, text, unit, ⟨n0, n1, n2⟩, flag, sign⟩, ⟨c0, c1, c2, c3⟩, z⟩ := g
 obtain ⟨h1, h2, h3, h4⟩ := hs
 simp only at h1 h2 h3 h4 hk ht
 have HT := Lib.hid hT
 subst hk
 have e1 := gtv_lit 7 text unit n0 n1 n2 flag sign c0 c1 c2 c3 z
 rw [e1]
 unfold StP
 have S1 := Lib.hid (fun W hW => strip_StP' (url_any text t W hW (by omega) ht))
 obtain ⟨TB, hTB⟩ : ∃ S, bytes text = S := ⟨_, rfl⟩
 obtain ⟨UB, hUB⟩ : ∃ S, bytes unit = S := ⟨_, rfl⟩
 obtain ⟨N1, hN1⟩ : ∃ S, bytes n1 = S := ⟨_, rfl⟩
 obtain ⟨N2, hN2⟩ : ∃ S, bytes n2 = S := ⟨_, rfl⟩
 rw [hTB, hUB, hN1, hN2]
 rw [hTB] at S1
 have B0 : Hid (Below w.heap.size w (w.alloc (.cells #[.int .i64 7, .string TB, .string UB, .bool n0, .string N1, .string N2, .bool flag, .bool sign, .int .i64 c0, .int .i64 c1, .int .i64 c2, .int .i64 c3, .int .i64 z] 33))) := Lib.hid ((Below.refl _ _).alloc (Nat.le_refl _) _)
 clear hT e1 hTB hUB hN1 hN2 h1 h2 h3 h4 ht
 go_enter Tryz.func19, Tryz.ntmps19
 go_wp2_with fail
 refine (S1.out _ (HT.out.keep B0.out)).mono ?_
 rintro e w1 ⟨rfl, hb1⟩
 have HF := Lib.hid (B0.out.trans (hb1.mono B0.out.size))
 clear hb1
 go_wp2
 go_ret
 exact ⟨rfl, HF.out⟩
theorem spellt_num (g : GT) (t : List UInt8) (w : World) (hT : Tabs w) (hs : Small g.1) (hk : g.1.kind = 10) (ht : M.numS g.1.num g.1.flag g.1.sign = t) :
  Calls Tryz.prog 19 #[.agg (gtv g)] w (StP w t) := by
 obtain ⟨⟨k, text, unit, ⟨n0, n1, n2⟩, flag, sign⟩, ⟨c0, c1, c2, c3⟩, z⟩ := g
 obtain ⟨h1, h2, h3, h4⟩ := hs
 simp only at h1 h2 h3 h4 hk ht
 have HT := Lib.hid hT
 subst hk
 have e1 := gtv_lit 10 text unit n0 n1 n2 flag sign c0 c1 c2 c3 z
 rw [e1]
 unfold StP
 obtain ⟨r, hr⟩ : ∃ r, M.numS (n0, n1, n2) flag sign = r := ⟨_, rfl⟩
 rw [hr] at ht
 have S1 := Lib.hid (fun W hW => number_any (n0, n1, n2) flag sign r W hW h3 h4 hr)
 have hrl := numS_len (n0, n1, n2) flag sign h3 h4
 rw [hr] at hrl
 have zr := bytes_size r
 obtain ⟨RB, hRB⟩ : ∃ S, bytes r = S := ⟨_, rfl⟩
 unfold numV at S1
 simp only at S1
 rw [hRB] at S1 zr
 have HRB := Lib.hid hRB
 have Ht := Lib.hid ht
 have zR : RB.size <= 20601 := by omega
 obtain ⟨TB, hTB⟩ : ∃ S, bytes text = S := ⟨_, rfl⟩
 obtain ⟨UB, hUB⟩ : ∃ S, bytes unit = S := ⟨_, rfl⟩
 obtain ⟨N1, hN1⟩ : ∃ S, bytes n1 = S := ⟨_, rfl⟩
 obtain ⟨N2, hN2⟩ : ∃ S, bytes n2 = S := ⟨_, rfl⟩
 rw [hTB, hUB, hN1, hN2]
 rw [hN1, hN2] at S1
 have B0 : Hid (Below w.heap.size w (w.alloc (.cells #[.int .i64 10, .string TB, .string UB, .bool n0, .string N1, .string N2, .bool flag, .bool sign, .int .i64 c0, .int .i64 c1, .int .i64 c2, .int .i64 c3, .int .i64 z] 33))) := Lib.hid ((Below.refl _ _).alloc (Nat.le_refl _) _)
 clear hT e1 hr hRB hTB hUB hN1 hN2 h1 h2 h3 h4 ht zr hrl
 go_enter Tryz.func19, Tryz.ntmps19
 go_wp2_with fail
 refine (S1.out _ (HT.out.keep B0.out)).mono ?_
 rintro e w1 ⟨rfl, hb1⟩
 have HF := Lib.hid (B0.out.trans (hb1.mono B0.out.size))
 clear hb1
 go_wp2
 go_ret
 exact ⟨congrArg (fun x => Ending.returned (Value.string x)) (by rw [<- Ht.out]; exact HRB.out.symm), HF.out⟩
theorem spellt_pct (g : GT) (t : List UInt8) (w : World) (hT : Tabs w) (hs : Small g.1) (hk : g.1.kind = 11) (ht : M.numS g.1.num g.1.flag g.1.sign ++ [37] = t) :
  Calls Tryz.prog 19 #[.agg (gtv g)] w (StP w t) := by
 obtain ⟨⟨k, text, unit, ⟨n0, n1, n2⟩, flag, sign⟩, ⟨c0, c1, c2, c3⟩, z⟩ := g
 obtain ⟨h1, h2, h3, h4⟩ := hs
 simp only at h1 h2 h3 h4 hk ht
 have HT := Lib.hid hT
 subst hk
 have e1 := gtv_lit 11 text unit n0 n1 n2 flag sign c0 c1 c2 c3 z
 rw [e1]
 unfold StP
 obtain ⟨r, hr⟩ : ∃ r, M.numS (n0, n1, n2) flag sign = r := ⟨_, rfl⟩
 rw [hr] at ht
 have S1 := Lib.hid (fun W hW => number_any (n0, n1, n2) flag sign r W hW h3 h4 hr)
 have hrl := numS_len (n0, n1, n2) flag sign h3 h4
 rw [hr] at hrl
 have zr := bytes_size r
 obtain ⟨RB, hRB⟩ : ∃ S, bytes r = S := ⟨_, rfl⟩
 unfold numV at S1
 simp only at S1
 rw [hRB] at S1 zr
 have HRB := Lib.hid hRB
 have Ht := Lib.hid ht
 have zR : RB.size <= 20601 := by omega
 obtain ⟨TB, hTB⟩ : ∃ S, bytes text = S := ⟨_, rfl⟩
 obtain ⟨UB, hUB⟩ : ∃ S, bytes unit = S := ⟨_, rfl⟩
 obtain ⟨N1, hN1⟩ : ∃ S, bytes n1 = S := ⟨_, rfl⟩
 obtain ⟨N2, hN2⟩ : ∃ S, bytes n2 = S := ⟨_, rfl⟩
 rw [hTB, hUB, hN1, hN2]
 rw [hN1, hN2] at S1
 have B0 : Hid (Below w.heap.size w (w.alloc (.cells #[.int .i64 11, .string TB, .string UB, .bool n0, .string N1, .string N2, .bool flag, .bool sign, .int .i64 c0, .int .i64 c1, .int .i64 c2, .int .i64 c3, .int .i64 z] 33))) := Lib.hid ((Below.refl _ _).alloc (Nat.le_refl _) _)
 clear hT e1 hr hRB hTB hUB hN1 hN2 h1 h2 h3 h4 ht zr hrl
 go_enter Tryz.func19, Tryz.ntmps19
 go_wp2_with fail
 refine (S1.out _ (HT.out.keep B0.out)).mono ?_
 rintro e w1 ⟨rfl, hb1⟩
 have HF := Lib.hid (B0.out.trans (hb1.mono B0.out.size))
 clear hb1
 go_wp2
 go_ret
 exact ⟨congrArg (fun x => Ending.returned (Value.string x)) (str_join RB ⟨#[37]⟩ t r [37] HRB.out rfl Ht.out), HF.out⟩
theorem spellt_dim (g : GT) (t : List UInt8) (w : World) (hT : Tabs w) (hs : Small g.1) (hk : g.1.kind = 12) (ht : M.numS g.1.num g.1.flag g.1.sign ++ M.unitS g.1.unit = t) :
  Calls Tryz.prog 19 #[.agg (gtv g)] w (StP w t) := by
 obtain ⟨⟨k, text, unit, ⟨n0, n1, n2⟩, flag, sign⟩, ⟨c0, c1, c2, c3⟩, z⟩ := g
 obtain ⟨h1, h2, h3, h4⟩ := hs
 simp only at h1 h2 h3 h4 hk ht
 have HT := Lib.hid hT
 subst hk
 have e1 := gtv_lit 12 text unit n0 n1 n2 flag sign c0 c1 c2 c3 z
 rw [e1]
 unfold StP
 obtain ⟨r, hr⟩ : ∃ r, M.numS (n0, n1, n2) flag sign = r := ⟨_, rfl⟩
 obtain ⟨u, hu⟩ : ∃ r, M.unitS unit = r := ⟨_, rfl⟩
 rw [hr, hu] at ht
 have S1 := Lib.hid (fun W hW => number_any (n0, n1, n2) flag sign r W hW h3 h4 hr)
 have U1 := Lib.hid (fun W hW => strip_StP' (unit_any unit u W hW h2 hu))
 have hrl := numS_len (n0, n1, n2) flag sign h3 h4
 have hul := unitS_len unit h2
 rw [hr] at hrl
 rw [hu] at hul
 have a1 := cat_run r u t ht (by omega) (by omega)
 obtain ⟨RB, hRB⟩ : ∃ S, bytes r = S := ⟨_, rfl⟩
 obtain ⟨VB, hVB⟩ : ∃ S, bytes u = S := ⟨_, rfl⟩
 obtain ⟨XB, hXB⟩ : ∃ S, bytes t = S := ⟨_, rfl⟩
 unfold numV at S1
 simp only at S1
 rw [hRB] at S1
 rw [hVB] at U1
 rw [hRB, hVB, hXB] at a1
 rw [hXB]
 obtain ⟨TB, hTB⟩ : ∃ S, bytes text = S := ⟨_, rfl⟩
 obtain ⟨UB, hUB⟩ : ∃ S, bytes unit = S := ⟨_, rfl⟩
 obtain ⟨N1, hN1⟩ : ∃ S, bytes n1 = S := ⟨_, rfl⟩
 obtain ⟨N2, hN2⟩ : ∃ S, bytes n2 = S := ⟨_, rfl⟩
 rw [hTB, hUB, hN1, hN2]
 rw [hN1, hN2] at S1
 rw [hUB] at U1
 have B0 : Hid (Below w.heap.size w (w.alloc (.cells #[.int .i64 12, .string TB, .string UB, .bool n0, .string N1, .string N2, .bool flag, .bool sign, .int .i64 c0, .int .i64 c1, .int .i64 c2, .int .i64 c3, .int .i64 z] 33))) := Lib.hid ((Below.refl _ _).alloc (Nat.le_refl _) _)
 obtain ⟨W0, hW0⟩ : ∃ W, w.alloc (.cells #[.int .i64 12, .string TB, .string UB, .bool n0, .string N1, .string N2, .bool flag, .bool sign, .int .i64 c0, .int .i64 c1, .int .i64 c2, .int .i64 c3, .int .i64 z] 33) = W := ⟨_, rfl⟩
 have hcs : CB W0 w.heap.size #[.int .i64 12, .string TB, .string UB, .bool n0, .string N1, .string N2, .bool flag, .bool sign, .int .i64 c0, .int .i64 c1, .int .i64 c2, .int .i64 c3, .int .i64 z] := by rw [<- hW0]; exact CB.new _ _
 have g2 := hcs.cell 2
 have g3 := hcs.cell 3
 have g4 := hcs.cell 4
 have g5 := hcs.cell 5
 have g6 := hcs.cell 6
 have g7 := hcs.cell 7
 have zl := hcs.lt
 have HW0 := Lib.hid hW0
 have B1 : Hid (Below w.heap.size w W0) := Lib.hid (by rw [<- hW0]; exact B0.out)
 clear hT e1 hr hu hRB hVB hXB hTB hUB hN1 hN2 h1 h2 h3 h4 ht hrl hul hW0 hcs
 go_enter Tryz.func19, Tryz.ntmps19
 go_upto_region 19 with (fail)
 rw [HW0.out]
 refine wp_region_noPanic ?_
 refine wp_region_held_drew (S := fun W => W.cell? ⟨w.heap.size, 2, none⟩ = some (.string UB) /\ W.cell? ⟨w.heap.size, 3, none⟩ = some (.bool n0) /\ W.cell? ⟨w.heap.size, 4, none⟩ = some (.string N1) /\ W.cell? ⟨w.heap.size, 5, none⟩ = some (.string N2) /\ W.cell? ⟨w.heap.size, 6, none⟩ = some (.bool flag) /\ W.cell? ⟨w.heap.size, 7, none⟩ = some (.bool sign)) (by kernel_rfl) ⟨g2, g3, g4, g5, g6, g7⟩ (fun hS => ?_)
 refine wpAnyH_take (i := 0) (oi := _) (v := ?_) (List.getElem?_toArray.trans (by simp only [List.getElem?_cons_succ, List.getElem?_cons_zero]; exact rfl)) (by kernel_rfl) (by kernel_rfl) (by kernel_rfl) (fun _ _ _ h => h) (Or.inl ⟨by rfl, ?_⟩) (by assumption) ?_
 rotate_left
 ·(intro V hSV; (try dsimp only at hSV); (try obtain ⟨s2, s3, s4, s5, s6, s7⟩ := hSV); go_simp; (try rw [if_neg (by omega)]); (try with_reducible rfl))
 try simp only [List.getElem_toArray, List.getElem_cons_succ, List.getElem_cons_zero, Act.put, List.setIfInBounds_toArray, List.set_cons_zero, List.set_cons_succ]
 refine wpAnyH_take (i := 1) (oi := _) (v := ?_) (List.getElem?_toArray.trans (by simp only [List.getElem?_cons_succ, List.getElem?_cons_zero]; exact rfl)) (by kernel_rfl) (by kernel_rfl) (by kernel_rfl) (fun _ _ _ h => h) (Or.inl ⟨by rfl, ?_⟩) (by assumption) ?_
 rotate_left
 ·(intro V hSV; (try dsimp only at hSV); (try obtain ⟨s2, s3, s4, s5, s6, s7⟩ := hSV); go_simp; (try rw [if_neg (by omega)]); (try with_reducible rfl))
 try simp only [List.getElem_toArray, List.getElem_cons_succ, List.getElem_cons_zero, Act.put, List.setIfInBounds_toArray, List.set_cons_zero, List.set_cons_succ]
 refine wpAnyH_take (i := 2) (oi := _) (v := ?_) (List.getElem?_toArray.trans (by simp only [List.getElem?_cons_succ, List.getElem?_cons_zero]; exact rfl)) (by kernel_rfl) (by kernel_rfl) (by kernel_rfl) (fun _ _ _ h => h) (Or.inl ⟨by rfl, ?_⟩) (by assumption) ?_
 rotate_left
 ·(intro V hSV; (try dsimp only at hSV); (try obtain ⟨s2, s3, s4, s5, s6, s7⟩ := hSV); go_simp; (try rw [if_neg (by omega)]); (try with_reducible rfl))
 try simp only [List.getElem_toArray, List.getElem_cons_succ, List.getElem_cons_zero, Act.put, List.setIfInBounds_toArray, List.set_cons_zero, List.set_cons_succ]
 refine wpAnyH_take (i := 3) (oi := _) (v := ?_) (List.getElem?_toArray.trans (by simp only [List.getElem?_cons_succ, List.getElem?_cons_zero]; exact rfl)) (by kernel_rfl) (by kernel_rfl) (by kernel_rfl) (fun _ _ _ h => h) (Or.inl ⟨by rfl, ?_⟩) (by assumption) ?_
 rotate_left
 ·(intro V hSV; (try dsimp only at hSV); (try obtain ⟨s2, s3, s4, s5, s6, s7⟩ := hSV); go_simp; (try rw [if_neg (by omega)]); (try with_reducible rfl))
 try simp only [List.getElem_toArray, List.getElem_cons_succ, List.getElem_cons_zero, Act.put, List.setIfInBounds_toArray, List.set_cons_zero, List.set_cons_succ]
 refine wpAnyH_take (i := 4) (oi := _) (v := ?_) (List.getElem?_toArray.trans (by simp only [List.getElem?_cons_succ, List.getElem?_cons_zero]; exact rfl)) (by kernel_rfl) (by kernel_rfl) (by kernel_rfl) (fun _ _ _ h => h) (Or.inl ⟨by rfl, ?_⟩) (by assumption) ?_
 rotate_left
 ·(intro V hSV; (try dsimp only at hSV); (try obtain ⟨s2, s3, s4, s5, s6, s7⟩ := hSV); go_simp; (try rw [if_neg (by omega)]); (try with_reducible rfl))
 try simp only [List.getElem_toArray, List.getElem_cons_succ, List.getElem_cons_zero, Act.put, List.setIfInBounds_toArray, List.set_cons_zero, List.set_cons_succ]
 refine wpAnyH_take (i := 5) (oi := _) (v := ?_) (List.getElem?_toArray.trans (by simp only [List.getElem?_cons_succ, List.getElem?_cons_zero]; exact rfl)) (by kernel_rfl) (by kernel_rfl) (by kernel_rfl) (fun _ _ _ h => h) (Or.inl ⟨by rfl, ?_⟩) (by assumption) ?_
 rotate_left
 ·(intro V hSV; (try dsimp only at hSV); (try obtain ⟨s2, s3, s4, s5, s6, s7⟩ := hSV); go_simp; (try rw [if_neg (by omega)]); (try with_reducible rfl))
 try simp only [List.getElem_toArray, List.getElem_cons_succ, List.getElem_cons_zero, Act.put, List.setIfInBounds_toArray, List.set_cons_zero, List.set_cons_succ]
 refine wpAnyH_take (i := 7) (oi := _) (v := ?_) (List.getElem?_toArray.trans (by simp only [List.getElem?_cons_succ, List.getElem?_cons_zero]; exact rfl)) (by kernel_rfl) (by kernel_rfl) (by kernel_rfl) (fun _ _ _ h => h) (Or.inl ⟨by rfl, ?_⟩) (by assumption) ?_
 rotate_left
 ·(intro V hSV; (try dsimp only at hSV); (try obtain ⟨s2, s3, s4, s5, s6, s7⟩ := hSV); go_simp; (try rw [if_neg (by omega)]); (try with_reducible rfl))
 try simp only [List.getElem_toArray, List.getElem_cons_succ, List.getElem_cons_zero, Act.put, List.setIfInBounds_toArray, List.set_cons_zero, List.set_cons_succ]
 refine wpAnyH_take (i := 8) (oi := _) (v := ?_) (List.getElem?_toArray.trans (by simp only [List.getElem?_cons_succ, List.getElem?_cons_zero]; exact rfl)) (by kernel_rfl) (by kernel_rfl) (by kernel_rfl) (fun _ _ _ h => h) (Or.inl ⟨by rfl, ?_⟩) (by assumption) ?_
 rotate_left
 ·(intro V hSV; (try dsimp only at hSV); (try obtain ⟨s2, s3, s4, s5, s6, s7⟩ := hSV); go_simp; (try rw [if_neg (by omega)]); (try with_reducible rfl))
 try simp only [List.getElem_toArray, List.getElem_cons_succ, List.getElem_cons_zero, Act.put, List.setIfInBounds_toArray, List.set_cons_zero, List.set_cons_succ]
 refine wpAnyH_ready (rs := [6]) (by kernel_rfl) (by simp) ?_
 refine AllReadyH.cons rfl (fun K hK => ?_) AllReadyH.nil
 go_simp
 refine (S1.out _ (HT.out.keep B1.out.drew)).mono ?_
 rintro e w5 ⟨rfl, hb5⟩
 refine hK.out _ _ (keep6 hS hb5 zl) (fun hS => ?_)
 clear hK K
 have hb6 := B1.out.drew.trans (hb5.mono B1.out.drew.size)
 refine wpAnyH_ready (rs := [9]) (by kernel_rfl) (by simp) ?_
 refine AllReadyH.cons rfl (fun K hK => ?_) AllReadyH.nil
 go_simp
 refine (U1.out _ (HT.out.keep hb6)).mono ?_
 rintro e w7 ⟨rfl, hb7⟩
 refine hK.out _ _ (keep6 hS hb7 (Nat.lt_of_lt_of_le zl hb5.size)) (fun hS => ?_)
 clear hK K
 refine rtk 10 ?_
 refine rtk 11 ?_
 refine wpAnyH_done (by kernel_rfl) ?_ _
 refine NoPanic.normal ?_
 have hb8 := hb6.trans (hb7.mono hb6.size)
 go_wp2
 go_ret
 exact ⟨rfl, hb8⟩
theorem spellt_raw6 (g : GT) (t : List UInt8) (w : World) (hT : Tabs w) (hs : Small g.1) (hk : g.1.kind = 6) (ht : g.1.text = t) :
  Calls Tryz.prog 19 #[.agg (gtv g)] w (StP w t) := by
 obtain ⟨⟨k, text, unit, ⟨n0, n1, n2⟩, flag, sign⟩, ⟨c0, c1, c2, c3⟩, z⟩ := g
 obtain ⟨h1, h2, h3, h4⟩ := hs
 simp only at h1 h2 h3 h4 hk ht
 have HT := Lib.hid hT
 subst hk
 subst ht
 have e1 := gtv_lit 6 text unit n0 n1 n2 flag sign c0 c1 c2 c3 z
 rw [e1]
 unfold StP
 obtain ⟨TB, hTB⟩ : ∃ S, bytes text = S := ⟨_, rfl⟩
 obtain ⟨UB, hUB⟩ : ∃ S, bytes unit = S := ⟨_, rfl⟩
 obtain ⟨N1, hN1⟩ : ∃ S, bytes n1 = S := ⟨_, rfl⟩
 obtain ⟨N2, hN2⟩ : ∃ S, bytes n2 = S := ⟨_, rfl⟩
 rw [hTB, hUB, hN1, hN2]
 have B0 : Hid (Below w.heap.size w (w.alloc (.cells #[.int .i64 6, .string TB, .string UB, .bool n0, .string N1, .string N2, .bool flag, .bool sign, .int .i64 c0, .int .i64 c1, .int .i64 c2, .int .i64 c3, .int .i64 z] 33))) := Lib.hid ((Below.refl _ _).alloc (Nat.le_refl _) _)
 clear hT e1 hTB hUB hN1 hN2 h1 h2 h3 h4
 go_enter Tryz.func19, Tryz.ntmps19
 go_wp2
 go_ret
 exact ⟨rfl, B0.out⟩
theorem spellt_raw8 (g : GT) (t : List UInt8) (w : World) (hT : Tabs w) (hs : Small g.1) (hk : g.1.kind = 8) (ht : g.1.text = t) :
  Calls Tryz.prog 19 #[.agg (gtv g)] w (StP w t) := by
 obtain ⟨⟨k, text, unit, ⟨n0, n1, n2⟩, flag, sign⟩, ⟨c0, c1, c2, c3⟩, z⟩ := g
 obtain ⟨h1, h2, h3, h4⟩ := hs
 simp only at h1 h2 h3 h4 hk ht
 have HT := Lib.hid hT
 subst hk
 subst ht
 have e1 := gtv_lit 8 text unit n0 n1 n2 flag sign c0 c1 c2 c3 z
 rw [e1]
 unfold StP
 obtain ⟨TB, hTB⟩ : ∃ S, bytes text = S := ⟨_, rfl⟩
 obtain ⟨UB, hUB⟩ : ∃ S, bytes unit = S := ⟨_, rfl⟩
 obtain ⟨N1, hN1⟩ : ∃ S, bytes n1 = S := ⟨_, rfl⟩
 obtain ⟨N2, hN2⟩ : ∃ S, bytes n2 = S := ⟨_, rfl⟩
 rw [hTB, hUB, hN1, hN2]
 have B0 : Hid (Below w.heap.size w (w.alloc (.cells #[.int .i64 8, .string TB, .string UB, .bool n0, .string N1, .string N2, .bool flag, .bool sign, .int .i64 c0, .int .i64 c1, .int .i64 c2, .int .i64 c3, .int .i64 z] 33))) := Lib.hid ((Below.refl _ _).alloc (Nat.le_refl _) _)
 clear hT e1 hTB hUB hN1 hN2 h1 h2 h3 h4
 go_enter Tryz.func19, Tryz.ntmps19
 go_wp2
 go_ret
 exact ⟨rfl, B0.out⟩
theorem spellt_raw9 (g : GT) (t : List UInt8) (w : World) (hT : Tabs w) (hs : Small g.1) (hk : g.1.kind = 9) (ht : g.1.text = t) :
  Calls Tryz.prog 19 #[.agg (gtv g)] w (StP w t) := by
 obtain ⟨⟨k, text, unit, ⟨n0, n1, n2⟩, flag, sign⟩, ⟨c0, c1, c2, c3⟩, z⟩ := g
 obtain ⟨h1, h2, h3, h4⟩ := hs
 simp only at h1 h2 h3 h4 hk ht
 have HT := Lib.hid hT
 subst hk
 subst ht
 have e1 := gtv_lit 9 text unit n0 n1 n2 flag sign c0 c1 c2 c3 z
 rw [e1]
 unfold StP
 obtain ⟨TB, hTB⟩ : ∃ S, bytes text = S := ⟨_, rfl⟩
 obtain ⟨UB, hUB⟩ : ∃ S, bytes unit = S := ⟨_, rfl⟩
 obtain ⟨N1, hN1⟩ : ∃ S, bytes n1 = S := ⟨_, rfl⟩
 obtain ⟨N2, hN2⟩ : ∃ S, bytes n2 = S := ⟨_, rfl⟩
 rw [hTB, hUB, hN1, hN2]
 have B0 : Hid (Below w.heap.size w (w.alloc (.cells #[.int .i64 9, .string TB, .string UB, .bool n0, .string N1, .string N2, .bool flag, .bool sign, .int .i64 c0, .int .i64 c1, .int .i64 c2, .int .i64 c3, .int .i64 z] 33))) := Lib.hid ((Below.refl _ _).alloc (Nat.le_refl _) _)
 clear hT e1 hTB hUB hN1 hN2 h1 h2 h3 h4
 go_enter Tryz.func19, Tryz.ntmps19
 go_wp2
 go_ret
 exact ⟨rfl, B0.out⟩
theorem spellt_raw13 (g : GT) (t : List UInt8) (w : World) (hT : Tabs w) (hs : Small g.1) (hk : g.1.kind = 13) (ht : g.1.text = t) :
  Calls Tryz.prog 19 #[.agg (gtv g)] w (StP w t) := by
 obtain ⟨⟨k, text, unit, ⟨n0, n1, n2⟩, flag, sign⟩, ⟨c0, c1, c2, c3⟩, z⟩ := g
 obtain ⟨h1, h2, h3, h4⟩ := hs
 simp only at h1 h2 h3 h4 hk ht
 have HT := Lib.hid hT
 subst hk
 subst ht
 have e1 := gtv_lit 13 text unit n0 n1 n2 flag sign c0 c1 c2 c3 z
 rw [e1]
 unfold StP
 obtain ⟨TB, hTB⟩ : ∃ S, bytes text = S := ⟨_, rfl⟩
 obtain ⟨UB, hUB⟩ : ∃ S, bytes unit = S := ⟨_, rfl⟩
 obtain ⟨N1, hN1⟩ : ∃ S, bytes n1 = S := ⟨_, rfl⟩
 obtain ⟨N2, hN2⟩ : ∃ S, bytes n2 = S := ⟨_, rfl⟩
 rw [hTB, hUB, hN1, hN2]
 have B0 : Hid (Below w.heap.size w (w.alloc (.cells #[.int .i64 13, .string TB, .string UB, .bool n0, .string N1, .string N2, .bool flag, .bool sign, .int .i64 c0, .int .i64 c1, .int .i64 c2, .int .i64 c3, .int .i64 z] 33))) := Lib.hid ((Below.refl _ _).alloc (Nat.le_refl _) _)
 clear hT e1 hTB hUB hN1 hN2 h1 h2 h3 h4
 go_enter Tryz.func19, Tryz.ntmps19
 go_wp2
 go_ret
 exact ⟨rfl, B0.out⟩
theorem spellt_comment (g : GT) (t : List UInt8) (w : World) (hT : Tabs w) (hs : Small g.1) (hk : g.1.kind = 25) (ht : 47 :: 42 :: (g.1.text ++ [42, 47]) = t) :
  Calls Tryz.prog 19 #[.agg (gtv g)] w (StP w t) := by
 obtain ⟨⟨k, text, unit, ⟨n0, n1, n2⟩, flag, sign⟩, ⟨c0, c1, c2, c3⟩, z⟩ := g
 obtain ⟨h1, h2, h3, h4⟩ := hs
 simp only at h1 h2 h3 h4 hk ht
 have HT := Lib.hid hT
 subst hk
 have e1 := gtv_lit 25 text unit n0 n1 n2 flag sign c0 c1 c2 c3 z
 rw [e1]
 unfold StP
 have zt := bytes_size text
 have a2 := cat2 [47, 42] text
 have a3 := cat2 ([47, 42] ++ text) [42, 47]
 rw [show [47, 42] ++ text ++ [42, 47] = t by rw [<- ht]; simp] at a3
 rw [show bytes [47, 42] = (⟨#[47, 42]⟩ : ByteArray) from rfl] at a2
 rw [show bytes [42, 47] = (⟨#[42, 47]⟩ : ByteArray) from rfl, <- a2] at a3
 have HA := Lib.hid a3
 obtain ⟨TB, hTB⟩ : ∃ S, bytes text = S := ⟨_, rfl⟩
 obtain ⟨UB, hUB⟩ : ∃ S, bytes unit = S := ⟨_, rfl⟩
 obtain ⟨N1, hN1⟩ : ∃ S, bytes n1 = S := ⟨_, rfl⟩
 obtain ⟨N2, hN2⟩ : ∃ S, bytes n2 = S := ⟨_, rfl⟩
 rw [hTB, hUB, hN1, hN2]
 rw [hTB] at HA
 have zT : TB.size <= 1700 := by rw [<- hTB, zt]; exact h1
 have B0 : Hid (Below w.heap.size w (w.alloc (.cells #[.int .i64 25, .string TB, .string UB, .bool n0, .string N1, .string N2, .bool flag, .bool sign, .int .i64 c0, .int .i64 c1, .int .i64 c2, .int .i64 c3, .int .i64 z] 33))) := Lib.hid ((Below.refl _ _).alloc (Nat.le_refl _) _)
 clear hT e1 hTB hUB hN1 hN2 h1 h2 h3 h4 ht a2 a3 zt
 go_enter Tryz.func19, Tryz.ntmps19
 go_wp2
 go_ret
 exact ⟨congrArg (fun x => Ending.returned (Value.string x)) HA.out, B0.out⟩
theorem spellt_sign (g : GT) (t : List UInt8) (w : World) (hT : Tabs w) (hs : Small g.1) (hk : g.1.kind ≠ 1 /\ g.1.kind ≠ 2 /\ g.1.kind ≠ 3 /\ g.1.kind ≠ 4 /\ g.1.kind ≠ 5 /\ g.1.kind ≠ 7 /\ g.1.kind ≠ 10 /\ g.1.kind ≠ 11 /\ g.1.kind ≠ 12 /\ g.1.kind ≠ 6 /\ g.1.kind ≠ 8 /\ g.1.kind ≠ 9 /\ g.1.kind ≠ 13 /\ g.1.kind ≠ 25) (ht : M.sigS g.1.kind = t) :
  Calls Tryz.prog 19 #[.agg (gtv g)] w (StP w t) := by
 obtain ⟨⟨k, text, unit, ⟨n0, n1, n2⟩, flag, sign⟩, ⟨c0, c1, c2, c3⟩, z⟩ := g
 obtain ⟨h1, h2, h3, h4⟩ := hs
 simp only at h1 h2 h3 h4 hk ht
 have HT := Lib.hid hT
 obtain ⟨h_1, h_2, h_3, h_4, h_5, h_7, h_10, h_11, h_12, h_6, h_8, h_9, h_13, h_25⟩ := hk
 have t1 : (k == 1) = false := by simpa using h_1
 have t2 : (k == 2) = false := by simpa using h_2
 have t3 : (k == 3) = false := by simpa using h_3
 have t4 : (k == 4) = false := by simpa using h_4
 have t5 : (k == 5) = false := by simpa using h_5
 have t7 : (k == 7) = false := by simpa using h_7
 have t10 : (k == 10) = false := by simpa using h_10
 have t11 : (k == 11) = false := by simpa using h_11
 have t12 : (k == 12) = false := by simpa using h_12
 have t6 : (k == 6) = false := by simpa using h_6
 have t8 : (k == 8) = false := by simpa using h_8
 have t9 : (k == 9) = false := by simpa using h_9
 have t13 : (k == 13) = false := by simpa using h_13
 have t25 : (k == 25) = false := by simpa using h_25
 have S1 := Lib.hid (fun w => sign_any k t w ht)
 have e1 := gtv_lit k text unit n0 n1 n2 flag sign c0 c1 c2 c3 z
 rw [e1]
 unfold StP
 obtain ⟨TB, hTB⟩ : ∃ S, bytes text = S := ⟨_, rfl⟩
 obtain ⟨UB, hUB⟩ : ∃ S, bytes unit = S := ⟨_, rfl⟩
 obtain ⟨N1, hN1⟩ : ∃ S, bytes n1 = S := ⟨_, rfl⟩
 obtain ⟨N2, hN2⟩ : ∃ S, bytes n2 = S := ⟨_, rfl⟩
 rw [hTB, hUB, hN1, hN2]
 have B0 : Hid (Below w.heap.size w (w.alloc (.cells #[.int .i64 k, .string TB, .string UB, .bool n0, .string N1, .string N2, .bool flag, .bool sign, .int .i64 c0, .int .i64 c1, .int .i64 c2, .int .i64 c3, .int .i64 z] 33))) := Lib.hid ((Below.refl _ _).alloc (Nat.le_refl _) _)
 clear hT e1 hTB hUB hN1 hN2 h1 h2 h3 h4 ht h_1 h_2 h_3 h_4 h_5 h_7 h_10 h_11 h_12 h_6 h_8 h_9 h_13 h_25
 go_enter Tryz.func19, Tryz.ntmps19
 go_wp2_with fail
 refine (S1.out _).mono ?_
 rintro e w' ⟨rfl, rfl⟩
 go_wp2
 go_ret
 exact ⟨rfl, B0.out⟩
theorem spellt_any (g : GT) (t : List UInt8) (w : World) (hT : Tabs w) (hs : Small g.1) (ht : M.spellT g.1 = t) :
  Calls Tryz.prog 19 #[.agg (gtv g)] w (StP w t) := by
 unfold M.spellT at ht
 by_cases h1 : g.1.kind = 1
 ·rw [if_pos h1] at ht; exact spellt_ident g t w hT hs h1 ht
 rw [if_neg h1] at ht
 by_cases h2 : g.1.kind = 2
 ·rw [if_pos h2] at ht; exact spellt_func g t w hT hs h2 ht
 rw [if_neg h2] at ht
 by_cases h3 : g.1.kind = 3
 ·rw [if_pos h3] at ht; exact spellt_at g t w hT hs h3 ht
 rw [if_neg h3] at ht
 by_cases h4 : g.1.kind = 4
 ·rw [if_pos h4] at ht; exact spellt_hash g t w hT hs h4 ht
 rw [if_neg h4] at ht
 by_cases h5 : g.1.kind = 5
 ·rw [if_pos h5] at ht; exact spellt_text g t w hT hs h5 ht
 rw [if_neg h5] at ht
 by_cases h7 : g.1.kind = 7
 ·rw [if_pos h7] at ht; exact spellt_url g t w hT hs h7 ht
 rw [if_neg h7] at ht
 by_cases h10 : g.1.kind = 10
 ·rw [if_pos h10] at ht; exact spellt_num g t w hT hs h10 ht
 rw [if_neg h10] at ht
 by_cases h11 : g.1.kind = 11
 ·rw [if_pos h11] at ht; exact spellt_pct g t w hT hs h11 ht
 rw [if_neg h11] at ht
 by_cases h12 : g.1.kind = 12
 ·rw [if_pos h12] at ht; exact spellt_dim g t w hT hs h12 ht
 rw [if_neg h12] at ht
 by_cases h6 : g.1.kind = 6
 ·rw [if_pos (.inl h6)] at ht; exact spellt_raw6 g t w hT hs h6 ht
 by_cases h8 : g.1.kind = 8
 ·rw [if_pos (.inr (.inl h8))] at ht; exact spellt_raw8 g t w hT hs h8 ht
 by_cases h9 : g.1.kind = 9
 ·rw [if_pos (.inr (.inr (.inl h9)))] at ht; exact spellt_raw9 g t w hT hs h9 ht
 by_cases h13 : g.1.kind = 13
 ·rw [if_pos (.inr (.inr (.inr h13)))] at ht; exact spellt_raw13 g t w hT hs h13 ht
 rw [if_neg (by omega)] at ht
 by_cases h25 : g.1.kind = 25
 ·rw [if_pos h25] at ht; exact spellt_comment g t w hT hs h25 ht
 rw [if_neg h25] at ht
 exact spellt_sign g t w hT hs ⟨h1, h2, h3, h4, h5, h7, h10, h11, h12, h6, h8, h9, h13, h25⟩ ht
end Go.Proofs.YtimjbjppmhdjnaaGreatDoor
