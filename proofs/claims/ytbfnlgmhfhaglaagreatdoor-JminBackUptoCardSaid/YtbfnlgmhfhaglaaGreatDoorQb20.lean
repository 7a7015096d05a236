import Derived.Test.YtbfnlgmhfhaglaaGreatDoorQb19
import Derived.Test.YtbfnlgmhfhaglaaGreatDoorQb18
import Derived.Test.YtbfnlgmhfhaglaaGreatDoorQb07
import Derived.Test.YtbfnlgmhfhaglaaGreatDoorQb02
import Derived.Test.YtbfnlgmhfhaglaaGreatDoorQb15
import Derived.Deep.DeepCutAuto
import Derived.WalkLawsBesides
import Derived.Test.YtbfnlgmhfhaglaaGreatDoorQb03
set_option maxHeartbeats 4000000
set_option maxRecDepth 100000
namespace Go.Proofs.YtbfnlgmhfhaglaaGreatDoor
open Go.RowKit
set_option linter.unusedVariables false
set_option linter.unusedSimpArgs false
theorem jright_top (h : Vh) (kids : Vo) (tv v mv : Value) (w : World) (hC : 1 + h.tx.length + h.ms.length + VoC kids <= 2097152) (hL : VoL 100000 (.cons h kids .nil)) (ht : HdS w h tv mv) (hv : VoS w v kids) :
  Calls Tryz.prog 32 #[.agg (vv h tv v mv)] w fun e w' => e = .returned (.bool (rightH h kids 60)) /\ Below w.heap.size w w' := by
 have b0 := LH ((Below.refl w.heap.size w).alloc (Nat.le_refl _) (.cells (vv h tv v mv) 27))
 have R := LH (rv_any h kids 60 _ tv v mv (by decide) hC hL (ht.below b0.out) (hv.below b0.out))
 have X := LH (VB.new w h tv v mv)
 obtain ⟨W1, hW1⟩ : ∃ x, w.alloc (.cells (vv h tv v mv) 27) = x := ⟨_, rfl⟩
 rw [hW1] at b0 R X
 have HW1 := LH hW1
 obtain ⟨a, c, rfl⟩ := hv.slice
 obtain ⟨ta, tc, htv⟩ := ht.t.slice
 obtain ⟨ma, mc, hmv⟩ := ht.m.slice
 subst htv hmv
 obtain ⟨ans, hans⟩ : ∃ b, rightH h kids 60 = b := ⟨_, rfl⟩
 rw [hans] at R ⊢
 have EXP := LH (show vv h (.slice ta h.tx.length tc) (.slice a kids.len c) (.slice ma h.ms.length mc) = #[.int .i64 h.k, .slice ta h.tx.length tc, .bool h.ng, .string (bytes h.dg), .string (bytes h.ex), .slice a kids.len c, .int .i64 h.fr, .int .i64 h.tt, .slice ma h.ms.length mc] from rfl)
 have HW2 := LH HW1.out
 rw [EXP.out] at HW2 ⊢
 clear hW1 hans hv ht hC hL HW1
 go_enter Tryz.func32, Tryz.ntmps32
 go_upto_region 1 with fail
 rw [HW2.out]
 go_wp2_with (first | (refine wpl_ldV rfl _ rfl w.heap.size 0 h _ _ _ rfl X.out.range ?_) | fail)
 refine (R.out).mono ?_
 rintro e w1 ⟨rfl, hb1⟩
 have d1 := b0.out.trans (hb1.mono b0.out.size)
 clear hb1
 go_wp2
 go_ret
 exact ⟨rfl, d1⟩
def jpc (h : Vh) (kids : Vo) : List Jp := if rightH h kids 60 = true then pcsV h kids else []
theorem pcsV_count (h : Vh) (kids : Vo) : (pcsV h kids).length <= 2 + 3 * VoC kids := by
 have h1 := pcs_count kids h.k h.ms 0
 have h2 := voN_C kids
 unfold pcsV
 split
 ·simp only [List.length_cons, List.length_append, List.length_nil]; omega
 ·simp only [List.length_singleton]; omega
theorem jpieces_any (h : Vh) (kids : Vo) (tv v mv : Value) (w : World) (hT : Tabs w) (hC : 1 + h.tx.length + h.ms.length + VoC kids <= 100000) (hL : VoL 700 (.cons h kids .nil)) (ht : HdS w h tv mv) (hv : VoS w v kids) :
  Calls Tryz.prog 20 #[.agg (vv h tv v mv)] w fun e w' => ∃ u, e = .returned u /\ OwnJ w.heap.size w' u (jpc h kids) /\ Below w.heap.size w w' := by
 have b0 := LH ((Below.refl w.heap.size w).alloc (Nat.le_refl _) (.cells (vv h tv v mv) 27))
 have R := LH (jright_top h kids tv v mv _ (by omega) (VoL.mono (by decide) _ hL) (ht.below b0.out) (hv.below b0.out))
 have X := LH (VB.new w h tv v mv)
 have AP := LH (fun (hr : rightH h kids 60 = true) W (hW : Below w.heap.size w W) => av_any h kids w 60 w.heap.size W tv v mv (.slice none 0 0) [] hT ht hv hr hC hL hW (Nat.le_refl _) hW.size (ownV_nil _ _ _ _) (by have := pcsV_count h kids; simp only [List.length_nil]; omega))
 obtain ⟨W1, hW1⟩ : ∃ x, w.alloc (.cells (vv h tv v mv) 27) = x := ⟨_, rfl⟩
 rw [hW1] at b0 R X
 have HW1 := LH hW1
 obtain ⟨a, c, rfl⟩ := hv.slice
 obtain ⟨ta, tc, htv⟩ := ht.t.slice
 obtain ⟨ma, mc, hmv⟩ := ht.m.slice
 subst htv hmv
 have JP := LH (show jpc h kids = if rightH h kids 60 = true then pcsV h kids else [] from rfl)
 obtain ⟨ans, hans⟩ : ∃ b, rightH h kids 60 = b := ⟨_, rfl⟩
 rw [hans] at R AP JP
 obtain ⟨LJ, hLJ⟩ : ∃ x, jpc h kids = x := ⟨_, rfl⟩
 rw [hLJ] at JP ⊢
 have EXP := LH (show vv h (.slice ta h.tx.length tc) (.slice a kids.len c) (.slice ma h.ms.length mc) = #[.int .i64 h.k, .slice ta h.tx.length tc, .bool h.ng, .string (bytes h.dg), .string (bytes h.ex), .slice a kids.len c, .int .i64 h.fr, .int .i64 h.tt, .slice ma h.ms.length mc] from rfl)
 have HW2 := LH HW1.out
 rw [EXP.out] at HW2 ⊢
 clear hW1 hans hv ht hC hL HW1 hT hLJ
 cases ans with
 | false =>
  have hl : LJ = [] := by rw [JP.out]; rfl
  subst hl
  clear JP AP
  go_enter Tryz.func20, Tryz.ntmps20
  go_upto_region 1 with fail
  rw [HW2.out]
  go_wp2_with (first | (refine wpl_ldV rfl _ rfl w.heap.size 0 h _ _ _ rfl X.out.range ?_) | fail)
  refine (R.out).mono ?_
  rintro e w1 ⟨rfl, hb1⟩
  have d1 := b0.out.trans (hb1.mono b0.out.size)
  clear hb1
  go_wp2
  go_ret
  exact ⟨_, rfl, ownV_nil _ _ _ _, d1⟩
 | true =>
  have hl : LJ = pcsV h kids := by rw [JP.out]; rfl
  subst hl
  have AP1 := LH (AP.out rfl)
  clear JP AP
  go_enter Tryz.func20, Tryz.ntmps20
  go_upto_region 1 with fail
  rw [HW2.out]
  go_wp2_with (first | (refine wpl_ldV rfl _ rfl w.heap.size 0 h _ _ _ rfl X.out.range ?_) | fail)
  refine (R.out).mono ?_
  rintro e w1 ⟨rfl, hb1⟩
  have d1 := b0.out.trans (hb1.mono b0.out.size)
  have X1 := LH (X.out.keep hb1)
  have A2 := LH (AP1.out w1 d1)
  clear hb1
  go_wp2_with (first | (refine wpl_ldV rfl _ rfl w.heap.size 0 h _ _ _ rfl X1.out.range ?_) | fail)
  refine (A2.out).mono ?_
  rintro e w2 ⟨l2, rfl, J2⟩
  have d2 := d1.trans J2.bl
  have J3 := LH J2.own
  clear J2
  go_wp2
  go_ret
  exact ⟨_, rfl, by simpa using J3.out, d2⟩
def atP (n : Nat) : M.Toks -> Int
 | [] => n
 | t :: _ => t.2.1
def kindP : M.Toks -> Nat
 | [] => 0
 | t :: _ => t.1
def synP (n : Nat) (ts : M.Toks) : Int × Int := (3, atP n ts)
structure Fr (pb : Nat) (w w' : World) : Prop where
 lo : Below pb w w'
 oth : ∀ j, j < w.heap.size -> j ≠ pb -> w'.heap[j]? = w.heap[j]?
theorem Fr.refl (pb : Nat) (w : World) : Fr pb w w := ⟨Below.refl _ _, fun _ _ _ => rfl⟩
theorem Fr.trans {pb : Nat} {a b c : World} (h : Fr pb a b) (k : Fr pb b c) : Fr pb a c :=
 ⟨h.lo.trans k.lo, fun j hj hn => (k.oth j (Nat.lt_of_lt_of_le hj h.lo.size) hn).trans (h.oth j hj hn)⟩
theorem Fr.of {pb : Nat} {w w' : World} (h : Below w.heap.size w w') (hp : pb <= w.heap.size) : Fr pb w w' := ⟨h.mono hp, fun j hj _ => h.block j hj⟩
def ptrP (w0 : World) : Value := .pointer (some ⟨w0.heap.size, 0, none⟩)
theorem infoTok1 : (Tryz.prog.info? 51).map (·.size) = some 3 := by kernel_rfl
def takeP (n k : Nat) : M.Toks -> Except (Int × Int) ((Nat × Nat × Nat) × M.Toks)
 | t :: r => if t.1 = k then .ok (t, r) else .error (synP n (t :: r))
 | [] => .error (synP n [])
def leafP (k : Int) (fr : Int) : Vh := ⟨k, [], false, [], [], fr, 0, []⟩
def nilV : Value := .slice none 0 0
theorem Fr.setRow {pb : Nat} {w w' : World} (h : Fr pb w w') {g : Nat} (hg : w.heap.size <= g) (hp : pb <= g) (cs : Array Value) : Fr pb w (w'.setRow g cs) :=
 ⟨below_setRowK h.lo hp cs, fun j hj hn => by rw [setRow_other _ _ _ _ (by omega)]; exact h.oth j hj hn⟩
theorem infoV1 : (Tryz.prog.info? 27).map (·.size) = some 9 := infoVal
end Go.Proofs.YtbfnlgmhfhaglaaGreatDoor
namespace Go.Proofs.YtbfnlgmhfhaglaaGreatDoor
set_option linter.unusedVariables false
set_option linter.unusedSimpArgs false
def Vo.snoc : Vo -> Vh -> Vo -> Vo
 | .nil, h, k => .cons h k .nil
 | .cons a b r, h, k => .cons a b (r.snoc h k)
theorem snoc_len (L : Vo) (h : Vh) (k : Vo) : (L.snoc h k).len = L.len + 1 := by
 induction L with
 | nil => rfl
 | cons a b r _ ih => simp only [Vo.snoc, Vo.len, ih]
def unitsV (s : List UInt8) : Option (List Nat) := if 2 <= s.length /\ s.getD 0 0 = 34 /\ s.getD (s.length - 1) 0 = 34 then M.uF s.length ((s.drop 1).take (s.length - 2)) else none
def tokB (l : List UInt8) (t : Nat × Nat × Nat) : List UInt8 := (l.drop t.2.1).take (t.2.2 - t.2.1)
def txtL (l : List UInt8) (t : Nat × Nat × Nat) : List Int := iN ((unitsV (tokB l t)).getD [])
def textV (l : List UInt8) (t : Nat × Nat × Nat) : Vh := ⟨3, txtL l t, false, [], [], t.2.1, 0, []⟩
def numbV (l : List UInt8) (t : Nat × Nat × Nat) : Vh := ⟨4, [], (M.readN (tokB l t)).1.1, (M.readN (tokB l t)).1.2.1, (M.readN (tokB l t)).1.2.2, t.2.1, 0, []⟩
def TkIn (l : List UInt8) (ts : M.Toks) : Prop := ∀ t ∈ ts, t.2.1 < t.2.2 /\ t.2.2 <= l.length
abbrev PRes := Except (Int × Int) (Vh × Vo × M.Toks)
abbrev LRes := Except (Int × Int) (List Int × Vo × M.Toks)
def itemW (l : List UInt8) (val : M.Toks -> PRes) (obj : Bool) (ts : M.Toks) (ms : List Int) (L : Vo) : LRes :=
 if obj then
  match takeP l.length 7 ts with
  | .error e => .error e
  | .ok (t, r) => match takeP l.length 5 r with
   | .error e => .error e
   | .ok (c, r2) => match val r2 with
    | .error e => .error e
    | .ok (h, kids, r3) => .ok (ms ++ [(c.2.1 : Int)], (L.snoc (textV l t) .nil).snoc h kids, r3)
 else match val ts with
  | .error e => .error e
  | .ok (h, kids, r) => .ok (ms, L.snoc h kids, r)
def kdL (obj : Bool) : Int := if obj then 1 else 2
def opL (obj : Bool) : Nat := if obj then 1 else 3
def shL (obj : Bool) : Nat := if obj then 2 else 4
mutual
def valP (l : List UInt8) : Nat -> Nat -> M.Toks -> PRes
 | 0, _, ts => .error (synP l.length ts)
 | f + 1, deep, ts => match ts with
  | [] => .error (synP l.length [])
  | t :: r =>
   if t.1 = 7 then .ok (textV l t, .nil, r)
   else if t.1 = 8 then .ok (numbV l t, .nil, r)
   else if t.1 = 9 \/ t.1 = 10 \/ t.1 = 11 then .ok (leafP ((t.1 : Int) - 4) t.2.1, .nil, r)
   else if t.1 = 1 \/ t.1 = 3 then
    (match deep with
     | 0 => .error (4, (t.2.1 : Int))
     | d + 1 =>
      if kindP r = t.1 + 1 then restP l f (decide (t.1 = 1)) d t.2.1 r [] .nil
      else match itemW l (valP l f d) (decide (t.1 = 1)) r [] .nil with
       | .error e => .error e
       | .ok (ms, L, r2) => restP l f (decide (t.1 = 1)) d t.2.1 r2 ms L)
   else .error (synP l.length (t :: r))
def restP (l : List UInt8) : Nat -> Bool -> Nat -> Nat -> M.Toks -> List Int -> Vo -> PRes
 | 0, _, _, _, ts, _, _ => .error (synP l.length ts)
 | f + 1, obj, d, fr, ts, ms, L =>
  if kindP ts = shL obj then
   match takeP l.length (shL obj) ts with
   | .error e => .error e
   | .ok (t, r) => .ok (⟨kdL obj, [], false, [], [], fr, t.2.1, ms⟩, L, r)
  else match takeP l.length 6 ts with
   | .error e => .error e
   | .ok (c, r) => match itemW l (valP l f d) obj r (ms ++ [(c.2.1 : Int)]) L with
    | .error e => .error e
    | .ok (ms2, L2, r2) => restP l f obj d fr r2 ms2 L2
end
def parP (l : List UInt8) (deep : Nat) (ts : M.Toks) : Except (Int × Int) (Vh × Vo) := match valP l (2 * ts.length + 2) deep ts with
 | .error e => .error e
 | .ok (h, kids, []) => .ok (h, kids)
 | .ok (_, _, r) => .error (synP l.length r)
theorem take_len {n k : Nat} {ts r : M.Toks} {t : Nat × Nat × Nat} (e : takeP n k ts = .ok (t, r)) : ts = t :: r := by
 cases ts with
 | nil => simp [takeP] at e
 | cons a b =>
  by_cases hk : a.1 = k
  ·simp only [takeP, if_pos hk, Except.ok.injEq, Prod.mk.injEq] at e
   rw [e.1, e.2]
  ·simp [takeP, hk] at e
def Suf (r ts : M.Toks) : Prop := ∃ p : M.Toks, p ≠ [] /\ ts = p ++ r
theorem Suf.len {r ts : M.Toks} (h : Suf r ts) : r.length < ts.length := by
 obtain ⟨p, hp, rfl⟩ := h
 have := List.length_pos_iff.2 hp
 rw [List.length_append]; omega
theorem Suf.trans {a b c : M.Toks} (h : Suf a b) (k : Suf b c) : Suf a c := by
 obtain ⟨p, hp, rfl⟩ := h
 obtain ⟨q, hq, rfl⟩ := k
 exact ⟨q ++ p, by simp [hq], by simp⟩
theorem Suf.one (t : Nat × Nat × Nat) (r : M.Toks) : Suf r (t :: r) := ⟨[t], by simp, rfl⟩
theorem take_suf {n k : Nat} {ts r : M.Toks} {t : Nat × Nat × Nat} (e : takeP n k ts = .ok (t, r)) : Suf r ts := by
 rw [take_len e]; exact Suf.one t r
theorem item_suf {l : List UInt8} {val : M.Toks -> PRes} (hv : ∀ ts h k r, val ts = .ok (h, k, r) -> Suf r ts) (obj : Bool) (ts : M.Toks) (ms : List Int) (L : Vo) (ms' : List Int) (L' : Vo) (r : M.Toks) (h : itemW l val obj ts ms L = .ok (ms', L', r)) :
  Suf r ts /\ L'.len + r.length <= L.len + ts.length /\ ms'.length + r.length <= ms.length + ts.length := by
 unfold itemW at h
 cases obj with
 | false =>
  simp only [Bool.false_eq_true, if_false] at h
  cases hr : val ts with
  | error e => rw [hr] at h; simp at h
  | ok q =>
   obtain ⟨a, b, c⟩ := q
   rw [hr] at h
   simp only [Except.ok.injEq, Prod.mk.injEq] at h
   obtain ⟨rfl, rfl, rfl⟩ := h
   have s := hv _ _ _ _ hr
   have := s.len
   exact ⟨s, by rw [snoc_len]; omega, by omega⟩
 | true =>
  simp only [if_true] at h
  cases h7 : takeP l.length 7 ts with
  | error e => rw [h7] at h; simp at h
  | ok q =>
   obtain ⟨t, r1⟩ := q
   rw [h7] at h
   simp only at h
   cases h5 : takeP l.length 5 r1 with
   | error e => rw [h5] at h; simp at h
   | ok q =>
    obtain ⟨c, r2⟩ := q
    rw [h5] at h
    simp only at h
    cases hr : val r2 with
    | error e => rw [hr] at h; simp at h
    | ok q =>
     obtain ⟨a, b, c2⟩ := q
     rw [hr] at h
     simp only [Except.ok.injEq, Prod.mk.injEq] at h
     obtain ⟨rfl, rfl, rfl⟩ := h
     have s1 := take_suf h7
     have s2 := take_suf h5
     have s3 := hv _ _ _ _ hr
     have l1 := s1.len
     have l2 := s2.len
     have l3 := s3.len
     refine ⟨s3.trans (s2.trans s1), by rw [snoc_len, snoc_len]; omega, by rw [List.length_append]; simp; omega⟩
theorem val_suf (l : List UInt8) : ∀ f, (∀ deep ts h k r, valP l f deep ts = .ok (h, k, r) -> Suf r ts) /\ (∀ obj d fr ts ms L h k r, restP l f obj d fr ts ms L = .ok (h, k, r) -> Suf r ts) := by
 intro f
 induction f with
 | zero => exact ⟨fun deep ts h k r e => by simp [valP] at e, fun obj d fr ts ms L h k r e => by simp [restP] at e⟩
 | succ f ih =>
  obtain ⟨iv, ir⟩ := ih
  refine ⟨fun deep ts h k r e => ?_, fun obj d fr ts ms L h k r e => ?_⟩
  ·cases ts with
   | nil => simp [valP] at e
   | cons t r0 =>
    unfold valP at e
    simp only at e
    by_cases h7 : t.1 = 7
    ·rw [if_pos h7] at e
     simp only [Except.ok.injEq, Prod.mk.injEq] at e
     rw [<- e.2.2]; exact Suf.one t r0
    ·rw [if_neg h7] at e
     by_cases h8 : t.1 = 8
     ·rw [if_pos h8] at e
      simp only [Except.ok.injEq, Prod.mk.injEq] at e
      rw [<- e.2.2]; exact Suf.one t r0
     ·rw [if_neg h8] at e
      by_cases h9 : t.1 = 9 \/ t.1 = 10 \/ t.1 = 11
      ·rw [if_pos h9] at e
       simp only [Except.ok.injEq, Prod.mk.injEq] at e
       rw [<- e.2.2]; exact Suf.one t r0
      ·rw [if_neg h9] at e
       by_cases h1 : t.1 = 1 \/ t.1 = 3
       ·rw [if_pos h1] at e
        cases deep with
        | zero => simp at e
        | succ d =>
         simp only at e
         by_cases hk : kindP r0 = t.1 + 1
         ·rw [if_pos hk] at e
          exact (ir _ _ _ _ _ _ _ _ _ e).trans (Suf.one t r0)
         ·rw [if_neg hk] at e
          cases hi : itemW l (valP l f d) (decide (t.1 = 1)) r0 [] .nil with
          | error x => rw [hi] at e; simp at e
          | ok q =>
           obtain ⟨ms, L, r2⟩ := q
           rw [hi] at e
           exact (ir _ _ _ _ _ _ _ _ _ e).trans ((item_suf (iv d) _ _ _ _ _ _ _ hi).1.trans (Suf.one t r0))
       ·rw [if_neg h1] at e; simp at e
  ·unfold restP at e
   by_cases hk : kindP ts = shL obj
   ·rw [if_pos hk] at e
    cases ht : takeP l.length (shL obj) ts with
    | error x => rw [ht] at e; simp at e
    | ok q =>
     obtain ⟨t, r1⟩ := q
     rw [ht] at e
     simp only [Except.ok.injEq, Prod.mk.injEq] at e
     rw [<- e.2.2]; exact take_suf ht
   ·rw [if_neg hk] at e
    cases ht : takeP l.length 6 ts with
    | error x => rw [ht] at e; simp at e
    | ok q =>
     obtain ⟨t, r1⟩ := q
     rw [ht] at e
     simp only at e
     cases hi : itemW l (valP l f d) obj r1 (ms ++ [(t.2.1 : Int)]) L with
     | error x => rw [hi] at e; simp at e
     | ok q =>
      obtain ⟨ms2, L2, r2⟩ := q
      rw [hi] at e
      exact (ir _ _ _ _ _ _ _ _ _ e).trans ((item_suf (iv d) _ _ _ _ _ _ _ hi).1.trans (take_suf ht))
def pieceB (l : List UInt8) (t : Nat × Nat × Nat) : List UInt8 :=
 if t.1 = 1 then [123] else if t.1 = 2 then [125] else if t.1 = 3 then [91] else if t.1 = 4 then [93] else if t.1 = 5 then [58] else if t.1 = 6 then [44]
 else if t.1 = 7 then sglB (textV l t) else if t.1 = 8 then sglB (numbV l t) else sglB (leafP ((t.1 : Int) - 4) t.2.1)
def pcT (l : List UInt8) (t : Nat × Nat × Nat) : Jp := (pieceB l t, (t.2.1 : Int))
theorem pcsL_snoc (k : Int) (ms : List Int) (h : Vh) (kids : Vo) (L : Vo) : ∀ i, pcsL k ms (L.snoc h kids) i = pcsL k ms L i ++ ((if 0 < i + L.len then [(mkB k (i + L.len), ms.getD (i + L.len - 1) 0)] else []) ++ pcsV h kids) := by
 induction L with
 | nil => intro i; simp [Vo.snoc, pcsL_cons, Vo.len, pcsL]
 | cons a b r _ ih =>
  intro i
  show pcsL k ms (.cons a b (r.snoc h kids)) i = _
  rw [pcsL_cons, pcsL_cons, ih]
  simp only [List.append_assoc, Vo.len]
  rw [show i + 1 + r.len = i + (r.len + 1) by omega]
  rfl
theorem pcsL_ms (k : Int) (ms ms' : List Int) (L : Vo) : ∀ i, (∀ j, i <= j -> j < i + L.len -> 0 < j -> ms.getD (j - 1) 0 = ms'.getD (j - 1) 0) -> pcsL k ms L i = pcsL k ms' L i := by
 induction L with
 | nil => intro i _; simp [pcsL]
 | cons a b r _ ih =>
  intro i h
  rw [pcsL_cons, pcsL_cons, ih (i + 1) (fun j h1 h2 h3 => h j (by omega) (by simp only [Vo.len]; omega) h3)]
  by_cases hi : 0 < i
  ·rw [if_pos hi, if_pos hi, h i (Nat.le_refl _) (by simp only [Vo.len]; omega) hi]
  ·rw [if_neg hi, if_neg hi]
theorem take_kind {n k : Nat} {ts r : M.Toks} {t : Nat × Nat × Nat} (e : takeP n k ts = .ok (t, r)) : t.1 = k := by
 cases ts with
 | nil => simp [takeP] at e
 | cons a b =>
  by_cases hk : a.1 = k
  ·simp only [takeP, if_pos hk, Except.ok.injEq, Prod.mk.injEq] at e
   rw [<- e.1]; exact hk
  ·simp [takeP, hk] at e
theorem getD_app1 (a : List Int) (z : Int) (n : Nat) (h : n < a.length) : (a ++ [z]).getD n 0 = a.getD n 0 := by
 simp [List.getD, List.getElem?_append_left h]
theorem getD_last (a : List Int) (z : Int) : (a ++ [z]).getD a.length 0 = z := by simp [List.getD]
def comP (ms : List Int) (n : Nat) : List Jp := if 0 < n then [([44], ms.getD (n - 1) 0)] else []
theorem item_pcs (l : List UInt8) (val : M.Toks -> PRes) (hv : ∀ ts h kids r, val ts = .ok (h, kids, r) -> ∃ p, ts = p ++ r /\ pcsV h kids = p.map (pcT l))
  (obj : Bool) (ts : M.Toks) (ms : List Int) (L : Vo) (ms2 : List Int) (L2 : Vo) (r : M.Toks) (h : itemW l val obj ts ms L = .ok (ms2, L2, r)) (hm : ms.length = L.len) (he : obj = true -> L.len % 2 = 0) :
  (∃ p, ts = p ++ r /\ pcsL (kdL obj) ms2 L2 0 = pcsL (kdL obj) ms L 0 ++ (comP ms L.len ++ p.map (pcT l))) /\ ms2.length + 1 = L2.len /\ (obj = true -> L2.len % 2 = 0) := by
 unfold itemW at h
 cases obj with
 | false =>
  simp only [Bool.false_eq_true, if_false] at h
  cases hr : val ts with
  | error e => rw [hr] at h; simp at h
  | ok q =>
   obtain ⟨a, b, c⟩ := q
   rw [hr] at h
   simp only [Except.ok.injEq, Prod.mk.injEq] at h
   obtain ⟨rfl, rfl, rfl⟩ := h
   obtain ⟨p, e1, e2⟩ := hv _ _ _ _ hr
   refine ⟨⟨p, e1, ?_⟩, by rw [snoc_len]; omega, fun h => by cases h⟩
   rw [pcsL_snoc, Nat.zero_add, e2]
   simp [comP, mkB, kdL]
 | true =>
  simp only [if_true] at h
  cases h7 : takeP l.length 7 ts with
  | error e => rw [h7] at h; simp at h
  | ok q =>
   obtain ⟨t, r1⟩ := q
   rw [h7] at h
   simp only at h
   cases h5 : takeP l.length 5 r1 with
   | error e => rw [h5] at h; simp at h
   | ok q =>
    obtain ⟨c, r2⟩ := q
    rw [h5] at h
    simp only at h
    cases hr : val r2 with
    | error e => rw [hr] at h; simp at h
    | ok q =>
     obtain ⟨a, b, c2⟩ := q
     rw [hr] at h
     simp only [Except.ok.injEq, Prod.mk.injEq] at h
     obtain ⟨rfl, rfl, rfl⟩ := h
     obtain ⟨p, e1, e2⟩ := hv _ _ _ _ hr
     have t7 := take_kind h7
     have t5 := take_kind h5
     have he := he rfl
     refine ⟨⟨t :: c :: p, by rw [take_len h7, take_len h5, e1]; rfl, ?_⟩, by rw [snoc_len, snoc_len, List.length_append, List.length_singleton]; omega, fun _ => by rw [snoc_len, snoc_len]; omega⟩
     rw [pcsL_snoc, pcsL_snoc, snoc_len, Nat.zero_add, Nat.zero_add, e2, pcsL_ms (kdL true) (ms ++ [(c.2.1 : Int)]) ms L 0 (fun j _ h2 h3 => getD_app1 _ _ _ (by omega))]
     have k1 : mkB (kdL true) L.len = [44] := by unfold mkB; rw [if_neg (by omega)]
     have k2 : mkB (kdL true) (L.len + 1) = [58] := by unfold mkB kdL; rw [if_pos ⟨by decide, by omega⟩]
     have p7 : pcsV (textV l t) .nil = [pcT l t] := by simp [pcsV, textV, pcT, pieceB, t7]
     have p5 : pcT l c = ([58], (c.2.1 : Int)) := by simp [pcT, pieceB, t5]
     rw [k1, k2, p7, if_pos (Nat.succ_pos _), Nat.add_sub_cancel, <- hm, getD_last, hm]
     unfold comP
     by_cases h0 : 0 < L.len
     ·rw [if_pos h0, if_pos h0, getD_app1 _ _ _ (by omega)]
      simp [p5]
     ·rw [if_neg h0, if_neg h0]
      simp [p5]
theorem val_pcs (l : List UInt8) : ∀ f, (∀ deep ts h kids r, valP l f deep ts = .ok (h, kids, r) -> ∃ p, ts = p ++ r /\ pcsV h kids = p.map (pcT l)) /\
  (∀ obj d fr ts ms L h kids r, restP l f obj d fr ts ms L = .ok (h, kids, r) -> ms.length + 1 = L.len -> (obj = true -> L.len % 2 = 0) -> ∃ p, ts = p ++ r /\ h.k = kdL obj /\ h.fr = fr /\ pcsL (kdL obj) h.ms kids 0 ++ [(clB (kdL obj), h.tt)] = pcsL (kdL obj) ms L 0 ++ p.map (pcT l)) := by
 intro f
 induction f with
 | zero => exact ⟨fun deep ts h kids r e => by simp [valP] at e, fun obj d fr ts ms L h kids r e => by simp [restP] at e⟩
 | succ f ih =>
  obtain ⟨iv, ir⟩ := ih
  have shut : ∀ (obj : Bool) (t : Nat × Nat × Nat), t.1 = shL obj -> pcT l t = (clB (kdL obj), (t.2.1 : Int)) := by
   intro obj t ht
   cases obj <;> simp [pcT, pieceB, ht, shL, clB, kdL]
  refine ⟨fun deep ts h kids r e => ?_, fun obj d fr ts ms L h kids r e hm he => ?_⟩
  ·cases ts with
   | nil => simp [valP] at e
   | cons t r0 =>
    unfold valP at e
    simp only at e
    by_cases h7 : t.1 = 7
    ·rw [if_pos h7] at e
     simp only [Except.ok.injEq, Prod.mk.injEq] at e
     obtain ⟨rfl, rfl, rfl⟩ := e
     exact ⟨[t], rfl, by simp [pcsV, textV, pcT, pieceB, h7]⟩
    ·rw [if_neg h7] at e
     by_cases h8 : t.1 = 8
     ·rw [if_pos h8] at e
      simp only [Except.ok.injEq, Prod.mk.injEq] at e
      obtain ⟨rfl, rfl, rfl⟩ := e
      exact ⟨[t], rfl, by simp [pcsV, numbV, pcT, pieceB, h8]⟩
     ·rw [if_neg h8] at e
      by_cases h9 : t.1 = 9 \/ t.1 = 10 \/ t.1 = 11
      ·rw [if_pos h9] at e
       simp only [Except.ok.injEq, Prod.mk.injEq] at e
       obtain ⟨rfl, rfl, rfl⟩ := e
       refine ⟨[t], rfl, ?_⟩
       rcases h9 with h9 | h9 | h9 <;> simp [pcsV, leafP, pcT, pieceB, h9]
      ·rw [if_neg h9] at e
       by_cases h1 : t.1 = 1 \/ t.1 = 3
       ·rw [if_pos h1] at e
        cases deep with
        | zero => simp at e
        | succ d =>
         simp only at e
         obtain ⟨obj, hob⟩ : ∃ obj : Bool, decide (t.1 = 1) = obj := ⟨_, rfl⟩
         have hsh : t.1 + 1 = shL obj := by
          rw [<- hob]
          rcases h1 with h1 | h1 <;> simp [h1, shL]
         have hop : pcT l t = (opB (kdL obj), (t.2.1 : Int)) := by
          rw [<- hob]
          rcases h1 with h1 | h1 <;> simp [pcT, pieceB, h1, opB, kdL]
         rw [hob] at e
         have fin : ∀ (p : M.Toks), r0 = p ++ r -> h.k = kdL obj -> h.fr = t.2.1 -> pcsL (kdL obj) h.ms kids 0 ++ [(clB (kdL obj), h.tt)] = p.map (pcT l) -> ∃ p, t :: r0 = p ++ r /\ pcsV h kids = p.map (pcT l) := by
          intro p hp hk hf hq
          refine ⟨t :: p, by rw [hp]; rfl, ?_⟩
          unfold pcsV
          rw [if_pos (by rw [hk]; cases obj <;> simp [kdL]), hk, hf, List.map_cons, <- hq, hop]
         by_cases hk : kindP r0 = t.1 + 1
         ·rw [if_pos hk] at e
          cases f with
          | zero => simp [restP] at e
          | succ f =>
           rw [restP, if_pos (by rw [hk, hsh])] at e
           cases ht : takeP l.length (shL obj) r0 with
           | error x => rw [ht] at e; simp at e
           | ok q =>
            obtain ⟨c, r1⟩ := q
            rw [ht] at e
            simp only [Except.ok.injEq, Prod.mk.injEq] at e
            obtain ⟨rfl, rfl, rfl⟩ := e
            exact fin [c] (take_len ht) rfl rfl (by simp [pcsL, shut obj c (take_kind ht)])
         ·rw [if_neg hk] at e
          cases hi : itemW l (valP l f d) obj r0 [] .nil with
          | error x => rw [hi] at e; simp at e
          | ok q =>
           obtain ⟨ms, L, r2⟩ := q
           rw [hi] at e
           obtain ⟨⟨p1, e1, e2⟩, e3, e4⟩ := item_pcs l (valP l f d) (iv d) obj r0 [] .nil ms L r2 hi rfl (fun _ => rfl)
           obtain ⟨p2, g1, g2, g3, g4⟩ := ir _ _ _ _ _ _ _ _ _ e e3 e4
           refine fin (p1 ++ p2) (by rw [e1, g1, List.append_assoc]) g2 g3 ?_
           rw [g4, e2]
           simp [comP, Vo.len, pcsL]
       ·rw [if_neg h1] at e; simp at e
  ·unfold restP at e
   by_cases hk : kindP ts = shL obj
   ·rw [if_pos hk] at e
    cases ht : takeP l.length (shL obj) ts with
    | error x => rw [ht] at e; simp at e
    | ok q =>
     obtain ⟨t, r1⟩ := q
     rw [ht] at e
     simp only [Except.ok.injEq, Prod.mk.injEq] at e
     obtain ⟨rfl, rfl, rfl⟩ := e
     exact ⟨[t], take_len ht, rfl, rfl, by simp [shut obj t (take_kind ht)]⟩
   ·rw [if_neg hk] at e
    cases ht : takeP l.length 6 ts with
    | error x => rw [ht] at e; simp at e
    | ok q =>
     obtain ⟨c, r1⟩ := q
     rw [ht] at e
     simp only at e
     cases hi : itemW l (valP l f d) obj r1 (ms ++ [(c.2.1 : Int)]) L with
     | error x => rw [hi] at e; simp at e
     | ok q =>
      obtain ⟨ms2, L2, r2⟩ := q
      rw [hi] at e
      obtain ⟨⟨p1, e1, e2⟩, e3, e4⟩ := item_pcs l (valP l f d) (iv d) obj r1 _ L ms2 L2 r2 hi (by rw [List.length_append, List.length_singleton]; omega) he
      obtain ⟨p2, g1, g2, g3, g4⟩ := ir _ _ _ _ _ _ _ _ _ e e3 e4
      refine ⟨c :: (p1 ++ p2), by rw [take_len ht, e1, g1]; simp, g2, g3, ?_⟩
      have p6 : pcT l c = ([44], (c.2.1 : Int)) := by simp [pcT, pieceB, take_kind ht]
      have q6 : comP (ms ++ [(c.2.1 : Int)]) L.len = [pcT l c] := by
       unfold comP
       rw [if_pos (by omega), show L.len - 1 = ms.length by omega, getD_last, p6]
      rw [g4, e2, q6, pcsL_ms (kdL obj) (ms ++ [(c.2.1 : Int)]) ms L 0 (fun j _ h2 h3 => getD_app1 _ _ _ (by omega))]
      simp
end Go.Proofs.YtbfnlgmhfhaglaaGreatDoor
