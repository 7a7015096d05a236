import Derived.Test.YtbfnlgmhfhaglaaGreatDoorQn13
import Derived.Test.YtbfnlgmhfhaglaaGreatDoorQn02
import Derived.Laws.StructEq
import Derived.ChangeKeysEq
import Derived.Test.YtbfnlgmhfhaglaaGreatDoorQn25
namespace Go.Proofs.YtbfnlgmhfhaglaaGreatDoor
open Go.RowKit
set_option linter.unusedVariables false
set_option linter.unusedSimpArgs false
theorem neqnum_any (ng ng' : Bool) (D E D' E' : List UInt8) (w : World) : (binOp .neq 24 (.agg #[.bool ng, .string (bytes D), .string (bytes E)]) (.agg #[.bool ng', .string (bytes D'), .string (bytes E')])).run Tryz.prog w = .ok (.bool (!(decide (ng = ng' /\ D = D' /\ E = E')))) w := by
 rw [run_neq_struct, run_equalIn_agg w _ _ _ _ (by simp [Program.fieldsOf, Tryz.underlying24]) Tryz.stoodInHeld24]
 have e0 : ∀ l : List UInt8, (bytes l).toList = l := fun l => by rw [ByteArray.toList_eq, bytes_list]
 have e2 : ∀ l k : List UInt8, (bytes l = bytes k) ↔ l = k := fun l k => ⟨fun h => by rw [<- e0 l, <- e0 k, h], fun h => by rw [h]⟩
 by_cases h1 : ng = ng' <;> by_cases h2 : D = D' <;> by_cases h3 : E = E' <;> simp [Program.fieldsOf, Tryz.underlying24, Op.eqFields, part, go_sem, e0, e2, h1, h2, h3]
def sameHd (h h' : Vh) (n n' : Nat) : Bool := decide (h.k = h'.k) && decide (h.tx = h'.tx) && decide (h.ng = h'.ng /\ h.dg = h'.dg /\ h.ex = h'.ex) && decide (n = n')
def sameVo : Vo -> Vo -> Bool
 | .cons h kids rest, .cons h' kids' rest' => sameHd h h' kids.len kids'.len && sameVo kids kids' && sameVo rest rest'
 | .nil, .nil => true
 | .nil, .cons _ _ _ => false
 | .cons _ _ _, .nil => false
def sameH (h : Vh) (kids : Vo) (h' : Vh) (kids' : Vo) : Bool := sameHd h h' kids.len kids'.len && sameVo kids kids'
theorem sameVo_true (L : Vo) : ∀ L' : Vo, L.len = L'.len -> (∀ j h kids h' kids', L.at? j = some (h, kids) -> L'.at? j = some (h', kids') -> sameH h kids h' kids' = true) -> sameVo L L' = true := by
 induction L with
 | nil =>
  intro L' hn _
  cases L' with
  | nil => rfl
  | cons _ _ _ => simp [Vo.len] at hn
 | cons h kids rest _ ih =>
  intro L' hn H
  cases L' with
  | nil => simp [Vo.len] at hn
  | cons h' kids' rest' =>
   have h1 := H 0 h kids h' kids' rfl rfl
   have h2 := ih rest' (by simpa [Vo.len] using hn) (fun j a b c d e f => H (j + 1) a b c d e f)
   unfold sameH at h1
   simp only [sameVo, h2, Bool.and_true]
   exact h1
theorem sameVo_false (L : Vo) : ∀ (L' : Vo) j h kids h' kids', L.at? j = some (h, kids) -> L'.at? j = some (h', kids') -> sameH h kids h' kids' = false -> sameVo L L' = false := by
 induction L with
 | nil => intro L' j h kids h' kids' e; simp [Vo.at?] at e
 | cons h0 kids0 rest _ ih =>
  intro L' j h kids h' kids' e e' hs
  cases L' with
  | nil => simp [Vo.at?] at e'
  | cons h0' kids0' rest' =>
   cases j with
   | zero =>
    simp only [Vo.at?, Option.some.injEq, Prod.mk.injEq] at e e'
    obtain ⟨rfl, rfl⟩ := e
    obtain ⟨rfl, rfl⟩ := e'
    unfold sameH at hs
    simp only [sameVo, hs, Bool.false_and]
   | succ j =>
    simp only [sameVo, ih rest' j h kids h' kids' e e' hs, Bool.and_false]
def Vo.app : Vo -> Vo -> Vo
 | .nil, K => K
 | .cons h k r, K => .cons h k (r.app K)
theorem app_len (L K : Vo) : (L.app K).len = L.len + K.len := by
 induction L with
 | nil => simp [Vo.app, Vo.len]
 | cons h k r _ ih => simp only [Vo.app, Vo.len, ih]; omega
theorem vo_last (L : Vo) : ∀ n, L.len = n + 1 -> ∃ (M : Vo) (h : Vh) (k : Vo), L = M.app (.cons h k .nil) /\ M.len = n := by
 induction L with
 | nil => intro n h; simp [Vo.len] at h
 | cons h k r _ ih =>
  intro n hn
  cases r with
  | nil => exact ⟨.nil, h, k, rfl, by simp [Vo.len] at hn ⊢; omega⟩
  | cons h2 k2 r2 =>
   obtain ⟨M, h', k', e, hm⟩ := ih (n - 1) (by simp only [Vo.len] at hn ⊢; omega)
   exact ⟨.cons h k M, h', k', by rw [e]; rfl, by simp only [Vo.len] at hn ⊢; omega⟩
theorem sameVo_app (L : Vo) : ∀ (M K J : Vo), L.len = M.len -> sameVo (L.app K) (M.app J) = (sameVo L M && sameVo K J) := by
 induction L with
 | nil =>
  intro M K J h
  cases M with
  | nil => simp [Vo.app, sameVo]
  | cons _ _ _ => simp [Vo.len] at h
 | cons h k r _ ih =>
  intro M K J hl
  cases M with
  | nil => simp [Vo.len] at hl
  | cons h' k' r' =>
   simp only [Vo.app, sameVo]
   rw [ih r' K J (by simpa [Vo.len] using hl)]
   simp only [Bool.and_assoc]
end Go.Proofs.YtbfnlgmhfhaglaaGreatDoor
namespace Go.Proofs.YtbfnlgmhfhaglaaGreatDoor
set_option linter.unusedVariables false
set_option linter.unusedSimpArgs false
namespace M
theorem lex_join2 (z : UInt8) (hz : goB z = false) (N : Nat) : ∀ (s t : List UInt8) (p : Nat) (a b : Toks), s.length <= N -> lexS s p = .ok a -> lexS (z :: t) (p + s.length) = .ok b -> lexS (s ++ z :: t) p = .ok (a ++ b) := by
 induction N with
 | zero =>
  intro s t p a b hN ha hb
  have hs : s = [] := List.length_eq_zero_iff.1 (by omega)
  subst hs
  rw [lexS_end [] p (by simp)] at ha
  simp only [Except.ok.injEq] at ha
  subst ha
  rw [List.nil_append, List.nil_append]
  simpa using hb
 | succ N ih =>
  intro s t p a b hN ha hb
  by_cases hle : s.length <= lead s
  ·rw [lexS_end s p hle] at ha
   simp only [Except.ok.injEq] at ha
   subst ha
   have h1 := lead_all s (z :: t) hle
   rw [List.nil_append, lexS_skip (s ++ z :: t) p s.length (by omega)]
   rw [List.drop_left]; exact hb
  ·have hlt : lead s < s.length := by omega
   have hld := lead_some s (z :: t) hlt
   cases ht : tokL (s.drop (lead s)) with
   | none => rw [lexS_bad s p hlt ht] at ha; exact absurd ha (by simp)
   | some km =>
    obtain ⟨k, m⟩ := km
    have hm := tok_le (s.drop (lead s)) (by simp; omega) k m ht
    have hgo := tok_goes _ k m ht
    rw [lexS_in s p k m hlt ht] at ha
    have hds : (s.drop (lead s)).length = s.length - lead s := by simp
    cases hx : lexS (s.drop (lead s + m)) (p + (lead s + m)) with
    | error e => rw [hx] at ha; exact absurd ha (by simp)
    | ok r =>
     rw [hx] at ha
     simp only [Except.ok.injEq] at ha
     subst ha
     have hsp : (s ++ z :: t).drop (lead s) = (s.drop (lead s)).take m ++ ((s.drop (lead s)).drop m ++ z :: t) := by
      rw [List.drop_append_of_le_length (by omega), <- List.append_assoc, List.take_append_drop]
     have htok : tokL ((s ++ z :: t).drop (lead s)) = some (k, m) := by
      rw [hsp]
      refine tok_local _ _ k m (by omega) ht ?_
      by_cases hk : k <= 7
      ·exact .inl hk
      ·right
       have hg := hgo (by omega)
       by_cases hend : m < (s.drop (lead s)).length
       ·have e : ((s.drop (lead s)).drop m ++ z :: t).getD 0 0 = (s.drop (lead s)).getD m 0 := by
         have e2 := drop_getD (s.drop (lead s)) m 0
         rw [Nat.add_zero] at e2
         rw [<- e2]
         simp only [List.getD]
         rw [List.getElem?_append_left (by rw [List.length_drop]; omega)]
        rw [e]; exact hg
       ·rw [List.drop_eq_nil_of_le (by omega)]; exact hz
     rw [lexS_in (s ++ z :: t) p k m (by rw [hld]; simp; omega) (by rw [hld]; exact htok), hld]
     have e : (s ++ z :: t).drop (lead s + m) = s.drop (lead s + m) ++ z :: t := List.drop_append_of_le_length (by omega)
     rw [e, ih (s.drop (lead s + m)) t (p + (lead s + m)) r b (by rw [List.length_drop]; omega) hx (by rw [List.length_drop, show p + (lead s + m) + (s.length - (lead s + m)) = p + s.length by omega]; exact hb)]
     rfl
theorem lex_sign (z : UInt8) (k : Nat) (t : List UInt8) (p : Nat) (r : Toks) (hz : blB z = false) (hk : ∀ t, tokL (z :: t) = some (k, 1)) (h : lexS t (p + 1) = .ok r) : lexS (z :: t) p = .ok ((k, p, p + 1) :: r) := by
 have hl : lead (z :: t) = 0 := by unfold lead; rw [hz]; rfl
 rw [lexS_in (z :: t) p k 1 (by rw [hl]; simp) (by rw [hl]; exact hk t), hl]
 simp only [Nat.zero_add, List.drop_succ_cons, List.drop_zero, Nat.add_zero]
 rw [h]
theorem tok_91 (t : List UInt8) : tokL (91 :: t) = some (3, 1) := by simp [tokL]
theorem tok_93 (t : List UInt8) : tokL (93 :: t) = some (4, 1) := by simp [tokL]
theorem tok_44 (t : List UInt8) : tokL (44 :: t) = some (6, 1) := by simp [tokL]
theorem lexS_nil (p : Nat) : lexS [] p = .ok [] := lexS_end [] p (by simp)
end M
def nestL (a b : List UInt8) : List UInt8 := 91 :: (a ++ 44 :: (b ++ [93]))
def nestT (a b : List UInt8) (ta tb : M.Toks) : M.Toks := (3, 0, 1) :: (M.shiftT 1 ta ++ ((6, a.length + 1, a.length + 2) :: (M.shiftT (a.length + 2) tb ++ [(4, a.length + b.length + 2, a.length + b.length + 3)])))
theorem nest_split (a b : List UInt8) (ta tb : M.Toks) (hl : a.length + b.length <= 19000) (ha : M.lexS a 0 = .ok ta) (va : (M.validAll a).2 = true) (hb : M.lexS b 0 = .ok tb) (vb : (M.validAll b).2 = true) : M.splitV (nestL a b) = (nestT a b ta tb, 0, 0) := by
 apply M.split_ok
 ·unfold nestL; simp only [List.length_append, List.length_cons, List.length_nil]; omega
 ·have e4 : M.lexS [93] (a.length + b.length + 2) = .ok [(4, a.length + b.length + 2, a.length + b.length + 3)] := M.lex_sign 93 4 [] _ _ (by decide) M.tok_93 (M.lexS_nil _)
  have sb := M.lex_shift b 0 (a.length + 2) tb hb
  rw [Nat.zero_add] at sb
  have e3 : M.lexS (b ++ [93]) (a.length + 2) = .ok (M.shiftT (a.length + 2) tb ++ [(4, a.length + b.length + 2, a.length + b.length + 3)]) := M.lex_join2 93 (by decide) b.length b [] _ _ _ (Nat.le_refl _) sb (by rw [show a.length + 2 + b.length = a.length + b.length + 2 by omega]; exact e4)
  have e2 := M.lex_sign 44 6 (b ++ [93]) (a.length + 1) _ (by decide) M.tok_44 e3
  have sa := M.lex_shift a 0 1 ta ha
  rw [Nat.zero_add] at sa
  have e1 := M.lex_join2 44 (by decide) a.length a (b ++ [93]) 1 _ _ (Nat.le_refl _) sa (by rw [show 1 + a.length = a.length + 1 by omega]; exact e2)
  exact M.lex_sign 91 3 _ 0 _ (by decide) M.tok_91 e1
 ·unfold nestL
  rw [M.valid_ascii _ (by simp) (by simp)]
  simp only [List.drop_succ_cons, List.drop_zero]
  rw [M.join_good a _ va]
  simp only
  rw [M.valid_ascii _ (by simp) (by simp)]
  simp only [List.drop_succ_cons, List.drop_zero]
  rw [M.join_good b _ vb]
  simp only
  decide +kernel
def shH (d : Nat) (h : Vh) : Vh := { h with fr := h.fr + d, tt := if h.k = 1 \/ h.k = 2 then h.tt + d else h.tt, ms := h.ms.map fun z => z + (d : Int) }
def shVo (d : Nat) : Vo -> Vo
 | .nil => .nil
 | .cons h kids rest => .cons (shH d h) (shVo d kids) (shVo d rest)
theorem shVo_len (d : Nat) (L : Vo) : (shVo d L).len = L.len := by
 induction L with
 | nil => rfl
 | cons h k r _ ih => simp only [shVo, Vo.len, ih]
theorem shVo_snoc (d : Nat) (L : Vo) (h : Vh) (k : Vo) : shVo d (L.snoc h k) = (shVo d L).snoc (shH d h) (shVo d k) := by
 induction L with
 | nil => rfl
 | cons a b r _ ih => simp only [Vo.snoc, shVo, ih]
theorem shVo_same (d : Nat) (L : Vo) : sameVo (shVo d L) L = true := by
 induction L with
 | nil => rfl
 | cons h k r ih1 ih2 => simp [shVo, sameVo, sameHd, shH, shVo_len, ih1, ih2]
theorem sh_same (d : Nat) (h : Vh) (k : Vo) : sameH (shH d h) (shVo d k) h k = true := by simp [sameH, sameHd, shH, shVo_len, shVo_same]
def sT (d : Nat) (x : Nat × Nat × Nat) : Nat × Nat × Nat := (x.1, x.2.1 + d, x.2.2 + d)
theorem sh_tok (pre l post : List UInt8) (t : Nat × Nat × Nat) (h : t.2.2 <= l.length) : tokB (pre ++ (l ++ post)) (sT pre.length t) = tokB l t := by
 unfold tokB sT
 simp only
 rw [Nat.add_comm t.2.1, <- List.drop_drop, List.drop_left, show t.2.2 + pre.length - (pre.length + t.2.1) = t.2.2 - t.2.1 by omega]
 by_cases hle : t.2.1 <= l.length
 ·rw [List.drop_append_of_le_length hle, List.take_append_of_le_length (by rw [List.length_drop]; omega)]
 ·rw [show t.2.2 - t.2.1 = 0 by omega]; simp
theorem take_shift {n n' k d : Nat} {ts r post : M.Toks} {t : Nat × Nat × Nat} (h : takeP n k ts = .ok (t, r)) : takeP n' k (M.shiftT d ts ++ post) = .ok (sT d t, M.shiftT d r ++ post) := by
 have e := take_len h
 subst e
 have hk : t.1 = k := by
  by_cases hk : t.1 = k
  ·exact hk
  ·simp [takeP, hk] at h
 simp [takeP, M.shiftT, sT, hk]
theorem kind_shift {d : Nat} {ts post : M.Toks} (h : ts ≠ []) : kindP (M.shiftT d ts ++ post) = kindP ts := by
 cases ts with
 | nil => exact absurd rfl h
 | cons t r => rfl
theorem text_sh {l l' : List UInt8} {d : Nat} {t : Nat × Nat × Nat} (h : tokB l' (sT d t) = tokB l t) : textV l' (sT d t) = shH d (textV l t) := by
 unfold textV txtL
 rw [h]
 simp [shH, sT]
theorem numb_sh {l l' : List UInt8} {d : Nat} {t : Nat × Nat × Nat} (h : tokB l' (sT d t) = tokB l t) : numbV l' (sT d t) = shH d (numbV l t) := by
 unfold numbV
 rw [h]
 simp [shH, sT]
theorem item_shift (l l' : List UInt8) (d : Nat) (val val' : M.Toks -> PRes) (post : M.Toks) (htk : ∀ t, t.2.2 <= l.length -> tokB l' (sT d t) = tokB l t)
  (hv : ∀ ts h kids r, TkIn l ts -> val ts = .ok (h, kids, r) -> val' (M.shiftT d ts ++ post) = .ok (shH d h, shVo d kids, M.shiftT d r ++ post))
  (obj : Bool) (ts : M.Toks) (ms : List Int) (L : Vo) (ms2 : List Int) (L2 : Vo) (r : M.Toks) (hi : TkIn l ts) (h : itemW l val obj ts ms L = .ok (ms2, L2, r)) :
  itemW l' val' obj (M.shiftT d ts ++ post) (ms.map fun z => z + (d : Int)) (shVo d L) = .ok (ms2.map fun z => z + (d : Int), shVo d L2, M.shiftT d r ++ post) := by
 unfold itemW at h ⊢
 cases obj with
 | false =>
  simp only [Bool.false_eq_true, if_false] at h ⊢
  cases hr : val ts with
  | error e => rw [hr] at h; simp at h
  | ok q =>
   obtain ⟨a, b, c⟩ := q
   rw [hr] at h
   simp only [Except.ok.injEq, Prod.mk.injEq] at h
   obtain ⟨rfl, rfl, rfl⟩ := h
   rw [hv _ _ _ _ hi hr]
   simp only [shVo_snoc]
 | true =>
  simp only [if_true] at h ⊢
  cases h7 : takeP l.length 7 ts with
  | error e => rw [h7] at h; simp at h
  | ok q =>
   obtain ⟨t, r1⟩ := q
   rw [h7] at h
   simp only at h
   have i1 := take_in hi h7
   have it := hi t (by rw [take_len h7]; exact List.mem_cons_self ..)
   cases h5 : takeP l.length 5 r1 with
   | error e => rw [h5] at h; simp at h
   | ok q =>
    obtain ⟨c, r2⟩ := q
    rw [h5] at h
    simp only at h
    have i2 := take_in i1 h5
    cases hr : val r2 with
    | error e => rw [hr] at h; simp at h
    | ok q =>
     obtain ⟨a, b, c2⟩ := q
     rw [hr] at h
     simp only [Except.ok.injEq, Prod.mk.injEq] at h
     obtain ⟨rfl, rfl, rfl⟩ := h
     rw [take_shift (n' := l'.length) (d := d) (post := post) h7]
     simp only
     rw [take_shift (n' := l'.length) (d := d) (post := post) h5]
     simp only
     rw [hv _ _ _ _ i2 hr]
     rw [text_sh (htk t it.2)]
     simp [shVo_snoc, sT, shVo]
theorem val_shift (l l' : List UInt8) (d : Nat) (post : M.Toks) (htk : ∀ t, t.2.2 <= l.length -> tokB l' (sT d t) = tokB l t) : ∀ f,
  (∀ dp dp' f' ts h kids r, dp <= dp' -> f <= f' -> TkIn l ts -> valP l f dp ts = .ok (h, kids, r) -> valP l' f' dp' (M.shiftT d ts ++ post) = .ok (shH d h, shVo d kids, M.shiftT d r ++ post)) /\
  (∀ obj dp dp' f' (fr : Nat) ts ms L h kids r, dp <= dp' -> f <= f' -> TkIn l ts -> restP l f obj dp fr ts ms L = .ok (h, kids, r) -> restP l' f' obj dp' (fr + d) (M.shiftT d ts ++ post) (ms.map fun z => z + (d : Int)) (shVo d L) = .ok (shH d h, shVo d kids, M.shiftT d r ++ post)) := by
 intro f
 induction f with
 | zero => exact ⟨fun dp dp' f' ts h kids r _ _ _ e => by simp [valP] at e, fun obj dp dp' f' fr ts ms L h kids r _ _ _ e => by simp [restP] at e⟩
 | succ f ih =>
  obtain ⟨iv, ir⟩ := ih
  refine ⟨fun dp dp' f' ts h kids r hd hf hi e => ?_, fun obj dp dp' f' fr ts ms L h kids r hd hf hi e => ?_⟩
  ·obtain ⟨f', rfl⟩ : ∃ q, f' = q + 1 := ⟨f' - 1, by omega⟩
   cases ts with
   | nil => simp [valP] at e
   | cons t r0 =>
    have it := hi t (List.mem_cons_self ..)
    have i0 := hi.tail
    have hc : M.shiftT d (t :: r0) ++ post = sT d t :: (M.shiftT d r0 ++ post) := rfl
    rw [hc]
    unfold valP at e ⊢
    simp only at e ⊢
    have k1 : (sT d t).1 = t.1 := rfl
    rw [k1]
    by_cases h7 : t.1 = 7
    ·rw [if_pos h7] at e ⊢
     simp only [Except.ok.injEq, Prod.mk.injEq] at e
     obtain ⟨rfl, rfl, rfl⟩ := e
     rw [text_sh (htk t it.2)]
     rfl
    rw [if_neg h7] at e ⊢
    by_cases h8 : t.1 = 8
    ·rw [if_pos h8] at e ⊢
     simp only [Except.ok.injEq, Prod.mk.injEq] at e
     obtain ⟨rfl, rfl, rfl⟩ := e
     rw [numb_sh (htk t it.2)]
     rfl
    rw [if_neg h8] at e ⊢
    by_cases h9 : t.1 = 9 \/ t.1 = 10 \/ t.1 = 11
    ·rw [if_pos h9] at e ⊢
     simp only [Except.ok.injEq, Prod.mk.injEq] at e
     obtain ⟨rfl, rfl, rfl⟩ := e
     rcases h9 with h9 | h9 | h9 <;> simp [leafP, shH, sT, shVo, h9]
    rw [if_neg h9] at e ⊢
    by_cases h1 : t.1 = 1 \/ t.1 = 3
    ·rw [if_pos h1] at e ⊢
     cases dp with
     | zero => simp at e
     | succ dp =>
      obtain ⟨dp', rfl⟩ : ∃ q, dp' = q + 1 := ⟨dp' - 1, by omega⟩
      simp only at e ⊢
      have fr' : (sT d t).2.1 = t.2.1 + d := rfl
      rw [fr']
      by_cases hk : kindP r0 = t.1 + 1
      ·have hne : r0 ≠ [] := by rintro rfl; simp [kindP] at hk
       rw [if_pos hk] at e
       rw [if_pos (by rw [kind_shift hne]; exact hk)]
       exact ir _ _ _ _ _ _ _ _ _ _ _ (by omega) (by omega) i0 e
      ·rw [if_neg hk] at e
       cases hr : itemW l (valP l f dp) (decide (t.1 = 1)) r0 [] .nil with
       | error x => rw [hr] at e; simp at e
       | ok q =>
        obtain ⟨ms, L, r2⟩ := q
        rw [hr] at e
        have sf := (item_suf ((val_suf l f).1 dp) _ _ _ _ _ _ _ hr).1
        have hne : r0 ≠ [] := by rintro rfl; have := sf.len; simp at this
        rw [if_neg (by rw [kind_shift hne]; exact hk)]
        have := item_shift l l' d (valP l f dp) (valP l' f' dp') post htk (fun ts h kids r a b => iv _ _ _ _ _ _ _ (by omega) (by omega) a b) _ _ _ _ _ _ _ i0 hr
        simp only [List.map_nil, shVo] at this
        rw [this]
        exact ir _ _ _ _ _ _ _ _ _ _ _ (by omega) (by omega) (sf.tk i0) e
    ·rw [if_neg h1] at e; simp at e
  ·obtain ⟨f', rfl⟩ : ∃ q, f' = q + 1 := ⟨f' - 1, by omega⟩
   have hne : ts ≠ [] := by
    rintro rfl
    unfold restP at e
    by_cases hk : kindP [] = shL obj
    ·cases obj <;> simp [kindP, shL] at hk
    ·rw [if_neg hk] at e; simp [takeP] at e
   unfold restP at e ⊢
   rw [kind_shift hne]
   by_cases hk : kindP ts = shL obj
   ·rw [if_pos hk] at e ⊢
    cases ht : takeP l.length (shL obj) ts with
    | error x => rw [ht] at e; simp at e
    | ok q =>
     obtain ⟨t, r1⟩ := q
     rw [ht] at e
     simp only [Except.ok.injEq, Prod.mk.injEq] at e
     obtain ⟨rfl, rfl, rfl⟩ := e
     rw [take_shift (n' := l'.length) (d := d) (post := post) ht]
     cases obj <;> simp [shH, kdL, sT]
   ·rw [if_neg hk] at e ⊢
    cases ht : takeP l.length 6 ts with
    | error x => rw [ht] at e; simp at e
    | ok q =>
     obtain ⟨c, r1⟩ := q
     rw [ht] at e
     simp only at e
     have i1 := take_in hi ht
     rw [take_shift (n' := l'.length) (d := d) (post := post) ht]
     simp only
     cases hr : itemW l (valP l f dp) obj r1 (ms ++ [(c.2.1 : Int)]) L with
     | error x => rw [hr] at e; simp at e
     | ok q =>
      obtain ⟨ms2, L2, r2⟩ := q
      rw [hr] at e
      have sf := (item_suf ((val_suf l f).1 dp) _ _ _ _ _ _ _ hr).1
      have := item_shift l l' d (valP l f dp) (valP l' f' dp') post htk (fun ts h kids r a b => iv _ _ _ _ _ _ _ (by omega) (by omega) a b) _ _ _ _ _ _ _ i1 hr
      have em : (ms ++ [(c.2.1 : Int)]).map (fun z => z + (d : Int)) = ms.map (fun z => z + (d : Int)) ++ [((sT d c).2.1 : Int)] := by simp [sT]
      rw [em] at this
      rw [this]
      exact ir _ _ _ _ _ _ _ _ _ _ _ (by omega) (by omega) (sf.tk i1) e
theorem val_kind {l : List UInt8} {f dp : Nat} {ts : M.Toks} {h : Vh} {kids : Vo} {r : M.Toks} (e : valP l f dp ts = .ok (h, kids, r)) : ts ≠ [] /\ kindP ts ≠ 4 := by
 cases f with
 | zero => simp [valP] at e
 | succ f =>
  cases ts with
  | nil => simp [valP] at e
  | cons t r0 =>
   refine ⟨by simp, fun hk => ?_⟩
   have hk : t.1 = 4 := hk
   simp [valP, hk] at e
theorem nest_parse (a b : List UInt8) (hx hy : Vh) (kx ky : Vo) (la : a.length <= 200) (lb : b.length <= 200) (ha : parseV a 50 = .ok (hx, kx)) (hb : parseV b 50 = .ok (hy, ky)) :
  parseV (nestL a b) 60 = .ok (⟨2, [], false, [], [], 0, (a.length + b.length + 2 : Nat), [((a.length + 1 : Nat) : Int)]⟩, .cons (shH 1 hx) (shVo 1 kx) (.cons (shH (a.length + 2) hy) (shVo (a.length + 2) ky) .nil)) := by
 have un : ∀ (l : List UInt8) (h : Vh) (k : Vo), parseV l 50 = .ok (h, k) -> ∃ ts, M.lexS l 0 = .ok ts /\ (M.validAll l).2 = true /\ valP l (2 * ts.length + 2) 50 ts = .ok (h, k, []) := by
  intro l h k e
  unfold parseV at e
  split at e
  ·rename_i h0
   obtain ⟨⟨ts, er, a⟩, hs⟩ : ∃ x, M.splitV l = x := ⟨_, rfl⟩
   rw [hs] at e h0
   simp only at e h0
   subst h0
   obtain ⟨p, q, r, s⟩ := split_zero l ts a hs
   refine ⟨ts, r, s, ?_⟩
   unfold parP at e
   split at e
   ·cases e
   ·rename_i h' k' hv
    simp only [Except.ok.injEq, Prod.mk.injEq] at e
    obtain ⟨rfl, rfl⟩ := e
    exact hv
   ·cases e
  ·cases e
 obtain ⟨ta, a1, a2, a3⟩ := un a hx kx ha
 obtain ⟨tb, b1, b2, b3⟩ := un b hy ky hb
 have hs := nest_split a b ta tb (by omega) a1 a2 b1 b2
 obtain ⟨ia, -⟩ := lex_in a ta a1
 obtain ⟨ib, -⟩ := lex_in b tb b1
 unfold parseV
 rw [hs, if_pos rfl]
 simp only
 obtain ⟨F, hF⟩ : ∃ F, 2 * (nestT a b ta tb).length + 2 = F + 4 := ⟨2 * (nestT a b ta tb).length + 2 - 4, by simp [nestT]; omega⟩
 have hF2 : 2 * ta.length + 2 <= F + 3 /\ 2 * tb.length + 2 <= F + 2 := by
  simp [nestT, M.shiftT] at hF; omega
 unfold parP
 rw [hF, show dpN 60 = 60 from by decide]
 have ea : nestL a b = [91] ++ (a ++ (44 :: (b ++ [93]))) := rfl
 have eb : nestL a b = (91 :: (a ++ [44])) ++ (b ++ [93]) := by simp [nestL]
 have va := (val_shift a (nestL a b) 1 ((6, a.length + 1, a.length + 2) :: (M.shiftT (a.length + 2) tb ++ [(4, a.length + b.length + 2, a.length + b.length + 3)])) (fun t ht => by rw [ea]; exact sh_tok [91] a _ t ht) _).1 50 59 (F + 3) ta hx kx [] (by omega) hF2.1 ia a3
 have vb := (val_shift b (nestL a b) (a.length + 2) [(4, a.length + b.length + 2, a.length + b.length + 3)] (fun t ht => by
  rw [eb]
  have := sh_tok (91 :: (a ++ [44])) b [93] t ht
  rw [show (91 :: (a ++ [44])).length = a.length + 2 by simp] at this
  exact this) _).1 50 59 (F + 2) tb hy ky [] (by omega) hF2.2 ib b3
 obtain ⟨k1, k2⟩ := val_kind a3
 have e1 : valP (nestL a b) (F + 4) 60 (nestT a b ta tb) = .ok (⟨2, [], false, [], [], 0, (a.length + b.length + 2 : Nat), [((a.length + 1 : Nat) : Int)]⟩, .cons (shH 1 hx) (shVo 1 kx) (.cons (shH (a.length + 2) hy) (shVo (a.length + 2) ky) .nil), []) := by
  unfold nestT
  rw [valP]
  simp only
  rw [if_neg (by decide), if_neg (by decide), if_neg (by decide), if_pos (by decide), if_neg (by rw [kind_shift k1]; exact k2)]
  have i1 : itemW (nestL a b) (valP (nestL a b) (F + 3) 59) false (M.shiftT 1 ta ++ ((6, a.length + 1, a.length + 2) :: (M.shiftT (a.length + 2) tb ++ [(4, a.length + b.length + 2, a.length + b.length + 3)]))) [] .nil = .ok ([], .cons (shH 1 hx) (shVo 1 kx) .nil, (6, a.length + 1, a.length + 2) :: (M.shiftT (a.length + 2) tb ++ [(4, a.length + b.length + 2, a.length + b.length + 3)])) := by
   unfold itemW
   rw [if_neg (by decide), va]
   rfl
  rw [show (decide ((3 : Nat) = 1)) = false by decide, i1]
  simp only
  rw [restP, if_neg (by simp [kindP, shL])]
  rw [show takeP (nestL a b).length 6 ((6, a.length + 1, a.length + 2) :: (M.shiftT (a.length + 2) tb ++ [(4, a.length + b.length + 2, a.length + b.length + 3)])) = .ok ((6, a.length + 1, a.length + 2), M.shiftT (a.length + 2) tb ++ [(4, a.length + b.length + 2, a.length + b.length + 3)]) by simp [takeP]]
  simp only
  have i2 : itemW (nestL a b) (valP (nestL a b) (F + 2) 59) false (M.shiftT (a.length + 2) tb ++ [(4, a.length + b.length + 2, a.length + b.length + 3)]) ([] ++ [((a.length + 1 : Nat) : Int)]) (.cons (shH 1 hx) (shVo 1 kx) .nil) = .ok ([((a.length + 1 : Nat) : Int)], .cons (shH 1 hx) (shVo 1 kx) (.cons (shH (a.length + 2) hy) (shVo (a.length + 2) ky) .nil), [(4, a.length + b.length + 2, a.length + b.length + 3)]) := by
   unfold itemW
   rw [if_neg (by decide), vb]
   rfl
  rw [i2]
  simp only
  rw [restP, if_pos (by simp [kindP, shL])]
  simp [takeP, shL, kdL]
 rw [e1]
end Go.Proofs.YtbfnlgmhfhaglaaGreatDoor
