/- Texts of ours in one: ZPl WTd ZRec. -/
import Derived.Test.YtbfnlgmhfhaglaaGreatDoorQl18
import Derived.Test.YtbfnlgmhfhaglaaGreatDoorQl03
import Derived.Test.YtbfnlgmhfhaglaaGreatDoorQl02
import Derived.Deep.RegionHeld
import Derived.Deep.QuietTactic
import Derived.BigQuiet
import Derived.Tactics
import Derived.Tactics2
import Derived.Defers
import Derived.Recover
import Derived.Laws.Pointers
/- jparse, plain: what a list of tokens is, in the program's own order (values so far, marks so far). -/
namespace Go.Proofs.YtbfnlgmhfhaglaaGreatDoor
set_option linter.unusedVariables false
set_option linter.unusedSimpArgs false

def Vo.snoc : Vo → Vh → Vo → Vo
  | .nil, h, k => .cons h k .nil
  | .cons a b r, h, k => .cons a b (r.snoc h k)
theorem snoc_len (L : Vo) (h : Vh) (k : Vo) : (L.snoc h k).len = L.len + 1 := by
  induction L with
  | nil => rfl
  | cons a b r _ ih => simp only [Vo.snoc, Vo.len, ih]
def unitsV (s : List UInt8) : Option (List Nat) := if 2 ≤ s.length ∧ s.getD 0 0 = 34 ∧ s.getD (s.length - 1) 0 = 34 then M.uF s.length ((s.drop 1).take (s.length - 2)) else none
def tokB (l : List UInt8) (t : Nat × Nat × Nat) : List UInt8 := (l.drop t.2.1).take (t.2.2 - t.2.1)
def txtL (l : List UInt8) (t : Nat × Nat × Nat) : List Int := iN ((unitsV (tokB l t)).getD [])
def textV (l : List UInt8) (t : Nat × Nat × Nat) : Vh := ⟨3, txtL l t, false, [], [], t.2.1, 0, []⟩
def numbV (l : List UInt8) (t : Nat × Nat × Nat) : Vh := ⟨4, [], (M.readN (tokB l t)).1.1, (M.readN (tokB l t)).1.2.1, (M.readN (tokB l t)).1.2.2, t.2.1, 0, []⟩
def TkIn (l : List UInt8) (ts : M.Toks) : Prop := ∀ t ∈ ts, t.2.1 < t.2.2 ∧ t.2.2 ≤ l.length
theorem TkIn.tail {l : List UInt8} {t : Nat × Nat × Nat} {r : M.Toks} (h : TkIn l (t :: r)) : TkIn l r := fun x hx => h x (List.mem_cons_of_mem _ hx)
abbrev PRes := Except (Int × Int) (Vh × Vo × M.Toks)
abbrev LRes := Except (Int × Int) (List Int × Vo × M.Toks)
def itemW (l : List UInt8) (val : M.Toks → PRes) (obj : Bool) (ts : M.Toks) (ms : List Int) (L : Vo) : LRes :=
  if obj then
    match takeP l.length 7 ts with
    | .error e => .error e
    | .ok (t, r) => match takeP l.length 5 r with
      | .error e => .error e
      | .ok (c, r2) => match val r2 with
        | .error e => .error e
        | .ok (h, kids, r3) => .ok (ms ++ [(c.2.1 : Int)], (L.snoc (textV l t) .nil).snoc h kids, r3)
  else match val ts with
    | .error e => .error e
    | .ok (h, kids, r) => .ok (ms, L.snoc h kids, r)
def kdL (obj : Bool) : Int := if obj then 1 else 2
def opL (obj : Bool) : Nat := if obj then 1 else 3
def shL (obj : Bool) : Nat := if obj then 2 else 4
mutual
def valP (l : List UInt8) : Nat → Nat → M.Toks → PRes
  | 0, _, ts => .error (synP l.length ts)
  | f + 1, deep, ts => match ts with
    | [] => .error (synP l.length [])
    | t :: r =>
      if t.1 = 7 then .ok (textV l t, .nil, r)
      else if t.1 = 8 then .ok (numbV l t, .nil, r)
      else if t.1 = 9 ∨ t.1 = 10 ∨ t.1 = 11 then .ok (leafP ((t.1 : Int) - 4) t.2.1, .nil, r)
      else if t.1 = 1 ∨ t.1 = 3 then
        (match deep with
         | 0 => .error (4, (t.2.1 : Int))
         | d + 1 =>
           if kindP r = t.1 + 1 then restP l f (decide (t.1 = 1)) d t.2.1 r [] .nil
           else match itemW l (valP l f d) (decide (t.1 = 1)) r [] .nil with
             | .error e => .error e
             | .ok (ms, L, r2) => restP l f (decide (t.1 = 1)) d t.2.1 r2 ms L)
      else .error (synP l.length (t :: r))
def restP (l : List UInt8) : Nat → Bool → Nat → Nat → M.Toks → List Int → Vo → PRes
  | 0, _, _, _, ts, _, _ => .error (synP l.length ts)
  | f + 1, obj, d, fr, ts, ms, L =>
    if kindP ts = shL obj then
      match takeP l.length (shL obj) ts with
      | .error e => .error e
      | .ok (t, r) => .ok (⟨kdL obj, [], false, [], [], fr, t.2.1, ms⟩, L, r)
    else match takeP l.length 6 ts with
      | .error e => .error e
      | .ok (c, r) => match itemW l (valP l f d) obj r (ms ++ [(c.2.1 : Int)]) L with
        | .error e => .error e
        | .ok (ms2, L2, r2) => restP l f obj d fr r2 ms2 L2
end
def parP (l : List UInt8) (deep : Nat) (ts : M.Toks) : Except (Int × Int) (Vh × Vo) := match valP l (2 * ts.length + 2) deep ts with
  | .error e => .error e
  | .ok (h, kids, []) => .ok (h, kids)
  | .ok (_, _, r) => .error (synP l.length r)
theorem take_len {n k : Nat} {ts r : M.Toks} {t : Nat × Nat × Nat} (e : takeP n k ts = .ok (t, r)) : ts = t :: r := by
  cases ts with
  | nil => simp [takeP] at e
  | cons a b =>
    by_cases hk : a.1 = k
    · simp only [takeP, if_pos hk, Except.ok.injEq, Prod.mk.injEq] at e
      rw [e.1, e.2]
    · simp [takeP, hk] at e
def Suf (r ts : M.Toks) : Prop := ∃ p : M.Toks, p ≠ [] ∧ ts = p ++ r
theorem Suf.len {r ts : M.Toks} (h : Suf r ts) : r.length < ts.length := by
  obtain ⟨p, hp, rfl⟩ := h
  have := List.length_pos_iff.2 hp
  rw [List.length_append]; omega
theorem Suf.tk {l : List UInt8} {r ts : M.Toks} (h : Suf r ts) (k : TkIn l ts) : TkIn l r := by
  obtain ⟨p, hp, rfl⟩ := h
  exact fun x hx => k x (List.mem_append_right _ hx)
theorem Suf.trans {a b c : M.Toks} (h : Suf a b) (k : Suf b c) : Suf a c := by
  obtain ⟨p, hp, rfl⟩ := h
  obtain ⟨q, hq, rfl⟩ := k
  exact ⟨q ++ p, by simp [hq], by simp⟩
theorem Suf.one (t : Nat × Nat × Nat) (r : M.Toks) : Suf r (t :: r) := ⟨[t], by simp, rfl⟩
theorem take_suf {n k : Nat} {ts r : M.Toks} {t : Nat × Nat × Nat} (e : takeP n k ts = .ok (t, r)) : Suf r ts := by
  rw [take_len e]; exact Suf.one t r
theorem item_suf {l : List UInt8} {val : M.Toks → PRes} (hv : ∀ ts h k r, val ts = .ok (h, k, r) → Suf r ts) (obj : Bool) (ts : M.Toks) (ms : List Int) (L : Vo) (ms' : List Int) (L' : Vo) (r : M.Toks) (h : itemW l val obj ts ms L = .ok (ms', L', r)) :
    Suf r ts ∧ L'.len + r.length ≤ L.len + ts.length ∧ ms'.length + r.length ≤ ms.length + ts.length := by
  unfold itemW at h
  cases obj with
  | false =>
    simp only [Bool.false_eq_true, if_false] at h
    cases hr : val ts with
    | error e => rw [hr] at h; simp at h
    | ok q =>
      obtain ⟨a, b, c⟩ := q
      rw [hr] at h
      simp only [Except.ok.injEq, Prod.mk.injEq] at h
      obtain ⟨rfl, rfl, rfl⟩ := h
      have s := hv _ _ _ _ hr
      have := s.len
      exact ⟨s, by rw [snoc_len]; omega, by omega⟩
  | true =>
    simp only [if_true] at h
    cases h7 : takeP l.length 7 ts with
    | error e => rw [h7] at h; simp at h
    | ok q =>
      obtain ⟨t, r1⟩ := q
      rw [h7] at h
      simp only at h
      cases h5 : takeP l.length 5 r1 with
      | error e => rw [h5] at h; simp at h
      | ok q =>
        obtain ⟨c, r2⟩ := q
        rw [h5] at h
        simp only at h
        cases hr : val r2 with
        | error e => rw [hr] at h; simp at h
        | ok q =>
          obtain ⟨a, b, c2⟩ := q
          rw [hr] at h
          simp only [Except.ok.injEq, Prod.mk.injEq] at h
          obtain ⟨rfl, rfl, rfl⟩ := h
          have s1 := take_suf h7
          have s2 := take_suf h5
          have s3 := hv _ _ _ _ hr
          have l1 := s1.len
          have l2 := s2.len
          have l3 := s3.len
          refine ⟨s3.trans (s2.trans s1), by rw [snoc_len, snoc_len]; omega, by rw [List.length_append]; simp; omega⟩
theorem val_suf (l : List UInt8) : ∀ f, (∀ deep ts h k r, valP l f deep ts = .ok (h, k, r) → Suf r ts) ∧ (∀ obj d fr ts ms L h k r, restP l f obj d fr ts ms L = .ok (h, k, r) → Suf r ts) := by
  intro f
  induction f with
  | zero => exact ⟨fun deep ts h k r e => by simp [valP] at e, fun obj d fr ts ms L h k r e => by simp [restP] at e⟩
  | succ f ih =>
    obtain ⟨iv, ir⟩ := ih
    refine ⟨fun deep ts h k r e => ?_, fun obj d fr ts ms L h k r e => ?_⟩
    · cases ts with
      | nil => simp [valP] at e
      | cons t r0 =>
        unfold valP at e
        simp only at e
        by_cases h7 : t.1 = 7
        · rw [if_pos h7] at e
          simp only [Except.ok.injEq, Prod.mk.injEq] at e
          rw [← e.2.2]; exact Suf.one t r0
        · rw [if_neg h7] at e
          by_cases h8 : t.1 = 8
          · rw [if_pos h8] at e
            simp only [Except.ok.injEq, Prod.mk.injEq] at e
            rw [← e.2.2]; exact Suf.one t r0
          · rw [if_neg h8] at e
            by_cases h9 : t.1 = 9 ∨ t.1 = 10 ∨ t.1 = 11
            · rw [if_pos h9] at e
              simp only [Except.ok.injEq, Prod.mk.injEq] at e
              rw [← e.2.2]; exact Suf.one t r0
            · rw [if_neg h9] at e
              by_cases h1 : t.1 = 1 ∨ t.1 = 3
              · rw [if_pos h1] at e
                cases deep with
                | zero => simp at e
                | succ d =>
                  simp only at e
                  by_cases hk : kindP r0 = t.1 + 1
                  · rw [if_pos hk] at e
                    exact (ir _ _ _ _ _ _ _ _ _ e).trans (Suf.one t r0)
                  · rw [if_neg hk] at e
                    cases hi : itemW l (valP l f d) (decide (t.1 = 1)) r0 [] .nil with
                    | error x => rw [hi] at e; simp at e
                    | ok q =>
                      obtain ⟨ms, L, r2⟩ := q
                      rw [hi] at e
                      exact (ir _ _ _ _ _ _ _ _ _ e).trans ((item_suf (iv d) _ _ _ _ _ _ _ hi).1.trans (Suf.one t r0))
              · rw [if_neg h1] at e; simp at e
    · unfold restP at e
      by_cases hk : kindP ts = shL obj
      · rw [if_pos hk] at e
        cases ht : takeP l.length (shL obj) ts with
        | error x => rw [ht] at e; simp at e
        | ok q =>
          obtain ⟨t, r1⟩ := q
          rw [ht] at e
          simp only [Except.ok.injEq, Prod.mk.injEq] at e
          rw [← e.2.2]; exact take_suf ht
      · rw [if_neg hk] at e
        cases ht : takeP l.length 6 ts with
        | error x => rw [ht] at e; simp at e
        | ok q =>
          obtain ⟨t, r1⟩ := q
          rw [ht] at e
          simp only at e
          cases hi : itemW l (valP l f d) obj r1 (ms ++ [(t.2.1 : Int)]) L with
          | error x => rw [hi] at e; simp at e
          | ok q =>
            obtain ⟨ms2, L2, r2⟩ := q
            rw [hi] at e
            exact (ir _ _ _ _ _ _ _ _ _ e).trans ((item_suf (iv d) _ _ _ _ _ _ _ hi).1.trans (take_suf ht))
end Go.Proofs.YtbfnlgmhfhaglaaGreatDoor
/- A region whose order is drawn, whose last operations write a cell that earlier ones read: what is held is held up to a chosen operation. -/
namespace Go.Proofs.YtbfnlgmhfhaglaaGreatDoor
open Go.RowKit
set_option linter.unusedVariables false
set_option linter.unusedSimpArgs false

section
variable {P : Program} {ops : Array Oper} {Q : Exit → Act → World → Prop} {md : Region.Mode} {S : World → Prop} {d : Nat}

def AnyTo (P : Program) (md : Region.Mode) (ops : Array Oper) (Q : Exit → Act → World → Prop) (S : World → Prop) (d : Nat) : Nat → Array Bool → Act → World → Prop
  | 0, l, a, w => Region.ready md ops l = [] ∧ Q .normal a w
  | n + 1, l, a, w => (Region.ready md ops l = [] → Q .normal a w) ∧
    ∀ i ∈ Region.ready md ops l, wpOp P ops Q i (fun a' w' => ((l.setIfInBounds i true).getD d true = false → S w') ∧ AnyTo P md ops Q S d n (l.setIfInBounds i true) a' w') a w
theorem AnyTo.any : ∀ (n : Nat) (l : Array Bool) (a : Act) (w : World), AnyTo P md ops Q S d n l a w → wpAny P md ops Q n l a w
  | 0, _, _, _, h => h
  | n + 1, _, _, _, h => ⟨h.1, fun i hi => wpOp_mono (fun a' w' g => AnyTo.any n _ a' w' g.2) (h.2 i hi)⟩
def waitsFor (md : Region.Mode) (ops : Array Oper) (d i : Nat) : Bool := (ops[d]?.map fun o => o.after.any fun e => Region.binds md e && (e.on == i)).getD false
theorem waits_not {i : Nat} {l : Array Bool} (hw : waitsFor md ops d i = true) (hi : l.getD i true = false) : d ∉ Region.ready md ops l := by
  intro hd
  obtain ⟨-, o, ho, hall⟩ := mem_ready.1 hd
  unfold waitsFor at hw
  rw [ho] at hw
  simp only [Option.map_some, Option.getD_some, Array.any_eq_true, Bool.and_eq_true, beq_iff_eq] at hw
  obtain ⟨k, hk, hb, he⟩ := hw
  have := hall o.after[k] (Array.getElem_mem hk) hb
  rw [he] at this
  rcases Nat.lt_or_ge i l.size with h' | h'
  · simp [h'] at hi this; rw [hi] at this; cases this
  · simp [Array.getElem?_eq_none h'] at this
theorem AnyTo.first {T : World → Prop} {i : Nat} {oi : Oper} {v : Value} (hi : ops[i]? = some oi) (hsel : ∀ (j : Nat) (o : Oper) cs b, ops[j]? = some o → o.op ≠ .select cs b)
    (hQ : ∀ c a w, Q (.panic c) (a.put oi.dst v) w → Q (.panic c) a w) (hid : i ≠ d)
    (hT : ∀ w, T w ∨ (waitsFor md ops d i = true ∧ (S w → T w))) :
    ∀ (n : Nat) (l : Array Bool) (a : Act) (w : World),
      (∀ j oj, ops[j]? = some oj → j ≠ i → l.getD j true = false → (∀ e ∈ oj.after, Region.binds md e = true → e.on ≠ i) → oi.apart ops oj = true) →
      i ∈ Region.ready md ops l → YieldsIf P ops T oi v a → T w → (l.getD d true = false → S w) → (waitsFor md ops d i = true → l.getD d true = false) →
      AnyTo P md ops Q S d n (l.setIfInBounds i true) (a.put oi.dst v) w → AnyTo P md ops Q S d (n + 1) l a w := by
  have hset : ∀ l : Array Bool, (l.setIfInBounds i true).getD d true = l.getD d true := fun l => getD_set_ne true hid
  intro n
  induction n with
  | zero =>
    intro l a w _ hr hy hTw hS _ H
    refine ⟨fun h => (by rw [h] at hr; cases hr), fun j hj => ?_⟩
    by_cases hji : j = i
    · subst hji; exact hy.wpOp hi hTw ⟨fun h => hS (by rw [← hset l]; exact h), H⟩
    · have := ready_mono hj hji
      rw [H.1] at this
      cases this
  | succ n ih =>
    intro l a w hfree hr hy hTw hS hdl H
    refine ⟨fun h => (by rw [h] at hr; cases hr), fun j hj => ?_⟩
    by_cases hji : j = i
    · subst hji; exact hy.wpOp hi hTw ⟨fun h => hS (by rw [← hset l]; exact h), H⟩
    · have h1 := H.2 j (ready_mono hj hji)
      obtain ⟨hjun, oj, hoj, hall⟩ := mem_ready.1 hj
      have hiun := (mem_ready.1 hr).1
      have hnot : ∀ e ∈ oj.after, Region.binds md e = true → e.on ≠ i := fun e he hb heq => by
        have h1 := hall e he hb
        rw [heq] at h1
        rcases Nat.lt_or_ge i l.size with h' | h'
        · simp [h'] at hiun h1; rw [hiun] at h1; cases h1
        · simp [Array.getElem?_eq_none h'] at h1
      have hjd : waitsFor md ops d i = true → j ≠ d := fun hw e => waits_not hw hiun (e ▸ hj)
      have hset2 : ∀ m : Array Bool, j ≠ d → (m.setIfInBounds j true).getD d true = m.getD d true := fun m h => getD_set_ne true h
      have h2 := wpOp_putIf hoj (hfree j oj hoj hji hjun hnot) (fun cs b => hsel i oi cs b hi) (fun cs b => hsel j oj cs b hoj) hQ hy h1
      have hfree' : ∀ k ok, ops[k]? = some ok → k ≠ i → (l.setIfInBounds j true).getD k true = false →
          (∀ e ∈ ok.after, Region.binds md e = true → e.on ≠ i) → oi.apart ops ok = true := fun k ok hk hki hun hno => by
        refine hfree k ok hk hki ?_ hno
        by_cases hjk : j = k
        · subst hjk; exact hjun
        · rw [getD_set_ne true hjk] at hun; exact hun
      have comm : (l.setIfInBounds i true).setIfInBounds j true = (l.setIfInBounds j true).setIfInBounds i true := Array.setIfInBounds_comm _ _ (Ne.symm hji)
      refine wpOp_mono (fun a' w' h3 => ?_) h2
      have hS' : (l.setIfInBounds j true).getD d true = false → S w' := fun h => h3.2.1 (by rw [comm, hset]; exact h)
      have hd' : waitsFor md ops d i = true → (l.setIfInBounds j true).getD d true = false := fun hw => by rw [hset2 _ (hjd hw)]; exact hdl hw
      refine ⟨hS', ih (l.setIfInBounds j true) a' w' hfree' (ready_mono hr (Ne.symm hji)) h3.1 ?_ hS' hd' ?_⟩
      · rcases hT w' with h | ⟨hw, h⟩
        · exact h
        · exact h (hS' (hd' hw))
      · rw [← comm]; exact h3.2.2
theorem dtk (i : Nat) {oi : Oper} {v : Value} {fuel : Nat} {listed l2 : Array Bool} {a a2 : Act} {w : World}
    (h : AnyTo P md ops Q S d fuel l2 a2 w)
    (hi : ops[i]? = some oi := by exact (List.getElem?_toArray.trans (by simp only [List.getElem?_cons_succ, List.getElem?_cons_zero]; exact rfl)))
    (hy : YieldsIf P ops S oi v a := by exact Or.inl ⟨by rfl, by intro V hSV; (try dsimp only at hSV); (first | obtain ⟨s0, s1, s2, s3, s4, s5⟩ := hSV | obtain ⟨s0, s1, s2, s3, s4⟩ := hSV | obtain ⟨s0, s1, s2, s3⟩ := hSV | obtain ⟨s0, s1, s2⟩ := hSV | obtain ⟨s0, s1⟩ := hSV | skip); go_simp; (first | rw [if_neg (by omega)] | rw [if_pos (by omega)] | skip); (try with_reducible rfl)⟩)
    (hs : Region.noSelect ops = true := by kernel_rfl) (hf : Region.free md ops listed i = true := by kernel_rfl) (hr : (Region.ready md ops listed).contains i = true := by kernel_rfl)
    (hw : (waitsFor md ops d i && (listed.getD d true == false) && (i != d)) = true := by kernel_rfl)
    (hQ : ∀ c a w, Q (.panic c) (a.put oi.dst v) w → Q (.panic c) a w := by exact fun _ _ _ h => h) (hS : S w := by assumption)
    (hl : listed.setIfInBounds i true = l2 := by first | (simp only [List.getElem_toArray, List.getElem_cons_succ, List.getElem_cons_zero, Act.put, List.setIfInBounds_toArray, List.set_cons_zero, List.set_cons_succ]; done) | (simp only [List.getElem_toArray, List.getElem_cons_succ, List.getElem_cons_zero, Act.put, List.setIfInBounds_toArray, List.set_cons_zero, List.set_cons_succ]; exact rfl) | exact rfl)
    (ha : a.put oi.dst v = a2 := by first | (simp only [List.getElem_toArray, List.getElem_cons_succ, List.getElem_cons_zero, Act.put, List.setIfInBounds_toArray, List.set_cons_zero, List.set_cons_succ]; done) | (simp only [List.getElem_toArray, List.getElem_cons_succ, List.getElem_cons_zero, Act.put, List.setIfInBounds_toArray, List.set_cons_zero, List.set_cons_succ]; exact rfl) | exact rfl) :
    AnyTo P md ops Q S d (fuel + 1) listed a w := by
  rw [Bool.and_eq_true, Bool.and_eq_true] at hw
  obtain ⟨⟨h1, h2⟩, h3⟩ := hw
  exact AnyTo.first (T := S) hi (Region.noSelect_spec hs) hQ (by simpa using h3) (fun _ => .inr ⟨h1, id⟩) fuel listed a w (Region.free_spec hi hf) (by simpa using hr) hy hS (fun _ => hS) (fun _ => by simpa using h2) (by rw [hl, ha]; exact h)
theorem dtp (i : Nat) {oi : Oper} {v : Value} {fuel : Nat} {listed l2 : Array Bool} {a a2 : Act} {w : World}
    (h : AnyTo P md ops Q S d fuel l2 a2 w)
    (hi : ops[i]? = some oi := by exact (List.getElem?_toArray.trans (by simp only [List.getElem?_cons_succ, List.getElem?_cons_zero]; exact rfl)))
    (hy : YieldsIf P ops (fun _ => True) oi v a := by exact Or.inl ⟨by rfl, by intro V hSV; go_simp; (first | rw [if_neg (by omega)] | rw [if_pos (by omega)] | skip); (try with_reducible rfl)⟩)
    (hs : Region.noSelect ops = true := by kernel_rfl) (hf : Region.free md ops listed i = true := by kernel_rfl) (hr : (Region.ready md ops listed).contains i = true := by kernel_rfl)
    (hw : (i != d && (!(waitsFor md ops d i) || (listed.getD d true == false))) = true := by kernel_rfl)
    (hQ : ∀ c a w, Q (.panic c) (a.put oi.dst v) w → Q (.panic c) a w := by exact fun _ _ _ h => h) (hS : S w := by assumption)
    (hl : listed.setIfInBounds i true = l2 := by first | (simp only [List.getElem_toArray, List.getElem_cons_succ, List.getElem_cons_zero, Act.put, List.setIfInBounds_toArray, List.set_cons_zero, List.set_cons_succ]; done) | (simp only [List.getElem_toArray, List.getElem_cons_succ, List.getElem_cons_zero, Act.put, List.setIfInBounds_toArray, List.set_cons_zero, List.set_cons_succ]; exact rfl) | exact rfl)
    (ha : a.put oi.dst v = a2 := by first | (simp only [List.getElem_toArray, List.getElem_cons_succ, List.getElem_cons_zero, Act.put, List.setIfInBounds_toArray, List.set_cons_zero, List.set_cons_succ]; done) | (simp only [List.getElem_toArray, List.getElem_cons_succ, List.getElem_cons_zero, Act.put, List.setIfInBounds_toArray, List.set_cons_zero, List.set_cons_succ]; exact rfl) | exact rfl) :
    AnyTo P md ops Q S d (fuel + 1) listed a w := by
  rw [Bool.and_eq_true, Bool.or_eq_true] at hw
  obtain ⟨h3, h2⟩ := hw
  refine AnyTo.first (T := fun _ => True) hi (Region.noSelect_spec hs) hQ (by simpa using h3) (fun _ => .inl trivial) fuel listed a w (Region.free_spec hi hf) (by simpa using hr) hy trivial (fun _ => hS) (fun h => ?_) (by rw [hl, ha]; exact h)
  rcases h2 with h2 | h2
  · rw [h] at h2; simp at h2
  · simpa using h2
def ReadyTo (P : Program) (md : Region.Mode) (ops : Array Oper) (Q : Exit → Act → World → Prop) (S : World → Prop) (d : Nat) (fuel : Nat) (l : Array Bool) (a : Act) (w : World) (rs : List Nat) : Prop :=
  ∀ i ∈ rs, wpOp P ops Q i (fun a' w' => ((l.setIfInBounds i true).getD d true = false → S w') ∧ AnyTo P md ops Q S d fuel (l.setIfInBounds i true) a' w') a w
theorem ReadyTo.nil {fuel : Nat} {l : Array Bool} {a : Act} {w : World} : ReadyTo P md ops Q S d fuel l a w [] := fun _ h => by cases h
theorem ReadyTo.cons {fuel : Nat} {l : Array Bool} {a : Act} {w : World} {i : Nat} {o : Oper} {rs : List Nat} (ho : ops[i]? = some o)
    (h : ∀ K' : Act → World → Prop, Shut (∀ a w, S w → (S w → AnyTo P md ops Q S d fuel (l.setIfInBounds i true) a w) → K' a w) → if Region.wanted o (yielded ops a.tmps) = true then Oper.wp P o a w K' Q else K' (a.put o.dst undef) w)
    (hs : ReadyTo P md ops Q S d fuel l a w rs) : ReadyTo P md ops Q S d fuel l a w (i :: rs) := fun j hj => by
  rcases List.mem_cons.1 hj with rfl | hj
  · exact wpOp_step ho (fun K' hK => h K' (fun a w hS hW => hK a w ⟨fun _ => hS, hW hS⟩))
  · exact hs j hj
theorem ReadyTo.last {fuel : Nat} {l : Array Bool} {a : Act} {w : World} {i : Nat} {o : Oper} {rs : List Nat} (ho : ops[i]? = some o) (hd : (l.setIfInBounds i true).getD d true = true)
    (h : ∀ K' : Act → World → Prop, Shut (∀ a w, AnyTo P md ops Q S d fuel (l.setIfInBounds i true) a w → K' a w) → if Region.wanted o (yielded ops a.tmps) = true then Oper.wp P o a w K' Q else K' (a.put o.dst undef) w)
    (hs : ReadyTo P md ops Q S d fuel l a w rs) : ReadyTo P md ops Q S d fuel l a w (i :: rs) := fun j hj => by
  rcases List.mem_cons.1 hj with rfl | hj
  · exact wpOp_step ho (fun K' hK => h K' (fun a w hW => hK a w ⟨(fun h => by rw [hd] at h; cases h), hW⟩))
  · exact hs j hj
theorem AnyTo.ready {rs : List Nat} {fuel : Nat} {l : Array Bool} {a : Act} {w : World} (hr : Region.ready md ops l = rs) (hne : rs ≠ [])
    (h : ReadyTo P md ops Q S d fuel l a w rs) : AnyTo P md ops Q S d (fuel + 1) l a w :=
  ⟨fun h0 => absurd (hr ▸ h0) hne, hr ▸ h⟩
theorem AnyTo.done {l : Array Bool} {a : Act} {w : World} (hr : Region.ready md ops l = []) (h : Q .normal a w) : ∀ fuel, AnyTo P md ops Q S d fuel l a w
  | 0 => ⟨hr, h⟩
  | _ + 1 => ⟨fun _ => h, by rw [hr]; simp⟩
theorem wp_region_to {id : Nat} (d : Nat) {a : Act} {w : World} (hm : P.follows .mixedOrders = true) (hS : S w.drew)
    (h : S w.drew → AnyTo P .any ops Q S d ops.size (Array.replicate ops.size false) a w.drew) : (Code.region id ops true).wp P Q a w :=
  wp_region_any hm (AnyTo.any _ _ _ _ (h hS))
end
end Go.Proofs.YtbfnlgmhfhaglaaGreatDoor
/- jparse.Parse's deferred closure: what it does to a frame that panics with a stop, and to one that returns. -/
namespace Go.Proofs.YtbfnlgmhfhaglaaGreatDoor
open Go.RowKit
set_option linter.unusedVariables false
set_option linter.unusedSimpArgs false

theorem infoF1 : (Tryz.prog.info? 34).map (·.size) = some 2 := by kernel_rfl
def zvl : List Value := vvl ⟨0, [], false, [], [], 0, 0, []⟩ nilV nilV nilV
end Go.Proofs.YtbfnlgmhfhaglaaGreatDoor
