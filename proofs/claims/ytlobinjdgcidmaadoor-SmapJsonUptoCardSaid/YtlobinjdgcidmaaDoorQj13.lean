/- Texts of ours in one: ZPl. -/
import Derived.Test.YtlobinjdgcidmaaDoorQj12
/- jparse, plain: what a list of tokens is, in the program's own order (values so far, marks so far). -/
namespace Go.Proofs.YtlobinjdgcidmaaDoor
set_option linter.unusedVariables false
set_option linter.unusedSimpArgs false

def Vo.snoc : Vo → Vh → Vo → Vo
  | .nil, h, k => .cons h k .nil
  | .cons a b r, h, k => .cons a b (r.snoc h k)
theorem snoc_len (L : Vo) (h : Vh) (k : Vo) : (L.snoc h k).len = L.len + 1 := by
  induction L with
  | nil => rfl
  | cons a b r _ ih => simp only [Vo.snoc, Vo.len, ih]
def unitsV (s : List UInt8) : Option (List Nat) := if 2 ≤ s.length ∧ s.getD 0 0 = 34 ∧ s.getD (s.length - 1) 0 = 34 then M.uF s.length ((s.drop 1).take (s.length - 2)) else none
def tokB (l : List UInt8) (t : Nat × Nat × Nat) : List UInt8 := (l.drop t.2.1).take (t.2.2 - t.2.1)
def txtL (l : List UInt8) (t : Nat × Nat × Nat) : List Int := iN ((unitsV (tokB l t)).getD [])
def textV (l : List UInt8) (t : Nat × Nat × Nat) : Vh := ⟨3, txtL l t, false, [], [], t.2.1, 0, []⟩
def numbV (l : List UInt8) (t : Nat × Nat × Nat) : Vh := ⟨4, [], (M.readN (tokB l t)).1.1, (M.readN (tokB l t)).1.2.1, (M.readN (tokB l t)).1.2.2, t.2.1, 0, []⟩
def TkIn (l : List UInt8) (ts : M.Toks) : Prop := ∀ t ∈ ts, t.2.1 < t.2.2 ∧ t.2.2 ≤ l.length
abbrev PRes := Except (Int × Int) (Vh × Vo × M.Toks)
abbrev LRes := Except (Int × Int) (List Int × Vo × M.Toks)
def itemW (l : List UInt8) (val : M.Toks → PRes) (obj : Bool) (ts : M.Toks) (ms : List Int) (L : Vo) : LRes :=
  if obj then
    match takeP l.length 7 ts with
    | .error e => .error e
    | .ok (t, r) => match takeP l.length 5 r with
      | .error e => .error e
      | .ok (c, r2) => match val r2 with
        | .error e => .error e
        | .ok (h, kids, r3) => .ok (ms ++ [(c.2.1 : Int)], (L.snoc (textV l t) .nil).snoc h kids, r3)
  else match val ts with
    | .error e => .error e
    | .ok (h, kids, r) => .ok (ms, L.snoc h kids, r)
def kdL (obj : Bool) : Int := if obj then 1 else 2
def opL (obj : Bool) : Nat := if obj then 1 else 3
def shL (obj : Bool) : Nat := if obj then 2 else 4
mutual
def valP (l : List UInt8) : Nat → Nat → M.Toks → PRes
  | 0, _, ts => .error (synP l.length ts)
  | f + 1, deep, ts => match ts with
    | [] => .error (synP l.length [])
    | t :: r =>
      if t.1 = 7 then .ok (textV l t, .nil, r)
      else if t.1 = 8 then .ok (numbV l t, .nil, r)
      else if t.1 = 9 ∨ t.1 = 10 ∨ t.1 = 11 then .ok (leafP ((t.1 : Int) - 4) t.2.1, .nil, r)
      else if t.1 = 1 ∨ t.1 = 3 then
        (match deep with
         | 0 => .error (4, (t.2.1 : Int))
         | d + 1 =>
           if kindP r = t.1 + 1 then restP l f (decide (t.1 = 1)) d t.2.1 r [] .nil
           else match itemW l (valP l f d) (decide (t.1 = 1)) r [] .nil with
             | .error e => .error e
             | .ok (ms, L, r2) => restP l f (decide (t.1 = 1)) d t.2.1 r2 ms L)
      else .error (synP l.length (t :: r))
def restP (l : List UInt8) : Nat → Bool → Nat → Nat → M.Toks → List Int → Vo → PRes
  | 0, _, _, _, ts, _, _ => .error (synP l.length ts)
  | f + 1, obj, d, fr, ts, ms, L =>
    if kindP ts = shL obj then
      match takeP l.length (shL obj) ts with
      | .error e => .error e
      | .ok (t, r) => .ok (⟨kdL obj, [], false, [], [], fr, t.2.1, ms⟩, L, r)
    else match takeP l.length 6 ts with
      | .error e => .error e
      | .ok (c, r) => match itemW l (valP l f d) obj r (ms ++ [(c.2.1 : Int)]) L with
        | .error e => .error e
        | .ok (ms2, L2, r2) => restP l f obj d fr r2 ms2 L2
end
def parP (l : List UInt8) (deep : Nat) (ts : M.Toks) : Except (Int × Int) (Vh × Vo) := match valP l (2 * ts.length + 2) deep ts with
  | .error e => .error e
  | .ok (h, kids, []) => .ok (h, kids)
  | .ok (_, _, r) => .error (synP l.length r)
theorem take_len {n k : Nat} {ts r : M.Toks} {t : Nat × Nat × Nat} (e : takeP n k ts = .ok (t, r)) : ts = t :: r := by
  cases ts with
  | nil => simp [takeP] at e
  | cons a b =>
    by_cases hk : a.1 = k
    · simp only [takeP, if_pos hk, Except.ok.injEq, Prod.mk.injEq] at e
      rw [e.1, e.2]
    · simp [takeP, hk] at e
def Suf (r ts : M.Toks) : Prop := ∃ p : M.Toks, p ≠ [] ∧ ts = p ++ r
theorem Suf.len {r ts : M.Toks} (h : Suf r ts) : r.length < ts.length := by
  obtain ⟨p, hp, rfl⟩ := h
  have := List.length_pos_iff.2 hp
  rw [List.length_append]; omega
theorem Suf.trans {a b c : M.Toks} (h : Suf a b) (k : Suf b c) : Suf a c := by
  obtain ⟨p, hp, rfl⟩ := h
  obtain ⟨q, hq, rfl⟩ := k
  exact ⟨q ++ p, by simp [hq], by simp⟩
theorem Suf.one (t : Nat × Nat × Nat) (r : M.Toks) : Suf r (t :: r) := ⟨[t], by simp, rfl⟩
theorem take_suf {n k : Nat} {ts r : M.Toks} {t : Nat × Nat × Nat} (e : takeP n k ts = .ok (t, r)) : Suf r ts := by
  rw [take_len e]; exact Suf.one t r
theorem item_suf {l : List UInt8} {val : M.Toks → PRes} (hv : ∀ ts h k r, val ts = .ok (h, k, r) → Suf r ts) (obj : Bool) (ts : M.Toks) (ms : List Int) (L : Vo) (ms' : List Int) (L' : Vo) (r : M.Toks) (h : itemW l val obj ts ms L = .ok (ms', L', r)) :
    Suf r ts ∧ L'.len + r.length ≤ L.len + ts.length ∧ ms'.length + r.length ≤ ms.length + ts.length := by
  unfold itemW at h
  cases obj with
  | false =>
    simp only [Bool.false_eq_true, if_false] at h
    cases hr : val ts with
    | error e => rw [hr] at h; simp at h
    | ok q =>
      obtain ⟨a, b, c⟩ := q
      rw [hr] at h
      simp only [Except.ok.injEq, Prod.mk.injEq] at h
      obtain ⟨rfl, rfl, rfl⟩ := h
      have s := hv _ _ _ _ hr
      have := s.len
      exact ⟨s, by rw [snoc_len]; omega, by omega⟩
  | true =>
    simp only [if_true] at h
    cases h7 : takeP l.length 7 ts with
    | error e => rw [h7] at h; simp at h
    | ok q =>
      obtain ⟨t, r1⟩ := q
      rw [h7] at h
      simp only at h
      cases h5 : takeP l.length 5 r1 with
      | error e => rw [h5] at h; simp at h
      | ok q =>
        obtain ⟨c, r2⟩ := q
        rw [h5] at h
        simp only at h
        cases hr : val r2 with
        | error e => rw [hr] at h; simp at h
        | ok q =>
          obtain ⟨a, b, c2⟩ := q
          rw [hr] at h
          simp only [Except.ok.injEq, Prod.mk.injEq] at h
          obtain ⟨rfl, rfl, rfl⟩ := h
          have s1 := take_suf h7
          have s2 := take_suf h5
          have s3 := hv _ _ _ _ hr
          have l1 := s1.len
          have l2 := s2.len
          have l3 := s3.len
          refine ⟨s3.trans (s2.trans s1), by rw [snoc_len, snoc_len]; omega, by rw [List.length_append]; simp; omega⟩
theorem val_suf (l : List UInt8) : ∀ f, (∀ deep ts h k r, valP l f deep ts = .ok (h, k, r) → Suf r ts) ∧ (∀ obj d fr ts ms L h k r, restP l f obj d fr ts ms L = .ok (h, k, r) → Suf r ts) := by
  intro f
  induction f with
  | zero => exact ⟨fun deep ts h k r e => by simp [valP] at e, fun obj d fr ts ms L h k r e => by simp [restP] at e⟩
  | succ f ih =>
    obtain ⟨iv, ir⟩ := ih
    refine ⟨fun deep ts h k r e => ?_, fun obj d fr ts ms L h k r e => ?_⟩
    · cases ts with
      | nil => simp [valP] at e
      | cons t r0 =>
        unfold valP at e
        simp only at e
        by_cases h7 : t.1 = 7
        · rw [if_pos h7] at e
          simp only [Except.ok.injEq, Prod.mk.injEq] at e
          rw [← e.2.2]; exact Suf.one t r0
        · rw [if_neg h7] at e
          by_cases h8 : t.1 = 8
          · rw [if_pos h8] at e
            simp only [Except.ok.injEq, Prod.mk.injEq] at e
            rw [← e.2.2]; exact Suf.one t r0
          · rw [if_neg h8] at e
            by_cases h9 : t.1 = 9 ∨ t.1 = 10 ∨ t.1 = 11
            · rw [if_pos h9] at e
              simp only [Except.ok.injEq, Prod.mk.injEq] at e
              rw [← e.2.2]; exact Suf.one t r0
            · rw [if_neg h9] at e
              by_cases h1 : t.1 = 1 ∨ t.1 = 3
              · rw [if_pos h1] at e
                cases deep with
                | zero => simp at e
                | succ d =>
                  simp only at e
                  by_cases hk : kindP r0 = t.1 + 1
                  · rw [if_pos hk] at e
                    exact (ir _ _ _ _ _ _ _ _ _ e).trans (Suf.one t r0)
                  · rw [if_neg hk] at e
                    cases hi : itemW l (valP l f d) (decide (t.1 = 1)) r0 [] .nil with
                    | error x => rw [hi] at e; simp at e
                    | ok q =>
                      obtain ⟨ms, L, r2⟩ := q
                      rw [hi] at e
                      exact (ir _ _ _ _ _ _ _ _ _ e).trans ((item_suf (iv d) _ _ _ _ _ _ _ hi).1.trans (Suf.one t r0))
              · rw [if_neg h1] at e; simp at e
    · unfold restP at e
      by_cases hk : kindP ts = shL obj
      · rw [if_pos hk] at e
        cases ht : takeP l.length (shL obj) ts with
        | error x => rw [ht] at e; simp at e
        | ok q =>
          obtain ⟨t, r1⟩ := q
          rw [ht] at e
          simp only [Except.ok.injEq, Prod.mk.injEq] at e
          rw [← e.2.2]; exact take_suf ht
      · rw [if_neg hk] at e
        cases ht : takeP l.length 6 ts with
        | error x => rw [ht] at e; simp at e
        | ok q =>
          obtain ⟨t, r1⟩ := q
          rw [ht] at e
          simp only at e
          cases hi : itemW l (valP l f d) obj r1 (ms ++ [(t.2.1 : Int)]) L with
          | error x => rw [hi] at e; simp at e
          | ok q =>
            obtain ⟨ms2, L2, r2⟩ := q
            rw [hi] at e
            exact (ir _ _ _ _ _ _ _ _ _ e).trans ((item_suf (iv d) _ _ _ _ _ _ _ hi).1.trans (take_suf ht))
end Go.Proofs.YtlobinjdgcidmaaDoor
