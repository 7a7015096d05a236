/- Texts of ours in one: ZPt. -/
import Derived.Test.YtbfnlgmhfhaglaaGreatDoorQk16
import Derived.Test.YtbfnlgmhfhaglaaGreatDoorQk17
/- JSON, plain: the pieces of what was read are its tokens, one by one; what was read may be. -/
namespace Go.Proofs.YtbfnlgmhfhaglaaGreatDoor
set_option linter.unusedVariables false
set_option linter.unusedSimpArgs false

def pieceB (l : List UInt8) (t : Nat × Nat × Nat) : List UInt8 :=
  if t.1 = 1 then [123] else if t.1 = 2 then [125] else if t.1 = 3 then [91] else if t.1 = 4 then [93] else if t.1 = 5 then [58] else if t.1 = 6 then [44]
  else if t.1 = 7 then sglB (textV l t) else if t.1 = 8 then sglB (numbV l t) else sglB (leafP ((t.1 : Int) - 4) t.2.1)
def pcT (l : List UInt8) (t : Nat × Nat × Nat) : Jp := (pieceB l t, (t.2.1 : Int))
theorem pcsL_snoc (k : Int) (ms : List Int) (h : Vh) (kids : Vo) (L : Vo) : ∀ i, pcsL k ms (L.snoc h kids) i = pcsL k ms L i ++ ((if 0 < i + L.len then [(mkB k (i + L.len), ms.getD (i + L.len - 1) 0)] else []) ++ pcsV h kids) := by
  induction L with
  | nil => intro i; simp [Vo.snoc, pcsL_cons, Vo.len, pcsL]
  | cons a b r _ ih =>
    intro i
    show pcsL k ms (.cons a b (r.snoc h kids)) i = _
    rw [pcsL_cons, pcsL_cons, ih]
    simp only [List.append_assoc, Vo.len]
    rw [show i + 1 + r.len = i + (r.len + 1) by omega]
    rfl
theorem pcsL_ms (k : Int) (ms ms' : List Int) (L : Vo) : ∀ i, (∀ j, i ≤ j → j < i + L.len → 0 < j → ms.getD (j - 1) 0 = ms'.getD (j - 1) 0) → pcsL k ms L i = pcsL k ms' L i := by
  induction L with
  | nil => intro i _; simp [pcsL]
  | cons a b r _ ih =>
    intro i h
    rw [pcsL_cons, pcsL_cons, ih (i + 1) (fun j h1 h2 h3 => h j (by omega) (by simp only [Vo.len]; omega) h3)]
    by_cases hi : 0 < i
    · rw [if_pos hi, if_pos hi, h i (Nat.le_refl _) (by simp only [Vo.len]; omega) hi]
    · rw [if_neg hi, if_neg hi]
theorem take_kind {n k : Nat} {ts r : M.Toks} {t : Nat × Nat × Nat} (e : takeP n k ts = .ok (t, r)) : t.1 = k := by
  cases ts with
  | nil => simp [takeP] at e
  | cons a b =>
    by_cases hk : a.1 = k
    · simp only [takeP, if_pos hk, Except.ok.injEq, Prod.mk.injEq] at e
      rw [← e.1]; exact hk
    · simp [takeP, hk] at e
theorem getD_app1 (a : List Int) (z : Int) (n : Nat) (h : n < a.length) : (a ++ [z]).getD n 0 = a.getD n 0 := by
  simp [List.getD, List.getElem?_append_left h]
theorem getD_last (a : List Int) (z : Int) : (a ++ [z]).getD a.length 0 = z := by simp [List.getD]
def comP (ms : List Int) (n : Nat) : List Jp := if 0 < n then [([44], ms.getD (n - 1) 0)] else []
theorem item_pcs (l : List UInt8) (val : M.Toks → PRes) (hv : ∀ ts h kids r, val ts = .ok (h, kids, r) → ∃ p, ts = p ++ r ∧ pcsV h kids = p.map (pcT l))
    (obj : Bool) (ts : M.Toks) (ms : List Int) (L : Vo) (ms2 : List Int) (L2 : Vo) (r : M.Toks) (h : itemW l val obj ts ms L = .ok (ms2, L2, r)) (hm : ms.length = L.len) (he : obj = true → L.len % 2 = 0) :
    (∃ p, ts = p ++ r ∧ pcsL (kdL obj) ms2 L2 0 = pcsL (kdL obj) ms L 0 ++ (comP ms L.len ++ p.map (pcT l))) ∧ ms2.length + 1 = L2.len ∧ (obj = true → L2.len % 2 = 0) := by
  unfold itemW at h
  cases obj with
  | false =>
    simp only [Bool.false_eq_true, if_false] at h
    cases hr : val ts with
    | error e => rw [hr] at h; simp at h
    | ok q =>
      obtain ⟨a, b, c⟩ := q
      rw [hr] at h
      simp only [Except.ok.injEq, Prod.mk.injEq] at h
      obtain ⟨rfl, rfl, rfl⟩ := h
      obtain ⟨p, e1, e2⟩ := hv _ _ _ _ hr
      refine ⟨⟨p, e1, ?_⟩, by rw [snoc_len]; omega, fun h => by cases h⟩
      rw [pcsL_snoc, Nat.zero_add, e2]
      simp [comP, mkB, kdL]
  | true =>
    simp only [if_true] at h
    cases h7 : takeP l.length 7 ts with
    | error e => rw [h7] at h; simp at h
    | ok q =>
      obtain ⟨t, r1⟩ := q
      rw [h7] at h
      simp only at h
      cases h5 : takeP l.length 5 r1 with
      | error e => rw [h5] at h; simp at h
      | ok q =>
        obtain ⟨c, r2⟩ := q
        rw [h5] at h
        simp only at h
        cases hr : val r2 with
        | error e => rw [hr] at h; simp at h
        | ok q =>
          obtain ⟨a, b, c2⟩ := q
          rw [hr] at h
          simp only [Except.ok.injEq, Prod.mk.injEq] at h
          obtain ⟨rfl, rfl, rfl⟩ := h
          obtain ⟨p, e1, e2⟩ := hv _ _ _ _ hr
          have t7 := take_kind h7
          have t5 := take_kind h5
          have he := he rfl
          refine ⟨⟨t :: c :: p, by rw [take_len h7, take_len h5, e1]; rfl, ?_⟩, by rw [snoc_len, snoc_len, List.length_append, List.length_singleton]; omega, fun _ => by rw [snoc_len, snoc_len]; omega⟩
          rw [pcsL_snoc, pcsL_snoc, snoc_len, Nat.zero_add, Nat.zero_add, e2, pcsL_ms (kdL true) (ms ++ [(c.2.1 : Int)]) ms L 0 (fun j _ h2 h3 => getD_app1 _ _ _ (by omega))]
          have k1 : mkB (kdL true) L.len = [44] := by unfold mkB; rw [if_neg (by omega)]
          have k2 : mkB (kdL true) (L.len + 1) = [58] := by unfold mkB kdL; rw [if_pos ⟨by decide, by omega⟩]
          have p7 : pcsV (textV l t) .nil = [pcT l t] := by simp [pcsV, textV, pcT, pieceB, t7]
          have p5 : pcT l c = ([58], (c.2.1 : Int)) := by simp [pcT, pieceB, t5]
          rw [k1, k2, p7, if_pos (Nat.succ_pos _), Nat.add_sub_cancel, ← hm, getD_last, hm]
          unfold comP
          by_cases h0 : 0 < L.len
          · rw [if_pos h0, if_pos h0, getD_app1 _ _ _ (by omega)]
            simp [p5]
          · rw [if_neg h0, if_neg h0]
            simp [p5]
theorem val_pcs (l : List UInt8) : ∀ f, (∀ deep ts h kids r, valP l f deep ts = .ok (h, kids, r) → ∃ p, ts = p ++ r ∧ pcsV h kids = p.map (pcT l)) ∧
    (∀ obj d fr ts ms L h kids r, restP l f obj d fr ts ms L = .ok (h, kids, r) → ms.length + 1 = L.len → (obj = true → L.len % 2 = 0) → ∃ p, ts = p ++ r ∧ h.k = kdL obj ∧ h.fr = fr ∧ pcsL (kdL obj) h.ms kids 0 ++ [(clB (kdL obj), h.tt)] = pcsL (kdL obj) ms L 0 ++ p.map (pcT l)) := by
  intro f
  induction f with
  | zero => exact ⟨fun deep ts h kids r e => by simp [valP] at e, fun obj d fr ts ms L h kids r e => by simp [restP] at e⟩
  | succ f ih =>
    obtain ⟨iv, ir⟩ := ih
    have shut : ∀ (obj : Bool) (t : Nat × Nat × Nat), t.1 = shL obj → pcT l t = (clB (kdL obj), (t.2.1 : Int)) := by
      intro obj t ht
      cases obj <;> simp [pcT, pieceB, ht, shL, clB, kdL]
    refine ⟨fun deep ts h kids r e => ?_, fun obj d fr ts ms L h kids r e hm he => ?_⟩
    · cases ts with
      | nil => simp [valP] at e
      | cons t r0 =>
        unfold valP at e
        simp only at e
        by_cases h7 : t.1 = 7
        · rw [if_pos h7] at e
          simp only [Except.ok.injEq, Prod.mk.injEq] at e
          obtain ⟨rfl, rfl, rfl⟩ := e
          exact ⟨[t], rfl, by simp [pcsV, textV, pcT, pieceB, h7]⟩
        · rw [if_neg h7] at e
          by_cases h8 : t.1 = 8
          · rw [if_pos h8] at e
            simp only [Except.ok.injEq, Prod.mk.injEq] at e
            obtain ⟨rfl, rfl, rfl⟩ := e
            exact ⟨[t], rfl, by simp [pcsV, numbV, pcT, pieceB, h8]⟩
          · rw [if_neg h8] at e
            by_cases h9 : t.1 = 9 ∨ t.1 = 10 ∨ t.1 = 11
            · rw [if_pos h9] at e
              simp only [Except.ok.injEq, Prod.mk.injEq] at e
              obtain ⟨rfl, rfl, rfl⟩ := e
              refine ⟨[t], rfl, ?_⟩
              rcases h9 with h9 | h9 | h9 <;> simp [pcsV, leafP, pcT, pieceB, h9]
            · rw [if_neg h9] at e
              by_cases h1 : t.1 = 1 ∨ t.1 = 3
              · rw [if_pos h1] at e
                cases deep with
                | zero => simp at e
                | succ d =>
                  simp only at e
                  obtain ⟨obj, hob⟩ : ∃ obj : Bool, decide (t.1 = 1) = obj := ⟨_, rfl⟩
                  have hsh : t.1 + 1 = shL obj := by
                    rw [← hob]
                    rcases h1 with h1 | h1 <;> simp [h1, shL]
                  have hop : pcT l t = (opB (kdL obj), (t.2.1 : Int)) := by
                    rw [← hob]
                    rcases h1 with h1 | h1 <;> simp [pcT, pieceB, h1, opB, kdL]
                  rw [hob] at e
                  have fin : ∀ (p : M.Toks), r0 = p ++ r → h.k = kdL obj → h.fr = t.2.1 → pcsL (kdL obj) h.ms kids 0 ++ [(clB (kdL obj), h.tt)] = p.map (pcT l) → ∃ p, t :: r0 = p ++ r ∧ pcsV h kids = p.map (pcT l) := by
                    intro p hp hk hf hq
                    refine ⟨t :: p, by rw [hp]; rfl, ?_⟩
                    unfold pcsV
                    rw [if_pos (by rw [hk]; cases obj <;> simp [kdL]), hk, hf, List.map_cons, ← hq, hop]
                  by_cases hk : kindP r0 = t.1 + 1
                  · rw [if_pos hk] at e
                    cases f with
                    | zero => simp [restP] at e
                    | succ f =>
                      rw [restP, if_pos (by rw [hk, hsh])] at e
                      cases ht : takeP l.length (shL obj) r0 with
                      | error x => rw [ht] at e; simp at e
                      | ok q =>
                        obtain ⟨c, r1⟩ := q
                        rw [ht] at e
                        simp only [Except.ok.injEq, Prod.mk.injEq] at e
                        obtain ⟨rfl, rfl, rfl⟩ := e
                        exact fin [c] (take_len ht) rfl rfl (by simp [pcsL, shut obj c (take_kind ht)])
                  · rw [if_neg hk] at e
                    cases hi : itemW l (valP l f d) obj r0 [] .nil with
                    | error x => rw [hi] at e; simp at e
                    | ok q =>
                      obtain ⟨ms, L, r2⟩ := q
                      rw [hi] at e
                      obtain ⟨⟨p1, e1, e2⟩, e3, e4⟩ := item_pcs l (valP l f d) (iv d) obj r0 [] .nil ms L r2 hi rfl (fun _ => rfl)
                      obtain ⟨p2, g1, g2, g3, g4⟩ := ir _ _ _ _ _ _ _ _ _ e e3 e4
                      refine fin (p1 ++ p2) (by rw [e1, g1, List.append_assoc]) g2 g3 ?_
                      rw [g4, e2]
                      simp [comP, Vo.len, pcsL]
              · rw [if_neg h1] at e; simp at e
    · unfold restP at e
      by_cases hk : kindP ts = shL obj
      · rw [if_pos hk] at e
        cases ht : takeP l.length (shL obj) ts with
        | error x => rw [ht] at e; simp at e
        | ok q =>
          obtain ⟨t, r1⟩ := q
          rw [ht] at e
          simp only [Except.ok.injEq, Prod.mk.injEq] at e
          obtain ⟨rfl, rfl, rfl⟩ := e
          exact ⟨[t], take_len ht, rfl, rfl, by simp [shut obj t (take_kind ht)]⟩
      · rw [if_neg hk] at e
        cases ht : takeP l.length 6 ts with
        | error x => rw [ht] at e; simp at e
        | ok q =>
          obtain ⟨c, r1⟩ := q
          rw [ht] at e
          simp only at e
          cases hi : itemW l (valP l f d) obj r1 (ms ++ [(c.2.1 : Int)]) L with
          | error x => rw [hi] at e; simp at e
          | ok q =>
            obtain ⟨ms2, L2, r2⟩ := q
            rw [hi] at e
            obtain ⟨⟨p1, e1, e2⟩, e3, e4⟩ := item_pcs l (valP l f d) (iv d) obj r1 _ L ms2 L2 r2 hi (by rw [List.length_append, List.length_singleton]; omega) he
            obtain ⟨p2, g1, g2, g3, g4⟩ := ir _ _ _ _ _ _ _ _ _ e e3 e4
            refine ⟨c :: (p1 ++ p2), by rw [take_len ht, e1, g1]; simp, g2, g3, ?_⟩
            have p6 : pcT l c = ([44], (c.2.1 : Int)) := by simp [pcT, pieceB, take_kind ht]
            have q6 : comP (ms ++ [(c.2.1 : Int)]) L.len = [pcT l c] := by
              unfold comP
              rw [if_pos (by omega), show L.len - 1 = ms.length by omega, getD_last, p6]
            rw [g4, e2, q6, pcsL_ms (kdL obj) (ms ++ [(c.2.1 : Int)]) ms L 0 (fun j _ h2 h3 => getD_app1 _ _ _ (by omega))]
            simp
end Go.Proofs.YtbfnlgmhfhaglaaGreatDoor
