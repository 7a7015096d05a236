/- Texts of ours in one: ZBk ZBl ZKy VqMath. -/
import Derived.Test.YtlobinjdgcidmaaGreatDoorQs27
import Derived.Test.YtlobinjdgcidmaaGreatDoorQs26
import Derived.Test.YtlobinjdgcidmaaGreatDoorQs19
import Derived.Lib.Bytealg
/- JSON, plain: what is written shortest is read back as the same value. -/
namespace Go.Proofs.YtlobinjdgcidmaaGreatDoor
set_option linter.unusedVariables false
set_option linter.unusedSimpArgs false

def sglK (h : Vh) : Nat := if h.k = 3 then 7 else if h.k = 4 then 8 else if h.k = 5 then 9 else if h.k = 6 then 10 else 11
def mkT (k : Int) (i : Nat) : Nat × List UInt8 := (if k = 1 ∧ i % 2 = 1 then 5 else 6, mkB k i)
def opT (k : Int) : Nat × List UInt8 := (if k = 1 then 1 else 3, opB k)
def clT (k : Int) : Nat × List UInt8 := (if k = 1 then 2 else 4, clB k)
def tlL (k : Int) : Vo → Nat → M.TL
  | .nil, _ => []
  | .cons h kids rest, i => (if 0 < i then [mkT k i] else []) ++ ((if h.k = 1 ∨ h.k = 2 then opT h.k :: (tlL h.k kids 0 ++ [clT h.k]) else [(sglK h, sglB h)]) ++ tlL k rest (i + 1))
def tlV (h : Vh) (kids : Vo) : M.TL := if h.k = 1 ∨ h.k = 2 then opT h.k :: (tlL h.k kids 0 ++ [clT h.k]) else [(sglK h, sglB h)]
theorem tlL_cons (k : Int) (h : Vh) (kids rest : Vo) (i : Nat) : tlL k (.cons h kids rest) i = (if 0 < i then [mkT k i] else []) ++ (tlV h kids ++ tlL k rest (i + 1)) := rfl
theorem tl_txtL (L : Vo) : ∀ k ms i, (tlL k L i).map (·.2) = (pcsL k ms L i).map (·.1) := by
  induction L with
  | nil => intros; rfl
  | cons h kids rest ih1 ih2 =>
    intro k ms i
    simp only [tlL, pcsL, List.map_append, ih2 k ms]
    congr 1
    · split <;> rfl
    · congr 1
      split
      · simp only [List.map_cons, List.map_append, ih1 h.k h.ms, List.map_nil, opT, clT]
      · rfl
theorem tl_txt (h : Vh) (kids : Vo) : (tlV h kids).map (·.2) = (pcsV h kids).map (·.1) := by
  unfold tlV pcsV
  split
  · simp only [List.map_cons, List.map_append, tl_txtL kids h.k h.ms, List.map_nil, opT, clT]
  · rfl
theorem bld_flat (tl : M.TL) : ∀ j, M.bld (fun _ => []) j tl = (tl.map (·.2)).flatten := by
  induction tl with
  | nil => intro j; rfl
  | cons x r ih => intro j; rw [M.bld_cons, ih]; simp
theorem tl_jtx (h : Vh) (kids : Vo) : M.bld (fun _ => []) 0 (tlV h kids) = (pcsV h kids).flatMap (fun q => q.1) := by
  rw [bld_flat, tl_txt, List.flatMap_def]
theorem right_list {h : Vh} {kids : Vo} {d : Nat} (hr : rightH h kids d = true) (hk : h.k = 1 ∨ h.k = 2) : h.tx = [] ∧ (h.ng = false ∧ h.dg = [] ∧ h.ex = []) ∧ 0 < d ∧ rightVo kids (d - 1) = true ∧ (h.k = 1 → evK true kids = true ∧ kids.len % 2 = 0) := by
  unfold rightH headB at hr
  rw [if_pos hk] at hr
  simp only [Bool.and_eq_true, decide_eq_true_eq] at hr
  obtain ⟨-, ⟨⟨h1, h2⟩, h3⟩, ⟨-, h5⟩, h6⟩ := hr
  refine ⟨List.eq_nil_of_length_eq_zero h1, ?_, h3, h6, fun hk1 => ?_⟩
  · unfold nnum at h2
    simpa [Bool.and_eq_true, List.isEmpty_iff, and_assoc] using h2
  · unfold keysB at h5
    simpa [hk1] using h5
theorem right_leaf {h : Vh} {kids : Vo} {d : Nat} (hr : rightH h kids d = true) (hk : ¬ (h.k = 1 ∨ h.k = 2)) : kids.len = 0 ∧ ((h.k = 3 ∧ (h.ng = false ∧ h.dg = [] ∧ h.ex = []) ∧ M.rightU h.tx = true) ∨ (h.k = 4 ∧ h.tx = [] ∧ M.rightN h.dg h.ex = true) ∨ ((h.k = 5 ∨ h.k = 6 ∨ h.k = 7) ∧ h.tx = [] ∧ (h.ng = false ∧ h.dg = [] ∧ h.ex = []))) := by
  unfold rightH headB at hr
  rw [if_neg hk] at hr
  have nn : nnum h = true → (h.ng = false ∧ h.dg = [] ∧ h.ex = []) := fun q => by
    unfold nnum at q
    simpa [Bool.and_eq_true, List.isEmpty_iff, and_assoc] using q
  have nl : nlist h kids.len = true → kids.len = 0 := fun q => by
    unfold nlist at q
    simp only [Bool.and_eq_true, decide_eq_true_eq] at q
    exact q.1.1
  by_cases h3 : h.k = 3
  · rw [if_pos h3] at hr
    simp only [Bool.and_eq_true, decide_eq_true_eq] at hr
    exact ⟨nl hr.2.1.2, .inl ⟨h3, nn hr.2.1.1, hr.2.2⟩⟩
  · rw [if_neg h3] at hr
    by_cases h4 : h.k = 4
    · rw [if_pos h4] at hr
      simp only [Bool.and_eq_true, decide_eq_true_eq] at hr
      exact ⟨nl hr.2.1.2, .inr (.inl ⟨h4, List.eq_nil_of_length_eq_zero hr.2.1.1, hr.2.2⟩)⟩
    · rw [if_neg h4] at hr
      by_cases h5 : h.k = 5 ∨ h.k = 6 ∨ h.k = 7
      · rw [if_pos h5] at hr
        simp only [Bool.and_eq_true, decide_eq_true_eq] at hr
        exact ⟨nl hr.2.2, .inr (.inr ⟨h5, List.eq_nil_of_length_eq_zero hr.2.1.1, nn hr.2.1.2⟩)⟩
      · rw [if_neg h5] at hr; simp at hr
theorem len_nil {L : Vo} (h : L.len = 0) : L = .nil := by cases L with | nil => rfl | cons _ _ _ => simp [Vo.len] at h
theorem units_le {tx : List Int} (h : M.rightU tx = true) : (∀ u ∈ tx.map Int.toNat, u ≤ 65535) ∧ iN (tx.map Int.toNat) = tx := by
  rw [M.rightU_iff] at h
  refine ⟨fun u hu => ?_, ?_⟩
  · obtain ⟨z, hz, rfl⟩ := List.mem_map.1 hu
    have := h z hz
    omega
  · unfold iN
    rw [List.map_map]
    conv => rhs; rw [← List.map_id tx]
    apply List.map_congr_left
    intro z hz
    have := h z hz
    simp; omega
theorem sgl_good {h : Vh} {kids : Vo} {d : Nat} (hr : rightH h kids d = true) (hk : ¬ (h.k = 1 ∨ h.k = 2)) : M.GoodT (sglK h, sglB h) := by
  obtain ⟨-, ⟨e, -, hu⟩ | ⟨e, -, hn⟩ | ⟨e, -⟩⟩ := right_leaf hr hk
  · have e1 : sglK h = 7 := by simp [sglK, e]
    have e2 : sglB h = M.spell (h.tx.map Int.toNat) := by simp [sglB, e]
    rw [e1, e2]
    obtain ⟨a, b⟩ := spell_tok _ (units_le hu).1
    exact ⟨by simp [M.spell], a, b⟩
  · have e1 : sglK h = 8 := by simp [sglK, e]
    have e2 : sglB h = M.shortN (M.plainN h.ng h.dg h.ex) := by simp [sglB, e]
    rw [e1, e2]
    have hm := M.short_mem _ (M.plain_ne h.ng _ _ hn)
    exact num_tok _ (M.plain_pos _ _ _ _ hm) (M.plain_num _ _ _ _ hm)
  · rcases e with e | e | e
    · have e1 : sglK h = 9 := by simp [sglK, e]
      have e2 : sglB h = [116, 114, 117, 101] := by simp [sglB, e]
      rw [e1, e2]; exact good_of _ _ (by decide +kernel)
    · have e1 : sglK h = 10 := by simp [sglK, e]
      have e2 : sglB h = [102, 97, 108, 115, 101] := by simp [sglB, e]
      rw [e1, e2]; exact good_of _ _ (by decide +kernel)
    · have e1 : sglK h = 11 := by simp [sglK, e]
      have e2 : sglB h = [110, 117, 108, 108] := by simp [sglB, e]
      rw [e1, e2]; exact good_of _ _ (by decide +kernel)
theorem sign_good (k : Int) (i : Nat) : M.GoodT (mkT k i) ∧ M.GoodT (opT k) ∧ M.GoodT (clT k) := by
  refine ⟨?_, ?_, ?_⟩
  · unfold mkT mkB
    by_cases h : k = 1 ∧ i % 2 = 1
    · rw [if_pos h, if_pos h]; exact good_of _ _ (by decide +kernel)
    · rw [if_neg h, if_neg h]; exact good_of _ _ (by decide +kernel)
  · unfold opT opB
    by_cases h : k = 1
    · rw [if_pos h, if_pos h]; exact good_of _ _ (by decide +kernel)
    · rw [if_neg h, if_neg h]; exact good_of _ _ (by decide +kernel)
  · unfold clT clB
    by_cases h : k = 1
    · rw [if_pos h, if_pos h]; exact good_of _ _ (by decide +kernel)
    · rw [if_neg h, if_neg h]; exact good_of _ _ (by decide +kernel)
theorem tlV_good' (h : Vh) (kids : Vo) (d : Nat) (ih : ∀ k i d, rightVo kids d = true → ∀ x ∈ tlL k kids i, M.GoodT x) (hr : rightH h kids d = true) : ∀ x ∈ tlV h kids, M.GoodT x := by
  intro x hx
  unfold tlV at hx
  split at hx
  · rename_i hk
    obtain ⟨-, -, -, hv, -⟩ := right_list hr hk
    rcases List.mem_cons.1 hx with rfl | hx
    · exact (sign_good _ 0).2.1
    · rcases List.mem_append.1 hx with hx | hx
      · exact ih _ _ _ hv x hx
      · rw [List.mem_singleton.1 hx]; exact (sign_good _ 0).2.2
  · rename_i hk
    rw [List.mem_singleton.1 hx]; exact sgl_good hr hk
theorem tlL_good (L : Vo) : ∀ k i d, rightVo L d = true → ∀ x ∈ tlL k L i, M.GoodT x := by
  induction L with
  | nil => intro k i d _ x hx; simp [tlL] at hx
  | cons h kids rest ih1 ih2 =>
    intro k i d hr x hx
    rw [rightVo_cons, Bool.and_eq_true] at hr
    rw [tlL_cons] at hx
    rcases List.mem_append.1 hx with hx | hx
    · split at hx
      · rw [List.mem_singleton.1 hx]; exact (sign_good k i).1
      · simp at hx
    · rcases List.mem_append.1 hx with hx | hx
      · exact tlV_good' h kids d ih1 hr.1 x hx
      · exact ih2 k (i + 1) d hr.2 x hx
theorem tlV_good {h : Vh} {kids : Vo} {d : Nat} (hr : rightH h kids d = true) : ∀ x ∈ tlV h kids, M.GoodT x := tlV_good' h kids d (tlL_good kids) hr
def adjB : Nat → M.TL → Prop
  | _, [] => True
  | p, y :: r => (p ≤ 7 ∨ y.1 ≤ 6) ∧ adjB y.1 r
theorem adjB_Adj : ∀ (tl : M.TL) (j p : Nat), adjB p tl → M.Adj (fun _ => []) j tl
  | [], _, _, _ => trivial
  | [_], _, _, _ => trivial
  | x :: y :: r, j, p, h => ⟨.inr h.2.1, adjB_Adj (y :: r) (j + 1) x.1 h.2⟩
theorem sign_le (k : Int) (i : Nat) : (mkT k i).1 ≤ 6 ∧ (opT k).1 ≤ 6 ∧ (clT k).1 ≤ 6 := by
  unfold mkT opT clT
  refine ⟨?_, ?_, ?_⟩ <;> (simp only; split <;> omega)
theorem adjL (L : Vo) : ∀ (k : Int) (i p : Nat) (z : Nat × List UInt8) (t : M.TL), (0 < i ∨ p ≤ 7) → z.1 ≤ 6 → adjB z.1 t → adjB p (tlL k L i ++ z :: t) := by
  induction L with
  | nil => intro k i p z t _ hz ht; exact ⟨.inr hz, ht⟩
  | cons h kids rest ih1 ih2 =>
    intro k i p z t hp hz ht
    have hT : ∀ q, adjB q (tlL k rest (i + 1) ++ z :: t) := fun q => ih2 k (i + 1) q z t (.inl (by omega)) hz ht
    have hV : ∀ q, q ≤ 7 → adjB q (tlV h kids ++ (tlL k rest (i + 1) ++ z :: t)) := fun q hq => by
      unfold tlV
      split
      · rw [List.cons_append, List.append_assoc]
        exact ⟨.inl hq, ih1 h.k 0 _ (clT h.k) _ (.inr (by have := (sign_le h.k 0).2.1; omega)) (sign_le h.k 0).2.2 (hT _)⟩
      · exact ⟨.inl hq, hT _⟩
    rw [tlL_cons, List.append_assoc, List.append_assoc]
    by_cases h0 : 0 < i
    · rw [if_pos h0]
      have := (sign_le k i).1
      exact ⟨.inr this, hV _ (by omega)⟩
    · rw [if_neg h0]
      exact hV p (by omega)
theorem adjV (h : Vh) (kids : Vo) : adjB 0 (tlV h kids) := by
  unfold tlV
  split
  · exact ⟨.inl (by omega), adjL kids h.k 0 _ (clT h.k) [] (.inr (by have := (sign_le h.k 0).2.1; omega)) (sign_le h.k 0).2.2 trivial⟩
  · exact ⟨.inl (by omega), trivial⟩
def TkR (l : List UInt8) : M.Toks → M.TL → Prop
  | [], [] => True
  | t :: ts, x :: xs => (t.1 = x.1 ∧ tokB l t = x.2) ∧ TkR l ts xs
  | [], _ :: _ => False
  | _ :: _, [] => False
theorem TkR.cons {l : List UInt8} {ts : M.Toks} {x : Nat × List UInt8} {b : M.TL} (h : TkR l ts (x :: b)) : ∃ t r, ts = t :: r ∧ t.1 = x.1 ∧ tokB l t = x.2 ∧ TkR l r b := by
  cases ts with
  | nil => exact absurd h (by simp [TkR])
  | cons t r => exact ⟨t, r, rfl, h.1.1, h.1.2, h.2⟩
theorem TkR.nil {l : List UInt8} {ts : M.Toks} (h : TkR l ts []) : ts = [] := by
  cases ts with
  | nil => rfl
  | cons t r => exact absurd h (by simp [TkR])
theorem TkR.split {l : List UInt8} (a : M.TL) : ∀ {ts : M.Toks} {b : M.TL}, TkR l ts (a ++ b) → ∃ t1 t2, ts = t1 ++ t2 ∧ TkR l t1 a ∧ TkR l t2 b ∧ t1.length = a.length := by
  induction a with
  | nil => intro ts b h; exact ⟨[], ts, rfl, trivial, h, rfl⟩
  | cons x a ih =>
    intro ts b h
    obtain ⟨t, r, rfl, h1, h2, h3⟩ := TkR.cons h
    obtain ⟨t1, t2, rfl, h4, h5, h6⟩ := ih h3
    exact ⟨t :: t1, t2, rfl, ⟨⟨h1, h2⟩, h4⟩, h5, by simp [h6]⟩
end Go.Proofs.YtlobinjdgcidmaaGreatDoor
/- JSON, plain: what is written shortest is parsed back as the same value. -/
namespace Go.Proofs.YtlobinjdgcidmaaGreatDoor
set_option linter.unusedVariables false
set_option linter.unusedSimpArgs false

theorem units_spell (us : List Nat) (h : ∀ u ∈ us, u ≤ 65535) : unitsV (M.spell us) = some us := by
  rw [units_page]
  obtain ⟨b1, b2, b3⟩ := M.body_facts us h [34] (by simp)
  have hj : M.jtS [34] = some 1 := by rw [M.jtS_cons, if_pos rfl]
  obtain ⟨-, hv⟩ := spell_tok us h
  have hd : (M.spell us).drop 1 = M.body us ++ [34] := rfl
  unfold junits
  rw [if_pos ⟨by simp [M.spell], rfl, by
    unfold jtI
    rw [hd, b1, hj]
    simp [M.spell]
    omega, hv⟩, hd, b2]
  have : M.ulS [34] = [] := by simp [M.ulS]
  rw [this, List.append_nil]
theorem leaf_back {l : List UInt8} {h : Vh} {kids : Vo} {d : Nat} {t : Nat × Nat × Nat} (hr : rightH h kids d = true) (hk : ¬ (h.k = 1 ∨ h.k = 2)) (h1 : t.1 = sglK h) (h2 : tokB l t = sglB h) (f deep : Nat) (r : M.Toks) :
    ∃ h', valP l (f + 1) deep (t :: r) = .ok (h', .nil, r) ∧ sameH h' .nil h kids = true := by
  obtain ⟨hl, hc⟩ := right_leaf hr hk
  obtain rfl := len_nil hl
  rcases hc with ⟨e, ⟨g1, g2, g3⟩, hu⟩ | ⟨e, g, hn⟩ | ⟨e, g, ⟨g1, g2, g3⟩⟩
  · have e1 : t.1 = 7 := by rw [h1]; simp [sglK, e]
    refine ⟨textV l t, by unfold valP; simp only; rw [if_pos e1], ?_⟩
    have e2 : tokB l t = M.spell (h.tx.map Int.toNat) := by rw [h2]; simp [sglB, e]
    obtain ⟨u1, u2⟩ := units_le hu
    have e3 : txtL l t = h.tx := by unfold txtL; rw [e2, units_spell _ u1]; exact u2
    simp [sameH, sameHd, textV, e, e3, g1, g2, g3, sameVo]
  · have e1 : t.1 = 8 := by rw [h1]; simp [sglK, e]
    refine ⟨numbV l t, by unfold valP; simp only; rw [if_neg (by omega), if_pos e1], ?_⟩
    have e2 : tokB l t = M.shortN (M.plainN h.ng h.dg h.ex) := by rw [h2]; simp [sglB, e]
    have hm := M.short_mem _ (M.plain_ne h.ng _ _ hn)
    have e3 := M.plain_back _ _ _ _ hm
    simp [sameH, sameHd, numbV, e, e2, e3, g, sameVo]
  · have e1 : t.1 = 9 ∧ h.k = 5 ∨ t.1 = 10 ∧ h.k = 6 ∨ t.1 = 11 ∧ h.k = 7 := by
      rw [h1]
      rcases e with e | e | e <;> simp [sglK, e]
    refine ⟨leafP ((t.1 : Int) - 4) t.2.1, by unfold valP; simp only; rw [if_neg (by omega), if_neg (by omega), if_pos (by omega)], ?_⟩
    have e2 : ((t.1 : Int) - 4) = h.k := by omega
    simp [sameH, sameHd, leafP, e2, g, g1, g2, g3, sameVo]
theorem take_hit {n k : Nat} {t : Nat × Nat × Nat} {r : M.Toks} (h : t.1 = k) : takeP n k (t :: r) = .ok (t, r) := by simp [takeP, h]
theorem snoc_app1 (L : Vo) (h : Vh) (k : Vo) (R : Vo) : (L.snoc h k).app R = L.app (.cons h k R) := by
  induction L with
  | nil => rfl
  | cons a b r _ ih => simp only [Vo.snoc, Vo.app, ih]
theorem same_snoc (L : Vo) : ∀ (M : Vo) (h h' : Vh) (k k' : Vo), sameVo L M = true → sameH h k h' k' = true → sameVo (L.snoc h k) (M.snoc h' k') = true := by
  induction L with
  | nil =>
    intro M h h' k k' hs hh
    cases M with
    | nil => simp only [Vo.snoc, sameVo, Bool.and_true]; exact hh
    | cons _ _ _ => simp [sameVo] at hs
  | cons a b r _ ih =>
    intro M h h' k k' hs hh
    cases M with
    | nil => simp [sameVo] at hs
    | cons a' b' r' =>
      simp only [sameVo, Bool.and_eq_true] at hs
      simp only [Vo.snoc, sameVo, Bool.and_eq_true]
      exact ⟨hs.1, ih r' h h' k k' hs.2 hh⟩
theorem same_len {L M : Vo} (h : sameVo L M = true) : L.len = M.len := by
  by_cases e : L.len = M.len
  · exact e
  · rw [sameVo_len L M e] at h; cases h
def BackV (l : List UInt8) (d n : Nat) (val : M.Toks → PRes) : Prop := ∀ h kids ts r, rightH h kids d = true → TkR l ts (tlV h kids) → ts.length ≤ n → ∃ h' kids', val (ts ++ r) = .ok (h', kids', r) ∧ sameH h' kids' h kids = true
theorem kdL_or (obj : Bool) : kdL obj = 1 ∧ obj = true ∨ kdL obj = 2 ∧ obj = false := by cases obj <;> simp [kdL]
theorem item_back {l : List UInt8} {d n : Nat} {val : M.Toks → PRes} (hv : BackV l d n val) (obj : Bool) (h : Vh) (kids rest : Vo) (i : Nat) (ms : List Int) (L0 M0 : Vo) (ts r : M.Toks)
    (hr : rightVo (.cons h kids rest) d = true) (ho : obj = true → evK true (.cons h kids rest) = true ∧ i % 2 = 0 ∧ (Vo.cons h kids rest).len % 2 = 0)
    (ht : TkR l ts (tlV h kids ++ (tlL (kdL obj) rest (i + 1) ++ [clT (kdL obj)]))) (hn : ts.length ≤ n) (hs : sameVo L0 M0 = true) :
    ∃ rest2 i2 ts2 ms2 L2 M2, itemW l val obj (ts ++ r) ms L0 = .ok (ms2, L2, ts2 ++ r) ∧ 0 < i2 ∧ rightVo rest2 d = true ∧ (obj = true → evK true rest2 = true ∧ i2 % 2 = 0 ∧ rest2.len % 2 = 0) ∧ TkR l ts2 (tlL (kdL obj) rest2 i2 ++ [clT (kdL obj)]) ∧ ts2.length + 1 ≤ ts.length ∧ sameVo L2 M2 = true ∧ M2.app rest2 = M0.app (.cons h kids rest) := by
  rw [rightVo_cons, Bool.and_eq_true] at hr
  obtain ⟨t1, t2, rfl, k1, k2, kl⟩ := TkR.split _ ht
  rw [List.length_append] at hn
  cases obj with
  | false =>
    obtain ⟨h', kids', e1, e2⟩ := hv h kids t1 (t2 ++ r) hr.1 k1 (by omega)
    refine ⟨rest, i + 1, t2, ms, L0.snoc h' kids', M0.snoc h kids, ?_, by omega, hr.2, (fun q => by cases q), k2, ?_, same_snoc _ _ _ _ _ _ hs e2, snoc_app1 _ _ _ _⟩
    · unfold itemW
      rw [if_neg (by decide), List.append_assoc, e1]
    · rw [List.length_append]
      have : 0 < t1.length := by rw [kl]; unfold tlV; split <;> simp
      omega
  | true =>
    obtain ⟨he, hi, hl⟩ := ho rfl
    simp only [evK, Bool.not_true, Bool.false_or, Bool.and_eq_true, decide_eq_true_eq] at he
    obtain ⟨h3, he⟩ := he
    have hk : ¬ (h.k = 1 ∨ h.k = 2) := by omega
    cases rest with
    | nil => simp [Vo.len] at hl
    | cons hb kb rest =>
      simp only [evK, Bool.not_false, Bool.true_and, Bool.not_true, Bool.false_or, Bool.or_true] at he
      simp only [Vo.len] at hl
      rw [rightVo_cons, Bool.and_eq_true] at hr
      unfold tlV at k1
      rw [if_neg hk] at k1
      obtain ⟨t, r1, rfl, a1, a2, k1'⟩ := TkR.cons k1
      obtain rfl := TkR.nil k1'
      rw [tlL_cons, if_pos (by omega)] at k2
      simp only [List.append_assoc, List.cons_append, List.nil_append] at k2
      obtain ⟨c, r2, rfl, b1, b2, k3⟩ := TkR.cons k2
      obtain ⟨u1, u2, rfl, c1, c2, cl⟩ := TkR.split _ k3
      simp only [List.length_cons, List.length_append, List.length_nil] at hn
      obtain ⟨h', kids', e1, e2⟩ := hv hb kb u1 (u2 ++ r) hr.2.1 c1 (by omega)
      have g7 : t.1 = 7 := by rw [a1]; simp [sglK, h3]
      have g5 : c.1 = 5 := by
        rw [b1]
        show (if kdL true = 1 ∧ (i + 1) % 2 = 1 then 5 else 6) = 5
        rw [if_pos ⟨rfl, by omega⟩]
      obtain ⟨hq, hc⟩ := right_leaf hr.1 hk
      obtain ⟨hz, v1, v2⟩ := leaf_back hr.1 hk a1 a2 0 0 []
      have hz' : hz = textV l t := by
        unfold valP at v1
        simp only [if_pos g7] at v1
        simp only [Except.ok.injEq, Prod.mk.injEq] at v1
        exact v1.1.symm
      subst hz'
      refine ⟨rest, i + 2, u2, ms ++ [(c.2.1 : Int)], (L0.snoc (textV l t) .nil).snoc h' kids', (M0.snoc h kids).snoc hb kb, ?_, by omega, hr.2.2, fun _ => ⟨?_, by omega, by omega⟩, c2, ?_, same_snoc _ _ _ _ _ _ (same_snoc _ _ _ _ _ _ hs v2) e2, ?_⟩
      · unfold itemW
        rw [if_pos rfl]
        simp only [List.cons_append, List.nil_append, List.append_assoc]
        rw [take_hit g7]
        simp only
        rw [take_hit g5]
        simp only
        rw [e1]
      · simpa using he
      · simp only [List.length_cons, List.length_append, List.length_nil]; omega
      · rw [snoc_app1, snoc_app1]
theorem cl_kind (obj : Bool) : (clT (kdL obj)).1 = shL obj := by cases obj <;> simp [clT, kdL, shL]
set_option maxHeartbeats 1000000 in
/-- Values and rests of lists, parsed back. -/
theorem val_back (l : List UInt8) : ∀ f, (∀ deep h kids ts r, rightH h kids deep = true → TkR l ts (tlV h kids) → 2 * ts.length ≤ f → ∃ h' kids', valP l f deep (ts ++ r) = .ok (h', kids', r) ∧ sameH h' kids' h kids = true) ∧
    (∀ obj d fr L i ms L0 M0 ts r, 0 < i → rightVo L d = true → (obj = true → evK true L = true ∧ i % 2 = 0 ∧ L.len % 2 = 0) → TkR l ts (tlL (kdL obj) L i ++ [clT (kdL obj)]) → 2 * ts.length ≤ f → sameVo L0 M0 = true →
      ∃ tt ms' L', restP l f obj d fr (ts ++ r) ms L0 = .ok (⟨kdL obj, [], false, [], [], fr, tt, ms'⟩, L', r) ∧ sameVo L' (M0.app L) = true) := by
  intro f
  induction f with
  | zero =>
    refine ⟨fun deep h kids ts r _ ht hn => ?_, fun obj d fr L i ms L0 M0 ts r _ _ _ ht hn _ => ?_⟩
    · have e : ts = [] := List.eq_nil_of_length_eq_zero (by omega)
      subst e
      unfold tlV at ht
      split at ht <;> exact absurd ht (by simp [TkR])
    · have e : ts = [] := List.eq_nil_of_length_eq_zero (by omega)
      subst e
      cases hq : tlL (kdL obj) L i ++ [clT (kdL obj)] with
      | nil => simp at hq
      | cons _ _ => rw [hq] at ht; exact absurd ht (by simp [TkR])
  | succ f ih =>
    have hbv : ∀ d n, 2 * n ≤ f → BackV l d n (valP l f d) := fun d n hnf h kids ts r a b c => ih.1 d h kids ts r a b (by omega)
    refine ⟨fun deep h kids ts r hr ht hn => ?_, fun obj d fr L i ms L0 M0 ts r hi hr ho ht hn hs => ?_⟩
    · by_cases hk : h.k = 1 ∨ h.k = 2
      · obtain ⟨q1, ⟨q2, q3, q4⟩, q5, q6, q7⟩ := right_list hr hk
        unfold tlV at ht
        rw [if_pos hk] at ht
        obtain ⟨t, r1, rfl, a1, a2, k1⟩ := TkR.cons ht
        obtain ⟨d, rfl⟩ : ∃ d, deep = d + 1 := ⟨deep - 1, by omega⟩
        rw [Nat.add_sub_cancel] at q6
        obtain ⟨obj, hob⟩ : ∃ obj : Bool, h.k = kdL obj := by
          rcases hk with hk | hk
          · exact ⟨true, hk⟩
          · exact ⟨false, hk⟩
        have t1 : t.1 = opL obj := by rw [a1, hob]; cases obj <;> simp [opT, kdL, opL]
        have td : decide (t.1 = 1) = obj := by rw [t1]; cases obj <;> simp [opL]
        rw [hob] at k1
        have ho : obj = true → evK true kids = true ∧ kids.len % 2 = 0 := fun e => q7 (by rw [hob, e]; rfl)
        simp only [List.length_cons] at hn
        have fin : ∀ tt ms' L', sameVo L' kids = true → sameH ⟨kdL obj, [], false, [], [], t.2.1, tt, ms'⟩ L' h kids = true := fun tt ms' L' hs => by
          have := same_len hs
          simp [sameH, sameHd, hob, q1, q2, q3, q4, this, hs]
        unfold valP
        simp only [List.cons_append]
        rw [if_neg (by rw [t1]; cases obj <;> simp [opL]), if_neg (by rw [t1]; cases obj <;> simp [opL]), if_neg (by rw [t1]; cases obj <;> simp [opL]), if_pos (by rw [t1]; cases obj <;> simp [opL]), td]
        cases kids with
        | nil =>
          have k1' : TkR l r1 (tlL (kdL obj) .nil 2 ++ [clT (kdL obj)]) := k1
          obtain ⟨tt, ms', L', e1, e2⟩ := ih.2 obj d t.2.1 .nil 2 [] .nil .nil r1 r (by omega) rfl (fun _ => ⟨rfl, rfl, rfl⟩) k1' (by omega) rfl
          obtain ⟨u, r2, rfl, b1, -, k2⟩ := TkR.cons k1
          obtain rfl := TkR.nil k2
          rw [if_pos (by show u.1 = _; rw [b1, cl_kind, t1]; cases obj <;> simp [shL, opL])]
          exact ⟨_, L', e1, fin tt ms' L' e2⟩
        | cons h1 k1h rest =>
          rw [tlL_cons, if_neg (by omega), List.nil_append, List.append_assoc] at k1
          have hne : ¬ kindP (r1 ++ r) = t.1 + 1 := by
            have hx : ∃ x b, tlV h1 k1h ++ (tlL (kdL obj) rest (0 + 1) ++ [clT (kdL obj)]) = x :: b ∧ x.1 ≠ opL obj + 1 := by
              unfold tlV
              split
              · refine ⟨_, _, rfl, ?_⟩
                unfold opT
                simp only
                split <;> (cases obj <;> simp [opL])
              · refine ⟨_, _, rfl, ?_⟩
                unfold sglK
                simp only
                repeat' split
                all_goals (cases obj <;> simp [opL])
            obtain ⟨x, b, hx, hx2⟩ := hx
            rw [hx] at k1
            obtain ⟨u, r2, rfl, b1, -, -⟩ := TkR.cons k1
            show ¬ u.1 = _
            rw [b1, t1]; exact hx2
          rw [if_neg hne]
          obtain ⟨rest2, i2, ts2, ms2, L2, M2, e1, e2, e3, e4, e5, e6, e7, e8⟩ := item_back (hbv d r1.length (by omega)) obj h1 k1h rest 0 [] .nil .nil r1 r q6 (fun e => ⟨(ho e).1, rfl, (ho e).2⟩) k1 (Nat.le_refl _) rfl
          rw [e1]
          simp only
          obtain ⟨tt, ms', L', g1, g2⟩ := ih.2 obj d t.2.1 rest2 i2 ms2 L2 M2 ts2 r e2 e3 e4 e5 (by omega) e7
          rw [e8] at g2
          exact ⟨_, L', g1, fin tt ms' L' g2⟩
      · unfold tlV at ht
        rw [if_neg hk] at ht
        obtain ⟨t, r1, rfl, a1, a2, k1⟩ := TkR.cons ht
        obtain rfl := TkR.nil k1
        obtain ⟨h', e1, e2⟩ := leaf_back hr hk a1 a2 f deep r
        exact ⟨h', .nil, e1, e2⟩
    · rw [restP]
      cases L with
      | nil =>
        obtain ⟨t, r1, rfl, a1, -, k1⟩ := TkR.cons (show TkR l ts ([clT (kdL obj)]) from ht)
        obtain rfl := TkR.nil k1
        rw [cl_kind] at a1
        simp only [List.cons_append, List.nil_append]
        rw [if_pos (show kindP (t :: r) = shL obj from a1)]
        rw [take_hit a1]
        exact ⟨_, _, L0, rfl, by rw [app_nil]; exact hs⟩
      | cons h kids rest =>
        rw [tlL_cons, if_pos hi] at ht
        simp only [List.append_assoc, List.cons_append, List.nil_append] at ht
        obtain ⟨t, r1, rfl, a1, -, k1⟩ := TkR.cons ht
        have t6 : t.1 = 6 := by
          rw [a1]
          show (if kdL obj = 1 ∧ i % 2 = 1 then 5 else 6) = 6
          rw [if_neg]
          intro e
          rcases kdL_or obj with ⟨-, q⟩ | ⟨q, -⟩
          · have := (ho q).2.1; omega
          · rw [q] at e; omega
        simp only [List.cons_append]
        rw [if_neg (show ¬ kindP (t :: (r1 ++ r)) = shL obj by show ¬ t.1 = shL obj; rw [t6]; cases obj <;> simp [shL])]
        rw [take_hit t6]
        simp only
        simp only [List.length_cons] at hn
        obtain ⟨rest2, i2, ts2, ms2, L2, M2, e1, e2, e3, e4, e5, e6, e7, e8⟩ := item_back (hbv d r1.length (by omega)) obj h kids rest i (ms ++ [(t.2.1 : Int)]) L0 M0 r1 r hr (fun e => ho e) k1 (Nat.le_refl _) hs
        rw [e1]
        simp only
        obtain ⟨tt, ms', L', g1, g2⟩ := ih.2 obj d fr rest2 i2 ms2 L2 M2 ts2 r e2 e3 e4 e5 (by omega) e7
        rw [e8] at g2
        exact ⟨tt, ms', L', g1, g2⟩
theorem pos_TkR (l : List UInt8) (r : M.TL) : ∀ (j : Nat) (pre : List UInt8), l = pre ++ M.bld (fun _ => []) j r → TkR l (M.pos (fun _ => []) j pre.length r) r ∧ ((M.pos (fun _ => []) j pre.length r).map fun t => t.2.2 - t.2.1).sum = (M.bld (fun _ => []) j r).length := by
  induction r with
  | nil => intro j pre _; exact ⟨trivial, rfl⟩
  | cons x r ih =>
    intro j pre e
    rw [M.bld_cons, List.nil_append] at e
    obtain ⟨a, b⟩ := ih (j + 1) (pre ++ x.2) (by rw [e, List.append_assoc])
    have hp : M.pos (fun _ => []) j pre.length (x :: r) = (x.1, pre.length, pre.length + x.2.length) :: M.pos (fun _ => []) (j + 1) (pre ++ x.2).length r := by
      simp [M.pos]
    rw [hp]
    refine ⟨⟨⟨rfl, ?_⟩, a⟩, ?_⟩
    · show (l.drop pre.length).take (pre.length + x.2.length - pre.length) = x.2
      rw [e, Nat.add_sub_cancel_left]
      simp
    · rw [M.bld_cons, List.nil_append, List.map_cons, List.sum_cons, b, List.length_append]
      simp only
      omega
end Go.Proofs.YtlobinjdgcidmaaGreatDoor
/- JSON, plain: an object whose names and values are small numbers is parsed to these; values that are one. -/
namespace Go.Proofs.YtlobinjdgcidmaaGreatDoor
set_option linter.unusedVariables false
set_option linter.unusedSimpArgs false

def kyD (a : Nat) : UInt8 := UInt8.ofNat (48 + a)
def kyV (b : Nat) : Vh := ⟨4, [], (M.readN [kyD b]).1.1, (M.readN [kyD b]).1.2.1, (M.readN [kyD b]).1.2.2, 0, 0, []⟩
theorem four {P : Nat → Prop} (h : ∀ d : Fin 4, P d.val) {a : Nat} (ha : a < 4) : P a := h ⟨a, ha⟩
theorem kyV_right {b : Nat} (hb : b < 4) (d : Nat) : rightH (kyV b) .nil d = true := by
  have h0 : ∀ d : Fin 4, M.rightN (M.readN [kyD d.val]).1.2.1 (M.readN [kyD d.val]).1.2.2 = true := by decide +kernel
  have := four (P := fun b => M.rightN (M.readN [kyD b]).1.2.1 (M.readN [kyD b]).1.2.2 = true) h0 hb
  simp [rightH, headB, kyV, nlist, Vo.len, this]
theorem kyV_sgl {b : Nat} (hb : b < 4) : sglB (kyV b) = [kyD b] := by
  have h0 : ∀ d : Fin 4, sglB (kyV d.val) = [kyD d.val] := by decide +kernel
  exact four (P := fun b => sglB (kyV b) = [kyD b]) h0 hb
theorem back_at (d : Nat) (h : Vh) (kids : Vo) (hr : rightH h kids d = true) (hl : ((pcsV h kids).flatMap fun q => q.1).length ≤ 20000) :
    ∃ ts h' kids', M.splitV ((pcsV h kids).flatMap fun q => q.1) = (ts, 0, 0) ∧ parP ((pcsV h kids).flatMap fun q => q.1) d ts = .ok (h', kids') ∧ sameH h' kids' h kids = true := by
  have hb := tl_jtx h kids
  rw [← hb] at hl ⊢
  have hg := tlV_good hr
  have hx := M.lex_bld (fun _ => []) (fun _ c hc => by simp at hc) (tlV h kids) 0 0 hg (adjB_Adj _ _ _ (adjV h kids))
  have hv := M.valid_bld (fun _ => []) (fun _ c hc => by simp at hc) (tlV h kids) 0 hg
  obtain ⟨a, b⟩ := pos_TkR (M.bld (fun _ => []) 0 (tlV h kids)) (tlV h kids) 0 [] (by simp)
  have hn : ([] : List UInt8).length = 0 := rfl
  rw [hn] at a b
  obtain ⟨h', kids', e1, e2⟩ := (val_back (M.bld (fun _ => []) 0 (tlV h kids)) (2 * (M.pos (fun _ => []) 0 0 (tlV h kids)).length + 2)).1 d h kids _ [] hr a (by omega)
  rw [List.append_nil] at e1
  refine ⟨_, h', kids', M.split_ok _ hl _ hx hv, ?_, e2⟩
  unfold parP
  rw [e1]
def erh (h : Vh) : Vh := ⟨h.k, h.tx, h.ng, h.dg, h.ex, 0, 0, []⟩
def er : Vo → Vo
  | .nil => .nil
  | .cons h k r => .cons (erh h) (er k) (er r)
theorem er_len (L : Vo) : (er L).len = L.len := by
  induction L with
  | nil => rfl
  | cons h k r _ ih => simp only [er, Vo.len, ih]
theorem er_at (L : Vo) : ∀ j, (er L).at? j = (L.at? j).map (fun x => (erh x.1, er x.2)) := by
  induction L with
  | nil => intro j; rfl
  | cons h k r _ ih =>
    intro j
    cases j with
    | zero => rfl
    | succ j => exact ih j
theorem same_er (L : Vo) : ∀ M : Vo, sameVo L M = true ↔ er L = er M := by
  induction L with
  | nil =>
    intro M
    cases M with
    | nil => simp [sameVo]
    | cons _ _ _ => simp [sameVo, er]
  | cons h k r ih1 ih2 =>
    intro M
    cases M with
    | nil => simp [sameVo, er]
    | cons h' k' r' =>
      simp only [sameVo, er, Bool.and_eq_true, ih1, ih2, Vo.cons.injEq, sameHd, erh, Vh.mk.injEq, decide_eq_true_eq, and_true]
      constructor
      · rintro ⟨⟨⟨⟨⟨a, b⟩, c, d, e⟩, f⟩, g⟩, i⟩
        exact ⟨⟨a, b, c, d, e⟩, g, i⟩
      · rintro ⟨⟨a, b, c, d, e⟩, g, i⟩
        have := congrArg Vo.len g
        rw [er_len, er_len] at this
        exact ⟨⟨⟨⟨⟨a, b⟩, c, d, e⟩, this⟩, g⟩, i⟩
end Go.Proofs.YtlobinjdgcidmaaGreatDoor
/- Plain numbers and lists: the digits of a number in base 32, and their letters. Nothing of the program is imported. -/
namespace Go.Proofs.YtlobinjdgcidmaaGreatDoor.V

def alpha : List UInt8 := [65, 66, 67, 68, 69, 70, 71, 72, 73, 74, 75, 76, 77, 78, 79, 80, 81, 82, 83, 84, 85, 86, 87, 88, 89, 90, 97, 98, 99, 100, 101, 102, 103, 104, 105, 106, 107, 108, 109, 110, 111, 112, 113, 114, 115, 116, 117, 118, 119, 120, 121, 122, 48, 49, 50, 51, 52, 53, 54, 55, 56, 57, 43, 47]
def letter (d : Nat) : UInt8 := alpha.getD d 0

def digs : Nat → Nat → List Nat
  | 0, _ => []
  | f + 1, x => if x < 32 then [x] else (32 + x % 32) :: digs f (x / 32)

theorem digs_small (f x : Nat) (h : x < 32) : digs (f + 1) x = [x] := by simp [digs, h]
theorem digs_big (f x : Nat) (h : 32 ≤ x) : digs (f + 1) x = (32 + x % 32) :: digs f (x / 32) := by
  have : ¬ x < 32 := by omega
  simp [digs, this]
theorem digs_len (f x : Nat) : (digs f x).length ≤ f := by
  induction f generalizing x with
  | zero => simp [digs]
  | succ f ih =>
    unfold digs
    split
    · simp
    · have := ih (x / 32); simp; omega
theorem digs_lt (f x : Nat) : ∀ d ∈ digs f x, d < 64 := by
  induction f generalizing x with
  | zero => simp [digs]
  | succ f ih =>
    unfold digs
    split
    · intro d hd; simp at hd; omega
    · intro d hd
      simp only [List.mem_cons] at hd
      rcases hd with rfl | hd
      · omega
      · exact ih _ d hd
theorem digs_pos (f x : Nat) : 0 < (digs (f + 1) x).length := by
  unfold digs; split <;> simp

def zig (n : Int) : Nat := if n < 0 then (2 * -n + 1).toNat else (2 * n).toNat
def text (n : Int) : List UInt8 := (digs 9 (zig n)).map letter
def bytes (l : List UInt8) : ByteArray := ⟨l.toArray⟩
theorem zig_lt (n : Int) (h1 : -1099511627776 ≤ n) (h2 : n ≤ 1099511627776) : zig n < 32 ^ 9 := by
  unfold zig; split <;> omega
theorem text_len (n : Int) : (text n).length ≤ 9 := by unfold text; simpa using digs_len 9 (zig n)
theorem text_pos (n : Int) : 0 < (text n).length := by unfold text; simpa using digs_pos 8 (zig n)

def Left (N f x : Nat) (l : List Nat) : Prop := x < 32 ^ (f + 1) ∧ l.length + f = 8 ∧ l ++ digs (f + 1) x = digs 9 N
theorem left_start (N : Nat) (h : N < 32 ^ 9) : Left N 8 N [] := ⟨h, rfl, rfl⟩
theorem left_step {N f x : Nat} {l : List Nat} (h : Left N f x l) (hx : 32 ≤ x) : ∃ g, Left N g (x / 32) (l ++ [32 + x % 32]) := by
  obtain ⟨h1, h2, h3⟩ := h
  cases f with
  | zero => simp at h1; omega
  | succ g =>
    refine ⟨g, ?_, by simp; omega, ?_⟩
    · rw [Nat.pow_succ] at h1; omega
    · rw [digs_big _ _ hx] at h3; simpa using h3
theorem left_stop {N f x : Nat} {l : List Nat} (h : Left N f x l) (hx : x < 32) : l ++ [x] = digs 9 N := by
  obtain ⟨h1, h2, h3⟩ := h
  rw [digs_small _ _ hx] at h3; exact h3
theorem left_len {N f x : Nat} {l : List Nat} (h : Left N f x l) : l.length ≤ 8 := by have := h.2.1; omega
theorem left_x {N f x : Nat} {l : List Nat} (h : Left N f x l) : x < 35184372088832 := by
  have h1 := h.1
  have h2 : 32 ^ (f + 1) ≤ 32 ^ 9 := Nat.pow_le_pow_right (by omega) (by have := h.2.1; omega)
  omega

end Go.Proofs.YtlobinjdgcidmaaGreatDoor.V
