/- Texts of ours in one: ZKy. -/
import Derived.Test.YtbfnlgmhfhaglaaGreatDoorQk31
/- JSON, plain: an object whose names and values are small numbers is parsed to these; values that are one. -/
namespace Go.Proofs.YtbfnlgmhfhaglaaGreatDoor
set_option linter.unusedVariables false
set_option linter.unusedSimpArgs false

def kyD (a : Nat) : UInt8 := UInt8.ofNat (48 + a)
def kyM (x : Nat × Nat) : List UInt8 := [34, kyD x.1, 34, 58, kyD x.2]
def kyC (i : Nat) : List UInt8 := if 0 < i then [44] else []
def kyT : Nat → List (Nat × Nat) → List UInt8
  | _, [] => []
  | i, x :: r => kyC i ++ (kyM x ++ kyT (i + 1) r)
theorem kyT_snoc (l : List (Nat × Nat)) (x : Nat × Nat) : ∀ i, kyT i (l ++ [x]) = kyT i l ++ (kyC (i + l.length) ++ kyM x) := by
  induction l with
  | nil => intro i; simp [kyT]
  | cons a r ih =>
    intro i
    simp only [List.cons_append, kyT, ih (i + 1), List.append_assoc, List.length_cons]
    rw [show i + 1 + r.length = i + (r.length + 1) by omega]
theorem kyT_len (l : List (Nat × Nat)) : ∀ i, (kyT i l).length ≤ 6 * l.length := by
  induction l with
  | nil => intro i; simp [kyT]
  | cons a r ih =>
    intro i
    have := ih (i + 1)
    have h2 : (kyC i).length ≤ 1 := by unfold kyC; split <;> simp
    simp only [kyT, kyM, List.length_append, List.length_cons, List.length_nil]
    omega
def kyN (a : Nat) : Vh := ⟨3, [((48 + a : Nat) : Int)], false, [], [], 0, 0, []⟩
def kyV (b : Nat) : Vh := ⟨4, [], (M.readN [kyD b]).1.1, (M.readN [kyD b]).1.2.1, (M.readN [kyD b]).1.2.2, 0, 0, []⟩
def kyL : List (Nat × Nat) → Vo
  | [] => .nil
  | x :: r => .cons (kyN x.1) .nil (.cons (kyV x.2) .nil (kyL r))
def kyH (l : List (Nat × Nat)) : Vh := ⟨1, [], false, [], [], 0, 0, List.replicate (2 * l.length - 1) 0⟩
def KyO (l : List (Nat × Nat)) : Prop := ∀ x ∈ l, x.1 < 4 ∧ x.2 < 4
theorem KyO.tail {x : Nat × Nat} {r : List (Nat × Nat)} (h : KyO (x :: r)) : KyO r := fun y hy => h y (List.mem_cons_of_mem _ hy)
theorem kyL_len (l : List (Nat × Nat)) : (kyL l).len = 2 * l.length := by
  induction l with
  | nil => rfl
  | cons x r ih => simp only [kyL, Vo.len, ih, List.length_cons]; omega
theorem four {P : Nat → Prop} (h : ∀ d : Fin 4, P d.val) {a : Nat} (ha : a < 4) : P a := h ⟨a, ha⟩
theorem kyV_right {b : Nat} (hb : b < 4) (d : Nat) : rightH (kyV b) .nil d = true := by
  have h0 : ∀ d : Fin 4, M.rightN (M.readN [kyD d.val]).1.2.1 (M.readN [kyD d.val]).1.2.2 = true := by decide +kernel
  have := four (P := fun b => M.rightN (M.readN [kyD b]).1.2.1 (M.readN [kyD b]).1.2.2 = true) h0 hb
  simp [rightH, headB, kyV, nlist, Vo.len, this]
theorem kyN_right {a : Nat} (ha : a < 4) (d : Nat) : rightH (kyN a) .nil d = true := by
  have h0 : ∀ d : Fin 4, M.rightU [((48 + d.val : Nat) : Int)] = true := by decide +kernel
  have := four (P := fun a => M.rightU [((48 + a : Nat) : Int)] = true) h0 ha
  simp only [rightH, headB, kyN, nlist, nnum, Vo.len, this]
  rfl
theorem kyL_right (l : List (Nat × Nat)) (d : Nat) (ho : KyO l) : rightVo (kyL l) d = true := by
  induction l with
  | nil => rfl
  | cons x r ih =>
    have hx := ho x (by simp)
    simp only [kyL]
    rw [rightVo_cons, rightVo_cons, kyN_right hx.1, kyV_right hx.2, ih ho.tail]
    rfl
theorem kyL_ev (l : List (Nat × Nat)) : evK true (kyL l) = true := by
  induction l with
  | nil => rfl
  | cons x r ih => simp [kyL, evK, kyN, ih]
theorem kyH_right (l : List (Nat × Nat)) (ho : KyO l) (d : Nat) : rightH (kyH l) (kyL l) (d + 1) = true := by
  have h1 := kyL_right l d ho
  have h2 := kyL_ev l
  have h3 := kyL_len l
  have h4 : ∀ z ∈ List.replicate (2 * l.length - 1) (0 : Int), decide (0 ≤ z) = true := fun z hz => by
    rw [(List.mem_replicate.1 hz).2]; rfl
  have h5 : (List.replicate (2 * l.length - 1) (0 : Int)).all (fun z => decide (0 ≤ z)) = true := List.all_eq_true.2 h4
  have e1 : keysB (kyH l) (kyL l) = true := by simp [keysB, kyH, h2, h3]
  have e2 : marksB (kyH l) (kyL l).len = true := by
    unfold marksB
    rw [show (kyH l).ms = List.replicate (2 * l.length - 1) 0 from rfl, h5, h3, List.length_replicate]
    simp [kyH]
  unfold rightH headB
  rw [if_pos (show (kyH l).k = 1 ∨ (kyH l).k = 2 from .inl rfl), Nat.add_sub_cancel, e1, e2, h1]
  simp [kyH, nnum]
theorem kyN_sgl {a : Nat} (ha : a < 4) : sglB (kyN a) = [34, kyD a, 34] := by
  have h0 : ∀ d : Fin 4, sglB (kyN d.val) = [34, kyD d.val, 34] := by decide +kernel
  exact four (P := fun a => sglB (kyN a) = [34, kyD a, 34]) h0 ha
theorem kyV_sgl {b : Nat} (hb : b < 4) : sglB (kyV b) = [kyD b] := by
  have h0 : ∀ d : Fin 4, sglB (kyV d.val) = [kyD d.val] := by decide +kernel
  exact four (P := fun b => sglB (kyV b) = [kyD b]) h0 hb
theorem kyN_tl (a : Nat) : tlV (kyN a) .nil = [(7, sglB (kyN a))] := by
  unfold tlV
  rw [if_neg (by simp [kyN])]
  simp [sglK, kyN]
theorem kyV_tl (b : Nat) : tlV (kyV b) .nil = [(8, sglB (kyV b))] := by
  unfold tlV
  rw [if_neg (by simp [kyV])]
  simp [sglK, kyV]
theorem ky_text (l : List (Nat × Nat)) (ho : KyO l) : ∀ i, ((tlL 1 (kyL l) (2 * i)).map (·.2)).flatten = kyT i l := by
  induction l with
  | nil => intro i; rfl
  | cons x r ih =>
    intro i
    have hx := ho x (by simp)
    have e1 := ih ho.tail (i + 1)
    rw [show 2 * (i + 1) = 2 * i + 1 + 1 by omega] at e1
    have m1 : mkT 1 (2 * i) = (6, [44]) := by
      have : ¬ (2 * i % 2 = 1) := by omega
      simp [mkT, mkB, this]
    have m2 : mkT 1 (2 * i + 1) = (5, [58]) := by
      have : (2 * i + 1) % 2 = 1 := by omega
      simp [mkT, mkB, this]
    simp only [kyL]
    rw [tlL_cons, tlL_cons, if_pos (show 0 < 2 * i + 1 by omega), m1, m2, kyN_tl, kyV_tl, kyN_sgl hx.1, kyV_sgl hx.2]
    simp only [List.map_append, List.flatten_append, e1, List.map_cons, List.map_nil, List.flatten_cons, List.flatten_nil, List.append_nil]
    rw [kyT]
    congr 1
    · unfold kyC
      by_cases h : 0 < i
      · rw [if_pos h, if_pos (by omega)]; rfl
      · rw [if_neg h, if_neg (by omega)]; rfl
theorem back_at (d : Nat) (h : Vh) (kids : Vo) (hr : rightH h kids d = true) (hl : ((pcsV h kids).flatMap fun q => q.1).length ≤ 20000) :
    ∃ ts h' kids', M.splitV ((pcsV h kids).flatMap fun q => q.1) = (ts, 0, 0) ∧ parP ((pcsV h kids).flatMap fun q => q.1) d ts = .ok (h', kids') ∧ sameH h' kids' h kids = true := by
  have hb := tl_jtx h kids
  rw [← hb] at hl ⊢
  have hg := tlV_good hr
  have hx := M.lex_bld (fun _ => []) (fun _ c hc => by simp at hc) (tlV h kids) 0 0 hg (adjB_Adj _ _ _ (adjV h kids))
  have hv := M.valid_bld (fun _ => []) (fun _ c hc => by simp at hc) (tlV h kids) 0 hg
  obtain ⟨a, b⟩ := pos_TkR (M.bld (fun _ => []) 0 (tlV h kids)) (tlV h kids) 0 [] (by simp)
  have hn : ([] : List UInt8).length = 0 := rfl
  rw [hn] at a b
  obtain ⟨h', kids', e1, e2⟩ := (val_back (M.bld (fun _ => []) 0 (tlV h kids)) (2 * (M.pos (fun _ => []) 0 0 (tlV h kids)).length + 2)).1 d h kids _ [] hr a (by omega)
  rw [List.append_nil] at e1
  refine ⟨_, h', kids', M.split_ok _ hl _ hx hv, ?_, e2⟩
  unfold parP
  rw [e1]
def kyS (l : List (Nat × Nat)) : List UInt8 := (123 :: kyT 0 l) ++ [125]
theorem kyL_cost (l : List (Nat × Nat)) : VoC (kyL l) = 3 * l.length := by
  induction l with
  | nil => rfl
  | cons x r ih => simp only [kyL, VoC, ih, List.length_cons, kyN, kyV, List.length_nil]; omega
theorem ky_parse (l : List (Nat × Nat)) (ho : KyO l) (hn : l.length ≤ 20) :
    ∃ h kids, parseV (kyS l) 5 = .ok (h, kids) ∧ sameH h kids (kyH l) (kyL l) = true ∧ 1 + h.tx.length + h.ms.length + VoC kids ≤ 1000 := by
  have e0 : (pcsV (kyH l) (kyL l)).flatMap (fun q => q.1) = kyS l := by
    rw [← tl_jtx, bld_flat]
    unfold tlV
    rw [if_pos (show (kyH l).k = 1 ∨ (kyH l).k = 2 from .inl rfl), show (kyH l).k = 1 from rfl]
    have := ky_text l ho 0
    simp only [List.map_cons, List.map_append, List.flatten_cons, List.flatten_append, List.map_nil, List.flatten_nil, List.append_nil]
    rw [show (tlL 1 (kyL l) 0) = tlL 1 (kyL l) (2 * 0) from rfl, this]
    simp [kyS, opT, clT, opB, clB]
  have hr := kyH_right l ho 4
  have hl : ((pcsV (kyH l) (kyL l)).flatMap fun q => q.1).length ≤ 20000 := by
    rw [e0]
    have := kyT_len l 0
    simp only [kyS, List.length_append, List.length_cons, List.length_nil]
    omega
  obtain ⟨ts, h', kids', e1, e3, e4⟩ := back_at 5 (kyH l) (kyL l) hr hl
  rw [e0] at e1 e3
  refine ⟨h', kids', ?_, e4, ?_⟩
  · unfold parseV
    rw [e1, if_pos rfl]
    exact e3
  · have hv := (val_right _ _).1 5 _ _ _ _ (par_ok e3)
    have := same_few (.cons h' kids' .nil) (.cons (kyH l) (kyL l) .nil) 5 (by simp only [sameVo, Bool.and_true]; exact e4) (by rw [rightVo_cons, hv]; rfl)
    simp only [VoC, Vo.len, kyL_cost, kyH, List.length_nil, List.length_replicate] at this ⊢
    omega
def erh (h : Vh) : Vh := ⟨h.k, h.tx, h.ng, h.dg, h.ex, 0, 0, []⟩
def er : Vo → Vo
  | .nil => .nil
  | .cons h k r => .cons (erh h) (er k) (er r)
theorem er_len (L : Vo) : (er L).len = L.len := by
  induction L with
  | nil => rfl
  | cons h k r _ ih => simp only [er, Vo.len, ih]
theorem er_at (L : Vo) : ∀ j, (er L).at? j = (L.at? j).map (fun x => (erh x.1, er x.2)) := by
  induction L with
  | nil => intro j; rfl
  | cons h k r _ ih =>
    intro j
    cases j with
    | zero => rfl
    | succ j => exact ih j
theorem same_er (L : Vo) : ∀ M : Vo, sameVo L M = true ↔ er L = er M := by
  induction L with
  | nil =>
    intro M
    cases M with
    | nil => simp [sameVo]
    | cons _ _ _ => simp [sameVo, er]
  | cons h k r ih1 ih2 =>
    intro M
    cases M with
    | nil => simp [sameVo, er]
    | cons h' k' r' =>
      simp only [sameVo, er, Bool.and_eq_true, ih1, ih2, Vo.cons.injEq, sameHd, erh, Vh.mk.injEq, decide_eq_true_eq, and_true]
      constructor
      · rintro ⟨⟨⟨⟨⟨a, b⟩, c, d, e⟩, f⟩, g⟩, i⟩
        exact ⟨⟨a, b, c, d, e⟩, g, i⟩
      · rintro ⟨⟨a, b, c, d, e⟩, g, i⟩
        have := congrArg Vo.len g
        rw [er_len, er_len] at this
        exact ⟨⟨⟨⟨⟨a, b⟩, c, d, e⟩, this⟩, g⟩, i⟩
theorem sameH_vo (h : Vh) (k : Vo) (h' : Vh) (k' : Vo) : sameH h k h' k' = sameVo (.cons h k .nil) (.cons h' k' .nil) := by
  simp [sameH, sameVo]
theorem same_eqs {a b c d : Vo} (h1 : sameVo a b = true) (h2 : sameVo c d = true) : sameVo a c = sameVo b d := by
  rw [Bool.eq_iff_iff, same_er, same_er, (same_er _ _).1 h1, (same_er _ _).1 h2]
theorem kyV_inj {a b : Nat} (ha : a < 4) (hb : b < 4) (h : (kyV a).dg = (kyV b).dg) : a = b := by
  have h0 : ∀ a b : Fin 4, (kyV a.val).dg = (kyV b.val).dg → a.val = b.val := by decide +kernel
  exact h0 ⟨a, ha⟩ ⟨b, hb⟩ h
theorem kyL_inj (l : List (Nat × Nat)) : ∀ m, KyO l → KyO m → (er (kyL l) = er (kyL m) ↔ l = m) := by
  induction l with
  | nil =>
    intro m _ _
    cases m with
    | nil => simp
    | cons _ _ => simp [kyL, er]
  | cons x r ih =>
    intro m hl hm
    cases m with
    | nil => simp [kyL, er]
    | cons y s =>
      have hx := hl x (by simp)
      have hy := hm y (by simp)
      constructor
      · intro h
        simp only [kyL, er, Vo.cons.injEq, true_and] at h
        obtain ⟨h1, h2, h3⟩ := h
        have e1 : x.1 = y.1 := by
          have := congrArg Vh.tx h1
          simp only [erh, kyN, List.cons.injEq, and_true] at this
          omega
        have e2 : x.2 = y.2 := kyV_inj hx.2 hy.2 (by
          have := congrArg Vh.dg h2
          simpa only [erh] using this)
        rw [(ih s hl.tail hm.tail).1 h3, show x = y from Prod.ext e1 e2]
      · rintro h; rw [h]
theorem ky_same (l m : List (Nat × Nat)) (hl : KyO l) (hm : KyO m) : sameH (kyH l) (kyL l) (kyH m) (kyL m) = decide (l = m) := by
  rw [sameH_vo, Bool.eq_iff_iff, same_er, decide_eq_true_eq, ← kyL_inj l m hl hm]
  simp only [er, Vo.cons.injEq, and_true]
  exact ⟨fun h => h.2, fun h => ⟨rfl, h⟩⟩
theorem ky_two {l m : List (Nat × Nat)} (hl : KyO l) (hm : KyO m) {h : Vh} {k : Vo} {h' : Vh} {k' : Vo} (e1 : sameH h k (kyH l) (kyL l) = true) (e2 : sameH h' k' (kyH m) (kyL m) = true) :
    sameH h k h' k' = decide (l = m) := by
  rw [← ky_same l m hl hm, sameH_vo, sameH_vo]
  rw [sameH_vo] at e1 e2
  exact same_eqs e1 e2
theorem kyL_at (l : List (Nat × Nat)) : ∀ i (hi : i < l.length), (kyL l).at? (2 * i) = some (kyN (l[i]).1, .nil) ∧ (kyL l).at? (2 * i + 1) = some (kyV (l[i]).2, .nil) := by
  induction l with
  | nil => intro i hi; simp at hi
  | cons x r ih =>
    intro i hi
    cases i with
    | zero => exact ⟨rfl, rfl⟩
    | succ i =>
      obtain ⟨a, b⟩ := ih i (by simpa using hi)
      exact ⟨a, b⟩
theorem ky_at {l : List (Nat × Nat)} {h : Vh} {k : Vo} (e : sameH h k (kyH l) (kyL l) = true) : k.len = 2 * l.length ∧ ∀ i (hi : i < l.length), ∃ h1 k1 h2 k2, k.at? (2 * i) = some (h1, k1) ∧ h1.tx = [((48 + (l[i]).1 : Nat) : Int)] ∧ k.at? (2 * i + 1) = some (h2, k2) ∧ h2.k = 4 := by
  unfold sameH at e
  rw [Bool.and_eq_true] at e
  have e2 := (same_er _ _).1 e.2
  have hl : k.len = 2 * l.length := by
    have := congrArg Vo.len e2
    rw [er_len, er_len, kyL_len] at this
    exact this
  refine ⟨hl, fun i hi => ?_⟩
  obtain ⟨a, b⟩ := kyL_at l i hi
  have ea := er_at k (2 * i)
  have eb := er_at k (2 * i + 1)
  rw [e2, er_at, a] at ea
  rw [e2, er_at, b] at eb
  obtain ⟨h1, k1, g1⟩ := Vo.at_some k (2 * i) (by omega)
  obtain ⟨h2, k2, g2⟩ := Vo.at_some k (2 * i + 1) (by omega)
  rw [g1] at ea
  rw [g2] at eb
  simp only [Option.map_some, Option.some.injEq, Prod.mk.injEq] at ea eb
  refine ⟨h1, k1, h2, k2, g1, ?_, g2, ?_⟩
  · have := congrArg Vh.tx ea.1
    simp only [erh, kyN] at this
    exact this.symm
  · have := congrArg Vh.k eb.1
    simp only [erh, kyV] at this
    exact this.symm
def kyP (x : Int) : Nat × Nat := ((x % 4).toNat, (x / 4 % 4).toNat)
theorem kyP_lt (x : Int) : (kyP x).1 < 4 ∧ (kyP x).2 < 4 := by
  unfold kyP
  constructor <;> (simp only; omega)
theorem kyP_eq (x y : Int) : kyP x = kyP y ↔ x % 16 = y % 16 := by
  unfold kyP
  rw [Prod.mk.injEq]
  omega
theorem KyO_map (xs : List Int) : KyO (xs.map kyP) := by
  intro x hx
  obtain ⟨y, -, rfl⟩ := List.mem_map.1 hx
  exact kyP_lt y
theorem cnt_set : ∀ (H : List Bool) (k : Nat), H[k]? = some false → (H.set k true).count true = H.count true + 1
  | [], k, h => by simp at h
  | a :: r, 0, h => by
    simp only [List.getElem?_cons_zero, Option.some.injEq] at h
    subst h
    simp
  | a :: r, k + 1, h => by
    have := cnt_set r k (by simpa using h)
    simp only [List.set_cons_succ, List.count_cons, this]
    omega
theorem cnt_free : ∀ (H : List Bool), H.count true < H.length → ∃ k : Nat, H[k]? = some false
  | [], h => by simp at h
  | a :: r, h => by
    cases a with
    | false => exact ⟨0, rfl⟩
    | true =>
      obtain ⟨k, hk⟩ := cnt_free r (by simpa using h)
      exact ⟨k + 1, by simpa using hk⟩
end Go.Proofs.YtbfnlgmhfhaglaaGreatDoor
