/- Layouts: render's process. -/
import Derived.Test.YtehofomfblfhaaaYPush
import Derived.Test.YtehofomfblfhaaaYSmall
namespace Go.Proofs.Ytehofomfblfhaaa
open Go.RowKit
set_option linter.unusedVariables false
set_option linter.unusedSimpArgs false

theorem hardF_at (L : Fo) (h : hardF L = false) : ∀ j k f s kids, L.at? j = some (k, f, s, kids) → hardD k kids = false := by
  induction L with
  | nil => intro j k f s kids hj; simp [Fo.at?] at hj
  | cons k0 f0 s0 kids0 rest _ ih =>
    intro j k f s kids hj
    rw [hardF_cons, Bool.or_eq_false_iff] at h
    cases j with
    | zero =>
      simp only [Fo.at?, Option.some.injEq, Prod.mk.injEq] at hj
      obtain ⟨rfl, rfl, rfl, rfl⟩ := hj
      exact h.1
    | succ j => exact ih h.2 j k f s kids hj
/-- Once broken, all behind is broken. -/
def BrOk : List It → Prop
  | [] => True
  | x :: R => (x.fl = false → ∀ y ∈ R, y.fl = false) ∧ BrOk R
theorem brOk_false (R : List It) (h : ∀ y ∈ R, y.fl = false) : BrOk R := by
  induction R with
  | nil => trivial
  | cons x R ih => exact ⟨fun _ y hy => h y (by simp [hy]), ih fun y hy => h y (by simp [hy])⟩
theorem brOk_true (R : List It) (h : BrOk R) : ∀ (L : List It), (∀ y ∈ L, y.fl = true) → BrOk (L ++ R) := by
  intro L
  induction L with
  | nil => intro _; exact h
  | cons x L ih =>
    intro hL
    exact ⟨(fun e => by rw [hL x (by simp)] at e; cases e), ih fun y hy => hL y (by simp [hy])⟩
theorem brOk_kids {x : It} {R : List It} (h : BrOk (x :: R)) (lv : Nat) (fl : Bool) (hf : fl = false → x.fl = false) (L : Fo) : BrOk (items lv fl L ++ R) := by
  cases fl with
  | true =>
    refine brOk_true R h.2 _ fun y hy => ?_
    obtain ⟨j, -, -, e⟩ := items_mem lv true L y hy
    exact e
  | false =>
    refine brOk_false _ fun y hy => ?_
    rcases List.mem_append.1 hy with hy | hy
    · obtain ⟨j, -, -, e⟩ := items_mem lv false L y hy
      exact e
    · exact h.1 (hf rfl) y hy
/-- What holds of a row on the way. -/
structure RI (R : List It) (col : Nat) (o : List Pc) : Prop where
  ok : RowOk R
  br : BrOk R
  rz : rowSz R ≤ 400000
  cb : col + rowSz R ≤ 500000
  nb : o.length + rowN R ≤ 900000
  hf : ∀ x ∈ R, x.fl = true → hardD x.k x.kids = false
/-- What process leaves. -/
def PrP (C N lb K0 : Nat) (w0 WN : World) (width ind : Nat) (x : It) (R : List It) (col : Nat) (o : List Pc) (e : Ending) (w' : World) : Prop :=
  e = .returned (.tuple #[]) ∧ ∃ (tv ov : Value) (te : List (List Value)) (R' : List It) (col' : Nat) (o' : List Pc), Ly N lb K0 w0 WN w' tv ov width ind col' te o' ∧ TodoR C N lb WN R' te ∧
    o' ++ lay width ind R' col' = o ++ lay width ind (x :: R) col ∧ RI R' col' o' ∧ rowN R' < rowN (x :: R)
theorem lv_small {x : It} {R : List It} (h : RowOk (x :: R)) : x.lv ≤ 200 := by
  obtain ⟨d, h1, -⟩ := h x (by simp)
  omega
theorem ri_tail {x : It} {R : List It} {col col' : Nat} {o o' : List Pc} (h : RI (x :: R) col o) (hc : col' ≤ col + itSz x ∨ col' ≤ 3200) (ho : o'.length ≤ o.length + 1) : RI R col' o' := by
  have h1 := h.rz
  have h2 := h.cb
  have h3 := h.nb
  simp only [rowSz, rowN] at h1 h2 h3
  refine ⟨rowOk_tail h.ok, h.br.2, by omega, ?_, by omega, fun y hy => h.hf y (by simp [hy])⟩
  rcases hc with hc | hc
  · unfold itSz at hc; omega
  · omega
theorem ri_kids {x : It} {R : List It} {col : Nat} {o : List Pc} (h : RI (x :: R) col o) (hk : x.k = 5 ∨ x.k = 6 ∨ x.k = 7) (fl : Bool) (hf : fl = false → x.fl = false) (hh : fl = true → hardD x.k x.kids = false) : RI (items (lvK x.k x.lv) fl x.kids ++ R) col o := by
  have h1 := h.rz
  have h2 := h.cb
  have h3 := h.nb
  simp only [rowSz, rowN] at h1 h2 h3
  refine ⟨rowOk_kids fl h.ok hk, brOk_kids h.br _ fl hf _, ?_, ?_, ?_, fun y hy hy2 => ?_⟩
  · rw [rowSz_append, rowSz_items]; omega
  · rw [rowSz_append, rowSz_items]; omega
  · rw [rowN_append, rowN_items]; omega
  · rcases List.mem_append.1 hy with hy | hy
    · obtain ⟨j, e1, -, e2⟩ := items_mem _ fl x.kids y hy
      have h4 := hh (by rw [← e2]; exact hy2)
      unfold hardD at h4
      rw [if_neg (by omega), if_neg (by omega), if_neg (by omega)] at h4
      exact hardF_at x.kids h4 j _ _ _ _ e1
    · exact h.hf y (by simp [hy]) hy2
theorem rowN_kids (x : It) (R : List It) (lv : Nat) (fl : Bool) : rowN (items lv fl x.kids ++ R) < rowN (x :: R) := by
  rw [rowN_append, rowN_items]; simp only [rowN]; omega
theorem row_len_le (R : List It) : R.length ≤ rowN R := row_len R
set_option maxRecDepth 100000 in
set_option maxHeartbeats 4000000 in
theorem pr_text (C N lb K0 : Nat) (w0 WN w : World) (tv ov : Value) (width ind col : Nat) (te : List (List Value)) (o : List Pc) (x : It) (R : List It) (e : List Value) (hk : x.k = 1)
    (hly : Ly N lb K0 w0 WN w tv ov width ind col te o) (htd : TodoR C N lb WN R te) (hen : EnR C N lb WN x R e) (hri : RI (x :: R) col o) (hi : ind ≤ 16) :
    Calls Try.prog 26 #[.pointer (some ⟨lb, 0, none⟩), .agg e.toArray] w (PrP C N lb K0 w0 WN width ind x R col o) := by
  obtain ⟨xd, vk, af, he, -⟩ := hen
  have hb := BK.new 58 w e.toArray
  have b1 : Below w.heap.size w (w.alloc (.cells e.toArray 58)) := (Below.refl _ _).alloc (Nat.le_refl _) _
  obtain ⟨W1, hW1⟩ : ∃ W, w.alloc (.cells e.toArray 58) = W := ⟨_, rfl⟩
  rw [hW1] at hb b1
  have c0 : W1.cell? ⟨w.heap.size, 0, none⟩ = some (.int .i64 1) := by rw [hb.cell, he, hk]; rfl
  have c1 : W1.cell? ⟨w.heap.size, 1, none⟩ = some (.int .i64 x.f) := by rw [hb.cell, he]; rfl
  have c2 : W1.cell? ⟨w.heap.size, 2, none⟩ = some (.string x.s) := by rw [hb.cell, he]; rfl
  have HL := Lib.hid (hly.keep b1)
  have HW1 := Lib.hid hW1
  have HR := Lib.hid hri
  have HT := Lib.hid htd
  have h1 := hri.rz
  have h2 := hri.cb
  have h3 := hri.nb
  simp only [rowSz, rowN] at h1 h2 h3
  have PU := Lib.hid (fun W (h : Ly N lb K0 w0 WN W tv ov width ind col te o) => put_any N lb K0 w0 WN W tv ov width ind col te o x.s x.f h (by omega) (by omega) (by omega))
  have LC := Lib.hid (lay_cons width ind col x R)
  rw [if_pos hk] at LC
  obtain ⟨k0, f0, s0, kids0, lv0, fl0⟩ := x
  simp only at c1 c2 PU
  have hw := wd_le s0
  clear hb b1 hW1 hly htd hri he h1 h2 h3 hk
  go_enter Try.func26, Try.ntmps26
  go_upto_region 1 with fail
  rw [HW1.out]
  go_wp2_with fail
  refine (PU.out _ HL.out).mono ?_
  rintro e2 w2 hp
  by_cases hz : s0 = ⟨#[]⟩
  · rw [if_pos hz] at hp
    obtain ⟨rfl, tv2, ov2, hl2⟩ := hp
    have HL2 := Lib.hid hl2
    clear hl2
    have lc := LC.out
    rw [if_pos hz] at lc
    go_wp2
    go_end0
    exact ⟨rfl, tv2, ov2, te, R, col, o, HL2.out, HT.out, by rw [lc], ri_tail HR.out (.inl (by omega)) (by omega), by simp only [rowN]; omega⟩
  · rw [if_neg hz] at hp
    obtain ⟨rfl, tv2, ov2, hl2⟩ := hp
    have HL2 := Lib.hid hl2
    clear hl2
    have lc := LC.out
    rw [if_neg hz] at lc
    go_wp2
    go_end0
    exact ⟨rfl, tv2, ov2, te, R, _, _, HL2.out, HT.out, by rw [lc]; simp [wd], ri_tail HR.out (.inl (by unfold itSz; simp only; unfold wd at hw; omega)) (by simp), by simp only [rowN]; omega⟩
set_option maxRecDepth 100000 in
set_option maxHeartbeats 4000000 in
theorem pr_hard (C N lb K0 : Nat) (w0 WN w : World) (tv ov : Value) (width ind col : Nat) (te : List (List Value)) (o : List Pc) (x : It) (R : List It) (e : List Value) (hk : x.k = 4)
    (hly : Ly N lb K0 w0 WN w tv ov width ind col te o) (htd : TodoR C N lb WN R te) (hen : EnR C N lb WN x R e) (hri : RI (x :: R) col o) (hi : ind ≤ 16) :
    Calls Try.prog 26 #[.pointer (some ⟨lb, 0, none⟩), .agg e.toArray] w (PrP C N lb K0 w0 WN width ind x R col o) := by
  obtain ⟨xd, vk, af, he, hxd, hvk, hpa, haf, hac⟩ := hen
  have hb := BK.new 58 w e.toArray
  have b1 : Below w.heap.size w (w.alloc (.cells e.toArray 58)) := (Below.refl _ _).alloc (Nat.le_refl _) _
  obtain ⟨W1, hW1⟩ : ∃ W, w.alloc (.cells e.toArray 58) = W := ⟨_, rfl⟩
  rw [hW1] at hb b1
  have c0 : W1.cell? ⟨w.heap.size, 0, none⟩ = some (.int .i64 4) := by rw [hb.cell, he, hk]; rfl
  have c11 : W1.cell? ⟨w.heap.size, 11, none⟩ = some (.int .i64 (x.lv : Int)) := by rw [hb.cell, he]; rfl
  have c12 : W1.cell? ⟨w.heap.size, 12, none⟩ = some (.bool x.fl) := by rw [hb.cell, he]; rfl
  have HL := Lib.hid (hly.keep b1)
  have HW1 := Lib.hid hW1
  have HR := Lib.hid hri
  have HT := Lib.hid htd
  have h1 := hri.rz
  have h2 := hri.cb
  have h3 := hri.nb
  have hlv := lv_small hri.ok
  simp only [rowSz, rowN] at h1 h2 h3
  have BR := Lib.hid (fun W (h : Ly N lb K0 w0 WN W tv ov width ind col te o) => break_any N lb K0 w0 WN W tv ov width ind col te o x.lv h (by omega) (by omega) hi)
  have HM := Lib.hid (show x.lv * ind ≤ 200 * 16 from Nat.mul_le_mul hlv hi)
  have LC := Lib.hid (lay_cons width ind col x R)
  rw [if_neg (by omega), if_pos (by omega)] at LC
  have hfl : x.fl = false := by
    cases h : x.fl with
    | false => rfl
    | true =>
      have := hri.hf x (by simp) h
      rw [hk] at this
      simp [hardD] at this
  rw [hfl, if_neg (by simp)] at LC
  obtain ⟨k0, f0, s0, kids0, lv0, fl0⟩ := x
  simp only at c11 c12 BR LC HM
  clear hb b1 hW1 hly htd hri he h1 h2 h3 hk hpa haf hac hxd hvk hfl
  go_enter Try.func26, Try.ntmps26
  go_upto_region 1 with fail
  rw [HW1.out]
  go_wp2_with fail
  refine (BR.out _ HL.out).mono ?_
  rintro e2 w2 ⟨rfl, tv2, ov2, hl2⟩
  have HL2 := Lib.hid hl2
  clear hl2
  go_wp2
  go_end0
  exact ⟨rfl, tv2, ov2, te, R, _, _, HL2.out, HT.out, by rw [LC.out]; simp, ri_tail HR.out (.inr (by have := HM.out; omega)) (by simp), by simp only [rowN]; omega⟩
set_option maxRecDepth 100000 in
set_option maxHeartbeats 4000000 in
theorem pr_soft (C N lb K0 : Nat) (w0 WN w : World) (tv ov : Value) (width ind col : Nat) (te : List (List Value)) (o : List Pc) (x : It) (R : List It) (e : List Value) (hk : x.k = 3)
    (hly : Ly N lb K0 w0 WN w tv ov width ind col te o) (htd : TodoR C N lb WN R te) (hen : EnR C N lb WN x R e) (hri : RI (x :: R) col o) (hi : ind ≤ 16) :
    Calls Try.prog 26 #[.pointer (some ⟨lb, 0, none⟩), .agg e.toArray] w (PrP C N lb K0 w0 WN width ind x R col o) := by
  obtain ⟨xd, vk, af, he, hxd, hvk, hpa, haf, hac⟩ := hen
  have hb := BK.new 58 w e.toArray
  have b1 : Below w.heap.size w (w.alloc (.cells e.toArray 58)) := (Below.refl _ _).alloc (Nat.le_refl _) _
  obtain ⟨W1, hW1⟩ : ∃ W, w.alloc (.cells e.toArray 58) = W := ⟨_, rfl⟩
  rw [hW1] at hb b1
  have c0 : W1.cell? ⟨w.heap.size, 0, none⟩ = some (.int .i64 3) := by rw [hb.cell, he, hk]; rfl
  have c11 : W1.cell? ⟨w.heap.size, 11, none⟩ = some (.int .i64 (x.lv : Int)) := by rw [hb.cell, he]; rfl
  have c12 : W1.cell? ⟨w.heap.size, 12, none⟩ = some (.bool x.fl) := by rw [hb.cell, he]; rfl
  have HL := Lib.hid (hly.keep b1)
  have HW1 := Lib.hid hW1
  have HR := Lib.hid hri
  have HT := Lib.hid htd
  have h1 := hri.rz
  have h2 := hri.cb
  have h3 := hri.nb
  have hlv := lv_small hri.ok
  simp only [rowSz, rowN] at h1 h2 h3
  have BR := Lib.hid (fun W (h : Ly N lb K0 w0 WN W tv ov width ind col te o) => break_any N lb K0 w0 WN W tv ov width ind col te o x.lv h (by omega) (by omega) hi)
  have HM := Lib.hid (show x.lv * ind ≤ 200 * 16 from Nat.mul_le_mul hlv hi)
  have LC := Lib.hid (lay_cons width ind col x R)
  rw [if_neg (by omega), if_pos (by omega)] at LC
  obtain ⟨k0, f0, s0, kids0, lv0, fl0⟩ := x
  simp only at c11 c12 BR LC HM hk
  have hk2 : ¬ k0 = 2 := by omega
  clear hb b1 hW1 hly htd hri he h1 h2 h3 hpa haf hac hxd hvk hk
  cases fl0 with
  | true =>
    rw [if_pos rfl, if_neg hk2] at LC
    clear hk2
    go_enter Try.func26, Try.ntmps26
    go_upto_region 1 with fail
    rw [HW1.out]
    go_wp2
    go_end0
    exact ⟨rfl, tv, ov, te, R, col, o, HL.out, HT.out, by rw [LC.out], ri_tail HR.out (.inl (by omega)) (by omega), by simp only [rowN]; omega⟩
  | false =>
    rw [if_neg (by simp)] at LC
    clear hk2
    go_enter Try.func26, Try.ntmps26
    go_upto_region 1 with fail
    rw [HW1.out]
    go_wp2_with fail
    refine (BR.out _ HL.out).mono ?_
    rintro e2 w2 ⟨rfl, tv2, ov2, hl2⟩
    have HL2 := Lib.hid hl2
    clear hl2
    go_wp2
    go_end0
    exact ⟨rfl, tv2, ov2, te, R, _, _, HL2.out, HT.out, by rw [LC.out]; simp, ri_tail HR.out (.inr (by have := HM.out; omega)) (by simp), by simp only [rowN]; omega⟩
set_option maxRecDepth 100000 in
set_option maxHeartbeats 4000000 in
theorem pr_space (C N lb K0 : Nat) (w0 WN w : World) (tv ov : Value) (width ind col : Nat) (te : List (List Value)) (o : List Pc) (x : It) (R : List It) (e : List Value) (hk : x.k = 2)
    (hly : Ly N lb K0 w0 WN w tv ov width ind col te o) (htd : TodoR C N lb WN R te) (hen : EnR C N lb WN x R e) (hri : RI (x :: R) col o) (hi : ind ≤ 16) :
    Calls Try.prog 26 #[.pointer (some ⟨lb, 0, none⟩), .agg e.toArray] w (PrP C N lb K0 w0 WN width ind x R col o) := by
  obtain ⟨xd, vk, af, he, hxd, hvk, hpa, haf, hac⟩ := hen
  have hb := BK.new 58 w e.toArray
  have b1 : Below w.heap.size w (w.alloc (.cells e.toArray 58)) := (Below.refl _ _).alloc (Nat.le_refl _) _
  obtain ⟨W1, hW1⟩ : ∃ W, w.alloc (.cells e.toArray 58) = W := ⟨_, rfl⟩
  rw [hW1] at hb b1
  have c0 : W1.cell? ⟨w.heap.size, 0, none⟩ = some (.int .i64 2) := by rw [hb.cell, he, hk]; rfl
  have c11 : W1.cell? ⟨w.heap.size, 11, none⟩ = some (.int .i64 (x.lv : Int)) := by rw [hb.cell, he]; rfl
  have c12 : W1.cell? ⟨w.heap.size, 12, none⟩ = some (.bool x.fl) := by rw [hb.cell, he]; rfl
  have HL := Lib.hid (hly.keep b1)
  have HW1 := Lib.hid hW1
  have HR := Lib.hid hri
  have HT := Lib.hid htd
  have h1 := hri.rz
  have h2 := hri.cb
  have h3 := hri.nb
  have hlv := lv_small hri.ok
  simp only [rowSz, rowN] at h1 h2 h3
  have BR := Lib.hid (fun W (h : Ly N lb K0 w0 WN W tv ov width ind col te o) => break_any N lb K0 w0 WN W tv ov width ind col te o x.lv h (by omega) (by omega) hi)
  have HM := Lib.hid (show x.lv * ind ≤ 200 * 16 from Nat.mul_le_mul hlv hi)
  have LC := Lib.hid (lay_cons width ind col x R)
  rw [if_neg (by omega), if_pos (by omega)] at LC
  have PU := Lib.hid (fun W (h : Ly N lb K0 w0 WN W tv ov width ind col te o) => put_any N lb K0 w0 WN W tv ov width ind col te o ⟨#[32]⟩ (-1) h (by omega) (by decide) (by omega))
  rw [if_neg (by decide), show Lib.runeCount ⟨#[32]⟩ = 1 from by decide] at PU
  obtain ⟨k0, f0, s0, kids0, lv0, fl0⟩ := x
  simp only at c11 c12 BR LC HM hk
  clear hb b1 hW1 hly htd hri he h1 h2 h3 hpa haf hac hxd hvk
  cases fl0 with
  | true =>
    rw [if_pos rfl, if_pos hk] at LC
    clear hk
    go_enter Try.func26, Try.ntmps26
    go_upto_region 1 with fail
    rw [HW1.out]
    go_wp2_with fail
    refine (PU.out _ HL.out).mono ?_
    rintro e2 w2 ⟨rfl, tv2, ov2, hl2⟩
    have HL2 := Lib.hid hl2
    clear hl2
    go_wp2
    go_end0
    exact ⟨rfl, tv2, ov2, te, R, _, _, HL2.out, HT.out, by rw [LC.out]; simp [spc], ri_tail HR.out (.inl (by unfold itSz; simp only; omega)) (by simp), by simp only [rowN]; omega⟩
  | false =>
    rw [if_neg (by simp)] at LC
    clear hk
    go_enter Try.func26, Try.ntmps26
    go_upto_region 1 with fail
    rw [HW1.out]
    go_wp2_with fail
    refine (BR.out _ HL.out).mono ?_
    rintro e2 w2 ⟨rfl, tv2, ov2, hl2⟩
    have HL2 := Lib.hid hl2
    clear hl2
    go_wp2
    go_end0
    exact ⟨rfl, tv2, ov2, te, R, _, _, HL2.out, HT.out, by rw [LC.out]; simp, ri_tail HR.out (.inr (by have := HM.out; omega)) (by simp), by simp only [rowN]; omega⟩
set_option maxRecDepth 100000 in
set_option maxHeartbeats 4000000 in
theorem pr_cat (C N lb K0 : Nat) (w0 WN w : World) (tv ov : Value) (width ind col : Nat) (te : List (List Value)) (o : List Pc) (x : It) (R : List It) (e : List Value) (hk : x.k = 5)
    (hly : Ly N lb K0 w0 WN w tv ov width ind col te o) (htd : TodoR C N lb WN R te) (hen : EnR C N lb WN x R e) (hri : RI (x :: R) col o) (hi : ind ≤ 16) (hC : C ≤ 100000000) :
    Calls Try.prog 26 #[.pointer (some ⟨lb, 0, none⟩), .agg e.toArray] w (PrP C N lb K0 w0 WN width ind x R col o) := by
  obtain ⟨xd, vk, af, he, hxd, hvk, hpa, haf, hac⟩ := hen
  have hlv := lv_small hri.ok
  have hrl : R.length + x.kids.len ≤ 10000000 := by
    have h3 := hri.nb
    have := row_len R
    have := fo_len_n x.kids
    simp only [rowN] at h3
    omega
  have hac2 : af + FoSz x.kids ≤ C := by unfold itSz at hac; omega
  have PU := Lib.hid (fun W (lv : Nat) (fl : Bool) (hlv : lv ≤ 1000000) (hfl : fl = false → x.fl = false) (h : Ly N lb K0 w0 WN W tv ov width ind col te o) => push_any C N lb K0 w0 WN W tv ov width ind col te o x.k x.f x.s x.kids xd vk lv fl af R h htd hxd hvk hpa (fun h => haf (hfl h)) hac2 hC hrl hlv)
  have hb := BK.new 58 w e.toArray
  have b1 : Below w.heap.size w (w.alloc (.cells e.toArray 58)) := (Below.refl _ _).alloc (Nat.le_refl _) _
  obtain ⟨W1, hW1⟩ : ∃ W, w.alloc (.cells e.toArray 58) = W := ⟨_, rfl⟩
  rw [hW1] at hb b1
  have c0 : W1.cell? ⟨w.heap.size, 0, none⟩ = some (.int .i64 5) := by rw [hb.cell, he, hk]; rfl
  have c11 : W1.cell? ⟨w.heap.size, 11, none⟩ = some (.int .i64 (x.lv : Int)) := by rw [hb.cell, he]; rfl
  have c12 : W1.cell? ⟨w.heap.size, 12, none⟩ = some (.bool x.fl) := by rw [hb.cell, he]; rfl
  have HLY := Lib.hid hly
  have HL := Lib.hid (hly.keep b1)
  have HB := Lib.hid hb
  have B1 := Lib.hid b1
  have HW1 := Lib.hid hW1
  have HR := Lib.hid hri
  have LC := Lib.hid (lay_cons width ind col x R)
  rw [if_neg (by omega), if_neg (by omega)] at LC
  have RN := Lib.hid (fun lv fl => rowN_kids x R lv fl)
  have hfo : flOf width col x R = x.fl := by unfold flOf; rw [hk]; simp
  have hlk : lvK x.k x.lv = x.lv := by unfold lvK; rw [if_neg (by omega)]
  have RK := Lib.hid (ri_kids hri (.inl hk) x.fl id (fun h => hri.hf x (by simp) h))
  rw [hfo, hlk] at LC
  rw [hlk] at RK
  have P1 := Lib.hid (PU.out W1 x.lv x.fl (by omega) id HL.out)
  rw [← he] at P1
  have he14 : e.length = 14 := by rw [he]; rfl
  clear hW1 hly htd hri hk hpa haf hac hxd hvk hfo hlk hb b1 he PU hac2 hrl
  go_enter Try.func26, Try.ntmps26
  go_upto_region 1 with fail
  rw [HW1.out]
  go_wp2_with (refine wpl_ldK Try.underlying58 rfl infoEn1 rfl _ rfl w.heap.size e rfl HB.out he14 ?_)
  refine (P1.out).mono ?_
  rintro e2 w2 ⟨rfl, tv2, te2, hl2, ht2⟩
  have HL2 := Lib.hid hl2
  have HT2 := Lib.hid ht2
  clear hl2 ht2
  go_wp2
  go_end0
  exact ⟨rfl, tv2, ov, te2, _, col, o, HL2.out, HT2.out, by rw [LC.out], RK.out, RN.out _ _⟩
set_option maxRecDepth 100000 in
set_option maxHeartbeats 4000000 in
theorem pr_nest (C N lb K0 : Nat) (w0 WN w : World) (tv ov : Value) (width ind col : Nat) (te : List (List Value)) (o : List Pc) (x : It) (R : List It) (e : List Value) (hk : x.k = 7)
    (hly : Ly N lb K0 w0 WN w tv ov width ind col te o) (htd : TodoR C N lb WN R te) (hen : EnR C N lb WN x R e) (hri : RI (x :: R) col o) (hi : ind ≤ 16) (hC : C ≤ 100000000) :
    Calls Try.prog 26 #[.pointer (some ⟨lb, 0, none⟩), .agg e.toArray] w (PrP C N lb K0 w0 WN width ind x R col o) := by
  obtain ⟨xd, vk, af, he, hxd, hvk, hpa, haf, hac⟩ := hen
  have hlv := lv_small hri.ok
  have hrl : R.length + x.kids.len ≤ 10000000 := by
    have h3 := hri.nb
    have := row_len R
    have := fo_len_n x.kids
    simp only [rowN] at h3
    omega
  have hac2 : af + FoSz x.kids ≤ C := by unfold itSz at hac; omega
  have PU := Lib.hid (fun W (lv : Nat) (fl : Bool) (hlv : lv ≤ 1000000) (hfl : fl = false → x.fl = false) (h : Ly N lb K0 w0 WN W tv ov width ind col te o) => push_any C N lb K0 w0 WN W tv ov width ind col te o x.k x.f x.s x.kids xd vk lv fl af R h htd hxd hvk hpa (fun h => haf (hfl h)) hac2 hC hrl hlv)
  have hb := BK.new 58 w e.toArray
  have b1 : Below w.heap.size w (w.alloc (.cells e.toArray 58)) := (Below.refl _ _).alloc (Nat.le_refl _) _
  obtain ⟨W1, hW1⟩ : ∃ W, w.alloc (.cells e.toArray 58) = W := ⟨_, rfl⟩
  rw [hW1] at hb b1
  have c0 : W1.cell? ⟨w.heap.size, 0, none⟩ = some (.int .i64 7) := by rw [hb.cell, he, hk]; rfl
  have c11 : W1.cell? ⟨w.heap.size, 11, none⟩ = some (.int .i64 (x.lv : Int)) := by rw [hb.cell, he]; rfl
  have c12 : W1.cell? ⟨w.heap.size, 12, none⟩ = some (.bool x.fl) := by rw [hb.cell, he]; rfl
  have HLY := Lib.hid hly
  have HL := Lib.hid (hly.keep b1)
  have HB := Lib.hid hb
  have B1 := Lib.hid b1
  have HW1 := Lib.hid hW1
  have HR := Lib.hid hri
  have LC := Lib.hid (lay_cons width ind col x R)
  rw [if_neg (by omega), if_neg (by omega)] at LC
  have RN := Lib.hid (fun lv fl => rowN_kids x R lv fl)
  have hfo : flOf width col x R = x.fl := by unfold flOf; rw [hk]; simp
  have hlk : lvK x.k x.lv = x.lv + 1 := by unfold lvK; rw [if_pos hk]
  have RK := Lib.hid (ri_kids hri (.inr (.inr hk)) x.fl id (fun h => hri.hf x (by simp) h))
  rw [hfo, hlk] at LC
  rw [hlk] at RK
  have f11 := frozen_of_row W1 w.heap.size 11 _ _ hb
  obtain ⟨LV, hLV⟩ : ∃ z : Int, ((x.lv + 1 : Nat) : Int) = z := ⟨_, rfl⟩
  have v1 : (x.lv : Int) + 1 = LV := by omega
  have hb2 := hb.setCell 11 (.int .i64 LV)
  have b2 : Below w.heap.size w (W1.setCell ⟨w.heap.size, 11, none⟩ (.int .i64 LV)) := b1.setCell (p := ⟨w.heap.size, 11, none⟩) (Nat.le_refl _) _
  obtain ⟨W2, hW2⟩ : ∃ W, W1.setCell ⟨w.heap.size, 11, none⟩ (.int .i64 LV) = W := ⟨_, rfl⟩
  rw [hW2] at hb2 b2
  have HL2 := Lib.hid (hly.keep b2)
  have P1 := Lib.hid (PU.out W2 (x.lv + 1) x.fl (by omega) id HL2.out)
  obtain ⟨E2, hE2⟩ : ∃ E, ec x.k x.f x.s xd vk (allD x.k x.s x.kids) (hardD x.k x.kids) (lbD x.k x.s x.kids) (x.lv + 1) x.fl af = E := ⟨_, rfl⟩
  have hb3 : BK 58 W2 w.heap.size E2.toArray := by
    rw [← hE2]
    rw [he] at hb2
    unfold ec at hb2 ⊢
    simp only [List.setIfInBounds_toArray, List.set_cons_succ, List.set_cons_zero] at hb2
    rw [hLV]
    exact hb2
  rw [hE2] at P1
  have he14 : E2.length = 14 := by rw [← hE2]; rfl
  have HW2 := Lib.hid hW2
  have HB3 := Lib.hid hb3
  have l0 : (x.lv : Int) ≤ 200 := by omega
  clear hW1 hly htd hri hk hpa haf hac hxd hvk hfo hlk hb b1 he PU hac2 hrl hE2 hb2 b2 hLV hW2 HL2 hb3
  go_enter Try.func26, Try.ntmps26
  go_upto_region 1 with fail
  rw [HW1.out]
  go_upto_region 17 with fail
  (try rw [v1])
  rw [HW2.out]
  go_wp2_with (refine wpl_ldK Try.underlying58 rfl infoEn1 rfl _ rfl w.heap.size E2 rfl HB3.out he14 ?_)
  refine (P1.out).mono ?_
  rintro e2 w2 ⟨rfl, tv2, te2, hl2, ht2⟩
  have HL2 := Lib.hid hl2
  have HT2 := Lib.hid ht2
  clear hl2 ht2
  go_wp2
  go_end0
  exact ⟨rfl, tv2, ov, te2, _, col, o, HL2.out, HT2.out, by rw [LC.out], RK.out, RN.out _ _⟩
theorem wpl_ldKw {T : TypeId} {sz : Nat} {d : TypeDesc} (hu : Try.prog.underlying T = some d) (hd : d.isRow = true) (hinfo : (Try.prog.info? T).map (·.size) = some sz) {ops : Array Oper} {rest : List Oper} {o : Oper} {a : Act} {w : World} {Q : Exit → Act → World → Prop} (hw : Region.wanted o (yielded ops a.tmps) = true) (x : Operand) (ho : o.op = .load T x)
    (g : Nat) (cs : List Value) (hx : a.eval x = .pointer (some ⟨g, 0, none⟩)) (hg : BK T w g cs.toArray) (hs : cs.length = sz)
    (h : wpList Try.prog ops Q rest (a.put o.dst (.agg cs.toArray)) w) : wpList Try.prog ops Q (o :: rest) a w :=
  wpList_step fun K hK => by
    rw [if_pos hw]
    exact wp_load_mid (P := Try.prog) (Q := Q) (K := K) T x ho g 0 hx cs d (hg.range 0 cs (by intro j u h; simpa using h)) hu hd (by rw [hs]; exact hinfo) (hK _ _ h)
theorem wd_bytes (l : List UInt8) : wd (bytes l) = M.wl l := runeCount_bytes l
theorem fitsI_is (width col : Nat) (x : It) (R : List It) (af : Nat) (h : af = (afterR R).1) : fitsI width col x R = (!hardD x.k x.kids && decide (col + M.wl (allD x.k x.s x.kids) + af ≤ width)) := by
  obtain ⟨h1, h2⟩ := flatD_all x.k x.s x.kids
  unfold fitsI
  rw [h1, ← h]
  cases hh : hardD x.k x.kids with
  | true => simp only [Bool.not_true, Bool.false_and]
  | false =>
    have e : ftx x.k x.s x.kids = bytes (allD x.k x.s x.kids) := by
      unfold ftx
      rw [h1, hh, h2 hh]
      simp
    rw [e, wd_bytes]
set_option maxRecDepth 100000 in
set_option maxHeartbeats 4000000 in
theorem pr_group (C N lb K0 : Nat) (w0 WN w : World) (tv ov : Value) (width ind col : Nat) (te : List (List Value)) (o : List Pc) (x : It) (R : List It) (e : List Value) (hk : x.k = 6)
    (hly : Ly N lb K0 w0 WN w tv ov width ind col te o) (htd : TodoR C N lb WN R te) (hen : EnR C N lb WN x R e) (hri : RI (x :: R) col o) (hi : ind ≤ 16) (hC : C ≤ 100000000) (hwd : width ≤ 1000000000) :
    Calls Try.prog 26 #[.pointer (some ⟨lb, 0, none⟩), .agg e.toArray] w (PrP C N lb K0 w0 WN width ind x R col o) := by
  obtain ⟨xd, vk, af, he, hxd, hvk, hpa, haf, hac⟩ := hen
  have hlv := lv_small hri.ok
  have hrl : R.length + x.kids.len ≤ 10000000 := by
    have h3 := hri.nb
    have := row_len R
    have := fo_len_n x.kids
    simp only [rowN] at h3
    omega
  have hac2 : af + FoSz x.kids ≤ C := by unfold itSz at hac; omega
  have PU := Lib.hid (fun W (lv : Nat) (fl : Bool) (hlv : lv ≤ 1000000) (hfl : fl = false → x.fl = false) (h : Ly N lb K0 w0 WN W tv ov width ind col te o) => push_any C N lb K0 w0 WN W tv ov width ind col te o x.k x.f x.s x.kids xd vk lv fl af R h htd hxd hvk hpa (fun h => haf (hfl h)) hac2 hC hrl hlv)
  have hb := BK.new 58 w e.toArray
  have b1 : Below w.heap.size w (w.alloc (.cells e.toArray 58)) := (Below.refl _ _).alloc (Nat.le_refl _) _
  obtain ⟨W1, hW1⟩ : ∃ W, w.alloc (.cells e.toArray 58) = W := ⟨_, rfl⟩
  rw [hW1] at hb b1
  have c0 : W1.cell? ⟨w.heap.size, 0, none⟩ = some (.int .i64 6) := by rw [hb.cell, he, hk]; rfl
  have c11 : W1.cell? ⟨w.heap.size, 11, none⟩ = some (.int .i64 (x.lv : Int)) := by rw [hb.cell, he]; rfl
  have c12 : W1.cell? ⟨w.heap.size, 12, none⟩ = some (.bool x.fl) := by rw [hb.cell, he]; rfl
  have HLY := Lib.hid hly
  have HL := Lib.hid (hly.keep b1)
  have HB := Lib.hid hb
  have B1 := Lib.hid b1
  have HW1 := Lib.hid hW1
  have HR := Lib.hid hri
  have LC := Lib.hid (lay_cons width ind col x R)
  rw [if_neg (by omega), if_neg (by omega)] at LC
  have RN := Lib.hid (fun lv fl => rowN_kids x R lv fl)
  have hlk : lvK x.k x.lv = x.lv := by unfold lvK; rw [if_neg (by omega)]
  have f12 := frozen_of_row W1 w.heap.size 12 _ _ hb
  have he14 : e.length = 14 := by rw [he]; rfl
  cases hfl : x.fl with
  | true =>
    have hfo : flOf width col x R = true := by unfold flOf; rw [hfl]; rfl
    have RK := Lib.hid (ri_kids hri (.inr (.inl hk)) true (by simp) (fun _ => hri.hf x (by simp) hfl))
    rw [hfo, hlk] at LC
    rw [hlk] at RK
    rw [hfl] at c12
    have hb2 := hb.setCell 12 (.bool true)
    have b2 : Below w.heap.size w (W1.setCell ⟨w.heap.size, 12, none⟩ (.bool true)) := b1.setCell (p := ⟨w.heap.size, 12, none⟩) (Nat.le_refl _) _
    obtain ⟨W2, hW2⟩ : ∃ W, W1.setCell ⟨w.heap.size, 12, none⟩ (.bool true) = W := ⟨_, rfl⟩
    rw [hW2] at hb2 b2
    have P1 := Lib.hid (PU.out W2 x.lv true (by omega) (by simp) (hly.keep b2))
    obtain ⟨E2, hE2⟩ : ∃ E, ec x.k x.f x.s xd vk (allD x.k x.s x.kids) (hardD x.k x.kids) (lbD x.k x.s x.kids) x.lv true af = E := ⟨_, rfl⟩
    have hb3 : BK 58 W2 w.heap.size E2.toArray := by
      rw [← hE2]
      rw [he] at hb2
      unfold ec at hb2 ⊢
      simp only [List.setIfInBounds_toArray, List.set_cons_succ, List.set_cons_zero] at hb2
      exact hb2
    rw [hE2] at P1
    have he14 : E2.length = 14 := by rw [← hE2]; rfl
    have HW2 := Lib.hid hW2
    have HB3 := Lib.hid hb3
    clear hW1 hly htd hri hk hpa haf hac hxd hvk hfo hlk hb b1 he PU hac2 hrl hE2 hb2 b2 hW2 hb3 c11
    go_enter Try.func26, Try.ntmps26
    go_upto_region 1 with fail
    rw [HW1.out]
    go_upto_region 20 with fail
    rw [HW2.out]
    go_wp2_with (refine wpl_ldK Try.underlying58 rfl infoEn1 rfl _ rfl w.heap.size E2 rfl HB3.out he14 ?_)
    refine (P1.out).mono ?_
    rintro e2 w2 ⟨rfl, tv2, te2, hl2, ht2⟩
    have HL2 := Lib.hid hl2
    have HT2 := Lib.hid ht2
    clear hl2 ht2
    go_wp2
    go_end0
    exact ⟨rfl, tv2, ov, te2, _, col, o, HL2.out, HT2.out, by rw [LC.out], RK.out, RN.out _ _⟩
  | false =>
    have haf2 := haf hfl
    have hfo : flOf width col x R = (!hardD x.k x.kids && decide (col + M.wl (allD x.k x.s x.kids) + af ≤ width)) := by unfold flOf; rw [hfl, fitsI_is width col x R af haf2]; simp [hk]
    have h1 := hri.rz
    have h2 := hri.cb
    simp only [rowSz] at h1 h2
    have hal := allD_len x.k x.s x.kids
    have hwl := M.wl_le (allD x.k x.s x.kids)
    have FT := Lib.hid (fits_any N lb K0 w0 WN W1 tv ov width ind col te o x.k x.f x.s xd vk (allD x.k x.s x.kids) (hardD x.k x.kids) (lbD x.k x.s x.kids) x.lv false af HL.out (by omega) (by omega) (by omega) hwd)
    rw [← hfl, ← he, ← hfo] at FT
    have RK := Lib.hid (fun r (h : r = flOf width col x R) => ri_kids hri (.inr (.inl hk)) r (fun _ => hfl) (fun h2 => by
      rw [h, hfo] at h2
      have := (Bool.and_eq_true_iff.1 h2).1
      simpa using this))
    obtain ⟨r, hr⟩ : ∃ r, flOf width col x R = r := ⟨_, rfl⟩
    have RK2 := Lib.hid (RK.out r hr.symm)
    rw [hr, hlk] at LC
    rw [hr] at FT
    rw [hlk] at RK2
    rw [hfl] at c12
    have HE : Hid (∀ W2, BK 58 W2 w.heap.size e.toArray → BK 58 (W2.setCell ⟨w.heap.size, 12, none⟩ (.bool r)) w.heap.size (ec x.k x.f x.s xd vk (allD x.k x.s x.kids) (hardD x.k x.kids) (lbD x.k x.s x.kids) x.lv r af).toArray) := Lib.hid (fun W2 h => by
      have hb2 := h.setCell 12 (.bool r)
      rw [he] at hb2
      unfold ec at hb2 ⊢
      simp only [List.setIfInBounds_toArray, List.set_cons_succ, List.set_cons_zero] at hb2
      exact hb2)
    have P0 := Lib.hid (fun W2 h => PU.out W2 x.lv r (by omega) (fun _ => hfl) h)
    obtain ⟨E2, hE2⟩ : ∃ E, ec x.k x.f x.s xd vk (allD x.k x.s x.kids) (hardD x.k x.kids) (lbD x.k x.s x.kids) x.lv r af = E := ⟨_, rfl⟩
    rw [hE2] at P0 HE
    have he14b : E2.length = 14 := by rw [← hE2]; rfl
    clear hW1 hly htd hri hk hpa haf hac hxd hvk hfo hlk hb b1 he PU hac2 hrl hE2 c11 f12 haf2 h1 h2 hal hwl RK hr
    go_enter Try.func26, Try.ntmps26
    go_upto_region 1 with fail
    rw [HW1.out]
    go_wp2_with (refine wpl_ldKw Try.underlying58 rfl infoEn1 (by rfl) _ rfl w.heap.size e rfl HB.out he14 ?_)
    refine (FT.out).mono ?_
    rintro e2 w2 ⟨rfl, hb2⟩
    have hbk2 := HB.out.keep hb2
    have f12 := frozen_of_row w2 w.heap.size 12 _ _ hbk2
    have d12 : w2.cell? ⟨w.heap.size, 12, none⟩ = some (.bool false) := (hb2.cell (p := ⟨w.heap.size, 12, none⟩) HB.out.lt).trans c12
    have HB3 := Lib.hid (HE.out w2 hbk2)
    have b3 : Below w.heap.size w (w2.setCell ⟨w.heap.size, 12, none⟩ (.bool r)) := (B1.out.trans (hb2.mono B1.out.size)).setCell (p := ⟨w.heap.size, 12, none⟩) (Nat.le_refl _) _
    obtain ⟨w3, hw3⟩ : ∃ W, w2.setCell ⟨w.heap.size, 12, none⟩ (.bool r) = W := ⟨_, rfl⟩
    rw [hw3] at HB3 b3
    have HW3 := Lib.hid hw3
    have P1 := Lib.hid (P0.out w3 (HLY.out.keep b3))
    clear hb2 hbk2 hw3 b3
    go_upto_region 20 with fail
    rw [HW3.out]
    go_wp2_with (refine wpl_ldK Try.underlying58 rfl infoEn1 rfl _ rfl w.heap.size E2 rfl HB3.out he14b ?_)
    refine (P1.out).mono ?_
    rintro e2 w2 ⟨rfl, tv2, te2, hl2, ht2⟩
    have HL2 := Lib.hid hl2
    have HT2 := Lib.hid ht2
    clear hl2 ht2
    go_wp2
    go_end0
    exact ⟨rfl, tv2, ov, te2, _, col, o, HL2.out, HT2.out, by rw [LC.out], RK2.out, RN.out _ _⟩
end Go.Proofs.Ytehofomfblfhaaa
