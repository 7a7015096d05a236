/- Layouts: the document's own way, plain: a list of documents with level and mode, laid out. -/
import Derived.Test.YtehofomfblfhaaaTRef2
import Derived.Test.YtehofomfblfhaaaMgWC
namespace Go.Proofs.Ytehofomfblfhaaa
open Go.RowKit
set_option linter.unusedVariables false
set_option linter.unusedSimpArgs false

abbrev Pc := ByteArray × Int
def wd (s : ByteArray) : Nat := Lib.runeCount s
/-- A document of the list, its level, its mode. -/
structure It where
  k : Int
  f : Int
  s : ByteArray
  kids : Fo
  lv : Nat
  fl : Bool
def items (lv : Nat) (fl : Bool) : Fo → List It
  | .nil => []
  | .cons k f s kids rest => ⟨k, f, s, kids, lv, fl⟩ :: items lv fl rest
def lvK (k : Int) (lv : Nat) : Nat := if k = 7 then lv + 1 else lv
/-- Up to the next possible break: first this, then that. -/
def comb (a b : Nat × Bool) : Nat × Bool := if a.2 = true then a else (a.1 + b.1, b.2)
/-- In the mode broken: how wide up to the first possible break; is there one? -/
def lbF : Fo → Nat × Bool
  | .nil => (0, false)
  | .cons k _ s kids rest => comb (if k = 1 then (wd s, false) else if k = 2 ∨ k = 3 ∨ k = 4 then (0, true) else lbF kids) (lbF rest)
def lbD (k : Int) (s : ByteArray) (kids : Fo) : Nat × Bool := if k = 1 then (wd s, false) else if k = 2 ∨ k = 3 ∨ k = 4 then (0, true) else lbF kids
theorem lbF_cons (k f : Int) (s : ByteArray) (kids rest : Fo) : lbF (.cons k f s kids rest) = comb (lbD k s kids) (lbF rest) := rfl
/-- The text of a document without line breaks, where it has one. -/
def ftx (k : Int) (s : ByteArray) (kids : Fo) : ByteArray := if (flatD k s kids).2 = true then bytes (flatD k s kids).1 else ⟨#[]⟩
def behindI (x : It) : Nat × Bool := if x.fl = true then (wd (ftx x.k x.s x.kids), false) else lbD x.k x.s x.kids
def afterR : List It → Nat × Bool
  | [] => (0, false)
  | x :: r => comb (behindI x) (afterR r)
def fitsI (width col : Nat) (x : It) (row : List It) : Bool := (flatD x.k x.s x.kids).2 && decide (col + wd (ftx x.k x.s x.kids) + (afterR row).1 ≤ width)
def flOf (width col : Nat) (x : It) (row : List It) : Bool := x.fl || (decide (x.k = 6) && fitsI width col x row)
def brk (n : Nat) : Pc := (bytes (10 :: List.replicate n 32), -1)
def spc : Pc := (⟨#[32]⟩, -1)
/-- How many documents a row has. -/
def rowN : List It → Nat
  | [] => 0
  | x :: r => 1 + FoN x.kids + rowN r
theorem rowN_append (a b : List It) : rowN (a ++ b) = rowN a + rowN b := by
  induction a with
  | nil => simp [rowN]
  | cons x a ih => simp only [List.cons_append, rowN, ih]; omega
theorem rowN_items (lv : Nat) (fl : Bool) (L : Fo) : rowN (items lv fl L) = FoN L := by
  induction L with
  | nil => rfl
  | cons k f s kids rest _ ih => simp only [items, rowN, FoN, ih]
/-- Laid out, with so many steps at most. -/
def layN (width indent : Nat) : Nat → List It → Nat → List Pc
  | 0, _, _ => []
  | _ + 1, [], _ => []
  | n + 1, x :: row, col =>
    if x.k = 1 then (if x.s = ⟨#[]⟩ then layN width indent n row col else (x.s, x.f) :: layN width indent n row (col + wd x.s))
    else if x.k = 2 ∨ x.k = 3 ∨ x.k = 4 then
      (if x.fl = true then (if x.k = 2 then spc :: layN width indent n row (col + 1) else layN width indent n row col)
      else brk (x.lv * indent) :: layN width indent n row (x.lv * indent))
    else layN width indent n (items (lvK x.k x.lv) (flOf width col x row) x.kids ++ row) col
theorem layN_nil (width indent n col : Nat) : layN width indent n [] col = [] := by cases n <;> rfl
theorem layN_more (width indent : Nat) : ∀ (n m : Nat) (row : List It) (col : Nat), rowN row ≤ n → rowN row ≤ m → layN width indent n row col = layN width indent m row col := by
  intro n
  induction n with
  | zero =>
    intro m row col h _
    cases row with
    | nil => rw [layN_nil, layN_nil]
    | cons x r => simp only [rowN] at h; omega
  | succ n ih =>
    intro m row col hn hm
    cases row with
    | nil => rw [layN_nil, layN_nil]
    | cons x r =>
      cases m with
      | zero => simp only [rowN] at hm; omega
      | succ m =>
        simp only [rowN] at hn hm
        have h1 := fun c => ih m r c (by omega) (by omega)
        have h2 := fun c => ih m (items (lvK x.k x.lv) (flOf width c x r) x.kids ++ r) c (by rw [rowN_append, rowN_items]; omega) (by rw [rowN_append, rowN_items]; omega)
        simp only [layN, h1, h2]
/-- Laid out. -/
def lay (width indent : Nat) (row : List It) (col : Nat) : List Pc := layN width indent (rowN row) row col
theorem lay_nil (width indent col : Nat) : lay width indent [] col = [] := layN_nil _ _ _ _
theorem lay_cons (width indent col : Nat) (x : It) (row : List It) : lay width indent (x :: row) col =
    if x.k = 1 then (if x.s = ⟨#[]⟩ then lay width indent row col else (x.s, x.f) :: lay width indent row (col + wd x.s))
    else if x.k = 2 ∨ x.k = 3 ∨ x.k = 4 then
      (if x.fl = true then (if x.k = 2 then spc :: lay width indent row (col + 1) else lay width indent row col)
      else brk (x.lv * indent) :: lay width indent row (x.lv * indent))
    else lay width indent (items (lvK x.k x.lv) (flOf width col x row) x.kids ++ row) col := by
  have e : rowN (x :: row) = (FoN x.kids + rowN row) + 1 := by simp only [rowN]; omega
  have h1 := fun c => layN_more width indent (FoN x.kids + rowN row) (rowN row) row c (by omega) (Nat.le_refl _)
  have h2 := fun c => layN_more width indent (FoN x.kids + rowN row) (rowN (items (lvK x.k x.lv) (flOf width c x row) x.kids ++ row)) (items (lvK x.k x.lv) (flOf width c x row) x.kids ++ row) c (by rw [rowN_append, rowN_items]; omega) (Nat.le_refl _)
  unfold lay
  rw [e]
  simp only [layN, h1, h2]
/-- The whole of a document. -/
def layD (width indent : Nat) (k f : Int) (s : ByteArray) (kids : Fo) : List Pc := lay width indent [⟨k, f, s, kids, 0, false⟩] 0
/-- What all its pieces come to. -/
def ptext (l : List Pc) : List UInt8 := l.flatMap fun p => p.1.data.toList
theorem items_append (lv : Nat) (fl : Bool) (k f : Int) (s : ByteArray) (kids rest : Fo) : items lv fl (.cons k f s kids rest) = ⟨k, f, s, kids, lv, fl⟩ :: items lv fl rest := rfl
theorem comb_zero (a : Nat × Bool) : comb a (0, false) = a := by
  obtain ⟨a1, a2⟩ := a
  cases a2 <;> rfl
theorem comb_assoc (a b c : Nat × Bool) : comb (comb a b) c = comb a (comb b c) := by
  obtain ⟨a1, a2⟩ := a
  obtain ⟨b1, b2⟩ := b
  obtain ⟨c1, c2⟩ := c
  cases a2 <;> cases b2 <;> simp [comb, Nat.add_assoc]
theorem afterR_append (a b : List It) : afterR (a ++ b) = comb (afterR a) (afterR b) := by
  induction a with
  | nil => simp [afterR, comb]
  | cons x a ih => simp only [List.cons_append, afterR, ih, comb_assoc]
theorem afterR_items (lv : Nat) (L : Fo) : afterR (items lv false L) = lbF L := by
  induction L with
  | nil => rfl
  | cons k f s kids rest _ ih =>
    rw [lbF_cons, items_append]
    simp only [afterR, ih]
    rfl
/-- Rows that come to one: documents held together stand side by side. -/
inductive RowEq : List It → List It → Prop where
  | nil : RowEq [] []
  | same (x : It) {r r' : List It} (h : RowEq r r') : RowEq (x :: r) (x :: r')
  | cat (f : Int) (s : ByteArray) (kids : Fo) (lv : Nat) {r r' : List It} (h : RowEq (items lv false kids ++ r) r') : RowEq (⟨5, f, s, kids, lv, false⟩ :: r) r'
theorem RowEq.refl (r : List It) : RowEq r r := by
  induction r with
  | nil => exact .nil
  | cons x r ih => exact .same x ih
theorem RowEq.append (p : List It) {r r' : List It} (h : RowEq r r') : RowEq (p ++ r) (p ++ r') := by
  induction p with
  | nil => exact h
  | cons x p ih => exact .same x ih
theorem RowEq.after {r r' : List It} (h : RowEq r r') : afterR r = afterR r' := by
  induction h with
  | nil => rfl
  | same x _ ih => simp only [afterR, ih]
  | cat f s kids lv _ ih =>
    rw [← ih, afterR_append, afterR_items]
    rfl
theorem RowEq.lay_eq (width indent : Nat) : ∀ (n : Nat) {r r' : List It} (col : Nat), rowN r ≤ n → RowEq r r' → lay width indent r col = lay width indent r' col := by
  intro n
  induction n with
  | zero =>
    intro r r' col hn h
    cases h with
    | nil => rfl
    | same x h => simp only [rowN] at hn; omega
    | cat f s kids lv h => simp only [rowN] at hn; omega
  | succ n ih =>
    intro r r' col hn h
    cases h with
    | nil => rfl
    | same x h =>
      simp only [rowN] at hn
      have h1 := fun c => ih c (by omega) h
      have ha := h.after
      rename_i r0 r0'
      have hf : ∀ c, flOf width c x r0 = flOf width c x r0' := fun c => by unfold flOf fitsI; rw [ha]
      have h2 := fun c => ih c (r := items (lvK x.k x.lv) (flOf width c x r0) x.kids ++ r0) (r' := items (lvK x.k x.lv) (flOf width c x r0') x.kids ++ r0') (by rw [rowN_append, rowN_items]; omega) (by rw [hf]; exact h.append _)
      rw [lay_cons, lay_cons]
      simp only [h1, h2]
    | cat f s kids lv h =>
      simp only [rowN] at hn
      rename_i r0
      have e : lay width indent (⟨5, f, s, kids, lv, false⟩ :: r0) col = lay width indent (items lv false kids ++ r0) col := by
        rw [lay_cons]
        have hf : flOf width col ⟨5, f, s, kids, lv, false⟩ r0 = false := by simp [flOf]
        rw [hf]
        simp [lvK]
      rw [e]
      exact ih col (by rw [rowN_append, rowN_items]; omega) h
/-- The pieces of what is flat. -/
def flatP : Fo → List Pc
  | .nil => []
  | .cons k f s kids rest => (if k = 1 then (if s = ⟨#[]⟩ then [] else [(s, f)]) else if k = 2 ∨ k = 3 ∨ k = 4 then (if k = 2 then [spc] else []) else flatP kids) ++ flatP rest
theorem lay_flat (width indent : Nat) : ∀ (L : Fo) (lv : Nat) (row : List It) (col : Nat), ∃ c, lay width indent (items lv true L ++ row) col = flatP L ++ lay width indent row c := by
  intro L
  induction L with
  | nil => intro lv row col; exact ⟨col, rfl⟩
  | cons k f s kids rest ih1 ih2 =>
    intro lv row col
    rw [items_append, List.cons_append, lay_cons]
    simp only [flatP]
    by_cases h1 : k = 1
    · rw [if_pos h1, if_pos h1]
      by_cases hs : s = ⟨#[]⟩
      · rw [if_pos hs, if_pos hs]
        exact ih2 lv row col
      · rw [if_neg hs, if_neg hs]
        obtain ⟨c, h⟩ := ih2 lv row (col + wd s)
        exact ⟨c, by rw [h]; rfl⟩
    · rw [if_neg h1, if_neg h1]
      by_cases h2 : k = 2 ∨ k = 3 ∨ k = 4
      · rw [if_pos h2, if_pos h2]
        simp only [if_true]
        by_cases h3 : k = 2
        · rw [if_pos h3, if_pos h3]
          obtain ⟨c, h⟩ := ih2 lv row (col + 1)
          exact ⟨c, by rw [h]; rfl⟩
        · rw [if_neg h3, if_neg h3]
          exact ih2 lv row col
      · rw [if_neg h2, if_neg h2]
        have hf : flOf width col ⟨k, f, s, kids, lv, true⟩ (items lv true rest ++ row) = true := by simp [flOf]
        rw [hf]
        obtain ⟨c1, e1⟩ := ih1 (lvK k lv) (items lv true rest ++ row) col
        obtain ⟨c2, e2⟩ := ih2 lv row c1
        exact ⟨c2, by rw [e1, e2, List.append_assoc]⟩
/-- The pieces that are no blanks and new lines from nowhere. -/
def isBk (p : Pc) : Bool := decide (p.2 = -1) && (decide (p.1.data.toList ≠ []) && p.1.data.toList.all fun c => c == 32 || c == 10)
def notBk (l : List Pc) : List Pc := l.filter fun p => !isBk p
theorem bk_brk (n : Nat) : isBk (brk n) = true := by
  unfold isBk brk
  simp [bytes]
theorem bk_spc : isBk spc = true := by decide
def leafP : Fo → List Pc
  | .nil => []
  | .cons k f s kids rest => (if k = 1 then (if s = ⟨#[]⟩ then [] else [(s, f)]) else if k = 2 ∨ k = 3 ∨ k = 4 then [] else leafP kids) ++ leafP rest
def leafR : List It → List Pc
  | [] => []
  | x :: r => (if x.k = 1 then (if x.s = ⟨#[]⟩ then [] else [(x.s, x.f)]) else if x.k = 2 ∨ x.k = 3 ∨ x.k = 4 then [] else leafP x.kids) ++ leafR r
theorem leafR_append (a b : List It) : leafR (a ++ b) = leafR a ++ leafR b := by
  induction a with
  | nil => rfl
  | cons x a ih => simp only [List.cons_append, leafR, ih, List.append_assoc]
theorem leafR_items (lv : Nat) (fl : Bool) (L : Fo) : leafR (items lv fl L) = leafP L := by
  induction L with
  | nil => rfl
  | cons k f s kids rest _ ih => simp only [items, leafR, leafP, ih]
theorem notBk_append (a b : List Pc) : notBk (a ++ b) = notBk a ++ notBk b := List.filter_append ..
theorem lay_leaf (width indent : Nat) : ∀ (n : Nat) (row : List It) (col : Nat), rowN row ≤ n → notBk (lay width indent row col) = notBk (leafR row) := by
  intro n
  induction n with
  | zero =>
    intro row col hn
    cases row with
    | nil => rfl
    | cons x r => simp only [rowN] at hn; omega
  | succ n ih =>
    intro row col hn
    cases row with
    | nil => rfl
    | cons x r =>
      simp only [rowN] at hn
      have h1 := fun c => ih r c (by omega)
      rw [lay_cons]
      simp only [leafR]
      rw [notBk_append]
      by_cases k1 : x.k = 1
      · rw [if_pos k1, if_pos k1]
        by_cases hs : x.s = ⟨#[]⟩
        · rw [if_pos hs, if_pos hs, h1]; rfl
        · rw [if_neg hs, if_neg hs, ← h1 (col + wd x.s), ← notBk_append]; rfl
      · rw [if_neg k1, if_neg k1]
        by_cases k2 : x.k = 2 ∨ x.k = 3 ∨ x.k = 4
        · rw [if_pos k2, if_pos k2]
          by_cases hf : x.fl = true
          · rw [if_pos hf]
            by_cases k3 : x.k = 2
            · rw [if_pos k3]
              have : notBk (spc :: lay width indent r (col + 1)) = notBk (lay width indent r (col + 1)) := by unfold notBk; rw [List.filter_cons, bk_spc]; rfl
              rw [this, h1]; rfl
            · rw [if_neg k3, h1]; rfl
          · rw [if_neg hf]
            have : notBk (brk (x.lv * indent) :: lay width indent r (x.lv * indent)) = notBk (lay width indent r (x.lv * indent)) := by unfold notBk; rw [List.filter_cons, bk_brk]; rfl
            rw [this, h1]; rfl
        · rw [if_neg k2, if_neg k2, ih _ col (by rw [rowN_append, rowN_items]; omega), leafR_append, leafR_items, notBk_append]
end Go.Proofs.Ytehofomfblfhaaa
