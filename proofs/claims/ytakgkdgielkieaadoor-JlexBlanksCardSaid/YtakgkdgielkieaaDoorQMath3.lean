/- Plain numbers and lists: what jlex.Split says of any bytes; the texts of the law on wrong ones. -/
import Derived.Test.YtakgkdgielkieaaDoorQMath2
namespace Go.Proofs.YtakgkdgielkieaaDoor.M
open Go.Lib
set_option linter.unusedVariables false
set_option linter.unusedSimpArgs false

/-- The tokens, the fault's number, and where it is. -/
def splitV (l : List UInt8) : Toks × Int × Int :=
  if 20000 < l.length then ([], 5, 20000) else if (validAll l).2 = false then ([], 2, ((validAll l).1 : Int)) else
  match lexS l 0 with
  | .error e => ([], 3, (e : Int))
  | .ok r => (r, 0, 0)
def jtF : Nat → List UInt8 → Option Nat
  | 0, _ => none
  | f + 1, [] => none
  | f + 1, c :: t => if c = 34 then some 1 else if c.toNat < 32 then none else if c ≠ 92 then (jtF f t).map (· + 1)
    else if t.getD 0 0 = 117 then (if hex4ok (t.drop 1) then (jtF f (t.drop 5)).map (· + 6) else none)
    else if t.getD 0 0 ∈ escL then (jtF f (t.drop 1)).map (· + 2) else none
theorem jtF_eq (f : Nat) : ∀ s : List UInt8, s.length < f → jtF f s = jtS s := by
  induction f with
  | zero => intro s h; omega
  | succ f ih =>
    intro s h
    match s with
    | [] => rw [jtS_nil]; rfl
    | c :: t =>
      simp only [List.length_cons] at h
      rw [jtS_cons]
      unfold jtF
      rw [ih t (by omega), ih (t.drop 5) (by rw [List.length_drop]; omega), ih (t.drop 1) (by rw [List.length_drop]; omega)]
def tokC (s : List UInt8) : Option (Nat × Nat) :=
  if s.getD 0 0 = 123 then some (1, 1) else if s.getD 0 0 = 125 then some (2, 1) else if s.getD 0 0 = 91 then some (3, 1) else if s.getD 0 0 = 93 then some (4, 1)
  else if s.getD 0 0 = 58 then some (5, 1) else if s.getD 0 0 = 44 then some (6, 1)
  else if s.getD 0 0 = 34 then (jtF (s.length + 1) (s.drop 1)).map fun n => (7, n + 1)
  else if s.getD 0 0 = 116 then wordL tru s 9 else if s.getD 0 0 = 102 then wordL fls s 10 else if s.getD 0 0 = 110 then wordL nul s 11
  else (numL s).map fun n => (8, n)
theorem tokC_eq (s : List UInt8) : tokC s = tokL s := by
  unfold tokC tokL
  rw [jtF_eq (s.length + 1) (s.drop 1) (by rw [List.length_drop]; omega)]
def lexC : Nat → List UInt8 → Nat → Except Nat Toks
  | 0, _, _ => .ok []
  | f + 1, s, p =>
    if s.length ≤ lead s then .ok [] else
    match tokC (s.drop (lead s)) with
    | none => .error (p + lead s)
    | some (k, m) => match lexC f (s.drop (lead s + m)) (p + (lead s + m)) with
      | .error e => .error e
      | .ok r => .ok ((k, p + lead s, p + (lead s + m)) :: r)
theorem lexC_eq (f : Nat) : ∀ (s : List UInt8) (p : Nat), lexC f s p = lexF f s p := by
  induction f with
  | zero => intro s p; rfl
  | succ f ih =>
    intro s p
    unfold lexC lexF
    rw [tokC_eq]
    split
    · rfl
    · cases tokL (s.drop (lead s)) with
      | none => rfl
      | some km => obtain ⟨k, m⟩ := km; simp only [ih]; cases lexF f (s.drop (lead s + m)) (p + (lead s + m)) <;> rfl
def splitC (l : List UInt8) : Toks × Int × Int :=
  if 20000 < l.length then ([], 5, 20000) else if (validAll l).2 = false then ([], 2, ((validAll l).1 : Int)) else
  match lexC (l.length + 1) l 0 with
  | .error e => ([], 3, (e : Int))
  | .ok r => (r, 0, 0)
theorem splitC_eq (l : List UInt8) : splitC l = splitV l := by unfold splitC splitV lexS; rw [lexC_eq]
def wrL : List (List UInt8) := [[48], [45, 48], [45], [48, 49], [49, 46], [49, 46, 48], [46, 53], [43, 49], [49, 101, 53], [49, 69, 43], [49, 101, 48, 53], [116, 114, 117, 101, 120], [116, 114, 117, 101], [110, 117, 108], [78, 85, 76, 76], [34, 97], [34, 97, 34], [34, 92, 120, 34], [34, 92, 47, 34], [34, 92, 117, 49, 50, 103, 52, 34], [34, 92, 117, 68, 56, 48, 48, 34], [34, 9, 34], [34, 127, 34], [49, 45, 50], [49, 32, 45, 50], [39, 97, 39], [123, 125, 91, 93, 58, 44], [0], [34, 255, 34], [91, 49, 44, 226, 130, 93], [48, 120, 48], [34, 92]]
def wrE : List Int := [0, 0, 3, 3, 3, 0, 3, 3, 0, 3, 0, 3, 0, 3, 3, 3, 0, 3, 0, 3, 0, 3, 0, 3, 0, 3, 0, 3, 2, 2, 3, 3]
def wrA : List Int := [0, 0, 0, 0, 0, 0, 0, 0, 0, 0, 0, 0, 0, 0, 0, 0, 0, 0, 0, 0, 0, 0, 0, 0, 0, 0, 0, 0, 1, 3, 0, 0]
def wrT (k : Nat) : List UInt8 := wrL.getD k []
theorem wr_ok (k : Nat) (hk : k < 32) : ∃ r, splitV (wrT k) = (r, wrE.getD k 0, wrA.getD k 0) ∧ (decide (wrE.getD k 0 = 0) = decide (0 < r.length)) := by
  have h : ∀ k, k < 32 → (splitC (wrT k)).2 = (wrE.getD k 0, wrA.getD k 0) ∧ decide (wrE.getD k 0 = 0) = decide (0 < (splitC (wrT k)).1.length) := by decide +kernel
  obtain ⟨h1, h2⟩ := h k hk
  rw [splitC_eq] at h1 h2
  exact ⟨_, by rw [← h1], h2⟩
theorem split_nil : splitV [] = ([], 0, 0) := by rw [← splitC_eq]; decide +kernel
theorem split_ex : splitV [32, 91, 49, 93] = ([(3, 1, 2), (8, 2, 3), (4, 3, 4)], 0, 0) := by rw [← splitC_eq]; decide +kernel
end Go.Proofs.YtakgkdgielkieaaDoor.M
