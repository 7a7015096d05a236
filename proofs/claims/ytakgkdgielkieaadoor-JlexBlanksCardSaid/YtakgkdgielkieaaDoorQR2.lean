/- Tokens of JSON as the reference reads them: jnumber. -/
import Derived.Test.YtakgkdgielkieaaDoorQR
import Derived.Test.YtakgkdgielkieaaDoorQJ3
namespace Go.Proofs.YtakgkdgielkieaaDoor
open Go.RowKit
set_option linter.unusedVariables false
set_option linter.unusedSimpArgs false

def st4 (l : List UInt8) (c : Nat) : Int := if M.goB (l.getD c 0) = true then -1 else (c : Int)
def st3 (l : List UInt8) (b : Nat) : Int := st4 l (b + M.expo (l.drop b))
def st2 (l : List UInt8) (a : Nat) : Int := st3 l (a + M.frac (l.drop a))
/-- Where a number ends; below nought: none begins there. -/
def numZ (l : List UInt8) (q : Nat) : Int := if M.dgB (l.getD q 0) = true then st2 l (q + M.whole (l.drop q)) else -1
def jnI (o : Option Nat) (i : Nat) : Int := match o with | none => -1 | some m => ((i + m : Nat) : Int)
theorem numZ_eq (l : List UInt8) (i : Nat) : jnI (M.numL (l.drop i)) i = numZ l (i + M.neg (l.drop i)) := by
  have h := numT_eq l i
  unfold numT at h
  unfold numZ st2 st3 st4
  simp only at h
  by_cases hd : M.dgB (l.getD (i + M.neg (l.drop i)) 0) = true
  · rw [if_pos hd] at h ⊢
    split at h
    · rename_i hg
      rw [if_pos hg]
      cases hn : M.numL (l.drop i) with
      | none => rfl
      | some m => rw [hn] at h; simp [tokI] at h
    · rename_i hg
      rw [if_neg hg]
      cases hn : M.numL (l.drop i) with
      | none => rw [hn] at h; simp [tokI] at h
      | some m => rw [hn] at h; simp only [Option.map_some, tokI, Prod.mk.injEq] at h; exact h.2
  · rw [if_neg hd] at h ⊢
    cases hn : M.numL (l.drop i) with
    | none => rfl
    | some m => rw [hn] at h; simp [tokI] at h
theorem st4_of (l : List UInt8) (c : Nat) : (M.goB (l.getD c 0) = true → st4 l c = -1) ∧ (M.goB (l.getD c 0) = false → st4 l c = c) := by
  unfold st4
  constructor
  · intro h; rw [if_pos h]
  · intro h; rw [if_neg (by rw [h]; simp)]
theorem num_no (l : List UInt8) (q : Nat) (h : M.dgB (l.getD q 0) = false) : numZ l q = -1 ∧ q + M.run (l.drop q) = q := by
  refine ⟨by unfold numZ; rw [if_neg (by rw [h]; simp)], (run_at l q).2 h⟩
theorem st_stop (l : List UInt8) (a : Nat) (h46 : l.getD a 0 ≠ 46) (he : l.getD a 0 ≠ 101) (hE : l.getD a 0 ≠ 69) (hg : M.goB (l.getD a 0) = true) : st2 l a = -1 := by
  have hf : M.frac (l.drop a) = 0 := by unfold M.frac; rw [M.drop_getD, Nat.add_zero, if_neg (fun hh => h46 hh.1)]
  have hx : M.expo (l.drop a) = 0 := by unfold M.expo; rw [M.drop_getD, Nat.add_zero, if_neg (by rintro (h | h); exact he h; exact hE h)]
  unfold st2 st3
  rw [hf, Nat.add_zero, hx, Nat.add_zero]
  exact (st4_of l a).1 hg
/-- Digits, and more than one behind a nought. -/
theorem num_nought (l : List UInt8) (q k : Nat) (h0 : l.getD q 0 = 48) (hk : q + M.run (l.drop q) = k) (h : q + 1 < k) : numZ l q = -1 := by
  have hd : M.dgB (l.getD q 0) = true := by rw [h0]; decide
  have hw : M.whole (l.drop q) = 1 := by unfold M.whole; rw [M.drop_getD, Nat.add_zero, if_pos h0]
  unfold numZ
  rw [if_pos hd, hw]
  have hd1 : M.dgB (l.getD (q + 1) 0) = true := by
    have := ((M.run_iff (l.drop q) _).1 rfl).1 1 (by omega)
    rwa [M.drop_getD] at this
  have hb := (dg_iff _).1 hd1
  refine st_stop l (q + 1) ?_ ?_ ?_ (by unfold M.goB; rw [hd1]; rfl)
  · intro e; rw [e] at hb; exact absurd hb (by decide)
  · intro e; rw [e] at hb; exact absurd hb (by decide)
  · intro e; rw [e] at hb; exact absurd hb (by decide)
theorem num_go (l : List UInt8) (q k : Nat) (hd : M.dgB (l.getD q 0) = true) (hk : q + M.run (l.drop q) = k) (h : l.getD q 0 ≠ 48 ∨ k ≤ q + 1) : numZ l q = st2 l k := by
  unfold numZ
  rw [if_pos hd]
  have hd0 : M.dgB ((l.drop q).getD 0 0) = true := by rw [M.drop_getD, Nat.add_zero]; exact hd
  have hp := M.run_pos _ hd0
  have : q + M.whole (l.drop q) = k := by
    unfold M.whole
    rw [M.drop_getD, Nat.add_zero]
    split
    · rename_i h48
      rcases h with h | h
      · exact absurd h48 h
      · omega
    · exact hk
  rw [this]
theorem st2_no (l : List UInt8) (k : Nat) (h : l.getD k 0 ≠ 46) : st2 l k = st3 l k := by
  unfold st2
  have hf : M.frac (l.drop k) = 0 := by unfold M.frac; rw [M.drop_getD, Nat.add_zero, if_neg (fun hh => h hh.1)]
  rw [hf, Nat.add_zero]
theorem st2_bad (l : List UInt8) (k j : Nat) (h : l.getD k 0 = 46) (hj : k + 1 + M.run (l.drop (k + 1)) = j) (he : j = k + 1) : st2 l k = -1 := by
  have hr : M.run (l.drop (k + 1)) = 0 := by omega
  have hd : M.dgB (l.getD (k + 1) 0) = false := by
    have := ((M.run_iff (l.drop (k + 1)) 0).1 hr).2
    rwa [M.drop_getD] at this
  have hf : M.frac (l.drop k) = 0 := by unfold M.frac; rw [M.drop_getD, M.drop_getD, if_neg (fun hh => by rw [hd] at hh; exact absurd hh.2 (by simp))]
  have hx : M.expo (l.drop k) = 0 := by unfold M.expo; rw [M.drop_getD, Nat.add_zero, h, if_neg (by decide)]
  unfold st2 st3
  rw [hf, Nat.add_zero, hx, Nat.add_zero]
  exact (st4_of l k).1 (by rw [h]; decide)
theorem st2_go (l : List UInt8) (k j : Nat) (h : l.getD k 0 = 46) (hj : k + 1 + M.run (l.drop (k + 1)) = j) (he : j ≠ k + 1) : st2 l k = st3 l j := by
  have hd : M.dgB (l.getD (k + 1) 0) = true := by
    cases hx : M.dgB (l.getD (k + 1) 0) with
    | true => rfl
    | false => have := (run_at l (k + 1)).2 hx; omega
  have hf : M.frac (l.drop k) = 1 + M.run (l.drop (k + 1)) := by unfold M.frac; rw [M.drop_getD, M.drop_getD, Nat.add_zero, if_pos ⟨h, hd⟩, List.drop_drop]
  unfold st2
  rw [hf, show k + (1 + M.run (l.drop (k + 1))) = j by omega]
theorem st3_no (l : List UInt8) (k : Nat) (h : l.getD k 0 ≠ 101) (h2 : l.getD k 0 ≠ 69) : st3 l k = st4 l k := by
  have hx : M.expo (l.drop k) = 0 := by unfold M.expo; rw [M.drop_getD, Nat.add_zero, if_neg (by rintro (e | e); exact h e; exact h2 e)]
  unfold st3
  rw [hx, Nat.add_zero]
/-- Where the digits behind e would begin. -/
def expQ (l : List UInt8) (k : Nat) : Nat := if l.getD (k + 1) 0 = 43 ∨ l.getD (k + 1) 0 = 45 then k + 1 + 1 else k + 1
theorem st3_bad (l : List UInt8) (k j : Nat) (h : l.getD k 0 = 101 ∨ l.getD k 0 = 69) (hj : expQ l k + M.run (l.drop (expQ l k)) = j) (he : j = expQ l k) : st3 l k = -1 := by
  have hr : M.run (l.drop (expQ l k)) = 0 := by omega
  have hd : M.dgB (l.getD (expQ l k) 0) = false := by
    have := ((M.run_iff (l.drop (expQ l k)) 0).1 hr).2
    rwa [M.drop_getD] at this
  have hq : k + M.sgn (l.drop k) = expQ l k := by unfold M.sgn expQ; rw [M.drop_getD]; split <;> omega
  have hx : M.expo (l.drop k) = 0 := by unfold M.expo; rw [M.drop_getD, Nat.add_zero, if_pos h, M.drop_getD, hq, if_neg (by rw [hd]; simp)]
  unfold st3
  rw [hx, Nat.add_zero]
  exact (st4_of l k).1 (by rcases h with e | e <;> (rw [e]; decide))
theorem st3_go (l : List UInt8) (k j : Nat) (h : l.getD k 0 = 101 ∨ l.getD k 0 = 69) (hj : expQ l k + M.run (l.drop (expQ l k)) = j) (he : j ≠ expQ l k) : st3 l k = st4 l j := by
  have hd : M.dgB (l.getD (expQ l k) 0) = true := by
    cases hx : M.dgB (l.getD (expQ l k) 0) with
    | true => rfl
    | false => have := (run_at l (expQ l k)).2 hx; omega
  have hq : k + M.sgn (l.drop k) = expQ l k := by unfold M.sgn expQ; rw [M.drop_getD]; split <;> omega
  unfold st3 M.expo
  rw [M.drop_getD, Nat.add_zero, if_pos h, M.drop_getD, hq, if_pos hd, List.drop_drop, hq, show k + (M.sgn (l.drop k) + M.run (l.drop (expQ l k))) = j by omega]
end Go.Proofs.YtakgkdgielkieaaDoor
