/- What a text of mappings tells: no more segments than letters, and one (plain lists). -/
import Derived.Test.YtpfbhdkljcjhlaaDoorSGMath2
namespace Go.Proofs.YtpfbhdkljcjhlaaDoor.M
open Go.Proofs.YtpfbhdkljcjhlaaDoor
set_option linter.unusedVariables false
set_option linter.unusedSimpArgs false

/-- The letters of parts, and one each. -/
def wS (l : List (List UInt8)) : Nat := (l.map fun p => p.length + 1).sum
theorem wS_drop (l : List (List UInt8)) (i : Nat) (hi : i < l.length) : wS (l.drop i) = (l[i].length + 1) + wS (l.drop (i + 1)) := by
  rw [List.drop_eq_getElem_cons hi]
  unfold wS
  rw [List.map_cons, List.sum_cons]
theorem wS_splitK (c : UInt8) : ∀ (k : Nat) (s : List UInt8), wS (Go.Lib.splitK [c] 0 k s) ≤ s.length + 1
  | 0, s => by simp [Go.Lib.splitK, wS]
  | k + 1, s => by
    unfold Go.Lib.splitK
    split
    · simp [wS]
    · rename_i h
      have ih := wS_splitK c k (s.drop ((Go.Lib.index s [c]).toNat + 1))
      have hd : (s.take ((Go.Lib.index s [c]).toNat)).length = min (Go.Lib.index s [c]).toNat s.length := List.length_take
      have hb : (Go.Lib.index s [c]).toNat + 1 ≤ s.length := by
        rcases Go.Lib.index_spec s [c] with ⟨e, _⟩ | ⟨i, e, hi, ho, _⟩
        · rw [e] at h; simp at h
        · rcases Go.Lib.occAt_room ho with h2 | h2
          · simp at h2; rw [e]; simpa using h2
          · simp at h2
      unfold wS at ih ⊢
      rw [List.map_cons, List.sum_cons]
      rw [List.length_drop] at ih
      have : (s.take ((Go.Lib.index s [c]).toNat + 0)).length = (Go.Lib.index s [c]).toNat := by rw [Nat.add_zero, List.length_take]; omega
      rw [this]
      have e : ([c] : List UInt8).length = 1 := rfl
      rw [e]
      omega
theorem wS_cut (c : UInt8) (t : List UInt8) : wS (cut c t) ≤ t.length + 1 := wS_splitK c _ t
theorem mapsG_len (fst : Bool) (last : S4) (l : List S4) (a : List UInt8) (h : mapsG fst last l = some a) (h1 : last.1 ≤ 100000) (hf : fst = true → last.1 = 0) : (a.length : Int) ≤ (100000 - last.1) + 37 * l.length := by
  induction l generalizing fst last a with
  | nil => simp [mapsG] at h; subst h; simp; omega
  | cons x r ih =>
    unfold mapsG at h
    split at h
    · rename_i hg
      cases hm : mapsG false x r with
      | none => rw [hm] at h; simp at h
      | some b =>
        rw [hm] at h
        simp only [Option.map_some, Option.some.injEq] at h
        subst h
        have hx : last.1 ≤ x.1 ∧ x.1 ≤ 100000 := by
          unfold goodS at hg
          rw [Bool.and_eq_true, okS_iff, Bool.or_eq_true, befS_iff] at hg
          obtain ⟨hg1, hg2⟩ := hg
          refine ⟨?_, hg1.2.1⟩
          rcases hg2 with h | h
          · have := hf h; omega
          · omega
        have := ih false x b hm hx.2 (by simp)
        have h2 := chunk_len fst last x hx.1
        rw [List.length_append, List.length_cons]
        omega
    · simp at h
theorem maps_len (l : List S4) (a : List UInt8) (h : maps l = some a) : a.length ≤ 100000 + 37 * l.length := by
  have := mapsG_len true (0, 0, 0, 0) l a h (by simp) (by simp)
  simp at this
  omega
end Go.Proofs.YtpfbhdkljcjhlaaDoor.M
