/- Numbers: the reference's ReadNum. -/
import Derived.Test.YtfclkackfamdlaaGreatDoorNRRun
import Derived.Test.YtfclkackfamdlaaGreatDoorNPlain
import Derived.Test.YtfclkackfamdlaaGreatDoorDRAdd
import Derived.Deep.DeepCutAuto
namespace Go.Proofs.YtfclkackfamdlaaGreatDoor
open Go.RowKit
set_option linter.unusedVariables false
set_option linter.unusedSimpArgs false

/-- Two rows of three cells, the second one with a sign. -/
def Two (w : World) (ng : Bool) (W : World) : Prop :=
  Box w.heap.size (.bool false) (.string ⟨#[]⟩) (.string ⟨#[]⟩) W ∧ Box (w.heap.size + 1) (.bool ng) (.string ⟨#[]⟩) (.string ⟨#[]⟩) W ∧
  (W.frozen? ⟨w.heap.size, 0, none⟩ = false ∧ W.frozen? ⟨w.heap.size, 1, none⟩ = false ∧ W.frozen? ⟨w.heap.size, 2, none⟩ = false) ∧
  (W.frozen? ⟨w.heap.size + 1, 0, none⟩ = false ∧ W.frozen? ⟨w.heap.size + 1, 1, none⟩ = false ∧ W.frozen? ⟨w.heap.size + 1, 2, none⟩ = false) ∧ W.heap.size = w.heap.size + 2 ∧ Below w.heap.size w W
theorem cat_big (a b c : List UInt8) (h : a ++ b = c) (ha : a.length ≤ 4000000) (hb : b.length ≤ 4000000) : ∀ W : World, (Op.stringOp .add (bytes a) (bytes b)).run Tryz.prog W = .ok (.string (bytes c)) W := by
  intro W
  rw [run_string_add W _ _ (by rw [bytes_size]; omega) (by rw [bytes_size]; omega), ← h]
  apply congrArg (fun x => Result.ok (Value.string x) W)
  apply ByteArray.ext; simp [bytes]
theorem dec_split (v : Nat) : ∃ (P : List UInt8) (k : Nat), M.decS v = P ++ List.replicate k 48 ∧ (P = [] ∨ P.getLast? ≠ some 48) ∧ ∀ e : Int, M.nz v e = if P = [] then ([], []) else (P, M.txt (e + k)) := by
  by_cases h : v = 0
  · subst h
    exact ⟨[], 1, by decide, .inl rfl, fun e => by rw [M.nz_zero, if_pos rfl]⟩
  · obtain ⟨m, k, hm, rfl⟩ := M.core_ex v h
    have hm0 : m ≠ 0 := by intro h0; subst h0; exact hm rfl
    refine ⟨M.canon m, k, ?_, .inr (M.canon_last m hm), fun e => ?_⟩
    · unfold M.decS; rw [if_neg h, M.canon_zeros m k hm0]
    · rw [M.nz_pow, M.nz_core _ _ hm, if_neg (M.canon_ne m hm0)]
theorem sign_ways (l : List UInt8) (ng : Bool) (r : List UInt8) (h : M.csign l = (ng, r)) : ∃ i, i ≤ 1 ∧ i ≤ l.length ∧ r = l.drop i ∧
    ((i = 0 ∧ ng = false ∧ l = []) ∨ (i = 0 ∧ ng = false ∧ ∃ c t, l = c :: t ∧ ((c.toNat : Int) == 43) = false ∧ ((c.toNat : Int) == 45) = false) ∨ (i = 1 ∧ ng = false ∧ ∃ t, l = 43 :: t) ∨ (i = 1 ∧ ng = true ∧ ∃ t, l = 45 :: t)) := by
  have key : ∀ (a : Bool) (x : List UInt8), M.csign l = (a, x) → ng = a ∧ r = x := fun a x e => by
    rw [h] at e; simp only [Prod.mk.injEq] at e; exact e
  cases l with
  | nil =>
    obtain ⟨rfl, rfl⟩ := key false [] rfl
    exact ⟨0, by omega, by omega, rfl, .inl ⟨rfl, rfl, rfl⟩⟩
  | cons c t =>
    by_cases h1 : c = 43
    · subst h1
      obtain ⟨rfl, rfl⟩ := key false t (M.csign_plus t)
      exact ⟨1, by omega, by simp, rfl, .inr (.inr (.inl ⟨rfl, rfl, _, rfl⟩))⟩
    · by_cases h2 : c = 45
      · subst h2
        obtain ⟨rfl, rfl⟩ := key true t (M.csign_minus t)
        exact ⟨1, by omega, by simp, rfl, .inr (.inr (.inr ⟨rfl, rfl, _, rfl⟩))⟩
      · obtain ⟨rfl, rfl⟩ := key false (c :: t) (by unfold M.csign M.isNeg M.unsign; simp [h1, h2])
        refine ⟨0, by omega, by omega, rfl, .inr (.inl ⟨rfl, rfl, c, t, rfl, ?_, ?_⟩)⟩
        · rw [beq_eq_false_iff_ne]; intro e; exact h1 (UInt8.toNat_inj.1 (by show c.toNat = 43; omega))
        · rw [beq_eq_false_iff_ne]; intro e; exact h2 (UInt8.toNat_inj.1 (by show c.toNat = 45; omega))
theorem two_new (w : World) : Two w false ((w.alloc (.cells #[.bool false, .string ⟨#[]⟩, .string ⟨#[]⟩] 24)).alloc (.cells #[.bool false, .string ⟨#[]⟩, .string ⟨#[]⟩] 24)) := by
  obtain ⟨W, hW⟩ : ∃ W, w.alloc (.cells #[.bool false, .string ⟨#[]⟩, .string ⟨#[]⟩] 24) = W := ⟨_, rfl⟩
  have z : W.heap.size = w.heap.size + 1 := by rw [← hW]; simp
  have d : Below w.heap.size w W := by rw [← hW]; exact (Below.refl _ _).alloc (Nat.le_refl _) _
  have c : Box w.heap.size (.bool false) (.string ⟨#[]⟩) (.string ⟨#[]⟩) W := by
    rw [← hW]; exact ⟨by rw [World.cell?_alloc_at _ _ _ _ rfl]; rfl, by rw [World.cell?_alloc_at _ _ _ _ rfl]; rfl, by rw [World.cell?_alloc_at _ _ _ _ rfl]; rfl⟩
  have f : ∀ k, W.frozen? ⟨w.heap.size, k, none⟩ = false := fun k => by rw [← hW]; exact World.frozen?_alloc_at _ _ _ _ rfl
  rw [hW]
  have d2 : Below W.heap.size W (W.alloc (.cells #[.bool false, .string ⟨#[]⟩, .string ⟨#[]⟩] 24)) := (Below.refl _ _).alloc (Nat.le_refl _) _
  have hf2 := (bcell d2).2
  refine ⟨box_keep c d2 (by omega), ?_, ⟨?_, ?_, ?_⟩, ⟨?_, ?_, ?_⟩, by simp [z], d.trans (d2.mono (by omega))⟩
  · rw [← z]; exact ⟨by rw [World.cell?_alloc_at _ _ _ _ rfl]; rfl, by rw [World.cell?_alloc_at _ _ _ _ rfl]; rfl, by rw [World.cell?_alloc_at _ _ _ _ rfl]; rfl⟩
  · rw [hf2 _ _ (by omega)]; exact f 0
  · rw [hf2 _ _ (by omega)]; exact f 1
  · rw [hf2 _ _ (by omega)]; exact f 2
  · exact World.frozen?_alloc_at _ _ _ _ z.symm
  · exact World.frozen?_alloc_at _ _ _ _ z.symm
  · exact World.frozen?_alloc_at _ _ _ _ z.symm
theorem two_set {w W : World} (ng : Bool) (h : Two w false W) : Two w ng (W.setCell ⟨w.heap.size + 1, 0, none⟩ (.bool ng)) := by
  obtain ⟨⟨a0, a1, a2⟩, ⟨b0, b1, b2⟩, ⟨f0, f1, f2⟩, ⟨e0, e1, e2⟩, hz, hb⟩ := h
  have o : ∀ (n k : Nat), ¬ (n = w.heap.size + 1 ∧ k = 0) → (W.setCell ⟨w.heap.size + 1, 0, none⟩ (.bool ng)).cell? ⟨n, k, none⟩ = W.cell? ⟨n, k, none⟩ := fun n k h => World.cell?_setCell_other _ _ _ _ (by intro e; simp only [Addr.mk.injEq, and_true] at e; exact h ⟨e.1.symm, e.2.symm⟩)
  refine ⟨⟨?_, ?_, ?_⟩, ⟨?_, ?_, ?_⟩, ?_, ?_, ?_, hb.setCell (by simp) _⟩
  · rw [o _ _ (by omega)]; exact a0
  · rw [o _ _ (by omega)]; exact a1
  · rw [o _ _ (by omega)]; exact a2
  · rw [World.cell?_setCell_same' _ _ _ (by rw [b0]; rfl)]
  · rw [o _ _ (by omega)]; exact b1
  · rw [o _ _ (by omega)]; exact b2
  · simp only [World.frozen?_setCell]; exact ⟨f0, f1, f2⟩
  · simp only [World.frozen?_setCell]; exact ⟨e0, e1, e2⟩
  · simp [World.setCell, hz]
end Go.Proofs.YtfclkackfamdlaaGreatDoor
