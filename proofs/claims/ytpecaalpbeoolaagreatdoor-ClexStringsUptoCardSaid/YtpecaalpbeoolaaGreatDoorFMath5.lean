/- Plain numbers and lists: a comment ahead of any bytes. Nothing of the program is imported. -/
import Derived.Test.YtpecaalpbeoolaaGreatDoorMgD
import Derived.Test.YtpecaalpbeoolaaGreatDoorCMath3
namespace Go.Proofs.YtpecaalpbeoolaaGreatDoor.M
open Go.Lib
set_option linter.unusedVariables false
set_option linter.unusedSimpArgs false

def asI (s : List UInt8) : List Int := s.map fun x => (x.toNat : Int)
/-- Plain letters: ASCII, no byte that is turned. -/
def Pl (x : UInt8) : Prop := x.toNat < 128 ∧ x ≠ 0 ∧ x ≠ 12 ∧ x ≠ 13
theorem asI_append (a b : List UInt8) : asI (a ++ b) = asI a ++ asI b := by simp [asI]
theorem encZs_asI (s : List UInt8) (h : ∀ x ∈ s, x.toNat < 128) : encZs (asI s) = s := by
  induction s with
  | nil => rfl
  | cons a t ih =>
    have e : asI (a :: t) = (a.toNat : Int) :: asI t := rfl
    rw [e, encZs_cons, enc_byte a (h a (by simp)), ih (fun x hx => h x (by simp [hx]))]
    rfl
theorem pl_okr (x : UInt8) (h : Pl x) : Okr (x.toNat : Int) := by
  obtain ⟨h1, h2, h3, h4⟩ := h
  have e0 : x.toNat ≠ 0 := fun e => h2 (by rw [← u8_of x 0 e]; rfl)
  have e1 : x.toNat ≠ 12 := fun e => h3 (by rw [← u8_of x 12 e]; rfl)
  have e2 : x.toNat ≠ 13 := fun e => h4 (by rw [← u8_of x 13 e]; rfl)
  exact ⟨by rw [isCP_iff]; omega, by omega, by omega, by omega⟩
theorem rn_plain (s : List UInt8) (h : ∀ x ∈ s, Pl x) : (rn s 0).map Prod.fst = asI s := by
  have := rn_enc ((asI s).map fun r => (r, 0)) (by
    intro r hr
    simp only [List.mem_map, asI] at hr
    obtain ⟨_, ⟨x, hx, rfl⟩, rfl⟩ := hr
    exact pl_okr x (h x hx)) []
  have e : encR ((asI s).map fun r => (r, 0)) = encZs (asI s) := by unfold encR encZs; rw [List.flatMap_map]
  rw [e, encZs_asI s (fun x hx => (h x hx).1), List.map_map] at this
  have e2 : (asI s).map (Prod.fst ∘ fun r => (r, (0 : Int))) = asI s := by simp [Function.comp_def]
  rw [e2] at this
  simpa using this
theorem plain_valid (s : List UInt8) (h : ∀ x ∈ s, Pl x) : (validAll s).2 = true := by
  have := encR_valid ((asI s).map fun r => (r, 0)) (by
    intro r hr
    simp only [List.mem_map, asI] at hr
    obtain ⟨_, ⟨x, hx, rfl⟩, rfl⟩ := hr
    exact pl_okr x (h x hx))
  have e : encR ((asI s).map fun r => (r, 0)) = encZs (asI s) := by unfold encR encZs; rw [List.flatMap_map]
  rw [e, encZs_asI s (fun x hx => (h x hx).1)] at this
  rw [this]
theorem rn_plain_join (a b : List UInt8) (h : ∀ x ∈ a, Pl x) : rn (a ++ b) 0 = rn a 0 ++ (rn b 0).map (sh a.length) := by
  have := rn_join a b a.length 0 (by omega) (by omega) (by rw [List.drop_zero]; exact plain_valid a h) (by
    intro h0
    have : a.getD (a.length - 1) 0 ∈ a := by
      have e : a.getD (a.length - 1) 0 = a[a.length - 1] := by simp [List.getD, show a.length - 1 < a.length by omega]
      rw [e]; exact List.getElem_mem _
    exact (h _ this).2.2.2)
  simpa using this
theorem tks_sh (n : Nat) (m : Nat) (l : List (Int × Int)) (hm : l.length ≤ m) : tksC (l.map (sh n)) = (tksC l).map fun x => (x.1, x.2 + (n : Int)) := by
  induction m generalizing l with
  | zero => obtain rfl := List.length_eq_zero_iff.1 (Nat.le_zero.1 hm); simp [lexC_nil]
  | succ m ih =>
    cases l with
    | nil => simp [lexC_nil]
    | cons a t =>
      have e : ((a :: t).map (sh n)).map Prod.fst = (a :: t).map Prod.fst := by simp [sh, Function.comp_def]
      have e2 : (a :: t).map (sh n) = sh n a :: t.map (sh n) := rfl
      rw [e2] at e ⊢
      rw [tksC, tksC, e, List.map_cons, ← List.map_drop, ih _ (by simp at hm ⊢; omega)]
      rfl
theorem cmT_plain (s : List Int) (h : ∀ x ∈ s, x ≠ 42) (t : List Int) : cmT (s ++ 42 :: 47 :: t) = (s, s.length + 2) := by
  induction s with
  | nil => simp [cmT]
  | cons a s ih =>
    have ha := h a (by simp)
    rw [List.cons_append, cmT, if_neg (fun e => ha e.1), ih (fun x hx => h x (by simp [hx]))]
    simp; omega
/-- A comment ahead of any bytes is one token; the others are those of the bytes, further on. -/
theorem comment_tks (s b : List UInt8) (h : ∀ x ∈ s, Pl x ∧ x ≠ 42) :
    tksC (rn (([47, 42] ++ s ++ [42, 47]) ++ b) 0) = ({ kind := 25, text := s }, 0) :: (tksC (rn b 0)).map fun x => (x.1, x.2 + ((s.length + 4 : Nat) : Int)) := by
  have hA : ∀ x ∈ [47, 42] ++ s ++ [42, 47], Pl x := by
    intro x hx
    simp only [List.mem_append, List.mem_cons, List.mem_nil_iff, or_false] at hx
    rcases hx with ((rfl | rfl) | hx) | rfl | rfl
    · exact ⟨by decide, by decide, by decide, by decide⟩
    · exact ⟨by decide, by decide, by decide, by decide⟩
    · exact (h x hx).1
    · exact ⟨by decide, by decide, by decide, by decide⟩
    · exact ⟨by decide, by decide, by decide, by decide⟩
  have hlen : ([47, 42] ++ s ++ [42, 47] : List UInt8).length = s.length + 4 := by simp
  have hj := rn_plain_join ([47, 42] ++ s ++ [42, 47]) b hA
  have hp := rn_plain _ hA
  have hrl : (rn ([47, 42] ++ s ++ [42, 47]) 0).length = s.length + 4 := by
    have := congrArg List.length hp
    rw [List.length_map] at this
    rw [this]; simp [asI]
  rw [hlen] at hj
  obtain ⟨R, hR⟩ : ∃ R, rn ([47, 42] ++ s ++ [42, 47]) 0 = R := ⟨_, rfl⟩
  rw [hR] at hj hp hrl
  obtain ⟨L, hL⟩ : ∃ L, rn (([47, 42] ++ s ++ [42, 47]) ++ b) 0 = L := ⟨_, rfl⟩
  rw [hL] at hj ⊢
  have hLl : 0 < L.length := by rw [hj, List.length_append, hrl]; omega
  have hc : L.map Prod.fst = 47 :: 42 :: (asI s ++ 42 :: 47 :: ((rn b 0).map (sh (s.length + 4))).map Prod.fst) := by
    rw [hj, List.map_append, hp]
    simp [asI]
  have h0 : (L[0]'hLl).2 = 0 := by
    have e : L = rn (([47, 42] ++ s ++ [42, 47]) ++ b) 0 := hL.symm
    have e2 := rn_in (([47, 42] ++ s ++ [42, 47]) ++ b) 0 (by simp)
    rw [← e] at e2
    have hg : ∀ (T : List (Int × Int)) x T' (hT : T = x :: T') (h0 : 0 < T.length), T[0] = x := by rintro T x T' rfl h0; rfl
    rw [hg L _ _ e2 hLl]
    rfl
  have hi := lexC_in L 0 hLl
  rw [List.drop_zero, List.drop_zero, h0, Nat.zero_add] at hi
  have ht : tkC (L.map Prod.fst) = ({ kind := 25, text := s }, s.length + 4) := by
    have hw : wayT (L.map Prod.fst) = 1 := by
      unfold wayT
      rw [if_pos (by rw [hc]; exact (stC_iff _ _).2 ⟨_, rfl⟩)]
    unfold tkC
    rw [hw, hc]
    simp only [tokW, if_true, List.drop_succ_cons, List.drop_zero]
    rw [cmT_plain (asI s) (by
      intro x hx
      simp only [asI, List.mem_map] at hx
      obtain ⟨y, hy, rfl⟩ := hx
      intro e
      apply (h y hy).2
      rw [← u8_of y 42 (by omega)]; rfl)]
    rw [encZs_asI s (fun x hx => (h x hx).1.1)]
    simp [asI]
    omega
  rw [ht] at hi
  rw [hi]
  congr 1
  have hd : L.drop (s.length + 4) = (rn b 0).map (sh (s.length + 4)) := by
    rw [hj]; exact List.drop_left' hrl
  show tksC (L.drop (s.length + 4)) = _
  rw [hd, tks_sh _ _ _ (Nat.le_refl _)]
theorem lex_from (L : List (Int × Int)) (n : Nat) : ∀ (l : List (Int × Int)), l.length ≤ n → (∀ r ∈ l, r ∈ L) → ∀ x ∈ tksC l, ∃ r ∈ L, x.2 = r.2 := by
  induction n with
  | zero => intro l hl h x hx; obtain rfl := List.length_eq_zero_iff.1 (Nat.le_zero.1 hl); rw [lexC_nil] at hx; simp at hx
  | succ n ih =>
    intro l hl h x hx
    cases l with
    | nil => rw [lexC_nil] at hx; simp at hx
    | cons a t =>
      rw [tksC] at hx
      rcases List.mem_cons.1 hx with rfl | hx
      · exact ⟨a, h a (by simp), rfl⟩
      · exact ih _ (by simp at hl ⊢; omega) (fun r hr => h r (List.mem_cons_of_mem _ (List.mem_of_mem_drop hr))) x hx
theorem lex_pos (l : List UInt8) : ∀ x ∈ tksC (rn l 0), 0 ≤ x.2 ∧ x.2 < l.length := by
  intro x hx
  obtain ⟨r, hr, e⟩ := lex_from (rn l 0) _ (rn l 0) (Nat.le_refl _) (fun r hr => hr) x hx
  obtain ⟨k, hk, e2⟩ := List.getElem_of_mem hr
  have := rn_at l l.length 0 (by omega) k hk
  rw [e2] at this
  omega
end Go.Proofs.YtpecaalpbeoolaaGreatDoor.M
