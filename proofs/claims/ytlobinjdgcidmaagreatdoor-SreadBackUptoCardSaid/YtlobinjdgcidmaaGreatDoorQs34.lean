/- Texts of ours in one: SUnits DecInv RdNm SGMath2 SGBk SWrite. -/
import Derived.Test.YtlobinjdgcidmaaGreatDoorQs33
import Derived.Test.YtlobinjdgcidmaaGreatDoorQs10
import Derived.Test.YtlobinjdgcidmaaGreatDoorQs00
import Derived.Test.YtlobinjdgcidmaaGreatDoorQs04
import Derived.Test.YtlobinjdgcidmaaGreatDoorQs02
import Derived.Test.YtlobinjdgcidmaaGreatDoorQs11
import Derived.Test.YtlobinjdgcidmaaGreatDoorQs30
import Derived.Lib.Split
import Derived.Lib.SplitLaws
/- Units of a name: units.Append, smap.unitsOf, smap.Write. -/
namespace Go.Proofs.YtlobinjdgcidmaaGreatDoor
open Go.RowKit
set_option linter.unusedVariables false
set_option linter.unusedSimpArgs false

def unitsL (l : List UInt8) : List Nat := if h : l = [] then [] else M.pairU (M.dec l).1 ++ unitsL (l.drop (M.dec l).2)
termination_by l.length
decreasing_by
  have h1 := M.dec_width l
  have h2 : 0 < l.length := List.length_pos_iff.2 h
  simp only [List.length_drop]
  omega
theorem unitsL_nil (l : List UInt8) (h : l.length = 0) : unitsL l = [] := by
  rw [unitsL]; rw [dif_pos (List.length_eq_zero_iff.1 h)]
theorem unitsL_cons (l : List UInt8) (h : 0 < l.length) : unitsL l = M.pairU (M.dec l).1 ++ unitsL (l.drop (M.dec l).2) := by
  conv => lhs; rw [unitsL]
  rw [dif_neg (List.length_pos_iff.1 h)]
theorem pairUS_two (r : Nat) : (M.pairU r).length ≤ 2 := by unfold M.pairU; split <;> simp
theorem pairUS_le (r : Nat) (h : r ≤ 1114111) : ∀ u ∈ M.pairU r, u ≤ 65535 := by
  intro u hu
  unfold M.pairU at hu
  split at hu
  · simp at hu; omega
  · simp at hu; omega
theorem unitsL_le : ∀ (n : Nat) (l : List UInt8), l.length ≤ n → ∀ u ∈ unitsL l, u ≤ 65535 := by
  intro n
  induction n with
  | zero => intro l h u hu; rw [unitsL_nil l (by omega)] at hu; simp at hu
  | succ n ih =>
    intro l h u hu
    by_cases h0 : 0 < l.length
    · rw [unitsL_cons l h0] at hu
      rcases List.mem_append.1 hu with hu | hu
      · exact pairUS_le _ (M.dec_rune l) u hu
      · exact ih _ (by have := M.dec_width l; simp only [List.length_drop]; omega) u hu
    · rw [unitsL_nil l (by omega)] at hu; simp at hu
theorem sand1023 (n : Int) (h0 : 0 ≤ n) (h1 : n ≤ 1114111) : bits .and .i64 n 1023 = n % 1024 := bits_mask .i64 62 (by decide) (fun n h₀ h₁ => by rw [IntKind.wrap_i64]; omega) 10 (by decide) n h0 (by omega)
end Go.Proofs.YtlobinjdgcidmaaGreatDoor
/- Plain numbers and lists: what is read of bytes is what was written. -/
namespace Go.Proofs.YtlobinjdgcidmaaGreatDoor.M
open Go.Lib
set_option linter.unusedVariables false
set_option linter.unusedSimpArgs false

theorem u8_of (b : UInt8) (n : Nat) (h : b.toNat = n) : n.toUInt8 = b := by
  have := b.toNat_lt
  exact UInt8.toNat_inj.1 (by rw [toU8 n (by omega)]; exact h.symm)
theorem byte0 (b : UInt8) (t : List UInt8) : byte (b :: t) 0 = b.toNat := by simp [byte]
theorem byte_s (b : UInt8) (t : List UInt8) (i : Nat) : byte (b :: t) (i + 1) = byte t i := by simp [byte]
theorem two_of (s : List UInt8) (h : 1 < s.length) : ∃ a b t, s = a :: b :: t := by
  match s, h with
  | a :: b :: t, _ => exact ⟨a, b, t, rfl⟩
theorem three_of (s : List UInt8) (h : 2 < s.length) : ∃ a b c t, s = a :: b :: c :: t := by
  match s, h with
  | a :: b :: c :: t, _ => exact ⟨a, b, c, t, rfl⟩
theorem four_of (s : List UInt8) (h : 3 < s.length) : ∃ a b c d t, s = a :: b :: c :: d :: t := by
  match s, h with
  | a :: b :: c :: d :: t, _ => exact ⟨a, b, c, d, t, rfl⟩
theorem inv_one (s : List UInt8) (h0 : 0 < s.length) (h : byte s 0 < 128) : s = enc ((byte s 0 : Nat) : Int) ++ s.drop 1 := by
  cases s with
  | nil => simp at h0
  | cons a t =>
    rw [byte0] at *
    rw [enc_one _ h, u8_of a _ rfl]; rfl
theorem inv_two (s : List UInt8) (h : byte s 0 / 32 = 6 ∧ (1 < s.length ∧ byte s 1 / 64 = 2)) (r : Nat) (hr : byte s 0 % 32 * 64 + byte s 1 % 64 = r) (h3 : 128 ≤ r) : s = enc (r : Int) ++ s.drop 2 := by
  obtain ⟨a, b, t, rfl⟩ := two_of s h.2.1
  simp only [byte_s, byte0] at *
  have := a.toNat_lt
  have := b.toNat_lt
  rw [enc_two _ h3 (by omega), u8_of a _ (by omega), u8_of b _ (by omega)]; rfl
theorem inv_three (s : List UInt8) (h : byte s 0 / 16 = 14 ∧ (1 < s.length ∧ byte s 1 / 64 = 2) ∧ (2 < s.length ∧ byte s 2 / 64 = 2)) (r : Nat) (hr : byte s 0 % 16 * 4096 + byte s 1 % 64 * 64 + byte s 2 % 64 = r)
    (h3 : (2048 ≤ r ∧ r < 55296) ∨ (57343 < r ∧ r ≤ 65535)) : s = enc (r : Int) ++ s.drop 3 := by
  obtain ⟨a, b, c, t, rfl⟩ := three_of s h.2.2.1
  simp only [byte_s, byte0] at *
  have := a.toNat_lt
  have := b.toNat_lt
  have := c.toNat_lt
  rw [enc_three _ h3, u8_of a _ (by omega), u8_of b _ (by omega), u8_of c _ (by omega)]; rfl
theorem inv_four (s : List UInt8) (h : byte s 0 / 8 = 30 ∧ (1 < s.length ∧ byte s 1 / 64 = 2) ∧ (2 < s.length ∧ byte s 2 / 64 = 2) ∧ (3 < s.length ∧ byte s 3 / 64 = 2)) (r : Nat)
    (hr : byte s 0 % 8 * 262144 + byte s 1 % 64 * 4096 + byte s 2 % 64 * 64 + byte s 3 % 64 = r) (h3 : 65536 ≤ r) (h4 : r ≤ 1114111) : s = enc (r : Int) ++ s.drop 4 := by
  obtain ⟨a, b, c, d, t, rfl⟩ := four_of s h.2.2.2.1
  simp only [byte_s, byte0] at *
  have := a.toNat_lt
  have := b.toNat_lt
  have := c.toNat_lt
  have := d.toNat_lt
  rw [enc_four _ h3 h4, u8_of a _ (by omega), u8_of b _ (by omega), u8_of c _ (by omega), u8_of d _ (by omega)]; rfl
set_option maxRecDepth 100000 in
/-- What is read is what was written. -/
theorem dec_inv (s : List UInt8) (h0 : 0 < s.length) (h : dec s ≠ (65533, 1)) : s = enc ((dec s).1 : Int) ++ s.drop (dec s).2 := by
  have hb0 := byte_lt s 0
  have hb1 := byte_lt s 1
  have hb2 := byte_lt s 2
  have hb3 := byte_lt s 3
  unfold dec decodeN at h ⊢
  split
  · rename_i h1; exact inv_one s h0 h1
  · split
    · rename_i h1 h2
      rw [if_neg h1, if_pos h2] at h
      split
      · rename_i h3; exact inv_two s h2 _ rfl h3
      · rename_i h3; rw [if_neg h3] at h; exact absurd rfl h
    · split
      · rename_i h1 h2 h4
        rw [if_neg h1, if_neg h2, if_pos h4] at h
        split
        · rename_i h3; exact inv_three s h4 _ rfl (by omega)
        · rename_i h3; rw [if_neg h3] at h; exact absurd rfl h
      · split
        · rename_i h1 h2 h4 h5
          rw [if_neg h1, if_neg h2, if_neg h4, if_pos h5] at h
          split
          · rename_i h3; exact inv_four s h5 _ rfl (by omega) (by omega)
          · rename_i h3; rw [if_neg h3] at h; exact absurd rfl h
        · rename_i h1 h2 h4 h5
          rw [if_neg h1, if_neg h2, if_neg h4, if_neg h5] at h
          exact absurd rfl h
end Go.Proofs.YtlobinjdgcidmaaGreatDoor.M
/- The units of a text that is UTF-8 are written as that text. -/
namespace Go.Proofs.YtlobinjdgcidmaaGreatDoor
set_option linter.unusedVariables false
set_option linter.unusedSimpArgs false

theorem dec_cp (l : List UInt8) (h0 : 0 < l.length) (h : M.dec l ≠ (65533, 1)) : M.isCP ((M.dec l).1 : Int) = true := by
  have e := M.dec_inv l h0 h
  cases hc : M.isCP ((M.dec l).1 : Int) with
  | true => rfl
  | false =>
    exfalso
    rw [M.enc_other _ hc] at e
    have d := M.dec_enc 65533 (by decide) (l.drop (M.dec l).2)
    have e2 : M.dec l = (65533, M.wid 65533) := by rw [← d]; exact congrArg M.dec e
    have e3 : (M.dec l).1 = 65533 := by rw [e2]
    rw [e3] at hc
    exact absurd hc (by decide)
theorem first_pair_units (r : Nat) (U : List Nat) (h : M.isCP (r : Int) = true) : M.firstU (M.pairU r ++ U) = (r, (M.pairU r).length) := by
  have hr := (M.isCP_iff _).1 h
  unfold M.pairU
  by_cases h1 : r < 65536
  · rw [if_pos h1]
    cases U with
    | nil => rfl
    | cons v t =>
      have hp : M.isPair r v = false := by
        cases hh : M.isPair r v with
        | false => rfl
        | true => rw [M.isPair_iff] at hh; omega
      simp [M.firstU, hp]
  · rw [if_neg h1]
    have hp : M.isPair (55296 + (r - 65536) / 1024) (56320 + (r - 65536) % 1024) = true := by rw [M.isPair_iff]; omega
    have hj : M.joinU (55296 + (r - 65536) / 1024) (56320 + (r - 65536) % 1024) = r := by unfold M.joinU; omega
    simp [M.firstU, hp, hj]
theorem txt_units : ∀ (n : Nat) (l : List UInt8), l.length ≤ n → (M.validAll l).2 = true → txtU (unitsL l) = l
  | 0, l, hl, _ => by
    have : l = [] := List.eq_nil_of_length_eq_zero (by omega)
    subst this
    rw [unitsL_nil [] rfl, txtU_nil]
  | n + 1, l, hl, hv => by
    by_cases h0 : 0 < l.length
    · rw [M.validAll_step l h0, Bool.and_eq_true] at hv
      have hd := (M.nx_ok l).1 hv.1
      have hcp := dec_cp l h0 hd
      have hw := M.dec_width l
      have ih := txt_units n (l.drop (M.dec l).2) (by simp only [List.length_drop]; omega) hv.2
      have hf := first_pair_units (M.dec l).1 (unitsL (l.drop (M.dec l).2)) hcp
      have hne : M.pairU (M.dec l).1 ++ unitsL (l.drop (M.dec l).2) ≠ [] := by
        unfold M.pairU
        split <;> simp
      rw [unitsL_cons l h0, txtU_step _ hne, hf]
      simp only [List.drop_left]
      rw [ih]
      exact (M.dec_inv l h0 hd).symm
    · have : l = [] := List.eq_nil_of_length_eq_zero (by omega)
      subst this
      rw [unitsL_nil [] rfl, txtU_nil]
end Go.Proofs.YtlobinjdgcidmaaGreatDoor
/- What a text of mappings tells, and that what begins as written mappings is the beginning of the segments (plain lists; nothing of the program). -/
namespace Go.Proofs.YtlobinjdgcidmaaGreatDoor.M
open Go.Proofs.YtlobinjdgcidmaaGreatDoor
set_option linter.unusedVariables false
set_option linter.unusedSimpArgs false

def cut (c : UInt8) (t : List UInt8) : List (List UInt8) := Go.Lib.split t [c]
def rdParts : S4 → List S4 → List (List UInt8) → Option (S4 × List S4)
  | last, out, [] => some (last, out)
  | last, out, p :: ps => if (segV p last).2 = true then rdParts (segV p last).1 (out ++ [(segV p last).1]) ps else none
def rdLines : Nat → S4 → List S4 → List (List UInt8) → Option (List S4)
  | _, _, out, [] => some out
  | n, last, out, t :: ts => if t = [] then rdLines (n + 1) ((n : Int), 0, last.2.2) out ts else
    match rdParts ((n : Int), 0, last.2.2) out (cut 44 t) with
    | none => none
    | some p => rdLines (n + 1) p.1 p.2 ts
def rdAll (t : List UInt8) : Option (List S4) := rdLines 0 (0, 0, 0, 0) [] (cut 59 t)
def okM (t : List UInt8) (o : List S4) : Bool := maps o == some t
def readM (t : List UInt8) : Option (List S4) := match rdAll t with
  | none => none
  | some o => if okM t o = true then some o else none
def PAt (last : S4) (out : List S4) (ps : List (List UInt8)) (j : Nat) (l2 : S4) (o2 : List S4) : Prop := rdParts last out ps = rdParts l2 o2 (ps.drop j)
theorem pat_start (last : S4) (out : List S4) (ps : List (List UInt8)) : PAt last out ps 0 last out := by unfold PAt; rw [List.drop_zero]
theorem pat_step {last : S4} {out : List S4} {ps : List (List UInt8)} {j : Nat} {l2 : S4} {o2 : List S4} (h : PAt last out ps j l2 o2) (hj : j < ps.length) (r : S4) (hr : segV ps[j] l2 = (r, true)) : PAt last out ps (j + 1) r (o2 ++ [r]) := by
  unfold PAt at *
  rw [h, List.drop_eq_getElem_cons hj]
  conv => lhs; unfold rdParts
  rw [hr]; rfl
theorem pat_bad {last : S4} {out : List S4} {ps : List (List UInt8)} {j : Nat} {l2 : S4} {o2 : List S4} (h : PAt last out ps j l2 o2) (hj : j < ps.length) (hr : (segV ps[j] l2).2 = false) : rdParts last out ps = none := by
  rw [h, List.drop_eq_getElem_cons hj]
  conv => lhs; unfold rdParts
  rw [hr]; rfl
theorem pat_end {last : S4} {out : List S4} {ps : List (List UInt8)} {l2 : S4} {o2 : List S4} (h : PAt last out ps ps.length l2 o2) : rdParts last out ps = some (l2, o2) := by
  rw [h, List.drop_length]; rfl
def LAt (t : List UInt8) (ts : List (List UInt8)) (i : Nat) (last : S4) (out : List S4) : Prop := cut 59 t = ts ∧ rdAll t = rdLines i last out (ts.drop i)
theorem lat_start (t : List UInt8) (ts : List (List UInt8)) (h : cut 59 t = ts) : LAt t ts 0 (0, 0, 0, 0) [] := ⟨h, by rw [List.drop_zero, ← h]; rfl⟩
theorem lat_void {t : List UInt8} {ts : List (List UInt8)} {i : Nat} {last : S4} {out : List S4} (h : LAt t ts i last out) (hi : i < ts.length) (he : ts[i] = []) : LAt t ts (i + 1) ((i : Int), 0, last.2.2) out := by
  refine ⟨h.1, ?_⟩
  rw [h.2, List.drop_eq_getElem_cons hi]
  conv => lhs; unfold rdLines
  rw [if_pos he]
theorem lat_line {t : List UInt8} {ts : List (List UInt8)} {i : Nat} {last l2 : S4} {out o2 : List S4} (h : LAt t ts i last out) (hi : i < ts.length) (he : ts[i] ≠ []) (hp : rdParts ((i : Int), 0, last.2.2) out (cut 44 ts[i]) = some (l2, o2)) : LAt t ts (i + 1) l2 o2 := by
  refine ⟨h.1, ?_⟩
  rw [h.2, List.drop_eq_getElem_cons hi]
  conv => lhs; unfold rdLines
  rw [if_neg he, hp]
theorem lat_bad {t : List UInt8} {ts : List (List UInt8)} {i : Nat} {last : S4} {out : List S4} (h : LAt t ts i last out) (hi : i < ts.length) (he : ts[i] ≠ []) (hp : rdParts ((i : Int), 0, last.2.2) out (cut 44 ts[i]) = none) : readM t = none := by
  have : rdAll t = none := by
    rw [h.2, List.drop_eq_getElem_cons hi]
    conv => lhs; unfold rdLines
    rw [if_neg he, hp]
  unfold readM; rw [this]
theorem lat_end {t : List UInt8} {ts : List (List UInt8)} {last : S4} {out : List S4} (h : LAt t ts ts.length last out) : rdAll t = some out := by
  rw [h.2, List.drop_length]; rfl
theorem readM_yes (t : List UInt8) (o : List S4) (h : rdAll t = some o) (hm : maps o = some t) : readM t = some o := by
  unfold readM; rw [h]; simp [okM, hm]
theorem readM_no (t : List UInt8) (o : List S4) (h : rdAll t = some o) (hm : maps o ≠ some t) : readM t = none := by
  unfold readM; rw [h]; simp [okM, hm]

theorem splitK_le (c : UInt8) (k : Nat) (s : List UInt8) : ∀ p ∈ Go.Lib.splitK [c] 0 k s, p.length ≤ s.length := by
  induction k generalizing s with
  | zero => intro p hp; simp [Go.Lib.splitK] at hp; subst hp; omega
  | succ k ih =>
    intro p hp
    unfold Go.Lib.splitK at hp
    split at hp
    · simp at hp; subst hp; omega
    · simp only [List.mem_cons] at hp
      rcases hp with rfl | hp
      · rw [List.length_take]; omega
      · have := ih _ p hp
        rw [List.length_drop] at this
        omega
theorem cut_le (c : UInt8) (s : List UInt8) : ∀ p ∈ cut c s, p.length ≤ s.length := splitK_le c _ s
theorem segV_b (t : List UInt8) (s : S4) (hs : B4 (s.2.1, 0, s.2.2.1, s.2.2.2)) (h : (segV t s).2 = true) : (segV t s).1.1 = s.1 ∧ 0 ≤ (segV t s).1.2.1 ∧ (segV t s).1.2.1 ≤ 1073741824 ∧ 0 ≤ (segV t s).1.2.2.1 ∧ (segV t s).1.2.2.1 ≤ 1073741824 ∧ 0 ≤ (segV t s).1.2.2.2 ∧ (segV t s).1.2.2.2 ≤ 1073741824 := by
  have key : ∀ k m a, k ≤ 4 → segSt t s k = some (m, a) → B4 m := by
    intro k
    induction k with
    | zero => intro m a _ h; simp only [segSt, Option.some.injEq, Prod.mk.injEq] at h; obtain ⟨rfl, _⟩ := h; exact hs
    | succ k ih =>
      intro m a hk h
      unfold segSt at h
      split at h
      · exact absurd h (by simp)
      · rename_i m2 a2 h2
        split at h
        · rename_i hg
          simp only [Option.some.injEq, Prod.mk.injEq] at h
          obtain ⟨rfl, _⟩ := h
          exact put4_b _ _ _ (ih m2 a2 (by omega) h2) hg.2.1 hg.2.2
        · exact absurd h (by simp)
  unfold segV at h ⊢
  split
  · rename_i hn; rw [hn] at h; exact absurd h (by simp)
  · rename_i m a hm
    obtain ⟨b0, _, b2, b3⟩ := key 4 m a (by omega) hm
    exact ⟨rfl, b0.1, b0.2, b2.1, b2.2, b3.1, b3.2⟩
end Go.Proofs.YtlobinjdgcidmaaGreatDoor.M
/- Written mappings are read back (plain lists; nothing of the program). -/
namespace Go.Proofs.YtlobinjdgcidmaaGreatDoor.M
open Go.Proofs.YtlobinjdgcidmaaGreatDoor
set_option linter.unusedVariables false
set_option linter.unusedSimpArgs false

theorem ib_hit (c : UInt8) (t : List UInt8) : ∀ p : List UInt8, (∀ x ∈ p, x ≠ c) → Go.Lib.indexByte (p ++ c :: t) c = (p.length : Int)
  | [], _ => by simp [Go.Lib.indexByte]
  | a :: p, h => by
    have ha := h a (by simp)
    have ih := ib_hit c t p (fun x hx => h x (List.mem_cons_of_mem _ hx))
    simp only [List.cons_append, Go.Lib.indexByte, List.length_cons]
    rw [ih]
    simp [ha]
theorem cut_hit (c : UInt8) (p t : List UInt8) (h : ∀ x ∈ p, x ≠ c) : cut c (p ++ c :: t) = p :: cut c t := by
  have hc : p.count c = 0 := List.count_eq_zero.2 (fun hm => h c hm rfl)
  unfold cut Go.Lib.split
  rw [Go.Lib.count_one, Go.Lib.count_one, List.count_append, hc, List.count_cons_self, Nat.zero_add]
  conv => lhs; unfold Go.Lib.splitK
  rw [Go.Lib.index_one, ib_hit c t p h]
  rw [if_neg (by simp)]
  simp
theorem cut_miss (c : UInt8) (p : List UInt8) (h : ∀ x ∈ p, x ≠ c) : cut c p = [p] := by
  have hc : p.count c = 0 := List.count_eq_zero.2 (fun hm => h c hm rfl)
  unfold cut Go.Lib.split
  rw [Go.Lib.count_one, hc]
  rfl
theorem cut_some (c : UInt8) (t : List UInt8) : ∃ l ls, cut c t = l :: ls := by
  cases h : cut c t with
  | nil => have := congrArg List.length h; unfold cut Go.Lib.split at this; cases hk : Go.Lib.count t [c] <;> (rw [hk] at this; unfold Go.Lib.splitK at this; try (split at this)) <;> simp at this
  | cons l ls => exact ⟨l, ls, rfl⟩
theorem cut_ahead (c : UInt8) (p t : List UInt8) (h : ∀ x ∈ p, x ≠ c) (l : List UInt8) (ls : List (List UInt8)) (e : cut c t = l :: ls) : cut c (p ++ t) = (p ++ l) :: ls := by
  by_cases hm : c ∈ t
  · obtain ⟨a, b, rfl, hn⟩ : ∃ a b, t = a ++ c :: b ∧ c ∉ a := by
      obtain ⟨a, b, h1, h2⟩ := List.eq_append_cons_of_mem hm
      exact ⟨a, b, h1, h2⟩
    have ha : ∀ x ∈ a, x ≠ c := fun x hx e => hn (e ▸ hx)
    rw [cut_hit c a b ha] at e
    simp only [List.cons.injEq] at e
    obtain ⟨rfl, rfl⟩ := e
    rw [← List.append_assoc, cut_hit c (p ++ a) b (fun x hx => by rcases List.mem_append.1 hx with hx | hx; exact h x hx; exact ha x hx)]
  · have ht : ∀ x ∈ t, x ≠ c := fun x hx e => hm (e ▸ hx)
    rw [cut_miss c t ht] at e
    simp only [List.cons.injEq] at e
    obtain ⟨rfl, rfl⟩ := e
    rw [cut_miss c (p ++ t) (fun x hx => by rcases List.mem_append.1 hx with hx | hx; exact h x hx; exact ht x hx)]
def RL (n : Nat) (last : S4) (out : List S4) (t : List UInt8) : Option (List S4) := rdLines n last out (cut 59 t)
def RM (n : Nat) (last : S4) (out : List S4) (t : List UInt8) : Option (List S4) := match cut 59 t with
  | [] => none
  | l :: ls => match rdParts last out (cut 44 l) with
    | none => none
    | some q => rdLines (n + 1) q.1 q.2 ls
def NoSep (p : List UInt8) : Prop := ∀ c ∈ p, isSep c = false
theorem NoSep.ne59 {p : List UInt8} (h : NoSep p) : ∀ x ∈ p, x ≠ 59 := fun x hx e => by have := h x hx; rw [e] at this; exact absurd this (by decide)
theorem NoSep.ne44 {p : List UInt8} (h : NoSep p) : ∀ x ∈ p, x ≠ 44 := fun x hx e => by have := h x hx; rw [e] at this; exact absurd this (by decide)
theorem rm_comma (n : Nat) (last x : S4) (out : List S4) (p t : List UInt8) (hp : NoSep p) (hs : segV p last = (x, true)) : RM n last out (p ++ 44 :: t) = RM n x (out ++ [x]) t := by
  obtain ⟨l, ls, e⟩ := cut_some 59 t
  have e1 : cut 59 (p ++ 44 :: t) = (p ++ 44 :: l) :: ls := by
    have := cut_ahead 59 (p ++ [44]) t (fun y hy => by rcases List.mem_append.1 hy with hy | hy; exact hp.ne59 y hy; rw [List.mem_singleton.1 hy]; decide) l ls e
    simpa using this
  unfold RM
  rw [e1, e]
  simp only
  rw [cut_hit 44 p l hp.ne44]
  conv => lhs; unfold rdParts
  rw [hs]
  rfl
theorem rm_semi (n : Nat) (last x : S4) (out : List S4) (p t : List UInt8) (hp : NoSep p) (hs : segV p last = (x, true)) : RM n last out (p ++ 59 :: t) = RL (n + 1) x (out ++ [x]) t := by
  unfold RM RL
  rw [cut_hit 59 p t hp.ne59]
  simp only
  rw [cut_miss 44 p hp.ne44]
  unfold rdParts
  rw [hs]
  simp only [if_true]
  unfold rdParts
  rfl
theorem rm_end (n : Nat) (last x : S4) (out : List S4) (p : List UInt8) (hp : NoSep p) (hs : segV p last = (x, true)) : RM n last out p = some (out ++ [x]) := by
  unfold RM
  rw [cut_miss 59 p hp.ne59]
  simp only
  rw [cut_miss 44 p hp.ne44]
  unfold rdParts
  rw [hs]
  simp only [if_true]
  unfold rdParts
  simp only
  rfl
theorem rl_semi (n : Nat) (last : S4) (out : List S4) (t : List UInt8) : RL n last out (59 :: t) = RL (n + 1) ((n : Int), 0, last.2.2) out t := by
  have := cut_hit 59 [] t (by simp)
  rw [List.nil_append] at this
  unfold RL
  rw [this]
  conv => lhs; unfold rdLines
  rw [if_pos rfl]
theorem rl_line (n : Nat) (last : S4) (out : List S4) (t : List UInt8) (h : ∃ c u, t = c :: u ∧ c ≠ 59) : RL n last out t = RM n ((n : Int), 0, last.2.2) out t := by
  obtain ⟨c, u, rfl, hc⟩ := h
  obtain ⟨l, ls, e⟩ := cut_some 59 u
  have e1 : cut 59 (c :: u) = (c :: l) :: ls := cut_ahead 59 [c] u (fun y hy => by rw [List.mem_singleton.1 hy]; exact hc) l ls e
  unfold RL RM
  rw [e1]
  conv => lhs; unfold rdLines
  rw [if_neg (by simp)]
  try rfl
theorem rl_semis : ∀ (k n : Nat) (last : S4) (out : List S4) (t : List UInt8), (∃ c u, t = c :: u ∧ c ≠ 59) → RL n last out (List.replicate k 59 ++ t) = RM (n + k) (((n + k : Nat) : Int), 0, last.2.2) out t
  | 0, n, last, out, t, h => by rw [List.replicate_zero, List.nil_append, rl_line n last out t h]; rfl
  | k + 1, n, last, out, t, h => by
    rw [List.replicate_succ, List.cons_append, rl_semi, rl_semis k (n + 1) _ out t h]
    rw [show n + 1 + k = n + (k + 1) by omega]
theorem rd_at (p : List UInt8) (n : Int) (r : List UInt8) (h1 : -1099511627776 ≤ n) (h2 : n ≤ 1099511627776) : rd (p ++ (V.text n ++ r)) (p.length : Int) = (n, ((p ++ V.text n).length : Int), true) := by
  have hp := V.text_pos n
  have e := V.get_text n h1 h2 r
  unfold rd V.getAt
  rw [if_neg (by rw [List.length_append, List.length_append]; omega)]
  rw [Int.toNat_natCast, List.drop_left, e]
  simp [V.gN]
theorem seg_four (l y : S4) (hl : okS l = true ∨ (0 ≤ l.2.1 ∧ l.2.1 ≤ 1073741824 ∧ 0 ≤ l.2.2.1 ∧ l.2.2.1 ≤ 1073741824 ∧ 0 ≤ l.2.2.2 ∧ l.2.2.2 ≤ 1073741824)) (hy : okS y = true) :
    segV (four (y.2.1 - l.2.1) (y.2.2.1 - l.2.2.1) (y.2.2.2 - l.2.2.2)) l = ((l.1, y.2.1, y.2.2.1, y.2.2.2), true) := by
  have hl' : 0 ≤ l.2.1 ∧ l.2.1 ≤ 1073741824 ∧ 0 ≤ l.2.2.1 ∧ l.2.2.1 ≤ 1073741824 ∧ 0 ≤ l.2.2.2 ∧ l.2.2.2 ≤ 1073741824 := by
    rcases hl with h | h
    · have := (okS_iff l).1 h; omega
    · exact h
  have hy' := (okS_iff y).1 hy
  obtain ⟨a, ha⟩ : ∃ a, y.2.1 - l.2.1 = a := ⟨_, rfl⟩
  obtain ⟨b, hb⟩ : ∃ a, y.2.2.1 - l.2.2.1 = a := ⟨_, rfl⟩
  obtain ⟨c, hc⟩ : ∃ a, y.2.2.2 - l.2.2.2 = a := ⟨_, rfl⟩
  rw [ha, hb, hc]
  have r0 := rd_at [] a (V.text 0 ++ (V.text b ++ V.text c)) (by omega) (by omega)
  have r1 := rd_at (V.text a) 0 (V.text b ++ V.text c) (by omega) (by omega)
  have r2 := rd_at (V.text a ++ V.text 0) b (V.text c) (by omega) (by omega)
  have r3 := rd_at (V.text a ++ V.text 0 ++ V.text b) c [] (by omega) (by omega)
  have f0 : four a b c = [] ++ (V.text a ++ (V.text 0 ++ (V.text b ++ V.text c))) := by simp [four]
  have f1 : four a b c = V.text a ++ (V.text 0 ++ (V.text b ++ V.text c)) := by simp [four]
  have f2 : four a b c = (V.text a ++ V.text 0) ++ (V.text b ++ V.text c) := by simp [four]
  have f3 : four a b c = (V.text a ++ V.text 0 ++ V.text b) ++ (V.text c ++ []) := by simp [four]
  rw [← f0] at r0
  rw [← f1] at r1
  rw [← f2] at r2
  rw [← f3] at r3
  have z0 : (([] : List UInt8).length : Int) = 0 := rfl
  rw [z0, List.nil_append] at r0
  have s0 : segSt (four a b c) l 0 = some ((l.2.1, 0, l.2.2.1, l.2.2.2), 0) := rfl
  have s1 := segSt_go _ _ _ _ _ s0 (by rw [r0]) (by rw [r0]; simp [nth4]; omega) (by rw [r0]; simp [nth4]; omega)
  rw [r0] at s1
  have s2 := segSt_go _ _ _ _ _ s1 (by rw [r1]) (by rw [r1]; simp [nth4, put4]) (by rw [r1]; simp [nth4, put4])
  rw [r1] at s2
  have s3 := segSt_go _ _ _ _ _ s2 (by rw [r2]) (by rw [r2]; simp [nth4, put4]; omega) (by rw [r2]; simp [nth4, put4]; omega)
  rw [r2] at s3
  have s4 := segSt_go _ _ _ _ _ s3 (by rw [r3]) (by rw [r3]; simp [nth4, put4]; omega) (by rw [r3]; simp [nth4, put4]; omega)
  rw [r3] at s4
  rw [segV_yes _ _ _ _ s4]
  have el : four a b c = V.text a ++ V.text 0 ++ V.text b ++ V.text c := rfl
  rw [← el]
  simp [nth4, put4]
  omega
theorem four_no (a b c : Int) : NoSep (four a b c) := four_sep a b c
theorem rm_back : ∀ (xs : List S4) (x last : S4) (n : Nat) (out : List S4) (p s : List UInt8), x.1 = (n : Int) → okS x = true → NoSep p → segV p last = (x, true) → mapsG false x xs = some s → RM n last out (p ++ s) = some (out ++ x :: xs)
  | [], x, last, n, out, p, s, hn, hx, hp, hs, hm => by
    have : s = [] := by simpa [mapsG] using hm.symm
    subst this
    rw [List.append_nil, rm_end n last x out p hp hs]
  | y :: r, x, last, n, out, p, s, hn, hx, hp, hs, hm => by
    unfold mapsG at hm
    split at hm
    case isFalse => simp at hm
    rename_i hg
    obtain ⟨k, hk, rfl⟩ := Option.map_eq_some_iff.1 hm
    obtain ⟨hy, hb⟩ := good_parts false x y hg
    have hb := hb rfl
    have hy' := (okS_iff y).1 hy
    have hx' := (okS_iff x).1 hx
    by_cases e : y.1 = x.1
    · have hch : chunk false x y = 44 :: four (y.2.1 - x.2.1) (y.2.2.1 - x.2.2.1) (y.2.2.2 - x.2.2.2) := by
        unfold chunk sepS colOf
        rw [if_pos ⟨rfl, e⟩, if_pos e]
        rfl
      rw [hch, List.cons_append, rm_comma n last x out p _ hp hs]
      have sg := seg_four x y (.inl hx) hy
      have ey : (x.1, y.2.1, y.2.2.1, y.2.2.2) = y := by rw [← e]
      rw [ey] at sg
      rw [rm_back r y x n (out ++ [x]) _ k (by rw [e]; exact hn) hy (four_no _ _ _) sg hk]
      simp
    · obtain ⟨d, hd⟩ : ∃ d : Nat, (y.1 - x.1).toNat = d + 1 := ⟨(y.1 - x.1).toNat - 1, by omega⟩
      have hch : chunk false x y = 59 :: (List.replicate d 59 ++ four (y.2.1 - 0) (y.2.2.1 - x.2.2.1) (y.2.2.2 - x.2.2.2)) := by
        unfold chunk sepS colOf
        rw [if_neg (fun h => e h.2), if_neg e, hd, List.replicate_succ]
        rfl
      have hne : ∃ c u, four (y.2.1 - 0) (y.2.2.1 - x.2.2.1) (y.2.2.2 - x.2.2.2) ++ k = c :: u ∧ c ≠ 59 := by
        have h1 := four_pos (y.2.1 - 0) (y.2.2.1 - x.2.2.1) (y.2.2.2 - x.2.2.2)
        have h2 := (four_no (y.2.1 - 0) (y.2.2.1 - x.2.2.1) (y.2.2.2 - x.2.2.2)).ne59
        cases hf : four (y.2.1 - 0) (y.2.2.1 - x.2.2.1) (y.2.2.2 - x.2.2.2) with
        | nil => exact absurd hf h1
        | cons c u => rw [hf] at h2; exact ⟨c, u ++ k, rfl, h2 c (by simp)⟩
      rw [hch, List.cons_append, rm_semi n last x out p _ hp hs, List.append_assoc, rl_semis d (n + 1) x (out ++ [x]) _ hne]
      have sg := seg_four (((n + 1 + d : Nat) : Int), 0, x.2.2) y (.inr ⟨by simp, by simp, by simp; omega, by simp; omega, by simp; omega, by simp; omega⟩) hy
      have ey : (((n + 1 + d : Nat) : Int), y.2.1, y.2.2.1, y.2.2.2) = y := by
        have : ((n + 1 + d : Nat) : Int) = y.1 := by omega
        rw [this]
      simp only at sg
      rw [ey] at sg
      rw [rm_back r y _ (n + 1 + d) (out ++ [x]) _ k (by omega) hy (four_no _ _ _) sg hk]
      simp
theorem read_back (L : List S4) (acc : List UInt8) (hm : maps L = some acc) : readM acc = some L := by
  refine readM_yes acc L ?_ hm
  cases L with
  | nil =>
    have : acc = [] := by simpa [maps, mapsG] using hm.symm
    subst this
    unfold rdAll
    rw [cut_miss 59 [] (by simp)]
    rfl
  | cons x r =>
    have hm2 := hm
    unfold maps mapsG at hm2
    split at hm2
    case isFalse => simp at hm2
    rename_i hg
    obtain ⟨k, hk, rfl⟩ := Option.map_eq_some_iff.1 hm2
    obtain ⟨hx, -⟩ := good_parts true (0, 0, 0, 0) x hg
    have hx' := (okS_iff x).1 hx
    obtain ⟨n, hn⟩ : ∃ n : Nat, x.1 = (n : Int) := ⟨x.1.toNat, by omega⟩
    have hcol : colOf (0, 0, 0, 0) x = 0 := by unfold colOf; split <;> rfl
    have hch : chunk true (0, 0, 0, 0) x = List.replicate n 59 ++ four (x.2.1 - 0) (x.2.2.1 - 0) (x.2.2.2 - 0) := by
      unfold chunk sepS
      rw [if_neg (by simp), hcol]
      have : (x.1 - (0 : Int)).toNat = n := by omega
      simp only [this]
    have hne : ∃ c u, four (x.2.1 - 0) (x.2.2.1 - 0) (x.2.2.2 - 0) ++ k = c :: u ∧ c ≠ 59 := by
      have h1 := four_pos (x.2.1 - 0) (x.2.2.1 - 0) (x.2.2.2 - 0)
      have h2 := (four_no (x.2.1 - 0) (x.2.2.1 - 0) (x.2.2.2 - 0)).ne59
      cases hf : four (x.2.1 - 0) (x.2.2.1 - 0) (x.2.2.2 - 0) with
      | nil => exact absurd hf h1
      | cons c u => rw [hf] at h2; exact ⟨c, u ++ k, rfl, h2 c (by simp)⟩
    show RL 0 (0, 0, 0, 0) [] (chunk true (0, 0, 0, 0) x ++ k) = _
    rw [hch, List.append_assoc, rl_semis n 0 (0, 0, 0, 0) [] _ hne]
    have sg := seg_four (((0 + n : Nat) : Int), 0, 0, 0) x (.inr ⟨by simp, by simp, by simp, by simp, by simp, by simp⟩) hx
    have ey : (((0 + n : Nat) : Int), x.2.1, x.2.2.1, x.2.2.2) = x := by
      have : ((0 + n : Nat) : Int) = x.1 := by omega
      rw [this]
    simp only at sg
    rw [ey] at sg
    rw [rm_back r x _ (0 + n) [] _ k (by omega) hx (four_no _ _ _) sg hk]
    simp
end Go.Proofs.YtlobinjdgcidmaaGreatDoor.M
/- smap.Write: what is returned, for any name and any segments. -/
namespace Go.Proofs.YtlobinjdgcidmaaGreatDoor
open Go.RowKit
set_option linter.unusedVariables false
set_option linter.unusedSimpArgs false

def wtx (T m : ByteArray) : ByteArray := ByteArray.mk #[123, 34, 118, 101, 114, 115, 105, 111, 110, 34, 58, 51, 44, 34, 115, 111, 117, 114, 99, 101, 115, 34, 58, 91] ++ T ++ ByteArray.mk #[93, 44, 34, 110, 97, 109, 101, 115, 34, 58, 91, 93, 44, 34, 109, 97, 112, 112, 105, 110, 103, 115, 34, 58, 34] ++ m ++ ByteArray.mk #[34, 125]
theorem mapsG_len (f : Bool) (last : M.S4) (l : List M.S4) (acc : List UInt8) (h0 : f = true → last.1 = 0) (h1 : last.1 ≤ 100000) (hm : M.mapsG f last l = some acc) : (acc.length : Int) ≤ (100000 - last.1) + 37 * l.length := by
  induction l generalizing f last acc with
  | nil => have : acc = [] := by simpa [M.mapsG] using hm.symm
           subst this; simp; omega
  | cons x r ih =>
    unfold M.mapsG at hm
    split at hm
    · rename_i hg
      obtain ⟨k, hk, rfl⟩ := Option.map_eq_some_iff.1 hm
      obtain ⟨ho, hb⟩ := M.good_parts f last x hg
      have ho := (M.okS_iff x).1 ho
      have hlx : last.1 ≤ x.1 := by
        cases f with
        | true => have := h0 rfl; omega
        | false => have := hb rfl; omega
      have := ih false x k (fun h => by simp at h) ho.2.1 hk
      have hc := M.chunk_len f last x hlx
      rw [List.length_append, List.length_cons]
      omega
    · simp at hm
theorem maps_len (l : List M.S4) (acc : List UInt8) (hm : M.maps l = some acc) : acc.length ≤ 100000 + 37 * l.length := by
  have := mapsG_len true (0, 0, 0, 0) l acc (fun _ => rfl) (by simp) hm
  simp only at this
  omega
theorem unitsL_len : ∀ (n : Nat) (l : List UInt8), l.length ≤ n → (unitsL l).length ≤ 2 * l.length + 8 := by
  intro n
  induction n with
  | zero => intro l h; rw [unitsL_nil l (by omega)]; simp
  | succ n ih =>
    intro l h
    by_cases h0 : 0 < l.length
    · rw [unitsL_cons l h0, List.length_append]
      have h1 := M.dec_width l
      have h2 := pairUS_two (M.dec l).1
      by_cases h3 : (M.dec l).2 ≤ l.length
      · have := ih (l.drop (M.dec l).2) (by simp only [List.length_drop]; omega)
        simp only [List.length_drop] at this
        omega
      · rw [unitsL_nil (l.drop (M.dec l).2) (by simp only [List.length_drop]; omega)]
        simp only [List.length_nil]; omega
    · rw [unitsL_nil l (by omega)]; simp
def wres (l : List UInt8) : Option (List UInt8) → Value
  | none => .tuple #[.string ⟨#[]⟩, .bool false]
  | some m => .tuple #[.string (wtx (bytes (M.spell (unitsL l))) (bytes m)), .bool true]
end Go.Proofs.YtlobinjdgcidmaaGreatDoor
