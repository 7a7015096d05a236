/- Texts of ours in one: JgM ZLe ZNf ZNg. -/
import Derived.Test.YtlobinjdgcidmaaGreatDoorQs00
import Derived.Test.YtlobinjdgcidmaaGreatDoorQs06
import Derived.Test.YtlobinjdgcidmaaGreatDoorQs12
import Derived.Test.YtlobinjdgcidmaaGreatDoorQs15
import Derived.Test.YtlobinjdgcidmaaGreatDoorQs26
import Derived.Test.YtlobinjdgcidmaaGreatDoorQs19
/- Several texts of ours in one: KMath3 QMath6 QMath8 QMath9 QMath10. -/
/- Plain numbers and lists: what is written of units is read as those units; no text that stands for the same units is shorter. -/
namespace Go.Proofs.YtlobinjdgcidmaaGreatDoor.M
open Go.Lib
set_option linter.unusedVariables false
set_option linter.unusedSimpArgs false

theorem hexV_hexd (n : Nat) (h : n < 16) : hexV (hexd n) = n := by
  have : n = 0 ∨ n = 1 ∨ n = 2 ∨ n = 3 ∨ n = 4 ∨ n = 5 ∨ n = 6 ∨ n = 7 ∨ n = 8 ∨ n = 9 ∨ n = 10 ∨ n = 11 ∨ n = 12 ∨ n = 13 ∨ n = 14 ∨ n = 15 := by omega
  rcases this with rfl | rfl | rfl | rfl | rfl | rfl | rfl | rfl | rfl | rfl | rfl | rfl | rfl | rfl | rfl | rfl <;> decide +kernel
theorem hexd_low (n : Nat) (h : n < 16) : (hexd n).toNat < 128 := by
  have : n = 0 ∨ n = 1 ∨ n = 2 ∨ n = 3 ∨ n = 4 ∨ n = 5 ∨ n = 6 ∨ n = 7 ∨ n = 8 ∨ n = 9 ∨ n = 10 ∨ n = 11 ∨ n = 12 ∨ n = 13 ∨ n = 14 ∨ n = 15 := by omega
  rcases this with rfl | rfl | rfl | rfl | rfl | rfl | rfl | rfl | rfl | rfl | rfl | rfl | rfl | rfl | rfl | rfl <;> decide +kernel
theorem escL_low {d : UInt8} (h : d ∈ escL) : d.toNat < 128 ∧ d ≠ 117 := by
  unfold escL at h
  simp only [List.mem_cons, List.mem_nil_iff, or_false] at h
  rcases h with rfl | rfl | rfl | rfl | rfl | rfl | rfl | rfl <;> decide
theorem esc_facts (d : UInt8) (hd : d ∈ escL) (s : List UInt8) :
    jtS ([92, d] ++ s) = (jtS s).map (· + 2) ∧ ulS ([92, d] ++ s) = escV d :: ulS s ∧ (validAll ([92, d] ++ s)).2 = (validAll s).2 := by
  have hl := escL_low hd
  refine ⟨?_, ?_, ?_⟩
  · show jtS (92 :: d :: s) = _
    rw [jtS_cons, if_neg (by decide), if_neg (by decide), if_neg (by simp), List.getD_cons_zero, if_neg hl.2, if_pos hd]
    rfl
  · show ulS (92 :: d :: s) = _
    rw [ulS_esc _ (by simp) (by simpa using hl.2)]
    rfl
  · rw [valid_asciis 2 _ (by simp) (fun j hj => by
      have : j = 0 ∨ j = 1 := by omega
      rcases this with rfl | rfl
      · simp
      · simpa using hl.1)]
    rfl
theorem num_facts (r : Nat) (hr : r ≤ 65535) (s : List UInt8) :
    jtS (num6 r ++ s) = (jtS s).map (· + 6) ∧ ulS (num6 r ++ s) = r :: ulS s ∧ (validAll (num6 r ++ s)).2 = (validAll s).2 := by
  have e : num6 r ++ s = 92 :: 117 :: hexd (r / 4096) :: hexd (r / 256 % 16) :: hexd (r / 16 % 16) :: hexd (r % 16) :: s := rfl
  have q0 := hexV_hexd (r / 4096) (by omega)
  have q1 := hexV_hexd (r / 256 % 16) (by omega)
  have q2 := hexV_hexd (r / 16 % 16) (by omega)
  have q3 := hexV_hexd (r % 16) (by omega)
  rw [e]
  refine ⟨?_, ?_, ?_⟩
  · rw [jtS_cons, if_neg (by decide), if_neg (by decide), if_neg (by simp), List.getD_cons_zero, if_pos rfl, if_pos]
    · rfl
    · unfold hex4ok hexOk
      simp only [List.drop_succ_cons, List.drop_zero, List.getD_cons_zero, List.getD_cons_succ, q0, q1, q2, q3]
      simp
      omega
  · rw [ulS_hex _ (by simp)]
    simp only [List.drop_succ_cons, List.drop_zero]
    unfold hex4 hexN
    simp only [List.getD_cons_zero, List.getD_cons_succ, q0, q1, q2, q3]
    simp only [Int.toNat_natCast]
    congr 1
    omega
  · rw [valid_asciis 6 _ (by simp) (fun j hj => by
      have : j = 0 ∨ j = 1 ∨ j = 2 ∨ j = 3 ∨ j = 4 ∨ j = 5 := by omega
      rcases this with rfl | rfl | rfl | rfl | rfl | rfl
      · simp
      · simp
      · exact hexd_low _ (by omega)
      · exact hexd_low _ (by omega)
      · exact hexd_low _ (by omega)
      · exact hexd_low _ (by omega))]
    rfl
theorem enc_high (r : Nat) (h : isCP r = true) (h1 : 128 ≤ r) : ∀ c ∈ enc r, 128 ≤ c.toNat := by
  rw [isCP_iff] at h
  intro c hc
  by_cases h2 : r < 2048
  · rw [enc_two r h1 h2] at hc
    simp only [List.mem_cons, List.mem_nil_iff, or_false] at hc
    rcases hc with rfl | rfl <;> (rw [toU8 _ (by omega)]; omega)
  · by_cases h3 : r ≤ 65535
    · rw [enc_three r (by omega)] at hc
      simp only [List.mem_cons, List.mem_nil_iff, or_false] at hc
      rcases hc with rfl | rfl | rfl <;> (rw [toU8 _ (by omega)]; omega)
    · rw [enc_four r (by omega) (by omega)] at hc
      simp only [List.mem_cons, List.mem_nil_iff, or_false] at hc
      rcases hc with rfl | rfl | rfl | rfl <;> (rw [toU8 _ (by omega)]; omega)
theorem enc_facts (r : Nat) (h : isCP r = true) (h0 : 32 ≤ r) (h34 : r ≠ 34) (h92 : r ≠ 92) (s : List UInt8) (hs : 0 < s.length) :
    jtS (enc r ++ s) = (jtS s).map (· + (enc r).length) ∧ ulS (enc r ++ s) = pairU r ++ ulS s ∧ (validAll (enc r ++ s)).2 = (validAll s).2 := by
  have hp := enc_pos r
  have hd := dec_enc r h s
  have hn := nx_enc r h s
  have hl := enc_len r h
  have hdrop : (enc r ++ s).drop (wid r) = s := by rw [← hl]; simp
  have hv : (validAll (enc r ++ s)).2 = (validAll s).2 := by
    rw [validAll_step _ (by simp; omega), hn, hd]; simp only [Bool.true_and]; rw [hdrop]
  obtain ⟨c, t, hct⟩ : ∃ c t, enc r = c :: t := by
    cases he : enc r with
    | nil => rw [he] at hp; simp at hp
    | cons c t => exact ⟨c, t, rfl⟩
  have hc : c ≠ 34 ∧ c ≠ 92 ∧ 32 ≤ c.toNat := by
    by_cases h1 : r < 128
    · rw [enc_one r h1] at hct
      simp only [List.cons.injEq] at hct
      have : c.toNat = r := by rw [← hct.1, toU8 r (by omega)]
      refine ⟨fun e => ?_, fun e => ?_, by omega⟩
      · subst e; exact h34 (by simpa using this.symm)
      · subst e; exact h92 (by simpa using this.symm)
    · have := enc_high r h (by omega) c (by rw [hct]; simp)
      refine ⟨fun e => ?_, fun e => ?_, by omega⟩ <;> (subst e; simp at this)
  refine ⟨?_, ?_, hv⟩
  · by_cases h1 : r < 128
    · have hct2 := hct
      rw [enc_one r h1] at hct2
      simp only [List.cons.injEq] at hct2
      rw [hct, ← hct2.2]
      show jtS (c :: s) = _
      rw [jtS_cons, if_neg hc.1, if_neg (by omega), if_pos hc.2.1]
      rfl
    · exact jtS_high _ _ (enc_high r h (by omega))
  · rw [hct] at hd hdrop ⊢
    rw [List.cons_append, ulS_cp c (t ++ s) (by simp; omega) hc.2.1]
    rw [List.cons_append] at hd hdrop
    rw [hd, hdrop]
theorem spel_facts (r : Nat) (hr : r ≤ 1114111) (s : List UInt8) (hs : 0 < s.length) :
    jtS (spel r ++ s) = (jtS s).map (· + (spel r).length) ∧ ulS (spel r ++ s) = pairU r ++ ulS s ∧ (validAll (spel r ++ s)).2 = (validAll s).2 := by
  have hp : r < 65536 → pairU r = [r] := fun h => by unfold pairU; rw [if_pos h]
  by_cases h1 : r = 34
  · subst h1; rw [show spel 34 = [92, 34] from rfl, hp (by omega)]; exact esc_facts 34 (by decide) s
  by_cases h2 : r = 92
  · subst h2; rw [show spel 92 = [92, 92] from rfl, hp (by omega)]; exact esc_facts 92 (by decide) s
  by_cases h3 : r = 8
  · subst h3; rw [show spel 8 = [92, 98] from rfl, hp (by omega)]; exact esc_facts 98 (by decide) s
  by_cases h4 : r = 12
  · subst h4; rw [show spel 12 = [92, 102] from rfl, hp (by omega)]; exact esc_facts 102 (by decide) s
  by_cases h5 : r = 10
  · subst h5; rw [show spel 10 = [92, 110] from rfl, hp (by omega)]; exact esc_facts 110 (by decide) s
  by_cases h6 : r = 13
  · subst h6; rw [show spel 13 = [92, 114] from rfl, hp (by omega)]; exact esc_facts 114 (by decide) s
  by_cases h7 : r = 9
  · subst h7; rw [show spel 9 = [92, 116] from rfl, hp (by omega)]; exact esc_facts 116 (by decide) s
  have e : spel r = if r < 32 ∨ Sur r then num6 r else enc r := by
    unfold spel
    rw [if_neg h1, if_neg h2, if_neg h3, if_neg h4, if_neg h5, if_neg h6, if_neg h7]
  rw [e]
  by_cases h8 : r < 32 ∨ Sur r
  · rw [if_pos h8]
    have hb : r ≤ 65535 := by unfold Sur at h8; omega
    rw [hp (by omega)]
    exact num_facts r hb s
  · rw [if_neg h8]
    have hcp : isCP r = true := by rw [isCP_iff]; unfold Sur at h8; omega
    exact enc_facts r hcp (by omega) h1 h2 s hs
theorem pairU_join (u v : Nat) (h : isPair u v = true) : pairU (joinU u v) = [u, v] := by
  have hj := join_lt u v h
  rw [isPair_iff] at h
  unfold pairU
  rw [if_neg (by omega)]
  unfold joinU
  have q1 : 55296 + (65536 + (u - 55296) * 1024 + (v - 56320) - 65536) / 1024 = u := by omega
  have q2 : 56320 + (65536 + (u - 55296) * 1024 + (v - 56320) - 65536) % 1024 = v := by omega
  rw [q1, q2]
theorem body_facts (l : List Nat) (hl : ∀ u ∈ l, u ≤ 65535) (s : List UInt8) (hs : 0 < s.length) :
    jtS (body l ++ s) = (jtS s).map (· + (body l).length) ∧ ulS (body l ++ s) = l ++ ulS s ∧ (validAll (body l ++ s)).2 = (validAll s).2 := by
  have one : ∀ r rest x, r ≤ 1114111 → (jtS (rest ++ s) = (jtS s).map (· + rest.length) ∧ ulS (rest ++ s) = x ++ ulS s ∧ (validAll (rest ++ s)).2 = (validAll s).2) →
      jtS ((spel r ++ rest) ++ s) = (jtS s).map (· + (spel r ++ rest).length) ∧ ulS ((spel r ++ rest) ++ s) = (pairU r ++ x) ++ ulS s ∧ (validAll ((spel r ++ rest) ++ s)).2 = (validAll s).2 := by
    intro r rest x hr ⟨a1, a2, a3⟩
    obtain ⟨b1, b2, b3⟩ := spel_facts r hr (rest ++ s) (by simp; omega)
    rw [List.append_assoc]
    refine ⟨?_, ?_, ?_⟩
    · rw [b1, a1, Option.map_map]
      congr 1
      funext k
      simp; omega
    · rw [b2, a2, List.append_assoc]
    · rw [b3, a3]
  induction l using body.induct with
  | case1 => simp [body]
  | case2 u =>
    have hu := hl u (by simp)
    have := one u [] [] (by omega) (by simp)
    have hp : pairU u = [u] := by unfold pairU; rw [if_pos (by omega)]
    simpa [body, hp] using this
  | case3 u v t hp ih =>
    have hj := join_lt u v hp
    have := one (joinU u v) (body t) t (by omega) (ih (fun x hx => hl x (by simp [hx])))
    rw [pairU_join u v hp] at this
    simp only [body, if_pos hp]
    exact this
  | case4 u v t hp ih =>
    have hu := hl u (by simp)
    have := one u (body (v :: t)) (v :: t) (by omega) (ih (fun x hx => hl x (List.mem_cons_of_mem _ hx)))
    have hpu : pairU u = [u] := by unfold pairU; rw [if_pos (by omega)]
    rw [hpu] at this
    simp only [body, if_neg hp]
    exact this

end Go.Proofs.YtlobinjdgcidmaaGreatDoor.M

/- Plain numbers and lists: two texts with a blank between, split. -/
namespace Go.Proofs.YtlobinjdgcidmaaGreatDoor.M
open Go.Lib
set_option linter.unusedVariables false
set_option linter.unusedSimpArgs false

end Go.Proofs.YtlobinjdgcidmaaGreatDoor.M

/- Plain numbers and lists: tokens with blanks between them, put together and split again. -/
namespace Go.Proofs.YtlobinjdgcidmaaGreatDoor.M
open Go.Lib
set_option linter.unusedVariables false
set_option linter.unusedSimpArgs false

abbrev TL := List (Nat × List UInt8)
def bld (P : Nat → List UInt8) : Nat → TL → List UInt8
  | j, [] => P j
  | j, x :: r => P j ++ (x.2 ++ bld P (j + 1) r)
theorem bld_cons (P : Nat → List UInt8) (j : Nat) (x : Nat × List UInt8) (r : TL) : bld P j (x :: r) = P j ++ (x.2 ++ bld P (j + 1) r) := rfl
def pos (P : Nat → List UInt8) : Nat → Nat → TL → Toks
  | _, _, [] => []
  | j, p, x :: r => (x.1, p + (P j).length, p + ((P j).length + x.2.length)) :: pos P (j + 1) (p + ((P j).length + x.2.length)) r
def GoodT (x : Nat × List UInt8) : Prop := 0 < x.2.length ∧ tokL x.2 = some (x.1, x.2.length) ∧ (validAll x.2).2 = true
def Adj (P : Nat → List UInt8) : Nat → TL → Prop
  | _, [] => True
  | _, [_] => True
  | j, x :: y :: r => (P (j + 1) ≠ [] ∨ x.1 ≤ 7 ∨ y.1 ≤ 6) ∧ Adj P (j + 1) (y :: r)
theorem bl_go (c : UInt8) (h : blB c = true) : goB c = false ∧ c.toNat < 128 := by
  have h0 : ∀ d : Fin 256, blB d.val.toUInt8 = true → goB d.val.toUInt8 = false ∧ d.val < 128 := by decide +kernel
  have := h0 ⟨c.toNat, c.toNat_lt⟩
  simp only at this
  rw [show c.toNat.toUInt8 = c from by apply UInt8.toNat_inj.1; rw [toU8 c.toNat c.toNat_lt]] at this
  exact this h
theorem tok_head (s : List UInt8) (k n : Nat) (h : tokL s = some (k, n)) : blB (s.getD 0 0) = false := by
  cases hb : blB (s.getD 0 0) with
  | false => rfl
  | true =>
    exfalso
    have hx : (s.getD 0 0 = 32 ∨ s.getD 0 0 = 9) ∨ s.getD 0 0 = 10 ∨ s.getD 0 0 = 13 := by
      unfold blB at hb
      simp only [Bool.or_eq_true, beq_iff_eq] at hb
      rcases hb with ((e | e) | e) | e
      · exact .inl (.inl e)
      · exact .inl (.inr e)
      · exact .inr (.inl e)
      · exact .inr (.inr e)
    have hn : numL s = none := by
      unfold numL
      have hg : neg s = 0 := by
        unfold neg
        rw [if_neg (by rcases hx with (e | e) | e | e <;> (rw [e]; decide))]
      rw [hg, if_neg (by rcases hx with (e | e) | e | e <;> (rw [e]; decide))]
    unfold tokL at h
    rw [hn] at h
    rcases hx with (e | e) | e | e <;> (rw [e] at h; simp at h)
theorem tok_sign (s : List UInt8) (k n : Nat) (h : tokL s = some (k, n)) (hk : k ≤ 6) : goB (s.getD 0 0) = false := by
  unfold tokL at h
  by_cases c1 : s.getD 0 0 = 123
  · rw [c1]; decide
  rw [if_neg c1] at h
  by_cases c2 : s.getD 0 0 = 125
  · rw [c2]; decide
  rw [if_neg c2] at h
  by_cases c3 : s.getD 0 0 = 91
  · rw [c3]; decide
  rw [if_neg c3] at h
  by_cases c4 : s.getD 0 0 = 93
  · rw [c4]; decide
  rw [if_neg c4] at h
  by_cases c5 : s.getD 0 0 = 58
  · rw [c5]; decide
  rw [if_neg c5] at h
  by_cases c6 : s.getD 0 0 = 44
  · rw [c6]; decide
  rw [if_neg c6] at h
  exfalso
  split at h
  · cases hj : jtS (s.drop 1) with
    | none => rw [hj] at h; simp at h
    | some m => rw [hj] at h; simp at h; omega
  · split at h
    · have := (wordL_le tru s 9 (by decide) k n h).1; omega
    · split at h
      · have := (wordL_le fls s 10 (by decide) k n h).1; omega
      · split at h
        · have := (wordL_le nul s 11 (by decide) k n h).1; omega
        · cases hj : numL s with
          | none => rw [hj] at h; simp at h
          | some m => rw [hj] at h; simp at h; omega
theorem getD_app (a b : List UInt8) (h : a ≠ []) : (a ++ b).getD 0 0 = a.getD 0 0 := by
  cases a with
  | nil => exact absurd rfl h
  | cons c t => rfl
theorem lead_app (p s : List UInt8) (hp : ∀ c ∈ p, blB c = true) (hs : blB (s.getD 0 0) = false) : lead (p ++ s) = p.length := by
  apply lead_of
  · intro j hj
    rw [show (p ++ s).getD j 0 = p[j] by simp [List.getD, List.getElem?_append_left hj, hj]]
    exact hp _ (List.getElem_mem hj)
  · rw [show (p ++ s).getD p.length 0 = s.getD 0 0 by simp only [List.getD]; rw [List.getElem?_append_right (Nat.le_refl _), Nat.sub_self]]
    exact hs
theorem lead_only (p : List UInt8) (hp : ∀ c ∈ p, blB c = true) : lead p = p.length := by
  have := lead_app p [] hp (by decide)
  rwa [List.append_nil] at this
theorem bld_head (P : Nat → List UInt8) (hP : ∀ j, ∀ c ∈ P j, blB c = true) (j : Nat) (r : TL) (hg : ∀ x ∈ r, GoodT x) (h : P j ≠ [] ∨ (∀ y, r.head? = some y → y.1 ≤ 6)) : goB ((bld P j r).getD 0 0) = false := by
  by_cases hne : P j = []
  · cases r with
    | nil => unfold bld; rw [hne]; decide
    | cons y r =>
      rw [bld_cons, hne, List.nil_append]
      have gy := hg y (by simp)
      have hy : y.1 ≤ 6 := by
        rcases h with h | h
        · exact absurd hne h
        · exact h y rfl
      rw [getD_app _ _ (by intro e; have g1 := gy.1; rw [e] at g1; exact absurd g1 (by simp))]
      exact tok_sign y.2 y.1 _ gy.2.1 hy
  · have hb : ∀ t, goB ((P j ++ t).getD 0 0) = false := fun t => by
      rw [getD_app _ _ hne]
      cases hp : P j with
      | nil => exact absurd hp hne
      | cons c u => exact (bl_go c (hP j c (by rw [hp]; simp))).1
    cases r with
    | nil => unfold bld; have := hb []; rwa [List.append_nil] at this
    | cons y r => rw [bld_cons]; exact hb _
theorem lex_bld (P : Nat → List UInt8) (hP : ∀ j, ∀ c ∈ P j, blB c = true) (r : TL) : ∀ (j p : Nat), (∀ x ∈ r, GoodT x) → Adj P j r → lexS (bld P j r) p = .ok (pos P j p r) := by
  induction r with
  | nil =>
    intro j p hg ha
    unfold bld pos
    exact lexS_end _ _ (by rw [lead_only _ (hP j)]; exact Nat.le_refl _)
  | cons x r ih =>
    intro j p hg ha
    have gx := hg x (by simp)
    have hg' : ∀ y ∈ r, GoodT y := fun y hy => hg y (by simp [hy])
    have ha' : Adj P (j + 1) r := by
      cases r with
      | nil => trivial
      | cons y r => exact ha.2
    have hh := tok_head x.2 _ _ gx.2.1
    have hne : x.2 ≠ [] := by intro e; have g1 := gx.1; rw [e] at g1; exact absurd g1 (by simp)
    have hld : lead (bld P j (x :: r)) = (P j).length := by
      rw [bld_cons]
      exact lead_app _ _ (hP j) (by rw [getD_app _ _ hne]; exact hh)
    have hdr : (bld P j (x :: r)).drop (P j).length = x.2 ++ bld P (j + 1) r := by rw [bld_cons]; exact List.drop_left
    have htk : tokL (x.2 ++ bld P (j + 1) r) = some (x.1, x.2.length) := by
      have hloc := tok_local x.2 (bld P (j + 1) r) x.1 x.2.length gx.1 gx.2.1 (by
        by_cases hk : x.1 ≤ 7
        · exact .inl hk
        · right
          apply bld_head P hP (j + 1) r hg'
          cases r with
          | nil => right; intro y hy; simp at hy
          | cons y r =>
            rcases ha.1 with h | h | h
            · exact .inl h
            · exact absurd h hk
            · right; intro z hz; simp at hz; subst hz; exact h)
      rwa [List.take_length] at hloc
    have hlt : lead (bld P j (x :: r)) < (bld P j (x :: r)).length := by
      rw [hld, bld_cons]; simp only [List.length_append]; have := gx.1; omega
    rw [lexS_in _ p x.1 x.2.length hlt (by rw [hld, hdr]; exact htk), hld]
    have hdr2 : (bld P j (x :: r)).drop ((P j).length + x.2.length) = bld P (j + 1) r := by
      rw [← List.drop_drop, hdr]; exact List.drop_left
    rw [hdr2, ih (j + 1) (p + ((P j).length + x.2.length)) hg' ha']
    rfl
theorem valid_blank (p : List UInt8) (hp : ∀ c ∈ p, blB c = true) : (validAll p).2 = true := by
  have := valid_asciis p.length p (Nat.le_refl _) (fun j hj => by
    rw [show p.getD j 0 = p[j] by simp [hj]]
    exact (bl_go _ (hp _ (List.getElem_mem hj))).2)
  rw [this, List.drop_length]; rfl
theorem valid_bld (P : Nat → List UInt8) (hP : ∀ j, ∀ c ∈ P j, blB c = true) (r : TL) : ∀ j, (∀ x ∈ r, GoodT x) → (validAll (bld P j r)).2 = true := by
  induction r with
  | nil => intro j hg; unfold bld; exact valid_blank _ (hP j)
  | cons x r ih =>
    intro j hg
    rw [bld_cons, join_good _ _ (valid_blank _ (hP j)), join_good _ _ (hg x (by simp)).2.2]
    exact ih (j + 1) (fun y hy => hg y (by simp [hy]))
end Go.Proofs.YtlobinjdgcidmaaGreatDoor.M

/- Plain numbers and lists: each token of a text, taken out, is a token alone, and UTF-8. -/
namespace Go.Proofs.YtlobinjdgcidmaaGreatDoor
open Go.Lib
set_option linter.unusedVariables false
set_option linter.unusedSimpArgs false

theorem valid_all_ascii (s : List UInt8) (h : ∀ j, j < s.length → (s.getD j 0).toNat < 128) : (M.validAll s).2 = true := by
  rw [M.valid_asciis s.length s (Nat.le_refl _) h, List.drop_length]; rfl
end Go.Proofs.YtlobinjdgcidmaaGreatDoor

/- Plain numbers and lists: the tokens of a text as texts of their own; where they stand when they are put together anew. -/
namespace Go.Proofs.YtlobinjdgcidmaaGreatDoor
open Go.Lib
set_option linter.unusedVariables false
set_option linter.unusedSimpArgs false

end Go.Proofs.YtlobinjdgcidmaaGreatDoor
/- Plain: which units a text has, how long it is written; how long a number is written; what is read may be. -/
namespace Go.Proofs.YtlobinjdgcidmaaGreatDoor
open Go.RowKit
set_option linter.unusedVariables false
set_option linter.unusedSimpArgs false

theorem hex4_le (t : List UInt8) : M.hex4 t ≤ 65535 := by
  unfold M.hex4 M.hexN
  have h0 := M.hexV_lt (t.getD 0 0)
  have h1 := M.hexV_lt (t.getD 1 0)
  have h2 := M.hexV_lt (t.getD 2 0)
  have h3 := M.hexV_lt (t.getD 3 0)
  omega
theorem escV_le (d : UInt8) : M.escV d ≤ 65535 := by
  have := d.toNat_lt
  unfold M.escV
  repeat' split
  all_goals omega
namespace M
end M
end Go.Proofs.YtlobinjdgcidmaaGreatDoor
/- JSON, plain: each piece is one token of its kind; texts side by side. -/
namespace Go.Proofs.YtlobinjdgcidmaaGreatDoor.M
open Go.Lib
set_option linter.unusedVariables false
set_option linter.unusedSimpArgs false

theorem run_app (W t : List UInt8) (h : ∀ c ∈ W, dgB c = true) (ht : dgB (t.getD 0 0) = false) : run (W ++ t) = W.length := by
  induction W with
  | nil =>
    cases t with
    | nil => rfl
    | cons c t => have : dgB c = false := by simpa using ht
                  simp [run, this]
  | cons c W ih =>
    have hc := h c (List.mem_cons_self ..)
    rw [List.cons_append, run, if_pos hc, ih fun x hx => h x (List.mem_cons_of_mem _ hx), List.length_cons]
def FrF (F : List UInt8) : Prop := F = [] ∨ ∃ G, G ≠ [] ∧ (∀ c ∈ G, dgB c = true) ∧ F = 46 :: G
def PwF (X : List UInt8) : Prop := X = [] ∨ ∃ (b : Bool) (G : List UInt8), G ≠ [] ∧ (∀ c ∈ G, dgB c = true) ∧ X = 101 :: ((if b then [45] else []) ++ G)
def WhF (W : List UInt8) : Prop := W = [48] ∨ (W ≠ [] ∧ (∀ c ∈ W, dgB c = true) ∧ W.getD 0 0 ≠ 48)
theorem dg_ne {c : UInt8} (h : dgB c = true) : c ≠ 43 ∧ c ≠ 46 ∧ c ≠ 45 := by
  refine ⟨?_, ?_, ?_⟩ <;> rintro rfl <;> revert h <;> decide
theorem frac_app (F X : List UInt8) (hF : FrF F) (hX : PwF X) : frac (F ++ X) = F.length ∧ dgB ((F ++ X).getD 0 0) = false := by
  have hx : dgB (X.getD 0 0) = false ∧ X.getD 0 0 ≠ 46 := by
    rcases hX with rfl | ⟨b, G, _, _, rfl⟩
    · exact ⟨by decide, by decide⟩
    · exact ⟨by show dgB 101 = false; decide, by show (101 : UInt8) ≠ 46; decide⟩
  rcases hF with rfl | ⟨G, g0, g1, rfl⟩
  · rw [List.nil_append]
    refine ⟨?_, hx.1⟩
    unfold frac
    rw [if_neg (fun h => hx.2 h.1)]; rfl
  · refine ⟨?_, by show dgB 46 = false; decide⟩
    unfold frac
    cases G with
    | nil => exact absurd rfl g0
    | cons g G =>
      have hg := g1 g (List.mem_cons_self ..)
      rw [if_pos ⟨by simp, by simpa using hg⟩]
      have e : ((46 :: g :: G) ++ X).drop 1 = (g :: G) ++ X := by simp
      rw [e, run_app _ _ g1 hx.1]
      simp; omega
theorem expo_app (X : List UInt8) (hX : PwF X) : expo X = X.length := by
  rcases hX with rfl | ⟨b, G, g0, g1, rfl⟩
  · decide
  · have hr : run G = G.length := by
      have := run_app G [] g1 (by decide)
      rwa [List.append_nil] at this
    cases G with
    | nil => exact absurd rfl g0
    | cons g G =>
      have hg := g1 g (List.mem_cons_self ..)
      have hn := dg_ne hg
      cases b with
      | true =>
        show expo (101 :: 45 :: g :: G) = _
        have s2 : sgnQ (101 :: 45 :: g :: G) = 2 := by unfold sgnQ; rw [if_pos (.inr rfl)]
        unfold expo
        rw [s2, if_pos (.inl rfl), if_pos (show dgB ((101 :: 45 :: g :: G).getD 2 0) = true from hg)]
        show 2 + run (g :: G) = _
        rw [hr]; simp; omega
      | false =>
        show expo (101 :: g :: G) = _
        have s2 : sgnQ (101 :: g :: G) = 1 := by
          unfold sgnQ
          rw [if_neg]
          rintro (h | h)
          · exact hn.1 h
          · exact hn.2.2 h
        unfold expo
        rw [s2, if_pos (.inl rfl), if_pos (show dgB ((101 :: g :: G).getD 1 0) = true from hg)]
        show 1 + run (g :: G) = _
        rw [hr]; simp; omega
theorem num_form (ng : Bool) (W F X : List UInt8) (hW : WhF W) (hF : FrF F) (hX : PwF X) : numL (sgl ng ++ (W ++ (F ++ X))) = some (sgl ng ++ (W ++ (F ++ X))).length := by
  obtain ⟨fr, fd⟩ := frac_app F X hF hX
  have ex := expo_app X hX
  obtain ⟨w, W', rfl, hw⟩ : ∃ w W', W = w :: W' ∧ dgB w = true := by
    rcases hW with rfl | ⟨h, h2, _⟩
    · exact ⟨48, [], rfl, by decide⟩
    · cases W with
      | nil => exact absurd rfl h
      | cons w W' => exact ⟨w, W', rfl, h2 w (List.mem_cons_self ..)⟩
  have hwh : whole ((w :: W') ++ (F ++ X)) = (w :: W').length := by
    unfold whole
    rcases hW with h | ⟨_, h2, h3⟩
    · simp only [List.cons.injEq] at h
      obtain ⟨rfl, rfl⟩ := h
      rw [if_pos (by simp)]; rfl
    · have : ((w :: W') ++ (F ++ X)).getD 0 0 ≠ 48 := by simpa using h3
      rw [if_neg this, run_app _ _ h2 fd]
  have hneg : neg (sgl ng ++ ((w :: W') ++ (F ++ X))) = (sgl ng).length := by
    unfold neg
    cases ng with
    | true => rw [if_pos (by simp [sgl])]; rfl
    | false => rw [if_neg (by simp [sgl, (dg_ne hw).2.2])]; rfl
  obtain ⟨R, hR⟩ : ∃ R, (w :: W') ++ (F ++ X) = R := ⟨_, rfl⟩
  have hd : dgB ((sgl ng ++ R).getD (sgl ng).length 0) = true := by
    rw [← hR]
    cases ng <;> simpa [sgl] using hw
  have hdr : (sgl ng ++ R).drop (sgl ng).length = R := by simp
  unfold numL
  rw [hR] at hneg ⊢
  rw [hneg, if_pos hd, hdr]
  simp only
  rw [← hR, hwh]
  have d1 : (sgl ng ++ ((w :: W') ++ (F ++ X))).drop ((sgl ng).length + (w :: W').length) = F ++ X := by
    rw [← List.append_assoc, ← List.length_append, List.drop_left]
  rw [d1, fr]
  have d2 : (sgl ng ++ ((w :: W') ++ (F ++ X))).drop ((sgl ng).length + (w :: W').length + F.length) = X := by
    rw [← List.append_assoc, ← List.append_assoc, ← List.length_append, ← List.length_append, List.drop_left]
  rw [d2, ex]
  have ln : (sgl ng).length + (w :: W').length + F.length + X.length = (sgl ng ++ ((w :: W') ++ (F ++ X))).length := by simp only [List.length_append]; omega
  rw [ln]
  have ge : (sgl ng ++ ((w :: W') ++ (F ++ X))).getD (sgl ng ++ ((w :: W') ++ (F ++ X))).length 0 = 0 := by simp [List.getD]
  rw [ge, if_neg (by decide)]
theorem canon_WhF (m : Nat) (h : m ≠ 0) (hh : (canon m).head? ≠ some 48) : WhF (canon m) := by
  refine .inr ⟨canon_ne m h, canon_dig m, fun e => hh ?_⟩
  cases hc : canon m with
  | nil => exact absurd hc (canon_ne m h)
  | cons a t => rw [hc] at e; simp at e; simp [e]
theorem txt_PwF (X : Int) : PwF (101 :: txt X) := by
  refine .inr ?_
  unfold txt
  by_cases h0 : X = 0
  · rw [if_pos h0]; exact ⟨false, [48], by simp, by decide, rfl⟩
  · rw [if_neg h0]
    by_cases h1 : X < 0
    · rw [if_pos h1]; exact ⟨true, canon X.natAbs, canon_ne _ (by omega), canon_dig _, rfl⟩
    · rw [if_neg h1]; exact ⟨false, canon X.natAbs, canon_ne _ (by omega), canon_dig _, rfl⟩
theorem app_WhF {D T : List UInt8} (h : WhF D) (h0 : D.getD 0 0 ≠ 48) (hT : ∀ c ∈ T, dgB c = true) : WhF (D ++ T) := by
  rcases h with rfl | ⟨a, b, c⟩
  · exact absurd rfl h0
  · refine .inr ⟨by simp [a], fun x hx => ?_, ?_⟩
    · rcases List.mem_append.1 hx with hx | hx
      · exact b x hx
      · exact hT x hx
    · cases D with
      | nil => exact absurd rfl a
      | cons d D => simpa using c
theorem plain_num (ng : Bool) (D E : List UInt8) : ∀ t ∈ plainN ng D E, numL t = some t.length := by
  intro t ht
  unfold plainN at ht
  split at ht
  · rename_i hr
    have hr2 := hr
    by_cases hD : D = []
    · rw [if_pos hD] at ht
      rw [List.mem_singleton.1 ht]
      have := num_form ng [48] [] [] (.inl rfl) (.inl rfl) (.inl rfl)
      simpa using this
    · rw [if_neg hD] at ht
      have hh : D.head? ≠ some 48 := by
        unfold rightN at hr2
        rw [if_neg hD] at hr2
        simp only [Bool.and_eq_true, bne_iff_ne] at hr2
        exact hr2.1.1.2
      rcases right_ex D E hr with ⟨h, _⟩ | ⟨m, X, hm, rfl, rfl⟩
      · exact absurd h hD
      have hW := canon_WhF m (by rintro rfl; exact hm rfl) hh
      have h48 : (canon m).getD 0 0 ≠ 48 := by
        rcases hW with h | ⟨_, _, h⟩
        · rw [h] at hh; exact absurd rfl hh
        · exact h
      have hdg := canon_dig m
      obtain ⟨D, hDm⟩ : ∃ D, canon m = D := ⟨_, rfl⟩
      rw [hDm] at ht hW h48 hdg hD
      have hpos := List.length_pos_iff.2 hD
      rcases List.mem_append.1 ht with ht | ht
      · unfold plain1 at ht
        split at ht
        · rename_i hc
          rw [List.mem_singleton.1 ht]
          obtain ⟨x, hx⟩ : ∃ x, (intD (txt X)).1 = x := ⟨_, rfl⟩
          rw [hx] at hc ⊢
          have hu := hc.2
          unfold unsc at hu ⊢
          split
          · have := num_form ng (D ++ List.replicate x.toNat 48) [] [] (app_WhF hW h48 (by intro c hc; rw [List.eq_of_mem_replicate hc]; decide)) (.inl rfl) (.inl rfl)
            simpa using this
          · split
            · rename_i n1 n2
              obtain ⟨k, hk⟩ : ∃ k, ((D.length : Int) + x).toNat = k := ⟨_, rfl⟩
              rw [hk]
              have k1 : 0 < k := by omega
              have k2 : k < D.length := by omega
              have hT : WhF (D.take k) := by
                refine .inr ⟨?_, fun c hc => hdg c (List.mem_of_mem_take hc), ?_⟩
                · intro e; have := congrArg List.length e; rw [List.length_take, List.length_nil] at this; omega
                · cases D with
                  | nil => simp at hpos
                  | cons d D => obtain ⟨k, rfl⟩ : ∃ q, k = q + 1 := ⟨k - 1, by omega⟩; simpa using h48
              have := num_form ng (D.take k) (46 :: D.drop k) [] hT (.inr ⟨D.drop k, by intro e; have := congrArg List.length e; rw [List.length_drop, List.length_nil] at this; omega, fun c hc => hdg c (List.mem_of_mem_drop hc), rfl⟩) (.inl rfl)
              simpa using this
            · split
              · have := num_form ng [48] (46 :: (List.replicate (-((D.length : Int) + x)).toNat 48 ++ D)) [] (.inl rfl) (.inr ⟨_, by simp [hD], fun c hc => by
                  rcases List.mem_append.1 hc with hc | hc
                  · rw [List.eq_of_mem_replicate hc]; decide
                  · exact hdg c hc, rfl⟩) (.inl rfl)
                simpa using this
              · rename_i n1 n2 n3
                rw [if_neg n1, if_neg n2, if_neg n3] at hu
                exact absurd rfl hu
        · simp at ht
      · rcases List.mem_append.1 ht with ht | ht
        · rw [List.mem_singleton.1 ht]
          have := num_form ng D [] (101 :: txt X) hW (.inl rfl) (txt_PwF X)
          simpa using this
        · unfold plain3 at ht
          rw [upE_txt] at ht
          split at ht
          · rename_i hc
            rw [List.mem_singleton.1 ht]
            cases D with
            | nil => simp at hpos
            | cons d D =>
              have h1 : WhF [d] := .inr ⟨by simp, fun c hc => by rw [List.mem_singleton.1 hc]; exact hdg d (List.mem_cons_self ..), by simpa using h48⟩
              have hne : D ≠ [] := by intro e; subst e; simp at hc
              have := num_form ng [d] (46 :: D) (101 :: txt (X + (((d :: D).length : Int) - 1))) h1 (.inr ⟨D, hne, fun c hc => hdg c (List.mem_cons_of_mem _ hc), rfl⟩) (txt_PwF _)
              simpa using this
          · simp at ht
  · simp at ht
end Go.Proofs.YtlobinjdgcidmaaGreatDoor.M
/- JSON, plain: each piece is one token of its kind. -/
namespace Go.Proofs.YtlobinjdgcidmaaGreatDoor
set_option linter.unusedVariables false
set_option linter.unusedSimpArgs false

theorem spell_tok (us : List Nat) (h : ∀ u ∈ us, u ≤ 65535) : M.tokL (M.spell us) = some (7, (M.spell us).length) ∧ (M.validAll (M.spell us)).2 = true := by
  obtain ⟨b1, b2, b3⟩ := M.body_facts us h [34] (by simp)
  have hj : M.jtS [34] = some 1 := by rw [M.jtS_cons, if_pos rfl]
  have hv34 : (M.validAll [34]).2 = true := by decide +kernel
  constructor
  · unfold M.tokL
    have g0 : (M.spell us).getD 0 0 = 34 := by simp [M.spell]
    rw [g0]
    rw [if_neg (by decide), if_neg (by decide), if_neg (by decide), if_neg (by decide), if_neg (by decide), if_neg (by decide), if_pos rfl]
    have hd : (M.spell us).drop 1 = M.body us ++ [34] := rfl
    rw [hd, b1, hj]
    simp [M.spell]; omega
  · rw [M.valid_ascii _ (by simp [M.spell]) (by simp [M.spell])]
    show (M.validAll (M.body us ++ [34])).2 = true
    rw [b3, hv34]
theorem num_tok (s : List UInt8) (h0 : 0 < s.length) (h : M.numL s = some s.length) : M.GoodT (8, s) := by
  have ht : M.tokL s = some (8, s.length) := by
    unfold M.tokL
    cases s with
    | nil => simp at h0
    | cons a t =>
      have ha : a = 45 ∨ M.dgB a = true := by
        unfold M.numL at h
        split at h
        · rename_i hd
          by_cases h45 : a = 45
          · exact .inl h45
          · rw [show M.neg (a :: t) = 0 by simp [M.neg, h45]] at hd
            exact .inr (by simpa using hd)
        · cases h
      have nn : a ≠ 123 ∧ a ≠ 125 ∧ a ≠ 91 ∧ a ≠ 93 ∧ a ≠ 58 ∧ a ≠ 44 ∧ a ≠ 34 ∧ a ≠ 116 ∧ a ≠ 102 ∧ a ≠ 110 := by
        rcases ha with rfl | ha
        · decide
        · refine ⟨?_, ?_, ?_, ?_, ?_, ?_, ?_, ?_, ?_, ?_⟩ <;> rintro rfl <;> revert ha <;> decide
      obtain ⟨n1, n2, n3, n4, n5, n6, n7, n8, n9, n10⟩ := nn
      simp only [List.getD_cons_zero, n1, n2, n3, n4, n5, n6, n7, n8, n9, n10, if_false, h, Option.map_some]
  have ascii : (M.validAll s).2 = true := valid_all_ascii s fun j hj => M.tok_ascii s 8 s.length ht (by decide) j hj
  exact ⟨h0, ht, ascii⟩
theorem good_of (k : Nat) (s : List UInt8) (h : (decide (0 < s.length) && (M.tokL s == some (k, s.length)) && (M.validAll s).2) = true) : M.GoodT (k, s) := by
  simp only [Bool.and_eq_true, decide_eq_true_eq, beq_iff_eq] at h
  exact ⟨h.1.1, h.1.2, h.2⟩
end Go.Proofs.YtlobinjdgcidmaaGreatDoor
