/- Plain numbers and lists: what is written of units is read as those units; no text that stands for the same units is shorter. -/
import Derived.Test.YtmhjafpoaamkeaaKMath2
namespace Go.Proofs.Ytmhjafpoaamkeaa.M
open Go.Lib
set_option linter.unusedVariables false
set_option linter.unusedSimpArgs false

theorem hexV_hexd (n : Nat) (h : n < 16) : hexV (hexd n) = n := by
  have : n = 0 ∨ n = 1 ∨ n = 2 ∨ n = 3 ∨ n = 4 ∨ n = 5 ∨ n = 6 ∨ n = 7 ∨ n = 8 ∨ n = 9 ∨ n = 10 ∨ n = 11 ∨ n = 12 ∨ n = 13 ∨ n = 14 ∨ n = 15 := by omega
  rcases this with rfl | rfl | rfl | rfl | rfl | rfl | rfl | rfl | rfl | rfl | rfl | rfl | rfl | rfl | rfl | rfl <;> decide +kernel
theorem hexd_low (n : Nat) (h : n < 16) : (hexd n).toNat < 128 := by
  have : n = 0 ∨ n = 1 ∨ n = 2 ∨ n = 3 ∨ n = 4 ∨ n = 5 ∨ n = 6 ∨ n = 7 ∨ n = 8 ∨ n = 9 ∨ n = 10 ∨ n = 11 ∨ n = 12 ∨ n = 13 ∨ n = 14 ∨ n = 15 := by omega
  rcases this with rfl | rfl | rfl | rfl | rfl | rfl | rfl | rfl | rfl | rfl | rfl | rfl | rfl | rfl | rfl | rfl <;> decide +kernel
theorem escL_low {d : UInt8} (h : d ∈ escL) : d.toNat < 128 ∧ d ≠ 117 := by
  unfold escL at h
  simp only [List.mem_cons, List.mem_nil_iff, or_false] at h
  rcases h with rfl | rfl | rfl | rfl | rfl | rfl | rfl | rfl <;> decide
theorem esc_facts (d : UInt8) (hd : d ∈ escL) (s : List UInt8) :
    jtS ([92, d] ++ s) = (jtS s).map (· + 2) ∧ ulS ([92, d] ++ s) = escV d :: ulS s ∧ (validAll ([92, d] ++ s)).2 = (validAll s).2 := by
  have hl := escL_low hd
  refine ⟨?_, ?_, ?_⟩
  · show jtS (92 :: d :: s) = _
    rw [jtS_cons, if_neg (by decide), if_neg (by decide), if_neg (by simp), List.getD_cons_zero, if_neg hl.2, if_pos hd]
    rfl
  · show ulS (92 :: d :: s) = _
    rw [ulS_esc _ (by simp) (by simpa using hl.2)]
    rfl
  · rw [valid_asciis 2 _ (by simp) (fun j hj => by
      have : j = 0 ∨ j = 1 := by omega
      rcases this with rfl | rfl
      · simp
      · simpa using hl.1)]
    rfl
theorem num_facts (r : Nat) (hr : r ≤ 65535) (s : List UInt8) :
    jtS (num6 r ++ s) = (jtS s).map (· + 6) ∧ ulS (num6 r ++ s) = r :: ulS s ∧ (validAll (num6 r ++ s)).2 = (validAll s).2 := by
  have e : num6 r ++ s = 92 :: 117 :: hexd (r / 4096) :: hexd (r / 256 % 16) :: hexd (r / 16 % 16) :: hexd (r % 16) :: s := rfl
  have q0 := hexV_hexd (r / 4096) (by omega)
  have q1 := hexV_hexd (r / 256 % 16) (by omega)
  have q2 := hexV_hexd (r / 16 % 16) (by omega)
  have q3 := hexV_hexd (r % 16) (by omega)
  rw [e]
  refine ⟨?_, ?_, ?_⟩
  · rw [jtS_cons, if_neg (by decide), if_neg (by decide), if_neg (by simp), List.getD_cons_zero, if_pos rfl, if_pos]
    · rfl
    · unfold hex4ok hexOk
      simp only [List.drop_succ_cons, List.drop_zero, List.getD_cons_zero, List.getD_cons_succ, q0, q1, q2, q3]
      simp
      omega
  · rw [ulS_hex _ (by simp)]
    simp only [List.drop_succ_cons, List.drop_zero]
    unfold hex4 hexN
    simp only [List.getD_cons_zero, List.getD_cons_succ, q0, q1, q2, q3]
    simp only [Int.toNat_natCast]
    congr 1
    omega
  · rw [valid_asciis 6 _ (by simp) (fun j hj => by
      have : j = 0 ∨ j = 1 ∨ j = 2 ∨ j = 3 ∨ j = 4 ∨ j = 5 := by omega
      rcases this with rfl | rfl | rfl | rfl | rfl | rfl
      · simp
      · simp
      · exact hexd_low _ (by omega)
      · exact hexd_low _ (by omega)
      · exact hexd_low _ (by omega)
      · exact hexd_low _ (by omega))]
    rfl
theorem enc_high (r : Nat) (h : isCP r = true) (h1 : 128 ≤ r) : ∀ c ∈ enc r, 128 ≤ c.toNat := by
  rw [isCP_iff] at h
  intro c hc
  by_cases h2 : r < 2048
  · rw [enc_two r h1 h2] at hc
    simp only [List.mem_cons, List.mem_nil_iff, or_false] at hc
    rcases hc with rfl | rfl <;> (rw [toU8 _ (by omega)]; omega)
  · by_cases h3 : r ≤ 65535
    · rw [enc_three r (by omega)] at hc
      simp only [List.mem_cons, List.mem_nil_iff, or_false] at hc
      rcases hc with rfl | rfl | rfl <;> (rw [toU8 _ (by omega)]; omega)
    · rw [enc_four r (by omega) (by omega)] at hc
      simp only [List.mem_cons, List.mem_nil_iff, or_false] at hc
      rcases hc with rfl | rfl | rfl | rfl <;> (rw [toU8 _ (by omega)]; omega)
theorem enc_facts (r : Nat) (h : isCP r = true) (h0 : 32 ≤ r) (h34 : r ≠ 34) (h92 : r ≠ 92) (s : List UInt8) (hs : 0 < s.length) :
    jtS (enc r ++ s) = (jtS s).map (· + (enc r).length) ∧ ulS (enc r ++ s) = pairU r ++ ulS s ∧ (validAll (enc r ++ s)).2 = (validAll s).2 := by
  have hp := enc_pos r
  have hd := dec_enc r h s
  have hn := nx_enc r h s
  have hl := enc_len r h
  have hdrop : (enc r ++ s).drop (wid r) = s := by rw [← hl]; simp
  have hv : (validAll (enc r ++ s)).2 = (validAll s).2 := by
    rw [validAll_step _ (by simp; omega), hn, hd]; simp only [Bool.true_and]; rw [hdrop]
  obtain ⟨c, t, hct⟩ : ∃ c t, enc r = c :: t := by
    cases he : enc r with
    | nil => rw [he] at hp; simp at hp
    | cons c t => exact ⟨c, t, rfl⟩
  have hc : c ≠ 34 ∧ c ≠ 92 ∧ 32 ≤ c.toNat := by
    by_cases h1 : r < 128
    · rw [enc_one r h1] at hct
      simp only [List.cons.injEq] at hct
      have : c.toNat = r := by rw [← hct.1, toU8 r (by omega)]
      refine ⟨fun e => ?_, fun e => ?_, by omega⟩
      · subst e; exact h34 (by simpa using this.symm)
      · subst e; exact h92 (by simpa using this.symm)
    · have := enc_high r h (by omega) c (by rw [hct]; simp)
      refine ⟨fun e => ?_, fun e => ?_, by omega⟩ <;> (subst e; simp at this)
  refine ⟨?_, ?_, hv⟩
  · by_cases h1 : r < 128
    · have hct2 := hct
      rw [enc_one r h1] at hct2
      simp only [List.cons.injEq] at hct2
      rw [hct, ← hct2.2]
      show jtS (c :: s) = _
      rw [jtS_cons, if_neg hc.1, if_neg (by omega), if_pos hc.2.1]
      rfl
    · exact jtS_high _ _ (enc_high r h (by omega))
  · rw [hct] at hd hdrop ⊢
    rw [List.cons_append, ulS_cp c (t ++ s) (by simp; omega) hc.2.1]
    rw [List.cons_append] at hd hdrop
    rw [hd, hdrop]
theorem spel_facts (r : Nat) (hr : r ≤ 1114111) (s : List UInt8) (hs : 0 < s.length) :
    jtS (spel r ++ s) = (jtS s).map (· + (spel r).length) ∧ ulS (spel r ++ s) = pairU r ++ ulS s ∧ (validAll (spel r ++ s)).2 = (validAll s).2 := by
  have hp : r < 65536 → pairU r = [r] := fun h => by unfold pairU; rw [if_pos h]
  by_cases h1 : r = 34
  · subst h1; rw [show spel 34 = [92, 34] from rfl, hp (by omega)]; exact esc_facts 34 (by decide) s
  by_cases h2 : r = 92
  · subst h2; rw [show spel 92 = [92, 92] from rfl, hp (by omega)]; exact esc_facts 92 (by decide) s
  by_cases h3 : r = 8
  · subst h3; rw [show spel 8 = [92, 98] from rfl, hp (by omega)]; exact esc_facts 98 (by decide) s
  by_cases h4 : r = 12
  · subst h4; rw [show spel 12 = [92, 102] from rfl, hp (by omega)]; exact esc_facts 102 (by decide) s
  by_cases h5 : r = 10
  · subst h5; rw [show spel 10 = [92, 110] from rfl, hp (by omega)]; exact esc_facts 110 (by decide) s
  by_cases h6 : r = 13
  · subst h6; rw [show spel 13 = [92, 114] from rfl, hp (by omega)]; exact esc_facts 114 (by decide) s
  by_cases h7 : r = 9
  · subst h7; rw [show spel 9 = [92, 116] from rfl, hp (by omega)]; exact esc_facts 116 (by decide) s
  have e : spel r = if r < 32 ∨ Sur r then num6 r else enc r := by
    unfold spel
    rw [if_neg h1, if_neg h2, if_neg h3, if_neg h4, if_neg h5, if_neg h6, if_neg h7]
  rw [e]
  by_cases h8 : r < 32 ∨ Sur r
  · rw [if_pos h8]
    have hb : r ≤ 65535 := by unfold Sur at h8; omega
    rw [hp (by omega)]
    exact num_facts r hb s
  · rw [if_neg h8]
    have hcp : isCP r = true := by rw [isCP_iff]; unfold Sur at h8; omega
    exact enc_facts r hcp (by omega) h1 h2 s hs
theorem pairU_join (u v : Nat) (h : isPair u v = true) : pairU (joinU u v) = [u, v] := by
  have hj := join_lt u v h
  rw [isPair_iff] at h
  unfold pairU
  rw [if_neg (by omega)]
  unfold joinU
  have q1 : 55296 + (65536 + (u - 55296) * 1024 + (v - 56320) - 65536) / 1024 = u := by omega
  have q2 : 56320 + (65536 + (u - 55296) * 1024 + (v - 56320) - 65536) % 1024 = v := by omega
  rw [q1, q2]
theorem body_facts (l : List Nat) (hl : ∀ u ∈ l, u ≤ 65535) (s : List UInt8) (hs : 0 < s.length) :
    jtS (body l ++ s) = (jtS s).map (· + (body l).length) ∧ ulS (body l ++ s) = l ++ ulS s ∧ (validAll (body l ++ s)).2 = (validAll s).2 := by
  have one : ∀ r rest x, r ≤ 1114111 → (jtS (rest ++ s) = (jtS s).map (· + rest.length) ∧ ulS (rest ++ s) = x ++ ulS s ∧ (validAll (rest ++ s)).2 = (validAll s).2) →
      jtS ((spel r ++ rest) ++ s) = (jtS s).map (· + (spel r ++ rest).length) ∧ ulS ((spel r ++ rest) ++ s) = (pairU r ++ x) ++ ulS s ∧ (validAll ((spel r ++ rest) ++ s)).2 = (validAll s).2 := by
    intro r rest x hr ⟨a1, a2, a3⟩
    obtain ⟨b1, b2, b3⟩ := spel_facts r hr (rest ++ s) (by simp; omega)
    rw [List.append_assoc]
    refine ⟨?_, ?_, ?_⟩
    · rw [b1, a1, Option.map_map]
      congr 1
      funext k
      simp; omega
    · rw [b2, a2, List.append_assoc]
    · rw [b3, a3]
  induction l using body.induct with
  | case1 => simp [body]
  | case2 u =>
    have hu := hl u (by simp)
    have := one u [] [] (by omega) (by simp)
    have hp : pairU u = [u] := by unfold pairU; rw [if_pos (by omega)]
    simpa [body, hp] using this
  | case3 u v t hp ih =>
    have hj := join_lt u v hp
    have := one (joinU u v) (body t) t (by omega) (ih (fun x hx => hl x (by simp [hx])))
    rw [pairU_join u v hp] at this
    simp only [body, if_pos hp]
    exact this
  | case4 u v t hp ih =>
    have hu := hl u (by simp)
    have := one u (body (v :: t)) (v :: t) (by omega) (ih (fun x hx => hl x (List.mem_cons_of_mem _ hx)))
    have hpu : pairU u = [u] := by unfold pairU; rw [if_pos (by omega)]
    rw [hpu] at this
    simp only [body, if_neg hp]
    exact this

theorem dec_wid (s : List UInt8) (h : (nx s).2.2 = true) : (dec s).2 = wid (dec s).1 ∧ isCP (dec s).1 = true := by
  rw [nx_ok] at h
  rw [isCP_iff]
  have h0 := byte_lt s 0
  have h1 := byte_lt s 1
  have h2 := byte_lt s 2
  have h3 := byte_lt s 3
  unfold dec decodeN at h ⊢
  unfold wid
  repeat' split
  all_goals
    first
      | (exfalso; apply h; simp_all; done)
      | (simp_all; omega)
theorem dec_first (s : List UInt8) (h : (nx s).2.2 = true) : (dec s).1 = byte s 0 ∨ 128 ≤ (dec s).1 := by
  rw [nx_ok] at h
  unfold dec decodeN at h ⊢
  repeat' split
  all_goals
    first
      | (left; rfl)
      | (right; simp; omega)
      | (exfalso; apply h; simp_all; done)
theorem body_one (u : Nat) (x : List Nat) : (body (u :: x)).length ≤ (spel u).length + (body x).length := by
  cases x with
  | nil => simp [body]
  | cons v t =>
    by_cases hp : isPair u v = true
    · have hj := join_lt u v hp
      have hpi := (isPair_iff u v).1 hp
      simp only [body, if_pos hp, List.length_append]
      rw [spel_join u v hp]
      have h4 := enc_le (joinU u v)
      have h6 : (spel u).length = 6 := by
        unfold spel Sur num6
        rw [if_neg (by omega), if_neg (by omega), if_neg (by omega), if_neg (by omega), if_neg (by omega), if_neg (by omega), if_neg (by omega), if_pos (by omega)]
        rfl
      have hv : (body t).length ≤ (body (v :: t)).length := by
        cases t with
        | nil => simp [body]
        | cons y z =>
          have : isPair v y = false := by
            cases hq : isPair v y with
            | false => rfl
            | true => rw [isPair_iff] at hq; omega
          simp [body, this]
      omega
    · simp only [body, if_neg hp, List.length_append]
      omega
theorem body_pair (r : Nat) (hr : r ≤ 1114111) (x : List Nat) : (body (pairU r ++ x)).length ≤ (spel r).length + (body x).length := by
  unfold pairU
  by_cases h : r < 65536
  · rw [if_pos h]; exact body_one r x
  · rw [if_neg h]
    have hp : isPair (55296 + (r - 65536) / 1024) (56320 + (r - 65536) % 1024) = true := by rw [isPair_iff]; omega
    have hj : joinU (55296 + (r - 65536) / 1024) (56320 + (r - 65536) % 1024) = r := by unfold joinU; omega
    simp only [List.cons_append, List.nil_append, body, if_pos hp, hj, List.length_append]
    exact Nat.le_refl _
theorem spel_plain (r : Nat) (hcp : isCP r = true) (h0 : 32 ≤ r) (h34 : r ≠ 34) (h92 : r ≠ 92) : (spel r).length = wid r := by
  have h1 := (isCP_iff r).1 hcp
  unfold spel Sur
  rw [if_neg h34, if_neg h92, if_neg (by omega), if_neg (by omega), if_neg (by omega), if_neg (by omega), if_neg (by omega), if_neg (by omega), enc_len r hcp]
theorem spel_esc {d : UInt8} (h : d ∈ escL) : (spel (escV d)).length ≤ 2 := by
  unfold escL at h
  simp only [List.mem_cons, List.mem_nil_iff, or_false] at h
  rcases h with rfl | rfl | rfl | rfl | rfl | rfl | rfl | rfl <;> decide +kernel
theorem shrink (n : Nat) : ∀ s : List UInt8, s.length ≤ n → jtS s = some s.length → (validAll s).2 = true → (body (ulS s)).length + 1 ≤ s.length := by
  induction n with
  | zero => intro s hs hj; rw [List.length_eq_zero_iff.1 (by omega : s.length = 0), jtS_nil] at hj; exact absurd hj (by simp)
  | succ n ih =>
    intro s hs hj hv
    match s with
    | [] => rw [jtS_nil] at hj; exact absurd hj (by simp)
    | [c] => rw [ulS_end [c] (by simp)]; simp [body]
    | c :: d :: t =>
      have hl : 1 < (c :: d :: t).length := by simp
      by_cases hc : c = 92
      · subst hc
        by_cases hd : d = 117
        · subst hd
          have := jt_hex (117 :: t) hj hv rfl
          obtain ⟨a1, a2, a3, a4⟩ := this
          rw [ulS_hex (117 :: t) rfl]
          have hb := body_one (hex4 ((117 :: t).drop 1)) (ulS ((117 :: t).drop 5))
          have h6 := spel_len (hex4 ((117 :: t).drop 1))
          have hi := ih _ (by simp at hs a1 ⊢; omega) a3 a4
          simp at hi a1 ⊢ hb h6
          omega
        · have := jt_esc (d :: t) hj hv (by simpa using hd)
          obtain ⟨a1, a2, a3, a4⟩ := this
          rw [ulS_esc (d :: t) (by simp) (by simpa using hd)]
          have hb := body_one (escV ((d :: t).getD 0 0)) (ulS ((d :: t).drop 1))
          have h6 := spel_esc a2
          have hi := ih _ (by simp at hs ⊢; omega) a3 a4
          simp at hi a1 ⊢ hb h6
          omega
      · have := jt_cp (c :: d :: t) hj hl hv (by simpa using hc)
        obtain ⟨h1, h2, h3, h4, h5, h6⟩ := this
        rw [ulS_cp c (d :: t) (by simp) hc]
        have hw := dec_wid _ h3
        have hf := dec_first _ h3
        have hdr := dec_rune (c :: d :: t)
        have hb := body_pair (dec (c :: d :: t)).1 hdr (ulS ((c :: d :: t).drop (dec (c :: d :: t)).2))
        have hd1 := dec_width (c :: d :: t)
        have hi := ih _ (by simp at hs ⊢; omega) h5 h6
        have hby : byte (c :: d :: t) 0 = c.toNat := by simp [byte]
        simp only [List.getD_cons_zero] at h1 h2
        have n34 : c.toNat ≠ 34 := fun e => h1 (UInt8.toNat_inj.1 e)
        have n92 : c.toNat ≠ 92 := fun e => hc (UInt8.toNat_inj.1 e)
        have hsp := spel_plain _ hw.2 (by omega) (by omega) (by omega)
        rw [List.length_drop] at hi
        omega
/-- What is written is no longer than what was read. -/
theorem least (b : List UInt8) (h0 : b.getD 0 0 = 34) (h1 : 2 ≤ b.length) (hj : jtS (b.drop 1) = some (b.drop 1).length) (hv : (validAll (b.drop 1)).2 = true) : (spell (ulS (b.drop 1))).length ≤ b.length := by
  have := shrink _ (b.drop 1) (Nat.le_refl _) hj hv
  simp at this
  simp [spell]
  omega
end Go.Proofs.Ytmhjafpoaamkeaa.M
