/- Several texts of ours in one: CMath3 FMath5 FCs0 FEq FRow FCs. -/
import Derived.Test.YtilndlifmpbfnaaDoorBgU
import Derived.Test.YtilndlifmpbfnaaDoorBgD
import Derived.Test.YtilndlifmpbfnaaDoorFLex
import Derived.Test.YtilndlifmpbfnaaDoorFBase
import Derived.Laws.StructEq
import Derived.ChangeKeysEq
import Derived.Test.YtilndlifmpbfnaaDoorBgT
import Derived.Deep.MidRow
/- Plain numbers and lists: inputs one behind the other. -/
namespace Go.Proofs.YtilndlifmpbfnaaDoor.M
open Go.Lib
set_option linter.unusedVariables false
set_option linter.unusedSimpArgs false

theorem vall_step (s : List UInt8) (h : 0 < s.length) : (validAll s).2 = ((nx s).2.2 && (validAll (s.drop (dec s).2)).2) := by
  unfold validAll
  cases hn : (nx s).2.2 with
  | false => rw [valid_bad _ _ _ h h (by simpa using hn)]; simp
  | true =>
    rw [valid_good _ _ _ h h (by simpa using hn)]
    simp only [List.drop_zero, Nat.zero_add, Bool.true_and]
    have hw := dec_width s
    have hl := dec_le s h
    obtain ⟨a, b, hab, ha⟩ : ∃ a b, s = a ++ b ∧ a.length = (dec s).2 := ⟨s.take (dec s).2, s.drop (dec s).2, by simp, by simp; omega⟩
    have hb : s.drop (dec s).2 = b := by rw [← ha, hab]; simp
    have := valid_shift a b (s.length - 1) 0
    rw [hb, ← ha]
    conv => lhs; rw [show valid (s.length - 1) s a.length = valid (s.length - 1) (a ++ b) (a.length + 0) by rw [← hab, Nat.add_zero]]
    rw [this]
    simp only
    rw [valid_fuel b (s.length - 1) b.length 0 (by have := congrArg List.length hab; simp at this; omega) (by omega)]
def sh (n : Nat) (r : Int × Int) : Int × Int := (r.1, r.2 + n)
theorem step_shift (a b : List UInt8) (j : Nat) : stepR (a ++ b) (a.length + j) = stepR b j := by
  have e : (a ++ b).drop (a.length + j) = b.drop j := by rw [← List.drop_drop]; simp
  have g : (a ++ b).getD (a.length + j + 1) 0 = b.getD (j + 1) 0 := by
    simp only [List.getD]
    rw [List.getElem?_append_right (by omega), show a.length + j + 1 - a.length = j + 1 by omega]
  unfold stepR
  rw [e, g]
theorem rn_shift (a b : List UInt8) (n j : Nat) (hn : b.length - j ≤ n) : rn (a ++ b) (a.length + j) = (rn b j).map (sh a.length) := by
  induction n generalizing j with
  | zero => rw [rn_out b j (by omega), rn_out _ _ (by simp; omega)]; rfl
  | succ n ih =>
    by_cases h : j < b.length
    · have hs := step_le b j h
      rw [rn_in b j h, rn_in _ _ (by simp; omega), step_shift, List.map_cons, Nat.add_assoc, ih _ (by omega)]
      congr 1
      unfold sh
      simp
      omega
    · rw [rn_out b j (by omega), rn_out _ _ (by simp; omega)]; rfl
theorem byte_getD (s : List UInt8) (i k : Nat) : byte (s.drop i) k = (s.getD (i + k) 0).toNat := by
  unfold byte; simp [List.getD]
/-- One step within a whole input that does not end with byte 13. -/
theorem step_join (a b : List UInt8) (i : Nat) (hi : i < a.length) (hv : (validAll (a.drop i)).2 = true) (h13 : a.getD (a.length - 1) 0 ≠ 13) :
    stepR (a ++ b) i = stepR a i ∧ (validAll (a.drop (i + (stepR a i).2))).2 = true := by
  have hl0 : 0 < (a.drop i).length := by simp; omega
  have hst := vall_step (a.drop i) hl0
  rw [hv] at hst
  have hst2 := hst.symm
  rw [Bool.and_eq_true] at hst2
  obtain ⟨hn, hv2⟩ := hst2
  rw [List.drop_drop] at hv2
  have hda : (a ++ b).drop i = a.drop i ++ b := by rw [List.drop_append_of_le_length (by omega)]
  have hdec := dec_append (a.drop i) b hl0 hn
  by_cases hD : (dec (a.drop i)).1 = 13
  · have hlow := dec_low (a.drop i) (by omega)
    have hb13 : a.getD i 0 = 13 := by
      have := hlow.2
      rw [hD, byte_getD, Nat.add_zero] at this
      apply UInt8.toNat_inj.1; rw [← this]; rfl
    have hin : i + 1 < a.length := by
      by_cases h : i + 1 < a.length
      · exact h
      · exact absurd (by rw [show a.length - 1 = i by omega]; exact hb13) h13
    have hg : (a ++ b).getD (i + 1) 0 = a.getD (i + 1) 0 := by
      simp only [List.getD]; rw [List.getElem?_append_left hin]
    refine ⟨by unfold stepR; rw [hda, hdec, hg], ?_⟩
    rw [hlow.1] at hv2
    unfold stepR
    rw [if_neg (by omega), if_neg (by omega), if_pos hD]
    by_cases h10 : a.getD (i + 1) 0 = 10
    · rw [if_pos h10]
      have hb10 : byte (a.drop (i + 1)) 0 < 128 := by rw [byte_getD, Nat.add_zero, h10]; decide
      have hd1 : dec (a.drop (i + 1)) = (byte (a.drop (i + 1)) 0, 1) := by unfold dec decodeN; rw [if_pos hb10]
      have := vall_step (a.drop (i + 1)) (by simp; omega)
      rw [hv2, hd1] at this
      have := this.symm
      rw [Bool.and_eq_true] at this
      rw [List.drop_drop] at this
      exact this.2
    · rw [if_neg h10]; exact hv2
  · refine ⟨by unfold stepR; rw [hda, hdec]; simp only [if_neg hD], ?_⟩
    have : (stepR a i).2 = (dec (a.drop i)).2 := by
      unfold stepR
      simp only [if_neg hD]
      repeat' split
      all_goals rfl
    rw [this]; exact hv2
theorem rn_join (a b : List UInt8) (n i : Nat) (hn : a.length - i ≤ n) (hi : i ≤ a.length) (hv : (validAll (a.drop i)).2 = true) (h13 : 0 < a.length → a.getD (a.length - 1) 0 ≠ 13) :
    rn (a ++ b) i = rn a i ++ (rn b 0).map (sh a.length) := by
  induction n generalizing i with
  | zero =>
    obtain rfl : i = a.length := by omega
    rw [rn_out a _ (Nat.le_refl _), List.nil_append]
    exact rn_shift a b b.length 0 (by omega)
  | succ n ih =>
    by_cases h : i < a.length
    · have hs := step_le a i h
      obtain ⟨j1, j2⟩ := step_join a b i h hv (h13 (by omega))
      rw [rn_in a i h, rn_in _ _ (by simp; omega), j1, List.cons_append, ih _ (by omega) (by omega) j2]
    · obtain rfl : i = a.length := by omega
      rw [rn_out a _ (Nat.le_refl _), List.nil_append]
      exact rn_shift a b b.length 0 (by omega)
end Go.Proofs.YtilndlifmpbfnaaDoor.M

/- Plain numbers and lists: a comment ahead of any bytes. Nothing of the program is imported. -/
namespace Go.Proofs.YtilndlifmpbfnaaDoor.M
open Go.Lib
set_option linter.unusedVariables false
set_option linter.unusedSimpArgs false

def asI (s : List UInt8) : List Int := s.map fun x => (x.toNat : Int)
/-- Plain letters: ASCII, no byte that is turned. -/
def Pl (x : UInt8) : Prop := x.toNat < 128 ∧ x ≠ 0 ∧ x ≠ 12 ∧ x ≠ 13
theorem asI_append (a b : List UInt8) : asI (a ++ b) = asI a ++ asI b := by simp [asI]
theorem encZs_asI (s : List UInt8) (h : ∀ x ∈ s, x.toNat < 128) : encZs (asI s) = s := by
  induction s with
  | nil => rfl
  | cons a t ih =>
    have e : asI (a :: t) = (a.toNat : Int) :: asI t := rfl
    rw [e, encZs_cons, enc_byte a (h a (by simp)), ih (fun x hx => h x (by simp [hx]))]
    rfl
theorem pl_okr (x : UInt8) (h : Pl x) : Okr (x.toNat : Int) := by
  obtain ⟨h1, h2, h3, h4⟩ := h
  have e0 : x.toNat ≠ 0 := fun e => h2 (by rw [← u8_of x 0 e]; rfl)
  have e1 : x.toNat ≠ 12 := fun e => h3 (by rw [← u8_of x 12 e]; rfl)
  have e2 : x.toNat ≠ 13 := fun e => h4 (by rw [← u8_of x 13 e]; rfl)
  exact ⟨by rw [isCP_iff]; omega, by omega, by omega, by omega⟩
theorem rn_plain (s : List UInt8) (h : ∀ x ∈ s, Pl x) : (rn s 0).map Prod.fst = asI s := by
  have := rn_enc ((asI s).map fun r => (r, 0)) (by
    intro r hr
    simp only [List.mem_map, asI] at hr
    obtain ⟨_, ⟨x, hx, rfl⟩, rfl⟩ := hr
    exact pl_okr x (h x hx)) []
  have e : encR ((asI s).map fun r => (r, 0)) = encZs (asI s) := by unfold encR encZs; rw [List.flatMap_map]
  rw [e, encZs_asI s (fun x hx => (h x hx).1), List.map_map] at this
  have e2 : (asI s).map (Prod.fst ∘ fun r => (r, (0 : Int))) = asI s := by simp [Function.comp_def]
  rw [e2] at this
  simpa using this
theorem plain_valid (s : List UInt8) (h : ∀ x ∈ s, Pl x) : (validAll s).2 = true := by
  have := encR_valid ((asI s).map fun r => (r, 0)) (by
    intro r hr
    simp only [List.mem_map, asI] at hr
    obtain ⟨_, ⟨x, hx, rfl⟩, rfl⟩ := hr
    exact pl_okr x (h x hx))
  have e : encR ((asI s).map fun r => (r, 0)) = encZs (asI s) := by unfold encR encZs; rw [List.flatMap_map]
  rw [e, encZs_asI s (fun x hx => (h x hx).1)] at this
  rw [this]
theorem rn_plain_join (a b : List UInt8) (h : ∀ x ∈ a, Pl x) : rn (a ++ b) 0 = rn a 0 ++ (rn b 0).map (sh a.length) := by
  have := rn_join a b a.length 0 (by omega) (by omega) (by rw [List.drop_zero]; exact plain_valid a h) (by
    intro h0
    have : a.getD (a.length - 1) 0 ∈ a := by
      have e : a.getD (a.length - 1) 0 = a[a.length - 1] := by simp [List.getD, show a.length - 1 < a.length by omega]
      rw [e]; exact List.getElem_mem _
    exact (h _ this).2.2.2)
  simpa using this
theorem tks_sh (n : Nat) (m : Nat) (l : List (Int × Int)) (hm : l.length ≤ m) : tksC (l.map (sh n)) = (tksC l).map fun x => (x.1, x.2 + (n : Int)) := by
  induction m generalizing l with
  | zero => obtain rfl := List.length_eq_zero_iff.1 (Nat.le_zero.1 hm); simp [lexC_nil]
  | succ m ih =>
    cases l with
    | nil => simp [lexC_nil]
    | cons a t =>
      have e : ((a :: t).map (sh n)).map Prod.fst = (a :: t).map Prod.fst := by simp [sh, Function.comp_def]
      have e2 : (a :: t).map (sh n) = sh n a :: t.map (sh n) := rfl
      rw [e2] at e ⊢
      rw [tksC, tksC, e, List.map_cons, ← List.map_drop, ih _ (by simp at hm ⊢; omega)]
      rfl
theorem cmT_plain (s : List Int) (h : ∀ x ∈ s, x ≠ 42) (t : List Int) : cmT (s ++ 42 :: 47 :: t) = (s, s.length + 2) := by
  induction s with
  | nil => simp [cmT]
  | cons a s ih =>
    have ha := h a (by simp)
    rw [List.cons_append, cmT, if_neg (fun e => ha e.1), ih (fun x hx => h x (by simp [hx]))]
    simp; omega
/-- A comment ahead of any bytes is one token; the others are those of the bytes, further on. -/
theorem comment_tks (s b : List UInt8) (h : ∀ x ∈ s, Pl x ∧ x ≠ 42) :
    tksC (rn (([47, 42] ++ s ++ [42, 47]) ++ b) 0) = ({ kind := 25, text := s }, 0) :: (tksC (rn b 0)).map fun x => (x.1, x.2 + ((s.length + 4 : Nat) : Int)) := by
  have hA : ∀ x ∈ [47, 42] ++ s ++ [42, 47], Pl x := by
    intro x hx
    simp only [List.mem_append, List.mem_cons, List.mem_nil_iff, or_false] at hx
    rcases hx with ((rfl | rfl) | hx) | rfl | rfl
    · exact ⟨by decide, by decide, by decide, by decide⟩
    · exact ⟨by decide, by decide, by decide, by decide⟩
    · exact (h x hx).1
    · exact ⟨by decide, by decide, by decide, by decide⟩
    · exact ⟨by decide, by decide, by decide, by decide⟩
  have hlen : ([47, 42] ++ s ++ [42, 47] : List UInt8).length = s.length + 4 := by simp
  have hj := rn_plain_join ([47, 42] ++ s ++ [42, 47]) b hA
  have hp := rn_plain _ hA
  have hrl : (rn ([47, 42] ++ s ++ [42, 47]) 0).length = s.length + 4 := by
    have := congrArg List.length hp
    rw [List.length_map] at this
    rw [this]; simp [asI]
  rw [hlen] at hj
  obtain ⟨R, hR⟩ : ∃ R, rn ([47, 42] ++ s ++ [42, 47]) 0 = R := ⟨_, rfl⟩
  rw [hR] at hj hp hrl
  obtain ⟨L, hL⟩ : ∃ L, rn (([47, 42] ++ s ++ [42, 47]) ++ b) 0 = L := ⟨_, rfl⟩
  rw [hL] at hj ⊢
  have hLl : 0 < L.length := by rw [hj, List.length_append, hrl]; omega
  have hc : L.map Prod.fst = 47 :: 42 :: (asI s ++ 42 :: 47 :: ((rn b 0).map (sh (s.length + 4))).map Prod.fst) := by
    rw [hj, List.map_append, hp]
    simp [asI]
  have h0 : (L[0]'hLl).2 = 0 := by
    have e : L = rn (([47, 42] ++ s ++ [42, 47]) ++ b) 0 := hL.symm
    have e2 := rn_in (([47, 42] ++ s ++ [42, 47]) ++ b) 0 (by simp)
    rw [← e] at e2
    have hg : ∀ (T : List (Int × Int)) x T' (hT : T = x :: T') (h0 : 0 < T.length), T[0] = x := by rintro T x T' rfl h0; rfl
    rw [hg L _ _ e2 hLl]
    rfl
  have hi := lexC_in L 0 hLl
  rw [List.drop_zero, List.drop_zero, h0, Nat.zero_add] at hi
  have ht : tkC (L.map Prod.fst) = ({ kind := 25, text := s }, s.length + 4) := by
    have hw : wayT (L.map Prod.fst) = 1 := by
      unfold wayT
      rw [if_pos (by rw [hc]; exact (stC_iff _ _).2 ⟨_, rfl⟩)]
    unfold tkC
    rw [hw, hc]
    simp only [tokW, if_true, List.drop_succ_cons, List.drop_zero]
    rw [cmT_plain (asI s) (by
      intro x hx
      simp only [asI, List.mem_map] at hx
      obtain ⟨y, hy, rfl⟩ := hx
      intro e
      apply (h y hy).2
      rw [← u8_of y 42 (by omega)]; rfl)]
    rw [encZs_asI s (fun x hx => (h x hx).1.1)]
    simp [asI]
    omega
  rw [ht] at hi
  rw [hi]
  congr 1
  have hd : L.drop (s.length + 4) = (rn b 0).map (sh (s.length + 4)) := by
    rw [hj]; exact List.drop_left' hrl
  show tksC (L.drop (s.length + 4)) = _
  rw [hd, tks_sh _ _ _ (Nat.le_refl _)]
theorem lex_from (L : List (Int × Int)) (n : Nat) : ∀ (l : List (Int × Int)), l.length ≤ n → (∀ r ∈ l, r ∈ L) → ∀ x ∈ tksC l, ∃ r ∈ L, x.2 = r.2 := by
  induction n with
  | zero => intro l hl h x hx; obtain rfl := List.length_eq_zero_iff.1 (Nat.le_zero.1 hl); rw [lexC_nil] at hx; simp at hx
  | succ n ih =>
    intro l hl h x hx
    cases l with
    | nil => rw [lexC_nil] at hx; simp at hx
    | cons a t =>
      rw [tksC] at hx
      rcases List.mem_cons.1 hx with rfl | hx
      · exact ⟨a, h a (by simp), rfl⟩
      · exact ih _ (by simp at hl ⊢; omega) (fun r hr => h r (List.mem_cons_of_mem _ (List.mem_of_mem_drop hr))) x hx
theorem lex_pos (l : List UInt8) : ∀ x ∈ tksC (rn l 0), 0 ≤ x.2 ∧ x.2 < l.length := by
  intro x hx
  obtain ⟨r, hr, e⟩ := lex_from (rn l 0) _ (rn l 0) (Nat.le_refl _) (fun r hr => hr) x hx
  obtain ⟨k, hk, e2⟩ := List.getElem_of_mem hr
  have := rn_at l l.length 0 (by omega) k hk
  rw [e2] at this
  omega
end Go.Proofs.YtilndlifmpbfnaaDoor.M

/- Tokens of CSS in memory: a slice of them, opened (cut out of XFAlive). -/
namespace Go.Proofs.YtilndlifmpbfnaaDoor
open Go.RowKit
set_option linter.unusedVariables false
set_option linter.unusedSimpArgs false

/-- Tokens that lie somewhere: the value, and each cell. -/
theorem cs_open {w : World} {v : Value} {l : List (M.CT × Int)} (h : Cs w v l) {n : Nat} (hn : l.length = n) : ∃ a cap, v = .slice a n cap ∧ n ≤ cap ∧ cap ≤ maxLen ∧ ∀ j (hj : j < l.length), ∃ b off, a = some ⟨b, off, none⟩ ∧ b < w.heap.size ∧
    ∀ k u, (ctv (l[j]).1 (l[j]).2)[k]? = some u → w.cell? ⟨b, off + j * 13 + k, none⟩ = some u := by
  obtain ⟨a, cap, rfl, h1, h2, h3⟩ := h
  subst hn
  have hl := tvsC_len l
  refine ⟨a, cap, by rw [hl], by omega, h2, fun j hj => ?_⟩
  obtain ⟨b, off, rfl, hb, hc⟩ := h3 (by omega)
  refine ⟨b, off, rfl, hb, fun k u hu => ?_⟩
  have := hc j (by omega) k u (by
    have e : (tvsC l)[j]'(by omega) = tvC l[j] := by simp [tvsC]
    rw [e]; simpa [tvC] using hu)
  rw [Nat.add_assoc]; exact this
end Go.Proofs.YtilndlifmpbfnaaDoor

/- Tokens of CSS: a token is itself. -/
namespace Go.Proofs.YtilndlifmpbfnaaDoor
open Go.RowKit
set_option linter.unusedVariables false
set_option linter.unusedSimpArgs false

theorem eq_col (w : World) : (Op.equalIn 9999 22 (.agg #[.int .i64 0, .int .i64 0, .int .i64 0, .int .i64 0]) (.agg #[.int .i64 0, .int .i64 0, .int .i64 0, .int .i64 0])).run Tryd.prog w = .ok true w := by
  obtain ⟨i, hi⟩ := Option.isSome_iff_exists.1 (show (Tryd.prog.info? 3).isSome = true by kernel_rfl)
  rw [run_equalIn_array w 9998 _ _ Tryd.underlying22 hi]
  rw [show Tryd.prog.cellsOf 3 = 1 by kernel_rfl, show List.range 4 = [0, 1, 2, 3] from rfl]
  simp [Op.eqItems, part, go_sem]
theorem eq_num (w : World) (a : Bool) (b c : ByteArray) : (Op.equalIn 9999 34 (.agg #[.bool a, .string b, .string c]) (.agg #[.bool a, .string b, .string c])).run Tryd.prog w = .ok true w := by
  rw [run_equalIn_agg w 9998 _ _ _ (by simp [Program.fieldsOf, Tryd.underlying34]) Tryd.stoodInHeld34]
  simp [Program.fieldsOf, Tryd.underlying34, Op.eqFields, part, go_sem]
theorem eq_self (w : World) (t : M.CT) (z : Int) : (Op.equalIn 10000 36 (.agg (ctv t z)) (.agg (ctv t z))).run Tryd.prog w = .ok true w := by
  rw [run_equalIn_agg w 9999 _ _ _ (by simp [Program.fieldsOf, Tryd.underlying36]) Tryd.stoodInHeld36]
  have e1 := eq_col w
  have e2 := eq_num w t.num.1 (bytes t.num.2.1) (bytes t.num.2.2)
  unfold ctv
  simp [Program.fieldsOf, Tryd.underlying36, Op.eqFields, part, go_sem, e1, e2]
theorem neq_selfC (w : World) (t : M.CT) (z : Int) : (binOp .neq 36 (.agg (ctv t z)) (.agg (ctv t z))).run Tryd.prog w = .ok (.bool false) w := by
  rw [run_neq_struct, eq_self]; rfl
theorem eql_selfC (w : World) (t : M.CT) (z : Int) : (binOp .eql 36 (.agg (ctv t z)) (.agg (ctv t z))).run Tryd.prog w = .ok (.bool true) w := by
  rw [run_eql_struct, eq_self]; rfl
end Go.Proofs.YtilndlifmpbfnaaDoor

/- Tokens of CSS in memory: a token is loaded from the midst of a slice; two that are one are compared. -/
namespace Go.Proofs.YtilndlifmpbfnaaDoor
open Go.RowKit
set_option linter.unusedVariables false
set_option linter.unusedSimpArgs false

theorem range_of {w : World} {b o : Nat} {cs : Array Value} (h : ∀ k, k < cs.size → w.cell? ⟨b, o + k, none⟩ = cs[k]?) : w.rangeAt b o cs.toList := by
  intro j v hj
  have hl : j < cs.size := by
    have := (List.getElem?_eq_some_iff.1 hj).1
    simpa using this
  rw [h j hl, ← hj]; simp
theorem wp_ldM {o : Oper} {a : Act} {w : World} {K : Act → World → Prop} {Q : Exit → Act → World → Prop} (x : Operand) (ho : o.op = .load 36 x)
    (b off : Nat) (cs : Array Value) (hx : a.eval x = .pointer (some ⟨b, off, none⟩)) (hs : cs.size = 13) (hc : ∀ k, k < 13 → w.cell? ⟨b, off + k, none⟩ = cs[k]?)
    (h : K (a.put o.dst (.agg cs)) w) : o.wp Tryd.prog a w K Q := by
  have := wp_load_mid (P := Tryd.prog) (Q := Q) (K := K) 36 x ho b off hx cs.toList _ (range_of (by rw [hs]; exact hc)) Tryd.underlying36 rfl (by rw [Array.length_toList, hs]; exact infoC13)
  rw [Array.toArray_toList] at this
  exact this h
theorem wpl_ldM {ops : Array Oper} {rest : List Oper} {o : Oper} {a : Act} {w : World} {Q : Exit → Act → World → Prop} (hw : Region.wanted o (yielded ops a.tmps) = true) (x : Operand) (ho : o.op = .load 36 x)
    (b off : Nat) (cs : Array Value) (hx : a.eval x = .pointer (some ⟨b, off, none⟩)) (hs : cs.size = 13) (hc : ∀ k, k < 13 → w.cell? ⟨b, off + k, none⟩ = cs[k]?)
    (h : wpList Tryd.prog ops Q rest (a.put o.dst (.agg cs)) w) : wpList Tryd.prog ops Q (o :: rest) a w :=
  wpList_step fun K hK => by rw [if_pos hw]; exact wp_ldM x ho b off cs hx hs hc (hK _ _ h)
theorem wp_cmp {o : Oper} {a : Act} {w : World} {K : Act → World → Prop} {Q : Exit → Act → World → Prop} (eq : Bool) (x y : Operand) (ho : o.op = .binOp (if eq then .eql else .neq) 36 x y 36)
    (t : M.CT) (z : Int) (cs ds : Array Value) (hx : a.eval x = .agg cs) (hy : a.eval y = .agg ds) (h1 : cs = ctv t z) (h2 : ds = ctv t z)
    (h : K (a.put o.dst (.bool eq)) w) : o.wp Tryd.prog a w K Q := by
  subst h1
  subst h2
  unfold Oper.wp execOp
  cases eq
  · simp only [Bool.false_eq_true, if_false] at ho
    simp only [ho, hx, hy]
    simp [run_eqGuard_agg, Tryd.eqGuardType36, neq_selfC, Sem.run_bind, Result.andThen_ok]
    exact h
  · simp only [if_true] at ho
    simp only [ho, hx, hy]
    simp [run_eqGuard_agg, Tryd.eqGuardType36, eql_selfC, Sem.run_bind, Result.andThen_ok]
    exact h
theorem wpl_cmp {ops : Array Oper} {rest : List Oper} {o : Oper} {a : Act} {w : World} {Q : Exit → Act → World → Prop} (hw : Region.wanted o (yielded ops a.tmps) = true) (eq : Bool) (x y : Operand) (ho : o.op = .binOp (if eq then .eql else .neq) 36 x y 36)
    (t : M.CT) (z : Int) (cs ds : Array Value) (hx : a.eval x = .agg cs) (hy : a.eval y = .agg ds) (h1 : cs = ctv t z) (h2 : ds = ctv t z)
    (h : wpList Tryd.prog ops Q rest (a.put o.dst (.bool eq)) w) : wpList Tryd.prog ops Q (o :: rest) a w :=
  wpList_step fun K hK => by rw [if_pos hw]; exact wp_cmp eq x y ho t z cs ds hx hy h1 h2 (hK _ _ h)
theorem still_ldM {ops : Array Oper} {w : World} {Q : Act → Prop} {a : Act} {o : Oper} {rest : List Oper} (hw : Region.wanted o (yielded ops a.tmps) = true) (x : Operand) (ho : o.op = .load 36 x)
    (b off : Nat) (cs : Array Value) (hx : a.eval x = .pointer (some ⟨b, off, none⟩)) (hs : cs.size = 13) (hc : ∀ k, k < 13 → w.cell? ⟨b, off + k, none⟩ = cs[k]?)
    (h : wpStill Tryd.prog ops w Q rest (a.put o.dst (.agg cs))) : wpStill Tryd.prog ops w Q (o :: rest) a := by
  refine wpStill_step (fun K hK => ?_)
  rw [if_pos hw]
  have hr := run_loadVar_mid (P := Tryd.prog) w b off 36 cs.toList _ (range_of (by rw [hs]; exact hc)) Tryd.underlying36 rfl (by rw [Array.length_toList, hs]; exact infoC13)
  rw [Array.toArray_toList] at hr
  unfold Oper.still execOp
  simp only [ho, hx, Instr.loadAt, Instr.sureAddr, Sem.run_bind, Sem.run_pure, Result.andThen_ok, hr]
  exact ⟨rfl, hK _ h⟩
theorem still_cmp {ops : Array Oper} {w : World} {Q : Act → Prop} {a : Act} {o : Oper} {rest : List Oper} (hw : Region.wanted o (yielded ops a.tmps) = true) (eq : Bool) (x y : Operand) (ho : o.op = .binOp (if eq then .eql else .neq) 36 x y 36)
    (t : M.CT) (z : Int) (cs ds : Array Value) (hx : a.eval x = .agg cs) (hy : a.eval y = .agg ds) (h1 : cs = ctv t z) (h2 : ds = ctv t z)
    (h : wpStill Tryd.prog ops w Q rest (a.put o.dst (.bool eq))) : wpStill Tryd.prog ops w Q (o :: rest) a := by
  subst h1
  subst h2
  refine wpStill_step (fun K hK => ?_)
  rw [if_pos hw]
  unfold Oper.still execOp
  cases eq
  · simp only [Bool.false_eq_true, if_false] at ho
    simp only [ho, hx, hy]
    simp [run_eqGuard_agg, Tryd.eqGuardType36, neq_selfC, Sem.run_bind, Result.andThen_ok, Oper.stillUpon]
    exact hK _ h
  · simp only [if_true] at ho
    simp only [ho, hx, hy]
    simp [run_eqGuard_agg, Tryd.eqGuardType36, eql_selfC, Sem.run_bind, Result.andThen_ok, Oper.stillUpon]
    exact hK _ h
end Go.Proofs.YtilndlifmpbfnaaDoor

/- Tokens of CSS in memory: all cells of one that lies somewhere; texts joined. -/
namespace Go.Proofs.YtilndlifmpbfnaaDoor
open Go.RowKit
set_option linter.unusedVariables false
set_option linter.unusedSimpArgs false

theorem bytes_selfF (s : ByteArray) : bytes s.data.toList = s := by apply ByteArray.ext; simp [bytes]
theorem bytes_addF (a b : List UInt8) : bytes a ++ bytes b = bytes (a ++ b) := by unfold bytes; rw [ByteArray.mk_append_mk]
/-- All cells of a token that lies somewhere. -/
theorem cs_cells {w : World} {v : Value} {l : List (M.CT × Int)} (h : Cs w v l) {n : Nat} (hn : l.length = n) : ∃ a cap, v = .slice a n cap ∧ n ≤ cap ∧ cap ≤ maxLen ∧ ∀ j (hj : j < l.length), ∃ b off, a = some ⟨b, off, none⟩ ∧ b < w.heap.size ∧
    ∀ k, k < 13 → w.cell? ⟨b, off + j * 13 + k, none⟩ = (ctv (l[j]).1 (l[j]).2)[k]? := by
  obtain ⟨a, cap, rfl, h1, h2, h3⟩ := cs_open h hn
  refine ⟨a, cap, rfl, h1, h2, fun j hj => ?_⟩
  obtain ⟨b, off, rfl, hb, hc⟩ := h3 j hj
  refine ⟨b, off, rfl, hb, fun k hk => ?_⟩
  have e : (ctv (l[j]).1 (l[j]).2)[k]? = some ((ctv (l[j]).1 (l[j]).2)[k]'(by rw [ctv_size]; exact hk)) := Array.getElem?_eq_getElem _
  rw [e]; exact hc k _ e
end Go.Proofs.YtilndlifmpbfnaaDoor
