/- Several texts of ours in one: FRMath FR1 FRLow FR2. -/
import Derived.Test.YtilndlifmpbfnaaDoorFLex
import Derived.Test.YtilndlifmpbfnaaDoorERef
import Derived.Deep.RegionHeld3
import Derived.Test.YtilndlifmpbfnaaDoorFLow
import Derived.Test.YtilndlifmpbfnaaDoorERef2
/- Tokens of CSS, as the page has them: urls by two ways, numbers, how long a bad url is. -/
namespace Go.Proofs.YtilndlifmpbfnaaDoor
open Go.RowKit
set_option linter.unusedVariables false
set_option linter.unusedSimpArgs false

/-- How long a url is: whatever was ahead. -/
theorem urlT_len (n : Nat) : ∀ (b s b' s' : Bool) (c : List Int), c.length ≤ n → (M.urlT b s c).2.2 = (M.urlT b' s' c).2.2 := by
  induction n with
  | zero => intro b s b' s' c hn; obtain rfl := List.length_eq_zero_iff.1 (Nat.le_zero.1 hn); rw [M.urlT, M.urlT]
  | succ n ih =>
    intro b s b' s' c hn
    cases c with
    | nil => rw [M.urlT, M.urlT]
    | cons r t =>
      simp at hn
      have h0 := M.escV_le t
      rw [M.urlT, M.urlT]
      split
      · rfl
      split
      · simp only; rw [ih _ _ _ _ _ (by simp; omega)]
      split
      · simp only; rw [ih _ _ _ _ t hn]
      · simp only; rw [ih _ _ _ _ t hn]
theorem urlT_len' (b s b' s' : Bool) (c : List Int) : (M.urlT b s c).2.2 = (M.urlT b' s' c).2.2 := urlT_len _ b s b' s' c (Nat.le_refl _)
/-- How long a bad url is. -/
def badN (c : List Int) : Nat := (M.urlT true true c).2.2
theorem badN_any (b s : Bool) (c : List Int) : (M.urlT b s c).2.2 = badN c := urlT_len' _ _ _ _ _
theorem badN_end (c : List Int) (j : Nat) (hj : c.length ≤ j) : badN (c.drop j) = 0 := by unfold badN; rw [urlT_atx true true c j hj]
theorem badN_par (c : List Int) (j : Nat) (hj : j < c.length) (h : c.getD j (-1) = 41) : badN (c.drop j) = 1 := by unfold badN; rw [urlT_atp true true c j hj h]
theorem badN_esc (c : List Int) (j : Nat) (hj : j < c.length) (h : c.getD j (-1) ≠ 41) (he : M.esB (c.drop j) = true) (r : Int) (k : Nat) (hr : M.escV (c.drop (j + 1)) = (r, k)) : badN (c.drop j) = 1 + k + badN (c.drop (j + 1 + k)) := by
  unfold badN; rw [urlT_ate true true c j hj h he r k hr]; simp
theorem badN_one (c : List Int) (j : Nat) (hj : j < c.length) (h : c.getD j (-1) ≠ 41) (he : M.esB (c.drop j) = false) : badN (c.drop j) = 1 + badN (c.drop (j + 1)) := by
  cases hb : M.isBl (c.getD j (-1)) with
  | true => unfold badN; rw [urlT_atb true true c j hj h he hb]
  | false => unfold badN; rw [urlT_ato true true c j hj h he hb]; simp
theorem badN_le (c : List Int) (j : Nat) (hj : j ≤ c.length) : j + badN (c.drop j) ≤ c.length := by
  have := (M.urlT_le _ true true (c.drop j) (Nat.le_refl _)).1
  rw [List.length_drop] at this; unfold badN; omega
/-- Once a blank was there, it is bad, but at the end. -/
theorem urlT_sbad (b : Bool) (c : List Int) (j : Nat) (hj : j < c.length) (h : c.getD j (-1) ≠ 41) (hb : M.isBl (c.getD j (-1)) = false) : (M.urlT b true (c.drop j)).1 = true := by
  cases he : M.esB (c.drop j) with
  | true =>
    obtain ⟨r, k, hr⟩ : ∃ r k, M.escV (c.drop (j + 1)) = (r, k) := ⟨_, _, rfl⟩
    rw [urlT_ate b true c j hj h he r k hr]
    simp only [Bool.or_true]
    exact M.urlT_bad _ true _ (Nat.le_refl _)
  | false =>
    rw [urlT_ato b true c j hj h he hb]
    simp only [Bool.or_true, Bool.true_or]
    exact M.urlT_bad _ true _ (Nat.le_refl _)
/-- What may not be in it makes it bad. -/
theorem urlT_cbad (s : Bool) (c : List Int) (j : Nat) (hj : j < c.length) (h : c.getD j (-1) ≠ 41) (he : M.esB (c.drop j) = false) (hb : M.isBl (c.getD j (-1)) = false) (hu : M.inU (c.getD j (-1)) = false) : (M.urlT false s (c.drop j)).1 = true := by
  rw [urlT_ato false s c j hj h he hb, hu]
  simp only [Bool.not_false, Bool.or_true]
  exact M.urlT_bad _ s _ (Nat.le_refl _)
/-- Blanks of a url. -/
theorem urlT_blanks (n : Nat) (b : Bool) (c : List Int) : ∀ (s : Bool) (j : Nat), M.blN (c.drop j) = n → 0 < n → M.urlT b s (c.drop j) = ((M.urlT b true (c.drop (j + n))).1, (M.urlT b true (c.drop (j + n))).2.1, n + (M.urlT b true (c.drop (j + n))).2.2) := by
  induction n with
  | zero => intro s j _ h0; omega
  | succ n ih =>
    intro s j hn _
    have hb : M.isBl (c.getD j (-1)) = true := by
      cases hh : M.isBl (c.getD j (-1)) with
      | true => rfl
      | false => rw [blN_out c j hh] at hn; omega
    have hj : j < c.length := by
      rcases Nat.lt_or_ge j c.length with h | h
      · exact h
      · rw [getD_end c c.length j rfl h] at hb; exact absurd hb (by decide)
    rw [blN_at c j hb] at hn
    have hb' := (M.isBl_iff _).1 hb
    have h41 : c.getD j (-1) ≠ 41 := by omega
    have he : M.esB (c.drop j) = false := by rw [esB_two, decide_eq_false (show ¬ c.getD j (-1) = 92 by omega)]; rfl
    rw [urlT_atb b s c j hj h41 he hb]
    by_cases h0 : n = 0
    · subst h0; rfl
    · rw [ih true (j + 1) (by omega) (by omega), show j + 1 + n = j + (n + 1) by omega]
      simp only
      rw [show 1 + (n + (M.urlT b true (List.drop (j + (n + 1)) c)).snd.snd) = n + 1 + (M.urlT b true (List.drop (j + (n + 1)) c)).snd.snd by omega]
/-- Does a number begin here, as the page asks it. -/
theorem numB_page (c : List Int) (i : Nat) : M.numB (c.drop i) = (M.nDg (c.getD (i + M.sgN (c.drop i)) (-1)) || (decide (c.getD (i + M.sgN (c.drop i)) (-1) = 46) && M.nDg (c.getD (i + M.sgN (c.drop i) + 1) (-1)))) := by
  unfold M.numB M.fracB
  rw [getD_drop, List.drop_drop, getD_drop, getD_drop, Nat.add_zero]
theorem sgN_page (c : List Int) (i : Nat) : M.sgN (c.drop i) = if c.getD i (-1) = 43 ∨ c.getD i (-1) = 45 then 1 else 0 := by
  unfold M.sgN; rw [getD_drop, Nat.add_zero]
end Go.Proofs.YtilndlifmpbfnaaDoor

/- Tokens of CSS, the page's own: blank, numeral, follows, Text, raw. -/
namespace Go.Proofs.YtilndlifmpbfnaaDoor
open Go.RowKit
set_option linter.unusedVariables false
set_option linter.unusedSimpArgs false

set_option maxRecDepth 100000 in
set_option maxHeartbeats 1000000 in
theorem rbl_any (r : Int) (b : Bool) (w : World) (h : M.isBl r = b) : Calls Tryd.prog 19 #[.int .i64 r] w fun e w' => e = .returned (.bool b) ∧ w = w' := by
  by_cases h1 : r = 32
  · subst h1
    obtain rfl : true = b := by rw [← h]; rfl
    clear h
    go_enter Tryd.func19, Tryd.ntmps19
    go_wp2
    go_ret
    exact ⟨rfl, rfl⟩
  · have t1 : (r == 32) = false := by rw [beq_eq_false_iff_ne]; exact h1
    by_cases h2 : r = 9
    · subst h2
      obtain rfl : true = b := by rw [← h]; rfl
      clear h
      go_enter Tryd.func19, Tryd.ntmps19
      go_wp2
      go_ret
      exact ⟨rfl, rfl⟩
    · have t2 : (r == 9) = false := by rw [beq_eq_false_iff_ne]; exact h2
      have hb : b = (r == 10) := by rw [← h]; unfold M.isBl; by_cases h3 : r = 10 <;> simp [h1, h2, h3]
      subst hb
      clear h h1 h2
      go_enter Tryd.func19, Tryd.ntmps19
      go_wp2
      go_ret
      exact ⟨rfl, rfl⟩
set_option maxRecDepth 100000 in
set_option maxHeartbeats 2000000 in
theorem rnumeral_any (v : Value) (c : List Int) (i : Nat) (b : Bool) (w : World) (hv : Lc w v c) (hl : c.length ≤ 4294967200) (hi : i ≤ 4294967200) (h : M.numB (c.drop i) = b) :
    Calls Tryd.prog 26 #[v, .int .i64 (i : Int)] w fun e w' => e = .returned (.bool b) ∧ w = w' := by
  rw [numB_page, sgN_page] at h
  have A0 := rat_any v c i _ w hv (by omega) rfl
  have A1 := rat_any v c (i + 1) _ w hv (by omega) rfl
  have A2 := rat_any v c (i + 1 + 1) _ w hv (by omega) rfl
  rw [show ((i + 1 + 1 : Nat) : Int) = (i : Int) + 1 + 1 by omega] at A2
  rw [show ((i + 1 : Nat) : Int) = (i : Int) + 1 by omega] at A1
  obtain ⟨y0, e0⟩ : ∃ y, c.getD i (-1) = y := ⟨_, rfl⟩
  obtain ⟨y1, e1⟩ : ∃ y, c.getD (i + 1) (-1) = y := ⟨_, rfl⟩
  obtain ⟨y2, e2⟩ : ∃ y, c.getD (i + 1 + 1) (-1) = y := ⟨_, rfl⟩
  rw [e0] at A0 h
  rw [e1] at A1
  rw [e2] at A2
  have H0 := Lib.hid A0
  have H1 := Lib.hid A1
  have H2 := Lib.hid A2
  have i0 : (0 : Int) ≤ i := by omega
  have i1 : (i : Int) ≤ 4294967200 := by omega
  have E0 := Lib.hid e0
  have E1 := Lib.hid e1
  have E2 := Lib.hid e2
  clear A0 A1 A2 hv hl hi e0 e1 e2
  by_cases h43 : y0 = 43
  · subst h43
    rw [if_pos (by decide), show i + 1 + 1 = i + 1 + 1 from rfl, E1.out, E2.out] at h
    cases hd : M.nDg y1 with
    | true =>
      have D1 := Lib.hid (rndg_any y1 true w hd)
      obtain rfl : true = b := by rw [← h, hd]; rfl
      clear h hd
      go_enter Tryd.func26, Tryd.ntmps26
      go_wp2_with fail
      refine (H0.out).mono ?_
      rintro e w' ⟨rfl, rfl⟩
      go_wp2_with fail
      refine (H1.out).mono ?_
      rintro e w' ⟨rfl, rfl⟩
      go_wp2_with fail
      refine (D1.out).mono ?_
      rintro e w' ⟨rfl, rfl⟩
      go_wp2
      go_ret
      exact ⟨rfl, rfl⟩
    | false =>
      have D1 := Lib.hid (rndg_any y1 false w hd)
      rw [hd] at h
      simp only [Bool.false_or] at h
      by_cases h46 : y1 = 46
      · subst h46
        have D2 := Lib.hid (rndg_any y2 b w (by rw [← h]; simp))
        clear h hd
        go_enter Tryd.func26, Tryd.ntmps26
        go_wp2_with fail
        refine (H0.out).mono ?_
        rintro e w' ⟨rfl, rfl⟩
        go_wp2_with fail
        refine (H1.out).mono ?_
        rintro e w' ⟨rfl, rfl⟩
        go_wp2_with fail
        refine (D1.out).mono ?_
        rintro e w' ⟨rfl, rfl⟩
        go_wp2_with fail
        refine (H2.out).mono ?_
        rintro e w' ⟨rfl, rfl⟩
        go_wp2_with fail
        refine (D2.out).mono ?_
        rintro e w' ⟨rfl, rfl⟩
        go_wp2
        go_ret
        exact ⟨rfl, rfl⟩
      · have t46 : (y1 == 46) = false := by rw [beq_eq_false_iff_ne]; exact h46
        obtain rfl : false = b := by rw [← h]; simp [h46]
        clear h hd h46
        go_enter Tryd.func26, Tryd.ntmps26
        go_wp2_with fail
        refine (H0.out).mono ?_
        rintro e w' ⟨rfl, rfl⟩
        go_wp2_with fail
        refine (H1.out).mono ?_
        rintro e w' ⟨rfl, rfl⟩
        go_wp2_with fail
        refine (D1.out).mono ?_
        rintro e w' ⟨rfl, rfl⟩
        go_wp2
        go_ret
        exact ⟨rfl, rfl⟩
  have t43 : (y0 == 43) = false := by rw [beq_eq_false_iff_ne]; exact h43
  by_cases h45 : y0 = 45
  · subst h45
    rw [if_pos (by decide), show i + 1 + 1 = i + 1 + 1 from rfl, E1.out, E2.out] at h
    cases hd : M.nDg y1 with
    | true =>
      have D1 := Lib.hid (rndg_any y1 true w hd)
      obtain rfl : true = b := by rw [← h, hd]; rfl
      clear h hd
      go_enter Tryd.func26, Tryd.ntmps26
      go_wp2_with fail
      refine (H0.out).mono ?_
      rintro e w' ⟨rfl, rfl⟩
      go_wp2_with fail
      refine (H1.out).mono ?_
      rintro e w' ⟨rfl, rfl⟩
      go_wp2_with fail
      refine (D1.out).mono ?_
      rintro e w' ⟨rfl, rfl⟩
      go_wp2
      go_ret
      exact ⟨rfl, rfl⟩
    | false =>
      have D1 := Lib.hid (rndg_any y1 false w hd)
      rw [hd] at h
      simp only [Bool.false_or] at h
      by_cases h46 : y1 = 46
      · subst h46
        have D2 := Lib.hid (rndg_any y2 b w (by rw [← h]; simp))
        clear h hd
        go_enter Tryd.func26, Tryd.ntmps26
        go_wp2_with fail
        refine (H0.out).mono ?_
        rintro e w' ⟨rfl, rfl⟩
        go_wp2_with fail
        refine (H1.out).mono ?_
        rintro e w' ⟨rfl, rfl⟩
        go_wp2_with fail
        refine (D1.out).mono ?_
        rintro e w' ⟨rfl, rfl⟩
        go_wp2_with fail
        refine (H2.out).mono ?_
        rintro e w' ⟨rfl, rfl⟩
        go_wp2_with fail
        refine (D2.out).mono ?_
        rintro e w' ⟨rfl, rfl⟩
        go_wp2
        go_ret
        exact ⟨rfl, rfl⟩
      · have t46 : (y1 == 46) = false := by rw [beq_eq_false_iff_ne]; exact h46
        obtain rfl : false = b := by rw [← h]; simp [h46]
        clear h hd h46
        go_enter Tryd.func26, Tryd.ntmps26
        go_wp2_with fail
        refine (H0.out).mono ?_
        rintro e w' ⟨rfl, rfl⟩
        go_wp2_with fail
        refine (H1.out).mono ?_
        rintro e w' ⟨rfl, rfl⟩
        go_wp2_with fail
        refine (D1.out).mono ?_
        rintro e w' ⟨rfl, rfl⟩
        go_wp2
        go_ret
        exact ⟨rfl, rfl⟩
  have t45 : (y0 == 45) = false := by rw [beq_eq_false_iff_ne]; exact h45
  rw [if_neg (by omega), Nat.add_zero, E0.out, E1.out] at h
  clear h43 h45
  cases hd : M.nDg y0 with
  | true =>
    have D1 := Lib.hid (rndg_any y0 true w hd)
    obtain rfl : true = b := by rw [← h, hd]; rfl
    clear h hd
    go_enter Tryd.func26, Tryd.ntmps26
    go_wp2_with fail
    refine (H0.out).mono ?_
    rintro e w' ⟨rfl, rfl⟩
    go_wp2_with fail
    refine (D1.out).mono ?_
    rintro e w' ⟨rfl, rfl⟩
    go_wp2
    go_ret
    exact ⟨rfl, rfl⟩
  | false =>
    have D1 := Lib.hid (rndg_any y0 false w hd)
    rw [hd] at h
    simp only [Bool.false_or] at h
    by_cases h46 : y0 = 46
    · subst h46
      have D2 := Lib.hid (rndg_any y1 b w (by rw [← h]; simp))
      clear h hd
      go_enter Tryd.func26, Tryd.ntmps26
      go_wp2_with fail
      refine (H0.out).mono ?_
      rintro e w' ⟨rfl, rfl⟩
      go_wp2_with fail
      refine (D1.out).mono ?_
      rintro e w' ⟨rfl, rfl⟩
      go_wp2_with fail
      refine (H1.out).mono ?_
      rintro e w' ⟨rfl, rfl⟩
      go_wp2_with fail
      refine (D2.out).mono ?_
      rintro e w' ⟨rfl, rfl⟩
      go_wp2
      go_ret
      exact ⟨rfl, rfl⟩
    · have t46 : (y0 == 46) = false := by rw [beq_eq_false_iff_ne]; exact h46
      obtain rfl : false = b := by rw [← h]; simp [h46]
      clear h hd h46
      go_enter Tryd.func26, Tryd.ntmps26
      go_wp2_with fail
      refine (H0.out).mono ?_
      rintro e w' ⟨rfl, rfl⟩
      go_wp2_with fail
      refine (D1.out).mono ?_
      rintro e w' ⟨rfl, rfl⟩
      go_wp2
      go_ret
      exact ⟨rfl, rfl⟩
theorem stC_step (s : List UInt8) (D : List Int) : M.stC (asI s) D = true ↔ ∀ k, k < s.length → D.getD k (-1) = ((s.getD k 0).toNat : Int) := by
  rw [stC_at]
  have e : ∀ k, k < s.length → (asI s).getD k 0 = ((s.getD k 0).toNat : Int) := by intro k hk; simp [asI, List.getD, hk]
  unfold asI at e ⊢
  rw [List.length_map]
  constructor
  · rintro ⟨_, h⟩ k hk
    rw [h k hk, e k hk]
  · intro h
    refine ⟨?_, fun k hk => by rw [h k hk, e k hk]⟩
    rcases Nat.lt_or_ge D.length s.length with hlt | hge
    · have := h D.length hlt
      rw [getD_end D D.length D.length rfl (Nat.le_refl _)] at this
      omega
    · exact hge
set_option maxRecDepth 100000 in
set_option maxHeartbeats 2000000 in
theorem rfollows_any (v : Value) (c : List Int) (i : Nat) (s : List UInt8) (b : Bool) (w : World) (hv : Lc w v c) (hl : c.length ≤ 4294967200) (hi : i ≤ 4294967200) (hs : s.length ≤ 100) (h : M.stC (asI s) (c.drop i) = b) :
    Calls Tryd.prog 17 #[v, .int .i64 (i : Int), .string (bytes s)] w fun e w' => e = .returned (.bool b) ∧ Below w.heap.size w w' := by
  have AT := Lib.hid (fun (W : World) (hW : Below w.heap.size w W) j => rat_any v c j _ W (hv.keep hW) (by omega) rfl)
  obtain ⟨S, hS⟩ : ∃ S, bytes s = S := ⟨_, rfl⟩
  obtain ⟨hsz, hget⟩ := get_ofF s S hS
  rw [hS]
  obtain ⟨m, hm⟩ : ∃ m, S.size = m := ⟨_, rfl⟩
  have hb : b = true ↔ ∀ k, k < m → c.getD (i + k) (-1) = ((s.getD k 0).toNat : Int) := by
    rw [← h, stC_step, ← hsz, hm]
    constructor
    · intro hh k hk; have := hh k hk; rwa [getD_drop] at this
    · intro hh k hk; rw [getD_drop]; exact hh k hk
  have HB := Lib.hid hb
  have HGET := Lib.hid hget
  have HSZ := Lib.hid hsz
  have HM := Lib.hid hm
  have m1 : m ≤ 100 := by omega
  have i0 : (0 : Int) ≤ i := by omega
  have i1 : (i : Int) ≤ 4294967200 := by omega
  rw [← hm] at m1
  clear hv hS hb hget hsz h hm hl hi
  go_enter Tryd.func17, Tryd.ntmps17
  go_wp2
  go_loopw [7] (fun kv wr => ∃ k : Nat, kv = .int .i64 (k : Int) ∧ k ≤ m ∧ (∀ j, j < k → c.getD (i + j) (-1) = ((s.getD j 0).toNat : Int)) ∧ Below w.heap.size w wr) (fun kv _ => m - (intOf kv).toNat)
  case atStart => exact ⟨0, rfl, by omega, fun j hj => by omega, Below.refl _ _⟩
  case round =>
    obtain ⟨k, rfl, hk, hall, hbw⟩ := hrel
    have HA := Lib.hid hall
    have HW := Lib.hid hbw
    clear hall hbw
    by_cases hlt : k < m
    · obtain ⟨q, hq⟩ : ∃ q, i + k = q := ⟨_, rfl⟩
      have hks : k < S.size := by rw [HM.out]; exact hlt
      have hkl : k < s.length := by rw [← HSZ.out]; exact hks
      have hsk := HGET.out k hks hkl
      have hsd : s.getD k 0 = s[k] := by simp [List.getD, hkl]
      obtain ⟨x, hx⟩ : ∃ x, s[k] = x := ⟨_, rfl⟩
      rw [hx] at hsk hsd
      have A1 := Lib.hid (AT.out wr.drew HW.out.drew q)
      obtain ⟨y, hy⟩ : ∃ y, c.getD q (-1) = y := ⟨_, rfl⟩
      rw [hy] at A1
      have q' : (i : Int) + k = q := by omega
      have qw : IntKind.i64.wrap (q : Int) = (q : Int) := IntWalk.i64_in _ (by omega)
      have k1 : (k : Int) < S.size := by omega
      have k0 : (0 : Int) ≤ k := by omega
      have Hy := Lib.hid hy
      have Hsd := Lib.hid hsd
      have Hq := Lib.hid hq
      have HD := Lib.hid HW.out.drew
      clear hy hsd hx hkl hq
      have xw : IntKind.i64.wrap (x.toNat : Int) = (x.toNat : Int) := IntWalk.i64_in _ (by have := x.toNat_lt; omega)
      by_cases hne : y = (x.toNat : Int)
      · have t1 : (y != IntKind.i64.wrap (x.toNat : Int)) = false := by rw [xw]; simp [hne]
        have HN := Lib.hid hne
        clear hne xw
        go_wp2
        go_region_held3 (fun _ : World => True) (trivial) ((go_at_call 20; (try rw [qw]); refine (A1.out).mono ?_; rintro e w' ⟨rfl, rfl⟩))
        all_goals
          go_wp2
          go_roundw
          case rel =>
            refine ⟨k + 1, by go_num, by omega, fun j hj => ?_, HD.out⟩
            by_cases hjk : j < k
            · exact HA.out j hjk
            · obtain rfl : j = k := by omega
              rw [Hq.out, Hy.out, Hsd.out, HN.out]
          case measure => simp [intOf]; omega
      · have t1 : (y != IntKind.i64.wrap (x.toNat : Int)) = true := by rw [xw]; simpa [bne] using hne
        obtain rfl : b = false := by
          cases b with
          | false => rfl
          | true =>
            have := HB.out.1 rfl k hlt
            rw [Hq.out, Hy.out, Hsd.out] at this
            exact absurd this hne
        clear hne xw
        go_wp2
        go_region_held3 (fun _ : World => True) (trivial) ((go_at_call 20; (try rw [qw]); refine (A1.out).mono ?_; rintro e w' ⟨rfl, rfl⟩))
        all_goals
          go_wp2
          go_ret
          exact ⟨rfl, HD.out⟩
    · obtain rfl : k = m := by omega
      obtain rfl : b = true := HB.out.2 HA.out
      have k1 : ¬ (k : Int) < S.size := by have := HM.out; omega
      clear hlt
      go_wp2
      go_ret
      exact ⟨rfl, HW.out⟩
set_option maxRecDepth 100000 in
set_option maxHeartbeats 4000000 in
theorem reftext_any (v : Value) (l : List (Int × Int)) (t : List UInt8) (w : World) (hv : Rs w v l) (hl : l.length ≤ 100000) (ht : M.encR l = t) :
    Calls Tryd.prog 32 #[v] w fun e w' => e = .returned (.string (bytes t)) ∧ Below w.heap.size w w' := by
  obtain ⟨a, cap, rfl, h1, h2, h3⟩ := hv
  rw [rvs_len] at h1 ⊢
  obtain ⟨n, hn⟩ : ∃ n, l.length = n := ⟨_, rfl⟩
  have Hn := Lib.hid hn
  have Ht := Lib.hid ht
  have H3 := Lib.hid h3
  rw [hn] at h1 hl ⊢
  clear h3 hn ht
  go_enter Tryd.func32, Tryd.ntmps32
  go_wp2
  go_loopw [3, 4] (fun ov iv wr => ∃ i : Nat, iv = .int .i64 i ∧ i ≤ n ∧ OwnB w.heap.size wr ov (M.encR (l.take i)) ∧ Below w.heap.size w wr) (fun _ iv _ => n - (intOf iv).toNat)
  case atStart => exact ⟨0, rfl, by omega, World.ownsRow_nil _ _ _ _, Below.refl _ _⟩
  case round =>
    obtain ⟨i, rfl, hi, ho, hb⟩ := hrel
    have hsz := hb.size
    by_cases hlt : i < n
    · obtain ⟨b, off, rfl, hbk, hcl⟩ := H3.out (by rw [rvs_len, Hn.out]; omega)
      have hc := (rs_cells hcl i (by rw [Hn.out]; exact hlt)).1
      have hsn := M.encR_snoc l i (by rw [Hn.out]; exact hlt)
      have hln := M.encR_len (l.take i)
      rw [List.length_take] at hln
      obtain ⟨r, hr⟩ : ∃ r, (l[i]'(by rw [Hn.out]; exact hlt)).1 = r := ⟨_, rfl⟩
      rw [hr] at hc hsn
      have hcr := hb.cell (p := ⟨b, off + i * 2, none⟩) hbk
      rw [hc] at hcr
      obtain ⟨R, hR⟩ : ∃ R, M.encR (l.take i) = R := ⟨_, rfl⟩
      rw [hR] at ho hsn hln
      have hRl : R.length ≤ 1048576 := by omega
      have Hsn := Lib.hid hsn
      clear hcl hc hsn hln hr hR
      go_wp2_with fail
      refine (refput_any w.heap.size _ R (R ++ M.enc r) r _ ho hRl hsz rfl).mono ?_
      rintro e w2 ⟨v2, rfl, ho2, hb2⟩
      have hb3 := hb.trans hb2
      clear hb hb2 ho
      go_wp2
      go_roundw
      case rel => exact ⟨i + 1, by go_num, by omega, by rw [Hsn.out]; exact ho2, hb3⟩
      case measure => simp [intOf]; omega
    · obtain rfl : i = n := by omega
      have hfull : M.encR (l.take i) = t := by rw [List.take_of_length_le (by rw [Hn.out]; exact Nat.le_refl _)]; exact Ht.out
      rw [hfull] at ho
      have hcv := conv_own ho
      clear hfull
      go_wp2
      go_ret
      exact ⟨rfl, hb⟩
set_option maxRecDepth 100000 in
set_option maxHeartbeats 2000000 in
theorem rraw_any (v : Value) (L : List (Int × Int)) (c : List Int) (i j : Nat) (w : World) (hv : Rs w v L) (hc : cps L = c) (hl : L.length ≤ 100000) (h0 : 0 < L.length) (hij : i ≤ j) (hj : j ≤ L.length) :
    Calls Tryd.prog 18 #[v, .int .i64 (i : Int), .int .i64 (j : Int)] w fun e w' => e = .returned (.string (bytes (M.encZs ((c.drop i).take (j - i))))) ∧ Below w.heap.size w w' := by
  obtain ⟨n, hn⟩ : ∃ n, L.length = n := ⟨_, rfl⟩
  rw [hn] at hl hj h0
  obtain ⟨a, cap, rfl, h1, h2, h3⟩ := rs_open hv hn
  obtain ⟨p, off, rfl, hp, -⟩ := h3 (by omega)
  have hsub := rs_sub hv i j hij hj p off rfl
  have TX := Lib.hid (reftext_any _ _ (M.encZs ((c.drop i).take (j - i))) w hsub (by simp; omega) (by rw [cps_sub, hc]))
  have TX0 := Lib.hid (fun (m : Nat) (hm : m = 0) => reftext_any (.slice (some ⟨p, off, none⟩) m 0) [] (M.encZs []) w (by subst hm; exact ⟨_, 0, rfl, by simp [rvs], by decide, fun h => absurd h (by simp [rvs])⟩) (by simp) rfl)
  have i0 : (0 : Int) ≤ i := by omega
  have i1 : (i : Int) ≤ j := by omega
  have i2 : (j : Int) ≤ cap := by omega
  unfold maxLen at h2
  clear hv hc hn h3 hsub
  by_cases hcap : cap = i
  · have hm0 := Lib.hid (show j - i = 0 by omega)
    go_enter Tryd.func18, Tryd.ntmps18
    go_wp2_with fail
    refine (TX0.out _ hm0.out).mono ?_
    rintro e w2 ⟨rfl, hb2⟩
    go_wp2
    go_ret
    exact ⟨by rw [hm0.out, List.take_zero]; rfl, hb2⟩
  · go_enter Tryd.func18, Tryd.ntmps18
    go_wp2_with fail
    refine (TX.out).mono ?_
    rintro e w2 ⟨rfl, hb2⟩
    go_wp2
    go_ret
    exact ⟨rfl, hb2⟩
end Go.Proofs.YtilndlifmpbfnaaDoor

/- Tokens of CSS, the page's own: Lower. -/
namespace Go.Proofs.YtilndlifmpbfnaaDoor
open Go.RowKit
set_option linter.unusedVariables false
set_option linter.unusedSimpArgs false

set_option maxRecDepth 100000 in
set_option maxHeartbeats 4000000 in
theorem rlower_any (s : List UInt8) (w : World) (hl : s.length ≤ 4000000) :
    Calls Tryd.prog 39 #[.string (bytes s)] w fun e w' => e = .returned (.string (bytes (M.lowL s))) ∧ Below w.heap.size w w' := by
  have hcv := bw_conv w (bytes s)
  have hbs := bw_bs w (bytes s) (by rw [bytes_size]; omega)
  have hbb := bw_below w (bytes s)
  have hbz := bw_size w (bytes s)
  rw [bytes_list] at hbs
  have hfz : ∀ k, k < s.length → (Lib.bytesWorld w 5 (bytes s)).frozen? ⟨w.heap.size, k, none⟩ = false := by
    intro k hk
    have h1 := Lib.bytesWorld_at_new w 5 (bytes s)
    have h2 : s.length ≤ (Lib.bytesCells w 5 (bytes s)).size := by
      rcases Nat.lt_or_ge k (Lib.bytesCells w 5 (bytes s)).size with h | h
      · rcases Nat.lt_or_ge (s.length - 1) (Lib.bytesCells w 5 (bytes s)).size with h' | h'
        · omega
        · have := Lib.bytesWorld_cell w 5 (bytes s) (s.length - 1) (by rw [bytes_size]; omega)
          simp [World.cell?, h1, Array.getElem?_eq_none h'] at this
      · have := Lib.bytesWorld_cell w 5 (bytes s) k (by rw [bytes_size]; omega)
        simp [World.cell?, h1, Array.getElem?_eq_none h] at this
    unfold World.frozen?
    rw [h1]
    simp
    omega
  rw [bytes_size] at hcv hbs
  obtain ⟨n, hn⟩ : ∃ n, s.length = n := ⟨_, rfl⟩
  rw [hn] at hcv hbs hl hfz
  obtain ⟨cap, hcap⟩ : ∃ cap, grownCap w n 0 5 = cap := ⟨_, rfl⟩
  rw [hcap] at hcv hbs
  have hcell : ∀ k, k < n → (Lib.bytesWorld w 5 (bytes s)).cell? ⟨w.heap.size, k, none⟩ = some (.int .u8 ((s.getD k 0).toNat : Int)) := by
    intro k hk
    obtain ⟨a', cap', e, g1, g2, g3⟩ := hbs
    simp only [Value.slice.injEq] at e
    obtain ⟨rfl, -, rfl⟩ := e
    obtain ⟨b, off, e2, _, hc⟩ := g3 (by omega)
    simp only [Option.some.injEq, Addr.mk.injEq, and_true] at e2
    obtain ⟨rfl, rfl⟩ := e2
    have := hc k (by omega)
    rw [Nat.zero_add] at this
    rw [this]; simp [List.getD, show k < s.length by omega]
  have hcp : n ≤ cap ∧ cap ≤ maxLen := by
    obtain ⟨a', cap', e, g1, g2, g3⟩ := hbs
    simp only [Value.slice.injEq] at e
    obtain ⟨-, -, rfl⟩ := e
    exact ⟨by omega, g2⟩
  obtain ⟨W, hW⟩ : ∃ W, Lib.bytesWorld w 5 (bytes s) = W := ⟨_, rfl⟩
  rw [hW] at hcv hbs hbb hbz hfz hcell
  obtain ⟨S, hS⟩ : ∃ S, bytes s = S := ⟨_, rfl⟩
  rw [hS] at hcv ⊢
  have HN := Lib.hid hn
  have HCE := Lib.hid hcell
  have HF := Lib.hid hfz
  have HBB := Lib.hid hbb
  have HBZ := Lib.hid hbz
  have HCP := Lib.hid hcp
  have n0 : (n : Int) ≤ 4000000 := by omega
  clear hn hcell hfz hbb hbz hbs hS hW hcap hcp
  go_enter Tryd.func39, Tryd.ntmps39
  go_wp2
  go_loopw [4] (fun iv wr => ∃ j : Nat, iv = .int .i64 (j : Int) ∧ j ≤ n ∧ Below w.heap.size w wr ∧ (∀ k, k < n → wr.cell? ⟨w.heap.size, k, none⟩ = some (.int .u8 ((lowAt s j k).toNat : Int))) ∧ (∀ k, k < n → wr.frozen? ⟨w.heap.size, k, none⟩ = false) ∧ w.heap.size < wr.heap.size) (fun iv _ => n - (intOf iv).toNat)
  case atStart => exact ⟨0, rfl, by omega, HBB.out, fun k hk => by rw [HCE.out k hk]; simp [lowAt], HF.out, by have := HBZ.out; omega⟩
  case round =>
    obtain ⟨j, rfl, hj, hb, hce, hfr, hlt⟩ := hrel
    have HB := Lib.hid hb
    have HC := Lib.hid hce
    have HR := Lib.hid hfr
    have j0 : (0 : Int) ≤ j := by omega
    clear hb hce hfr
    by_cases hjn : j < n
    · have c0 := HC.out j hjn
      have f0 := HR.out j hjn
      have j1 : (j : Int) < n := by omega
      have hlow : lowAt s j j = s.getD j 0 := by unfold lowAt; rw [if_neg (by omega)]
      rw [hlow] at c0
      obtain ⟨x, hx⟩ : ∃ x, s.getD j 0 = x := ⟨_, rfl⟩
      rw [hx] at c0
      have HX := Lib.hid hx
      obtain ⟨X, hX⟩ : ∃ X : Int, (x.toNat : Int) = X := ⟨_, rfl⟩
      rw [hX] at c0
      have x0 : 0 ≤ X := by omega
      have x1 : X < 256 := by have := x.toNat_lt; omega
      have HXX := Lib.hid hX
      clear hlow hx hX
      by_cases h1 : 65 ≤ X
      · by_cases h2 : X ≤ 90
        · have hnew : ((M.lowB x).toNat : Int) = X + 32 := by rw [lowB_small x (by have := HXX.out; omega) (by have := HXX.out; omega), HXX.out]
          have HNEW := Lib.hid hnew
          clear hnew
          as_aux_lemma =>
            go_wp2
            go_roundw
            case rel =>
              refine ⟨j + 1, by go_num, by omega, HB.out.setCell (Nat.le_refl _) _, fun k hk => ?_, fun k hk => by rw [World.frozen?_setCell]; exact HR.out k hk, by simpa using hlt⟩
              by_cases hkj : k = j
              · subst hkj
                rw [World.cell?_setCell_same _ _ _ (HC.out k hk)]
                have e : lowAt s (k + 1) k = M.lowB x := by unfold lowAt; rw [if_pos (by omega), HX.out]
                rw [e, HNEW.out]
                try (congr 2 <;> omega)
              · rw [World.cell?_setCell_other _ _ _ _ (by intro e; simp only [Addr.mk.injEq] at e; exact hkj e.2.1.symm), HC.out k hk]
                have e : lowAt s (j + 1) k = lowAt s j k := by
                  unfold lowAt
                  by_cases h : k < j
                  · rw [if_pos h, if_pos (by omega)]
                  · rw [if_neg h, if_neg (by omega)]
                rw [e]
            case measure => simp [intOf]; omega
        · have hnew : M.lowB x = x := lowB_other x (by have := HXX.out; omega)
          have HNEW := Lib.hid hnew
          clear hnew
          as_aux_lemma =>
            go_wp2
            go_roundw
            case rel =>
              refine ⟨j + 1, by go_num, by omega, HB.out, fun k hk => ?_, HR.out, hlt⟩
              rw [HC.out k hk]
              have e : lowAt s (j + 1) k = lowAt s j k := by
                unfold lowAt
                by_cases h : k < j
                · rw [if_pos h, if_pos (by omega)]
                · by_cases h2 : k = j
                  · subst h2; rw [if_pos (by omega), if_neg (by omega), HX.out, HNEW.out]
                  · rw [if_neg h, if_neg (by omega)]
              rw [e]
            case measure => simp [intOf]; omega
      · have hnew : M.lowB x = x := lowB_other x (by have := HXX.out; omega)
        have HNEW := Lib.hid hnew
        clear hnew
        as_aux_lemma =>
          go_wp2
          go_roundw
          case rel =>
            refine ⟨j + 1, by go_num, by omega, HB.out, fun k hk => ?_, HR.out, hlt⟩
            rw [HC.out k hk]
            have e : lowAt s (j + 1) k = lowAt s j k := by
              unfold lowAt
              by_cases h : k < j
              · rw [if_pos h, if_pos (by omega)]
              · by_cases h2 : k = j
                · subst h2; rw [if_pos (by omega), if_neg (by omega), HX.out, HNEW.out]
                · rw [if_neg h, if_neg (by omega)]
            rw [e]
          case measure => simp [intOf]; omega
    · obtain rfl : j = n := by omega
      have hbs : Bs wr (.slice (some ⟨w.heap.size, 0, none⟩) j cap) (M.lowL s) := by
        have hls : (M.lowL s).length = j := by unfold M.lowL; rw [List.length_map]; exact HN.out
        refine ⟨_, cap, by rw [hls], by rw [hls]; exact HCP.out.1, HCP.out.2, fun h0 => ⟨w.heap.size, 0, rfl, hlt, fun k hk => ?_⟩⟩
        rw [hls] at hk
        rw [Nat.zero_add, HC.out k hk]
        unfold lowAt
        rw [if_pos hk]
        have hks : k < s.length := by rw [HN.out]; exact hk
        have e1 : s.getD k 0 = s[k] := by simp [List.getD, hks]
        rw [e1]
        have e2 : ∀ (m : List UInt8) (h : k < m.length), m = s.map M.lowB → m[k] = M.lowB s[k] := by rintro m h rfl; exact List.getElem_map _
        rw [e2 (M.lowL s) _ rfl]
      have hcb := conv_bsF hbs
      clear hbs hjn
      as_aux_lemma =>
        go_wp2
        go_ret
        exact ⟨rfl, HB.out⟩
end Go.Proofs.YtilndlifmpbfnaaDoor

/- Tokens of CSS, the page's own: quoted, badUrl. -/
namespace Go.Proofs.YtilndlifmpbfnaaDoor
open Go.RowKit
set_option linter.unusedVariables false
set_option linter.unusedSimpArgs false

theorem ret_str {a b : ByteArray} (h : a = b) : Ending.returned (.string a) = .returned (.string b) := by rw [h]
set_option maxRecDepth 100000 in
set_option maxHeartbeats 8000000 in
theorem rqtok_any (v : Value) (L : List (Int × Int)) (c : List Int) (i : Nat) (q : Int) (t : M.CT) (K : Nat) (w : World) (hv : Rs w v L) (hc : cps L = c) (hl : L.length ≤ 40000) (hi : i < L.length) (hq : c.getD i (-1) = q) (hq2 : q = 34 ∨ q = 39)
    (ht : (if (M.strT q (c.drop (i + 1))).1 = true then { kind := 6, text := M.encZs ((c.drop i).take (1 + (M.strT q (c.drop (i + 1))).2.2)) } else { kind := 5, text := M.encZs (M.strT q (c.drop (i + 1))).2.1 } : M.CT) = t) (hK : i + (1 + (M.strT q (c.drop (i + 1))).2.2) = K) :
    Calls Tryd.prog 21 #[v, .int .i64 (i : Int)] w (TkR w t K) := by
  have hlc := hv.lc
  rw [hc] at hlc
  have hcl : c.length = L.length := by rw [← hc, cps_len]
  obtain ⟨n, hn⟩ : ∃ n, L.length = n := ⟨_, rfl⟩
  have RW := Lib.hid (fun (W : World) (hW : Below w.heap.size w W) (j : Nat) (h1 : i ≤ j) (h2 : j ≤ n) => rraw_any v L c i j W (rs_keep hv hW) hc (by omega) (by omega) h1 (by omega))
  have ES := Lib.hid (fun (W : World) (hW : Below w.heap.size w W) (j : Nat) (hj : j < n) (r : Int) (k : Nat) (hr : M.escV (c.drop (j + 1)) = (r, k)) => rescaped_any v c j r k W (hlc.keep hW) (by omega) (by omega) hr)
  rw [hn] at hl hi hcl
  obtain ⟨a, cap, rfl, h1, h2, h3⟩ := rs_at hv hn
  rw [hc] at h3
  obtain ⟨p, off, rfl, hp, -⟩ := h3 i hi
  have hcell : ∀ j, j < n → w.cell? ⟨p, off + j * 2, none⟩ = some (.int .i64 (c.getD j (-1))) := by
    intro j hj
    obtain ⟨b, off', e, _, g1, g2⟩ := h3 j hj
    simp only [Option.some.injEq, Addr.mk.injEq, and_true] at e
    obtain ⟨rfl, rfl⟩ := e
    exact g1
  have HCL := Lib.hid hcl
  have HCE := Lib.hid hcell
  obtain ⟨W0, hW0, cb0, b0, z0⟩ := w0_facts w
  have HW0 := Lib.hid hW0
  have Z0 := Lib.hid z0
  have C0 := Lib.hid b0
  have CB0 := Lib.hid cb0
  have HT := Lib.hid ht
  have HK := Lib.hid hK
  have HQ2 := Lib.hid hq2
  have ci := hcell i hi
  rw [hq] at ci
  have cr := b0.cell (p := ⟨p, off + i * 2, none⟩) hp
  rw [ci] at cr
  have cr' : (w.alloc (.cells #[.int .i64 0, .string ⟨#[]⟩, .string ⟨#[]⟩, .bool false, .string ⟨#[]⟩, .string ⟨#[]⟩, .bool false, .bool false, .int .i64 0, .int .i64 0, .int .i64 0, .int .i64 0, .int .i64 0] 36)).cell? ⟨p, off + i * 2, none⟩ = some (.int .i64 q) := by rw [hW0]; exact cr
  have i1 : (0 : Int) ≤ i := by omega
  have i2 : (i : Int) < n := by omega
  have i3 : (n : Int) ≤ 40000 := by omega
  unfold maxLen at h2
  clear hW0 z0 hv hc hn h3 hlc hcl b0 cb0 ht hK hcell hq hq2 ci cr
  go_enter Tryd.func21, Tryd.ntmps21
  go_wp2
  rw [HW0.out]
  clear cr'
  go_loopw [1, 8, 9, 10] (fun ev vv _ _ wr => ∃ (j : Nat) (pre : List Int), ev = .int .i64 (j : Int) ∧ j ≤ n ∧ StAt q c i j pre ∧ pre.length ≤ j ∧ OwnB W0.heap.size wr vv (M.encZs pre) ∧ Below W0.heap.size W0 wr) (fun ev _ _ _ _ => n - (intOf ev).toNat)
  case atStart => exact ⟨i + 1, [], by go_num, by omega, ⟨by simp, Nat.le_refl _⟩, by simp, World.ownsRow_nil _ _ _ _, Below.refl _ _⟩
  case round =>
    obtain ⟨j, pre, rfl, hj2, hst, hpl, ho, hb⟩ := hrel
    have hsz := hb.size
    have hel := encZs_le4 pre
    have HST := Lib.hid hst
    have hij := hst.2
    have hw := C0.out.trans (hb.mono (by rw [Z0.out]; omega))
    have HWR := Lib.hid hw
    have CBR := Lib.hid (CB0.out.keep hb (by rw [Z0.out]; omega))
    have j0 : (0 : Int) ≤ j := by omega
    have j1 : (i : Int) ≤ j := by omega
    have j2 : (j : Int) ≤ n := by omega
    clear hst hw
    by_cases hjn : j < n
    · have t1 : decide ((j : Int) < n) = true := by simp; omega
      have j3 : (j : Int) < n := by omega
      have ca := HCE.out j hjn
      have ra := HWR.out.cell (p := ⟨p, off + j * 2, none⟩) hp
      rw [ca] at ra
      obtain ⟨y, hy⟩ : ∃ y, c.getD j (-1) = y := ⟨_, rfl⟩
      rw [hy] at ra
      have HY := Lib.hid hy
      clear ca hy
      by_cases hyq : y = q
      · have tq : (y == q) = true := by simp [hyq]
        have hs := strT_atq q c j (by rw [HCL.out]; exact hjn) (by rw [HY.out]; exact hyq)
        have hfin := HST.out.1
        rw [hs] at hfin
        simp only [List.append_nil] at hfin
        have ht := HT.out
        have hK := HK.out
        rw [hfin] at ht hK
        simp only [Bool.false_eq_true, if_false] at ht hK
        have HT2 := Lib.hid ht
        have HK2 := Lib.hid (show (j : Int) + 1 = K by omega)
        have hcv := conv_own ho
        clear hs hfin ht hK hyq ho hel
        as_aux_lemma =>
          go_wp2_with (refine wpl_stT rfl _ _ rfl w.heap.size _ (ctv ({ kind := 5, text := M.encZs pre }) 0) rfl rfl CBR.out rfl rfl (ctv_one _ _) ?_)
          go_wp2
          (try simp only [Exit.inBlock, Exit.then])
          refine bodyPost_ret (res_tok rfl _ _ w.heap.size _ _ rfl rfl (CB.set CBR.out _) rfl) rfl ⟨(by rw [← HT2.out]; exact etup_ai HK2.out), below_setRow HWR.out (Nat.le_refl _) _⟩
      · have tq : (y == q) = false := by simpa using hyq
        by_cases hy10 : y = 10
        · have hs := strT_atb q c j (by rw [HCL.out]; exact hjn) (by rw [HY.out]; exact hy10) (by have := HQ2.out; omega)
          have hfin := HST.out.1
          rw [hs] at hfin
          simp only [List.append_nil] at hfin
          have ht := HT.out
          have hK := HK.out
          rw [hfin] at ht hK
          simp only [if_true] at ht hK
          rw [show 1 + (j - (i + 1) + 0) = j - i by omega] at ht
          have HT2 := Lib.hid ht
          obtain rfl : j = K := by omega
          subst hy10
          clear hs hfin ht hK hyq ho hb hel
          as_aux_lemma =>
            go_wp2_with fail
            refine (RW.out _ HWR.out j (by omega) hj2).mono ?_
            rintro e w2 ⟨rfl, hb2⟩
            have c2 := HWR.out.trans (hb2.mono HWR.out.size)
            have cb2 := CBR.out.keep hb2 CBR.out.lt
            clear hb2
            go_wp2_with (refine wpl_stT rfl _ _ rfl w.heap.size _ (ctv ({ kind := 6, text := M.encZs ((c.drop i).take (j - i)) }) 0) rfl rfl cb2 rfl rfl (ctv_one _ _) ?_)
            go_wp2
            (try simp only [Exit.inBlock, Exit.then])
            refine bodyPost_ret (res_tok rfl _ _ w.heap.size _ _ rfl rfl (CB.set cb2 _) rfl) rfl ⟨(by rw [← HT2.out]), below_setRow c2 (Nat.le_refl _) _⟩
        · have ta : (y == 10) = false := by simpa using hy10
          by_cases hy92 : y = 92
          · by_cases hje : j + 1 = n
            · have tl : ((j : Int) + 1 == n) = true := by rw [beq_iff_eq]; omega
              have hs := strT_atl q c j (by rw [HCL.out]; exact hje) (by rw [HY.out]; exact hy92) (by have := HQ2.out; omega)
              have hx := strT_atx q c (j + 1) (by rw [HCL.out]; omega)
              have hnew := Lib.hid (HST.out.go 1 [] (by rw [hs, hx]; rfl))
              subst hy92
              clear hs hx hyq hy10
              as_aux_lemma =>
                go_wp2
                go_roundw
                case rel => exact ⟨j + 1, pre, by go_num, by omega, by have := hnew.out; simpa using this, by omega, ho, hb⟩
                case measure => simp [intOf]; omega
            · have tl : ((j : Int) + 1 == n) = false := by rw [beq_eq_false_iff_ne]; omega
              have hj5 : j + 1 < n := by omega
              have j5 : (j : Int) + 1 < n := by omega
              have j6 : ((j : Int) + 1).toNat = j + 1 := by omega
              have j7 : (0 : Int) ≤ (j : Int) + 1 := by omega
              have ca2 := HCE.out (j + 1) hj5
              have ra2 := HWR.out.cell (p := ⟨p, off + (j + 1) * 2, none⟩) hp
              rw [ca2] at ra2
              obtain ⟨y2, hy2⟩ : ∃ y, c.getD (j + 1) (-1) = y := ⟨_, rfl⟩
              rw [hy2] at ra2
              have HY2 := Lib.hid hy2
              clear ca2 hy2 hje
              by_cases hyn : y2 = 10
              · have hs := strT_atn q c j (by rw [HCL.out]; exact hj5) (by rw [HY.out]; exact hy92) (by rw [HY2.out]; exact hyn) (by have := HQ2.out; omega)
                have hnew := Lib.hid (HST.out.go 2 [] (by rw [hs]; rfl))
                subst hy92
                subst hyn
                clear hs hyq hy10
                as_aux_lemma =>
                  go_wp2
                  go_roundw
                  case rel => exact ⟨j + 2, pre, by go_num, by omega, by have := hnew.out; simpa using this, by omega, ho, hb⟩
                  case measure => simp [intOf]; omega
              · have tn : (y2 == 10) = false := by simpa using hyn
                obtain ⟨r, k, hr⟩ : ∃ r k, M.escV (c.drop (j + 1)) = (r, k) := ⟨_, _, rfl⟩
                have hs := strT_ate q c j (by rw [HCL.out]; exact hj5) (by rw [HY.out]; exact hy92) (by rw [HY2.out]; exact hyn) (by have := HQ2.out; omega) r k hr
                have hnew := HST.out.go (1 + k) [r] (by rw [hs, Nat.add_assoc]; rfl)
                have hle := M.escV_le_at c j (by rw [HCL.out]; exact hjn)
                rw [hr, HCL.out] at hle
                simp only at hle
                have E2 := Lib.hid (ES.out wr HWR.out j hjn r k hr)
                obtain ⟨m, hm⟩ : ∃ m, j + 1 + k = m := ⟨_, rfl⟩
                rw [hm] at hle E2
                rw [show j + (1 + k) = m by omega] at hnew
                have hm2 : j + 1 ≤ m := by omega
                have HNEW := Lib.hid hnew
                have PT := Lib.hid (refput_any W0.heap.size u8 (M.encZs pre) (M.encZs (pre ++ [r])) r wr ho (by omega) hsz (by rw [M.encZs_append, M.encZs_cons, M.encZs_nil, List.append_nil]))
                subst hy92
                clear hs hnew hyq hy10 hyn hr hm ho hel
                as_aux_lemma =>
                  go_wp2_with fail
                  refine (E2.out).mono ?_
                  rintro e w' ⟨rfl, rfl⟩
                  go_wp2_with fail
                  refine (PT.out).mono ?_
                  rintro e w3 ⟨v3, rfl, ho3, hb4⟩
                  have hb5 := hb.trans hb4
                  clear hb hb4
                  go_wp2
                  go_roundw
                  case rel => exact ⟨m, pre ++ [r], by first | rfl | go_num, by omega, HNEW.out, by simp; omega, ho3, hb5⟩
                  case measure => simp [intOf]; omega
          · have te : (y == 92) = false := by simpa using hy92
            have hs := strT_ato q c j (by rw [HCL.out]; exact hjn) (by rw [HY.out]; exact hyq) (by rw [HY.out]; exact hy10) (by rw [HY.out]; exact hy92)
            rw [HY.out] at hs
            have hnew := Lib.hid (HST.out.go 1 [y] (by rw [hs]; rfl))
            have PT := Lib.hid (refput_any W0.heap.size u8 (M.encZs pre) (M.encZs (pre ++ [y])) y wr ho (by omega) hsz (by rw [M.encZs_append, M.encZs_cons, M.encZs_nil, List.append_nil]))
            clear hs hyq hy10 hy92 ho hel
            as_aux_lemma =>
              go_wp2_with fail
              refine (PT.out).mono ?_
              rintro e w3 ⟨v3, rfl, ho3, hb4⟩
              have hb5 := hb.trans hb4
              clear hb hb4
              go_wp2
              go_roundw
              case rel => exact ⟨j + 1, pre ++ [y], by go_num, by omega, hnew.out, by simp; omega, ho3, hb5⟩
              case measure => simp [intOf]; omega
    · obtain rfl : j = n := by omega
      have t1 : decide ((j : Int) < j) = false := by simp
      have hs := strT_atx q c j (by rw [HCL.out]; exact Nat.le_refl _)
      have hfin := HST.out.1
      rw [hs] at hfin
      simp only [List.append_nil] at hfin
      have ht := HT.out
      have hK := HK.out
      rw [hfin] at ht hK
      simp only [Bool.false_eq_true, if_false] at ht hK
      have HT2 := Lib.hid ht
      have HK2 := Lib.hid (show (j : Int) = K by omega)
      have hcv := conv_own ho
      clear hs hfin ht hK ho hjn hel
      as_aux_lemma =>
        go_wp2_with (refine wpl_stT rfl _ _ rfl w.heap.size _ (ctv ({ kind := 5, text := M.encZs pre }) 0) rfl rfl CBR.out rfl rfl (ctv_one _ _) ?_)
        go_wp2
        (try simp only [Exit.inBlock, Exit.then])
        refine bodyPost_ret (res_tok rfl _ _ w.heap.size _ _ rfl rfl (CB.set CBR.out _) rfl) rfl ⟨(by rw [← HT2.out]; exact etup_ai HK2.out), below_setRow HWR.out (Nat.le_refl _) _⟩
set_option maxRecDepth 100000 in
set_option maxHeartbeats 4000000 in
theorem rbadurl_any (v : Value) (c : List Int) (i k : Nat) (w : World) (hv : Lc w v c) (hl : c.length ≤ 100000) (hi : i ≤ c.length) (hk : i + badN (c.drop i) = k) :
    Calls Tryd.prog 48 #[v, .int .i64 (i : Int)] w fun e w' => e = .returned (.int .i64 (k : Int)) ∧ w = w' := by
  have EB := Lib.hid (fun j (hj : j ≤ c.length) b (hb : M.esB (c.drop j) = b) => rescape_any v c j b w hv (by omega) (by omega) hb)
  have ES := Lib.hid (fun (j : Nat) (hj : j < c.length) (r : Int) (k : Nat) (hr : M.escV (c.drop (j + 1)) = (r, k)) => rescaped_any v c j r k w hv (by omega) hj hr)
  obtain ⟨n, hn⟩ : ∃ n, c.length = n := ⟨_, rfl⟩
  obtain ⟨a, cap, rfl, h1, h2, h3⟩ := lc_at hv hn
  rw [hn] at hl hi EB ES
  have H3 := Lib.hid h3
  have HN := Lib.hid hn
  have HK := Lib.hid hk
  clear hv hn h3 hk
  go_enter Tryd.func48, Tryd.ntmps48
  go_wp2
  go_loop [1] (fun iv => ∃ j : Nat, iv = .int .i64 (j : Int) ∧ j ≤ n ∧ j + badN (c.drop j) = k) (fun iv => n - (intOf iv).toNat)
  case atStart => exact ⟨i, rfl, hi, HK.out⟩
  case round =>
    obtain ⟨j, rfl, hj, hjk⟩ := hrel
    have j0 : (0 : Int) ≤ j := by omega
    by_cases hjn : j < n
    · have j3 : (j : Int) < n := by omega
      have t1 : decide ((j : Int) < n) = true := by simp; omega
      obtain ⟨p, off, rfl, hp, ra⟩ := H3.out j hjn
      by_cases h41 : c.getD j (-1) = 41
      · rw [badN_par c j (by rw [HN.out]; exact hjn) h41] at hjk
        rw [h41] at ra
        subst hjk
        clear h41
        as_aux_lemma =>
          go_wp2
          go_ret
          exact ⟨by first | rfl | (congr 2), rfl⟩
      · have t41 : (c.getD j (-1) == 41) = false := by rw [beq_eq_false_iff_ne]; exact h41
        cases he : M.esB (c.drop j) with
        | true =>
          have E1 := Lib.hid (EB.out j (by omega) true he)
          obtain ⟨r, m0, hr⟩ : ∃ r k, M.escV (c.drop (j + 1)) = (r, k) := ⟨_, _, rfl⟩
          have E2 := Lib.hid (ES.out j hjn r m0 hr)
          have hle := M.escV_le_at c j (by rw [HN.out]; exact hjn)
          rw [badN_esc c j (by rw [HN.out]; exact hjn) h41 he r m0 hr] at hjk
          rw [hr, HN.out] at hle
          simp only at hle
          obtain ⟨m, hm⟩ : ∃ m, j + 1 + m0 = m := ⟨_, rfl⟩
          rw [hm] at hle E2 hjk
          have hnew := Lib.hid (show m + badN (c.drop m) = k by omega)
          have hm2 : j + 1 ≤ m := by omega
          obtain ⟨y, hy⟩ : ∃ y, c.getD j (-1) = y := ⟨_, rfl⟩
          rw [hy] at ra t41
          clear hjk h41 he hr hm hy
          as_aux_lemma =>
            go_wp2_with fail
            refine (E1.out).mono ?_
            rintro e w' ⟨rfl, rfl⟩
            go_wp2_with fail
            refine (E2.out).mono ?_
            rintro e w' ⟨rfl, rfl⟩
            go_wp2
            go_round
            case rel => exact ⟨m, by first | rfl | go_num, by omega, hnew.out⟩
            case measure => simp [intOf]; omega
        | false =>
          have E1 := Lib.hid (EB.out j (by omega) false he)
          rw [badN_one c j (by rw [HN.out]; exact hjn) h41 he] at hjk
          have hnew := Lib.hid (show (j + 1) + badN (c.drop (j + 1)) = k by omega)
          obtain ⟨y, hy⟩ : ∃ y, c.getD j (-1) = y := ⟨_, rfl⟩
          rw [hy] at ra t41
          clear hjk h41 he hy
          as_aux_lemma =>
            go_wp2_with fail
            refine (E1.out).mono ?_
            rintro e w' ⟨rfl, rfl⟩
            go_wp2
            go_round
            case rel => exact ⟨j + 1, by go_num, by omega, hnew.out⟩
            case measure => simp [intOf]; omega
    · obtain rfl : j = n := by omega
      have t1 : decide ((j : Int) < j) = false := by simp
      rw [badN_end c j (by rw [HN.out]; exact Nat.le_refl _)] at hjk
      obtain rfl : j = k := by omega
      clear hjn
      go_wp2
      go_ret
      exact ⟨rfl, rfl⟩
end Go.Proofs.YtilndlifmpbfnaaDoor
