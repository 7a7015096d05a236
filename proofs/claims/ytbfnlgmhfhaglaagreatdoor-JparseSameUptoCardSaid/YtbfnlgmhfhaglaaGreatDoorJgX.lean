/- Several texts of ours in one: KRef KUnits. -/
import Derived.Test.YtbfnlgmhfhaglaaGreatDoorJgK
import Derived.Test.YtbfnlgmhfhaglaaGreatDoorJgL
import Derived.Deep.QuietTactic
import Derived.BigQuiet
import Derived.Outline
import Derived.Test.YtbfnlgmhfhaglaaGreatDoorJgU
/- Texts of JSON as the reference reads them: hexDigit, pair, SameInts. -/
namespace Go.Proofs.YtbfnlgmhfhaglaaGreatDoor
open Go.RowKit
set_option linter.unusedVariables false
set_option linter.unusedSimpArgs false

theorem and1023 (n : Int) (h0 : 0 ≤ n) (h1 : n ≤ 1114111) : bits .and .i64 n 1023 = n % 1024 := bits_mask .i64 62 (by decide) (fun n h₀ h₁ => by rw [IntKind.wrap_i64]; omega) 10 (by decide) n h0 (by omega)
set_option maxRecDepth 100000 in
set_option maxHeartbeats 1000000 in
theorem pair_any (r : Nat) (w : World) (hr : r ≤ 1114111) :
    Calls Tryz.prog 95 #[.int .i64 (r : Int)] w fun e w' => ∃ v, e = .returned v ∧ Is w' v (iN (M.pairU r)) ∧ NN v ∧ Below w.heap.size w w' := by
  unfold M.pairU
  obtain ⟨R, hR⟩ : ∃ R : Int, (r : Int) = R := ⟨_, rfl⟩
  have R0 : 0 ≤ R := by omega
  have R1 : R ≤ 1114111 := by omega
  by_cases h : r < 65536
  · rw [if_pos h]
    have h' : R < 65536 := by omega
    have e : iN [r] = [R] := by simp [iN, hR]
    have He := Lib.hid e
    rw [hR]
    clear e hR h
    go_enter Tryz.func95, Tryz.ntmps95
    go_wp2
    go_ret
    exact ⟨_, rfl, by rw [He.out]; exact is_one w R, nn_some _ _ _, (Below.refl _ _).alloc (Nat.le_refl _) _⟩
  · rw [if_neg h]
    have h' : 65536 ≤ R := by omega
    have hand := and1023 (R - 65536) (by omega) (by omega)
    have hand2 : (0 : Int) ≤ (R - 65536) % 1024 := by omega
    have hand3 : (R - 65536) % 1024 < 1024 := by omega
    have hd2 : (0 : Int) ≤ (R - 65536) / 1024 := by omega
    have hd3 : (R - 65536) / 1024 < 1024 := by omega
    have e : iN [55296 + (r - 65536) / 1024, 56320 + (r - 65536) % 1024] = [55296 + (R - 65536) / 1024, 56320 + (R - 65536) % 1024] := by
      simp only [iN, List.map_cons, List.map_nil]
      have q1 : ((55296 + (r - 65536) / 1024 : Nat) : Int) = 55296 + (R - 65536) / 1024 := by omega
      have q2 : ((56320 + (r - 65536) % 1024 : Nat) : Int) = 56320 + (R - 65536) % 1024 := by omega
      rw [q1, q2]
    have He := Lib.hid e
    rw [hR]
    clear e hR h
    go_enter Tryz.func95, Tryz.ntmps95
    go_wp2
    go_ret
    exact ⟨_, rfl, by rw [He.out]; exact is_two w _ _, nn_some _ _ _, (Below.refl _ _).alloc (Nat.le_refl _) _⟩

set_option maxRecDepth 100000 in
set_option maxHeartbeats 1000000 in
theorem same_any (v u : Value) (l k : List Int) (r : Bool) (w : World) (hv : Is w v l) (hu : Is w u k) (hl : l.length ≤ 4294967296) (hk : k.length ≤ 4294967296) (hr : decide (l = k) = r) :
    Calls Tryz.prog 24 #[v, u] w fun e w' => e = .returned (.bool r) ∧ Below w.heap.size w w' := by
  obtain ⟨a, cap, rfl, h1, h2, h3⟩ := hv
  obtain ⟨a', cap', rfl, g1, g2, g3⟩ := hu
  have H3 := Lib.hid h3
  have G3 := Lib.hid g3
  have Hr := Lib.hid hr
  by_cases hlk : l.length = k.length
  · obtain ⟨n, hn⟩ : ∃ n, l.length = n := ⟨_, rfl⟩
    rw [hn] at hlk h1 hl ⊢
    rw [← hlk] at g1 hk ⊢
    have Hn := Lib.hid hn
    have Hk := Lib.hid hlk
    clear h3 g3 hr hn hlk
    go_enter Tryz.func24, Tryz.ntmps24
    go_wp2
    go_loopw [5] (fun iv wr => ∃ m q : Nat, iv = .int .i64 m ∧ m ≤ n ∧ wr = w.drewN q ∧ l.take m = k.take m) (fun iv _ => n - (intOf iv).toNat)
    case atStart => exact ⟨0, 0, rfl, by omega, rfl, by simp⟩
    case round =>
      obtain ⟨m, q, rfl, hm, rfl, ht⟩ := hrel
      have Ht := Lib.hid ht
      clear ht
      by_cases hlt : m < n
      · obtain ⟨b, off, rfl, hb, hc⟩ := H3.out (by rw [Hn.out]; omega)
        obtain ⟨b', off', rfl, hb', hc'⟩ := G3.out (by rw [← Hk.out]; omega)
        have c1 := hc m (by rw [Hn.out]; exact hlt)
        have c2 := hc' m (by rw [← Hk.out]; exact hlt)
        obtain ⟨x, hx⟩ : ∃ x, l[m]'(by rw [Hn.out]; exact hlt) = x := ⟨_, rfl⟩
        obtain ⟨y, hy⟩ : ∃ x, k[m]'(by rw [← Hk.out]; exact hlt) = x := ⟨_, rfl⟩
        rw [hx] at c1
        rw [hy] at c2
        have Hx := Lib.hid hx
        have Hy := Lib.hid hy
        have i1 : (0 : Int) ≤ m := by omega
        have i2 : (m : Int) < n := by omega
        clear hc hc' hx hy
        by_cases hxy : x = y
        · have t1 : (x != y) = false := by simp [hxy]
          have t2 : (x == y) = true := by simp [hxy]
          have hnext : l.take (m + 1) = k.take (m + 1) := by
            rw [List.take_succ_eq_append_getElem (by rw [Hn.out]; exact hlt), List.take_succ_eq_append_getElem (by rw [← Hk.out]; exact hlt), Ht.out, Hx.out, Hy.out, hxy]
          have Hnext := Lib.hid hnext
          clear hnext hxy
          go_wp2
          go_quiet (fail)
          go_wp2
          go_roundw
          case rel => exact ⟨m + 1, _, by go_num, by omega, rfl, Hnext.out⟩
          case measure => simp [intOf]; omega
        · have t1 : (x != y) = true := by simpa using hxy
          have t2 : (x == y) = false := by simpa using hxy
          have hr2 : r = false := by
            rw [← Hr.out]
            rw [decide_eq_false_iff_not]
            intro hh
            apply hxy
            rw [← Hx.out, ← Hy.out]
            subst hh
            rfl
          subst hr2
          clear hxy
          go_wp2
          go_quiet (fail)
          go_wp2
          go_ret
          exact ⟨rfl, ⟨rfl, rfl, rfl, Nat.le_refl _, fun _ _ => rfl⟩⟩
      · obtain rfl : m = n := by omega
        have hr2 := Hr.out
        have ht := Ht.out
        rw [List.take_of_length_le (by rw [Hn.out]; exact Nat.le_refl _), List.take_of_length_le (by rw [← Hk.out]; exact Nat.le_refl _)] at ht
        have : r = true := by rw [← hr2]; simpa using ht
        subst this
        clear hlt hr2 ht
        go_wp2
        go_ret
        exact ⟨rfl, ⟨rfl, rfl, rfl, Nat.le_refl _, fun _ _ => rfl⟩⟩
  · have : r = false := by
      rw [← hr, decide_eq_false_iff_not]
      intro hh; exact hlk (by rw [hh])
    subst this
    have t1 : ((l.length : Int) != k.length) = true := by simp; omega
    have t2 : ((l.length : Int) == k.length) = false := by simp; omega
    clear h3 g3 hr
    go_enter Tryz.func24, Tryz.ntmps24
    go_wp2
    go_ret
    exact ⟨rfl, Below.refl _ _⟩
end Go.Proofs.YtbfnlgmhfhaglaaGreatDoor

/- Texts of JSON as the reference reads them: JUnits, for any bytes. -/
namespace Go.Proofs.YtbfnlgmhfhaglaaGreatDoor
open Go.RowKit
set_option linter.unusedVariables false
set_option linter.unusedSimpArgs false

/-- Which units a text stands for, if it is one. -/
def junits (l : List UInt8) : Option (List Nat) := if 2 ≤ l.length ∧ l.getD 0 0 = 34 ∧ jtI l 1 = l.length ∧ (M.validAll l).2 = true then some (M.ulS (l.drop 1)) else none
theorem jor_16 (a x : Nat) (ha : a < 65536) (hx : x < 16) : bits .or .i64 ((a : Int) * 16) (x : Int) = ((a * 16 + x : Nat) : Int) := by
  have := bits_join .i64 62 (by decide) (fun n h₀ h₁ => by rw [IntKind.wrap_i64]; omega) 4 ((a : Int) * 16) (x : Int) (by omega) (by omega) (by omega) (by omega) (by omega) (by omega)
  rw [this]; omega
def hexA (l : List UInt8) (p : Nat) : Nat → Nat
  | 0 => 0
  | j + 1 => hexA l p j * 16 + (M.hexV (l.getD (p + j) 0)).toNat
theorem hexA_lt (l : List UInt8) (p j : Nat) : hexA l p j < 16 ^ j := by
  induction j with
  | zero => simp [hexA]
  | succ j ih =>
    have := M.hexV_lt (l.getD (p + j) 0)
    rw [hexA, Nat.pow_succ]; omega
theorem hexA_four (l : List UInt8) (p : Nat) : M.hex4 (l.drop p) = hexA l p 4 := by
  unfold M.hex4 M.hexN
  simp only [getD_drop, hexA]
  omega
theorem pairU_len (r : Nat) : (M.pairU r).length ≤ 2 := by unfold M.pairU; split <;> simp
/-- What stands of the text behind i bytes. -/
def Rest (l : List UInt8) (i : Nat) : Prop := M.jtS (l.drop i) = some (l.drop i).length ∧ (M.validAll (l.drop i)).2 = true
theorem rest_cp (l : List UInt8) (i : Nat) (h : Rest l i) (hi : i + 1 < l.length) (hc : l.getD i 0 ≠ 92) :
    ∃ r n : Nat, M.nextAt l i = ((r : Int), (n : Int), true) ∧ r ≤ 1114111 ∧ 1 ≤ n ∧ i + n < l.length ∧ Rest l (i + n) ∧ M.ulS (l.drop i) = M.pairU r ++ M.ulS (l.drop (i + n)) := by
  have hg : (l.drop i).getD 0 0 = l.getD i 0 := by rw [getD_drop, Nat.add_zero]
  have := M.jt_cp (l.drop i) h.1 (by simp; omega) h.2 (by rw [hg]; exact hc)
  obtain ⟨h1, h2, h3, h4, h5, h6⟩ := this
  refine ⟨(M.dec (l.drop i)).1, (M.dec (l.drop i)).2, ?_, M.dec_rune _, (M.dec_width _).1, by simp at h4; omega, ⟨by rw [← List.drop_drop]; exact h5, by rw [← List.drop_drop]; exact h6⟩, ?_⟩
  · rw [M.nextAt_in l i (by omega)]
    have h3' := h3
    rw [M.nx_ok] at h3
    unfold M.nx
    rw [if_neg h3]
  · rw [← List.drop_drop]
    have hd := drop_at l i (by omega)
    rw [hd]
    exact M.ulS_cp _ _ (by simp; omega) (by rw [show l.getD i 0 = l[i] by simp [show i < l.length by omega]] at hc; exact hc)
theorem rest_hex (l : List UInt8) (i : Nat) (h : Rest l i) (hi : i + 1 < l.length) (hc : l.getD i 0 = 92) (hu : l.getD (i + 1) 0 = 117) :
    i + 6 < l.length ∧ (∀ j, j < 4 → 0 ≤ M.hexV (l.getD (i + 2 + j) 0)) ∧ Rest l (i + 6) ∧ M.ulS (l.drop i) = hexA l (i + 2) 4 :: M.ulS (l.drop (i + 6)) := by
  have hd := drop_at l i (by omega)
  have hc' : l[i] = 92 := by rw [show l.getD i 0 = l[i] by simp [show i < l.length by omega]] at hc; exact hc
  rw [hc'] at hd
  have h1 := h.1
  have h2 := h.2
  rw [hd] at h1 h2
  have := M.jt_hex (l.drop (i + 1)) h1 h2 (by rw [getD_drop, Nat.add_zero]; exact hu)
  obtain ⟨a1, a2, a3, a4⟩ := this
  rw [drop_drop'] at a2 a3 a4
  simp only [List.length_drop] at a1
  refine ⟨by omega, fun j hj => ?_, ⟨a3, a4⟩, ?_⟩
  · have h4 : hexTo l (i + 2) 4 = true := by rw [← hexTo_four]; exact a2
    simp only [hexTo, Bool.true_and, Bool.and_eq_true, decide_eq_true_eq] at h4
    have : j = 0 ∨ j = 1 ∨ j = 2 ∨ j = 3 := by omega
    rcases this with rfl | rfl | rfl | rfl
    · exact h4.1.1.1
    · exact h4.1.1.2
    · exact h4.1.2
    · exact h4.2
  · rw [hd, M.ulS_hex _ (by rw [getD_drop, Nat.add_zero]; exact hu), drop_drop', drop_drop', hexA_four]
theorem rest_esc (l : List UInt8) (i : Nat) (h : Rest l i) (hi : i + 1 < l.length) (hc : l.getD i 0 = 92) (hu : l.getD (i + 1) 0 ≠ 117) :
    i + 2 < l.length ∧ Rest l (i + 2) ∧ M.ulS (l.drop i) = M.escV (l.getD (i + 1) 0) :: M.ulS (l.drop (i + 2)) := by
  have hd := drop_at l i (by omega)
  have hc' : l[i] = 92 := by rw [show l.getD i 0 = l[i] by simp [show i < l.length by omega]] at hc; exact hc
  rw [hc'] at hd
  have h1 := h.1
  have h2 := h.2
  rw [hd] at h1 h2
  have hg : (l.drop (i + 1)).getD 0 0 = l.getD (i + 1) 0 := by rw [getD_drop, Nat.add_zero]
  have := M.jt_esc (l.drop (i + 1)) h1 h2 (by rw [hg]; exact hu)
  obtain ⟨a1, a2, a3, a4⟩ := this
  rw [drop_drop'] at a3 a4
  simp only [List.length_drop] at a1
  refine ⟨by omega, ⟨a3, a4⟩, ?_⟩
  rw [hd, M.ulS_esc _ (by simp; omega) (by rw [hg]; exact hu), hg, drop_drop']
theorem rest_start (l : List UInt8) (h0 : l.getD 0 0 = 34) (h2 : 2 ≤ l.length) (hj : jtI l 1 = l.length) (hv : (M.validAll l).2 = true) : Rest l 1 := by
  constructor
  · unfold jtI at hj
    have hl : (l.drop 1).length = l.length - 1 := by simp
    cases hh : M.jtS (l.drop 1) with
    | none => rw [hh] at hj; simp only at hj; omega
    | some n => rw [hh] at hj; simp only at hj; rw [hl]; exact congrArg some (by omega)
  · rw [← M.valid_ascii l (by omega) (by rw [h0]; decide)]; exact hv
theorem tup_ok {a b : Value} {c d : Bool} (h : a = b) (h2 : c = d) : Ending.returned (.tuple #[a, .bool c]) = .returned (.tuple #[b, .bool d]) := by rw [h, h2]
theorem escV_cases (d : UInt8) : (d = 98 ∧ M.escV d = 8) ∨ (d = 102 ∧ M.escV d = 12) ∨ (d = 110 ∧ M.escV d = 10) ∨ (d = 114 ∧ M.escV d = 13) ∨ (d = 116 ∧ M.escV d = 9) ∨ (d ≠ 98 ∧ d ≠ 102 ∧ d ≠ 110 ∧ d ≠ 114 ∧ d ≠ 116 ∧ M.escV d = d.toNat) := by
  by_cases h1 : d = 98
  · subst h1; left; exact ⟨rfl, rfl⟩
  by_cases h2 : d = 102
  · subst h2; right; left; exact ⟨rfl, rfl⟩
  by_cases h3 : d = 110
  · subst h3; right; right; left; exact ⟨rfl, rfl⟩
  by_cases h4 : d = 114
  · subst h4; right; right; right; left; exact ⟨rfl, rfl⟩
  by_cases h5 : d = 116
  · subst h5; right; right; right; right; left; exact ⟨rfl, rfl⟩
  right; right; right; right; right
  refine ⟨h1, h2, h3, h4, h5, ?_⟩
  unfold M.escV
  rw [if_neg h1, if_neg h2, if_neg h3, if_neg h4, if_neg h5]
theorem eq_b (d : UInt8) (D : Int) (hD : (d.toNat : Int) = D) (k : UInt8) (K : Int) (hK : (k.toNat : Int) = K) (h : d = k) : (D == K) = true := by
  subst h; rw [beq_iff_eq]; omega
theorem ne_b (d : UInt8) (D : Int) (hD : (d.toNat : Int) = D) (k : UInt8) (K : Int) (hK : (k.toNat : Int) = K) (h : d ≠ k) : (D == K) = false := by
  rw [beq_eq_false_iff_ne]; intro hh; apply h; apply UInt8.toNat_inj.1; omega
theorem eq_n (d : UInt8) (D : Int) (hD : (d.toNat : Int) = D) (k : UInt8) (K : Int) (hK : (k.toNat : Int) = K) (h : d = k) : (D != K) = false := by
  simp [bne, eq_b d D hD k K hK h]
theorem ne_n (d : UInt8) (D : Int) (hD : (d.toNat : Int) = D) (k : UInt8) (K : Int) (hK : (k.toNat : Int) = K) (h : d ≠ k) : (D != K) = true := by
  simp [bne, ne_b d D hD k K hK h]
/-- What JUnits returns. -/
def JuP (w : World) (n : Nat) (us : List Nat) (ok : Bool) (e : Ending) (w' : World) : Prop := ∃ v', e = .returned (.tuple #[v', .bool ok]) ∧ (ok = true → Is w' v' (iN us) ∧ NN v' ∧ us.length ≤ 2 * n) ∧ Below w.heap.size w w'
theorem if_no {us : List Nat} {ok : Bool} (h : none = if ok then some us else none) : ok = false := by
  cases ok with
  | false => rfl
  | true => exact absurd h (by simp)

set_option maxRecDepth 100000 in
set_option maxHeartbeats 8000000 in
theorem junits_any (v : Value) (l : List UInt8) (us : List Nat) (ok : Bool) (w : World) (hv : Bs w v l) (hl : l.length ≤ 1048576) (hr : junits l = if ok then some us else none) :
    Calls Tryz.prog 69 #[v] w (JuP w l.length us ok) := by
  have hv2 := hv
  obtain ⟨a, cap, rfl, h1, h2, h3⟩ := hv2
  obtain ⟨n, hn⟩ : ∃ n, l.length = n := ⟨_, rfl⟩
  rw [hn] at hv h1 hl ⊢
  unfold junits at hr
  rw [hn] at hr
  by_cases hn2 : n < 2
  · rw [if_neg (by omega)] at hr
    have := if_no hr
    subst this
    have n2 : (n : Int) < 2 := by omega
    clear hr h3 hv hn hn2
    go_enter Tryz.func69, Tryz.ntmps69
    go_wp2
    go_ret2
    exact ⟨_, rfl, fun h => absurd h (by simp), Below.refl _ _⟩
  · obtain ⟨b, off, rfl, hb, hcl⟩ := h3 (by omega)
    have hcg : ∀ j, j < l.length → w.cell? ⟨b, off + j, none⟩ = some (.int .u8 ((l.getD j 0).toNat : Int)) := fun j hj => by rw [hcl j hj]; simp [hj]
    have hc0 := hcg 0 (by omega)
    rw [Nat.add_zero] at hc0
    have n2 : ¬ (n : Int) < 2 := by omega
    have n3 : 2 ≤ n := by omega
    obtain ⟨c, hc⟩ : ∃ c, l.getD 0 0 = c := ⟨_, rfl⟩
    rw [hc] at hc0 hr
    obtain ⟨C, hC⟩ : ∃ C : Int, (c.toNat : Int) = C := ⟨_, rfl⟩
    rw [hC] at hc0
    by_cases h34 : c = 34
    · obtain ⟨T, hT⟩ : ∃ T, jtI l 1 = T := ⟨_, rfl⟩
      have J1 : Calls Tryz.prog 38 #[.slice (some ⟨b, off, none⟩) n cap, .int .i64 0] w fun e w' => e = .returned (.int .i64 T) ∧ Below w.heap.size w w' := jtext_any _ l 0 T w hv (by omega) (by omega) hT
      have t1 := eq_n c C hC 34 34 rfl h34
      have t2 := eq_b c C hC 34 34 rfl h34
      rw [hT] at hr
      have HJ := Lib.hid J1
      by_cases hTn : T = n
      · have t3 : (T != (n : Int)) = false := by simp [hTn]
        have t4 : (T == (n : Int)) = true := by simp [hTn]
        obtain ⟨⟨q, vok⟩, hval⟩ : ∃ x, M.validAll l = x := ⟨_, rfl⟩
        have V1 := fun W hb => refvalid_any (.slice (some ⟨b, off, none⟩) n cap) l q vok W hb (by omega) hval
        have Hvs := Lib.hid hv
        have HV := Lib.hid V1
        rw [hval] at hr
        cases vok with
        | false =>
          rw [if_neg (by simp)] at hr
          have := if_no hr
          subst this
          clear hr h3 hv hn hn2 hcl hcg hc hC h34 hT J1 V1 hval hTn
          go_enter Tryz.func69, Tryz.ntmps69
          go_wp2_with fail
          refine HJ.out.mono ?_
          rintro e w1 ⟨rfl, hb1⟩
          go_wp2_with fail
          refine (HV.out _ (Hvs.out.keep hb1)).mono ?_
          rintro e w' ⟨rfl, rfl⟩
          go_wp2
          go_ret2
          exact ⟨_, rfl, fun h => absurd h (by simp), hb1⟩
        | true =>
          rw [if_pos ⟨n3, h34, hTn, rfl⟩] at hr
          have : ok = true := by cases ok with
            | true => rfl
            | false => exact absurd hr (by simp)
          subst this
          simp only [if_true, Option.some.injEq] at hr
          have hst := rest_start l (by rw [hc]; exact h34) (by omega) (by rw [hT, hTn, hn]) (by rw [hval])
          have HG := Lib.hid hcg
          have HN := Lib.hid hn
          have HR := Lib.hid hr
          have HS := Lib.hid hst
          clear hr h3 hv hn hn2 hcl hcg hc hC h34 hT J1 V1 hval hTn hst
          go_enter Tryz.func69, Tryz.ntmps69
          go_wp2_with fail
          refine HJ.out.mono ?_
          rintro e w1 ⟨rfl, hb1⟩
          go_wp2_with fail
          refine (HV.out _ (Hvs.out.keep hb1)).mono ?_
          rintro e w' ⟨rfl, rfl⟩
          go_wp2
          clear hc0 t1 t2
          go_loopw [6, 7, 8, 9, 10, 11, 12, 13] (fun lv iv _ _ _ _ _ _ wr => ∃ (i : Nat) (pre : List Nat), iv = .int .i64 i ∧ i < n ∧ Rest l i ∧ pre ++ M.ulS (l.drop i) = us ∧ pre.length ≤ 2 * i ∧ OwnI w.heap.size wr lv (iN pre) ∧ Below w.heap.size w wr) (fun _ iv _ _ _ _ _ _ _ => n - (intOf iv).toNat)
          case atStart => exact ⟨1, [], rfl, by omega, HS.out, by rw [List.nil_append]; exact HR.out, by simp, World.ownsRow_nil _ _ _ _, hb1⟩
          case round =>
            obtain ⟨i, pre, rfl, hi, hrest, hpre, hpl, ho, hbr⟩ := hrel
            have Hrest := Lib.hid hrest
            have Hpre := Lib.hid hpre
            have hszr := hbr.size
            have Ho := Lib.hid ho
            clear hrest hpre ho
            by_cases hlt : i + 1 < n
            · have i1 : (0 : Int) ≤ i := by omega
              have i2 : (i : Int) < (n : Int) - 1 := by omega
              have i3 : (i : Int) < n := by omega
              have hci := HG.out i (by rw [HN.out]; omega)
              have hcr := hbr.cell (p := ⟨b, off + i, none⟩) hb
              rw [hci] at hcr
              obtain ⟨c, hc⟩ : ∃ c, l.getD i 0 = c := ⟨_, rfl⟩
              rw [hc] at hcr
              obtain ⟨C, hC⟩ : ∃ C : Int, (c.toNat : Int) = C := ⟨_, rfl⟩
              rw [hC] at hcr
              by_cases h92 : c = 92
              · have t1 := eq_n c C hC 92 92 rfl h92
                have t2 := eq_b c C hC 92 92 rfl h92
                obtain ⟨d, hd⟩ : ∃ d, l.getD (i + 1) 0 = d := ⟨_, rfl⟩
                have hcd := HG.out (i + 1) (by rw [HN.out]; omega)
                have hcdr := hbr.cell (p := ⟨b, off + (i + 1), none⟩) hb
                rw [hcd, hd] at hcdr
                obtain ⟨D, hD⟩ : ∃ C : Int, (d.toNat : Int) = C := ⟨_, rfl⟩
                rw [hD] at hcdr
                have D0 : 0 ≤ D := by omega
                have D9 : D < 256 := by have := d.toNat_lt; omega
                have i4 : ((i : Int) + 1).toNat = i + 1 := by omega
                have i5 : (0 : Int) ≤ (i : Int) + 1 := by omega
                have i6 : (i : Int) + 1 < n := by omega
                by_cases h117 : d = 117
                · have t3 := eq_b d D hD 117 117 rfl h117
                  obtain ⟨h6, hdig, hR, hul⟩ := rest_hex l i Hrest.out (by rw [HN.out]; exact hlt) (by rw [hc]; exact h92) (by rw [hd]; exact h117)
                  rw [HN.out] at h6
                  have hfin : (pre ++ [hexA l (i + 2) 4]) ++ M.ulS (l.drop (i + 6)) = us := by rw [List.append_assoc, List.singleton_append, ← hul]; exact Hpre.out
                  have HF := Lib.hid hfin
                  have HRR := Lib.hid hR
                  have HD4 := Lib.hid hdig
                  clear hc hC h92 hd hD h117 hR hul hfin hci hcd hdig
                  go_wp2
                  go_loop [11, 12] (fun xv kv => ∃ j : Nat, kv = .int .i64 ((i : Int) + 2 + j) ∧ j ≤ 4 ∧ xv = .int .i64 ((hexA l (i + 2) j : Nat) : Int)) (fun _ kv => ((i : Int) + 6 - intOf kv).toNat)
                  case atStart => exact ⟨0, by simp, by omega, rfl⟩
                  case round =>
                    obtain ⟨j, rfl, hj, rfl⟩ := hrel
                    by_cases hj4 : j < 4
                    · have k0 : (i : Int) + 2 + j < i + 6 := by omega
                      have hck := HG.out (i + 2 + j) (by rw [HN.out]; omega)
                      have hckr := hbr.cell (p := ⟨b, off + (i + 2 + j), none⟩) hb
                      rw [hck] at hckr
                      have hx0 := HD4.out j hj4
                      have hxl := M.hexV_lt (l.getD (i + 2 + j) 0)
                      obtain ⟨x, hx⟩ : ∃ x : Nat, M.hexV (l.getD (i + 2 + j) 0) = x := ⟨_, (Int.toNat_of_nonneg hx0).symm⟩
                      have hstep : hexA l (i + 2) (j + 1) = hexA l (i + 2) j * 16 + x := by rw [hexA, hx]; simp
                      have hal := hexA_lt l (i + 2) j
                      have hal2 : (16 : Nat) ^ j ≤ 16 ^ 3 := Nat.pow_le_pow_right (by omega) (by omega)
                      obtain ⟨A, hA⟩ : ∃ A, hexA l (i + 2) j = A := ⟨_, rfl⟩
                      rw [hA] at hstep hal ⊢
                      rw [hx] at hxl
                      have hA4 : A < 4096 := by omega
                      have hor := jor_16 A x (by omega) (by omega)
                      rw [← hstep] at hor
                      have hc1 := fun W => hex_any (l.getD (i + 2 + j) 0) x W hx
                      have Hc1 := Lib.hid hc1
                      have k2 : (0 : Int) ≤ (i : Int) + 2 + j := by omega
                      have k3 : (i : Int) + 2 + j < n := by omega
                      have k4 : ((i : Int) + 2 + j).toNat = i + 2 + j := by omega
                      clear hck hx0 hx hstep hal hal2 hA hc1
                      go_wp2_with fail
                      refine (Hc1.out _).mono ?_
                      rintro e w' ⟨rfl, rfl⟩
                      go_wp2
                      go_round
                      case rel => exact ⟨j + 1, by congr 1 <;> omega, by omega, rfl⟩
                      case measure => simp [intOf]; omega
                    · obtain rfl : j = 4 := by omega
                      have k0 : ¬ (i : Int) + 2 + 4 < i + 6 := by omega
                      obtain ⟨X, hX⟩ : ∃ A, hexA l (i + 2) 4 = A := ⟨_, rfl⟩
                      rw [hX] at HF ⊢
                      clear hX
                      go_wp2_with (at_builtin; refine wpl_appendI rfl _ _ rfl w.heap.size _ (.slice (some ⟨wr.heap.size, 0, none⟩) 1 1) (iN pre) [((X : Nat) : Int)] (iN (pre ++ [X])) rfl (ownsRow_keep Ho.out ((Below.refl _ _).alloc (Nat.le_refl _) _)) rfl (is_one wr _) (nn_some _ _ _) (by rw [iN_len]; simp; omega) (by simp; omega) (by rw [iN_append]; rfl) ?_)
                      intro v3 w3 ho3 hb4
                      have hb5 := (hbr.alloc hszr _).trans hb4
                      clear hb4
                      go_wp2
                      go_roundw
                      case rel => exact ⟨i + 6, pre ++ [X], by go_num, h6, HRR.out, HF.out, by simp; omega, ho3, hb5⟩
                      case measure => simp [intOf]; omega
                · have t3 := ne_b d D hD 117 117 rfl h117
                  obtain ⟨h6, hR, hul⟩ := rest_esc l i Hrest.out (by rw [HN.out]; exact hlt) (by rw [hc]; exact h92) (by rw [hd]; exact h117)
                  rw [HN.out] at h6
                  rw [hd] at hul
                  obtain ⟨x, hx⟩ : ∃ x, M.escV d = x := ⟨_, rfl⟩
                  have hes := escV_cases d
                  rw [hx] at hul hes
                  have hfin : (pre ++ [x]) ++ M.ulS (l.drop (i + 2)) = us := by rw [List.append_assoc, List.singleton_append, ← hul]; exact Hpre.out
                  have tst : ((D == 98) = true ∧ x = 8) ∨ ((D == 98) = false ∧ (D == 102) = true ∧ x = 12) ∨ ((D == 98) = false ∧ (D == 102) = false ∧ (D == 110) = true ∧ x = 10) ∨ ((D == 98) = false ∧ (D == 102) = false ∧ (D == 110) = false ∧ (D == 114) = true ∧ x = 13) ∨ ((D == 98) = false ∧ (D == 102) = false ∧ (D == 110) = false ∧ (D == 114) = false ∧ (D == 116) = true ∧ x = 9) ∨ ((D == 98) = false ∧ (D == 102) = false ∧ (D == 110) = false ∧ (D == 114) = false ∧ (D == 116) = false ∧ (x : Int) = D) := by
                    simp only [beq_iff_eq, beq_eq_false_iff_ne]
                    have q : ∀ k : UInt8, d = k → D = (k.toNat : Int) := fun k h => by rw [← hD, h]
                    have p : ∀ k : UInt8, d ≠ k → D ≠ (k.toNat : Int) := fun k h hh => h (UInt8.toNat_inj.1 (by omega))
                    rcases hes with ⟨e1, e2⟩ | ⟨e1, e2⟩ | ⟨e1, e2⟩ | ⟨e1, e2⟩ | ⟨e1, e2⟩ | ⟨e1, e2, e3, e4, e5, e6⟩
                    · have := q _ e1; simp at this; omega
                    · have := q _ e1; simp at this; omega
                    · have := q _ e1; simp at this; omega
                    · have := q _ e1; simp at this; omega
                    · have := q _ e1; simp at this; omega
                    · have p1 := p _ e1; have p2 := p _ e2; have p3 := p _ e3; have p4 := p _ e4; have p5 := p _ e5
                      simp at p1 p2 p3 p4 p5
                      omega
                  have HF := Lib.hid hfin
                  have HRR := Lib.hid hR
                  clear hc hC h92 hd hD h117 hR hul hfin hci hcd hes hx
                  rcases tst with ⟨s1, rfl⟩ | ⟨s1, s2, rfl⟩ | ⟨s1, s2, s3, rfl⟩ | ⟨s1, s2, s3, s4, rfl⟩ | ⟨s1, s2, s3, s4, s5, rfl⟩ | ⟨s1, s2, s3, s4, s5, hxD⟩
                  · go_wp2_with (at_builtin; refine wpl_appendI rfl _ _ rfl w.heap.size _ (.slice (some ⟨wr.heap.size, 0, none⟩) 1 1) (iN pre) [8] (iN (pre ++ [8])) rfl (ownsRow_keep Ho.out ((Below.refl _ _).alloc (Nat.le_refl _) _)) rfl (is_one wr _) (nn_some _ _ _) (by rw [iN_len]; simp; omega) (by simp; omega) (by rw [iN_append]; rfl) ?_)
                    intro v3 w3 ho3 hb4
                    have hb5 := (hbr.alloc hszr _).trans hb4
                    clear hb4
                    go_wp2
                    go_roundw
                    case rel => exact ⟨i + 2, pre ++ [8], by go_num, h6, HRR.out, HF.out, by simp; omega, ho3, hb5⟩
                    case measure => simp [intOf]; omega
                  · go_wp2_with (at_builtin; refine wpl_appendI rfl _ _ rfl w.heap.size _ (.slice (some ⟨wr.heap.size, 0, none⟩) 1 1) (iN pre) [12] (iN (pre ++ [12])) rfl (ownsRow_keep Ho.out ((Below.refl _ _).alloc (Nat.le_refl _) _)) rfl (is_one wr _) (nn_some _ _ _) (by rw [iN_len]; simp; omega) (by simp; omega) (by rw [iN_append]; rfl) ?_)
                    intro v3 w3 ho3 hb4
                    have hb5 := (hbr.alloc hszr _).trans hb4
                    clear hb4
                    go_wp2
                    go_roundw
                    case rel => exact ⟨i + 2, pre ++ [12], by go_num, h6, HRR.out, HF.out, by simp; omega, ho3, hb5⟩
                    case measure => simp [intOf]; omega
                  · go_wp2_with (at_builtin; refine wpl_appendI rfl _ _ rfl w.heap.size _ (.slice (some ⟨wr.heap.size, 0, none⟩) 1 1) (iN pre) [10] (iN (pre ++ [10])) rfl (ownsRow_keep Ho.out ((Below.refl _ _).alloc (Nat.le_refl _) _)) rfl (is_one wr _) (nn_some _ _ _) (by rw [iN_len]; simp; omega) (by simp; omega) (by rw [iN_append]; rfl) ?_)
                    intro v3 w3 ho3 hb4
                    have hb5 := (hbr.alloc hszr _).trans hb4
                    clear hb4
                    go_wp2
                    go_roundw
                    case rel => exact ⟨i + 2, pre ++ [10], by go_num, h6, HRR.out, HF.out, by simp; omega, ho3, hb5⟩
                    case measure => simp [intOf]; omega
                  · go_wp2_with (at_builtin; refine wpl_appendI rfl _ _ rfl w.heap.size _ (.slice (some ⟨wr.heap.size, 0, none⟩) 1 1) (iN pre) [13] (iN (pre ++ [13])) rfl (ownsRow_keep Ho.out ((Below.refl _ _).alloc (Nat.le_refl _) _)) rfl (is_one wr _) (nn_some _ _ _) (by rw [iN_len]; simp; omega) (by simp; omega) (by rw [iN_append]; rfl) ?_)
                    intro v3 w3 ho3 hb4
                    have hb5 := (hbr.alloc hszr _).trans hb4
                    clear hb4
                    go_wp2
                    go_roundw
                    case rel => exact ⟨i + 2, pre ++ [13], by go_num, h6, HRR.out, HF.out, by simp; omega, ho3, hb5⟩
                    case measure => simp [intOf]; omega
                  · go_wp2_with (at_builtin; refine wpl_appendI rfl _ _ rfl w.heap.size _ (.slice (some ⟨wr.heap.size, 0, none⟩) 1 1) (iN pre) [9] (iN (pre ++ [9])) rfl (ownsRow_keep Ho.out ((Below.refl _ _).alloc (Nat.le_refl _) _)) rfl (is_one wr _) (nn_some _ _ _) (by rw [iN_len]; simp; omega) (by simp; omega) (by rw [iN_append]; rfl) ?_)
                    intro v3 w3 ho3 hb4
                    have hb5 := (hbr.alloc hszr _).trans hb4
                    clear hb4
                    go_wp2
                    go_roundw
                    case rel => exact ⟨i + 2, pre ++ [9], by go_num, h6, HRR.out, HF.out, by simp; omega, ho3, hb5⟩
                    case measure => simp [intOf]; omega
                  · have HxD := Lib.hid hxD
                    clear hxD
                    go_wp2_with (at_builtin; refine wpl_appendI rfl _ _ rfl w.heap.size _ (.slice (some ⟨wr.heap.size, 0, none⟩) 1 1) (iN pre) [D] (iN (pre ++ [x])) rfl (ownsRow_keep Ho.out ((Below.refl _ _).alloc (Nat.le_refl _) _)) rfl (is_one wr _) (nn_some _ _ _) (by rw [iN_len]; simp; omega) (by simp; omega) (by rw [iN_append, ← HxD.out]; rfl) ?_)
                    intro v3 w3 ho3 hb4
                    have hb5 := (hbr.alloc hszr _).trans hb4
                    clear hb4
                    go_wp2
                    go_roundw
                    case rel => exact ⟨i + 2, pre ++ [x], by go_num, h6, HRR.out, HF.out, by simp; omega, ho3, hb5⟩
                    case measure => simp [intOf]; omega
              · have t1 := ne_n c C hC 92 92 rfl h92
                have t2 := ne_b c C hC 92 92 rfl h92
                obtain ⟨r, m, hnx, hr1, hm1, him, hR, hul⟩ := rest_cp l i Hrest.out (by rw [HN.out]; exact hlt) (by rw [hc]; exact h92)
                have N1 := fun W hb => refnext_any (.slice (some ⟨b, off, none⟩) n cap) l i _ W hb (by rw [HN.out]; omega) hnx
                unfold tri at N1
                dsimp only at N1
                have hP := fun W => pair_any r W hr1
                have hpl2 := pairU_len r
                have hfin : (pre ++ M.pairU r) ++ M.ulS (l.drop (i + m)) = us := by rw [List.append_assoc, ← hul]; exact Hpre.out
                have him2 : i + m < n := by rw [← HN.out]; exact him
                have HN1 := Lib.hid N1
                have HP := Lib.hid hP
                have HF := Lib.hid hfin
                have HRR := Lib.hid hR
                clear hc hC h92 hnx hR hul N1 hP hfin him hci
                obtain ⟨RI, hRI⟩ : ∃ R : Int, (r : Int) = R := ⟨_, rfl⟩
                have R0 : 0 ≤ RI := by omega
                have R1 : RI ≤ 1114111 := by omega
                rw [hRI] at HN1 HP
                clear hRI hr1
                go_wp2_with fail
                refine (HN1.out _ (Hvs.out.keep hbr)).mono ?_
                rintro e w' ⟨rfl, rfl⟩
                go_wp2_with fail
                refine (HP.out _).mono ?_
                rintro e w2 ⟨v2, rfl, hi2, hn2, hb2⟩
                have ho2 : OwnI w.heap.size w2 u6 (iN pre) := ownsRow_keep Ho.out hb2
                have hb3 := hbr.trans (hb2.mono hszr)
                have hsz3 := hb3.size
                go_wp2_with (at_builtin; refine wpl_appendI rfl _ _ rfl w.heap.size _ v2 (iN pre) (iN (M.pairU r)) (iN (pre ++ M.pairU r)) rfl ho2 rfl hi2 hn2 (by rw [iN_len, iN_len]; omega) hsz3 (iN_append _ _).symm ?_)
                intro v3 w3 ho3 hb4
                have hb5 := hb3.trans hb4
                clear hb3 hb4 hb2 hi2 hn2 ho2
                go_wp2
                go_roundw
                case rel => exact ⟨i + m, pre ++ M.pairU r, by go_num, him2, HRR.out, HF.out, by simp; omega, ho3, hb5⟩
                case measure => simp [intOf]; omega
            · have hfin := Hpre.out
              rw [M.ulS_end _ (by simp; rw [HN.out]; omega), List.append_nil] at hfin
              subst hfin
              have i2 : ¬ (i : Int) < (n : Int) - 1 := by omega
              have hnn := Ho.out.nn
              have his := Ho.out.is
              have hpl3 : pre.length ≤ 2 * n := by omega
              have HF : Hid (JuP w n pre true (.returned (.tuple #[u6, .bool true])) wr) := Lib.hid ⟨_, rfl, fun _ => ⟨his, hnn, hpl3⟩, hbr⟩
              clear hnn his hlt
              go_wp2
              go_ret2
              exact HF.out
      · have t3 : (T != (n : Int)) = true := by simpa using hTn
        have t4 : (T == (n : Int)) = false := by simpa using hTn
        rw [if_neg (by intro hh; exact hTn hh.2.2.1)] at hr
        have := if_no hr
        subst this
        clear hr h3 hv hn hn2 hcl hcg hc hC h34 hT J1
        go_enter Tryz.func69, Tryz.ntmps69
        go_wp2_with fail
        refine HJ.out.mono ?_
        rintro e w1 ⟨rfl, hb1⟩
        go_wp2
        go_ret2
        exact ⟨_, rfl, fun h => absurd h (by simp), hb1⟩
    · have t2 := ne_b c C hC 34 34 rfl h34
      have t1 := ne_n c C hC 34 34 rfl h34
      rw [if_neg (by intro hh; exact h34 hh.2.1)] at hr
      have := if_no hr
      subst this
      clear hr h3 hv hn hn2 hcl hcg hc hC h34
      go_enter Tryz.func69, Tryz.ntmps69
      go_wp2
      go_ret2
      exact ⟨_, rfl, fun h => absurd h (by simp), Below.refl _ _⟩
end Go.Proofs.YtbfnlgmhfhaglaaGreatDoor
