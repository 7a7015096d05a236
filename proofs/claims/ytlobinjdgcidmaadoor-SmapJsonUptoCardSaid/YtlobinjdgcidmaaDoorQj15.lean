/- Texts of ours in one: JgX. -/
import Derived.Test.YtlobinjdgcidmaaDoorQj11
import Derived.Test.YtlobinjdgcidmaaDoorQj09
import Derived.Deep.QuietTactic
import Derived.BigQuiet
import Derived.Outline
import Derived.Test.YtlobinjdgcidmaaDoorQj03
/- Several texts of ours in one: KRef KUnits. -/
/- Texts of JSON as the reference reads them: hexDigit, pair, SameInts. -/
namespace Go.Proofs.YtlobinjdgcidmaaDoor
open Go.RowKit
set_option linter.unusedVariables false
set_option linter.unusedSimpArgs false

theorem and1023 (n : Int) (h0 : 0 ≤ n) (h1 : n ≤ 1114111) : bits .and .i64 n 1023 = n % 1024 := bits_mask .i64 62 (by decide) (fun n h₀ h₁ => by rw [IntKind.wrap_i64]; omega) 10 (by decide) n h0 (by omega)
set_option maxRecDepth 100000 in
set_option maxHeartbeats 1000000 in
theorem pair_any (r : Nat) (w : World) (hr : r ≤ 1114111) :
    Calls Tryd.prog 46 #[.int .i64 (r : Int)] w fun e w' => ∃ v, e = .returned v ∧ Is w' v (iN (M.pairU r)) ∧ NN v ∧ Below w.heap.size w w' := by
  unfold M.pairU
  obtain ⟨R, hR⟩ : ∃ R : Int, (r : Int) = R := ⟨_, rfl⟩
  have R0 : 0 ≤ R := by omega
  have R1 : R ≤ 1114111 := by omega
  by_cases h : r < 65536
  · rw [if_pos h]
    have h' : R < 65536 := by omega
    have e : iN [r] = [R] := by simp [iN, hR]
    have He := Lib.hid e
    rw [hR]
    clear e hR h
    go_enter Tryd.func46, Tryd.ntmps46
    go_wp2
    go_ret
    exact ⟨_, rfl, by rw [He.out]; exact is_one w R, nn_some _ _ _, (Below.refl _ _).alloc (Nat.le_refl _) _⟩
  · rw [if_neg h]
    have h' : 65536 ≤ R := by omega
    have hand := and1023 (R - 65536) (by omega) (by omega)
    have hand2 : (0 : Int) ≤ (R - 65536) % 1024 := by omega
    have hand3 : (R - 65536) % 1024 < 1024 := by omega
    have hd2 : (0 : Int) ≤ (R - 65536) / 1024 := by omega
    have hd3 : (R - 65536) / 1024 < 1024 := by omega
    have e : iN [55296 + (r - 65536) / 1024, 56320 + (r - 65536) % 1024] = [55296 + (R - 65536) / 1024, 56320 + (R - 65536) % 1024] := by
      simp only [iN, List.map_cons, List.map_nil]
      have q1 : ((55296 + (r - 65536) / 1024 : Nat) : Int) = 55296 + (R - 65536) / 1024 := by omega
      have q2 : ((56320 + (r - 65536) % 1024 : Nat) : Int) = 56320 + (R - 65536) % 1024 := by omega
      rw [q1, q2]
    have He := Lib.hid e
    rw [hR]
    clear e hR h
    go_enter Tryd.func46, Tryd.ntmps46
    go_wp2
    go_ret
    exact ⟨_, rfl, by rw [He.out]; exact is_two w _ _, nn_some _ _ _, (Below.refl _ _).alloc (Nat.le_refl _) _⟩

set_option maxRecDepth 100000 in
set_option maxHeartbeats 1000000 in
theorem same_any (v u : Value) (l k : List Int) (r : Bool) (w : World) (hv : Is w v l) (hu : Is w u k) (hl : l.length ≤ 4294967296) (hk : k.length ≤ 4294967296) (hr : decide (l = k) = r) :
    Calls Tryd.prog 10 #[v, u] w fun e w' => e = .returned (.bool r) ∧ Below w.heap.size w w' := by
  obtain ⟨a, cap, rfl, h1, h2, h3⟩ := hv
  obtain ⟨a', cap', rfl, g1, g2, g3⟩ := hu
  have H3 := Lib.hid h3
  have G3 := Lib.hid g3
  have Hr := Lib.hid hr
  by_cases hlk : l.length = k.length
  · obtain ⟨n, hn⟩ : ∃ n, l.length = n := ⟨_, rfl⟩
    rw [hn] at hlk h1 hl ⊢
    rw [← hlk] at g1 hk ⊢
    have Hn := Lib.hid hn
    have Hk := Lib.hid hlk
    clear h3 g3 hr hn hlk
    go_enter Tryd.func10, Tryd.ntmps10
    go_wp2
    go_loopw [5] (fun iv wr => ∃ m q : Nat, iv = .int .i64 m ∧ m ≤ n ∧ wr = w.drewN q ∧ l.take m = k.take m) (fun iv _ => n - (intOf iv).toNat)
    case atStart => exact ⟨0, 0, rfl, by omega, rfl, by simp⟩
    case round =>
      obtain ⟨m, q, rfl, hm, rfl, ht⟩ := hrel
      have Ht := Lib.hid ht
      clear ht
      by_cases hlt : m < n
      · obtain ⟨b, off, rfl, hb, hc⟩ := H3.out (by rw [Hn.out]; omega)
        obtain ⟨b', off', rfl, hb', hc'⟩ := G3.out (by rw [← Hk.out]; omega)
        have c1 := hc m (by rw [Hn.out]; exact hlt)
        have c2 := hc' m (by rw [← Hk.out]; exact hlt)
        obtain ⟨x, hx⟩ : ∃ x, l[m]'(by rw [Hn.out]; exact hlt) = x := ⟨_, rfl⟩
        obtain ⟨y, hy⟩ : ∃ x, k[m]'(by rw [← Hk.out]; exact hlt) = x := ⟨_, rfl⟩
        rw [hx] at c1
        rw [hy] at c2
        have Hx := Lib.hid hx
        have Hy := Lib.hid hy
        have i1 : (0 : Int) ≤ m := by omega
        have i2 : (m : Int) < n := by omega
        clear hc hc' hx hy
        by_cases hxy : x = y
        · have t1 : (x != y) = false := by simp [hxy]
          have t2 : (x == y) = true := by simp [hxy]
          have hnext : l.take (m + 1) = k.take (m + 1) := by
            rw [List.take_succ_eq_append_getElem (by rw [Hn.out]; exact hlt), List.take_succ_eq_append_getElem (by rw [← Hk.out]; exact hlt), Ht.out, Hx.out, Hy.out, hxy]
          have Hnext := Lib.hid hnext
          clear hnext hxy
          go_wp2
          go_quiet (fail)
          go_wp2
          go_roundw
          case rel => exact ⟨m + 1, _, by go_num, by omega, rfl, Hnext.out⟩
          case measure => simp [intOf]; omega
        · have t1 : (x != y) = true := by simpa using hxy
          have t2 : (x == y) = false := by simpa using hxy
          have hr2 : r = false := by
            rw [← Hr.out]
            rw [decide_eq_false_iff_not]
            intro hh
            apply hxy
            rw [← Hx.out, ← Hy.out]
            subst hh
            rfl
          subst hr2
          clear hxy
          go_wp2
          go_quiet (fail)
          go_wp2
          go_ret
          exact ⟨rfl, ⟨rfl, rfl, rfl, Nat.le_refl _, fun _ _ => rfl⟩⟩
      · obtain rfl : m = n := by omega
        have hr2 := Hr.out
        have ht := Ht.out
        rw [List.take_of_length_le (by rw [Hn.out]; exact Nat.le_refl _), List.take_of_length_le (by rw [← Hk.out]; exact Nat.le_refl _)] at ht
        have : r = true := by rw [← hr2]; simpa using ht
        subst this
        clear hlt hr2 ht
        go_wp2
        go_ret
        exact ⟨rfl, ⟨rfl, rfl, rfl, Nat.le_refl _, fun _ _ => rfl⟩⟩
  · have : r = false := by
      rw [← hr, decide_eq_false_iff_not]
      intro hh; exact hlk (by rw [hh])
    subst this
    have t1 : ((l.length : Int) != k.length) = true := by simp; omega
    have t2 : ((l.length : Int) == k.length) = false := by simp; omega
    clear h3 g3 hr
    go_enter Tryd.func10, Tryd.ntmps10
    go_wp2
    go_ret
    exact ⟨rfl, Below.refl _ _⟩
end Go.Proofs.YtlobinjdgcidmaaDoor

/- Texts of JSON as the reference reads them: JUnits, for any bytes. -/
namespace Go.Proofs.YtlobinjdgcidmaaDoor
open Go.RowKit
set_option linter.unusedVariables false
set_option linter.unusedSimpArgs false

def junits (l : List UInt8) : Option (List Nat) := if 2 ≤ l.length ∧ l.getD 0 0 = 34 ∧ jtI l 1 = l.length ∧ (M.validAll l).2 = true then some (M.ulS (l.drop 1)) else none
theorem jor_16 (a x : Nat) (ha : a < 65536) (hx : x < 16) : bits .or .i64 ((a : Int) * 16) (x : Int) = ((a * 16 + x : Nat) : Int) := by
  have := bits_join .i64 62 (by decide) (fun n h₀ h₁ => by rw [IntKind.wrap_i64]; omega) 4 ((a : Int) * 16) (x : Int) (by omega) (by omega) (by omega) (by omega) (by omega) (by omega)
  rw [this]; omega
def hexA (l : List UInt8) (p : Nat) : Nat → Nat
  | 0 => 0
  | j + 1 => hexA l p j * 16 + (M.hexV (l.getD (p + j) 0)).toNat
theorem hexA_lt (l : List UInt8) (p j : Nat) : hexA l p j < 16 ^ j := by
  induction j with
  | zero => simp [hexA]
  | succ j ih =>
    have := M.hexV_lt (l.getD (p + j) 0)
    rw [hexA, Nat.pow_succ]; omega
theorem hexA_four (l : List UInt8) (p : Nat) : M.hex4 (l.drop p) = hexA l p 4 := by
  unfold M.hex4 M.hexN
  simp only [getD_drop, hexA]
  omega
theorem pairU_len (r : Nat) : (M.pairU r).length ≤ 2 := by unfold M.pairU; split <;> simp
def Rest (l : List UInt8) (i : Nat) : Prop := M.jtS (l.drop i) = some (l.drop i).length ∧ (M.validAll (l.drop i)).2 = true
theorem rest_cp (l : List UInt8) (i : Nat) (h : Rest l i) (hi : i + 1 < l.length) (hc : l.getD i 0 ≠ 92) :
    ∃ r n : Nat, M.nextAt l i = ((r : Int), (n : Int), true) ∧ r ≤ 1114111 ∧ 1 ≤ n ∧ i + n < l.length ∧ Rest l (i + n) ∧ M.ulS (l.drop i) = M.pairU r ++ M.ulS (l.drop (i + n)) := by
  have hg : (l.drop i).getD 0 0 = l.getD i 0 := by rw [getD_drop, Nat.add_zero]
  have := M.jt_cp (l.drop i) h.1 (by simp; omega) h.2 (by rw [hg]; exact hc)
  obtain ⟨h1, h2, h3, h4, h5, h6⟩ := this
  refine ⟨(M.dec (l.drop i)).1, (M.dec (l.drop i)).2, ?_, M.dec_rune _, (M.dec_width _).1, by simp at h4; omega, ⟨by rw [← List.drop_drop]; exact h5, by rw [← List.drop_drop]; exact h6⟩, ?_⟩
  · rw [M.nextAt_in l i (by omega)]
    have h3' := h3
    rw [M.nx_ok] at h3
    unfold M.nx
    rw [if_neg h3]
  · rw [← List.drop_drop]
    have hd := drop_at l i (by omega)
    rw [hd]
    exact M.ulS_cp _ _ (by simp; omega) (by rw [show l.getD i 0 = l[i] by simp [show i < l.length by omega]] at hc; exact hc)
theorem rest_hex (l : List UInt8) (i : Nat) (h : Rest l i) (hi : i + 1 < l.length) (hc : l.getD i 0 = 92) (hu : l.getD (i + 1) 0 = 117) :
    i + 6 < l.length ∧ (∀ j, j < 4 → 0 ≤ M.hexV (l.getD (i + 2 + j) 0)) ∧ Rest l (i + 6) ∧ M.ulS (l.drop i) = hexA l (i + 2) 4 :: M.ulS (l.drop (i + 6)) := by
  have hd := drop_at l i (by omega)
  have hc' : l[i] = 92 := by rw [show l.getD i 0 = l[i] by simp [show i < l.length by omega]] at hc; exact hc
  rw [hc'] at hd
  have h1 := h.1
  have h2 := h.2
  rw [hd] at h1 h2
  have := M.jt_hex (l.drop (i + 1)) h1 h2 (by rw [getD_drop, Nat.add_zero]; exact hu)
  obtain ⟨a1, a2, a3, a4⟩ := this
  rw [drop_drop'] at a2 a3 a4
  simp only [List.length_drop] at a1
  refine ⟨by omega, fun j hj => ?_, ⟨a3, a4⟩, ?_⟩
  · have h4 : hexTo l (i + 2) 4 = true := by rw [← hexTo_four]; exact a2
    simp only [hexTo, Bool.true_and, Bool.and_eq_true, decide_eq_true_eq] at h4
    have : j = 0 ∨ j = 1 ∨ j = 2 ∨ j = 3 := by omega
    rcases this with rfl | rfl | rfl | rfl
    · exact h4.1.1.1
    · exact h4.1.1.2
    · exact h4.1.2
    · exact h4.2
  · rw [hd, M.ulS_hex _ (by rw [getD_drop, Nat.add_zero]; exact hu), drop_drop', drop_drop', hexA_four]
theorem rest_esc (l : List UInt8) (i : Nat) (h : Rest l i) (hi : i + 1 < l.length) (hc : l.getD i 0 = 92) (hu : l.getD (i + 1) 0 ≠ 117) :
    i + 2 < l.length ∧ Rest l (i + 2) ∧ M.ulS (l.drop i) = M.escV (l.getD (i + 1) 0) :: M.ulS (l.drop (i + 2)) := by
  have hd := drop_at l i (by omega)
  have hc' : l[i] = 92 := by rw [show l.getD i 0 = l[i] by simp [show i < l.length by omega]] at hc; exact hc
  rw [hc'] at hd
  have h1 := h.1
  have h2 := h.2
  rw [hd] at h1 h2
  have hg : (l.drop (i + 1)).getD 0 0 = l.getD (i + 1) 0 := by rw [getD_drop, Nat.add_zero]
  have := M.jt_esc (l.drop (i + 1)) h1 h2 (by rw [hg]; exact hu)
  obtain ⟨a1, a2, a3, a4⟩ := this
  rw [drop_drop'] at a3 a4
  simp only [List.length_drop] at a1
  refine ⟨by omega, ⟨a3, a4⟩, ?_⟩
  rw [hd, M.ulS_esc _ (by simp; omega) (by rw [hg]; exact hu), hg, drop_drop']
theorem rest_start (l : List UInt8) (h0 : l.getD 0 0 = 34) (h2 : 2 ≤ l.length) (hj : jtI l 1 = l.length) (hv : (M.validAll l).2 = true) : Rest l 1 := by
  constructor
  · unfold jtI at hj
    have hl : (l.drop 1).length = l.length - 1 := by simp
    cases hh : M.jtS (l.drop 1) with
    | none => rw [hh] at hj; simp only at hj; omega
    | some n => rw [hh] at hj; simp only at hj; rw [hl]; exact congrArg some (by omega)
  · rw [← M.valid_ascii l (by omega) (by rw [h0]; decide)]; exact hv
theorem escV_cases (d : UInt8) : (d = 98 ∧ M.escV d = 8) ∨ (d = 102 ∧ M.escV d = 12) ∨ (d = 110 ∧ M.escV d = 10) ∨ (d = 114 ∧ M.escV d = 13) ∨ (d = 116 ∧ M.escV d = 9) ∨ (d ≠ 98 ∧ d ≠ 102 ∧ d ≠ 110 ∧ d ≠ 114 ∧ d ≠ 116 ∧ M.escV d = d.toNat) := by
  by_cases h1 : d = 98
  · subst h1; left; exact ⟨rfl, rfl⟩
  by_cases h2 : d = 102
  · subst h2; right; left; exact ⟨rfl, rfl⟩
  by_cases h3 : d = 110
  · subst h3; right; right; left; exact ⟨rfl, rfl⟩
  by_cases h4 : d = 114
  · subst h4; right; right; right; left; exact ⟨rfl, rfl⟩
  by_cases h5 : d = 116
  · subst h5; right; right; right; right; left; exact ⟨rfl, rfl⟩
  right; right; right; right; right
  refine ⟨h1, h2, h3, h4, h5, ?_⟩
  unfold M.escV
  rw [if_neg h1, if_neg h2, if_neg h3, if_neg h4, if_neg h5]
theorem eq_b (d : UInt8) (D : Int) (hD : (d.toNat : Int) = D) (k : UInt8) (K : Int) (hK : (k.toNat : Int) = K) (h : d = k) : (D == K) = true := by
  subst h; rw [beq_iff_eq]; omega
theorem ne_b (d : UInt8) (D : Int) (hD : (d.toNat : Int) = D) (k : UInt8) (K : Int) (hK : (k.toNat : Int) = K) (h : d ≠ k) : (D == K) = false := by
  rw [beq_eq_false_iff_ne]; intro hh; apply h; apply UInt8.toNat_inj.1; omega
theorem eq_n (d : UInt8) (D : Int) (hD : (d.toNat : Int) = D) (k : UInt8) (K : Int) (hK : (k.toNat : Int) = K) (h : d = k) : (D != K) = false := by
  simp [bne, eq_b d D hD k K hK h]
theorem ne_n (d : UInt8) (D : Int) (hD : (d.toNat : Int) = D) (k : UInt8) (K : Int) (hK : (k.toNat : Int) = K) (h : d ≠ k) : (D != K) = true := by
  simp [bne, ne_b d D hD k K hK h]
theorem if_no {us : List Nat} {ok : Bool} (h : none = if ok then some us else none) : ok = false := by
  cases ok with
  | false => rfl
  | true => exact absurd h (by simp)

end Go.Proofs.YtlobinjdgcidmaaDoor
