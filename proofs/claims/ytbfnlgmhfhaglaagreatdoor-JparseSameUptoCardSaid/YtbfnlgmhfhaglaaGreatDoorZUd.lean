/- jparse.Units of the program: escape, element, units.Append, Units. -/
import Derived.Test.YtbfnlgmhfhaglaaGreatDoorZUc
import Derived.Test.YtbfnlgmhfhaglaaGreatDoorJgB
import Derived.Test.YtbfnlgmhfhaglaaGreatDoorJgL
import Derived.Test.YtbfnlgmhfhaglaaGreatDoorJgX
namespace Go.Proofs.YtbfnlgmhfhaglaaGreatDoor
open Go.RowKit
set_option linter.unusedVariables false
set_option linter.unusedSimpArgs false

theorem nx_nextAt (s : List UInt8) (h : 0 < s.length) : M.nextAt s 0 = (((M.dec s).1 : Int), ((M.dec s).2 : Int), (M.nx s).2.2) := by
  unfold M.nextAt
  rw [if_neg (by omega)]
  show M.nx s = _
  unfold M.nx
  split
  · rename_i h; rw [h]; rfl
  · rfl
set_option maxRecDepth 100000 in
set_option maxHeartbeats 4000000 in
theorem escapez_any (v : Value) (u : List UInt8) (w : World) (hT : TabX w) (hb : Bs w v (92 :: u)) (hl : u.length ≤ 1048000) :
    Calls Tryz.prog 110 #[v] w (ElQ (M.elS (92 :: u)) w) := by
  obtain ⟨b, off, cap, rfl, h1, h2, h3, hc⟩ := bs_open hb (by simp)
  match u with
  | [] =>
    have hE : M.elS [92] = (0, 0) := by decide
    rw [hE]
    unfold ElQ
    simp only [List.length_cons, List.length_nil, Nat.zero_add]
    clear hT hb hc h1 h2 h3
    go_enter Tryz.func110, Tryz.ntmps110
    go_wp2
    go_ret2
    exact ⟨rfl, Below.refl _ _⟩
  | d :: t =>
    obtain ⟨n, hn⟩ : ∃ n, t.length + 2 = n := ⟨_, rfl⟩
    have hlen : (92 :: d :: t : List UInt8).length = n := by simp; omega
    rw [hlen] at h1 hc hb ⊢
    have c1 := hc 1 (by omega)
    have hd : (92 :: d :: t : List UInt8).getD 1 0 = d := rfl
    rw [hd] at c1
    have n1 : ¬ (n : Int) = 1 := by omega
    have n2 : (1 : Int) < n := by omega
    by_cases h117 : d = 117
    · subst h117
      have NA := Lib.hid (numberedz_any t b off n cap w hT hn hb (by simp at hl; omega))
      unfold ElQ at NA ⊢
      obtain ⟨⟨R1, R2⟩, hR⟩ : ∃ R, M.elS (92 :: 117 :: t) = R := ⟨_, rfl⟩
      rw [hR] at NA ⊢
      have c1' : w.cell? ⟨b, off + 1, none⟩ = some (.int .u8 117) := c1
      clear hT hb hc h1 h2 h3 c1 hR hlen hd hl hn
      go_enter Tryz.func110, Tryz.ntmps110
      go_wp2_with fail
      refine NA.out.mono ?_
      rintro e w1 ⟨rfl, hb1⟩
      have HB := Lib.hid hb1
      clear hb1
      go_wp2
      go_ret2
      exact ⟨rfl, HB.out⟩
    · rw [M.elS_esc d t h117]
      unfold ElQ
      by_cases k0 : d = 34
      · subst k0
        rw [if_pos (by decide)]
        have c1' : w.cell? ⟨b, off + 1, none⟩ = some (.int .u8 34) := c1
        clear hT hb hc h1 h2 h3 c1 hlen hd hl hn
        go_enter Tryz.func110, Tryz.ntmps110
        go_wp2
        go_ret2
        exact ⟨rfl, Below.refl _ _⟩
      by_cases k1 : d = 92
      · subst k1
        rw [if_pos (by decide)]
        have c1' : w.cell? ⟨b, off + 1, none⟩ = some (.int .u8 92) := c1
        clear hT hb hc h1 h2 h3 c1 hlen hd hl hn
        go_enter Tryz.func110, Tryz.ntmps110
        go_wp2
        go_ret2
        exact ⟨rfl, Below.refl _ _⟩
      by_cases k2 : d = 47
      · subst k2
        rw [if_pos (by decide)]
        have c1' : w.cell? ⟨b, off + 1, none⟩ = some (.int .u8 47) := c1
        clear hT hb hc h1 h2 h3 c1 hlen hd hl hn
        go_enter Tryz.func110, Tryz.ntmps110
        go_wp2
        go_ret2
        exact ⟨rfl, Below.refl _ _⟩
      by_cases k3 : d = 98
      · subst k3
        rw [if_pos (by decide)]
        have c1' : w.cell? ⟨b, off + 1, none⟩ = some (.int .u8 98) := c1
        clear hT hb hc h1 h2 h3 c1 hlen hd hl hn
        go_enter Tryz.func110, Tryz.ntmps110
        go_wp2
        go_ret2
        exact ⟨rfl, Below.refl _ _⟩
      by_cases k4 : d = 102
      · subst k4
        rw [if_pos (by decide)]
        have c1' : w.cell? ⟨b, off + 1, none⟩ = some (.int .u8 102) := c1
        clear hT hb hc h1 h2 h3 c1 hlen hd hl hn
        go_enter Tryz.func110, Tryz.ntmps110
        go_wp2
        go_ret2
        exact ⟨rfl, Below.refl _ _⟩
      by_cases k5 : d = 110
      · subst k5
        rw [if_pos (by decide)]
        have c1' : w.cell? ⟨b, off + 1, none⟩ = some (.int .u8 110) := c1
        clear hT hb hc h1 h2 h3 c1 hlen hd hl hn
        go_enter Tryz.func110, Tryz.ntmps110
        go_wp2
        go_ret2
        exact ⟨rfl, Below.refl _ _⟩
      by_cases k6 : d = 114
      · subst k6
        rw [if_pos (by decide)]
        have c1' : w.cell? ⟨b, off + 1, none⟩ = some (.int .u8 114) := c1
        clear hT hb hc h1 h2 h3 c1 hlen hd hl hn
        go_enter Tryz.func110, Tryz.ntmps110
        go_wp2
        go_ret2
        exact ⟨rfl, Below.refl _ _⟩
      by_cases k7 : d = 116
      · subst k7
        rw [if_pos (by decide)]
        have c1' : w.cell? ⟨b, off + 1, none⟩ = some (.int .u8 116) := c1
        clear hT hb hc h1 h2 h3 c1 hlen hd hl hn
        go_enter Tryz.func110, Tryz.ntmps110
        go_wp2
        go_ret2
        exact ⟨rfl, Below.refl _ _⟩
      have hne : d ∉ M.escL := by
        unfold M.escL
        simp only [List.mem_cons, List.mem_nil_iff, or_false, not_or]
        exact ⟨k0, k1, k2, k3, k4, k5, k6, k7⟩
      rw [if_neg hne]
      have q : ∀ (x : UInt8) (X : Int), (x.toNat : Int) = X → ¬ d = x → ¬ (d.toNat : Int) = X := fun x X hx hd e => hd (UInt8.toNat_inj.mp (by omega))
      have q0 := q 34 34 rfl k0
      have q1 := q 92 92 rfl k1
      have q2 := q 47 47 rfl k2
      have q3 := q 98 98 rfl k3
      have q4 := q 102 102 rfl k4
      have q5 := q 110 110 rfl k5
      have q6 := q 114 114 rfl k6
      have q7 := q 116 116 rfl k7
      have q8 := q 117 117 rfl h117
      obtain ⟨D, hD⟩ : ∃ D : Int, (d.toNat : Int) = D := ⟨_, rfl⟩
      rw [hD] at c1 q0 q1 q2 q3 q4 q5 q6 q7 q8
      clear hT hb hc h1 h2 h3 hlen hd hl hn q hD k0 k1 k2 k3 k4 k5 k6 k7 hne h117
      go_enter Tryz.func110, Tryz.ntmps110
      go_wp2
      go_ret2
      exact ⟨rfl, Below.refl _ _⟩
set_option maxRecDepth 100000 in
set_option maxHeartbeats 4000000 in
theorem elementz_any (v : Value) (s : List UInt8) (w : World) (hT : TabX w) (hb : Bs w v s) (h0 : 0 < s.length) (hl : s.length ≤ 1048000) :
    Calls Tryz.prog 88 #[v] w (ElQ (M.elS s) w) := by
  match s, h0 with
  | c :: u, _ =>
    have HB := Lib.hid hb
    obtain ⟨b, off, cap, rfl, h1, h2, h3, hc⟩ := bs_open hb (by simp)
    have c0 := hc 0 (by simp)
    have n0 : ((0 : Int) < ((c :: u).length : Int)) := by simp only [List.length_cons]; omega
    rw [Nat.add_zero, List.getD_cons_zero] at c0
    by_cases h92 : c = 92
    · subst h92
      have NA := Lib.hid (escapez_any _ u w hT hb (by simp at hl; omega))
      unfold ElQ at NA ⊢
      obtain ⟨⟨R1, R2⟩, hR⟩ : ∃ R, M.elS (92 :: u) = R := ⟨_, rfl⟩
      rw [hR] at NA ⊢
      have c0' : w.cell? ⟨b, off, none⟩ = some (.int .u8 92) := c0
      obtain ⟨n, hn⟩ : ∃ n, (92 :: u).length = n := ⟨_, rfl⟩
      rw [hn] at NA n0 ⊢
      clear hT hb hc h1 h2 h3 c0 hR hl hn HB
      go_enter Tryz.func88, Tryz.ntmps88
      go_wp2_with fail
      refine NA.out.mono ?_
      rintro e w1 ⟨rfl, hb1⟩
      have HB := Lib.hid hb1
      clear hb1
      go_wp2
      go_ret2
      exact ⟨rfl, HB.out⟩
    · rw [M.elS_cp c u h92]
      have nN := nx_nextAt (c :: u) (by simp)
      have NA := Lib.hid (next_any _ (c :: u) 0 _ w hT.tab hb (by omega) nN)
      unfold ElQ
      have hne : ¬ (c.toNat : Int) = 92 := fun e => h92 (UInt8.toNat_inj.mp (by have : (92 : UInt8).toNat = 92 := rfl; omega))
      obtain ⟨D, hD⟩ : ∃ D : Int, (c.toNat : Int) = D := ⟨_, rfl⟩
      rw [hD] at c0 hne
      obtain ⟨⟨R, N⟩, hR⟩ : ∃ R, M.dec (c :: u) = R := ⟨_, rfl⟩
      obtain ⟨ok, hok⟩ : ∃ R, (M.nx (c :: u)).2.2 = R := ⟨_, rfl⟩
      rw [hR, hok] at NA
      rw [hR, hok]
      obtain ⟨n, hn⟩ : ∃ n, (c :: u).length = n := ⟨_, rfl⟩
      rw [hn] at NA n0 ⊢
      unfold tri at NA
      simp only at NA ⊢
      have A1 : R < 32 ∨ R = 34 ∨ (32 ≤ R ∧ R ≠ 34) := by omega
      clear hT hb hc h1 h2 h3 hD h92 hR hl hn HB nN hok
      cases ok with
      | false =>
        rw [if_neg (by simp)]
        go_enter Tryz.func88, Tryz.ntmps88
        go_wp2_with fail
        refine NA.out.mono ?_
        rintro e w1 ⟨rfl, hb1⟩
        have HB := Lib.hid hb1
        clear hb1
        go_wp2
        go_ret2
        exact ⟨rfl, HB.out⟩
      | true =>
        rcases A1 with a | a | ⟨a, a2⟩
        · rw [if_neg (by omega)]
          have a' : (R : Int) < 32 := by omega
          clear a
          obtain ⟨Z, hZ⟩ : ∃ Z : Int, (R : Int) = Z := ⟨_, rfl⟩
          rw [hZ] at NA a'
          clear hZ
          go_enter Tryz.func88, Tryz.ntmps88
          go_wp2_with fail
          refine NA.out.mono ?_
          rintro e w1 ⟨rfl, hb1⟩
          have HB := Lib.hid hb1
          clear hb1
          go_wp2
          go_ret2
          exact ⟨rfl, HB.out⟩
        · subst a
          rw [if_neg (by simp)]
          go_enter Tryz.func88, Tryz.ntmps88
          go_wp2_with fail
          refine NA.out.mono ?_
          rintro e w1 ⟨rfl, hb1⟩
          have HB := Lib.hid hb1
          clear hb1
          go_wp2
          go_ret2
          exact ⟨rfl, HB.out⟩
        · rw [if_pos ⟨rfl, a, a2⟩]
          have a' : ¬ (R : Int) < 32 := by omega
          have a2' : ¬ (R : Int) = 34 := by omega
          clear a a2
          obtain ⟨Z, hZ⟩ : ∃ Z : Int, (R : Int) = Z := ⟨_, rfl⟩
          rw [hZ] at NA a' a2' ⊢
          have b1 : decide (Z < 32) = false := by simpa using a'
          have b2 : (Z == 34) = false := by simpa using a2'
          clear hZ
          go_enter Tryz.func88, Tryz.ntmps88
          go_wp2_with fail
          refine NA.out.mono ?_
          rintro e w1 ⟨rfl, hb1⟩
          have HB := Lib.hid hb1
          clear hb1
          go_wp2
          go_ret2
          exact ⟨rfl, HB.out⟩
set_option maxRecDepth 100000 in
set_option maxHeartbeats 1000000 in
theorem uappz_any (B : Nat) (v : Value) (l : List Nat) (r : Nat) (t : List Nat) (w : World) (ho : OwnI B w v (iN l)) (hr : r ≤ 1114111) (hl : l.length ≤ 2097152) (hB : B ≤ w.heap.size) (ht : l ++ M.pairU r = t) :
    Calls Tryz.prog 89 #[v, .int .i64 (r : Int)] w fun e w' => ∃ v', e = .returned v' ∧ OwnI B w' v' (iN t) ∧ Below B w w' := by
  have sand1023 : ∀ n : Int, 0 ≤ n → n ≤ 1114111 → bits .and .i64 n 1023 = n % 1024 := fun n h0 h1 => bits_mask .i64 62 (by decide) (fun n h₀ h₁ => by rw [IntKind.wrap_i64]; omega) 10 (by decide) n h0 (by omega)
  unfold M.pairU at ht
  obtain ⟨R, hR⟩ : ∃ R : Int, (r : Int) = R := ⟨_, rfl⟩
  have R0 : 0 ≤ R := by omega
  have R1 : R ≤ 1114111 := by omega
  have Ho := Lib.hid ho
  by_cases h : r < 65536
  · rw [if_pos h] at ht
    have h' : R < 65536 := by omega
    have e : iN l ++ [R] = iN t := by rw [← ht, iN_append]; simp [iN, hR]
    have He := Lib.hid e
    rw [hR]
    clear e hR h ht ho hr
    go_enter Tryz.func89, Tryz.ntmps89
    go_wp2_with (at_builtin; refine wpl_appendI rfl _ _ rfl B _ (.slice (some ⟨w.heap.size, 0, none⟩) 1 1) (iN l) [R] (iN t) rfl (ownsRow_keep Ho.out ((Below.refl _ _).alloc (Nat.le_refl _) _)) rfl (is_one w _) (nn_some _ _ _) (by rw [iN_len]; simp; omega) (by simp; omega) He.out ?_)
    intro v3 w3 ho3 hb3
    have hb4 := ((Below.refl B w).alloc hB _).trans hb3
    clear hb3
    go_wp2
    go_ret
    exact ⟨_, rfl, ho3, hb4⟩
  · rw [if_neg h] at ht
    have h' : 65536 ≤ R := by omega
    have hand := sand1023 (R - 65536) (by omega) (by omega)
    have hand2 : (0 : Int) ≤ (R - 65536) % 1024 := by omega
    have hand3 : (R - 65536) % 1024 < 1024 := by omega
    have hd2 : (0 : Int) ≤ (R - 65536) / 1024 := by omega
    have hd3 : (R - 65536) / 1024 < 1024 := by omega
    have e : iN l ++ [55296 + (R - 65536) / 1024, 56320 + (R - 65536) % 1024] = iN t := by
      rw [← ht, iN_append]
      congr 1
      simp only [iN, List.map_cons, List.map_nil]
      have q1 : ((55296 + (r - 65536) / 1024 : Nat) : Int) = 55296 + (R - 65536) / 1024 := by omega
      have q2 : ((56320 + (r - 65536) % 1024 : Nat) : Int) = 56320 + (R - 65536) % 1024 := by omega
      rw [q1, q2]
    have He := Lib.hid e
    rw [hR]
    clear e hR h ht ho hr
    go_enter Tryz.func89, Tryz.ntmps89
    go_wp2_with (at_builtin; refine wpl_appendI rfl _ _ rfl B _ (.slice (some ⟨w.heap.size, 0, none⟩) 2 2) (iN l) [55296 + (R - 65536) / 1024, 56320 + (R - 65536) % 1024] (iN t) rfl (ownsRow_keep Ho.out ((Below.refl _ _).alloc (Nat.le_refl _) _)) rfl (is_two w _ _) (nn_some _ _ _) (by rw [iN_len]; simp; omega) (by simp; omega) He.out ?_)
    intro v3 w3 ho3 hb3
    have hb4 := ((Below.refl B w).alloc hB _).trans hb3
    clear hb3
    go_wp2
    go_ret
    exact ⟨_, rfl, ho3, hb4⟩
end Go.Proofs.YtbfnlgmhfhaglaaGreatDoor
