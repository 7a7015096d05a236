/- Texts of ours in one: ZUd ZUe WTd. -/
import Derived.Test.YtbfnlgmhfhaglaaGreatDoorQk08
import Derived.Test.YtbfnlgmhfhaglaaGreatDoorQk02
import Derived.Test.YtbfnlgmhfhaglaaGreatDoorQk14
import Derived.Test.YtbfnlgmhfhaglaaGreatDoorQk19
import Derived.Test.YtbfnlgmhfhaglaaGreatDoorQk17
import Derived.Deep.RegionHeld
import Derived.Deep.QuietTactic
import Derived.BigQuiet
/- jparse.Units of the program: escape, element, units.Append, Units. -/
namespace Go.Proofs.YtbfnlgmhfhaglaaGreatDoor
open Go.RowKit
set_option linter.unusedVariables false
set_option linter.unusedSimpArgs false

theorem nx_nextAt (s : List UInt8) (h : 0 < s.length) : M.nextAt s 0 = (((M.dec s).1 : Int), ((M.dec s).2 : Int), (M.nx s).2.2) := by
  unfold M.nextAt
  rw [if_neg (by omega)]
  show M.nx s = _
  unfold M.nx
  split
  · rename_i h; rw [h]; rfl
  · rfl
set_option maxRecDepth 100000 in
set_option maxHeartbeats 4000000 in
theorem escapez_any (v : Value) (u : List UInt8) (w : World) (hT : TabX w) (hb : Bs w v (92 :: u)) (hl : u.length ≤ 1048000) :
    Calls Tryz.prog 110 #[v] w (ElQ (M.elS (92 :: u)) w) := by
  obtain ⟨b, off, cap, rfl, h1, h2, h3, hc⟩ := bs_open hb (by simp)
  match u with
  | [] =>
    have hE : M.elS [92] = (0, 0) := by decide
    rw [hE]
    unfold ElQ
    simp only [List.length_cons, List.length_nil, Nat.zero_add]
    clear hT hb hc h1 h2 h3
    go_enter Tryz.func110, Tryz.ntmps110
    go_wp2
    go_ret2
    exact ⟨rfl, Below.refl _ _⟩
  | d :: t =>
    obtain ⟨n, hn⟩ : ∃ n, t.length + 2 = n := ⟨_, rfl⟩
    have hlen : (92 :: d :: t : List UInt8).length = n := by simp; omega
    rw [hlen] at h1 hc hb ⊢
    have c1 := hc 1 (by omega)
    have hd : (92 :: d :: t : List UInt8).getD 1 0 = d := rfl
    rw [hd] at c1
    have n1 : ¬ (n : Int) = 1 := by omega
    have n2 : (1 : Int) < n := by omega
    by_cases h117 : d = 117
    · subst h117
      have NA := Lib.hid (numberedz_any t b off n cap w hT hn hb (by simp at hl; omega))
      unfold ElQ at NA ⊢
      obtain ⟨⟨R1, R2⟩, hR⟩ : ∃ R, M.elS (92 :: 117 :: t) = R := ⟨_, rfl⟩
      rw [hR] at NA ⊢
      have c1' : w.cell? ⟨b, off + 1, none⟩ = some (.int .u8 117) := c1
      clear hT hb hc h1 h2 h3 c1 hR hlen hd hl hn
      go_enter Tryz.func110, Tryz.ntmps110
      go_wp2_with fail
      refine NA.out.mono ?_
      rintro e w1 ⟨rfl, hb1⟩
      have HB := Lib.hid hb1
      clear hb1
      go_wp2
      go_ret2
      exact ⟨rfl, HB.out⟩
    · rw [M.elS_esc d t h117]
      unfold ElQ
      by_cases k0 : d = 34
      · subst k0
        rw [if_pos (by decide)]
        have c1' : w.cell? ⟨b, off + 1, none⟩ = some (.int .u8 34) := c1
        clear hT hb hc h1 h2 h3 c1 hlen hd hl hn
        go_enter Tryz.func110, Tryz.ntmps110
        go_wp2
        go_ret2
        exact ⟨rfl, Below.refl _ _⟩
      by_cases k1 : d = 92
      · subst k1
        rw [if_pos (by decide)]
        have c1' : w.cell? ⟨b, off + 1, none⟩ = some (.int .u8 92) := c1
        clear hT hb hc h1 h2 h3 c1 hlen hd hl hn
        go_enter Tryz.func110, Tryz.ntmps110
        go_wp2
        go_ret2
        exact ⟨rfl, Below.refl _ _⟩
      by_cases k2 : d = 47
      · subst k2
        rw [if_pos (by decide)]
        have c1' : w.cell? ⟨b, off + 1, none⟩ = some (.int .u8 47) := c1
        clear hT hb hc h1 h2 h3 c1 hlen hd hl hn
        go_enter Tryz.func110, Tryz.ntmps110
        go_wp2
        go_ret2
        exact ⟨rfl, Below.refl _ _⟩
      by_cases k3 : d = 98
      · subst k3
        rw [if_pos (by decide)]
        have c1' : w.cell? ⟨b, off + 1, none⟩ = some (.int .u8 98) := c1
        clear hT hb hc h1 h2 h3 c1 hlen hd hl hn
        go_enter Tryz.func110, Tryz.ntmps110
        go_wp2
        go_ret2
        exact ⟨rfl, Below.refl _ _⟩
      by_cases k4 : d = 102
      · subst k4
        rw [if_pos (by decide)]
        have c1' : w.cell? ⟨b, off + 1, none⟩ = some (.int .u8 102) := c1
        clear hT hb hc h1 h2 h3 c1 hlen hd hl hn
        go_enter Tryz.func110, Tryz.ntmps110
        go_wp2
        go_ret2
        exact ⟨rfl, Below.refl _ _⟩
      by_cases k5 : d = 110
      · subst k5
        rw [if_pos (by decide)]
        have c1' : w.cell? ⟨b, off + 1, none⟩ = some (.int .u8 110) := c1
        clear hT hb hc h1 h2 h3 c1 hlen hd hl hn
        go_enter Tryz.func110, Tryz.ntmps110
        go_wp2
        go_ret2
        exact ⟨rfl, Below.refl _ _⟩
      by_cases k6 : d = 114
      · subst k6
        rw [if_pos (by decide)]
        have c1' : w.cell? ⟨b, off + 1, none⟩ = some (.int .u8 114) := c1
        clear hT hb hc h1 h2 h3 c1 hlen hd hl hn
        go_enter Tryz.func110, Tryz.ntmps110
        go_wp2
        go_ret2
        exact ⟨rfl, Below.refl _ _⟩
      by_cases k7 : d = 116
      · subst k7
        rw [if_pos (by decide)]
        have c1' : w.cell? ⟨b, off + 1, none⟩ = some (.int .u8 116) := c1
        clear hT hb hc h1 h2 h3 c1 hlen hd hl hn
        go_enter Tryz.func110, Tryz.ntmps110
        go_wp2
        go_ret2
        exact ⟨rfl, Below.refl _ _⟩
      have hne : d ∉ M.escL := by
        unfold M.escL
        simp only [List.mem_cons, List.mem_nil_iff, or_false, not_or]
        exact ⟨k0, k1, k2, k3, k4, k5, k6, k7⟩
      rw [if_neg hne]
      have q : ∀ (x : UInt8) (X : Int), (x.toNat : Int) = X → ¬ d = x → ¬ (d.toNat : Int) = X := fun x X hx hd e => hd (UInt8.toNat_inj.mp (by omega))
      have q0 := q 34 34 rfl k0
      have q1 := q 92 92 rfl k1
      have q2 := q 47 47 rfl k2
      have q3 := q 98 98 rfl k3
      have q4 := q 102 102 rfl k4
      have q5 := q 110 110 rfl k5
      have q6 := q 114 114 rfl k6
      have q7 := q 116 116 rfl k7
      have q8 := q 117 117 rfl h117
      obtain ⟨D, hD⟩ : ∃ D : Int, (d.toNat : Int) = D := ⟨_, rfl⟩
      rw [hD] at c1 q0 q1 q2 q3 q4 q5 q6 q7 q8
      clear hT hb hc h1 h2 h3 hlen hd hl hn q hD k0 k1 k2 k3 k4 k5 k6 k7 hne h117
      go_enter Tryz.func110, Tryz.ntmps110
      go_wp2
      go_ret2
      exact ⟨rfl, Below.refl _ _⟩
set_option maxRecDepth 100000 in
set_option maxHeartbeats 4000000 in
theorem elementz_any (v : Value) (s : List UInt8) (w : World) (hT : TabX w) (hb : Bs w v s) (h0 : 0 < s.length) (hl : s.length ≤ 1048000) :
    Calls Tryz.prog 88 #[v] w (ElQ (M.elS s) w) := by
  match s, h0 with
  | c :: u, _ =>
    have HB := Lib.hid hb
    obtain ⟨b, off, cap, rfl, h1, h2, h3, hc⟩ := bs_open hb (by simp)
    have c0 := hc 0 (by simp)
    have n0 : ((0 : Int) < ((c :: u).length : Int)) := by simp only [List.length_cons]; omega
    rw [Nat.add_zero, List.getD_cons_zero] at c0
    by_cases h92 : c = 92
    · subst h92
      have NA := Lib.hid (escapez_any _ u w hT hb (by simp at hl; omega))
      unfold ElQ at NA ⊢
      obtain ⟨⟨R1, R2⟩, hR⟩ : ∃ R, M.elS (92 :: u) = R := ⟨_, rfl⟩
      rw [hR] at NA ⊢
      have c0' : w.cell? ⟨b, off, none⟩ = some (.int .u8 92) := c0
      obtain ⟨n, hn⟩ : ∃ n, (92 :: u).length = n := ⟨_, rfl⟩
      rw [hn] at NA n0 ⊢
      clear hT hb hc h1 h2 h3 c0 hR hl hn HB
      go_enter Tryz.func88, Tryz.ntmps88
      go_wp2_with fail
      refine NA.out.mono ?_
      rintro e w1 ⟨rfl, hb1⟩
      have HB := Lib.hid hb1
      clear hb1
      go_wp2
      go_ret2
      exact ⟨rfl, HB.out⟩
    · rw [M.elS_cp c u h92]
      have nN := nx_nextAt (c :: u) (by simp)
      have NA := Lib.hid (next_any _ (c :: u) 0 _ w hT.tab hb (by omega) nN)
      unfold ElQ
      have hne : ¬ (c.toNat : Int) = 92 := fun e => h92 (UInt8.toNat_inj.mp (by have : (92 : UInt8).toNat = 92 := rfl; omega))
      obtain ⟨D, hD⟩ : ∃ D : Int, (c.toNat : Int) = D := ⟨_, rfl⟩
      rw [hD] at c0 hne
      obtain ⟨⟨R, N⟩, hR⟩ : ∃ R, M.dec (c :: u) = R := ⟨_, rfl⟩
      obtain ⟨ok, hok⟩ : ∃ R, (M.nx (c :: u)).2.2 = R := ⟨_, rfl⟩
      rw [hR, hok] at NA
      rw [hR, hok]
      obtain ⟨n, hn⟩ : ∃ n, (c :: u).length = n := ⟨_, rfl⟩
      rw [hn] at NA n0 ⊢
      unfold tri at NA
      simp only at NA ⊢
      have A1 : R < 32 ∨ R = 34 ∨ (32 ≤ R ∧ R ≠ 34) := by omega
      clear hT hb hc h1 h2 h3 hD h92 hR hl hn HB nN hok
      cases ok with
      | false =>
        rw [if_neg (by simp)]
        go_enter Tryz.func88, Tryz.ntmps88
        go_wp2_with fail
        refine NA.out.mono ?_
        rintro e w1 ⟨rfl, hb1⟩
        have HB := Lib.hid hb1
        clear hb1
        go_wp2
        go_ret2
        exact ⟨rfl, HB.out⟩
      | true =>
        rcases A1 with a | a | ⟨a, a2⟩
        · rw [if_neg (by omega)]
          have a' : (R : Int) < 32 := by omega
          clear a
          obtain ⟨Z, hZ⟩ : ∃ Z : Int, (R : Int) = Z := ⟨_, rfl⟩
          rw [hZ] at NA a'
          clear hZ
          go_enter Tryz.func88, Tryz.ntmps88
          go_wp2_with fail
          refine NA.out.mono ?_
          rintro e w1 ⟨rfl, hb1⟩
          have HB := Lib.hid hb1
          clear hb1
          go_wp2
          go_ret2
          exact ⟨rfl, HB.out⟩
        · subst a
          rw [if_neg (by simp)]
          go_enter Tryz.func88, Tryz.ntmps88
          go_wp2_with fail
          refine NA.out.mono ?_
          rintro e w1 ⟨rfl, hb1⟩
          have HB := Lib.hid hb1
          clear hb1
          go_wp2
          go_ret2
          exact ⟨rfl, HB.out⟩
        · rw [if_pos ⟨rfl, a, a2⟩]
          have a' : ¬ (R : Int) < 32 := by omega
          have a2' : ¬ (R : Int) = 34 := by omega
          clear a a2
          obtain ⟨Z, hZ⟩ : ∃ Z : Int, (R : Int) = Z := ⟨_, rfl⟩
          rw [hZ] at NA a' a2' ⊢
          have b1 : decide (Z < 32) = false := by simpa using a'
          have b2 : (Z == 34) = false := by simpa using a2'
          clear hZ
          go_enter Tryz.func88, Tryz.ntmps88
          go_wp2_with fail
          refine NA.out.mono ?_
          rintro e w1 ⟨rfl, hb1⟩
          have HB := Lib.hid hb1
          clear hb1
          go_wp2
          go_ret2
          exact ⟨rfl, HB.out⟩
set_option maxRecDepth 100000 in
set_option maxHeartbeats 1000000 in
theorem uappz_any (B : Nat) (v : Value) (l : List Nat) (r : Nat) (t : List Nat) (w : World) (ho : OwnI B w v (iN l)) (hr : r ≤ 1114111) (hl : l.length ≤ 2097152) (hB : B ≤ w.heap.size) (ht : l ++ M.pairU r = t) :
    Calls Tryz.prog 89 #[v, .int .i64 (r : Int)] w fun e w' => ∃ v', e = .returned v' ∧ OwnI B w' v' (iN t) ∧ Below B w w' := by
  have sand1023 : ∀ n : Int, 0 ≤ n → n ≤ 1114111 → bits .and .i64 n 1023 = n % 1024 := fun n h0 h1 => bits_mask .i64 62 (by decide) (fun n h₀ h₁ => by rw [IntKind.wrap_i64]; omega) 10 (by decide) n h0 (by omega)
  unfold M.pairU at ht
  obtain ⟨R, hR⟩ : ∃ R : Int, (r : Int) = R := ⟨_, rfl⟩
  have R0 : 0 ≤ R := by omega
  have R1 : R ≤ 1114111 := by omega
  have Ho := Lib.hid ho
  by_cases h : r < 65536
  · rw [if_pos h] at ht
    have h' : R < 65536 := by omega
    have e : iN l ++ [R] = iN t := by rw [← ht, iN_append]; simp [iN, hR]
    have He := Lib.hid e
    rw [hR]
    clear e hR h ht ho hr
    go_enter Tryz.func89, Tryz.ntmps89
    go_wp2_with (at_builtin; refine wpl_appendI rfl _ _ rfl B _ (.slice (some ⟨w.heap.size, 0, none⟩) 1 1) (iN l) [R] (iN t) rfl (ownsRow_keep Ho.out ((Below.refl _ _).alloc (Nat.le_refl _) _)) rfl (is_one w _) (nn_some _ _ _) (by rw [iN_len]; simp; omega) (by simp; omega) He.out ?_)
    intro v3 w3 ho3 hb3
    have hb4 := ((Below.refl B w).alloc hB _).trans hb3
    clear hb3
    go_wp2
    go_ret
    exact ⟨_, rfl, ho3, hb4⟩
  · rw [if_neg h] at ht
    have h' : 65536 ≤ R := by omega
    have hand := sand1023 (R - 65536) (by omega) (by omega)
    have hand2 : (0 : Int) ≤ (R - 65536) % 1024 := by omega
    have hand3 : (R - 65536) % 1024 < 1024 := by omega
    have hd2 : (0 : Int) ≤ (R - 65536) / 1024 := by omega
    have hd3 : (R - 65536) / 1024 < 1024 := by omega
    have e : iN l ++ [55296 + (R - 65536) / 1024, 56320 + (R - 65536) % 1024] = iN t := by
      rw [← ht, iN_append]
      congr 1
      simp only [iN, List.map_cons, List.map_nil]
      have q1 : ((55296 + (r - 65536) / 1024 : Nat) : Int) = 55296 + (R - 65536) / 1024 := by omega
      have q2 : ((56320 + (r - 65536) % 1024 : Nat) : Int) = 56320 + (R - 65536) % 1024 := by omega
      rw [q1, q2]
    have He := Lib.hid e
    rw [hR]
    clear e hR h ht ho hr
    go_enter Tryz.func89, Tryz.ntmps89
    go_wp2_with (at_builtin; refine wpl_appendI rfl _ _ rfl B _ (.slice (some ⟨w.heap.size, 0, none⟩) 2 2) (iN l) [55296 + (R - 65536) / 1024, 56320 + (R - 65536) % 1024] (iN t) rfl (ownsRow_keep Ho.out ((Below.refl _ _).alloc (Nat.le_refl _) _)) rfl (is_two w _ _) (nn_some _ _ _) (by rw [iN_len]; simp; omega) (by simp; omega) He.out ?_)
    intro v3 w3 ho3 hb3
    have hb4 := ((Below.refl B w).alloc hB _).trans hb3
    clear hb3
    go_wp2
    go_ret
    exact ⟨_, rfl, ho3, hb4⟩
end Go.Proofs.YtbfnlgmhfhaglaaGreatDoor
/- jparse.Units of the program. -/
namespace Go.Proofs.YtbfnlgmhfhaglaaGreatDoor
open Go.RowKit
set_option linter.unusedVariables false
set_option linter.unusedSimpArgs false

def uS (t : List UInt8) : Option (List Nat) := M.uF (t.length + 1) t
theorem uF_fuel (f g : Nat) (t : List UInt8) (hf : t.length < f) (hg : t.length < g) : M.uF f t = M.uF g t := by rw [M.uF_iff f t hf, M.uF_iff g t hg]
theorem uS_nil (t : List UInt8) (h : t.length = 0) : uS t = some [] := by unfold uS M.uF; rw [if_pos h]
theorem uS_cons (t : List UInt8) (h : 0 < t.length) : uS t = if (M.elS t).2 = 0 then none else (uS (t.drop (M.elS t).2)).map (M.pairU (M.elS t).1 ++ ·) := by
  conv => lhs; unfold uS M.uF
  rw [if_neg (by omega)]
  by_cases h0 : (M.elS t).2 = 0
  · rw [if_pos h0, if_pos h0]
  · rw [if_neg h0, if_neg h0]
    unfold uS
    rw [uF_fuel t.length ((t.drop (M.elS t).2).length + 1) _ (by rw [List.length_drop]; omega) (by omega)]
theorem pairU_two (r : Nat) : (M.pairU r).length ≤ 2 := by unfold M.pairU; split <;> simp
def UnQ (B : Nat) (r : Option (List Nat)) (w : World) (e : Ending) (w' : World) : Prop := match r with
  | some us => ∃ v', e = .returned (.tuple #[v', .bool true]) ∧ OwnI B w' v' (iN us) ∧ Below B w w'
  | none => e = .returned (.tuple #[nilV, .bool false]) ∧ Below B w w'
set_option maxRecDepth 100000 in
set_option maxHeartbeats 4000000 in
theorem unitsz_any (v : Value) (s : List UInt8) (w : World) (hT : TabX w) (hb : Bs w v s) (hl : s.length ≤ 1048000) :
    Calls Tryz.prog 67 #[v] w (UnQ w.heap.size (unitsV s) w) := by
  obtain ⟨n, hn⟩ : ∃ n, s.length = n := ⟨_, rfl⟩
  unfold unitsV
  rw [hn]
  have hb' := hb
  obtain ⟨a, cap, rfl, g1, g2, g3⟩ := hb'
  clear g3
  rw [hn] at hb g1 hl ⊢
  by_cases h2 : n < 2
  · rw [if_neg (by omega)]
    unfold UnQ
    simp only
    have h2' : (n : Int) - 1 < 1 := by omega
    clear hT hb hn h2 g1 g2
    go_enter Tryz.func67, Tryz.ntmps67
    go_wp2
    go_ret2
    exact ⟨rfl, Below.refl _ _⟩
  · obtain ⟨b, off, cap2, e, c1, c2, c3, hc⟩ := bs_open hb (by omega)
    rw [hn] at e c1 hc
    simp only [Value.slice.injEq, true_and] at e
    obtain ⟨rfl, rfl⟩ := e
    have e0 := hc 0 (by omega)
    have eN := hc (n - 1) (by omega)
    rw [Nat.add_zero] at e0
    have h2' : ¬ ((n : Int) - 1 < 1) := by omega
    have h3' : (n : Int) - 1 < n := by omega
    have hne : ∀ x : UInt8, ¬ x = 34 → ¬ (x.toNat : Int) = 34 := fun x h e => h (UInt8.toNat_inj.mp (by have : (34 : UInt8).toNat = 34 := rfl; omega))
    have h4' : ((n - 1 : Nat) : Int) = (n : Int) - 1 := by omega
    have h5' : ((n : Int) - 1).toNat = n - 1 := by omega
    by_cases hx : s.getD 0 0 = 34
    · rw [hx] at e0
      have e0' : w.cell? ⟨b, off, none⟩ = some (.int .u8 34) := e0
      by_cases hy : s.getD (n - 1) 0 = 34
      · rw [hy] at eN
        have eN' : w.cell? ⟨b, off + (n - 1), none⟩ = some (.int .u8 34) := eN
        rw [if_pos ⟨by omega, hx, hy⟩]
        obtain ⟨inn, hinn⟩ : ∃ t, (s.drop 1).take (n - 2) = t := ⟨_, rfl⟩
        have hp := bs_part hb 1 (n - 1) (by omega) (by omega)
        rw [show n - 1 - 1 = n - 2 by omega, hinn] at hp
        have hil : inn.length = n - 2 := by rw [← hinn]; simp; omega
        rw [hinn]
        have hR0 : M.uF n inn = uS inn := uF_fuel _ _ _ (by omega) (by omega)
        rw [hR0]
        obtain ⟨R, hR⟩ : ∃ R, uS inn = R := ⟨_, rfl⟩
        rw [hR]
        obtain ⟨m, hm⟩ : ∃ m, n - 2 = m := ⟨_, rfl⟩
        obtain ⟨cp, hcp⟩ : ∃ c, cap - 1 = c := ⟨_, rfl⟩
        rw [hm, hcp] at hp
        rw [hm] at hil
        have HP := Lib.hid hp
        have HT := Lib.hid hT
        have HR := Lib.hid hR
        have HIL := Lib.hid hil
        have q1 : (n : Int) - 1 - 1 = m := by omega
        have q2 : n - 1 - 1 = m := by omega
        have q3 : 1 ≤ (n : Int) - 1 := by omega
        have q4 : (n : Int) - 1 ≤ cap := by omega
        have q5 : ¬ cap - 1 = 0 := by omega
        have q6 : ¬ cp = 0 := by omega
        have q7 : m < cp := by omega
        have q8 : (cap : Int) ≤ maxLen := by omega
        have HM := Lib.hid (show m ≤ 1048000 by omega)
        clear hT hb hn h2 g1 g2 hc hp hR hR0 hil hinn hx hy hne hm e0 eN c1
        go_enter Tryz.func67, Tryz.ntmps67
        go_wp2
        go_loopw [6, 7, 8, 9] (fun ov iv _ _ wr => ∃ (i : Nat) (pre : List Nat), iv = .int .i64 (i : Int) ∧ i ≤ m ∧ (uS (inn.drop i)).map (pre ++ ·) = R ∧ pre.length ≤ 2 * i ∧ OwnI w.heap.size wr ov (iN pre) ∧ Below w.heap.size w wr) (fun _ iv _ _ _ => m - (intOf iv).toNat)
        case atStart => exact ⟨0, [], rfl, Nat.zero_le _, by rw [List.drop_zero, HR.out]; cases R <;> simp, by simp, World.ownsRow_nil _ _ _ _, Below.refl _ _⟩
        case round =>
          obtain ⟨i, pre, rfl, hi, hrel, hpl, ho, hb1⟩ := hrel
          have hsz := hb1.size
          by_cases hlt : i < m
          · have hil : 0 < (inn.drop i).length := by simp only [List.length_drop]; rw [HIL.out]; omega
            rw [uS_cons _ hil, List.drop_drop] at hrel
            have hpt := bs_part HP.out i m (by omega) (Nat.le_refl _)
            have etk : (inn.drop i).take (m - i) = inn.drop i := List.take_of_length_le (by simp only [List.length_drop]; rw [HIL.out]; omega)
            rw [etk] at hpt
            have EL := Lib.hid (elementz_any _ (inn.drop i) wr (HT.out.keep hb1) (hpt.keep hb1) hil (by simp only [List.length_drop]; rw [HIL.out]; have := HM.out; omega))
            unfold ElQ at EL
            have ev := M.elS_val (inn.drop i)
            have el := M.elS_le (inn.drop i) hil
            have ell : (inn.drop i).length = m - i := by simp only [List.length_drop]; rw [HIL.out]
            rw [ell] at el
            obtain ⟨⟨E1, E2⟩, hE⟩ : ∃ r, M.elS (inn.drop i) = r := ⟨_, rfl⟩
            rw [hE] at EL hrel ev el
            simp only at EL hrel ev el
            have i1 : (i : Int) < m := by omega
            have i2 : (m : Int) ≤ cp := by omega
            have i3 : ¬ cp - i = 0 := by omega
            have HM2 := HM.out
            by_cases hz : E2 = 0
            · subst hz
              rw [if_pos rfl] at hrel
              have hRn : R = none := by rw [← hrel]; rfl
              subst hRn
              clear hrel hpt etk hE ev el ell hil hlt
              go_wp2_with fail
              refine EL.out.mono ?_
              rintro e w2 ⟨rfl, hb2⟩
              have hb4 := hb1.trans (hb2.mono hsz)
              clear ho hb1 hb2
              go_wp2
              go_ret2
              unfold UnQ
              exact ⟨rfl, hb4⟩
            · rw [if_neg hz] at hrel
              have hrel2 : (uS (inn.drop (i + E2))).map ((pre ++ M.pairU E1) ++ ·) = R := by
                rw [← hrel]
                cases uS (inn.drop (i + E2)) with
                | none => rfl
                | some u => simp
              have HRL := Lib.hid hrel2
              have hp2 := pairU_two E1
              have hz2 : ¬ (E2 : Int) = 0 := by omega
              have UA := Lib.hid (fun (v : Value) (W : World) (ho : OwnI w.heap.size W v (iN pre)) (hs : w.heap.size ≤ W.heap.size) => uappz_any w.heap.size v pre E1 _ W ho ev (by omega) hs rfl)
              obtain ⟨RI, hRI⟩ : ∃ R : Int, (E1 : Int) = R := ⟨_, rfl⟩
              rw [hRI] at EL UA
              clear hrel hrel2 hpt etk hE ell hil hlt hRI ev
              go_wp2_with fail
              refine EL.out.mono ?_
              rintro e w2 ⟨rfl, hb2⟩
              have ho2 := ownsRow_keep ho hb2
              have hb4 := hb1.trans (hb2.mono hsz)
              have hs3 := hb4.size
              clear ho hb1 hb2
              go_wp2_with fail
              refine (UA.out _ w2 ho2 hs3).mono ?_
              rintro e w3 ⟨v3, rfl, ho4, hb5⟩
              have hb7 := hb4.trans hb5
              clear hb4 hb5 ho2
              go_wp2
              go_roundw
              case rel => exact ⟨i + E2, pre ++ M.pairU E1, by go_num, by omega, HRL.out, by simp; omega, ho4, hb7⟩
              case measure => simp [intOf]; omega
          · have him : i = m := by omega
            subst him
            rw [uS_nil _ (by simp only [List.length_drop]; rw [HIL.out]; omega)] at hrel
            have hRs : R = some pre := by rw [← hrel]; simp
            subst hRs
            clear hrel hlt
            go_wp2
            go_ret2
            unfold UnQ
            exact ⟨_, rfl, ho, hb1⟩
      · rw [if_neg (fun h => hy h.2.2)]
        unfold UnQ
        simp only
        have hy' := hne _ hy
        obtain ⟨D, hD⟩ : ∃ D : Int, ((s.getD (n - 1) 0).toNat : Int) = D := ⟨_, rfl⟩
        rw [hD] at eN hy'
        clear hT hb hn h2 g1 g2 hc hx hy hne hD e0
        go_enter Tryz.func67, Tryz.ntmps67
        go_wp2
        go_ret2
        exact ⟨rfl, Below.refl _ _⟩
    · rw [if_neg (fun h => hx h.2.1)]
      unfold UnQ
      simp only
      have hx' := hne _ hx
      obtain ⟨D, hD⟩ : ∃ D : Int, ((s.getD 0 0).toNat : Int) = D := ⟨_, rfl⟩
      rw [hD] at e0 hx'
      clear hT hb hn h2 g1 g2 hc hx hne hD eN
      go_enter Tryz.func67, Tryz.ntmps67
      go_wp2
      go_ret2
      exact ⟨rfl, Below.refl _ _⟩
end Go.Proofs.YtbfnlgmhfhaglaaGreatDoor
/- A region whose order is drawn, whose last operations write a cell that earlier ones read: what is held is held up to a chosen operation. -/
namespace Go.Proofs.YtbfnlgmhfhaglaaGreatDoor
open Go.RowKit
set_option linter.unusedVariables false
set_option linter.unusedSimpArgs false

section
variable {P : Program} {ops : Array Oper} {Q : Exit → Act → World → Prop} {md : Region.Mode} {S : World → Prop} {d : Nat}

def AnyTo (P : Program) (md : Region.Mode) (ops : Array Oper) (Q : Exit → Act → World → Prop) (S : World → Prop) (d : Nat) : Nat → Array Bool → Act → World → Prop
  | 0, l, a, w => Region.ready md ops l = [] ∧ Q .normal a w
  | n + 1, l, a, w => (Region.ready md ops l = [] → Q .normal a w) ∧
    ∀ i ∈ Region.ready md ops l, wpOp P ops Q i (fun a' w' => ((l.setIfInBounds i true).getD d true = false → S w') ∧ AnyTo P md ops Q S d n (l.setIfInBounds i true) a' w') a w
theorem AnyTo.any : ∀ (n : Nat) (l : Array Bool) (a : Act) (w : World), AnyTo P md ops Q S d n l a w → wpAny P md ops Q n l a w
  | 0, _, _, _, h => h
  | n + 1, _, _, _, h => ⟨h.1, fun i hi => wpOp_mono (fun a' w' g => AnyTo.any n _ a' w' g.2) (h.2 i hi)⟩
def waitsFor (md : Region.Mode) (ops : Array Oper) (d i : Nat) : Bool := (ops[d]?.map fun o => o.after.any fun e => Region.binds md e && (e.on == i)).getD false
theorem waits_not {i : Nat} {l : Array Bool} (hw : waitsFor md ops d i = true) (hi : l.getD i true = false) : d ∉ Region.ready md ops l := by
  intro hd
  obtain ⟨-, o, ho, hall⟩ := mem_ready.1 hd
  unfold waitsFor at hw
  rw [ho] at hw
  simp only [Option.map_some, Option.getD_some, Array.any_eq_true, Bool.and_eq_true, beq_iff_eq] at hw
  obtain ⟨k, hk, hb, he⟩ := hw
  have := hall o.after[k] (Array.getElem_mem hk) hb
  rw [he] at this
  rcases Nat.lt_or_ge i l.size with h' | h'
  · simp [h'] at hi this; rw [hi] at this; cases this
  · simp [Array.getElem?_eq_none h'] at this
theorem AnyTo.first {T : World → Prop} {i : Nat} {oi : Oper} {v : Value} (hi : ops[i]? = some oi) (hsel : ∀ (j : Nat) (o : Oper) cs b, ops[j]? = some o → o.op ≠ .select cs b)
    (hQ : ∀ c a w, Q (.panic c) (a.put oi.dst v) w → Q (.panic c) a w) (hid : i ≠ d)
    (hT : ∀ w, T w ∨ (waitsFor md ops d i = true ∧ (S w → T w))) :
    ∀ (n : Nat) (l : Array Bool) (a : Act) (w : World),
      (∀ j oj, ops[j]? = some oj → j ≠ i → l.getD j true = false → (∀ e ∈ oj.after, Region.binds md e = true → e.on ≠ i) → oi.apart ops oj = true) →
      i ∈ Region.ready md ops l → YieldsIf P ops T oi v a → T w → (l.getD d true = false → S w) → (waitsFor md ops d i = true → l.getD d true = false) →
      AnyTo P md ops Q S d n (l.setIfInBounds i true) (a.put oi.dst v) w → AnyTo P md ops Q S d (n + 1) l a w := by
  have hset : ∀ l : Array Bool, (l.setIfInBounds i true).getD d true = l.getD d true := fun l => getD_set_ne true hid
  intro n
  induction n with
  | zero =>
    intro l a w _ hr hy hTw hS _ H
    refine ⟨fun h => (by rw [h] at hr; cases hr), fun j hj => ?_⟩
    by_cases hji : j = i
    · subst hji; exact hy.wpOp hi hTw ⟨fun h => hS (by rw [← hset l]; exact h), H⟩
    · have := ready_mono hj hji
      rw [H.1] at this
      cases this
  | succ n ih =>
    intro l a w hfree hr hy hTw hS hdl H
    refine ⟨fun h => (by rw [h] at hr; cases hr), fun j hj => ?_⟩
    by_cases hji : j = i
    · subst hji; exact hy.wpOp hi hTw ⟨fun h => hS (by rw [← hset l]; exact h), H⟩
    · have h1 := H.2 j (ready_mono hj hji)
      obtain ⟨hjun, oj, hoj, hall⟩ := mem_ready.1 hj
      have hiun := (mem_ready.1 hr).1
      have hnot : ∀ e ∈ oj.after, Region.binds md e = true → e.on ≠ i := fun e he hb heq => by
        have h1 := hall e he hb
        rw [heq] at h1
        rcases Nat.lt_or_ge i l.size with h' | h'
        · simp [h'] at hiun h1; rw [hiun] at h1; cases h1
        · simp [Array.getElem?_eq_none h'] at h1
      have hjd : waitsFor md ops d i = true → j ≠ d := fun hw e => waits_not hw hiun (e ▸ hj)
      have hset2 : ∀ m : Array Bool, j ≠ d → (m.setIfInBounds j true).getD d true = m.getD d true := fun m h => getD_set_ne true h
      have h2 := wpOp_putIf hoj (hfree j oj hoj hji hjun hnot) (fun cs b => hsel i oi cs b hi) (fun cs b => hsel j oj cs b hoj) hQ hy h1
      have hfree' : ∀ k ok, ops[k]? = some ok → k ≠ i → (l.setIfInBounds j true).getD k true = false →
          (∀ e ∈ ok.after, Region.binds md e = true → e.on ≠ i) → oi.apart ops ok = true := fun k ok hk hki hun hno => by
        refine hfree k ok hk hki ?_ hno
        by_cases hjk : j = k
        · subst hjk; exact hjun
        · rw [getD_set_ne true hjk] at hun; exact hun
      have comm : (l.setIfInBounds i true).setIfInBounds j true = (l.setIfInBounds j true).setIfInBounds i true := Array.setIfInBounds_comm _ _ (Ne.symm hji)
      refine wpOp_mono (fun a' w' h3 => ?_) h2
      have hS' : (l.setIfInBounds j true).getD d true = false → S w' := fun h => h3.2.1 (by rw [comm, hset]; exact h)
      have hd' : waitsFor md ops d i = true → (l.setIfInBounds j true).getD d true = false := fun hw => by rw [hset2 _ (hjd hw)]; exact hdl hw
      refine ⟨hS', ih (l.setIfInBounds j true) a' w' hfree' (ready_mono hr (Ne.symm hji)) h3.1 ?_ hS' hd' ?_⟩
      · rcases hT w' with h | ⟨hw, h⟩
        · exact h
        · exact h (hS' (hd' hw))
      · rw [← comm]; exact h3.2.2
theorem dtk (i : Nat) {oi : Oper} {v : Value} {fuel : Nat} {listed l2 : Array Bool} {a a2 : Act} {w : World}
    (h : AnyTo P md ops Q S d fuel l2 a2 w)
    (hi : ops[i]? = some oi := by exact (List.getElem?_toArray.trans (by simp only [List.getElem?_cons_succ, List.getElem?_cons_zero]; exact rfl)))
    (hy : YieldsIf P ops S oi v a := by exact Or.inl ⟨by rfl, by intro V hSV; (try dsimp only at hSV); (first | obtain ⟨s0, s1, s2, s3, s4, s5⟩ := hSV | obtain ⟨s0, s1, s2, s3, s4⟩ := hSV | obtain ⟨s0, s1, s2, s3⟩ := hSV | obtain ⟨s0, s1, s2⟩ := hSV | obtain ⟨s0, s1⟩ := hSV | skip); go_simp; (first | rw [if_neg (by omega)] | rw [if_pos (by omega)] | skip); (try with_reducible rfl)⟩)
    (hs : Region.noSelect ops = true := by kernel_rfl) (hf : Region.free md ops listed i = true := by kernel_rfl) (hr : (Region.ready md ops listed).contains i = true := by kernel_rfl)
    (hw : (waitsFor md ops d i && (listed.getD d true == false) && (i != d)) = true := by kernel_rfl)
    (hQ : ∀ c a w, Q (.panic c) (a.put oi.dst v) w → Q (.panic c) a w := by exact fun _ _ _ h => h) (hS : S w := by assumption)
    (hl : listed.setIfInBounds i true = l2 := by first | (simp only [List.getElem_toArray, List.getElem_cons_succ, List.getElem_cons_zero, Act.put, List.setIfInBounds_toArray, List.set_cons_zero, List.set_cons_succ]; done) | (simp only [List.getElem_toArray, List.getElem_cons_succ, List.getElem_cons_zero, Act.put, List.setIfInBounds_toArray, List.set_cons_zero, List.set_cons_succ]; exact rfl) | exact rfl)
    (ha : a.put oi.dst v = a2 := by first | (simp only [List.getElem_toArray, List.getElem_cons_succ, List.getElem_cons_zero, Act.put, List.setIfInBounds_toArray, List.set_cons_zero, List.set_cons_succ]; done) | (simp only [List.getElem_toArray, List.getElem_cons_succ, List.getElem_cons_zero, Act.put, List.setIfInBounds_toArray, List.set_cons_zero, List.set_cons_succ]; exact rfl) | exact rfl) :
    AnyTo P md ops Q S d (fuel + 1) listed a w := by
  rw [Bool.and_eq_true, Bool.and_eq_true] at hw
  obtain ⟨⟨h1, h2⟩, h3⟩ := hw
  exact AnyTo.first (T := S) hi (Region.noSelect_spec hs) hQ (by simpa using h3) (fun _ => .inr ⟨h1, id⟩) fuel listed a w (Region.free_spec hi hf) (by simpa using hr) hy hS (fun _ => hS) (fun _ => by simpa using h2) (by rw [hl, ha]; exact h)
theorem dtp (i : Nat) {oi : Oper} {v : Value} {fuel : Nat} {listed l2 : Array Bool} {a a2 : Act} {w : World}
    (h : AnyTo P md ops Q S d fuel l2 a2 w)
    (hi : ops[i]? = some oi := by exact (List.getElem?_toArray.trans (by simp only [List.getElem?_cons_succ, List.getElem?_cons_zero]; exact rfl)))
    (hy : YieldsIf P ops (fun _ => True) oi v a := by exact Or.inl ⟨by rfl, by intro V hSV; go_simp; (first | rw [if_neg (by omega)] | rw [if_pos (by omega)] | skip); (try with_reducible rfl)⟩)
    (hs : Region.noSelect ops = true := by kernel_rfl) (hf : Region.free md ops listed i = true := by kernel_rfl) (hr : (Region.ready md ops listed).contains i = true := by kernel_rfl)
    (hw : (i != d && (!(waitsFor md ops d i) || (listed.getD d true == false))) = true := by kernel_rfl)
    (hQ : ∀ c a w, Q (.panic c) (a.put oi.dst v) w → Q (.panic c) a w := by exact fun _ _ _ h => h) (hS : S w := by assumption)
    (hl : listed.setIfInBounds i true = l2 := by first | (simp only [List.getElem_toArray, List.getElem_cons_succ, List.getElem_cons_zero, Act.put, List.setIfInBounds_toArray, List.set_cons_zero, List.set_cons_succ]; done) | (simp only [List.getElem_toArray, List.getElem_cons_succ, List.getElem_cons_zero, Act.put, List.setIfInBounds_toArray, List.set_cons_zero, List.set_cons_succ]; exact rfl) | exact rfl)
    (ha : a.put oi.dst v = a2 := by first | (simp only [List.getElem_toArray, List.getElem_cons_succ, List.getElem_cons_zero, Act.put, List.setIfInBounds_toArray, List.set_cons_zero, List.set_cons_succ]; done) | (simp only [List.getElem_toArray, List.getElem_cons_succ, List.getElem_cons_zero, Act.put, List.setIfInBounds_toArray, List.set_cons_zero, List.set_cons_succ]; exact rfl) | exact rfl) :
    AnyTo P md ops Q S d (fuel + 1) listed a w := by
  rw [Bool.and_eq_true, Bool.or_eq_true] at hw
  obtain ⟨h3, h2⟩ := hw
  refine AnyTo.first (T := fun _ => True) hi (Region.noSelect_spec hs) hQ (by simpa using h3) (fun _ => .inl trivial) fuel listed a w (Region.free_spec hi hf) (by simpa using hr) hy trivial (fun _ => hS) (fun h => ?_) (by rw [hl, ha]; exact h)
  rcases h2 with h2 | h2
  · rw [h] at h2; simp at h2
  · simpa using h2
def ReadyTo (P : Program) (md : Region.Mode) (ops : Array Oper) (Q : Exit → Act → World → Prop) (S : World → Prop) (d : Nat) (fuel : Nat) (l : Array Bool) (a : Act) (w : World) (rs : List Nat) : Prop :=
  ∀ i ∈ rs, wpOp P ops Q i (fun a' w' => ((l.setIfInBounds i true).getD d true = false → S w') ∧ AnyTo P md ops Q S d fuel (l.setIfInBounds i true) a' w') a w
theorem ReadyTo.nil {fuel : Nat} {l : Array Bool} {a : Act} {w : World} : ReadyTo P md ops Q S d fuel l a w [] := fun _ h => by cases h
theorem ReadyTo.cons {fuel : Nat} {l : Array Bool} {a : Act} {w : World} {i : Nat} {o : Oper} {rs : List Nat} (ho : ops[i]? = some o)
    (h : ∀ K' : Act → World → Prop, Shut (∀ a w, S w → (S w → AnyTo P md ops Q S d fuel (l.setIfInBounds i true) a w) → K' a w) → if Region.wanted o (yielded ops a.tmps) = true then Oper.wp P o a w K' Q else K' (a.put o.dst undef) w)
    (hs : ReadyTo P md ops Q S d fuel l a w rs) : ReadyTo P md ops Q S d fuel l a w (i :: rs) := fun j hj => by
  rcases List.mem_cons.1 hj with rfl | hj
  · exact wpOp_step ho (fun K' hK => h K' (fun a w hS hW => hK a w ⟨fun _ => hS, hW hS⟩))
  · exact hs j hj
theorem ReadyTo.last {fuel : Nat} {l : Array Bool} {a : Act} {w : World} {i : Nat} {o : Oper} {rs : List Nat} (ho : ops[i]? = some o) (hd : (l.setIfInBounds i true).getD d true = true)
    (h : ∀ K' : Act → World → Prop, Shut (∀ a w, AnyTo P md ops Q S d fuel (l.setIfInBounds i true) a w → K' a w) → if Region.wanted o (yielded ops a.tmps) = true then Oper.wp P o a w K' Q else K' (a.put o.dst undef) w)
    (hs : ReadyTo P md ops Q S d fuel l a w rs) : ReadyTo P md ops Q S d fuel l a w (i :: rs) := fun j hj => by
  rcases List.mem_cons.1 hj with rfl | hj
  · exact wpOp_step ho (fun K' hK => h K' (fun a w hW => hK a w ⟨(fun h => by rw [hd] at h; cases h), hW⟩))
  · exact hs j hj
theorem AnyTo.ready {rs : List Nat} {fuel : Nat} {l : Array Bool} {a : Act} {w : World} (hr : Region.ready md ops l = rs) (hne : rs ≠ [])
    (h : ReadyTo P md ops Q S d fuel l a w rs) : AnyTo P md ops Q S d (fuel + 1) l a w :=
  ⟨fun h0 => absurd (hr ▸ h0) hne, hr ▸ h⟩
theorem AnyTo.done {l : Array Bool} {a : Act} {w : World} (hr : Region.ready md ops l = []) (h : Q .normal a w) : ∀ fuel, AnyTo P md ops Q S d fuel l a w
  | 0 => ⟨hr, h⟩
  | _ + 1 => ⟨fun _ => h, by rw [hr]; simp⟩
theorem wp_region_to {id : Nat} (d : Nat) {a : Act} {w : World} (hm : P.follows .mixedOrders = true) (hS : S w.drew)
    (h : S w.drew → AnyTo P .any ops Q S d ops.size (Array.replicate ops.size false) a w.drew) : (Code.region id ops true).wp P Q a w :=
  wp_region_any hm (AnyTo.any _ _ _ _ (h hS))
end
end Go.Proofs.YtbfnlgmhfhaglaaGreatDoor
