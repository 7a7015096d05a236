/- What jlex.number and jlex.word return, for any bytes. -/
import Derived.Test.YtakgkdgielkieaaDoorQJ2
namespace Go.Proofs.YtakgkdgielkieaaDoor
open Go.RowKit
set_option linter.unusedVariables false
set_option linter.unusedSimpArgs false

/-- A token as a pair: its kind and where it ends; noughts: none. -/
def tokI (o : Option (Nat × Nat)) (i : Nat) : Int × Int := match o with
  | none => (0, 0)
  | some (k, m) => ((k : Int), ((i + m : Nat) : Int))
def pr (r : Int × Int) : Value := .tuple #[.int .i64 r.1, .int .i64 r.2]
theorem whole_run (s : List UInt8) (h : M.dgB (s.getD 0 0) = true) (h0 : s.getD 0 0 ≠ 48) : M.whole s = 1 + M.run (s.drop 1) := by
  unfold M.whole
  rw [if_neg h0]
  have := (run_at s 0).1 h
  simpa [Nat.add_comm] using this
theorem ret_two {a b c d : Int} (h : a = b) (h2 : c = d) : Ending.returned (.tuple #[.int .i64 a, .int .i64 c]) = .returned (.tuple #[.int .i64 b, .int .i64 d]) := by rw [h, h2]

/-- What number does behind the sign. -/
def numT (l : List UInt8) (q : Nat) : Int × Int :=
  if M.dgB (l.getD q 0) = true then
    (let a := q + M.whole (l.drop q)
     let b := a + M.frac (l.drop a)
     let c := b + M.expo (l.drop b)
     if M.goB (l.getD c 0) = true then (0, 0) else (8, (c : Int)))
  else (0, 0)
theorem numT_eq (l : List UInt8) (i : Nat) : tokI ((M.numL (l.drop i)).map fun n => (8, n)) i = numT l (i + M.neg (l.drop i)) := by
  unfold M.numL numT
  simp only [M.drop_getD, List.drop_drop]
  by_cases hd : M.dgB (l.getD (i + M.neg (l.drop i)) 0) = true
  · rw [if_pos hd, if_pos hd]
    generalize M.neg (l.drop i) = q
    rw [show ∀ x, i + (q + x) = i + q + x from fun x => by omega]
    generalize hw : M.whole (l.drop (i + q)) = a
    rw [show i + q + a = i + (q + a) by omega]
    generalize hf : M.frac (l.drop (i + (q + a))) = b
    rw [show i + (q + a + b) = i + (q + a) + b by omega]
    generalize hx : M.expo (l.drop (i + (q + a) + b)) = c
    rw [show i + (q + a) + b + c = i + (q + a + b + c) by omega]
    by_cases hg : M.goB (l.getD (i + (q + a + b + c)) 0) = true
    · rw [if_pos hg, if_pos hg]; rfl
    · rw [if_neg hg, if_neg hg]; rfl
  · rw [if_neg hd, if_neg hd]; rfl

set_option maxRecDepth 100000 in
set_option maxHeartbeats 4000000 in
theorem number_any (v : Value) (l : List UInt8) (i : Nat) (r : Int × Int) (w : World) (hv : Bs w v l) (hi : i < l.length) (hl : l.length ≤ 4294967296) (hr : tokI ((M.numL (l.drop i)).map fun n => (8, n)) i = r) :
    Calls Tryd.prog 21 #[v, .int .i64 (i : Int)] w fun e w' => e = .returned (pr r) ∧ w = w' := by
  rw [numT_eq] at hr
  have D := Lib.hid (fun q d hq hd => isdig_any v l q d w hv hq hl hd)
  have S := Lib.hid (fun q r h hr => skipd_any v l q r w hv h hl hr)
  have F := Lib.hid (fun q r h hr => frac_any v l q r w hv h hl hr)
  have X := Lib.hid (fun q r h hr => expo_any v l q r w hv h hl hr)
  have G := Lib.hid (fun q r h hr => goes_any v l q r w hv h hl hr)
  obtain ⟨a, cap, rfl, h1, h2, h3⟩ := hv
  obtain ⟨n, hn⟩ : ∃ n, l.length = n := ⟨_, rfl⟩
  obtain ⟨b, off, rfl, hb, hcl⟩ := h3 (by omega)
  have hcg := @cell_getD w b off l hcl
  have hneg : M.neg (l.drop i) = if l.getD i 0 = 45 then 1 else 0 := by unfold M.neg; rw [M.drop_getD, Nat.add_zero]
  rw [hneg] at hr
  have hci := hcg i (by omega)
  obtain ⟨c, hc⟩ : ∃ c, l.getD i 0 = c := ⟨_, rfl⟩
  rw [hc] at hci hr
  obtain ⟨C, hC⟩ : ∃ C : Int, (c.toNat : Int) = C := ⟨_, rfl⟩
  rw [hC] at hci
  have u1 : (i : Int) < n := by omega
  -- where the digits would begin
  obtain ⟨q, hq, hqi, hsign⟩ : ∃ q : Nat, numT l q = r ∧ q ≤ i + 1 ∧ (((C == 45) = true ∧ q = i + 1) ∨ ((C == 45) = false ∧ q = i)) := by
    by_cases h45 : c = 45
    · rw [if_pos h45] at hr
      exact ⟨i + 1, hr, Nat.le_refl _, .inl ⟨by rw [beq_iff_eq, ← hC, h45]; rfl, rfl⟩⟩
    · rw [if_neg h45] at hr
      exact ⟨i, hr, by omega, .inr ⟨by rw [beq_eq_false_iff_ne]; intro hh; apply h45; apply UInt8.toNat_inj.1; show c.toNat = 45; omega, rfl⟩⟩
  have hqn := M.dg_in l q
  unfold numT at hq
  clear hr hneg
  cases hd : M.dgB (l.getD q 0) with
  | false =>
    rw [if_neg (by rw [hd]; simp)] at hq
    subst hq
    have D1 := Lib.hid (D.out q false (by omega) hd)
    rw [hn] at h1 hl D1 ⊢
    clear hd hC hcg hcl hc h3 hn h2 hqn hi D S F X G
    rcases hsign with ⟨t1, hs⟩ | ⟨t1, hs⟩
    · subst hs
      have e2 : (((i + 1 : Nat)) : Int) = (i : Int) + 1 := by omega
      rw [e2] at D1
      clear e2
      go_enter Tryd.func21, Tryd.ntmps21
      go_wp2_with fail
      refine D1.out.mono ?_
      rintro e w' ⟨rfl, rfl⟩
      go_wp2
      go_ret2
      exact ⟨rfl, rfl⟩
    · obtain rfl : i = q := hs.symm
      go_enter Tryd.func21, Tryd.ntmps21
      go_wp2_with fail
      refine D1.out.mono ?_
      rintro e w' ⟨rfl, rfl⟩
      go_wp2
      go_ret2
      exact ⟨rfl, rfl⟩
  | true =>
    rw [if_pos hd] at hq
    simp only at hq
    have hqlt := hqn hd
    have hcq := hcg q hqlt
    have hd0 : M.dgB ((l.drop q).getD 0 0) = true := by rw [M.drop_getD, Nat.add_zero]; exact hd
    have hwl := M.whole_le (l.drop q) hd0
    have hwr := whole_run (l.drop q) hd0
    rw [List.length_drop] at hwl
    have hw48 : l.getD q 0 = 48 → M.whole (l.drop q) = 1 := fun h => by unfold M.whole; rw [M.drop_getD, Nat.add_zero, if_pos h]
    rw [M.drop_getD, Nat.add_zero, List.drop_drop] at hwr
    have D1 := Lib.hid (D.out q true (by omega) hd)
    obtain ⟨A, hA⟩ : ∃ A, q + M.whole (l.drop q) = A := ⟨_, rfl⟩
    rw [hA] at hq
    have hfl := M.frac_le (l.drop A)
    rw [List.length_drop] at hfl
    obtain ⟨B, hB⟩ : ∃ B, A + M.frac (l.drop A) = B := ⟨_, rfl⟩
    rw [hB] at hq
    have hxl := M.expo_le (l.drop B)
    rw [List.length_drop] at hxl
    obtain ⟨Z, hZ⟩ : ∃ Z, B + M.expo (l.drop B) = Z := ⟨_, rfl⟩
    rw [hZ] at hq
    have F1 := Lib.hid (F.out A B (by omega) hB)
    have X1 := Lib.hid (X.out B Z (by omega) hZ)
    obtain ⟨g, hg⟩ : ∃ g, M.goB (l.getD Z 0) = g := ⟨_, rfl⟩
    rw [hg] at hq
    have G1 := Lib.hid (G.out Z g (by omega) hg)
    obtain ⟨d, hdv⟩ : ∃ d, l.getD q 0 = d := ⟨_, rfl⟩
    rw [hdv] at hcq hwr hw48
    obtain ⟨E, hE⟩ : ∃ C : Int, (d.toNat : Int) = C := ⟨_, rfl⟩
    rw [hE] at hcq
    have hAcases : ((E != 48) = false ∧ A = q + 1) ∨ ((E != 48) = true ∧ q + 1 + M.run (l.drop (q + 1)) = A) := by
      by_cases h48 : d = 48
      · left; exact ⟨by simp [← hE, h48], by rw [← hA, hw48 h48]⟩
      · right; exact ⟨by rw [bne_iff_ne]; intro hh; apply h48; apply UInt8.toNat_inj.1; show d.toNat = 48; omega, by rw [← hA, hwr h48]; omega⟩
    have S1 := Lib.hid (fun hr => S.out (q + 1) A (by omega) hr)
    have v1 : (q : Int) < n := by omega
    have e1 : (((q + 1 : Nat)) : Int) = (q : Int) + 1 := by omega
    rw [hn] at h1 hl D1 F1 X1 G1 S1 ⊢
    rw [e1] at S1
    clear hd hC hE hcg hcl hc h3 hn h2 hqn hd0 hwl hwr hw48 D S F X G hA hB hZ hfl hxl hg hdv hi e1
    have HQ := Lib.hid hq
    clear hq
    rcases hsign with ⟨t1, hs⟩ | ⟨t1, hs⟩
    · subst hs
      have e2 : (((i + 1 : Nat)) : Int) = (i : Int) + 1 := by omega
      have i4 : ((i : Int) + 1).toNat = i + 1 := by omega
      have v2 : (0 : Int) ≤ (i : Int) + 1 := by omega
      rw [e2] at D1 S1 v1
      clear e2
      rcases hAcases with ⟨t2, hA⟩ | ⟨t2, hA⟩
      · subst hA
        have e3 : (((i + 1 + 1 : Nat)) : Int) = (i : Int) + 1 + 1 := by omega
        rw [e3] at F1
        clear e3
        cases g with
        | false =>
          have HR := Lib.hid (HQ.out)
          go_enter Tryd.func21, Tryd.ntmps21
          go_wp2_with fail
          refine D1.out.mono ?_
          rintro e w' ⟨rfl, rfl⟩
          go_wp2_with fail
          refine F1.out.mono ?_
          rintro e w' ⟨rfl, rfl⟩
          go_wp2_with fail
          refine X1.out.mono ?_
          rintro e w' ⟨rfl, rfl⟩
          go_wp2_with fail
          refine G1.out.mono ?_
          rintro e w' ⟨rfl, rfl⟩
          go_wp2
          go_ret2
          exact ⟨by rw [← HQ.out]; rfl, rfl⟩
        | true =>
          go_enter Tryd.func21, Tryd.ntmps21
          go_wp2_with fail
          refine D1.out.mono ?_
          rintro e w' ⟨rfl, rfl⟩
          go_wp2_with fail
          refine F1.out.mono ?_
          rintro e w' ⟨rfl, rfl⟩
          go_wp2_with fail
          refine X1.out.mono ?_
          rintro e w' ⟨rfl, rfl⟩
          go_wp2_with fail
          refine G1.out.mono ?_
          rintro e w' ⟨rfl, rfl⟩
          go_wp2
          go_ret2
          exact ⟨by rw [← HQ.out]; rfl, rfl⟩
      · have S2 := Lib.hid (S1.out hA)
        clear S1 hA
        cases g with
        | false =>
          go_enter Tryd.func21, Tryd.ntmps21
          go_wp2_with fail
          refine D1.out.mono ?_
          rintro e w' ⟨rfl, rfl⟩
          go_wp2_with fail
          refine S2.out.mono ?_
          rintro e w' ⟨rfl, rfl⟩
          go_wp2_with fail
          refine F1.out.mono ?_
          rintro e w' ⟨rfl, rfl⟩
          go_wp2_with fail
          refine X1.out.mono ?_
          rintro e w' ⟨rfl, rfl⟩
          go_wp2_with fail
          refine G1.out.mono ?_
          rintro e w' ⟨rfl, rfl⟩
          go_wp2
          go_ret2
          exact ⟨by rw [← HQ.out]; rfl, rfl⟩
        | true =>
          go_enter Tryd.func21, Tryd.ntmps21
          go_wp2_with fail
          refine D1.out.mono ?_
          rintro e w' ⟨rfl, rfl⟩
          go_wp2_with fail
          refine S2.out.mono ?_
          rintro e w' ⟨rfl, rfl⟩
          go_wp2_with fail
          refine F1.out.mono ?_
          rintro e w' ⟨rfl, rfl⟩
          go_wp2_with fail
          refine X1.out.mono ?_
          rintro e w' ⟨rfl, rfl⟩
          go_wp2_with fail
          refine G1.out.mono ?_
          rintro e w' ⟨rfl, rfl⟩
          go_wp2
          go_ret2
          exact ⟨by rw [← HQ.out]; rfl, rfl⟩
    · obtain rfl : i = q := hs.symm
      obtain rfl : C = E := by have := hci.symm.trans hcq; simpa using this
      clear hcq
      rcases hAcases with ⟨t2, hA⟩ | ⟨t2, hA⟩
      · subst hA
        have e3 : (((i + 1 : Nat)) : Int) = (i : Int) + 1 := by omega
        rw [e3] at F1
        clear e3
        cases g with
        | false =>
          go_enter Tryd.func21, Tryd.ntmps21
          go_wp2_with fail
          refine D1.out.mono ?_
          rintro e w' ⟨rfl, rfl⟩
          go_wp2_with fail
          refine F1.out.mono ?_
          rintro e w' ⟨rfl, rfl⟩
          go_wp2_with fail
          refine X1.out.mono ?_
          rintro e w' ⟨rfl, rfl⟩
          go_wp2_with fail
          refine G1.out.mono ?_
          rintro e w' ⟨rfl, rfl⟩
          go_wp2
          go_ret2
          exact ⟨by rw [← HQ.out]; rfl, rfl⟩
        | true =>
          go_enter Tryd.func21, Tryd.ntmps21
          go_wp2_with fail
          refine D1.out.mono ?_
          rintro e w' ⟨rfl, rfl⟩
          go_wp2_with fail
          refine F1.out.mono ?_
          rintro e w' ⟨rfl, rfl⟩
          go_wp2_with fail
          refine X1.out.mono ?_
          rintro e w' ⟨rfl, rfl⟩
          go_wp2_with fail
          refine G1.out.mono ?_
          rintro e w' ⟨rfl, rfl⟩
          go_wp2
          go_ret2
          exact ⟨by rw [← HQ.out]; rfl, rfl⟩
      · have S2 := Lib.hid (S1.out hA)
        clear S1 hA
        cases g with
        | false =>
          go_enter Tryd.func21, Tryd.ntmps21
          go_wp2_with fail
          refine D1.out.mono ?_
          rintro e w' ⟨rfl, rfl⟩
          go_wp2_with fail
          refine S2.out.mono ?_
          rintro e w' ⟨rfl, rfl⟩
          go_wp2_with fail
          refine F1.out.mono ?_
          rintro e w' ⟨rfl, rfl⟩
          go_wp2_with fail
          refine X1.out.mono ?_
          rintro e w' ⟨rfl, rfl⟩
          go_wp2_with fail
          refine G1.out.mono ?_
          rintro e w' ⟨rfl, rfl⟩
          go_wp2
          go_ret2
          exact ⟨by rw [← HQ.out]; rfl, rfl⟩
        | true =>
          go_enter Tryd.func21, Tryd.ntmps21
          go_wp2_with fail
          refine D1.out.mono ?_
          rintro e w' ⟨rfl, rfl⟩
          go_wp2_with fail
          refine S2.out.mono ?_
          rintro e w' ⟨rfl, rfl⟩
          go_wp2_with fail
          refine F1.out.mono ?_
          rintro e w' ⟨rfl, rfl⟩
          go_wp2_with fail
          refine X1.out.mono ?_
          rintro e w' ⟨rfl, rfl⟩
          go_wp2_with fail
          refine G1.out.mono ?_
          rintro e w' ⟨rfl, rfl⟩
          go_wp2
          go_ret2
          exact ⟨by rw [← HQ.out]; rfl, rfl⟩
end Go.Proofs.YtakgkdgielkieaaDoor
