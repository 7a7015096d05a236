/- Decimals: what Add and Less return, for any two texts. -/
import Derived.Test.YtpecaalpbeoolaaGreatDoorDAdd
namespace Go.Proofs.YtpecaalpbeoolaaGreatDoor
open Go.RowKit
set_option linter.unusedVariables false

def strB (r : List UInt8 × Bool) : Value := .tuple #[.string (bytes r.1), .bool r.2]
set_option maxRecDepth 100000 in
set_option maxHeartbeats 1000000 in
theorem add_any (a b : List UInt8) (res : List UInt8 × Bool) (w : World) (la : a.length ≤ 100000) (lb : b.length ≤ 100000) (hr : M.addD a b = res) :
    Calls Tryz.prog 118 #[.string (bytes a), .string (bytes b)] w fun e w' => e = .returned (strB res) ∧ Below w.heap.size w w' := by
  unfold M.addD at hr
  have ra := fun r W h => right_any a r W (by omega) h
  have rb := fun r W h => right_any b r W (by omega) h
  cases ha : M.rightD a with
  | false =>
    rw [ha] at hr
    simp only [Bool.false_and, Bool.false_eq_true, if_false] at hr
    subst hr
    have A1 := Lib.hid (fun W => ra false W ha)
    clear ra rb ha
    go_enter Tryz.func118, Tryz.ntmps118
    go_wp2_with fail
    refine (A1.out _).mono ?_
    rintro e w' ⟨rfl, rfl⟩
    go_wp2
    go_ret2
    exact ⟨rfl, Below.refl _ _⟩
  | true =>
    have A1 := Lib.hid (fun W => ra true W ha)
    cases hb : M.rightD b with
    | false =>
      rw [ha, hb] at hr
      simp only [Bool.and_false, Bool.false_eq_true, if_false] at hr
      subst hr
      have B1 := Lib.hid (fun W => rb false W hb)
      clear ra rb ha hb
      go_enter Tryz.func118, Tryz.ntmps118
      go_wp2_with fail
      refine (A1.out _).mono ?_
      rintro e w' ⟨rfl, rfl⟩
      go_wp2_with fail
      refine (B1.out _).mono ?_
      rintro e w' ⟨rfl, rfl⟩
      go_wp2
      go_ret2
      exact ⟨rfl, Below.refl _ _⟩
    | true =>
      rw [ha, hb] at hr
      simp only [Bool.and_self, if_true] at hr
      subst hr
      have B1 := Lib.hid (fun W => rb true W hb)
      obtain ⟨x, hx⟩ : ∃ x, M.unsign a = x := ⟨_, rfl⟩
      obtain ⟨y, hy⟩ : ∃ y, M.unsign b = y := ⟨_, rfl⟩
      have lx : x.length ≤ 100000 := by rw [← hx]; have := unsign_len a; omega
      have ly : y.length ≤ 100000 := by rw [← hy]; have := unsign_len b; omega
      have rx := M.row_unsign a ha
      have ry := M.row_unsign b hb
      rw [hx] at rx
      rw [hy] at ry
      have U1 := Lib.hid (fun W => unsign_any a x W hx)
      have U2 := Lib.hid (fun W => unsign_any b y W hy)
      obtain ⟨p, hp⟩ : ∃ p, M.isNeg a = p := ⟨_, rfl⟩
      obtain ⟨q, hq⟩ : ∃ p, M.isNeg b = p := ⟨_, rfl⟩
      have N1 := Lib.hid (fun W => isneg_any a p W hp)
      have N2 := Lib.hid (fun W => isneg_any b q W hq)
      by_cases hpq : p = q
      · have hfin := fun l h1 h2 => M.add_same a b l (by rw [hp, hq, hpq]) h1 (by rw [hx, hy]; exact h2)
        rw [hp] at hfin
        have Hfin := Lib.hid hfin
        have hsum := fun W => sum_any x y W lx ly rx.1 ry.1
        have Hsum := Lib.hid hsum
        have q1 : (p == q) = true := by rw [hpq]; simp
        subst hpq
        clear ra rb ha hb hx hy rx ry hp hq hfin hsum lx ly la lb
        cases p
        all_goals
          go_enter Tryz.func118, Tryz.ntmps118
          go_wp2_with fail
          refine (A1.out _).mono ?_
          rintro e w' ⟨rfl, rfl⟩
          go_wp2_with fail
          refine (B1.out _).mono ?_
          rintro e w' ⟨rfl, rfl⟩
          go_wp2_with fail
          refine (U1.out _).mono ?_
          rintro e w' ⟨rfl, rfl⟩
          go_wp2_with fail
          refine (U2.out _).mono ?_
          rintro e w' ⟨rfl, rfl⟩
          go_wp2_with fail
          refine (N1.out _).mono ?_
          rintro e w' ⟨rfl, rfl⟩
          go_wp2_with fail
          refine (N2.out _).mono ?_
          rintro e w' ⟨rfl, rfl⟩
          go_wp2_with fail
          refine (N1.out _).mono ?_
          rintro e w' ⟨rfl, rfl⟩
          go_wp2_with fail
          refine (Hsum.out _).mono ?_
          rintro e w' ⟨v, l, rfl, ho, hl, hd, hv, hbl⟩
          have hres := Hfin.out l hd hv
          have Hres := Lib.hid hres
          clear hd hv hres
          go_wp2_with fail
          refine (signed_any _ _ v l _ _ ho (by omega) Hres.out).mono ?_
          rintro e w' ⟨rfl, rfl⟩
          go_wp2
          go_ret2
          exact ⟨rfl, hbl⟩
      · have q1 : (p == q) = false := by simpa using hpq
        have hlb := M.less_dval x y rx ry
        by_cases hlt : M.dval x < M.dval y
        · have hless : M.lessB x y = true := by rw [hlb]; simpa using hlt
          have hfin := fun l h1 h2 => M.add_less a b l (by rw [hp, hq]; exact hpq) h1 (by rw [hx, hy]; exact hlt) (by rw [hx, hy]; exact h2)
          rw [hq] at hfin
          have Hfin := Lib.hid hfin
          have hdif := fun W => dif_any y x W ly lx ry.1 rx.1 (M.row_len y x ry rx (by omega)) (by omega)
          have Hdif := Lib.hid hdif
          have L1 := Lib.hid (fun W => lessd_any x y true W (by omega) (by omega) hless)
          clear ra rb ha hb hx hy rx ry hp hq hfin hdif lx ly la lb hlb hlt hless
          cases p <;> cases q <;> first | (exact absurd rfl hpq) | skip
          all_goals
            clear hpq
            go_enter Tryz.func118, Tryz.ntmps118
            go_wp2_with fail
            refine (A1.out _).mono ?_
            rintro e w' ⟨rfl, rfl⟩
            go_wp2_with fail
            refine (B1.out _).mono ?_
            rintro e w' ⟨rfl, rfl⟩
            go_wp2_with fail
            refine (U1.out _).mono ?_
            rintro e w' ⟨rfl, rfl⟩
            go_wp2_with fail
            refine (U2.out _).mono ?_
            rintro e w' ⟨rfl, rfl⟩
            go_wp2_with fail
            refine (N1.out _).mono ?_
            rintro e w' ⟨rfl, rfl⟩
            go_wp2_with fail
            refine (N2.out _).mono ?_
            rintro e w' ⟨rfl, rfl⟩
            go_wp2_with fail
            refine (L1.out _).mono ?_
            rintro e w' ⟨rfl, rfl⟩
            go_wp2_with fail
            refine (N2.out _).mono ?_
            rintro e w' ⟨rfl, rfl⟩
            go_wp2_with fail
            refine (Hdif.out _).mono ?_
            rintro e w' ⟨v, l, rfl, ho, hl, hd, hv, hbl⟩
            have hres := Hfin.out l hd hv
            have Hres := Lib.hid hres
            clear hd hv hres
            go_wp2_with fail
            refine (signed_any _ _ v l _ _ ho (by omega) Hres.out).mono ?_
            rintro e w' ⟨rfl, rfl⟩
            go_wp2
            go_ret2
            exact ⟨rfl, hbl⟩
        · have hless : M.lessB x y = false := by rw [hlb]; simpa using hlt
          have hfin := fun l h1 h2 => M.add_more a b l (by rw [hp, hq]; exact hpq) h1 (by rw [hx, hy]; exact hlt) (by rw [hx, hy]; exact h2)
          rw [hp] at hfin
          have Hfin := Lib.hid hfin
          have hdif := fun W => dif_any x y W lx ly rx.1 ry.1 (M.row_len x y rx ry (by omega)) (by omega)
          have Hdif := Lib.hid hdif
          have L1 := Lib.hid (fun W => lessd_any x y false W (by omega) (by omega) hless)
          clear ra rb ha hb hx hy rx ry hp hq hfin hdif lx ly la lb hlb hlt hless
          cases p <;> cases q <;> first | (exact absurd rfl hpq) | skip
          all_goals
            clear hpq
            go_enter Tryz.func118, Tryz.ntmps118
            go_wp2_with fail
            refine (A1.out _).mono ?_
            rintro e w' ⟨rfl, rfl⟩
            go_wp2_with fail
            refine (B1.out _).mono ?_
            rintro e w' ⟨rfl, rfl⟩
            go_wp2_with fail
            refine (U1.out _).mono ?_
            rintro e w' ⟨rfl, rfl⟩
            go_wp2_with fail
            refine (U2.out _).mono ?_
            rintro e w' ⟨rfl, rfl⟩
            go_wp2_with fail
            refine (N1.out _).mono ?_
            rintro e w' ⟨rfl, rfl⟩
            go_wp2_with fail
            refine (N2.out _).mono ?_
            rintro e w' ⟨rfl, rfl⟩
            go_wp2_with fail
            refine (L1.out _).mono ?_
            rintro e w' ⟨rfl, rfl⟩
            go_wp2_with fail
            refine (N1.out _).mono ?_
            rintro e w' ⟨rfl, rfl⟩
            go_wp2_with fail
            refine (Hdif.out _).mono ?_
            rintro e w' ⟨v, l, rfl, ho, hl, hd, hv, hbl⟩
            have hres := Hfin.out l hd hv
            have Hres := Lib.hid hres
            clear hd hv hres
            go_wp2_with fail
            refine (signed_any _ _ v l _ _ ho (by omega) Hres.out).mono ?_
            rintro e w' ⟨rfl, rfl⟩
            go_wp2
            go_ret2
            exact ⟨rfl, hbl⟩
end Go.Proofs.YtpecaalpbeoolaaGreatDoor
