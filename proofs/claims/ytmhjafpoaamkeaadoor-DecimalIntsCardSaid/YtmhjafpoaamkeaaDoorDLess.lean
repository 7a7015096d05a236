/- Decimals: what Less returns, for any two texts. -/
import Derived.Test.YtmhjafpoaamkeaaDoorDAdd
namespace Go.Proofs.YtmhjafpoaamkeaaDoor
open Go.RowKit
set_option linter.unusedVariables false

set_option maxRecDepth 100000 in
set_option maxHeartbeats 1000000 in
theorem less_any (a b : List UInt8) (res : Bool) (w : World) (la : a.length ≤ 100000) (lb : b.length ≤ 100000) (hr : M.lessT a b = res) :
    Calls Tryd.prog 14 #[.string (bytes a), .string (bytes b)] w fun e w' => e = .returned (.bool res) ∧ w' = w := by
  have ra := fun r W h => right_any a r W (by omega) h
  have rb := fun r W h => right_any b r W (by omega) h
  cases ha : M.rightD a with
  | false =>
    have hf : res = false := by rw [← hr]; unfold M.lessT; rw [ha]; simp
    subst hf
    have A1 := Lib.hid (fun W => ra false W ha)
    clear ra rb ha hr
    go_enter Tryd.func14, Tryd.ntmps14
    go_wp2_with fail
    refine (A1.out _).mono ?_
    rintro e w' ⟨rfl, rfl⟩
    go_wp2
    go_ret
    exact ⟨rfl, rfl⟩
  | true =>
    have A1 := Lib.hid (fun W => ra true W ha)
    cases hb : M.rightD b with
    | false =>
      have hf : res = false := by rw [← hr]; unfold M.lessT; rw [hb]; simp
      subst hf
      have B1 := Lib.hid (fun W => rb false W hb)
      clear ra rb ha hb hr
      go_enter Tryd.func14, Tryd.ntmps14
      go_wp2_with fail
      refine (A1.out _).mono ?_
      rintro e w' ⟨rfl, rfl⟩
      go_wp2_with fail
      refine (B1.out _).mono ?_
      rintro e w' ⟨rfl, rfl⟩
      go_wp2
      go_ret
      exact ⟨rfl, rfl⟩
    | true =>
      have B1 := Lib.hid (fun W => rb true W hb)
      obtain ⟨p, hp⟩ : ∃ p, M.isNeg a = p := ⟨_, rfl⟩
      obtain ⟨q, hq⟩ : ∃ p, M.isNeg b = p := ⟨_, rfl⟩
      have N1 := Lib.hid (fun W => isneg_any a p W hp)
      have N2 := Lib.hid (fun W => isneg_any b q W hq)
      by_cases hpq : p = q
      · subst hpq
        cases p with
        | true =>
          obtain ⟨x, hx⟩ : ∃ x, M.unsign a = x := ⟨_, rfl⟩
          obtain ⟨y, hy⟩ : ∃ y, M.unsign b = y := ⟨_, rfl⟩
          have lx : x.length ≤ 100000 := by rw [← hx]; have := unsign_len a; omega
          have ly : y.length ≤ 100000 := by rw [← hy]; have := unsign_len b; omega
          have U1 := Lib.hid (fun W => unsign_any a x W hx)
          have U2 := Lib.hid (fun W => unsign_any b y W hy)
          have hl : M.lessB y x = res := by rw [← hr, M.less_both a b ha hb hp hq, hx, hy]
          have L1 := Lib.hid (fun W => lessd_any y x res W (by omega) (by omega) hl)
          clear ra rb ha hb hr hp hq hx hy lx ly hl la lb
          go_enter Tryd.func14, Tryd.ntmps14
          go_wp2_with fail
          refine (A1.out _).mono ?_
          rintro e w' ⟨rfl, rfl⟩
          go_wp2_with fail
          refine (B1.out _).mono ?_
          rintro e w' ⟨rfl, rfl⟩
          go_wp2_with fail
          refine (N1.out _).mono ?_
          rintro e w' ⟨rfl, rfl⟩
          go_wp2_with fail
          refine (N2.out _).mono ?_
          rintro e w' ⟨rfl, rfl⟩
          go_wp2_with fail
          refine (N1.out _).mono ?_
          rintro e w' ⟨rfl, rfl⟩
          go_wp2_with fail
          refine (U2.out _).mono ?_
          rintro e w' ⟨rfl, rfl⟩
          go_wp2_with fail
          refine (U1.out _).mono ?_
          rintro e w' ⟨rfl, rfl⟩
          go_wp2_with fail
          refine (L1.out _).mono ?_
          rintro e w' ⟨rfl, rfl⟩
          go_wp2
          go_ret
          exact ⟨rfl, rfl⟩
        | false =>
          have hl : M.lessB a b = res := by rw [← hr, M.less_none a b ha hb hp hq]
          have L1 := Lib.hid (fun W => lessd_any a b res W (by omega) (by omega) hl)
          clear ra rb ha hb hr hp hq hl la lb
          go_enter Tryd.func14, Tryd.ntmps14
          go_wp2_with fail
          refine (A1.out _).mono ?_
          rintro e w' ⟨rfl, rfl⟩
          go_wp2_with fail
          refine (B1.out _).mono ?_
          rintro e w' ⟨rfl, rfl⟩
          go_wp2_with fail
          refine (N1.out _).mono ?_
          rintro e w' ⟨rfl, rfl⟩
          go_wp2_with fail
          refine (N2.out _).mono ?_
          rintro e w' ⟨rfl, rfl⟩
          go_wp2_with fail
          refine (N1.out _).mono ?_
          rintro e w' ⟨rfl, rfl⟩
          go_wp2_with fail
          refine (L1.out _).mono ?_
          rintro e w' ⟨rfl, rfl⟩
          go_wp2
          go_ret
          exact ⟨rfl, rfl⟩
      · have hl : p = res := by rw [← hr, M.less_differ a b ha hb (by rw [hp, hq]; exact hpq), hp]
        subst hl
        clear ra rb ha hb hr hp hq la lb
        cases p <;> cases q
        all_goals first
          | (exfalso; exact hpq rfl)
          | (clear hpq
             go_enter Tryd.func14, Tryd.ntmps14
             go_wp2_with fail
             refine (A1.out _).mono ?_
             rintro e w' ⟨rfl, rfl⟩
             go_wp2_with fail
             refine (B1.out _).mono ?_
             rintro e w' ⟨rfl, rfl⟩
             go_wp2_with fail
             refine (N1.out _).mono ?_
             rintro e w' ⟨rfl, rfl⟩
             go_wp2_with fail
             refine (N2.out _).mono ?_
             rintro e w' ⟨rfl, rfl⟩
             go_wp2_with fail
             refine (N1.out _).mono ?_
             rintro e w' ⟨rfl, rfl⟩
             go_wp2
             go_ret
             exact ⟨rfl, rfl⟩)
end Go.Proofs.YtmhjafpoaamkeaaDoor
