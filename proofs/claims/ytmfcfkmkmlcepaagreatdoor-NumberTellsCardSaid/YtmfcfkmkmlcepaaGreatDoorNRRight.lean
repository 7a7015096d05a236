/- Numbers: the reference's RightNum. -/
import Derived.Test.YtmfcfkmkmlcepaaGreatDoorNRead2
import Derived.Test.YtmfcfkmkmlcepaaGreatDoorDRef
namespace Go.Proofs.YtmfcfkmkmlcepaaGreatDoor
open Go.RowKit
set_option linter.unusedVariables false
set_option linter.unusedSimpArgs false

theorem ne48 (c : UInt8) (b : Bool) (h : (c != 48) = b) : ((c.toNat : Int) != 48) = b := by
  rw [← h, Bool.eq_iff_iff, bne_iff_ne, bne_iff_ne]
  constructor
  · intro h1 h2; subst h2; exact h1 rfl
  · intro h1 h2; apply h1; apply UInt8.toNat_inj.1; show c.toNat = 48; omega
set_option maxRecDepth 100000 in
set_option maxHeartbeats 4000000 in
theorem refrightn_any (ng : Bool) (D E : List UInt8) (r : Bool) (w : World) (h1 : D.length ≤ 100000) (h2 : E.length ≤ 100000) (hr : M.rightN D E = r) :
    Calls Tryz.prog 9 #[.agg (numV (ng, D, E))] w fun e w' => e = .returned (.bool r) ∧ w' = w.alloc (.cells (numV (ng, D, E)) 23) := by
  unfold numV
  simp only
  have R1 := Lib.hid (fun w => refright_any E (M.rightD E) w (by omega) rfl)
  obtain ⟨SD, hSD⟩ : ∃ S, bytes D = S := ⟨_, rfl⟩
  obtain ⟨SE, hSE⟩ : ∃ S, bytes E = S := ⟨_, rfl⟩
  rw [hSE] at R1
  rw [hSD, hSE]
  by_cases h0 : D = []
  · have hrr : r = E.isEmpty := by rw [← hr]; unfold M.rightN; rw [if_pos h0]
    obtain ⟨e1, e2, e3⟩ := str_nil SD D hSD h0
    have hq : (SE.toList.isEmpty = true ∧ SE.toList = [] ∧ r = true) ∨ (SE.toList.isEmpty = false ∧ (!SE.toList.isEmpty) = true ∧ r = false) := by
      by_cases h : E = []
      · have := str_nil SE E hSE h; exact .inl ⟨this.2.1, this.1, by rw [hrr, h]; rfl⟩
      · have := str_ne SE E hSE h; exact .inr ⟨this.1, this.2.1, by rw [hrr]; simpa using h⟩
    clear hr hrr hSD hSE h0 h1 h2
    rcases hq with ⟨q1, q2, rfl⟩ | ⟨q1, q2, rfl⟩
    all_goals
      go_enter Tryz.func9, Tryz.ntmps9
      go_wp2
      go_ret
      exact ⟨rfl, rfl⟩
  · obtain ⟨e1, e2, e3⟩ := str_ne SD D hSD h0
    have hz := bytes_size D
    have hpos := List.length_pos_iff.2 h0
    have hf : ∀ h : 0 < SD.size, SD[0]'h = D[0] := by intro h; subst hSD; rfl
    have hg : ∀ h : SD.size - 1 < SD.size, SD[SD.size - 1]'h = D[D.length - 1] := by
      intro h
      subst hSD
      have e : (bytes D).size - 1 = D.length - 1 := by rw [hz]
      have : ∀ (k : Nat) (hk : k < (bytes D).size) (hk2 : k < D.length), (bytes D)[k]'hk = D[k] := fun k hk hk2 => rfl
      rw [this _ h (by omega)]
      congr 1
    have hh : D.head? = some D[0] := by
      cases D with
      | nil => exact absurd rfl h0
      | cons c t => rfl
    have hl : D.getLast? = some D[D.length - 1] := by
      rw [List.getLast?_eq_getElem?]; simp
    have hrr : r = (D.all M.dig && ((D[0] != 48) && ((D[D.length - 1] != 48) && M.rightD E))) := by
      rw [← hr]; unfold M.rightN
      rw [if_neg h0, hh, hl]
      have q : ∀ a : UInt8, (some a != some 48) = (a != 48) := fun a => by rw [Bool.eq_iff_iff]; simp
      rw [q, q, Bool.and_assoc, Bool.and_assoc]
    rw [hSD] at hz
    have z1 : 0 < SD.size := by omega
    have z2 : SD.size - 1 < SD.size := by omega
    have z3 : SD.size ≤ 100000 := by omega
    have f1 := hf z1
    have f2 := hg z2
    obtain ⟨c, hc⟩ : ∃ c, D[0] = c := ⟨_, rfl⟩
    obtain ⟨d, hd⟩ : ∃ c, D[D.length - 1] = c := ⟨_, rfl⟩
    rw [hc] at f1 hrr
    rw [hd] at f2 hrr
    have D1 := Lib.hid (fun w => refdig_any D (D.all M.dig) w (by omega) (by cases D with | nil => exact absurd rfl h0 | cons a t => rfl))
    rw [hSD] at D1
    have n1 := ne48 c _ rfl
    have n2 := ne48 d _ rfl
    clear hr hSD hSE h1 h2 hf hg hh hl hc hd hz hpos h0
    cases ha : D.all M.dig with
    | false =>
      rw [ha] at D1 hrr
      have : r = false := by rw [hrr]; rfl
      subst this
      clear hrr f1 f2 n1 n2 ha
      go_enter Tryz.func9, Tryz.ntmps9
      go_wp2_with fail
      refine (D1.out _).mono ?_
      rintro e w' ⟨rfl, rfl⟩
      go_wp2
      go_ret
      exact ⟨rfl, rfl⟩
    | true =>
      rw [ha] at D1 hrr
      clear ha
      cases hc : (c != 48) with
      | false =>
        rw [hc] at n1 hrr
        have : r = false := by rw [hrr]; rfl
        subst this
        have n3 : ((c.toNat : Int) == 48) = true := by simpa [bne] using n1
        clear hrr f2 n2 hc
        go_enter Tryz.func9, Tryz.ntmps9
        go_wp2_with fail
        refine (D1.out _).mono ?_
        rintro e w' ⟨rfl, rfl⟩
        go_wp2
        go_ret
        exact ⟨rfl, rfl⟩
      | true =>
        rw [hc] at n1 hrr
        have n3 : ((c.toNat : Int) == 48) = false := by simpa [bne] using n1
        clear hc
        cases hd : (d != 48) with
        | false =>
          rw [hd] at n2 hrr
          have : r = false := by rw [hrr]; rfl
          subst this
          have n4 : ((d.toNat : Int) == 48) = true := by simpa [bne] using n2
          clear hrr hd
          go_enter Tryz.func9, Tryz.ntmps9
          go_wp2_with fail
          refine (D1.out _).mono ?_
          rintro e w' ⟨rfl, rfl⟩
          go_wp2
          go_ret
          exact ⟨rfl, rfl⟩
        | true =>
          rw [hd] at n2 hrr
          have n4 : ((d.toNat : Int) == 48) = false := by simpa [bne] using n2
          simp only [Bool.true_and] at hrr
          rw [← hrr] at R1
          clear hd hrr
          go_enter Tryz.func9, Tryz.ntmps9
          go_wp2_with fail
          refine (D1.out _).mono ?_
          rintro e w' ⟨rfl, rfl⟩
          go_wp2_with fail
          refine (R1.out _).mono ?_
          rintro e w' ⟨rfl, rfl⟩
          go_wp2
          go_ret
          exact ⟨rfl, rfl⟩
end Go.Proofs.YtmfcfkmkmlcepaaGreatDoor
