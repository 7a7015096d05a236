/- How the program spells a name from its beginning on. -/
import Derived.Test.YtkaojigdogeliaaDoorESpell
import Derived.Laws.Concat
import Derived.Deep.RegionHeld3
namespace Go.Proofs.YtkaojigdogeliaaDoor
open Go.RowKit
set_option linter.unusedVariables false
set_option linter.unusedSimpArgs false

theorem s_at (l : List UInt8) (k : Nat) (c : UInt8) (hk : l[k]? = some c) (h : k < (bytes l).size) : (bytes l)[k]'h = c := by
  have h2 : k < l.length := by rw [bytes_size] at h; exact h
  rw [List.getElem?_eq_getElem h2] at hk
  simp only [Option.some.injEq] at hk
  rw [← hk]; rfl
set_option maxRecDepth 100000 in
set_option maxHeartbeats 1000000 in
theorem headlen_any (l : List UInt8) (k : Nat) (w : World) (hl : l.length ≤ 100000) (hk : M.headN l = k) :
    Calls Tryd.prog 38 #[.string (bytes l)] w fun e w' => e = .returned (.int .i64 (k : Int)) ∧ w = w' := by
  have hsz : (bytes l).size = l.length := bytes_size l
  match l, hl, hk, hsz with
  | [], _, hk, hsz =>
    obtain rfl : 0 = k := hk
    obtain ⟨S, hS⟩ : ∃ S, bytes [] = S := ⟨_, rfl⟩
    rw [hS] at hsz ⊢
    simp only [List.length_nil] at hsz
    clear hS hk
    go_enter Tryd.func38, Tryd.ntmps38
    go_wp2
    go_ret
    exact ⟨rfl, rfl⟩
  | [c], _, hk, hsz =>
    have a0 := s_at [c] 0 c rfl (by rw [hsz]; simp)
    simp only [List.length_cons, List.length_nil] at hsz
    cases hd : M.nDg (c.toNat : Int) with
    | true =>
      obtain rfl : 1 = k := by rw [← hk]; simp [M.headN, hd]
      have X := Lib.hid (ndg_any (c.toNat : Int) true w hd)
      obtain ⟨C, hC⟩ : ∃ C : Int, (c.toNat : Int) = C := ⟨_, rfl⟩
      have C0 : 0 ≤ C := by omega
      have C1 : C < 256 := by have := c.toNat_lt; omega
      rw [hC] at X
      obtain ⟨S, hS⟩ : ∃ S, bytes [c] = S := ⟨_, rfl⟩
      simp only [hS] at hsz a0 ⊢
      have hp0 : 0 < S.size := by omega
      have b0 : S[0]'hp0 = c := a0
      clear a0
      clear hS hk hd
      go_enter Tryd.func38, Tryd.ntmps38
      go_wp2_with fail
      refine (X.out).mono ?_
      rintro e w' ⟨rfl, rfl⟩
      go_wp2
      go_ret
      exact ⟨rfl, rfl⟩
    | false =>
      obtain rfl : 0 = k := by rw [← hk]; simp [M.headN, hd]
      have X := Lib.hid (ndg_any (c.toNat : Int) false w hd)
      obtain ⟨C, hC⟩ : ∃ C : Int, (c.toNat : Int) = C := ⟨_, rfl⟩
      have C0 : 0 ≤ C := by omega
      have C1 : C < 256 := by have := c.toNat_lt; omega
      rw [hC] at X
      obtain ⟨S, hS⟩ : ∃ S, bytes [c] = S := ⟨_, rfl⟩
      simp only [hS] at hsz a0 ⊢
      have hp0 : 0 < S.size := by omega
      have b0 : S[0]'hp0 = c := a0
      clear a0
      clear hS hk hd
      go_enter Tryd.func38, Tryd.ntmps38
      go_wp2_with fail
      refine (X.out).mono ?_
      rintro e w' ⟨rfl, rfl⟩
      go_wp2
      go_ret
      exact ⟨rfl, rfl⟩
  | c :: d :: t, hl, hk, hsz =>
    have hp0 : 0 < (bytes (c :: d :: t)).size := by rw [hsz]; simp
    have hp1 : 1 < (bytes (c :: d :: t)).size := by rw [hsz]; simp
    have a0 := s_at (c :: d :: t) 0 c rfl hp0
    have a1 := s_at (c :: d :: t) 1 d rfl hp1
    have hsm : (bytes (c :: d :: t)).size ≤ 100000 := by rw [hsz]; exact hl
    clear hsz
    obtain ⟨S, hS⟩ : ∃ S, bytes (c :: d :: t) = S := ⟨_, rfl⟩
    simp only [hS] at hp0 hp1 a0 a1 hsm ⊢
    have b0 : S[0]'hp0 = c := a0
    have b1 : S[1]'hp1 = d := a1
    clear a0 a1
    have i0 : (0 : Int) < S.size := by omega
    have i1 : (1 : Int) < S.size := by omega
    have t0 : decide ((0 : Int) < S.size) = true := by simpa using i0
    have t1 : decide ((1 : Int) < S.size) = true := by simpa using i1
    obtain ⟨C, hC⟩ : ∃ C : Int, (c.toNat : Int) = C := ⟨_, rfl⟩
    have C0 : 0 ≤ C := by omega
    have C1 : C < 256 := by have := c.toNat_lt; omega
    cases hd : M.nDg (c.toNat : Int) with
    | true =>
      obtain rfl : 1 = k := by rw [← hk]; simp [M.headN, hd]
      have X := Lib.hid (ndg_any (c.toNat : Int) true w hd)
      rw [hC] at X
      clear hS hk hd
      go_enter Tryd.func38, Tryd.ntmps38
      go_wp2_with fail
      refine (X.out).mono ?_
      rintro e w' ⟨rfl, rfl⟩
      go_wp2
      go_ret
      exact ⟨rfl, rfl⟩
    | false =>
      have X := Lib.hid (ndg_any (c.toNat : Int) false w hd)
      rw [hC] at X
      by_cases h45 : C = 45
      · have X2 := Lib.hid (ndg_any (d.toNat : Int) _ w rfl)
        have hk2 : (if M.nDg (d.toNat : Int) = true then 2 else 0) = k := by
          rw [← hk]
          simp only [M.headN, hd]
          have : c.toNat = 45 := by omega
          by_cases hdd : M.nDg (d.toNat : Int) = true <;> simp [this, hdd]
        obtain ⟨D, hD⟩ : ∃ C : Int, (d.toNat : Int) = C := ⟨_, rfl⟩
        have D0 : 0 ≤ D := by omega
        have D1 : D < 256 := by have := d.toNat_lt; omega
        rw [hD] at X2 hk2
        obtain ⟨q, hq⟩ : ∃ q, M.nDg D = q := ⟨_, rfl⟩
        rw [hq] at X2 hk2
        have c45 : (C == 45) = true := by rw [h45]; rfl
        clear hS hk hd hq h45
        cases q with
        | true =>
          obtain rfl : 2 = k := by simpa using hk2
          clear hk2
          go_enter Tryd.func38, Tryd.ntmps38
          go_wp2_with fail
          refine (X.out).mono ?_
          rintro e w' ⟨rfl, rfl⟩
          go_wp2_with fail
          refine (X2.out).mono ?_
          rintro e w' ⟨rfl, rfl⟩
          go_wp2
          go_ret
          exact ⟨rfl, rfl⟩
        | false =>
          obtain rfl : 0 = k := by simpa using hk2
          clear hk2
          go_enter Tryd.func38, Tryd.ntmps38
          go_wp2_with fail
          refine (X.out).mono ?_
          rintro e w' ⟨rfl, rfl⟩
          go_wp2_with fail
          refine (X2.out).mono ?_
          rintro e w' ⟨rfl, rfl⟩
          go_wp2
          go_ret
          exact ⟨rfl, rfl⟩
      · have c45 : (C == 45) = false := by rw [beq_eq_false_iff_ne]; exact h45
        obtain rfl : 0 = k := by
          rw [← hk]
          simp only [M.headN, hd]
          have : c.toNat ≠ 45 := by omega
          simp [this]
        clear hS hk hd h45
        go_enter Tryd.func38, Tryd.ntmps38
        go_wp2_with fail
        refine (X.out).mono ?_
        rintro e w' ⟨rfl, rfl⟩
        go_wp2
        go_ret
        exact ⟨rfl, rfl⟩
end Go.Proofs.YtkaojigdogeliaaDoor
