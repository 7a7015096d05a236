/- Texts of ours in one: NUnsc. -/
import Derived.Test.YtbfnlgmhfhaglaaGreatDoorQl17
/- Numbers: a number's text without a power. -/
namespace Go.Proofs.YtbfnlgmhfhaglaaGreatDoor
open Go.RowKit
set_option linter.unusedVariables false
set_option linter.unusedSimpArgs false

set_option maxRecDepth 100000 in
set_option maxHeartbeats 4000000 in
theorem unsc_any (d r : List UInt8) (x : Int) (w : World) (hl : d.length ≤ 100000) (hd : d ≠ []) (x1 : -1000000 ≤ x) (x2 : x ≤ 1000000) (hr : M.unsc d x = r) :
    Calls Tryz.prog 130 #[.string (bytes d), .int .i64 x] w fun e w' => e = .returned (.string (bytes r)) ∧ Below w.heap.size w w' := by
  have hsz := bytes_size d
  have hpos := List.length_pos_iff.2 hd
  obtain ⟨L, hL⟩ : ∃ L, d.length = L := ⟨_, rfl⟩
  rw [hL] at hsz hl hpos
  unfold M.unsc at hr
  rw [hL] at hr
  by_cases c1 : 0 ≤ x ∧ x ≤ 20
  · rw [if_pos c1] at hr
    obtain ⟨n, rfl⟩ : ∃ n : Nat, x = n := ⟨x.toNat, by omega⟩
    rw [show ((n : Nat) : Int).toNat = n by omega] at hr
    have hn : n ≤ 20 := by omega
    have P := Lib.hid (fun w => repeat_any n w (by omega))
    have a1 := cat_run d (List.replicate n 48) r hr (by omega) (by simp; omega)
    obtain ⟨SD, hSD⟩ : ∃ S, bytes d = S := ⟨_, rfl⟩
    obtain ⟨SZ, hSZ⟩ : ∃ S, bytes (List.replicate n 48) = S := ⟨_, rfl⟩
    obtain ⟨SR, hSR⟩ : ∃ S, bytes r = S := ⟨_, rfl⟩
    rw [hSD, hSZ, hSR] at a1
    rw [hSZ] at P
    rw [hSD] at hsz
    rw [hSD, hSR]
    have q : (n : Int) ≤ 20 := by omega
    have z : SD.size ≤ 100000 := by omega
    clear hSD hSZ hSR hr c1 hL hd hsz hpos
    go_enter Tryz.func130, Tryz.ntmps130
    go_wp2_with fail
    refine (P.out _).mono ?_
    rintro e w1 ⟨rfl, hb1⟩
    go_wp2
    go_ret
    exact ⟨rfl, hb1⟩
  · rw [if_neg c1] at hr
    by_cases c2 : x < 0 ∧ 0 < (L : Int) + x
    · rw [if_pos c2] at hr
      obtain ⟨k, hk⟩ : ∃ k : Nat, ((L : Int) + x).toNat = k := ⟨_, rfl⟩
      rw [hk] at hr
      have e1 := ext_to d k
      have e2 := ext_from d k
      have a1 := cat_run (d.take k) [46] _ rfl (by simp; omega) (by simp)
      have a2 := cat_run (d.take k ++ [46]) (d.drop k) r (by rw [← hr]; simp) (by simp; omega) (by simp; omega)
      rw [← e1] at a1
      rw [← e2] at a2
      rw [show bytes [46] = (⟨#[46]⟩ : ByteArray) from rfl] at a1
      obtain ⟨SD, hSD⟩ : ∃ S, bytes d = S := ⟨_, rfl⟩
      obtain ⟨SQ, hSQ⟩ : ∃ S, bytes (d.take k ++ [46]) = S := ⟨_, rfl⟩
      obtain ⟨SR, hSR⟩ : ∃ S, bytes r = S := ⟨_, rfl⟩
      rw [hSD, hSQ] at a1
      rw [hSD, hSQ, hSR, hL] at a2
      rw [hSD] at hsz
      rw [hSD, hSR]
      rw [← hk, ← hsz] at a1 a2
      have z : SD.size ≤ 100000 := by omega
      have q1 : x < 0 := c2.1
      have q2 : 0 < (SD.size : Int) + x := by omega
      clear hSD hSQ hSR hr c1 c2 hL hd e1 e2 hk hsz hpos hl
      go_enter Tryz.func130, Tryz.ntmps130
      have q3 : (0 : Int) ≤ (SD.size : Int) + x := by omega
      have q4 : (SD.size : Int) + x ≤ SD.size := by omega
      go_wp2
      go_quiet (fail)
      go_wp2
      go_ret
      exact ⟨rfl, by first | exact Below.refl _ _ | exact below_drewN (Below.refl _ _) _⟩
    · rw [if_neg c2] at hr
      by_cases c3 : (L : Int) + x ≤ 0 ∧ -20 ≤ (L : Int) + x
      · rw [if_pos c3] at hr
        obtain ⟨n, hn⟩ : ∃ n : Nat, (n : Int) = -((L : Int) + x) := ⟨(-((L : Int) + x)).toNat, by omega⟩
        rw [show (-((L : Int) + x)).toNat = n by omega] at hr
        have hn2 : n ≤ 20 := by omega
        have P := Lib.hid (fun w => repeat_any n w (by omega))
        have a1 := cat_run [48, 46] (List.replicate n 48) _ rfl (by simp) (by simp; omega)
        have a2 := cat_run ([48, 46] ++ List.replicate n 48) d r (by rw [← hr]; simp) (by simp; omega) (by omega)
        rw [show bytes [48, 46] = (⟨#[48, 46]⟩ : ByteArray) from rfl] at a1
        obtain ⟨SD, hSD⟩ : ∃ S, bytes d = S := ⟨_, rfl⟩
        obtain ⟨SQ, hSQ⟩ : ∃ S, bytes ([48, 46] ++ List.replicate n 48) = S := ⟨_, rfl⟩
        obtain ⟨SZ, hSZ⟩ : ∃ S, bytes (List.replicate n 48) = S := ⟨_, rfl⟩
        obtain ⟨SR, hSR⟩ : ∃ S, bytes r = S := ⟨_, rfl⟩
        rw [hSZ, hSQ] at a1
        rw [hSQ, hSD, hSR] at a2
        rw [hSZ, hn, ← hsz, hSD] at P
        rw [hSD] at hsz
        rw [hSD, hSR]
        have z : SD.size ≤ 100000 := by omega
        have q1 : x < 0 := by omega
        have q2 : (SD.size : Int) + x ≤ 0 := by omega
        have q3 : -20 ≤ (SD.size : Int) + x := by omega
        clear hSD hSQ hSZ hSR hr c1 c2 c3 hL hd hn hn2 hsz hpos hl
        go_enter Tryz.func130, Tryz.ntmps130
        go_wp2_with fail
        refine (P.out _).mono ?_
        rintro e w1 ⟨rfl, hb1⟩
        go_wp2
        go_ret
        exact ⟨rfl, hb1⟩
      · rw [if_neg c3] at hr
        subst hr
        obtain ⟨SD, hSD⟩ : ∃ S, bytes d = S := ⟨_, rfl⟩
        rw [hSD] at hsz
        rw [hSD]
        have z : SD.size ≤ 100000 := by omega
        have q : (20 < x) ∨ (x < 0 ∧ (SD.size : Int) + x < -20) := by omega
        clear hSD c1 c2 c3 hL hd hsz hl
        rcases q with q | ⟨q1, q2⟩
        · have q3 : 0 < (SD.size : Int) + x := by omega
          go_enter Tryz.func130, Tryz.ntmps130
          go_wp2
          go_ret
          exact ⟨rfl, Below.refl _ _⟩
        · go_enter Tryz.func130, Tryz.ntmps130
          go_wp2
          go_ret
          exact ⟨rfl, Below.refl _ _⟩
end Go.Proofs.YtbfnlgmhfhaglaaGreatDoor
