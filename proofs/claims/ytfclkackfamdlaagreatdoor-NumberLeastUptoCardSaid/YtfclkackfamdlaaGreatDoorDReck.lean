/- Decimals: the reference's sign, smaller, digit, reckon. -/
import Derived.Test.YtfclkackfamdlaaGreatDoorDRef
import Derived.Test.YtfclkackfamdlaaGreatDoorDMath6
import Derived.Deep.QuietTactic
import Derived.BigQuiet
import Derived.Outline
namespace Go.Proofs.YtfclkackfamdlaaGreatDoor
open Go.RowKit
set_option linter.unusedVariables false
set_option linter.unusedSimpArgs false

theorem below_drewN {B : Nat} {a w : World} (h : Below B a w) (n : Nat) : Below B a (w.drewN n) := ⟨h.os, h.tape, h.output, h.size, h.block⟩
set_option maxRecDepth 100000 in
set_option maxHeartbeats 1000000 in
theorem refsign_any (l : List UInt8) (p : Bool) (k : List UInt8) (w : World) (hne : l ≠ []) (hl : l.length ≤ 2000000) (hp : M.isNeg l = p) (hk : M.unsign l = k) :
    Calls Tryz.prog 25 #[.string (bytes l)] w fun e w' => e = .returned (.tuple #[.bool p, .string (bytes k)]) ∧ Below w.heap.size w w' := by
  cases l with
  | nil => exact absurd rfl hne
  | cons c t =>
    obtain ⟨S, hS⟩ : ∃ S, bytes (c :: t) = S := ⟨_, rfl⟩
    have hSs : S.size = (c :: t).length := by rw [← hS, bytes_size]
    have hpos : 0 < S.size := by rw [hSs]; simp
    have hS0 : ∀ h : 0 < S.size, S[0]'h = c := by intro h; subst hS; rfl
    have hS1 : S[0]'hpos = c := hS0 hpos
    have hlS : S.size ≤ 2000000 := by omega
    rw [hS]
    by_cases hc : c = 45
    · subst hc
      have htl := bytes_tail 45 t
      rw [hS] at htl
      have hu : M.unsign (45 :: t) = t := by simp [M.unsign]
      have hn : M.isNeg (45 :: t) = true := by simp [M.isNeg]
      rw [hu] at hk
      rw [hn] at hp
      subst hk hp
      have Htl := Lib.hid htl
      clear htl hu hn hS hS0 hSs hl hne
      go_enter Tryz.func25, Tryz.ntmps25
      go_wp2
      go_quiet (fail)
      go_wp2
      go_ret2
      exact ⟨by rw [← Htl.out]; rfl, below_drewN (Below.refl _ _) _⟩
    · have hu : M.unsign (c :: t) = c :: t := by simp [M.unsign, hc]
      have hn : M.isNeg (c :: t) = false := by simp [M.isNeg, hc]
      rw [hu] at hk
      rw [hn] at hp
      subst hk hp
      have hcn : c.toNat ≠ 45 := fun hh => hc (UInt8.toNat_inj.1 hh)
      have p2 : ((c.toNat : Int) == 45) = false := by rw [beq_eq_false_iff_ne]; omega
      have HS := Lib.hid hS
      clear hu hn hS hS0 hSs hl hne hcn hc
      go_enter Tryz.func25, Tryz.ntmps25
      go_wp2
      go_ret2
      exact ⟨by rw [HS.out]; rfl, Below.refl _ _⟩

set_option maxRecDepth 100000 in
set_option maxHeartbeats 1000000 in
theorem refsmall_any (x y : List UInt8) (r : Bool) (w : World) (hx : x.length ≤ 2000000) (hy : y.length ≤ 2000000) (hr : M.lessB x y = r) :
    Calls Tryz.prog 27 #[.string (bytes x), .string (bytes y)] w fun e w' => e = .returned (.bool r) ∧ w = w' := by
  obtain ⟨S, hS⟩ : ∃ S, bytes x = S := ⟨_, rfl⟩
  obtain ⟨T, hT⟩ : ∃ S, bytes y = S := ⟨_, rfl⟩
  have s1 : S.size = x.length := by rw [← hS, bytes_size]
  have s2 : T.size = y.length := by rw [← hT, bytes_size]
  have hl : Op.bytesLess S.toList T.toList = decide (x < y) := by rw [← hS, ← hT, toList_bytes, toList_bytes, dless_iff]
  rw [hS, hT]
  unfold M.lessB at hr
  by_cases h0 : x.length = y.length
  · rw [if_neg (by simp [h0])] at hr
    rw [hr] at hl
    have q1 : decide ((S.size : Int) < T.size) = false := by simp; omega
    have q3 : decide (S.size < T.size) = false := by simp; omega
    have q2 : ((S.size : Int) == T.size) = true := by simp; omega
    have hST : S.size = T.size := by omega
    have HST := Lib.hid hST
    clear hr hS hT s1 s2 h0 hST
    go_enter Tryz.func27, Tryz.ntmps27
    go_wp2
    go_ret
    exact ⟨rfl, rfl⟩
  · rw [if_pos h0] at hr
    by_cases hlt : x.length < y.length
    · have q1 : decide ((S.size : Int) < T.size) = true := by simp; omega
      have q3 : decide (S.size < T.size) = true := by simp; omega
      have : r = true := by rw [← hr]; simpa using hlt
      subst this
      clear hr hS hT s1 s2 h0 hl hlt
      go_enter Tryz.func27, Tryz.ntmps27
      go_wp2
      go_ret
      exact ⟨rfl, rfl⟩
    · have q1 : decide ((S.size : Int) < T.size) = false := by simp; omega
      have q3 : decide (S.size < T.size) = false := by simp; omega
      have q2 : ((S.size : Int) == T.size) = false := by simp; omega
      have : r = false := by rw [← hr]; simpa using hlt
      subst this
      clear hr hS hT s1 s2 h0 hl hlt
      go_enter Tryz.func27, Tryz.ntmps27
      go_wp2
      go_ret
      exact ⟨rfl, rfl⟩

theorem refdgt_any (l : List UInt8) (i r : Nat) (w : World) (hl : l.length ≤ 2000000) (hd : ∀ c ∈ l, M.dig c = true) (hr : M.dat l i = r) :
    Calls Tryz.prog 45 #[.string (bytes l), .int .i64 (i : Int)] w fun e w' => e = .returned (.int .i64 (r : Int)) ∧ w = w' := by
  have hsz := bytes_size l
  unfold M.dat at hr
  by_cases h : i < l.length
  · rw [if_pos h] at hr
    have hk : l.length - 1 - i < l.length := by omega
    have hc := (M.dig_iff _).1 (hd _ (List.getElem_mem hk))
    simp only [List.getD, List.getElem?_eq_getElem hk, Option.getD_some] at hr
    obtain ⟨s, hs⟩ : ∃ s, bytes l = s := ⟨_, rfl⟩
    rw [hs] at hsz
    have hget : ∀ (k : Nat) (hk2 : k < s.size), k = l.length - 1 - i → s[k].toNat = (l[l.length - 1 - i]'hk).toNat := by
      intro k hk2 hk3
      subst hk3
      subst hs
      rfl
    rw [hs]
    have i1 : (0 : Int) ≤ (s.size : Int) - 1 - i := by omega
    have i2 : (s.size : Int) - 1 - i < s.size := by omega
    have i3 : s.size ≤ 2000000 := by omega
    have i4 : (i : Int) < s.size := by omega
    have i5 : ((s.size : Int) - 1 - i).toNat = l.length - 1 - i := by omega
    have i6 : i ≤ 2000000 := by omega
    go_enter Tryz.func45, Tryz.ntmps45
    go_wp2
    go_ret
    exact ⟨ret_i (by omega), rfl⟩
  · rw [if_neg h] at hr
    subst hr
    obtain ⟨s, hs⟩ : ∃ s, bytes l = s := ⟨_, rfl⟩
    rw [hs] at hsz ⊢
    have i4 : (s.size : Int) ≤ i := by omega
    clear h hs
    go_enter Tryz.func45, Tryz.ntmps45
    go_wp2
    go_ret
    exact ⟨rfl, rfl⟩
end Go.Proofs.YtfclkackfamdlaaGreatDoor
