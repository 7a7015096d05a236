/- Decimals: what the functions of package decimal return that read texts alone. -/
import Derived.Test.YtpecaalpbeoolaaGreatDoorMgB
import Derived.Test.YtpecaalpbeoolaaGreatDoorMgD
import Derived.Test.YtpecaalpbeoolaaGreatDoorShelf
import Derived.WalkLawsBesides
namespace Go.Proofs.YtpecaalpbeoolaaGreatDoor
open Go.RowKit
set_option linter.unusedVariables false

theorem bytes_data (l : List UInt8) : (bytes l).data = l.toArray := rfl
theorem bytes_of (s : ByteArray) : bytes s.data.toList = s := by
  unfold bytes; cases s; simp
theorem bytes_inj {k l : List UInt8} (h : bytes k = bytes l) : k = l := by
  have := congrArg (fun s : ByteArray => s.data.toList) h
  simpa [bytes] using this
theorem ret_i {k : IntKind} {a b : Int} (h : a = b) : Ending.returned (.int k a) = .returned (.int k b) := by rw [h]
theorem dgt_any (l : List UInt8) (i r : Nat) (w : World) (hl : l.length ≤ 1048576) (hd : ∀ c ∈ l, M.dig c = true) (hr : M.dat l i = r) :
    Calls Tryz.prog 143 #[.string (bytes l), .int .i64 (i : Int)] w fun e w' => e = .returned (.int .i64 (r : Int)) ∧ w = w' := by
  have hsz := bytes_size l
  unfold M.dat at hr
  by_cases h : i < l.length
  · rw [if_pos h] at hr
    have hk : l.length - 1 - i < l.length := by omega
    have hc := (M.dig_iff _).1 (hd _ (List.getElem_mem hk))
    simp only [List.getD, List.getElem?_eq_getElem hk, Option.getD_some] at hr
    obtain ⟨s, hs⟩ : ∃ s, bytes l = s := ⟨_, rfl⟩
    rw [hs] at hsz
    have hget : ∀ (k : Nat) (hk2 : k < s.size), k = l.length - 1 - i → s[k].toNat = (l[l.length - 1 - i]'hk).toNat := by
      intro k hk2 hk3
      subst hk3
      subst hs
      rfl
    rw [hs]
    have i1 : (0 : Int) ≤ (s.size : Int) - 1 - i := by omega
    have i2 : (s.size : Int) - 1 - i < s.size := by omega
    have i3 : s.size ≤ 1048576 := by omega
    have i4 : (i : Int) < s.size := by omega
    have i5 : ((s.size : Int) - 1 - i).toNat = l.length - 1 - i := by omega
    have i6 : i ≤ 1048576 := by omega
    go_enter Tryz.func143, Tryz.ntmps143
    go_wp2
    go_ret
    exact ⟨ret_i (by omega), rfl⟩
  · rw [if_neg h] at hr
    subst hr
    obtain ⟨s, hs⟩ : ∃ s, bytes l = s := ⟨_, rfl⟩
    rw [hs] at hsz ⊢
    have i4 : (s.size : Int) ≤ i := by omega
    clear h hs
    go_enter Tryz.func143, Tryz.ntmps143
    go_wp2
    go_ret
    exact ⟨rfl, rfl⟩

theorem hasPre_minus (l : List UInt8) : Lib.hasPrefix l [45] = M.isNeg l := by
  unfold M.isNeg Lib.hasPrefix
  cases l with
  | nil => decide
  | cons c t => rw [Bool.eq_iff_iff]; simp [List.isPrefixOf]; exact ⟨Eq.symm, Eq.symm⟩
theorem isneg_any (l : List UInt8) (r : Bool) (w : World) (hr : M.isNeg l = r) :
    Calls Tryz.prog 132 #[.string (bytes l)] w fun e w' => e = .returned (.bool r) ∧ w = w' := by
  have hc := Tryz.strings_HasPrefix (bytes l) ⟨#[45]⟩ w
  rw [bytes_list, show (ByteArray.mk #[45]).data.toList = [45] from rfl, hasPre_minus, hr] at hc
  have Hc := Lib.hid hc
  clear hc hr
  go_enter Tryz.func132, Tryz.ntmps132
  go_wp2_with fail
  refine Hc.out.mono ?_
  rintro e w' ⟨rfl, rfl⟩
  go_wp2
  go_ret
  exact ⟨rfl, rfl⟩
theorem trimPre_minus (l : List UInt8) : Lib.trimPrefix l [45] = M.unsign l := by
  unfold Lib.trimPrefix M.unsign
  rw [hasPre_minus]
  unfold M.isNeg
  cases l with
  | nil => rfl
  | cons c t => by_cases h : c = 45 <;> simp [h]
theorem unsign_any (l k : List UInt8) (w : World) (hr : M.unsign l = k) :
    Calls Tryz.prog 131 #[.string (bytes l)] w fun e w' => e = .returned (.string (bytes k)) ∧ w = w' := by
  have hc := Tryz.strings_TrimPrefix (bytes l) ⟨#[45]⟩ w
  rw [bytes_list, show (ByteArray.mk #[45]).data.toList = [45] from rfl, trimPre_minus, hr] at hc
  have hc2 : Calls Tryz.prog 125 #[.string (bytes l), .string ⟨#[45]⟩] w fun e w' => e = .returned (.string (bytes k)) ∧ w' = w := hc
  have Hc := Lib.hid hc2
  clear hc hc2 hr
  go_enter Tryz.func131, Tryz.ntmps131
  go_wp2_with fail
  refine Hc.out.mono ?_
  rintro e w' ⟨rfl, rfl⟩
  go_wp2
  go_ret
  exact ⟨rfl, rfl⟩
theorem alldig_any (l : List UInt8) (r : Bool) (w : World) (hl : l.length ≤ 1048576) (hr : l.all M.dig = r) :
    Calls Tryz.prog 142 #[.string (bytes l)] w fun e w' => e = .returned (.bool r) ∧ w = w' := by
  have hsz := bytes_size l
  obtain ⟨s, hs⟩ : ∃ s, bytes l = s := ⟨_, rfl⟩
  rw [hs] at hsz ⊢
  have hget : ∀ (k : Nat) (hk : k < s.size) (hk2 : k < l.length), s[k] = l[k] := by
    intro k hk hk2
    subst hs
    rfl
  have Hr := Lib.hid hr
  have Hget := Lib.hid hget
  have Hsz := Lib.hid hsz
  have hs1 : s.size ≤ 1048576 := by omega
  clear hr hget hs hsz
  go_enter Tryz.func142, Tryz.ntmps142
  go_wp2
  go_loop [3, 6] (fun _ iv => ∃ k : Nat, iv = .int .i64 k ∧ k ≤ s.size ∧ (l.take k).all M.dig = true) (fun _ iv => s.size - (intOf iv).toNat)
  case atStart => exact ⟨0, rfl, by omega, rfl⟩
  case round =>
    obtain ⟨k, rfl, hk, ht⟩ := hrel
    have Ht := Lib.hid ht
    clear ht
    by_cases hlt : k < s.size
    · have hk2 : k < l.length := by rw [← Hsz.out]; exact hlt
      have hsk := Hget.out k hlt hk2
      obtain ⟨c, hc⟩ : ∃ c, l[k] = c := ⟨_, rfl⟩
      rw [hc] at hsk
      have hnext : (l.take (k + 1)).all M.dig = M.dig c := by
        rw [List.take_succ_eq_append_getElem hk2, List.all_append, Ht.out, hc]; simp
      have hbad : M.dig c = false → r = false := by
        intro hd
        rw [← Hr.out]
        cases hh : l.all M.dig with
        | false => rfl
        | true =>
          rw [List.all_eq_true] at hh
          have := hh c (by rw [← hc]; exact List.getElem_mem hk2)
          rw [hd] at this; exact absurd this (by simp)
      have hdc := M.dig_iff c
      have Hnext := Lib.hid hnext
      have Hbad := Lib.hid hbad
      have Hsk := Lib.hid hsk
      by_cases hd : M.dig c = true
      · have ⟨c1, c2⟩ := hdc.1 hd
        have q1 : decide ((c.toNat : Int) < 48) = false := by simp; omega
        have q2 : decide (57 < (c.toNat : Int)) = false := by simp; omega
        have Hd := Lib.hid hd
        clear hd hdc hbad hnext hc
        go_wp2
        go_round
        case rel => exact ⟨k + 1, by go_num, by omega, by rw [Hnext.out]; exact Hd.out⟩
        case measure => simp [intOf]; omega
      · have hd' : M.dig c = false := by simpa using hd
        have hr2 := Hbad.out hd'
        subst hr2
        have hcc : c.toNat < 48 ∨ (48 ≤ c.toNat ∧ 57 < c.toNat) := by
          rw [hdc] at hd; omega
        clear hd hd' hdc hbad hnext hc
        rcases hcc with c1 | ⟨c1, c2⟩
        all_goals
          go_wp2
          go_ret
          exact ⟨rfl, rfl⟩
    · obtain rfl : k = s.size := by omega
      have hr2 := Hr.out
      have := Ht.out
      rw [Hsz.out, List.take_length] at this
      rw [this] at hr2
      subst hr2
      clear hlt this
      go_wp2
      go_ret
      exact ⟨rfl, rfl⟩
end Go.Proofs.YtpecaalpbeoolaaGreatDoor
