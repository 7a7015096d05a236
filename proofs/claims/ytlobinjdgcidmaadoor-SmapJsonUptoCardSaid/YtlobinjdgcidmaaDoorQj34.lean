/- Texts of ours in one: JgR. -/
import Derived.Test.YtlobinjdgcidmaaDoorQj05
import Derived.Test.YtlobinjdgcidmaaDoorQj00
import Derived.Deep.QuietTactic
import Derived.BigQuiet
import Derived.Outline
import Derived.Test.YtlobinjdgcidmaaDoorQj08
import Derived.Test.YtlobinjdgcidmaaDoorQj10
import Derived.Deep.DeepCutAuto
/- Several texts of ours in one: DRef DReck DReck2 DDec DRAdd NRRight NRRun NRNum0. -/
/- Decimals: the reference's own words: digits, RightDecimal. -/
namespace Go.Proofs.YtlobinjdgcidmaaDoor
open Go.RowKit
set_option linter.unusedVariables false
set_option linter.unusedSimpArgs false

theorem refdig_any (l : List UInt8) (r : Bool) (w : World) (hl : l.length ≤ 2000000) (hr : (!l.isEmpty && l.all M.dig) = r) :
    Calls Tryd.prog 80 #[.string (bytes l)] w fun e w' => e = .returned (.bool r) ∧ w = w' := by
  have hsz := bytes_size l
  obtain ⟨s, hs⟩ : ∃ s, bytes l = s := ⟨_, rfl⟩
  have hsl : s.toList = l := by rw [← hs, toList_bytes]
  rw [hs] at hsz ⊢
  have hget : ∀ (k : Nat) (hk : k < s.size) (hk2 : k < l.length), s[k] = l[k] := by
    intro k hk hk2
    subst hs
    rfl
  have Hr := Lib.hid hr
  have Hget := Lib.hid hget
  have Hsz := Lib.hid hsz
  have Hsl := Lib.hid hsl
  have hs1 : s.size ≤ 2000000 := by omega
  clear hr hget hs hsz hsl
  go_enter Tryd.func80, Tryd.ntmps80
  go_wp2
  go_loop [3] (fun iv => ∃ k : Nat, iv = .int .i64 k ∧ k ≤ s.size ∧ (l.take k).all M.dig = true) (fun iv => s.size - (intOf iv).toNat)
  case atStart => exact ⟨0, rfl, by omega, rfl⟩
  case round =>
    obtain ⟨k, rfl, hk, ht⟩ := hrel
    have Ht := Lib.hid ht
    clear ht
    by_cases hlt : k < s.size
    · have hk2 : k < l.length := by rw [← Hsz.out]; exact hlt
      have hsk := Hget.out k hlt hk2
      obtain ⟨c, hc⟩ : ∃ c, l[k] = c := ⟨_, rfl⟩
      rw [hc] at hsk
      have hnext : (l.take (k + 1)).all M.dig = M.dig c := by
        rw [List.take_succ_eq_append_getElem hk2, List.all_append, Ht.out, hc]; simp
      have hbad : M.dig c = false → r = false := by
        intro hd
        rw [← Hr.out]
        cases hh : l.all M.dig with
        | false => simp
        | true =>
          rw [List.all_eq_true] at hh
          have := hh c (by rw [← hc]; exact List.getElem_mem hk2)
          rw [hd] at this; exact absurd this (by simp)
      have hdc := M.dig_iff c
      have Hnext := Lib.hid hnext
      have Hbad := Lib.hid hbad
      have Hsk := Lib.hid hsk
      by_cases hd : M.dig c = true
      · have ⟨c1, c2⟩ := hdc.1 hd
        have q1 : decide ((c.toNat : Int) < 48) = false := by simp; omega
        have q2 : decide (57 < (c.toNat : Int)) = false := by simp; omega
        have Hd := Lib.hid hd
        clear hd hdc hbad hnext hc
        go_wp2
        go_round
        case rel => exact ⟨k + 1, by go_num, by omega, by rw [Hnext.out]; exact Hd.out⟩
        case measure => simp [intOf]; omega
      · have hd' : M.dig c = false := by simpa using hd
        have hr2 := Hbad.out hd'
        subst hr2
        have hcc : c.toNat < 48 ∨ (48 ≤ c.toNat ∧ 57 < c.toNat) := by
          rw [hdc] at hd; omega
        clear hd hd' hdc hbad hnext hc
        rcases hcc with c1 | ⟨c1, c2⟩
        all_goals
          go_wp2
          go_ret
          exact ⟨rfl, rfl⟩
    · obtain rfl : k = s.size := by omega
      have hr2 := Hr.out
      have := Ht.out
      rw [Hsz.out, List.take_length] at this
      rw [this, Bool.and_true] at hr2
      have hsl := Hsl.out
      subst hr2
      clear hlt this
      go_wp2
      go_ret
      exact ⟨rfl, rfl⟩

theorem bytes_tail (c : UInt8) (t : List UInt8) : (bytes (c :: t)).extract 1 (bytes (c :: t)).size = bytes t := by
  apply ByteArray.ext
  rw [ByteArray.data_extract, bytes_data, bytes_data, bytes_size]
  simp

set_option maxRecDepth 100000 in
set_option maxHeartbeats 2000000 in
theorem refright_any (l : List UInt8) (r : Bool) (w : World) (hl : l.length ≤ 2000000) (hr : M.rightD l = r) :
    Calls Tryd.prog 74 #[.string (bytes l)] w fun e w' => e = .returned (.bool r) ∧ w = w' := by
  obtain ⟨S, hS⟩ : ∃ S, bytes l = S := ⟨_, rfl⟩
  have hSl : S.toList = l := by rw [← hS, toList_bytes]
  have hSs : S.size = l.length := by rw [← hS, bytes_size]
  rw [hS]
  by_cases h0 : l = [48]
  · subst h0
    have : r = true := by rw [← hr]; rfl
    subst this
    clear hr hl hS hSs
    go_enter Tryd.func74, Tryd.ntmps74
    go_wp2
    go_ret
    exact ⟨rfl, rfl⟩
  · have n0 : (S.toList == [48]) = false := by rw [hSl]; simpa using h0
    cases l with
    | nil =>
      have : r = false := by rw [← hr]; rfl
      subst this
      have d1 := fun W => refdig_any [] false W (by simp) rfl
      rw [hS] at d1
      have D1 := Lib.hid d1
      have hS0 : S.size = 0 := hSs
      have n1 : ¬ (0 < S.size) := by omega
      clear hr hl h0 hS hSl d1 hSs
      go_enter Tryd.func74, Tryd.ntmps74
      go_wp2_with fail
      refine (D1.out _).mono ?_
      rintro e w' ⟨rfl, rfl⟩
      go_wp2
      go_ret
      exact ⟨rfl, rfl⟩
    | cons c t =>
      have hpos : 0 < S.size := by rw [hSs]; simp
      have hS0 : ∀ h : 0 < S.size, S[0]'h = c := by intro h; subst hS; rfl
      have hS1 := hS0 hpos
      by_cases hc : c = 45
      · subst hc
        have htl := bytes_tail 45 t
        rw [hS] at htl
        obtain ⟨T, hT⟩ : ∃ T, bytes t = T := ⟨_, rfl⟩
        rw [hT] at htl
        have Htl := Lib.hid htl
        clear htl
        have hu : M.unsign (45 :: t) = t := by simp [M.unsign]
        unfold M.rightD at hr
        rw [hu, show ((45 :: t : List UInt8) == [48]) = false by simp, Bool.false_or] at hr
        clear hu
        cases hdd : (!t.isEmpty && t.all M.dig) with
        | false =>
          have : r = false := by
            rw [← hr]
            revert hdd
            cases t.isEmpty <;> cases t.all M.dig <;> simp
          subst this
          have d1 := fun W => refdig_any t false W (by simp at hl ⊢; omega) hdd
          rw [hT] at d1
          have D1 := Lib.hid d1
          clear hr hl h0 hS hSl d1 hSs hS0 hdd hT
          go_enter Tryd.func74, Tryd.ntmps74
          go_wp2_with fail
          rw [Htl.out]
          refine (D1.out _).mono ?_
          rintro e w' ⟨rfl, rfl⟩
          go_wp2
          go_ret
          exact ⟨rfl, rfl⟩
        | true =>
          cases t with
          | nil => simp at hdd
          | cons d u =>
            have hpx : 0 < T.size := by rw [← hT, bytes_size]; simp
            have hx0 : ∀ h : 0 < T.size, T[0]'h = d := by intro h; subst hT; rfl
            have hx1 := hx0 hpx
            have hall : (d :: u).all M.dig = true := by revert hdd; simp
            have hrr : r = !(decide (d = 48)) := by
              rw [← hr, hall]
              by_cases hd : d = 48 <;> simp [hd]
            have d1 := fun W => refdig_any (d :: u) true W (by simp at hl ⊢; omega) hdd
            rw [hT] at d1
            have D1 := Lib.hid d1
            by_cases hd : d = 48
            · subst hd
              have : r = false := by rw [hrr]; simp
              subst this
              clear hr hl h0 hS hSl d1 hSs hS0 hdd hT hx0 hall hrr
              go_enter Tryd.func74, Tryd.ntmps74
              go_wp2_with fail
              rw [Htl.out]
              refine (D1.out _).mono ?_
              rintro e w' ⟨rfl, rfl⟩
              go_wp2
              go_ret
              exact ⟨by simp, rfl⟩
            · have : r = true := by rw [hrr]; simp [hd]
              subst this
              have dn : d.toNat ≠ 48 := fun hh => hd (UInt8.toNat_inj.1 hh)
              have q2 : ((d.toNat : Int) == 48) = false := by rw [beq_eq_false_iff_ne]; omega
              have q3 : ((d.toNat : Int) != 48) = true := by simp [bne, q2]
              clear hr hl h0 hS hSl d1 hSs hS0 hdd hT hx0 hall hrr hd dn
              go_enter Tryd.func74, Tryd.ntmps74
              go_wp2_with fail
              rw [Htl.out]
              refine (D1.out _).mono ?_
              rintro e w' ⟨rfl, rfl⟩
              go_wp2
              go_ret
              exact ⟨by simp [q3], rfl⟩
      · have hu : M.unsign (c :: t) = c :: t := by simp [M.unsign, hc]
        have hcn : c.toNat ≠ 45 := fun hh => hc (UInt8.toNat_inj.1 hh)
        have p2 : ((c.toNat : Int) == 45) = false := by rw [beq_eq_false_iff_ne]; omega
        unfold M.rightD at hr
        rw [hu, show ((c :: t) == [48]) = false by simpa using h0, Bool.false_or] at hr
        clear hu hcn
        have hZ := hS
        obtain ⟨z, hz⟩ : ∃ z, c :: t = z := ⟨_, rfl⟩
        rw [hz] at hr hl hZ hS hSl hSs h0
        cases hdd : (!z.isEmpty && z.all M.dig) with
        | false =>
          have : r = false := by
            rw [← hr]
            revert hdd
            cases z.isEmpty <;> cases z.all M.dig <;> simp
          subst this
          have d1 := fun W => refdig_any z false W hl hdd
          rw [hZ] at d1
          have D1 := Lib.hid d1
          clear hr hl h0 hS hSl d1 hSs hS0 hdd hZ hz
          go_enter Tryd.func74, Tryd.ntmps74
          go_wp2_with fail
          refine (D1.out _).mono ?_
          rintro e w' ⟨rfl, rfl⟩
          go_wp2
          go_ret
          exact ⟨rfl, rfl⟩
        | true =>
          cases z with
          | nil => simp at hdd
          | cons d u =>
            have hpx : 0 < S.size := by rw [← hZ, bytes_size]; simp
            have hx0 : ∀ h : 0 < S.size, S[0]'h = d := by intro h; subst hZ; rfl
            have hx1 := hx0 hpx
            have hall : (d :: u).all M.dig = true := by revert hdd; simp
            have hrr : r = !(decide (d = 48)) := by
              rw [← hr, hall]
              by_cases hd : d = 48 <;> simp [hd]
            have d1 := fun W => refdig_any (d :: u) true W (by simp at hl ⊢; omega) hdd
            rw [hZ] at d1
            have D1 := Lib.hid d1
            by_cases hd : d = 48
            · subst hd
              have : r = false := by rw [hrr]; simp
              subst this
              clear hr hl h0 hS hSl d1 hSs hS0 hdd hZ hx0 hall hrr hz
              go_enter Tryd.func74, Tryd.ntmps74
              go_wp2_with fail
              refine (D1.out _).mono ?_
              rintro e w' ⟨rfl, rfl⟩
              go_wp2
              go_ret
              exact ⟨by have hcd := hS1.symm.trans hx1; simp [hcd], rfl⟩
            · have : r = true := by rw [hrr]; simp [hd]
              subst this
              have dn : d.toNat ≠ 48 := fun hh => hd (UInt8.toNat_inj.1 hh)
              have q2 : ((d.toNat : Int) == 48) = false := by rw [beq_eq_false_iff_ne]; omega
              have q3 : ((d.toNat : Int) != 48) = true := by simp [bne, q2]
              clear hr hl h0 hS hSl d1 hSs hS0 hdd hZ hx0 hall hrr hd dn hz
              go_enter Tryd.func74, Tryd.ntmps74
              go_wp2_with fail
              refine (D1.out _).mono ?_
              rintro e w' ⟨rfl, rfl⟩
              go_wp2
              go_ret
              exact ⟨by have hcd := hS1.symm.trans hx1; simp [hcd, q3], rfl⟩
end Go.Proofs.YtlobinjdgcidmaaDoor

/- Decimals: the reference's sign, smaller, digit, reckon. -/
namespace Go.Proofs.YtlobinjdgcidmaaDoor
open Go.RowKit
set_option linter.unusedVariables false
set_option linter.unusedSimpArgs false

set_option maxRecDepth 100000 in
set_option maxHeartbeats 1000000 in
theorem refsign_any (l : List UInt8) (p : Bool) (k : List UInt8) (w : World) (hne : l ≠ []) (hl : l.length ≤ 2000000) (hp : M.isNeg l = p) (hk : M.unsign l = k) :
    Calls Tryd.prog 75 #[.string (bytes l)] w fun e w' => e = .returned (.tuple #[.bool p, .string (bytes k)]) ∧ Below w.heap.size w w' := by
  cases l with
  | nil => exact absurd rfl hne
  | cons c t =>
    obtain ⟨S, hS⟩ : ∃ S, bytes (c :: t) = S := ⟨_, rfl⟩
    have hSs : S.size = (c :: t).length := by rw [← hS, bytes_size]
    have hpos : 0 < S.size := by rw [hSs]; simp
    have hS0 : ∀ h : 0 < S.size, S[0]'h = c := by intro h; subst hS; rfl
    have hS1 : S[0]'hpos = c := hS0 hpos
    have hlS : S.size ≤ 2000000 := by omega
    rw [hS]
    by_cases hc : c = 45
    · subst hc
      have htl := bytes_tail 45 t
      rw [hS] at htl
      have hu : M.unsign (45 :: t) = t := by simp [M.unsign]
      have hn : M.isNeg (45 :: t) = true := by simp [M.isNeg]
      rw [hu] at hk
      rw [hn] at hp
      subst hk hp
      have Htl := Lib.hid htl
      clear htl hu hn hS hS0 hSs hl hne
      go_enter Tryd.func75, Tryd.ntmps75
      go_wp2
      go_quiet (fail)
      go_wp2
      go_ret2
      exact ⟨by rw [← Htl.out]; rfl, below_drewN (Below.refl _ _) _⟩
    · have hu : M.unsign (c :: t) = c :: t := by simp [M.unsign, hc]
      have hn : M.isNeg (c :: t) = false := by simp [M.isNeg, hc]
      rw [hu] at hk
      rw [hn] at hp
      subst hk hp
      have hcn : c.toNat ≠ 45 := fun hh => hc (UInt8.toNat_inj.1 hh)
      have p2 : ((c.toNat : Int) == 45) = false := by rw [beq_eq_false_iff_ne]; omega
      have HS := Lib.hid hS
      clear hu hn hS hS0 hSs hl hne hcn hc
      go_enter Tryd.func75, Tryd.ntmps75
      go_wp2
      go_ret2
      exact ⟨by rw [HS.out]; rfl, Below.refl _ _⟩

set_option maxRecDepth 100000 in
set_option maxHeartbeats 1000000 in
theorem refsmall_any (x y : List UInt8) (r : Bool) (w : World) (hx : x.length ≤ 2000000) (hy : y.length ≤ 2000000) (hr : M.lessB x y = r) :
    Calls Tryd.prog 77 #[.string (bytes x), .string (bytes y)] w fun e w' => e = .returned (.bool r) ∧ w = w' := by
  obtain ⟨S, hS⟩ : ∃ S, bytes x = S := ⟨_, rfl⟩
  obtain ⟨T, hT⟩ : ∃ S, bytes y = S := ⟨_, rfl⟩
  have s1 : S.size = x.length := by rw [← hS, bytes_size]
  have s2 : T.size = y.length := by rw [← hT, bytes_size]
  have hl : Op.bytesLess S.toList T.toList = decide (x < y) := by rw [← hS, ← hT, toList_bytes, toList_bytes, dless_iff]
  rw [hS, hT]
  unfold M.lessB at hr
  by_cases h0 : x.length = y.length
  · rw [if_neg (by simp [h0])] at hr
    rw [hr] at hl
    have q1 : decide ((S.size : Int) < T.size) = false := by simp; omega
    have q3 : decide (S.size < T.size) = false := by simp; omega
    have q2 : ((S.size : Int) == T.size) = true := by simp; omega
    have hST : S.size = T.size := by omega
    have HST := Lib.hid hST
    clear hr hS hT s1 s2 h0 hST
    go_enter Tryd.func77, Tryd.ntmps77
    go_wp2
    go_ret
    exact ⟨rfl, rfl⟩
  · rw [if_pos h0] at hr
    by_cases hlt : x.length < y.length
    · have q1 : decide ((S.size : Int) < T.size) = true := by simp; omega
      have q3 : decide (S.size < T.size) = true := by simp; omega
      have : r = true := by rw [← hr]; simpa using hlt
      subst this
      clear hr hS hT s1 s2 h0 hl hlt
      go_enter Tryd.func77, Tryd.ntmps77
      go_wp2
      go_ret
      exact ⟨rfl, rfl⟩
    · have q1 : decide ((S.size : Int) < T.size) = false := by simp; omega
      have q3 : decide (S.size < T.size) = false := by simp; omega
      have q2 : ((S.size : Int) == T.size) = false := by simp; omega
      have : r = false := by rw [← hr]; simpa using hlt
      subst this
      clear hr hS hT s1 s2 h0 hl hlt
      go_enter Tryd.func77, Tryd.ntmps77
      go_wp2
      go_ret
      exact ⟨rfl, rfl⟩

theorem refdgt_any (l : List UInt8) (i r : Nat) (w : World) (hl : l.length ≤ 2000000) (hd : ∀ c ∈ l, M.dig c = true) (hr : M.dat l i = r) :
    Calls Tryd.prog 81 #[.string (bytes l), .int .i64 (i : Int)] w fun e w' => e = .returned (.int .i64 (r : Int)) ∧ w = w' := by
  have hsz := bytes_size l
  unfold M.dat at hr
  by_cases h : i < l.length
  · rw [if_pos h] at hr
    have hk : l.length - 1 - i < l.length := by omega
    have hc := (M.dig_iff _).1 (hd _ (List.getElem_mem hk))
    simp only [List.getD, List.getElem?_eq_getElem hk, Option.getD_some] at hr
    obtain ⟨s, hs⟩ : ∃ s, bytes l = s := ⟨_, rfl⟩
    rw [hs] at hsz
    have hget : ∀ (k : Nat) (hk2 : k < s.size), k = l.length - 1 - i → s[k].toNat = (l[l.length - 1 - i]'hk).toNat := by
      intro k hk2 hk3
      subst hk3
      subst hs
      rfl
    rw [hs]
    have i1 : (0 : Int) ≤ (s.size : Int) - 1 - i := by omega
    have i2 : (s.size : Int) - 1 - i < s.size := by omega
    have i3 : s.size ≤ 2000000 := by omega
    have i4 : (i : Int) < s.size := by omega
    have i5 : ((s.size : Int) - 1 - i).toNat = l.length - 1 - i := by omega
    have i6 : i ≤ 2000000 := by omega
    go_enter Tryd.func81, Tryd.ntmps81
    go_wp2
    go_ret
    exact ⟨ret_i (by omega), rfl⟩
  · rw [if_neg h] at hr
    subst hr
    obtain ⟨s, hs⟩ : ∃ s, bytes l = s := ⟨_, rfl⟩
    rw [hs] at hsz ⊢
    have i4 : (s.size : Int) ≤ i := by omega
    clear h hs
    go_enter Tryd.func81, Tryd.ntmps81
    go_wp2
    go_ret
    exact ⟨rfl, rfl⟩
end Go.Proofs.YtlobinjdgcidmaaDoor

/- Decimals: the reference's reckon: two rows of digits together, or one less the other. -/
namespace Go.Proofs.YtlobinjdgcidmaaDoor
open Go.RowKit
set_option linter.unusedVariables false
set_option linter.unusedSimpArgs false

theorem take_rev_step (l : List UInt8) (n j : Nat) (hn : n ≤ l.length) (hj : j < n) : (l.take n).reverse.take (j + 1) = (l.take n).reverse.take j ++ [l[n - 1 - j]'(by omega)] := by
  rw [List.take_succ_eq_append_getElem (by simp; omega)]
  congr 2
  rw [List.getElem_reverse]
  simp only [List.length_take, List.getElem_take]
  congr 1
  omega

set_option maxRecDepth 1100000 in
set_option maxHeartbeats 4000000 in
theorem reck_sum (x y : List UInt8) (w : World) (hx : x.length ≤ 1100000) (hy : y.length ≤ 1100000) (hx0 : 0 < x.length) (dx : ∀ c ∈ x, M.dig c = true) (dy : ∀ c ∈ y, M.dig c = true) :
    Calls Tryd.prog 76 #[.string (bytes x), .string (bytes y), .bool false] w fun e w' => e = .returned (.string (bytes (M.decS (M.dval x + M.dval y)))) ∧ Below w.heap.size w w' := by
  have sx := bytes_size x
  have sy := bytes_size y
  have d1 := fun i r W h => refdgt_any x i r W (by omega) dx h
  have d2 := fun i r W h => refdgt_any y i r W (by omega) dy h
  obtain ⟨s, hs⟩ : ∃ s, bytes x = s := ⟨_, rfl⟩
  obtain ⟨t, ht⟩ : ∃ s, bytes y = s := ⟨_, rfl⟩
  rw [hs] at sx d1
  rw [ht] at sy d2
  rw [hs, ht]
  have hs1 : s.size ≤ 1100000 := by omega
  have ht1 : t.size ≤ 1100000 := by omega
  have hs0 : 0 < s.size := by omega
  obtain ⟨K, hK⟩ : ∃ K, max x.length y.length = K := ⟨_, rfl⟩
  have hK1 : s.size ≤ K ∧ t.size ≤ K ∧ K ≤ 1100000 ∧ (K = s.size ∨ K = t.size) := by omega
  have Sx := Lib.hid sx
  have Sy := Lib.hid sy
  have D1 := Lib.hid d1
  have D2 := Lib.hid d2
  have Dx := Lib.hid dx
  have Dy := Lib.hid dy
  have HK := Lib.hid hK1
  clear d1 d2 dx dy hs ht hK sx sy hK1
  go_enter Tryd.func76, Tryd.ntmps76
  go_wp2
  go_loopw [7, 8, 9, 10] (fun ov cv iv _ wr => ∃ (k carry : Nat) (l : List UInt8), iv = .int .i64 k ∧ cv = .int .i64 carry ∧ k ≤ K + 1 ∧ (k ≤ K ∨ carry = 0) ∧ M.Sum x y k l carry ∧ OwnB w.heap.size wr ov l ∧ Below w.heap.size w wr) (fun _ _ iv _ _ => K + 1 - (intOf iv).toNat)
  case atStart => exact ⟨0, 0, [], rfl, rfl, by omega, by omega, M.sum_start x y, World.ownsRow_nil _ _ _ _, Below.refl _ _⟩
  case round =>
    obtain ⟨k, carry, l, rfl, rfl, hk, hkc, hS, ho, hb⟩ := hrel
    have hc1 := hS.2.2.1
    have hll := hS.1
    have HS := Lib.hid hS
    have hsz := hb.size
    clear hS
    by_cases hgo : k < s.size ∨ k < t.size ∨ 0 < carry
    · obtain ⟨p, hp⟩ : ∃ p, M.dat x k = p := ⟨_, rfl⟩
      obtain ⟨q, hq⟩ : ∃ p, M.dat y k = p := ⟨_, rfl⟩
      have hp9 := M.dat_le x Dx.out k
      have hq9 := M.dat_le y Dy.out k
      have hstep := M.sum_step Dx.out Dy.out HS.out
      have hlast : k = K → (M.dat x k + M.dat y k + carry) / 10 = 0 := fun h => M.sum_last (by have := HK.out; have := Sx.out; omega) (by have := HK.out; have := Sy.out; omega) hc1
      have hkK : k ≤ K := by have := HK.out; omega
      rw [hp] at hp9 hstep hlast
      rw [hq] at hq9 hstep hlast
      have c1 := fun W => D1.out k p W hp
      have c2 := fun W => D2.out k q W hq
      have C1 := Lib.hid c1
      have C2 := Lib.hid c2
      have Hstep := Lib.hid hstep
      obtain ⟨T, hT⟩ : ∃ T, p + q + carry = T := ⟨_, rfl⟩
      rw [hT] at Hstep hlast
      obtain ⟨P, hP⟩ : ∃ P : Int, (p : Int) = P := ⟨_, rfl⟩
      obtain ⟨Q, hQ⟩ : ∃ P : Int, (q : Int) = P := ⟨_, rfl⟩
      obtain ⟨C, hC⟩ : ∃ P : Int, (carry : Int) = P := ⟨_, rfl⟩
      have hTi : P + Q + C = (T : Int) := by omega
      have P0 : 0 ≤ P := by omega
      have P9 : P ≤ 9 := by omega
      have Q0 : 0 ≤ Q := by omega
      have Q9 : Q ≤ 9 := by omega
      have C0' : 0 ≤ C := by omega
      have C9 : C ≤ 1 := by omega
      have hll2 : l.length ≤ 1100001 := by have := HK.out; omega
      have hk2 : k ≤ 1100001 := by have := HK.out; omega
      rw [hP] at C1
      rw [hQ] at C2
      rw [hC]
      have HTi := Lib.hid hTi
      have Hlast := Lib.hid hlast
      have tst : (decide (k < s.size) = true ∧ decide ((k : Int) < s.size) = true) ∨ (decide (k < s.size) = false ∧ decide ((k : Int) < s.size) = false ∧ decide (k < t.size) = true ∧ decide ((k : Int) < t.size) = true) ∨ (decide (k < s.size) = false ∧ decide ((k : Int) < s.size) = false ∧ decide (k < t.size) = false ∧ decide ((k : Int) < t.size) = false ∧ decide (0 < C) = true) := by
        simp only [decide_eq_true_eq, decide_eq_false_iff_not]
        omega
      have dig : (9 < P + Q + C ∧ (∃ X, P + Q + C - 10 = X ∧ 0 ≤ X ∧ X ≤ 9)) ∨ (P + Q + C ≤ 9) := by
        by_cases h : 9 < P + Q + C
        · exact .inl ⟨h, _, rfl, by omega, by omega⟩
        · exact .inr (by omega)
      clear c1 c2 hp hq hstep hT hll hP hQ hC hTi hp9 hq9 hc1 hgo hlast hkc
      rcases tst with ⟨t1, t2⟩ | ⟨t1, t2, t3, t4⟩ | ⟨t1, t2, t3, t4, t5⟩
      all_goals
        rcases dig with ⟨h9, X, hX, hX0, hX9⟩ | h9
        · have hXT : X = ((T % 10 : Nat) : Int) := by have := HTi.out; omega
          have hcy : (1 : Int) = ((T / 10 : Nat) : Int) := by have := HTi.out; omega
          have HX := Lib.hid hX
          have HXT := Lib.hid hXT
          have Hcy := Lib.hid hcy
          clear hX hXT hcy
          go_wp2_with fail
          refine (C1.out _).mono ?_
          rintro e w1 ⟨rfl, rfl⟩
          go_wp2_with fail
          refine (C2.out _).mono ?_
          rintro e w1 ⟨rfl, rfl⟩
          go_wp2_with (at_builtin; refine wpl_append rfl _ _ rfl w.heap.size _ (.slice (some ⟨wr.heap.size, 0, none⟩) 1 1) l [M.ofD T] (l ++ [M.ofD T]) rfl (ho.keep ((Below.refl _ _).alloc (Nat.le_refl _) _)) rfl (one_digit wr T _ (ofD_val T _ (by have := HXT.out; have := HX.out; omega))) (fun n c h => by simp at h) (by simp; omega) (by simp; omega) rfl ?_)
          intro v3 w3 ho3 hb4
          have hb5 := (hb.alloc hsz _).trans hb4
          clear hb hb4 ho
          go_wp2
          go_roundw
          case rel => exact ⟨k + 1, T / 10, l ++ [M.ofD T], by go_num, by rw [← Hcy.out], by omega, by have := Hlast.out; omega, Hstep.out, ho3, hb5⟩
          case measure => simp [intOf]; omega
        · have hXT : P + Q + C = ((T % 10 : Nat) : Int) := by have := HTi.out; omega
          have hcy : (0 : Int) = ((T / 10 : Nat) : Int) := by have := HTi.out; omega
          have HXT := Lib.hid hXT
          have Hcy := Lib.hid hcy
          clear hXT hcy
          go_wp2_with fail
          refine (C1.out _).mono ?_
          rintro e w1 ⟨rfl, rfl⟩
          go_wp2_with fail
          refine (C2.out _).mono ?_
          rintro e w1 ⟨rfl, rfl⟩
          go_wp2_with (at_builtin; refine wpl_append rfl _ _ rfl w.heap.size _ (.slice (some ⟨wr.heap.size, 0, none⟩) 1 1) l [M.ofD T] (l ++ [M.ofD T]) rfl (ho.keep ((Below.refl _ _).alloc (Nat.le_refl _) _)) rfl (one_digit wr T _ (ofD_val T _ (by have := HXT.out; omega))) (fun n c h => by simp at h) (by simp; omega) (by simp; omega) rfl ?_)
          intro v3 w3 ho3 hb4
          have hb5 := (hb.alloc hsz _).trans hb4
          clear hb hb4 ho
          go_wp2
          go_roundw
          case rel => exact ⟨k + 1, T / 10, l ++ [M.ofD T], by go_num, by rw [← Hcy.out], by omega, by have := Hlast.out; omega, Hstep.out, ho3, hb5⟩
          case measure => simp [intOf]; omega
    · have hk3 : s.size ≤ k ∧ t.size ≤ k ∧ carry = 0 := by omega
      obtain ⟨e1, e2, rfl⟩ := hk3
      have t1 : decide (k < s.size) = false := by simp; omega
      have t2 : decide ((k : Int) < s.size) = false := by simp; omega
      have t3 : decide (k < t.size) = false := by simp; omega
      have t4 : decide ((k : Int) < t.size) = false := by simp; omega
      have hend := M.sum_done HS.out (by have := Sx.out; omega) (by have := Sy.out; omega)
      have hkK : k ≤ 1100001 ∧ 0 < k := by have := HK.out; omega
      clear hgo hkc
      obtain ⟨wo, rfl⟩ : ∃ wo : World, wo = wr := ⟨_, rfl⟩
      have hdl := HS.out.2.1
      have hlen1 := HS.out.1
      have hl0 : 0 < l.length := by rw [hlen1]; omega
      obtain ⟨a1, cap1, rfl, hq1, hq2, hq3⟩ := ho.bs
      obtain ⟨b, off, rfl, hbk, hcell⟩ := hq3 hl0
      have hlb : l.length ≤ 1100001 := by rw [hlen1]; omega
      obtain ⟨L, hL⟩ : ∃ L, l.length = L := ⟨_, rfl⟩
      rw [hL] at hq1 hl0 hlb
      have Hend := Lib.hid hend
      have Hdl := Lib.hid hdl
      have Hcell := Lib.hid hcell
      have HL := Lib.hid hL
      rw [hL]
      clear hend hdl hcell hq3 hL hlen1 ho
      go_wp2
      go_loop [11] (fun nv => ∃ m : Nat, nv = .int .i64 m ∧ 1 ≤ m ∧ m ≤ L ∧ M.lev (l.take m) = M.lev l) (fun nv => (intOf nv).toNat)
      case atStart => exact ⟨L, rfl, by omega, by omega, by rw [← HL.out, List.take_length]⟩
      case round =>
        obtain ⟨m, rfl, hm1, hmL, hlev⟩ := hrel
        have hml : m - 1 < l.length := by rw [HL.out]; omega
        have hcm := Hcell.out (m - 1) hml
        have htk := M.lev_take l m hm1 (by rw [HL.out]; omega)
        obtain ⟨c, hc⟩ : ∃ c, l[m - 1] = c := ⟨_, rfl⟩
        rw [hc] at hcm htk
        rw [hlev] at htk
        have i1 : (0 : Int) ≤ (m : Int) - 1 := by omega
        have i2 : (m : Int) - 1 < L := by omega
        have i3 : ((m : Int) - 1).toNat = m - 1 := by omega
        have Hc := Lib.hid hc
        have Hlev := Lib.hid hlev
        have Htk := Lib.hid htk
        clear hc hlev htk
        by_cases hgo : 1 < m ∧ c = 48
        · obtain ⟨g1, rfl⟩ := hgo
          have g1' : (1 : Int) < m := by omega
          go_wp2
          go_round
          case rel => exact ⟨m - 1, by congr 1; omega, by omega, by omega, (Htk.out rfl).symm⟩
          case measure => simp [intOf]; omega
        · have hlast : m = 1 ∨ c ≠ 48 := by
            by_cases h : 1 < m
            · exact .inr (fun hc => hgo ⟨h, hc⟩)
            · exact .inl (by omega)
          have hrev := M.rev_decS (l.take m) (fun x hx => Hdl.out x (List.mem_of_mem_take hx)) (by intro hh; have := congrArg List.length hh; simp [HL.out] at this; omega) (by
            rcases hlast with h | h
            · left; simp [HL.out]; omega
            · right; rw [List.getLast_eq_getElem]; simp only [List.length_take, List.getElem_take]
              intro hh; apply h; rw [← Hc.out, ← hh]; congr 1; rw [HL.out]; omega)
          rw [Hlev.out, Hend.out] at hrev
          have Hrev := Lib.hid hrev
          have hm2 : m ≤ 1100001 := by omega
          have hbz := hb.size
          have tst : (decide ((1 : Int) < m) = false ∧ decide (1 < m) = false) ∨ (decide ((1 : Int) < m) = true ∧ decide (1 < m) = true ∧ ((c.toNat : Int) == 48) = false) := by
            by_cases h1 : m = 1
            · left; simp; omega
            · right; refine ⟨by simp; omega, by simp; omega, ?_⟩
              rw [beq_eq_false_iff_ne]
              intro hh
              rcases hlast with h | h
              · exact h1 h
              · exact h (UInt8.toNat_inj.1 (by simpa using (by omega : c.toNat = 48)))
          clear hgo hrev hlast
          rcases tst with ⟨t1, t2⟩ | ⟨t1, t2, h2⟩
          all_goals
            have i0 : (0 : Int) ≤ m := by omega
            go_wp2
            go_loopw [12, 13] (fun ov iv wr => ∃ j : Nat, iv = .int .i64 ((m : Int) - 1 - j) ∧ j ≤ m ∧ OwnB wo.heap.size wr ov ((l.take m).reverse.take j) ∧ Below wo.heap.size wo wr) (fun _ iv _ => (intOf iv + 1).toNat)
            case atStart => exact ⟨0, by simp, by omega, World.ownsRow_nil _ _ _ _, Below.refl _ _⟩
            case round =>
              obtain ⟨j, rfl, hj, ho2, hb2⟩ := hrel
              have hsz2 := hb2.size
              by_cases hlt : j < m
              · have hjl : m - 1 - j < l.length := by rw [HL.out]; omega
                have hcj := Hcell.out (m - 1 - j) hjl
                have hst := take_rev_step l m j (by rw [HL.out]; omega) hlt
                obtain ⟨d, hd⟩ : ∃ c, l[m - 1 - j] = c := ⟨_, rfl⟩
                rw [hd] at hcj hst
                have hcw := hb2.cell (p := ⟨b, off + (m - 1 - j), none⟩) hbk
                rw [hcj] at hcw
                have k1 : (0 : Int) ≤ (m : Int) - 1 - j := by omega
                have k2 : (m : Int) - 1 - j < L := by omega
                have k3 : ((m : Int) - 1 - j).toNat = m - 1 - j := by omega
                have hlj : ((l.take m).reverse.take j).length ≤ 1100001 := by simp; omega
                have Hst := Lib.hid hst
                obtain ⟨R, hR⟩ : ∃ R, (l.take m).reverse.take j = R := ⟨_, rfl⟩
                rw [hR] at ho2 hlj Hst
                clear hst hd hR hcj
                go_wp2_with (at_builtin; refine wpl_append rfl _ _ rfl wo.heap.size _ (.slice (some ⟨_, 0, none⟩) 1 1) R [d] (R ++ [d]) rfl (ho2.keep ((Below.refl _ _).alloc (Nat.le_refl _) _)) rfl (bs_cells_new _ [d] _ 1 rfl rfl (by simp)) (fun n c h => by simp at h) (by simp; omega) (by simp; omega) rfl ?_)
                intro v3 w3 ho3 hb4
                have hb5 := (hb2.alloc hsz2 _).trans hb4
                clear hb2 hb4 ho2
                go_wp2
                go_roundw
                case rel => exact ⟨j + 1, by congr 1; omega, by omega, by rw [Hst.out]; exact ho3, hb5⟩
                case measure => simp [intOf]; omega
              · obtain rfl : j = m := by omega
                have k1 : ¬ (0 : Int) ≤ (j : Int) - 1 - j := by omega
                have hfull : (l.take j).reverse.take j = M.decS (M.dval x + M.dval y) := by rw [← Hrev.out]; exact List.take_of_length_le (by simp; omega)
                rw [hfull] at ho2
                have hcv := conv_own ho2
                have hfin : Below w.heap.size w wr := hb.trans (hb2.mono hbz)
                clear hfull ho2 hb2 hb
                go_wp2
                go_ret
                exact ⟨rfl, hfin⟩

set_option maxRecDepth 1100000 in
set_option maxHeartbeats 4000000 in
theorem reck_dif (x y : List UInt8) (w : World) (hx : x.length ≤ 1100000) (hy : y.length ≤ 1100000) (hx0 : 0 < x.length) (dx : ∀ c ∈ x, M.dig c = true) (dy : ∀ c ∈ y, M.dig c = true) (hle : y.length ≤ x.length) (hval : M.dval y ≤ M.dval x) :
    Calls Tryd.prog 76 #[.string (bytes x), .string (bytes y), .bool true] w fun e w' => e = .returned (.string (bytes (M.decS (M.dval x - M.dval y)))) ∧ Below w.heap.size w w' := by
  have sx := bytes_size x
  have sy := bytes_size y
  have d1 := fun i r W h => refdgt_any x i r W (by omega) dx h
  have d2 := fun i r W h => refdgt_any y i r W (by omega) dy h
  obtain ⟨s, hs⟩ : ∃ s, bytes x = s := ⟨_, rfl⟩
  obtain ⟨t, ht⟩ : ∃ s, bytes y = s := ⟨_, rfl⟩
  rw [hs] at sx d1
  rw [ht] at sy d2
  rw [hs, ht]
  have hs1 : s.size ≤ 1100000 := by omega
  have ht1 : t.size ≤ 1100000 := by omega
  have hs0 : 0 < s.size := by omega
  obtain ⟨K, hK⟩ : ∃ K, x.length = K := ⟨_, rfl⟩
  have hK1 : s.size = K ∧ t.size ≤ K ∧ K ≤ 1100000 := by omega
  have Sx := Lib.hid sx
  have Sy := Lib.hid sy
  have D1 := Lib.hid d1
  have D2 := Lib.hid d2
  have Dx := Lib.hid dx
  have Dy := Lib.hid dy
  have HK := Lib.hid hK1
  clear d1 d2 dx dy hs ht hK sx sy hK1
  go_enter Tryd.func76, Tryd.ntmps76
  go_wp2
  go_loopw [7, 8, 9, 10] (fun ov cv iv _ wr => ∃ (k carry : Nat) (l : List UInt8), iv = .int .i64 k ∧ cv = .int .i64 carry ∧ k ≤ K ∧ M.Dif x y k l carry ∧ OwnB w.heap.size wr ov l ∧ Below w.heap.size w wr) (fun _ _ iv _ _ => K - (intOf iv).toNat)
  case atStart => exact ⟨0, 0, [], rfl, rfl, by omega, M.dif_start x y, World.ownsRow_nil _ _ _ _, Below.refl _ _⟩
  case round =>
    obtain ⟨k, carry, l, rfl, rfl, hk, hS, ho, hb⟩ := hrel
    have hc1 := hS.2.2.1
    have hll := hS.1
    have HS := Lib.hid hS
    have hsz := hb.size
    clear hS
    by_cases hgo : k < K
    · have hgo' : k < s.size := by have := HK.out; omega
      obtain ⟨p, hp⟩ : ∃ p, M.dat x k = p := ⟨_, rfl⟩
      obtain ⟨q, hq⟩ : ∃ p, M.dat y k = p := ⟨_, rfl⟩
      have hp9 := M.dat_le x Dx.out k
      have hq9 := M.dat_le y Dy.out k
      have hstep := M.dif_step Dx.out Dy.out HS.out
      rw [hp] at hp9 hstep
      rw [hq] at hq9 hstep
      have c1 := fun W => D1.out k p W hp
      have c2 := fun W => D2.out k q W hq
      have C1 := Lib.hid c1
      have C2 := Lib.hid c2
      have Hstep := Lib.hid hstep
      obtain ⟨T, hT⟩ : ∃ T, p + 10 - q - carry = T := ⟨_, rfl⟩
      rw [hT] at Hstep
      obtain ⟨P, hP⟩ : ∃ P : Int, (p : Int) = P := ⟨_, rfl⟩
      obtain ⟨Q, hQ⟩ : ∃ P : Int, (q : Int) = P := ⟨_, rfl⟩
      obtain ⟨C, hC⟩ : ∃ P : Int, (carry : Int) = P := ⟨_, rfl⟩
      have hTi : P - Q - C + 10 = (T : Int) := by omega
      have P0 : 0 ≤ P := by omega
      have P9 : P ≤ 9 := by omega
      have Q0 : 0 ≤ Q := by omega
      have Q9 : Q ≤ 9 := by omega
      have C0' : 0 ≤ C := by omega
      have C9 : C ≤ 1 := by omega
      have hll2 : l.length ≤ 1100001 := by have := HK.out; omega
      have hk2 : k ≤ 1100001 := by have := HK.out; omega
      rw [hP] at C1
      rw [hQ] at C2
      rw [hC]
      have HTi := Lib.hid hTi
      have t1 : decide (k < s.size) = true := by simp; omega
      have t2 : decide ((k : Int) < s.size) = true := by simp; omega
      have dig : (P - Q - C < 0 ∧ (∃ X, P - Q - C + 10 = X ∧ 0 ≤ X ∧ X ≤ 9)) ∨ (0 ≤ P - Q - C ∧ (∃ X, P - Q - C = X ∧ 0 ≤ X ∧ X ≤ 9)) := by
        by_cases h : P - Q - C < 0
        · exact .inl ⟨h, _, rfl, by omega, by omega⟩
        · exact .inr ⟨by omega, _, rfl, by omega, by omega⟩
      clear c1 c2 hp hq hstep hT hll hP hQ hC hTi hp9 hq9 hc1 hgo'
      rcases dig with ⟨h9, X, hX, hX0, hX9⟩ | ⟨h9, X, hX, hX0, hX9⟩
      · have hXT : X = ((T % 10 : Nat) : Int) := by have := HTi.out; omega
        have hcy : (1 : Int) = ((1 - T / 10 : Nat) : Int) := by have := HTi.out; omega
        have HX := Lib.hid hX
        have HXT := Lib.hid hXT
        have Hcy := Lib.hid hcy
        clear hX hXT hcy
        go_wp2_with fail
        refine (C1.out _).mono ?_
        rintro e w1 ⟨rfl, rfl⟩
        go_wp2_with fail
        refine (C2.out _).mono ?_
        rintro e w1 ⟨rfl, rfl⟩
        go_wp2_with fail
        refine (C1.out _).mono ?_
        rintro e w1 ⟨rfl, rfl⟩
        go_wp2_with fail
        refine (C2.out _).mono ?_
        rintro e w1 ⟨rfl, rfl⟩
        go_wp2_with (at_builtin; refine wpl_append rfl _ _ rfl w.heap.size _ (.slice (some ⟨wr.heap.size, 0, none⟩) 1 1) l [M.ofD T] (l ++ [M.ofD T]) rfl (ho.keep ((Below.refl _ _).alloc (Nat.le_refl _) _)) rfl (one_digit wr T _ (ofD_val T _ (by have := HXT.out; have := HX.out; omega))) (fun n c h => by simp at h) (by simp; omega) (by simp; omega) rfl ?_)
        intro v3 w3 ho3 hb4
        have hb5 := (hb.alloc hsz _).trans hb4
        clear hb hb4 ho
        go_wp2
        go_roundw
        case rel => exact ⟨k + 1, 1 - T / 10, l ++ [M.ofD T], by go_num, by rw [← Hcy.out], by omega, Hstep.out, ho3, hb5⟩
        case measure => simp [intOf]; omega
      · have hXT : X = ((T % 10 : Nat) : Int) := by have := HTi.out; omega
        have hcy : (0 : Int) = ((1 - T / 10 : Nat) : Int) := by have := HTi.out; omega
        have HX := Lib.hid hX
        have HXT := Lib.hid hXT
        have Hcy := Lib.hid hcy
        have t3 : decide (9 < P - Q - C) = false := by simp; omega
        clear hX hXT hcy
        go_wp2_with fail
        refine (C1.out _).mono ?_
        rintro e w1 ⟨rfl, rfl⟩
        go_wp2_with fail
        refine (C2.out _).mono ?_
        rintro e w1 ⟨rfl, rfl⟩
        go_wp2_with fail
        refine (C1.out _).mono ?_
        rintro e w1 ⟨rfl, rfl⟩
        go_wp2_with fail
        refine (C2.out _).mono ?_
        rintro e w1 ⟨rfl, rfl⟩
        go_wp2_with (at_builtin; refine wpl_append rfl _ _ rfl w.heap.size _ (.slice (some ⟨wr.heap.size, 0, none⟩) 1 1) l [M.ofD T] (l ++ [M.ofD T]) rfl (ho.keep ((Below.refl _ _).alloc (Nat.le_refl _) _)) rfl (one_digit wr T _ (ofD_val T _ (by have := HXT.out; have := HX.out; omega))) (fun n c h => by simp at h) (by simp; omega) (by simp; omega) rfl ?_)
        intro v3 w3 ho3 hb4
        have hb5 := (hb.alloc hsz _).trans hb4
        clear hb hb4 ho
        go_wp2
        go_roundw
        case rel => exact ⟨k + 1, 1 - T / 10, l ++ [M.ofD T], by go_num, by rw [← Hcy.out], by omega, Hstep.out, ho3, hb5⟩
        case measure => simp [intOf]; omega
    · have hkk : k = K := by omega
      have e1 : s.size ≤ k ∧ t.size ≤ k := by have := HK.out; omega
      have hc0 := M.dif_last HS.out (by have := Sx.out; omega) (by have := Sy.out; omega) hval
      subst hc0
      have t1 : decide (k < s.size) = false := by simp; omega
      have t2 : decide ((k : Int) < s.size) = false := by simp; omega
      have t3 : decide (k < t.size) = false := by simp; omega
      have t4 : decide ((k : Int) < t.size) = false := by simp; omega
      have hend := M.dif_end HS.out (by have := Sx.out; omega) (by have := Sy.out; omega) hval
      have hkK : k ≤ 1100001 ∧ 0 < k := by have := HK.out; omega
      clear hgo hkk
      obtain ⟨wo, rfl⟩ : ∃ wo : World, wo = wr := ⟨_, rfl⟩
      have hdl := HS.out.2.1
      have hlen1 := HS.out.1
      have hl0 : 0 < l.length := by rw [hlen1]; omega
      obtain ⟨a1, cap1, rfl, hq1, hq2, hq3⟩ := ho.bs
      obtain ⟨b, off, rfl, hbk, hcell⟩ := hq3 hl0
      have hlb : l.length ≤ 1100001 := by rw [hlen1]; omega
      obtain ⟨L, hL⟩ : ∃ L, l.length = L := ⟨_, rfl⟩
      rw [hL] at hq1 hl0 hlb
      have Hend := Lib.hid hend
      have Hdl := Lib.hid hdl
      have Hcell := Lib.hid hcell
      have HL := Lib.hid hL
      rw [hL]
      clear hend hdl hcell hq3 hL hlen1 ho
      go_wp2
      go_loop [11] (fun nv => ∃ m : Nat, nv = .int .i64 m ∧ 1 ≤ m ∧ m ≤ L ∧ M.lev (l.take m) = M.lev l) (fun nv => (intOf nv).toNat)
      case atStart => exact ⟨L, rfl, by omega, by omega, by rw [← HL.out, List.take_length]⟩
      case round =>
        obtain ⟨m, rfl, hm1, hmL, hlev⟩ := hrel
        have hml : m - 1 < l.length := by rw [HL.out]; omega
        have hcm := Hcell.out (m - 1) hml
        have htk := M.lev_take l m hm1 (by rw [HL.out]; omega)
        obtain ⟨c, hc⟩ : ∃ c, l[m - 1] = c := ⟨_, rfl⟩
        rw [hc] at hcm htk
        rw [hlev] at htk
        have i1 : (0 : Int) ≤ (m : Int) - 1 := by omega
        have i2 : (m : Int) - 1 < L := by omega
        have i3 : ((m : Int) - 1).toNat = m - 1 := by omega
        have Hc := Lib.hid hc
        have Hlev := Lib.hid hlev
        have Htk := Lib.hid htk
        clear hc hlev htk
        by_cases hgo : 1 < m ∧ c = 48
        · obtain ⟨g1, rfl⟩ := hgo
          have g1' : (1 : Int) < m := by omega
          go_wp2
          go_round
          case rel => exact ⟨m - 1, by congr 1; omega, by omega, by omega, (Htk.out rfl).symm⟩
          case measure => simp [intOf]; omega
        · have hlast : m = 1 ∨ c ≠ 48 := by
            by_cases h : 1 < m
            · exact .inr (fun hc => hgo ⟨h, hc⟩)
            · exact .inl (by omega)
          have hrev := M.rev_decS (l.take m) (fun x hx => Hdl.out x (List.mem_of_mem_take hx)) (by intro hh; have := congrArg List.length hh; simp [HL.out] at this; omega) (by
            rcases hlast with h | h
            · left; simp [HL.out]; omega
            · right; rw [List.getLast_eq_getElem]; simp only [List.length_take, List.getElem_take]
              intro hh; apply h; rw [← Hc.out, ← hh]; congr 1; rw [HL.out]; omega)
          rw [Hlev.out, Hend.out] at hrev
          have Hrev := Lib.hid hrev
          have hm2 : m ≤ 1100001 := by omega
          have hbz := hb.size
          have tst : (decide ((1 : Int) < m) = false ∧ decide (1 < m) = false) ∨ (decide ((1 : Int) < m) = true ∧ decide (1 < m) = true ∧ ((c.toNat : Int) == 48) = false) := by
            by_cases h1 : m = 1
            · left; simp; omega
            · right; refine ⟨by simp; omega, by simp; omega, ?_⟩
              rw [beq_eq_false_iff_ne]
              intro hh
              rcases hlast with h | h
              · exact h1 h
              · exact h (UInt8.toNat_inj.1 (by simpa using (by omega : c.toNat = 48)))
          clear hgo hrev hlast
          rcases tst with ⟨t1, t2⟩ | ⟨t1, t2, h2⟩
          all_goals
            have i0 : (0 : Int) ≤ m := by omega
            go_wp2
            go_loopw [12, 13] (fun ov iv wr => ∃ j : Nat, iv = .int .i64 ((m : Int) - 1 - j) ∧ j ≤ m ∧ OwnB wo.heap.size wr ov ((l.take m).reverse.take j) ∧ Below wo.heap.size wo wr) (fun _ iv _ => (intOf iv + 1).toNat)
            case atStart => exact ⟨0, by simp, by omega, World.ownsRow_nil _ _ _ _, Below.refl _ _⟩
            case round =>
              obtain ⟨j, rfl, hj, ho2, hb2⟩ := hrel
              have hsz2 := hb2.size
              by_cases hlt : j < m
              · have hjl : m - 1 - j < l.length := by rw [HL.out]; omega
                have hcj := Hcell.out (m - 1 - j) hjl
                have hst := take_rev_step l m j (by rw [HL.out]; omega) hlt
                obtain ⟨d, hd⟩ : ∃ c, l[m - 1 - j] = c := ⟨_, rfl⟩
                rw [hd] at hcj hst
                have hcw := hb2.cell (p := ⟨b, off + (m - 1 - j), none⟩) hbk
                rw [hcj] at hcw
                have k1 : (0 : Int) ≤ (m : Int) - 1 - j := by omega
                have k2 : (m : Int) - 1 - j < L := by omega
                have k3 : ((m : Int) - 1 - j).toNat = m - 1 - j := by omega
                have hlj : ((l.take m).reverse.take j).length ≤ 1100001 := by simp; omega
                have Hst := Lib.hid hst
                obtain ⟨R, hR⟩ : ∃ R, (l.take m).reverse.take j = R := ⟨_, rfl⟩
                rw [hR] at ho2 hlj Hst
                clear hst hd hR hcj
                go_wp2_with (at_builtin; refine wpl_append rfl _ _ rfl wo.heap.size _ (.slice (some ⟨_, 0, none⟩) 1 1) R [d] (R ++ [d]) rfl (ho2.keep ((Below.refl _ _).alloc (Nat.le_refl _) _)) rfl (bs_cells_new _ [d] _ 1 rfl rfl (by simp)) (fun n c h => by simp at h) (by simp; omega) (by simp; omega) rfl ?_)
                intro v3 w3 ho3 hb4
                have hb5 := (hb2.alloc hsz2 _).trans hb4
                clear hb2 hb4 ho2
                go_wp2
                go_roundw
                case rel => exact ⟨j + 1, by congr 1; omega, by omega, by rw [Hst.out]; exact ho3, hb5⟩
                case measure => simp [intOf]; omega
              · obtain rfl : j = m := by omega
                have k1 : ¬ (0 : Int) ≤ (j : Int) - 1 - j := by omega
                have hfull : (l.take j).reverse.take j = M.decS (M.dval x - M.dval y) := by rw [← Hrev.out]; exact List.take_of_length_le (by simp; omega)
                rw [hfull] at ho2
                have hcv := conv_own ho2
                have hfin : Below w.heap.size w wr := hb.trans (hb2.mono hbz)
                clear hfull ho2 hb2 hb
                go_wp2
                go_ret
                exact ⟨rfl, hfin⟩
end Go.Proofs.YtlobinjdgcidmaaDoor

/- Decimals: the reference's Dec: the decimal text of an int. -/
namespace Go.Proofs.YtlobinjdgcidmaaDoor
open Go.RowKit
set_option linter.unusedVariables false
set_option linter.unusedSimpArgs false

theorem dig_cut (k : Nat) (hk : k < 10) (s e : Nat) (hs : s = k) (he : e = k + 1) : (ByteArray.mk #[48, 49, 50, 51, 52, 53, 54, 55, 56, 57]).extract s e = bytes [M.ofD k] := by
  subst hs he
  have : s = 0 ∨ s = 1 ∨ s = 2 ∨ s = 3 ∨ s = 4 ∨ s = 5 ∨ s = 6 ∨ s = 7 ∨ s = 8 ∨ s = 9 := by omega
  rcases this with rfl | rfl | rfl | rfl | rfl | rfl | rfl | rfl | rfl | rfl <;> decide +kernel
theorem bytes_app (k l : List UInt8) : bytes k ++ bytes l = bytes (k ++ l) := by
  apply ByteArray.ext; simp [bytes]

theorem ret_s {a b : ByteArray} (h : a = b) : Ending.returned (.string a) = .returned (.string b) := by rw [h]
set_option maxRecDepth 100000 in
set_option maxHeartbeats 1000000 in
theorem refdec_pos (k : Nat) : ∀ (n : Nat) (w : World), n ≤ k → n ≤ 100000000 →
    Calls Tryd.prog 62 #[.int .i64 (n : Int)] w fun e w' => e = .returned (.string (bytes (M.decS n))) ∧ w = w' := by
  induction k with
  | zero =>
    intro n w hk _
    obtain rfl : n = 0 := by omega
    go_enter Tryd.func62, Tryd.ntmps62
    go_wp2_with fail
    go_ret
    exact ⟨rfl, rfl⟩
  | succ k ih =>
    intro n w hk hn
    obtain ⟨N, hN⟩ : ∃ N : Int, (n : Int) = N := ⟨_, rfl⟩
    have hN0 : 0 ≤ N := by omega
    have hN1 : N ≤ 100000000 := by omega
    have hcut := fun s e hs he => dig_cut (n % 10) (by omega) s e hs he
    have Hcut := Lib.hid hcut
    have HN := Lib.hid hN
    by_cases h9 : n ≤ 9
    · have h9' : N ≤ 9 := by omega
      have hd : M.ofD (n % 10) = M.ofD n := by unfold M.ofD; congr 1; omega
      rw [hN, M.decS_small n h9]
      have Hd := Lib.hid hd
      clear hcut hd hN hk hn h9
      go_enter Tryd.func62, Tryd.ntmps62
      go_wp2_with fail
      go_ret
      exact ⟨ret_s (by rw [Hcut.out _ _ (by have := HN.out; omega) (by have := HN.out; omega), Hd.out]), rfl⟩
    · have h9' : 9 < N := by omega
      have hd : M.ofD (n % 10) = M.ofD n := by unfold M.ofD; congr 1; omega
      have hcall := fun W => ih (n / 10) W (by omega) (by omega)
      rw [show ((n / 10 : Nat) : Int) = N / 10 by omega] at hcall
      have hl := M.decS_len (n / 10) 8 (by omega)
      obtain ⟨S, hS⟩ : ∃ S, bytes (M.decS (n / 10)) = S := ⟨_, rfl⟩
      have hSs : S.size ≤ 100 := by rw [← hS, bytes_size]; omega
      rw [hS] at hcall
      have hsum : S ++ bytes [M.ofD n] = bytes (M.decS n) := by rw [← hS, bytes_app, ← M.decS_step n (by omega)]
      obtain ⟨T, hT⟩ : ∃ T, (ByteArray.mk #[48, 49, 50, 51, 52, 53, 54, 55, 56, 57]).extract (N % 10).toNat (N % 10 + 1).toNat = T := ⟨_, rfl⟩
      have hTe : T = bytes [M.ofD n] := by rw [← hT, hcut _ _ (by omega) (by omega), hd]
      have hTs : T.size ≤ 100 := by rw [hTe, bytes_size]; simp
      rw [← hTe] at hsum
      have a1 : ∀ W, (Op.stringOp .add S T).run Tryd.prog W = .ok (.string (S ++ T)) W := fun W => run_string_add W _ _ (by omega) (by omega)
      have Hc := Lib.hid hcall
      have Hsum := Lib.hid hsum
      have HT := Lib.hid hT
      rw [hN, ← hsum]
      clear hcut hd hN hk hn h9 hcall hl hS hsum hT hTe ih Hcut
      go_enter Tryd.func62, Tryd.ntmps62
      go_wp2_with fail
      simp only [HT.out]
      refine (Hc.out _).mono ?_
      rintro e w' ⟨rfl, rfl⟩
      go_wp2_with fail
      go_ret
      exact ⟨rfl, rfl⟩
end Go.Proofs.YtlobinjdgcidmaaDoor

/- Decimals: the reference's Add, LessDecimal, Int, Dec, for any arguments of the size that the laws speak of. -/
namespace Go.Proofs.YtlobinjdgcidmaaDoor
open Go.RowKit
set_option linter.unusedVariables false
set_option linter.unusedSimpArgs false

theorem refdec_any (z : Int) (w : World) (h1 : -100000000 ≤ z) (h2 : z ≤ 100000000) :
    Calls Tryd.prog 62 #[.int .i64 z] w fun e w' => e = .returned (.string (bytes (M.txt z))) ∧ w = w' := by
  by_cases h : 0 ≤ z
  · obtain ⟨n, rfl⟩ : ∃ n : Nat, z = n := ⟨z.toNat, by omega⟩
    rw [M.txt_nat]
    exact refdec_pos n n w (Nat.le_refl _) (by omega)
  · obtain ⟨n, hn⟩ : ∃ n : Nat, z = -(n : Int) := ⟨(-z).toNat, by omega⟩
    have hcall := fun W => refdec_pos n n W (Nat.le_refl _) (by omega)
    have hl := M.decS_len n 8 (by omega)
    obtain ⟨S, hS⟩ : ∃ S, bytes (M.decS n) = S := ⟨_, rfl⟩
    have hSs : S.size ≤ 100 := by rw [← hS, bytes_size]; omega
    have hcat : ByteArray.mk #[45] ++ S = bytes (M.txt z) := by
      rw [hn, M.txt_minus n (by omega), ← hS]; apply ByteArray.ext; simp [bytes]
    have a1 : ∀ W, (Op.stringOp .add (ByteArray.mk #[45]) S).run Tryd.prog W = .ok (.string (ByteArray.mk #[45] ++ S)) W := fun W => run_string_add W _ _ (by rw [show (ByteArray.mk #[45]).size = 1 from rfl]; decide) (by omega)
    rw [hS, show (n : Int) = -z by omega] at hcall
    have hz : z < 0 := by omega
    have Hc := Lib.hid hcall
    have Hcat := Lib.hid hcat
    clear hcall hcat hS hl hn h
    go_enter Tryd.func62, Tryd.ntmps62
    go_wp2_with fail
    refine (Hc.out _).mono ?_
    rintro e w' ⟨rfl, rfl⟩
    go_wp2_with fail
    go_ret
    exact ⟨by rw [← Hcat.out]; rfl, rfl⟩

theorem ret_sb {a b : ByteArray} {c d : Bool} (h : a = b) (h2 : c = d) : Ending.returned (.tuple #[.string a, .bool c]) = .returned (.tuple #[.string b, .bool d]) := by rw [h, h2]
theorem right_ne (a : List UInt8) (h : M.rightD a = true) : a ≠ [] := by
  intro hh; subst hh; exact absurd h (by decide +kernel)

set_option maxRecDepth 100000 in
set_option maxHeartbeats 1000000 in
theorem refadd_any (a b : List UInt8) (res : List UInt8 × Bool) (w : World) (la : a.length ≤ 1100000) (lb : b.length ≤ 1100000) (hr : M.addD a b = res) :
    Calls Tryd.prog 61 #[.string (bytes a), .string (bytes b)] w fun e w' => e = .returned (strB res) ∧ Below w.heap.size w w' := by
  unfold M.addD at hr
  cases ha : M.rightD a with
  | false =>
    rw [ha] at hr
    simp only [Bool.false_and, Bool.false_eq_true, if_false] at hr
    subst hr
    have A1 := Lib.hid (fun W => refright_any a false W (by omega) ha)
    clear ha
    go_enter Tryd.func61, Tryd.ntmps61
    go_wp2_with fail
    refine (A1.out _).mono ?_
    rintro e w' ⟨rfl, rfl⟩
    go_wp2
    go_ret2
    exact ⟨rfl, Below.refl _ _⟩
  | true =>
    have A1 := Lib.hid (fun W => refright_any a true W (by omega) ha)
    cases hb : M.rightD b with
    | false =>
      rw [ha, hb] at hr
      simp only [Bool.and_false, Bool.false_eq_true, if_false] at hr
      subst hr
      have B1 := Lib.hid (fun W => refright_any b false W (by omega) hb)
      clear ha hb
      go_enter Tryd.func61, Tryd.ntmps61
      go_wp2_with fail
      refine (A1.out _).mono ?_
      rintro e w' ⟨rfl, rfl⟩
      go_wp2_with fail
      refine (B1.out _).mono ?_
      rintro e w' ⟨rfl, rfl⟩
      go_wp2
      go_ret2
      exact ⟨rfl, Below.refl _ _⟩
    | true =>
      rw [ha, hb] at hr
      simp only [Bool.and_self, if_true] at hr
      subst hr
      have B1 := Lib.hid (fun W => refright_any b true W (by omega) hb)
      have hrad := M.radd_txt a b ha hb
      obtain ⟨x, hx⟩ : ∃ x, M.unsign a = x := ⟨_, rfl⟩
      obtain ⟨y, hy⟩ : ∃ y, M.unsign b = y := ⟨_, rfl⟩
      obtain ⟨p, hp⟩ : ∃ y, M.isNeg a = y := ⟨_, rfl⟩
      obtain ⟨q, hq⟩ : ∃ y, M.isNeg b = y := ⟨_, rfl⟩
      have S1 := Lib.hid (fun W => refsign_any a p x W (right_ne a ha) (by omega) hp hx)
      have S2 := Lib.hid (fun W => refsign_any b q y W (right_ne b hb) (by omega) hq hy)
      have lx : x.length ≤ 1100000 := by rw [← hx]; have := unsign_len a; omega
      have ly : y.length ≤ 1100000 := by rw [← hy]; have := unsign_len b; omega
      have rx := M.row_unsign a ha
      have ry := M.row_unsign b hb
      unfold M.radd at hrad
      rw [hx, hy, hp, hq] at hrad
      rw [hx] at rx
      rw [hy] at ry
      have x0 : 0 < x.length := List.length_pos_iff.2 rx.2.1
      have y0 : 0 < y.length := List.length_pos_iff.2 ry.2.1
      obtain ⟨K, hK⟩ : ∃ K, K = 1100000 := ⟨_, rfl⟩
      -- what stands behind the three ways: a number's text with its sign
      have fin : ∀ (n : Nat) (neg : Bool), M.neg1 neg (M.decS n) = M.txt (M.valD a + M.valD b) → n < 10 ^ (K + 1) → (neg = false ∧ bytes (M.decS n) = bytes (M.txt (M.valD a + M.valD b))) ∨ (neg = true ∧ bytes (M.decS n) = bytes (M.txt (M.valD a + M.valD b)) ∧ (bytes (M.decS n)).toList = [48]) ∨ (neg = true ∧ (bytes (M.decS n)).toList ≠ [48] ∧ (bytes (M.decS n)).size ≤ 1100001 ∧ ByteArray.mk #[45] ++ bytes (M.decS n) = bytes (M.txt (M.valD a + M.valD b))) := by
        intro n neg h hn
        unfold M.neg1 at h
        cases neg with
        | false => left; exact ⟨rfl, by rw [← h]; simp⟩
        | true =>
          right
          by_cases h0 : n = 0
          · left; subst h0; exact ⟨rfl, by rw [← h]; simp [M.decS], by rw [toList_bytes]; rfl⟩
          · right
            have hne : M.decS n ≠ [48] := fun hh => h0 ((M.decS_zero n).1 hh)
            refine ⟨rfl, by rw [toList_bytes]; exact hne, by rw [bytes_size]; have := M.decS_len n K hn; omega, ?_⟩
            rw [← h]; simp only [Bool.true_and, bne_iff_ne, ne_eq, hne, not_false_eq_true, if_true]
            apply ByteArray.ext; simp [bytes]
      obtain ⟨Z, hZ⟩ : ∃ Z, M.txt (M.valD a + M.valD b) = Z := ⟨_, rfl⟩
      rw [hZ] at fin hrad ⊢
      have dlx : M.dval x < 10 ^ K := Nat.lt_of_lt_of_le (M.dval_lt x rx.1) (Nat.pow_le_pow_right (by decide) (by omega))
      have dly : M.dval y < 10 ^ K := Nat.lt_of_lt_of_le (M.dval_lt y ry.1) (Nat.pow_le_pow_right (by decide) (by omega))
      have hpw : 10 ^ (K + 1) = 10 * 10 ^ K := by rw [Nat.pow_succ, Nat.mul_comm]
      have hless := M.less_dval x y rx ry
      by_cases hpq : p = q
      · subst hpq
        rw [if_pos rfl] at hrad
        have RK := fun W => reck_sum x y W lx ly x0 rx.1 ry.1
        obtain ⟨V, hV⟩ : ∃ V, bytes (M.decS (M.dval x + M.dval y)) = V := ⟨_, rfl⟩
        have hf := fin _ _ hrad (by omega)
        rw [hV] at hf RK
        have R1 := Lib.hid RK
        clear fin hrad hZ dlx dly hpw hless rx ry ha hb hx hy hp hq la lb lx ly RK hV hK x0 y0
        rcases hf with ⟨rfl, he⟩ | ⟨rfl, he, hl⟩ | ⟨rfl, hl, hs, he⟩
        · have He := Lib.hid he
          clear he
          go_enter Tryd.func61, Tryd.ntmps61
          go_wp2_with fail
          refine (A1.out _).mono ?_
          rintro e w' ⟨rfl, rfl⟩
          go_wp2_with fail
          refine (B1.out _).mono ?_
          rintro e w' ⟨rfl, rfl⟩
          have c0 := Below.refl w.heap.size w
          go_wp2_with fail
          refine (S1.out _).mono ?_
          rintro e w1 ⟨rfl, hb1⟩
          have c1 := c0.trans (hb1.mono c0.size)
          clear hb1 c0
          go_wp2_with fail
          refine (S2.out _).mono ?_
          rintro e w2 ⟨rfl, hb2⟩
          have c2 := c1.trans (hb2.mono c1.size)
          clear hb2 c1
          go_wp2_with fail
          refine (R1.out _).mono ?_
          rintro e w3 ⟨rfl, hb3⟩
          have c3 := c2.trans (hb3.mono c2.size)
          clear hb3 c2
          go_wp2
          go_ret2
          exact ⟨ret_sb He.out rfl, c3⟩
        · have q1 : (V.toList == [48]) = true := by rw [hl]; rfl
          have q2 : (V.toList != [48]) = false := by rw [hl]; rfl
          have He := Lib.hid he
          clear he hl
          go_enter Tryd.func61, Tryd.ntmps61
          go_wp2_with fail
          refine (A1.out _).mono ?_
          rintro e w' ⟨rfl, rfl⟩
          go_wp2_with fail
          refine (B1.out _).mono ?_
          rintro e w' ⟨rfl, rfl⟩
          have c0 := Below.refl w.heap.size w
          go_wp2_with fail
          refine (S1.out _).mono ?_
          rintro e w1 ⟨rfl, hb1⟩
          have c1 := c0.trans (hb1.mono c0.size)
          clear hb1 c0
          go_wp2_with fail
          refine (S2.out _).mono ?_
          rintro e w2 ⟨rfl, hb2⟩
          have c2 := c1.trans (hb2.mono c1.size)
          clear hb2 c1
          go_wp2_with fail
          refine (R1.out _).mono ?_
          rintro e w3 ⟨rfl, hb3⟩
          have c3 := c2.trans (hb3.mono c2.size)
          clear hb3 c2
          go_wp2
          go_ret2
          exact ⟨ret_sb He.out rfl, c3⟩
        · have q1 : (V.toList == [48]) = false := by simpa using hl
          have q2 : (V.toList != [48]) = true := by simpa using hl
          have He := Lib.hid he
          have a1 : ∀ W, (Op.stringOp .add (ByteArray.mk #[45]) V).run Tryd.prog W = .ok (.string (ByteArray.mk #[45] ++ V)) W := fun W => run_string_add W _ _ (by rw [show (ByteArray.mk #[45]).size = 1 from rfl]; decide) (by omega)
          clear he hl hs
          go_enter Tryd.func61, Tryd.ntmps61
          go_wp2_with fail
          refine (A1.out _).mono ?_
          rintro e w' ⟨rfl, rfl⟩
          go_wp2_with fail
          refine (B1.out _).mono ?_
          rintro e w' ⟨rfl, rfl⟩
          have c0 := Below.refl w.heap.size w
          go_wp2_with fail
          refine (S1.out _).mono ?_
          rintro e w1 ⟨rfl, hb1⟩
          have c1 := c0.trans (hb1.mono c0.size)
          clear hb1 c0
          go_wp2_with fail
          refine (S2.out _).mono ?_
          rintro e w2 ⟨rfl, hb2⟩
          have c2 := c1.trans (hb2.mono c1.size)
          clear hb2 c1
          go_wp2_with fail
          refine (R1.out _).mono ?_
          rintro e w3 ⟨rfl, hb3⟩
          have c3 := c2.trans (hb3.mono c2.size)
          clear hb3 c2
          go_wp2
          go_ret2
          exact ⟨ret_sb He.out rfl, c3⟩
      · rw [if_neg hpq] at hrad
        cases hL : M.lessB x y with
        | true =>
          rw [hL, if_pos rfl] at hrad
          have hle : M.dval x ≤ M.dval y := by rw [hL] at hless; have := of_decide_eq_true hless.symm; omega
          have hlen := M.row_len y x ry rx hle
          have SM := Lib.hid (fun W => refsmall_any x y true W (by omega) (by omega) hL)
          have RK := fun W => reck_dif y x W ly lx y0 ry.1 rx.1 hlen hle
          have hne : (p == q) = false := by simpa using hpq
          have hne2 : p = !q := by revert hpq; cases p <;> cases q <;> simp
          subst hne2
          clear hpq hne
          obtain ⟨V, hV⟩ : ∃ V, bytes (M.decS (M.dval y - M.dval x)) = V := ⟨_, rfl⟩
          have hf := fin _ _ hrad (by omega)
          rw [hV] at hf RK
          have R1 := Lib.hid RK
          clear fin hrad hZ dlx dly hpw hless rx ry ha hb hx hy hp hq la lb lx ly RK hV hK x0 y0 hL hle hlen
          rcases hf with ⟨rfl, he⟩ | ⟨rfl, he, hl⟩ | ⟨rfl, hl, hs, he⟩
          · have He := Lib.hid he
            clear he
            go_enter Tryd.func61, Tryd.ntmps61
            go_wp2_with fail
            refine (A1.out _).mono ?_
            rintro e w' ⟨rfl, rfl⟩
            go_wp2_with fail
            refine (B1.out _).mono ?_
            rintro e w' ⟨rfl, rfl⟩
            have c0 := Below.refl w.heap.size w
            go_wp2_with fail
            refine (S1.out _).mono ?_
            rintro e w1 ⟨rfl, hb1⟩
            have c1 := c0.trans (hb1.mono c0.size)
            clear hb1 c0
            go_wp2_with fail
            refine (S2.out _).mono ?_
            rintro e w2 ⟨rfl, hb2⟩
            have c2 := c1.trans (hb2.mono c1.size)
            clear hb2 c1
            go_wp2_with fail
            refine (SM.out _).mono ?_
            rintro e w' ⟨rfl, rfl⟩
            go_wp2_with fail
            refine (R1.out _).mono ?_
            rintro e w4 ⟨rfl, hb4⟩
            have c4 := c2.trans (hb4.mono c2.size)
            clear hb4 c2
            go_wp2
            go_ret2
            exact ⟨ret_sb He.out rfl, c4⟩
          · have q1 : (V.toList == [48]) = true := by rw [hl]; rfl
            have q2 : (V.toList != [48]) = false := by rw [hl]; rfl
            have He := Lib.hid he
            clear he hl
            go_enter Tryd.func61, Tryd.ntmps61
            go_wp2_with fail
            refine (A1.out _).mono ?_
            rintro e w' ⟨rfl, rfl⟩
            go_wp2_with fail
            refine (B1.out _).mono ?_
            rintro e w' ⟨rfl, rfl⟩
            have c0 := Below.refl w.heap.size w
            go_wp2_with fail
            refine (S1.out _).mono ?_
            rintro e w1 ⟨rfl, hb1⟩
            have c1 := c0.trans (hb1.mono c0.size)
            clear hb1 c0
            go_wp2_with fail
            refine (S2.out _).mono ?_
            rintro e w2 ⟨rfl, hb2⟩
            have c2 := c1.trans (hb2.mono c1.size)
            clear hb2 c1
            go_wp2_with fail
            refine (SM.out _).mono ?_
            rintro e w' ⟨rfl, rfl⟩
            go_wp2_with fail
            refine (R1.out _).mono ?_
            rintro e w4 ⟨rfl, hb4⟩
            have c4 := c2.trans (hb4.mono c2.size)
            clear hb4 c2
            go_wp2
            go_ret2
            exact ⟨ret_sb He.out rfl, c4⟩
          · have q1 : (V.toList == [48]) = false := by simpa using hl
            have q2 : (V.toList != [48]) = true := by simpa using hl
            have He := Lib.hid he
            have a1 : ∀ W, (Op.stringOp .add (ByteArray.mk #[45]) V).run Tryd.prog W = .ok (.string (ByteArray.mk #[45] ++ V)) W := fun W => run_string_add W _ _ (by rw [show (ByteArray.mk #[45]).size = 1 from rfl]; decide) (by omega)
            clear he hl hs
            go_enter Tryd.func61, Tryd.ntmps61
            go_wp2_with fail
            refine (A1.out _).mono ?_
            rintro e w' ⟨rfl, rfl⟩
            go_wp2_with fail
            refine (B1.out _).mono ?_
            rintro e w' ⟨rfl, rfl⟩
            have c0 := Below.refl w.heap.size w
            go_wp2_with fail
            refine (S1.out _).mono ?_
            rintro e w1 ⟨rfl, hb1⟩
            have c1 := c0.trans (hb1.mono c0.size)
            clear hb1 c0
            go_wp2_with fail
            refine (S2.out _).mono ?_
            rintro e w2 ⟨rfl, hb2⟩
            have c2 := c1.trans (hb2.mono c1.size)
            clear hb2 c1
            go_wp2_with fail
            refine (SM.out _).mono ?_
            rintro e w' ⟨rfl, rfl⟩
            go_wp2_with fail
            refine (R1.out _).mono ?_
            rintro e w4 ⟨rfl, hb4⟩
            have c4 := c2.trans (hb4.mono c2.size)
            clear hb4 c2
            go_wp2
            go_ret2
            exact ⟨ret_sb He.out rfl, c4⟩
        | false =>
          rw [hL, if_neg (by simp)] at hrad
          have hle : M.dval y ≤ M.dval x := by rw [hL] at hless; have := of_decide_eq_false hless.symm; omega
          have hlen := M.row_len x y rx ry hle
          have SM := Lib.hid (fun W => refsmall_any x y false W (by omega) (by omega) hL)
          have RK := fun W => reck_dif x y W lx ly x0 rx.1 ry.1 hlen hle
          have hne2 : q = !p := by revert hpq; cases p <;> cases q <;> simp
          subst hne2
          clear hpq
          obtain ⟨V, hV⟩ : ∃ V, bytes (M.decS (M.dval x - M.dval y)) = V := ⟨_, rfl⟩
          have hf := fin _ _ hrad (by omega)
          rw [hV] at hf RK
          have R1 := Lib.hid RK
          clear fin hrad hZ dlx dly hpw hless rx ry ha hb hx hy hp hq la lb lx ly RK hV hK x0 y0 hL hle hlen
          rcases hf with ⟨rfl, he⟩ | ⟨rfl, he, hl⟩ | ⟨rfl, hl, hs, he⟩
          · have He := Lib.hid he
            clear he
            go_enter Tryd.func61, Tryd.ntmps61
            go_wp2_with fail
            refine (A1.out _).mono ?_
            rintro e w' ⟨rfl, rfl⟩
            go_wp2_with fail
            refine (B1.out _).mono ?_
            rintro e w' ⟨rfl, rfl⟩
            have c0 := Below.refl w.heap.size w
            go_wp2_with fail
            refine (S1.out _).mono ?_
            rintro e w1 ⟨rfl, hb1⟩
            have c1 := c0.trans (hb1.mono c0.size)
            clear hb1 c0
            go_wp2_with fail
            refine (S2.out _).mono ?_
            rintro e w2 ⟨rfl, hb2⟩
            have c2 := c1.trans (hb2.mono c1.size)
            clear hb2 c1
            go_wp2_with fail
            refine (SM.out _).mono ?_
            rintro e w' ⟨rfl, rfl⟩
            go_wp2_with fail
            refine (R1.out _).mono ?_
            rintro e w4 ⟨rfl, hb4⟩
            have c4 := c2.trans (hb4.mono c2.size)
            clear hb4 c2
            go_wp2
            go_ret2
            exact ⟨ret_sb He.out rfl, c4⟩
          · have q1 : (V.toList == [48]) = true := by rw [hl]; rfl
            have q2 : (V.toList != [48]) = false := by rw [hl]; rfl
            have He := Lib.hid he
            clear he hl
            go_enter Tryd.func61, Tryd.ntmps61
            go_wp2_with fail
            refine (A1.out _).mono ?_
            rintro e w' ⟨rfl, rfl⟩
            go_wp2_with fail
            refine (B1.out _).mono ?_
            rintro e w' ⟨rfl, rfl⟩
            have c0 := Below.refl w.heap.size w
            go_wp2_with fail
            refine (S1.out _).mono ?_
            rintro e w1 ⟨rfl, hb1⟩
            have c1 := c0.trans (hb1.mono c0.size)
            clear hb1 c0
            go_wp2_with fail
            refine (S2.out _).mono ?_
            rintro e w2 ⟨rfl, hb2⟩
            have c2 := c1.trans (hb2.mono c1.size)
            clear hb2 c1
            go_wp2_with fail
            refine (SM.out _).mono ?_
            rintro e w' ⟨rfl, rfl⟩
            go_wp2_with fail
            refine (R1.out _).mono ?_
            rintro e w4 ⟨rfl, hb4⟩
            have c4 := c2.trans (hb4.mono c2.size)
            clear hb4 c2
            go_wp2
            go_ret2
            exact ⟨ret_sb He.out rfl, c4⟩
          · have q1 : (V.toList == [48]) = false := by simpa using hl
            have q2 : (V.toList != [48]) = true := by simpa using hl
            have He := Lib.hid he
            have a1 : ∀ W, (Op.stringOp .add (ByteArray.mk #[45]) V).run Tryd.prog W = .ok (.string (ByteArray.mk #[45] ++ V)) W := fun W => run_string_add W _ _ (by rw [show (ByteArray.mk #[45]).size = 1 from rfl]; decide) (by omega)
            clear he hl hs
            go_enter Tryd.func61, Tryd.ntmps61
            go_wp2_with fail
            refine (A1.out _).mono ?_
            rintro e w' ⟨rfl, rfl⟩
            go_wp2_with fail
            refine (B1.out _).mono ?_
            rintro e w' ⟨rfl, rfl⟩
            have c0 := Below.refl w.heap.size w
            go_wp2_with fail
            refine (S1.out _).mono ?_
            rintro e w1 ⟨rfl, hb1⟩
            have c1 := c0.trans (hb1.mono c0.size)
            clear hb1 c0
            go_wp2_with fail
            refine (S2.out _).mono ?_
            rintro e w2 ⟨rfl, hb2⟩
            have c2 := c1.trans (hb2.mono c1.size)
            clear hb2 c1
            go_wp2_with fail
            refine (SM.out _).mono ?_
            rintro e w' ⟨rfl, rfl⟩
            go_wp2_with fail
            refine (R1.out _).mono ?_
            rintro e w4 ⟨rfl, hb4⟩
            have c4 := c2.trans (hb4.mono c2.size)
            clear hb4 c2
            go_wp2
            go_ret2
            exact ⟨ret_sb He.out rfl, c4⟩
end Go.Proofs.YtlobinjdgcidmaaDoor

/- Numbers: the reference's RightNum. -/
namespace Go.Proofs.YtlobinjdgcidmaaDoor
open Go.RowKit
set_option linter.unusedVariables false
set_option linter.unusedSimpArgs false

end Go.Proofs.YtlobinjdgcidmaaDoor

/- Numbers: the reference's run and stripped. -/
namespace Go.Proofs.YtlobinjdgcidmaaDoor
open Go.RowKit
set_option linter.unusedVariables false
set_option linter.unusedSimpArgs false

theorem get_of (l : List UInt8) (S : ByteArray) (hS : bytes l = S) : S.size = l.length ∧ ∀ (j : Nat) (h : j < S.size) (h2 : j < l.length), S[j]'h = l[j] := by
  subst hS
  exact ⟨bytes_size l, fun j h h2 => rfl⟩
set_option maxRecDepth 100000 in
set_option maxHeartbeats 1000000 in
theorem runn_any (l : List UInt8) (i r : Nat) (w : World) (hl : l.length ≤ 4000000) (hi : i ≤ l.length) (hr : i + (M.dg (l.drop i)).length = r) :
    Calls Tryd.prog 59 #[.string (bytes l), .int .i64 (i : Int)] w fun e w' => e = .returned (.int .i64 (r : Int)) ∧ w = w' := by
  obtain ⟨S, hS⟩ : ∃ S, bytes l = S := ⟨_, rfl⟩
  obtain ⟨hsz, hget⟩ := get_of l S hS
  obtain ⟨n, hn⟩ : ∃ n, (M.dg (l.drop i)).length = n := ⟨_, rfl⟩
  have hg := dg_get (l.drop i)
  rw [hn] at hg hr
  have hnl : i + n ≤ l.length := by
    have := dg_len (l.drop i) _ rfl
    rw [List.length_drop, hn] at this; omega
  rw [hS]
  have HG := Lib.hid hg
  have Hget := Lib.hid hget
  have HSZ := Lib.hid hsz
  subst hr
  have s1 : S.size ≤ 4000000 := by omega
  have s2 : i + n ≤ S.size := by omega
  clear hS hn hg hget hsz hi hl hnl
  go_enter Tryd.func59, Tryd.ntmps59
  go_wp2
  go_loop [1] (fun iv => ∃ k : Nat, iv = .int .i64 ((i + k : Nat) : Int) ∧ k ≤ n) (fun iv => S.size - (intOf iv).toNat)
  case atStart => exact ⟨0, rfl, by omega⟩
  case round =>
    obtain ⟨k, rfl, hk⟩ := hrel
    obtain ⟨j, hj⟩ : ∃ j, i + k = j := ⟨_, rfl⟩
    rw [hj]
    have Hj := Lib.hid hj
    by_cases hlt : k < n
    · obtain ⟨g1, g2⟩ := (HG.out k).1 hlt
      have hjl : j < l.length := by rw [List.length_drop] at g1; omega
      have hjs : j < S.size := by rw [HSZ.out]; exact hjl
      have hsk := Hget.out j hjs hjl
      have hd : M.dig l[j] = true := by rw [← g2]; congr 1; simp [hj]
      obtain ⟨c, hc⟩ : ∃ c, l[j] = c := ⟨_, rfl⟩
      rw [hc] at hsk hd
      obtain ⟨d1, d2⟩ := (M.dig_iff c).1 hd
      have q1 : decide (48 ≤ (c.toNat : Int)) = true := by simp; omega
      have q2 : decide ((c.toNat : Int) ≤ 57) = true := by simp; omega
      clear g1 g2 hd hc d1 d2 hj hjl
      go_wp2
      go_round
      case rel => exact ⟨k + 1, by have := Hj.out; rw [show i + (k + 1) = j + 1 by omega]; go_num, by omega⟩
      case measure => simp [intOf]; omega
    · obtain rfl : k = n := by omega
      clear hlt
      by_cases hjs : j < S.size
      · have hjl : j < l.length := by rw [← HSZ.out]; exact hjs
        have g2 := (HG.out k).2 rfl (by rw [List.length_drop]; omega)
        have hsk := Hget.out j hjs hjl
        have hd : M.dig l[j] = false := by rw [← g2]; congr 1; simp [hj]
        obtain ⟨c, hc⟩ : ∃ c, l[j] = c := ⟨_, rfl⟩
        rw [hc] at hsk hd
        have hcc : c.toNat < 48 ∨ (48 ≤ c.toNat ∧ 57 < c.toNat) := by
          have : ¬ (48 ≤ c.toNat ∧ c.toNat ≤ 57) := fun h' => by rw [(M.dig_iff c).2 h'] at hd; exact absurd hd (by simp)
          omega
        clear g2 hd hc hj hjl
        rcases hcc with c1 | ⟨c1, c2⟩
        · have q1 : decide (48 ≤ (c.toNat : Int)) = false := by simp; omega
          go_wp2
          go_ret
          exact ⟨ret_i (by have := Hj.out; omega), rfl⟩
        · have q1 : decide (48 ≤ (c.toNat : Int)) = true := by simp; omega
          have q2 : decide ((c.toNat : Int) ≤ 57) = false := by simp; omega
          go_wp2
          go_ret
          exact ⟨ret_i (by have := Hj.out; omega), rfl⟩
      · clear hj
        have q0 : ¬ (j : Int) < S.size := by omega
        go_wp2
        go_ret
        exact ⟨ret_i (by have := Hj.out; omega), rfl⟩
theorem strip_row (l : List UInt8) (hd : ∀ c ∈ l, M.dig c = true) (hne : l ≠ []) (h : l.length = 1 ∨ l.head? ≠ some 48) : l = M.decS (M.dval l) := by
  rcases h with h | h
  · obtain ⟨c, rfl⟩ := List.length_eq_one_iff.1 h
    have h1 := (M.dig_iff c).1 (hd c (by simp))
    have h2 : M.dval [c] = c.toNat - 48 := by simp [M.dval]
    rw [h2, M.decS_small _ (by omega)]
    congr 1
    apply UInt8.toNat_inj.1
    rw [M.ofD_nat]; omega
  · have h0 := M.dval_pos l hd h hne
    unfold M.decS
    rw [if_neg h0]
    exact (M.canon_self l hd h).symm
set_option maxRecDepth 100000 in
set_option maxHeartbeats 2000000 in
theorem stripped_any (l r : List UInt8) (w : World) (hl : l.length ≤ 4000000) (hd : ∀ c ∈ l, M.dig c = true) (hne : l ≠ []) (hr : M.decS (M.dval l) = r) :
    Calls Tryd.prog 60 #[.string (bytes l)] w fun e w' => e = .returned (.string (bytes r)) ∧ w = w' := by
  have Hd := Lib.hid hd
  have Hr := Lib.hid hr
  have h0 : Hid (M.dval l = M.dval l) := Lib.hid rfl
  have hpos := List.length_pos_iff.2 hne
  obtain ⟨n, hn⟩ : ∃ n, l.length = n := ⟨_, rfl⟩
  rw [hn] at hl hpos
  have HN := Lib.hid hn
  clear hd hr hn hne
  go_enter Tryd.func60, Tryd.ntmps60
  go_wp2
  go_loop [0] (fun sv => ∃ k : Nat, sv = .string (bytes (l.drop k)) ∧ k < n ∧ M.dval (l.drop k) = M.dval l) (fun sv => match sv with | .string s => s.size | _ => 0)
  case atStart => exact ⟨0, rfl, hpos, rfl⟩
  case round =>
    obtain ⟨k, rfl, hk, hv⟩ := hrel
    have hkl : k < l.length := by rw [HN.out]; exact hk
    have hdk : ∀ c ∈ l.drop k, M.dig c = true := fun c hc => Hd.out c (List.mem_of_mem_drop hc)
    have hcons := List.drop_eq_getElem_cons hkl
    obtain ⟨c, hc⟩ : ∃ c, l[k] = c := ⟨_, rfl⟩
    rw [hc] at hcons
    have hlen : (l.drop k).length = n - k := by rw [List.length_drop, HN.out]
    have hext := ext_from (l.drop k) 1
    rw [List.drop_drop, hlen] at hext
    obtain ⟨T, hT⟩ : ∃ T, bytes (l.drop k) = T := ⟨_, rfl⟩
    obtain ⟨hz, hget⟩ := get_of _ T hT
    rw [hlen] at hz
    have hz2 := bytes_size (l.drop (k + 1))
    rw [List.length_drop, HN.out] at hz2
    have hT0 : ∀ h : 0 < T.size, T[0]'h = c := fun h => by
      rw [hget 0 h (by rw [hlen]; omega)]
      simp [hcons]
    rw [hT] at hext ⊢
    rw [← hz] at hext
    have z0 : 0 < T.size := by omega
    have f1 := hT0 z0
    have z4 : T.size ≤ 4000000 := by omega
    by_cases hgo : 1 < T.size ∧ c = 48
    · obtain ⟨g1, rfl⟩ := hgo
      have hv2 : M.dval (l.drop (k + 1)) = M.dval l := by
        rw [← hv, hcons]
        have := M.dval_lead 1 (l.drop (k + 1))
        simpa using this.symm
      have HX := Lib.hid hext
      have HV := Lib.hid hv2
      have HZ2 := Lib.hid hz2
      have HZ := Lib.hid hz
      clear hdk hcons hlen hget hT0 hv hv2 hT hext hc hz2 hz
      go_wp2
      go_round
      case rel => exact ⟨k + 1, congrArg Value.string HX.out, by have := HZ.out; omega, HV.out⟩
      case measure =>
        have h1 := congrArg ByteArray.size HX.out
        have h2 := HZ2.out
        have h3 := HZ.out
        simp only
        omega
    · have hfin : bytes r = T := by
        rw [← hT, ← Hr.out, ← hv, ← strip_row (l.drop k) hdk (by rw [hcons]; simp) (by
          by_cases h1 : 1 < T.size
          · right; rw [hcons]; simp; exact fun h => hgo ⟨h1, h⟩
          · left; omega)]
      have HF := Lib.hid hfin
      have hw : T.size ≤ 1 ∨ (1 < T.size ∧ ((c.toNat : Int) == 48) = false) := by
        by_cases h1 : 1 < T.size
        · right
          refine ⟨h1, ?_⟩
          rw [beq_eq_false_iff_ne]
          intro h; apply hgo
          exact ⟨h1, UInt8.toNat_inj.1 (by show c.toNat = 48; omega)⟩
        · left; omega
      clear hdk hcons hlen hget hT0 hv hT hext hc hz2 hz hfin hgo
      rcases hw with h1 | ⟨h1, h2⟩
      all_goals
        go_wp2
        go_ret
        exact ⟨by rw [HF.out]; rfl, rfl⟩
end Go.Proofs.YtlobinjdgcidmaaDoor

/- Numbers: the reference's ReadNum. -/
namespace Go.Proofs.YtlobinjdgcidmaaDoor
open Go.RowKit
set_option linter.unusedVariables false
set_option linter.unusedSimpArgs false

def Two (w : World) (ng : Bool) (W : World) : Prop :=
  Box w.heap.size (.bool false) (.string ⟨#[]⟩) (.string ⟨#[]⟩) W ∧ Box (w.heap.size + 1) (.bool ng) (.string ⟨#[]⟩) (.string ⟨#[]⟩) W ∧
  (W.frozen? ⟨w.heap.size, 0, none⟩ = false ∧ W.frozen? ⟨w.heap.size, 1, none⟩ = false ∧ W.frozen? ⟨w.heap.size, 2, none⟩ = false) ∧
  (W.frozen? ⟨w.heap.size + 1, 0, none⟩ = false ∧ W.frozen? ⟨w.heap.size + 1, 1, none⟩ = false ∧ W.frozen? ⟨w.heap.size + 1, 2, none⟩ = false) ∧ W.heap.size = w.heap.size + 2 ∧ Below w.heap.size w W
theorem cat_big (a b c : List UInt8) (h : a ++ b = c) (ha : a.length ≤ 4000000) (hb : b.length ≤ 4000000) : ∀ W : World, (Op.stringOp .add (bytes a) (bytes b)).run Tryd.prog W = .ok (.string (bytes c)) W := by
  intro W
  rw [run_string_add W _ _ (by rw [bytes_size]; omega) (by rw [bytes_size]; omega), ← h]
  apply congrArg (fun x => Result.ok (Value.string x) W)
  apply ByteArray.ext; simp [bytes]
theorem dec_split (v : Nat) : ∃ (P : List UInt8) (k : Nat), M.decS v = P ++ List.replicate k 48 ∧ (P = [] ∨ P.getLast? ≠ some 48) ∧ ∀ e : Int, M.nz v e = if P = [] then ([], []) else (P, M.txt (e + k)) := by
  by_cases h : v = 0
  · subst h
    exact ⟨[], 1, by decide, .inl rfl, fun e => by rw [M.nz_zero, if_pos rfl]⟩
  · obtain ⟨m, k, hm, rfl⟩ := M.core_ex v h
    have hm0 : m ≠ 0 := by intro h0; subst h0; exact hm rfl
    refine ⟨M.canon m, k, ?_, .inr (M.canon_last m hm), fun e => ?_⟩
    · unfold M.decS; rw [if_neg h, M.canon_zeros m k hm0]
    · rw [M.nz_pow, M.nz_core _ _ hm, if_neg (M.canon_ne m hm0)]
theorem sign_ways (l : List UInt8) (ng : Bool) (r : List UInt8) (h : M.csign l = (ng, r)) : ∃ i, i ≤ 1 ∧ i ≤ l.length ∧ r = l.drop i ∧
    ((i = 0 ∧ ng = false ∧ l = []) ∨ (i = 0 ∧ ng = false ∧ ∃ c t, l = c :: t ∧ ((c.toNat : Int) == 43) = false ∧ ((c.toNat : Int) == 45) = false) ∨ (i = 1 ∧ ng = false ∧ ∃ t, l = 43 :: t) ∨ (i = 1 ∧ ng = true ∧ ∃ t, l = 45 :: t)) := by
  have key : ∀ (a : Bool) (x : List UInt8), M.csign l = (a, x) → ng = a ∧ r = x := fun a x e => by
    rw [h] at e; simp only [Prod.mk.injEq] at e; exact e
  cases l with
  | nil =>
    obtain ⟨rfl, rfl⟩ := key false [] rfl
    exact ⟨0, by omega, by omega, rfl, .inl ⟨rfl, rfl, rfl⟩⟩
  | cons c t =>
    by_cases h1 : c = 43
    · subst h1
      obtain ⟨rfl, rfl⟩ := key false t (M.csign_plus t)
      exact ⟨1, by omega, by simp, rfl, .inr (.inr (.inl ⟨rfl, rfl, _, rfl⟩))⟩
    · by_cases h2 : c = 45
      · subst h2
        obtain ⟨rfl, rfl⟩ := key true t (M.csign_minus t)
        exact ⟨1, by omega, by simp, rfl, .inr (.inr (.inr ⟨rfl, rfl, _, rfl⟩))⟩
      · obtain ⟨rfl, rfl⟩ := key false (c :: t) (by unfold M.csign M.isNeg M.unsign; simp [h1, h2])
        refine ⟨0, by omega, by omega, rfl, .inr (.inl ⟨rfl, rfl, c, t, rfl, ?_, ?_⟩)⟩
        · rw [beq_eq_false_iff_ne]; intro e; exact h1 (UInt8.toNat_inj.1 (by show c.toNat = 43; omega))
        · rw [beq_eq_false_iff_ne]; intro e; exact h2 (UInt8.toNat_inj.1 (by show c.toNat = 45; omega))
theorem two_new (w : World) : Two w false ((w.alloc (.cells #[.bool false, .string ⟨#[]⟩, .string ⟨#[]⟩] 33)).alloc (.cells #[.bool false, .string ⟨#[]⟩, .string ⟨#[]⟩] 33)) := by
  obtain ⟨W, hW⟩ : ∃ W, w.alloc (.cells #[.bool false, .string ⟨#[]⟩, .string ⟨#[]⟩] 33) = W := ⟨_, rfl⟩
  have z : W.heap.size = w.heap.size + 1 := by rw [← hW]; simp
  have d : Below w.heap.size w W := by rw [← hW]; exact (Below.refl _ _).alloc (Nat.le_refl _) _
  have c : Box w.heap.size (.bool false) (.string ⟨#[]⟩) (.string ⟨#[]⟩) W := by
    rw [← hW]; exact ⟨by rw [World.cell?_alloc_at _ _ _ _ rfl]; rfl, by rw [World.cell?_alloc_at _ _ _ _ rfl]; rfl, by rw [World.cell?_alloc_at _ _ _ _ rfl]; rfl⟩
  have f : ∀ k, W.frozen? ⟨w.heap.size, k, none⟩ = false := fun k => by rw [← hW]; exact World.frozen?_alloc_at _ _ _ _ rfl
  rw [hW]
  have d2 : Below W.heap.size W (W.alloc (.cells #[.bool false, .string ⟨#[]⟩, .string ⟨#[]⟩] 33)) := (Below.refl _ _).alloc (Nat.le_refl _) _
  have hf2 := (bcell d2).2
  refine ⟨box_keep c d2 (by omega), ?_, ⟨?_, ?_, ?_⟩, ⟨?_, ?_, ?_⟩, by simp [z], d.trans (d2.mono (by omega))⟩
  · rw [← z]; exact ⟨by rw [World.cell?_alloc_at _ _ _ _ rfl]; rfl, by rw [World.cell?_alloc_at _ _ _ _ rfl]; rfl, by rw [World.cell?_alloc_at _ _ _ _ rfl]; rfl⟩
  · rw [hf2 _ _ (by omega)]; exact f 0
  · rw [hf2 _ _ (by omega)]; exact f 1
  · rw [hf2 _ _ (by omega)]; exact f 2
  · exact World.frozen?_alloc_at _ _ _ _ z.symm
  · exact World.frozen?_alloc_at _ _ _ _ z.symm
  · exact World.frozen?_alloc_at _ _ _ _ z.symm
theorem two_set {w W : World} (ng : Bool) (h : Two w false W) : Two w ng (W.setCell ⟨w.heap.size + 1, 0, none⟩ (.bool ng)) := by
  obtain ⟨⟨a0, a1, a2⟩, ⟨b0, b1, b2⟩, ⟨f0, f1, f2⟩, ⟨e0, e1, e2⟩, hz, hb⟩ := h
  have o : ∀ (n k : Nat), ¬ (n = w.heap.size + 1 ∧ k = 0) → (W.setCell ⟨w.heap.size + 1, 0, none⟩ (.bool ng)).cell? ⟨n, k, none⟩ = W.cell? ⟨n, k, none⟩ := fun n k h => World.cell?_setCell_other _ _ _ _ (by intro e; simp only [Addr.mk.injEq, and_true] at e; exact h ⟨e.1.symm, e.2.symm⟩)
  refine ⟨⟨?_, ?_, ?_⟩, ⟨?_, ?_, ?_⟩, ?_, ?_, ?_, hb.setCell (by simp) _⟩
  · rw [o _ _ (by omega)]; exact a0
  · rw [o _ _ (by omega)]; exact a1
  · rw [o _ _ (by omega)]; exact a2
  · rw [World.cell?_setCell_same' _ _ _ (by rw [b0]; rfl)]
  · rw [o _ _ (by omega)]; exact b1
  · rw [o _ _ (by omega)]; exact b2
  · simp only [World.frozen?_setCell]; exact ⟨f0, f1, f2⟩
  · simp only [World.frozen?_setCell]; exact ⟨e0, e1, e2⟩
  · simp [World.setCell, hz]
end Go.Proofs.YtlobinjdgcidmaaDoor
