import Derived.Test.YtimjbjppmhdjnaaGreatDoorMgN
import Derived.Test.YtimjbjppmhdjnaaGreatDoorMgM
set_option maxHeartbeats 2000000
set_option maxRecDepth 100000
namespace Go.Proofs.YtimjbjppmhdjnaaGreatDoor
open Go.RowKit
set_option linter.unusedVariables false
set_option linter.unusedSimpArgs false
theorem refdig_any (l : List UInt8) (r : Bool) (w : World) (hl : l.length <= 2000000) (hr : (!l.isEmpty && l.all M.dig) = r) :
  Calls Tryz.prog 49 #[.string (bytes l)] w fun e w' => e = .returned (.bool r) /\ w = w' := by
 have hsz := bytes_size l
 obtain ⟨s, hs⟩ : ∃ s, bytes l = s := ⟨_, rfl⟩
 have hsl : s.toList = l := by rw [<- hs, toList_bytes]
 rw [hs] at hsz ⊢
 have hget : ∀ (k : Nat) (hk : k < s.size) (hk2 : k < l.length), s[k] = l[k] := by
  intro k hk hk2
  subst hs
  rfl
 have Hr := Lib.hid hr
 have Hget := Lib.hid hget
 have Hsz := Lib.hid hsz
 have Hsl := Lib.hid hsl
 have hs1 : s.size <= 2000000 := by omega
 clear hr hget hs hsz hsl
 go_enter Tryz.func49, Tryz.ntmps49
 go_wp2
 go_loop [3] (fun iv => ∃ k : Nat, iv = .int .i64 k /\ k <= s.size /\ (l.take k).all M.dig = true) (fun iv => s.size - (intOf iv).toNat)
 case atStart => exact ⟨0, rfl, by omega, rfl⟩
 case round =>
  obtain ⟨k, rfl, hk, ht⟩ := hrel
  have Ht := Lib.hid ht
  clear ht
  by_cases hlt : k < s.size
  ·have hk2 : k < l.length := by rw [<- Hsz.out]; exact hlt
   have hsk := Hget.out k hlt hk2
   obtain ⟨c, hc⟩ : ∃ c, l[k] = c := ⟨_, rfl⟩
   rw [hc] at hsk
   have hnext : (l.take (k + 1)).all M.dig = M.dig c := by
    rw [List.take_succ_eq_append_getElem hk2, List.all_append, Ht.out, hc]; simp
   have hbad : M.dig c = false -> r = false := by
    intro hd
    rw [<- Hr.out]
    cases hh : l.all M.dig with
    | false => simp
    | true =>
     rw [List.all_eq_true] at hh
     have := hh c (by rw [<- hc]; exact List.getElem_mem hk2)
     rw [hd] at this; exact absurd this (by simp)
   have hdc := M.dig_iff c
   have Hnext := Lib.hid hnext
   have Hbad := Lib.hid hbad
   have Hsk := Lib.hid hsk
   by_cases hd : M.dig c = true
   ·have ⟨c1, c2⟩ := hdc.1 hd
    have q1 : decide ((c.toNat : Int) < 48) = false := by simp; omega
    have q2 : decide (57 < (c.toNat : Int)) = false := by simp; omega
    have Hd := Lib.hid hd
    clear hd hdc hbad hnext hc
    go_wp2
    go_round
    case rel => exact ⟨k + 1, by go_num, by omega, by rw [Hnext.out]; exact Hd.out⟩
    case measure => simp [intOf]; omega
   ·have hd' : M.dig c = false := by simpa using hd
    have hr2 := Hbad.out hd'
    subst hr2
    have hcc : c.toNat < 48 \/ (48 <= c.toNat /\ 57 < c.toNat) := by
     rw [hdc] at hd; omega
    clear hd hd' hdc hbad hnext hc
    rcases hcc with c1 | ⟨c1, c2⟩
    all_goals
     go_wp2
     go_ret
     exact ⟨rfl, rfl⟩
  ·obtain rfl : k = s.size := by omega
   have hr2 := Hr.out
   have := Ht.out
   rw [Hsz.out, List.take_length] at this
   rw [this, Bool.and_true] at hr2
   have hsl := Hsl.out
   subst hr2
   clear hlt this
   go_wp2
   go_ret
   exact ⟨rfl, rfl⟩
theorem bytes_tail (c : UInt8) (t : List UInt8) : (bytes (c :: t)).extract 1 (bytes (c :: t)).size = bytes t := by
 apply ByteArray.ext
 rw [ByteArray.data_extract, bytes_data, bytes_data, bytes_size]
 simp
theorem refright_any (l : List UInt8) (r : Bool) (w : World) (hl : l.length <= 2000000) (hr : M.rightD l = r) :
  Calls Tryz.prog 50 #[.string (bytes l)] w fun e w' => e = .returned (.bool r) /\ w = w' := by
 obtain ⟨S, hS⟩ : ∃ S, bytes l = S := ⟨_, rfl⟩
 have hSl : S.toList = l := by rw [<- hS, toList_bytes]
 have hSs : S.size = l.length := by rw [<- hS, bytes_size]
 rw [hS]
 by_cases h0 : l = [48]
 ·subst h0
  have : r = true := by rw [<- hr]; rfl
  subst this
  clear hr hl hS hSs
  go_enter Tryz.func50, Tryz.ntmps50
  go_wp2
  go_ret
  exact ⟨rfl, rfl⟩
 ·have n0 : (S.toList == [48]) = false := by rw [hSl]; simpa using h0
  cases l with
  | nil =>
   have : r = false := by rw [<- hr]; rfl
   subst this
   have d1 := fun W => refdig_any [] false W (by simp) rfl
   rw [hS] at d1
   have D1 := Lib.hid d1
   have hS0 : S.size = 0 := hSs
   have n1 : ¬ (0 < S.size) := by omega
   clear hr hl h0 hS hSl d1 hSs
   go_enter Tryz.func50, Tryz.ntmps50
   go_wp2_with fail
   refine (D1.out _).mono ?_
   rintro e w' ⟨rfl, rfl⟩
   go_wp2
   go_ret
   exact ⟨rfl, rfl⟩
  | cons c t =>
   have hpos : 0 < S.size := by rw [hSs]; simp
   have hS0 : ∀ h : 0 < S.size, S[0]'h = c := by intro h; subst hS; rfl
   have hS1 := hS0 hpos
   by_cases hc : c = 45
   ·subst hc
    have htl := bytes_tail 45 t
    rw [hS] at htl
    obtain ⟨T, hT⟩ : ∃ T, bytes t = T := ⟨_, rfl⟩
    rw [hT] at htl
    have Htl := Lib.hid htl
    clear htl
    have hu : M.unsign (45 :: t) = t := by simp [M.unsign]
    unfold M.rightD at hr
    rw [hu, show ((45 :: t : List UInt8) == [48]) = false by simp, Bool.false_or] at hr
    clear hu
    cases hdd : (!t.isEmpty && t.all M.dig) with
    | false =>
     have : r = false := by
      rw [<- hr]
      revert hdd
      cases t.isEmpty <;> cases t.all M.dig <;> simp
     subst this
     have d1 := fun W => refdig_any t false W (by simp at hl ⊢; omega) hdd
     rw [hT] at d1
     have D1 := Lib.hid d1
     clear hr hl h0 hS hSl d1 hSs hS0 hdd hT
     go_enter Tryz.func50, Tryz.ntmps50
     go_wp2_with fail
     rw [Htl.out]
     refine (D1.out _).mono ?_
     rintro e w' ⟨rfl, rfl⟩
     go_wp2
     go_ret
     exact ⟨rfl, rfl⟩
    | true =>
     cases t with
     | nil => simp at hdd
     | cons d u =>
      have hpx : 0 < T.size := by rw [<- hT, bytes_size]; simp
      have hx0 : ∀ h : 0 < T.size, T[0]'h = d := by intro h; subst hT; rfl
      have hx1 := hx0 hpx
      have hall : (d :: u).all M.dig = true := by revert hdd; simp
      have hrr : r = !(decide (d = 48)) := by
       rw [<- hr, hall]
       by_cases hd : d = 48 <;> simp [hd]
      have d1 := fun W => refdig_any (d :: u) true W (by simp at hl ⊢; omega) hdd
      rw [hT] at d1
      have D1 := Lib.hid d1
      by_cases hd : d = 48
      ·subst hd
       have : r = false := by rw [hrr]; simp
       subst this
       clear hr hl h0 hS hSl d1 hSs hS0 hdd hT hx0 hall hrr
       go_enter Tryz.func50, Tryz.ntmps50
       go_wp2_with fail
       rw [Htl.out]
       refine (D1.out _).mono ?_
       rintro e w' ⟨rfl, rfl⟩
       go_wp2
       go_ret
       exact ⟨by simp, rfl⟩
      ·have : r = true := by rw [hrr]; simp [hd]
       subst this
       have dn : d.toNat ≠ 48 := fun hh => hd (UInt8.toNat_inj.1 hh)
       have q2 : ((d.toNat : Int) == 48) = false := by rw [beq_eq_false_iff_ne]; omega
       have q3 : ((d.toNat : Int) != 48) = true := by simp [bne, q2]
       clear hr hl h0 hS hSl d1 hSs hS0 hdd hT hx0 hall hrr hd dn
       go_enter Tryz.func50, Tryz.ntmps50
       go_wp2_with fail
       rw [Htl.out]
       refine (D1.out _).mono ?_
       rintro e w' ⟨rfl, rfl⟩
       go_wp2
       go_ret
       exact ⟨by simp [q3], rfl⟩
   ·have hu : M.unsign (c :: t) = c :: t := by simp [M.unsign, hc]
    have hcn : c.toNat ≠ 45 := fun hh => hc (UInt8.toNat_inj.1 hh)
    have p2 : ((c.toNat : Int) == 45) = false := by rw [beq_eq_false_iff_ne]; omega
    unfold M.rightD at hr
    rw [hu, show ((c :: t) == [48]) = false by simpa using h0, Bool.false_or] at hr
    clear hu hcn
    have hZ := hS
    obtain ⟨z, hz⟩ : ∃ z, c :: t = z := ⟨_, rfl⟩
    rw [hz] at hr hl hZ hS hSl hSs h0
    cases hdd : (!z.isEmpty && z.all M.dig) with
    | false =>
     have : r = false := by
      rw [<- hr]
      revert hdd
      cases z.isEmpty <;> cases z.all M.dig <;> simp
     subst this
     have d1 := fun W => refdig_any z false W hl hdd
     rw [hZ] at d1
     have D1 := Lib.hid d1
     clear hr hl h0 hS hSl d1 hSs hS0 hdd hZ hz
     go_enter Tryz.func50, Tryz.ntmps50
     go_wp2_with fail
     refine (D1.out _).mono ?_
     rintro e w' ⟨rfl, rfl⟩
     go_wp2
     go_ret
     exact ⟨rfl, rfl⟩
    | true =>
     cases z with
     | nil => simp at hdd
     | cons d u =>
      have hpx : 0 < S.size := by rw [<- hZ, bytes_size]; simp
      have hx0 : ∀ h : 0 < S.size, S[0]'h = d := by intro h; subst hZ; rfl
      have hx1 := hx0 hpx
      have hall : (d :: u).all M.dig = true := by revert hdd; simp
      have hrr : r = !(decide (d = 48)) := by
       rw [<- hr, hall]
       by_cases hd : d = 48 <;> simp [hd]
      have d1 := fun W => refdig_any (d :: u) true W (by simp at hl ⊢; omega) hdd
      rw [hZ] at d1
      have D1 := Lib.hid d1
      by_cases hd : d = 48
      ·subst hd
       have : r = false := by rw [hrr]; simp
       subst this
       clear hr hl h0 hS hSl d1 hSs hS0 hdd hZ hx0 hall hrr hz
       go_enter Tryz.func50, Tryz.ntmps50
       go_wp2_with fail
       refine (D1.out _).mono ?_
       rintro e w' ⟨rfl, rfl⟩
       go_wp2
       go_ret
       exact ⟨by have hcd := hS1.symm.trans hx1; simp [hcd], rfl⟩
      ·have : r = true := by rw [hrr]; simp [hd]
       subst this
       have dn : d.toNat ≠ 48 := fun hh => hd (UInt8.toNat_inj.1 hh)
       have q2 : ((d.toNat : Int) == 48) = false := by rw [beq_eq_false_iff_ne]; omega
       have q3 : ((d.toNat : Int) != 48) = true := by simp [bne, q2]
       clear hr hl h0 hS hSl d1 hSs hS0 hdd hZ hx0 hall hrr hd dn hz
       go_enter Tryz.func50, Tryz.ntmps50
       go_wp2_with fail
       refine (D1.out _).mono ?_
       rintro e w' ⟨rfl, rfl⟩
       go_wp2
       go_ret
       exact ⟨by have hcd := hS1.symm.trans hx1; simp [hcd, q3], rfl⟩
end Go.Proofs.YtimjbjppmhdjnaaGreatDoor
