/- Decimals: what signed, Right, lessDigits, Add and Less return. -/
import Derived.Test.YtpecaalpbeoolaaGreatDoorDSum
import Derived.Laws.Concat
import Derived.Test.YtpecaalpbeoolaaGreatDoorMgD
namespace Go.Proofs.YtpecaalpbeoolaaGreatDoor
open Go.RowKit
set_option linter.unusedVariables false

theorem strip_len (l : List UInt8) : (M.strip l).length ≤ l.length := by
  unfold M.strip; exact (List.dropWhile_sublist _).length_le
theorem toList_bytes (l : List UInt8) : (bytes l).toList = l := by
  rw [ByteArray.toList_eq]; simp [bytes]
set_option maxRecDepth 100000 in
set_option maxHeartbeats 400000 in
theorem signed_any (B : Nat) (neg : Bool) (v : Value) (l k : List UInt8) (w : World) (hv : OwnB B w v l) (hl : l.length ≤ 1000000) (hk : M.sgn neg l = k) :
    Calls Tryz.prog 133 #[.bool neg, v] w fun e w' => e = .returned (.string (bytes k)) ∧ w = w' := by
  have hcv := conv_own hv
  have htl := Tryz.strings_TrimLeft_one (bytes l) 48 (by decide) w
  rw [bytes_list, show (⟨(Lib.trimLeftB l 48).toArray⟩ : ByteArray) = bytes (M.strip l) from rfl] at htl
  have hsl := strip_len l
  have Htl := Lib.hid htl
  obtain ⟨S, hS⟩ : ∃ S, bytes (M.strip l) = S := ⟨_, rfl⟩
  have hSl : S.toList = M.strip l := by rw [← hS, toList_bytes]
  have hSs : S.size = (M.strip l).length := by rw [← hS, bytes_size]
  rw [hS] at Htl
  subst hk
  unfold M.sgn
  by_cases h0 : M.strip l = []
  · rw [if_pos h0]
    rw [h0] at hSl
    have e2 : S.toList.isEmpty = true := by rw [hSl]; rfl
    clear htl hS hSs hsl h0 hv
    go_enter Tryz.func133, Tryz.ntmps133
    go_wp2_with fail
    refine Htl.out.mono ?_
    rintro e w' ⟨rfl, rfl⟩
    go_wp2
    go_ret
    exact ⟨rfl, rfl⟩
  · rw [if_neg h0]
    obtain ⟨c, t, hct⟩ : ∃ c t, S.toList = c :: t := by
      rw [hSl]
      cases hh : M.strip l with
      | nil => exact absurd hh h0
      | cons c t => exact ⟨c, t, rfl⟩
    have hq : (ByteArray.mk #[45]).size = 1 := rfl
    have a1 : ∀ W, (Op.stringOp .add (ByteArray.mk #[45]) S).run Tryz.prog W = .ok (.string (ByteArray.mk #[45] ++ S)) W := fun W => run_string_add W _ _ (by rw [hq]; decide) (by omega)
    have hcat : ByteArray.mk #[45] ++ S = bytes (45 :: M.strip l) := by
      rw [← hS]; apply ByteArray.ext; simp [bytes]
    have Hcat := Lib.hid hcat
    have HS := Lib.hid hS
    clear htl hS hSl hSs hsl h0 hv hq hcat hl
    cases neg with
    | false =>
      go_enter Tryz.func133, Tryz.ntmps133
      go_wp2_with fail
      refine Htl.out.mono ?_
      rintro e w' ⟨rfl, rfl⟩
      go_wp2
      go_ret
      exact ⟨by rw [← HS.out]; rfl, rfl⟩
    | true =>
      go_enter Tryz.func133, Tryz.ntmps133
      go_wp2_with fail
      refine Htl.out.mono ?_
      rintro e w' ⟨rfl, rfl⟩
      go_wp2
      go_ret
      exact ⟨by rw [← Hcat.out]; rfl, rfl⟩

theorem unsign_len (l : List UInt8) : (M.unsign l).length ≤ l.length := by
  unfold M.unsign; split <;> simp
set_option maxRecDepth 100000 in
set_option maxHeartbeats 400000 in
theorem right_any (l : List UInt8) (r : Bool) (w : World) (hl : l.length ≤ 1000000) (hr : M.rightD l = r) :
    Calls Tryz.prog 130 #[.string (bytes l)] w fun e w' => e = .returned (.bool r) ∧ w = w' := by
  obtain ⟨S, hS⟩ : ∃ S, bytes l = S := ⟨_, rfl⟩
  have hSl : S.toList = l := by rw [← hS, toList_bytes]
  unfold M.rightD at hr
  by_cases h0 : l = [48]
  · subst h0
    have : r = true := by rw [← hr]; rfl
    subst this
    rw [hS]
    clear hS hr hl
    go_enter Tryz.func130, Tryz.ntmps130
    go_wp2
    go_ret
    exact ⟨rfl, rfl⟩
  · have q0 : (l == [48]) = false := by simpa using h0
    rw [q0, Bool.false_or] at hr
    obtain ⟨k, hk⟩ : ∃ k, M.unsign l = k := ⟨_, rfl⟩
    have hkl := unsign_len l
    rw [hk] at hr hkl
    have hd := unsign_any l k w hk
    obtain ⟨D, hD⟩ : ∃ D, bytes k = D := ⟨_, rfl⟩
    have hDl : D.toList = k := by rw [← hD, toList_bytes]
    rw [hS, hD] at hd
    rw [hS]
    have Hd := Lib.hid hd
    cases k with
    | nil =>
      have : r = false := by rw [← hr]; rfl
      subst this
      clear hd hS hD hr hk hkl hl h0
      go_enter Tryz.func130, Tryz.ntmps130
      go_wp2_with fail
      refine Hd.out.mono ?_
      rintro e w' ⟨rfl, rfl⟩
      go_wp2
      go_ret
      exact ⟨rfl, rfl⟩
    | cons c t =>
      have hsz : 0 < D.size := by rw [← hD, bytes_size]; simp
      have hD0 : ∀ h : 0 < D.size, D[0]'h = c := by intro h; subst hD; rfl
      have q1 : (c :: t == ([] : List UInt8)) = false := rfl
      by_cases hc : c = 48
      · subst hc
        have : r = false := by rw [← hr]; simp
        subst this
        have hD1 := hD0 hsz
        clear hd hS hD hr hk hkl hl h0 hD0
        go_enter Tryz.func130, Tryz.ntmps130
        go_wp2_with fail
        refine Hd.out.mono ?_
        rintro e w' ⟨rfl, rfl⟩
        go_wp2
        go_ret
        exact ⟨by simp, rfl⟩
      · have hall := fun W => alldig_any (c :: t) r W (by omega) (by rw [← hr]; simp [hc])
        rw [hD] at hall
        have Hall := Lib.hid hall
        have hcn : c.toNat ≠ 48 := fun hh => hc (UInt8.toNat_inj.1 hh)
        have q2 : ((c.toNat : Int) == 48) = false := by rw [beq_eq_false_iff_ne]; omega
        have q3 : ((c.toNat : Int) != 48) = true := by simp [bne, q2]
        have hD1 := hD0 hsz
        clear hd hS hD hr hk hkl hl h0 hD0 hall hc hcn
        go_enter Tryz.func130, Tryz.ntmps130
        go_wp2_with fail
        refine Hd.out.mono ?_
        rintro e w' ⟨rfl, rfl⟩
        go_wp2_with fail
        refine (Hall.out _).mono ?_
        rintro e w' ⟨rfl, rfl⟩
        go_wp2
        go_ret
        exact ⟨by simp, rfl⟩

theorem dless_iff (k l : List UInt8) : Op.bytesLess k l = decide (k < l) := by
  induction k generalizing l with
  | nil => cases l <;> simp [Op.bytesLess]
  | cons a k ih =>
    cases l with
    | nil => simp [Op.bytesLess]
    | cons b l =>
      simp only [Op.bytesLess, ih, List.cons_lt_cons_iff]
      by_cases h1 : a < b
      · simp [h1]
      · by_cases h2 : a = b
        · subst h2; simp [h1]
        · simp [h1, h2]
set_option maxRecDepth 100000 in
set_option maxHeartbeats 400000 in
theorem lessd_any (x y : List UInt8) (r : Bool) (w : World) (hx : x.length ≤ 1000000) (hy : y.length ≤ 1000000) (hr : M.lessB x y = r) :
    Calls Tryz.prog 135 #[.string (bytes x), .string (bytes y)] w fun e w' => e = .returned (.bool r) ∧ w = w' := by
  obtain ⟨S, hS⟩ : ∃ S, bytes x = S := ⟨_, rfl⟩
  obtain ⟨T, hT⟩ : ∃ S, bytes y = S := ⟨_, rfl⟩
  have s1 : S.size = x.length := by rw [← hS, bytes_size]
  have s2 : T.size = y.length := by rw [← hT, bytes_size]
  have hl : Op.bytesLess S.toList T.toList = decide (x < y) := by rw [← hS, ← hT, toList_bytes, toList_bytes, dless_iff]
  rw [hS, hT]
  unfold M.lessB at hr
  by_cases h0 : x.length = y.length
  · rw [if_neg (by simp [h0])] at hr
    rw [hr] at hl
    have q1 : ((S.size : Int) != T.size) = false := by simp [s1, s2, h0]
    have hST : S.size = T.size := by omega
    clear hr hS hT s1 s2 h0
    go_enter Tryz.func135, Tryz.ntmps135
    go_wp2
    go_ret
    exact ⟨rfl, rfl⟩
  · rw [if_pos h0] at hr
    have q1 : ((S.size : Int) != T.size) = true := by simp; omega
    have hST : ¬ S.size = T.size := by omega
    have hr2 : decide ((S.size : Int) < T.size) = r := by rw [← hr]; simp; omega
    clear hr hS hT s1 s2 h0 hl
    go_enter Tryz.func135, Tryz.ntmps135
    go_wp2
    go_ret
    exact ⟨by rw [← hr2]; simp, rfl⟩
end Go.Proofs.YtpecaalpbeoolaaGreatDoor
