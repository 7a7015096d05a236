/- The walk of NumberLeast. -/
import Derived.Test.YtfclkackfamdlaaGreatDoorNAlive
import Derived.Test.YtfclkackfamdlaaGreatDoorNRNum
namespace Go.Proofs.YtfclkackfamdlaaGreatDoor
open Go.RowKit
set_option linter.unusedVariables false
set_option linter.unusedSimpArgs false

theorem read_len (l D E : List UInt8) (ng : Bool) (hl : l.length ≤ 200) (h : M.readN l = ((ng, D, E), true)) : D.length ≤ 200 ∧ E.length ≤ 250 := by
  obtain ⟨K, hK⟩ : ∃ K, K = 200 := ⟨_, rfl⟩
  obtain ⟨p, o, hp⟩ : ∃ p o, M.divW l = (p, o) := ⟨_, _, rfl⟩
  unfold M.readN at h
  rw [hp] at h
  cases o with
  | false => simp at h
  | true =>
    obtain ⟨q1, q2, q3, q4⟩ := divW_dig l p hp
    simp only [if_true, Prod.mk.injEq, and_true] at h
    obtain ⟨_, h⟩ := h
    have e1 : (M.norm (p.2.1 ++ p.2.2.1) (M.expV p - p.2.2.1.length)) = (D, E) := h
    have l1 := M.strip_len2 (p.2.1 ++ p.2.2.1)
    have l2 := M.rstrip_len (M.strip (p.2.1 ++ p.2.2.1))
    have l3 : p.2.2.1.length ≤ 200 := by rw [List.length_append] at q3; omega
    have hx : (M.expV p).natAbs < 10 ^ K := by
      have h1 := M.dval_lt _ q2
      have h2 : (M.expV p).natAbs = M.dval p.2.2.2.2.2 := by unfold M.expV; split <;> omega
      rw [h2]
      exact Nat.lt_of_lt_of_le h1 (Nat.pow_le_pow_right (by omega) (by omega))
    unfold M.norm at e1
    split at e1
    · simp only [Prod.mk.injEq] at e1
      rw [← e1.1, ← e1.2]; simp
    · simp only [Prod.mk.injEq] at e1
      rw [← e1.1, ← e1.2]
      refine ⟨by omega, ?_⟩
      obtain ⟨d, hd⟩ : ∃ d : Int, -(p.2.2.1.length : Int) + (((M.strip (p.2.1 ++ p.2.2.1)).length : Int) - (M.rstrip (M.strip (p.2.1 ++ p.2.2.1))).length - (0 : Int)) = d := ⟨_, rfl⟩
      have hd2 : d.natAbs < 10 ^ K := by
        have : d.natAbs ≤ 400 := by omega
        exact Nat.lt_of_le_of_lt this (Nat.lt_of_lt_of_le (show 400 < 10 ^ 3 by decide) (Nat.pow_le_pow_right (by decide) (by omega)))
      have h3 := M.sum_abs (M.expV p) d K hx hd2
      have h4 := M.txt_len (M.expV p + d) (K + 1) (by omega) h3
      rw [show M.expV p - (p.2.2.1.length : Int) + (((M.strip (p.2.1 ++ p.2.2.1)).length : Int) - (M.rstrip (M.strip (p.2.1 ++ p.2.2.1))).length - (0 : Int)) = M.expV p + d by omega]
      omega
theorem readN_minus : (M.readN [45]).2 = false := by decide +kernel
set_option maxRecDepth 100000 in
set_option maxHeartbeats 8000000 in
theorem nleast_walk (s0 : ByteArray) (w : World) (m0 : s0.size ≤ maxLen) (u0 : s0.size ≤ 1048576) (hT : Tabs w) :
    Calls Tryz.prog 3 #[.string s0] w fun e w' => e = .returned (.bool true) ∧ Below w.heap.size w w' := by
  obtain ⟨l, hl⟩ : ∃ D, bytes D = s0 := ⟨s0.data.toList, bytes_of s0⟩
  have zl := bytes_size l
  rw [hl] at zl
  have al := Lib.hid (alive_any w hT)
  have HT := Lib.hid hT
  clear hT m0
  obtain ⟨⟨ng, D, E⟩, ok, hr⟩ : ∃ r o, M.readN l = (r, o) := ⟨_, _, rfl⟩
  have RR := Lib.hid (fun w => refread_any l (ng, D, E) ok w (by omega) hr)
  unfold numV at RR
  simp only [hl] at RR
  obtain ⟨SD, hSD⟩ : ∃ S, bytes D = S := ⟨_, rfl⟩
  obtain ⟨SE, hSE⟩ : ∃ S, bytes E = S := ⟨_, rfl⟩
  rw [hSD, hSE] at RR
  by_cases h200 : 200 < s0.size
  · have q : (200 : Int) < s0.size := by omega
    clear hl zl hr hSD hSE
    go_enter Tryz.func3, Tryz.ntmps3
    go_wp2_with fail
    refine al.out.mono ?_
    rintro e w1 ⟨rfl, hb1⟩
    go_wp2_with fail
    refine (RR.out _).mono ?_
    rintro e w2 ⟨rfl, hb2⟩
    have hb3 := hb1.trans (hb2.mono hb1.size)
    clear hb1 hb2
    go_wp2
    go_ret
    exact ⟨rfl, hb3.alloc hb3.size _⟩
  have q : ¬ (200 : Int) < s0.size := by omega
  cases ok with
  | false =>
    clear hl zl hr hSD hSE
    go_enter Tryz.func3, Tryz.ntmps3
    go_wp2_with fail
    refine al.out.mono ?_
    rintro e w1 ⟨rfl, hb1⟩
    go_wp2_with fail
    refine (RR.out _).mono ?_
    rintro e w2 ⟨rfl, hb2⟩
    have hb3 := hb1.trans (hb2.mono hb1.size)
    clear hb1 hb2
    go_wp2
    go_ret
    exact ⟨rfl, hb3.alloc hb3.size _⟩
  | true =>
    obtain ⟨hz, hget⟩ := get_of l s0 hl
    cases l with
    | nil => exact absurd (congrArg Prod.snd hr) (by rw [M.readN_nil]; simp)
    | cons c t =>
      have z1 : 0 < s0.size := by rw [hz]; simp
      have f0 := hget 0 z1 (by simp)
      simp only [List.getElem_cons_zero] at f0
      by_cases c45 : c = 45
      · subst c45
        cases t with
        | nil => exact absurd (congrArg Prod.snd hr) (by rw [readN_minus]; simp)
        | cons d t =>
          have z2 : 1 < s0.size := by rw [hz]; simp
          have f1 := hget 1 z2 (by simp)
          simp only [List.getElem_cons_succ, List.getElem_cons_zero] at f1
          by_cases c46 : d = 46
          · subst c46
            clear hl zl hr hSD hSE hget hz
            go_enter Tryz.func3, Tryz.ntmps3
            go_wp2_with fail
            refine al.out.mono ?_
            rintro e w1 ⟨rfl, hb1⟩
            go_wp2_with fail
            refine (RR.out _).mono ?_
            rintro e w2 ⟨rfl, hb2⟩
            have hb3 := hb1.trans (hb2.mono hb1.size)
            have hb4 := hb3.alloc hb3.size (.cells #[.bool ng, .string SD, .string SE] 24)
            have HB4 := Lib.hid hb4
            clear hb1 hb2 hb3 hb4
            go_wp2
            go_ret
            exact ⟨rfl, HB4.out⟩
          · have k1 : ((d.toNat : Int) == 46) = false := by rw [beq_eq_false_iff_ne]; intro e; exact c46 (UInt8.toNat_inj.1 (by show d.toNat = 46; omega))
            have HH1 : (45 :: d :: t : List UInt8).head? ≠ some 43 := by simp
            have HH2 : (M.csign (45 :: d :: t)).2.head? ≠ some 46 := by rw [M.csign_minus]; simpa using c46
            obtain ⟨hR, p1, p2⟩ := M.least (45 :: d :: t) D E ng (by omega) hr HH1 HH2
            obtain ⟨sh, hsh⟩ : ∃ s, M.shortN (M.plainN ng D E) = s := ⟨_, rfl⟩
            rw [hsh] at p1 p2
            obtain ⟨r1, r2⟩ := read_len (45 :: d :: t) D E ng (by omega) hr
            have SH := Lib.hid (fun w hw => short_any ng D E sh w hw (by omega) (by omega) hsh)
            unfold numV at SH
            simp only [hSD, hSE] at SH
            obtain ⟨SS, hSS⟩ : ∃ S, bytes sh = S := ⟨_, rfl⟩
            have zs := bytes_size sh
            rw [hSS] at SH zs
            have y1 : (0 : Int) < SS.size := by omega
            have y2 : (SS.size : Int) ≤ s0.size := by omega
            clear hR p1 p2 hsh r1 r2 hSS zs
            clear hl zl hr hSD hSE hget hz HH1 HH2 c46
            go_enter Tryz.func3, Tryz.ntmps3
            go_wp2_with fail
            refine al.out.mono ?_
            rintro e w1 ⟨rfl, hb1⟩
            go_wp2_with fail
            refine (RR.out _).mono ?_
            rintro e w2 ⟨rfl, hb2⟩
            have hb3 := hb1.trans (hb2.mono hb1.size)
            have hb4 := hb3.alloc hb3.size (.cells #[.bool ng, .string SD, .string SE] 24)
            have HB4 := Lib.hid hb4
            clear hb1 hb2 hb3 hb4
            go_wp2_with fail
            refine (SH.out _ (HT.out.keep HB4.out)).mono ?_
            rintro e w5 ⟨rfl, hb5⟩
            have hb6 := HB4.out.trans (hb5.mono HB4.out.size)
            clear hb5
            go_wp2
            go_ret
            exact ⟨by first | rfl | simp, hb6⟩
      · have k0 : ((c.toNat : Int) == 45) = false := by rw [beq_eq_false_iff_ne]; intro e; exact c45 (UInt8.toNat_inj.1 (by show c.toNat = 45; omega))
        by_cases c46 : c = 46
        · subst c46
          clear hl zl hr hSD hSE hget hz
          go_enter Tryz.func3, Tryz.ntmps3
          go_wp2_with fail
          refine al.out.mono ?_
          rintro e w1 ⟨rfl, hb1⟩
          go_wp2_with fail
          refine (RR.out _).mono ?_
          rintro e w2 ⟨rfl, hb2⟩
          have hb3 := hb1.trans (hb2.mono hb1.size)
          have hb4 := hb3.alloc hb3.size (.cells #[.bool ng, .string SD, .string SE] 24)
          have HB4 := Lib.hid hb4
          clear hb1 hb2 hb3 hb4
          go_wp2
          go_ret
          exact ⟨rfl, HB4.out⟩
        · have k1 : ((c.toNat : Int) == 46) = false := by rw [beq_eq_false_iff_ne]; intro e; exact c46 (UInt8.toNat_inj.1 (by show c.toNat = 46; omega))
          by_cases c43 : c = 43
          · subst c43
            clear hl zl hr hSD hSE hget hz
            go_enter Tryz.func3, Tryz.ntmps3
            go_wp2_with fail
            refine al.out.mono ?_
            rintro e w1 ⟨rfl, hb1⟩
            go_wp2_with fail
            refine (RR.out _).mono ?_
            rintro e w2 ⟨rfl, hb2⟩
            have hb3 := hb1.trans (hb2.mono hb1.size)
            have hb4 := hb3.alloc hb3.size (.cells #[.bool ng, .string SD, .string SE] 24)
            have HB4 := Lib.hid hb4
            clear hb1 hb2 hb3 hb4
            go_wp2
            go_ret
            exact ⟨rfl, HB4.out⟩
          · have k2 : ((c.toNat : Int) == 43) = false := by rw [beq_eq_false_iff_ne]; intro e; exact c43 (UInt8.toNat_inj.1 (by show c.toNat = 43; omega))
            have HH1 : (c :: t : List UInt8).head? ≠ some 43 := by simpa using c43
            have HH2 : (M.csign (c :: t)).2.head? ≠ some 46 := by
              unfold M.csign M.isNeg M.unsign
              rw [if_neg (by simpa using c43)]
              simp only
              rw [if_neg (by simpa using c45)]
              simpa using c46
            obtain ⟨hR, p1, p2⟩ := M.least (c :: t) D E ng (by omega) hr HH1 HH2
            obtain ⟨sh, hsh⟩ : ∃ s, M.shortN (M.plainN ng D E) = s := ⟨_, rfl⟩
            rw [hsh] at p1 p2
            obtain ⟨r1, r2⟩ := read_len (c :: t) D E ng (by omega) hr
            have SH := Lib.hid (fun w hw => short_any ng D E sh w hw (by omega) (by omega) hsh)
            unfold numV at SH
            simp only [hSD, hSE] at SH
            obtain ⟨SS, hSS⟩ : ∃ S, bytes sh = S := ⟨_, rfl⟩
            have zs := bytes_size sh
            rw [hSS] at SH zs
            have y1 : (0 : Int) < SS.size := by omega
            have y2 : (SS.size : Int) ≤ s0.size := by omega
            clear hR p1 p2 hsh r1 r2 hSS zs
            clear hl zl hr hSD hSE hget hz HH1 HH2 c43 c45 c46
            go_enter Tryz.func3, Tryz.ntmps3
            go_wp2_with fail
            refine al.out.mono ?_
            rintro e w1 ⟨rfl, hb1⟩
            go_wp2_with fail
            refine (RR.out _).mono ?_
            rintro e w2 ⟨rfl, hb2⟩
            have hb3 := hb1.trans (hb2.mono hb1.size)
            have hb4 := hb3.alloc hb3.size (.cells #[.bool ng, .string SD, .string SE] 24)
            have HB4 := Lib.hid hb4
            clear hb1 hb2 hb3 hb4
            go_wp2_with fail
            refine (SH.out _ (HT.out.keep HB4.out)).mono ?_
            rintro e w5 ⟨rfl, hb5⟩
            have hb6 := HB4.out.trans (hb5.mono HB4.out.size)
            clear hb5
            go_wp2
            go_ret
            exact ⟨by first | rfl | simp, hb6⟩
end Go.Proofs.YtfclkackfamdlaaGreatDoor
