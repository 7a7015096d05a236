/- The walk of CnameQuotes. -/
import Derived.Test.YtkaojigdogeliaaDoorEPts
import Derived.Deep.QuietTactic
import Derived.BigQuiet
import Derived.Outline
namespace Go.Proofs.YtkaojigdogeliaaDoor
open Go.RowKit
set_option linter.unusedVariables false
set_option linter.unusedSimpArgs false

theorem below_drewN {B : Nat} {a w : World} (h : Below B a w) (n : Nat) : Below B a (w.drewN n) := ⟨h.os, h.tape, h.output, h.size, h.block⟩
theorem bytes_self (s : ByteArray) : bytes s.data.toList = s := by apply ByteArray.ext; simp [bytes]
theorem at_of {t : List UInt8} {T : ByteArray} (h : bytes t = T) (i : Nat) (c : UInt8) (hk : t[i]? = some c) (hp : i < T.size) : T[i]'hp = c := by
  subst h; exact s_at t i c hk hp
theorem cnt_snoc (q : UInt8) (l : List UInt8) (i : Nat) (h : i < l.length) : M.cntB q (l.take (i + 1)) = M.cntB q (l.take i) + if l[i] = q then 1 else 0 := by
  rw [List.take_succ_eq_append_getElem h, M.cntB_append]
  congr 1
  simp only [M.cntB]
  by_cases hq : l[i] = q
  · simp [hq]
  · simp [hq]
theorem okQ_step (q : UInt8) (b : Bool) (l : List UInt8) (i : Nat) (h : i < l.length) (hk : M.okQ q b (l.drop i) = true) :
    l[i] ≠ 10 ∧ l[i] ≠ 12 ∧ l[i] ≠ 13 ∧ (l[i] = q → b = true) ∧ M.okQ q (decide (l[i] = 92) && !b) (l.drop (i + 1)) = true := by
  rw [List.drop_eq_getElem_cons h] at hk
  simp only [M.okQ, Bool.and_eq_true, decide_eq_true_eq, Bool.or_eq_true] at hk
  obtain ⟨⟨⟨⟨h1, h2⟩, h3⟩, h4⟩, h5⟩ := hk
  refine ⟨h1, h2, h3, fun hq => ?_, h5⟩
  rcases h4 with h4 | h4
  · exact absurd hq h4
  · exact h4
theorem u8i (c d : UInt8) (h : c ≠ d) : ((c.toNat : Int) == (d.toNat : Int)) = false := by
  rw [beq_eq_false_iff_ne]; intro e; apply h; apply UInt8.toNat_inj.1; omega
set_option maxRecDepth 100000 in
set_option maxHeartbeats 4000000 in
theorem equotes_main (l : List UInt8) (q : UInt8) (B : List UInt8) (w : World) (hT : TabsE w) (hl : l.length ≤ 200) (hc : M.cleanL (M.pn l 0) = true) (hq : q = 34 ∨ q = 39) (ht : M.qText (M.pn l 0) = q :: (B ++ [q])) (hok : M.okQ q false B = true) (hcn : q = 34 ↔ M.cntB 34 l ≤ M.cntB 39 l) :
    Calls Tryd.prog 6 #[.string (bytes l)] w fun e w' => e = .returned (.bool true) ∧ Below w.heap.size w w' := by
  have al := Lib.hid (alive_any w hT)
  have CL := Lib.hid (fun W => clean_any l true W (by omega) hc)
  have TX := Lib.hid (fun W hW => ctextq_any l _ W hW (by omega) ht)
  unfold StP at TX
  have HT := Lib.hid hT
  have hlB : B.length ≤ 100000 := by
    have h1 := M.pn_len l l.length 0 (by omega)
    have h2 : ∀ Q (r : List Int), (M.qB Q r).length ≤ 4 * r.length := by
      intro Q r
      induction r with
      | nil => simp [M.qB]
      | cons a r ih => have := qt_len Q a (r.getD 0 0); simp only [M.qB, List.length_append, List.length_cons]; omega
    have h3 : ∀ Q, (M.encZs (M.qF Q (M.pn l 0))).length ≤ 4 * (4 * 200 + 2) := by
      intro Q
      have := h2 Q (M.pn l 0)
      refine encZs_le _ _ ?_
      simp [M.qF]; omega
    have h4 : (M.qText (M.pn l 0)).length ≤ 4 * (4 * 200 + 2) := by unfold M.qText; split; exact h3 39; exact h3 34
    rw [ht] at h4
    simp at h4; omega
  obtain ⟨n, hn⟩ : ∃ n, l.length = n := ⟨_, rfl⟩
  have hsz := bytes_size l
  rw [hn] at hsz hl
  obtain ⟨S, hS⟩ : ∃ S, bytes l = S := ⟨_, rfl⟩
  rw [hS] at hsz
  simp only [hS] at CL TX ⊢
  have HSt := Lib.hid hS
  obtain ⟨t, htt⟩ : ∃ t, q :: (B ++ [q]) = t := ⟨_, rfl⟩
  rw [htt] at TX
  have htl : t.length = B.length + 2 := by rw [← htt]; simp
  have hszT := bytes_size t
  obtain ⟨m, hm⟩ : ∃ m, B.length = m := ⟨_, rfl⟩
  rw [htl, hm] at hszT
  rw [hm] at hlB
  obtain ⟨T, hTT⟩ : ∃ S, bytes t = S := ⟨_, rfl⟩
  rw [hTT] at hszT
  simp only [hTT] at TX
  have HTt := Lib.hid hTT
  have t0 : t[0]? = some q := by rw [← htt]; rfl
  have tl : t[m + 1]? = some q := by rw [← htt]; simp [← hm]
  have tB : ∀ j (hj : j < B.length), t[j + 1]? = some B[j] := fun j hj => by rw [← htt]; simp [hj, List.getElem?_append_left hj]
  have p0 : 0 < T.size := by omega
  have p1 : m + 1 < T.size := by omega
  have a0 : T[0]'p0 = q := at_of HTt.out 0 q t0 p0
  have a1 : T[m + 1]'p1 = q := at_of HTt.out (m + 1) q tl p1
  have sI : ((T.size : Nat) : Int) = (m : Int) + 2 := by omega
  have sS : ((S.size : Nat) : Int) = (n : Int) := by omega
  have HB := Lib.hid tB
  have Hok := Lib.hid hok
  have Hcn := Lib.hid hcn
  have Hn := Lib.hid hn
  have Hm := Lib.hid hm
  have e1 : ((m : Int) + 2 - 1) = (m : Int) + 1 := by omega
  have e2 : ((m : Int) + 1).toNat = m + 1 := by omega
  have e3 : IntKind.i64.wrap ((m : Int) + 2 - 1) = (m : Int) + 1 := by rw [e1]; exact IntWalk.i64_in _ (by omega)
  obtain ⟨Q, hQ⟩ : ∃ C : Int, (q.toNat : Int) = C := ⟨_, rfl⟩
  clear hT hc ht hok hcn hn hm hS htt htl hTT t0 tl tB hszT hsz e1
  go_enter Tryd.func6, Tryd.ntmps6
  go_wp2_with fail
  refine al.out.mono ?_
  rintro e w1 ⟨rfl, hb1⟩
  have HT1 := Lib.hid (HT.out.keep hb1)
  go_wp2_with fail
  refine (CL.out _).mono ?_
  rintro e w2 ⟨rfl, hb2⟩
  have HT2 := Lib.hid (HT1.out.keep hb2)
  have hb3 := hb1.trans (hb2.mono hb1.size)
  clear hb1 hb2
  go_wp2_with fail
  refine (TX.out _ HT2.out).mono ?_
  rintro e w3 ⟨rfl, hb4⟩
  have HB5 := Lib.hid (hb3.trans (hb4.mono hb3.size))
  clear hb3 hb4
  rcases hq with rfl | rfl
  · have hQ2 : Q = 34 := by rw [← hQ]; rfl
    subst hQ2
    have d1 : decide ((m : Int) + 2 < 2) = false := by simp; omega
    have d3 : ¬ ((m : Int) + 2 < 2) := by omega
    go_wp2
    go_quiet (fail)
    obtain ⟨W3, hW3⟩ : ∃ W, w3.drewN nq = W := ⟨_, rfl⟩
    have HB6 : Hid (Below w.heap.size w W3) := Lib.hid (by rw [← hW3]; exact below_drewN HB5.out _)
    have HW3 := Lib.hid hW3
    clear d1 d3 e3 hW3 a1
    go_wp2
    try rw [HW3.out]
    go_loop [5, 6, 7] (fun av bv iv => ∃ i : Nat, iv = .int .i64 i ∧ i ≤ n ∧ av = .int .i64 (M.cntB 34 (l.take i) : Int) ∧ bv = .int .i64 (M.cntB 39 (l.take i) : Int)) (fun _ _ iv => n - (intOf iv).toNat)
    case atStart => exact ⟨0, rfl, by omega, rfl, rfl⟩
    case round =>
      obtain ⟨i, rfl, hi, rfl, rfl⟩ := hrel
      have hf : ∀ (k : Nat) (q : UInt8), M.cntB q (l.take k) ≤ k := fun k q => by
        unfold M.cntB
        exact Nat.le_trans (List.length_filter_le _ _) (by rw [List.length_take]; omega)
      have hA := hf i 34
      have hBb := hf i 39
      by_cases hlt : i < n
      · have hil : i < l.length := by rw [Hn.out]; exact hlt
        have s34 := cnt_snoc 34 l i hil
        have s39 := cnt_snoc 39 l i hil
        have hp : i < S.size := by omega
        have hk : l[i]? = some l[i] := List.getElem?_eq_getElem hil
        obtain ⟨c, hc⟩ : ∃ c, l[i] = c := ⟨_, rfl⟩
        rw [hc] at s34 s39 hk
        have si : S[i]'hp = c := at_of HSt.out i c hk hp
        have S34 := Lib.hid s34
        have S39 := Lib.hid s39
        obtain ⟨A, hA'⟩ : ∃ A, M.cntB 34 (l.take i) = A := ⟨_, rfl⟩
        obtain ⟨Z, hB'⟩ : ∃ A, M.cntB 39 (l.take i) = A := ⟨_, rfl⟩
        rw [hA'] at S34 hA ⊢
        rw [hB'] at S39 hBb ⊢
        have i1 : (0 : Int) ≤ i := by omega
        have i2 : (i : Int) < n := by omega
        by_cases h34 : c = 34
        · subst h34
          have R34 : M.cntB 34 (l.take (i + 1)) = A + 1 := by rw [S34.out]; simp
          have R39 : M.cntB 39 (l.take (i + 1)) = Z := by rw [S39.out]; simp
          have HR := Lib.hid R34
          have HR2 := Lib.hid R39
          clear s34 s39 hf hk hc hA' hB' R34 R39
          go_wp2
          go_round
          case rel => exact ⟨i + 1, by go_num, by omega, by rw [HR.out]; go_num, by rw [HR2.out]⟩
          case measure => simp [intOf]; omega
        by_cases h39 : c = 39
        · subst h39
          have R34 : M.cntB 34 (l.take (i + 1)) = A := by rw [S34.out]; simp
          have R39 : M.cntB 39 (l.take (i + 1)) = Z + 1 := by rw [S39.out]; simp
          have HR := Lib.hid R34
          have HR2 := Lib.hid R39
          clear s34 s39 hf hk hc hA' hB' R34 R39 h34
          go_wp2
          go_round
          case rel => exact ⟨i + 1, by go_num, by omega, by rw [HR.out], by rw [HR2.out]; go_num⟩
          case measure => simp [intOf]; omega
        · have R34 : M.cntB 34 (l.take (i + 1)) = A := by rw [S34.out, if_neg h34, Nat.add_zero]
          have R39 : M.cntB 39 (l.take (i + 1)) = Z := by rw [S39.out, if_neg h39, Nat.add_zero]
          have HR := Lib.hid R34
          have HR2 := Lib.hid R39
          have q1 : ((c.toNat : Int) == 34) = false := u8i c 34 h34
          have q2 : ((c.toNat : Int) == 39) = false := u8i c 39 h39
          clear s34 s39 hf hk hc hA' hB' R34 R39 h34 h39
          go_wp2
          go_round
          case rel => exact ⟨i + 1, by go_num, by omega, by rw [HR.out], by rw [HR2.out]⟩
          case measure => simp [intOf]; omega
      · obtain rfl : i = n := by omega
        have R34 : M.cntB 34 (l.take i) = M.cntB 34 l := by rw [List.take_of_length_le (by rw [Hn.out]; exact Nat.le_refl _)]
        have R39 : M.cntB 39 (l.take i) = M.cntB 39 l := by rw [List.take_of_length_le (by rw [Hn.out]; exact Nat.le_refl _)]
        have hcn := Hcn.out
        rw [R34] at hA ⊢
        rw [R39] at hBb ⊢
        obtain ⟨A, hA'⟩ : ∃ A, M.cntB 34 l = A := ⟨_, rfl⟩
        obtain ⟨Z, hB'⟩ : ∃ A, M.cntB 39 l = A := ⟨_, rfl⟩
        rw [hA', hB'] at hcn
        rw [hA'] at hA ⊢
        rw [hB'] at hBb ⊢
        have hle : (A : Int) ≤ Z := by have := hcn.1 (by first | rfl | trivial); omega
        have hle2 : decide ((A : Int) ≤ Z) = true := by simpa using hle
        clear R34 R39 hcn hA' hB' hf hlt
        go_wp2
        go_loopw [8, 9] (fun bv iv wr => ∃ (k : Nat) (b : Bool), iv = .int .i64 ((k : Int) + 1) ∧ k ≤ m ∧ bv = .bool b ∧ M.okQ 34 b (B.drop k) = true ∧ Below w.heap.size w wr) (fun _ iv _ => m + 1 - (intOf iv).toNat)
        case atStart => exact ⟨0, false, rfl, by omega, rfl, Hok.out, HB6.out⟩
        case round =>
          obtain ⟨k, b, rfl, hk, rfl, hok, hbw⟩ := hrel
          have HBW := Lib.hid hbw
          clear hbw
          by_cases hkm : k < m
          · have hkl : k < B.length := by rw [Hm.out]; exact hkm
            obtain ⟨o1, o2, o3, o4, o5⟩ := okQ_step _ b B k hkl hok
            have hp : k + 1 < T.size := by omega
            have htk := HB.out k hkl
            obtain ⟨c, hc⟩ : ∃ c, B[k] = c := ⟨_, rfl⟩
            rw [hc] at o1 o2 o3 o4 o5 htk
            have ti : T[k + 1]'hp = c := at_of HTt.out (k + 1) c htk hp
            have r10 : ((c.toNat : Int) == 10) = false := u8i c 10 o1
            have r12 : ((c.toNat : Int) == 12) = false := u8i c 12 o2
            have r13 : ((c.toNat : Int) == 13) = false := u8i c 13 o3
            have j0 : (0 : Int) ≤ (k : Int) + 1 := by omega
            have j1 : (k : Int) + 1 < (m : Int) + 2 := by omega
            have j2 : ((k : Int) + 1).toNat = k + 1 := by omega
            have j3 : (k : Int) + 1 < (m : Int) + 1 := by omega
            have jd : decide ((k : Int) + 1 < (m : Int) + 1) = true := by simp; omega
            have r92 : ((c.toNat : Int) == 92) = decide (c = 92) := by
              by_cases h : c = 92
              · subst h; rfl
              · rw [decide_eq_false h]; exact u8i c 92 h
            have O5 := Lib.hid o5
            obtain ⟨z92, hz92⟩ : ∃ z, decide (c = 92) = z := ⟨_, rfl⟩
            rw [hz92] at r92 O5
            have hway : (((c.toNat : Int) == 34) = true ∧ b = true) ∨ ((c.toNat : Int) == 34) = false := by
              by_cases h : c = 34
              · left; subst h; exact ⟨rfl, o4 rfl⟩
              · right; exact u8i c 34 h
            obtain ⟨C, hC⟩ : ∃ C : Int, (c.toNat : Int) = C := ⟨_, rfl⟩
            have C0 : 0 ≤ C := by omega
            have C1 : C < 256 := by have := c.toNat_lt; omega
            rw [hC] at r10 r12 r13 r92 hway
            clear o1 o2 o3 o4 o5 htk hc hz92 hok hkl
            rcases hway with ⟨hway, rfl⟩ | hway
            · cases z92
              all_goals
                as_aux_lemma =>
                  go_wp2
                  go_quiet (fail)
                  go_wp2
                  go_roundw
                  case rel => exact ⟨k + 1, _, by go_num, by omega, rfl, by first | exact O5.out | simpa using O5.out, below_drewN HBW.out _⟩
                  case measure => simp [intOf]; omega
            · cases b <;> cases z92
              all_goals
                as_aux_lemma =>
                  go_wp2
                  go_quiet (fail)
                  go_wp2
                  go_roundw
                  case rel => exact ⟨k + 1, _, by go_num, by omega, rfl, by first | exact O5.out | simpa using O5.out, below_drewN HBW.out _⟩
                  case measure => simp [intOf]; omega
          · obtain rfl : k = m := by omega
            rw [List.drop_eq_nil_of_le (by rw [Hm.out]; exact Nat.le_refl _)] at hok
            simp only [M.okQ] at hok
            have hbf : b = false := by simpa using hok
            subst hbf
            have jd : decide ((k : Int) + 1 < (k : Int) + 1) = false := by simp
            clear hok hkm
            go_wp2
            go_ret
            exact ⟨by first | rfl | (simp; done) | (simp; omega), HBW.out⟩
  · have hQ2 : Q = 39 := by rw [← hQ]; rfl
    subst hQ2
    have d1 : decide ((m : Int) + 2 < 2) = false := by simp; omega
    have d3 : ¬ ((m : Int) + 2 < 2) := by omega
    go_wp2
    go_quiet (fail)
    obtain ⟨W3, hW3⟩ : ∃ W, w3.drewN nq = W := ⟨_, rfl⟩
    have HB6 : Hid (Below w.heap.size w W3) := Lib.hid (by rw [← hW3]; exact below_drewN HB5.out _)
    have HW3 := Lib.hid hW3
    clear d1 d3 e3 hW3 a1
    go_wp2
    try rw [HW3.out]
    go_loop [5, 6, 7] (fun av bv iv => ∃ i : Nat, iv = .int .i64 i ∧ i ≤ n ∧ av = .int .i64 (M.cntB 34 (l.take i) : Int) ∧ bv = .int .i64 (M.cntB 39 (l.take i) : Int)) (fun _ _ iv => n - (intOf iv).toNat)
    case atStart => exact ⟨0, rfl, by omega, rfl, rfl⟩
    case round =>
      obtain ⟨i, rfl, hi, rfl, rfl⟩ := hrel
      have hf : ∀ (k : Nat) (q : UInt8), M.cntB q (l.take k) ≤ k := fun k q => by
        unfold M.cntB
        exact Nat.le_trans (List.length_filter_le _ _) (by rw [List.length_take]; omega)
      have hA := hf i 34
      have hBb := hf i 39
      by_cases hlt : i < n
      · have hil : i < l.length := by rw [Hn.out]; exact hlt
        have s34 := cnt_snoc 34 l i hil
        have s39 := cnt_snoc 39 l i hil
        have hp : i < S.size := by omega
        have hk : l[i]? = some l[i] := List.getElem?_eq_getElem hil
        obtain ⟨c, hc⟩ : ∃ c, l[i] = c := ⟨_, rfl⟩
        rw [hc] at s34 s39 hk
        have si : S[i]'hp = c := at_of HSt.out i c hk hp
        have S34 := Lib.hid s34
        have S39 := Lib.hid s39
        obtain ⟨A, hA'⟩ : ∃ A, M.cntB 34 (l.take i) = A := ⟨_, rfl⟩
        obtain ⟨Z, hB'⟩ : ∃ A, M.cntB 39 (l.take i) = A := ⟨_, rfl⟩
        rw [hA'] at S34 hA ⊢
        rw [hB'] at S39 hBb ⊢
        have i1 : (0 : Int) ≤ i := by omega
        have i2 : (i : Int) < n := by omega
        by_cases h34 : c = 34
        · subst h34
          have R34 : M.cntB 34 (l.take (i + 1)) = A + 1 := by rw [S34.out]; simp
          have R39 : M.cntB 39 (l.take (i + 1)) = Z := by rw [S39.out]; simp
          have HR := Lib.hid R34
          have HR2 := Lib.hid R39
          clear s34 s39 hf hk hc hA' hB' R34 R39
          go_wp2
          go_round
          case rel => exact ⟨i + 1, by go_num, by omega, by rw [HR.out]; go_num, by rw [HR2.out]⟩
          case measure => simp [intOf]; omega
        by_cases h39 : c = 39
        · subst h39
          have R34 : M.cntB 34 (l.take (i + 1)) = A := by rw [S34.out]; simp
          have R39 : M.cntB 39 (l.take (i + 1)) = Z + 1 := by rw [S39.out]; simp
          have HR := Lib.hid R34
          have HR2 := Lib.hid R39
          clear s34 s39 hf hk hc hA' hB' R34 R39 h34
          go_wp2
          go_round
          case rel => exact ⟨i + 1, by go_num, by omega, by rw [HR.out], by rw [HR2.out]; go_num⟩
          case measure => simp [intOf]; omega
        · have R34 : M.cntB 34 (l.take (i + 1)) = A := by rw [S34.out, if_neg h34, Nat.add_zero]
          have R39 : M.cntB 39 (l.take (i + 1)) = Z := by rw [S39.out, if_neg h39, Nat.add_zero]
          have HR := Lib.hid R34
          have HR2 := Lib.hid R39
          have q1 : ((c.toNat : Int) == 34) = false := u8i c 34 h34
          have q2 : ((c.toNat : Int) == 39) = false := u8i c 39 h39
          clear s34 s39 hf hk hc hA' hB' R34 R39 h34 h39
          go_wp2
          go_round
          case rel => exact ⟨i + 1, by go_num, by omega, by rw [HR.out], by rw [HR2.out]⟩
          case measure => simp [intOf]; omega
      · obtain rfl : i = n := by omega
        have R34 : M.cntB 34 (l.take i) = M.cntB 34 l := by rw [List.take_of_length_le (by rw [Hn.out]; exact Nat.le_refl _)]
        have R39 : M.cntB 39 (l.take i) = M.cntB 39 l := by rw [List.take_of_length_le (by rw [Hn.out]; exact Nat.le_refl _)]
        have hcn := Hcn.out
        rw [R34] at hA ⊢
        rw [R39] at hBb ⊢
        obtain ⟨A, hA'⟩ : ∃ A, M.cntB 34 l = A := ⟨_, rfl⟩
        obtain ⟨Z, hB'⟩ : ∃ A, M.cntB 39 l = A := ⟨_, rfl⟩
        rw [hA', hB'] at hcn
        rw [hA'] at hA ⊢
        rw [hB'] at hBb ⊢
        have hle : (Z : Int) < A := by
          have : ¬ A ≤ Z := fun h => absurd (hcn.2 h) (by decide)
          omega
        have hle2 : decide ((A : Int) ≤ Z) = false := by simp; omega
        clear R34 R39 hcn hA' hB' hf hlt
        go_wp2
        go_loopw [8, 9] (fun bv iv wr => ∃ (k : Nat) (b : Bool), iv = .int .i64 ((k : Int) + 1) ∧ k ≤ m ∧ bv = .bool b ∧ M.okQ 39 b (B.drop k) = true ∧ Below w.heap.size w wr) (fun _ iv _ => m + 1 - (intOf iv).toNat)
        case atStart => exact ⟨0, false, rfl, by omega, rfl, Hok.out, HB6.out⟩
        case round =>
          obtain ⟨k, b, rfl, hk, rfl, hok, hbw⟩ := hrel
          have HBW := Lib.hid hbw
          clear hbw
          by_cases hkm : k < m
          · have hkl : k < B.length := by rw [Hm.out]; exact hkm
            obtain ⟨o1, o2, o3, o4, o5⟩ := okQ_step _ b B k hkl hok
            have hp : k + 1 < T.size := by omega
            have htk := HB.out k hkl
            obtain ⟨c, hc⟩ : ∃ c, B[k] = c := ⟨_, rfl⟩
            rw [hc] at o1 o2 o3 o4 o5 htk
            have ti : T[k + 1]'hp = c := at_of HTt.out (k + 1) c htk hp
            have r10 : ((c.toNat : Int) == 10) = false := u8i c 10 o1
            have r12 : ((c.toNat : Int) == 12) = false := u8i c 12 o2
            have r13 : ((c.toNat : Int) == 13) = false := u8i c 13 o3
            have j0 : (0 : Int) ≤ (k : Int) + 1 := by omega
            have j1 : (k : Int) + 1 < (m : Int) + 2 := by omega
            have j2 : ((k : Int) + 1).toNat = k + 1 := by omega
            have j3 : (k : Int) + 1 < (m : Int) + 1 := by omega
            have jd : decide ((k : Int) + 1 < (m : Int) + 1) = true := by simp; omega
            have r92 : ((c.toNat : Int) == 92) = decide (c = 92) := by
              by_cases h : c = 92
              · subst h; rfl
              · rw [decide_eq_false h]; exact u8i c 92 h
            have O5 := Lib.hid o5
            obtain ⟨z92, hz92⟩ : ∃ z, decide (c = 92) = z := ⟨_, rfl⟩
            rw [hz92] at r92 O5
            have hway : (((c.toNat : Int) == 39) = true ∧ b = true) ∨ ((c.toNat : Int) == 39) = false := by
              by_cases h : c = 39
              · left; subst h; exact ⟨rfl, o4 rfl⟩
              · right; exact u8i c 39 h
            obtain ⟨C, hC⟩ : ∃ C : Int, (c.toNat : Int) = C := ⟨_, rfl⟩
            have C0 : 0 ≤ C := by omega
            have C1 : C < 256 := by have := c.toNat_lt; omega
            rw [hC] at r10 r12 r13 r92 hway
            clear o1 o2 o3 o4 o5 htk hc hz92 hok hkl
            rcases hway with ⟨hway, rfl⟩ | hway
            · cases z92
              all_goals
                as_aux_lemma =>
                  go_wp2
                  go_quiet (fail)
                  go_wp2
                  go_roundw
                  case rel => exact ⟨k + 1, _, by go_num, by omega, rfl, by first | exact O5.out | simpa using O5.out, below_drewN HBW.out _⟩
                  case measure => simp [intOf]; omega
            · cases b <;> cases z92
              all_goals
                as_aux_lemma =>
                  go_wp2
                  go_quiet (fail)
                  go_wp2
                  go_roundw
                  case rel => exact ⟨k + 1, _, by go_num, by omega, rfl, by first | exact O5.out | simpa using O5.out, below_drewN HBW.out _⟩
                  case measure => simp [intOf]; omega
          · obtain rfl : k = m := by omega
            rw [List.drop_eq_nil_of_le (by rw [Hm.out]; exact Nat.le_refl _)] at hok
            simp only [M.okQ] at hok
            have hbf : b = false := by simpa using hok
            subst hbf
            have jd : decide ((k : Int) + 1 < (k : Int) + 1) = false := by simp
            clear hok hkm
            go_wp2
            go_ret
            exact ⟨by first | rfl | (simp; done) | (simp; omega), HBW.out⟩
set_option maxRecDepth 100000 in
set_option maxHeartbeats 2000000 in
theorem equotes_walk (s0 : ByteArray) (w : World) {P0 : Prop} (m0 : P0) (hT : TabsE w) :
    Calls Tryd.prog 6 #[.string s0] w fun e w' => e = .returned (.bool true) ∧ Below w.heap.size w w' := by
  have hs := bytes_self s0
  obtain ⟨l, hl⟩ : ∃ l, s0.data.toList = l := ⟨_, rfl⟩
  rw [hl] at hs
  subst hs
  have hsz := bytes_size l
  by_cases hbig : 200 < l.length
  · have al := Lib.hid (alive_any w hT)
    obtain ⟨S, hS⟩ : ∃ S, bytes l = S := ⟨_, rfl⟩
    rw [hS] at hsz ⊢
    have hb : (200 : Int) < S.size := by omega
    have hb2 : decide ((200 : Int) < S.size) = true := by simpa using hb
    clear hsz hbig hT hS hl
    go_enter Tryd.func6, Tryd.ntmps6
    go_wp2_with fail
    refine al.out.mono ?_
    rintro e w1 ⟨rfl, hb1⟩
    go_wp2
    go_ret
    exact ⟨rfl, hb1⟩
  cases hc : M.cleanL (M.pn l 0) with
  | false =>
    have al := Lib.hid (alive_any w hT)
    have CL := Lib.hid (fun W => clean_any l false W (by omega) hc)
    obtain ⟨S, hS⟩ : ∃ S, bytes l = S := ⟨_, rfl⟩
    rw [hS] at hsz ⊢
    simp only [hS] at CL
    have hb : ¬ (200 : Int) < S.size := by omega
    have hb2 : decide ((200 : Int) < S.size) = false := by simpa using hb
    clear hsz hbig hT hS hl hc
    go_enter Tryd.func6, Tryd.ntmps6
    go_wp2_with fail
    refine al.out.mono ?_
    rintro e w1 ⟨rfl, hb1⟩
    go_wp2_with fail
    refine (CL.out _).mono ?_
    rintro e w2 ⟨rfl, hb2'⟩
    have hb3 := hb1.trans (hb2'.mono hb1.size)
    clear hb1 hb2'
    go_wp2
    go_ret
    exact ⟨rfl, hb3⟩
  | true =>
    have hok := M.pn_ok l l.length 0 (by omega)
    obtain ⟨q, B, hq, ht, hB, hcn⟩ := M.qText_form (M.pn l 0) hok
    have he := M.clean_enc l l.length 0 (by omega) hc
    rw [List.drop_zero] at he
    rw [he] at hcn
    exact equotes_main l q B w hT (by omega) hc hq ht hB hcn
end Go.Proofs.YtkaojigdogeliaaDoor
