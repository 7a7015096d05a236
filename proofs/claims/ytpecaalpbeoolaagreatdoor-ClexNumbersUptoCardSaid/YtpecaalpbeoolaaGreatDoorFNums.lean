/- The walk of ClexNumbers. -/
import Derived.Test.YtpecaalpbeoolaaGreatDoorFNum1
import Derived.Test.YtpecaalpbeoolaaGreatDoorFMath9
import Derived.Test.YtpecaalpbeoolaaGreatDoorMgC
import Derived.BigQuiet
import Derived.Deep.QuietTactic
namespace Go.Proofs.YtpecaalpbeoolaaGreatDoor
open Go.RowKit
set_option linter.unusedVariables false
set_option linter.unusedSimpArgs false

theorem unsc_lenF (d : List UInt8) (x : Int) : (M.unsc d x).length ≤ d.length + 22 := by
  unfold M.unsc
  split
  · simp; omega
  · split
    · simp; omega
    · split
      · simp; omega
      · simp
theorem upE_small (D E : List UInt8) (hr : M.rightD E = true) (h1 : D.length ≤ 300) (h2 : E.length ≤ 300) : (M.upE D E).length ≤ 400 := by
  obtain ⟨K, hK⟩ : ∃ K, K = 300 := ⟨_, rfl⟩
  rw [← M.txt_val E hr, M.upE_txt]
  have h3 := M.val_abs E hr K (by omega)
  have h4 := M.sum_abs (M.valD E) ((D.length : Int) - 1) K h3 (by
    have : ((D.length : Int) - 1).natAbs ≤ 1000 := by omega
    exact Nat.lt_of_le_of_lt this (Nat.lt_of_lt_of_le (show 1000 < 10 ^ 4 by decide) (Nat.pow_le_pow_right (by decide) (by omega))))
  have := M.txt_len (M.valD E + ((D.length : Int) - 1)) (K + 1) (by omega) h4
  omega
theorem plain_lenF (ng : Bool) (D E : List UInt8) (h1 : D.length ≤ 100) (h2 : E.length ≤ 50) : ∀ t ∈ M.plainN ng D E, t.length ≤ 1000 := by
  intro t ht
  have hs := M.sgl_len ng
  have hs1 : (M.sgl ng).length ≤ 1 := by rw [hs]; split <;> omega
  unfold M.plainN at ht
  split at ht
  case isFalse => simp at ht
  rename_i hr
  split at ht
  · simp only [List.mem_singleton] at ht; subst ht; rw [List.length_append]; simp; omega
  · rename_i h0
    rcases List.mem_append.1 ht with ht | ht
    · unfold M.plain1 at ht
      split at ht
      · simp only [List.mem_singleton] at ht; subst ht; have := unsc_lenF D (M.intD E).1; rw [List.length_append]; omega
      · simp at ht
    · rcases List.mem_append.1 ht with ht | ht
      · simp only [List.mem_singleton] at ht; subst ht; simp only [List.length_append, List.length_cons]; omega
      · unfold M.plain3 at ht
        split at ht
        · have hrE : M.rightD E = true := by
            rw [M.right_prog D E h0] at hr
            simp only [Bool.and_eq_true] at hr
            exact hr.2
          have := upE_small D E hrE (by omega) (by omega)
          simp only [List.mem_singleton] at ht; subst ht; simp only [List.length_append, List.length_cons, List.length_take, List.length_drop]; omega
        · simp at ht
theorem plain_threeF (ng : Bool) (D E : List UInt8) : (M.plainN ng D E).length ≤ 3 := by
  unfold M.plainN M.plain1 M.plain3
  split
  · split
    · simp
    · simp only [List.length_append]
      split <;> split <;> simp
  · simp
theorem and1023F (z : Int) : ∃ a : Nat, bits .and .i64 z 1023 = (a : Int) ∧ a < 1024 := by
  refine ⟨(BitVec.ofInt 64 z &&& BitVec.ofInt 64 1023).toNat, ?_, ?_⟩
  · have h : (BitVec.ofInt 64 z &&& BitVec.ofInt 64 1023).toNat ≤ 1023 := by
      rw [BitVec.toNat_and]
      exact Nat.le_trans Nat.and_le_right (by decide)
    show IntKind.i64.wrap ((BitVec.ofInt 64 z &&& BitVec.ofInt 64 1023).toNat : Int) = _
    rw [IntKind.wrap_i64]
    omega
  · rw [BitVec.toNat_and]
    exact Nat.lt_of_le_of_lt Nat.and_le_right (by decide)
theorem whl_step (l : List UInt8) (k : Nat) (h : k < l.length) : M.whl (l.take (k + 1)) = (M.whl (l.take k) && !(l[k] == 46 || l[k] == 101)) := by
  unfold M.whl
  rw [List.take_succ_eq_append_getElem h, List.all_append]; simp
def tailsV : Array Value := #[.string ⟨#[]⟩, .string ⟨#[37]⟩, .string ⟨#[112, 120]⟩, .string ⟨#[41]⟩, .string ⟨#[32, 49]⟩, .string ⟨#[45, 45, 62]⟩, .string ⟨#[43, 49]⟩]
def kindsV : Array Value := #[.int .i64 10, .int .i64 11, .int .i64 12, .int .i64 10, .int .i64 10, .int .i64 12, .int .i64 10]
theorem tails_cell (w : World) (e : Nat) (h : e < 7) : (w.alloc (.cells tailsV 9)).cell? ⟨w.heap.size, e, none⟩ = some (.string (bytes (M.ntail e))) := by
  rw [World.cell?_alloc_at _ _ _ _ rfl]
  have : e = 0 ∨ e = 1 ∨ e = 2 ∨ e = 3 ∨ e = 4 ∨ e = 5 ∨ e = 6 := by omega
  rcases this with rfl | rfl | rfl | rfl | rfl | rfl | rfl <;> rfl
theorem kinds_cell (w : World) (e : Nat) (h : e < 7) : (w.alloc (.cells kindsV 3)).cell? ⟨w.heap.size, e, none⟩ = some (.int .i64 (M.nkind e)) := by
  rw [World.cell?_alloc_at _ _ _ _ rfl]
  have : e = 0 ∨ e = 1 ∨ e = 2 ∨ e = 3 ∨ e = 4 ∨ e = 5 ∨ e = 6 := by omega
  rcases this with rfl | rfl | rfl | rfl | rfl | rfl | rfl <;> rfl
theorem ntail_len (e : Nat) (h : e < 7) : (M.ntail e).length ≤ 3 := by
  have : e = 0 ∨ e = 1 ∨ e = 2 ∨ e = 3 ∨ e = 4 ∨ e = 5 ∨ e = 6 := by omega
  rcases this with rfl | rfl | rfl | rfl | rfl | rfl | rfl <;> decide
/-- Two numbers that are one are compared. -/
theorem neq_num (w : World) (a : Bool) (b c : ByteArray) : (binOp .neq 33 (.agg #[.bool a, .string b, .string c]) (.agg #[.bool a, .string b, .string c])).run Tryz.prog w = .ok (.bool false) w := by
  rw [run_neq_struct, run_equalIn_agg w 9999 _ _ _ (by simp [Program.fieldsOf, Tryz.underlying33]) Tryz.stoodInHeld33]
  simp [Program.fieldsOf, Tryz.underlying33, Op.eqFields, part, go_sem]
theorem still_cmpN {ops : Array Oper} {w : World} {Q : Act → Prop} {a : Act} {o : Oper} {rest : List Oper} (hw : Region.wanted o (yielded ops a.tmps) = true) (x y : Operand) (ho : o.op = .binOp .neq 33 x y 33)
    (p : Bool) (b c : ByteArray) (hx : a.eval x = .agg #[.bool p, .string b, .string c]) (hy : a.eval y = .agg #[.bool p, .string b, .string c])
    (h : wpStill Tryz.prog ops w Q rest (a.put o.dst (.bool false))) : wpStill Tryz.prog ops w Q (o :: rest) a := by
  refine wpStill_step (fun K hK => ?_)
  rw [if_pos hw]
  unfold Oper.still execOp
  simp only [ho, hx, hy]
  simp [run_eqGuard_agg, Tryz.eqGuardType33, neq_num, Sem.run_bind, Result.andThen_ok, Oper.stillUpon]
  exact hK _ h
set_option maxRecDepth 100000 in
set_option maxHeartbeats 8000000 in
theorem fnums_walk (ng : Bool) (s1 s2 : ByteArray) (x1 x2 : Int) (w : World) {P1 P2 : Prop} (m1 : P1) (m2 : P2) (u1 : s1.size ≤ 1048576) (u2 : s2.size ≤ 1048576) (hT : Tabs w) :
    Calls Tryz.prog 7 #[.agg #[.bool ng, .string s1, .string s2], .int .i64 x1, .int .i64 x2] w fun e w' => e = .returned (.bool true) ∧ Below w.heap.size w w' := by
  clear m1 m2
  obtain ⟨D, hD⟩ : ∃ D, bytes D = s1 := ⟨s1.data.toList, by apply ByteArray.ext; simp [bytes]⟩
  obtain ⟨E, hE⟩ : ∃ D, bytes D = s2 := ⟨s2.data.toList, by apply ByteArray.ext; simp [bytes]⟩
  have zD := bytes_size D
  have zE := bytes_size E
  rw [hD] at zD
  rw [hE] at zE
  have B0 : Hid (Below w.heap.size w (w.alloc (.cells #[.bool ng, .string s1, .string s2] 33))) := Lib.hid ((Below.refl _ _).alloc (Nat.le_refl _) _)
  have al := Lib.hid (alive_any _ (hT.keep B0.out))
  have HT := Lib.hid hT
  clear hT
  obtain ⟨l, hl⟩ : ∃ l, M.plainN ng D E = l := ⟨_, rfl⟩
  have hl3 : l.length ≤ 3 := by rw [← hl]; exact plain_threeF ng D E
  have PL := Lib.hid (fun w => refplain_any ng D E l w (by omega) (by omega) hl)
  unfold numV at PL
  simp only [hD, hE] at PL
  have HL := Lib.hid hl
  have HD := Lib.hid hD
  have HE := Lib.hid hE
  clear hl hD hE
  have hway : (100 < s1.size) ∨ (s1.size ≤ 100 ∧ 50 < s2.size) ∨ (s1.size ≤ 100 ∧ s2.size ≤ 50 ∧ l.length = 0) ∨ (s1.size ≤ 100 ∧ s2.size ≤ 50 ∧ 0 < l.length ∧ x1 < 0) ∨ (s1.size ≤ 100 ∧ s2.size ≤ 50 ∧ 0 < l.length ∧ 0 ≤ x1) := by omega
  rcases hway with h | ⟨h, h2⟩ | ⟨h, h2, h3⟩ | ⟨h, h2, h3, h4⟩ | ⟨h, h2, h3, h4⟩
  · have q : (100 : Int) < s1.size := by omega
    clear zD zE
    go_enter Tryz.func7, Tryz.ntmps7
    go_wp2_with fail
    refine al.out.mono ?_
    rintro e w1 ⟨rfl, hb1⟩
    obtain ⟨⟨g0, g1, g2⟩, -, hs1, hb0⟩ := keep3 hb1
    clear hb1
    go_wp2_with fail
    refine (PL.out _).mono ?_
    rintro e w3 ⟨v, rfl, hv, hb3⟩
    have hb4 := hb0.trans (hb3.mono hb0.size)
    have gW3 := box_keep ⟨g0, g1, g2⟩ hb3 hs1
    have hs3 : w.heap.size < w3.heap.size := by have := hb3.size; omega
    obtain ⟨a, cap, rfl, hc⟩ := ss_get hv
    clear g0 g1 g2 hb0 hb3 hv
    obtain ⟨g0, g1, g2⟩ := gW3
    go_wp2
    go_ret
    exact ⟨rfl, hb4⟩
  · have q : ¬ (100 : Int) < s1.size := by omega
    have q2 : (50 : Int) < s2.size := by omega
    clear zD zE
    go_enter Tryz.func7, Tryz.ntmps7
    go_wp2_with fail
    refine al.out.mono ?_
    rintro e w1 ⟨rfl, hb1⟩
    obtain ⟨⟨g0, g1, g2⟩, -, hs1, hb0⟩ := keep3 hb1
    clear hb1
    go_wp2_with fail
    refine (PL.out _).mono ?_
    rintro e w3 ⟨v, rfl, hv, hb3⟩
    have hb4 := hb0.trans (hb3.mono hb0.size)
    have gW3 := box_keep ⟨g0, g1, g2⟩ hb3 hs1
    have hs3 : w.heap.size < w3.heap.size := by have := hb3.size; omega
    obtain ⟨a, cap, rfl, hc⟩ := ss_get hv
    clear g0 g1 g2 hb0 hb3 hv
    obtain ⟨g0, g1, g2⟩ := gW3
    go_wp2
    go_ret
    exact ⟨rfl, hb4⟩
  · have q : ¬ (100 : Int) < s1.size := by omega
    have q2 : ¬ (50 : Int) < s2.size := by omega
    clear zD zE
    go_enter Tryz.func7, Tryz.ntmps7
    go_wp2_with fail
    refine al.out.mono ?_
    rintro e w1 ⟨rfl, hb1⟩
    obtain ⟨⟨g0, g1, g2⟩, -, hs1, hb0⟩ := keep3 hb1
    clear hb1
    go_wp2_with fail
    refine (PL.out _).mono ?_
    rintro e w3 ⟨v, rfl, hv, hb3⟩
    have hb4 := hb0.trans (hb3.mono hb0.size)
    have gW3 := box_keep ⟨g0, g1, g2⟩ hb3 hs1
    have hs3 : w.heap.size < w3.heap.size := by have := hb3.size; omega
    obtain ⟨a, cap, rfl, hc⟩ := ss_get hv
    clear g0 g1 g2 hb0 hb3 hv
    obtain ⟨g0, g1, g2⟩ := gW3
    have q3 : ((l.length : Int) == 0) = true := by rw [beq_iff_eq]; omega
    go_wp2
    go_ret
    exact ⟨rfl, hb4⟩
  · have q : ¬ (100 : Int) < s1.size := by omega
    have q2 : ¬ (50 : Int) < s2.size := by omega
    clear zD zE
    go_enter Tryz.func7, Tryz.ntmps7
    go_wp2_with fail
    refine al.out.mono ?_
    rintro e w1 ⟨rfl, hb1⟩
    obtain ⟨⟨g0, g1, g2⟩, -, hs1, hb0⟩ := keep3 hb1
    clear hb1
    go_wp2_with fail
    refine (PL.out _).mono ?_
    rintro e w3 ⟨v, rfl, hv, hb3⟩
    have hb4 := hb0.trans (hb3.mono hb0.size)
    have gW3 := box_keep ⟨g0, g1, g2⟩ hb3 hs1
    have hs3 : w.heap.size < w3.heap.size := by have := hb3.size; omega
    obtain ⟨a, cap, rfl, hc⟩ := ss_get hv
    clear g0 g1 g2 hb0 hb3 hv
    obtain ⟨g0, g1, g2⟩ := gW3
    have q3 : ((l.length : Int) == 0) = false := by rw [beq_eq_false_iff_ne]; omega
    have q4 : x1 < 0 := h4
    go_wp2
    go_ret
    exact ⟨rfl, hb4⟩
  · have q : ¬ (100 : Int) < s1.size := by omega
    have q2 : ¬ (50 : Int) < s2.size := by omega
    have hlen : ∀ t ∈ l, t.length ≤ 1000 := by rw [← HL.out]; exact plain_lenF ng D E (by omega) (by omega)
    have HLEN := Lib.hid hlen
    clear zD zE hlen
    obtain ⟨n, hn⟩ : ∃ n, l.length = n := ⟨_, rfl⟩
    obtain ⟨k, hk⟩ : ∃ k : Nat, x1.tmod n = (k : Int) := ⟨(x1.tmod n).toNat, by rw [Int.toNat_of_nonneg]; exact Int.tmod_nonneg _ h4⟩
    have hkn : k < n := by
      have := Int.tmod_lt_of_pos x1 (show (0 : Int) < n by omega)
      omega
    obtain ⟨A, hA, hA2⟩ := and1023F x2
    obtain ⟨e, he⟩ : ∃ e : Nat, (A : Int).tmod 7 = (e : Int) := ⟨((A : Int).tmod 7).toNat, by rw [Int.toNat_of_nonneg]; exact Int.tmod_nonneg _ (by omega)⟩
    have he7 : e < 7 := by
      have := Int.tmod_lt_of_pos (A : Int) (show (0 : Int) < 7 by omega)
      omega
    go_enter Tryz.func7, Tryz.ntmps7
    go_wp2_with fail
    refine al.out.mono ?_
    rintro e w1 ⟨rfl, hb1⟩
    obtain ⟨⟨g0, g1, g2⟩, -, hs1, hb0⟩ := keep3 hb1
    clear hb1
    go_wp2_with fail
    refine (PL.out _).mono ?_
    rintro e w3 ⟨v, rfl, hv, hb3⟩
    have hb4 := hb0.trans (hb3.mono hb0.size)
    have gW3 := box_keep ⟨g0, g1, g2⟩ hb3 hs1
    have hs3 : w.heap.size < w3.heap.size := by have := hb3.size; omega
    obtain ⟨a, cap, rfl, hc⟩ := ss_get hv
    clear g0 g1 g2 hb0 hb3 hv
    obtain ⟨g0, g1, g2⟩ := gW3
    have HN := Lib.hid hn
    rw [hn] at h3 hl3 ⊢
    have q3 : ((n : Int) == 0) = false := by rw [beq_eq_false_iff_ne]; omega
    have q4 : ¬ x1 < 0 := by omega
    have q5 : (n : Int) ≠ 0 := by omega
    have hkl : k < l.length := by rw [HN.out]; exact hkn
    obtain ⟨b, off, rfl, hb, hcell⟩ := hc (by rw [HN.out]; omega)
    have hcl := hcell k hkl
    have hmem : l[k] ∈ l := List.getElem_mem hkl
    obtain ⟨t, ht⟩ : ∃ t, l[k] = t := ⟨_, rfl⟩
    rw [ht] at hcl hmem
    have hlt := HLEN.out t hmem
    have hpl : t ∈ M.plainN ng D E := by rw [HL.out]; exact hmem
    obtain ⟨S, hS⟩ : ∃ S, bytes t = S := ⟨_, rfl⟩
    obtain ⟨hSz, hget⟩ := get_ofF t S hS
    rw [hS] at hcl
    have k1 : (k : Int) < n := by omega
    have k0 : (0 : Int) ≤ k := by omega
    have sz : S.size ≤ 1000 := by omega
    have HPL := Lib.hid hpl
    have HS := Lib.hid hS
    have HSZ := Lib.hid hSz
    have HGET := Lib.hid hget
    have GW := Lib.hid (show Box w.heap.size (.bool ng) (.string s1) (.string s2) w3 from ⟨g0, g1, g2⟩)
    have B4 := Lib.hid hb4
    have HA := Lib.hid hA
    have HE7 := Lib.hid he
    clear hc hcell hmem ht hlt hpl hS hSz hget hkl hn hb4 hA he hb
    go_wp2
    go_loop [10, 11] (fun wv iv => ∃ j : Nat, iv = .int .i64 (j : Int) ∧ j ≤ S.size ∧ wv = .bool (M.whl (t.take j))) (fun _ iv => S.size - (intOf iv).toNat)
    case atStart => exact ⟨0, rfl, by omega, rfl⟩
    case round =>
      obtain ⟨j, rfl, hj, rfl⟩ := hrel
      by_cases hlt : j < S.size
      · have hjl : j < t.length := by rw [← HSZ.out]; exact hlt
        have hsk := HGET.out j hlt hjl
        have hst := whl_step t j hjl
        obtain ⟨x, hx⟩ : ∃ x, t[j] = x := ⟨_, rfl⟩
        rw [hx] at hsk hst
        obtain ⟨y, hy⟩ : ∃ y, M.whl (t.take j) = y := ⟨_, rfl⟩
        rw [hy] at hst ⊢
        have j0 : (0 : Int) ≤ j := by omega
        have j1 : (j : Int) < S.size := by omega
        have HST := Lib.hid hst
        clear hst hx hy
        cases y with
        | false =>
          as_aux_lemma =>
            go_wp2
            go_round
            case rel => exact ⟨j + 1, by go_num, by omega, by rw [HST.out]; rfl⟩
            case measure => simp [intOf]; omega
        | true =>
          by_cases c46 : x = 46
          · subst c46
            as_aux_lemma =>
              go_wp2
              go_round
              case rel => exact ⟨j + 1, by go_num, by omega, by rw [HST.out]; rfl⟩
              case measure => simp [intOf]; omega
          · have n46 : ((x.toNat : Int) != 46) = true := by
              rw [bne_iff_ne]; intro h; apply c46; apply UInt8.toNat_inj.1; show x.toNat = 46; omega
            by_cases c101 : x = 101
            · subst c101
              as_aux_lemma =>
                go_wp2
                go_round
                case rel => exact ⟨j + 1, by go_num, by omega, by rw [HST.out]; rfl⟩
                case measure => simp [intOf]; omega
            · have n101 : ((x.toNat : Int) != 101) = true := by
                rw [bne_iff_ne]; intro h; apply c101; apply UInt8.toNat_inj.1; show x.toNat = 101; omega
              have HX := Lib.hid (show (true && !(x == 46 || x == 101)) = true by simp [c46, c101])
              clear c46 c101
              as_aux_lemma =>
                go_wp2
                go_round
                case rel => exact ⟨j + 1, by go_num, by omega, by rw [HST.out, HX.out]⟩
                case measure => simp [intOf]; omega
      · obtain rfl : j = S.size := by omega
        clear hlt hj
        have hfull : t.take S.size = t := List.take_of_length_le (by rw [HSZ.out]; exact Nat.le_refl _)
        rw [hfull]
        obtain ⟨wh, hwh⟩ : ∃ y, M.whl t = y := ⟨_, rfl⟩
        rw [hwh]
        have HWH := Lib.hid hwh
        clear hfull hwh
        have DD1 : Below w3.heap.size w3 ((w3.alloc (.cells tailsV 9)).alloc (.cells kindsV 3)) := ((Below.refl _ _).alloc (Nat.le_refl _) _).alloc (by simp) _
        have ct := ((((Below.refl (w3.alloc (.cells tailsV 9)).heap.size (w3.alloc (.cells tailsV 9))).alloc (Nat.le_refl _) (.cells kindsV 3)).cell (p := ⟨w3.heap.size, e, none⟩) (by simp)).trans (tails_cell w3 e he7))
        have ck := kinds_cell (w3.alloc (.cells tailsV 9)) e he7
        rw [show (w3.alloc (.cells tailsV 9)).heap.size = w3.heap.size + 1 by simp] at ck
        obtain ⟨V, hV⟩ : ∃ V, (w3.alloc (.cells tailsV 9)).alloc (.cells kindsV 3) = V := ⟨_, rfl⟩
        have hVz : V.heap.size = w3.heap.size + 2 := by rw [← hV]; simp
        rw [hV] at DD1 ct ck
        have hV2 : (w3.alloc (.cells #[.string ⟨#[]⟩, .string ⟨#[37]⟩, .string ⟨#[112, 120]⟩, .string ⟨#[41]⟩, .string ⟨#[32, 49]⟩, .string ⟨#[45, 45, 62]⟩, .string ⟨#[43, 49]⟩] 9)).alloc (.cells #[.int .i64 10, .int .i64 11, .int .i64 12, .int .i64 10, .int .i64 10, .int .i64 12, .int .i64 10] 3) = V := hV
        have HV2 := Lib.hid hV2
        have HVZ := Lib.hid hVz
        have HD1 := Lib.hid DD1
        have HCT := Lib.hid ct
        have HCK := Lib.hid ck
        have hgV := Lib.hid (box_keep GW.out DD1 hs3)
        obtain ⟨x, R, hx1, hx2, hx3, hx4, hx5, hx6⟩ := M.number_tks ng D E t HPL.out e he7
        have ltl := ntail_len e he7
        have BV := Lib.hid (B4.out.trans (DD1.mono B4.out.size))
        have SP1 := Lib.hid (fun W (hW : Below w.heap.size w W) => flsplit_any (t ++ M.ntail e) _ W (HT.out.keep hW) (by rw [List.length_append]; have := HSZ.out; omega) hx1)
        have a1 := cat_run t (M.ntail e) _ rfl (by have := HSZ.out; omega) (by omega)
        obtain ⟨TE, hTE⟩ : ∃ S, bytes (M.ntail e) = S := ⟨_, rfl⟩
        obtain ⟨ST, hST⟩ : ∃ S, bytes (t ++ M.ntail e) = S := ⟨_, rfl⟩
        rw [HS.out, hTE, hST] at a1
        rw [hTE] at HCT
        rw [hST] at SP1
        have hA := HA.out
        have he := HE7.out
        have e0 : (0 : Int) ≤ e := by omega
        have e1 : (e : Int) < 7 := by omega
        have XF := Lib.hid (show x.kind = M.nkind e ∧ x.num = (ng, D, E) ∧ x.flag = wh ∧ x.sign = false from ⟨hx2, hx3, by rw [hx4, HWH.out], hx5⟩)
        clear DD1 ct ck hV hV2 hVz hx1 hx2 hx3 hx4 hx5 hx6 hTE hST ltl g0 g1 g2
        go_upto_region 13 with (fail)
        rw [HV2.out]
        obtain ⟨vb, hvb⟩ : ∃ n, w3.heap.size = n := ⟨_, rfl⟩
        have HVB := Lib.hid hvb
        rw [hvb] at HCT HCK HVZ hs3 ⊢
        have ct := HCT.out
        go_wp2_with fail
        refine (SP1.out _ BV.out).mono ?_
        rintro e4 w4 ⟨v4, rfl, ho4, hb4⟩
        have d4 := BV.out.trans (hb4.mono BV.out.size)
        have gB := box_keep hgV.out hb4 (by have := HVZ.out; omega)
        have ck4 := (hb4.cell (p := ⟨vb + 1, e, none⟩) (by show vb + 1 < V.heap.size; have := HVZ.out; omega)).trans HCK.out
        have l4 := ho4.cs
        obtain ⟨ax, cx, rfl, -, -, gx⟩ := cs_cells l4 (n := R.length + 1) rfl
        obtain ⟨bx, ox, rfl, -, hcx⟩ := gx 0 (by simp)
        obtain ⟨p1, p2, p3, p4⟩ := XF.out
        have f0 : w4.drew.cell? ⟨bx, ox, none⟩ = some (.int .i64 (M.nkind e)) := by have := hcx 0 (by decide); rw [Nat.zero_mul, Nat.add_zero] at this; rw [← p1]; exact this
        have f3 : w4.drew.cell? ⟨bx, ox + 3, none⟩ = some (.bool ng) := by have := hcx 3 (by decide); rw [Nat.zero_mul, Nat.add_zero] at this; rw [show ng = x.num.1 by rw [p2]]; exact this
        have f4 : w4.drew.cell? ⟨bx, ox + 4, none⟩ = some (.string s1) := by have := hcx 4 (by decide); rw [Nat.zero_mul, Nat.add_zero] at this; rw [← HD.out, show D = x.num.2.1 by rw [p2]]; exact this
        have f5 : w4.drew.cell? ⟨bx, ox + 5, none⟩ = some (.string s2) := by have := hcx 5 (by decide); rw [Nat.zero_mul, Nat.add_zero] at this; rw [← HE.out, show E = x.num.2.2 by rw [p2]]; exact this
        have f6 : w4.drew.cell? ⟨bx, ox + 6, none⟩ = some (.bool wh) := by have := hcx 6 (by decide); rw [Nat.zero_mul, Nat.add_zero] at this; rw [← p3]; exact this
        have f7 : w4.drew.cell? ⟨bx, ox + 7, none⟩ = some (.bool false) := by have := hcx 7 (by decide); rw [Nat.zero_mul, Nat.add_zero] at this; rw [← p4]; exact this
        have ck : w4.drew.cell? ⟨vb + 1, e, none⟩ = some (.int .i64 (M.nkind e)) := ck4
        obtain ⟨b0, b1, b2⟩ := gB
        have g0 : w4.drew.cell? ⟨w.heap.size, 0, none⟩ = some (.bool ng) := b0
        have g1 : w4.drew.cell? ⟨w.heap.size, 1, none⟩ = some (.string s1) := b1
        have g2 : w4.drew.cell? ⟨w.heap.size, 2, none⟩ = some (.string s2) := b2
        obtain ⟨n1, hn1⟩ : ∃ n1, R.length + 1 = n1 := ⟨_, rfl⟩
        rw [hn1]
        have t1 : ((n1 : Int) == 0) = false := by rw [beq_eq_false_iff_ne]; omega
        have t2 : (0 : Int) < n1 := by omega
        have t3 : 0 < n1 := by omega
        obtain ⟨kd, hkd⟩ : ∃ z, M.nkind e = z := ⟨_, rfl⟩
        rw [hkd] at f0 ck
        have hb4z := Lib.hid hb4.size
        clear hcx gx l4 ho4 hb4 ck4 p1 p2 p3 p4 hn1 hkd ct a1
        go_upto_region 15 with (fail)
        refine wp_region_still_lit (by kernel_rfl) (by kernel_rfl) ?_
        repeat still_step
        refine wpStill_nil ?_
        change Exit.then _ _ _ _ w4.drew
        have d5 := d4.drew
        obtain ⟨w5, hw5⟩ : ∃ W, w4.drew = W := ⟨_, rfl⟩
        rw [hw5] at d5 g0 g1 g2 ⊢
        have HS5 := Lib.hid (show w.heap.size < w5.heap.size by rw [← hw5]; have := d4.size; have := HVZ.out; have := hb4z.out; show w.heap.size < w4.heap.size; omega)
        clear f0 f3 f4 f5 f6 f7 ck hw5 d4
        have SP2 := Lib.hid (fun W (hW : Below w.heap.size w W) => flsplit_any (43 :: t) _ W (HT.out.keep hW) (by rw [List.length_cons]; have := HSZ.out; omega) rfl)
        have a2 := cat_run [43] t (43 :: t) rfl (by simp) (by have := HSZ.out; omega)
        obtain ⟨SQ, hSQ⟩ : ∃ S, bytes (43 :: t) = S := ⟨_, rfl⟩
        rw [HS.out, hSQ, show bytes [43] = (⟨#[43]⟩ : ByteArray) from rfl] at a2
        rw [hSQ] at SP2
        clear hSQ
        have GX := Lib.hid (show Box w.heap.size (.bool ng) (.string s1) (.string s2) w5 from ⟨g0, g1, g2⟩)
        clear g0 g1 g2
        go_wp2_with fail
        refine (SP2.out _ d5).mono ?_
        rintro e6 w6 ⟨v6, rfl, ho6, hb6⟩
        have d6 := d5.trans (hb6.mono d5.size)
        have gB6 := box_keep GX.out hb6 HS5.out
        have hfin := d6.drew
        have HFN := Lib.hid (fun n => below_drewNF d6 n)
        obtain ⟨b0, b1, b2⟩ := gB6
        have g0 : w6.drew.cell? ⟨w.heap.size, 0, none⟩ = some (.bool ng) := b0
        have g1 : w6.drew.cell? ⟨w.heap.size, 1, none⟩ = some (.string s1) := b1
        have g2 : w6.drew.cell? ⟨w.heap.size, 2, none⟩ = some (.string s2) := b2
        clear a2 hb6 d5 d6
        cases ng with
        | true =>
          clear ho6
          go_upto_region 18 with (fail)
          go_quiet (fail)
          (try go_wp2)
          go_ret
          exact ⟨rfl, by first | exact hfin | exact HFN.out _⟩
        | false =>
          have hpt := M.plus_tks D E t HPL.out
          rw [hpt, HWH.out] at ho6
          have l6 := ho6.cs
          obtain ⟨ax2, cx2, rfl, -, -, gx2⟩ := cs_cells l6 (n := 1) rfl
          obtain ⟨bx2, ox2, rfl, -, hcx2⟩ := gx2 0 (by simp)
          have CX := Lib.hid (show ∀ k, k < 13 → w6.drew.cell? ⟨bx2, ox2 + k, none⟩ = (ctv { kind := 10, num := (false, D, E), flag := wh, sign := true } 0)[k]? from fun k hk => by have := hcx2 k hk; rw [Nat.zero_mul, Nat.add_zero] at this; exact this)
          have D5 := Lib.hid (show (ctv { kind := 10, num := (false, D, E), flag := wh, sign := true } 0) = #[.int .i64 10, .string ⟨#[]⟩, .string ⟨#[]⟩, .bool false, .string s1, .string s2, .bool wh, .bool true, .int .i64 0, .int .i64 0, .int .i64 0, .int .i64 0, .int .i64 0] by rw [← HD.out, ← HE.out]; rfl)
          clear hcx2 gx2 l6 ho6 hpt
          ·
            go_upto_region 18 with (fail)
            refine wp_region_still_lit (by kernel_rfl) (by kernel_rfl) ?_
            iterate 9 still_step
            refine still_ldM rfl _ rfl bx2 ox2 _ rfl rfl CX.out ?_
            iterate 3 still_step
            refine still_cmp rfl true _ _ rfl { kind := 10, num := (false, D, E), flag := wh, sign := true } 0 _ _ rfl rfl rfl D5.out.symm ?_
            repeat still_step
            refine wpStill_nil ?_
            change Exit.then _ _ _ _ w6.drew
            (try go_wp2)
            go_ret
            exact ⟨rfl, hfin⟩
end Go.Proofs.YtpecaalpbeoolaaGreatDoor
