/- The walk of LinesBack: what the call comes to, in any memory in which the tables are laid. -/
import Derived.Test.YtoalaojghgdmcaaDoorTied
import Derived.WalkKit
import Derived.ProofKit
import Derived.OpenShut
import Derived.ShutString
import Derived.ChangeOld
import Derived.Below
import Derived.Test.YtoalaojghgdmcaaDoorLines
import Derived.Test.YtoalaojghgdmcaaDoorURef
import Derived.Test.YtoalaojghgdmcaaDoorLMath2
import Derived.Test.YtoalaojghgdmcaaDoorLBack
namespace Go.Proofs.YtoalaojghgdmcaaDoor.linesBack
open Go.ChangeShapes Go.WideShapes Go.ChangeAt Go.RowKit
open Go.ChangeMaps (open_string shut_string)
set_option linter.unusedVariables false

def IsRow (k : IntKind) (w : World) (a : Option Addr) (len cap : Nat) (zs : List Int) : Prop :=
  (a = none ∧ len = 0 ∧ cap = 0 ∧ zs = []) ∨
  ∃ x, a = some x ∧ len ≤ cap ∧ cap ≤ maxLen ∧ zs.length = cap ∧ (∀ i, i < zs.length → w.cell? (x.add i) = some (.int k (zs.getD i 0))) ∧ ∀ n ∈ zs, (Lit.int k n).wf = true

theorem and17 (n : Int) : bits .and .i64 n 131071 = n % 131072 := by
  have h2 : (BitVec.ofInt 64 n &&& BitVec.ofInt 64 131071).toNat = (n % 18446744073709551616).toNat % 131072 := by
    have := Nat.and_two_pow_sub_one_eq_mod (n % 18446744073709551616).toNat 17
    rw [BitVec.toNat_and, BitVec.toNat_ofInt]
    exact this
  have h3 : bits .and .i64 n 131071 = IntKind.i64.wrap (((BitVec.ofInt 64 n &&& BitVec.ofInt 64 131071).toNat : Nat) : Int) := rfl
  rw [h3, h2, IntKind.wrap_i64]
  omega

theorem out_of (a0 : Option Addr) (len0 cap0 : Nat) (i : Int) (w : World) (hT : Tabs w) (h : 60 < len0 ∨ (len0 ≤ 60 ∧ i < 0) ∨ (len0 ≤ 60 ∧ 0 ≤ i ∧ (len0 : Int) < i)) :
    Calls Tryd.prog 9 #[.slice a0 len0 cap0, .int .i64 i] w fun e w' => e = .returned (.bool true) ∧ Below w.heap.size w w' := by
  have HT := Lib.hid hT
  clear hT
  rcases h with h | ⟨h1, h2⟩ | ⟨h1, h2, h3⟩
  all_goals
    go_enter Tryd.func9, Tryd.ntmps9
    go_wp2_with fail
    refine (lalive_any _ HT.out).mono ?_
    rintro e w1 ⟨rfl, hb⟩
    go_wp2
    go_ret
    exact ⟨rfl, hb⟩

/-- The end of the law: the place of where a code point begins is found again. -/
def Fin (rs : List Nat) (t : Nat) : Prop := ∃ k c, M.atP (M.encs rs) (M.encs (rs.take t)).length = (k, c) ∧ M.backP (M.encs rs) k c (M.encs rs).length (0, 0, 0) = ((M.encs (rs.take t)).length, k, c)

/-- What the law holds as the offset behind i rounds. -/
def offv (t i : Nat) (rs : List Nat) : Nat := if t < i then (M.encs (rs.take t)).length else 0
theorem offv_hit (t : Nat) (rs : List Nat) (r : Nat) (h : rs.length = t) : offv t (t + 1) (rs ++ [r]) = (M.encs rs).length := by
  unfold offv; rw [if_pos (by omega), List.take_append_of_le_length (by omega), List.take_of_length_le (by omega)]
theorem offv_miss (t i : Nat) (rs : List Nat) (r : Nat) (h : rs.length = i) (hi : i ≠ t) : offv t (i + 1) (rs ++ [r]) = offv t i rs := by
  unfold offv
  by_cases h1 : t < i
  · rw [if_pos h1, if_pos (by omega), List.take_append_of_le_length (by omega)]
  · rw [if_neg h1, if_neg (by omega)]
theorem offv_end (t i : Nat) (rs : List Nat) (h : t < i) : offv t i rs = (M.encs (rs.take t)).length := if_pos h

set_option maxHeartbeats 1000000 in
theorem row_of (A : Option Addr) (len cap t : Nat) (zs : List Int) (w : World) (hT : Tabs w) (hl : len ≤ 60) (ht : t ≤ len)
    (hc : 0 < len → ∃ b off, A = some ⟨b, off, none⟩ ∧ b < w.heap.size ∧ ∀ j, j < len → w.cell? ⟨b, off + j, none⟩ = some (.int .i64 (zs.getD j 0))) :
    Calls Tryd.prog 9 #[.slice A len cap, .int .i64 (t : Int)] w fun e w' => e = .returned (.bool true) ∧ Below w.heap.size w w' := by
  have q1 : decide (60 < (len : Int)) = false := by simp; omega
  have q2 : decide ((t : Int) < 0) = false := by simp
  have q3 : decide ((len : Int) < t) = false := by simp; omega
  have q4 : decide (60 < len) = false := by simp; omega
  have q5 : decide (len < t) = false := by simp; omega
  have HT := Lib.hid hT
  have Hc := Lib.hid hc
  clear hc hT
  go_enter Tryd.func9, Tryd.ntmps9
  go_wp2_with fail
  refine (lalive_any _ HT.out).mono ?_
  rintro e w1 ⟨rfl, hb⟩
  go_wp2
  go_loopw [6, 7, 8] (fun v ov iv wr => ∃ (i : Nat) (rs : List Nat), i ≤ len ∧ rs.length = i ∧ iv = .int .i64 i ∧ ov = .int .i64 (offv t i rs : Int) ∧ (∀ r ∈ rs, M.isCP (r : Int) = true) ∧ OwnB w.heap.size wr v (M.encs rs) ∧ Below w.heap.size w wr) (fun _ _ iv _ => len - (intOf iv).toNat)
  case atStart => exact ⟨0, [], by omega, rfl, rfl, rfl, by simp, World.ownsRow_nil _ _ _ _, hb⟩
  case round =>
    obtain ⟨i, rs, hi, hrl, rfl, rfl, hcp, ho, hbr⟩ := hrel
    have hel := M.encs_len rs
    have hsz := hbr.size
    have hbs := ho.bs
    have hbs2 := hbs
    obtain ⟨ad, cp, rfl, _, _, _⟩ := hbs2
    have Hbs := Lib.hid hbs
    have Ho := Lib.hid ho
    have Hcp := Lib.hid hcp
    have Hrl := Lib.hid hrl
    have hrl2 : rs.length ≤ 60 := by omega
    clear hcp ho hbs
    by_cases hlt : i < len
    · obtain ⟨b, off, rfl, hbk, hcs⟩ := Hc.out (by omega)
      have hcell : wr.cell? ⟨b, off + i, none⟩ = some (.int .i64 (zs.getD i 0)) := by
        rw [hbr.cell (p := ⟨b, off + i, none⟩) hbk]; exact hcs i hlt
      obtain ⟨z, hzz⟩ : ∃ z, zs.getD i 0 = z := ⟨_, rfl⟩
      rw [hzz] at hcell
      obtain ⟨q, hq17⟩ : ∃ q, z % 131072 = q := ⟨_, rfl⟩
      have hand := and17 z
      rw [hq17] at hand
      have q0 : 0 ≤ q := by omega
      have q6 : q ≤ 131071 := by omega
      have hnew : ∀ r ∈ rs ++ [cpOf q], M.isCP (r : Int) = true := by
        intro r hr
        rcases List.mem_append.1 hr with h | h
        · exact Hcp.out r h
        · simp at h; subst h; exact cpOf_cp q q0 q6
      have hen : M.encs rs ++ M.enc (cpOf q : Int) = M.encs (rs ++ [cpOf q]) := (M.encs_snoc rs (cpOf q)).symm
      have Hnew := Lib.hid hnew
      have Hen := Lib.hid hen
      clear hzz hq17 hnew hen hrl hcs
      by_cases hit : i = t
      · have e1 : ((i : Int) == t) = true := by rw [beq_iff_eq]; omega
        have e2 : offv t (i + 1) (rs ++ [cpOf q]) = (M.encs rs).length := by rw [hit]; exact offv_hit t rs _ (by rw [Hrl.out]; exact hit)
        have E2 := Lib.hid e2
        clear e2 hit
        go_wp2_with fail
        refine (refput_low w.heap.size _ (M.encs rs) _ q wr q0 q6 Ho.out (by omega) hsz Hen.out).mono ?_
        rintro e w2 ⟨v2, rfl, ho2, hb2⟩
        have hb3 := hbr.trans hb2
        clear hbr hb2
        go_wp2
        go_roundw
        case rel => exact ⟨i + 1, rs ++ [cpOf q], by omega, by simp [Hrl.out], by go_num, by rw [E2.out], Hnew.out, ho2, hb3⟩
        case measure => simp [intOf]; omega
      · have e1 : ((i : Int) == t) = false := by rw [beq_eq_false_iff_ne]; omega
        have e2 : offv t (i + 1) (rs ++ [cpOf q]) = offv t i rs := offv_miss t i rs _ Hrl.out hit
        have E2 := Lib.hid e2
        clear e2 hit
        go_wp2_with fail
        refine (refput_low w.heap.size _ (M.encs rs) _ q wr q0 q6 Ho.out (by omega) hsz Hen.out).mono ?_
        rintro e w2 ⟨v2, rfl, ho2, hb2⟩
        have hb3 := hbr.trans hb2
        clear hbr hb2
        go_wp2
        go_roundw
        case rel => exact ⟨i + 1, rs ++ [cpOf q], by omega, by simp [Hrl.out], by go_num, by rw [E2.out], Hnew.out, ho2, hb3⟩
        case measure => simp [intOf]; omega
    · obtain rfl : i = len := by omega
      have hfin : Fin rs t := M.back_found rs t Hcp.out
      obtain ⟨k, c, hk, hbk⟩ := hfin
      have htl : (M.encs (rs.take t)).length ≤ (M.encs rs).length := by
        have : M.encs rs = M.encs (rs.take t) ++ M.encs (rs.drop t) := by rw [← M.encs_append, List.take_append_drop]
        rw [this, List.length_append]; omega
      have hfull : t = i → M.encs (rs.take t) = M.encs rs := fun h => by rw [List.take_of_length_le (by omega)]
      have Hk := Lib.hid hk
      have Hbk := Lib.hid hbk
      have Hfull := Lib.hid hfull
      clear hk hbk hfull hlt hrl
      by_cases hti : t = i
      · have e1 : ((t : Int) == i) = true := by rw [beq_iff_eq]; omega
        have e2 := congrArg List.length (Hfull.out hti)
        rw [e2] at Hk Hbk
        clear e2 hti htl
        go_wp2_with fail
        refine (at_any _ (M.encs rs) (M.encs rs).length _ _ (HT.out.keep hbr) Hbs.out (by omega) (Nat.le_refl _) (.inl rfl) _ Hk.out).mono ?_
        rintro e w2 ⟨rfl, hb2⟩
        have hb3 := hbr.trans (hb2.mono hbr.size)
        have hbs3 := Hbs.out.keep hb2
        have Hbs3 := Lib.hid hbs3
        clear hbr hb2 hbs3
        go_wp2_with fail
        refine (back_any _ (M.encs rs) k c _ _ (HT.out.keep hb3) Hbs3.out (by omega) Hbk.out).mono ?_
        rintro e w4 ⟨rfl, hb4⟩
        have hb5 := hb3.trans (hb4.mono hb3.size)
        clear hb3 hb4
        go_wp2
        go_ret
        exact ⟨by first | rfl | simp, hb5⟩
      · have e1 : ((t : Int) == i) = false := by rw [beq_eq_false_iff_ne]; omega
        have e3 := offv_end t i rs (by omega)
        rw [e3]
        obtain ⟨m, hm⟩ : ∃ m, (M.encs (rs.take t)).length = m := ⟨_, rfl⟩
        rw [hm] at Hk Hbk htl ⊢
        clear e3 hti hm
        go_wp2_with fail
        refine (at_any _ (M.encs rs) m _ _ (HT.out.keep hbr) Hbs.out (by omega) htl (.inl rfl) _ Hk.out).mono ?_
        rintro e w2 ⟨rfl, hb2⟩
        have hb3 := hbr.trans (hb2.mono hbr.size)
        have hbs3 := Hbs.out.keep hb2
        have Hbs3 := Lib.hid hbs3
        clear hbr hb2 hbs3
        go_wp2_with fail
        refine (back_any _ (M.encs rs) k c _ _ (HT.out.keep hb3) Hbs3.out (by omega) Hbk.out).mono ?_
        rintro e w4 ⟨rfl, hb4⟩
        have hb5 := hb3.trans (hb4.mono hb3.size)
        clear hb3 hb4
        go_wp2
        go_ret
        exact ⟨by first | rfl | simp, hb5⟩

theorem walk (a0 : Option Addr) (len0 cap0 : Nat) (z0 : List Int) (a1 : Int) (w : World) (w0 : IsRow .i64 w a0 len0 cap0 z0) (w1 : (Lit.int .i64 a1).wf = true) (hT : Tabs w) :
    Calls Tryd.prog 9 #[.slice a0 len0 cap0, .int .i64 a1] w fun e w' => e = .returned (.bool true) ∧ Below w.heap.size w w' := by
  by_cases h : 60 < len0 ∨ (len0 ≤ 60 ∧ a1 < 0) ∨ (len0 ≤ 60 ∧ 0 ≤ a1 ∧ (len0 : Int) < a1)
  · exact out_of a0 len0 cap0 a1 w hT h
  · obtain ⟨t, rfl⟩ : ∃ i : Nat, a1 = i := ⟨a1.toNat, by omega⟩
    refine row_of a0 len0 cap0 t z0 w hT (by omega) (by omega) (fun h0 => ?_)
    rcases w0 with ⟨_, h, _⟩ | ⟨x, rfl, hl, hm, hz, hc, _⟩
    · omega
    · obtain ⟨b, off, rfl, hc2⟩ := ints_at hc (by omega)
      exact ⟨b, off, rfl, World.block_lt_of_cell? w _ (hc2 0 (by omega)), fun j hj => hc2 j (by omega)⟩

end Go.Proofs.YtoalaojghgdmcaaDoor.linesBack
