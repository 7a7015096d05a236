/- The walk of UtfOrder: what the call comes to, in any memory in which the tables are laid. -/
import Derived.Test.YtoalaojghgdmcaaDoorTied
import Derived.WalkKit
import Derived.ProofKit
import Derived.OpenShut
import Derived.ShutString
import Derived.ChangeOld
import Derived.Below
import Derived.Test.YtoalaojghgdmcaaDoorUAlive
namespace Go.Proofs.YtoalaojghgdmcaaDoor.utfOrder
open Go.ChangeShapes Go.WideShapes Go.ChangeAt Go.RowKit
open Go.ChangeMaps (open_string shut_string)
set_option linter.unusedVariables false

theorem bytes_toList (l : List UInt8) : (bytes l).toList = l := by rw [ByteArray.toList_eq, bytes_list]
theorem less_iff (k l : List UInt8) : Op.bytesLess k l = decide (k < l) := by
  induction k generalizing l with
  | nil => cases l <;> simp [Op.bytesLess]
  | cons a k ih =>
    cases l with
    | nil => simp [Op.bytesLess]
    | cons b l =>
      simp only [Op.bytesLess, ih, List.cons_lt_cons_iff]
      by_cases h1 : a < b
      · simp [h1]
      · by_cases h2 : a = b
        · subst h2; simp [h1]
        · simp [h1, h2]
theorem cut_ne (a b : Nat) (ha : M.isCP a = true) (hb : M.isCP b = true) (h : a ≠ b) : ¬ ((bytes (M.enc b)).extract 0 (bytes (M.enc a)).size).toList = (bytes (M.enc a)).toList := by
  intro hh
  rw [ByteArray.toList_eq, ByteArray.toList_eq] at hh
  have h2 : (M.enc b).take (M.enc a).length = M.enc a := by simpa [bytes, ByteArray.size] using hh
  refine h (M.enc_begins ha hb ((M.enc b).drop (M.enc a).length) ?_)
  conv => lhs; rw [← List.take_append_drop (M.enc a).length (M.enc b), h2]
theorem enc_ne (a b : Nat) (ha : M.isCP a = true) (hb : M.isCP b = true) (h : a ≠ b) : ¬ (bytes (M.enc a)).toList = (bytes (M.enc b)).toList := by
  intro hh
  rw [bytes_toList, bytes_toList] at hh
  exact h (M.enc_begins ha hb [] (by rw [hh]; simp))

/-- Both are code points. -/
def Both (a b : Int) : Prop := M.isCP a = true ∧ M.isCP b = true
set_option maxHeartbeats 400000 in
theorem out_of (a0 : Int) (a1 : Int) (w : World) (hT : Tabs w)
    (h : a0 < 0 ∨ (0 ≤ a0 ∧ 1114111 < a0) ∨ (55296 ≤ a0 ∧ a0 < 57344) ∨ (0 ≤ a0 ∧ a0 ≤ 1114111 ∧ (a0 < 55296 ∨ 57343 < a0) ∧ (a1 < 0 ∨ (0 ≤ a1 ∧ 1114111 < a1) ∨ (55296 ≤ a1 ∧ a1 < 57344)))) :
    Calls Tryd.prog 7 #[.int .i64 a0, .int .i64 a1] w fun e w' => e = .returned (.bool true) ∧ Below w.heap.size w w' := by
  have HT := Lib.hid hT
  clear hT
  rcases h with h | ⟨h1, h2⟩ | ⟨h1, h2⟩ | ⟨h1, h2, h3 | h3, h4 | ⟨h4, h5⟩ | ⟨h4, h5⟩⟩
  all_goals
    go_enter Tryd.func7, Tryd.ntmps7
    go_wp2_with fail
    refine (alive_any _ HT.out).mono ?_
    rintro e w1 ⟨rfl, hb⟩
    go_wp2
    all_goals
      go_ret
      exact ⟨rfl, hb⟩

/-- What is written of two numbers, as the walk wants it. -/
structure Two (a b : Int) (t u : ByteArray) : Prop where
  ht : bytes (M.enc a) = t
  hu : bytes (M.enc b) = u
  t1 : 1 ≤ t.size
  u1 : 1 ≤ u.size
  t4 : t.size ≤ 4
  u4 : u.size ≤ 4
  less : Op.bytesLess t.toList u.toList = decide (a < b)
theorem two (a b : Int) (ha : M.isCP a = true) (hb : M.isCP b = true) : ∃ t u, Two a b t u := by
  have ha1 := (M.isCP_iff a).1 ha
  have hb1 := (M.isCP_iff b).1 hb
  obtain ⟨k, rfl⟩ : ∃ k : Nat, a = k := ⟨a.toNat, by omega⟩
  obtain ⟨l, rfl⟩ : ∃ k : Nat, b = k := ⟨b.toNat, by omega⟩
  refine ⟨_, _, rfl, rfl, ?_, ?_, ?_, ?_, ?_⟩
  · rw [bytes_size]; exact M.enc_pos k
  · rw [bytes_size]; exact M.enc_pos l
  · rw [bytes_size]; exact M.enc_le k
  · rw [bytes_size]; exact M.enc_le l
  · rw [less_iff, bytes_toList, bytes_toList]; exact decide_eq_decide.2 ((M.enc_lt_iff ha hb).trans (by omega))
theorem two_ne (a b : Int) (ha : M.isCP a = true) (hb : M.isCP b = true) (h : a ≠ b) : ¬ (bytes (M.enc a)).toList = (bytes (M.enc b)).toList ∧ ¬ ((bytes (M.enc b)).extract 0 (bytes (M.enc a)).size).toList = (bytes (M.enc a)).toList := by
  have ha1 := (M.isCP_iff a).1 ha
  have hb1 := (M.isCP_iff b).1 hb
  obtain ⟨k, rfl⟩ : ∃ k : Nat, a = k := ⟨a.toNat, by omega⟩
  obtain ⟨l, rfl⟩ : ∃ k : Nat, b = k := ⟨b.toNat, by omega⟩
  exact ⟨enc_ne k l ha hb (by omega), cut_ne k l ha hb (by omega)⟩

set_option maxHeartbeats 1000000 in
theorem inside (a b : Int) (w : World) (hT : Tabs w) (ha : M.isCP a = true) (hb : M.isCP b = true)
    (h0 : 0 ≤ a) (h1 : a ≤ 1114111) (h2 : a < 55296 ∨ 57343 < a) (h5 : 0 ≤ b) (h3 : b ≤ 1114111) (h4 : b < 55296 ∨ 57343 < b) :
    Calls Tryd.prog 7 #[.int .i64 a, .int .i64 b] w fun e w' => e = .returned (.bool true) ∧ Below w.heap.size w w' := by
  have HT := Lib.hid hT
  have Ha := Lib.hid ha
  have Hb := Lib.hid hb
  obtain ⟨t, u, hD⟩ := two a b ha hb
  have HD := Lib.hid hD
  clear ha hb hT hD
  rcases h2 with h2 | h2 <;> rcases h4 with h4 | h4
  all_goals
    go_enter Tryd.func7, Tryd.ntmps7
    go_wp2_with fail
    refine (alive_any _ HT.out).mono ?_
    rintro e w1 ⟨rfl, hbl⟩
    go_wp2_with fail
    refine (put_any _ [] (M.enc a) a _ (bs_nil _) (by decide) (by simp)).mono ?_
    rintro e w2 ⟨v2, rfl, ho2, hb2⟩
    have hb3 := hbl.trans (hb2.mono hbl.size)
    have hcv := conv_own ho2
    rw [HD.out.ht] at hcv
    clear hbl hb2 ho2
    go_wp2_with fail
    refine (put_any _ [] (M.enc b) b _ (bs_nil _) (by decide) (by simp)).mono ?_
    rintro e w4 ⟨v4, rfl, ho4, hb4⟩
    have hb5 := hb3.trans (hb4.mono hb3.size)
    have hcw := conv_own ho4
    rw [HD.out.hu] at hcw
    clear hb3 hb4 ho4 hcv
    have t1 := HD.out.t1
    have u1 := HD.out.u1
    have t4 := HD.out.t4
    have u4 := HD.out.u4
    have n1 : ¬ t = ByteArray.empty := by intro h; rw [h] at t1; simp at t1
    have n2 : ¬ u = ByteArray.empty := by intro h; rw [h] at u1; simp at u1
    have n3 : ((t.size : Int) == 0) = false := beq_eq_false_iff_ne.2 (by omega)
    have n4 : ((u.size : Int) == 0) = false := beq_eq_false_iff_ne.2 (by omega)
    have hls := HD.out.less
    by_cases he : a = b
    · subst he
      obtain rfl : t = u := by rw [← HD.out.ht, ← HD.out.hu]
      have hls2 : Op.bytesLess t.toList t.toList = false := by rw [hls]; simp
      clear hls
      go_wp2
      go_ret
      exact ⟨by simp, hb5⟩
    · have e0 : (a == b) = false := by rw [beq_eq_false_iff_ne]; exact he
      have e1 : ¬ t.toList = u.toList := by rw [← HD.out.ht, ← HD.out.hu]; exact (two_ne a b Ha.out Hb.out he).1
      have e2 : (t.toList == u.toList) = false := by simpa using e1
      have e3 : ¬ (u.extract 0 t.size).toList = t.toList := by rw [← HD.out.ht, ← HD.out.hu]; exact (two_ne a b Ha.out Hb.out he).2
      have e4 : ((u.extract 0 t.size).toList == t.toList) = false := by simpa using e3
      by_cases hab : a < b
      · have hls2 : Op.bytesLess t.toList u.toList = true := by rw [hls]; simpa using hab
        clear hls he
        by_cases hsz : u.size < t.size
        all_goals go_wp2
        all_goals go_ret
        all_goals exact ⟨by simp, hb5⟩
      · have hls2 : Op.bytesLess t.toList u.toList = false := by rw [hls]; simpa using hab
        clear hls he
        by_cases hsz : u.size < t.size
        all_goals go_wp2
        all_goals go_ret
        all_goals exact ⟨by simp, hb5⟩

theorem walk (a0 : Int) (a1 : Int) (w0 : (Lit.int .i64 a0).wf = true) (w1 : (Lit.int .i64 a1).wf = true) (w : World) (hT : Tabs w) :
    Calls Tryd.prog 7 #[.int .i64 a0, .int .i64 a1] w fun e w' => e = .returned (.bool true) ∧ Below w.heap.size w w' := by
  by_cases ho : M.isCP a0 = true ∧ M.isCP a1 = true
  · obtain ⟨ha, hb⟩ := ho
    have ha1 := (M.isCP_iff a0).1 ha
    have hb1 := (M.isCP_iff a1).1 hb
    exact inside a0 a1 w hT ha hb ha1.1 ha1.2.1 ha1.2.2 hb1.1 hb1.2.1 hb1.2.2
  · rw [M.isCP_iff, M.isCP_iff] at ho
    exact out_of a0 a1 w hT (by omega)

end Go.Proofs.YtoalaojghgdmcaaDoor.utfOrder
