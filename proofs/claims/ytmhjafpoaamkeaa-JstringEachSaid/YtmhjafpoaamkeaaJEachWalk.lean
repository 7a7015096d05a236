/- The walk of JstringEach. -/
import Derived.Test.YtmhjafpoaamkeaaJLaw
import Derived.Deep.RegionHeld3
import Derived.Laws.Concat
namespace Go.Proofs.Ytmhjafpoaamkeaa
open Go.RowKit
set_option linter.unusedVariables false

/-- The units that the law tries, and how each is written. -/
def eachL : List Int := [0, 8, 9, 10, 12, 13, 31, 32, 34, 47, 92, 127, 233, 8232, 55296, 56320, 65535]
def eachS : List ByteArray := [⟨#[92, 117, 48, 48, 48, 48]⟩, ⟨#[92, 98]⟩, ⟨#[92, 116]⟩, ⟨#[92, 110]⟩, ⟨#[92, 102]⟩, ⟨#[92, 114]⟩, ⟨#[92, 117, 48, 48, 49, 102]⟩, ⟨#[32]⟩, ⟨#[92, 34]⟩, ⟨#[47]⟩, ⟨#[92, 92]⟩, ⟨#[127]⟩, ⟨#[195, 169]⟩, ⟨#[226, 128, 168]⟩, ⟨#[92, 117, 100, 56, 48, 48]⟩, ⟨#[92, 117, 100, 99, 48, 48]⟩, ⟨#[239, 191, 191]⟩]
def eachU (k : Nat) : Int := eachL.getD k 0
def eachT (k : Nat) : ByteArray := eachS.getD k ⟨#[]⟩
theorem each_len (k : Nat) (hk : k < 17) : (eachT k).size ≤ 6 := by
  have : ∀ k, k < 17 → (eachT k).size ≤ 6 := by decide +kernel
  exact this k hk
theorem each_ok (k : Nat) (hk : k < 17) : spellI [eachU k] = (ByteArray.mk #[34] ++ eachT k) ++ ByteArray.mk #[34] := by
  have : ∀ k, k < 17 → spellI [eachU k] = (ByteArray.mk #[34] ++ eachT k) ++ ByteArray.mk #[34] := by decide +kernel
  exact this k hk
def blkU : Obj := .cells #[.int .i64 0, .int .i64 8, .int .i64 9, .int .i64 10, .int .i64 12, .int .i64 13, .int .i64 31, .int .i64 32, .int .i64 34, .int .i64 47, .int .i64 92, .int .i64 127, .int .i64 233, .int .i64 8232, .int .i64 55296, .int .i64 56320, .int .i64 65535] 3
def blkT : Obj := .cells #[.string ⟨#[92, 117, 48, 48, 48, 48]⟩, .string ⟨#[92, 98]⟩, .string ⟨#[92, 116]⟩, .string ⟨#[92, 110]⟩, .string ⟨#[92, 102]⟩, .string ⟨#[92, 114]⟩, .string ⟨#[92, 117, 48, 48, 49, 102]⟩, .string ⟨#[32]⟩, .string ⟨#[92, 34]⟩, .string ⟨#[47]⟩, .string ⟨#[92, 92]⟩, .string ⟨#[127]⟩, .string ⟨#[195, 169]⟩, .string ⟨#[226, 128, 168]⟩, .string ⟨#[92, 117, 100, 56, 48, 48]⟩, .string ⟨#[92, 117, 100, 99, 48, 48]⟩, .string ⟨#[239, 191, 191]⟩] 9
theorem cases17 (k : Nat) (hk : k < 17) : k = 0 ∨ k = 1 ∨ k = 2 ∨ k = 3 ∨ k = 4 ∨ k = 5 ∨ k = 6 ∨ k = 7 ∨ k = 8 ∨ k = 9 ∨ k = 10 ∨ k = 11 ∨ k = 12 ∨ k = 13 ∨ k = 14 ∨ k = 15 ∨ k = 16 := by omega
theorem cellU (w : World) (k : Nat) (hk : k < 17) : ((w.alloc blkU).alloc blkT).cell? ⟨w.heap.size, k, none⟩ = some (.int .i64 (eachU k)) := by
  unfold blkU blkT
  rw [World.cell?_alloc_past _ _ _ (by simp), World.cell?_alloc_at _ _ _ _ rfl]
  rcases cases17 k hk with rfl | rfl | rfl | rfl | rfl | rfl | rfl | rfl | rfl | rfl | rfl | rfl | rfl | rfl | rfl | rfl | rfl <;> rfl
theorem cellT (w : World) (k : Nat) (hk : k < 17) : ((w.alloc blkU).alloc blkT).cell? ⟨w.heap.size + 1, k, none⟩ = some (.string (eachT k)) := by
  unfold blkU blkT
  rw [World.cell?_alloc_at _ _ _ _ (by simp)]
  rcases cases17 k hk with rfl | rfl | rfl | rfl | rfl | rfl | rfl | rfl | rfl | rfl | rfl | rfl | rfl | rfl | rfl | rfl | rfl <;> rfl

set_option maxRecDepth 100000 in
set_option maxHeartbeats 2000000 in
theorem jeach_walk (a0 : Int) (w0 : (Lit.int .i64 a0).wf = true) (w : World) :
    Calls Try.prog 7 #[.int .i64 a0] w fun e w' => e = .returned (.bool true) ∧ Below w.heap.size w w' := by
  by_cases ho : a0 < 0 ∨ 17 ≤ a0
  · rcases ho with ho | ho
    all_goals
      go_enter Try.func7, Try.ntmps7
      go_wp2_with fail
      refine (jalive_any _).mono ?_
      rintro e w1 ⟨rfl, hb⟩
      go_wp2
      go_ret
      exact ⟨rfl, (hb.alloc hb.size _).alloc (by simp; have := hb.size; omega) _⟩
  · obtain ⟨k, rfl⟩ : ∃ k : Nat, a0 = k := ⟨a0.toNat, by omega⟩
    have hk : k < 17 := by omega
    have hok := each_ok k hk
    have hss := each_len k hk
    have i1 : (0 : Int) ≤ k := by omega
    have i2 : (k : Int) < 17 := by omega
    clear ho w0
    go_enter Try.func7, Try.ntmps7
    go_wp2_with fail
    refine (jalive_any _).mono ?_
    rintro e w1 ⟨rfl, hb⟩
    have c1 := cellU w1 k hk
    have c2 := cellT w1 k hk
    have hb2 : Below w.heap.size w ((w1.alloc blkU).alloc blkT) := (hb.alloc hb.size _).alloc (by simp; have := hb.size; omega) _
    have hsz : w1.heap.size + 1 < ((w1.alloc blkU).alloc blkT).heap.size := by simp
    clear hb
    unfold blkU blkT at c1 c2 hb2 hsz
    generalize eachU k = x at *
    generalize eachT k = s at *
    obtain ⟨n, hn⟩ : ∃ n, w1.heap.size = n := ⟨_, rfl⟩
    rw [hn] at c1 c2 hsz
    obtain ⟨W0, hW0⟩ : ∃ W0, (w1.alloc blkU).alloc blkT = W0 := ⟨_, rfl⟩
    unfold blkU blkT at hW0
    rw [hW0] at c1 c2 hb2 hsz
    have HW0 := Lib.hid hW0
    clear hW0
    obtain ⟨D, hD⟩ : ∃ D, (W0.alloc (.cells #[.int .i64 x] 3)).drew = D := ⟨_, rfl⟩
    have d1 : D.cell? ⟨n, k, none⟩ = some (.int .i64 x) := by
      rw [← hD]; show (W0.alloc _).cell? _ = _
      rw [World.cell?_alloc_past _ _ _ (by show n < _; omega)]; exact c1
    have d2 : D.cell? ⟨n + 1, k, none⟩ = some (.string s) := by
      rw [← hD]; show (W0.alloc _).cell? _ = _
      rw [World.cell?_alloc_past _ _ _ (by show n + 1 < _; omega)]; exact c2
    have d3 : n + 1 < D.heap.size := by rw [← hD]; simp; omega
    have d4 : Below w.heap.size w D := by rw [← hD]; exact (hb2.alloc hb2.size _).drew
    have sp : Calls Try.prog 11 #[.slice (some ⟨W0.heap.size, 0, none⟩) 1 1] D fun e W' => e = .returned (.string (ByteArray.mk #[34] ++ s ++ ByteArray.mk #[34])) ∧
          (W'.cell? ⟨n, k, none⟩ = some (.int .i64 x) ∧ W'.cell? ⟨n + 1, k, none⟩ = some (.string s)) ∧ Below w.heap.size w W' := by
      have hone : Is D (.slice (some ⟨W0.heap.size, 0, none⟩) 1 1) [x] := by rw [← hD]; exact is_one W0.drew x
      refine (jspell_all _ [x] _ D hone (by simp) hok).mono ?_
      rintro e w' ⟨rfl, hb⟩
      refine ⟨rfl, ⟨?_, ?_⟩, d4.trans (hb.mono d4.size)⟩
      · rw [hb.cell (p := ⟨n, k, none⟩) (Nat.lt_of_succ_lt d3)]; exact d1
      · rw [hb.cell (p := ⟨n + 1, k, none⟩) d3]; exact d2
    have e1 : W0.drew.cell? ⟨n, k, none⟩ = some (.int .i64 x) := c1
    have e2 : W0.drew.cell? ⟨n + 1, k, none⟩ = some (.string s) := c2
    have D1 : Hid _ := Lib.hid (And.intro d1 d2)
    have E1 := Lib.hid (And.intro e1 e2)
    have Sp := Lib.hid sp
    have HD := Lib.hid hD
    have Hn := Lib.hid hn
    clear sp hn hok d1 d2 d3 d4 e1 e2 c1 c2 hD hsz
    have hq : (ByteArray.mk #[34]).size = 1 := rfl
    have a1 : ∀ W, (Op.stringOp .add (ByteArray.mk #[34]) s).run Try.prog W = .ok (.string (ByteArray.mk #[34] ++ s)) W := fun W => run_string_add W _ _ (by rw [hq]; decide) (by omega)
    have a2 : ∀ W, (Op.stringOp .add (ByteArray.mk #[34] ++ s) (ByteArray.mk #[34])).run Try.prog W = .ok (.string (ByteArray.mk #[34] ++ s ++ ByteArray.mk #[34])) W := fun W => run_string_add W _ _ (by rw [ByteArray.size_append, hq]; omega) (by rw [hq]; decide)
    clear hq
    go_wp2_with fail
    rw [Hn.out, HW0.out]
    go_region_held3 (fun W => World.cell? W ⟨n, k, none⟩ = some (.int .i64 x) ∧ W.cell? ⟨n + 1, k, none⟩ = some (.string s))
      ((first | assumption | exact E1.out | (rw [HD.out]; exact D1.out)))
      ((go_at_call 11; rw [HD.out]; refine Sp.out.mono ?_; rintro e W' ⟨rfl, hS, hbW⟩))
    all_goals
      go_wp2
      go_ret
      exact ⟨by simp, by first | exact hbW | exact hbW.drew⟩
end Go.Proofs.Ytmhjafpoaamkeaa
