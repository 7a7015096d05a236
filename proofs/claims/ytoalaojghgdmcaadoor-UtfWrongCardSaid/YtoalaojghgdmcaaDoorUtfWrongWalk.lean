/- The walk of UtfWrong: what the call comes to, in any memory in which the tables are laid. -/
import Derived.Test.YtoalaojghgdmcaaDoorTied
import Derived.WalkKit
import Derived.ProofKit
import Derived.OpenShut
import Derived.ShutString
import Derived.ChangeOld
import Derived.Below
import Derived.Test.YtoalaojghgdmcaaDoorUAlive
import Derived.Test.YtoalaojghgdmcaaDoorUConv
namespace Go.Proofs.YtoalaojghgdmcaaDoor.utfWrong
open Go.ChangeShapes Go.WideShapes Go.ChangeAt Go.RowKit
open Go.ChangeMaps (open_string shut_string)
set_option linter.unusedVariables false

/-- The texts that the law tries, and from where each is no UTF-8. -/
def wrS : List ByteArray := [⟨#[]⟩, ⟨#[97]⟩, ⟨#[128]⟩, ⟨#[192, 128]⟩, ⟨#[193, 191]⟩, ⟨#[194, 128]⟩, ⟨#[223, 191]⟩, ⟨#[224, 159, 191]⟩, ⟨#[224, 160, 128]⟩, ⟨#[237, 159, 191]⟩, ⟨#[237, 160, 128]⟩, ⟨#[238, 128, 128]⟩, ⟨#[239, 191, 191]⟩, ⟨#[240, 143, 191, 191]⟩, ⟨#[240, 144, 128, 128]⟩, ⟨#[244, 143, 191, 191]⟩, ⟨#[244, 144, 128, 128]⟩, ⟨#[245, 128, 128, 128]⟩, ⟨#[255]⟩, ⟨#[97, 226, 130]⟩, ⟨#[97, 98, 226, 130, 122]⟩, ⟨#[0]⟩]
def wrA : List Int := [-1, -1, 0, 0, 0, -1, -1, 0, -1, -1, 0, -1, -1, 0, -1, -1, 0, 0, 0, 1, 2, -1]
def wrT (k : Nat) : ByteArray := wrS.getD k ⟨#[]⟩
def wrP (k : Nat) : Int := wrA.getD k 0
theorem wr_len (k : Nat) (hk : k < 22) : (wrT k).size ≤ 6 := by
  have : ∀ k, k < 22 → (wrT k).size ≤ 6 := by decide +kernel
  exact this k hk
theorem wr_good (k : Nat) (hk : k < 22) (h : wrP k < 0) : M.validAll (wrT k).data.toList = ((wrT k).size, true) := by
  have : ∀ k, k < 22 → wrP k < 0 → M.validAll (wrT k).data.toList = ((wrT k).size, true) := by decide +kernel
  exact this k hk h
theorem wr_bad (k : Nat) (hk : k < 22) (h : ¬ wrP k < 0) : M.validAll (wrT k).data.toList = ((wrP k).toNat, false) ∧ M.nextAt (wrT k).data.toList (wrP k) = (65533, 1, false) := by
  have : ∀ k, k < 22 → ¬ wrP k < 0 → (M.validAll (wrT k).data.toList = ((wrP k).toNat, false) ∧ M.nextAt (wrT k).data.toList (wrP k) = (65533, 1, false)) := by decide +kernel
  exact this k hk h
def wblkS : Obj := .cells #[.string ⟨#[]⟩, .string ⟨#[97]⟩, .string ⟨#[128]⟩, .string ⟨#[192, 128]⟩, .string ⟨#[193, 191]⟩, .string ⟨#[194, 128]⟩, .string ⟨#[223, 191]⟩, .string ⟨#[224, 159, 191]⟩, .string ⟨#[224, 160, 128]⟩, .string ⟨#[237, 159, 191]⟩, .string ⟨#[237, 160, 128]⟩, .string ⟨#[238, 128, 128]⟩, .string ⟨#[239, 191, 191]⟩, .string ⟨#[240, 143, 191, 191]⟩, .string ⟨#[240, 144, 128, 128]⟩, .string ⟨#[244, 143, 191, 191]⟩, .string ⟨#[244, 144, 128, 128]⟩, .string ⟨#[245, 128, 128, 128]⟩, .string ⟨#[255]⟩, .string ⟨#[97, 226, 130]⟩, .string ⟨#[97, 98, 226, 130, 122]⟩, .string ⟨#[0]⟩] 9
def wblkA : Obj := .cells #[.int .i64 (-1), .int .i64 (-1), .int .i64 0, .int .i64 0, .int .i64 0, .int .i64 (-1), .int .i64 (-1), .int .i64 0, .int .i64 (-1), .int .i64 (-1), .int .i64 0, .int .i64 (-1), .int .i64 (-1), .int .i64 0, .int .i64 (-1), .int .i64 (-1), .int .i64 0, .int .i64 0, .int .i64 0, .int .i64 1, .int .i64 2, .int .i64 (-1)] 3
theorem cases22 (k : Nat) (hk : k < 22) : k = 0 ∨ k = 1 ∨ k = 2 ∨ k = 3 ∨ k = 4 ∨ k = 5 ∨ k = 6 ∨ k = 7 ∨ k = 8 ∨ k = 9 ∨ k = 10 ∨ k = 11 ∨ k = 12 ∨ k = 13 ∨ k = 14 ∨ k = 15 ∨ k = 16 ∨ k = 17 ∨ k = 18 ∨ k = 19 ∨ k = 20 ∨ k = 21 := by omega
theorem wcellS (w : World) (k : Nat) (hk : k < 22) : ((w.alloc wblkS).alloc wblkA).cell? ⟨w.heap.size, k, none⟩ = some (.string (wrT k)) := by
  unfold wblkS wblkA
  rw [World.cell?_alloc_past _ _ _ (by simp), World.cell?_alloc_at _ _ _ _ rfl]
  rcases cases22 k hk with rfl | rfl | rfl | rfl | rfl | rfl | rfl | rfl | rfl | rfl | rfl | rfl | rfl | rfl | rfl | rfl | rfl | rfl | rfl | rfl | rfl | rfl <;> rfl
theorem wcellA (w : World) (k : Nat) (hk : k < 22) : ((w.alloc wblkS).alloc wblkA).cell? ⟨w.heap.size + 1, k, none⟩ = some (.int .i64 (wrP k)) := by
  unfold wblkS wblkA
  rw [World.cell?_alloc_at _ _ _ _ (by simp)]
  rcases cases22 k hk with rfl | rfl | rfl | rfl | rfl | rfl | rfl | rfl | rfl | rfl | rfl | rfl | rfl | rfl | rfl | rfl | rfl | rfl | rfl | rfl | rfl | rfl <;> rfl

set_option maxRecDepth 100000 in
set_option maxHeartbeats 2000000 in
theorem walk (a0 : Int) (w0 : (Lit.int .i64 a0).wf = true) (w : World) (hT : Tabs w) :
    Calls Tryd.prog 5 #[.int .i64 a0] w fun e w' => e = .returned (.bool true) ∧ Below w.heap.size w w' := by
  have HT := Lib.hid hT
  clear hT
  by_cases ho : a0 < 0 ∨ 22 ≤ a0
  · rcases ho with ho | ho
    all_goals
      go_enter Tryd.func5, Tryd.ntmps5
      go_wp2_with fail
      refine (alive_any _ HT.out).mono ?_
      rintro e w1 ⟨rfl, hb⟩
      go_wp2
      go_ret
      exact ⟨rfl, (hb.alloc hb.size _).alloc (by simp; have := hb.size; omega) _⟩
  · obtain ⟨k, rfl⟩ : ∃ k : Nat, a0 = k := ⟨a0.toNat, by omega⟩
    have hk : k < 22 := by omega
    have hlen := wr_len k hk
    have hgood := wr_good k hk
    have hbad := wr_bad k hk
    have i1 : (0 : Int) ≤ k := by omega
    have i2 : (k : Int) < 22 := by omega
    clear ho w0
    go_enter Tryd.func5, Tryd.ntmps5
    go_wp2_with fail
    refine (alive_any _ HT.out).mono ?_
    rintro e w1 ⟨rfl, hb⟩
    have c1 := wcellS w1 k hk
    have c2 := wcellA w1 k hk
    have hb2 : Below w.heap.size w ((w1.alloc wblkS).alloc wblkA) := (hb.alloc hb.size _).alloc (by simp; have := hb.size; omega) _
    have hsz : w1.heap.size + 1 < ((w1.alloc wblkS).alloc wblkA).heap.size := by simp
    clear hb
    unfold wblkS wblkA at c1 c2 hb2 hsz
    generalize wrT k = s at *
    generalize wrP k = A at *
    have l1 := c1
    have l2 := c2
    obtain ⟨n, hn⟩ : ∃ n, w1.heap.size = n := ⟨_, rfl⟩
    rw [hn] at c1 c2 hsz
    obtain ⟨W0, hW0⟩ : ∃ W0, (w1.alloc wblkS).alloc wblkA = W0 := ⟨_, rfl⟩
    unfold wblkS wblkA at hW0
    rw [hW0] at c1 c2 hb2 hsz
    have hz : W0.heap.size = n + 1 + 1 := by rw [← hW0, ← hn]; simp
    have Hz := Lib.hid hz
    have HW0 := Lib.hid hW0
    have Hn := Lib.hid hn
    have Hgood := Lib.hid hgood
    have Hbad := Lib.hid hbad
    have hconv := fun W => bw_conv W s
    have hbs := bw_bs W0 s (by omega)
    rw [hz] at hbs
    have Hbs := Lib.hid hbs
    have hsl : s.data.toList.length = s.size := Array.length_toList
    have Hsl := Lib.hid hsl
    have C1 := Lib.hid c1
    have C2 := Lib.hid c2
    have HB := Lib.hid hb2
    clear hW0 hn hgood hbad hbs hsl c1 c2 hb2 hz
    go_wp2_with fail
    rw [Hn.out, HW0.out]
    clear l1 l2
    by_cases hA : A < 0
    · have hv := Hgood.out hA
      refine (valid_any _ s.data.toList s.size true _ (HT.out.keep (HB.out.trans ((bw_below W0 s).mono HB.out.size))) Hbs.out (by rw [Hsl.out]; omega) hv).mono ?_
      rintro e w3 ⟨rfl, hb3⟩
      have b3 := (HB.out.trans ((bw_below W0 s).mono HB.out.size)).trans (hb3.mono (by have := HB.out.size; rw [bw_size]; omega))
      have d1 : w3.cell? ⟨n, k, none⟩ = some (.string s) := by
        rw [hb3.cell (p := ⟨n, k, none⟩) (by show n < _; rw [bw_size]; omega), (bw_below W0 s).cell (p := ⟨n, k, none⟩) (by show n < _; omega)]; exact C1.out
      have d2 : w3.cell? ⟨n + 1, k, none⟩ = some (.int .i64 A) := by
        rw [hb3.cell (p := ⟨n + 1, k, none⟩) (by show n + 1 < _; rw [bw_size]; omega), (bw_below W0 s).cell (p := ⟨n + 1, k, none⟩) (by show n + 1 < _; omega)]; exact C2.out
      clear hb3 hconv
      go_wp2
      go_ret
      exact ⟨by simp, b3⟩
    · obtain ⟨hv, hnx⟩ := Hbad.out (by omega)
      have Hnx := Lib.hid hnx
      refine (valid_any _ s.data.toList A.toNat false _ (HT.out.keep (HB.out.trans ((bw_below W0 s).mono HB.out.size))) Hbs.out (by rw [Hsl.out]; omega) hv).mono ?_
      rintro e w3 ⟨rfl, hb3⟩
      have b3 := (HB.out.trans ((bw_below W0 s).mono HB.out.size)).trans (hb3.mono (by have := HB.out.size; rw [bw_size]; omega))
      have d0 : n + 1 < w3.heap.size := by have := hb3.size; rw [bw_size] at this; omega
      have d1 : w3.cell? ⟨n, k, none⟩ = some (.string s) := by
        rw [hb3.cell (p := ⟨n, k, none⟩) (by show n < _; rw [bw_size]; omega), (bw_below W0 s).cell (p := ⟨n, k, none⟩) (by show n < _; omega)]; exact C1.out
      have d2 : w3.cell? ⟨n + 1, k, none⟩ = some (.int .i64 A) := by
        rw [hb3.cell (p := ⟨n + 1, k, none⟩) (by show n + 1 < _; rw [bw_size]; omega), (bw_below W0 s).cell (p := ⟨n + 1, k, none⟩) (by show n + 1 < _; omega)]; exact C2.out
      obtain ⟨D, hD⟩ : ∃ D, Lib.bytesWorld w3.drew 5 s = D := ⟨_, rfl⟩
      have hbs2 : Bs D (.slice (some ⟨w3.heap.size, 0, none⟩) s.size (grownCap w3.drew s.size 0 5)) s.data.toList := by rw [← hD]; exact bw_bs w3.drew s (by omega)
      have b4 : Below w.heap.size w D := by rw [← hD]; exact b3.drew.trans ((bw_below w3.drew s).mono b3.drew.size)
      have e1 : D.cell? ⟨n, k, none⟩ = some (.string s) := by
        rw [← hD, (bw_below w3.drew s).cell (p := ⟨n, k, none⟩) (by show n < w3.heap.size; omega)]; exact d1
      have e2 : D.cell? ⟨n + 1, k, none⟩ = some (.int .i64 A) := by
        rw [← hD, (bw_below w3.drew s).cell (p := ⟨n + 1, k, none⟩) (by show n + 1 < w3.heap.size; omega)]; exact d2
      have d5 : n + 1 < D.heap.size := by rw [← hD, bw_size]; show n + 1 < w3.heap.size + 1; omega
      have sp : Calls Tryd.prog 17 #[.slice (some ⟨w3.heap.size, 0, none⟩) s.size (grownCap w3.drew s.size 0 5), .int .i64 A] D fun e W' => e = .returned (.tuple #[.int .i64 65533, .int .i64 1, .bool false]) ∧
          (W'.cell? ⟨n, k, none⟩ = some (.string s) ∧ W'.cell? ⟨n + 1, k, none⟩ = some (.int .i64 A)) ∧ Below w.heap.size w W' := by
        refine (next_any _ s.data.toList A (65533, 1, false) D (HT.out.keep b4) hbs2 (by rw [Hsl.out]; omega) hnx).mono ?_
        rintro e w' ⟨rfl, hb⟩
        refine ⟨rfl, ⟨?_, ?_⟩, b4.trans (hb.mono b4.size)⟩
        · rw [hb.cell (p := ⟨n, k, none⟩) (Nat.lt_of_succ_lt d5)]; exact e1
        · rw [hb.cell (p := ⟨n + 1, k, none⟩) d5]; exact e2
      have f1 : w3.drew.cell? ⟨n, k, none⟩ = some (.string s) := d1
      have f2 : w3.drew.cell? ⟨n + 1, k, none⟩ = some (.int .i64 A) := d2
      have D1 : Hid _ := Lib.hid (And.intro e1 e2)
      have E1 := Lib.hid (And.intro f1 f2)
      have Sp := Lib.hid sp
      have HD := Lib.hid hD
      have q0 : decide (A < 0) = false := by simp; omega
      have q1 : 0 ≤ A := by omega
      have q2 : ((A.toNat : Nat) : Int) = A := Int.toNat_of_nonneg q1
      clear sp d0 d5 e1 e2 f1 f2 hD hb3 hnx hv hbs2 b3 b4
      go_wp2_with fail
      have x1 := D1.out.1
      have x2 := D1.out.2
      have y1 := E1.out.1
      have y2 := E1.out.2
      have hDD := HD.out
      go_region_with (go_at_call 17; refine Sp.out.mono ?_; rintro e W' ⟨rfl, hS, hbW⟩)
      all_goals
        obtain ⟨hS1, hS2⟩ := hS
        clear x1 x2 y1 y2 hDD hconv
        go_wp2
        go_ret
        exact ⟨by simp, by first | exact hbW | exact hbW.drew⟩

end Go.Proofs.YtoalaojghgdmcaaDoor.utfWrong
