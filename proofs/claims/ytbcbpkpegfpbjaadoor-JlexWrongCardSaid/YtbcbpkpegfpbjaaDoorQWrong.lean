/- The walk of JlexWrong. -/
import Derived.Test.YtbcbpkpegfpbjaaDoorQAlive
import Derived.Test.YtbcbpkpegfpbjaaDoorUConv
import Derived.Deep.QuietTactic
namespace Go.Proofs.YtbcbpkpegfpbjaaDoor
open Go.RowKit
set_option linter.unusedVariables false
set_option linter.unusedSimpArgs false

def qS (k : Nat) : ByteArray := bytes (M.wrT k)
def qE (k : Nat) : Int := M.wrE.getD k 0
def qA (k : Nat) : Int := M.wrA.getD k 0
def qblkS : Obj := .cells #[.string ⟨#[48]⟩, .string ⟨#[45, 48]⟩, .string ⟨#[45]⟩, .string ⟨#[48, 49]⟩, .string ⟨#[49, 46]⟩, .string ⟨#[49, 46, 48]⟩, .string ⟨#[46, 53]⟩, .string ⟨#[43, 49]⟩, .string ⟨#[49, 101, 53]⟩, .string ⟨#[49, 69, 43]⟩, .string ⟨#[49, 101, 48, 53]⟩, .string ⟨#[116, 114, 117, 101, 120]⟩, .string ⟨#[116, 114, 117, 101]⟩, .string ⟨#[110, 117, 108]⟩, .string ⟨#[78, 85, 76, 76]⟩, .string ⟨#[34, 97]⟩, .string ⟨#[34, 97, 34]⟩, .string ⟨#[34, 92, 120, 34]⟩, .string ⟨#[34, 92, 47, 34]⟩, .string ⟨#[34, 92, 117, 49, 50, 103, 52, 34]⟩, .string ⟨#[34, 92, 117, 68, 56, 48, 48, 34]⟩, .string ⟨#[34, 9, 34]⟩, .string ⟨#[34, 127, 34]⟩, .string ⟨#[49, 45, 50]⟩, .string ⟨#[49, 32, 45, 50]⟩, .string ⟨#[39, 97, 39]⟩, .string ⟨#[123, 125, 91, 93, 58, 44]⟩, .string ⟨#[0]⟩, .string ⟨#[34, 255, 34]⟩, .string ⟨#[91, 49, 44, 226, 130, 93]⟩, .string ⟨#[48, 120, 48]⟩, .string ⟨#[34, 92]⟩] 9
def qblkE : Obj := .cells #[.int .i64 0, .int .i64 0, .int .i64 3, .int .i64 3, .int .i64 3, .int .i64 0, .int .i64 3, .int .i64 3, .int .i64 0, .int .i64 3, .int .i64 0, .int .i64 3, .int .i64 0, .int .i64 3, .int .i64 3, .int .i64 3, .int .i64 0, .int .i64 3, .int .i64 0, .int .i64 3, .int .i64 0, .int .i64 3, .int .i64 0, .int .i64 3, .int .i64 0, .int .i64 3, .int .i64 0, .int .i64 3, .int .i64 2, .int .i64 2, .int .i64 3, .int .i64 3] 3
def qblkA : Obj := .cells #[.int .i64 0, .int .i64 0, .int .i64 0, .int .i64 0, .int .i64 0, .int .i64 0, .int .i64 0, .int .i64 0, .int .i64 0, .int .i64 0, .int .i64 0, .int .i64 0, .int .i64 0, .int .i64 0, .int .i64 0, .int .i64 0, .int .i64 0, .int .i64 0, .int .i64 0, .int .i64 0, .int .i64 0, .int .i64 0, .int .i64 0, .int .i64 0, .int .i64 0, .int .i64 0, .int .i64 0, .int .i64 0, .int .i64 1, .int .i64 3, .int .i64 0, .int .i64 0] 3
theorem cases32 (k : Nat) (hk : k < 32) : k = 0 ∨ k = 1 ∨ k = 2 ∨ k = 3 ∨ k = 4 ∨ k = 5 ∨ k = 6 ∨ k = 7 ∨ k = 8 ∨ k = 9 ∨ k = 10 ∨ k = 11 ∨ k = 12 ∨ k = 13 ∨ k = 14 ∨ k = 15 ∨ k = 16 ∨ k = 17 ∨ k = 18 ∨ k = 19 ∨ k = 20 ∨ k = 21 ∨ k = 22 ∨ k = 23 ∨ k = 24 ∨ k = 25 ∨ k = 26 ∨ k = 27 ∨ k = 28 ∨ k = 29 ∨ k = 30 ∨ k = 31 := by omega
theorem qcellS (w : World) (k : Nat) (hk : k < 32) : (((w.alloc qblkS).alloc qblkE).alloc qblkA).cell? ⟨w.heap.size, k, none⟩ = some (.string (qS k)) := by
  unfold qblkS qblkE qblkA
  rw [World.cell?_alloc_past _ _ _ (by simp; omega), World.cell?_alloc_past _ _ _ (by simp), World.cell?_alloc_at _ _ _ _ rfl]
  rcases cases32 k hk with rfl | rfl | rfl | rfl | rfl | rfl | rfl | rfl | rfl | rfl | rfl | rfl | rfl | rfl | rfl | rfl | rfl | rfl | rfl | rfl | rfl | rfl | rfl | rfl | rfl | rfl | rfl | rfl | rfl | rfl | rfl | rfl <;> rfl
theorem qcellE (w : World) (k : Nat) (hk : k < 32) : (((w.alloc qblkS).alloc qblkE).alloc qblkA).cell? ⟨w.heap.size + 1, k, none⟩ = some (.int .i64 (qE k)) := by
  unfold qblkS qblkE qblkA
  rw [World.cell?_alloc_past _ _ _ (by simp), World.cell?_alloc_at _ _ _ _ (by simp)]
  rcases cases32 k hk with rfl | rfl | rfl | rfl | rfl | rfl | rfl | rfl | rfl | rfl | rfl | rfl | rfl | rfl | rfl | rfl | rfl | rfl | rfl | rfl | rfl | rfl | rfl | rfl | rfl | rfl | rfl | rfl | rfl | rfl | rfl | rfl <;> rfl
theorem qcellA (w : World) (k : Nat) (hk : k < 32) : (((w.alloc qblkS).alloc qblkE).alloc qblkA).cell? ⟨w.heap.size + 1 + 1, k, none⟩ = some (.int .i64 (qA k)) := by
  unfold qblkS qblkE qblkA
  rw [World.cell?_alloc_at _ _ _ _ (by simp)]
  rcases cases32 k hk with rfl | rfl | rfl | rfl | rfl | rfl | rfl | rfl | rfl | rfl | rfl | rfl | rfl | rfl | rfl | rfl | rfl | rfl | rfl | rfl | rfl | rfl | rfl | rfl | rfl | rfl | rfl | rfl | rfl | rfl | rfl | rfl <;> rfl
theorem qS_size (k : Nat) (hk : k < 32) : (qS k).size ≤ 100 := by
  have : ∀ k, k < 32 → (qS k).size ≤ 100 := by decide +kernel
  exact this k hk
set_option maxRecDepth 100000 in
set_option maxHeartbeats 8000000 in
theorem jwrong_walk (a0 : Int) (w0 : (Lit.int .i64 a0).wf = true) (w : World) (hT : Tabs w) :
    Calls Tryd.prog 6 #[.int .i64 a0] w fun e w' => e = .returned (.bool true) ∧ Below w.heap.size w w' := by
  have al := Lib.hid (alive_any w hT)
  have HT := Lib.hid hT
  by_cases ho : a0 < 0 ∨ 32 ≤ a0
  · rcases ho with ho | ho
    all_goals
      clear hT
      go_enter Tryd.func6, Tryd.ntmps6
      go_wp2_with fail
      refine al.out.mono ?_
      rintro e w1 ⟨rfl, hb⟩
      have hz := hb.size
      go_wp2
      go_ret
      exact ⟨rfl, ((hb.alloc hb.size _).alloc (by simp; omega) _).alloc (by simp; omega) _⟩
  · obtain ⟨k, rfl⟩ : ∃ k : Nat, a0 = k := ⟨a0.toNat, by omega⟩
    have hk : k < 32 := by omega
    have hs := qS_size k hk
    obtain ⟨r, hr, hre⟩ := M.wr_ok k hk
    have hsp := fun v w' hT hv => split_any v (qS k).data.toList (r, qE k, qA k) w' hT hv (by have : (qS k).data.toList.length = (qS k).size := Array.length_toList; omega) (by rw [show (qS k).data.toList = M.wrT k from by unfold qS; exact bytes_list _]; exact hr)
    have Hsp := Lib.hid hsp
    have hc1 := fun w1 => qcellS w1 k hk
    have hc2 := fun w1 => qcellE w1 k hk
    have hc3 := fun w1 => qcellA w1 k hk
    have hk0 : decide ((32 : Int) ≤ k) = false := by simp; omega
    have hk1 : (k : Int) < 32 := by omega
    rw [show M.wrE.getD k 0 = qE k from rfl] at hre
    generalize qS k = s at hs Hsp hc1
    generalize qE k = E at Hsp hre hc2
    generalize qA k = A at Hsp hc3
    have hrl : (E == 0) = decide (0 < r.length) := by rw [← hre, Bool.eq_iff_iff]; simp
    obtain ⟨n, hn⟩ : ∃ n, r.length = n := ⟨_, rfl⟩
    rw [hn] at hrl
    have HC1 := Lib.hid hc1
    have HC2 := Lib.hid hc2
    have HC3 := Lib.hid hc3
    have Hrl := Lib.hid hrl
    have Hn := Lib.hid hn
    clear w0 ho hT hr hre hsp hc1 hc2 hc3 hrl hn
    go_enter Tryd.func6, Tryd.ntmps6
    go_wp2_with fail
    refine al.out.mono ?_
    rintro e w1 ⟨rfl, hb⟩
    have c1 := HC1.out w1
    have c2 := HC2.out w1
    have c3 := HC3.out w1
    obtain ⟨W0, hW0⟩ : ∃ W0, ((w1.alloc qblkS).alloc qblkE).alloc qblkA = W0 := ⟨_, rfl⟩
    have hz := hb.size
    have hb0 : Below w.heap.size w W0 := by rw [← hW0]; exact ((hb.alloc hb.size _).alloc (by simp; omega) _).alloc (by simp; omega) _
    have hz0 : W0.heap.size = w1.heap.size + 1 + 1 + 1 := by rw [← hW0]; simp
    have d1 := c1
    have d2 := c2
    have d3 := c3
    rw [hW0] at d1 d2 d3
    unfold qblkS qblkE qblkA at c1 hW0
    have hcv := fun W => bw_conv W s
    obtain ⟨W2, hW2⟩ : ∃ W2, Lib.bytesWorld W0 5 s = W2 := ⟨_, rfl⟩
    have hB := bw_bs W0 s (by omega)
    have hbb := bw_below W0 s
    have hbz := bw_size W0 s
    rw [hW2] at hB hbb hbz
    have hb2 := hb0.trans (hbb.mono hb0.size)
    have S3 := Lib.hid (Hsp.out _ W2 (HT.out.keep hb2) hB)
    rw [hz0] at S3
    have n2 : W2.heap.size = w1.heap.size + 1 + 1 + 1 + 1 := by rw [hbz, hz0]
    have D2 := Lib.hid ((hbb.cell (p := ⟨w1.heap.size + 1, k, none⟩) (by show w1.heap.size + 1 < _; omega)).trans d2)
    have D3 := Lib.hid ((hbb.cell (p := ⟨w1.heap.size + 1 + 1, k, none⟩) (by show w1.heap.size + 1 + 1 < _; omega)).trans d3)
    have Hb2 := Lib.hid hb2
    have HW0 := Lib.hid hW0
    have HW2 := Lib.hid hW2
    have N2 := Lib.hid n2
    clear hb hW0 hW2 hB hbb hbz hb2 c2 c3 d1 d2 d3 HC1 HC2 HC3 n2 hz0 hb0
    go_wp2_with fail
    rw [HW0.out, HW2.out]
    clear c1 hcv
    refine S3.out.mono ?_
    rintro e w4 ⟨v4, rfl, ho4, hb4⟩
    obtain ⟨a4, cap4, rfl, hv4⟩ := ts_view ho4.vs
    have e2 := (hb4.cell (p := ⟨w1.heap.size + 1, k, none⟩) (by show w1.heap.size + 1 < _; rw [N2.out]; omega)).trans D2.out
    have e3 := (hb4.cell (p := ⟨w1.heap.size + 1 + 1, k, none⟩) (by show w1.heap.size + 1 + 1 < _; rw [N2.out]; omega)).trans D3.out
    have hlt : w1.heap.size + 1 + 1 < w4.heap.size := by have := hb4.size; rw [N2.out] at this; omega
    have hb5 := Hb2.out.trans (hb4.mono Hb2.out.size)
    unfold fv
    dsimp only
    rw [Hn.out]
    have hlt1 : w1.heap.size + 1 < w4.heap.size := by omega
    have g2 : ∀ o : Obj, (w4.alloc o).cell? ⟨w1.heap.size + 1, k, none⟩ = some (.int .i64 E) := fun o => by rw [World.cell?_alloc_past _ _ _ hlt1]; exact e2
    have g3 : ∀ o : Obj, (w4.alloc o).cell? ⟨w1.heap.size + 1 + 1, k, none⟩ = some (.int .i64 A) := fun o => by rw [World.cell?_alloc_past _ _ _ hlt]; exact e3
    have k1 : ((k : Int)).toNat = k := Int.toNat_natCast k
    have hrl := Hrl.out
    clear hv4 ho4 hb4 S3 D2 D3 Hb2 HW0 HW2 N2 al Hsp
    go_wp2_with fail
    go_quiet (fail)
    go_wp2
    go_ret
    exact ⟨rfl, below_drewN (hb5.alloc hb5.size _) _⟩
end Go.Proofs.YtbcbpkpegfpbjaaDoor
