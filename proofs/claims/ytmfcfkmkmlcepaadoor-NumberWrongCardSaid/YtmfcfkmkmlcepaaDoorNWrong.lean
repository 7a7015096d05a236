/- The walk of NumberWrong. -/
import Derived.Test.YtmfcfkmkmlcepaaDoorNAlive
namespace Go.Proofs.YtmfcfkmkmlcepaaDoor
open Go.RowKit
set_option linter.unusedVariables false
set_option linter.unusedSimpArgs false

def wrN : List (List UInt8) := [[48], [], [45], [43, 49], [46, 53], [53, 46], [46], [49, 101], [49, 101, 43], [49, 101, 53], [49, 69, 45, 48, 53], [49, 46, 53, 46, 50], [48, 120, 49], [32, 49], [49, 32], [45, 45, 49], [45, 46, 48, 101, 48], [101, 53], [48, 48], [49, 101, 53, 46, 48]]
def wrO : List Bool := [true, false, false, true, true, false, false, false, false, true, true, false, false, false, false, false, true, false, true, false]
def nS (k : Nat) : ByteArray := bytes (wrN.getD k [])
def nO (k : Nat) : Bool := wrO.getD k false
def nblkS : Obj := .cells #[.string ⟨#[48]⟩, .string ⟨#[]⟩, .string ⟨#[45]⟩, .string ⟨#[43, 49]⟩, .string ⟨#[46, 53]⟩, .string ⟨#[53, 46]⟩, .string ⟨#[46]⟩, .string ⟨#[49, 101]⟩, .string ⟨#[49, 101, 43]⟩, .string ⟨#[49, 101, 53]⟩, .string ⟨#[49, 69, 45, 48, 53]⟩, .string ⟨#[49, 46, 53, 46, 50]⟩, .string ⟨#[48, 120, 49]⟩, .string ⟨#[32, 49]⟩, .string ⟨#[49, 32]⟩, .string ⟨#[45, 45, 49]⟩, .string ⟨#[45, 46, 48, 101, 48]⟩, .string ⟨#[101, 53]⟩, .string ⟨#[48, 48]⟩, .string ⟨#[49, 101, 53, 46, 48]⟩] 9
def nblkO : Obj := .cells #[.bool true, .bool false, .bool false, .bool true, .bool true, .bool false, .bool false, .bool false, .bool false, .bool true, .bool true, .bool false, .bool false, .bool false, .bool false, .bool false, .bool true, .bool false, .bool true, .bool false] 4
theorem cases20 (k : Nat) (hk : k < 20) : k = 0 ∨ k = 1 ∨ k = 2 ∨ k = 3 ∨ k = 4 ∨ k = 5 ∨ k = 6 ∨ k = 7 ∨ k = 8 ∨ k = 9 ∨ k = 10 ∨ k = 11 ∨ k = 12 ∨ k = 13 ∨ k = 14 ∨ k = 15 ∨ k = 16 ∨ k = 17 ∨ k = 18 ∨ k = 19 := by omega
theorem ncellS (w : World) (k : Nat) (hk : k < 20) : ((w.alloc nblkS).alloc nblkO).cell? ⟨w.heap.size, k, none⟩ = some (.string (nS k)) := by
  unfold nblkS nblkO
  rw [World.cell?_alloc_past _ _ _ (by simp), World.cell?_alloc_at _ _ _ _ rfl]
  rcases cases20 k hk with rfl | rfl | rfl | rfl | rfl | rfl | rfl | rfl | rfl | rfl | rfl | rfl | rfl | rfl | rfl | rfl | rfl | rfl | rfl | rfl <;> rfl
theorem ncellO (w : World) (k : Nat) (hk : k < 20) : ((w.alloc nblkS).alloc nblkO).cell? ⟨w.heap.size + 1, k, none⟩ = some (.bool (nO k)) := by
  unfold nblkS nblkO
  rw [World.cell?_alloc_at _ _ _ _ (by simp)]
  rcases cases20 k hk with rfl | rfl | rfl | rfl | rfl | rfl | rfl | rfl | rfl | rfl | rfl | rfl | rfl | rfl | rfl | rfl | rfl | rfl | rfl | rfl <;> rfl
theorem wr_ok (k : Nat) (hk : k < 20) : (M.readN (wrN.getD k [])).2 = nO k ∧ (wrN.getD k []).length ≤ 100 := by
  have h1 : ∀ s, (M.readN s).2 = (M.divW s).2 := fun s => by
    unfold M.readN
    cases h : (M.divW s).2 <;> simp
  have h2 : ∀ k, k < 20 → (M.divW (wrN.getD k [])).2 = nO k ∧ (wrN.getD k []).length ≤ 100 := by decide +kernel
  rw [h1]; exact h2 k hk
set_option maxRecDepth 100000 in
set_option maxHeartbeats 8000000 in
theorem nwrong_walk (a0 : Int) (w : World) (w0 : (Lit.int .i64 a0).wf = true) (hT : Tabs w) :
    Calls Tryd.prog 5 #[.int .i64 a0] w fun e w' => e = .returned (.bool true) ∧ Below w.heap.size w w' := by
  have al := Lib.hid (alive_any w hT)
  have HT := Lib.hid hT
  by_cases ho : a0 < 0 ∨ 20 ≤ a0
  · rcases ho with ho | ho
    all_goals
      clear hT
      go_enter Tryd.func5, Tryd.ntmps5
      go_wp2_with fail
      refine al.out.mono ?_
      rintro e w1 ⟨rfl, hb⟩
      have hz := hb.size
      go_wp2
      go_ret
      exact ⟨rfl, (hb.alloc hb.size _).alloc (by simp; omega) _⟩
  · obtain ⟨k, rfl⟩ : ∃ k : Nat, a0 = k := ⟨a0.toNat, by omega⟩
    have hk : k < 20 := by omega
    obtain ⟨h1, h2⟩ := wr_ok k hk
    obtain ⟨r, hr⟩ : ∃ r, (M.readN (wrN.getD k [])).1 = r := ⟨_, rfl⟩
    have R1 := Lib.hid (fun w hw => read_any (wrN.getD k []) r (nO k) w hw (by omega) (by rw [← hr, ← h1]))
    rw [show bytes (wrN.getD k []) = nS k from rfl] at R1
    have hc1 := fun w1 => ncellS w1 k hk
    have hc2 := fun w1 => ncellO w1 k hk
    have hk0 : decide ((20 : Int) ≤ k) = false := by simp; omega
    have hk1 : (k : Int) < 20 := by omega
    generalize nS k = s at R1 hc1
    generalize nO k = O at R1 hc2
    unfold numV at R1
    have HC1 := Lib.hid hc1
    have HC2 := Lib.hid hc2
    clear w0 ho hT hr h1 h2 hc1 hc2
    go_enter Tryd.func5, Tryd.ntmps5
    go_wp2_with fail
    refine al.out.mono ?_
    rintro e w1 ⟨rfl, hb⟩
    have c1 := HC1.out w1
    have c2 := HC2.out w1
    obtain ⟨W0, hW0⟩ : ∃ W0, (w1.alloc nblkS).alloc nblkO = W0 := ⟨_, rfl⟩
    have hb0 : Below w.heap.size w W0 := by rw [← hW0]; exact (hb.alloc hb.size _).alloc (by have := hb.size; simp; omega) _
    have hz0 : W0.heap.size = w1.heap.size + 1 + 1 := by rw [← hW0]; simp
    have d2 := c2
    rw [hW0] at d2
    unfold nblkS nblkO at c1 hW0
    have R2 := Lib.hid (R1.out _ (HT.out.keep hb0))
    have HW0 := Lib.hid hW0
    have D2 := Lib.hid d2
    have B0 := Lib.hid hb0
    clear hb hW0 hb0 d2 c2 HC1 HC2 R1
    go_wp2_with fail
    rw [HW0.out]
    clear c1 HW0
    refine R2.out.mono ?_
    rintro e w2 ⟨rfl, hb2⟩
    have e2 := (hb2.cell (p := ⟨w1.heap.size + 1, k, none⟩) (by show w1.heap.size + 1 < _; omega)).trans D2.out
    have hlt : w1.heap.size + 1 < w2.heap.size := by have := hb2.size; omega
    have hb3 := B0.out.trans (hb2.mono B0.out.size)
    clear hb2
    cases O
    all_goals
      go_wp2
      go_ret
      exact ⟨rfl, hb3.alloc hb3.size _⟩
end Go.Proofs.YtmfcfkmkmlcepaaDoor
