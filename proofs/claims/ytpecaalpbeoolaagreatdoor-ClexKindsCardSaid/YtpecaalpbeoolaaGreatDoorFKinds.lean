/- The walk of ClexKinds. -/
import Derived.Test.YtpecaalpbeoolaaGreatDoorFAlive
import Derived.Deep.QuietTactic
import Derived.BigQuiet
import Derived.Great.Walk
namespace Go.Proofs.YtpecaalpbeoolaaGreatDoor
open Go.RowKit
set_option linter.unusedVariables false
set_option linter.unusedSimpArgs false

def kdT : List (List UInt8) := [[97], [97, 40], [64, 97], [64], [35, 97], [35, 49], [35], [34, 97, 34], [39, 97], [34, 97, 10], [117, 114, 108, 40, 97, 41], [85, 82, 76, 40, 32, 97, 32, 41], [117, 114, 108, 40, 34, 97, 34, 41], [117, 114, 108, 40, 32, 39, 97, 39, 41], [117, 114, 108, 40, 97, 32, 98, 41], [117, 114, 108, 40], [117, 114, 108, 40, 97, 92, 41, 98, 41], [49], [43, 49], [49, 46], [46, 53], [46], [49, 101, 51], [49, 101], [49, 37], [49, 112, 120], [49, 101, 51, 101], [45], [45, 97], [45, 45], [45, 45, 62], [45, 62], [60, 33, 45, 45], [60, 33, 45], [60], [47, 42, 97, 42, 47], [47, 42, 97], [47], [92], [92, 10], [92, 97, 32, 98], [117, 43, 49], [58, 59], [40, 41], [123, 125], [91, 93], [32, 9, 10], [10, 32], [33, 97], [49, 45, 50], [49, 45, 45, 97], [97, 47, 42, 42, 47, 98]]
def kdK : List (List Int) := [[1], [2], [3], [9], [4], [4], [9], [5], [5], [6, 13], [7], [7], [2, 5, 22], [2, 13, 5, 22], [8], [7], [7], [10], [10], [10, 9], [10], [9], [10], [12], [11], [12], [12], [9], [1], [1], [15], [9, 9], [14], [9, 9, 9], [9], [25], [25], [9], [1], [9, 13], [1], [1, 10], [16, 17], [21, 22], [19, 20], [23, 24], [13], [13], [9, 1], [10, 10], [12], [1, 25, 1]]
def KT (k : Nat) : List UInt8 := kdT.getD k []
def KK (k : Nat) : List Int := kdK.getD k []
def kS : Obj := .cells (kdT.map fun s => Value.string (bytes s)).toArray 9
def kblk (k : Nat) : Obj := .cells ((KK k).map fun z => Value.int .i64 z).toArray 3
def klV (b k : Nat) : Value := .slice (some ⟨b + k, 0, none⟩) (KK k).length (KK k).length
def kWn : Nat → World → World
  | 0, w => w
  | n + 1, w => (kWn n w).alloc (kblk n)
theorem asz (w : World) (o : Obj) : (w.alloc o).heap.size = w.heap.size + 1 := by simp
theorem kWn_size (n : Nat) (w : World) : (kWn n w).heap.size = w.heap.size + n := by
  induction n with
  | zero => rfl
  | succ n ih => simp only [kWn, asz, ih]; omega
theorem kWn_below (n : Nat) (w : World) : Below w.heap.size w (kWn n w) := by
  induction n with
  | zero => exact Below.refl _ _
  | succ n ih => exact ih.alloc ih.size _
theorem kWn_cell (n : Nat) (w : World) (k : Nat) (hk : k < n) (j : Nat) (hj : j < (KK k).length) : (kWn n w).cell? ⟨w.heap.size + k, j, none⟩ = some (.int .i64 ((KK k)[j])) := by
  induction n with
  | zero => omega
  | succ n ih =>
    by_cases h : k < n
    · show ((kWn n w).alloc _).cell? _ = _
      rw [World.cell?_alloc_past _ _ _ (by rw [kWn_size]; show w.heap.size + k < _; omega)]
      exact ih h
    · obtain rfl : k = n := by omega
      show ((kWn k w).alloc _).cell? _ = _
      unfold kblk
      rw [World.cell?_alloc_at _ _ _ _ (by rw [kWn_size])]
      simp [hj]
def kblkS (b : Nat) : Obj := .cells ((List.range 52).map (klV b)).toArray 39
def kWW (w : World) : World := (kWn 52 (w.alloc kS)).alloc (kblkS (w.heap.size + 1))
theorem kWW_size (w : World) : (kWW w).heap.size = w.heap.size + 54 := by unfold kWW; simp only [asz, kWn_size]
theorem kWW_below (w : World) : Below w.heap.size w (kWW w) := by
  have h1 : Below w.heap.size w (w.alloc kS) := (Below.refl _ _).alloc (Nat.le_refl _) _
  have h2 := h1.trans ((kWn_below 52 (w.alloc kS)).mono (by rw [asz]; omega))
  exact h2.alloc h2.size _
theorem kWW_str (w : World) (k : Nat) (hk : k < 52) : (kWW w).cell? ⟨w.heap.size, k, none⟩ = some (.string (bytes (KT k))) := by
  have h2 := (kWn_below 52 (w.alloc kS)).cell (p := ⟨w.heap.size, k, none⟩) (by rw [asz]; show w.heap.size < _; omega)
  unfold kWW
  rw [World.cell?_alloc_past _ _ _ (by rw [kWn_size, asz]; show w.heap.size < _; omega), h2]
  unfold kS
  rw [World.cell?_alloc_at _ _ _ _ rfl]
  have : ∀ k, k < 52 → kdT[k]? = some (KT k) := by decide +kernel
  simp [this k hk]
theorem kWW_sl (w : World) (k : Nat) (hk : k < 52) : (kWW w).cell? ⟨w.heap.size + 53, k, none⟩ = some (klV (w.heap.size + 1) k) := by
  unfold kWW kblkS
  rw [World.cell?_alloc_at _ _ _ _ (by simp only [asz, kWn_size])]
  simp [hk]
theorem kWW_int (w : World) (k : Nat) (hk : k < 52) (j : Nat) (hj : j < (KK k).length) : (kWW w).cell? ⟨w.heap.size + 1 + k, j, none⟩ = some (.int .i64 ((KK k)[j])) := by
  have := kWn_cell 52 (w.alloc kS) k hk j hj
  rw [asz] at this
  unfold kWW
  rw [World.cell?_alloc_past _ _ _ (by rw [kWn_size, asz]; show w.heap.size + 1 + k < _; omega)]
  exact this
theorem kd_all (k : Nat) (hk : k < 52) : (KT k).length ≤ 20 ∧ (KK k).length ≤ 4 ∧ (M.tksC (M.rn (KT k) 0)).map (fun x => x.1.kind) = KK k := by
  have : ∀ k, k < 52 → (KT k).length ≤ 20 ∧ (KK k).length ≤ 4 ∧ (M.tksC (M.rn (KT k) 0)).map (fun x => x.1.kind) = KK k := by decide +kernel
  exact this k hk
set_option maxRecDepth 100000 in
set_option maxHeartbeats 32000000 in
theorem ckinds_walk (a0 : Int) (w0 : (Lit.int .i64 a0).wf = true) (w : World) (hT : Tabs w) :
    Calls Tryz.prog 5 #[.int .i64 a0] w fun e w' => e = .returned (.bool true) ∧ Below w.heap.size w w' := by
  have al := Lib.hid (alive_any w hT)
  have HT := Lib.hid hT
  clear hT w0
  go_enter Tryz.func5, Tryz.ntmps5
  go_wp2_with fail
  refine al.out.mono ?_
  rintro e w1 ⟨rfl, hb⟩
  have hz := hb.size
  have HB := Lib.hid (hb.trans ((kWW_below w1).mono hz))
  have HB1 := Lib.hid hb
  clear hb
  go_upto_region 2 with (fail)
  apply wp_region_lit
  refine Go.Great.wpList_buildSliceTo rfl 38 9 52 _ rfl w1.heap.size rfl (some 9) rfl Tryz.underlying38 (kdT.map fun s => Value.string (bytes s)).toArray (by kernel_rfl) ?_
  change wpList _ _ _ _ _ (kWn 0 (w1.alloc kS))
  go_upto_region 3 with (fail)
  apply wp_region_lit
  refine Go.Great.wpList_buildSliceTo rfl 39 3 1 _ rfl (w1.heap.size + 1 + 0) (by rw [kWn_size, asz]) (some 10) rfl Tryz.underlying39 ((KK 0).map fun z => Value.int .i64 z).toArray (by kernel_rfl) ?_
  change wpList _ _ _ _ _ (kWn 1 (w1.alloc kS))
  refine Go.Great.wpList_buildSliceTo rfl 39 3 1 _ rfl (w1.heap.size + 1 + 1) (by rw [kWn_size, asz]) (some 11) rfl Tryz.underlying39 ((KK 1).map fun z => Value.int .i64 z).toArray (by kernel_rfl) ?_
  change wpList _ _ _ _ _ (kWn 2 (w1.alloc kS))
  refine Go.Great.wpList_buildSliceTo rfl 39 3 1 _ rfl (w1.heap.size + 1 + 2) (by rw [kWn_size, asz]) (some 12) rfl Tryz.underlying39 ((KK 2).map fun z => Value.int .i64 z).toArray (by kernel_rfl) ?_
  change wpList _ _ _ _ _ (kWn 3 (w1.alloc kS))
  refine Go.Great.wpList_buildSliceTo rfl 39 3 1 _ rfl (w1.heap.size + 1 + 3) (by rw [kWn_size, asz]) (some 13) rfl Tryz.underlying39 ((KK 3).map fun z => Value.int .i64 z).toArray (by kernel_rfl) ?_
  change wpList _ _ _ _ _ (kWn 4 (w1.alloc kS))
  refine Go.Great.wpList_buildSliceTo rfl 39 3 1 _ rfl (w1.heap.size + 1 + 4) (by rw [kWn_size, asz]) (some 14) rfl Tryz.underlying39 ((KK 4).map fun z => Value.int .i64 z).toArray (by kernel_rfl) ?_
  change wpList _ _ _ _ _ (kWn 5 (w1.alloc kS))
  refine Go.Great.wpList_buildSliceTo rfl 39 3 1 _ rfl (w1.heap.size + 1 + 5) (by rw [kWn_size, asz]) (some 15) rfl Tryz.underlying39 ((KK 5).map fun z => Value.int .i64 z).toArray (by kernel_rfl) ?_
  change wpList _ _ _ _ _ (kWn 6 (w1.alloc kS))
  refine Go.Great.wpList_buildSliceTo rfl 39 3 1 _ rfl (w1.heap.size + 1 + 6) (by rw [kWn_size, asz]) (some 16) rfl Tryz.underlying39 ((KK 6).map fun z => Value.int .i64 z).toArray (by kernel_rfl) ?_
  change wpList _ _ _ _ _ (kWn 7 (w1.alloc kS))
  refine Go.Great.wpList_buildSliceTo rfl 39 3 1 _ rfl (w1.heap.size + 1 + 7) (by rw [kWn_size, asz]) (some 17) rfl Tryz.underlying39 ((KK 7).map fun z => Value.int .i64 z).toArray (by kernel_rfl) ?_
  change wpList _ _ _ _ _ (kWn 8 (w1.alloc kS))
  refine Go.Great.wpList_buildSliceTo rfl 39 3 1 _ rfl (w1.heap.size + 1 + 8) (by rw [kWn_size, asz]) (some 18) rfl Tryz.underlying39 ((KK 8).map fun z => Value.int .i64 z).toArray (by kernel_rfl) ?_
  change wpList _ _ _ _ _ (kWn 9 (w1.alloc kS))
  refine Go.Great.wpList_buildSliceTo rfl 39 3 2 _ rfl (w1.heap.size + 1 + 9) (by rw [kWn_size, asz]) (some 19) rfl Tryz.underlying39 ((KK 9).map fun z => Value.int .i64 z).toArray (by kernel_rfl) ?_
  change wpList _ _ _ _ _ (kWn 10 (w1.alloc kS))
  refine Go.Great.wpList_buildSliceTo rfl 39 3 1 _ rfl (w1.heap.size + 1 + 10) (by rw [kWn_size, asz]) (some 20) rfl Tryz.underlying39 ((KK 10).map fun z => Value.int .i64 z).toArray (by kernel_rfl) ?_
  change wpList _ _ _ _ _ (kWn 11 (w1.alloc kS))
  refine Go.Great.wpList_buildSliceTo rfl 39 3 1 _ rfl (w1.heap.size + 1 + 11) (by rw [kWn_size, asz]) (some 21) rfl Tryz.underlying39 ((KK 11).map fun z => Value.int .i64 z).toArray (by kernel_rfl) ?_
  change wpList _ _ _ _ _ (kWn 12 (w1.alloc kS))
  refine Go.Great.wpList_buildSliceTo rfl 39 3 3 _ rfl (w1.heap.size + 1 + 12) (by rw [kWn_size, asz]) (some 22) rfl Tryz.underlying39 ((KK 12).map fun z => Value.int .i64 z).toArray (by kernel_rfl) ?_
  change wpList _ _ _ _ _ (kWn 13 (w1.alloc kS))
  refine Go.Great.wpList_buildSliceTo rfl 39 3 4 _ rfl (w1.heap.size + 1 + 13) (by rw [kWn_size, asz]) (some 23) rfl Tryz.underlying39 ((KK 13).map fun z => Value.int .i64 z).toArray (by kernel_rfl) ?_
  change wpList _ _ _ _ _ (kWn 14 (w1.alloc kS))
  refine Go.Great.wpList_buildSliceTo rfl 39 3 1 _ rfl (w1.heap.size + 1 + 14) (by rw [kWn_size, asz]) (some 24) rfl Tryz.underlying39 ((KK 14).map fun z => Value.int .i64 z).toArray (by kernel_rfl) ?_
  change wpList _ _ _ _ _ (kWn 15 (w1.alloc kS))
  refine Go.Great.wpList_buildSliceTo rfl 39 3 1 _ rfl (w1.heap.size + 1 + 15) (by rw [kWn_size, asz]) (some 25) rfl Tryz.underlying39 ((KK 15).map fun z => Value.int .i64 z).toArray (by kernel_rfl) ?_
  change wpList _ _ _ _ _ (kWn 16 (w1.alloc kS))
  refine Go.Great.wpList_buildSliceTo rfl 39 3 1 _ rfl (w1.heap.size + 1 + 16) (by rw [kWn_size, asz]) (some 26) rfl Tryz.underlying39 ((KK 16).map fun z => Value.int .i64 z).toArray (by kernel_rfl) ?_
  change wpList _ _ _ _ _ (kWn 17 (w1.alloc kS))
  refine Go.Great.wpList_buildSliceTo rfl 39 3 1 _ rfl (w1.heap.size + 1 + 17) (by rw [kWn_size, asz]) (some 27) rfl Tryz.underlying39 ((KK 17).map fun z => Value.int .i64 z).toArray (by kernel_rfl) ?_
  change wpList _ _ _ _ _ (kWn 18 (w1.alloc kS))
  refine Go.Great.wpList_buildSliceTo rfl 39 3 1 _ rfl (w1.heap.size + 1 + 18) (by rw [kWn_size, asz]) (some 28) rfl Tryz.underlying39 ((KK 18).map fun z => Value.int .i64 z).toArray (by kernel_rfl) ?_
  change wpList _ _ _ _ _ (kWn 19 (w1.alloc kS))
  refine Go.Great.wpList_buildSliceTo rfl 39 3 2 _ rfl (w1.heap.size + 1 + 19) (by rw [kWn_size, asz]) (some 29) rfl Tryz.underlying39 ((KK 19).map fun z => Value.int .i64 z).toArray (by kernel_rfl) ?_
  change wpList _ _ _ _ _ (kWn 20 (w1.alloc kS))
  refine Go.Great.wpList_buildSliceTo rfl 39 3 1 _ rfl (w1.heap.size + 1 + 20) (by rw [kWn_size, asz]) (some 30) rfl Tryz.underlying39 ((KK 20).map fun z => Value.int .i64 z).toArray (by kernel_rfl) ?_
  change wpList _ _ _ _ _ (kWn 21 (w1.alloc kS))
  refine Go.Great.wpList_buildSliceTo rfl 39 3 1 _ rfl (w1.heap.size + 1 + 21) (by rw [kWn_size, asz]) (some 31) rfl Tryz.underlying39 ((KK 21).map fun z => Value.int .i64 z).toArray (by kernel_rfl) ?_
  change wpList _ _ _ _ _ (kWn 22 (w1.alloc kS))
  refine Go.Great.wpList_buildSliceTo rfl 39 3 1 _ rfl (w1.heap.size + 1 + 22) (by rw [kWn_size, asz]) (some 32) rfl Tryz.underlying39 ((KK 22).map fun z => Value.int .i64 z).toArray (by kernel_rfl) ?_
  change wpList _ _ _ _ _ (kWn 23 (w1.alloc kS))
  refine Go.Great.wpList_buildSliceTo rfl 39 3 1 _ rfl (w1.heap.size + 1 + 23) (by rw [kWn_size, asz]) (some 33) rfl Tryz.underlying39 ((KK 23).map fun z => Value.int .i64 z).toArray (by kernel_rfl) ?_
  change wpList _ _ _ _ _ (kWn 24 (w1.alloc kS))
  refine Go.Great.wpList_buildSliceTo rfl 39 3 1 _ rfl (w1.heap.size + 1 + 24) (by rw [kWn_size, asz]) (some 34) rfl Tryz.underlying39 ((KK 24).map fun z => Value.int .i64 z).toArray (by kernel_rfl) ?_
  change wpList _ _ _ _ _ (kWn 25 (w1.alloc kS))
  refine Go.Great.wpList_buildSliceTo rfl 39 3 1 _ rfl (w1.heap.size + 1 + 25) (by rw [kWn_size, asz]) (some 35) rfl Tryz.underlying39 ((KK 25).map fun z => Value.int .i64 z).toArray (by kernel_rfl) ?_
  change wpList _ _ _ _ _ (kWn 26 (w1.alloc kS))
  refine Go.Great.wpList_buildSliceTo rfl 39 3 1 _ rfl (w1.heap.size + 1 + 26) (by rw [kWn_size, asz]) (some 36) rfl Tryz.underlying39 ((KK 26).map fun z => Value.int .i64 z).toArray (by kernel_rfl) ?_
  change wpList _ _ _ _ _ (kWn 27 (w1.alloc kS))
  refine Go.Great.wpList_buildSliceTo rfl 39 3 1 _ rfl (w1.heap.size + 1 + 27) (by rw [kWn_size, asz]) (some 37) rfl Tryz.underlying39 ((KK 27).map fun z => Value.int .i64 z).toArray (by kernel_rfl) ?_
  change wpList _ _ _ _ _ (kWn 28 (w1.alloc kS))
  refine Go.Great.wpList_buildSliceTo rfl 39 3 1 _ rfl (w1.heap.size + 1 + 28) (by rw [kWn_size, asz]) (some 38) rfl Tryz.underlying39 ((KK 28).map fun z => Value.int .i64 z).toArray (by kernel_rfl) ?_
  change wpList _ _ _ _ _ (kWn 29 (w1.alloc kS))
  refine Go.Great.wpList_buildSliceTo rfl 39 3 1 _ rfl (w1.heap.size + 1 + 29) (by rw [kWn_size, asz]) (some 39) rfl Tryz.underlying39 ((KK 29).map fun z => Value.int .i64 z).toArray (by kernel_rfl) ?_
  change wpList _ _ _ _ _ (kWn 30 (w1.alloc kS))
  refine Go.Great.wpList_buildSliceTo rfl 39 3 1 _ rfl (w1.heap.size + 1 + 30) (by rw [kWn_size, asz]) (some 40) rfl Tryz.underlying39 ((KK 30).map fun z => Value.int .i64 z).toArray (by kernel_rfl) ?_
  change wpList _ _ _ _ _ (kWn 31 (w1.alloc kS))
  refine Go.Great.wpList_buildSliceTo rfl 39 3 2 _ rfl (w1.heap.size + 1 + 31) (by rw [kWn_size, asz]) (some 41) rfl Tryz.underlying39 ((KK 31).map fun z => Value.int .i64 z).toArray (by kernel_rfl) ?_
  change wpList _ _ _ _ _ (kWn 32 (w1.alloc kS))
  refine Go.Great.wpList_buildSliceTo rfl 39 3 1 _ rfl (w1.heap.size + 1 + 32) (by rw [kWn_size, asz]) (some 42) rfl Tryz.underlying39 ((KK 32).map fun z => Value.int .i64 z).toArray (by kernel_rfl) ?_
  change wpList _ _ _ _ _ (kWn 33 (w1.alloc kS))
  refine Go.Great.wpList_buildSliceTo rfl 39 3 3 _ rfl (w1.heap.size + 1 + 33) (by rw [kWn_size, asz]) (some 43) rfl Tryz.underlying39 ((KK 33).map fun z => Value.int .i64 z).toArray (by kernel_rfl) ?_
  change wpList _ _ _ _ _ (kWn 34 (w1.alloc kS))
  refine Go.Great.wpList_buildSliceTo rfl 39 3 1 _ rfl (w1.heap.size + 1 + 34) (by rw [kWn_size, asz]) (some 44) rfl Tryz.underlying39 ((KK 34).map fun z => Value.int .i64 z).toArray (by kernel_rfl) ?_
  change wpList _ _ _ _ _ (kWn 35 (w1.alloc kS))
  refine Go.Great.wpList_buildSliceTo rfl 39 3 1 _ rfl (w1.heap.size + 1 + 35) (by rw [kWn_size, asz]) (some 45) rfl Tryz.underlying39 ((KK 35).map fun z => Value.int .i64 z).toArray (by kernel_rfl) ?_
  change wpList _ _ _ _ _ (kWn 36 (w1.alloc kS))
  refine Go.Great.wpList_buildSliceTo rfl 39 3 1 _ rfl (w1.heap.size + 1 + 36) (by rw [kWn_size, asz]) (some 46) rfl Tryz.underlying39 ((KK 36).map fun z => Value.int .i64 z).toArray (by kernel_rfl) ?_
  change wpList _ _ _ _ _ (kWn 37 (w1.alloc kS))
  refine Go.Great.wpList_buildSliceTo rfl 39 3 1 _ rfl (w1.heap.size + 1 + 37) (by rw [kWn_size, asz]) (some 47) rfl Tryz.underlying39 ((KK 37).map fun z => Value.int .i64 z).toArray (by kernel_rfl) ?_
  change wpList _ _ _ _ _ (kWn 38 (w1.alloc kS))
  refine Go.Great.wpList_buildSliceTo rfl 39 3 1 _ rfl (w1.heap.size + 1 + 38) (by rw [kWn_size, asz]) (some 48) rfl Tryz.underlying39 ((KK 38).map fun z => Value.int .i64 z).toArray (by kernel_rfl) ?_
  change wpList _ _ _ _ _ (kWn 39 (w1.alloc kS))
  refine Go.Great.wpList_buildSliceTo rfl 39 3 2 _ rfl (w1.heap.size + 1 + 39) (by rw [kWn_size, asz]) (some 49) rfl Tryz.underlying39 ((KK 39).map fun z => Value.int .i64 z).toArray (by kernel_rfl) ?_
  change wpList _ _ _ _ _ (kWn 40 (w1.alloc kS))
  refine Go.Great.wpList_buildSliceTo rfl 39 3 1 _ rfl (w1.heap.size + 1 + 40) (by rw [kWn_size, asz]) (some 50) rfl Tryz.underlying39 ((KK 40).map fun z => Value.int .i64 z).toArray (by kernel_rfl) ?_
  change wpList _ _ _ _ _ (kWn 41 (w1.alloc kS))
  refine Go.Great.wpList_buildSliceTo rfl 39 3 2 _ rfl (w1.heap.size + 1 + 41) (by rw [kWn_size, asz]) (some 51) rfl Tryz.underlying39 ((KK 41).map fun z => Value.int .i64 z).toArray (by kernel_rfl) ?_
  change wpList _ _ _ _ _ (kWn 42 (w1.alloc kS))
  refine Go.Great.wpList_buildSliceTo rfl 39 3 2 _ rfl (w1.heap.size + 1 + 42) (by rw [kWn_size, asz]) (some 52) rfl Tryz.underlying39 ((KK 42).map fun z => Value.int .i64 z).toArray (by kernel_rfl) ?_
  change wpList _ _ _ _ _ (kWn 43 (w1.alloc kS))
  refine Go.Great.wpList_buildSliceTo rfl 39 3 2 _ rfl (w1.heap.size + 1 + 43) (by rw [kWn_size, asz]) (some 53) rfl Tryz.underlying39 ((KK 43).map fun z => Value.int .i64 z).toArray (by kernel_rfl) ?_
  change wpList _ _ _ _ _ (kWn 44 (w1.alloc kS))
  refine Go.Great.wpList_buildSliceTo rfl 39 3 2 _ rfl (w1.heap.size + 1 + 44) (by rw [kWn_size, asz]) (some 54) rfl Tryz.underlying39 ((KK 44).map fun z => Value.int .i64 z).toArray (by kernel_rfl) ?_
  change wpList _ _ _ _ _ (kWn 45 (w1.alloc kS))
  refine Go.Great.wpList_buildSliceTo rfl 39 3 2 _ rfl (w1.heap.size + 1 + 45) (by rw [kWn_size, asz]) (some 55) rfl Tryz.underlying39 ((KK 45).map fun z => Value.int .i64 z).toArray (by kernel_rfl) ?_
  change wpList _ _ _ _ _ (kWn 46 (w1.alloc kS))
  refine Go.Great.wpList_buildSliceTo rfl 39 3 1 _ rfl (w1.heap.size + 1 + 46) (by rw [kWn_size, asz]) (some 56) rfl Tryz.underlying39 ((KK 46).map fun z => Value.int .i64 z).toArray (by kernel_rfl) ?_
  change wpList _ _ _ _ _ (kWn 47 (w1.alloc kS))
  refine Go.Great.wpList_buildSliceTo rfl 39 3 1 _ rfl (w1.heap.size + 1 + 47) (by rw [kWn_size, asz]) (some 57) rfl Tryz.underlying39 ((KK 47).map fun z => Value.int .i64 z).toArray (by kernel_rfl) ?_
  change wpList _ _ _ _ _ (kWn 48 (w1.alloc kS))
  refine Go.Great.wpList_buildSliceTo rfl 39 3 2 _ rfl (w1.heap.size + 1 + 48) (by rw [kWn_size, asz]) (some 58) rfl Tryz.underlying39 ((KK 48).map fun z => Value.int .i64 z).toArray (by kernel_rfl) ?_
  change wpList _ _ _ _ _ (kWn 49 (w1.alloc kS))
  refine Go.Great.wpList_buildSliceTo rfl 39 3 2 _ rfl (w1.heap.size + 1 + 49) (by rw [kWn_size, asz]) (some 59) rfl Tryz.underlying39 ((KK 49).map fun z => Value.int .i64 z).toArray (by kernel_rfl) ?_
  change wpList _ _ _ _ _ (kWn 50 (w1.alloc kS))
  refine Go.Great.wpList_buildSliceTo rfl 39 3 1 _ rfl (w1.heap.size + 1 + 50) (by rw [kWn_size, asz]) (some 60) rfl Tryz.underlying39 ((KK 50).map fun z => Value.int .i64 z).toArray (by kernel_rfl) ?_
  change wpList _ _ _ _ _ (kWn 51 (w1.alloc kS))
  refine Go.Great.wpList_buildSliceTo rfl 39 3 3 _ rfl (w1.heap.size + 1 + 51) (by rw [kWn_size, asz]) (some 61) rfl Tryz.underlying39 ((KK 51).map fun z => Value.int .i64 z).toArray (by kernel_rfl) ?_
  change wpList _ _ _ _ _ (kWn 52 (w1.alloc kS))
  refine Go.Great.wpList_buildSliceTo rfl 40 39 52 _ rfl (w1.heap.size + 53) (by rw [kWn_size, asz]) (some 62) rfl Tryz.underlying40 ((List.range 52).map (klV (w1.heap.size + 1))).toArray (by kernel_rfl) ?_
  change wpList _ _ _ _ _ (kWW w1)
  simp only [List.getElem_toArray, List.getElem_cons_succ, List.getElem_cons_zero, Act.put, List.setIfInBounds_toArray, List.set_cons_zero, List.set_cons_succ]
  by_cases ho : a0 < 0 ∨ 52 ≤ a0
  · rcases ho with ho | ho
    all_goals
      as_aux_lemma =>
        go_wp2
        go_ret
        exact ⟨rfl, HB.out⟩
  obtain ⟨k, rfl⟩ : ∃ k : Nat, a0 = k := ⟨a0.toNat, by omega⟩
  have hk : k < 52 := by omega
  obtain ⟨hl1, hl2, hkd⟩ := kd_all k hk
  have c1 := kWW_str w1 k hk
  have c2 := kWW_sl w1 k hk
  have c3 : ∀ (m : List Int), KK k = m → ∀ j (hj : j < m.length), (kWW w1).cell? ⟨w1.heap.size + 1 + k, j, none⟩ = some (.int .i64 (m[j])) := by rintro m rfl j hj; exact kWW_int w1 k hk j hj
  have sz := kWW_size w1
  unfold klV at c2
  obtain ⟨s, hs⟩ : ∃ s, KT k = s := ⟨_, rfl⟩
  obtain ⟨q, hq⟩ : ∃ q, KK k = q := ⟨_, rfl⟩
  rw [hs] at hl1 hkd c1
  rw [hq] at hl2 hkd c2
  replace c3 := c3 q hq
  obtain ⟨W0, hW0⟩ : ∃ W, kWW w1 = W := ⟨_, rfl⟩
  rw [hW0] at c1 c2 c3 sz HB ⊢
  obtain ⟨T, hT2⟩ : ∃ T, M.tksC (M.rn s 0) = T := ⟨_, rfl⟩
  rw [hT2] at hkd
  have SP := Lib.hid (flsplit_any s T W0 (HT.out.keep HB.out) (by omega) hT2)
  obtain ⟨S, hS⟩ : ∃ S, bytes s = S := ⟨_, rfl⟩
  rw [hS] at c1 SP
  obtain ⟨N, hN⟩ : ∃ N, q.length = N := ⟨_, rfl⟩
  have hTN : T.length = N := by rw [← hN, ← hkd]; simp
  have HKD := Lib.hid (show ∀ j (hj : j < T.length) (hj2 : j < q.length), (T[j]).1.kind = q[j] by
    intro j hj hj2
    have : ∀ (m : List Int) (h : j < m.length), m = T.map (fun x => x.1.kind) → m[j] = (T[j]).1.kind := by rintro m h rfl; simp
    exact (this q hj2 hkd.symm).symm)
  rw [hN] at c2 hl2
  have C2 := Lib.hid c2
  have C3 := Lib.hid c3
  have HTN := Lib.hid hTN
  have HN := Lib.hid hN
  have SZ := Lib.hid sz
  have k1 : (k : Int) < 52 := by omega
  have k0 : (0 : Int) ≤ k := by omega
  have hk0 : decide ((52 : Int) ≤ k) = false := by simp; omega
  clear ho hs hq hkd c2 c3 hT2 hS hTN hN sz hl1 hW0
  go_wp2_with fail
  refine SP.out.mono ?_
  rintro e w2 ⟨v2, rfl, ho2, hb2⟩
  obtain ⟨ax, cx, rfl, gx1, gx2, gx3⟩ := cs_open ho2.cs HTN.out
  have d2 := HB.out.trans (hb2.mono HB.out.size)
  have e2 := (hb2.cell (p := ⟨w1.heap.size + 53, k, none⟩) (by show w1.heap.size + 53 < _; rw [SZ.out]; omega)).trans C2.out
  have C4 := Lib.hid (show ∀ j (hj : j < q.length), w2.cell? ⟨w1.heap.size + 1 + k, j, none⟩ = some (.int .i64 (q[j])) from fun j hj => (hb2.cell (p := ⟨w1.heap.size + 1 + k, j, none⟩) (by show w1.heap.size + 1 + k < _; rw [SZ.out]; omega)).trans (C3.out j hj))
  have GX := Lib.hid gx3
  have D2 := Lib.hid d2
  clear ho2 hb2 d2 gx3 c1 gx1 gx2
  go_wp2
  go_loopw [7] (fun iv wr => ∃ j : Nat, iv = .int .i64 (j : Int) ∧ j ≤ N ∧ ∃ n, wr = w2.drewN n) (fun iv _ => N - (intOf iv).toNat)
  case atStart => exact ⟨0, rfl, by omega, 0, rfl⟩
  case round =>
    obtain ⟨j, rfl, hj, n, rfl⟩ := hrel
    have HD := Lib.hid (below_drewNF D2.out n)
    by_cases hlt : j < N
    · have hjT : j < T.length := by rw [HTN.out]; exact hlt
      have hjq : j < q.length := by rw [HN.out]; exact hlt
      obtain ⟨b, off, rfl, hbl, hc⟩ := GX.out j hjT
      have a1 := hc 0 (.int .i64 (T[j]).1.kind) rfl
      rw [Nat.add_zero, HKD.out j hjT hjq] at a1
      have a2 := C4.out j hjq
      obtain ⟨z, hz2⟩ : ∃ z, q[j] = z := ⟨_, rfl⟩
      rw [hz2] at a1 a2
      have a1' : (w2.drewN n).cell? ⟨b, off + j * 13, none⟩ = some (.int .i64 z) := a1
      have a2' : (w2.drewN n).cell? ⟨w1.heap.size + 1 + k, j, none⟩ = some (.int .i64 z) := a2
      have e2' : (w2.drewN n).cell? ⟨w1.heap.size + 53, k, none⟩ = some (.slice (some ⟨w1.heap.size + 1 + k, 0, none⟩) N N) := e2
      have j0 : (0 : Int) ≤ j := by omega
      have j1 : (j : Int) < N := by omega
      clear hc hz2 hjT hjq
      as_aux_lemma =>
        go_wp2
        go_quiet (fail)
        go_wp2
        go_roundw
        case rel => exact ⟨j + 1, by go_num, by omega, _, rfl⟩
        case measure => simp [intOf]; omega
    · obtain rfl : j = N := by omega
      clear hlt
      as_aux_lemma =>
        go_wp2
        go_ret
        exact ⟨rfl, HD.out⟩
end Go.Proofs.YtpecaalpbeoolaaGreatDoor
