/- The reference of utf: what abridgerref1.Put returns of a code point, onto bytes of the call's own. -/
import Derived.Test.YtmhebcimpibipaaMgB
import Derived.Laws.BitsLemmas
namespace Go.Proofs.Ytmhebcimpibipaa
open Go.RowKit

theorem wraps_i64 (n : Int) (h₀ : 0 ≤ n) (h₁ : n < 2 ^ 62) : IntKind.i64.wrap n = n := by rw [IntKind.wrap_i64]; omega
theorem and63 (n : Int) (h0 : 0 ≤ n) (h1 : n ≤ 1114111) : bits .and .i64 n 63 = n % 64 := bits_mask .i64 62 (by decide) wraps_i64 6 (by decide) n h0 (by omega)
theorem or128 (n : Int) (h0 : 0 ≤ n) (h1 : n < 64) : bits .or .i64 128 n = 128 + n := bits_join .i64 62 (by decide) wraps_i64 6 128 n (by decide) (by decide) (by decide) h0 (by omega) (by omega)
theorem or192 (n : Int) (h0 : 0 ≤ n) (h1 : n < 64) : bits .or .i64 192 n = 192 + n := bits_join .i64 62 (by decide) wraps_i64 6 192 n (by decide) (by decide) (by decide) h0 (by omega) (by omega)
theorem or224 (n : Int) (h0 : 0 ≤ n) (h1 : n < 32) : bits .or .i64 224 n = 224 + n := bits_join .i64 62 (by decide) wraps_i64 5 224 n (by decide) (by decide) (by decide) h0 (by omega) (by omega)
theorem or240 (n : Int) (h0 : 0 ≤ n) (h1 : n < 16) : bits .or .i64 240 n = 240 + n := bits_join .i64 62 (by decide) wraps_i64 4 240 n (by decide) (by decide) (by decide) h0 (by omega) (by omega)

theorem cells_one (r : Int) (h0 : 0 ≤ r) (h1 : r ≤ 127) : bcells (M.enc r) = [.int .u8 r] := by rw [← runeCells_eq, Lib.runeCells, Lib.encodeRuneZ_one h0 h1]; rfl
theorem cells_two (r : Int) (h0 : 128 ≤ r) (h1 : r ≤ 2047) : bcells (M.enc r) = [.int .u8 (192 + r / 64), .int .u8 (128 + r % 64)] := by rw [← runeCells_eq, Lib.runeCells, Lib.encodeRuneZ_two h0 h1]; rfl
theorem cells_three (r : Int) (h : (2048 ≤ r ∧ r < 55296) ∨ (57343 < r ∧ r ≤ 65535)) : bcells (M.enc r) = [.int .u8 (224 + r / 4096), .int .u8 (128 + r / 64 % 64), .int .u8 (128 + r % 64)] := by rw [← runeCells_eq, Lib.runeCells, Lib.encodeRuneZ_three h]; rfl
theorem cells_four (r : Int) (h0 : 65536 ≤ r) (h1 : r ≤ 1114111) : bcells (M.enc r) = [.int .u8 (240 + r / 262144), .int .u8 (128 + r / 4096 % 64), .int .u8 (128 + r / 64 % 64), .int .u8 (128 + r % 64)] := by rw [← runeCells_eq, Lib.runeCells, Lib.encodeRuneZ_four h0 h1]; rfl
set_option maxHeartbeats 1000000 in
theorem refput_cp (B : Nat) (v : Value) (l t : List UInt8) (r : Int) (w : World) (hr : M.isCP r = true) (hv : OwnB B w v l) (hl : l.length ≤ 1048576) (hB : B ≤ w.heap.size) (ht : l ++ M.enc r = t) :
    Calls Try.prog 6 #[v, .int .i64 r] w fun e w' => ∃ v', e = .returned v' ∧ OwnB B w' v' t ∧ Below B w w' := by
  have hcp := (M.isCP_iff r).1 hr
  have h0 : 0 ≤ r := hcp.1
  have h1 : r ≤ 1114111 := hcp.2.1
  have hlen : l.length + (M.enc r).length ≤ 4294967296 := by have := M.enc_le r; omega
  have hal : ∀ o, OwnB B (w.alloc o) v l := fun o => World.ownsRow.alloc hv o
  have hba : ∀ o, Below B w (w.alloc o) := fun o => (Below.refl B w).alloc hB o
  have Hal := Lib.hid hal
  have Hba := Lib.hid hba
  have Hlen := Lib.hid hlen
  have Ht := Lib.hid ht
  by_cases c1 : r < 128
  · have hbs := fun w : World => bs_cells_new w (M.enc r) _ 1 (cells_one r h0 (by omega)) rfl (by have := M.enc_le r; omega)
    have Hbs := Lib.hid hbs
    clear hr hcp hv hlen hal hba hbs ht
    go_enter Try.func6, Try.ntmps6
    go_wp2_with (at_builtin; refine wpl_append rfl _ _ rfl B v (.slice (some ⟨w.heap.size, 0, none⟩) 1 1) l (M.enc r) t rfl (Hal.out _) rfl (Hbs.out w) (fun n c h => by simp at h) Hlen.out (by simp only [World.alloc, Array.size_push]; omega) Ht.out ?_)
    intro v' w' ho hb
    have hb2 := (Hba.out _).trans hb
    clear hb
    go_wp2
    go_ret
    exact ⟨_, rfl, ho, hb2⟩
  · by_cases c2 : r < 2048
    · have hbs := fun w : World => bs_cells_new w (M.enc r) _ 2 (cells_two r (by omega) (by omega)) rfl (by have := M.enc_le r; omega)
      have Hbs := Lib.hid hbs
      have e1 := or192 (r / 64) (by omega) (by omega)
      have e2 := and63 r h0 h1
      have e3 := or128 (r % 64) (by omega) (by omega)
      clear hr hcp hv hlen hal hba hbs ht
      go_enter Try.func6, Try.ntmps6
      go_wp2_with (at_builtin; refine wpl_append rfl _ _ rfl B v (.slice (some ⟨w.heap.size, 0, none⟩) 2 2) l (M.enc r) t rfl (Hal.out _) rfl (Hbs.out w) (fun n c h => by simp at h) Hlen.out (by simp only [World.alloc, Array.size_push]; omega) Ht.out ?_)
      intro v' w' ho hb
      have hb2 := (Hba.out _).trans hb
      clear hb
      go_wp2
      go_ret
      exact ⟨_, rfl, ho, hb2⟩
    · by_cases c3 : r < 65536
      · have hbs := fun w : World => bs_cells_new w (M.enc r) _ 3 (cells_three r (by omega)) rfl (by have := M.enc_le r; omega)
        have Hbs := Lib.hid hbs
        have e1 := or224 (r / 4096) (by omega) (by omega)
        have e2 := and63 (r / 64) (by omega) (by omega)
        have e3 := or128 (r / 64 % 64) (by omega) (by omega)
        have e4 := and63 r h0 h1
        have e5 := or128 (r % 64) (by omega) (by omega)
        have hs : r < 55296 ∨ 57343 < r := by omega
        clear hr hcp hv hlen hal hba hbs ht
        rcases hs with hs | hs
        all_goals
          go_enter Try.func6, Try.ntmps6
          go_wp2_with (at_builtin; refine wpl_append rfl _ _ rfl B v (.slice (some ⟨w.heap.size, 0, none⟩) 3 3) l (M.enc r) t rfl (Hal.out _) rfl (Hbs.out w) (fun n c h => by simp at h) Hlen.out (by simp only [World.alloc, Array.size_push]; omega) Ht.out ?_)
          intro v' w' ho hb
          have hb2 := (Hba.out _).trans hb
          clear hb
          go_wp2
          go_ret
          exact ⟨_, rfl, ho, hb2⟩
      · have hbs := fun w : World => bs_cells_new w (M.enc r) _ 4 (cells_four r (by omega) h1) rfl (by have := M.enc_le r; omega)
        have Hbs := Lib.hid hbs
        have e1 := or240 (r / 262144) (by omega) (by omega)
        have e6 := and63 (r / 4096) (by omega) (by omega)
        have e7 := or128 (r / 4096 % 64) (by omega) (by omega)
        have e2 := and63 (r / 64) (by omega) (by omega)
        have e3 := or128 (r / 64 % 64) (by omega) (by omega)
        have e4 := and63 r h0 h1
        have e5 := or128 (r % 64) (by omega) (by omega)
        clear hr hcp hv hlen hal hba hbs ht
        go_enter Try.func6, Try.ntmps6
        go_wp2_with (at_builtin; refine wpl_append rfl _ _ rfl B v (.slice (some ⟨w.heap.size, 0, none⟩) 4 4) l (M.enc r) t rfl (Hal.out _) rfl (Hbs.out w) (fun n c h => by simp at h) Hlen.out (by simp only [World.alloc, Array.size_push]; omega) Ht.out ?_)
        intro v' w' ho hb
        have hb2 := (Hba.out _).trans hb
        clear hb
        go_wp2
        go_ret
        exact ⟨_, rfl, ho, hb2⟩

set_option maxHeartbeats 1000000 in
theorem refput_sur (B : Nat) (v : Value) (l t : List UInt8) (r : Int) (w : World) (h1 : 55296 ≤ r) (h2 : r < 57344) (hv : OwnB B w v l) (hl : l.length ≤ 1048576) (hB : B ≤ w.heap.size) (ht : l ++ M.enc 65533 = t) :
    Calls Try.prog 6 #[v, .int .i64 r] w fun e w' => ∃ v', e = .returned v' ∧ OwnB B w' v' t ∧ Below B w w' := by
  have hlen : l.length + (M.enc 65533).length ≤ 4294967296 := by have := M.enc_le 65533; omega
  have hal : ∀ o, OwnB B (w.alloc o) v l := fun o => World.ownsRow.alloc hv o
  have hba : ∀ o, Below B w (w.alloc o) := fun o => (Below.refl B w).alloc hB o
  have hbs := fun w : World => bs_cells_new w (M.enc 65533) [.int .u8 239, .int .u8 191, .int .u8 189] 3 (by rw [cells_three 65533 (by omega)]; rfl) rfl (by decide +kernel)
  have Hal := Lib.hid hal
  have Hba := Lib.hid hba
  have Hlen := Lib.hid hlen
  have Ht := Lib.hid ht
  have Hbs := Lib.hid hbs
  have e1 : bits .or .i64 224 15 = 239 := by decide +kernel
  have e2 : bits .and .i64 1023 63 = 63 := by decide +kernel
  have e3 : bits .or .i64 128 63 = 191 := by decide +kernel
  have e4 : bits .and .i64 65533 63 = 61 := by decide +kernel
  have e5 : bits .or .i64 128 61 = 189 := by decide +kernel
  clear hv hlen hal hba hbs ht
  go_enter Try.func6, Try.ntmps6
  go_wp2_with (at_builtin; refine wpl_append rfl _ _ rfl B v (.slice (some ⟨w.heap.size, 0, none⟩) 3 3) l (M.enc 65533) t rfl (Hal.out _) rfl (Hbs.out w) (fun n c h => by simp at h) Hlen.out (by simp only [World.alloc, Array.size_push]; omega) Ht.out ?_)
  intro v' w' ho hb
  have hb2 := (Hba.out _).trans hb
  clear hb
  go_wp2
  go_ret
  exact ⟨_, rfl, ho, hb2⟩

/-- What is written of a number that may be a surrogate. -/
def cpOf (q : Int) : Nat := if 55296 ≤ q ∧ q < 57344 then 65533 else q.toNat
theorem cpOf_cp (q : Int) (h0 : 0 ≤ q) (h1 : q ≤ 131071) : M.isCP (cpOf q : Int) = true := by
  rw [M.isCP_iff]; unfold cpOf
  split <;> omega
theorem refput_low (B : Nat) (v : Value) (l t : List UInt8) (q : Int) (w : World) (h0 : 0 ≤ q) (h1 : q ≤ 131071) (hv : OwnB B w v l) (hl : l.length ≤ 1048576) (hB : B ≤ w.heap.size) (ht : l ++ M.enc (cpOf q : Int) = t) :
    Calls Try.prog 6 #[v, .int .i64 q] w fun e w' => ∃ v', e = .returned v' ∧ OwnB B w' v' t ∧ Below B w w' := by
  by_cases h : 55296 ≤ q ∧ q < 57344
  · have e : cpOf q = 65533 := by unfold cpOf; rw [if_pos h]
    rw [e] at ht
    exact refput_sur B v l t q w h.1 h.2 hv hl hB ht
  · have e : ((cpOf q : Nat) : Int) = q := by unfold cpOf; rw [if_neg h]; omega
    have hc := cpOf_cp q h0 h1
    rw [e] at ht hc
    exact refput_cp B v l t q w hc hv hl hB ht
end Go.Proofs.Ytmhebcimpibipaa
