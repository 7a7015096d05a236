/- Several texts of ours in one: URef URef2 UPut ECIn ECTxt ECls EEsc EEsc2 EName. -/
import Derived.Test.YtilndlifmpbfnaaDoorBgB
import Derived.Laws.BitsLemmas
import Derived.Test.YtilndlifmpbfnaaDoorShelf
import Derived.Test.YtilndlifmpbfnaaDoorBgU
import Derived.Test.YtilndlifmpbfnaaDoorRNext
import Derived.Deep.DeepCutAuto
import Derived.Outline
import Derived.Deep.QuietTactic
import Derived.BigQuiet
/- The reference of utf: what abridgerref1.Put returns of a code point, onto bytes of the call's own. -/
namespace Go.Proofs.YtilndlifmpbfnaaDoor
open Go.RowKit

theorem wraps_i64 (n : Int) (h₀ : 0 ≤ n) (h₁ : n < 2 ^ 62) : IntKind.i64.wrap n = n := by rw [IntKind.wrap_i64]; omega
theorem and63 (n : Int) (h0 : 0 ≤ n) (h1 : n ≤ 1114111) : bits .and .i64 n 63 = n % 64 := bits_mask .i64 62 (by decide) wraps_i64 6 (by decide) n h0 (by omega)
theorem or128 (n : Int) (h0 : 0 ≤ n) (h1 : n < 64) : bits .or .i64 128 n = 128 + n := bits_join .i64 62 (by decide) wraps_i64 6 128 n (by decide) (by decide) (by decide) h0 (by omega) (by omega)
theorem or192 (n : Int) (h0 : 0 ≤ n) (h1 : n < 64) : bits .or .i64 192 n = 192 + n := bits_join .i64 62 (by decide) wraps_i64 6 192 n (by decide) (by decide) (by decide) h0 (by omega) (by omega)
theorem or224 (n : Int) (h0 : 0 ≤ n) (h1 : n < 32) : bits .or .i64 224 n = 224 + n := bits_join .i64 62 (by decide) wraps_i64 5 224 n (by decide) (by decide) (by decide) h0 (by omega) (by omega)
theorem or240 (n : Int) (h0 : 0 ≤ n) (h1 : n < 16) : bits .or .i64 240 n = 240 + n := bits_join .i64 62 (by decide) wraps_i64 4 240 n (by decide) (by decide) (by decide) h0 (by omega) (by omega)

theorem cells_one (r : Int) (h0 : 0 ≤ r) (h1 : r ≤ 127) : bcells (M.enc r) = [.int .u8 r] := by rw [← runeCells_eq, Lib.runeCells, Lib.encodeRuneZ_one h0 h1]; rfl
theorem cells_two (r : Int) (h0 : 128 ≤ r) (h1 : r ≤ 2047) : bcells (M.enc r) = [.int .u8 (192 + r / 64), .int .u8 (128 + r % 64)] := by rw [← runeCells_eq, Lib.runeCells, Lib.encodeRuneZ_two h0 h1]; rfl
theorem cells_three (r : Int) (h : (2048 ≤ r ∧ r < 55296) ∨ (57343 < r ∧ r ≤ 65535)) : bcells (M.enc r) = [.int .u8 (224 + r / 4096), .int .u8 (128 + r / 64 % 64), .int .u8 (128 + r % 64)] := by rw [← runeCells_eq, Lib.runeCells, Lib.encodeRuneZ_three h]; rfl
theorem cells_four (r : Int) (h0 : 65536 ≤ r) (h1 : r ≤ 1114111) : bcells (M.enc r) = [.int .u8 (240 + r / 262144), .int .u8 (128 + r / 4096 % 64), .int .u8 (128 + r / 64 % 64), .int .u8 (128 + r % 64)] := by rw [← runeCells_eq, Lib.runeCells, Lib.encodeRuneZ_four h0 h1]; rfl
set_option maxHeartbeats 1000000 in
theorem refput_cp (B : Nat) (v : Value) (l t : List UInt8) (r : Int) (w : World) (hr : M.isCP r = true) (hv : OwnB B w v l) (hl : l.length ≤ 1048576) (hB : B ≤ w.heap.size) (ht : l ++ M.enc r = t) :
    Calls Tryd.prog 34 #[v, .int .i64 r] w fun e w' => ∃ v', e = .returned v' ∧ OwnB B w' v' t ∧ Below B w w' := by
  have hcp := (M.isCP_iff r).1 hr
  have h0 : 0 ≤ r := hcp.1
  have h1 : r ≤ 1114111 := hcp.2.1
  have hlen : l.length + (M.enc r).length ≤ 4294967296 := by have := M.enc_le r; omega
  have hal : ∀ o, OwnB B (w.alloc o) v l := fun o => World.ownsRow.alloc hv o
  have hba : ∀ o, Below B w (w.alloc o) := fun o => (Below.refl B w).alloc hB o
  have Hal := Lib.hid hal
  have Hba := Lib.hid hba
  have Hlen := Lib.hid hlen
  have Ht := Lib.hid ht
  by_cases c1 : r < 128
  · have hbs := fun w : World => bs_cells_new w (M.enc r) _ 1 (cells_one r h0 (by omega)) rfl (by have := M.enc_le r; omega)
    have Hbs := Lib.hid hbs
    clear hr hcp hv hlen hal hba hbs ht
    go_enter Tryd.func34, Tryd.ntmps34
    go_wp2_with (at_builtin; refine wpl_append rfl _ _ rfl B v (.slice (some ⟨w.heap.size, 0, none⟩) 1 1) l (M.enc r) t rfl (Hal.out _) rfl (Hbs.out w) (fun n c h => by simp at h) Hlen.out (by simp only [World.alloc, Array.size_push]; omega) Ht.out ?_)
    intro v' w' ho hb
    have hb2 := (Hba.out _).trans hb
    clear hb
    go_wp2
    go_ret
    exact ⟨_, rfl, ho, hb2⟩
  · by_cases c2 : r < 2048
    · have hbs := fun w : World => bs_cells_new w (M.enc r) _ 2 (cells_two r (by omega) (by omega)) rfl (by have := M.enc_le r; omega)
      have Hbs := Lib.hid hbs
      have e1 := or192 (r / 64) (by omega) (by omega)
      have e2 := and63 r h0 h1
      have e3 := or128 (r % 64) (by omega) (by omega)
      clear hr hcp hv hlen hal hba hbs ht
      go_enter Tryd.func34, Tryd.ntmps34
      go_wp2_with (at_builtin; refine wpl_append rfl _ _ rfl B v (.slice (some ⟨w.heap.size, 0, none⟩) 2 2) l (M.enc r) t rfl (Hal.out _) rfl (Hbs.out w) (fun n c h => by simp at h) Hlen.out (by simp only [World.alloc, Array.size_push]; omega) Ht.out ?_)
      intro v' w' ho hb
      have hb2 := (Hba.out _).trans hb
      clear hb
      go_wp2
      go_ret
      exact ⟨_, rfl, ho, hb2⟩
    · by_cases c3 : r < 65536
      · have hbs := fun w : World => bs_cells_new w (M.enc r) _ 3 (cells_three r (by omega)) rfl (by have := M.enc_le r; omega)
        have Hbs := Lib.hid hbs
        have e1 := or224 (r / 4096) (by omega) (by omega)
        have e2 := and63 (r / 64) (by omega) (by omega)
        have e3 := or128 (r / 64 % 64) (by omega) (by omega)
        have e4 := and63 r h0 h1
        have e5 := or128 (r % 64) (by omega) (by omega)
        have hs : r < 55296 ∨ 57343 < r := by omega
        clear hr hcp hv hlen hal hba hbs ht
        rcases hs with hs | hs
        all_goals
          go_enter Tryd.func34, Tryd.ntmps34
          go_wp2_with (at_builtin; refine wpl_append rfl _ _ rfl B v (.slice (some ⟨w.heap.size, 0, none⟩) 3 3) l (M.enc r) t rfl (Hal.out _) rfl (Hbs.out w) (fun n c h => by simp at h) Hlen.out (by simp only [World.alloc, Array.size_push]; omega) Ht.out ?_)
          intro v' w' ho hb
          have hb2 := (Hba.out _).trans hb
          clear hb
          go_wp2
          go_ret
          exact ⟨_, rfl, ho, hb2⟩
      · have hbs := fun w : World => bs_cells_new w (M.enc r) _ 4 (cells_four r (by omega) h1) rfl (by have := M.enc_le r; omega)
        have Hbs := Lib.hid hbs
        have e1 := or240 (r / 262144) (by omega) (by omega)
        have e6 := and63 (r / 4096) (by omega) (by omega)
        have e7 := or128 (r / 4096 % 64) (by omega) (by omega)
        have e2 := and63 (r / 64) (by omega) (by omega)
        have e3 := or128 (r / 64 % 64) (by omega) (by omega)
        have e4 := and63 r h0 h1
        have e5 := or128 (r % 64) (by omega) (by omega)
        clear hr hcp hv hlen hal hba hbs ht
        go_enter Tryd.func34, Tryd.ntmps34
        go_wp2_with (at_builtin; refine wpl_append rfl _ _ rfl B v (.slice (some ⟨w.heap.size, 0, none⟩) 4 4) l (M.enc r) t rfl (Hal.out _) rfl (Hbs.out w) (fun n c h => by simp at h) Hlen.out (by simp only [World.alloc, Array.size_push]; omega) Ht.out ?_)
        intro v' w' ho hb
        have hb2 := (Hba.out _).trans hb
        clear hb
        go_wp2
        go_ret
        exact ⟨_, rfl, ho, hb2⟩

set_option maxHeartbeats 1000000 in
theorem refput_sur (B : Nat) (v : Value) (l t : List UInt8) (r : Int) (w : World) (h1 : 55296 ≤ r) (h2 : r < 57344) (hv : OwnB B w v l) (hl : l.length ≤ 1048576) (hB : B ≤ w.heap.size) (ht : l ++ M.enc 65533 = t) :
    Calls Tryd.prog 34 #[v, .int .i64 r] w fun e w' => ∃ v', e = .returned v' ∧ OwnB B w' v' t ∧ Below B w w' := by
  have hlen : l.length + (M.enc 65533).length ≤ 4294967296 := by have := M.enc_le 65533; omega
  have hal : ∀ o, OwnB B (w.alloc o) v l := fun o => World.ownsRow.alloc hv o
  have hba : ∀ o, Below B w (w.alloc o) := fun o => (Below.refl B w).alloc hB o
  have hbs := fun w : World => bs_cells_new w (M.enc 65533) [.int .u8 239, .int .u8 191, .int .u8 189] 3 (by rw [cells_three 65533 (by omega)]; rfl) rfl (by decide +kernel)
  have Hal := Lib.hid hal
  have Hba := Lib.hid hba
  have Hlen := Lib.hid hlen
  have Ht := Lib.hid ht
  have Hbs := Lib.hid hbs
  have e1 : bits .or .i64 224 15 = 239 := by decide +kernel
  have e2 : bits .and .i64 1023 63 = 63 := by decide +kernel
  have e3 : bits .or .i64 128 63 = 191 := by decide +kernel
  have e4 : bits .and .i64 65533 63 = 61 := by decide +kernel
  have e5 : bits .or .i64 128 61 = 189 := by decide +kernel
  clear hv hlen hal hba hbs ht
  go_enter Tryd.func34, Tryd.ntmps34
  go_wp2_with (at_builtin; refine wpl_append rfl _ _ rfl B v (.slice (some ⟨w.heap.size, 0, none⟩) 3 3) l (M.enc 65533) t rfl (Hal.out _) rfl (Hbs.out w) (fun n c h => by simp at h) Hlen.out (by simp only [World.alloc, Array.size_push]; omega) Ht.out ?_)
  intro v' w' ho hb
  have hb2 := (Hba.out _).trans hb
  clear hb
  go_wp2
  go_ret
  exact ⟨_, rfl, ho, hb2⟩

/-- What is written of a number that may be a surrogate. -/
def cpOf (q : Int) : Nat := if 55296 ≤ q ∧ q < 57344 then 65533 else q.toNat
theorem cpOf_cp (q : Int) (h0 : 0 ≤ q) (h1 : q ≤ 131071) : M.isCP (cpOf q : Int) = true := by
  rw [M.isCP_iff]; unfold cpOf
  split <;> omega
theorem refput_low (B : Nat) (v : Value) (l t : List UInt8) (q : Int) (w : World) (h0 : 0 ≤ q) (h1 : q ≤ 131071) (hv : OwnB B w v l) (hl : l.length ≤ 1048576) (hB : B ≤ w.heap.size) (ht : l ++ M.enc (cpOf q : Int) = t) :
    Calls Tryd.prog 34 #[v, .int .i64 q] w fun e w' => ∃ v', e = .returned v' ∧ OwnB B w' v' t ∧ Below B w w' := by
  by_cases h : 55296 ≤ q ∧ q < 57344
  · have e : cpOf q = 65533 := by unfold cpOf; rw [if_pos h]
    rw [e] at ht
    exact refput_sur B v l t q w h.1 h.2 hv hl hB ht
  · have e : ((cpOf q : Nat) : Int) = q := by unfold cpOf; rw [if_neg h]; omega
    have hc := cpOf_cp q h0 h1
    rw [e] at ht hc
    exact refput_cp B v l t q w hc hv hl hB ht
end Go.Proofs.YtilndlifmpbfnaaDoor

/- The reference's Put, for any number. -/
namespace Go.Proofs.YtilndlifmpbfnaaDoor
open Go.RowKit
set_option linter.unusedVariables false

set_option maxRecDepth 100000 in
set_option maxHeartbeats 1000000 in
theorem refput_out (B : Nat) (v : Value) (l t : List UInt8) (r : Int) (w : World) (h1 : r < 0 ∨ 1114111 < r) (hv : OwnB B w v l) (hl : l.length ≤ 1048576) (hB : B ≤ w.heap.size) (ht : l ++ M.enc 65533 = t) :
    Calls Tryd.prog 34 #[v, .int .i64 r] w fun e w' => ∃ v', e = .returned v' ∧ OwnB B w' v' t ∧ Below B w w' := by
  have hlen : l.length + (M.enc 65533).length ≤ 4294967296 := by have := M.enc_le 65533; omega
  have hal : ∀ o, OwnB B (w.alloc o) v l := fun o => World.ownsRow.alloc hv o
  have hba : ∀ o, Below B w (w.alloc o) := fun o => (Below.refl B w).alloc hB o
  have hbs := fun w : World => bs_cells_new w (M.enc 65533) [.int .u8 239, .int .u8 191, .int .u8 189] 3 (by rw [cells_three 65533 (by omega)]; rfl) rfl (by decide +kernel)
  have Hal := Lib.hid hal
  have Hba := Lib.hid hba
  have Hlen := Lib.hid hlen
  have Ht := Lib.hid ht
  have Hbs := Lib.hid hbs
  have e1 : bits .or .i64 224 15 = 239 := by decide +kernel
  have e2 : bits .and .i64 1023 63 = 63 := by decide +kernel
  have e3 : bits .or .i64 128 63 = 191 := by decide +kernel
  have e4 : bits .and .i64 65533 63 = 61 := by decide +kernel
  have e5 : bits .or .i64 128 61 = 189 := by decide +kernel
  clear hv hlen hal hba hbs ht
  have tst : (decide (r < 0) = true) ∨ (decide (r < 0) = false ∧ decide ((1114111 : Int) < r) = true) := by
    simp only [decide_eq_true_eq, decide_eq_false_iff_not]; omega
  clear h1
  rcases tst with t1 | ⟨t1, t2⟩
  all_goals
    go_enter Tryd.func34, Tryd.ntmps34
    go_wp2_with (at_builtin; refine wpl_append rfl _ _ rfl B v (.slice (some ⟨w.heap.size, 0, none⟩) 3 3) l (M.enc 65533) t rfl (Hal.out _) rfl (Hbs.out w) (fun n c h => by simp at h) Hlen.out (by simp only [World.alloc, Array.size_push]; omega) Ht.out ?_)
    intro v' w' ho hb
    have hb2 := (Hba.out _).trans hb
    clear hb
    go_wp2
    go_ret
    exact ⟨_, rfl, ho, hb2⟩
theorem refput_any (B : Nat) (v : Value) (l t : List UInt8) (r : Int) (w : World) (hv : OwnB B w v l) (hl : l.length ≤ 1048576) (hB : B ≤ w.heap.size) (ht : l ++ M.enc r = t) :
    Calls Tryd.prog 34 #[v, .int .i64 r] w fun e w' => ∃ v', e = .returned v' ∧ OwnB B w' v' t ∧ Below B w w' := by
  cases hc : M.isCP r with
  | true => exact refput_cp B v l t r w hc hv hl hB ht
  | false =>
    rw [M.enc_other r hc] at ht
    have h0 : ¬ (0 ≤ r ∧ r ≤ 1114111 ∧ (r < 55296 ∨ 57343 < r)) := by rw [← M.isCP_iff]; simp [hc]
    by_cases h : 55296 ≤ r ∧ r < 57344
    · exact refput_sur B v l t r w h.1 h.2 hv hl hB ht
    · exact refput_out B v l t r w (by omega) hv hl hB ht
end Go.Proofs.YtilndlifmpbfnaaDoor

/- What utf.Put returns, for any bytes and any number. -/
namespace Go.Proofs.YtilndlifmpbfnaaDoor
open Go.RowKit
set_option linter.unusedVariables false

end Go.Proofs.YtilndlifmpbfnaaDoor

/- Code points of an input: what the reference's Runes returns, for any bytes (XCIn without the program's). -/
namespace Go.Proofs.YtilndlifmpbfnaaDoor
open Go.RowKit
set_option linter.unusedVariables false
set_option linter.unusedSimpArgs false

/-- A code point with its place, in cells. -/
def rv (r : Int × Int) : List Value := [.int .i64 r.1, .int .i64 r.2]
def rvs (l : List (Int × Int)) : List (List Value) := l.map rv
theorem rvs_len (l : List (Int × Int)) : (rvs l).length = l.length := by simp [rvs]
theorem rvs_append (k l : List (Int × Int)) : rvs (k ++ l) = rvs k ++ rvs l := by simp [rvs]
theorem rvs_two (l : List (Int × Int)) : ∀ y ∈ rvs l, y.length = 2 := by
  intro y hy
  simp only [rvs, List.mem_map] at hy
  obtain ⟨r, _, rfl⟩ := hy
  rfl
theorem rvs_one (l : List (Int × Int)) : ∀ y ∈ rvs l, ∀ c ∈ y, c.oneCell' = true := by
  intro y hy
  simp only [rvs, List.mem_map] at hy
  obtain ⟨r, _, rfl⟩ := hy
  intro c hc
  simp [rv] at hc
  rcases hc with rfl | rfl <;> rfl
theorem infoR : (Tryd.prog.info? 44).map (fun i => (i.zero, i.size, i.bytes)) = some (some (.agg #[.int .i64 0, .int .i64 0]), 2, 16) := by kernel_rfl
def OwnR (B : Nat) (w : World) (v : Value) (l : List (Int × Int)) : Prop := OwnV 44 2 B w v (rvs l)
def Rs (w : World) (v : Value) (l : List (Int × Int)) : Prop := Vs 2 w v (rvs l)
theorem OwnR.keep {B : Nat} {w w' : World} {v : Value} {l : List (Int × Int)} (h : OwnR B w v l) (hb : Below w.heap.size w w') : OwnR B w' v l := OwnV.keep h hb
theorem one_rune (w : World) (r a : Int) : Vs 2 (w.alloc (.cells #[.int .i64 r, .int .i64 a] 44)) (.slice (some ⟨w.heap.size, 0, none⟩) 1 1) (rvs [(r, a)]) :=
  vs_cells 2 44 w (rvs [(r, a)]) _ 1 rfl (rvs_two _) rfl (by simp [rvs])
/-- append of a code point onto code points of the call's own. -/
theorem wpl_rune {w : World} {ops : Array Oper} {rest : List Oper} {o : Oper} {a : Act} {Q : Exit → Act → World → Prop} (hgd : o.guard = none) (s x : Operand)
    (ho : o.op = .call { callee := .builtin .append, args := #[s, x], argTypes := #[28, 28] })
    (B : Nat) (v u : Value) (l t : List (Int × Int)) (r p : Int) (hs : a.eval s = v) (hown : OwnR B w v l) (hx : a.eval x = u) (hu : Vs 2 w u (rvs [(r, p)])) (hnn : NNv u)
    (hlen : l.length ≤ 4294967296) (hB : B ≤ w.heap.size) (ht : l ++ [(r, p)] = t)
    (h : ∀ v' w', OwnR B w' v' t → Below B w w' → wpList Tryd.prog ops Q rest (a.put o.dst v') w') : wpList Tryd.prog ops Q (o :: rest) a w :=
  wpl_appendV hgd s x ho Tryd.underlying28 infoR rfl (by decide) B v u (rvs l) (rvs [(r, p)]) (rvs t) hs hown hx hu hnn (rvs_two _) (rvs_one _) (by rw [rvs_len, rvs_len]; simp; omega) (by decide) hB (by rw [← ht, rvs_append]) h

theorem tup_ii {a b c d : Int} (h : a = b) (h2 : c = d) : Ending.returned (.tuple #[.int .i64 a, .int .i64 c]) = .returned (.tuple #[.int .i64 b, .int .i64 d]) := by rw [h, h2]
/-- What Runes returns. -/
def RuP (w : World) (l : List (Int × Int)) (e : Ending) (w' : World) : Prop := ∃ v', e = .returned v' ∧ OwnR w.heap.size w' v' l ∧ Below w.heap.size w w'
set_option maxRecDepth 100000 in
set_option maxHeartbeats 4000000 in
theorem refruns_any (v : Value) (l : List UInt8) (rs : List (Int × Int)) (w : World) (hv : Bs w v l) (hl : l.length ≤ 1048576) (hr : M.rn l 0 = rs) :
    Calls Tryd.prog 7 #[v] w (RuP w rs) := by
  have hv2 := hv
  obtain ⟨a, cap, rfl, h1, h2, h3⟩ := hv2
  obtain ⟨n, hn⟩ : ∃ n, l.length = n := ⟨_, rfl⟩
  have Hv := Lib.hid hv
  have Hn := Lib.hid hn
  have Hr := Lib.hid hr
  have H3 := Lib.hid h3
  rw [hn] at h1 hl ⊢
  clear h3 hv hn hr
  go_enter Tryd.func7, Tryd.ntmps7
  go_wp2
  go_loopw [3, 4, 5, 6, 7, 8] (fun ov iv _ _ _ _ wr => ∃ (i : Nat) (pre : List (Int × Int)), iv = .int .i64 i ∧ i ≤ n ∧ pre ++ M.rn l i = rs ∧ pre.length ≤ i ∧ OwnR w.heap.size wr ov pre ∧ Below w.heap.size w wr) (fun _ iv _ _ _ _ _ => n - (intOf iv).toNat)
  case atStart => exact ⟨0, [], rfl, by omega, Hr.out, by simp, ownV_nil _ _ _ _, Below.refl _ _⟩
  case round =>
    obtain ⟨i, pre, rfl, hi, hpre, hpl, ho, hb⟩ := hrel
    have hsz := hb.size
    by_cases hlt : i < n
    · obtain ⟨b, off, rfl, hbk, hcl⟩ := H3.out (by rw [Hn.out]; omega)
      obtain ⟨ok, hnx⟩ := M.next_dec l i (by rw [Hn.out]; exact hlt)
      have N1 := refnext_any _ l i _ wr (Hv.out.keep hb) (by rw [Hn.out]; omega) hnx
      unfold tri at N1
      dsimp only at N1
      rw [Hn.out] at N1
      have hst := M.rn_in l i (by rw [Hn.out]; exact hlt)
      have hle := M.step_le l i (by rw [Hn.out]; exact hlt)
      rw [Hn.out] at hle
      have hlow := M.dec_low (l.drop i)
      have hwid := M.dec_width (l.drop i)
      have hdl := M.dec_le (l.drop i) (by simp; rw [Hn.out]; omega)
      rw [List.length_drop, Hn.out] at hdl
      have hcg : i + 1 < n → wr.cell? ⟨b, off + (i + 1), none⟩ = some (.int .u8 ((l.getD (i + 1) 0).toNat : Int)) := fun hj => by
        have hj' : i + 1 < l.length := by rw [Hn.out]; exact hj
        rw [hb.cell (p := ⟨b, off + (i + 1), none⟩) hbk, hcl (i + 1) hj']; simp [hj']
      have hout : n ≤ i + 1 → l.getD (i + 1) 0 = 0 := by intro h; simp [List.getD, List.getElem?_eq_none (show l.length ≤ i + 1 by rw [Hn.out]; exact h)]
      unfold M.stepR at hst hle
      obtain ⟨D, hD⟩ : ∃ D, (M.dec (l.drop i)).1 = D := ⟨_, rfl⟩
      obtain ⟨K, hK⟩ : ∃ D, (M.dec (l.drop i)).2 = D := ⟨_, rfl⟩
      obtain ⟨c, hc⟩ : ∃ c, l.getD (i + 1) 0 = c := ⟨_, rfl⟩
      rw [hD, hK] at hst hle N1 hlow
      rw [hK] at hwid hdl
      rw [hc] at hst hle hcg hout
      have HN := Lib.hid N1
      have Hpre := Lib.hid hpre
      clear N1 hD hK hc hnx hcl hpre
      by_cases h0 : D = 0
      · subst h0
        rw [if_pos rfl] at hst hle
        have hfin : (pre ++ [(65533, (i : Int))]) ++ M.rn l (i + K) = rs := by rw [List.append_assoc, List.singleton_append, ← hst]; exact Hpre.out
        have Hf := Lib.hid hfin
        clear hst hle hcg hout hlow hfin
        go_wp2_with fail
        refine HN.out.mono ?_
        rintro e w' ⟨rfl, rfl⟩
        go_wp2_with (at_builtin; refine wpl_rune rfl _ _ rfl w.heap.size _ (.slice (some ⟨wr.heap.size, 0, none⟩) 1 1) pre (pre ++ [(65533, (i : Int))]) 65533 i rfl (OwnR.keep ho ((Below.refl _ _).alloc (Nat.le_refl _) _)) rfl (one_rune wr 65533 i) (nnv_some _ _ _) (by omega) (by simp; omega) rfl ?_)
        intro v3 w3 ho3 hb4
        have hb5 := (hb.alloc hsz _).trans hb4
        clear hb hb4 ho
        go_wp2
        go_roundw
        case rel => exact ⟨i + K, pre ++ [(65533, (i : Int))], by go_num, by omega, Hf.out, by simp; omega, ho3, hb5⟩
        case measure => simp [intOf]; omega
      by_cases h12 : D = 12
      · subst h12
        rw [if_neg (by decide), if_pos rfl] at hst hle
        have hfin : (pre ++ [(10, (i : Int))]) ++ M.rn l (i + K) = rs := by rw [List.append_assoc, List.singleton_append, ← hst]; exact Hpre.out
        have Hf := Lib.hid hfin
        clear hst hle hcg hout hlow hfin h0
        go_wp2_with fail
        refine HN.out.mono ?_
        rintro e w' ⟨rfl, rfl⟩
        go_wp2_with (at_builtin; refine wpl_rune rfl _ _ rfl w.heap.size _ (.slice (some ⟨wr.heap.size, 0, none⟩) 1 1) pre (pre ++ [(10, (i : Int))]) 10 i rfl (OwnR.keep ho ((Below.refl _ _).alloc (Nat.le_refl _) _)) rfl (one_rune wr 10 i) (nnv_some _ _ _) (by omega) (by simp; omega) rfl ?_)
        intro v3 w3 ho3 hb4
        have hb5 := (hb.alloc hsz _).trans hb4
        clear hb hb4 ho
        go_wp2
        go_roundw
        case rel => exact ⟨i + K, pre ++ [(10, (i : Int))], by go_num, by omega, Hf.out, by simp; omega, ho3, hb5⟩
        case measure => simp [intOf]; omega
      by_cases h13 : D = 13
      · subst h13
        have hK1 := (hlow (by decide)).1
        subst hK1
        rw [if_neg (by decide), if_neg (by decide), if_pos rfl] at hst hle
        obtain ⟨C, hC⟩ : ∃ C : Int, (c.toNat : Int) = C := ⟨_, rfl⟩
        rw [hC] at hcg
        have i4 : ((i : Int) + 1).toNat = i + 1 := by omega
        by_cases hin : i + 1 < n
        · have hcc := hcg hin
          have t1 : decide ((i : Int) + 1 < n) = true := by simp; omega
          have u1 : (i : Int) + 1 < n := by omega
          by_cases h10 : c = 10
          · have t2 : (C == 10) = true := by rw [← hC, h10]; rfl
            rw [if_pos h10] at hst hle
            have hfin : (pre ++ [(10, (i : Int))]) ++ M.rn l (i + 2) = rs := by rw [List.append_assoc, List.singleton_append, ← hst]; exact Hpre.out
            have Hf := Lib.hid hfin
            clear hst hle hcg hout hlow hfin h0 h12 h10 hC
            go_wp2_with fail
            refine HN.out.mono ?_
            rintro e w' ⟨rfl, rfl⟩
            go_wp2_with (at_builtin; refine wpl_rune rfl _ _ rfl w.heap.size _ (.slice (some ⟨wr.heap.size, 0, none⟩) 1 1) pre (pre ++ [(10, (i : Int))]) 10 i rfl (OwnR.keep ho ((Below.refl _ _).alloc (Nat.le_refl _) _)) rfl (one_rune wr 10 i) (nnv_some _ _ _) (by omega) (by simp; omega) rfl ?_)
            intro v3 w3 ho3 hb4
            have hb5 := (hb.alloc hsz _).trans hb4
            clear hb hb4 ho
            go_wp2
            go_roundw
            case rel => exact ⟨i + 2, pre ++ [(10, (i : Int))], by go_num, by omega, Hf.out, by simp; omega, ho3, hb5⟩
            case measure => simp [intOf]; omega
          · have t2 : (C == 10) = false := by rw [beq_eq_false_iff_ne]; intro hh; apply h10; apply UInt8.toNat_inj.1; show c.toNat = 10; omega
            rw [if_neg h10] at hst hle
            have hfin : (pre ++ [(10, (i : Int))]) ++ M.rn l (i + 1) = rs := by rw [List.append_assoc, List.singleton_append, ← hst]; exact Hpre.out
            have Hf := Lib.hid hfin
            clear hst hle hcg hout hlow hfin h0 h12 h10 hC
            go_wp2_with fail
            refine HN.out.mono ?_
            rintro e w' ⟨rfl, rfl⟩
            go_wp2_with (at_builtin; refine wpl_rune rfl _ _ rfl w.heap.size _ (.slice (some ⟨wr.heap.size, 0, none⟩) 1 1) pre (pre ++ [(10, (i : Int))]) 10 i rfl (OwnR.keep ho ((Below.refl _ _).alloc (Nat.le_refl _) _)) rfl (one_rune wr 10 i) (nnv_some _ _ _) (by omega) (by simp; omega) rfl ?_)
            intro v3 w3 ho3 hb4
            have hb5 := (hb.alloc hsz _).trans hb4
            clear hb hb4 ho
            go_wp2
            go_roundw
            case rel => exact ⟨i + 1, pre ++ [(10, (i : Int))], by go_num, by omega, Hf.out, by simp; omega, ho3, hb5⟩
            case measure => simp [intOf]; omega
        · have hc0 := hout (by omega)
          rw [if_neg (by rw [hc0]; decide)] at hst hle
          have t1 : decide ((i : Int) + 1 < n) = false := by simp; omega
          have hfin : (pre ++ [(10, (i : Int))]) ++ M.rn l (i + 1) = rs := by rw [List.append_assoc, List.singleton_append, ← hst]; exact Hpre.out
          have Hf := Lib.hid hfin
          clear hst hle hcg hout hlow hfin h0 h12 hC hc0
          go_wp2_with fail
          refine HN.out.mono ?_
          rintro e w' ⟨rfl, rfl⟩
          go_wp2_with (at_builtin; refine wpl_rune rfl _ _ rfl w.heap.size _ (.slice (some ⟨wr.heap.size, 0, none⟩) 1 1) pre (pre ++ [(10, (i : Int))]) 10 i rfl (OwnR.keep ho ((Below.refl _ _).alloc (Nat.le_refl _) _)) rfl (one_rune wr 10 i) (nnv_some _ _ _) (by omega) (by simp; omega) rfl ?_)
          intro v3 w3 ho3 hb4
          have hb5 := (hb.alloc hsz _).trans hb4
          clear hb hb4 ho
          go_wp2
          go_roundw
          case rel => exact ⟨i + 1, pre ++ [(10, (i : Int))], by go_num, by omega, Hf.out, by simp; omega, ho3, hb5⟩
          case measure => simp [intOf]; omega
      · rw [if_neg h0, if_neg h12, if_neg h13] at hst hle
        obtain ⟨E, hE⟩ : ∃ E : Int, (D : Int) = E := ⟨_, rfl⟩
        have t1 : (E == 0) = false := by rw [beq_eq_false_iff_ne]; omega
        have t2 : (E == 12) = false := by rw [beq_eq_false_iff_ne]; omega
        have t3 : (E == 13) = false := by rw [beq_eq_false_iff_ne]; omega
        rw [hE] at HN hst
        have hfin : (pre ++ [(E, (i : Int))]) ++ M.rn l (i + K) = rs := by rw [List.append_assoc, List.singleton_append, ← hst]; exact Hpre.out
        have Hf := Lib.hid hfin
        clear hst hle hcg hout hlow hfin h0 h12 h13 hE
        go_wp2_with fail
        refine HN.out.mono ?_
        rintro e w' ⟨rfl, rfl⟩
        go_wp2_with (at_builtin; refine wpl_rune rfl _ _ rfl w.heap.size _ (.slice (some ⟨wr.heap.size, 0, none⟩) 1 1) pre (pre ++ [(E, (i : Int))]) E i rfl (OwnR.keep ho ((Below.refl _ _).alloc (Nat.le_refl _) _)) rfl (one_rune wr E i) (nnv_some _ _ _) (by omega) (by simp; omega) rfl ?_)
        intro v3 w3 ho3 hb4
        have hb5 := (hb.alloc hsz _).trans hb4
        clear hb hb4 ho
        go_wp2
        go_roundw
        case rel => exact ⟨i + K, pre ++ [(E, (i : Int))], by go_num, by omega, Hf.out, by simp; omega, ho3, hb5⟩
        case measure => simp [intOf]; omega
    · have hfin := hpre
      rw [M.rn_out l i (by rw [Hn.out]; omega), List.append_nil] at hfin
      subst hfin
      have HF : Hid (RuP w pre (.returned u3) wr) := Lib.hid ⟨_, rfl, ho, hb⟩
      have hge : (n : Int) ≤ i := by omega
      have hge2 : n ≤ i := by omega
      clear ho hb hpre hlt
      go_wp2
      go_ret
      exact HF.out
end Go.Proofs.YtilndlifmpbfnaaDoor

/- Code points as a text: what cinput.Text returns (XCTxt without the reference's). -/
namespace Go.Proofs.YtilndlifmpbfnaaDoor
open Go.RowKit
set_option linter.unusedVariables false
set_option linter.unusedSimpArgs false

theorem rs_cells {w : World} {b off : Nat} {l : List (Int × Int)} (h : ∀ j (h : j < (rvs l).length) i u, (rvs l)[j][i]? = some u → w.cell? ⟨b, off + (j * 2 + i), none⟩ = some u) :
    ∀ j (hj : j < l.length), w.cell? ⟨b, off + j * 2, none⟩ = some (.int .i64 (l[j]).1) ∧ w.cell? ⟨b, off + j * 2 + 1, none⟩ = some (.int .i64 (l[j]).2) := by
  intro j hj
  have hj' : j < (rvs l).length := by rw [rvs_len]; exact hj
  have e : (rvs l)[j] = rv l[j] := by simp [rvs]
  have h0 := h j hj' 0 (.int .i64 (l[j]).1) (by rw [e]; rfl)
  have h1 := h j hj' 1 (.int .i64 (l[j]).2) (by rw [e]; rfl)
  exact ⟨by simpa using h0, by rw [Nat.add_assoc]; exact h1⟩
/-- Code points that lie somewhere: the value, and each cell. -/
theorem rs_open {w : World} {v : Value} {l : List (Int × Int)} (h : Rs w v l) {n : Nat} (hn : l.length = n) :
    ∃ a cap, v = .slice a n cap ∧ n ≤ cap ∧ cap ≤ maxLen ∧ (0 < n → ∃ b off, a = some ⟨b, off, none⟩ ∧ b < w.heap.size ∧ ∀ j (hj : j < l.length), w.cell? ⟨b, off + j * 2, none⟩ = some (.int .i64 (l[j]).1) ∧ w.cell? ⟨b, off + j * 2 + 1, none⟩ = some (.int .i64 (l[j]).2)) := by
  obtain ⟨a, cap, rfl, h1, h2, h3⟩ := h
  rw [rvs_len, hn] at h1
  refine ⟨a, cap, by rw [rvs_len, hn], h1, h2, fun h0 => ?_⟩
  obtain ⟨b, off, rfl, hb, hc⟩ := h3 (by rw [rvs_len, hn]; exact h0)
  exact ⟨b, off, rfl, hb, rs_cells hc⟩
end Go.Proofs.YtilndlifmpbfnaaDoor

/- Classes of code points: which may begin a name, which may be in one, digits, blanks: the program's and the reference's. -/
namespace Go.Proofs.YtilndlifmpbfnaaDoor
open Go.RowKit
set_option linter.unusedVariables false
set_option linter.unusedSimpArgs false

set_option maxRecDepth 100000 in
set_option maxHeartbeats 1000000 in
theorem isx_any (r : Int) (b : Bool) (w : World) (h : M.isX r = b) : Calls Tryd.prog 30 #[.int .i64 r] w fun e w' => e = .returned (.bool b) ∧ w = w' := by
  have hs : (r ≤ 47) ∨ (48 ≤ r ∧ r ≤ 57) ∨ (58 ≤ r ∧ r ≤ 64) ∨ (65 ≤ r ∧ r ≤ 70) ∨ (71 ≤ r ∧ r ≤ 96) ∨ (97 ≤ r ∧ r ≤ 102) ∨ (103 ≤ r) := by omega
  rcases hs with h1 | ⟨h1, h2⟩ | ⟨h1, h2⟩ | ⟨h1, h2⟩ | ⟨h1, h2⟩ | ⟨h1, h2⟩ | h1
  · obtain rfl : b = false := by rw [← h]; rw [M.isX_not]; omega
    clear h
    go_enter Tryd.func30, Tryd.ntmps30
    go_wp2
    go_ret
    exact ⟨by first | rfl | (simp; done) | (simp; omega), rfl⟩
  · obtain rfl : b = true := by rw [← h]; rw [M.isX_iff]; omega
    clear h
    go_enter Tryd.func30, Tryd.ntmps30
    go_wp2
    go_ret
    exact ⟨by first | rfl | (simp; done) | (simp; omega), rfl⟩
  · obtain rfl : b = false := by rw [← h]; rw [M.isX_not]; omega
    clear h
    go_enter Tryd.func30, Tryd.ntmps30
    go_wp2
    go_ret
    exact ⟨by first | rfl | (simp; done) | (simp; omega), rfl⟩
  · obtain rfl : b = true := by rw [← h]; rw [M.isX_iff]; omega
    clear h
    go_enter Tryd.func30, Tryd.ntmps30
    go_wp2
    go_ret
    exact ⟨by first | rfl | (simp; done) | (simp; omega), rfl⟩
  · obtain rfl : b = false := by rw [← h]; rw [M.isX_not]; omega
    clear h
    go_enter Tryd.func30, Tryd.ntmps30
    go_wp2
    go_ret
    exact ⟨by first | rfl | (simp; done) | (simp; omega), rfl⟩
  · obtain rfl : b = true := by rw [← h]; rw [M.isX_iff]; omega
    clear h
    go_enter Tryd.func30, Tryd.ntmps30
    go_wp2
    go_ret
    exact ⟨by first | rfl | (simp; done) | (simp; omega), rfl⟩
  · obtain rfl : b = false := by rw [← h]; rw [M.isX_not]; omega
    clear h
    go_enter Tryd.func30, Tryd.ntmps30
    go_wp2
    go_ret
    exact ⟨by first | rfl | (simp; done) | (simp; omega), rfl⟩

set_option maxRecDepth 100000 in
set_option maxHeartbeats 1000000 in
theorem rnst_any (r : Int) (b : Bool) (w : World) (h : M.nSt r = b) : Calls Tryd.prog 35 #[.int .i64 r] w fun e w' => e = .returned (.bool b) ∧ w = w' := by
  have hs : (r ≤ 64) ∨ (65 ≤ r ∧ r ≤ 90) ∨ (91 ≤ r ∧ r ≤ 94) ∨ (r = 95) ∨ (r = 96) ∨ (97 ≤ r ∧ r ≤ 122) ∨ (123 ≤ r ∧ r ≤ 127) ∨ (128 ≤ r) := by omega
  rcases hs with h1 | ⟨h1, h2⟩ | ⟨h1, h2⟩ | rfl | rfl | ⟨h1, h2⟩ | ⟨h1, h2⟩ | h1
  · obtain rfl : b = false := by rw [← h]; rw [M.nSt_not]; omega
    clear h
    go_enter Tryd.func35, Tryd.ntmps35
    go_wp2
    go_ret
    exact ⟨by first | rfl | (simp; done) | (simp; omega), rfl⟩
  · obtain rfl : b = true := by rw [← h]; rw [M.nSt_iff]; omega
    clear h
    go_enter Tryd.func35, Tryd.ntmps35
    go_wp2
    go_ret
    exact ⟨by first | rfl | (simp; done) | (simp; omega), rfl⟩
  · obtain rfl : b = false := by rw [← h]; rw [M.nSt_not]; omega
    clear h
    go_enter Tryd.func35, Tryd.ntmps35
    go_wp2
    go_ret
    exact ⟨by first | rfl | (simp; done) | (simp; omega), rfl⟩
  · obtain rfl : b = true := by rw [← h]; decide
    clear h
    go_enter Tryd.func35, Tryd.ntmps35
    go_wp2
    go_ret
    exact ⟨by first | rfl | (simp; done) | (simp; omega), rfl⟩
  · obtain rfl : b = false := by rw [← h]; decide
    clear h
    go_enter Tryd.func35, Tryd.ntmps35
    go_wp2
    go_ret
    exact ⟨by first | rfl | (simp; done) | (simp; omega), rfl⟩
  · obtain rfl : b = true := by rw [← h]; rw [M.nSt_iff]; omega
    clear h
    go_enter Tryd.func35, Tryd.ntmps35
    go_wp2
    go_ret
    exact ⟨by first | rfl | (simp; done) | (simp; omega), rfl⟩
  · obtain rfl : b = false := by rw [← h]; rw [M.nSt_not]; omega
    clear h
    go_enter Tryd.func35, Tryd.ntmps35
    go_wp2
    go_ret
    exact ⟨by first | rfl | (simp; done) | (simp; omega), rfl⟩
  · obtain rfl : b = true := by rw [← h]; rw [M.nSt_iff]; omega
    clear h
    go_enter Tryd.func35, Tryd.ntmps35
    go_wp2
    go_ret
    exact ⟨by first | rfl | (simp; done) | (simp; omega), rfl⟩

set_option maxRecDepth 100000 in
set_option maxHeartbeats 1000000 in
theorem rndg_any (r : Int) (b : Bool) (w : World) (h : M.nDg r = b) : Calls Tryd.prog 36 #[.int .i64 r] w fun e w' => e = .returned (.bool b) ∧ w = w' := by
  have hs : (r ≤ 47) ∨ (48 ≤ r ∧ r ≤ 57) ∨ (58 ≤ r) := by omega
  rcases hs with h1 | ⟨h1, h2⟩ | h1
  · obtain rfl : b = false := by rw [← h]; rw [M.nDg_not]; omega
    clear h
    go_enter Tryd.func36, Tryd.ntmps36
    go_wp2
    go_ret
    exact ⟨by first | rfl | (simp; done) | (simp; omega), rfl⟩
  · obtain rfl : b = true := by rw [← h]; rw [M.nDg_iff]; omega
    clear h
    go_enter Tryd.func36, Tryd.ntmps36
    go_wp2
    go_ret
    exact ⟨by first | rfl | (simp; done) | (simp; omega), rfl⟩
  · obtain rfl : b = false := by rw [← h]; rw [M.nDg_not]; omega
    clear h
    go_enter Tryd.func36, Tryd.ntmps36
    go_wp2
    go_ret
    exact ⟨by first | rfl | (simp; done) | (simp; omega), rfl⟩

set_option maxRecDepth 100000 in
set_option maxHeartbeats 1000000 in
theorem risbl_any (r : Int) (b : Bool) (w : World) (h : M.isBl r = b) : Calls Tryd.prog 19 #[.int .i64 r] w fun e w' => e = .returned (.bool b) ∧ w = w' := by
  have hs : (r ≤ 8) ∨ (r = 9) ∨ (r = 10) ∨ (11 ≤ r ∧ r ≤ 31) ∨ (r = 32) ∨ (33 ≤ r) := by omega
  rcases hs with h1 | rfl | rfl | ⟨h1, h2⟩ | rfl | h1
  · obtain rfl : b = false := by rw [← h]; rw [M.isBl_not]; omega
    clear h
    go_enter Tryd.func19, Tryd.ntmps19
    go_wp2
    go_ret
    exact ⟨by first | rfl | (simp; done) | (simp; omega), rfl⟩
  · obtain rfl : b = true := by rw [← h]; decide
    clear h
    go_enter Tryd.func19, Tryd.ntmps19
    go_wp2
    go_ret
    exact ⟨by first | rfl | (simp; done) | (simp; omega), rfl⟩
  · obtain rfl : b = true := by rw [← h]; decide
    clear h
    go_enter Tryd.func19, Tryd.ntmps19
    go_wp2
    go_ret
    exact ⟨by first | rfl | (simp; done) | (simp; omega), rfl⟩
  · obtain rfl : b = false := by rw [← h]; rw [M.isBl_not]; omega
    clear h
    go_enter Tryd.func19, Tryd.ntmps19
    go_wp2
    go_ret
    exact ⟨by first | rfl | (simp; done) | (simp; omega), rfl⟩
  · obtain rfl : b = true := by rw [← h]; decide
    clear h
    go_enter Tryd.func19, Tryd.ntmps19
    go_wp2
    go_ret
    exact ⟨by first | rfl | (simp; done) | (simp; omega), rfl⟩
  · obtain rfl : b = false := by rw [← h]; rw [M.isBl_not]; omega
    clear h
    go_enter Tryd.func19, Tryd.ntmps19
    go_wp2
    go_ret
    exact ⟨by first | rfl | (simp; done) | (simp; omega), rfl⟩

end Go.Proofs.YtilndlifmpbfnaaDoor

/- Escapes and names among code points: what the program's escape and cname packages find. -/
namespace Go.Proofs.YtilndlifmpbfnaaDoor
open Go.RowKit
set_option linter.unusedVariables false
set_option linter.unusedSimpArgs false

/-- The code points of a list, without their places. -/
def cps (l : List (Int × Int)) : List Int := l.map Prod.fst
theorem cps_len (l : List (Int × Int)) : (cps l).length = l.length := by simp [cps]
theorem getD_lt (c : List Int) (i : Nat) (h : i < c.length) (d : Int) : c.getD i d = c[i] := by simp [List.getD, h]
/-- A list of code points that lies somewhere, as the walks want it: n of them, each cell by its number. -/
def Lc (w : World) (v : Value) (c : List Int) : Prop :=
  ∃ a cap, v = .slice a c.length cap ∧ c.length ≤ cap ∧ cap ≤ maxLen ∧ (0 < c.length → ∃ b off, a = some ⟨b, off, none⟩ ∧ b < w.heap.size ∧ ∀ j (hj : j < c.length), w.cell? ⟨b, off + j * 2, none⟩ = some (.int .i64 (c.getD j (-1))))
theorem Rs.lc {w : World} {v : Value} {l : List (Int × Int)} (h : Rs w v l) : Lc w v (cps l) := by
  obtain ⟨a, cap, rfl, h1, h2, h3⟩ := rs_open h rfl
  refine ⟨a, cap, by rw [cps_len], by rw [cps_len]; exact h1, h2, fun h0 => ?_⟩
  obtain ⟨b, off, rfl, hb, hc⟩ := h3 (by rwa [cps_len] at h0)
  exact ⟨b, off, rfl, hb, fun j hj => by rw [(hc j (by rwa [cps_len] at hj)).1, getD_lt (cps l) j hj]; simp [cps]⟩
theorem Lc.keep {w w' : World} {v : Value} {c : List Int} (h : Lc w v c) (hb : Below w.heap.size w w') : Lc w' v c := by
  obtain ⟨a, cap, rfl, h1, h2, h3⟩ := h
  refine ⟨a, cap, rfl, h1, h2, fun h0 => ?_⟩
  obtain ⟨b, off, rfl, hlt, hc⟩ := h3 h0
  exact ⟨b, off, rfl, Nat.lt_of_lt_of_le hlt hb.size, fun j hj => by rw [hb.cell (p := ⟨b, off + j * 2, none⟩) hlt]; exact hc j hj⟩
theorem drop_cons (c : List Int) (i : Nat) (h : i < c.length) : c.drop i = c[i] :: c.drop (i + 1) := List.drop_eq_getElem_cons h
theorem getD_drop (c : List Int) (i k : Nat) (d : Int) : (c.drop i).getD k d = c.getD (i + k) d := by simp [List.getD]
/-- Does an escape begin at a place? -/
theorem esB_at (c : List Int) (i : Nat) : M.esB (c.drop i) = (decide (i < c.length) && (decide (c.getD i (-1) = 92) && decide (c.getD (i + 1) (-1) ≠ 10))) := by
  by_cases h : i < c.length
  · rw [drop_cons c i h, getD_lt c i h]
    simp only [M.esB, h, decide_true, Bool.true_and]
    rw [getD_drop, Nat.add_zero]
  · rw [List.drop_eq_nil_of_le (by omega)]; simp [M.esB, h]

end Go.Proofs.YtilndlifmpbfnaaDoor

/- Escapes among code points: what the program's escape.Take finds. -/
namespace Go.Proofs.YtilndlifmpbfnaaDoor
open Go.RowKit
set_option linter.unusedVariables false
set_option linter.unusedSimpArgs false

theorem eret_i {k : IntKind} {a b : Int} (h : a = b) : Ending.returned (.int k a) = .returned (.int k b) := by rw [h]
theorem etup_ii {a b c d : Int} (h : a = b) (h2 : c = d) : Ending.returned (.tuple #[.int .i64 a, .int .i64 c]) = .returned (.tuple #[.int .i64 b, .int .i64 d]) := by rw [h, h2]
theorem eor_16 (a x : Int) (h0 : 0 ≤ a) (ha : a < 16777216) (hx0 : 0 ≤ x) (hx : x ≤ 15) : bits .or .i64 (a * 16) x = 16 * a + x := by
  have := bits_join .i64 62 (by decide) rwraps_i64 4 (a * 16) x (by omega) (by omega) (by omega) (by omega) (by omega) (by omega)
  rw [this]; omega
end Go.Proofs.YtilndlifmpbfnaaDoor

/- Names among code points: where the program finds that one begins, and which it takes. -/
namespace Go.Proofs.YtilndlifmpbfnaaDoor
open Go.RowKit
set_option linter.unusedVariables false
set_option linter.unusedSimpArgs false

theorem begN_at (c : List Int) (i : Nat) (h : i < c.length) : M.begN (c.drop i) = (if c.getD i (-1) = 45 then (if i + 1 < c.length then M.nSt (c.getD (i + 1) (-1)) || M.esB (c.drop (i + 1)) else false) || (decide (i + 1 < c.length) && decide (c.getD (i + 1) (-1) = 45)) else M.nSt (c.getD i (-1)) || M.esB (c.drop i)) := by
  rw [getD_lt c i h, List.drop_eq_getElem_cons h]
  simp only [M.begN]
  by_cases h45 : c[i] = 45
  · rw [if_pos h45, if_pos h45, getD_drop, Nat.add_zero]
    by_cases h1 : i + 1 < c.length
    · rw [if_pos h1]
      simp only [h1, decide_true, Bool.true_and]
      cases M.nSt (c.getD (i + 1) (-1)) <;> cases decide (c.getD (i + 1) (-1) = 45) <;> simp
    · have e : c.getD (i + 1) (-1) = -1 := by simp [List.getD, List.getElem?_eq_none (show c.length ≤ i + 1 by omega)]
      rw [if_neg h1, e, List.drop_eq_nil_of_le (by omega)]
      simp [h1, M.esB, M.nSt]
  · rw [if_neg h45, if_neg h45]
end Go.Proofs.YtilndlifmpbfnaaDoor
