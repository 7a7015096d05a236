/- The walk of SmapWrong. -/
import Derived.Test.YtejpgopbgepaoaaDoorSAlive
namespace Go.Proofs.YtejpgopbgepaoaaDoor
open Go.RowKit
set_option linter.unusedVariables false
set_option linter.unusedSimpArgs false

def swT : List (List M.S4) := [[], [(0, 0, 0, 0)], [((-1), 0, 0, 0)], [(0, (-1), 0, 0)], [(0, 0, (-1), 0)], [(0, 0, 0, (-1))], [(0, 1, 0, 0), (0, 1, 0, 0)], [(0, 1, 0, 0), (0, 2, 0, 0)], [(0, 2, 0, 0), (0, 1, 0, 0)], [(1, 0, 0, 0), (0, 5, 0, 0)], [(0, 5, 0, 0), (1, 0, 0, 0)], [(0, 1073741824, 0, 0)], [(0, 1073741825, 0, 0)], [(0, 0, 0, 1073741825)], [(100001, 0, 0, 0)], [(0, 0, 5, 0), (0, 1, 2, 0)]]
def swO : List Bool := [true, true, false, false, false, false, false, true, false, false, true, true, false, false, false, true]
def SL (k : Nat) : List M.S4 := swT.getD k []
def okB (k : Nat) : Bool := swO.getD k false
def sblk (k : Nat) : Obj := .cells (((SL k).map s4v).flatten).toArray 30
def slV (b k : Nat) : Value := .slice (some ⟨b + k, 0, none⟩) (SL k).length (SL k).length
def sWn : Nat → World → World
  | 0, w => w
  | n + 1, w => (sWn n w).alloc (sblk n)
theorem asz (w : World) (o : Obj) : (w.alloc o).heap.size = w.heap.size + 1 := by simp
theorem sWn_size (n : Nat) (w : World) : (sWn n w).heap.size = w.heap.size + n := by
  induction n with
  | zero => rfl
  | succ n ih => simp only [sWn, asz, ih]; omega
theorem sL_len (k : Nat) (hk : k < 16) : (SL k).length ≤ 2 ∧ (M.maps (SL k)).isSome = okB k := by
  have : ∀ k, k < 16 → (SL k).length ≤ 2 ∧ (M.maps (SL k)).isSome = okB k := by decide +kernel
  exact this k hk
theorem sWn_ss (n : Nat) (hn : n ≤ 16) (w : World) (k : Nat) (hk : k < n) : Ss (sWn n w) (slV w.heap.size k) (SL k) := by
  induction n with
  | zero => omega
  | succ n ih =>
    by_cases h : k < n
    · exact (ih (by omega) h).keep ((Below.refl _ _).alloc (Nat.le_refl _) _)
    · obtain rfl : k = n := by omega
      have hl := (sL_len k (by omega)).1
      have := vs_cells 4 30 (sWn k w) ((SL k).map s4v) (((SL k).map s4v).flatten).toArray (SL k).length (by simp) (s4_len _) (by simp) (by simp; omega)
      rw [sWn_size] at this
      exact this
def sblkS (b : Nat) : Obj := .cells ((List.range 16).map (slV b)).toArray 22
def sblkB : Obj := .cells (swO.map Value.bool).toArray 4
def sWW (w : World) : World := ((sWn 16 w).alloc (sblkS w.heap.size)).alloc sblkB
theorem sWW_size (w : World) : (sWW w).heap.size = w.heap.size + 18 := by unfold sWW; simp only [asz, sWn_size]
theorem sWW_below (w : World) : Below w.heap.size w (sWW w) := by
  have : ∀ n, Below w.heap.size w (sWn n w) := by
    intro n
    induction n with
    | zero => exact Below.refl _ _
    | succ n ih => exact ih.alloc ih.size _
  exact ((this 16).alloc (this 16).size _).alloc ((this 16).alloc (this 16).size _).size _
theorem sWW_ss (w : World) (k : Nat) (hk : k < 16) : Ss (sWW w) (slV w.heap.size k) (SL k) :=
  (sWn_ss 16 (Nat.le_refl _) w k hk).keep (((Below.refl _ _).alloc (Nat.le_refl _) _).alloc (by simp) _)
theorem sWW_cell (w : World) (k : Nat) (hk : k < 16) : (sWW w).cell? ⟨w.heap.size + 16, k, none⟩ = some (slV w.heap.size k) := by
  unfold sWW sblkS sblkB
  rw [World.cell?_alloc_past _ _ _ (by simp only [asz, sWn_size]; omega), World.cell?_alloc_at _ _ _ _ (by rw [sWn_size])]
  simp [hk]
theorem sWW_bool (w : World) (k : Nat) (hk : k < 16) : (sWW w).cell? ⟨w.heap.size + 17, k, none⟩ = some (.bool (okB k)) := by
  unfold sWW sblkB
  rw [World.cell?_alloc_at _ _ _ _ (by simp only [asz, sWn_size])]
  have : ∀ k, k < 16 → swO[k]? = some (okB k) := by decide +kernel
  simp [this k hk]
theorem sWW_chain (w : World) : sWW w = ((((((((((((((((((w.alloc (.cells #[] 30)).alloc (.cells #[.int .i64 0, .int .i64 0, .int .i64 0, .int .i64 0] 30)).alloc (.cells #[.int .i64 (-1), .int .i64 0, .int .i64 0, .int .i64 0] 30)).alloc (.cells #[.int .i64 0, .int .i64 (-1), .int .i64 0, .int .i64 0] 30)).alloc (.cells #[.int .i64 0, .int .i64 0, .int .i64 (-1), .int .i64 0] 30)).alloc (.cells #[.int .i64 0, .int .i64 0, .int .i64 0, .int .i64 (-1)] 30)).alloc (.cells #[.int .i64 0, .int .i64 1, .int .i64 0, .int .i64 0, .int .i64 0, .int .i64 1, .int .i64 0, .int .i64 0] 30)).alloc (.cells #[.int .i64 0, .int .i64 1, .int .i64 0, .int .i64 0, .int .i64 0, .int .i64 2, .int .i64 0, .int .i64 0] 30)).alloc (.cells #[.int .i64 0, .int .i64 2, .int .i64 0, .int .i64 0, .int .i64 0, .int .i64 1, .int .i64 0, .int .i64 0] 30)).alloc (.cells #[.int .i64 1, .int .i64 0, .int .i64 0, .int .i64 0, .int .i64 0, .int .i64 5, .int .i64 0, .int .i64 0] 30)).alloc (.cells #[.int .i64 0, .int .i64 5, .int .i64 0, .int .i64 0, .int .i64 1, .int .i64 0, .int .i64 0, .int .i64 0] 30)).alloc (.cells #[.int .i64 0, .int .i64 1073741824, .int .i64 0, .int .i64 0] 30)).alloc (.cells #[.int .i64 0, .int .i64 1073741825, .int .i64 0, .int .i64 0] 30)).alloc (.cells #[.int .i64 0, .int .i64 0, .int .i64 0, .int .i64 1073741825] 30)).alloc (.cells #[.int .i64 100001, .int .i64 0, .int .i64 0, .int .i64 0] 30)).alloc (.cells #[.int .i64 0, .int .i64 0, .int .i64 5, .int .i64 0, .int .i64 0, .int .i64 1, .int .i64 2, .int .i64 0] 30)).alloc (.cells #[.slice (some ⟨w.heap.size, 0, none⟩) 0 0, .slice (some ⟨w.heap.size + 1, 0, none⟩) 1 1, .slice (some ⟨w.heap.size + 1 + 1, 0, none⟩) 1 1, .slice (some ⟨w.heap.size + 1 + 1 + 1, 0, none⟩) 1 1, .slice (some ⟨w.heap.size + 1 + 1 + 1 + 1, 0, none⟩) 1 1, .slice (some ⟨w.heap.size + 1 + 1 + 1 + 1 + 1, 0, none⟩) 1 1, .slice (some ⟨w.heap.size + 1 + 1 + 1 + 1 + 1 + 1, 0, none⟩) 2 2, .slice (some ⟨w.heap.size + 1 + 1 + 1 + 1 + 1 + 1 + 1, 0, none⟩) 2 2, .slice (some ⟨w.heap.size + 1 + 1 + 1 + 1 + 1 + 1 + 1 + 1, 0, none⟩) 2 2, .slice (some ⟨w.heap.size + 1 + 1 + 1 + 1 + 1 + 1 + 1 + 1 + 1, 0, none⟩) 2 2, .slice (some ⟨w.heap.size + 1 + 1 + 1 + 1 + 1 + 1 + 1 + 1 + 1 + 1, 0, none⟩) 2 2, .slice (some ⟨w.heap.size + 1 + 1 + 1 + 1 + 1 + 1 + 1 + 1 + 1 + 1 + 1, 0, none⟩) 1 1, .slice (some ⟨w.heap.size + 1 + 1 + 1 + 1 + 1 + 1 + 1 + 1 + 1 + 1 + 1 + 1, 0, none⟩) 1 1, .slice (some ⟨w.heap.size + 1 + 1 + 1 + 1 + 1 + 1 + 1 + 1 + 1 + 1 + 1 + 1 + 1, 0, none⟩) 1 1, .slice (some ⟨w.heap.size + 1 + 1 + 1 + 1 + 1 + 1 + 1 + 1 + 1 + 1 + 1 + 1 + 1 + 1, 0, none⟩) 1 1, .slice (some ⟨w.heap.size + 1 + 1 + 1 + 1 + 1 + 1 + 1 + 1 + 1 + 1 + 1 + 1 + 1 + 1 + 1, 0, none⟩) 2 2] 22)).alloc (.cells #[.bool true, .bool true, .bool false, .bool false, .bool false, .bool false, .bool false, .bool true, .bool false, .bool false, .bool true, .bool true, .bool false, .bool false, .bool false, .bool true] 4)) := rfl
set_option maxRecDepth 100000 in
set_option maxHeartbeats 16000000 in
theorem swrong_walk (a0 : Int) (w0 : (Lit.int .i64 a0).wf = true) (w : World) (hT : Tabs w) :
    Calls Tryd.prog 4 #[.int .i64 a0] w fun e w' => e = .returned (.bool true) ∧ Below w.heap.size w w' := by
  have al := Lib.hid (salive_any w hT)
  have HT := Lib.hid hT
  by_cases ho : a0 < 0 ∨ 16 ≤ a0
  · rcases ho with ho | ho
    all_goals
      clear hT
      go_enter Tryd.func4, Tryd.ntmps4
      go_wp2_with fail
      refine al.out.mono ?_
      rintro e w1 ⟨rfl, hb⟩
      have hz := hb.size
      have hfin := hb.trans ((sWW_below w1).mono hz)
      go_wp2
      go_ret
      exact ⟨rfl, hfin⟩
  · obtain ⟨k, rfl⟩ : ∃ k : Nat, a0 = k := ⟨a0.toNat, by omega⟩
    have hk : k < 16 := by omega
    obtain ⟨hl, hok⟩ := sL_len k hk
    have hc2 := fun w1 => sWW_cell w1 k hk
    have hc3 := fun w1 => sWW_bool w1 k hk
    have hss := fun w1 => sWW_ss w1 k hk
    unfold slV at hc2 hss
    generalize SL k = L at *
    generalize okB k = ok at *
    obtain ⟨N, hN⟩ : ∃ N, L.length = N := ⟨_, rfl⟩
    obtain ⟨R, hR⟩ : ∃ R, M.maps L = R := ⟨_, rfl⟩
    have MP := Lib.hid (fun v W hv => smaps_any v L R W hv (by omega) hR)
    have MW := Lib.hid (fun v W hT hv => swrite_any (.mk #[110]) [110] v L R W hT rfl (by simp) hv (by omega) hR)
    rw [hR] at hok
    rw [hN] at hc2 hss hl
    have HC2 := Lib.hid hc2
    have HC3 := Lib.hid hc3
    have HSS := Lib.hid hss
    have hk0 : decide ((16 : Int) ≤ k) = false := by simp; omega
    have hk1 : (k : Int) < 16 := by omega
    have k1 : ((k : Int)).toNat = k := Int.toNat_natCast k
    unfold MpP mres at MP
    clear hT hc2 hc3 hss w0 ho hR hN
    go_enter Tryd.func4, Tryd.ntmps4
    go_wp2_with fail
    refine al.out.mono ?_
    rintro e w1 ⟨rfl, hb⟩
    have hz := hb.size
    obtain ⟨W0, hW0⟩ : ∃ W0, ((((((((((((((((((w1.alloc (.cells #[] 30)).alloc (.cells #[.int .i64 0, .int .i64 0, .int .i64 0, .int .i64 0] 30)).alloc (.cells #[.int .i64 (-1), .int .i64 0, .int .i64 0, .int .i64 0] 30)).alloc (.cells #[.int .i64 0, .int .i64 (-1), .int .i64 0, .int .i64 0] 30)).alloc (.cells #[.int .i64 0, .int .i64 0, .int .i64 (-1), .int .i64 0] 30)).alloc (.cells #[.int .i64 0, .int .i64 0, .int .i64 0, .int .i64 (-1)] 30)).alloc (.cells #[.int .i64 0, .int .i64 1, .int .i64 0, .int .i64 0, .int .i64 0, .int .i64 1, .int .i64 0, .int .i64 0] 30)).alloc (.cells #[.int .i64 0, .int .i64 1, .int .i64 0, .int .i64 0, .int .i64 0, .int .i64 2, .int .i64 0, .int .i64 0] 30)).alloc (.cells #[.int .i64 0, .int .i64 2, .int .i64 0, .int .i64 0, .int .i64 0, .int .i64 1, .int .i64 0, .int .i64 0] 30)).alloc (.cells #[.int .i64 1, .int .i64 0, .int .i64 0, .int .i64 0, .int .i64 0, .int .i64 5, .int .i64 0, .int .i64 0] 30)).alloc (.cells #[.int .i64 0, .int .i64 5, .int .i64 0, .int .i64 0, .int .i64 1, .int .i64 0, .int .i64 0, .int .i64 0] 30)).alloc (.cells #[.int .i64 0, .int .i64 1073741824, .int .i64 0, .int .i64 0] 30)).alloc (.cells #[.int .i64 0, .int .i64 1073741825, .int .i64 0, .int .i64 0] 30)).alloc (.cells #[.int .i64 0, .int .i64 0, .int .i64 0, .int .i64 1073741825] 30)).alloc (.cells #[.int .i64 100001, .int .i64 0, .int .i64 0, .int .i64 0] 30)).alloc (.cells #[.int .i64 0, .int .i64 0, .int .i64 5, .int .i64 0, .int .i64 0, .int .i64 1, .int .i64 2, .int .i64 0] 30)).alloc (.cells #[.slice (some ⟨w1.heap.size, 0, none⟩) 0 0, .slice (some ⟨w1.heap.size + 1, 0, none⟩) 1 1, .slice (some ⟨w1.heap.size + 1 + 1, 0, none⟩) 1 1, .slice (some ⟨w1.heap.size + 1 + 1 + 1, 0, none⟩) 1 1, .slice (some ⟨w1.heap.size + 1 + 1 + 1 + 1, 0, none⟩) 1 1, .slice (some ⟨w1.heap.size + 1 + 1 + 1 + 1 + 1, 0, none⟩) 1 1, .slice (some ⟨w1.heap.size + 1 + 1 + 1 + 1 + 1 + 1, 0, none⟩) 2 2, .slice (some ⟨w1.heap.size + 1 + 1 + 1 + 1 + 1 + 1 + 1, 0, none⟩) 2 2, .slice (some ⟨w1.heap.size + 1 + 1 + 1 + 1 + 1 + 1 + 1 + 1, 0, none⟩) 2 2, .slice (some ⟨w1.heap.size + 1 + 1 + 1 + 1 + 1 + 1 + 1 + 1 + 1, 0, none⟩) 2 2, .slice (some ⟨w1.heap.size + 1 + 1 + 1 + 1 + 1 + 1 + 1 + 1 + 1 + 1, 0, none⟩) 2 2, .slice (some ⟨w1.heap.size + 1 + 1 + 1 + 1 + 1 + 1 + 1 + 1 + 1 + 1 + 1, 0, none⟩) 1 1, .slice (some ⟨w1.heap.size + 1 + 1 + 1 + 1 + 1 + 1 + 1 + 1 + 1 + 1 + 1 + 1, 0, none⟩) 1 1, .slice (some ⟨w1.heap.size + 1 + 1 + 1 + 1 + 1 + 1 + 1 + 1 + 1 + 1 + 1 + 1 + 1, 0, none⟩) 1 1, .slice (some ⟨w1.heap.size + 1 + 1 + 1 + 1 + 1 + 1 + 1 + 1 + 1 + 1 + 1 + 1 + 1 + 1, 0, none⟩) 1 1, .slice (some ⟨w1.heap.size + 1 + 1 + 1 + 1 + 1 + 1 + 1 + 1 + 1 + 1 + 1 + 1 + 1 + 1 + 1, 0, none⟩) 2 2] 22)).alloc (.cells #[.bool true, .bool true, .bool false, .bool false, .bool false, .bool false, .bool false, .bool true, .bool false, .bool false, .bool true, .bool true, .bool false, .bool false, .bool false, .bool true] 4)) = W0 := ⟨_, rfl⟩
    have hWW : sWW w1 = W0 := (sWW_chain w1).trans hW0
    have hb0 := hb.trans ((sWW_below w1).mono hz)
    have d1 := HC2.out w1
    have d2 := HC3.out w1
    have ss := HSS.out w1
    have sz := sWW_size w1
    rw [hWW] at hb0 d1 d2 ss sz
    have D1 := Lib.hid d1
    have D2 := Lib.hid d2
    have HB0 := Lib.hid hb0
    have HS0 := Lib.hid ss
    have HW0 := Lib.hid hW0
    have SZ := Lib.hid sz
    clear hb hWW hW0 hb0 d1 d2 ss sz
    go_upto_region 6 with (fail)
    rw [HW0.out]
    cases R with
    | none =>
      have hok2 : ok = false := by rw [← hok]; rfl
      subst hok2
      simp only [Option.isSome_none, Option.getD_none] at MP
      dsimp only [wres] at MW
      clear hok
      as_aux_lemma =>
        have c1 : W0.cell? ⟨w1.heap.size + 1 + 1 + 1 + 1 + 1 + 1 + 1 + 1 + 1 + 1 + 1 + 1 + 1 + 1 + 1 + 1, k, none⟩ = some (.slice (some ⟨w1.heap.size + k, 0, none⟩) N N) := D1.out
        go_wp2_with fail
        clear c1
        refine (MP.out _ W0 HS0.out).mono ?_
        rintro e w2 ⟨rfl, hb2⟩
        have e1 : w2.cell? ⟨w1.heap.size + 1 + 1 + 1 + 1 + 1 + 1 + 1 + 1 + 1 + 1 + 1 + 1 + 1 + 1 + 1 + 1, k, none⟩ = some (.slice (some ⟨w1.heap.size + k, 0, none⟩) N N) := (hb2.cell (p := ⟨w1.heap.size + 16, k, none⟩) (by show w1.heap.size + 16 < _; rw [SZ.out]; omega)).trans D1.out
        have d3 := (hb2.cell (p := ⟨w1.heap.size + 17, k, none⟩) (by show w1.heap.size + 17 < _; rw [SZ.out]; omega)).trans D2.out
        have hb3 := HB0.out.trans (hb2.mono HB0.out.size)
        have ss2 := HS0.out.keep hb2
        have s2 := hb2.size
        have l16 : w1.heap.size + 1 + 1 + 1 + 1 + 1 + 1 + 1 + 1 + 1 + 1 + 1 + 1 + 1 + 1 + 1 + 1 < w2.heap.size := by have := SZ.out; omega
        have D3 := Lib.hid d3
        have HB3 := Lib.hid hb3
        have SS2 := Lib.hid ss2
        have S2 := Lib.hid s2
        clear hb2 d3 hb3 ss2 s2
        go_wp2_with fail
        refine (MW.out _ w2 (HT.out.keep HB3.out) SS2.out).mono ?_
        rintro e w3 ⟨rfl, hb4⟩
        have e3 : w3.cell? ⟨w1.heap.size + 1 + 1 + 1 + 1 + 1 + 1 + 1 + 1 + 1 + 1 + 1 + 1 + 1 + 1 + 1 + 1 + 1, k, none⟩ = some (.bool _) := (hb4.cell (p := ⟨w1.heap.size + 17, k, none⟩) (by show w1.heap.size + 17 < _; have := SZ.out; have := S2.out; omega)).trans D3.out
        have l17 : w1.heap.size + 1 + 1 + 1 + 1 + 1 + 1 + 1 + 1 + 1 + 1 + 1 + 1 + 1 + 1 + 1 + 1 + 1 < w3.heap.size := by have := SZ.out; have := S2.out; have := hb4.size; omega
        have hfin := HB3.out.trans (hb4.mono HB3.out.size)
        clear hb4 e1 l16
        go_wp2
        go_ret
        exact ⟨rfl, hfin⟩
    | some m =>
      have hok2 : ok = true := by rw [← hok]; rfl
      subst hok2
      simp only [Option.isSome_some, Option.getD_some] at MP
      dsimp only [wres] at MW
      obtain ⟨mb, hmb⟩ : ∃ T, bytes m = T := ⟨_, rfl⟩
      rw [hmb] at MP
      obtain ⟨X, hX⟩ : ∃ T, wtx (bytes (M.spell (unitsL [110]))) (bytes m) = T := ⟨_, rfl⟩
      rw [hX] at MW
      clear hok hX hmb
      as_aux_lemma =>
        have c1 : W0.cell? ⟨w1.heap.size + 1 + 1 + 1 + 1 + 1 + 1 + 1 + 1 + 1 + 1 + 1 + 1 + 1 + 1 + 1 + 1, k, none⟩ = some (.slice (some ⟨w1.heap.size + k, 0, none⟩) N N) := D1.out
        go_wp2_with fail
        clear c1
        refine (MP.out _ W0 HS0.out).mono ?_
        rintro e w2 ⟨rfl, hb2⟩
        have e1 : w2.cell? ⟨w1.heap.size + 1 + 1 + 1 + 1 + 1 + 1 + 1 + 1 + 1 + 1 + 1 + 1 + 1 + 1 + 1 + 1, k, none⟩ = some (.slice (some ⟨w1.heap.size + k, 0, none⟩) N N) := (hb2.cell (p := ⟨w1.heap.size + 16, k, none⟩) (by show w1.heap.size + 16 < _; rw [SZ.out]; omega)).trans D1.out
        have d3 := (hb2.cell (p := ⟨w1.heap.size + 17, k, none⟩) (by show w1.heap.size + 17 < _; rw [SZ.out]; omega)).trans D2.out
        have hb3 := HB0.out.trans (hb2.mono HB0.out.size)
        have ss2 := HS0.out.keep hb2
        have s2 := hb2.size
        have l16 : w1.heap.size + 1 + 1 + 1 + 1 + 1 + 1 + 1 + 1 + 1 + 1 + 1 + 1 + 1 + 1 + 1 + 1 < w2.heap.size := by have := SZ.out; omega
        have D3 := Lib.hid d3
        have HB3 := Lib.hid hb3
        have SS2 := Lib.hid ss2
        have S2 := Lib.hid s2
        clear hb2 d3 hb3 ss2 s2
        go_wp2_with fail
        refine (MW.out _ w2 (HT.out.keep HB3.out) SS2.out).mono ?_
        rintro e w3 ⟨rfl, hb4⟩
        have e3 : w3.cell? ⟨w1.heap.size + 1 + 1 + 1 + 1 + 1 + 1 + 1 + 1 + 1 + 1 + 1 + 1 + 1 + 1 + 1 + 1 + 1, k, none⟩ = some (.bool _) := (hb4.cell (p := ⟨w1.heap.size + 17, k, none⟩) (by show w1.heap.size + 17 < _; have := SZ.out; have := S2.out; omega)).trans D3.out
        have l17 : w1.heap.size + 1 + 1 + 1 + 1 + 1 + 1 + 1 + 1 + 1 + 1 + 1 + 1 + 1 + 1 + 1 + 1 + 1 < w3.heap.size := by have := SZ.out; have := S2.out; have := hb4.size; omega
        have hfin := HB3.out.trans (hb4.mono HB3.out.size)
        clear hb4 e1 l16
        go_wp2
        go_ret
        exact ⟨rfl, hfin⟩
end Go.Proofs.YtejpgopbgepaoaaDoor
