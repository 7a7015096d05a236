/- Colours: how one is spelled. -/
import Derived.Test.YtilndlifmpbfnaaDoorCoNof
import Derived.StillTailTactics
import Derived.Laws.BitsLemmas
import Derived.WalkSmall
namespace Go.Proofs.YtilndlifmpbfnaaDoor
open Go.RowKit
set_option linter.unusedVariables false
set_option linter.unusedSimpArgs false

theorem and15C (n : Int) (h0 : 0 ≤ n) (h1 : n ≤ 255) : bits .and .i64 n 15 = n % 16 := bits_mask .i64 62 (by decide) (fun n h₀ h₁ => by rw [IntKind.wrap_i64]; omega) 4 (by decide) n h0 (by omega)
theorem hexAtC : ∀ d : Fin 16, (ByteArray.mk #[48, 49, 50, 51, 52, 53, 54, 55, 56, 57, 97, 98, 99, 100, 101, 102])[d.val]'(by have := d.isLt; simp [ByteArray.size]) = M.hxd (d.val : Int) := by decide +kernel
theorem hexAtC' (d : Int) (h0 : 0 ≤ d) (h : d < 16) (x : Nat) (hx : (x : Int) = d) (h' : x < (ByteArray.mk #[48, 49, 50, 51, 52, 53, 54, 55, 56, 57, 97, 98, 99, 100, 101, 102]).size) :
    Value.int .u8 (((ByteArray.mk #[48, 49, 50, 51, 52, 53, 54, 55, 56, 57, 97, 98, 99, 100, 101, 102])[x]'h').toNat : Int) = .int .u8 ((M.hxd d).toNat : Int) := by
  subst hx; rw [hexAtC ⟨x, by omega⟩]
theorem ownS_new (B : Nat) (w : World) (l : List (List UInt8)) (cs : Array Value) (n k : Nat) (hk : w.heap.size = k) (hB : B ≤ k) (h : (srowC l).flatten = cs.toList) (hn : l.length = n) (hl : l.length ≤ 1000) : OwnSC B (w.alloc (.cells cs 9)) (.slice (some ⟨k, 0, none⟩) n n) l := by
  subst hn hk
  have hlen := flat_len (srowC l) (srowC_one l)
  have hlen2 : cs.size = l.length := by
    rw [h, srowC_len] at hlen
    simpa using hlen
  rw [srowC_len] at hlen
  refine ⟨⟨by rw [flat_len _ (srowC_one l)], .inr ⟨w.heap.size, l.length, cs, by rw [srowC_len], hB, heap_alloc_new w _, by rw [srowC_len]; exact Nat.le_refl _, by unfold maxLen; omega, by omega, ?_⟩⟩, srowC_one l, srowC_cell l⟩
  rw [srowC_len, h, List.take_of_length_le (by simp; omega)]
/-- The string of two bytes that were just put down. -/
theorem conv2 (w : World) (a b : UInt8) : (convert 30 9 (.slice (some ⟨w.heap.size, 0, none⟩) 2 2)).run Tryd.prog (w.alloc (.cells #[.int .u8 (a.toNat : Int), .int .u8 (b.toNat : Int)] 5)) = .ok (.string ⟨#[a, b]⟩) (w.alloc (.cells #[.int .u8 (a.toNat : Int), .int .u8 (b.toNat : Int)] 5)) :=
  conv_bsF (bs_cells_new w [a, b] [.int .u8 (a.toNat : Int), .int .u8 (b.toNat : Int)] 2 rfl rfl (by simp))
theorem take_one (L : List Int) (i : Nat) (hi : i < L.length) : L.take (i + 1) = L.take i ++ [L[i]] := by rw [List.take_add_one, List.getElem?_eq_getElem hi]; rfl
theorem short_step (L : List Int) (i : Nat) (hi : i < L.length) : M.shortL (L.take i) ++ [M.hxd (L[i] / 16)] = M.shortL (L.take (i + 1)) := by
  rw [take_one L i hi]
  unfold M.shortL M.hi
  rw [List.map_append]
  rfl
theorem long_step (L : List Int) (i : Nat) (hi : i < L.length) : M.longL (L.take i) ++ [M.hxd (L[i] / 16), M.hxd (L[i] % 16)] = M.longL (L.take (i + 1)) := by
  rw [take_one L i hi]
  unfold M.longL M.hi M.lo
  rw [List.flatMap_append]
  rfl
theorem even_step (L : List Int) (i : Nat) (hi : i < L.length) : (M.evenL (L.take i) && decide (L[i] / 16 = L[i] % 16)) = M.evenL (L.take (i + 1)) := by
  rw [take_one L i hi]
  unfold M.evenL M.hi M.lo
  rw [List.all_append]
  simp
theorem long_len (l : List Int) : (M.longL l).length = 1 + 2 * l.length := by
  unfold M.longL
  rw [List.length_cons]
  have : (l.flatMap fun n => [M.hxd (M.hi n), M.hxd (M.lo n)]).length = 2 * l.length := by
    induction l with
    | nil => rfl
    | cons a t ih => rw [List.flatMap_cons, List.length_append, ih, List.length_cons]; simp; omega
  omega
theorem bytes_addC (k l : List UInt8) : bytes (k ++ l) = bytes k ++ bytes l := by apply ByteArray.ext; simp [bytes]
theorem hxd_inj (a b : Int) (h0 : 0 ≤ a) (h1 : a < 16) (h2 : 0 ≤ b) (h3 : b < 16) : (M.hxd a = M.hxd b) ↔ a = b := by
  have : ∀ a b : Fin 16, M.hxd (a.val : Int) = M.hxd (b.val : Int) → a = b := by decide +kernel
  constructor
  · intro h
    have := this ⟨a.toNat, by omega⟩ ⟨b.toNat, by omega⟩ (by
      show M.hxd ((a.toNat : Nat) : Int) = M.hxd ((b.toNat : Nat) : Int)
      rw [Int.toNat_of_nonneg h0, Int.toNat_of_nonneg h2]; exact h)
    simp only [Fin.mk.injEq] at this
    omega
  · rintro rfl; rfl
set_option maxRecDepth 100000 in
set_option maxHeartbeats 8000000 in
theorem spell_any (c : M.C4) (w : World) : Calls Tryd.prog 5 #[arrV c] w fun e w' => ∃ v, e = .returned v ∧ SsC w' v (M.spellC c) ∧ Below w.heap.size w w' := by
  have hnl : (M.namesC c).length ≤ 1000 := by rw [← nof_end]; exact nof_len c 38
  have no := namesof_any c
  have a0 := AB.new w c
  have b0 := (Below.refl w.heap.size w).alloc (Nat.le_refl _) (.cells (arrC c) 22)
  have z0 : w.heap.size + 1 ≤ (w.alloc (.cells (arrC c) 22)).heap.size := by simp
  obtain ⟨R, hR⟩ : ∃ x, M.spellC c = x := ⟨_, rfl⟩
  rw [hR]
  unfold M.spellC at hR
  obtain ⟨NM, hNM⟩ : ∃ x, M.namesC c = x := ⟨_, rfl⟩
  rw [hNM] at hR no hnl
  obtain ⟨W0, hW0⟩ : ∃ x, w.alloc (.cells (arrC c) 22) = x := ⟨_, rfl⟩
  rw [hW0] at a0 b0 z0
  obtain ⟨d1, d2, d3, d4⟩ := c
  have EXP := Lib.hid (show arrC (d1, d2, d3, d4) = #[.int .i64 d1, .int .i64 d2, .int .i64 d3, .int .i64 d4] from rfl)
  rw [EXP.out] at hW0
  unfold arrV at no ⊢
  rw [EXP.out] at no ⊢
  have NO := Lib.hid no
  clear no
  have g0 : W0.cell? ⟨w.heap.size, 0, none⟩ = some (.int .i64 d1) := cell_of_row _ _ 0 _ _ _ a0
  have g1 : W0.cell? ⟨w.heap.size, 1, none⟩ = some (.int .i64 d2) := cell_of_row _ _ 1 _ _ _ a0
  have g2 : W0.cell? ⟨w.heap.size, 2, none⟩ = some (.int .i64 d3) := cell_of_row _ _ 2 _ _ _ a0
  have g3 : W0.cell? ⟨w.heap.size, 3, none⟩ = some (.int .i64 d4) := cell_of_row _ _ 3 _ _ _ a0
  by_cases h255 : d4 = 255
  · have hL : M.numsC (d1, d2, d3, d4) = [d1, d2, d3] := by unfold M.numsC; rw [if_pos h255]
    rw [hL] at hR
    obtain ⟨L, hLL⟩ : ∃ x, [d1, d2, d3] = x := ⟨_, rfl⟩
    have hcl : ∀ i (hi : i < L.length), W0.cell? ⟨w.heap.size, i, none⟩ = some (.int .i64 L[i]) := by
      subst hLL
      intro i hi
      have : i = 0 ∨ i = 1 ∨ i = 2 := by simp at hi; omega
      rcases this with rfl | rfl | rfl <;> assumption
    have hln : L.length = 3 := by rw [← hLL]; rfl
    rw [hLL] at hR
    have HCL := Lib.hid hcl
    have A0 := Lib.hid a0
    have B0 := Lib.hid b0
    have HR := Lib.hid hR
    have HLN := Lib.hid hln
    subst h255
    have HW0 := Lib.hid hW0
    clear a0 b0 hR hL hLL hNM hcl hW0 hln
    go_enter Tryd.func5, Tryd.ntmps5
    go_upto_region 1 with (fail)
    rw [HW0.out]
    go_wp2
    go_loopw [4, 5, 6, 17] (fun sv lv bv iv wr => ∃ j : Nat, iv = .int .i64 (j : Int) ∧ j ≤ L.length ∧ (∀ i (hi : i < L.length), i < j → M.okN L[i] = true) ∧ sv = .string (bytes (M.shortL (L.take j))) ∧ lv = .string (bytes (M.longL (L.take j))) ∧ bv = .bool (M.evenL (L.take j)) ∧ Below (w.heap.size + 1) W0 wr) (fun _ _ _ iv _ => L.length - (intOf iv).toNat)
    case atStart => exact ⟨0, rfl, by omega, fun i _ hi => by omega, rfl, rfl, rfl, Below.refl _ _⟩
    case round =>
      obtain ⟨j, rfl, hj, hok, rfl, rfl, rfl, hb⟩ := hrel
      have hln := HLN.out
      have hz := hb.size
      by_cases hj2 : j < L.length
      · have cc : wr.cell? ⟨w.heap.size, j, none⟩ = some (.int .i64 L[j]) := (hb.cell (p := ⟨w.heap.size, j, none⟩) (by simp)).trans (HCL.out j hj2)
        have j1 : (j : Int) < 3 := by omega
        have t1 := short_step L j hj2
        have t2 := long_step L j hj2
        have t3 := even_step L j hj2
        have hnx : M.okN L[j] = true → ∀ i (hi : i < L.length), i < j + 1 → M.okN L[i] = true := by
          intro h i hi h2
          by_cases e : i < j
          · exact hok i hi e
          · obtain rfl : i = j := by omega
            exact h
        have hno : M.okN L[j] = false → R = [] := by
          intro h
          rw [← HR.out, if_neg]
          intro h2
          have := List.all_eq_true.1 h2 _ (List.getElem_mem hj2)
          rw [this] at h
          exact absurd h (by simp)
        obtain ⟨x, hx⟩ : ∃ x, L[j] = x := ⟨_, rfl⟩
        rw [hx] at cc t1 t2 t3 hnx hno
        obtain ⟨S1, hS1⟩ : ∃ x, bytes (M.shortL (L.take j)) = x := ⟨_, rfl⟩
        obtain ⟨S2, hS2⟩ : ∃ x, bytes (M.longL (L.take j)) = x := ⟨_, rfl⟩
        obtain ⟨ev, hev⟩ : ∃ x, M.evenL (L.take j) = x := ⟨_, rfl⟩
        rw [hev] at t3
        rw [hS1, hS2, hev]
        have HS1 := Lib.hid hS1
        have HS2 := Lib.hid hS2
        have T1 := Lib.hid t1
        have T2 := Lib.hid t2
        have T3 := Lib.hid t3
        have HN := Lib.hid hnx
        have HB := Lib.hid hb
        have HNO := Lib.hid hno
        clear hS1 hS2 hev t1 t2 t3 hnx hb hok hx hno hln
        by_cases x0 : x < 0
        · have hR := HNO.out (by unfold M.okN; simp; omega)
          subst hR
          clear HR
          go_wp2
          go_ret
          exact ⟨_, rfl, vs_nil _ _, B0.out.trans (HB.out.mono (by omega))⟩
        · by_cases x1 : 255 < x
          · have hR := HNO.out (by unfold M.okN; simp; omega)
            subst hR
            clear HR
            go_wp2
            go_ret
            exact ⟨_, rfl, vs_nil _ _, B0.out.trans (HB.out.mono (by omega))⟩
          · have hn := HN.out (by unfold M.okN; simp; omega)
            have HN2 := Lib.hid hn
            clear hn
            have x2 : 0 ≤ x := by omega
            have x3 : x ≤ 255 := by omega
            have e3 := and15C x x2 x3
            have b0 : 0 ≤ x / 16 := by omega
            have b1 : x / 16 < 16 := by omega
            have b2 : 0 ≤ x % 16 := by omega
            have b3 : x % 16 < 16 := by omega
            obtain ⟨W3, hW3⟩ : ∃ x, wr.drew = x := ⟨_, rfl⟩
            have hb3 : Below (w.heap.size + 1) W0 W3 := by rw [← hW3]; exact HB.out.drew
            have hz3 : wr.heap.size ≤ W3.heap.size := by rw [← hW3]; exact Nat.le_refl _
            have HB3 := Lib.hid hb3
            go_upto_region 11 with (fail)
            refine wp_region_still_tail 6 (by kernel_rfl) (by kernel_rfl) ?_
            simp only [List.take_succ_cons, List.take_zero, List.drop_succ_cons, List.drop_zero]
            repeat still_step
            refine wpStill_nil ?_
            change wpList _ _ _ _ _ wr.drew
            rw [hW3]
            rw [hexAtC' (x / 16) b0 b1 _ (by omega), hexAtC' (x % 16) b2 b3 _ (by omega)]
            have hab := hxd_inj (x / 16) (x % 16) b0 b1 b2 b3
            obtain ⟨a, ha⟩ : ∃ y, M.hxd (x / 16) = y := ⟨_, rfl⟩
            obtain ⟨b, hb⟩ : ∃ y, M.hxd (x % 16) = y := ⟨_, rfl⟩
            rw [ha, hb] at hab ⊢
            have t1 := T1.out
            have t2 := T2.out
            rw [ha] at t1 t2
            rw [hb] at t2
            have V1 := Lib.hid t1
            have V2 := Lib.hid t2
            have cv := conv2 W3 a b
            have HAB := Lib.hid hab
            have ex : (ByteArray.mk #[a, b]).extract 0 1 = ByteArray.mk #[a] := by apply ByteArray.ext; simp
            have ez1 : (ByteArray.mk #[a]).size = 1 := rfl
            have ez2 : (ByteArray.mk #[a, b]).size = 2 := rfl
            have s1 : S1.size ≤ 20 := by rw [← HS1.out, bytes_size]; unfold M.shortL; simp; omega
            have s2 : S2.size ≤ 20 := by rw [← HS2.out, bytes_size, long_len, List.length_take]; omega
            clear hW3 ha hb hab t1 t2 hb3 e3 T1 T2 g0 g1 g2
            go_upto_region 12 with (fail)
            clear cv
            cases ev with
            | false =>
              refine wp_region_noPanic ?_
              refine wp_region_held_drew (S := fun _ => True) (by kernel_rfl) trivial (fun hS => ?_)
              refine rtk 0 ?_
              refine rtk 1 ?_
              refine rts 2 ?_
              refine rts 3 ?_
              refine rts 4 ?_
              refine rts 5 ?_
              refine rts 6 ?_
              refine rtk 7 ?_
              refine rtk 8 ?_
              refine wpAnyH_done (by kernel_rfl) ?_ _
              refine NoPanic.normal ?_
              go_wp2
              go_roundw
              case rel => exact ⟨j + 1, by go_num, by omega, HN2.out, by rw [← V1.out, bytes_addC, HS1.out]; rfl, by rw [← V2.out, bytes_addC, HS2.out]; rfl, by rw [← T3.out]; rfl, (HB3.out.alloc (by omega) _).drew⟩
              case measure => simp [intOf]; omega
            | true =>
              refine wp_region_noPanic ?_
              refine wp_region_held_drew (S := fun _ => True) (by kernel_rfl) trivial (fun hS => ?_)
              refine rtk 0 ?_
              refine rtk 1 ?_
              refine rtk 2 ?_
              refine rtk (v := .int .u8 (a.toNat : Int)) 3 (hy := Or.inl ⟨by rfl, by intro V _; go_simp; rfl⟩) ?_
              refine rtk 4 ?_
              refine rtk (v := .int .u8 (b.toNat : Int)) 5 (hy := Or.inl ⟨by rfl, by intro V _; go_simp; rfl⟩) ?_
              by_cases hq : a = b
              · subst hq
                refine rtk (v := .bool true) 6 ?_
                refine rtk 7 ?_
                refine rtk 8 ?_
                refine wpAnyH_done (by kernel_rfl) ?_ _
                refine NoPanic.normal ?_
                go_wp2
                go_roundw
                case rel => exact ⟨j + 1, by go_num, by omega, HN2.out, by rw [← V1.out, bytes_addC, HS1.out]; rfl, by rw [← V2.out, bytes_addC, HS2.out]; rfl, by rw [← T3.out]; simp [HAB.out.1 rfl], ((HB3.out.alloc (by omega) _)).drew⟩
                case measure => simp [intOf]; omega
              · have nq : ((a.toNat : Int) == (b.toNat : Int)) = false := by
                  rw [beq_eq_false_iff_ne]
                  intro h
                  exact hq (UInt8.toNat_inj.1 (by omega))
                refine rtk (v := .bool false) 6 ?_
                refine rtk 7 ?_
                refine rtk 8 ?_
                refine wpAnyH_done (by kernel_rfl) ?_ _
                refine NoPanic.normal ?_
                have hne : ¬ (x / 16 = x % 16) := fun h => hq (HAB.out.2 h)
                have HNE := Lib.hid hne
                clear hne
                go_wp2
                go_roundw
                case rel => exact ⟨j + 1, by go_num, by omega, HN2.out, by rw [← V1.out, bytes_addC, HS1.out]; rfl, by rw [← V2.out, bytes_addC, HS2.out]; rfl, by rw [← T3.out]; simp [HNE.out], ((HB3.out.alloc (by omega) _)).drew⟩
                case measure => simp [intOf]; omega
      · obtain rfl : j = L.length := by omega
        have hall : L.all M.okN = true := by
          rw [List.all_eq_true]
          intro y hy
          obtain ⟨i, hi, rfl⟩ := List.getElem_of_mem hy
          exact hok i hi hi
        have hR := HR.out
        rw [if_pos hall] at hR
        rw [List.take_of_length_le (Nat.le_refl _)]
        have j1 : decide ((L.length : Int) < 3) = false := by rw [hln]; decide
        obtain ⟨S1, hS1⟩ : ∃ x, bytes (M.shortL L) = x := ⟨_, rfl⟩
        obtain ⟨S2, hS2⟩ : ∃ x, bytes (M.longL L) = x := ⟨_, rfl⟩
        obtain ⟨ev, hev⟩ : ∃ x, M.evenL L = x := ⟨_, rfl⟩
        rw [hev] at hR ⊢
        rw [hS1, hS2]
        have HS1 := Lib.hid hS1
        have HS2 := Lib.hid hS2
        have HB := Lib.hid hb
        clear hS1 hS2 hev hb hok hall HR
        cases ev with
        | true =>
          simp only [if_true] at hR
          have HR2 := Lib.hid hR
          clear hR hln
          have hbl := (Below.refl wr.heap.size wr).alloc (Nat.le_refl _) (.cells #[.string S1, .string S2] 9)
          have OW := Lib.hid (ownS_new (w.heap.size + 1) wr [M.shortL L, M.longL L] #[.string S1, .string S2] 2 _ rfl (by omega) (by simp [srowC, HS1.out, HS2.out]) rfl (by simp))
          have hb2 := HB.out.trans (hbl.mono (by omega))
          have hsz : (wr.alloc (.cells #[.string S1, .string S2] 9)).heap.size = wr.heap.size + 1 := by simp
          have HSZ := Lib.hid hsz
          have k0 := (hb2.cell (p := ⟨w.heap.size, 0, none⟩) (by simp)).trans g0
          have k1 := (hb2.cell (p := ⟨w.heap.size, 1, none⟩) (by simp)).trans g1
          have k2 := (hb2.cell (p := ⟨w.heap.size, 2, none⟩) (by simp)).trans g2
          have k3 := (hb2.cell (p := ⟨w.heap.size, 3, none⟩) (by simp)).trans g3
          have HB2 := Lib.hid hb2
          clear hbl hb2 hsz g0 g1 g2 g3
          go_wp2_with fail
          refine (NO.out _).mono ?_
          rintro e w5 ⟨v5, rfl, hs5, hn5, hb5⟩
          have hb6 := HB2.out.trans (hb5.mono (by have := HSZ.out; omega))
          have ow := Lib.hid (OwnSC.keep OW.out hb5)
          have S5 := Lib.hid hs5
          have N5 := Lib.hid hn5
          have B6 := Lib.hid hb6
          have hz6 := hb5.size
          have hsz2 := HSZ.out
          have hz7 : w.heap.size + 1 ≤ w5.heap.size := by omega
          clear hb5 hs5 hn5 hb6 k0 k1 k2 k3 hz6 hsz2
          go_wp2_with (at_builtin; refine wpl_appSC rfl _ _ rfl (w.heap.size + 1) (.slice (some ⟨wr.heap.size, 0, none⟩) 2 2) v5 [M.shortL L, M.longL L] R NM rfl ow.out rfl S5.out N5.out (by simp) hnl hz7 HR2.out ?_)
          intro v6 w6 ho6 hb7
          have hb8 := B6.out.trans hb7
          have H6 := Lib.hid ho6
          have H8 := Lib.hid hb8
          clear hb7 hb8 ho6
          go_wp2
          go_ret
          exact ⟨_, rfl, H6.out.ss, B0.out.trans (H8.out.mono (by omega))⟩
        | false =>
          simp only [Bool.false_eq_true, if_false] at hR
          have HR2 := Lib.hid hR
          clear hR hln
          have hbl := (Below.refl wr.heap.size wr).alloc (Nat.le_refl _) (.cells #[.string S2] 9)
          have OW := Lib.hid (ownS_new (w.heap.size + 1) wr [M.longL L] #[.string S2] 1 _ rfl (by omega) (by simp [srowC, HS1.out, HS2.out]) rfl (by simp))
          have hb2 := HB.out.trans (hbl.mono (by omega))
          have hsz : (wr.alloc (.cells #[.string S2] 9)).heap.size = wr.heap.size + 1 := by simp
          have HSZ := Lib.hid hsz
          have k0 := (hb2.cell (p := ⟨w.heap.size, 0, none⟩) (by simp)).trans g0
          have k1 := (hb2.cell (p := ⟨w.heap.size, 1, none⟩) (by simp)).trans g1
          have k2 := (hb2.cell (p := ⟨w.heap.size, 2, none⟩) (by simp)).trans g2
          have k3 := (hb2.cell (p := ⟨w.heap.size, 3, none⟩) (by simp)).trans g3
          have HB2 := Lib.hid hb2
          clear hbl hb2 hsz g0 g1 g2 g3
          go_wp2_with fail
          refine (NO.out _).mono ?_
          rintro e w5 ⟨v5, rfl, hs5, hn5, hb5⟩
          have hb6 := HB2.out.trans (hb5.mono (by have := HSZ.out; omega))
          have ow := Lib.hid (OwnSC.keep OW.out hb5)
          have S5 := Lib.hid hs5
          have N5 := Lib.hid hn5
          have B6 := Lib.hid hb6
          have hz6 := hb5.size
          have hsz2 := HSZ.out
          have hz7 : w.heap.size + 1 ≤ w5.heap.size := by omega
          clear hb5 hs5 hn5 hb6 k0 k1 k2 k3 hz6 hsz2
          go_wp2_with (at_builtin; refine wpl_appSC rfl _ _ rfl (w.heap.size + 1) (.slice (some ⟨wr.heap.size, 0, none⟩) 1 1) v5 [M.longL L] R NM rfl ow.out rfl S5.out N5.out (by simp) hnl hz7 HR2.out ?_)
          intro v6 w6 ho6 hb7
          have hb8 := B6.out.trans hb7
          have H6 := Lib.hid ho6
          have H8 := Lib.hid hb8
          clear hb7 hb8 ho6
          go_wp2
          go_ret
          exact ⟨_, rfl, H6.out.ss, B0.out.trans (H8.out.mono (by omega))⟩
  · have hL : M.numsC (d1, d2, d3, d4) = [d1, d2, d3, d4] := by unfold M.numsC; rw [if_neg h255]
    rw [hL] at hR
    obtain ⟨L, hLL⟩ : ∃ x, [d1, d2, d3, d4] = x := ⟨_, rfl⟩
    have hcl : ∀ i (hi : i < L.length), W0.cell? ⟨w.heap.size, i, none⟩ = some (.int .i64 L[i]) := by
      subst hLL
      intro i hi
      have : i = 0 ∨ i = 1 ∨ i = 2 ∨ i = 3 := by simp at hi; omega
      rcases this with rfl | rfl | rfl | rfl <;> assumption
    have hln : L.length = 4 := by rw [← hLL]; rfl
    rw [hLL] at hR
    have HCL := Lib.hid hcl
    have A0 := Lib.hid a0
    have B0 := Lib.hid b0
    have HR := Lib.hid hR
    have HLN := Lib.hid hln
    have n255 : (d4 == 255) = false := by simpa using h255
    clear h255
    have HW0 := Lib.hid hW0
    clear a0 b0 hR hL hLL hNM hcl hW0 hln
    go_enter Tryd.func5, Tryd.ntmps5
    go_upto_region 1 with (fail)
    rw [HW0.out]
    go_wp2
    go_loopw [4, 5, 6, 17] (fun sv lv bv iv wr => ∃ j : Nat, iv = .int .i64 (j : Int) ∧ j ≤ L.length ∧ (∀ i (hi : i < L.length), i < j → M.okN L[i] = true) ∧ sv = .string (bytes (M.shortL (L.take j))) ∧ lv = .string (bytes (M.longL (L.take j))) ∧ bv = .bool (M.evenL (L.take j)) ∧ Below (w.heap.size + 1) W0 wr) (fun _ _ _ iv _ => L.length - (intOf iv).toNat)
    case atStart => exact ⟨0, rfl, by omega, fun i _ hi => by omega, rfl, rfl, rfl, Below.refl _ _⟩
    case round =>
      obtain ⟨j, rfl, hj, hok, rfl, rfl, rfl, hb⟩ := hrel
      have hln := HLN.out
      have hz := hb.size
      by_cases hj2 : j < L.length
      · have cc : wr.cell? ⟨w.heap.size, j, none⟩ = some (.int .i64 L[j]) := (hb.cell (p := ⟨w.heap.size, j, none⟩) (by simp)).trans (HCL.out j hj2)
        have j1 : (j : Int) < 4 := by omega
        have t1 := short_step L j hj2
        have t2 := long_step L j hj2
        have t3 := even_step L j hj2
        have hnx : M.okN L[j] = true → ∀ i (hi : i < L.length), i < j + 1 → M.okN L[i] = true := by
          intro h i hi h2
          by_cases e : i < j
          · exact hok i hi e
          · obtain rfl : i = j := by omega
            exact h
        have hno : M.okN L[j] = false → R = [] := by
          intro h
          rw [← HR.out, if_neg]
          intro h2
          have := List.all_eq_true.1 h2 _ (List.getElem_mem hj2)
          rw [this] at h
          exact absurd h (by simp)
        obtain ⟨x, hx⟩ : ∃ x, L[j] = x := ⟨_, rfl⟩
        rw [hx] at cc t1 t2 t3 hnx hno
        obtain ⟨S1, hS1⟩ : ∃ x, bytes (M.shortL (L.take j)) = x := ⟨_, rfl⟩
        obtain ⟨S2, hS2⟩ : ∃ x, bytes (M.longL (L.take j)) = x := ⟨_, rfl⟩
        obtain ⟨ev, hev⟩ : ∃ x, M.evenL (L.take j) = x := ⟨_, rfl⟩
        rw [hev] at t3
        rw [hS1, hS2, hev]
        have HS1 := Lib.hid hS1
        have HS2 := Lib.hid hS2
        have T1 := Lib.hid t1
        have T2 := Lib.hid t2
        have T3 := Lib.hid t3
        have HN := Lib.hid hnx
        have HB := Lib.hid hb
        have HNO := Lib.hid hno
        clear hS1 hS2 hev t1 t2 t3 hnx hb hok hx hno hln
        by_cases x0 : x < 0
        · have hR := HNO.out (by unfold M.okN; simp; omega)
          subst hR
          clear HR
          go_wp2
          go_ret
          exact ⟨_, rfl, vs_nil _ _, B0.out.trans (HB.out.mono (by omega))⟩
        · by_cases x1 : 255 < x
          · have hR := HNO.out (by unfold M.okN; simp; omega)
            subst hR
            clear HR
            go_wp2
            go_ret
            exact ⟨_, rfl, vs_nil _ _, B0.out.trans (HB.out.mono (by omega))⟩
          · have hn := HN.out (by unfold M.okN; simp; omega)
            have HN2 := Lib.hid hn
            clear hn
            have x2 : 0 ≤ x := by omega
            have x3 : x ≤ 255 := by omega
            have e3 := and15C x x2 x3
            have b0 : 0 ≤ x / 16 := by omega
            have b1 : x / 16 < 16 := by omega
            have b2 : 0 ≤ x % 16 := by omega
            have b3 : x % 16 < 16 := by omega
            obtain ⟨W3, hW3⟩ : ∃ x, wr.drew = x := ⟨_, rfl⟩
            have hb3 : Below (w.heap.size + 1) W0 W3 := by rw [← hW3]; exact HB.out.drew
            have hz3 : wr.heap.size ≤ W3.heap.size := by rw [← hW3]; exact Nat.le_refl _
            have HB3 := Lib.hid hb3
            go_upto_region 11 with (fail)
            refine wp_region_still_tail 6 (by kernel_rfl) (by kernel_rfl) ?_
            simp only [List.take_succ_cons, List.take_zero, List.drop_succ_cons, List.drop_zero]
            repeat still_step
            refine wpStill_nil ?_
            change wpList _ _ _ _ _ wr.drew
            rw [hW3]
            rw [hexAtC' (x / 16) b0 b1 _ (by omega), hexAtC' (x % 16) b2 b3 _ (by omega)]
            have hab := hxd_inj (x / 16) (x % 16) b0 b1 b2 b3
            obtain ⟨a, ha⟩ : ∃ y, M.hxd (x / 16) = y := ⟨_, rfl⟩
            obtain ⟨b, hb⟩ : ∃ y, M.hxd (x % 16) = y := ⟨_, rfl⟩
            rw [ha, hb] at hab ⊢
            have t1 := T1.out
            have t2 := T2.out
            rw [ha] at t1 t2
            rw [hb] at t2
            have V1 := Lib.hid t1
            have V2 := Lib.hid t2
            have cv := conv2 W3 a b
            have HAB := Lib.hid hab
            have ex : (ByteArray.mk #[a, b]).extract 0 1 = ByteArray.mk #[a] := by apply ByteArray.ext; simp
            have ez1 : (ByteArray.mk #[a]).size = 1 := rfl
            have ez2 : (ByteArray.mk #[a, b]).size = 2 := rfl
            have s1 : S1.size ≤ 20 := by rw [← HS1.out, bytes_size]; unfold M.shortL; simp; omega
            have s2 : S2.size ≤ 20 := by rw [← HS2.out, bytes_size, long_len, List.length_take]; omega
            clear hW3 ha hb hab t1 t2 hb3 e3 T1 T2 g0 g1 g2
            go_upto_region 12 with (fail)
            clear cv
            cases ev with
            | false =>
              refine wp_region_noPanic ?_
              refine wp_region_held_drew (S := fun _ => True) (by kernel_rfl) trivial (fun hS => ?_)
              refine rtk 0 ?_
              refine rtk 1 ?_
              refine rts 2 ?_
              refine rts 3 ?_
              refine rts 4 ?_
              refine rts 5 ?_
              refine rts 6 ?_
              refine rtk 7 ?_
              refine rtk 8 ?_
              refine wpAnyH_done (by kernel_rfl) ?_ _
              refine NoPanic.normal ?_
              go_wp2
              go_roundw
              case rel => exact ⟨j + 1, by go_num, by omega, HN2.out, by rw [← V1.out, bytes_addC, HS1.out]; rfl, by rw [← V2.out, bytes_addC, HS2.out]; rfl, by rw [← T3.out]; rfl, (HB3.out.alloc (by omega) _).drew⟩
              case measure => simp [intOf]; omega
            | true =>
              refine wp_region_noPanic ?_
              refine wp_region_held_drew (S := fun _ => True) (by kernel_rfl) trivial (fun hS => ?_)
              refine rtk 0 ?_
              refine rtk 1 ?_
              refine rtk 2 ?_
              refine rtk (v := .int .u8 (a.toNat : Int)) 3 (hy := Or.inl ⟨by rfl, by intro V _; go_simp; rfl⟩) ?_
              refine rtk 4 ?_
              refine rtk (v := .int .u8 (b.toNat : Int)) 5 (hy := Or.inl ⟨by rfl, by intro V _; go_simp; rfl⟩) ?_
              by_cases hq : a = b
              · subst hq
                refine rtk (v := .bool true) 6 ?_
                refine rtk 7 ?_
                refine rtk 8 ?_
                refine wpAnyH_done (by kernel_rfl) ?_ _
                refine NoPanic.normal ?_
                go_wp2
                go_roundw
                case rel => exact ⟨j + 1, by go_num, by omega, HN2.out, by rw [← V1.out, bytes_addC, HS1.out]; rfl, by rw [← V2.out, bytes_addC, HS2.out]; rfl, by rw [← T3.out]; simp [HAB.out.1 rfl], ((HB3.out.alloc (by omega) _)).drew⟩
                case measure => simp [intOf]; omega
              · have nq : ((a.toNat : Int) == (b.toNat : Int)) = false := by
                  rw [beq_eq_false_iff_ne]
                  intro h
                  exact hq (UInt8.toNat_inj.1 (by omega))
                refine rtk (v := .bool false) 6 ?_
                refine rtk 7 ?_
                refine rtk 8 ?_
                refine wpAnyH_done (by kernel_rfl) ?_ _
                refine NoPanic.normal ?_
                have hne : ¬ (x / 16 = x % 16) := fun h => hq (HAB.out.2 h)
                have HNE := Lib.hid hne
                clear hne
                go_wp2
                go_roundw
                case rel => exact ⟨j + 1, by go_num, by omega, HN2.out, by rw [← V1.out, bytes_addC, HS1.out]; rfl, by rw [← V2.out, bytes_addC, HS2.out]; rfl, by rw [← T3.out]; simp [HNE.out], ((HB3.out.alloc (by omega) _)).drew⟩
                case measure => simp [intOf]; omega
      · obtain rfl : j = L.length := by omega
        have hall : L.all M.okN = true := by
          rw [List.all_eq_true]
          intro y hy
          obtain ⟨i, hi, rfl⟩ := List.getElem_of_mem hy
          exact hok i hi hi
        have hR := HR.out
        rw [if_pos hall] at hR
        rw [List.take_of_length_le (Nat.le_refl _)]
        have j1 : decide ((L.length : Int) < 4) = false := by rw [hln]; decide
        obtain ⟨S1, hS1⟩ : ∃ x, bytes (M.shortL L) = x := ⟨_, rfl⟩
        obtain ⟨S2, hS2⟩ : ∃ x, bytes (M.longL L) = x := ⟨_, rfl⟩
        obtain ⟨ev, hev⟩ : ∃ x, M.evenL L = x := ⟨_, rfl⟩
        rw [hev] at hR ⊢
        rw [hS1, hS2]
        have HS1 := Lib.hid hS1
        have HS2 := Lib.hid hS2
        have HB := Lib.hid hb
        clear hS1 hS2 hev hb hok hall HR
        cases ev with
        | true =>
          simp only [if_true] at hR
          have HR2 := Lib.hid hR
          clear hR hln
          have hbl := (Below.refl wr.heap.size wr).alloc (Nat.le_refl _) (.cells #[.string S1, .string S2] 9)
          have OW := Lib.hid (ownS_new (w.heap.size + 1) wr [M.shortL L, M.longL L] #[.string S1, .string S2] 2 _ rfl (by omega) (by simp [srowC, HS1.out, HS2.out]) rfl (by simp))
          have hb2 := HB.out.trans (hbl.mono (by omega))
          have hsz : (wr.alloc (.cells #[.string S1, .string S2] 9)).heap.size = wr.heap.size + 1 := by simp
          have HSZ := Lib.hid hsz
          have k0 := (hb2.cell (p := ⟨w.heap.size, 0, none⟩) (by simp)).trans g0
          have k1 := (hb2.cell (p := ⟨w.heap.size, 1, none⟩) (by simp)).trans g1
          have k2 := (hb2.cell (p := ⟨w.heap.size, 2, none⟩) (by simp)).trans g2
          have k3 := (hb2.cell (p := ⟨w.heap.size, 3, none⟩) (by simp)).trans g3
          have HB2 := Lib.hid hb2
          clear hbl hb2 hsz g0 g1 g2 g3
          go_wp2_with fail
          refine (NO.out _).mono ?_
          rintro e w5 ⟨v5, rfl, hs5, hn5, hb5⟩
          have hb6 := HB2.out.trans (hb5.mono (by have := HSZ.out; omega))
          have ow := Lib.hid (OwnSC.keep OW.out hb5)
          have S5 := Lib.hid hs5
          have N5 := Lib.hid hn5
          have B6 := Lib.hid hb6
          have hz6 := hb5.size
          have hsz2 := HSZ.out
          have hz7 : w.heap.size + 1 ≤ w5.heap.size := by omega
          clear hb5 hs5 hn5 hb6 k0 k1 k2 k3 hz6 hsz2
          go_wp2_with (at_builtin; refine wpl_appSC rfl _ _ rfl (w.heap.size + 1) (.slice (some ⟨wr.heap.size, 0, none⟩) 2 2) v5 [M.shortL L, M.longL L] R NM rfl ow.out rfl S5.out N5.out (by simp) hnl hz7 HR2.out ?_)
          intro v6 w6 ho6 hb7
          have hb8 := B6.out.trans hb7
          have H6 := Lib.hid ho6
          have H8 := Lib.hid hb8
          clear hb7 hb8 ho6
          go_wp2
          go_ret
          exact ⟨_, rfl, H6.out.ss, B0.out.trans (H8.out.mono (by omega))⟩
        | false =>
          simp only [Bool.false_eq_true, if_false] at hR
          have HR2 := Lib.hid hR
          clear hR hln
          have hbl := (Below.refl wr.heap.size wr).alloc (Nat.le_refl _) (.cells #[.string S2] 9)
          have OW := Lib.hid (ownS_new (w.heap.size + 1) wr [M.longL L] #[.string S2] 1 _ rfl (by omega) (by simp [srowC, HS1.out, HS2.out]) rfl (by simp))
          have hb2 := HB.out.trans (hbl.mono (by omega))
          have hsz : (wr.alloc (.cells #[.string S2] 9)).heap.size = wr.heap.size + 1 := by simp
          have HSZ := Lib.hid hsz
          have k0 := (hb2.cell (p := ⟨w.heap.size, 0, none⟩) (by simp)).trans g0
          have k1 := (hb2.cell (p := ⟨w.heap.size, 1, none⟩) (by simp)).trans g1
          have k2 := (hb2.cell (p := ⟨w.heap.size, 2, none⟩) (by simp)).trans g2
          have k3 := (hb2.cell (p := ⟨w.heap.size, 3, none⟩) (by simp)).trans g3
          have HB2 := Lib.hid hb2
          clear hbl hb2 hsz g0 g1 g2 g3
          go_wp2_with fail
          refine (NO.out _).mono ?_
          rintro e w5 ⟨v5, rfl, hs5, hn5, hb5⟩
          have hb6 := HB2.out.trans (hb5.mono (by have := HSZ.out; omega))
          have ow := Lib.hid (OwnSC.keep OW.out hb5)
          have S5 := Lib.hid hs5
          have N5 := Lib.hid hn5
          have B6 := Lib.hid hb6
          have hz6 := hb5.size
          have hsz2 := HSZ.out
          have hz7 : w.heap.size + 1 ≤ w5.heap.size := by omega
          clear hb5 hs5 hn5 hb6 k0 k1 k2 k3 hz6 hsz2
          go_wp2_with (at_builtin; refine wpl_appSC rfl _ _ rfl (w.heap.size + 1) (.slice (some ⟨wr.heap.size, 0, none⟩) 1 1) v5 [M.longL L] R NM rfl ow.out rfl S5.out N5.out (by simp) hnl hz7 HR2.out ?_)
          intro v6 w6 ho6 hb7
          have hb8 := B6.out.trans hb7
          have H6 := Lib.hid ho6
          have H8 := Lib.hid hb8
          clear hb7 hb8 ho6
          go_wp2
          go_ret
          exact ⟨_, rfl, H6.out.ss, B0.out.trans (H8.out.mono (by omega))⟩
end Go.Proofs.YtilndlifmpbfnaaDoor
