/- The walk of ColourNames. -/
import Derived.Test.YtajjdndnmokfkaaCoAl
namespace Go.Proofs.Ytajjdndnmokfkaa
open Go.RowKit
set_option linter.unusedVariables false
set_option linter.unusedSimpArgs false

/-- Great letters. -/
def upB (c : UInt8) : UInt8 := c - 32
def upAt (s : List UInt8) (j k : Nat) : UInt8 := if k < j then upB (s.getD k 0) else s.getD k 0
def nmAt (k : Nat) : List UInt8 := (M.ceT.getD k zE).1
/-- What ColourNames asks of each name, plain. -/
def nmOk (k : Nat) : Bool := decide (namesL[k]? = some (nmAt k)) && decide ((nmAt k).length ≤ 8) && ((nmAt k).all fun c => decide (97 ≤ c.toNat) && decide (c.toNat ≤ 122)) && decide (namedV (nmAt k) = (M.colE (M.ceT.getD k zE), true)) && decide (namedV ((nmAt k).map upB) = (M.colE (M.ceT.getD k zE), true)) && (M.spellC (M.colE (M.ceT.getD k zE))).contains (nmAt k)
theorem nm_facts (k : Nat) (hk : k < 38) : namesL[k]? = some (nmAt k) ∧ (nmAt k).length ≤ 8 ∧ (∀ c ∈ nmAt k, 97 ≤ c.toNat ∧ c.toNat ≤ 122) ∧ namedV (nmAt k) = (M.colE (M.ceT.getD k zE), true) ∧ namedV ((nmAt k).map upB) = (M.colE (M.ceT.getD k zE), true) ∧ nmAt k ∈ M.spellC (M.colE (M.ceT.getD k zE)) := by
  have : ∀ k, k < 38 → nmOk k = true := by decide +kernel
  have h := this k hk
  unfold nmOk at h
  simp only [Bool.and_eq_true, decide_eq_true_eq, List.all_eq_true, List.contains_iff_mem] at h
  obtain ⟨⟨⟨⟨⟨h1, h2⟩, h3⟩, h4⟩, h5⟩, h6⟩ := h
  exact ⟨h1, h2, h3, h4, h5, h6⟩
theorem nm_rise (k : Nat) (hk : k < 38) (h0 : 0 < k) : Go.Op.bytesLess (nmAt (k - 1)) (nmAt k) = true := by
  have : ∀ k, k < 38 → 0 < k → Go.Op.bytesLess (nmAt (k - 1)) (nmAt k) = true := by decide +kernel
  exact this k hk h0
theorem spell_len (c : M.C4) : (M.spellC c).length ≤ 1002 := by
  have h := nof_len c 38
  rw [nof_end] at h
  unfold M.spellC
  split
  · split <;> simp <;> omega
  · simp
theorem take_mem (s : List UInt8) (L : List (List UInt8)) (i : Nat) (hi : i < L.length) : decide (s ∈ L.take (i + 1)) = (decide (s ∈ L.take i) || decide (L[i] = s)) := by
  have h : (s ∈ L.take (i + 1)) ↔ (s ∈ L.take i ∨ L[i] = s) := by
    rw [show L.take (i + 1) = L.take i ++ [L[i]] from by rw [List.take_add_one, List.getElem?_eq_getElem hi]; rfl, List.mem_append, List.mem_singleton]
    exact ⟨fun h => h.imp id Eq.symm, fun h => h.imp id Eq.symm⟩
  rw [decide_eq_decide.2 h, Bool.decide_or]
set_option maxRecDepth 100000 in
set_option maxHeartbeats 4000000 in
theorem cnames_walk (a0 : Int) (w0 : (Lit.int .i64 a0).wf = true) (w : World) :
    Calls Try.prog 3 #[.int .i64 a0] w fun e w' => e = .returned (.bool true) ∧ Below w.heap.size w w' := by
  have AL := Lib.hid alive19_any
  have NM := Lib.hid cnames_any
  have nl : namesL.length = 38 := by decide +kernel
  by_cases ho : a0 < 0
  · go_enter Try.func3, Try.ntmps3
    go_wp2_with fail
    refine (AL.out _).mono ?_
    rintro e w1 ⟨rfl, hb1⟩
    go_wp2_with fail
    refine (NM.out _).mono ?_
    rintro e w2 ⟨v2, rfl, hs2, hb2⟩
    obtain ⟨b, off, cap, rfl, hbl, hc1, hc2, hc⟩ := s_cells hs2 (by omega)
    rw [nl] at hc1 ⊢
    have HB := Lib.hid (hb1.trans (hb2.mono hb1.size))
    clear hb1 hb2 hs2 hc
    go_wp2
    go_ret
    exact ⟨rfl, HB.out⟩
  · by_cases ho2 : 38 ≤ a0
    · go_enter Try.func3, Try.ntmps3
      go_wp2_with fail
      refine (AL.out _).mono ?_
      rintro e w1 ⟨rfl, hb1⟩
      go_wp2_with fail
      refine (NM.out _).mono ?_
      rintro e w2 ⟨v2, rfl, hs2, hb2⟩
      obtain ⟨b, off, cap, rfl, hbl, hc1, hc2, hc⟩ := s_cells hs2 (by omega)
      rw [nl] at hc1 ⊢
      have HB := Lib.hid (hb1.trans (hb2.mono hb1.size))
      clear hb1 hb2 hs2 hc
      go_wp2
      go_ret
      exact ⟨rfl, HB.out⟩
    · obtain ⟨k, rfl⟩ : ∃ k : Nat, a0 = k := ⟨a0.toNat, by omega⟩
      have hk : k < 38 := by omega
      obtain ⟨f1, f2, f3, f4, f5, f6⟩ := nm_facts k hk
      have F1 := Lib.hid f1
      have F3 := Lib.hid f3
      have F4 := Lib.hid f4
      have F5 := Lib.hid f5
      have F6 := Lib.hid f6
      have k1 : (k : Int) < 38 := by omega
      have k2 : ((k : Int)).toNat = k := Int.toNat_natCast k
      clear f1 f3 f4 f5 f6 ho ho2 w0
      obtain ⟨s, hs⟩ : ∃ s, nmAt k = s := ⟨_, rfl⟩
      rw [hs] at F1 F3 F4 F5 F6 f2
      have SK := Lib.hid hs
      clear hs
      go_enter Try.func3, Try.ntmps3
      go_wp2_with fail
      refine (AL.out _).mono ?_
      rintro e w1 ⟨rfl, hb1⟩
      go_wp2_with fail
      refine (NM.out _).mono ?_
      rintro e w2 ⟨v2, rfl, hs2, hb2⟩
      obtain ⟨b, off, cap, rfl, hbl, hc1, hc2, hc⟩ := s_cells hs2 (by omega)
      rw [nl] at hc1 ⊢
      have c0 : w2.cell? ⟨b, off + k, none⟩ = some (.string (bytes s)) := by
        have := hc k (by omega)
        exact this.trans (congrArg (fun x => some (Value.string (bytes x))) (Option.some.inj ((List.getElem?_eq_getElem (by omega)).symm.trans F1.out)))
      have HC := Lib.hid hc
      have HB := Lib.hid (hb1.trans (hb2.mono hb1.size))
      clear hb1 hb2 hs2 hc
      have hcv := bw_conv w2 (bytes s)
      have hbs := bw_bs w2 (bytes s) (by rw [bytes_size]; omega)
      have hbb := bw_below w2 (bytes s)
      have hbz := bw_size w2 (bytes s)
      rw [bytes_list] at hbs
      rw [bytes_size] at hcv hbs
      obtain ⟨n, hn⟩ : ∃ n, s.length = n := ⟨_, rfl⟩
      rw [hn] at hcv hbs f2
      obtain ⟨cp, hcp⟩ : ∃ cap, grownCap w2 n 0 5 = cap := ⟨_, rfl⟩
      rw [hcp] at hcv hbs
      have hfz : ∀ k, k < n → (Lib.bytesWorld w2 5 (bytes s)).frozen? ⟨w2.heap.size, k, none⟩ = false := by
        intro k hk
        have h1 := Lib.bytesWorld_at_new w2 5 (bytes s)
        have h2 : n ≤ (Lib.bytesCells w2 5 (bytes s)).size := by
          rcases Nat.lt_or_ge (n - 1) (Lib.bytesCells w2 5 (bytes s)).size with h' | h'
          · omega
          · have := Lib.bytesWorld_cell w2 5 (bytes s) (n - 1) (by rw [bytes_size]; omega)
            simp [World.cell?, h1, Array.getElem?_eq_none h'] at this
        unfold World.frozen?
        rw [h1]
        simp
        omega
      have hcell : ∀ k, k < n → (Lib.bytesWorld w2 5 (bytes s)).cell? ⟨w2.heap.size, k, none⟩ = some (.int .u8 ((s.getD k 0).toNat : Int)) := by
        intro k hk
        obtain ⟨a', cap', e, g1, g2, g3⟩ := hbs
        simp only [Value.slice.injEq] at e
        obtain ⟨rfl, -, rfl⟩ := e
        obtain ⟨b, off, e2, _, hc⟩ := g3 (by omega)
        simp only [Option.some.injEq, Addr.mk.injEq, and_true] at e2
        obtain ⟨rfl, rfl⟩ := e2
        have := hc k (by omega)
        rw [Nat.zero_add] at this
        rw [this]; simp [List.getD, show k < s.length by omega]
      have hcp2 : n ≤ cp ∧ cp ≤ maxLen := by
        obtain ⟨a', cap', e, g1, g2, g3⟩ := hbs
        simp only [Value.slice.injEq] at e
        obtain ⟨-, -, rfl⟩ := e
        exact ⟨by omega, g2⟩
      obtain ⟨W, hW⟩ : ∃ W, Lib.bytesWorld w2 5 (bytes s) = W := ⟨_, rfl⟩
      rw [hW] at hcv hbs hbb hbz hfz hcell
      obtain ⟨S, hS⟩ : ∃ S, bytes s = S := ⟨_, rfl⟩
      rw [hS] at hcv c0
      have HN := Lib.hid hn
      have HCE := Lib.hid hcell
      have HF := Lib.hid hfz
      have HBB := Lib.hid hbb
      have HBZ := Lib.hid hbz
      have HCP := Lib.hid hcp2
      have HS := Lib.hid hS
      have n0 : (n : Int) ≤ 8 := by omega
      clear hn hcell hfz hbb hbz hbs hS hW hcp hcp2
      go_upto_region 6 with (fail)
      clear hcv
      go_wp2
      trace_state
      go_loopw [6] (fun iv wr => ∃ j : Nat, iv = .int .i64 (j : Int) ∧ j ≤ n ∧ Below w2.heap.size w2 wr ∧ (∀ k, k < n → wr.cell? ⟨w2.heap.size, k, none⟩ = some (.int .u8 ((upAt s j k).toNat : Int))) ∧ (∀ k, k < n → wr.frozen? ⟨w2.heap.size, k, none⟩ = false) ∧ w2.heap.size < wr.heap.size) (fun iv _ => n - (intOf iv).toNat)
      case atStart => exact ⟨0, rfl, by omega, HBB.out, fun k hk => by rw [HCE.out k hk]; simp [upAt], HF.out, by have := HBZ.out; omega⟩
      case round =>
        obtain ⟨j, rfl, hj, hb, hce, hfr, hlt⟩ := hrel
        have HB2 := Lib.hid hb
        have HC2 := Lib.hid hce
        have HR2 := Lib.hid hfr
        clear hb hce hfr
        by_cases hjn : j < n
        · have c1 := HC2.out j hjn
          have f1 := HR2.out j hjn
          have j1 : (j : Int) < n := by omega
          have hlow : upAt s j j = s.getD j 0 := by unfold upAt; rw [if_neg (by omega)]
          rw [hlow] at c1
          have hr := F3.out (s.getD j 0) (by rw [List.getD_eq_getElem?_getD, List.getElem?_eq_getElem (by rw [HN.out]; omega)]; exact List.getElem_mem _)
          obtain ⟨x, hx⟩ : ∃ x, s.getD j 0 = x := ⟨_, rfl⟩
          rw [hx] at c1 hr
          have HX := Lib.hid hx
          obtain ⟨X, hX⟩ : ∃ X : Int, (x.toNat : Int) = X := ⟨_, rfl⟩
          rw [hX] at c1
          have x0 : 97 ≤ X := by omega
          have x1 : X ≤ 122 := by omega
          have hnew : ((upB x).toNat : Int) = X - 32 := by
            unfold upB
            rw [UInt8.toNat_sub]
            have : (32 : UInt8).toNat = 32 := rfl
            omega
          have HNEW := Lib.hid hnew
          clear hlow hx hX hnew hr
          go_wp2
          go_roundw
          case rel =>
            refine ⟨j + 1, by go_num, by omega, HB2.out.setCell (Nat.le_refl _) _, fun k hk => ?_, fun k hk => by rw [World.frozen?_setCell]; exact HR2.out k hk, by simpa using hlt⟩
            by_cases hkj : k = j
            · subst hkj
              rw [World.cell?_setCell_same _ _ _ (HC2.out k hk)]
              have e : upAt s (k + 1) k = upB x := by unfold upAt; rw [if_pos (by omega), HX.out]
              rw [e, HNEW.out]
            · rw [World.cell?_setCell_other _ _ _ _ (by intro e; simp only [Addr.mk.injEq] at e; exact hkj e.2.1.symm), HC2.out k hk]
              have e : upAt s (j + 1) k = upAt s j k := by
                unfold upAt
                by_cases h : k < j
                · rw [if_pos h, if_pos (by omega)]
                · rw [if_neg h, if_neg (by omega)]
              rw [e]
          case measure => simp [intOf]; omega
        · obtain rfl : j = n := by omega
          have jf : decide ((j : Int) < j) = false := by simp
          have hup : Bs wr (.slice (some ⟨w2.heap.size, 0, none⟩) j cp) (s.map upB) := by
            refine ⟨_, cp, by rw [List.length_map, HN.out], by rw [List.length_map, HN.out]; exact HCP.out.1, HCP.out.2, fun _ => ⟨w2.heap.size, 0, rfl, hlt, fun i hi => ?_⟩⟩
            have hi2 : i < j := by rw [List.length_map, HN.out] at hi; exact hi
            have h := HC2.out i hi2
            rw [Nat.zero_add, h]
            have e : upAt s j i = (s.map upB)[i] := by
              unfold upAt
              rw [if_pos hi2, List.getElem_map, List.getD_eq_getElem?_getD, List.getElem?_eq_getElem (by rw [HN.out]; exact hi2)]
              rfl
            rw [e]
          have d0 := (HB2.out.cell (p := ⟨b, off + k, none⟩) hbl).trans c0
          have hz2 := HB2.out.size
          have na := fun w => named_any s w (by rw [HN.out]; omega)
          have nb := fun w => named_any (s.map upB) w (by rw [List.length_map, HN.out]; omega)
          have hsp := F6.out
          rw [F4.out] at na
          rw [F5.out] at nb
          obtain ⟨E, hE⟩ : ∃ E, M.ceT.getD k zE = E := ⟨_, rfl⟩
          obtain ⟨E0, E1, E2, E3⟩ := E
          rw [hE] at na nb hsp
          unfold arrV arrC M.colE at na nb
          simp only at na nb
          rw [HS.out] at na
          obtain ⟨SU, hSU⟩ : ∃ x, bytes (s.map upB) = x := ⟨_, rfl⟩
          rw [hSU] at nb
          have HSU := Lib.hid hSU
          have NA := Lib.hid na
          have NB := Lib.hid nb
          have HSP := Lib.hid hsp
          have HUP := Lib.hid hup
          clear hup na nb hsp hE hSU HC2 HR2 HCE HF HBB HBZ c0 F1 F3 F4 F5 F6
          go_wp2_with fail
          refine (NA.out _).mono ?_
          rintro e w4 ⟨rfl, hb4⟩
          have z4 := hb4.size
          have b5 := hb4.trans (((Below.refl w4.heap.size w4).alloc (Nat.le_refl _) (.cells #[.int .i64 E1, .int .i64 E2, .int .i64 E3, .int .i64 255] 26)).mono z4)
          have a5 : AB (w4.alloc (.cells #[.int .i64 E1, .int .i64 E2, .int .i64 E3, .int .i64 255] 26)) w4.heap.size (E1, E2, E3, 255) := AB.new w4 (E1, E2, E3, 255)
          have z5 : w4.heap.size < (w4.alloc (.cells #[.int .i64 E1, .int .i64 E2, .int .i64 E3, .int .i64 255] 26)).heap.size := by simp
          have cv := conv_bsF (HUP.out.keep b5)
          rw [HSU.out] at cv
          have B5 := Lib.hid b5
          have A5 := Lib.hid a5
          obtain ⟨W5, hW5⟩ : ∃ x, w4.alloc (.cells #[.int .i64 E1, .int .i64 E2, .int .i64 E3, .int .i64 255] 26) = x := ⟨_, rfl⟩
          rw [hW5] at cv B5 A5 z5
          have HW5 := Lib.hid hW5
          clear hb4 b5 a5 hW5
          go_upto_region 11 with (fail)
          rw [HW5.out]
          go_wp2_with fail
          refine (NB.out _).mono ?_
          rintro e w6 ⟨rfl, hb6⟩
          have z6 := hb6.size
          have b7 := hb6.trans (((Below.refl w6.heap.size w6).alloc (Nat.le_refl _) (.cells #[.int .i64 E1, .int .i64 E2, .int .i64 E3, .int .i64 255] 26)).mono z6)
          have a7 : AB (w6.alloc (.cells #[.int .i64 E1, .int .i64 E2, .int .i64 E3, .int .i64 255] 26)) w6.heap.size (E1, E2, E3, 255) := AB.new w6 (E1, E2, E3, 255)
          have z7 : w6.heap.size < (w6.alloc (.cells #[.int .i64 E1, .int .i64 E2, .int .i64 E3, .int .i64 255] 26)).heap.size := by simp
          have a57 := A5.out.keep b7 z5
          have B7 := Lib.hid b7
          have A7 := Lib.hid a7
          have g0 := cell_of_row _ _ 0 _ _ _ a57
          have g1 := cell_of_row _ _ 1 _ _ _ a57
          have g2 := cell_of_row _ _ 2 _ _ _ a57
          have g3 := cell_of_row _ _ 3 _ _ _ a57
          simp only [arrC] at g0 g1 g2 g3
          have A57 := Lib.hid a57
          obtain ⟨W7, hW7⟩ : ∃ x, w6.alloc (.cells #[.int .i64 E1, .int .i64 E2, .int .i64 E3, .int .i64 255] 26) = x := ⟨_, rfl⟩
          rw [hW7] at B7 A7 A57 g0 g1 g2 g3 z7
          have HW7 := Lib.hid hW7
          clear hb6 b7 a7 a57 hW7 cv
          have sp := spell_any (E1, E2, E3, 255)
          unfold arrV arrC at sp
          simp only at sp
          have SP := Lib.hid sp
          clear sp
          go_upto_region 12 with (fail)
          rw [HW7.out]
          go_wp2_with fail
          refine (SP.out _).mono ?_
          rintro e w8 ⟨v8, rfl, hs8, hb8⟩
          have z8 := hb8.size
          obtain ⟨L, hL⟩ : ∃ L, M.spellC (E1, E2, E3, 255) = L := ⟨_, rfl⟩
          rw [hL] at hs8
          have hmem : s ∈ L := by rw [← hL]; exact HSP.out
          obtain ⟨b8, off8, cap8, rfl, hbl8, hd1, hd2, hc8⟩ := s_cells hs8 (List.length_pos_of_mem hmem)
          have b18 := (((HB2.out.trans (B5.out.mono HB2.out.size)).trans (B7.out.mono (by have := B5.out.size; omega)))).trans (hb8.mono (by have := B5.out.size; have := B7.out.size; omega))
          have b28 := B5.out.trans ((B7.out.trans (hb8.mono (by omega))).mono (by omega))
          have d8 := (b28.cell (p := ⟨b, off + k, none⟩) (Nat.lt_of_lt_of_le hbl hz2)).trans d0
          have hLn : L.length ≤ 1002 := by rw [← hL]; exact spell_len _
          have a58 := A57.out.keep hb8 (by omega)
          have a78 := A7.out.keep hb8 (by omega)
          have HM := Lib.hid hmem
          have HC8 := Lib.hid hc8
          have B18 := Lib.hid b18
          have B28 := Lib.hid b28
          have A58 := Lib.hid a58
          have A78 := Lib.hid a78
          have TS := Lib.hid (take_mem s L)
          clear hL hmem hs8 hb8 b18 b28 a58 a78 hc8 d0 g0 g1 g2 g3
          go_wp2
          go_loopw [11, 13] (fun bv iv wr2 => ∃ i : Nat, iv = .int .i64 (i : Int) ∧ i ≤ L.length ∧ bv = .bool (decide (s ∈ L.take i)) ∧ Below w8.heap.size w8 wr2) (fun _ iv _ => L.length - (intOf iv).toNat)
          case atStart => exact ⟨0, rfl, by omega, by simp, Below.refl _ _⟩
          case round =>
            obtain ⟨i, rfl, hi, rfl, hb9⟩ := hrel
            by_cases hi2 : i < L.length
            · have hc9 := (hb9.cell (p := ⟨b8, off8 + i, none⟩) hbl8).trans (HC8.out i hi2)
              have d9 := (hb9.cell (p := ⟨b, off + k, none⟩) (by show b < w8.heap.size; omega)).trans d8
              have i1 : (i : Int) < L.length := by omega
              have ts := TS.out i hi2
              have HB9 := Lib.hid hb9
              obtain ⟨T, hT⟩ : ∃ T, L[i] = T := ⟨_, rfl⟩
              rw [hT] at ts hc9
              obtain ⟨TB, hTB⟩ : ∃ x, bytes T = x := ⟨_, rfl⟩
              rw [hTB] at hc9
              obtain ⟨bv, hbv⟩ : ∃ x, decide (s ∈ L.take i) = x := ⟨_, rfl⟩
              rw [hbv] at ts
              rw [hbv]
              have HTB := Lib.hid hTB
              have TSS := Lib.hid ts
              clear hT hTB hbv hb9 ts
              go_upto_region 17 with (fail)
              refine wp_region_noPanic ?_
              refine wp_region_held_drew (S := fun V => V.cell? ⟨b8, off8 + i, none⟩ = some (.string TB) ∧ V.cell? ⟨b, off + k, none⟩ = some (.string S)) (by kernel_rfl) ⟨hc9, d9⟩ (fun hS => ?_)
              cases bv with
              | true =>
                refine wpAnyH_take (i := 0) (oi := _) (v := ?_) (List.getElem?_toArray.trans (by simp only [List.getElem?_cons_succ, List.getElem?_cons_zero]; exact rfl)) (by kernel_rfl) (by kernel_rfl) (by kernel_rfl) (fun _ _ _ h => h) (Or.inl ⟨by rfl, ?_⟩) (by assumption) ?_
                rotate_left
                · (intro V hSV; (try dsimp only at hSV); (try obtain ⟨s0, s1⟩ := hSV); go_simp; (try rw [if_neg (by omega)]); (try with_reducible rfl))
                try simp only [List.getElem_toArray, List.getElem_cons_succ, List.getElem_cons_zero, Act.put, List.setIfInBounds_toArray, List.set_cons_zero, List.set_cons_succ]
                refine wpAnyH_take (i := 1) (oi := _) (v := ?_) (List.getElem?_toArray.trans (by simp only [List.getElem?_cons_succ, List.getElem?_cons_zero]; exact rfl)) (by kernel_rfl) (by kernel_rfl) (by kernel_rfl) (fun _ _ _ h => h) (Or.inl ⟨by rfl, ?_⟩) (by assumption) ?_
                rotate_left
                · (intro V hSV; (try dsimp only at hSV); (try obtain ⟨s0, s1⟩ := hSV); go_simp; (try rw [if_neg (by omega)]); (try with_reducible rfl))
                try simp only [List.getElem_toArray, List.getElem_cons_succ, List.getElem_cons_zero, Act.put, List.setIfInBounds_toArray, List.set_cons_zero, List.set_cons_succ]
                refine rts 2 ?_
                refine rts 3 ?_
                refine rts 4 ?_
                refine rts 5 ?_
                refine rts 6 ?_
                refine rts 7 ?_
                refine rts 8 ?_
                refine rts 9 ?_
                refine rts 10 ?_
                refine wpAnyH_take (i := 11) (oi := _) (v := ?_) (List.getElem?_toArray.trans (by simp only [List.getElem?_cons_succ, List.getElem?_cons_zero]; exact rfl)) (by kernel_rfl) (by kernel_rfl) (by kernel_rfl) (fun _ _ _ h => h) (Or.inl ⟨by rfl, ?_⟩) (by assumption) ?_
                rotate_left
                · (intro V hSV; (try dsimp only at hSV); (try obtain ⟨s0, s1⟩ := hSV); go_simp; (try rw [if_neg (by omega)]); (try with_reducible rfl))
                try simp only [List.getElem_toArray, List.getElem_cons_succ, List.getElem_cons_zero, Act.put, List.setIfInBounds_toArray, List.set_cons_zero, List.set_cons_succ]
                refine wpAnyH_take (i := 12) (oi := _) (v := ?_) (List.getElem?_toArray.trans (by simp only [List.getElem?_cons_succ, List.getElem?_cons_zero]; exact rfl)) (by kernel_rfl) (by kernel_rfl) (by kernel_rfl) (fun _ _ _ h => h) (Or.inl ⟨by rfl, ?_⟩) (by assumption) ?_
                rotate_left
                · (intro V hSV; (try dsimp only at hSV); (try obtain ⟨s0, s1⟩ := hSV); go_simp; (try rw [if_neg (by omega)]); (try with_reducible rfl))
                try simp only [List.getElem_toArray, List.getElem_cons_succ, List.getElem_cons_zero, Act.put, List.setIfInBounds_toArray, List.set_cons_zero, List.set_cons_succ]
                refine wpAnyH_done (by kernel_rfl) ?_ _
                refine NoPanic.normal ?_
                go_wp2
                go_roundw
                case rel => exact ⟨i + 1, by go_num, by omega, by rw [TSS.out]; rfl, HB9.out.drew⟩
                case measure => simp [intOf]; omega
              | false =>
                by_cases hq : T = s
                · obtain rfl : TB = S := by rw [← HTB.out, ← HS.out, hq]
                  have HQ := Lib.hid hq
                  clear hq
                  refine wpAnyH_take (i := 0) (oi := _) (v := ?_) (List.getElem?_toArray.trans (by simp only [List.getElem?_cons_succ, List.getElem?_cons_zero]; exact rfl)) (by kernel_rfl) (by kernel_rfl) (by kernel_rfl) (fun _ _ _ h => h) (Or.inl ⟨by rfl, ?_⟩) (by assumption) ?_
                  rotate_left
                  · (intro V hSV; (try dsimp only at hSV); (try obtain ⟨s0, s1⟩ := hSV); go_simp; (try rw [if_neg (by omega)]); (try with_reducible rfl))
                  try simp only [List.getElem_toArray, List.getElem_cons_succ, List.getElem_cons_zero, Act.put, List.setIfInBounds_toArray, List.set_cons_zero, List.set_cons_succ]
                  refine wpAnyH_take (i := 1) (oi := _) (v := ?_) (List.getElem?_toArray.trans (by simp only [List.getElem?_cons_succ, List.getElem?_cons_zero]; exact rfl)) (by kernel_rfl) (by kernel_rfl) (by kernel_rfl) (fun _ _ _ h => h) (Or.inl ⟨by rfl, ?_⟩) (by assumption) ?_
                  rotate_left
                  · (intro V hSV; (try dsimp only at hSV); (try obtain ⟨s0, s1⟩ := hSV); go_simp; (try rw [if_neg (by omega)]); (try with_reducible rfl))
                  try simp only [List.getElem_toArray, List.getElem_cons_succ, List.getElem_cons_zero, Act.put, List.setIfInBounds_toArray, List.set_cons_zero, List.set_cons_succ]
                  refine wpAnyH_take (i := 2) (oi := _) (v := ?_) (List.getElem?_toArray.trans (by simp only [List.getElem?_cons_succ, List.getElem?_cons_zero]; exact rfl)) (by kernel_rfl) (by kernel_rfl) (by kernel_rfl) (fun _ _ _ h => h) (Or.inl ⟨by rfl, ?_⟩) (by assumption) ?_
                  rotate_left
                  · (intro V hSV; (try dsimp only at hSV); (try obtain ⟨s0, s1⟩ := hSV); go_simp; (try rw [if_neg (by omega)]); (try with_reducible rfl))
                  try simp only [List.getElem_toArray, List.getElem_cons_succ, List.getElem_cons_zero, Act.put, List.setIfInBounds_toArray, List.set_cons_zero, List.set_cons_succ]
                  refine wpAnyH_take (i := 3) (oi := _) (v := ?_) (List.getElem?_toArray.trans (by simp only [List.getElem?_cons_succ, List.getElem?_cons_zero]; exact rfl)) (by kernel_rfl) (by kernel_rfl) (by kernel_rfl) (fun _ _ _ h => h) (Or.inl ⟨by rfl, ?_⟩) (by assumption) ?_
                  rotate_left
                  · (intro V hSV; (try dsimp only at hSV); (try obtain ⟨s0, s1⟩ := hSV); go_simp; (try rw [if_neg (by omega)]); (try with_reducible rfl))
                  try simp only [List.getElem_toArray, List.getElem_cons_succ, List.getElem_cons_zero, Act.put, List.setIfInBounds_toArray, List.set_cons_zero, List.set_cons_succ]
                  refine wpAnyH_take (i := 4) (oi := _) (v := ?_) (List.getElem?_toArray.trans (by simp only [List.getElem?_cons_succ, List.getElem?_cons_zero]; exact rfl)) (by kernel_rfl) (by kernel_rfl) (by kernel_rfl) (fun _ _ _ h => h) (Or.inl ⟨by rfl, ?_⟩) (by assumption) ?_
                  rotate_left
                  · (intro V hSV; (try dsimp only at hSV); (try obtain ⟨s0, s1⟩ := hSV); go_simp; (try rw [if_neg (by omega)]); (try with_reducible rfl))
                  try simp only [List.getElem_toArray, List.getElem_cons_succ, List.getElem_cons_zero, Act.put, List.setIfInBounds_toArray, List.set_cons_zero, List.set_cons_succ]
                  refine wpAnyH_take (i := 5) (oi := _) (v := ?_) (List.getElem?_toArray.trans (by simp only [List.getElem?_cons_succ, List.getElem?_cons_zero]; exact rfl)) (by kernel_rfl) (by kernel_rfl) (by kernel_rfl) (fun _ _ _ h => h) (Or.inl ⟨by rfl, ?_⟩) (by assumption) ?_
                  rotate_left
                  · (intro V hSV; (try dsimp only at hSV); (try obtain ⟨s0, s1⟩ := hSV); go_simp; (try rw [if_neg (by omega)]); (try with_reducible rfl))
                  try simp only [List.getElem_toArray, List.getElem_cons_succ, List.getElem_cons_zero, Act.put, List.setIfInBounds_toArray, List.set_cons_zero, List.set_cons_succ]
                  refine wpAnyH_take (i := 6) (oi := _) (v := ?_) (List.getElem?_toArray.trans (by simp only [List.getElem?_cons_succ, List.getElem?_cons_zero]; exact rfl)) (by kernel_rfl) (by kernel_rfl) (by kernel_rfl) (fun _ _ _ h => h) (Or.inl ⟨by rfl, ?_⟩) (by assumption) ?_
                  rotate_left
                  · (intro V hSV; (try dsimp only at hSV); (try obtain ⟨s0, s1⟩ := hSV); go_simp; (try rw [if_neg (by omega)]); (try with_reducible rfl))
                  try simp only [List.getElem_toArray, List.getElem_cons_succ, List.getElem_cons_zero, Act.put, List.setIfInBounds_toArray, List.set_cons_zero, List.set_cons_succ]
                  refine wpAnyH_take (i := 7) (oi := _) (v := ?_) (List.getElem?_toArray.trans (by simp only [List.getElem?_cons_succ, List.getElem?_cons_zero]; exact rfl)) (by kernel_rfl) (by kernel_rfl) (by kernel_rfl) (fun _ _ _ h => h) (Or.inl ⟨by rfl, ?_⟩) (by assumption) ?_
                  rotate_left
                  · (intro V hSV; (try dsimp only at hSV); (try obtain ⟨s0, s1⟩ := hSV); go_simp; (try rw [if_neg (by omega)]); (try with_reducible rfl))
                  try simp only [List.getElem_toArray, List.getElem_cons_succ, List.getElem_cons_zero, Act.put, List.setIfInBounds_toArray, List.set_cons_zero, List.set_cons_succ]
                  refine wpAnyH_take (i := 8) (oi := _) (v := ?_) (List.getElem?_toArray.trans (by simp only [List.getElem?_cons_succ, List.getElem?_cons_zero]; exact rfl)) (by kernel_rfl) (by kernel_rfl) (by kernel_rfl) (fun _ _ _ h => h) (Or.inl ⟨by rfl, ?_⟩) (by assumption) ?_
                  rotate_left
                  · (intro V hSV; (try dsimp only at hSV); (try obtain ⟨s0, s1⟩ := hSV); go_simp; (try rw [if_neg (by omega)]); (try with_reducible rfl))
                  try simp only [List.getElem_toArray, List.getElem_cons_succ, List.getElem_cons_zero, Act.put, List.setIfInBounds_toArray, List.set_cons_zero, List.set_cons_succ]
                  refine wpAnyH_take (i := 9) (oi := _) (v := ?_) (List.getElem?_toArray.trans (by simp only [List.getElem?_cons_succ, List.getElem?_cons_zero]; exact rfl)) (by kernel_rfl) (by kernel_rfl) (by kernel_rfl) (fun _ _ _ h => h) (Or.inl ⟨by rfl, ?_⟩) (by assumption) ?_
                  rotate_left
                  · (intro V hSV; (try dsimp only at hSV); (try obtain ⟨s0, s1⟩ := hSV); go_simp; (try rw [if_neg (by omega)]); (try with_reducible rfl))
                  try simp only [List.getElem_toArray, List.getElem_cons_succ, List.getElem_cons_zero, Act.put, List.setIfInBounds_toArray, List.set_cons_zero, List.set_cons_succ]
                  refine wpAnyH_take (i := 10) (oi := _) (v := ?_) (List.getElem?_toArray.trans (by simp only [List.getElem?_cons_succ, List.getElem?_cons_zero]; exact rfl)) (by kernel_rfl) (by kernel_rfl) (by kernel_rfl) (fun _ _ _ h => h) (Or.inl ⟨by rfl, ?_⟩) (by assumption) ?_
                  rotate_left
                  · (intro V hSV; (try dsimp only at hSV); (try obtain ⟨s0, s1⟩ := hSV); go_simp; (try rw [if_neg (by omega)]); (try with_reducible rfl))
                  try simp only [List.getElem_toArray, List.getElem_cons_succ, List.getElem_cons_zero, Act.put, List.setIfInBounds_toArray, List.set_cons_zero, List.set_cons_succ]
                  refine wpAnyH_take (i := 11) (oi := _) (v := ?_) (List.getElem?_toArray.trans (by simp only [List.getElem?_cons_succ, List.getElem?_cons_zero]; exact rfl)) (by kernel_rfl) (by kernel_rfl) (by kernel_rfl) (fun _ _ _ h => h) (Or.inl ⟨by rfl, ?_⟩) (by assumption) ?_
                  rotate_left
                  · (intro V hSV; (try dsimp only at hSV); (try obtain ⟨s0, s1⟩ := hSV); go_simp; (try rw [if_neg (by omega)]); (try with_reducible rfl))
                  try simp only [List.getElem_toArray, List.getElem_cons_succ, List.getElem_cons_zero, Act.put, List.setIfInBounds_toArray, List.set_cons_zero, List.set_cons_succ]
                  refine wpAnyH_take (i := 12) (oi := _) (v := ?_) (List.getElem?_toArray.trans (by simp only [List.getElem?_cons_succ, List.getElem?_cons_zero]; exact rfl)) (by kernel_rfl) (by kernel_rfl) (by kernel_rfl) (fun _ _ _ h => h) (Or.inl ⟨by rfl, ?_⟩) (by assumption) ?_
                  rotate_left
                  · (intro V hSV; (try dsimp only at hSV); (try obtain ⟨s0, s1⟩ := hSV); go_simp; (try rw [if_neg (by omega)]); (try with_reducible rfl))
                  try simp only [List.getElem_toArray, List.getElem_cons_succ, List.getElem_cons_zero, Act.put, List.setIfInBounds_toArray, List.set_cons_zero, List.set_cons_succ]
                  refine wpAnyH_done (by kernel_rfl) ?_ _
                  refine NoPanic.normal ?_
                  go_wp2
                  go_roundw
                  case rel => exact ⟨i + 1, by go_num, by omega, by rw [TSS.out, decide_eq_true HQ.out]; rfl, HB9.out.drew⟩
                  case measure => simp [intOf]; omega
                · have nq : (TB.toList == S.toList) = false := by
                    rw [← HTB.out, ← HS.out, tl_bytes, tl_bytes]
                    simpa using hq
                  have HQ := Lib.hid hq
                  clear hq
                  refine wpAnyH_take (i := 0) (oi := _) (v := ?_) (List.getElem?_toArray.trans (by simp only [List.getElem?_cons_succ, List.getElem?_cons_zero]; exact rfl)) (by kernel_rfl) (by kernel_rfl) (by kernel_rfl) (fun _ _ _ h => h) (Or.inl ⟨by rfl, ?_⟩) (by assumption) ?_
                  rotate_left
                  · (intro V hSV; (try dsimp only at hSV); (try obtain ⟨s0, s1⟩ := hSV); go_simp; (try rw [if_neg (by omega)]); (try with_reducible rfl))
                  try simp only [List.getElem_toArray, List.getElem_cons_succ, List.getElem_cons_zero, Act.put, List.setIfInBounds_toArray, List.set_cons_zero, List.set_cons_succ]
                  refine wpAnyH_take (i := 1) (oi := _) (v := ?_) (List.getElem?_toArray.trans (by simp only [List.getElem?_cons_succ, List.getElem?_cons_zero]; exact rfl)) (by kernel_rfl) (by kernel_rfl) (by kernel_rfl) (fun _ _ _ h => h) (Or.inl ⟨by rfl, ?_⟩) (by assumption) ?_
                  rotate_left
                  · (intro V hSV; (try dsimp only at hSV); (try obtain ⟨s0, s1⟩ := hSV); go_simp; (try rw [if_neg (by omega)]); (try with_reducible rfl))
                  try simp only [List.getElem_toArray, List.getElem_cons_succ, List.getElem_cons_zero, Act.put, List.setIfInBounds_toArray, List.set_cons_zero, List.set_cons_succ]
                  refine wpAnyH_take (i := 2) (oi := _) (v := ?_) (List.getElem?_toArray.trans (by simp only [List.getElem?_cons_succ, List.getElem?_cons_zero]; exact rfl)) (by kernel_rfl) (by kernel_rfl) (by kernel_rfl) (fun _ _ _ h => h) (Or.inl ⟨by rfl, ?_⟩) (by assumption) ?_
                  rotate_left
                  · (intro V hSV; (try dsimp only at hSV); (try obtain ⟨s0, s1⟩ := hSV); go_simp; (try rw [if_neg (by omega)]); (try with_reducible rfl))
                  try simp only [List.getElem_toArray, List.getElem_cons_succ, List.getElem_cons_zero, Act.put, List.setIfInBounds_toArray, List.set_cons_zero, List.set_cons_succ]
                  refine wpAnyH_take (i := 3) (oi := _) (v := ?_) (List.getElem?_toArray.trans (by simp only [List.getElem?_cons_succ, List.getElem?_cons_zero]; exact rfl)) (by kernel_rfl) (by kernel_rfl) (by kernel_rfl) (fun _ _ _ h => h) (Or.inl ⟨by rfl, ?_⟩) (by assumption) ?_
                  rotate_left
                  · (intro V hSV; (try dsimp only at hSV); (try obtain ⟨s0, s1⟩ := hSV); go_simp; (try rw [if_neg (by omega)]); (try with_reducible rfl))
                  try simp only [List.getElem_toArray, List.getElem_cons_succ, List.getElem_cons_zero, Act.put, List.setIfInBounds_toArray, List.set_cons_zero, List.set_cons_succ]
                  refine wpAnyH_take (i := 4) (oi := _) (v := ?_) (List.getElem?_toArray.trans (by simp only [List.getElem?_cons_succ, List.getElem?_cons_zero]; exact rfl)) (by kernel_rfl) (by kernel_rfl) (by kernel_rfl) (fun _ _ _ h => h) (Or.inl ⟨by rfl, ?_⟩) (by assumption) ?_
                  rotate_left
                  · (intro V hSV; (try dsimp only at hSV); (try obtain ⟨s0, s1⟩ := hSV); go_simp; (try rw [if_neg (by omega)]); (try with_reducible rfl))
                  try simp only [List.getElem_toArray, List.getElem_cons_succ, List.getElem_cons_zero, Act.put, List.setIfInBounds_toArray, List.set_cons_zero, List.set_cons_succ]
                  refine wpAnyH_take (i := 5) (oi := _) (v := ?_) (List.getElem?_toArray.trans (by simp only [List.getElem?_cons_succ, List.getElem?_cons_zero]; exact rfl)) (by kernel_rfl) (by kernel_rfl) (by kernel_rfl) (fun _ _ _ h => h) (Or.inl ⟨by rfl, ?_⟩) (by assumption) ?_
                  rotate_left
                  · (intro V hSV; (try dsimp only at hSV); (try obtain ⟨s0, s1⟩ := hSV); go_simp; (try rw [if_neg (by omega)]); (try with_reducible rfl))
                  try simp only [List.getElem_toArray, List.getElem_cons_succ, List.getElem_cons_zero, Act.put, List.setIfInBounds_toArray, List.set_cons_zero, List.set_cons_succ]
                  refine wpAnyH_take (i := 6) (oi := _) (v := ?_) (List.getElem?_toArray.trans (by simp only [List.getElem?_cons_succ, List.getElem?_cons_zero]; exact rfl)) (by kernel_rfl) (by kernel_rfl) (by kernel_rfl) (fun _ _ _ h => h) (Or.inl ⟨by rfl, ?_⟩) (by assumption) ?_
                  rotate_left
                  · (intro V hSV; (try dsimp only at hSV); (try obtain ⟨s0, s1⟩ := hSV); go_simp; (try rw [if_neg (by omega)]); (try with_reducible rfl))
                  try simp only [List.getElem_toArray, List.getElem_cons_succ, List.getElem_cons_zero, Act.put, List.setIfInBounds_toArray, List.set_cons_zero, List.set_cons_succ]
                  refine wpAnyH_take (i := 7) (oi := _) (v := ?_) (List.getElem?_toArray.trans (by simp only [List.getElem?_cons_succ, List.getElem?_cons_zero]; exact rfl)) (by kernel_rfl) (by kernel_rfl) (by kernel_rfl) (fun _ _ _ h => h) (Or.inl ⟨by rfl, ?_⟩) (by assumption) ?_
                  rotate_left
                  · (intro V hSV; (try dsimp only at hSV); (try obtain ⟨s0, s1⟩ := hSV); go_simp; (try rw [if_neg (by omega)]); (try with_reducible rfl))
                  try simp only [List.getElem_toArray, List.getElem_cons_succ, List.getElem_cons_zero, Act.put, List.setIfInBounds_toArray, List.set_cons_zero, List.set_cons_succ]
                  refine wpAnyH_take (i := 8) (oi := _) (v := ?_) (List.getElem?_toArray.trans (by simp only [List.getElem?_cons_succ, List.getElem?_cons_zero]; exact rfl)) (by kernel_rfl) (by kernel_rfl) (by kernel_rfl) (fun _ _ _ h => h) (Or.inl ⟨by rfl, ?_⟩) (by assumption) ?_
                  rotate_left
                  · (intro V hSV; (try dsimp only at hSV); (try obtain ⟨s0, s1⟩ := hSV); go_simp; (try rw [if_neg (by omega)]); (try with_reducible rfl))
                  try simp only [List.getElem_toArray, List.getElem_cons_succ, List.getElem_cons_zero, Act.put, List.setIfInBounds_toArray, List.set_cons_zero, List.set_cons_succ]
                  refine wpAnyH_take (i := 9) (oi := _) (v := ?_) (List.getElem?_toArray.trans (by simp only [List.getElem?_cons_succ, List.getElem?_cons_zero]; exact rfl)) (by kernel_rfl) (by kernel_rfl) (by kernel_rfl) (fun _ _ _ h => h) (Or.inl ⟨by rfl, ?_⟩) (by assumption) ?_
                  rotate_left
                  · (intro V hSV; (try dsimp only at hSV); (try obtain ⟨s0, s1⟩ := hSV); go_simp; (try rw [if_neg (by omega)]); (try with_reducible rfl))
                  try simp only [List.getElem_toArray, List.getElem_cons_succ, List.getElem_cons_zero, Act.put, List.setIfInBounds_toArray, List.set_cons_zero, List.set_cons_succ]
                  refine wpAnyH_take (i := 10) (oi := _) (v := ?_) (List.getElem?_toArray.trans (by simp only [List.getElem?_cons_succ, List.getElem?_cons_zero]; exact rfl)) (by kernel_rfl) (by kernel_rfl) (by kernel_rfl) (fun _ _ _ h => h) (Or.inl ⟨by rfl, ?_⟩) (by assumption) ?_
                  rotate_left
                  · (intro V hSV; (try dsimp only at hSV); (try obtain ⟨s0, s1⟩ := hSV); go_simp; (try rw [if_neg (by omega)]); (try with_reducible rfl))
                  try simp only [List.getElem_toArray, List.getElem_cons_succ, List.getElem_cons_zero, Act.put, List.setIfInBounds_toArray, List.set_cons_zero, List.set_cons_succ]
                  refine wpAnyH_take (i := 11) (oi := _) (v := ?_) (List.getElem?_toArray.trans (by simp only [List.getElem?_cons_succ, List.getElem?_cons_zero]; exact rfl)) (by kernel_rfl) (by kernel_rfl) (by kernel_rfl) (fun _ _ _ h => h) (Or.inl ⟨by rfl, ?_⟩) (by assumption) ?_
                  rotate_left
                  · (intro V hSV; (try dsimp only at hSV); (try obtain ⟨s0, s1⟩ := hSV); go_simp; (try rw [if_neg (by omega)]); (try with_reducible rfl))
                  try simp only [List.getElem_toArray, List.getElem_cons_succ, List.getElem_cons_zero, Act.put, List.setIfInBounds_toArray, List.set_cons_zero, List.set_cons_succ]
                  refine wpAnyH_take (i := 12) (oi := _) (v := ?_) (List.getElem?_toArray.trans (by simp only [List.getElem?_cons_succ, List.getElem?_cons_zero]; exact rfl)) (by kernel_rfl) (by kernel_rfl) (by kernel_rfl) (fun _ _ _ h => h) (Or.inl ⟨by rfl, ?_⟩) (by assumption) ?_
                  rotate_left
                  · (intro V hSV; (try dsimp only at hSV); (try obtain ⟨s0, s1⟩ := hSV); go_simp; (try rw [if_neg (by omega)]); (try with_reducible rfl))
                  try simp only [List.getElem_toArray, List.getElem_cons_succ, List.getElem_cons_zero, Act.put, List.setIfInBounds_toArray, List.set_cons_zero, List.set_cons_succ]
                  refine wpAnyH_done (by kernel_rfl) ?_ _
                  refine NoPanic.normal ?_
                  go_wp2
                  go_roundw
                  case rel => exact ⟨i + 1, by go_num, by omega, by rw [TSS.out, decide_eq_false HQ.out]; rfl, HB9.out.drew⟩
                  case measure => simp [intOf]; omega
            · obtain rfl : i = L.length := by omega
              have hT : decide (s ∈ L.take L.length) = true := by
                rw [List.take_of_length_le (Nat.le_refl _)]
                exact decide_eq_true HM.out
              rw [hT]
              have d9 := (hb9.cell (p := ⟨b, off + k, none⟩) (by show b < w8.heap.size; omega)).trans d8
              have a59 := A58.out.keep hb9 (by omega)
              have a79 := A78.out.keep hb9 (by omega)
              have x0 := cell_of_row _ _ 0 _ _ _ a59
              have x1 := cell_of_row _ _ 1 _ _ _ a59
              have x2 := cell_of_row _ _ 2 _ _ _ a59
              have x3 := cell_of_row _ _ 3 _ _ _ a59
              have y0 := cell_of_row _ _ 0 _ _ _ a79
              have y1 := cell_of_row _ _ 1 _ _ _ a79
              have y2 := cell_of_row _ _ 2 _ _ _ a79
              have y3 := cell_of_row _ _ 3 _ _ _ a79
              simp only [arrC] at x0 x1 x2 x3 y0 y1 y2 y3
              have FIN := Lib.hid (HB.out.trans ((HB2.out.trans ((B28.out.trans (hb9.mono (by have := B28.out.size; omega))).mono hz2)).mono (by have := HB.out.size; omega)))
              have jf2 : decide ((L.length : Int) < L.length) = false := by simp
              have B9 := Lib.hid hb9
              clear hb9 a59 a79 hT
              go_upto_region 18 with (fail)
              by_cases hk0 : k = 0
              · subst hk0
                refine wp_region_noPanic ?_
                refine wp_region_held_drew (S := fun V => V.cell? ⟨w4.heap.size, 0, none⟩ = some (.int .i64 E1) ∧ V.cell? ⟨w4.heap.size, 1, none⟩ = some (.int .i64 E2) ∧ V.cell? ⟨w4.heap.size, 2, none⟩ = some (.int .i64 E3) ∧ V.cell? ⟨w4.heap.size, 3, none⟩ = some (.int .i64 255) ∧ V.cell? ⟨w6.heap.size, 0, none⟩ = some (.int .i64 E1) ∧ V.cell? ⟨w6.heap.size, 1, none⟩ = some (.int .i64 E2) ∧ V.cell? ⟨w6.heap.size, 2, none⟩ = some (.int .i64 E3) ∧ V.cell? ⟨w6.heap.size, 3, none⟩ = some (.int .i64 255)) (by kernel_rfl) ⟨x0, x1, x2, x3, y0, y1, y2, y3⟩ (fun hS => ?_)
                refine rtk 0 ?_
                refine rtk 1 ?_
                refine rtk 2 ?_
                refine rtk 3 ?_
                refine rtk 4 ?_
                refine rtk 5 ?_
                refine rtk 6 ?_
                refine rtk (v := .bool true) 7 (hy := yields_cmpA (by rfl) _ _ rfl (E1, E2, E3, 255) (E1, E2, E3, 255) rfl rfl true (by simp)) ?_
                refine rtk 8 ?_
                refine rtk 9 ?_
                refine rtk 10 ?_
                refine rtk 11 ?_
                refine rtk 12 ?_
                refine rtk 13 ?_
                refine rtk 14 ?_
                refine rtk 15 ?_
                refine rtk 16 ?_
                refine rtk 17 ?_
                refine rtk 18 ?_
                refine rtk 19 ?_
                refine rtk 20 ?_
                refine rts 21 ?_
                refine rts 22 ?_
                refine rts 23 ?_
                refine rts 24 ?_
                refine rts 25 ?_
                refine rts 26 ?_
                refine rts 27 ?_
                refine rts 28 ?_
                refine rts 29 ?_
                refine rts 30 ?_
                refine rtk 31 ?_
                refine rtk 32 ?_
                refine rtk 33 ?_
                refine wpAnyH_done (by kernel_rfl) ?_ _
                refine NoPanic.normal ?_
                go_wp2
                go_ret
                exact ⟨rfl, FIN.out.drew⟩
              · have hm : k - 1 < 38 := by omega
                have c9 := HC.out (k - 1) (by omega)
                have d10 := (((HB2.out.trans (B28.out.mono hz2)).trans (B9.out.mono (by omega))).cell (p := ⟨b, off + (k - 1), none⟩) hbl).trans c9
                have hlts := nm_rise k hk (by omega)
                have hsk : nmAt k = s := SK.out
                rw [hsk] at hlts
                have e10 : bytes namesL[k - 1] = bytes (nmAt (k - 1)) := congrArg bytes (Option.some.inj ((List.getElem?_eq_getElem (by omega)).symm.trans (nm_facts (k - 1) hm).1))
                have d10 := d10.trans (congrArg (fun x => some (Value.string x)) e10)
                obtain ⟨SP, hSP⟩ : ∃ x, bytes (nmAt (k - 1)) = x := ⟨_, rfl⟩
                rw [hSP] at d10
                have hlt2 : Go.Op.bytesLess SP.toList S.toList = true := by
                  rw [← hSP, ← HS.out, tl_bytes, tl_bytes]; exact hlts
                have kz : ((k : Int) == 0) = false := by rw [beq_eq_false_iff_ne]; omega
                have ks : ((k : Int) - 1).toNat = k - 1 := by omega
                have kp : (1 : Int) ≤ (k : Int) := by omega
                have kq : (k : Int) - 1 < 38 := by omega
                have kw : IntKind.i64.wrap ((k : Int) - 1) = (k : Int) - 1 := by rw [IntKind.wrap_i64]; omega
                clear hlts hsk e10 hSP c9
                refine wp_region_noPanic ?_
                refine wp_region_held_drew (S := fun V => V.cell? ⟨w4.heap.size, 0, none⟩ = some (.int .i64 E1) ∧ V.cell? ⟨w4.heap.size, 1, none⟩ = some (.int .i64 E2) ∧ V.cell? ⟨w4.heap.size, 2, none⟩ = some (.int .i64 E3) ∧ V.cell? ⟨w4.heap.size, 3, none⟩ = some (.int .i64 255) ∧ V.cell? ⟨w6.heap.size, 0, none⟩ = some (.int .i64 E1) ∧ V.cell? ⟨w6.heap.size, 1, none⟩ = some (.int .i64 E2) ∧ V.cell? ⟨w6.heap.size, 2, none⟩ = some (.int .i64 E3) ∧ V.cell? ⟨w6.heap.size, 3, none⟩ = some (.int .i64 255) ∧ V.cell? ⟨b, off + k, none⟩ = some (.string S) ∧ V.cell? ⟨b, off + (k - 1), none⟩ = some (.string SP)) (by kernel_rfl) ⟨x0, x1, x2, x3, y0, y1, y2, y3, d9, d10⟩ (fun hS => ?_)
                refine rtk 0 ?_
                refine rtk 1 ?_
                refine rtk 2 ?_
                refine rtk 3 ?_
                refine rtk 4 ?_
                refine rtk 5 ?_
                refine rtk 6 ?_
                refine rtk (v := .bool true) 7 (hy := yields_cmpA (by rfl) _ _ rfl (E1, E2, E3, 255) (E1, E2, E3, 255) rfl rfl true (by simp)) ?_
                refine rtk 8 ?_
                refine rtk 9 ?_
                refine rtk 10 ?_
                refine rtk 11 ?_
                refine rtk 12 ?_
                refine rtk 13 ?_
                refine rtk 14 ?_
                refine rtk 15 ?_
                refine rtk 16 ?_
                refine rtk 17 ?_
                refine rtk 18 ?_
                refine rtk 19 ?_
                refine rtk 20 ?_
                refine rtk 21 ?_
                refine rtk 22 ?_
                refine rtk 23 ?_
                refine rtk 24 ?_
                refine rtk 25 ?_
                refine rtk 26 ?_
                refine rtk 27 ?_
                refine rtk 28 ?_
                refine rtk 29 ?_
                refine rtk 30 ?_
                refine rtk 31 ?_
                refine rtk 32 ?_
                refine rtk 33 ?_
                refine wpAnyH_done (by kernel_rfl) ?_ _
                refine NoPanic.normal ?_
                go_wp2
                go_ret
                exact ⟨rfl, FIN.out.drew⟩
end Go.Proofs.Ytajjdndnmokfkaa
