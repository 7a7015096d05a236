/- The walk of PiecesRise. -/
import Derived.Test.YtpedipalpebolaaDoorPTell
import Derived.Test.YtpedipalpebolaaDoorPStep
namespace Go.Proofs.YtpedipalpebolaaDoor
open Go.RowKit
set_option linter.unusedVariables false
set_option linter.unusedSimpArgs false

theorem pand1023 (z : Int) : ∃ a : Nat, bits .and .i64 z 1023 = (a : Int) ∧ a < 1024 := by
  refine ⟨(BitVec.ofInt 64 z &&& BitVec.ofInt 64 1023).toNat, ?_, ?_⟩
  · have h : (BitVec.ofInt 64 z &&& BitVec.ofInt 64 1023).toNat ≤ 1023 := by
      rw [BitVec.toNat_and]
      exact Nat.le_trans Nat.and_le_right (by decide)
    show IntKind.i64.wrap ((BitVec.ofInt 64 z &&& BitVec.ofInt 64 1023).toNat : Int) = _
    rw [IntKind.wrap_i64]
    omega
  · rw [BitVec.toNat_and]
    exact Nat.lt_of_le_of_lt Nat.and_le_right (by decide)
def wordsL : List (List UInt8) := [[97], [98, 99], [10], [195, 169], [120, 10], [240, 159, 152, 128], [32]]
def wordsO : Obj := .cells #[.string ⟨#[97]⟩, .string ⟨#[98, 99]⟩, .string ⟨#[10]⟩, .string ⟨#[195, 169]⟩, .string ⟨#[120, 10]⟩, .string ⟨#[240, 159, 152, 128]⟩, .string ⟨#[32]⟩] 9
theorem words_cell (w : World) (k : Nat) (hk : k < 7) : (w.alloc wordsO).cell? ⟨w.heap.size, k, none⟩ = some (.string (bytes (wordsL.getD k []))) := by
  unfold wordsO
  rw [World.cell?_alloc_at _ _ _ _ rfl]
  have : k = 0 ∨ k = 1 ∨ k = 2 ∨ k = 3 ∨ k = 4 ∨ k = 5 ∨ k = 6 := by omega
  rcases this with rfl | rfl | rfl | rfl | rfl | rfl | rfl <;> rfl
theorem words_word (k : Nat) (hk : k < 7) : M.Word (wordsL.getD k []) ∧ (wordsL.getD k []).length ≤ 4 ∧ wordsL.getD k [] ≠ [] := by
  have : k = 0 ∨ k = 1 ∨ k = 2 ∨ k = 3 ∨ k = 4 ∨ k = 5 ∨ k = 6 := by omega
  rcases this with rfl | rfl | rfl | rfl | rfl | rfl | rfl
  · exact ⟨⟨97, [], by decide +kernel, by decide⟩, by decide, by decide⟩
  · exact ⟨⟨98, [99], by decide +kernel, by decide⟩, by decide, by decide⟩
  · exact ⟨⟨10, [], by decide +kernel, by decide⟩, by decide, by decide⟩
  · exact ⟨⟨233, [], by decide +kernel, by decide⟩, by decide, by decide⟩
  · exact ⟨⟨120, [10], by decide +kernel, by decide⟩, by decide, by decide⟩
  · exact ⟨⟨128512, [], by decide +kernel, by decide⟩, by decide, by decide⟩
  · exact ⟨⟨32, [], by decide +kernel, by decide⟩, by decide, by decide⟩
/-- What the law makes of its first i numbers. -/
noncomputable def pcsOf (xs fs : List Int) : Nat → M.Pcs
  | 0 => []
  | i + 1 => pcsOf xs fs i ++ [(wordsL.getD ((pand1023 (xs.getD i 0)).choose % 7) [], fs.getD i 0)]
theorem pcsOf_len (xs fs : List Int) (i : Nat) : (pcsOf xs fs i).length = i := by
  induction i with
  | zero => rfl
  | succ i ih => simp [pcsOf, ih]
theorem pcsOf_word (xs fs : List Int) (i : Nat) : ∀ p ∈ pcsOf xs fs i, M.Word p.1 := by
  induction i with
  | zero => simp [pcsOf]
  | succ i ih =>
    intro p hp
    rcases List.mem_append.1 hp with hp | hp
    · exact ih p hp
    · rw [List.mem_singleton.1 hp]
      exact (words_word _ (Nat.mod_lt _ (by decide))).1
theorem pcsOf_text (xs fs : List Int) (i : Nat) : (M.textP (pcsOf xs fs i)).length ≤ 4 * i := by
  induction i with
  | zero => simp [pcsOf, M.textP]
  | succ i ih =>
    have := (words_word ((pand1023 (xs.getD i 0)).choose % 7) (Nat.mod_lt _ (by decide))).2.1
    unfold pcsOf
    rw [M.textP_append, List.length_append]
    simp only [M.textP, List.flatMap_cons, List.flatMap_nil, List.append_nil] at this ih ⊢
    omega
/-- How many of them come from somewhere. -/
noncomputable def cntOf (xs fs : List Int) (src : List UInt8) (i : Nat) : Nat := ((pcsOf xs fs i).filter (M.okP src)).length
theorem cntOf_le (xs fs : List Int) (src : List UInt8) (i : Nat) : cntOf xs fs src i ≤ i := by
  unfold cntOf
  have := List.length_filter_le (M.okP src) (pcsOf xs fs i)
  rw [pcsOf_len] at this; exact this
theorem cntOf_yes (xs fs : List Int) (src : List UInt8) (i : Nat) (h : 0 ≤ fs.getD i 0 ∧ fs.getD i 0 ≤ src.length) : cntOf xs fs src (i + 1) = cntOf xs fs src i + 1 := by
  have hw := (words_word ((pand1023 (xs.getD i 0)).choose % 7) (Nat.mod_lt _ (by decide))).2.2
  unfold cntOf
  show ((pcsOf xs fs i ++ _).filter _).length = _
  rw [List.filter_append, List.length_append, List.filter_cons_of_pos (by simp only [M.okP, Bool.and_eq_true, decide_eq_true_eq]; exact ⟨⟨by simpa using hw, h.1⟩, h.2⟩)]
  simp
theorem cntOf_no (xs fs : List Int) (src : List UInt8) (i : Nat) (h : ¬ (0 ≤ fs.getD i 0 ∧ fs.getD i 0 ≤ src.length)) : cntOf xs fs src (i + 1) = cntOf xs fs src i := by
  unfold cntOf
  show ((pcsOf xs fs i ++ _).filter _).length = _
  rw [List.filter_append, List.length_append, List.filter_cons_of_neg (by simp only [M.okP]; simp only [Bool.and_eq_true, decide_eq_true_eq]; rintro ⟨⟨_, h1⟩, h2⟩; exact h ⟨h1, h2⟩)]
  simp
set_option maxRecDepth 100000 in
set_option maxHeartbeats 8000000 in
theorem prise_walk (a0 : Option Addr) (len0 cap0 : Nat) (a1 : Option Addr) (len1 cap1 : Nat) (a2 : Option Addr) (len2 cap2 : Nat) (xs fs : List Int) (src : List UInt8) (w : World)
    (e0 : xs.length = len0) (b0 : Is w (.slice a0 len0 cap0) xs) (n0 : NN (.slice a0 len0 cap0)) (e1 : fs.length = len1) (b1 : Is w (.slice a1 len1 cap1) fs) (n1 : NN (.slice a1 len1 cap1))
    (e2 : src.length = len2) (b2 : Bs w (.slice a2 len2 cap2) src) (n2 : ∀ n c, Value.slice a2 len2 cap2 = .slice none n c → c = 0) (hT : Tabs w) :
    Calls Tryd.prog 4 #[.slice a0 len0 cap0, .slice a1 len1 cap1, .slice a2 len2 cap2] w fun e w' => e = .returned (.bool true) ∧ Below w.heap.size w w' := by
  have al := Lib.hid (palive_any w hT)
  have B0 := Lib.hid b0
  have B1 := Lib.hid b1
  have B2 := Lib.hid b2
  have HT := Lib.hid hT
  clear b0 b1 b2 n0 n1 n2 hT
  have hq : (40 < len0) ∨ (¬ 40 < len0 ∧ len1 < len0) ∨ (¬ 40 < len0 ∧ ¬ len1 < len0 ∧ 200 < len2) ∨ (len0 ≤ 40 ∧ len0 ≤ len1 ∧ len2 ≤ 200) := by omega
  by_cases hearly : (40 < len0) ∨ (¬ 40 < len0 ∧ len1 < len0) ∨ (¬ 40 < len0 ∧ ¬ len1 < len0 ∧ 200 < len2)
  · have hq2 : ((40 : Int) < len0) ∨ ((¬ (40 : Int) < len0) ∧ decide (len1 < len0) = true) ∨ ((¬ (40 : Int) < len0) ∧ decide (len1 < len0) = false ∧ (200 : Int) < len2) := by
      rcases hearly with h | ⟨h, h1⟩ | ⟨h, h1, h2⟩
      · exact .inl (by omega)
      · exact .inr (.inl ⟨by omega, by simp; omega⟩)
      · exact .inr (.inr ⟨by omega, by simp; omega, by omega⟩)
    clear hq hearly e0 e1 e2
    rcases hq2 with t1 | ⟨t1, t2⟩ | ⟨t1, t2, t3⟩
    all_goals
      go_enter Tryd.func4, Tryd.ntmps4
      go_wp2_with fail
      refine al.out.mono ?_
      rintro e w1 ⟨rfl, hb1⟩
      go_wp2
      go_ret
      exact ⟨rfl, hb1⟩
  obtain ⟨k0, k1, k2⟩ : len0 ≤ 40 ∧ len0 ≤ len1 ∧ len2 ≤ 200 := by omega
  clear hq hearly
  have q0 : ¬ (40 : Int) < len0 := by omega
  have q1 : decide (len1 < len0) = false := by simp; omega
  have q2 : ¬ (200 : Int) < len2 := by omega
  have E0 := Lib.hid e0
  have E1 := Lib.hid e1
  have E2 := Lib.hid e2
  clear e0 e1 e2
  go_enter Tryd.func4, Tryd.ntmps4
  go_wp2_with fail
  refine al.out.mono ?_
  rintro e w1 ⟨rfl, hb1⟩
  have hs1 := hb1.size
  have hal : Below w1.heap.size w1 (w1.alloc wordsO) := (Below.refl _ _).alloc (Nat.le_refl _) _
  have hb2 := hb1.trans (hal.mono hs1)
  obtain ⟨W, hW⟩ : ∃ W, w1.alloc wordsO = W := ⟨_, rfl⟩
  have hWz : W.heap.size = w1.heap.size + 1 := by rw [← hW]; simp
  have hwc : ∀ k, k < 7 → W.cell? ⟨w1.heap.size, k, none⟩ = some (.string (bytes (wordsL.getD k []))) := fun k hk => by rw [← hW]; exact words_cell w1 k hk
  rw [hW] at hal hb2
  have HB2 := Lib.hid hb2
  have HWC := Lib.hid hwc
  have I0 := Lib.hid (B0.out.keep hb2)
  have I1 := Lib.hid (B1.out.keep hb2)
  have I2 := Lib.hid (B2.out.keep hb2)
  have HWZ := Lib.hid hWz
  unfold wordsO at hW
  have HW := Lib.hid hW
  clear hal hb2 hwc hWz hW hb1 al B0 B1 B2
  go_wp2
  rw [HW.out]
  go_loopw [8, 9, 11] (fun pvv nv iv wr => ∃ i : Nat, iv = .int .i64 (i : Int) ∧ i ≤ len0 ∧ nv = .int .i64 (cntOf xs fs src i : Int) ∧ OwnP W.heap.size wr pvv (pcsOf xs fs i) ∧ Below W.heap.size W wr) (fun _ _ iv _ => len0 - (intOf iv).toNat)
  case atStart => exact ⟨0, rfl, by omega, rfl, ownV_nil _ _ _ _, Below.refl _ _⟩
  case round =>
    obtain ⟨i, rfl, hi, rfl, how, hb⟩ := hrel
    have hbz := hb.size
    have hcl := cntOf_le xs fs src i
    by_cases hlt : i < len0
    · have hix : i < xs.length := by rw [E0.out]; exact hlt
      have hif : i < fs.length := by rw [E1.out]; omega
      obtain ⟨b0, o0, rfl, hlt0, cx⟩ : ∃ b o, a0 = some ⟨b, o, none⟩ ∧ b < W.heap.size ∧ wr.cell? ⟨b, o + i, none⟩ = some (.int .i64 (xs.getD i 0)) := by
        obtain ⟨a', c', hs', _, _, hv'⟩ := I0.out
        simp only [Value.slice.injEq] at hs'
        obtain ⟨rfl, _, rfl⟩ := hs'
        obtain ⟨b, o, rfl, hbl, hcc⟩ := hv' (by omega)
        refine ⟨b, o, rfl, hbl, ?_⟩
        rw [hb.cell (p := ⟨b, o + i, none⟩) hbl, hcc i hix]; simp [hix]
      obtain ⟨b1, o1, rfl, hlt1, cf⟩ : ∃ b o, a1 = some ⟨b, o, none⟩ ∧ b < W.heap.size ∧ wr.cell? ⟨b, o + i, none⟩ = some (.int .i64 (fs.getD i 0)) := by
        obtain ⟨a', c', hs', _, _, hv'⟩ := I1.out
        simp only [Value.slice.injEq] at hs'
        obtain ⟨rfl, _, rfl⟩ := hs'
        obtain ⟨b, o, rfl, hbl, hcc⟩ := hv' (by omega)
        refine ⟨b, o, rfl, hbl, ?_⟩
        rw [hb.cell (p := ⟨b, o + i, none⟩) hbl, hcc i hif]; simp [hif]
      have hnext : pcsOf xs fs i ++ [(wordsL.getD ((pand1023 (xs.getD i 0)).choose % 7) [], fs.getD i 0)] = pcsOf xs fs (i + 1) := rfl
      have hyes := cntOf_yes xs fs src i
      have hno := cntOf_no xs fs src i
      obtain ⟨hAi, hA9⟩ := (pand1023 (xs.getD i 0)).choose_spec
      obtain ⟨A, hA⟩ : ∃ A, (pand1023 (xs.getD i 0)).choose = A := ⟨_, rfl⟩
      rw [hA] at hAi hA9 hnext
      obtain ⟨x, hx⟩ : ∃ x, xs.getD i 0 = x := ⟨_, rfl⟩
      rw [hx] at hAi cx
      obtain ⟨f, hf⟩ : ∃ x, fs.getD i 0 = x := ⟨_, rfl⟩
      rw [hf] at cf hnext hyes hno
      obtain ⟨k, hk⟩ : ∃ k, A % 7 = k := ⟨_, rfl⟩
      have hk7 : k < 7 := by rw [← hk]; exact Nat.mod_lt _ (by decide)
      rw [hk] at hnext
      have cw : wr.cell? ⟨w1.heap.size, k, none⟩ = some (.string (bytes (wordsL.getD k []))) := by
        rw [hb.cell (p := ⟨w1.heap.size, k, none⟩) (by show w1.heap.size < _; rw [HWZ.out]; omega)]; exact HWC.out k hk7
      obtain ⟨S, hS⟩ : ∃ S, bytes (wordsL.getD k []) = S := ⟨_, rfl⟩
      rw [hS] at cw
      have r2 : (A : Int).tmod 7 = (k : Int) := by rw [Int.tmod_eq_emod_of_nonneg (by omega)]; omega
      have r1 : (A : Int) % 7 = (k : Int) := by omega
      have u0 : (0 : Int) ≤ i := by omega
      have u1 : (i : Int) < len0 := by omega
      have u2 : (i : Int) < len1 := by omega
      have u3 : (0 : Int) ≤ k := by omega
      have u4 : (k : Int) < 7 := by omega
      have HOW := Lib.hid how
      have HNX := Lib.hid hnext
      have HS := Lib.hid hS
      have HYES := Lib.hid hyes
      have HNO := Lib.hid hno
      have hpl : (pcsOf xs fs i).length ≤ 4294967296 := by rw [pcsOf_len]; omega
      clear how hnext hyes hno hA hx hf hk hS
      obtain ⟨c, hc⟩ : ∃ c, cntOf xs fs src i = c := ⟨_, rfl⟩
      rw [hc] at hcl ⊢
      have HC := Lib.hid hc
      clear hc
      have e3 : ∀ o : Obj, (wr.alloc o).drew.cell? ⟨b0, o0 + i, none⟩ = some (.int .i64 x) ∧ (wr.alloc o).drew.cell? ⟨b1, o1 + i, none⟩ = some (.int .i64 f) ∧ (wr.alloc o).drew.cell? ⟨w1.heap.size, k, none⟩ = some (.string S) := fun o => by
        have hbo : Below wr.heap.size wr (wr.alloc o).drew := ((Below.refl _ _).alloc (Nat.le_refl _) _).drew
        exact ⟨(hbo.cell (p := ⟨b0, o0 + i, none⟩) (by show b0 < _; omega)).trans cx, (hbo.cell (p := ⟨b1, o1 + i, none⟩) (by show b1 < _; omega)).trans cf, (hbo.cell (p := ⟨w1.heap.size, k, none⟩) (by show w1.heap.size < _; have := HWZ.out; omega)).trans cw⟩
      have E3 := Lib.hid e3
      have hltw : w1.heap.size < W.heap.size := by have := HWZ.out; omega
      clear e3
      go_wp2
      go_region_held3 (fun V : World => V.cell? ⟨b0, o0 + i, none⟩ = some (.int .i64 x) ∧ V.cell? ⟨b1, o1 + i, none⟩ = some (.int .i64 f) ∧ V.cell? ⟨w1.heap.size, k, none⟩ = some (.string S))
        (first | exact ⟨cx, cf, cw⟩ | exact E3.out _ | exact ⟨(hb5.cell (p := ⟨b0, o0 + i, none⟩) hlt0).trans (E3.out _).1, (hb5.cell (p := ⟨b1, o1 + i, none⟩) hlt1).trans (E3.out _).2.1, (hb5.cell (p := ⟨w1.heap.size, k, none⟩) hltw).trans (E3.out _).2.2⟩)
        ((refine stepl_piece (by rfl) _ _ (by rfl) W.heap.size u8 (.slice (some ⟨wr.heap.size, 0, none⟩) 1 1) (pcsOf xs fs i) (pcsOf xs fs (i + 1)) (wordsL.getD k [], f) (by rfl) (OwnP.keep HOW.out ((Below.refl _ _).alloc (Nat.le_refl _) _).drew) (by rfl) (one_piece wr.drew _ S f HS.out) hpl (by simp; omega) HNX.out ?_; intro v5 w5 ho5 hb5 hG5 hO5))
      have c5 := (hb5.cell (p := ⟨b1, o1 + i, none⟩) hlt1).trans (E3.out (.cells #[.string S, .int .i64 f] 33)).2.1
      have hb7 := (hb.trans (((Below.refl wr.heap.size wr).alloc (Nat.le_refl _) (.cells #[.string S, .int .i64 f] 33)).drew.mono hbz)).trans hb5
      have HO5 := Lib.hid ho5
      clear hG5 hO5 hb5 ho5 cx cf cw hb
      have hway : (0 ≤ f ∧ f ≤ len2) ∨ (f < 0) ∨ (0 ≤ f ∧ (len2 : Int) < f) := by omega
      rcases hway with ⟨y1, y2⟩ | y1 | ⟨y1, y2⟩
      · have hn := HYES.out ⟨y1, by rw [E2.out]; exact y2⟩
        rw [HC.out] at hn
        have HN := Lib.hid hn
        clear hn
        go_wp2
        go_roundw
        case rel => exact ⟨i + 1, by go_num, by omega, by rw [HN.out]; go_num, HO5.out, hb7⟩
        case measure => simp [intOf]; omega
      · have hn := HNO.out (fun h => by omega)
        rw [HC.out] at hn
        have HN := Lib.hid hn
        have y3 : ¬ 0 ≤ f := by omega
        clear hn
        go_wp2
        go_roundw
        case rel => exact ⟨i + 1, by go_num, by omega, by rw [HN.out], HO5.out, hb7⟩
        case measure => simp [intOf]; omega
      · have hn := HNO.out (fun h => by rw [E2.out] at h; omega)
        rw [HC.out] at hn
        have HN := Lib.hid hn
        have y3 : ¬ f ≤ len2 := by omega
        clear hn
        go_wp2
        go_roundw
        case rel => exact ⟨i + 1, by go_num, by omega, by rw [HN.out], HO5.out, hb7⟩
        case measure => simp [intOf]; omega
    · obtain rfl : i = len0 := by omega
      have c6 := HB2.out.trans (hb.mono HB2.out.size)
      have hpt := pcsOf_text xs fs i
      have hpl := pcsOf_len xs fs i
      have hwd := pcsOf_word xs fs i
      have hcn : cntOf xs fs src i = ((pcsOf xs fs i).filter (M.okP src)).length := rfl
      obtain ⟨L, hL⟩ : ∃ L, pcsOf xs fs i = L := ⟨_, rfl⟩
      rw [hL] at hpt hpl hwd hcn how
      have R1 := Lib.hid (psegs_any u8 (.slice a2 src.length cap2) L src _ wr (HT.out.keep c6) how.ps (by have h := I2.out.keep hb; rw [← E2.out] at h; exact h) (by omega) (by omega) (by rw [E2.out]; omega) rfl)
      rw [E2.out] at R1
      have hrise0 : ∀ G, M.segsP (M.textP L) src 0 L = G → ∀ (i j : Nat) (hij : i < j) (hj : j < G.length), M.Lt2 (M.pos (G[i]'(by omega))) (M.pos G[j]) := by rintro G rfl; exact M.words_rise src L hwd
      have hgl := M.segsP_len (M.textP L) src L 0
      rw [← hcn] at hgl
      obtain ⟨G, hG⟩ : ∃ G, M.segsP (M.textP L) src 0 L = G := ⟨_, rfl⟩
      rw [hG] at R1 hgl
      have hrise := hrise0 G hG
      obtain ⟨g, hg⟩ : ∃ g, cntOf xs fs src i = g := ⟨_, rfl⟩
      rw [hg] at hgl hcl ⊢
      have HR := Lib.hid hrise
      have HG := Lib.hid hgl
      have C6 := Lib.hid c6
      obtain ⟨a8, cap8, hv8, -⟩ := id how.ps
      rw [List.length_map, hpl] at hv8
      subst hv8
      clear hpt hpl hwd hcn hL how hrise hrise0 hgl hG hg c6 hb hlt
      go_wp2_with fail
      refine R1.out.mono ?_
      rintro e w5 ⟨v5, rfl, ho5, hb5⟩
      have c7 := C6.out.trans (hb5.mono C6.out.size)
      have hs5 := ssAt_of ho5
      obtain ⟨a5, cap5, rfl, -⟩ := id hs5
      rw [HG.out] at hs5 ⊢
      have HS5 := Lib.hid hs5
      have C7 := Lib.hid c7
      clear ho5 hb5 hs5 c7
      go_wp2
      go_loopw [13] (fun iv wx => ∃ m q : Nat, iv = .int .i64 (m : Int) ∧ 1 ≤ m ∧ m ≤ g + 1 ∧ wx = w5.drewN q) (fun iv _ => g + 1 - (intOf iv).toNat)
      case atStart => exact ⟨1, 0, rfl, by omega, by omega, rfl⟩
      case round =>
        obtain ⟨m, q, rfl, hm, hm2, rfl⟩ := hrel
        by_cases hmg : m < g
        · obtain ⟨d, rfl⟩ : ∃ d, m = d + 1 := ⟨m - 1, by omega⟩
          obtain ⟨b, off, rfl, hbk, c0, c1, c2, c3⟩ := ssAt_get HS5.out (d + 1) (by rw [HG.out]; exact hmg)
          obtain ⟨b', off', hb', -, d0, d1, d2, d3⟩ := ssAt_get HS5.out d (by rw [HG.out]; omega)
          simp only [Option.some.injEq, Addr.mk.injEq, and_true] at hb'
          obtain ⟨rfl, rfl⟩ := hb'
          have hr := HR.out d (d + 1) (by omega) (by rw [HG.out]; exact hmg)
          obtain ⟨x, hx⟩ : ∃ x, (G[d]'(by rw [HG.out]; omega)) = x := ⟨_, rfl⟩
          obtain ⟨y, hy⟩ : ∃ x, (G[d + 1]'(by rw [HG.out]; exact hmg)) = x := ⟨_, rfl⟩
          rw [hx] at d0 d1 hr
          rw [hy] at c0 c1 hr
          obtain ⟨x0, x1, x2, x3⟩ := x
          obtain ⟨y0, y1, y2, y3⟩ := y
          simp only [M.Lt2, M.pos] at c0 c1 d0 d1 hr
          obtain ⟨X0, hX0⟩ : ∃ X : Int, (x0 : Int) = X := ⟨_, rfl⟩
          obtain ⟨X1, hX1⟩ : ∃ X : Int, (x1 : Int) = X := ⟨_, rfl⟩
          obtain ⟨Y0, hY0⟩ : ∃ X : Int, (y0 : Int) = X := ⟨_, rfl⟩
          obtain ⟨Y1, hY1⟩ : ∃ X : Int, (y1 : Int) = X := ⟨_, rfl⟩
          rw [hX0] at d0
          rw [hX1] at d1
          rw [hY0] at c0
          rw [hY1] at c1
          have hw : (decide (Y0 < X0) = false ∧ (Y0 == X0) = false) ∨ (decide (Y0 < X0) = false ∧ (Y0 == X0) = true ∧ decide (Y1 ≤ X1) = false) := by
            rcases hr with h | ⟨h, h2⟩
            · left; exact ⟨by simp; omega, by rw [beq_eq_false_iff_ne]; omega⟩
            · right; exact ⟨by simp; omega, by rw [beq_iff_eq]; omega, by simp; omega⟩
          have i1 : (0 : Int) ≤ (d + 1 : Nat) := by omega
          have i2 : ((d + 1 : Nat) : Int) < g := by omega
          have i3 : (0 : Int) ≤ d := by omega
          have i4 : (d : Int) < g := by omega
          have i5 : IntKind.i64.wrap (((d + 1 : Nat) : Int) - 1) = (d : Int) := by rw [IntKind.wrap_i64]; omega
          clear c2 c3 d2 d3 hx hy hr hX0 hX1 hY0 hY1
          rcases hw with ⟨t1, t2⟩ | ⟨t1, t2, t3⟩
          all_goals
            go_wp2
            go_quiet (fail)
            go_wp2
            go_roundw
            case rel => exact ⟨d + 1 + 1, _, by go_num, by omega, by omega, rfl⟩
            case measure => simp [intOf]; omega
        · clear hm
          have hmg2 : decide ((m : Int) < g) = false := by simp; omega
          go_wp2
          go_ret
          exact ⟨rfl, pbelow_drewN C7.out _⟩
end Go.Proofs.YtpedipalpebolaaDoor
