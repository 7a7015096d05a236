/- Layouts: render.Pieces is the page's own layout. -/
import Derived.Test.YtehofomfblfhaaaYProc
import Derived.Test.YtehofomfblfhaaaYSame
import Derived.Deep.Onto
namespace Go.Proofs.Ytehofomfblfhaaa
open Go.RowKit
set_option linter.unusedVariables false
set_option linter.unusedSimpArgs false

theorem capZ_min (z a b : Int) (hab : a ≤ b) : max a (min z b) = capZ z a b := by
  unfold capZ
  split
  · omega
  · split <;> omega
theorem capZ_le (z a b : Int) (hab : a ≤ b) : capZ z a b ≤ b := by
  unfold capZ
  split
  · omega
  · split <;> omega
theorem built_en0 (c0 c1 c2 c3 c4 c5 c6 c7 c8 c9 c10 : Value) : Try.prog.built 58 [(0, .agg #[c0, c1, c2, c3, c4, c5, c6, c7, c8, c9, c10])] = some #[c0, c1, c2, c3, c4, c5, c6, c7, c8, c9, c10, .int .i64 0, .bool false, .int .i64 0] := by
  kernel_rfl
theorem wpl_buildK {P : Program} {ops : Array Oper} {rest : List Oper} {o : Oper} {a : Act} {w : World} {Q : Exit → Act → World → Prop} (hg : o.guard = none) (t : TypeId) (parts : Array (Nat × Operand)) (ho : o.op = .build t parts) (cells : Array Value)
    (hf : P.built t (parts.map fun (i, x) => (i, a.eval x)).toList = some cells) (h : wpList P ops Q rest (a.put o.dst (.agg cells)) w) : wpList P ops Q (o :: rest) a w :=
  wpList_build hg t parts ho (by rw [hf]; rfl) (by rw [hf]; exact h)
theorem wpl_bsE {ops : Array Oper} {rest : List Oper} {o : Oper} {a : Act} {w : World} {Q : Exit → Act → World → Prop} (hg : o.guard = none) (x : Operand) (ho : o.op = .buildSlice 48 1 #[(0, x)])
    (c0 c1 c2 c3 c4 c5 c6 c7 c8 c9 c10 c11 c12 c13 : Value) (hx : a.eval x = .agg #[c0, c1, c2, c3, c4, c5, c6, c7, c8, c9, c10, c11, c12, c13])
    (h : wpList Try.prog ops Q rest (a.put o.dst (.slice (some ⟨w.heap.size, 0, none⟩) 1 1)) (w.alloc (.cells #[c0, c1, c2, c3, c4, c5, c6, c7, c8, c9, c10, c11, c12, c13] 58))) : wpList Try.prog ops Q (o :: rest) a w :=
  wpList_plain hg fun _ hK => wp_bsE x ho c0 c1 c2 c3 c4 c5 c6 c7 c8 c9 c10 c11 c12 c13 hx (hK _ _ h)
theorem pr_any (C N lb K0 : Nat) (w0 WN w : World) (tv ov : Value) (width ind col : Nat) (te : List (List Value)) (o : List Pc) (x : It) (R : List It) (e : List Value)
    (hly : Ly N lb K0 w0 WN w tv ov width ind col te o) (htd : TodoR C N lb WN R te) (hen : EnR C N lb WN x R e) (hri : RI (x :: R) col o) (hi : ind ≤ 16) (hC : C ≤ 100000000) (hwd : width ≤ 1000000000) :
    Calls Try.prog 26 #[.pointer (some ⟨lb, 0, none⟩), .agg e.toArray] w (PrP C N lb K0 w0 WN width ind x R col o) := by
  obtain ⟨d, -, hr⟩ := hri.ok x (by simp)
  have hk : x.k = 1 ∨ x.k = 2 ∨ x.k = 3 ∨ x.k = 4 ∨ x.k = 5 ∨ x.k = 6 ∨ x.k = 7 := by
    rw [rightD_is] at hr
    by_cases h1 : x.k = 1
    · exact .inl h1
    rw [if_neg h1] at hr
    by_cases h2 : x.k = 2 ∨ x.k = 3 ∨ x.k = 4
    · omega
    rw [if_neg h2] at hr
    by_cases h5 : x.k = 5 ∨ x.k = 6 ∨ x.k = 7
    · omega
    rw [if_neg h5] at hr
    cases hr
  rcases hk with h | h | h | h | h | h | h
  · exact pr_text C N lb K0 w0 WN w tv ov width ind col te o x R e h hly htd hen hri hi
  · exact pr_space C N lb K0 w0 WN w tv ov width ind col te o x R e h hly htd hen hri hi
  · exact pr_soft C N lb K0 w0 WN w tv ov width ind col te o x R e h hly htd hen hri hi
  · exact pr_hard C N lb K0 w0 WN w tv ov width ind col te o x R e h hly htd hen hri hi
  · exact pr_cat C N lb K0 w0 WN w tv ov width ind col te o x R e h hly htd hen hri hi hC
  · exact pr_group C N lb K0 w0 WN w tv ov width ind col te o x R e h hly htd hen hri hi hC hwd
  · exact pr_nest C N lb K0 w0 WN w tv ov width ind col te o x R e h hly htd hen hri hi hC
theorem en_ones {C N lb : Nat} {WN : World} {x : It} {R : List It} {e : List Value} (h : EnR C N lb WN x R e) : e.length = 14 ∧ ∀ c ∈ e, c.oneCell' = true := by
  obtain ⟨xd, vk, af, rfl, hx, hv, -⟩ := h
  refine ⟨rfl, fun c hc => ?_⟩
  simp only [ec, List.mem_cons, List.mem_nil_iff, or_false] at hc
  rcases hc with rfl | rfl | rfl | rfl | rfl | rfl | rfl | rfl | rfl | rfl | rfl | rfl | rfl | rfl
  all_goals first | rfl | assumption
/-- On the way. -/
def PiR (C N lb K0 : Nat) (w0 WN : World) (width ind : Nat) (T : List Pc) (g : Nat) (wr : World) : Prop :=
  ∃ (tv ov : Value) (te : List (List Value)) (R : List It) (col : Nat) (o : List Pc), Ly N lb K0 w0 WN wr tv ov width ind col te o ∧ TodoR C N lb WN R te ∧ RI R col o ∧ o ++ lay width ind R col = T ∧ rowN R = g
set_option maxRecDepth 100000 in
set_option maxHeartbeats 8000000 in
theorem pieces_any : PieC := by
  intro k f s kids v zw zi width indent w hv hsz hN hw hi
  have hi16 : indent ≤ 16 := by have := capZ_le zi 0 16 (by omega); omega
  have hw1000 : width ≤ 1000 := by have := capZ_le zw 1 1000 (by omega); omega
  have hv' := hv
  obtain ⟨a, c, rfl⟩ := hv.slice
  obtain ⟨n, hn⟩ : ∃ n, kids.len = n := ⟨_, rfl⟩
  obtain ⟨W1, hW1⟩ : ∃ W, w.alloc (.cells #[.int .i64 k, .int .i64 f, .string s, .slice a n c] 24) = W := ⟨_, rfl⟩
  have b1 : Below w.heap.size w W1 := by rw [← hW1]; exact (Below.refl _ _).alloc (Nat.le_refl _) _
  have hd := BK.new 24 w #[.int .i64 k, .int .i64 f, .string s, .slice a n c]
  rw [hW1] at hd
  have RT := Lib.hid (rightT_any k f s kids _ W1 (hv'.keep b1))
  have HFS := Lib.hid hv'
  rw [hn] at RT HFS
  have B1 := Lib.hid b1
  have HD := Lib.hid hd
  have HW1 := Lib.hid hW1
  rw [hn]
  cases hr : rightD k f s kids 200 with
  | false =>
    rw [hr] at RT
    have e0 : renP k f s kids width indent = [] := by unfold renP; rw [hr]; rfl
    rw [e0]
    clear hW1 hd b1 hv hv' hn hr e0 hw hi
    unfold dv at RT ⊢
    go_enter Try.func12, Try.ntmps12
    go_upto_region 1 with fail
    rw [HW1.out]
    go_wp2_with (refine wpl_ldK Try.underlying24 rfl infoD4 rfl _ rfl w.heap.size [.int .i64 k, .int .i64 f, .string s, .slice a n c] rfl HD.out rfl ?_)
    refine (RT.out).mono ?_
    rintro e w2 ⟨rfl, hb2⟩
    have hfin := B1.out.trans (hb2.mono B1.out.size)
    clear hb2
    go_wp2
    go_ret
    exact ⟨_, rfl, ownV_nil _ _ _ _, hfin⟩
  | true =>
    rw [hr] at RT
    have HR := Lib.hid hr
    have e0 : renP k f s kids width indent = layD width indent k f s kids := by unfold renP; rw [hr]; rfl
    rw [e0]
    have m1 : max 1 (min zw 1000) = (width : Int) := by rw [capZ_min _ _ _ (by omega), hw]
    have m2 : max 0 (min zi 16) = (indent : Int) := by rw [capZ_min _ _ _ (by omega), hi]
    clear hW1 hd b1 hv hv' hn hr e0 hw hi
    unfold dv at RT ⊢
    go_enter Try.func12, Try.ntmps12
    go_upto_region 1 with fail
    rw [HW1.out]
    go_wp2_with (refine wpl_ldK Try.underlying24 rfl infoD4 rfl _ rfl w.heap.size [.int .i64 k, .int .i64 f, .string s, .slice a n c] rfl HD.out rfl ?_)
    refine (RT.out).mono ?_
    rintro e w2 ⟨rfl, hb2⟩
    have D2 := Lib.hid (B1.out.trans (hb2.mono B1.out.size))
    have HD2 := Lib.hid (HD.out.keep hb2)
    clear hb2 RT HD
    go_upto_region 4 with fail
    have hlb := BK.new 50 w2 #[.slice none 0 0, .int .i64 (width : Int), .int .i64 (indent : Int), .int .i64 0, .slice none 0 0]
    have b3 : Below w2.heap.size w2 (w2.alloc (.cells #[.slice none 0 0, .int .i64 (width : Int), .int .i64 (indent : Int), .int .i64 0, .slice none 0 0] 50)) := (Below.refl _ _).alloc (Nat.le_refl _) _
    have z3 : (w2.alloc (.cells #[.slice none 0 0, .int .i64 (width : Int), .int .i64 (indent : Int), .int .i64 0, .slice none 0 0] 50)).heap.size = w2.heap.size + 1 := by simp
    obtain ⟨w3, hw3⟩ : ∃ x, w2.alloc (.cells #[.slice none 0 0, .int .i64 (width : Int), .int .i64 (indent : Int), .int .i64 0, .slice none 0 0] 50) = x := ⟨_, rfl⟩
    rw [hw3] at hlb b3 z3 ⊢
    obtain ⟨lb, hlbe⟩ : ∃ x, w2.heap.size = x := ⟨_, rfl⟩
    rw [hlbe] at hlb z3 ⊢
    have D3 := Lib.hid (D2.out.trans (b3.mono D2.out.size))
    have HLB := Lib.hid hlb
    have HD3 := Lib.hid (HD2.out.keep b3)
    have K0 := Lib.hid (show w.heap.size ≤ lb by have := D2.out.size; omega)
    have Z3 := Lib.hid z3
    have ME1 := Lib.hid (me_any k f s kids w3 (.slice a n c) 200 (HFS.out.keep D3.out) HR.out (by omega))
    unfold dv at ME1
    clear hw3 b3 z3 hlb hlbe m1 m2 HD2
    go_wp2_with (refine wpl_ldK Try.underlying24 rfl infoD4 rfl _ rfl w.heap.size [.int .i64 k, .int .i64 f, .string s, .slice a n c] rfl HD3.out rfl ?_)
    refine (ME1.out).mono ?_
    rintro e WN ⟨xd, vk, rfl, hx, hv2, hpa, hb4⟩
    rename_i K2 hK2
    have HLN := Lib.hid (HLB.out.keep hb4)
    have DN := Lib.hid (D3.out.trans (hb4.mono D3.out.size))
    have ZN := Lib.hid (show lb < WN.heap.size from HLN.out.lt)
    have HPA := Lib.hid (hpa.mono (Q := fun b => b < WN.heap.size ∧ b ≠ lb) (fun b hb => ⟨hb.2, by have := Z3.out; omega⟩))
    obtain ⟨AL, hAL⟩ : ∃ x, allD k s kids = x := ⟨_, rfl⟩
    obtain ⟨HH, hHH⟩ : ∃ x, hardD k kids = x := ⟨_, rfl⟩
    obtain ⟨LL, hLL⟩ : ∃ x, lbD k s kids = x := ⟨_, rfl⟩
    have en0 : Hid (EnR 400000 WN.heap.size lb WN ⟨k, f, s, kids, 0, false⟩ [] (ec k f s xd vk AL HH LL 0 false 0)) := Lib.hid (by
      refine ⟨xd, vk, 0, by rw [← hAL, ← hHH, ← hLL], hx, hv2, HPA.out, fun _ => rfl, ?_⟩
      simp only [itSz]; omega)
    rw [hAL, hHH, hLL]
    clear hAL hHH hLL hpa hb4 HLB HD3 ME1 HPA D3
    unfold ec at en0
    unfold pcs
    obtain ⟨D1, e1⟩ : ∃ x : Int, (M.wl AL : Int) = x := ⟨_, rfl⟩
    obtain ⟨D2', e2⟩ : ∃ x, bytes (M.hd3 AL) = x := ⟨_, rfl⟩
    obtain ⟨D3', e3⟩ : ∃ x, bytes (M.tl3 AL) = x := ⟨_, rfl⟩
    obtain ⟨l1, e4⟩ : ∃ x : Int, (LL.1 : Int) = x := ⟨_, rfl⟩
    obtain ⟨l2, e5⟩ : ∃ x, LL.2 = x := ⟨_, rfl⟩
    rw [e1, e2, e3, e4, e5] at en0 ⊢
    clear e1 e2 e3 e4 e5
    have c0 : WN.cell? ⟨lb, 0, none⟩ = some (.slice none 0 0) := HLN.out.cell 0
    simp only []
    refine hK2 _ _ ?_
    clear hK2 K2
    refine wpl_buildK rfl 58 _ rfl #[.int .i64 k, .int .i64 f, .string s, xd, vk, .int .i64 D1, .string D2', .string D3', .bool HH, .int .i64 l1, .bool l2, .int .i64 0, .bool false, .int .i64 0] (by simp only [List.map_toArray, List.map_cons, List.map_nil]; exact built_en0 _ _ _ _ _ _ _ _ _ _ _) ?_
    refine wpl_bsE rfl _ rfl _ _ _ _ _ _ _ _ _ _ _ _ _ _ rfl ?_
    have hb5 : Below WN.heap.size WN (WN.alloc (.cells #[.int .i64 k, .int .i64 f, .string s, xd, vk, .int .i64 D1, .string D2', .string D3', .bool HH, .int .i64 l1, .bool l2, .int .i64 0, .bool false, .int .i64 0] 58)) := (Below.refl _ _).alloc (Nat.le_refl _) _
    have hl5 := HLN.out.keep hb5
    have ht5 : OwnV 58 14 WN.heap.size (WN.alloc (.cells #[.int .i64 k, .int .i64 f, .string s, xd, vk, .int .i64 D1, .string D2', .string D3', .bool HH, .int .i64 l1, .bool l2, .int .i64 0, .bool false, .int .i64 0] 58)) (.slice (some ⟨WN.heap.size, 0, none⟩) 1 1) [[.int .i64 k, .int .i64 f, .string s, xd, vk, .int .i64 D1, .string D2', .string D3', .bool HH, .int .i64 l1, .bool l2, .int .i64 0, .bool false, .int .i64 0]] :=
      ⟨World.ownsRow_lit WN #[.int .i64 k, .int .i64 f, .string s, xd, vk, .int .i64 D1, .string D2', .string D3', .bool HH, .int .i64 l1, .bool l2, .int .i64 0, .bool false, .int .i64 0] 1 (Nat.le_refl _) (by decide) rfl, by simp, fun y hy => by rw [List.mem_singleton.1 hy]; exact (en_ones en0.out).2⟩
    have c5 : (WN.alloc (.cells #[.int .i64 k, .int .i64 f, .string s, xd, vk, .int .i64 D1, .string D2', .string D3', .bool HH, .int .i64 l1, .bool l2, .int .i64 0, .bool false, .int .i64 0] 58)).cell? ⟨lb, 0, none⟩ = some (.slice none 0 0) := hl5.cell 0
    have f5 := frozen_of_row (WN.alloc (.cells #[.int .i64 k, .int .i64 f, .string s, xd, vk, .int .i64 D1, .string D2', .string D3', .bool HH, .int .i64 l1, .bool l2, .int .i64 0, .bool false, .int .i64 0] 58)) lb 0 _ _ hl5
    obtain ⟨W4, hW4⟩ : ∃ x, WN.alloc (.cells #[.int .i64 k, .int .i64 f, .string s, xd, vk, .int .i64 D1, .string D2', .string D3', .bool HH, .int .i64 l1, .bool l2, .int .i64 0, .bool false, .int .i64 0] 58) = x := ⟨_, rfl⟩
    rw [hW4] at hb5 hl5 ht5 c5 f5 ⊢
    have L0 : Hid (Ly WN.heap.size lb w.heap.size w WN (W4.setCell ⟨lb, 0, none⟩ (.slice (some ⟨WN.heap.size, 0, none⟩) 1 1)) (.slice (some ⟨WN.heap.size, 0, none⟩) 1 1) (.slice none 0 0) width indent 0 [[.int .i64 k, .int .i64 f, .string s, xd, vk, .int .i64 D1, .string D2', .string D3', .bool HH, .int .i64 l1, .bool l2, .int .i64 0, .bool false, .int .i64 0]] []) := Lib.hid (by
      have h2 := hl5.setCell 0 (.slice (some ⟨WN.heap.size, 0, none⟩) 1 1)
      simp only [List.setIfInBounds_toArray, List.set_cons_succ, List.set_cons_zero] at h2
      refine ⟨h2, OwnV.setOther ht5 ⟨lb, 0, none⟩ _ (by simp only [Value.ownBlock, ne_eq, Option.some.injEq]; have := ZN.out; omega), ownV_nil _ _ _ _, ZN.out, K0.out, ?_, fun b hb hne => ?_, ?_⟩
      · exact (DN.out.trans (hb5.mono DN.out.size)).setCell (p := ⟨lb, 0, none⟩) K0.out _
      · rw [heap_setCell_other _ _ _ _ hne, hb5.block b hb]
      · simp only [World.setCell, Array.size_modify]; exact hb5.size)
    have P0 : Hid (PiR 400000 WN.heap.size lb w.heap.size w WN width indent (layD width indent k f s kids) (1 + FoN kids) (W4.setCell ⟨lb, 0, none⟩ (.slice (some ⟨WN.heap.size, 0, none⟩) 1 1))) := Lib.hid (by
      refine ⟨_, _, [[.int .i64 k, .int .i64 f, .string s, xd, vk, .int .i64 D1, .string D2', .string D3', .bool HH, .int .i64 l1, .bool l2, .int .i64 0, .bool false, .int .i64 0]], [⟨k, f, s, kids, 0, false⟩], 0, [], L0.out, .snoc (te := []) .nil en0.out, ⟨?_, ?_, ?_, ?_, ?_, ?_⟩, rfl, rfl⟩
      · intro y hy; rw [List.mem_singleton.1 hy]; exact ⟨200, by simp, HR.out⟩
      · exact ⟨fun _ y hy => by simp at hy, trivial⟩
      · simp only [rowSz]; omega
      · simp only [rowSz]; omega
      · simp only [rowN, List.length_nil]; omega
      · intro y hy h; rw [List.mem_singleton.1 hy] at h; cases h)
    obtain ⟨W5, hW5⟩ : ∃ x, W4.setCell ⟨lb, 0, none⟩ (.slice (some ⟨WN.heap.size, 0, none⟩) 1 1) = x := ⟨_, rfl⟩
    rw [hW5] at P0
    have HW5 := Lib.hid hW5
    obtain ⟨T, hT⟩ : ∃ T, layD width indent k f s kids = T := ⟨_, rfl⟩
    rw [hT] at P0
    have HT0 := Lib.hid hT
    clear hb5 hl5 ht5 hW4 L0 hW5 hT en0 c0 HLN hx hv2
    go_upto_region 5 with fail
    (try rw [HW5.out])
    obtain ⟨N, hNN⟩ : ∃ x, WN.heap.size = x := ⟨_, rfl⟩
    rw [hNN] at P0
    have KK := Lib.hid (show w.heap.size ≤ N by have := K0.out; have := ZN.out; omega)
    clear hNN ZN HW5
    go_loopg [8] (1 + FoN kids) (fun gi _ wr => PiR 400000 N lb w.heap.size w WN width indent T gi wr)
    case atStart => exact P0.out
    case round =>
      obtain ⟨tv, ov, te, R, col, o, hly, htd, hri, heq, hgg⟩ := hrel
      cases htd with
      | nil =>
        obtain ⟨ta, tc, rfl⟩ : ∃ a c, tv = .slice a 0 c := by
          obtain ⟨a, c, e, _⟩ := hly.ht.vs
          exact ⟨a, c, e⟩
        have q0 := hly.hb.cell 0
        have q4 := hly.hb.cell 4
        simp only [List.getElem?_toArray, List.getElem?_cons_succ, List.getElem?_cons_zero] at q0 q4
        have HLY := Lib.hid hly
        have HEQ := Lib.hid (show o = T by rw [← heq, lay_nil, List.append_nil])
        clear hly hri heq hgg
        as_aux_lemma =>
          go_wp2
          go_ret
          refine ⟨_, rfl, ?_, HLY.out.bl⟩
          rw [show layD width indent k f s kids = o from HT0.out.trans HEQ.out.symm]
          exact ⟨HLY.out.ho.1.mono KK.out, HLY.out.ho.2⟩
      | snoc htd hen =>
        rename_i x R te e
        obtain ⟨g, cap, rfl, hc1, hc2, hBg, hgl, hpop, hrg⟩ := hly.ht.pop
        obtain ⟨m, hm⟩ : ∃ m, te.length = m := ⟨_, rfl⟩
        have hml : m ≤ 1000000 := by
          have h1 := htd.len
          have h2 := row_len R
          have h3 := hri.nb
          simp only [rowN] at h3
          omega
        rw [hm] at hly hc1 hpop hrg
        have q0 := hly.hb.cell 0
        simp only [List.getElem?_toArray, List.getElem?_cons_succ, List.getElem?_cons_zero] at q0
        obtain ⟨e14, eone⟩ := en_ones hen
        have HLY := Lib.hid hly
        have HPOP := Lib.hid hpop
        have HRG := Lib.hid hrg
        have HTD := Lib.hid htd
        have HEN := Lib.hid hen
        have HRI := Lib.hid hri
        have HEQ := Lib.hid heq
        have HGG := Lib.hid hgg
        have E14 := Lib.hid e14
        have EO := Lib.hid (all_oneCell_toArray eone)
        have HGL := Lib.hid hgl
        clear hly hpop hrg htd hen hri heq hgg e14 eone hm hgl hBg
        unfold maxLen at hc2
        have mc : (m : Int) ≤ cap := by omega
        have wm : IntKind.i64.wrap (m : Int) = m := by rw [IntKind.wrap_i64]; omega
        as_aux_lemma =>
          go_upto_region 6 with fail
          refine wp_region_noPanic ?_
          refine wp_region_to 13 (S := fun V => V.cell? ⟨lb, 0, none⟩ = some (.slice (some ⟨g, 0, none⟩) (m + 1) cap) ∧ V.rangeAt g (m * 14) e) (by kernel_rfl) ⟨HLY.out.drew.hb.cell 0, HRG.out⟩ (fun hS => ?_)
          refine dtp 0 ?_
          refine dtp 1 ?_
          refine dtp 2 ?_
          refine dtk 3 ?_
          refine dtp 4 ?_
          refine dtp 5 ?_
          refine dtp 6 ?_
          refine dtk 7 ?_
          refine dtp 8 ?_
          refine dtp 9 ?_
          refine dtp 10 ?_
          refine dtk (v := .agg e.toArray) 11 (hy := yieldsIf_load_mid (by rfl) 58 _ rfl g (m * 14) rfl e _ (fun w hS => hS.2) Try.underlying58 rfl (by rw [E14.out]; exact infoEn1)) ?_
          refine AnyTo.ready (rs := [12]) (by kernel_rfl) (by simp) ?_
          refine ReadyTo.cons rfl (fun K hK => ?_) ReadyTo.nil
          go_simp
          have hzb := BK.new 58 wr.drew #[.int .i64 0, .int .i64 0, .string ⟨#[]⟩, .slice none 0 0, .slice none 0 0, .int .i64 0, .string ⟨#[]⟩, .string ⟨#[]⟩, .bool false, .int .i64 0, .bool false, .int .i64 0, .bool false, .int .i64 0]
          have bz : Below wr.heap.size wr (wr.drew.alloc (.cells #[.int .i64 0, .int .i64 0, .string ⟨#[]⟩, .slice none 0 0, .slice none 0 0, .int .i64 0, .string ⟨#[]⟩, .string ⟨#[]⟩, .bool false, .int .i64 0, .bool false, .int .i64 0, .bool false, .int .i64 0] 58)) := (Below.refl wr.heap.size wr).drew.alloc (Nat.le_refl _) _
          refine hK.out _ (wr.drew.alloc (.cells #[.int .i64 0, .int .i64 0, .string ⟨#[]⟩, .slice none 0 0, .slice none 0 0, .int .i64 0, .string ⟨#[]⟩, .string ⟨#[]⟩, .bool false, .int .i64 0, .bool false, .int .i64 0, .bool false, .int .i64 0] 58)) ⟨(HLY.out.keep bz).hb.cell 0, rangeAt_keep HRG.out (bz.block g HGL.out)⟩ (fun hS => ?_)
          clear hK K
          obtain ⟨w6, hw6⟩ : ∃ x, wr.drew.alloc (.cells #[.int .i64 0, .int .i64 0, .string ⟨#[]⟩, .slice none 0 0, .slice none 0 0, .int .i64 0, .string ⟨#[]⟩, .string ⟨#[]⟩, .bool false, .int .i64 0, .bool false, .int .i64 0, .bool false, .int .i64 0] 58) = x := ⟨_, rfl⟩
          rw [hw6] at hzb bz hS ⊢
          clear hw6
          refine AnyTo.ready (rs := [13]) (by kernel_rfl) (by simp) ?_
          refine ReadyTo.last rfl (by kernel_rfl) (fun K hK => ?_) ReadyTo.nil
          rw [if_pos (by rfl)]
          refine wp_store_row 58 _ _ rfl wr.heap.size e.toArray rfl rfl 58 _ hzb (by rw [List.size_toArray, E14.out]; exact infoEn1) (by simp only [List.size_toArray]; rw [E14.out]; rfl) EO.out ?_
          refine hK.out _ _ ?_
          clear hK K
          refine AnyTo.done (by kernel_rfl) ?_ _
          refine NoPanic.normal ?_
          have b7 := Lib.hid (below_setRowK bz (Nat.le_refl _) e.toArray)
          have he7 := Lib.hid (BK.set hzb e.toArray)
          obtain ⟨w7, hw7⟩ : ∃ x, w6.setRow wr.heap.size e.toArray = x := ⟨_, rfl⟩
          rw [show w6.setRow wr.drew.heap.size e.toArray = w7 from hw7] at he7
          rw [hw7] at b7 ⊢
          have he7 : Hid (BK 58 w7 wr.heap.size e.toArray) := Lib.hid he7.out
          clear hw7 hzb bz hS
          have L7 := Lib.hid (HLY.out.keep b7.out)
          have O7 := Lib.hid (HPOP.out.keep b7.out)
          have q7 := L7.out.hb.cell 0
          simp only [List.getElem?_toArray, List.getElem?_cons_succ, List.getElem?_cons_zero] at q7
          clear q0
          go_upto_region 7 with fail
          refine wp_region_noPanic ?_
          refine wp_region_to 14 (S := fun V => V.cell? ⟨lb, 0, none⟩ = some (.slice (some ⟨g, 0, none⟩) (m + 1) cap)) (by kernel_rfl) q7 (fun hS => ?_)
          refine dtp 0 ?_
          refine dtp 1 ?_
          refine dtp 2 ?_
          refine dtp 3 ?_
          refine dtk 4 ?_
          refine dtp 5 ?_
          refine dtp 6 ?_
          refine dtp 7 ?_
          refine dtk 8 ?_
          refine dtp 9 ?_
          refine dtp 10 ?_
          refine dtp 11 ?_
          refine dtp 12 ?_
          refine dtp 13 ?_
          have L8 := Lib.hid (Ly.todo (W' := w7.drew) L7.out (tv' := .slice (some ⟨g, 0, none⟩) m cap) O7.out ((Below.refl N w7).drew) (fun j _ _ => rfl))
          have he8 := Lib.hid (BK.other (w := w7.drew) he7.out (c := lb) (by have := HLY.out.hb.lt; omega) 0 (.slice (some ⟨g, 0, none⟩) m cap))
          have c0 : w7.drew.cell? ⟨lb, 0, none⟩ = some (.slice (some ⟨g, 0, none⟩) (m + 1) cap) := q7
          have f0 := frozen_of_row w7.drew lb 0 _ _ L7.out.hb
          refine AnyTo.ready (rs := [14]) (by kernel_rfl) (by simp) ?_
          refine ReadyTo.last rfl (by kernel_rfl) (fun K hK => ?_) ReadyTo.nil
          go_simp
          refine hK.out _ (w7.drew.setCell ⟨lb, 0, none⟩ (.slice (some ⟨g, 0, none⟩) m cap)) ?_
          clear hK K
          refine AnyTo.done (by kernel_rfl) ?_ _
          refine NoPanic.normal ?_
          obtain ⟨w8, hw8⟩ : ∃ x, w7.drew.setCell ⟨lb, 0, none⟩ (.slice (some ⟨g, 0, none⟩) m cap) = x := ⟨_, rfl⟩
          rw [hw8] at L8 he8 ⊢
          clear hw8 c0 f0 q7 hS L7 he7 b7 O7
          have PR := Lib.hid (pr_any 400000 N lb w.heap.size w WN w8 _ _ width indent col te o x R e L8.out HTD.out HEN.out HRI.out hi16 (by omega) (by omega))
          go_wp2_with (refine wpl_ldK Try.underlying58 rfl infoEn1 rfl _ rfl wr.heap.size e rfl he8.out E14.out ?_)
          refine (PR.out).mono ?_
          rintro e2 w9 ⟨rfl, tv9, ov9, te9, R9, col9, o9, hl9, ht9, heq9, hri9, hlt9⟩
          have FIN : Hid (PiR 400000 N lb w.heap.size w WN width indent T (rowN R9) w9) := Lib.hid ⟨tv9, ov9, te9, R9, col9, o9, hl9, ht9, hri9, by rw [heq9, HEQ.out], rfl⟩
          have LT := Lib.hid hlt9
          clear hl9 ht9 heq9 hri9 hlt9
          go_wp2
          go_roundg (rowN R9)
          case rel => exact FIN.out
          case measure => rw [← HGG.out]; exact LT.out
end Go.Proofs.Ytehofomfblfhaaa
