/- Layouts: render's layout: its state in memory; put, breakLine, fits. -/
import Derived.Test.YtehofomfblfhaaaYLeaf
import Derived.Test.YtehofomfblfhaaaYPcs
namespace Go.Proofs.Ytehofomfblfhaaa
open Go.RowKit
set_option linter.unusedVariables false
set_option linter.unusedSimpArgs false

theorem own_frame {E sz B : Nat} {w w' : World} {v : Value} {l : List (List Value)} (h : OwnV E sz B w v l) (hf : ∀ g, v.ownBlock = some g → w'.heap[g]? = w.heap[g]?) : OwnV E sz B w' v l := by
  obtain ⟨⟨h1, h2⟩, h3⟩ := h
  refine ⟨⟨h1, ?_⟩, h3⟩
  rcases h2 with h2 | ⟨g, cap, cur, rfl, hb, hg, hr⟩
  · exact .inl h2
  · exact .inr ⟨g, cap, cur, rfl, hb, by rw [hf g rfl]; exact hg, hr⟩
theorem own_ty {E sz B : Nat} {w : World} {v : Value} {l : List (List Value)} (h : OwnV E sz B w v l) {g : Nat} (hg : v.ownBlock = some g) : ∃ cs, w.heap[g]? = some (.cells cs E (0, 0)) := by
  obtain ⟨⟨_, ⟨rfl, _⟩ | ⟨g', cap, cur, rfl, _, hh, _⟩⟩, _⟩ := h
  · simp [Value.ownBlock] at hg
  · simp only [Value.ownBlock, Option.some.injEq] at hg
    subst hg
    exact ⟨_, hh⟩
theorem own_apart {E F sz sz' B B' : Nat} {w : World} {v u : Value} {l m : List (List Value)} (h : OwnV E sz B w v l) (h' : OwnV F sz' B' w u m) (hne : E ≠ F) {g : Nat} (hg : v.ownBlock = some g) : some g ≠ u.ownBlock := by
  intro e
  obtain ⟨cs, h1⟩ := own_ty h hg
  obtain ⟨ds, h2⟩ := own_ty h' e.symm
  rw [h1] at h2
  simp only [Option.some.injEq, Obj.cells.injEq] at h2
  exact hne h2.2.1
/-- The layout's state: its block, the row of what is to do, the row of pieces. -/
structure Ly (N lb K0 : Nat) (w0 WN W : World) (tv ov : Value) (wd ind col : Nat) (te : List (List Value)) (o : List Pc) : Prop where
  hb : BK 50 W lb #[tv, .int .i64 (wd : Int), .int .i64 (ind : Int), .int .i64 (col : Int), ov]
  ht : OwnV 58 14 N W tv te
  ho : OwnV 34 2 N W ov (o.map pc2)
  hlb : lb < N
  hK : K0 ≤ lb
  bl : Below K0 w0 W
  fr : ∀ b, b < N → b ≠ lb → W.heap[b]? = WN.heap[b]?
  sz : N ≤ W.heap.size
section
variable {N lb K0 : Nat} {w0 WN W W' : World} {tv ov : Value} {wd ind col : Nat} {te : List (List Value)} {o : List Pc}
theorem Ly.keep (h : Ly N lb K0 w0 WN W tv ov wd ind col te o) (hb : Below W.heap.size W W') : Ly N lb K0 w0 WN W' tv ov wd ind col te o :=
  ⟨h.hb.keep hb, h.ht.keep hb, h.ho.keep hb, h.hlb, h.hK, h.bl.trans (hb.mono (by have := h.hlb; have := h.hK; have := h.sz; omega)), fun b h1 h2 => (hb.block b (Nat.lt_of_lt_of_le h1 h.sz)).trans (h.fr b h1 h2), Nat.le_trans h.sz hb.size⟩
theorem Ly.drew (h : Ly N lb K0 w0 WN W tv ov wd ind col te o) : Ly N lb K0 w0 WN W.drew tv ov wd ind col te o := h.keep (Below.refl _ _).drew
theorem Ly.tlb (h : Ly N lb K0 w0 WN W tv ov wd ind col te o) : tv.ownBlock ≠ some lb := fun e => by have := (own_in h.ht lb e).1; have := h.hlb; omega
theorem Ly.olb (h : Ly N lb K0 w0 WN W tv ov wd ind col te o) : ov.ownBlock ≠ some lb := fun e => by have := (own_in h.ho lb e).1; have := h.hlb; omega
/-- The row of pieces has grown. -/
theorem Ly.out (h : Ly N lb K0 w0 WN W tv ov wd ind col te o) {ov' : Value} {o' : List Pc} (ho : OwnV 34 2 N W' ov' (o'.map pc2)) (hbl : Below N W W') (hfr : ∀ j, j < W.heap.size → some j ≠ ov.ownBlock → W'.heap[j]? = W.heap[j]?) :
    Ly N lb K0 w0 WN (W'.setCell ⟨lb, 4, none⟩ ov') tv ov' wd ind col te o' := by
  have hz := h.hb.lt
  have h1 : BK 50 W' lb _ := h.hb.frame (hfr lb hz fun e => h.olb e.symm)
  have h2 := h1.setCell 4 ov'
  simp only [List.setIfInBounds_toArray, List.set_cons_succ, List.set_cons_zero] at h2
  have h3 : OwnV 58 14 N W' tv te := own_frame h.ht fun g hg => hfr g (own_in h.ht g hg).2 (own_apart h.ht h.ho (by decide) hg)
  have hlb := h.hlb
  have hK := h.hK
  have sz := h.sz
  refine ⟨h2, OwnV.setOther h3 ⟨lb, 4, none⟩ ov' h.tlb, OwnV.setOther ho ⟨lb, 4, none⟩ ov' (fun e => by have := (own_in ho lb e).1; omega), h.hlb, h.hK, ?_, fun b hb hne => ?_, ?_⟩
  · exact (h.bl.trans (hbl.mono (by omega))).setCell (p := ⟨lb, 4, none⟩) hK ov'
  · rw [heap_setCell_other _ _ _ _ hne, hfr b (by omega) (fun e => by have := (own_in h.ho b e.symm).1; omega)]
    exact h.fr b hb hne
  · have := hbl.size
    simp only [World.setCell, Array.size_modify]
    omega
/-- The row of what is to do has changed. -/
theorem Ly.todo (h : Ly N lb K0 w0 WN W tv ov wd ind col te o) {tv' : Value} {te' : List (List Value)} (ht : OwnV 58 14 N W' tv' te') (hbl : Below N W W') (hfr : ∀ j, j < W.heap.size → some j ≠ tv.ownBlock → W'.heap[j]? = W.heap[j]?) :
    Ly N lb K0 w0 WN (W'.setCell ⟨lb, 0, none⟩ tv') tv' ov wd ind col te' o := by
  have hz := h.hb.lt
  have h1 : BK 50 W' lb _ := h.hb.frame (hfr lb hz fun e => h.tlb e.symm)
  have h2 := h1.setCell 0 tv'
  simp only [List.setIfInBounds_toArray, List.set_cons_succ, List.set_cons_zero] at h2
  have h3 : OwnV 34 2 N W' ov (o.map pc2) := own_frame h.ho fun g hg => hfr g (own_in h.ho g hg).2 (own_apart h.ho h.ht (by decide) hg)
  have hlb := h.hlb
  have hK := h.hK
  have sz := h.sz
  refine ⟨h2, OwnV.setOther ht ⟨lb, 0, none⟩ tv' (fun e => by have := (own_in ht lb e).1; omega), OwnV.setOther h3 ⟨lb, 0, none⟩ tv' h.olb, h.hlb, h.hK, ?_, fun b hb hne => ?_, ?_⟩
  · exact (h.bl.trans (hbl.mono (by omega))).setCell (p := ⟨lb, 0, none⟩) hK tv'
  · rw [heap_setCell_other _ _ _ _ hne, hfr b (by omega) (fun e => by have := (own_in h.ht b e.symm).1; omega)]
    exact h.fr b hb hne
  · have := hbl.size
    simp only [World.setCell, Array.size_modify]
    omega
theorem Ly.column (h : Ly N lb K0 w0 WN W tv ov wd ind col te o) (c : Nat) : Ly N lb K0 w0 WN (W.setCell ⟨lb, 3, none⟩ (.int .i64 (c : Int))) tv ov wd ind c te o := by
  have h2 := h.hb.setCell 3 (.int .i64 (c : Int))
  simp only [List.setIfInBounds_toArray, List.set_cons_succ, List.set_cons_zero] at h2
  refine ⟨h2, OwnV.setOther h.ht ⟨lb, 3, none⟩ _ h.tlb, OwnV.setOther h.ho ⟨lb, 3, none⟩ _ h.olb, h.hlb, h.hK, h.bl.setCell (p := ⟨lb, 3, none⟩) h.hK _, fun b hb hne => ?_, ?_⟩
  · rw [heap_setCell_other _ _ _ _ hne]; exact h.fr b hb hne
  · simp only [World.setCell, Array.size_modify]; exact h.sz
end
/-- What a method of the layout leaves. -/
def LyP (N lb K0 : Nat) (w0 WN : World) (wd ind col : Nat) (te : List (List Value)) (o : List Pc) (e : Ending) (w' : World) : Prop := e = .returned (.tuple #[]) ∧ ∃ tv ov, Ly N lb K0 w0 WN w' tv ov wd ind col te o
set_option maxRecDepth 100000 in
set_option maxHeartbeats 4000000 in
theorem put_any (N lb K0 : Nat) (w0 WN w : World) (tv ov : Value) (wd ind col : Nat) (te : List (List Value)) (o : List Pc) (S : ByteArray) (f : Int) (h : Ly N lb K0 w0 WN w tv ov wd ind col te o) (ho : o.length ≤ 900000) (hS : S.size ≤ 100000000) (hc : col ≤ 1000000000) :
    Calls Try.prog 39 #[.pointer (some ⟨lb, 0, none⟩), .string S, .int .i64 f] w (if S = ⟨#[]⟩ then LyP N lb K0 w0 WN wd ind col te o else LyP N lb K0 w0 WN wd ind (col + Lib.runeCount S) te (o ++ [(S, f)])) := by
  by_cases hz : S = ⟨#[]⟩
  · rw [if_pos hz]
    subst hz
    have H := Lib.hid h
    clear h
    go_enter Try.func39, Try.ntmps39
    go_wp2
    go_end0
    exact ⟨rfl, _, _, H.out⟩
  · rw [if_neg hz]
    have H := Lib.hid h
    have h0 := h.hb.cell 4
    obtain ⟨oa, oc, hov⟩ : ∃ a c, ov = .slice a o.length c := by
      obtain ⟨a, c, e, _⟩ := h.ho.vs
      exact ⟨a, c, by rw [e, List.length_map]⟩
    subst hov
    have tS : S.toList.isEmpty = false := str_isE S hz
    clear h hz
    go_enter Try.func39, Try.ntmps39
    simp only [List.getElem?_toArray, List.getElem?_cons_succ, List.getElem?_cons_zero] at h0
    go_upto_region 1 with fail
    go_upto_region 2 with (at_builtin; refine wpl_pcG rfl _ _ rfl N (.slice oa o.length oc) (.slice (some ⟨w.heap.size, 0, none⟩) 1 1) o (S, f) rfl (H.out.keep ((Below.refl _ _).alloc (Nat.le_refl _) (.cells #[.string S, .int .i64 f] 34))).ho rfl (one_pc w S f) (nnv_some _ _ _) (by omega) (by have := H.out.sz; simp; omega) ?_)
    intro v2 w2 ho2 hb2 hfr2
    have hk1 := H.out.keep ((Below.refl _ _).alloc (Nat.le_refl _) (.cells #[.string S, .int .i64 f] 34))
    obtain ⟨W1, hW1⟩ : ∃ x, w.alloc (.cells #[.string S, .int .i64 f] 34) = x := ⟨_, rfl⟩
    have z1 : W1.heap.size = w.heap.size + 1 := by rw [← hW1]; simp
    rw [hW1] at hb2 hfr2 hk1
    have hfr3 : ∀ j, j < W1.heap.size → some j ≠ (Value.slice oa o.length oc).ownBlock → w2.heap[j]? = W1.heap[j]? := fun j h1 h2 => hfr2 j (by omega) h2
    have hb3 := hk1.hb.frame (hfr3 lb hk1.hb.lt fun e => hk1.olb e.symm)
    have c4 := hb3.cell 4
    simp only [List.getElem?_toArray, List.getElem?_cons_succ, List.getElem?_cons_zero] at c4
    have f4 := frozen_of_row w2 lb 4 _ _ hb3
    have ho2' : OwnV 34 2 N w2 v2 ((o ++ [(S, f)]).map pc2) := by rw [List.map_append]; exact ho2
    have H2 := Lib.hid (hk1.out ho2' hb2 hfr3)
    obtain ⟨va, vc, rfl⟩ : ∃ a c, v2 = .slice a (o.length + 1) c := by
      obtain ⟨a, c, e, _⟩ := ho2'.vs
      exact ⟨a, c, by rw [e]; simp⟩
    clear ho2 hb2 hfr2 hk1 hfr3 hb3 ho2' h0 hW1 z1
    go_upto_region 2 with fail
    obtain ⟨w3, hw3⟩ : ∃ x, w2.setCell ⟨lb, 4, none⟩ (.slice va (o.length + 1) vc) = x := ⟨_, rfl⟩
    rw [hw3] at H2 ⊢
    clear hw3 c4 f4 H
    have eS : bytes S.data.toList = S := by simp [bytes]
    have WI := Lib.hid (fun W => wide_any S (Lib.runeCount S) W (by omega) rfl)
    have hrc := Lib.runeCount_le S
    obtain ⟨q, hq⟩ : ∃ q, Lib.runeCount S = q := ⟨_, rfl⟩
    rw [hq] at WI hrc ⊢
    have v1 : IntKind.i64.wrap ((col : Int) + (q : Int)) = ((col + q : Nat) : Int) := by rw [IntKind.wrap_i64]; omega
    obtain ⟨C, hC⟩ : ∃ x : Int, ((col + q : Nat) : Int) = x := ⟨_, rfl⟩
    rw [hC] at v1
    have HC := Lib.hid hC
    clear hC hq eS
    refine wp_region_noPanic ?_
    refine wp_region_to 9 (S := fun V => V.cell? ⟨lb, 3, none⟩ = some (.int .i64 (col : Int))) (by kernel_rfl) (H2.out.drew.hb.cell 3) (fun hS => ?_)
    refine dtp 0 ?_
    refine dtp 1 ?_
    refine dtp 2 ?_
    refine dtk 3 ?_
    refine dtp 4 ?_
    refine AnyTo.ready (rs := [5]) (by kernel_rfl) (by simp) ?_
    refine ReadyTo.cons rfl (fun K hK => ?_) ReadyTo.nil
    go_simp
    refine (WI.out _).mono ?_
    rintro e w4 ⟨rfl, hb4⟩
    refine hK.out _ _ ((H2.out.drew.keep hb4).hb.cell 3) (fun hS => ?_)
    clear hK K
    have H4 := Lib.hid (H2.out.drew.keep hb4)
    clear H2 hb4
    refine dtp 6 ?_
    refine dtp 7 ?_
    refine dtp 8 ?_
    have c3 : w4.cell? ⟨lb, 3, none⟩ = some (.int .i64 (col : Int)) := H4.out.hb.cell 3
    have f3 := frozen_of_row w4 lb 3 _ _ H4.out.hb
    refine AnyTo.ready (rs := [9]) (by kernel_rfl) (by simp) ?_
    refine ReadyTo.last rfl (by kernel_rfl) (fun K hK => ?_) ReadyTo.nil
    go_simp
    refine hK.out _ (w4.setCell ⟨lb, 3, none⟩ (.int .i64 C)) ?_
    clear hK K
    refine AnyTo.done (by kernel_rfl) ?_ _
    refine NoPanic.normal ?_
    have H5 := H4.out.column (col + q)
    rw [HC.out] at H5
    clear c3 f3 hS
    go_wp2
    go_end0
    exact ⟨rfl, _, _, H5⟩
/-- How many blanks a new line has. -/
theorem blanks_rep (n : Nat) (w : World) (hn : n ≤ 8000000) : Calls Try.prog 51 #[.string ⟨#[32]⟩, .int .i64 (n : Int)] w fun e w' => e = .returned (.string (bytes (List.replicate n 32))) ∧ Below w.heap.size w w' := by
  have h := Try.strings_Repeat ⟨#[32]⟩ n w (by omega) (by rw [show (ByteArray.mk #[32]).size = 1 from rfl]; omega)
  have e : (⟨(Lib.repeatL (ByteArray.mk #[32]).data.toList n).toArray⟩ : ByteArray) = bytes (List.replicate n 32) := by
    unfold bytes
    congr 2
    rw [show (ByteArray.mk #[32]).data.toList = [32] from rfl]
    clear h hn
    induction n with
    | zero => rfl
    | succ k ih => rw [List.replicate_succ, ← ih]; rfl
  rw [e] at h
  exact h
set_option maxRecDepth 100000 in
set_option maxHeartbeats 4000000 in
theorem break_any (N lb K0 : Nat) (w0 WN w : World) (tv ov : Value) (wd ind col : Nat) (te : List (List Value)) (o : List Pc) (lv : Nat) (h : Ly N lb K0 w0 WN w tv ov wd ind col te o) (ho : o.length ≤ 900000) (hl : lv ≤ 400000) (hi : ind ≤ 16) :
    Calls Try.prog 40 #[.pointer (some ⟨lb, 0, none⟩), .int .i64 (lv : Int)] w (LyP N lb K0 w0 WN wd ind (lv * ind) te (o ++ [brk (lv * ind)])) := by
  have hmul : lv * ind ≤ 400000 * 16 := Nat.mul_le_mul hl hi
  have H := Lib.hid h
  have h2 := h.hb.cell 2
  have h3 := h.hb.cell 3
  have f3 := frozen_of_row w lb 3 _ _ h.hb
  simp only [List.getElem?_toArray, List.getElem?_cons_succ, List.getElem?_cons_zero] at h2 h3
  obtain ⟨n, hn⟩ : ∃ n, lv * ind = n := ⟨_, rfl⟩
  have HC := Lib.hid (h.column n)
  have BR := Lib.hid (fun W => blanks_rep n W (by omega))
  obtain ⟨T, hT⟩ : ∃ T, bytes (List.replicate n 32) = T := ⟨_, rfl⟩
  have hTz : T.size = n := by rw [← hT, bytes_size, List.length_replicate]
  have eB : (⟨#[10]⟩ : ByteArray) ++ T = bytes (10 :: List.replicate n 32) := by
    rw [← hT, show (⟨#[10]⟩ : ByteArray) = bytes [10] from rfl]
    apply ByteArray.ext; simp [bytes]
  rw [hT] at BR
  obtain ⟨U, hU⟩ : ∃ U, bytes (10 :: List.replicate n 32) = U := ⟨_, rfl⟩
  have hbrk : brk n = (U, -1) := by rw [← hU]; rfl
  have a1 : ∀ W, (Op.stringOp .add (ByteArray.mk #[10]) T).run Try.prog W = .ok (.string U) W := fun W => by
    rw [← hU, ← eB]
    exact run_string_add W _ _ (by rw [show (ByteArray.mk #[10]).size = 1 from rfl]; decide) (by omega)
  have hmi : ((lv : Int) * (ind : Int)) = (n : Int) := by rw [← hn]; simp
  have v1 : IntKind.i64.wrap ((lv : Int) * (ind : Int)) = (n : Int) := by rw [IntKind.wrap_i64, hmi]; omega
  have v2 : wrap64 ((lv : Int) * (ind : Int)) = (n : Int) := by rw [hmi]; exact IntWalk.wrap64_in _ ⟨by omega, by omega⟩
  rw [hn, hbrk]
  have l0 : (n : Int) ≤ 6400000 := by omega
  obtain ⟨oa, oc, hov⟩ : ∃ a c, ov = .slice a o.length c := by
    obtain ⟨a, c, e, _⟩ := h.ho.vs
    exact ⟨a, c, by rw [e, List.length_map]⟩
  subst hov
  clear h hT hU eB hTz hn hmi hmul hbrk
  go_enter Try.func40, Try.ntmps40
  go_upto_region 1 with fail
  obtain ⟨w1, hw1⟩ : ∃ x, w.setCell ⟨lb, 3, none⟩ (.int .i64 (n : Int)) = x := ⟨_, rfl⟩
  rw [hw1] at HC
  (try rw [v1])
  (try rw [v2])
  rw [hw1]
  clear hw1 h2 h3 f3 v1 v2 H
  refine wp_region_noPanic ?_
  refine wp_region_to 16 (S := fun V => V.cell? ⟨lb, 4, none⟩ = some (.slice oa o.length oc) ∧ V.cell? ⟨lb, 3, none⟩ = some (.int .i64 (n : Int))) (by kernel_rfl) ⟨HC.out.drew.hb.cell 4, HC.out.drew.hb.cell 3⟩ (fun hS => ?_)
  refine dtp 0 ?_
  refine dtp 1 ?_
  refine dtp 2 ?_
  refine dtp 3 ?_
  refine dtk 4 ?_
  refine dtp 5 ?_
  refine dtp 6 ?_
  refine dtp 7 ?_
  refine dtk 8 ?_
  refine AnyTo.ready (rs := [9]) (by kernel_rfl) (by simp) ?_
  refine ReadyTo.cons rfl (fun K hK => ?_) ReadyTo.nil
  go_simp
  refine (BR.out _).mono ?_
  rintro e w2 ⟨rfl, hb2⟩
  refine hK.out _ _ (⟨(HC.out.drew.keep hb2).hb.cell 4, (HC.out.drew.keep hb2).hb.cell 3⟩) (fun hS => ?_)
  clear hK K
  have H2 := Lib.hid (HC.out.drew.keep hb2)
  clear HC hb2
  refine dtp 10 ?_
  refine dtp 11 ?_
  refine AnyTo.ready (rs := [12]) (by kernel_rfl) (by simp) ?_
  refine ReadyTo.cons rfl (fun K hK => ?_) ReadyTo.nil
  go_simp
  have hz1 := BK.new 34 w2 #[.string U, .int .i64 (-1)]
  have H3 := Lib.hid (H2.out.keep ((Below.refl _ _).alloc (Nat.le_refl _) (.cells #[.string U, .int .i64 (-1)] 34)))
  have z3 : (w2.alloc (.cells #[.string U, .int .i64 (-1)] 34)).heap.size = w2.heap.size + 1 := by simp
  obtain ⟨w3, hw3⟩ : ∃ x, w2.alloc (.cells #[.string U, .int .i64 (-1)] 34) = x := ⟨_, rfl⟩
  rw [hw3] at hz1 H3 z3 ⊢
  clear hw3 H2
  refine hK.out _ _ (⟨H3.out.hb.cell 4, H3.out.hb.cell 3⟩) (fun hS => ?_)
  clear hK K
  have zc : w3.rangeAt w2.heap.size 0 [.string U, .int .i64 (-1)] := hz1.range 0 _ (by intro j u h; simpa using h)
  refine AnyTo.ready (rs := [13]) (by kernel_rfl) (by simp) ?_
  refine ReadyTo.cons rfl (fun K hK => ?_) ReadyTo.nil
  rw [if_pos (by rfl)]
  refine wp_appV _ _ rfl Try.underlying27 infoP2 rfl (by decide) N (.slice oa o.length oc) (o.map pc2) ((o ++ [(U, (-1 : Int))]).map pc2) [.string U, .int .i64 (-1)] w2.heap.size 1 o.length (by simp) rfl H3.out.ho rfl zc rfl (by intro c hc; simp only [List.mem_cons, List.mem_nil_iff, or_false] at hc; rcases hc with rfl | rfl <;> rfl) (by omega) (by decide) (by have := H3.out.sz; omega) (by simp [pc2]) ?_
  intro g cap w4 ho4 hb4 hfr4 hgo hgl
  have hb5 := H3.out.hb.frame (hfr4 lb H3.out.hb.lt fun e => H3.out.olb e.symm)
  have H4 := Lib.hid (H3.out.out ho4 hb4 hfr4)
  clear ho4 hb4 hfr4 hgo hgl zc hz1 H3
  refine hK.out _ _ (⟨hb5.cell 4, hb5.cell 3⟩) (fun hS => ?_)
  clear hK K
  refine dtp 14 ?_
  refine dtp 15 ?_
  have c4 : w4.cell? ⟨lb, 4, none⟩ = some (.slice oa o.length oc) := hb5.cell 4
  have f4 := frozen_of_row w4 lb 4 _ _ hb5
  refine AnyTo.ready (rs := [16]) (by kernel_rfl) (by simp) ?_
  refine ReadyTo.last rfl (by kernel_rfl) (fun K hK => ?_) ReadyTo.nil
  go_simp
  refine hK.out _ (w4.setCell ⟨lb, 4, none⟩ (.slice (some ⟨g, 0, none⟩) (o.length + 1) cap)) ?_
  clear hK K
  refine AnyTo.done (by kernel_rfl) ?_ _
  refine NoPanic.normal ?_
  clear c4 f4 hS hb5
  go_wp2
  go_end0
  exact ⟨rfl, _, _, H4.out⟩
end Go.Proofs.Ytehofomfblfhaaa
