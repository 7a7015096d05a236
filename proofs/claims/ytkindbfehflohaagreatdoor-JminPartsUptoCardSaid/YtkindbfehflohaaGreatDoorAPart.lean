/- JminParts' walk. -/
import Derived.Test.YtkindbfehflohaaGreatDoorAPartM
import Derived.Great.BuildSlice
namespace Go.Proofs.YtkindbfehflohaaGreatDoor
open Go.RowKit
set_option linter.unusedVariables false
set_option linter.unusedSimpArgs false

theorem pcsT_congr (k : Int) (ms ms' : List Int) (L : Vo) : ∀ i, (∀ j, j + 1 < i → ms.getD j 0 = ms'.getD j 0) → pcsT k ms L i = pcsT k ms' L i := by
  intro i
  induction i with
  | zero => intro _; rfl
  | succ i ih =>
    intro h
    simp only [pcsT]
    rw [ih fun j hj => h j (by omega)]
    by_cases h0 : 0 < i
    · rw [h (i - 1) (by omega)]
    · simp only [if_neg h0]
theorem few_list (L : Vo) (H : ∀ j h kids, L.at? j = some (h, kids) → sizeH h kids 0 ≤ 300) : VoC L ≤ 300 * L.len ∧ VoL 100 L := by
  induction L with
  | nil => exact ⟨Nat.le_refl _, trivial⟩
  | cons h kids rest _ ih =>
    obtain ⟨h1, h2⟩ := ih fun j h' k' hj => H (j + 1) h' k' hj
    obtain ⟨h3, h4⟩ := fewH (H 0 h kids rfl)
    simp only [VoC, Vo.len, VoL] at h3 h4 ⊢
    exact ⟨by omega, h4.1, h4.2.1, h2⟩
theorem pcsT_few (k : Int) (ms : List Int) (L : Vo) : ∀ i, (∀ j h kids, j < i → L.at? j = some (h, kids) → sizeH h kids 0 ≤ 300) → (pcsT k ms L i).length ≤ 1000 * i := by
  intro i
  induction i with
  | zero => intro _; simp [pcsT]
  | succ i ih =>
    intro H
    have h1 := ih fun j h kids hj => H j h kids (by omega)
    simp only [pcsT]
    cases e : L.at? i with
    | none => simp only [List.append_nil]; omega
    | some p =>
      obtain ⟨h, kids⟩ := p
      have h2 := H i h kids (by omega) e
      have h3 := pcsV_count h kids
      have h4 := (fewH h2).1
      simp only [VoC] at h4
      simp only [List.length_append]
      split <;> simp only [List.length_cons, List.length_nil] <;> omega
theorem infoVal3 : (Tryz.prog.info? 33).map (fun i => (i.zero, i.size, i.bytes)) = some (some (.agg zv), 9, 136) := by kernel_rfl
theorem fill9 (c0 c1 c2 c3 c4 c5 c6 c7 c8 : Value) (s : Nat) (hs : s = 9) (zc : Array Value) (hz : zc.size = 9) : Instr.fill (fun i => some (i * s, s)) zc [(0, .agg #[c0, c1, c2, c3, c4, c5, c6, c7, c8])] = some #[c0, c1, c2, c3, c4, c5, c6, c7, c8] := by
  subst hs
  have e : zc = #[zc[0], zc[1], zc[2], zc[3], zc[4], zc[5], zc[6], zc[7], zc[8]] := by
    apply Array.ext
    · simp [hz]
    · intro i h1 h2
      have : i = 0 ∨ i = 1 ∨ i = 2 ∨ i = 3 ∨ i = 4 ∨ i = 5 ∨ i = 6 ∨ i = 7 ∨ i = 8 := by omega
      rcases this with rfl | rfl | rfl | rfl | rfl | rfl | rfl | rfl | rfl <;> rfl
  rw [e]
  simp [Instr.fill, Value.cells, List.zipIdx]
/-- A slice of one value is made. -/
theorem wp_bsV {o : Oper} {a : Act} {w : World} {K : Act → World → Prop} {Q : Exit → Act → World → Prop} (x : Operand) (ho : o.op = .buildSlice 31 1 #[(0, x)])
    (c0 c1 c2 c3 c4 c5 c6 c7 c8 : Value) (hx : a.eval x = .agg #[c0, c1, c2, c3, c4, c5, c6, c7, c8])
    (h : K (a.put o.dst (.slice (some ⟨w.heap.size, 0, none⟩) 1 1)) (w.alloc (.cells #[c0, c1, c2, c3, c4, c5, c6, c7, c8] 33))) : o.wp Tryz.prog a w K Q := by
  obtain ⟨i0, hi, hz0, hz1, hz2⟩ := info_parts infoVal3
  refine wp_buildSlice 31 33 1 _ ho #[c0, c1, c2, c3, c4, c5, c6, c7, c8] i0 _ Tryz.underlying31 hi hz0 (by rw [hz1]; decide) (by rw [hz1]; decide) ?_ h
  simp only [List.map_toArray, List.map_cons, List.map_nil, hx]
  exact fill9 c0 c1 c2 c3 c4 c5 c6 c7 c8 _ hz1 _ (by rw [hz1]; simp)
def vq (fr ze : Int) (ml : List Int) : Vh := ⟨2, [], false, [], [], fr, ze, ml⟩
theorem ownJ_new (B : Nat) (w : World) (S : ByteArray) (t : List UInt8) (f : Int) (hB : B ≤ w.heap.size) (h : bytes t = S) : OwnJ B (w.alloc (.cells #[.string S, .int .i64 f] 58)) (.slice (some ⟨w.heap.size, 0, none⟩) 1 1) [(t, f)] := by
  subst h
  exact ⟨⟨by simp [pcv], .inr ⟨w.heap.size, 1, _, rfl, hB, heap_alloc_new w _, Nat.le_refl _, by unfold maxLen; omega, by simp, by simp [pcv]⟩⟩, pcv_len _, pcv_one _⟩
theorem pcsV_vq (x2 x3 : Int) (marks : List Int) (L : Vo) : pcsV (vq x2 x3 (marks.take (L.len - 1))) L = (([91], x2) :: pcsT 2 marks L L.len) ++ [([93], x3)] := by
  have e1 : pcsL 2 (marks.take (L.len - 1)) L 0 = pcsT 2 marks L L.len := by
    rw [← pcsT_len]
    exact pcsT_congr 2 _ _ L L.len (fun j hj => by rw [List.getD_eq_getElem?_getD, List.getD_eq_getElem?_getD, List.getElem?_take_of_lt (by omega)])
  unfold pcsV
  rw [if_pos (show (vq x2 x3 (marks.take (L.len - 1))).k = 1 ∨ (vq x2 x3 (marks.take (L.len - 1))).k = 2 from .inr rfl)]
  show (opB 2, x2) :: (pcsL 2 (marks.take (L.len - 1)) L 0 ++ [(clB 2, x3)]) = _
  rw [e1]; rfl
theorem vq_facts {w w1 W : World} {iv mv wv : Value} {cs : List (List Value)} {wl : List Jp} (x2 x3 : Int) (marks : List Int) (L : Vo) (n : Nat) (hn : L.len = n) (hp : Pst w w1 x2 x3 (marks.take (n - 1)) W iv mv wv cs wl) (hc : CellsOf w L cs) (hcl : cs.length = n) (hok : ∀ j h kids, j < n → L.at? j = some (h, kids) → sizeH h kids 0 ≤ 300) (h10 : n ≤ 10) :
    HdS W (vq x2 x3 (marks.take (n - 1))) (.slice none 0 0) mv ∧ VoS W iv L ∧ 1 + (vq x2 x3 (marks.take (n - 1))).tx.length + (vq x2 x3 (marks.take (n - 1))).ms.length + VoC L ≤ 100000 ∧ VoL 500 (.cons (vq x2 x3 (marks.take (n - 1))) L .nil) ∧ VB W w1.heap.size (vq x2 x3 (marks.take (n - 1))) (.slice none 0 0) iv mv := by
  obtain ⟨f1, f2⟩ := few_list L (fun j h kids hj => hok j h kids (by have := vo_at_lt L _ hj; omega) hj)
  have hms : (marks.take (n - 1)).length ≤ n - 1 := by rw [List.length_take]; omega
  refine ⟨⟨Nat.zero_le _, Nat.zero_le _, isP_nil _ _, ic1_isP hp.mo⟩, items_vos hp.io hc (by omega) hp.lo, ?_, ⟨⟨Nat.zero_le _, Nat.zero_le _⟩, VoL.mono (by decide) _ f2, trivial⟩, hp.vb⟩
  show 1 + 0 + (marks.take (n - 1)).length + VoC L ≤ 100000
  rw [hn] at f1
  omega
set_option maxRecDepth 100000 in
set_option maxHeartbeats 8000000 in
theorem jparts_walk (a0 : Option Addr) (len0 cap0 : Nat) (a1 : Option Addr) (len1 cap1 : Nat) (x2 x3 : Int) (L : Vo) (marks : List Int) (w : World) (e0 : L.len = len0) (b0 : VoS w (.slice a0 len0 cap0) L) (n0 : True) (e1 : marks.length = len1) (b1 : Is w (.slice a1 len1 cap1) marks) (n1 : NN (.slice a1 len1 cap1)) {P2 P3 : Prop} (m2 : P2) (m3 : P3)
    (u0 : VoC L ≤ 1048576) (u1 : len1 ≤ 1048576) (hT : Tabs w) :
    Calls Tryz.prog 12 #[.slice a0 len0 cap0, .slice a1 len1 cap1, .int .i64 x2, .int .i64 x3] w fun e w' => e = .returned (.bool true) ∧ Below w.heap.size w w' := by
  have AL := Lib.hid (alive9_any w hT)
  clear n0 m2 m3 n1
  by_cases hc : len0 ≤ 10 ∧ len0 ≤ len1 + 1 ∧ 0 ≤ x2 ∧ 0 ≤ x3
  case neg =>
    have hh : 10 < (len0 : Int) ∨ (¬ 10 < (len0 : Int) ∧ (len1 : Int) + 1 < len0) ∨ (¬ 10 < (len0 : Int) ∧ ¬ (len1 : Int) + 1 < len0 ∧ x2 < 0) ∨ (¬ 10 < (len0 : Int) ∧ ¬ (len1 : Int) + 1 < len0 ∧ ¬ x2 < 0 ∧ x3 < 0) := by omega
    clear hc b0 b1 e0 e1 u0 hT
    rcases hh with h1 | ⟨h1, h2⟩ | ⟨h1, h2, h3⟩ | ⟨h1, h2, h3, h4⟩
    all_goals (
      go_enter Tryz.func12, Tryz.ntmps12
      go_wp2_with fail
      refine AL.out.mono ?_
      rintro e w1 ⟨rfl, hb⟩
      have HB := Lib.hid hb
      clear hb
      go_wp2
      go_ret
      exact ⟨rfl, HB.out⟩)
  obtain ⟨q1, q2, q3, q4⟩ := hc
  have p1 : ¬ 10 < (len0 : Int) := by omega
  have p2 : ¬ (len1 : Int) + 1 < len0 := by omega
  have p3 : ¬ x2 < 0 := by omega
  have p4 : ¬ x3 < 0 := by omega
  have HT := Lib.hid hT
  have HN := Lib.hid e0
  have HM := Lib.hid e1
  have U0 := Lib.hid u0
  obtain ⟨a', c', e', -, -, -, hq⟩ := b0
  rw [e0] at e' hq
  simp only [Value.slice.injEq] at e'
  obtain ⟨rfl, -, rfl⟩ := e'
  have HQ := Lib.hid hq
  obtain ⟨a', c', e', -, -, hmq⟩ := b1
  rw [e1] at e'
  simp only [Value.slice.injEq] at e'
  obtain ⟨rfl, -, rfl⟩ := e'
  have HMQ := Lib.hid hmq
  have AT := Lib.hid (fun i (hi : i < len0) => Vo.at_some L i (by rw [e0]; exact hi))
  clear e0 e1 hq hmq hT u0
  go_enter Tryz.func12, Tryz.ntmps12
  go_wp2_with fail
  refine AL.out.mono ?_
  rintro e w1 ⟨rfl, hb1⟩
  have B1 := Lib.hid hb1
  have EW : Hid (∀ W0 : World, (w1.alloc (.cells #[.int .i64 2, .slice none 0 0, .bool false, .string ⟨#[]⟩, .string ⟨#[]⟩, .slice none 0 0, .int .i64 x2, .int .i64 x3, .slice none 0 0] 33)).alloc (.cells #[.string ⟨#[91]⟩, .int .i64 x2] 58) = W0 →
      Pst w w1 x2 x3 [] W0 (.slice none 0 0) (.slice none 0 0) (.slice (some ⟨w1.heap.size + 1, 0, none⟩) 1 1) [] [([91], x2)]) := Lib.hid (by
    rintro W0 rfl
    have v0 := VB.new w1 (vp x2 x3) (.slice none 0 0) (.slice none 0 0) (.slice none 0 0)
    obtain ⟨W, hW⟩ : ∃ x, w1.alloc (.cells (vv (vp x2 x3) (.slice none 0 0) (.slice none 0 0) (.slice none 0 0)) 33) = x := ⟨_, rfl⟩
    have hW' : w1.alloc (.cells #[.int .i64 2, .slice none 0 0, .bool false, .string ⟨#[]⟩, .string ⟨#[]⟩, .slice none 0 0, .int .i64 x2, .int .i64 x3, .slice none 0 0] 33) = W := hW
    have bW : Below w1.heap.size w1 W := by rw [← hW]; exact (Below.refl _ _).alloc (Nat.le_refl _) _
    have zW : W.heap.size = w1.heap.size + 1 := by rw [← hW, World.size_alloc]
    rw [hW] at v0
    rw [hW']
    have bP := (Below.refl W.heap.size W).alloc (Nat.le_refl _) (.cells #[.string ⟨#[91]⟩, .int .i64 x2] 58)
    have oj := ownJ_new (w1.heap.size + 1) W ⟨#[91]⟩ [91] x2 (by omega) rfl
    rw [zW] at oj
    exact ⟨bW.trans (bP.mono bW.size), hb1.trans ((bW.trans (bP.mono bW.size)).mono hb1.size), v0.keep bP, ownV_nil _ _ _ _, ownV_nil _ _ _ _, oj, hb1⟩)
  clear hb1 AL
  go_upto_region 7 with fail
  obtain ⟨W0, hW0⟩ : ∃ x, (w1.alloc (.cells #[.int .i64 2, .slice none 0 0, .bool false, .string ⟨#[]⟩, .string ⟨#[]⟩, .slice none 0 0, .int .i64 x2, .int .i64 x3, .slice none 0 0] 33)).alloc (.cells #[.string ⟨#[91]⟩, .int .i64 x2] 58) = x := ⟨_, rfl⟩
  have P0 := Lib.hid (EW.out W0 hW0)
  rw [hW0]
  clear hW0 EW
  go_loopw [11, 12] (fun wv nv wr => ∃ (i : Nat) (iv mv : Value) (cs : List (List Value)), nv = .int .i64 (i : Int) ∧ i ≤ len0 ∧ cs.length = i ∧ CellsOf w L cs ∧ (∀ j h kids, j < i → L.at? j = some (h, kids) → sizeH h kids 0 ≤ 300 ∧ rightH h kids 60 = true) ∧ Pst w w1 x2 x3 (marks.take (i - 1)) wr iv mv wv cs (([91], x2) :: pcsT 2 marks L i)) (fun _ nv _ => len0 - (intOf nv).toNat)
  case atStart => exact ⟨0, _, _, [], rfl, by omega, rfl, fun j hj => by simp at hj, fun j _ _ h => by omega, P0.out⟩
  case round =>
    obtain ⟨i, iv, mv, cs, rfl, hi, hcl, hcs, hok, hp⟩ := hrel
    have P1 := Lib.hid hp
    have HCS := Lib.hid hcs
    have HOK := Lib.hid hok
    have HCL := Lib.hid hcl
    clear hp hcs hok hcl
    by_cases hlt : i < len0
    · obtain ⟨h', kids', hat⟩ := AT.out i hlt
      obtain ⟨b, off, rfl, hbk, hfo⟩ := HQ.out (by omega)
      obtain ⟨tv', mv', u, hd', hr', hu'⟩ := voAt_get L b off i h' kids' hfo hat
      have hvc := voC_at L i h' kids' hat
      obtain ⟨ta', tc', htv'⟩ := hd'.t.slice
      obtain ⟨ma', mc', hmv'⟩ := hd'.m.slice
      obtain ⟨ua', uc', hu2'⟩ := hu'.slice
      obtain ⟨tn', htn'⟩ : ∃ x, h'.tx.length = x := ⟨_, rfl⟩
      obtain ⟨mn', hmn'⟩ : ∃ x, h'.ms.length = x := ⟨_, rfl⟩
      obtain ⟨un', hun'⟩ : ∃ x, kids'.len = x := ⟨_, rfl⟩
      rw [htn'] at htv'
      rw [hmn'] at hmv'
      rw [hun'] at hu2'
      subst htv' hmv' hu2'
      have hrr := Lib.hid (range_same hr' (P1.out.lo.block b hbk))
      have c0 := hrr.out 0 _ rfl
      have c1 := hrr.out 1 _ rfl
      have c2 := hrr.out 2 _ rfl
      have c3 := hrr.out 3 _ rfl
      have c4 := hrr.out 4 _ rfl
      have c5 := hrr.out 5 _ rfl
      have c6 := hrr.out 6 _ rfl
      have c7 := hrr.out 7 _ rfl
      have c8 := hrr.out 8 _ rfl
      rw [Nat.add_zero] at c0
      have FW := Lib.hid (fewv_any h' kids' (.slice ta' tn' tc') (.slice ua' un' uc') (.slice ma' mn' mc') wr (by have := U0.out; omega) (hd'.below P1.out.lo) (hu'.below P1.out.lo))
      have HRW := Lib.hid hr'
      have HBK := Lib.hid hbk
      have HDT := Lib.hid hd'
      have HUT := Lib.hid hu'
      have HAT := Lib.hid hat
      have j0 : (0 : Int) ≤ i := by omega
      have j1 : (i : Int) < len0 := by omega
      unfold vv vvl at FW
      clear hat hfo hd' hr' hu' hbk hvc htn' hmn' hun'
      by_cases hfew : sizeH h' kids' 0 ≤ 300
      case neg =>
        rw [decide_eq_false hfew] at FW
        clear hfew
        as_aux_lemma =>
          go_wp2_with fail
          refine FW.out.mono ?_
          rintro e w2 ⟨rfl, hb2⟩
          have P2 := Lib.hid (P1.out.keep hb2)
          clear hb2
          go_wp2
          go_ret
          exact ⟨rfl, P2.out.lo⟩
      rw [decide_eq_true hfew] at FW
      obtain ⟨f1, f2⟩ := fewH hfew
      have F1 := Lib.hid f1
      have F2 := Lib.hid f2
      have HFEW := Lib.hid hfew
      clear hfew f1 f2
      go_wp2_with fail
      refine FW.out.mono ?_
      rintro e w2 ⟨rfl, hb2⟩
      have P2 := Lib.hid (P1.out.keep hb2)
      have RT := Lib.hid (rrtop_any h' kids' (.slice ta' tn' tc') (.slice ua' un' uc') (.slice ma' mn' mc') w2 (by have := F1.out; simp only [VoC] at this; omega) (VoL.mono (by decide) _ F2.out) (HDT.out.below P2.out.lo) (HUT.out.below P2.out.lo))
      have hrr2 := Lib.hid (range_same HRW.out (P2.out.lo.block b HBK.out))
      clear hb2 c0 c1 c2 c3 c4 c5 c6 c7 c8 hrr FW P1
      have c0 := hrr2.out 0 _ rfl
      have c1 := hrr2.out 1 _ rfl
      have c2 := hrr2.out 2 _ rfl
      have c3 := hrr2.out 3 _ rfl
      have c4 := hrr2.out 4 _ rfl
      have c5 := hrr2.out 5 _ rfl
      have c6 := hrr2.out 6 _ rfl
      have c7 := hrr2.out 7 _ rfl
      have c8 := hrr2.out 8 _ rfl
      rw [Nat.add_zero] at c0
      unfold vv vvl at RT
      cases hrb : rightH h' kids' 60 with
      | false =>
        rw [hrb] at RT
        clear hrb
        as_aux_lemma =>
          go_wp2_with fail
          refine RT.out.mono ?_
          rintro e w3 ⟨rfl, hb3⟩
          have P3 := Lib.hid (P2.out.keep hb3)
          clear hb3
          go_wp2
          go_ret
          exact ⟨rfl, P3.out.lo⟩
      | true =>
        rw [hrb] at RT
        have HRB := Lib.hid hrb
        clear hrb
        go_wp2_with fail
        refine RT.out.mono ?_
        rintro e w3 ⟨rfl, hb3⟩
        have P3 := Lib.hid (P2.out.keep hb3)
        have hrr3 := Lib.hid (range_same HRW.out (P3.out.lo.block b HBK.out))
        clear hb3 c0 c1 c2 c3 c4 c5 c6 c7 c8 hrr2 RT P2
        have LEN : Hid ((pcsT 2 marks L i).length ≤ 1000 * i) := Lib.hid (pcsT_few 2 marks L i fun j h k hj e => (HOK.out j h k hj e).1)
        have HNX : Hid (pcsT 2 marks L (i + 1) = pcsT 2 marks L i ++ ((if 0 < i then [(mkB 2 i, marks.getD (i - 1) 0)] else []) ++ pcsV h' kids')) := Lib.hid (by simp only [pcsT]; rw [HAT.out])
        go_upto_region 11 with fail
        by_cases h0 : 0 < i
        case neg =>
          have z0 : ¬ (0 : Int) < i := by omega
          as_aux_lemma =>
            go_upto_region 16 with fail
            refine wp_region_noPanic ?_
            have S16 : ∀ V : World, VB V w1.heap.size (vp x2 x3) (.slice none 0 0) iv mv → Below w.heap.size w V → (V.cell? ⟨w1.heap.size, 5, none⟩ = some iv ∧ V.rangeAt b (off + i * 9) (vvl h' (.slice ta' tn' tc') (.slice ua' un' uc') (.slice ma' mn' mc'))) := fun V hv hl => ⟨hv.cells.2.2.2.2.2.1, range_same HRW.out (hl.block b HBK.out)⟩
            have P16 := Lib.hid (P3.out.keep (Below.refl _ _).drew)
            refine wp_region_to 9 (S := fun V => V.cell? ⟨w1.heap.size, 5, none⟩ = some iv ∧ V.rangeAt b (off + i * 9) (vvl h' (.slice ta' tn' tc') (.slice ua' un' uc') (.slice ma' mn' mc'))) (by kernel_rfl) (S16 _ P16.out.vb P16.out.lo) (fun hS => ?_)
            obtain ⟨W16, hW16⟩ : ∃ x, (w3).drew = x := ⟨_, rfl⟩
            rw [hW16] at P16 hS ⊢
            clear hW16
            refine dtp 0 ?_
            refine dtk 1 ?_
            refine dtp 2 ?_
            refine dtp 3 ?_
            refine dtp 4 ?_
            refine dtk (v := .agg #[.int .i64 h'.k, .slice ta' tn' tc', .bool h'.ng, .string (bytes h'.dg), .string (bytes h'.ex), .slice ua' un' uc', .int .i64 h'.fr, .int .i64 h'.tt, .slice ma' mn' mc']) 5 (hy := yieldsIf_load_mid (by rfl) 33 _ rfl b (off + i * 9) rfl (vvl h' (.slice ta' tn' tc') (.slice ua' un' uc') (.slice ma' mn' mc')) _ (fun w hS => hS.2) Tryz.underlying33 rfl infoVal) ?_
            refine AnyTo.ready (rs := [6]) (by kernel_rfl) (by simp) ?_
            refine ReadyTo.cons rfl (fun K hK => ?_) ReadyTo.nil
            rw [if_pos (by rfl)]
            refine wp_bsV _ rfl _ _ _ _ _ _ _ _ _ rfl ?_
            have al6 := (Below.refl W16.heap.size W16).alloc (Nat.le_refl _) (.cells #[.int .i64 h'.k, .slice ta' tn' tc', .bool h'.ng, .string (bytes h'.dg), .string (bytes h'.ex), .slice ua' un' uc', .int .i64 h'.fr, .int .i64 h'.tt, .slice ma' mn' mc'] 33)
            have P6 := Lib.hid (P16.out.keep al6)
            have R6 : Hid ((W16.alloc (.cells #[.int .i64 h'.k, .slice ta' tn' tc', .bool h'.ng, .string (bytes h'.dg), .string (bytes h'.ex), .slice ua' un' uc', .int .i64 h'.fr, .int .i64 h'.tt, .slice ma' mn' mc'] 33)).rangeAt W16.heap.size 0 (vvl h' (.slice ta' tn' tc') (.slice ua' un' uc') (.slice ma' mn' mc'))) := Lib.hid (VB.range (VB.new W16 h' (.slice ta' tn' tc') (.slice ua' un' uc') (.slice ma' mn' mc')))
            refine hK.out _ _ (S16 _ P6.out.vb P6.out.lo) (fun hS => ?_)
            clear hK K
            obtain ⟨W6, hW6⟩ : ∃ x, W16.alloc (.cells #[.int .i64 h'.k, .slice ta' tn' tc', .bool h'.ng, .string (bytes h'.dg), .string (bytes h'.ex), .slice ua' un' uc', .int .i64 h'.fr, .int .i64 h'.tt, .slice ma' mn' mc'] 33) = x := ⟨_, rfl⟩
            rw [hW6] at P6 R6 hS ⊢
            clear hW6 al6
            refine AnyTo.ready (rs := [7]) (by kernel_rfl) (by simp) ?_
            refine ReadyTo.cons rfl (fun K hK => ?_) ReadyTo.nil
            rw [if_pos (by rfl)]
            refine wp_appV _ _ rfl Tryz.underlying31 infoVal3 rfl (by decide) (w1.heap.size + 1) iv cs (cs ++ [(vvl h' (.slice ta' tn' tc') (.slice ua' un' uc') (.slice ma' mn' mc'))]) (vvl h' (.slice ta' tn' tc') (.slice ua' un' uc') (.slice ma' mn' mc')) W16.heap.size 1 i HCL.out rfl P6.out.io rfl R6.out rfl (fun c hc => (Array.all_eq_true_iff_forall_mem.1 (vv_one h' (tv := (.slice ta' tn' tc')) (v := (.slice ua' un' uc')) (mv := (.slice ma' mn' mc')) rfl rfl rfl)) c (by simpa [vv] using hc)) (by omega) (by decide) P6.out.vb.lt rfl ?_
            intro g7 c7 W7 ho7 hb7 hf7 hgo7 hgl7
            have vb7 := P6.out.vb.frame (hb7.block _ (by omega))
            refine hK.out _ _ (S16 _ vb7 (P6.out.lo.trans (hb7.mono (by have := P6.out.hw.size; omega)))) (fun hS => ?_)
            clear hK K
            refine dtp 8 ?_
            have c5' : W7.cell? ⟨w1.heap.size, 5, none⟩ = some iv := vb7.cells.2.2.2.2.2.1
            have f5' : W7.frozen? ⟨w1.heap.size, 5, none⟩ = false := frozen_of_row W7 w1.heap.size 5 _ _ vb7
            refine AnyTo.ready (rs := [9]) (by kernel_rfl) (by simp) ?_
            refine ReadyTo.last rfl (by kernel_rfl) (fun K hK => ?_) ReadyTo.nil
            go_simp
            refine hK.out _ _ ?_
            clear hK K
            refine AnyTo.done (by kernel_rfl) ?_ _
            refine NoPanic.normal ?_
            have P8 := Lib.hid (P6.out.items ho7 hb7 hf7)
            obtain ⟨W8, hW8⟩ : ∃ x, W7.setCell ⟨w1.heap.size, 5, none⟩ (.slice (some ⟨g7, 0, none⟩) (i + 1) c7) = x := ⟨_, rfl⟩
            rw [hW8] at P8 ⊢
            clear hW8 ho7 hb7 hf7 hgo7 hgl7 vb7 c5' f5' hS S16 P16 P6 R6
            have hrr8 := Lib.hid (range_same HRW.out (P8.out.lo.block b HBK.out))
            have PZ := Lib.hid (jpieces_any h' kids' (.slice ta' tn' tc') (.slice ua' un' uc') (.slice ma' mn' mc') W8 (HT.out.keep P8.out.lo) (by have := F1.out; simp only [VoC] at this; omega) (VoL.mono (by decide) _ F2.out) (HDT.out.below P8.out.lo) (HUT.out.below P8.out.lo))
            have c0 := hrr8.out 0 _ rfl
            have c1 := hrr8.out 1 _ rfl
            have c2 := hrr8.out 2 _ rfl
            have c3 := hrr8.out 3 _ rfl
            have c4 := hrr8.out 4 _ rfl
            have c5 := hrr8.out 5 _ rfl
            have c6 := hrr8.out 6 _ rfl
            have c7' := hrr8.out 7 _ rfl
            have c8 := hrr8.out 8 _ rfl
            rw [Nat.add_zero] at c0
            unfold vv vvl at PZ
            go_wp2_with fail
            refine PZ.out.mono ?_
            rintro e W9 ⟨u9, rfl, hu9, hb9⟩
            have P9 := Lib.hid (P8.out.keep hb9)
            have U9 := Lib.hid hu9
            have N9 := Lib.hid (OwnV.nn hu9)
            have L9 : Hid ((([91], x2) :: pcsT 2 marks L i).length + (jpc h' kids').length ≤ 100000) := Lib.hid (by
              have e1 := pcsV_count h' kids'
              have e2 := F1.out
              have e3 := LEN.out
              have e4 : (jpc h' kids').length ≤ (pcsV h' kids').length := by unfold jpc; split <;> simp
              simp only [VoC] at e2
              simp only [List.length_cons]
              omega)
            clear hb9 hu9 c0 c1 c2 c3 c4 c5 c6 c7' c8 hrr8 PZ P8
            go_wp2_with (at_builtin; refine wpl_appendVG rfl _ _ rfl Tryz.underlying50 infoPc rfl (by decide) (w1.heap.size + 1) _ u9 ((([91], x2) :: pcsT 2 marks L i).map pcv) ((jpc h' kids').map pcv) (((([91], x2) :: pcsT 2 marks L i) ++ jpc h' kids').map pcv) rfl P9.out.wo rfl (OwnV.vs U9.out) N9.out (pcv_len _) (pcv_one _) ?_ (by decide) P9.out.vb.lt (by simp) ?_)
            · have := L9.out; rw [List.length_map, List.length_map]; omega
            · intro vA WA hoA hbA hfA hgA
              have hoJ : OwnV 58 2 (w1.heap.size + 1) WA vA (((([91], x2) :: pcsT 2 marks L i) ++ jpc h' kids').map pcv) := by simpa using hoA
              have PA := Lib.hid (P9.out.want (wl' := (([91], x2) :: pcsT 2 marks L i) ++ jpc h' kids') hoJ hbA hfA)
              clear hoA hbA hfA hgA hoJ
              go_wp2
              go_roundw
              case rel =>
                have HPQ : ∃ iv mv, Pst w w1 x2 x3 (marks.take (i + 1 - 1)) WA iv mv vA (cs ++ [(vvl h' (.slice ta' tn' tc') (.slice ua' un' uc') (.slice ma' mn' mc'))]) (([91], x2) :: pcsT 2 marks L (i + 1)) := by
                  have hP := PA.out
                  have e5 : jpc h' kids' = pcsV h' kids' := by unfold jpc; rw [if_pos HRB.out]
                  rw [e5] at hP
                  rw [HNX.out]
                  rw [if_neg h0]; rw [show i + 1 - 1 = i - 1 by omega]; exact ⟨_, _, by simpa using hP⟩
                obtain ⟨iv', mv', hPQ⟩ := HPQ
                refine ⟨i + 1, iv', mv', cs ++ [(vvl h' (.slice ta' tn' tc') (.slice ua' un' uc') (.slice ma' mn' mc'))], by go_num, by omega, by rw [List.length_append, HCL.out]; rfl, ?_, ?_, hPQ⟩
                · intro j hj
                  by_cases hji : j < cs.length
                  · rw [List.getElem_append_left hji]; exact HCS.out j hji
                  · have ej : j = i := by rw [List.length_append, HCL.out] at hj; rw [HCL.out] at hji; simp at hj; omega
                    subst ej
                    refine ⟨h', kids', _, _, _, HAT.out, HDT.out, HUT.out, ?_⟩
                    rw [List.getElem_append_right (by rw [HCL.out]; exact Nat.le_refl _)]
                    simp [HCL.out]
                · intro j h'' k'' hj e
                  rcases Nat.lt_succ_iff_lt_or_eq.1 hj with hj | rfl
                  · exact HOK.out j h'' k'' hj e
                  · rw [HAT.out] at e
                    simp only [Option.some.injEq, Prod.mk.injEq] at e
                    obtain ⟨rfl, rfl⟩ := e
                    exact ⟨HFEW.out, HRB.out⟩
              case measure => simp [intOf]; omega
        have z0 : (0 : Int) < i := by omega
        obtain ⟨mb, mo, rfl, hmbk, hmc⟩ := HMQ.out (by rw [HM.out]; omega)
        have hm1 : i - 1 < marks.length := by rw [HM.out]; omega
        have c0 := hmc (i - 1) hm1
        obtain ⟨z, hz⟩ : ∃ x, marks[i - 1] = x := ⟨_, rfl⟩
        rw [hz] at c0
        have HZ2 : Hid (marks.getD (i - 1) 0 = z) := Lib.hid (by rw [← hz, List.getD_eq_getElem?_getD, List.getElem?_eq_getElem hm1]; rfl)
        have HZ3 : Hid (marks.take i = marks.take (i - 1) ++ [z]) := Lib.hid (by
          have := List.take_succ_eq_append_getElem hm1
          rw [show i - 1 + 1 = i by omega, hz] at this
          exact this)
        have HMT : Hid ((marks.take (i - 1)).length = i - 1) := Lib.hid (by rw [List.length_take]; omega)
        obtain ⟨m, hm⟩ : ∃ m, i - 1 = m := ⟨_, rfl⟩
        rw [hm] at c0
        have him2 : (i : Int) - 1 = (m : Int) := by omega
        have him3 : (m : Int) < len1 := by omega
        have him4 : (0 : Int) ≤ m := by omega
        have hwm : IntKind.i64.wrap (m : Int) = (m : Int) := by rw [IntKind.wrap_i64]; omega
        have CM := Lib.hid (fun (V : World) (hl : Below w.heap.size w V) => (hl.cell (p := ⟨mb, mo + m, none⟩) hmbk).trans c0)
        have HMI := Lib.hid hm
        clear hz hmc c0 hm
        have cz3 := CM.out w3 P3.out.lo
        by_cases hzn : z < 0
        · as_aux_lemma =>
            go_wp2_with fail
            go_ret
            exact ⟨rfl, P3.out.lo⟩
        go_upto_region 14 with fail
        refine wp_region_noPanic ?_
        have S14 : ∀ V : World, VB V w1.heap.size (vp x2 x3) (.slice none 0 0) iv mv → Below w.heap.size w V → (V.cell? ⟨w1.heap.size, 8, none⟩ = some mv ∧ V.cell? ⟨mb, mo + m, none⟩ = some (.int .i64 z)) := fun V hv hl => ⟨hv.cells.2.2.2.2.2.2.2.2, CM.out V hl⟩
        have P14 := Lib.hid (P3.out.keep (Below.refl _ _).drew)
        clear cz3
        refine wp_region_to 10 (S := fun V => V.cell? ⟨w1.heap.size, 8, none⟩ = some mv ∧ V.cell? ⟨mb, mo + m, none⟩ = some (.int .i64 z)) (by kernel_rfl) (S14 _ P14.out.vb P14.out.lo) (fun hS => ?_)
        obtain ⟨W14, hW14⟩ : ∃ x, (w3).drew = x := ⟨_, rfl⟩
        rw [hW14] at P14 hS ⊢
        clear hW14
        refine dtp 0 ?_
        refine dtk 1 ?_
        refine dtp 2 ?_
        refine dtp 3 ?_
        refine dtp 4 ?_
        refine dtp 5 ?_
        refine dtk 6 ?_
        refine AnyTo.ready (rs := [7]) (by kernel_rfl) (by simp) ?_
        refine ReadyTo.cons rfl (fun K hK => ?_) ReadyTo.nil
        go_simp
        have al7 := (Below.refl W14.heap.size W14).alloc (Nat.le_refl _) (.cells #[.int .i64 z] 3)
        have P7 := Lib.hid (P14.out.keep al7)
        have R7 : Hid ((W14.alloc (.cells #[.int .i64 z] 3)).rangeAt W14.heap.size 0 [.int .i64 z]) := Lib.hid (BK.range (T := 3) (heap_alloc_new W14 _) 0 [.int .i64 z] (fun j u h => by simpa using h))
        refine hK.out _ _ (S14 _ P7.out.vb P7.out.lo) (fun hS => ?_)
        clear hK K
        obtain ⟨W7, hW7⟩ : ∃ x, W14.alloc (.cells #[.int .i64 z] 3) = x := ⟨_, rfl⟩
        rw [hW7] at P7 R7 hS ⊢
        clear hW7 al7
        refine AnyTo.ready (rs := [8]) (by kernel_rfl) (by simp) ?_
        refine ReadyTo.cons rfl (fun K hK => ?_) ReadyTo.nil
        rw [if_pos (by rfl)]
        refine wp_appV _ _ rfl Tryz.underlying24 infoI rfl (by decide) (w1.heap.size + 1) mv (ic1 (marks.take (i - 1))) (ic1 (marks.take i)) [.int .i64 z] W14.heap.size 1 (i - 1) (by simp only [ic1, List.length_map]; exact HMT.out) rfl P7.out.mo rfl R7.out rfl (fun c hc => by simp only [List.mem_cons, List.mem_nil_iff, or_false] at hc; subst hc; rfl) (by omega) (by decide) P7.out.vb.lt (by rw [HZ3.out]; simp [ic1]) ?_
        intro gm cm W8 ho8 hb8 hf8 hgo8 hgl8
        have vb8 := P7.out.vb.frame (hb8.block _ (by omega))
        refine hK.out _ _ (S14 _ vb8 (P7.out.lo.trans (hb8.mono (by have := P7.out.hw.size; omega)))) (fun hS => ?_)
        clear hK K
        refine dtp 9 ?_
        have c5' : W8.cell? ⟨w1.heap.size, 8, none⟩ = some mv := vb8.cells.2.2.2.2.2.2.2.2
        have f5' : W8.frozen? ⟨w1.heap.size, 8, none⟩ = false := frozen_of_row W8 w1.heap.size 8 _ _ vb8
        refine AnyTo.ready (rs := [10]) (by kernel_rfl) (by simp) ?_
        refine ReadyTo.last rfl (by kernel_rfl) (fun K hK => ?_) ReadyTo.nil
        go_simp
        refine hK.out _ _ ?_
        clear hK K
        refine AnyTo.done (by kernel_rfl) ?_ _
        refine NoPanic.normal ?_
        have P15 := Lib.hid (P7.out.marks ho8 hb8 hf8)
        obtain ⟨W15, hW15⟩ : ∃ x, W8.setCell ⟨w1.heap.size, 8, none⟩ (.slice (some ⟨gm, 0, none⟩) (i - 1 + 1) cm) = x := ⟨_, rfl⟩
        rw [hW15] at P15 ⊢
        clear hW15 ho8 hb8 hf8 hgo8 hgl8 vb8 c5' f5' hS S14 P14 P7 R7
        have cz15 := CM.out W15 P15.out.lo
        have hl15 : (([91], x2) :: pcsT 2 marks L i).length ≤ 1000000 := by have := LEN.out; simp only [List.length_cons]; omega
        go_wp2_with (at_builtin; refine wpl_jp rfl _ _ rfl (w1.heap.size + 1) _ _ (([91], x2) :: pcsT 2 marks L i) ([44], z) rfl ?_ rfl ?_ (nnv_some _ _ _) hl15 ?_ ?_)
        · exact OwnV.keep P15.out.wo ((Below.refl _ _).alloc (Nat.le_refl _) _)
        · exact one_jp _ ⟨#[44]⟩ [44] z rfl
        · have := P15.out.vb.lt; first | omega | (rw [World.size_alloc]; omega)
        · intro lA WA JA
          have PX := Lib.hid ((P15.out.keep ((Below.refl _ _).alloc (Nat.le_refl _) (.cells #[.string ⟨#[44]⟩, .int .i64 z] 58))).want JA.own JA.bl JA.fr)
          clear JA cz15 P15 P3 hl15
          as_aux_lemma =>
            go_upto_region 16 with fail
            refine wp_region_noPanic ?_
            have S16 : ∀ V : World, VB V w1.heap.size (vp x2 x3) (.slice none 0 0) iv (.slice (some ⟨gm, 0, none⟩) (i - 1 + 1) cm) → Below w.heap.size w V → (V.cell? ⟨w1.heap.size, 5, none⟩ = some iv ∧ V.rangeAt b (off + i * 9) (vvl h' (.slice ta' tn' tc') (.slice ua' un' uc') (.slice ma' mn' mc'))) := fun V hv hl => ⟨hv.cells.2.2.2.2.2.1, range_same HRW.out (hl.block b HBK.out)⟩
            have P16 := Lib.hid (PX.out.keep (Below.refl _ _).drew)
            refine wp_region_to 9 (S := fun V => V.cell? ⟨w1.heap.size, 5, none⟩ = some iv ∧ V.rangeAt b (off + i * 9) (vvl h' (.slice ta' tn' tc') (.slice ua' un' uc') (.slice ma' mn' mc'))) (by kernel_rfl) (S16 _ P16.out.vb P16.out.lo) (fun hS => ?_)
            obtain ⟨W16, hW16⟩ : ∃ x, (WA).drew = x := ⟨_, rfl⟩
            rw [hW16] at P16 hS ⊢
            clear hW16
            refine dtp 0 ?_
            refine dtk 1 ?_
            refine dtp 2 ?_
            refine dtp 3 ?_
            refine dtp 4 ?_
            refine dtk (v := .agg #[.int .i64 h'.k, .slice ta' tn' tc', .bool h'.ng, .string (bytes h'.dg), .string (bytes h'.ex), .slice ua' un' uc', .int .i64 h'.fr, .int .i64 h'.tt, .slice ma' mn' mc']) 5 (hy := yieldsIf_load_mid (by rfl) 33 _ rfl b (off + i * 9) rfl (vvl h' (.slice ta' tn' tc') (.slice ua' un' uc') (.slice ma' mn' mc')) _ (fun w hS => hS.2) Tryz.underlying33 rfl infoVal) ?_
            refine AnyTo.ready (rs := [6]) (by kernel_rfl) (by simp) ?_
            refine ReadyTo.cons rfl (fun K hK => ?_) ReadyTo.nil
            rw [if_pos (by rfl)]
            refine wp_bsV _ rfl _ _ _ _ _ _ _ _ _ rfl ?_
            have al6 := (Below.refl W16.heap.size W16).alloc (Nat.le_refl _) (.cells #[.int .i64 h'.k, .slice ta' tn' tc', .bool h'.ng, .string (bytes h'.dg), .string (bytes h'.ex), .slice ua' un' uc', .int .i64 h'.fr, .int .i64 h'.tt, .slice ma' mn' mc'] 33)
            have P6 := Lib.hid (P16.out.keep al6)
            have R6 : Hid ((W16.alloc (.cells #[.int .i64 h'.k, .slice ta' tn' tc', .bool h'.ng, .string (bytes h'.dg), .string (bytes h'.ex), .slice ua' un' uc', .int .i64 h'.fr, .int .i64 h'.tt, .slice ma' mn' mc'] 33)).rangeAt W16.heap.size 0 (vvl h' (.slice ta' tn' tc') (.slice ua' un' uc') (.slice ma' mn' mc'))) := Lib.hid (VB.range (VB.new W16 h' (.slice ta' tn' tc') (.slice ua' un' uc') (.slice ma' mn' mc')))
            refine hK.out _ _ (S16 _ P6.out.vb P6.out.lo) (fun hS => ?_)
            clear hK K
            obtain ⟨W6, hW6⟩ : ∃ x, W16.alloc (.cells #[.int .i64 h'.k, .slice ta' tn' tc', .bool h'.ng, .string (bytes h'.dg), .string (bytes h'.ex), .slice ua' un' uc', .int .i64 h'.fr, .int .i64 h'.tt, .slice ma' mn' mc'] 33) = x := ⟨_, rfl⟩
            rw [hW6] at P6 R6 hS ⊢
            clear hW6 al6
            refine AnyTo.ready (rs := [7]) (by kernel_rfl) (by simp) ?_
            refine ReadyTo.cons rfl (fun K hK => ?_) ReadyTo.nil
            rw [if_pos (by rfl)]
            refine wp_appV _ _ rfl Tryz.underlying31 infoVal3 rfl (by decide) (w1.heap.size + 1) iv cs (cs ++ [(vvl h' (.slice ta' tn' tc') (.slice ua' un' uc') (.slice ma' mn' mc'))]) (vvl h' (.slice ta' tn' tc') (.slice ua' un' uc') (.slice ma' mn' mc')) W16.heap.size 1 i HCL.out rfl P6.out.io rfl R6.out rfl (fun c hc => (Array.all_eq_true_iff_forall_mem.1 (vv_one h' (tv := (.slice ta' tn' tc')) (v := (.slice ua' un' uc')) (mv := (.slice ma' mn' mc')) rfl rfl rfl)) c (by simpa [vv] using hc)) (by omega) (by decide) P6.out.vb.lt rfl ?_
            intro g7 c7 W7 ho7 hb7 hf7 hgo7 hgl7
            have vb7 := P6.out.vb.frame (hb7.block _ (by omega))
            refine hK.out _ _ (S16 _ vb7 (P6.out.lo.trans (hb7.mono (by have := P6.out.hw.size; omega)))) (fun hS => ?_)
            clear hK K
            refine dtp 8 ?_
            have c5' : W7.cell? ⟨w1.heap.size, 5, none⟩ = some iv := vb7.cells.2.2.2.2.2.1
            have f5' : W7.frozen? ⟨w1.heap.size, 5, none⟩ = false := frozen_of_row W7 w1.heap.size 5 _ _ vb7
            refine AnyTo.ready (rs := [9]) (by kernel_rfl) (by simp) ?_
            refine ReadyTo.last rfl (by kernel_rfl) (fun K hK => ?_) ReadyTo.nil
            go_simp
            refine hK.out _ _ ?_
            clear hK K
            refine AnyTo.done (by kernel_rfl) ?_ _
            refine NoPanic.normal ?_
            have P8 := Lib.hid (P6.out.items ho7 hb7 hf7)
            obtain ⟨W8, hW8⟩ : ∃ x, W7.setCell ⟨w1.heap.size, 5, none⟩ (.slice (some ⟨g7, 0, none⟩) (i + 1) c7) = x := ⟨_, rfl⟩
            rw [hW8] at P8 ⊢
            clear hW8 ho7 hb7 hf7 hgo7 hgl7 vb7 c5' f5' hS S16 P16 P6 R6
            have hrr8 := Lib.hid (range_same HRW.out (P8.out.lo.block b HBK.out))
            have PZ := Lib.hid (jpieces_any h' kids' (.slice ta' tn' tc') (.slice ua' un' uc') (.slice ma' mn' mc') W8 (HT.out.keep P8.out.lo) (by have := F1.out; simp only [VoC] at this; omega) (VoL.mono (by decide) _ F2.out) (HDT.out.below P8.out.lo) (HUT.out.below P8.out.lo))
            have c0 := hrr8.out 0 _ rfl
            have c1 := hrr8.out 1 _ rfl
            have c2 := hrr8.out 2 _ rfl
            have c3 := hrr8.out 3 _ rfl
            have c4 := hrr8.out 4 _ rfl
            have c5 := hrr8.out 5 _ rfl
            have c6 := hrr8.out 6 _ rfl
            have c7' := hrr8.out 7 _ rfl
            have c8 := hrr8.out 8 _ rfl
            rw [Nat.add_zero] at c0
            unfold vv vvl at PZ
            go_wp2_with fail
            refine PZ.out.mono ?_
            rintro e W9 ⟨u9, rfl, hu9, hb9⟩
            have P9 := Lib.hid (P8.out.keep hb9)
            have U9 := Lib.hid hu9
            have N9 := Lib.hid (OwnV.nn hu9)
            have L9 : Hid ((([91], x2) :: (pcsT 2 marks L i ++ [([44], z)])).length + (jpc h' kids').length ≤ 100000) := Lib.hid (by
              have e1 := pcsV_count h' kids'
              have e2 := F1.out
              have e3 := LEN.out
              have e4 : (jpc h' kids').length ≤ (pcsV h' kids').length := by unfold jpc; split <;> simp
              simp only [VoC] at e2
              simp only [List.length_cons, List.length_append, List.length_nil]
              omega)
            clear hb9 hu9 c0 c1 c2 c3 c4 c5 c6 c7' c8 hrr8 PZ P8
            go_wp2_with (at_builtin; refine wpl_appendVG rfl _ _ rfl Tryz.underlying50 infoPc rfl (by decide) (w1.heap.size + 1) _ u9 ((([91], x2) :: (pcsT 2 marks L i ++ [([44], z)])).map pcv) ((jpc h' kids').map pcv) (((([91], x2) :: (pcsT 2 marks L i ++ [([44], z)])) ++ jpc h' kids').map pcv) rfl P9.out.wo rfl (OwnV.vs U9.out) N9.out (pcv_len _) (pcv_one _) ?_ (by decide) P9.out.vb.lt (by simp) ?_)
            · have := L9.out; rw [List.length_map, List.length_map]; omega
            · intro vA WB hoA hbA hfA hgA
              have hoJ : OwnV 58 2 (w1.heap.size + 1) WB vA (((([91], x2) :: (pcsT 2 marks L i ++ [([44], z)])) ++ jpc h' kids').map pcv) := by simpa using hoA
              have PA := Lib.hid (P9.out.want (wl' := (([91], x2) :: (pcsT 2 marks L i ++ [([44], z)])) ++ jpc h' kids') hoJ hbA hfA)
              clear hoA hbA hfA hgA hoJ
              go_wp2
              go_roundw
              case rel =>
                have HPQ : ∃ iv mv, Pst w w1 x2 x3 (marks.take (i + 1 - 1)) WB iv mv vA (cs ++ [(vvl h' (.slice ta' tn' tc') (.slice ua' un' uc') (.slice ma' mn' mc'))]) (([91], x2) :: pcsT 2 marks L (i + 1)) := by
                  have hP := PA.out
                  have e5 : jpc h' kids' = pcsV h' kids' := by unfold jpc; rw [if_pos HRB.out]
                  rw [e5] at hP
                  rw [HNX.out]
                  rw [if_pos h0, HZ2.out, show i + 1 - 1 = i by omega, show mkB 2 i = [44] from by unfold mkB; rw [if_neg (by omega)]]; exact ⟨_, _, by simpa [List.append_assoc] using hP⟩
                obtain ⟨iv', mv', hPQ⟩ := HPQ
                refine ⟨i + 1, iv', mv', cs ++ [(vvl h' (.slice ta' tn' tc') (.slice ua' un' uc') (.slice ma' mn' mc'))], by go_num, by omega, by rw [List.length_append, HCL.out]; rfl, ?_, ?_, hPQ⟩
                · intro j hj
                  by_cases hji : j < cs.length
                  · rw [List.getElem_append_left hji]; exact HCS.out j hji
                  · have ej : j = i := by rw [List.length_append, HCL.out] at hj; rw [HCL.out] at hji; simp at hj; omega
                    subst ej
                    refine ⟨h', kids', _, _, _, HAT.out, HDT.out, HUT.out, ?_⟩
                    rw [List.getElem_append_right (by rw [HCL.out]; exact Nat.le_refl _)]
                    simp [HCL.out]
                · intro j h'' k'' hj e
                  rcases Nat.lt_succ_iff_lt_or_eq.1 hj with hj | rfl
                  · exact HOK.out j h'' k'' hj e
                  · rw [HAT.out] at e
                    simp only [Option.some.injEq, Prod.mk.injEq] at e
                    obtain ⟨rfl, rfl⟩ := e
                    exact ⟨HFEW.out, HRB.out⟩
              case measure => simp [intOf]; omega
    · obtain rfl : i = len0 := by omega
      have j1 : ¬ (i : Int) < i := by omega
      obtain ⟨hdq, hvq, hcq, hlq, hbq⟩ := vq_facts x2 x3 marks L i HN.out P1.out HCS.out HCL.out (fun j h kids hj e => (HOK.out j h kids hj e).1) q1
      have RT := Lib.hid (rrtop_any (vq x2 x3 (marks.take (i - 1))) L (.slice none 0 0) iv mv wr (by omega) (VoL.mono (by decide) _ hlq) hdq hvq)
      have JW := Lib.hid (fun W (hW : Below wr.heap.size wr W) => jpieces_any (vq x2 x3 (marks.take (i - 1))) L (.slice none 0 0) iv mv W (HT.out.keep (P1.out.lo.trans (hW.mono P1.out.lo.size))) hcq hlq (hdq.below hW) (hvq.below hW))
      have XB := Lib.hid hbq
      have PV : Hid (rightH (vq x2 x3 (marks.take (i - 1))) L 60 = true → jpc (vq x2 x3 (marks.take (i - 1))) L = (([91], x2) :: pcsT 2 marks L i) ++ [([93], x3)]) := Lib.hid (fun h => by
        unfold jpc
        rw [if_pos h]
        have := pcsV_vq x2 x3 marks L
        rw [HN.out] at this
        exact this)
      have PF : Hid (rightH (vq x2 x3 (marks.take (i - 1))) L 60 = false → jpc (vq x2 x3 (marks.take (i - 1))) L = []) := Lib.hid (fun h => by unfold jpc; rw [h]; rfl)
      have hl5 : (([91], x2) :: pcsT 2 marks L i).length ≤ 1000000 := by
        have := pcsT_few 2 marks L i fun j h k hj e => (HOK.out j h k hj e).1
        simp only [List.length_cons]; omega
      obtain ⟨H, hH⟩ : ∃ x, vq x2 x3 (marks.take (i - 1)) = x := ⟨_, rfl⟩
      rw [hH] at RT JW XB PV PF
      obtain ⟨LJ, hLJ⟩ : ∃ x, jpc H L = x := ⟨_, rfl⟩
      obtain ⟨LW, hLW⟩ : ∃ x, ([91], x2) :: pcsT 2 marks L i = x := ⟨_, rfl⟩
      rw [hLJ] at JW PV PF
      rw [hLW] at PV P1 hl5
      obtain ⟨ans, hans⟩ : ∃ b, rightH H L 60 = b := ⟨_, rfl⟩
      rw [hans] at RT PV PF
      clear hH hLJ hLW hans hdq hvq hcq hlq hbq HCS HOK HCL AT HQ HMQ P0 B1
      cases ans with
      | false =>
        have hj := PF.out rfl
        subst hj
        clear PF PV
        as_aux_lemma =>
          go_wp2_with (first | (refine wpl_ldV rfl _ rfl w1.heap.size 0 H _ _ _ rfl XB.out.range ?_) | fail)
          refine RT.out.mono ?_
          rintro e w4 ⟨rfl, hb4⟩
          have X4 := Lib.hid (XB.out.keep hb4)
          have J4 := Lib.hid (JW.out w4 hb4)
          have P4 := Lib.hid (P1.out.keep hb4)
          clear hb4 RT JW
          go_wp2_with (first | (refine wpl_ldV rfl _ rfl w1.heap.size 0 H _ _ _ rfl X4.out.range ?_) | fail)
          refine J4.out.mono ?_
          rintro e w5 ⟨u, rfl, hu, hb5⟩
          have P5 := Lib.hid (P4.out.keep hb5)
          obtain ⟨ua, uc, hue, -⟩ := OwnV.vs hu
          have hue' : u = .slice ua 0 uc := hue
          clear hue hb5 hu
          subst hue'
          go_wp2
          go_ret
          exact ⟨rfl, P5.out.lo⟩
      | true =>
        have hj := PV.out rfl
        subst hj
        clear PF PV
        as_aux_lemma =>
          go_wp2_with (first | (refine wpl_ldV rfl _ rfl w1.heap.size 0 H _ _ _ rfl XB.out.range ?_) | fail)
          refine RT.out.mono ?_
          rintro e w4 ⟨rfl, hb4⟩
          have X4 := Lib.hid (XB.out.keep hb4)
          have J4 := Lib.hid (JW.out w4 hb4)
          have P4 := Lib.hid (P1.out.keep hb4)
          clear hb4 RT JW
          go_wp2_with (first | (refine wpl_ldV rfl _ rfl w1.heap.size 0 H _ _ _ rfl X4.out.range ?_) | fail)
          refine J4.out.mono ?_
          rintro e w5 ⟨u, rfl, hu, hb5⟩
          have P5 := Lib.hid (P4.out.keep hb5)
          have U5 := Lib.hid hu
          have OB : Hid (∀ wv', OwnJ (w1.heap.size + 1) w4 wv' LW → ∀ j, u.ownBlock = some j → some j ≠ wv'.ownBlock) := Lib.hid (fun wv' h j hj e => by
            have e1 := (own_in hu j hj).1
            have e2 := (own_in h j e.symm).2
            omega)
          have P4w := Lib.hid (OB.out _ P4.out.wo)
          obtain ⟨ua, uc, hue, -⟩ := OwnV.vs hu
          obtain ⟨un, hun⟩ : ∃ x, ((LW ++ [([93], x3)]).map pcv).length = x := ⟨_, rfl⟩
          rw [hun] at hue
          clear hb5 hu OB hun
          subst hue
          go_wp2_with (at_builtin; refine wpl_jp rfl _ _ rfl (w1.heap.size + 1) _ _ LW ([93], x3) rfl ?_ rfl ?_ (nnv_some _ _ _) hl5 ?_ ?_)
          · exact OwnV.keep P5.out.wo ((Below.refl _ _).alloc (Nat.le_refl _) _)
          · exact one_jp _ ⟨#[93]⟩ [93] x3 rfl
          · have := P5.out.vb.lt; first | omega | (rw [World.size_alloc]; omega)
          · intro l9 w9 J9
            have al := (Below.refl w5.heap.size w5).alloc (Nat.le_refl _) (.cells #[.string ⟨#[93]⟩, .int .i64 x3] 58)
            have P9 := Lib.hid ((P5.out.keep al).want J9.own J9.bl J9.fr)
            have hu9 := OwnV.keep U5.out al
            have U9 := ownV_frame hu9 (fun j hj => J9.fr j (own_in hu9 j hj).2 (P4w.out j hj))
            have SJ := Lib.hid (samej_any (LW ++ [([93], x3)]) _ l9 w9 (OwnV.vs U9) (OwnV.vs J9.own))
            clear U9 hu9 al J9
            go_wp2_with fail
            refine SJ.out.mono ?_
            rintro e w10 ⟨rfl, hb10⟩
            have P10 := Lib.hid (P9.out.keep hb10)
            clear hb10
            go_wp2
            go_ret
            exact ⟨rfl, P10.out.lo⟩
end Go.Proofs.YtkindbfehflohaaGreatDoor
