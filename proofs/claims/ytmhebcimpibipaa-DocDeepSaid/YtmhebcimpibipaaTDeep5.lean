/- The walk of DocDeep. -/
import Derived.Test.YtmhebcimpibipaaTDeep4
import Derived.Test.YtmhebcimpibipaaTDoc6
namespace Go.Proofs.Ytmhebcimpibipaa
open Go.RowKit
set_option linter.unusedVariables false
set_option linter.unusedSimpArgs false

theorem vs_lit (k : Int) (L : List Ad) (w : World) (x0 : Int) (X : ByteArray) (u : Value) (h0 : kdk k L = x0) (h2 : kdt L = X) (h3 : kdv L = u) :
    Vs 4 (w.alloc (.cells #[.int .i64 x0, .int .i64 0, .string X, u] 30)) (.slice (some ⟨w.heap.size, 0, none⟩) 1 1) [dcv k L] := by
  subst h0; subst h2; subst h3
  exact vs_cells 4 30 w [dcv k L] _ 1 rfl (dcv_four k L) rfl (by simp)
set_option maxRecDepth 100000 in
set_option maxHeartbeats 4000000 in
theorem ddeep_walk (a0 a1 : Int) (w0 : (Lit.int .i64 a0).wf = true) (w1 : (Lit.int .i64 a1).wf = true) (w : World) :
    Calls Try.prog 4 #[.int .i64 a0, .int .i64 a1] w fun e w' => e = .returned (.bool true) ∧ Below w.heap.size w w' := by
  have al := Lib.hid (alive_any w)
  clear w0 w1
  by_cases h1 : a0 < 0
  · go_enter Try.func4, Try.ntmps4
    go_wp2_with fail
    refine al.out.mono ?_
    rintro e w1 ⟨rfl, hb⟩
    go_wp2
    go_ret
    exact ⟨rfl, hb⟩
  by_cases h2 : 240 < a0
  · go_enter Try.func4, Try.ntmps4
    go_wp2_with fail
    refine al.out.mono ?_
    rintro e w1 ⟨rfl, hb⟩
    go_wp2
    go_ret
    exact ⟨rfl, hb⟩
  by_cases h3 : a1 < 5
  · go_enter Try.func4, Try.ntmps4
    go_wp2_with fail
    refine al.out.mono ?_
    rintro e w1 ⟨rfl, hb⟩
    go_wp2
    go_ret
    exact ⟨rfl, hb⟩
  by_cases h4 : 7 < a1
  · go_enter Try.func4, Try.ntmps4
    go_wp2_with fail
    refine al.out.mono ?_
    rintro e w1 ⟨rfl, hb⟩
    go_wp2
    go_ret
    exact ⟨rfl, hb⟩
  have hk : a1 = 5 ∨ a1 = 6 ∨ a1 = 7 := by omega
  obtain ⟨m, hm⟩ : ∃ m : Nat, a0 = (m : Int) := ⟨a0.toNat, by omega⟩
  subst hm
  have hm9 : m ≤ 240 := by omega
  have TX := Lib.hid (fun W => text_any ⟨#[120]⟩ 0 W)
  have CT := Lib.hid (fun v L W => catc a1 v L W)
  have FL := Lib.hid (fun L W => flatc a1 hk L W)
  have RT := Lib.hid (fun L W => rightt a1 hk L W)
  clear hk
  unfold dv at TX
  go_enter Try.func4, Try.ntmps4
  go_wp2_with fail
  refine al.out.mono ?_
  rintro e w1 ⟨rfl, hb1⟩
  go_wp2_with fail
  refine (TX.out _).mono ?_
  rintro e w2 ⟨rfl, hb2⟩
  have c2 := Lib.hid (hb1.trans (hb2.mono hb1.size))
  clear hb1 hb2
  have dd0 := Lib.hid (DB.new w2 #[.int .i64 1, .int .i64 0, .string ⟨#[120]⟩, .slice none 0 0])
  have b3 := Lib.hid (c2.out.alloc c2.out.size (.cells #[.int .i64 1, .int .i64 0, .string ⟨#[120]⟩, .slice none 0 0] 30))
  have z2 := Lib.hid c2.out.size
  obtain ⟨W3, hW3⟩ : ∃ W, w2.alloc (.cells #[.int .i64 1, .int .i64 0, .string ⟨#[120]⟩, .slice none 0 0] 30) = W := ⟨_, rfl⟩
  rw [hW3] at dd0 b3
  obtain ⟨b6, hb6⟩ : ∃ b, w2.heap.size = b := ⟨_, rfl⟩
  rw [hb6] at dd0 z2
  have HW3 := Lib.hid hW3
  have HB6 := Lib.hid hb6
  clear hW3 hb6
  go_upto_region 5 with fail
  rw [HW3.out, HB6.out]
  go_wp2
  go_loopw [7] (fun iv wr => ∃ i : Nat, iv = .int .i64 (i : Int) ∧ i ≤ m ∧ ∃ L, L.length = i ∧ Chn a1 wr L ∧ (∀ x ∈ L, x.1 ≠ b6) ∧ DB wr b6 (dv (kdk a1 L) 0 (kdt L) (kdv L)) ∧ Below w.heap.size w wr) (fun iv _ => m - (intOf iv).toNat)
  case atStart => exact ⟨0, rfl, by omega, [], rfl, trivial, by simp, dd0.out, b3.out⟩
  case round =>
    obtain ⟨i, rfl, hi, L, hL, hch, hne, hdb, hbl⟩ := hrel
    obtain ⟨ua, un, uc, hu⟩ := kdv_slice L
    obtain ⟨x0, hx0⟩ : ∃ x, kdk a1 L = x := ⟨_, rfl⟩
    obtain ⟨X, hX⟩ : ∃ x, kdt L = x := ⟨_, rfl⟩
    have FL1 := Lib.hid (fun W (hb : Below wr.heap.size wr W) => FL.out L W (hch.keep hb))
    have RT1 := Lib.hid (fun W (hb : Below wr.heap.size wr W) => RT.out L W (hch.keep hb))
    have HBL := Lib.hid hbl
    rw [hx0, hX, hu] at hdb FL1 RT1
    rw [hL] at FL1 RT1
    have hb6 := hdb.lt
    unfold dv at hdb FL1 RT1
    by_cases hlt : i < m
    · have bA := Lib.hid ((Below.refl wr.heap.size wr).alloc (Nat.le_refl _) (.cells #[.int .i64 x0, .int .i64 0, .string X, .slice ua un uc] 30))
      have C1 := Lib.hid (CT.out (.slice (some ⟨wr.heap.size, 0, none⟩) 1 1) L _ (vs_lit a1 L wr x0 X (.slice ua un uc) hx0 hX hu) (hch.keep bA.out) (by omega))
      have i0 : (i : Int) < m := by omega
      have HL := Lib.hid hL
      have HB6' := Lib.hid hb6
      have HZB := Lib.hid (show b6 < (wr.alloc (.cells #[.int .i64 x0, .int .i64 0, .string X, .slice ua un uc] 30)).heap.size by simp; omega)
      have HWB := z2
      unfold dv at C1
      clear hu hx0 hX hch hne hL hbl FL1 RT1 hb6
      as_aux_lemma =>
        go_wp2_with (refine wpl_ldD rfl _ rfl b6 _ rfl hdb rfl ?_)
        refine (C1.out).mono ?_
        rintro e w3 ⟨g, c, t, rfl, hch3, hlen, hfr, hb3⟩
        have hd3 := DB.keep (DB.keep hdb bA.out HB6'.out) hb3 HZB.out
        have hne3 : ∀ x ∈ (g, 0, c) :: t, x.1 ≠ b6 := fun x hx => by have := hfr x hx; have := HZB.out; omega
        have hchS : Chn a1 (w3.setRow b6 (dv a1 0 ⟨#[]⟩ (.slice (some ⟨g, 0, none⟩) 1 c))) ((g, 0, c) :: t) := by
          have := chn_swap (w' := w3.setRow b6 (dv a1 0 ⟨#[]⟩ (.slice (some ⟨g, 0, none⟩) 1 c))) ((g, 0, c) :: t) (A := []) (A' := []) (by rw [List.append_nil]; exact hch3) (by rw [setRow_size]; exact Nat.le_refl _) (fun x hx => setRow_other w3 _ x.1 _ (hne3 x hx)) rfl rfl rfl trivial
          rwa [List.append_nil] at this
        have hbS : Below w.heap.size w (w3.setRow b6 (dv a1 0 ⟨#[]⟩ (.slice (some ⟨g, 0, none⟩) 1 c))) := below_setRowD ((HBL.out.trans (bA.out.mono HBL.out.size)).trans (hb3.mono (Nat.le_trans HBL.out.size bA.out.size))) HWB.out _
        have hdS := DB.set hd3 (dv a1 0 ⟨#[]⟩ (.slice (some ⟨g, 0, none⟩) 1 c))
        clear hch3 hb3 hfr
        go_wp2_with (refine wpl_stD rfl _ _ rfl b6 _ (dv a1 0 ⟨#[]⟩ (.slice (some ⟨g, 0, none⟩) 1 c)) rfl rfl hd3 rfl rfl (dv_one _ _ _ _ rfl) ?_)
        go_roundw
        case rel => exact ⟨i + 1, by go_num, by omega, (g, 0, c) :: t, by rw [List.length_cons, hlen, HL.out], hchS, hne3, hdS, hbS⟩
        case measure => simp [intOf]; omega
    · obtain rfl : i = m := by omega
      have t1 : decide ((i : Int) < i) = false := by simp
      clear hu hx0 hX hch hne hL hbl hlt hb6
      by_cases hm2 : i ≤ 200
      · have t2 : (i : Int) ≤ 200 := by omega
        rw [if_pos hm2] at FL1
        rw [decide_eq_true hm2] at RT1
        as_aux_lemma =>
          go_wp2_with (refine wpl_ldD rfl _ rfl b6 _ rfl hdb rfl ?_)
          refine (FL1.out _ (Below.refl _ _)).mono ?_
          rintro e w4 ⟨rfl, hb4⟩
          have hd4 := DB.keep hdb hb4 (DB.lt hdb)
          have c4 := HBL.out.trans (hb4.mono HBL.out.size)
          go_wp2_with (refine wpl_ldD rfl _ rfl b6 _ rfl hd4 rfl ?_)
          refine (RT1.out _ hb4).mono ?_
          rintro e w5 ⟨rfl, hb5⟩
          have c5 := c4.trans (hb5.mono c4.size)
          clear hb4 hb5 c4
          go_wp2
          go_ret
          exact ⟨rfl, c5⟩
      · have t2 : ¬ (i : Int) ≤ 200 := by omega
        have T3 := Lib.hid (show (!decide ((i : Int) ≤ 200)) = true by rw [decide_eq_false t2]; rfl)
        rw [if_neg hm2] at FL1
        rw [decide_eq_false hm2] at RT1
        as_aux_lemma =>
          go_wp2_with (refine wpl_ldD rfl _ rfl b6 _ rfl hdb rfl ?_)
          refine (FL1.out _ (Below.refl _ _)).mono ?_
          rintro e w4 ⟨rfl, hb4⟩
          have hd4 := DB.keep hdb hb4 (DB.lt hdb)
          have c4 := HBL.out.trans (hb4.mono HBL.out.size)
          go_wp2_with (refine wpl_ldD rfl _ rfl b6 _ rfl hd4 rfl ?_)
          refine (RT1.out _ hb4).mono ?_
          rintro e w5 ⟨rfl, hb5⟩
          have c5 := c4.trans (hb5.mono c4.size)
          clear hb4 hb5 c4
          go_wp2
          go_ret
          exact ⟨congrArg (fun b => Ending.returned (.bool b)) T3.out, c5⟩
end Go.Proofs.Ytmhebcimpibipaa
