import Derived.Test.YtbfnlgmhfhaglaaGreatDoorQb09
import Derived.Test.YtbfnlgmhfhaglaaGreatDoorQb13
import Derived.Test.YtbfnlgmhfhaglaaGreatDoorQb14
set_option maxHeartbeats 4000000
set_option maxRecDepth 100000
namespace Go.Proofs.YtbfnlgmhfhaglaaGreatDoor
open Go.RowKit
set_option linter.unusedVariables false
set_option linter.unusedSimpArgs false
def nnum (h : Vh) : Bool := !h.ng && h.dg.isEmpty && h.ex.isEmpty
def evK : Bool -> Vo -> Bool
 | _, .nil => true
 | e, .cons h _ r => (!e || decide (h.k = 3)) && evK (!e) r
def nlist (h : Vh) (n : Nat) : Bool := decide (n = 0) && decide (h.ms.length = 0) && decide (h.tt = 0)
def keysB (h : Vh) (L : Vo) : Bool := decide (h.k ≠ 1) || (evK true L && decide (L.len % 2 = 0))
def marksB (h : Vh) (n : Nat) : Bool := decide (0 <= h.tt) && decide (h.ms.length = n - 1) && h.ms.all (fun z => decide (0 <= z))
def headB (h : Vh) (n : Nat) (d : Nat) (kb : Bool) : Bool :=
 decide (0 <= h.fr) && (if h.k = 1 \/ h.k = 2 then decide (h.tx.length = 0) && nnum h && decide (0 < d) && kb
  else if h.k = 3 then nnum h && nlist h n && M.rightU h.tx
  else if h.k = 4 then decide (h.tx.length = 0) && nlist h n && M.rightN h.dg h.ex
  else if h.k = 5 \/ h.k = 6 \/ h.k = 7 then decide (h.tx.length = 0) && nnum h && nlist h n else false)
def rightVo : Vo -> Nat -> Bool
 | .nil, _ => true
 | .cons h kids rest, d => headB h kids.len d (marksB h kids.len && keysB h kids && rightVo kids (d - 1)) && rightVo rest d
def rightH (h : Vh) (kids : Vo) (d : Nat) : Bool := headB h kids.len d (marksB h kids.len && keysB h kids && rightVo kids (d - 1))
theorem rightVo_cons (h : Vh) (kids rest : Vo) (d : Nat) : rightVo (.cons h kids rest) d = (rightH h kids d && rightVo rest d) := rfl
theorem rightVo_true (d : Nat) (L : Vo) : (∀ j h kids, L.at? j = some (h, kids) -> rightH h kids d = true) -> rightVo L d = true := by
 induction L with
 | nil => intro _; rfl
 | cons h kids rest _ ih =>
  intro H
  rw [rightVo_cons, H 0 h kids rfl, ih fun j h' k' hj => H (j + 1) h' k' hj]; rfl
theorem rightVo_false (d : Nat) (L : Vo) : ∀ j h kids, L.at? j = some (h, kids) -> rightH h kids d = false -> rightVo L d = false := by
 induction L with
 | nil => intro j h kids e; simp [Vo.at?] at e
 | cons h0 kids0 rest _ ih =>
  intro j h kids e hr
  cases j with
  | zero =>
   simp only [Vo.at?, Option.some.injEq, Prod.mk.injEq] at e
   obtain ⟨rfl, rfl⟩ := e
   rw [rightVo_cons, hr]; rfl
  | succ j => rw [rightVo_cons, ih j h kids e hr, Bool.and_false]
def VB (w : World) (b : Nat) (h : Vh) (tv v mv : Value) : Prop := w.heap[b]? = some (.cells (vv h tv v mv) 27 (0, 0))
theorem VB.lt {w : World} {b : Nat} {h : Vh} {tv v mv : Value} (x : VB w b h tv v mv) : b < w.heap.size := (Array.getElem?_eq_some_iff.1 x).1
theorem VB.new (w : World) (h : Vh) (tv v mv : Value) : VB (w.alloc (.cells (vv h tv v mv) 27)) w.heap.size h tv v mv := heap_alloc_new w _
theorem VB.frame {w w' : World} {b : Nat} {h : Vh} {tv v mv : Value} (x : VB w b h tv v mv) (hb : w'.heap[b]? = w.heap[b]?) : VB w' b h tv v mv := by unfold VB; rw [hb]; exact x
theorem VB.keep {w w' : World} {b : Nat} {h : Vh} {tv v mv : Value} (x : VB w b h tv v mv) (hb : Below w.heap.size w w') : VB w' b h tv v mv := x.frame (hb.block b x.lt)
theorem VB.range {w : World} {b : Nat} {h : Vh} {tv v mv : Value} (x : VB w b h tv v mv) : w.rangeAt b 0 (vvl h tv v mv) := fun j u hu => by
 rw [Nat.zero_add, cell_of_row w b j _ _ _ x]
 exact (by simpa [vv] using hu)
theorem VB.cells {w : World} {b : Nat} {h : Vh} {tv v mv : Value} (x : VB w b h tv v mv) :
  w.cell? ⟨b, 0, none⟩ = some (.int .i64 h.k) /\ w.cell? ⟨b, 1, none⟩ = some tv /\ w.cell? ⟨b, 2, none⟩ = some (.bool h.ng) /\ w.cell? ⟨b, 3, none⟩ = some (.string (bytes h.dg)) /\ w.cell? ⟨b, 4, none⟩ = some (.string (bytes h.ex)) /\ w.cell? ⟨b, 5, none⟩ = some v /\ w.cell? ⟨b, 6, none⟩ = some (.int .i64 h.fr) /\ w.cell? ⟨b, 7, none⟩ = some (.int .i64 h.tt) /\ w.cell? ⟨b, 8, none⟩ = some mv :=
 ⟨x.range 0 _ rfl, x.range 1 _ rfl, x.range 2 _ rfl, x.range 3 _ rfl, x.range 4 _ rfl, x.range 5 _ rfl, x.range 6 _ rfl, x.range 7 _ rfl, x.range 8 _ rfl⟩
theorem vbox_set {w : World} {h : Vh} {tv v mv : Value} (W2 : World) (hW : (w.alloc (.cells zv 27)).setRow w.heap.size (vv h tv v mv) = W2) : VB W2 w.heap.size h tv v mv /\ Below w.heap.size w W2 := by
 subst hW
 have b := (Below.refl w.heap.size w).alloc (Nat.le_refl _) (.cells zv 27)
 refine ⟨setRow_heap _ _ zv _ _ _ (heap_alloc_new w _), ⟨b.os, b.tape, b.output, by rw [setRow_size]; exact b.size, fun k hk => by rw [setRow_other _ w.heap.size k _ (by omega)]; exact b.block k hk⟩⟩
def KyV (L R : Vo) (i : Nat) : Prop := (∀ j, R.at? j = L.at? (i + j)) /\ (R.len + i = L.len \/ (R.len = 0 /\ i = L.len + 1)) /\ evK true R = evK true L
def Vo.two : Vo -> Vo
 | .cons _ _ (.cons _ _ r) => r
 | _ => .nil
theorem ky_next {L R : Vo} {i : Nat} {h : Vh} {kids : Vo} (x : KyV L R i) (hi : i < L.len) (hh : L.at? i = some (h, kids)) (hk : h.k = 3) : KyV L R.two (i + 2) := by
 obtain ⟨x1, x2, x3⟩ := x
 cases R with
 | nil => simp [Vo.len] at x2; omega
 | cons h0 k0 r =>
  have e := x1 0
  rw [Nat.add_zero, hh] at e
  simp only [Vo.at?, Option.some.injEq, Prod.mk.injEq] at e
  obtain ⟨rfl, rfl⟩ := e
  cases r with
  | nil =>
   refine ⟨fun j => ?_, ?_, ?_⟩
   ·have : L.at? (i + 2 + j) = none := by
     cases hj : L.at? (i + 2 + j) with
     | none => rfl
     | some y => have := vo_at_lt L _ hj; simp [Vo.len] at x2; omega
    rw [this]; rfl
   ·right; simp [Vo.len] at x2 ⊢; simp [Vo.two, Vo.len]; omega
   ·rw [<- x3]; simp [Vo.two, evK, hk]
  | cons h1 k1 r1 =>
   refine ⟨fun j => ?_, ?_, ?_⟩
   ·have := x1 (j + 2)
    rw [show i + 2 + j = i + (j + 2) by omega]
    exact this
   ·left; simp [Vo.len] at x2; simp [Vo.two]; omega
   ·rw [<- x3]; simp [Vo.two, evK, hk]
theorem ky_bad {L R : Vo} {i : Nat} {h : Vh} {kids : Vo} (x : KyV L R i) (hi : i < L.len) (hh : L.at? i = some (h, kids)) (hk : h.k ≠ 3) : evK true L = false := by
 obtain ⟨x1, x2, x3⟩ := x
 cases R with
 | nil => simp [Vo.len] at x2; omega
 | cons h0 k0 r =>
  have e := x1 0
  rw [Nat.add_zero, hh] at e
  simp only [Vo.at?, Option.some.injEq, Prod.mk.injEq] at e
  obtain ⟨rfl, rfl⟩ := e
  rw [<- x3]; simp [evK, hk]
theorem ky_end {L R : Vo} {i : Nat} (x : KyV L R i) (hi : ¬ i < L.len) : evK true L = true := by
 obtain ⟨x1, x2, x3⟩ := x
 cases R with
 | nil => rw [<- x3]; rfl
 | cons h0 k0 r => simp [Vo.len] at x2; omega
theorem rightkeys_any (h : Vh) (L : Vo) (tv v mv : Value) (w : World) (ht : HdS w h tv mv) (hv : VoS w v L) (hC : L.len <= 2097152) :
  Calls Tryz.prog 99 #[.agg (vv h tv v mv)] w fun e w' => e = .returned (.bool (keysB h L)) /\ Below w.heap.size w w' := by
 have b0 := LH ((Below.refl w.heap.size w).alloc (Nat.le_refl _) (.cells (vv h tv v mv) 27))
 have x0 := VB.new w h tv v mv
 have hS := LH (hv.below b0.out)
 obtain ⟨a, cap, rfl, -⟩ := hv
 obtain ⟨ta, tc, htv⟩ := ht.t.slice
 obtain ⟨ma, mc, hmv⟩ := ht.m.slice
 subst htv hmv
 obtain ⟨W1, hW1⟩ : ∃ W, w.alloc (.cells (vv h (.slice ta h.tx.length tc) (.slice a L.len cap) (.slice ma h.ms.length mc)) 27) = W := ⟨_, rfl⟩
 rw [hW1] at b0 x0 hS
 have X0 := LH x0
 have HW1 := LH hW1
 obtain ⟨n, hn⟩ : ∃ n, L.len = n := ⟨_, rfl⟩
 have HN := LH hn
 rw [hn] at hC
 obtain ⟨g0, g1, g2, g3, g4, g5, g6, g7, g8⟩ := x0.cells
 rw [hn] at g5
 have KB := LH (show keysB h L = (decide (h.k ≠ 1) || (evK true L && decide (L.len % 2 = 0))) from rfl)
 unfold vv vvl at HW1 ⊢
 rw [hn] at HW1 ⊢
 obtain ⟨K, hK⟩ : ∃ x, h.k = x := ⟨_, rfl⟩
 rw [hK] at g0 HW1 KB ⊢
 clear hW1 hK hn ht x0 g1 g2 g3 g4 g6 g7 g8
 by_cases hk : K = 1
 case neg =>
  rw [show (decide (K ≠ 1) || (evK true L && decide (L.len % 2 = 0))) = true by simp [hk]] at KB
  have t1 : (K == 1) = false := by simpa using hk
  have t2 : (K != 1) = true := by simpa using hk
  rw [KB.out]
  go_enter Tryz.func99, Tryz.ntmps99
  go_upto_region 1 with fail
  rw [HW1.out]
  go_wp2
  go_ret
  exact ⟨rfl, b0.out⟩
 subst hk
 have KB2 := LH (KB.out.trans (show (decide ((1 : Int) ≠ 1) || (evK true L && decide (L.len % 2 = 0))) = (evK true L && decide (n % 2 = 0)) by rw [HN.out]; simp))
 obtain ⟨ans, hans⟩ : ∃ r, keysB h L = r := ⟨_, rfl⟩
 rw [hans] at KB2 ⊢
 have H4 := LH hS.out
 have AT := LH (fun i (hi : i < n) => Vo.at_some L i (by rw [HN.out]; exact hi))
 have zz : w.heap.size < W1.heap.size := X0.out.lt
 clear hans KB
 go_enter Tryz.func99, Tryz.ntmps99
 go_upto_region 1 with fail
 rw [HW1.out]
 go_upto_region 4 with fail
 go_loop [3] (fun iv => ∃ (i : Nat) (R : Vo), iv = .int .i64 (i : Int) /\ i <= n + 1 /\ KyV L R i) (fun iv => n + 2 - (intOf iv).toNat)
 case atStart => exact ⟨0, L, rfl, by omega, fun j => by rw [Nat.zero_add], .inl rfl, rfl⟩
 case round =>
  obtain ⟨i, R, rfl, hi, hky⟩ := hrel
  by_cases hlt : i < n
  ·obtain ⟨h', kids, hat⟩ := AT.out i hlt
   obtain ⟨a', c', e', -, -, -, hq⟩ := H4.out
   rw [HN.out] at e' hq
   simp only [Value.slice.injEq] at e'
   obtain ⟨rfl, -, rfl⟩ := e'
   obtain ⟨b, off, rfl, hbk, hfo⟩ := hq (by omega)
   obtain ⟨tv', mv', u, hd, hr, hu⟩ := voAt_get L b off i h' kids hfo hat
   have c0 := hr 0 _ rfl
   rw [Nat.add_zero] at c0
   have j0 : (0 : Int) <= i := by omega
   have j1 : (i : Int) < n := by omega
   by_cases hk3 : h'.k = 3
   ·have NX := LH (ky_next hky (by rw [HN.out]; exact hlt) hat hk3)
    rw [hk3] at c0
    clear hat hfo hu hr hd hq hky
    as_aux_lemma =>
     go_wp2
     go_round
     case rel => exact ⟨i + 2, R.two, by go_num, by omega, NX.out⟩
     case measure => simp [intOf]; omega
   ·have BAD := ky_bad hky (by rw [HN.out]; exact hlt) hat hk3
    have hf : ans = false := by rw [KB2.out, BAD]; rfl
    obtain ⟨K', hK'⟩ : ∃ x, h'.k = x := ⟨_, rfl⟩
    rw [hK'] at c0 hk3
    have t3 : (K' == 3) = false := by simpa using hk3
    have t4 : (K' != 3) = true := by simpa using hk3
    subst hf
    clear hat hfo hu hr hd hq hky BAD hK' hk3
    as_aux_lemma =>
     go_wp2
     go_ret
     exact ⟨rfl, b0.out⟩
  ·have EN := ky_end hky (by rw [HN.out]; exact hlt)
   have j1 : ¬ (i : Int) < n := by omega
   have j3 : (n : Int).tmod 2 = ((n % 2 : Nat) : Int) := by rw [Int.tmod_eq_emod_of_nonneg (by omega)]; omega
   clear hky
   rcases Nat.mod_two_eq_zero_or_one n with hm | hm
   ·have hf : ans = true := by rw [KB2.out, EN, hm]; rfl
    rw [hm] at j3
    subst hf
    clear hm EN
    go_wp2
    go_ret
    exact ⟨rfl, b0.out⟩
   ·have hf : ans = false := by rw [KB2.out, EN, hm]; rfl
    rw [hm] at j3
    subst hf
    clear hm EN
    go_wp2
    go_ret
    exact ⟨rfl, b0.out⟩
def RV (h : Vh) (kids : Vo) : Prop :=
 ∀ (d : Nat) (w : World) (tv v mv : Value), d <= 1000 -> 1 + h.tx.length + h.ms.length + VoC kids <= 2097152 -> VoL 100000 (.cons h kids .nil) -> HdS w h tv mv -> VoS w v kids ->
  Calls Tryz.prog 53 #[.agg (vv h tv v mv), .int .i64 (d : Int)] w fun e w' => e = .returned (.bool (rightH h kids d)) /\ Below w.heap.size w w'
theorem rightitems_any (h : Vh) (L : Vo) (RV0 : ∀ j h kids, L.at? j = some (h, kids) -> RV h kids) (d : Nat) (hd : d <= 1000) (hC : VoC L <= 2097152) (hL : VoL 100000 L) (tv v mv : Value) (w : World) (ht : HdS w h tv mv) (hv : VoS w v L) :
  Calls Tryz.prog 100 #[.agg (vv h tv v mv), .int .i64 (d : Int)] w fun e w' => e = .returned (.bool (rightVo L d)) /\ Below w.heap.size w w' := by
 have b0 := LH ((Below.refl w.heap.size w).alloc (Nat.le_refl _) (.cells (vv h tv v mv) 27))
 have x0 := VB.new w h tv v mv
 have hS := LH hv
 have HR := LH (fun j h kids (hj : L.at? j = some (h, kids)) W tv v mv ht hv => RV0 j h kids hj d W tv v mv hd (by have := voC_at L j h kids hj; omega) (by obtain ⟨q1, q2⟩ := voL_at L hL j h kids hj; exact ⟨q1, q2, trivial⟩) ht hv)
 have HT := LH (rightVo_true d L)
 have HF := LH (rightVo_false d L)
 have hLn : L.len <= 2097152 := by have := voC_len L; omega
 obtain ⟨a, cap, rfl, -⟩ := hv
 obtain ⟨ta, tc, htv⟩ := ht.t.slice
 obtain ⟨ma, mc, hmv⟩ := ht.m.slice
 subst htv hmv
 obtain ⟨W1, hW1⟩ : ∃ W, w.alloc (.cells (vv h (.slice ta h.tx.length tc) (.slice a L.len cap) (.slice ma h.ms.length mc)) 27) = W := ⟨_, rfl⟩
 rw [hW1] at b0 x0
 have HW1 := LH hW1
 obtain ⟨n, hn⟩ : ∃ n, L.len = n := ⟨_, rfl⟩
 have HN := LH hn
 rw [hn] at hLn
 obtain ⟨g0, g1, g2, g3, g4, g5, g6, g7, g8⟩ := x0.cells
 rw [hn] at g5
 unfold vv vvl at HW1 ⊢
 rw [hn] at HW1 ⊢
 obtain ⟨ans, hans⟩ : ∃ r, rightVo L d = r := ⟨_, rfl⟩
 rw [hans] at HT ⊢
 have HANS := LH hans
 have AT := LH (fun i (hi : i < n) => Vo.at_some L i (by rw [HN.out]; exact hi))
 clear hW1 hn ht x0 g0 g1 g2 g3 g4 g6 g7 g8 hC hL RV0 hans
 go_enter Tryz.func100, Tryz.ntmps100
 go_upto_region 1 with fail
 rw [HW1.out]
 go_wp2
 go_loopw [6, 10] (fun _ iv wr => ∃ j : Nat, iv = .int .i64 (j : Int) /\ j <= n /\ (∀ i h kids, i < j -> L.at? i = some (h, kids) -> rightH h kids d = true) /\ Below W1.heap.size W1 wr) (fun _ iv _ => n - (intOf iv).toNat)
 case atStart => exact ⟨0, rfl, by omega, fun i _ _ h => by omega, Below.refl _ _⟩
 case round =>
  obtain ⟨j, rfl, hj, hok, hb⟩ := hrel
  have HB := LH (b0.out.trans (hb.mono b0.out.size))
  have HBR := LH hb
  have HOK := LH hok
  clear hb hok
  by_cases hlt : j < n
  ·obtain ⟨h', kids, hat⟩ := AT.out j hlt
   obtain ⟨a', c', e', -, -, -, hq⟩ := hS.out
   rw [HN.out] at e' hq
   simp only [Value.slice.injEq] at e'
   obtain ⟨rfl, -, rfl⟩ := e'
   obtain ⟨b, off, rfl, hbk, hfo⟩ := hq (by omega)
   obtain ⟨tv', mv', u, hd', hr, hu⟩ := voAt_get L b off j h' kids hfo hat
   have hrr := LH (range_same hr (HB.out.block b hbk))
   have hda := LH (hd'.below HB.out)
   have hua := LH (hu.below HB.out)
   have j0 : (0 : Int) <= j := by omega
   have j1 : (j : Int) < n := by omega
   have HAT := LH hat
   have HHF := LH (HF.out j h' kids hat)
   clear hat hfo hu hr hd' hq
   have EW := LH (fun W2 => vbox_set (w := wr) (h := h') (tv := tv') (v := u) (mv := mv') W2)
   go_upto_region 4 with (first | (refine wpl_ldV rfl _ rfl b (off + j * 9) h' tv' u mv' rfl hrr.out ?_) | (refine wpl_stV rfl _ _ rfl wr.heap.size zv h' tv' u mv' rfl rfl (heap_alloc_new wr _) rfl hda.out.t.one hua.out.one hda.out.m.one ?_) | fail)
   obtain ⟨W2, hW2⟩ : ∃ x, (wr.alloc (.cells zv 27)).setRow wr.heap.size (vv h' tv' u mv') = x := ⟨_, rfl⟩
   obtain ⟨V2, B2⟩ := EW.out W2 hW2
   have hW3 := hW2
   unfold zv at hW3
   rw [hW3]
   have hbs := B2.size
   have d2 := LH (HB.out.trans (B2.mono HB.out.size))
   have r2 := LH (HBR.out.trans (B2.mono HBR.out.size))
   have R1 := LH (HR.out j h' kids HAT.out W2 tv' u mv' (hda.out.below B2) (hua.out.below B2))
   have V2R := LH V2.range
   clear hW2 hW3 EW B2 V2 hbs
   cases hrb : rightH h' kids d with
   | true =>
    rw [hrb] at R1
    have HRR := LH hrb
    clear hrb
    as_aux_lemma =>
     go_wp2_with (first | (refine wpl_ldV rfl _ rfl wr.heap.size 0 h' tv' u mv' rfl V2R.out ?_) | fail)
     refine (R1.out).mono ?_
     rintro e w3 ⟨rfl, hb3⟩
     have d3 := r2.out.trans (hb3.mono r2.out.size)
     clear hb3
     go_wp2
     go_roundw
     case rel =>
      refine ⟨j + 1, by go_num, by omega, fun i h'' k'' hi h => ?_, d3⟩
      rcases Nat.lt_succ_iff_lt_or_eq.1 hi with hi | rfl
      ·exact HOK.out i h'' k'' hi h
      ·rw [HAT.out] at h
       simp only [Option.some.injEq, Prod.mk.injEq] at h
       obtain ⟨rfl, rfl⟩ := h
       exact HRR.out
     case measure => simp [intOf]; omega
   | false =>
    rw [hrb] at R1
    have hfa := (HHF.out hrb).symm.trans HANS.out
    subst hfa
    clear hrb
    as_aux_lemma =>
     go_wp2_with (first | (refine wpl_ldV rfl _ rfl wr.heap.size 0 h' tv' u mv' rfl V2R.out ?_) | fail)
     refine (R1.out).mono ?_
     rintro e w3 ⟨rfl, hb3⟩
     have d3 := d2.out.trans (hb3.mono d2.out.size)
     clear hb3
     go_wp2
     go_ret
     exact ⟨rfl, d3⟩
  ·obtain rfl : j = n := by omega
   have t1 : decide ((j : Int) < j) = false := by simp
   obtain rfl := HT.out (fun i h' kids' h => HOK.out i h' kids' (by
    rcases Nat.lt_or_ge i j with hi | hi
    ·exact hi
    ·exfalso
     have := vo_at_lt L i h
     have := HN.out
     omega) h)
   clear hlt
   as_aux_lemma =>
    go_wp2
    go_ret
    exact ⟨rfl, HB.out⟩
theorem all_takeB (l : List Int) : l.all (fun z => decide (0 <= z)) = true ↔ ∀ j (h : j < l.length), 0 <= l[j] := by
 rw [List.all_eq_true]
 constructor
 ·intro h j hj; simpa using h _ (List.getElem_mem hj)
 ·intro h z hz
  obtain ⟨j, hj, rfl⟩ := List.getElem_of_mem hz
  simpa using h j hj
theorem all_badB (l : List Int) (j : Nat) (hj : j < l.length) (h : l[j] < 0) : l.all (fun z => decide (0 <= z)) = false := by
 cases hb : l.all (fun z => decide (0 <= z)) with
 | false => rfl
 | true => have := (all_takeB l).1 hb j hj; omega
theorem rightlist_any (h : Vh) (L : Vo) (RV0 : ∀ j h kids, L.at? j = some (h, kids) -> RV h kids) (d : Nat) (hd : d <= 1000) (hC : 1 + h.tx.length + h.ms.length + VoC L <= 2097152) (hL : VoL 100000 L) (tv v mv : Value) (w : World) (ht : HdS w h tv mv) (hv : VoS w v L) :
  Calls Tryz.prog 72 #[.agg (vv h tv v mv), .int .i64 (d : Int)] w fun e w' => e = .returned (.bool (marksB h L.len && keysB h L && rightVo L d)) /\ Below w.heap.size w w' := by
 have b0 := LH ((Below.refl w.heap.size w).alloc (Nat.le_refl _) (.cells (vv h tv v mv) 27))
 have x0 := LH (VB.new w h tv v mv)
 have KY := LH (fun W ht hv => rightkeys_any h L tv v mv W ht hv (by have := voC_len L; omega))
 have IT := LH (fun W ht hv => rightitems_any h L RV0 d hd (by omega) hL tv v mv W ht hv)
 have hS := LH hv
 have hT := LH ht
 have hLn : L.len <= 2097152 := by have := voC_len L; omega
 have hMn : h.ms.length <= 2097152 := by omega
 have hml := ht.m
 obtain ⟨a, cap, rfl, -⟩ := hv
 obtain ⟨ta, tc, htv⟩ := ht.t.slice
 obtain ⟨ma, mc, hmv, -, -, -, hmc⟩ := hml
 subst htv hmv
 obtain ⟨W1, hW1⟩ : ∃ W, w.alloc (.cells (vv h (.slice ta h.tx.length tc) (.slice a L.len cap) (.slice ma h.ms.length mc)) 27) = W := ⟨_, rfl⟩
 rw [hW1] at b0 x0
 have HW1 := LH hW1
 obtain ⟨n, hn⟩ : ∃ n, L.len = n := ⟨_, rfl⟩
 obtain ⟨mn, hmn⟩ : ∃ n, h.ms.length = n := ⟨_, rfl⟩
 have HN := LH hn
 have HM := LH hmn
 have HMC := LH hmc
 rw [hn] at hLn
 rw [hmn] at hMn
 obtain ⟨g0, g1, g2, g3, g4, g5, g6, g7, g8⟩ := x0.out.cells
 rw [hn] at g5
 rw [hmn] at g8
 obtain ⟨kb, hkb⟩ : ∃ b, keysB h L = b := ⟨_, rfl⟩
 obtain ⟨rb, hrb⟩ : ∃ b, rightVo L d = b := ⟨_, rfl⟩
 obtain ⟨mb, hmb⟩ : ∃ b, marksB h n = b := ⟨_, rfl⟩
 rw [hkb] at KY
 rw [hrb] at IT
 rw [hn, hkb, hrb, hmb]
 have MB : Hid (mb = (decide (0 <= h.tt) && decide (mn = n - 1) && h.ms.all (fun z => decide (0 <= z)))) := LH (by rw [<- hmb, <- hmn]; rfl)
 have EXP : Hid (vv h (.slice ta h.tx.length tc) (.slice a n cap) (.slice ma mn mc) = #[.int .i64 h.k, .slice ta h.tx.length tc, .bool h.ng, .string (bytes h.dg), .string (bytes h.ex), .slice a n cap, .int .i64 h.fr, .int .i64 h.tt, .slice ma mn mc]) := LH rfl
 rw [hn, hmn] at HW1 x0 KY IT
 rw [hmn]
 rw [hn] at hS
 rw [hmn] at hT
 obtain ⟨TO, hTO⟩ : ∃ x, h.tt = x := ⟨_, rfl⟩
 rw [hTO] at g7 MB
 rw [EXP.out] at HW1 ⊢
 rw [hTO] at HW1 ⊢
 clear hW1 hn hmn ht hmc g0 g1 g2 g3 g4 g6 hC hL RV0 hkb hrb hmb hTO
 by_cases h1 : TO < 0
 ·have hf : mb = false := by rw [MB.out, show decide (0 <= TO) = false by simp; omega]; rfl
  subst hf
  clear MB
  go_enter Tryz.func72, Tryz.ntmps72
  go_upto_region 1 with fail
  rw [HW1.out]
  go_wp2
  go_ret
  exact ⟨rfl, b0.out⟩
 by_cases h2 : mn = n - 1
 case neg =>
  have hf : mb = false := by rw [MB.out, show decide (mn = n - 1) = false by simp [h2]]; simp
  subst hf
  clear MB
  rcases Nat.eq_zero_or_pos n with hn0 | hn0
  ·subst hn0
   have m1 : ((mn : Int) == 0) = false := by simp; omega
   have m2 : ((mn : Int) != 0) = true := by simp; omega
   clear h2
   go_enter Tryz.func72, Tryz.ntmps72
   go_upto_region 1 with fail
   rw [HW1.out]
   go_wp2
   go_ret
   exact ⟨rfl, b0.out⟩
  ·have m0 : ¬ (n : Int) - 1 < 0 := by omega
   have m3 : (0 : Int) <= (n : Int) - 1 := by omega
   have m1 : ((mn : Int) == (n : Int) - 1) = false := by simp; omega
   have m2 : ((mn : Int) != (n : Int) - 1) = true := by simp; omega
   clear h2
   go_enter Tryz.func72, Tryz.ntmps72
   go_upto_region 1 with fail
   rw [HW1.out]
   go_wp2
   go_ret
   exact ⟨rfl, b0.out⟩
 have MQ : Hid (decide (mn = n - 1) = true) := LH (by simp [h2])
 rcases Nat.eq_zero_or_pos n with hn0 | hn0
 ·subst hn0
  have m1 : ((mn : Int) == 0) = true := by simp; omega
  have m2 : ((mn : Int) != 0) = false := by simp; omega
  clear h2
  as_aux_lemma =>
   go_enter Tryz.func72, Tryz.ntmps72
   go_upto_region 1 with fail
   rw [HW1.out]
   go_upto_region 4 with fail
   go_loop [6, 24] (fun _ iv => ∃ j : Nat, iv = .int .i64 (j : Int) /\ j <= mn /\ ∀ i (hi : i < h.ms.length), i < j -> 0 <= h.ms[i]) (fun _ iv => mn - (intOf iv).toNat)
   case atStart => exact ⟨0, rfl, by omega, fun i _ h => by omega⟩
   case round =>
    obtain ⟨j, rfl, hj, hok⟩ := hrel
    have HOK := LH hok
    clear hok
    by_cases hlt : j < mn
    ·obtain ⟨b, off, rfl, hbk, hcc⟩ := HMC.out (by rw [HM.out]; omega)
     have hjl : j < h.ms.length := by rw [HM.out]; exact hlt
     have c0 := (b0.out.cell (p := ⟨b, off + j, none⟩) hbk).trans (hcc j hjl)
     have HB := LH (all_badB h.ms j hjl)
     have HOK2 := LH (fun (hz : 0 <= h.ms[j]) i (hi : i < h.ms.length) (hij : i < j + 1) => (by
      rcases Nat.lt_succ_iff_lt_or_eq.1 hij with h' | rfl
      ·exact HOK.out i hi h'
      ·exact hz : 0 <= h.ms[i]))
     obtain ⟨z, hz⟩ : ∃ z, h.ms[j] = z := ⟨_, rfl⟩
     rw [hz] at c0 HB HOK2
     have j0 : (0 : Int) <= j := by omega
     have j1 : (j : Int) < mn := by omega
     clear hz hcc hjl
     by_cases hz0 : z < 0
     ·have hf : mb = false := by rw [MB.out, HB.out hz0]; simp
      subst hf
      go_wp2
      go_ret
      exact ⟨rfl, b0.out⟩
     ·have H3 := LH (HOK2.out (by omega))
      clear HOK2
      go_wp2
      go_round
      case rel => exact ⟨j + 1, by go_num, by omega, H3.out⟩
      case measure => simp [intOf]; omega
    ·obtain rfl : j = mn := by omega
     have hal : h.ms.all (fun z => decide (0 <= z)) = true := (all_takeB h.ms).2 fun i hi => HOK.out i hi (by have := HM.out; omega)
     have hf : mb = true := by rw [MB.out, hal, show decide (0 <= TO) = true by simp; omega, MQ.out]; rfl
     subst hf
     have K1 := LH (KY.out W1 (hT.out.below b0.out) (hS.out.below b0.out))
     clear hal
     have t1 : ¬ (j : Int) < j := by omega
     cases kb with
     | false =>
      go_wp2_with (first | (refine wpl_ldV rfl _ rfl w.heap.size 0 h _ _ _ rfl x0.out.range ?_) | fail)
      refine (K1.out).mono ?_
      rintro e w2 ⟨rfl, hb2⟩
      have d2 := b0.out.trans (hb2.mono b0.out.size)
      clear hb2
      go_wp2
      go_ret
      exact ⟨rfl, d2⟩
     | true =>
      go_wp2_with (first | (refine wpl_ldV rfl _ rfl w.heap.size 0 h _ _ _ rfl x0.out.range ?_) | fail)
      refine (K1.out).mono ?_
      rintro e w2 ⟨rfl, hb2⟩
      have d2 := b0.out.trans (hb2.mono b0.out.size)
      have x2 := LH (x0.out.keep hb2)
      have I1 := LH (IT.out w2 (hT.out.below d2) (hS.out.below d2))
      clear hb2
      go_wp2_with (first | (refine wpl_ldVg (by rfl) _ rfl w.heap.size 0 h _ _ _ rfl x2.out.range ?_) | fail)
      refine (I1.out).mono ?_
      rintro e w3 ⟨rfl, hb3⟩
      have d3 := d2.trans (hb3.mono d2.size)
      clear hb3
      go_wp2
      go_ret
      exact ⟨rfl, d3⟩
 ·have m0 : ¬ (n : Int) - 1 < 0 := by omega
  have m3 : (0 : Int) <= (n : Int) - 1 := by omega
  have m1 : ((mn : Int) == (n : Int) - 1) = true := by simp; omega
  have m2 : ((mn : Int) != (n : Int) - 1) = false := by simp; omega
  clear h2
  as_aux_lemma =>
   go_enter Tryz.func72, Tryz.ntmps72
   go_upto_region 1 with fail
   rw [HW1.out]
   go_upto_region 4 with fail
   go_loop [6, 24] (fun _ iv => ∃ j : Nat, iv = .int .i64 (j : Int) /\ j <= mn /\ ∀ i (hi : i < h.ms.length), i < j -> 0 <= h.ms[i]) (fun _ iv => mn - (intOf iv).toNat)
   case atStart => exact ⟨0, rfl, by omega, fun i _ h => by omega⟩
   case round =>
    obtain ⟨j, rfl, hj, hok⟩ := hrel
    have HOK := LH hok
    clear hok
    by_cases hlt : j < mn
    ·obtain ⟨b, off, rfl, hbk, hcc⟩ := HMC.out (by rw [HM.out]; omega)
     have hjl : j < h.ms.length := by rw [HM.out]; exact hlt
     have c0 := (b0.out.cell (p := ⟨b, off + j, none⟩) hbk).trans (hcc j hjl)
     have HB := LH (all_badB h.ms j hjl)
     have HOK2 := LH (fun (hz : 0 <= h.ms[j]) i (hi : i < h.ms.length) (hij : i < j + 1) => (by
      rcases Nat.lt_succ_iff_lt_or_eq.1 hij with h' | rfl
      ·exact HOK.out i hi h'
      ·exact hz : 0 <= h.ms[i]))
     obtain ⟨z, hz⟩ : ∃ z, h.ms[j] = z := ⟨_, rfl⟩
     rw [hz] at c0 HB HOK2
     have j0 : (0 : Int) <= j := by omega
     have j1 : (j : Int) < mn := by omega
     clear hz hcc hjl
     by_cases hz0 : z < 0
     ·have hf : mb = false := by rw [MB.out, HB.out hz0]; simp
      subst hf
      go_wp2
      go_ret
      exact ⟨rfl, b0.out⟩
     ·have H3 := LH (HOK2.out (by omega))
      clear HOK2
      go_wp2
      go_round
      case rel => exact ⟨j + 1, by go_num, by omega, H3.out⟩
      case measure => simp [intOf]; omega
    ·obtain rfl : j = mn := by omega
     have hal : h.ms.all (fun z => decide (0 <= z)) = true := (all_takeB h.ms).2 fun i hi => HOK.out i hi (by have := HM.out; omega)
     have hf : mb = true := by rw [MB.out, hal, show decide (0 <= TO) = true by simp; omega, MQ.out]; rfl
     subst hf
     have K1 := LH (KY.out W1 (hT.out.below b0.out) (hS.out.below b0.out))
     clear hal
     have t1 : ¬ (j : Int) < j := by omega
     cases kb with
     | false =>
      go_wp2_with (first | (refine wpl_ldV rfl _ rfl w.heap.size 0 h _ _ _ rfl x0.out.range ?_) | fail)
      refine (K1.out).mono ?_
      rintro e w2 ⟨rfl, hb2⟩
      have d2 := b0.out.trans (hb2.mono b0.out.size)
      clear hb2
      go_wp2
      go_ret
      exact ⟨rfl, d2⟩
     | true =>
      go_wp2_with (first | (refine wpl_ldV rfl _ rfl w.heap.size 0 h _ _ _ rfl x0.out.range ?_) | fail)
      refine (K1.out).mono ?_
      rintro e w2 ⟨rfl, hb2⟩
      have d2 := b0.out.trans (hb2.mono b0.out.size)
      have x2 := LH (x0.out.keep hb2)
      have I1 := LH (IT.out w2 (hT.out.below d2) (hS.out.below d2))
      clear hb2
      go_wp2_with (first | (refine wpl_ldVg (by rfl) _ rfl w.heap.size 0 h _ _ _ rfl x2.out.range ?_) | fail)
      refine (I1.out).mono ?_
      rintro e w3 ⟨rfl, hb3⟩
      have d3 := d2.trans (hb3.mono d2.size)
      clear hb3
      go_wp2
      go_ret
      exact ⟨rfl, d3⟩
end Go.Proofs.YtbfnlgmhfhaglaaGreatDoor
