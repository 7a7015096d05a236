/- Texts of ours in one: SMaps. -/
import Derived.Test.YtlobinjdgcidmaaGreatDoorQs13
import Derived.Test.YtlobinjdgcidmaaGreatDoorQs32
import Derived.Deep.QuietTactic
import Derived.BigQuiet
import Derived.Deep.RegionHeld3
/- smap.Mappings: what is returned, for any segments. -/
namespace Go.Proofs.YtlobinjdgcidmaaGreatDoor
open Go.RowKit
set_option linter.unusedVariables false
set_option linter.unusedSimpArgs false

theorem repeat_nat (k : Nat) (S : ByteArray) (w : World) (hk : k ≤ 8000000) (hS : bytes (List.replicate k 59) = S) :
    Calls Tryz.prog 41 #[.string ⟨#[59]⟩, .int .i64 k] w fun e w' => e = .returned (.string S) ∧ Below w.heap.size w w' := by
  subst hS
  have h := Tryz.strings_Repeat ⟨#[59]⟩ k w (by omega) (by rw [show (ByteArray.mk #[59]).size = 1 from rfl]; omega)
  refine h.mono ?_
  rintro e w' ⟨rfl, hb⟩
  refine ⟨?_, hb⟩
  congr 2
  unfold bytes
  congr 1
  apply Array.toList_inj.1
  simp only
  have e1 : Lib.repeatL [(59 : UInt8)] k = List.replicate k 59 := by
    clear hb h hk
    induction k with
    | zero => rfl
    | succ k ih => simp_all [Lib.repeatL, List.replicate_succ]
  show Lib.repeatL [59] k = _
  exact e1
theorem repeatS_any (n : Int) (S : ByteArray) (w : World) (h0 : 0 ≤ n) (hk : n ≤ 8000000) (hS : bytes (List.replicate n.toNat 59) = S) :
    Calls Tryz.prog 41 #[.string ⟨#[59]⟩, .int .i64 n] w fun e w' => e = .returned (.string S) ∧ Below w.heap.size w w' := by
  have h := repeat_nat n.toNat S w (by omega) hS
  rwa [show ((n.toNat : Nat) : Int) = n by omega] at h
def mres (r : Option (List UInt8)) : Value := .tuple #[.string (bytes (r.getD [])), .bool r.isSome]
def MpP (w : World) (r : Option (List UInt8)) (e : Ending) (w' : World) : Prop := e = .returned (mres r) ∧ Below w.heap.size w w'
def SBlk (w : World) (b : Nat) (x : M.S4) : Prop := w.heap[b]? = some (.cells #[.int .i64 x.1, .int .i64 x.2.1, .int .i64 x.2.2.1, .int .i64 x.2.2.2] 39 (0, 0))
theorem SBlk.cells {w : World} {b : Nat} {x : M.S4} (h : SBlk w b x) : w.cell? ⟨b, 0, none⟩ = some (.int .i64 x.1) ∧ w.cell? ⟨b, 1, none⟩ = some (.int .i64 x.2.1) ∧ w.cell? ⟨b, 2, none⟩ = some (.int .i64 x.2.2.1) ∧ w.cell? ⟨b, 3, none⟩ = some (.int .i64 x.2.2.2) := by
  refine ⟨?_, ?_, ?_, ?_⟩ <;> (rw [Lib.cell_of_heap h]; rfl)
theorem SBlk.free {w : World} {b : Nat} {x : M.S4} (h : SBlk w b x) (j : Nat) : w.frozen? ⟨b, j, none⟩ = false := Lib.frozen_of_heap h j
theorem SBlk.lt {w : World} {b : Nat} {x : M.S4} (h : SBlk w b x) : b < w.heap.size := (Array.getElem?_eq_some_iff.1 h).1
theorem SBlk.keep {w w' : World} {b : Nat} {x : M.S4} (h : SBlk w b x) (hb : Below w.heap.size w w') : SBlk w' b x := by
  unfold SBlk; rw [hb.block b h.lt]; exact h
theorem SBlk.apt {w w' : World} {b c : Nat} {x : M.S4} (h : SBlk w b x) (ha : Apt c w w') (hbc : b ≠ c) : SBlk w' b x := by
  unfold SBlk; rw [ha b _ _ _ h.lt hbc h (by decide)]; exact h
theorem SBlk.new (w : World) (x : M.S4) : SBlk (w.alloc (.cells #[.int .i64 x.1, .int .i64 x.2.1, .int .i64 x.2.2.1, .int .i64 x.2.2.2] 39)) w.heap.size x := heap_alloc_new w _
theorem SBlk.set1 {w : World} {b : Nat} {x : M.S4} (h : SBlk w b x) (z : Int) : SBlk (w.setCell ⟨b, 1, none⟩ (.int .i64 z)) b (x.1, z, x.2.2.1, x.2.2.2) := by
  unfold SBlk
  rw [heap_setCell_same w b 1 _ _ _ h]
  rfl
theorem SBlk.other {w : World} {b : Nat} {x : M.S4} (h : SBlk w b x) (a : Addr) (z : Value) (hne : b ≠ a.block) : SBlk (w.setCell a z) b x := by
  unfold SBlk
  rw [Below.heap_setCell _ _ _ _ (fun e => hne e)]
  exact h
theorem Bd.other {B b : Nat} {l : List UInt8} {w : World} (h : Bd B b l w) (a : Addr) (z : Value) {x : M.S4} (hs : SBlk w a.block x) (hne : b ≠ a.block) : Bd B b l (w.setCell a z) := by
  have : ∀ p, Lib.BuilderAt 87 5 B b p (bcells l) w → Lib.BuilderAt 87 5 B b p (bcells l) (w.setCell a z) := by
    rintro p ⟨hB, v, hbk, hown, h2⟩
    have h3 : v.ownBlock ≠ some a.block := Lib.ownBlock_ne hown hs (by decide)
    exact ⟨hB, v, by rw [Below.heap_setCell _ _ _ _ (fun e => hne e)]; exact hbk, ownsRow_setCell_other hown h3 z, h2⟩
  exact h.elim (fun h => .inl (this _ h)) (fun h => .inr (this _ h))
theorem SBlk.setAll {w : World} {b : Nat} {y : M.S4} (h : SBlk w b y) (x : M.S4) : SBlk ((((w.setCell ⟨b, 0, none⟩ (.int .i64 x.1)).setCell ⟨b, 1, none⟩ (.int .i64 x.2.1)).setCell ⟨b, 2, none⟩ (.int .i64 x.2.2.1)).setCell ⟨b, 3, none⟩ (.int .i64 x.2.2.2)) b x := by
  unfold SBlk at *
  rw [heap_setCell_same _ b 3 _ _ _ (heap_setCell_same _ b 2 _ _ _ (heap_setCell_same _ b 1 _ _ _ (heap_setCell_same _ b 0 _ _ _ h)))]
  rfl
theorem bd_setAll {B b c : Nat} {l : List UInt8} {w : World} {y : M.S4} (h : Bd B b l w) (hs : SBlk w c y) (hne : b ≠ c) (x : M.S4) :
    Bd B b l ((((w.setCell ⟨c, 0, none⟩ (.int .i64 x.1)).setCell ⟨c, 1, none⟩ (.int .i64 x.2.1)).setCell ⟨c, 2, none⟩ (.int .i64 x.2.2.1)).setCell ⟨c, 3, none⟩ (.int .i64 x.2.2.2)) := by
  have s0 : SBlk (w.setCell ⟨c, 0, none⟩ (.int .i64 x.1)) c (x.1, y.2.1, y.2.2.1, y.2.2.2) := by unfold SBlk; rw [heap_setCell_same w c 0 _ _ _ hs]; rfl
  have s1 : SBlk ((w.setCell ⟨c, 0, none⟩ (.int .i64 x.1)).setCell ⟨c, 1, none⟩ (.int .i64 x.2.1)) c (x.1, x.2.1, y.2.2.1, y.2.2.2) := by unfold SBlk; rw [heap_setCell_same _ c 1 _ _ _ s0]; rfl
  have s2 : SBlk (((w.setCell ⟨c, 0, none⟩ (.int .i64 x.1)).setCell ⟨c, 1, none⟩ (.int .i64 x.2.1)).setCell ⟨c, 2, none⟩ (.int .i64 x.2.2.1)) c (x.1, x.2.1, x.2.2.1, y.2.2.2) := by unfold SBlk; rw [heap_setCell_same _ c 2 _ _ _ s1]; rfl
  exact (((h.other ⟨c, 0, none⟩ _ hs hne).other ⟨c, 1, none⟩ _ s0 hne).other ⟨c, 2, none⟩ _ s1 hne).other ⟨c, 3, none⟩ _ s2 hne
set_option maxRecDepth 100000 in
set_option maxHeartbeats 8000000 in
theorem smaps_any (v : Value) (L : List M.S4) (r : Option (List UInt8)) (w : World) (hv : SsS w v L) (hL : L.length ≤ 209715) (hr : M.maps L = r) :
    Calls Tryz.prog 25 #[v] w (MpP w r) := by
  have hpa := s4At_of hv
  obtain ⟨a, cap, rfl, h1, h2, -⟩ := id hpa
  have HP := Lib.hid hpa
  obtain ⟨n, hn⟩ : ∃ n, L.length = n := ⟨_, rfl⟩
  have HN := Lib.hid hn
  have HR := Lib.hid hr
  have hbd0 := (bd_fresh w).keep ((Below.refl _ _).alloc (Nat.le_refl _) (.cells #[.int .i64 0, .int .i64 0, .int .i64 0, .int .i64 0] 39))
  have hsb0 := SBlk.new (w.alloc (.cells #[.pointer none, .slice none 0 0] 87)) (0, 0, 0, 0)
  have HBD0 := Lib.hid hbd0
  have HSB0 := Lib.hid hsb0
  rw [hn] at h1 hL ⊢
  clear hpa hv hn hr hbd0 hsb0
  go_enter Tryz.func25, Tryz.ntmps25
  go_wp2
  go_loopw [10] (fun iv wr => ∃ (i : Nat) (acc : List UInt8), iv = .int .i64 (i : Int) ∧ i ≤ n ∧ M.At L i acc ∧ ((acc.length : Int) ≤ (M.lastOf L i).1 + 37 * i) ∧ (i = 0 ∨ M.okS (M.lastOf L i) = true) ∧ Bd w.heap.size w.heap.size acc wr ∧ SBlk wr (w.heap.size + 1) (M.lastOf L i) ∧ Below w.heap.size w wr) (fun iv _ => n - (intOf iv).toNat)
  case atStart => exact ⟨0, [], rfl, by omega, M.at_start L, by simp [M.lastOf], .inl rfl, HBD0.out, by have h := HSB0.out; simpa [M.lastOf] using h, ((Below.refl _ _).alloc (Nat.le_refl _) _).alloc (by simp) _⟩
  case round =>
    obtain ⟨i, acc, rfl, hi, hat, hal, hlo, hbd, hsb, hb⟩ := hrel
    have hbz := hb.size
    have hlast := M.last_ok L i acc hlo
    by_cases hlt : i < n
    · have hil : i < L.length := by rw [HN.out]; exact hlt
      obtain ⟨b, off, rfl, hbk, c0, c1, c2, c3⟩ := s4At_get (by have h := HP.out; rw [HN.out] at h; exact s4At_keep h hb (Nat.le_refl _)) i hil
      have hbad := M.at_bad L i acc hat hil
      have hstep := M.at_step L i acc hat hil
      have hls := M.lastOf_succ L i hil
      have hprev : 0 < i → ∃ y, M.lastOf L i = y ∧ wr.cell? ⟨b, off + (i - 1) * 4, none⟩ = some (.int .i64 y.1) ∧ wr.cell? ⟨b, off + (i - 1) * 4 + 1, none⟩ = some (.int .i64 y.2.1) ∧ wr.cell? ⟨b, off + (i - 1) * 4 + 2, none⟩ = some (.int .i64 y.2.2.1) ∧ wr.cell? ⟨b, off + (i - 1) * 4 + 3, none⟩ = some (.int .i64 y.2.2.2) := by
        intro h0
        obtain ⟨b', off', hb', -, d0, d1, d2, d3⟩ := s4At_get (by have h := HP.out; rw [HN.out] at h; exact s4At_keep h hb (Nat.le_refl _)) (i - 1) (by omega)
        simp only [Option.some.injEq, Addr.mk.injEq, and_true] at hb'
        obtain ⟨rfl, rfl⟩ := hb'
        refine ⟨L[i - 1]'(by omega), ?_, d0, d1, d2, d3⟩
        unfold M.lastOf
        rw [if_neg (by omega)]
        simp [show i - 1 < L.length by omega]
      obtain ⟨x, hx⟩ : ∃ x, L[i] = x := ⟨_, rfl⟩
      rw [hx] at hbad hstep hls c0 c1 c2 c3
      obtain ⟨y, hy⟩ : ∃ y, M.lastOf L i = y := ⟨_, rfl⟩
      rw [hy] at hbad hstep hprev hlast hal hlo hsb
      have HY := Lib.hid hy
      obtain ⟨W1, hW1⟩ : ∃ W, wr.alloc (.cells #[.int .i64 x.1, .int .i64 x.2.1, .int .i64 x.2.2.1, .int .i64 x.2.2.2] 39) = W := ⟨_, rfl⟩
      have hbox : SBlk W1 wr.heap.size x := by rw [← hW1]; exact SBlk.new wr x
      have hw1 : Below wr.heap.size wr W1 := by rw [← hW1]; exact (Below.refl _ _).alloc (Nat.le_refl _) _
      have i1 : (i : Int) < n := by omega
      have i0 : (0 : Int) ≤ i := by omega
      have HAT := Lib.hid hstep
      have HBAD := Lib.hid hbad
      have HPREV := Lib.hid hprev
      have HLS := Lib.hid hls
      have HBX := Lib.hid hbox
      have HW1 := Lib.hid hw1
      have HBD := Lib.hid hbd
      have HSB := Lib.hid hsb
      have HE := Lib.hid hW1
      have HLO := Lib.hid hlo
      obtain ⟨e0, e1, e2, e3⟩ := hbox.cells
      clear hat hbad hstep hprev hls hx hy hbox hw1 hbd hsb hW1 hlo
      by_cases hokx : M.okS x = true
      · have IR := Lib.hid (fun W => sinrange_any x true W hokx)
        unfold s4a at IR
        have hp := (M.okS_iff x).1 hokx
        have HOKX := Lib.hid hokx
        clear hokx
        by_cases hi0 : i = 0
        · have hd0 : decide (i = 0) = true := by simpa using hi0
          have hy0 : y = (0, 0, 0, 0) := by rw [← HY.out, hi0]; rfl
          have hat2 := HAT.out (by rw [hd0]; simp [M.goodS, HOKX.out])
          rw [hd0] at hat2
          have HAT := Lib.hid hat2
          have t1 : decide ((0 : Int) < i) = false := by simp; omega
          have t1n : ¬ 0 < i := by omega
          have yz : y.1 = 0 ∧ y.2.1 = 0 ∧ y.2.2.1 = 0 ∧ y.2.2.2 = 0 := by rw [hy0]; simp
          obtain ⟨yz1, yz2, yz3, yz4⟩ := yz
          have hyx : y.1 ≤ x.1 := by omega
          have hyz : y.1 ≤ 0 := by omega
          clear hat2 hy0 hi0 hd0 yz1 yz2 yz3 yz4
          by_cases hg : y.1 < x.1
          · as_aux_lemma =>
              go_wp2
              rw [HE.out]
              refine wp_region_noPanic ?_
              refine wp_region_held_drew (S := fun V : World => V.cell? ⟨wr.heap.size, 0, none⟩ = some (.int .i64 x.1) ∧ V.cell? ⟨wr.heap.size, 1, none⟩ = some (.int .i64 x.2.1) ∧ V.cell? ⟨wr.heap.size, 2, none⟩ = some (.int .i64 x.2.2.1) ∧ V.cell? ⟨wr.heap.size, 3, none⟩ = some (.int .i64 x.2.2.2)) (by kernel_rfl) ⟨e0, e1, e2, e3⟩ (fun hS => ?_)
              refine rtk 0 ?_
              refine wpAnyH_ready (rs := [1]) (by kernel_rfl) (by simp) ?_
              refine AllReadyH.cons rfl (fun K hK => ?_) AllReadyH.nil
              go_simp
              refine (IR.out _).mono ?_
              rintro e w5 ⟨rfl, hb5⟩
              refine hK.out _ _ ((SBlk.keep (w := W1.drew) HBX.out hb5).cells) (fun hS => ?_)
              clear hK K
              refine rtk 2 ?_
              refine rtk 3 ?_
              refine rtk 4 ?_
              refine rtk 5 ?_
              refine rtk 6 ?_
              refine rts 7 ?_
              refine rts 8 ?_
              refine rts 9 ?_
              refine rts 10 ?_
              refine rts 11 ?_
              refine rts 12 ?_
              refine rts 13 ?_
              refine rts 14 ?_
              refine rtk 15 ?_
              refine rtk 16 ?_
              refine wpAnyH_done (by kernel_rfl) ?_ _
              refine NoPanic.normal ?_
              have hx5 : Below wr.heap.size wr w5 := HW1.out.drew.trans (hb5.mono HW1.out.size)
              have box5 : SBlk w5 wr.heap.size x := SBlk.keep (w := W1.drew) HBX.out hb5
              have lb5 : SBlk w5 (w.heap.size + 1) y := HSB.out.keep hx5
              have bd5 : Bd w.heap.size w.heap.size acc w5 := HBD.out.keep hx5
              have b5 : Below w.heap.size w w5 := hb.trans (hx5.mono hbz)
              obtain ⟨W5, hW5⟩ : ∃ W, w5 = W := ⟨_, rfl⟩
              rw [hW5] at hx5 box5 lb5 bd5 b5 ⊢
              obtain ⟨f0, f1, f2, f3⟩ := box5.cells
              obtain ⟨g0, g1, g2, g3⟩ := lb5.cells
              have BOX5 := Lib.hid box5
              have LB5 := Lib.hid lb5
              have BD5 := Lib.hid bd5
              have B5 := Lib.hid b5
              have s5 : w.heap.size + 1 < W5.heap.size := lb5.lt
              have s6 : wr.heap.size < W5.heap.size := box5.lt
              have s7 : w.heap.size + 1 < wr.heap.size := HSB.out.lt
              clear hx5 box5 lb5 bd5 b5 hb hW5 hS
              have RP := Lib.hid (fun W => repeatS_any (x.1 - y.1) _ W (by omega) (by omega) rfl)
              obtain ⟨RS, hRS⟩ : ∃ S, bytes (List.replicate (x.1 - y.1).toNat 59) = S := ⟨_, rfl⟩
              rw [hRS] at RP
              have hsep : M.sepS true y x = List.replicate (x.1 - y.1).toNat 59 := by unfold M.sepS; rw [if_neg (fun h => by omega)]
              have hcol : M.colOf y x = 0 := by unfold M.colOf; rw [if_neg (by omega)]
              have hrl : ((List.replicate (x.1 - y.1).toNat (59 : UInt8)).length : Int) ≤ 100000 := by rw [List.length_replicate]; omega
              obtain ⟨sp, hsp⟩ : ∃ q, List.replicate (x.1 - y.1).toNat (59 : UInt8) = q := ⟨_, rfl⟩
              rw [hsp] at hsep hRS hrl
              have HRS := Lib.hid hRS
              have HSEP := Lib.hid hsep
              have HCOL := Lib.hid hcol
              clear hsep hcol hRS hsp
              go_wp2_with fail
              refine (RP.out _).mono ?_
              rintro e w6 ⟨rfl, hb6⟩
              have b6 := B5.out.trans (hb6.mono B5.out.size)
              have bd6 := BD5.out.keep hb6
              have lb6 := LB5.out.keep hb6
              have box6 := BOX5.out.keep hb6
              have s66 := b6.size
              have BOX6 := Lib.hid box6
              have LB6 := Lib.hid lb6
              have BD6 := Lib.hid bd6
              have B6 := Lib.hid b6
              clear hb6 f0 f1 f2 f3 g0 g1 g2 g3 b6 bd6 lb6 box6
              go_wp2_with fail
              refine (bwriteF_any _ _ acc sp (acc ++ sp) RS HRS.out w6 BD6.out (by omega) s66 rfl).mono ?_
              rintro e w7 ⟨rfl, bd7, hb7, ap7⟩
              have b7 := B6.out.trans hb7
              have lb7 := LB6.out.apt ap7 (by omega)
              have box7 := BOX6.out.apt ap7 (by omega)
              obtain ⟨g0, g1, g2, g3⟩ := lb7.cells
              have gz := lb7.free 1
              have lb8 := lb7.set1 0
              have bd8 := bd7.other ⟨w.heap.size + 1, 1, none⟩ (.int .i64 0) lb7 (by show w.heap.size ≠ w.heap.size + 1; omega)
              have box8 := box7.other ⟨w.heap.size + 1, 1, none⟩ (.int .i64 0) (by show wr.heap.size ≠ w.heap.size + 1; omega)
              have b8 := b7.setCell (p := ⟨w.heap.size + 1, 1, none⟩) (by show w.heap.size ≤ w.heap.size + 1; omega) (.int .i64 0)
              obtain ⟨h0, h1, h2, h3⟩ := lb8.cells
              obtain ⟨f0, f1, f2, f3⟩ := box8.cells
              have BOX8 := Lib.hid box8
              have LB8 := Lib.hid lb8
              have BD8 := Lib.hid bd8
              have B8 := Lib.hid b8
              clear hb7 ap7 b7 lb7 box7 bd7 lb8 box8 bd8 b8
              dsimp only at h0 h1 h2 h3
              obtain ⟨T, hT⟩ : ∃ T, bytes (M.four (x.2.1 - M.colOf y x) (x.2.2.1 - y.2.2.1) (x.2.2.2 - y.2.2.2)) = T := ⟨_, rfl⟩
              have SG := Lib.hid (fun W => segment_any x (y.1, 0, y.2.2.1, y.2.2.2) T W HOKX.out (by first | omega | (dsimp only; omega)) (by rw [← hT, HCOL.out]))
              have hfl := M.four_len (x.2.1 - M.colOf y x) (x.2.2.1 - y.2.2.1) (x.2.2.2 - y.2.2.2)
              have hch : M.chunk true y x = sp ++ M.four (x.2.1 - M.colOf y x) (x.2.2.1 - y.2.2.1) (x.2.2.2 - y.2.2.2) := by unfold M.chunk; rw [HSEP.out]
              have hcl := M.chunk_len true y x (by omega)
              rw [hch] at hcl
              obtain ⟨fq, hfq⟩ : ∃ q, M.four (x.2.1 - M.colOf y x) (x.2.2.1 - y.2.2.1) (x.2.2.2 - y.2.2.2) = q := ⟨_, rfl⟩
              rw [hfq] at hT hfl hch hcl
              have hat2 := HAT.out
              rw [hch] at hat2
              have hlen2 : ((acc ++ sp).length : Int) + fq.length ≤ x.1 + 37 * (i + 1 : Nat) := by
                rw [List.length_append] at hcl ⊢
                omega
              have hlen3 : (acc ++ sp).length + fq.length ≤ 4294967296 := by omega
              have HT := Lib.hid hT
              have HLEN := Lib.hid hlen2
              have HAT2 := Lib.hid hat2
              unfold s4a at SG
              try dsimp only at SG
              clear hT hfl hch hcl hfq hat2 hlen2
              go_wp2_with fail
              refine (SG.out _).mono ?_
              rintro e w9 ⟨rfl, hb9⟩
              have b9 := B8.out.trans (hb9.mono B8.out.size)
              have bd9 := BD8.out.keep hb9
              have lb9 := LB8.out.keep hb9
              have box9 := BOX8.out.keep hb9
              have s9 := b9.size
              have BOX9 := Lib.hid box9
              have LB9 := Lib.hid lb9
              have BD9 := Lib.hid bd9
              have B9 := Lib.hid b9
              clear hb9 b9 bd9 lb9 box9 f0 f1 f2 f3 h0 h1 h2 h3
              go_wp2_with fail
              refine (bwriteF_any _ _ (acc ++ sp) fq (acc ++ sp ++ fq) T HT.out w9 BD9.out hlen3 s9 rfl).mono ?_
              rintro e w10 ⟨rfl, bd10, hb10, ap10⟩
              have b10 := B9.out.trans hb10
              have lb10 := LB9.out.apt ap10 (by omega)
              have box10 := BOX9.out.apt ap10 (by omega)
              obtain ⟨k0, k1, k2, k3⟩ := lb10.cells
              have z0 := lb10.free 0
              have z1 := lb10.free 1
              have z2 := lb10.free 2
              have z3 := lb10.free 3
              obtain ⟨l0, l1, l2, l3⟩ := box10.cells
              have lb11 := lb10.setAll x
              have bd11 := bd_setAll bd10 lb10 (by omega) x
              have b11 := (((b10.setCell (p := ⟨w.heap.size + 1, 0, none⟩) (by simp) (.int .i64 x.1)).setCell (p := ⟨w.heap.size + 1, 1, none⟩) (by simp) (.int .i64 x.2.1)).setCell (p := ⟨w.heap.size + 1, 2, none⟩) (by simp) (.int .i64 x.2.2.1)).setCell (p := ⟨w.heap.size + 1, 3, none⟩) (by simp) (.int .i64 x.2.2.2)
              have LB11 := Lib.hid lb11
              have BD11 := Lib.hid bd11
              have B11 := Lib.hid b11
              clear hb10 ap10 b10 lb10 box10 bd10 lb11 bd11 b11
              go_wp2
              go_roundw
              case rel => exact ⟨i + 1, acc ++ sp ++ fq, by go_num, by omega, by have h := HAT2.out; rwa [← List.append_assoc] at h, by rw [HLS.out, List.length_append]; have h := HLEN.out; omega, .inr (by rw [HLS.out]; exact HOKX.out), BD11.out, by rw [HLS.out]; exact LB11.out, B11.out⟩
              case measure => simp [intOf]; omega
          · have hle : x.1 = y.1 := by omega
            have hn : ¬ y.1 < x.1 := hg
            have HLE := Lib.hid hle
            clear hg hle
            as_aux_lemma =>
              go_wp2
              rw [HE.out]
              refine wp_region_noPanic ?_
              refine wp_region_held_drew (S := fun V : World => V.cell? ⟨wr.heap.size, 0, none⟩ = some (.int .i64 x.1) ∧ V.cell? ⟨wr.heap.size, 1, none⟩ = some (.int .i64 x.2.1) ∧ V.cell? ⟨wr.heap.size, 2, none⟩ = some (.int .i64 x.2.2.1) ∧ V.cell? ⟨wr.heap.size, 3, none⟩ = some (.int .i64 x.2.2.2)) (by kernel_rfl) ⟨e0, e1, e2, e3⟩ (fun hS => ?_)
              refine rtk 0 ?_
              refine wpAnyH_ready (rs := [1]) (by kernel_rfl) (by simp) ?_
              refine AllReadyH.cons rfl (fun K hK => ?_) AllReadyH.nil
              go_simp
              refine (IR.out _).mono ?_
              rintro e w5 ⟨rfl, hb5⟩
              refine hK.out _ _ ((SBlk.keep (w := W1.drew) HBX.out hb5).cells) (fun hS => ?_)
              clear hK K
              refine rtk 2 ?_
              refine rtk 3 ?_
              refine rtk 4 ?_
              refine rtk 5 ?_
              refine rtk 6 ?_
              refine rts 7 ?_
              refine rts 8 ?_
              refine rts 9 ?_
              refine rts 10 ?_
              refine rts 11 ?_
              refine rts 12 ?_
              refine rts 13 ?_
              refine rts 14 ?_
              refine rtk 15 ?_
              refine rtk 16 ?_
              refine wpAnyH_done (by kernel_rfl) ?_ _
              refine NoPanic.normal ?_
              have hx5 : Below wr.heap.size wr w5 := HW1.out.drew.trans (hb5.mono HW1.out.size)
              have box5 : SBlk w5 wr.heap.size x := SBlk.keep (w := W1.drew) HBX.out hb5
              have lb5 : SBlk w5 (w.heap.size + 1) y := HSB.out.keep hx5
              have bd5 : Bd w.heap.size w.heap.size acc w5 := HBD.out.keep hx5
              have b5 : Below w.heap.size w w5 := hb.trans (hx5.mono hbz)
              obtain ⟨W5, hW5⟩ : ∃ W, w5 = W := ⟨_, rfl⟩
              rw [hW5] at hx5 box5 lb5 bd5 b5 ⊢
              obtain ⟨f0, f1, f2, f3⟩ := box5.cells
              obtain ⟨g0, g1, g2, g3⟩ := lb5.cells
              have BOX5 := Lib.hid box5
              have LB5 := Lib.hid lb5
              have BD5 := Lib.hid bd5
              have B5 := Lib.hid b5
              have s5 : w.heap.size + 1 < W5.heap.size := lb5.lt
              have s6 : wr.heap.size < W5.heap.size := box5.lt
              have s7 : w.heap.size + 1 < wr.heap.size := HSB.out.lt
              clear hx5 box5 lb5 bd5 b5 hb hW5 hS
              have hsep : M.sepS true y x = [] := by unfold M.sepS; rw [if_neg (fun h => by simp at h)]; rw [show (x.1 - y.1).toNat = 0 by have := HLE.out; omega]; rfl
              have hcol : M.colOf y x = y.2.1 := by unfold M.colOf; rw [if_pos HLE.out]
              obtain ⟨sp, hsp⟩ : ∃ q : List UInt8, [] = q := ⟨_, rfl⟩
              have hrl : (sp.length : Int) ≤ 100000 := by rw [← hsp]; simp
              have hacc : acc ++ sp = acc := by rw [← hsp, List.append_nil]
              have bd8 := BD5.out
              rw [← hacc] at bd8
              rw [hsp] at hsep
              have HSEP := Lib.hid hsep
              have HCOL := Lib.hid hcol
              have BOX8 := BOX5
              have LB8 := LB5
              have BD8 := Lib.hid bd8
              have B8 := B5
              clear hsep hcol hsp hacc bd8
              obtain ⟨T, hT⟩ : ∃ T, bytes (M.four (x.2.1 - M.colOf y x) (x.2.2.1 - y.2.2.1) (x.2.2.2 - y.2.2.2)) = T := ⟨_, rfl⟩
              have SG := Lib.hid (fun W => segment_any x y T W HOKX.out (by first | omega | (dsimp only; omega)) (by rw [← hT, HCOL.out]))
              have hfl := M.four_len (x.2.1 - M.colOf y x) (x.2.2.1 - y.2.2.1) (x.2.2.2 - y.2.2.2)
              have hch : M.chunk true y x = sp ++ M.four (x.2.1 - M.colOf y x) (x.2.2.1 - y.2.2.1) (x.2.2.2 - y.2.2.2) := by unfold M.chunk; rw [HSEP.out]
              have hcl := M.chunk_len true y x (by omega)
              rw [hch] at hcl
              obtain ⟨fq, hfq⟩ : ∃ q, M.four (x.2.1 - M.colOf y x) (x.2.2.1 - y.2.2.1) (x.2.2.2 - y.2.2.2) = q := ⟨_, rfl⟩
              rw [hfq] at hT hfl hch hcl
              have hat2 := HAT.out
              rw [hch] at hat2
              have hlen2 : ((acc ++ sp).length : Int) + fq.length ≤ x.1 + 37 * (i + 1 : Nat) := by
                rw [List.length_append] at hcl ⊢
                omega
              have hlen3 : (acc ++ sp).length + fq.length ≤ 4294967296 := by omega
              have HT := Lib.hid hT
              have HLEN := Lib.hid hlen2
              have HAT2 := Lib.hid hat2
              unfold s4a at SG
              try dsimp only at SG
              clear hT hfl hch hcl hfq hat2 hlen2
              go_wp2_with fail
              refine (SG.out _).mono ?_
              rintro e w9 ⟨rfl, hb9⟩
              have b9 := B8.out.trans (hb9.mono B8.out.size)
              have bd9 := BD8.out.keep hb9
              have lb9 := LB8.out.keep hb9
              have box9 := BOX8.out.keep hb9
              have s9 := b9.size
              have BOX9 := Lib.hid box9
              have LB9 := Lib.hid lb9
              have BD9 := Lib.hid bd9
              have B9 := Lib.hid b9
              clear hb9 b9 bd9 lb9 box9 f0 f1 f2 f3 g0 g1 g2 g3
              go_wp2_with fail
              refine (bwriteF_any _ _ (acc ++ sp) fq (acc ++ sp ++ fq) T HT.out w9 BD9.out hlen3 s9 rfl).mono ?_
              rintro e w10 ⟨rfl, bd10, hb10, ap10⟩
              have b10 := B9.out.trans hb10
              have lb10 := LB9.out.apt ap10 (by omega)
              have box10 := BOX9.out.apt ap10 (by omega)
              obtain ⟨k0, k1, k2, k3⟩ := lb10.cells
              have z0 := lb10.free 0
              have z1 := lb10.free 1
              have z2 := lb10.free 2
              have z3 := lb10.free 3
              obtain ⟨l0, l1, l2, l3⟩ := box10.cells
              have lb11 := lb10.setAll x
              have bd11 := bd_setAll bd10 lb10 (by omega) x
              have b11 := (((b10.setCell (p := ⟨w.heap.size + 1, 0, none⟩) (by simp) (.int .i64 x.1)).setCell (p := ⟨w.heap.size + 1, 1, none⟩) (by simp) (.int .i64 x.2.1)).setCell (p := ⟨w.heap.size + 1, 2, none⟩) (by simp) (.int .i64 x.2.2.1)).setCell (p := ⟨w.heap.size + 1, 3, none⟩) (by simp) (.int .i64 x.2.2.2)
              have LB11 := Lib.hid lb11
              have BD11 := Lib.hid bd11
              have B11 := Lib.hid b11
              clear hb10 ap10 b10 lb10 box10 bd10 lb11 bd11 b11
              go_wp2
              go_roundw
              case rel => exact ⟨i + 1, acc ++ sp ++ fq, by go_num, by omega, by have h := HAT2.out; rwa [← List.append_assoc] at h, by rw [HLS.out, List.length_append]; have h := HLEN.out; omega, .inr (by rw [HLS.out]; exact HOKX.out), BD11.out, by rw [HLS.out]; exact LB11.out, B11.out⟩
              case measure => simp [intOf]; omega
        · obtain ⟨d, rfl⟩ : ∃ d, i = d + 1 := ⟨i - 1, by omega⟩
          have hd0 : decide (d + 1 = 0) = false := by simp
          obtain ⟨y', hy', d0, d1, d2, d3⟩ := HPREV.out (by omega)
          subst hy'
          simp only [Nat.add_sub_cancel] at d0 d1 d2 d3
          have hlastk := HLO.out.resolve_left (by omega)
          have t1 : decide ((0 : Int) < (d + 1 : Nat)) = true := by simp <;> omega
          have t1n : 0 < d + 1 := by omega
          have j2 : (0 : Int) ≤ ((d + 1 : Nat) : Int) - 1 := by omega
          have j5 : IntKind.i64.wrap (d : Int) = (d : Int) := by rw [IntKind.wrap_i64]; omega
          have j6 : (d : Int) < n := by omega
          have j7 : (0 : Int) ≤ d := by omega
          by_cases hbf : M.befS y x = true
          · have BF := Lib.hid (fun W => sbefore_any y x true W hbf)
            unfold s4a at BF
            have hb2 := (M.befS_iff y x).1 hbf
            have hat2 := HAT.out (by rw [hd0]; simp [M.goodS, HOKX.out, hbf])
            rw [hd0] at hat2
            have HAT := Lib.hid hat2
            have hyx : y.1 ≤ x.1 := by omega
            have hb3 : x.1 = y.1 → y.2.1 < x.2.1 := by omega
            clear hat2 hd0 hbf hb2
            by_cases hg : y.1 < x.1
            · clear hb3
              as_aux_lemma =>
              have QL1 : wr.heap.size < W1.heap.size := HBX.out.lt
              have QM1 : b < W1.heap.size := by omega
              go_wp2
              rw [HE.out]
              refine wp_region_noPanic ?_
              refine wp_region_held_drew (S := fun V : World => V.cell? ⟨wr.heap.size, 0, none⟩ = some (.int .i64 x.1) ∧ V.cell? ⟨wr.heap.size, 1, none⟩ = some (.int .i64 x.2.1) ∧ V.cell? ⟨wr.heap.size, 2, none⟩ = some (.int .i64 x.2.2.1) ∧ V.cell? ⟨wr.heap.size, 3, none⟩ = some (.int .i64 x.2.2.2) ∧ V.cell? ⟨b, off + d * 4, none⟩ = some (.int .i64 y.1) ∧ V.cell? ⟨b, off + d * 4 + 1, none⟩ = some (.int .i64 y.2.1) ∧ V.cell? ⟨b, off + d * 4 + 2, none⟩ = some (.int .i64 y.2.2.1) ∧ V.cell? ⟨b, off + d * 4 + 3, none⟩ = some (.int .i64 y.2.2.2)) (by kernel_rfl) ⟨e0, e1, e2, e3, (HW1.out.cell (p := ⟨b, off + d * 4, none⟩) (by show b < _; omega)).trans d0, (HW1.out.cell (p := ⟨b, off + d * 4 + 1, none⟩) (by show b < _; omega)).trans d1, (HW1.out.cell (p := ⟨b, off + d * 4 + 2, none⟩) (by show b < _; omega)).trans d2, (HW1.out.cell (p := ⟨b, off + d * 4 + 3, none⟩) (by show b < _; omega)).trans d3⟩ (fun hS => ?_)
              refine rtk 0 ?_
              refine wpAnyH_ready (rs := [1]) (by kernel_rfl) (by simp) ?_
              refine AllReadyH.cons rfl (fun K hK => ?_) AllReadyH.nil
              go_simp
              refine (IR.out _).mono ?_
              rintro e w5 ⟨rfl, hb5⟩
              refine hK.out _ _ ((by obtain ⟨q0, q1, q2, q3, q4, q5, q6, q7⟩ := hS; exact ⟨(hb5.cell (p := ⟨wr.heap.size, 0, none⟩) QL1).trans q0, (hb5.cell (p := ⟨wr.heap.size, 1, none⟩) QL1).trans q1, (hb5.cell (p := ⟨wr.heap.size, 2, none⟩) QL1).trans q2, (hb5.cell (p := ⟨wr.heap.size, 3, none⟩) QL1).trans q3, (hb5.cell (p := ⟨b, off + d * 4, none⟩) QM1).trans q4, (hb5.cell (p := ⟨b, off + d * 4 + 1, none⟩) QM1).trans q5, (hb5.cell (p := ⟨b, off + d * 4 + 2, none⟩) QM1).trans q6, (hb5.cell (p := ⟨b, off + d * 4 + 3, none⟩) QM1).trans q7⟩)) (fun hS => ?_)
              clear hK K
              have hs55 := hb5.size
              have QL5 : wr.heap.size < w5.heap.size := Nat.lt_of_lt_of_le QL1 hs55
              have QM5 : b < w5.heap.size := Nat.lt_of_lt_of_le QM1 hs55
              refine rtk 2 ?_
              refine rtk 3 ?_
              refine rtk 4 ?_
              refine rtk 5 ?_
              refine rtk 6 ?_
              refine rtk 7 ?_
              refine rtk 8 ?_
              refine rtk 9 ?_
              refine rtk 10 ?_
              refine rtk 11 ?_
              refine rtk 12 ?_
              refine wpAnyH_ready (rs := [13]) (by kernel_rfl) (by simp) ?_
              refine AllReadyH.cons rfl (fun K hK => ?_) AllReadyH.nil
              go_simp
              refine (BF.out _).mono ?_
              rintro e w7 ⟨rfl, hb7⟩
              refine hK.out _ _ ((by obtain ⟨q0, q1, q2, q3, q4, q5, q6, q7⟩ := hS; exact ⟨(hb7.cell (p := ⟨wr.heap.size, 0, none⟩) QL5).trans q0, (hb7.cell (p := ⟨wr.heap.size, 1, none⟩) QL5).trans q1, (hb7.cell (p := ⟨wr.heap.size, 2, none⟩) QL5).trans q2, (hb7.cell (p := ⟨wr.heap.size, 3, none⟩) QL5).trans q3, (hb7.cell (p := ⟨b, off + d * 4, none⟩) QM5).trans q4, (hb7.cell (p := ⟨b, off + d * 4 + 1, none⟩) QM5).trans q5, (hb7.cell (p := ⟨b, off + d * 4 + 2, none⟩) QM5).trans q6, (hb7.cell (p := ⟨b, off + d * 4 + 3, none⟩) QM5).trans q7⟩)) (fun hS => ?_)
              clear hK K
              have hb57 : Below W1.drew.heap.size W1.drew w7 := hb5.trans (hb7.mono hs55)
              refine rtk 14 ?_
              refine rtk 15 ?_
              refine rtk 16 ?_
              refine wpAnyH_done (by kernel_rfl) ?_ _
              refine NoPanic.normal ?_
              have hx5 : Below wr.heap.size wr w7 := HW1.out.drew.trans (hb57.mono HW1.out.size)
              have box5 : SBlk w7 wr.heap.size x := SBlk.keep (w := W1.drew) HBX.out hb57
              have lb5 : SBlk w7 (w.heap.size + 1) y := HSB.out.keep hx5
              have bd5 : Bd w.heap.size w.heap.size acc w7 := HBD.out.keep hx5
              have b5 : Below w.heap.size w w7 := hb.trans (hx5.mono hbz)
              obtain ⟨W5, hW5⟩ : ∃ W, w7 = W := ⟨_, rfl⟩
              rw [hW5] at hx5 box5 lb5 bd5 b5 ⊢
              obtain ⟨f0, f1, f2, f3⟩ := box5.cells
              obtain ⟨g0, g1, g2, g3⟩ := lb5.cells
              have BOX5 := Lib.hid box5
              have LB5 := Lib.hid lb5
              have BD5 := Lib.hid bd5
              have B5 := Lib.hid b5
              have s5 : w.heap.size + 1 < W5.heap.size := lb5.lt
              have s6 : wr.heap.size < W5.heap.size := box5.lt
              have s7 : w.heap.size + 1 < wr.heap.size := HSB.out.lt
              clear hx5 box5 lb5 bd5 b5 hb hW5 hS
              have RP := Lib.hid (fun W => repeatS_any (x.1 - y.1) _ W (by omega) (by omega) rfl)
              obtain ⟨RS, hRS⟩ : ∃ S, bytes (List.replicate (x.1 - y.1).toNat 59) = S := ⟨_, rfl⟩
              rw [hRS] at RP
              have hsep : M.sepS false y x = List.replicate (x.1 - y.1).toNat 59 := by unfold M.sepS; rw [if_neg (fun h => by omega)]
              have hcol : M.colOf y x = 0 := by unfold M.colOf; rw [if_neg (by omega)]
              have hrl : ((List.replicate (x.1 - y.1).toNat (59 : UInt8)).length : Int) ≤ 100000 := by rw [List.length_replicate]; omega
              obtain ⟨sp, hsp⟩ : ∃ q, List.replicate (x.1 - y.1).toNat (59 : UInt8) = q := ⟨_, rfl⟩
              rw [hsp] at hsep hRS hrl
              have HRS := Lib.hid hRS
              have HSEP := Lib.hid hsep
              have HCOL := Lib.hid hcol
              clear hsep hcol hRS hsp
              go_wp2_with fail
              refine (RP.out _).mono ?_
              rintro e w6 ⟨rfl, hb6⟩
              have b6 := B5.out.trans (hb6.mono B5.out.size)
              have bd6 := BD5.out.keep hb6
              have lb6 := LB5.out.keep hb6
              have box6 := BOX5.out.keep hb6
              have s66 := b6.size
              have BOX6 := Lib.hid box6
              have LB6 := Lib.hid lb6
              have BD6 := Lib.hid bd6
              have B6 := Lib.hid b6
              clear hb6 f0 f1 f2 f3 g0 g1 g2 g3 b6 bd6 lb6 box6
              go_wp2_with fail
              refine (bwriteF_any _ _ acc sp (acc ++ sp) RS HRS.out w6 BD6.out (by omega) s66 rfl).mono ?_
              rintro e w7 ⟨rfl, bd7, hb7, ap7⟩
              have b7 := B6.out.trans hb7
              have lb7 := LB6.out.apt ap7 (by omega)
              have box7 := BOX6.out.apt ap7 (by omega)
              obtain ⟨g0, g1, g2, g3⟩ := lb7.cells
              have gz := lb7.free 1
              have lb8 := lb7.set1 0
              have bd8 := bd7.other ⟨w.heap.size + 1, 1, none⟩ (.int .i64 0) lb7 (by show w.heap.size ≠ w.heap.size + 1; omega)
              have box8 := box7.other ⟨w.heap.size + 1, 1, none⟩ (.int .i64 0) (by show wr.heap.size ≠ w.heap.size + 1; omega)
              have b8 := b7.setCell (p := ⟨w.heap.size + 1, 1, none⟩) (by show w.heap.size ≤ w.heap.size + 1; omega) (.int .i64 0)
              obtain ⟨h0, h1, h2, h3⟩ := lb8.cells
              obtain ⟨f0, f1, f2, f3⟩ := box8.cells
              have BOX8 := Lib.hid box8
              have LB8 := Lib.hid lb8
              have BD8 := Lib.hid bd8
              have B8 := Lib.hid b8
              clear hb7 ap7 b7 lb7 box7 bd7 lb8 box8 bd8 b8
              dsimp only at h0 h1 h2 h3
              obtain ⟨T, hT⟩ : ∃ T, bytes (M.four (x.2.1 - M.colOf y x) (x.2.2.1 - y.2.2.1) (x.2.2.2 - y.2.2.2)) = T := ⟨_, rfl⟩
              have SG := Lib.hid (fun W => segment_any x (y.1, 0, y.2.2.1, y.2.2.2) T W HOKX.out (by first | omega | (dsimp only; omega)) (by rw [← hT, HCOL.out]))
              have hfl := M.four_len (x.2.1 - M.colOf y x) (x.2.2.1 - y.2.2.1) (x.2.2.2 - y.2.2.2)
              have hch : M.chunk false y x = sp ++ M.four (x.2.1 - M.colOf y x) (x.2.2.1 - y.2.2.1) (x.2.2.2 - y.2.2.2) := by unfold M.chunk; rw [HSEP.out]
              have hcl := M.chunk_len false y x (by omega)
              rw [hch] at hcl
              obtain ⟨fq, hfq⟩ : ∃ q, M.four (x.2.1 - M.colOf y x) (x.2.2.1 - y.2.2.1) (x.2.2.2 - y.2.2.2) = q := ⟨_, rfl⟩
              rw [hfq] at hT hfl hch hcl
              have hat2 := HAT.out
              rw [hch] at hat2
              have hlen2 : ((acc ++ sp).length : Int) + fq.length ≤ x.1 + 37 * (d + 1 + 1 : Nat) := by
                rw [List.length_append] at hcl ⊢
                omega
              have hlen3 : (acc ++ sp).length + fq.length ≤ 4294967296 := by omega
              have HT := Lib.hid hT
              have HLEN := Lib.hid hlen2
              have HAT2 := Lib.hid hat2
              unfold s4a at SG
              try dsimp only at SG
              clear hT hfl hch hcl hfq hat2 hlen2
              go_wp2_with fail
              refine (SG.out _).mono ?_
              rintro e w9 ⟨rfl, hb9⟩
              have b9 := B8.out.trans (hb9.mono B8.out.size)
              have bd9 := BD8.out.keep hb9
              have lb9 := LB8.out.keep hb9
              have box9 := BOX8.out.keep hb9
              have s9 := b9.size
              have BOX9 := Lib.hid box9
              have LB9 := Lib.hid lb9
              have BD9 := Lib.hid bd9
              have B9 := Lib.hid b9
              clear hb9 b9 bd9 lb9 box9 f0 f1 f2 f3 h0 h1 h2 h3
              go_wp2_with fail
              refine (bwriteF_any _ _ (acc ++ sp) fq (acc ++ sp ++ fq) T HT.out w9 BD9.out hlen3 s9 rfl).mono ?_
              rintro e w10 ⟨rfl, bd10, hb10, ap10⟩
              have b10 := B9.out.trans hb10
              have lb10 := LB9.out.apt ap10 (by omega)
              have box10 := BOX9.out.apt ap10 (by omega)
              obtain ⟨k0, k1, k2, k3⟩ := lb10.cells
              have z0 := lb10.free 0
              have z1 := lb10.free 1
              have z2 := lb10.free 2
              have z3 := lb10.free 3
              obtain ⟨l0, l1, l2, l3⟩ := box10.cells
              have lb11 := lb10.setAll x
              have bd11 := bd_setAll bd10 lb10 (by omega) x
              have b11 := (((b10.setCell (p := ⟨w.heap.size + 1, 0, none⟩) (by simp) (.int .i64 x.1)).setCell (p := ⟨w.heap.size + 1, 1, none⟩) (by simp) (.int .i64 x.2.1)).setCell (p := ⟨w.heap.size + 1, 2, none⟩) (by simp) (.int .i64 x.2.2.1)).setCell (p := ⟨w.heap.size + 1, 3, none⟩) (by simp) (.int .i64 x.2.2.2)
              have LB11 := Lib.hid lb11
              have BD11 := Lib.hid bd11
              have B11 := Lib.hid b11
              clear hb10 ap10 b10 lb10 box10 bd10 lb11 bd11 b11
              go_wp2
              go_roundw
              case rel => exact ⟨d + 1 + 1, acc ++ sp ++ fq, by go_num, by omega, by have h := HAT2.out; rwa [← List.append_assoc] at h, by rw [HLS.out, List.length_append]; have h := HLEN.out; omega, .inr (by rw [HLS.out]; exact HOKX.out), BD11.out, by rw [HLS.out]; exact LB11.out, B11.out⟩
              case measure => simp [intOf]; omega
            · have hle : x.1 = y.1 := by omega
              have hn : ¬ y.1 < x.1 := hg
              have HLE := Lib.hid hle
              clear hg hle hb3
              as_aux_lemma =>
                have QL1 : wr.heap.size < W1.heap.size := HBX.out.lt
                have QM1 : b < W1.heap.size := by omega
                go_wp2
                rw [HE.out]
                refine wp_region_noPanic ?_
                refine wp_region_held_drew (S := fun V : World => V.cell? ⟨wr.heap.size, 0, none⟩ = some (.int .i64 x.1) ∧ V.cell? ⟨wr.heap.size, 1, none⟩ = some (.int .i64 x.2.1) ∧ V.cell? ⟨wr.heap.size, 2, none⟩ = some (.int .i64 x.2.2.1) ∧ V.cell? ⟨wr.heap.size, 3, none⟩ = some (.int .i64 x.2.2.2) ∧ V.cell? ⟨b, off + d * 4, none⟩ = some (.int .i64 y.1) ∧ V.cell? ⟨b, off + d * 4 + 1, none⟩ = some (.int .i64 y.2.1) ∧ V.cell? ⟨b, off + d * 4 + 2, none⟩ = some (.int .i64 y.2.2.1) ∧ V.cell? ⟨b, off + d * 4 + 3, none⟩ = some (.int .i64 y.2.2.2)) (by kernel_rfl) ⟨e0, e1, e2, e3, (HW1.out.cell (p := ⟨b, off + d * 4, none⟩) (by show b < _; omega)).trans d0, (HW1.out.cell (p := ⟨b, off + d * 4 + 1, none⟩) (by show b < _; omega)).trans d1, (HW1.out.cell (p := ⟨b, off + d * 4 + 2, none⟩) (by show b < _; omega)).trans d2, (HW1.out.cell (p := ⟨b, off + d * 4 + 3, none⟩) (by show b < _; omega)).trans d3⟩ (fun hS => ?_)
                refine rtk 0 ?_
                refine wpAnyH_ready (rs := [1]) (by kernel_rfl) (by simp) ?_
                refine AllReadyH.cons rfl (fun K hK => ?_) AllReadyH.nil
                go_simp
                refine (IR.out _).mono ?_
                rintro e w5 ⟨rfl, hb5⟩
                refine hK.out _ _ ((by obtain ⟨q0, q1, q2, q3, q4, q5, q6, q7⟩ := hS; exact ⟨(hb5.cell (p := ⟨wr.heap.size, 0, none⟩) QL1).trans q0, (hb5.cell (p := ⟨wr.heap.size, 1, none⟩) QL1).trans q1, (hb5.cell (p := ⟨wr.heap.size, 2, none⟩) QL1).trans q2, (hb5.cell (p := ⟨wr.heap.size, 3, none⟩) QL1).trans q3, (hb5.cell (p := ⟨b, off + d * 4, none⟩) QM1).trans q4, (hb5.cell (p := ⟨b, off + d * 4 + 1, none⟩) QM1).trans q5, (hb5.cell (p := ⟨b, off + d * 4 + 2, none⟩) QM1).trans q6, (hb5.cell (p := ⟨b, off + d * 4 + 3, none⟩) QM1).trans q7⟩)) (fun hS => ?_)
                clear hK K
                have hs55 := hb5.size
                have QL5 : wr.heap.size < w5.heap.size := Nat.lt_of_lt_of_le QL1 hs55
                have QM5 : b < w5.heap.size := Nat.lt_of_lt_of_le QM1 hs55
                refine rtk 2 ?_
                refine rtk 3 ?_
                refine rtk 4 ?_
                refine rtk 5 ?_
                refine rtk 6 ?_
                refine rtk 7 ?_
                refine rtk 8 ?_
                refine rtk 9 ?_
                refine rtk 10 ?_
                refine rtk 11 ?_
                refine rtk 12 ?_
                refine wpAnyH_ready (rs := [13]) (by kernel_rfl) (by simp) ?_
                refine AllReadyH.cons rfl (fun K hK => ?_) AllReadyH.nil
                go_simp
                refine (BF.out _).mono ?_
                rintro e w7 ⟨rfl, hb7⟩
                refine hK.out _ _ ((by obtain ⟨q0, q1, q2, q3, q4, q5, q6, q7⟩ := hS; exact ⟨(hb7.cell (p := ⟨wr.heap.size, 0, none⟩) QL5).trans q0, (hb7.cell (p := ⟨wr.heap.size, 1, none⟩) QL5).trans q1, (hb7.cell (p := ⟨wr.heap.size, 2, none⟩) QL5).trans q2, (hb7.cell (p := ⟨wr.heap.size, 3, none⟩) QL5).trans q3, (hb7.cell (p := ⟨b, off + d * 4, none⟩) QM5).trans q4, (hb7.cell (p := ⟨b, off + d * 4 + 1, none⟩) QM5).trans q5, (hb7.cell (p := ⟨b, off + d * 4 + 2, none⟩) QM5).trans q6, (hb7.cell (p := ⟨b, off + d * 4 + 3, none⟩) QM5).trans q7⟩)) (fun hS => ?_)
                clear hK K
                have hb57 : Below W1.drew.heap.size W1.drew w7 := hb5.trans (hb7.mono hs55)
                refine rtk 14 ?_
                refine rtk 15 ?_
                refine rtk 16 ?_
                refine wpAnyH_done (by kernel_rfl) ?_ _
                refine NoPanic.normal ?_
                have hx5 : Below wr.heap.size wr w7 := HW1.out.drew.trans (hb57.mono HW1.out.size)
                have box5 : SBlk w7 wr.heap.size x := SBlk.keep (w := W1.drew) HBX.out hb57
                have lb5 : SBlk w7 (w.heap.size + 1) y := HSB.out.keep hx5
                have bd5 : Bd w.heap.size w.heap.size acc w7 := HBD.out.keep hx5
                have b5 : Below w.heap.size w w7 := hb.trans (hx5.mono hbz)
                obtain ⟨W5, hW5⟩ : ∃ W, w7 = W := ⟨_, rfl⟩
                rw [hW5] at hx5 box5 lb5 bd5 b5 ⊢
                obtain ⟨f0, f1, f2, f3⟩ := box5.cells
                obtain ⟨g0, g1, g2, g3⟩ := lb5.cells
                have BOX5 := Lib.hid box5
                have LB5 := Lib.hid lb5
                have BD5 := Lib.hid bd5
                have B5 := Lib.hid b5
                have s5 : w.heap.size + 1 < W5.heap.size := lb5.lt
                have s6 : wr.heap.size < W5.heap.size := box5.lt
                have s7 : w.heap.size + 1 < wr.heap.size := HSB.out.lt
                clear hx5 box5 lb5 bd5 b5 hb hW5 hS
                have hsep : M.sepS false y x = [44] := by unfold M.sepS; rw [if_pos ⟨rfl, HLE.out⟩]
                have hcol : M.colOf y x = y.2.1 := by unfold M.colOf; rw [if_pos HLE.out]
                obtain ⟨sp, hsp⟩ : ∃ q : List UInt8, [44] = q := ⟨_, rfl⟩
                have hRS : bytes sp = ByteArray.mk #[44] := by rw [← hsp]; rfl
                have hrl : (sp.length : Int) ≤ 100000 := by rw [← hsp]; simp
                rw [hsp] at hsep
                have HRS := Lib.hid hRS
                have HSEP := Lib.hid hsep
                have HCOL := Lib.hid hcol
                have s66 := B5.out.size
                clear hsep hcol hRS hsp
                go_wp2_with fail
                refine (bwriteF_any _ _ acc sp (acc ++ sp) _ HRS.out W5 BD5.out (by omega) s66 rfl).mono ?_
                rintro e w8 ⟨rfl, bd8, hb7, ap7⟩
                have b8 := B5.out.trans hb7
                have lb8 := LB5.out.apt ap7 (by omega)
                have box8 := BOX5.out.apt ap7 (by omega)
                clear f0 f1 f2 f3 g0 g1 g2 g3
                obtain ⟨h0, h1, h2, h3⟩ := lb8.cells
                obtain ⟨f0, f1, f2, f3⟩ := box8.cells
                have BOX8 := Lib.hid box8
                have LB8 := Lib.hid lb8
                have BD8 := Lib.hid bd8
                have B8 := Lib.hid b8
                clear hb7 ap7 lb8 box8 bd8 b8
                obtain ⟨T, hT⟩ : ∃ T, bytes (M.four (x.2.1 - M.colOf y x) (x.2.2.1 - y.2.2.1) (x.2.2.2 - y.2.2.2)) = T := ⟨_, rfl⟩
                have SG := Lib.hid (fun W => segment_any x y T W HOKX.out (by first | omega | (dsimp only; omega)) (by rw [← hT, HCOL.out]))
                have hfl := M.four_len (x.2.1 - M.colOf y x) (x.2.2.1 - y.2.2.1) (x.2.2.2 - y.2.2.2)
                have hch : M.chunk false y x = sp ++ M.four (x.2.1 - M.colOf y x) (x.2.2.1 - y.2.2.1) (x.2.2.2 - y.2.2.2) := by unfold M.chunk; rw [HSEP.out]
                have hcl := M.chunk_len false y x (by omega)
                rw [hch] at hcl
                obtain ⟨fq, hfq⟩ : ∃ q, M.four (x.2.1 - M.colOf y x) (x.2.2.1 - y.2.2.1) (x.2.2.2 - y.2.2.2) = q := ⟨_, rfl⟩
                rw [hfq] at hT hfl hch hcl
                have hat2 := HAT.out
                rw [hch] at hat2
                have hlen2 : ((acc ++ sp).length : Int) + fq.length ≤ x.1 + 37 * (d + 1 + 1 : Nat) := by
                  rw [List.length_append] at hcl ⊢
                  omega
                have hlen3 : (acc ++ sp).length + fq.length ≤ 4294967296 := by omega
                have HT := Lib.hid hT
                have HLEN := Lib.hid hlen2
                have HAT2 := Lib.hid hat2
                unfold s4a at SG
                try dsimp only at SG
                clear hT hfl hch hcl hfq hat2 hlen2
                go_wp2_with fail
                refine (SG.out _).mono ?_
                rintro e w9 ⟨rfl, hb9⟩
                have b9 := B8.out.trans (hb9.mono B8.out.size)
                have bd9 := BD8.out.keep hb9
                have lb9 := LB8.out.keep hb9
                have box9 := BOX8.out.keep hb9
                have s9 := b9.size
                have BOX9 := Lib.hid box9
                have LB9 := Lib.hid lb9
                have BD9 := Lib.hid bd9
                have B9 := Lib.hid b9
                clear hb9 b9 bd9 lb9 box9 f0 f1 f2 f3 h0 h1 h2 h3
                go_wp2_with fail
                refine (bwriteF_any _ _ (acc ++ sp) fq (acc ++ sp ++ fq) T HT.out w9 BD9.out hlen3 s9 rfl).mono ?_
                rintro e w10 ⟨rfl, bd10, hb10, ap10⟩
                have b10 := B9.out.trans hb10
                have lb10 := LB9.out.apt ap10 (by omega)
                have box10 := BOX9.out.apt ap10 (by omega)
                obtain ⟨k0, k1, k2, k3⟩ := lb10.cells
                have z0 := lb10.free 0
                have z1 := lb10.free 1
                have z2 := lb10.free 2
                have z3 := lb10.free 3
                obtain ⟨l0, l1, l2, l3⟩ := box10.cells
                have lb11 := lb10.setAll x
                have bd11 := bd_setAll bd10 lb10 (by omega) x
                have b11 := (((b10.setCell (p := ⟨w.heap.size + 1, 0, none⟩) (by simp) (.int .i64 x.1)).setCell (p := ⟨w.heap.size + 1, 1, none⟩) (by simp) (.int .i64 x.2.1)).setCell (p := ⟨w.heap.size + 1, 2, none⟩) (by simp) (.int .i64 x.2.2.1)).setCell (p := ⟨w.heap.size + 1, 3, none⟩) (by simp) (.int .i64 x.2.2.2)
                have LB11 := Lib.hid lb11
                have BD11 := Lib.hid bd11
                have B11 := Lib.hid b11
                clear hb10 ap10 b10 lb10 box10 bd10 lb11 bd11 b11
                go_wp2
                go_roundw
                case rel => exact ⟨d + 1 + 1, acc ++ sp ++ fq, by go_num, by omega, by have h := HAT2.out; rwa [← List.append_assoc] at h, by rw [HLS.out, List.length_append]; have h := HLEN.out; omega, .inr (by rw [HLS.out]; exact HOKX.out), BD11.out, by rw [HLS.out]; exact LB11.out, B11.out⟩
                case measure => simp [intOf]; omega
          · have hbff : M.befS y x = false := by simpa using hbf
            have BF := Lib.hid (fun W => sbefore_any y x false W hbff)
            unfold s4a at BF
            have hnone := HBAD.out (by rw [hd0]; simp [M.goodS, HOKX.out, hbff])
            rw [HR.out] at hnone
            have HNONE := Lib.hid hnone
            clear hnone hbf hbff hd0
            as_aux_lemma =>
              have QL1 : wr.heap.size < W1.heap.size := HBX.out.lt
              have QM1 : b < W1.heap.size := by omega
              go_wp2
              rw [HE.out]
              refine wp_region_noPanic ?_
              refine wp_region_held_drew (S := fun V : World => V.cell? ⟨wr.heap.size, 0, none⟩ = some (.int .i64 x.1) ∧ V.cell? ⟨wr.heap.size, 1, none⟩ = some (.int .i64 x.2.1) ∧ V.cell? ⟨wr.heap.size, 2, none⟩ = some (.int .i64 x.2.2.1) ∧ V.cell? ⟨wr.heap.size, 3, none⟩ = some (.int .i64 x.2.2.2) ∧ V.cell? ⟨b, off + d * 4, none⟩ = some (.int .i64 y.1) ∧ V.cell? ⟨b, off + d * 4 + 1, none⟩ = some (.int .i64 y.2.1) ∧ V.cell? ⟨b, off + d * 4 + 2, none⟩ = some (.int .i64 y.2.2.1) ∧ V.cell? ⟨b, off + d * 4 + 3, none⟩ = some (.int .i64 y.2.2.2)) (by kernel_rfl) ⟨e0, e1, e2, e3, (HW1.out.cell (p := ⟨b, off + d * 4, none⟩) (by show b < _; omega)).trans d0, (HW1.out.cell (p := ⟨b, off + d * 4 + 1, none⟩) (by show b < _; omega)).trans d1, (HW1.out.cell (p := ⟨b, off + d * 4 + 2, none⟩) (by show b < _; omega)).trans d2, (HW1.out.cell (p := ⟨b, off + d * 4 + 3, none⟩) (by show b < _; omega)).trans d3⟩ (fun hS => ?_)
              refine rtk 0 ?_
              refine wpAnyH_ready (rs := [1]) (by kernel_rfl) (by simp) ?_
              refine AllReadyH.cons rfl (fun K hK => ?_) AllReadyH.nil
              go_simp
              refine (IR.out _).mono ?_
              rintro e w5 ⟨rfl, hb5⟩
              refine hK.out _ _ ((by obtain ⟨q0, q1, q2, q3, q4, q5, q6, q7⟩ := hS; exact ⟨(hb5.cell (p := ⟨wr.heap.size, 0, none⟩) QL1).trans q0, (hb5.cell (p := ⟨wr.heap.size, 1, none⟩) QL1).trans q1, (hb5.cell (p := ⟨wr.heap.size, 2, none⟩) QL1).trans q2, (hb5.cell (p := ⟨wr.heap.size, 3, none⟩) QL1).trans q3, (hb5.cell (p := ⟨b, off + d * 4, none⟩) QM1).trans q4, (hb5.cell (p := ⟨b, off + d * 4 + 1, none⟩) QM1).trans q5, (hb5.cell (p := ⟨b, off + d * 4 + 2, none⟩) QM1).trans q6, (hb5.cell (p := ⟨b, off + d * 4 + 3, none⟩) QM1).trans q7⟩)) (fun hS => ?_)
              clear hK K
              have hs55 := hb5.size
              have QL5 : wr.heap.size < w5.heap.size := Nat.lt_of_lt_of_le QL1 hs55
              have QM5 : b < w5.heap.size := Nat.lt_of_lt_of_le QM1 hs55
              refine rtk 2 ?_
              refine rtk 3 ?_
              refine rtk 4 ?_
              refine rtk 5 ?_
              refine rtk 6 ?_
              refine rtk 7 ?_
              refine rtk 8 ?_
              refine rtk 9 ?_
              refine rtk 10 ?_
              refine rtk 11 ?_
              refine rtk 12 ?_
              refine wpAnyH_ready (rs := [13]) (by kernel_rfl) (by simp) ?_
              refine AllReadyH.cons rfl (fun K hK => ?_) AllReadyH.nil
              go_simp
              refine (BF.out _).mono ?_
              rintro e w7 ⟨rfl, hb7⟩
              refine hK.out _ _ ((by obtain ⟨q0, q1, q2, q3, q4, q5, q6, q7⟩ := hS; exact ⟨(hb7.cell (p := ⟨wr.heap.size, 0, none⟩) QL5).trans q0, (hb7.cell (p := ⟨wr.heap.size, 1, none⟩) QL5).trans q1, (hb7.cell (p := ⟨wr.heap.size, 2, none⟩) QL5).trans q2, (hb7.cell (p := ⟨wr.heap.size, 3, none⟩) QL5).trans q3, (hb7.cell (p := ⟨b, off + d * 4, none⟩) QM5).trans q4, (hb7.cell (p := ⟨b, off + d * 4 + 1, none⟩) QM5).trans q5, (hb7.cell (p := ⟨b, off + d * 4 + 2, none⟩) QM5).trans q6, (hb7.cell (p := ⟨b, off + d * 4 + 3, none⟩) QM5).trans q7⟩)) (fun hS => ?_)
              clear hK K
              have hb57 : Below W1.drew.heap.size W1.drew w7 := hb5.trans (hb7.mono hs55)
              refine rtk 14 ?_
              refine rtk 15 ?_
              refine rtk 16 ?_
              refine wpAnyH_done (by kernel_rfl) ?_ _
              refine NoPanic.normal ?_
              have hfin := hb.trans ((HW1.out.drew.trans (hb57.mono HW1.out.size)).mono hbz)
              try rw [HNONE.out]
              clear hb
              go_wp2
              go_ret2
              exact ⟨by (try rw [HNONE.out]); rfl, hfin⟩
      · have hokf : M.okS x = false := by simpa using hokx
        have IR := Lib.hid (fun W => sinrange_any x false W hokf)
        have hnone := HBAD.out (by simp [M.goodS, hokf])
        rw [HR.out] at hnone
        have HNONE := Lib.hid hnone
        unfold s4a at IR
        clear hokx hnone
        as_aux_lemma =>
          go_wp2
          rw [HE.out]
          refine wp_region_noPanic ?_
          refine wp_region_held_drew (S := fun V : World => V.cell? ⟨wr.heap.size, 0, none⟩ = some (.int .i64 x.1) ∧ V.cell? ⟨wr.heap.size, 1, none⟩ = some (.int .i64 x.2.1) ∧ V.cell? ⟨wr.heap.size, 2, none⟩ = some (.int .i64 x.2.2.1) ∧ V.cell? ⟨wr.heap.size, 3, none⟩ = some (.int .i64 x.2.2.2)) (by kernel_rfl) ⟨e0, e1, e2, e3⟩ (fun hS => ?_)
          refine rtk 0 ?_
          refine wpAnyH_ready (rs := [1]) (by kernel_rfl) (by simp) ?_
          refine AllReadyH.cons rfl (fun K hK => ?_) AllReadyH.nil
          go_simp
          refine (IR.out _).mono ?_
          rintro e w5 ⟨rfl, hb5⟩
          refine hK.out _ _ ((SBlk.keep (w := W1.drew) HBX.out hb5).cells) (fun hS => ?_)
          clear hK K
          refine rtk 2 ?_
          refine rtk 3 ?_
          refine rts 4 ?_
          refine rts 5 ?_
          refine rts 6 ?_
          refine rts 7 ?_
          refine rts 8 ?_
          refine rts 9 ?_
          refine rts 10 ?_
          refine rts 11 ?_
          refine rts 12 ?_
          refine rts 13 ?_
          refine rts 14 ?_
          refine rts 15 ?_
          refine rtk 16 ?_
          refine wpAnyH_done (by kernel_rfl) ?_ _
          refine NoPanic.normal ?_
          have hfin := hb.trans ((HW1.out.drew.trans (hb5.mono HW1.out.size)).mono hbz)
          try rw [HNONE.out]
          clear hb
          go_wp2
          go_ret2
          exact ⟨by (try rw [HNONE.out]); rfl, hfin⟩
    · obtain rfl : i = n := by omega
      have hfin := M.at_end L acc (by have h := hat; rwa [← HN.out] at h)
      rw [HR.out] at hfin
      have HF := Lib.hid hfin
      have HB := Lib.hid hb
      have HBD := Lib.hid hbd
      clear hfin hb hbd hat hlo hsb hlt hal hlast
      rw [HF.out]
      go_wp2_with fail
      refine (bstr_any _ _ _ _ HBD.out hbz).mono ?_
      rintro e w2 ⟨rfl, hb2⟩
      have hfb := HB.out.trans hb2
      clear hb2
      go_wp2
      go_ret2
      exact ⟨by rw [HF.out]; rfl, hfb⟩
end Go.Proofs.YtlobinjdgcidmaaGreatDoor
