import Derived.Test.YtbfnlgmhfhaglaaGreatDoorRows
import Derived.WalkKit
import Derived.Test.YtbfnlgmhfhaglaaGreatDoorQb09
import Derived.Lib.SmallJoins
set_option maxHeartbeats 1000000
set_option maxRecDepth 100000
namespace Go.Proofs.YtbfnlgmhfhaglaaGreatDoor
open Go.RowKit
theorem bulk_one {H : Type} (d : DataW H) : 1 <= Rows.uptoBulk d := by
 cases d with
 | lit l => cases l <;> simp [Rows.uptoBulk]
 | _ => simp [Rows.uptoBulk]
theorem bulk_len {H : Type} (l : List (DataW H)) : l.length <= Rows.uptoBulkAll l := by
 induction l with
 | nil => simp [Rows.uptoBulkAll]
 | cons d r ih => have := bulk_one d; simp only [Rows.uptoBulkAll, List.length_cons]; omega
theorem bulk_mem {H : Type} {d : DataW H} {l : List (DataW H)} (h : d ∈ l) : Rows.uptoBulk d <= Rows.uptoBulkAll l := by
 induction l with
 | nil => exact absurd h (by simp)
 | cons x r ih =>
  simp only [Rows.uptoBulkAll]
  rcases List.mem_cons.1 h with rfl | h
  ·omega
  ·have := ih h; omega
theorem upto_all {H : Type} {ds : List (DataW H)} (hk : Rows.uptoSmall H ds = true) : Rows.uptoBulkAll ds <= 1048576 := of_decide_eq_true hk
end Go.Proofs.YtbfnlgmhfhaglaaGreatDoor
namespace Go.Proofs.YtbfnlgmhfhaglaaGreatDoor
open Go.RowKit Go.ChangeShapes Go.WideShapes
set_option linter.unusedVariables false
set_option linter.unusedSimpArgs false
theorem ints_bulk {H : Type} {enc : TypeId × Value -> H} {W : World} (fuel : Nat) (c : Value) (x : DataW H × List MemPlace)
  (h : DataW.trod enc Tryz.prog W 0 (fun _ => true) true fuel 22 [c] = some x) (l : List Int) (hl : IsP (In W) W c l) : l.length <= Rows.uptoBulk x.1 := by
 obtain ⟨a', cap', hc, -⟩ := hl
 subst hc
 rcases DataW.trod_slice Tryz.underlying22 h with ⟨h0, _⟩ | ⟨a, len, cap, elems, rest, n, hn, h0, hyy, _, hl, hm, hlen, hel, _⟩
 ·simp only [List.cons.injEq, and_true, Value.slice.injEq] at h0
  omega
 ·simp only [List.cons.injEq, and_true, Value.slice.injEq] at h0
  have h3 := bulk_len (elems.map (·.1))
  rw [List.length_map] at h3
  rw [hyy]
  simp only [Rows.uptoBulk]
  omega
theorem voAt_ofB {H : Type} {w : World} {b : Nat} (ds : List (DataW H)) : ∀ off, (∀ j (hj : j < ds.length), ∃ h tv mv v kids, HdS w h tv mv /\ w.rangeAt b (off + j * 9) (vvl h tv v mv) /\ VoS w v kids /\ 1 + h.tx.length + h.ms.length + VoC kids <= Rows.uptoBulk ds[j]) -> ∃ L : Vo, L.len = ds.length /\ VoAt (In w) w L b off /\ VoC L <= Rows.uptoBulkAll ds := by
 induction ds with
 | nil => intro off _; exact ⟨.nil, rfl, trivial, by simp [VoC]⟩
 | cons d ds ih =>
  intro off h
  obtain ⟨hh, tv, mv, v, kids, hd, hr, ⟨a, cap, rfl, h1, h2, h3, h4⟩, hbd⟩ := h 0 (by simp)
  obtain ⟨L, hL, hat, hLb⟩ := ih (off + 9) (fun j hj => by
   have := h (j + 1) (by simpa using hj)
   rw [show off + (j + 1) * 9 = off + 9 + j * 9 by omega] at this
   simpa using this)
  rw [Nat.zero_mul, Nat.add_zero] at hr
  simp only [List.getElem_cons_zero] at hbd
  exact ⟨.cons hh kids L, by simp [Vo.len, hL], ⟨⟨tv, mv, a, cap, hd, hr, h1, h2, h3, h4⟩, hat⟩, by simp only [VoC, Rows.uptoBulkAll]; omega⟩
theorem open_val_b {H : Type} {enc : TypeId × Value -> H} {W : World} : ∀ (fuel : Nat) (cs : List Value) (x : DataW H × List MemPlace),
  DataW.trod enc Tryz.prog W 0 (fun _ => true) true fuel 27 cs = some x -> ∃ h tv v mv L, cs = vvl h tv v mv /\ HdS W h tv mv /\ VoS W v L /\ 1 + h.tx.length + h.ms.length + VoC L <= Rows.uptoBulk x.1 := by
 intro fuel
 induction fuel using Nat.strongRecOn with
 | _ fuel ih =>
  intro cs x h
  have ce : Tryz.prog.cellsOf 27 = 9 := by kernel_rfl
  have cn : Tryz.prog.cellsOf 24 = 3 := by kernel_rfl
  obtain ⟨xs, n', hfu, hxx, hcl, hxl, hfl⟩ := DataW.trod_struct Tryz.underlying27 h
  rw [ce] at hcl
  have hx7 : xs.length = 7 := hxl
  have hf : ∀ (i : Nat) (f : Field), (match Tryz.prog.underlying 27 with | some (.struct fs) => fs[i]? | _ => none) = some f -> ∃ y, xs[i]? = some y /\ DataW.trod enc Tryz.prog W 0 (fun _ => true) true n' f.type ((cs.drop f.offset).take (Tryz.prog.cellsOf f.type)) = some y := by
   intro i f hf
   have h1 := hfl i f (by rw [Tryz.underlying27] at hf; exact hf)
   rw [h1]
   have hj : i < xs.length := by
    rw [Tryz.underlying27] at hf
    have := (Array.getElem?_eq_some_iff.1 hf).1
    omega
   exact ⟨_, List.getElem?_eq_getElem hj, List.getElem?_eq_getElem hj⟩
  have oneX : ∀ (j i : Nat) (T : TypeId) (hj : j < cs.length), Tryz.prog.cellsOf T = 1 -> (∃ y, xs[i]? = some y /\ DataW.trod enc Tryz.prog W 0 (fun _ => true) true n' T ((cs.drop j).take (Tryz.prog.cellsOf T)) = some y) -> ∃ y, xs[i]? = some y /\ DataW.trod enc Tryz.prog W 0 (fun _ => true) true n' T [cs[j]] = some y := by
   intro j i T hj hT ⟨y, hx, hy⟩
   rw [hT, cut1 cs j hj] at hy
   exact ⟨y, hx, hy⟩
  have one : ∀ (n : Nat) (cs : List Value) (j : Nat) (T : TypeId) (hj : j < cs.length), Tryz.prog.cellsOf T = 1 -> (∃ y, DataW.trod enc Tryz.prog W 0 (fun _ => true) true n T ((cs.drop j).take (Tryz.prog.cellsOf T)) = some y) -> ∃ y, DataW.trod enc Tryz.prog W 0 (fun _ => true) true n T [cs[j]] = some y := by
   intro n cs j T hj hT ⟨y, hy⟩
   rw [hT, cut1 cs j hj] at hy
   exact ⟨y, hy⟩
  obtain ⟨y0, x0, e0⟩ := oneX 0 0 3 (by omega) (by kernel_rfl) (hf 0 _ (by rw [Tryz.underlying27]; rfl))
  obtain ⟨y1, x1, e1⟩ := oneX 1 1 22 (by omega) (by kernel_rfl) (hf 1 _ (by rw [Tryz.underlying27]; rfl))
  obtain ⟨yn, xn, en⟩ : ∃ y, xs[2]? = some y /\ DataW.trod enc Tryz.prog W 0 (fun _ => true) true n' 24 ((cs.drop 2).take (Tryz.prog.cellsOf 24)) = some y := hf 2 _ (by rw [Tryz.underlying27]; rfl)
  obtain ⟨y5, x5, e5⟩ := oneX 5 3 25 (by omega) (by kernel_rfl) (hf 3 _ (by rw [Tryz.underlying27]; rfl))
  obtain ⟨y6, x6, e6⟩ := oneX 6 4 3 (by omega) (by kernel_rfl) (hf 4 _ (by rw [Tryz.underlying27]; rfl))
  obtain ⟨y7, x7, e7⟩ := oneX 7 5 3 (by omega) (by kernel_rfl) (hf 5 _ (by rw [Tryz.underlying27]; rfl))
  obtain ⟨y8, x8, e8⟩ := oneX 8 6 22 (by omega) (by kernel_rfl) (hf 6 _ (by rw [Tryz.underlying27]; rfl))
  rw [cn] at en
  obtain ⟨hcl2, n2, hfu2, hf2⟩ := st_open Tryz.underlying24 en
  rw [cn] at hcl2
  obtain ⟨z0, g0⟩ := one n2 _ 0 4 (by omega) (by kernel_rfl) (hf2 0 _ rfl)
  obtain ⟨z1, g1⟩ := one n2 _ 1 9 (by omega) (by kernel_rfl) (hf2 1 _ rfl)
  obtain ⟨z2, g2⟩ := one n2 _ 2 9 (by omega) (by kernel_rfl) (hf2 2 _ rfl)
  obtain ⟨k, hk, _⟩ := DataW.trod_int Tryz.underlying3 e0
  obtain ⟨f, hfr, _⟩ := DataW.trod_int Tryz.underlying3 e6
  obtain ⟨t, hto, _⟩ := DataW.trod_int Tryz.underlying3 e7
  obtain ⟨ng, hng, _⟩ := DataW.trod_bool Tryz.underlying4 g0
  obtain ⟨dg, hdg, _, hdz⟩ := DataW.trod_string Tryz.underlying9 g1
  obtain ⟨ex, hex, _, hez⟩ := DataW.trod_string Tryz.underlying9 g2
  obtain ⟨tx, htx⟩ := open_ints_n _ _ _ e1
  obtain ⟨mk, hmk⟩ := open_ints_n _ _ _ e8
  have htb := ints_bulk _ _ _ e1 _ htx
  have hmb := ints_bulk _ _ _ e8 _ hmk
  have hbk : Rows.uptoBulk x.1 = Rows.uptoBulk y0.1 + (Rows.uptoBulk y1.1 + (Rows.uptoBulk yn.1 + (Rows.uptoBulk y5.1 + (Rows.uptoBulk y6.1 + (Rows.uptoBulk y7.1 + (Rows.uptoBulk y8.1 + 0)))))) + 1 := by
   have e : xs = [y0, y1, yn, y5, y6, y7, y8] := by
    apply List.ext_getElem? ; intro i
    rcases (show i = 0 \/ i = 1 \/ i = 2 \/ i = 3 \/ i = 4 \/ i = 5 \/ i = 6 \/ 7 <= i by omega) with rfl | rfl | rfl | rfl | rfl | rfl | rfl | h
    ·exact x0
    ·exact x1
    ·exact xn
    ·exact x5
    ·exact x6
    ·exact x7
    ·exact x8
    ·rw [List.getElem?_eq_none (by omega), List.getElem?_eq_none (by simp; omega)]
   rw [hxx, e]
   simp only [Rows.uptoBulk, List.map_cons, List.map_nil, Rows.uptoBulkAll]
  simp only [List.cons.injEq, and_true, List.getElem_take, List.getElem_drop, Nat.reduceAdd] at hk hfr hto hng hdg hex
  have hcs : cs = vvl ⟨k, tx, ng, dg.data.toList, ex.data.toList, f, t, mk⟩ (cs[1]'(by omega)) (cs[5]'(by omega)) (cs[8]'(by omega)) := by
   apply List.ext_getElem (by simpa [vvl] using hcl)
   intro i h1 h2
   match i, h2 with
   | 0, _ => exact hk
   | 1, _ => rfl
   | 2, _ => exact hng
   | 3, _ => exact hdg.trans (by simp [vvl, bytes])
   | 4, _ => exact hex.trans (by simp [vvl, bytes])
   | 5, _ => rfl
   | 6, _ => exact hfr
   | 7, _ => exact hto
   | 8, _ => rfl
  suffices hS : ∃ L, VoS W (cs[5]'(by omega)) L /\ VoC L <= Rows.uptoBulk y5.1 by
   obtain ⟨L, hL, hLb⟩ := hS
   exact ⟨⟨k, tx, ng, dg.data.toList, ex.data.toList, f, t, mk⟩, _, _, _, L, hcs, ⟨by show dg.data.toList.length <= _; rw [Array.length_toList]; exact hdz, by show ex.data.toList.length <= _; rw [Array.length_toList]; exact hez, htx, hmk⟩, hL, by show 1 + tx.length + mk.length + VoC L <= _; omega⟩
  rcases DataW.trod_slice Tryz.underlying25 e5 with ⟨h0, _⟩ | ⟨a, len, cap, elems, rest, n, hn, h0, hyy, _, hl, hm, hlen, hel, _⟩
  ·simp only [List.cons.injEq, and_true] at h0
   rw [h0]
   exact ⟨.nil, voP_nil _ _, by simp [VoC]⟩
  ·simp only [List.cons.injEq, and_true] at h0
   rw [h0]
   have hby : Rows.uptoBulkAll (elems.map (·.1)) <= Rows.uptoBulk y5.1 := by
    rw [hyy]; simp only [Rows.uptoBulk]; omega
   have each : ∀ j (hj : j < len), ∃ h tv mv v kids, HdS W h tv mv /\ VoS W v kids /\ 1 + h.tx.length + h.ms.length + VoC kids <= Rows.uptoBulk (elems[j]'(by omega)).1 /\ ∀ i u, (vvl h tv v mv)[i]? = some u -> W.cell? (a.add (j * 9 + i)) = some u := by
    intro j hj
    have := hel j hj
    rw [List.getElem?_eq_getElem (by omega)] at this
    obtain ⟨cs', h1, h2⟩ := Option.bind_eq_some_iff.1 this
    obtain ⟨h, tv, v, mv, L, rfl, hd, hL, hLb⟩ := ih n (by omega) cs' _ h2
    rw [ce] at h1
    obtain ⟨_, hcl', hat⟩ := World.cells?_some h1
    refine ⟨h, tv, mv, v, L, hd, hL, hLb, fun i u hu => ?_⟩
    have hi : i < 9 := by have := (List.getElem?_eq_some_iff.1 hu).1; simpa [vvl] using this
    rw [<- Go.Deep.add_add, hat i hi]
    exact hu
   rcases Nat.eq_zero_or_pos len with hz | hz
   ·subst hz
    exact ⟨.nil, ⟨_, cap, rfl, Nat.zero_le _, hm, by simp, fun h => by simp [Vo.len] at h⟩, by simp [VoC]⟩
   ·obtain ⟨h', tv', mv', v', kids', _, _, _, c0⟩ := each 0 hz
    obtain ⟨b, off, rfl, hb⟩ := addr_plain (c0 0 _ rfl)
    obtain ⟨L, hL, hat, hLb⟩ := voAt_ofB (w := W) (b := b) (elems.map (·.1)) off (fun j hj => by
     rw [List.length_map] at hj
     obtain ⟨h, tv, mv, v, kids, hd, hv, hbd, hc⟩ := each j (by omega)
     refine ⟨h, tv, mv, v, kids, hd, fun i u hu => ?_, hv, by rw [List.getElem_map]; exact hbd⟩
     have := hc i u hu
     rw [Go.WideShapes.add_plain, <- Nat.add_assoc] at this
     exact this)
    rw [List.length_map, hlen] at hL
    subst hL
    exact ⟨L, ⟨_, cap, rfl, hl, hm, by simp, fun _ => ⟨b, off, rfl, hb, hat⟩⟩, by omega⟩
end Go.Proofs.YtbfnlgmhfhaglaaGreatDoor
namespace Go.Proofs.YtbfnlgmhfhaglaaGreatDoor
open Go.RowKit
set_option linter.unusedVariables false
set_option linter.unusedSimpArgs false
theorem open_val_u {H : Type} {enc : TypeId × Value -> H} {W : World} {r : Reach} {b0 : Nat} {x : Value} {d : DataW H} {p : List MemPlace} {ds : List (DataW H)} (hs : Value.okWide Tryz.prog W r b0 27 x)
  (h : DataW.Trod enc Tryz.prog W 0 (fun _ => true) true 27 x d p) (hk : Rows.uptoSmall H ds = true) (hd : d ∈ ds) : ∃ hh tv v mv L, x = .agg (vv hh tv v mv) /\ HdS W hh tv mv /\ VoS W v L /\ 1 + hh.tx.length + hh.ms.length + VoC L <= 1048576 := by
 obtain ⟨cs, rfl, hsz⟩ := Go.WideShapes.okWide_struct Tryz.underlying27 hs
 obtain ⟨fuel, hf⟩ := h
 have hf : DataW.trod enc Tryz.prog W 0 (fun _ => true) true fuel 27 cs.toList = some (d, p) := hf
 have h1 := upto_all hk
 have h2 := bulk_mem hd
 obtain ⟨hh, tv, v, mv, L, e, a, b, c⟩ := open_val_b fuel cs.toList _ hf
 refine ⟨hh, tv, v, mv, L, ?_, a, b, by simp only at c; omega⟩
 congr 1
 apply Array.ext'
 rw [e]
 rfl
end Go.Proofs.YtbfnlgmhfhaglaaGreatDoor
