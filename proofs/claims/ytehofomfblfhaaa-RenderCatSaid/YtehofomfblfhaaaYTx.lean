/- Layouts: render.Text and render.Starts. -/
import Derived.Test.YtehofomfblfhaaaYBld
import Derived.Test.YtehofomfblfhaaaYTells
import Derived.Test.YtehofomfblfhaaaYAlive
import Derived.Test.YtehofomfblfhaaaYPie
import Derived.Laws.OwnMore
import Derived.Laws.MakeOwn
import Derived.Laws.Concat
import Derived.Outline
namespace Go.Proofs.Ytehofomfblfhaaa
open Go.RowKit
set_option linter.unusedVariables false
set_option linter.unusedSimpArgs false

namespace M
abbrev Pcs := List (List UInt8 × Int)
def textP (L : Pcs) : List UInt8 := L.flatMap (·.1)
theorem textP_cons (p : List UInt8 × Int) (r : Pcs) : textP (p :: r) = p.1 ++ textP r := rfl
theorem textP_append (a b : Pcs) : textP (a ++ b) = textP a ++ textP b := by simp [textP]
theorem textP_take_le (L : Pcs) (i : Nat) : (textP (L.take i)).length ≤ (textP L).length := by
  have e : textP L = textP (L.take i) ++ textP (L.drop i) := by rw [← textP_append, List.take_append_drop]
  rw [e, List.length_append]; omega
theorem textP_take_succ (L : Pcs) (i : Nat) (h : i < L.length) : textP (L.take (i + 1)) = textP (L.take i) ++ (L[i]).1 := by
  rw [List.take_succ_eq_append_getElem h, textP_append]; simp [textP]
end M
def pv (p : List UInt8 × Int) : List Value := [.string (bytes p.1), .int .i64 p.2]
def Ps (w : World) (v : Value) (l : M.Pcs) : Prop := Vs 2 w v (l.map pv)
def PsAt (B : Nat) (w : World) (v : Value) (l : M.Pcs) : Prop :=
  ∃ a cap, v = .slice a l.length cap ∧ l.length ≤ cap ∧ cap ≤ maxLen ∧ (0 < l.length → ∃ b off, a = some ⟨b, off, none⟩ ∧ b < B ∧ ∀ j (hj : j < l.length),
    w.cell? ⟨b, off + j * 2, none⟩ = some (.string (bytes l[j].1)) ∧ w.cell? ⟨b, off + j * 2 + 1, none⟩ = some (.int .i64 l[j].2))
theorem psAt_of {w : World} {v : Value} {l : M.Pcs} (h : Ps w v l) : PsAt w.heap.size w v l := by
  obtain ⟨a, cap, rfl, h1, h2, h3⟩ := h
  rw [List.length_map] at h1
  refine ⟨a, cap, by rw [List.length_map], h1, h2, fun h0 => ?_⟩
  obtain ⟨b, off, rfl, hb, hc⟩ := h3 (by rw [List.length_map]; exact h0)
  refine ⟨b, off, rfl, hb, fun j hj => ?_⟩
  have h4 := hc j (by rw [List.length_map]; exact hj)
  have h5 := h4 0 (.string (bytes l[j].1)) (by simp [pv])
  have h6 := h4 1 (.int .i64 l[j].2) (by simp [pv])
  exact ⟨by simpa using h5, by rw [Nat.add_assoc]; exact h6⟩
theorem psAt_keep {B C : Nat} {w w' : World} {v : Value} {l : M.Pcs} (h : PsAt B w v l) (hb : Below C w w') (hC : B ≤ C) : PsAt B w' v l := by
  obtain ⟨a, cap, rfl, h1, h2, h3⟩ := h
  refine ⟨a, cap, rfl, h1, h2, fun h0 => ?_⟩
  obtain ⟨b, off, rfl, hlt, hc⟩ := h3 h0
  refine ⟨b, off, rfl, hlt, fun j hj => ?_⟩
  obtain ⟨x0, x1⟩ := hc j hj
  exact ⟨(hb.cell (p := ⟨b, off + j * 2, none⟩) (Nat.lt_of_lt_of_le hlt hC)).trans x0, (hb.cell (p := ⟨b, off + j * 2 + 1, none⟩) (Nat.lt_of_lt_of_le hlt hC)).trans x1⟩
/-- The address and one element, of a value written out. -/
theorem psAt_get {B : Nat} {w : World} {a : Option Addr} {n cap : Nat} {l : M.Pcs} (h : PsAt B w (.slice a n cap) l) (j : Nat) (hj : j < l.length) :
    ∃ b off, a = some ⟨b, off, none⟩ ∧ b < B ∧ w.cell? ⟨b, off + j * 2, none⟩ = some (.string (bytes l[j].1)) ∧ w.cell? ⟨b, off + j * 2 + 1, none⟩ = some (.int .i64 l[j].2) := by
  obtain ⟨a', c', hs, _, _, h3⟩ := h
  simp only [Value.slice.injEq] at hs
  obtain ⟨rfl, _, _⟩ := hs
  obtain ⟨b, off, rfl, hb, hc⟩ := h3 (by omega)
  exact ⟨b, off, rfl, hb, (hc j hj).1, (hc j hj).2⟩
set_option maxRecDepth 100000 in
set_option maxHeartbeats 2000000 in
theorem ptext_any (v : Value) (L : M.Pcs) (t : List UInt8) (w : World) (hv : Ps w v L) (hl : t.length ≤ 4294967296) (hL : L.length ≤ 1048576) (ht : M.textP L = t) :
    Calls Try.prog 16 #[v] w fun e w' => e = .returned (.string (bytes t)) ∧ Below w.heap.size w w' := by
  have hpa := psAt_of hv
  obtain ⟨a, cap, rfl, h1, h2, -⟩ := id hpa
  have HP := Lib.hid hpa
  obtain ⟨n, hn⟩ : ∃ n, L.length = n := ⟨_, rfl⟩
  have HN := Lib.hid hn
  have HT := Lib.hid ht
  rw [hn] at h1 hL ⊢
  clear hpa hv hn ht
  go_enter Try.func16, Try.ntmps16
  go_wp2
  go_loopw [8] (fun iv wr => ∃ i : Nat, iv = .int .i64 (i : Int) ∧ i ≤ n ∧ Bd w.heap.size w.heap.size (M.textP (L.take i)) wr ∧ Below w.heap.size w wr) (fun iv _ => n - (intOf iv).toNat)
  case atStart => exact ⟨0, rfl, by omega, bd_fresh w, (Below.refl _ _).alloc (Nat.le_refl _) _⟩
  case round =>
    obtain ⟨i, rfl, hi, hbd, hb⟩ := hrel
    have hbz := hb.size
    by_cases hlt : i < n
    · obtain ⟨b, off, rfl, hbk, c0, c1⟩ := psAt_get (by have h := HP.out; rw [HN.out] at h; exact psAt_keep h hb (Nat.le_refl _)) i (by rw [HN.out]; exact hlt)
      have hil : i < L.length := by rw [HN.out]; exact hlt
      have hsn := M.textP_take_succ L i hil
      have hle := M.textP_take_le L (i + 1)
      rw [HT.out, hsn, List.length_append] at hle
      obtain ⟨S, hS⟩ : ∃ S, bytes (L[i]).1 = S := ⟨_, rfl⟩
      obtain ⟨f, hf⟩ : ∃ f, (L[i]).2 = f := ⟨_, rfl⟩
      rw [hS] at c0
      rw [hf] at c1
      have i1 : (i : Int) < n := by omega
      have HS := Lib.hid hS
      have HSN := Lib.hid hsn.symm
      have HLE := Lib.hid hle
      have HBD := Lib.hid hbd
      clear hS hf hsn hle hbd
      go_wp2_with fail
      obtain ⟨w2, hw2⟩ : ∃ x, wr.alloc (.cells #[.string S, .int .i64 f] 34) = x := ⟨_, rfl⟩
      have hb2 : Below wr.heap.size wr w2 := by rw [← hw2]; exact (Below.refl _ _).alloc (Nat.le_refl _) _
      have hz2 := hb2.size
      rw [hw2]
      clear hw2
      refine (bwrite_any _ _ _ _ _ S HS.out w2 (HBD.out.keep hb2) (by have := HLE.out; omega) (by omega) HSN.out).mono ?_
      rintro e w3 ⟨rfl, hbd3, hb3⟩
      have hb4 := (hb.trans (hb2.mono hbz)).trans hb3
      have HBD3 := Lib.hid hbd3
      clear hbd3 hb hb2 hb3
      go_wp2
      go_roundw
      case rel => exact ⟨i + 1, by go_num, by omega, HBD3.out, hb4⟩
      case measure => simp [intOf]; omega
    · obtain rfl : i = n := by omega
      have hfull : L.take i = L := List.take_of_length_le (by rw [HN.out]; exact Nat.le_refl _)
      rw [hfull, HT.out] at hbd
      have HBD := Lib.hid hbd
      clear hbd hfull hlt
      go_wp2_with fail
      refine (bstr_any _ _ _ _ HBD.out hbz).mono ?_
      rintro e w2 ⟨rfl, hb2⟩
      go_wp2
      go_ret
      exact ⟨rfl, hb.trans hb2⟩
/-- Ints of the call's own: their element, a store. -/
theorem ownI_get {B g n cap : Nat} {w : World} {l : List Int} (h : OwnI B w (.slice (some ⟨g, 0, none⟩) n cap) l) (j : Nat) (hj : j < l.length) : w.cell? ⟨g, j, none⟩ = some (.int .i64 l[j]) := by
  have := World.ownsRow.cells h rfl j (.int .i64 l[j]) (by simp [icells, hj])
  rwa [show (⟨g, 0, none⟩ : Addr).add j = ⟨g, j, none⟩ by cases j <;> simp [Addr.add]] at this
theorem ownI_set {B g n cap : Nat} {w : World} {l : List Int} (h : OwnI B w (.slice (some ⟨g, 0, none⟩) n cap) l) (j : Nat) (z : Int) : OwnI B (w.setCell ⟨g, j, none⟩ (.int .i64 z)) (.slice (some ⟨g, 0, none⟩) n cap) (l.set j z) := by
  have hl : n = l.length := by
    rcases h.2 with ⟨h', _⟩ | ⟨g', cap', cur, h', _⟩
    · simp at h'
    · simp only [Value.slice.injEq] at h'; exact h'.2.1
  subst hl
  have h2 := (World.ownsRow.stored h j (.int .i64 z)).1
  have e : (icells l).set j (.int .i64 z) = icells (l.set j z) := by unfold icells; rw [List.map_set]
  rw [e] at h2
  unfold OwnI
  rw [List.length_set]
  exact h2
theorem ownI_frozen {B g n cap : Nat} {w : World} {l : List Int} (h : OwnI B w (.slice (some ⟨g, 0, none⟩) n cap) l) (j : Nat) : w.frozen? ⟨g, j, none⟩ = false := by
  have hl : n = l.length := by
    rcases h.2 with ⟨h', _⟩ | ⟨g', cap', cur, h', _⟩
    · simp at h'
    · simp only [Value.slice.injEq] at h'; exact h'.2.1
  subst hl
  exact World.ownsRow.frozenAt h j
theorem ownI_made (w : World) (n : Nat) (hn : n ≤ 1048576) : OwnI w.heap.size (w.alloc (.cells (madeCells #[.int .i64 0] n) 3)) (.slice (some ⟨w.heap.size, 0, none⟩) n n) (List.replicate n 0) := by
  have := World.ownsRow_lit w (base := w.heap.size) (e := 3) (size := 1) (madeCells #[.int .i64 0] n) n (Nat.le_refl _) (by unfold maxLen; omega) (by rw [size_madeCells, Nat.mul_one])
  rw [toList_madeCells_one] at this
  unfold OwnI
  rw [List.length_replicate]
  have e : icells (List.replicate n 0) = List.replicate n (.int .i64 0) := by unfold icells; rw [List.map_replicate]
  rw [e]
  exact this
/-- The beginnings of the pieces, the first i of them laid. -/
def startsP (L : M.Pcs) (i : Nat) : List Int := (List.range L.length).map fun j => if j < i then ((M.textP (L.take j)).length : Int) else 0
theorem startsP_len (L : M.Pcs) (i : Nat) : (startsP L i).length = L.length := by simp [startsP]
theorem startsP_zero (L : M.Pcs) : startsP L 0 = List.replicate L.length 0 := by
  unfold startsP
  apply List.ext_getElem
  · simp
  · intro j h1 h2; simp
theorem startsP_set (L : M.Pcs) (i : Nat) : (startsP L i).set i ((M.textP (L.take i)).length : Int) = startsP L (i + 1) := by
  apply List.ext_getElem
  · simp [startsP]
  · intro j h1 h2
    simp only [startsP, List.getElem_set, List.getElem_map, List.getElem_range]
    by_cases h : i = j
    · subst h; simp
    · rw [if_neg h]
      by_cases h3 : j < i
      · rw [if_pos h3, if_pos (by omega)]
      · rw [if_neg h3, if_neg (by omega)]
theorem startsP_at (L : M.Pcs) (j : Nat) (hj : j < L.length) : (startsP L L.length)[j]'(by rw [startsP_len]; exact hj) = ((M.textP (L.take j)).length : Int) := by
  simp [startsP, hj]
def StP (w : World) (l : List Int) (e : Ending) (w' : World) : Prop := ∃ v', e = .returned v' ∧ OwnI w.heap.size w' v' l ∧ Below w.heap.size w w'
set_option maxRecDepth 100000 in
set_option maxHeartbeats 2000000 in
theorem pstarts_any (v : Value) (L : M.Pcs) (w : World) (hv : Ps w v L) (hl : (M.textP L).length ≤ 4294967296) (hL : L.length ≤ 1048576) :
    Calls Try.prog 14 #[v] w (StP w (startsP L L.length)) := by
  obtain ⟨i0, hi0, hz0, hz1, hz2⟩ := info_parts infoI
  have hpa := psAt_of hv
  obtain ⟨a, cap, rfl, h1, h2, -⟩ := id hpa
  have HP := Lib.hid hpa
  obtain ⟨n, hn⟩ : ∃ n, L.length = n := ⟨_, rfl⟩
  have hmk : ∀ u : World, (Instr.makeSlice 29 (.int .i64 (n : Int)) (.int .i64 (n : Int))).run Try.prog u = .ok (.slice (some ⟨u.heap.size, 0, none⟩) n n) (u.alloc (.cells (madeCells #[.int .i64 0] n) 3)) := fun u => by
    have h := run_make (P := Try.prog) u 29 3 i0 _ Try.underlying29 hi0 hz0 .i64 .i64 (n : Int) (n : Int) (by omega) (by omega) (by rw [hz2]; omega) (by omega)
    simpa [hz1, Value.cells] using h
  have HN := Lib.hid hn
  have ho0 : OwnI w.heap.size (w.alloc (.cells (madeCells #[.int .i64 0] n) 3)) (.slice (some ⟨w.heap.size, 0, none⟩) n n) (startsP L 0) := by
    rw [startsP_zero, hn]; exact ownI_made w n (by omega)
  have HO0 := Lib.hid ho0
  rw [hn] at h1 hL ⊢
  clear hpa hv hn hi0 hz0 hz1 hz2 ho0
  go_enter Try.func14, Try.ntmps14
  go_wp2
  clear hmk
  go_loopw [4, 12] (fun tv iv wr => ∃ i : Nat, iv = .int .i64 (i : Int) ∧ i ≤ n ∧ tv = .int .i64 ((M.textP (L.take i)).length : Int) ∧ OwnI w.heap.size wr (.slice (some ⟨w.heap.size, 0, none⟩) n n) (startsP L i) ∧ Below w.heap.size w wr ∧ w.heap.size < wr.heap.size) (fun _ iv _ => n - (intOf iv).toNat)
  case atStart => exact ⟨0, rfl, by omega, rfl, HO0.out, (Below.refl _ _).alloc (Nat.le_refl _) _, by simp⟩
  case round =>
    obtain ⟨i, rfl, hi, rfl, ho, hb, hs⟩ := hrel
    have hbz := hb.size
    by_cases hlt : i < n
    · obtain ⟨b, off, rfl, hbk, c0, c1⟩ := psAt_get (by have h := HP.out; rw [HN.out] at h; exact psAt_keep h hb (Nat.le_refl _)) i (by rw [HN.out]; exact hlt)
      have hil : i < L.length := by rw [HN.out]; exact hlt
      have hsn := congrArg List.length (M.textP_take_succ L i hil)
      have hle := M.textP_take_le L (i + 1)
      rw [List.length_append] at hsn
      have hbz2 := bytes_size (L[i]).1
      obtain ⟨S, hS⟩ : ∃ S, bytes (L[i]).1 = S := ⟨_, rfl⟩
      obtain ⟨f, hf⟩ : ∃ f, (L[i]).2 = f := ⟨_, rfl⟩
      have hst := startsP_set L i
      rw [hS] at c0 hbz2
      rw [hf] at c1
      obtain ⟨m, hm⟩ : ∃ m, (M.textP (L.take i)).length = m := ⟨_, rfl⟩
      obtain ⟨m2, hm2⟩ : ∃ m, (M.textP (L.take (i + 1))).length = m := ⟨_, rfl⟩
      rw [hm] at hst hsn ⊢
      rw [hm2] at hle hsn
      have hm3 : m + S.size = m2 := by omega
      have hm4 : m2 ≤ 4294967296 := by omega
      have i1 : (i : Int) < n := by omega
      have c2 : wr.cell? ⟨w.heap.size, i, none⟩ = some (.int .i64 ((startsP L i)[i]'(by rw [startsP_len]; exact hil))) := ownI_get ho i (by rw [startsP_len]; exact hil)
      have z2 := ownI_frozen ho i
      have e2 := ownI_set ho i m
      rw [hst] at e2
      have e3 : OwnI _ _ _ _ := ownsRow_keep e2 ((Below.refl _ _).alloc (Nat.le_refl _) (.cells #[.string S, .int .i64 f] 34))
      have hb9 := (hb.setCell (p := ⟨w.heap.size, i, none⟩) (Nat.le_refl _) (.int .i64 (m : Int))).alloc (by simpa using hbz) (.cells #[.string S, .int .i64 f] 34)
      have hm5 : (m : Int) + S.size ≤ 4294967296 := by omega
      have HB9 := Lib.hid hb9
      have HO := Lib.hid e3
      have HM := Lib.hid hm2
      have HM3 := Lib.hid hm3
      generalize (startsP L i)[i]'(by rw [startsP_len]; exact hil) = q at c2
      clear hS hf hsn hle hst ho e2 e3 hm hm2 hbz2 hm3 hb9
      go_wp2
      go_roundw
      case rel => exact ⟨i + 1, by go_num, by omega, by rw [HM.out, ← HM3.out]; go_num, HO.out, HB9.out, by simp; omega⟩
      case measure => simp [intOf]; omega
    · obtain rfl : i = n := by omega
      have HO := Lib.hid ho
      have HB := Lib.hid hb
      clear ho hb hlt
      go_wp2
      go_ret
      exact ⟨_, rfl, HO.out, HB.out⟩
/-- A piece as a list of bytes. -/
def cvP (p : Pc) : List UInt8 × Int := (p.1.data.toList, p.2)
theorem cvP_pv (l : List Pc) : (l.map cvP).map pv = l.map pc2 := by
  rw [List.map_map]
  apply List.map_congr_left
  intro p _
  simp [pv, cvP, pc2, bytes]
theorem cvP_text (l : List Pc) : M.textP (l.map cvP) = ptext l := by
  unfold M.textP ptext
  rw [List.flatMap_map]
  rfl
theorem text_c : TextC := by
  intro l v T w hv hT hl hn
  exact ptext_any v (l.map cvP) T w (by unfold Ps; rw [cvP_pv]; exact hv) (by omega) (by rw [List.length_map]; omega) (by rw [cvP_text]; exact hT)
theorem startsP_is (l : List Pc) : startsP (l.map cvP) (l.map cvP).length = starts l := by
  apply List.ext_getElem
  · rw [startsP_len, starts_len, List.length_map]
  · intro j h1 h2
    rw [startsP_len, List.length_map] at h1
    rw [starts_at, startsP_at (l.map cvP) j (by rw [List.length_map]; exact h1), ← List.map_take, cvP_text]
theorem starts_c : StartsC := by
  intro l v w hv h1 h2
  refine (pstarts_any v (l.map cvP) w (by unfold Ps; rw [cvP_pv]; exact hv) (by rw [cvP_text]; omega) (by rw [List.length_map]; omega)).mono ?_
  rintro e w' ⟨u, rfl, ho, hb⟩
  rw [startsP_is] at ho
  exact ⟨u, rfl, ho.is, hb⟩
theorem alive_c : AliveC := alive11_any pieces_any text_c starts_c
theorem rsame_all (k0 f0 : Int) (s0 : ByteArray) (v0 : Value) (L0 : Fo) (a b i k : Int) (w : World) (hv0 : FoS w v0 L0) :
    Calls Try.prog 5 #[.agg (dv k0 f0 s0 v0), .int .i64 a, .int .i64 b, .int .i64 i, .int .i64 k] w fun e w' => e = .returned (.bool true) ∧ Below w.heap.size w w' :=
  rsame_walk pieces_any alive_c k0 f0 s0 v0 L0 a b i k w hv0
theorem rtells_all (k0 f0 : Int) (s0 : ByteArray) (v0 : Value) (L0 : Fo) (a i : Int) (w : World) (hv0 : FoS w v0 L0) :
    Calls Try.prog 3 #[.agg (dv k0 f0 s0 v0), .int .i64 a, .int .i64 i] w fun e w' => e = .returned (.bool true) ∧ Below w.heap.size w w' :=
  rtells_walk pieces_any alive_c text_c starts_c k0 f0 s0 v0 L0 a i w hv0
end Go.Proofs.Ytehofomfblfhaaa
