/- Documents: a row of what has no kids, flat. -/
import Derived.Test.YtghkhammobodgaaTDoc2
import Derived.Deep.Onto
import Derived.Deep.DeepCutAuto
namespace Go.Proofs.Ytghkhammobodgaa
open Go.RowKit
set_option linter.unusedVariables false
set_option linter.unusedSimpArgs false

/-- The text of what has no kids. -/
def flatL (x : Lf) : List UInt8 := if x.1 = 1 then x.2.2 else [32]
theorem one_sp (w : World) : Bs (w.alloc (.cells #[.int .u8 32] 5)) (.slice (some ⟨w.heap.size, 0, none⟩) 1 1) [32] := bs_cells_new w [32] [.int .u8 32] 1 rfl rfl (by simp)
/-- What appending gives. -/
def AfP (B : Nat) (w : World) (t : List UInt8) (e : Ending) (w' : World) : Prop := ∃ v', e = .returned (.tuple #[v', .bool true]) ∧ OwnB B w' v' t ∧ Below B w w'
set_option maxRecDepth 100000 in
set_option maxHeartbeats 2000000 in
theorem afl_any (x : Lf) (hok : LfOk x) (bv : Value) (pre t : List UInt8) (B : Nat) (w : World) (ho : OwnB B w bv pre) (hB : B ≤ w.heap.size) (h1 : pre.length ≤ 1000000) (h2 : x.2.2.length ≤ 1000000) (ht : pre ++ flatL x = t) :
    Calls Try.prog 33 #[bv, .agg (dv x.1 x.2.1 (bytes x.2.2) (.slice none 0 0))] w (AfP B w t) := by
  obtain ⟨k, f, s⟩ := x
  simp only at h2 ⊢
  rcases hok with hk | ⟨hk, hf, hs⟩
  · simp only at hk
    subst hk
    have htt : pre ++ s = t := by rw [← ht]; rfl
    have b0 := Lib.hid ((Below.refl w.heap.size w).alloc (Nat.le_refl _) (.cells #[.int .i64 1, .int .i64 f, .string (bytes s), .slice none 0 0] 24))
    have HO := Lib.hid (ho.keep b0.out)
    have HT := Lib.hid htt
    have z1 : B ≤ (w.alloc (.cells #[.int .i64 1, .int .i64 f, .string (bytes s), .slice none 0 0] 24)).heap.size := by simp; omega
    have Z1 := Lib.hid z1
    have HBB := Lib.hid hB
    clear ho ht htt z1 hB
    unfold dv
    go_enter Try.func33, Try.ntmps33
    go_wp2_with (at_builtin; refine wpl_append_str rfl _ _ rfl B bv pre s (pre ++ s) rfl HO.out rfl (by omega) Z1.out rfl ?_)
    intro v2 w2 ho2 hb2
    have hfin := (b0.out.mono HBB.out).trans hb2
    clear hb2
    go_wp2
    go_ret2
    exact ⟨_, rfl, by rw [← HT.out]; exact ho2, hfin⟩
  · simp only at hk hf hs
    subst hk
    subst hf
    rw [hs]
    have htt : pre ++ [32] = t := by rw [← ht]; rfl
    have b0 := Lib.hid ((Below.refl w.heap.size w).alloc (Nat.le_refl _) (.cells #[.int .i64 2, .int .i64 0, .string ⟨#[]⟩, .slice none 0 0] 24))
    obtain ⟨W1, hW1⟩ : ∃ W, w.alloc (.cells #[.int .i64 2, .int .i64 0, .string ⟨#[]⟩, .slice none 0 0] 24) = W := ⟨_, rfl⟩
    rw [hW1] at b0
    have c0 : W1.cell? ⟨w.heap.size, 0, none⟩ = some (.int .i64 2) := by rw [← hW1, World.cell?_alloc_at _ _ _ _ rfl]; rfl
    have HW1 := Lib.hid hW1
    have b1 := Lib.hid ((Below.refl W1.heap.size W1).alloc (Nat.le_refl _) (.cells #[.int .u8 32] 5))
    have HO := Lib.hid ((ho.keep b0.out).keep b1.out)
    have HT := Lib.hid htt
    have Z0 := Lib.hid (show B ≤ W1.heap.size by have := b0.out.size; omega)
    have Z1 := Lib.hid (show B ≤ (W1.alloc (.cells #[.int .u8 32] 5)).heap.size by have := Z0.out; simp; omega)
    have HBB := Lib.hid hB
    clear ho ht htt hB hs hW1
    unfold dv
    go_enter Try.func33, Try.ntmps33
    go_upto_region 1 with fail
    rw [HW1.out]
    go_wp2_with (at_builtin; refine wpl_append rfl _ _ rfl B bv (.slice (some ⟨W1.heap.size, 0, none⟩) 1 1) pre [32] (pre ++ [32]) rfl HO.out rfl (one_sp W1) (by intro n c h; simp at h) (by simp; omega) Z1.out rfl ?_)
    intro v2 w2 ho2 hb2
    have hfin := (b0.out.mono HBB.out).trans ((b1.out.mono Z0.out).trans hb2)
    clear hb2
    go_wp2
    go_ret2
    exact ⟨_, rfl, by rw [← HT.out]; exact ho2, hfin⟩
set_option maxRecDepth 100000 in
set_option maxHeartbeats 2000000 in
theorem afn_any (v : Value) (l : List Lf) (t : List UInt8) (w : World) (hv : Ds w v l) (hl : l.length ≤ 1000) (hok : ∀ x ∈ l, LfOk x) (hs : ∀ x ∈ l, x.2.2.length ≤ 100) (ht : l.flatMap flatL = t) :
    Calls Try.prog 33 #[.slice none 0 0, .agg (dv 6 0 ⟨#[]⟩ v)] w (AfP w.heap.size w t) := by
  obtain ⟨n, hn⟩ : ∃ n, l.length = n := ⟨_, rfl⟩
  obtain ⟨a, cap, rfl, h1, h2, h3⟩ := ds_get hv hn
  rw [hn] at hl
  have hfl : ∀ j, j ≤ n → ((l.take j).flatMap flatL).length ≤ 101 * j := by
    intro j hj
    induction j with
    | zero => simp
    | succ j ih =>
      have hjl : j < l.length := by omega
      rw [List.take_succ_eq_append_getElem hjl, List.flatMap_append, List.length_append, show [l[j]].flatMap flatL = flatL l[j] by simp]
      have := ih (by omega)
      have h2 : (flatL l[j]).length ≤ 101 := by
        unfold flatL; split
        · have := hs _ (List.getElem_mem hjl); omega
        · simp
      omega
  have HFL := Lib.hid hfl
  have HN := Lib.hid hn
  have H3 := Lib.hid h3
  have HT := Lib.hid ht
  have AL := Lib.hid (fun (x : Lf) (hx : x ∈ l) bv pre B W ho hB h1 => afl_any x (hok x hx) bv pre _ B W ho hB h1 (by have := hs x hx; omega) rfl)
  have b0 := Lib.hid ((Below.refl w.heap.size w).alloc (Nat.le_refl _) (.cells #[.int .i64 6, .int .i64 0, .string ⟨#[]⟩, .slice a n cap] 24))
  obtain ⟨W1, hW1⟩ : ∃ W, w.alloc (.cells #[.int .i64 6, .int .i64 0, .string ⟨#[]⟩, .slice a n cap] 24) = W := ⟨_, rfl⟩
  rw [hW1] at b0
  have c0 : W1.cell? ⟨w.heap.size, 0, none⟩ = some (.int .i64 6) := by rw [← hW1, World.cell?_alloc_at _ _ _ _ rfl]; rfl
  have c3 : W1.cell? ⟨w.heap.size, 3, none⟩ = some (.slice a n cap) := by rw [← hW1, World.cell?_alloc_at _ _ _ _ rfl]; rfl
  have z1 : w.heap.size < W1.heap.size := by rw [← hW1]; simp
  have HW1 := Lib.hid hW1
  have C3 := Lib.hid c3
  clear hv hn h3 hok hs ht hW1 hfl c3
  unfold dv
  go_enter Try.func33, Try.ntmps33
  go_upto_region 1 with fail
  rw [HW1.out]
  go_wp2
  go_loopw [0, 6, 7] (fun bv ov iv wr => ∃ j : Nat, iv = .int .i64 (j : Int) ∧ j ≤ n ∧ ov = .bool true ∧ OwnB W1.heap.size wr bv ((l.take j).flatMap flatL) ∧ Below W1.heap.size W1 wr) (fun _ _ iv _ => n - (intOf iv).toNat)
  case atStart => exact ⟨0, rfl, by omega, rfl, World.ownsRow_nil _ _ _ _, Below.refl _ _⟩
  case round =>
    obtain ⟨j, rfl, hj, rfl, ho, hb⟩ := hrel
    have HB := Lib.hid (b0.out.trans (hb.mono b0.out.size))
    have c3r := (hb.cell (p := ⟨w.heap.size, 3, none⟩) z1).trans C3.out
    have HBR := Lib.hid hb
    have hz := hb.size
    have hlen := HFL.out j hj
    clear hb
    by_cases hlt : j < n
    · have hjl : j < l.length := by rw [HN.out]; exact hlt
      obtain ⟨b, off, rfl, hbk, q0, q1, q2, q3⟩ := H3.out j hjl
      have g0 := (HB.out.cell (p := ⟨b, off + j * 4, none⟩) hbk).trans q0
      have g1 := (HB.out.cell (p := ⟨b, off + j * 4 + 1, none⟩) hbk).trans q1
      have g2 := (HB.out.cell (p := ⟨b, off + j * 4 + 2, none⟩) hbk).trans q2
      have g3 := (HB.out.cell (p := ⟨b, off + j * 4 + 3, none⟩) hbk).trans q3
      have R1 := Lib.hid (AL.out (l[j]) (List.getElem_mem hjl) u0 _ W1.heap.size wr ho hz (by omega))
      have hst : (l.take (j + 1)).flatMap flatL = (l.take j).flatMap flatL ++ flatL l[j] := by rw [List.take_succ_eq_append_getElem hjl, List.flatMap_append]; simp
      have HST := Lib.hid hst
      have H5 := Lib.hid (fun (v' : Value) (w' : World) (h : OwnB W1.heap.size w' v' ((l.take j).flatMap flatL ++ flatL l[j])) => (by rw [hst]; exact h : OwnB W1.heap.size w' v' ((l.take (j + 1)).flatMap flatL)))
      obtain ⟨x, hx⟩ : ∃ x, l[j] = x := ⟨_, rfl⟩
      rw [hx] at g0 g1 g2 R1 H5
      obtain ⟨x0, x1, x2⟩ := x
      unfold dv at R1
      simp only at g0 g1 g2 R1
      obtain ⟨X, hX⟩ : ∃ X, bytes x2 = X := ⟨_, rfl⟩
      rw [hX] at g2 R1
      have j0 : (0 : Int) ≤ j := by omega
      have j1 : (j : Int) < n := by omega
      clear q0 q1 q2 q3 hx hX hjl ho hst HST hlen
      as_aux_lemma =>
        go_wp2_with fail
        refine (R1.out).mono ?_
        rintro e w2 ⟨v2, rfl, ho2, hb2⟩
        have d2 := HBR.out.trans hb2
        have ho3 := H5.out _ _ ho2
        clear hb2 ho2
        go_wp2
        go_roundw
        case rel => exact ⟨j + 1, by go_num, by omega, rfl, ho3, d2⟩
        case measure => simp [intOf]; omega
    · obtain rfl : j = n := by omega
      have t1 : decide ((j : Int) < j) = false := by simp
      have hfull : (l.take j).flatMap flatL = t := by rw [List.take_of_length_le (by rw [HN.out]; exact Nat.le_refl _)]; exact HT.out
      rw [hfull] at ho
      have hom := Lib.hid ho
      clear hlt hfull hlen ho
      as_aux_lemma =>
        go_wp2
        go_ret2
        exact ⟨_, rfl, World.ownsRow.mono hom.out (Nat.le_of_lt z1), HB.out⟩
set_option maxRecDepth 100000 in
set_option maxHeartbeats 1000000 in
theorem righttop_any (v : Value) (l : List Lf) (w : World) (hv : Ds w v l) (hl : l.length ≤ 1000) (hok : ∀ x ∈ l, LfOk x) :
    Calls Try.prog 16 #[.agg (dv 6 0 ⟨#[]⟩ v)] w fun e w' => e = .returned (.bool true) ∧ Below w.heap.size w w' := by
  have b0 := Lib.hid ((Below.refl w.heap.size w).alloc (Nat.le_refl _) (.cells #[.int .i64 6, .int .i64 0, .string ⟨#[]⟩, v] 24))
  have R := Lib.hid (rightn_any v l 200 (by decide) (by decide) _ (Vs.keep hv b0.out) (by omega) hok)
  clear hv hok
  unfold dv at R ⊢
  go_enter Try.func16, Try.ntmps16
  go_wp2_with fail
  refine (R.out).mono ?_
  rintro e w1 ⟨rfl, hb1⟩
  have hfin := b0.out.trans (hb1.mono b0.out.size)
  clear hb1
  go_wp2
  go_ret
  exact ⟨rfl, hfin⟩
set_option maxRecDepth 100000 in
set_option maxHeartbeats 1000000 in
theorem righttop_leaf (k f : Int) (S : ByteArray) (w : World) (h : LeafP k f S) :
    Calls Try.prog 16 #[.agg (dv k f S (.slice none 0 0))] w fun e w' => e = .returned (.bool true) ∧ Below w.heap.size w w' := by
  have b0 := Lib.hid ((Below.refl w.heap.size w).alloc (Nat.le_refl _) (.cells #[.int .i64 k, .int .i64 f, .string S, .slice none 0 0] 24))
  have R := Lib.hid (rightl_any k f S 200 (w.alloc (.cells #[.int .i64 k, .int .i64 f, .string S, .slice none 0 0] 24)) h)
  clear h
  unfold dv at R ⊢
  go_enter Try.func16, Try.ntmps16
  go_wp2_with fail
  refine (R.out).mono ?_
  rintro e w1 ⟨rfl, hb1⟩
  have hfin := b0.out.trans (hb1.mono b0.out.size)
  clear hb1
  go_wp2
  go_ret
  exact ⟨rfl, hfin⟩
set_option maxRecDepth 100000 in
set_option maxHeartbeats 1000000 in
theorem flat_any (v : Value) (l : List Lf) (t : List UInt8) (w : World) (hv : Ds w v l) (hl : l.length ≤ 1000) (hok : ∀ x ∈ l, LfOk x) (hs : ∀ x ∈ l, x.2.2.length ≤ 100) (ht : l.flatMap flatL = t) :
    Calls Try.prog 14 #[.agg (dv 6 0 ⟨#[]⟩ v)] w fun e w' => e = .returned (.tuple #[.string (bytes t), .bool true]) ∧ Below w.heap.size w w' := by
  have R := Lib.hid (fun W (hW : Below w.heap.size w W) => righttop_any v l W (Vs.keep hv hW) hl hok)
  have AF := Lib.hid (fun W (hW : Below w.heap.size w W) => afn_any v l t W (Vs.keep hv hW) hl hok hs ht)
  have b0 := Lib.hid ((Below.refl w.heap.size w).alloc (Nat.le_refl _) (.cells #[.int .i64 6, .int .i64 0, .string ⟨#[]⟩, v] 24))
  clear hv hok hs ht
  unfold dv at R AF ⊢
  go_enter Try.func14, Try.ntmps14
  go_wp2_with fail
  refine (R.out _ b0.out).mono ?_
  rintro e w1 ⟨rfl, hb1⟩
  obtain ⟨g0, g1, g2, g3, d1⟩ := keep4 hb1
  clear hb1
  go_wp2_with fail
  refine (AF.out _ d1).mono ?_
  rintro e w2 ⟨v2, rfl, ho2, hb2⟩
  have hcv := conv_own ho2
  have hfin := d1.trans (hb2.mono d1.size)
  clear hb2 d1 ho2
  go_wp2
  go_ret2
  exact ⟨rfl, hfin⟩
end Go.Proofs.Ytghkhammobodgaa
