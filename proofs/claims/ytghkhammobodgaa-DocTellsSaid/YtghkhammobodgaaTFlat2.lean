/- Documents of any shape: without new lines, whole. -/
import Derived.Test.YtghkhammobodgaaTFlat
import Derived.Test.YtghkhammobodgaaTDoc4
import Derived.Deep.DeepCutAuto
namespace Go.Proofs.Ytghkhammobodgaa
open Go.RowKit
set_option linter.unusedVariables false
set_option linter.unusedSimpArgs false

/-- On the way through a list: what is behind, what is left. -/
def FlW (L R : Fo) (j : Nat) (acc : List UInt8) (okb : Bool) : Prop :=
  R.len + j = L.len ∧ (∀ i, R.at? i = L.at? (j + i)) ∧ acc.length + FoSz R ≤ FoSz L ∧ flatF L = if okb = true then (acc ++ (flatF R).1, (flatF R).2) else (acc, false)
theorem FlW.go {L rest kids : Fo} {k f : Int} {s : ByteArray} {j : Nat} {acc : List UInt8} (h : FlW L (.cons k f s kids rest) j acc true) :
    FlW L rest (j + 1) (acc ++ (flatD k s kids).1) (flatD k s kids).2 ∧ L.at? j = some (k, f, s, kids) ∧ acc.length + (s.size + 1 + FoSz kids) ≤ FoSz L := by
  obtain ⟨h1, h2, h3, h4⟩ := h
  have hl := flatD_len k s kids
  simp only [Fo.len, FoSz] at h1 h3
  refine ⟨⟨by omega, fun i => ?_, by rw [List.length_append]; omega, ?_⟩, ?_, by omega⟩
  · have := h2 (i + 1)
    rw [show j + (i + 1) = j + 1 + i by omega] at this
    exact this
  · rw [h4, flatF_cons, if_pos rfl]
    cases hb : (flatD k s kids).2 with
    | true => simp
    | false => simp
  · have := h2 0; exact this.symm
set_option maxRecDepth 100000 in
set_option maxHeartbeats 4000000 in
theorem af_node (k f : Int) (S : ByteArray) (L : Fo) (FC0 : ∀ j k f s kids, L.at? j = some (k, f, s, kids) → FC k f s kids) (n1 : k ≠ 1) (n2 : k ≠ 2) (n4 : k ≠ 4)
    (pre : List UInt8) (B : Nat) (bv v : Value) (W0 w : World) (hv : FoS W0 v L) (hB0 : W0.heap.size ≤ B) (hW0 : Below W0.heap.size W0 w) (ho : OwnB B w bv pre) (hB : B ≤ w.heap.size) (hsz : pre.length + FoSz L ≤ 1000000) (T : List UInt8 × Bool) (hT : flatF L = T) :
    Calls Try.prog 33 #[bv, .agg (dv k f S v)] w (AfD B bv w (pre ++ T.1) T.2) := by
  obtain ⟨a, cap, rfl, h1, h2, h3, h4⟩ := hv
  obtain ⟨n, hn⟩ : ∃ n, L.len = n := ⟨_, rfl⟩
  have hll : n ≤ maxLen := by rw [← hn]; exact Nat.le_trans h1 h2
  unfold maxLen at hll
  rw [hn] at h4
  rw [hn]
  have FW0 := Lib.hid (show FlW L L 0 [] true from ⟨by omega, fun i => by rw [Nat.zero_add], by simp, by simp⟩)
  have HR := Lib.hid FC0
  have HN := Lib.hid hn
  have HT := Lib.hid hT
  have H4 := Lib.hid h4
  have HSZ := Lib.hid hsz
  have HB0 := Lib.hid hB0
  have HW0 := Lib.hid hW0
  have HBB := Lib.hid hB
  have t1 : (k == 1) = false := by simpa using n1
  have t2 : (k == 2) = false := by simpa using n2
  have t4 : (k == 4) = false := by simpa using n4
  have b0 := Lib.hid ((Below.refl w.heap.size w).alloc (Nat.le_refl _) (.cells #[.int .i64 k, .int .i64 f, .string S, .slice a n cap] 24))
  have db0 := Lib.hid (DB.new w #[.int .i64 k, .int .i64 f, .string S, .slice a n cap])
  obtain ⟨W1, hW1⟩ : ∃ W, w.alloc (.cells #[.int .i64 k, .int .i64 f, .string S, .slice a n cap] 24) = W := ⟨_, rfl⟩
  rw [hW1] at b0 db0
  have c0 : W1.cell? ⟨w.heap.size, 0, none⟩ = some (.int .i64 k) := by rw [← hW1, World.cell?_alloc_at _ _ _ _ rfl]; rfl
  have HO := Lib.hid (ho.keep b0.out)
  have HST := Lib.hid (stand_of ho (fun j h _ => b0.out.block j h))
  have HW1 := Lib.hid hW1
  clear hn FC0 h1 h2 h3 h4 hsz hW1 ho hB hB0 hW0 hT
  unfold dv
  go_enter Try.func33, Try.ntmps33
  go_upto_region 1 with fail
  rw [HW1.out]
  go_wp2
  go_loopw [0, 6, 7] (fun bv' ov iv wr => ∃ (j : Nat) (R : Fo) (acc : List UInt8) (okb : Bool), iv = .int .i64 (j : Int) ∧ j ≤ n ∧ ov = .bool okb ∧ FlW L R j acc okb ∧ OwnB B wr bv' (pre ++ acc) ∧ DB wr w.heap.size #[.int .i64 k, .int .i64 f, .string S, .slice a n cap] ∧ Below B w wr ∧ DocsStand w wr) (fun _ _ iv _ => n - (intOf iv).toNat)
  case atStart => exact ⟨0, L, [], true, rfl, by omega, rfl, FW0.out, by rw [List.append_nil]; exact HO.out, db0.out, b0.out.mono HBB.out, HST.out⟩
  case round =>
    obtain ⟨j, R, acc, okb, rfl, hj, rfl, hfw, ho, hdb, hb, hds⟩ := hrel
    have HHB := Lib.hid hb
    have HDS := Lib.hid hds
    have c3r : wr.cell? ⟨w.heap.size, 3, none⟩ = some (.slice a n cap) := hdb.cell 3
    have HDB := Lib.hid hdb
    clear hb hds hdb
    cases okb with
    | false =>
      have hfin : T = (acc, false) := by rw [← HT.out]; have := hfw.2.2.2; simpa using this
      subst hfin
      have hom := Lib.hid ho
      clear hfw ho
      by_cases hlt : j < n
      · as_aux_lemma =>
          go_wp2
          go_ret2
          exact ⟨_, rfl, hom.out, HHB.out, HDS.out⟩
      · obtain rfl : j = n := by omega
        have t5 : decide ((j : Int) < j) = false := by simp
        clear hlt
        as_aux_lemma =>
          go_wp2
          go_ret2
          exact ⟨_, rfl, hom.out, HHB.out, HDS.out⟩
    | true =>
      by_cases hlt : j < n
      · cases R with
        | nil => exfalso; have := hfw.1; have := HN.out; simp [Fo.len] at *; omega
        | cons x0 x1 X kids rest =>
          obtain ⟨fw2, hat, hlen⟩ := hfw.go
          obtain ⟨b, off, rfl, hbk, hfo⟩ := H4.out (by omega)
          obtain ⟨-, q0, q1, q2, u, q3, hu⟩ := foAt_get L b off j x0 x1 X kids hfo hat
          have HBW := Lib.hid (HW0.out.trans (HHB.out.mono HB0.out))
          have R1 := Lib.hid (HR.out j x0 x1 X kids hat (pre ++ acc) B _ u W0 wr hu HB0.out HBW.out ho (Nat.le_trans HBB.out (Nat.le_of_lt HDB.out.lt)) (by have := HSZ.out; rw [List.length_append]; omega))
          obtain ⟨ua, ucap, hus⟩ := hu.slice
          obtain ⟨un, hun⟩ : ∃ m, kids.len = m := ⟨_, rfl⟩
          rw [hun] at hus
          subst hus
          have g0 := (HBW.out.cell (p := ⟨b, off + j * 4, none⟩) hbk).trans q0
          have g1 := (HBW.out.cell (p := ⟨b, off + j * 4 + 1, none⟩) hbk).trans q1
          have g2 := (HBW.out.cell (p := ⟨b, off + j * 4 + 2, none⟩) hbk).trans q2
          have g3 := (HBW.out.cell (p := ⟨b, off + j * 4 + 3, none⟩) hbk).trans q3
          have j0 : (0 : Int) ≤ j := by omega
          have j1 : (j : Int) < n := by omega
          have FW2 := Lib.hid fw2
          unfold dv at R1
          rw [List.append_assoc] at R1
          obtain ⟨ok2, hok2⟩ : ∃ o, (flatD x0 X kids).2 = o := ⟨_, rfl⟩
          rw [hok2] at R1 FW2
          clear q0 q1 q2 q3 hat hfo hu hun hfw ho fw2 hlen hok2
          as_aux_lemma =>
            go_wp2_with fail
            refine (R1.out).mono ?_
            rintro e w2 ⟨v2, rfl, ho2, hb2, hd2⟩
            have d2 := HHB.out.trans hb2
            have s2 := HDS.out.trans hd2
            have e2 := hd2 _ _ _ HDB.out
            clear hb2 hd2
            go_wp2
            go_roundw
            case rel => exact ⟨j + 1, rest, _, ok2, by go_num, by omega, rfl, FW2.out, ho2, e2, d2, s2⟩
            case measure => simp [intOf]; omega
      · obtain rfl : j = n := by omega
        have hnil : R = .nil := by
          have h1 := hfw.1
          have h2 := HN.out
          cases R with
          | nil => rfl
          | cons _ _ _ _ _ => simp [Fo.len] at h1; omega
        subst hnil
        have hfin : T = (acc, true) := by rw [← HT.out]; have := hfw.2.2.2; simpa [flatF] using this
        subst hfin
        have hom := Lib.hid ho
        have t5 : decide ((j : Int) < j) = false := by simp
        clear hlt hfw ho
        as_aux_lemma =>
          go_wp2
          go_ret2
          exact ⟨_, rfl, hom.out, HHB.out, HDS.out⟩
end Go.Proofs.Ytghkhammobodgaa
