/- Layouts: the page's own Text and SamePieces. -/
import Derived.Test.YtehofomfblfhaaaYRen
namespace Go.Proofs.Ytehofomfblfhaaa
open Go.RowKit
set_option linter.unusedVariables false
set_option linter.unusedSimpArgs false

theorem pcs_get {w : World} {u : Value} {l : List Pc} (h : Vs 2 w u (l.map pc2)) {n : Nat} (hn : l.length = n) : ∃ a cap, u = .slice a n cap ∧ n ≤ cap ∧ cap ≤ maxLen ∧ ∀ j (hj : j < l.length), ∃ b off, a = some ⟨b, off, none⟩ ∧ b < w.heap.size ∧
    w.cell? ⟨b, off + j * 2, none⟩ = some (.string (l[j]).1) ∧ w.cell? ⟨b, off + j * 2 + 1, none⟩ = some (.int .i64 (l[j]).2) := by
  obtain ⟨a, cap, rfl, h1, h2, h3⟩ := h
  rw [List.length_map] at h1 ⊢
  subst hn
  refine ⟨a, cap, rfl, h1, h2, fun j hj => ?_⟩
  obtain ⟨b, off, rfl, hb, hc⟩ := h3 (by rw [List.length_map]; omega)
  have hk := hc j (by simpa using hj)
  refine ⟨b, off, rfl, hb, ?_, ?_⟩
  · have := hk 0 (.string (l[j]).1) (by simp [pc2]); rwa [Nat.add_zero] at this
  · have := hk 1 (.int .i64 (l[j]).2) (by simp [pc2]); rwa [← Nat.add_assoc] at this
theorem ptext_take (l : List Pc) (j : Nat) (hj : j < l.length) : bytes (ptext (l.take j)) ++ (l[j]).1 = bytes (ptext (l.take (j + 1))) := by
  have e : bytes (l[j]).1.data.toList = (l[j]).1 := by simp [bytes]
  have h : ptext (l.take (j + 1)) = ptext (l.take j) ++ (l[j]).1.data.toList := by
    unfold ptext
    rw [List.take_succ_eq_append_getElem hj, List.flatMap_append]
    simp only [List.flatMap_cons, List.flatMap_nil, List.append_nil]
  rw [h, ← bytes_addT, e]
theorem ptext_mono (l : List Pc) (j : Nat) : (ptext (l.take j)).length ≤ (ptext l).length := by
  have : ptext l = ptext (l.take j) ++ ptext (l.drop j) := by unfold ptext; rw [← List.flatMap_append, List.take_append_drop]
  rw [this, List.length_append]
  omega
set_option maxRecDepth 100000 in
set_option maxHeartbeats 4000000 in
theorem reftext_any (l : List Pc) (v : Value) (T : List UInt8) (w : World) (hv : Vs 2 w v (l.map pc2)) (hT : ptext l = T) (hl : T.length ≤ 100000000) :
    Calls Try.prog 17 #[v] w fun e w' => e = .returned (.string (bytes T)) ∧ w = w' := by
  obtain ⟨n, hn⟩ : ∃ n, l.length = n := ⟨_, rfl⟩
  obtain ⟨a, cap, rfl, h1, h2, h3⟩ := pcs_get hv hn
  have H3 := Lib.hid h3
  have HN := Lib.hid hn
  have HT := Lib.hid hT
  have HL := Lib.hid hl
  unfold maxLen at h2
  clear hv h3 hn hT hl
  go_enter Try.func17, Try.ntmps17
  go_wp2
  go_loopw [3, 4] (fun sv iv wr => ∃ i : Nat, iv = .int .i64 (i : Int) ∧ i ≤ n ∧ sv = .string (bytes (ptext (l.take i))) ∧ w = wr) (fun _ iv _ => n - (intOf iv).toNat)
  case atStart => exact ⟨0, rfl, by omega, rfl, rfl⟩
  case round =>
    obtain ⟨i, rfl, hi, rfl, rfl⟩ := hrel
    by_cases hlt : i < n
    · have hil : i < l.length := by rw [HN.out]; exact hlt
      obtain ⟨b, off, rfl, hbk, p0, p1⟩ := H3.out i hil
      have hA := ptext_take l i hil
      have hz : (bytes (ptext (l.take i))).size + (l[i]).1.size ≤ 9223372036854775807 := by
        have e := congrArg ByteArray.size hA
        rw [ByteArray.size_append] at e
        have := ptext_mono l (i + 1)
        rw [HT.out] at this
        have := HL.out
        rw [bytes_size (ptext (l.take (i + 1)))] at e
        omega
      have PA := fun W => run_string_add_sum (P := Try.prog) W (bytes (ptext (l.take i))) (l[i]).1 hz
      rw [hA] at PA
      obtain ⟨A0, hA0⟩ : ∃ A, bytes (ptext (l.take i)) = A := ⟨_, rfl⟩
      obtain ⟨S0, hS0⟩ : ∃ A, (l[i]).1 = A := ⟨_, rfl⟩
      obtain ⟨A1, hA1⟩ : ∃ A, bytes (ptext (l.take (i + 1))) = A := ⟨_, rfl⟩
      rw [hA0, hS0, hA1] at PA
      rw [hS0] at p0
      rw [hA0]
      have HA1 := Lib.hid hA1
      have i0 : (0 : Int) ≤ i := by omega
      have i1 : (i : Int) < n := by omega
      clear hA hz hA0 hS0 hA1 p1 hil
      go_wp2
      go_roundw
      case rel => exact ⟨i + 1, by go_num, by omega, by rw [HA1.out], by first | rfl | trivial⟩
      case measure => simp [intOf]; omega
    · obtain rfl : i = n := by omega
      have t1 : decide ((i : Int) < i) = false := by simp
      have hfull := Lib.hid (show bytes (ptext (l.take i)) = bytes T by rw [List.take_of_length_le (by rw [HN.out]; exact Nat.le_refl _), HT.out])
      rw [hfull.out]
      clear hlt
      go_wp2
      go_ret
      exact ⟨rfl, by first | rfl | trivial⟩
set_option maxRecDepth 100000 in
set_option maxHeartbeats 4000000 in
theorem samep_any (l : List Pc) (u v : Value) (w : World) (hu : Vs 2 w u (l.map pc2)) (hv : Vs 2 w v (l.map pc2)) :
    Calls Try.prog 15 #[u, v] w fun e w' => e = .returned (.bool true) ∧ Below w.heap.size w w' := by
  obtain ⟨n, hn⟩ : ∃ n, l.length = n := ⟨_, rfl⟩
  obtain ⟨a, cap, rfl, h1, h2, h3⟩ := pcs_get hu hn
  obtain ⟨a', cap', rfl, h1', h2', h3'⟩ := pcs_get hv hn
  have H3 := Lib.hid h3
  have H3' := Lib.hid h3'
  have HN := Lib.hid hn
  unfold maxLen at h2 h2'
  clear hu hv h3 h3' hn
  go_enter Try.func15, Try.ntmps15
  go_wp2
  go_loopw [5] (fun iv wr => ∃ i : Nat, iv = .int .i64 (i : Int) ∧ i ≤ n ∧ Below w.heap.size w wr) (fun iv _ => n - (intOf iv).toNat)
  case atStart => exact ⟨0, rfl, by omega, Below.refl _ _⟩
  case round =>
    obtain ⟨i, rfl, hi, hb⟩ := hrel
    have HB := Lib.hid hb
    clear hb
    by_cases hlt : i < n
    · have hil : i < l.length := by rw [HN.out]; exact hlt
      obtain ⟨b, off, rfl, hbk, p0, p1⟩ := H3.out i hil
      obtain ⟨b', off', rfl, hbk', p2, p3⟩ := H3'.out i hil
      have q0 := (HB.out.cell (p := ⟨b, off + i * 2, none⟩) hbk).trans p0
      have q1 := (HB.out.cell (p := ⟨b, off + i * 2 + 1, none⟩) hbk).trans p1
      have q2 := (HB.out.cell (p := ⟨b', off' + i * 2, none⟩) hbk').trans p2
      have q3 := (HB.out.cell (p := ⟨b', off' + i * 2 + 1, none⟩) hbk').trans p3
      obtain ⟨S0, hS0⟩ : ∃ A, (l[i]).1 = A := ⟨_, rfl⟩
      obtain ⟨f0, hf0⟩ : ∃ A, (l[i]).2 = A := ⟨_, rfl⟩
      rw [hS0] at q0 q2
      rw [hf0] at q1 q3
      have i0 : (0 : Int) ≤ i := by omega
      have i1 : (i : Int) < n := by omega
      have t5 : (S0.toList == S0.toList) = true := by simp
      clear p0 p1 p2 p3 hil hS0 hf0
      go_upto_region 6 with (fail)
      refine wp_region_noPanic ?_
      refine wp_region_held_drew (S := fun V : World => V.cell? ⟨b, off + i * 2, none⟩ = some (.string S0) ∧ V.cell? ⟨b, off + i * 2 + 1, none⟩ = some (.int .i64 f0) ∧ V.cell? ⟨b', off' + i * 2, none⟩ = some (.string S0) ∧ V.cell? ⟨b', off' + i * 2 + 1, none⟩ = some (.int .i64 f0)) (by kernel_rfl) ⟨q0, q1, q2, q3⟩ (fun hS => ?_)
      refine wpAnyH_take (i := 0) (oi := _) (v := ?_) (List.getElem?_toArray.trans (by simp only [List.getElem?_cons_succ, List.getElem?_cons_zero]; exact rfl)) (by kernel_rfl) (by kernel_rfl) (by kernel_rfl) (fun _ _ _ h => h) (Or.inl ⟨by rfl, ?_⟩) (by assumption) ?_
      rotate_left
      · (intro V hSV; (try dsimp only at hSV); (try obtain ⟨s0, s1, s2, s3⟩ := hSV); go_simp; (try rw [if_neg (by omega)]); (try with_reducible rfl))
      try simp only [List.getElem_toArray, List.getElem_cons_succ, List.getElem_cons_zero, Act.put, List.setIfInBounds_toArray, List.set_cons_zero, List.set_cons_succ]
      refine wpAnyH_take (i := 1) (oi := _) (v := ?_) (List.getElem?_toArray.trans (by simp only [List.getElem?_cons_succ, List.getElem?_cons_zero]; exact rfl)) (by kernel_rfl) (by kernel_rfl) (by kernel_rfl) (fun _ _ _ h => h) (Or.inl ⟨by rfl, ?_⟩) (by assumption) ?_
      rotate_left
      · (intro V hSV; (try dsimp only at hSV); (try obtain ⟨s0, s1, s2, s3⟩ := hSV); go_simp; (try rw [if_neg (by omega)]); (try with_reducible rfl))
      try simp only [List.getElem_toArray, List.getElem_cons_succ, List.getElem_cons_zero, Act.put, List.setIfInBounds_toArray, List.set_cons_zero, List.set_cons_succ]
      refine wpAnyH_take (i := 2) (oi := _) (v := ?_) (List.getElem?_toArray.trans (by simp only [List.getElem?_cons_succ, List.getElem?_cons_zero]; exact rfl)) (by kernel_rfl) (by kernel_rfl) (by kernel_rfl) (fun _ _ _ h => h) (Or.inl ⟨by rfl, ?_⟩) (by assumption) ?_
      rotate_left
      · (intro V hSV; (try dsimp only at hSV); (try obtain ⟨s0, s1, s2, s3⟩ := hSV); go_simp; (try rw [if_neg (by omega)]); (try with_reducible rfl))
      try simp only [List.getElem_toArray, List.getElem_cons_succ, List.getElem_cons_zero, Act.put, List.setIfInBounds_toArray, List.set_cons_zero, List.set_cons_succ]
      refine wpAnyH_take (i := 3) (oi := _) (v := ?_) (List.getElem?_toArray.trans (by simp only [List.getElem?_cons_succ, List.getElem?_cons_zero]; exact rfl)) (by kernel_rfl) (by kernel_rfl) (by kernel_rfl) (fun _ _ _ h => h) (Or.inl ⟨by rfl, ?_⟩) (by assumption) ?_
      rotate_left
      · (intro V hSV; (try dsimp only at hSV); (try obtain ⟨s0, s1, s2, s3⟩ := hSV); go_simp; (try rw [if_neg (by omega)]); (try with_reducible rfl))
      try simp only [List.getElem_toArray, List.getElem_cons_succ, List.getElem_cons_zero, Act.put, List.setIfInBounds_toArray, List.set_cons_zero, List.set_cons_succ]
      refine wpAnyH_take (i := 4) (oi := _) (v := ?_) (List.getElem?_toArray.trans (by simp only [List.getElem?_cons_succ, List.getElem?_cons_zero]; exact rfl)) (by kernel_rfl) (by kernel_rfl) (by kernel_rfl) (fun _ _ _ h => h) (Or.inl ⟨by rfl, ?_⟩) (by assumption) ?_
      rotate_left
      · (intro V hSV; (try dsimp only at hSV); (try obtain ⟨s0, s1, s2, s3⟩ := hSV); go_simp; (try rw [if_neg (by omega)]); (try with_reducible rfl))
      try simp only [List.getElem_toArray, List.getElem_cons_succ, List.getElem_cons_zero, Act.put, List.setIfInBounds_toArray, List.set_cons_zero, List.set_cons_succ]
      refine wpAnyH_take (i := 5) (oi := _) (v := ?_) (List.getElem?_toArray.trans (by simp only [List.getElem?_cons_succ, List.getElem?_cons_zero]; exact rfl)) (by kernel_rfl) (by kernel_rfl) (by kernel_rfl) (fun _ _ _ h => h) (Or.inl ⟨by rfl, ?_⟩) (by assumption) ?_
      rotate_left
      · (intro V hSV; (try dsimp only at hSV); (try obtain ⟨s0, s1, s2, s3⟩ := hSV); go_simp; (try rw [if_neg (by omega)]); (try with_reducible rfl))
      try simp only [List.getElem_toArray, List.getElem_cons_succ, List.getElem_cons_zero, Act.put, List.setIfInBounds_toArray, List.set_cons_zero, List.set_cons_succ]
      refine wpAnyH_take (i := 6) (oi := _) (v := ?_) (List.getElem?_toArray.trans (by simp only [List.getElem?_cons_succ, List.getElem?_cons_zero]; exact rfl)) (by kernel_rfl) (by kernel_rfl) (by kernel_rfl) (fun _ _ _ h => h) (Or.inl ⟨by rfl, ?_⟩) (by assumption) ?_
      rotate_left
      · (intro V hSV; (try dsimp only at hSV); (try obtain ⟨s0, s1, s2, s3⟩ := hSV); go_simp; (try rw [if_neg (by omega)]); (try with_reducible rfl))
      try simp only [List.getElem_toArray, List.getElem_cons_succ, List.getElem_cons_zero, Act.put, List.setIfInBounds_toArray, List.set_cons_zero, List.set_cons_succ]
      refine wpAnyH_take (i := 7) (oi := _) (v := ?_) (List.getElem?_toArray.trans (by simp only [List.getElem?_cons_succ, List.getElem?_cons_zero]; exact rfl)) (by kernel_rfl) (by kernel_rfl) (by kernel_rfl) (fun _ _ _ h => h) (Or.inl ⟨by rfl, ?_⟩) (by assumption) ?_
      rotate_left
      · (intro V hSV; (try dsimp only at hSV); (try obtain ⟨s0, s1, s2, s3⟩ := hSV); go_simp; (try rw [if_neg (by omega)]); (try with_reducible rfl))
      try simp only [List.getElem_toArray, List.getElem_cons_succ, List.getElem_cons_zero, Act.put, List.setIfInBounds_toArray, List.set_cons_zero, List.set_cons_succ]
      refine wpAnyH_take (i := 8) (oi := _) (v := ?_) (List.getElem?_toArray.trans (by simp only [List.getElem?_cons_succ, List.getElem?_cons_zero]; exact rfl)) (by kernel_rfl) (by kernel_rfl) (by kernel_rfl) (fun _ _ _ h => h) (Or.inl ⟨by rfl, ?_⟩) (by assumption) ?_
      rotate_left
      · (intro V hSV; (try dsimp only at hSV); (try obtain ⟨s0, s1, s2, s3⟩ := hSV); go_simp; (try rw [if_neg (by omega)]); (try with_reducible rfl))
      try simp only [List.getElem_toArray, List.getElem_cons_succ, List.getElem_cons_zero, Act.put, List.setIfInBounds_toArray, List.set_cons_zero, List.set_cons_succ]
      refine wpAnyH_done (by kernel_rfl) ?_ _
      refine NoPanic.normal ?_
      clear hS
      have e5 := HB.out.drew
      go_wp2
      go_roundw
      case rel => exact ⟨i + 1, by go_num, by omega, e5⟩
      case measure => simp [intOf]; omega
    · obtain rfl : i = n := by omega
      have t1 : decide ((i : Int) < i) = false := by simp
      clear hlt
      go_wp2
      go_ret
      exact ⟨rfl, HB.out⟩
end Go.Proofs.Ytehofomfblfhaaa
