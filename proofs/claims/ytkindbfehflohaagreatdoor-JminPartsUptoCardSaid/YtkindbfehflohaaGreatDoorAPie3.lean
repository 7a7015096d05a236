/- Values of any shape: jmin.Right, Pieces; chapter 9's alive; the page's SamePieces. -/
import Derived.Test.YtkindbfehflohaaGreatDoorAPie2
namespace Go.Proofs.YtkindbfehflohaaGreatDoor
open Go.RowKit
set_option linter.unusedVariables false
set_option linter.unusedSimpArgs false

def pc2V (p : ByteArray × Int) : List Value := [.string p.1, .int .i64 p.2]
theorem pcs_getV {w : World} {u : Value} {l : List (ByteArray × Int)} (h : Vs 2 w u (l.map pc2V)) {n : Nat} (hn : l.length = n) : ∃ a cap, u = .slice a n cap ∧ n ≤ cap ∧ cap ≤ maxLen ∧ ∀ j (hj : j < l.length), ∃ b off, a = some ⟨b, off, none⟩ ∧ b < w.heap.size ∧
    w.cell? ⟨b, off + j * 2, none⟩ = some (.string (l[j]).1) ∧ w.cell? ⟨b, off + j * 2 + 1, none⟩ = some (.int .i64 (l[j]).2) := by
  obtain ⟨a, cap, rfl, h1, h2, h3⟩ := h
  rw [List.length_map] at h1 ⊢
  subst hn
  refine ⟨a, cap, rfl, h1, h2, fun j hj => ?_⟩
  obtain ⟨b, off, rfl, hb, hc⟩ := h3 (by rw [List.length_map]; omega)
  have hk := hc j (by simpa using hj)
  refine ⟨b, off, rfl, hb, ?_, ?_⟩
  · have := hk 0 (.string (l[j]).1) (by simp [pc2V]); rwa [Nat.add_zero] at this
  · have := hk 1 (.int .i64 (l[j]).2) (by simp [pc2V]); rwa [← Nat.add_assoc] at this
set_option maxRecDepth 100000 in
set_option maxHeartbeats 4000000 in
theorem samep_bany (l : List (ByteArray × Int)) (u v : Value) (w : World) (hu : Vs 2 w u (l.map pc2V)) (hv : Vs 2 w v (l.map pc2V)) :
    Calls Tryz.prog 28 #[u, v] w fun e w' => e = .returned (.bool true) ∧ Below w.heap.size w w' := by
  obtain ⟨n, hn⟩ : ∃ n, l.length = n := ⟨_, rfl⟩
  obtain ⟨a, cap, rfl, h1, h2, h3⟩ := pcs_getV hu hn
  obtain ⟨a', cap', rfl, h1', h2', h3'⟩ := pcs_getV hv hn
  have H3 := Lib.hid h3
  have H3' := Lib.hid h3'
  have HN := Lib.hid hn
  unfold maxLen at h2 h2'
  clear hu hv h3 h3' hn
  go_enter Tryz.func28, Tryz.ntmps28
  go_wp2
  go_loopw [5] (fun iv wr => ∃ i : Nat, iv = .int .i64 (i : Int) ∧ i ≤ n ∧ Below w.heap.size w wr) (fun iv _ => n - (intOf iv).toNat)
  case atStart => exact ⟨0, rfl, by omega, Below.refl _ _⟩
  case round =>
    obtain ⟨i, rfl, hi, hb⟩ := hrel
    have HB := Lib.hid hb
    clear hb
    by_cases hlt : i < n
    · have hil : i < l.length := by rw [HN.out]; exact hlt
      obtain ⟨b, off, rfl, hbk, p0, p1⟩ := H3.out i hil
      obtain ⟨b', off', rfl, hbk', p2, p3⟩ := H3'.out i hil
      have q0 := (HB.out.cell (p := ⟨b, off + i * 2, none⟩) hbk).trans p0
      have q1 := (HB.out.cell (p := ⟨b, off + i * 2 + 1, none⟩) hbk).trans p1
      have q2 := (HB.out.cell (p := ⟨b', off' + i * 2, none⟩) hbk').trans p2
      have q3 := (HB.out.cell (p := ⟨b', off' + i * 2 + 1, none⟩) hbk').trans p3
      obtain ⟨S0, hS0⟩ : ∃ A, (l[i]).1 = A := ⟨_, rfl⟩
      obtain ⟨f0, hf0⟩ : ∃ A, (l[i]).2 = A := ⟨_, rfl⟩
      rw [hS0] at q0 q2
      rw [hf0] at q1 q3
      have i0 : (0 : Int) ≤ i := by omega
      have i1 : (i : Int) < n := by omega
      have t5 : (S0.toList == S0.toList) = true := by simp
      clear p0 p1 p2 p3 hil hS0 hf0
      go_upto_region 6 with (fail)
      refine wp_region_noPanic ?_
      refine wp_region_held_drew (S := fun V : World => V.cell? ⟨b, off + i * 2, none⟩ = some (.string S0) ∧ V.cell? ⟨b, off + i * 2 + 1, none⟩ = some (.int .i64 f0) ∧ V.cell? ⟨b', off' + i * 2, none⟩ = some (.string S0) ∧ V.cell? ⟨b', off' + i * 2 + 1, none⟩ = some (.int .i64 f0)) (by kernel_rfl) ⟨q0, q1, q2, q3⟩ (fun hS => ?_)
      refine wpAnyH_take (i := 0) (oi := _) (v := ?_) (List.getElem?_toArray.trans (by simp only [List.getElem?_cons_succ, List.getElem?_cons_zero]; exact rfl)) (by kernel_rfl) (by kernel_rfl) (by kernel_rfl) (fun _ _ _ h => h) (Or.inl ⟨by rfl, ?_⟩) (by assumption) ?_
      rotate_left
      · (intro V hSV; (try dsimp only at hSV); (try obtain ⟨s0, s1, s2, s3⟩ := hSV); go_simp; (try rw [if_neg (by omega)]); (try with_reducible rfl))
      try simp only [List.getElem_toArray, List.getElem_cons_succ, List.getElem_cons_zero, Act.put, List.setIfInBounds_toArray, List.set_cons_zero, List.set_cons_succ]
      refine wpAnyH_take (i := 1) (oi := _) (v := ?_) (List.getElem?_toArray.trans (by simp only [List.getElem?_cons_succ, List.getElem?_cons_zero]; exact rfl)) (by kernel_rfl) (by kernel_rfl) (by kernel_rfl) (fun _ _ _ h => h) (Or.inl ⟨by rfl, ?_⟩) (by assumption) ?_
      rotate_left
      · (intro V hSV; (try dsimp only at hSV); (try obtain ⟨s0, s1, s2, s3⟩ := hSV); go_simp; (try rw [if_neg (by omega)]); (try with_reducible rfl))
      try simp only [List.getElem_toArray, List.getElem_cons_succ, List.getElem_cons_zero, Act.put, List.setIfInBounds_toArray, List.set_cons_zero, List.set_cons_succ]
      refine wpAnyH_take (i := 2) (oi := _) (v := ?_) (List.getElem?_toArray.trans (by simp only [List.getElem?_cons_succ, List.getElem?_cons_zero]; exact rfl)) (by kernel_rfl) (by kernel_rfl) (by kernel_rfl) (fun _ _ _ h => h) (Or.inl ⟨by rfl, ?_⟩) (by assumption) ?_
      rotate_left
      · (intro V hSV; (try dsimp only at hSV); (try obtain ⟨s0, s1, s2, s3⟩ := hSV); go_simp; (try rw [if_neg (by omega)]); (try with_reducible rfl))
      try simp only [List.getElem_toArray, List.getElem_cons_succ, List.getElem_cons_zero, Act.put, List.setIfInBounds_toArray, List.set_cons_zero, List.set_cons_succ]
      refine wpAnyH_take (i := 3) (oi := _) (v := ?_) (List.getElem?_toArray.trans (by simp only [List.getElem?_cons_succ, List.getElem?_cons_zero]; exact rfl)) (by kernel_rfl) (by kernel_rfl) (by kernel_rfl) (fun _ _ _ h => h) (Or.inl ⟨by rfl, ?_⟩) (by assumption) ?_
      rotate_left
      · (intro V hSV; (try dsimp only at hSV); (try obtain ⟨s0, s1, s2, s3⟩ := hSV); go_simp; (try rw [if_neg (by omega)]); (try with_reducible rfl))
      try simp only [List.getElem_toArray, List.getElem_cons_succ, List.getElem_cons_zero, Act.put, List.setIfInBounds_toArray, List.set_cons_zero, List.set_cons_succ]
      refine wpAnyH_take (i := 4) (oi := _) (v := ?_) (List.getElem?_toArray.trans (by simp only [List.getElem?_cons_succ, List.getElem?_cons_zero]; exact rfl)) (by kernel_rfl) (by kernel_rfl) (by kernel_rfl) (fun _ _ _ h => h) (Or.inl ⟨by rfl, ?_⟩) (by assumption) ?_
      rotate_left
      · (intro V hSV; (try dsimp only at hSV); (try obtain ⟨s0, s1, s2, s3⟩ := hSV); go_simp; (try rw [if_neg (by omega)]); (try with_reducible rfl))
      try simp only [List.getElem_toArray, List.getElem_cons_succ, List.getElem_cons_zero, Act.put, List.setIfInBounds_toArray, List.set_cons_zero, List.set_cons_succ]
      refine wpAnyH_take (i := 5) (oi := _) (v := ?_) (List.getElem?_toArray.trans (by simp only [List.getElem?_cons_succ, List.getElem?_cons_zero]; exact rfl)) (by kernel_rfl) (by kernel_rfl) (by kernel_rfl) (fun _ _ _ h => h) (Or.inl ⟨by rfl, ?_⟩) (by assumption) ?_
      rotate_left
      · (intro V hSV; (try dsimp only at hSV); (try obtain ⟨s0, s1, s2, s3⟩ := hSV); go_simp; (try rw [if_neg (by omega)]); (try with_reducible rfl))
      try simp only [List.getElem_toArray, List.getElem_cons_succ, List.getElem_cons_zero, Act.put, List.setIfInBounds_toArray, List.set_cons_zero, List.set_cons_succ]
      refine wpAnyH_take (i := 6) (oi := _) (v := ?_) (List.getElem?_toArray.trans (by simp only [List.getElem?_cons_succ, List.getElem?_cons_zero]; exact rfl)) (by kernel_rfl) (by kernel_rfl) (by kernel_rfl) (fun _ _ _ h => h) (Or.inl ⟨by rfl, ?_⟩) (by assumption) ?_
      rotate_left
      · (intro V hSV; (try dsimp only at hSV); (try obtain ⟨s0, s1, s2, s3⟩ := hSV); go_simp; (try rw [if_neg (by omega)]); (try with_reducible rfl))
      try simp only [List.getElem_toArray, List.getElem_cons_succ, List.getElem_cons_zero, Act.put, List.setIfInBounds_toArray, List.set_cons_zero, List.set_cons_succ]
      refine wpAnyH_take (i := 7) (oi := _) (v := ?_) (List.getElem?_toArray.trans (by simp only [List.getElem?_cons_succ, List.getElem?_cons_zero]; exact rfl)) (by kernel_rfl) (by kernel_rfl) (by kernel_rfl) (fun _ _ _ h => h) (Or.inl ⟨by rfl, ?_⟩) (by assumption) ?_
      rotate_left
      · (intro V hSV; (try dsimp only at hSV); (try obtain ⟨s0, s1, s2, s3⟩ := hSV); go_simp; (try rw [if_neg (by omega)]); (try with_reducible rfl))
      try simp only [List.getElem_toArray, List.getElem_cons_succ, List.getElem_cons_zero, Act.put, List.setIfInBounds_toArray, List.set_cons_zero, List.set_cons_succ]
      refine wpAnyH_take (i := 8) (oi := _) (v := ?_) (List.getElem?_toArray.trans (by simp only [List.getElem?_cons_succ, List.getElem?_cons_zero]; exact rfl)) (by kernel_rfl) (by kernel_rfl) (by kernel_rfl) (fun _ _ _ h => h) (Or.inl ⟨by rfl, ?_⟩) (by assumption) ?_
      rotate_left
      · (intro V hSV; (try dsimp only at hSV); (try obtain ⟨s0, s1, s2, s3⟩ := hSV); go_simp; (try rw [if_neg (by omega)]); (try with_reducible rfl))
      try simp only [List.getElem_toArray, List.getElem_cons_succ, List.getElem_cons_zero, Act.put, List.setIfInBounds_toArray, List.set_cons_zero, List.set_cons_succ]
      refine wpAnyH_done (by kernel_rfl) ?_ _
      refine NoPanic.normal ?_
      clear hS
      have e5 := HB.out.drew
      go_wp2
      go_roundw
      case rel => exact ⟨i + 1, by go_num, by omega, e5⟩
      case measure => simp [intOf]; omega
    · obtain rfl : i = n := by omega
      have t1 : decide ((i : Int) < i) = false := by simp
      clear hlt
      go_wp2
      go_ret
      exact ⟨rfl, HB.out⟩
theorem samej_any (l : List Jp) (u v : Value) (w : World) (hu : Vs 2 w u (l.map pcv)) (hv : Vs 2 w v (l.map pcv)) :
    Calls Tryz.prog 28 #[u, v] w fun e w' => e = .returned (.bool true) ∧ Below w.heap.size w w' := by
  have e : l.map pcv = (l.map fun p => (bytes p.1, p.2)).map pc2V := by rw [List.map_map]; rfl
  rw [e] at hu hv
  exact samep_bany _ u v w hu hv
set_option maxRecDepth 100000 in
set_option maxHeartbeats 2000000 in
theorem jright_top (h : Vh) (kids : Vo) (tv v mv : Value) (w : World) (hC : 1 + h.tx.length + h.ms.length + VoC kids ≤ 2097152) (hL : VoL 100000 (.cons h kids .nil)) (ht : HdS w h tv mv) (hv : VoS w v kids) :
    Calls Tryz.prog 45 #[.agg (vv h tv v mv)] w fun e w' => e = .returned (.bool (rightH h kids 60)) ∧ Below w.heap.size w w' := by
  have b0 := Lib.hid ((Below.refl w.heap.size w).alloc (Nat.le_refl _) (.cells (vv h tv v mv) 33))
  have R := Lib.hid (rv_any h kids 60 _ tv v mv (by decide) hC hL (ht.below b0.out) (hv.below b0.out))
  have X := Lib.hid (VB.new w h tv v mv)
  obtain ⟨W1, hW1⟩ : ∃ x, w.alloc (.cells (vv h tv v mv) 33) = x := ⟨_, rfl⟩
  rw [hW1] at b0 R X
  have HW1 := Lib.hid hW1
  obtain ⟨a, c, rfl⟩ := hv.slice
  obtain ⟨ta, tc, htv⟩ := ht.t.slice
  obtain ⟨ma, mc, hmv⟩ := ht.m.slice
  subst htv hmv
  obtain ⟨ans, hans⟩ : ∃ b, rightH h kids 60 = b := ⟨_, rfl⟩
  rw [hans] at R ⊢
  have EXP := Lib.hid (show vv h (.slice ta h.tx.length tc) (.slice a kids.len c) (.slice ma h.ms.length mc) = #[.int .i64 h.k, .slice ta h.tx.length tc, .bool h.ng, .string (bytes h.dg), .string (bytes h.ex), .slice a kids.len c, .int .i64 h.fr, .int .i64 h.tt, .slice ma h.ms.length mc] from rfl)
  have HW2 := Lib.hid HW1.out
  rw [EXP.out] at HW2 ⊢
  clear hW1 hans hv ht hC hL HW1
  go_enter Tryz.func45, Tryz.ntmps45
  go_upto_region 1 with fail
  rw [HW2.out]
  go_wp2_with (first | (refine wpl_ldV rfl _ rfl w.heap.size 0 h _ _ _ rfl X.out.range ?_) | fail)
  refine (R.out).mono ?_
  rintro e w1 ⟨rfl, hb1⟩
  have d1 := b0.out.trans (hb1.mono b0.out.size)
  clear hb1
  go_wp2
  go_ret
  exact ⟨rfl, d1⟩
/-- The pieces of a value, or none. -/
def jpc (h : Vh) (kids : Vo) : List Jp := if rightH h kids 60 = true then pcsV h kids else []
theorem pcsV_count (h : Vh) (kids : Vo) : (pcsV h kids).length ≤ 2 + 3 * VoC kids := by
  have h1 := pcs_count kids h.k h.ms 0
  have h2 := voN_C kids
  unfold pcsV
  split
  · simp only [List.length_cons, List.length_append, List.length_nil]; omega
  · simp only [List.length_singleton]; omega
set_option maxRecDepth 100000 in
set_option maxHeartbeats 4000000 in
theorem jpieces_any (h : Vh) (kids : Vo) (tv v mv : Value) (w : World) (hT : Tabs w) (hC : 1 + h.tx.length + h.ms.length + VoC kids ≤ 100000) (hL : VoL 500 (.cons h kids .nil)) (ht : HdS w h tv mv) (hv : VoS w v kids) :
    Calls Tryz.prog 26 #[.agg (vv h tv v mv)] w fun e w' => ∃ u, e = .returned u ∧ OwnJ w.heap.size w' u (jpc h kids) ∧ Below w.heap.size w w' := by
  have b0 := Lib.hid ((Below.refl w.heap.size w).alloc (Nat.le_refl _) (.cells (vv h tv v mv) 33))
  have R := Lib.hid (jright_top h kids tv v mv _ (by omega) (VoL.mono (by decide) _ hL) (ht.below b0.out) (hv.below b0.out))
  have X := Lib.hid (VB.new w h tv v mv)
  have AP := Lib.hid (fun (hr : rightH h kids 60 = true) W (hW : Below w.heap.size w W) => av_any h kids w 60 w.heap.size W tv v mv (.slice none 0 0) [] hT ht hv hr hC hL hW (Nat.le_refl _) hW.size (ownV_nil _ _ _ _) (by have := pcsV_count h kids; simp only [List.length_nil]; omega))
  obtain ⟨W1, hW1⟩ : ∃ x, w.alloc (.cells (vv h tv v mv) 33) = x := ⟨_, rfl⟩
  rw [hW1] at b0 R X
  have HW1 := Lib.hid hW1
  obtain ⟨a, c, rfl⟩ := hv.slice
  obtain ⟨ta, tc, htv⟩ := ht.t.slice
  obtain ⟨ma, mc, hmv⟩ := ht.m.slice
  subst htv hmv
  have JP := Lib.hid (show jpc h kids = if rightH h kids 60 = true then pcsV h kids else [] from rfl)
  obtain ⟨ans, hans⟩ : ∃ b, rightH h kids 60 = b := ⟨_, rfl⟩
  rw [hans] at R AP JP
  obtain ⟨LJ, hLJ⟩ : ∃ x, jpc h kids = x := ⟨_, rfl⟩
  rw [hLJ] at JP ⊢
  have EXP := Lib.hid (show vv h (.slice ta h.tx.length tc) (.slice a kids.len c) (.slice ma h.ms.length mc) = #[.int .i64 h.k, .slice ta h.tx.length tc, .bool h.ng, .string (bytes h.dg), .string (bytes h.ex), .slice a kids.len c, .int .i64 h.fr, .int .i64 h.tt, .slice ma h.ms.length mc] from rfl)
  have HW2 := Lib.hid HW1.out
  rw [EXP.out] at HW2 ⊢
  clear hW1 hans hv ht hC hL HW1 hT hLJ
  cases ans with
  | false =>
    have hl : LJ = [] := by rw [JP.out]; rfl
    subst hl
    clear JP AP
    go_enter Tryz.func26, Tryz.ntmps26
    go_upto_region 1 with fail
    rw [HW2.out]
    go_wp2_with (first | (refine wpl_ldV rfl _ rfl w.heap.size 0 h _ _ _ rfl X.out.range ?_) | fail)
    refine (R.out).mono ?_
    rintro e w1 ⟨rfl, hb1⟩
    have d1 := b0.out.trans (hb1.mono b0.out.size)
    clear hb1
    go_wp2
    go_ret
    exact ⟨_, rfl, ownV_nil _ _ _ _, d1⟩
  | true =>
    have hl : LJ = pcsV h kids := by rw [JP.out]; rfl
    subst hl
    have AP1 := Lib.hid (AP.out rfl)
    clear JP AP
    go_enter Tryz.func26, Tryz.ntmps26
    go_upto_region 1 with fail
    rw [HW2.out]
    go_wp2_with (first | (refine wpl_ldV rfl _ rfl w.heap.size 0 h _ _ _ rfl X.out.range ?_) | fail)
    refine (R.out).mono ?_
    rintro e w1 ⟨rfl, hb1⟩
    have d1 := b0.out.trans (hb1.mono b0.out.size)
    have X1 := Lib.hid (X.out.keep hb1)
    have A2 := Lib.hid (AP1.out w1 d1)
    clear hb1
    go_wp2_with (first | (refine wpl_ldV rfl _ rfl w.heap.size 0 h _ _ _ rfl X1.out.range ?_) | fail)
    refine (A2.out).mono ?_
    rintro e w2 ⟨l2, rfl, J2⟩
    have d2 := d1.trans J2.bl
    have J3 := Lib.hid J2.own
    clear J2
    go_wp2
    go_ret
    exact ⟨_, rfl, by simpa using J3.out, d2⟩
end Go.Proofs.YtkindbfehflohaaGreatDoor
