/- Documents of any shape: the page's own answers: without new lines; how wide. -/
import Derived.Test.YtehofomfblfhaaaTRef1
import Derived.Test.YtehofomfblfhaaaRNext
import Derived.Test.YtehofomfblfhaaaTMath
import Derived.Test.YtehofomfblfhaaaMgB
import Derived.Laws.Concat
import Derived.Lib.RuneCount
namespace Go.Proofs.Ytehofomfblfhaaa
open Go.RowKit
set_option linter.unusedVariables false
set_option linter.unusedSimpArgs false

theorem bytes_addT (a b : List UInt8) : bytes a ++ bytes b = bytes (a ++ b) := by unfold bytes; rw [ByteArray.mk_append_mk]
/-- What the page's flat gives. -/
def flatG (T : List UInt8 × Bool) : Value := if T.2 = true then .tuple #[.string (bytes T.1), .bool true] else .tuple #[.string ⟨#[]⟩, .bool false]
def RFl (k f : Int) (s : ByteArray) (kids : Fo) : Prop :=
  ∀ (d : Nat) (w : World) (v : Value), FoS w v kids → rightD k f s kids d = true → s.size + 1 + FoSz kids ≤ 1048576 → Calls Try.prog 29 #[.agg (dv k f s v)] w fun e w' => e = .returned (flatG (flatD k s kids)) ∧ Below w.heap.size w w'
theorem right_at (L : Fo) (d : Nat) (h : rightF L d = true) : ∀ j k f s kids, L.at? j = some (k, f, s, kids) → rightD k f s kids d = true := by
  intro j k f s kids hj
  cases hr : rightD k f s kids d with
  | true => rfl
  | false => rw [rightF_false d L j k f s kids hj hr] at h; exact h
theorem fo_nil_len (L : Fo) (h : L.len = 0) : L = .nil := by
  cases L with
  | nil => rfl
  | cons _ _ _ _ _ => simp [Fo.len] at h
set_option maxRecDepth 100000 in
set_option maxHeartbeats 2000000 in
theorem rfl_leaf (k f : Int) (s : ByteArray) (a : Option Addr) (n c : Nat) (w : World) (hk : k = 1 ∨ k = 2 ∨ k = 3 ∨ k = 4) (T : List UInt8 × Bool) (hT : (if k = 1 then (s.data.toList, true) else if k = 2 then ([32], true) else if k = 3 then ([], true) else ([], false)) = T) :
    Calls Try.prog 29 #[.agg (dv k f s (.slice a n c))] w fun e w' => e = .returned (flatG T) ∧ Below w.heap.size w w' := by
  have b0 : Hid (∀ o, Below w.heap.size w (w.alloc o)) := Lib.hid fun o => (Below.refl _ _).alloc (Nat.le_refl _) o
  subst hT
  unfold dv
  rcases hk with rfl | rfl | rfl | rfl
  · have e : bytes s.data.toList = s := by simp [bytes]
    have HG := Lib.hid (show flatG (if (1 : Int) = 1 then (s.data.toList, true) else if (1 : Int) = 2 then ([32], true) else if (1 : Int) = 3 then ([], true) else ([], false)) = .tuple #[.string s, .bool true] by simp [flatG, e])
    rw [HG.out]
    clear e
    go_enter Try.func29, Try.ntmps29
    go_wp2
    go_ret2
    exact ⟨rfl, b0.out _⟩
  all_goals (
    go_enter Try.func29, Try.ntmps29
    go_wp2
    go_ret2
    exact ⟨rfl, b0.out _⟩)
set_option maxRecDepth 100000 in
set_option maxHeartbeats 4000000 in
theorem rfl_node (k : Int) (f : Int) (S : ByteArray) (L : Fo) (RF0 : ∀ j k f s kids, L.at? j = some (k, f, s, kids) → RFl k f s kids) (d : Nat) (hr : rightF L d = true) (v : Value) (w : World) (hv : FoS w v L) (hk : k = 5 ∨ k = 6 ∨ k = 7) (hsz : FoSz L ≤ 1048576) :
    Calls Try.prog 29 #[.agg (dv k f S v)] w fun e w' => e = .returned (flatG (flatF L)) ∧ Below w.heap.size w w' := by
  obtain ⟨a, cap, rfl, h1, h2, h3, h4⟩ := hv
  obtain ⟨n, hn⟩ : ∃ n, L.len = n := ⟨_, rfl⟩
  have hll : n ≤ maxLen := by rw [← hn]; exact Nat.le_trans h1 h2
  have HR := Lib.hid (fun j k f s kids (h : L.at? j = some (k, f, s, kids)) W v hv => RF0 j k f s kids h d W v hv (right_at L d hr j k f s kids h))
  have HN := Lib.hid hn
  have FW0 := Lib.hid (show FlW L L 0 [] true from ⟨by omega, fun i => by rw [Nat.zero_add], by simp, by simp⟩)
  rw [hn] at h4
  have H4 := Lib.hid h4
  unfold maxLen at hll
  rw [hn]
  obtain ⟨T, hT⟩ : ∃ T, flatF L = T := ⟨_, rfl⟩
  have HT := Lib.hid hT
  rw [hT]
  have HSZ := Lib.hid hsz
  have b0 := Lib.hid ((Below.refl w.heap.size w).alloc (Nat.le_refl _) (.cells #[.int .i64 k, .int .i64 f, .string S, .slice a n cap] 24))
  obtain ⟨W1, hW1⟩ : ∃ W, w.alloc (.cells #[.int .i64 k, .int .i64 f, .string S, .slice a n cap] 24) = W := ⟨_, rfl⟩
  rw [hW1] at b0
  have c0 : W1.cell? ⟨w.heap.size, 0, none⟩ = some (.int .i64 k) := by rw [← hW1, World.cell?_alloc_at _ _ _ _ rfl]; rfl
  have c3 : W1.cell? ⟨w.heap.size, 3, none⟩ = some (.slice a n cap) := by rw [← hW1, World.cell?_alloc_at _ _ _ _ rfl]; rfl
  have z1 : w.heap.size < W1.heap.size := by rw [← hW1]; simp
  have HW1 := Lib.hid hW1
  have C3 := Lib.hid c3
  have k1 : (k == 1) = false := by simp; omega
  have k2 : (k == 2) = false := by simp; omega
  have k3 : (k == 3) = false := by simp; omega
  have k4 : (k == 4) = false := by simp; omega
  clear hn RF0 h3 h4 hW1 hT c3 hk hsz hr h1 h2
  unfold dv
  go_enter Try.func29, Try.ntmps29
  go_upto_region 1 with fail
  rw [HW1.out]
  go_wp2
  go_loopw [4, 5, 6, 7] (fun sv iv _ _ wr => ∃ (j : Nat) (R : Fo) (acc : List UInt8), iv = .int .i64 (j : Int) ∧ j ≤ n ∧ sv = .string (bytes acc) ∧ FlW L R j acc true ∧ Below W1.heap.size W1 wr) (fun _ iv _ _ _ => n - (intOf iv).toNat)
  case atStart => exact ⟨0, L, [], rfl, by omega, rfl, FW0.out, Below.refl _ _⟩
  case round =>
    obtain ⟨j, R, acc, rfl, hj, rfl, hfw, hb⟩ := hrel
    have HB := Lib.hid (b0.out.trans (hb.mono b0.out.size))
    have HBR := Lib.hid hb
    have c3r := (hb.cell (p := ⟨w.heap.size, 3, none⟩) z1).trans C3.out
    clear hb
    by_cases hlt : j < n
    · cases R with
      | nil => exfalso; have := hfw.1; have := HN.out; simp [Fo.len] at *; omega
      | cons x0 x1 X kids rest =>
        obtain ⟨fw2, hat, hlen⟩ := hfw.go
        obtain ⟨b, off, rfl, hbk, hfo⟩ := H4.out (by omega)
        obtain ⟨-, q0, q1, q2, u, q3, hu⟩ := foAt_get L b off j x0 x1 X kids hfo hat
        have R1 := Lib.hid (HR.out j x0 x1 X kids hat wr u (hu.keep HB.out) (by have := HSZ.out; omega))
        obtain ⟨ua, ucap, hus⟩ := hu.slice
        obtain ⟨un, hun⟩ : ∃ m, kids.len = m := ⟨_, rfl⟩
        rw [hun] at hus
        subst hus
        have g0 := (HB.out.cell (p := ⟨b, off + j * 4, none⟩) hbk).trans q0
        have g1 := (HB.out.cell (p := ⟨b, off + j * 4 + 1, none⟩) hbk).trans q1
        have g2 := (HB.out.cell (p := ⟨b, off + j * 4 + 2, none⟩) hbk).trans q2
        have g3 := (HB.out.cell (p := ⟨b, off + j * 4 + 3, none⟩) hbk).trans q3
        have j0 : (0 : Int) ≤ j := by omega
        have j1 : (j : Int) < n := by omega
        have FW2 := Lib.hid fw2
        unfold dv at R1
        obtain ⟨⟨t, ok⟩, hto⟩ : ∃ x, flatD x0 X kids = x := ⟨_, rfl⟩
        have hln := flatD_len x0 X kids
        rw [hto] at R1 FW2 hln
        simp only at FW2 hln
        have hadd : Hid (bytes acc ++ bytes t = bytes (acc ++ t)) := Lib.hid (bytes_addT acc t)
        have hz : (bytes acc).size + (bytes t).size ≤ 9223372036854775807 := by
          rw [bytes_size, bytes_size]
          have := HSZ.out
          omega
        have PA := fun W => run_string_add_sum (P := Try.prog) W (bytes acc) (bytes t) hz
        clear q0 q1 q2 q3 hat hfo hu hun hfw fw2 hlen hto hln hz
        cases ok with
        | true =>
          obtain ⟨A0, hA0⟩ : ∃ A, bytes acc = A := ⟨_, rfl⟩
          obtain ⟨A1, hA1⟩ : ∃ A, bytes t = A := ⟨_, rfl⟩
          have e1 : flatG (t, true) = .tuple #[.string A1, .bool true] := by rw [← hA1]; rfl
          rw [e1] at R1
          rw [hA0, hA1] at hadd PA
          rw [hA0]
          clear e1 hA0 hA1
          as_aux_lemma =>
            go_wp2_with fail
            refine (R1.out).mono ?_
            rintro e w2 ⟨rfl, hb2⟩
            have e2 := HBR.out.trans (hb2.mono HBR.out.size)
            clear hb2
            go_wp2
            go_roundw
            case rel => exact ⟨j + 1, rest, acc ++ t, by go_num, by omega, by rw [hadd.out], FW2.out, e2⟩
            case measure => simp [intOf]; omega
        | false =>
          have hfin : flatG T = .tuple #[.string ⟨#[]⟩, .bool false] := by rw [← HT.out]; have := FW2.out.2.2.2; simp at this; rw [this]; rfl
          rw [show flatG (t, false) = .tuple #[.string ⟨#[]⟩, .bool false] from rfl] at R1
          have HFIN := Lib.hid hfin
          clear PA hfin
          as_aux_lemma =>
            go_wp2_with fail
            refine (R1.out).mono ?_
            rintro e w2 ⟨rfl, hb2⟩
            have e2 := HBR.out.trans (hb2.mono HBR.out.size)
            have e3 := b0.out.trans (e2.mono b0.out.size)
            clear hb2
            go_wp2
            go_ret2
            exact ⟨congrArg Ending.returned HFIN.out.symm, e3⟩
    · obtain rfl : j = n := by omega
      have t1 : decide ((j : Int) < j) = false := by simp
      have hnil : R = .nil := by
        have h1 := hfw.1
        have h2 := HN.out
        cases R with
        | nil => rfl
        | cons _ _ _ _ _ => simp [Fo.len] at h1; omega
      subst hnil
      have hfin : T = (acc, true) := by rw [← HT.out]; have := hfw.2.2.2; simpa [flatF] using this
      subst hfin
      clear hlt hfw
      as_aux_lemma =>
        go_wp2
        go_ret2
        exact ⟨rfl, HB.out⟩
theorem rfl_one (k f : Int) (s : ByteArray) (kids : Fo) (RF0 : ∀ j k f s kids', kids.at? j = some (k, f, s, kids') → RFl k f s kids') : RFl k f s kids := by
  intro d w v hv hr hsz
  have hv' := hv
  obtain ⟨a, c, rfl⟩ := hv.slice
  rw [rightD_is] at hr
  by_cases h1 : k = 1
  · exact rfl_leaf k f s a _ c w (.inl h1) _ (by unfold flatD; rw [if_pos h1, if_pos h1])
  by_cases h2 : k = 2
  · exact rfl_leaf k f s a _ c w (by omega) _ (by unfold flatD; rw [if_neg h1, if_neg h1, if_pos h2, if_pos h2])
  by_cases h4 : k = 4
  · exact rfl_leaf k f s a _ c w (by omega) _ (by unfold flatD; rw [if_neg h1, if_neg h1, if_neg h2, if_neg h2, if_neg (by omega), if_pos h4])
  by_cases h3 : k = 3
  · have hz : kids.len = 0 := by
      rw [if_neg h1, if_pos (by omega)] at hr
      have := (Bool.and_eq_true_iff.1 hr).2
      simpa using this
    have := fo_nil_len kids hz
    subst this
    exact rfl_leaf k f s a _ c w (by omega) _ (by unfold flatD; rw [if_neg h1, if_neg h1, if_neg h2, if_neg h2, if_pos h3, if_neg h4]; rfl)
  · rw [if_neg h1, if_neg (by omega)] at hr
    by_cases h5 : k = 5 ∨ k = 6 ∨ k = 7
    · rw [if_pos h5] at hr
      have e : flatD k s kids = flatF kids := by unfold flatD; rw [if_neg h1, if_neg h2, if_neg h4]
      rw [e]
      exact rfl_node k f s kids RF0 (d - 1) (Bool.and_eq_true_iff.1 hr).2 _ w hv' h5 (by omega)
    · rw [if_neg h5] at hr
      exact absurd hr (by simp)
theorem rfl_list (L : Fo) : ∀ j k f s kids, L.at? j = some (k, f, s, kids) → RFl k f s kids := by
  induction L with
  | nil => intro j k f s kids h; simp [Fo.at?] at h
  | cons k0 f0 s0 kids0 rest ih1 ih2 =>
    intro j k f s kids h
    cases j with
    | zero =>
      simp only [Fo.at?, Option.some.injEq, Prod.mk.injEq] at h
      obtain ⟨rfl, rfl, rfl, rfl⟩ := h
      exact rfl_one k0 f0 s0 kids0 ih1
    | succ j => exact ih2 j k f s kids h
theorem rfl_any (k f : Int) (s : ByteArray) (kids : Fo) : RFl k f s kids := rfl_one k f s kids (rfl_list kids)
set_option maxRecDepth 100000 in
set_option maxHeartbeats 2000000 in
theorem refflat_any (k f : Int) (s : ByteArray) (kids : Fo) (v : Value) (w : World) (hv : FoS w v kids) (hsz : s.size + 1 + FoSz kids ≤ 1048576) :
    Calls Try.prog 21 #[.agg (dv k f s v)] w fun e w' => e = .returned (flatV k f s kids) ∧ Below w.heap.size w w' := by
  have hv' := hv
  have R := Lib.hid (fun W (hW : Below w.heap.size w W) => refright_any k f s kids v W (hv'.keep hW))
  have AF := Lib.hid (fun (h : rightD k f s kids 200 = true) W (hW : Below w.heap.size w W) => rfl_any k f s kids 200 W v (hv'.keep hW) h hsz)
  obtain ⟨a, c, rfl⟩ := hv.slice
  have b0 := Lib.hid ((Below.refl w.heap.size w).alloc (Nat.le_refl _) (.cells #[.int .i64 k, .int .i64 f, .string s, .slice a kids.len c] 24))
  obtain ⟨n, hn⟩ : ∃ n, kids.len = n := ⟨_, rfl⟩
  have e0 : flatV k f s kids = if rightD k f s kids 200 = true then flatG (flatD k s kids) else .tuple #[.string ⟨#[]⟩, .bool false] := by
    unfold flatV flatG
    by_cases h1 : rightD k f s kids 200 = true
    · by_cases h2 : (flatD k s kids).2 = true
      · rw [if_pos ⟨h1, h2⟩, if_pos h1, if_pos h2]
      · rw [if_neg (fun h => h2 h.2), if_pos h1, if_neg h2]
    · rw [if_neg (fun h => h1 h.1), if_neg h1]
  rw [e0]
  rw [hn] at R AF b0 ⊢
  generalize rightD k f s kids 200 = ans at R AF ⊢
  generalize flatD k s kids = T at AF ⊢
  clear hv hv' hn hsz e0
  unfold dv at R AF ⊢
  cases ans with
  | false =>
    rw [if_neg (by simp)]
    go_enter Try.func21, Try.ntmps21
    go_wp2_with fail
    refine (R.out _ b0.out).mono ?_
    rintro e w1 ⟨rfl, hb1⟩
    have d1 := b0.out.trans (hb1.mono b0.out.size)
    clear hb1
    go_wp2
    go_ret2
    exact ⟨rfl, d1⟩
  | true =>
    have AF1 := Lib.hid (AF.out rfl)
    clear AF
    rw [if_pos rfl]
    obtain ⟨t, ok⟩ := T
    obtain ⟨x, y, hxy⟩ : ∃ x y, flatG (t, ok) = .tuple #[.string x, .bool y] := by unfold flatG; split <;> exact ⟨_, _, rfl⟩
    rw [hxy] at AF1 ⊢
    clear hxy
    go_enter Try.func21, Try.ntmps21
    go_wp2_with fail
    refine (R.out _ b0.out).mono ?_
    rintro e w1 ⟨rfl, hb1⟩
    obtain ⟨g0, g1, g2, g3, d1⟩ := keep4 hb1
    clear hb1
    go_wp2_with fail
    refine (AF1.out _ d1).mono ?_
    rintro e w2 ⟨rfl, hb2⟩
    have hfin := d1.trans (hb2.mono d1.size)
    clear hb2 d1
    go_wp2
    go_ret2
    exact ⟨rfl, hfin⟩
end Go.Proofs.Ytehofomfblfhaaa
