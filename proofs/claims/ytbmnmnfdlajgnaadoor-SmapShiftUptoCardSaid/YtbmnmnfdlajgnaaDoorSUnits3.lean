/- Units of a name: units.Append, smap.unitsOf, smap.Write. -/
import Derived.Test.YtbmnmnfdlajgnaaDoorSMaps
import Derived.Test.YtbmnmnfdlajgnaaDoorJSpell
import Derived.Test.YtbmnmnfdlajgnaaDoorJLaw3
import Derived.Test.YtbmnmnfdlajgnaaDoorKMath
import Derived.Test.YtbmnmnfdlajgnaaDoorUNx
import Derived.Test.YtbmnmnfdlajgnaaDoorRMath
import Derived.Test.YtbmnmnfdlajgnaaDoorUConv
import Derived.Test.YtbmnmnfdlajgnaaDoorIBase
namespace Go.Proofs.YtbmnmnfdlajgnaaDoor
open Go.RowKit
set_option linter.unusedVariables false
set_option linter.unusedSimpArgs false

/-- The units of bytes. -/
def unitsL (l : List UInt8) : List Nat := if h : l = [] then [] else M.pairU (M.dec l).1 ++ unitsL (l.drop (M.dec l).2)
termination_by l.length
decreasing_by
  have h1 := M.dec_width l
  have h2 : 0 < l.length := List.length_pos_iff.2 h
  simp only [List.length_drop]
  omega
theorem unitsL_nil (l : List UInt8) (h : l.length = 0) : unitsL l = [] := by
  rw [unitsL]; rw [dif_pos (List.length_eq_zero_iff.1 h)]
theorem unitsL_cons (l : List UInt8) (h : 0 < l.length) : unitsL l = M.pairU (M.dec l).1 ++ unitsL (l.drop (M.dec l).2) := by
  conv => lhs; rw [unitsL]
  rw [dif_neg (List.length_pos_iff.1 h)]
theorem pairU_two (r : Nat) : (M.pairU r).length ≤ 2 := by unfold M.pairU; split <;> simp
theorem pairU_le (r : Nat) (h : r ≤ 1114111) : ∀ u ∈ M.pairU r, u ≤ 65535 := by
  intro u hu
  unfold M.pairU at hu
  split at hu
  · simp at hu; omega
  · simp at hu; omega
theorem unitsL_le : ∀ (n : Nat) (l : List UInt8), l.length ≤ n → ∀ u ∈ unitsL l, u ≤ 65535 := by
  intro n
  induction n with
  | zero => intro l h u hu; rw [unitsL_nil l (by omega)] at hu; simp at hu
  | succ n ih =>
    intro l h u hu
    by_cases h0 : 0 < l.length
    · rw [unitsL_cons l h0] at hu
      rcases List.mem_append.1 hu with hu | hu
      · exact pairU_le _ (M.dec_rune l) u hu
      · exact ih _ (by have := M.dec_width l; simp only [List.length_drop]; omega) u hu
    · rw [unitsL_nil l (by omega)] at hu; simp at hu
theorem sand1023 (n : Int) (h0 : 0 ≤ n) (h1 : n ≤ 1114111) : bits .and .i64 n 1023 = n % 1024 := bits_mask .i64 62 (by decide) (fun n h₀ h₁ => by rw [IntKind.wrap_i64]; omega) 10 (by decide) n h0 (by omega)
set_option maxRecDepth 100000 in
set_option maxHeartbeats 1000000 in
theorem uapp_any (B : Nat) (v : Value) (l : List Nat) (r : Nat) (t : List Nat) (w : World) (ho : OwnI B w v (iN l)) (hr : r ≤ 1114111) (hl : l.length ≤ 2097152) (hB : B ≤ w.heap.size) (ht : l ++ M.pairU r = t) :
    Calls Tryd.prog 40 #[v, .int .i64 (r : Int)] w fun e w' => ∃ v', e = .returned v' ∧ OwnI B w' v' (iN t) ∧ Below B w w' := by
  unfold M.pairU at ht
  obtain ⟨R, hR⟩ : ∃ R : Int, (r : Int) = R := ⟨_, rfl⟩
  have R0 : 0 ≤ R := by omega
  have R1 : R ≤ 1114111 := by omega
  have Ho := Lib.hid ho
  by_cases h : r < 65536
  · rw [if_pos h] at ht
    have h' : R < 65536 := by omega
    have e : iN l ++ [R] = iN t := by rw [← ht, iN_append]; simp [iN, hR]
    have He := Lib.hid e
    rw [hR]
    clear e hR h ht ho hr
    go_enter Tryd.func40, Tryd.ntmps40
    go_wp2_with (at_builtin; refine wpl_appendI rfl _ _ rfl B _ (.slice (some ⟨w.heap.size, 0, none⟩) 1 1) (iN l) [R] (iN t) rfl (ownsRow_keep Ho.out ((Below.refl _ _).alloc (Nat.le_refl _) _)) rfl (is_one w _) (nn_some _ _ _) (by rw [iN_len]; simp; omega) (by simp; omega) He.out ?_)
    intro v3 w3 ho3 hb3
    have hb4 := ((Below.refl B w).alloc hB _).trans hb3
    clear hb3
    go_wp2
    go_ret
    exact ⟨_, rfl, ho3, hb4⟩
  · rw [if_neg h] at ht
    have h' : 65536 ≤ R := by omega
    have hand := sand1023 (R - 65536) (by omega) (by omega)
    have hand2 : (0 : Int) ≤ (R - 65536) % 1024 := by omega
    have hand3 : (R - 65536) % 1024 < 1024 := by omega
    have hd2 : (0 : Int) ≤ (R - 65536) / 1024 := by omega
    have hd3 : (R - 65536) / 1024 < 1024 := by omega
    have e : iN l ++ [55296 + (R - 65536) / 1024, 56320 + (R - 65536) % 1024] = iN t := by
      rw [← ht, iN_append]
      congr 1
      simp only [iN, List.map_cons, List.map_nil]
      have q1 : ((55296 + (r - 65536) / 1024 : Nat) : Int) = 55296 + (R - 65536) / 1024 := by omega
      have q2 : ((56320 + (r - 65536) % 1024 : Nat) : Int) = 56320 + (R - 65536) % 1024 := by omega
      rw [q1, q2]
    have He := Lib.hid e
    rw [hR]
    clear e hR h ht ho hr
    go_enter Tryd.func40, Tryd.ntmps40
    go_wp2_with (at_builtin; refine wpl_appendI rfl _ _ rfl B _ (.slice (some ⟨w.heap.size, 0, none⟩) 2 2) (iN l) [55296 + (R - 65536) / 1024, 56320 + (R - 65536) % 1024] (iN t) rfl (ownsRow_keep Ho.out ((Below.refl _ _).alloc (Nat.le_refl _) _)) rfl (is_two w _ _) (nn_some _ _ _) (by rw [iN_len]; simp; omega) (by simp; omega) He.out ?_)
    intro v3 w3 ho3 hb3
    have hb4 := ((Below.refl B w).alloc hB _).trans hb3
    clear hb3
    go_wp2
    go_ret
    exact ⟨_, rfl, ho3, hb4⟩
set_option maxRecDepth 100000 in
set_option maxHeartbeats 4000000 in
theorem unitsof_any (s : ByteArray) (l : List UInt8) (U : List Nat) (w : World) (hT : Tabs w) (hs : s.data.toList = l) (hl : l.length ≤ 400000) (hU : unitsL l = U) :
    Calls Tryd.prog 26 #[.string s] w fun e w' => ∃ v', e = .returned v' ∧ Is w' v' (iN U) ∧ U.length ≤ 2 * l.length + 8 ∧ Below w.heap.size w w' := by
  have hsz : s.size = l.length := by rw [← hs]; rfl
  have hconv := bw_conv w s
  have hbw := bw_below w s
  have hbs := bw_bs w s (by omega)
  rw [hs] at hbs
  have hsw := bw_size w s
  obtain ⟨n, hn⟩ : ∃ n, l.length = n := ⟨_, rfl⟩
  rw [hn] at hsz hl
  rw [hsz] at hbs hconv
  obtain ⟨W1, hW1⟩ : ∃ W, Lib.bytesWorld w 5 s = W := ⟨_, rfl⟩
  rw [hW1] at hconv hbw hbs hsw
  obtain ⟨V, hV⟩ : ∃ V, Value.slice (some ⟨w.heap.size, 0, none⟩) n (grownCap w n 0 5) = V := ⟨_, rfl⟩
  have HTB := Lib.hid (hT.keep hbw)
  have HBS := Lib.hid hbs
  have HBW := Lib.hid hbw
  have HN := Lib.hid hn
  have HU := Lib.hid hU
  clear hbw hbs hs hsz hn hU hT hW1 hV
  go_enter Tryd.func26, Tryd.ntmps26
  go_wp2
  go_loopw [4, 5, 6, 7, 8] (fun ov iv _ _ _ wr => ∃ (i : Nat) (pre : List Nat), iv = .int .i64 (i : Int) ∧ i ≤ n + 4 ∧ pre ++ unitsL (l.drop i) = U ∧ pre.length ≤ 2 * i ∧ OwnI W1.heap.size wr ov (iN pre) ∧ Below W1.heap.size W1 wr) (fun _ iv _ _ _ _ => n - (intOf iv).toNat)
  case atStart => exact ⟨0, [], rfl, by omega, by simpa using HU.out, by simp, World.ownsRow_nil _ _ _ _, Below.refl _ _⟩
  case round =>
    obtain ⟨i, pre, rfl, hi, hpre, hpl, ho, hb1⟩ := hrel
    have hsz := hb1.size
    by_cases hlt : i < n
    · have hil : i < l.length := by rw [HN.out]; exact hlt
      have hil2 : 0 < (l.drop i).length := by simp only [List.length_drop]; omega
      rw [unitsL_cons _ hil2, List.drop_drop] at hpre
      obtain ⟨ok, hnx⟩ : ∃ ok, M.nextAt l i = (((M.dec (l.drop i)).1 : Int), ((M.dec (l.drop i)).2 : Int), ok) := by
        rw [M.nextAt_in l i hil]
        unfold M.nx
        by_cases hb : M.dec (l.drop i) = (65533, 1)
        · rw [if_pos hb, hb]; exact ⟨false, rfl⟩
        · rw [if_neg hb]; exact ⟨true, rfl⟩
      have hw := M.dec_width (l.drop i)
      have hr := M.dec_rune (l.drop i)
      obtain ⟨r, hr'⟩ : ∃ r, (M.dec (l.drop i)).1 = r := ⟨_, rfl⟩
      obtain ⟨m, hm'⟩ : ∃ r, (M.dec (l.drop i)).2 = r := ⟨_, rfl⟩
      rw [hr'] at hpre hnx hr
      rw [hm'] at hpre hnx hw
      rw [← List.append_assoc] at hpre
      have N1 := next_any (.slice (some ⟨w.heap.size, 0, none⟩) n (grownCap w n 0 5)) l i _ wr (HTB.out.keep hb1) (HBS.out.keep hb1) (by rw [HN.out]; omega) hnx
      unfold tri at N1
      dsimp only at N1
      have hp2 := pairU_two r
      have HP := Lib.hid hpre
      have N1' := Lib.hid N1
      have i1 : (i : Int) < n := by omega
      clear hpre hnx hr' hm' N1 hlt
      obtain ⟨RI, hRI⟩ : ∃ R : Int, (r : Int) = R := ⟨_, rfl⟩
      have UA := Lib.hid (fun (v : Value) (W : World) (ho : OwnI W1.heap.size W v (iN pre)) (hs : W1.heap.size ≤ W.heap.size) => uapp_any W1.heap.size v pre r _ W ho hr (by omega) hs rfl)
      rw [hRI] at N1' UA
      clear hRI
      go_wp2_with fail
      refine N1'.out.mono ?_
      rintro e w2 ⟨rfl, hb2⟩
      have ho2 := ownsRow_keep ho hb2
      have hb4 := hb1.trans (hb2.mono hsz)
      have hs3 := hb4.size
      clear ho hb1 hb2
      go_wp2_with fail
      refine (UA.out _ w2 ho2 hs3).mono ?_
      rintro e w3 ⟨v3, rfl, ho4, hb5⟩
      have hb7 := hb4.trans hb5
      clear hb4 hb5 ho2
      go_wp2
      go_roundw
      case rel => exact ⟨i + m, pre ++ M.pairU r, by go_num, by omega, HP.out, by simp; omega, ho4, hb7⟩
      case measure => simp [intOf]; omega
    · have hu := unitsL_nil (l.drop i) (by simp only [List.length_drop]; rw [HN.out]; omega)
      rw [hu, List.append_nil] at hpre
      subst hpre
      have hfin := HBW.out.trans (hb1.mono (by omega))
      have his := OwnI.is ho
      clear hu
      go_wp2
      go_ret
      exact ⟨_, rfl, his, by rw [HN.out]; omega, hfin⟩
end Go.Proofs.YtbmnmnfdlajgnaaDoor
