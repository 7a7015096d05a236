/- How the program spells a name. -/
import Derived.Test.YtkaojigdogeliaaDoorESpell2
import Derived.Deep.RegionHeld3
namespace Go.Proofs.YtkaojigdogeliaaDoor
open Go.RowKit
set_option linter.unusedVariables false
set_option linter.unusedSimpArgs false

theorem ext_from (l : List UInt8) (k n : Nat) (hn : (bytes l).size = n) : (bytes l).extract k n = bytes (l.drop k) := by
  subst hn
  rw [bytes_size]
  apply ByteArray.ext
  simp [bytes, ByteArray.extract, ByteArray.copySlice, List.take_of_length_le]
theorem ext_to (l : List UInt8) (k : Nat) (h : k ≤ l.length) : (bytes l).extract 0 k = bytes (l.take k) := by
  apply ByteArray.ext
  simp [bytes, ByteArray.extract, ByteArray.copySlice]
theorem cat2 (a b : List UInt8) : bytes a ++ bytes b = bytes (a ++ b) := by
  apply ByteArray.ext
  simp [bytes]
set_option maxRecDepth 100000 in
set_option maxHeartbeats 2000000 in
theorem spell_zero (l t : List UInt8) (w : World) (hT : TabsE w) (hl : l.length ≤ 100000) (h0 : M.headN l = 0) (h45 : l ≠ [45]) (ht : M.encZs (M.spF (M.pn l 0)) = t) :
    Calls Tryd.prog 18 #[.string (bytes l)] w (StP w t) := by
  rw [M.spF_zero l h0 h45] at ht
  have R := Lib.hid (sprest_any l t w hT hl ht)
  have H := Lib.hid (headlen_any l 0 w hl h0)
  have hlen : t.length ≤ 1600000 := by
    have h1 := M.pn_len l l.length 0 (by omega)
    have h2 := spR_bytes_len (M.pn l 0)
    rw [← ht]; omega
  have hne : (bytes l).toList ≠ [45] := by
    intro h
    apply h45
    rw [← bytes_toList l, ← ByteArray.toList_eq]; exact h
  have hsz : (bytes l).size ≤ 100000 := by rw [bytes_size]; exact hl
  have hszt : (bytes t).size ≤ 1600000 := by rw [bytes_size]; exact hlen
  have hext := ext_from l 0 (bytes l).size rfl
  rw [List.drop_zero] at hext
  obtain ⟨S, hS⟩ : ∃ S, bytes l = S := ⟨_, rfl⟩
  obtain ⟨T, hTT⟩ : ∃ S, bytes t = S := ⟨_, rfl⟩
  have HTT := Lib.hid hTT
  unfold StP at R
  rw [hS] at R H hne hsz hext ⊢
  rw [hTT] at R hszt
  have q1 : (S.toList == [45]) = false := by rw [beq_eq_false_iff_ne]; exact hne
  clear hS ht hT h0 h45 hlen hne hTT
  go_enter Tryd.func18, Tryd.ntmps18
  go_wp2_with fail
  refine (H.out).mono ?_
  rintro e w' ⟨rfl, rfl⟩
  go_wp2_with (simp only [hext])
  refine (R.out).mono ?_
  rintro e w2 ⟨rfl, hb⟩
  have HF : Hid (StP w t (.returned (.string T)) w2) := Lib.hid ⟨by rw [HTT.out], hb⟩
  clear hb
  go_wp2
  go_ret
  exact HF.out
theorem tz_drew {w : World} (h : TzCell w) : TzCell w.drew := h
set_option maxRecDepth 100000 in
set_option maxHeartbeats 2000000 in
theorem spell_one (c : UInt8) (l t : List UInt8) (w : World) (hT : TabsE w) (hl : (c :: l).length ≤ 100000) (hd : M.nDg c.toNat = true) (ht : M.encZs (M.spF (M.pn (c :: l) 0)) = t) :
    Calls Tryd.prog 18 #[.string (bytes (c :: l))] w (StP w t) := by
  rw [M.spF_one c l hd, M.encZs_append] at ht
  have hC := M.dg_num _ hd
  have H := Lib.hid (headlen_any (c :: l) 1 w hl (by simp [M.headN, hd]))
  obtain ⟨u, hu⟩ : ∃ u, M.encZs (M.spR (M.pn l 0)) = u := ⟨_, rfl⟩
  rw [hu] at ht
  have R := Lib.hid (fun W hW => sprest_any l u W hW (by simp at hl; omega) hu)
  have N := Lib.hid (fun W hW => enum_any c.toNat W hW (by omega))
  have hlen : u.length ≤ 1600000 := by
    have h1 := M.pn_len l l.length 0 (by omega)
    have h2 := spR_bytes_len (M.pn l 0)
    simp at hl
    rw [← hu]; omega
  have hlenn : (M.encZs (M.numN c.toNat)).length ≤ 100 := by
    have h1 := (M.encZs_len (M.numN c.toNat)).2
    have h2 : (M.numN (c.toNat : Int)).length ≤ 4 := by unfold M.numN M.hexd; split <;> simp
    omega
  have hne : (bytes (c :: l)).toList ≠ [45] := by
    intro h
    rw [ByteArray.toList_eq, bytes_toList] at h
    simp at h
    rw [h.1] at hd
    exact absurd hd (by decide)
  have hsz : (bytes (c :: l)).size ≤ 100000 := by rw [bytes_size]; exact hl
  have hp0 : 0 < (bytes (c :: l)).size := by rw [bytes_size]; simp
  have a0 := s_at (c :: l) 0 c rfl hp0
  have hszt : (bytes u).size ≤ 1600000 := by rw [bytes_size]; exact hlen
  have hszn : (bytes (M.encZs (M.numN c.toNat))).size ≤ 100 := by rw [bytes_size]; exact hlenn
  have hext := ext_from (c :: l) 1 (bytes (c :: l)).size rfl
  have hext0 := ext_to (c :: l) 0 (by omega)
  rw [List.take_zero] at hext0
  rw [List.drop_succ_cons, List.drop_zero] at hext
  have hcat := cat2 (M.encZs (M.numN c.toNat)) u
  rw [ht] at hcat
  unfold StP at R
  obtain ⟨S, hS⟩ : ∃ S, bytes (c :: l) = S := ⟨_, rfl⟩
  obtain ⟨T, hTT⟩ : ∃ S, bytes u = S := ⟨_, rfl⟩
  obtain ⟨L, hL⟩ : ∃ S, bytes l = S := ⟨_, rfl⟩
  obtain ⟨D, hD⟩ : ∃ S, bytes (M.encZs (M.numN c.toNat)) = S := ⟨_, rfl⟩
  have Hcat := Lib.hid hcat
  obtain ⟨C, hCC⟩ : ∃ C : Int, (c.toNat : Int) = C := ⟨_, rfl⟩
  rw [hCC] at hD hC N
  simp only [hCC] at hszn Hcat
  simp only [hS] at H hne hsz hp0 a0 hext hext0 ⊢
  simp only [hTT] at R hszt Hcat
  simp only [hL] at R hext
  simp only [hD] at N hszn Hcat
  have b0 : S[0]'hp0 = c := a0
  have q1 : (S.toList == [45]) = false := by rw [beq_eq_false_iff_ne]; exact hne
  have C0 : 0 ≤ C := by omega
  have C1 : C < 128 := by omega
  have wz : IntKind.i64.wrap 0 = 0 := by decide +kernel
  have wC : IntKind.i64.wrap C = C := IntWalk.i64_in _ (by omega)
  have i0 : (0 : Int) < S.size := by omega
  have i00 : (0 : Int) ≤ S.size := by omega
  have e0 : bytes [] ++ D = D := by apply ByteArray.ext; simp [bytes]
  have HT := Lib.hid hT
  have Hext := Lib.hid hext
  clear a0 hS ht hT hne hTT hL hD hcat hC hd hext hu hlen hlenn
  go_enter Tryd.func18, Tryd.ntmps18
  go_wp2_with fail
  refine (H.out).mono ?_
  rintro e w' ⟨rfl, rfl⟩
  go_wp2
  refine wp_region_noPanic ?_
  refine wp_region_held_drew (S := fun _ => True) (by kernel_rfl) trivial (fun hS => ?_)
  refine wpAnyH_take (i := 0) (oi := _) (v := ?_) (List.getElem?_toArray.trans (by simp only [List.getElem?_cons_succ, List.getElem?_cons_zero]; exact rfl)) (by kernel_rfl) (by kernel_rfl) (by kernel_rfl) (fun _ _ _ h => h) (Or.inl ⟨by rfl, ?_⟩) (by assumption) ?_
  rotate_left
  · (intro V hSV; (try dsimp only at hSV); go_simp; (try rw [if_neg (by omega)]); (try with_reducible rfl))
  try simp only [List.getElem_toArray, List.getElem_cons_succ, List.getElem_cons_zero, Act.put, List.setIfInBounds_toArray, List.set_cons_zero, List.set_cons_succ]
  refine wpAnyH_take (i := 1) (oi := _) (v := ?_) (List.getElem?_toArray.trans (by simp only [List.getElem?_cons_succ, List.getElem?_cons_zero]; exact rfl)) (by kernel_rfl) (by kernel_rfl) (by kernel_rfl) (fun _ _ _ h => h) (Or.inl ⟨by rfl, ?_⟩) (by assumption) ?_
  rotate_left
  · (intro V hSV; (try dsimp only at hSV); go_simp; (try rw [if_neg (by omega)]); (try with_reducible rfl))
  try simp only [List.getElem_toArray, List.getElem_cons_succ, List.getElem_cons_zero, Act.put, List.setIfInBounds_toArray, List.set_cons_zero, List.set_cons_succ]
  refine wpAnyH_take (i := 2) (oi := _) (v := ?_) (List.getElem?_toArray.trans (by simp only [List.getElem?_cons_succ, List.getElem?_cons_zero]; exact rfl)) (by kernel_rfl) (by kernel_rfl) (by kernel_rfl) (fun _ _ _ h => h) (Or.inl ⟨by rfl, ?_⟩) (by assumption) ?_
  rotate_left
  · (intro V hSV; (try dsimp only at hSV); go_simp; (try rw [if_neg (by omega)]); (try with_reducible rfl))
  try simp only [List.getElem_toArray, List.getElem_cons_succ, List.getElem_cons_zero, Act.put, List.setIfInBounds_toArray, List.set_cons_zero, List.set_cons_succ]
  refine wpAnyH_take (i := 3) (oi := _) (v := ?_) (List.getElem?_toArray.trans (by simp only [List.getElem?_cons_succ, List.getElem?_cons_zero]; exact rfl)) (by kernel_rfl) (by kernel_rfl) (by kernel_rfl) (fun _ _ _ h => h) (Or.inl ⟨by rfl, ?_⟩) (by assumption) ?_
  rotate_left
  · (intro V hSV; (try dsimp only at hSV); go_simp; (try rw [if_neg (by omega)]); (try with_reducible rfl))
  try simp only [List.getElem_toArray, List.getElem_cons_succ, List.getElem_cons_zero, Act.put, List.setIfInBounds_toArray, List.set_cons_zero, List.set_cons_succ]
  refine wpAnyH_take (i := 4) (oi := _) (v := ?_) (List.getElem?_toArray.trans (by simp only [List.getElem?_cons_succ, List.getElem?_cons_zero]; exact rfl)) (by kernel_rfl) (by kernel_rfl) (by kernel_rfl) (fun _ _ _ h => h) (Or.inl ⟨by rfl, ?_⟩) (by assumption) ?_
  rotate_left
  · (intro V hSV; (try dsimp only at hSV); go_simp; (try rw [if_neg (by omega)]); (try with_reducible rfl))
  try simp only [List.getElem_toArray, List.getElem_cons_succ, List.getElem_cons_zero, Act.put, List.setIfInBounds_toArray, List.set_cons_zero, List.set_cons_succ]
  refine wpAnyH_take (i := 5) (oi := _) (v := ?_) (List.getElem?_toArray.trans (by simp only [List.getElem?_cons_succ, List.getElem?_cons_zero]; exact rfl)) (by kernel_rfl) (by kernel_rfl) (by kernel_rfl) (fun _ _ _ h => h) (Or.inl ⟨by rfl, ?_⟩) (by assumption) ?_
  rotate_left
  · (intro V hSV; (try dsimp only at hSV); go_simp; (try rw [if_neg (by omega)]); (try with_reducible rfl))
  try simp only [List.getElem_toArray, List.getElem_cons_succ, List.getElem_cons_zero, Act.put, List.setIfInBounds_toArray, List.set_cons_zero, List.set_cons_succ]
  refine wpAnyH_take (i := 6) (oi := _) (v := ?_) (List.getElem?_toArray.trans (by simp only [List.getElem?_cons_succ, List.getElem?_cons_zero]; exact rfl)) (by kernel_rfl) (by kernel_rfl) (by kernel_rfl) (fun _ _ _ h => h) (Or.inl ⟨by rfl, ?_⟩) (by assumption) ?_
  rotate_left
  · (intro V hSV; (try dsimp only at hSV); go_simp; (try rw [if_neg (by omega)]); (try with_reducible rfl))
  try simp only [List.getElem_toArray, List.getElem_cons_succ, List.getElem_cons_zero, Act.put, List.setIfInBounds_toArray, List.set_cons_zero, List.set_cons_succ]
  refine wpAnyH_take (i := 7) (oi := _) (v := ?_) (List.getElem?_toArray.trans (by simp only [List.getElem?_cons_succ, List.getElem?_cons_zero]; exact rfl)) (by kernel_rfl) (by kernel_rfl) (by kernel_rfl) (fun _ _ _ h => h) (Or.inl ⟨by rfl, ?_⟩) (by assumption) ?_
  rotate_left
  · (intro V hSV; (try dsimp only at hSV); go_simp; (try rw [if_neg (by omega)]); (try with_reducible rfl))
  try simp only [List.getElem_toArray, List.getElem_cons_succ, List.getElem_cons_zero, Act.put, List.setIfInBounds_toArray, List.set_cons_zero, List.set_cons_succ]
  refine wpAnyH_take (i := 8) (oi := _) (v := ?_) (List.getElem?_toArray.trans (by simp only [List.getElem?_cons_succ, List.getElem?_cons_zero]; exact rfl)) (by kernel_rfl) (by kernel_rfl) (by kernel_rfl) (fun _ _ _ h => h) (Or.inl ⟨by rfl, ?_⟩) (by assumption) ?_
  rotate_left
  · (intro V hSV; (try dsimp only at hSV); go_simp; (try rw [if_neg (by omega)]); (try with_reducible rfl))
  try simp only [List.getElem_toArray, List.getElem_cons_succ, List.getElem_cons_zero, Act.put, List.setIfInBounds_toArray, List.set_cons_zero, List.set_cons_succ]
  refine wpAnyH_ready (rs := [9]) (by kernel_rfl) (by simp) ?_
  refine AllReadyH.cons rfl (fun K hK => ?_) AllReadyH.nil
  go_simp
  refine (N.out _ (tz_drew HT.out.2)).mono ?_
  rintro e w5 ⟨rfl, hb5⟩
  refine hK.out _ _ (trivial) (fun hS => ?_)
  clear hK K
  try simp only [List.getElem_toArray, List.getElem_cons_succ, List.getElem_cons_zero, Act.put, List.setIfInBounds_toArray, List.set_cons_zero, List.set_cons_succ]
  refine wpAnyH_take (i := 10) (oi := _) (v := ?_) (List.getElem?_toArray.trans (by simp only [List.getElem?_cons_succ, List.getElem?_cons_zero]; exact rfl)) (by kernel_rfl) (by kernel_rfl) (by kernel_rfl) (fun _ _ _ h => h) (Or.inl ⟨by rfl, ?_⟩) (by assumption) ?_
  rotate_left
  · (intro V hSV; (try dsimp only at hSV); go_simp; (try rw [if_neg (by omega)]); (try with_reducible rfl))
  try simp only [List.getElem_toArray, List.getElem_cons_succ, List.getElem_cons_zero, Act.put, List.setIfInBounds_toArray, List.set_cons_zero, List.set_cons_succ]
  refine wpAnyH_take (i := 11) (oi := _) (v := ?_) (List.getElem?_toArray.trans (by simp only [List.getElem?_cons_succ, List.getElem?_cons_zero]; exact rfl)) (by kernel_rfl) (by kernel_rfl) (by kernel_rfl) (fun _ _ _ h => h) (Or.inl ⟨by rfl, ?_⟩) (by assumption) ?_
  rotate_left
  · (intro V hSV; (try dsimp only at hSV); go_simp; (try rw [if_neg (by omega)]); (try with_reducible rfl))
  try simp only [List.getElem_toArray, List.getElem_cons_succ, List.getElem_cons_zero, Act.put, List.setIfInBounds_toArray, List.set_cons_zero, List.set_cons_succ]
  refine wpAnyH_done (by kernel_rfl) ?_ _
  refine NoPanic.normal ?_
  have hb6 : Below w.heap.size w w5 := ((Below.refl w.heap.size w).drew).trans hb5
  have hb6z := hb6.size
  clear hb5
  have hext := Hext.out
  go_wp2_with (simp only [hext])
  refine (R.out _ (HT.out.keep hb6)).mono ?_
  rintro e w7 ⟨rfl, hb7⟩
  have hcat := Hcat.out
  have HF : Hid (StP w t (.returned (.string (bytes t))) w7) := Lib.hid ⟨rfl, hb6.trans (hb7.mono hb6z)⟩
  clear hb6 hb7
  go_wp2
  go_ret
  exact HF.out
set_option maxRecDepth 100000 in
set_option maxHeartbeats 2000000 in
theorem spell_two (c : UInt8) (l t : List UInt8) (w : World) (hT : TabsE w) (hl : (45 :: c :: l).length ≤ 100000) (hd : M.nDg c.toNat = true) (ht : M.encZs (M.spF (M.pn (45 :: c :: l) 0)) = t) :
    Calls Tryd.prog 18 #[.string (bytes (45 :: c :: l))] w (StP w t) := by
  rw [M.spF_two c l hd, M.encZs_append, M.encZs_cons, M.enc_ascii 45 (by decide) (by decide)] at ht
  change [45] ++ _ ++ _ = t at ht
  have hC := M.dg_num _ hd
  have H := Lib.hid (headlen_any (45 :: c :: l) 2 w hl (by simp [M.headN, hd, show M.nDg 45 = false from by decide]))
  obtain ⟨u, hu⟩ : ∃ u, M.encZs (M.spR (M.pn l 0)) = u := ⟨_, rfl⟩
  rw [hu] at ht
  have R := Lib.hid (fun W hW => sprest_any l u W hW (by simp at hl; omega) hu)
  have N := Lib.hid (fun W hW => enum_any c.toNat W hW (by omega))
  have hlen : u.length ≤ 1600000 := by
    have h1 := M.pn_len l l.length 0 (by omega)
    have h2 := spR_bytes_len (M.pn l 0)
    simp at hl
    rw [← hu]; omega
  have hlenn : (M.encZs (M.numN c.toNat)).length ≤ 100 := by
    have h1 := (M.encZs_len (M.numN c.toNat)).2
    have h2 : (M.numN (c.toNat : Int)).length ≤ 4 := by unfold M.numN M.hexd; split <;> simp
    omega
  have hne : (bytes (45 :: c :: l)).toList ≠ [45] := by
    intro h
    rw [ByteArray.toList_eq, bytes_toList] at h
    simp at h
  have hsz : (bytes (45 :: c :: l)).size ≤ 100000 := by rw [bytes_size]; exact hl
  have hp0 : 1 < (bytes (45 :: c :: l)).size := by rw [bytes_size]; simp
  have a0 := s_at (45 :: c :: l) 1 c rfl hp0
  have hszt : (bytes u).size ≤ 1600000 := by rw [bytes_size]; exact hlen
  have hszn : (bytes (M.encZs (M.numN c.toNat))).size ≤ 100 := by rw [bytes_size]; exact hlenn
  have hext := ext_from (45 :: c :: l) 2 (bytes (45 :: c :: l)).size rfl
  have hext0 := ext_to (45 :: c :: l) 1 (by simp)
  rw [List.take_succ_cons, List.take_zero] at hext0
  rw [List.drop_succ_cons, List.drop_succ_cons, List.drop_zero] at hext
  have hcat := cat3 [45] (M.encZs (M.numN c.toNat)) u
  rw [ht] at hcat
  have h45 : (bytes [45]).size = 1 := by rw [bytes_size]; rfl
  unfold StP at R
  obtain ⟨S, hS⟩ : ∃ S, bytes (45 :: c :: l) = S := ⟨_, rfl⟩
  obtain ⟨T, hTT⟩ : ∃ S, bytes u = S := ⟨_, rfl⟩
  obtain ⟨L, hL⟩ : ∃ S, bytes l = S := ⟨_, rfl⟩
  obtain ⟨D, hD⟩ : ∃ S, bytes (M.encZs (M.numN c.toNat)) = S := ⟨_, rfl⟩
  have Hcat := Lib.hid hcat
  obtain ⟨C, hCC⟩ : ∃ C : Int, (c.toNat : Int) = C := ⟨_, rfl⟩
  rw [hCC] at hD hC N
  simp only [hCC] at hszn Hcat
  simp only [hS] at H hne hsz hp0 a0 hext hext0 ⊢
  simp only [hTT] at R hszt Hcat
  simp only [hL] at R hext
  simp only [hD] at N hszn Hcat
  have b0 : S[1]'hp0 = c := a0
  obtain ⟨Z, hZ⟩ : ∃ S, bytes [45] = S := ⟨_, rfl⟩
  simp only [hZ] at hext0 h45 Hcat
  have q1 : (S.toList == [45]) = false := by rw [beq_eq_false_iff_ne]; exact hne
  have C0 : 0 ≤ C := by omega
  have C1 : C < 128 := by omega
  have wz : IntKind.i64.wrap 1 = 1 := by decide +kernel
  have wC : IntKind.i64.wrap C = C := IntWalk.i64_in _ (by omega)
  have i0 : (1 : Int) < S.size := by omega
  have i00 : (1 : Int) ≤ S.size := by omega
  have HT := Lib.hid hT
  have Hext := Lib.hid hext
  clear hZ a0 hS ht hT hne hTT hL hD hcat hC hd hext hu hlen hlenn
  go_enter Tryd.func18, Tryd.ntmps18
  go_wp2_with fail
  refine (H.out).mono ?_
  rintro e w' ⟨rfl, rfl⟩
  go_wp2
  refine wp_region_noPanic ?_
  refine wp_region_held_drew (S := fun _ => True) (by kernel_rfl) trivial (fun hS => ?_)
  refine wpAnyH_take (i := 0) (oi := _) (v := ?_) (List.getElem?_toArray.trans (by simp only [List.getElem?_cons_succ, List.getElem?_cons_zero]; exact rfl)) (by kernel_rfl) (by kernel_rfl) (by kernel_rfl) (fun _ _ _ h => h) (Or.inl ⟨by rfl, ?_⟩) (by assumption) ?_
  rotate_left
  · (intro V hSV; (try dsimp only at hSV); go_simp; (try rw [if_neg (by omega)]); (try with_reducible rfl))
  try simp only [List.getElem_toArray, List.getElem_cons_succ, List.getElem_cons_zero, Act.put, List.setIfInBounds_toArray, List.set_cons_zero, List.set_cons_succ]
  refine wpAnyH_take (i := 1) (oi := _) (v := ?_) (List.getElem?_toArray.trans (by simp only [List.getElem?_cons_succ, List.getElem?_cons_zero]; exact rfl)) (by kernel_rfl) (by kernel_rfl) (by kernel_rfl) (fun _ _ _ h => h) (Or.inl ⟨by rfl, ?_⟩) (by assumption) ?_
  rotate_left
  · (intro V hSV; (try dsimp only at hSV); go_simp; (try rw [if_neg (by omega)]); (try with_reducible rfl))
  try simp only [List.getElem_toArray, List.getElem_cons_succ, List.getElem_cons_zero, Act.put, List.setIfInBounds_toArray, List.set_cons_zero, List.set_cons_succ]
  refine wpAnyH_take (i := 2) (oi := _) (v := ?_) (List.getElem?_toArray.trans (by simp only [List.getElem?_cons_succ, List.getElem?_cons_zero]; exact rfl)) (by kernel_rfl) (by kernel_rfl) (by kernel_rfl) (fun _ _ _ h => h) (Or.inl ⟨by rfl, ?_⟩) (by assumption) ?_
  rotate_left
  · (intro V hSV; (try dsimp only at hSV); go_simp; (try rw [if_neg (by omega)]); (try with_reducible rfl))
  try simp only [List.getElem_toArray, List.getElem_cons_succ, List.getElem_cons_zero, Act.put, List.setIfInBounds_toArray, List.set_cons_zero, List.set_cons_succ]
  refine wpAnyH_take (i := 3) (oi := _) (v := ?_) (List.getElem?_toArray.trans (by simp only [List.getElem?_cons_succ, List.getElem?_cons_zero]; exact rfl)) (by kernel_rfl) (by kernel_rfl) (by kernel_rfl) (fun _ _ _ h => h) (Or.inl ⟨by rfl, ?_⟩) (by assumption) ?_
  rotate_left
  · (intro V hSV; (try dsimp only at hSV); go_simp; (try rw [if_neg (by omega)]); (try with_reducible rfl))
  try simp only [List.getElem_toArray, List.getElem_cons_succ, List.getElem_cons_zero, Act.put, List.setIfInBounds_toArray, List.set_cons_zero, List.set_cons_succ]
  refine wpAnyH_take (i := 4) (oi := _) (v := ?_) (List.getElem?_toArray.trans (by simp only [List.getElem?_cons_succ, List.getElem?_cons_zero]; exact rfl)) (by kernel_rfl) (by kernel_rfl) (by kernel_rfl) (fun _ _ _ h => h) (Or.inl ⟨by rfl, ?_⟩) (by assumption) ?_
  rotate_left
  · (intro V hSV; (try dsimp only at hSV); go_simp; (try rw [if_neg (by omega)]); (try with_reducible rfl))
  try simp only [List.getElem_toArray, List.getElem_cons_succ, List.getElem_cons_zero, Act.put, List.setIfInBounds_toArray, List.set_cons_zero, List.set_cons_succ]
  refine wpAnyH_take (i := 5) (oi := _) (v := ?_) (List.getElem?_toArray.trans (by simp only [List.getElem?_cons_succ, List.getElem?_cons_zero]; exact rfl)) (by kernel_rfl) (by kernel_rfl) (by kernel_rfl) (fun _ _ _ h => h) (Or.inl ⟨by rfl, ?_⟩) (by assumption) ?_
  rotate_left
  · (intro V hSV; (try dsimp only at hSV); go_simp; (try rw [if_neg (by omega)]); (try with_reducible rfl))
  try simp only [List.getElem_toArray, List.getElem_cons_succ, List.getElem_cons_zero, Act.put, List.setIfInBounds_toArray, List.set_cons_zero, List.set_cons_succ]
  refine wpAnyH_take (i := 6) (oi := _) (v := ?_) (List.getElem?_toArray.trans (by simp only [List.getElem?_cons_succ, List.getElem?_cons_zero]; exact rfl)) (by kernel_rfl) (by kernel_rfl) (by kernel_rfl) (fun _ _ _ h => h) (Or.inl ⟨by rfl, ?_⟩) (by assumption) ?_
  rotate_left
  · (intro V hSV; (try dsimp only at hSV); go_simp; (try rw [if_neg (by omega)]); (try with_reducible rfl))
  try simp only [List.getElem_toArray, List.getElem_cons_succ, List.getElem_cons_zero, Act.put, List.setIfInBounds_toArray, List.set_cons_zero, List.set_cons_succ]
  refine wpAnyH_take (i := 7) (oi := _) (v := ?_) (List.getElem?_toArray.trans (by simp only [List.getElem?_cons_succ, List.getElem?_cons_zero]; exact rfl)) (by kernel_rfl) (by kernel_rfl) (by kernel_rfl) (fun _ _ _ h => h) (Or.inl ⟨by rfl, ?_⟩) (by assumption) ?_
  rotate_left
  · (intro V hSV; (try dsimp only at hSV); go_simp; (try rw [if_neg (by omega)]); (try with_reducible rfl))
  try simp only [List.getElem_toArray, List.getElem_cons_succ, List.getElem_cons_zero, Act.put, List.setIfInBounds_toArray, List.set_cons_zero, List.set_cons_succ]
  refine wpAnyH_take (i := 8) (oi := _) (v := ?_) (List.getElem?_toArray.trans (by simp only [List.getElem?_cons_succ, List.getElem?_cons_zero]; exact rfl)) (by kernel_rfl) (by kernel_rfl) (by kernel_rfl) (fun _ _ _ h => h) (Or.inl ⟨by rfl, ?_⟩) (by assumption) ?_
  rotate_left
  · (intro V hSV; (try dsimp only at hSV); go_simp; (try rw [if_neg (by omega)]); (try with_reducible rfl))
  try simp only [List.getElem_toArray, List.getElem_cons_succ, List.getElem_cons_zero, Act.put, List.setIfInBounds_toArray, List.set_cons_zero, List.set_cons_succ]
  refine wpAnyH_ready (rs := [9]) (by kernel_rfl) (by simp) ?_
  refine AllReadyH.cons rfl (fun K hK => ?_) AllReadyH.nil
  go_simp
  refine (N.out _ (tz_drew HT.out.2)).mono ?_
  rintro e w5 ⟨rfl, hb5⟩
  refine hK.out _ _ (trivial) (fun hS => ?_)
  clear hK K
  try simp only [List.getElem_toArray, List.getElem_cons_succ, List.getElem_cons_zero, Act.put, List.setIfInBounds_toArray, List.set_cons_zero, List.set_cons_succ]
  refine wpAnyH_take (i := 10) (oi := _) (v := ?_) (List.getElem?_toArray.trans (by simp only [List.getElem?_cons_succ, List.getElem?_cons_zero]; exact rfl)) (by kernel_rfl) (by kernel_rfl) (by kernel_rfl) (fun _ _ _ h => h) (Or.inl ⟨by rfl, ?_⟩) (by assumption) ?_
  rotate_left
  · (intro V hSV; (try dsimp only at hSV); go_simp; (try rw [if_neg (by omega)]); (try with_reducible rfl))
  try simp only [List.getElem_toArray, List.getElem_cons_succ, List.getElem_cons_zero, Act.put, List.setIfInBounds_toArray, List.set_cons_zero, List.set_cons_succ]
  refine wpAnyH_take (i := 11) (oi := _) (v := ?_) (List.getElem?_toArray.trans (by simp only [List.getElem?_cons_succ, List.getElem?_cons_zero]; exact rfl)) (by kernel_rfl) (by kernel_rfl) (by kernel_rfl) (fun _ _ _ h => h) (Or.inl ⟨by rfl, ?_⟩) (by assumption) ?_
  rotate_left
  · (intro V hSV; (try dsimp only at hSV); go_simp; (try rw [if_neg (by omega)]); (try with_reducible rfl))
  try simp only [List.getElem_toArray, List.getElem_cons_succ, List.getElem_cons_zero, Act.put, List.setIfInBounds_toArray, List.set_cons_zero, List.set_cons_succ]
  refine wpAnyH_done (by kernel_rfl) ?_ _
  refine NoPanic.normal ?_
  have hb6 : Below w.heap.size w w5 := ((Below.refl w.heap.size w).drew).trans hb5
  have hb6z := hb6.size
  clear hb5
  have hext := Hext.out
  go_wp2_with (simp only [hext])
  refine (R.out _ (HT.out.keep hb6)).mono ?_
  rintro e w7 ⟨rfl, hb7⟩
  have hcat := Hcat.out
  have HF : Hid (StP w t (.returned (.string (bytes t))) w7) := Lib.hid ⟨rfl, hb6.trans (hb7.mono hb6z)⟩
  clear hb6 hb7
  go_wp2
  go_ret
  exact HF.out
set_option maxRecDepth 100000 in
set_option maxHeartbeats 1000000 in
theorem spell_dash (t : List UInt8) (w : World) (ht : M.encZs (M.spF (M.pn [45] 0)) = t) : Calls Tryd.prog 18 #[.string (bytes [45])] w (StP w t) := by
  have e : t = [92, 45] := by
    rw [← ht, M.spF_dash, M.encZs_cons, M.encZs_cons, M.encZs_nil, M.enc_ascii 92 (by decide) (by decide), M.enc_ascii 45 (by decide) (by decide)]; rfl
  subst e
  have hne : (bytes [45]).toList = [45] := by rw [ByteArray.toList_eq, bytes_toList]
  have q1 : ((bytes [45]).toList == [45]) = true := by rw [hne]; rfl
  obtain ⟨S, hS⟩ : ∃ S, bytes [45] = S := ⟨_, rfl⟩
  rw [hS] at q1 ⊢
  have HF : Hid (StP w [92, 45] (.returned (.string ⟨#[92, 45]⟩)) w) := Lib.hid ⟨rfl, Below.refl _ _⟩
  clear ht hne hS
  go_enter Tryd.func18, Tryd.ntmps18
  go_wp2
  go_ret
  exact HF.out
/-- How the program spells a name, whatever it is. -/
theorem spell_any (l t : List UInt8) (w : World) (hT : TabsE w) (hl : l.length ≤ 100000) (ht : M.encZs (M.spF (M.pn l 0)) = t) :
    Calls Tryd.prog 18 #[.string (bytes l)] w (StP w t) := by
  by_cases h45 : l = [45]
  · subst h45; exact spell_dash t w ht
  by_cases h0 : M.headN l = 0
  · exact spell_zero l t w hT hl h0 h45 ht
  match l, hl, ht, h0 with
  | [], _, _, h0 => exact absurd rfl h0
  | c :: l, hl, ht, h0 =>
    by_cases hd : M.nDg c.toNat = true
    · exact spell_one c l t w hT hl hd ht
    · match l, hl, ht, h0 with
      | [], _, _, h0 => exact absurd (by simp [M.headN, hd]) h0
      | d :: l, hl, ht, h0 =>
        by_cases hc : c.toNat = 45 ∧ M.nDg d.toNat = true
        · obtain rfl : c = 45 := UInt8.toNat_inj.1 hc.1
          exact spell_two d l t w hT hl hc.2 ht
        · exact absurd (by simp only [M.headN]; rw [if_neg hd, if_neg hc]) h0
end Go.Proofs.YtkaojigdogeliaaDoor
