import Derived.Test.YtimjbjppmhdjnaaGreatDoorWTk
import Derived.Test.YtimjbjppmhdjnaaGreatDoorWSpell
import Derived.Test.YtimjbjppmhdjnaaGreatDoorWRead
import Derived.Test.YtimjbjppmhdjnaaGreatDoorWList
set_option maxHeartbeats 4000000
set_option maxRecDepth 100000
namespace Go.Proofs.YtimjbjppmhdjnaaGreatDoor
open Go.RowKit
set_option linter.unusedVariables false
set_option linter.unusedSimpArgs false
def Is13 (b : Nat) (k : Value) (v1 v2 v3 v4 v5 v6 v7 v8 v9 v10 v11 v12 : Value) (W : World) : Prop := W.cell? ⟨b, 0, none⟩ = some k /\ W.cell? ⟨b, 1, none⟩ = some v1 /\ W.cell? ⟨b, 2, none⟩ = some v2 /\ W.cell? ⟨b, 3, none⟩ = some v3 /\ W.cell? ⟨b, 4, none⟩ = some v4 /\ W.cell? ⟨b, 5, none⟩ = some v5 /\ W.cell? ⟨b, 6, none⟩ = some v6 /\ W.cell? ⟨b, 7, none⟩ = some v7 /\ W.cell? ⟨b, 8, none⟩ = some v8 /\ W.cell? ⟨b, 9, none⟩ = some v9 /\ W.cell? ⟨b, 10, none⟩ = some v10 /\ W.cell? ⟨b, 11, none⟩ = some v11 /\ W.cell? ⟨b, 12, none⟩ = some v12
theorem Is13.keep {b : Nat} {k v1 v2 v3 v4 v5 v6 v7 v8 v9 v10 v11 v12 : Value} {w w' : World} (h : Is13 b k v1 v2 v3 v4 v5 v6 v7 v8 v9 v10 v11 v12 w) (hb : Below w.heap.size w w') : Is13 b k v1 v2 v3 v4 v5 v6 v7 v8 v9 v10 v11 v12 w' := by
 have hl : b < w.heap.size := by have := World.block_lt_of_cell? _ _ h.1; simpa using this
 have key : ∀ j u, w.cell? ⟨b, j, none⟩ = some u -> w'.cell? ⟨b, j, none⟩ = some u := fun j u hu => (hb.cell (p := ⟨b, j, none⟩) hl).trans hu
 obtain ⟨h0, h1, h2, h3, h4, h5, h6, h7, h8, h9, h10, h11, h12⟩ := h
 exact ⟨key _ _ h0, key _ _ h1, key _ _ h2, key _ _ h3, key _ _ h4, key _ _ h5, key _ _ h6, key _ _ h7, key _ _ h8, key _ _ h9, key _ _ h10, key _ _ h11, key _ _ h12⟩
theorem readsback_any (g : GT) (r : Bool) (w : World) (hT : Tabs w) (hs : Small g.1) (hr : readsG (M.spellT g.1) [g] = r) (hl : (M.spellT g.1).length <= 39000) :
  Calls Tryz.prog 16 #[.agg (gtv g)] w fun e w' => e = .returned (.bool r) /\ Below w.heap.size w w' := by
 have HT := Lib.hid hT
 obtain ⟨t, ht⟩ : ∃ t, M.spellT g.1 = t := ⟨_, rfl⟩
 have S1 := Lib.hid (fun W hW => strip_StP' (spellt_any g t W hW hs ht))
 rw [ht] at hr hl
 have R1 := Lib.hid (fun W v hW hv hnn => reads_any t v [g] r W hW hv hnn hl (by simp) (by intro x hx; simp at hx; subst hx; have := hs.1; omega) hr)
 obtain ⟨⟨k, text, unit, ⟨n0, n1, n2⟩, flag, sign⟩, ⟨c0, c1, c2, c3⟩, z⟩ := g
 have e1 := gtv_lit k text unit n0 n1 n2 flag sign c0 c1 c2 c3 z
 have one := fun W => one_tokG' W (⟨k, text, unit, (n0, n1, n2), flag, sign⟩, (c0, c1, c2, c3), z)
 rw [e1] at S1 one ⊢
 obtain ⟨TB, hTB⟩ : ∃ S, bytes text = S := ⟨_, rfl⟩
 obtain ⟨UB, hUB⟩ : ∃ S, bytes unit = S := ⟨_, rfl⟩
 obtain ⟨N1, hN1⟩ : ∃ S, bytes n1 = S := ⟨_, rfl⟩
 obtain ⟨N2, hN2⟩ : ∃ S, bytes n2 = S := ⟨_, rfl⟩
 rw [hTB, hUB, hN1, hN2] at S1 one ⊢
 obtain ⟨SB, hSB⟩ : ∃ S, bytes t = S := ⟨_, rfl⟩
 rw [hSB] at S1 R1
 have ONE := Lib.hid one
 clear hT hs e1 hTB hUB hN1 hN2 ht hr hSB hl one
 obtain ⟨W0, hW0⟩ : ∃ W, w.alloc (.cells #[.int .i64 k, .string TB, .string UB, .bool n0, .string N1, .string N2, .bool flag, .bool sign, .int .i64 c0, .int .i64 c1, .int .i64 c2, .int .i64 c3, .int .i64 z] 33) = W := ⟨_, rfl⟩
 have hcs : CB W0 w.heap.size #[.int .i64 k, .string TB, .string UB, .bool n0, .string N1, .string N2, .bool flag, .bool sign, .int .i64 c0, .int .i64 c1, .int .i64 c2, .int .i64 c3, .int .i64 z] := by rw [<- hW0]; exact CB.new _ _
 have B1 : Hid (Below w.heap.size w W0) := Lib.hid (by rw [<- hW0]; exact (Below.refl _ _).alloc (Nat.le_refl _) _)
 have HW0 := Lib.hid hW0
 clear hW0
 go_enter Tryz.func16, Tryz.ntmps16
 go_upto_region 1 with (fail)
 rw [HW0.out]
 refine wp_region_noPanic ?_
 refine wp_region_held_drew (S := Is13 (w.heap.size) (.int .i64 k) (.string TB) (.string UB) (.bool n0) (.string N1) (.string N2) (.bool flag) (.bool sign) (.int .i64 c0) (.int .i64 c1) (.int .i64 c2) (.int .i64 c3) (.int .i64 z)) (by kernel_rfl) ⟨hcs.cell 0, hcs.cell 1, hcs.cell 2, hcs.cell 3, hcs.cell 4, hcs.cell 5, hcs.cell 6, hcs.cell 7, hcs.cell 8, hcs.cell 9, hcs.cell 10, hcs.cell 11, hcs.cell 12⟩ (fun hS => ?_)
 refine rtk 0 ?_
 refine rtk 2 ?_
 refine wpAnyH_ready (rs := [1, 3]) (by kernel_rfl) (by simp) ?_
 refine AllReadyH.cons rfl (fun K hK => ?_) (AllReadyH.cons rfl (fun K hK => ?_) AllReadyH.nil)
 ·go_simp
  refine (S1.out _ (HT.out.keep B1.out.drew)).mono ?_
  rintro e w5 ⟨rfl, hb5⟩
  refine hK.out _ _ (Is13.keep hS hb5) (fun hS => ?_)
  clear hK K
  have B5 := Lib.hid (B1.out.drew.trans (hb5.mono B1.out.drew.size))
  clear hb5
  refine wpAnyH_ready (rs := [3]) (by kernel_rfl) (by simp) ?_
  refine AllReadyH.cons rfl (fun K hK => ?_) AllReadyH.nil
  go_simp
  refine hK.out _ _ (Is13.keep hS ((Below.refl _ _).alloc (Nat.le_refl _) _)) (fun hS => ?_)
  clear hK K
  have B6 := Lib.hid (B5.out.alloc B5.out.size (.cells #[.int .i64 k, .string TB, .string UB, .bool n0, .string N1, .string N2, .bool flag, .bool sign, .int .i64 c0, .int .i64 c1, .int .i64 c2, .int .i64 c3, .int .i64 z] 33))
  refine wpAnyH_ready (rs := [4]) (by kernel_rfl) (by simp) ?_
  refine AllReadyH.cons rfl (fun K hK => ?_) AllReadyH.nil
  go_simp
  refine (R1.out _ _ (HT.out.keep B6.out) (ONE.out w5) (nnv_some _ _ _)).mono ?_
  rintro e w7 ⟨rfl, hb7⟩
  refine hK.out _ _ (Is13.keep hS hb7) (fun hS => ?_)
  clear hK K
  have HF := Lib.hid (B6.out.trans (hb7.mono B6.out.size))
  clear hb7
  refine rtk 5 ?_
  refine wpAnyH_done (by kernel_rfl) ?_ _
  refine NoPanic.normal ?_
  go_wp2
  go_ret
  exact ⟨rfl, HF.out⟩
 ·go_simp
  refine hK.out _ _ (Is13.keep (w := W0) hS (((Below.refl W0.heap.size W0).alloc (Nat.le_refl _) _).drew)) (fun hS => ?_)
  clear hK K
  have B6 := Lib.hid ((B1.out.alloc B1.out.size (.cells #[.int .i64 k, .string TB, .string UB, .bool n0, .string N1, .string N2, .bool flag, .bool sign, .int .i64 c0, .int .i64 c1, .int .i64 c2, .int .i64 c3, .int .i64 z] 33)).drew)
  have HG := Lib.hid ((ONE.out W0).keep (Below.refl _ _).drew)
  refine wpAnyH_ready (rs := [1]) (by kernel_rfl) (by simp) ?_
  refine AllReadyH.cons rfl (fun K hK => ?_) AllReadyH.nil
  go_simp
  refine (S1.out _ (HT.out.keep B6.out)).mono ?_
  rintro e w5 ⟨rfl, hb5⟩
  refine hK.out _ _ (Is13.keep hS hb5) (fun hS => ?_)
  clear hK K
  have B5 := Lib.hid (B6.out.trans (hb5.mono B6.out.size))
  have HG5 := Lib.hid (HG.out.keep hb5)
  clear hb5
  refine wpAnyH_ready (rs := [4]) (by kernel_rfl) (by simp) ?_
  refine AllReadyH.cons rfl (fun K hK => ?_) AllReadyH.nil
  go_simp
  refine (R1.out _ _ (HT.out.keep B5.out) HG5.out (nnv_some _ _ _)).mono ?_
  rintro e w7 ⟨rfl, hb7⟩
  refine hK.out _ _ (Is13.keep hS hb7) (fun hS => ?_)
  clear hK K
  have HF := Lib.hid (B5.out.trans (hb7.mono B5.out.size))
  clear hb7
  refine rtk 5 ?_
  refine wpAnyH_done (by kernel_rfl) ?_ _
  refine NoPanic.normal ?_
  go_wp2
  go_ret
  exact ⟨rfl, HF.out⟩
end Go.Proofs.YtimjbjppmhdjnaaGreatDoor
