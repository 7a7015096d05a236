/- Layouts: alive of chapter 11, given what render.Pieces, Text, Starts do. -/
import Derived.Test.YtehofomfblfhaaaYTells
namespace Go.Proofs.Ytehofomfblfhaaa
open Go.RowKit
set_option linter.unusedVariables false
set_option linter.unusedSimpArgs false

theorem al_one : renP 1 4 ⟨#[97, 98]⟩ .nil 9 2 = [(⟨#[97, 98]⟩, 4)] := by
  unfold renP
  rw [if_pos (by rw [rightD_is]; rfl)]
  unfold layD
  rw [lay_text _ _ _ _ _ _ _ _ (by decide), lay_nil]
theorem al_none : renP 0 0 ⟨#[]⟩ .nil 9 2 = [] := by
  unfold renP
  rw [if_neg (by rw [rightD_is]; decide)]
theorem fos_none (w : World) : FoS w (.slice none 0 0) .nil := ⟨none, 0, rfl, by simp [Fo.len], by decide, fun _ => rfl, fun h => by simp [Fo.len] at h⟩
set_option maxRecDepth 100000 in
set_option maxHeartbeats 4000000 in
theorem alive11_any (PC : PieC) (TC : TextC) (SC : StartsC) : AliveC := by
  intro w
  have P1 := Lib.hid (fun W => PC 1 4 ⟨#[97, 98]⟩ .nil (.slice none 0 0) 9 2 9 2 W (fos_none W) (by decide) (by decide) (by decide) (by decide))
  have P0 := Lib.hid (fun W => PC 0 0 ⟨#[]⟩ .nil (.slice none 0 0) 9 2 9 2 W (fos_none W) (by decide) (by decide) (by decide) (by decide))
  rw [al_one] at P1
  rw [al_none] at P0
  have HTC := Lib.hid TC
  have HSC := Lib.hid SC
  clear PC TC SC
  unfold dv at P0 P1
  go_enter Try.func10, Try.ntmps10
  go_wp2_with fail
  refine (P1.out _).mono ?_
  rintro e w1 ⟨u1, rfl, hu1, hb1⟩
  have k1 := hu1.vs
  clear hu1
  have k1' := k1
  obtain ⟨a1, c1, rfl, -, -, -⟩ := pcs_get k1' rfl
  clear k1'
  simp only [List.length_cons, List.length_nil, Nat.zero_add] at k1 ⊢
  go_wp2_with fail
  refine (P0.out w1).mono ?_
  rintro e w2 ⟨u2, rfl, hu2, hb2⟩
  have d2 := hb1.trans (hb2.mono hb1.size)
  have k2 := k1.keep hb2
  have k3 := hu2.vs
  clear hu2
  obtain ⟨a2, c2, rfl, -, -, -⟩ := pcs_get k3 rfl
  obtain ⟨a1', c1', e1, -, -, h1⟩ := pcs_get k2 rfl
  obtain ⟨b, off, e2, hb, p0, p1⟩ := h1 0 (by simp)
  simp only [Value.slice.injEq] at e1
  obtain rfl : a1 = some ⟨b, off, none⟩ := e1.1.trans e2
  simp only [List.getElem_cons_zero, Nat.zero_mul, Nat.add_zero] at p0 p1
  have K2 := Lib.hid k2
  clear h1 e1 e2 k1 k2 k3
  have TX : Hid (Calls Try.prog 16 #[.slice (some ⟨b, off, none⟩) 1 c1] w2 fun e w' => e = .returned (.string ⟨#[97, 98]⟩) ∧ Below w2.heap.size w2 w') := Lib.hid (HTC.out [(⟨#[97, 98]⟩, 4)] _ [97, 98] w2 K2.out rfl (by decide) (by decide))
  go_wp2_with fail
  refine (TX.out).mono ?_
  rintro e w3 ⟨rfl, hb3⟩
  have d3 := d2.trans (hb3.mono d2.size)
  have K3 := Lib.hid (K2.out.keep hb3)
  go_wp2_with fail
  refine (HSC.out [(⟨#[97, 98]⟩, 4)] _ w3 K3.out (by decide) (by decide)).mono ?_
  rintro e w4 ⟨u4, rfl, hu4, hb4⟩
  have d4 := d3.trans (hb4.mono d3.size)
  obtain ⟨a4, c4, rfl, -, -, -⟩ := hu4
  have hsl : (starts [((⟨#[97, 98]⟩ : ByteArray), (4 : Int))]).length = 1 := by rw [starts_len]; rfl
  rw [hsl]
  clear hb1 hb2 hb3 hb4 d2 d3 p0 p1
  go_wp2
  go_ret
  exact ⟨rfl, d4⟩
end Go.Proofs.Ytehofomfblfhaaa
