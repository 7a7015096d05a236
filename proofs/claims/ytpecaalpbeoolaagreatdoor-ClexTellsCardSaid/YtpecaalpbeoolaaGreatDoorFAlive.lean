/- Tokens of CSS: the law's own alive and split. -/
import Derived.Test.YtpecaalpbeoolaaGreatDoorFLex
import Derived.Test.YtpecaalpbeoolaaGreatDoorFLow
import Derived.Lib.SlBytesConst
namespace Go.Proofs.YtpecaalpbeoolaaGreatDoor
open Go.RowKit
set_option linter.unusedVariables false
set_option linter.unusedSimpArgs false

theorem ownC_base {B B' : Nat} {w : World} {v : Value} {l : List (M.CT × Int)} (h : OwnC B w v l) (hB : B' ≤ B) : OwnC B' w v l := by
  obtain ⟨⟨h1, h2 | ⟨g, cap, cur, rfl, a, b, c⟩⟩, h3, h4⟩ := h
  · exact ⟨⟨h1, .inl h2⟩, h3, h4⟩
  · exact ⟨⟨h1, .inr ⟨g, cap, cur, rfl, Nat.le_trans hB a, b, c⟩⟩, h3, h4⟩
theorem cs_keep {w w' : World} {v : Value} {l : List (M.CT × Int)} (h : Cs w v l) (hb : Below w.heap.size w w') : Cs w' v l := Vs.keep h hb
/-- Tokens that lie somewhere: the value, and each cell. -/
theorem cs_open {w : World} {v : Value} {l : List (M.CT × Int)} (h : Cs w v l) {n : Nat} (hn : l.length = n) : ∃ a cap, v = .slice a n cap ∧ n ≤ cap ∧ cap ≤ maxLen ∧ ∀ j (hj : j < l.length), ∃ b off, a = some ⟨b, off, none⟩ ∧ b < w.heap.size ∧
    ∀ k u, (ctv (l[j]).1 (l[j]).2)[k]? = some u → w.cell? ⟨b, off + j * 13 + k, none⟩ = some u := by
  obtain ⟨a, cap, rfl, h1, h2, h3⟩ := h
  subst hn
  have hl := tvsC_len l
  refine ⟨a, cap, by rw [hl], by omega, h2, fun j hj => ?_⟩
  obtain ⟨b, off, rfl, hb, hc⟩ := h3 (by omega)
  refine ⟨b, off, rfl, hb, fun k u hu => ?_⟩
  have := hc j (by omega) k u (by
    have e : (tvsC l)[j]'(by omega) = tvC l[j] := by simp [tvsC]
    rw [e]; simpa [tvC] using hu)
  rw [Nat.add_assoc]; exact this
set_option maxRecDepth 100000 in
set_option maxHeartbeats 2000000 in
theorem flsplit_any (s : List UInt8) (T : List (M.CT × Int)) (w : World) (hT : Tabs w) (hl : s.length ≤ 20000) (hr : M.tksC (M.rn s 0) = T) :
    Calls Tryz.prog 16 #[.string (bytes s)] w (ClP w T) := by
  have hcv := bw_conv w (bytes s)
  have hbs := bw_bs w (bytes s) (by rw [bytes_size]; omega)
  have hbb := bw_below w (bytes s)
  have hbz := bw_size w (bytes s)
  rw [bytes_list] at hbs
  have hrl := M.rn_len s s.length 0 (by omega)
  obtain ⟨rs, hrs⟩ : ∃ r, M.rn s 0 = r := ⟨_, rfl⟩
  rw [hrs] at hr hrl
  obtain ⟨W, hW⟩ : ∃ W, Lib.bytesWorld w 5 (bytes s) = W := ⟨_, rfl⟩
  rw [hW] at hcv hbs hbb hbz
  have R1 := Lib.hid (refruns_any _ s rs W hbs (by omega) hrs)
  have SP := Lib.hid (fun v W2 (hW2 : Below w.heap.size w W2) (hv : Rs W2 v rs) => csplit_any v rs T W2 (hT.keep hW2) hv (by omega) hr)
  obtain ⟨S, hS⟩ : ∃ S, bytes s = S := ⟨_, rfl⟩
  rw [hS] at hcv R1 ⊢
  have HBB := Lib.hid hbb
  have HBZ := Lib.hid hbz
  unfold RuP at R1
  clear hT hr hrl hrs hbs hbb hbz hW hS
  go_enter Tryz.func16, Tryz.ntmps16
  go_wp2_with fail
  refine (R1.out).mono ?_
  rintro e w2 ⟨v2, rfl, ho2, hb2⟩
  have d2 := HBB.out.trans (hb2.mono HBB.out.size)
  have l2 := ho2.vs
  change Rs w2 v2 rs at l2
  clear hb2 ho2
  go_wp2_with fail
  refine (SP.out _ _ d2 l2).mono ?_
  rintro e w3 ⟨v3, rfl, ho3, hb3⟩
  have d3 := d2.trans (hb3.mono d2.size)
  have ho4 := ownC_base ho3 d2.size
  clear hb3 ho3 d2 l2
  go_wp2
  go_ret
  exact ⟨_, rfl, ho4, d3⟩
set_option maxRecDepth 100000 in
set_option maxHeartbeats 2000000 in
theorem alive_any (w : World) (hT : Tabs w) :
    Calls Tryz.prog 10 #[] w fun e w' => e = .returned (.bool true) ∧ Below w.heap.size w w' := by
  have kc := fun (w : World) (C : Array Value) (n c : Nat) => Lib.run_convert_bytes_const (P := Tryz.prog) w 22 5 C n c Tryz.underlying22 Tryz.underlying5
  have R1 := Lib.hid (fun v W hv => refruns_any v [97, 123] _ W hv (by simp) rfl)
  have hrn : M.rn [97, 123] 0 = [(97, 0), (123, 1)] := by decide +kernel
  rw [hrn] at R1
  have S1 := Lib.hid (fun v W2 (hW2 : Below w.heap.size w W2) (hv : Rs W2 v [(97, 0), (123, 1)]) => csplit_any v [(97, 0), (123, 1)] [({ kind := 1, text := [97] }, 0), ({ kind := 19 }, 1)] W2 (hT.keep hW2) hv (by simp) (by decide +kernel))
  have S0 := Lib.hid (fun W2 (hW2 : Below w.heap.size w W2) => csplit_any (.slice none 0 0) [] [] W2 (hT.keep hW2) (vs_nil 2 W2) (by simp) (by decide +kernel))
  unfold RuP at R1
  unfold ClP at S1 S0
  clear hT hrn
  go_enter Tryz.func10, Tryz.ntmps10
  go_wp2_with fail
  refine (R1.out _ _ (bs_newm w [97, 123] _ (by simp))).mono ?_
  rintro e w2 ⟨v2, rfl, ho2, hb2⟩
  have d2 := ((Below.refl w.heap.size w).alloc (Nat.le_refl _) _).trans (hb2.mono (by simp))
  have l2 := ho2.vs
  change Rs w2 v2 [(97, 0), (123, 1)] at l2
  clear hb2 ho2
  go_wp2_with fail
  refine (S1.out _ _ d2 l2).mono ?_
  rintro e w3 ⟨v3, rfl, ho3, hb3⟩
  have d3 := d2.trans (hb3.mono d2.size)
  have l3 := ho3.cs
  clear hb3 ho3 d2 l2
  go_wp2_with fail
  refine (S0.out _ d3).mono ?_
  rintro e w4 ⟨v4, rfl, ho4, hb4⟩
  have d4 := d3.trans (hb4.mono d3.size)
  have l4 := cs_keep l3 hb4
  obtain ⟨a4, cap4, rfl, -⟩ := cs_open ho4.cs (n := 0) rfl
  obtain ⟨a3, cap3, rfl, g1, g2, g3⟩ := cs_open l4 (n := 2) rfl
  obtain ⟨b, off, rfl, hb, hc⟩ := g3 0 (by simp)
  obtain ⟨b', off', e', hb', hc'⟩ := g3 1 (by simp)
  simp only [Option.some.injEq, Addr.mk.injEq, and_true] at e'
  obtain ⟨rfl, rfl⟩ := e'
  have q0 := hc 0 (.int .i64 1) rfl
  have q1 := hc 1 (.string ⟨#[97]⟩) rfl
  have q2 := hc' 0 (.int .i64 19) rfl
  have q3 := hc' 12 (.int .i64 1) rfl
  simp only [Nat.zero_mul, Nat.one_mul, Nat.add_zero] at q0 q1 q2 q3
  clear hb4 d3 ho4 l4 l3 hc hc' g3 g2 hb'
  go_wp2
  go_ret
  exact ⟨rfl, d4⟩
end Go.Proofs.YtpecaalpbeoolaaGreatDoor
