/- Texts of ours in one: JgN ARight ZPs. -/
import Derived.Test.YtlobinjdgcidmaaGreatDoorQs17
import Derived.Test.YtlobinjdgcidmaaGreatDoorQs15
import Derived.Test.YtlobinjdgcidmaaGreatDoorQs00
import Derived.Deep.RegionWith
import Derived.Lib.AppendIntMem
import Derived.Lib.SmallJoins
import Derived.Test.YtlobinjdgcidmaaGreatDoorQs02
import Derived.Deep.RegionHeld3
import Derived.Test.YtlobinjdgcidmaaGreatDoorQs14
import Derived.Test.YtlobinjdgcidmaaGreatDoorQs10
import Derived.Test.YtlobinjdgcidmaaGreatDoorQs13
import Derived.Test.YtlobinjdgcidmaaGreatDoorQs07
import Derived.Deep.DeepCutAuto
import Derived.WalkLawsBesides
/- Several texts of ours in one: NRead NRead2 NRight. -/
/- Numbers: a text is read. -/
namespace Go.Proofs.YtlobinjdgcidmaaGreatDoor
open Go.RowKit
set_option linter.unusedVariables false
set_option linter.unusedSimpArgs false

def numV (n : M.NumV) : Array Value := #[.bool n.1, .string (bytes n.2.1), .string (bytes n.2.2)]
theorem bcell {W w1 : World} (hb : Below W.heap.size W w1) : (∀ b o, b < W.heap.size → w1.cell? ⟨b, o, none⟩ = W.cell? ⟨b, o, none⟩) ∧ (∀ b o, b < W.heap.size → w1.frozen? ⟨b, o, none⟩ = W.frozen? ⟨b, o, none⟩) :=
  ⟨fun b o h => hb.cell (p := ⟨b, o, none⟩) h, fun b o h => hb.frozen (p := ⟨b, o, none⟩) h⟩
theorem decD (u : Nat) : Lib.decDigits u = M.decS u := by
  induction u using Nat.strongRecOn with
  | ind u ih =>
    rw [Lib.decDigits]
    by_cases h : u < 10
    · rw [dif_pos h, M.decS_small u (by omega)]
      unfold M.ofD
      rw [show u % 10 = u by omega]
    · rw [dif_neg h, ih (u / 10) (by omega), M.decS_step u (by omega)]
      rfl
theorem itoa_txt (z : Int) : Lib.itoa z = M.txt z := by
  unfold Lib.itoa
  rw [decD, decD]
  rcases M.txt_cases z with ⟨h, e⟩ | ⟨h, e⟩
  · rw [if_neg (by omega), e, show z.toNat = z.natAbs by omega]
  · rw [if_pos h, e]
theorem itoa_any (z : Int) (w : World) (h1 : -100000000 ≤ z) (h2 : z ≤ 100000000) (hT : Tabs w) :
    Calls Tryz.prog 119 #[.int .i64 z] w fun e w' => e = .returned (.string (bytes (M.txt z))) ∧ Below w.heap.size w w' := by
  have h := Tryz.strconv_Itoa z (by omega) (by omega) w hT.p
  rw [itoa_txt] at h
  exact h.mono fun e w' ⟨he, k, os, hw⟩ => ⟨he, by rw [hw]; exact Lib.below_grow _ _ (Nat.le_refl _) _ _⟩
set_option maxRecDepth 100000 in
set_option maxHeartbeats 1000000 in
theorem plus_any (a z r : Int) (w : World) (hl : (M.txt a).length ≤ 100000) (h1 : -100000000 ≤ z) (h2 : z ≤ 100000000) (hT : Tabs w) (hr : a + z = r) :
    Calls Tryz.prog 97 #[.string (bytes (M.txt a)), .int .i64 z] w fun e w' => e = .returned (.string (bytes (M.txt r))) ∧ Below w.heap.size w w' := by
  have I1 := Lib.hid (itoa_any z w h1 h2 hT)
  have hzl := M.txt_len z 9 (by omega) (by omega)
  have hs := M.add_right (M.txt a) (M.txt z) (M.val_txt a).2 (M.val_txt z).2
  rw [(M.val_txt a).1, (M.val_txt z).1, hr] at hs
  have A1 := Lib.hid (fun w => add_any (M.txt a) (M.txt z) _ w hl (by omega) hs)
  unfold strB at A1
  obtain ⟨SA, hSA⟩ : ∃ S, bytes (M.txt a) = S := ⟨_, rfl⟩
  obtain ⟨SZ, hSZ⟩ : ∃ S, bytes (M.txt z) = S := ⟨_, rfl⟩
  obtain ⟨SR, hSR⟩ : ∃ S, bytes (M.txt r) = S := ⟨_, rfl⟩
  simp only [hSA, hSZ, hSR] at A1 I1 ⊢
  clear hs hSA hSZ hSR hr hzl hl hT
  go_enter Tryz.func97, Tryz.ntmps97
  go_wp2_with fail
  refine I1.out.mono ?_
  rintro e w1 ⟨rfl, hb1⟩
  go_wp2_with fail
  refine (A1.out _).mono ?_
  rintro e w2 ⟨rfl, hb2⟩
  go_wp2
  go_ret
  exact ⟨rfl, hb1.trans (hb2.mono hb1.size)⟩
set_option maxRecDepth 100000 in
set_option maxHeartbeats 1000000 in
theorem expo_any (p : M.Parts) (r : List UInt8) (w : World) (hl : p.2.2.2.2.2.length ≤ 1000000) (hr : M.sgn p.2.2.2.2.1 p.2.2.2.2.2 = r) :
    Calls Tryz.prog 98 #[.agg (partsV p)] w fun e w' => e = .returned (.string (bytes r)) ∧ w' = w.alloc (.cells (partsV p) 138) := by
  obtain ⟨a, W, F, he, ng, G⟩ := p
  simp only at hl hr
  subst hr
  have T1 := fun w => Tryz.strings_TrimLeft_one (bytes G) 48 (by decide) w
  rw [bytes_list, show (⟨(Lib.trimLeftB G 48).toArray⟩ : ByteArray) = bytes (M.strip G) from rfl] at T1
  have hsl := strip_len G
  unfold partsV M.sgn
  simp only
  obtain ⟨SG, hSG⟩ : ∃ S, bytes G = S := ⟨_, rfl⟩
  obtain ⟨ST, hST⟩ : ∃ S, bytes (M.strip G) = S := ⟨_, rfl⟩
  rw [hSG, hST] at T1
  have HT := Lib.hid T1
  rw [hSG]
  obtain ⟨SW, hSW⟩ : ∃ S, bytes W = S := ⟨_, rfl⟩
  obtain ⟨SF, hSF⟩ : ∃ S, bytes F = S := ⟨_, rfl⟩
  rw [hSW, hSF]
  clear T1 hSG hSW hSF
  by_cases h0 : M.strip G = []
  · rw [if_pos h0]
    obtain ⟨e1, e2, e3⟩ := str_nil ST _ hST h0
    clear h0 hST hl hsl
    go_enter Tryz.func98, Tryz.ntmps98
    go_wp2_with fail
    refine (HT.out _).mono ?_
    rintro e w' ⟨rfl, rfl⟩
    go_wp2
    go_ret
    exact ⟨rfl, rfl⟩
  · rw [if_neg h0]
    obtain ⟨e1, e2, e3⟩ := str_ne ST _ hST h0
    have hsz : ST.size ≤ 1000000 := by rw [← hST, bytes_size]; omega
    have a1 : ∀ W, (Op.stringOp .add (ByteArray.mk #[45]) ST).run Tryz.prog W = .ok (.string (ByteArray.mk #[45] ++ ST)) W := fun W => run_string_add W _ _ (by rw [show (ByteArray.mk #[45]).size = 1 from rfl]; decide) (by omega)
    have hcat : ByteArray.mk #[45] ++ ST = bytes (45 :: M.strip G) := by
      rw [← hST]; apply ByteArray.ext; simp [bytes]
    have Hcat := Lib.hid hcat
    have HST := Lib.hid hST
    clear h0 hST hl hsl hcat
    cases ng with
    | false =>
      go_enter Tryz.func98, Tryz.ntmps98
      go_wp2_with fail
      refine (HT.out _).mono ?_
      rintro e w' ⟨rfl, rfl⟩
      go_wp2
      go_ret
      exact ⟨by rw [← HST.out]; rfl, rfl⟩
    | true =>
      go_enter Tryz.func98, Tryz.ntmps98
      go_wp2_with fail
      refine (HT.out _).mono ?_
      rintro e w' ⟨rfl, rfl⟩
      go_wp2
      go_ret
      exact ⟨by rw [← Hcat.out]; rfl, rfl⟩
end Go.Proofs.YtlobinjdgcidmaaGreatDoor

/- Numbers: a text is read, whole. -/
namespace Go.Proofs.YtlobinjdgcidmaaGreatDoor
open Go.RowKit
set_option linter.unusedVariables false
set_option linter.unusedSimpArgs false

theorem divW_dig (l : List UInt8) (p : M.Parts) (h : M.divW l = (p, true)) : (∀ c ∈ p.2.1 ++ p.2.2.1, M.dig c = true) ∧ (∀ c ∈ p.2.2.2.2.2, M.dig c = true) ∧ (p.2.1 ++ p.2.2.1).length ≤ l.length ∧ p.2.2.2.2.2.length ≤ l.length := by
  obtain ⟨a, s1, hcs⟩ : ∃ a s1, M.csign l = (a, s1) := ⟨_, _, rfl⟩
  have l1 := csign_len l a s1 hcs
  have e1 := congrArg List.length (M.dg_rs s1)
  rw [List.length_append] at e1
  have hE : ∀ (F s3 : List UInt8), (∀ c ∈ F, M.dig c = true) → (M.dg s1).length + F.length + s3.length ≤ l.length → M.divE a (M.dg s1) F s3 = (p, true) → (∀ c ∈ p.2.1 ++ p.2.2.1, M.dig c = true) ∧ (∀ c ∈ p.2.2.2.2.2, M.dig c = true) ∧ (p.2.1 ++ p.2.2.1).length ≤ l.length ∧ p.2.2.2.2.2.length ≤ l.length := by
    intro F s3 hF hle h
    unfold M.divE at h
    have hd : ∀ c ∈ M.dg s1 ++ F, M.dig c = true := fun c hc => (List.mem_append.1 hc).elim (M.dg_dig s1 c) (hF c)
    split at h
    · simp only [Prod.mk.injEq] at h
      obtain ⟨rfl, _⟩ := h
      have h2 := csign_len s3.tail _ _ rfl
      have h3 := dg_len (M.csign s3.tail).2 _ rfl
      refine ⟨hd, M.dg_dig _, by simp only [List.length_append]; omega, ?_⟩
      simp only
      have h4 : s3.tail.length ≤ s3.length := by simp
      exact Nat.le_trans h3 (Nat.le_trans h2 (by omega))
    · simp only [Prod.mk.injEq] at h
      obtain ⟨rfl, _⟩ := h
      exact ⟨hd, by simp, by simp only [List.length_append]; omega, by simp⟩
  unfold M.divW at h
  rw [hcs] at h
  simp only at h
  split at h
  · split at h
    · simp at h
    · refine hE _ _ (M.dg_dig _) ?_ h
      have e2 := congrArg List.length (M.dg_rs (M.rs s1).tail)
      rw [List.length_append] at e2
      have : (M.rs s1).tail.length ≤ (M.rs s1).length := by simp
      omega
  · split at h
    · simp at h
    · exact hE [] _ (by simp) (by simp only [List.length_nil]; omega) h
theorem agg3 {a0 b0 : Bool} {a1 b1 a2 b2 : ByteArray} {c d : Bool} (h0 : a0 = b0) (h1 : a1 = b1) (h2 : a2 = b2) (h6 : c = d) :
    Ending.returned (.tuple #[.agg #[.bool a0, .string a1, .string a2], .bool c]) = .returned (.tuple #[.agg #[.bool b0, .string b1, .string b2], .bool d]) := by rw [h0, h1, h2, h6]
theorem keep3 {w w1 : World} {c0 c1 c2 : Value} {T : TypeId} (h : Below (w.alloc (.cells #[c0, c1, c2] T)).heap.size (w.alloc (.cells #[c0, c1, c2] T)) w1) :
    (w1.cell? ⟨w.heap.size, 0, none⟩ = some c0 ∧ w1.cell? ⟨w.heap.size, 1, none⟩ = some c1 ∧ w1.cell? ⟨w.heap.size, 2, none⟩ = some c2) ∧
    (w1.frozen? ⟨w.heap.size, 0, none⟩ = false ∧ w1.frozen? ⟨w.heap.size, 1, none⟩ = false ∧ w1.frozen? ⟨w.heap.size, 2, none⟩ = false) ∧ w.heap.size < w1.heap.size ∧ Below w.heap.size w w1 := by
  obtain ⟨hc, hf⟩ := bcell h
  have hs := h.size
  simp only [World.size_alloc] at hs
  refine ⟨⟨?_, ?_, ?_⟩, ⟨?_, ?_, ?_⟩, by omega, ((Below.refl _ _).alloc (Nat.le_refl _) _).trans (h.mono (by simp))⟩
  · rw [hc _ _ (by simp), World.cell?_alloc_at _ _ _ _ rfl]; rfl
  · rw [hc _ _ (by simp), World.cell?_alloc_at _ _ _ _ rfl]; rfl
  · rw [hc _ _ (by simp), World.cell?_alloc_at _ _ _ _ rfl]; rfl
  · rw [hf _ _ (by simp)]; exact World.frozen?_alloc_at _ _ _ _ rfl
  · rw [hf _ _ (by simp)]; exact World.frozen?_alloc_at _ _ _ _ rfl
  · rw [hf _ _ (by simp)]; exact World.frozen?_alloc_at _ _ _ _ rfl
set_option maxRecDepth 100000 in
set_option maxHeartbeats 4000000 in
theorem read_any (l : List UInt8) (r : M.NumV) (ok : Bool) (w : World) (hT : Tabs w) (hl : l.length ≤ 90000) (hr : M.readN l = (r, ok)) :
    Calls Tryz.prog 73 #[.string (bytes l)] w fun e w' => e = .returned (.tuple #[.agg (numV r), .bool ok]) ∧ Below w.heap.size w w' := by
  obtain ⟨p, okp, hp⟩ : ∃ p o, M.divW l = (p, o) := ⟨_, _, rfl⟩
  have D1 := Lib.hid (fun w => divide_any l p okp w (by omega) hp)
  unfold M.readN at hr
  rw [hp] at hr
  simp only at hr
  obtain ⟨SL, hSL⟩ : ∃ S, bytes l = S := ⟨_, rfl⟩
  rw [hSL] at D1 ⊢
  clear hSL
  cases okp with
  | false =>
    simp only [Bool.false_eq_true, if_false, Prod.mk.injEq] at hr
    obtain ⟨rfl, rfl⟩ := hr
    clear hp
    go_enter Tryz.func73, Tryz.ntmps73
    go_wp2_with fail
    refine (D1.out _).mono ?_
    rintro e w1 ⟨rfl, hb1⟩
    obtain ⟨⟨g0, g1, g2⟩, ⟨z0, z1, z2⟩, hs1, hb0⟩ := keep3 hb1
    have hne : w1.heap.size ≠ w.heap.size := by omega
    clear hb1
    unfold partsV
    go_wp2
    refine bodyPost_ret (v := .tuple #[.agg #[.bool false, .string ⟨#[]⟩, .string ⟨#[]⟩], .bool false]) (by simp [results, Tryz.results73, go_sem, g0, g1, g2, hs1]) rfl ⟨rfl, by repeat (first | with_reducible exact hb0 | with_reducible refine Below.setCell ?_ (by simp) _ | with_reducible refine below_drewN ?_ _ | with_reducible refine Below.drew ?_ | with_reducible refine Below.alloc ?_ (by simp; omega) _)⟩
  | true =>
    obtain ⟨q1, q2, q3, q4⟩ := divW_dig l p hp
    simp only [if_true, Prod.mk.injEq] at hr
    obtain ⟨rfl, rfl⟩ := hr
    obtain ⟨a, W, F, he, ng, G⟩ := p
    simp only at q1 q2 q3 q4
    obtain ⟨X, hX⟩ : ∃ X, M.expV (a, W, F, he, ng, G) = X := ⟨_, rfl⟩
    have hsg := M.sgn_txt ng G q2
    have hX2 : M.sgn ng G = M.txt X := by rw [hsg, ← hX]; rfl
    simp only [hX]
    have X1 := Lib.hid (fun w => expo_any (a, W, F, he, ng, G) _ w (by simp only; omega) hX2)
    have hXl : (M.txt X).length ≤ 90001 := by
      rw [← hX2]; unfold M.sgn; have := strip_len G
      split
      · simp
      · split <;> simp <;> omega
    obtain ⟨L, hL⟩ : ∃ L, W ++ F = L := ⟨_, rfl⟩
    rw [hL] at q1 q3 ⊢
    obtain ⟨d, hd⟩ : ∃ x, M.strip L = x := ⟨_, rfl⟩
    have hdl := strip_len L
    obtain ⟨s, hs⟩ : ∃ x, M.rstrip d = x := ⟨_, rfl⟩
    have hsl := M.rstrip_len d
    rw [hd] at hdl
    rw [hs] at hsl
    unfold M.norm
    rw [hd, hs]
    have T1 := fun w => Tryz.strings_TrimLeft_one (bytes L) 48 (by decide) w
    rw [bytes_list, show (⟨(Lib.trimLeftB L 48).toArray⟩ : ByteArray) = bytes (M.strip L) from rfl, hd] at T1
    have T2 := fun w => Tryz.strings_TrimRight_one (bytes d) 48 (by decide) w (by rw [bytes_size]; omega)
    rw [bytes_list, show (⟨(Lib.trimRightB d 48).toArray⟩ : ByteArray) = bytes (M.rstrip d) from rfl, hs] at T2
    obtain ⟨f, hf⟩ : ∃ f, F.length = f := ⟨_, rfl⟩
    have hfl : f ≤ L.length := by rw [← hL, ← hf]; simp
    have hcat : bytes W ++ bytes F = bytes L := by rw [← hL]; apply ByteArray.ext; simp [bytes]
    have zW : (bytes W).size ≤ 90000 := by rw [bytes_size]; have : W.length ≤ L.length := (by rw [← hL]; simp); omega
    have zF : (bytes F).size = f := by rw [bytes_size, hf]
    have zd : (bytes d).size = d.length := bytes_size d
    have zs : (bytes s).size = s.length := bytes_size s
    unfold partsV at D1 X1
    simp only at D1 X1
    obtain ⟨SW, hSW⟩ : ∃ S, bytes W = S := ⟨_, rfl⟩
    obtain ⟨SF, hSF⟩ : ∃ S, bytes F = S := ⟨_, rfl⟩
    obtain ⟨SG, hSG⟩ : ∃ S, bytes G = S := ⟨_, rfl⟩
    obtain ⟨SQ, hSQ⟩ : ∃ S, bytes L = S := ⟨_, rfl⟩
    obtain ⟨SD, hSD⟩ : ∃ S, bytes d = S := ⟨_, rfl⟩
    obtain ⟨SS, hSS⟩ : ∃ S, bytes s = S := ⟨_, rfl⟩
    obtain ⟨SX, hSX⟩ : ∃ S, bytes (M.txt X) = S := ⟨_, rfl⟩
    rw [hSW, hSF, hSG] at D1 X1
    rw [hSX] at X1
    rw [hSQ, hSD] at T1
    rw [hSD, hSS] at T2
    rw [hSW, hSF, hSQ] at hcat
    rw [hSW] at zW
    rw [hSF] at zF
    rw [hSD] at zd
    rw [hSS] at zs
    have a1 : ∀ W, (Op.stringOp .add SW SF).run Tryz.prog W = .ok (.string SQ) W := fun W => by rw [run_string_add W _ _ (by omega) (by omega), hcat]
    have HT1 := Lib.hid T1
    have HT2 := Lib.hid T2
    have HT := Lib.hid hT
    have HSS := Lib.hid hSS
    have HSX := Lib.hid hSX
    obtain ⟨D, hDn⟩ : ∃ D, d.length = D := ⟨_, rfl⟩
    obtain ⟨N, hNn⟩ : ∃ D, s.length = D := ⟨_, rfl⟩
    rw [hDn] at zd hdl hsl ⊢
    rw [hNn] at zs hsl ⊢
    have hq : (s = [] ∧ SS.toList.isEmpty = true ∧ SS.toList = []) ∨ (s ≠ [] ∧ SS.toList.isEmpty = false ∧ (!SS.toList.isEmpty) = true) := by
      by_cases h : s = []
      · have := str_nil SS s hSS h; exact .inl ⟨h, this.2.1, this.1⟩
      · have := str_ne SS s hSS h; exact .inr ⟨h, this.1, this.2.1⟩
    have y1 : SD.size ≤ 90000 := by omega
    have y2 : SS.size ≤ 90000 := by omega
    have y3 : SF.size ≤ 90000 := by omega
    have Zd := Lib.hid zd
    have Zs := Lib.hid zs
    have Zf := Lib.hid zF
    have HF := Lib.hid hf
    clear hp T1 T2 hT hSW hSF hSG hSQ hSD hSS hSX hL hd hs hf hcat q1 q2 hX hsg hX2 hDn hNn zd zs zF
    rcases hq with ⟨k1, k2, k3⟩ | ⟨k1, k2, k3⟩
    · subst k1
      rw [if_pos rfl]
      go_enter Tryz.func73, Tryz.ntmps73
      go_wp2_with fail
      refine (D1.out _).mono ?_
      rintro e w1 ⟨rfl, hb1⟩
      obtain ⟨⟨g0, g1, g2⟩, ⟨z0, z1, z2⟩, hs1, hb0⟩ := keep3 hb1
      have hne : w1.heap.size ≠ w.heap.size := by omega
      clear hb1
      go_wp2_with fail
      refine (HT1.out _).mono ?_
      rintro e w' ⟨rfl, rfl⟩
      go_wp2_with fail
      refine (HT2.out _).mono ?_
      rintro e w' ⟨rfl, rfl⟩
      go_wp2
      refine bodyPost_ret (v := .tuple #[.agg #[.bool a, .string ⟨#[]⟩, .string ⟨#[]⟩], .bool true]) (by simp [results, Tryz.results73, go_sem, g0, g1, g2, hs1]) rfl ⟨rfl, by repeat (first | with_reducible exact hb0 | with_reducible refine Below.setCell ?_ (by simp) _ | with_reducible refine below_drewN ?_ _ | with_reducible refine Below.drew ?_ | with_reducible refine Below.alloc ?_ (by simp; omega) _)⟩
    · rw [if_neg k1]
      have K1 := Lib.hid k1
      clear k1
      go_enter Tryz.func73, Tryz.ntmps73
      go_wp2_with fail
      refine (D1.out _).mono ?_
      rintro e w1 ⟨rfl, hb1⟩
      obtain ⟨⟨g0, g1, g2⟩, ⟨z0, z1, z2⟩, hs1, hb0⟩ := keep3 hb1
      have hne : w1.heap.size ≠ w.heap.size := by omega
      clear hb1
      go_wp2_with fail
      refine (HT1.out _).mono ?_
      rintro e w' ⟨rfl, rfl⟩
      go_wp2_with fail
      refine (HT2.out _).mono ?_
      rintro e w' ⟨rfl, rfl⟩
      go_wp2_with fail
      have q1 := Zd.out
      have q2 := Zs.out
      have q3 := Zf.out
      rw [q1, q2, q3]
      obtain ⟨X0, hX0⟩ : ∃ W, w1.alloc (.cells #[.bool a, .string SW, .string SF, .bool he, .bool ng, .string SG] 138) = W := ⟨_, rfl⟩
      have zX : X0.heap.size = w1.heap.size + 1 := by rw [← hX0]; simp
      have dX : Below w1.heap.size w1 X0 := by rw [← hX0]; exact (Below.refl _ _).alloc (Nat.le_refl _) _
      have hb3 := hb0.trans (dX.mono hb0.size)
      have hk : ∀ W, Below X0.heap.size X0 W → (W.cell? ⟨w1.heap.size, 0, none⟩ = some (.bool a) ∧ W.cell? ⟨w1.heap.size, 1, none⟩ = some (.string SW) ∧ W.cell? ⟨w1.heap.size, 2, none⟩ = some (.string SF) ∧ W.cell? ⟨w1.heap.size, 3, none⟩ = some (.bool he) ∧ W.cell? ⟨w1.heap.size, 4, none⟩ = some (.bool ng) ∧ W.cell? ⟨w1.heap.size, 5, none⟩ = some (.string SG) ∧ W.cell? ⟨w.heap.size, 0, none⟩ = some (.bool false) ∧ W.cell? ⟨w.heap.size, 1, none⟩ = some (.string ⟨#[]⟩) ∧ W.cell? ⟨w.heap.size, 2, none⟩ = some (.string ⟨#[]⟩) ∧ W.frozen? ⟨w.heap.size, 0, none⟩ = false ∧ W.frozen? ⟨w.heap.size, 1, none⟩ = false ∧ W.frozen? ⟨w.heap.size, 2, none⟩ = false) := by
        intro W hW
        obtain ⟨hc, hf⟩ := bcell hW
        obtain ⟨hc2, hf2⟩ := bcell dX
        have hsz := hW.size
        refine ⟨?_, ?_, ?_, ?_, ?_, ?_, ?_, ?_, ?_, ?_, ?_, ?_⟩
        · rw [hc _ _ (by omega), ← hX0, World.cell?_alloc_at _ _ _ _ rfl]; rfl
        · rw [hc _ _ (by omega), ← hX0, World.cell?_alloc_at _ _ _ _ rfl]; rfl
        · rw [hc _ _ (by omega), ← hX0, World.cell?_alloc_at _ _ _ _ rfl]; rfl
        · rw [hc _ _ (by omega), ← hX0, World.cell?_alloc_at _ _ _ _ rfl]; rfl
        · rw [hc _ _ (by omega), ← hX0, World.cell?_alloc_at _ _ _ _ rfl]; rfl
        · rw [hc _ _ (by omega), ← hX0, World.cell?_alloc_at _ _ _ _ rfl]; rfl
        · rw [hc _ _ (by omega), hc2 _ _ hs1]; exact g0
        · rw [hc _ _ (by omega), hc2 _ _ hs1]; exact g1
        · rw [hc _ _ (by omega), hc2 _ _ hs1]; exact g2
        · rw [hf _ _ (by omega), hf2 _ _ hs1]; exact z0
        · rw [hf _ _ (by omega), hf2 _ _ hs1]; exact z1
        · rw [hf _ _ (by omega), hf2 _ _ hs1]; exact z2
      have PL := Lib.hid (fun (W : World) (hW : Below X0.heap.size X0 W) => plus_any X (D - N - f) _ W (by omega) (by omega) (by omega) (HT.out.keep (hb3.trans (hW.mono hb3.size))) rfl)
      simp only [HSX.out] at PL
      have HK := Lib.hid hk
      have B0 : Hid (Below X0.heap.size X0 X0.drew) := Lib.hid (Below.refl _ _).drew
      have B1 : Hid (∀ o : Obj, Below X0.heap.size X0 (X0.alloc o).drew) := Lib.hid (fun o => ((Below.refl _ _).alloc (Nat.le_refl _) o).drew)
      have B2 : Hid (∀ (o : Obj) (w5 : World), Below (X0.alloc o).drew.heap.size (X0.alloc o).drew w5 → Below X0.heap.size X0 w5) := Lib.hid (fun o w5 h => (((Below.refl _ _).alloc (Nat.le_refl _) o).drew).trans (h.mono (by show _ ≤ (X0.alloc o).heap.size; simp)))
      have HB3 := Lib.hid hb3
      rw [hX0]
      clear hX0 hk g0 g1 g2 z0 z1 z2 hb0 dX hb3 q1 q2 q3
      have HS : Hid (∀ W, Below X0.heap.size X0 W → (W.cell? ⟨w1.heap.size, 0, none⟩ = some (.bool a) ∧ W.cell? ⟨w1.heap.size, 1, none⟩ = some (.string SW) ∧ W.cell? ⟨w1.heap.size, 2, none⟩ = some (.string SF) ∧ W.cell? ⟨w1.heap.size, 3, none⟩ = some (.bool he) ∧ W.cell? ⟨w1.heap.size, 4, none⟩ = some (.bool ng) ∧ W.cell? ⟨w1.heap.size, 5, none⟩ = some (.string SG))) := Lib.hid (fun W h => ⟨(HK.out W h).1, (HK.out W h).2.1, (HK.out W h).2.2.1, (HK.out W h).2.2.2.1, (HK.out W h).2.2.2.2.1, (HK.out W h).2.2.2.2.2.1⟩)
      go_region_held3 (fun W : World => W.cell? ⟨w1.heap.size, 0, none⟩ = some (.bool a) ∧ W.cell? ⟨w1.heap.size, 1, none⟩ = some (.string SW) ∧ W.cell? ⟨w1.heap.size, 2, none⟩ = some (.string SF) ∧ W.cell? ⟨w1.heap.size, 3, none⟩ = some (.bool he) ∧ W.cell? ⟨w1.heap.size, 4, none⟩ = some (.bool ng) ∧ W.cell? ⟨w1.heap.size, 5, none⟩ = some (.string SG))
        (first
          | with_reducible exact HS.out _ B0.out
          | with_reducible exact HS.out _ (B1.out _)
          | with_reducible exact HS.out _ (B2.out _ _ hb5)
          | (refine ⟨?_, ?_, ?_, ?_, ?_, ?_⟩ <;> simp [go_sem, r0, r1, r2, r3, r4, r5, hs1, hne, hne.symm]))
        (first
          | (go_at_call 98; refine (X1.out _).mono ?_; rintro e w' ⟨rfl, rfl⟩)
          | (go_at_call 97; refine (PL.out _ (B1.out _)).mono ?_; rintro e w5 ⟨rfl, hb5⟩; obtain ⟨r0, r1, r2, r3, r4, r5, g0, g1, g2, z0, z1, z2⟩ := HK.out w5 (B2.out _ _ hb5)))
      all_goals
        have hb6 := HB3.out.trans ((B2.out _ _ hb5).mono HB3.out.size)
        clear hb5
        go_wp2
        exact bodyPost_ret (v := .tuple #[.agg #[.bool a, .string SS, .string (bytes (M.txt (X + ((D : Int) - N - f))))], .bool true]) (by simp [results, Tryz.results73, go_sem, g0, g1, g2]) rfl
          ⟨agg3 rfl HSS.out.symm (by rw [show X + ((D : Int) - N - f) = X - F.length + ((D : Int) - N - 0) by rw [HF.out]; omega]) rfl, ((hb6.setCell (by simp) _).setCell (by simp) _).setCell (by simp) _⟩
end Go.Proofs.YtlobinjdgcidmaaGreatDoor

/- Numbers: may one be; its text without a power. -/
namespace Go.Proofs.YtlobinjdgcidmaaGreatDoor
open Go.RowKit
set_option linter.unusedVariables false
set_option linter.unusedSimpArgs false

end Go.Proofs.YtlobinjdgcidmaaGreatDoor
/- Values of any shape: may be (jmin.Right), plain; jmin.rightKeys, rightItems. -/
namespace Go.Proofs.YtlobinjdgcidmaaGreatDoor
open Go.RowKit
set_option linter.unusedVariables false
set_option linter.unusedSimpArgs false

def nnum (h : Vh) : Bool := !h.ng && h.dg.isEmpty && h.ex.isEmpty
def evK : Bool → Vo → Bool
  | _, .nil => true
  | e, .cons h _ r => (!e || decide (h.k = 3)) && evK (!e) r
def nlist (h : Vh) (n : Nat) : Bool := decide (n = 0) && decide (h.ms.length = 0) && decide (h.tt = 0)
def keysB (h : Vh) (L : Vo) : Bool := decide (h.k ≠ 1) || (evK true L && decide (L.len % 2 = 0))
def marksB (h : Vh) (n : Nat) : Bool := decide (0 ≤ h.tt) && decide (h.ms.length = n - 1) && h.ms.all (fun z => decide (0 ≤ z))
def headB (h : Vh) (n : Nat) (d : Nat) (kb : Bool) : Bool :=
  decide (0 ≤ h.fr) && (if h.k = 1 ∨ h.k = 2 then decide (h.tx.length = 0) && nnum h && decide (0 < d) && kb
    else if h.k = 3 then nnum h && nlist h n && M.rightU h.tx
    else if h.k = 4 then decide (h.tx.length = 0) && nlist h n && M.rightN h.dg h.ex
    else if h.k = 5 ∨ h.k = 6 ∨ h.k = 7 then decide (h.tx.length = 0) && nnum h && nlist h n else false)
def rightVo : Vo → Nat → Bool
  | .nil, _ => true
  | .cons h kids rest, d => headB h kids.len d (marksB h kids.len && keysB h kids && rightVo kids (d - 1)) && rightVo rest d
def rightH (h : Vh) (kids : Vo) (d : Nat) : Bool := headB h kids.len d (marksB h kids.len && keysB h kids && rightVo kids (d - 1))
theorem rightVo_cons (h : Vh) (kids rest : Vo) (d : Nat) : rightVo (.cons h kids rest) d = (rightH h kids d && rightVo rest d) := rfl
def VB (w : World) (b : Nat) (h : Vh) (tv v mv : Value) : Prop := w.heap[b]? = some (.cells (vv h tv v mv) 48 (0, 0))
theorem VB.lt {w : World} {b : Nat} {h : Vh} {tv v mv : Value} (x : VB w b h tv v mv) : b < w.heap.size := (Array.getElem?_eq_some_iff.1 x).1
theorem VB.new (w : World) (h : Vh) (tv v mv : Value) : VB (w.alloc (.cells (vv h tv v mv) 48)) w.heap.size h tv v mv := heap_alloc_new w _
theorem VB.frame {w w' : World} {b : Nat} {h : Vh} {tv v mv : Value} (x : VB w b h tv v mv) (hb : w'.heap[b]? = w.heap[b]?) : VB w' b h tv v mv := by unfold VB; rw [hb]; exact x
theorem VB.keep {w w' : World} {b : Nat} {h : Vh} {tv v mv : Value} (x : VB w b h tv v mv) (hb : Below w.heap.size w w') : VB w' b h tv v mv := x.frame (hb.block b x.lt)
theorem VB.range {w : World} {b : Nat} {h : Vh} {tv v mv : Value} (x : VB w b h tv v mv) : w.rangeAt b 0 (vvl h tv v mv) := fun j u hu => by
  rw [Nat.zero_add, cell_of_row w b j _ _ _ x]
  exact (by simpa [vv] using hu)
theorem VB.cells {w : World} {b : Nat} {h : Vh} {tv v mv : Value} (x : VB w b h tv v mv) :
    w.cell? ⟨b, 0, none⟩ = some (.int .i64 h.k) ∧ w.cell? ⟨b, 1, none⟩ = some tv ∧ w.cell? ⟨b, 2, none⟩ = some (.bool h.ng) ∧ w.cell? ⟨b, 3, none⟩ = some (.string (bytes h.dg)) ∧ w.cell? ⟨b, 4, none⟩ = some (.string (bytes h.ex)) ∧ w.cell? ⟨b, 5, none⟩ = some v ∧ w.cell? ⟨b, 6, none⟩ = some (.int .i64 h.fr) ∧ w.cell? ⟨b, 7, none⟩ = some (.int .i64 h.tt) ∧ w.cell? ⟨b, 8, none⟩ = some mv :=
  ⟨x.range 0 _ rfl, x.range 1 _ rfl, x.range 2 _ rfl, x.range 3 _ rfl, x.range 4 _ rfl, x.range 5 _ rfl, x.range 6 _ rfl, x.range 7 _ rfl, x.range 8 _ rfl⟩
theorem vbox_set {w : World} {h : Vh} {tv v mv : Value} (W2 : World) (hW : (w.alloc (.cells zv 48)).setRow w.heap.size (vv h tv v mv) = W2) : VB W2 w.heap.size h tv v mv ∧ Below w.heap.size w W2 := by
  subst hW
  have b := (Below.refl w.heap.size w).alloc (Nat.le_refl _) (.cells zv 48)
  refine ⟨setRow_heap _ _ zv _ _ _ (heap_alloc_new w _), ⟨b.os, b.tape, b.output, by rw [setRow_size]; exact b.size, fun k hk => by rw [setRow_other _ w.heap.size k _ (by omega)]; exact b.block k hk⟩⟩
end Go.Proofs.YtlobinjdgcidmaaGreatDoor
/- jparse: the parser's state in memory; kind, unfit, take. -/
namespace Go.Proofs.YtlobinjdgcidmaaGreatDoor
open Go.RowKit
set_option linter.unusedVariables false
set_option linter.unusedSimpArgs false

def atP (n : Nat) : M.Toks → Int
  | [] => n
  | t :: _ => t.2.1
def kindP : M.Toks → Nat
  | [] => 0
  | t :: _ => t.1
def synP (n : Nat) (ts : M.Toks) : Int × Int := (3, atP n ts)
structure PsW (w0 : World) (bv : Value) (D : Int) (l : List UInt8) (w : World) (tv : Value) (ts : M.Toks) : Prop where
  blk : BK 75 w w0.heap.size #[bv, tv, .int .i64 D]
  lo : Below w0.heap.size w0 w
  bs : Bs w0 bv l
  tk : Ts w0 tv ts
  tb : Tabs w0
  ll : l.length ≤ 1048576
structure Fr (pb : Nat) (w w' : World) : Prop where
  lo : Below pb w w'
  oth : ∀ j, j < w.heap.size → j ≠ pb → w'.heap[j]? = w.heap[j]?
theorem Fr.trans {pb : Nat} {a b c : World} (h : Fr pb a b) (k : Fr pb b c) : Fr pb a c :=
  ⟨h.lo.trans k.lo, fun j hj hn => (k.oth j (Nat.lt_of_lt_of_le hj h.lo.size) hn).trans (h.oth j hj hn)⟩
theorem Fr.of {pb : Nat} {w w' : World} (h : Below w.heap.size w w') (hp : pb ≤ w.heap.size) : Fr pb w w' := ⟨h.mono hp, fun j hj _ => h.block j hj⟩
theorem PsW.keep {w0 w w' : World} {bv tv : Value} {D : Int} {l : List UInt8} {ts : M.Toks} (x : PsW w0 bv D l w tv ts) (hb : Below w.heap.size w w') : PsW w0 bv D l w' tv ts :=
  ⟨x.blk.keep hb, x.lo.trans (hb.mono x.lo.size), x.bs, x.tk, x.tb, x.ll⟩
theorem PsW.lt {w0 w : World} {bv tv : Value} {D : Int} {l : List UInt8} {ts : M.Toks} (x : PsW w0 bv D l w tv ts) : w0.heap.size < w.heap.size := x.blk.lt
def Pan (e : Ending) (r : Int × Int) : Prop := e = .panicked [{ v := .iface 68 (.agg #[.int .i64 r.1, .int .i64 r.2]), recovered := false }]
def ptrP (w0 : World) : Value := .pointer (some ⟨w0.heap.size, 0, none⟩)
theorem PsW.toks {w0 w : World} {bv tw : Value} {D : Int} {l : List UInt8} {ts : M.Toks} (x : PsW w0 bv D l w tw ts) :
    ∃ a cap, tw = .slice a ts.length cap ∧ ts.length ≤ cap ∧ cap ≤ maxLen ∧ (0 < ts.length → ∃ b off, a = some ⟨b, off, none⟩ ∧ b < w0.heap.size ∧ ∀ j (h : j < ts.length) i u, (tv ts[j])[i]? = some u → w.cell? ⟨b, off + (j * 3 + i), none⟩ = some u) := by
  obtain ⟨a, cap, e, h1, h2, h3⟩ := x.tk
  rw [tvs_len] at e h1
  refine ⟨a, cap, e, h1, h2, fun h0 => ?_⟩
  obtain ⟨b, off, e2, hb, hc⟩ := h3 (by rw [tvs_len]; exact h0)
  refine ⟨b, off, e2, hb, fun j hj i u hu => ?_⟩
  rw [x.lo.cell (p := ⟨b, off + (j * 3 + i), none⟩) hb]
  exact hc j (by rw [tvs_len]; exact hj) i u (by simpa [tvs] using hu)
theorem PsW.first {w0 w : World} {bv tv : Value} {D : Int} {l : List UInt8} {t : Nat × Nat × Nat} {r : M.Toks} (x : PsW w0 bv D l w tv (t :: r)) :
    ∃ b off cap, tv = .slice (some ⟨b, off, none⟩) (r.length + 1) cap ∧ r.length + 1 ≤ cap ∧ cap ≤ maxLen ∧ b < w0.heap.size ∧ w.cell? ⟨b, off, none⟩ = some (.int .i64 (t.1 : Int)) ∧ w.cell? ⟨b, off + 1, none⟩ = some (.int .i64 (t.2.1 : Int)) ∧ w.cell? ⟨b, off + 2, none⟩ = some (.int .i64 (t.2.2 : Int)) ∧
      Ts w0 (.slice (some ⟨b, off + 3, none⟩) r.length (cap - 1)) r := by
  obtain ⟨a, cap, e, h1, h2, h3⟩ := x.toks
  obtain ⟨b, off, rfl, hb, hc⟩ := h3 (by simp)
  have c := hc 0 (by simp)
  simp only [List.length_cons] at e h1
  refine ⟨b, off, cap, e, h1, h2, hb, c 0 _ rfl, c 1 _ rfl, c 2 _ rfl, _, _, by rw [tvs_len], by rw [tvs_len]; omega, by omega, fun h0 => ⟨b, off + 3, rfl, hb, fun j hj i u hu => ?_⟩⟩
  rw [tvs_len] at hj
  have := hc (j + 1) (by simp; omega) i u (by simpa [tvs] using hu)
  rw [x.lo.cell (p := ⟨b, off + ((j + 1) * 3 + i), none⟩) hb] at this
  rw [show off + 3 + (j * 3 + i) = off + ((j + 1) * 3 + i) by omega]
  exact this
theorem PsW.cells {w0 w : World} {bv tv : Value} {D : Int} {l : List UInt8} {ts : M.Toks} (x : PsW w0 bv D l w tv ts) :
    w.cell? ⟨w0.heap.size, 0, none⟩ = some bv ∧ w.cell? ⟨w0.heap.size, 1, none⟩ = some tv ∧ w.cell? ⟨w0.heap.size, 2, none⟩ = some (.int .i64 D) := ⟨x.blk.cell 0, x.blk.cell 1, x.blk.cell 2⟩
theorem PsW.move {w0 w : World} {bv tv tv' : Value} {D : Int} {l : List UInt8} {ts ts' : M.Toks} (x : PsW w0 bv D l w tv ts) (h : Ts w0 tv' ts') :
    PsW w0 bv D l (w.setCell ⟨w0.heap.size, 1, none⟩ tv') tv' ts' ∧ Fr w0.heap.size w (w.setCell ⟨w0.heap.size, 1, none⟩ tv') :=
  ⟨⟨x.blk.setCell 1 tv', x.lo.setCell (p := ⟨w0.heap.size, 1, none⟩) (Nat.le_refl _) tv', x.bs, h, x.tb, x.ll⟩, (Below.refl _ w).setCell (p := ⟨w0.heap.size, 1, none⟩) (Nat.le_refl _) tv', fun j _ hn => heap_setCell_other _ _ _ _ hn⟩
set_option maxRecDepth 100000 in
set_option maxHeartbeats 2000000 in
theorem kind_any {w0 w : World} {bv tv : Value} {D : Int} {l : List UInt8} {ts : M.Toks} (x : PsW w0 bv D l w tv ts) :
    Calls Tryz.prog 47 #[ptrP w0] w fun e w' => e = .returned (.int .i64 (kindP ts : Int)) ∧ w' = w := by
  unfold ptrP
  obtain ⟨c0, c1, c2⟩ := x.cells
  cases ts with
  | nil =>
    obtain ⟨a, cap, rfl, h1, h2, h3⟩ := x.toks
    simp only [List.length_nil] at *
    clear x h3 h1
    go_enter Tryz.func47, Tryz.ntmps47
    go_wp2
    go_ret
    exact ⟨rfl, rfl⟩
  | cons t r =>
    obtain ⟨b, off, cap, rfl, h1, h2, hb, d0, d1, d2, h3⟩ := x.first
    obtain ⟨n, hn⟩ : ∃ n, r.length = n := ⟨_, rfl⟩
    obtain ⟨k, hk⟩ : ∃ k : Int, (t.1 : Int) = k := ⟨_, rfl⟩
    simp only [kindP]
    rw [hn] at h1 h3 c1
    rw [hk] at d0 ⊢
    have q1 : ¬ ((n : Int) + 1 = 0) := by omega
    have q2 : (0 : Int) < (n : Int) + 1 := by omega
    clear x h3
    go_enter Tryz.func47, Tryz.ntmps47
    go_wp2
    go_ret
    exact ⟨rfl, rfl⟩
theorem infoTok1 : (Tryz.prog.info? 98).map (·.size) = some 3 := by kernel_rfl
theorem infoStop1 : (Tryz.prog.info? 68).map (·.size) = some 2 := by kernel_rfl
set_option maxRecDepth 100000 in
set_option maxHeartbeats 2000000 in
theorem unfit_any {w0 w : World} {bv tv : Value} {D : Int} {l : List UInt8} {ts : M.Toks} (x : PsW w0 bv D l w tv ts) :
    Calls Tryz.prog 31 #[ptrP w0] w fun e w' => e = .returned (.agg #[.int .i64 3, .int .i64 (atP l.length ts)]) ∧ Below w.heap.size w w' := by
  unfold ptrP
  have b0 := Lib.hid ((Below.refl w.heap.size w).alloc (Nat.le_refl _) (.cells #[.int .i64 0, .int .i64 0] 68))
  have K0 := Lib.hid (BK.new 68 w #[.int .i64 0, .int .i64 0])
  obtain ⟨W1, hW1⟩ : ∃ x, w.alloc (.cells #[.int .i64 0, .int .i64 0] 68) = x := ⟨_, rfl⟩
  rw [hW1] at b0 K0
  have x1 := x.keep b0.out
  have HW1 := Lib.hid hW1
  have k0 : W1.cell? ⟨w.heap.size, 0, none⟩ = some (.int .i64 0) := K0.out.cell 0
  have k1 : W1.cell? ⟨w.heap.size, 1, none⟩ = some (.int .i64 0) := K0.out.cell 1
  have z0 : W1.frozen? ⟨w.heap.size, 0, none⟩ = false := frozen_of_row _ _ _ _ _ K0.out
  have z1 : W1.frozen? ⟨w.heap.size, 1, none⟩ = false := frozen_of_row _ _ _ _ _ K0.out
  obtain ⟨c0, c1, c2⟩ := x1.cells
  obtain ⟨ba, bcap, hbv, g1, g2, g3⟩ := x.bs
  subst hbv
  obtain ⟨m, hm⟩ : ∃ n, l.length = n := ⟨_, rfl⟩
  rw [hm] at c0 ⊢
  clear hW1
  cases ts with
  | nil =>
    obtain ⟨a, cap, rfl, h1, h2, h3⟩ := x1.toks
    simp only [List.length_nil] at *
    clear x x1 h3 h1 g3 g1
    go_enter Tryz.func31, Tryz.ntmps31
    go_upto_region 1 with fail
    rw [HW1.out]
    go_wp2
    refine bodyPost_ret (res_bk Tryz.underlying68 rfl infoStop1 rfl _ _ w.heap.size [.int .i64 3, .int .i64 (m : Int)] rfl ((K0.out.setCell 0 _).setCell 1 _) rfl) rfl ⟨rfl, (b0.out.setCell (p := ⟨w.heap.size, 0, none⟩) (Nat.le_refl _) _).setCell (p := ⟨w.heap.size, 1, none⟩) (Nat.le_refl _) _⟩
  | cons t r =>
    obtain ⟨b, off, cap, rfl, h1, h2, hb, d0, d1, d2, h3⟩ := x1.first
    obtain ⟨n, hn⟩ : ∃ n, r.length = n := ⟨_, rfl⟩
    obtain ⟨k, hk⟩ : ∃ k : Int, (t.2.1 : Int) = k := ⟨_, rfl⟩
    simp only [atP]
    rw [hn] at h1 h3 c1
    rw [hk] at d1 ⊢
    have q2 : (0 : Int) < (n : Int) + 1 := by omega
    clear x x1 h3 g3 g1
    go_enter Tryz.func31, Tryz.ntmps31
    go_upto_region 1 with fail
    rw [HW1.out]
    go_wp2
    refine bodyPost_ret (res_bk Tryz.underlying68 rfl infoStop1 rfl _ _ w.heap.size [.int .i64 3, .int .i64 k] rfl ((K0.out.setCell 0 _).setCell 1 _) rfl) rfl ⟨rfl, (b0.out.setCell (p := ⟨w.heap.size, 0, none⟩) (Nat.le_refl _) _).setCell (p := ⟨w.heap.size, 1, none⟩) (Nat.le_refl _) _⟩
end Go.Proofs.YtlobinjdgcidmaaGreatDoor
