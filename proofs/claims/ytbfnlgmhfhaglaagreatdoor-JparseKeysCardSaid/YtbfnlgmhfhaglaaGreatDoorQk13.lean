/- Texts of ours in one: JgN. -/
import Derived.Test.YtbfnlgmhfhaglaaGreatDoorQk12
import Derived.Test.YtbfnlgmhfhaglaaGreatDoorQk10
import Derived.Test.YtbfnlgmhfhaglaaGreatDoorQk00
import Derived.Deep.RegionWith
import Derived.Lib.AppendIntMem
import Derived.Lib.SmallJoins
import Derived.Test.YtbfnlgmhfhaglaaGreatDoorQk02
import Derived.Deep.RegionHeld3
/- Several texts of ours in one: NRead NRead2 NRight. -/
/- Numbers: a text is read. -/
namespace Go.Proofs.YtbfnlgmhfhaglaaGreatDoor
open Go.RowKit
set_option linter.unusedVariables false
set_option linter.unusedSimpArgs false

def numV (n : M.NumV) : Array Value := #[.bool n.1, .string (bytes n.2.1), .string (bytes n.2.2)]
theorem bcell {W w1 : World} (hb : Below W.heap.size W w1) : (∀ b o, b < W.heap.size → w1.cell? ⟨b, o, none⟩ = W.cell? ⟨b, o, none⟩) ∧ (∀ b o, b < W.heap.size → w1.frozen? ⟨b, o, none⟩ = W.frozen? ⟨b, o, none⟩) :=
  ⟨fun b o h => hb.cell (p := ⟨b, o, none⟩) h, fun b o h => hb.frozen (p := ⟨b, o, none⟩) h⟩
theorem decD (u : Nat) : Lib.decDigits u = M.decS u := by
  induction u using Nat.strongRecOn with
  | ind u ih =>
    rw [Lib.decDigits]
    by_cases h : u < 10
    · rw [dif_pos h, M.decS_small u (by omega)]
      unfold M.ofD
      rw [show u % 10 = u by omega]
    · rw [dif_neg h, ih (u / 10) (by omega), M.decS_step u (by omega)]
      rfl
theorem itoa_txt (z : Int) : Lib.itoa z = M.txt z := by
  unfold Lib.itoa
  rw [decD, decD]
  rcases M.txt_cases z with ⟨h, e⟩ | ⟨h, e⟩
  · rw [if_neg (by omega), e, show z.toNat = z.natAbs by omega]
  · rw [if_pos h, e]
theorem itoa_any (z : Int) (w : World) (h1 : -100000000 ≤ z) (h2 : z ≤ 100000000) (hT : Tabs w) :
    Calls Tryz.prog 121 #[.int .i64 z] w fun e w' => e = .returned (.string (bytes (M.txt z))) ∧ Below w.heap.size w w' := by
  have h := Tryz.strconv_Itoa z (by omega) (by omega) w hT.p
  rw [itoa_txt] at h
  exact h.mono fun e w' ⟨he, k, os, hw⟩ => ⟨he, by rw [hw]; exact Lib.below_grow _ _ (Nat.le_refl _) _ _⟩
set_option maxRecDepth 100000 in
set_option maxHeartbeats 1000000 in
theorem plus_any (a z r : Int) (w : World) (hl : (M.txt a).length ≤ 100000) (h1 : -100000000 ≤ z) (h2 : z ≤ 100000000) (hT : Tabs w) (hr : a + z = r) :
    Calls Tryz.prog 93 #[.string (bytes (M.txt a)), .int .i64 z] w fun e w' => e = .returned (.string (bytes (M.txt r))) ∧ Below w.heap.size w w' := by
  have I1 := Lib.hid (itoa_any z w h1 h2 hT)
  have hzl := M.txt_len z 9 (by omega) (by omega)
  have hs := M.add_right (M.txt a) (M.txt z) (M.val_txt a).2 (M.val_txt z).2
  rw [(M.val_txt a).1, (M.val_txt z).1, hr] at hs
  have A1 := Lib.hid (fun w => add_any (M.txt a) (M.txt z) _ w hl (by omega) hs)
  unfold strB at A1
  obtain ⟨SA, hSA⟩ : ∃ S, bytes (M.txt a) = S := ⟨_, rfl⟩
  obtain ⟨SZ, hSZ⟩ : ∃ S, bytes (M.txt z) = S := ⟨_, rfl⟩
  obtain ⟨SR, hSR⟩ : ∃ S, bytes (M.txt r) = S := ⟨_, rfl⟩
  simp only [hSA, hSZ, hSR] at A1 I1 ⊢
  clear hs hSA hSZ hSR hr hzl hl hT
  go_enter Tryz.func93, Tryz.ntmps93
  go_wp2_with fail
  refine I1.out.mono ?_
  rintro e w1 ⟨rfl, hb1⟩
  go_wp2_with fail
  refine (A1.out _).mono ?_
  rintro e w2 ⟨rfl, hb2⟩
  go_wp2
  go_ret
  exact ⟨rfl, hb1.trans (hb2.mono hb1.size)⟩
set_option maxRecDepth 100000 in
set_option maxHeartbeats 1000000 in
theorem expo_any (p : M.Parts) (r : List UInt8) (w : World) (hl : p.2.2.2.2.2.length ≤ 1000000) (hr : M.sgn p.2.2.2.2.1 p.2.2.2.2.2 = r) :
    Calls Tryz.prog 94 #[.agg (partsV p)] w fun e w' => e = .returned (.string (bytes r)) ∧ w' = w.alloc (.cells (partsV p) 114) := by
  obtain ⟨a, W, F, he, ng, G⟩ := p
  simp only at hl hr
  subst hr
  have T1 := fun w => Tryz.strings_TrimLeft_one (bytes G) 48 (by decide) w
  rw [bytes_list, show (⟨(Lib.trimLeftB G 48).toArray⟩ : ByteArray) = bytes (M.strip G) from rfl] at T1
  have hsl := strip_len G
  unfold partsV M.sgn
  simp only
  obtain ⟨SG, hSG⟩ : ∃ S, bytes G = S := ⟨_, rfl⟩
  obtain ⟨ST, hST⟩ : ∃ S, bytes (M.strip G) = S := ⟨_, rfl⟩
  rw [hSG, hST] at T1
  have HT := Lib.hid T1
  rw [hSG]
  obtain ⟨SW, hSW⟩ : ∃ S, bytes W = S := ⟨_, rfl⟩
  obtain ⟨SF, hSF⟩ : ∃ S, bytes F = S := ⟨_, rfl⟩
  rw [hSW, hSF]
  clear T1 hSG hSW hSF
  by_cases h0 : M.strip G = []
  · rw [if_pos h0]
    obtain ⟨e1, e2, e3⟩ := str_nil ST _ hST h0
    clear h0 hST hl hsl
    go_enter Tryz.func94, Tryz.ntmps94
    go_wp2_with fail
    refine (HT.out _).mono ?_
    rintro e w' ⟨rfl, rfl⟩
    go_wp2
    go_ret
    exact ⟨rfl, rfl⟩
  · rw [if_neg h0]
    obtain ⟨e1, e2, e3⟩ := str_ne ST _ hST h0
    have hsz : ST.size ≤ 1000000 := by rw [← hST, bytes_size]; omega
    have a1 : ∀ W, (Op.stringOp .add (ByteArray.mk #[45]) ST).run Tryz.prog W = .ok (.string (ByteArray.mk #[45] ++ ST)) W := fun W => run_string_add W _ _ (by rw [show (ByteArray.mk #[45]).size = 1 from rfl]; decide) (by omega)
    have hcat : ByteArray.mk #[45] ++ ST = bytes (45 :: M.strip G) := by
      rw [← hST]; apply ByteArray.ext; simp [bytes]
    have Hcat := Lib.hid hcat
    have HST := Lib.hid hST
    clear h0 hST hl hsl hcat
    cases ng with
    | false =>
      go_enter Tryz.func94, Tryz.ntmps94
      go_wp2_with fail
      refine (HT.out _).mono ?_
      rintro e w' ⟨rfl, rfl⟩
      go_wp2
      go_ret
      exact ⟨by rw [← HST.out]; rfl, rfl⟩
    | true =>
      go_enter Tryz.func94, Tryz.ntmps94
      go_wp2_with fail
      refine (HT.out _).mono ?_
      rintro e w' ⟨rfl, rfl⟩
      go_wp2
      go_ret
      exact ⟨by rw [← Hcat.out]; rfl, rfl⟩
end Go.Proofs.YtbfnlgmhfhaglaaGreatDoor

/- Numbers: a text is read, whole. -/
namespace Go.Proofs.YtbfnlgmhfhaglaaGreatDoor
open Go.RowKit
set_option linter.unusedVariables false
set_option linter.unusedSimpArgs false

theorem divW_dig (l : List UInt8) (p : M.Parts) (h : M.divW l = (p, true)) : (∀ c ∈ p.2.1 ++ p.2.2.1, M.dig c = true) ∧ (∀ c ∈ p.2.2.2.2.2, M.dig c = true) ∧ (p.2.1 ++ p.2.2.1).length ≤ l.length ∧ p.2.2.2.2.2.length ≤ l.length := by
  obtain ⟨a, s1, hcs⟩ : ∃ a s1, M.csign l = (a, s1) := ⟨_, _, rfl⟩
  have l1 := csign_len l a s1 hcs
  have e1 := congrArg List.length (M.dg_rs s1)
  rw [List.length_append] at e1
  have hE : ∀ (F s3 : List UInt8), (∀ c ∈ F, M.dig c = true) → (M.dg s1).length + F.length + s3.length ≤ l.length → M.divE a (M.dg s1) F s3 = (p, true) → (∀ c ∈ p.2.1 ++ p.2.2.1, M.dig c = true) ∧ (∀ c ∈ p.2.2.2.2.2, M.dig c = true) ∧ (p.2.1 ++ p.2.2.1).length ≤ l.length ∧ p.2.2.2.2.2.length ≤ l.length := by
    intro F s3 hF hle h
    unfold M.divE at h
    have hd : ∀ c ∈ M.dg s1 ++ F, M.dig c = true := fun c hc => (List.mem_append.1 hc).elim (M.dg_dig s1 c) (hF c)
    split at h
    · simp only [Prod.mk.injEq] at h
      obtain ⟨rfl, _⟩ := h
      have h2 := csign_len s3.tail _ _ rfl
      have h3 := dg_len (M.csign s3.tail).2 _ rfl
      refine ⟨hd, M.dg_dig _, by simp only [List.length_append]; omega, ?_⟩
      simp only
      have h4 : s3.tail.length ≤ s3.length := by simp
      exact Nat.le_trans h3 (Nat.le_trans h2 (by omega))
    · simp only [Prod.mk.injEq] at h
      obtain ⟨rfl, _⟩ := h
      exact ⟨hd, by simp, by simp only [List.length_append]; omega, by simp⟩
  unfold M.divW at h
  rw [hcs] at h
  simp only at h
  split at h
  · split at h
    · simp at h
    · refine hE _ _ (M.dg_dig _) ?_ h
      have e2 := congrArg List.length (M.dg_rs (M.rs s1).tail)
      rw [List.length_append] at e2
      have : (M.rs s1).tail.length ≤ (M.rs s1).length := by simp
      omega
  · split at h
    · simp at h
    · exact hE [] _ (by simp) (by simp only [List.length_nil]; omega) h
theorem agg3 {a0 b0 : Bool} {a1 b1 a2 b2 : ByteArray} {c d : Bool} (h0 : a0 = b0) (h1 : a1 = b1) (h2 : a2 = b2) (h6 : c = d) :
    Ending.returned (.tuple #[.agg #[.bool a0, .string a1, .string a2], .bool c]) = .returned (.tuple #[.agg #[.bool b0, .string b1, .string b2], .bool d]) := by rw [h0, h1, h2, h6]
theorem keep3 {w w1 : World} {c0 c1 c2 : Value} {T : TypeId} (h : Below (w.alloc (.cells #[c0, c1, c2] T)).heap.size (w.alloc (.cells #[c0, c1, c2] T)) w1) :
    (w1.cell? ⟨w.heap.size, 0, none⟩ = some c0 ∧ w1.cell? ⟨w.heap.size, 1, none⟩ = some c1 ∧ w1.cell? ⟨w.heap.size, 2, none⟩ = some c2) ∧
    (w1.frozen? ⟨w.heap.size, 0, none⟩ = false ∧ w1.frozen? ⟨w.heap.size, 1, none⟩ = false ∧ w1.frozen? ⟨w.heap.size, 2, none⟩ = false) ∧ w.heap.size < w1.heap.size ∧ Below w.heap.size w w1 := by
  obtain ⟨hc, hf⟩ := bcell h
  have hs := h.size
  simp only [World.size_alloc] at hs
  refine ⟨⟨?_, ?_, ?_⟩, ⟨?_, ?_, ?_⟩, by omega, ((Below.refl _ _).alloc (Nat.le_refl _) _).trans (h.mono (by simp))⟩
  · rw [hc _ _ (by simp), World.cell?_alloc_at _ _ _ _ rfl]; rfl
  · rw [hc _ _ (by simp), World.cell?_alloc_at _ _ _ _ rfl]; rfl
  · rw [hc _ _ (by simp), World.cell?_alloc_at _ _ _ _ rfl]; rfl
  · rw [hf _ _ (by simp)]; exact World.frozen?_alloc_at _ _ _ _ rfl
  · rw [hf _ _ (by simp)]; exact World.frozen?_alloc_at _ _ _ _ rfl
  · rw [hf _ _ (by simp)]; exact World.frozen?_alloc_at _ _ _ _ rfl
set_option maxRecDepth 100000 in
set_option maxHeartbeats 4000000 in
theorem read_any (l : List UInt8) (r : M.NumV) (ok : Bool) (w : World) (hT : Tabs w) (hl : l.length ≤ 90000) (hr : M.readN l = (r, ok)) :
    Calls Tryz.prog 68 #[.string (bytes l)] w fun e w' => e = .returned (.tuple #[.agg (numV r), .bool ok]) ∧ Below w.heap.size w w' := by
  obtain ⟨p, okp, hp⟩ : ∃ p o, M.divW l = (p, o) := ⟨_, _, rfl⟩
  have D1 := Lib.hid (fun w => divide_any l p okp w (by omega) hp)
  unfold M.readN at hr
  rw [hp] at hr
  simp only at hr
  obtain ⟨SL, hSL⟩ : ∃ S, bytes l = S := ⟨_, rfl⟩
  rw [hSL] at D1 ⊢
  clear hSL
  cases okp with
  | false =>
    simp only [Bool.false_eq_true, if_false, Prod.mk.injEq] at hr
    obtain ⟨rfl, rfl⟩ := hr
    clear hp
    go_enter Tryz.func68, Tryz.ntmps68
    go_wp2_with fail
    refine (D1.out _).mono ?_
    rintro e w1 ⟨rfl, hb1⟩
    obtain ⟨⟨g0, g1, g2⟩, ⟨z0, z1, z2⟩, hs1, hb0⟩ := keep3 hb1
    have hne : w1.heap.size ≠ w.heap.size := by omega
    clear hb1
    unfold partsV
    go_wp2
    refine bodyPost_ret (v := .tuple #[.agg #[.bool false, .string ⟨#[]⟩, .string ⟨#[]⟩], .bool false]) (by simp [results, Tryz.results68, go_sem, g0, g1, g2, hs1]) rfl ⟨rfl, by repeat (first | with_reducible exact hb0 | with_reducible refine Below.setCell ?_ (by simp) _ | with_reducible refine below_drewN ?_ _ | with_reducible refine Below.drew ?_ | with_reducible refine Below.alloc ?_ (by simp; omega) _)⟩
  | true =>
    obtain ⟨q1, q2, q3, q4⟩ := divW_dig l p hp
    simp only [if_true, Prod.mk.injEq] at hr
    obtain ⟨rfl, rfl⟩ := hr
    obtain ⟨a, W, F, he, ng, G⟩ := p
    simp only at q1 q2 q3 q4
    obtain ⟨X, hX⟩ : ∃ X, M.expV (a, W, F, he, ng, G) = X := ⟨_, rfl⟩
    have hsg := M.sgn_txt ng G q2
    have hX2 : M.sgn ng G = M.txt X := by rw [hsg, ← hX]; rfl
    simp only [hX]
    have X1 := Lib.hid (fun w => expo_any (a, W, F, he, ng, G) _ w (by simp only; omega) hX2)
    have hXl : (M.txt X).length ≤ 90001 := by
      rw [← hX2]; unfold M.sgn; have := strip_len G
      split
      · simp
      · split <;> simp <;> omega
    obtain ⟨L, hL⟩ : ∃ L, W ++ F = L := ⟨_, rfl⟩
    rw [hL] at q1 q3 ⊢
    obtain ⟨d, hd⟩ : ∃ x, M.strip L = x := ⟨_, rfl⟩
    have hdl := strip_len L
    obtain ⟨s, hs⟩ : ∃ x, M.rstrip d = x := ⟨_, rfl⟩
    have hsl := M.rstrip_len d
    rw [hd] at hdl
    rw [hs] at hsl
    unfold M.norm
    rw [hd, hs]
    have T1 := fun w => Tryz.strings_TrimLeft_one (bytes L) 48 (by decide) w
    rw [bytes_list, show (⟨(Lib.trimLeftB L 48).toArray⟩ : ByteArray) = bytes (M.strip L) from rfl, hd] at T1
    have T2 := fun w => Tryz.strings_TrimRight_one (bytes d) 48 (by decide) w (by rw [bytes_size]; omega)
    rw [bytes_list, show (⟨(Lib.trimRightB d 48).toArray⟩ : ByteArray) = bytes (M.rstrip d) from rfl, hs] at T2
    obtain ⟨f, hf⟩ : ∃ f, F.length = f := ⟨_, rfl⟩
    have hfl : f ≤ L.length := by rw [← hL, ← hf]; simp
    have hcat : bytes W ++ bytes F = bytes L := by rw [← hL]; apply ByteArray.ext; simp [bytes]
    have zW : (bytes W).size ≤ 90000 := by rw [bytes_size]; have : W.length ≤ L.length := (by rw [← hL]; simp); omega
    have zF : (bytes F).size = f := by rw [bytes_size, hf]
    have zd : (bytes d).size = d.length := bytes_size d
    have zs : (bytes s).size = s.length := bytes_size s
    unfold partsV at D1 X1
    simp only at D1 X1
    obtain ⟨SW, hSW⟩ : ∃ S, bytes W = S := ⟨_, rfl⟩
    obtain ⟨SF, hSF⟩ : ∃ S, bytes F = S := ⟨_, rfl⟩
    obtain ⟨SG, hSG⟩ : ∃ S, bytes G = S := ⟨_, rfl⟩
    obtain ⟨SQ, hSQ⟩ : ∃ S, bytes L = S := ⟨_, rfl⟩
    obtain ⟨SD, hSD⟩ : ∃ S, bytes d = S := ⟨_, rfl⟩
    obtain ⟨SS, hSS⟩ : ∃ S, bytes s = S := ⟨_, rfl⟩
    obtain ⟨SX, hSX⟩ : ∃ S, bytes (M.txt X) = S := ⟨_, rfl⟩
    rw [hSW, hSF, hSG] at D1 X1
    rw [hSX] at X1
    rw [hSQ, hSD] at T1
    rw [hSD, hSS] at T2
    rw [hSW, hSF, hSQ] at hcat
    rw [hSW] at zW
    rw [hSF] at zF
    rw [hSD] at zd
    rw [hSS] at zs
    have a1 : ∀ W, (Op.stringOp .add SW SF).run Tryz.prog W = .ok (.string SQ) W := fun W => by rw [run_string_add W _ _ (by omega) (by omega), hcat]
    have HT1 := Lib.hid T1
    have HT2 := Lib.hid T2
    have HT := Lib.hid hT
    have HSS := Lib.hid hSS
    have HSX := Lib.hid hSX
    obtain ⟨D, hDn⟩ : ∃ D, d.length = D := ⟨_, rfl⟩
    obtain ⟨N, hNn⟩ : ∃ D, s.length = D := ⟨_, rfl⟩
    rw [hDn] at zd hdl hsl ⊢
    rw [hNn] at zs hsl ⊢
    have hq : (s = [] ∧ SS.toList.isEmpty = true ∧ SS.toList = []) ∨ (s ≠ [] ∧ SS.toList.isEmpty = false ∧ (!SS.toList.isEmpty) = true) := by
      by_cases h : s = []
      · have := str_nil SS s hSS h; exact .inl ⟨h, this.2.1, this.1⟩
      · have := str_ne SS s hSS h; exact .inr ⟨h, this.1, this.2.1⟩
    have y1 : SD.size ≤ 90000 := by omega
    have y2 : SS.size ≤ 90000 := by omega
    have y3 : SF.size ≤ 90000 := by omega
    have Zd := Lib.hid zd
    have Zs := Lib.hid zs
    have Zf := Lib.hid zF
    have HF := Lib.hid hf
    clear hp T1 T2 hT hSW hSF hSG hSQ hSD hSS hSX hL hd hs hf hcat q1 q2 hX hsg hX2 hDn hNn zd zs zF
    rcases hq with ⟨k1, k2, k3⟩ | ⟨k1, k2, k3⟩
    · subst k1
      rw [if_pos rfl]
      go_enter Tryz.func68, Tryz.ntmps68
      go_wp2_with fail
      refine (D1.out _).mono ?_
      rintro e w1 ⟨rfl, hb1⟩
      obtain ⟨⟨g0, g1, g2⟩, ⟨z0, z1, z2⟩, hs1, hb0⟩ := keep3 hb1
      have hne : w1.heap.size ≠ w.heap.size := by omega
      clear hb1
      go_wp2_with fail
      refine (HT1.out _).mono ?_
      rintro e w' ⟨rfl, rfl⟩
      go_wp2_with fail
      refine (HT2.out _).mono ?_
      rintro e w' ⟨rfl, rfl⟩
      go_wp2
      refine bodyPost_ret (v := .tuple #[.agg #[.bool a, .string ⟨#[]⟩, .string ⟨#[]⟩], .bool true]) (by simp [results, Tryz.results68, go_sem, g0, g1, g2, hs1]) rfl ⟨rfl, by repeat (first | with_reducible exact hb0 | with_reducible refine Below.setCell ?_ (by simp) _ | with_reducible refine below_drewN ?_ _ | with_reducible refine Below.drew ?_ | with_reducible refine Below.alloc ?_ (by simp; omega) _)⟩
    · rw [if_neg k1]
      have K1 := Lib.hid k1
      clear k1
      go_enter Tryz.func68, Tryz.ntmps68
      go_wp2_with fail
      refine (D1.out _).mono ?_
      rintro e w1 ⟨rfl, hb1⟩
      obtain ⟨⟨g0, g1, g2⟩, ⟨z0, z1, z2⟩, hs1, hb0⟩ := keep3 hb1
      have hne : w1.heap.size ≠ w.heap.size := by omega
      clear hb1
      go_wp2_with fail
      refine (HT1.out _).mono ?_
      rintro e w' ⟨rfl, rfl⟩
      go_wp2_with fail
      refine (HT2.out _).mono ?_
      rintro e w' ⟨rfl, rfl⟩
      go_wp2_with fail
      have q1 := Zd.out
      have q2 := Zs.out
      have q3 := Zf.out
      rw [q1, q2, q3]
      obtain ⟨X0, hX0⟩ : ∃ W, w1.alloc (.cells #[.bool a, .string SW, .string SF, .bool he, .bool ng, .string SG] 114) = W := ⟨_, rfl⟩
      have zX : X0.heap.size = w1.heap.size + 1 := by rw [← hX0]; simp
      have dX : Below w1.heap.size w1 X0 := by rw [← hX0]; exact (Below.refl _ _).alloc (Nat.le_refl _) _
      have hb3 := hb0.trans (dX.mono hb0.size)
      have hk : ∀ W, Below X0.heap.size X0 W → (W.cell? ⟨w1.heap.size, 0, none⟩ = some (.bool a) ∧ W.cell? ⟨w1.heap.size, 1, none⟩ = some (.string SW) ∧ W.cell? ⟨w1.heap.size, 2, none⟩ = some (.string SF) ∧ W.cell? ⟨w1.heap.size, 3, none⟩ = some (.bool he) ∧ W.cell? ⟨w1.heap.size, 4, none⟩ = some (.bool ng) ∧ W.cell? ⟨w1.heap.size, 5, none⟩ = some (.string SG) ∧ W.cell? ⟨w.heap.size, 0, none⟩ = some (.bool false) ∧ W.cell? ⟨w.heap.size, 1, none⟩ = some (.string ⟨#[]⟩) ∧ W.cell? ⟨w.heap.size, 2, none⟩ = some (.string ⟨#[]⟩) ∧ W.frozen? ⟨w.heap.size, 0, none⟩ = false ∧ W.frozen? ⟨w.heap.size, 1, none⟩ = false ∧ W.frozen? ⟨w.heap.size, 2, none⟩ = false) := by
        intro W hW
        obtain ⟨hc, hf⟩ := bcell hW
        obtain ⟨hc2, hf2⟩ := bcell dX
        have hsz := hW.size
        refine ⟨?_, ?_, ?_, ?_, ?_, ?_, ?_, ?_, ?_, ?_, ?_, ?_⟩
        · rw [hc _ _ (by omega), ← hX0, World.cell?_alloc_at _ _ _ _ rfl]; rfl
        · rw [hc _ _ (by omega), ← hX0, World.cell?_alloc_at _ _ _ _ rfl]; rfl
        · rw [hc _ _ (by omega), ← hX0, World.cell?_alloc_at _ _ _ _ rfl]; rfl
        · rw [hc _ _ (by omega), ← hX0, World.cell?_alloc_at _ _ _ _ rfl]; rfl
        · rw [hc _ _ (by omega), ← hX0, World.cell?_alloc_at _ _ _ _ rfl]; rfl
        · rw [hc _ _ (by omega), ← hX0, World.cell?_alloc_at _ _ _ _ rfl]; rfl
        · rw [hc _ _ (by omega), hc2 _ _ hs1]; exact g0
        · rw [hc _ _ (by omega), hc2 _ _ hs1]; exact g1
        · rw [hc _ _ (by omega), hc2 _ _ hs1]; exact g2
        · rw [hf _ _ (by omega), hf2 _ _ hs1]; exact z0
        · rw [hf _ _ (by omega), hf2 _ _ hs1]; exact z1
        · rw [hf _ _ (by omega), hf2 _ _ hs1]; exact z2
      have PL := Lib.hid (fun (W : World) (hW : Below X0.heap.size X0 W) => plus_any X (D - N - f) _ W (by omega) (by omega) (by omega) (HT.out.keep (hb3.trans (hW.mono hb3.size))) rfl)
      simp only [HSX.out] at PL
      have HK := Lib.hid hk
      have B0 : Hid (Below X0.heap.size X0 X0.drew) := Lib.hid (Below.refl _ _).drew
      have B1 : Hid (∀ o : Obj, Below X0.heap.size X0 (X0.alloc o).drew) := Lib.hid (fun o => ((Below.refl _ _).alloc (Nat.le_refl _) o).drew)
      have B2 : Hid (∀ (o : Obj) (w5 : World), Below (X0.alloc o).drew.heap.size (X0.alloc o).drew w5 → Below X0.heap.size X0 w5) := Lib.hid (fun o w5 h => (((Below.refl _ _).alloc (Nat.le_refl _) o).drew).trans (h.mono (by show _ ≤ (X0.alloc o).heap.size; simp)))
      have HB3 := Lib.hid hb3
      rw [hX0]
      clear hX0 hk g0 g1 g2 z0 z1 z2 hb0 dX hb3 q1 q2 q3
      have HS : Hid (∀ W, Below X0.heap.size X0 W → (W.cell? ⟨w1.heap.size, 0, none⟩ = some (.bool a) ∧ W.cell? ⟨w1.heap.size, 1, none⟩ = some (.string SW) ∧ W.cell? ⟨w1.heap.size, 2, none⟩ = some (.string SF) ∧ W.cell? ⟨w1.heap.size, 3, none⟩ = some (.bool he) ∧ W.cell? ⟨w1.heap.size, 4, none⟩ = some (.bool ng) ∧ W.cell? ⟨w1.heap.size, 5, none⟩ = some (.string SG))) := Lib.hid (fun W h => ⟨(HK.out W h).1, (HK.out W h).2.1, (HK.out W h).2.2.1, (HK.out W h).2.2.2.1, (HK.out W h).2.2.2.2.1, (HK.out W h).2.2.2.2.2.1⟩)
      go_region_held3 (fun W : World => W.cell? ⟨w1.heap.size, 0, none⟩ = some (.bool a) ∧ W.cell? ⟨w1.heap.size, 1, none⟩ = some (.string SW) ∧ W.cell? ⟨w1.heap.size, 2, none⟩ = some (.string SF) ∧ W.cell? ⟨w1.heap.size, 3, none⟩ = some (.bool he) ∧ W.cell? ⟨w1.heap.size, 4, none⟩ = some (.bool ng) ∧ W.cell? ⟨w1.heap.size, 5, none⟩ = some (.string SG))
        (first
          | with_reducible exact HS.out _ B0.out
          | with_reducible exact HS.out _ (B1.out _)
          | with_reducible exact HS.out _ (B2.out _ _ hb5)
          | (refine ⟨?_, ?_, ?_, ?_, ?_, ?_⟩ <;> simp [go_sem, r0, r1, r2, r3, r4, r5, hs1, hne, hne.symm]))
        (first
          | (go_at_call 94; refine (X1.out _).mono ?_; rintro e w' ⟨rfl, rfl⟩)
          | (go_at_call 93; refine (PL.out _ (B1.out _)).mono ?_; rintro e w5 ⟨rfl, hb5⟩; obtain ⟨r0, r1, r2, r3, r4, r5, g0, g1, g2, z0, z1, z2⟩ := HK.out w5 (B2.out _ _ hb5)))
      all_goals
        have hb6 := HB3.out.trans ((B2.out _ _ hb5).mono HB3.out.size)
        clear hb5
        go_wp2
        exact bodyPost_ret (v := .tuple #[.agg #[.bool a, .string SS, .string (bytes (M.txt (X + ((D : Int) - N - f))))], .bool true]) (by simp [results, Tryz.results68, go_sem, g0, g1, g2]) rfl
          ⟨agg3 rfl HSS.out.symm (by rw [show X + ((D : Int) - N - f) = X - F.length + ((D : Int) - N - 0) by rw [HF.out]; omega]) rfl, ((hb6.setCell (by simp) _).setCell (by simp) _).setCell (by simp) _⟩
end Go.Proofs.YtbfnlgmhfhaglaaGreatDoor

/- Numbers: may one be; its text without a power. -/
namespace Go.Proofs.YtbfnlgmhfhaglaaGreatDoor
open Go.RowKit
set_option linter.unusedVariables false
set_option linter.unusedSimpArgs false

end Go.Proofs.YtbfnlgmhfhaglaaGreatDoor
