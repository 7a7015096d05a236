/- Numbers: a text is read, whole. -/
import Derived.Test.YtpecaalpbeoolaaGreatDoorNRead
import Derived.Deep.RegionHeld3
namespace Go.Proofs.YtpecaalpbeoolaaGreatDoor
open Go.RowKit
set_option linter.unusedVariables false
set_option linter.unusedSimpArgs false

theorem divW_dig (l : List UInt8) (p : M.Parts) (h : M.divW l = (p, true)) : (∀ c ∈ p.2.1 ++ p.2.2.1, M.dig c = true) ∧ (∀ c ∈ p.2.2.2.2.2, M.dig c = true) ∧ (p.2.1 ++ p.2.2.1).length ≤ l.length ∧ p.2.2.2.2.2.length ≤ l.length := by
  obtain ⟨a, s1, hcs⟩ : ∃ a s1, M.csign l = (a, s1) := ⟨_, _, rfl⟩
  have l1 := csign_len l a s1 hcs
  have e1 := congrArg List.length (M.dg_rs s1)
  rw [List.length_append] at e1
  have hE : ∀ (F s3 : List UInt8), (∀ c ∈ F, M.dig c = true) → (M.dg s1).length + F.length + s3.length ≤ l.length → M.divE a (M.dg s1) F s3 = (p, true) → (∀ c ∈ p.2.1 ++ p.2.2.1, M.dig c = true) ∧ (∀ c ∈ p.2.2.2.2.2, M.dig c = true) ∧ (p.2.1 ++ p.2.2.1).length ≤ l.length ∧ p.2.2.2.2.2.length ≤ l.length := by
    intro F s3 hF hle h
    unfold M.divE at h
    have hd : ∀ c ∈ M.dg s1 ++ F, M.dig c = true := fun c hc => (List.mem_append.1 hc).elim (M.dg_dig s1 c) (hF c)
    split at h
    · simp only [Prod.mk.injEq] at h
      obtain ⟨rfl, _⟩ := h
      have h2 := csign_len s3.tail _ _ rfl
      have h3 := dg_len (M.csign s3.tail).2 _ rfl
      refine ⟨hd, M.dg_dig _, by simp only [List.length_append]; omega, ?_⟩
      simp only
      have h4 : s3.tail.length ≤ s3.length := by simp
      exact Nat.le_trans h3 (Nat.le_trans h2 (by omega))
    · simp only [Prod.mk.injEq] at h
      obtain ⟨rfl, _⟩ := h
      exact ⟨hd, by simp, by simp only [List.length_append]; omega, by simp⟩
  unfold M.divW at h
  rw [hcs] at h
  simp only at h
  split at h
  · split at h
    · simp at h
    · refine hE _ _ (M.dg_dig _) ?_ h
      have e2 := congrArg List.length (M.dg_rs (M.rs s1).tail)
      rw [List.length_append] at e2
      have : (M.rs s1).tail.length ≤ (M.rs s1).length := by simp
      omega
  · split at h
    · simp at h
    · exact hE [] _ (by simp) (by simp only [List.length_nil]; omega) h
theorem agg3 {a0 b0 : Bool} {a1 b1 a2 b2 : ByteArray} {c d : Bool} (h0 : a0 = b0) (h1 : a1 = b1) (h2 : a2 = b2) (h6 : c = d) :
    Ending.returned (.tuple #[.agg #[.bool a0, .string a1, .string a2], .bool c]) = .returned (.tuple #[.agg #[.bool b0, .string b1, .string b2], .bool d]) := by rw [h0, h1, h2, h6]
/-- A row of three cells, laid ahead of a call that turns nothing of what was there. -/
theorem keep3 {w w1 : World} {c0 c1 c2 : Value} {T : TypeId} (h : Below (w.alloc (.cells #[c0, c1, c2] T)).heap.size (w.alloc (.cells #[c0, c1, c2] T)) w1) :
    (w1.cell? ⟨w.heap.size, 0, none⟩ = some c0 ∧ w1.cell? ⟨w.heap.size, 1, none⟩ = some c1 ∧ w1.cell? ⟨w.heap.size, 2, none⟩ = some c2) ∧
    (w1.frozen? ⟨w.heap.size, 0, none⟩ = false ∧ w1.frozen? ⟨w.heap.size, 1, none⟩ = false ∧ w1.frozen? ⟨w.heap.size, 2, none⟩ = false) ∧ w.heap.size < w1.heap.size ∧ Below w.heap.size w w1 := by
  obtain ⟨hc, hf⟩ := bcell h
  have hs := h.size
  simp only [World.size_alloc] at hs
  refine ⟨⟨?_, ?_, ?_⟩, ⟨?_, ?_, ?_⟩, by omega, ((Below.refl _ _).alloc (Nat.le_refl _) _).trans (h.mono (by simp))⟩
  · rw [hc _ _ (by simp), World.cell?_alloc_at _ _ _ _ rfl]; rfl
  · rw [hc _ _ (by simp), World.cell?_alloc_at _ _ _ _ rfl]; rfl
  · rw [hc _ _ (by simp), World.cell?_alloc_at _ _ _ _ rfl]; rfl
  · rw [hf _ _ (by simp)]; exact World.frozen?_alloc_at _ _ _ _ rfl
  · rw [hf _ _ (by simp)]; exact World.frozen?_alloc_at _ _ _ _ rfl
  · rw [hf _ _ (by simp)]; exact World.frozen?_alloc_at _ _ _ _ rfl
set_option maxRecDepth 100000 in
set_option maxHeartbeats 4000000 in
theorem read_any (l : List UInt8) (r : M.NumV) (ok : Bool) (w : World) (hT : Tabs w) (hl : l.length ≤ 90000) (hr : M.readN l = (r, ok)) :
    Calls Tryz.prog 74 #[.string (bytes l)] w fun e w' => e = .returned (.tuple #[.agg (numV r), .bool ok]) ∧ Below w.heap.size w w' := by
  obtain ⟨p, okp, hp⟩ : ∃ p o, M.divW l = (p, o) := ⟨_, _, rfl⟩
  have D1 := Lib.hid (fun w => divide_any l p okp w (by omega) hp)
  unfold M.readN at hr
  rw [hp] at hr
  simp only at hr
  obtain ⟨SL, hSL⟩ : ∃ S, bytes l = S := ⟨_, rfl⟩
  rw [hSL] at D1 ⊢
  clear hSL
  cases okp with
  | false =>
    simp only [Bool.false_eq_true, if_false, Prod.mk.injEq] at hr
    obtain ⟨rfl, rfl⟩ := hr
    clear hp
    go_enter Tryz.func74, Tryz.ntmps74
    go_wp2_with fail
    refine (D1.out _).mono ?_
    rintro e w1 ⟨rfl, hb1⟩
    obtain ⟨⟨g0, g1, g2⟩, ⟨z0, z1, z2⟩, hs1, hb0⟩ := keep3 hb1
    have hne : w1.heap.size ≠ w.heap.size := by omega
    clear hb1
    unfold partsV
    go_wp2
    refine bodyPost_ret (v := .tuple #[.agg #[.bool false, .string ⟨#[]⟩, .string ⟨#[]⟩], .bool false]) (by simp [results, Tryz.results74, go_sem, g0, g1, g2, hs1]) rfl ⟨rfl, by repeat (first | with_reducible exact hb0 | with_reducible refine Below.setCell ?_ (by simp) _ | with_reducible refine below_drewN ?_ _ | with_reducible refine Below.drew ?_ | with_reducible refine Below.alloc ?_ (by simp; omega) _)⟩
  | true =>
    obtain ⟨q1, q2, q3, q4⟩ := divW_dig l p hp
    simp only [if_true, Prod.mk.injEq] at hr
    obtain ⟨rfl, rfl⟩ := hr
    obtain ⟨a, W, F, he, ng, G⟩ := p
    simp only at q1 q2 q3 q4
    obtain ⟨X, hX⟩ : ∃ X, M.expV (a, W, F, he, ng, G) = X := ⟨_, rfl⟩
    have hsg := M.sgn_txt ng G q2
    have hX2 : M.sgn ng G = M.txt X := by rw [hsg, ← hX]; rfl
    simp only [hX]
    have X1 := Lib.hid (fun w => expo_any (a, W, F, he, ng, G) _ w (by simp only; omega) hX2)
    have hXl : (M.txt X).length ≤ 90001 := by
      rw [← hX2]; unfold M.sgn; have := strip_len G
      split
      · simp
      · split <;> simp <;> omega
    obtain ⟨L, hL⟩ : ∃ L, W ++ F = L := ⟨_, rfl⟩
    rw [hL] at q1 q3 ⊢
    obtain ⟨d, hd⟩ : ∃ x, M.strip L = x := ⟨_, rfl⟩
    have hdl := strip_len L
    obtain ⟨s, hs⟩ : ∃ x, M.rstrip d = x := ⟨_, rfl⟩
    have hsl := M.rstrip_len d
    rw [hd] at hdl
    rw [hs] at hsl
    unfold M.norm
    rw [hd, hs]
    have T1 := fun w => Tryz.strings_TrimLeft_one (bytes L) 48 (by decide) w
    rw [bytes_list, show (⟨(Lib.trimLeftB L 48).toArray⟩ : ByteArray) = bytes (M.strip L) from rfl, hd] at T1
    have T2 := fun w => Tryz.strings_TrimRight_one (bytes d) 48 (by decide) w (by rw [bytes_size]; omega)
    rw [bytes_list, show (⟨(Lib.trimRightB d 48).toArray⟩ : ByteArray) = bytes (M.rstrip d) from rfl, hs] at T2
    obtain ⟨f, hf⟩ : ∃ f, F.length = f := ⟨_, rfl⟩
    have hfl : f ≤ L.length := by rw [← hL, ← hf]; simp
    have hcat : bytes W ++ bytes F = bytes L := by rw [← hL]; apply ByteArray.ext; simp [bytes]
    have zW : (bytes W).size ≤ 90000 := by rw [bytes_size]; have : W.length ≤ L.length := by rw [← hL]; simp
                                           omega
    have zF : (bytes F).size = f := by rw [bytes_size, hf]
    have zd : (bytes d).size = d.length := bytes_size d
    have zs : (bytes s).size = s.length := bytes_size s
    unfold partsV at D1 X1
    simp only at D1 X1
    obtain ⟨SW, hSW⟩ : ∃ S, bytes W = S := ⟨_, rfl⟩
    obtain ⟨SF, hSF⟩ : ∃ S, bytes F = S := ⟨_, rfl⟩
    obtain ⟨SG, hSG⟩ : ∃ S, bytes G = S := ⟨_, rfl⟩
    obtain ⟨SQ, hSQ⟩ : ∃ S, bytes L = S := ⟨_, rfl⟩
    obtain ⟨SD, hSD⟩ : ∃ S, bytes d = S := ⟨_, rfl⟩
    obtain ⟨SS, hSS⟩ : ∃ S, bytes s = S := ⟨_, rfl⟩
    obtain ⟨SX, hSX⟩ : ∃ S, bytes (M.txt X) = S := ⟨_, rfl⟩
    rw [hSW, hSF, hSG] at D1 X1
    rw [hSX] at X1
    rw [hSQ, hSD] at T1
    rw [hSD, hSS] at T2
    rw [hSW, hSF, hSQ] at hcat
    rw [hSW] at zW
    rw [hSF] at zF
    rw [hSD] at zd
    rw [hSS] at zs
    have a1 : ∀ W, (Op.stringOp .add SW SF).run Tryz.prog W = .ok (.string SQ) W := fun W => by rw [run_string_add W _ _ (by omega) (by omega), hcat]
    have HT1 := Lib.hid T1
    have HT2 := Lib.hid T2
    have HT := Lib.hid hT
    have HSS := Lib.hid hSS
    have HSX := Lib.hid hSX
    obtain ⟨D, hDn⟩ : ∃ D, d.length = D := ⟨_, rfl⟩
    obtain ⟨N, hNn⟩ : ∃ D, s.length = D := ⟨_, rfl⟩
    rw [hDn] at zd hdl hsl ⊢
    rw [hNn] at zs hsl ⊢
    have hq : (s = [] ∧ SS.toList.isEmpty = true ∧ SS.toList = []) ∨ (s ≠ [] ∧ SS.toList.isEmpty = false ∧ (!SS.toList.isEmpty) = true) := by
      by_cases h : s = []
      · have := str_nil SS s hSS h; exact .inl ⟨h, this.2.1, this.1⟩
      · have := str_ne SS s hSS h; exact .inr ⟨h, this.1, this.2.1⟩
    have y1 : SD.size ≤ 90000 := by omega
    have y2 : SS.size ≤ 90000 := by omega
    have y3 : SF.size ≤ 90000 := by omega
    have Zd := Lib.hid zd
    have Zs := Lib.hid zs
    have Zf := Lib.hid zF
    have HF := Lib.hid hf
    clear hp T1 T2 hT hSW hSF hSG hSQ hSD hSS hSX hL hd hs hf hcat q1 q2 hX hsg hX2 hDn hNn zd zs zF
    rcases hq with ⟨k1, k2, k3⟩ | ⟨k1, k2, k3⟩
    · subst k1
      rw [if_pos rfl]
      go_enter Tryz.func74, Tryz.ntmps74
      go_wp2_with fail
      refine (D1.out _).mono ?_
      rintro e w1 ⟨rfl, hb1⟩
      obtain ⟨⟨g0, g1, g2⟩, ⟨z0, z1, z2⟩, hs1, hb0⟩ := keep3 hb1
      have hne : w1.heap.size ≠ w.heap.size := by omega
      clear hb1
      go_wp2_with fail
      refine (HT1.out _).mono ?_
      rintro e w' ⟨rfl, rfl⟩
      go_wp2_with fail
      refine (HT2.out _).mono ?_
      rintro e w' ⟨rfl, rfl⟩
      go_wp2
      refine bodyPost_ret (v := .tuple #[.agg #[.bool a, .string ⟨#[]⟩, .string ⟨#[]⟩], .bool true]) (by simp [results, Tryz.results74, go_sem, g0, g1, g2, hs1]) rfl ⟨rfl, by repeat (first | with_reducible exact hb0 | with_reducible refine Below.setCell ?_ (by simp) _ | with_reducible refine below_drewN ?_ _ | with_reducible refine Below.drew ?_ | with_reducible refine Below.alloc ?_ (by simp; omega) _)⟩
    · rw [if_neg k1]
      have K1 := Lib.hid k1
      clear k1
      go_enter Tryz.func74, Tryz.ntmps74
      go_wp2_with fail
      refine (D1.out _).mono ?_
      rintro e w1 ⟨rfl, hb1⟩
      obtain ⟨⟨g0, g1, g2⟩, ⟨z0, z1, z2⟩, hs1, hb0⟩ := keep3 hb1
      have hne : w1.heap.size ≠ w.heap.size := by omega
      clear hb1
      go_wp2_with fail
      refine (HT1.out _).mono ?_
      rintro e w' ⟨rfl, rfl⟩
      go_wp2_with fail
      refine (HT2.out _).mono ?_
      rintro e w' ⟨rfl, rfl⟩
      go_wp2_with fail
      have q1 := Zd.out
      have q2 := Zs.out
      have q3 := Zf.out
      rw [q1, q2, q3]
      obtain ⟨X0, hX0⟩ : ∃ W, w1.alloc (.cells #[.bool a, .string SW, .string SF, .bool he, .bool ng, .string SG] 87) = W := ⟨_, rfl⟩
      have zX : X0.heap.size = w1.heap.size + 1 := by rw [← hX0]; simp
      have dX : Below w1.heap.size w1 X0 := by rw [← hX0]; exact (Below.refl _ _).alloc (Nat.le_refl _) _
      have hb3 := hb0.trans (dX.mono hb0.size)
      have hk : ∀ W, Below X0.heap.size X0 W → (W.cell? ⟨w1.heap.size, 0, none⟩ = some (.bool a) ∧ W.cell? ⟨w1.heap.size, 1, none⟩ = some (.string SW) ∧ W.cell? ⟨w1.heap.size, 2, none⟩ = some (.string SF) ∧ W.cell? ⟨w1.heap.size, 3, none⟩ = some (.bool he) ∧ W.cell? ⟨w1.heap.size, 4, none⟩ = some (.bool ng) ∧ W.cell? ⟨w1.heap.size, 5, none⟩ = some (.string SG) ∧ W.cell? ⟨w.heap.size, 0, none⟩ = some (.bool false) ∧ W.cell? ⟨w.heap.size, 1, none⟩ = some (.string ⟨#[]⟩) ∧ W.cell? ⟨w.heap.size, 2, none⟩ = some (.string ⟨#[]⟩) ∧ W.frozen? ⟨w.heap.size, 0, none⟩ = false ∧ W.frozen? ⟨w.heap.size, 1, none⟩ = false ∧ W.frozen? ⟨w.heap.size, 2, none⟩ = false) := by
        intro W hW
        obtain ⟨hc, hf⟩ := bcell hW
        obtain ⟨hc2, hf2⟩ := bcell dX
        have hsz := hW.size
        refine ⟨?_, ?_, ?_, ?_, ?_, ?_, ?_, ?_, ?_, ?_, ?_, ?_⟩
        · rw [hc _ _ (by omega), ← hX0, World.cell?_alloc_at _ _ _ _ rfl]; rfl
        · rw [hc _ _ (by omega), ← hX0, World.cell?_alloc_at _ _ _ _ rfl]; rfl
        · rw [hc _ _ (by omega), ← hX0, World.cell?_alloc_at _ _ _ _ rfl]; rfl
        · rw [hc _ _ (by omega), ← hX0, World.cell?_alloc_at _ _ _ _ rfl]; rfl
        · rw [hc _ _ (by omega), ← hX0, World.cell?_alloc_at _ _ _ _ rfl]; rfl
        · rw [hc _ _ (by omega), ← hX0, World.cell?_alloc_at _ _ _ _ rfl]; rfl
        · rw [hc _ _ (by omega), hc2 _ _ hs1]; exact g0
        · rw [hc _ _ (by omega), hc2 _ _ hs1]; exact g1
        · rw [hc _ _ (by omega), hc2 _ _ hs1]; exact g2
        · rw [hf _ _ (by omega), hf2 _ _ hs1]; exact z0
        · rw [hf _ _ (by omega), hf2 _ _ hs1]; exact z1
        · rw [hf _ _ (by omega), hf2 _ _ hs1]; exact z2
      have PL := Lib.hid (fun (W : World) (hW : Below X0.heap.size X0 W) => plus_any X (D - N - f) _ W (by omega) (by omega) (by omega) (HT.out.keep (hb3.trans (hW.mono hb3.size))) rfl)
      simp only [HSX.out] at PL
      have HK := Lib.hid hk
      have B0 : Hid (Below X0.heap.size X0 X0.drew) := Lib.hid (Below.refl _ _).drew
      have B1 : Hid (∀ o : Obj, Below X0.heap.size X0 (X0.alloc o).drew) := Lib.hid (fun o => ((Below.refl _ _).alloc (Nat.le_refl _) o).drew)
      have B2 : Hid (∀ (o : Obj) (w5 : World), Below (X0.alloc o).drew.heap.size (X0.alloc o).drew w5 → Below X0.heap.size X0 w5) := Lib.hid (fun o w5 h => (((Below.refl _ _).alloc (Nat.le_refl _) o).drew).trans (h.mono (by show _ ≤ (X0.alloc o).heap.size; simp)))
      have HB3 := Lib.hid hb3
      rw [hX0]
      clear hX0 hk g0 g1 g2 z0 z1 z2 hb0 dX hb3 q1 q2 q3
      have HS : Hid (∀ W, Below X0.heap.size X0 W → (W.cell? ⟨w1.heap.size, 0, none⟩ = some (.bool a) ∧ W.cell? ⟨w1.heap.size, 1, none⟩ = some (.string SW) ∧ W.cell? ⟨w1.heap.size, 2, none⟩ = some (.string SF) ∧ W.cell? ⟨w1.heap.size, 3, none⟩ = some (.bool he) ∧ W.cell? ⟨w1.heap.size, 4, none⟩ = some (.bool ng) ∧ W.cell? ⟨w1.heap.size, 5, none⟩ = some (.string SG))) := Lib.hid (fun W h => ⟨(HK.out W h).1, (HK.out W h).2.1, (HK.out W h).2.2.1, (HK.out W h).2.2.2.1, (HK.out W h).2.2.2.2.1, (HK.out W h).2.2.2.2.2.1⟩)
      go_region_held3 (fun W : World => W.cell? ⟨w1.heap.size, 0, none⟩ = some (.bool a) ∧ W.cell? ⟨w1.heap.size, 1, none⟩ = some (.string SW) ∧ W.cell? ⟨w1.heap.size, 2, none⟩ = some (.string SF) ∧ W.cell? ⟨w1.heap.size, 3, none⟩ = some (.bool he) ∧ W.cell? ⟨w1.heap.size, 4, none⟩ = some (.bool ng) ∧ W.cell? ⟨w1.heap.size, 5, none⟩ = some (.string SG))
        (first
          | with_reducible exact HS.out _ B0.out
          | with_reducible exact HS.out _ (B1.out _)
          | with_reducible exact HS.out _ (B2.out _ _ hb5)
          | (refine ⟨?_, ?_, ?_, ?_, ?_, ?_⟩ <;> simp [go_sem, r0, r1, r2, r3, r4, r5, hs1, hne, hne.symm]))
        (first
          | (go_at_call 98; refine (X1.out _).mono ?_; rintro e w' ⟨rfl, rfl⟩)
          | (go_at_call 97; refine (PL.out _ (B1.out _)).mono ?_; rintro e w5 ⟨rfl, hb5⟩; obtain ⟨r0, r1, r2, r3, r4, r5, g0, g1, g2, z0, z1, z2⟩ := HK.out w5 (B2.out _ _ hb5)))
      all_goals
        have hb6 := HB3.out.trans ((B2.out _ _ hb5).mono HB3.out.size)
        clear hb5
        go_wp2
        exact bodyPost_ret (v := .tuple #[.agg #[.bool a, .string SS, .string (bytes (M.txt (X + ((D : Int) - N - f))))], .bool true]) (by simp [results, Tryz.results74, go_sem, g0, g1, g2]) rfl
          ⟨agg3 rfl HSS.out.symm (by rw [show X + ((D : Int) - N - f) = X - F.length + ((D : Int) - N - 0) by rw [HF.out]; omega]) rfl, ((hb6.setCell (by simp) _).setCell (by simp) _).setCell (by simp) _⟩
end Go.Proofs.YtpecaalpbeoolaaGreatDoor
