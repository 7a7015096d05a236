/- Numbers: a text is read. -/
import Derived.Test.YtpecaalpbeoolaaGreatDoorNDiv
import Derived.Test.YtpecaalpbeoolaaGreatDoorDAdd2
import Derived.Test.YtpecaalpbeoolaaGreatDoorMgD
import Derived.Deep.RegionWith
import Derived.Lib.AppendIntMem
import Derived.Lib.SmallJoins
namespace Go.Proofs.YtpecaalpbeoolaaGreatDoor
open Go.RowKit
set_option linter.unusedVariables false
set_option linter.unusedSimpArgs false

def numV (n : M.NumV) : Array Value := #[.bool n.1, .string (bytes n.2.1), .string (bytes n.2.2)]
/-- The table that strconv.Itoa reads is as its initialiser lays it. -/
def Tabs (w : World) : Prop := Lib.TabIs Tryz.prog w "internal/strconv.uint64pow10" .u64 Lib.pow10Tab
theorem Tabs.keep {w w' : World} (h : Tabs w) (hb : Below w.heap.size w w') : Tabs w' :=
  Joins.tab_stays (g := 3) (by kernel_rfl) h hb (Nat.le_refl _)
theorem bcell {W w1 : World} (hb : Below W.heap.size W w1) : (∀ b o, b < W.heap.size → w1.cell? ⟨b, o, none⟩ = W.cell? ⟨b, o, none⟩) ∧ (∀ b o, b < W.heap.size → w1.frozen? ⟨b, o, none⟩ = W.frozen? ⟨b, o, none⟩) :=
  ⟨fun b o h => hb.cell (p := ⟨b, o, none⟩) h, fun b o h => hb.frozen (p := ⟨b, o, none⟩) h⟩
theorem decD (u : Nat) : Lib.decDigits u = M.decS u := by
  induction u using Nat.strongRecOn with
  | ind u ih =>
    rw [Lib.decDigits]
    by_cases h : u < 10
    · rw [dif_pos h, M.decS_small u (by omega)]
      unfold M.ofD
      rw [show u % 10 = u by omega]
    · rw [dif_neg h, ih (u / 10) (by omega), M.decS_step u (by omega)]
      rfl
theorem itoa_txt (z : Int) : Lib.itoa z = M.txt z := by
  unfold Lib.itoa
  rw [decD, decD]
  rcases M.txt_cases z with ⟨h, e⟩ | ⟨h, e⟩
  · rw [if_neg (by omega), e, show z.toNat = z.natAbs by omega]
  · rw [if_pos h, e]
theorem itoa_any (z : Int) (w : World) (h1 : -100000000 ≤ z) (h2 : z ≤ 100000000) (hT : Tabs w) :
    Calls Tryz.prog 119 #[.int .i64 z] w fun e w' => e = .returned (.string (bytes (M.txt z))) ∧ Below w.heap.size w w' := by
  have h := Tryz.strconv_Itoa z (by omega) (by omega) w hT
  rw [itoa_txt] at h
  exact h.mono fun e w' ⟨he, k, os, hw⟩ => ⟨he, by rw [hw]; exact Lib.below_grow _ _ (Nat.le_refl _) _ _⟩
set_option maxRecDepth 100000 in
set_option maxHeartbeats 1000000 in
theorem plus_any (a z r : Int) (w : World) (hl : (M.txt a).length ≤ 100000) (h1 : -100000000 ≤ z) (h2 : z ≤ 100000000) (hT : Tabs w) (hr : a + z = r) :
    Calls Tryz.prog 97 #[.string (bytes (M.txt a)), .int .i64 z] w fun e w' => e = .returned (.string (bytes (M.txt r))) ∧ Below w.heap.size w w' := by
  have I1 := Lib.hid (itoa_any z w h1 h2 hT)
  have hzl := M.txt_len z 9 (by omega) (by omega)
  have hs := M.add_right (M.txt a) (M.txt z) (M.val_txt a).2 (M.val_txt z).2
  rw [(M.val_txt a).1, (M.val_txt z).1, hr] at hs
  have A1 := Lib.hid (fun w => add_any (M.txt a) (M.txt z) _ w hl (by omega) hs)
  unfold strB at A1
  obtain ⟨SA, hSA⟩ : ∃ S, bytes (M.txt a) = S := ⟨_, rfl⟩
  obtain ⟨SZ, hSZ⟩ : ∃ S, bytes (M.txt z) = S := ⟨_, rfl⟩
  obtain ⟨SR, hSR⟩ : ∃ S, bytes (M.txt r) = S := ⟨_, rfl⟩
  simp only [hSA, hSZ, hSR] at A1 I1 ⊢
  clear hs hSA hSZ hSR hr hzl hl hT
  go_enter Tryz.func97, Tryz.ntmps97
  go_wp2_with fail
  refine I1.out.mono ?_
  rintro e w1 ⟨rfl, hb1⟩
  go_wp2_with fail
  refine (A1.out _).mono ?_
  rintro e w2 ⟨rfl, hb2⟩
  go_wp2
  go_ret
  exact ⟨rfl, hb1.trans (hb2.mono hb1.size)⟩
set_option maxRecDepth 100000 in
set_option maxHeartbeats 1000000 in
theorem expo_any (p : M.Parts) (r : List UInt8) (w : World) (hl : p.2.2.2.2.2.length ≤ 1000000) (hr : M.sgn p.2.2.2.2.1 p.2.2.2.2.2 = r) :
    Calls Tryz.prog 98 #[.agg (partsV p)] w fun e w' => e = .returned (.string (bytes r)) ∧ w' = w.alloc (.cells (partsV p) 87) := by
  obtain ⟨a, W, F, he, ng, G⟩ := p
  simp only at hl hr
  subst hr
  have T1 := fun w => Tryz.strings_TrimLeft_one (bytes G) 48 (by decide) w
  rw [bytes_list, show (⟨(Lib.trimLeftB G 48).toArray⟩ : ByteArray) = bytes (M.strip G) from rfl] at T1
  have hsl := strip_len G
  unfold partsV M.sgn
  simp only
  obtain ⟨SG, hSG⟩ : ∃ S, bytes G = S := ⟨_, rfl⟩
  obtain ⟨ST, hST⟩ : ∃ S, bytes (M.strip G) = S := ⟨_, rfl⟩
  rw [hSG, hST] at T1
  have HT := Lib.hid T1
  rw [hSG]
  obtain ⟨SW, hSW⟩ : ∃ S, bytes W = S := ⟨_, rfl⟩
  obtain ⟨SF, hSF⟩ : ∃ S, bytes F = S := ⟨_, rfl⟩
  rw [hSW, hSF]
  clear T1 hSG hSW hSF
  by_cases h0 : M.strip G = []
  · rw [if_pos h0]
    obtain ⟨e1, e2, e3⟩ := str_nil ST _ hST h0
    clear h0 hST hl hsl
    go_enter Tryz.func98, Tryz.ntmps98
    go_wp2_with fail
    refine (HT.out _).mono ?_
    rintro e w' ⟨rfl, rfl⟩
    go_wp2
    go_ret
    exact ⟨rfl, rfl⟩
  · rw [if_neg h0]
    obtain ⟨e1, e2, e3⟩ := str_ne ST _ hST h0
    have hsz : ST.size ≤ 1000000 := by rw [← hST, bytes_size]; omega
    have a1 : ∀ W, (Op.stringOp .add (ByteArray.mk #[45]) ST).run Tryz.prog W = .ok (.string (ByteArray.mk #[45] ++ ST)) W := fun W => run_string_add W _ _ (by rw [show (ByteArray.mk #[45]).size = 1 from rfl]; decide) (by omega)
    have hcat : ByteArray.mk #[45] ++ ST = bytes (45 :: M.strip G) := by
      rw [← hST]; apply ByteArray.ext; simp [bytes]
    have Hcat := Lib.hid hcat
    have HST := Lib.hid hST
    clear h0 hST hl hsl hcat
    cases ng with
    | false =>
      go_enter Tryz.func98, Tryz.ntmps98
      go_wp2_with fail
      refine (HT.out _).mono ?_
      rintro e w' ⟨rfl, rfl⟩
      go_wp2
      go_ret
      exact ⟨by rw [← HST.out]; rfl, rfl⟩
    | true =>
      go_enter Tryz.func98, Tryz.ntmps98
      go_wp2_with fail
      refine (HT.out _).mono ?_
      rintro e w' ⟨rfl, rfl⟩
      go_wp2
      go_ret
      exact ⟨by rw [← Hcat.out]; rfl, rfl⟩
end Go.Proofs.YtpecaalpbeoolaaGreatDoor
