import Derived.Test.YtbfnlgmhfhaglaaGreatDoorQb12
import Derived.Test.YtbfnlgmhfhaglaaGreatDoorQb10
import Derived.Test.YtbfnlgmhfhaglaaGreatDoorQb00
import Derived.Deep.RegionWith
import Derived.Lib.AppendIntMem
import Derived.Lib.SmallJoins
import Derived.Test.YtbfnlgmhfhaglaaGreatDoorQb02
import Derived.Deep.RegionHeld3
set_option maxHeartbeats 4000000
set_option maxRecDepth 100000
namespace Go.Proofs.YtbfnlgmhfhaglaaGreatDoor
open Go.RowKit
set_option linter.unusedVariables false
set_option linter.unusedSimpArgs false
def numV (n : M.NumV) : Array Value := #[.bool n.1, .string (bytes n.2.1), .string (bytes n.2.2)]
theorem bcell {W w1 : World} (hb : Below W.heap.size W w1) : (∀ b o, b < W.heap.size -> w1.cell? ⟨b, o, none⟩ = W.cell? ⟨b, o, none⟩) /\ (∀ b o, b < W.heap.size -> w1.frozen? ⟨b, o, none⟩ = W.frozen? ⟨b, o, none⟩) :=
 ⟨fun b o h => hb.cell (p := ⟨b, o, none⟩) h, fun b o h => hb.frozen (p := ⟨b, o, none⟩) h⟩
theorem decD (u : Nat) : Lib.decDigits u = M.decS u := by
 induction u using Nat.strongRecOn with
 | ind u ih =>
  rw [Lib.decDigits]
  by_cases h : u < 10
  ·rw [dif_pos h, M.decS_small u (by omega)]
   unfold M.ofD
   rw [show u % 10 = u by omega]
  ·rw [dif_neg h, ih (u / 10) (by omega), M.decS_step u (by omega)]
   rfl
theorem itoa_txt (z : Int) : Lib.itoa z = M.txt z := by
 unfold Lib.itoa
 rw [decD, decD]
 rcases M.txt_cases z with ⟨h, e⟩ | ⟨h, e⟩
 ·rw [if_neg (by omega), e, show z.toNat = z.natAbs by omega]
 ·rw [if_pos h, e]
theorem itoa_any (z : Int) (w : World) (h1 : -100000000 <= z) (h2 : z <= 100000000) (hT : Tabs w) :
  Calls Tryz.prog 121 #[.int .i64 z] w fun e w' => e = .returned (.string (bytes (M.txt z))) /\ Below w.heap.size w w' := by
 have h := Tryz.strconv_Itoa z (by omega) (by omega) w hT.p
 rw [itoa_txt] at h
 exact h.mono fun e w' ⟨he, k, os, hw⟩ => ⟨he, by rw [hw]; exact Lib.below_grow _ _ (Nat.le_refl _) _ _⟩
theorem plus_any (a z r : Int) (w : World) (hl : (M.txt a).length <= 100000) (h1 : -100000000 <= z) (h2 : z <= 100000000) (hT : Tabs w) (hr : a + z = r) :
  Calls Tryz.prog 93 #[.string (bytes (M.txt a)), .int .i64 z] w fun e w' => e = .returned (.string (bytes (M.txt r))) /\ Below w.heap.size w w' := by
 have I1 := LH (itoa_any z w h1 h2 hT)
 have hzl := M.txt_len z 9 (by omega) (by omega)
 have hs := M.add_right (M.txt a) (M.txt z) (M.val_txt a).2 (M.val_txt z).2
 rw [(M.val_txt a).1, (M.val_txt z).1, hr] at hs
 have A1 := LH (fun w => add_any (M.txt a) (M.txt z) _ w hl (by omega) hs)
 unfold strB at A1
 obtain ⟨SA, hSA⟩ : ∃ S, bytes (M.txt a) = S := ⟨_, rfl⟩
 obtain ⟨SZ, hSZ⟩ : ∃ S, bytes (M.txt z) = S := ⟨_, rfl⟩
 obtain ⟨SR, hSR⟩ : ∃ S, bytes (M.txt r) = S := ⟨_, rfl⟩
 simp only [hSA, hSZ, hSR] at A1 I1 ⊢
 clear hs hSA hSZ hSR hr hzl hl hT
 go_enter Tryz.func93, Tryz.ntmps93
 go_wp2_with fail
 refine I1.out.mono ?_
 rintro e w1 ⟨rfl, hb1⟩
 go_wp2_with fail
 refine (A1.out _).mono ?_
 rintro e w2 ⟨rfl, hb2⟩
 go_wp2
 go_ret
 exact ⟨rfl, hb1.trans (hb2.mono hb1.size)⟩
theorem divW_dig (l : List UInt8) (p : M.Parts) (h : M.divW l = (p, true)) : (∀ c ∈ p.2.1 ++ p.2.2.1, M.dig c = true) /\ (∀ c ∈ p.2.2.2.2.2, M.dig c = true) /\ (p.2.1 ++ p.2.2.1).length <= l.length /\ p.2.2.2.2.2.length <= l.length := by
 obtain ⟨a, s1, hcs⟩ : ∃ a s1, M.csign l = (a, s1) := ⟨_, _, rfl⟩
 have l1 := csign_len l a s1 hcs
 have e1 := congrArg List.length (M.dg_rs s1)
 rw [List.length_append] at e1
 have hE : ∀ (F s3 : List UInt8), (∀ c ∈ F, M.dig c = true) -> (M.dg s1).length + F.length + s3.length <= l.length -> M.divE a (M.dg s1) F s3 = (p, true) -> (∀ c ∈ p.2.1 ++ p.2.2.1, M.dig c = true) /\ (∀ c ∈ p.2.2.2.2.2, M.dig c = true) /\ (p.2.1 ++ p.2.2.1).length <= l.length /\ p.2.2.2.2.2.length <= l.length := by
  intro F s3 hF hle h
  unfold M.divE at h
  have hd : ∀ c ∈ M.dg s1 ++ F, M.dig c = true := fun c hc => (List.mem_append.1 hc).elim (M.dg_dig s1 c) (hF c)
  split at h
  ·simp only [Prod.mk.injEq] at h
   obtain ⟨rfl, _⟩ := h
   have h2 := csign_len s3.tail _ _ rfl
   have h3 := dg_len (M.csign s3.tail).2 _ rfl
   refine ⟨hd, M.dg_dig _, by simp only [List.length_append]; omega, ?_⟩
   simp only
   have h4 : s3.tail.length <= s3.length := by simp
   exact Nat.le_trans h3 (Nat.le_trans h2 (by omega))
  ·simp only [Prod.mk.injEq] at h
   obtain ⟨rfl, _⟩ := h
   exact ⟨hd, by simp, by simp only [List.length_append]; omega, by simp⟩
 unfold M.divW at h
 rw [hcs] at h
 simp only at h
 split at h
 ·split at h
  ·simp at h
  ·refine hE _ _ (M.dg_dig _) ?_ h
   have e2 := congrArg List.length (M.dg_rs (M.rs s1).tail)
   rw [List.length_append] at e2
   have : (M.rs s1).tail.length <= (M.rs s1).length := by simp
   omega
 ·split at h
  ·simp at h
  ·exact hE [] _ (by simp) (by simp only [List.length_nil]; omega) h
theorem agg3 {a0 b0 : Bool} {a1 b1 a2 b2 : ByteArray} {c d : Bool} (h0 : a0 = b0) (h1 : a1 = b1) (h2 : a2 = b2) (h6 : c = d) :
  Ending.returned (.tuple #[.agg #[.bool a0, .string a1, .string a2], .bool c]) = .returned (.tuple #[.agg #[.bool b0, .string b1, .string b2], .bool d]) := by rw [h0, h1, h2, h6]
theorem keep3 {w w1 : World} {c0 c1 c2 : Value} {T : TypeId} (h : Below (w.alloc (.cells #[c0, c1, c2] T)).heap.size (w.alloc (.cells #[c0, c1, c2] T)) w1) :
  (w1.cell? ⟨w.heap.size, 0, none⟩ = some c0 /\ w1.cell? ⟨w.heap.size, 1, none⟩ = some c1 /\ w1.cell? ⟨w.heap.size, 2, none⟩ = some c2) /\
  (w1.frozen? ⟨w.heap.size, 0, none⟩ = false /\ w1.frozen? ⟨w.heap.size, 1, none⟩ = false /\ w1.frozen? ⟨w.heap.size, 2, none⟩ = false) /\ w.heap.size < w1.heap.size /\ Below w.heap.size w w1 := by
 obtain ⟨hc, hf⟩ := bcell h
 have hs := h.size
 simp only [World.size_alloc] at hs
 refine ⟨⟨?_, ?_, ?_⟩, ⟨?_, ?_, ?_⟩, by omega, ((Below.refl _ _).alloc (Nat.le_refl _) _).trans (h.mono (by simp))⟩
 ·rw [hc _ _ (by simp), World.cell?_alloc_at _ _ _ _ rfl]; rfl
 ·rw [hc _ _ (by simp), World.cell?_alloc_at _ _ _ _ rfl]; rfl
 ·rw [hc _ _ (by simp), World.cell?_alloc_at _ _ _ _ rfl]; rfl
 ·rw [hf _ _ (by simp)]; exact World.frozen?_alloc_at _ _ _ _ rfl
 ·rw [hf _ _ (by simp)]; exact World.frozen?_alloc_at _ _ _ _ rfl
 ·rw [hf _ _ (by simp)]; exact World.frozen?_alloc_at _ _ _ _ rfl
theorem cat_run (a b c : List UInt8) (h : a ++ b = c) (ha : a.length <= 1000000) (hb : b.length <= 1000000) : ∀ W : World, (Op.stringOp .add (bytes a) (bytes b)).run Tryz.prog W = .ok (.string (bytes c)) W := by
 intro W
 rw [run_string_add W _ _ (by rw [bytes_size]; omega) (by rw [bytes_size]; omega), <- h]
 apply congrArg (fun x => Result.ok (Value.string x) W)
 apply ByteArray.ext; simp [bytes]
theorem str_eq (S T : ByteArray) (k l : List UInt8) (hS : bytes k = S) (hT : bytes l = T) (b : Bool) (h : (k == l) = b) : (S.toList == T.toList) = b := by
 rw [<- hS, <- hT, toList_bytes, toList_bytes, h]
theorem trim_any (D r : List UInt8) (w : World) (hl : D.length <= 1000000) (hr : M.strip (M.rstrip D) = r) :
  Calls Tryz.prog 102 #[.string (bytes D), .string ⟨#[48]⟩] w fun e w' => e = .returned (.string (bytes r)) /\ ∃ n, w' = w.drewN n := by
 have h := Tryz.strings_Trim_one (bytes D) 48 (by decide) w (by rw [bytes_size]; omega)
 rw [bytes_list, show (⟨(Lib.trimB D 48).toArray⟩ : ByteArray) = bytes (M.strip (M.rstrip D)) from rfl, hr] at h
 exact h.mono fun e w' ⟨h1, h2⟩ => ⟨h1, h2.elim (fun h => ⟨0, h⟩) (fun h => ⟨1, h⟩)⟩
theorem rightn_any (ng : Bool) (D E : List UInt8) (r : Bool) (w : World) (h1 : D.length <= 100000) (h2 : E.length <= 100000) (hr : M.rightN D E = r) :
  Calls Tryz.prog 74 #[.agg (numV (ng, D, E))] w fun e w' => e = .returned (.bool r) /\ Below w.heap.size w w' := by
 unfold numV
 simp only
 have R1 := LH (fun w => right_any E (M.rightD E) w (by omega) rfl)
 obtain ⟨s, hs⟩ : ∃ s, M.strip (M.rstrip D) = s := ⟨_, rfl⟩
 have T1 := LH (fun w => trim_any D s w (by omega) hs)
 have C1 := LH (fun w => (cdig_any D (M.dg D) (M.rs D) w (by omega) rfl rfl).mono fun e w' ⟨h, n, hn⟩ => (⟨h, by rw [hn]; exact below_drewN (Below.refl _ _) n⟩ : _ /\ Below w.heap.size w w'))
 obtain ⟨x, hx⟩ : ∃ x, M.rs D = x := ⟨_, rfl⟩
 rw [hx] at C1
 obtain ⟨SD, hSD⟩ : ∃ S, bytes D = S := ⟨_, rfl⟩
 obtain ⟨SE, hSE⟩ : ∃ S, bytes E = S := ⟨_, rfl⟩
 obtain ⟨ST, hST⟩ : ∃ S, bytes s = S := ⟨_, rfl⟩
 obtain ⟨SR, hSR⟩ : ∃ S, bytes x = S := ⟨_, rfl⟩
 rw [hSE] at R1
 rw [hSD, hST] at T1
 rw [hSD, hSR] at C1
 rw [hSD, hSE]
 by_cases h0 : D = []
 ·have hrr : r = E.isEmpty := by rw [<- hr]; unfold M.rightN; rw [if_pos h0]
  obtain ⟨e1, e2, e3⟩ := str_nil SD D hSD h0
  have hq : (SE.toList.isEmpty = true /\ SE.toList = [] /\ r = true) \/ (SE.toList.isEmpty = false /\ (!SE.toList.isEmpty) = true /\ r = false) := by
   by_cases h : E = []
   ·have := str_nil SE E hSE h; exact .inl ⟨this.2.1, this.1, by rw [hrr, h]; rfl⟩
   ·have := str_ne SE E hSE h; exact .inr ⟨this.1, this.2.1, by rw [hrr]; simpa using h⟩
  clear hr hrr hs hx hSD hSE hST hSR h0 h1 h2
  rcases hq with ⟨q1, q2, rfl⟩ | ⟨q1, q2, rfl⟩
  all_goals
   go_enter Tryz.func74, Tryz.ntmps74
   go_wp2
   go_ret
   exact ⟨rfl, (Below.refl _ _).alloc (Nat.le_refl _) _⟩
 ·rw [M.right_prog D E h0, hs, hx] at hr
  obtain ⟨e1, e2, e3⟩ := str_ne SD D hSD h0
  by_cases hxe : x = []
  ·obtain ⟨f1, f2, f3⟩ := str_nil SR x hSR hxe
   rw [hxe] at hr
   by_cases hsD : (s == D) = true
   ·have q := str_eq ST SD s D hST hSD true hsD
    rw [hsD] at hr
    simp only [List.isEmpty_nil, Bool.true_and, Bool.and_true] at hr
    rw [hr] at R1
    clear hr hs hx hSD hSE hST hSR h0 h1 h2 hsD hxe
    go_enter Tryz.func74, Tryz.ntmps74
    go_wp2_with fail
    refine (C1.out _).mono ?_
    rintro e w1 ⟨rfl, hb1⟩
    obtain ⟨⟨g0, g1, g2⟩, -, hs1, hb0⟩ := keep3 hb1
    clear hb1
    go_wp2
    go_quiet ((first
     | (go_at_call 102; exact Calls.quiet_of (T1.out _))
     | (go_at_call 103; exact Calls.quiet_of_same ((R1.out _).mono fun _ _ h => ⟨h.1, h.2.symm⟩))))
    go_wp2
    go_ret
    exact ⟨rfl, by first | exact hb0 | exact below_drewN hb0 _⟩
   ·have q := str_eq ST SD s D hST hSD false (by simpa using hsD)
    rw [show (s == D) = false by simpa using hsD] at hr
    simp only [List.isEmpty_nil, Bool.true_and, Bool.false_and] at hr
    subst hr
    clear hs hx hSD hSE hST hSR h0 h1 h2 hsD hxe
    go_enter Tryz.func74, Tryz.ntmps74
    go_wp2_with fail
    refine (C1.out _).mono ?_
    rintro e w1 ⟨rfl, hb1⟩
    obtain ⟨⟨g0, g1, g2⟩, -, hs1, hb0⟩ := keep3 hb1
    clear hb1
    go_wp2
    go_quiet ((first
     | (go_at_call 102; exact Calls.quiet_of (T1.out _))
     | (go_at_call 103; exact Calls.quiet_of_same ((R1.out _).mono fun _ _ h => ⟨h.1, h.2.symm⟩))))
    go_wp2
    go_ret
    exact ⟨rfl, by first | exact hb0 | exact below_drewN hb0 _⟩
  ·obtain ⟨f1, f2, f3⟩ := str_ne SR x hSR hxe
   rw [show x.isEmpty = false by simpa using hxe] at hr
   simp only [Bool.false_and] at hr
   subst hr
   clear hs hx hSD hSE hST hSR h0 h1 h2 hxe
   go_enter Tryz.func74, Tryz.ntmps74
   go_wp2_with fail
   refine (C1.out _).mono ?_
   rintro e w1 ⟨rfl, hb1⟩
   obtain ⟨⟨g0, g1, g2⟩, -, hs1, hb0⟩ := keep3 hb1
   clear hb1
   go_wp2
   go_quiet ((first
    | (go_at_call 102; exact Calls.quiet_of (T1.out _))
    | (go_at_call 103; exact Calls.quiet_of_same ((R1.out _).mono fun _ _ h => ⟨h.1, h.2.symm⟩))))
   go_wp2
   go_ret
   exact ⟨rfl, by first | exact hb0 | exact below_drewN hb0 _⟩
theorem repeat_any (k : Nat) (w : World) (hk : k <= 1000000) :
  Calls Tryz.prog 149 #[.string ⟨#[48]⟩, .int .i64 k] w fun e w' => e = .returned (.string (bytes (List.replicate k 48))) /\ Below w.heap.size w w' := by
 have h := Tryz.strings_Repeat ⟨#[48]⟩ k w (by omega) (by rw [show (ByteArray.mk #[48]).size = 1 from rfl]; omega)
 have e : (⟨(Lib.repeatL (ByteArray.mk #[48]).data.toList k).toArray⟩ : ByteArray) = bytes (List.replicate k 48) := by
  unfold bytes
  congr 2
  rw [show (ByteArray.mk #[48]).data.toList = [48] from rfl]
  clear h hk
  induction k with
  | zero => rfl
  | succ k ih => rw [List.replicate_succ, <- ih]; rfl
 rw [e] at h
 exact h
end Go.Proofs.YtbfnlgmhfhaglaaGreatDoor
