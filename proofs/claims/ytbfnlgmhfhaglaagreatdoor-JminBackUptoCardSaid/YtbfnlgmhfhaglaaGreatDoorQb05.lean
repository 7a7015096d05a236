import Derived.Test.YtbfnlgmhfhaglaaGreatDoorQb00
import Derived.Test.YtbfnlgmhfhaglaaGreatDoorQb04
import Derived.Test.YtbfnlgmhfhaglaaGreatDoorQb02
import Derived.Deep.QuietTactic
import Derived.BigQuiet
import Derived.Outline
namespace Go.Proofs.YtbfnlgmhfhaglaaGreatDoor
open Go.RowKit
set_option linter.unusedVariables false
set_option linter.unusedSimpArgs false
theorem dg_iff (c : UInt8) : M.dgB c = true ↔ 48 <= c.toNat /\ c.toNat <= 57 := by simp [M.dgB]
theorem u8_of {c : UInt8} {k : Nat} (hk : k < 256) (h : c.toNat = k) : c = k.toUInt8 := by
 apply UInt8.toNat_inj.1; rw [h, M.toU8 k hk]
theorem goB_val (n : Nat) (h : n < 256) : M.goB n.toUInt8 = (decide (48 <= n /\ n <= 57) || decide (97 <= n /\ n <= 122) || decide (65 <= n /\ n <= 90) || decide (n = 46) || decide (n = 43) || decide (n = 45) || decide (n = 95)) := by
 have : ∀ n : Fin 256, M.goB n.val.toUInt8 = (decide (48 <= n.val /\ n.val <= 57) || decide (97 <= n.val /\ n.val <= 122) || decide (65 <= n.val /\ n.val <= 90) || decide (n.val = 46) || decide (n.val = 43) || decide (n.val = 45) || decide (n.val = 95)) := by decide +kernel
 exact this ⟨n, h⟩
theorem goB_c (c : UInt8) : M.goB c = (decide (48 <= c.toNat /\ c.toNat <= 57) || decide (97 <= c.toNat /\ c.toNat <= 122) || decide (65 <= c.toNat /\ c.toNat <= 90) || decide (c.toNat = 46) || decide (c.toNat = 43) || decide (c.toNat = 45) || decide (c.toNat = 95)) := by
 have := goB_val c.toNat c.toNat_lt
 rwa [<- u8_of c.toNat_lt rfl] at this
theorem cell_getD {w : World} {b off : Nat} {l : List UInt8} (hcl : ∀ j (h : j < l.length), w.cell? ⟨b, off + j, none⟩ = some (.int .u8 (l[j].toNat : Int))) (i : Nat) (h : i < l.length) :
  w.cell? ⟨b, off + i, none⟩ = some (.int .u8 ((l.getD i 0).toNat : Int)) := by rw [hcl i h]; simp [h]
theorem getD_out (l : List UInt8) (i : Nat) (h : l.length <= i) : l.getD i 0 = 0 := by simp [List.getD, List.getElem?_eq_none h]
theorem run_at (l : List UInt8) (i : Nat) : (M.dgB (l.getD i 0) = true -> i + M.run (l.drop i) = i + 1 + M.run (l.drop (i + 1))) /\ (M.dgB (l.getD i 0) = false -> i + M.run (l.drop i) = i) := by
 by_cases h : i < l.length
 ·have e : l.drop i = l[i] :: l.drop (i + 1) := List.drop_eq_getElem_cons h
  have g : l.getD i 0 = l[i] := by simp [h]
  rw [e, g, show M.run (l[i] :: l.drop (i + 1)) = if M.dgB l[i] then M.run (l.drop (i + 1)) + 1 else 0 from rfl]
  constructor
  ·intro hd; rw [if_pos hd]; omega
  ·intro hd; rw [if_neg (by simp [hd])]; rfl
 ·rw [getD_out l i (by omega), List.drop_eq_nil_of_le (by omega)]
  exact ⟨fun h => absurd h (by decide), fun _ => by simp [M.run]⟩
theorem lead_at (l : List UInt8) (i : Nat) : (M.blB (l.getD i 0) = true -> i + M.lead (l.drop i) = i + 1 + M.lead (l.drop (i + 1))) /\ (M.blB (l.getD i 0) = false -> i + M.lead (l.drop i) = i) := by
 by_cases h : i < l.length
 ·have e : l.drop i = l[i] :: l.drop (i + 1) := List.drop_eq_getElem_cons h
  have g : l.getD i 0 = l[i] := by simp [h]
  rw [e, g, show M.lead (l[i] :: l.drop (i + 1)) = if M.blB l[i] then M.lead (l.drop (i + 1)) + 1 else 0 from rfl]
  constructor
  ·intro hd; rw [if_pos hd]; omega
  ·intro hd; rw [if_neg (by simp [hd])]; rfl
 ·rw [getD_out l i (by omega), List.drop_eq_nil_of_le (by omega)]
  exact ⟨fun h => absurd h (by decide), fun _ => by simp [M.lead]⟩
def tokI (o : Option (Nat × Nat)) (i : Nat) : Int × Int := match o with
 | none => (0, 0)
 | some (k, m) => ((k : Int), ((i + m : Nat) : Int))
def numT (l : List UInt8) (q : Nat) : Int × Int :=
 if M.dgB (l.getD q 0) = true then
  (let a := q + M.whole (l.drop q)
   let b := a + M.frac (l.drop a)
   let c := b + M.expo (l.drop b)
   if M.goB (l.getD c 0) = true then (0, 0) else (8, (c : Int)))
 else (0, 0)
theorem numT_eq (l : List UInt8) (i : Nat) : tokI ((M.numL (l.drop i)).map fun n => (8, n)) i = numT l (i + M.neg (l.drop i)) := by
 unfold M.numL numT
 simp only [M.drop_getD, List.drop_drop]
 by_cases hd : M.dgB (l.getD (i + M.neg (l.drop i)) 0) = true
 ·rw [if_pos hd, if_pos hd]
  generalize M.neg (l.drop i) = q
  rw [show ∀ x, i + (q + x) = i + q + x from fun x => by omega]
  generalize hw : M.whole (l.drop (i + q)) = a
  rw [show i + q + a = i + (q + a) by omega]
  generalize hf : M.frac (l.drop (i + (q + a))) = b
  rw [show i + (q + a + b) = i + (q + a) + b by omega]
  generalize hx : M.expo (l.drop (i + (q + a) + b)) = c
  rw [show i + (q + a) + b + c = i + (q + a + b + c) by omega]
  by_cases hg : M.goB (l.getD (i + (q + a + b + c)) 0) = true
  ·rw [if_pos hg, if_pos hg]; rfl
  ·rw [if_neg hg, if_neg hg]; rfl
 ·rw [if_neg hd, if_neg hd]; rfl
end Go.Proofs.YtbfnlgmhfhaglaaGreatDoor
