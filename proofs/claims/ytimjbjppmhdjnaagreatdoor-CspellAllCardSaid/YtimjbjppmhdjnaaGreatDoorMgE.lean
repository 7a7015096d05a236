import Derived.Test.YtimjbjppmhdjnaaGreatDoorMgU
import Derived.Test.YtimjbjppmhdjnaaGreatDoorMgB
import Derived.Test.YtimjbjppmhdjnaaGreatDoorMgA
import Derived.Laws.BitsLemmas
import Derived.Deep.QuietTactic
import Derived.BigQuiet
import Derived.Outline
set_option maxHeartbeats 4000000
set_option maxRecDepth 100000
namespace Go.Proofs.YtimjbjppmhdjnaaGreatDoor
open Go.RowKit
set_option linter.unusedVariables false
set_option linter.unusedSimpArgs false
theorem nst_any (r : Int) (b : Bool) (w : World) (h : M.nSt r = b) : Calls Tryz.prog 197 #[.int .i64 r] w fun e w' => e = .returned (.bool b) /\ w = w' := by
 have hs : (r <= 64) \/ (65 <= r /\ r <= 90) \/ (91 <= r /\ r <= 94) \/ (r = 95) \/ (r = 96) \/ (97 <= r /\ r <= 122) \/ (123 <= r /\ r <= 127) \/ (128 <= r) := by omega
 rcases hs with h1 | ⟨h1, h2⟩ | ⟨h1, h2⟩ | rfl | rfl | ⟨h1, h2⟩ | ⟨h1, h2⟩ | h1
 ·obtain rfl : b = false := by rw [<- h]; rw [M.nSt_not]; omega
  clear h
  go_enter Tryz.func197, Tryz.ntmps197
  go_wp2
  go_ret
  exact ⟨by first | rfl | (simp; done) | (simp; omega), rfl⟩
 ·obtain rfl : b = true := by rw [<- h]; rw [M.nSt_iff]; omega
  clear h
  go_enter Tryz.func197, Tryz.ntmps197
  go_wp2
  go_ret
  exact ⟨by first | rfl | (simp; done) | (simp; omega), rfl⟩
 ·obtain rfl : b = false := by rw [<- h]; rw [M.nSt_not]; omega
  clear h
  go_enter Tryz.func197, Tryz.ntmps197
  go_wp2
  go_ret
  exact ⟨by first | rfl | (simp; done) | (simp; omega), rfl⟩
 ·obtain rfl : b = true := by rw [<- h]; decide
  clear h
  go_enter Tryz.func197, Tryz.ntmps197
  go_wp2
  go_ret
  exact ⟨by first | rfl | (simp; done) | (simp; omega), rfl⟩
 ·obtain rfl : b = false := by rw [<- h]; decide
  clear h
  go_enter Tryz.func197, Tryz.ntmps197
  go_wp2
  go_ret
  exact ⟨by first | rfl | (simp; done) | (simp; omega), rfl⟩
 ·obtain rfl : b = true := by rw [<- h]; rw [M.nSt_iff]; omega
  clear h
  go_enter Tryz.func197, Tryz.ntmps197
  go_wp2
  go_ret
  exact ⟨by first | rfl | (simp; done) | (simp; omega), rfl⟩
 ·obtain rfl : b = false := by rw [<- h]; rw [M.nSt_not]; omega
  clear h
  go_enter Tryz.func197, Tryz.ntmps197
  go_wp2
  go_ret
  exact ⟨by first | rfl | (simp; done) | (simp; omega), rfl⟩
 ·obtain rfl : b = true := by rw [<- h]; rw [M.nSt_iff]; omega
  clear h
  go_enter Tryz.func197, Tryz.ntmps197
  go_wp2
  go_ret
  exact ⟨by first | rfl | (simp; done) | (simp; omega), rfl⟩
theorem ndg_any (r : Int) (b : Bool) (w : World) (h : M.nDg r = b) : Calls Tryz.prog 117 #[.int .i64 r] w fun e w' => e = .returned (.bool b) /\ w = w' := by
 have hs : (r <= 47) \/ (48 <= r /\ r <= 57) \/ (58 <= r) := by omega
 rcases hs with h1 | ⟨h1, h2⟩ | h1
 ·obtain rfl : b = false := by rw [<- h]; rw [M.nDg_not]; omega
  clear h
  go_enter Tryz.func117, Tryz.ntmps117
  go_wp2
  go_ret
  exact ⟨by first | rfl | (simp; done) | (simp; omega), rfl⟩
 ·obtain rfl : b = true := by rw [<- h]; rw [M.nDg_iff]; omega
  clear h
  go_enter Tryz.func117, Tryz.ntmps117
  go_wp2
  go_ret
  exact ⟨by first | rfl | (simp; done) | (simp; omega), rfl⟩
 ·obtain rfl : b = false := by rw [<- h]; rw [M.nDg_not]; omega
  clear h
  go_enter Tryz.func117, Tryz.ntmps117
  go_wp2
  go_ret
  exact ⟨by first | rfl | (simp; done) | (simp; omega), rfl⟩
theorem isx_any (r : Int) (b : Bool) (w : World) (h : M.isX r = b) : Calls Tryz.prog 160 #[.int .i64 r] w fun e w' => e = .returned (.bool b) /\ w = w' := by
 have hs : (r <= 47) \/ (48 <= r /\ r <= 57) \/ (58 <= r /\ r <= 64) \/ (65 <= r /\ r <= 70) \/ (71 <= r /\ r <= 96) \/ (97 <= r /\ r <= 102) \/ (103 <= r) := by omega
 rcases hs with h1 | ⟨h1, h2⟩ | ⟨h1, h2⟩ | ⟨h1, h2⟩ | ⟨h1, h2⟩ | ⟨h1, h2⟩ | h1
 ·obtain rfl : b = false := by rw [<- h]; rw [M.isX_not]; omega
  clear h
  go_enter Tryz.func160, Tryz.ntmps160
  go_wp2
  go_ret
  exact ⟨by first | rfl | (simp; done) | (simp; omega), rfl⟩
 ·obtain rfl : b = true := by rw [<- h]; rw [M.isX_iff]; omega
  clear h
  go_enter Tryz.func160, Tryz.ntmps160
  go_wp2
  go_ret
  exact ⟨by first | rfl | (simp; done) | (simp; omega), rfl⟩
 ·obtain rfl : b = false := by rw [<- h]; rw [M.isX_not]; omega
  clear h
  go_enter Tryz.func160, Tryz.ntmps160
  go_wp2
  go_ret
  exact ⟨by first | rfl | (simp; done) | (simp; omega), rfl⟩
 ·obtain rfl : b = true := by rw [<- h]; rw [M.isX_iff]; omega
  clear h
  go_enter Tryz.func160, Tryz.ntmps160
  go_wp2
  go_ret
  exact ⟨by first | rfl | (simp; done) | (simp; omega), rfl⟩
 ·obtain rfl : b = false := by rw [<- h]; rw [M.isX_not]; omega
  clear h
  go_enter Tryz.func160, Tryz.ntmps160
  go_wp2
  go_ret
  exact ⟨by first | rfl | (simp; done) | (simp; omega), rfl⟩
 ·obtain rfl : b = true := by rw [<- h]; rw [M.isX_iff]; omega
  clear h
  go_enter Tryz.func160, Tryz.ntmps160
  go_wp2
  go_ret
  exact ⟨by first | rfl | (simp; done) | (simp; omega), rfl⟩
 ·obtain rfl : b = false := by rw [<- h]; rw [M.isX_not]; omega
  clear h
  go_enter Tryz.func160, Tryz.ntmps160
  go_wp2
  go_ret
  exact ⟨by first | rfl | (simp; done) | (simp; omega), rfl⟩
theorem isbl_any (r : Int) (b : Bool) (w : World) (h : M.isBl r = b) : Calls Tryz.prog 145 #[.int .i64 r] w fun e w' => e = .returned (.bool b) /\ w = w' := by
 have hs : (r <= 8) \/ (r = 9) \/ (r = 10) \/ (11 <= r /\ r <= 31) \/ (r = 32) \/ (33 <= r) := by omega
 rcases hs with h1 | rfl | rfl | ⟨h1, h2⟩ | rfl | h1
 ·obtain rfl : b = false := by rw [<- h]; rw [M.isBl_not]; omega
  clear h
  go_enter Tryz.func145, Tryz.ntmps145
  go_wp2
  go_ret
  exact ⟨by first | rfl | (simp; done) | (simp; omega), rfl⟩
 ·obtain rfl : b = true := by rw [<- h]; decide
  clear h
  go_enter Tryz.func145, Tryz.ntmps145
  go_wp2
  go_ret
  exact ⟨by first | rfl | (simp; done) | (simp; omega), rfl⟩
 ·obtain rfl : b = true := by rw [<- h]; decide
  clear h
  go_enter Tryz.func145, Tryz.ntmps145
  go_wp2
  go_ret
  exact ⟨by first | rfl | (simp; done) | (simp; omega), rfl⟩
 ·obtain rfl : b = false := by rw [<- h]; rw [M.isBl_not]; omega
  clear h
  go_enter Tryz.func145, Tryz.ntmps145
  go_wp2
  go_ret
  exact ⟨by first | rfl | (simp; done) | (simp; omega), rfl⟩
 ·obtain rfl : b = true := by rw [<- h]; decide
  clear h
  go_enter Tryz.func145, Tryz.ntmps145
  go_wp2
  go_ret
  exact ⟨by first | rfl | (simp; done) | (simp; omega), rfl⟩
 ·obtain rfl : b = false := by rw [<- h]; rw [M.isBl_not]; omega
  clear h
  go_enter Tryz.func145, Tryz.ntmps145
  go_wp2
  go_ret
  exact ⟨by first | rfl | (simp; done) | (simp; omega), rfl⟩
theorem rnst_any (r : Int) (b : Bool) (w : World) (h : M.nSt r = b) : Calls Tryz.prog 65 #[.int .i64 r] w fun e w' => e = .returned (.bool b) /\ w = w' := by
 have hs : (r <= 64) \/ (65 <= r /\ r <= 90) \/ (91 <= r /\ r <= 94) \/ (r = 95) \/ (r = 96) \/ (97 <= r /\ r <= 122) \/ (123 <= r /\ r <= 127) \/ (128 <= r) := by omega
 rcases hs with h1 | ⟨h1, h2⟩ | ⟨h1, h2⟩ | rfl | rfl | ⟨h1, h2⟩ | ⟨h1, h2⟩ | h1
 ·obtain rfl : b = false := by rw [<- h]; rw [M.nSt_not]; omega
  clear h
  go_enter Tryz.func65, Tryz.ntmps65
  go_wp2
  go_ret
  exact ⟨by first | rfl | (simp; done) | (simp; omega), rfl⟩
 ·obtain rfl : b = true := by rw [<- h]; rw [M.nSt_iff]; omega
  clear h
  go_enter Tryz.func65, Tryz.ntmps65
  go_wp2
  go_ret
  exact ⟨by first | rfl | (simp; done) | (simp; omega), rfl⟩
 ·obtain rfl : b = false := by rw [<- h]; rw [M.nSt_not]; omega
  clear h
  go_enter Tryz.func65, Tryz.ntmps65
  go_wp2
  go_ret
  exact ⟨by first | rfl | (simp; done) | (simp; omega), rfl⟩
 ·obtain rfl : b = true := by rw [<- h]; decide
  clear h
  go_enter Tryz.func65, Tryz.ntmps65
  go_wp2
  go_ret
  exact ⟨by first | rfl | (simp; done) | (simp; omega), rfl⟩
 ·obtain rfl : b = false := by rw [<- h]; decide
  clear h
  go_enter Tryz.func65, Tryz.ntmps65
  go_wp2
  go_ret
  exact ⟨by first | rfl | (simp; done) | (simp; omega), rfl⟩
 ·obtain rfl : b = true := by rw [<- h]; rw [M.nSt_iff]; omega
  clear h
  go_enter Tryz.func65, Tryz.ntmps65
  go_wp2
  go_ret
  exact ⟨by first | rfl | (simp; done) | (simp; omega), rfl⟩
 ·obtain rfl : b = false := by rw [<- h]; rw [M.nSt_not]; omega
  clear h
  go_enter Tryz.func65, Tryz.ntmps65
  go_wp2
  go_ret
  exact ⟨by first | rfl | (simp; done) | (simp; omega), rfl⟩
 ·obtain rfl : b = true := by rw [<- h]; rw [M.nSt_iff]; omega
  clear h
  go_enter Tryz.func65, Tryz.ntmps65
  go_wp2
  go_ret
  exact ⟨by first | rfl | (simp; done) | (simp; omega), rfl⟩
theorem rndg_any (r : Int) (b : Bool) (w : World) (h : M.nDg r = b) : Calls Tryz.prog 66 #[.int .i64 r] w fun e w' => e = .returned (.bool b) /\ w = w' := by
 have hs : (r <= 47) \/ (48 <= r /\ r <= 57) \/ (58 <= r) := by omega
 rcases hs with h1 | ⟨h1, h2⟩ | h1
 ·obtain rfl : b = false := by rw [<- h]; rw [M.nDg_not]; omega
  clear h
  go_enter Tryz.func66, Tryz.ntmps66
  go_wp2
  go_ret
  exact ⟨by first | rfl | (simp; done) | (simp; omega), rfl⟩
 ·obtain rfl : b = true := by rw [<- h]; rw [M.nDg_iff]; omega
  clear h
  go_enter Tryz.func66, Tryz.ntmps66
  go_wp2
  go_ret
  exact ⟨by first | rfl | (simp; done) | (simp; omega), rfl⟩
 ·obtain rfl : b = false := by rw [<- h]; rw [M.nDg_not]; omega
  clear h
  go_enter Tryz.func66, Tryz.ntmps66
  go_wp2
  go_ret
  exact ⟨by first | rfl | (simp; done) | (simp; omega), rfl⟩
theorem risbl_any (r : Int) (b : Bool) (w : World) (h : M.isBl r = b) : Calls Tryz.prog 30 #[.int .i64 r] w fun e w' => e = .returned (.bool b) /\ w = w' := by
 have hs : (r <= 8) \/ (r = 9) \/ (r = 10) \/ (11 <= r /\ r <= 31) \/ (r = 32) \/ (33 <= r) := by omega
 rcases hs with h1 | rfl | rfl | ⟨h1, h2⟩ | rfl | h1
 ·obtain rfl : b = false := by rw [<- h]; rw [M.isBl_not]; omega
  clear h
  go_enter Tryz.func30, Tryz.ntmps30
  go_wp2
  go_ret
  exact ⟨by first | rfl | (simp; done) | (simp; omega), rfl⟩
 ·obtain rfl : b = true := by rw [<- h]; decide
  clear h
  go_enter Tryz.func30, Tryz.ntmps30
  go_wp2
  go_ret
  exact ⟨by first | rfl | (simp; done) | (simp; omega), rfl⟩
 ·obtain rfl : b = true := by rw [<- h]; decide
  clear h
  go_enter Tryz.func30, Tryz.ntmps30
  go_wp2
  go_ret
  exact ⟨by first | rfl | (simp; done) | (simp; omega), rfl⟩
 ·obtain rfl : b = false := by rw [<- h]; rw [M.isBl_not]; omega
  clear h
  go_enter Tryz.func30, Tryz.ntmps30
  go_wp2
  go_ret
  exact ⟨by first | rfl | (simp; done) | (simp; omega), rfl⟩
 ·obtain rfl : b = true := by rw [<- h]; decide
  clear h
  go_enter Tryz.func30, Tryz.ntmps30
  go_wp2
  go_ret
  exact ⟨by first | rfl | (simp; done) | (simp; omega), rfl⟩
 ·obtain rfl : b = false := by rw [<- h]; rw [M.isBl_not]; omega
  clear h
  go_enter Tryz.func30, Tryz.ntmps30
  go_wp2
  go_ret
  exact ⟨by first | rfl | (simp; done) | (simp; omega), rfl⟩
def cps (l : List (Int × Int)) : List Int := l.map Prod.fst
theorem cps_len (l : List (Int × Int)) : (cps l).length = l.length := by simp [cps]
theorem getD_lt (c : List Int) (i : Nat) (h : i < c.length) (d : Int) : c.getD i d = c[i] := by simp [List.getD, h]
def Lc (w : World) (v : Value) (c : List Int) : Prop :=
 ∃ a cap, v = .slice a c.length cap /\ c.length <= cap /\ cap <= maxLen /\ (0 < c.length -> ∃ b off, a = some ⟨b, off, none⟩ /\ b < w.heap.size /\ ∀ j (hj : j < c.length), w.cell? ⟨b, off + j * 2, none⟩ = some (.int .i64 (c.getD j (-1))))
theorem Rs.lc {w : World} {v : Value} {l : List (Int × Int)} (h : Rs w v l) : Lc w v (cps l) := by
 obtain ⟨a, cap, rfl, h1, h2, h3⟩ := rs_open h rfl
 refine ⟨a, cap, by rw [cps_len], by rw [cps_len]; exact h1, h2, fun h0 => ?_⟩
 obtain ⟨b, off, rfl, hb, hc⟩ := h3 (by rwa [cps_len] at h0)
 exact ⟨b, off, rfl, hb, fun j hj => by rw [(hc j (by rwa [cps_len] at hj)).1, getD_lt (cps l) j hj]; simp [cps]⟩
theorem Lc.keep {w w' : World} {v : Value} {c : List Int} (h : Lc w v c) (hb : Below w.heap.size w w') : Lc w' v c := by
 obtain ⟨a, cap, rfl, h1, h2, h3⟩ := h
 refine ⟨a, cap, rfl, h1, h2, fun h0 => ?_⟩
 obtain ⟨b, off, rfl, hlt, hc⟩ := h3 h0
 exact ⟨b, off, rfl, Nat.lt_of_lt_of_le hlt hb.size, fun j hj => by rw [hb.cell (p := ⟨b, off + j * 2, none⟩) hlt]; exact hc j hj⟩
theorem drop_cons (c : List Int) (i : Nat) (h : i < c.length) : c.drop i = c[i] :: c.drop (i + 1) := List.drop_eq_getElem_cons h
theorem getD_drop (c : List Int) (i k : Nat) (d : Int) : (c.drop i).getD k d = c.getD (i + k) d := by simp [List.getD]
theorem esB_at (c : List Int) (i : Nat) : M.esB (c.drop i) = (decide (i < c.length) && (decide (c.getD i (-1) = 92) && decide (c.getD (i + 1) (-1) ≠ 10))) := by
 by_cases h : i < c.length
 ·rw [drop_cons c i h, getD_lt c i h]
  simp only [M.esB, h, decide_true, Bool.true_and]
  rw [getD_drop, Nat.add_zero]
 ·rw [List.drop_eq_nil_of_le (by omega)]; simp [M.esB, h]
theorem ebegins_any (v : Value) (c : List Int) (at' : Int) (b : Bool) (w : World) (hv : Lc w v c) (hl : c.length <= 4294967296) (h : (if at' < 0 then false else M.esB (c.drop at'.toNat)) = b) :
  Calls Tryz.prog 182 #[v, .int .i64 at'] w fun e w' => e = .returned (.bool b) /\ w = w' := by
 obtain ⟨a, cap, rfl, h1, h2, h3⟩ := hv
 obtain ⟨n, hn⟩ : ∃ n, c.length = n := ⟨_, rfl⟩
 unfold maxLen at h2
 rw [hn] at h1 h3 hl ⊢
 by_cases hneg : at' < 0
 ·rw [if_pos hneg] at h
  subst h
  clear h3 hn
  go_enter Tryz.func182, Tryz.ntmps182
  go_wp2
  go_ret
  exact ⟨by first | rfl | (simp; done) | (simp; omega), rfl⟩
 rw [if_neg hneg] at h
 obtain ⟨i, rfl⟩ : ∃ i : Nat, at' = (i : Int) := ⟨at'.toNat, by omega⟩
 simp only [Int.toNat_natCast] at h
 rw [esB_at] at h
 by_cases hi : i < n
 ·obtain ⟨p, off, rfl, hp, hc⟩ := h3 (by omega)
  have c0 := hc i hi
  have c1 : i + 1 < n -> w.cell? ⟨p, off + (i + 1) * 2, none⟩ = some (.int .i64 (c.getD (i + 1) (-1))) := fun hj => hc (i + 1) hj
  have cn : n <= i + 1 -> c.getD (i + 1) (-1) = -1 := fun hj => by simp [List.getD, List.getElem?_eq_none (show c.length <= i + 1 by omega)]
  rw [hn] at h
  simp only [hi, decide_true, Bool.true_and] at h
  obtain ⟨x, hx⟩ : ∃ x, c.getD i (-1) = x := ⟨_, rfl⟩
  obtain ⟨y, hy⟩ : ∃ x, c.getD (i + 1) (-1) = x := ⟨_, rfl⟩
  rw [hx] at h c0
  rw [hy] at h c1 cn
  have i1 : (0 : Int) <= i := by omega
  have i2 : (i : Int) < n := by omega
  clear hc hn hx hy h3
  by_cases hx92 : x = 92
  ·subst hx92
   simp only [decide_true, Bool.true_and] at h
   by_cases hj : i + 1 < n
   ·have c1' := c1 hj
    have i3 : ((i : Int) + 1).toNat = i + 1 := by omega
    have t1 : ((i : Int) + 1 == n) = false := by rw [beq_eq_false_iff_ne]; omega
    have i4 : (i : Int) + 1 < n := by omega
    have hb : b = (y != 10) := by rw [<- h]; by_cases h10 : y = 10 <;> simp [h10]
    subst hb
    clear c1 cn h hj
    go_enter Tryz.func182, Tryz.ntmps182
    go_wp2
    go_ret
    exact ⟨rfl, rfl⟩
   ·have := cn (by omega)
    subst this
    have t1 : ((i : Int) + 1 == n) = true := by rw [beq_iff_eq]; omega
    simp at h
    subst h
    clear c1 cn hj
    go_enter Tryz.func182, Tryz.ntmps182
    go_wp2
    go_ret
    exact ⟨rfl, rfl⟩
  ·have t1 : (x == 92) = false := by rw [beq_eq_false_iff_ne]; exact hx92
   have t2 : (x != 92) = true := by simp [bne, t1]
   simp [hx92] at h
   subst h
   clear c1 cn hx92
   go_enter Tryz.func182, Tryz.ntmps182
   go_wp2
   go_ret
   exact ⟨rfl, rfl⟩
 ·simp [hn, hi] at h
  subst h
  have i1 : (n : Int) <= i := by omega
  clear h3 hn
  go_enter Tryz.func182, Tryz.ntmps182
  go_wp2
  go_ret
  exact ⟨by first | rfl | (simp; done) | (simp; omega), rfl⟩
theorem eret_i {k : IntKind} {a b : Int} (h : a = b) : Ending.returned (.int k a) = .returned (.int k b) := by rw [h]
theorem etup_ii {a b c d : Int} (h : a = b) (h2 : c = d) : Ending.returned (.tuple #[.int .i64 a, .int .i64 c]) = .returned (.tuple #[.int .i64 b, .int .i64 d]) := by rw [h, h2]
theorem hexv_any (r x : Int) (w : World) (h : M.isX r = true) (hx : M.xv r = x) : Calls Tryz.prog 205 #[.int .i64 r] w fun e w' => e = .returned (.int .i64 x) /\ w = w' := by
 rw [M.isX_iff] at h
 have hx2 : (48 <= r /\ r <= 57 /\ x = r - 48) \/ (97 <= r /\ r <= 102 /\ x = r - 87) \/ (65 <= r /\ r <= 70 /\ x = r - 55) := by
  subst hx
  unfold M.xv
  rcases h with h | h | h
  ·left; rw [if_pos (by omega)]; omega
  ·right; left; rw [if_neg (by omega), if_neg (by omega)]; omega
  ·right; right; rw [if_neg (by omega), if_pos (by omega)]; omega
 clear h hx
 rcases hx2 with ⟨h1, h2, hx⟩ | ⟨h1, h2, hx⟩ | ⟨h1, h2, hx⟩
 all_goals
  have Hx := Lib.hid hx
  clear hx
  go_enter Tryz.func205, Tryz.ntmps205
  go_wp2
  go_ret
  exact ⟨eret_i (by have := Hx.out; omega), rfl⟩
theorem eor_16 (a x : Int) (h0 : 0 <= a) (ha : a < 16777216) (hx0 : 0 <= x) (hx : x <= 15) : bits .or .i64 (a * 16) x = 16 * a + x := by
 have := bits_join .i64 62 (by decide) rwraps_i64 4 (a * 16) x (by omega) (by omega) (by omega) (by omega) (by omega) (by omega)
 rw [this]; omega
theorem etake_any (v : Value) (c : List Int) (i : Nat) (r : Int) (k : Nat) (w : World) (hv : Lc w v c) (hl : c.length <= 4294967296) (hi : i < c.length) (h : M.escV (c.drop (i + 1)) = (r, k)) :
  Calls Tryz.prog 181 #[v, .int .i64 (i : Int)] w fun e w' => e = .returned (.tuple #[.int .i64 r, .int .i64 ((i + 1 + k : Nat) : Int)]) /\ w = w' := by
 obtain ⟨a, cap, rfl, h1, h2, h3⟩ := hv
 obtain ⟨n, hn⟩ : ∃ n, c.length = n := ⟨_, rfl⟩
 unfold maxLen at h2
 rw [hn] at h1 h3 hl hi ⊢
 obtain ⟨p, off, rfl, hp, hc⟩ := h3 (by omega)
 obtain ⟨m, hm⟩ : ∃ m, i + 1 = m := ⟨_, rfl⟩
 rw [hm] at h ⊢
 have hm' : (i : Int) + 1 = m := by omega
 clear h3
 by_cases hend : m = n
 ·rw [List.drop_eq_nil_of_le (by omega)] at h
  simp only [M.escV, Prod.mk.injEq] at h
  obtain ⟨rfl, rfl⟩ := h
  have Hn := Lib.hid hn
  have Hm := Lib.hid hm
  have t1 : ((m : Int) == n) = true := by rw [beq_iff_eq]; omega
  clear hn hm hc hend
  go_enter Tryz.func181, Tryz.ntmps181
  go_wp2
  go_ret2
  exact ⟨etup_ii rfl (by omega), rfl⟩
 have hmn : m < n := by omega
 have c0 := hc m hmn
 have t1 : ((m : Int) == n) = false := by rw [beq_eq_false_iff_ne]; omega
 have i1 : (0 : Int) <= m := by omega
 have i2 : (m : Int) < n := by omega
 have hdc : c.drop m = c.getD m (-1) :: c.drop (m + 1) := by rw [getD_lt c m (by omega)]; exact List.drop_eq_getElem_cons (by omega)
 by_cases hx : M.isX (c.getD m (-1)) = true
 ·rw [hdc] at h
  simp only [M.escV, hx, if_true, Prod.mk.injEq] at h
  rw [<- hdc] at h
  obtain ⟨hr, hk⟩ := h
  obtain ⟨D, hD⟩ : ∃ D, M.hexRun 6 (c.drop m) = D := ⟨_, rfl⟩
  have hg := M.hexRun_get 6 (c.drop m)
  have he := M.hexRun_end 6 (c.drop m)
  have hle := M.hexRun_len 6 (c.drop m)
  have hsm := M.hexVal_small 6 (c.drop m)
  have hst := M.hexVal_step D
  rw [hD] at hg he hle hr hk
  simp only [getD_drop, hD] at hg he hk hsm
  rw [List.length_drop, hn] at he hle
  obtain ⟨d, hd⟩ : ∃ d, D.length = d := ⟨_, rfl⟩
  rw [hd] at he hle hk
  have X1 := Lib.hid (isx_any (c.getD m (-1)) true w hx)
  have Hr := Lib.hid hr
  have Hk := Lib.hid hk
  have Hn := Lib.hid hn
  have Hm := Lib.hid hm
  have Hd := Lib.hid hd
  have HG := Lib.hid hg
  have HE := Lib.hid he
  have HS := Lib.hid hsm
  have HT := Lib.hid hst
  have HC := Lib.hid hc
  have hm0 : M.hexVal (D.take 0) = 0 := by simp [M.hexVal]
  have Hm0 := Lib.hid hm0
  obtain ⟨y, hy⟩ : ∃ y, c.getD m (-1) = y := ⟨_, rfl⟩
  rw [hy] at c0 X1
  clear hr hk hn hm hd hg he hsm hst hc hdc hx hD hend hy hm0
  have hd6 := hle.1
  have hdn := hle.2
  clear hle
  go_enter Tryz.func181, Tryz.ntmps181
  go_wp2_with fail
  refine (X1.out).mono ?_
  rintro e w' ⟨rfl, rfl⟩
  go_wp2
  go_loop [6, 7] (fun rv ev => ∃ j : Nat, ev = .int .i64 ((m : Int) + j) /\ j <= d /\ rv = .int .i64 (M.hexVal (D.take j))) (fun _ ev => m + d - (intOf ev).toNat)
  case atStart => exact ⟨0, by simp, by omega, by rw [Hm0.out]⟩
  case round =>
   obtain ⟨j, rfl, hj, rfl⟩ := hrel
   obtain ⟨V, hV⟩ : ∃ V, M.hexVal (D.take j) = V := ⟨_, rfl⟩
   have hVr := HS.out j (by decide)
   rw [hV] at hVr ⊢
   obtain ⟨hV0, hV1⟩ := hVr
   obtain ⟨q, hq⟩ : ∃ q, m + j = q := ⟨_, rfl⟩
   have hq' : (m : Int) + j = q := by omega
   rw [hq']
   by_cases hlt : j < d
   ·obtain ⟨g1, g2⟩ := HG.out j (by rw [Hd.out]; exact hlt)
    have ht := HT.out j (by rw [Hd.out]; exact hlt)
    rw [<- g1, hV, hq] at ht
    rw [hq] at g2
    have c1 := HC.out q (by omega)
    have X2 := Lib.hid (isx_any (c.getD q (-1)) true w g2)
    have hxr := M.xv_range _ g2
    obtain ⟨x, hx⟩ : ∃ x, M.xv (c.getD q (-1)) = x := ⟨_, rfl⟩
    have X3 := Lib.hid (hexv_any (c.getD q (-1)) x w g2 hx)
    rw [hx] at ht hxr
    obtain ⟨hx0, hx1⟩ := hxr
    have hor := eor_16 V x hV0 hV1 hx0 hx1
    obtain ⟨y2, hy⟩ : ∃ y, c.getD q (-1) = y := ⟨_, rfl⟩
    rw [hy] at c1 X2 X3
    have Ht := Lib.hid ht
    have Hq := Lib.hid hq
    have HV := Lib.hid hV
    have j1 : (0 : Int) <= q := by omega
    have j2 : (q : Int) < n := by omega
    have j3 : (q : Int) - m < 6 := by omega
    clear g1 g2 ht hx hy hq hV hq'
    go_wp2_with fail
    refine (X2.out).mono ?_
    rintro e w' ⟨rfl, rfl⟩
    go_wp2_with fail
    refine (X3.out).mono ?_
    rintro e w' ⟨rfl, rfl⟩
    go_wp2
    go_round
    case rel => exact ⟨j + 1, by have := Hq.out; go_num, by omega, by rw [Ht.out]⟩
    case measure => have := Hq.out; simp [intOf]; omega
   ·obtain rfl : j = d := by omega
    have hvd : V = M.hexVal D := by rw [<- hV, List.take_of_length_le (by rw [Hd.out]; exact Nat.le_refl _)]
    have hr2 : M.okX V = r := by rw [hvd]; exact Hr.out
    have hk2 := Hk.out
    have he2 := HE.out
    rw [hq] at hk2 he2
    have Hq := Lib.hid hq
    have HR := Lib.hid hr2
    have HK := Lib.hid hk2
    have j1 : (0 : Int) <= q := by omega
    have hcq := HC.out q
    have hbe : n <= q -> M.isBl (c.getD q (-1)) = false := fun hh => by simp [List.getD, List.getElem?_eq_none (show c.length <= q by rw [Hn.out]; exact hh), M.isBl]
    clear hV hvd hr2 hk2 hlt hq' hq
    by_cases hqn : q < n
    ·have j2 : (q : Int) < n := by omega
     have t2 : decide ((q : Int) < n) = true := by simp; omega
     have c1 := hcq hqn
     obtain ⟨bl, hbl⟩ : ∃ bl, M.isBl (c.getD q (-1)) = bl := ⟨_, rfl⟩
     have X2 := Lib.hid (isbl_any (c.getD q (-1)) bl w hbl)
     have HB := Lib.hid hbl
     have hx2 : (6 <= (q : Int) - m) \/ ((q : Int) - m < 6 /\ M.isX (c.getD q (-1)) = false) := by
      have hqq := Hq.out
      rcases he2 with h | h | ⟨h, h2⟩
      ·left; omega
      ·omega
      ·by_cases h6 : (q : Int) - m < 6
       ·right; exact ⟨h6, h2⟩
       ·left; omega
     obtain ⟨y2, hy⟩ : ∃ y, c.getD q (-1) = y := ⟨_, rfl⟩
     rw [hy] at c1 X2 hx2
     clear hbl hy he2 hcq hbe
     rcases hx2 with h6 | ⟨h6, hx2⟩
     ·have t3 : decide ((q : Int) - m < 6) = false := by simp; omega
      cases bl with
      | true =>
       go_wp2_with fail
       refine (X2.out).mono ?_
       rintro e w' ⟨rfl, rfl⟩
       go_wp2
       all_goals
        go_ret2
        refine ⟨etup_ii ?_ ?_, rfl⟩
        ·rw [<- HR.out]; unfold M.okX; (try simp only [beq_iff_eq] at *); split <;> omega
        ·have hk3 := HK.out; have hqq := Hq.out; rw [HB.out] at hk3; simp at hk3; omega
      | false =>
       go_wp2_with fail
       refine (X2.out).mono ?_
       rintro e w' ⟨rfl, rfl⟩
       go_wp2
       all_goals
        go_ret2
        refine ⟨etup_ii ?_ ?_, rfl⟩
        ·rw [<- HR.out]; unfold M.okX; (try simp only [beq_iff_eq] at *); split <;> omega
        ·have hk3 := HK.out; have hqq := Hq.out; rw [HB.out] at hk3; simp at hk3; omega
     ·have t3 : decide ((q : Int) - m < 6) = true := by simp; omega
      have X4 := Lib.hid (isx_any y2 false w hx2)
      clear hx2
      cases bl with
      | true =>
       go_wp2_with fail
       refine (X4.out).mono ?_
       rintro e w' ⟨rfl, rfl⟩
       go_wp2_with fail
       refine (X2.out).mono ?_
       rintro e w' ⟨rfl, rfl⟩
       go_wp2
       all_goals
        go_ret2
        refine ⟨etup_ii ?_ ?_, rfl⟩
        ·rw [<- HR.out]; unfold M.okX; (try simp only [beq_iff_eq] at *); split <;> omega
        ·have hk3 := HK.out; have hqq := Hq.out; rw [HB.out] at hk3; simp at hk3; omega
      | false =>
       go_wp2_with fail
       refine (X4.out).mono ?_
       rintro e w' ⟨rfl, rfl⟩
       go_wp2_with fail
       refine (X2.out).mono ?_
       rintro e w' ⟨rfl, rfl⟩
       go_wp2
       all_goals
        go_ret2
        refine ⟨etup_ii ?_ ?_, rfl⟩
        ·rw [<- HR.out]; unfold M.okX; (try simp only [beq_iff_eq] at *); split <;> omega
        ·have hk3 := HK.out; have hqq := Hq.out; rw [HB.out] at hk3; simp at hk3; omega
    ·have t2 : decide ((q : Int) < n) = false := by simp; omega
     have j2 : (n : Int) <= q := by omega
     have HB := Lib.hid (hbe (by omega))
     clear he2 hcq hbe
     go_wp2
     all_goals
      go_ret2
      refine ⟨etup_ii ?_ ?_, rfl⟩
      ·rw [<- HR.out]; unfold M.okX; (try simp only [beq_iff_eq] at *); split <;> omega
      ·have hk3 := HK.out; have hqq := Hq.out; rw [HB.out] at hk3; simp at hk3; omega
 ·have hx' : M.isX (c.getD m (-1)) = false := by simpa using hx
  rw [hdc] at h
  simp only [M.escV, hx', Bool.false_eq_true, if_false, Prod.mk.injEq] at h
  obtain ⟨hr, rfl⟩ := h
  have X1 := Lib.hid (isx_any (c.getD m (-1)) false w hx')
  rw [hr] at c0 X1
  have Hn := Lib.hid hn
  have Hm := Lib.hid hm
  clear hn hm hc hend hx hx' hdc hr
  go_enter Tryz.func181, Tryz.ntmps181
  go_wp2_with fail
  refine (X1.out).mono ?_
  rintro e w' ⟨rfl, rfl⟩
  go_wp2
  go_ret2
  exact ⟨etup_ii rfl (by omega), rfl⟩
theorem nin_any (r : Int) (b : Bool) (w : World) (h : M.nIn r = b) : Calls Tryz.prog 158 #[.int .i64 r] w fun e w' => e = .returned (.bool b) /\ w = w' := by
 cases hs : M.nSt r with
 | true =>
  have X1 := Lib.hid (nst_any r true w hs)
  have hb : b = true := by rw [<- h]; simp [M.nIn, hs]
  subst hb
  clear h hs
  go_enter Tryz.func158, Tryz.ntmps158
  go_wp2_with fail
  refine (X1.out).mono ?_
  rintro e w' ⟨rfl, rfl⟩
  go_wp2
  go_ret
  exact ⟨rfl, rfl⟩
 | false =>
  have X1 := Lib.hid (nst_any r false w hs)
  cases hd : M.nDg r with
  | true =>
   have X2 := Lib.hid (ndg_any r true w hd)
   have hb : b = true := by rw [<- h]; simp [M.nIn, hd]
   subst hb
   clear h hs hd
   go_enter Tryz.func158, Tryz.ntmps158
   go_wp2_with fail
   refine (X1.out).mono ?_
   rintro e w' ⟨rfl, rfl⟩
   go_wp2_with fail
   refine (X2.out).mono ?_
   rintro e w' ⟨rfl, rfl⟩
   go_wp2
   go_ret
   exact ⟨rfl, rfl⟩
  | false =>
   have X2 := Lib.hid (ndg_any r false w hd)
   have hb : b = (r == 45) := by rw [<- h]; simp [M.nIn, hs, hd]; by_cases h45 : r = 45 <;> simp [h45]
   subst hb
   clear h hs hd
   go_enter Tryz.func158, Tryz.ntmps158
   go_wp2_with fail
   refine (X1.out).mono ?_
   rintro e w' ⟨rfl, rfl⟩
   go_wp2_with fail
   refine (X2.out).mono ?_
   rintro e w' ⟨rfl, rfl⟩
   go_wp2
   go_ret
   exact ⟨rfl, rfl⟩
theorem starts_any (v : Value) (c : List Int) (i : Nat) (b : Bool) (w : World) (hv : Lc w v c) (hl : c.length <= 4294967296) (hi : i <= 4294967296) (h : (if i < c.length then M.nSt (c.getD i (-1)) || M.esB (c.drop i) else false) = b) :
  Calls Tryz.prog 188 #[v, .int .i64 (i : Int)] w fun e w' => e = .returned (.bool b) /\ w = w' := by
 have hv2 := hv
 obtain ⟨a, cap, rfl, h1, h2, h3⟩ := hv
 have E1 := ebegins_any _ c i (M.esB (c.drop i)) w hv2 hl (by rw [if_neg (by omega)]; simp)
 obtain ⟨n, hn⟩ : ∃ n, c.length = n := ⟨_, rfl⟩
 unfold maxLen at h2
 rw [hn] at h1 h3 hl h E1 ⊢
 clear hv2
 by_cases hin : i < n
 ·rw [if_pos hin] at h
  obtain ⟨p, off, rfl, hp, hc⟩ := h3 (by omega)
  have c0 := hc i hin
  have i1 : (0 : Int) <= i := by omega
  have i2 : (i : Int) < n := by omega
  have HE := Lib.hid E1
  cases hs : M.nSt (c.getD i (-1)) with
  | true =>
   have X1 := Lib.hid (nst_any _ true w hs)
   obtain ⟨y, hy⟩ : ∃ y, c.getD i (-1) = y := ⟨_, rfl⟩
   rw [hy] at c0 X1
   rw [hs] at h
   simp at h
   subst h
   clear E1 hc h3 hn hs hy
   go_enter Tryz.func188, Tryz.ntmps188
   go_wp2_with fail
   refine (X1.out).mono ?_
   rintro e w' ⟨rfl, rfl⟩
   go_wp2
   go_ret
   exact ⟨rfl, rfl⟩
  | false =>
   have X1 := Lib.hid (nst_any _ false w hs)
   obtain ⟨y, hy⟩ : ∃ y, c.getD i (-1) = y := ⟨_, rfl⟩
   rw [hy] at c0 X1
   rw [hs, Bool.false_or] at h
   rw [h] at HE
   clear E1 hc h3 hn hs hy h
   go_enter Tryz.func188, Tryz.ntmps188
   go_wp2_with fail
   refine (X1.out).mono ?_
   rintro e w' ⟨rfl, rfl⟩
   go_wp2_with fail
   refine (HE.out).mono ?_
   rintro e w' ⟨rfl, rfl⟩
   go_wp2
   go_ret
   exact ⟨rfl, rfl⟩
 ·rw [if_neg hin] at h
  subst h
  have e0 : M.esB (c.drop i) = false := by rw [List.drop_eq_nil_of_le (by omega)]; rfl
  rw [e0] at E1
  have HE := Lib.hid E1
  have i2 : (n : Int) <= i := by omega
  have t1 : decide ((i : Int) < n) = false := by simp; omega
  clear h3 hn e0 hin E1
  go_enter Tryz.func188, Tryz.ntmps188
  go_wp2_with fail
  refine (HE.out).mono ?_
  rintro e w' ⟨rfl, rfl⟩
  go_wp2
  go_ret
  exact ⟨rfl, rfl⟩
theorem begN_at (c : List Int) (i : Nat) (h : i < c.length) : M.begN (c.drop i) = (if c.getD i (-1) = 45 then (if i + 1 < c.length then M.nSt (c.getD (i + 1) (-1)) || M.esB (c.drop (i + 1)) else false) || (decide (i + 1 < c.length) && decide (c.getD (i + 1) (-1) = 45)) else M.nSt (c.getD i (-1)) || M.esB (c.drop i)) := by
 rw [getD_lt c i h, List.drop_eq_getElem_cons h]
 simp only [M.begN]
 by_cases h45 : c[i] = 45
 ·rw [if_pos h45, if_pos h45, getD_drop, Nat.add_zero]
  by_cases h1 : i + 1 < c.length
  ·rw [if_pos h1]
   simp only [h1, decide_true, Bool.true_and]
   cases M.nSt (c.getD (i + 1) (-1)) <;> cases decide (c.getD (i + 1) (-1) = 45) <;> simp
  ·have e : c.getD (i + 1) (-1) = -1 := by simp [List.getD, List.getElem?_eq_none (show c.length <= i + 1 by omega)]
   rw [if_neg h1, e, List.drop_eq_nil_of_le (by omega)]
   simp [h1, M.esB, M.nSt]
 ·rw [if_neg h45, if_neg h45]
theorem nbegins_any (v : Value) (c : List Int) (at' : Int) (b : Bool) (w : World) (hv : Lc w v c) (hl : c.length <= 4294967290) (h : (if at' < 0 then false else M.begN (c.drop at'.toNat)) = b) :
  Calls Tryz.prog 152 #[v, .int .i64 at'] w fun e w' => e = .returned (.bool b) /\ w = w' := by
 have hv2 := hv
 obtain ⟨a, cap, rfl, h1, h2, h3⟩ := hv
 by_cases hneg : at' < 0
 ·rw [if_pos hneg] at h
  subst h
  clear h3 hv2
  go_enter Tryz.func152, Tryz.ntmps152
  go_wp2
  go_ret
  exact ⟨by first | rfl | (simp; done) | (simp; omega), rfl⟩
 rw [if_neg hneg] at h
 obtain ⟨i, rfl⟩ : ∃ i : Nat, at' = (i : Int) := ⟨at'.toNat, by omega⟩
 simp only [Int.toNat_natCast] at h
 by_cases hin : i < c.length
 ·rw [begN_at c i hin] at h
  have S0 := starts_any _ c i _ w hv2 (by omega) (by omega) rfl
  have S1 := starts_any _ c (i + 1) _ w hv2 (by omega) (by omega) rfl
  rw [if_pos hin] at S0
  obtain ⟨p, off, rfl, hp, hc⟩ := h3 (by omega)
  have c0 := hc i hin
  have c1 := hc (i + 1)
  obtain ⟨n, hn⟩ : ∃ n, c.length = n := ⟨_, rfl⟩
  unfold maxLen at h2
  rw [hn] at h1 hl h S0 S1 c1 hin ⊢
  have i1 : (0 : Int) <= i := by omega
  have i2 : (i : Int) < n := by omega
  have i3 : ((i : Int) + 1).toNat = i + 1 := by omega
  rw [show ((i + 1 : Nat) : Int) = (i : Int) + 1 by omega] at S1
  clear hc hn hv2 hneg h3
  by_cases h45 : c.getD i (-1) = 45
  ·rw [if_pos h45] at h
   rw [h45] at c0
   obtain ⟨q, hq⟩ : ∃ q, (if i + 1 < n then M.nSt (c.getD (i + 1) (-1)) || M.esB (c.drop (i + 1)) else false) = q := ⟨_, rfl⟩
   rw [hq] at h S1
   have H1 := Lib.hid S1
   cases q with
   | true =>
    simp at h
    subst h
    clear c1 S0 S1 hq h45
    go_enter Tryz.func152, Tryz.ntmps152
    go_wp2_with fail
    refine (H1.out).mono ?_
    rintro e w' ⟨rfl, rfl⟩
    go_wp2
    go_ret
    exact ⟨rfl, rfl⟩
   | false =>
    rw [Bool.false_or] at h
    by_cases hj : i + 1 < n
    ·have c1' := c1 hj
     obtain ⟨y, hy⟩ : ∃ y, c.getD (i + 1) (-1) = y := ⟨_, rfl⟩
     rw [hy] at c1' h
     have hb : b = (y == 45) := by rw [<- h]; simp only [hj, decide_true, Bool.true_and]; by_cases h45 : y = 45 <;> simp [h45]
     subst hb
     have j2 : (i : Int) + 1 < n := by omega
     have t2 : decide ((i : Int) + 1 < n) = true := by simp; omega
     clear c1 S0 S1 hq h45 hy h hj
     go_enter Tryz.func152, Tryz.ntmps152
     go_wp2_with fail
     refine (H1.out).mono ?_
     rintro e w' ⟨rfl, rfl⟩
     go_wp2
     go_ret
     exact ⟨rfl, rfl⟩
    ·simp [hj] at h
     subst h
     have j2 : (n : Int) <= (i : Int) + 1 := by omega
     have t2 : decide ((i : Int) + 1 < n) = false := by simp; omega
     clear c1 S0 S1 hq h45 hj
     go_enter Tryz.func152, Tryz.ntmps152
     go_wp2_with fail
     refine (H1.out).mono ?_
     rintro e w' ⟨rfl, rfl⟩
     go_wp2
     go_ret
     exact ⟨rfl, rfl⟩
  ·rw [if_neg h45] at h
   rw [h] at S0
   have H0 := Lib.hid S0
   obtain ⟨y, hy⟩ : ∃ y, c.getD i (-1) = y := ⟨_, rfl⟩
   rw [hy] at c0 h45
   have t3 : (y == 45) = false := by rw [beq_eq_false_iff_ne]; exact h45
   have t4 : (y != 45) = true := by simp [bne, t3]
   clear c1 S0 S1 h45 hy h
   go_enter Tryz.func152, Tryz.ntmps152
   go_wp2_with fail
   refine (H0.out).mono ?_
   rintro e w' ⟨rfl, rfl⟩
   go_wp2
   go_ret
   exact ⟨rfl, rfl⟩
 ·rw [List.drop_eq_nil_of_le (by omega)] at h
  obtain rfl : b = false := by rw [<- h]; rfl
  obtain ⟨n, hn⟩ : ∃ n, c.length = n := ⟨_, rfl⟩
  unfold maxLen at h2
  rw [hn] at h1 hl hin ⊢
  have i2 : (n : Int) <= i := by omega
  clear h3 hn hv2 h
  go_enter Tryz.func152, Tryz.ntmps152
  go_wp2
  go_ret
  exact ⟨by first | rfl | (simp; done) | (simp; omega), rfl⟩
def nil0 (l : List Int) : List (Int × Int) := l.map fun r => (r, 0)
theorem encR_nil0 (l : List Int) : M.encR (nil0 l) = M.encZs l := by simp [M.encR, M.encZs, nil0, List.flatMap_map]
theorem nil0_len (l : List Int) : (nil0 l).length = l.length := by simp [nil0]
def TkP (w : World) (T : List Int) (K : Nat) (e : Ending) (w' : World) : Prop := e = .returned (.tuple #[.string (bytes (M.encZs T)), .int .i64 (K : Int)]) /\ Below w.heap.size w w'
def clampN (a : Int) (n : Nat) : Nat := (max 0 (min a n)).toNat
theorem clamp_le (a : Int) (n : Nat) : clampN a n <= n := by unfold clampN; omega
theorem ntake_core (v : Value) (c : List Int) (at' : Int) (T : List Int) (K : Nat) (w : World) (hv : Lc w v c) (hl : c.length <= 100000) (h1 : (M.takeN (c.drop (clampN at' c.length))).1 = T) (h2 : clampN at' c.length + (M.takeN (c.drop (clampN at' c.length))).2 = K) :
  Calls Tryz.prog 154 #[v, .int .i64 at'] w (TkP w T K) := by
 obtain ⟨n, hn⟩ : ∃ n, c.length = n := ⟨_, rfl⟩
 have hi0 := clamp_le at' n
 have hcl : (clampN at' n : Int) = max 0 (min at' n) := by unfold clampN; omega
 rw [hn] at h1 h2
 obtain ⟨i0, hi00⟩ : ∃ i0, clampN at' n = i0 := ⟨_, rfl⟩
 rw [hi00] at h1 h2 hi0 hcl
 have hv2 := hv
 obtain ⟨a, cap, rfl, g1, g2, g3⟩ := hv2
 unfold maxLen at g2
 rw [hn] at g1 g3 hl ⊢
 have Hv := Lib.hid hv
 have Hn := Lib.hid hn
 have H1 := Lib.hid h1
 have H2 := Lib.hid h2
 have H3 := Lib.hid g3
 have hcm : max 0 (min at' (n : Int)) = (i0 : Int) := hcl.symm
 have hNO : n <= 100000 := hl
 clear hv hn h1 h2 g3 hcl hi00
 go_enter Tryz.func154, Tryz.ntmps154
 go_wp2
 go_loopw [1, 6, 7, 8] (fun av nv _ _ wr => ∃ (i : Nat) (pre : List Int), av = .int .i64 i /\ i <= n /\ pre ++ (M.takeN (c.drop i)).1 = T /\ i + (M.takeN (c.drop i)).2 = K /\ pre.length <= i /\ OwnR w.heap.size wr nv (nil0 pre) /\ Below w.heap.size w wr) (fun av _ _ _ _ => n - (intOf av).toNat)
 case atStart => exact ⟨i0, [], rfl, hi0, H1.out, H2.out, by simp, ownV_nil _ _ _ _, Below.refl _ _⟩
 case round =>
  obtain ⟨i, pre, rfl, hi, hp1, hp2, hpl, ho, hb⟩ := hrel
  have hsz := hb.size
  by_cases hlt : i < n
  ·obtain ⟨p, off, rfl, hp, hc⟩ := H3.out (by omega)
   have c0 := hc i hlt
   have cr := hb.cell (p := ⟨p, off + i * 2, none⟩) hp
   rw [c0] at cr
   have i1 : (0 : Int) <= i := by omega
   have i2 : (i : Int) < n := by omega
   have Lv := Hv.out.keep hb
   cases he : M.esB (c.drop i) with
   | true =>
    have E1 := Lib.hid (ebegins_any _ c i true wr Lv (by rw [Hn.out]; omega) (by rw [if_neg (by omega)]; simpa using he))
    obtain ⟨r, k, hr⟩ : ∃ r k, M.escV (c.drop (i + 1)) = (r, k) := ⟨_, _, rfl⟩
    have E2 := Lib.hid (etake_any _ c i r k wr Lv (by rw [Hn.out]; omega) (by rw [Hn.out]; exact hlt) hr)
    have hte := M.takeN_at_esc c i (by rw [Hn.out]; exact hlt) he
    have hle := M.escV_le_at c i (by rw [Hn.out]; exact hlt)
    rw [hr] at hte hle
    simp only at hte hle
    rw [hte] at hp1 hp2
    rw [Hn.out] at hle
    simp only at hp1 hp2
    have hp1' : (pre ++ [r]) ++ (M.takeN (c.drop (i + 1 + k))).1 = T := by rw [<- hp1]; simp
    have hp2' : (i + 1 + k) + (M.takeN (c.drop (i + 1 + k))).2 = K := by omega
    have P1 := Lib.hid hp1'
    have P2 := Lib.hid hp2'
    rw [Hn.out] at E1 E2
    obtain ⟨j, hj⟩ : ∃ j, i + 1 + k = j := ⟨_, rfl⟩
    rw [hj] at hle P1 P2 E2
    have hj2 : i + 1 <= j := by omega
    obtain ⟨y, hy⟩ : ∃ y, c.getD i (-1) = y := ⟨_, rfl⟩
    rw [hy] at cr
    clear hc c0 Lv he hr hte hp1 hp2 hp1' hp2' hj hy
    go_wp2_with fail
    refine (E1.out).mono ?_
    rintro e w' ⟨rfl, rfl⟩
    go_wp2_with fail
    refine (E2.out).mono ?_
    rintro e w' ⟨rfl, rfl⟩
    go_wp2_with (at_builtin; refine wpl_rune rfl _ _ rfl w.heap.size _ (.slice (some ⟨wr.heap.size, 0, none⟩) 1 1) (nil0 pre) (nil0 (pre ++ [r])) r 0 rfl (OwnR.keep ho ((Below.refl _ _).alloc (Nat.le_refl _) _)) rfl (one_rune wr r 0) (nnv_some _ _ _) (by rw [nil0_len]; omega) (by simp; omega) (by simp [nil0]) ?_)
    intro v3 w3 ho3 hb4
    have hb5 := (hb.alloc hsz _).trans hb4
    clear hb hb4 ho
    go_wp2
    go_roundw
    case rel => exact ⟨j, pre ++ [r], by go_num, by omega, P1.out, P2.out, by simp; omega, ho3, hb5⟩
    case measure => simp [intOf]; omega
   | false =>
    have E1 := Lib.hid (ebegins_any _ c i false wr Lv (by rw [Hn.out]; omega) (by rw [if_neg (by omega)]; simpa using he))
    rw [Hn.out] at E1
    cases hin : M.nIn (c.getD i (-1)) with
    | true =>
     have X1 := Lib.hid (nin_any _ true wr hin)
     have hte := M.takeN_at_in c i (by rw [Hn.out]; exact hlt) hin
     rw [hte] at hp1 hp2
     obtain ⟨r, hr⟩ : ∃ y, c.getD i (-1) = y := ⟨_, rfl⟩
     rw [hr] at hp1 cr X1
     simp only at hp1 hp2
     have hp1' : (pre ++ [r]) ++ (M.takeN (c.drop (i + 1))).1 = T := by rw [<- hp1]; simp
     have hp2' : (i + 1) + (M.takeN (c.drop (i + 1))).2 = K := by omega
     have P1 := Lib.hid hp1'
     have P2 := Lib.hid hp2'
     clear hc c0 Lv he hr hte hp1 hp2 hp1' hp2' hin
     go_wp2_with fail
     refine (E1.out).mono ?_
     rintro e w' ⟨rfl, rfl⟩
     go_wp2_with fail
     refine (X1.out).mono ?_
     rintro e w' ⟨rfl, rfl⟩
     go_wp2_with (at_builtin; refine wpl_rune rfl _ _ rfl w.heap.size _ (.slice (some ⟨wr.heap.size, 0, none⟩) 1 1) (nil0 pre) (nil0 (pre ++ [r])) r 0 rfl (OwnR.keep ho ((Below.refl _ _).alloc (Nat.le_refl _) _)) rfl (one_rune wr r 0) (nnv_some _ _ _) (by rw [nil0_len]; omega) (by simp; omega) (by simp [nil0]) ?_)
     intro v3 w3 ho3 hb4
     have hb5 := (hb.alloc hsz _).trans hb4
     clear hb hb4 ho
     go_wp2
     go_roundw
     case rel => exact ⟨i + 1, pre ++ [r], by go_num, by omega, P1.out, P2.out, by simp; omega, ho3, hb5⟩
     case measure => simp [intOf]; omega
    | false =>
     have X1 := Lib.hid (nin_any _ false wr hin)
     have hte := M.takeN_at_out c i (by rw [Hn.out]; exact hlt) he hin
     rw [hte] at hp1 hp2
     obtain ⟨y, hy⟩ : ∃ y, c.getD i (-1) = y := ⟨_, rfl⟩
     rw [hy] at cr X1
     simp only [List.append_nil, Nat.add_zero] at hp1 hp2
     subst hp1
     subst hp2
     have T1 := Lib.hid (ctext_any u6 (nil0 pre) (M.encZs pre) wr ho.vs (by rw [nil0_len]; omega) (encR_nil0 pre))
     clear hc c0 Lv he hte hin hy ho
     go_wp2_with fail
     refine (E1.out).mono ?_
     rintro e w' ⟨rfl, rfl⟩
     go_wp2_with fail
     refine (X1.out).mono ?_
     rintro e w' ⟨rfl, rfl⟩
     go_wp2_with fail
     ((with_reducible refine (T1.out).mono ?_))
     rintro e w2 ⟨rfl, hb2⟩
     have hb3 := hb.trans (hb2.mono hsz)
     clear hb hb2
     go_wp2
     go_ret2
     exact ⟨rfl, hb3⟩
  ·obtain rfl : i = n := by omega
   have hte := M.takeN_at_end c i (by rw [Hn.out]; exact Nat.le_refl _)
   rw [hte] at hp1 hp2
   simp only [List.append_nil, Nat.add_zero] at hp1 hp2
   subst hp1
   subst hp2
   have T1 := Lib.hid (ctext_any u6 (nil0 pre) (M.encZs pre) wr ho.vs (by rw [nil0_len]; omega) (encR_nil0 pre))
   clear hte ho hlt
   go_wp2_with fail
   ((with_reducible refine (T1.out).mono ?_))
   rintro e w2 ⟨rfl, hb2⟩
   have hb3 := hb.trans (hb2.mono hsz)
   clear hb hb2
   go_wp2
   go_ret2
   exact ⟨rfl, hb3⟩
def TzCell (w : World) : Prop := w.cell? ⟨7, 15, none⟩ = some (.int .u8 4)
theorem TzCell.keep {w w' : World} (h : TzCell w) (hb : Below w.heap.size w w') : TzCell w' := by
 unfold TzCell at h ⊢; rw [hb.cell (World.block_lt_of_cell? w _ h)]; exact h
def TabsE (w : World) : Prop := Tabs w /\ TzCell w
theorem TabsE.keep {w w' : World} (h : TabsE w) (hb : Below w.heap.size w w') : TabsE w' :=
 ⟨h.1.keep hb, h.2.keep hb⟩
theorem tz64_any (w : World) (hT : TzCell w) : Calls Tryz.prog 222 #[.int .u64 16] w fun e w' => e = .returned (.int .i64 4) /\ w = w' := by
 unfold TzCell at hT
 have key : IntKind.u64.wrap (bits BinOp.and IntKind.u64 16 (IntKind.u64.wrap (-16)) * 285870213051353865) / 288230376151711744 = 15 := by decide +kernel
 have key2 : IntKind.u64.wrap (bits BinOp.and IntKind.u64 16 18446744073709551600 * 285870213051353865) / 288230376151711744 = 15 := by decide +kernel
 go_enter Tryz.func222, Tryz.ntmps222
 go_wp2_with (first | simp only [key] | simp only [key2])
 go_ret
 exact ⟨rfl, rfl⟩
theorem tz_any (w : World) (hT : TzCell w) : Calls Tryz.prog 215 #[.int .u64 16] w fun e w' => e = .returned (.int .i64 4) /\ w = w' := by
 have X := Lib.hid (tz64_any w hT)
 clear hT
 go_enter Tryz.func215, Tryz.ntmps215
 go_wp2_with fail
 refine (X.out).mono ?_
 rintro e w' ⟨rfl, rfl⟩
 go_wp2
 go_ret
 exact ⟨rfl, rfl⟩
theorem pow_any (w : World) : Calls Tryz.prog 214 #[.int .i64 16] w fun e w' => e = .returned (.bool true) /\ w = w' := by
 go_enter Tryz.func214, Tryz.ntmps214
 go_wp2
 go_ret
 exact ⟨rfl, rfl⟩
theorem conv_at (w : World) (g off : Nat) (l : List UInt8) (n cap : Nat) (hn : l.length = n) (h : ∀ j (hj : j < l.length), w.cell? ⟨g, off + j, none⟩ = some (.int .u8 (l[j].toNat : Int))) :
  (convert 22 9 (.slice (some ⟨g, off, none⟩) n cap)).run Tryz.prog w = .ok (.string (bytes l)) w := by
 subst hn
 have hB : Lib.Bytes w g off (bytes l) := by
  intro i hi
  have hi' : i < l.length := by simpa [bytes, ByteArray.size] using hi
  rw [h i hi']
  congr 3
 have := Lib.run_convert_whole (P := Tryz.prog) w 22 5 9 Tryz.underlying22 Tryz.underlying5 Tryz.underlying9 g off _ hB cap
 rw [bytes_size] at this
 exact this
theorem and15_u64 : ∀ c : Fin 256, bits .and .u64 ((c.val : Nat) : Int) 15 = ((c.val % 16 : Nat) : Int) := by decide +kernel
theorem dig36 : ∀ d : Fin 16, (((ByteArray.mk #[48, 49, 50, 51, 52, 53, 54, 55, 56, 57, 97, 98, 99, 100, 101, 102, 103, 104, 105, 106, 107, 108, 109, 110, 111, 112, 113, 114, 115, 116, 117, 118, 119, 120, 121, 122])[d.val]'(by have := d.isLt; simp [ByteArray.size]; omega)).toNat : Int) = M.dgx d.val := by decide +kernel
theorem dig36' (d : Nat) (h : d < 16) (x : Nat) (hx : x = d) (h' : x < (ByteArray.mk #[48, 49, 50, 51, 52, 53, 54, 55, 56, 57, 97, 98, 99, 100, 101, 102, 103, 104, 105, 106, 107, 108, 109, 110, 111, 112, 113, 114, 115, 116, 117, 118, 119, 120, 121, 122]).size) :
  (((ByteArray.mk #[48, 49, 50, 51, 52, 53, 54, 55, 56, 57, 97, 98, 99, 100, 101, 102, 103, 104, 105, 106, 107, 108, 109, 110, 111, 112, 113, 114, 115, 116, 117, 118, 119, 120, 121, 122])[x]'h').toNat : Int) = M.dgx d := by
 subst hx; rw [dig36 ⟨x, h⟩]
theorem z79 : Tryz.zeroCells165.size = 65 := by kernel_rfl
theorem dgx_u8 (k : Nat) (h : k < 16) : ((M.dgx k).toNat.toUInt8.toNat : Int) = M.dgx k := by
 have := M.dgx_ok k h
 rw [M.toU8 _ (by omega)]; omega
theorem hexB_one (r : Nat) (h : r < 16) : M.encZs (M.hexd r) = [(M.dgx r).toNat.toUInt8] := by
 have := M.dgx_ok r h
 have e : M.hexd r = [M.dgx r] := by unfold M.hexd; rw [if_pos (by omega)]; rfl
 rw [e, M.encZs_cons, M.encZs_nil, M.enc_ascii _ (by omega) (by omega)]; rfl
theorem hexB_two (r : Nat) (h : 16 <= r) (h2 : r < 128) : M.encZs (M.hexd r) = [(M.dgx (r / 16)).toNat.toUInt8, (M.dgx (r % 16)).toNat.toUInt8] := by
 have h3 := M.dgx_ok (r / 16) (by omega)
 have h4 := M.dgx_ok (r % 16) (by omega)
 have e : M.hexd r = [M.dgx (r / 16), M.dgx (r % 16)] := by
  unfold M.hexd; rw [if_neg (by omega)]
  have e1 : ((r : Int) / 16).toNat = r / 16 := by omega
  have e2 : ((r : Int) % 16).toNat = r % 16 := by omega
  rw [e1, e2]
 rw [e, M.encZs_cons, M.encZs_cons, M.encZs_nil, M.enc_ascii _ (by omega) (by omega), M.enc_ascii _ (by omega) (by omega)]; rfl
theorem conv_one (w : World) (r : Nat) (h : r < 16) : (convert 22 9 (.slice (some ⟨w.heap.size, 64, none⟩) 1 1)).run Tryz.prog (w.alloc (Obj.cells (Tryz.zeroCells165.setIfInBounds 64 (.int .u8 (M.dgx r))) 165)) = .ok (.string (bytes (M.encZs (M.hexd r)))) (w.alloc (Obj.cells (Tryz.zeroCells165.setIfInBounds 64 (.int .u8 (M.dgx r))) 165)) := by
 refine conv_at _ _ 64 _ 1 1 (by rw [hexB_one r h]; rfl) ?_
 rw [hexB_one r h]
 intro j hj
 obtain rfl : j = 0 := by simp at hj; omega
 rw [World.cell?_alloc_at _ _ _ _ rfl]
 simp only [List.getElem_cons_zero]
 rw [dgx_u8 r h]
 simp [Array.getElem?_setIfInBounds, z79]
theorem conv_two (w : World) (r : Nat) (h : 16 <= r) (h2 : r < 128) : (convert 22 9 (.slice (some ⟨w.heap.size, 63, none⟩) 2 2)).run Tryz.prog (w.alloc (Obj.cells ((Tryz.zeroCells165.setIfInBounds 64 (.int .u8 (M.dgx (r % 16)))).setIfInBounds 63 (.int .u8 (M.dgx (r / 16)))) 165)) = .ok (.string (bytes (M.encZs (M.hexd r)))) (w.alloc (Obj.cells ((Tryz.zeroCells165.setIfInBounds 64 (.int .u8 (M.dgx (r % 16)))).setIfInBounds 63 (.int .u8 (M.dgx (r / 16)))) 165)) := by
 refine conv_at _ _ 63 _ 2 2 (by rw [hexB_two r h h2]; rfl) ?_
 rw [hexB_two r h h2]
 intro j hj
 rw [World.cell?_alloc_at _ _ _ _ rfl]
 match j, hj with
 | 0, _ =>
  simp only [List.getElem_cons_zero]
  rw [dgx_u8 (r / 16) (by omega)]
  simp [Array.getElem?_setIfInBounds, z79]
 | 1, _ =>
  simp only [List.getElem_cons_succ, List.getElem_cons_zero]
  rw [dgx_u8 (r % 16) (by omega)]
  simp [Array.getElem?_setIfInBounds, z79]
theorem fbits_any (r : Nat) (w : World) (hT : TzCell w) (h2 : r < 128) :
  Calls Tryz.prog 193 #[.slice none 0 0, .int .u64 (r : Int), .int .i64 16, .bool false, .bool false] w fun e w' => e = .returned (.tuple #[.slice none 0 0, .string (bytes (M.encZs (M.hexd r)))]) /\ Below w.heap.size w w' := by
 have T1 := Lib.hid (fun w h => tz_any w h)
 have HT := Lib.hid hT
 have i1 : (r : Int) < 128 := by omega
 have a1 := and15_u64 ⟨r, by omega⟩
 simp only at a1
 have A1 := Lib.hid a1
 clear hT a1
 go_enter Tryz.func193, Tryz.ntmps193
 go_wp2_with fail
 refine (pow_any _).mono ?_
 rintro e w' ⟨rfl, rfl⟩
 go_wp2_with fail
 refine (T1.out _ (HT.out.keep ((Below.refl _ _).alloc (Nat.le_refl _) _))).mono ?_
 rintro e w' ⟨rfl, rfl⟩
 go_wp2
 go_loopw [1, 13] (fun uv iv wr => (uv = .int .u64 (r : Int) /\ iv = .int .i64 65 /\ wr = w.alloc (Obj.cells Tryz.zeroCells165 165)) \/ (16 <= r /\ uv = .int .u64 ((r / 16 : Nat) : Int) /\ iv = .int .i64 64 /\ ∃ V : Int, V = M.dgx (r % 16) /\ wr = w.alloc (Obj.cells (Tryz.zeroCells165.setIfInBounds 64 (.int .u8 V)) 165))) (fun uv _ _ => (intOf uv).toNat)
 case atStart => exact .inl ⟨rfl, rfl, rfl⟩
 case round =>
  rcases hrel with ⟨rfl, rfl, rfl⟩ | ⟨h16, rfl, rfl, V, hV, rfl⟩
  ·by_cases hlt : 16 <= r
   ·have hlt2 : (16 : Int) <= r := by omega
    have a1 := A1.out
    have u1 : ((r % 16 : Nat) : Int).toNat = r % 16 := by omega
    go_wp2
    go_roundw
    case rel => exact .inr ⟨hlt, by simp, rfl, _, dig36' (r % 16) (by omega) _ rfl _, rfl⟩
    case measure => simp [intOf]; omega
   ·have hlt2 : ¬ (16 : Int) <= r := by omega
    have t1 : decide ((16 : Int) <= r) = false := by simp; omega
    have u1 : (r : Int).toNat = r := by omega
    have hd := dig36' r (by omega) r rfl (by simp [ByteArray.size]; omega)
    have hcv := conv_one w r (by omega)
    go_wp2
    go_ret2
    exact ⟨rfl, (Below.refl _ _).alloc (Nat.le_refl _) _⟩
  ·have t1 : decide ((16 : Int) <= (r : Int) / 16) = false := by simp; omega
   have u1 : ((r : Int) / 16).toNat = r / 16 := by omega
   have hd := dig36' (r / 16) (by omega) (r / 16) rfl (by simp [ByteArray.size]; omega)
   have hcv := conv_two w r h16 h2
   subst hV
   go_wp2
   go_ret2
   exact ⟨rfl, (Below.refl _ _).alloc (Nat.le_refl _) _⟩
theorem fint_any (r : Nat) (w : World) (hT : TzCell w) (h2 : r < 128) :
  Calls Tryz.prog 118 #[.int .i64 (r : Int), .int .i64 16] w fun e w' => e = .returned (.string (bytes (M.encZs (M.hexd r)))) /\ Below w.heap.size w w' := by
 have F := Lib.hid (fbits_any r w hT h2)
 have X : Calls Tryz.prog 156 #[.int .i64 (r : Int), .int .i64 16] w fun e w' => e = .returned (.string (bytes (M.encZs (M.hexd r)))) /\ Below w.heap.size w w' := by
  have i1 : (0 : Int) <= r := by omega
  have i2 : (r : Int) < 128 := by omega
  clear hT h2
  go_enter Tryz.func156, Tryz.ntmps156
  go_wp2_with fail
  refine (F.out).mono ?_
  rintro e w1 ⟨rfl, hb⟩
  go_wp2
  go_ret
  exact ⟨rfl, hb⟩
 have HX := Lib.hid X
 clear hT h2 F X
 go_enter Tryz.func118, Tryz.ntmps118
 go_wp2_with fail
 refine (HX.out).mono ?_
 rintro e w1 ⟨rfl, hb⟩
 go_wp2
 go_ret
 exact ⟨rfl, hb⟩
theorem cat3 (a b c : List UInt8) : bytes a ++ bytes b ++ bytes c = bytes (a ++ b ++ c) := by
 apply ByteArray.ext
 simp [bytes]
theorem numB (r : Nat) : bytes [92] ++ bytes (M.encZs (M.hexd r)) ++ bytes [32] = bytes (M.encZs (M.numN r)) := by
 rw [cat3]
 congr 1
 have e : M.encZs (M.numN r) = M.enc 92 ++ (M.encZs (M.hexd r) ++ M.enc 32) := by
  show M.encZs (92 :: (M.hexd r ++ [32])) = _
  rw [M.encZs_cons, M.encZs_append, M.encZs_cons, M.encZs_nil, List.append_nil]
 rw [e, M.enc_ascii 92 (by decide) (by decide), M.enc_ascii 32 (by decide) (by decide)]
 simp
theorem enum_any (r : Nat) (w : World) (hT : TzCell w) (h2 : r < 128) :
  Calls Tryz.prog 80 #[.int .i64 (r : Int)] w fun e w' => e = .returned (.string (bytes (M.encZs (M.numN r)))) /\ Below w.heap.size w w' := by
 have F := Lib.hid (fint_any r w hT h2)
 have hN := numB r
 rw [show bytes [92] = ⟨#[92]⟩ from rfl, show bytes [32] = ⟨#[32]⟩ from rfl] at hN
 have HN := Lib.hid hN
 have hsz : (bytes (M.encZs (M.hexd r))).size <= 8 := by
  have h3 := (M.hexd_ok r (by omega) (by omega)).2.2
  have := (M.encZs_len (M.hexd r)).2
  rw [bytes_size]; omega
 obtain ⟨S, hS⟩ : ∃ S, bytes (M.encZs (M.hexd r)) = S := ⟨_, rfl⟩
 rw [hS] at F HN hsz
 have i1 : (0 : Int) <= r := by omega
 have i2 : (r : Int) < 128 := by omega
 clear hT hN h2 hS
 go_enter Tryz.func80, Tryz.ntmps80
 go_wp2_with fail
 refine (F.out).mono ?_
 rintro e w1 ⟨rfl, hb⟩
 have hn := HN.out
 go_wp2
 go_ret
 exact ⟨by first | rfl | rw [<- HN.out], hb⟩
end Go.Proofs.YtimjbjppmhdjnaaGreatDoor
