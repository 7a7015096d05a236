/- Escapes and names among code points: what the program's escape and cname packages find. -/
import Derived.Test.YtpecaalpbeoolaaGreatDoorECls
import Derived.Test.YtpecaalpbeoolaaGreatDoorMgU
import Derived.Test.YtpecaalpbeoolaaGreatDoorECTxt
import Derived.Laws.BitsLemmas
import Derived.Deep.QuietTactic
import Derived.BigQuiet
import Derived.Outline
namespace Go.Proofs.YtpecaalpbeoolaaGreatDoor
open Go.RowKit
set_option linter.unusedVariables false
set_option linter.unusedSimpArgs false

/-- The code points of a list, without their places. -/
def cps (l : List (Int × Int)) : List Int := l.map Prod.fst
theorem cps_len (l : List (Int × Int)) : (cps l).length = l.length := by simp [cps]
theorem getD_lt (c : List Int) (i : Nat) (h : i < c.length) (d : Int) : c.getD i d = c[i] := by simp [List.getD, h]
/-- A list of code points that lies somewhere, as the walks want it: n of them, each cell by its number. -/
def Lc (w : World) (v : Value) (c : List Int) : Prop :=
  ∃ a cap, v = .slice a c.length cap ∧ c.length ≤ cap ∧ cap ≤ maxLen ∧ (0 < c.length → ∃ b off, a = some ⟨b, off, none⟩ ∧ b < w.heap.size ∧ ∀ j (hj : j < c.length), w.cell? ⟨b, off + j * 2, none⟩ = some (.int .i64 (c.getD j (-1))))
theorem Rs.lc {w : World} {v : Value} {l : List (Int × Int)} (h : Rs w v l) : Lc w v (cps l) := by
  obtain ⟨a, cap, rfl, h1, h2, h3⟩ := rs_open h rfl
  refine ⟨a, cap, by rw [cps_len], by rw [cps_len]; exact h1, h2, fun h0 => ?_⟩
  obtain ⟨b, off, rfl, hb, hc⟩ := h3 (by rwa [cps_len] at h0)
  exact ⟨b, off, rfl, hb, fun j hj => by rw [(hc j (by rwa [cps_len] at hj)).1, getD_lt (cps l) j hj]; simp [cps]⟩
theorem Lc.keep {w w' : World} {v : Value} {c : List Int} (h : Lc w v c) (hb : Below w.heap.size w w') : Lc w' v c := by
  obtain ⟨a, cap, rfl, h1, h2, h3⟩ := h
  refine ⟨a, cap, rfl, h1, h2, fun h0 => ?_⟩
  obtain ⟨b, off, rfl, hlt, hc⟩ := h3 h0
  exact ⟨b, off, rfl, Nat.lt_of_lt_of_le hlt hb.size, fun j hj => by rw [hb.cell (p := ⟨b, off + j * 2, none⟩) hlt]; exact hc j hj⟩
theorem drop_cons (c : List Int) (i : Nat) (h : i < c.length) : c.drop i = c[i] :: c.drop (i + 1) := List.drop_eq_getElem_cons h
theorem getD_drop (c : List Int) (i k : Nat) (d : Int) : (c.drop i).getD k d = c.getD (i + k) d := by simp [List.getD]
/-- Does an escape begin at a place? -/
theorem esB_at (c : List Int) (i : Nat) : M.esB (c.drop i) = (decide (i < c.length) && (decide (c.getD i (-1) = 92) && decide (c.getD (i + 1) (-1) ≠ 10))) := by
  by_cases h : i < c.length
  · rw [drop_cons c i h, getD_lt c i h]
    simp only [M.esB, h, decide_true, Bool.true_and]
    rw [getD_drop, Nat.add_zero]
  · rw [List.drop_eq_nil_of_le (by omega)]; simp [M.esB, h]

set_option maxRecDepth 100000 in
set_option maxHeartbeats 1000000 in
theorem ebegins_any (v : Value) (c : List Int) (at' : Int) (b : Bool) (w : World) (hv : Lc w v c) (hl : c.length ≤ 4294967296) (h : (if at' < 0 then false else M.esB (c.drop at'.toNat)) = b) :
    Calls Tryz.prog 67 #[v, .int .i64 at'] w fun e w' => e = .returned (.bool b) ∧ w = w' := by
  obtain ⟨a, cap, rfl, h1, h2, h3⟩ := hv
  obtain ⟨n, hn⟩ : ∃ n, c.length = n := ⟨_, rfl⟩
  unfold maxLen at h2
  rw [hn] at h1 h3 hl ⊢
  by_cases hneg : at' < 0
  · rw [if_pos hneg] at h
    subst h
    clear h3 hn
    go_enter Tryz.func67, Tryz.ntmps67
    go_wp2
    go_ret
    exact ⟨by first | rfl | (simp; done) | (simp; omega), rfl⟩
  rw [if_neg hneg] at h
  obtain ⟨i, rfl⟩ : ∃ i : Nat, at' = (i : Int) := ⟨at'.toNat, by omega⟩
  simp only [Int.toNat_natCast] at h
  rw [esB_at] at h
  by_cases hi : i < n
  · obtain ⟨p, off, rfl, hp, hc⟩ := h3 (by omega)
    have c0 := hc i hi
    have c1 : i + 1 < n → w.cell? ⟨p, off + (i + 1) * 2, none⟩ = some (.int .i64 (c.getD (i + 1) (-1))) := fun hj => hc (i + 1) hj
    have cn : n ≤ i + 1 → c.getD (i + 1) (-1) = -1 := fun hj => by simp [List.getD, List.getElem?_eq_none (show c.length ≤ i + 1 by omega)]
    rw [hn] at h
    simp only [hi, decide_true, Bool.true_and] at h
    obtain ⟨x, hx⟩ : ∃ x, c.getD i (-1) = x := ⟨_, rfl⟩
    obtain ⟨y, hy⟩ : ∃ x, c.getD (i + 1) (-1) = x := ⟨_, rfl⟩
    rw [hx] at h c0
    rw [hy] at h c1 cn
    have i1 : (0 : Int) ≤ i := by omega
    have i2 : (i : Int) < n := by omega
    clear hc hn hx hy h3
    by_cases hx92 : x = 92
    · subst hx92
      simp only [decide_true, Bool.true_and] at h
      by_cases hj : i + 1 < n
      · have c1' := c1 hj
        have i3 : ((i : Int) + 1).toNat = i + 1 := by omega
        have t1 : ((i : Int) + 1 == n) = false := by rw [beq_eq_false_iff_ne]; omega
        have i4 : (i : Int) + 1 < n := by omega
        have hb : b = (y != 10) := by rw [← h]; by_cases h10 : y = 10 <;> simp [h10]
        subst hb
        clear c1 cn h hj
        go_enter Tryz.func67, Tryz.ntmps67
        go_wp2
        go_ret
        exact ⟨rfl, rfl⟩
      · have := cn (by omega)
        subst this
        have t1 : ((i : Int) + 1 == n) = true := by rw [beq_iff_eq]; omega
        simp at h
        subst h
        clear c1 cn hj
        go_enter Tryz.func67, Tryz.ntmps67
        go_wp2
        go_ret
        exact ⟨rfl, rfl⟩
    · have t1 : (x == 92) = false := by rw [beq_eq_false_iff_ne]; exact hx92
      have t2 : (x != 92) = true := by simp [bne, t1]
      simp [hx92] at h
      subst h
      clear c1 cn hx92
      go_enter Tryz.func67, Tryz.ntmps67
      go_wp2
      go_ret
      exact ⟨rfl, rfl⟩
  · simp [hn, hi] at h
    subst h
    have i1 : (n : Int) ≤ i := by omega
    clear h3 hn
    go_enter Tryz.func67, Tryz.ntmps67
    go_wp2
    go_ret
    exact ⟨by first | rfl | (simp; done) | (simp; omega), rfl⟩
end Go.Proofs.YtpecaalpbeoolaaGreatDoor
