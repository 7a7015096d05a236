/- Tokens of CSS: the program's functions of one token: a hash, a comment. -/
import Derived.Test.YtpecaalpbeoolaaGreatDoorFBase
import Derived.Test.YtpecaalpbeoolaaGreatDoorFNumB
import Derived.Test.YtpecaalpbeoolaaGreatDoorENTake
namespace Go.Proofs.YtpecaalpbeoolaaGreatDoor
open Go.RowKit
set_option linter.unusedVariables false
set_option linter.unusedSimpArgs false

/-- The world behind the result's block, and what is known of it. -/
theorem w0_facts (w : World) : ∃ W0, w.alloc (.cells #[.int .i64 0, .string ⟨#[]⟩, .string ⟨#[]⟩, .bool false, .string ⟨#[]⟩, .string ⟨#[]⟩, .bool false, .bool false, .int .i64 0, .int .i64 0, .int .i64 0, .int .i64 0, .int .i64 0] 36) = W0 ∧ CB W0 w.heap.size (ctv {} 0) ∧ Below w.heap.size w W0 ∧ W0.heap.size = w.heap.size + 1 :=
  ⟨_, rfl, CB.new w _, (Below.refl _ _).alloc (Nat.le_refl _) _, by simp⟩
set_option maxRecDepth 100000 in
set_option maxHeartbeats 2000000 in
theorem fhash_any (v : Value) (c : List Int) (i : Nat) (w : World) (hv : Lc w v c) (hl : c.length ≤ 100000) (hi : i < c.length) :
    Calls Tryz.prog 39 #[v, .int .i64 (i : Int)] w (TkR w { kind := 4, text := M.encZs (M.takeN (c.drop (i + 1))).1, flag := M.begN (c.drop (i + 1)) } (i + 1 + (M.takeN (c.drop (i + 1))).2)) := by
  obtain ⟨T, hT⟩ : ∃ T, (M.takeN (c.drop (i + 1))).1 = T := ⟨_, rfl⟩
  obtain ⟨k, hk⟩ : ∃ k, i + 1 + (M.takeN (c.drop (i + 1))).2 = k := ⟨_, rfl⟩
  obtain ⟨b, hb⟩ : ∃ b, M.begN (c.drop (i + 1)) = b := ⟨_, rfl⟩
  have hcl : clampN ((i : Int) + 1) c.length = i + 1 := by unfold clampN; omega
  have TK := Lib.hid (fun W (hW : Below w.heap.size w W) => ntake_core v c ((i : Int) + 1) T k W (hv.keep hW) hl (by rw [hcl]; exact hT) (by rw [hcl]; exact hk))
  have BG := Lib.hid (fun W (hW : Below w.heap.size w W) => nbegins_any v c ((i : Int) + 1) b W (hv.keep hW) (by omega) (by rw [if_neg (by omega), show ((i : Int) + 1).toNat = i + 1 by omega]; exact hb))
  rw [hT, hk, hb]
  obtain ⟨W0, hW0, cb0, c0, z0⟩ := w0_facts w
  have HW0 := Lib.hid hW0
  have Z0 := Lib.hid z0
  have i9 : (i : Int) ≤ 100000 := by omega
  clear hW0 z0 hv hl hi hT hk hb hcl
  go_enter Tryz.func39, Tryz.ntmps39
  go_wp2_with fail
  rw [HW0.out]
  refine (TK.out _ c0).mono ?_
  rintro e w1 ⟨rfl, hb1⟩
  have c1 := c0.trans (hb1.mono (by rw [Z0.out]; omega))
  have cb1 := cb0.keep hb1 (by rw [Z0.out]; omega)
  go_wp2_with fail
  refine (BG.out _ c1).mono ?_
  rintro e w' ⟨rfl, rfl⟩
  go_wp2_with (refine wpl_stT rfl _ _ rfl w.heap.size _ (ctv ({ kind := 4, text := M.encZs T, flag := b }) 0) rfl rfl cb1 rfl rfl (ctv_one _ _) ?_)
  go_wp2
  (try simp only [Exit.inBlock, Exit.then])
  refine bodyPost_ret (res_tok rfl _ _ w.heap.size _ _ rfl rfl (CB.set cb1 _) rfl) rfl ⟨rfl, below_setRow c1 (Nat.le_refl _) _⟩
theorem etup_ai {x : Array Value} {a b : Int} (h : a = b) : Ending.returned (.tuple #[.agg x, .int .i64 a]) = .returned (.tuple #[.agg x, .int .i64 b]) := by rw [h]
theorem cmT_end (c : List Int) (j : Nat) (h : c.length ≤ j) : M.cmT (c.drop j) = ([], 0) := by rw [List.drop_eq_nil_of_le h]; rfl
theorem stC_two (a b : Int) (c : List Int) (i : Nat) (ha : a ≠ -1) (hb : b ≠ -1) : M.stC [a, b] (c.drop i) = (decide (c.getD i (-1) = a) && decide (c.getD (i + 1) (-1) = b)) := by
  by_cases hi : i < c.length
  · have e := stC_one b c (i + 1) hb
    rw [drop_cons c i hi, getD_lt c i hi]
    show (a == c[i] && M.stC [b] (c.drop (i + 1))) = _
    rw [e]
    congr 1
    by_cases h : c[i] = a
    · simp [h]
    · simp [h, Ne.symm h]
  · rw [List.drop_eq_nil_of_le (by omega)]
    simp [M.stC, List.getD, List.getElem?_eq_none (show c.length ≤ i by omega), Ne.symm ha]
theorem cmT_at (c : List Int) (j : Nat) (h : j < c.length) : M.cmT (c.drop j) = if M.stC [42, 47] (c.drop j) = true then ([], 2) else (c.getD j (-1) :: (M.cmT (c.drop (j + 1))).1, 1 + (M.cmT (c.drop (j + 1))).2) := by
  rw [stC_two 42 47 c j (by decide) (by decide), drop_cons c j h]
  simp only [M.cmT]
  rw [getD_drop, Nat.add_zero, getD_lt c j h]
  by_cases h2 : c[j] = 42 ∧ c.getD (j + 1) (-1) = 47
  · rw [if_pos h2, if_pos (by rw [h2.1, h2.2]; rfl)]
  · rw [if_neg h2, if_neg (by simpa using h2)]
/-- A part of code points that lie somewhere. -/
theorem rs_sub {w : World} {L : List (Int × Int)} {a : Option Addr} {n cap : Nat} (h : Rs w (.slice a n cap) L) (i j : Nat) (hij : i ≤ j) (hj : j ≤ n) :
    ∀ b off, a = some ⟨b, off, none⟩ → Rs w (.slice (some ⟨b, off + i * 2, none⟩) (j - i) (cap - i)) ((L.drop i).take (j - i)) := by
  obtain ⟨a', cap', e, h1, h2, h3⟩ := h
  simp only [Value.slice.injEq] at e
  obtain ⟨rfl, rfl, rfl⟩ := e
  have hrl := rvs_len L
  have hlen : ((L.drop i).take (j - i)).length = j - i := by simp; omega
  have hrl2 := rvs_len ((L.drop i).take (j - i))
  intro b off ha
  refine ⟨_, _, by rw [hrl2, hlen], by omega, by omega, fun h0 => ?_⟩
  obtain ⟨b', off', hb', hlt, hc⟩ := h3 (by omega)
  rw [ha] at hb'
  simp only [Option.some.injEq, Addr.mk.injEq, and_true] at hb'
  obtain ⟨rfl, rfl⟩ := hb'
  refine ⟨b, _, rfl, hlt, fun k hk q u hu => ?_⟩
  have := hc (i + k) (by omega) q u (by simpa [rvs] using hu)
  rw [show off + i * 2 + (k * 2 + q) = off + ((i + k) * 2 + q) by omega]
  exact this
theorem rs_keep {w w' : World} {v : Value} {l : List (Int × Int)} (h : Rs w v l) (hb : Below w.heap.size w w') : Rs w' v l := Vs.keep h hb
theorem cps_sub (L : List (Int × Int)) (i k : Nat) : M.encR ((L.drop i).take k) = M.encZs (((cps L).drop i).take k) := by
  unfold M.encR M.encZs cps
  rw [← List.map_drop, ← List.map_take, List.flatMap_map]
theorem take_more (c : List Int) (i j : Nat) (hij : i ≤ j) (hj : j < c.length) : (c.drop i).take (j + 1 - i) = (c.drop i).take (j - i) ++ [c.getD j (-1)] := by
  rw [show j + 1 - i = (j - i) + 1 by omega, List.take_add_one, List.getElem?_drop, show i + (j - i) = j by omega, List.getElem?_eq_getElem hj, getD_lt c j hj]
  rfl
end Go.Proofs.YtpecaalpbeoolaaGreatDoor
