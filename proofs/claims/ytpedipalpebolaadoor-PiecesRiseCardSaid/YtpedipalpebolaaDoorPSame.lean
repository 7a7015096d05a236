/- SameSegments at one list twice, the law's Few, and its 'alive'. -/
import Derived.Test.YtpedipalpebolaaDoorPRSeg
import Derived.Lib.SlBytesConst
namespace Go.Proofs.YtpedipalpebolaaDoor
open Go.RowKit
set_option linter.unusedVariables false
set_option linter.unusedSimpArgs false

theorem ssAt_get {B : Nat} {w : World} {a : Option Addr} {n cap : Nat} {l : List M.Sg} (h : SsAt B w (.slice a n cap) l) (j : Nat) (hj : j < l.length) :
    ∃ b off, a = some ⟨b, off, none⟩ ∧ b < B ∧ w.cell? ⟨b, off + j * 4, none⟩ = some (.int .i64 (l[j].1 : Int)) ∧ w.cell? ⟨b, off + j * 4 + 1, none⟩ = some (.int .i64 (l[j].2.1 : Int)) ∧ w.cell? ⟨b, off + j * 4 + 2, none⟩ = some (.int .i64 (l[j].2.2.1 : Int)) ∧ w.cell? ⟨b, off + j * 4 + 3, none⟩ = some (.int .i64 (l[j].2.2.2 : Int)) := by
  obtain ⟨a', c', hs, h3⟩ := h
  simp only [Value.slice.injEq] at hs
  obtain ⟨rfl, _, _⟩ := hs
  obtain ⟨b, off, rfl, hb, hc⟩ := h3 (by omega)
  exact ⟨b, off, rfl, hb, hc j hj⟩
theorem pbelow_drewN {B : Nat} {a w : World} (h : Below B a w) (n : Nat) : Below B a (w.drewN n) := ⟨h.os, h.tape, h.output, h.size, h.block⟩
set_option maxRecDepth 100000 in
set_option maxHeartbeats 4000000 in
theorem psame_one (B C : Nat) (v u : Value) (l : List M.Sg) (w : World) (hv : SsAt B w v l) (hu : SsAt C w u l) (hl : l.length ≤ 4294967296) :
    Calls Tryd.prog 8 #[v, u] w fun e w' => e = .returned (.bool true) ∧ Below w.heap.size w w' := by
  obtain ⟨a, cap, rfl, -⟩ := id hv
  obtain ⟨a', cap', rfl, -⟩ := id hu
  obtain ⟨n, hn⟩ : ∃ n, l.length = n := ⟨_, rfl⟩
  rw [hn] at hl hv hu ⊢
  have HN := Lib.hid hn
  have HV := Lib.hid hv
  have HU := Lib.hid hu
  clear hv hu hn
  go_enter Tryd.func8, Tryd.ntmps8
  go_wp2
  go_loopw [5] (fun iv wr => ∃ m q : Nat, iv = .int .i64 m ∧ m ≤ n ∧ wr = w.drewN q) (fun iv _ => n - (intOf iv).toNat)
  case atStart => exact ⟨0, 0, rfl, by omega, rfl⟩
  case round =>
    obtain ⟨m, q, rfl, hm, rfl⟩ := hrel
    by_cases hlt : m < n
    · obtain ⟨b, off, rfl, hb, c0, c1, c2, c3⟩ := ssAt_get HV.out m (by rw [HN.out]; exact hlt)
      obtain ⟨b', off', rfl, hb', d0, d1, d2, d3⟩ := ssAt_get HU.out m (by rw [HN.out]; exact hlt)
      obtain ⟨x, hx⟩ : ∃ x, (l[m]'(by rw [HN.out]; exact hlt)) = x := ⟨_, rfl⟩
      obtain ⟨x0, x1, x2, x3⟩ := x
      simp only [hx] at c0 c1 c2 c3 d0 d1 d2 d3
      have i1 : (0 : Int) ≤ m := by omega
      have i2 : (m : Int) < n := by omega
      clear hx
      go_wp2
      go_quiet (fail)
      go_wp2
      go_roundw
      case rel => exact ⟨m + 1, _, by go_num, by omega, rfl⟩
      case measure => simp [intOf]; omega
    · obtain rfl : m = n := by omega
      clear hlt
      go_wp2
      go_ret
      exact ⟨rfl, pbelow_drewN (Below.refl _ _) _⟩
set_option maxRecDepth 100000 in
set_option maxHeartbeats 4000000 in
theorem pfew_any (v : Value) (L : M.Pcs) (r : Bool) (w : World) (hv : Ps w v L) (hl : L.length + (M.textP L).length ≤ 1048576) (hr : decide (L.length + (M.textP L).length ≤ 400) = r) :
    Calls Tryd.prog 7 #[v] w fun e w' => e = .returned (.bool r) ∧ w = w' := by
  have hpa := psAt_of hv
  obtain ⟨a, cap, rfl, h1, h2, -⟩ := id hpa
  have HP := Lib.hid hpa
  obtain ⟨n, hn⟩ : ∃ n, L.length = n := ⟨_, rfl⟩
  obtain ⟨k, hk⟩ : ∃ n, (M.textP L).length = n := ⟨_, rfl⟩
  have HN := Lib.hid hn
  have HK := Lib.hid hk
  rw [hn] at h1 ⊢
  rw [hn, hk] at hl hr
  clear hpa hv hn hk
  go_enter Tryd.func7, Tryd.ntmps7
  go_wp2
  go_loop [3, 4] (fun nv iv => ∃ i : Nat, iv = .int .i64 (i : Int) ∧ i ≤ n ∧ nv = .int .i64 ((i + (M.textP (L.take i)).length : Nat) : Int)) (fun _ iv => n - (intOf iv).toNat)
  case atStart => exact ⟨0, rfl, by omega, rfl⟩
  case round =>
    obtain ⟨i, rfl, hi, rfl⟩ := hrel
    by_cases hlt : i < n
    · have hil : i < L.length := by rw [HN.out]; exact hlt
      obtain ⟨b, off, rfl, hbk, c0, c1⟩ := psAt_get (by have h := HP.out; rw [HN.out] at h; exact h) i hil
      have hz0 := bytes_size (L[i]).1
      obtain ⟨S0, hS0⟩ : ∃ S, bytes (L[i]).1 = S := ⟨_, rfl⟩
      rw [hS0] at c0 hz0
      have hle := M.textP_take_le L (i + 1)
      have hsn := congrArg List.length (M.textP_take_succ L i hil)
      rw [List.length_append] at hsn
      rw [HK.out] at hle
      obtain ⟨q, hq⟩ : ∃ q, (M.textP (L.take i)).length = q := ⟨_, rfl⟩
      obtain ⟨q2, hq2⟩ : ∃ q, (M.textP (L.take (i + 1))).length = q := ⟨_, rfl⟩
      rw [hq] at hsn ⊢
      rw [hq2] at hle hsn
      have hq3 : q + S0.size = q2 := by omega
      obtain ⟨p, hp⟩ : ∃ p, i + q = p := ⟨_, rfl⟩
      rw [hp]
      have hq4 : (p : Int) + 1 + S0.size ≤ 3000000 := by omega
      have i1 : (i : Int) < n := by omega
      have HQ2 := Lib.hid hq2
      have HQ3 := Lib.hid hq3
      have HPP := Lib.hid hp
      clear hS0 hsn hq hq2 hq3 hz0 c1 hp hr
      go_wp2
      go_round
      case rel => exact ⟨i + 1, by go_num, by omega, by rw [HQ2.out, ← HQ3.out, ← HPP.out]; simp only [Value.int.injEq, true_and]; omega⟩
      case measure => simp [intOf]; omega
    · obtain rfl : i = n := by omega
      have hfull : L.take i = L := List.take_of_length_le (by rw [HN.out]; exact Nat.le_refl _)
      rw [hfull, HK.out]
      obtain ⟨p, hp⟩ : ∃ p, i + k = p := ⟨_, rfl⟩
      rw [hp] at hr ⊢
      have hr2 : decide ((p : Int) ≤ 400) = r := by rw [← hr, decide_eq_decide]; omega
      clear hfull hlt hp hr
      cases r with
      | true =>
        go_wp2
        go_ret
        exact ⟨rfl, rfl⟩
      | false =>
        go_wp2
        go_ret
        exact ⟨rfl, rfl⟩
theorem alive_segs : M.segsP [10, 97] [120, 10, 121] 0 [([10], -1), ([97], 2)] = [(1, 0, 1, 0)] := by decide +kernel
set_option maxRecDepth 100000 in
set_option maxHeartbeats 4000000 in
theorem palive_any (w : World) (hT : Tabs w) :
    Calls Tryd.prog 6 #[] w fun e w' => e = .returned (.bool true) ∧ Below w.heap.size w w' := by
  obtain ⟨W1, hW1⟩ : ∃ W, w.alloc (.cells #[.string ⟨#[10]⟩, .int .i64 (-1), .string ⟨#[97]⟩, .int .i64 2] 33) = W := ⟨_, rfl⟩
  have hz1 : W1.heap.size = w.heap.size + 1 := by rw [← hW1]; simp
  have hps : Ps W1 (.slice (some ⟨w.heap.size, 0, none⟩) 2 2) [([10], -1), ([97], 2)] := by
    rw [← hW1]
    exact vs_cells 2 33 w ([(([10] : List UInt8), (-1 : Int)), ([97], 2)].map pv) _ 2 rfl (map_len (f := pv) (fun _ => rfl) _) rfl (by simp)
  obtain ⟨W2, hW2⟩ : ∃ W, W1.alloc (.cells #[.int .u8 120, .int .u8 10, .int .u8 121] 5) = W := ⟨_, rfl⟩
  obtain ⟨W3, hW3⟩ : ∃ W, W1.alloc (.cells #[.int .u8 120, .int .u8 10, .int .u8 121] 5 (3, 4)) = W := ⟨_, rfl⟩
  have kc : (convert 23 23 (.slice (some ⟨w.heap.size + 1, 0, none⟩) 3 3)).run Tryd.prog W2 = .ok (.slice (some ⟨w.heap.size + 1, 0, none⟩) 3 3) W3 := by
    have := Lib.run_convert_bytes_const (P := Tryd.prog) W1 23 5 #[.int .u8 120, .int .u8 10, .int .u8 121] 3 3 Tryd.underlying23 Tryd.underlying5
    rw [hz1, hW2] at this
    rw [this]
    exact congrArg _ hW3
  have hb3 : Below w.heap.size w W3 := by
    rw [← hW3]
    have h1 : Below w.heap.size w W1 := by rw [← hW1]; exact (Below.refl _ _).alloc (Nat.le_refl _) _
    exact h1.alloc (by omega) _
  have hps3 : Ps W3 (.slice (some ⟨w.heap.size, 0, none⟩) 2 2) [([10], -1), ([97], 2)] := hps.keep (by rw [← hW3]; exact (Below.refl _ _).alloc (Nat.le_refl _) _)
  have hbs3 : Bs W3 (.slice (some ⟨w.heap.size + 1, 0, none⟩) 3 3) [120, 10, 121] := by
    rw [← hW3, ← hz1]; exact bs_newm W1 [120, 10, 121] (3, 4) (by simp)
  have R1 := Lib.hid (psegs_any _ _ [([10], -1), ([97], 2)] [120, 10, 121] [10, 97] W3 (hT.keep hb3) hps3 hbs3 (by decide) (by decide) (by decide) rfl)
  rw [alive_segs] at R1
  have R2 := Lib.hid (fun W hW => psegs_any (.slice none 0 0) (.slice none 0 0) [] [] [] W hW (vs_nil 2 W) (bs_nil W) (by decide) (by decide) (by decide) rfl)
  rw [← hW1] at hW2
  have HT := Lib.hid hT
  have HB3 := Lib.hid hb3
  have HW2 := Lib.hid hW2
  clear hT hW1 hW2 hW3 hz1 hps hps3 hbs3 hb3
  go_enter Tryd.func6, Tryd.ntmps6
  go_wp2_with fail
  rw [HW2.out, kc]
  simp only [Result.andThen]
  rw [Oper.upon_value]
  go_wp2_with fail
  refine R1.out.mono ?_
  rintro e w4 ⟨v4, rfl, ho4, hb4⟩
  have hb5 := HB3.out.trans (hb4.mono HB3.out.size)
  have hs4 := ssAt_of ho4
  obtain ⟨a4, cap4, rfl, -⟩ := id hs4
  have HS4 := Lib.hid hs4
  have HB5 := Lib.hid hb5
  clear ho4 hb4 hs4 hb5 kc
  go_wp2_with fail
  refine (R2.out _ (HT.out.keep HB5.out)).mono ?_
  rintro e w5 ⟨v5, rfl, ho5, hb5⟩
  obtain ⟨a5, cap5, rfl, -⟩ := ssAt_of ho5
  obtain ⟨b4, o4, rfl, hb4', c0, c1, c2, c3⟩ := ssAt_get (ssAt_keep HS4.out hb5 (Nat.le_refl _)) 0 (by decide)
  have hb6 := HB5.out.trans (hb5.mono HB5.out.size)
  have HB6 := Lib.hid hb6
  simp only [List.getElem_cons_zero, Nat.zero_mul, Nat.add_zero] at c0 c1 c2 c3
  clear ho5 hb5 hb6
  go_wp2
  go_ret
  exact ⟨rfl, HB6.out⟩
end Go.Proofs.YtpedipalpebolaaDoor
