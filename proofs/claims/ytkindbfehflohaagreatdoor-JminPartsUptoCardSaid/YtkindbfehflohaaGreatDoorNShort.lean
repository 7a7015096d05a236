/- Numbers: the shortest spelling; the law's own 'alive'. -/
import Derived.Test.YtkindbfehflohaaGreatDoorNPlain
namespace Go.Proofs.YtkindbfehflohaaGreatDoor
open Go.RowKit
set_option linter.unusedVariables false
set_option linter.unusedSimpArgs false

/-- The shortest of the first k. -/
theorem short_step (l : List (List UInt8)) (k : Nat) (hk : k < l.length) : M.shortN (l.take (k + 1)) = if k = 0 then l[k] else M.less2 (M.shortN (l.take k)) l[k] := by
  rw [List.take_succ_eq_append_getElem hk]
  cases l with
  | nil => simp at hk
  | cons a t =>
    cases k with
    | zero => rfl
    | succ k =>
      rw [if_neg (by omega)]
      simp only [List.take_succ_cons, List.cons_append, M.shortN, List.foldl_append, List.foldl_cons, List.foldl_nil]
theorem ss_get {w : World} {v : Value} {l : List (List UInt8)} (h : Ss w v l) : ∃ a cap, v = .slice a l.length cap ∧ (0 < l.length → ∃ b off, a = some ⟨b, off, none⟩ ∧ b < w.heap.size ∧ ∀ j (h : j < l.length), w.cell? ⟨b, off + j, none⟩ = some (.string (bytes l[j]))) := by
  obtain ⟨a, cap, hv, h1, h2, h3⟩ := h
  rw [srow_len] at hv
  refine ⟨a, cap, hv, fun h0 => ?_⟩
  obtain ⟨b, off, ha, hb, hc⟩ := h3 (by rw [srow_len]; exact h0)
  refine ⟨b, off, ha, hb, fun j hj => ?_⟩
  have := hc j (by rw [srow_len]; exact hj) 0 (.string (bytes l[j])) (by simp [srow])
  rwa [Nat.mul_one, Nat.add_zero] at this
set_option maxRecDepth 100000 in
set_option maxHeartbeats 4000000 in
theorem short_any (ng : Bool) (D E R : List UInt8) (w : World) (hT : Tabs w) (h1 : D.length ≤ 500) (h2 : E.length ≤ 500) (hR : M.shortN (M.plainN ng D E) = R) :
    Calls Tryz.prog 90 #[.agg (numV (ng, D, E))] w fun e w' => e = .returned (.string (bytes R)) ∧ Below w.heap.size w w' := by
  obtain ⟨l, hl⟩ : ∃ l, M.plainN ng D E = l := ⟨_, rfl⟩
  have hlen : l.length ≤ 3 := by
    rw [← hl]; unfold M.plainN M.plain1 M.plain3
    split
    · split
      · simp
      · simp only [List.length_append]
        split <;> split <;> simp
    · simp
  rw [hl] at hR
  have P1 := Lib.hid (fun (W : World) (hW : Below w.heap.size w W) => plain_any ng D E l W (hT.keep hW) h1 h2 hl)
  have hsz : ∀ j (h : j < l.length), (bytes l[j]).size = l[j].length := fun j h => bytes_size _
  unfold numV at P1 ⊢
  simp only at P1 ⊢
  have HR := Lib.hid hR
  have B0 : Hid (Below w.heap.size w (w.alloc (.cells #[.bool ng, .string (bytes D), .string (bytes E)] 30))) := Lib.hid ((Below.refl _ _).alloc (Nat.le_refl _) _)
  obtain ⟨SD, hSD⟩ : ∃ S, bytes D = S := ⟨_, rfl⟩
  obtain ⟨SE, hSE⟩ : ∃ S, bytes E = S := ⟨_, rfl⟩
  rw [hSD, hSE] at P1 B0 ⊢
  clear hl hR hSD hSE hsz hT
  go_enter Tryz.func90, Tryz.ntmps90
  go_wp2_with fail
  refine (P1.out _ B0.out).mono ?_
  rintro e w1 ⟨v, rfl, hs, hb1⟩
  obtain ⟨a, cap, rfl, hc⟩ := ss_get hs
  have hb2 := B0.out.trans (hb1.mono B0.out.size)
  have HC := Lib.hid hc
  have HB2 := Lib.hid hb2
  obtain ⟨n, hn⟩ : ∃ n, l.length = n := ⟨_, rfl⟩
  have HN := Lib.hid hn
  rw [hn] at hlen ⊢
  clear hs hb1 hc hb2 hn
  go_wp2
  go_loop [3, 9] (fun sv iv => ∃ k : Nat, iv = .int .i64 (k : Int) ∧ k ≤ n ∧ sv = .string (bytes (M.shortN (l.take k)))) (fun _ iv => n - (intOf iv).toNat)
  case atStart => exact ⟨0, rfl, by omega, rfl⟩
  case round =>
    obtain ⟨k, rfl, hk, rfl⟩ := hrel
    by_cases hlt : k < n
    · have hkl : k < l.length := by rw [HN.out]; exact hlt
      obtain ⟨b, off, rfl, hb, hcell⟩ := HC.out (by omega)
      have hc1 := hcell k hkl
      have hst := short_step l k hkl
      obtain ⟨s, hs⟩ : ∃ s, l[k] = s := ⟨_, rfl⟩
      obtain ⟨t, ht⟩ : ∃ s, M.shortN (l.take k) = s := ⟨_, rfl⟩
      rw [hs] at hc1 hst
      rw [ht] at hst ⊢
      have z1 := bytes_size s
      have z2 := bytes_size t
      obtain ⟨S, hS⟩ : ∃ S, bytes s = S := ⟨_, rfl⟩
      obtain ⟨T, hT⟩ : ∃ S, bytes t = S := ⟨_, rfl⟩
      rw [hS] at hc1 z1
      rw [hT] at z2 ⊢
      have hst2 : bytes (M.shortN (l.take (k + 1))) = if k = 0 then S else if S.size < T.size then S else T := by
        rw [hst]; unfold M.less2
        split
        · exact hS
        · rw [z1, z2]; split
          · exact hS
          · exact hT
      have HST := Lib.hid hst2
      clear hcell hst hs ht hS hT hst2 z1 z2 hb
      have hway : (k = 0) ∨ (0 < k ∧ S.size < T.size) ∨ (0 < k ∧ T.size ≤ S.size) := by omega
      rcases hway with rfl | ⟨q1, q2⟩ | ⟨q1, q2⟩
      · rw [Nat.add_zero] at hc1
        go_wp2
        go_round
        case rel => exact ⟨0 + 1, by go_num, by omega, by rw [HST.out, if_pos rfl]⟩
        case measure => simp [intOf] <;> omega
      · have q3 : ((k : Int) == 0) = false := by rw [beq_eq_false_iff_ne]; omega
        go_wp2
        go_round
        case rel => exact ⟨k + 1, by go_num, by omega, by rw [HST.out, if_neg (by omega), if_pos (by omega)]⟩
        case measure => simp [intOf] <;> omega
      · have q3 : ((k : Int) == 0) = false := by rw [beq_eq_false_iff_ne]; omega
        go_wp2
        go_round
        case rel => exact ⟨k + 1, by go_num, by omega, by rw [HST.out, if_neg (by omega), if_neg (by omega)]⟩
        case measure => simp [intOf] <;> omega
    · obtain rfl : k = n := by omega
      clear hlt
      have hfin : M.shortN (l.take k) = R := by rw [← HN.out, List.take_length]; exact HR.out
      rw [hfin]
      clear hfin
      go_wp2
      go_ret
      exact ⟨rfl, HB2.out⟩
end Go.Proofs.YtkindbfehflohaaGreatDoor
