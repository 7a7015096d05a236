/- The walk of ClexRises. -/
import Derived.Test.YtpecaalpbeoolaaGreatDoorFAlive
import Derived.Test.YtpecaalpbeoolaaGreatDoorMgD
import Derived.Deep.QuietTactic
import Derived.BigQuiet
namespace Go.Proofs.YtpecaalpbeoolaaGreatDoor
open Go.RowKit
set_option linter.unusedVariables false
set_option linter.unusedSimpArgs false

theorem conv_zero (w : World) (ad : Addr) (cap : Nat) : (convert 22 9 (.slice (some ad) 0 cap)).run Tryz.prog w = .ok (.string (bytes [])) w := by
  rw [run_convert_bytes_string w 22 9 5 (some ad) 0 cap Tryz.underlying22 Tryz.underlying5 Tryz.underlying9]
  simp [Conv.bytesToString, loadCells, loadCellsFrom, bytes]
  rfl
theorem conv_slice {w : World} {a : Option Addr} {len cap : Nat} {l : List UInt8} (h : Bs w (.slice a len cap) l) : (convert 22 9 (.slice a len cap)).run Tryz.prog w = .ok (.string (bytes l)) w := by
  cases a with
  | some ad =>
    obtain ⟨a', cap', e, h1, h2, h3⟩ := id h
    simp only [Value.slice.injEq] at e
    obtain ⟨rfl, rfl, rfl⟩ := e
    by_cases h0 : 0 < l.length
    · obtain ⟨b, off, hb, _⟩ := h3 h0
      simp only [Option.some.injEq] at hb
      subst hb
      exact conv_bsF h
    · obtain rfl : l = [] := List.length_eq_zero_iff.1 (by omega)
      exact conv_zero w ad cap
  | none =>
    obtain ⟨a', cap', e, h1, h2, h3⟩ := h
    simp only [Value.slice.injEq] at e
    obtain ⟨rfl, rfl, rfl⟩ := e
    have h0 : l = [] := by
      rcases Nat.eq_zero_or_pos l.length with h | h
      · exact List.length_eq_zero_iff.1 h
      · obtain ⟨b, off, hb, _⟩ := h3 h
        exact absurd hb (by simp)
    subst h0
    exact Lib.run_convert_nil_bytes w 22 9 5 cap Tryz.underlying22 Tryz.underlying5 Tryz.underlying9
set_option maxRecDepth 100000 in
set_option maxHeartbeats 8000000 in
theorem crises_walk (a0 : Option Addr) (len0 cap0 : Nat) (l : List UInt8) (w : World) (hl : l.length = len0) (b0 : Bs w (.slice a0 len0 cap0) l) (n0 : ∀ n c, Value.slice a0 len0 cap0 = .slice none n c → c = 0) (hT : Tabs w) :
    Calls Tryz.prog 4 #[.slice a0 len0 cap0] w fun e w' => e = .returned (.bool true) ∧ Below w.heap.size w w' := by
  have al := Lib.hid (alive_any w hT)
  by_cases h0 : 600 < len0
  · have h0' : (600 : Int) < len0 := by omega
    clear b0 n0 hT hl
    go_enter Tryz.func4, Tryz.ntmps4
    go_wp2_with fail
    refine al.out.mono ?_
    rintro e w1 ⟨rfl, hb⟩
    go_wp2
    go_ret
    exact ⟨rfl, hb⟩
  have q1 : decide ((600 : Int) < len0) = false := by simp; omega
  have k0 : len0 ≤ 600 := by omega
  have B0 := Lib.hid b0
  have HT := Lib.hid hT
  have HL := Lib.hid hl
  have hch := M.bytes_rise l
  have hhd := M.bytes_head l
  obtain ⟨T, hTT⟩ : ∃ T, M.tksC (M.rn l 0) = T := ⟨_, rfl⟩
  have SP := Lib.hid (fun W (hW : Below w.heap.size w W) => flsplit_any l T W (hT.keep hW) (by omega) hTT)
  obtain ⟨S, hS⟩ : ∃ S, bytes l = S := ⟨_, rfl⟩
  rw [hS] at SP
  have HS := Lib.hid hS
  rw [hTT] at hch hhd
  rw [hl] at hch hhd
  obtain ⟨N, hN⟩ : ∃ N, T.length = N := ⟨_, rfl⟩
  have HN := Lib.hid hN
  have hNl : N ≤ 600 := by
    have h1 := M.rn_len l l.length 0 (by omega)
    have h2 := tksC_len (M.rn l 0) (M.rn l 0).length 0 (by omega)
    rw [List.drop_zero, hTT, hN] at h2
    omega
  have HCH := Lib.hid hch
  have HHD := Lib.hid hhd
  have hT0 : len0 = 0 → N = 0 := by
    intro h
    have : l = [] := List.length_eq_zero_iff.1 (by omega)
    subst this
    rw [← hN, ← hTT]; decide +kernel
  have HT0 := Lib.hid hT0
  clear b0 n0 hT hl h0 hTT hS hN hch hhd hT0
  go_enter Tryz.func4, Tryz.ntmps4
  go_wp2_with fail
  refine al.out.mono ?_
  rintro e1 w1 ⟨rfl, hb⟩
  have hcv := conv_slice (B0.out.keep hb)
  rw [HS.out] at hcv
  go_wp2_with fail
  refine (SP.out _ hb).mono ?_
  rintro e2 w2 ⟨v2, rfl, ho2, hb2⟩
  have d2 := hb.trans (hb2.mono hb.size)
  have l2 := ho2.cs
  obtain ⟨a2, c2, rfl, g1, g2, g3⟩ := cs_open l2 HN.out
  have H3 := Lib.hid g3
  have D2 := Lib.hid d2
  clear hb hb2 ho2 l2 g3 d2 hcv
  by_cases hz : len0 = 0
  · obtain rfl : N = 0 := HT0.out hz
    subst hz
    as_aux_lemma =>
      go_wp2
      go_loop [5] (fun iv => iv = .int .i64 1) (fun _ => 0)
      case atStart => rfl
      case round =>
        subst hrel
        go_wp2
        go_ret
        exact ⟨rfl, D2.out⟩
  · have zn : 0 < len0 := by omega
    obtain ⟨t0, T', hT'⟩ := HHD.out zn
    have hN0 : 0 < T.length := by rw [hT']; simp
    have N0 : 0 < N := by have := HN.out; omega
    obtain ⟨b, off, rfl, hbl, hc0⟩ := H3.out 0 hN0
    have hT0 : T[0] = (t0, 0) := by
      have hg : ∀ (T : List (M.CT × Int)) x T' (hT : T = x :: T') (h0 : 0 < T.length), T[0] = x := by rintro T x T' rfl h0; rfl
      exact hg T _ T' hT' hN0
    have f0 := hc0 12 (.int .i64 0) (by rw [hT0]; rfl)
    rw [Nat.zero_mul, Nat.add_zero] at f0
    have HC := Lib.hid (show ∀ j (hj : j < T.length), w2.cell? ⟨b, off + j * 13 + 12, none⟩ = some (.int .i64 (T[j]).2) ∧ w2.cell? ⟨b, off + j * 13, none⟩ = some (.int .i64 (T[j]).1.kind) by
      intro j hj
      obtain ⟨b', off', e, _, hc⟩ := H3.out j hj
      simp only [Option.some.injEq, Addr.mk.injEq, and_true] at e
      obtain ⟨rfl, rfl⟩ := e
      exact ⟨hc 12 _ rfl, hc 0 _ rfl⟩)
    have N1 : ¬ N = 0 := by omega
    have N2 : ((N : Int) == 0) = false := by rw [beq_eq_false_iff_ne]; omega
    have N3 : (0 : Int) < N := by omega
    clear hT' hN0 hc0 hT0 hz
    as_aux_lemma =>
      go_wp2
      go_loopw [5] (fun iv wr => ∃ k : Nat, iv = .int .i64 ((k : Int) + 1) ∧ k + 1 ≤ N ∧ ∃ q, wr = w2.drewN q) (fun iv _ => N - (intOf iv).toNat)
      case atStart => exact ⟨0, rfl, by omega, 0, rfl⟩
      case round =>
        obtain ⟨k, rfl, hk, q, rfl⟩ := hrel
        have hd : Below w.heap.size w (w2.drewN q) := below_drewNF D2.out q
        have HD := Lib.hid hd
        clear hd
        by_cases hlt : k + 1 < N
        · have hT1 : k + 1 < T.length := by rw [HN.out]; exact hlt
          have hch := HCH.out k hT1
          obtain ⟨a1, a2⟩ := HC.out (k + 1) hT1
          obtain ⟨a3, a4⟩ := HC.out k (by omega)
          obtain ⟨F1, hF1⟩ : ∃ z, (T[k + 1]).2 = z := ⟨_, rfl⟩
          obtain ⟨K1, hK1⟩ : ∃ z, (T[k + 1]).1.kind = z := ⟨_, rfl⟩
          obtain ⟨F0, hF0⟩ : ∃ z, (T[k]'(by omega)).2 = z := ⟨_, rfl⟩
          obtain ⟨K0, hK0⟩ : ∃ z, (T[k]'(by omega)).1.kind = z := ⟨_, rfl⟩
          unfold M.RisP at hch
          rw [hF1, hK1, hF0, hK0] at hch
          rw [hF1] at a1
          rw [hK1] at a2
          rw [hF0] at a3
          rw [hK0] at a4
          obtain ⟨c1, c2, c3⟩ := hch
          have t1 : decide (F1 ≤ F0) = false := by simp; omega
          have t2 : decide ((len0 : Int) ≤ F1) = false := by simp; omega
          have i0 : (0 : Int) ≤ (k : Int) + 1 := by omega
          have i1 : (k : Int) + 1 < N := by omega
          have i2 : ((k : Int) + 1).toNat = k + 1 := by omega
          have i3 : (k : Int) + 1 - 1 = k := by omega
          have i4 : (0 : Int) ≤ k := by omega
          have i5 : (k : Int) < N := by omega
          have i6 : (k : Int) + 1 ≤ 600 := by omega
          have t3 : ((K1 == 13) = true ∧ (K0 == 13) = false) ∨ (K1 == 13) = false := by
            by_cases h : K1 = 13
            · left; refine ⟨by simpa using h, ?_⟩
              rw [beq_eq_false_iff_ne]; intro h2; exact c3 ⟨h, h2⟩
            · right; rw [beq_eq_false_iff_ne]; exact h
          clear hF1 hK1 hF0 hK0 c1 c2 c3 hT1
          rcases t3 with ⟨t3, t4⟩ | t3
          · as_aux_lemma =>
              go_wp2
              go_quiet (fail)
              go_wp2
              go_roundw
              case rel => exact ⟨k + 1, by go_num, by omega, _, rfl⟩
              case measure => simp [intOf]; omega
          · as_aux_lemma =>
              go_wp2
              go_quiet (fail)
              go_wp2
              go_roundw
              case rel => exact ⟨k + 1, by go_num, by omega, _, rfl⟩
              case measure => simp [intOf]; omega
        · obtain rfl : N = k + 1 := by omega
          clear hlt
          as_aux_lemma =>
            go_wp2
            go_ret
            exact ⟨rfl, HD.out⟩
end Go.Proofs.YtpecaalpbeoolaaGreatDoor
