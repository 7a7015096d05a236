/- The walk of CnameEscapes with small digits. -/
import Derived.Test.YtkaojigdogeliaaDoorEEsc0
import Derived.Outline
namespace Go.Proofs.YtkaojigdogeliaaDoor
open Go.RowKit
set_option linter.unusedVariables false
set_option linter.unusedSimpArgs false

set_option maxRecDepth 100000 in
set_option maxHeartbeats 4000000 in
theorem eesc_small (ρ : Int) (r : Nat) (hρ : (r : Int) = ρ) (zeros blank : Int) (w : World) (hT : TabsE w) (h0 : 1 ≤ r) (h1 : r ≤ 1114111) (h2 : r < 55296 ∨ 57344 ≤ r) (hz0 : 0 ≤ zeros) (hz5 : zeros ≤ 5) :
    Calls Tryd.prog 5 #[.int .i64 ρ, .int .i64 zeros, .bool false, .int .i64 blank] w fun e w' => e = .returned (.bool true) ∧ Below w.heap.size w w' := by
  have al := Lib.hid (alive_any w hT)
  have HT := Lib.hid hT
  obtain ⟨kb, hkb, hk4⟩ := and3_any blank
  have hcp : M.isCP r = true := by rw [M.isCP_iff]; omega
  have hle6 : (M.hx16 r).length ≤ 6 := M.hx16_len 6 r (by omega)
  have hlt16 := M.hx16_lt r r (Nat.le_refl _)
  have HLT := Lib.hid hlt16
  have HCP := Lib.hid hcp
  have H6 := Lib.hid hle6
  have cB := fun w1 => ecellB w1 kb hk4
  unfold eblkB at cB
  have CB := Lib.hid cB
  obtain ⟨E, hE⟩ : ∃ E, bytes (M.encZs (M.eB kb)) = E := ⟨_, rfl⟩
  rw [hE] at CB
  have hEs : E.size ≤ 4 := by
    have h3 := (M.eB_fin ⟨kb, hk4⟩).2.1
    have := (M.encZs_len (M.eB kb)).2
    rw [← hE, bytes_size]; simp only at h3; omega
  have HE := Lib.hid hE
  have R1 : 1 ≤ ρ := by omega
  have R2 : ρ ≤ 1114111 := by omega
  have Hρ := Lib.hid hρ
  have HKB := Lib.hid hkb
  have hway : (ρ < 55296) ∨ (55296 ≤ ρ ∧ 57344 ≤ ρ) := by omega
  clear hT hlt16 hcp cB hE h2 hkb hρ hle6
  rcases hway with hway | ⟨hway, hway2⟩
  all_goals
    go_enter Tryd.func5, Tryd.ntmps5
    go_wp2_with fail
    refine al.out.mono ?_
    rintro e w1 ⟨rfl, hb1⟩
    have HB1 := Lib.hid hb1
    have hz1 := hb1.size
    clear hb1
    go_wp2
    go_loop [11, 12] (fun sv xv => ∃ (x : Nat) (suf : List Nat), xv = .int .i64 (x : Int) ∧ x ≤ 1114111 ∧ M.hx16 x ++ suf = M.hx16 r ∧ sv = .string (bytes (M.encZs (suf.map (M.dgG false))))) (fun _ xv => (intOf xv).toNat)
    case atStart => exact ⟨r, [], by rw [Hρ.out], h1, by simp, rfl⟩
    case round =>
      obtain ⟨x, suf, rfl, hx, hsuf, rfl⟩ := hrel
      by_cases hx0 : 0 < x
      · obtain ⟨X, hX⟩ : ∃ X : Int, (x : Int) = X := ⟨_, rfl⟩
        have hx0' : 0 < X := by omega
        have hx1' : X ≤ 1114111 := by omega
        have a15 := eand15 X (by omega) hx1'
        have hsl : suf.length ≤ 6 := by
          have h6 := H6.out
          rw [← hsuf, List.length_append] at h6
          omega
        have hall : ∀ d ∈ suf, d < 16 := fun d hd => HLT.out d (by rw [← hsuf]; simp [hd])
        have hdl := digs_len false suf hall
        have hps : M.hx16 (x / 16) ++ ((x % 16) :: suf) = M.hx16 r := by rw [← hsuf, M.hx16_pos x hx0]; simp
        have Hps := Lib.hid hps
        obtain ⟨Sx, hSx⟩ : ∃ S, bytes (M.encZs (suf.map (M.dgG false))) = S := ⟨_, rfl⟩
        have hSs : Sx.size ≤ 6 := by rw [← hSx, bytes_size, hdl]; exact hsl
        obtain ⟨Tx, hTx⟩ : ∃ T, (ByteArray.mk #[48, 49, 50, 51, 52, 53, 54, 55, 56, 57, 97, 98, 99, 100, 101, 102]).extract (X % 16).toNat (X % 16 + 1).toNat = T := ⟨_, rfl⟩
        have e1 : (X % 16).toNat = x % 16 := by omega
        have e2 : (X % 16 + 1).toNat = x % 16 + 1 := by omega
        have hTe : Tx = bytes (M.encZs [M.dgG false (x % 16)]) := by rw [← hTx, e1, e2]; exact cutF ⟨x % 16, by omega⟩
        have hTs : Tx.size ≤ 4 := by
          have := (M.encZs_len [M.dgG false (x % 16)]).2
          rw [hTe, bytes_size]; simpa using this
        have hsum : Tx ++ Sx = bytes (M.encZs (((x % 16) :: suf).map (M.dgG false))) := by
          rw [← hSx, hTe, cat2, List.map_cons, M.encZs_cons, M.encZs_cons, M.encZs_nil, List.append_nil]
        have Hsum := Lib.hid hsum
        rw [hSx, hX]
        have m0 : (0 : Int) ≤ X % 16 := by omega
        have m1 : X % 16 < 16 := by omega
        have HX := Lib.hid hX
        clear hX hsuf hall hdl hps hSx hTe hsum e1 e2 hx0 hsl
        go_wp2
        go_round
        case rel => exact ⟨x / 16, (x % 16) :: suf, congrArg (Value.int .i64) (by have := HX.out; omega), by omega, Hps.out, by rw [← Hsum.out]⟩
        case measure => have := HX.out; simp [intOf]; omega
      · obtain rfl : x = 0 := by omega
        rw [M.hx16_zero, List.nil_append] at hsuf
        subst hsuf
        have hes0 : M.encZs ((M.hx16 r).map (M.dgG false)) = M.encZs (M.escS false r 0) := by unfold M.escS; simp
        rw [hes0]
        clear hes0 hx0
        go_wp2
        go_loop [11, 13] (fun sv iv => ∃ z : Nat, iv = .int .i64 (z : Int) ∧ (M.escS false r z).length ≤ 6 ∧ sv = .string (bytes (M.encZs (M.escS false r z)))) (fun _ iv => 7 - (intOf iv).toNat)
        case atStart => exact ⟨0, rfl, by unfold M.escS; simpa using H6.out, rfl⟩
        case round =>
          obtain ⟨z, rfl, hz6, rfl⟩ := hrel
          have hzl : z ≤ 6 := by unfold M.escS at hz6; simp at hz6; omega
          have hbl := escS_bytes false r z
          obtain ⟨Sx, hSx⟩ : ∃ S, bytes (M.encZs (M.escS false r z)) = S := ⟨_, rfl⟩
          have hSs : Sx.size = (M.escS false r z).length := by rw [← hSx, bytes_size, hbl]
          by_cases hgo : (z : Int) < zeros ∧ Sx.size < 6
          · obtain ⟨g1, g2⟩ := hgo
            have hS6 : Sx.size ≤ 6 := by omega
            have t1 : decide ((z : Int) < zeros) = true := by simpa using g1
            have t2 : decide (Sx.size < 6) = true := by simpa using g2
            have t3 : decide ((Sx.size : Int) < 6) = true := by simp; omega
            have t4 : (Sx.size : Int) < 6 := by omega
            have hnx : (M.escS false r (z + 1)).length ≤ 6 := by unfold M.escS at hSs ⊢; simp at hSs ⊢; omega
            have hsum : (ByteArray.mk #[48]) ++ Sx = bytes (M.encZs (M.escS false r (z + 1))) := by
              have hst : M.escS false r (z + 1) = 48 :: M.escS false r z := by unfold M.escS; rw [List.replicate_succ, List.cons_append]
              rw [← hSx, show ByteArray.mk #[48] = bytes [48] from rfl, cat2, hst, M.encZs_cons, M.enc_ascii 48 (by decide) (by decide)]
              rfl
            have Hsum := Lib.hid hsum
            have Hnx := Lib.hid hnx
            rw [hSx]
            clear hSs hsum hnx hSx hbl hz6
            go_wp2
            go_round
            case rel => exact ⟨z + 1, by go_num, Hnx.out, by rw [← Hsum.out]⟩
            case measure => simp [intOf]; omega
          · have hSS : Sx.size ≤ 6 := by omega
            have hway3 : decide ((z : Int) < zeros) = false ∨ (decide ((z : Int) < zeros) = true ∧ 6 ≤ Sx.size) := by
              by_cases h : (z : Int) < zeros
              · right; exact ⟨by simpa using h, by omega⟩
              · left; simpa using h
            obtain ⟨tk, bg⟩ := M.escT_take false r z kb (by omega) HCP.out hz6 hk4
            have hokr := M.escT_okr false r z kb hk4
            have hjoin := escT_bytes false r z kb
            rw [hSx, HE.out] at hjoin
            rw [hSx]
            obtain ⟨c, hc⟩ : ∃ c, M.escT false r z kb = c := ⟨_, rfl⟩
            rw [hc] at tk bg hokr hjoin
            have hclen : c.length ≤ 10 := by
              have := (M.eB_fin ⟨kb, hk4⟩).2.1
              simp only at this
              rw [← hc]; unfold M.escT; simp; omega
            have hclen1 : 1 ≤ c.length := by rw [← hc]; unfold M.escT; simp
            obtain ⟨t, ht⟩ : ∃ t, M.encZs c = t := ⟨_, rfl⟩
            have hcp2 := rn_lit c t ht hokr
            rw [ht] at hjoin
            have htl : t.length ≤ 40 := by rw [← ht]; exact Nat.le_trans (M.encZs_len c).2 (by omega)
            obtain ⟨rs, hrs⟩ : ∃ rs, M.rn t 0 = rs := ⟨_, rfl⟩
            rw [hrs] at hcp2
            have R1 := Lib.hid (fun v W hv => refruns_any v t rs W hv (by omega) hrs)
            obtain ⟨n, hn⟩ : ∃ n, c.length = n := ⟨_, rfl⟩
            rw [hn] at tk hclen hclen1
            have K1 := Lib.hid (fun v W (hv : Lc W v c) => ntake_core v c 0 [(r : Int)] (n - 1) W hv (by omega) (by rw [hn, show clampN 0 n = 0 from by unfold clampN; omega, List.drop_zero, tk]) (by rw [hn, show clampN 0 n = 0 from by unfold clampN; omega, List.drop_zero, tk, Nat.zero_add]))
            have B1 := Lib.hid (fun v W (hv : Lc W v c) => nbegins_any v c 0 true W hv (by omega) (by simpa using bg))
            have hpn := M.pn_enc0 [(r : Int)] (by intro x hx; obtain rfl := List.mem_singleton.1 hx; exact ⟨HCP.out, by omega⟩)
            have hel := (M.encZs_len [(r : Int)]).2
            have P1 := Lib.hid (fun W => points_any (M.encZs [(r : Int)]) [(r : Int)] W (by simp at hel; omega) hpn)
            unfold TkP at K1
            unfold RuP at R1
            unfold IsP at P1
            have hb0 : Below w.heap.size w (w1.alloc (Obj.cells #[.string ⟨#[32]⟩, .string ⟨#[9]⟩, .string ⟨#[10]⟩, .string ⟨#[]⟩] 9)) := HB1.out.alloc HB1.out.size _
            have hcv := bw_conv (w1.alloc (Obj.cells #[.string ⟨#[32]⟩, .string ⟨#[9]⟩, .string ⟨#[10]⟩, .string ⟨#[]⟩] 9)) (bytes t)
            have hbs := bw_bs (w1.alloc (Obj.cells #[.string ⟨#[32]⟩, .string ⟨#[9]⟩, .string ⟨#[10]⟩, .string ⟨#[]⟩] 9)) (bytes t) (by rw [bytes_size]; omega)
            have hbb := bw_below (w1.alloc (Obj.cells #[.string ⟨#[32]⟩, .string ⟨#[9]⟩, .string ⟨#[10]⟩, .string ⟨#[]⟩] 9)) (bytes t)
            rw [bytes_toList] at hbs
            have hb9 := hb0.trans (hbb.mono hb0.size)
            have hz9 : (w1.alloc (Obj.cells #[.string ⟨#[32]⟩, .string ⟨#[9]⟩, .string ⟨#[10]⟩, .string ⟨#[]⟩] 9)).heap.size = w1.heap.size + 1 := by simp
            rw [hz9] at hbs
            rw [hz9] at hcv
            obtain ⟨W9, hW9⟩ : ∃ W, Lib.bytesWorld (w1.alloc (Obj.cells #[.string ⟨#[32]⟩, .string ⟨#[9]⟩, .string ⟨#[10]⟩, .string ⟨#[]⟩] 9)) 5 (bytes t) = W := ⟨_, rfl⟩
            obtain ⟨cap9, hcap9⟩ : ∃ W, grownCap (w1.alloc (Obj.cells #[.string ⟨#[32]⟩, .string ⟨#[9]⟩, .string ⟨#[10]⟩, .string ⟨#[]⟩] 9)) (bytes t).size 0 5 = W := ⟨_, rfl⟩
            rw [hW9, hcap9] at hcv hbs
            rw [hW9] at hb9
            have HB9 := Lib.hid hb9
            have Hbs := Lib.hid hbs
            clear hb0 hbb hz9 hW9 hcap9 hbs hb9
            obtain ⟨X, hX⟩ : ∃ X, bytes (M.encZs [(r : Int)]) = X := ⟨_, rfl⟩
            rw [hX] at K1 P1
            obtain ⟨Tt, hTt⟩ : ∃ X, bytes t = X := ⟨_, rfl⟩
            simp only [hTt] at hjoin hcv Hbs
            rw [show bytes [92] = ⟨#[92]⟩ from rfl, show bytes [40] = ⟨#[40]⟩ from rfl] at hjoin
            obtain ⟨P1s, hP1s⟩ : ∃ P, (ByteArray.mk #[92]) ++ Sx = P := ⟨_, rfl⟩
            rw [hP1s] at hjoin
            obtain ⟨P2s, hP2s⟩ : ∃ P, P1s ++ E = P := ⟨_, rfl⟩
            rw [hP2s] at hjoin
            have z1 : P1s.size = Sx.size + 1 := by rw [← hP1s, ByteArray.size_append, Nat.add_comm]; rfl
            have z2 : P2s.size = P1s.size + E.size := by rw [← hP2s, ByteArray.size_append]
            have s0 : (ByteArray.mk #[92]).size = 1 := rfl
            have s4 : (ByteArray.mk #[40]).size = 1 := rfl
            have a1 : ∀ W, (Op.stringOp .add (ByteArray.mk #[92]) Sx).run Tryd.prog W = .ok (.string P1s) W := fun W => by rw [← hP1s]; exact run_string_add W _ _ (by omega) (by omega)
            have a2 : ∀ W, (Op.stringOp .add P1s E).run Tryd.prog W = .ok (.string P2s) W := fun W => by rw [← hP2s]; exact run_string_add W _ _ (by omega) (by omega)
            have a3 : ∀ W, (Op.stringOp .add P2s (ByteArray.mk #[40])).run Tryd.prog W = .ok (.string Tt) W := fun W => by rw [← hjoin]; exact run_string_add W _ _ (by omega) (by omega)
            clear z1 z2 s0 s4 hP1s hP2s hjoin
            have Hn := Lib.hid hn
            have Hcp2 := Lib.hid hcp2
            have cb := CB.out w1
            have hkb2 := HKB.out
            have k0 : (0 : Int) ≤ kb := by omega
            have k4 : (kb : Int) < 4 := by omega
            have nn1 : ((n : Int) - 1) = ((n - 1 : Nat) : Int) := by omega
            have NN1 := Lib.hid nn1
            clear tk bg hokr hc ht hcp2 hrs hn hpn hel hX hTt hSx hSs hbl hz6 hgo nn1 htl
            rcases hway3 with hw3 | ⟨hw3, hw4⟩
            all_goals
              as_aux_lemma =>
                have A1 := Lib.hid a1
                have A2 := Lib.hid a2
                have A3 := Lib.hid a3
                have HCV := Lib.hid hcv
                clear hcv a1 a2 a3 hway hx hzl h0 h1 hz0 hz5
                go_upto_region 17 with (fail)
                have a1 := A1.out
                have a2 := A2.out
                have a3 := A3.out
                have hcv := HCV.out
                clear hkb2 cb A1 A2 A3 HCV
                go_wp2_with fail
                have hbs2 := Hbs.out
                refine (R1.out _ _ hbs2).mono ?_
                rintro e w2 ⟨v2, rfl, ho2, hb2⟩
                have d2 := HB9.out.trans (hb2.mono HB9.out.size)
                have l2 := ho2.vs
                change Rs w2 v2 rs at l2
                have l3 := l2.lc
                rw [Hcp2.out] at l3
                have l4 := l3
                obtain ⟨a, cap, rfl, g1, g2, g3⟩ := l4
                rw [Hn.out] at g1 ⊢
                rw [Hn.out] at l3
                have L3 := Lib.hid l3
                have D2 := Lib.hid d2
                clear hb2 ho2 l2 g3 l3 d2 hcv a1 a2 a3 hbs2
                go_wp2_with fail
                refine (K1.out _ _ L3.out).mono ?_
                rintro e w3 ⟨rfl, hb3⟩
                have D3 := Lib.hid (D2.out.trans (hb3.mono D2.out.size))
                have L4 := Lib.hid (L3.out.keep hb3)
                clear hb3
                go_wp2_with fail
                refine (P1.out _).mono ?_
                rintro e w4 ⟨v4, rfl, hv4, hb4⟩
                have D4 := Lib.hid (D3.out.trans (hb4.mono D3.out.size))
                have L5 := Lib.hid (L4.out.keep hb4)
                obtain ⟨a4, cap4, rfl, q1, q2, q3⟩ := hv4
                obtain ⟨b4, off4, rfl, hb4k, hc4⟩ := q3 (by simp)
                have c4 := hc4 0 (by simp)
                simp only [List.getElem_cons_zero, Nat.add_zero] at c4
                rw [Hρ.out] at c4
                have nn2 := NN1.out
                clear hb4 q3 hc4
                go_wp2_with fail
                refine (B1.out _ _ L5.out).mono ?_
                rintro e w' ⟨rfl, rfl⟩
                go_wp2
                go_ret
                exact ⟨by first | rfl | (simp; done) | (simp; omega), D4.out⟩
end Go.Proofs.YtkaojigdogeliaaDoor
