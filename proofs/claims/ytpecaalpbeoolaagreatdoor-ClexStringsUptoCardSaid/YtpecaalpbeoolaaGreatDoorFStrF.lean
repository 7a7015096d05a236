/- The walk of ClexStrings (second form). -/
import Derived.Test.YtpecaalpbeoolaaGreatDoorFComm
import Derived.Test.YtpecaalpbeoolaaGreatDoorMgS
import Derived.StillTail
import Derived.BigGuardIn
namespace Go.Proofs.YtpecaalpbeoolaaGreatDoor
open Go.RowKit
set_option linter.unusedVariables false
set_option linter.unusedSimpArgs false

theorem ext_qbF (A : List UInt8) (q : UInt8) (S : ByteArray) (hS : bytes (A ++ [q]) = S) : S.extract 0 (S.size - 1) = bytes A ∧ S.size = A.length + 1 := by
  subst hS
  rw [bytes_size, List.length_append, List.length_singleton, Nat.add_sub_cancel, ext_toP _ _ (by simp)]
  simp
theorem qF_sizeF (q : Int) (ps : List Int) (h : ps.length ≤ 200) : (M.encZs (M.qF q ps)).length ≤ 4000 := by
  have h1 := (M.encZs_len (M.qF q ps)).2
  have h2 : (M.qF q ps).length ≤ 4 * ps.length + 2 := by
    have := M.qacc_len q ps ps.length
    rw [M.qacc_full] at this
    unfold M.qF
    simp only [List.cons_append, List.length_cons, List.length_append, List.length_nil]
    omega
  omega
set_option maxRecDepth 100000 in
set_option maxHeartbeats 8000000 in
theorem fstrs_false (s0 : ByteArray) (a2 : Option Addr) (len2 cap2 : Nat) (l2 : List UInt8) (w : World) {P0 : Prop} (m0 : P0) (e2 : l2.length = len2) (b2 : Bs w (.slice a2 len2 cap2) l2) (n2 : ∀ n c, Value.slice a2 len2 cap2 = .slice none n c → c = 0) (u0 : s0.size ≤ 1048576) (hT : Tabs w) :
    Calls Tryz.prog 6 #[.string s0, .bool false, .slice a2 len2 cap2] w fun e w' => e = .returned (.bool true) ∧ Below w.heap.size w w' := by
  have al := Lib.hid (alive_any w hT)
  clear m0 n2
  have hs := bytes_selfF s0
  obtain ⟨l, hl⟩ : ∃ l, s0.data.toList = l := ⟨_, rfl⟩
  rw [hl] at hs
  have hsz : s0.size = l.length := (get_ofF l s0 hs).1
  obtain ⟨ps, hp⟩ : ∃ ps, M.pn l 0 = ps := ⟨_, rfl⟩
  have hlen := M.pn_len l l.length 0 (by omega)
  have hok := M.pn_ok l l.length 0 (by omega)
  rw [hp] at hlen hok
  have PA := Lib.hid (fun W => (show Calls Tryz.prog 17 #[.string s0] W (IsP W ps) by have := points_any l ps W (by omega) hp; rw [hs] at this; exact this))
  clear hl
  by_cases h0 : 200 < s0.size
  · have h0' : (200 : Int) < s0.size := by omega
    clear hT b2 e2 hok hs hp hsz hlen
    go_enter Tryz.func6, Tryz.ntmps6
    go_wp2_with fail
    refine al.out.mono ?_
    rintro e w1 ⟨rfl, hb⟩
    go_wp2_with fail
    refine (PA.out w1).mono ?_
    rintro e w2 ⟨v2, rfl, hpv, hb2⟩
    have d2 := hb.trans (hb2.mono hb.size)
    clear hpv hb hb2
    go_wp2
    go_ret
    exact ⟨rfl, d2⟩
  have q1 : decide ((200 : Int) < s0.size) = false := by simp; omega
  by_cases h1 : 100 < len2
  · have h1' : (100 : Int) < len2 := by omega
    clear hT b2 e2 hok hs hp hsz hlen h0
    go_enter Tryz.func6, Tryz.ntmps6
    go_wp2_with fail
    refine al.out.mono ?_
    rintro e w1 ⟨rfl, hb⟩
    go_wp2_with fail
    refine (PA.out w1).mono ?_
    rintro e w2 ⟨v2, rfl, hpv, hb2⟩
    have d2 := hb.trans (hb2.mono hb.size)
    clear hpv hb hb2
    go_wp2
    go_ret
    exact ⟨rfl, d2⟩
  have q2 : decide ((100 : Int) < len2) = false := by simp; omega
  have k2 : len2 ≤ 100 := by omega
  have k1 : ps.length ≤ 200 := by omega
  have B2 := Lib.hid b2
  have HS2 : ∃ S2, bytes l2 = S2 := ⟨_, rfl⟩
  obtain ⟨S2, hS2⟩ := HS2
  have z2 : S2.size ≤ 100 := by rw [← hS2, bytes_size]; omega
  have HCV := Lib.hid (fun (W : World) (hW : Below w.heap.size w W) => (show (convert 22 9 (.slice a2 len2 cap2)).run Tryz.prog W = .ok (.string S2) W by have := conv_slice (b2.keep hW); rw [hS2] at this; exact this))
  have hq : ((34 : UInt8) = 34 ∨ (34 : UInt8) = 39) := by decide
  have hmk : M.Mk (34 : Int) := by unfold M.Mk; decide
  obtain ⟨A, hA⟩ : ∃ A, M.encZs (34 :: M.qB 34 ps) = A := ⟨_, rfl⟩
  have htl := qF_sizeF 34 ps k1
  have hF : M.encZs (M.qF 34 ps) = A ++ [34] := by
    have e1 := M.qF_bytes (34 : UInt8) hq ps
    rw [← hA, M.encZs_cons, show M.enc 34 = [34] by decide +kernel]
    rw [show ((34 : UInt8).toNat : Int) = 34 from rfl] at e1
    rw [e1]; simp
  rw [hF] at htl
  obtain ⟨TS, hTS⟩ : ∃ S, bytes (A ++ [34]) = S := ⟨_, rfl⟩
  obtain ⟨hx1, hx2⟩ := ext_qbF A 34 TS hTS
  have RQ := Lib.hid (fun W => (show Calls Tryz.prog 18 #[.string s0, .int .i64 34] W (fun e W' => e = .returned (.string TS) ∧ Below W.heap.size W W') by
    have h := rquoted_any l (34 : UInt8) (A ++ [34]) W (by omega) hq (by rw [hp]; exact hF)
    unfold StP at h; rw [hs, hTS] at h; exact h))
  obtain ⟨R, hR⟩ := M.quoted_tks 34 hmk ps hok l2
  rw [hF] at hR
  obtain ⟨T2, hT2⟩ : ∃ T, M.tksC (M.rn (A ++ (10 :: l2)) 0) = T := ⟨_, rfl⟩
  have hbr := fun hl => M.broken_tks 34 hmk ps hok hl l2
  rw [hA, hT2] at hbr
  rw [List.length_append, List.length_singleton] at htl
  have C1 := Lib.hid (fun (W : World) (hW : Below w.heap.size w W) => (show Calls Tryz.prog 16 #[.string (TS ++ S2)] W _ by
    have h := flsplit_any (A ++ [34] ++ l2) _ W (hT.keep hW) (by simp; omega) hR
    rw [← bytes_addF, hTS, hS2] at h; exact h))
  obtain ⟨TA, hTA⟩ : ∃ S, bytes A = S := ⟨_, rfl⟩
  rw [hTA] at hx1
  have C2 := Lib.hid (fun (W : World) (hW : Below w.heap.size w W) => (show Calls Tryz.prog 16 #[.string (TA ++ (ByteArray.mk #[10]) ++ S2)] W _ by
    have h := flsplit_any (A ++ (10 :: l2)) _ W (hT.keep hW) (by simp; omega) hT2
    rw [show A ++ (10 :: l2) = A ++ [10] ++ l2 by simp, ← bytes_addF, ← bytes_addF, hTA, hS2] at h; exact h))
  have y1 : TA.size = A.length := by rw [← hTA, bytes_size]
  have hNA : A.length ≤ 4000 := by omega
  have p1 : ∀ W, (Op.stringOp .add TS S2).run Tryz.prog W = .ok (.string (TS ++ S2)) W := fun W => run_string_add W _ _ (by omega) (by omega)
  have p2 : ∀ W, (Op.stringOp .add TA (ByteArray.mk #[10])).run Tryz.prog W = .ok (.string (TA ++ (ByteArray.mk #[10]))) W := fun W => run_string_add W _ _ (by omega) (by decide)
  have y2 : (TA ++ (ByteArray.mk #[10])).size = A.length + 1 := by rw [ByteArray.size_append, y1]; rfl
  have p3 : ∀ W, (Op.stringOp .add (TA ++ (ByteArray.mk #[10])) S2).run Tryz.prog W = .ok (.string (TA ++ (ByteArray.mk #[10]) ++ S2)) W := fun W => run_string_add W _ _ (by omega) (by omega)
  obtain ⟨N, hN⟩ : ∃ N, A.length = N := ⟨_, rfl⟩
  rw [hN] at y1 y2 hx2 hNA
  rw [hx2] at hx1
  have g1 : ((N + 1 : Nat) : Int) - 1 = (N : Int) := by omega
  have g2 : IntKind.i64.wrap (((N + 1 : Nat) : Int) - 1) = (N : Int) := by rw [g1, IntKind.wrap_i64]; omega
  rw [Nat.add_sub_cancel] at hx1
  have g3 : (0 : Int) ≤ (N : Int) := by omega
  have g5 : IntKind.i64.wrap (N : Int) = (N : Int) := by rw [IntKind.wrap_i64]; omega
  have g6 : (N : Int) ≤ (N : Int) + 1 := by omega
  have g4 : (N : Int) ≤ ((N + 1 : Nat) : Int) := by omega
  obtain ⟨WS, hWS⟩ : ∃ S, bytes (M.encZs ps) = S := ⟨_, rfl⟩
  have HA := Lib.hid hTA
  have HBR := Lib.hid hbr
  have HX1 := Lib.hid hx1
  have HWS := Lib.hid hWS
  have HOK := Lib.hid hok
  clear hbr hT hT2 hR hF hA hq hmk htl hTS hs hp hok hS2 e2 hlen hTA hWS b2 y1 y2 u0 h0 h1 hsz
  as_aux_lemma =>
    go_enter Tryz.func6, Tryz.ntmps6
    go_wp2_with fail
    refine al.out.mono ?_
    rintro e w1 ⟨rfl, d1⟩
    go_wp2_with fail
    refine (PA.out w1).mono ?_
    rintro e w2 ⟨pv, rfl, hpv, hb2⟩
    have d2 := d1.trans (hb2.mono d1.size)
    clear hb2 d1
    go_wp2_with fail
    refine (RQ.out w2).mono ?_
    rintro e w3 ⟨rfl, hb3⟩
    have d3 := d2.trans (hb3.mono d2.size)
    replace hpv := hpv.keep hb3
    clear hb3 d2
    have hcv := HCV.out w3 d3
    go_wp2_with fail
    refine (C1.out w3 d3).mono ?_
    rintro e w4 ⟨v1, rfl, ho1, hb4⟩
    have d4 := d3.trans (hb4.mono d3.size)
    replace hpv := hpv.keep hb4
    have l4 := ho1.cs
    clear ho1 hb4 d3 hcv p1
    go_upto_region 10 with (fail)
    have hcv := HCV.out w4.drew d4.drew
    have hx := HX1.out
    refine wp_region_still_tail 9 (by kernel_rfl) (by kernel_rfl) ?_
    simp only [List.take_succ_cons, List.take_zero, List.drop_succ_cons, List.drop_zero]
    repeat still_step
    refine wpStill_nil ?_
    change wpList _ _ _ _ _ w4.drew
    have d5 := d4.drew
    have l5 := cs_keep l4 ((Below.refl _ _).drew)
    replace hpv := hpv.keep ((Below.refl _ _).drew)
    go_wp2_with fail
    refine (C2.out _ d5).mono ?_
    rintro e w5 ⟨v2, rfl, ho2, hb5⟩
    have d6 := d5.trans (hb5.mono d5.size)
    replace hpv := hpv.keep hb5
    have l6 := cs_keep l5 hb5
    have m6 := ho2.cs
    clear ho2 hb5 d5 l5 l4 d4 hcv hx p2 p3 g1 g2
    obtain ⟨pa, pc, rfl, h1, h2, h3⟩ := hpv
    obtain ⟨n, hn⟩ : ∃ n, ps.length = n := ⟨_, rfl⟩
    rw [hn] at h1 k1 ⊢
    unfold maxLen at h2
    have H3 := Lib.hid h3
    have D6 := Lib.hid d6
    have HN := Lib.hid hn
    have L6 := Lib.hid l6
    have M6 := Lib.hid m6
    clear h3 d6 hn l6 m6
    go_wp2
    go_loopw [13, 14] (fun tv iv wr => ∃ i : Nat, iv = .int .i64 i ∧ i ≤ n ∧ tv = .string (bytes (M.encZs (ps.take i))) ∧ Below w5.heap.size w5 wr) (fun _ iv _ => n - (intOf iv).toNat)
    case atStart => exact ⟨0, rfl, by omega, rfl, Below.refl _ _⟩
    case round =>
      obtain ⟨i, rfl, hi, rfl, hb⟩ := hrel
      have HB := Lib.hid hb
      have hTs : (bytes (M.encZs (ps.take i))).size ≤ 1000 := by
        have h4 := (M.encZs_len (ps.take i)).2
        have h5 := List.length_take_le i ps
        rw [bytes_size]; omega
      obtain ⟨Tx, hTx⟩ : ∃ S, bytes (M.encZs (ps.take i)) = S := ⟨_, rfl⟩
      rw [hTx] at hTs ⊢
      have HTx := Lib.hid hTx
      by_cases hlt : i < n
      · obtain ⟨b1, off, rfl, hbk, hc⟩ := H3.out (by rw [HN.out]; omega)
        have hil : i < ps.length := by rw [HN.out]; exact hlt
        have cr := (hb.cell (p := ⟨b1, off + i, none⟩) hbk).trans (hc i hil)
        obtain ⟨r, hr⟩ : ∃ r, ps[i] = r := ⟨_, rfl⟩
        rw [hr] at cr
        have i1 : (0 : Int) ≤ i := by omega
        have i2 : (i : Int) < n := by omega
        have PT := Lib.hid (refput_any wr.heap.size (.slice none 0 0) [] (M.enc r) r wr (World.ownsRow_nil _ _ _ _) (by simp) (Nat.le_refl _) (by simp))
        obtain ⟨PS, hPS⟩ : ∃ S, bytes (M.enc r) = S := ⟨_, rfl⟩
        have hPz : PS.size ≤ 4 := by rw [← hPS, bytes_size]; exact M.enc_le r
        have HPS := Lib.hid hPS
        have hsucc : Tx ++ PS = bytes (M.encZs (ps.take (i + 1))) := by
          rw [List.take_add_one, List.getElem?_eq_getElem hil, hr, Option.toList_some, M.encZs_append, ← hTx, ← hPS, bytes_addF, M.encZs_cons, M.encZs_nil, List.append_nil]
        have HSUC := Lib.hid hsucc
        have p4 : ∀ W, (Op.stringOp .add Tx PS).run Tryz.prog W = .ok (.string (Tx ++ PS)) W := fun W => run_string_add W _ _ (by omega) (by omega)
        clear hc hr hb hTx hil hPS hsucc
        as_aux_lemma =>
          go_wp2_with fail
          refine (PT.out).mono ?_
          rintro e w6 ⟨v6, rfl, ho6, hb6⟩
          have hcv := conv_own ho6
          rw [HPS.out] at hcv
          have HB6 := Lib.hid (HB.out.trans (hb6.mono HB.out.size))
          clear ho6 hb6
          go_wp2
          go_roundw
          case rel => exact ⟨i + 1, by go_num, by omega, by rw [← HSUC.out], HB6.out⟩
          case measure => simp [intOf]; omega
      · have i2 : ¬ (i : Int) < n := by omega
        have hw : Tx = WS := by rw [← HWS.out, ← HTx.out, List.take_of_length_le (by rw [HN.out]; omega)]
        subst hw
        have DR := Lib.hid (D6.out.trans (hb.mono D6.out.size))
        have lr := cs_keep L6.out hb
        have mr := cs_keep M6.out hb
        obtain ⟨ax, cx, rfl, -, -, gx⟩ := cs_cells lr (n := R.length + 1) rfl
        obtain ⟨bx, ox, rfl, -, hcx⟩ := gx 0 (by simp)
        have CX := Lib.hid (show ∀ k, k < 13 → wr.cell? ⟨bx, ox + k, none⟩ = (ctv { kind := 5, text := M.encZs ps } 0)[k]? from fun k hk => by have := hcx k hk; rw [Nat.zero_mul, Nat.add_zero] at this; exact this)
        obtain ⟨n1, hn1⟩ : ∃ n1, R.length + 1 = n1 := ⟨_, rfl⟩
        rw [hn1]
        have t1 : ((n1 : Int) == 0) = false := by rw [beq_eq_false_iff_ne]; omega
        have t2 : (0 : Int) < n1 := by omega
        have D5 := Lib.hid (show (ctv { kind := 5, text := M.encZs ps } 0) = #[.int .i64 5, .string Tx, .string ⟨#[]⟩, .bool false, .string ⟨#[]⟩, .string ⟨#[]⟩, .bool false, .bool false, .int .i64 0, .int .i64 0, .int .i64 0, .int .i64 0, .int .i64 0] by rw [← HWS.out]; rfl)
        clear hcx gx lr hTx HTx hn1
        by_cases hz : n = 0
        · have hlast : ∀ r, ps.getLast? = some r → ¬ (r = 10 ∨ r = 12 ∨ r = 13) := by
            have hnil : ps = [] := List.eq_nil_of_length_eq_zero (by rw [HN.out]; exact hz)
            rw [hnil]; intro r h; cases h
          subst hz
          obtain ⟨x, z, R2, hTe, hxk⟩ := HBR.out hlast
          rw [hTe] at mr
          obtain ⟨ay, cy, rfl, -, -, gy⟩ := cs_cells mr (n := R2.length + 2) rfl
          obtain ⟨by1, oy, rfl, -, hcy⟩ := gy 0 (by simp)
          obtain ⟨by2, oy2, ey, -, hcy2⟩ := gy 1 (by simp)
          simp only [Option.some.injEq, Addr.mk.injEq, and_true] at ey
          obtain ⟨rfl, rfl⟩ := ey
          have f0 : wr.drew.cell? ⟨by1, oy, none⟩ = some (.int .i64 6) := by have := hcy 0 (by decide); rw [Nat.zero_mul, Nat.add_zero] at this; exact this
          have f1 : wr.drew.cell? ⟨by1, oy + 1, none⟩ = some (.string TA) := by have := hcy 1 (by decide); rw [Nat.zero_mul, Nat.add_zero] at this; rw [← HA.out]; exact this
          have f2 : wr.drew.cell? ⟨by1, oy + 13, none⟩ = some (.int .i64 13) := by have := hcy2 0 (by decide); rw [Nat.one_mul, Nat.add_zero] at this; rw [← hxk]; exact this
          obtain ⟨n2, hn2⟩ : ∃ n2, R2.length + 2 = n2 := ⟨_, rfl⟩
          rw [hn2]
          have m1 : decide ((2 : Int) ≤ n2) = true := by simp; omega
          have m2 : (0 : Int) < n2 := by omega
          have m3 : (1 : Int) < n2 := by omega
          have m4 : 0 < n2 := by omega
          have m5 : 1 < n2 := by omega
          have m6 : 2 ≤ n2 := by omega
          have hfin := DR.out.drew
          have hx := HX1.out
          clear hcy hcy2 gy hTe hn2 hlast mr
          as_aux_lemma =>
            go_upto_region 18 with (first | (refine wpl_ldM rfl _ rfl bx ox _ rfl rfl CX.out ?_) | (refine wpl_cmp rfl false _ _ rfl { kind := 5, text := M.encZs ps } 0 _ _ rfl rfl rfl D5.out.symm ?_))
            refine wp_region_lit ?_
            iterate 12 go_step
            go_big_skip
            go_upto_region 20 with (fail)
            refine wp_region_still_lit (by kernel_rfl) (by kernel_rfl) ?_
            repeat still_step
            refine wpStill_nil ?_
            change Exit.then _ _ _ _ wr.drew
            (try go_wp2)
            go_ret
            exact ⟨rfl, hfin⟩
        · obtain ⟨k, rfl⟩ : ∃ k, n = k + 1 := ⟨n - 1, by omega⟩
          obtain ⟨b1, off, rfl, hbk, hc⟩ := H3.out (by rw [HN.out]; omega)
          have hil : k < ps.length := by rw [HN.out]; omega
          have cr := (hb.cell (p := ⟨b1, off + k, none⟩) hbk).trans (hc k hil)
          obtain ⟨r, hr⟩ : ∃ r, ps[k] = r := ⟨_, rfl⟩
          rw [hr] at cr
          have hgl : ps.getLast? = some r := by rw [List.getLast?_eq_getElem?, HN.out, Nat.add_sub_cancel, List.getElem?_eq_getElem hil, hr]
          have t3 : 0 < k + 1 := by omega
          have t4 : (0 : Int) < (k : Int) + 1 := by omega
          have t5 : (0 : Int) ≤ (k : Int) := by omega
          have t6 : (k : Int) < (k : Int) + 1 := by omega
          have t7 : IntKind.i64.wrap (k : Int) = (k : Int) := by rw [IntKind.wrap_i64]; omega
          have t8 : (k : Int) < ((k + 1 : Nat) : Int) := by omega
          have HGL := Lib.hid hgl
          clear hz hc hil hr hgl hi h1
          by_cases z1 : r = 10
          · have y1 : (r == 10) = true := by rw [beq_iff_eq]; exact z1
            clear z1
            as_aux_lemma =>
              go_wp2_with (first | (refine wpl_ldM rfl _ rfl bx ox _ rfl rfl CX.out ?_) | (refine wpl_cmp rfl false _ _ rfl { kind := 5, text := M.encZs ps } 0 _ _ rfl rfl rfl D5.out.symm ?_))
              go_ret
              exact ⟨rfl, DR.out⟩
          have y1 : (r == 10) = false := by rw [beq_eq_false_iff_ne]; exact z1
          by_cases z2 : r = 12
          · have y2 : (r == 12) = true := by rw [beq_iff_eq]; exact z2
            clear z1 z2
            as_aux_lemma =>
              go_wp2_with (first | (refine wpl_ldM rfl _ rfl bx ox _ rfl rfl CX.out ?_) | (refine wpl_cmp rfl false _ _ rfl { kind := 5, text := M.encZs ps } 0 _ _ rfl rfl rfl D5.out.symm ?_))
              go_ret
              exact ⟨rfl, DR.out⟩
          have y2 : (r == 12) = false := by rw [beq_eq_false_iff_ne]; exact z2
          by_cases z3 : r = 13
          · have y3 : (r == 13) = true := by rw [beq_iff_eq]; exact z3
            clear z1 z2 z3
            as_aux_lemma =>
              go_wp2_with (first | (refine wpl_ldM rfl _ rfl bx ox _ rfl rfl CX.out ?_) | (refine wpl_cmp rfl false _ _ rfl { kind := 5, text := M.encZs ps } 0 _ _ rfl rfl rfl D5.out.symm ?_))
              go_ret
              exact ⟨rfl, DR.out⟩
          have y3 : (r == 13) = false := by rw [beq_eq_false_iff_ne]; exact z3
          have hlast : ∀ r', ps.getLast? = some r' → ¬ (r' = 10 ∨ r' = 12 ∨ r' = 13) := by
            intro r' h; rw [HGL.out] at h; injection h with h; omega
          clear z1 z2 z3
          obtain ⟨x, z, R2, hTe, hxk⟩ := HBR.out hlast
          rw [hTe] at mr
          obtain ⟨ay, cy, rfl, -, -, gy⟩ := cs_cells mr (n := R2.length + 2) rfl
          obtain ⟨by1, oy, rfl, -, hcy⟩ := gy 0 (by simp)
          obtain ⟨by2, oy2, ey, -, hcy2⟩ := gy 1 (by simp)
          simp only [Option.some.injEq, Addr.mk.injEq, and_true] at ey
          obtain ⟨rfl, rfl⟩ := ey
          have f0 : wr.drew.cell? ⟨by1, oy, none⟩ = some (.int .i64 6) := by have := hcy 0 (by decide); rw [Nat.zero_mul, Nat.add_zero] at this; exact this
          have f1 : wr.drew.cell? ⟨by1, oy + 1, none⟩ = some (.string TA) := by have := hcy 1 (by decide); rw [Nat.zero_mul, Nat.add_zero] at this; rw [← HA.out]; exact this
          have f2 : wr.drew.cell? ⟨by1, oy + 13, none⟩ = some (.int .i64 13) := by have := hcy2 0 (by decide); rw [Nat.one_mul, Nat.add_zero] at this; rw [← hxk]; exact this
          obtain ⟨n2, hn2⟩ : ∃ n2, R2.length + 2 = n2 := ⟨_, rfl⟩
          rw [hn2]
          have m1 : decide ((2 : Int) ≤ n2) = true := by simp; omega
          have m2 : (0 : Int) < n2 := by omega
          have m3 : (1 : Int) < n2 := by omega
          have m4 : 0 < n2 := by omega
          have m5 : 1 < n2 := by omega
          have m6 : 2 ≤ n2 := by omega
          have hfin := DR.out.drew
          have hx := HX1.out
          clear hcy hcy2 gy hTe hn2 hlast mr
          as_aux_lemma =>
            go_upto_region 20 with (first | (refine wpl_ldM rfl _ rfl bx ox _ rfl rfl CX.out ?_) | (refine wpl_cmp rfl false _ _ rfl { kind := 5, text := M.encZs ps } 0 _ _ rfl rfl rfl D5.out.symm ?_))
            refine wp_region_still_lit (by kernel_rfl) (by kernel_rfl) ?_
            repeat still_step
            refine wpStill_nil ?_
            change Exit.then _ _ _ _ wr.drew
            (try go_wp2)
            go_ret
            exact ⟨rfl, hfin⟩
end Go.Proofs.YtpecaalpbeoolaaGreatDoor
