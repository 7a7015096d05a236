/- The walk of ClexUrls. -/
import Derived.Test.YtpecaalpbeoolaaGreatDoorFComm
import Derived.Test.YtpecaalpbeoolaaGreatDoorFMath6
import Derived.StillTail
namespace Go.Proofs.YtpecaalpbeoolaaGreatDoor
open Go.RowKit
set_option linter.unusedVariables false
set_option linter.unusedSimpArgs false

theorem ext_take (l : List UInt8) (a : Nat) : (bytes l).extract 0 a = bytes (l.take a) := by
  apply ByteArray.ext
  rw [ByteArray.data_extract]
  unfold bytes
  simp
theorem sizes_add (a b : ByteArray) (n m : Nat) (h1 : a.size ≤ n) (h2 : b.size ≤ m) : (a ++ b).size ≤ n + m := by rw [ByteArray.size_append]; omega
theorem add_run (a b : ByteArray) (h1 : a.size ≤ 1000) (h2 : b.size ≤ 1000) : ∀ W, (Op.stringOp .add a b).run Tryz.prog W = .ok (.string (a ++ b)) W := fun W => run_string_add W _ _ (by omega) (by omega)
set_option maxRecDepth 100000 in
set_option maxHeartbeats 8000000 in
theorem furls_walk (s0 : ByteArray) (x1 x2 : Int) (x3 : Bool) (w : World) {P0 P1 P2 : Prop} (m0 : P0) (m1 : P1) (m2 : P2) (hT : Tabs w) :
    Calls Tryz.prog 9 #[.string s0, .int .i64 x1, .int .i64 x2, .bool x3] w fun e w' => e = .returned (.bool true) ∧ Below w.heap.size w w' := by
  have al := Lib.hid (alive_any w hT)
  clear m0 m1 m2
  by_cases h0 : 100 < s0.size
  · have h0' : (100 : Int) < s0.size := by omega
    clear hT
    go_enter Tryz.func9, Tryz.ntmps9
    go_wp2_with fail
    refine al.out.mono ?_
    rintro e w1 ⟨rfl, hb⟩
    go_wp2
    go_ret
    exact ⟨rfl, hb⟩
  have q1 : decide ((100 : Int) < s0.size) = false := by simp; omega
  by_cases g0 : x1 < 0
  · have t0 : decide (x1 < 0) = true := by simpa using g0
    clear hT h0
    as_aux_lemma =>
      go_enter Tryz.func9, Tryz.ntmps9
      go_wp2_with fail
      refine al.out.mono ?_
      rintro e w1 ⟨rfl, hb⟩
      go_wp2
      go_ret
      exact ⟨rfl, hb⟩
  have t0 : decide (x1 < 0) = false := by simpa using g0
  by_cases g1 : 5 < x1
  · have t1 : decide ((5 : Int) < x1) = true := by simpa using g1
    clear hT h0
    as_aux_lemma =>
      go_enter Tryz.func9, Tryz.ntmps9
      go_wp2_with fail
      refine al.out.mono ?_
      rintro e w1 ⟨rfl, hb⟩
      go_wp2
      go_ret
      exact ⟨rfl, hb⟩
  have t1 : decide ((5 : Int) < x1) = false := by simpa using g1
  by_cases g2 : x2 < 0
  · have t2 : decide (x2 < 0) = true := by simpa using g2
    clear hT h0
    as_aux_lemma =>
      go_enter Tryz.func9, Tryz.ntmps9
      go_wp2_with fail
      refine al.out.mono ?_
      rintro e w1 ⟨rfl, hb⟩
      go_wp2
      go_ret
      exact ⟨rfl, hb⟩
  have t2 : decide (x2 < 0) = false := by simpa using g2
  by_cases g3 : 5 < x2
  · have t3 : decide ((5 : Int) < x2) = true := by simpa using g3
    clear hT h0
    as_aux_lemma =>
      go_enter Tryz.func9, Tryz.ntmps9
      go_wp2_with fail
      refine al.out.mono ?_
      rintro e w1 ⟨rfl, hb⟩
      go_wp2
      go_ret
      exact ⟨rfl, hb⟩
  have t3 : decide ((5 : Int) < x2) = false := by simpa using g3
  obtain ⟨a, rfl⟩ : ∃ a : Nat, x1 = a := ⟨x1.toNat, by omega⟩
  obtain ⟨b, rfl⟩ : ∃ b : Nat, x2 = b := ⟨x2.toNat, by omega⟩
  have a5 : a ≤ 5 := by omega
  have b5 : b ≤ 5 := by omega
  have hs := bytes_selfF s0
  obtain ⟨l, hl⟩ : ∃ l, s0.data.toList = l := ⟨_, rfl⟩
  rw [hl] at hs
  obtain ⟨hsz, hget⟩ := get_ofF l s0 hs
  have sz : s0.size ≤ 100 := by omega
  have HS := Lib.hid hs
  have HSZ := Lib.hid hsz
  have HGET := Lib.hid hget
  have HT := Lib.hid hT
  have SP := Lib.hid (fun (X : List UInt8) (hX : X.length ≤ 1000) (T : List (M.CT × Int)) (hr : M.tksC (M.rn X 0) = T) W (hW : Below w.heap.size w W) => flsplit_any X T W (hT.keep hW) (by omega) hr)
  clear hT h0 g0 g1 g2 g3 hs hl hsz hget
  go_enter Tryz.func9, Tryz.ntmps9
  go_wp2_with fail
  refine al.out.mono ?_
  rintro e w1 ⟨rfl, hb⟩
  have HB := Lib.hid hb
  clear hb
  go_wp2
  go_loop [10] (fun iv => ∃ k : Nat, iv = .int .i64 (k : Int) ∧ k ≤ s0.size ∧ ∀ j (h : j < l.length), j < k → M.UrC l[j]) (fun iv => s0.size - (intOf iv).toNat)
  case atStart => exact ⟨0, rfl, by omega, fun j h hj => by omega⟩
  case round =>
    obtain ⟨k, rfl, hk, hall⟩ := hrel
    have HA := Lib.hid hall
    clear hall
    by_cases hlt : k < s0.size
    · have hkl : k < l.length := by rw [← HSZ.out]; exact hlt
      have hsk := HGET.out k hlt hkl
      obtain ⟨x, hx⟩ : ∃ x, l[k] = x := ⟨_, rfl⟩
      rw [hx] at hsk
      have HX := Lib.hid hx
      have k0 : (0 : Int) ≤ k := by omega
      have k2 : (k : Int) < s0.size := by omega
      have hub := x.toNat_lt
      clear hx
      by_cases z0 : x.toNat ≤ 32
      · have y0 : decide ((x.toNat : Int) ≤ 32) = true := by simp; omega
        clear z0 
        as_aux_lemma =>
          go_wp2
          go_ret
          exact ⟨rfl, HB.out⟩
      · have y0 : decide ((x.toNat : Int) ≤ 32) = false := by simp; omega
        by_cases z1 : 127 ≤ x.toNat
        · have y1 : decide ((127 : Int) ≤ (x.toNat : Int)) = true := by simp; omega
          clear z1 z0
          as_aux_lemma =>
            go_wp2
            go_ret
            exact ⟨rfl, HB.out⟩
        · have y1 : decide ((127 : Int) ≤ (x.toNat : Int)) = false := by simp; omega
          by_cases z2 : x.toNat = 34
          · have y2 : ((x.toNat : Int) == 34) = true := by rw [beq_iff_eq]; omega
            clear z2 z0 z1
            as_aux_lemma =>
              go_wp2
              go_ret
              exact ⟨rfl, HB.out⟩
          · have y2 : ((x.toNat : Int) == 34) = false := by rw [beq_eq_false_iff_ne]; omega
            by_cases z3 : x.toNat = 39
            · have y3 : ((x.toNat : Int) == 39) = true := by rw [beq_iff_eq]; omega
              clear z3 z0 z1 z2
              as_aux_lemma =>
                go_wp2
                go_ret
                exact ⟨rfl, HB.out⟩
            · have y3 : ((x.toNat : Int) == 39) = false := by rw [beq_eq_false_iff_ne]; omega
              by_cases z4 : x.toNat = 40
              · have y4 : ((x.toNat : Int) == 40) = true := by rw [beq_iff_eq]; omega
                clear z4 z0 z1 z2 z3
                as_aux_lemma =>
                  go_wp2
                  go_ret
                  exact ⟨rfl, HB.out⟩
              · have y4 : ((x.toNat : Int) == 40) = false := by rw [beq_eq_false_iff_ne]; omega
                by_cases z5 : x.toNat = 41
                · have y5 : ((x.toNat : Int) == 41) = true := by rw [beq_iff_eq]; omega
                  clear z5 z0 z1 z2 z3 z4
                  as_aux_lemma =>
                    go_wp2
                    go_ret
                    exact ⟨rfl, HB.out⟩
                · have y5 : ((x.toNat : Int) == 41) = false := by rw [beq_eq_false_iff_ne]; omega
                  by_cases z6 : x.toNat = 92
                  · have y6 : ((x.toNat : Int) == 92) = true := by rw [beq_iff_eq]; omega
                    clear z6 z0 z1 z2 z3 z4 z5
                    as_aux_lemma =>
                      go_wp2
                      go_ret
                      exact ⟨rfl, HB.out⟩
                  · have y6 : ((x.toNat : Int) == 92) = false := by rw [beq_eq_false_iff_ne]; omega
                    have hg : M.UrC x := ⟨by omega, by omega, z2, z3, z4, z5, z6⟩
                    clear z0 z1 z2 z3 z4 z5 z6
                    as_aux_lemma =>
                      go_wp2
                      go_round
                      case rel =>
                        refine ⟨k + 1, by go_num, by omega, fun j h hj => ?_⟩
                        by_cases hjk : j < k
                        · exact HA.out j h hjk
                        · obtain rfl : j = k := by omega
                          rw [HX.out]; exact hg
                      case measure => simp [intOf]; omega
    · have hgl : ∀ x ∈ l, M.UrC x := by
        intro x hx
        obtain ⟨j, hj, e⟩ := List.getElem_of_mem hx
        rw [← e]; exact HA.out j hj (by have := HSZ.out; omega)
      have k2 : ¬ (k : Int) < s0.size := by omega
      obtain ⟨SA, hSA⟩ : ∃ S, bytes (M.blB.take a) = S := ⟨_, rfl⟩
      obtain ⟨SB, hSB⟩ : ∃ S, bytes (M.blB.take b) = S := ⟨_, rfl⟩
      have xa : (ByteArray.mk #[32, 10, 9, 32, 32]).extract 0 a = SA := by rw [← hSA, ← ext_take]; rfl
      have xb : (ByteArray.mk #[32, 10, 9, 32, 32]).extract 0 b = SB := by rw [← hSB, ← ext_take]; rfl
      have xs : (ByteArray.mk #[32, 10, 9, 32, 32]).size = 5 := rfl
      have sA : SA.size ≤ 5 := by rw [← hSA, bytes_size, List.length_take]; omega
      have sB : SB.size ≤ 5 := by rw [← hSB, bytes_size, List.length_take]; omega
      have aI : (a : Int) ≤ 5 := by omega
      have bI : (b : Int) ≤ 5 := by omega
      have a0 : (0 : Int) ≤ a := by omega
      have b0 : (0 : Int) ≤ b := by omega
      have HSA := Lib.hid hSA
      have HSB := Lib.hid hSB
      have HGL := Lib.hid hgl
      clear hgl hSA hSB hlt
      cases x3 with
      | true =>
        obtain ⟨z1, r1⟩ := M.url_one true a b l HGL.out
        have r2 := M.url_two true a b l HGL.out
        obtain ⟨z3, r3⟩ := M.url_bad true l HGL.out
        have nB : ((ByteArray.mk #[117, 82, 76, 40])).size ≤ 4 := by decide
        have p1 := add_run (ByteArray.mk #[117, 82, 76, 40]) SA (by omega) (by omega)
        have n1 := sizes_add (ByteArray.mk #[117, 82, 76, 40]) SA 4 5 nB sA
        have p2 := add_run ((ByteArray.mk #[117, 82, 76, 40]) ++ SA) s0 (by omega) (by omega)
        have n2 := sizes_add ((ByteArray.mk #[117, 82, 76, 40]) ++ SA) s0 9 100 n1 sz
        have p3 := add_run ((ByteArray.mk #[117, 82, 76, 40]) ++ SA ++ s0) SB (by omega) (by omega)
        have n3 := sizes_add ((ByteArray.mk #[117, 82, 76, 40]) ++ SA ++ s0) SB 109 5 n2 sB
        have p4 := add_run ((ByteArray.mk #[117, 82, 76, 40]) ++ SA ++ s0 ++ SB) (ByteArray.mk #[41, 120]) (by omega) (by decide)
        have p5 := add_run (ByteArray.mk #[117, 82, 76, 40]) s0 (by omega) (by omega)
        have n5 := sizes_add (ByteArray.mk #[117, 82, 76, 40]) s0 4 100 nB sz
        have p6 := add_run ((ByteArray.mk #[117, 82, 76, 40]) ++ s0) (ByteArray.mk #[32, 97, 41, 120]) (by omega) (by decide)
        have p7 := add_run ((ByteArray.mk #[117, 82, 76, 40]) ++ s0) (ByteArray.mk #[32, 97, 41]) (by omega) (by decide)
        have hsl : l.length ≤ 100 := by have := HSZ.out; omega
        have hnl : (M.nmB true).length = 4 := rfl
        have hbl : (M.blB).length = 5 := rfl
        have C1 := SP.out (M.nmB true ++ (M.blB.take a ++ (l ++ (M.blB.take b ++ [41, 120])))) (by simp only [List.length_append, List.length_take, List.length_cons, List.length_nil, hnl, hbl]; omega) _ r1
        have C2 := SP.out (M.nmB true ++ (M.blB.take a ++ (l ++ M.blB.take b))) (by simp only [List.length_append, List.length_take, hnl, hbl]; omega) _ r2
        have C3 := SP.out (M.nmB true ++ (l ++ [32, 97, 41, 120])) (by simp only [List.length_append, List.length_cons, List.length_nil, hnl]; omega) _ r3
        have v1 : bytes (M.nmB true ++ (M.blB.take a ++ (l ++ (M.blB.take b ++ [41, 120])))) = (ByteArray.mk #[117, 82, 76, 40]) ++ SA ++ s0 ++ SB ++ ByteArray.mk #[41, 120] := by
          rw [← HSA.out, ← HSB.out, ← HS.out, show (ByteArray.mk #[117, 82, 76, 40]) = bytes (M.nmB true) from rfl, show ByteArray.mk #[41, 120] = bytes [41, 120] from rfl, bytes_addF, bytes_addF, bytes_addF, bytes_addF]
          simp only [List.append_assoc]
        have v2 : bytes (M.nmB true ++ (M.blB.take a ++ (l ++ M.blB.take b))) = (ByteArray.mk #[117, 82, 76, 40]) ++ SA ++ s0 ++ SB := by
          rw [← HSA.out, ← HSB.out, ← HS.out, show (ByteArray.mk #[117, 82, 76, 40]) = bytes (M.nmB true) from rfl, bytes_addF, bytes_addF, bytes_addF]
          simp only [List.append_assoc]
        have v3 : bytes (M.nmB true ++ (l ++ [32, 97, 41, 120])) = (ByteArray.mk #[117, 82, 76, 40]) ++ s0 ++ ByteArray.mk #[32, 97, 41, 120] := by
          rw [← HS.out, show (ByteArray.mk #[117, 82, 76, 40]) = bytes (M.nmB true) from rfl, show ByteArray.mk #[32, 97, 41, 120] = bytes [32, 97, 41, 120] from rfl, bytes_addF, bytes_addF]
          simp only [List.append_assoc]
        have v4 : bytes (M.nmB true ++ (l ++ [32, 97, 41])) = (ByteArray.mk #[117, 82, 76, 40]) ++ s0 ++ ByteArray.mk #[32, 97, 41] := by
          rw [← HS.out, show (ByteArray.mk #[117, 82, 76, 40]) = bytes (M.nmB true) from rfl, show ByteArray.mk #[32, 97, 41] = bytes [32, 97, 41] from rfl, bytes_addF, bytes_addF]
          simp only [List.append_assoc]
        rw [v1] at C1
        rw [v2] at C2
        rw [v3] at C3
        have V4 := Lib.hid v4
        have C1 := Lib.hid C1
        have C2 := Lib.hid C2
        have C3 := Lib.hid C3
        clear n1 n2 n3 n5 nB r1 r2 r3 v1 v2 v3 v4 hsl hnl hbl
        as_aux_lemma =>
          go_upto_region 13 with (fail)
          refine wp_region_still_tail 12 (by kernel_rfl) (by kernel_rfl) ?_
          simp only [List.take_succ_cons, List.take_zero, List.drop_succ_cons, List.drop_zero]
          repeat still_step
          refine wpStill_nil ?_
          change wpList _ _ _ _ _ w1.drew
          have d1 := HB.out.drew
          go_wp2_with fail
          refine (C1.out _ d1).mono ?_
          rintro e2 w2 ⟨v2, rfl, ho2, hb2⟩
          have d2 := d1.trans (hb2.mono d1.size)
          have l2 := ho2.cs
          clear hb2 ho2 d1 p4
          go_upto_region 14 with (fail)
          refine wp_region_still_tail 11 (by kernel_rfl) (by kernel_rfl) ?_
          simp only [List.take_succ_cons, List.take_zero, List.drop_succ_cons, List.drop_zero]
          repeat still_step
          refine wpStill_nil ?_
          change wpList _ _ _ _ _ w2.drew
          have d3 := d2.drew
          have l3 := cs_keep l2 ((Below.refl _ _).drew)
          go_wp2_with fail
          refine (C2.out _ d3).mono ?_
          rintro e3 w3 ⟨v3, rfl, ho3, hb3⟩
          have d4 := d3.trans (hb3.mono d3.size)
          have l4 := cs_keep l3 hb3
          have m4 := ho3.cs
          clear hb3 ho3 d3 d2 l2 l3 p1 p2 p3
          go_wp2_with fail
          refine (C3.out _ d4).mono ?_
          rintro e4 w4 ⟨v4, rfl, ho4, hb4⟩
          have d5 := d4.trans (hb4.mono d4.size)
          have l5 := cs_keep l4 hb4
          have m5 := cs_keep m4 hb4
          clear hb4 d4 l4 m4 p6
          obtain ⟨ax, cx, rfl, -, -, gx⟩ := cs_cells l5 (n := 2) rfl
          obtain ⟨ay, cy, rfl, -, -, gy⟩ := cs_cells m5 (n := 1) rfl
          obtain ⟨az, cz, rfl, -, -, gz⟩ := cs_cells ho4.cs (n := 2) rfl
          obtain ⟨bx, ox, rfl, hbx, hcx⟩ := gx 0 (by simp)
          obtain ⟨bx', ox', ex, hbx', hcx'⟩ := gx 1 (by simp)
          simp only [Option.some.injEq, Addr.mk.injEq, and_true] at ex
          obtain ⟨rfl, rfl⟩ := ex
          obtain ⟨by', oy, rfl, hby, hcy⟩ := gy 0 (by simp)
          obtain ⟨bz, oz, rfl, hbz, hcz⟩ := gz 0 (by simp)
          have CX := Lib.hid (show ∀ k, k < 13 → w4.cell? ⟨bx, ox + k, none⟩ = (ctv { kind := 7, text := l } 0)[k]? from fun k hk => by have := hcx k hk; rw [Nat.zero_mul, Nat.add_zero] at this; exact this)
          have CY := Lib.hid (show ∀ k, k < 13 → w4.cell? ⟨by', oy + k, none⟩ = (ctv { kind := 7, text := l } 0)[k]? from fun k hk => by have := hcy k hk; rw [Nat.zero_mul, Nat.add_zero] at this; exact this)
          have CZ := Lib.hid (show ∀ k, k < 13 → w4.cell? ⟨bz, oz + k, none⟩ = (ctv (if l = [] then { kind := 7, text := [97] } else { kind := 8, text := M.nmB true ++ (l ++ [32, 97, 41]) }) 0)[k]? from fun k hk => by have := hcz k hk; rw [Nat.zero_mul, Nat.add_zero] at this; exact this)
          have k1 : w4.drew.cell? ⟨bx, ox + 13, none⟩ = some (.int .i64 1) := by have := hcx' 0 (by decide); rw [Nat.one_mul, Nat.add_zero] at this; exact this
          have d7 : (ctv { kind := 7, text := l } 0) = #[.int .i64 7, .string s0, .string ⟨#[]⟩, .bool false, .string ⟨#[]⟩, .string ⟨#[]⟩, .bool false, .bool false, .int .i64 0, .int .i64 0, .int .i64 0, .int .i64 0, .int .i64 0] := by rw [← HS.out]; rfl
          have D7 := Lib.hid d7
          have V8 := Lib.hid (show (ctv { kind := 8, text := M.nmB true ++ (l ++ [32, 97, 41]) } 0) = #[.int .i64 8, .string ((ByteArray.mk #[117, 82, 76, 40]) ++ s0 ++ ByteArray.mk #[32, 97, 41]), .string ⟨#[]⟩, .bool false, .string ⟨#[]⟩, .string ⟨#[]⟩, .bool false, .bool false, .int .i64 0, .int .i64 0, .int .i64 0, .int .i64 0, .int .i64 0] by rw [← V4.out]; rfl)
          clear gx gy gz hcx hcx' hcy hcz l5 m5 ho4 d7 hbx hbx' hby hbz
          go_upto_region 16 with (fail)
          refine wp_region_still_lit (by kernel_rfl) (by kernel_rfl) ?_
          have d6 := d5.drew
          iterate 6 still_step
          refine still_ldM rfl _ rfl bx ox _ rfl rfl CX.out ?_
          iterate 2 still_step
          refine still_cmp rfl false _ _ rfl { kind := 7, text := l } 0 _ _ rfl rfl rfl D7.out.symm ?_
          iterate 16 still_step
          refine still_ldM rfl _ rfl by' oy _ rfl rfl CY.out ?_
          iterate 2 still_step
          refine still_ldM rfl _ rfl bx ox _ rfl rfl CX.out ?_
          refine still_cmp rfl false _ _ rfl { kind := 7, text := l } 0 _ _ rfl rfl rfl rfl ?_
          iterate 6 still_step
          refine wpStill_nil ?_
          change Exit.then _ _ _ _ w4.drew
          have hfin := d6
          have CZ' := CZ.out
          have hTL : s0.toList = l := by rw [← HS.out, ByteArray.toList_eq, bytes_list]
          clear k1 d5 d6
          rcases Classical.em (l = []) with he | he
          · rw [if_pos he] at CZ'
            rw [he] at hTL
            have CZ2 : ∀ k, k < 13 → w4.drew.cell? ⟨bz, oz + k, none⟩ = (ctv { kind := 7, text := [97] } 0)[k]? := CZ'
            clear CZ' he
            as_aux_lemma =>
              go_wp2_with (first | (refine wpl_ldM rfl _ rfl bz oz _ rfl rfl CZ2 ?_) | (refine wpl_cmp rfl true _ _ rfl { kind := 7, text := [97] } 0 _ _ rfl rfl rfl rfl ?_))
              go_ret
              exact ⟨rfl, hfin⟩
          · rw [if_neg he] at CZ'
            obtain ⟨ua, uu, hu⟩ := List.exists_cons_of_ne_nil he
            have CZ2 : ∀ k, k < 13 → w4.drew.cell? ⟨bz, oz + k, none⟩ = (ctv { kind := 8, text := M.nmB true ++ (l ++ [32, 97, 41]) } 0)[k]? := CZ'
            have CZ3 := Lib.hid CZ2
            rw [hu] at hTL
            clear CZ' he CZ2 hu
            as_aux_lemma =>
              go_wp2_with (first | (refine wpl_ldM rfl _ rfl bz oz _ rfl rfl CZ3.out ?_) | (refine wpl_cmp rfl true _ _ rfl { kind := 8, text := M.nmB true ++ (l ++ [32, 97, 41]) } 0 _ _ rfl rfl rfl V8.out.symm ?_))
              go_ret
              exact ⟨rfl, hfin⟩
      | false =>
        obtain ⟨z1, r1⟩ := M.url_one false a b l HGL.out
        have r2 := M.url_two false a b l HGL.out
        obtain ⟨z3, r3⟩ := M.url_bad false l HGL.out
        have nB : ((ByteArray.mk #[117, 114, 108, 40])).size ≤ 4 := by decide
        have p1 := add_run (ByteArray.mk #[117, 114, 108, 40]) SA (by omega) (by omega)
        have n1 := sizes_add (ByteArray.mk #[117, 114, 108, 40]) SA 4 5 nB sA
        have p2 := add_run ((ByteArray.mk #[117, 114, 108, 40]) ++ SA) s0 (by omega) (by omega)
        have n2 := sizes_add ((ByteArray.mk #[117, 114, 108, 40]) ++ SA) s0 9 100 n1 sz
        have p3 := add_run ((ByteArray.mk #[117, 114, 108, 40]) ++ SA ++ s0) SB (by omega) (by omega)
        have n3 := sizes_add ((ByteArray.mk #[117, 114, 108, 40]) ++ SA ++ s0) SB 109 5 n2 sB
        have p4 := add_run ((ByteArray.mk #[117, 114, 108, 40]) ++ SA ++ s0 ++ SB) (ByteArray.mk #[41, 120]) (by omega) (by decide)
        have p5 := add_run (ByteArray.mk #[117, 114, 108, 40]) s0 (by omega) (by omega)
        have n5 := sizes_add (ByteArray.mk #[117, 114, 108, 40]) s0 4 100 nB sz
        have p6 := add_run ((ByteArray.mk #[117, 114, 108, 40]) ++ s0) (ByteArray.mk #[32, 97, 41, 120]) (by omega) (by decide)
        have p7 := add_run ((ByteArray.mk #[117, 114, 108, 40]) ++ s0) (ByteArray.mk #[32, 97, 41]) (by omega) (by decide)
        have hsl : l.length ≤ 100 := by have := HSZ.out; omega
        have hnl : (M.nmB false).length = 4 := rfl
        have hbl : (M.blB).length = 5 := rfl
        have C1 := SP.out (M.nmB false ++ (M.blB.take a ++ (l ++ (M.blB.take b ++ [41, 120])))) (by simp only [List.length_append, List.length_take, List.length_cons, List.length_nil, hnl, hbl]; omega) _ r1
        have C2 := SP.out (M.nmB false ++ (M.blB.take a ++ (l ++ M.blB.take b))) (by simp only [List.length_append, List.length_take, hnl, hbl]; omega) _ r2
        have C3 := SP.out (M.nmB false ++ (l ++ [32, 97, 41, 120])) (by simp only [List.length_append, List.length_cons, List.length_nil, hnl]; omega) _ r3
        have v1 : bytes (M.nmB false ++ (M.blB.take a ++ (l ++ (M.blB.take b ++ [41, 120])))) = (ByteArray.mk #[117, 114, 108, 40]) ++ SA ++ s0 ++ SB ++ ByteArray.mk #[41, 120] := by
          rw [← HSA.out, ← HSB.out, ← HS.out, show (ByteArray.mk #[117, 114, 108, 40]) = bytes (M.nmB false) from rfl, show ByteArray.mk #[41, 120] = bytes [41, 120] from rfl, bytes_addF, bytes_addF, bytes_addF, bytes_addF]
          simp only [List.append_assoc]
        have v2 : bytes (M.nmB false ++ (M.blB.take a ++ (l ++ M.blB.take b))) = (ByteArray.mk #[117, 114, 108, 40]) ++ SA ++ s0 ++ SB := by
          rw [← HSA.out, ← HSB.out, ← HS.out, show (ByteArray.mk #[117, 114, 108, 40]) = bytes (M.nmB false) from rfl, bytes_addF, bytes_addF, bytes_addF]
          simp only [List.append_assoc]
        have v3 : bytes (M.nmB false ++ (l ++ [32, 97, 41, 120])) = (ByteArray.mk #[117, 114, 108, 40]) ++ s0 ++ ByteArray.mk #[32, 97, 41, 120] := by
          rw [← HS.out, show (ByteArray.mk #[117, 114, 108, 40]) = bytes (M.nmB false) from rfl, show ByteArray.mk #[32, 97, 41, 120] = bytes [32, 97, 41, 120] from rfl, bytes_addF, bytes_addF]
          simp only [List.append_assoc]
        have v4 : bytes (M.nmB false ++ (l ++ [32, 97, 41])) = (ByteArray.mk #[117, 114, 108, 40]) ++ s0 ++ ByteArray.mk #[32, 97, 41] := by
          rw [← HS.out, show (ByteArray.mk #[117, 114, 108, 40]) = bytes (M.nmB false) from rfl, show ByteArray.mk #[32, 97, 41] = bytes [32, 97, 41] from rfl, bytes_addF, bytes_addF]
          simp only [List.append_assoc]
        rw [v1] at C1
        rw [v2] at C2
        rw [v3] at C3
        have V4 := Lib.hid v4
        have C1 := Lib.hid C1
        have C2 := Lib.hid C2
        have C3 := Lib.hid C3
        clear n1 n2 n3 n5 nB r1 r2 r3 v1 v2 v3 v4 hsl hnl hbl
        as_aux_lemma =>
          go_upto_region 13 with (fail)
          refine wp_region_still_tail 12 (by kernel_rfl) (by kernel_rfl) ?_
          simp only [List.take_succ_cons, List.take_zero, List.drop_succ_cons, List.drop_zero]
          repeat still_step
          refine wpStill_nil ?_
          change wpList _ _ _ _ _ w1.drew
          have d1 := HB.out.drew
          go_wp2_with fail
          refine (C1.out _ d1).mono ?_
          rintro e2 w2 ⟨v2, rfl, ho2, hb2⟩
          have d2 := d1.trans (hb2.mono d1.size)
          have l2 := ho2.cs
          clear hb2 ho2 d1 p4
          go_upto_region 14 with (fail)
          refine wp_region_still_tail 11 (by kernel_rfl) (by kernel_rfl) ?_
          simp only [List.take_succ_cons, List.take_zero, List.drop_succ_cons, List.drop_zero]
          repeat still_step
          refine wpStill_nil ?_
          change wpList _ _ _ _ _ w2.drew
          have d3 := d2.drew
          have l3 := cs_keep l2 ((Below.refl _ _).drew)
          go_wp2_with fail
          refine (C2.out _ d3).mono ?_
          rintro e3 w3 ⟨v3, rfl, ho3, hb3⟩
          have d4 := d3.trans (hb3.mono d3.size)
          have l4 := cs_keep l3 hb3
          have m4 := ho3.cs
          clear hb3 ho3 d3 d2 l2 l3 p1 p2 p3
          go_wp2_with fail
          refine (C3.out _ d4).mono ?_
          rintro e4 w4 ⟨v4, rfl, ho4, hb4⟩
          have d5 := d4.trans (hb4.mono d4.size)
          have l5 := cs_keep l4 hb4
          have m5 := cs_keep m4 hb4
          clear hb4 d4 l4 m4 p6
          obtain ⟨ax, cx, rfl, -, -, gx⟩ := cs_cells l5 (n := 2) rfl
          obtain ⟨ay, cy, rfl, -, -, gy⟩ := cs_cells m5 (n := 1) rfl
          obtain ⟨az, cz, rfl, -, -, gz⟩ := cs_cells ho4.cs (n := 2) rfl
          obtain ⟨bx, ox, rfl, hbx, hcx⟩ := gx 0 (by simp)
          obtain ⟨bx', ox', ex, hbx', hcx'⟩ := gx 1 (by simp)
          simp only [Option.some.injEq, Addr.mk.injEq, and_true] at ex
          obtain ⟨rfl, rfl⟩ := ex
          obtain ⟨by', oy, rfl, hby, hcy⟩ := gy 0 (by simp)
          obtain ⟨bz, oz, rfl, hbz, hcz⟩ := gz 0 (by simp)
          have CX := Lib.hid (show ∀ k, k < 13 → w4.cell? ⟨bx, ox + k, none⟩ = (ctv { kind := 7, text := l } 0)[k]? from fun k hk => by have := hcx k hk; rw [Nat.zero_mul, Nat.add_zero] at this; exact this)
          have CY := Lib.hid (show ∀ k, k < 13 → w4.cell? ⟨by', oy + k, none⟩ = (ctv { kind := 7, text := l } 0)[k]? from fun k hk => by have := hcy k hk; rw [Nat.zero_mul, Nat.add_zero] at this; exact this)
          have CZ := Lib.hid (show ∀ k, k < 13 → w4.cell? ⟨bz, oz + k, none⟩ = (ctv (if l = [] then { kind := 7, text := [97] } else { kind := 8, text := M.nmB false ++ (l ++ [32, 97, 41]) }) 0)[k]? from fun k hk => by have := hcz k hk; rw [Nat.zero_mul, Nat.add_zero] at this; exact this)
          have k1 : w4.drew.cell? ⟨bx, ox + 13, none⟩ = some (.int .i64 1) := by have := hcx' 0 (by decide); rw [Nat.one_mul, Nat.add_zero] at this; exact this
          have d7 : (ctv { kind := 7, text := l } 0) = #[.int .i64 7, .string s0, .string ⟨#[]⟩, .bool false, .string ⟨#[]⟩, .string ⟨#[]⟩, .bool false, .bool false, .int .i64 0, .int .i64 0, .int .i64 0, .int .i64 0, .int .i64 0] := by rw [← HS.out]; rfl
          have D7 := Lib.hid d7
          have V8 := Lib.hid (show (ctv { kind := 8, text := M.nmB false ++ (l ++ [32, 97, 41]) } 0) = #[.int .i64 8, .string ((ByteArray.mk #[117, 114, 108, 40]) ++ s0 ++ ByteArray.mk #[32, 97, 41]), .string ⟨#[]⟩, .bool false, .string ⟨#[]⟩, .string ⟨#[]⟩, .bool false, .bool false, .int .i64 0, .int .i64 0, .int .i64 0, .int .i64 0, .int .i64 0] by rw [← V4.out]; rfl)
          clear gx gy gz hcx hcx' hcy hcz l5 m5 ho4 d7 hbx hbx' hby hbz
          go_upto_region 16 with (fail)
          refine wp_region_still_lit (by kernel_rfl) (by kernel_rfl) ?_
          have d6 := d5.drew
          iterate 6 still_step
          refine still_ldM rfl _ rfl bx ox _ rfl rfl CX.out ?_
          iterate 2 still_step
          refine still_cmp rfl false _ _ rfl { kind := 7, text := l } 0 _ _ rfl rfl rfl D7.out.symm ?_
          iterate 16 still_step
          refine still_ldM rfl _ rfl by' oy _ rfl rfl CY.out ?_
          iterate 2 still_step
          refine still_ldM rfl _ rfl bx ox _ rfl rfl CX.out ?_
          refine still_cmp rfl false _ _ rfl { kind := 7, text := l } 0 _ _ rfl rfl rfl rfl ?_
          iterate 6 still_step
          refine wpStill_nil ?_
          change Exit.then _ _ _ _ w4.drew
          have hfin := d6
          have CZ' := CZ.out
          have hTL : s0.toList = l := by rw [← HS.out, ByteArray.toList_eq, bytes_list]
          clear k1 d5 d6
          rcases Classical.em (l = []) with he | he
          · rw [if_pos he] at CZ'
            rw [he] at hTL
            have CZ2 : ∀ k, k < 13 → w4.drew.cell? ⟨bz, oz + k, none⟩ = (ctv { kind := 7, text := [97] } 0)[k]? := CZ'
            clear CZ' he
            as_aux_lemma =>
              go_wp2_with (first | (refine wpl_ldM rfl _ rfl bz oz _ rfl rfl CZ2 ?_) | (refine wpl_cmp rfl true _ _ rfl { kind := 7, text := [97] } 0 _ _ rfl rfl rfl rfl ?_))
              go_ret
              exact ⟨rfl, hfin⟩
          · rw [if_neg he] at CZ'
            obtain ⟨ua, uu, hu⟩ := List.exists_cons_of_ne_nil he
            have CZ2 : ∀ k, k < 13 → w4.drew.cell? ⟨bz, oz + k, none⟩ = (ctv { kind := 8, text := M.nmB false ++ (l ++ [32, 97, 41]) } 0)[k]? := CZ'
            have CZ3 := Lib.hid CZ2
            rw [hu] at hTL
            clear CZ' he CZ2 hu
            as_aux_lemma =>
              go_wp2_with (first | (refine wpl_ldM rfl _ rfl bz oz _ rfl rfl CZ3.out ?_) | (refine wpl_cmp rfl true _ _ rfl { kind := 8, text := M.nmB false ++ (l ++ [32, 97, 41]) } 0 _ _ rfl rfl rfl V8.out.symm ?_))
              go_ret
              exact ⟨rfl, hfin⟩
end Go.Proofs.YtpecaalpbeoolaaGreatDoor
