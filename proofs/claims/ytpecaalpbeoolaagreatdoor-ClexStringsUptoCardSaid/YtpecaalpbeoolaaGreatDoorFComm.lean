/- The walk of ClexComments. -/
import Derived.Test.YtpecaalpbeoolaaGreatDoorFRises
import Derived.Test.YtpecaalpbeoolaaGreatDoorFMath5
import Derived.Test.YtpecaalpbeoolaaGreatDoorFRow
namespace Go.Proofs.YtpecaalpbeoolaaGreatDoor
open Go.RowKit
set_option linter.unusedVariables false
set_option linter.unusedSimpArgs false

theorem bytes_selfF (s : ByteArray) : bytes s.data.toList = s := by apply ByteArray.ext; simp [bytes]
theorem bytes_addF (a b : List UInt8) : bytes a ++ bytes b = bytes (a ++ b) := by unfold bytes; rw [ByteArray.mk_append_mk]
/-- All cells of a token that lies somewhere. -/
theorem cs_cells {w : World} {v : Value} {l : List (M.CT × Int)} (h : Cs w v l) {n : Nat} (hn : l.length = n) : ∃ a cap, v = .slice a n cap ∧ n ≤ cap ∧ cap ≤ maxLen ∧ ∀ j (hj : j < l.length), ∃ b off, a = some ⟨b, off, none⟩ ∧ b < w.heap.size ∧
    ∀ k, k < 13 → w.cell? ⟨b, off + j * 13 + k, none⟩ = (ctv (l[j]).1 (l[j]).2)[k]? := by
  obtain ⟨a, cap, rfl, h1, h2, h3⟩ := cs_open h hn
  refine ⟨a, cap, rfl, h1, h2, fun j hj => ?_⟩
  obtain ⟨b, off, rfl, hb, hc⟩ := h3 j hj
  refine ⟨b, off, rfl, hb, fun k hk => ?_⟩
  have e : (ctv (l[j]).1 (l[j]).2)[k]? = some ((ctv (l[j]).1 (l[j]).2)[k]'(by rw [ctv_size]; exact hk)) := Array.getElem?_eq_getElem _
  rw [e]; exact hc k _ e
def goodC (x : UInt8) : Prop := M.Pl x ∧ x ≠ 42
set_option maxRecDepth 100000 in
set_option maxHeartbeats 8000000 in
theorem ccomm_walk (s0 : ByteArray) (a1 : Option Addr) (len1 cap1 : Nat) (l1 : List UInt8) (w : World) {P0 : Prop} (m0 : P0) (e1 : l1.length = len1) (b1 : Bs w (.slice a1 len1 cap1) l1) (n1 : ∀ n c, Value.slice a1 len1 cap1 = .slice none n c → c = 0) (hT : Tabs w) :
    Calls Tryz.prog 8 #[.string s0, .slice a1 len1 cap1] w fun e w' => e = .returned (.bool true) ∧ Below w.heap.size w w' := by
  have al := Lib.hid (alive_any w hT)
  clear m0
  by_cases h0 : 100 < s0.size
  · have h0' : (100 : Int) < s0.size := by omega
    clear b1 n1 hT e1
    go_enter Tryz.func8, Tryz.ntmps8
    go_wp2_with fail
    refine al.out.mono ?_
    rintro e w1 ⟨rfl, hb⟩
    go_wp2
    go_ret
    exact ⟨rfl, hb⟩
  by_cases h1 : 300 < len1
  · have h1' : (300 : Int) < len1 := by omega
    have q1 : decide ((100 : Int) < s0.size) = false := by simp; omega
    clear b1 n1 hT e1 h0
    go_enter Tryz.func8, Tryz.ntmps8
    go_wp2_with fail
    refine al.out.mono ?_
    rintro e w1 ⟨rfl, hb⟩
    go_wp2
    go_ret
    exact ⟨rfl, hb⟩
  have q1 : decide ((100 : Int) < s0.size) = false := by simp; omega
  have q2 : decide ((300 : Int) < len1) = false := by simp; omega
  have k1 : len1 ≤ 300 := by omega
  have hs := bytes_selfF s0
  obtain ⟨l, hl⟩ : ∃ l, s0.data.toList = l := ⟨_, rfl⟩
  rw [hl] at hs
  obtain ⟨hsz, hget⟩ := get_ofF l s0 hs
  have sz : s0.size ≤ 100 := by omega
  obtain ⟨T2, hT2⟩ : ∃ T, M.tksC (M.rn l1 0) = T := ⟨_, rfl⟩
  have hN2 : T2.length ≤ 300 := by
    have h1 := M.rn_len l1 l1.length 0 (by omega)
    have h2 := tksC_len (M.rn l1 0) (M.rn l1 0).length 0 (by omega)
    rw [List.drop_zero, hT2] at h2
    omega
  have hpos := M.lex_pos l1
  rw [hT2, e1] at hpos
  have HPOS := Lib.hid (show ∀ j (hj : j < T2.length), 0 ≤ (T2[j]).2 ∧ (T2[j]).2 ≤ 300 from fun j hj => by have := hpos _ (List.getElem_mem hj); omega)
  clear hpos
  have B1 := Lib.hid b1
  have HT := Lib.hid hT
  have HS := Lib.hid hs
  have HSZ := Lib.hid hsz
  have HGET := Lib.hid hget
  have SP2 := Lib.hid (fun W (hW : Below w.heap.size w W) => flsplit_any l1 T2 W (hT.keep hW) (by omega) hT2)
  have SP1 := Lib.hid (fun (hg : ∀ x ∈ l, goodC x) W (hW : Below w.heap.size w W) => flsplit_any (([47, 42] ++ l ++ [42, 47]) ++ l1) (({ kind := 25, text := l }, 0) :: T2.map fun x => (x.1, x.2 + ((l.length + 4 : Nat) : Int))) W (hT.keep hW) (by simp; omega) (by rw [M.comment_tks l l1 hg, hT2]))
  obtain ⟨N, hN⟩ : ∃ N, T2.length = N := ⟨_, rfl⟩
  rw [hN] at hN2
  have HN := Lib.hid hN
  have E1 := Lib.hid e1
  clear b1 n1 hT h0 h1 hs hl hsz hget hT2 e1 hN
  go_enter Tryz.func8, Tryz.ntmps8
  go_wp2_with fail
  refine al.out.mono ?_
  rintro e w1 ⟨rfl, hb⟩
  have HB := Lib.hid hb
  clear hb
  go_wp2
  go_loop [6] (fun iv => ∃ k : Nat, iv = .int .i64 (k : Int) ∧ k ≤ s0.size ∧ ∀ j (h : j < l.length), j < k → goodC l[j]) (fun iv => s0.size - (intOf iv).toNat)
  case atStart => exact ⟨0, rfl, by omega, fun j h hj => by omega⟩
  case round =>
    obtain ⟨k, rfl, hk, hall⟩ := hrel
    have HA := Lib.hid hall
    clear hall
    by_cases hlt : k < s0.size
    · have hkl : k < l.length := by rw [← HSZ.out]; exact hlt
      have hsk := HGET.out k hlt hkl
      obtain ⟨x, hx⟩ : ∃ x, l[k] = x := ⟨_, rfl⟩
      rw [hx] at hsk
      have HX := Lib.hid hx
      have k0 : (0 : Int) ≤ k := by omega
      have k2 : (k : Int) < s0.size := by omega
      have hub := x.toNat_lt
      have hgood : x.toNat ≠ 42 → x.toNat < 128 → x.toNat ≠ 0 → x.toNat ≠ 12 → x.toNat ≠ 13 → goodC x := fun h1 h2 h3 h4 h5 => ⟨⟨h2, fun e => h3 (by rw [e]; rfl), fun e => h4 (by rw [e]; rfl), fun e => h5 (by rw [e]; rfl)⟩, fun e => h1 (by rw [e]; rfl)⟩
      have HG := Lib.hid hgood
      clear hgood hx
      by_cases z0 : x.toNat = 42
      · have t0 : ((x.toNat : Int) == 42) = true := by rw [beq_iff_eq]; omega
        clear z0 
        as_aux_lemma =>
          go_wp2
          go_ret
          exact ⟨rfl, HB.out⟩
      · have t0 : ((x.toNat : Int) == 42) = false := by rw [beq_eq_false_iff_ne]; omega
        by_cases z1 : 128 ≤ x.toNat
        · have t1 : decide ((128 : Int) ≤ (x.toNat : Int)) = true := by simp; omega
          clear z1 z0
          as_aux_lemma =>
            go_wp2
            go_ret
            exact ⟨rfl, HB.out⟩
        · have t1 : decide ((128 : Int) ≤ (x.toNat : Int)) = false := by simp; omega
          by_cases z2 : x.toNat = 0
          · have t2 : ((x.toNat : Int) == 0) = true := by rw [beq_iff_eq]; omega
            clear z2 z0 z1
            as_aux_lemma =>
              go_wp2
              go_ret
              exact ⟨rfl, HB.out⟩
          · have t2 : ((x.toNat : Int) == 0) = false := by rw [beq_eq_false_iff_ne]; omega
            by_cases z3 : x.toNat = 12
            · have t3 : ((x.toNat : Int) == 12) = true := by rw [beq_iff_eq]; omega
              clear z3 z0 z1 z2
              as_aux_lemma =>
                go_wp2
                go_ret
                exact ⟨rfl, HB.out⟩
            · have t3 : ((x.toNat : Int) == 12) = false := by rw [beq_eq_false_iff_ne]; omega
              by_cases z4 : x.toNat = 13
              · have t4 : ((x.toNat : Int) == 13) = true := by rw [beq_iff_eq]; omega
                clear z4 z0 z1 z2 z3
                as_aux_lemma =>
                  go_wp2
                  go_ret
                  exact ⟨rfl, HB.out⟩
              · have t4 : ((x.toNat : Int) == 13) = false := by rw [beq_eq_false_iff_ne]; omega
                have hg := HG.out z0 (by omega) z2 z3 z4
                clear z0 z1 z2 z3 z4
                as_aux_lemma =>
                  go_wp2
                  go_round
                  case rel =>
                    refine ⟨k + 1, by go_num, by omega, fun j h hj => ?_⟩
                    by_cases hjk : j < k
                    · exact HA.out j h hjk
                    · obtain rfl : j = k := by omega
                      rw [HX.out]; exact hg
                  case measure => simp [intOf]; omega
    · have hgl : ∀ x ∈ l, goodC x := by
        intro x hx
        obtain ⟨j, hj, e⟩ := List.getElem_of_mem hx
        rw [← e]; exact HA.out j hj (by have := HSZ.out; omega)
      have k2 : ¬ (k : Int) < s0.size := by omega
      have S1 := Lib.hid (SP1.out hgl w1 HB.out)
      have hcv := conv_slice (B1.out.keep HB.out)
      obtain ⟨S2, hS2⟩ : ∃ S, bytes l1 = S := ⟨_, rfl⟩
      rw [hS2] at hcv SP2
      have HS2 := Lib.hid hS2
      have z2 : S2.size = len1 := by rw [← hS2, bytes_size]; exact E1.out
      have a1 : ∀ W, (Op.stringOp .add (ByteArray.mk #[47, 42]) s0).run Tryz.prog W = .ok (.string (ByteArray.mk #[47, 42] ++ s0)) W := fun W => run_string_add W _ _ (by rw [show (ByteArray.mk #[47, 42]).size = 2 from rfl]; decide) (by omega)
      have z3 : (ByteArray.mk #[47, 42] ++ s0).size ≤ 102 := by rw [ByteArray.size_append, show (ByteArray.mk #[47, 42]).size = 2 from rfl]; omega
      have a2 : ∀ W, (Op.stringOp .add (ByteArray.mk #[47, 42] ++ s0) (ByteArray.mk #[42, 47])).run Tryz.prog W = .ok (.string (ByteArray.mk #[47, 42] ++ s0 ++ ByteArray.mk #[42, 47])) W := fun W => run_string_add W _ _ (by omega) (by rw [show (ByteArray.mk #[42, 47]).size = 2 from rfl]; decide)
      have z4 : (ByteArray.mk #[47, 42] ++ s0 ++ ByteArray.mk #[42, 47]).size ≤ 104 := by rw [ByteArray.size_append, show (ByteArray.mk #[42, 47]).size = 2 from rfl]; omega
      have a3 : ∀ W, (Op.stringOp .add (ByteArray.mk #[47, 42] ++ s0 ++ ByteArray.mk #[42, 47]) S2).run Tryz.prog W = .ok (.string (ByteArray.mk #[47, 42] ++ s0 ++ ByteArray.mk #[42, 47] ++ S2)) W := fun W => run_string_add W _ _ (by omega) (by omega)
      have hcat : bytes (([47, 42] ++ l ++ [42, 47]) ++ l1) = ByteArray.mk #[47, 42] ++ s0 ++ ByteArray.mk #[42, 47] ++ S2 := by
        rw [← hS2, ← HS.out, show ByteArray.mk #[47, 42] = bytes [47, 42] from rfl, show ByteArray.mk #[42, 47] = bytes [42, 47] from rfl, bytes_addF, bytes_addF, bytes_addF]
      rw [hcat] at S1
      have hN1 : (({ kind := 25, text := l }, 0) :: T2.map fun x => (x.1, x.2 + ((l.length + 4 : Nat) : Int)) : List (M.CT × Int)).length = N + 1 := by simp [HN.out]
      have HN1 := Lib.hid hN1
      clear hgl hcat z2 z3 z4 hS2 hlt hN1
      go_wp2_with fail
      refine S1.out.mono ?_
      rintro e2 w2 ⟨v2, rfl, ho2, hb2⟩
      have d2 := HB.out.trans (hb2.mono HB.out.size)
      have l2 := ho2.cs
      have hcv2 := conv_slice (B1.out.keep d2)
      rw [HS2.out] at hcv2
      clear hcv hb2 ho2 a1 a2 a3
      go_wp2_with fail
      refine (SP2.out w2 d2).mono ?_
      rintro e3 w3 ⟨v3, rfl, ho3, hb3⟩
      have d3 := d2.trans (hb3.mono d2.size)
      have l3 := cs_keep l2 hb3
      obtain ⟨ax, cx, rfl, gx1, gx2, gx3⟩ := cs_cells l3 HN1.out
      obtain ⟨ay, cy, rfl, gy1, gy2, gy3⟩ := cs_cells ho3.cs HN.out
      have d4 := Lib.hid d3
      have hT1 : 0 < (({ kind := 25, text := l }, 0) :: T2.map fun x => (x.1, x.2 + ((l.length + 4 : Nat) : Int)) : List (M.CT × Int)).length := by simp
      obtain ⟨bx, ox, rfl, hbx, hcx⟩ := gx3 0 hT1
      have H0 := Lib.hid (show ∀ k, k < 13 → w3.cell? ⟨bx, ox + k, none⟩ = (ctv { kind := 25, text := l } 0)[k]? by
        intro k hk
        have := hcx k hk
        rw [Nat.zero_mul, Nat.add_zero] at this
        exact this)
      have HX1 := Lib.hid (show ∀ j (hj : j < T2.length), ∀ k, k < 13 → w3.cell? ⟨bx, ox + (j + 1) * 13 + k, none⟩ = (ctv (T2[j]).1 ((T2[j]).2 + ((l.length + 4 : Nat) : Int)))[k]? by
        intro j hj k hk
        obtain ⟨b', o', e, _, hc⟩ := gx3 (j + 1) (by simpa using hj)
        simp only [Option.some.injEq, Addr.mk.injEq, and_true] at e
        obtain ⟨rfl, rfl⟩ := e
        have := hc k hk
        rw [this]
        simp)
      have HY1 := Lib.hid gy3
      have d0 : (ctv { kind := 25, text := l } 0) = #[.int .i64 25, .string s0, .string ⟨#[]⟩, .bool false, .string ⟨#[]⟩, .string ⟨#[]⟩, .bool false, .bool false, .int .i64 0, .int .i64 0, .int .i64 0, .int .i64 0, .int .i64 0] := by rw [← HS.out]; rfl
      have D0 := Lib.hid d0
      have N0 : (0 : Int) < (N : Int) + 1 := by omega
      have hb3' : bx < w3.heap.size := hbx
      have ND := Lib.hid (fun (j : Nat) (hj : j < T2.length) => HPOS.out j hj)
      clear gx3 hcx l3 l2 ho3 hb3 d3 d2 hcv2 d0 hT1 gy3 gx1 gx2 gy1 gy2
      go_wp2_with (first | (refine wpl_ldM rfl _ rfl bx ox _ rfl rfl H0.out ?_) | (refine wpl_cmp rfl false _ _ rfl { kind := 25, text := l } 0 _ _ rfl rfl rfl D0.out.symm ?_))
      go_loopw [9, 10] (fun iv _ wr => ∃ k : Nat, iv = .int .i64 (k : Int) ∧ k ≤ N ∧ Below w3.heap.size w3 wr) (fun iv _ _ => N - (intOf iv).toNat)
      case atStart => exact ⟨0, rfl, by omega, Below.refl _ _⟩
      case round =>
        obtain ⟨k, rfl, hk, hbr⟩ := hrel
        have HBR := Lib.hid hbr
        have hfin := Lib.hid (d4.out.trans (hbr.mono d4.out.size))
        clear hbr
        by_cases hlt : k < N
        · have hkT : k < T2.length := by rw [HN.out]; exact hlt
          obtain ⟨by', oy, rfl, hby, hcy⟩ := HY1.out k hkT
          have hcx := HX1.out k hkT
          obtain ⟨p0, p1⟩ := ND.out k hkT
          obtain ⟨t, z, htz⟩ : ∃ t z, T2[k] = (t, z) := ⟨_, _, rfl⟩
          rw [htz] at hcy hcx p0 p1
          simp only at hcy hcx p0 p1
          have CY := Lib.hid (fun W (hW : Below w3.heap.size w3 W) k' (hk' : k' < 13) => (hW.cell (p := ⟨by', oy + k * 13 + k', none⟩) hby).trans (hcy k' hk'))
          have CX := Lib.hid (fun W (hW : Below w3.heap.size w3 W) k' (hk' : k' < 13) => (hW.cell (p := ⟨bx, ox + (k + 1) * 13 + k', none⟩) hb3').trans (hcx k' hk'))
          have hzz : z + ((l.length + 4 : Nat) : Int) = z + (s0.size : Int) + 4 := by have := HSZ.out; omega
          rw [hzz] at CX
          have i1 : (k : Int) < N := by omega
          have i0 : (0 : Int) ≤ k := by omega
          have i2 : (k : Int) + 1 < N + 1 := by omega
          have i3 : ((k : Int) + 1).toNat = k + 1 := by omega
          have i4 : (0 : Int) ≤ (k : Int) + 1 := by omega
          have i5 : (k : Int) + 1 ≤ 301 := by omega
          clear hcy hcx htz hzz hkT
          as_aux_lemma =>
            go_upto_region 17 with (first | (refine wpl_ldM rfl _ rfl by' (oy + k * 13) _ rfl rfl (CY.out _ HBR.out) ?_) | (refine wpl_stT rfl _ _ rfl wr.heap.size (ctv {} 0) (ctv t z) rfl rfl (CB.new wr _) rfl rfl (ctv_one _ _) ?_))
            have cbA : CB ((wr.alloc (.cells #[.int .i64 0, .string ⟨#[]⟩, .string ⟨#[]⟩, .bool false, .string ⟨#[]⟩, .string ⟨#[]⟩, .bool false, .bool false, .int .i64 0, .int .i64 0, .int .i64 0, .int .i64 0, .int .i64 0] 36)).setRow wr.heap.size (ctv t z)) wr.heap.size (ctv t z) := (CB.new wr _).set _
            have hA : Below w3.heap.size w3 ((wr.alloc (.cells #[.int .i64 0, .string ⟨#[]⟩, .string ⟨#[]⟩, .bool false, .string ⟨#[]⟩, .string ⟨#[]⟩, .bool false, .bool false, .int .i64 0, .int .i64 0, .int .i64 0, .int .i64 0, .int .i64 0] 36)).setRow wr.heap.size (ctv t z)) := below_setRow (HBR.out.alloc HBR.out.size _) HBR.out.size _
            obtain ⟨W4, hW4⟩ : ∃ W, (wr.alloc (.cells #[.int .i64 0, .string ⟨#[]⟩, .string ⟨#[]⟩, .bool false, .string ⟨#[]⟩, .string ⟨#[]⟩, .bool false, .bool false, .int .i64 0, .int .i64 0, .int .i64 0, .int .i64 0, .int .i64 0] 36)).setRow wr.heap.size (ctv t z) = W := ⟨_, rfl⟩
            rw [hW4] at cbA hA ⊢
            obtain ⟨b8, hb8⟩ : ∃ b, wr.heap.size = b := ⟨_, rfl⟩
            have z8 : w3.heap.size ≤ b8 := by rw [← hb8]; exact HBR.out.size
            rw [hb8] at cbA ⊢
            have g12 : W4.cell? ⟨b8, 12, none⟩ = some (.int .i64 z) := cbA.cell 12
            have f12 := cbA.free 12
            clear hW4 hb8
            go_upto_region 18 with (fail)
            have cbB : CB (W4.setCell ⟨b8, 12, none⟩ (.int .i64 (z + s0.size + 4))) b8 (ctv t (z + s0.size + 4)) := cbA.put 12 _
            have hB : Below w3.heap.size w3 (W4.setCell ⟨b8, 12, none⟩ (.int .i64 (z + s0.size + 4))) := hA.setCell z8 _
            obtain ⟨W5, hW5⟩ : ∃ W, W4.setCell ⟨b8, 12, none⟩ (.int .i64 (z + s0.size + 4)) = W := ⟨_, rfl⟩
            rw [hW5] at cbB hB ⊢
            clear hW5 g12 f12 cbA hA
            have iw : IntKind.i64.wrap ((k : Int) + 1) = (k : Int) + 1 := by rw [IntKind.wrap_i64]; omega
            refine wp_region_still_lit (by kernel_rfl) (by kernel_rfl) ?_
            have hB' := hB.drew
            have cbB' : CB W5.drew b8 (ctv t (z + s0.size + 4)) := cbB
            still_step
            still_step
            still_step
            still_step
            refine still_ldM rfl _ rfl bx (ox + (k + 1) * 13) _ rfl rfl (CX.out W5.drew hB') ?_
            refine still_ldT rfl _ rfl b8 _ rfl cbB' rfl ?_
            refine still_cmp rfl false _ _ rfl t (z + s0.size + 4) _ _ rfl rfl rfl rfl ?_
            refine wpStill_nil ?_
            go_wp2
            go_roundw
            case rel => exact ⟨k + 1, by go_num, by omega, hB'⟩
            case measure => simp [intOf]; omega
        · obtain rfl : k = N := by omega
          clear hlt
          as_aux_lemma =>
            go_wp2
            go_ret
            exact ⟨rfl, hfin.out⟩
end Go.Proofs.YtpecaalpbeoolaaGreatDoor
