/- Tokens of CSS: the program's function of numbers. -/
import Derived.Test.YtpecaalpbeoolaaGreatDoorFTk4
import Derived.Test.YtpecaalpbeoolaaGreatDoorMgD
import Derived.Test.YtpecaalpbeoolaaGreatDoorNRead2
namespace Go.Proofs.YtpecaalpbeoolaaGreatDoor
open Go.RowKit
set_option linter.unusedVariables false
set_option linter.unusedSimpArgs false

theorem containsF_any (s : List UInt8) (b : Bool) (w : World) (hs : s.length ≤ 4000000) (ha : ∀ x ∈ s, x.toNat < 128) (hb : M.wholeL s = b) :
    Calls Tryz.prog 72 #[.string (bytes s), .string ⟨#[46, 101, 69]⟩] w fun e w' => e = .returned (.bool (!b)) ∧ Below w.heap.size w w' := by
  have := Tryz.strings_ContainsAny_laid (bytes s) ⟨#[46, 101, 69]⟩ w (by rw [bytes_size]; omega) (by decide) (by rw [bytes_list]; intro j b hj; exact ha b (List.mem_of_getElem? hj)) (by
    intro j b hj
    have : b ∈ ([46, 101, 69] : List UInt8) := List.mem_of_getElem? hj
    simp at this
    rcases this with rfl | rfl | rfl <;> decide)
  rw [bytes_list, show (ByteArray.mk #[46, 101, 69]).data.toList = [46, 101, 69] from rfl, M.contains_whole, hb] at this
  exact this
theorem cps_drop (c : List Int) (i : Nat) : (c.drop i).take (M.numE (c.drop i)) = (c.drop i).take (i + M.numE (c.drop i) - i) := by rw [Nat.add_sub_cancel_left]
set_option maxRecDepth 100000 in
set_option maxHeartbeats 8000000 in
theorem fnumeric_any (v : Value) (L : List (Int × Int)) (c : List Int) (i : Nat) (t : M.CT) (K : Nat) (w : World) (hT : Tabs w) (hv : Rs w v L) (hc : cps L = c) (hl : L.length ≤ 20000) (hi : i < L.length) (hnb : M.numB (c.drop i) = true)
    (ht : (M.numT (c.drop i)).1 = t) (hK : i + (M.numT (c.drop i)).2 = K) :
    Calls Tryz.prog 41 #[v, .int .i64 (i : Int)] w (TkR w t K) := by
  have hlc := hv.lc
  rw [hc] at hlc
  have hcl : c.length = L.length := by rw [← hc, cps_len]
  have hle := M.numE_le _ hnb
  rw [List.length_drop, hcl] at hle
  obtain ⟨n, hn⟩ : ∃ n, L.length = n := ⟨_, rfl⟩
  rw [hn] at hl hi hcl hle
  obtain ⟨a, cap, rfl, h1, h2, h3⟩ := rs_open hv hn
  obtain ⟨p, off, rfl, hp, -⟩ := h3 (by omega)
  obtain ⟨m, hm⟩ : ∃ m, i + M.numE (c.drop i) = m := ⟨_, rfl⟩
  have him : i ≤ m := by omega
  have hmn : m ≤ n := by omega
  have hsub := rs_sub hv i m him hmn p off rfl
  obtain ⟨s, hs⟩ : ∃ s, M.encZs ((c.drop i).take (M.numE (c.drop i))) = s := ⟨_, rfl⟩
  have hasc := M.num_asc (c.drop i)
  rw [hs] at hasc
  have hsl : s.length ≤ 80000 := by
    have := (M.encZs_len ((c.drop i).take (M.numE (c.drop i)))).2
    rw [hs] at this
    have h5 : ((c.drop i).take (M.numE (c.drop i))).length ≤ n := by simp; omega
    omega
  have NE := Lib.hid (fun W (hW : Below w.heap.size w W) => fnume_any _ c i m W (hlc.keep hW) (by omega) (by omega) hm)
  have TX := Lib.hid (fun (W : World) (hW : Below w.heap.size w W) => ctext_any _ _ s W (rs_keep hsub hW) (by simp; omega) (by rw [cps_sub, hc, show m - i = M.numE (c.drop i) by omega]; exact hs))
  have CA := Lib.hid (fun W => containsF_any s _ W (by omega) hasc rfl)
  have HP := Lib.hid (fun W => pre_any s 43 _ W rfl)
  obtain ⟨r, ok, hr⟩ : ∃ r ok, M.readN s = (r, ok) := ⟨_, _, rfl⟩
  have RD := Lib.hid (fun W (hW : Below w.heap.size w W) => read_any s r ok W (hT.keep hW) (by omega) hr)
  have BG := Lib.hid (fun W (hW : Below w.heap.size w W) => nbegins_any _ c (m : Int) _ W (hlc.keep hW) (by omega) rfl)
  rw [if_neg (by omega), Int.toNat_natCast] at BG
  have hcl2 : clampN (m : Int) c.length = m := by unfold clampN; omega
  obtain ⟨U, hU⟩ : ∃ U, (M.takeN (c.drop m)).1 = U := ⟨_, rfl⟩
  obtain ⟨e2, he2⟩ : ∃ U, m + (M.takeN (c.drop m)).2 = U := ⟨_, rfl⟩
  have TK := Lib.hid (fun W (hW : Below w.heap.size w W) => ntake_core _ c (m : Int) U e2 W (hlc.keep hW) (by omega) (by rw [hcl2]; exact hU) (by rw [hcl2]; exact he2))
  have ST := Lib.hid (fst_one 37 _ c m _ w hlc (by omega) (by omega) rfl)
  unfold M.numT at ht hK
  have hdd : (c.drop i).drop (M.numE (c.drop i)) = c.drop m := by rw [List.drop_drop, hm]
  have hgd : (c.drop i).getD (M.numE (c.drop i)) (-1) = c.getD m (-1) := by rw [getD_drop, hm]
  rw [hdd, hgd, hs, hU] at ht hK
  obtain ⟨bg, hbg⟩ : ∃ b, M.begN (c.drop m) = b := ⟨_, rfl⟩
  rw [hbg] at ht hK BG
  obtain ⟨y, hy⟩ : ∃ y, c.getD m (-1) = y := ⟨_, rfl⟩
  rw [hy] at ht hK ST
  have hT0 : M.numT0 s = { kind := 10, flag := M.wholeL s, sign := s.head? == some 43, num := r } := by unfold M.numT0; rw [hr]
  rw [hT0] at ht hK
  obtain ⟨wh, hwh⟩ : ∃ b, M.wholeL s = b := ⟨_, rfl⟩
  obtain ⟨sg, hsg⟩ : ∃ b, (s.head? == some 43) = b := ⟨_, rfl⟩
  rw [hwh] at ht hK CA
  rw [hsg] at ht hK HP
  obtain ⟨S, hS⟩ : ∃ S, bytes s = S := ⟨_, rfl⟩
  rw [hS] at TX CA HP RD
  obtain ⟨r0, r1, r2⟩ := r
  unfold numV at RD
  simp only at RD
  obtain ⟨W0, hW0, cb0, b0, z0⟩ := w0_facts w
  have HW0 := Lib.hid hW0
  have HT := Lib.hid ht
  have HK := Lib.hid hK
  have HE2 := Lib.hid he2
  have HM := Lib.hid hm
  have i1 : (0 : Int) ≤ i := by omega
  have i2 : (i : Int) ≤ m := by omega
  have i3 : (m : Int) ≤ cap := by omega
  have i4 : (m : Int) ≤ 20000 := by omega
  have i5 : (i : Int) < cap := by omega
  unfold maxLen at h2
  have wz := b0.size
  clear hW0 z0 hv hc hn h3 hsub hlc hcl hT hnb hle hm hs hasc hsl hr hcl2 hU he2 ht hK hdd hgd hbg hy hT0 hwh hsg hS
  go_enter Tryz.func41, Tryz.ntmps41
  go_wp2_with fail
  rw [HW0.out]
  refine (NE.out _ b0).mono ?_
  rintro e w1 ⟨rfl, hb1⟩
  have c1 := b0.trans (hb1.mono b0.size)
  have cb1 := cb0.keep hb1 cb0.lt
  clear hb1 b0 cb0
  go_wp2_with fail
  refine (TX.out _ c1).mono ?_
  rintro e w2 ⟨rfl, hb2⟩
  have c2 := c1.trans (hb2.mono c1.size)
  have cb2 := cb1.keep hb2 cb1.lt
  clear hb2 c1 cb1
  go_wp2_with fail
  refine (CA.out _).mono ?_
  rintro e w3 ⟨rfl, hb3⟩
  have c3 := c2.trans (hb3.mono c2.size)
  have cb3 := cb2.keep hb3 cb2.lt
  clear hb3 c2 cb2
  go_wp2_with fail
  refine (HP.out _).mono ?_
  rintro e w' ⟨rfl, rfl⟩
  go_wp2_with (refine wpl_stT rfl _ _ rfl w3.heap.size (ctv {} 0) (ctv { kind := 10, flag := wh, sign := sg } 0) (by rfl) (by first | rfl | (simp; rfl)) (CB.new w3 _) rfl rfl (ctv_one _ _) ?_)
  have lt8 := cb3.lt
  have cb8 : CB ((w3.alloc (.cells #[.int .i64 0, .string ⟨#[]⟩, .string ⟨#[]⟩, .bool false, .string ⟨#[]⟩, .string ⟨#[]⟩, .bool false, .bool false, .int .i64 0, .int .i64 0, .int .i64 0, .int .i64 0, .int .i64 0] 36)).setRow w3.heap.size (ctv { kind := 10, flag := wh, sign := sg } 0)) w3.heap.size (ctv { kind := 10, flag := wh, sign := sg } 0) := (CB.new w3 _).set _
  have cb5 : CB ((w3.alloc (.cells #[.int .i64 0, .string ⟨#[]⟩, .string ⟨#[]⟩, .bool false, .string ⟨#[]⟩, .string ⟨#[]⟩, .bool false, .bool false, .int .i64 0, .int .i64 0, .int .i64 0, .int .i64 0, .int .i64 0] 36)).setRow w3.heap.size (ctv { kind := 10, flag := wh, sign := sg } 0)) w.heap.size (ctv {} 0) := by
    unfold CB; rw [setRow_other _ _ _ _ (by omega)]
    exact cb3.keep ((Below.refl w3.heap.size w3).alloc (Nat.le_refl _) _) lt8
  have c5 : Below w.heap.size w ((w3.alloc (.cells #[.int .i64 0, .string ⟨#[]⟩, .string ⟨#[]⟩, .bool false, .string ⟨#[]⟩, .string ⟨#[]⟩, .bool false, .bool false, .int .i64 0, .int .i64 0, .int .i64 0, .int .i64 0, .int .i64 0] 36)).setRow w3.heap.size (ctv { kind := 10, flag := wh, sign := sg } 0)) := below_setRow (c3.alloc c3.size _) c3.size _
  obtain ⟨W5, hW5⟩ : ∃ W, (w3.alloc (.cells #[.int .i64 0, .string ⟨#[]⟩, .string ⟨#[]⟩, .bool false, .string ⟨#[]⟩, .string ⟨#[]⟩, .bool false, .bool false, .int .i64 0, .int .i64 0, .int .i64 0, .int .i64 0, .int .i64 0] 36)).setRow w3.heap.size (ctv { kind := 10, flag := wh, sign := sg } 0) = W := ⟨_, rfl⟩
  rw [hW5] at cb8 cb5 c5 ⊢
  obtain ⟨b8, hb8⟩ : ∃ b, w3.heap.size = b := ⟨_, rfl⟩
  rw [hb8] at cb8 lt8 ⊢
  clear hW5 hb8 c3 cb3
  refine (RD.out _ c5).mono ?_
  rintro e w6 ⟨rfl, hb6⟩
  have c6 := c5.trans (hb6.mono c5.size)
  have cb6 := cb5.keep hb6 cb5.lt
  have cb86 := cb8.keep hb6 cb8.lt
  clear hb6 c5 cb5 cb8
  have g3 := cb86.cell 3
  have f3 := cb86.free 3
  rw [show (ctv _ _)[3]? = some (.bool false) from rfl] at g3
  have g4 := cb86.cell 4
  have f4 := cb86.free 4
  rw [show (ctv _ _)[4]? = some (.string ⟨#[]⟩) from rfl] at g4
  have g5 := cb86.cell 5
  have f5 := cb86.free 5
  rw [show (ctv _ _)[5]? = some (.string ⟨#[]⟩) from rfl] at g5
  go_wp2_with fail
  have cb87 : CB (((w6.setCell ⟨b8, 3, none⟩ (.bool r0)).setCell ⟨b8, 4, none⟩ (.string (bytes r1))).setCell ⟨b8, 5, none⟩ (.string (bytes r2))) b8 (ctv { kind := 10, flag := wh, sign := sg, num := (r0, r1, r2) } 0) := ((cb86.put 3 _).put 4 _).put 5 _
  have cb7 : CB (((w6.setCell ⟨b8, 3, none⟩ (.bool r0)).setCell ⟨b8, 4, none⟩ (.string (bytes r1))).setCell ⟨b8, 5, none⟩ (.string (bytes r2))) w.heap.size (ctv {} 0) := ((cb6.other (Nat.ne_of_lt lt8) _ _).other (Nat.ne_of_lt lt8) _ _).other (Nat.ne_of_lt lt8) _ _
  have c7 : Below w.heap.size w (((w6.setCell ⟨b8, 3, none⟩ (.bool r0)).setCell ⟨b8, 4, none⟩ (.string (bytes r1))).setCell ⟨b8, 5, none⟩ (.string (bytes r2))) := ((c6.setCell (Nat.le_of_lt lt8) _).setCell (Nat.le_of_lt lt8) _).setCell (Nat.le_of_lt lt8) _
  obtain ⟨W7, hW7⟩ : ∃ W, ((w6.setCell ⟨b8, 3, none⟩ (.bool r0)).setCell ⟨b8, 4, none⟩ (.string (bytes r1))).setCell ⟨b8, 5, none⟩ (.string (bytes r2)) = W := ⟨_, rfl⟩
  rw [hW7] at cb87 cb7 c7 ⊢
  clear hW7 c6 cb6 cb86 g3 g4 g5 f3 f4 f5
  refine (BG.out _ c7).mono ?_
  rintro e w' ⟨rfl, rfl⟩
  have g0 := cb87.cell 0
  have f0 := cb87.free 0
  rw [show (ctv _ _)[0]? = some (.int .i64 10) from rfl] at g0
  cases bg with
  | true =>
    as_aux_lemma =>
      have ht := HT.out
      have hK := HK.out
      simp only [if_true] at ht hK
      obtain rfl : e2 = K := by rw [← hK, ← HE2.out, ← HM.out]; omega
      have HT2 := Lib.hid ht
      clear ht hK
      go_wp2_with fail
      have cb8 : CB (W7.setCell ⟨b8, 0, none⟩ (.int .i64 12)) b8 (ctv { kind := 12, flag := wh, sign := sg, num := (r0, r1, r2) } 0) := cb87.put 0 _
      have cb9 : CB (W7.setCell ⟨b8, 0, none⟩ (.int .i64 12)) w.heap.size (ctv {} 0) := cb7.other (Nat.ne_of_lt lt8) _ _
      have c8 : Below w.heap.size w (W7.setCell ⟨b8, 0, none⟩ (.int .i64 12)) := c7.setCell (Nat.le_of_lt lt8) _
      obtain ⟨W8, hW8⟩ : ∃ W, W7.setCell ⟨b8, 0, none⟩ (.int .i64 12) = W := ⟨_, rfl⟩
      rw [hW8] at cb8 cb9 c8 ⊢
      clear hW8 cb87 cb7 c7 g0 f0
      refine (TK.out _ c8).mono ?_
      rintro e w9 ⟨rfl, hb9⟩
      have c9 := c8.trans (hb9.mono c8.size)
      have cb89 := cb8.keep hb9 cb8.lt
      have cb49 := cb9.keep hb9 cb9.lt
      clear hb9 c8 cb8 cb9
      have g2 := cb89.cell 2
      have f2 := cb89.free 2
      rw [show (ctv _ _)[2]? = some (.string ⟨#[]⟩) from rfl] at g2
      have cb8X : CB (w9.setCell ⟨b8, 2, none⟩ (.string (bytes (M.encZs U)))) b8 (ctv { kind := 12, flag := wh, sign := sg, num := (r0, r1, r2), unit := M.encZs U } 0) := cb89.put 2 _
      have cb4X : CB (w9.setCell ⟨b8, 2, none⟩ (.string (bytes (M.encZs U)))) w.heap.size (ctv {} 0) := cb49.other (Nat.ne_of_lt lt8) _ _
      have cX : Below w.heap.size w (w9.setCell ⟨b8, 2, none⟩ (.string (bytes (M.encZs U)))) := c9.setCell (Nat.le_of_lt lt8) _
      go_wp2_with (first | (refine wpl_ldT rfl _ rfl b8 _ rfl cb8X rfl ?_) | (refine wpl_stT rfl _ _ rfl w.heap.size (ctv {} 0) (ctv { kind := 12, flag := wh, sign := sg, num := (r0, r1, r2), unit := M.encZs U } 0) rfl rfl cb4X rfl rfl (ctv_one _ _) ?_))
      (try simp only [Exit.inBlock, Exit.then])
      exact bodyPost_ret (res_tok rfl _ _ w.heap.size _ _ rfl rfl (CB.set cb4X _) rfl) rfl ⟨(by rw [← HT2.out]), below_setRow cX (Nat.le_refl _) _⟩
  | false =>
    by_cases h37 : y = 37
    · have tp : decide (y = ((37 : UInt8).toNat : Int)) = true := by simpa using h37
      have ht := HT.out
      have hK := HK.out
      simp only [Bool.false_eq_true, if_false, h37, if_true] at ht hK
      have HT2 := Lib.hid ht
      have HK2 := Lib.hid (show (m : Int) + 1 = K by have := HM.out; omega)
      clear ht hK h37
      rw [tp] at ST
      as_aux_lemma =>
        go_wp2_with fail
        refine (ST.out _ c7).mono ?_
        rintro e w8 ⟨rfl, hb8⟩
        have c8 := c7.trans (hb8.mono c7.size)
        have cb88 := cb87.keep hb8 cb87.lt
        have cb48 := cb7.keep hb8 cb7.lt
        clear hb8 c7 cb87 cb7 g0 f0
        have g0 := cb88.cell 0
        have f0 := cb88.free 0
        rw [show (ctv _ _)[0]? = some (.int .i64 10) from rfl] at g0
        have cb8X : CB (w8.setCell ⟨b8, 0, none⟩ (.int .i64 11)) b8 (ctv { kind := 11, flag := wh, sign := sg, num := (r0, r1, r2) } 0) := cb88.put 0 _
        have cb4X : CB (w8.setCell ⟨b8, 0, none⟩ (.int .i64 11)) w.heap.size (ctv {} 0) := cb48.other (Nat.ne_of_lt lt8) _ _
        have cX : Below w.heap.size w (w8.setCell ⟨b8, 0, none⟩ (.int .i64 11)) := c8.setCell (Nat.le_of_lt lt8) _
        go_wp2_with (first | (refine wpl_ldT rfl _ rfl b8 _ rfl cb8X rfl ?_) | (refine wpl_stT rfl _ _ rfl w.heap.size (ctv {} 0) (ctv { kind := 11, flag := wh, sign := sg, num := (r0, r1, r2) } 0) rfl rfl cb4X rfl rfl (ctv_one _ _) ?_))
        (try simp only [Exit.inBlock, Exit.then])
        exact bodyPost_ret (res_tok rfl _ _ w.heap.size _ _ rfl rfl (CB.set cb4X _) rfl) rfl ⟨(by rw [← HT2.out]; exact etup_ai HK2.out), below_setRow cX (Nat.le_refl _) _⟩
    · have tp : decide (y = ((37 : UInt8).toNat : Int)) = false := by simpa using h37
      have ht := HT.out
      have hK := HK.out
      simp only [Bool.false_eq_true, if_false, h37] at ht hK
      have HT2 := Lib.hid ht
      obtain rfl : m = K := by have := HM.out; omega
      clear ht hK h37
      rw [tp] at ST
      as_aux_lemma =>
        go_wp2_with fail
        refine (ST.out _ c7).mono ?_
        rintro e w8 ⟨rfl, hb8⟩
        have c8 := c7.trans (hb8.mono c7.size)
        have cb88 := cb87.keep hb8 cb87.lt
        have cb48 := cb7.keep hb8 cb7.lt
        clear hb8 c7 cb87 cb7 g0 f0
        go_wp2_with (first | (refine wpl_ldT rfl _ rfl b8 _ rfl cb88 rfl ?_) | (refine wpl_stT rfl _ _ rfl w.heap.size (ctv {} 0) (ctv { kind := 10, flag := wh, sign := sg, num := (r0, r1, r2) } 0) rfl rfl cb48 rfl rfl (ctv_one _ _) ?_))
        (try simp only [Exit.inBlock, Exit.then])
        exact bodyPost_ret (res_tok rfl _ _ w.heap.size _ _ rfl rfl (CB.set cb48 _) rfl) rfl ⟨(by rw [← HT2.out]), below_setRow c8 (Nat.le_refl _) _⟩
end Go.Proofs.YtpecaalpbeoolaaGreatDoor
