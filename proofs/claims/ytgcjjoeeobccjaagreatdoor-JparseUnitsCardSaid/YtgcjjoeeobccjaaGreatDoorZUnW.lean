/- JparseUnits: the program's Units and the page's JUnits. -/
import Derived.Test.YtgcjjoeeobccjaaGreatDoorZAl7
import Derived.Test.YtgcjjoeeobccjaaGreatDoorJgX
import Derived.StillTailTactics
namespace Go.Proofs.YtgcjjoeeobccjaaGreatDoor
open Go.RowKit
set_option linter.unusedVariables false
set_option linter.unusedSimpArgs false

set_option maxRecDepth 100000 in
set_option maxHeartbeats 8000000 in
theorem junits_no (v : Value) (l : List UInt8) (w : World) (hv : Bs w v l) (hl : l.length ≤ 1048576) (hr : junits l = none) :
    Calls Tryz.prog 6 #[v] w fun e w' => e = .returned (.tuple #[nilV, .bool false]) ∧ Below w.heap.size w w' := by
  have hv2 := hv
  obtain ⟨a, cap, rfl, h1, h2, h3⟩ := hv2
  obtain ⟨n, hn⟩ : ∃ n, l.length = n := ⟨_, rfl⟩
  rw [hn] at hv h1 hl ⊢
  unfold junits at hr
  rw [hn] at hr
  by_cases hn2 : n < 2
  · rw [if_neg (by omega)] at hr
    have n2 : (n : Int) < 2 := by omega
    clear hr h3 hv hn hn2
    go_enter Tryz.func6, Tryz.ntmps6
    go_wp2
    go_ret2
    exact ⟨rfl, Below.refl _ _⟩
  · obtain ⟨b, off, rfl, hb, hcl⟩ := h3 (by omega)
    have hcg : ∀ j, j < l.length → w.cell? ⟨b, off + j, none⟩ = some (.int .u8 ((l.getD j 0).toNat : Int)) := fun j hj => by rw [hcl j hj]; simp [hj]
    have hc0 := hcg 0 (by omega)
    rw [Nat.add_zero] at hc0
    have n2 : ¬ (n : Int) < 2 := by omega
    have n3 : 2 ≤ n := by omega
    obtain ⟨c, hc⟩ : ∃ c, l.getD 0 0 = c := ⟨_, rfl⟩
    rw [hc] at hc0 hr
    obtain ⟨C, hC⟩ : ∃ C : Int, (c.toNat : Int) = C := ⟨_, rfl⟩
    rw [hC] at hc0
    by_cases h34 : c = 34
    · obtain ⟨T, hT⟩ : ∃ T, jtI l 1 = T := ⟨_, rfl⟩
      have J1 : Calls Tryz.prog 12 #[.slice (some ⟨b, off, none⟩) n cap, .int .i64 0] w fun e w' => e = .returned (.int .i64 T) ∧ Below w.heap.size w w' := jtext_any _ l 0 T w hv (by omega) (by omega) hT
      have t1 := eq_n c C hC 34 34 rfl h34
      have t2 := eq_b c C hC 34 34 rfl h34
      rw [hT] at hr
      have HJ := Lib.hid J1
      by_cases hTn : T = n
      · have t3 : (T != (n : Int)) = false := by simp [hTn]
        have t4 : (T == (n : Int)) = true := by simp [hTn]
        obtain ⟨⟨q, vok⟩, hval⟩ : ∃ x, M.validAll l = x := ⟨_, rfl⟩
        have V1 := fun W hb => refvalid_any (.slice (some ⟨b, off, none⟩) n cap) l q vok W hb (by omega) hval
        have Hvs := Lib.hid hv
        have HV := Lib.hid V1
        rw [hval] at hr
        cases vok with
        | false =>
          rw [if_neg (by simp)] at hr
          clear hr h3 hv hn hn2 hcl hcg hc hC h34 hT J1 V1 hval hTn
          go_enter Tryz.func6, Tryz.ntmps6
          go_wp2_with fail
          refine HJ.out.mono ?_
          rintro e w1 ⟨rfl, hb1⟩
          go_wp2_with fail
          refine (HV.out _ (Hvs.out.keep hb1)).mono ?_
          rintro e w' ⟨rfl, rfl⟩
          go_wp2
          go_ret2
          exact ⟨rfl, hb1⟩
        | true =>
          exfalso
          rw [if_pos ⟨n3, h34, hTn, rfl⟩] at hr
          exact absurd hr (by simp)
      · have t3 : (T != (n : Int)) = true := by simpa using hTn
        have t4 : (T == (n : Int)) = false := by simpa using hTn
        rw [if_neg (by intro hh; exact hTn hh.2.2.1)] at hr
        clear hr h3 hv hn hn2 hcl hcg hc hC h34 hT J1
        go_enter Tryz.func6, Tryz.ntmps6
        go_wp2_with fail
        refine HJ.out.mono ?_
        rintro e w1 ⟨rfl, hb1⟩
        go_wp2
        go_ret2
        exact ⟨rfl, hb1⟩
    · have t2 := ne_b c C hC 34 34 rfl h34
      have t1 := ne_n c C hC 34 34 rfl h34
      rw [if_neg (by intro hh; exact h34 hh.2.1)] at hr
      clear hr h3 hv hn hn2 hcl hcg hc hC h34
      go_enter Tryz.func6, Tryz.ntmps6
      go_wp2
      go_ret2
      exact ⟨rfl, Below.refl _ _⟩
/-- The two readings are one. -/
theorem units_page (s : List UInt8) : unitsV s = junits s := by
  unfold unitsV junits
  by_cases h2 : 2 ≤ s.length
  · by_cases h0 : s.getD 0 0 = 34
    · match s, h2 with
      | c :: t, h2 =>
        simp only [List.getD_cons_zero] at h0
        subst h0
        have hv : (M.validAll (34 :: t)).2 = (M.validAll t).2 := by rw [M.valid_ascii (34 :: t) (by simp) (show (34 : UInt8).toNat < 128 by decide)]; rfl
        have hj : (jtI (34 :: t) 1 = ((34 :: t).length : Nat)) ↔ M.jtS t = some t.length := by
          unfold jtI
          simp only [List.drop_succ_cons, List.drop_zero, List.length_cons]
          cases M.jtS t with
          | none => simp; omega
          | some m => simp; omega
        by_cases hq : (34 :: t).getD ((34 :: t).length - 1) 0 = 34
        · rw [if_pos ⟨h2, rfl, hq⟩]
          have ht : t = (((34 :: t).drop 1).take ((34 :: t).length - 2)) ++ [34] := by
            simp only [List.length_cons] at h2
            obtain ⟨n, hn⟩ : ∃ n, t.length = n + 1 := ⟨t.length - 1, by omega⟩
            simp only [List.drop_succ_cons, List.drop_zero, List.length_cons, hn]
            rw [show n + 1 + 1 - 2 = n by omega]
            have hq' : t.getD n 0 = 34 := by simpa [hn, List.getD] using hq
            conv => lhs; rw [← List.take_append_drop n t]
            congr 1
            rw [List.drop_eq_getElem_cons (by omega), List.drop_eq_nil_of_le (by omega)]
            simp only [List.getD, List.getElem?_eq_getElem (show n < t.length by omega), Option.getD_some] at hq'
            rw [hq']
          obtain ⟨u, hu⟩ : ∃ u, (((34 :: t).drop 1).take ((34 :: t).length - 2)) = u := ⟨_, rfl⟩
          rw [hu] at ht ⊢
          rw [M.uF_iff _ u (by rw [← hu]; simp; omega), ← ht]
          have hg : (34 :: t).getD 0 0 = 34 := rfl
          by_cases hg1 : M.jtS t = some t.length ∧ (M.validAll t).2 = true
          · rw [if_pos hg1, if_pos ⟨h2, rfl, hj.2 hg1.1, by rw [hv]; exact hg1.2⟩]; rfl
          · rw [if_neg hg1, if_neg (fun h => hg1 ⟨hj.1 h.2.2.1, by rw [← hv]; exact h.2.2.2⟩)]
        · rw [if_neg (fun h => hq h.2.2), if_neg]
          intro h
          apply hq
          have := M.jtS_last t _ (hj.1 h.2.2.1)
          simp only [List.length_cons] at h2
          obtain ⟨n, hn⟩ : ∃ n, t.length = n + 1 := ⟨t.length - 1, by omega⟩
          simp only [List.length_cons, hn, Nat.add_sub_cancel] at this ⊢
          exact this
    · rw [if_neg (fun h => h0 h.2.1), if_neg (fun h => h0 h.2.1)]
  · rw [if_neg (fun h => h2 h.1), if_neg (fun h => h2 h.1)]
set_option maxRecDepth 100000 in
set_option maxHeartbeats 4000000 in
theorem jpunits_walk (a0 : Option Addr) (len0 cap0 : Nat) (l : List UInt8) (w : World) (hl : l.length = len0) (b0 : Bs w (.slice a0 len0 cap0) l) (n0 : ∀ n c, Value.slice a0 len0 cap0 = .slice none n c → c = 0) (hX : TabX w) :
    Calls Tryz.prog 3 #[.slice a0 len0 cap0] w fun e w' => e = .returned (.bool true) ∧ Below w.heap.size w w' := by
  have al := Lib.hid (alive7_any w hX)
  by_cases h0 : 600 < len0
  · have h0' : (600 : Int) < len0 := by omega
    clear b0 n0 hX hl
    go_enter Tryz.func3, Tryz.ntmps3
    go_wp2_with fail
    refine al.out.mono ?_
    rintro e w1 ⟨rfl, hb⟩
    go_wp2
    go_ret
    exact ⟨rfl, hb⟩
  have q1 : decide ((600 : Int) < len0) = false := by simp; omega
  have k0 : len0 ≤ 600 := by omega
  have B0 := Lib.hid b0
  have N0 := Lib.hid n0
  have HX := Lib.hid hX
  have HL := Lib.hid hl
  have SI := Lib.hid (fun v u r W hv hu => same_any v u r r true W hv hu)
  have hup := units_page l
  cases hU : unitsV l with
  | none =>
    rw [hU] at hup
    have UA := Lib.hid (fun v W hW hB => unitsz_any v l W hW hB (by omega))
    rw [hU] at UA
    have JA := Lib.hid (fun v W hB => junits_no v l W hB (by omega) hup.symm)
    clear b0 n0 hX hl h0 hU hup
    go_enter Tryz.func3, Tryz.ntmps3
    go_wp2_with fail
    refine al.out.mono ?_
    rintro e1 w1 ⟨rfl, hb1⟩
    have hb1z := hb1.size
    go_wp2_with (at_builtin; refine wpl_append rfl _ _ rfl w.heap.size (.slice none 0 0) (.slice a0 len0 cap0) [] l l rfl (World.ownsRow_nil _ _ _ _) rfl (B0.out.keep hb1) N0.out (by rw [HL.out]; simp; omega) hb1z rfl ?_)
    intro v2 w2 ho2 hb2
    have hb3 := hb1.trans hb2
    have U := Lib.hid (UA.out v2 w2 (HX.out.keep hb3) ho2.bs)
    unfold UnQ at U
    dsimp only at U
    clear hb1 hb2 ho2
    go_wp2_with fail
    refine U.out.mono ?_
    rintro e2 w3 ⟨rfl, hb4⟩
    have hb5 := hb3.trans (hb4.mono hb3.size)
    have J := Lib.hid (JA.out _ w3 (B0.out.keep hb5))
    clear hb3 hb4
    go_wp2_with fail
    refine J.out.mono ?_
    rintro e3 w4 ⟨rfl, hb6⟩
    have hb7 := hb5.trans (hb6.mono hb5.size)
    have S := Lib.hid (SI.out nilV nilV [] w4 (is_nil _) (is_nil _) (by simp) (by simp) (by simp))
    clear hb5 hb6
    go_wp2_with fail
    refine S.out.mono ?_
    rintro e4 w5 ⟨rfl, hb8⟩
    have hb9 := Lib.hid (hb7.trans (hb8.mono hb7.size))
    clear hb7 hb8
    go_wp2
    go_ret
    exact ⟨rfl, hb9.out⟩
  | some us =>
    rw [hU] at hup
    have UA := Lib.hid (fun v W hW hB => unitsz_any v l W hW hB (by omega))
    rw [hU] at UA
    have JA := Lib.hid (fun v W hB => junits_any v l us true W hB (by omega) (by rw [← hup]; rfl))
    clear b0 n0 hX hl h0 hU hup
    go_enter Tryz.func3, Tryz.ntmps3
    go_wp2_with fail
    refine al.out.mono ?_
    rintro e1 w1 ⟨rfl, hb1⟩
    have hb1z := hb1.size
    go_wp2_with (at_builtin; refine wpl_append rfl _ _ rfl w.heap.size (.slice none 0 0) (.slice a0 len0 cap0) [] l l rfl (World.ownsRow_nil _ _ _ _) rfl (B0.out.keep hb1) N0.out (by rw [HL.out]; simp; omega) hb1z rfl ?_)
    intro v2 w2 ho2 hb2
    have hb3 := hb1.trans hb2
    have U := Lib.hid (UA.out v2 w2 (HX.out.keep hb3) ho2.bs)
    unfold UnQ at U
    dsimp only at U
    clear hb1 hb2 ho2
    go_wp2_with fail
    refine U.out.mono ?_
    rintro e2 w3 ⟨v3, rfl, ho3, hb4⟩
    have hb5 := hb3.trans (hb4.mono hb3.size)
    have J := Lib.hid (JA.out _ w3 (B0.out.keep hb5))
    unfold JuP at J
    clear hb3 hb4
    go_wp2_with fail
    refine J.out.mono ?_
    rintro e3 w4 ⟨v4, rfl, hv4, hb6⟩
    have hb7 := hb5.trans (hb6.mono hb5.size)
    obtain ⟨hi4, hn4, hl4⟩ := hv4 trivial
    have hil : (iN us).length ≤ 4294967296 := by rw [iN_len]; rw [HL.out] at hl4; omega
    have S := Lib.hid (SI.out v3 v4 (iN us) w4 (ho3.is.keep hb6) hi4 hil hil (by simp))
    clear hb5 hb6 hi4 hn4 hl4 hil ho3 hv4
    go_wp2_with fail
    refine S.out.mono ?_
    rintro e4 w5 ⟨rfl, hb8⟩
    have hb9 := Lib.hid (hb7.trans (hb8.mono hb7.size))
    clear hb7 hb8
    go_wp2
    go_ret
    exact ⟨rfl, hb9.out⟩
end Go.Proofs.YtgcjjoeeobccjaaGreatDoor
