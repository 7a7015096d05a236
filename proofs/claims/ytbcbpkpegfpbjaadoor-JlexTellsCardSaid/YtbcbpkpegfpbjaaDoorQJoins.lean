/- The walk of JlexJoins. -/
import Derived.Test.YtbcbpkpegfpbjaaDoorQAlive
import Derived.Test.YtbcbpkpegfpbjaaDoorQMath6
import Derived.Deep.QuietTactic
namespace Go.Proofs.YtbcbpkpegfpbjaaDoor
open Go.RowKit
set_option linter.unusedVariables false
set_option linter.unusedSimpArgs false

/-- A slice of tokens whose cells stand below a block. -/
def TsAt (B : Nat) (w : World) (v : Value) (l : M.Toks) : Prop := ∃ a cap, v = .slice a l.length cap ∧ (0 < l.length → ∃ b off, a = some ⟨b, off, none⟩ ∧ b < B ∧ ∀ j (hj : j < l.length),
    w.cell? ⟨b, off + j * 3, none⟩ = some (.int .i64 (l[j].1 : Int)) ∧ w.cell? ⟨b, off + j * 3 + 1, none⟩ = some (.int .i64 (l[j].2.1 : Int)) ∧ w.cell? ⟨b, off + j * 3 + 2, none⟩ = some (.int .i64 (l[j].2.2 : Int)))
theorem tsAt_of {w : World} {v : Value} {l : M.Toks} (h : Ts w v l) : TsAt w.heap.size w v l := ts_view h
theorem tsAt_keep {B C : Nat} {w w' : World} {v : Value} {l : M.Toks} (h : TsAt B w v l) (hb : Below C w w') (hC : B ≤ C) : TsAt B w' v l := by
  obtain ⟨a, cap, rfl, h3⟩ := h
  refine ⟨a, cap, rfl, fun h0 => ?_⟩
  obtain ⟨b, off, rfl, hlt, hc⟩ := h3 h0
  refine ⟨b, off, rfl, hlt, fun j hj => ?_⟩
  obtain ⟨x0, x1, x2⟩ := hc j hj
  exact ⟨(hb.cell (p := ⟨b, off + j * 3, none⟩) (Nat.lt_of_lt_of_le hlt hC)).trans x0, (hb.cell (p := ⟨b, off + j * 3 + 1, none⟩) (Nat.lt_of_lt_of_le hlt hC)).trans x1, (hb.cell (p := ⟨b, off + j * 3 + 2, none⟩) (Nat.lt_of_lt_of_le hlt hC)).trans x2⟩
theorem one_blank (w : World) : Bs (w.alloc (.cells #[.int .u8 32] 5)) (.slice (some ⟨w.heap.size, 0, none⟩) 1 1) [32] := bs_new w [32] (by decide)
set_option maxRecDepth 100000 in
set_option maxHeartbeats 8000000 in
theorem jjoins_walk (a0 : Option Addr) (len0 cap0 : Nat) (a1 : Option Addr) (len1 cap1 : Nat) (l k : List UInt8) (w : World) (hl : l.length = len0) (b0 : Bs w (.slice a0 len0 cap0) l) (n0 : ∀ n c, Value.slice a0 len0 cap0 = .slice none n c → c = 0)
    (hk : k.length = len1) (b1 : Bs w (.slice a1 len1 cap1) k) (n1 : ∀ n c, Value.slice a1 len1 cap1 = .slice none n c → c = 0) (hT : Tabs w) :
    Calls Tryd.prog 7 #[.slice a0 len0 cap0, .slice a1 len1 cap1] w fun e w' => e = .returned (.bool true) ∧ Below w.heap.size w w' := by
  have al := Lib.hid (alive_any w hT)
  by_cases h0 : 200 < len0
  · have h0' : (200 : Int) < len0 := by omega
    clear b0 n0 b1 n1 hT hl hk
    go_enter Tryd.func7, Tryd.ntmps7
    go_wp2_with fail
    refine al.out.mono ?_
    rintro e w1 ⟨rfl, hb⟩
    go_wp2
    go_ret
    exact ⟨rfl, hb⟩
  by_cases h1 : 200 < len1
  · have h1' : (200 : Int) < len1 := by omega
    clear b0 n0 b1 n1 hT hl hk
    go_enter Tryd.func7, Tryd.ntmps7
    go_wp2_with fail
    refine al.out.mono ?_
    rintro e w1 ⟨rfl, hb⟩
    go_wp2
    go_ret
    exact ⟨rfl, hb⟩
  have q1 : decide ((200 : Int) < len0) = false := by simp; omega
  have q2 : decide ((200 : Int) < len1) = false := by simp; omega
  have k0 : len0 ≤ 200 := by omega
  have k1 : len1 ≤ 200 := by omega
  have B0 := Lib.hid b0
  have B1 := Lib.hid b1
  have N0 := Lib.hid n0
  have N1 := Lib.hid n1
  have HT := Lib.hid hT
  obtain ⟨Ra, hRa⟩ : ∃ R, M.splitV l = R := ⟨_, rfl⟩
  obtain ⟨Rb, hRb⟩ : ∃ R, M.splitV k = R := ⟨_, rfl⟩
  obtain ⟨Rj, hRj⟩ : ∃ R, M.splitV (l ++ 32 :: k) = R := ⟨_, rfl⟩
  have S1 := Lib.hid (fun v W hW hB => split_any v l _ W hW hB (by omega) hRa)
  have S2 := Lib.hid (fun v W hW hB => split_any v k _ W hW hB (by omega) hRb)
  have S3 := Lib.hid (fun v W hW hB => split_any v (l ++ 32 :: k) _ W hW hB (by simp only [List.length_append, List.length_cons]; omega) hRj)
  have hway : ((Ra.2.1 ≠ 0) ∨ (Ra.2.1 = 0 ∧ Ra.2.2 = 0 ∧ Rb.2.1 ≠ 0)) ∨ (∃ ta tb, Ra = (ta, 0, 0) ∧ Rb = (tb, 0, 0) ∧ Rj = (ta ++ M.shiftT (len0 + 1) tb, 0, 0) ∧ ta.length ≤ 200 ∧ tb.length ≤ 200 ∧ ∀ j (hj : j < tb.length), tb[j].2.1 ≤ 200 ∧ tb[j].2.2 ≤ 200) := by
    rcases M.split_cases l (by omega) with ⟨e, a, hs, he, _⟩ | ⟨ta, hs, hx, hv⟩
    · left; left; rw [← hRa, hs]; exact he
    · rcases M.split_cases k (by omega) with ⟨e, a, hs2, he, _⟩ | ⟨tb, hs2, hx2, hv2⟩
      · left; right; rw [← hRa, hs, ← hRb, hs2]; exact ⟨rfl, rfl, he⟩
      · right
        have h3 := M.lex_len l ta hx
        have h4 := M.lex_len k tb hx2
        refine ⟨ta, tb, by rw [← hRa, hs], by rw [← hRb, hs2], ?_, by omega, by omega, fun j hj => by have := M.lex_mem k tb hx2 j hj; omega⟩
        rw [← hRj, M.split_join l k ta tb (by omega) (by omega) hx hv hx2 hv2, hl]
  obtain ⟨ra, ea, aa⟩ := Ra
  obtain ⟨rb, eb, ab⟩ := Rb
  obtain ⟨rj, ej, aj⟩ := Rj
  dsimp only at hway
  have HL := Lib.hid hl
  have HK := Lib.hid hk
  have HWay := Lib.hid hway
  clear b0 n0 b1 n1 hT hl hk h0 h1 hRa hRb hRj hway
  go_enter Tryd.func7, Tryd.ntmps7
  go_wp2_with fail
  refine al.out.mono ?_
  rintro e w1 ⟨rfl, hb1⟩
  go_wp2_with fail
  refine (S1.out _ _ (HT.out.keep hb1) (B0.out.keep hb1)).mono ?_
  rintro e w2 ⟨v2, rfl, ho2, hb2⟩
  have c2 := hb1.trans (hb2.mono hb1.size)
  have ts2 := tsAt_of ho2.vs
  obtain ⟨a2, cap2, rfl, _⟩ := id ts2
  have hb3 : Below w2.heap.size w2 (w2.alloc (.cells #[.int .i64 ea, .int .i64 aa] 27)) := (Below.refl _ _).alloc (Nat.le_refl _) _
  have f0 : (w2.alloc (.cells #[.int .i64 ea, .int .i64 aa] 27)).cell? ⟨w2.heap.size, 0, none⟩ = some (.int .i64 ea) := by simp
  have f1 : (w2.alloc (.cells #[.int .i64 ea, .int .i64 aa] 27)).cell? ⟨w2.heap.size, 1, none⟩ = some (.int .i64 aa) := by simp
  have z3 : (w2.alloc (.cells #[.int .i64 ea, .int .i64 aa] 27)).heap.size = w2.heap.size + 1 := by simp
  obtain ⟨W3, hW3⟩ : ∃ W3, w2.alloc (.cells #[.int .i64 ea, .int .i64 aa] 27) = W3 := ⟨_, rfl⟩
  rw [hW3] at hb3 f0 f1 z3
  have c3 := c2.trans (hb3.mono c2.size)
  have F := Lib.hid (And.intro f0 f1)
  have Z3 := Lib.hid z3
  have T2 := Lib.hid (tsAt_keep ts2 hb3 (Nat.le_refl _))
  have HW3 := Lib.hid hW3
  clear hb1 hb2 c2 ts2 ho2 hb3 f0 f1 z3 hW3 al S1
  unfold fv
  dsimp only
  go_wp2_with fail
  rw [HW3.out]
  refine (S2.out _ _ (HT.out.keep c3) (B1.out.keep c3)).mono ?_
  rintro e w4 ⟨v4, rfl, ho4, hb4⟩
  have c4 := c3.trans (hb4.mono c3.size)
  have ts4 := tsAt_of ho4.vs
  obtain ⟨a4, cap4, rfl, _⟩ := id ts4
  have hb5 : Below w4.heap.size w4 (w4.alloc (.cells #[.int .i64 eb, .int .i64 ab] 27)) := (Below.refl _ _).alloc (Nat.le_refl _) _
  have g0 : (w4.alloc (.cells #[.int .i64 eb, .int .i64 ab] 27)).cell? ⟨w4.heap.size, 0, none⟩ = some (.int .i64 eb) := by simp
  have g1 : (w4.alloc (.cells #[.int .i64 eb, .int .i64 ab] 27)).cell? ⟨w4.heap.size, 1, none⟩ = some (.int .i64 ab) := by simp
  have z5 : (w4.alloc (.cells #[.int .i64 eb, .int .i64 ab] 27)).heap.size = w4.heap.size + 1 := by simp
  obtain ⟨W5, hW5⟩ : ∃ W5, w4.alloc (.cells #[.int .i64 eb, .int .i64 ab] 27) = W5 := ⟨_, rfl⟩
  rw [hW5] at hb5 g0 g1 z5
  have hb35 : Below W3.heap.size W3 W5 := hb4.trans (hb5.mono hb4.size)
  have c5 := c4.trans (hb5.mono c4.size)
  have z35 : W3.heap.size ≤ W5.heap.size := hb35.size
  have F5 := Lib.hid (And.intro ((hb35.cell (p := ⟨w2.heap.size, 0, none⟩) (by show w2.heap.size < _; rw [Z3.out]; omega)).trans F.out.1) ((hb35.cell (p := ⟨w2.heap.size, 1, none⟩) (by show w2.heap.size < _; rw [Z3.out]; omega)).trans F.out.2))
  have G5 := Lib.hid (And.intro g0 g1)
  have T25 := Lib.hid (tsAt_keep T2.out hb35 (by rw [Z3.out]; omega))
  have T45 := Lib.hid (tsAt_keep ts4 hb5 (Nat.le_refl _))
  have zlt2 : w2.heap.size < W5.heap.size := by rw [Z3.out] at z35; omega
  have zlt4 : w4.heap.size < W5.heap.size := by rw [z5]; omega
  have HW5 := Lib.hid hW5
  have c5z := c5.size
  clear c3 c4 hb4 hb5 hb35 ho4 ts4 g0 g1 z5 hW5 z35 S2 F T2 Z3 HW3
  unfold fv
  dsimp only
  go_wp2_with (at_builtin; rw [HW5.out]; refine wpl_append rfl _ _ rfl W5.heap.size (.slice none 0 0) (.slice a0 len0 cap0) [] l l rfl (World.ownsRow_nil _ _ _ _) rfl (B0.out.keep c5) N0.out (by rw [HL.out]; simp; omega) (Nat.le_refl _) rfl ?_)
  intro v6 w6 ho6 d6
  have d6z := d6.size
  have ho6' := OwnB.keep ho6 ((Below.refl _ _).alloc (Nat.le_refl _) (.cells #[.int .u8 32] 5))
  have d6' := d6.alloc d6z (.cells #[.int .u8 32] 5)
  have d6z' := d6'.size
  clear ho6 d6
  go_wp2_with (at_builtin; refine wpl_append rfl _ _ rfl W5.heap.size v6 (.slice (some ⟨w6.heap.size, 0, none⟩) 1 1) l [32] (l ++ [32]) rfl ho6' rfl (one_blank w6) (nnv_some _ _ _) (by rw [HL.out]; simp; omega) d6z' rfl ?_)
  intro v7 w7 ho7 d7
  have e7 := d6'.trans d7
  have e7z := e7.size
  have c7 := c5.trans (e7.mono c5z)
  clear d6' d7 ho6'
  go_wp2_with (at_builtin; refine wpl_append rfl _ _ rfl W5.heap.size v7 (.slice a1 len1 cap1) (l ++ [32]) k (l ++ 32 :: k) rfl ho7 rfl (B1.out.keep c7) N1.out (by simp only [List.length_append, List.length_cons, List.length_nil]; rw [HL.out, HK.out]; omega) e7z (by simp) ?_)
  intro v8 w8 ho8 d8
  have e8 := e7.trans d8
  have e8z := e8.size
  have c8 := c5.trans (e8.mono c5z)
  clear e7 d8 ho7 c7
  go_wp2_with fail
  refine (S3.out _ _ (HT.out.keep c8) ho8.bs).mono ?_
  rintro e w9 ⟨v9, rfl, ho9, hb9⟩
  have e9 := e8.trans (hb9.mono e8z)
  have e9z := e9.size
  have ts9 := tsAt_of ho9.vs
  obtain ⟨a9, cap9, rfl, _⟩ := id ts9
  obtain ⟨WA, hWA⟩ : ∃ WA, w9.alloc (.cells #[.int .i64 ej, .int .i64 aj] 27) = WA := ⟨_, rfl⟩
  have eA : Below W5.heap.size W5 WA := by rw [← hWA]; exact e9.alloc e9z _
  have hA : Below w9.heap.size w9 WA := by rw [← hWA]; exact (Below.refl _ _).alloc (Nat.le_refl _) _
  have cA := c5.trans (eA.mono c5z)
  have h0 : WA.cell? ⟨w9.heap.size, 0, none⟩ = some (.int .i64 ej) := by rw [← hWA]; simp
  have h1 : WA.cell? ⟨w9.heap.size, 1, none⟩ = some (.int .i64 aj) := by rw [← hWA]; simp
  have zA : WA.heap.size = w9.heap.size + 1 := by rw [← hWA]; simp
  have f0 := (eA.cell (p := ⟨w2.heap.size, 0, none⟩) zlt2).trans F5.out.1
  have f1 := (eA.cell (p := ⟨w2.heap.size, 1, none⟩) zlt2).trans F5.out.2
  have g0 := (eA.cell (p := ⟨w4.heap.size, 0, none⟩) zlt4).trans G5.out.1
  have g1 := (eA.cell (p := ⟨w4.heap.size, 1, none⟩) zlt4).trans G5.out.2
  have t2 := tsAt_keep T25.out eA (Nat.le_of_lt zlt2)
  have t4 := tsAt_keep T45.out eA (Nat.le_of_lt zlt4)
  have t9 := tsAt_keep ts9 hA (Nat.le_refl _)
  have HWA := Lib.hid hWA
  have f0' := f0
  have f1' := f1
  have g0' := g0
  have g1' := g1
  rw [← hWA] at f0' f1' g0' g1'
  have T2 := Lib.hid t2
  have T4 := Lib.hid t4
  have T9 := Lib.hid t9
  unfold fv
  dsimp only
  clear hWA e9 e8 c8 hb9 ho9 ho8 ts9 T25 T45 F5 G5 eA hA t2 t4 t9 S3 B1 HT c5 HW5 N0 N1
  rcases HWay.out with (he | ⟨rfl, rfl, he⟩) | ⟨ta, tb, hA, hB, hJ, hta, htb, hm⟩
  · have u1 : (ea == 0) = false := by rw [beq_eq_false_iff_ne]; exact he
    have cA' : Below w.heap.size w (w9.alloc (.cells #[.int .i64 ej, .int .i64 aj] 27)) := by rw [HWA.out]; exact cA
    clear he
    go_wp2
    all_goals
      go_ret
      exact ⟨rfl, cA'⟩
  · have u1 : (eb == 0) = false := by rw [beq_eq_false_iff_ne]; exact he
    have cA' : Below w.heap.size w (w9.alloc (.cells #[.int .i64 ej, .int .i64 aj] 27)) := by rw [HWA.out]; exact cA
    clear he
    go_wp2
    all_goals
      go_ret
      exact ⟨rfl, cA'⟩
  · simp only [Prod.mk.injEq] at hA hB hJ
    obtain ⟨rfl, rfl, rfl⟩ := hA
    obtain ⟨rfl, rfl, rfl⟩ := hB
    obtain ⟨hJ0, rfl, rfl⟩ := hJ
    have hjl : rj.length = ra.length + rb.length := by rw [hJ0, List.length_append, M.shift_len]
    obtain ⟨n1, hn1⟩ : ∃ n, ra.length = n := ⟨_, rfl⟩
    obtain ⟨n2, hn2⟩ : ∃ n, rb.length = n := ⟨_, rfl⟩
    rw [hn1] at hta
    rw [hn2] at htb
    rw [hjl, hn1, hn2]
    have e1 : ((n1 + n2 : Nat) : Int) = (n1 : Int) + n2 := by omega
    have HN1 := Lib.hid hn1
    have HN2 := Lib.hid hn2
    have HJL := Lib.hid hjl
    have HJ0 := Lib.hid hJ0
    have HMem := Lib.hid hm
    clear hjl hn1 hn2 hJ0 hm f0 f1 g0 g1 h0 h1
    go_wp2
    rw [HWA.out]
    clear f0' f1' g0' g1' e1
    go_loopw [12, 13] (fun iv _ wr => ∃ i : Nat, iv = .int .i64 (i : Int) ∧ i ≤ n1 + n2 ∧ Below WA.heap.size WA wr) (fun iv _ _ => n1 + n2 - (intOf iv).toNat)
    case atStart => exact ⟨0, rfl, by omega, Below.refl _ _⟩
    case round =>
      obtain ⟨i, rfl, hi, hb⟩ := hrel
      have hbz := hb.size
      by_cases hlt : i < n1 + n2
      · have t9 := tsAt_keep T9.out hb (by rw [zA]; omega)
        obtain ⟨a9', c9', hs9, hv9⟩ := t9
        obtain ⟨b9, o9, hA9, hl9, hc9⟩ := hv9 (by rw [HJL.out, HN1.out, HN2.out]; omega)
        obtain ⟨rfl, -, rfl⟩ : a9' = a9 ∧ True ∧ c9' = cap9 := by simp only [Value.slice.injEq] at hs9; exact ⟨hs9.1.symm, trivial, hs9.2.2.symm⟩
        subst hA9
        obtain ⟨x0, x1, x2⟩ := hc9 i (by rw [HJL.out, HN1.out, HN2.out]; exact hlt)
        have hb9 : b9 < wr.heap.size := by omega
        by_cases hl1 : i < n1
        · have t2 := tsAt_keep T2.out hb (by omega)
          obtain ⟨a2', c2', hs2, hv2⟩ := t2
          obtain ⟨b2, o2, hA2, hl2, hc2⟩ := hv2 (by rw [HN1.out]; omega)
          obtain ⟨rfl, -, rfl⟩ : a2' = a2 ∧ True ∧ c2' = cap2 := by simp only [Value.slice.injEq] at hs2; exact ⟨hs2.1.symm, trivial, hs2.2.2.symm⟩
          subst hA2
          obtain ⟨y0, y1, y2⟩ := hc2 i (by rw [HN1.out]; exact hl1)
          have hb2 : b2 < wr.heap.size := by omega
          have hJX : rj[i]'(by rw [HJL.out, HN1.out, HN2.out]; exact hlt) = ra[i]'(by rw [HN1.out]; exact hl1) := by
            have hj := HJ0.out
            subst hj
            exact M.join_left ra _ rb i (by rw [HN1.out]; exact hl1) _
          rw [hJX] at x0 x1 x2
          obtain ⟨X, hX⟩ : ∃ X, ra[i]'(by rw [HN1.out]; exact hl1) = X := ⟨_, rfl⟩
          rw [hX] at x0 x1 x2 y0 y1 y2
          obtain ⟨p, q, r⟩ := X
          dsimp only at x0 x1 x2 y0 y1 y2
          obtain ⟨P, hP⟩ : ∃ P : Int, (p : Int) = P := ⟨_, rfl⟩
          obtain ⟨Q, hQ⟩ : ∃ P : Int, (q : Int) = P := ⟨_, rfl⟩
          obtain ⟨R, hR⟩ : ∃ P : Int, (r : Int) = P := ⟨_, rfl⟩
          rw [hP] at x0 y0
          rw [hQ] at x1 y1
          rw [hR] at x2 y2
          have u1 : (i : Int) < n1 := by omega
          have u2 : (i : Int) < n1 + n2 := by omega
          have m0 : ∀ o : Obj, (wr.alloc o).cell? ⟨b2, o2 + i * 3, none⟩ = some (.int .i64 P) := fun o => by rw [World.cell?_alloc_past _ _ _ hb2]; exact y0
          have m1 : ∀ o : Obj, (wr.alloc o).cell? ⟨b2, o2 + i * 3 + 1, none⟩ = some (.int .i64 Q) := fun o => by rw [World.cell?_alloc_past _ _ _ hb2]; exact y1
          have m2 : ∀ o : Obj, (wr.alloc o).cell? ⟨b2, o2 + i * 3 + 2, none⟩ = some (.int .i64 R) := fun o => by rw [World.cell?_alloc_past _ _ _ hb2]; exact y2
          have l0 : ∀ o : Obj, (wr.alloc o).cell? ⟨b9, o9 + i * 3, none⟩ = some (.int .i64 P) := fun o => by rw [World.cell?_alloc_past _ _ _ hb9]; exact x0
          have l1 : ∀ o : Obj, (wr.alloc o).cell? ⟨b9, o9 + i * 3 + 1, none⟩ = some (.int .i64 Q) := fun o => by rw [World.cell?_alloc_past _ _ _ hb9]; exact x1
          have l2 : ∀ o : Obj, (wr.alloc o).cell? ⟨b9, o9 + i * 3 + 2, none⟩ = some (.int .i64 R) := fun o => by rw [World.cell?_alloc_past _ _ _ hb9]; exact x2
          clear hX hP hQ hR hJX hs9 hs2 hv9 hv2 hc9 hc2
          go_wp2
          go_quiet (fail)
          go_wp2
          go_roundw
          case rel => exact ⟨i + 1, by go_num, by omega, below_drewN (hb.alloc hbz _) _⟩
          case measure => simp [intOf]; omega
        · obtain ⟨d, hd⟩ : ∃ d, i = n1 + d := ⟨i - n1, by omega⟩
          have hdlt : d < rb.length := by rw [HN2.out]; omega
          have t4 := tsAt_keep T4.out hb (by omega)
          obtain ⟨a4', c4', hs4, hv4⟩ := t4
          obtain ⟨b4, o4, hA4, hl4, hc4⟩ := hv4 (by omega)
          obtain ⟨rfl, -, rfl⟩ : a4' = a4 ∧ True ∧ c4' = cap4 := by simp only [Value.slice.injEq] at hs4; exact ⟨hs4.1.symm, trivial, hs4.2.2.symm⟩
          subst hA4
          obtain ⟨y0, y1, y2⟩ := hc4 d hdlt
          have hb4 : b4 < wr.heap.size := by omega
          have hmem := HMem.out d hdlt
          have hJX : rj[i]'(by rw [HJL.out, HN1.out, HN2.out]; exact hlt) = (rb[d].1, rb[d].2.1 + (len0 + 1), rb[d].2.2 + (len0 + 1)) := by
            have hj := HJ0.out
            subst hj
            have hid : i - ra.length = d := by rw [HN1.out]; omega
            have := M.join_right ra (len0 + 1) rb i (by rw [HN1.out]; exact hl1) (by rw [HJL.out, HN1.out, HN2.out]; exact hlt) (by rw [hid]; exact hdlt)
            simp only [hid] at this
            exact this
          rw [hJX] at x0 x1 x2
          obtain ⟨X, hX⟩ : ∃ X, rb[d] = X := ⟨_, rfl⟩
          rw [hX] at x0 x1 x2 y0 y1 y2 hmem
          obtain ⟨p, q, r⟩ := X
          dsimp only at x0 x1 x2 y0 y1 y2 hmem
          obtain ⟨P, hP⟩ : ∃ P : Int, (p : Int) = P := ⟨_, rfl⟩
          obtain ⟨Q, hQ⟩ : ∃ P : Int, (q : Int) = P := ⟨_, rfl⟩
          obtain ⟨R, hR⟩ : ∃ P : Int, (r : Int) = P := ⟨_, rfl⟩
          have z1 : ((q + (len0 + 1) : Nat) : Int) = Q + len0 + 1 := by omega
          have z2 : ((r + (len0 + 1) : Nat) : Int) = R + len0 + 1 := by omega
          rw [z1] at x1
          rw [z2] at x2
          rw [hP] at x0 y0
          rw [hQ] at y1
          rw [hR] at y2
          have Q0 : 0 ≤ Q := by omega
          have Q9 : Q ≤ 200 := by omega
          have R0 : 0 ≤ R := by omega
          have R9 : R ≤ 200 := by omega
          have u1 : ¬ (i : Int) < n1 := by omega
          have u2 : (i : Int) < n1 + n2 := by omega
          have i4 : (0 : Int) ≤ (i : Int) - n1 := by omega
          have i5 : ((i : Int) - n1).toNat = d := by omega
          have i6 : (i : Int) - n1 < n2 := by omega
          have m0 : ∀ o : Obj, (wr.alloc o).cell? ⟨b4, o4 + d * 3, none⟩ = some (.int .i64 P) := fun o => by rw [World.cell?_alloc_past _ _ _ hb4]; exact y0
          have m1 : ∀ o : Obj, (wr.alloc o).cell? ⟨b4, o4 + d * 3 + 1, none⟩ = some (.int .i64 Q) := fun o => by rw [World.cell?_alloc_past _ _ _ hb4]; exact y1
          have m2 : ∀ o : Obj, (wr.alloc o).cell? ⟨b4, o4 + d * 3 + 2, none⟩ = some (.int .i64 R) := fun o => by rw [World.cell?_alloc_past _ _ _ hb4]; exact y2
          have l0 : ∀ o : Obj, (wr.alloc o).cell? ⟨b9, o9 + i * 3, none⟩ = some (.int .i64 P) := fun o => by rw [World.cell?_alloc_past _ _ _ hb9]; exact x0
          have l1 : ∀ o : Obj, (wr.alloc o).cell? ⟨b9, o9 + i * 3 + 1, none⟩ = some (.int .i64 (Q + len0 + 1)) := fun o => by rw [World.cell?_alloc_past _ _ _ hb9]; exact x1
          have l2 : ∀ o : Obj, (wr.alloc o).cell? ⟨b9, o9 + i * 3 + 2, none⟩ = some (.int .i64 (R + len0 + 1)) := fun o => by rw [World.cell?_alloc_past _ _ _ hb9]; exact x2
          clear hX hP hQ hR hJX hs9 hs4 hv9 hv4 hc9 hc4 hmem z1 z2 hd
          go_wp2
          go_quiet (fail)
          go_wp2
          go_roundw
          case rel => exact ⟨i + 1, by go_num, by omega, below_drewN (hb.alloc hbz _) _⟩
          case measure => simp [intOf]; omega
      · obtain rfl : i = n1 + n2 := by omega
        have cE := cA.trans (hb.mono cA.size)
        clear hlt
        go_wp2
        go_ret
        exact ⟨rfl, cE⟩
end Go.Proofs.YtbcbpkpegfpbjaaDoor
