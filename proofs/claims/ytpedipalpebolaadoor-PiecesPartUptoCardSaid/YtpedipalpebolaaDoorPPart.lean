/- The walk of PiecesPart. -/
import Derived.Test.YtpedipalpebolaaDoorPTell
import Derived.Laws.Concat
namespace Go.Proofs.YtpedipalpebolaaDoor
open Go.RowKit
set_option linter.unusedVariables false
set_option linter.unusedSimpArgs false

theorem pbytes_of (s : ByteArray) : bytes s.data.toList = s := by simp [bytes]
theorem ownP_one (w : World) (t : List UInt8) (S : ByteArray) (f : Int) (hS : bytes t = S) : OwnP w.heap.size (w.alloc (.cells #[.string S, .int .i64 f] 33)) (.slice (some ⟨w.heap.size, 0, none⟩) 1 1) [(t, f)] := by
  subst hS
  exact ⟨World.ownsRow_lit w (base := w.heap.size) (e := 33) (size := 2) #[.string (bytes t), .int .i64 f] 1 (Nat.le_refl _) (by decide) rfl, map_len (f := pv) (fun _ => rfl) _, map_one pv_one _⟩
/-- Is a byte one that the law lets by? -/
def plainB (c : UInt8) : Prop := c.toNat < 128 ∧ c.toNat ≠ 10 ∧ c.toNat ≠ 13
set_option maxRecDepth 100000 in
set_option maxHeartbeats 8000000 in
theorem ppart_walk (a0 : Option Addr) (len0 cap0 : Nat) (a1 : Option Addr) (len1 cap1 : Nat) (s2 : ByteArray) (L : M.Pcs) (src : List UInt8) (w : World) (e0 : L.length = len0) (b0 : Ps w (.slice a0 len0 cap0) L) (n0 : NNv (.slice a0 len0 cap0))
    (e1 : src.length = len1) (b1 : Bs w (.slice a1 len1 cap1) src) (n1 : ∀ n c, Value.slice a1 len1 cap1 = .slice none n c → c = 0) (m2 : s2.size ≤ maxLen) (u0 : L.length + (M.textP L).length ≤ 1048576) (u2 : s2.size ≤ 1048576) (hT : Tabs w) :
    Calls Tryd.prog 5 #[.slice a0 len0 cap0, .slice a1 len1 cap1, .string s2] w fun e w' => e = .returned (.bool true) ∧ Below w.heap.size w w' := by
  have al := Lib.hid (palive_any w hT)
  obtain ⟨r, hr⟩ : ∃ r, decide (L.length + (M.textP L).length ≤ 400) = r := ⟨_, rfl⟩
  have FW := Lib.hid (fun W hW => pfew_any (.slice a0 len0 cap0) L r W hW u0 hr)
  have B0 := Lib.hid b0
  have B1 := Lib.hid b1
  have HT := Lib.hid hT
  have N0 := Lib.hid n0
  clear b0 b1 n1 hT n0 m2
  have early : (r = false ∨ (r = true ∧ 200 < len1) ∨ (r = true ∧ ¬ 200 < len1 ∧ 50 < s2.size)) → Calls Tryd.prog 5 #[.slice a0 len0 cap0, .slice a1 len1 cap1, .string s2] w fun e w' => e = .returned (.bool true) ∧ Below w.heap.size w w' := by
    intro hq
    have hq2 : (r = false) ∨ (r = true ∧ (200 : Int) < len1) ∨ (r = true ∧ (¬ (200 : Int) < len1) ∧ (50 : Int) < s2.size) := by
      rcases hq with h | ⟨h, h1⟩ | ⟨h, h1, h2⟩
      · exact .inl h
      · exact .inr (.inl ⟨h, by omega⟩)
      · exact .inr (.inr ⟨h, by omega, by omega⟩)
    clear hr hq
    rcases hq2 with rfl | ⟨rfl, t1⟩ | ⟨rfl, t1, t2⟩
    all_goals
      go_enter Tryd.func5, Tryd.ntmps5
      go_wp2_with fail
      refine al.out.mono ?_
      rintro e w1 ⟨rfl, hb1⟩
      go_wp2_with fail
      refine (FW.out _ (B0.out.keep hb1)).mono ?_
      rintro e w' ⟨rfl, rfl⟩
      go_wp2
      go_ret
      exact ⟨rfl, hb1⟩
  cases r with
  | false => exact early (.inl rfl)
  | true =>
    by_cases h200 : 200 < len1
    · exact early (.inr (.inl ⟨rfl, h200⟩))
    by_cases h50 : 50 < s2.size
    · exact early (.inr (.inr ⟨rfl, h200, h50⟩))
    have h400 := of_decide_eq_true hr
    have q : ¬ (200 : Int) < len1 := by omega
    have q2 : ¬ (50 : Int) < s2.size := by omega
    obtain ⟨t, ht⟩ : ∃ t, M.textP L = t := ⟨_, rfl⟩
    rw [ht] at h400 u0
    obtain ⟨z, hz⟩ : ∃ z, s2.data.toList = z := ⟨_, rfl⟩
    have hzl : z.length = s2.size := by rw [← hz]; exact Array.length_toList
    obtain ⟨S2, hS2⟩ : ∃ S, s2 ++ ByteArray.mk #[10] = S := ⟨_, rfl⟩
    have hS2z : bytes (z ++ [10]) = S2 := by rw [← hS2, ← hz]; rfl
    have R1 := Lib.hid (fun v vs W hW hv hvs => psegs_any v vs L src t W hW hv hvs (by omega) (by omega) (by omega) ht)
    have R2 := Lib.hid (fun (hx : ∀ y ∈ z, plainB y) v vs W hW hv hvs => psegs_any v vs ((z ++ [10], -1) :: L) src _ W hW hv hvs (by rw [M.textP_cons, ht]; simp <;> omega) (by simp <;> omega) (by omega) rfl)
    have hsd := fun (hx : ∀ y ∈ z, plainB y) => M.segs_ahead z src hx L
    rw [ht] at hsd
    have hsl := M.segsP_le t src L 0
    have hsm := M.segs_small t src L 0 (by rw [ht]; omega)
    obtain ⟨G, hG⟩ : ∃ G, M.segsP t src 0 L = G := ⟨_, rfl⟩
    rw [hG] at R1 hsd hsl hsm
    have HSM := Lib.hid (fun s hs => Nat.le_trans (hsm s hs) (show t.length ≤ 400 by omega))
    have hadd : ∀ W, (Op.stringOp .add s2 (ByteArray.mk #[10])).run Tryd.prog W = .ok (.string S2) W := fun W => by rw [← hS2]; exact run_string_add_sum W _ _ (by rw [show (ByteArray.mk #[10]).size = 1 from rfl]; omega)
    have HADD := Lib.hid hadd
    have HSD := Lib.hid hsd
    have HS2 := Lib.hid hS2z
    have HZ := Lib.hid hz
    have hp9 : ([(z ++ [10], -1)] : M.Pcs).length + L.length ≤ 4294967296 := by simp; omega
    have hG9 : G.length ≤ 1000 := by omega
    clear hG hsl ht e0 e1 u0 h400 hr early h200 h50 hS2 hS2z hz hsd hadd hsm
    go_enter Tryd.func5, Tryd.ntmps5
    go_wp2_with fail
    refine al.out.mono ?_
    rintro e w1 ⟨rfl, hb1⟩
    go_wp2_with fail
    refine (FW.out _ (B0.out.keep hb1)).mono ?_
    rintro e w' ⟨rfl, rfl⟩
    have hs1 := hb1.size
    have HB1 := Lib.hid hb1
    clear hb1
    go_wp2
    go_loop [8] (fun iv => ∃ i : Nat, iv = .int .i64 (i : Int) ∧ i ≤ s2.size ∧ ∀ j (hj : j < z.length), j < i → plainB z[j]) (fun iv => s2.size - (intOf iv).toNat)
    case atStart => exact ⟨0, rfl, by omega, fun j _ h => by omega⟩
    case round =>
      obtain ⟨i, rfl, hi, hpl⟩ := hrel
      have HPL := Lib.hid hpl
      clear hpl
      by_cases hlt : i < s2.size
      · have hzi : i < z.length := by omega
        have hget : s2[i]'hlt = z[i] := by
          have : (s2.data.toList)[i]'(by rw [HZ.out]; exact hzi) = z[i] := by congr 1 <;> exact HZ.out
          rw [← this]; rfl
        obtain ⟨c, hc⟩ : ∃ c, z[i] = c := ⟨_, rfl⟩
        rw [hc] at hget
        have HC := Lib.hid hc
        have i1 : (i : Int) < s2.size := by omega
        obtain ⟨C, hC⟩ : ∃ C : Int, (c.toNat : Int) = C := ⟨_, rfl⟩
        clear hc
        have hw : ((C == 10) = true) ∨ ((C == 10) = false ∧ (C == 13) = true) ∨ ((C == 10) = false ∧ (C == 13) = false ∧ decide ((128 : Int) ≤ C) = true) ∨ ((C == 10) = false ∧ (C == 13) = false ∧ decide ((128 : Int) ≤ C) = false ∧ plainB c) := by
          by_cases h1 : C = 10
          · left; simp [h1]
          by_cases h2 : C = 13
          · right; left; simp [h2]
          by_cases h3 : 128 ≤ C
          · right; right; left; simp [h1, h2, h3]
          · right; right; right
            refine ⟨by simp [h1], by simp [h2], by simp <;> omega, ?_, ?_, ?_⟩ <;> omega
        rcases hw with t1 | ⟨t1, t2⟩ | ⟨t1, t2, t3⟩ | ⟨t1, t2, t3, hp⟩
        · go_wp2
          go_ret
          exact ⟨rfl, HB1.out⟩
        · go_wp2
          go_ret
          exact ⟨rfl, HB1.out⟩
        · go_wp2
          go_ret
          exact ⟨rfl, HB1.out⟩
        · have HPP := Lib.hid hp
          clear hp
          go_wp2
          go_round
          case rel =>
            refine ⟨i + 1, by go_num, by omega, fun j hj h => ?_⟩
            by_cases hji : j < i
            · exact HPL.out j hj hji
            · obtain rfl : j = i := by omega
              rw [HC.out]; exact HPP.out
          case measure => simp [intOf]; omega
      · obtain rfl : i = s2.size := by omega
        have hall : ∀ y ∈ z, plainB y := fun y hy => by
          obtain ⟨j, hj, rfl⟩ := List.getElem_of_mem hy
          exact HPL.out j hj (by omega)
        have r3 := R2.out hall
        rw [HSD.out hall] at r3
        have R3 := Lib.hid r3
        have hadd := HADD.out
        have q3 : decide ((s2.size : Int) < s2.size) = false := by simp
        obtain ⟨K, hK⟩ : ∃ K, s2.size = K := ⟨_, rfl⟩
        clear r3 hall
        go_wp2_with fail
        refine (R1.out _ _ _ (HT.out.keep HB1.out) (B0.out.keep HB1.out) (B1.out.keep HB1.out)).mono ?_
        rintro e w4 ⟨v4, rfl, ho4, hb4⟩
        have hb5 := HB1.out.trans (hb4.mono HB1.out.size)
        have hs5 := hb5.size
        have HB5 := Lib.hid hb5
        have HO4 := Lib.hid (ssAt_of ho4)
        obtain ⟨a4, cap4, rfl, -⟩ := id HO4.out
        clear hb4 hb5 ho4
        go_wp2_with (at_builtin; refine wpl_pieces rfl _ _ rfl w4.heap.size (.slice (some ⟨w4.heap.size, 0, none⟩) 1 1) (.slice a0 len0 cap0) [(z ++ [10], -1)] L ((z ++ [10], -1) :: L) rfl (ownP_one w4 (z ++ [10]) S2 (-1) HS2.out) rfl (B0.out.keep (HB5.out.alloc hs5 _)) N0.out hp9 (by simp) rfl ?_)
        intro v6 w6 ho6 hb6
        have hb7 := (HB5.out.alloc hs5 (.cells #[.string S2, .int .i64 (-1)] 33)).trans (hb6.mono hs5)
        have hx6 : Below w4.heap.size w4 w6 := ((Below.refl _ _).alloc (Nat.le_refl _) (.cells #[.string S2, .int .i64 (-1)] 33)).trans hb6
        have HB7 := Lib.hid hb7
        have HX6 := Lib.hid hx6
        have HO6 := Lib.hid ho6.ps
        clear hb6 hb7 ho6 hx6
        go_wp2_with fail
        refine (R3.out _ _ _ (HT.out.keep HB7.out) HO6.out (B1.out.keep HB7.out)).mono ?_
        rintro e w8 ⟨v8, rfl, ho8, hb8⟩
        have hb9 := HB7.out.trans (hb8.mono HB7.out.size)
        have hs8 := ssAt_of ho8
        have hs4 := ssAt_keep (ssAt_keep HO4.out HX6.out (Nat.le_refl _)) hb8 HX6.out.size
        have hl8 : w4.heap.size ≤ w8.heap.size := Nat.le_trans HX6.out.size hb8.size
        have hgl : (G.map M.down).length = G.length := List.length_map _
        obtain ⟨a8, cap8, rfl, -⟩ := id hs8
        rw [hgl] at hs8 ⊢
        obtain ⟨g, hg⟩ : ∃ g, G.length = g := ⟨_, rfl⟩
        rw [hg] at hgl hs4 hs8 hG9 ⊢
        have HS4 := Lib.hid hs4
        have HS8 := Lib.hid hs8
        have HB9 := Lib.hid hb9
        have HGL := Lib.hid hgl
        have HG := Lib.hid hg
        clear hs4 hs8 hb9 hb8 ho8 hgl hg
        go_wp2
        go_loopw [11] (fun iv wr => ∃ m : Nat, iv = .int .i64 (m : Int) ∧ m ≤ g ∧ Below w8.heap.size w8 wr) (fun iv _ => g - (intOf iv).toNat)
        case atStart => exact ⟨0, rfl, by omega, Below.refl _ _⟩
        case round =>
          obtain ⟨m, rfl, hm, hb⟩ := hrel
          have hbz := hb.size
          by_cases hmg : m < g
          · obtain ⟨b, off, rfl, hbk, c0, c1, c2, c3⟩ := ssAt_get (ssAt_keep HS4.out hb hl8) m (by rw [HG.out]; exact hmg)
            obtain ⟨b', off', rfl, hbk', d0, d1, d2, d3⟩ := ssAt_get (ssAt_keep HS8.out hb (Nat.le_refl _)) m (by rw [HGL.out]; exact hmg)
            have hdn : (G.map M.down)[m]'(by rw [HGL.out]; exact hmg) = M.down (G[m]'(by rw [HG.out]; exact hmg)) := by simp
            rw [hdn] at d0 d1 d2 d3
            have hxm := HSM.out _ (List.getElem_mem (show m < G.length by rw [HG.out]; exact hmg))
            obtain ⟨x, hx⟩ : ∃ x, (G[m]'(by rw [HG.out]; exact hmg)) = x := ⟨_, rfl⟩
            obtain ⟨x0, x1, x2, x3⟩ := x
            simp only [hx, M.down] at c0 c1 c2 c3 d0 d1 d2 d3 hxm
            have hx9 : (x0 : Int) + 1 ≤ 401 := by omega
            rw [show (((x0 + 1 : Nat)) : Int) = (x0 : Int) + 1 by omega] at d0
            have i1 : (0 : Int) ≤ m := by omega
            have i2 : (m : Int) < g := by omega
            have hlt' : b' < wr.heap.size := by omega
            clear hx hdn
            have hal : Below wr.heap.size wr (wr.alloc (.cells #[.int .i64 ((x0 : Int) + 1), .int .i64 (x1 : Int), .int .i64 (x2 : Int), .int .i64 (x3 : Int)] 35)) := (Below.refl _ _).alloc (Nat.le_refl _) _
            have f0 := (hal.cell (p := ⟨b', off' + m * 4, none⟩) hlt').trans d0
            have f1 := (hal.cell (p := ⟨b', off' + m * 4 + 1, none⟩) hlt').trans d1
            have f2 := (hal.cell (p := ⟨b', off' + m * 4 + 2, none⟩) hlt').trans d2
            have f3 := (hal.cell (p := ⟨b', off' + m * 4 + 3, none⟩) hlt').trans d3
            have hb2 := hb.trans (hal.mono hbz)
            clear hal
            go_wp2
            go_quiet (fail)
            go_wp2
            go_roundw
            case rel => exact ⟨m + 1, by go_num, by omega, pbelow_drewN hb2 _⟩
            case measure => simp [intOf]; omega
          · obtain rfl : m = g := by omega
            have hbf := HB9.out.trans (hb.mono HB9.out.size)
            clear hmg hb
            go_wp2
            go_ret
            exact ⟨rfl, hbf⟩
end Go.Proofs.YtpedipalpebolaaDoor
