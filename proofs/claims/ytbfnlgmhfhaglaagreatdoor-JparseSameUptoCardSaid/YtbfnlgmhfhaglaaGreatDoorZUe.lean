/- jparse.Units of the program. -/
import Derived.Test.YtbfnlgmhfhaglaaGreatDoorZUd
import Derived.Test.YtbfnlgmhfhaglaaGreatDoorZPl
namespace Go.Proofs.YtbfnlgmhfhaglaaGreatDoor
open Go.RowKit
set_option linter.unusedVariables false
set_option linter.unusedSimpArgs false

def uS (t : List UInt8) : Option (List Nat) := M.uF (t.length + 1) t
theorem uF_fuel (f g : Nat) (t : List UInt8) (hf : t.length < f) (hg : t.length < g) : M.uF f t = M.uF g t := by rw [M.uF_iff f t hf, M.uF_iff g t hg]
theorem uS_nil (t : List UInt8) (h : t.length = 0) : uS t = some [] := by unfold uS M.uF; rw [if_pos h]
theorem uS_cons (t : List UInt8) (h : 0 < t.length) : uS t = if (M.elS t).2 = 0 then none else (uS (t.drop (M.elS t).2)).map (M.pairU (M.elS t).1 ++ ·) := by
  conv => lhs; unfold uS M.uF
  rw [if_neg (by omega)]
  by_cases h0 : (M.elS t).2 = 0
  · rw [if_pos h0, if_pos h0]
  · rw [if_neg h0, if_neg h0]
    unfold uS
    rw [uF_fuel t.length ((t.drop (M.elS t).2).length + 1) _ (by rw [List.length_drop]; omega) (by omega)]
theorem pairU_two (r : Nat) : (M.pairU r).length ≤ 2 := by unfold M.pairU; split <;> simp
def UnQ (B : Nat) (r : Option (List Nat)) (w : World) (e : Ending) (w' : World) : Prop := match r with
  | some us => ∃ v', e = .returned (.tuple #[v', .bool true]) ∧ OwnI B w' v' (iN us) ∧ Below B w w'
  | none => e = .returned (.tuple #[nilV, .bool false]) ∧ Below B w w'
set_option maxRecDepth 100000 in
set_option maxHeartbeats 4000000 in
theorem unitsz_any (v : Value) (s : List UInt8) (w : World) (hT : TabX w) (hb : Bs w v s) (hl : s.length ≤ 1048000) :
    Calls Tryz.prog 67 #[v] w (UnQ w.heap.size (unitsV s) w) := by
  obtain ⟨n, hn⟩ : ∃ n, s.length = n := ⟨_, rfl⟩
  unfold unitsV
  rw [hn]
  have hb' := hb
  obtain ⟨a, cap, rfl, g1, g2, g3⟩ := hb'
  clear g3
  rw [hn] at hb g1 hl ⊢
  by_cases h2 : n < 2
  · rw [if_neg (by omega)]
    unfold UnQ
    simp only
    have h2' : (n : Int) - 1 < 1 := by omega
    clear hT hb hn h2 g1 g2
    go_enter Tryz.func67, Tryz.ntmps67
    go_wp2
    go_ret2
    exact ⟨rfl, Below.refl _ _⟩
  · obtain ⟨b, off, cap2, e, c1, c2, c3, hc⟩ := bs_open hb (by omega)
    rw [hn] at e c1 hc
    simp only [Value.slice.injEq, true_and] at e
    obtain ⟨rfl, rfl⟩ := e
    have e0 := hc 0 (by omega)
    have eN := hc (n - 1) (by omega)
    rw [Nat.add_zero] at e0
    have h2' : ¬ ((n : Int) - 1 < 1) := by omega
    have h3' : (n : Int) - 1 < n := by omega
    have hne : ∀ x : UInt8, ¬ x = 34 → ¬ (x.toNat : Int) = 34 := fun x h e => h (UInt8.toNat_inj.mp (by have : (34 : UInt8).toNat = 34 := rfl; omega))
    have h4' : ((n - 1 : Nat) : Int) = (n : Int) - 1 := by omega
    have h5' : ((n : Int) - 1).toNat = n - 1 := by omega
    by_cases hx : s.getD 0 0 = 34
    · rw [hx] at e0
      have e0' : w.cell? ⟨b, off, none⟩ = some (.int .u8 34) := e0
      by_cases hy : s.getD (n - 1) 0 = 34
      · rw [hy] at eN
        have eN' : w.cell? ⟨b, off + (n - 1), none⟩ = some (.int .u8 34) := eN
        rw [if_pos ⟨by omega, hx, hy⟩]
        obtain ⟨inn, hinn⟩ : ∃ t, (s.drop 1).take (n - 2) = t := ⟨_, rfl⟩
        have hp := bs_part hb 1 (n - 1) (by omega) (by omega)
        rw [show n - 1 - 1 = n - 2 by omega, hinn] at hp
        have hil : inn.length = n - 2 := by rw [← hinn]; simp; omega
        rw [hinn]
        have hR0 : M.uF n inn = uS inn := uF_fuel _ _ _ (by omega) (by omega)
        rw [hR0]
        obtain ⟨R, hR⟩ : ∃ R, uS inn = R := ⟨_, rfl⟩
        rw [hR]
        obtain ⟨m, hm⟩ : ∃ m, n - 2 = m := ⟨_, rfl⟩
        obtain ⟨cp, hcp⟩ : ∃ c, cap - 1 = c := ⟨_, rfl⟩
        rw [hm, hcp] at hp
        rw [hm] at hil
        have HP := Lib.hid hp
        have HT := Lib.hid hT
        have HR := Lib.hid hR
        have HIL := Lib.hid hil
        have q1 : (n : Int) - 1 - 1 = m := by omega
        have q2 : n - 1 - 1 = m := by omega
        have q3 : 1 ≤ (n : Int) - 1 := by omega
        have q4 : (n : Int) - 1 ≤ cap := by omega
        have q5 : ¬ cap - 1 = 0 := by omega
        have q6 : ¬ cp = 0 := by omega
        have q7 : m < cp := by omega
        have q8 : (cap : Int) ≤ maxLen := by omega
        have HM := Lib.hid (show m ≤ 1048000 by omega)
        clear hT hb hn h2 g1 g2 hc hp hR hR0 hil hinn hx hy hne hm e0 eN c1
        go_enter Tryz.func67, Tryz.ntmps67
        go_wp2
        go_loopw [6, 7, 8, 9] (fun ov iv _ _ wr => ∃ (i : Nat) (pre : List Nat), iv = .int .i64 (i : Int) ∧ i ≤ m ∧ (uS (inn.drop i)).map (pre ++ ·) = R ∧ pre.length ≤ 2 * i ∧ OwnI w.heap.size wr ov (iN pre) ∧ Below w.heap.size w wr) (fun _ iv _ _ _ => m - (intOf iv).toNat)
        case atStart => exact ⟨0, [], rfl, Nat.zero_le _, by rw [List.drop_zero, HR.out]; cases R <;> simp, by simp, World.ownsRow_nil _ _ _ _, Below.refl _ _⟩
        case round =>
          obtain ⟨i, pre, rfl, hi, hrel, hpl, ho, hb1⟩ := hrel
          have hsz := hb1.size
          by_cases hlt : i < m
          · have hil : 0 < (inn.drop i).length := by simp only [List.length_drop]; rw [HIL.out]; omega
            rw [uS_cons _ hil, List.drop_drop] at hrel
            have hpt := bs_part HP.out i m (by omega) (Nat.le_refl _)
            have etk : (inn.drop i).take (m - i) = inn.drop i := List.take_of_length_le (by simp only [List.length_drop]; rw [HIL.out]; omega)
            rw [etk] at hpt
            have EL := Lib.hid (elementz_any _ (inn.drop i) wr (HT.out.keep hb1) (hpt.keep hb1) hil (by simp only [List.length_drop]; rw [HIL.out]; have := HM.out; omega))
            unfold ElQ at EL
            have ev := M.elS_val (inn.drop i)
            have el := M.elS_le (inn.drop i) hil
            have ell : (inn.drop i).length = m - i := by simp only [List.length_drop]; rw [HIL.out]
            rw [ell] at el
            obtain ⟨⟨E1, E2⟩, hE⟩ : ∃ r, M.elS (inn.drop i) = r := ⟨_, rfl⟩
            rw [hE] at EL hrel ev el
            simp only at EL hrel ev el
            have i1 : (i : Int) < m := by omega
            have i2 : (m : Int) ≤ cp := by omega
            have i3 : ¬ cp - i = 0 := by omega
            have HM2 := HM.out
            by_cases hz : E2 = 0
            · subst hz
              rw [if_pos rfl] at hrel
              have hRn : R = none := by rw [← hrel]; rfl
              subst hRn
              clear hrel hpt etk hE ev el ell hil hlt
              go_wp2_with fail
              refine EL.out.mono ?_
              rintro e w2 ⟨rfl, hb2⟩
              have hb4 := hb1.trans (hb2.mono hsz)
              clear ho hb1 hb2
              go_wp2
              go_ret2
              unfold UnQ
              exact ⟨rfl, hb4⟩
            · rw [if_neg hz] at hrel
              have hrel2 : (uS (inn.drop (i + E2))).map ((pre ++ M.pairU E1) ++ ·) = R := by
                rw [← hrel]
                cases uS (inn.drop (i + E2)) with
                | none => rfl
                | some u => simp
              have HRL := Lib.hid hrel2
              have hp2 := pairU_two E1
              have hz2 : ¬ (E2 : Int) = 0 := by omega
              have UA := Lib.hid (fun (v : Value) (W : World) (ho : OwnI w.heap.size W v (iN pre)) (hs : w.heap.size ≤ W.heap.size) => uappz_any w.heap.size v pre E1 _ W ho ev (by omega) hs rfl)
              obtain ⟨RI, hRI⟩ : ∃ R : Int, (E1 : Int) = R := ⟨_, rfl⟩
              rw [hRI] at EL UA
              clear hrel hrel2 hpt etk hE ell hil hlt hRI ev
              go_wp2_with fail
              refine EL.out.mono ?_
              rintro e w2 ⟨rfl, hb2⟩
              have ho2 := ownsRow_keep ho hb2
              have hb4 := hb1.trans (hb2.mono hsz)
              have hs3 := hb4.size
              clear ho hb1 hb2
              go_wp2_with fail
              refine (UA.out _ w2 ho2 hs3).mono ?_
              rintro e w3 ⟨v3, rfl, ho4, hb5⟩
              have hb7 := hb4.trans hb5
              clear hb4 hb5 ho2
              go_wp2
              go_roundw
              case rel => exact ⟨i + E2, pre ++ M.pairU E1, by go_num, by omega, HRL.out, by simp; omega, ho4, hb7⟩
              case measure => simp [intOf]; omega
          · have him : i = m := by omega
            subst him
            rw [uS_nil _ (by simp only [List.length_drop]; rw [HIL.out]; omega)] at hrel
            have hRs : R = some pre := by rw [← hrel]; simp
            subst hRs
            clear hrel hlt
            go_wp2
            go_ret2
            unfold UnQ
            exact ⟨_, rfl, ho, hb1⟩
      · rw [if_neg (fun h => hy h.2.2)]
        unfold UnQ
        simp only
        have hy' := hne _ hy
        obtain ⟨D, hD⟩ : ∃ D : Int, ((s.getD (n - 1) 0).toNat : Int) = D := ⟨_, rfl⟩
        rw [hD] at eN hy'
        clear hT hb hn h2 g1 g2 hc hx hy hne hD e0
        go_enter Tryz.func67, Tryz.ntmps67
        go_wp2
        go_ret2
        exact ⟨rfl, Below.refl _ _⟩
    · rw [if_neg (fun h => hx h.2.1)]
      unfold UnQ
      simp only
      have hx' := hne _ hx
      obtain ⟨D, hD⟩ : ∃ D : Int, ((s.getD 0 0).toNat : Int) = D := ⟨_, rfl⟩
      rw [hD] at e0 hx'
      clear hT hb hn h2 g1 g2 hc hx hne hD eN
      go_enter Tryz.func67, Tryz.ntmps67
      go_wp2
      go_ret2
      exact ⟨rfl, Below.refl _ _⟩
end Go.Proofs.YtbfnlgmhfhaglaaGreatDoor
