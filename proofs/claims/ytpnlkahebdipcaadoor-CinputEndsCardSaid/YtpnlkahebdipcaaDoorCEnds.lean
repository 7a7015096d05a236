/- The walk of CinputEnds. -/
import Derived.Test.YtpnlkahebdipcaaDoorCLaw
import Derived.Test.YtpnlkahebdipcaaDoorCMath4
import Derived.Test.YtpnlkahebdipcaaDoorUStepS
import Derived.Test.YtpnlkahebdipcaaDoorIBase
import Derived.Deep.RegionHeld3
import Derived.Deep.DeepCutAuto
import Derived.Outline
namespace Go.Proofs.YtpnlkahebdipcaaDoor
open Go.RowKit
set_option linter.unusedVariables false
set_option linter.unusedSimpArgs false

theorem and3 (n : Int) : bits .and .i64 n 3 = n % 4 := by
  have h2 : (BitVec.ofInt 64 n &&& BitVec.ofInt 64 3).toNat = (n % 18446744073709551616).toNat % 4 := by
    have := Nat.and_two_pow_sub_one_eq_mod (n % 18446744073709551616).toNat 2
    rw [BitVec.toNat_and, BitVec.toNat_ofInt]
    exact this
  have h3 : bits .and .i64 n 3 = IntKind.i64.wrap (((BitVec.ofInt 64 n &&& BitVec.ofInt 64 3).toNat : Nat) : Int) := rfl
  rw [h3, h2, IntKind.wrap_i64]
  omega
theorem mk_cell (w : World) (j : Nat) (h : j < 4) : (w.alloc (.cells #[.string ⟨#[10]⟩, .string ⟨#[13]⟩, .string ⟨#[12]⟩, .string ⟨#[13, 10]⟩] 9)).cell? ⟨w.heap.size, j, none⟩ = some (.string (bytes (M.mkB j))) := by
  rw [World.cell?_alloc_at _ _ _ _ rfl]
  have : j = 0 ∨ j = 1 ∨ j = 2 ∨ j = 3 := by omega
  rcases this with rfl | rfl | rfl | rfl <;> rfl
theorem one_x (w : World) : Bs (w.alloc (.cells #[.int .u8 120] 5)) (.slice (some ⟨w.heap.size, 0, none⟩) 1 1) [120] := bs_cells_new w [120] [.int .u8 120] 1 rfl rfl (by simp)
set_option maxRecDepth 100000 in
set_option maxHeartbeats 8000000 in
theorem cends_walk (a0 : Option Addr) (len0 cap0 : Nat) (zs : List Int) (w : World) (hl : zs.length = len0) (b0 : Is w (.slice a0 len0 cap0) zs) (n0 : NN (.slice a0 len0 cap0)) (hT : Tabs w) :
    Calls Tryd.prog 5 #[.slice a0 len0 cap0] w fun e w' => e = .returned (.bool true) ∧ Below w.heap.size w w' := by
  have al := Lib.hid (alive_any w hT)
  have HT := Lib.hid hT
  by_cases h0 : 60 < len0
  · have h0' : (60 : Int) < len0 := by omega
    clear b0 n0 hT hl
    go_enter Tryd.func5, Tryd.ntmps5
    go_wp2_with fail
    refine al.out.mono ?_
    rintro e w1 ⟨rfl, hb⟩
    go_wp2
    go_ret
    exact ⟨rfl, hb⟩
  · have k0 : len0 ≤ 60 := by omega
    obtain ⟨a1, c1, he, m1, m2, m3⟩ := b0
    simp only [Value.slice.injEq] at he
    obtain ⟨rfl, hq, rfl⟩ := he
    clear hq
    have M3 := Lib.hid m3
    have Hl := Lib.hid hl
    clear n0 hT hl h0 m3 m1
    go_enter Tryd.func5, Tryd.ntmps5
    go_wp2_with fail
    refine al.out.mono ?_
    rintro e w1 ⟨rfl, hb⟩
    obtain ⟨V, hV⟩ : ∃ V, w1.alloc (.cells #[.string ⟨#[10]⟩, .string ⟨#[13]⟩, .string ⟨#[12]⟩, .string ⟨#[13, 10]⟩] 9) = V := ⟨_, rfl⟩
    have hbV : Below w.heap.size w V := by rw [← hV]; exact hb.alloc hb.size _
    have hVs : w.heap.size ≤ V.heap.size := hbV.size
    have hVm : w1.heap.size < V.heap.size := by rw [← hV]; simp
    have hmk : ∀ j, j < 4 → V.cell? ⟨w1.heap.size, j, none⟩ = some (.string (bytes (M.mkB j))) := fun j hj => by rw [← hV]; exact mk_cell w1 j hj
    obtain ⟨mb, hmb⟩ : ∃ n, w1.heap.size = n := ⟨_, rfl⟩
    have HV := Lib.hid hV
    have HM := Lib.hid hmk
    have Hmb := Lib.hid hmb
    rw [hmb] at HM hVm
    clear hV hmk hmb hb
    go_wp2
    rw [HV.out, Hmb.out]
    go_loopw [5, 6] (fun bv iv wr => ∃ (i : Nat) (ms : List Nat), iv = .int .i64 i ∧ i ≤ len0 ∧ ms.length = i ∧ OwnB V.heap.size wr bv (M.textE ms) ∧ Below V.heap.size V wr) (fun _ iv _ => len0 - (intOf iv).toNat)
    case atStart => exact ⟨0, [], rfl, by omega, rfl, World.ownsRow_nil _ _ _ _, Below.refl _ _⟩
    case round =>
      obtain ⟨i, ms, rfl, hi, hml, ho, hbr⟩ := hrel
      have htl := M.textE_len ms
      rw [hml] at htl
      have hsr := hbr.size
      have Hml := Lib.hid hml
      have Ho := Lib.hid ho
      clear hml ho
      by_cases hlt : i < len0
      · obtain ⟨b, off, rfl, hbk, hc⟩ := M3.out (by rw [Hl.out]; omega)
        have hil : i < zs.length := by rw [Hl.out]; exact hlt
        have hci := hc i hil
        obtain ⟨z, hz⟩ : ∃ z, zs[i] = z := ⟨_, rfl⟩
        rw [hz] at hci
        have hand := and3 z
        obtain ⟨j, hj⟩ : ∃ j : Nat, z % 4 = (j : Int) := ⟨(z % 4).toNat, by omega⟩
        rw [hj] at hand
        have j4 : j < 4 := by omega
        have hmj := HM.out j j4
        have e1 : wr.cell? ⟨b, off + i, none⟩ = some (.int .i64 z) := by
          rw [hbr.cell (p := ⟨b, off + i, none⟩) (Nat.lt_of_lt_of_le hbk hVs), hbV.cell (p := ⟨b, off + i, none⟩) hbk]; exact hci
        have e2 : wr.cell? ⟨mb, j, none⟩ = some (.string (bytes (M.mkB j))) := by
          rw [hbr.cell (p := ⟨mb, j, none⟩) hVm]; exact hmj
        have hkeep : ∀ W', Below V.heap.size wr W' → W'.cell? ⟨b, off + i, none⟩ = some (.int .i64 z) ∧ W'.cell? ⟨mb, j, none⟩ = some (.string (bytes (M.mkB j))) := fun W' hW => by
          refine ⟨?_, ?_⟩
          · rw [hW.cell (p := ⟨b, off + i, none⟩) (Nat.lt_of_lt_of_le hbk hVs)]; exact e1
          · rw [hW.cell (p := ⟨mb, j, none⟩) hVm]; exact e2
        have hal : ∀ o, Below V.heap.size wr (wr.alloc o).drew := fun o => ((Below.refl _ _).alloc hsr o).drew
        have i1 : (0 : Int) ≤ i := by omega
        have i2 : (i : Int) < len0 := by omega
        have j1 : (0 : Int) ≤ j := by omega
        have j2 : (j : Int) < 4 := by omega
        have hlm := (M.mkB_len j).2
        have hsn := M.textE_snoc ms j
        obtain ⟨T, hTT⟩ : ∃ T, M.textE ms = T := ⟨_, rfl⟩
        rw [hTT] at Ho htl hsn
        obtain ⟨U, hU⟩ : ∃ U, M.mkB j = U := ⟨_, rfl⟩
        rw [hU] at hkeep hlm hsn e2
        have Hkeep := Lib.hid hkeep
        have Hal := Lib.hid hal
        have Hsn := Lib.hid hsn
        clear hc hci hz hj hmj hkeep hal hsn hTT hU
        go_wp2
        go_region_held3 (fun W : World => W.cell? ⟨b, off + i, none⟩ = some (.int .i64 z) ∧ W.cell? ⟨mb, j, none⟩ = some (.string (bytes U))) (first | exact ⟨e1, e2⟩ | exact Hkeep.out _ (Hal.out _) | exact Hkeep.out _ ((Hal.out _).trans hb5) | exact Hkeep.out _ (((Hal.out _).trans hb5).trans hb7))
          (first
            | (refine stepl_append (by rfl) _ _ (by rfl) V.heap.size u5 (.slice (some ⟨wr.heap.size, 0, none⟩) 1 1) T [120] (T ++ [120]) (by rfl) (Ho.out.keep ((Below.refl _ _).alloc (Nat.le_refl _) _).drew) (by rfl) (one_x wr.drew) (by simp) (by simp; omega) (by simp; omega) rfl ?_; intro v5 w5 ho5 hb5)
            | (refine stepl_append_str (by rfl) _ _ (by rfl) V.heap.size v5 (T ++ [120]) U (T ++ [120] ++ U) (by rfl) ho5 (by rfl) (by simp; omega) (Nat.le_trans hsr ((Hal.out _).trans hb5).size) rfl ?_; intro v7 w7 ho7 hb7))
        all_goals
          have hb8 := hbr.trans (((Hal.out _).trans hb5).trans hb7)
          have Hb8 := Lib.hid hb8
          have Ho7 := Lib.hid ho7
          clear hb5 hb7 hbr hb8 ho7 ho5 e1 e2
          go_wp2
          go_roundw
          case rel => exact ⟨i + 1, ms ++ [j], by go_num, by omega, by simp [Hml.out], by rw [Hsn.out]; exact Ho7.out, Hb8.out⟩
          case measure => simp [intOf]; omega
      · obtain rfl : i = len0 := by omega
        obtain ⟨rs, hrs⟩ : ∃ rs, M.rn (M.textE ms) 0 = rs := ⟨_, rfl⟩
        have hfs := M.rn_lines ms []
        rw [List.nil_append, show ([] : List UInt8).length = 0 from rfl, hrs] at hfs
        have hrl : rs.length = 2 * i := by
          have := congrArg List.length hfs
          rw [List.length_map, M.alt_len, Hml.out] at this; exact this
        have hat : ∀ k (h : k < rs.length), (rs[k]).1 = if k % 2 = 0 then 120 else 10 := by
          intro k h
          have hk2 : k < (ms.flatMap fun _ => [(120 : Int), 10]).length := by rw [M.alt_len, Hml.out, ← hrl]; exact h
          have e := congrArg (fun l => l[k]?) hfs
          simp only [List.getElem?_map, List.getElem?_eq_getElem h, List.getElem?_eq_getElem hk2, Option.map_some, Option.some.injEq] at e
          rw [e]; exact M.alt_at ms k hk2
        obtain ⟨N, hN⟩ : ∃ N, rs.length = N := ⟨_, rfl⟩
        rw [hN] at hrl
        have hR := cruns_any _ _ rs _ (HT.out.keep (hbV.trans (hbr.mono hVs))) Ho.out.bs (by omega) hrs
        have HR := Lib.hid hR
        have HN := Lib.hid hN
        have Hat := Lib.hid hat
        have t1 : ((N : Int) != 2 * (i : Int)) = false := by simp; omega
        have t2 : ((N : Int) == 2 * (i : Int)) = true := by simp; omega
        have hN9 : N ≤ 120 := by omega
        have hwr : w.heap.size ≤ wr.heap.size := Nat.le_trans hVs hsr
        have hbw := hbV.trans (hbr.mono hVs)
        clear hlt hrs hfs hrl hat hR hN htl
        go_wp2_with fail
        refine HR.out.mono ?_
        rintro e w5 ⟨v5, rfl, ho5, hb5⟩
        have c5 := hbw.trans (hb5.mono hwr)
        have c5s := c5.size
        obtain ⟨a5, cap5, rfl, p1, p2, p3⟩ := rs_open ho5.vs HN.out
        have P3 := Lib.hid p3
        clear hb5 ho5 p3
        go_wp2
        go_loopw [8] (fun kv wr => ∃ k : Nat, kv = .int .i64 k ∧ k ≤ N ∧ Below w5.heap.size w5 wr) (fun kv _ => N - (intOf kv).toNat)
        case atStart => exact ⟨0, rfl, by omega, Below.refl _ _⟩
        case round =>
          obtain ⟨k, rfl, hk, hbk⟩ := hrel
          have hsk := hbk.size
          by_cases hlt : k < N
          · have hkr : k < rs.length := by rw [HN.out]; exact hlt
            obtain ⟨b, off, rfl, hblt, hc⟩ := P3.out (by omega)
            have d1 := (hc k hkr).1
            have hv := Hat.out k hkr
            obtain ⟨r, hr⟩ : ∃ r, (rs[k]).1 = r := ⟨_, rfl⟩
            rw [hr] at d1 hv
            have e1 : wr.cell? ⟨b, off + k * 2, none⟩ = some (.int .i64 r) := by rw [hbk.cell (p := ⟨b, off + k * 2, none⟩) hblt]; exact d1
            have hkeep : ∀ W', Below w5.heap.size wr W' → W'.cell? ⟨b, off + k * 2, none⟩ = some (.int .i64 r) := fun W' hW => by
              rw [hW.cell (p := ⟨b, off + k * 2, none⟩) hblt]; exact e1
            have hal : ∀ o, Below w5.heap.size wr (wr.alloc o).drew := fun o => ((Below.refl _ _).alloc hsk o).drew
            have Hkeep := Lib.hid hkeep
            have Hal := Lib.hid hal
            have z1 : (0 : Int) ≤ k := by omega
            have z2 : (k : Int) < N := by omega
            clear hc d1 hkeep hal hr
            by_cases hpar : k % 2 = 0
            · rw [if_pos hpar] at hv
              subst hv
              have hp : (k : Int) % 2 = 0 := by omega
              have hp2 : (k : Int).tmod 2 = 0 := by rw [Int.tmod_eq_emod_of_nonneg z1]; exact hp
              clear hpar
              go_wp2
              have e3 := Hkeep.out _ (Hal.out (.cells #[.int .i64 120, .int .i64 10] 3))
              have e4 : (wr.alloc (.cells #[.int .i64 120, .int .i64 10] 3)).cell? ⟨b, off + k * 2, none⟩ = _ := e3
              go_region
              all_goals
                have hb9 : Below w5.heap.size w5 (wr.alloc (.cells #[.int .i64 120, .int .i64 10] 3)).drew := hbk.trans (Hal.out _)
                clear e1 e3 e4 hbk
                go_wp2
                go_roundw
                case rel => exact ⟨k + 1, by go_num, by omega, by first | exact hb9 | exact hb9.drew⟩
                case measure => simp [intOf]; omega
            · rw [if_neg hpar] at hv
              subst hv
              have hp : (k : Int) % 2 = 1 := by omega
              have hp2 : (k : Int).tmod 2 = 1 := by rw [Int.tmod_eq_emod_of_nonneg z1]; exact hp
              clear hpar
              go_wp2
              have e3 := Hkeep.out _ (Hal.out (.cells #[.int .i64 120, .int .i64 10] 3))
              have e4 : (wr.alloc (.cells #[.int .i64 120, .int .i64 10] 3)).cell? ⟨b, off + k * 2, none⟩ = _ := e3
              go_region
              all_goals
                have hb9 : Below w5.heap.size w5 (wr.alloc (.cells #[.int .i64 120, .int .i64 10] 3)).drew := hbk.trans (Hal.out _)
                clear e1 e3 e4 hbk
                go_wp2
                go_roundw
                case rel => exact ⟨k + 1, by go_num, by omega, by first | exact hb9 | exact hb9.drew⟩
                case measure => simp [intOf]; omega
          · obtain rfl : k = N := by omega
            have cf := c5.trans (hbk.mono c5s)
            clear hlt hbk
            go_wp2
            go_ret
            exact ⟨rfl, cf⟩
end Go.Proofs.YtpnlkahebdipcaaDoor
