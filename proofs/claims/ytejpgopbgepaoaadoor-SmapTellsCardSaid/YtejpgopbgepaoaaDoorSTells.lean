/- The walk of SmapTells. -/
import Derived.Test.YtejpgopbgepaoaaDoorSFew
import Derived.Test.YtejpgopbgepaoaaDoorSRWrite
namespace Go.Proofs.YtejpgopbgepaoaaDoor
open Go.RowKit
set_option linter.unusedVariables false
set_option linter.unusedSimpArgs false

set_option maxRecDepth 100000 in
set_option maxHeartbeats 4000000 in
theorem stells_walk (a : Option Addr) (len cap : Nat) (s : ByteArray) (L : List M.S4) (w : World) (hn : L.length = len) (hv : Ss w (.slice a len cap) L) (hz : NNv (.slice a len cap)) (hT : Tabs w) :
    Calls Tryd.prog 3 #[.slice a len cap, .string s] w fun e w' => e = .returned (.bool true) ∧ Below w.heap.size w w' := by
  have al := Lib.hid (salive_any w hT)
  have FW := Lib.hid (fun W hv => sfew_any (.slice a len cap) L W hv)
  have HT := Lib.hid hT
  have HV := Lib.hid hv
  have HZ := Lib.hid hz
  have HN := Lib.hid hn
  clear hT hv hz hn
  go_enter Tryd.func3, Tryd.ntmps3
  go_wp2_with fail
  refine al.out.mono ?_
  rintro e w1 ⟨rfl, hb1⟩
  have HB1 := Lib.hid hb1
  clear hb1
  go_wp2_with fail
  refine (FW.out w1 (HV.out.keep HB1.out)).mono ?_
  rintro e w' ⟨q, rfl, hq, hwq⟩
  have hwq := hwq.symm
  subst hwq
  cases q with
  | false =>
    have hb := HB1.out
    clear hq
    go_wp2
    go_ret
    exact ⟨rfl, hb⟩
  | true =>
    have hl60 := hq rfl
    clear hq
    by_cases hs : 100 < s.size
    · have hb := HB1.out
      go_wp2
      go_ret
      exact ⟨rfl, hb⟩
    · have hs2 : s.size ≤ 100 := by omega
      have hsl : s.data.toList.length ≤ 100 := by have : s.data.toList.length = s.size := Array.length_toList; omega
      obtain ⟨l, hl⟩ : ∃ l, s.data.toList = l := ⟨_, rfl⟩
      rw [hl] at hsl
      obtain ⟨R, hR⟩ : ∃ R, M.maps L = R := ⟨_, rfl⟩
      have MP := Lib.hid (fun v W hv => smaps_any v L R W hv (by omega) hR)
      have MR := Lib.hid (fun W hv => refmaps_any (.slice a len cap) L R W hv (by omega) hR)
      have MW := Lib.hid (fun W hT hv => swrite_any s l (.slice a len cap) L R W hT hl (by omega) hv (by omega) hR)
      have RW := Lib.hid (fun W hv => refwrite_any s l (.slice a len cap) L R W hl (by omega) hv (by omega) hR)
      unfold MpP mres at MP MR
      have HL := Lib.hid hl60
      have hlen60 : len ≤ 60 := by have := HN.out; omega
      clear hl hR hl60 hs
      go_wp2_with (at_builtin; refine wpl_s4 rfl _ _ rfl w1.heap.size (.slice none 0 0) (.slice a len cap) [] L L rfl (ownV_nil _ _ _ _) rfl (HV.out.keep HB1.out) HZ.out (by have := HL.out; simp; omega) (Nat.le_refl _) rfl ?_)
      intro v2 w2 ho2 hb2
      have hs2b := hb2.size
      have HB2 := Lib.hid (HB1.out.trans (hb2.mono HB1.out.size))
      have HO2 := Lib.hid ho2.ss
      clear hb2 ho2
      go_wp2_with fail
      refine (MP.out _ w2 HO2.out).mono ?_
      rintro e w3 ⟨rfl, hb3⟩
      have HB3 := Lib.hid (HB2.out.trans (hb3.mono HB2.out.size))
      clear hb3
      go_wp2_with fail
      refine (MR.out w3 (HV.out.keep HB3.out)).mono ?_
      rintro e w4 ⟨rfl, hb4⟩
      have HB4 := Lib.hid (HB3.out.trans (hb4.mono HB3.out.size))
      clear hb4
      go_wp2_with fail
      refine (MW.out w4 (HT.out.keep HB4.out) (HV.out.keep HB4.out)).mono ?_
      rintro e w5 ⟨rfl, hb5⟩
      have HB5 := Lib.hid (HB4.out.trans (hb5.mono HB4.out.size))
      clear hb5
      cases R with
      | none =>
        dsimp only [wres]
        go_wp2_with fail
        refine (RW.out w5 (HV.out.keep HB5.out)).mono ?_
        rintro e w6 ⟨rfl, hb6⟩
        have hfin := HB5.out.trans (hb6.mono HB5.out.size)
        clear hb6
        dsimp only [wres]
        go_wp2
        go_ret
        exact ⟨rfl, hfin⟩
      | some m =>
        dsimp only [wres]
        obtain ⟨X, hX⟩ : ∃ T, wtx (bytes (M.spell (unitsL l))) (bytes m) = T := ⟨_, rfl⟩
        rw [hX]
        go_wp2_with fail
        refine (RW.out w5 (HV.out.keep HB5.out)).mono ?_
        rintro e w6 ⟨rfl, hb6⟩
        have hfin := HB5.out.trans (hb6.mono HB5.out.size)
        clear hb6
        dsimp only [wres]
        rw [hX]
        go_wp2
        go_ret
        exact ⟨rfl, hfin⟩
end Go.Proofs.YtejpgopbgepaoaaDoor
