/- Texts of ours in one: RdBw. -/
import Derived.Test.YtlobinjdgcidmaaGreatDoorQs37
import Derived.Test.YtlobinjdgcidmaaGreatDoorQs42
import Derived.Test.YtlobinjdgcidmaaGreatDoorQs04
/- The walk of SreadBack. -/
namespace Go.Proofs.YtlobinjdgcidmaaGreatDoor
open Go.RowKit
set_option linter.unusedVariables false
set_option linter.unusedSimpArgs false

def FewI (L : List M.S4) (i : Nat) : Prop := ∀ j (hj : j < L.length), j < i → (L[j]).1 ≤ 200 ∨ 100000 < (L[j]).1
theorem fewI_zero (L : List M.S4) : FewI L 0 := fun j _ h => absurd h (by omega)
theorem fewI_step {L : List M.S4} {i : Nat} (h : FewI L i) (hi : i < L.length) (hx : (L[i]).1 ≤ 200 ∨ 100000 < (L[i]).1) : FewI L (i + 1) := fun j hj hl => by
  by_cases e : j = i
  · subst e; exact hx
  · exact h j hj (by omega)
theorem fewI_all {L : List M.S4} {n : Nat} (h : FewI L n) (hn : L.length = n) : ∀ x ∈ L, x.1 ≤ 200 ∨ 100000 < x.1 := fun x hx => by
  obtain ⟨j, hj, rfl⟩ := List.getElem_of_mem hx
  exact h j hj (by omega)
def FewQ (L : List M.S4) (w : World) (e : Ending) (w' : World) : Prop := ∃ q, e = .returned (.bool q) ∧ (q = true → L.length ≤ 60 ∧ ∀ x ∈ L, x.1 ≤ 200 ∨ 100000 < x.1) ∧ w' = w
set_option maxRecDepth 100000 in
set_option maxHeartbeats 2000000 in
theorem sfewq_any (v : Value) (L : List M.S4) (w : World) (hv : SsS w v L) :
    Calls Tryz.prog 7 #[v] w (FewQ L w) := by
  have hpa := s4At_of hv
  obtain ⟨a, cap, rfl, h1, h2, -⟩ := id hpa
  have HP := Lib.hid hpa
  obtain ⟨n, hn⟩ : ∃ n, L.length = n := ⟨_, rfl⟩
  have HN := Lib.hid hn
  rw [hn] at h1 ⊢
  have hm : cap ≤ 9223372036854775807 := by unfold maxLen at h2; omega
  clear hpa hv hn
  go_enter Tryz.func7, Tryz.ntmps7
  go_wp2
  go_loopw [3] (fun iv wr => ∃ i : Nat, iv = .int .i64 (i : Int) ∧ i ≤ n ∧ FewI L i ∧ wr = w) (fun iv _ => n - (intOf iv).toNat)
  case atStart => exact ⟨0, rfl, by omega, fewI_zero L, rfl⟩
  case round =>
    obtain ⟨i, rfl, hi, hfi, hwq⟩ := hrel
    have HFI := Lib.hid hfi
    clear hfi
    have hwq := hwq.symm
    subst hwq
    by_cases hlt : i < n
    · obtain ⟨b, off, rfl, hbk, c0, c1, c2, c3⟩ := s4At_get (by have h := HP.out; rw [HN.out] at h; exact h) i (by rw [HN.out]; exact hlt)
      obtain ⟨x, hx⟩ : ∃ x, (L[i]'(by rw [HN.out]; exact hlt)).1 = x := ⟨_, rfl⟩
      rw [hx] at c0
      have HXX := Lib.hid hx
      have i1 : (i : Int) < n := by omega
      have i0 : (0 : Int) ≤ i := by omega
      clear c1 c2 c3 hx
      by_cases g1 : 200 < x
      · by_cases g2 : x ≤ 100000
        · go_wp2
          go_ret
          exact ⟨false, rfl, fun h => by simp at h, rfl⟩
        · have g3 : 100000 < x := by omega
          go_wp2
          go_roundw
          case rel => exact ⟨i + 1, by go_num, by omega, fewI_step HFI.out (by rw [HN.out]; exact hlt) (by rw [HXX.out]; omega), by first | rfl | trivial⟩
          case measure => simp [intOf]; omega
      · have g3 : x ≤ 200 := by omega
        go_wp2
        go_roundw
        case rel => exact ⟨i + 1, by go_num, by omega, fewI_step HFI.out (by rw [HN.out]; exact hlt) (by rw [HXX.out]; omega), by first | rfl | trivial⟩
        case measure => simp [intOf]; omega
    · obtain rfl : i = n := by omega
      go_wp2
      go_ret
      exact ⟨_, rfl, fun h => ⟨by have := of_decide_eq_true h; have := HN.out; omega, fewI_all HFI.out HN.out⟩, rfl⟩
set_option maxRecDepth 100000 in
set_option maxHeartbeats 8000000 in
theorem srback_walk (a : Option Addr) (len cap : Nat) (s : ByteArray) (L : List M.S4) (ml : Int) (w : World) (hn : L.length = len) (hv : SsS w (.slice a len cap) L) (hz : NNv (.slice a len cap)) (u0 : L.length ≤ 209715) (u1 : s.size ≤ 1048576) (hm : w.cell? ⟨0, 0, none⟩ = some (.int .i64 ml)) (hT : TabX w) :
    Calls Tryz.prog 3 #[.slice a len cap, .string s] w fun e w' => e = .returned (.bool true) ∧ Below w.heap.size w w' := by
  have al := Lib.hid (salive25_any ml w hm)
  have FW := Lib.hid (fun W hv => sfewq_any (.slice a len cap) L W hv)
  obtain ⟨R, hR⟩ : ∃ R, M.maps L = R := ⟨_, rfl⟩
  have MR := Lib.hid (fun W hv => refmaps_any (.slice a len cap) L R W hv u0 hR)
  unfold MpP mres at MR
  obtain ⟨l, hl⟩ : ∃ l, s.data.toList = l := ⟨_, rfl⟩
  have hsz : l.length = s.size := by rw [← hl]; exact Array.length_toList
  have RW := Lib.hid (fun W hv => refwrite_any s l (.slice a len cap) L R W hl (by omega) hv u0 hR)
  have HT := Lib.hid hT
  have HM := Lib.hid hm
  have HV := Lib.hid hv
  have HN := Lib.hid hn
  have HR := Lib.hid hR
  have HL := Lib.hid hl
  have HSZ := Lib.hid hsz
  clear hT hv hz hn hR hm hl hsz
  go_enter Tryz.func3, Tryz.ntmps3
  go_wp2_with fail
  refine al.out.mono ?_
  rintro e w1 ⟨rfl, hb1⟩
  have HB1 := Lib.hid hb1
  clear hb1
  go_wp2_with fail
  refine (RW.out w1 (HV.out.keep HB1.out)).mono ?_
  rintro e w2 ⟨rfl, hb2⟩
  have HB2 := Lib.hid (HB1.out.trans (hb2.mono HB1.out.size))
  clear hb2
  cases R with
  | none =>
    dsimp only [wres]
    go_wp2_with fail
    refine (FW.out w2 (HV.out.keep HB2.out)).mono ?_
    rintro e w' ⟨q, rfl, hq, hwq⟩
    have hwq := hwq.symm
    subst hwq
    have hb := HB2.out
    clear hq
    by_cases hs : 100 < s.size
    · cases q
      all_goals (
        go_wp2
        go_ret
        exact ⟨rfl, hb⟩)
    · cases q
      all_goals (
        go_wp2
        go_ret
        exact ⟨rfl, hb⟩)
  | some acc =>
    dsimp only [wres]
    obtain ⟨Z, hZ⟩ : ∃ Z, wtx (bytes (M.spell (unitsL l))) (bytes acc) = Z := ⟨_, rfl⟩
    rw [hZ]
    have HZ := Lib.hid hZ
    clear hZ
    go_wp2_with fail
    refine (FW.out w2 (HV.out.keep HB2.out)).mono ?_
    rintro e w' ⟨q, rfl, hq, hwq⟩
    have hwq := hwq.symm
    subst hwq
    cases q with
    | false =>
      have hb := HB2.out
      clear hq
      go_wp2
      go_ret
      exact ⟨rfl, hb⟩
    | true =>
    obtain ⟨hl60, hlin⟩ := hq rfl
    clear hq
    by_cases hs : 100 < s.size
    · have hb := HB2.out
      go_wp2
      go_ret
      exact ⟨rfl, hb⟩
    have hacc := maps_short L acc hlin HR.out
    have hpl := mapsG_pl L true (0, 0, 0, 0) acc HR.out
    have hl100 : l.length ≤ 100 := by have := HSZ.out; omega
    obtain ⟨ta, tl, tz, h, K, pv, hk, ok⟩ := sr_all l acc hl100 hpl (by omega)
    rw [HZ.out] at tl
    have hb0 := M.read_back L acc HR.out
    obtain ⟨U, hU⟩ : ∃ U, unitsL l = U := ⟨_, rfl⟩
    obtain ⟨V, hV⟩ : ∃ V, acc.map UInt8.toNat = V := ⟨_, rfl⟩
    have Ul : U.length ≤ 300 := by rw [← hU]; have := unitsL_len l.length l (Nat.le_refl _); omega
    have Vl : V.length ≤ 3000 := by rw [← hV, List.length_map]; omega
    have hUle : ∀ u ∈ U, u ≤ 65535 := by rw [← hU]; exact unitsL_le l.length l (Nat.le_refl _)
    have hVle : ∀ u ∈ V, u ≤ 65535 := fun u hu => by
      rw [← hV] at hu
      obtain ⟨c, hc, rfl⟩ := List.mem_map.1 hu
      have := plB_lt (hpl c hc)
      omega
    have hval : (M.validAll l).2 = true → txtU U = l := fun hv => by rw [← hU]; exact txt_units l.length l (Nat.le_refl _) hv
    rw [hU, hV] at tl tz pv ok
    rw [hV] at ta
    have rd : M.readM (txtU V) = some L := by rw [ta]; exact hb0
    obtain ⟨TX, hTX⟩ : ∃ x, sjS (M.spell U) (M.spell V) = x := ⟨_, rfl⟩
    rw [hTX] at tl tz pv
    have zs : Z.size ≤ 20000 := by have : Z.data.toList.length = Z.size := Array.length_toList; rw [tl] at this; omega
    have PV := Lib.hid pv
    have OK := Lib.hid ok
    have HK := Lib.hid hk
    have RD := Lib.hid rd
    have TL := Lib.hid tl
    have TZ := Lib.hid tz
    have RB := Lib.hid hb0
    have HVAL := Lib.hid hval
    have HUL := Lib.hid hUle
    have HVL := Lib.hid hVle
    have HUn := Lib.hid Ul
    have HVn := Lib.hid Vl
    have HAC := Lib.hid hacc
    have H60 := Lib.hid hl60
    clear hlin hpl hl100 ta tl tz pv hk ok hb0 hU hV Ul Vl hUle hVle hval rd hTX hacc hl60
    -- the map, as bytes
    have cv := bw_conv w2 Z
    have hbs := bw_bs w2 Z (by omega)
    rw [TL.out] at hbs
    have bwb := bw_below w2 Z
    obtain ⟨cc, hcc⟩ : ∃ x, grownCap w2 Z.size 0 5 = x := ⟨_, rfl⟩
    rw [hcc] at cv hbs
    obtain ⟨WY, hWY⟩ : ∃ x, Lib.bytesWorld w2 5 Z = x := ⟨_, rfl⟩
    rw [hWY] at cv hbs bwb
    have bY := HB2.out.trans (bwb.mono HB2.out.size)
    have RDc := Lib.hid (sread_any _ TX h K U V L ml WY (HT.out.keep bY) hbs (by have := TZ.out; omega) (cellM_keep bY HM.out) PV.out HK.out OK.out HUL.out HVL.out (by have := HUn.out; omega) (by have := HVn.out; omega) RD.out)
    unfold RdQ at RDc
    have BY := Lib.hid bY
    clear hbs bwb hcc hWY bY
    go_wp2_with fail
    refine RDc.out.mono ?_
    rintro e w3 ⟨mv, rfl, hms, hmn, hb3⟩
    have BY3 := Lib.hid (BY.out.trans (hb3.mono BY.out.size))
    have HMS := Lib.hid hms
    obtain ⟨ma, mn, mc, hmv⟩ : ∃ a n c, mv = .slice a n c := by
      obtain ⟨a, c, h, -⟩ := s4At_of hms
      exact ⟨a, _, c, h⟩
    subst hmv
    clear hb3 cv hms hmn
    -- the name, as bytes
    have cv := bw_conv w3 s
    have hbs := bw_bs w3 s (by omega)
    rw [HL.out] at hbs
    have bwb := bw_below w3 s
    obtain ⟨c3, hcc⟩ : ∃ x, grownCap w3 s.size 0 5 = x := ⟨_, rfl⟩
    rw [hcc] at cv hbs
    obtain ⟨WX, hWX⟩ : ∃ x, Lib.bytesWorld w3 5 s = x := ⟨_, rfl⟩
    rw [hWX] at cv hbs bwb
    obtain ⟨vq, vok, hvv⟩ : ∃ q ok, M.validAll l = (q, ok) := ⟨_, _, rfl⟩
    have VA := Lib.hid (refvalid_any _ l vq vok WX hbs (by have := HSZ.out; omega) hvv)
    have BX := Lib.hid (BY3.out.trans (bwb.mono BY3.out.size))
    have HMX := Lib.hid (HMS.out.keep bwb)
    have HVV := Lib.hid hvv
    clear hbs bwb hcc hWX hvv hs
    go_wp2_with fail
    refine VA.out.mono ?_
    rintro e w' ⟨rfl, rfl⟩
    -- the mappings alone
    go_wp2_with fail
    refine (MR.out WX (HV.out.keep BX.out)).mono ?_
    rintro e w4 ⟨rfl, hb4⟩
    simp only [Option.isSome_some, Option.getD_some]
    obtain ⟨mb, hmb⟩ : ∃ x, bytes acc = x := ⟨_, rfl⟩
    rw [hmb]
    have mz : mb.size ≤ 200000 := by rw [← hmb, bytes_size]; have := HAC.out; have := H60.out; omega
    have BX4 := Lib.hid (BX.out.trans (hb4.mono BX.out.size))
    have MP := Lib.hid (smappings_any mb acc (some L) ml w4 hmb mz (cellM_keep BX4.out HM.out) RB.out)
    simp only [Option.isSome_some, Option.getD_some] at MP
    have HM4 := Lib.hid (HMX.out.keep hb4)
    clear hb4 cv hmb mz
    go_wp2_with fail
    refine MP.out.mono ?_
    rintro e w5 ⟨kv, rfl, hks, hkn, hb5⟩
    have BX5 := Lib.hid (BX4.out.trans (hb5.mono BX4.out.size))
    have HM5 := Lib.hid (HM4.out.keep hb5)
    have HKS := Lib.hid hks
    obtain ⟨ka, kn, kc, hkv⟩ : ∃ a n c, kv = .slice a n c := by
      obtain ⟨a, c, h, -⟩ := s4At_of hks
      exact ⟨a, _, c, h⟩
    subst hkv
    have S1 := Lib.hid (ssame_any _ _ (.slice ma mn mc) (.slice a len cap) L w5 (s4At_of HM5.out) (s4At_of (HV.out.keep BX5.out)) (by have := H60.out; omega))
    clear hb5 hks hkn
    have key : vok = true → (bytes (txtU U) = s) := fun hv => by
      have := HVAL.out (by rw [HVV.out]; exact hv)
      rw [this, ← HL.out]
      rfl
    obtain ⟨Nm, hNm⟩ : ∃ x, bytes (txtU U) = x := ⟨_, rfl⟩
    rw [hNm] at key ⊢
    cases vok with
    | true =>
      have e1 := key rfl
      subst e1
      clear key hNm
      go_wp2_with fail
      refine S1.out.mono ?_
      rintro e w6 ⟨rfl, hb6⟩
      have S2 := Lib.hid (ssame_any _ _ (.slice ka kn kc) (.slice a len cap) L w6 (s4At_of (HKS.out.keep hb6)) (s4At_of (HV.out.keep (BX5.out.trans (hb6.mono BX5.out.size)))) (by have := H60.out; omega))
      go_wp2_with fail
      refine S2.out.mono ?_
      rintro e w7 ⟨rfl, hb7⟩
      have hb := BX5.out.trans ((hb6.trans (hb7.mono hb6.size)).mono BX5.out.size)
      clear hb6 hb7
      go_wp2
      go_ret
      exact ⟨rfl, hb⟩
    | false =>
      clear key hNm
      go_wp2_with fail
      refine S1.out.mono ?_
      rintro e w6 ⟨rfl, hb6⟩
      have S2 := Lib.hid (ssame_any _ _ (.slice ka kn kc) (.slice a len cap) L w6 (s4At_of (HKS.out.keep hb6)) (s4At_of (HV.out.keep (BX5.out.trans (hb6.mono BX5.out.size)))) (by have := H60.out; omega))
      go_wp2_with fail
      refine S2.out.mono ?_
      rintro e w7 ⟨rfl, hb7⟩
      have hb := BX5.out.trans ((hb6.trans (hb7.mono hb6.size)).mono BX5.out.size)
      clear hb6 hb7
      go_wp2
      go_ret
      exact ⟨rfl, hb⟩
end Go.Proofs.YtlobinjdgcidmaaGreatDoor
