/- The walk of SmapShift. -/
import Derived.Test.YtbmnmnfdlajgnaaDoorSShift0
import Derived.Test.YtbmnmnfdlajgnaaDoorSFew3
import Derived.Test.YtbmnmnfdlajgnaaDoorSRMaps
import Derived.Laws.Concat
import Derived.Outline
namespace Go.Proofs.YtbmnmnfdlajgnaaDoor
open Go.RowKit
set_option linter.unusedVariables false
set_option linter.unusedSimpArgs false

theorem shiftG_len : ∀ (L : List M.S4) (f : Bool) (last : M.S4) (acc : List UInt8), M.mapsG f last L = some acc → 0 ≤ last.1 → last.1 ≤ 100000 → (f = true → last.1 = 0) → (acc.length : Int) ≤ 37 * L.length + 100000 - last.1 ∧ ∀ x ∈ L, M.okS x = true := by
  intro L
  induction L with
  | nil => intro f last acc h h0 h1 _; simp [M.mapsG] at h; subst h; simp; omega
  | cons x t ih =>
    intro f last acc h h0 h1 hf
    simp only [M.mapsG] at h
    by_cases hg : M.goodS f last x = true
    · rw [if_pos hg] at h
      obtain ⟨k1, k2⟩ := M.good_parts f last x hg
      have k3 := (M.okS_iff x).1 k1
      cases hm : M.mapsG false x t with
      | none => rw [hm] at h; simp at h
      | some u =>
        rw [hm] at h
        simp only [Option.map_some, Option.some.injEq] at h
        obtain ⟨h2, h4⟩ := ih false x u hm (by omega) (by omega) (by simp)
        have hle : last.1 ≤ x.1 := by
          cases f with
          | true => have := hf rfl; omega
          | false => have := k2 rfl; omega
        have h3 := M.chunk_len f last x hle
        refine ⟨?_, fun y hy => ?_⟩
        · rw [← h, List.length_append]; simp only [List.length_cons]; push_cast; omega
        · rcases List.mem_cons.1 hy with rfl | hy
          · exact k1
          · exact h4 y hy
    · rw [if_neg hg] at h; simp at h
def FewQ (L : List M.S4) (w : World) (e : Ending) (w' : World) : Prop := ∃ q, e = .returned (.bool q) ∧ (q = true → L.length ≤ 60 ∧ ∀ j (h : j < L.length), L[j].1 ≤ 200 ∨ 100000 < L[j].1) ∧ w' = w
set_option maxRecDepth 100000 in
set_option maxHeartbeats 2000000 in
theorem sfew2_any (v : Value) (L : List M.S4) (w : World) (hv : Ss w v L) :
    Calls Tryd.prog 8 #[v] w (FewQ L w) := by
  have hpa := s4At_of hv
  obtain ⟨a, cap, rfl, h1, h2, -⟩ := id hpa
  have HP := Lib.hid hpa
  obtain ⟨n, hn⟩ : ∃ n, L.length = n := ⟨_, rfl⟩
  have HN := Lib.hid hn
  rw [hn] at h1 ⊢
  have hm : cap ≤ 9223372036854775807 := by unfold maxLen at h2; omega
  clear hpa hv hn
  go_enter Tryd.func8, Tryd.ntmps8
  go_wp2
  go_loopw [3] (fun iv wr => ∃ i : Nat, iv = .int .i64 (i : Int) ∧ i ≤ n ∧ (∀ j (h : j < L.length), j < i → L[j].1 ≤ 200 ∨ 100000 < L[j].1) ∧ wr = w) (fun iv _ => n - (intOf iv).toNat)
  case atStart => exact ⟨0, rfl, by omega, fun j h hj => by omega, rfl⟩
  case round =>
    obtain ⟨i, rfl, hi, hall, hwq⟩ := hrel
    have hwq := hwq.symm
    subst hwq
    have HAll := Lib.hid hall
    by_cases hlt : i < n
    · obtain ⟨b, off, rfl, hbk, c0, c1, c2, c3⟩ := s4At_get (by have h := HP.out; rw [HN.out] at h; exact h) i (by rw [HN.out]; exact hlt)
      obtain ⟨x, hx⟩ : ∃ x, (L[i]'(by rw [HN.out]; exact hlt)).1 = x := ⟨_, rfl⟩
      rw [hx] at c0
      have Hx := Lib.hid hx
      have i1 : (i : Int) < n := by omega
      have i0 : (0 : Int) ≤ i := by omega
      have hnext : (x ≤ 200 ∨ 100000 < x) → ∀ j (h : j < L.length), j < i + 1 → L[j].1 ≤ 200 ∨ 100000 < L[j].1 := fun hxx j h hj => by
        by_cases hji : j < i
        · exact HAll.out j h hji
        · obtain rfl : j = i := by omega
          rw [Hx.out]; exact hxx
      have HNx := Lib.hid hnext
      clear c1 c2 c3 hx hall hnext
      by_cases g1 : 200 < x
      · by_cases g2 : x ≤ 100000
        · go_wp2
          go_ret
          exact ⟨false, rfl, fun h => by simp at h, rfl⟩
        · have g3 : 100000 < x := by omega
          go_wp2
          go_roundw
          case rel => exact ⟨i + 1, by go_num, by omega, HNx.out (.inr g3), by first | rfl | trivial⟩
          case measure => simp [intOf]; omega
      · have g3 : x ≤ 200 := by omega
        go_wp2
        go_roundw
        case rel => exact ⟨i + 1, by go_num, by omega, HNx.out (.inl g3), by first | rfl | trivial⟩
        case measure => simp [intOf]; omega
    · obtain rfl : i = n := by omega
      clear hall
      go_wp2
      go_ret
      exact ⟨_, rfl, fun h => ⟨by have := of_decide_eq_true h; have := HN.out; omega, fun j hj => HAll.out j hj (by rw [HN.out] at hj; exact hj)⟩, rfl⟩
def mD (d : Int) (L : List M.S4) (i : Nat) : List M.S4 := (L.take i).map (M.downS d)
def mS (d : Int) (L : List M.S4) (i : Nat) : List M.S4 := (L.take i).map (M.srcS d)
theorem two_s4 (w : World) (o : Obj) (y : M.S4) : Vs 4 ((w.alloc o).alloc (.cells #[.int .i64 y.1, .int .i64 y.2.1, .int .i64 y.2.2.1, .int .i64 y.2.2.2] 28)) (.slice (some ⟨w.heap.size + 1, 0, none⟩) 1 1) [s4v y] := by
  have h := one_s4 (w.alloc o) y
  rwa [show (w.alloc o).heap.size = w.heap.size + 1 by simp] at h
theorem blanks50 : ∀ d : Fin 51, (ByteArray.mk #[32, 32, 32, 32, 32, 32, 32, 32, 32, 32, 32, 32, 32, 32, 32, 32, 32, 32, 32, 32, 32, 32, 32, 32, 32, 32, 32, 32, 32, 32, 32, 32, 32, 32, 32, 32, 32, 32, 32, 32, 32, 32, 32, 32, 32, 32, 32, 32, 32, 32]).extract 0 d.val = bytes (List.replicate d.val 32) := by decide +kernel
set_option maxRecDepth 100000 in
set_option maxHeartbeats 8000000 in
theorem sshift_main (a : Option Addr) (len cap : Nat) (d s : Int) (L : List M.S4) (acc : List UInt8) (w : World) (hn : L.length = len) (hv : Ss w (.slice a len cap) L) (u0 : L.length ≤ 209715) (hT : Tabs w) (hm : M.maps L = some acc) (h0 : L ≠ [])
    (d0 : 0 ≤ d) (d1 : d ≤ 50) (s0 : 0 ≤ s) (s1 : s ≤ 1000) :
    Calls Tryd.prog 3 #[.slice a len cap, .int .i64 d, .int .i64 s] w fun e w' => e = .returned (.bool true) ∧ Below w.heap.size w w' := by
  have al := Lib.hid (salive_any w hT)
  have MR := Lib.hid (fun W hv => refmaps_any (.slice a len cap) L _ W hv u0 hm)
  unfold MpP mres at MR
  simp only [Option.getD_some, Option.isSome_some] at MR
  have FW := Lib.hid (fun W hv => sfew2_any (.slice a len cap) L W hv)
  obtain ⟨hal, hok⟩ := shiftG_len L true (0, 0, 0, 0) acc hm (by decide) (by decide) (fun _ => rfl)
  have HOK := Lib.hid hok
  have HAL := Lib.hid hal
  have HV := Lib.hid hv
  have HN := Lib.hid hn
  have HM := Lib.hid hm
  have hlen0 : 0 < len := by rw [← hn]; exact List.length_pos_iff.2 h0
  have H0 := Lib.hid h0
  have hacc8 : acc.length ≤ 8000000 := by simp at hal; omega
  obtain ⟨A, hA⟩ : ∃ A, bytes acc = A := ⟨_, rfl⟩
  have hAs : A.size = acc.length := by rw [← hA]; exact bytes_size acc
  have HA := Lib.hid hA
  rw [hA] at MR
  have tl0 : ((len : Int) == 0) = false := by rw [beq_eq_false_iff_ne]; omega
  have HAs := Lib.hid hAs
  have HT := Lib.hid hT
  clear hT hv hn hm hal hok hA h0 u0 hAs
  go_enter Tryd.func3, Tryd.ntmps3
  go_wp2_with fail
  refine al.out.mono ?_
  rintro e w1 ⟨rfl, hb1⟩
  have HB1 := Lib.hid hb1
  clear hb1
  go_wp2_with fail
  refine (MR.out w1 (HV.out.keep HB1.out)).mono ?_
  rintro e w2 ⟨rfl, hb2⟩
  have HB2 := Lib.hid (HB1.out.trans (hb2.mono HB1.out.size))
  clear hb2
  go_wp2_with fail
  refine (FW.out w2 (HV.out.keep HB2.out)).mono ?_
  rintro e w' ⟨q, rfl, hq, hwq⟩
  have hwq := hwq.symm
  subst hwq
  cases q with
  | false =>
    have hb := HB2.out
    clear hq
    go_wp2
    go_ret
    exact ⟨rfl, hb⟩
  | true =>
    obtain ⟨hl60, hfew⟩ := hq rfl
    have hlen60 : len ≤ 60 := by have := HN.out; omega
    have HF2 := Lib.hid hfew
    have HS2 := Lib.hid (s4At_of (HV.out.keep HB2.out))
    clear hq hl60 hfew
    go_wp2
    go_loopw [10, 11, 12] (fun mv kv iv wr => ∃ i : Nat, iv = .int .i64 (i : Int) ∧ i ≤ len ∧ OwnS4 w2.heap.size wr mv (mD d L i) ∧ OwnS4 w2.heap.size wr kv (mS s L i) ∧ Apart2 mv kv ∧ (∀ j (h : j < L.length), j < i → L[j].2.2.1 ≤ 1073740824) ∧ Below w2.heap.size w2 wr) (fun _ _ iv _ => len - (intOf iv).toNat)
    case atStart => exact ⟨0, rfl, by omega, ownV_nil _ _ _ _, ownV_nil _ _ _ _, apart_nil, fun j h hj => by omega, Below.refl _ _⟩
    case round =>
      obtain ⟨i, rfl, hi, ho1, ho2, hap, hall, hb⟩ := hrel
      have HAll := Lib.hid hall
      have HO1 := Lib.hid ho1
      have HO2 := Lib.hid ho2
      have HAp := Lib.hid hap
      have HB := Lib.hid hb
      have hsz := hb.size
      clear hall ho1 ho2 hap hb
      by_cases hlt : i < len
      · have hil : i < L.length := by rw [HN.out]; exact hlt
        obtain ⟨b, off, rfl, hbk, c0, c1, c2, c3⟩ := s4At_get (s4At_keep HS2.out HB.out (Nat.le_refl _)) i hil
        have hmem := List.getElem_mem hil
        have hokx := (M.okS_iff _).1 (HOK.out _ hmem)
        obtain ⟨⟨p, q, r, t⟩, hx⟩ : ∃ x, L[i] = x := ⟨_, rfl⟩
        rw [hx] at c0 c1 c2 c3 hokx
        simp only at c0 c1 c2 c3 hokx
        have Hx := Lib.hid hx
        obtain ⟨p0, p1, q0, q1, r0, r1, t0, t1⟩ := hokx
        have i1 : (i : Int) < len := by omega
        have i0 : (0 : Int) ≤ i := by omega
        clear hx hmem
        have hpd : mD d L i ++ [(p + d, q, r, t)] = mD d L (i + 1) := by unfold mD; rw [List.take_succ_eq_append_getElem hil, Hx.out]; simp [M.downS]
        have hps : mS s L i ++ [(p, q, r + s, t)] = mS s L (i + 1) := by unfold mS; rw [List.take_succ_eq_append_getElem hil, Hx.out]; simp [M.srcS]
        have Hpd := Lib.hid hpd
        have Hps := Lib.hid hps
        have htl1 : (mD d L i).length ≤ 60 := by unfold mD; rw [List.length_map, List.length_take]; omega
        have htl2 : (mS s L i).length ≤ 60 := by unfold mS; rw [List.length_map, List.length_take]; omega
        have Htl1 := Lib.hid htl1
        have Htl2 := Lib.hid htl2
        have hnx : r ≤ 1073740824 → ∀ j (h : j < L.length), j < i + 1 → L[j].2.2.1 ≤ 1073740824 := fun hr j h hj => by
          by_cases hji : j < i
          · exact HAll.out j h hji
          · obtain rfl : j = i := by omega
            rw [Hx.out]; exact hr
        have HNX := Lib.hid hnx
        have HC := Lib.hid (And.intro c0 (And.intro c1 (And.intro c2 c3)))
        clear hpd hps htl1 htl2 hnx
        go_wp2_with (at_builtin; refine wpl_s4at rfl _ _ rfl w2.heap.size u10 (.slice (some ⟨wr.heap.size + 1, 0, none⟩) 1 1) (mD d L i) (mD d L (i + 1)) (p + d, q, r, t) rfl (HO1.out.keep (((Below.refl _ _).alloc (Nat.le_refl _) _).alloc (by simp) _)) rfl (two_s4 wr _ (p + d, q, r, t)) (by have := Htl1.out; omega) (by simp; omega) Hpd.out ?_)
        intro v3 w3 ho3 hb3 hk3 hbl3
        have hW2 : Below wr.heap.size wr ((wr.alloc (.cells #[.int .i64 (p + d), .int .i64 q, .int .i64 r, .int .i64 t] 28)).alloc (.cells #[.int .i64 (p + d), .int .i64 q, .int .i64 r, .int .i64 t] 28)) := ((Below.refl _ _).alloc (Nat.le_refl _) _).alloc (by simp) _
        have hsW2 : ((wr.alloc (.cells #[.int .i64 (p + d), .int .i64 q, .int .i64 r, .int .i64 t] 28)).alloc (.cells #[.int .i64 (p + d), .int .i64 q, .int .i64 r, .int .i64 t] 28)).heap.size = wr.heap.size + 2 := by simp
        have HO3 := Lib.hid ho3
        have HK2 : Hid (OwnS4 w2.heap.size w3 u11 (mS s L i)) := Lib.hid (own_other (HO2.out.keep hW2) (fun m hm heq => hk3 m (by rw [hsW2] at hm; omega) (fun h => HAp.out m h heq)))
        have HAp3 : Hid (Apart2 v3 u11) := Lib.hid (fun m hm hu => by
          rcases hbl3 with h | h
          · exact HAp.out m (by rw [← h]; exact hm) hu
          · rw [h] at hm
            have hlt2 := (World.ownsRow.lt HO2.out.1 m hu).2
            simp only [Option.some.injEq] at hm
            omega)
        have HB3 : Hid (Below w2.heap.size w2 w3) := Lib.hid (((HB.out.alloc hsz _).alloc (by simp; omega) _).trans hb3)
        have hb34 : Below w2.heap.size wr w3 := (hW2.mono hsz).trans hb3
        obtain ⟨k0, k1, k2, k3⟩ := HC.out
        have f0 := (hb34.cell (p := ⟨b, off + i * 4, none⟩) hbk).trans k0
        have f1 := (hb34.cell (p := ⟨b, off + i * 4 + 1, none⟩) hbk).trans k1
        have f2 := (hb34.cell (p := ⟨b, off + i * 4 + 2, none⟩) hbk).trans k2
        have f3 := (hb34.cell (p := ⟨b, off + i * 4 + 3, none⟩) hbk).trans k3
        have hsz3 : w2.heap.size ≤ w3.heap.size := HB3.out.size
        clear ho3 hb3 hk3 hbl3 hW2 hsW2 hb34 c0 c1 c2 c3 k0 k1 k2 k3
        by_cases hbig : 1073740824 < r
        · have hfin := (HB2.out.trans (HB3.out.mono HB2.out.size)).alloc (by have := HB2.out.size; omega) (.cells #[.int .i64 p, .int .i64 q, .int .i64 r, .int .i64 t] 28)
          have HFin := Lib.hid hfin
          clear hfin
          go_wp2
          go_ret
          exact ⟨rfl, HFin.out⟩
        · have hbig2 : r ≤ 1073740824 := by omega
          have tb : decide ((1073740824 : Int) < r) = false := by simpa using hbig2
          clear hbig
          go_wp2_with (at_builtin; refine wpl_s4at rfl _ _ rfl w2.heap.size u11 (.slice (some ⟨w3.heap.size + 1, 0, none⟩) 1 1) (mS s L i) (mS s L (i + 1)) (p, q, r + s, t) rfl (HK2.out.keep (((Below.refl _ _).alloc (Nat.le_refl _) _).alloc (by simp) _)) rfl (two_s4 w3 _ (p, q, r + s, t)) (by have := Htl2.out; omega) (by simp; omega) Hps.out ?_)
          intro v5 w5 ho5 hb5 hk5 hbl5
          have hW4 : Below w3.heap.size w3 ((w3.alloc (.cells #[.int .i64 p, .int .i64 q, .int .i64 (r + s), .int .i64 t] 28)).alloc (.cells #[.int .i64 p, .int .i64 q, .int .i64 (r + s), .int .i64 t] 28)) := ((Below.refl _ _).alloc (Nat.le_refl _) _).alloc (by simp) _
          have hsW4 : ((w3.alloc (.cells #[.int .i64 p, .int .i64 q, .int .i64 (r + s), .int .i64 t] 28)).alloc (.cells #[.int .i64 p, .int .i64 q, .int .i64 (r + s), .int .i64 t] 28)).heap.size = w3.heap.size + 2 := by simp
          have HO5 := Lib.hid ho5
          have HK5 : Hid (OwnS4 w2.heap.size w5 v3 (mD d L (i + 1))) := Lib.hid (own_other (HO3.out.keep hW4) (fun m hm heq => hk5 m (by rw [hsW4] at hm; omega) (fun h => HAp3.out m heq h)))
          have HAp5 : Hid (Apart2 v3 v5) := Lib.hid (fun m hm hu => by
            rcases hbl5 with h | h
            · exact HAp3.out m hm (by rw [← h]; exact hu)
            · rw [h] at hu
              have hlt2 := (World.ownsRow.lt HO3.out.1 m hm).2
              simp only [Option.some.injEq] at hu
              omega)
          have HB5 : Hid (Below w2.heap.size w2 w5) := Lib.hid (((HB3.out.alloc hsz3 _).alloc (by simp; omega) _).trans hb5)
          clear ho5 hb5 hk5 hbl5 hW4 hsW4 f0 f1 f2 f3
          go_wp2
          go_roundw
          case rel => exact ⟨i + 1, by go_num, by omega, HK5.out, HO5.out, HAp5.out, HNX.out hbig2, HB5.out⟩
          case measure => simp [intOf]; omega
      · obtain rfl : i = len := by omega
        have hfm : mD d L i = L.map (M.downS d) := by unfold mD; rw [List.take_of_length_le (by rw [HN.out]; exact Nat.le_refl _)]
        have hfs : mS s L i = L.map (M.srcS s) := by unfold mS; rw [List.take_of_length_le (by rw [HN.out]; exact Nat.le_refl _)]
        have hlin : ∀ x ∈ L, x.1 + d ≤ 100000 := fun x hx => by
          obtain ⟨j, hj, rfl⟩ := List.getElem_of_mem hx
          have h1 := (M.okS_iff _).1 (HOK.out _ (List.getElem_mem hj))
          have h2 := HF2.out j hj
          omega
        have hsrc : ∀ x ∈ L, x.2.2.1 + s ≤ 1073741824 := fun x hx => by
          obtain ⟨j, hj, rfl⟩ := List.getElem_of_mem hx
          have h2 := HAll.out j hj (by rw [HN.out] at hj; exact hj)
          omega
        have hdn := M.maps_down d d0 L hlin H0.out acc HM.out
        obtain ⟨acc2, hsr, htail⟩ := M.maps_src s s0 L hsrc H0.out acc HM.out
        rw [← hfm] at hdn
        rw [← hfs] at hsr
        have hlm : (mD d L i).length ≤ 1000 := by rw [hfm, List.length_map, HN.out]; omega
        have hls : (mS s L i).length ≤ 1000 := by rw [hfs, List.length_map, HN.out]; omega
        obtain ⟨hal2, _⟩ := shiftG_len _ true (0, 0, 0, 0) acc2 hsr (by decide) (by decide) (fun _ => rfl)
        have hac2 : acc2.length ≤ 8000000 := by simp at hal2; omega
        have M1 := Lib.hid (fun W hv => smaps_any u10 _ _ W hv hlm hdn)
        have M2 := Lib.hid (fun W hv => smaps_any u11 _ _ W hv hls hsr)
        obtain ⟨tt, htt⟩ : ∃ tt, M.tailS acc = tt := ⟨_, rfl⟩
        rw [htt] at htail
        have T1 := Lib.hid (fun W => tail_any acc tt W hacc8 htt)
        have T2 := Lib.hid (fun W => tail_any acc2 tt W hac2 htail)
        unfold MpP mres at M1 M2
        simp only [Option.getD_some, Option.isSome_some] at M1 M2
        rw [HA.out] at T1
        have hsum : bytes (List.replicate d.toNat 59) ++ A = bytes (List.replicate d.toNat 59 ++ acc) := by rw [← HA.out]; apply ByteArray.ext; simp [bytes]
        obtain ⟨Bm, hBm⟩ : ∃ X, bytes (List.replicate d.toNat 59 ++ acc) = X := ⟨_, rfl⟩
        obtain ⟨Cm, hCm⟩ : ∃ X, bytes acc2 = X := ⟨_, rfl⟩
        obtain ⟨Tt, hTt⟩ : ∃ X, bytes tt = X := ⟨_, rfl⟩
        rw [hBm] at M1 hsum
        rw [hCm] at M2 T2
        rw [hTt] at T1 T2
        obtain ⟨D, hD⟩ : ∃ D : Nat, d.toNat = D := ⟨_, rfl⟩
        have hD50 : D ≤ 50 := by omega
        have hDd : (D : Int) = d := by omega
        rw [hD] at hsum
        have hex := blanks50 ⟨D, by omega⟩
        simp only at hex
        obtain ⟨SB, hSB⟩ : ∃ X, bytes (List.replicate D 32) = X := ⟨_, rfl⟩
        rw [hSB] at hex
        have hSBs : SB.size = D := by rw [← hSB, bytes_size]; simp
        have Hex := Lib.hid hex
        have Hsum := Lib.hid hsum
        have HD := Lib.hid hD
        have HDd := Lib.hid hDd
        have HSBs := Lib.hid hSBs
        have eB : (Bm.toList == Bm.toList) = true := by simp
        have eT : (Tt.toList == Tt.toList) = true := by simp
        clear hfm hfs hlin hsrc hdn hsr htail hlm hls hal2 hac2 htt hsum hBm hCm hTt hD hDd hex hSB hSBs hlt
        go_wp2_with fail
        refine (M1.out _ HO1.out.ss).mono ?_
        rintro e w6 ⟨rfl, hb6⟩
        have HB6 := Lib.hid (HB.out.trans (hb6.mono hsz))
        have HS6 := Lib.hid (HO2.out.keep hb6).ss
        clear hb6
        go_wp2_with fail
        refine (M2.out _ HS6.out).mono ?_
        rintro e w7 ⟨rfl, hb7⟩
        have HB7 := Lib.hid (HB2.out.trans ((HB6.out.trans (hb7.mono HB6.out.size)).mono HB2.out.size))
        clear hb7
        have hex : (ByteArray.mk #[32, 32, 32, 32, 32, 32, 32, 32, 32, 32, 32, 32, 32, 32, 32, 32, 32, 32, 32, 32, 32, 32, 32, 32, 32, 32, 32, 32, 32, 32, 32, 32, 32, 32, 32, 32, 32, 32, 32, 32, 32, 32, 32, 32, 32, 32, 32, 32, 32, 32]).extract 0 d.toNat = SB := by rw [HD.out]; exact Hex.out
        have hsbI : ((SB.size : Nat) : Int) = d := by have := HSBs.out; have := HDd.out; omega
        go_wp2
        go_loop [20, 21] (fun av iv => ∃ k : Nat, iv = .int .i64 (k : Int) ∧ k ≤ D ∧ av = .string (bytes (List.replicate k 59))) (fun _ iv => D - (intOf iv).toNat)
        case atStart => exact ⟨0, rfl, by omega, rfl⟩
        case round =>
          obtain ⟨k, rfl, hk, rfl⟩ := hrel
          have hTs : (bytes (List.replicate k (59 : UInt8))).size = k := by rw [bytes_size]; simp
          obtain ⟨Tx, hTx⟩ : ∃ X, bytes (List.replicate k (59 : UInt8)) = X := ⟨_, rfl⟩
          rw [hTx] at hTs ⊢
          have HTx := Lib.hid hTx
          have hTb : Tx.size ≤ 50 := by omega
          by_cases hkd : k < D
          · have hk2 : (k : Int) < d := by have := HDd.out; omega
            have HSm : Hid (Tx ++ (ByteArray.mk #[59]) = bytes (List.replicate (k + 1) (59 : UInt8))) := Lib.hid (by
              rw [← HTx.out, vb59, ← List.replicate_succ'])
            clear hTs hTx
            go_wp2
            go_round
            case rel => exact ⟨k + 1, by go_num, by omega, by rw [← HSm.out]⟩
            case measure => simp [intOf]; omega
          · obtain rfl : k = D := by omega
            have hk2 : d ≤ (k : Int) := by have := HDd.out; omega
            have hsm : Tx ++ A = Bm := by rw [← HTx.out]; exact Hsum.out
            have hAb : A.size ≤ 8000000 := by have := HAs.out; omega
            clear hTs hTx hkd
            by_cases h1 : i = 1
            · have t1 : ((i : Int) == 1) = true := by rw [beq_iff_eq]; omega
              clear h1
              go_wp2
              go_ret
              exact ⟨by first | rfl | (simp; done), HB7.out⟩
            · have t1 : ((i : Int) == 1) = false := by rw [beq_eq_false_iff_ne]; omega
              clear h1
              go_wp2_with fail
              refine (T1.out _).mono ?_
              rintro e w' ⟨rfl, rfl⟩
              go_wp2_with fail
              refine (T2.out _).mono ?_
              rintro e w' ⟨rfl, rfl⟩
              go_wp2
              go_ret
              exact ⟨by first | rfl | (simp; done), HB7.out⟩
set_option maxRecDepth 100000 in
set_option maxHeartbeats 4000000 in
theorem sshift_walk (a : Option Addr) (len cap : Nat) (x1 x2 : Int) (L : List M.S4) (w : World) (hn : L.length = len) (hv : Ss w (.slice a len cap) L) (hz : NNv (.slice a len cap)) {P1 P2 : Prop} (m1 : P1) (m2 : P2) (u0 : L.length ≤ 209715) (hT : Tabs w) :
    Calls Tryd.prog 3 #[.slice a len cap, .int .i64 x1, .int .i64 x2] w fun e w' => e = .returned (.bool true) ∧ Below w.heap.size w w' := by
  cases hm : M.maps L with
  | some acc =>
    by_cases hin : L ≠ [] ∧ 0 ≤ x1 ∧ x1 ≤ 50 ∧ 0 ≤ x2 ∧ x2 ≤ 1000
    · exact sshift_main a len cap x1 x2 L acc w hn hv u0 hT hm hin.1 hin.2.1 hin.2.2.1 hin.2.2.2.1 hin.2.2.2.2
    · have al := Lib.hid (salive_any w hT)
      have MR := Lib.hid (fun W hv => refmaps_any (.slice a len cap) L _ W hv u0 hm)
      unfold MpP mres at MR
      simp only [Option.getD_some, Option.isSome_some] at MR
      have FW := Lib.hid (fun W hv => sfew2_any (.slice a len cap) L W hv)
      have HV := Lib.hid hv
      have hway : len = 0 ∨ x1 < 0 ∨ 50 < x1 ∨ x2 < 0 ∨ 1000 < x2 := by
        by_cases h0 : L = []
        · left; rw [← hn, h0]; rfl
        · have h1 : ¬ (0 ≤ x1 ∧ x1 ≤ 50 ∧ 0 ≤ x2 ∧ x2 ≤ 1000) := fun h => hin ⟨h0, h⟩
          omega
      obtain ⟨A, hA⟩ : ∃ A, bytes acc = A := ⟨_, rfl⟩
      rw [hA] at MR
      clear hT hv hm hA hin hn u0 m1 m2
      rcases hway with rfl | hway | hway | hway | hway
      all_goals
        as_aux_lemma =>
          go_enter Tryd.func3, Tryd.ntmps3
          go_wp2_with fail
          refine al.out.mono ?_
          rintro e w1 ⟨rfl, hb1⟩
          have HB1 := Lib.hid hb1
          clear hb1
          go_wp2_with fail
          refine (MR.out w1 (HV.out.keep HB1.out)).mono ?_
          rintro e w2 ⟨rfl, hb2⟩
          have HB2 := Lib.hid (HB1.out.trans (hb2.mono HB1.out.size))
          clear hb2
          go_wp2_with fail
          refine (FW.out w2 (HV.out.keep HB2.out)).mono ?_
          rintro e w' ⟨q, rfl, hq, hwq⟩
          have hwq := hwq.symm
          subst hwq
          clear hq
          cases q
          all_goals
            go_wp2
            all_goals
              go_ret
              exact ⟨rfl, HB2.out⟩
  | none =>
    have al := Lib.hid (salive_any w hT)
    have MR := Lib.hid (fun W hv => refmaps_any (.slice a len cap) L _ W hv u0 hm)
    unfold MpP mres at MR
    simp only [Option.getD_none, Option.isSome_none] at MR
    have FW := Lib.hid (fun W hv => sfew2_any (.slice a len cap) L W hv)
    have HV := Lib.hid hv
    clear hT hv hm hn u0 m1 m2
    go_enter Tryd.func3, Tryd.ntmps3
    go_wp2_with fail
    refine al.out.mono ?_
    rintro e w1 ⟨rfl, hb1⟩
    have HB1 := Lib.hid hb1
    clear hb1
    go_wp2_with fail
    refine (MR.out w1 (HV.out.keep HB1.out)).mono ?_
    rintro e w2 ⟨rfl, hb2⟩
    have HB2 := Lib.hid (HB1.out.trans (hb2.mono HB1.out.size))
    clear hb2
    go_wp2_with fail
    refine (FW.out w2 (HV.out.keep HB2.out)).mono ?_
    rintro e w' ⟨q, rfl, hq, hwq⟩
    have hwq := hwq.symm
    subst hwq
    clear hq
    cases q
    all_goals
      go_wp2
      all_goals
        go_ret
        exact ⟨rfl, HB2.out⟩
end Go.Proofs.YtbmnmnfdlajgnaaDoor
