/- Texts of ours in one: RdMb. -/
import Derived.Test.YtlobinjdgcidmaaGreatDoorQs11
import Derived.Test.YtlobinjdgcidmaaGreatDoorQs26
import Derived.Test.YtlobinjdgcidmaaGreatDoorQs29
import Derived.Test.YtlobinjdgcidmaaGreatDoorQs30
/- sread.member: the value of a key, and whether the object has it exactly once. -/
namespace Go.Proofs.YtlobinjdgcidmaaGreatDoor
open Go.RowKit
set_option linter.unusedVariables false
set_option linter.unusedSimpArgs false

def Vo.dropV : Vo → Nat → Vo
  | L, 0 => L
  | .nil, _ + 1 => .nil
  | .cons _ _ r, n + 1 => r.dropV n
theorem dropV_zero (L : Vo) : L.dropV 0 = L := by cases L <;> rfl
theorem dropV_cons : ∀ (L : Vo) (i : Nat) {h : Vh} {k : Vo}, L.at? i = some (h, k) → L.dropV i = .cons h k (L.dropV (i + 1))
  | .nil, i, h, k, e => by simp [Vo.at?] at e
  | .cons a b r, 0, h, k, e => by
    simp only [Vo.at?, Option.some.injEq, Prod.mk.injEq] at e
    obtain ⟨rfl, rfl⟩ := e
    cases r <;> rfl
  | .cons a b r, i + 1, h, k, e => by
    have := dropV_cons r i (h := h) (k := k) e
    exact this
theorem dropV_end : ∀ (L : Vo) (i : Nat), L.len ≤ i → L.dropV i = .nil
  | .nil, 0, _ => rfl
  | .nil, _ + 1, _ => rfl
  | .cons a b r, 0, h => by simp [Vo.len] at h
  | .cons a b r, i + 1, h => dropV_end r i (by simp [Vo.len] at h; omega)
def natL (l : List Int) : List Nat := l.map Int.toNat
theorem natL_iN (l : List Nat) : natL (iN l) = l := iN_nat l
def memG (nl : List UInt8) : Vo → Option (Vh × Vo) → Nat → Option (Vh × Vo) × Nat
  | .cons h _ (.cons h2 k2 r), f, c => if txtU (natL h.tx) = nl then memG nl r (some (h2, k2)) (c + 1) else memG nl r f c
  | .cons _ _ .nil, f, c => (f, c)
  | .nil, f, c => (f, c)
def TxOK (K : Vo) : Prop := ∀ j h k, K.at? j = some (h, k) → ∃ l : List Nat, h.tx = iN l ∧ (∀ u ∈ l, u ≤ 65535) ∧ l.length ≤ 1000000
theorem res_vb {fn : Func} {p u : Tmp} (h : fn.results = #[.cell p 48, .tmp u]) (tmps : Array Value) (w : World) (g : Nat) (cs : Array Value) (k : Bool)
    (hp : tmps.getD p undef = .pointer (some ⟨g, 0, none⟩)) (hu : tmps.getD u undef = .bool k) (hg : BK 48 w g cs) (hs : cs.size = 9) :
    (results fn tmps).run Tryz.prog w = .ok (.tuple #[.agg cs, .bool k]) w := by
  rw [results_cell_tmp h, hp, hu]
  have : (asAddr (.pointer (some ⟨g, 0, none⟩))).run Tryz.prog w = .ok ⟨g, 0, none⟩ w := rfl
  rw [this]
  simp only [Result.andThen]
  rw [run_loadVar_row w g 48 48 cs (0, 0) _ hg Tryz.underlying48 rfl (by rw [hs]; exact infoVal)]
def zeroH : Vh := ⟨0, [], false, [], [], 0, 0, []⟩
def MbI (nl : List UInt8) (K : Vo) (h : Vh) (tv v mv : Value) (w : World) (p1 p2 : Nat) (cv iv : Value) (wr : World) : Prop :=
  ∃ (m c : Nat) (f : Option (Vh × Vo)) (fh : Vh) (fk : Vo) (ft fv fm : Value), cv = .int .i64 (c : Int) ∧ iv = .int .i64 (m : Int) ∧ m ≤ K.len ∧ m % 2 = 0 ∧ c ≤ m ∧ memG nl (K.dropV m) f c = memG nl K none 0 ∧ (f = some (fh, fk) ∨ f = none) ∧
    HdS w fh ft fm ∧ VoS w fv fk ∧ VB wr p2 fh ft fv fm ∧ VB wr w.heap.size h tv v mv ∧ BK 48 wr p1 zv ∧ Below w.heap.size w wr
def MbP (nl : List UInt8) (K : Vo) (w : World) (e : Ending) (w' : World) : Prop := ∃ (fh : Vh) (fk : Vo) (ft fv fm : Value),
  e = .returned (.tuple #[.agg (vv fh ft fv fm), .bool (decide ((memG nl K none 0).2 = 1))]) ∧ ((memG nl K none 0).1 = some (fh, fk) ∨ (memG nl K none 0).1 = none) ∧ HdS w fh ft fm ∧ VoS w fv fk ∧ Below w.heap.size w w'
set_option maxRecDepth 100000 in
set_option maxHeartbeats 4000000 in
theorem smember_any (h : Vh) (K : Vo) (tv v mv : Value) (nm : ByteArray) (nl : List UInt8) (w : World) (hn : bytes nl = nm) (ht : HdS w h tv mv) (hv : VoS w v K) (he : K.len % 2 = 0) (hC : K.len ≤ 2097152) (hx : TxOK K) :
    Calls Tryz.prog 16 #[.agg (vv h tv v mv), .string nm] w (MbP nl K w) := by
  have HV := Lib.hid hv
  have HNM := Lib.hid hn
  have HX := Lib.hid hx
  obtain ⟨a, c, rfl, -, -, -, hq⟩ := hv
  obtain ⟨ta, tc, rfl⟩ := ht.t.slice
  obtain ⟨ma, mc, rfl⟩ := ht.m.slice
  have HQ := Lib.hid hq
  have x1 := VB.new w h (.slice ta h.tx.length tc) (.slice a K.len c) (.slice ma h.ms.length mc)
  have b1 := (Below.refl w.heap.size w).alloc (Nat.le_refl _) (.cells (vv h (.slice ta h.tx.length tc) (.slice a K.len c) (.slice ma h.ms.length mc)) 48)
  obtain ⟨W1, hW1⟩ : ∃ W, w.alloc (.cells (vv h (.slice ta h.tx.length tc) (.slice a K.len c) (.slice ma h.ms.length mc)) 48) = W := ⟨_, rfl⟩
  have s1 : W1.heap.size = w.heap.size + 1 := by rw [← hW1]; simp
  rw [hW1] at x1 b1
  have x2 := BK.new 48 W1 zv
  have b2 := (Below.refl W1.heap.size W1).alloc (Nat.le_refl _) (.cells zv 48)
  obtain ⟨W2, hW2⟩ : ∃ W, W1.alloc (.cells zv 48) = W := ⟨_, rfl⟩
  have s2 : W2.heap.size = w.heap.size + 2 := by rw [← hW2]; simp [s1]
  rw [hW2] at x2 b2
  have x3 := BK.new 48 W2 zv
  have b3 := (Below.refl W2.heap.size W2).alloc (Nat.le_refl _) (.cells zv 48)
  obtain ⟨W3, hW3⟩ : ∃ W, W2.alloc (.cells zv 48) = W := ⟨_, rfl⟩
  rw [hW3] at x3 b3
  have y1 := (x1.keep b2).keep b3
  have y2 := x2.keep b3
  have B3 := b1.trans ((b2.trans (b3.mono (by omega))).mono (by omega))
  obtain ⟨p1, hp1⟩ : ∃ x, w.heap.size + 1 = x := ⟨_, rfl⟩
  obtain ⟨p2, hp2⟩ : ∃ x, p1 + 1 = x := ⟨_, rfl⟩
  rw [s1, hp1] at y2
  rw [s2, show w.heap.size + 2 = p2 by omega] at x3
  have INIT : Hid (MbI nl K h (.slice ta h.tx.length tc) (.slice a K.len c) (.slice ma h.ms.length mc) w p1 p2 (.int .i64 0) (.int .i64 0) W3) := Lib.hid ⟨0, 0, none, zeroH, .nil, nilV, nilV, nilV, rfl, rfl, by omega, rfl, by omega, by rw [dropV_zero], .inr rfl, ⟨by simp [zeroH], by simp [zeroH], isP_nil _ _, isP_nil _ _⟩, voP_nil _ _, x3, y1, y2, B3⟩
  have HW1 := Lib.hid hW1
  have HW2 := Lib.hid (show W1.alloc (.cells #[.int .i64 0, .slice none 0 0, .bool false, .string ⟨#[]⟩, .string ⟨#[]⟩, .slice none 0 0, .int .i64 0, .int .i64 0, .slice none 0 0] 48) = W2 from hW2)
  have HW3 := Lib.hid (show W2.alloc (.cells #[.int .i64 0, .slice none 0 0, .bool false, .string ⟨#[]⟩, .string ⟨#[]⟩, .slice none 0 0, .int .i64 0, .int .i64 0, .slice none 0 0] 48) = W3 from hW3)
  clear x1 b1 x2 b2 x3 b3 y1 y2 B3 hW1 hW2 hW3 s1 s2 ht hx hn hq
  go_enter Tryz.func16, Tryz.ntmps16
  go_upto_region 2 with fail
  rw [HW1.out, HW2.out, HW3.out]
  have pn1 : p1 ≠ p2 := by omega
  have pn2 : w.heap.size ≠ p2 := by omega
  have HP1 := Lib.hid hp1
  have HP2 := Lib.hid hp2
  clear hp1 hp2 HW1 HW2 HW3
  go_upto_region 4 with fail
  go_loopw [7, 8] (fun cv iv wr => MbI nl K h (.slice ta h.tx.length tc) (.slice a K.len c) (.slice ma h.ms.length mc) w p1 p2 cv iv wr) (fun _ iv _ => K.len + 1 - (intOf iv).toNat)
  case atStart => exact INIT.out
  case round =>
    obtain ⟨m, cn, f, fh, fk, ft, fv, fm, rfl, rfl, hm, hm2, hcm, hmg, hf, hfd, hfv, vb2, vb0, bk1, hb⟩ := hrel
    have g5 := vb0.cells.2.2.2.2.2.1
    have mb : (m : Int) ≤ 2097152 := by omega
    have cb : (cn : Int) ≤ 2097152 := by omega
    have m0 : (0 : Int) ≤ m := by omega
    have c0 : (0 : Int) ≤ cn := by omega
    by_cases hlt : m < K.len
    · have hlt2 : m + 1 < K.len := by omega
      obtain ⟨b, off, hA, hbk, hat⟩ := HQ.out (by omega)
      subst hA
      obtain ⟨h1, k1, e1⟩ := Vo.at_some K m hlt
      obtain ⟨h2, k2, e2⟩ := Vo.at_some K (m + 1) hlt2
      obtain ⟨t1, m1, v1, hd1, hr1, -⟩ := voAt_get K b off m h1 k1 hat e1
      obtain ⟨t2, m2, v2, hd2, hr2, hv2⟩ := voAt_get K b off (m + 1) h2 k2 hat e2
      obtain ⟨l1, hl1, hu1, hz1⟩ := HX.out m h1 k1 e1
      have d1 : K.dropV m = .cons h1 k1 (.cons h2 k2 (K.dropV (m + 2))) := by rw [dropV_cons K m e1, dropV_cons K (m + 1) e2]
      rw [d1] at hmg
      simp only [memG] at hmg
      rw [hl1, natL_iN] at hmg
      have his : Is w t1 (iN l1) := by have := hd1.t; rw [hl1] at this; exact this.is (fun b h => h)
      have c1 : wr.cell? ⟨b, off + m * 9 + 1, none⟩ = some t1 := (hb.cell (p := ⟨b, off + m * 9 + 1, none⟩) hbk).trans (hr1 1 _ rfl)
      obtain ⟨t1a, t1c, ht1⟩ := hd1.t.slice
      rw [ht1] at c1 his
      obtain ⟨T1, hT1⟩ : ∃ x, bytes (txtU l1) = x := ⟨_, rfl⟩
      have TX := Lib.hid (stext_any _ l1 T1 wr (his.keep hb) (by omega) hu1 hT1)
      have u1 : (m : Int) < K.len := by omega
      obtain ⟨mm, hmm⟩ : ∃ x, m + 1 = x := ⟨_, rfl⟩
      have e3 : (m : Int) + 1 = (mm : Int) := by omega
      have u2 : (mm : Int) < K.len := by omega
      have u3 : (0 : Int) ≤ mm := by omega
      rw [hmm] at hr2
      have s2a := hd2.t.one
      have s2b := hv2.one
      have s2c := hd2.m.one
      have HB := Lib.hid hb
      have HM := Lib.hid hmg
      have HT1 := Lib.hid hT1
      have HD2 := Lib.hid hd2
      have HV2 := Lib.hid hv2
      have HF := Lib.hid hf
      have HFD := Lib.hid hfd
      have HFV := Lib.hid hfv
      have VB2 := Lib.hid vb2
      have VB0 := Lib.hid vb0
      have BK1 := Lib.hid bk1
      have RI := Lib.hid (range_same hr2 (hb.block b hbk))
      have HBK := Lib.hid hbk
      clear hat hd1 hr1 hd2 hr2 hv2 hl1 hu1 hz1 d1 hmg his ht1 hT1 hb hf hfd hfv vb2 vb0 bk1 e1 e2 hmm hbk
      go_wp2_with fail
      refine TX.out.mono ?_
      rintro e w2 ⟨rfl, hb2⟩
      have HB2 := Lib.hid (HB.out.trans (hb2.mono HB.out.size))
      have VB0' := Lib.hid (VB0.out.keep hb2)
      have VB2' := Lib.hid (VB2.out.keep hb2)
      have BK1' := Lib.hid (BK1.out.keep hb2)
      have RI2 := Lib.hid (range_same RI.out (hb2.block b (Nat.lt_of_lt_of_le HBK.out HB.out.size)))
      have g6 := VB0'.out.cells.2.2.2.2.2.1
      clear hb2 g5 c1
      by_cases hq : txtU l1 = nl
      · have t1q : (T1.toList == nm.toList) = true := by rw [← HT1.out, ← HNM.out, hq]; simp
        have HM2 := Lib.hid (HM.out)
        have hmg2 := HM.out
        rw [if_pos hq] at hmg2
        have HMG := Lib.hid hmg2
        clear hmg2 hq
        have INV : Hid (MbI nl K h (.slice ta h.tx.length tc) (.slice (some ⟨b, off, none⟩) K.len c) (.slice ma h.ms.length mc) w p1 p2 (.int .i64 ((cn + 1 : Nat) : Int)) (.int .i64 ((m + 2 : Nat) : Int)) (w2.setRow p2 (vv h2 t2 v2 m2))) :=
          Lib.hid ⟨m + 2, cn + 1, some (h2, k2), h2, k2, t2, v2, m2, rfl, rfl, by omega, by omega, by omega, HMG.out, .inl rfl, HD2.out, HV2.out, BK.set VB2'.out _, VB0'.out.frame (setRow_other _ _ _ _ pn2), BK1'.out.frame (setRow_other _ _ _ _ pn1), below_setRowK HB2.out (by have := HP1.out; have := HP2.out; omega) _⟩
        obtain ⟨WN, hWN⟩ : ∃ x, w2.setRow p2 (vv h2 t2 v2 m2) = x := ⟨_, rfl⟩
        rw [hWN] at INV
        have HWN := Lib.hid hWN
        clear hWN
        go_wp2_with (first | (refine wpl_ldV rfl _ rfl b (off + mm * 9) h2 t2 v2 m2 rfl RI2.out ?_) | (refine wpl_stV rfl _ _ rfl p2 (vv fh ft fv fm) h2 t2 v2 m2 rfl rfl VB2'.out rfl s2a s2b s2c ?_) | fail)
        rw [HWN.out]
        go_wp2
        go_roundw
        case rel => exact INV.out
        case measure => simp [intOf]; omega
      · have t1q : (T1.toList == nm.toList) = false := by
          rw [← HT1.out, ← HNM.out]
          have e0 : ∀ l : List UInt8, (bytes l).toList = l := fun l => by rw [ByteArray.toList_eq, bytes_list]
          rw [e0, e0]
          simpa using hq
        have hmg2 := HM.out
        rw [if_neg hq] at hmg2
        have INV : Hid (MbI nl K h (.slice ta h.tx.length tc) (.slice (some ⟨b, off, none⟩) K.len c) (.slice ma h.ms.length mc) w p1 p2 (.int .i64 (cn : Int)) (.int .i64 ((m + 2 : Nat) : Int)) w2) :=
          Lib.hid ⟨m + 2, cn, f, fh, fk, ft, fv, fm, rfl, rfl, by omega, by omega, by omega, hmg2, HF.out, HFD.out, HFV.out, VB2'.out, VB0'.out, BK1'.out, HB2.out⟩
        clear hmg2 hq
        go_wp2
        go_roundw
        case rel => exact INV.out
        case measure => simp [intOf]; omega
    · obtain rfl : m = K.len := by omega
      have t0 : decide ((K.len : Int) < K.len) = false := by simp
      rw [dropV_end K _ (Nat.le_refl _)] at hmg
      simp only [memG] at hmg
      have s2a := hfd.t.one
      have s2b := hfv.one
      have s2c := hfd.m.one
      have VB2 := Lib.hid vb2
      have BK1 := Lib.hid bk1
      have HB := Lib.hid hb
      have HF := Lib.hid hf
      have HFD := Lib.hid hfd
      have HFV := Lib.hid hfv
      have HMG := Lib.hid hmg.symm
      obtain ⟨WN, hWN⟩ : ∃ x, wr.setRow p1 (vv fh ft fv fm) = x := ⟨_, rfl⟩
      have BN := Lib.hid (show BK 48 WN p1 (vv fh ft fv fm) by rw [← hWN]; exact BK.set BK1.out _)
      have BW := Lib.hid (show Below w.heap.size w WN by rw [← hWN]; exact below_setRowK HB.out (by have := HP1.out; omega) _)
      have HWN := Lib.hid hWN
      have qq : ((cn : Int) == 1) = decide (cn = 1) := by
        by_cases h : cn = 1
        · subst h; rfl
        · rw [show decide (cn = 1) = false by simpa using h]; simp; omega
      clear hmg hf hfd hfv vb2 vb0 bk1 hb hWN hlt
      go_wp2_with (first | (refine wpl_ldV rfl _ rfl p2 0 fh ft fv fm rfl (VB.range VB2.out) ?_) | (refine wpl_stV rfl _ _ rfl p1 zv fh ft fv fm rfl rfl BK1.out rfl s2a s2b s2c ?_) | fail)
      rw [HWN.out]
      go_wp2
      (try simp only [Exit.inBlock, Exit.then])
      refine bodyPost_ret (res_vb rfl _ _ p1 (vv fh ft fv fm) (decide (cn = 1)) rfl (by first | rfl | simp [qq]) BN.out rfl) rfl ?_
      exact ⟨fh, fk, ft, fv, fm, by rw [HMG.out], by rw [HMG.out]; exact HF.out, HFD.out, HFV.out, BW.out⟩
end Go.Proofs.YtlobinjdgcidmaaGreatDoor
