/- Texts of ours in one: SMp. -/
import Derived.Test.YtlobinjdgcidmaaGreatDoorQs35
import Derived.Test.YtlobinjdgcidmaaGreatDoorQs33
/- sread.Mappings: which segments any text has. -/
namespace Go.Proofs.YtlobinjdgcidmaaGreatDoor
open Go.RowKit
set_option linter.unusedVariables false
set_option linter.unusedSimpArgs false

theorem keepM {w w' : World} {m : Int} (h : w.cell? ⟨0, 0, none⟩ = some (.int .i64 m)) (hb : Below w.heap.size w w') : w'.cell? ⟨0, 0, none⟩ = some (.int .i64 m) := (hb.cell (block_lt_of_cell h)).trans h
theorem cut_len (c : UInt8) (t : List UInt8) : (M.cut c t).length ≤ t.length + 1 := by
  rw [cut_pos]
  have := Lib.countB_le (bytes [c]) (by simp [bytes_size]) _ (bytes t) (Nat.le_refl _)
  rw [bytes_size] at this
  omega
theorem tlS (l : List UInt8) : (bytes l).toList = l := by rw [ByteArray.toList_eq]; exact bytes_list l
def LB (x : M.S4) : Prop := (0 ≤ x.2.2.1 ∧ x.2.2.1 ≤ 1073741824) ∧ (0 ≤ x.2.2.2 ∧ x.2.2.2 ≤ 1073741824)
theorem cell_blk {w w' : World} {b k : Nat} (h : w'.heap[b]? = w.heap[b]?) : w'.cell? ⟨b, k, none⟩ = w.cell? ⟨b, k, none⟩ := by simp only [World.cell?, h]
theorem PartsAt.frame {w w' : World} {b : Nat} {ps : List (List UInt8)} (h : PartsAt w b ps) (hb : w'.heap[b]? = w.heap[b]?) : PartsAt w' b ps := fun j hj => (cell_blk hb).trans (h j hj)
theorem PartsAt.blk {w : World} {b : Nat} {ps : List (List UInt8)} (h : PartsAt w b ps) {j : Nat} (hj : j < ps.length) : b < w.heap.size := block_lt_of_cell (h j hj)
theorem RB.frame {E : TypeId} {w w' : World} {b : Nat} {c : M.S4} (h : RB E w b c) (hb : w'.heap[b]? = w.heap[b]?) : RB E w' b c := hb.trans h
theorem wpl_s4G {w : World} {ops : Array Oper} {rest : List Oper} {o : Oper} {a : Act} {Q : Exit → Act → World → Prop} (hgd : o.guard = none) (s x : Operand)
    (ho : o.op = .call { callee := .builtin .append, args := #[s, x], argTypes := #[22, 22] })
    (B : Nat) (v u : Value) (l k t : List M.S4) (hs : a.eval s = v) (hown : OwnS4 B w v l) (hx : a.eval x = u) (hu : Vs 4 w u (k.map s4v)) (hnn : NNv u)
    (hlen : l.length + k.length ≤ 4294967296) (hB : B ≤ w.heap.size) (ht : l ++ k = t)
    (h : ∀ v' w', OwnS4 B w' v' t → Below B w w' → (∀ j, j < w.heap.size → some j ≠ v.ownBlock → w'.heap[j]? = w.heap[j]?) → (v'.ownBlock = v.ownBlock ∨ v'.ownBlock = some w.heap.size) → wpList Tryz.prog ops Q rest (a.put o.dst v') w') : wpList Tryz.prog ops Q (o :: rest) a w :=
  wpl_appendVG hgd s x ho Tryz.underlying22 infoS4 rfl (by decide) B v u (l.map s4v) (k.map s4v) (t.map s4v) hs hown hx hu hnn (s4_len k) (s4_one k) (by simp; omega) (by decide) hB (by rw [← ht]; simp) h
set_option maxRecDepth 100000 in
set_option maxHeartbeats 8000000 in
theorem smappings_any (T : ByteArray) (t : List UInt8) (R : Option (List M.S4)) (m : Int) (w : World) (hT : bytes t = T) (hz : T.size ≤ 200000) (hm : w.cell? ⟨0, 0, none⟩ = some (.int .i64 m)) (hR : M.readM t = R) :
    Calls Tryz.prog 11 #[.string T] w fun e w' => ∃ v, e = .returned (.tuple #[v, .bool R.isSome]) ∧ SsS w' v (R.getD []) ∧ NNv v ∧ Below w.heap.size w w' := by
  have hts : T.size = t.length := by rw [← hT, bytes_size]
  have h0lt : 0 < w.heap.size := block_lt_of_cell hm
  have ax : RB 39 (w.alloc (.cells #[.int .i64 0, .int .i64 0, .int .i64 0, .int .i64 0] 39)) w.heap.size (0, 0, 0, 0) := RB.new _ w (0, 0, 0, 0)
  have bx := (Below.refl w.heap.size w).alloc (Nat.le_refl _) (.cells #[.int .i64 0, .int .i64 0, .int .i64 0, .int .i64 0] 39)
  have zx : w.heap.size + 1 ≤ (w.alloc (.cells #[.int .i64 0, .int .i64 0, .int .i64 0, .int .i64 0] 39)).heap.size := by simp
  obtain ⟨W0, hW0⟩ : ∃ x, w.alloc (.cells #[.int .i64 0, .int .i64 0, .int .i64 0, .int .i64 0] 39) = x := ⟨_, rfl⟩
  rw [hW0] at ax bx zx
  have HT := Lib.hid hT
  have HM := Lib.hid hm
  have HR := Lib.hid hR
  have HTS := Lib.hid hts
  have A0 := Lib.hid ax
  have B0 := Lib.hid bx
  have HW0 := Lib.hid hW0
  have t1 : (T.size : Int) ≤ 200000 := by omega
  clear hT hm hR hts ax bx hW0
  go_enter Tryz.func11, Tryz.ntmps11
  go_wp2_with fail
  rw [HW0.out]
  refine (splitS_any 59 t T ⟨#[59]⟩ m W0 HT.out rfl (by omega) (keepM HM.out B0.out)).mono ?_
  rintro e w1 ⟨_, rfl, -, hp1, hb1, hz1⟩
  have hcl := cut_len 59 t
  obtain ⟨ts, htl⟩ : ∃ x, M.cut 59 t = x := ⟨_, rfl⟩
  have HLE := Lib.hid (fun p hp => M.cut_le 59 t p (by rw [htl]; exact hp))
  have hL0 := M.lat_start t ts htl
  have hws0 := M.wS_cut 59 t
  rw [htl] at hws0
  obtain ⟨WS, hWS⟩ : ∃ WS : Nat → Nat, ∀ i, M.wS (ts.drop i) = WS i := ⟨_, fun i => rfl⟩
  have ws0 : WS 0 ≤ t.length + 1 := by rw [← hWS 0, List.drop_zero]; exact hws0
  have hwst : ∀ i (hi : i < ts.length), WS i = (ts[i].length + 1) + WS (i + 1) := fun i hi => by rw [← hWS i, ← hWS (i + 1)]; exact M.wS_drop ts i hi
  have WST := Lib.hid hwst
  have WS0 := Lib.hid ws0
  clear hWS hws0 ws0 hwst
  rw [htl] at hp1 hcl
  rw [htl]
  obtain ⟨n, hn⟩ : ∃ n, ts.length = n := ⟨_, rfl⟩
  rw [hn] at hcl
  rw [hn]
  have z1 : W0.heap.size + 1 ≤ w1.heap.size := by omega
  have n1 : (n : Int) ≤ 200001 := by have := HTS.out; omega
  have HNN := Lib.hid hn
  have L0 := Lib.hid hL0
  have P1 := Lib.hid hp1
  have A1 := Lib.hid (A0.out.keep hb1 (by omega))
  have B1 := Lib.hid (B0.out.trans (hb1.mono (by omega)))
  clear htl hn hL0 hp1 hb1 hz1 hcl
  go_wp2
  go_loopw [4, 17] (fun ov iv wr => ∃ (i : Nat) (last : M.S4) (out : List M.S4), iv = .int .i64 (i : Int) ∧ i ≤ n ∧ OwnS4 w1.heap.size wr ov out ∧ out.length + WS i ≤ t.length + 1 ∧ RB 39 wr w.heap.size last ∧ M.LAt t ts i last out ∧ LB last ∧ PartsAt wr W0.heap.size ts ∧ Below w.heap.size w wr ∧ w1.heap.size ≤ wr.heap.size) (fun _ iv _ => n - (intOf iv).toNat)
  case atStart => exact ⟨0, (0, 0, 0, 0), [], rfl, by omega, ownV_nil _ _ _ _, by simpa using WS0.out, A1.out, L0.out, ⟨⟨by simp, by simp⟩, by simp, by simp⟩, P1.out, B1.out, Nat.le_refl _⟩
  case round =>
    obtain ⟨i, last, out, rfl, hi, ho, hol, hr, hla, hlb, hpa, hb, hzw⟩ := hrel
    by_cases hin : i < n
    · obtain ⟨x1, x2, x3, x4⟩ := last
      have hil : i < ts.length := by rw [HNN.out]; exact hin
      have c1 := hpa i hil
      have y0 : wr.cell? ⟨w.heap.size, 0, none⟩ = some (.int .i64 x1) := cell_of_row _ _ 0 _ _ _ hr
      have y1 : wr.cell? ⟨w.heap.size, 1, none⟩ = some (.int .i64 x2) := cell_of_row _ _ 1 _ _ _ hr
      have f0 := frozen_of_row _ _ 0 _ _ hr
      have f1 := frozen_of_row _ _ 1 _ _ hr
      have i1 : (i : Int) < n := by omega
      have hne : ∀ (v : Value) (l : List M.S4) (u : World), OwnS4 w1.heap.size u v l → v.ownBlock ≠ some w.heap.size := fun v l u h e => by have := OwnV.low h _ e; omega
      have HNE := Lib.hid hne
      have r2 : RB 39 ((wr.setCell ⟨w.heap.size, 0, none⟩ (.int .i64 (i : Int))).setCell ⟨w.heap.size, 1, none⟩ (.int .i64 0)) w.heap.size ((i : Int), 0, x3, x4) := RB.put (RB.put hr 0 _ (show _ = s4q ((i : Int), x2, x3, x4) from rfl)) 1 _ rfl
      have o2 := fun v (h : OwnS4 w1.heap.size wr v out) => OwnV.setOther (OwnV.setOther h ⟨w.heap.size, 0, none⟩ (.int .i64 (i : Int)) (hne _ _ _ h)) ⟨w.heap.size, 1, none⟩ (.int .i64 0) (hne _ _ _ (OwnV.setOther h ⟨w.heap.size, 0, none⟩ (.int .i64 (i : Int)) (hne _ _ _ h)))
      have b2 := Below.setCell (Below.setCell hb (show w.heap.size ≤ (⟨w.heap.size, 0, none⟩ : Addr).block from Nat.le_refl _) (.int .i64 (i : Int))) (show w.heap.size ≤ (⟨w.heap.size, 1, none⟩ : Addr).block from Nat.le_refl _) (.int .i64 0)
      have p2 : PartsAt ((wr.setCell ⟨w.heap.size, 0, none⟩ (.int .i64 (i : Int))).setCell ⟨w.heap.size, 1, none⟩ (.int .i64 0)) W0.heap.size ts := fun j hj => by
        rw [World.cell?_setCell_other _ _ _ _ (by intro e; simp only [Addr.mk.injEq] at e; omega), World.cell?_setCell_other _ _ _ _ (by intro e; simp only [Addr.mk.injEq] at e; omega)]
        exact hpa j hj
      have z2 : ((wr.setCell ⟨w.heap.size, 0, none⟩ (.int .i64 (i : Int))).setCell ⟨w.heap.size, 1, none⟩ (.int .i64 0)).heap.size = wr.heap.size := by simp
      have hw1 : ∀ v, OwnS4 w1.heap.size wr v out → True := fun _ _ => trivial
      obtain ⟨W2, hW2⟩ : ∃ x, (wr.setCell ⟨w.heap.size, 0, none⟩ (.int .i64 (i : Int))).setCell ⟨w.heap.size, 1, none⟩ (.int .i64 0) = x := ⟨_, rfl⟩
      rw [hW2] at r2 o2 b2 p2 z2
      have ZW := Lib.hid (show w1.heap.size ≤ W2.heap.size by omega)
      have hlt0 : W0.heap.size < W2.heap.size := by
        rw [z2]; exact block_lt_of_cell c1
      obtain ⟨ln, hln⟩ : ∃ x, ts[i] = x := ⟨_, rfl⟩
      rw [hln] at c1
      have lnle : ln.length ≤ t.length := HLE.out ln (by rw [← hln]; exact List.getElem_mem _)
      obtain ⟨S, hS⟩ : ∃ x, bytes ln = x := ⟨_, rfl⟩
      rw [hS] at c1
      have ssz : S.size = ln.length := by rw [← hS, bytes_size]
      have HW2 := Lib.hid hW2
      have R2 := Lib.hid r2
      have O2 := Lib.hid (o2 _ ho)
      have B2 := Lib.hid b2
      have P2 := Lib.hid p2
      have HLN := Lib.hid hln
      have hwi : WS i = (ln.length + 1) + WS (i + 1) := by rw [← hln]; exact WST.out i hil
      have HWI := Lib.hid hwi
      have HS := Lib.hid hS
      have HLA := Lib.hid hla
      have HLB := Lib.hid hlb
      have LNLE := Lib.hid lnle
      have SSZ := Lib.hid ssz
      clear hW2 r2 o2 b2 p2 z2 hwi hln hS hla hlb lnle ssz hne hr ho hb hpa hw1
      go_upto_region 7 with (fail)
      rw [HW2.out]
      clear y0 y1 f0 f1 c1
      by_cases hv : ln = []
      · have e7 : (S.toList == []) = true := by rw [← HS.out, hv, tlS]; rfl
        have hv2 := M.lat_void HLA.out hil (by rw [HLN.out]; exact hv)
        have HV2 := Lib.hid hv2
        clear hv hv2
        go_wp2
        go_roundw
        case rel => exact ⟨i + 1, _, out, by go_num, by omega, O2.out, by have := HWI.out; omega, R2.out, HV2.out, HLB.out, P2.out, B2.out, ZW.out⟩
        case measure => simp [intOf]; omega
      · have e7 : (S.toList == []) = false := by rw [← HS.out, tlS]; simpa using hv
        have HV := Lib.hid hv
        clear hv
        go_wp2_with fail
        refine (splitS_any 44 ln S ⟨#[44]⟩ m W2 HS.out rfl (by have := SSZ.out; have := LNLE.out; have := HTS.out; omega) (keepM HM.out B2.out)).mono ?_
        rintro e w3 ⟨_, rfl, -, hp3, hb3, hz3⟩
        have hcl := cut_len 44 ln
        obtain ⟨ps, hps⟩ : ∃ x, M.cut 44 ln = x := ⟨_, rfl⟩
        have HPE := Lib.hid (fun p hp => M.cut_le 44 ln p (by rw [hps]; exact hp))
        have HPS := Lib.hid hps
        rw [hps] at hp3 hcl
        rw [hps]
        obtain ⟨np, hnp⟩ : ∃ n, ps.length = n := ⟨_, rfl⟩
        rw [hnp] at hcl
        rw [hnp]
        have np1 : (np : Int) ≤ 200001 := by have := LNLE.out; have := HTS.out; omega
        have NP1 := Lib.hid (show np ≤ ln.length + 1 from hcl)
        have HNP := Lib.hid hnp
        have hz2w : w.heap.size ≤ W2.heap.size := B2.out.size
        have P3 := Lib.hid hp3
        have OB3 := Lib.hid (fun (v : Value) (h : OwnS4 w1.heap.size W2 v out) => (show v.ownBlock ≠ some W2.heap.size from fun e => Nat.lt_irrefl _ (World.ownsRow.lt h.1 _ e).2))
        have Q3 := Lib.hid (P2.out.keep hb3 hlt0)
        have R3 := Lib.hid (R2.out.keep hb3 R2.out.lt)
        have O3 := Lib.hid (OwnS4.keep O2.out hb3)
        have B3 := Lib.hid (B2.out.trans (hb3.mono B2.out.size))
        have zb3 : W2.heap.size < w3.heap.size := by omega
        have hlt2 : w.heap.size < W2.heap.size := R2.out.lt
        clear hps hnp hp3 hb3 hz3 hcl
        go_wp2
        go_loopw [4, 30] (fun ov jv wr2 => ∃ (j : Nat) (l2 : M.S4) (q2 : List M.S4), jv = .int .i64 (j : Int) ∧ j ≤ np ∧ OwnS4 w1.heap.size wr2 ov q2 ∧ q2.length + (np - j) + WS (i + 1) ≤ t.length + 1 ∧ RB 39 wr2 w.heap.size l2 ∧ M.PAt ((i : Int), 0, x3, x4) out ps j l2 q2 ∧ (0 ≤ l2.2.1 ∧ l2.2.1 ≤ 1073741824) ∧ LB l2 ∧ PartsAt wr2 W0.heap.size ts ∧ PartsAt wr2 W2.heap.size ps ∧ Below w.heap.size w wr2 ∧ ov.ownBlock ≠ some W2.heap.size ∧ W2.heap.size < wr2.heap.size) (fun _ jv _ => np - (intOf jv).toNat)
        case atStart => exact ⟨0, ((i : Int), 0, x3, x4), out, rfl, by omega, O3.out, by have := HWI.out; have := NP1.out; omega, R3.out, M.pat_start _ _ _, by simp, HLB.out, Q3.out, P3.out, B3.out, OB3.out _ O2.out, zb3⟩
        case round =>
          obtain ⟨j, l2, q2, rfl, hj, ho, hol2, hr, hpt, hl1, hlb2, hpa, hpb, hb, hob, hzw2⟩ := hrel
          by_cases hjn : j < np
          · have hjl : j < ps.length := by rw [HNP.out]; exact hjn
            have c2 := hpb j hjl
            have j1 : (j : Int) < np := by omega
            obtain ⟨l21, l22, l23, l24⟩ := l2
            have g0 : wr.cell? ⟨w.heap.size, 0, none⟩ = some (.int .i64 l21) := cell_of_row _ _ 0 _ _ _ hr
            have g1 : wr.cell? ⟨w.heap.size, 1, none⟩ = some (.int .i64 l22) := cell_of_row _ _ 1 _ _ _ hr
            have g2 : wr.cell? ⟨w.heap.size, 2, none⟩ = some (.int .i64 l23) := cell_of_row _ _ 2 _ _ _ hr
            have g3 : wr.cell? ⟨w.heap.size, 3, none⟩ = some (.int .i64 l24) := cell_of_row _ _ 3 _ _ _ hr
            obtain ⟨p, hp⟩ : ∃ x, ps[j] = x := ⟨_, rfl⟩
            rw [hp] at c2
            have ple : p.length ≤ ln.length := HPE.out p (by rw [← hp]; exact List.getElem_mem _)
            obtain ⟨PS, hPS⟩ : ∃ x, bytes p = x := ⟨_, rfl⟩
            rw [hPS] at c2
            have sg := fun w' => sseg_any PS p (l21, l22, l23, l24) (M.segV p (l21, l22, l23, l24)) w' hPS (by rw [← hPS, bytes_size]; have := LNLE.out; have := HTS.out; omega) hl1 hlb2.1 hlb2.2 rfl
            have hsb := M.segV_b p (l21, l22, l23, l24) ⟨hl1, by simp, hlb2.1, hlb2.2⟩
            have hst := fun r (hr : M.segV ps[j] (l21, l22, l23, l24) = (r, true)) => M.pat_step hpt hjl r hr
            have hbd := fun (hr : (M.segV ps[j] (l21, l22, l23, l24)).2 = false) => M.pat_bad hpt hjl hr
            rw [hp] at hst hbd
            obtain ⟨⟨⟨r1, r2, r3, r4⟩, ok⟩, hrr⟩ : ∃ r, M.segV p (l21, l22, l23, l24) = r := ⟨_, rfl⟩
            rw [hrr] at sg hsb hst hbd
            unfold s4q at sg
            simp only at sg
            have SG := Lib.hid sg
            have HST := Lib.hid hst
            have HSB := Lib.hid hsb
            have HBD := Lib.hid hbd
            have R4 := Lib.hid hr
            have O4 := Lib.hid ho
            have PA := Lib.hid hpa
            have PB := Lib.hid hpb
            have B4' := Lib.hid hb
            clear hp hPS sg hsb hst hbd hrr hr ho hpa hpb hb hpt hl1 hlb2 ple
            go_wp2_with fail
            refine (SG.out _).mono ?_
            rintro e w4 ⟨rfl, hb4⟩
            have bl5 := (Below.refl w4.heap.size w4).alloc (Nat.le_refl _) (.cells #[.int .i64 r1, .int .i64 r2, .int .i64 r3, .int .i64 r4] 39)
            have b45 := hb4.trans (bl5.mono hb4.size)
            have n5 : RB 39 (w4.alloc (.cells #[.int .i64 r1, .int .i64 r2, .int .i64 r3, .int .i64 r4] 39)) w4.heap.size (r1, r2, r3, r4) := RB.new _ w4 (r1, r2, r3, r4)
            have z5 : w4.heap.size < (w4.alloc (.cells #[.int .i64 r1, .int .i64 r2, .int .i64 r3, .int .i64 r4] 39)).heap.size := by simp
            have zz4 := hb4.size
            obtain ⟨W5, hW5⟩ : ∃ x, w4.alloc (.cells #[.int .i64 r1, .int .i64 r2, .int .i64 r3, .int .i64 r4] 39) = x := ⟨_, rfl⟩
            rw [hW5] at b45 n5 z5
            have x0 := cell_of_row _ _ 0 _ _ _ n5
            have x1' := cell_of_row _ _ 1 _ _ _ n5
            have x2' := cell_of_row _ _ 2 _ _ _ n5
            have x3' := cell_of_row _ _ 3 _ _ _ n5
            simp only [s4q] at x0 x1' x2' x3'
            have HW5 := Lib.hid hW5
            have R5 := Lib.hid (R4.out.keep b45 R4.out.lt)
            have O5 := Lib.hid (OwnS4.keep O4.out b45)
            have PA5 := Lib.hid (PA.out.keep b45 (block_lt_of_cell (PA.out i hil)))
            have PB5 := Lib.hid (PB.out.keep b45 (block_lt_of_cell (PB.out j hjl)))
            have B5 := Lib.hid (B4'.out.trans (b45.mono B4'.out.size))
            have N5 := Lib.hid n5
            have hlow : w1.heap.size ≤ wr.heap.size ∨ True := .inr trivial
            clear hW5 n5 b45 hb4 bl5 g0 g1 g2 g3 c2 hlow
            go_upto_region 12 with (fail)
            rw [HW5.out]
            cases ok with
            | false =>
              have hno := M.lat_bad HLA.out hil (by rw [HLN.out]; exact HV.out) (by rw [HLN.out, HPS.out]; exact HBD.out rfl)
              rw [HR.out] at hno
              subst hno
              clear HR
              go_wp2
              go_ret2
              exact ⟨_, rfl, vs_nil 4 _, nnv_nil, B5.out⟩
            | true =>
              have HOB := Lib.hid hob
              have hb5z := PB5.out.blk hjl
              have wz : wr.heap.size ≤ w4.heap.size := zz4
              have hlen : q2.length + 1 ≤ 4294967296 := by have := HTS.out; omega
              have al6 := (Below.refl W5.heap.size W5).alloc (Nat.le_refl _) (.cells #[.int .i64 r1, .int .i64 r2, .int .i64 r3, .int .i64 r4] 39)
              have AL6 := Lib.hid al6
              have hz6 := al6.size
              have zw5 : w1.heap.size ≤ W5.heap.size := by have := ZW.out; omega
              have hnb : ∀ v, OwnS4 w1.heap.size wr v q2 → v.ownBlock ≠ some w4.heap.size := fun v h e => by have := (World.ownsRow.lt h.1 _ e).2; omega
              have HNB := Lib.hid (hnb _ O4.out)
              clear hob hnb al6
              go_wp2_with (at_builtin; refine wpl_s4G rfl _ _ rfl w1.heap.size _ (.slice (some ⟨W5.heap.size, 0, none⟩) 1 1) q2 [(r1, r2, r3, r4)] (q2 ++ [(r1, r2, r3, r4)]) rfl (OwnS4.keep O5.out AL6.out) rfl (one_s4 W5 (r1, r2, r3, r4)) (nnv_some _ _ _) hlen (by omega) rfl ?_)
              intro v6 w6 ho6 hb6 hf6 hgo6
              have hs5 : W5.heap.size ≤ (W5.alloc (.cells #[.int .i64 r1, .int .i64 r2, .int .i64 r3, .int .i64 r4] 39)).heap.size := hz6
              have e4 : w6.heap[w4.heap.size]? = W5.heap[w4.heap.size]? := (hf6 _ (by omega) (fun e => HNB.out e.symm)).trans (AL6.out.block _ z5)
              have e2 : w6.heap[W2.heap.size]? = W5.heap[W2.heap.size]? := (hf6 _ (by omega) (fun e => HOB.out e.symm)).trans (AL6.out.block _ (by omega))
              have n6 := N5.out.frame e4
              have p6 := PB5.out.frame e2
              have b6 : Below w1.heap.size W5 w6 := (AL6.out.mono zw5).trans hb6
              have q6 := PA5.out.keep b6 (by omega)
              have r6 := R5.out.keep b6 (by omega)
              have bb6 := B5.out.trans (b6.mono (by omega))
              have hob6 : v6.ownBlock ≠ some W2.heap.size := by
                rcases hgo6 with e | e
                · rw [e]; exact HOB.out
                · rw [e]; intro h; have := Option.some.inj h; omega
              have h0 := cell_of_row _ _ 0 _ _ _ n6
              have h1 := cell_of_row _ _ 1 _ _ _ n6
              have h2 := cell_of_row _ _ 2 _ _ _ n6
              have h3 := cell_of_row _ _ 3 _ _ _ n6
              simp only [s4q] at h0 h1 h2 h3
              have hz66 : W5.heap.size ≤ w6.heap.size := by have := hb6.size; omega
              have O6 := Lib.hid ho6
              have R6 := Lib.hid r6
              have Q6 := Lib.hid q6
              have P6 := Lib.hid p6
              have BB6 := Lib.hid bb6
              have HOB6 := Lib.hid hob6
              clear ho6 hb6 hf6 hgo6 e4 e2 n6 p6 b6 q6 r6 bb6 hob6 x0 x1' x2' x3' hs5
              go_wp2_with (refine wpl_stR rfl _ _ rfl w.heap.size (l21, l22, l23, l24) (r1, r2, r3, r4) rfl rfl R6.out ?_)
              have ownlow := OwnV.low O6.out
              have o7 : OwnS4 w1.heap.size (w6.setRow w.heap.size (s4q (r1, r2, r3, r4))) v6 (q2 ++ [(r1, r2, r3, r4)]) := OwnV.frame O6.out (fun j hj => setRow_other _ _ _ _ (by have := ownlow j hj; omega))
              have r7 := R6.out.set (r1, r2, r3, r4)
              have q7 := Q6.out.frame (setRow_other w6 w.heap.size W0.heap.size (s4q (r1, r2, r3, r4)) (by omega))
              have p7 := P6.out.frame (setRow_other w6 w.heap.size W2.heap.size (s4q (r1, r2, r3, r4)) (by omega))
              have b7 := below_setRowR BB6.out (Nat.le_refl _) (s4q (r1, r2, r3, r4))
              have hsz7 : W2.heap.size < (w6.setRow w.heap.size (s4q (r1, r2, r3, r4))).heap.size := by rw [size_setRow]; omega
              have st := HST.out (r1, r2, r3, r4) rfl
              have HSS := Lib.hid (HSB.out (by simp))
              have O7 := Lib.hid o7
              have R7 := Lib.hid r7
              have Q7 := Lib.hid q7
              have P7 := Lib.hid p7
              have B7 := Lib.hid b7
              have ST := Lib.hid st
              clear ownlow o7 r7 q7 p7 b7 st
              go_wp2
              go_roundw
              case rel => exact ⟨j + 1, (r1, r2, r3, r4), q2 ++ [(r1, r2, r3, r4)], by go_num, by omega, O7.out, by rw [List.length_append]; simp; omega, R7.out, ST.out, ⟨HSS.out.2.1, HSS.out.2.2.1⟩, ⟨⟨HSS.out.2.2.2.1, HSS.out.2.2.2.2.1⟩, HSS.out.2.2.2.2.2.1, HSS.out.2.2.2.2.2.2⟩, Q7.out, P7.out, B7.out, HOB6.out, hsz7⟩
              case measure => simp [intOf]; omega
          · obtain rfl : j = np := by omega
            have hpe := M.pat_end (ps := ps) (by rw [HNP.out]; exact hpt)
            have hla2 := M.lat_line HLA.out hil (by rw [HLN.out]; exact HV.out) (by rw [HLN.out, HPS.out]; exact hpe)
            have jf : decide ((j : Int) < j) = false := by simp
            have hlen2 : q2.length + WS (i + 1) ≤ t.length + 1 := by omega
            have HX := Lib.hid hla2
            have HO := Lib.hid ho
            have HRR := Lib.hid hr
            have HPA := Lib.hid hpa
            have HBB := Lib.hid hb
            have HLB2 := Lib.hid hlb2
            have zf : w1.heap.size ≤ wr.heap.size := by have := ZW.out; omega
            clear hpe hla2 ho hr hpa hb hlb2 hpt hpb hob
            go_wp2
            go_roundw
            case rel => exact ⟨i + 1, l2, q2, by go_num, by omega, HO.out, hlen2, HRR.out, HX.out, HLB2.out, HPA.out, HBB.out, zf⟩
            case measure => simp [intOf]; omega
    · obtain rfl : i = n := by omega
      have hre := M.lat_end (ts := ts) (by rw [HNN.out]; exact hla)
      have h1000 : out.length ≤ 209715 := by have := HTS.out; omega
      have jf : decide ((i : Int) < i) = false := by simp
      obtain ⟨mo, hmo⟩ : ∃ x, M.maps out = x := ⟨_, rfl⟩
      have SM := Lib.hid (fun v (h : SsS wr v out) => smaps_any v out mo wr h h1000 hmo)
      have HO := Lib.hid ho
      have HB := Lib.hid hb
      cases mo with
      | none =>
        have hno := M.readM_no t out hre (by rw [hmo]; simp)
        rw [HR.out] at hno
        subst hno
        clear HR hla hre hmo ho hb hr hpa hlb
        go_wp2_with fail
        refine (SM.out _ HO.out.ss).mono ?_
        rintro e w8 ⟨rfl, hb8⟩
        have HB8 := Lib.hid (HB.out.trans (hb8.mono HB.out.size))
        clear hb8
        unfold mres
        go_wp2
        go_ret2
        exact ⟨_, rfl, vs_nil 4 _, nnv_nil, HB8.out⟩
      | some a =>
        by_cases hat : a = t
        · subst hat
          have hyes := M.readM_yes a out hre hmo
          rw [HR.out] at hyes
          subst hyes
          have q1 : (T.toList == T.toList) = true := by simp
          have HT2 := Lib.hid HT.out
          clear HR hla hre hmo ho hb hr hpa hlb
          go_wp2_with fail
          refine (SM.out _ HO.out.ss).mono ?_
          rintro e w8 ⟨rfl, hb8⟩
          have HB8 := Lib.hid (HB.out.trans (hb8.mono HB.out.size))
          have SS8 := Lib.hid (SsS.keep HO.out.ss hb8)
          clear hb8
          unfold mres
          simp only [Option.getD_some, Option.isSome_some]
          rw [HT2.out]
          go_wp2
          go_ret2
          exact ⟨_, rfl, SS8.out, OwnV.nn HO.out, HB8.out⟩
        · have hno := M.readM_no t out hre (by rw [hmo]; simpa using hat)
          rw [HR.out] at hno
          subst hno
          obtain ⟨AB, hAB⟩ : ∃ x, bytes a = x := ⟨_, rfl⟩
          have q1 : (AB.toList == T.toList) = false := by rw [← hAB, ← HT.out, tlS, tlS]; simpa using hat
          have HAB := Lib.hid hAB
          clear HR hla hre hmo ho hb hr hpa hlb hat hAB
          go_wp2_with fail
          refine (SM.out _ HO.out.ss).mono ?_
          rintro e w8 ⟨rfl, hb8⟩
          have HB8 := Lib.hid (HB.out.trans (hb8.mono HB.out.size))
          clear hb8
          unfold mres
          simp only [Option.getD_some, Option.isSome_some]
          rw [HAB.out]
          go_wp2
          go_ret2
          exact ⟨_, rfl, vs_nil 4 _, nnv_nil, HB8.out⟩
end Go.Proofs.YtlobinjdgcidmaaGreatDoor
