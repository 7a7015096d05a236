/- Texts of ours in one: ZList. -/
import Derived.Test.YtlobinjdgcidmaaGreatDoorQs23
import Derived.Deep.DeepCutAuto
import Derived.Great.BuildSlice
/- jparse: list: an array or an object. -/
namespace Go.Proofs.YtlobinjdgcidmaaGreatDoor
open Go.RowKit
set_option linter.unusedVariables false
set_option linter.unusedSimpArgs false

theorem Lst.done2 {pb bx : Nat} {W : World} {h : Vh} {iv mv : Value} {cs : List (List Value)} {L : Vo} (x : Lst pb bx W h iv mv cs L) : HdP (fun b => bx < b ∧ b < W.heap.size) W h nilV mv ∧ VoP (fun b => bx < b ∧ b < W.heap.size) W iv L := by
  refine ⟨⟨by rw [x.dg]; exact Nat.zero_le _, by rw [x.ex]; exact Nat.zero_le _, by rw [x.tx]; exact isP_nil _ _, icl_isP x.mo fun b h1 h2 => ⟨by omega, h2⟩⟩, ?_⟩
  have hn := OwnV.nn x.io
  have hin := own_in x.io
  have hl := KidsC.len L cs x.ks
  have io := x.io
  obtain ⟨a, cap, rfl, h1, h2, h3⟩ := OwnV.vs x.io
  refine ⟨a, cap, by rw [← hl], by omega, h2, fun e => by subst e; exact hn _ _ rfl, fun h0 => ?_⟩
  obtain ⟨b, off, rfl, hb, hc⟩ := h3 (by omega)
  refine ⟨b, off, rfl, ⟨?_, hb⟩, voAt_mono (fun b hb => ⟨hb.1, hb.2.1⟩) L b off (kidsC_at L cs off x.ks hc)⟩
  obtain ⟨⟨_, q⟩, _⟩ := io
  rcases q with ⟨e, _⟩ | ⟨g, c, cur, e, _⟩
  · simp at e
  · simp only [Value.slice.injEq, Option.some.injEq, Addr.mk.injEq] at e
    rw [e.1.1]
    have := (hin g (by rw [e.1.1, e.1.2.1]; rfl)).1
    omega
theorem Fr.transB {pb bx : Nat} {a b c : World} (h : Fr pb a b) (k : FrB pb bx b c) (ha : a.heap.size ≤ bx) : Fr pb a c := ⟨h.lo.trans k.lo, fun j hj hn => (k.oth j (by omega) hn).trans (h.oth j hj hn)⟩
theorem item_any (obj : Bool) (val : M.Toks → PRes) (lev : Int) {w0 w : World} {bv tw : Value} {D : Int} {l : List UInt8} {ts : M.Toks} {bx : Nat} {h : Vh} {iv mv : Value} {cs : List (List Value)} {L : Vo}
    (hval : ∀ (ts' : M.Toks) (V : World) (tw' : Value), ts'.length ≤ ts.length → TkIn l ts' → PsW w0 bv D l V tw' ts' → Calls Tryz.prog 30 #[ptrP w0, .int .i64 lev] V (ValQ w0 bv D l (val ts') V))
    (x : PsW w0 bv D l w tw ts) (hX : TabX w0) (hl : l.length ≤ 20000) (htk : TkIn l ts) (LL : Lst w0.heap.size bx w h iv mv cs L) (hn : cs.length ≤ 60000) (hm : h.ms.length ≤ 60000) (hk : h.k = kdL obj) :
    Calls Tryz.prog 71 #[ptrP w0, .pointer (some ⟨bx, 0, none⟩), .int .i64 lev] w (ItemQ w0 bv D l bx h (itemW l val obj ts h.ms L) w) := by
  cases obj with
  | false => exact item_arr val lev hval x hX hl htk LL hn hm hk
  | true => exact item_obj val lev hval x hX hl htk LL hn hm hk
theorem Lst.shut {pb bx : Nat} {W : World} {h : Vh} {iv mv : Value} {cs : List (List Value)} {L : Vo} (x : Lst pb bx W h iv mv cs L) (z : Int) :
    VB (W.setCell ⟨bx, 7, none⟩ (.int .i64 z)) bx { h with tt := z } nilV iv mv ∧ HdP (fun b => bx < b ∧ b < W.heap.size) (W.setCell ⟨bx, 7, none⟩ (.int .i64 z)) { h with tt := z } nilV mv ∧ VoP (fun b => bx < b ∧ b < W.heap.size) (W.setCell ⟨bx, 7, none⟩ (.int .i64 z)) iv L := by
  obtain ⟨h1, h2⟩ := x.done2
  have ne : ∀ b, (bx < b ∧ b < W.heap.size) → (W.setCell ⟨bx, 7, none⟩ (.int .i64 z)).heap[b]? = W.heap[b]? := fun b hb => heap_setCell_other _ _ _ _ (by show b ≠ bx; omega)
  have k := h1.keep ne
  exact ⟨BK.setCell x.vb 7 (.int .i64 z), ⟨k.d, k.e, k.t, k.m⟩, h2.keep ne⟩
theorem Lst.start {pb : Nat} {w : World} (h : Vh) (ht : h.tx = []) (hd : h.dg = []) (he : h.ex = []) (hm : h.ms = []) (hp : pb < w.heap.size) : Lst pb w.heap.size (w.alloc (.cells (vv h nilV nilV nilV) 48)) h nilV nilV [] .nil :=
  ⟨VB.new w h nilV nilV nilV, ht, hd, he, hp, ⟨World.ownsRow_nil _ _ _ _, by simp, by simp⟩, rfl, by rw [hm]; exact ⟨World.ownsRow_nil _ _ _ _, by simp [icl], by simp [icl]⟩⟩
def RestR (l : List UInt8) (obj : Bool) (deep : Nat) (fr f : Nat) (r : M.Toks) : PRes := match deep with
  | 0 => .error (4, (fr : Int))
  | d + 1 => if kindP r = shL obj then restP l f obj d fr r [] .nil else match itemW l (valP l f d) obj r [] .nil with
    | .error e => .error e
    | .ok (ms, L, r2) => restP l f obj d fr r2 ms L
def LInv (w0 : World) (bv : Value) (Dn : Nat) (l : List UInt8) (obj : Bool) (d fr : Nat) (r : M.Toks) (R : PRes) (bx : Nat) (wa : World) (g : Nat) (wx : World) : Prop :=
  ∃ (ts' : M.Toks) (f' : Nat) (ms : List Int) (L : Vo) (ia : Option Addr) (n icap : Nat) (ma : Option Addr) (m mcap : Nat) (cs : List (List Value)) (tw' : Value), ts'.length = g ∧ ts'.length ≤ r.length ∧ TkIn l ts' ∧ 2 * ts'.length + 2 ≤ f' ∧ restP l f' obj d fr ts' ms L = R ∧
    PsW w0 bv (Dn : Int) l wx tw' ts' ∧ Lst w0.heap.size bx wx ⟨kdL obj, [], false, [], [], fr, 0, ms⟩ (.slice ia n icap) (.slice ma m mcap) cs L ∧ FrB w0.heap.size bx wa wx ∧ n + ts'.length ≤ 40000 ∧ m + ts'.length ≤ 40000 ∧ cs.length = n ∧ ms.length = m
theorem LInv.of {w0 : World} {bv : Value} {Dn : Nat} {l : List UInt8} {obj : Bool} {d fr : Nat} {r : M.Toks} {R : PRes} {bx : Nat} {wa wx : World} {ts' : M.Toks} {f' : Nat} {ms : List Int} {L : Vo} {iv mv : Value} {cs : List (List Value)} {tw' : Value} (h1 : ts'.length ≤ r.length) (h2 : TkIn l ts') (h3 : 2 * ts'.length + 2 ≤ f') (h4 : restP l f' obj d fr ts' ms L = R)
    (x : PsW w0 bv (Dn : Int) l wx tw' ts') (L1 : Lst w0.heap.size bx wx ⟨kdL obj, [], false, [], [], fr, 0, ms⟩ iv mv cs L) (F : FrB w0.heap.size bx wa wx) (c1 : L.len + ts'.length ≤ 40000) (c2 : ms.length + ts'.length ≤ 40000) : LInv w0 bv Dn l obj d fr r R bx wa ts'.length wx := by
  have hl := KidsC.len L cs L1.ks
  obtain ⟨ia, icap, rfl, -⟩ := OwnV.vs L1.io
  obtain ⟨ma, mcap, rfl, -⟩ := OwnV.vs L1.mo
  exact ⟨ts', f', ms, L, ia, cs.length, icap, ma, (icl ms).length, mcap, cs, tw', rfl, h1, h2, h3, h4, x, L1, F, by omega, by simp only [icl, List.length_map]; omega, rfl, by simp [icl]⟩
set_option maxRecDepth 100000 in
set_option maxHeartbeats 8000000 in
theorem list_any (obj : Bool) {w0 w : World} {bv tw : Value} {Dn lv : Nat} {l : List UInt8} {fr te f deep : Nat} {r : M.Toks}
    (hval : ∀ (g : Nat) (d : Nat) (ts' : M.Toks) (V : World) (tw' : Value), ts'.length ≤ r.length → 2 * ts'.length + 1 ≤ g → lv + 1 + d = Dn → TkIn l ts' → PsW w0 bv (Dn : Int) l V tw' ts' → Calls Tryz.prog 30 #[ptrP w0, .int .i64 ((lv : Int) + 1)] V (ValQ w0 bv (Dn : Int) l (valP l g d ts') V))
    (x : PsW w0 bv (Dn : Int) l w tw ((opL obj, fr, te) :: r)) (hX : TabX w0) (hl : l.length ≤ 20000) (htk : TkIn l ((opL obj, fr, te) :: r)) (hf : 2 * r.length + 2 ≤ f) (hld : lv + deep = Dn) (hD : Dn ≤ 60) (hlr : r.length ≤ 20000) :
    Calls Tryz.prog 48 #[ptrP w0, .int .i64 (kdL obj), .int .i64 (opL obj : Int), .int .i64 (shL obj : Int), .int .i64 (lv : Int)] w (ValQ w0 bv (Dn : Int) l (RestR l obj deep fr f r) w) := by
  have hlt := x.lt
  obtain ⟨R, hR⟩ : ∃ R, RestR l obj deep fr f r = R := ⟨_, rfl⟩
  rw [hR]
  obtain ⟨op, hop⟩ : ∃ q : Int, (opL obj : Int) = q := ⟨_, rfl⟩
  obtain ⟨sh, hsh⟩ : ∃ q : Int, (shL obj : Int) = q := ⟨_, rfl⟩
  obtain ⟨kd, hkd⟩ : ∃ q : Int, kdL obj = q := ⟨_, rfl⟩
  have b0 := Lib.hid ((Below.refl w.heap.size w).alloc (Nat.le_refl _) (.cells zv 48))
  have K0 := Lib.hid (BK.new 48 w zv)
  obtain ⟨W1, hW1⟩ : ∃ x, w.alloc (.cells zv 48) = x := ⟨_, rfl⟩
  rw [hW1] at b0 K0
  have HW1 := Lib.hid (show w.alloc (.cells #[.int .i64 0, .slice none 0 0, .bool false, .string ⟨#[]⟩, .string ⟨#[]⟩, .slice none 0 0, .int .i64 0, .int .i64 0, .slice none 0 0] 48) = W1 from hW1)
  have x1 := x.keep b0.out
  obtain ⟨b, off, cap, rfl, h1, h2, hb, d0, d1, d2, h3⟩ := x1.first
  obtain ⟨c0, c1, c2⟩ := x1.cells
  have hs1 := b0.out.size
  have hl1 := K0.out.lt
  have q2 : (0 : Int) < (r.length : Int) + 1 := by omega
  simp only at d0 d1 d2
  rw [hop, hsh, hkd]
  unfold ptrP
  cases deep with
  | zero =>
    have hRe : R = .error (4, (fr : Int)) := hR.symm
    subst hRe
    unfold ValQ
    dsimp only
    have e1 : (lv : Int) = (Dn : Int) := by omega
    obtain ⟨DD, hDD⟩ : ∃ q : Int, (Dn : Int) = q := ⟨_, rfl⟩
    rw [hDD] at c2 e1
    rw [e1]
    obtain ⟨FF, hFF⟩ : ∃ q : Int, (fr : Int) = q := ⟨_, rfl⟩
    rw [hFF] at d1 ⊢
    clear hval x x1 hR htk hop hsh hkd h3 hW1 hDD hFF hld hD hf e1
    go_enter Tryz.func48, Tryz.ntmps48
    go_upto_region 1 with fail
    rw [HW1.out]
    go_wp2
    exact ⟨rfl, rfl, b0.out.mono (Nat.le_of_lt hlt)⟩
  | succ d =>
    have hRd : (if kindP r = shL obj then restP l f obj d fr r [] .nil else match itemW l (valP l f d) obj r [] .nil with
      | .error e => (.error e : PRes)
      | .ok (ms, L, r2) => restP l f obj d fr r2 ms L) = R := hR
    have e1 : ¬ (lv : Int) = (Dn : Int) := by omega
    have hlv : lv + 1 + d = Dn := by omega
    have hlv0 : (0 : Int) ≤ (lv : Int) := by omega
    have hlv1 : (lv : Int) ≤ 60 := by omega
    obtain ⟨DD, hDD⟩ : ∃ q : Int, (Dn : Int) = q := ⟨_, rfl⟩
    have TA : Hid (Calls Tryz.prog 70 #[.pointer (some ⟨w0.heap.size, 0, none⟩), .int .i64 op] W1 fun e w' => ∃ tw, e = .returned (.agg #[.int .i64 op, .int .i64 (fr : Int), .int .i64 (te : Int)]) ∧ PsW w0 bv (Dn : Int) l w' tw r ∧ Fr w0.heap.size W1 w') := Lib.hid (by
      have := take_any (opL obj) (by unfold opL; split <;> omega) x1
      unfold TakeQ at this
      rw [show takeP l.length (opL obj) ((opL obj, fr, te) :: r) = .ok ((opL obj, fr, te), r) by simp [takeP]] at this
      rw [← hop]
      exact this)
    have HV := Lib.hid hval
    have HRD := Lib.hid hRd
    have HTK := Lib.hid htk.tail
    have HDD := Lib.hid hDD
    have HSH := Lib.hid hsh
    have HKD := Lib.hid hkd
    have hfd := field_from op (fr : Int) (te : Int)
    obtain ⟨LV, hLV⟩ : ∃ q : Int, (lv : Int) = q := ⟨_, rfl⟩
    rw [hDD] at c2 e1
    rw [hLV] at e1 hlv0 hlv1 HV ⊢
    clear hval x x1 hR hRd htk hop hsh hkd h3 hW1 hDD hld hD d0 d1 d2 hLV
    go_enter Tryz.func48, Tryz.ntmps48
    go_upto_region 1 with fail
    rw [HW1.out]
    go_wp2_with fail
    refine TA.out.mono ?_
    rintro e w2 ⟨tw2, rfl, x2, f2⟩
    have hs2 := f2.lo.size
    have K02 := Lib.hid (K0.out.frame (f2.oth _ hl1 (by omega)))
    have hpb2 : w0.heap.size < w2.heap.size := by omega
    have al := (Below.refl w2.heap.size w2).alloc (Nat.le_refl _) (.cells (vv ⟨kd, [], false, [], [], fr, 0, []⟩ nilV nilV nilV) 48)
    have l3 := Lst.start (pb := w0.heap.size) (w := w2) ⟨kd, [], false, [], [], fr, 0, []⟩ rfl rfl rfl rfl hpb2
    have x3 := x2.keep al
    have F3 := (Fr.of b0.out (Nat.le_of_lt hlt)).trans (f2.trans (Fr.of al (by omega)))
    have K03 := K02.out.keep al
    obtain ⟨W3, hW3⟩ : ∃ x, w2.alloc (.cells (vv ⟨kd, [], false, [], [], fr, 0, []⟩ nilV nilV nilV) 48) = x := ⟨_, rfl⟩
    obtain ⟨bx, hbx⟩ : ∃ x, w2.heap.size = x := ⟨_, rfl⟩
    have HW3 := Lib.hid (show w2.alloc (.cells #[.int .i64 kd, .slice none 0 0, .bool false, .string ⟨#[]⟩, .string ⟨#[]⟩, .slice none 0 0, .int .i64 (fr : Int), .int .i64 0, .slice none 0 0] 48) = W3 from hW3)
    rw [hW3] at l3 x3 F3 K03
    rw [hbx] at l3 hpb2
    have hbw : w.heap.size < bx := by omega
    have l3 := Lib.hid l3
    have F3 := Lib.hid F3
    have K03 := Lib.hid K03
    have X3 := Lib.hid x3
    have KA := Lib.hid (kind_any x3)
    unfold ptrP at KA
    obtain ⟨kp, hkp⟩ : ∃ q : Int, (kindP r : Int) = q := ⟨_, rfl⟩
    rw [hkp] at KA
    have HKP := Lib.hid hkp
    clear hW3 hkp x3
    go_upto_region 4 with fail
    rw [HW3.out]
    (try rw [hbx])
    clear hbx al x2 f2
    go_wp2_with fail
    refine KA.out.mono ?_
    rintro e w' ⟨rfl, hw⟩
    rw [hw]
    clear hw w'
    go_upto_if 37 with fail
    go_cut [11] (fun q wx => q = .pointer (some ⟨bx, 0, none⟩) ∧ ∃ g, LInv w0 bv Dn l obj d fr r R bx W3 g wx)
    case first =>
      by_cases hk : kindP r = shL obj
      · have t1 : (kp != sh) = false := by rw [← HKP.out, ← HSH.out, hk]; simp
        have hR1 := HRD.out
        rw [if_pos hk] at hR1
        have inv : Hid (LInv w0 bv Dn l obj d fr r R bx W3 r.length W3) := Lib.hid (LInv.of (Nat.le_refl _) HTK.out hf hR1 X3.out (by rw [HKD.out]; exact l3.out) (FrB.refl _ _ _) (by simp only [Vo.len]; omega) (by simp only [List.length_nil]; omega))
        clear hR1
        go_wp2
        go_meet
        case rel => exact ⟨rfl, _, inv.out⟩
      · have t1 : (kp != sh) = true := by rw [← HKP.out, ← HSH.out]; simp; omega
        have hR1 := HRD.out
        rw [if_neg hk] at hR1
        have IT0 := item_any obj (valP l f d) (LV + 1) (fun ts' V tw' a b c => HV.out f d ts' V tw' a (by omega) hlv b c) X3.out hX hl HTK.out l3.out (by simp) (by simp) HKD.out.symm
        simp only at IT0
        cases hI : itemW l (valP l f d) obj r [] .nil with
        | error er =>
          rw [hI] at hR1 IT0
          simp only at hR1
          subst hR1
          unfold ItemQ at IT0
          dsimp only at IT0
          unfold ptrP at IT0
          have IT := Lib.hid IT0
          clear IT0 hI
          go_wp2_with fail
          refine IT.out.mono ?_
          rintro e w4 ⟨rfl, hb4⟩
          go_wp2
          refine ⟨rfl, ?_⟩
          unfold ValQ
          exact ⟨rfl, F3.out.lo.trans hb4⟩
        | ok q =>
          obtain ⟨ms, L1, r1⟩ := q
          rw [hI] at hR1 IT0
          simp only at hR1
          have hsf := item_suf (fun ts h k r e => (val_suf l f).1 d ts h k r e) obj r [] .nil ms L1 r1 hI
          unfold ItemQ at IT0
          dsimp only at IT0
          unfold ptrP at IT0
          have IT := Lib.hid IT0
          have HR1 := Lib.hid hR1
          have HSF := Lib.hid hsf
          clear IT0 hI hR1 hsf
          go_wp2_with fail
          refine IT.out.mono ?_
          rintro e w4 ⟨iv', mv', cs', tw4, rfl, l4, x4, f4⟩
          have inv : Hid (LInv w0 bv Dn l obj d fr r R bx W3 r1.length w4) := Lib.hid (by
            have s := HSF.out
            have s1 := s.1.len
            have s2 := s.2.1
            have s3 := s.2.2
            simp only [Vo.len, List.length_nil] at s2 s3
            exact LInv.of (Nat.le_of_lt s1) (s.1.tk HTK.out) (by omega) HR1.out x4 (by rw [HKD.out]; exact l4) f4 (by omega) (by omega))
          clear l4 x4 f4
          go_wp2
          go_meet
          case rel => exact ⟨rfl, _, inv.out⟩
    case rest =>
    obtain ⟨rfl, g0, inv⟩ := hcut
    obtain ⟨v4, rfl⟩ : ∃ x, x = wc := ⟨_, rfl⟩
    clear KA X3 l3 c0 c1 c2 hb h1 h2 q2 hfd HRD TA HDD
    go_wp2
    go_loopg [43] g0 (fun g kv wr => True ∧ LInv w0 bv Dn l obj d fr r R bx W3 g wr)
    case atStart => exact ⟨trivial, inv⟩
    case round =>
      obtain ⟨-, ts, f', ms, L, ia, n, icap, ma, m, mcap, cs, tw', hgl, hle, htk, hf', hR', x', l', fB, hn1, hm1, hcn, hcm⟩ := hrel
      obtain ⟨f2, rfl⟩ : ∃ q, f' = q + 1 := ⟨f' - 1, by omega⟩
      have KA := Lib.hid (kind_any x')
      unfold ptrP at KA
      have hlb := l'.vb.lt
      by_cases hk : kindP ts = shL obj
      · cases ts with
        | nil => exfalso; simp only [kindP] at hk; unfold shL at hk; split at hk <;> omega
        | cons t r2 =>
          obtain ⟨tk, tf, tt⟩ := t
          simp only [kindP] at hk
          subst hk
          have htp : takeP l.length (shL obj) ((shL obj, tf, tt) :: r2) = .ok ((shL obj, tf, tt), r2) := by simp [takeP]
          rw [restP, if_pos (show kindP ((shL obj, tf, tt) :: r2) = shL obj from rfl), htp] at hR'
          simp only at hR'
          subst hR'
          have TB : Hid (Calls Tryz.prog 70 #[.pointer (some ⟨w0.heap.size, 0, none⟩), .int .i64 sh] wr fun e w' => ∃ tw, e = .returned (.agg #[.int .i64 sh, .int .i64 (tf : Int), .int .i64 (tt : Int)]) ∧ PsW w0 bv (Dn : Int) l w' tw r2 ∧ Fr w0.heap.size wr w') := Lib.hid (by
            have := take_any (shL obj) (by unfold shL; split <;> omega) x'
            unfold TakeQ at this
            rw [htp] at this
            rw [← HSH.out]
            exact this)
          have KA2 : Hid (Calls Tryz.prog 47 #[.pointer (some ⟨w0.heap.size, 0, none⟩)] wr fun e w' => e = .returned (.int .i64 sh) ∧ w' = wr) := Lib.hid (by rw [← HSH.out]; exact KA.out)
          have hfd := field_from sh (tf : Int) (tt : Int)
          have LW := Lib.hid l'
          have FB := Lib.hid fB
          clear KA x' l' fB htp hgl hle htk hf' hn1 hm1 hcn hcm
          go_wp2_with fail
          refine KA2.out.mono ?_
          rintro e w' ⟨rfl, hw⟩
          rw [hw]
          clear hw w'
          go_wp2_with fail
          refine TB.out.mono ?_
          rintro e w5 ⟨tw5, rfl, x5, f5⟩
          have L5 := Lib.hid (LW.out.fr f5)
          have cc : w5.cell? ⟨bx, 7, none⟩ = some (.int .i64 0) := L5.out.vb.cells.2.2.2.2.2.2.2.1
          have zz : w5.frozen? ⟨bx, 7, none⟩ = false := frozen_of_row _ _ _ _ _ L5.out.vb
          obtain ⟨v6, h6, k6⟩ := L5.out.shut (tf : Int)
          have K5 := K03.out.frame ((f5.oth _ (by have := K03.out.lt; have := FB.out.lo.size; omega) (by omega)).trans (FB.out.oth _ (by omega) (by omega)))
          have K6 := K5.other (c := bx) (by omega) 7 (.int .i64 (tf : Int))
          have x6 := x5.setOther (g := bx) (by omega) 7 (.int .i64 (tf : Int))
          have F6 := ((F3.out.transB FB.out (by omega)).trans f5).setCell (g := bx) (by omega) (by omega) 7 (.int .i64 (tf : Int))
          have hsz : w5.heap.size = (w5.setCell ⟨bx, 7, none⟩ (.int .i64 (tf : Int))).heap.size := (World.size_setCell _ _ _).symm
          obtain ⟨W6, hW6⟩ : ∃ x, w5.setCell ⟨bx, 7, none⟩ (.int .i64 (tf : Int)) = x := ⟨_, rfl⟩
          rw [hW6] at v6 h6 k6 K6 x6 F6 hsz
          have HW6 := Lib.hid hW6
          obtain ⟨hV, hhV⟩ : ∃ x, (⟨kdL obj, [], false, [], [], fr, tf, ms⟩ : Vh) = x := ⟨_, rfl⟩
          have v7 : VB W6 bx hV nilV (.slice ia n icap) (.slice ma m mcap) := by rw [← hhV]; exact v6
          have h7 : HdP (fun b => bx < b ∧ b < w5.heap.size) W6 hV nilV (.slice ma m mcap) := by rw [← hhV]; exact h6
          have HHV := Lib.hid hhV
          clear hW6 v6 h6 K5 f5 x5 hhV
          go_upto_region 10 with fail
          rw [HW6.out]
          go_wp2_with (first | (refine wpl_ldV rfl _ rfl bx 0 hV nilV (.slice ia n icap) (.slice ma m mcap) rfl (VB.range v7) ?_) | (refine wpl_stV rfl _ _ rfl w.heap.size zv hV nilV (.slice ia n icap) (.slice ma m mcap) rfl rfl K6 rfl rfl rfl rfl ?_))
          go_wp2
          refine bodyPost_ret (res_bk Tryz.underlying48 rfl infoV1 rfl _ _ w.heap.size (vvl hV nilV (.slice ia n icap) (.slice ma m mcap)) rfl (BK.set K6 _) rfl) rfl ?_
          have bS := below_setRowK (Below.refl 0 W6) (Nat.zero_le w.heap.size) (vv hV nilV (.slice ia n icap) (.slice ma m mcap))
          have ke : ∀ b, (bx < b ∧ b < w5.heap.size) → (W6.setRow w.heap.size (vv hV nilV (.slice ia n icap) (.slice ma m mcap))).heap[b]? = W6.heap[b]? := fun b hb => setRow_other _ _ _ _ (by omega)
          have km : ∀ b, (bx < b ∧ b < w5.heap.size) → Nw w.heap.size (W6.setRow w.heap.size (vv hV nilV (.slice ia n icap) (.slice ma m mcap))) b := fun b hb => ⟨by omega, by have := bS.size; omega⟩
          unfold ValQ
          simp only
          rw [HHV.out]
          exact ⟨nilV, .slice ia n icap, .slice ma m mcap, tw5, rfl, (h7.keep ke).mono km, (k6.keep ke).mono km, x6.setRow hlt _, F6.setRow (Nat.le_refl _) (Nat.le_of_lt hlt) _⟩
      · obtain ⟨kq, hkq⟩ : ∃ q : Int, (kindP ts : Int) = q := ⟨_, rfl⟩
        rw [hkq] at KA
        have t1 : (kq != sh) = true := by rw [← hkq, ← HSH.out]; simp; omega
        rw [restP, if_neg hk] at hR'
        have hLn : L.len = n := by rw [← hcn]; exact (KidsC.len L cs l'.ks).symm
        obtain ⟨h, hh⟩ : ∃ x, (⟨kdL obj, [], false, [], [], fr, 0, ms⟩ : Vh) = x := ⟨_, rfl⟩
        rw [hh] at l'
        have hhm : h.ms = ms := by rw [← hh]
        have HH := Lib.hid hh
        have HCM : Hid (h.ms.length = m) := Lib.hid (by rw [hhm]; exact hcm)
        have HHM := Lib.hid hhm
        have hm2 : m ≤ 60000 := by omega
        have HCN := Lib.hid hcn
        have HLN := Lib.hid hLn
        have LW := Lib.hid l'
        have xW := Lib.hid x'
        obtain ⟨WW, hWW⟩ : ∃ x, wr = x := ⟨_, rfl⟩
        have HW : Hid (FrB w0.heap.size bx W3 WW) := Lib.hid (by rw [← hWW]; exact fB)
        rw [hWW] at LW xW KA hlb ⊢
        have c8 := LW.out.vb.cells.2.2.2.2.2.2.2.2
        have HTS := Lib.hid htk
        clear x' l' fB hcn hcm hh hhm hkq hLn htk
        cases hR6 : takeP l.length 6 ts with
        | error er =>
          rw [hR6] at hR'
          simp only at hR'
          subst hR'
          have CT : Hid (∀ (V : World) (tw' : Value), PsW w0 bv (Dn : Int) l V tw' ts → Calls Tryz.prog 70 #[.pointer (some ⟨w0.heap.size, 0, none⟩), .int .i64 6] V fun e w' => Pan e er ∧ Below w0.heap.size V w') := Lib.hid (fun V tw' hV => by
            have := take_any 6 (by decide) hV
            unfold TakeQ at this
            rw [hR6] at this
            exact this)
          clear hR6
          go_wp2_with fail
          refine KA.out.mono ?_
          rintro e w' ⟨rfl, hw⟩
          rw [hw]
          clear hw w'
          go_upto_region 7 with fail
          have SS8 : ∀ V : World, VB V bx h nilV (.slice ia n icap) (.slice ma m mcap) → V.cell? ⟨bx, 8, none⟩ = some (.slice ma m mcap) := fun V hv => hv.cells.2.2.2.2.2.2.2.2
          have LD := Lib.hid (LW.out.fr (Fr.of ((Below.refl _ _).drew) (by have := LW.out.vb.lt; have := LW.out.lt; omega)))
          have xD := Lib.hid (xW.out.keep ((Below.refl _ _).drew))
          refine wp_region_to 8 (S := fun V => V.cell? ⟨bx, 8, none⟩ = some (.slice ma m mcap)) (by kernel_rfl) (SS8 _ LD.out.vb) (fun hS => ?_)
          have BD := Lib.hid ((Below.refl WW.heap.size WW).drew)
          have hbW := LW.out.vb.lt
          have hpW := LW.out.lt
          obtain ⟨WD, hWD⟩ : ∃ x, WW.drew = x := ⟨_, rfl⟩
          rw [hWD] at LD xD BD hS ⊢
          clear hWD
          refine dtp 0 ?_
          refine dtk 1 ?_
          refine dtp 2 ?_
          refine AnyTo.ready (rs := [3]) (by kernel_rfl) (by simp) ?_
          refine ReadyTo.cons rfl (fun K hK => ?_) ReadyTo.nil
          go_simp
          refine (CT.out WD _ xD.out).mono ?_
          rintro e w1 ⟨rfl, hb1⟩
          refine ⟨rfl, ?_⟩
          unfold ValQ
          exact ⟨rfl, F3.out.lo.trans (HW.out.lo.trans ((BD.out.mono (by omega)).trans hb1))⟩
        | ok q =>
          obtain ⟨cc, r1⟩ := q
          rw [hR6] at hR'
          simp only at hR'
          have hl6 := take_len hR6
          obtain ⟨ck, cz, ce⟩ := cc
          obtain ⟨ck, hck⟩ : ∃ z : Int, (ck : Int) = z := ⟨_, rfl⟩
          obtain ⟨cf, hcf⟩ : ∃ z : Int, (cz : Int) = z := ⟨_, rfl⟩
          obtain ⟨ce, hce⟩ : ∃ z : Int, (ce : Int) = z := ⟨_, rfl⟩
          have TK : Hid (∀ (V : World) (tw' : Value), PsW w0 bv (Dn : Int) l V tw' ts → Calls Tryz.prog 70 #[.pointer (some ⟨w0.heap.size, 0, none⟩), .int .i64 6] V fun e w' => ∃ tw, e = .returned (.agg #[.int .i64 ck, .int .i64 cf, .int .i64 ce]) ∧ PsW w0 bv (Dn : Int) l w' tw r1 ∧ Fr w0.heap.size V w') := Lib.hid (fun V tw' hV => by
            have := take_any 6 (by decide) hV
            unfold TakeQ at this
            rw [hR6] at this
            rw [← hck, ← hcf, ← hce]
            exact this)
          have HTK2 := Lib.hid ((Suf.one _ _).tk (hl6 ▸ HTS.out))
          have hlen2 : ts.length = r1.length + 1 := by rw [hl6]; rfl
          rw [hcf] at hR'
          have HR := Lib.hid hR'
          clear hR6 hl6 hck hcf hce hR'
          go_wp2_with fail
          refine KA.out.mono ?_
          rintro e w' ⟨rfl, hw⟩
          rw [hw]
          clear hw w'
          go_upto_region 7 with fail
          refine wp_region_noPanic ?_
          have SS8 : ∀ V : World, VB V bx h nilV (.slice ia n icap) (.slice ma m mcap) → V.cell? ⟨bx, 8, none⟩ = some (.slice ma m mcap) := fun V hv => hv.cells.2.2.2.2.2.2.2.2
          have LD := Lib.hid (LW.out.fr (Fr.of ((Below.refl _ _).drew) (by have := LW.out.vb.lt; have := LW.out.lt; omega)))
          have xD := Lib.hid (xW.out.keep ((Below.refl _ _).drew))
          refine wp_region_to 8 (S := fun V => V.cell? ⟨bx, 8, none⟩ = some (.slice ma m mcap)) (by kernel_rfl) (SS8 _ LD.out.vb) (fun hS => ?_)
          have BD := Lib.hid ((Below.refl WW.heap.size WW).drew)
          obtain ⟨WD, hWD⟩ : ∃ x, WW.drew = x := ⟨_, rfl⟩
          rw [hWD] at LD xD BD hS ⊢
          clear hWD
          refine dtp 0 ?_
          refine dtk 1 ?_
          refine dtp 2 ?_
          refine AnyTo.ready (rs := [3]) (by kernel_rfl) (by simp) ?_
          refine ReadyTo.cons rfl (fun K hK => ?_) ReadyTo.nil
          go_simp
          refine (TK.out WD _ xD.out).mono ?_
          rintro e w1 ⟨tw1, rfl, x1, f1⟩
          refine hK.out _ _ (SS8 _ (LD.out.fr f1).vb) (fun hS => ?_)
          clear hK K
          have L1 := Lib.hid (LD.out.fr f1)
          have hbD := LD.out.vb.lt
          have hpD := LD.out.lt
          have hsD := f1.lo.size
          refine dtp (v := .int .i64 cf) 4 (hy := Or.inl ⟨by rfl, by intro V hSV; have hfd := field_from ck cf ce V; go_simp⟩) ?_
          refine AnyTo.ready (rs := [5]) (by kernel_rfl) (by simp) ?_
          refine ReadyTo.cons rfl (fun K hK => ?_) ReadyTo.nil
          go_simp
          have al := (Below.refl w1.heap.size w1).alloc (Nat.le_refl _) (.cells #[.int .i64 cf] 3)
          have xT := Lib.hid (x1.keep al)
          have LT := Lib.hid (L1.out.fr (Fr.of al (by omega)))
          have RT : Hid ((w1.alloc (.cells #[.int .i64 cf] 3)).rangeAt w1.heap.size 0 [.int .i64 cf]) := Lib.hid (BK.range (BK.new 3 w1 #[.int .i64 cf]) 0 _ (fun j u hu => by rw [Nat.zero_add]; simpa using hu))
          have FT := Lib.hid ((f1.box (bx := bx) (by omega)).trans ((Fr.of (pb := w0.heap.size) al (by omega)).box (bx := bx) (by omega)))
          refine hK.out _ _ (SS8 _ LT.out.vb) (fun hS => ?_)
          clear hK K
          obtain ⟨bz, hbz⟩ : ∃ x, w1.heap.size = x := ⟨_, rfl⟩
          obtain ⟨WT, hWT⟩ : ∃ x, w1.alloc (.cells #[.int .i64 cf] 3) = x := ⟨_, rfl⟩
          rw [hWT] at xT LT RT FT hS ⊢
          rw [hbz] at RT ⊢
          clear hWT hbz al x1 L1
          refine AnyTo.ready (rs := [6]) (by kernel_rfl) (by simp) ?_
          refine ReadyTo.cons rfl (fun K hK => ?_) ReadyTo.nil
          rw [if_pos (by rfl)]
          refine wp_appV _ _ rfl Tryz.underlying42 infoI rfl (by decide) (bx + 1) (.slice ma m mcap) (icl h.ms) (icl (h.ms ++ [cf])) [.int .i64 cf] bz 1 m (by simp only [icl, List.length_map]; exact HCM.out) rfl LT.out.mo rfl RT.out rfl (fun c hc => by simp only [List.mem_cons, List.mem_nil_iff, or_false] at hc; subst hc; rfl) (by omega) (by decide) (by have := LT.out.vb.lt; omega) (by simp [icl]) ?_
          intro g gc W8 ho8 hb8 hf8 hg8 hgl8
          have vb8 := Lib.hid (LT.out.vb.frame (hb8.block bx (by omega)))
          refine hK.out _ _ (SS8 _ vb8.out) (fun hS => ?_)
          clear hK K
          have mk := LT.out.mark ho8 hb8 hf8 (by
            rcases hg8 with e | e
            · exact .inl e.symm
            · exact .inr (by rw [← e]; rfl))
          have c8 : W8.cell? ⟨bx, 8, none⟩ = some (.slice ma m mcap) := vb8.out.cells.2.2.2.2.2.2.2.2
          have f8 : W8.frozen? ⟨bx, 8, none⟩ = false := frozen_of_row W8 bx 8 _ _ vb8.out
          have x9 := (xT.out.keepB hb8 (by omega)).setOther (g := bx) (by omega) 8 (.slice (some ⟨g, 0, none⟩) (m + 1) gc)
          obtain ⟨W9, hW9⟩ : ∃ x, W8.setCell ⟨bx, 8, none⟩ (.slice (some ⟨g, 0, none⟩) (m + 1) gc) = x := ⟨_, rfl⟩
          rw [hW9] at mk x9
          have L9 := Lib.hid mk.1
          have f9 := Lib.hid mk.2
          have x9 := Lib.hid x9
          have HW9 := Lib.hid hW9
          clear mk hW9 ho8 hb8 hf8
          refine dtp 7 ?_
          refine AnyTo.ready (rs := [8]) (by kernel_rfl) (by simp) ?_
          refine ReadyTo.last rfl (by kernel_rfl) (fun K hK => ?_) ReadyTo.nil
          go_simp
          refine hK.out _ _ ?_
          clear hK K
          refine AnyTo.done (by kernel_rfl) ?_ _
          rw [HW9.out]
          refine NoPanic.normal ?_
          have f49 := HW.out.trans (((Fr.of BD.out (by omega)).box (bx := bx) (by omega)).trans (FT.out.trans f9.out))
          have l9 : Lst w0.heap.size bx W9 ⟨kdL obj, [], false, [], [], fr, 0, ms ++ [cf]⟩ (.slice ia n icap) (.slice (some ⟨g, 0, none⟩) (m + 1) gc) cs L := by have := L9.out; rw [← HH.out] at this; exact this
          have x4 := x9.out
          obtain ⟨v6, hv6⟩ : ∃ x, W9 = x := ⟨_, rfl⟩
          rw [hv6] at l9 x4 f49 ⊢
          have IT0 := item_any obj (valP l f2 d) (LV + 1) (fun ts' V tw' a b c => HV.out f2 d ts' V tw' (by omega) (by omega) hlv b c) x4 hX hl HTK2.out l9 (by rw [HCN.out]; omega) (by simp only [List.length_append, List.length_cons, List.length_nil]; have := HCM.out; rw [HHM.out] at this; omega) rfl
          simp only at IT0
          have hR := HR.out
          have F49 := Lib.hid f49
          clear f49 l9 x4 hv6 L9 x9 f9 FT LT RT xT LD xD BD hS HW9 vb8 c8 f8 LW xW HW
          cases hI : itemW l (valP l f2 d) obj r1 (ms ++ [cf]) L with
          | error er =>
            rw [hI] at hR IT0
            simp only at hR
            subst hR
            unfold ItemQ at IT0
            dsimp only at IT0
            unfold ptrP at IT0
            have IT := Lib.hid IT0
            clear IT0 hI
            go_wp2_with fail
            refine IT.out.mono ?_
            rintro e w4 ⟨rfl, hb4⟩
            go_wp2
            refine ⟨rfl, ?_⟩
            unfold ValQ
            exact ⟨rfl, F3.out.lo.trans (F49.out.lo.trans hb4)⟩
          | ok q =>
            obtain ⟨ms2, L2, r2⟩ := q
            rw [hI] at hR IT0
            simp only at hR
            have hsf := item_suf (fun ts h k r e => (val_suf l f2).1 d ts h k r e) obj r1 (ms ++ [cf]) L ms2 L2 r2 hI
            unfold ItemQ at IT0
            dsimp only at IT0
            unfold ptrP at IT0
            have IT := Lib.hid IT0
            have HR2 := Lib.hid hR
            have HSF := Lib.hid hsf
            clear IT0 hI hR hsf
            go_wp2_with fail
            refine IT.out.mono ?_
            rintro e w4 ⟨iv', mv', cs', tw4, rfl, l4, x4, f4⟩
            have s1 := HSF.out.1.len
            have inv : Hid (LInv w0 bv Dn l obj d fr r R bx W3 r2.length w4) := Lib.hid (by
              have s := HSF.out
              have s2 := s.2.1
              have s3 := s.2.2
              have e1 := HLN.out
              have e2 := HCM.out
              rw [HHM.out] at e2
              simp only [List.length_append, List.length_cons, List.length_nil] at s3
              exact LInv.of (by omega) (s.1.tk HTK2.out) (by omega) HR2.out x4 l4 (F49.out.trans f4) (by omega) (by omega))
            clear l4 x4 f4
            go_wp2
            go_roundg r2.length
            case rel => exact ⟨trivial, inv.out⟩
            case measure => omega
end Go.Proofs.YtlobinjdgcidmaaGreatDoor
