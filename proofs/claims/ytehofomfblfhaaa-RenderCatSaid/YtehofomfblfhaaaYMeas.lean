/- Layouts: render.measure of any document that may be. -/
import Derived.Test.YtehofomfblfhaaaYAdd
import Derived.Test.YtehofomfblfhaaaYRen
import Derived.Test.YtehofomfblfhaaaTDoc6
namespace Go.Proofs.Ytehofomfblfhaaa
open Go.RowKit
set_option linter.unusedVariables false
set_option linter.unusedSimpArgs false

theorem pcs_one (k f : Int) (s : ByteArray) (xd vk : Value) (l : List UInt8) (h : Bool) (lb : Nat × Bool) (hx : xd.oneCell' = true) (hv : vk.oneCell' = true) : ∀ c ∈ pcs k f s xd vk l h lb, c.oneCell' = true := by
  intro c hc
  simp only [pcs, List.mem_cons, List.mem_nil_iff, or_false] at hc
  rcases hc with rfl | rfl | rfl | rfl | rfl | rfl | rfl | rfl | rfl | rfl | rfl
  all_goals first | rfl | assumption
/-- What measure gives. -/
def MeP (w : World) (k f : Int) (s : ByteArray) (kids : Fo) (e : Ending) (w' : World) : Prop :=
  ∃ xd vk, e = .returned (.agg (pcs k f s xd vk (allD k s kids) (hardD k kids) (lbD k s kids)).toArray) ∧ xd.oneCell' = true ∧ vk.oneCell' = true ∧ PaC (fun b => w.heap.size ≤ b ∧ b < w'.heap.size) w' k f s kids (pcs k f s xd vk (allD k s kids) (hardD k kids) (lbD k s kids)) ∧ Below w.heap.size w w'
def ME (k f : Int) (s : ByteArray) (kids : Fo) : Prop := ∀ (w : World) (v : Value) (d : Nat), FoS w v kids → rightD k f s kids d = true → s.size + 1 + FoSz kids ≤ 400000 →
  Calls Try.prog 25 #[.agg (dv k f s v)] w (MeP w k f s kids)
theorem lbF_ge (lb : Nat × Bool) (X : Nat × Bool) : lb.1 ≤ (comb lb X).1 := by
  unfold comb
  split
  · exact Nat.le_refl _
  · exact Nat.le_add_right _ _
theorem fo_len_sz (L : Fo) : L.len ≤ FoSz L := by
  induction L with
  | nil => simp [Fo.len]
  | cons k f s kids rest _ ih => simp only [Fo.len, FoSz]; omega
theorem comb_two (a b : Nat × Bool) : (comb a b).2 = (a.2 || b.2) := by
  obtain ⟨a1, a2⟩ := a
  obtain ⟨b1, b2⟩ := b
  cases a2 <;> rfl
/-- The blocks in which the kids of a part under way lie. -/
def KB (N : Nat) (v2 : Value) (w : World) (b : Nat) : Prop := N ≤ b ∧ b < w.heap.size ∧ some b ≠ v2.ownBlock ∧ b ≠ N + 1 + 1 ∧ b ≠ N + 1
/-- On the way through the kids. -/
structure MeS (w : World) (L : Fo) (k f : Int) (S : ByteArray) (xd : Value) (N : Nat) (wr : World) (j : Nat) (rest : Fo) (lk : List (List Value)) (acc : List UInt8) (hb : Bool) (lb : Nat × Bool) (v2 : Value) : Prop where
  ms : MsW (KB N v2 wr) wr L rest j lk acc hb lb
  hp : BK 55 wr (N + 1 + 1) (pcs k f S xd v2 acc hb lb).toArray
  hr : BK 55 wr (N + 1) pz
  ho : OwnV 55 11 N wr v2 lk
  bl : Below N w wr
  np : v2.ownBlock ≠ some (N + 1 + 1)
  nr : v2.ownBlock ≠ some (N + 1)
theorem MeS.step {w : World} {L rest kids : Fo} {k f k' f' : Int} {S s' : ByteArray} {xd : Value} {N : Nat} {wr wr1 w5 w6 : World} {j : Nat} {lk : List (List Value)} {acc : List UInt8} {hb : Bool} {lb : Nat × Bool} {v2 v3 : Value} {y : List Value}
    (h : MeS w L k f S xd N wr j (.cons k' f' s' kids rest) lk acc hb lb v2) (h1 : Below wr.heap.size wr wr1) (h5 : Below wr1.heap.size wr1 w5) (hy : PaC (fun b => wr1.heap.size ≤ b ∧ b < w5.heap.size) w5 k' f' s' kids y)
    (ho : OwnV 55 11 N w6 v3 (lk ++ [y])) (hp : BK 55 w6 (N + 1 + 1) (pcs k f S xd v3 (acc ++ allD k' s' kids) (hb || hardD k' kids) (comb lb (lbD k' s' kids))).toArray)
    (hbl : Below N w5 w6) (hfr : Fr2 w5 w6 (N + 1 + 1) v2) (hnp : v3.ownBlock ≠ some (N + 1 + 1)) (hor : v3.ownBlock = v2.ownBlock ∨ ∃ j, w5.heap.size ≤ j ∧ v3.ownBlock = some j) :
    MeS w L k f S xd N w6 (j + 1) rest (lk ++ [y]) (acc ++ allD k' s' kids) (hb || hardD k' kids) (comb lb (lbD k' s' kids)) v3 := by
  have hpl := h.hp.lt
  have hrl := h.hr.lt
  have z1 := h1.size
  have z5 := h5.size
  have z6 := hbl.size
  have hown : ∀ g, v2.ownBlock = some g → g < wr.heap.size := fun g e => (own_in h.ho g e).2
  have hne3 : ∀ b, b < w5.heap.size → some b ≠ v2.ownBlock → some b ≠ v3.ownBlock := fun b hb h2 => by
    rcases hor with e | ⟨i, hi, e⟩
    · rw [e]; exact h2
    · rw [e]; intro e2; simp only [Option.some.injEq] at e2; omega
  have fr : ∀ b, b < wr.heap.size → b ≠ N + 1 + 1 → some b ≠ v2.ownBlock → w6.heap[b]? = wr.heap[b]? := fun b h2 h3 h4 => by
    rw [hfr b (by omega) h3 h4, h5.block b (by omega), h1.block b h2]
  have fr5 : ∀ b, wr1.heap.size ≤ b → b < w5.heap.size → w6.heap[b]? = w5.heap[b]? := fun b h2 h3 => hfr b h3 (by omega) (fun e => by have := hown b e.symm; omega)
  refine ⟨h.ms.go (fun b hb => fr b hb.2.1 hb.2.2.2.1 hb.2.2.1) (fun b hb => ⟨hb.1, by have := hb.2.1; omega, hne3 b (by have := hb.2.1; omega) hb.2.2.1, hb.2.2.2⟩) ((hy.keep fun b hb => fr5 b hb.1 hb.2).mono fun b hb => ⟨by omega, by omega, hne3 b hb.2 (fun e => by have := hown b e.symm; omega), by omega, by omega⟩), hp, ?_, ho, (h.bl.trans (h1.mono (by omega))).trans ((h5.mono (by omega)).trans hbl), hnp, ?_⟩
  · exact h.hr.frame (fr _ hrl (by omega) (fun e => h.nr e.symm))
  · intro e
    exact hne3 (N + 1) (by omega) (fun e2 => h.nr e2.symm) e.symm
/-- The end: p is copied into the result. -/
theorem MeS.fin {w : World} {L : Fo} {k f : Int} {S : ByteArray} {xd : Value} {N : Nat} {wr : World} {j : Nat} {lk : List (List Value)} {acc : List UInt8} {hb : Bool} {lb : Nat × Bool} {v2 : Value}
    (h : MeS w L k f S xd N wr j .nil lk acc hb lb v2) (hN : w.heap.size = N) (hs : S.size ≤ maxLen) (hx : SlV xd) (h1 : allD k S L = allF L) (h2 : hardD k L = hardF L) (h3 : lbD k S L = lbF L) :
    (pcs k f S xd v2 acc hb lb).toArray = (pcs k f S xd v2 (allD k S L) (hardD k L) (lbD k S L)).toArray ∧ v2.oneCell' = true ∧
    PaC (fun b => w.heap.size ≤ b ∧ b < (wr.setRow (N + 1) (pcs k f S xd v2 acc hb lb).toArray).heap.size) (wr.setRow (N + 1) (pcs k f S xd v2 acc hb lb).toArray) k f S L (pcs k f S xd v2 (allD k S L) (hardD k L) (lbD k S L)) ∧
    Below w.heap.size w (wr.setRow (N + 1) (pcs k f S xd v2 acc hb lb).toArray) := by
  have e1 : acc = allD k S L := by rw [h1, ← h.ms.txt]; simp [allF]
  have e2 : hb = hardD k L := by rw [h2, ← h.ms.hrd]; simp [hardF]
  have e3 : lb = lbD k S L := by rw [h3, ← h.ms.led]; exact (comb_zero lb).symm
  have hl : lk.length = L.len := by have := h.ms.len; have := h.ms.lks; simp only [Fo.len] at *; omega
  have hvv := h.ho.vs
  obtain ⟨ga, gc, hv2, -⟩ := h.ho.vs
  have hfr : ∀ b, b ≠ N + 1 → (wr.setRow (N + 1) (pcs k f S xd v2 acc hb lb).toArray).heap[b]? = wr.heap[b]? := fun b hb => setRow_other wr _ b _ hb
  have hz : (wr.setRow (N + 1) (pcs k f S xd v2 acc hb lb).toArray).heap.size = wr.heap.size := setRow_size ..
  refine ⟨by rw [← e1, ← e2, ← e3], by rw [hv2]; rfl, ?_, by rw [hN]; exact below_setRowK h.bl (by omega) _⟩
  rw [hz]
  have hloc := (own_p h.ho).2
  refine .mk k f S L xd v2 lk hs hx ⟨hvv.frameP fun b off n c e h0 => hfr b (fun eb => h.nr ?_), fun b off n c e h0 => ?_⟩ hl fun i hi k' f' s' kids' hat => ?_
  · rw [e, eb]; rfl
  · rw [hN]; exact hloc b off n c e h0
  · refine ((h.ms.kin i hi k' f' s' kids' hat).keep fun b hb => hfr b hb.2.2.2.2).mono fun b hb => ?_
    rw [hN]; exact ⟨hb.1, hb.2.1⟩
set_option maxRecDepth 100000 in
set_option maxHeartbeats 4000000 in
theorem me_node (k f : Int) (S : ByteArray) (L : Fo) (ME0 : ∀ j k f s kids, L.at? j = some (k, f, s, kids) → ME k f s kids) (w : World) (v : Value) (d : Nat) (hv : FoS w v L) (hr : rightF L d = true) (hss : S.size ≤ maxLen) (hsz : FoSz L ≤ 400000) (hk : k = 5 ∨ k = 6 ∨ k = 7) :
    Calls Try.prog 25 #[.agg (dv k f S v)] w (MeP w k f S L) := by
  have hd1 : allD k S L = allF L := by unfold allD; rw [if_neg (by omega), if_neg (by omega), if_neg (by omega)]
  have hd2 : hardD k L = hardF L := by unfold hardD; rw [if_neg (by omega), if_neg (by omega), if_neg (by omega)]
  have hd3 : lbD k S L = lbF L := by unfold lbD; rw [if_neg (by omega), if_neg (by omega)]
  have HD1 := Lib.hid hd1
  have HD2 := Lib.hid hd2
  have HD3 := Lib.hid hd3
  have HSS := Lib.hid hss
  have HLA := Lib.hid (allF_len L)
  have HLB := Lib.hid (lbF_le L)
  have HLN := Lib.hid (fo_len_sz L)
  obtain ⟨a, cap, rfl, h1, h2, h3, h4⟩ := hv
  obtain ⟨n, hn⟩ : ∃ n, L.len = n := ⟨_, rfl⟩
  have hnn : n ≤ 400000 := by have := HLN.out; omega
  have HN := Lib.hid hn
  rw [hn] at h4
  have H4 := Lib.hid h4
  have HME := Lib.hid ME0
  have HRD := Lib.hid (fun j k f s kids h => right_at L d hr j k f s kids h)
  have t1 : (k == 1) = false := by simp; omega
  have t2 : (k == 2) = false := by simp; omega
  have t3 : (k == 3) = false := by simp; omega
  have t4 : (k == 4) = false := by simp; omega
  rw [hn]
  clear hd1 hd2 hd3 hr ME0 h4 hn hk h1 h2 h3 hss
  obtain ⟨W1, hW1⟩ : ∃ W, ((w.alloc (.cells #[.int .i64 k, .int .i64 f, .string S, .slice a n cap] 24)).alloc (.cells pz 55)).alloc (.cells #[.int .i64 k, .int .i64 f, .string S, .slice a n cap, .slice none 0 0, .int .i64 0, .string ⟨#[]⟩, .string ⟨#[]⟩, .bool false, .int .i64 0, .bool false] 55) = W := ⟨_, rfl⟩
  have ba : Below w.heap.size w (w.alloc (.cells #[.int .i64 k, .int .i64 f, .string S, .slice a n cap] 24)) := (Below.refl _ _).alloc (Nat.le_refl _) _
  have bb := ba.alloc ba.size (.cells pz 55)
  have bc := bb.alloc bb.size (.cells #[.int .i64 k, .int .i64 f, .string S, .slice a n cap, .slice none 0 0, .int .i64 0, .string ⟨#[]⟩, .string ⟨#[]⟩, .bool false, .int .i64 0, .bool false] 55)
  have hdc := (BK.new 24 w #[.int .i64 k, .int .i64 f, .string S, .slice a n cap]).keep (((Below.refl _ _).alloc (Nat.le_refl _) (.cells pz 55)).alloc (by simp) (.cells #[.int .i64 k, .int .i64 f, .string S, .slice a n cap, .slice none 0 0, .int .i64 0, .string ⟨#[]⟩, .string ⟨#[]⟩, .bool false, .int .i64 0, .bool false] 55))
  have hrs := (BK.new 55 (w.alloc (.cells #[.int .i64 k, .int .i64 f, .string S, .slice a n cap] 24)) pz).keep ((Below.refl _ _).alloc (Nat.le_refl _) (.cells #[.int .i64 k, .int .i64 f, .string S, .slice a n cap, .slice none 0 0, .int .i64 0, .string ⟨#[]⟩, .string ⟨#[]⟩, .bool false, .int .i64 0, .bool false] 55))
  have hps := BK.new 55 ((w.alloc (.cells #[.int .i64 k, .int .i64 f, .string S, .slice a n cap] 24)).alloc (.cells pz 55)) #[.int .i64 k, .int .i64 f, .string S, .slice a n cap, .slice none 0 0, .int .i64 0, .string ⟨#[]⟩, .string ⟨#[]⟩, .bool false, .int .i64 0, .bool false]
  simp only [World.size_alloc] at hrs hps
  rw [hW1] at bc hdc hrs hps
  have HW1 := Lib.hid hW1
  have M0 : Hid (MeS w L k f S (.slice a n cap) w.heap.size W1 0 L [] [] false (0, false) (.slice none 0 0)) := Lib.hid ⟨MsW.start _ _ _, hps, hrs, ownV_nil _ _ _ _, bc, by simp [Value.ownBlock], by simp [Value.ownBlock]⟩
  have c0 : W1.cell? ⟨w.heap.size, 0, none⟩ = some (.int .i64 k) := hdc.cell 0
  have c3 : W1.cell? ⟨w.heap.size, 3, none⟩ = some (.slice a n cap) := hdc.cell 3
  clear hW1 ba bb bc hdc hrs hps
  unfold dv
  go_enter Try.func25, Try.ntmps25
  go_upto_region 2 with fail
  rw [show (((w.alloc (.cells #[.int .i64 k, .int .i64 f, .string S, .slice a n cap] 24)).alloc (.cells #[.int .i64 0, .int .i64 0, .string ⟨#[]⟩, .slice none 0 0, .slice none 0 0, .int .i64 0, .string ⟨#[]⟩, .string ⟨#[]⟩, .bool false, .int .i64 0, .bool false] 55)).alloc (.cells #[.int .i64 k, .int .i64 f, .string S, .slice a n cap, .slice none 0 0, .int .i64 0, .string ⟨#[]⟩, .string ⟨#[]⟩, .bool false, .int .i64 0, .bool false] 55)) = W1 from HW1.out]
  go_wp2
  go_loopw [35] (fun iv wr => ∃ (j : Nat) (rest : Fo) (lk : List (List Value)) (acc : List UInt8) (hb : Bool) (lb : Nat × Bool) (v2 : Value), iv = .int .i64 (j : Int) ∧ j ≤ n ∧ MeS w L k f S (.slice a n cap) w.heap.size wr j rest lk acc hb lb v2) (fun iv _ => n - (intOf iv).toNat)
  case atStart => exact ⟨0, L, [], [], false, (0, false), .slice none 0 0, rfl, by omega, M0.out⟩
  case round =>
    obtain ⟨j, rest, lk, acc, hb, lb, v2, rfl, hj, hms⟩ := hrel
    have HMS := Lib.hid hms
    clear hms
    by_cases hlt : j < n
    · cases rest with
      | nil => exfalso; have := HMS.out.ms.len; have := HN.out; simp only [Fo.len] at *; omega
      | cons x0 x1 X kids rest =>
        have hat : L.at? j = some (x0, x1, X, kids) := (HMS.out.ms.at_ 0).symm
        obtain ⟨b, off, rfl, hbk, hfo⟩ := H4.out (by omega)
        obtain ⟨hXs, q0, q1, q2, u, q3, hu⟩ := foAt_get L b off j x0 x1 X kids hfo hat
        have HBW := Lib.hid HMS.out.bl
        obtain ⟨ua, ucap, hus⟩ := hu.slice
        obtain ⟨un, hun⟩ : ∃ m, kids.len = m := ⟨_, rfl⟩
        rw [hun] at hus
        subst hus
        have HU := Lib.hid hu
        have g0 := (HBW.out.cell (p := ⟨b, off + j * 4, none⟩) hbk).trans q0
        have g1 := (HBW.out.cell (p := ⟨b, off + j * 4 + 1, none⟩) hbk).trans q1
        have g2 := (HBW.out.cell (p := ⟨b, off + j * 4 + 2, none⟩) hbk).trans q2
        have g3 := (HBW.out.cell (p := ⟨b, off + j * 4 + 3, none⟩) hbk).trans q3
        obtain ⟨sm1, sm2⟩ := fo_at_small L j x0 x1 X kids hat
        have b1 : Hid (Below wr.heap.size wr (wr.alloc (.cells #[.int .i64 x0, .int .i64 x1, .string X, .slice ua un ucap] 24))) := Lib.hid ((Below.refl _ _).alloc (Nat.le_refl _) _)
        obtain ⟨wr1, hwr1⟩ : ∃ x, wr.alloc (.cells #[.int .i64 x0, .int .i64 x1, .string X, .slice ua un ucap] 24) = x := ⟨_, rfl⟩
        rw [hwr1] at b1
        have R1 := Lib.hid (HME.out j x0 x1 X kids hat wr1 _ d (HU.out.keep (HBW.out.trans (b1.out.mono HBW.out.size))) (HRD.out j x0 x1 X kids hat) (by omega))
        have acl : acc.length + (allD x0 X kids).length ≤ 400000 := by
          have e := congrArg List.length HMS.out.ms.txt
          have := HLA.out
          rw [allF_cons, List.length_append, List.length_append] at e
          omega
        have lbl : lb.1 + (lbD x0 X kids).1 ≤ 800000 := by
          have e := HMS.out.ms.led
          have h1 := lbF_ge lb (lbF (.cons x0 x1 X kids rest))
          have h2 := lbD_le x0 X kids
          have := HLB.out
          rw [e] at h1
          omega
        have HWR := Lib.hid hwr1
        have j0 : (0 : Int) ≤ j := by omega
        have j1 : (j : Int) < n := by omega
        have LKS := Lib.hid HMS.out.ms.lks
        have ACL := Lib.hid acl
        have LBL := Lib.hid lbl
        have cwr : wr1.cell? ⟨wr.heap.size, 0, none⟩ = some (.int .i64 x0) := by rw [← hwr1, World.cell?_alloc_at _ _ _ _ rfl]; rfl
        have cwr1 : wr1.cell? ⟨wr.heap.size, 1, none⟩ = some (.int .i64 x1) := by rw [← hwr1, World.cell?_alloc_at _ _ _ _ rfl]; rfl
        have cwr2 : wr1.cell? ⟨wr.heap.size, 2, none⟩ = some (.string X) := by rw [← hwr1, World.cell?_alloc_at _ _ _ _ rfl]; rfl
        have cwr3 : wr1.cell? ⟨wr.heap.size, 3, none⟩ = some (.slice ua un ucap) := by rw [← hwr1, World.cell?_alloc_at _ _ _ _ rfl]; rfl
        clear hwr1 acl lbl sm1 sm2 q0 q1 q2 q3 hu hat hfo hun hXs
        unfold dv at R1
        as_aux_lemma =>
          go_upto_region 17 with fail
          rw [HWR.out]
          go_wp2_with fail
          refine (R1.out).mono ?_
          rintro e w5 ⟨xd', vk', rfl, hx', hv', hy, hb5⟩
          have hb15 := b1.out.trans (hb5.mono b1.out.size)
          have HP5 := Lib.hid (HMS.out.hp.keep hb15)
          have HO5 := Lib.hid (HMS.out.ho.keep hb15)
          have HY := Lib.hid hy
          have HB5 := Lib.hid hb5
          clear hy hb5 hb15 cwr cwr1 cwr2 cwr3 g0 g1 g2 g3
          go_wp2_with fail
          refine (add_any w.heap.size (w.heap.size + 1 + 1) j w5 k f S (.slice (some ⟨b, off, none⟩) n cap) v2 acc (allD x0 X kids) hb (hardD x0 kids) lb.2 (lbD x0 X kids).2 lb.1 (lbD x0 X kids).1 x0 x1 X xd' vk' lk HP5.out HO5.out (by omega) LKS.out HMS.out.np (by omega) (by have := ACL.out; omega) (by have := LBL.out; omega) rfl hx' hv').mono ?_
          rintro e w6 ⟨rfl, v3, ho3, hp3, bl3, fr3, np3, or3⟩
          have hp3' : BK 55 w6 (w.heap.size + 1 + 1) (pcs k f S (.slice (some ⟨b, off, none⟩) n cap) v3 (acc ++ allD x0 X kids) (hb || hardD x0 kids) (comb lb (lbD x0 X kids))).toArray := by
            unfold pcs
            rw [comb_two]
            exact hp3
          have NS := Lib.hid (HMS.out.step b1.out HB5.out HY.out ho3 hp3' bl3 fr3 np3 or3)
          clear ho3 hp3 bl3 fr3 np3 or3 hp3'
          go_wp2
          go_roundw
          case rel => exact ⟨j + 1, rest, _, _, _, _, v3, by go_num, by omega, NS.out⟩
          case measure => simp [intOf]; omega
    · obtain rfl : j = n := by omega
      have hnil : rest = .nil := by
        have h1 := HMS.out.ms.len
        have h2 := HN.out
        cases rest with
        | nil => rfl
        | cons _ _ _ _ _ => simp only [Fo.len] at h1; omega
      subst hnil
      have t5 : decide ((j : Int) < j) = false := by simp
      have FI := Lib.hid (HMS.out.fin rfl HSS.out ⟨_, _, _, rfl⟩ HD1.out HD2.out HD3.out)
      clear hlt
      as_aux_lemma =>
        go_wp2_with (first | (refine wpl_ldK Try.underlying55 rfl infoPt1 rfl _ rfl (w.heap.size + 1 + 1) (pcs k f S (.slice a j cap) v2 acc hb lb) rfl HMS.out.hp rfl ?_) | (refine wpl_stK infoPt1 rfl _ _ rfl (w.heap.size + 1) pz (pcs k f S (.slice a j cap) v2 acc hb lb).toArray rfl rfl HMS.out.hr rfl rfl (all_oneCell_toArray (pcs_one _ _ _ _ _ _ _ _ rfl FI.out.2.1)) ?_))
        (try simp only [Exit.inBlock, Exit.then])
        refine bodyPost_ret (res_bk Try.underlying55 rfl infoPt1 rfl _ _ (w.heap.size + 1) (pcs k f S (.slice a j cap) v2 acc hb lb) rfl (BK.set HMS.out.hr _) rfl) rfl ?_
        exact ⟨_, v2, by rw [FI.out.1], rfl, FI.out.2.1, FI.out.2.2.1, FI.out.2.2.2⟩
end Go.Proofs.Ytehofomfblfhaaa
