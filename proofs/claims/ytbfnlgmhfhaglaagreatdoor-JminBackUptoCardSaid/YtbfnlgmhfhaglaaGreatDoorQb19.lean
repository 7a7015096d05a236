import Derived.Test.YtbfnlgmhfhaglaaGreatDoorQb18
set_option maxHeartbeats 8000000
set_option maxRecDepth 100000
namespace Go.Proofs.YtbfnlgmhfhaglaaGreatDoor
open Go.RowKit
set_option linter.unusedVariables false
set_option linter.unusedSimpArgs false
theorem infoPc : (Tryz.prog.info? 54).map (fun i => (i.zero, i.size, i.bytes)) = some (some (.agg #[.string ⟨#[]⟩, .int .i64 0]), 2, 24) := by kernel_rfl
theorem pcv_len (l : List Jp) : ∀ y ∈ l.map pcv, y.length = 2 := by
 intro y hy; obtain ⟨p, _, rfl⟩ := List.mem_map.1 hy; rfl
theorem pcv_one (l : List Jp) : ∀ y ∈ l.map pcv, ∀ c ∈ y, c.oneCell' = true := by
 intro y hy c hc; obtain ⟨p, _, rfl⟩ := List.mem_map.1 hy
 simp only [pcv, List.mem_cons, List.mem_nil_iff, or_false] at hc
 rcases hc with rfl | rfl <;> rfl
theorem one_jp (w : World) (S : ByteArray) (t : List UInt8) (f : Int) (h : bytes t = S) : Vs 2 (w.alloc (.cells #[.string S, .int .i64 f] 54)) (.slice (some ⟨w.heap.size, 0, none⟩) 1 1) ([(t, f)].map pcv) := by
 subst h
 exact vs_cells 2 54 w ([(t, f)].map pcv) _ 1 rfl (pcv_len _) rfl (by simp)
abbrev OwnJ (B : Nat) (w : World) (v : Value) (l : List Jp) : Prop := OwnV 54 2 B w v (l.map pcv)
structure JApp (B : Nat) (w : World) (lv : Value) (w' : World) (lv' : Value) (l' : List Jp) : Prop where
 own : OwnJ B w' lv' l'
 bl : Below B w w'
 fr : ∀ j, j < w.heap.size -> some j ≠ lv.ownBlock -> w'.heap[j]? = w.heap[j]?
 ob : lv'.ownBlock = lv.ownBlock \/ ∃ j, w.heap.size <= j /\ lv'.ownBlock = some j
theorem JApp.trans {B : Nat} {w w1 w2 : World} {lv lv1 lv2 : Value} {l1 l2 : List Jp} (h1 : JApp B w lv w1 lv1 l1) (h2 : JApp B w1 lv1 w2 lv2 l2) (hlv : ∀ j, lv.ownBlock = some j -> j < w.heap.size) : JApp B w lv w2 lv2 l2 := by
 refine ⟨h2.own, h1.bl.trans h2.bl, fun j hj hne => ?_, ?_⟩
 ·rw [h2.fr j (Nat.lt_of_lt_of_le hj h1.bl.size) ?_]
  ·exact h1.fr j hj hne
  ·rcases h1.ob with e | ⟨k, hk, e⟩
   ·rw [e]; exact hne
   ·rw [e]; intro e2; simp only [Option.some.injEq] at e2; omega
 ·rcases h2.ob with e | ⟨k, hk, e⟩
  ·rw [e]; exact h1.ob
  ·exact .inr ⟨k, Nat.le_trans h1.bl.size hk, e⟩
theorem JApp.pre {B : Nat} {w w1 w2 : World} {lv lv2 : Value} {l2 : List Jp} (hb : Below w.heap.size w w1) (hB : B <= w.heap.size) (h2 : JApp B w1 lv w2 lv2 l2) : JApp B w lv w2 lv2 l2 :=
 ⟨h2.own, (hb.mono hB).trans h2.bl, fun j hj hne => (h2.fr j (Nat.lt_of_lt_of_le hj hb.size) hne).trans (hb.block j hj), by
  rcases h2.ob with e | ⟨k, hk, e⟩
  ·exact .inl e
  ·exact .inr ⟨k, Nat.le_trans hb.size hk, e⟩⟩
theorem JApp.post {B : Nat} {w w1 w2 : World} {lv lv1 : Value} {l1 : List Jp} (h1 : JApp B w lv w1 lv1 l1) (hb : Below w1.heap.size w1 w2) (hB : B <= w1.heap.size) : JApp B w lv w2 lv1 l1 :=
 ⟨OwnV.keep h1.own hb, h1.bl.trans (hb.mono hB), fun j hj hne => (hb.block j (Nat.lt_of_lt_of_le hj h1.bl.size)).trans (h1.fr j hj hne), h1.ob⟩
theorem wpl_jp {w : World} {ops : Array Oper} {rest : List Oper} {o : Oper} {a : Act} {Q : Exit -> Act -> World -> Prop} (hgd : o.guard = none) (s x : Operand)
  (ho : o.op = .call { callee := .builtin .append, args := #[s, x], argTypes := #[45, 45] })
  (B : Nat) (v u : Value) (l : List Jp) (p : Jp) (hs : a.eval s = v) (hown : OwnJ B w v l) (hx : a.eval x = u) (hu : Vs 2 w u ([p].map pcv)) (hnn : NNv u) (hlen : l.length <= 1000000) (hB : B <= w.heap.size)
  (h : ∀ v' w', JApp B w v w' v' (l ++ [p]) -> wpList Tryz.prog ops Q rest (a.put o.dst v') w') : wpList Tryz.prog ops Q (o :: rest) a w :=
 wpl_appendVG hgd s x ho Tryz.underlying45 infoPc rfl (by decide) B v u (l.map pcv) ([p].map pcv) ((l ++ [p]).map pcv) hs hown hx hu hnn (pcv_len _) (pcv_one _) (by rw [List.length_map, List.length_map]; simp only [List.length_singleton]; omega) (by decide) hB (by simp)
  fun v' w' ho' hb' hf' hob => h v' w' ⟨ho', hb', hf', by
   rcases hob with e | e
   ·exact .inl e
   ·exact .inr ⟨_, Nat.le_refl _, e⟩⟩
def AV (h : Vh) (kids : Vo) : Prop :=
 ∀ (w0 : World) (d B : Nat) (w : World) (tv v mv lv : Value) (l : List Jp), Tabs w0 -> HdS w0 h tv mv -> VoS w0 v kids -> rightH h kids d = true -> 1 + h.tx.length + h.ms.length + VoC kids <= 100000 -> VoL 700 (.cons h kids .nil) ->
  Below w0.heap.size w0 w -> w0.heap.size <= B -> B <= w.heap.size -> OwnJ B w lv l -> l.length + (pcsV h kids).length <= 1000000 ->
  Calls Tryz.prog 34 #[lv, .agg (vv h tv v mv)] w fun e w' => ∃ lv', e = .returned lv' /\ JApp B w lv w' lv' (l ++ pcsV h kids)
def AL (h : Vh) (kids : Vo) : Prop :=
 ∀ (w0 : World) (d B : Nat) (w : World) (tv v mv lv : Value) (l : List Jp), Tabs w0 -> HdS w0 h tv mv -> VoS w0 v kids -> h.k = 1 \/ h.k = 2 -> rightH h kids d = true -> 1 + h.tx.length + h.ms.length + VoC kids <= 100000 -> VoL 700 (.cons h kids .nil) ->
  Below w0.heap.size w0 w -> w0.heap.size <= B -> B <= w.heap.size -> OwnJ B w lv l -> l.length + (pcsV h kids).length <= 1000000 ->
  Calls Tryz.prog 56 #[lv, .agg (vv h tv v mv), .string (bytes (opB h.k)), .string (bytes (clB h.k))] w fun e w' => ∃ lv', e = .returned lv' /\ JApp B w lv w' lv' (l ++ pcsV h kids)
theorem right_parts {h : Vh} {kids : Vo} {d : Nat} (hr : rightH h kids d = true) (hk : h.k = 1 \/ h.k = 2) : h.ms.length = kids.len - 1 /\ rightVo kids (d - 1) = true := by
 unfold rightH headB at hr
 rw [if_pos hk] at hr
 simp only [Bool.and_eq_true, decide_eq_true_eq] at hr
 obtain ⟨-, -, ⟨⟨hm, -⟩, hv⟩⟩ := hr
 unfold marksB at hm
 simp only [Bool.and_eq_true, decide_eq_true_eq] at hm
 exact ⟨hm.1.2, hv⟩
theorem right_kid {L : Vo} {d : Nat} (hr : rightVo L d = true) : ∀ j h kids, L.at? j = some (h, kids) -> rightH h kids d = true := by
 intro j h kids hj
 cases hb : rightH h kids d with
 | true => rfl
 | false => rw [rightVo_false d L j h kids hj hb] at hr; exact absurd hr (by simp)
def pcsT (k : Int) (ms : List Int) (L : Vo) : Nat -> List Jp
 | 0 => []
 | i + 1 => pcsT k ms L i ++ (match L.at? i with | some (h, kids) => (if 0 < i then [(mkB k i, ms.getD (i - 1) 0)] else []) ++ pcsV h kids | none => [])
theorem pcsT_all (k : Int) (ms : List Int) (L : Vo) : ∀ (R : Vo) (i : Nat), (∀ j, R.at? j = L.at? (i + j)) -> pcsT k ms L i ++ pcsL k ms R i = pcsT k ms L (i + R.len) := by
 intro R
 induction R with
 | nil => intro i _; simp [pcsL, Vo.len]
 | cons h kids rest _ ih =>
  intro i hj
  rw [pcsL_cons]
  have h0 := hj 0
  rw [Nat.add_zero] at h0
  have := ih (i + 1) (fun j => by have := hj (j + 1); rw [show i + 1 + j = i + (j + 1) by omega]; exact this)
  rw [show i + (Vo.cons h kids rest).len = i + 1 + rest.len by simp [Vo.len]; omega, <- this]
  simp only [pcsT, <- h0, Vo.at?, List.append_assoc]
theorem pcsT_len (k : Int) (ms : List Int) (L : Vo) : pcsT k ms L L.len = pcsL k ms L 0 := by
 have := pcsT_all k ms L L 0 (fun j => by rw [Nat.zero_add])
 rw [Nat.zero_add] at this
 rw [<- this]; rfl
theorem pcsT_mono (k : Int) (ms : List Int) (L : Vo) : ∀ i j, i <= j -> (pcsT k ms L i).length <= (pcsT k ms L j).length := by
 intro i j hij
 induction j with
 | zero =>
   obtain rfl : i = 0 := by omega
   exact Nat.le_refl _
 | succ j ih =>
  rcases Nat.lt_or_ge i (j + 1) with h | h
  ·have := ih (by omega)
   simp only [pcsT, List.length_append]; omega
  ·obtain rfl : i = j + 1 := by omega
   exact Nat.le_refl _
theorem pcs_count (L : Vo) : ∀ k ms i, (pcsL k ms L i).length <= 3 * VoN L := by
 induction L with
 | nil => intro k ms i; simp [pcsL]
 | cons h kids rest ih1 ih2 =>
  intro k ms i
  rw [pcsL_cons]
  have h2 := ih2 k ms (i + 1)
  have h1 := ih1 h.k h.ms 0
  have h3 : (pcsV h kids).length <= 2 + 3 * VoN kids := by
   unfold pcsV
   split
   ·simp only [List.length_cons, List.length_append, List.length_nil]; omega
   ·simp only [List.length_singleton]; omega
  simp only [List.length_append, VoN]
  split <;> simp only [List.length_cons, List.length_nil] <;> omega
theorem voN_C (L : Vo) : VoN L <= VoC L := by
 induction L with
 | nil => exact Nat.le_refl _
 | cons h kids rest ih1 ih2 => simp only [VoN, VoC]; omega
structure AlS (B : Nat) (w0 w : World) (lv : Value) (h : Vh) (tv v mv : Value) (W : World) (lr : Value) (l' : List Jp) : Prop where
 ap : JApp B w lv W lr l'
 bx : VB W w.heap.size h tv v mv
 nb : lr.ownBlock ≠ some w.heap.size
 lo : Below w0.heap.size w0 W
 hB : B <= w.heap.size
 lw : ∀ j, lv.ownBlock = some j -> j < w.heap.size
theorem AlS.keep {B : Nat} {w0 w W W' : World} {lv lr : Value} {h : Vh} {tv v mv : Value} {l' : List Jp} (x : AlS B w0 w lv h tv v mv W lr l') (hb : Below W.heap.size W W') : AlS B w0 w lv h tv v mv W' lr l' :=
 ⟨x.ap.post hb (Nat.le_trans x.hB x.ap.bl.size), x.bx.keep hb, x.nb, x.lo.trans (hb.mono x.lo.size), x.hB, x.lw⟩
theorem AlS.app {B : Nat} {w0 w W W' : World} {lv lr lr' : Value} {h : Vh} {tv v mv : Value} {l' l'' : List Jp} (x : AlS B w0 w lv h tv v mv W lr l') (hB0 : w0.heap.size <= B) (j : JApp B W lr W' lr' l'') : AlS B w0 w lv h tv v mv W' lr' l'' := by
 have hvb := x.bx.lt
 refine ⟨x.ap.trans j x.lw, x.bx.frame (j.fr _ hvb (fun e => x.nb e.symm)), ?_, x.lo.trans (j.bl.mono hB0), x.hB, x.lw⟩
 rcases j.ob with e | ⟨k, hk, e⟩
 ·rw [e]; exact x.nb
 ·rw [e]; intro e2; simp only [Option.some.injEq] at e2; omega
theorem al_one (h : Vh) (kids : Vo) (AV0 : ∀ j h' kids', kids.at? j = some (h', kids') -> AV h' kids') : AL h kids := by
 intro w0 d B w tv v mv lv l hT0 ht0 hv0 hk hr hC hL hb0 hB0 hB ho hln
 obtain ⟨hmn, hrv⟩ := right_parts hr hk
 have b0 := (Below.refl w.heap.size w).alloc (Nat.le_refl _) (.cells (vv h tv v mv) 27)
 obtain ⟨W1, hW1⟩ : ∃ W, w.alloc (.cells (vv h tv v mv) 27) = W := ⟨_, rfl⟩
 have hJ0 : JApp B w lv w lv l := ⟨ho, Below.refl _ _, fun _ _ _ => rfl, .inl rfl⟩
 have S1 : AlS B w0 w lv h tv v mv W1 lv l := by
  rw [hW1] at b0
  refine ⟨hJ0.post b0 hB, by rw [<- hW1]; exact VB.new w h tv v mv, fun e => ?_, hb0.trans (b0.mono hb0.size), hB, fun j hj => (own_in ho j hj).2⟩
  have := (own_in ho _ e).2; omega
 have HS1 := LH S1
 have HW1 := LH hW1
 have HAV := LH (fun i h' kids' (hi : kids.at? i = some (h', kids')) (W : World) (tv' v' mv' lr : Value) (l' : List Jp) (ht' : HdS w0 h' tv' mv') (hv' : VoS w0 v' kids') (hlo : Below w0.heap.size w0 W) (hbw : B <= W.heap.size) (ho' : OwnJ B W lr l') hln' => AV0 i h' kids' hi w0 (d - 1) B W tv' v' mv' lr l' hT0 ht' hv' (right_kid hrv i h' kids' hi) (by have := voC_at kids i h' kids' hi; omega) (by obtain ⟨e1, e2⟩ := voL_at kids hL.2.1 i h' kids' hi; exact ⟨e1, e2, trivial⟩) hlo hB0 hbw ho' hln')
 have hct := pcs_count (.cons h kids .nil) 0 [] 0
 have hN := voN_C kids
 have HPE := LH (show pcsV h kids = (opB h.k, h.fr) :: (pcsL h.k h.ms kids 0 ++ [(clB h.k, h.tt)]) by unfold pcsV; rw [if_pos hk])
 have HPT := LH (pcsT_len h.k h.ms kids)
 have hpl : (pcsL h.k h.ms kids 0).length + 2 = (pcsV h kids).length := by rw [HPE.out]; simp
 have HMO := LH (fun i (hi : i <= kids.len) => Nat.le_trans (pcsT_mono h.k h.ms kids i kids.len hi) (by rw [pcsT_len]; exact Nat.le_refl _))
 have MK := LH (fun W i (hW : Below w0.heap.size w0 W) hi => mark_any h kids tv v mv i W (ht0.below hW) (hv0.below hW) hi)
 have hnl := voC_len kids
 obtain ⟨a, c, hvs⟩ := hv0.slice
 obtain ⟨ta, tc, hts⟩ := ht0.t.slice
 obtain ⟨ma, mc, hms⟩ := ht0.m.slice
 obtain ⟨a', c', hvs', -, -, -, hq⟩ := hv0
 obtain ⟨ma', mc', hms', -, -, -, hmq⟩ := ht0.m
 rw [hvs] at hvs'
 rw [hms] at hms'
 simp only [Value.slice.injEq] at hvs' hms'
 obtain ⟨rfl, -, rfl⟩ := hvs'
 obtain ⟨rfl, -, rfl⟩ := hms'
 subst hvs hts hms
 obtain ⟨la, lc, hlv, -⟩ := OwnV.vs ho
 obtain ⟨ll, hll⟩ : ∃ n, (l.map pcv).length = n := ⟨_, rfl⟩
 rw [hll] at hlv
 subst hlv
 obtain ⟨n, hn⟩ : ∃ n, kids.len = n := ⟨_, rfl⟩
 obtain ⟨mn, hmn2⟩ : ∃ n, h.ms.length = n := ⟨_, rfl⟩
 have HN := LH hn
 have HMN := LH hmn2
 have HQ := LH hq
 have HMQ := LH hmq
 have AT := LH (fun i (hi : i < n) => Vo.at_some kids i (by rw [hn]; exact hi))
 rw [hn, hmn2] at hmn HS1 HW1 MK ⊢
 rw [hn] at HMO HPT hnl
 obtain ⟨OB, hOB⟩ : ∃ x, bytes (opB h.k) = x := ⟨_, rfl⟩
 obtain ⟨CB, hCB⟩ : ∃ x, bytes (clB h.k) = x := ⟨_, rfl⟩
 rw [hOB, hCB]
 have HOB := LH hOB
 have HCB := LH hCB
 obtain ⟨K, hK⟩ : ∃ x, h.k = x := ⟨_, rfl⟩
 obtain ⟨FR, hFR⟩ : ∃ x, h.fr = x := ⟨_, rfl⟩
 obtain ⟨TO, hTO⟩ : ∃ x, h.tt = x := ⟨_, rfl⟩
 have EXP : Hid (vv h (.slice ta h.tx.length tc) (.slice a n c) (.slice ma mn mc) = #[.int .i64 K, .slice ta h.tx.length tc, .bool h.ng, .string (bytes h.dg), .string (bytes h.ex), .slice a n c, .int .i64 FR, .int .i64 TO, .slice ma mn mc]) := LH (by rw [<- hK, <- hFR, <- hTO]; rfl)
 have HFR := LH hFR
 have HTO := LH hTO
 have HW2 := LH HW1.out
 rw [EXP.out] at HW2 ⊢
 have hB1 := HS1.out.ap.bl.size
 obtain ⟨-, -, -, -, -, -, g6, -, -⟩ := HS1.out.bx.cells
 rw [hFR] at g6
 have HLN := LH hln
 have HPL := LH hpl
 have hll2 : l.length <= 1000000 := by omega
 have HME := LH hmn
 have hmb : mn <= 1000000 := by omega
 clear hmn hn hmn2 hq hmq AV0 hT0 hr hC hL hb0 ho hct hN hpl hrv hJ0 S1 hW1 b0 hOB hCB hK hFR hTO ht0 hll hk hln HW1
 go_enter Tryz.func56, Tryz.ntmps56
 go_upto_region 1 with fail
 rw [HW2.out]
 go_wp2_with (at_builtin; refine wpl_jp rfl _ _ rfl B (.slice la ll lc) _ l (opB h.k, FR) rfl ?_ rfl ?_ (nnv_some _ _ _) hll2 ?_ ?_)
 ·exact OwnV.keep HS1.out.ap.own ((Below.refl _ _).alloc (Nat.le_refl _) _)
 ·exact one_jp W1 OB (opB h.k) FR HOB.out
 ·rw [World.size_alloc]; omega
 ·intro l1 w2 J1
  have S2 := LH ((HS1.out.keep ((Below.refl _ _).alloc (Nat.le_refl _) (.cells #[.string OB, .int .i64 FR] 54))).app hB0 J1)
  clear J1
  obtain ⟨-, -, -, -, -, g5, -, -, -⟩ := S2.out.bx.cells
  go_upto_region 3 with fail
  go_loopw [0, 9, 10, 21] (fun lr _ _ iv wr => ∃ i : Nat, iv = .int .i64 (i : Int) /\ i <= n /\ AlS B w0 w (.slice la ll lc) h (.slice ta h.tx.length tc) (.slice a n c) (.slice ma mn mc) wr lr (l ++ [(opB h.k, FR)] ++ pcsT h.k h.ms kids i)) (fun _ _ _ iv _ => n - (intOf iv).toNat)
  case atStart => exact ⟨0, by go_num, by omega, by have := S2.out; simpa [pcsT] using this⟩
  case round =>
   obtain ⟨i, rfl, hi, hst⟩ := hrel
   have S3 := LH hst
   have hwB : B <= wr.heap.size := by have := hst.ap.bl.size; omega
   clear hst
   by_cases hlt : i < n
   ·obtain ⟨h', kids', hat⟩ := AT.out i hlt
    obtain ⟨b, off, hab, hbk, hfo⟩ := HQ.out (by rw [HN.out]; omega)
    subst hab
    obtain ⟨tv', mv', u, hd', hr', hu'⟩ := voAt_get kids b off i h' kids' hfo hat
    have hrr := LH (range_same hr' (S3.out.lo.block b hbk))
    have hto := hd'.t.one
    have huo := hu'.one
    have hmo := hd'.m.one
    have HDT := LH hd'
    have HUT := LH hu'
    have HAT := LH hat
    have HNX : Hid (pcsT h.k h.ms kids (i + 1) = pcsT h.k h.ms kids i ++ ((if 0 < i then [(mkB h.k i, h.ms.getD (i - 1) 0)] else []) ++ pcsV h' kids')) := LH (by simp only [pcsT]; rw [hat])
    have j0 : (0 : Int) <= i := by omega
    have j1 : (i : Int) < n := by omega
    have EW := LH (fun W2 => vbox_set (w := wr) (h := h') (tv := tv') (v := u) (mv := mv') W2)
    obtain ⟨IB, hIB⟩ : ∃ x, wr.heap.size = x := ⟨_, rfl⟩
    clear hat hfo hd' hr' hu'
    go_upto_region 5 with (first | (refine wpl_ldV rfl _ rfl b (off + i * 9) h' tv' u mv' rfl hrr.out ?_) | (refine wpl_stV rfl _ _ rfl wr.heap.size zv h' tv' u mv' (by rw [hIB]; rfl) rfl (heap_alloc_new wr _) rfl hto huo hmo ?_) | fail)
    obtain ⟨W4, hW4⟩ : ∃ x, (wr.alloc (.cells zv 27)).setRow wr.heap.size (vv h' tv' u mv') = x := ⟨_, rfl⟩
    obtain ⟨v4, B4⟩ := EW.out W4 hW4
    have S4 := LH (S3.out.keep B4)
    rw [hIB] at v4
    have V4 := LH v4
    have hIB4 : IB < W4.heap.size := v4.lt
    have hw4 : wr.heap.size <= W4.heap.size := B4.size
    have hlr4 : ∀ j, u0.ownBlock = some j -> j < wr.heap.size := fun j hj => (own_in S3.out.ap.own j hj).2
    have HLR := LH hlr4
    have HIB := LH hIB
    unfold zv at hW4
    rw [hW4]
    clear hW4 EW v4 B4 hIB hlr4 hto huo hmo
    by_cases h0 : 0 < i
    case neg =>
     have z0 : ¬ (0 : Int) < i := by omega
     as_aux_lemma =>
      go_wp2_with (first | (refine wpl_ldV rfl _ rfl IB 0 h' tv' u mv' rfl V4.out.range ?_) | fail)
      refine (HAV.out i h' kids' HAT.out _ tv' u mv' _ _ HDT.out HUT.out S4.out.lo (by have := S4.out.ap.bl.size; omega) S4.out.ap.own (by
       have e1 := HMO.out (i + 1) (by omega)
       have e2 := HPL.out
       have e3 := HLN.out
       rw [HNX.out] at e1
       simp only [List.length_append, List.length_cons, List.length_nil] at e1 ⊢
       rw [if_neg h0] at e1; simp only [List.length_nil] at e1
       omega)).mono ?_
      rintro e w6 ⟨l6, rfl, J6⟩
      have S6 := LH (S4.out.app hB0 J6)
      clear J6
      go_wp2
      go_roundw
      case rel => exact ⟨i + 1, by go_num, by omega, by have := S6.out; rw [HNX.out]; simpa [List.append_assoc, h0] using this⟩
      case measure => simp [intOf]; omega
    have z0 : (0 : Int) < i := by omega
    obtain ⟨mb, mo, hma, hmbk, hmc⟩ := HMQ.out (by rw [HMN.out, HME.out, <- HN.out]; have := HN.out; omega)
    subst hma
    have him : i - 1 < h.ms.length := by rw [HMN.out]; have := HME.out; have := HN.out; omega
    have c0 := hmc (i - 1) him
    obtain ⟨M, hM⟩ : ∃ x, h.ms[i - 1] = x := ⟨_, rfl⟩
    have hM2 : h.ms.getD (i - 1) 0 = M := by rw [<- hM, List.getD_eq_getElem?_getD, List.getElem?_eq_getElem him]; rfl
    rw [hM] at c0
    obtain ⟨m, hm⟩ : ∃ m, i - 1 = m := ⟨_, rfl⟩
    rw [hm] at c0
    have him2 : (i : Int) - 1 = (m : Int) := by omega
    have him3 : (m : Int) < mn := by have := HMN.out; omega
    have him4 : (0 : Int) <= m := by omega
    rw [hM2] at HNX
    have MK1 := LH (MK.out W4.drew i (S4.out.lo.trans ((Below.refl _ _).drew.mono S4.out.lo.size)) (by omega))
    obtain ⟨MB, hMB⟩ : ∃ x, bytes (mkB h.k i) = x := ⟨_, rfl⟩
    rw [hMB] at MK1
    have HMB := LH hMB
    have h0' := LH h0
    clear hm hM hM2 him hmc hMB
    go_upto_region 6 with fail
    refine wp_region_noPanic ?_
    have hib : (i : Int) <= 2000000 := by omega
    have SV : ∀ (V : World) (lr : Value) (lx : List Jp), AlS B w0 w (.slice la ll lc) h (.slice ta h.tx.length tc) (.slice (some ⟨b, off, none⟩) n c) (.slice (some ⟨mb, mo, none⟩) mn mc) V lr lx -> (V.cell? ⟨w.heap.size, 8, none⟩ = some (.slice (some ⟨mb, mo, none⟩) mn mc) /\ V.cell? ⟨mb, mo + m, none⟩ = some (.int .i64 M) /\ V.rangeAt w.heap.size 0 (vvl h (.slice ta h.tx.length tc) (.slice (some ⟨b, off, none⟩) n c) (.slice (some ⟨mb, mo, none⟩) mn mc))) := fun V lr lx x => ⟨(x.bx.cells).2.2.2.2.2.2.2.2, (x.lo.cell (p := ⟨mb, mo + m, none⟩) hmbk).trans c0, x.bx.range⟩
    have S4d := LH (S4.out.keep (Below.refl _ _).drew)
    have V4d := LH (V4.out.keep (Below.refl _ _).drew)
    refine wp_region_held_drew (S := fun V => V.cell? ⟨w.heap.size, 8, none⟩ = some (.slice (some ⟨mb, mo, none⟩) mn mc) /\ V.cell? ⟨mb, mo + m, none⟩ = some (.int .i64 M) /\ V.rangeAt w.heap.size 0 (vvl h (.slice ta h.tx.length tc) (.slice (some ⟨b, off, none⟩) n c) (.slice (some ⟨mb, mo, none⟩) mn mc))) (by kernel_rfl) (SV _ _ _ S4d.out) (fun hS => ?_)
    obtain ⟨W4d, hW4d⟩ : ∃ x, W4.drew = x := ⟨_, rfl⟩
    rw [hW4d] at S4d V4d MK1 hS ⊢
    clear hW4d c0
    have hwm : IntKind.i64.wrap (m : Int) = (m : Int) := by rw [IntKind.wrap_i64]; omega
    refine rtk 0 ?_
    refine rtk (v := .agg (vv h (.slice ta h.tx.length tc) (.slice (some ⟨b, off, none⟩) n c) (.slice (some ⟨mb, mo, none⟩) mn mc))) 1 (hy := yieldsIf_load_mid (by rfl) 27 _ rfl w.heap.size 0 rfl (vvl h (.slice ta h.tx.length tc) (.slice (some ⟨b, off, none⟩) n c) (.slice (some ⟨mb, mo, none⟩) mn mc)) _ (fun w hS => hS.2.2) Tryz.underlying27 rfl infoVal) ?_
    refine rtk 2 ?_
    refine rtk 4 ?_
    refine rtk 5 ?_
    refine rtk 6 ?_
    refine rtk 7 ?_
    refine rtk 8 ?_
    refine rtk 9 ?_
    refine wpAnyH_ready (rs := [3]) (by kernel_rfl) (by simp) ?_
    refine AllReadyH.cons rfl (fun K hK => ?_) AllReadyH.nil
    go_simp
    refine MK1.out.mono ?_
    rintro e W5 ⟨rfl, hb5⟩
    have S5a := LH (S4d.out.keep hb5)
    have V5a := LH (V4d.out.keep hb5)
    refine hK.out _ _ (SV _ _ _ S5a.out) (fun hS => ?_)
    clear hK K hb5
    refine rtk 10 ?_
    refine wpAnyH_ready (rs := [11]) (by kernel_rfl) (by simp) ?_
    refine AllReadyH.cons rfl (fun K hK => ?_) AllReadyH.nil
    go_simp
    have al6 := (Below.refl W5.heap.size W5).alloc (Nat.le_refl _) (.cells #[.string MB, .int .i64 M] 54)
    have S6a := LH (S5a.out.keep al6)
    have V6a := LH (V5a.out.keep al6)
    have U6 := LH (one_jp W5 MB (mkB h.k i) M HMB.out)
    refine hK.out _ _ (SV _ _ _ S6a.out) (fun hS => ?_)
    clear hK K
    obtain ⟨W6, hW6⟩ : ∃ x, W5.alloc (.cells #[.string MB, .int .i64 M] 54) = x := ⟨_, rfl⟩
    rw [hW6] at S6a V6a U6 hS ⊢
    clear hW6 al6
    have hlen6 : (l ++ [(opB h.k, FR)] ++ pcsT h.k h.ms kids i).length <= 1000000 := by
     have e1 := HMO.out i (by omega)
     have e2 := HPL.out
     have e3 := HLN.out
     simp only [List.length_append, List.length_cons, List.length_nil] at e1 ⊢
     omega
    refine wpAnyH_ready (rs := [12]) (by kernel_rfl) (by simp) ?_
    refine AllReadyH.cons rfl (fun K hK => ?_) AllReadyH.nil
    refine stepl_appendV rfl _ _ rfl Tryz.underlying45 infoPc rfl (by decide) B u0 _ ((l ++ [(opB h.k, FR)] ++ pcsT h.k h.ms kids i).map pcv) (((l ++ [(opB h.k, FR)] ++ pcsT h.k h.ms kids i) ++ [(mkB h.k i, M)]).map pcv) (pcv (mkB h.k i, M)) rfl S6a.out.ap.own rfl U6.out rfl (pcv_one [(mkB h.k i, M)] _ (by simp)) (by rw [List.length_map]; omega) (by decide) (Nat.le_trans hB S6a.out.ap.bl.size) (by simp) ?_
    intro l7 W7 ho7 hb7 hg7 hob7
    have J7 : JApp B W6 u0 W7 l7 ((l ++ [(opB h.k, FR)] ++ pcsT h.k h.ms kids i) ++ [(mkB h.k i, M)]) := ⟨ho7, hb7, fun j h1 h2 => hg7.block j h1 h2, by
     rcases hob7 with e | e
     ·exact .inl e
     ·exact .inr ⟨_, Nat.le_refl _, e⟩⟩
    have S7 := LH (S6a.out.app hB0 J7)
    have V7 : Hid (VB W7 IB h' tv' u mv') := LH (V6a.out.frame (J7.fr _ V6a.out.lt (fun e => by
     have := HLR.out _ e.symm
     have := HIB.out
     omega)))
    refine hK.out _ _ (SV _ _ _ S7.out) (fun hS => ?_)
    clear hK K ho7 hb7 hg7 hob7 J7 U6 S6a V6a S5a V5a S4d V4d
    refine rtk 13 ?_
    refine wpAnyH_done (by kernel_rfl) ?_ _
    refine NoPanic.normal ?_
    clear hS SV hwm
    as_aux_lemma =>
     go_wp2_with (first | (refine wpl_ldV rfl _ rfl IB 0 h' tv' u mv' rfl V7.out.range ?_) | fail)
     refine (HAV.out i h' kids' HAT.out _ tv' u mv' _ _ HDT.out HUT.out S7.out.lo (by have := S7.out.ap.bl.size; omega) S7.out.ap.own (by
      have e1 := HMO.out (i + 1) (by omega)
      have e2 := HPL.out
      have e3 := HLN.out
      rw [HNX.out] at e1
      simp only [List.length_append, List.length_cons, List.length_nil] at e1 ⊢
      rw [if_pos h0] at e1; simp only [List.length_cons, List.length_nil] at e1
      omega)).mono ?_
     rintro e w6 ⟨l6, rfl, J6⟩
     have S6 := LH (S7.out.app hB0 J6)
     clear J6
     go_wp2
     go_roundw
     case rel => exact ⟨i + 1, by go_num, by omega, by have := S6.out; rw [HNX.out]; simpa [List.append_assoc, h0] using this⟩
     case measure => simp [intOf]; omega
   ·obtain rfl : i = n := by omega
    have j1 : ¬ (i : Int) < i := by omega
    obtain ⟨-, -, -, -, -, -, -, g7, -⟩ := S3.out.bx.cells
    rw [HTO.out] at g7
    have hl9 : (l ++ [(opB h.k, FR)] ++ pcsT h.k h.ms kids i).length <= 1000000 := by
     have e1 := HMO.out i (by omega)
     have e2 := HPL.out
     have e3 := HLN.out
     simp only [List.length_append, List.length_cons, List.length_nil] at e1 ⊢
     omega
    obtain ⟨L9, hL9⟩ : ∃ x, l ++ [(opB h.k, FR)] ++ pcsT h.k h.ms kids i = x := ⟨_, rfl⟩
    rw [hL9] at S3 hl9
    have HL9 := LH hL9
    clear hlt hL9
    go_wp2_with (at_builtin; refine wpl_jp rfl _ _ rfl B u0 _ L9 (clB h.k, TO) rfl ?_ rfl ?_ (nnv_some _ _ _) hl9 ?_ ?_)
    ·exact OwnV.keep S3.out.ap.own ((Below.refl _ _).alloc (Nat.le_refl _) _)
    ·exact one_jp wr CB (clB h.k) TO HCB.out
    ·first | omega | (rw [World.size_alloc]; omega)
    ·intro l9 w9 J9
     have S9 := LH ((S3.out.keep ((Below.refl _ _).alloc (Nat.le_refl _) (.cells #[.string CB, .int .i64 TO] 54))).app hB0 J9)
     clear J9
     go_wp2
     go_ret
     refine ⟨_, rfl, ?_⟩
     have := S9.out.ap
     rw [<- HL9.out, HPT.out] at this
     rw [HPE.out, HFR.out, HTO.out]
     simpa [List.append_assoc] using this
theorem av_leaf (h : Vh) (kids : Vo) (hk : ¬ (h.k = 1 \/ h.k = 2)) : AV h kids := by
 intro w0 d B w tv v mv lv l hT0 ht0 hv0 hr hC hL hb0 hB0 hB ho hln
 have b0 := (Below.refl w.heap.size w).alloc (Nat.le_refl _) (.cells (vv h tv v mv) 27)
 obtain ⟨W1, hW1⟩ : ∃ W, w.alloc (.cells (vv h tv v mv) 27) = W := ⟨_, rfl⟩
 have hJ0 : JApp B w lv w lv l := ⟨ho, Below.refl _ _, fun _ _ _ => rfl, .inl rfl⟩
 have S1 : AlS B w0 w lv h tv v mv W1 lv l := by
  rw [hW1] at b0
  refine ⟨hJ0.post b0 hB, by rw [<- hW1]; exact VB.new w h tv v mv, fun e => ?_, hb0.trans (b0.mono hb0.size), hB, fun j hj => (own_in ho j hj).2⟩
  have := (own_in ho _ e).2; omega
 have HS1 := LH S1
 have HW1 := LH hW1
 have hU : h.k = 3 -> M.rightU h.tx = true := by
  intro k3
  unfold rightH headB at hr
  rw [if_neg hk, if_pos k3] at hr
  simp only [Bool.and_eq_true] at hr
  exact hr.2.2
 have SG := LH (fun W (hW : Below w0.heap.size w0 W) => jmsingle_any h kids tv v mv W (ht0.below hW) (hv0.below hW) (hT0.keep hW) hU (by omega) hL.1.1 hL.1.2)
 have HPE := LH (show pcsV h kids = [(sglB h, h.fr)] by unfold pcsV; rw [if_neg hk])
 obtain ⟨a, c, hvs⟩ := hv0.slice
 obtain ⟨ta, tc, hts⟩ := ht0.t.slice
 obtain ⟨ma, mc, hms⟩ := ht0.m.slice
 subst hvs hts hms
 obtain ⟨la, lc, hlv, -⟩ := OwnV.vs ho
 obtain ⟨ll, hll⟩ : ∃ n, (l.map pcv).length = n := ⟨_, rfl⟩
 rw [hll] at hlv
 subst hlv
 obtain ⟨n, hn⟩ : ∃ n, kids.len = n := ⟨_, rfl⟩
 obtain ⟨mn, hmn2⟩ : ∃ n, h.ms.length = n := ⟨_, rfl⟩
 rw [hn, hmn2] at HS1 HW1 SG ⊢
 obtain ⟨K, hK⟩ : ∃ x, h.k = x := ⟨_, rfl⟩
 obtain ⟨FR, hFR⟩ : ∃ x, h.fr = x := ⟨_, rfl⟩
 have EXP : Hid (vv h (.slice ta h.tx.length tc) (.slice a n c) (.slice ma mn mc) = #[.int .i64 K, .slice ta h.tx.length tc, .bool h.ng, .string (bytes h.dg), .string (bytes h.ex), .slice a n c, .int .i64 FR, .int .i64 h.tt, .slice ma mn mc]) := LH (by rw [<- hK, <- hFR]; rfl)
 rw [hK] at hk
 rw [hFR] at HPE
 have HFR := LH hFR
 have HW2 := LH HW1.out
 rw [EXP.out] at HW2 ⊢
 have hB1 := HS1.out.ap.bl.size
 obtain ⟨g0, -⟩ := HS1.out.bx.cells
 rw [hK] at g0
 have t1 : (K == 1) = false := by simp; omega
 have t2 : (K == 2) = false := by simp; omega
 have hll2 : l.length <= 1000000 := by omega
 clear hn hmn2 hT0 hr hC hL hb0 ho hJ0 S1 hW1 b0 hK hFR ht0 hv0 hll hk hln HW1 hU
 go_enter Tryz.func34, Tryz.ntmps34
 go_upto_region 1 with fail
 rw [HW2.out]
 go_upto_region 6 with fail
 have SV : ∀ (V : World) (lr : Value) (lx : List Jp), AlS B w0 w (.slice la ll lc) h (.slice ta h.tx.length tc) (.slice a n c) (.slice ma mn mc) V lr lx -> (V.cell? ⟨w.heap.size, 6, none⟩ = some (.int .i64 FR) /\ V.rangeAt w.heap.size 0 (vvl h (.slice ta h.tx.length tc) (.slice a n c) (.slice ma mn mc))) := fun V lr lx x => ⟨by rw [(x.bx.cells).2.2.2.2.2.2.1, HFR.out], x.bx.range⟩
 have S1d := LH (HS1.out.keep (Below.refl _ _).drew)
 refine wp_region_noPanic ?_
 refine wp_region_held_drew (S := fun V => V.cell? ⟨w.heap.size, 6, none⟩ = some (.int .i64 FR) /\ V.rangeAt w.heap.size 0 (vvl h (.slice ta h.tx.length tc) (.slice a n c) (.slice ma mn mc))) (by kernel_rfl) (SV _ _ _ S1d.out) (fun hS => ?_)
 obtain ⟨W1d, hW1d⟩ : ∃ x, W1.drew = x := ⟨_, rfl⟩
 rw [hW1d] at S1d hS ⊢
 clear hW1d g0
 refine rtk 0 ?_
 refine rtk (v := .agg (vv h (.slice ta h.tx.length tc) (.slice a n c) (.slice ma mn mc))) 1 (hy := yieldsIf_load_mid (by rfl) 27 _ rfl w.heap.size 0 rfl (vvl h (.slice ta h.tx.length tc) (.slice a n c) (.slice ma mn mc)) _ (fun w hS => hS.2) Tryz.underlying27 rfl infoVal) ?_
 refine rtk 3 ?_
 refine rtk 4 ?_
 refine wpAnyH_ready (rs := [2]) (by kernel_rfl) (by simp) ?_
 refine AllReadyH.cons rfl (fun K hK => ?_) AllReadyH.nil
 go_simp
 refine (SG.out W1d S1d.out.lo).mono ?_
 rintro e W5 ⟨rfl, hb5⟩
 have S5a := LH (S1d.out.keep hb5)
 refine hK.out _ _ (SV _ _ _ S5a.out) (fun hS => ?_)
 clear hK K hb5
 obtain ⟨SB, hSB⟩ : ∃ x, bytes (sglB h) = x := ⟨_, rfl⟩
 rw [hSB]
 refine rtk 5 ?_
 refine wpAnyH_ready (rs := [6]) (by kernel_rfl) (by simp) ?_
 refine AllReadyH.cons rfl (fun K hK => ?_) AllReadyH.nil
 go_simp
 have al6 := (Below.refl W5.heap.size W5).alloc (Nat.le_refl _) (.cells #[.string SB, .int .i64 FR] 54)
 have S6a := LH (S5a.out.keep al6)
 have U6 := LH (one_jp W5 SB (sglB h) FR hSB)
 refine hK.out _ _ (SV _ _ _ S6a.out) (fun hS => ?_)
 clear hK K
 obtain ⟨W6, hW6⟩ : ∃ x, W5.alloc (.cells #[.string SB, .int .i64 FR] 54) = x := ⟨_, rfl⟩
 rw [hW6] at S6a U6 hS ⊢
 clear hW6 al6
 refine wpAnyH_ready (rs := [7]) (by kernel_rfl) (by simp) ?_
 refine AllReadyH.cons rfl (fun K hK => ?_) AllReadyH.nil
 refine stepl_appendV rfl _ _ rfl Tryz.underlying45 infoPc rfl (by decide) B (.slice la ll lc) _ (l.map pcv) ((l ++ [(sglB h, FR)]).map pcv) (pcv (sglB h, FR)) rfl S6a.out.ap.own rfl U6.out rfl (pcv_one [(sglB h, FR)] _ (by simp)) (by rw [List.length_map]; omega) (by decide) (Nat.le_trans hB S6a.out.ap.bl.size) (by simp) ?_
 intro l7 W7 ho7 hb7 hg7 hob7
 have J7 : JApp B W6 (.slice la ll lc) W7 l7 (l ++ [(sglB h, FR)]) := ⟨ho7, hb7, fun j h1 h2 => hg7.block j h1 h2, by
  rcases hob7 with e | e
  ·exact .inl e
  ·exact .inr ⟨_, Nat.le_refl _, e⟩⟩
 have S7 := LH (S6a.out.app hB0 J7)
 refine hK.out _ _ (SV _ _ _ S7.out) (fun hS => ?_)
 clear hK K ho7 hb7 hg7 hob7 J7 U6 S6a S5a S1d
 refine rtk 8 ?_
 refine wpAnyH_done (by kernel_rfl) ?_ _
 refine NoPanic.normal ?_
 clear hS SV
 go_wp2
 go_ret
 exact ⟨_, rfl, by rw [HPE.out]; exact S7.out.ap⟩
theorem av_list (h : Vh) (kids : Vo) (hk : h.k = 1 \/ h.k = 2) (AL0 : AL h kids) : AV h kids := by
 intro w0 d B w tv v mv lv l hT0 ht0 hv0 hr hC hL hb0 hB0 hB ho hln
 have b0 := (Below.refl w.heap.size w).alloc (Nat.le_refl _) (.cells (vv h tv v mv) 27)
 obtain ⟨W1, hW1⟩ : ∃ W, w.alloc (.cells (vv h tv v mv) 27) = W := ⟨_, rfl⟩
 have x1 : VB W1 w.heap.size h tv v mv := by rw [<- hW1]; exact VB.new w h tv v mv
 rw [hW1] at b0
 have A1 := LH (AL0 w0 d B W1 tv v mv lv l hT0 ht0 hv0 hk hr hC hL (hb0.trans (b0.mono hb0.size)) hB0 (Nat.le_trans hB b0.size) (OwnV.keep ho b0) hln)
 have X1 := LH x1
 have HW1 := LH hW1
 have B0 := LH b0
 obtain ⟨a, c, hvs⟩ := hv0.slice
 obtain ⟨ta, tc, hts⟩ := ht0.t.slice
 obtain ⟨ma, mc, hms⟩ := ht0.m.slice
 subst hvs hts hms
 obtain ⟨la, lc, hlv, -⟩ := OwnV.vs ho
 obtain ⟨ll, hll⟩ : ∃ n, (l.map pcv).length = n := ⟨_, rfl⟩
 rw [hll] at hlv
 subst hlv
 obtain ⟨n, hn⟩ : ∃ n, kids.len = n := ⟨_, rfl⟩
 obtain ⟨mn, hmn2⟩ : ∃ n, h.ms.length = n := ⟨_, rfl⟩
 rw [hn, hmn2] at X1 HW1 A1 ⊢
 obtain ⟨K, hK⟩ : ∃ x, h.k = x := ⟨_, rfl⟩
 have EXP : Hid (vv h (.slice ta h.tx.length tc) (.slice a n c) (.slice ma mn mc) = #[.int .i64 K, .slice ta h.tx.length tc, .bool h.ng, .string (bytes h.dg), .string (bytes h.ex), .slice a n c, .int .i64 h.fr, .int .i64 h.tt, .slice ma mn mc]) := LH (by rw [<- hK]; rfl)
 have HW2 := LH HW1.out
 rw [EXP.out] at HW2 ⊢
 obtain ⟨g0, -⟩ := X1.out.cells
 rw [hK] at g0 hk A1
 clear hn hmn2 hT0 hr hC hL hb0 ho x1 hW1 b0 hK ht0 hv0 hll hln HW1 AL0
 rcases hk with rfl | rfl
 all_goals (
  go_enter Tryz.func34, Tryz.ntmps34
  go_upto_region 1 with fail
  rw [HW2.out]
  go_wp2_with (first | (refine wpl_ldV rfl _ rfl w.heap.size 0 h _ _ _ rfl X1.out.range ?_) | fail)
  refine A1.out.mono ?_
  rintro e w2 ⟨l2, rfl, J2⟩
  have J3 := LH (J2.pre B0.out hB)
  clear J2
  go_wp2
  go_ret
  exact ⟨_, rfl, J3.out⟩)
theorem av_one (h : Vh) (kids : Vo) (AV0 : ∀ j h' kids', kids.at? j = some (h', kids') -> AV h' kids') : AV h kids := by
 by_cases hk : h.k = 1 \/ h.k = 2
 ·exact av_list h kids hk (al_one h kids AV0)
 ·exact av_leaf h kids hk
theorem av_listV (L : Vo) : ∀ j h kids, L.at? j = some (h, kids) -> AV h kids := by
 induction L with
 | nil => intro j h kids e; simp [Vo.at?] at e
 | cons h0 kids0 rest ih1 ih2 =>
  intro j h kids e
  cases j with
  | zero =>
   simp only [Vo.at?, Option.some.injEq, Prod.mk.injEq] at e
   obtain ⟨rfl, rfl⟩ := e
   exact av_one h0 kids0 ih1
  | succ j => exact ih2 j h kids e
theorem av_any (h : Vh) (kids : Vo) : AV h kids := av_one h kids (av_listV kids)
end Go.Proofs.YtbfnlgmhfhaglaaGreatDoor
