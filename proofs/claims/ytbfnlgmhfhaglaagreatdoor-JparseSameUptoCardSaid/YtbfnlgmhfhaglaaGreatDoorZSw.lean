/- The walk of JparseSame. -/
import Derived.Test.YtbfnlgmhfhaglaaGreatDoorZSv
import Derived.Test.YtbfnlgmhfhaglaaGreatDoorZAl7
import Derived.Test.YtbfnlgmhfhaglaaGreatDoorBSame
import Derived.Test.YtbfnlgmhfhaglaaGreatDoorZItA
import Derived.Lib.SlFresh
import Derived.Maps.AppendAt
import Derived.Laws.OwnMore
namespace Go.Proofs.YtbfnlgmhfhaglaaGreatDoor
open Go.RowKit
set_option linter.unusedVariables false
set_option linter.unusedSimpArgs false

/-- append of a slice of structs onto structs of the call's own, at an operation. -/
theorem wp_appAt {w : World} {o : Oper} {a : Act} {K : Act → World → Prop} {Q : Exit → Act → World → Prop} {E T sz bytes : Nat} {z : Value} (s x : Operand)
    (ho : o.op = .call { callee := .builtin .append, args := #[s, x], argTypes := #[T, T] }) (hT : Tryz.prog.underlying T = some (.slice E)) (hinfo : (Tryz.prog.info? E).map (fun i => (i.zero, i.size, i.bytes)) = some (some z, sz, bytes)) (hz : z.cells.size = sz) (h0 : 0 < sz)
    (B : Nat) (v u : Value) (l k t : List (List Value)) (hs : a.eval s = v) (hown : OwnV E sz B w v l) (hx : a.eval x = u) (hu : Vs sz w u k) (hnn : NNv u) (hk : ∀ y ∈ k, y.length = sz) (hk1 : ∀ y ∈ k, ∀ c ∈ y, c.oneCell' = true)
    (hlen : (l.length + k.length) * bytes ≤ 140737488355328) (hb0 : 0 < bytes) (hB : B ≤ w.heap.size) (ht : l ++ k = t)
    (h : ∀ v' w', OwnV E sz B w' v' t → Below B w w' → K (a.put o.dst v') w') : o.wp Tryz.prog a w K Q := by
  subst ht
  obtain ⟨i0, hi, hz0, hz1, hz2⟩ := info_parts hinfo
  obtain ⟨ad, cap, rfl, h1, h2, h3⟩ := hu
  obtain ⟨hown, hsz, hone⟩ := hown
  have hlt := World.ownsRow.lt hown
  have hmax : l.length + k.length ≤ 140737488355328 := Nat.le_trans (Nat.le_mul_of_pos_right _ hb0) hlen
  have hall : (∀ y ∈ l ++ k, y.length = sz) ∧ ∀ y ∈ l ++ k, ∀ c ∈ y, c.oneCell' = true := by
    refine ⟨fun y hy => ?_, fun y hy => ?_⟩
    · rcases List.mem_append.1 hy with hy | hy
      · exact hsz y hy
      · exact hk y hy
    · rcases List.mem_append.1 hy with hy | hy
      · exact hone y hy
      · exact hk1 y hy
  cases ad with
  | none =>
    have hk0 : k = [] := by
      cases k with
      | nil => rfl
      | cons c k => obtain ⟨b, off, h, _⟩ := h3 (by simp); exact absurd h (by simp)
    subst hk0
    obtain rfl := hnn _ _ rfl
    exact Go.Lib.wp_append_run_sl w s x T ho v _ hs hx (run_append_owned_none (P := Tryz.prog) (w := w) B T o.type E i0 sz hT hi v l.length l.flatten hown) (h v w (by rw [List.append_nil]; exact ⟨hown, hsz, hone⟩) (Below.refl _ _))
  | some ad =>
    have hcs : ∀ j c, k.flatten[j]? = some c → w.cell? (ad.add j) = some c := by
      intro j c hj
      have hjl := (List.getElem?_eq_some_iff.1 hj).1
      rw [flat_len k hk] at hjl
      have hk0 : 0 < k.length := by
        rcases Nat.eq_zero_or_pos k.length with e | e
        · rw [e, Nat.zero_mul] at hjl; omega
        · exact e
      obtain ⟨b, off, hab, _, hc⟩ := h3 hk0
      obtain rfl : ad = ⟨b, off, none⟩ := by simpa using hab
      have hq : j / sz < k.length := by rw [Nat.div_lt_iff_lt_mul h0]; exact hjl
      have hm : j % sz < sz := Nat.mod_lt _ h0
      have he : j / sz * sz + j % sz = j := by rw [Nat.mul_comm]; exact Nat.div_add_mod j sz
      have hf := flat_get k hk (j / sz) hq (j % sz) hm
      rw [he, hj] at hf
      rw [Go.WideShapes.add_plain]
      have := hc (j / sz) hq (j % sz) c hf.symm
      rwa [he] at this
    obtain ⟨v', w', hr, how, hg, _, hwh⟩ := run_append_own_at (P := Tryz.prog) (w := w) B T o.type E i0 z sz bytes hT hi hz0 hz1 hz2 hz h0 v l.length l.flatten hown ad k.length cap k.flatten (flat_len k hk) hcs (fun u hu => by
      obtain ⟨y, hy, hu⟩ := List.mem_flatten.1 hu
      exact hk1 y hy u hu) (by unfold maxLen; omega) hlen hB
    refine Go.Lib.wp_append_run_sl w s x T ho v _ hs hx hr (h v' w' ⟨?_, hall.1, hall.2⟩ ((Below.refl B w).grown hg hB (fun j hj => (hlt j hj).1)))
    rw [← List.flatten_append, ← List.length_append] at how
    exact how
/-- The nine cells of each of some values. -/
def CellsS (w0 : World) (L : Vo) (cs : List (List Value)) : Prop := ∀ j (hj : j < cs.length), ∃ h kids tv v mv, L.at? j = some (h, kids) ∧ HdS w0 h tv mv ∧ VoS w0 v kids ∧ cs[j] = vvl h tv v mv
theorem cells_at {w : World} (L : Vo) : ∀ b off, VoAt (In w) w L b off → ∃ cs : List (List Value), cs.length = L.len ∧ CellsS w L cs ∧ (∀ y ∈ cs, y.length = 9 ∧ ∀ c ∈ y, c.oneCell' = true) ∧ ∀ j (hj : j < cs.length) i u, cs[j][i]? = some u → w.cell? ⟨b, off + (j * 9 + i), none⟩ = some u := by
  induction L with
  | nil => intro b off _; exact ⟨[], rfl, fun j hj => by simp at hj, by simp, fun j hj => by simp at hj⟩
  | cons h kids r _ ih =>
    rintro b off ⟨⟨tv, mv, a, cap, hd, hr, h1, h2, h3, h4⟩, h5⟩
    obtain ⟨cs, c1, c2, c3, c4⟩ := ih b (off + 9) h5
    have hv : VoS w (.slice a kids.len cap) kids := ⟨a, cap, rfl, h1, h2, h3, h4⟩
    refine ⟨vvl h tv (.slice a kids.len cap) mv :: cs, by simp [Vo.len, c1], fun j hj => ?_, fun y hy => ?_, fun j hj i u hu => ?_⟩
    · cases j with
      | zero => exact ⟨h, kids, tv, _, mv, rfl, hd, hv, rfl⟩
      | succ j =>
        obtain ⟨h', k', tv', v', mv', e1, e2, e3, e4⟩ := c2 j (by simpa using hj)
        exact ⟨h', k', tv', v', mv', e1, e2, e3, by simpa using e4⟩
    · rcases List.mem_cons.1 hy with rfl | hy
      · exact ⟨rfl, vvl_nine h hd.t.one rfl hd.m.one⟩
      · exact c3 y hy
    · cases j with
      | zero => have := hr i u (by simpa using hu); simpa using this
      | succ j =>
        have := c4 j (by simpa using hj) i u (by simpa using hu)
        rw [show off + ((j + 1) * 9 + i) = off + 9 + (j * 9 + i) by omega]
        exact this
theorem cells_ex {w : World} {v : Value} {L : Vo} (h : VoS w v L) : ∃ cs : List (List Value), cs.length = L.len ∧ CellsS w L cs ∧ (∀ y ∈ cs, y.length = 9 ∧ ∀ c ∈ y, c.oneCell' = true) ∧ Vs 9 w v cs ∧ NNv v := by
  obtain ⟨a, cap, rfl, h1, h2, h3, h4⟩ := h
  have hnn : NNv (.slice a L.len cap) := by
    intro n c e
    simp only [Value.slice.injEq] at e
    obtain ⟨e1, -, e2⟩ := e
    rw [← e2]; exact h3 e1
  rcases Nat.eq_zero_or_pos L.len with h0 | h0
  · have hL : L = .nil := by cases L with | nil => rfl | cons _ _ _ => simp [Vo.len] at h0
    subst hL
    exact ⟨[], rfl, fun j hj => by simp at hj, by simp, ⟨a, cap, rfl, h1, h2, fun h => by simp at h⟩, hnn⟩
  · obtain ⟨b, off, rfl, hb, hat⟩ := h4 h0
    obtain ⟨cs, c1, c2, c3, c4⟩ := cells_at L b off hat
    exact ⟨cs, c1, c2, c3, ⟨_, cap, by rw [c1], by omega, h2, fun _ => ⟨b, off, rfl, hb, c4⟩⟩, hnn⟩
theorem at_snoc (h : Vh) (k : Vo) (L : Vo) : ∀ j, (L.snoc h k).at? j = if j < L.len then L.at? j else if j = L.len then some (h, k) else none := by
  induction L with
  | nil => intro j; cases j <;> simp [Vo.snoc, Vo.at?, Vo.len]
  | cons a b r _ ih =>
    intro j
    cases j with
    | zero => simp [Vo.snoc, Vo.at?, Vo.len]
    | succ j => simp [Vo.snoc, Vo.at?, Vo.len, ih j]
theorem cells_snoc {w : World} {L : Vo} {cs : List (List Value)} {h : Vh} {k : Vo} {tv v mv : Value} (hc : CellsS w L cs) (hn : cs.length = L.len) (a : HdS w h tv mv) (b : VoS w v k) : CellsS w (L.snoc h k) (cs ++ [vvl h tv v mv]) := by
  intro j hj
  rw [at_snoc]
  rw [List.length_append, List.length_singleton] at hj
  by_cases h1 : j < L.len
  · obtain ⟨h', k', tv', v', mv', e1, e2, e3, e4⟩ := hc j (by omega)
    exact ⟨h', k', tv', v', mv', by rw [if_pos h1]; exact e1, e2, e3, by rw [List.getElem_append_left (by omega)]; exact e4⟩
  · have hj' : j = L.len := by omega
    subst hj'
    exact ⟨h, k, tv, v, mv, by rw [if_neg h1, if_pos rfl], a, b, by rw [List.getElem_append_right (by omega)]; simp [hn]⟩
theorem items_S {B : Nat} {w0 W : World} {iv : Value} {L : Vo} {cs : List (List Value)} (h : OwnV 27 9 B W iv cs) (hc : CellsS w0 L cs) (hn : cs.length = L.len) (hlo : Below w0.heap.size w0 W) : VoS W iv L := by
  have hnn := OwnV.nn h
  obtain ⟨a, cap, rfl, h1, h2, h3⟩ := OwnV.vs h
  refine ⟨a, cap, by rw [← hn], by omega, h2, fun e => by subst e; exact hnn _ _ rfl, fun h0 => ?_⟩
  obtain ⟨b, off, rfl, hb, hcc⟩ := h3 (by omega)
  refine ⟨b, off, rfl, hb, ?_⟩
  have key : ∀ (R : Vo) (i : Nat), (∀ j, R.at? j = L.at? (i + j)) → i + R.len = cs.length → VoAt (In W) W R b (off + i * 9) := by
    intro R
    induction R with
    | nil => intro i _ _; trivial
    | cons h' kids rest _ ih =>
      intro i hat hlen
      simp only [Vo.len] at hlen
      obtain ⟨h2', kids2, tv, v, mv, e1, e2, e3, e4⟩ := hc i (by omega)
      have e0 := hat 0
      rw [Nat.add_zero, e1] at e0
      simp only [Vo.at?, Option.some.injEq, Prod.mk.injEq] at e0
      obtain ⟨rfl, rfl⟩ := e0
      have e3' := e3.below hlo
      obtain ⟨a', cap', rfl, q1, q2, q3, q4⟩ := e3'
      refine ⟨⟨tv, mv, a', cap', e2.below hlo, fun u x hx => ?_, q1, q2, q3, q4⟩, ?_⟩
      · have := hcc i (by omega) u x (by rw [e4]; exact hx)
        rw [← Nat.add_assoc] at this
        exact this
      · have := ih (i + 1) (fun j => by have := hat (j + 1); rw [show i + 1 + j = i + (j + 1) by omega]; exact this) (by omega)
        rw [show off + (i + 1) * 9 = off + i * 9 + 9 by omega] at this
        exact this
  have := key L 0 (fun j => by rw [Nat.zero_add]) (by omega)
  rw [Nat.zero_mul, Nat.add_zero] at this
  exact this
theorem ownsRow_less {w : World} {base base' : Nat} {e : TypeId} {size : Nat} {v : Value} {n : Nat} {xs : List Value} (h : w.ownsRow base e size v n xs) (hb : base' ≤ base) : w.ownsRow base' e size v n xs := by
  obtain ⟨h1, h2⟩ := h
  refine ⟨h1, ?_⟩
  rcases h2 with h2 | ⟨g, cap, cur, e1, e2, r⟩
  · exact Or.inl h2
  · exact Or.inr ⟨g, cap, cur, e1, Nat.le_trans hb e2, r⟩
theorem voC_snocS (L : Vo) (h : Vh) (k : Vo) : VoC (L.snoc h k) = VoC L + (1 + h.tx.length + h.ms.length + VoC k) := by
  induction L with
  | nil => simp [Vo.snoc, VoC]
  | cons a b r _ ih => simp only [Vo.snoc, VoC, ih]; omega
theorem box_new (W : World) (h : Vh) (tv v mv : Value) : VB ((W.alloc (.cells zv 27)).setRow W.heap.size (vv h tv v mv)) W.heap.size h tv v mv ∧ Below W.heap.size W ((W.alloc (.cells zv 27)).setRow W.heap.size (vv h tv v mv)) ∧ ((W.alloc (.cells zv 27)).setRow W.heap.size (vv h tv v mv)).heap.size = W.heap.size + 1 :=
  ⟨BK.set (BK.new 27 W zv) _, below_setRowK ((Below.refl _ _).alloc (Nat.le_refl _) _) (Nat.le_refl _) _, by simp [World.setRow]⟩
set_option maxRecDepth 100000 in
set_option maxHeartbeats 16000000 in
theorem jpsame_walk (ha : Vh) (ka : Vo) (ta va ma : Value) (hb : Vh) (kb : Vo) (tb vb mb : Value) (x2 : Int) (w : World) (a1 : HdS w ha ta ma) (a2 : VoS w va ka) (b1 : HdS w hb tb mb) (b2 : VoS w vb kb) {P2 : Prop} (m2 : P2)
    (u0 : 1 + ha.tx.length + ha.ms.length + VoC ka ≤ 1048576) (u1 : 1 + hb.tx.length + hb.ms.length + VoC kb ≤ 1048576) (hT : TabX w) :
    Calls Tryz.prog 3 #[.agg (vv ha ta va ma), .agg (vv hb tb vb mb), .int .i64 x2] w fun e w' => e = .returned (.bool true) ∧ Below w.heap.size w w' := by
  have AL := Lib.hid (fun (W : World) (hW : Below w.heap.size w W) => alive7_any W (hT.keep hW))
  have A1 := Lib.hid (fun (W : World) (hW : Below w.heap.size w W) => a1.below hW)
  have A2 := Lib.hid (fun (W : World) (hW : Below w.heap.size w W) => a2.below hW)
  have B1 := Lib.hid (fun (W : World) (hW : Below w.heap.size w W) => b1.below hW)
  have B2 := Lib.hid (fun (W : World) (hW : Below w.heap.size w W) => b2.below hW)
  have FA := Lib.hid (fun (W : World) (hW : Below w.heap.size w W) => fewv_any ha ka ta va ma W (by omega) (a1.below hW) (a2.below hW))
  have FB := Lib.hid (fun (W : World) (hW : Below w.heap.size w W) => fewv_any hb kb tb vb mb W (by omega) (b1.below hW) (b2.below hW))
  have t1 := a1.t.one
  have t2 := a2.one
  have t3 := a1.m.one
  have s1 := b1.t.one
  have s2' := b2.one
  have s3 := b1.m.one
  have tsl := a1.t.slice
  have c1 := (Below.refl w.heap.size w).alloc (Nat.le_refl _) (.cells (vv ha ta va ma) 27)
  have x1 := VB.new w ha ta va ma
  obtain ⟨W1, hW1⟩ : ∃ x, w.alloc (.cells (vv ha ta va ma) 27) = x := ⟨_, rfl⟩
  have z1 : W1.heap.size = w.heap.size + 1 := by rw [← hW1]; simp
  rw [hW1] at c1 x1
  have c2 := (Below.refl W1.heap.size W1).alloc (Nat.le_refl _) (.cells (vv hb tb vb mb) 27)
  have x2' := VB.new W1 hb tb vb mb
  obtain ⟨W2, hW2⟩ : ∃ x, W1.alloc (.cells (vv hb tb vb mb) 27) = x := ⟨_, rfl⟩
  rw [hW2] at c2 x2'
  have x1 := x1.keep c2
  have C2 := Lib.hid (c1.trans (c2.mono c1.size))
  obtain ⟨p4, hp4⟩ : ∃ x, w.heap.size + 1 = x := ⟨_, rfl⟩
  rw [z1, hp4] at x2'
  have VA := Lib.hid x1
  have VC := Lib.hid x2'
  have HW1 := Lib.hid (show w.alloc (.cells #[.int .i64 ha.k, ta, .bool ha.ng, .string (bytes ha.dg), .string (bytes ha.ex), va, .int .i64 ha.fr, .int .i64 ha.tt, ma] 27) = W1 from hW1)
  have HW2 := Lib.hid (show W1.alloc (.cells #[.int .i64 hb.k, tb, .bool hb.ng, .string (bytes hb.dg), .string (bytes hb.ex), vb, .int .i64 hb.fr, .int .i64 hb.tt, mb] 27) = W2 from hW2)
  have EA := Lib.hid (show vv ha ta va ma = #[.int .i64 ha.k, ta, .bool ha.ng, .string (bytes ha.dg), .string (bytes ha.ex), va, .int .i64 ha.fr, .int .i64 ha.tt, ma] from rfl)
  have EB := Lib.hid (show vv hb tb vb mb = #[.int .i64 hb.k, tb, .bool hb.ng, .string (bytes hb.dg), .string (bytes hb.ex), vb, .int .i64 hb.fr, .int .i64 hb.tt, mb] from rfl)
  rw [EA.out, EB.out]
  clear hW1 hW2 c1 c2 x1 x2' a1 a2 b1 b2 hT
  go_enter Tryz.func3, Tryz.ntmps3
  go_upto_region 1 with fail
  rw [HW1.out, HW2.out]
  (try rw [z1])
  (try rw [hp4])
  clear HW1 HW2
  go_wp2_with fail
  refine (AL.out W2 C2.out).mono ?_
  rintro e w3 ⟨rfl, hb3⟩
  have C3 := Lib.hid (C2.out.trans (hb3.mono C2.out.size))
  have VA3 := Lib.hid (VA.out.keep hb3)
  have VC3 := Lib.hid (VC.out.keep hb3)
  have F1 := Lib.hid (FA.out w3 C3.out)
  clear hb3 VA VC AL
  cases q1 : decide (sizeH ha ka 0 ≤ 300) with
  | false =>
    rw [q1] at F1
    go_wp2_with (refine wpl_ldVg rfl _ rfl w.heap.size 0 ha ta va ma rfl (VB.range VA3.out) ?_)
    refine F1.out.mono ?_
    rintro e w4 ⟨rfl, hb4⟩
    go_wp2
    go_ret
    exact ⟨rfl, C3.out.trans (hb4.mono C3.out.size)⟩
  | true =>
  rw [q1] at F1
  go_wp2_with (refine wpl_ldVg rfl _ rfl w.heap.size 0 ha ta va ma rfl (VB.range VA3.out) ?_)
  refine F1.out.mono ?_
  rintro e w4 ⟨rfl, hb4⟩
  have C4 := Lib.hid (C3.out.trans (hb4.mono C3.out.size))
  have VA4 := Lib.hid (VA3.out.keep hb4)
  have VC4 := Lib.hid (VC3.out.keep hb4)
  have F2 := Lib.hid (FB.out w4 C4.out)
  clear hb4 VA3 VC3 F1 FA FB
  cases q2 : decide (sizeH hb kb 0 ≤ 300) with
  | false =>
    rw [q2] at F2
    go_wp2_with (refine wpl_ldVg rfl _ rfl p4 0 hb tb vb mb rfl (VB.range VC4.out) ?_)
    refine F2.out.mono ?_
    rintro e w5 ⟨rfl, hb5⟩
    go_wp2
    go_ret
    exact ⟨rfl, C4.out.trans (hb5.mono C4.out.size)⟩
  | true =>
  rw [q2] at F2
  go_wp2_with (refine wpl_ldVg rfl _ rfl p4 0 hb tb vb mb rfl (VB.range VC4.out) ?_)
  refine F2.out.mono ?_
  rintro e w5 ⟨rfl, hb5⟩
  have C5 := Lib.hid (C4.out.trans (hb5.mono C4.out.size))
  have VA5 := VA4.out.keep hb5
  have VC5 := VC4.out.keep hb5
  clear hb5 VA4 VC4 F2
  have bn := box_new w5 ha ta va ma
  have k0 := BK.new 27 w5 zv
  obtain ⟨W6, hW⟩ : ∃ x, (w5.alloc (.cells zv 27)).setRow w5.heap.size (vv ha ta va ma) = x := ⟨_, rfl⟩
  rw [hW] at bn
  have HW := Lib.hid (show (w5.alloc (.cells #[.int .i64 0, .slice none 0 0, .bool false, .string ⟨#[]⟩, .string ⟨#[]⟩, .slice none 0 0, .int .i64 0, .int .i64 0, .slice none 0 0] 27)).setRow w5.heap.size (vv ha ta va ma) = W6 from hW)
  clear hW
  obtain ⟨p8, hp8⟩ : ∃ x, w5.heap.size = x := ⟨_, rfl⟩
  have V8 := bn.1
  have D8 := bn.2.1
  rw [hp8] at V8 D8
  have C6 := C5.out.trans (bn.2.1.mono C5.out.size)
  have VA6 := VA5.keep bn.2.1
  have VC6 := VC5.keep bn.2.1
  have HP8 := Lib.hid hp8
  clear hp8
  go_upto_region 5 with (first | (refine wpl_ldV rfl _ rfl w.heap.size 0 ha ta va ma rfl (VB.range VA5) ?_) | (refine wpl_stV rfl _ _ rfl w5.heap.size zv ha ta va ma rfl rfl k0 rfl t1 t2 t3 ?_))
  rw [HW.out]
  (try rw [HP8.out])
  have lA : w.heap.size < p8 := by rw [← HP8.out]; exact VA5.lt
  have lC : p4 < p8 := by rw [← HP8.out]; exact VC5.lt
  clear HW k0 bn VA5 VC5
  obtain ⟨KK, hKK⟩ : ∃ x, IntKind.i64.wrap (ha.k + 1) = x := ⟨_, rfl⟩
  have kne : KK ≠ ha.k := by rw [← hKK, IntKind.wrap_i64]; omega
  have cA0 : W6.cell? ⟨w.heap.size, 0, none⟩ = some (.int .i64 ha.k) := VA6.cells.1
  have cC0 : W6.cell? ⟨p8, 0, none⟩ = some (.int .i64 ha.k) := V8.cells.1
  have zC0 : W6.frozen? ⟨p8, 0, none⟩ = false := frozen_of_row _ _ _ _ _ V8
  go_upto_region 6 with fail
  have V87 : VB (W6.setCell ⟨p8, 0, none⟩ (.int .i64 KK)) p8 { ha with k := KK } ta va ma := BK.setCell V8 0 (.int .i64 KK)
  have VA7 : VB (W6.setCell ⟨p8, 0, none⟩ (.int .i64 KK)) w.heap.size ha ta va ma := BK.other VA6 (by omega) 0 (.int .i64 KK)
  have VC7 : VB (W6.setCell ⟨p8, 0, none⟩ (.int .i64 KK)) p4 hb tb vb mb := BK.other VC6 (by omega) 0 (.int .i64 KK)
  have C7 := C6.setCell (p := ⟨p8, 0, none⟩) (by show w.heap.size ≤ p8; omega) (.int .i64 KK)
  obtain ⟨W7, hW7⟩ : ∃ x, W6.setCell ⟨p8, 0, none⟩ (.int .i64 KK) = x := ⟨_, rfl⟩
  rw [hW7] at V87 VA7 VC7 C7 ⊢
  clear hW7 cA0 cC0 zC0 V8 VA6 VC6 C6 D8 hKK
  have bn := box_new W7 ha ta va ma
  have k0 := BK.new 27 W7 zv
  obtain ⟨W8, hW⟩ : ∃ x, (W7.alloc (.cells zv 27)).setRow W7.heap.size (vv ha ta va ma) = x := ⟨_, rfl⟩
  rw [hW] at bn
  have HW := Lib.hid (show (W7.alloc (.cells #[.int .i64 0, .slice none 0 0, .bool false, .string ⟨#[]⟩, .string ⟨#[]⟩, .slice none 0 0, .int .i64 0, .int .i64 0, .slice none 0 0] 27)).setRow W7.heap.size (vv ha ta va ma) = W8 from hW)
  clear hW
  obtain ⟨p9, hp9⟩ : ∃ x, W7.heap.size = x := ⟨_, rfl⟩
  have V9 := bn.1
  have D9 := bn.2.1
  rw [hp9] at V9 D9
  have C8 := C7.trans (bn.2.1.mono C7.size)
  have VA8 := VA7.keep bn.2.1
  have VC8 := VC7.keep bn.2.1
  have V88 := V87.keep bn.2.1
  have HP9 := Lib.hid hp9
  clear hp9
  go_upto_region 7 with (first | (refine wpl_ldV rfl _ rfl w.heap.size 0 ha ta va ma rfl (VB.range VA7) ?_) | (refine wpl_stV rfl _ _ rfl W7.heap.size zv ha ta va ma rfl rfl k0 rfl t1 t2 t3 ?_))
  rw [HW.out]
  (try rw [HP9.out])
  have l89 : p8 < p9 := by rw [← HP9.out]; exact V87.lt
  clear HW k0 bn VA7 VC7 V87 D9
  obtain ⟨tpa, tpc, rfl⟩ := tsl
  have cA1 : W8.cell? ⟨w.heap.size, 1, none⟩ = some (.slice tpa ha.tx.length tpc) := VA8.cells.2.1
  have isA := (A1.out W8 C8).t.is (fun _ h => h)
  have nnA := (A1.out W8 C8).t.nn
  have fewA := fewH (of_decide_eq_true q1)
  have fewB := fewH (of_decide_eq_true q2)
  simp only [VoC] at fewA fewB
  have txl : ha.tx.length ≤ 300 := by omega
  go_wp2_with (at_builtin; refine wpl_appendI rfl _ _ rfl W8.heap.size (.slice none 0 0) (.slice tpa ha.tx.length tpc) [] ha.tx ha.tx rfl (World.ownsRow_nil _ _ _ _) rfl isA nnA (by simp; omega) (Nat.le_refl _) rfl ?_)
  intro v9 w9 ho9 d9
  have d9z := d9.size
  have ho9' := ownsRow_keep ho9 ((Below.refl _ _).alloc (Nat.le_refl _) (.cells #[.int .i64 x2] 3))
  have d9' := d9.alloc d9z (.cells #[.int .i64 x2] 3)
  have d9z' := d9'.size
  have io := is_one w9 x2
  clear ho9 d9 cA1 isA nnA
  go_wp2_with (at_builtin; refine wpl_appendI rfl _ _ rfl W8.heap.size v9 (.slice (some ⟨w9.heap.size, 0, none⟩) 1 1) ha.tx [x2] (ha.tx ++ [x2]) rfl ho9' rfl io (fun n c e => by simp at e) (by simp; omega) d9z' rfl ?_)
  intro v10 w10 ho10 d10
  have d810 := d9'.trans d10
  have isP10 := ownI_isP ho10
  obtain ⟨a10, cap10, e10, -⟩ := OwnI.is ho10
  subst e10
  have V910 := V9.keep d810
  have cD1 : w10.cell? ⟨p9, 1, none⟩ = some (.slice tpa ha.tx.length tpc) := V910.cells.2.1
  have zD1 : w10.frozen? ⟨p9, 1, none⟩ = false := frozen_of_row _ _ _ _ _ V910
  have l98 : p9 < W8.heap.size := V9.lt
  go_upto_region 8 with fail
  have V9B : VB (w10.setCell ⟨p9, 1, none⟩ (.slice a10 (ha.tx ++ [x2]).length cap10)) p9 { ha with tx := ha.tx ++ [x2] } (.slice a10 (ha.tx ++ [x2]).length cap10) va ma := BK.setCell V910 1 (.slice a10 (ha.tx ++ [x2]).length cap10)
  have VAB : VB (w10.setCell ⟨p9, 1, none⟩ (.slice a10 (ha.tx ++ [x2]).length cap10)) w.heap.size ha (.slice tpa ha.tx.length tpc) va ma := BK.other (VA8.keep d810) (by omega) 1 _
  have VCB : VB (w10.setCell ⟨p9, 1, none⟩ (.slice a10 (ha.tx ++ [x2]).length cap10)) p4 hb tb vb mb := BK.other (VC8.keep d810) (by omega) 1 _
  have V8B : VB (w10.setCell ⟨p9, 1, none⟩ (.slice a10 (ha.tx ++ [x2]).length cap10)) p8 { ha with k := KK } (.slice tpa ha.tx.length tpc) va ma := BK.other (V88.keep d810) (by omega) 1 _
  have CB := (C8.trans (d810.mono C8.size)).setCell (p := ⟨p9, 1, none⟩) (by show w.heap.size ≤ p9; omega) (.slice a10 (ha.tx ++ [x2]).length cap10)
  have iDB := (isP10.keep (w' := w10.setCell ⟨p9, 1, none⟩ (.slice a10 (ha.tx ++ [x2]).length cap10)) (fun b hb => heap_setCell_other _ _ _ _ (by show b ≠ p9; have := hb.1; omega))).mono (Q := In (w10.setCell ⟨p9, 1, none⟩ (.slice a10 (ha.tx ++ [x2]).length cap10))) (fun b hb => by show b < _; rw [World.size_setCell]; exact hb.2)
  obtain ⟨td, htd⟩ : ∃ x, Value.slice a10 (ha.tx ++ [x2]).length cap10 = x := ⟨_, rfl⟩
  have htd2 : Value.slice a10 (ha.tx.length + 1) cap10 = td := by rw [← htd, List.length_append, List.length_singleton]
  (try rw [htd] at V9B VAB VCB V8B CB iDB ⊢)
  (try rw [htd2])
  obtain ⟨W11, hW11⟩ : ∃ x, w10.setCell ⟨p9, 1, none⟩ td = x := ⟨_, rfl⟩
  rw [hW11] at V9B VAB VCB V8B CB iDB ⊢
  have dHD : HdS W11 { ha with tx := ha.tx ++ [x2] } td ma := ⟨(A1.out W11 CB).d, (A1.out W11 CB).e, iDB, (A1.out W11 CB).m⟩
  clear hW11 htd htd2 iDB cD1 zD1 V910 ho10 d10 d810 isP10 ho9' d9' d9z d9z' io VA8 VC8 V88 V9 C8
  have bn := box_new W11 ha (.slice tpa ha.tx.length tpc) va ma
  have k0 := BK.new 27 W11 zv
  obtain ⟨W12, hW⟩ : ∃ x, (W11.alloc (.cells zv 27)).setRow W11.heap.size (vv ha (.slice tpa ha.tx.length tpc) va ma) = x := ⟨_, rfl⟩
  rw [hW] at bn
  have HW := Lib.hid (show (W11.alloc (.cells #[.int .i64 0, .slice none 0 0, .bool false, .string ⟨#[]⟩, .string ⟨#[]⟩, .slice none 0 0, .int .i64 0, .int .i64 0, .slice none 0 0] 27)).setRow W11.heap.size (vv ha (.slice tpa ha.tx.length tpc) va ma) = W12 from hW)
  clear hW
  obtain ⟨p10, hp10⟩ : ∃ x, W11.heap.size = x := ⟨_, rfl⟩
  have V10 := bn.1
  have D10 := bn.2.1
  rw [hp10] at V10 D10
  have CC := CB.trans (bn.2.1.mono CB.size)
  have VAC := VAB.keep bn.2.1
  have VCC := VCB.keep bn.2.1
  have V8C := V8B.keep bn.2.1
  have V9C := V9B.keep bn.2.1
  have dHC := dHD.below bn.2.1
  have HP10 := Lib.hid hp10
  clear hp10
  go_upto_region 9 with (first | (refine wpl_ldV rfl _ rfl w.heap.size 0 ha (.slice tpa ha.tx.length tpc) va ma rfl (VB.range VAB) ?_) | (refine wpl_stV rfl _ _ rfl W11.heap.size zv ha (.slice tpa ha.tx.length tpc) va ma rfl rfl k0 rfl rfl t2 t3 ?_))
  rw [HW.out]
  (try rw [HP10.out])
  have l910 : p9 < p10 := by rw [← HP10.out]; exact V9B.lt
  have l11 := Lib.hid (HP10.out.symm)
  have dlo := bn.2.1
  clear HW k0 bn VAB VCB V8B V9B D10 CB
  obtain ⟨cs, n1, cS, ck, cvs, cnn⟩ := cells_ex (A2.out w (Below.refl _ _))
  have S12 : ∀ V : World, Below W12.heap.size W12 V → (V.cell? ⟨w.heap.size, 5, none⟩ = some va ∧ V.rangeAt p4 0 (vvl hb tb vb mb)) := fun V hV => ⟨(VAC.keep hV).cells.2.2.2.2.2.1, VB.range (VCC.keep hV)⟩
  have bD : Below W12.heap.size W12 W12.drew := (Below.refl _ _).drew
  refine wp_region_noPanic ?_
  refine wp_region_to 7 (S := fun V => V.cell? ⟨w.heap.size, 5, none⟩ = some va ∧ V.rangeAt p4 0 (vvl hb tb vb mb)) (by kernel_rfl) (S12 _ bD) (fun hS => ?_)
  obtain ⟨WD, hWD⟩ : ∃ x, W12.drew = x := ⟨_, rfl⟩
  rw [hWD] at bD hS ⊢
  clear hWD
  have CD := CC.trans (bD.mono CC.size)
  have V10D := V10.keep bD
  have lbD := bD.size
  have l10D := V10D.lt
  have hkl := voC_len ka
  have hVD : Vs 9 WD va cs := cvs.below CD (Nat.le_refl _)
  refine dtp 0 ?_
  refine dtk 1 ?_
  refine dtk (v := .agg #[.int .i64 hb.k, tb, .bool hb.ng, .string (bytes hb.dg), .string (bytes hb.ex), vb, .int .i64 hb.fr, .int .i64 hb.tt, mb]) 3 (hy := yieldsIf_load_mid (by rfl) 27 _ rfl p4 0 rfl (vvl hb tb vb mb) _ (fun w hS => hS.2) Tryz.underlying27 rfl infoVal) ?_
  refine AnyTo.ready (rs := [2, 4]) (by kernel_rfl) (by simp) ?_
  refine ReadyTo.cons rfl (fun K hK => ?ordA) (ReadyTo.cons rfl (fun K hK => ?ordB) ReadyTo.nil)
  case' ordA =>
    rw [if_pos (by rfl)]
    refine wp_appAt _ _ rfl Tryz.underlying25 infoValz rfl (by decide) WD.heap.size (.slice none 0 0) va [] cs cs rfl ⟨World.ownsRow_nil _ _ _ _, by simp, by simp⟩ rfl hVD cnn (fun y hy => (ck y hy).1) (fun y hy => (ck y hy).2) (by simp only [List.length_nil]; omega) (by decide) (Nat.le_refl _) rfl ?_
    intro v2 w2 ho2 b2
    have s2 := b2.size
    refine hK.out _ _ (S12 _ (bD.trans (b2.mono lbD))) (fun hS => ?_)
    clear hK K
    refine AnyTo.ready (rs := [4]) (by kernel_rfl) (by simp) ?_
    refine ReadyTo.cons rfl (fun K hK => ?_) ReadyTo.nil
    rw [if_pos (by rfl)]
    refine wp_bsz _ rfl _ _ _ _ _ _ _ _ _ rfl ?_
    have al := (Below.refl w2.heap.size w2).alloc (Nat.le_refl _) (.cells #[.int .i64 hb.k, tb, .bool hb.ng, .string (bytes hb.dg), .string (bytes hb.ex), vb, .int .i64 hb.fr, .int .i64 hb.tt, mb] 27)
    have b4 := b2.trans (al.mono s2)
    have ho4 := ho2.keep al
    have s4 := b4.size
    have R4 : (w2.alloc (.cells #[.int .i64 hb.k, tb, .bool hb.ng, .string (bytes hb.dg), .string (bytes hb.ex), vb, .int .i64 hb.fr, .int .i64 hb.tt, mb] 27)).rangeAt w2.heap.size 0 (vvl hb tb vb mb) := VB.range (VB.new w2 hb tb vb mb)
    refine hK.out _ _ (S12 _ (bD.trans (b4.mono lbD))) (fun hS => ?_)
    clear hK K
    obtain ⟨w4, hw4⟩ : ∃ x, w2.alloc (.cells #[.int .i64 hb.k, tb, .bool hb.ng, .string (bytes hb.dg), .string (bytes hb.ex), vb, .int .i64 hb.fr, .int .i64 hb.tt, mb] 27) = x := ⟨_, rfl⟩
    rw [hw4] at b4 ho4 s4 R4 hS ⊢
    clear hw4 al
    refine AnyTo.ready (rs := [5]) (by kernel_rfl) (by simp) ?_
    refine ReadyTo.cons rfl (fun K hK => ?_) ReadyTo.nil
    rw [if_pos (by rfl)]
    refine wp_appV _ _ rfl Tryz.underlying25 infoValz rfl (by decide) WD.heap.size v2 cs (cs ++ [vvl hb tb vb mb]) (vvl hb tb vb mb) w2.heap.size 1 ka.len n1 rfl ho4 rfl R4 rfl (vvl_nine hb s1 s2' s3) (by omega) (by decide) s4 rfl ?_
    clear R4 ho4 ho2
  case' ordB =>
    rw [if_pos (by rfl)]
    refine wp_bsz _ rfl _ _ _ _ _ _ _ _ _ rfl ?_
    have al := (Below.refl WD.heap.size WD).alloc (Nat.le_refl _) (.cells #[.int .i64 hb.k, tb, .bool hb.ng, .string (bytes hb.dg), .string (bytes hb.ex), vb, .int .i64 hb.fr, .int .i64 hb.tt, mb] 27)
    have s2 := al.size
    have R4 : (WD.alloc (.cells #[.int .i64 hb.k, tb, .bool hb.ng, .string (bytes hb.dg), .string (bytes hb.ex), vb, .int .i64 hb.fr, .int .i64 hb.tt, mb] 27)).rangeAt WD.heap.size 0 (vvl hb tb vb mb) := VB.range (VB.new WD hb tb vb mb)
    have hv2 := hVD.keep al
    refine hK.out _ _ (S12 _ (bD.trans (al.mono lbD))) (fun hS => ?_)
    clear hK K
    obtain ⟨w2, hw2⟩ : ∃ x, WD.alloc (.cells #[.int .i64 hb.k, tb, .bool hb.ng, .string (bytes hb.dg), .string (bytes hb.ex), vb, .int .i64 hb.fr, .int .i64 hb.tt, mb] 27) = x := ⟨_, rfl⟩
    have lw2 : WD.heap.size < w2.heap.size := by rw [← hw2]; simp
    rw [hw2] at al s2 R4 hv2 hS ⊢
    clear hw2
    refine AnyTo.ready (rs := [2]) (by kernel_rfl) (by simp) ?_
    refine ReadyTo.cons rfl (fun K hK => ?_) ReadyTo.nil
    rw [if_pos (by rfl)]
    refine wp_appAt _ _ rfl Tryz.underlying25 infoValz rfl (by decide) (WD.heap.size + 1) (.slice none 0 0) va [] cs cs rfl ⟨World.ownsRow_nil _ _ _ _, by simp, by simp⟩ rfl hv2 cnn (fun y hy => (ck y hy).1) (fun y hy => (ck y hy).2) (by simp only [List.length_nil]; omega) (by decide) lw2 rfl ?_
    intro v2 w4 ho4' b4'
    have b4 := al.trans (b4'.mono (Nat.le_succ _))
    have s4 := b4.size
    have R4' : w4.rangeAt WD.heap.size 0 (vvl hb tb vb mb) := range_same R4 (b4'.block _ (Nat.lt_succ_self _))
    have ho4 : OwnV 27 9 WD.heap.size w4 v2 cs := ⟨ownsRow_less ho4'.1 (Nat.le_succ _), ho4'.2⟩
    refine hK.out _ _ (S12 _ (bD.trans (b4.mono lbD))) (fun hS => ?_)
    clear hK K
    refine AnyTo.ready (rs := [5]) (by kernel_rfl) (by simp) ?_
    refine ReadyTo.cons rfl (fun K hK => ?_) ReadyTo.nil
    rw [if_pos (by rfl)]
    refine wp_appV _ _ rfl Tryz.underlying25 infoValz rfl (by decide) WD.heap.size v2 cs (cs ++ [vvl hb tb vb mb]) (vvl hb tb vb mb) WD.heap.size 1 ka.len n1 rfl ho4 rfl R4' rfl (vvl_nine hb s1 s2' s3) (by omega) (by decide) s4 rfl ?_
    clear R4 R4' ho4 ho4' hv2 al b4' lw2
  all_goals (
    intro g cap w5 ho5 b5' _q1 _q2 _q3
    have b5 := b4.trans b5'
    have s5 := b5.size
    have hgB : WD.heap.size ≤ g := (own_in ho5 g rfl).1
    refine hK.out _ _ (S12 _ (bD.trans (b5.mono lbD))) (fun hS => ?_)
    clear hK K
    refine dtp 6 ?_
    have V105 := V10D.keep b5
    have c5 : w5.cell? ⟨p10, 5, none⟩ = some va := V105.cells.2.2.2.2.2.1
    have f5 : w5.frozen? ⟨p10, 5, none⟩ = false := frozen_of_row _ _ _ _ _ V105
    refine AnyTo.ready (rs := [7]) (by kernel_rfl) (by simp) ?_
    refine ReadyTo.last rfl (by kernel_rfl) (fun K hK => ?_) ReadyTo.nil
    go_simp
    refine hK.out _ _ ?_
    clear hK K
    refine AnyTo.done (by kernel_rfl) ?_ _
    refine NoPanic.normal ?_
    have bD5 := bD.trans (b5.mono lbD)
    have bN : Below W11.heap.size W11 (w5.setCell ⟨p10, 5, none⟩ (.slice (some ⟨g, 0, none⟩) (ka.len + 1) cap)) := (dlo.trans (bD5.mono dlo.size)).setCell (p := ⟨p10, 5, none⟩) (Nat.le_of_eq l11.out.symm) _
    have CN : Below w.heap.size w (w5.setCell ⟨p10, 5, none⟩ (.slice (some ⟨g, 0, none⟩) (ka.len + 1) cap)) := (CC.trans (bD5.mono CC.size)).setCell (p := ⟨p10, 5, none⟩) (by show w.heap.size ≤ p10; omega) _
    have VAN : VB (w5.setCell ⟨p10, 5, none⟩ (.slice (some ⟨g, 0, none⟩) (ka.len + 1) cap)) w.heap.size ha (.slice tpa ha.tx.length tpc) va ma := BK.other (VAC.keep bD5) (by omega) 5 _
    have VCN : VB (w5.setCell ⟨p10, 5, none⟩ (.slice (some ⟨g, 0, none⟩) (ka.len + 1) cap)) p4 hb tb vb mb := BK.other (VCC.keep bD5) (by omega) 5 _
    have V8N : VB (w5.setCell ⟨p10, 5, none⟩ (.slice (some ⟨g, 0, none⟩) (ka.len + 1) cap)) p8 { ha with k := KK } (.slice tpa ha.tx.length tpc) va ma := BK.other (V8C.keep bD5) (by omega) 5 _
    have V9N : VB (w5.setCell ⟨p10, 5, none⟩ (.slice (some ⟨g, 0, none⟩) (ka.len + 1) cap)) p9 { ha with tx := ha.tx ++ [x2] } td va ma := BK.other (V9C.keep bD5) (by omega) 5 _
    have V10N : VB (w5.setCell ⟨p10, 5, none⟩ (.slice (some ⟨g, 0, none⟩) (ka.len + 1) cap)) p10 ha (.slice tpa ha.tx.length tpc) (.slice (some ⟨g, 0, none⟩) (ka.len + 1) cap) ma := BK.setCell V105 5 _
    have iE : VoS (w5.setCell ⟨p10, 5, none⟩ (.slice (some ⟨g, 0, none⟩) (ka.len + 1) cap)) (.slice (some ⟨g, 0, none⟩) (ka.len + 1) cap) (ka.snoc hb kb) := items_S (OwnV.setOther ho5 ⟨p10, 5, none⟩ (.slice (some ⟨g, 0, none⟩) (ka.len + 1) cap) (by simp only [Value.ownBlock]; intro e; injection e with e; omega)) (cells_snoc cS n1 (B1.out w (Below.refl _ _)) (B2.out w (Below.refl _ _))) (by rw [List.length_append, List.length_singleton, snoc_len, n1]) CN
    obtain ⟨W13, hW13⟩ : ∃ x, w5.setCell ⟨p10, 5, none⟩ (.slice (some ⟨g, 0, none⟩) (ka.len + 1) cap) = x := ⟨_, rfl⟩
    rw [hW13] at bN CN VAN VCN V8N V9N V10N iE ⊢
    clear hW13 c5 f5 V105 hS ho5 b5 b5' b4 s5 s4 hgB bD5
    obtain ⟨iv, hiv⟩ : ∃ x, Value.slice (some ⟨g, 0, none⟩) (ka.len + 1) cap = x := ⟨_, rfl⟩
    have i2 : iv.oneCell' = true := by rw [← hiv]; rfl
    rw [hiv] at V10N iE ⊢
    clear hiv
    have dHN := dHD.below bN
    clear dHD dlo bD lbD V10D l10D hVD CD S12 VAC VCC V8C V9C V10 CC dHC
    have bn := box_new W13 ha (.slice tpa ha.tx.length tpc) va ma
    have k0 := BK.new 27 W13 zv
    obtain ⟨W14, hW⟩ : ∃ x, (W13.alloc (.cells zv 27)).setRow W13.heap.size (vv ha (.slice tpa ha.tx.length tpc) va ma) = x := ⟨_, rfl⟩
    rw [hW] at bn
    have HW := Lib.hid (show (W13.alloc (.cells #[.int .i64 0, .slice none 0 0, .bool false, .string ⟨#[]⟩, .string ⟨#[]⟩, .slice none 0 0, .int .i64 0, .int .i64 0, .slice none 0 0] 27)).setRow W13.heap.size (vv ha (.slice tpa ha.tx.length tpc) va ma) = W14 from hW)
    clear hW
    obtain ⟨p11, hp11⟩ : ∃ x, W13.heap.size = x := ⟨_, rfl⟩
    have V11 := bn.1
    have D11 := bn.2.1
    rw [hp11] at V11 D11
    have bn2 := bn.2.1
    have CP := CN.trans (bn2.mono CN.size)
    have VAP := VAN.keep bn2
    have VCP := VCN.keep bn2
    have V8P := V8N.keep bn2
    have V9P := V9N.keep bn2
    have V10P := V10N.keep bn2
    have HP11 := Lib.hid hp11
    have N13 := Lib.hid bn2
    clear hp11
    go_upto_region 11 with (first | (refine wpl_ldV rfl _ rfl w.heap.size 0 ha (.slice tpa ha.tx.length tpc) va ma rfl (VB.range VAN) ?_) | (refine wpl_stV rfl _ _ rfl W13.heap.size zv ha (.slice tpa ha.tx.length tpc) va ma rfl rfl k0 rfl rfl t2 t3 ?_))
    rw [HW.out]
    (try rw [HP11.out])
    have l13 := Lib.hid (HP11.out.symm)
    have lpA : w.heap.size < p11 := by rw [← HP11.out]; exact VAN.lt
    have lpC : p4 < p11 := by rw [← HP11.out]; exact VCN.lt
    have lp8 : p8 < p11 := by rw [← HP11.out]; exact V8N.lt
    have lp9 : p9 < p11 := by rw [← HP11.out]; exact V9N.lt
    have lp10 : p10 < p11 := by rw [← HP11.out]; exact V10N.lt
    clear HW k0 bn VAN VCN V8N V9N V10N D11 bn2
    have m0 : W14.cell? ⟨p11, 6, none⟩ = some (.int .i64 ha.fr) := V11.cells.2.2.2.2.2.2.1
    have m1 : W14.cell? ⟨p11, 7, none⟩ = some (.int .i64 ha.tt) := V11.cells.2.2.2.2.2.2.2.1
    have m2' : W14.cell? ⟨p11, 8, none⟩ = some ma := V11.cells.2.2.2.2.2.2.2.2
    have y0 : W14.frozen? ⟨p11, 6, none⟩ = false := frozen_of_row _ _ _ _ _ V11
    have y1 : W14.frozen? ⟨p11, 7, none⟩ = false := frozen_of_row _ _ _ _ _ V11
    have y2 : W14.frozen? ⟨p11, 8, none⟩ = false := frozen_of_row _ _ _ _ _ V11
    go_upto_region 14 with fail
    have V11Q : VB (((W14.setCell ⟨p11, 6, none⟩ (.int .i64 x2)).setCell ⟨p11, 7, none⟩ (.int .i64 x2)).setCell ⟨p11, 8, none⟩ (.slice none 0 0)) p11 { ha with fr := x2, tt := x2, ms := [] } (.slice tpa ha.tx.length tpc) va (.slice none 0 0) := ((BK.setCell V11 6 (.int .i64 x2)).setCell 7 (.int .i64 x2)).setCell 8 (.slice none 0 0)
    have VAQ : VB (((W14.setCell ⟨p11, 6, none⟩ (.int .i64 x2)).setCell ⟨p11, 7, none⟩ (.int .i64 x2)).setCell ⟨p11, 8, none⟩ (.slice none 0 0)) w.heap.size ha (.slice tpa ha.tx.length tpc) va ma := ((BK.other VAP (c := p11) (by omega) 6 (.int .i64 x2)).other (c := p11) (by omega) 7 (.int .i64 x2)).other (c := p11) (by omega) 8 (.slice none 0 0)
    have VCQ : VB (((W14.setCell ⟨p11, 6, none⟩ (.int .i64 x2)).setCell ⟨p11, 7, none⟩ (.int .i64 x2)).setCell ⟨p11, 8, none⟩ (.slice none 0 0)) p4 hb tb vb mb := ((BK.other VCP (c := p11) (by omega) 6 (.int .i64 x2)).other (c := p11) (by omega) 7 (.int .i64 x2)).other (c := p11) (by omega) 8 (.slice none 0 0)
    have V8Q : VB (((W14.setCell ⟨p11, 6, none⟩ (.int .i64 x2)).setCell ⟨p11, 7, none⟩ (.int .i64 x2)).setCell ⟨p11, 8, none⟩ (.slice none 0 0)) p8 { ha with k := KK } (.slice tpa ha.tx.length tpc) va ma := ((BK.other V8P (c := p11) (by omega) 6 (.int .i64 x2)).other (c := p11) (by omega) 7 (.int .i64 x2)).other (c := p11) (by omega) 8 (.slice none 0 0)
    have V9Q : VB (((W14.setCell ⟨p11, 6, none⟩ (.int .i64 x2)).setCell ⟨p11, 7, none⟩ (.int .i64 x2)).setCell ⟨p11, 8, none⟩ (.slice none 0 0)) p9 { ha with tx := ha.tx ++ [x2] } td va ma := ((BK.other V9P (c := p11) (by omega) 6 (.int .i64 x2)).other (c := p11) (by omega) 7 (.int .i64 x2)).other (c := p11) (by omega) 8 (.slice none 0 0)
    have V10Q : VB (((W14.setCell ⟨p11, 6, none⟩ (.int .i64 x2)).setCell ⟨p11, 7, none⟩ (.int .i64 x2)).setCell ⟨p11, 8, none⟩ (.slice none 0 0)) p10 ha (.slice tpa ha.tx.length tpc) iv ma := ((BK.other V10P (c := p11) (by omega) 6 (.int .i64 x2)).other (c := p11) (by omega) 7 (.int .i64 x2)).other (c := p11) (by omega) 8 (.slice none 0 0)
    have bQ : Below W13.heap.size W13 (((W14.setCell ⟨p11, 6, none⟩ (.int .i64 x2)).setCell ⟨p11, 7, none⟩ (.int .i64 x2)).setCell ⟨p11, 8, none⟩ (.slice none 0 0)) := ((N13.out.setCell (p := ⟨p11, 6, none⟩) (Nat.le_of_eq l13.out.symm) _).setCell (p := ⟨p11, 7, none⟩) (Nat.le_of_eq l13.out.symm) _).setCell (p := ⟨p11, 8, none⟩) (Nat.le_of_eq l13.out.symm) _
    obtain ⟨W15, hW15⟩ : ∃ x, (((W14.setCell ⟨p11, 6, none⟩ (.int .i64 x2)).setCell ⟨p11, 7, none⟩ (.int .i64 x2)).setCell ⟨p11, 8, none⟩ (.slice none 0 0)) = x := ⟨_, rfl⟩
    rw [hW15] at V11Q VAQ VCQ V8Q V9Q V10Q bQ ⊢
    clear hW15 m0 m1 m2' y0 y1 y2 V11 VAP VCP V8P V9P V10P CP N13
    have CQ := CN.trans (bQ.mono CN.size)
    have dQ := dHN.below bQ
    have eQ := iE.below bQ
    clear dHN iE CN bN bQ
    have SS : ∀ V : World, Below W15.heap.size W15 V → (V.rangeAt w.heap.size 0 (vvl ha (.slice tpa ha.tx.length tpc) va ma) ∧ V.rangeAt p4 0 (vvl hb tb vb mb) ∧ V.rangeAt p8 0 (vvl { ha with k := KK } (.slice tpa ha.tx.length tpc) va ma) ∧ V.rangeAt p9 0 (vvl { ha with tx := ha.tx ++ [x2] } td va ma) ∧ V.rangeAt p10 0 (vvl ha (.slice tpa ha.tx.length tpc) iv ma) ∧ V.rangeAt p11 0 (vvl { ha with fr := x2, tt := x2, ms := [] } (.slice tpa ha.tx.length tpc) va (.slice none 0 0))) := fun V h => ⟨VB.range (VAQ.keep h), VB.range (VCQ.keep h), VB.range (V8Q.keep h), VB.range (V9Q.keep h), VB.range (V10Q.keep h), VB.range (V11Q.keep h)⟩
    have hA := Lib.hid (fun (W : World) (h : Below W15.heap.size W15 W) => A1.out W (CQ.trans (h.mono CQ.size)))
    have kA := Lib.hid (fun (W : World) (h : Below W15.heap.size W15 W) => A2.out W (CQ.trans (h.mono CQ.size)))
    have hB := Lib.hid (fun (W : World) (h : Below W15.heap.size W15 W) => B1.out W (CQ.trans (h.mono CQ.size)))
    have kB := Lib.hid (fun (W : World) (h : Below W15.heap.size W15 W) => B2.out W (CQ.trans (h.mono CQ.size)))
    have sne1 : sameH ha ka { ha with k := KK } ka = false := by
      unfold sameH sameHd
      rw [decide_eq_false (show ¬ ha.k = ({ ha with k := KK } : Vh).k from fun e => kne e.symm)]
      simp
    have sne2 : sameH ha ka { ha with tx := ha.tx ++ [x2] } ka = false := by
      unfold sameH sameHd
      rw [decide_eq_false (show ¬ ha.tx = ({ ha with tx := ha.tx ++ [x2] } : Vh).tx from fun e => by have := congrArg List.length e; simp at this)]
      simp
    have sne3 : sameH ha (ka.snoc hb kb) ha ka = false := by
      unfold sameH sameHd
      rw [decide_eq_false (show ¬ (ka.snoc hb kb).len = ka.len by rw [snoc_len]; omega)]
      simp
    have seq4 : sameH ha ka { ha with fr := x2, tt := x2, ms := [] } ka = true := by
      unfold sameH sameHd
      simp [sameVo_refl]
    have vsn := voC_snocS ka hb kb
    obtain ⟨R, hR⟩ : ∃ x, sameH ha ka hb kb = x := ⟨_, rfl⟩
    have J1 := Lib.hid (fun (W : World) (h : Below W15.heap.size W15 W) => hR ▸ jsame_any ha ka hb kb W (.slice tpa ha.tx.length tpc) va ma tb vb mb (by omega) (by omega) (hA.out W h) (kA.out W h) (hB.out W h) (kB.out W h))
    have J2 := Lib.hid (fun (W : World) (h : Below W15.heap.size W15 W) => hR ▸ sv_any ha ka hb kb W (.slice tpa ha.tx.length tpc) va ma tb vb mb (by omega) (by omega) (hA.out W h) (kA.out W h) (hB.out W h) (kB.out W h))
    have J3 := Lib.hid (fun (W : World) (h : Below W15.heap.size W15 W) => sameH_refl ha ka ▸ jsame_any ha ka ha ka W (.slice tpa ha.tx.length tpc) va ma (.slice tpa ha.tx.length tpc) va ma (by omega) (by omega) (hA.out W h) (kA.out W h) (hA.out W h) (kA.out W h))
    have J4 := Lib.hid (fun (W : World) (h : Below W15.heap.size W15 W) => sne1 ▸ jsame_any ha ka { ha with k := KK } ka W (.slice tpa ha.tx.length tpc) va ma (.slice tpa ha.tx.length tpc) va ma (by omega) (by show 1 + ha.tx.length + ha.ms.length + VoC ka ≤ _; omega) (hA.out W h) (kA.out W h) ⟨(hA.out W h).d, (hA.out W h).e, (hA.out W h).t, (hA.out W h).m⟩ (kA.out W h))
    have J5 := Lib.hid (fun (W : World) (h : Below W15.heap.size W15 W) => sne2 ▸ jsame_any ha ka { ha with tx := ha.tx ++ [x2] } ka W (.slice tpa ha.tx.length tpc) va ma td va ma (by omega) (by show 1 + (ha.tx ++ [x2]).length + ha.ms.length + VoC ka ≤ _; rw [List.length_append, List.length_singleton]; omega) (hA.out W h) (kA.out W h) (dQ.below h) (kA.out W h))
    have J6 := Lib.hid (fun (W : World) (h : Below W15.heap.size W15 W) => sne3 ▸ jsame_any ha (ka.snoc hb kb) ha ka W (.slice tpa ha.tx.length tpc) iv ma (.slice tpa ha.tx.length tpc) va ma (by omega) (by omega) (hA.out W h) (eQ.below h) (hA.out W h) (kA.out W h))
    have J7 := Lib.hid (fun (W : World) (h : Below W15.heap.size W15 W) => seq4 ▸ jsame_any ha ka { ha with fr := x2, tt := x2, ms := [] } ka W (.slice tpa ha.tx.length tpc) va ma (.slice tpa ha.tx.length tpc) va (.slice none 0 0) (by omega) (by show 1 + ha.tx.length + 0 + VoC ka ≤ _; omega) (hA.out W h) (kA.out W h) ⟨(hA.out W h).d, (hA.out W h).e, (hA.out W h).t, isP_nil _ _⟩ (kA.out W h))
    clear sne1 sne2 sne3 seq4 hR dQ eQ vsn hA kA hB kB VAQ VCQ V8Q V9Q V10Q V11Q
    refine wp_region_noPanic ?_
    refine wp_region_to 35 (S := fun V => V.rangeAt w.heap.size 0 (vvl ha (.slice tpa ha.tx.length tpc) va ma) ∧ V.rangeAt p4 0 (vvl hb tb vb mb) ∧ V.rangeAt p8 0 (vvl { ha with k := KK } (.slice tpa ha.tx.length tpc) va ma) ∧ V.rangeAt p9 0 (vvl { ha with tx := ha.tx ++ [x2] } td va ma) ∧ V.rangeAt p10 0 (vvl ha (.slice tpa ha.tx.length tpc) iv ma) ∧ V.rangeAt p11 0 (vvl { ha with fr := x2, tt := x2, ms := [] } (.slice tpa ha.tx.length tpc) va (.slice none 0 0))) (by kernel_rfl) (SS _ (Below.refl _ _).drew) (fun hS => ?_)
    obtain ⟨WE, hWE⟩ : ∃ x, W15.drew = x := ⟨_, rfl⟩
    have bE : Below W15.heap.size W15 WE := by rw [← hWE]; exact (Below.refl _ _).drew
    rw [hWE] at hS ⊢
    clear hWE
    have d0 := Lib.hid bE
    clear bE
    refine dtk (v := .agg (vv ha (.slice tpa ha.tx.length tpc) va ma)) 0 (hy := yieldsIf_load_mid (by rfl) 27 _ rfl w.heap.size 0 rfl (vvl ha (.slice tpa ha.tx.length tpc) va ma) _ (fun w hS => hS.1) Tryz.underlying27 rfl infoVal) ?_
    refine dtk (v := .agg (vv hb tb vb mb)) 1 (hy := yieldsIf_load_mid (by rfl) 27 _ rfl p4 0 rfl (vvl hb tb vb mb) _ (fun w hS => hS.2.1) Tryz.underlying27 rfl infoVal) ?_
    refine dtk (v := .agg (vv ha (.slice tpa ha.tx.length tpc) va ma)) 3 (hy := yieldsIf_load_mid (by rfl) 27 _ rfl w.heap.size 0 rfl (vvl ha (.slice tpa ha.tx.length tpc) va ma) _ (fun w hS => hS.1) Tryz.underlying27 rfl infoVal) ?_
    refine dtk (v := .agg (vv hb tb vb mb)) 4 (hy := yieldsIf_load_mid (by rfl) 27 _ rfl p4 0 rfl (vvl hb tb vb mb) _ (fun w hS => hS.2.1) Tryz.underlying27 rfl infoVal) ?_
    refine AnyTo.ready (rs := [2]) (by kernel_rfl) (by simp) ?_
    refine ReadyTo.cons rfl (fun K hK => ?_) ReadyTo.nil
    go_simp
    refine (J1.out WE d0.out).mono ?_
    rintro e u1 ⟨rfl, hu1⟩
    refine hK.out _ _ (SS _ (d0.out.trans (hu1.mono d0.out.size))) (fun hS => ?_)
    clear hK K
    have d1 := Lib.hid (d0.out.trans (hu1.mono d0.out.size))
    clear hu1
    refine AnyTo.ready (rs := [5]) (by kernel_rfl) (by simp) ?_
    refine ReadyTo.cons rfl (fun K hK => ?_) ReadyTo.nil
    go_simp
    refine (J2.out u1 d1.out).mono ?_
    rintro e u2 ⟨rfl, hu2⟩
    refine hK.out _ _ (SS _ (d1.out.trans (hu2.mono d1.out.size))) (fun hS => ?_)
    clear hK K
    have d2 := Lib.hid (d1.out.trans (hu2.mono d1.out.size))
    clear hu2
    refine dtp (v := .bool true) 6 (hy := Or.inl ⟨by rfl, by intro V hSV; go_simp⟩) ?_
    refine dtp 7 ?_
    refine dtk (v := .agg (vv ha (.slice tpa ha.tx.length tpc) va ma)) 8 (hy := yieldsIf_load_mid (by rfl) 27 _ rfl w.heap.size 0 rfl (vvl ha (.slice tpa ha.tx.length tpc) va ma) _ (fun w hS => hS.1) Tryz.underlying27 rfl infoVal) ?_
    refine dtk (v := .agg (vv ha (.slice tpa ha.tx.length tpc) va ma)) 9 (hy := yieldsIf_load_mid (by rfl) 27 _ rfl w.heap.size 0 rfl (vvl ha (.slice tpa ha.tx.length tpc) va ma) _ (fun w hS => hS.1) Tryz.underlying27 rfl infoVal) ?_
    refine AnyTo.ready (rs := [10]) (by kernel_rfl) (by simp) ?_
    refine ReadyTo.cons rfl (fun K hK => ?_) ReadyTo.nil
    go_simp
    refine (J3.out u2 d2.out).mono ?_
    rintro e u3 ⟨rfl, hu3⟩
    refine hK.out _ _ (SS _ (d2.out.trans (hu3.mono d2.out.size))) (fun hS => ?_)
    clear hK K
    have d3 := Lib.hid (d2.out.trans (hu3.mono d2.out.size))
    clear hu3
    refine dtp 11 ?_
    refine dtp 12 ?_
    refine dtk (v := .agg (vv ha (.slice tpa ha.tx.length tpc) va ma)) 13 (hy := yieldsIf_load_mid (by rfl) 27 _ rfl w.heap.size 0 rfl (vvl ha (.slice tpa ha.tx.length tpc) va ma) _ (fun w hS => hS.1) Tryz.underlying27 rfl infoVal) ?_
    refine dtk (v := .agg (vv { ha with k := KK } (.slice tpa ha.tx.length tpc) va ma)) 14 (hy := yieldsIf_load_mid (by rfl) 27 _ rfl p8 0 rfl (vvl { ha with k := KK } (.slice tpa ha.tx.length tpc) va ma) _ (fun w hS => hS.2.2.1) Tryz.underlying27 rfl infoVal) ?_
    refine AnyTo.ready (rs := [15]) (by kernel_rfl) (by simp) ?_
    refine ReadyTo.cons rfl (fun K hK => ?_) ReadyTo.nil
    go_simp
    refine (J4.out u3 d3.out).mono ?_
    rintro e u4 ⟨rfl, hu4⟩
    refine hK.out _ _ (SS _ (d3.out.trans (hu4.mono d3.out.size))) (fun hS => ?_)
    clear hK K
    have d4 := Lib.hid (d3.out.trans (hu4.mono d3.out.size))
    clear hu4
    refine dtp 16 ?_
    refine dtp 17 ?_
    refine dtp 18 ?_
    refine dtk (v := .agg (vv ha (.slice tpa ha.tx.length tpc) va ma)) 19 (hy := yieldsIf_load_mid (by rfl) 27 _ rfl w.heap.size 0 rfl (vvl ha (.slice tpa ha.tx.length tpc) va ma) _ (fun w hS => hS.1) Tryz.underlying27 rfl infoVal) ?_
    refine dtk (v := .agg (vv { ha with tx := ha.tx ++ [x2] } td va ma)) 20 (hy := yieldsIf_load_mid (by rfl) 27 _ rfl p9 0 rfl (vvl { ha with tx := ha.tx ++ [x2] } td va ma) _ (fun w hS => hS.2.2.2.1) Tryz.underlying27 rfl infoVal) ?_
    refine AnyTo.ready (rs := [21]) (by kernel_rfl) (by simp) ?_
    refine ReadyTo.cons rfl (fun K hK => ?_) ReadyTo.nil
    go_simp
    refine (J5.out u4 d4.out).mono ?_
    rintro e u5 ⟨rfl, hu5⟩
    refine hK.out _ _ (SS _ (d4.out.trans (hu5.mono d4.out.size))) (fun hS => ?_)
    clear hK K
    have d5 := Lib.hid (d4.out.trans (hu5.mono d4.out.size))
    clear hu5
    refine dtp 22 ?_
    refine dtp 23 ?_
    refine dtp 24 ?_
    refine dtk (v := .agg (vv ha (.slice tpa ha.tx.length tpc) iv ma)) 25 (hy := yieldsIf_load_mid (by rfl) 27 _ rfl p10 0 rfl (vvl ha (.slice tpa ha.tx.length tpc) iv ma) _ (fun w hS => hS.2.2.2.2.1) Tryz.underlying27 rfl infoVal) ?_
    refine dtk (v := .agg (vv ha (.slice tpa ha.tx.length tpc) va ma)) 26 (hy := yieldsIf_load_mid (by rfl) 27 _ rfl w.heap.size 0 rfl (vvl ha (.slice tpa ha.tx.length tpc) va ma) _ (fun w hS => hS.1) Tryz.underlying27 rfl infoVal) ?_
    refine AnyTo.ready (rs := [27]) (by kernel_rfl) (by simp) ?_
    refine ReadyTo.cons rfl (fun K hK => ?_) ReadyTo.nil
    go_simp
    refine (J6.out u5 d5.out).mono ?_
    rintro e u6 ⟨rfl, hu6⟩
    refine hK.out _ _ (SS _ (d5.out.trans (hu6.mono d5.out.size))) (fun hS => ?_)
    clear hK K
    have d6 := Lib.hid (d5.out.trans (hu6.mono d5.out.size))
    clear hu6
    refine dtp 28 ?_
    refine dtp 29 ?_
    refine dtp 30 ?_
    refine dtk (v := .agg (vv ha (.slice tpa ha.tx.length tpc) va ma)) 31 (hy := yieldsIf_load_mid (by rfl) 27 _ rfl w.heap.size 0 rfl (vvl ha (.slice tpa ha.tx.length tpc) va ma) _ (fun w hS => hS.1) Tryz.underlying27 rfl infoVal) ?_
    refine dtk (v := .agg (vv { ha with fr := x2, tt := x2, ms := [] } (.slice tpa ha.tx.length tpc) va (.slice none 0 0))) 32 (hy := yieldsIf_load_mid (by rfl) 27 _ rfl p11 0 rfl (vvl { ha with fr := x2, tt := x2, ms := [] } (.slice tpa ha.tx.length tpc) va (.slice none 0 0)) _ (fun w hS => hS.2.2.2.2.2) Tryz.underlying27 rfl infoVal) ?_
    refine AnyTo.ready (rs := [33]) (by kernel_rfl) (by simp) ?_
    refine ReadyTo.cons rfl (fun K hK => ?_) ReadyTo.nil
    go_simp
    refine (J7.out u6 d6.out).mono ?_
    rintro e u7 ⟨rfl, hu7⟩
    refine hK.out _ _ (SS _ (d6.out.trans (hu7.mono d6.out.size))) (fun hS => ?_)
    clear hK K
    have d7 := Lib.hid (d6.out.trans (hu7.mono d6.out.size))
    clear hu7
    refine dtp 34 ?_
    refine AnyTo.ready (rs := [35]) (by kernel_rfl) (by simp) ?_
    refine ReadyTo.last rfl (by kernel_rfl) (fun K hK => ?_) ReadyTo.nil
    go_simp
    refine hK.out _ _ ?_
    clear hK K
    refine AnyTo.done (by kernel_rfl) ?_ _
    refine NoPanic.normal ?_
    go_wp2
    go_ret
    exact ⟨rfl, CQ.trans (d7.out.mono CQ.size)⟩)
end Go.Proofs.YtbfnlgmhfhaglaaGreatDoor
