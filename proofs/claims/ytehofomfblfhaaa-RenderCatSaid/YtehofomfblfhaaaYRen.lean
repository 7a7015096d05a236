/- Layouts: the page's own Render. -/
import Derived.Test.YtehofomfblfhaaaYBeh
import Derived.Test.YtehofomfblfhaaaVAppG
import Derived.Deep.LoopGhost
namespace Go.Proofs.Ytehofomfblfhaaa
open Go.RowKit
set_option linter.unusedVariables false
set_option linter.unusedSimpArgs false

/-- A piece's cells. -/
def pc2 (p : Pc) : List Value := [.string p.1, .int .i64 p.2]
theorem infoP2 : (Try.prog.info? 34).map (fun i => (i.zero, i.size, i.bytes)) = some (some (.agg #[.string ⟨#[]⟩, .int .i64 0]), 2, 24) := by kernel_rfl
theorem pc2_len (l : List Pc) : ∀ y ∈ l.map pc2, y.length = 2 := by
  intro y hy; simp only [List.mem_map] at hy; obtain ⟨p, _, rfl⟩ := hy; rfl
theorem pc2_one (l : List Pc) : ∀ y ∈ l.map pc2, ∀ c ∈ y, c.oneCell' = true := by
  intro y hy c hc
  simp only [List.mem_map] at hy
  obtain ⟨p, _, rfl⟩ := hy
  simp only [pc2, List.mem_cons, List.mem_nil_iff, or_false] at hc
  rcases hc with rfl | rfl <;> rfl
theorem one_pc (w : World) (S : ByteArray) (f : Int) : Vs 2 (w.alloc (.cells #[.string S, .int .i64 f] 34)) (.slice (some ⟨w.heap.size, 0, none⟩) 1 1) ([(S, f)].map pc2) := vs_cells 2 34 w ([(S, f)].map pc2) _ 1 rfl (pc2_len _) rfl (by simp)
/-- append of one piece. -/
theorem wpl_pc {w : World} {ops : Array Oper} {rest : List Oper} {o : Oper} {a : Act} {Q : Exit → Act → World → Prop} (hgd : o.guard = none) (s x : Operand)
    (ho : o.op = .call { callee := .builtin .append, args := #[s, x], argTypes := #[27, 27] })
    (B : Nat) (v u : Value) (l : List Pc) (p : Pc) (hs : a.eval s = v) (hown : OwnV 34 2 B w v (l.map pc2)) (hx : a.eval x = u) (hu : Vs 2 w u ([p].map pc2)) (hnn : NNv u) (hlen : l.length ≤ 1000000) (hB : B ≤ w.heap.size)
    (h : ∀ v' w', OwnV 34 2 B w' v' ((l ++ [p]).map pc2) → Below B w w' → wpList Try.prog ops Q rest (a.put o.dst v') w') : wpList Try.prog ops Q (o :: rest) a w :=
  wpl_appendV hgd s x ho Try.underlying27 infoP2 rfl (by decide) B v u (l.map pc2) ([p].map pc2) ((l ++ [p]).map pc2) hs hown hx hu hnn (pc2_len _) (pc2_one _) (by rw [List.length_map, List.length_map]; simp only [List.length_singleton]; omega) (by decide) hB (by simp) h
/-- Each may be, at its level. -/
def RowOk (row : List It) : Prop := ∀ x ∈ row, ∃ d, x.lv + d ≤ 200 ∧ rightD x.k x.f x.s x.kids d = true
def rowSz : List It → Nat
  | [] => 0
  | x :: r => (x.s.size + 1 + FoSz x.kids) + rowSz r
theorem rowSz_append (a b : List It) : rowSz (a ++ b) = rowSz a + rowSz b := by
  induction a with
  | nil => simp [rowSz]
  | cons x a ih => simp only [List.cons_append, rowSz, ih]; omega
theorem rowSz_items (lv : Nat) (fl : Bool) (L : Fo) : rowSz (items lv fl L) = FoSz L := by
  induction L with
  | nil => rfl
  | cons k f s kids rest _ ih => simp only [items, rowSz, FoSz, ih]
theorem items_mem (lv : Nat) (fl : Bool) (L : Fo) : ∀ x ∈ items lv fl L, ∃ j, L.at? j = some (x.k, x.f, x.s, x.kids) ∧ x.lv = lv ∧ x.fl = fl := by
  induction L with
  | nil => intro x hx; simp [items] at hx
  | cons k f s kids rest _ ih =>
    intro x hx
    rw [items_append] at hx
    rcases List.mem_cons.1 hx with rfl | hx
    · exact ⟨0, rfl, rfl, rfl⟩
    · obtain ⟨j, h1, h2⟩ := ih x hx
      exact ⟨j + 1, h1, h2⟩
theorem rowOk_kids {x : It} {row : List It} (fl : Bool) (h : RowOk (x :: row)) (hk : x.k = 5 ∨ x.k = 6 ∨ x.k = 7) : RowOk (items (lvK x.k x.lv) fl x.kids ++ row) := by
  intro y hy
  rcases List.mem_append.1 hy with hy | hy
  · obtain ⟨d, h1, h2⟩ := h x (by simp)
    rw [rightD_is, if_neg (by omega), if_neg (by omega), if_pos hk] at h2
    have h6 := Bool.and_eq_true_iff.1 h2
    have h7 : 0 < d := by simpa using (Bool.and_eq_true_iff.1 h6.1).2
    obtain ⟨j, e1, e2, -⟩ := items_mem _ _ _ y hy
    refine ⟨d - 1, ?_, right_at _ _ h6.2 j _ _ _ _ e1⟩
    rw [e2]
    unfold lvK
    split <;> omega
  · exact h y (by simp [hy])
theorem rowOk_tail {x : It} {row : List It} (h : RowOk (x :: row)) : RowOk row := fun y hy => h y (by simp [hy])
theorem row_drop {w : World} {b off rc N : Nat} {p : It × Value} {R : List (It × Value)} (h : Vs 6 w (.slice (some ⟨b, off, none⟩) (N + 1) rc) ((p :: R).map ic)) (hN : R.length = N) :
    Vs 6 w (.slice (some (if rc = 1 then ⟨b, off, none⟩ else ⟨b, off + 6, none⟩)) N (rc - 1)) (R.map ic) := by
  obtain ⟨a, c, he, h1, h2, h3⟩ := h
  simp only [Value.slice.injEq] at he
  obtain ⟨rfl, -, rfl⟩ := he
  simp only [List.map_cons, List.length_cons, List.length_map] at h1 h3
  refine ⟨_, _, by rw [List.length_map, hN], by rw [List.length_map]; omega, by omega, fun h0 => ?_⟩
  rw [List.length_map] at h0
  obtain ⟨b', off', hab, hb, hc⟩ := h3 (by omega)
  simp only [Option.some.injEq, Addr.mk.injEq, and_true] at hab
  obtain ⟨rfl, rfl⟩ := hab
  have hne : ¬ rc = 1 := by omega
  refine ⟨b, off + 6, by rw [if_neg hne], hb, fun j hj i u hu => ?_⟩
  rw [List.length_map] at hj
  have := hc (j + 1) (by omega) i u (by simpa using hu)
  rw [show off + 6 + (j * 6 + i) = off + ((j + 1) * 6 + i) by omega]
  exact this
theorem wpl_pcG {w : World} {ops : Array Oper} {rest : List Oper} {o : Oper} {a : Act} {Q : Exit → Act → World → Prop} (hgd : o.guard = none) (s x : Operand)
    (ho : o.op = .call { callee := .builtin .append, args := #[s, x], argTypes := #[27, 27] })
    (B : Nat) (v u : Value) (l : List Pc) (p : Pc) (hs : a.eval s = v) (hown : OwnV 34 2 B w v (l.map pc2)) (hx : a.eval x = u) (hu : Vs 2 w u ([p].map pc2)) (hnn : NNv u) (hlen : l.length ≤ 1000000) (hB : B ≤ w.heap.size)
    (h : ∀ v' w', OwnV 34 2 B w' v' ((l ++ [p]).map pc2) → Below B w w' → (∀ j, j < w.heap.size → some j ≠ v.ownBlock → w'.heap[j]? = w.heap[j]?) → wpList Try.prog ops Q rest (a.put o.dst v') w') : wpList Try.prog ops Q (o :: rest) a w :=
  wpl_appendVG hgd s x ho Try.underlying27 infoP2 rfl (by decide) B v u (l.map pc2) ([p].map pc2) ((l ++ [p]).map pc2) hs hown hx hu hnn (pc2_len _) (pc2_one _) (by rw [List.length_map, List.length_map]; simp only [List.length_singleton]; omega) (by decide) hB (by simp) (fun v' w' h1 h2 h3 _ => h v' w' h1 h2 h3)
theorem ownV_lt {E sz B : Nat} {w : World} {v : Value} {l : List (List Value)} (h : OwnV E sz B w v l) : ∀ j, v.ownBlock = some j → B ≤ j ∧ j < w.heap.size := fun j hj => World.ownsRow.lt h.1 j hj
theorem xcells {w : World} {b : Nat} {c0 c1 c2 c3 c4 c5 : Value} (h : w.heap[b]? = some (Obj.cells #[c0, c1, c2, c3, c4, c5] 62 (0, 0))) :
    w.cell? ⟨b, 0, none⟩ = some c0 ∧ w.cell? ⟨b, 1, none⟩ = some c1 ∧ w.cell? ⟨b, 2, none⟩ = some c2 ∧ w.cell? ⟨b, 3, none⟩ = some c3 ∧ w.cell? ⟨b, 4, none⟩ = some c4 ∧ w.cell? ⟨b, 5, none⟩ = some c5 :=
  ⟨cell_of_row w b 0 _ _ _ h, cell_of_row w b 1 _ _ _ h, cell_of_row w b 2 _ _ _ h, cell_of_row w b 3 _ _ _ h, cell_of_row w b 4 _ _ _ h, cell_of_row w b 5 _ _ _ h⟩
theorem row_len (row : List It) : row.length ≤ rowN row := by
  induction row with
  | nil => exact Nat.le_refl _
  | cons x r ih => simp only [List.length_cons, rowN]; omega
theorem ftx_le (k : Int) (s : ByteArray) (kids : Fo) : wd (ftx k s kids) ≤ s.size + 1 + FoSz kids := by
  obtain ⟨t, ok, -, e2, -, e4⟩ := ftx_ways k s kids
  have := wd_le (ftx k s kids)
  rw [e2, bytes_size] at this
  rw [e2]
  omega
theorem behindI_le (x : It) : (behindI x).1 ≤ x.s.size + 1 + FoSz x.kids := by
  unfold behindI
  split
  · exact ftx_le _ _ _
  · exact lbD_le _ _ _
theorem afterR_le (row : List It) : (afterR row).1 ≤ rowSz row := by
  induction row with
  | nil => exact Nat.le_refl _
  | cons x r ih =>
    have := behindI_le x
    simp only [afterR, rowSz]
    unfold comb
    split
    · omega
    · simp only; omega
theorem comb_ge (acc m : Nat) (en : Bool) (X : Nat × Bool) : acc + m ≤ (comb (acc, false) (comb (m, en) X)).1 := by
  obtain ⟨x, y⟩ := X
  cases en <;> simp [comb] <;> omega
theorem row_mem (row : List It) : ∀ x ∈ row, x.s.size + 1 + FoSz x.kids ≤ rowSz row ∧ 1 + FoN x.kids ≤ rowN row := by
  induction row with
  | nil => intro x hx; simp at hx
  | cons y r ih =>
    intro x hx
    simp only [rowSz, rowN]
    rcases List.mem_cons.1 hx with rfl | hx
    · omega
    · have := ih x hx; omega
/-- What Render gives. -/
def renP (k f : Int) (s : ByteArray) (kids : Fo) (width indent : Nat) : List Pc := if rightD k f s kids 200 = true then layD width indent k f s kids else []
def RnP (w : World) (l : List Pc) (e : Ending) (w' : World) : Prop := ∃ u, e = .returned u ∧ OwnV 34 2 w.heap.size w' u (l.map pc2) ∧ Below w.heap.size w w'
theorem one_it (w : World) (k f : Int) (s : ByteArray) (kids : Fo) (v : Value) (lv : Nat) (fl : Bool) : Vs 6 (w.alloc (.cells #[.int .i64 k, .int .i64 f, .string s, v, .int .i64 (lv : Int), .bool fl] 62)) (.slice (some ⟨w.heap.size, 0, none⟩) 1 1) ([((⟨k, f, s, kids, lv, fl⟩ : It), v)].map ic) := vs_cells 6 62 w ([((⟨k, f, s, kids, lv, fl⟩ : It), v)].map ic) _ 1 rfl (by simp [ic]) rfl (by simp)
/-- A block of items. -/
def TyB (w : World) (b : Nat) : Prop := ∃ cs, w.heap[b]? = some (Obj.cells cs 62 (0, 0))
theorem TyB.lt {w : World} {b : Nat} (h : TyB w b) : b < w.heap.size := by obtain ⟨_, h⟩ := h; exact (Array.getElem?_eq_some_iff.1 h).1
theorem TyB.keep {w w' : World} {b : Nat} (h : TyB w b) (hb : Below w.heap.size w w') : TyB w' b := by obtain ⟨cs, h'⟩ := h; exact ⟨cs, by rw [hb.block b (TyB.lt ⟨cs, h'⟩)]; exact h'⟩
theorem TyB.frame {w w' : World} {b : Nat} (h : TyB w b) (hb : w'.heap[b]? = w.heap[b]?) : TyB w' b := by obtain ⟨cs, h⟩ := h; exact ⟨cs, by rw [hb]; exact h⟩
theorem Vs.frame {sz : Nat} {w w' : World} {v : Value} {l : List (List Value)} (h : Vs sz w v l) (hz : w.heap.size ≤ w'.heap.size) (hf : ∀ b off n c, v = .slice (some ⟨b, off, none⟩) n c → 0 < n → w'.heap[b]? = w.heap[b]?) : Vs sz w' v l := by
  obtain ⟨a, cap, rfl, h1, h2, h3⟩ := h
  refine ⟨a, cap, rfl, h1, h2, fun h0 => ?_⟩
  obtain ⟨b, off, rfl, hlt, hc⟩ := h3 h0
  exact ⟨b, off, rfl, Nat.lt_of_lt_of_le hlt hz, fun j hj i u hu => by
    have e := hf b off _ _ rfl h0
    unfold World.cell? at hc ⊢
    rw [e]
    exact hc j hj i u hu⟩
theorem own_pc_ne {B : Nat} {w : World} {v : Value} {l : List (List Value)} (h : OwnV 34 2 B w v l) {b : Nat} (hb : TyB w b) : some b ≠ v.ownBlock := by
  intro hj
  obtain ⟨⟨_, ⟨rfl, _⟩ | ⟨g, cap, cur, rfl, _, hh, _⟩⟩, _⟩ := h
  · simp [Value.ownBlock] at hj
  · simp [Value.ownBlock] at hj
    subst hj
    obtain ⟨cs, hb⟩ := hb
    rw [hh] at hb
    simp at hb
theorem own_tyb {B : Nat} {w : World} {v : Value} {l : List (List Value)} (h : OwnV 62 6 B w v l) : ∀ b off n c, v = .slice (some ⟨b, off, none⟩) n c → 0 < n → TyB w b := by
  intro b off n c e _
  obtain ⟨⟨_, ⟨rfl, _⟩ | ⟨g, cap, cur, rfl, _, hh, _⟩⟩, _⟩ := h
  · simp at e
  · simp only [Value.slice.injEq, Option.some.injEq, Addr.mk.injEq, and_true] at e
    obtain ⟨⟨rfl, _⟩, _⟩ := e
    exact ⟨_, hh⟩
theorem lvK_ways (k : Int) (lv : Nat) : (k = 7 ∧ lvK k lv = lv + 1) ∨ (k ≠ 7 ∧ lvK k lv = lv) := by
  unfold lvK
  by_cases h : k = 7
  · exact .inl ⟨h, by rw [if_pos h]⟩
  · exact .inr ⟨h, by rw [if_neg h]⟩
/-- On the way: the row, what is written. -/
structure RnR (w0 w : World) (width indent : Nat) (T : List Pc) (B g : Nat) (outv colv rowv : Value) (wr : World) (R : List (It × Value)) (o : List Pc) (col : Nat) : Prop where
  cv : colv = .int .i64 (col : Int)
  ov : OwnV 34 2 B wr outv (o.map pc2)
  rv : Vs 6 wr rowv (R.map ic)
  rb : ∀ b off n c, rowv = .slice (some ⟨b, off, none⟩) n c → 0 < n → TyB wr b
  ki : KidsIn w0 R
  ok : RowOk (R.map (·.1))
  sz : col + rowSz (R.map (·.1)) ≤ 40000
  sz2 : rowSz (R.map (·.1)) ≤ 36000
  gm : g = rowN (R.map (·.1))
  ln : o.length + g ≤ 100000
  tx : o ++ lay width indent (R.map (·.1)) col = T
  bl : Below B w wr
  hB : B ≤ wr.heap.size
theorem RnR.step {w0 w : World} {width indent : Nat} {T : List Pc} {B g : Nat} {outv colv rowv : Value} {wr w' : World} {x : It} {xv : Value} {R R2 : List (It × Value)} {o o2 : List Pc} {col col2 : Nat} {ov' rv' : Value} (h : RnR w0 w width indent T B g outv colv rowv wr ((x, xv) :: R) o col)
    (hlay : lay width indent (((x, xv) :: R).map (·.1)) col = o2 ++ lay width indent (R2.map (·.1)) col2) (hov : OwnV 34 2 B w' ov' ((o ++ o2).map pc2)) (hrv : Vs 6 w' rv' (R2.map ic)) (hrb : ∀ b off n c, rv' = .slice (some ⟨b, off, none⟩) n c → 0 < n → TyB w' b)
    (hki : KidsIn w0 R2) (hok : RowOk (R2.map (·.1))) (hsz : col2 + rowSz (R2.map (·.1)) ≤ 40000) (hsz2 : rowSz (R2.map (·.1)) ≤ 36000) (hg : rowN (R2.map (·.1)) + 1 ≤ g) (hl : o2.length ≤ 1) (hb : Below B wr w') :
    RnR w0 w width indent T B (rowN (R2.map (·.1))) ov' (.int .i64 (col2 : Int)) rv' w' R2 (o ++ o2) col2 ∧ rowN (R2.map (·.1)) < g :=
  ⟨{ cv := rfl, ov := hov, rv := hrv, rb := hrb, ki := hki, ok := hok, sz := hsz, sz2 := hsz2, gm := rfl, ln := by have := h.ln; rw [List.length_append]; omega, tx := by rw [List.append_assoc, ← hlay]; exact h.tx, bl := h.bl.trans hb, hB := Nat.le_trans h.hB hb.size }, hg⟩
theorem RnR.keep {w0 w : World} {width indent : Nat} {T : List Pc} {B g : Nat} {outv colv rowv : Value} {wr w' : World} {R : List (It × Value)} {o : List Pc} {col : Nat} (h : RnR w0 w width indent T B g outv colv rowv wr R o col) (hb : Below wr.heap.size wr w') : RnR w0 w width indent T B g outv colv rowv w' R o col :=
  { cv := h.cv, ov := OwnV.keep h.ov hb, rv := h.rv.keep hb, rb := fun b off n c e h0 => (h.rb b off n c e h0).keep hb, ki := h.ki, ok := h.ok, sz := h.sz, sz2 := h.sz2, gm := h.gm, ln := h.ln, tx := h.tx, bl := h.bl.trans (hb.mono h.hB), hB := Nat.le_trans h.hB hb.size }
set_option maxRecDepth 100000 in
set_option maxHeartbeats 16000000 in
theorem render_any (k f : Int) (s : ByteArray) (kids : Fo) (v : Value) (zw zi : Int) (width indent : Nat) (w : World) (hv : FoS w v kids) (hsz : s.size + 1 + FoSz kids ≤ 36000) (hN : FoN kids ≤ 99000) (hw : capZ zw 1 1000 = (width : Int)) (hi : capZ zi 0 16 = (indent : Int)) (hi2 : indent ≤ 16) (hw2 : width ≤ 1000) :
    Calls Try.prog 13 #[.agg (dv k f s v), .int .i64 zw, .int .i64 zi] w (RnP w (renP k f s kids width indent)) := by
  have hv' := hv
  obtain ⟨a, c, rfl⟩ := hv.slice
  have b0 := Lib.hid ((Below.refl w.heap.size w).alloc (Nat.le_refl _) (.cells #[.int .i64 k, .int .i64 f, .string s, .slice a kids.len c] 24))
  have RR := Lib.hid (fun W (h : Below w.heap.size w W) => refright_any k f s kids _ W (hv'.keep h))
  have C1 := Lib.hid (fun W => cap_any zw 1 1000 W)
  have C2 := Lib.hid (fun W => cap_any zi 0 16 W)
  rw [hw] at C1
  rw [hi] at C2
  have HFS := Lib.hid hv'
  obtain ⟨n, hn⟩ : ∃ m, kids.len = m := ⟨_, rfl⟩
  rw [hn] at b0 RR HFS ⊢
  unfold renP RnP
  have HSZ := Lib.hid hsz
  have HNN := Lib.hid hN
  clear hv hv' hn hw hi hsz hN
  cases hr : rightD k f s kids 200 with
  | false =>
    rw [hr] at RR
    unfold dv at RR ⊢
    clear hr
    go_enter Try.func13, Try.ntmps13
    go_wp2_with fail
    refine (RR.out _ b0.out).mono ?_
    rintro e w1 ⟨rfl, hb1⟩
    have d1 := b0.out.trans (hb1.mono b0.out.size)
    clear hb1
    go_wp2
    go_ret
    exact ⟨_, rfl, by simpa using ownV_nil _ _ _ _, d1⟩
  | true =>
    have HR := Lib.hid hr
    rw [hr] at RR
    rw [if_pos rfl]
    obtain ⟨T, hT⟩ : ∃ T, layD width indent k f s kids = T := ⟨_, rfl⟩
    have HT := Lib.hid hT
    rw [hT]
    unfold dv at RR ⊢
    clear hr hT
    go_enter Try.func13, Try.ntmps13
    go_wp2_with fail
    refine (RR.out _ b0.out).mono ?_
    rintro e w1 ⟨rfl, hb1⟩
    obtain ⟨g0, g1, g2, g3, d1⟩ := keep4 hb1
    clear hb1
    go_wp2_with fail
    refine (C1.out _).mono ?_
    rintro e w' ⟨rfl, rfl⟩
    go_wp2_with fail
    refine (C2.out _).mono ?_
    rintro e w' ⟨rfl, rfl⟩
    have D1 := Lib.hid d1
    have b2 := Lib.hid (d1.alloc d1.size (.cells #[.int .i64 k, .int .i64 f, .string s, .slice a n c, .int .i64 0, .bool false] 62))
    have VR := Lib.hid (one_it w1 k f s kids (.slice a n c) 0 false)
    obtain ⟨W2, hW2⟩ : ∃ W, w1.alloc (.cells #[.int .i64 k, .int .i64 f, .string s, .slice a n c, .int .i64 0, .bool false] 62) = W := ⟨_, rfl⟩
    have hTB : TyB W2 w1.heap.size := by rw [← hW2]; exact ⟨_, heap_alloc_new w1 _⟩
    have VR' : Hid (Vs 6 W2 (.slice (some ⟨w1.heap.size, 0, none⟩) 1 1) ([((⟨k, f, s, kids, 0, false⟩ : It), Value.slice a n c)].map ic)) := Lib.hid (by rw [← hW2]; exact VR.out)
    rw [hW2] at b2
    have HW2 := Lib.hid hW2
    have R0 : Hid (RnR w w width indent T w.heap.size (1 + FoN kids) (.slice none 0 0) (.int .i64 0) (.slice (some ⟨w1.heap.size, 0, none⟩) 1 1) W2 [((⟨k, f, s, kids, 0, false⟩ : It), Value.slice a n c)] [] 0) := Lib.hid {
      cv := rfl
      ov := ownV_nil _ _ _ _
      rv := VR'.out
      rb := fun b off n c e _ => by simp only [Value.slice.injEq, Option.some.injEq, Addr.mk.injEq, and_true] at e; rw [← e.1.1]; exact hTB
      ki := fun p hp => by simp at hp; subst hp; exact HFS.out
      ok := fun x hx => by simp at hx; subst hx; exact ⟨200, by simp, HR.out⟩
      sz := by simp [rowSz]; have := HSZ.out; omega
      sz2 := by simp [rowSz]; have := HSZ.out; omega
      gm := by simp [rowN]
      ln := by simp; have := HNN.out; omega
      tx := by rw [← HT.out]; rfl
      bl := b2.out
      hB := b2.out.size }
    clear hW2 hTB VR VR' d1
    go_upto_region 8 with fail
    rw [HW2.out]
    go_loopg [7, 8, 9] (1 + FoN kids) (fun gm ov cv rv wr => ∃ (R : List (It × Value)) (o : List Pc) (col : Nat), RnR w w width indent T w.heap.size gm ov cv rv wr R o col)
    case atStart => exact ⟨_, [], 0, R0.out⟩
    case round =>
      obtain ⟨R, o, col, hrel⟩ := hrel
      obtain rfl := hrel.cv
      have H := Lib.hid hrel
      clear hrel
      cases R with
      | nil =>
        obtain ⟨ra, rc, hrv, -⟩ := H.out.rv
        simp only [List.map_nil, List.length_nil] at hrv
        subst hrv
        have hfin := Lib.hid (show OwnV 34 2 w.heap.size wr u7 (T.map pc2) by have := H.out.tx; rw [List.map_nil, lay_nil, List.append_nil] at this; rw [← this]; exact H.out.ov)
        as_aux_lemma =>
          go_wp2
          go_ret
          exact ⟨_, rfl, hfin.out, H.out.bl⟩
      | cons p R =>
        obtain ⟨⟨xk, xf, xs, xkids, xlv, xfl⟩, xv⟩ := p
        obtain ⟨N, hN⟩ : ∃ N, R.length = N := ⟨_, rfl⟩
        obtain ⟨ra, rc, hrv, r1, r2, r3⟩ := row_get H.out.rv (n := N + 1) (by simp [hN])
        obtain ⟨b, off, rfl, hbk, p0, p1, p2, p3, p4, p5⟩ := r3 0 (by simp)
        simp only [List.getElem_cons_zero, Nat.zero_mul, Nat.add_zero] at p0 p1 p2 p3 p4 p5
        obtain ⟨ua, ucap, hus⟩ := (H.out.ki _ (List.mem_cons_self ..)).slice
        simp only at hus
        obtain ⟨un, hun⟩ : ∃ m, xkids.len = m := ⟨_, rfl⟩
        rw [hun] at hus
        subst hus
        unfold maxLen at r2
        have n0 : (0 : Int) < ((N + 1 : Nat) : Int) := by omega
        have n1 : (1 : Int) ≤ ((N + 1 : Nat) : Int) := by omega
        have n2 : ((N + 1 : Nat) : Int) ≤ (rc : Int) := by omega
        subst hrv
        clear r3 hun r1
        obtain ⟨AD, hAD⟩ : ∃ AD, (if rc = 1 then (⟨b, off, none⟩ : Addr) else ⟨b, off + 6, none⟩) = AD := ⟨_, rfl⟩
        have HAD := Lib.hid (show (if rc = 1 then some (⟨b, off, none⟩ : Addr) else some ⟨b, off + 6, none⟩) = some AD by rw [← hAD]; split <;> rfl)
        obtain ⟨RC, hRC⟩ : ∃ x, rc - 1 = x := ⟨_, rfl⟩
        have RV := Lib.hid (show Vs 6 wr (.slice (some AD) N RC) (R.map ic) by rw [← hAD, ← hRC]; exact row_drop H.out.rv hN)
        have RB := Lib.hid (show ∀ b' off' n' c', Value.slice (some AD) N RC = .slice (some ⟨b', off', none⟩) n' c' → 0 < n' → TyB wr b' from fun b' off' n' c' e h0 => by
          simp only [Value.slice.injEq, Option.some.injEq] at e
          have hb' : b' = b := by rw [← hAD] at e; split at e <;> simpa using (congrArg Addr.block e.1).symm
          rw [hb']
          exact H.out.rb b off _ _ rfl (by omega))
        clear hAD
        by_cases k1 : xk = 1
        · subst k1
          by_cases hs : xs = ⟨#[]⟩
          · subst hs
            obtain ⟨W3, hW3⟩ : ∃ W, wr.alloc (.cells #[.int .i64 1, .int .i64 xf, .string ⟨#[]⟩, .slice ua un ucap, .int .i64 (xlv : Int), .bool xfl] 62) = W := ⟨_, rfl⟩
            have B3 := Lib.hid (show Below wr.heap.size wr W3 by rw [← hW3]; exact (Below.refl _ _).alloc (Nat.le_refl _) _)
            have X3 := Lib.hid (show W3.heap[wr.heap.size]? = some (Obj.cells #[.int .i64 1, .int .i64 xf, .string ⟨#[]⟩, .slice ua un ucap, .int .i64 (xlv : Int), .bool xfl] 62 (0, 0)) by rw [← hW3]; exact heap_alloc_new wr _)
            have z3 := Lib.hid (show W3.heap.size = wr.heap.size + 1 by rw [← hW3]; simp)
            have HW3 := Lib.hid hW3
            clear hW3

            obtain ⟨c0, c1, c2, c3, c4, c5⟩ := xcells X3.out
            obtain ⟨fin, lt⟩ := RnR.step H.out (w' := W3) (R2 := R) (o2 := []) (col2 := col) (rv' := .slice (some AD) N RC) (by rw [List.map_cons, lay_cons]; simp) (by rw [List.append_nil]; exact OwnV.keep H.out.ov B3.out) (RV.out.keep B3.out) (fun b' off' n' c' e h0 => (RB.out b' off' n' c' e h0).keep B3.out) (fun p hp => H.out.ki p (by simp [hp])) (rowOk_tail H.out.ok) (by have h1 := H.out.sz; simp only [List.map_cons, rowSz] at h1; omega) (by have h2 := H.out.sz2; simp only [List.map_cons, rowSz] at h2; omega) (by have h := H.out.gm; simp only [List.map_cons, rowN] at h; omega) (by simp) (B3.out.mono H.out.hB)
            go_upto_region 11 with fail
            rw [HAD.out, HW3.out]
            as_aux_lemma =>
              go_wp2
              go_roundg (rowN (R.map (·.1)))
              case rel => exact ⟨R, _, _, fin⟩
              case measure => exact lt
          · have hsE := str_isE xs hs
            obtain ⟨W3, hW3⟩ : ∃ W, wr.alloc (.cells #[.int .i64 1, .int .i64 xf, .string xs, .slice ua un ucap, .int .i64 (xlv : Int), .bool xfl] 62) = W := ⟨_, rfl⟩
            have B3 := Lib.hid (show Below wr.heap.size wr W3 by rw [← hW3]; exact (Below.refl _ _).alloc (Nat.le_refl _) _)
            have X3 := Lib.hid (show W3.heap[wr.heap.size]? = some (Obj.cells #[.int .i64 1, .int .i64 xf, .string xs, .slice ua un ucap, .int .i64 (xlv : Int), .bool xfl] 62 (0, 0)) by rw [← hW3]; exact heap_alloc_new wr _)
            have z3 := Lib.hid (show W3.heap.size = wr.heap.size + 1 by rw [← hW3]; simp)
            have HW3 := Lib.hid hW3
            clear hW3

            obtain ⟨c0, c1, c2, c3, c4, c5⟩ := xcells X3.out
            have eS : bytes xs.data.toList = xs := by simp [bytes]
            have hxz : xs.size ≤ 36000 := by have h2 := H.out.sz2; simp only [List.map_cons, rowSz] at h2; omega
            have WR := Lib.hid (fun W => refwide_any xs.data.toList (wd xs) W (by have : xs.data.toList.length = xs.size := Array.length_toList; omega) (by rw [eS]; rfl))
            rw [eS] at WR
            have w0 := wd_le xs
            have O4 := Lib.hid (OwnV.keep (OwnV.keep H.out.ov B3.out) ((Below.refl W3.heap.size W3).alloc (Nat.le_refl _) (.cells #[.string xs, .int .i64 xf] 34)))
            have B4 := Lib.hid (B3.out.alloc B3.out.size (.cells #[.string xs, .int .i64 xf] 34))
            have ol := Lib.hid (show o.length ≤ 1000000 by have := H.out.ln; omega)
            have zc := H.out.sz
            simp only [List.map_cons, rowSz] at zc
            go_upto_region 25 with fail
            rw [HAD.out, HW3.out]
            go_wp2_with (at_builtin; refine wpl_pcG rfl _ _ rfl w.heap.size u7 (.slice (some ⟨W3.heap.size, 0, none⟩) 1 1) o (xs, xf) rfl O4.out rfl (one_pc W3 xs xf) (nnv_some _ _ _) ol.out (Nat.le_trans H.out.hB B4.out.size) ?_)
            intro v5 w5 ho5 hb5 hfr5
            have X5 : w5.heap[wr.heap.size]? = some (Obj.cells #[.int .i64 1, .int .i64 xf, .string xs, .slice ua un ucap, .int .i64 (xlv : Int), .bool xfl] 62 (0, 0)) := by
              rw [hfr5 _ (by have := z3.out; simp; omega) (fun e => by have := (ownV_lt H.out.ov _ e.symm).2; omega), ((Below.refl W3.heap.size W3).alloc (Nat.le_refl _) (.cells #[.string xs, .int .i64 xf] 34)).block _ (by have := z3.out; omega)]
              exact X3.out
            obtain ⟨e0, e1, e2, e3, e4, e5⟩ := xcells X5
            have hfr6 : ∀ b', TyB wr b' → w5.heap[b']? = wr.heap[b']? := fun b' hb' => by
              rw [hfr5 b' (by have := z3.out; have := hb'.lt; simp; omega) (own_pc_ne H.out.ov hb'), B4.out.block b' hb'.lt]
            have B5 := Lib.hid ((B4.out.mono H.out.hB).trans hb5)
            obtain ⟨fin, lt⟩ := RnR.step H.out (w' := w5) (R2 := R) (o2 := [(xs, xf)]) (col2 := col + wd xs) (rv' := .slice (some AD) N RC) (by rw [List.map_cons, lay_cons, if_pos rfl, if_neg hs]; rfl) (by simpa using ho5) (RV.out.frame B5.out.size (fun b' off' n' c' e h0 => hfr6 b' (RB.out b' off' n' c' e h0))) (fun b' off' n' c' e h0 => (RB.out b' off' n' c' e h0).frame (hfr6 b' (RB.out b' off' n' c' e h0))) (fun p hp => H.out.ki p (by simp [hp])) (rowOk_tail H.out.ok) (by omega) (by have h2 := H.out.sz2; simp only [List.map_cons, rowSz] at h2; omega) (by have h := H.out.gm; simp only [List.map_cons, rowN] at h; omega) (by simp) B5.out
            have FIN := Lib.hid fin
            clear fin ho5 hb5 hfr5 hfr6 X5 c0 c1 c2 c3 c4 c5
            have col0 : (0 : Int) ≤ col := by omega
            have col1 : (col : Int) ≤ 40000 := by omega
            obtain ⟨D, hD⟩ : ∃ D, wd xs = D := ⟨_, rfl⟩
            rw [hD] at WR w0 FIN
            have d0 : (0 : Int) ≤ D := by omega
            have d1 : (D : Int) ≤ 36000 := by omega
            clear zc w0 hxz hD eS hs
            go_wp2_with fail
            refine (WR.out _).mono ?_
            rintro e w6 ⟨rfl, hb6⟩
            have fin6 := FIN.out.keep hb6
            clear hb6
            go_wp2
            go_roundg (rowN (R.map (·.1)))
            case rel => exact ⟨R, _, _, by have e : (col : Int) + (D : Int) = ((col + D : Nat) : Int) := by omega
                                           rw [e]; exact fin6⟩
            case measure => exact lt
        · obtain ⟨d, hd1, hd2⟩ := H.out.ok _ (by simp : (⟨xk, xf, xs, xkids, xlv, xfl⟩ : It) ∈ (((⟨xk, xf, xs, xkids, xlv, xfl⟩ : It), Value.slice ua un ucap) :: R).map (·.1))
          simp only at hd1 hd2
          by_cases k2 : xk = 2 ∨ xk = 3 ∨ xk = 4
          · cases xfl with
            | false =>
              obtain ⟨W3, hW3⟩ : ∃ W, wr.alloc (.cells #[.int .i64 xk, .int .i64 xf, .string xs, .slice ua un ucap, .int .i64 (xlv : Int), .bool false] 62) = W := ⟨_, rfl⟩
              have B3 := Lib.hid (show Below wr.heap.size wr W3 by rw [← hW3]; exact (Below.refl _ _).alloc (Nat.le_refl _) _)
              have X3 := Lib.hid (show W3.heap[wr.heap.size]? = some (Obj.cells #[.int .i64 xk, .int .i64 xf, .string xs, .slice ua un ucap, .int .i64 (xlv : Int), .bool false] 62 (0, 0)) by rw [← hW3]; exact heap_alloc_new wr _)
              have z3 := Lib.hid (show W3.heap.size = wr.heap.size + 1 by rw [← hW3]; simp)
              have HW3 := Lib.hid hW3
              clear hW3

              obtain ⟨M, hM⟩ : ∃ M, xlv * indent = M := ⟨_, rfl⟩
              have hM2 : M ≤ 3200 := by rw [← hM]; exact Nat.le_trans (Nat.mul_le_mul (show xlv ≤ 200 by omega) hi2) (by decide)
              have eM : (xlv : Int) * (indent : Int) = (M : Int) := by rw [← hM]; push_cast; rfl
              have m0 : (0 : Int) ≤ M := by omega
              have m1 : (M : Int) ≤ 3200 := by omega
              have BL := Lib.hid (fun W => blanks_any M W (by omega))
              have PA := fun W => run_string_add_sum (P := Try.prog) W ⟨#[10]⟩ (bytes (List.replicate M 32)) (by rw [bytes_size]; simp; have : (⟨#[10]⟩ : ByteArray).size = 1 := rfl; omega)
              have eZ : (⟨#[10]⟩ : ByteArray) ++ bytes (List.replicate M 32) = (brk M).1 := by rw [show (⟨#[10]⟩ : ByteArray) = bytes [10] from rfl, bytes_addT]; rfl
              rw [eZ] at PA
              have eB : brk M = ((brk M).1, -1) := rfl
              obtain ⟨A0, hA0⟩ : ∃ A, bytes (List.replicate M 32) = A := ⟨_, rfl⟩
              obtain ⟨Z, hZ⟩ : ∃ A, (brk M).1 = A := ⟨_, rfl⟩
              rw [hA0] at BL PA
              rw [hZ] at PA eB
              have HEB := Lib.hid eB
              have HM := Lib.hid hM
              have K1 := Lib.hid k1
              have K2 := Lib.hid k2

              have O4 := Lib.hid (OwnV.keep (OwnV.keep H.out.ov B3.out) ((Below.refl W3.heap.size W3).alloc (Nat.le_refl _) (.cells #[.string Z, .int .i64 (-1)] 34)))
              have B4 := Lib.hid (B3.out.alloc B3.out.size (.cells #[.string Z, .int .i64 (-1)] 34))
              have ol := Lib.hid (show o.length ≤ 1000000 by have := H.out.ln; omega)

              have zl := Lib.hid (show lay width indent ((((⟨xk, xf, xs, xkids, xlv, false⟩ : It), Value.slice ua un ucap) :: R).map (·.1)) col = [((Z, -1) : Pc)] ++ lay width indent (R.map (·.1)) M by rw [List.map_cons, lay_cons]; simp only [if_neg k1, if_pos k2, hM, eB]; rfl)
              have h1z := H.out.sz2
              simp only [List.map_cons, rowSz] at h1z
              have hz1 := Lib.hid h1z
              clear hM hM2 eZ hA0 hZ eB h1z
              have f1 : (xk == 1) = false := by simpa using k1
              obtain ⟨c0, c1, c2, c3, c4, c5⟩ := xcells X3.out
              clear k1
              rcases k2 with rfl | rfl | rfl
              all_goals (
                clear hd2 c0 c1 c2 c3 f1
                go_upto_region 11 with fail
                rw [HAD.out, HW3.out]
                obtain ⟨c0, c1, c2, c3, c4', c5'⟩ := xcells X3.out
                clear c4' c5'
                go_wp2_with fail
                refine (BL.out _).mono ?_
                rintro e w' ⟨rfl, rfl⟩
                go_wp2_with (at_builtin; refine wpl_pcG rfl _ _ rfl w.heap.size u7 (.slice (some ⟨W3.heap.size, 0, none⟩) 1 1) o (Z, -1) rfl O4.out rfl (one_pc W3 Z (-1)) (nnv_some _ _ _) ol.out (Nat.le_trans H.out.hB B4.out.size) ?_)

                intro v5 w5 ho5 hb5 hfr5
                have hfr6 : ∀ b', TyB wr b' → w5.heap[b']? = wr.heap[b']? := fun b' hb' => by
                  rw [hfr5 b' (by have := z3.out; have := hb'.lt; simp; omega) (own_pc_ne H.out.ov hb'), B4.out.block b' hb'.lt]
                have B5 := Lib.hid ((B4.out.mono H.out.hB).trans hb5)

                obtain ⟨fin, lt⟩ := RnR.step H.out (w' := w5) (R2 := R) (o2 := [((Z, -1) : Pc)]) (col2 := M) (rv' := .slice (some AD) N RC) zl.out (by simpa using ho5) (RV.out.frame B5.out.size (fun b' off' n' c' e h0 => hfr6 b' (RB.out b' off' n' c' e h0))) (fun b' off' n' c' e h0 => (RB.out b' off' n' c' e h0).frame (hfr6 b' (RB.out b' off' n' c' e h0))) (fun p hp => H.out.ki p (by simp [hp])) (rowOk_tail H.out.ok) (by have := hz1.out; omega) (by have := hz1.out; omega) (by have h := H.out.gm; simp only [List.map_cons, rowN] at h; omega) (by simp) B5.out
                clear hb5 hfr5 hfr6 ho5
                go_wp2
                go_roundg (rowN (R.map (·.1)))
                case rel => exact ⟨R, _, _, fin⟩
                case measure => exact lt)
            | true =>
              by_cases k3 : xk = 2
              · subst k3
                obtain ⟨W3, hW3⟩ : ∃ W, wr.alloc (.cells #[.int .i64 2, .int .i64 xf, .string xs, .slice ua un ucap, .int .i64 (xlv : Int), .bool true] 62) = W := ⟨_, rfl⟩
                have B3 := Lib.hid (show Below wr.heap.size wr W3 by rw [← hW3]; exact (Below.refl _ _).alloc (Nat.le_refl _) _)
                have X3 := Lib.hid (show W3.heap[wr.heap.size]? = some (Obj.cells #[.int .i64 2, .int .i64 xf, .string xs, .slice ua un ucap, .int .i64 (xlv : Int), .bool true] 62 (0, 0)) by rw [← hW3]; exact heap_alloc_new wr _)
                have z3 := Lib.hid (show W3.heap.size = wr.heap.size + 1 by rw [← hW3]; simp)
                have HW3 := Lib.hid hW3
                clear hW3

                have zl := Lib.hid (show lay width indent ((((⟨2, xf, xs, xkids, xlv, true⟩ : It), Value.slice ua un ucap) :: R).map (·.1)) col = [((⟨#[32]⟩, -1) : Pc)] ++ lay width indent (R.map (·.1)) (col + 1) by rw [List.map_cons, lay_cons]; rfl)

                have O4 := Lib.hid (OwnV.keep (OwnV.keep H.out.ov B3.out) ((Below.refl W3.heap.size W3).alloc (Nat.le_refl _) (.cells #[.string ⟨#[32]⟩, .int .i64 (-1)] 34)))
                have B4 := Lib.hid (B3.out.alloc B3.out.size (.cells #[.string ⟨#[32]⟩, .int .i64 (-1)] 34))
                have ol := Lib.hid (show o.length ≤ 1000000 by have := H.out.ln; omega)

                have hz := H.out.sz
                simp only [List.map_cons, rowSz] at hz
                have col0 : (0 : Int) ≤ col := by omega
                have col1 : (col : Int) ≤ 40000 := by omega
                have hz1 := Lib.hid hz
                obtain ⟨c0, c1, c2, c3, c4, c5⟩ := xcells X3.out
                clear hd2 k2 k1 hz
                go_upto_region 11 with fail
                rw [HAD.out, HW3.out]
                go_wp2_with (at_builtin; refine wpl_pcG rfl _ _ rfl w.heap.size u7 (.slice (some ⟨W3.heap.size, 0, none⟩) 1 1) o (⟨#[32]⟩, -1) rfl O4.out rfl (one_pc W3 ⟨#[32]⟩ (-1)) (nnv_some _ _ _) ol.out (Nat.le_trans H.out.hB B4.out.size) ?_)

                intro v5 w5 ho5 hb5 hfr5
                have hfr6 : ∀ b', TyB wr b' → w5.heap[b']? = wr.heap[b']? := fun b' hb' => by
                  rw [hfr5 b' (by have := z3.out; have := hb'.lt; simp; omega) (own_pc_ne H.out.ov hb'), B4.out.block b' hb'.lt]
                have B5 := Lib.hid ((B4.out.mono H.out.hB).trans hb5)

                obtain ⟨fin, lt⟩ := RnR.step H.out (w' := w5) (R2 := R) (o2 := [((⟨#[32]⟩, -1) : Pc)]) (col2 := col + 1) (rv' := .slice (some AD) N RC) zl.out (by simpa using ho5) (RV.out.frame B5.out.size (fun b' off' n' c' e h0 => hfr6 b' (RB.out b' off' n' c' e h0))) (fun b' off' n' c' e h0 => (RB.out b' off' n' c' e h0).frame (hfr6 b' (RB.out b' off' n' c' e h0))) (fun p hp => H.out.ki p (by simp [hp])) (rowOk_tail H.out.ok) (by have := hz1.out; omega) (by have h2 := H.out.sz2; simp only [List.map_cons, rowSz] at h2; omega) (by have h := H.out.gm; simp only [List.map_cons, rowN] at h; omega) (by simp) B5.out
                clear hb5 hfr5 hfr6 ho5
                go_wp2
                go_roundg (rowN (R.map (·.1)))
                case rel => exact ⟨R, _, _, by have e : (col : Int) + 1 = ((col + 1 : Nat) : Int) := by omega
                                               rw [e]; exact fin⟩
                case measure => exact lt
              · have f2 : (xk == 2) = false := by simpa using k3
                obtain ⟨W3, hW3⟩ : ∃ W, wr.alloc (.cells #[.int .i64 xk, .int .i64 xf, .string xs, .slice ua un ucap, .int .i64 (xlv : Int), .bool true] 62) = W := ⟨_, rfl⟩
                have B3 := Lib.hid (show Below wr.heap.size wr W3 by rw [← hW3]; exact (Below.refl _ _).alloc (Nat.le_refl _) _)
                have X3 := Lib.hid (show W3.heap[wr.heap.size]? = some (Obj.cells #[.int .i64 xk, .int .i64 xf, .string xs, .slice ua un ucap, .int .i64 (xlv : Int), .bool true] 62 (0, 0)) by rw [← hW3]; exact heap_alloc_new wr _)
                have z3 := Lib.hid (show W3.heap.size = wr.heap.size + 1 by rw [← hW3]; simp)
                have HW3 := Lib.hid hW3
                clear hW3

                have zl := Lib.hid (show lay width indent ((((⟨xk, xf, xs, xkids, xlv, true⟩ : It), Value.slice ua un ucap) :: R).map (·.1)) col = [] ++ lay width indent (R.map (·.1)) col by rw [List.map_cons, lay_cons]; simp only [if_neg k1, if_pos k2, if_neg k3]; rfl)
                obtain ⟨fin, lt⟩ := RnR.step H.out (w' := W3) (R2 := R) (o2 := []) (col2 := col) (rv' := .slice (some AD) N RC) zl.out (by rw [List.append_nil]; exact OwnV.keep H.out.ov B3.out) (RV.out.keep B3.out) (fun b' off' n' c' e h0 => (RB.out b' off' n' c' e h0).keep B3.out) (fun p hp => H.out.ki p (by simp [hp])) (rowOk_tail H.out.ok) (by have h1 := H.out.sz; simp only [List.map_cons, rowSz] at h1; omega) (by have h2 := H.out.sz2; simp only [List.map_cons, rowSz] at h2; omega) (by have h := H.out.gm; simp only [List.map_cons, rowN] at h; omega) (by simp) (B3.out.mono H.out.hB)
                have FIN := Lib.hid fin
                have LT := Lib.hid lt
                clear fin lt hd2 k1 f2
                have k4 : xk = 3 ∨ xk = 4 := by omega
                clear k2 k3
                rcases k4 with rfl | rfl
                all_goals (
                  obtain ⟨c0, c1, c2, c3, c4, c5⟩ := xcells X3.out
                  go_upto_region 11 with fail
                  rw [HAD.out, HW3.out]
                  go_wp2
                  go_roundg (rowN (R.map (·.1)))
                  case rel => exact ⟨R, _, _, FIN.out⟩
                  case measure => exact LT.out)
          · have h5 : xk = 5 ∨ xk = 6 ∨ xk = 7 := by
              rw [rightD_is, if_neg k1, if_neg k2] at hd2
              by_cases h : xk = 5 ∨ xk = 6 ∨ xk = 7
              · exact h
              · rw [if_neg h] at hd2; exact absurd hd2 (by simp)
            have f1 : (xk == 1) = false := by simpa using k1
            have f2 : (xk == 2) = false := by simp; omega
            have f3 : (xk == 3) = false := by simp; omega
            have f4 : (xk == 4) = false := by simp; omega
            by_cases h6 : xk = 6 ∧ xfl = false
            · obtain ⟨rfl, rfl⟩ := h6
              obtain ⟨W3, hW3⟩ : ∃ W, wr.alloc (.cells #[.int .i64 6, .int .i64 xf, .string xs, .slice ua un ucap, .int .i64 (xlv : Int), .bool false] 62) = W := ⟨_, rfl⟩
              have B3 := Lib.hid (show Below wr.heap.size wr W3 by rw [← hW3]; exact (Below.refl _ _).alloc (Nat.le_refl _) _)
              have X3 := Lib.hid (show W3.heap[wr.heap.size]? = some (Obj.cells #[.int .i64 6, .int .i64 xf, .string xs, .slice ua un ucap, .int .i64 (xlv : Int), .bool false] 62 (0, 0)) by rw [← hW3]; exact heap_alloc_new wr _)
              have z3 := Lib.hid (show W3.heap.size = wr.heap.size + 1 by rw [← hW3]; simp)
              have HW3 := Lib.hid hW3
              clear hW3

              obtain ⟨FV, flp⟩ : ∃ b, flOf width col ⟨6, xf, xs, xkids, xlv, false⟩ (R.map (·.1)) = b := ⟨_, rfl⟩

              have KD := Lib.hid (fun W (h : Below wr.heap.size wr W) => kids_lv 6 xf xs xkids xlv (lvK 6 xlv) FV (.slice ua un ucap) w W (H.out.ki _ (List.mem_cons_self ..)) (((H.out.bl.trans (h.mono H.out.hB)))) (lvK_ways 6 xlv) (by omega) (by have h := H.out.gm; have h3 := H.out.ln; have h4 := fo_len_n xkids; simp only [List.map_cons, rowN] at h; omega))

              have hz2 := H.out.sz2
              have hz1 := H.out.sz
              simp only [List.map_cons, rowSz] at hz1 hz2
              have FLC := Lib.hid (fun W (h : Below wr.heap.size wr W) => rfl_any 6 xf xs xkids d W (.slice ua un ucap) ((H.out.ki _ (List.mem_cons_self ..)).keep (H.out.bl.trans (h.mono H.out.hB))) hd2 (by omega))
              obtain ⟨t, ok, e1, e2, e3, e4⟩ := ftx_ways 6 xs xkids
              have WRt := Lib.hid (fun W => refwide_any t (wd (bytes t)) W (by omega) rfl)
              have hD2 := wd_le (bytes t)
              rw [bytes_size] at hD2
              have AFL := afterR_le (R.map (·.1))
              obtain ⟨AF, hAF⟩ : ∃ x, afterR (R.map (·.1)) = x := ⟨_, rfl⟩
              have hFV : FV = (ok && decide (col + wd (bytes t) + AF.1 ≤ width)) := by
                rw [← flp, ← hAF]
                unfold flOf fitsI
                simp only [Bool.false_or, decide_true, Bool.true_and]
                rw [e2, e3]
              rw [e1] at FLC
              rw [hAF] at AFL
              obtain ⟨SX, hSX⟩ : ∃ x, bytes t = x := ⟨_, rfl⟩
              rw [hSX] at FLC WRt hD2 hFV
              obtain ⟨D, hD⟩ : ∃ x, wd SX = x := ⟨_, rfl⟩
              rw [hD] at WRt hD2 hFV
              have HFV := Lib.hid hFV
              have HAF := Lib.hid hAF
              have HAFL := Lib.hid (show AF.1 ≤ 36000 by omega)
              have d0 : (0 : Int) ≤ D := by omega
              have d1 : (D : Int) ≤ 36000 := by omega
              have col0 : (0 : Int) ≤ col := by omega
              have col1 : (col : Int) ≤ 40000 := by omega
              obtain ⟨c0, c1, c2, c3, c4, c5⟩ := xcells X3.out
              unfold dv at FLC
              clear hd2 hz1 hz2 e1 e2 e3 e4 hD2 hFV hAF hSX hD AFL f1 f2 f3 f4
              go_upto_region 13 with fail
              rw [HAD.out, HW3.out]
              go_wp2_with fail
              refine (FLC.out _ B3.out).mono ?_
              rintro e w5 ⟨rfl, hb5⟩
              have B5 := Lib.hid (B3.out.trans (hb5.mono B3.out.size))
              have X5 := Lib.hid ((hb5.block wr.heap.size (by have := z3.out; omega)).trans X3.out)
              have S5 := Lib.hid (show wr.heap.size < w5.heap.size by have := z3.out; have := hb5.size; omega)
              clear hb5 c0 c1 c2 c3 c4 c5
              go_wp2_with fail
              refine (WRt.out _).mono ?_
              rintro e w6 ⟨rfl, hb6⟩
              have B6 := Lib.hid (B5.out.trans (hb6.mono B5.out.size))
              have X6 := Lib.hid ((hb6.block wr.heap.size S5.out).trans X5.out)
              have S6 := Lib.hid (show wr.heap.size < w6.heap.size by have := S5.out; have := hb6.size; omega)
              clear hb6
              cases ok with
              | false =>
                obtain rfl : FV = false := by rw [HFV.out]; rfl
                obtain ⟨c0, c1, c2, c3, c4, c5⟩ := xcells X6.out
                have hfz0 : w6.frozen? ⟨wr.heap.size, 5, none⟩ = false := frozen_of_row w6 wr.heap.size 5 _ _ X6.out
                go_wp2
                go_loopw [13, 14, 15, 16] (fun nv ivv _ _ wx => ivv = .int .i64 0 ∧ nv = .int .i64 ((col : Int) + (D : Int)) ∧ w6 = wx) (fun _ _ _ _ _ => 0)
                case atStart => exact ⟨rfl, rfl, rfl⟩
                case round =>
                  obtain ⟨rfl, rfl, rfl⟩ := hrel
                  by_cases hN0 : N = 0
                  · have hN1 : ¬ (0 : Int) < N := by omega
                    clear hN0
                    obtain ⟨y0, y1, y2, y3, y4, y5⟩ := xcells X6.out
                    have hfz : w6.frozen? ⟨wr.heap.size, 5, none⟩ = false := frozen_of_row w6 wr.heap.size 5 _ _ X6.out
                    obtain ⟨W7, hW7⟩ : ∃ W, w6.setCell ⟨wr.heap.size, 5, none⟩ (.bool false) = W := ⟨_, rfl⟩
                    have B7 := Lib.hid (show Below wr.heap.size wr W7 by rw [← hW7]; exact (B6.out).setCell (Nat.le_refl _) _)
                    have X7 := Lib.hid (show W7.heap[wr.heap.size]? = some (Obj.cells #[.int .i64 6, .int .i64 xf, .string xs, .slice ua un ucap, .int .i64 (xlv : Int), .bool false] 62 (0, 0)) by rw [← hW7]; exact heap_setCell_same w6 wr.heap.size 5 _ _ _ X6.out)
                    have HW7 := Lib.hid hW7
                    clear hW7
                    go_upto_region 22 with fail
                    rw [HW7.out]
                    clear y0 y1 y2 y3 y4 y5 hfz

                    obtain ⟨q0, q1, q2, q3, q4, q5⟩ := xcells X7.out
                    go_wp2_with fail
                    refine (KD.out _ B7.out).mono ?_
                    rintro e w8 ⟨u8, R8, rfl, hRm, hki8, ho8, hb8⟩
                    clear q0 q1 q2 q3 q4 q5
                    have B8 := Lib.hid (B7.out.trans (hb8.mono B7.out.size))
                    have HO8 := Lib.hid ho8
                    have ZB := Lib.hid hb8.size
                    have LEN8 := Lib.hid (show R8.length + R.length ≤ 200000 by
                      have h := H.out.gm
                      have h3 := H.out.ln
                      have h4 := fo_len_n xkids
                      have h5 := congrArg List.length hRm
                      have h6 := row_len (R.map (·.1))
                      rw [List.length_map, items_len] at h5
                      rw [List.length_map] at h6
                      simp only [List.map_cons, rowN] at h
                      omega)
                    have KIR := Lib.hid (show KidsIn w R from fun p hp => H.out.ki p (by simp [hp]))
                    have KI8 := Lib.hid (show KidsIn w (R8 ++ R) from fun p hp => by
                      rcases List.mem_append.1 hp with hp | hp
                      · exact hki8 p hp
                      · exact KIR.out p hp)
                    have ZL := Lib.hid (show lay width indent ((((⟨6, xf, xs, xkids, xlv, false⟩ : It), Value.slice ua un ucap) :: R).map (·.1)) col = [] ++ lay width indent ((R8 ++ R).map (·.1)) col by
                      rw [List.map_cons, lay_cons, List.map_append, hRm]
                      simp only [if_neg k1, if_neg k2]
                      rw [flp]
                      rfl)
                    have OK8 := Lib.hid (show RowOk ((R8 ++ R).map (·.1)) by
                      rw [List.map_append, hRm]
                      exact rowOk_kids (x := ⟨6, xf, xs, xkids, xlv, false⟩) _ H.out.ok (.inr (.inl rfl)))
                    have SZ8 := Lib.hid (show rowSz ((R8 ++ R).map (·.1)) ≤ rowSz ((((⟨6, xf, xs, xkids, xlv, false⟩ : It), Value.slice ua un ucap) :: R).map (·.1)) by
                      rw [List.map_append, hRm, rowSz_append, rowSz_items]
                      simp only [List.map_cons, rowSz]
                      omega)
                    have GM8 := Lib.hid (show rowN ((R8 ++ R).map (·.1)) + 1 ≤ gk by
                      rw [List.map_append, hRm, rowN_append, rowN_items]
                      have h := H.out.gm
                      simp only [List.map_cons, rowN] at h
                      omega)
                    clear hRm hki8 ho8 hb8
                    go_wp2_with (at_builtin; refine wpl_appendV rfl _ _ rfl Try.underlying63 infoIt rfl (by decide) W7.heap.size u8 (.slice (some AD) N RC) (R8.map ic) (R.map ic) ((R8 ++ R).map ic) rfl HO8.out rfl (RV.out.keep B8.out) (nnv_some _ _ _) (ic_six R) (ic_one w R KIR.out) (by rw [List.length_map, List.length_map]; have := LEN8.out; omega) (by decide) ZB.out (by simp) ?_)
                    intro v9 w9 ho9 hb9
                    have B9 := Lib.hid (B8.out.trans (hb9.mono B7.out.size))
                    have ho9' : OwnV 62 6 W7.heap.size w9 v9 ((R8 ++ R).map ic) := by simpa using ho9
                    obtain ⟨fin, lt⟩ := RnR.step H.out (w' := w9) (R2 := R8 ++ R) (o2 := []) (col2 := col) (rv' := v9) ZL.out (by rw [List.append_nil]; exact OwnV.keep H.out.ov B9.out) (OwnV.vs ho9') (own_tyb ho9') KI8.out OK8.out (by have h1 := H.out.sz; have := SZ8.out; omega) (Nat.le_trans SZ8.out H.out.sz2) GM8.out (by simp) (B9.out.mono H.out.hB)
                    clear ho9 hb9 ho9'
                    go_wp2
                    go_roundg (rowN ((R8 ++ R).map (·.1)))
                    case rel => exact ⟨R8 ++ R, _, _, fin⟩
                    case measure => exact lt

                  · have hN1 : (0 : Int) < N := by omega
                    obtain ⟨y0, y1, y2, y3, y4, y5⟩ := xcells X6.out
                    have hfz : w6.frozen? ⟨wr.heap.size, 5, none⟩ = false := frozen_of_row w6 wr.heap.size 5 _ _ X6.out
                    obtain ⟨W7, hW7⟩ : ∃ W, w6.setCell ⟨wr.heap.size, 5, none⟩ (.bool false) = W := ⟨_, rfl⟩
                    have B7 := Lib.hid (show Below wr.heap.size wr W7 by rw [← hW7]; exact (B6.out).setCell (Nat.le_refl _) _)
                    have X7 := Lib.hid (show W7.heap[wr.heap.size]? = some (Obj.cells #[.int .i64 6, .int .i64 xf, .string xs, .slice ua un ucap, .int .i64 (xlv : Int), .bool false] 62 (0, 0)) by rw [← hW7]; exact heap_setCell_same w6 wr.heap.size 5 _ _ _ X6.out)
                    have HW7 := Lib.hid hW7
                    clear hW7
                    go_upto_region 22 with fail
                    rw [HW7.out]
                    clear y0 y1 y2 y3 y4 y5 hfz

                    obtain ⟨q0, q1, q2, q3, q4, q5⟩ := xcells X7.out
                    go_wp2_with fail
                    refine (KD.out _ B7.out).mono ?_
                    rintro e w8 ⟨u8, R8, rfl, hRm, hki8, ho8, hb8⟩
                    clear q0 q1 q2 q3 q4 q5
                    have B8 := Lib.hid (B7.out.trans (hb8.mono B7.out.size))
                    have HO8 := Lib.hid ho8
                    have ZB := Lib.hid hb8.size
                    have LEN8 := Lib.hid (show R8.length + R.length ≤ 200000 by
                      have h := H.out.gm
                      have h3 := H.out.ln
                      have h4 := fo_len_n xkids
                      have h5 := congrArg List.length hRm
                      have h6 := row_len (R.map (·.1))
                      rw [List.length_map, items_len] at h5
                      rw [List.length_map] at h6
                      simp only [List.map_cons, rowN] at h
                      omega)
                    have KIR := Lib.hid (show KidsIn w R from fun p hp => H.out.ki p (by simp [hp]))
                    have KI8 := Lib.hid (show KidsIn w (R8 ++ R) from fun p hp => by
                      rcases List.mem_append.1 hp with hp | hp
                      · exact hki8 p hp
                      · exact KIR.out p hp)
                    have ZL := Lib.hid (show lay width indent ((((⟨6, xf, xs, xkids, xlv, false⟩ : It), Value.slice ua un ucap) :: R).map (·.1)) col = [] ++ lay width indent ((R8 ++ R).map (·.1)) col by
                      rw [List.map_cons, lay_cons, List.map_append, hRm]
                      simp only [if_neg k1, if_neg k2]
                      rw [flp]
                      rfl)
                    have OK8 := Lib.hid (show RowOk ((R8 ++ R).map (·.1)) by
                      rw [List.map_append, hRm]
                      exact rowOk_kids (x := ⟨6, xf, xs, xkids, xlv, false⟩) _ H.out.ok (.inr (.inl rfl)))
                    have SZ8 := Lib.hid (show rowSz ((R8 ++ R).map (·.1)) ≤ rowSz ((((⟨6, xf, xs, xkids, xlv, false⟩ : It), Value.slice ua un ucap) :: R).map (·.1)) by
                      rw [List.map_append, hRm, rowSz_append, rowSz_items]
                      simp only [List.map_cons, rowSz]
                      omega)
                    have GM8 := Lib.hid (show rowN ((R8 ++ R).map (·.1)) + 1 ≤ gk by
                      rw [List.map_append, hRm, rowN_append, rowN_items]
                      have h := H.out.gm
                      simp only [List.map_cons, rowN] at h
                      omega)
                    clear hRm hki8 ho8 hb8
                    go_wp2_with (at_builtin; refine wpl_appendV rfl _ _ rfl Try.underlying63 infoIt rfl (by decide) W7.heap.size u8 (.slice (some AD) N RC) (R8.map ic) (R.map ic) ((R8 ++ R).map ic) rfl HO8.out rfl (RV.out.keep B8.out) (nnv_some _ _ _) (ic_six R) (ic_one w R KIR.out) (by rw [List.length_map, List.length_map]; have := LEN8.out; omega) (by decide) ZB.out (by simp) ?_)
                    intro v9 w9 ho9 hb9
                    have B9 := Lib.hid (B8.out.trans (hb9.mono B7.out.size))
                    have ho9' : OwnV 62 6 W7.heap.size w9 v9 ((R8 ++ R).map ic) := by simpa using ho9
                    obtain ⟨fin, lt⟩ := RnR.step H.out (w' := w9) (R2 := R8 ++ R) (o2 := []) (col2 := col) (rv' := v9) ZL.out (by rw [List.append_nil]; exact OwnV.keep H.out.ov B9.out) (OwnV.vs ho9') (own_tyb ho9') KI8.out OK8.out (by have h1 := H.out.sz; have := SZ8.out; omega) (Nat.le_trans SZ8.out H.out.sz2) GM8.out (by simp) (B9.out.mono H.out.hB)
                    clear ho9 hb9 ho9'
                    go_wp2
                    go_roundg (rowN ((R8 ++ R).map (·.1)))
                    case rel => exact ⟨R8 ++ R, _, _, fin⟩
                    case measure => exact lt

              | true =>
                obtain ⟨wo, rfl⟩ : ∃ x, x = wr := ⟨_, rfl⟩
                simp only [Bool.true_and] at HFV
                obtain ⟨ra', rc', hAD', -, -, r3'⟩ := row_get RV.out hN
                simp only [Value.slice.injEq, true_and] at hAD'
                obtain ⟨rfl, rfl⟩ := hAD'
                have R3 := Lib.hid r3'
                have HNR := Lib.hid hN
                have nn0 : (0 : Int) ≤ N := by omega
                have nn1 : (N : Int) ≤ 1000000 := by
                  have h := H.out.gm
                  have h3 := H.out.ln
                  have h6 := row_len (R.map (·.1))
                  rw [List.length_map] at h6
                  simp only [List.map_cons, rowN] at h
                  omega
                clear r3' hN
                go_wp2
                go_loopw [13, 14, 15, 16] (fun nv ivv _ _ wx => ∃ (i acc NV : Nat), ivv = .int .i64 (i : Int) ∧ i ≤ N ∧ nv = .int .i64 (NV : Int) ∧ NV = col + D + acc ∧ comb (acc, false) (afterR ((R.map (·.1)).drop i)) = AF ∧ Below w6.heap.size w6 wx) (fun _ ivv _ _ _ => N - (intOf ivv).toNat)
                case atStart => exact ⟨0, 0, col + D, rfl, by omega, by first | rfl | (congr 1; push_cast; rfl) | simp, by omega, by rw [List.drop_zero, HAF.out]; obtain ⟨x, y⟩ := AF; simp [comb], Below.refl _ _⟩
                case round =>
                  obtain ⟨i, acc, NV, rfl, hi, rfl, hNV, hac, hb⟩ := hrel
                  have HX := Lib.hid (B6.out.trans (hb.mono B6.out.size))
                  have XX := Lib.hid ((hb.block wo.heap.size S6.out).trans X6.out)
                  have HBX := Lib.hid hb
                  clear hb
                  by_cases hlt : i < N
                  · have hiR : i < R.length := by rw [HNR.out]; exact hlt
                    obtain ⟨b', off', eAD, hbk', p0, p1, p2, p3, p4, p5⟩ := R3.out i hiR
                    obtain rfl : AD = ⟨b', off', none⟩ := by simpa using eAD
                    have hdr : (R.map (·.1)).drop i = (R[i]).1 :: (R.map (·.1)).drop (i + 1) := by
                      rw [List.drop_eq_getElem_cons (by simpa using hiR)]
                      simp
                    rw [hdr] at hac
                    have hmem : R[i] ∈ R := List.getElem_mem hiR
                    have hki := H.out.ki (R[i]) (List.mem_cons_of_mem _ hmem)
                    obtain ⟨dy, hdy1, hdy2⟩ := H.out.ok (R[i]).1 (by rw [List.map_cons]; exact List.mem_cons_of_mem _ (List.mem_map_of_mem hmem))
                    have hsm := row_mem (R.map (·.1)) (R[i]).1 (List.mem_map_of_mem hmem)
                    have hsz := H.out.sz2
                    have hgm := H.out.gm
                    have hln := H.out.ln
                    simp only [List.map_cons, rowSz, rowN] at hsz hgm
                    obtain ⟨⟨⟨yk, yf, ys, ykids, ylv, yfl⟩, yv⟩, hy⟩ : ∃ p, R[i] = p := ⟨_, rfl⟩
                    rw [hy] at p0 p1 p2 p3 p4 p5 hac hki hdy1 hdy2 hsm
                    simp only at p0 p1 p2 p3 p4 p5 hki hdy1 hdy2 hsm
                    have R1 := Lib.hid (bh_any yk yf ys ykids wr yv ylv dy yfl (by omega) (hki.keep (H.out.bl.trans (HX.out.mono H.out.hB))) hdy2 (by omega) (by omega))
                    obtain ⟨⟨m, en⟩, hme⟩ : ∃ x, behindI ⟨yk, yf, ys, ykids, ylv, yfl⟩ = x := ⟨_, rfl⟩
                    simp only [afterR] at hac
                    rw [hme] at R1 hac
                    simp only at R1
                    have hlm := comb_ge acc m en (afterR ((R.map (·.1)).drop (i + 1)))
                    rw [hac] at hlm
                    obtain ⟨za, zc, hzs⟩ := hki.slice
                    obtain ⟨zn, hzn⟩ : ∃ x, ykids.len = x := ⟨_, rfl⟩
                    rw [hzn] at hzs
                    subst hzs
                    have q0 := (HX.out.cell (p := ⟨b', off' + i * 6, none⟩) hbk').trans p0
                    have q1 := (HX.out.cell (p := ⟨b', off' + i * 6 + 1, none⟩) hbk').trans p1
                    have q2 := (HX.out.cell (p := ⟨b', off' + i * 6 + 2, none⟩) hbk').trans p2
                    have q3 := (HX.out.cell (p := ⟨b', off' + i * 6 + 3, none⟩) hbk').trans p3
                    have q4 := (HX.out.cell (p := ⟨b', off' + i * 6 + 4, none⟩) hbk').trans p4
                    have q5 := (HX.out.cell (p := ⟨b', off' + i * 6 + 5, none⟩) hbk').trans p5
                    unfold iv at R1
                    have i0 : (0 : Int) ≤ i := by omega
                    have i1 : (i : Int) < N := by omega
                    have m0 : (0 : Int) ≤ m := by omega
                    have AFL := HAFL.out
                    have m1 : (m : Int) ≤ 36000 := by omega
                    have nv0 : (0 : Int) ≤ NV := by omega
                    have nv1 : (NV : Int) ≤ 200000 := by omega
                    have HAC := Lib.hid hac
                    have HLM := Lib.hid hlm
                    have HNV := Lib.hid hNV
                    clear p0 p1 p2 p3 p4 p5 eAD hdr hmem hki hdy1 hdy2 hsm hsz hgm hln hy hme hzn hac hlm hNV AFL hiR hbk'
                    cases en with
                    | true =>
                      have eFV : decide ((NV : Int) + (m : Int) ≤ (width : Int)) = FV := by
                        have h := HAC.out
                        have e : AF.1 = acc + m := by rw [← h]; simp [comb]
                        rw [HFV.out, e]
                        apply decide_eq_decide.2
                        have := HNV.out
                        omega
                      have eFV2 : decide (NV + m ≤ width) = FV := by rw [← eFV]; apply decide_eq_decide.2; omega
                      go_wp2_with fail
                      refine (R1.out).mono ?_
                      rintro e w9 ⟨rfl, hb9⟩
                      have B6' := Lib.hid (HX.out.trans (hb9.mono HX.out.size))
                      have X6' := Lib.hid ((hb9.block wo.heap.size (by have := S6.out; have := HBX.out.size; omega)).trans XX.out)
                      clear hb9 q0 q1 q2 q3 q4 q5
                      obtain ⟨y0, y1, y2, y3, y4, y5⟩ := xcells X6'.out
                      have hfz : w9.frozen? ⟨wo.heap.size, 5, none⟩ = false := frozen_of_row w9 wo.heap.size 5 _ _ X6'.out
                      obtain ⟨W7, hW7⟩ : ∃ W, w9.setCell ⟨wo.heap.size, 5, none⟩ (.bool FV) = W := ⟨_, rfl⟩
                      have B7 := Lib.hid (show Below wo.heap.size wo W7 by rw [← hW7]; exact (B6'.out).setCell (Nat.le_refl _) _)
                      have X7 := Lib.hid (show W7.heap[wo.heap.size]? = some (Obj.cells #[.int .i64 6, .int .i64 xf, .string xs, .slice ua un ucap, .int .i64 (xlv : Int), .bool FV] 62 (0, 0)) by rw [← hW7]; exact heap_setCell_same w9 wo.heap.size 5 _ _ _ X6'.out)
                      have HW7 := Lib.hid hW7
                      clear hW7
                      go_upto_region 22 with fail
                      rw [HW7.out]
                      clear y0 y1 y2 y3 y4 y5 hfz
                      clear eFV eFV2
                      obtain ⟨q0, q1, q2, q3, q4, q5⟩ := xcells X7.out
                      go_wp2_with fail
                      refine (KD.out _ B7.out).mono ?_
                      rintro e w8 ⟨u8, R8, rfl, hRm, hki8, ho8, hb8⟩
                      clear q0 q1 q2 q3 q4 q5
                      have B8 := Lib.hid (B7.out.trans (hb8.mono B7.out.size))
                      have HO8 := Lib.hid ho8
                      have ZB := Lib.hid hb8.size
                      have LEN8 := Lib.hid (show R8.length + R.length ≤ 200000 by
                        have h := H.out.gm
                        have h3 := H.out.ln
                        have h4 := fo_len_n xkids
                        have h5 := congrArg List.length hRm
                        have h6 := row_len (R.map (·.1))
                        rw [List.length_map, items_len] at h5
                        rw [List.length_map] at h6
                        simp only [List.map_cons, rowN] at h
                        omega)
                      have KIR := Lib.hid (show KidsIn w R from fun p hp => H.out.ki p (by simp [hp]))
                      have KI8 := Lib.hid (show KidsIn w (R8 ++ R) from fun p hp => by
                        rcases List.mem_append.1 hp with hp | hp
                        · exact hki8 p hp
                        · exact KIR.out p hp)
                      have ZL := Lib.hid (show lay width indent ((((⟨6, xf, xs, xkids, xlv, false⟩ : It), Value.slice ua un ucap) :: R).map (·.1)) col = [] ++ lay width indent ((R8 ++ R).map (·.1)) col by
                        rw [List.map_cons, lay_cons, List.map_append, hRm]
                        simp only [if_neg k1, if_neg k2]
                        rw [flp]
                        rfl)
                      have OK8 := Lib.hid (show RowOk ((R8 ++ R).map (·.1)) by
                        rw [List.map_append, hRm]
                        exact rowOk_kids (x := ⟨6, xf, xs, xkids, xlv, false⟩) _ H.out.ok (.inr (.inl rfl)))
                      have SZ8 := Lib.hid (show rowSz ((R8 ++ R).map (·.1)) ≤ rowSz ((((⟨6, xf, xs, xkids, xlv, false⟩ : It), Value.slice ua un ucap) :: R).map (·.1)) by
                        rw [List.map_append, hRm, rowSz_append, rowSz_items]
                        simp only [List.map_cons, rowSz]
                        omega)
                      have GM8 := Lib.hid (show rowN ((R8 ++ R).map (·.1)) + 1 ≤ gk by
                        rw [List.map_append, hRm, rowN_append, rowN_items]
                        have h := H.out.gm
                        simp only [List.map_cons, rowN] at h
                        omega)
                      clear hRm hki8 ho8 hb8
                      go_wp2_with (at_builtin; refine wpl_appendV rfl _ _ rfl Try.underlying63 infoIt rfl (by decide) W7.heap.size u8 (.slice (some ⟨b', off', none⟩) N RC) (R8.map ic) (R.map ic) ((R8 ++ R).map ic) rfl HO8.out rfl (RV.out.keep B8.out) (nnv_some _ _ _) (ic_six R) (ic_one w R KIR.out) (by rw [List.length_map, List.length_map]; have := LEN8.out; omega) (by decide) ZB.out (by simp) ?_)
                      intro v9 w9 ho9 hb9
                      have B9 := Lib.hid (B8.out.trans (hb9.mono B7.out.size))
                      have ho9' : OwnV 62 6 W7.heap.size w9 v9 ((R8 ++ R).map ic) := by simpa using ho9
                      obtain ⟨fin, lt⟩ := RnR.step H.out (w' := w9) (R2 := R8 ++ R) (o2 := []) (col2 := col) (rv' := v9) ZL.out (by rw [List.append_nil]; exact OwnV.keep H.out.ov B9.out) (OwnV.vs ho9') (own_tyb ho9') KI8.out OK8.out (by have h1 := H.out.sz; have := SZ8.out; omega) (Nat.le_trans SZ8.out H.out.sz2) GM8.out (by simp) (B9.out.mono H.out.hB)
                      clear ho9 hb9 ho9'
                      go_wp2
                      go_roundg (rowN ((R8 ++ R).map (·.1)))
                      case rel => exact ⟨R8 ++ R, _, _, fin⟩
                      case measure => exact lt

                    | false =>
                      have HAC2 := Lib.hid (show comb (acc + m, false) (afterR ((R.map (·.1)).drop (i + 1))) = AF by rw [← HAC.out, ← comb_assoc]; rfl)
                      go_wp2_with fail
                      refine (R1.out).mono ?_
                      rintro e w9 ⟨rfl, hb9⟩
                      have e9 := HBX.out.trans (hb9.mono HBX.out.size)
                      clear hb9 q0 q1 q2 q3 q4 q5
                      go_wp2
                      go_roundw
                      case rel => exact ⟨i + 1, acc + m, NV + m, by go_num, by omega, by go_num, by have := HNV.out; omega, HAC2.out, e9⟩
                      case measure => simp [intOf]; omega
                  · obtain rfl : i = N := by omega
                    have t1 : decide ((i : Int) < i) = false := by simp
                    have eFV : decide ((NV : Int) ≤ (width : Int)) = FV := by
                      have e : AF.1 = acc := by rw [← hac, List.drop_of_length_le (by rw [List.length_map, HNR.out]; exact Nat.le_refl _)]; simp [comb, afterR]
                      rw [HFV.out, e]
                      apply decide_eq_decide.2
                      omega
                    have eFV2 : decide (NV ≤ width) = FV := by rw [← eFV]; apply decide_eq_decide.2; omega
                    clear hac hNV hlt
                    obtain ⟨y0, y1, y2, y3, y4, y5⟩ := xcells XX.out
                    have hfz : wr.frozen? ⟨wo.heap.size, 5, none⟩ = false := frozen_of_row wr wo.heap.size 5 _ _ XX.out
                    obtain ⟨W7, hW7⟩ : ∃ W, wr.setCell ⟨wo.heap.size, 5, none⟩ (.bool FV) = W := ⟨_, rfl⟩
                    have B7 := Lib.hid (show Below wo.heap.size wo W7 by rw [← hW7]; exact (HX.out).setCell (Nat.le_refl _) _)
                    have X7 := Lib.hid (show W7.heap[wo.heap.size]? = some (Obj.cells #[.int .i64 6, .int .i64 xf, .string xs, .slice ua un ucap, .int .i64 (xlv : Int), .bool FV] 62 (0, 0)) by rw [← hW7]; exact heap_setCell_same wr wo.heap.size 5 _ _ _ XX.out)
                    have HW7 := Lib.hid hW7
                    clear hW7
                    go_upto_region 22 with fail
                    rw [HW7.out]
                    clear y0 y1 y2 y3 y4 y5 hfz
                    clear eFV eFV2
                    obtain ⟨q0, q1, q2, q3, q4, q5⟩ := xcells X7.out
                    go_wp2_with fail
                    refine (KD.out _ B7.out).mono ?_
                    rintro e w8 ⟨u8, R8, rfl, hRm, hki8, ho8, hb8⟩
                    clear q0 q1 q2 q3 q4 q5
                    have B8 := Lib.hid (B7.out.trans (hb8.mono B7.out.size))
                    have HO8 := Lib.hid ho8
                    have ZB := Lib.hid hb8.size
                    have LEN8 := Lib.hid (show R8.length + R.length ≤ 200000 by
                      have h := H.out.gm
                      have h3 := H.out.ln
                      have h4 := fo_len_n xkids
                      have h5 := congrArg List.length hRm
                      have h6 := row_len (R.map (·.1))
                      rw [List.length_map, items_len] at h5
                      rw [List.length_map] at h6
                      simp only [List.map_cons, rowN] at h
                      omega)
                    have KIR := Lib.hid (show KidsIn w R from fun p hp => H.out.ki p (by simp [hp]))
                    have KI8 := Lib.hid (show KidsIn w (R8 ++ R) from fun p hp => by
                      rcases List.mem_append.1 hp with hp | hp
                      · exact hki8 p hp
                      · exact KIR.out p hp)
                    have ZL := Lib.hid (show lay width indent ((((⟨6, xf, xs, xkids, xlv, false⟩ : It), Value.slice ua un ucap) :: R).map (·.1)) col = [] ++ lay width indent ((R8 ++ R).map (·.1)) col by
                      rw [List.map_cons, lay_cons, List.map_append, hRm]
                      simp only [if_neg k1, if_neg k2]
                      rw [flp]
                      rfl)
                    have OK8 := Lib.hid (show RowOk ((R8 ++ R).map (·.1)) by
                      rw [List.map_append, hRm]
                      exact rowOk_kids (x := ⟨6, xf, xs, xkids, xlv, false⟩) _ H.out.ok (.inr (.inl rfl)))
                    have SZ8 := Lib.hid (show rowSz ((R8 ++ R).map (·.1)) ≤ rowSz ((((⟨6, xf, xs, xkids, xlv, false⟩ : It), Value.slice ua un ucap) :: R).map (·.1)) by
                      rw [List.map_append, hRm, rowSz_append, rowSz_items]
                      simp only [List.map_cons, rowSz]
                      omega)
                    have GM8 := Lib.hid (show rowN ((R8 ++ R).map (·.1)) + 1 ≤ gk by
                      rw [List.map_append, hRm, rowN_append, rowN_items]
                      have h := H.out.gm
                      simp only [List.map_cons, rowN] at h
                      omega)
                    clear hRm hki8 ho8 hb8
                    go_wp2_with (at_builtin; refine wpl_appendV rfl _ _ rfl Try.underlying63 infoIt rfl (by decide) W7.heap.size u8 (.slice (some AD) i RC) (R8.map ic) (R.map ic) ((R8 ++ R).map ic) rfl HO8.out rfl (RV.out.keep B8.out) (nnv_some _ _ _) (ic_six R) (ic_one w R KIR.out) (by rw [List.length_map, List.length_map]; have := LEN8.out; omega) (by decide) ZB.out (by simp) ?_)
                    intro v9 w9 ho9 hb9
                    have B9 := Lib.hid (B8.out.trans (hb9.mono B7.out.size))
                    have ho9' : OwnV 62 6 W7.heap.size w9 v9 ((R8 ++ R).map ic) := by simpa using ho9
                    obtain ⟨fin, lt⟩ := RnR.step H.out (w' := w9) (R2 := R8 ++ R) (o2 := []) (col2 := col) (rv' := v9) ZL.out (by rw [List.append_nil]; exact OwnV.keep H.out.ov B9.out) (OwnV.vs ho9') (own_tyb ho9') KI8.out OK8.out (by have h1 := H.out.sz; have := SZ8.out; omega) (Nat.le_trans SZ8.out H.out.sz2) GM8.out (by simp) (B9.out.mono H.out.hB)
                    clear ho9 hb9 ho9'
                    go_wp2
                    go_roundg (rowN ((R8 ++ R).map (·.1)))
                    case rel => exact ⟨R8 ++ R, _, _, fin⟩
                    case measure => exact lt

            · have flp : flOf width col ⟨xk, xf, xs, xkids, xlv, xfl⟩ (R.map (·.1)) = xfl := by
                unfold flOf
                cases xfl with
                | true => rfl
                | false => simp; intro h; exact absurd ⟨h, rfl⟩ h6
              obtain ⟨W3, hW3⟩ : ∃ W, wr.alloc (.cells #[.int .i64 xk, .int .i64 xf, .string xs, .slice ua un ucap, .int .i64 (xlv : Int), .bool xfl] 62) = W := ⟨_, rfl⟩
              have B3 := Lib.hid (show Below wr.heap.size wr W3 by rw [← hW3]; exact (Below.refl _ _).alloc (Nat.le_refl _) _)
              have X3 := Lib.hid (show W3.heap[wr.heap.size]? = some (Obj.cells #[.int .i64 xk, .int .i64 xf, .string xs, .slice ua un ucap, .int .i64 (xlv : Int), .bool xfl] 62 (0, 0)) by rw [← hW3]; exact heap_alloc_new wr _)
              have z3 := Lib.hid (show W3.heap.size = wr.heap.size + 1 by rw [← hW3]; simp)
              have HW3 := Lib.hid hW3
              clear hW3

              have KD := Lib.hid (fun W (h : Below wr.heap.size wr W) => kids_lv xk xf xs xkids xlv (lvK xk xlv) xfl (.slice ua un ucap) w W (H.out.ki _ (List.mem_cons_self ..)) (((H.out.bl.trans (h.mono H.out.hB)))) (lvK_ways xk xlv) (by omega) (by have h := H.out.gm; have h3 := H.out.ln; have h4 := fo_len_n xkids; simp only [List.map_cons, rowN] at h; omega))

              obtain ⟨c0, c1, c2, c3, c4, c5⟩ := xcells X3.out
              by_cases h60 : xk = 6
              · obtain rfl : xfl = true := by cases xfl with
                  | true => rfl
                  | false => exact absurd ⟨h60, rfl⟩ h6
                have f6 : (xk == 6) = true := by simpa using h60
                clear h60
                go_upto_region 22 with fail
                rw [HAD.out, HW3.out]
                clear c0 c1 c2 c3 c4 c5 hd2
                obtain ⟨q0, q1, q2, q3, q4, q5⟩ := xcells X3.out
                go_wp2_with fail
                refine (KD.out _ B3.out).mono ?_
                rintro e w8 ⟨u8, R8, rfl, hRm, hki8, ho8, hb8⟩
                clear q0 q1 q2 q3 q4 q5
                have B8 := Lib.hid (B3.out.trans (hb8.mono B3.out.size))
                have HO8 := Lib.hid ho8
                have ZB := Lib.hid hb8.size
                have LEN8 := Lib.hid (show R8.length + R.length ≤ 200000 by
                  have h := H.out.gm
                  have h3 := H.out.ln
                  have h4 := fo_len_n xkids
                  have h5 := congrArg List.length hRm
                  have h6 := row_len (R.map (·.1))
                  rw [List.length_map, items_len] at h5
                  rw [List.length_map] at h6
                  simp only [List.map_cons, rowN] at h
                  omega)
                have KIR := Lib.hid (show KidsIn w R from fun p hp => H.out.ki p (by simp [hp]))
                have KI8 := Lib.hid (show KidsIn w (R8 ++ R) from fun p hp => by
                  rcases List.mem_append.1 hp with hp | hp
                  · exact hki8 p hp
                  · exact KIR.out p hp)
                have ZL := Lib.hid (show lay width indent ((((⟨xk, xf, xs, xkids, xlv, true⟩ : It), Value.slice ua un ucap) :: R).map (·.1)) col = [] ++ lay width indent ((R8 ++ R).map (·.1)) col by
                  rw [List.map_cons, lay_cons, List.map_append, hRm]
                  simp only [if_neg k1, if_neg k2]
                  rw [flp]
                  rfl)
                have OK8 := Lib.hid (show RowOk ((R8 ++ R).map (·.1)) by
                  rw [List.map_append, hRm]
                  exact rowOk_kids (x := ⟨xk, xf, xs, xkids, xlv, true⟩) _ H.out.ok h5)
                have SZ8 := Lib.hid (show rowSz ((R8 ++ R).map (·.1)) ≤ rowSz ((((⟨xk, xf, xs, xkids, xlv, true⟩ : It), Value.slice ua un ucap) :: R).map (·.1)) by
                  rw [List.map_append, hRm, rowSz_append, rowSz_items]
                  simp only [List.map_cons, rowSz]
                  omega)
                have GM8 := Lib.hid (show rowN ((R8 ++ R).map (·.1)) + 1 ≤ gk by
                  rw [List.map_append, hRm, rowN_append, rowN_items]
                  have h := H.out.gm
                  simp only [List.map_cons, rowN] at h
                  omega)
                clear hRm hki8 ho8 hb8
                go_wp2_with (at_builtin; refine wpl_appendV rfl _ _ rfl Try.underlying63 infoIt rfl (by decide) W3.heap.size u8 (.slice (some AD) N RC) (R8.map ic) (R.map ic) ((R8 ++ R).map ic) rfl HO8.out rfl (RV.out.keep B8.out) (nnv_some _ _ _) (ic_six R) (ic_one w R KIR.out) (by rw [List.length_map, List.length_map]; have := LEN8.out; omega) (by decide) ZB.out (by simp) ?_)
                intro v9 w9 ho9 hb9
                have B9 := Lib.hid (B8.out.trans (hb9.mono B3.out.size))
                have ho9' : OwnV 62 6 W3.heap.size w9 v9 ((R8 ++ R).map ic) := by simpa using ho9
                obtain ⟨fin, lt⟩ := RnR.step H.out (w' := w9) (R2 := R8 ++ R) (o2 := []) (col2 := col) (rv' := v9) ZL.out (by rw [List.append_nil]; exact OwnV.keep H.out.ov B9.out) (OwnV.vs ho9') (own_tyb ho9') KI8.out OK8.out (by have h1 := H.out.sz; have := SZ8.out; omega) (Nat.le_trans SZ8.out H.out.sz2) GM8.out (by simp) (B9.out.mono H.out.hB)
                clear ho9 hb9 ho9'
                go_wp2
                go_roundg (rowN ((R8 ++ R).map (·.1)))
                case rel => exact ⟨R8 ++ R, _, _, fin⟩
                case measure => exact lt

              · have f6 : (xk == 6) = false := by simpa using h60
                go_upto_region 22 with fail
                rw [HAD.out, HW3.out]
                clear c0 c1 c2 c3 c4 c5 hd2
                obtain ⟨q0, q1, q2, q3, q4, q5⟩ := xcells X3.out
                go_wp2_with fail
                refine (KD.out _ B3.out).mono ?_
                rintro e w8 ⟨u8, R8, rfl, hRm, hki8, ho8, hb8⟩
                clear q0 q1 q2 q3 q4 q5
                have B8 := Lib.hid (B3.out.trans (hb8.mono B3.out.size))
                have HO8 := Lib.hid ho8
                have ZB := Lib.hid hb8.size
                have LEN8 := Lib.hid (show R8.length + R.length ≤ 200000 by
                  have h := H.out.gm
                  have h3 := H.out.ln
                  have h4 := fo_len_n xkids
                  have h5 := congrArg List.length hRm
                  have h6 := row_len (R.map (·.1))
                  rw [List.length_map, items_len] at h5
                  rw [List.length_map] at h6
                  simp only [List.map_cons, rowN] at h
                  omega)
                have KIR := Lib.hid (show KidsIn w R from fun p hp => H.out.ki p (by simp [hp]))
                have KI8 := Lib.hid (show KidsIn w (R8 ++ R) from fun p hp => by
                  rcases List.mem_append.1 hp with hp | hp
                  · exact hki8 p hp
                  · exact KIR.out p hp)
                have ZL := Lib.hid (show lay width indent ((((⟨xk, xf, xs, xkids, xlv, xfl⟩ : It), Value.slice ua un ucap) :: R).map (·.1)) col = [] ++ lay width indent ((R8 ++ R).map (·.1)) col by
                  rw [List.map_cons, lay_cons, List.map_append, hRm]
                  simp only [if_neg k1, if_neg k2]
                  rw [flp]
                  rfl)
                have OK8 := Lib.hid (show RowOk ((R8 ++ R).map (·.1)) by
                  rw [List.map_append, hRm]
                  exact rowOk_kids (x := ⟨xk, xf, xs, xkids, xlv, xfl⟩) _ H.out.ok h5)
                have SZ8 := Lib.hid (show rowSz ((R8 ++ R).map (·.1)) ≤ rowSz ((((⟨xk, xf, xs, xkids, xlv, xfl⟩ : It), Value.slice ua un ucap) :: R).map (·.1)) by
                  rw [List.map_append, hRm, rowSz_append, rowSz_items]
                  simp only [List.map_cons, rowSz]
                  omega)
                have GM8 := Lib.hid (show rowN ((R8 ++ R).map (·.1)) + 1 ≤ gk by
                  rw [List.map_append, hRm, rowN_append, rowN_items]
                  have h := H.out.gm
                  simp only [List.map_cons, rowN] at h
                  omega)
                clear hRm hki8 ho8 hb8
                go_wp2_with (at_builtin; refine wpl_appendV rfl _ _ rfl Try.underlying63 infoIt rfl (by decide) W3.heap.size u8 (.slice (some AD) N RC) (R8.map ic) (R.map ic) ((R8 ++ R).map ic) rfl HO8.out rfl (RV.out.keep B8.out) (nnv_some _ _ _) (ic_six R) (ic_one w R KIR.out) (by rw [List.length_map, List.length_map]; have := LEN8.out; omega) (by decide) ZB.out (by simp) ?_)
                intro v9 w9 ho9 hb9
                have B9 := Lib.hid (B8.out.trans (hb9.mono B3.out.size))
                have ho9' : OwnV 62 6 W3.heap.size w9 v9 ((R8 ++ R).map ic) := by simpa using ho9
                obtain ⟨fin, lt⟩ := RnR.step H.out (w' := w9) (R2 := R8 ++ R) (o2 := []) (col2 := col) (rv' := v9) ZL.out (by rw [List.append_nil]; exact OwnV.keep H.out.ov B9.out) (OwnV.vs ho9') (own_tyb ho9') KI8.out OK8.out (by have h1 := H.out.sz; have := SZ8.out; omega) (Nat.le_trans SZ8.out H.out.sz2) GM8.out (by simp) (B9.out.mono H.out.hB)
                clear ho9 hb9 ho9'
                go_wp2
                go_roundg (rowN ((R8 ++ R).map (·.1)))
                case rel => exact ⟨R8 ++ R, _, _, fin⟩
                case measure => exact lt

end Go.Proofs.Ytehofomfblfhaaa
