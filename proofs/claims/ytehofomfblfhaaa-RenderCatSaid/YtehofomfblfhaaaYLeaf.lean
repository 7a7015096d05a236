/- Layouts: render.measure of what has no kids; of any document. -/
import Derived.Test.YtehofomfblfhaaaYMeas
namespace Go.Proofs.Ytehofomfblfhaaa
open Go.RowKit
set_option linter.unusedVariables false
set_option linter.unusedSimpArgs false

theorem wl_nil : M.wl [] = 0 := by decide
/-- The three blocks at the beginning. -/
def W3 (w : World) (k f : Int) (S : ByteArray) (xd : Value) : World := ((w.alloc (.cells #[.int .i64 k, .int .i64 f, .string S, xd] 24)).alloc (.cells #[.int .i64 0, .int .i64 0, .string ⟨#[]⟩, .slice none 0 0, .slice none 0 0, .int .i64 0, .string ⟨#[]⟩, .string ⟨#[]⟩, .bool false, .int .i64 0, .bool false] 55)).alloc (.cells #[.int .i64 k, .int .i64 f, .string S, xd, .slice none 0 0, .int .i64 0, .string ⟨#[]⟩, .string ⟨#[]⟩, .bool false, .int .i64 0, .bool false] 55)
/-- A leaf's state: its box, the result, p. -/
structure LfS (w : World) (k f : Int) (S : ByteArray) (xd : Value) (W : World) (pc : Array Value) : Prop where
  hd : BK 24 W w.heap.size #[.int .i64 k, .int .i64 f, .string S, xd]
  hr : BK 55 W (w.heap.size + 1) pz
  hp : BK 55 W (w.heap.size + 1 + 1) pc
  bl : Below w.heap.size w W
theorem LfS.start (w : World) (k f : Int) (S : ByteArray) (xd : Value) : LfS w k f S xd (W3 w k f S xd) #[.int .i64 k, .int .i64 f, .string S, xd, .slice none 0 0, .int .i64 0, .string ⟨#[]⟩, .string ⟨#[]⟩, .bool false, .int .i64 0, .bool false] := by
  have hdc := (BK.new 24 w #[.int .i64 k, .int .i64 f, .string S, xd]).keep (((Below.refl _ _).alloc (Nat.le_refl _) (.cells pz 55)).alloc (by simp) (.cells #[.int .i64 k, .int .i64 f, .string S, xd, .slice none 0 0, .int .i64 0, .string ⟨#[]⟩, .string ⟨#[]⟩, .bool false, .int .i64 0, .bool false] 55))
  have hrs := (BK.new 55 (w.alloc (.cells #[.int .i64 k, .int .i64 f, .string S, xd] 24)) pz).keep ((Below.refl _ _).alloc (Nat.le_refl _) (.cells #[.int .i64 k, .int .i64 f, .string S, xd, .slice none 0 0, .int .i64 0, .string ⟨#[]⟩, .string ⟨#[]⟩, .bool false, .int .i64 0, .bool false] 55))
  have hps := BK.new 55 ((w.alloc (.cells #[.int .i64 k, .int .i64 f, .string S, xd] 24)).alloc (.cells pz 55)) #[.int .i64 k, .int .i64 f, .string S, xd, .slice none 0 0, .int .i64 0, .string ⟨#[]⟩, .string ⟨#[]⟩, .bool false, .int .i64 0, .bool false]
  have ba : Below w.heap.size w (w.alloc (.cells #[.int .i64 k, .int .i64 f, .string S, xd] 24)) := (Below.refl _ _).alloc (Nat.le_refl _) _
  have bb := ba.alloc ba.size (.cells pz 55)
  have bc := bb.alloc bb.size (.cells #[.int .i64 k, .int .i64 f, .string S, xd, .slice none 0 0, .int .i64 0, .string ⟨#[]⟩, .string ⟨#[]⟩, .bool false, .int .i64 0, .bool false] 55)
  simp only [World.size_alloc] at hrs hps
  exact ⟨hdc, hrs, hps, bc⟩
theorem LfS.keep {w W W' : World} {k f : Int} {S : ByteArray} {xd : Value} {pc : Array Value} (h : LfS w k f S xd W pc) (hb : Below W.heap.size W W') : LfS w k f S xd W' pc :=
  ⟨h.hd.keep hb, h.hr.keep hb, h.hp.keep hb, h.bl.trans (hb.mono h.bl.size)⟩
theorem LfS.set1 {w W : World} {k f : Int} {S : ByteArray} {xd : Value} {pc : Array Value} (h : LfS w k f S xd W pc) (j : Nat) (u : Value) : LfS w k f S xd (W.setCell ⟨w.heap.size + 1 + 1, j, none⟩ u) (pc.setIfInBounds j u) :=
  ⟨h.hd.other (by omega) j u, h.hr.other (by omega) j u, h.hp.setCell j u, h.bl.setCell (p := ⟨w.heap.size + 1 + 1, j, none⟩) (by show w.heap.size ≤ w.heap.size + 1 + 1; omega) u⟩
theorem LfS.sets {w : World} {k f : Int} {S : ByteArray} {xd : Value} (vs : List Value) : ∀ (W : World) (pc : Array Value) (o : Nat), LfS w k f S xd W pc → LfS w k f S xd (W.setCells (w.heap.size + 1 + 1) o vs) (setA pc o vs) := by
  induction vs with
  | nil => intro W pc o h; exact h
  | cons v r ih => intro W pc o h; exact ih _ _ _ (h.set1 o v)
theorem LfS.fin {w W : World} {k f : Int} {S : ByteArray} {xd : Value} {l : List UInt8} {h : Bool} {lb : Nat × Bool} (g : LfS w k f S xd W (pcs k f S xd (.slice none 0 0) l h lb).toArray) (hs : S.size ≤ maxLen) (hx : SlV xd)
    (h1 : l = allD k S .nil) (h2 : h = hardD k .nil) (h3 : lb = lbD k S .nil) :
    PaC (fun b => w.heap.size ≤ b ∧ b < (W.setRow (w.heap.size + 1) (pcs k f S xd (.slice none 0 0) l h lb).toArray).heap.size) (W.setRow (w.heap.size + 1) (pcs k f S xd (.slice none 0 0) l h lb).toArray) k f S .nil (pcs k f S xd (.slice none 0 0) (allD k S .nil) (hardD k .nil) (lbD k S .nil)) ∧
    Below w.heap.size w (W.setRow (w.heap.size + 1) (pcs k f S xd (.slice none 0 0) l h lb).toArray) := by
  subst h1 h2 h3
  exact ⟨.mk k f S .nil xd _ [] hs hx ⟨vs_nil _ _, fun b off n c e h0 => by simp at e⟩ rfl (fun j hj => by simp at hj), below_setRowK g.bl (by omega) _⟩
set_option maxRecDepth 100000 in
set_option maxHeartbeats 4000000 in
theorem me_text (f : Int) (t : List UInt8) (a : Option Addr) (cap : Nat) (w : World) (hl : t.length ≤ 400000) :
    Calls Try.prog 25 #[.agg (dv 1 f (bytes t) (.slice a 0 cap))] w (MeP w 1 f (bytes t) .nil) := by
  have hss : (bytes t).size ≤ maxLen := by rw [bytes_size]; unfold maxLen; omega
  have ST := Lib.hid (fun W => stretch_any t W (by omega))
  have L0 := Lib.hid (LfS.start w 1 f (bytes t) (.slice a 0 cap))
  have ee : allD 1 (bytes t) .nil = t := by simp [allD, bytes]
  have el : lbD 1 (bytes t) .nil = (M.wl t, false) := rfl
  have FI := Lib.hid (fun W (h : LfS w 1 f (bytes t) (.slice a 0 cap) W (pcs 1 f (bytes t) (.slice a 0 cap) (.slice none 0 0) t false (M.wl t, false)).toArray) => h.fin hss ⟨_, _, _, rfl⟩ ee.symm rfl el.symm)
  rw [ee, el] at FI
  have EE := Lib.hid ee
  have EL := Lib.hid el
  obtain ⟨S, hS⟩ : ∃ S, bytes t = S := ⟨_, rfl⟩
  rw [hS] at ST L0 FI EE EL ⊢
  obtain ⟨W0, hW0⟩ : ∃ W, W3 w 1 f S (.slice a 0 cap) = W := ⟨_, rfl⟩
  rw [hW0] at L0
  have HW0 := Lib.hid hW0
  obtain ⟨n, hn⟩ : ∃ n : Int, (M.wl t : Int) = n := ⟨_, rfl⟩
  rw [hn] at ST
  have HN := Lib.hid hn
  have c0 : W0.cell? ⟨w.heap.size, 0, none⟩ = some (.int .i64 1) := L0.out.hd.cell 0
  have c2 : W0.cell? ⟨w.heap.size, 2, none⟩ = some (.string S) := L0.out.hd.cell 2
  clear hS hW0 hn hl hss ee el
  unfold dv
  go_enter Try.func25, Try.ntmps25
  go_upto_region 2 with fail
  have e0 := HW0.out
  unfold W3 at e0
  rw [e0]
  clear e0
  go_wp2_with fail
  refine (ST.out _).mono ?_
  rintro e w1 ⟨rfl, hb1⟩
  have L1 := Lib.hid (L0.out.keep hb1)
  clear L0 hb1 c0 c2
  have hth := L1.out.hp.there 5 3 (by simp)
  go_upto_region 5 with (refine wpList_store_mid rfl 53 _ _ rfl (w.heap.size + 1 + 1) 5 #[.int .i64 n, .string (bytes (M.hd3 t)), .string (bytes (M.tl3 t))] rfl rfl hth infoS3 (str_one _ _ _) ?_)
  have L2 := Lib.hid (LfS.sets [.int .i64 n, .string (bytes (M.hd3 t)), .string (bytes (M.tl3 t))] _ _ 5 L1.out)
  simp only [setA, List.setIfInBounds_toArray, List.set_cons_succ, List.set_cons_zero] at L2
  obtain ⟨w2, hw2⟩ : ∃ x, w1.setCells (w.heap.size + 1 + 1) 5 (#[.int .i64 n, .string (bytes (M.hd3 t)), .string (bytes (M.tl3 t))] : Array Value).toList = x := ⟨_, rfl⟩
  rw [hw2]
  rw [show (w1.setCells (w.heap.size + 1 + 1) 5 [.int .i64 n, .string (bytes (M.hd3 t)), .string (bytes (M.tl3 t))]) = w2 from hw2] at L2
  clear hw2 L1 hth
  have q5 := L2.out.hp.cell 5
  have q9 := L2.out.hp.cell 9
  have qd := L2.out.hd.cell 3
  have fz := frozen_of_row w2 (w.heap.size + 1 + 1) 9 _ _ L2.out.hp
  simp only [List.getElem?_toArray, List.getElem?_cons_succ, List.getElem?_cons_zero] at q5 q9 qd
  have LX : Hid (LfS w 1 f S (.slice a 0 cap) (w2.setCell ⟨w.heap.size + 1 + 1, 9, none⟩ (.int .i64 n)) (pcs 1 f S (.slice a 0 cap) (.slice none 0 0) t false (M.wl t, false)).toArray) := Lib.hid (by
    have := L2.out.set1 9 (.int .i64 n)
    simp only [List.setIfInBounds_toArray, List.set_cons_succ, List.set_cons_zero] at this
    unfold pcs
    rw [HN.out]
    exact this)
  go_wp2
  go_loopw [35] (fun iv wr => iv = .int .i64 0 ∧ LfS w 1 f S (.slice a 0 cap) wr (pcs 1 f S (.slice a 0 cap) (.slice none 0 0) t false (M.wl t, false)).toArray) (fun _ _ => 0)
  case atStart => exact ⟨rfl, LX.out⟩
  case round =>
    obtain ⟨rfl, hlf⟩ := hrel
    have HL := Lib.hid hlf
    clear hlf
    go_wp2_with (first | (refine wpl_ldK Try.underlying55 rfl infoPt1 rfl _ rfl (w.heap.size + 1 + 1) (pcs 1 f S (.slice a 0 cap) (.slice none 0 0) t false (M.wl t, false)) rfl HL.out.hp rfl ?_) | (refine wpl_stK infoPt1 rfl _ _ rfl (w.heap.size + 1) pz (pcs 1 f S (.slice a 0 cap) (.slice none 0 0) t false (M.wl t, false)).toArray rfl rfl HL.out.hr rfl rfl (all_oneCell_toArray (pcs_one _ _ _ _ _ _ _ _ rfl rfl)) ?_))
    (try simp only [Exit.inBlock, Exit.then])
    refine bodyPost_ret (res_bk Try.underlying55 rfl infoPt1 rfl _ _ (w.heap.size + 1) (pcs 1 f S (.slice a 0 cap) (.slice none 0 0) t false (M.wl t, false)) rfl (BK.set HL.out.hr _) rfl) rfl ?_
    exact ⟨_, .slice none 0 0, by rw [EE.out, EL.out]; rfl, rfl, rfl, by rw [EE.out, EL.out]; exact (FI.out _ HL.out).1, (FI.out _ HL.out).2⟩

set_option maxRecDepth 100000 in
set_option maxHeartbeats 4000000 in
theorem me_soft (f : Int) (S : ByteArray) (hss : S.size ≤ maxLen) (a : Option Addr) (cap : Nat) (w : World) :
    Calls Try.prog 25 #[.agg (dv 3 f S (.slice a 0 cap))] w (MeP w 3 f S .nil) := by
  have L0 := Lib.hid (LfS.start w 3 f S (.slice a 0 cap))
  have FI := Lib.hid (fun W (h : LfS w 3 f S (.slice a 0 cap) W (pcs 3 f S (.slice a 0 cap) (.slice none 0 0) [] false (0, true)).toArray) => h.fin hss ⟨_, _, _, rfl⟩ rfl rfl rfl)
  obtain ⟨W0, hW0⟩ : ∃ W, W3 w 3 f S (.slice a 0 cap) = W := ⟨_, rfl⟩
  rw [hW0] at L0
  have HW0 := Lib.hid hW0
  have c0 : W0.cell? ⟨w.heap.size, 0, none⟩ = some (.int .i64 3) := L0.out.hd.cell 0
  have qd := L0.out.hd.cell 3
  have q8 := L0.out.hp.cell 8
  have q10 := L0.out.hp.cell 10
  have fz8 := frozen_of_row W0 (w.heap.size + 1 + 1) 8 _ _ L0.out.hp
  have fz := frozen_of_row W0 (w.heap.size + 1 + 1) 10 _ _ L0.out.hp
  simp only [List.getElem?_toArray, List.getElem?_cons_succ, List.getElem?_cons_zero] at q8 q10 qd
  clear hW0 hss
  have LX : Hid (LfS w 3 f S (.slice a 0 cap) (W0.setCell ⟨w.heap.size + 1 + 1, 10, none⟩ (.bool true)) (pcs 3 f S (.slice a 0 cap) (.slice none 0 0) [] false (0, true)).toArray) := Lib.hid (by
    have := L0.out.set1 10 (.bool true)
    simp only [List.setIfInBounds_toArray, List.set_cons_succ, List.set_cons_zero] at this
    unfold pcs
    rw [wl_nil]
    exact this)
  unfold dv
  go_enter Try.func25, Try.ntmps25
  go_upto_region 2 with fail
  have e0 := HW0.out
  unfold W3 at e0
  rw [e0]
  clear e0
  go_wp2
  go_loopw [35] (fun iv wr => iv = .int .i64 0 ∧ LfS w 3 f S (.slice a 0 cap) wr (pcs 3 f S (.slice a 0 cap) (.slice none 0 0) [] false (0, true)).toArray) (fun _ _ => 0)
  case atStart => exact ⟨rfl, LX.out⟩
  case round =>
    obtain ⟨rfl, hlf⟩ := hrel
    have HL := Lib.hid hlf
    clear hlf
    go_wp2_with (first | (refine wpl_ldK Try.underlying55 rfl infoPt1 rfl _ rfl (w.heap.size + 1 + 1) (pcs 3 f S (.slice a 0 cap) (.slice none 0 0) [] false (0, true)) rfl HL.out.hp rfl ?_) | (refine wpl_stK infoPt1 rfl _ _ rfl (w.heap.size + 1) pz (pcs 3 f S (.slice a 0 cap) (.slice none 0 0) [] false (0, true)).toArray rfl rfl HL.out.hr rfl rfl (all_oneCell_toArray (pcs_one _ _ _ _ _ _ _ _ rfl rfl)) ?_))
    (try simp only [Exit.inBlock, Exit.then])
    refine bodyPost_ret (res_bk Try.underlying55 rfl infoPt1 rfl _ _ (w.heap.size + 1) (pcs 3 f S (.slice a 0 cap) (.slice none 0 0) [] false (0, true)) rfl (BK.set HL.out.hr _) rfl) rfl ?_
    exact ⟨_, .slice none 0 0, rfl, rfl, rfl, (FI.out _ HL.out).1, (FI.out _ HL.out).2⟩
set_option maxRecDepth 100000 in
set_option maxHeartbeats 4000000 in
theorem me_hard (f : Int) (S : ByteArray) (hss : S.size ≤ maxLen) (a : Option Addr) (cap : Nat) (w : World) :
    Calls Try.prog 25 #[.agg (dv 4 f S (.slice a 0 cap))] w (MeP w 4 f S .nil) := by
  have L0 := Lib.hid (LfS.start w 4 f S (.slice a 0 cap))
  have FI := Lib.hid (fun W (h : LfS w 4 f S (.slice a 0 cap) W (pcs 4 f S (.slice a 0 cap) (.slice none 0 0) [] true (0, true)).toArray) => h.fin hss ⟨_, _, _, rfl⟩ rfl rfl rfl)
  obtain ⟨W0, hW0⟩ : ∃ W, W3 w 4 f S (.slice a 0 cap) = W := ⟨_, rfl⟩
  rw [hW0] at L0
  have HW0 := Lib.hid hW0
  have c0 : W0.cell? ⟨w.heap.size, 0, none⟩ = some (.int .i64 4) := L0.out.hd.cell 0
  have qd := L0.out.hd.cell 3
  have q8 := L0.out.hp.cell 8
  have q10 := L0.out.hp.cell 10
  have fz8 := frozen_of_row W0 (w.heap.size + 1 + 1) 8 _ _ L0.out.hp
  have fz := frozen_of_row W0 (w.heap.size + 1 + 1) 10 _ _ L0.out.hp
  simp only [List.getElem?_toArray, List.getElem?_cons_succ, List.getElem?_cons_zero] at q8 q10 qd
  clear hW0 hss
  have LX : Hid (LfS w 4 f S (.slice a 0 cap) ((W0.setCell ⟨w.heap.size + 1 + 1, 8, none⟩ (.bool true)).setCell ⟨w.heap.size + 1 + 1, 10, none⟩ (.bool true)) (pcs 4 f S (.slice a 0 cap) (.slice none 0 0) [] true (0, true)).toArray) := Lib.hid (by
    have := (L0.out.set1 8 (.bool true)).set1 10 (.bool true)
    simp only [List.setIfInBounds_toArray, List.set_cons_succ, List.set_cons_zero] at this
    unfold pcs
    rw [wl_nil]
    exact this)
  unfold dv
  go_enter Try.func25, Try.ntmps25
  go_upto_region 2 with fail
  have e0 := HW0.out
  unfold W3 at e0
  rw [e0]
  clear e0
  go_wp2
  go_loopw [35] (fun iv wr => iv = .int .i64 0 ∧ LfS w 4 f S (.slice a 0 cap) wr (pcs 4 f S (.slice a 0 cap) (.slice none 0 0) [] true (0, true)).toArray) (fun _ _ => 0)
  case atStart => exact ⟨rfl, LX.out⟩
  case round =>
    obtain ⟨rfl, hlf⟩ := hrel
    have HL := Lib.hid hlf
    clear hlf
    go_wp2_with (first | (refine wpl_ldK Try.underlying55 rfl infoPt1 rfl _ rfl (w.heap.size + 1 + 1) (pcs 4 f S (.slice a 0 cap) (.slice none 0 0) [] true (0, true)) rfl HL.out.hp rfl ?_) | (refine wpl_stK infoPt1 rfl _ _ rfl (w.heap.size + 1) pz (pcs 4 f S (.slice a 0 cap) (.slice none 0 0) [] true (0, true)).toArray rfl rfl HL.out.hr rfl rfl (all_oneCell_toArray (pcs_one _ _ _ _ _ _ _ _ rfl rfl)) ?_))
    (try simp only [Exit.inBlock, Exit.then])
    refine bodyPost_ret (res_bk Try.underlying55 rfl infoPt1 rfl _ _ (w.heap.size + 1) (pcs 4 f S (.slice a 0 cap) (.slice none 0 0) [] true (0, true)) rfl (BK.set HL.out.hr _) rfl) rfl ?_
    exact ⟨_, .slice none 0 0, rfl, rfl, rfl, (FI.out _ HL.out).1, (FI.out _ HL.out).2⟩
theorem sp_bytes : bytes [32] = (⟨#[32]⟩ : ByteArray) := rfl
set_option maxRecDepth 100000 in
set_option maxHeartbeats 4000000 in
theorem me_space (f : Int) (S : ByteArray) (hss : S.size ≤ maxLen) (a : Option Addr) (cap : Nat) (w : World) :
    Calls Try.prog 25 #[.agg (dv 2 f S (.slice a 0 cap))] w (MeP w 2 f S .nil) := by
  have ST := Lib.hid (fun W => stretch_any [32] W (by decide))
  have L0 := Lib.hid (LfS.start w 2 f S (.slice a 0 cap))
  have FI := Lib.hid (fun W (h : LfS w 2 f S (.slice a 0 cap) W (pcs 2 f S (.slice a 0 cap) (.slice none 0 0) [32] false (0, true)).toArray) => h.fin hss ⟨_, _, _, rfl⟩ rfl rfl rfl)
  obtain ⟨W0, hW0⟩ : ∃ W, W3 w 2 f S (.slice a 0 cap) = W := ⟨_, rfl⟩
  rw [hW0] at L0
  have HW0 := Lib.hid hW0
  obtain ⟨n, hn⟩ : ∃ n : Int, (M.wl [32] : Int) = n := ⟨_, rfl⟩
  obtain ⟨H1, hH1⟩ : ∃ n, bytes (M.hd3 [32]) = n := ⟨_, rfl⟩
  obtain ⟨T1, hT1⟩ : ∃ n, bytes (M.tl3 [32]) = n := ⟨_, rfl⟩
  rw [hn, hH1, hT1, sp_bytes] at ST
  have HN := Lib.hid hn
  have HH := Lib.hid hH1
  have HT := Lib.hid hT1
  have c0 : W0.cell? ⟨w.heap.size, 0, none⟩ = some (.int .i64 2) := L0.out.hd.cell 0
  clear hW0 hn hss hH1 hT1
  unfold dv
  go_enter Try.func25, Try.ntmps25
  go_upto_region 2 with fail
  have e0 := HW0.out
  unfold W3 at e0
  rw [e0]
  clear e0
  go_wp2_with fail
  refine (ST.out _).mono ?_
  rintro e w1 ⟨rfl, hb1⟩
  have L1 := Lib.hid (L0.out.keep hb1)
  clear L0 hb1 c0
  have hth := L1.out.hp.there 5 3 (by simp)
  go_upto_region 8 with (refine wpList_store_mid rfl 53 _ _ rfl (w.heap.size + 1 + 1) 5 #[.int .i64 n, .string H1, .string T1] rfl rfl hth infoS3 (str_one _ _ _) ?_)
  have L2 := Lib.hid (LfS.sets [.int .i64 n, .string H1, .string T1] _ _ 5 L1.out)
  simp only [setA, List.setIfInBounds_toArray, List.set_cons_succ, List.set_cons_zero] at L2
  obtain ⟨w2, hw2⟩ : ∃ x, w1.setCells (w.heap.size + 1 + 1) 5 (#[.int .i64 n, .string H1, .string T1] : Array Value).toList = x := ⟨_, rfl⟩
  rw [hw2]
  rw [show (w1.setCells (w.heap.size + 1 + 1) 5 [.int .i64 n, .string H1, .string T1]) = w2 from hw2] at L2
  clear hw2 L1 hth
  have q10 := L2.out.hp.cell 10
  have qd := L2.out.hd.cell 3
  have fz := frozen_of_row w2 (w.heap.size + 1 + 1) 10 _ _ L2.out.hp
  simp only [List.getElem?_toArray, List.getElem?_cons_succ, List.getElem?_cons_zero] at q10 qd
  have LX : Hid (LfS w 2 f S (.slice a 0 cap) (w2.setCell ⟨w.heap.size + 1 + 1, 10, none⟩ (.bool true)) (pcs 2 f S (.slice a 0 cap) (.slice none 0 0) [32] false (0, true)).toArray) := Lib.hid (by
    have := L2.out.set1 10 (.bool true)
    simp only [List.setIfInBounds_toArray, List.set_cons_succ, List.set_cons_zero] at this
    unfold pcs
    rw [HN.out, HH.out, HT.out]
    exact this)
  go_wp2
  go_loopw [35] (fun iv wr => iv = .int .i64 0 ∧ LfS w 2 f S (.slice a 0 cap) wr (pcs 2 f S (.slice a 0 cap) (.slice none 0 0) [32] false (0, true)).toArray) (fun _ _ => 0)
  case atStart => exact ⟨rfl, LX.out⟩
  case round =>
    obtain ⟨rfl, hlf⟩ := hrel
    have HL := Lib.hid hlf
    clear hlf
    go_wp2_with (first | (refine wpl_ldK Try.underlying55 rfl infoPt1 rfl _ rfl (w.heap.size + 1 + 1) (pcs 2 f S (.slice a 0 cap) (.slice none 0 0) [32] false (0, true)) rfl HL.out.hp rfl ?_) | (refine wpl_stK infoPt1 rfl _ _ rfl (w.heap.size + 1) pz (pcs 2 f S (.slice a 0 cap) (.slice none 0 0) [32] false (0, true)).toArray rfl rfl HL.out.hr rfl rfl (all_oneCell_toArray (pcs_one _ _ _ _ _ _ _ _ rfl rfl)) ?_))
    (try simp only [Exit.inBlock, Exit.then])
    refine bodyPost_ret (res_bk Try.underlying55 rfl infoPt1 rfl _ _ (w.heap.size + 1) (pcs 2 f S (.slice a 0 cap) (.slice none 0 0) [32] false (0, true)) rfl (BK.set HL.out.hr _) rfl) rfl ?_
    exact ⟨_, .slice none 0 0, rfl, rfl, rfl, (FI.out _ HL.out).1, (FI.out _ HL.out).2⟩

theorem me_one (k f : Int) (s : ByteArray) (kids : Fo) (ME0 : ∀ j k f s kids', kids.at? j = some (k, f, s, kids') → ME k f s kids') : ME k f s kids := by
  intro w v d hv hr hsz
  have hr' := hr
  rw [rightD_is] at hr
  have hss : s.size ≤ maxLen := by unfold maxLen; omega
  have leaf : kids.len = 0 → kids = .nil := fun h => by cases kids with | nil => rfl | cons _ _ _ _ _ => simp [Fo.len] at h
  by_cases h1 : k = 1
  · subst h1
    rw [if_pos rfl] at hr
    obtain rfl := leaf (by simpa using hr)
    obtain ⟨a, c, rfl⟩ := hv.slice
    have e : bytes s.data.toList = s := by simp [bytes]
    have := me_text f s.data.toList a c w (by have : s.data.toList.length = s.size := Array.length_toList; omega)
    rw [e] at this
    exact this
  rw [if_neg h1] at hr
  by_cases h2 : k = 2 ∨ k = 3 ∨ k = 4
  · rw [if_pos h2] at hr
    obtain rfl := leaf (by simpa using (Bool.and_eq_true_iff.1 hr).2)
    obtain ⟨a, c, rfl⟩ := hv.slice
    rcases h2 with rfl | rfl | rfl
    · exact me_space f s hss a c w
    · exact me_soft f s hss a c w
    · exact me_hard f s hss a c w
  rw [if_neg h2] at hr
  by_cases h5 : k = 5 ∨ k = 6 ∨ k = 7
  · rw [if_pos h5] at hr
    exact me_node k f s kids ME0 w v (d - 1) hv (Bool.and_eq_true_iff.1 hr).2 hss (by omega) h5
  · rw [if_neg h5] at hr
    cases hr
theorem me_list (L : Fo) : ∀ j k f s kids, L.at? j = some (k, f, s, kids) → ME k f s kids := by
  induction L with
  | nil => intro j k f s kids h; simp [Fo.at?] at h
  | cons k0 f0 s0 kids0 rest ih1 ih2 =>
    intro j k f s kids h
    cases j with
    | zero =>
      simp only [Fo.at?, Option.some.injEq, Prod.mk.injEq] at h
      obtain ⟨rfl, rfl, rfl, rfl⟩ := h
      exact me_one k0 f0 s0 kids0 ih1
    | succ j => exact ih2 j k f s kids h
theorem me_any (k f : Int) (s : ByteArray) (kids : Fo) : ME k f s kids := me_one k f s kids (me_list kids)
end Go.Proofs.Ytehofomfblfhaaa
