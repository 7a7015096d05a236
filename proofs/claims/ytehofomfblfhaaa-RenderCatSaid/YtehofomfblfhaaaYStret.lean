/- Layouts: what render.stretch does: a text's width and its ends. -/
import Derived.Test.YtehofomfblfhaaaYPart
import Derived.Test.YtehofomfblfhaaaWTk
import Derived.Test.YtehofomfblfhaaaTDoc6
import Derived.StillTail
import Derived.StillTailTactics
namespace Go.Proofs.Ytehofomfblfhaaa
open Go.RowKit
set_option linter.unusedVariables false
set_option linter.unusedSimpArgs false

theorem hd3_ext (l : List UInt8) (k : Nat) (hk : k = 3 ∨ (l.length ≤ 3 ∧ k = l.length)) : (bytes l).extract 0 k = bytes (M.hd3 l) := by
  unfold M.hd3
  rcases hk with rfl | ⟨h, rfl⟩
  · by_cases h : 3 ≤ l.length
    · simp [bytes, ByteArray.extract, ByteArray.copySlice]
    · simp [bytes, ByteArray.extract, ByteArray.copySlice]
  · rw [List.take_of_length_le h]
    simp [bytes, ByteArray.extract, ByteArray.copySlice]
theorem tl3_ext (l : List UInt8) (k : Nat) (hk : k = l.length - 3) : (bytes l).extract k l.length = bytes (M.tl3 l) := by
  subst hk
  unfold M.tl3
  simp [bytes, ByteArray.extract, ByteArray.copySlice, List.take_of_length_le]
set_option maxRecDepth 100000 in
set_option maxHeartbeats 1000000 in
theorem rhead_any (l : List UInt8) (w : World) (hl : l.length ≤ 1000000000) :
    Calls Try.prog 48 #[.string (bytes l)] w fun e w' => e = .returned (.string (bytes (M.hd3 l))) ∧ w = w' := by
  have hz : (bytes l).size = l.length := bytes_size l
  obtain ⟨S, hS⟩ : ∃ S, bytes l = S := ⟨_, rfl⟩
  obtain ⟨T, hT⟩ : ∃ T, bytes (M.hd3 l) = T := ⟨_, rfl⟩
  obtain ⟨n, hn⟩ : ∃ n, l.length = n := ⟨_, rfl⟩
  have E : ∀ k, (k = 3 ∨ (n ≤ 3 ∧ k = n)) → S.extract 0 k = T := fun k hk => by rw [← hS, ← hT]; exact hd3_ext l k (by rw [hn]; exact hk)
  rw [hS] at hz ⊢
  rw [hn] at hz hl
  rw [hT]
  have HE := Lib.hid E
  clear hS hT hn E
  have e := HE.out (min 3 (n : Int)).toNat (by omega)
  go_enter Try.func48, Try.ntmps48
  go_wp2
  go_ret
  exact ⟨rfl, rfl⟩
set_option maxRecDepth 100000 in
set_option maxHeartbeats 1000000 in
theorem rtail_any (l : List UInt8) (w : World) (hl : l.length ≤ 1000000000) :
    Calls Try.prog 49 #[.string (bytes l)] w fun e w' => e = .returned (.string (bytes (M.tl3 l))) ∧ w = w' := by
  have hz : (bytes l).size = l.length := bytes_size l
  obtain ⟨S, hS⟩ : ∃ S, bytes l = S := ⟨_, rfl⟩
  obtain ⟨T, hT⟩ : ∃ T, bytes (M.tl3 l) = T := ⟨_, rfl⟩
  obtain ⟨n, hn⟩ : ∃ n, l.length = n := ⟨_, rfl⟩
  have E : S.extract (n - 3) n = T := by rw [← hS, ← hT, ← hn]; exact tl3_ext l _ rfl
  rw [hS] at hz ⊢
  rw [hn] at hz hl
  rw [hT]
  have HE := Lib.hid E
  clear hS hT hn E
  have e : S.extract (max 0 ((n : Int) - 3)).toNat n = T := by rw [show (max 0 ((n : Int) - 3)).toNat = n - 3 by omega]; exact HE.out
  go_enter Try.func49, Try.ntmps49
  go_wp2
  go_ret
  exact ⟨rfl, rfl⟩
theorem runeCount_bytes (l : List UInt8) : Lib.runeCount (bytes l) = M.wl l := rfl
theorem rwide_any (l : List UInt8) (w : World) (hl : l.length ≤ 1000000000) :
    Calls Try.prog 47 #[.string (bytes l)] w fun e w' => e = .returned (.int .i64 (M.wl l : Int)) ∧ Below w.heap.size w w' :=
  wide_any (bytes l) (M.wl l) w (by rw [bytes_size]; omega) (runeCount_bytes l)
/-- A block that holds a text's width and its ends. -/
def SB (w : World) (b : Nat) (cs : Array Value) : Prop := w.heap[b]? = some (.cells cs 53 (0, 0))
theorem SB.new (w : World) (cs : Array Value) : SB (w.alloc (.cells cs 53)) w.heap.size cs := heap_alloc_new w _
theorem SB.lt {w : World} {b : Nat} {cs : Array Value} (h : SB w b cs) : b < w.heap.size := (Array.getElem?_eq_some_iff.1 h).1
theorem SB.cell {w : World} {b : Nat} {cs : Array Value} (h : SB w b cs) (j : Nat) : w.cell? ⟨b, j, none⟩ = cs[j]? := cell_of_row w b j cs _ _ h
theorem SB.keep {w w' : World} {b : Nat} {cs : Array Value} (h : SB w b cs) (hb : Below w.heap.size w w') : SB w' b cs := by
  unfold SB; rw [hb.block b h.lt]; exact h
theorem str_one (n : Int) (S T : ByteArray) : (#[Value.int .i64 n, .string S, .string T]).all (·.oneCell') = true := by simp [Value.oneCell']
theorem infoS3 : (Try.prog.info? 53).map (·.size) = some 3 := by kernel_rfl
theorem SB.set {w : World} {b : Nat} {cs : Array Value} (h : SB w b cs) (ds : Array Value) : SB (w.setRow b ds) b ds := setRow_heap w b cs ds _ _ h
theorem wpl_stS {ops : Array Oper} {rest : List Oper} {o : Oper} {a : Act} {w : World} {Q : Exit → Act → World → Prop} (hgd : o.guard = none) (x y : Operand) (ho : o.op = .store 53 x y)
    (g : Nat) (old cells : Array Value) (hx : a.eval x = .pointer (some ⟨g, 0, none⟩)) (hy : a.eval y = .agg cells) (hg : SB w g old) (hs : old.size = 3) (hc : cells.size = 3) (h1 : cells.all (·.oneCell') = true)
    (h : wpList Try.prog ops Q rest (a.put o.dst undef) (w.setRow g cells)) : wpList Try.prog ops Q (o :: rest) a w :=
  wpList_store_row hgd 53 x y ho g cells hx hy 53 old hg (by rw [hc]; exact infoS3) (by rw [hs, hc]) h1 h
theorem res_str {fn : Func} {p : Tmp} (h : fn.results = #[.cell p 53]) (tmps : Array Value) (w : World) (g : Nat) (cs : Array Value)
    (hp : tmps.getD p undef = .pointer (some ⟨g, 0, none⟩)) (hg : SB w g cs) (hs : cs.size = 3) :
    (results fn tmps).run Try.prog w = .ok (.agg cs) w := by
  have e : (results fn tmps).run Try.prog w = ((asAddr (tmps.getD p undef)).run Try.prog w).andThen fun a w₁ => (loadVar 53 a).run Try.prog w₁ := by
    simp only [results, h]
    simp [Sem.run_bind, Result.andThen]
  rw [e, hp]
  have : (asAddr (.pointer (some ⟨g, 0, none⟩))).run Try.prog w = .ok ⟨g, 0, none⟩ w := rfl
  rw [this]
  simp only [Result.andThen]
  exact run_loadVar_row w g 53 53 cs (0, 0) _ hg Try.underlying53 rfl (by rw [hs]; exact infoS3)
set_option maxRecDepth 100000 in
set_option maxHeartbeats 2000000 in
theorem stretch_any (l : List UInt8) (w : World) (hl : l.length ≤ 1000000000) :
    Calls Try.prog 37 #[.string (bytes l)] w fun e w' => e = .returned (.agg #[.int .i64 (M.wl l : Int), .string (bytes (M.hd3 l)), .string (bytes (M.tl3 l))]) ∧ Below w.heap.size w w' := by
  have C1 := Lib.hid (fun W => rwide_any l W hl)
  have C2 := Lib.hid (fun W => rhead_any l W hl)
  have C3 := Lib.hid (fun W => rtail_any l W hl)
  obtain ⟨S, hS⟩ : ∃ S, bytes l = S := ⟨_, rfl⟩
  obtain ⟨S1, hS1⟩ : ∃ S, bytes (M.hd3 l) = S := ⟨_, rfl⟩
  obtain ⟨S2, hS2⟩ : ∃ S, bytes (M.tl3 l) = S := ⟨_, rfl⟩
  obtain ⟨n, hn⟩ : ∃ S, M.wl l = S := ⟨_, rfl⟩
  rw [hS] at C1 C2 C3 ⊢
  rw [hS1] at C2 ⊢
  rw [hS2] at C3 ⊢
  rw [hn] at C1 ⊢
  have b0 := Lib.hid ((Below.refl w.heap.size w).alloc (Nat.le_refl _) (.cells #[.int .i64 0, .string ⟨#[]⟩, .string ⟨#[]⟩] 53))
  clear hS hS1 hS2 hn hl
  go_enter Try.func37, Try.ntmps37
  go_upto_region 1 with fail
  have hsb := SB.new w #[.int .i64 0, .string ⟨#[]⟩, .string ⟨#[]⟩]
  obtain ⟨W0, hW0⟩ : ∃ W, w.alloc (.cells #[.int .i64 0, .string ⟨#[]⟩, .string ⟨#[]⟩] 53) = W := ⟨_, rfl⟩
  rw [hW0] at b0 hsb ⊢
  clear hW0
  go_wp2_with fail
  refine (C1.out _).mono ?_
  rintro e w1 ⟨rfl, hb1⟩
  have hs1 := hsb.keep hb1
  have d1 := Lib.hid (b0.out.trans (hb1.mono b0.out.size))
  clear hsb hb1
  go_wp2_with fail
  refine (C2.out _).mono ?_
  rintro e w' ⟨rfl, rfl⟩
  go_wp2_with fail
  refine (C3.out _).mono ?_
  rintro e w' ⟨rfl, rfl⟩
  go_wp2_with (refine wpl_stS rfl _ _ rfl w.heap.size _ #[.int .i64 (n : Int), .string S1, .string S2] rfl rfl hs1 rfl rfl (str_one _ _ _) ?_)
  go_wp2
  (try simp only [Exit.inBlock, Exit.then])
  refine bodyPost_ret (res_str rfl _ _ w.heap.size _ rfl (SB.set hs1 _) rfl) rfl ?_
  exact ⟨rfl, below_setRowD d1.out (Nat.le_refl _) _⟩
/-- Two of them in memory. -/
def Is6 (b c : Nat) (v0 v1 v2 u0 u1 u2 : Value) (W : World) : Prop := W.cell? ⟨b, 0, none⟩ = some v0 ∧ W.cell? ⟨b, 1, none⟩ = some v1 ∧ W.cell? ⟨b, 2, none⟩ = some v2 ∧ W.cell? ⟨c, 0, none⟩ = some u0 ∧ W.cell? ⟨c, 1, none⟩ = some u1 ∧ W.cell? ⟨c, 2, none⟩ = some u2
theorem Is6.keep {b c : Nat} {v0 v1 v2 u0 u1 u2 : Value} {w w' : World} (h : Is6 b c v0 v1 v2 u0 u1 u2 w) (hb : Below w.heap.size w w') : Is6 b c v0 v1 v2 u0 u1 u2 w' := by
  have hl : b < w.heap.size := by have := World.block_lt_of_cell? _ _ h.1; simpa using this
  have hc : c < w.heap.size := by have := World.block_lt_of_cell? _ _ h.2.2.2.1; simpa using this
  obtain ⟨h0, h1, h2, h3, h4, h5⟩ := h
  exact ⟨(hb.cell (p := ⟨b, 0, none⟩) hl).trans h0, (hb.cell (p := ⟨b, 1, none⟩) hl).trans h1, (hb.cell (p := ⟨b, 2, none⟩) hl).trans h2, (hb.cell (p := ⟨c, 0, none⟩) hc).trans h3, (hb.cell (p := ⟨c, 1, none⟩) hc).trans h4, (hb.cell (p := ⟨c, 2, none⟩) hc).trans h5⟩
theorem bytes_app (a b : List UInt8) : bytes a ++ bytes b = bytes (a ++ b) := by
  apply ByteArray.ext; simp [bytes]
set_option maxRecDepth 100000 in
set_option maxHeartbeats 4000000 in
theorem then_any (a b : List UInt8) (w : World) (ha : a.length + b.length ≤ 1000000) :
    Calls Try.prog 50 #[.agg #[.int .i64 (M.wl a : Int), .string (bytes (M.hd3 a)), .string (bytes (M.tl3 a))], .agg #[.int .i64 (M.wl b : Int), .string (bytes (M.hd3 b)), .string (bytes (M.tl3 b))]] w fun e w' =>
      e = .returned (.agg #[.int .i64 (M.wl (a ++ b) : Int), .string (bytes (M.hd3 (a ++ b))), .string (bytes (M.tl3 (a ++ b)))]) ∧ Below w.heap.size w w' := by
  have q1 := M.hd3_len a
  have q2 := M.hd3_len b
  have q3 := M.tl3_len a
  have q4 := M.tl3_len b
  have J := M.wl_join a b
  have L1 := M.wl_le a
  have L2 := M.wl_le b
  have L3 := M.wl_le (M.tl3 a)
  have L4 := M.wl_le (M.hd3 b)
  have L5 := M.wl_le (M.tl3 a ++ M.hd3 b)
  rw [List.length_append] at L5
  have C1 := Lib.hid (fun W => rwide_any (M.tl3 a) W (by omega))
  have C2 := Lib.hid (fun W => rwide_any (M.hd3 b) W (by omega))
  have C3 := Lib.hid (fun W => rwide_any (M.tl3 a ++ M.hd3 b) W (by rw [List.length_append]; omega))
  have C4 := Lib.hid (fun W => rhead_any (M.hd3 a ++ M.hd3 b) W (by rw [List.length_append]; omega))
  have C5 := Lib.hid (fun W => rtail_any (M.tl3 a ++ M.tl3 b) W (by rw [List.length_append]; omega))
  rw [M.hd3_join, ← bytes_app] at C4
  rw [M.tl3_join, ← bytes_app] at C5
  rw [← bytes_app] at C3
  obtain ⟨H1, e1⟩ : ∃ S, bytes (M.hd3 a) = S := ⟨_, rfl⟩
  obtain ⟨H2, e2⟩ : ∃ S, bytes (M.hd3 b) = S := ⟨_, rfl⟩
  obtain ⟨T1, e3⟩ : ∃ S, bytes (M.tl3 a) = S := ⟨_, rfl⟩
  obtain ⟨T2, e4⟩ : ∃ S, bytes (M.tl3 b) = S := ⟨_, rfl⟩
  obtain ⟨H3, e5⟩ : ∃ S, bytes (M.hd3 (a ++ b)) = S := ⟨_, rfl⟩
  obtain ⟨T3, e6⟩ : ∃ S, bytes (M.tl3 (a ++ b)) = S := ⟨_, rfl⟩
  have z1 : H1.size ≤ 3 := by rw [← e1, bytes_size]; exact q1
  have z2 : H2.size ≤ 3 := by rw [← e2, bytes_size]; exact q2
  have z3 : T1.size ≤ 3 := by rw [← e3, bytes_size]; exact q3
  have z4 : T2.size ≤ 3 := by rw [← e4, bytes_size]; exact q4
  obtain ⟨n1, f1⟩ : ∃ n, M.wl a = n := ⟨_, rfl⟩
  obtain ⟨n2, f2⟩ : ∃ n, M.wl b = n := ⟨_, rfl⟩
  obtain ⟨n3, f3⟩ : ∃ n, M.wl (M.tl3 a) = n := ⟨_, rfl⟩
  obtain ⟨n4, f4⟩ : ∃ n, M.wl (M.hd3 b) = n := ⟨_, rfl⟩
  obtain ⟨n5, f5⟩ : ∃ n, M.wl (M.tl3 a ++ M.hd3 b) = n := ⟨_, rfl⟩
  obtain ⟨n6, f6⟩ : ∃ n : Int, (M.wl (a ++ b) : Int) = n := ⟨_, rfl⟩
  have J2 : ((n1 : Int) + n2 - ((n3 : Int) + n4 - n5)) = n6 := by rw [← f6]; omega
  rw [e3, f3] at C1
  rw [e2, f4] at C2
  rw [e3, e2, f5] at C3
  rw [e1, e2, e5] at C4
  rw [e3, e4, e6] at C5
  rw [e1, e2, e3, e4, e5, e6, f1, f2, f6]
  have k1 : (n1 : Int) ≤ 1000000 := by omega
  have k2 : (n2 : Int) ≤ 1000000 := by omega
  have k3 : (n3 : Int) ≤ 3 := by omega
  have k4 : (n4 : Int) ≤ 3 := by omega
  have k5 : (n5 : Int) ≤ 6 := by omega
  have HJ := Lib.hid J2
  clear J L1 L2 L3 L4 L5 q1 q2 q3 q4 e1 e2 e3 e4 e5 e6 f1 f2 f3 f4 f5 f6 J2 ha
  obtain ⟨W0, hW0⟩ : ∃ W, ((w.alloc (.cells #[.int .i64 n1, .string H1, .string T1] 53)).alloc (.cells #[.int .i64 n2, .string H2, .string T2] 53)).alloc (.cells #[.int .i64 0, .string ⟨#[]⟩, .string ⟨#[]⟩] 53) = W := ⟨_, rfl⟩
  have b0 := Lib.hid ((((Below.refl w.heap.size w).alloc (Nat.le_refl _) (.cells #[.int .i64 n1, .string H1, .string T1] 53)).alloc (by simp) (.cells #[.int .i64 n2, .string H2, .string T2] 53)).alloc (by simp; omega) (.cells #[.int .i64 0, .string ⟨#[]⟩, .string ⟨#[]⟩] 53))
  rw [hW0] at b0
  have s2 : SB W0 (w.heap.size + 1 + 1) #[.int .i64 0, .string ⟨#[]⟩, .string ⟨#[]⟩] := by
    have := SB.new ((w.alloc (.cells #[.int .i64 n1, .string H1, .string T1] 53)).alloc (.cells #[.int .i64 n2, .string H2, .string T2] 53)) #[.int .i64 0, .string ⟨#[]⟩, .string ⟨#[]⟩]
    rw [hW0] at this
    simpa using this
  have is6 : Is6 w.heap.size (w.heap.size + 1) (.int .i64 n1) (.string H1) (.string T1) (.int .i64 n2) (.string H2) (.string T2) W0 := by
    have h1 := (SB.new w #[.int .i64 n1, .string H1, .string T1]).keep (((Below.refl _ _).alloc (Nat.le_refl _) (.cells #[.int .i64 n2, .string H2, .string T2] 53)).alloc (by simp) (.cells #[.int .i64 0, .string ⟨#[]⟩, .string ⟨#[]⟩] 53))
    have h2 := (SB.new (w.alloc (.cells #[.int .i64 n1, .string H1, .string T1] 53)) #[.int .i64 n2, .string H2, .string T2]).keep ((Below.refl _ _).alloc (Nat.le_refl _) (.cells #[.int .i64 0, .string ⟨#[]⟩, .string ⟨#[]⟩] 53))
    rw [hW0] at h1 h2
    simp only [World.size_alloc] at h2
    exact ⟨h1.cell 0, h1.cell 1, h1.cell 2, h2.cell 0, h2.cell 1, h2.cell 2⟩
  have HW0 := Lib.hid hW0
  clear hW0
  go_enter Try.func50, Try.ntmps50
  go_upto_region 1 with fail
  rw [HW0.out]
  refine wp_region_noPanic ?_
  refine wp_region_held_drew (S := Is6 w.heap.size (w.heap.size + 1) (.int .i64 n1) (.string H1) (.string T1) (.int .i64 n2) (.string H2) (.string T2)) (by kernel_rfl) is6 (fun hS => ?_)
  refine wpAnyH_take (i := 0) (oi := _) (v := ?_) (List.getElem?_toArray.trans (by simp only [List.getElem?_cons_succ, List.getElem?_cons_zero]; exact rfl)) (by kernel_rfl) (by kernel_rfl) (by kernel_rfl) (fun _ _ _ h => h) (Or.inl ⟨by rfl, ?_⟩) (by assumption) ?_
  rotate_left
  · (intro V hSV; (try dsimp only at hSV); (try obtain ⟨s0, s1, s2, s3, s4, s5⟩ := hSV); go_simp; (try rw [if_neg (by omega)]); (try with_reducible rfl))
  try simp only [List.getElem_toArray, List.getElem_cons_succ, List.getElem_cons_zero, Act.put, List.setIfInBounds_toArray, List.set_cons_zero, List.set_cons_succ]
  refine wpAnyH_take (i := 1) (oi := _) (v := ?_) (List.getElem?_toArray.trans (by simp only [List.getElem?_cons_succ, List.getElem?_cons_zero]; exact rfl)) (by kernel_rfl) (by kernel_rfl) (by kernel_rfl) (fun _ _ _ h => h) (Or.inl ⟨by rfl, ?_⟩) (by assumption) ?_
  rotate_left
  · (intro V hSV; (try dsimp only at hSV); (try obtain ⟨s0, s1, s2, s3, s4, s5⟩ := hSV); go_simp; (try rw [if_neg (by omega)]); (try with_reducible rfl))
  try simp only [List.getElem_toArray, List.getElem_cons_succ, List.getElem_cons_zero, Act.put, List.setIfInBounds_toArray, List.set_cons_zero, List.set_cons_succ]
  refine wpAnyH_take (i := 3) (oi := _) (v := ?_) (List.getElem?_toArray.trans (by simp only [List.getElem?_cons_succ, List.getElem?_cons_zero]; exact rfl)) (by kernel_rfl) (by kernel_rfl) (by kernel_rfl) (fun _ _ _ h => h) (Or.inl ⟨by rfl, ?_⟩) (by assumption) ?_
  rotate_left
  · (intro V hSV; (try dsimp only at hSV); (try obtain ⟨s0, s1, s2, s3, s4, s5⟩ := hSV); go_simp; (try rw [if_neg (by omega)]); (try with_reducible rfl))
  try simp only [List.getElem_toArray, List.getElem_cons_succ, List.getElem_cons_zero, Act.put, List.setIfInBounds_toArray, List.set_cons_zero, List.set_cons_succ]
  refine wpAnyH_take (i := 4) (oi := _) (v := ?_) (List.getElem?_toArray.trans (by simp only [List.getElem?_cons_succ, List.getElem?_cons_zero]; exact rfl)) (by kernel_rfl) (by kernel_rfl) (by kernel_rfl) (fun _ _ _ h => h) (Or.inl ⟨by rfl, ?_⟩) (by assumption) ?_
  rotate_left
  · (intro V hSV; (try dsimp only at hSV); (try obtain ⟨s0, s1, s2, s3, s4, s5⟩ := hSV); go_simp; (try rw [if_neg (by omega)]); (try with_reducible rfl))
  try simp only [List.getElem_toArray, List.getElem_cons_succ, List.getElem_cons_zero, Act.put, List.setIfInBounds_toArray, List.set_cons_zero, List.set_cons_succ]
  refine wpAnyH_ready (rs := [2]) (by kernel_rfl) (by simp) ?_
  refine AllReadyH.cons rfl (fun K hK => ?_) AllReadyH.nil
  go_simp
  refine (C1.out _).mono ?_
  rintro e w1 ⟨rfl, hb1⟩
  refine hK.out _ _ (Is6.keep hS hb1) (fun hS => ?_)
  clear hK K
  refine wpAnyH_ready (rs := [5]) (by kernel_rfl) (by simp) ?_
  refine AllReadyH.cons rfl (fun K hK => ?_) AllReadyH.nil
  go_simp
  refine (C2.out _).mono ?_
  rintro e w2 ⟨rfl, hb2⟩
  refine hK.out _ _ (Is6.keep hS hb2) (fun hS => ?_)
  clear hK K
  refine wpAnyH_take (i := 6) (oi := _) (v := ?_) (List.getElem?_toArray.trans (by simp only [List.getElem?_cons_succ, List.getElem?_cons_zero]; exact rfl)) (by kernel_rfl) (by kernel_rfl) (by kernel_rfl) (fun _ _ _ h => h) (Or.inl ⟨by rfl, ?_⟩) (by assumption) ?_
  rotate_left
  · (intro V hSV; (try dsimp only at hSV); (try obtain ⟨s0, s1, s2, s3, s4, s5⟩ := hSV); go_simp; (try rw [if_neg (by omega)]); (try with_reducible rfl))
  try simp only [List.getElem_toArray, List.getElem_cons_succ, List.getElem_cons_zero, Act.put, List.setIfInBounds_toArray, List.set_cons_zero, List.set_cons_succ]
  refine wpAnyH_take (i := 7) (oi := _) (v := ?_) (List.getElem?_toArray.trans (by simp only [List.getElem?_cons_succ, List.getElem?_cons_zero]; exact rfl)) (by kernel_rfl) (by kernel_rfl) (by kernel_rfl) (fun _ _ _ h => h) (Or.inl ⟨by rfl, ?_⟩) (by assumption) ?_
  rotate_left
  · (intro V hSV; (try dsimp only at hSV); (try obtain ⟨s0, s1, s2, s3, s4, s5⟩ := hSV); go_simp; (try rw [if_neg (by omega)]); (try with_reducible rfl))
  try simp only [List.getElem_toArray, List.getElem_cons_succ, List.getElem_cons_zero, Act.put, List.setIfInBounds_toArray, List.set_cons_zero, List.set_cons_succ]
  refine wpAnyH_done (by kernel_rfl) ?_ _
  refine NoPanic.normal ?_
  have d1 := Lib.hid ((b0.out.drew).trans ((hb1.trans (hb2.mono hb1.size)).mono b0.out.drew.size))
  have s22 := (SB.keep (w := W0.drew) s2 hb1).keep hb2
  clear hb1 hb2 is6
  rw [show IntKind.i64.wrap ((n3 : Int) + n4) = (n3 : Int) + n4 by rw [IntKind.wrap_i64]; omega]
  have HS := Lib.hid hS
  obtain ⟨p0, p1, p2, p3, p4, p5⟩ := hS
  go_wp2_with fail
  refine (C3.out _).mono ?_
  rintro e w3 ⟨rfl, hb3⟩
  have d3 := Lib.hid (d1.out.trans (hb3.mono d1.out.size))
  have s23 := s22.keep hb3
  have hS3 := Is6.keep HS.out hb3
  clear hb3 d1 s22 p0 p1 p2 p3 p4 p5 HS s2
  obtain ⟨p0, p1, p2, p3, p4, p5⟩ := hS3
  have a1 : ∀ W, (Op.stringOp .add H1 H2).run Try.prog W = .ok (.string (H1 ++ H2)) W := fun W => run_string_add W _ _ (by omega) (by omega)
  have a2 : ∀ W, (Op.stringOp .add T1 T2).run Try.prog W = .ok (.string (T1 ++ T2)) W := fun W => run_string_add W _ _ (by omega) (by omega)
  have v1 : IntKind.i64.wrap ((n1 : Int) + n2) = (n1 : Int) + n2 := by rw [IntKind.wrap_i64]; omega
  have v2 : IntKind.i64.wrap ((n1 : Int) + n2 - ((n3 : Int) + n4 - n5)) = n6 := by rw [IntKind.wrap_i64, ← HJ.out]; omega
  go_upto_region 3 with fail
  refine wp_region_still_tail 20 (by kernel_rfl) (by kernel_rfl) ?_
  simp only [List.take_succ_cons, List.take_zero, List.drop_succ_cons, List.drop_zero]
  repeat still_step
  still_call ((C4.out _).mono fun _ _ h => ⟨h.1, h.2.symm⟩)
  repeat still_step
  still_call ((C5.out _).mono fun _ _ h => ⟨h.1, h.2.symm⟩)
  repeat still_step
  refine wpStill_nil ?_
  change wpList _ _ _ _ _ w3.drew
  refine wpl_stS rfl _ _ rfl (w.heap.size + 1 + 1) _ #[.int .i64 n6, .string H3, .string T3] rfl rfl s23 rfl rfl (str_one _ _ _) ?_
  go_wp2
  (try simp only [Exit.inBlock, Exit.then])
  refine bodyPost_ret (res_str rfl _ _ (w.heap.size + 1 + 1) _ rfl (SB.set (w := w3.drew) s23 _) rfl) rfl ?_
  exact ⟨rfl, below_setRowD d3.out.drew (by omega) _⟩
end Go.Proofs.Ytehofomfblfhaaa
