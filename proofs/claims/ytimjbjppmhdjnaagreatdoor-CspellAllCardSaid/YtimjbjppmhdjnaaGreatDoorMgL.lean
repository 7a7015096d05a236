import Derived.Test.YtimjbjppmhdjnaaGreatDoorMgB
import Derived.Test.YtimjbjppmhdjnaaGreatDoorMgD
import Derived.Laws.Tables
import Derived.Laws.Rows
import Derived.Laws.ResultCell
import Derived.Outline
import Derived.Test.YtimjbjppmhdjnaaGreatDoorMgE
import Derived.Deep.QuietTactic
import Derived.BigQuiet
import Derived.StillTail
import Derived.StillTactics
set_option maxHeartbeats 8000000
set_option maxRecDepth 100000
namespace Go.Proofs.YtimjbjppmhdjnaaGreatDoor
open Go.RowKit
set_option linter.unusedVariables false
set_option linter.unusedSimpArgs false
def ctv (t : M.CT) (z : Int) : Array Value := #[.int .i64 t.kind, .string (bytes t.text), .string (bytes t.unit), .bool t.num.1, .string (bytes t.num.2.1), .string (bytes t.num.2.2), .bool t.flag, .bool t.sign, .int .i64 0, .int .i64 0, .int .i64 0, .int .i64 0, .int .i64 z]
theorem ctv_one (t : M.CT) (z : Int) : (ctv t z).all (·.oneCell') = true := by
 rw [Array.all_eq_true_iff_forall_mem]
 intro x hx
 simp only [ctv, List.mem_toArray, List.mem_cons, List.mem_nil_iff, or_false] at hx
 rcases hx with rfl | rfl | rfl | rfl | rfl | rfl | rfl | rfl | rfl | rfl | rfl | rfl | rfl <;> rfl
theorem infoC : (Tryz.prog.info? 33).map (fun i => (i.zero, i.size, i.bytes)) = some (some (.agg (ctv {} 0)), 13, 128) := by kernel_rfl
theorem infoC13 : (Tryz.prog.info? 33).map (·.size) = some 13 := by kernel_rfl
def CB (w : World) (b : Nat) (cs : Array Value) : Prop := w.heap[b]? = some (.cells cs 33 (0, 0))
theorem CB.lt {w : World} {b : Nat} {cs : Array Value} (h : CB w b cs) : b < w.heap.size := (Array.getElem?_eq_some_iff.1 h).1
theorem CB.keep {w w' : World} {b : Nat} {cs : Array Value} (h : CB w b cs) {B : Nat} (hb : Below B w w') (hB : b < B) : CB w' b cs := by
 unfold CB; rw [hb.block b hB]; exact h
theorem CB.new (w : World) (cs : Array Value) : CB (w.alloc (.cells cs 33)) w.heap.size cs := heap_alloc_new w _
theorem CB.set {w : World} {b : Nat} {cs : Array Value} (h : CB w b cs) (ds : Array Value) : CB (w.setRow b ds) b ds := setRow_heap w b cs ds _ _ h
theorem CB.cell {w : World} {b : Nat} {cs : Array Value} (h : CB w b cs) (j : Nat) : w.cell? ⟨b, j, none⟩ = cs[j]? := cell_of_row w b j cs _ _ h
theorem CB.free {w : World} {b : Nat} {cs : Array Value} (h : CB w b cs) (j : Nat) : w.frozen? ⟨b, j, none⟩ = false := by unfold World.frozen?; rw [h]; simp
theorem CB.put {w : World} {b : Nat} {cs : Array Value} (h : CB w b cs) (j : Nat) (u : Value) : CB (w.setCell ⟨b, j, none⟩ u) b (cs.setIfInBounds j u) := by
 rw [setCell_eq_setRow w b j cs _ _ u h]; exact setRow_heap w b cs _ _ _ h
theorem CB.other {w : World} {b : Nat} {cs : Array Value} (h : CB w b cs) {c : Nat} (hne : b ≠ c) (j : Nat) (u : Value) : CB (w.setCell ⟨c, j, none⟩ u) b cs := by
 unfold CB; rw [Below.heap_setCell _ _ _ _ (fun e => hne e)]; exact h
theorem below_setRow {B : Nat} {a w : World} (h : Below B a w) {g : Nat} (hg : B <= g) (cs : Array Value) : Below B a (w.setRow g cs) :=
 ⟨h.os, h.tape, h.output, by rw [setRow_size]; exact h.size, fun k hk => by rw [setRow_other w g k cs (by omega)]; exact h.block k hk⟩
theorem wpl_stT {ops : Array Oper} {rest : List Oper} {o : Oper} {a : Act} {w : World} {Q : Exit -> Act -> World -> Prop} (hgd : o.guard = none) (x y : Operand) (ho : o.op = .store 33 x y)
  (g : Nat) (old cells : Array Value) (hx : a.eval x = .pointer (some ⟨g, 0, none⟩)) (hy : a.eval y = .agg cells) (hg : CB w g old) (hs : old.size = 13) (hc : cells.size = 13) (h1 : cells.all (·.oneCell') = true)
  (h : wpList Tryz.prog ops Q rest (a.put o.dst undef) (w.setRow g cells)) : wpList Tryz.prog ops Q (o :: rest) a w :=
 wpList_store_row hgd 33 x y ho g cells hx hy 33 old hg (by rw [hc]; exact infoC13) (by rw [hs, hc]) h1 h
theorem wpl_ldT {ops : Array Oper} {rest : List Oper} {o : Oper} {a : Act} {w : World} {Q : Exit -> Act -> World -> Prop} (hgd : o.guard = none) (x : Operand) (ho : o.op = .load 33 x)
  (g : Nat) (cs : Array Value) (hx : a.eval x = .pointer (some ⟨g, 0, none⟩)) (hg : CB w g cs) (hs : cs.size = 13)
  (h : wpList Tryz.prog ops Q rest (a.put o.dst (.agg cs)) w) : wpList Tryz.prog ops Q (o :: rest) a w :=
 wpList_load_row hgd 33 x ho g hx 33 cs (0, 0) _ hg Tryz.underlying33 rfl (by rw [hs]; exact infoC13) h
theorem res_tok {fn : Func} {p u : Tmp} (h : fn.results = #[.cell p 33, .tmp u]) (tmps : Array Value) (w : World) (g : Nat) (cs : Array Value) (k : Int)
  (hp : tmps.getD p undef = .pointer (some ⟨g, 0, none⟩)) (hu : tmps.getD u undef = .int .i64 k) (hg : CB w g cs) (hs : cs.size = 13) :
  (results fn tmps).run Tryz.prog w = .ok (.tuple #[.agg cs, .int .i64 k]) w := by
 rw [results_cell_tmp h, hp, hu]
 have : (asAddr (.pointer (some ⟨g, 0, none⟩))).run Tryz.prog w = .ok ⟨g, 0, none⟩ w := rfl
 rw [this]
 simp only [Result.andThen]
 rw [run_loadVar_row w g 33 33 cs (0, 0) _ hg Tryz.underlying33 rfl (by rw [hs]; exact infoC13)]
def TkR (w : World) (t : M.CT) (k : Nat) (e : Ending) (w' : World) : Prop := e = .returned (.tuple #[.agg (ctv t 0), .int .i64 (k : Int)]) /\ Below w.heap.size w w'
theorem getD_end (c : List Int) (n i : Nat) (hn : c.length = n) (h : n <= i) : c.getD i (-1) = -1 := by simp [List.getD, List.getElem?_eq_none (show c.length <= i by omega)]
theorem lc_at {w : World} {v : Value} {c : List Int} (hv : Lc w v c) {n : Nat} (hn : c.length = n) : ∃ a cap, v = .slice a n cap /\ n <= cap /\ cap <= maxLen /\ ∀ i, i < n -> ∃ b off, a = some ⟨b, off, none⟩ /\ b < w.heap.size /\ w.cell? ⟨b, off + i * 2, none⟩ = some (.int .i64 (c.getD i (-1))) := by
 obtain ⟨a, cap, rfl, h1, h2, h3⟩ := hv
 subst hn
 refine ⟨a, cap, rfl, h1, h2, fun i hi => ?_⟩
 obtain ⟨b, off, rfl, hb, hc⟩ := h3 (by omega)
 exact ⟨b, off, rfl, hb, hc i hi⟩
theorem fdig_any (v : Value) (c : List Int) (i : Nat) (b : Bool) (w : World) (hv : Lc w v c) (hl : c.length <= 4294967290) (hi : i <= 4294967290) (h : M.nDg (c.getD i (-1)) = b) :
  Calls Tryz.prog 184 #[v, .int .i64 (i : Int)] w fun e w' => e = .returned (.bool b) /\ w = w' := by
 obtain ⟨n, hn⟩ : ∃ n, c.length = n := ⟨_, rfl⟩
 obtain ⟨a, cap, rfl, h1, h2, h3⟩ := lc_at hv hn
 rw [hn] at hl
 by_cases hin : i < n
 ·obtain ⟨p, off, rfl, hp, c0⟩ := h3 i hin
  have i1 : (0 : Int) <= i := by omega
  have i2 : (i : Int) < n := by omega
  obtain ⟨y, hy⟩ : ∃ y, c.getD i (-1) = y := ⟨_, rfl⟩
  rw [hy] at c0 h
  clear hn hy h3 hin hv
  by_cases ha : 48 <= y
  ·by_cases hb : y <= 57
   ·obtain rfl : true = b := by rw [<- h]; symm; rw [M.nDg_iff]; omega
    clear h
    go_enter Tryz.func184, Tryz.ntmps184
    go_wp2
    go_ret
    exact ⟨by first | rfl | (simp; done) | (simp; omega), rfl⟩
   ·obtain rfl : false = b := by rw [<- h]; symm; rw [M.nDg_not]; omega
    clear h
    go_enter Tryz.func184, Tryz.ntmps184
    go_wp2
    go_ret
    exact ⟨by first | rfl | (simp; done) | (simp; omega), rfl⟩
  ·obtain rfl : false = b := by rw [<- h]; symm; rw [M.nDg_not]; omega
   clear h
   go_enter Tryz.func184, Tryz.ntmps184
   go_wp2
   go_ret
   exact ⟨by first | rfl | (simp; done) | (simp; omega), rfl⟩
 ·rw [getD_end c n i hn (by omega)] at h
  obtain rfl : false = b := by rw [<- h]; decide
  have i2 : (n : Int) <= i := by omega
  clear h3 hv hn h hin
  go_enter Tryz.func184, Tryz.ntmps184
  go_wp2
  go_ret
  exact ⟨by first | rfl | (simp; done) | (simp; omega), rfl⟩
theorem finn_any (v : Value) (c : List Int) (i : Nat) (b : Bool) (w : World) (hv : Lc w v c) (hl : c.length <= 4294967290) (hi : i <= 4294967290) (h : M.inNm (c.drop i) = b) :
  Calls Tryz.prog 148 #[v, .int .i64 (i : Int)] w fun e w' => e = .returned (.bool b) /\ w = w' := by
 have E1 := Lib.hid (ebegins_any v c i (M.esB (c.drop i)) w hv (by omega) (by rw [if_neg (by omega)]; simp))
 unfold M.inNm at h
 rw [getD_drop, Nat.add_zero] at h
 obtain ⟨n, hn⟩ : ∃ n, c.length = n := ⟨_, rfl⟩
 obtain ⟨a, cap, rfl, h1, h2, h3⟩ := lc_at hv hn
 rw [hn] at hl
 by_cases hin : i < n
 ·obtain ⟨p, off, rfl, hp, c0⟩ := h3 i hin
  have i1 : (0 : Int) <= i := by omega
  have i2 : (i : Int) < n := by omega
  obtain ⟨y, hy⟩ : ∃ y, c.getD i (-1) = y := ⟨_, rfl⟩
  rw [hy] at c0 h
  have X1 := Lib.hid (nin_any y _ w rfl)
  obtain ⟨q, hq⟩ : ∃ q, M.nIn y = q := ⟨_, rfl⟩
  obtain ⟨r, hr⟩ : ∃ q, M.esB (c.drop i) = q := ⟨_, rfl⟩
  rw [hq] at h X1
  rw [hr] at h E1
  clear hn hy h3 hin hv hq hr
  cases q with
  | true =>
   simp at h
   subst h
   go_enter Tryz.func148, Tryz.ntmps148
   go_wp2_with fail
   refine (X1.out).mono ?_
   rintro e w' ⟨rfl, rfl⟩
   go_wp2
   go_ret
   exact ⟨rfl, rfl⟩
  | false =>
   rw [Bool.false_or] at h
   subst h
   go_enter Tryz.func148, Tryz.ntmps148
   go_wp2_with fail
   refine (X1.out).mono ?_
   rintro e w' ⟨rfl, rfl⟩
   go_wp2_with fail
   refine (E1.out).mono ?_
   rintro e w' ⟨rfl, rfl⟩
   go_wp2
   go_ret
   exact ⟨rfl, rfl⟩
 ·rw [getD_end c n i hn (by omega)] at h
  have e0 : M.esB (c.drop i) = false := by rw [List.drop_eq_nil_of_le (by omega)]; rfl
  rw [e0] at h E1
  obtain rfl : false = b := by rw [<- h]; decide
  have i2 : (n : Int) <= i := by omega
  clear h3 hv hn h hin e0
  go_enter Tryz.func148, Tryz.ntmps148
  go_wp2_with fail
  refine (E1.out).mono ?_
  rintro e w' ⟨rfl, rfl⟩
  go_wp2
  go_ret
  exact ⟨rfl, rfl⟩
theorem finu_any (r : Int) (b : Bool) (w : World) (h : M.inU r = b) :
  Calls Tryz.prog 210 #[.int .i64 r] w fun e w' => e = .returned (.bool b) /\ w = w' := by
 by_cases hs : r = 34 \/ r = 39 \/ r = 40 \/ r = 92 \/ r = 11 \/ r = 127
 ·rcases hs with rfl | rfl | rfl | rfl | rfl | rfl
  all_goals
   obtain rfl : false = b := by rw [<- h]; decide
   clear h
   go_enter Tryz.func210, Tryz.ntmps210
   go_wp2
   go_ret
   exact ⟨by first | rfl | (simp; done) | (simp; omega), rfl⟩
 ·have t1 : (r == 34) = false := by rw [beq_eq_false_iff_ne]; omega
  have t2 : (r == 39) = false := by rw [beq_eq_false_iff_ne]; omega
  have t3 : (r == 40) = false := by rw [beq_eq_false_iff_ne]; omega
  have t4 : (r == 92) = false := by rw [beq_eq_false_iff_ne]; omega
  have t5 : (r == 11) = false := by rw [beq_eq_false_iff_ne]; omega
  have t6 : (r == 127) = false := by rw [beq_eq_false_iff_ne]; omega
  have hb : (9 <= r /\ (r < 14 \/ 31 < r)) ↔ b = true := by
   rw [<- h]
   simp [M.inU]
   omega
  clear hs h
  have HB := Lib.hid hb
  clear hb
  by_cases h9 : 9 <= r
  ·by_cases h14 : r < 14
   ·obtain rfl : b = true := HB.out.1 ⟨h9, .inl h14⟩
    clear HB
    go_enter Tryz.func210, Tryz.ntmps210
    go_wp2
    go_ret
    exact ⟨by first | rfl | (simp; done) | (simp; omega), rfl⟩
   ·by_cases h31 : 31 < r
    ·obtain rfl : b = true := HB.out.1 ⟨h9, .inr h31⟩
     clear HB
     go_enter Tryz.func210, Tryz.ntmps210
     go_wp2
     go_ret
     exact ⟨by first | rfl | (simp; done) | (simp; omega), rfl⟩
    ·obtain rfl : b = false := by
      cases b with
      | false => rfl
      | true => have := HB.out.2 rfl; omega
     clear HB
     go_enter Tryz.func210, Tryz.ntmps210
     go_wp2
     go_ret
     exact ⟨by first | rfl | (simp; done) | (simp; omega), rfl⟩
  ·obtain rfl : b = false := by
    cases b with
    | false => rfl
    | true => have := HB.out.2 rfl; omega
   clear HB
   go_enter Tryz.func210, Tryz.ntmps210
   go_wp2
   go_ret
   exact ⟨by first | rfl | (simp; done) | (simp; omega), rfl⟩
theorem below_drewNF {B : Nat} {a w : World} (h : Below B a w) (n : Nat) : Below B a (w.drewN n) := ⟨h.os, h.tape, h.output, h.size, h.block⟩
theorem get_ofF (l : List UInt8) (S : ByteArray) (hS : bytes l = S) : S.size = l.length /\ ∀ (j : Nat) (h : j < S.size) (h2 : j < l.length), S[j]'h = l[j] := by
 subst hS
 exact ⟨bytes_size l, fun j h h2 => rfl⟩
def asI (s : List UInt8) : List Int := s.map fun x => (x.toNat : Int)
theorem stC_at (s c : List Int) : M.stC s c = true ↔ s.length <= c.length /\ ∀ j, j < s.length -> c.getD j (-1) = s.getD j 0 := by
 induction s generalizing c with
 | nil => simp [M.stC]
 | cons a t ih =>
  cases c with
  | nil => simp [M.stC]
  | cons b u =>
   have e : M.stC (a :: t) (b :: u) = (a == b && M.stC t u) := rfl
   rw [e, Bool.and_eq_true, ih, beq_iff_eq]
   constructor
   ·rintro ⟨rfl, h1, h2⟩
    refine ⟨by simpa using h1, fun j hj => ?_⟩
    cases j with
    | zero => rfl
    | succ j => simpa using h2 j (by simpa using hj)
   ·rintro ⟨h1, h2⟩
    refine ⟨by have := h2 0 (by simp); simpa using this.symm, by simpa using h1, fun j hj => ?_⟩
    have := h2 (j + 1) (by simp; omega)
    simpa using this
theorem fstands_any (v : Value) (c : List Int) (i : Nat) (s : List UInt8) (b : Bool) (w : World) (hv : Lc w v c) (hl : c.length <= 4294967290) (hi : i <= 4294967290) (hs : s.length <= 100) (hs0 : 1 <= s.length) (h : M.stC (asI s) (c.drop i) = b) :
  Calls Tryz.prog 143 #[v, .int .i64 (i : Int), .string (bytes s)] w fun e w' => e = .returned (.bool b) /\ Below w.heap.size w w' := by
 obtain ⟨n, hn⟩ : ∃ n, c.length = n := ⟨_, rfl⟩
 obtain ⟨a, cap, rfl, h1, h2, h3⟩ := lc_at hv hn
 obtain ⟨S, hS⟩ : ∃ S, bytes s = S := ⟨_, rfl⟩
 obtain ⟨hsz, hget⟩ := get_ofF s S hS
 rw [hS]
 rw [hn] at hl
 obtain ⟨m, hm⟩ : ∃ m, S.size = m := ⟨_, rfl⟩
 have hb : b = true ↔ m + i <= max n i /\ ∀ j, j < m -> c.getD (i + j) (-1) = ((s.getD j 0).toNat : Int) := by
  rw [<- h, stC_at]
  unfold asI
  rw [List.length_map, List.length_drop, hn, <- hsz, hm]
  constructor
  ·rintro ⟨e1, e2⟩
   refine ⟨by omega, fun j hj => ?_⟩
   have := e2 j hj
   rw [getD_drop] at this
   rw [this]
   simp [List.getD, show j < s.length by omega]
  ·rintro ⟨e1, e2⟩
   refine ⟨by omega, fun j hj => ?_⟩
   rw [getD_drop, e2 j hj]
   simp [List.getD, show j < s.length by omega]
 have HB := Lib.hid hb
 have Hget := Lib.hid hget
 have HSZ := Lib.hid hsz
 have HM := Lib.hid hm
 have H3 := Lib.hid h3
 have s1 : S.size <= 100 := by omega
 have m1 : m <= 100 := by omega
 have m0 : 1 <= m := by omega
 clear hv hS hb hget hsz h3 h
 by_cases hshort : (n : Int) - i < m
 ·obtain rfl : b = false := by
   cases b with
   | false => rfl
   | true =>
    have := (HB.out.1 rfl).1
    omega
  rw [<- hm] at hshort
  have i0 : (0 : Int) <= i := by omega
  clear hm hn
  go_enter Tryz.func143, Tryz.ntmps143
  go_wp2
  go_ret
  exact ⟨rfl, Below.refl _ _⟩
 ·rw [<- hm] at hshort
  have i0 : (0 : Int) <= i := by omega
  have hfit : m + i <= n := by omega
  clear hm hn
  go_enter Tryz.func143, Tryz.ntmps143
  go_wp2
  go_loopw [17] (fun kv wr => ∃ k : Nat, kv = .int .i64 (k : Int) /\ k <= m /\ (∀ j, j < k -> c.getD (i + j) (-1) = ((s.getD j 0).toNat : Int)) /\ Below w.heap.size w wr) (fun kv _ => m - (intOf kv).toNat)
  case atStart => exact ⟨0, rfl, by omega, fun j hj => by omega, Below.refl _ _⟩
  case round =>
   obtain ⟨k, rfl, hk, hall, hb⟩ := hrel
   have HA := Lib.hid hall
   have HW := Lib.hid hb
   clear hall hb
   by_cases hlt : k < m
   ·obtain ⟨q, hq⟩ : ∃ q, i + k = q := ⟨_, rfl⟩
    obtain ⟨p, off, rfl, hp, c0⟩ := H3.out q (by omega)
    have cr := HW.out.cell (p := ⟨p, off + q * 2, none⟩) hp
    rw [c0] at cr
    have hks : k < S.size := by rw [HM.out]; exact hlt
    have hkl : k < s.length := by rw [<- HSZ.out]; exact hks
    have hsk := Hget.out k hks hkl
    have hsd : s.getD k 0 = s[k] := by simp [List.getD, hkl]
    obtain ⟨x, hx⟩ : ∃ x, s[k] = x := ⟨_, rfl⟩
    rw [hx] at hsk hsd
    obtain ⟨y, hy⟩ : ∃ y, c.getD q (-1) = y := ⟨_, rfl⟩
    rw [hy] at cr
    have q' : (i : Int) + k = q := by omega
    have k1 : (k : Int) < S.size := by omega
    have k0 : (0 : Int) <= k := by omega
    have q0 : (0 : Int) <= q := by omega
    have q1 : (q : Int) < n := by omega
    have x0 : (0 : Int) <= x.toNat := by omega
    have x1 : (x.toNat : Int) < 256 := by have := x.toNat_lt; omega
    have Hy := Lib.hid hy
    have Hsd := Lib.hid hsd
    have Hq := Lib.hid hq
    clear c0 hy hsd hx hkl hq
    by_cases hne : y = (x.toNat : Int)
    ·have t1 : (y != (x.toNat : Int)) = false := by simp [hne]
     have Hne := Lib.hid hne
     clear hne
     go_wp2
     go_quiet (fail)
     go_wp2
     go_roundw
     case rel =>
      refine ⟨k + 1, by go_num, by omega, fun j hj => ?_, below_drewNF HW.out _⟩
      by_cases hjk : j < k
      ·exact HA.out j hjk
      ·obtain rfl : j = k := by omega
       rw [Hsd.out, Hq.out, Hy.out, Hne.out]
     case measure => simp [intOf]; omega
    ·have t1 : (y != (x.toNat : Int)) = true := by simpa [bne] using hne
     obtain rfl : b = false := by
      cases b with
      | false => rfl
      | true =>
       have := (HB.out.1 rfl).2 k hlt
       rw [Hq.out, Hy.out, Hsd.out] at this
       exact absurd this hne
     clear hne
     go_wp2
     go_quiet (fail)
     go_wp2
     go_ret
     exact ⟨rfl, below_drewNF HW.out _⟩
   ·obtain rfl : k = m := by omega
    obtain rfl : b = true := HB.out.2 ⟨by omega, HA.out⟩
    have k1 : ¬ (k : Int) < S.size := by rw [HM.out]; omega
    clear hlt
    go_wp2
    go_ret
    exact ⟨rfl, HW.out⟩
theorem digN_at (c : List Int) (i : Nat) (h : M.nDg (c.getD i (-1)) = true) : M.digN (c.drop i) = 1 + M.digN (c.drop (i + 1)) := by
 have hi : i < c.length := by
  rcases Nat.lt_or_ge i c.length with h1 | h1
  ·exact h1
  ·simp [List.getD, List.getElem?_eq_none h1, M.nDg] at h
 rw [drop_cons c i hi, M.digN_cons, if_pos (by rwa [getD_lt c i hi] at h)]
theorem digN_out (c : List Int) (i : Nat) (h : M.nDg (c.getD i (-1)) = false) : M.digN (c.drop i) = 0 := by
 by_cases hi : i < c.length
 ·rw [drop_cons c i hi, M.digN_cons, if_neg (by rw [getD_lt c i hi] at h; simp [h])]
 ·rw [List.drop_eq_nil_of_le (by omega)]; rfl
theorem blN_at (c : List Int) (i : Nat) (h : M.isBl (c.getD i (-1)) = true) : M.blN (c.drop i) = 1 + M.blN (c.drop (i + 1)) := by
 have hi : i < c.length := by
  rcases Nat.lt_or_ge i c.length with h1 | h1
  ·exact h1
  ·simp [List.getD, List.getElem?_eq_none h1, M.isBl] at h
 rw [drop_cons c i hi, M.blN_cons, if_pos (by rwa [getD_lt c i hi] at h)]
theorem blN_out (c : List Int) (i : Nat) (h : M.isBl (c.getD i (-1)) = false) : M.blN (c.drop i) = 0 := by
 by_cases hi : i < c.length
 ·rw [drop_cons c i hi, M.blN_cons, if_neg (by rw [getD_lt c i hi] at h; simp [h])]
 ·rw [List.drop_eq_nil_of_le (by omega)]; rfl
theorem fskipd_any (v : Value) (c : List Int) (i k : Nat) (w : World) (hv : Lc w v c) (hl : c.length <= 4294967200) (hi : i <= 4294967200) (h : i + M.digN (c.drop i) = k) :
  Calls Tryz.prog 206 #[v, .int .i64 (i : Int)] w fun e w' => e = .returned (.int .i64 (k : Int)) /\ w = w' := by
 have HV := Lib.hid hv
 have hkl : k <= max i c.length := by
  have := M.digN_le (c.drop i)
  rw [List.length_drop] at this; omega
 have H0 := Lib.hid h
 obtain ⟨a, cap, rfl, h1, h2, h3⟩ := hv
 have HL := Lib.hid hl
 have HI := Lib.hid hi
 have HK := Lib.hid hkl
 clear h h3 h1 h2 hl hi hkl
 go_enter Tryz.func206, Tryz.ntmps206
 go_wp2
 go_loop [1] (fun iv => ∃ j : Nat, iv = .int .i64 (j : Int) /\ j + M.digN (c.drop j) = k /\ j <= k) (fun iv => k - (intOf iv).toNat)
 case atStart => exact ⟨i, rfl, H0.out, by have := H0.out; omega⟩
 case round =>
  obtain ⟨j, rfl, hj, hjk⟩ := hrel
  have HJ := Lib.hid hj
  clear hj
  have hjb : (j : Int) <= 4294967200 := by have := HK.out; have := HL.out; have := HI.out; omega
  cases hd : M.nDg (c.getD j (-1)) with
  | true =>
   have D1 := Lib.hid (fdig_any _ c j true w HV.out (by have := HL.out; omega) (by omega) hd)
   have hs := digN_at c j hd
   have hj2 : j + 1 <= k := by have := HJ.out; omega
   have HS := Lib.hid hs
   clear hd hs
   go_wp2_with fail
   refine (D1.out).mono ?_
   rintro e w' ⟨rfl, rfl⟩
   go_wp2
   go_round
   case rel => exact ⟨j + 1, by go_num, by have := HJ.out; have := HS.out; omega, hj2⟩
   case measure => simp [intOf]; omega
  | false =>
   have D1 := Lib.hid (fdig_any _ c j false w HV.out (by have := HL.out; omega) (by omega) hd)
   obtain rfl : j = k := by have := HJ.out; rw [digN_out c j hd] at this; omega
   clear hd
   go_wp2_with fail
   refine (D1.out).mono ?_
   rintro e w' ⟨rfl, rfl⟩
   go_wp2
   go_ret
   exact ⟨rfl, rfl⟩
theorem fskipb_any (v : Value) (c : List Int) (i k : Nat) (w : World) (hv : Lc w v c) (hl : c.length <= 4294967200) (hi : i <= 4294967200) (h : i + M.blN (c.drop i) = k) :
  Calls Tryz.prog 180 #[v, .int .i64 (i : Int)] w fun e w' => e = .returned (.int .i64 (k : Int)) /\ w = w' := by
 have hkl : k <= max i c.length := by
  have := M.blN_le (c.drop i)
  rw [List.length_drop] at this; omega
 have H0 := Lib.hid h
 obtain ⟨n, hn⟩ : ∃ n, c.length = n := ⟨_, rfl⟩
 obtain ⟨a, cap, rfl, h1, h2, h3⟩ := lc_at hv hn
 have HN := Lib.hid hn
 have H3 := Lib.hid h3
 rw [hn] at hkl hl
 clear h h3 hn hv
 go_enter Tryz.func180, Tryz.ntmps180
 go_wp2
 go_loop [1] (fun iv => ∃ j : Nat, iv = .int .i64 (j : Int) /\ j + M.blN (c.drop j) = k /\ j <= k) (fun iv => k - (intOf iv).toNat)
 case atStart => exact ⟨i, rfl, H0.out, by have := H0.out; omega⟩
 case round =>
  obtain ⟨j, rfl, hj, hjk⟩ := hrel
  have HJ := Lib.hid hj
  clear hj
  have hjb : (j : Int) <= 4294967200 := by omega
  by_cases hjn : j < n
  ·obtain ⟨p, off, rfl, hp, c0⟩ := H3.out j hjn
   have j0 : (0 : Int) <= j := by omega
   have j1 : (j : Int) < n := by omega
   have t1 : decide ((j : Int) < n) = true := by simp; omega
   cases hd : M.isBl (c.getD j (-1)) with
   | true =>
    have D1 := Lib.hid (isbl_any _ true w hd)
    have hs := blN_at c j hd
    have hj2 : j + 1 <= k := by have := HJ.out; omega
    have HS := Lib.hid hs
    obtain ⟨y, hy⟩ : ∃ y, c.getD j (-1) = y := ⟨_, rfl⟩
    rw [hy] at c0 D1
    clear hd hs hy
    go_wp2_with fail
    refine (D1.out).mono ?_
    rintro e w' ⟨rfl, rfl⟩
    go_wp2
    go_round
    case rel => exact ⟨j + 1, by go_num, by have := HJ.out; have := HS.out; omega, hj2⟩
    case measure => simp [intOf]; omega
   | false =>
    have D1 := Lib.hid (isbl_any _ false w hd)
    obtain rfl : j = k := by have := HJ.out; rw [blN_out c j hd] at this; omega
    obtain ⟨y, hy⟩ : ∃ y, c.getD j (-1) = y := ⟨_, rfl⟩
    rw [hy] at c0 D1
    clear hd hy
    go_wp2_with fail
    refine (D1.out).mono ?_
    rintro e w' ⟨rfl, rfl⟩
    go_wp2
    go_ret
    exact ⟨rfl, rfl⟩
  ·obtain rfl : j = k := by
    have := HJ.out
    rw [List.drop_eq_nil_of_le (by rw [HN.out]; omega), M.blN_nil] at this; omega
   have j1 : ¬ (j : Int) < n := by omega
   have t1 : decide ((j : Int) < n) = false := by simp; omega
   clear hjn
   go_wp2
   go_ret
   exact ⟨rfl, rfl⟩
theorem stC_one (r : Int) (c : List Int) (i : Nat) (hr : r ≠ -1) : M.stC [r] (c.drop i) = decide (c.getD i (-1) = r) := by
 by_cases hi : i < c.length
 ·rw [drop_cons c i hi, getD_lt c i hi]
  show (r == c[i] && true) = _
  rw [Bool.and_true]
  by_cases h : c[i] = r
  ·simp [h]
  ·simp [h, Ne.symm h]
 ·rw [List.drop_eq_nil_of_le (by omega)]
  simp [M.stC, List.getD, List.getElem?_eq_none (show c.length <= i by omega), Ne.symm hr]
theorem fst_one (x : UInt8) (v : Value) (c : List Int) (i : Nat) (b : Bool) (w : World) (hv : Lc w v c) (hl : c.length <= 4294967290) (hi : i <= 4294967290) (h : decide (c.getD i (-1) = (x.toNat : Int)) = b) :
  ∀ W, Below w.heap.size w W -> Calls Tryz.prog 143 #[v, .int .i64 (i : Int), .string ⟨#[x]⟩] W fun e w' => e = .returned (.bool b) /\ Below W.heap.size W w' := by
 intro W hW
 have := fstands_any v c i [x] b W (hv.keep hW) hl hi (by simp) (by simp) (by rw [show asI [x] = [(x.toNat : Int)] from rfl, stC_one _ c i (by omega)]; exact h)
 exact this
theorem fsign_any (v : Value) (c : List Int) (i k : Nat) (w : World) (hv : Lc w v c) (hl : c.length <= 4294967200) (hi : i <= 4294967200) (h : i + M.sgN (c.drop i) = k) :
  Calls Tryz.prog 183 #[v, .int .i64 (i : Int)] w fun e w' => e = .returned (.int .i64 (k : Int)) /\ Below w.heap.size w w' := by
 unfold M.sgN at h
 rw [getD_drop, Nat.add_zero] at h
 have c0 : Below w.heap.size w w := Below.refl _ _
 by_cases h43 : c.getD i (-1) = 43
 ·rw [if_pos (.inl h43)] at h
  have S1 := Lib.hid (fst_one 43 v c i true w hv (by omega) (by omega) (by simpa using h43))
  have hk : (i : Int) + 1 = k := by omega
  have hi' : (i : Int) <= 4294967200 := by omega
  clear h h43 hv hl hi
  go_enter Tryz.func183, Tryz.ntmps183
  go_wp2_with fail
  refine (S1.out _ c0).mono ?_
  rintro e w1 ⟨rfl, hb1⟩
  have c1 := c0.trans (hb1.mono c0.size)
  clear hb1
  go_wp2
  go_ret
  exact ⟨rfl, c1⟩
 ·by_cases h45 : c.getD i (-1) = 45
  ·rw [if_pos (.inr h45)] at h
   have S1 := Lib.hid (fst_one 43 v c i false w hv (by omega) (by omega) (by simpa using h43))
   have S2 := Lib.hid (fst_one 45 v c i true w hv (by omega) (by omega) (by simpa using h45))
   have hk : (i : Int) + 1 = k := by omega
   have hi' : (i : Int) <= 4294967200 := by omega
   clear h h43 hv hl hi h45
   go_enter Tryz.func183, Tryz.ntmps183
   go_wp2_with fail
   refine (S1.out _ c0).mono ?_
   rintro e w1 ⟨rfl, hb1⟩
   have c1 := c0.trans (hb1.mono c0.size)
   clear hb1
   go_wp2_with fail
   refine (S2.out _ c1).mono ?_
   rintro e w2 ⟨rfl, hb2⟩
   have c2 := c1.trans (hb2.mono c1.size)
   clear hb2
   go_wp2
   go_ret
   exact ⟨rfl, c2⟩
  ·rw [if_neg (by omega), Nat.add_zero] at h
   subst h
   have S1 := Lib.hid (fst_one 43 v c i false w hv (by omega) (by omega) (by simpa using h43))
   have S2 := Lib.hid (fst_one 45 v c i false w hv (by omega) (by omega) (by simpa using h45))
   clear h43 hv hl hi h45
   go_enter Tryz.func183, Tryz.ntmps183
   go_wp2_with fail
   refine (S1.out _ c0).mono ?_
   rintro e w1 ⟨rfl, hb1⟩
   have c1 := c0.trans (hb1.mono c0.size)
   clear hb1
   go_wp2_with fail
   refine (S2.out _ c1).mono ?_
   rintro e w2 ⟨rfl, hb2⟩
   have c2 := c1.trans (hb2.mono c1.size)
   clear hb2
   go_wp2
   go_ret
   exact ⟨rfl, c2⟩
theorem ffrac_any (v : Value) (c : List Int) (i : Nat) (b : Bool) (w : World) (hv : Lc w v c) (hl : c.length <= 4294967200) (hi : i <= 4294967200) (h : M.fracB (c.drop i) = b) :
  Calls Tryz.prog 185 #[v, .int .i64 (i : Int)] w fun e w' => e = .returned (.bool b) /\ Below w.heap.size w w' := by
 unfold M.fracB at h
 rw [getD_drop, getD_drop, Nat.add_zero] at h
 have c0 : Below w.heap.size w w := Below.refl _ _
 by_cases h46 : c.getD i (-1) = 46
 ·rw [h46] at h
  simp only [decide_true, Bool.true_and] at h
  have S1 := Lib.hid (fst_one 46 v c i true w hv (by omega) (by omega) (by simpa using h46))
  have D1 := Lib.hid (fun W (hW : Below w.heap.size w W) => fdig_any v c (i + 1) b W (hv.keep hW) (by omega) (by omega) h)
  rw [show ((i + 1 : Nat) : Int) = (i : Int) + 1 by omega] at D1
  have hi' : (i : Int) <= 4294967200 := by omega
  clear h h46 hv hl hi
  go_enter Tryz.func185, Tryz.ntmps185
  go_wp2_with fail
  refine (S1.out _ c0).mono ?_
  rintro e w1 ⟨rfl, hb1⟩
  have c1 := c0.trans (hb1.mono c0.size)
  clear hb1
  go_wp2_with fail
  refine (D1.out _ c1).mono ?_
  rintro e w' ⟨rfl, rfl⟩
  go_wp2
  go_ret
  exact ⟨rfl, c1⟩
 ·simp only [h46, decide_false, Bool.false_and] at h
  subst h
  have S1 := Lib.hid (fst_one 46 v c i false w hv (by omega) (by omega) (by simpa using h46))
  clear h46 hv hl hi
  go_enter Tryz.func185, Tryz.ntmps185
  go_wp2_with fail
  refine (S1.out _ c0).mono ?_
  rintro e w1 ⟨rfl, hb1⟩
  have c1 := c0.trans (hb1.mono c0.size)
  clear hb1
  go_wp2
  go_ret
  exact ⟨rfl, c1⟩
theorem fnumb_any (v : Value) (c : List Int) (i : Nat) (b : Bool) (w : World) (hv : Lc w v c) (hl : c.length <= 4294967100) (hi : i <= 4294967100) (h : M.numB (c.drop i) = b) :
  Calls Tryz.prog 150 #[v, .int .i64 (i : Int)] w fun e w' => e = .returned (.bool b) /\ Below w.heap.size w w' := by
 unfold M.numB at h
 rw [getD_drop, List.drop_drop] at h
 have c0 : Below w.heap.size w w := Below.refl _ _
 have hk1 : i + M.sgN (c.drop i) <= i + 1 := by unfold M.sgN; split <;> omega
 obtain ⟨k, hk⟩ : ∃ k, i + M.sgN (c.drop i) = k := ⟨_, rfl⟩
 rw [hk] at h hk1
 have S1 := Lib.hid (fun W (hW : Below w.heap.size w W) => fsign_any v c i k W (hv.keep hW) (by omega) (by omega) hk)
 cases hd : M.nDg (c.getD k (-1)) with
 | true =>
  rw [hd] at h
  simp only [Bool.true_or] at h
  subst h
  have D1 := Lib.hid (fun W (hW : Below w.heap.size w W) => fdig_any v c k true W (hv.keep hW) (by omega) (by omega) hd)
  clear hk hd hv hl hi hk1
  go_enter Tryz.func150, Tryz.ntmps150
  go_wp2_with fail
  refine (S1.out _ c0).mono ?_
  rintro e w1 ⟨rfl, hb1⟩
  have c1 := c0.trans (hb1.mono c0.size)
  clear hb1
  go_wp2_with fail
  refine (D1.out _ c1).mono ?_
  rintro e w' ⟨rfl, rfl⟩
  go_wp2
  go_ret
  exact ⟨rfl, c1⟩
 | false =>
  rw [hd, Bool.false_or] at h
  have D1 := Lib.hid (fun W (hW : Below w.heap.size w W) => fdig_any v c k false W (hv.keep hW) (by omega) (by omega) hd)
  have F1 := Lib.hid (fun W (hW : Below w.heap.size w W) => ffrac_any v c k b W (hv.keep hW) (by omega) (by omega) h)
  clear hk hd hv hl hi hk1 h
  go_enter Tryz.func150, Tryz.ntmps150
  go_wp2_with fail
  refine (S1.out _ c0).mono ?_
  rintro e w1 ⟨rfl, hb1⟩
  have c1 := c0.trans (hb1.mono c0.size)
  clear hb1
  go_wp2_with fail
  refine (D1.out _ c1).mono ?_
  rintro e w' ⟨rfl, rfl⟩
  go_wp2_with fail
  refine (F1.out _ c1).mono ?_
  rintro e w2 ⟨rfl, hb2⟩
  have c2 := c1.trans (hb2.mono c1.size)
  clear hb2
  go_wp2
  go_ret
  exact ⟨rfl, c2⟩
def nE2 (c : List Int) (i : Nat) : Nat := i + M.sgN (c.drop i) + M.digN (c.drop (i + M.sgN (c.drop i)))
def nE3 (c : List Int) (k : Nat) : Nat := if M.fracB (c.drop k) = true then k + 1 + M.digN (c.drop (k + 1)) else k
def nEd (c : List Int) (k : Nat) : Nat := k + 1 + M.sgN (c.drop (k + 1))
def nE4 (c : List Int) (k : Nat) : Nat := if c.getD k (-1) = 101 \/ c.getD k (-1) = 69 then (if M.nDg (c.getD (nEd c k) (-1)) = true then nEd c k + M.digN (c.drop (nEd c k)) else k) else k
theorem numE_at (c : List Int) (i : Nat) : i + M.numE (c.drop i) = nE4 c (nE3 c (nE2 c i)) := by
 have e1 : i + M.num1 (c.drop i) = nE2 c i := by unfold M.num1 nE2; rw [List.drop_drop]; omega
 have e2 : i + M.num2 (c.drop i) = nE3 c (nE2 c i) := by
  unfold M.num2 nE3
  rw [List.drop_drop, List.drop_drop, <- Nat.add_assoc, e1]
  split <;> omega
 unfold M.numE nE4 nEd
 rw [getD_drop, getD_drop, List.drop_drop, List.drop_drop]
 have e3 : i + (M.num2 (c.drop i) + 1) = nE3 c (nE2 c i) + 1 := by omega
 rw [e2, e3]
 have e4 : i + (M.num2 (c.drop i) + 1 + M.sgN (c.drop (nE3 c (nE2 c i) + 1))) = nE3 c (nE2 c i) + 1 + M.sgN (c.drop (nE3 c (nE2 c i) + 1)) := by omega
 rw [e4]
 split
 ·split <;> omega
 ·omega
theorem sgN_le1 (c : List Int) (i : Nat) : M.sgN (c.drop i) <= 1 := by unfold M.sgN; split <;> omega
theorem digN_lim (c : List Int) (i : Nat) : i + M.digN (c.drop i) <= max i c.length := by
 have := M.digN_le (c.drop i)
 rw [List.length_drop] at this; omega
theorem fnume_any (v : Value) (c : List Int) (i k : Nat) (w : World) (hv : Lc w v c) (hl : c.length <= 4294960000) (hi : i <= 4294960000) (h : i + M.numE (c.drop i) = k) :
  Calls Tryz.prog 186 #[v, .int .i64 (i : Int)] w fun e w' => e = .returned (.int .i64 (k : Int)) /\ Below w.heap.size w w' := by
 rw [numE_at] at h
 have c0 : Below w.heap.size w w := Below.refl _ _
 have b1 := sgN_le1 c i
 have b2 := digN_lim c (i + M.sgN (c.drop i))
 obtain ⟨i1, hi1⟩ : ∃ k, i + M.sgN (c.drop i) = k := ⟨_, rfl⟩
 obtain ⟨i2, hi2⟩ : ∃ k, nE2 c i = k := ⟨_, rfl⟩
 have hi2' : i1 + M.digN (c.drop i1) = i2 := by rw [<- hi2, <- hi1]; rfl
 rw [hi2] at h
 rw [hi1, hi2'] at b2
 have S1 := Lib.hid (fun W (hW : Below w.heap.size w W) => fsign_any v c i i1 W (hv.keep hW) (by omega) (by omega) hi1)
 have D1 := Lib.hid (fun W (hW : Below w.heap.size w W) => fskipd_any v c i1 i2 W (hv.keep hW) (by omega) (by omega) hi2')
 have b3 := digN_lim c (i2 + 1)
 obtain ⟨i3, hi3⟩ : ∃ k, nE3 c i2 = k := ⟨_, rfl⟩
 rw [hi3] at h
 have b4 : i3 <= 4294960005 := by rw [<- hi3]; unfold nE3; split <;> omega
 have b5 := sgN_le1 c (i3 + 1)
 obtain ⟨i4, hi4⟩ : ∃ k, nEd c i3 = k := ⟨_, rfl⟩
 have hi4' : i3 + 1 + M.sgN (c.drop (i3 + 1)) = i4 := hi4
 have E1 := Lib.hid (fst_one 101 v c i3 _ w hv (by omega) (by omega) rfl)
 have E2 := Lib.hid (fst_one 69 v c i3 _ w hv (by omega) (by omega) rfl)
 have S2 := Lib.hid (fun W (hW : Below w.heap.size w W) => fsign_any v c (i3 + 1) i4 W (hv.keep hW) (by omega) (by omega) hi4')
 have D2 := Lib.hid (fun W (hW : Below w.heap.size w W) => fdig_any v c i4 _ W (hv.keep hW) (by omega) (by omega) rfl)
 have D3 := Lib.hid (fun W (hW : Below w.heap.size w W) => fskipd_any v c i4 _ W (hv.keep hW) (by omega) (by omega) rfl)
 have F1 := Lib.hid (fun W (hW : Below w.heap.size w W) => ffrac_any v c i2 _ W (hv.keep hW) (by omega) (by omega) rfl)
 have D4 := Lib.hid (fun W (hW : Below w.heap.size w W) => fskipd_any v c (i2 + 1) _ W (hv.keep hW) (by omega) (by omega) rfl)
 rw [show ((i3 + 1 : Nat) : Int) = (i3 : Int) + 1 by omega] at S2
 rw [show ((i2 + 1 : Nat) : Int) = (i2 : Int) + 1 by omega] at D4
 unfold nE4 at h
 rw [hi4] at h
 unfold nE3 at hi3
 have k0 : (i2 : Int) <= 4294960005 := by omega
 have k1 : (i3 : Int) <= 4294960005 := by omega
 obtain ⟨y, hy⟩ : ∃ y, c.getD i3 (-1) = y := ⟨_, rfl⟩
 rw [hy] at h E1 E2
 obtain ⟨dg, hdg⟩ : ∃ y, M.nDg (c.getD i4 (-1)) = y := ⟨_, rfl⟩
 rw [hdg] at h D2
 obtain ⟨fr, hfr⟩ : ∃ y, M.fracB (c.drop i2) = y := ⟨_, rfl⟩
 rw [hfr] at hi3 F1
 have HH := Lib.hid h
 have HI3 := Lib.hid hi3
 clear hv hl hi h hi1 hi2 hi2' hi3 hi4 hi4' b1 b2 b3 b4 b5 hy hdg hfr
 obtain ⟨i5, hi5⟩ : ∃ z, i2 + 1 + M.digN (c.drop (i2 + 1)) = z := ⟨_, rfl⟩
 obtain ⟨i6, hi6⟩ : ∃ z, i4 + M.digN (c.drop i4) = z := ⟨_, rfl⟩
 rw [hi5] at D4 HI3
 rw [hi6] at D3 HH
 clear hi5 hi6
 go_enter Tryz.func186, Tryz.ntmps186
 go_wp2_with fail
 refine (S1.out _ c0).mono ?_
 rintro e w1 ⟨rfl, hb1⟩
 have c1 := c0.trans (hb1.mono c0.size)
 clear hb1
 go_wp2_with fail
 refine (D1.out _ c1).mono ?_
 rintro e w' ⟨rfl, rfl⟩
 go_wp2_with fail
 refine (F1.out _ c1).mono ?_
 rintro e w2 ⟨rfl, hb2⟩
 have c2 := c1.trans (hb2.mono c1.size)
 clear hb2
 cases fr with
 | true =>
  have hi3 := HI3.out
  simp only [if_true, if_false, Bool.false_eq_true] at hi3
  subst hi3
  go_wp2_with fail
  refine (D4.out _ c2).mono ?_
  rintro e w' ⟨rfl, rfl⟩
  by_cases h101 : y = 101
  ·have t1 : decide (y = ((101 : UInt8).toNat : Int)) = true := by simpa using h101
   rw [t1] at E1
   have hh := HH.out
   rw [if_pos (.inl h101)] at hh
   clear t1 h101
   go_wp2_with fail
   refine (E1.out _ c2).mono ?_
   rintro e w3 ⟨rfl, hb3⟩
   have c3 := c2.trans (hb3.mono c2.size)
   clear hb3
   go_wp2_with fail
   refine (S2.out _ c3).mono ?_
   rintro e w4 ⟨rfl, hb4⟩
   have c4 := c3.trans (hb4.mono c3.size)
   clear hb4
   go_wp2_with fail
   refine (D2.out _ c4).mono ?_
   rintro e w' ⟨rfl, rfl⟩
   cases dg with
   | true =>
    simp only [if_true, if_false, Bool.false_eq_true] at hh
    subst hh
    go_wp2_with fail
    refine (D3.out _ c4).mono ?_
    rintro e w' ⟨rfl, rfl⟩
    go_wp2
    go_ret
    exact ⟨rfl, c4⟩
   | false =>
    simp only [if_true, if_false, Bool.false_eq_true] at hh
    subst hh
    go_wp2
    go_ret
    exact ⟨rfl, c4⟩
  ·have t1 : decide (y = ((101 : UInt8).toNat : Int)) = false := by simpa using h101
   rw [t1] at E1
   by_cases h69 : y = 69
   ·have t2 : decide (y = ((69 : UInt8).toNat : Int)) = true := by simpa using h69
    rw [t2] at E2
    have hh := HH.out
    rw [if_pos (.inr h69)] at hh
    clear t1 h101 t2 h69
    go_wp2_with fail
    refine (E1.out _ c2).mono ?_
    rintro e w3 ⟨rfl, hb3⟩
    have c3 := c2.trans (hb3.mono c2.size)
    clear hb3
    go_wp2_with fail
    refine (E2.out _ c3).mono ?_
    rintro e w5 ⟨rfl, hb5⟩
    have c5 := c3.trans (hb5.mono c3.size)
    clear hb5
    go_wp2_with fail
    refine (S2.out _ c5).mono ?_
    rintro e w4 ⟨rfl, hb4⟩
    have c4 := c5.trans (hb4.mono c5.size)
    clear hb4
    go_wp2_with fail
    refine (D2.out _ c4).mono ?_
    rintro e w' ⟨rfl, rfl⟩
    cases dg with
    | true =>
     simp only [if_true, if_false, Bool.false_eq_true] at hh
     subst hh
     go_wp2_with fail
     refine (D3.out _ c4).mono ?_
     rintro e w' ⟨rfl, rfl⟩
     go_wp2
     go_ret
     exact ⟨rfl, c4⟩
    | false =>
     simp only [if_true, if_false, Bool.false_eq_true] at hh
     subst hh
     go_wp2
     go_ret
     exact ⟨rfl, c4⟩
   ·have t2 : decide (y = ((69 : UInt8).toNat : Int)) = false := by simpa using h69
    rw [t2] at E2
    have hh := HH.out
    rw [if_neg (by omega)] at hh
    subst hh
    clear t1 h101 t2 h69
    go_wp2_with fail
    refine (E1.out _ c2).mono ?_
    rintro e w3 ⟨rfl, hb3⟩
    have c3 := c2.trans (hb3.mono c2.size)
    clear hb3
    go_wp2_with fail
    refine (E2.out _ c3).mono ?_
    rintro e w4 ⟨rfl, hb4⟩
    have c4 := c3.trans (hb4.mono c3.size)
    clear hb4
    go_wp2
    go_ret
    exact ⟨rfl, c4⟩
 | false =>
  have hi3 := HI3.out
  simp only [if_true, if_false, Bool.false_eq_true] at hi3
  subst hi3
  by_cases h101 : y = 101
  ·have t1 : decide (y = ((101 : UInt8).toNat : Int)) = true := by simpa using h101
   rw [t1] at E1
   have hh := HH.out
   rw [if_pos (.inl h101)] at hh
   clear t1 h101
   go_wp2_with fail
   refine (E1.out _ c2).mono ?_
   rintro e w3 ⟨rfl, hb3⟩
   have c3 := c2.trans (hb3.mono c2.size)
   clear hb3
   go_wp2_with fail
   refine (S2.out _ c3).mono ?_
   rintro e w4 ⟨rfl, hb4⟩
   have c4 := c3.trans (hb4.mono c3.size)
   clear hb4
   go_wp2_with fail
   refine (D2.out _ c4).mono ?_
   rintro e w' ⟨rfl, rfl⟩
   cases dg with
   | true =>
    simp only [if_true, if_false, Bool.false_eq_true] at hh
    subst hh
    go_wp2_with fail
    refine (D3.out _ c4).mono ?_
    rintro e w' ⟨rfl, rfl⟩
    go_wp2
    go_ret
    exact ⟨rfl, c4⟩
   | false =>
    simp only [if_true, if_false, Bool.false_eq_true] at hh
    subst hh
    go_wp2
    go_ret
    exact ⟨rfl, c4⟩
  ·have t1 : decide (y = ((101 : UInt8).toNat : Int)) = false := by simpa using h101
   rw [t1] at E1
   by_cases h69 : y = 69
   ·have t2 : decide (y = ((69 : UInt8).toNat : Int)) = true := by simpa using h69
    rw [t2] at E2
    have hh := HH.out
    rw [if_pos (.inr h69)] at hh
    clear t1 h101 t2 h69
    go_wp2_with fail
    refine (E1.out _ c2).mono ?_
    rintro e w3 ⟨rfl, hb3⟩
    have c3 := c2.trans (hb3.mono c2.size)
    clear hb3
    go_wp2_with fail
    refine (E2.out _ c3).mono ?_
    rintro e w5 ⟨rfl, hb5⟩
    have c5 := c3.trans (hb5.mono c3.size)
    clear hb5
    go_wp2_with fail
    refine (S2.out _ c5).mono ?_
    rintro e w4 ⟨rfl, hb4⟩
    have c4 := c5.trans (hb4.mono c5.size)
    clear hb4
    go_wp2_with fail
    refine (D2.out _ c4).mono ?_
    rintro e w' ⟨rfl, rfl⟩
    cases dg with
    | true =>
     simp only [if_true, if_false, Bool.false_eq_true] at hh
     subst hh
     go_wp2_with fail
     refine (D3.out _ c4).mono ?_
     rintro e w' ⟨rfl, rfl⟩
     go_wp2
     go_ret
     exact ⟨rfl, c4⟩
    | false =>
     simp only [if_true, if_false, Bool.false_eq_true] at hh
     subst hh
     go_wp2
     go_ret
     exact ⟨rfl, c4⟩
   ·have t2 : decide (y = ((69 : UInt8).toNat : Int)) = false := by simpa using h69
    rw [t2] at E2
    have hh := HH.out
    rw [if_neg (by omega)] at hh
    subst hh
    clear t1 h101 t2 h69
    go_wp2_with fail
    refine (E1.out _ c2).mono ?_
    rintro e w3 ⟨rfl, hb3⟩
    have c3 := c2.trans (hb3.mono c2.size)
    clear hb3
    go_wp2_with fail
    refine (E2.out _ c3).mono ?_
    rintro e w4 ⟨rfl, hb4⟩
    have c4 := c3.trans (hb4.mono c3.size)
    clear hb4
    go_wp2
    go_ret
    exact ⟨rfl, c4⟩
theorem conv_bsF {w : World} {b off len cap : Nat} {l : List UInt8} (h : Bs w (.slice (some ⟨b, off, none⟩) len cap) l) : (convert 22 9 (.slice (some ⟨b, off, none⟩) len cap)).run Tryz.prog w = .ok (.string (bytes l)) w := by
 obtain ⟨a, cap', e, h1, h2, h3⟩ := h
 simp only [Value.slice.injEq] at e
 obtain ⟨rfl, rfl, rfl⟩ := e
 have hB : Lib.Bytes w b off (bytes l) := by
  intro i hi
  have hi' : i < l.length := by simpa [bytes, ByteArray.size] using hi
  obtain ⟨b', off', e, hlt, hc⟩ := h3 (by omega)
  simp only [Option.some.injEq, Addr.mk.injEq, and_true] at e
  obtain ⟨rfl, rfl⟩ := e
  rw [hc i hi']
  congr 3
 have := Lib.run_convert_whole (P := Tryz.prog) w 22 5 9 Tryz.underlying22 Tryz.underlying5 Tryz.underlying9 b off _ hB cap
 rw [bytes_size] at this
 exact this
def lowAt (s : List UInt8) (j k : Nat) : UInt8 := if k < j then M.lowB (s.getD k 0) else s.getD k 0
theorem lowB_small (c : UInt8) (h1 : 65 <= c.toNat) (h2 : c.toNat <= 90) : ((M.lowB c).toNat : Int) = (c.toNat : Int) + 32 := by
 unfold M.lowB
 rw [if_pos ⟨h1, h2⟩, UInt8.toNat_add]
 have : (32 : UInt8).toNat = 32 := rfl
 omega
theorem lowB_other (c : UInt8) (h : ¬ (65 <= c.toNat /\ c.toNat <= 90)) : M.lowB c = c := by unfold M.lowB; rw [if_neg h]
theorem flower_any (s : List UInt8) (w : World) (hl : s.length <= 4000000) :
  Calls Tryz.prog 112 #[.string (bytes s)] w fun e w' => e = .returned (.string (bytes (M.lowL s))) /\ Below w.heap.size w w' := by
 have hcv := bw_conv w (bytes s)
 have hbs := bw_bs w (bytes s) (by rw [bytes_size]; omega)
 have hbb := bw_below w (bytes s)
 have hbz := bw_size w (bytes s)
 rw [bytes_list] at hbs
 have hfz : ∀ k, k < s.length -> (Lib.bytesWorld w 5 (bytes s)).frozen? ⟨w.heap.size, k, none⟩ = false := by
  intro k hk
  have h1 := Lib.bytesWorld_at_new w 5 (bytes s)
  have h2 : s.length <= (Lib.bytesCells w 5 (bytes s)).size := by
   rcases Nat.lt_or_ge k (Lib.bytesCells w 5 (bytes s)).size with h | h
   ·rcases Nat.lt_or_ge (s.length - 1) (Lib.bytesCells w 5 (bytes s)).size with h' | h'
    ·omega
    ·have := Lib.bytesWorld_cell w 5 (bytes s) (s.length - 1) (by rw [bytes_size]; omega)
     simp [World.cell?, h1, Array.getElem?_eq_none h'] at this
   ·have := Lib.bytesWorld_cell w 5 (bytes s) k (by rw [bytes_size]; omega)
    simp [World.cell?, h1, Array.getElem?_eq_none h] at this
  unfold World.frozen?
  rw [h1]
  simp
  omega
 rw [bytes_size] at hcv hbs
 obtain ⟨n, hn⟩ : ∃ n, s.length = n := ⟨_, rfl⟩
 rw [hn] at hcv hbs hl hfz
 obtain ⟨cap, hcap⟩ : ∃ cap, grownCap w n 0 5 = cap := ⟨_, rfl⟩
 rw [hcap] at hcv hbs
 have hcell : ∀ k, k < n -> (Lib.bytesWorld w 5 (bytes s)).cell? ⟨w.heap.size, k, none⟩ = some (.int .u8 ((s.getD k 0).toNat : Int)) := by
  intro k hk
  obtain ⟨a', cap', e, g1, g2, g3⟩ := hbs
  simp only [Value.slice.injEq] at e
  obtain ⟨rfl, -, rfl⟩ := e
  obtain ⟨b, off, e2, _, hc⟩ := g3 (by omega)
  simp only [Option.some.injEq, Addr.mk.injEq, and_true] at e2
  obtain ⟨rfl, rfl⟩ := e2
  have := hc k (by omega)
  rw [Nat.zero_add] at this
  rw [this]; simp [List.getD, show k < s.length by omega]
 have hcp : n <= cap /\ cap <= maxLen := by
  obtain ⟨a', cap', e, g1, g2, g3⟩ := hbs
  simp only [Value.slice.injEq] at e
  obtain ⟨-, -, rfl⟩ := e
  exact ⟨by omega, g2⟩
 obtain ⟨W, hW⟩ : ∃ W, Lib.bytesWorld w 5 (bytes s) = W := ⟨_, rfl⟩
 rw [hW] at hcv hbs hbb hbz hfz hcell
 obtain ⟨S, hS⟩ : ∃ S, bytes s = S := ⟨_, rfl⟩
 rw [hS] at hcv ⊢
 have HN := Lib.hid hn
 have HCE := Lib.hid hcell
 have HF := Lib.hid hfz
 have HBB := Lib.hid hbb
 have HBZ := Lib.hid hbz
 have HCP := Lib.hid hcp
 have n0 : (n : Int) <= 4000000 := by omega
 clear hn hcell hfz hbb hbz hbs hS hW hcap hcp
 go_enter Tryz.func112, Tryz.ntmps112
 go_wp2
 go_loopw [10] (fun iv wr => ∃ j : Nat, iv = .int .i64 (j : Int) /\ j <= n /\ Below w.heap.size w wr /\ (∀ k, k < n -> wr.cell? ⟨w.heap.size, k, none⟩ = some (.int .u8 ((lowAt s j k).toNat : Int))) /\ (∀ k, k < n -> wr.frozen? ⟨w.heap.size, k, none⟩ = false) /\ w.heap.size < wr.heap.size) (fun iv _ => n - (intOf iv).toNat)
 case atStart => exact ⟨0, rfl, by omega, HBB.out, fun k hk => by rw [HCE.out k hk]; simp [lowAt], HF.out, by have := HBZ.out; omega⟩
 case round =>
  obtain ⟨j, rfl, hj, hb, hce, hfr, hlt⟩ := hrel
  have HB := Lib.hid hb
  have HC := Lib.hid hce
  have HR := Lib.hid hfr
  have j0 : (0 : Int) <= j := by omega
  clear hb hce hfr
  by_cases hjn : j < n
  ·have c0 := HC.out j hjn
   have f0 := HR.out j hjn
   have j1 : (j : Int) < n := by omega
   have hlow : lowAt s j j = s.getD j 0 := by unfold lowAt; rw [if_neg (by omega)]
   rw [hlow] at c0
   obtain ⟨x, hx⟩ : ∃ x, s.getD j 0 = x := ⟨_, rfl⟩
   rw [hx] at c0
   have HX := Lib.hid hx
   obtain ⟨X, hX⟩ : ∃ X : Int, (x.toNat : Int) = X := ⟨_, rfl⟩
   rw [hX] at c0
   have x0 : 0 <= X := by omega
   have x1 : X < 256 := by have := x.toNat_lt; omega
   have HXX := Lib.hid hX
   clear hlow hx hX
   by_cases h1 : 65 <= X
   ·by_cases h2 : X <= 90
    ·have hnew : ((M.lowB x).toNat : Int) = X + 32 := by rw [lowB_small x (by have := HXX.out; omega) (by have := HXX.out; omega), HXX.out]
     have HNEW := Lib.hid hnew
     clear hnew
     as_aux_lemma =>
      go_wp2
      go_roundw
      case rel =>
       refine ⟨j + 1, by go_num, by omega, HB.out.setCell (Nat.le_refl _) _, fun k hk => ?_, fun k hk => by rw [World.frozen?_setCell]; exact HR.out k hk, by simpa using hlt⟩
       by_cases hkj : k = j
       ·subst hkj
        rw [World.cell?_setCell_same _ _ _ (HC.out k hk)]
        have e : lowAt s (k + 1) k = M.lowB x := by unfold lowAt; rw [if_pos (by omega), HX.out]
        rw [e, HNEW.out]
        congr 2 <;> omega
       ·rw [World.cell?_setCell_other _ _ _ _ (by intro e; simp only [Addr.mk.injEq] at e; exact hkj e.2.1.symm), HC.out k hk]
        have e : lowAt s (j + 1) k = lowAt s j k := by
         unfold lowAt
         by_cases h : k < j
         ·rw [if_pos h, if_pos (by omega)]
         ·rw [if_neg h, if_neg (by omega)]
        rw [e]
      case measure => simp [intOf]; omega
    ·have hnew : M.lowB x = x := lowB_other x (by have := HXX.out; omega)
     have HNEW := Lib.hid hnew
     clear hnew
     as_aux_lemma =>
      go_wp2
      go_roundw
      case rel =>
       refine ⟨j + 1, by go_num, by omega, HB.out, fun k hk => ?_, HR.out, hlt⟩
       rw [HC.out k hk]
       have e : lowAt s (j + 1) k = lowAt s j k := by
        unfold lowAt
        by_cases h : k < j
        ·rw [if_pos h, if_pos (by omega)]
        ·by_cases h2 : k = j
         ·subst h2; rw [if_pos (by omega), if_neg (by omega), HX.out, HNEW.out]
         ·rw [if_neg h, if_neg (by omega)]
       rw [e]
      case measure => simp [intOf]; omega
   ·have hnew : M.lowB x = x := lowB_other x (by have := HXX.out; omega)
    have HNEW := Lib.hid hnew
    clear hnew
    as_aux_lemma =>
     go_wp2
     go_roundw
     case rel =>
      refine ⟨j + 1, by go_num, by omega, HB.out, fun k hk => ?_, HR.out, hlt⟩
      rw [HC.out k hk]
      have e : lowAt s (j + 1) k = lowAt s j k := by
       unfold lowAt
       by_cases h : k < j
       ·rw [if_pos h, if_pos (by omega)]
       ·by_cases h2 : k = j
        ·subst h2; rw [if_pos (by omega), if_neg (by omega), HX.out, HNEW.out]
        ·rw [if_neg h, if_neg (by omega)]
      rw [e]
     case measure => simp [intOf]; omega
  ·obtain rfl : j = n := by omega
   have hbs : Bs wr (.slice (some ⟨w.heap.size, 0, none⟩) j cap) (M.lowL s) := by
    have hls : (M.lowL s).length = j := by unfold M.lowL; rw [List.length_map]; exact HN.out
    refine ⟨_, cap, by rw [hls], by rw [hls]; exact HCP.out.1, HCP.out.2, fun h0 => ⟨w.heap.size, 0, rfl, hlt, fun k hk => ?_⟩⟩
    rw [hls] at hk
    rw [Nat.zero_add, HC.out k hk]
    unfold lowAt
    rw [if_pos hk]
    have hks : k < s.length := by rw [HN.out]; exact hk
    have e1 : s.getD k 0 = s[k] := by simp [List.getD, hks]
    rw [e1]
    have e2 : ∀ (m : List UInt8) (h : k < m.length), m = s.map M.lowB -> m[k] = M.lowB s[k] := by rintro m h rfl; exact List.getElem_map _
    rw [e2 (M.lowL s) _ rfl]
   have hcb := conv_bsF hbs
   clear hbs hjn
   as_aux_lemma =>
    go_wp2
    go_ret
    exact ⟨rfl, HB.out⟩
theorem w0_facts (w : World) : ∃ W0, w.alloc (.cells #[.int .i64 0, .string ⟨#[]⟩, .string ⟨#[]⟩, .bool false, .string ⟨#[]⟩, .string ⟨#[]⟩, .bool false, .bool false, .int .i64 0, .int .i64 0, .int .i64 0, .int .i64 0, .int .i64 0] 33) = W0 /\ CB W0 w.heap.size (ctv {} 0) /\ Below w.heap.size w W0 /\ W0.heap.size = w.heap.size + 1 :=
 ⟨_, rfl, CB.new w _, (Below.refl _ _).alloc (Nat.le_refl _) _, by simp⟩
theorem fhash_any (v : Value) (c : List Int) (i : Nat) (w : World) (hv : Lc w v c) (hl : c.length <= 100000) (hi : i < c.length) :
  Calls Tryz.prog 149 #[v, .int .i64 (i : Int)] w (TkR w { kind := 4, text := M.encZs (M.takeN (c.drop (i + 1))).1, flag := M.begN (c.drop (i + 1)) } (i + 1 + (M.takeN (c.drop (i + 1))).2)) := by
 obtain ⟨T, hT⟩ : ∃ T, (M.takeN (c.drop (i + 1))).1 = T := ⟨_, rfl⟩
 obtain ⟨k, hk⟩ : ∃ k, i + 1 + (M.takeN (c.drop (i + 1))).2 = k := ⟨_, rfl⟩
 obtain ⟨b, hb⟩ : ∃ b, M.begN (c.drop (i + 1)) = b := ⟨_, rfl⟩
 have hcl : clampN ((i : Int) + 1) c.length = i + 1 := by unfold clampN; omega
 have TK := Lib.hid (fun W (hW : Below w.heap.size w W) => ntake_core v c ((i : Int) + 1) T k W (hv.keep hW) hl (by rw [hcl]; exact hT) (by rw [hcl]; exact hk))
 have BG := Lib.hid (fun W (hW : Below w.heap.size w W) => nbegins_any v c ((i : Int) + 1) b W (hv.keep hW) (by omega) (by rw [if_neg (by omega), show ((i : Int) + 1).toNat = i + 1 by omega]; exact hb))
 rw [hT, hk, hb]
 obtain ⟨W0, hW0, cb0, c0, z0⟩ := w0_facts w
 have HW0 := Lib.hid hW0
 have Z0 := Lib.hid z0
 have i9 : (i : Int) <= 100000 := by omega
 clear hW0 z0 hv hl hi hT hk hb hcl
 go_enter Tryz.func149, Tryz.ntmps149
 go_wp2_with fail
 rw [HW0.out]
 refine (TK.out _ c0).mono ?_
 rintro e w1 ⟨rfl, hb1⟩
 have c1 := c0.trans (hb1.mono (by rw [Z0.out]; omega))
 have cb1 := cb0.keep hb1 (by rw [Z0.out]; omega)
 go_wp2_with fail
 refine (BG.out _ c1).mono ?_
 rintro e w' ⟨rfl, rfl⟩
 go_wp2_with (refine wpl_stT rfl _ _ rfl w.heap.size _ (ctv ({ kind := 4, text := M.encZs T, flag := b }) 0) rfl rfl cb1 rfl rfl (ctv_one _ _) ?_)
 go_wp2
 (try simp only [Exit.inBlock, Exit.then])
 refine bodyPost_ret (res_tok rfl _ _ w.heap.size _ _ rfl rfl (CB.set cb1 _) rfl) rfl ⟨rfl, below_setRow c1 (Nat.le_refl _) _⟩
theorem etup_ai {x : Array Value} {a b : Int} (h : a = b) : Ending.returned (.tuple #[.agg x, .int .i64 a]) = .returned (.tuple #[.agg x, .int .i64 b]) := by rw [h]
theorem cmT_end (c : List Int) (j : Nat) (h : c.length <= j) : M.cmT (c.drop j) = ([], 0) := by rw [List.drop_eq_nil_of_le h]; rfl
theorem stC_two (a b : Int) (c : List Int) (i : Nat) (ha : a ≠ -1) (hb : b ≠ -1) : M.stC [a, b] (c.drop i) = (decide (c.getD i (-1) = a) && decide (c.getD (i + 1) (-1) = b)) := by
 by_cases hi : i < c.length
 ·have e := stC_one b c (i + 1) hb
  rw [drop_cons c i hi, getD_lt c i hi]
  show (a == c[i] && M.stC [b] (c.drop (i + 1))) = _
  rw [e]
  congr 1
  by_cases h : c[i] = a
  ·simp [h]
  ·simp [h, Ne.symm h]
 ·rw [List.drop_eq_nil_of_le (by omega)]
  simp [M.stC, List.getD, List.getElem?_eq_none (show c.length <= i by omega), Ne.symm ha]
theorem cmT_at (c : List Int) (j : Nat) (h : j < c.length) : M.cmT (c.drop j) = if M.stC [42, 47] (c.drop j) = true then ([], 2) else (c.getD j (-1) :: (M.cmT (c.drop (j + 1))).1, 1 + (M.cmT (c.drop (j + 1))).2) := by
 rw [stC_two 42 47 c j (by decide) (by decide), drop_cons c j h]
 simp only [M.cmT]
 rw [getD_drop, Nat.add_zero, getD_lt c j h]
 by_cases h2 : c[j] = 42 /\ c.getD (j + 1) (-1) = 47
 ·rw [if_pos h2, if_pos (by rw [h2.1, h2.2]; rfl)]
 ·rw [if_neg h2, if_neg (by simpa using h2)]
theorem rs_sub {w : World} {L : List (Int × Int)} {a : Option Addr} {n cap : Nat} (h : Rs w (.slice a n cap) L) (i j : Nat) (hij : i <= j) (hj : j <= n) :
  ∀ b off, a = some ⟨b, off, none⟩ -> Rs w (.slice (some ⟨b, off + i * 2, none⟩) (j - i) (cap - i)) ((L.drop i).take (j - i)) := by
 obtain ⟨a', cap', e, h1, h2, h3⟩ := h
 simp only [Value.slice.injEq] at e
 obtain ⟨rfl, rfl, rfl⟩ := e
 have hrl := rvs_len L
 have hlen : ((L.drop i).take (j - i)).length = j - i := by simp; omega
 have hrl2 := rvs_len ((L.drop i).take (j - i))
 intro b off ha
 refine ⟨_, _, by rw [hrl2, hlen], by omega, by omega, fun h0 => ?_⟩
 obtain ⟨b', off', hb', hlt, hc⟩ := h3 (by omega)
 rw [ha] at hb'
 simp only [Option.some.injEq, Addr.mk.injEq, and_true] at hb'
 obtain ⟨rfl, rfl⟩ := hb'
 refine ⟨b, _, rfl, hlt, fun k hk q u hu => ?_⟩
 have := hc (i + k) (by omega) q u (by simpa [rvs] using hu)
 rw [show off + i * 2 + (k * 2 + q) = off + ((i + k) * 2 + q) by omega]
 exact this
theorem rs_keep {w w' : World} {v : Value} {l : List (Int × Int)} (h : Rs w v l) (hb : Below w.heap.size w w') : Rs w' v l := Vs.keep h hb
theorem cps_sub (L : List (Int × Int)) (i k : Nat) : M.encR ((L.drop i).take k) = M.encZs (((cps L).drop i).take k) := by
 unfold M.encR M.encZs cps
 rw [<- List.map_drop, <- List.map_take, List.flatMap_map]
theorem take_more (c : List Int) (i j : Nat) (hij : i <= j) (hj : j < c.length) : (c.drop i).take (j + 1 - i) = (c.drop i).take (j - i) ++ [c.getD j (-1)] := by
 rw [show j + 1 - i = (j - i) + 1 by omega, List.take_add_one, List.getElem?_drop, show i + (j - i) = j by omega, List.getElem?_eq_getElem hj, getD_lt c j hj]
 rfl
theorem fcomment_any (v : Value) (L : List (Int × Int)) (c : List Int) (i : Nat) (t : M.CT) (K : Nat) (w : World) (hv : Rs w v L) (hc : cps L = c) (hl : L.length <= 100000) (hi : i + 2 <= L.length)
  (ht : { kind := 25, text := M.encZs (M.cmT (c.drop (i + 2))).1 } = t) (hK : i + 2 + (M.cmT (c.drop (i + 2))).2 = K) :
  Calls Tryz.prog 144 #[v, .int .i64 (i : Int)] w (TkR w t K) := by
 have hlc := hv.lc
 rw [hc] at hlc
 have hcl : c.length = L.length := by rw [<- hc, cps_len]
 obtain ⟨n, hn⟩ : ∃ n, L.length = n := ⟨_, rfl⟩
 rw [hn] at hl hi hcl
 obtain ⟨a, cap, rfl, h1, h2, h3⟩ := rs_open hv hn
 obtain ⟨p, off, rfl, hp, -⟩ := h3 (by omega)
 have hsub := fun (j : Nat) (h1 : i + 2 <= j) (h2 : j <= n) => rs_sub hv (i + 2) j h1 h2 p off rfl
 have TX := Lib.hid (fun (W : World) (hW : Below w.heap.size w W) (j : Nat) (h1 : i + 2 <= j) (h2 : j <= n) => ctext_any _ _ (M.encZs ((c.drop (i + 2)).take (j - (i + 2)))) W (rs_keep (hsub j h1 h2) hW) (by simp; omega) (by rw [cps_sub, hc]))
 have TX0 := Lib.hid (fun (W : World) (m : Nat) (hm : m = 0) => ctext_any (.slice (some ⟨p, off, none⟩) m 0) [] (M.encZs []) W (by subst hm; exact ⟨_, 0, rfl, by simp [rvs], by decide, fun h => absurd h (by simp [rvs])⟩) (by simp) rfl)
 have ST := Lib.hid (fun (W : World) (hW : Below w.heap.size w W) (j : Nat) (h : j <= n) (b : Bool) (hb : M.stC [42, 47] (c.drop j) = b) => fstands_any _ c j [42, 47] b W (hlc.keep hW) (by omega) (by omega) (by simp) (by simp) hb)
 have CM := Lib.hid (fun j => cmT_at c j)
 have CE := Lib.hid (fun j => cmT_end c j)
 have TM := Lib.hid (fun j => take_more c (i + 2) j)
 have HCL := Lib.hid hcl
 rw [hcl] at CM CE TM
 obtain ⟨W0, hW0, cb0, c0, z0⟩ := w0_facts w
 have HW0 := Lib.hid hW0
 have Z0 := Lib.hid z0
 have C0 := Lib.hid c0
 have CB0 := Lib.hid cb0
 have HT := Lib.hid ht
 have HK := Lib.hid hK
 unfold maxLen at h2
 clear hW0 z0 hv hc hn h3 hsub hlc hcl c0 cb0 ht hK
 go_enter Tryz.func144, Tryz.ntmps144
 go_wp2
 rw [HW0.out]
 go_loopw [7] (fun ev wr => ∃ j : Nat, ev = .int .i64 (j : Int) /\ i + 2 <= j /\ j <= n /\ M.cmT (c.drop (i + 2)) = ((c.drop (i + 2)).take (j - (i + 2)) ++ (M.cmT (c.drop j)).1, (j - (i + 2)) + (M.cmT (c.drop j)).2) /\ Below W0.heap.size W0 wr) (fun ev _ => n - (intOf ev).toNat)
 case atStart => exact ⟨i + 2, by go_num, by omega, hi, by simp, Below.refl _ _⟩
 case round =>
  obtain ⟨j, rfl, hj1, hj2, hcm, hb⟩ := hrel
  have HCM := Lib.hid hcm
  have HB := Lib.hid hb
  have hw := C0.out.trans (hb.mono (by rw [Z0.out]; omega))
  have HWR := Lib.hid hw
  have cbr := CB0.out.keep hb (by rw [Z0.out]; omega)
  have CBR := Lib.hid cbr
  have j1 : (i : Int) + 2 <= j := by omega
  have j2 : (j : Int) <= n := by omega
  clear hcm hb hw cbr
  by_cases hjn : j < n
  ·have t1 : decide ((j : Int) < n) = true := by simp; omega
   cases hst : M.stC [42, 47] (c.drop j) with
   | true =>
    have S1 := Lib.hid (ST.out _ HWR.out j hj2 true hst)
    have HST := Lib.hid hst
    have cj := CM.out j hjn
    rw [if_pos hst] at cj
    have hfin := HCM.out
    rw [cj] at hfin
    simp only [List.append_nil] at hfin
    have X1 := TX.out
    have ht := HT.out
    have hK := HK.out
    rw [hfin] at ht hK
    simp only at ht hK
    have HT := Lib.hid ht
    have HK := Lib.hid hK
    clear hst cj hfin X1 ht hK
    go_wp2_with fail
    refine (S1.out).mono ?_
    rintro e w1 ⟨rfl, hb1⟩
    have c1 := HWR.out.trans (hb1.mono HWR.out.size)
    have cb1 := CBR.out.keep hb1 CBR.out.lt
    have hj3 : j + 2 <= n := by have := HST.out; have := M.stC_len _ _ this; simp at this; have := HCL.out; omega
    go_wp2_with fail
    refine (TX.out _ c1 j hj1 hj2).mono ?_
    rintro e w2 ⟨rfl, hb2⟩
    have c2 := c1.trans (hb2.mono c1.size)
    have cb2 := cb1.keep hb2 cb1.lt
    have HK2 := Lib.hid (show ((K : Nat) : Int) = min ((j : Int) + 2) n by have := HK.out; omega)
    clear hb1 c1 cb1 hb2
    go_wp2_with (refine wpl_stT rfl _ _ rfl w.heap.size _ (ctv ({ kind := 25, text := M.encZs ((c.drop (i + 2)).take (j - (i + 2))) }) 0) rfl rfl cb2 rfl rfl (ctv_one _ _) ?_)
    go_wp2
    (try simp only [Exit.inBlock, Exit.then])
    refine bodyPost_ret (res_tok rfl _ _ w.heap.size _ _ rfl rfl (CB.set cb2 _) rfl) rfl ⟨(by first | (rw [<- HT.out, HK2.out]; done) | (rw [<- HT.out]; exact etup_ai (by have := HK2.out; omega))), below_setRow c2 (Nat.le_refl _) _⟩
   | false =>
    have S1 := Lib.hid (ST.out _ HWR.out j hj2 false hst)
    have cj := CM.out j hjn
    rw [if_neg (by rw [hst]; simp)] at cj
    have hfin := HCM.out
    rw [cj] at hfin
    have hfin2 : M.cmT (c.drop (i + 2)) = ((c.drop (i + 2)).take (j + 1 - (i + 2)) ++ (M.cmT (c.drop (j + 1))).1, (j + 1 - (i + 2)) + (M.cmT (c.drop (j + 1))).2) := by
     rw [hfin, TM.out j hj1 hjn]
     simp
     omega
    have HF := Lib.hid hfin2
    clear hst cj hfin hfin2
    go_wp2_with fail
    refine (S1.out).mono ?_
    rintro e w1 ⟨rfl, hb1⟩
    have hb1' := HB.out.trans (hb1.mono HB.out.size)
    go_wp2
    go_roundw
    case rel => exact ⟨j + 1, by go_num, by omega, by omega, HF.out, hb1'⟩
    case measure => simp [intOf]; omega
  ·obtain rfl : j = n := by omega
   have t1 : decide ((j : Int) < j) = false := by simp
   have hfin := HCM.out
   rw [CE.out j (Nat.le_refl _)] at hfin
   simp only [List.append_nil] at hfin
   have ht := HT.out
   have hK := HK.out
   rw [hfin] at ht hK
   simp only at ht hK
   have HT := Lib.hid ht
   have HK := Lib.hid hK
   have c1 := HWR.out
   have cb1 := CBR.out
   clear hfin ht hK hjn
   have HK2 := Lib.hid (show ((K : Nat) : Int) = min ((j : Int) + 2) j by have := HK.out; omega)
   by_cases hcap : cap = i + 2
   ·have hm0 := Lib.hid (show j - (i + 2) = 0 by omega)
    have HT2 := Lib.hid (show ({ kind := 25, text := M.encZs [] } : M.CT) = t by rw [<- HT.out, hm0.out, List.take_zero])
    go_wp2_with fail
    refine (TX0.out _ _ hm0.out).mono ?_
    rintro e w2 ⟨rfl, hb2⟩
    have c2 := c1.trans (hb2.mono c1.size)
    have cb2 := cb1.keep hb2 cb1.lt
    clear c1 cb1 hb2
    go_wp2_with (refine wpl_stT rfl _ _ rfl w.heap.size _ (ctv ({ kind := 25, text := M.encZs [] }) 0) rfl rfl cb2 rfl rfl (ctv_one _ _) ?_)
    go_wp2
    (try simp only [Exit.inBlock, Exit.then])
    refine bodyPost_ret (res_tok rfl _ _ w.heap.size _ _ rfl rfl (CB.set cb2 _) rfl) rfl ⟨(by first | (rw [<- HT2.out, HK2.out]; done) | (rw [<- HT2.out]; exact etup_ai (by have := HK2.out; omega))), below_setRow c2 (Nat.le_refl _) _⟩
   ·go_wp2_with fail
    refine (TX.out _ c1 j hj1 hj2).mono ?_
    rintro e w2 ⟨rfl, hb2⟩
    have c2 := c1.trans (hb2.mono c1.size)
    have cb2 := cb1.keep hb2 cb1.lt
    clear c1 cb1 hb2
    go_wp2_with (refine wpl_stT rfl _ _ rfl w.heap.size _ (ctv ({ kind := 25, text := M.encZs ((c.drop (i + 2)).take (j - (i + 2))) }) 0) rfl rfl cb2 rfl rfl (ctv_one _ _) ?_)
    go_wp2
    (try simp only [Exit.inBlock, Exit.then])
    refine bodyPost_ret (res_tok rfl _ _ w.heap.size _ _ rfl rfl (CB.set cb2 _) rfl) rfl ⟨(by first | (rw [<- HT.out, HK2.out]; done) | (rw [<- HT.out]; exact etup_ai (by have := HK2.out; omega))), below_setRow c2 (Nat.le_refl _) _⟩
theorem still_ldT {ops : Array Oper} {w : World} {Q : Act -> Prop} {a : Act} {o : Oper} {rest : List Oper} (hgd : o.guard = none) (x : Operand) (ho : o.op = .load 33 x)
  (g : Nat) (cs : Array Value) (hx : a.eval x = .pointer (some ⟨g, 0, none⟩)) (hg : CB w g cs) (hs : cs.size = 13)
  (h : wpStill Tryz.prog ops w Q rest (a.put o.dst (.agg cs))) : wpStill Tryz.prog ops w Q (o :: rest) a := by
 refine wpStill_step (fun K hK => ?_)
 simp only [Region.wanted, hgd, if_true]
 unfold Oper.still execOp
 simp only [ho, hx, Instr.loadAt, Instr.sureAddr, Sem.run_bind, Sem.run_pure, Result.andThen_ok, run_loadVar_row w g 33 33 cs (0, 0) _ hg Tryz.underlying33 rfl (by rw [hs]; exact infoC13)]
 exact ⟨rfl, hK _ h⟩
theorem fsingle_any (v : Value) (L : List (Int × Int)) (c : List Int) (i : Nat) (w : World) (hv : Rs w v L) (hc : cps L = c) (hl : L.length <= 100000) (hi : i < L.length) :
  Calls Tryz.prog 155 #[v, .int .i64 (i : Int)] w (TkR w (if M.oneK (c.getD i (-1)) = 9 then { kind := 9, text := M.enc (c.getD i (-1)) } else { kind := M.oneK (c.getD i (-1)) }) (i + 1)) := by
 have hlc := hv.lc
 rw [hc] at hlc
 have hcl : c.length = L.length := by rw [<- hc, cps_len]
 obtain ⟨n, hn⟩ : ∃ n, L.length = n := ⟨_, rfl⟩
 rw [hn] at hl hi hcl
 obtain ⟨a, cap, rfl, h1, h2, h3⟩ := rs_open hv hn
 obtain ⟨p, off, rfl, hp, h4⟩ := h3 (by omega)
 have c0' := (h4 i (by omega)).1
 have e0 : (L[i]'(by omega)).1 = c.getD i (-1) := by rw [<- hc]; simp [cps, List.getD, show i < L.length by omega]
 rw [e0] at c0'
 have hsub := rs_sub hv i (i + 1) (by omega) (by omega) p off rfl
 rw [Nat.add_sub_cancel_left] at hsub
 have TX := Lib.hid (fun (W : World) (hW : Below w.heap.size w W) => ctext_any _ _ (M.enc (c.getD i (-1))) W (rs_keep hsub hW) (by simp; omega) (by rw [cps_sub, hc, show (c.drop i).take 1 = [c.getD i (-1)] by rw [drop_cons c i (by omega), getD_lt c i (by omega)]; rfl]; simp [M.encZs]))
 obtain ⟨W0, hW0, cb0, b0, z0⟩ := w0_facts w
 have cr := b0.cell (p := ⟨p, off + i * 2, none⟩) hp
 rw [c0'] at cr
 have HW0 := Lib.hid hW0
 obtain ⟨y, hy⟩ : ∃ y, c.getD i (-1) = y := ⟨_, rfl⟩
 rw [hy] at cr TX ⊢
 have i1 : (0 : Int) <= i := by omega
 have i2 : (i : Int) < n := by omega
 have i3 : (i : Int) <= 100000 := by omega
 have Z0 := Lib.hid z0
 unfold maxLen at h2
 have hcr : (w.alloc (.cells #[.int .i64 0, .string ⟨#[]⟩, .string ⟨#[]⟩, .bool false, .string ⟨#[]⟩, .string ⟨#[]⟩, .bool false, .bool false, .int .i64 0, .int .i64 0, .int .i64 0, .int .i64 0, .int .i64 0] 33)).cell? ⟨p, off + i * 2, none⟩ = some (.int .i64 y) := by rw [hW0]; exact cr
 clear hW0 z0 hv hc hn h3 h4 hsub hlc hcl c0' e0 hy cr
 by_cases k0 : y = 40
 ·subst k0
  rw [show M.oneK 40 = 21 from by decide, if_neg (by decide)]
  go_enter Tryz.func155, Tryz.ntmps155
  go_wp2_with (refine wpl_stT rfl _ _ rfl w.heap.size (ctv {} 0) (ctv { kind := 21 } 0) rfl rfl (CB.new w _) rfl rfl (ctv_one _ _) ?_)
  rw [HW0.out]
  go_wp2
  (try simp only [Exit.inBlock, Exit.then])
  exact bodyPost_ret (res_tok rfl _ _ w.heap.size _ _ rfl rfl (CB.set cb0 _) rfl) rfl ⟨rfl, below_setRow b0 (Nat.le_refl _) _⟩
 have t0 : (y == 40) = false := by rw [beq_eq_false_iff_ne]; exact k0
 by_cases k1 : y = 41
 ·subst k1
  rw [show M.oneK 41 = 22 from by decide, if_neg (by decide)]
  go_enter Tryz.func155, Tryz.ntmps155
  go_wp2_with (refine wpl_stT rfl _ _ rfl w.heap.size (ctv {} 0) (ctv { kind := 22 } 0) rfl rfl (CB.new w _) rfl rfl (ctv_one _ _) ?_)
  rw [HW0.out]
  go_wp2
  (try simp only [Exit.inBlock, Exit.then])
  exact bodyPost_ret (res_tok rfl _ _ w.heap.size _ _ rfl rfl (CB.set cb0 _) rfl) rfl ⟨rfl, below_setRow b0 (Nat.le_refl _) _⟩
 have t1 : (y == 41) = false := by rw [beq_eq_false_iff_ne]; exact k1
 by_cases k2 : y = 91
 ·subst k2
  rw [show M.oneK 91 = 23 from by decide, if_neg (by decide)]
  go_enter Tryz.func155, Tryz.ntmps155
  go_wp2_with (refine wpl_stT rfl _ _ rfl w.heap.size (ctv {} 0) (ctv { kind := 23 } 0) rfl rfl (CB.new w _) rfl rfl (ctv_one _ _) ?_)
  rw [HW0.out]
  go_wp2
  (try simp only [Exit.inBlock, Exit.then])
  exact bodyPost_ret (res_tok rfl _ _ w.heap.size _ _ rfl rfl (CB.set cb0 _) rfl) rfl ⟨rfl, below_setRow b0 (Nat.le_refl _) _⟩
 have t2 : (y == 91) = false := by rw [beq_eq_false_iff_ne]; exact k2
 by_cases k3 : y = 93
 ·subst k3
  rw [show M.oneK 93 = 24 from by decide, if_neg (by decide)]
  go_enter Tryz.func155, Tryz.ntmps155
  go_wp2_with (refine wpl_stT rfl _ _ rfl w.heap.size (ctv {} 0) (ctv { kind := 24 } 0) rfl rfl (CB.new w _) rfl rfl (ctv_one _ _) ?_)
  rw [HW0.out]
  go_wp2
  (try simp only [Exit.inBlock, Exit.then])
  exact bodyPost_ret (res_tok rfl _ _ w.heap.size _ _ rfl rfl (CB.set cb0 _) rfl) rfl ⟨rfl, below_setRow b0 (Nat.le_refl _) _⟩
 have t3 : (y == 93) = false := by rw [beq_eq_false_iff_ne]; exact k3
 by_cases k4 : y = 123
 ·subst k4
  rw [show M.oneK 123 = 19 from by decide, if_neg (by decide)]
  go_enter Tryz.func155, Tryz.ntmps155
  go_wp2_with (refine wpl_stT rfl _ _ rfl w.heap.size (ctv {} 0) (ctv { kind := 19 } 0) rfl rfl (CB.new w _) rfl rfl (ctv_one _ _) ?_)
  rw [HW0.out]
  go_wp2
  (try simp only [Exit.inBlock, Exit.then])
  exact bodyPost_ret (res_tok rfl _ _ w.heap.size _ _ rfl rfl (CB.set cb0 _) rfl) rfl ⟨rfl, below_setRow b0 (Nat.le_refl _) _⟩
 have t4 : (y == 123) = false := by rw [beq_eq_false_iff_ne]; exact k4
 by_cases k5 : y = 125
 ·subst k5
  rw [show M.oneK 125 = 20 from by decide, if_neg (by decide)]
  go_enter Tryz.func155, Tryz.ntmps155
  go_wp2_with (refine wpl_stT rfl _ _ rfl w.heap.size (ctv {} 0) (ctv { kind := 20 } 0) rfl rfl (CB.new w _) rfl rfl (ctv_one _ _) ?_)
  rw [HW0.out]
  go_wp2
  (try simp only [Exit.inBlock, Exit.then])
  exact bodyPost_ret (res_tok rfl _ _ w.heap.size _ _ rfl rfl (CB.set cb0 _) rfl) rfl ⟨rfl, below_setRow b0 (Nat.le_refl _) _⟩
 have t5 : (y == 125) = false := by rw [beq_eq_false_iff_ne]; exact k5
 by_cases k6 : y = 44
 ·subst k6
  rw [show M.oneK 44 = 18 from by decide, if_neg (by decide)]
  go_enter Tryz.func155, Tryz.ntmps155
  go_wp2_with (refine wpl_stT rfl _ _ rfl w.heap.size (ctv {} 0) (ctv { kind := 18 } 0) rfl rfl (CB.new w _) rfl rfl (ctv_one _ _) ?_)
  rw [HW0.out]
  go_wp2
  (try simp only [Exit.inBlock, Exit.then])
  exact bodyPost_ret (res_tok rfl _ _ w.heap.size _ _ rfl rfl (CB.set cb0 _) rfl) rfl ⟨rfl, below_setRow b0 (Nat.le_refl _) _⟩
 have t6 : (y == 44) = false := by rw [beq_eq_false_iff_ne]; exact k6
 by_cases k7 : y = 58
 ·subst k7
  rw [show M.oneK 58 = 16 from by decide, if_neg (by decide)]
  go_enter Tryz.func155, Tryz.ntmps155
  go_wp2_with (refine wpl_stT rfl _ _ rfl w.heap.size (ctv {} 0) (ctv { kind := 16 } 0) rfl rfl (CB.new w _) rfl rfl (ctv_one _ _) ?_)
  rw [HW0.out]
  go_wp2
  (try simp only [Exit.inBlock, Exit.then])
  exact bodyPost_ret (res_tok rfl _ _ w.heap.size _ _ rfl rfl (CB.set cb0 _) rfl) rfl ⟨rfl, below_setRow b0 (Nat.le_refl _) _⟩
 have t7 : (y == 58) = false := by rw [beq_eq_false_iff_ne]; exact k7
 by_cases k8 : y = 59
 ·subst k8
  rw [show M.oneK 59 = 17 from by decide, if_neg (by decide)]
  go_enter Tryz.func155, Tryz.ntmps155
  go_wp2_with (refine wpl_stT rfl _ _ rfl w.heap.size (ctv {} 0) (ctv { kind := 17 } 0) rfl rfl (CB.new w _) rfl rfl (ctv_one _ _) ?_)
  rw [HW0.out]
  go_wp2
  (try simp only [Exit.inBlock, Exit.then])
  exact bodyPost_ret (res_tok rfl _ _ w.heap.size _ _ rfl rfl (CB.set cb0 _) rfl) rfl ⟨rfl, below_setRow b0 (Nat.le_refl _) _⟩
 have t8 : (y == 59) = false := by rw [beq_eq_false_iff_ne]; exact k8
 rw [show M.oneK y = 9 by unfold M.oneK; rw [if_neg k0, if_neg k1, if_neg k2, if_neg k3, if_neg k4, if_neg k5, if_neg k6, if_neg k7, if_neg k8], if_pos rfl]
 clear k0 k1 k2 k3 k4 k5 k6 k7 k8
 go_enter Tryz.func155, Tryz.ntmps155
 go_wp2_with fail
 rw [HW0.out]
 refine (TX.out _ b0).mono ?_
 rintro e w2 ⟨rfl, hb2⟩
 have c2 := b0.trans (hb2.mono b0.size)
 have cb2 := cb0.keep hb2 cb0.lt
 clear hb2
 go_wp2_with (refine wpl_stT rfl _ _ rfl w.heap.size _ (ctv ({ kind := 9, text := M.enc y }) 0) rfl rfl cb2 rfl rfl (ctv_one _ _) ?_)
 go_wp2
 (try simp only [Exit.inBlock, Exit.then])
 refine bodyPost_ret (res_tok rfl _ _ w.heap.size _ _ rfl rfl (CB.set cb2 _) rfl) rfl ⟨rfl, below_setRow c2 (Nat.le_refl _) _⟩
theorem fspace_any (v : Value) (c : List Int) (i K : Nat) (w : World) (hv : Lc w v c) (hl : c.length <= 100000) (hi : i < c.length) (hK : i + M.blN (c.drop i) = K) :
  Calls Tryz.prog 146 #[v, .int .i64 (i : Int)] w (TkR w { kind := 13, text := if c.getD i (-1) = 10 then [10] else [32] } K) := by
 have SB := Lib.hid (fun (W : World) (hW : Below w.heap.size w W) => fskipb_any v c i K W (hv.keep hW) (by omega) (by omega) hK)
 obtain ⟨n, hn⟩ : ∃ n, c.length = n := ⟨_, rfl⟩
 rw [hn] at hl hi
 obtain ⟨a, cap, rfl, h1, h2, h3⟩ := lc_at hv hn
 obtain ⟨p, off, rfl, hp, c0⟩ := h3 i hi
 obtain ⟨y, hy⟩ : ∃ y, c.getD i (-1) = y := ⟨_, rfl⟩
 rw [hy] at c0 ⊢
 obtain ⟨W0, hW0, cb0, b0, z0⟩ := w0_facts w
 obtain ⟨W1, hW1, cb1, b1, z1⟩ := w0_facts W0
 have cb01 := cb0.keep b1 cb0.lt
 have b01 := b0.trans (b1.mono b0.size)
 obtain ⟨W2, hW2⟩ : ∃ W2, W1.setRow W0.heap.size (ctv { kind := 13, text := [32] } 0) = W2 := ⟨_, rfl⟩
 have cb2 : CB W2 (w.heap.size + 1) (ctv { kind := 13, text := [32] } 0) := by rw [<- hW2, <- z0]; exact cb1.set _
 have b2 : Below w.heap.size w W2 := by rw [<- hW2]; exact below_setRow b01 (by omega) _
 have cb02 : CB W2 w.heap.size (ctv {} 0) := by
  rw [<- hW2]; unfold CB; rw [setRow_other _ _ _ _ (by omega)]; exact cb01
 have cr := b2.cell (p := ⟨p, off + i * 2, none⟩) hp
 rw [c0] at cr
 have hlit : ((w.alloc (.cells #[.int .i64 0, .string ⟨#[]⟩, .string ⟨#[]⟩, .bool false, .string ⟨#[]⟩, .string ⟨#[]⟩, .bool false, .bool false, .int .i64 0, .int .i64 0, .int .i64 0, .int .i64 0, .int .i64 0] 33)).alloc (.cells #[.int .i64 0, .string ⟨#[]⟩, .string ⟨#[]⟩, .bool false, .string ⟨#[]⟩, .string ⟨#[]⟩, .bool false, .bool false, .int .i64 0, .int .i64 0, .int .i64 0, .int .i64 0, .int .i64 0] 33)).setRow (w.heap.size + 1) (ctv { kind := 13, text := [32] } 0) = W2 := by rw [hW0, <- z0, hW1, hW2]
 have hcb : CB ((w.alloc (.cells #[.int .i64 0, .string ⟨#[]⟩, .string ⟨#[]⟩, .bool false, .string ⟨#[]⟩, .string ⟨#[]⟩, .bool false, .bool false, .int .i64 0, .int .i64 0, .int .i64 0, .int .i64 0, .int .i64 0] 33)).alloc (.cells #[.int .i64 0, .string ⟨#[]⟩, .string ⟨#[]⟩, .bool false, .string ⟨#[]⟩, .string ⟨#[]⟩, .bool false, .bool false, .int .i64 0, .int .i64 0, .int .i64 0, .int .i64 0, .int .i64 0] 33)) (w.heap.size + 1) (ctv {} 0) := by rw [hW0, <- z0, hW1]; exact cb1
 have e0 := cb2.cell 1
 have e1 := cb2.free 1
 have e0' : W2.cell? ⟨w.heap.size + 1, 1, none⟩ = some (.string ⟨#[32]⟩) := e0
 have HLIT := Lib.hid hlit
 have i1 : (0 : Int) <= i := by omega
 have i2 : (i : Int) < n := by omega
 have CR2 : (((w.alloc (.cells #[.int .i64 0, .string ⟨#[]⟩, .string ⟨#[]⟩, .bool false, .string ⟨#[]⟩, .string ⟨#[]⟩, .bool false, .bool false, .int .i64 0, .int .i64 0, .int .i64 0, .int .i64 0, .int .i64 0] 33)).alloc (.cells #[.int .i64 0, .string ⟨#[]⟩, .string ⟨#[]⟩, .bool false, .string ⟨#[]⟩, .string ⟨#[]⟩, .bool false, .bool false, .int .i64 0, .int .i64 0, .int .i64 0, .int .i64 0, .int .i64 0] 33)).setRow (w.heap.size + 1) (ctv { kind := 13, text := [32] } 0)).cell? ⟨p, off + i * 2, none⟩ = some (.int .i64 y) := by rw [hlit]; exact cr
 have E02 : (((w.alloc (.cells #[.int .i64 0, .string ⟨#[]⟩, .string ⟨#[]⟩, .bool false, .string ⟨#[]⟩, .string ⟨#[]⟩, .bool false, .bool false, .int .i64 0, .int .i64 0, .int .i64 0, .int .i64 0, .int .i64 0] 33)).alloc (.cells #[.int .i64 0, .string ⟨#[]⟩, .string ⟨#[]⟩, .bool false, .string ⟨#[]⟩, .string ⟨#[]⟩, .bool false, .bool false, .int .i64 0, .int .i64 0, .int .i64 0, .int .i64 0, .int .i64 0] 33)).setRow (w.heap.size + 1) (ctv { kind := 13, text := [32] } 0)).cell? ⟨w.heap.size + 1, 1, none⟩ = some (.string ⟨#[32]⟩) := by rw [hlit]; exact e0'
 have E12 : (((w.alloc (.cells #[.int .i64 0, .string ⟨#[]⟩, .string ⟨#[]⟩, .bool false, .string ⟨#[]⟩, .string ⟨#[]⟩, .bool false, .bool false, .int .i64 0, .int .i64 0, .int .i64 0, .int .i64 0, .int .i64 0] 33)).alloc (.cells #[.int .i64 0, .string ⟨#[]⟩, .string ⟨#[]⟩, .bool false, .string ⟨#[]⟩, .string ⟨#[]⟩, .bool false, .bool false, .int .i64 0, .int .i64 0, .int .i64 0, .int .i64 0, .int .i64 0] 33)).setRow (w.heap.size + 1) (ctv { kind := 13, text := [32] } 0)).frozen? ⟨w.heap.size + 1, 1, none⟩ = false := by rw [hlit]; exact e1
 clear hv hn h3 hK hy hW0 hW1 hW2 z0 z1 cb0 b0 cb1 b1 cb01 b01 c0 cr hlit e0 e1 e0'
 by_cases hy : y = 10
 ·subst hy
  rw [if_pos rfl]
  have cb3 : CB (W2.setCell ⟨w.heap.size + 1, 1, none⟩ (.string ⟨#[10]⟩)) (w.heap.size + 1) (ctv { kind := 13, text := [10] } 0) := cb2.put 1 _
  have cb03 : CB (W2.setCell ⟨w.heap.size + 1, 1, none⟩ (.string ⟨#[10]⟩)) w.heap.size (ctv {} 0) := cb02.other (by omega) _ _
  have b3 : Below w.heap.size w (W2.setCell ⟨w.heap.size + 1, 1, none⟩ (.string ⟨#[10]⟩)) := b2.setCell (by show _ <= w.heap.size + 1; omega) _
  clear cb2 cb02 b2
  go_enter Tryz.func146, Tryz.ntmps146
  go_wp2_with (refine wpl_stT rfl _ _ rfl (w.heap.size + 1) (ctv {} 0) (ctv { kind := 13, text := [32] } 0) rfl rfl hcb rfl rfl (ctv_one _ _) ?_)
  rw [HLIT.out]
  obtain ⟨W3, hW3⟩ : ∃ W, W2.setCell ⟨w.heap.size + 1, 1, none⟩ (.string ⟨#[10]⟩) = W := ⟨_, rfl⟩
  rw [hW3] at cb3 cb03 b3 ⊢
  clear hW3 hcb
  refine wp_region_still_tail 4 (by kernel_rfl) (by kernel_rfl) ?_
  simp only [List.take_succ_cons, List.take_zero, List.drop_succ_cons, List.drop_zero]
  refine still_ldT rfl _ rfl (w.heap.size + 1) _ rfl cb3 rfl ?_
  repeat still_step
  still_call ((SB.out _ b3.drew).mono fun _ _ h => ⟨h.1, h.2.symm⟩)
  repeat still_step
  refine wpStill_nil ?_
  change wpList _ _ _ _ _ W3.drew
  have b4 := b3.drew
  have cb4 : CB W3.drew w.heap.size (ctv {} 0) := cb03
  go_wp2_with (refine wpl_stT rfl _ _ rfl w.heap.size _ (ctv ({ kind := 13, text := [10] }) 0) rfl rfl cb4 rfl rfl (ctv_one _ _) ?_)
  go_wp2
  (try simp only [Exit.inBlock, Exit.then])
  refine bodyPost_ret (res_tok rfl _ _ w.heap.size _ _ rfl rfl (CB.set cb4 _) rfl) rfl ⟨rfl, below_setRow b4 (Nat.le_refl _) _⟩
 ·have t1 : (y == 10) = false := by rw [beq_eq_false_iff_ne]; exact hy
  rw [if_neg hy]
  clear hy
  go_enter Tryz.func146, Tryz.ntmps146
  go_wp2_with (refine wpl_stT rfl _ _ rfl (w.heap.size + 1) (ctv {} 0) (ctv { kind := 13, text := [32] } 0) rfl rfl hcb rfl rfl (ctv_one _ _) ?_)
  rw [HLIT.out]
  clear hcb
  refine wp_region_still_tail 4 (by kernel_rfl) (by kernel_rfl) ?_
  simp only [List.take_succ_cons, List.take_zero, List.drop_succ_cons, List.drop_zero]
  refine still_ldT rfl _ rfl (w.heap.size + 1) _ rfl cb2 rfl ?_
  repeat still_step
  still_call ((SB.out _ b2.drew).mono fun _ _ h => ⟨h.1, h.2.symm⟩)
  repeat still_step
  refine wpStill_nil ?_
  change wpList _ _ _ _ _ W2.drew
  have b4 := b2.drew
  have cb4 : CB W2.drew w.heap.size (ctv {} 0) := cb02
  go_wp2_with (refine wpl_stT rfl _ _ rfl w.heap.size _ (ctv ({ kind := 13, text := [32] }) 0) rfl rfl cb4 rfl rfl (ctv_one _ _) ?_)
  go_wp2
  (try simp only [Exit.inBlock, Exit.then])
  refine bodyPost_ret (res_tok rfl _ _ w.heap.size _ _ rfl rfl (CB.set cb4 _) rfl) rfl ⟨rfl, below_setRow b4 (Nat.le_refl _) _⟩
theorem strT_atq (q : Int) (c : List Int) (j : Nat) (hj : j < c.length) (h : c.getD j (-1) = q) : M.strT q (c.drop j) = (false, [], 1) := by
 rw [drop_cons c j hj, <- getD_lt c j hj (-1), h]; exact M.strT_end q _
theorem strT_atb (q : Int) (c : List Int) (j : Nat) (hj : j < c.length) (h : c.getD j (-1) = 10) (hq : q ≠ 10) : M.strT q (c.drop j) = (true, [], 0) := by
 rw [drop_cons c j hj, <- getD_lt c j hj (-1), h]; exact M.strT_bad q _ hq
theorem strT_atl (q : Int) (c : List Int) (j : Nat) (hj : j + 1 = c.length) (h : c.getD j (-1) = 92) (hq : q ≠ 92) : M.strT q (c.drop j) = (false, [], 1) := by
 rw [drop_cons c j (by omega), <- getD_lt c j (by omega) (-1), h, List.drop_eq_nil_of_le (by omega)]; exact M.strT_last q hq
theorem strT_atn (q : Int) (c : List Int) (j : Nat) (hj : j + 1 < c.length) (h : c.getD j (-1) = 92) (h2 : c.getD (j + 1) (-1) = 10) (hq : q ≠ 92) : M.strT q (c.drop j) = ((M.strT q (c.drop (j + 2))).1, (M.strT q (c.drop (j + 2))).2.1, 2 + (M.strT q (c.drop (j + 2))).2.2) := by
 rw [drop_cons c j (by omega), <- getD_lt c j (by omega) (-1), h, drop_cons c (j + 1) hj, <- getD_lt c (j + 1) hj (-1), h2]; exact M.strT_line q _ hq
theorem strT_ate (q : Int) (c : List Int) (j : Nat) (hj : j + 1 < c.length) (h : c.getD j (-1) = 92) (h2 : c.getD (j + 1) (-1) ≠ 10) (hq : q ≠ 92) (r : Int) (k : Nat) (hr : M.escV (c.drop (j + 1)) = (r, k)) :
  M.strT q (c.drop j) = ((M.strT q (c.drop (j + 1 + k))).1, r :: (M.strT q (c.drop (j + 1 + k))).2.1, 1 + k + (M.strT q (c.drop (j + 1 + k))).2.2) := by
 have h3 : (c.drop (j + 1)).getD 0 (-1) ≠ 10 := by rw [getD_drop]; exact h2
 have h4 : c.drop (j + 1) ≠ [] := fun e => by have := congrArg List.length e; simp at this; omega
 rw [drop_cons c j (by omega), <- getD_lt c j (by omega) (-1), h, M.strT_esc q _ hq h4 h3, hr, List.drop_drop]
theorem strT_ato (q : Int) (c : List Int) (j : Nat) (hj : j < c.length) (h : c.getD j (-1) ≠ q) (h1 : c.getD j (-1) ≠ 10) (h2 : c.getD j (-1) ≠ 92) :
  M.strT q (c.drop j) = ((M.strT q (c.drop (j + 1))).1, c.getD j (-1) :: (M.strT q (c.drop (j + 1))).2.1, 1 + (M.strT q (c.drop (j + 1))).2.2) := by
 have e := drop_cons c j hj
 rw [<- getD_lt c j hj (-1)] at e
 rw [e, M.strT_one q _ _ h h1 h2]
theorem strT_atx (q : Int) (c : List Int) (j : Nat) (hj : c.length <= j) : M.strT q (c.drop j) = (false, [], 0) := by rw [List.drop_eq_nil_of_le hj]; exact M.strT_nil q
def StAt (q : Int) (c : List Int) (i j : Nat) (pre : List Int) : Prop :=
 M.strT q (c.drop (i + 1)) = ((M.strT q (c.drop j)).1, pre ++ (M.strT q (c.drop j)).2.1, (j - (i + 1)) + (M.strT q (c.drop j)).2.2) /\ i + 1 <= j
theorem StAt.go {q : Int} {c : List Int} {i j : Nat} {pre : List Int} (h : StAt q c i j pre) (m : Nat) (a : List Int) (e : M.strT q (c.drop j) = ((M.strT q (c.drop (j + m))).1, a ++ (M.strT q (c.drop (j + m))).2.1, m + (M.strT q (c.drop (j + m))).2.2)) : StAt q c i (j + m) (pre ++ a) := by
 obtain ⟨h1, h2⟩ := h
 refine ⟨?_, by omega⟩
 rw [h1, e]
 simp
 omega
theorem cps_append (a b : List (Int × Int)) : cps (a ++ b) = cps a ++ cps b := by simp [cps]
theorem encR_cps (l : List (Int × Int)) : M.encR l = M.encZs (cps l) := by unfold M.encR M.encZs cps; rw [List.flatMap_map]
theorem rs_at {w : World} {v : Value} {L : List (Int × Int)} (hv : Rs w v L) {n : Nat} (hn : L.length = n) : ∃ a cap, v = .slice a n cap /\ n <= cap /\ cap <= maxLen /\ ∀ i, i < n -> ∃ b off, a = some ⟨b, off, none⟩ /\ b < w.heap.size /\
  w.cell? ⟨b, off + i * 2, none⟩ = some (.int .i64 ((cps L).getD i (-1))) /\ w.cell? ⟨b, off + i * 2 + 1, none⟩ = some (.int .i64 ((L.map Prod.snd).getD i 0)) := by
 obtain ⟨a, cap, rfl, h1, h2, h3⟩ := rs_open hv hn
 refine ⟨a, cap, rfl, h1, h2, fun i hi => ?_⟩
 obtain ⟨b, off, rfl, hb, hc⟩ := h3 (by omega)
 have := hc i (by omega)
 refine ⟨b, off, rfl, hb, ?_, ?_⟩
 ·rw [this.1]; simp [cps, List.getD, show i < L.length by omega]
 ·rw [this.2]; simp [List.getD, show i < L.length by omega]
theorem ftext_any (v : Value) (L : List (Int × Int)) (c : List Int) (i : Nat) (q : Int) (t : M.CT) (K : Nat) (w : World) (hv : Rs w v L) (hc : cps L = c) (hl : L.length <= 90000) (hi : i < L.length) (hq : c.getD i (-1) = q) (hq2 : q = 34 \/ q = 39)
  (ht : (if (M.strT q (c.drop (i + 1))).1 = true then { kind := 6, text := M.encZs ((c.drop i).take (1 + (M.strT q (c.drop (i + 1))).2.2)) } else { kind := 5, text := M.encZs (M.strT q (c.drop (i + 1))).2.1 } : M.CT) = t) (hK : i + (1 + (M.strT q (c.drop (i + 1))).2.2) = K) :
  Calls Tryz.prog 147 #[v, .int .i64 (i : Int)] w (TkR w t K) := by
 have hlc := hv.lc
 rw [hc] at hlc
 have hcl : c.length = L.length := by rw [<- hc, cps_len]
 obtain ⟨n, hn⟩ : ∃ n, L.length = n := ⟨_, rfl⟩
 rw [hn] at hl hi hcl
 obtain ⟨a, cap, rfl, h1, h2, h3⟩ := rs_at hv hn
 rw [hc] at h3
 obtain ⟨p, off, rfl, hp, -⟩ := h3 i hi
 have hcell : ∀ j, j < n -> w.cell? ⟨p, off + j * 2, none⟩ = some (.int .i64 (c.getD j (-1))) /\ w.cell? ⟨p, off + j * 2 + 1, none⟩ = some (.int .i64 ((L.map Prod.snd).getD j 0)) := by
  intro j hj
  obtain ⟨b, off', e, _, g1, g2⟩ := h3 j hj
  simp only [Option.some.injEq, Addr.mk.injEq, and_true] at e
  obtain ⟨rfl, rfl⟩ := e
  exact ⟨g1, g2⟩
 have hsub := fun (j : Nat) (h1 : i <= j) (h2 : j <= n) => rs_sub hv i j h1 h2 p off rfl
 have TX := Lib.hid (fun (W : World) (hW : Below w.heap.size w W) (j : Nat) (h1 : i <= j) (h2 : j <= n) => ctext_any _ _ (M.encZs ((c.drop i).take (j - i))) W (rs_keep (hsub j h1 h2) hW) (by simp; omega) (by rw [cps_sub, hc]))
 have HLC := Lib.hid hlc
 have HCL := Lib.hid hcl
 have HCE := Lib.hid hcell
 obtain ⟨W0, hW0, cb0, b0, z0⟩ := w0_facts w
 have HW0 := Lib.hid hW0
 have Z0 := Lib.hid z0
 have C0 := Lib.hid b0
 have CB0 := Lib.hid cb0
 have HT := Lib.hid ht
 have HK := Lib.hid hK
 have HQ2 := Lib.hid hq2
 have ci := (hcell i hi).1
 rw [hq] at ci
 have cr := b0.cell (p := ⟨p, off + i * 2, none⟩) hp
 rw [ci] at cr
 have cr' : (w.alloc (.cells #[.int .i64 0, .string ⟨#[]⟩, .string ⟨#[]⟩, .bool false, .string ⟨#[]⟩, .string ⟨#[]⟩, .bool false, .bool false, .int .i64 0, .int .i64 0, .int .i64 0, .int .i64 0, .int .i64 0] 33)).cell? ⟨p, off + i * 2, none⟩ = some (.int .i64 q) := by rw [hW0]; exact cr
 have i1 : (0 : Int) <= i := by omega
 have i2 : (i : Int) < n := by omega
 have i3 : (n : Int) <= 90000 := by omega
 unfold maxLen at h2
 clear hW0 z0 hv hc hn h3 hsub hlc hcl b0 cb0 ht hK hcell hq hq2 ci cr
 go_enter Tryz.func147, Tryz.ntmps147
 go_wp2
 rw [HW0.out]
 clear cr'
 go_loopw [7, 8, 9, 10] (fun vv ev _ _ wr => ∃ (j : Nat) (pre : List (Int × Int)), ev = .int .i64 (j : Int) /\ j <= n /\ StAt q c i j (cps pre) /\ pre.length <= j /\ OwnR W0.heap.size wr vv pre /\ Below W0.heap.size W0 wr) (fun _ ev _ _ _ => n - (intOf ev).toNat)
 case atStart => exact ⟨i + 1, [], by go_num, by omega, ⟨by simp [cps], Nat.le_refl _⟩, by simp, ownV_nil _ _ _ _, Below.refl _ _⟩
 case round =>
  obtain ⟨j, pre, rfl, hj2, hst, hpl, ho, hb⟩ := hrel
  have hsz := hb.size
  have HST := Lib.hid hst
  have hij := hst.2
  have hw := C0.out.trans (hb.mono (by rw [Z0.out]; omega))
  have HWR := Lib.hid hw
  have CBR := Lib.hid (CB0.out.keep hb (by rw [Z0.out]; omega))
  have j0 : (0 : Int) <= j := by omega
  have j1 : (i : Int) <= j := by omega
  have j2 : (j : Int) <= n := by omega
  clear hst hw
  by_cases hjn : j < n
  ·have t1 : decide ((j : Int) < n) = true := by simp; omega
   have j3 : (j : Int) < n := by omega
   obtain ⟨ca, cb⟩ := HCE.out j hjn
   have ra := HWR.out.cell (p := ⟨p, off + j * 2, none⟩) hp
   have rb := HWR.out.cell (p := ⟨p, off + j * 2 + 1, none⟩) hp
   rw [ca] at ra
   rw [cb] at rb
   obtain ⟨y, hy⟩ : ∃ y, c.getD j (-1) = y := ⟨_, rfl⟩
   obtain ⟨z, hz⟩ : ∃ z, (L.map Prod.snd).getD j 0 = z := ⟨_, rfl⟩
   rw [hy] at ra
   rw [hz] at rb
   have HY := Lib.hid hy
   clear ca cb hy hz
   by_cases hyq : y = q
   ·have tq : (y != q) = false := by simp [hyq]
    have hs := strT_atq q c j (by rw [HCL.out]; exact hjn) (by rw [HY.out]; exact hyq)
    have hfin := HST.out.1
    rw [hs] at hfin
    simp only [List.append_nil] at hfin
    have ht := HT.out
    have hK := HK.out
    rw [hfin] at ht hK
    simp only [Bool.false_eq_true, if_false] at ht hK
    have HT2 := Lib.hid ht
    have HK2 := Lib.hid (show ((K : Nat) : Int) = min ((j : Int) + 1) n by omega)
    have T1 := Lib.hid (ctext_any u7 pre (M.encZs (cps pre)) wr ho.vs (by omega) (encR_cps pre))
    clear hs hfin ht hK hyq ho hb rb
    as_aux_lemma =>
     go_wp2_with fail
     refine (T1.out).mono ?_
     rintro e w2 ⟨rfl, hb2⟩
     have c2 := HWR.out.trans (hb2.mono HWR.out.size)
     have cb2 := CBR.out.keep hb2 CBR.out.lt
     clear hb2
     go_wp2_with (refine wpl_stT rfl _ _ rfl w.heap.size _ (ctv ({ kind := 5, text := M.encZs (cps pre) }) 0) rfl rfl cb2 rfl rfl (ctv_one _ _) ?_)
     go_wp2
     (try simp only [Exit.inBlock, Exit.then])
     refine bodyPost_ret (res_tok rfl _ _ w.heap.size _ _ rfl rfl (CB.set cb2 _) rfl) rfl ⟨(by first | (rw [<- HT2.out, HK2.out]; done) | (rw [<- HT2.out]; exact etup_ai (by have := HK2.out; omega))), below_setRow c2 (Nat.le_refl _) _⟩
   ·have tq : (y != q) = true := by simpa [bne] using hyq
    by_cases hy10 : y = 10
    ·have ta : (y == 10) = true := by simpa using hy10
     have hs := strT_atb q c j (by rw [HCL.out]; exact hjn) (by rw [HY.out]; exact hy10) (by have := HQ2.out; omega)
     have hfin := HST.out.1
     rw [hs] at hfin
     simp only [List.append_nil] at hfin
     have ht := HT.out
     have hK := HK.out
     rw [hfin] at ht hK
     simp only [if_true] at ht hK
     rw [show 1 + (j - (i + 1) + 0) = j - i by omega] at ht
     have HT2 := Lib.hid ht
     obtain rfl : j = K := by omega
     clear hs hfin ht hK hyq ho hb rb hy10
     as_aux_lemma =>
      go_wp2_with fail
      refine (TX.out _ HWR.out j (by omega) hj2).mono ?_
      rintro e w2 ⟨rfl, hb2⟩
      have c2 := HWR.out.trans (hb2.mono HWR.out.size)
      have cb2 := CBR.out.keep hb2 CBR.out.lt
      clear hb2
      go_wp2_with (refine wpl_stT rfl _ _ rfl w.heap.size _ (ctv ({ kind := 6, text := M.encZs ((c.drop i).take (j - i)) }) 0) rfl rfl cb2 rfl rfl (ctv_one _ _) ?_)
      go_wp2
      (try simp only [Exit.inBlock, Exit.then])
      refine bodyPost_ret (res_tok rfl _ _ w.heap.size _ _ rfl rfl (CB.set cb2 _) rfl) rfl ⟨(by rw [<- HT2.out]), below_setRow c2 (Nat.le_refl _) _⟩
    ·have ta : (y == 10) = false := by simpa using hy10
     by_cases hy92 : y = 92
     ·have te : (y == 92) = true := by simpa using hy92
      by_cases hje : j + 1 = n
      ·have tl : ((j : Int) + 1 == n) = true := by rw [beq_iff_eq]; omega
       have hs := strT_atl q c j (by rw [HCL.out]; exact hje) (by rw [HY.out]; exact hy92) (by have := HQ2.out; omega)
       have hx := strT_atx q c (j + 1) (by rw [HCL.out]; omega)
       have hnew := Lib.hid (HST.out.go 1 [] (by rw [hs, hx]; rfl))
       have hmn : min ((j : Int) + 2) n = ((j + 1 : Nat) : Int) := by omega
       have HMN := Lib.hid hmn
       clear hs hx hyq hy10 hy92 rb hmn
       as_aux_lemma =>
        go_wp2
        go_roundw
        case rel => exact ⟨j + 1, pre, by first | exact congrArg _ HMN.out | (rw [HMN.out]) | (have := HMN.out; go_num), by omega, by have := hnew.out; simpa using this, by omega, ho, hb⟩
        case measure => (have := HMN.out; simp [intOf]; omega)
      ·have tl : ((j : Int) + 1 == n) = false := by rw [beq_eq_false_iff_ne]; omega
       have hj5 : j + 1 < n := by omega
       have j5 : (j : Int) + 1 < n := by omega
       have j6 : ((j : Int) + 1).toNat = j + 1 := by omega
       have ca2 := (HCE.out (j + 1) hj5).1
       have ra2 := HWR.out.cell (p := ⟨p, off + (j + 1) * 2, none⟩) hp
       rw [ca2] at ra2
       obtain ⟨y2, hy2⟩ : ∃ y, c.getD (j + 1) (-1) = y := ⟨_, rfl⟩
       rw [hy2] at ra2
       have HY2 := Lib.hid hy2
       clear ca2 hy2 hje
       by_cases hyn : y2 = 10
       ·have tn : (y2 == 10) = true := by simpa using hyn
        have hs := strT_atn q c j (by rw [HCL.out]; exact hj5) (by rw [HY.out]; exact hy92) (by rw [HY2.out]; exact hyn) (by have := HQ2.out; omega)
        have hnew := Lib.hid (HST.out.go 2 [] (by rw [hs]; rfl))
        have hmn : min ((j : Int) + 2) n = ((j + 2 : Nat) : Int) := by omega
        have HMN := Lib.hid hmn
        clear hs hyq hy10 hy92 rb hmn hyn
        as_aux_lemma =>
         go_wp2
         go_roundw
         case rel => exact ⟨j + 2, pre, by first | exact congrArg _ HMN.out | (rw [HMN.out]) | (have := HMN.out; go_num), by omega, by have := hnew.out; simpa using this, by omega, ho, hb⟩
         case measure => (have := HMN.out; simp [intOf]; omega)
       ·have tn : (y2 == 10) = false := by simpa using hyn
        obtain ⟨r, k, hr⟩ : ∃ r k, M.escV (c.drop (j + 1)) = (r, k) := ⟨_, _, rfl⟩
        have hs := strT_ate q c j (by rw [HCL.out]; exact hj5) (by rw [HY.out]; exact hy92) (by rw [HY2.out]; exact hyn) (by have := HQ2.out; omega) r k hr
        have hnew := HST.out.go (1 + k) [r] (by rw [hs, Nat.add_assoc]; rfl)
        have hle := M.escV_le_at c j (by rw [HCL.out]; exact hjn)
        rw [hr, HCL.out] at hle
        simp only at hle
        have E2 := Lib.hid (etake_any _ c j r k wr (HLC.out.keep HWR.out) (by rw [HCL.out]; omega) (by rw [HCL.out]; exact hjn) hr)
        obtain ⟨m, hm⟩ : ∃ m, j + 1 + k = m := ⟨_, rfl⟩
        rw [hm] at hle E2
        rw [show j + (1 + k) = m by omega] at hnew
        have hm2 : j + 1 <= m := by omega
        have HNEW := Lib.hid hnew
        clear hs hnew hyq hy10 hy92 rb hyn hr hm
        as_aux_lemma =>
         go_wp2_with fail
         refine (E2.out).mono ?_
         rintro e w' ⟨rfl, rfl⟩
         go_wp2_with (at_builtin; refine wpl_rune rfl _ _ rfl W0.heap.size _ (.slice (some ⟨wr.heap.size, 0, none⟩) 1 1) pre (pre ++ [(r, 0)]) r 0 rfl (OwnR.keep ho ((Below.refl _ _).alloc (Nat.le_refl _) _)) rfl (one_rune wr r 0) (nnv_some _ _ _) (by omega) (by simp; omega) rfl ?_)
         intro v3 w3 ho3 hb4
         have hb5 := (hb.alloc hsz _).trans hb4
         clear hb hb4 ho
         go_wp2
         go_roundw
         case rel => exact ⟨m, pre ++ [(r, 0)], by first | rfl | go_num, by omega, by have := HNEW.out; rw [cps_append]; exact this, by simp; omega, ho3, hb5⟩
         case measure => simp [intOf]; omega
     ·have te : (y == 92) = false := by simpa using hy92
      have hs := strT_ato q c j (by rw [HCL.out]; exact hjn) (by rw [HY.out]; exact hyq) (by rw [HY.out]; exact hy10) (by rw [HY.out]; exact hy92)
      rw [HY.out] at hs
      have hnew := Lib.hid (HST.out.go 1 [y] (by rw [hs]; rfl))
      clear hs hyq hy10 hy92
      as_aux_lemma =>
       go_wp2_with (at_builtin; refine wpl_rune rfl _ _ rfl W0.heap.size _ (.slice (some ⟨wr.heap.size, 0, none⟩) 1 1) pre (pre ++ [(y, z)]) y z rfl (OwnR.keep ho ((Below.refl _ _).alloc (Nat.le_refl _) _)) rfl (one_rune wr y z) (nnv_some _ _ _) (by omega) (by simp; omega) rfl ?_)
       intro v3 w3 ho3 hb4
       have hb5 := (hb.alloc hsz _).trans hb4
       clear hb hb4 ho
       go_wp2
       go_roundw
       case rel => exact ⟨j + 1, pre ++ [(y, z)], by go_num, by omega, by have := hnew.out; rw [cps_append]; exact this, by simp; omega, ho3, hb5⟩
       case measure => simp [intOf]; omega
  ·obtain rfl : j = n := by omega
   have t1 : decide ((j : Int) < j) = false := by simp
   have hs := strT_atx q c j (by rw [HCL.out]; exact Nat.le_refl _)
   have hfin := HST.out.1
   rw [hs] at hfin
   simp only [List.append_nil] at hfin
   have ht := HT.out
   have hK := HK.out
   rw [hfin] at ht hK
   simp only [Bool.false_eq_true, if_false] at ht hK
   have HT2 := Lib.hid ht
   have HK2 := Lib.hid (show ((K : Nat) : Int) = min ((j : Int) + 1) j by omega)
   have T1 := Lib.hid (ctext_any u7 pre (M.encZs (cps pre)) wr ho.vs (by omega) (encR_cps pre))
   clear hs hfin ht hK ho hb hjn
   as_aux_lemma =>
    go_wp2_with fail
    refine (T1.out).mono ?_
    rintro e w2 ⟨rfl, hb2⟩
    have c2 := HWR.out.trans (hb2.mono HWR.out.size)
    have cb2 := CBR.out.keep hb2 CBR.out.lt
    clear hb2
    go_wp2_with (refine wpl_stT rfl _ _ rfl w.heap.size _ (ctv ({ kind := 5, text := M.encZs (cps pre) }) 0) rfl rfl cb2 rfl rfl (ctv_one _ _) ?_)
    go_wp2
    (try simp only [Exit.inBlock, Exit.then])
    refine bodyPost_ret (res_tok rfl _ _ w.heap.size _ _ rfl rfl (CB.set cb2 _) rfl) rfl ⟨(by first | (rw [<- HT2.out, HK2.out]; done) | (rw [<- HT2.out]; exact etup_ai (by have := HK2.out; omega))), below_setRow c2 (Nat.le_refl _) _⟩
end Go.Proofs.YtimjbjppmhdjnaaGreatDoor
