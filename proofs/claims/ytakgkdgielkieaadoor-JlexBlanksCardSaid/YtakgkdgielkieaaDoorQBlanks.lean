/- The walk of JlexBlanks. -/
import Derived.Test.YtakgkdgielkieaaDoorQAlive
import Derived.Test.YtakgkdgielkieaaDoorQMath11
import Derived.Test.YtakgkdgielkieaaDoorQView
import Derived.Test.YtakgkdgielkieaaDoorQR6
import Derived.Test.YtakgkdgielkieaaDoorIBase
import Derived.Test.YtakgkdgielkieaaDoorUAppS
import Derived.Deep.QuietTactic
import Derived.BigQuiet
import Derived.StillTailTactics
namespace Go.Proofs.YtakgkdgielkieaaDoor
open Go.RowKit
set_option linter.unusedVariables false
set_option linter.unusedSimpArgs false

def bblk : Obj := .cells #[.string ⟨#[]⟩, .string ⟨#[32]⟩, .string ⟨#[9]⟩, .string ⟨#[10]⟩, .string ⟨#[13, 10, 32]⟩] 9
theorem bblk_cell (w : World) (k : Nat) (hk : k < 5) : (w.alloc bblk).cell? ⟨w.heap.size, k, none⟩ = some (.string (bytes (blS.getD k []))) := by
  unfold bblk
  rw [World.cell?_alloc_at _ _ _ _ rfl]
  have : k = 0 ∨ k = 1 ∨ k = 2 ∨ k = 3 ∨ k = 4 := by omega
  rcases this with rfl | rfl | rfl | rfl | rfl <;> rfl
theorem pick_k (a k : Nat) (h : a % 5 = k) : pickB a = blS.getD k [] := by unfold pickB; rw [h]
theorem PB_ne (A : Nat → Nat) (ts : M.Toks) (i : Nat) (h : pickB (A i) ≠ []) : PB A ts i = pickB (A i) := by unfold PB; rw [if_neg (fun hh => h hh.1)]
theorem PB_no (A : Nat → Nat) (ts : M.Toks) (i : Nat) (h : ¬ (0 < i ∧ i < ts.length ∧ 7 ≤ kindAt ts (i - 1) ∧ 7 ≤ kindAt ts i)) : PB A ts i = pickB (A i) := by unfold PB; rw [if_neg (fun hh => h hh.2)]
theorem PB_yes (A : Nat → Nat) (ts : M.Toks) (i : Nat) (h0 : pickB (A i) = []) (h : 0 < i ∧ i < ts.length ∧ 7 ≤ kindAt ts (i - 1) ∧ 7 ≤ kindAt ts i) : PB A ts i = [32] := by unfold PB; rw [if_pos ⟨h0, h⟩]
/-- What is put together, and what is still to come. -/
def BlAt (P : Nat → List UInt8) (TL : M.TL) (CC : List UInt8) (i : Nat) (pre : List UInt8) : Prop := (i ≤ TL.length → pre ++ M.bld P i (TL.drop i) = CC) ∧ (i = TL.length + 1 → pre = CC)
theorem blAt_len {P : Nat → List UInt8} {TL : M.TL} {CC : List UInt8} {i : Nat} {pre : List UInt8} (h : BlAt P TL CC i pre) (hi : i ≤ TL.length + 1) : pre.length ≤ CC.length := by
  by_cases h1 : i ≤ TL.length
  · have := h.1 h1; rw [← this, List.length_append]; omega
  · have := h.2 (by omega); rw [this]; exact Nat.le_refl _
theorem blAt_in {P : Nat → List UInt8} {TL : M.TL} {CC : List UInt8} {i : Nat} {pre q S : List UInt8} (h : BlAt P TL CC i pre) (hi : i < TL.length) (hq : P i = q) (hS : TL[i].2 = S) : BlAt P TL CC (i + 1) (pre ++ q ++ S) := by
  refine ⟨fun _ => ?_, fun h2 => by omega⟩
  have := h.1 (Nat.le_of_lt hi)
  rw [List.drop_eq_getElem_cons hi, M.bld_cons, hq, hS] at this
  rw [← this]; simp
theorem blAt_end {P : Nat → List UInt8} {TL : M.TL} {CC : List UInt8} {pre q : List UInt8} (h : BlAt P TL CC TL.length pre) (hq : P TL.length = q) : BlAt P TL CC (TL.length + 1) (pre ++ q) := by
  refine ⟨fun h2 => by omega, fun _ => ?_⟩
  have := h.1 (Nat.le_refl _)
  rw [List.drop_length, M.bld_nil, hq] at this
  exact this
theorem qtoList (l : List UInt8) : (bytes l).toList = l := by
  rw [ByteArray.toList_eq]; exact bytes_list l
theorem qstr_nil (S : ByteArray) (l : List UInt8) (h : bytes l = S) (h0 : l = []) : S.toList = [] ∧ S.toList.isEmpty = true ∧ (!S.toList.isEmpty) = false := by
  subst h; subst h0; rw [qtoList]; simp
theorem qstr_ne (S : ByteArray) (l : List UInt8) (h : bytes l = S) (h0 : l ≠ []) : S.toList.isEmpty = false ∧ (!S.toList.isEmpty) = true ∧ ¬ S.toList = [] := by
  subst h; rw [qtoList]; simp [h0]
theorem wpl_append_strS {w : World} {ops : Array Oper} {rest : List Oper} {o : Oper} {a : Act} {Q : Exit → Act → World → Prop} (hgd : o.guard = none) (s x : Operand)
    (ho : o.op = .call { callee := .builtin .append, args := #[s, x], argTypes := #[22, 9] })
    (B : Nat) (v : Value) (l k t : List UInt8) (S : ByteArray) (hS : bytes k = S) (hs : a.eval s = v) (hown : OwnB B w v l) (hx : a.eval x = .string S)
    (hlen : l.length + k.length ≤ 4294967296) (hB : B ≤ w.heap.size) (ht : l ++ k = t)
    (h : ∀ v' w', OwnB B w' v' t → Below B w w' → wpList Tryd.prog ops Q rest (a.put o.dst v') w') : wpList Tryd.prog ops Q (o :: rest) a w := by
  subst hS
  exact wpl_append_str hgd s x ho B v l k t hs hown hx hlen hB ht h
theorem pick_len (a : Nat) : (pickB a).length ≤ 3 := by
  have h : a % 5 < 5 := Nat.mod_lt _ (by omega)
  rw [pick_k a _ rfl]
  have : a % 5 = 0 ∨ a % 5 = 1 ∨ a % 5 = 2 ∨ a % 5 = 3 ∨ a % 5 = 4 := by omega
  rcases this with h | h | h | h | h <;> rw [h] <;> decide
theorem tsAt_val {B : Nat} {w : World} {a : Option Addr} {n cap : Nat} {l : M.Toks} (h : TsAt B w (.slice a n cap) l) (h0 : 0 < l.length) :
    ∃ b off, a = some ⟨b, off, none⟩ ∧ b < B ∧ ∀ j (hj : j < l.length), w.cell? ⟨b, off + j * 3, none⟩ = some (.int .i64 (l[j].1 : Int)) ∧ w.cell? ⟨b, off + j * 3 + 1, none⟩ = some (.int .i64 (l[j].2.1 : Int)) ∧ w.cell? ⟨b, off + j * 3 + 2, none⟩ = some (.int .i64 (l[j].2.2 : Int)) := by
  obtain ⟨a', c', hs, hv⟩ := h
  simp only [Value.slice.injEq] at hs
  obtain ⟨rfl, _, _⟩ := hs
  exact hv h0
set_option maxRecDepth 100000 in
set_option maxHeartbeats 16000000 in
theorem jblanks_walk (a0 : Option Addr) (len0 cap0 : Nat) (a1 : Option Addr) (len1 cap1 : Nat) (l : List UInt8) (zs : List Int) (w : World) (hl : l.length = len0) (b0 : Bs w (.slice a0 len0 cap0) l) (n0 : ∀ n c, Value.slice a0 len0 cap0 = .slice none n c → c = 0)
    (hz : zs.length = len1) (b1 : Is w (.slice a1 len1 cap1) zs) (n1 : NN (.slice a1 len1 cap1)) (hT : Tabs w) :
    Calls Tryd.prog 3 #[.slice a0 len0 cap0, .slice a1 len1 cap1] w fun e w' => e = .returned (.bool true) ∧ Below w.heap.size w w' := by
  have al := Lib.hid (alive_any w hT)
  obtain ⟨R, hR⟩ : ∃ R, M.splitV l = R := ⟨_, rfl⟩
  have S2 := Lib.hid (fun v W hB => refjlex_all v l _ W hB hR)
  obtain ⟨ts, ea, aa⟩ := R
  have B0 := Lib.hid b0
  have B1 := Lib.hid b1
  have HT := Lib.hid hT
  have hway : (300 < len0) ∨ (len0 ≤ 300 ∧ ea ≠ 0) ∨ (len0 ≤ 300 ∧ ea = 0 ∧ aa = 0 ∧ M.lexS l 0 = .ok ts ∧ (M.validAll l).2 = true ∧ ts.length ≤ 300) := by
    by_cases h : 300 < len0
    · exact .inl h
    · right
      rcases M.split_cases l (by omega) with ⟨e, a, hs, he, _⟩ | ⟨r, hs, hx, hv⟩
      · left; rw [hs] at hR; simp only [Prod.mk.injEq] at hR; obtain ⟨_, rfl, _⟩ := hR; exact ⟨by omega, he⟩
      · right; rw [hs] at hR; simp only [Prod.mk.injEq] at hR; obtain ⟨rfl, rfl, rfl⟩ := hR
        have := M.lex_len l r hx
        exact ⟨by omega, rfl, rfl, hx, hv, by omega⟩
  have HL := Lib.hid hl
  have HZ := Lib.hid hz
  clear b0 n0 b1 n1 hT hl hz hR
  have early : ∀ (h : (300 < len0) ∨ (len0 ≤ 300 ∧ ea ≠ 0) ∨ (len0 ≤ 300 ∧ ea = 0 ∧ len1 < ts.length + 1 ∧ ts.length ≤ 300)), Calls Tryd.prog 3 #[.slice a0 len0 cap0, .slice a1 len1 cap1] w fun e w' => e = .returned (.bool true) ∧ Below w.heap.size w w' := by
    intro h
    have hq : (decide ((300 : Int) < len0) = true) ∨ (decide ((300 : Int) < len0) = false ∧ (ea != 0) = true) ∨ (decide ((300 : Int) < len0) = false ∧ (ea != 0) = false ∧ len1 < ts.length + 1 ∧ ts.length ≤ 300) := by
      rcases h with h | ⟨h, h2⟩ | ⟨h, h2, h3, h4⟩
      · left; simp; omega
      · right; left; exact ⟨by simp; omega, by rw [bne_iff_ne]; exact h2⟩
      · right; right; exact ⟨by simp; omega, by simp [h2], h3, h4⟩
    clear h hway
    obtain ⟨n, hn⟩ : ∃ n, ts.length = n := ⟨_, rfl⟩
    rw [hn] at hq
    have HN := Lib.hid hn
    clear hn
    rcases hq with t1 | ⟨t1, t2⟩ | ⟨t1, t2, t3, t4⟩
    all_goals
      go_enter Tryd.func3, Tryd.ntmps3
      go_wp2_with fail
      refine al.out.mono ?_
      rintro e w1 ⟨rfl, hb1⟩
      go_wp2_with fail
      refine (S2.out _ _ (B0.out.keep hb1)).mono ?_
      rintro e w2 ⟨v2, rfl, ho2, hb2⟩
      obtain ⟨a2, cap2, rfl, _⟩ := ts_view ho2.vs
      have c2 := hb1.trans (hb2.mono hb1.size)
      have c3 := c2.alloc c2.size (.cells #[.int .i64 ea, .int .i64 aa] 28)
      unfold fv
      dsimp only
      rw [HN.out]
      clear hb1 hb2 ho2 c2
      go_wp2
      go_ret
      exact ⟨rfl, c3⟩
  rcases hway with h | h | ⟨hk0, rfl, rfl, hx, hv, hk1⟩
  · exact early (.inl h)
  · exact early (.inr (.inl h))
  by_cases hshort : len1 < ts.length + 1
  · exact early (.inr (.inr ⟨hk0, rfl, hshort, hk1⟩))
  clear early
  obtain ⟨A, hA⟩ : ∃ A : Nat → Nat, ∀ i, bits .and .i64 (zs.getD i 0) 1023 = (A i : Int) ∧ A i < 1024 := ⟨fun i => (and1023_any (zs.getD i 0)).choose, fun i => (and1023_any (zs.getD i 0)).choose_spec⟩
  obtain ⟨hclen, hsp⟩ := blanks_split A l ts (by rw [HL.out]; exact hk0) hv hx
  have hgood := tlOf_good l ts hv hx
  have heach := lex_each l.length l 0 ts (by omega) (by omega) (by unfold Okv; simpa using hv) (by simpa using hx)
  have hposat := pos_at (PB A ts) (tlOf l ts) 0 []
  rw [List.nil_append] at hposat
  have hposlen := pos_len (PB A ts) (tlOf l ts) 0 0
  rw [tlOf_len] at hposlen
  obtain ⟨CC, hCC⟩ : ∃ C, M.bld (PB A ts) 0 (tlOf l ts) = C := ⟨_, rfl⟩
  rw [hCC] at hclen hsp hposat
  have S1 := Lib.hid (fun v W hW hB => split_any v CC _ W hW hB (by omega) hsp)
  have HBl0 : Hid (BlAt (PB A ts) (tlOf l ts) CC 0 []) := Lib.hid ⟨fun _ => by rw [List.nil_append, List.drop_zero]; exact hCC, fun h => by rw [tlOf_len] at h; omega⟩
  have HA := Lib.hid hA
  have Heach := Lib.hid heach
  have Hposat := Lib.hid hposat
  have Hposlen := Lib.hid hposlen
  obtain ⟨N, hN⟩ : ∃ N, ts.length = N := ⟨_, rfl⟩
  rw [hN] at hk1 hshort
  have HN := Lib.hid hN
  have kc := hclen
  have q300 : decide ((300 : Int) < len0) = false := by simp; omega
  clear hA hclen hsp hgood heach hposat hposlen hCC hN hx hv
  go_enter Tryd.func3, Tryd.ntmps3
  go_wp2_with fail
  refine al.out.mono ?_
  rintro e w1 ⟨rfl, hb1⟩
  go_wp2_with fail
  refine (S2.out _ _ (B0.out.keep hb1)).mono ?_
  rintro e w2 ⟨v2, rfl, ho2, hb2⟩
  have ts2 := tsAt_of ho2.vs
  obtain ⟨a2, cap2, rfl, _⟩ := id ts2
  have c2 := hb1.trans (hb2.mono hb1.size)
  obtain ⟨W3, hW3⟩ : ∃ W, w2.alloc (.cells #[.int .i64 0, .int .i64 0] 28) = W := ⟨_, rfl⟩
  have z3 : W3.heap.size = w2.heap.size + 1 := by rw [← hW3]; simp
  have d3 : Below w2.heap.size w2 W3 := by rw [← hW3]; exact (Below.refl _ _).alloc (Nat.le_refl _) _
  obtain ⟨W5, hW5⟩ : ∃ W, W3.alloc bblk = W := ⟨_, rfl⟩
  have z5 : W5.heap.size = w2.heap.size + 2 := by rw [← hW5]; simp [z3]
  have d5 : Below W3.heap.size W3 W5 := by rw [← hW5]; exact (Below.refl _ _).alloc (Nat.le_refl _) _
  have d25 := d3.trans (d5.mono (by omega))
  have c5 := c2.trans (d25.mono c2.size)
  have hbc : ∀ k, k < 5 → W5.cell? ⟨w2.heap.size + 1, k, none⟩ = some (.string (bytes (blS.getD k []))) := fun k hk => by rw [← hW5, ← z3]; exact bblk_cell W3 k hk
  have T2 := Lib.hid (tsAt_keep ts2 d25 (Nat.le_refl _))
  have BB := Lib.hid (B0.out.keep c5)
  have II := Lib.hid (B1.out.keep c5)
  have HBC := Lib.hid hbc
  have Z5 := Lib.hid z5
  have C5 := Lib.hid c5
  rw [← hW3] at hW5
  unfold bblk at hW5
  have HW5 := Lib.hid hW5
  unfold fv
  dsimp only
  rw [HN.out]
  clear hb1 hb2 ts2 ho2 c2 z3 d3 hW3 d5 d25 hbc z5 c5 hW5 al S2
  go_wp2
  rw [HW5.out]
  go_loopw [9, 10, 11] (fun cv iv _ wx => ∃ (i : Nat) (pre : List UInt8), iv = .int .i64 (i : Int) ∧ i ≤ N + 1 ∧ BlAt (PB A ts) (tlOf l ts) CC i pre ∧ OwnB W5.heap.size wx cv pre ∧ Below W5.heap.size W5 wx) (fun _ iv _ _ => N + 1 - (intOf iv).toNat)
  case atStart => exact ⟨0, [], rfl, by omega, HBl0.out, World.ownsRow_nil _ _ _ _, Below.refl _ _⟩
  case round =>
    obtain ⟨i, pre, rfl, hi, hbl, hown, hb⟩ := hrel
    have hbz := hb.size
    have hpl := blAt_len hbl (by rw [tlOf_len, HN.out]; exact hi)
    by_cases hiN1 : i ≤ N
    · obtain ⟨p1, pc, hps, -, -, hpc⟩ := II.out
      obtain ⟨bp, op, hA1, hlp, hcp⟩ := hpc (by rw [HZ.out]; omega)
      obtain ⟨rfl, -, rfl⟩ : p1 = a1 ∧ True ∧ pc = cap1 := by simp only [Value.slice.injEq] at hps; exact ⟨hps.1.symm, trivial, hps.2.2.symm⟩
      subst hA1
      have hzi : wr.cell? ⟨bp, op + i, none⟩ = some (.int .i64 (zs.getD i 0)) := by
        have hil : i < zs.length := by rw [HZ.out]; omega
        rw [hb.cell (p := ⟨bp, op + i, none⟩) hlp, hcp i hil]; simp [hil]
      obtain ⟨hAi, hA9⟩ := HA.out i
      obtain ⟨z, hzv⟩ : ∃ z, zs.getD i 0 = z := ⟨_, rfl⟩
      rw [hzv] at hzi hAi
      have hpk := pick_k (A i) (A i % 5) rfl
      have hne := PB_ne A ts i
      have hno := PB_no A ts i
      have hye := PB_yes A ts i
      have hk5 : A i % 5 < 5 := Nat.mod_lt _ (by omega)
      have hbk := (hb.cell (p := ⟨w2.heap.size + 1, A i % 5, none⟩) (by show w2.heap.size + 1 < _; rw [Z5.out]; omega)).trans (HBC.out _ hk5)
      obtain ⟨av, hav⟩ : ∃ a, A i = a := ⟨_, rfl⟩
      rw [hav] at hAi hA9 hpk hk5 hbk hne hno hye
      have hk5' : av % 5 < 5 := Nat.mod_lt _ (by omega)
      have r2 : (av : Int).tmod 5 = ((av % 5 : Nat) : Int) := by rw [Int.tmod_eq_emod_of_nonneg (by omega)]; omega
      have r1 : (av : Int) % 5 = ((av % 5 : Nat) : Int) := by omega
      rw [← hpk] at hbk
      obtain ⟨k, hk⟩ : ∃ k, av % 5 = k := ⟨_, rfl⟩
      rw [hk] at hk5 hk5' r1 r2 hbk
      obtain ⟨P0, hP0⟩ : ∃ P, pickB av = P := ⟨_, rfl⟩
      have hP9 : P0.length ≤ 3 := by rw [← hP0]; exact pick_len av
      rw [hP0] at hne hno hye hbk
      obtain ⟨SS, hSS⟩ : ∃ S, bytes P0 = S := ⟨_, rfl⟩
      rw [hSS] at hbk
      have u1 : (i : Int) ≤ N := by omega
      have u2 : (i : Int) < len1 := by omega
      have Hne := Lib.hid hne
      have Hno := Lib.hid hno
      have Hye := Lib.hid hye
      have Hbl := Lib.hid hbl
      have Hown := Lib.hid hown
      have HSS := Lib.hid hSS
      have z1 := qstr_nil SS P0 hSS
      have z2 := qstr_ne SS P0 hSS
      clear hcp hpc hps hzv hav hpk hne hno hye hbl hown hk hP0 hSS
      by_cases hP : P0 = []
      · obtain ⟨x1, x2, x3⟩ := z1 hP
        have HP := Lib.hid hP
        clear z1 z2 hP
        by_cases hi0 : i = 0
        · have hq : PB A ts i = P0 := Hno.out (fun h => by omega)
          have s1 : decide ((0 : Int) < i) = false := by simp; omega
          have s1n : ¬ 0 < i := by omega
          have s1b : decide (0 < i) = false := by simp; omega
          obtain ⟨qq, rfl⟩ : ∃ q, q = P0 := ⟨_, rfl⟩
          have Hq := Lib.hid hq
          have hq9 : pre.length + qq.length ≤ 4294967296 := by omega
          clear hq hi0
          go_wp2_with (at_builtin; refine wpl_append_strS rfl _ _ rfl W5.heap.size u9 pre qq (pre ++ qq) SS HSS.out rfl Hown.out rfl hq9 hbz rfl ?_)
          intro v6 w6 ho6 hb6
          have hb7 := hb.trans hb6
          have hb7z := hb7.size
          clear hzi hbk hb6
          by_cases hiN : i < N
          · as_aux_lemma =>
              have hil : i < ts.length := by rw [HN.out]; exact hiN
              obtain ⟨-, -, e3, e4⟩ := Heach.out ts[i] (List.getElem_mem hil)
              obtain ⟨b2, o2, hA2, hl2, hc2⟩ := tsAt_val T2.out (by omega)
              (first | subst hA2 | (simp only [Option.some.injEq, Addr.mk.injEq, and_true] at hA2; obtain ⟨rfl, rfl⟩ := hA2))
              obtain ⟨x0, x1, x2⟩ := hc2 i hil
              have y1 := (hb7.cell (p := ⟨b2, o2 + i * 3 + 1, none⟩) (by show b2 < _; rw [Z5.out]; omega)).trans x1
              have y2 := (hb7.cell (p := ⟨b2, o2 + i * 3 + 2, none⟩) (by show b2 < _; rw [Z5.out]; omega)).trans x2
              have hS : (tlOf l ts)[i]'(by rw [tlOf_len]; exact hil) = (ts[i].1, (l.drop ts[i].2.1).take (ts[i].2.2 - ts[i].2.1)) := by simp [tlOf]
              have hbn := blAt_in (S := (l.drop ts[i].2.1).take (ts[i].2.2 - ts[i].2.1)) Hbl.out (by rw [tlOf_len]; exact hil) Hq.out (by rw [hS])
              obtain ⟨F, hF⟩ : ∃ F, ts[i].2.1 = F := ⟨_, rfl⟩
              obtain ⟨T, hT⟩ : ∃ F, ts[i].2.2 = F := ⟨_, rfl⟩
              rw [hF] at y1 e3 hbn
              rw [hT] at y2 e3 e4 hbn
              have hvb := BB.out
              obtain ⟨ab, cb, hsb, hb1, -, hbb⟩ := id hvb
              obtain ⟨rfl, -, rfl⟩ : ab = a0 ∧ True ∧ cb = cap0 := by simp only [Value.slice.injEq] at hsb; exact ⟨hsb.1.symm, trivial, hsb.2.2.symm⟩
              obtain ⟨b0', o0, rfl, hlb, -⟩ := hbb (by omega)
              rw [HL.out] at e4 hb1
              have hsub := bs_sub (hvb.below (hb7.drew) (Nat.le_refl _)) F T (by omega) e4
              have hbl2 := blAt_len hbn (by rw [tlOf_len, HN.out]; omega)
              have Hbn := Lib.hid hbn
              have Hsub := Lib.hid hsub
              have Hb7 := Lib.hid hb7
              have Hbl2 := Lib.hid hbl2
              have Ho6 := Lib.hid ho6
              have v1 : (i : Int) < N := by omega
              have v2 : (F : Int) ≤ T := by omega
              have v3 : (T : Int) ≤ len0 := by omega
              have v4 : T ≤ cb := by omega
              have v5 : F ≤ T := by omega
              have v6c : ¬ cb = F := by omega
              clear hc2 x0 x1 x2 hS hbn hF hT hvb hsb hbb hsub hbl2 ho6 hb7 hpl hb
              go_wp2_with fail
              refine wp_region_still_tail 13 (by kernel_rfl) (by kernel_rfl) ?_
              simp only [List.take_succ_cons, List.take_zero, List.drop_succ_cons, List.drop_zero]
              repeat still_step
              refine wpStill_nil ?_
              change wpList _ _ _ _ _ w6.drew
              refine wpl_append rfl _ _ rfl W5.heap.size v6 (.slice (some ⟨b0', o0 + F, none⟩) (T - F) (cb - F)) (pre ++ qq) ((l.drop F).take (T - F)) (pre ++ qq ++ (l.drop F).take (T - F)) rfl Ho6.out (by first | rfl | simp [v6c]) Hsub.out (fun n c h => by simp at h) (by have h := Hbl2.out; simp only [List.length_append] at h ⊢; omega) hb7z rfl ?_
              intro v7 w7 ho7 hb8
              have hb9 := Hb7.out.drew.trans hb8
              go_wp2
              go_roundw
              case rel => exact ⟨i + 1, pre ++ qq ++ (l.drop F).take (T - F), by go_num, by omega, Hbn.out, ho7, hb9⟩
              case measure => simp [intOf] <;> omega
          · as_aux_lemma =>
              obtain rfl : i = N := by omega
              have hbn := blAt_end (q := qq) (by rw [tlOf_len, HN.out]; exact Hbl.out) (by rw [tlOf_len, HN.out]; exact Hq.out)
              rw [tlOf_len, HN.out] at hbn
              have Hbn := Lib.hid hbn
              clear hbn hiN
              go_wp2
              go_roundw
              case rel => exact ⟨i + 1, pre ++ qq, by go_num, by omega, Hbn.out, ho6, hb7⟩
              case measure => simp [intOf] <;> omega
        by_cases hiN0 : i < N
        · have hil0 : i < ts.length := by rw [HN.out]; exact hiN0
          obtain ⟨d, hd⟩ : ∃ d, i = d + 1 := ⟨i - 1, by omega⟩
          have hdl : d < ts.length := by omega
          have hK1 : kindAt ts (i - 1) = ts[d].1 := by unfold kindAt; rw [show i - 1 = d by omega]; simp [List.getD, hdl]
          have hK2 : kindAt ts i = ts[i].1 := by unfold kindAt; simp [List.getD, hil0]
          obtain ⟨b2, o2, hA2, hl2, hc2⟩ := tsAt_val T2.out (by omega)
          subst hA2
          have y1 := (hb.cell (p := ⟨b2, o2 + d * 3, none⟩) (by show b2 < _; rw [Z5.out]; omega)).trans (hc2 d hdl).1
          have y2 := (hb.cell (p := ⟨b2, o2 + i * 3, none⟩) (by show b2 < _; rw [Z5.out]; omega)).trans (hc2 i hil0).1
          have hno2 := Hno.out
          have hye2 := Hye.out HP.out
          rw [hK1, hK2] at hno2 hye2
          obtain ⟨K1, hk1v⟩ : ∃ K, ts[d].1 = K := ⟨_, rfl⟩
          obtain ⟨K2, hk2v⟩ : ∃ K, ts[i].1 = K := ⟨_, rfl⟩
          rw [hk1v] at y1 hno2 hye2
          rw [hk2v] at y2 hno2 hye2
          have s1 : decide ((0 : Int) < i) = true := by simp; omega
          have s2 : (i : Int) < N := by omega
          have s3 : (0 : Int) < i := by omega
          have j1 : ((i : Int) - 1).toNat = d := by omega
          have j2 : (0 : Int) ≤ (i : Int) - 1 := by omega
          have j3 : (i : Int) - 1 < N := by omega
          have j4 : (1 : Int) ≤ (i : Int) := by omega
          have Hno2 := Lib.hid hno2
          have Hye2 := Lib.hid hye2
          clear hK1 hK2 hc2 hno2 hye2 hk1v hk2v hd hi0
          by_cases h7 : 7 ≤ K1
          · have q7 : decide ((7 : Int) ≤ K1) = true := by simp; omega
            by_cases h8 : 7 ≤ K2
            · have q8 : decide ((7 : Int) ≤ K2) = true := by simp; omega
              have hq : PB A ts i = [32] := Hye2.out ⟨by omega, hil0, h7, h8⟩
              obtain ⟨qq, hqq⟩ : ∃ q, ([32] : List UInt8) = q := ⟨_, rfl⟩
              have hqb : bytes qq = ⟨#[32]⟩ := by rw [← hqq]; rfl
              rw [hqq] at hq
              have Hq := Lib.hid hq
              have Hqb := Lib.hid hqb
              have hq9 : pre.length + qq.length ≤ 4294967296 := by rw [← hqq]; simp; omega
              clear hq hqq hqb
              go_wp2_with (at_builtin; refine wpl_append_strS rfl _ _ rfl W5.heap.size u9 pre qq (pre ++ qq) _ Hqb.out rfl Hown.out rfl hq9 hbz rfl ?_)
              intro v6 w6 ho6 hb6
              have hb7 := hb.trans hb6
              have hb7z := hb7.size
              clear hzi hbk hb6
              have hiN := hiN0
              as_aux_lemma =>
                have hil : i < ts.length := by rw [HN.out]; exact hiN
                obtain ⟨-, -, e3, e4⟩ := Heach.out ts[i] (List.getElem_mem hil)
                obtain ⟨b2, o2, hA2, hl2, hc2⟩ := tsAt_val T2.out (by omega)
                (first | subst hA2 | (simp only [Option.some.injEq, Addr.mk.injEq, and_true] at hA2; obtain ⟨rfl, rfl⟩ := hA2))
                obtain ⟨x0, x1, x2⟩ := hc2 i hil
                have y1 := (hb7.cell (p := ⟨b2, o2 + i * 3 + 1, none⟩) (by show b2 < _; rw [Z5.out]; omega)).trans x1
                have y2 := (hb7.cell (p := ⟨b2, o2 + i * 3 + 2, none⟩) (by show b2 < _; rw [Z5.out]; omega)).trans x2
                have hS : (tlOf l ts)[i]'(by rw [tlOf_len]; exact hil) = (ts[i].1, (l.drop ts[i].2.1).take (ts[i].2.2 - ts[i].2.1)) := by simp [tlOf]
                have hbn := blAt_in (S := (l.drop ts[i].2.1).take (ts[i].2.2 - ts[i].2.1)) Hbl.out (by rw [tlOf_len]; exact hil) Hq.out (by rw [hS])
                obtain ⟨F, hF⟩ : ∃ F, ts[i].2.1 = F := ⟨_, rfl⟩
                obtain ⟨T, hT⟩ : ∃ F, ts[i].2.2 = F := ⟨_, rfl⟩
                rw [hF] at y1 e3 hbn
                rw [hT] at y2 e3 e4 hbn
                have hvb := BB.out
                obtain ⟨ab, cb, hsb, hb1, -, hbb⟩ := id hvb
                obtain ⟨rfl, -, rfl⟩ : ab = a0 ∧ True ∧ cb = cap0 := by simp only [Value.slice.injEq] at hsb; exact ⟨hsb.1.symm, trivial, hsb.2.2.symm⟩
                obtain ⟨b0', o0, rfl, hlb, -⟩ := hbb (by omega)
                rw [HL.out] at e4 hb1
                have hsub := bs_sub (hvb.below (hb7.drew) (Nat.le_refl _)) F T (by omega) e4
                have hbl2 := blAt_len hbn (by rw [tlOf_len, HN.out]; omega)
                have Hbn := Lib.hid hbn
                have Hsub := Lib.hid hsub
                have Hb7 := Lib.hid hb7
                have Hbl2 := Lib.hid hbl2
                have Ho6 := Lib.hid ho6
                have v1 : (i : Int) < N := by omega
                have v2 : (F : Int) ≤ T := by omega
                have v3 : (T : Int) ≤ len0 := by omega
                have v4 : T ≤ cb := by omega
                have v5 : F ≤ T := by omega
                have v6c : ¬ cb = F := by omega
                clear hc2 x0 x1 x2 hS hbn hF hT hvb hsb hbb hsub hbl2 ho6 hb7 hpl hb
                go_wp2_with fail
                refine wp_region_still_tail 13 (by kernel_rfl) (by kernel_rfl) ?_
                simp only [List.take_succ_cons, List.take_zero, List.drop_succ_cons, List.drop_zero]
                repeat still_step
                refine wpStill_nil ?_
                change wpList _ _ _ _ _ w6.drew
                refine wpl_append rfl _ _ rfl W5.heap.size v6 (.slice (some ⟨b0', o0 + F, none⟩) (T - F) (cb - F)) (pre ++ qq) ((l.drop F).take (T - F)) (pre ++ qq ++ (l.drop F).take (T - F)) rfl Ho6.out (by first | rfl | simp [v6c]) Hsub.out (fun n c h => by simp at h) (by have h := Hbl2.out; simp only [List.length_append] at h ⊢; omega) hb7z rfl ?_
                intro v7 w7 ho7 hb8
                have hb9 := Hb7.out.drew.trans hb8
                go_wp2
                go_roundw
                case rel => exact ⟨i + 1, pre ++ qq ++ (l.drop F).take (T - F), by go_num, by omega, Hbn.out, ho7, hb9⟩
                case measure => simp [intOf] <;> omega
            · have q8 : decide ((7 : Int) ≤ K2) = false := by simp; omega
              have hq : PB A ts i = P0 := Hno2.out (fun h => h8 h.2.2.2)
              obtain ⟨qq, rfl⟩ : ∃ q, q = P0 := ⟨_, rfl⟩
              have Hq := Lib.hid hq
              have hq9 : pre.length + qq.length ≤ 4294967296 := by omega
              clear hq
              go_wp2_with (at_builtin; refine wpl_append_strS rfl _ _ rfl W5.heap.size u9 pre qq (pre ++ qq) SS HSS.out rfl Hown.out rfl hq9 hbz rfl ?_)
              intro v6 w6 ho6 hb6
              have hb7 := hb.trans hb6
              have hb7z := hb7.size
              clear hzi hbk hb6
              have hiN := hiN0
              as_aux_lemma =>
                have hil : i < ts.length := by rw [HN.out]; exact hiN
                obtain ⟨-, -, e3, e4⟩ := Heach.out ts[i] (List.getElem_mem hil)
                obtain ⟨b2, o2, hA2, hl2, hc2⟩ := tsAt_val T2.out (by omega)
                (first | subst hA2 | (simp only [Option.some.injEq, Addr.mk.injEq, and_true] at hA2; obtain ⟨rfl, rfl⟩ := hA2))
                obtain ⟨x0, x1, x2⟩ := hc2 i hil
                have y1 := (hb7.cell (p := ⟨b2, o2 + i * 3 + 1, none⟩) (by show b2 < _; rw [Z5.out]; omega)).trans x1
                have y2 := (hb7.cell (p := ⟨b2, o2 + i * 3 + 2, none⟩) (by show b2 < _; rw [Z5.out]; omega)).trans x2
                have hS : (tlOf l ts)[i]'(by rw [tlOf_len]; exact hil) = (ts[i].1, (l.drop ts[i].2.1).take (ts[i].2.2 - ts[i].2.1)) := by simp [tlOf]
                have hbn := blAt_in (S := (l.drop ts[i].2.1).take (ts[i].2.2 - ts[i].2.1)) Hbl.out (by rw [tlOf_len]; exact hil) Hq.out (by rw [hS])
                obtain ⟨F, hF⟩ : ∃ F, ts[i].2.1 = F := ⟨_, rfl⟩
                obtain ⟨T, hT⟩ : ∃ F, ts[i].2.2 = F := ⟨_, rfl⟩
                rw [hF] at y1 e3 hbn
                rw [hT] at y2 e3 e4 hbn
                have hvb := BB.out
                obtain ⟨ab, cb, hsb, hb1, -, hbb⟩ := id hvb
                obtain ⟨rfl, -, rfl⟩ : ab = a0 ∧ True ∧ cb = cap0 := by simp only [Value.slice.injEq] at hsb; exact ⟨hsb.1.symm, trivial, hsb.2.2.symm⟩
                obtain ⟨b0', o0, rfl, hlb, -⟩ := hbb (by omega)
                rw [HL.out] at e4 hb1
                have hsub := bs_sub (hvb.below (hb7.drew) (Nat.le_refl _)) F T (by omega) e4
                have hbl2 := blAt_len hbn (by rw [tlOf_len, HN.out]; omega)
                have Hbn := Lib.hid hbn
                have Hsub := Lib.hid hsub
                have Hb7 := Lib.hid hb7
                have Hbl2 := Lib.hid hbl2
                have Ho6 := Lib.hid ho6
                have v1 : (i : Int) < N := by omega
                have v2 : (F : Int) ≤ T := by omega
                have v3 : (T : Int) ≤ len0 := by omega
                have v4 : T ≤ cb := by omega
                have v5 : F ≤ T := by omega
                have v6c : ¬ cb = F := by omega
                clear hc2 x0 x1 x2 hS hbn hF hT hvb hsb hbb hsub hbl2 ho6 hb7 hpl hb
                go_wp2_with fail
                refine wp_region_still_tail 13 (by kernel_rfl) (by kernel_rfl) ?_
                simp only [List.take_succ_cons, List.take_zero, List.drop_succ_cons, List.drop_zero]
                repeat still_step
                refine wpStill_nil ?_
                change wpList _ _ _ _ _ w6.drew
                refine wpl_append rfl _ _ rfl W5.heap.size v6 (.slice (some ⟨b0', o0 + F, none⟩) (T - F) (cb - F)) (pre ++ qq) ((l.drop F).take (T - F)) (pre ++ qq ++ (l.drop F).take (T - F)) rfl Ho6.out (by first | rfl | simp [v6c]) Hsub.out (fun n c h => by simp at h) (by have h := Hbl2.out; simp only [List.length_append] at h ⊢; omega) hb7z rfl ?_
                intro v7 w7 ho7 hb8
                have hb9 := Hb7.out.drew.trans hb8
                go_wp2
                go_roundw
                case rel => exact ⟨i + 1, pre ++ qq ++ (l.drop F).take (T - F), by go_num, by omega, Hbn.out, ho7, hb9⟩
                case measure => simp [intOf] <;> omega
          · have q7 : decide ((7 : Int) ≤ K1) = false := by simp; omega
            have hq : PB A ts i = P0 := Hno2.out (fun h => h7 h.2.2.1)
            obtain ⟨qq, rfl⟩ : ∃ q, q = P0 := ⟨_, rfl⟩
            have Hq := Lib.hid hq
            have hq9 : pre.length + qq.length ≤ 4294967296 := by omega
            clear hq
            go_wp2_with (at_builtin; refine wpl_append_strS rfl _ _ rfl W5.heap.size u9 pre qq (pre ++ qq) SS HSS.out rfl Hown.out rfl hq9 hbz rfl ?_)
            intro v6 w6 ho6 hb6
            have hb7 := hb.trans hb6
            have hb7z := hb7.size
            clear hzi hbk hb6
            have hiN := hiN0
            as_aux_lemma =>
              have hil : i < ts.length := by rw [HN.out]; exact hiN
              obtain ⟨-, -, e3, e4⟩ := Heach.out ts[i] (List.getElem_mem hil)
              obtain ⟨b2, o2, hA2, hl2, hc2⟩ := tsAt_val T2.out (by omega)
              (first | subst hA2 | (simp only [Option.some.injEq, Addr.mk.injEq, and_true] at hA2; obtain ⟨rfl, rfl⟩ := hA2))
              obtain ⟨x0, x1, x2⟩ := hc2 i hil
              have y1 := (hb7.cell (p := ⟨b2, o2 + i * 3 + 1, none⟩) (by show b2 < _; rw [Z5.out]; omega)).trans x1
              have y2 := (hb7.cell (p := ⟨b2, o2 + i * 3 + 2, none⟩) (by show b2 < _; rw [Z5.out]; omega)).trans x2
              have hS : (tlOf l ts)[i]'(by rw [tlOf_len]; exact hil) = (ts[i].1, (l.drop ts[i].2.1).take (ts[i].2.2 - ts[i].2.1)) := by simp [tlOf]
              have hbn := blAt_in (S := (l.drop ts[i].2.1).take (ts[i].2.2 - ts[i].2.1)) Hbl.out (by rw [tlOf_len]; exact hil) Hq.out (by rw [hS])
              obtain ⟨F, hF⟩ : ∃ F, ts[i].2.1 = F := ⟨_, rfl⟩
              obtain ⟨T, hT⟩ : ∃ F, ts[i].2.2 = F := ⟨_, rfl⟩
              rw [hF] at y1 e3 hbn
              rw [hT] at y2 e3 e4 hbn
              have hvb := BB.out
              obtain ⟨ab, cb, hsb, hb1, -, hbb⟩ := id hvb
              obtain ⟨rfl, -, rfl⟩ : ab = a0 ∧ True ∧ cb = cap0 := by simp only [Value.slice.injEq] at hsb; exact ⟨hsb.1.symm, trivial, hsb.2.2.symm⟩
              obtain ⟨b0', o0, rfl, hlb, -⟩ := hbb (by omega)
              rw [HL.out] at e4 hb1
              have hsub := bs_sub (hvb.below (hb7.drew) (Nat.le_refl _)) F T (by omega) e4
              have hbl2 := blAt_len hbn (by rw [tlOf_len, HN.out]; omega)
              have Hbn := Lib.hid hbn
              have Hsub := Lib.hid hsub
              have Hb7 := Lib.hid hb7
              have Hbl2 := Lib.hid hbl2
              have Ho6 := Lib.hid ho6
              have v1 : (i : Int) < N := by omega
              have v2 : (F : Int) ≤ T := by omega
              have v3 : (T : Int) ≤ len0 := by omega
              have v4 : T ≤ cb := by omega
              have v5 : F ≤ T := by omega
              have v6c : ¬ cb = F := by omega
              clear hc2 x0 x1 x2 hS hbn hF hT hvb hsb hbb hsub hbl2 ho6 hb7 hpl hb
              go_wp2_with fail
              refine wp_region_still_tail 13 (by kernel_rfl) (by kernel_rfl) ?_
              simp only [List.take_succ_cons, List.take_zero, List.drop_succ_cons, List.drop_zero]
              repeat still_step
              refine wpStill_nil ?_
              change wpList _ _ _ _ _ w6.drew
              refine wpl_append rfl _ _ rfl W5.heap.size v6 (.slice (some ⟨b0', o0 + F, none⟩) (T - F) (cb - F)) (pre ++ qq) ((l.drop F).take (T - F)) (pre ++ qq ++ (l.drop F).take (T - F)) rfl Ho6.out (by first | rfl | simp [v6c]) Hsub.out (fun n c h => by simp at h) (by have h := Hbl2.out; simp only [List.length_append] at h ⊢; omega) hb7z rfl ?_
              intro v7 w7 ho7 hb8
              have hb9 := Hb7.out.drew.trans hb8
              go_wp2
              go_roundw
              case rel => exact ⟨i + 1, pre ++ qq ++ (l.drop F).take (T - F), by go_num, by omega, Hbn.out, ho7, hb9⟩
              case measure => simp [intOf] <;> omega
        · have hq : PB A ts i = P0 := Hno.out (fun h => by rw [HN.out] at h; omega)
          have s1 : decide ((0 : Int) < i) = true := by simp; omega
          have s3 : (0 : Int) < i := by omega
          have s2 : decide ((i : Int) < N) = false := by simp; omega
          have s4 : ¬ (i : Int) < N := by omega
          obtain ⟨qq, rfl⟩ : ∃ q, q = P0 := ⟨_, rfl⟩
          have Hq := Lib.hid hq
          have hq9 : pre.length + qq.length ≤ 4294967296 := by omega
          clear hq
          go_wp2_with (at_builtin; refine wpl_append_strS rfl _ _ rfl W5.heap.size u9 pre qq (pre ++ qq) SS HSS.out rfl Hown.out rfl hq9 hbz rfl ?_)
          intro v6 w6 ho6 hb6
          have hb7 := hb.trans hb6
          have hb7z := hb7.size
          clear hzi hbk hb6
          have hiN := hiN0
          as_aux_lemma =>
            obtain rfl : i = N := by omega
            have hbn := blAt_end (q := qq) (by rw [tlOf_len, HN.out]; exact Hbl.out) (by rw [tlOf_len, HN.out]; exact Hq.out)
            rw [tlOf_len, HN.out] at hbn
            have Hbn := Lib.hid hbn
            clear hbn hiN
            go_wp2
            go_roundw
            case rel => exact ⟨i + 1, pre ++ qq, by go_num, by omega, Hbn.out, ho6, hb7⟩
            case measure => simp [intOf] <;> omega
      · obtain ⟨x1, x2, x3⟩ := z2 hP
        have hq : PB A ts i = P0 := Hne.out hP
        obtain ⟨qq, rfl⟩ : ∃ q, q = P0 := ⟨_, rfl⟩
        have Hq := Lib.hid hq
        have hq9 : pre.length + qq.length ≤ 4294967296 := by omega
        clear hq z1 z2
        go_wp2_with (at_builtin; refine wpl_append_strS rfl _ _ rfl W5.heap.size u9 pre qq (pre ++ qq) SS HSS.out rfl Hown.out rfl hq9 hbz rfl ?_)
        intro v6 w6 ho6 hb6
        have hb7 := hb.trans hb6
        have hb7z := hb7.size
        clear hzi hbk hb6
        by_cases hiN : i < N
        · as_aux_lemma =>
            have hil : i < ts.length := by rw [HN.out]; exact hiN
            obtain ⟨-, -, e3, e4⟩ := Heach.out ts[i] (List.getElem_mem hil)
            obtain ⟨b2, o2, hA2, hl2, hc2⟩ := tsAt_val T2.out (by omega)
            (first | subst hA2 | (simp only [Option.some.injEq, Addr.mk.injEq, and_true] at hA2; obtain ⟨rfl, rfl⟩ := hA2))
            obtain ⟨x0, x1, x2⟩ := hc2 i hil
            have y1 := (hb7.cell (p := ⟨b2, o2 + i * 3 + 1, none⟩) (by show b2 < _; rw [Z5.out]; omega)).trans x1
            have y2 := (hb7.cell (p := ⟨b2, o2 + i * 3 + 2, none⟩) (by show b2 < _; rw [Z5.out]; omega)).trans x2
            have hS : (tlOf l ts)[i]'(by rw [tlOf_len]; exact hil) = (ts[i].1, (l.drop ts[i].2.1).take (ts[i].2.2 - ts[i].2.1)) := by simp [tlOf]
            have hbn := blAt_in (S := (l.drop ts[i].2.1).take (ts[i].2.2 - ts[i].2.1)) Hbl.out (by rw [tlOf_len]; exact hil) Hq.out (by rw [hS])
            obtain ⟨F, hF⟩ : ∃ F, ts[i].2.1 = F := ⟨_, rfl⟩
            obtain ⟨T, hT⟩ : ∃ F, ts[i].2.2 = F := ⟨_, rfl⟩
            rw [hF] at y1 e3 hbn
            rw [hT] at y2 e3 e4 hbn
            have hvb := BB.out
            obtain ⟨ab, cb, hsb, hb1, -, hbb⟩ := id hvb
            obtain ⟨rfl, -, rfl⟩ : ab = a0 ∧ True ∧ cb = cap0 := by simp only [Value.slice.injEq] at hsb; exact ⟨hsb.1.symm, trivial, hsb.2.2.symm⟩
            obtain ⟨b0', o0, rfl, hlb, -⟩ := hbb (by omega)
            rw [HL.out] at e4 hb1
            have hsub := bs_sub (hvb.below (hb7.drew) (Nat.le_refl _)) F T (by omega) e4
            have hbl2 := blAt_len hbn (by rw [tlOf_len, HN.out]; omega)
            have Hbn := Lib.hid hbn
            have Hsub := Lib.hid hsub
            have Hb7 := Lib.hid hb7
            have Hbl2 := Lib.hid hbl2
            have Ho6 := Lib.hid ho6
            have v1 : (i : Int) < N := by omega
            have v2 : (F : Int) ≤ T := by omega
            have v3 : (T : Int) ≤ len0 := by omega
            have v4 : T ≤ cb := by omega
            have v5 : F ≤ T := by omega
            have v6c : ¬ cb = F := by omega
            clear hc2 x0 x1 x2 hS hbn hF hT hvb hsb hbb hsub hbl2 ho6 hb7 hpl hb
            go_wp2_with fail
            refine wp_region_still_tail 13 (by kernel_rfl) (by kernel_rfl) ?_
            simp only [List.take_succ_cons, List.take_zero, List.drop_succ_cons, List.drop_zero]
            repeat still_step
            refine wpStill_nil ?_
            change wpList _ _ _ _ _ w6.drew
            refine wpl_append rfl _ _ rfl W5.heap.size v6 (.slice (some ⟨b0', o0 + F, none⟩) (T - F) (cb - F)) (pre ++ qq) ((l.drop F).take (T - F)) (pre ++ qq ++ (l.drop F).take (T - F)) rfl Ho6.out (by first | rfl | simp [v6c]) Hsub.out (fun n c h => by simp at h) (by have h := Hbl2.out; simp only [List.length_append] at h ⊢; omega) hb7z rfl ?_
            intro v7 w7 ho7 hb8
            have hb9 := Hb7.out.drew.trans hb8
            go_wp2
            go_roundw
            case rel => exact ⟨i + 1, pre ++ qq ++ (l.drop F).take (T - F), by go_num, by omega, Hbn.out, ho7, hb9⟩
            case measure => simp [intOf] <;> omega
        · as_aux_lemma =>
            obtain rfl : i = N := by omega
            have hbn := blAt_end (q := qq) (by rw [tlOf_len, HN.out]; exact Hbl.out) (by rw [tlOf_len, HN.out]; exact Hq.out)
            rw [tlOf_len, HN.out] at hbn
            have Hbn := Lib.hid hbn
            clear hbn hiN
            go_wp2
            go_roundw
            case rel => exact ⟨i + 1, pre ++ qq, by go_num, by omega, Hbn.out, ho6, hb7⟩
            case measure => simp [intOf] <;> omega
    · obtain rfl : i = N + 1 := by omega
      have hpc := hbl.2 (by rw [tlOf_len, HN.out])
      obtain rfl : CC = pre := hpc.symm
      have r1 : decide (((N + 1 : Nat) : Int) ≤ N) = false := by simp <;> omega
      have r4 : ¬ ((N + 1 : Nat) : Int) ≤ N := by omega
      have c6 := C5.out.trans (hb.mono C5.out.size)
      have hbs := hown.bs
      have S3 := Lib.hid (S1.out u9 wr (HT.out.keep c6) hbs)
      obtain ⟨ac, capc, hvc, hc1, -, hcb⟩ := id hbs
      subst hvc
      have Hbs := Lib.hid hbs
      have Hcb := Lib.hid hcb
      clear hbl hpc hbs hcb hown hiN1 hpl S1
      go_wp2_with fail
      refine S3.out.mono ?_
      rintro e w7 ⟨v7, rfl, ho7, hb7⟩
      have ts7 := tsAt_of ho7.vs
      obtain ⟨a7, cap7, rfl, _⟩ := id ts7
      obtain ⟨WB, hWB⟩ : ∃ W, w7.alloc (.cells #[.int .i64 0, .int .i64 0] 28) = W := ⟨_, rfl⟩
      have d7 : Below w7.heap.size w7 WB := by rw [← hWB]; exact (Below.refl _ _).alloc (Nat.le_refl _) _
      have d67 := hb7.trans (d7.mono hb7.size)
      have c8 := c6.trans (d67.mono c6.size)
      have e8 : Below W5.heap.size W5 WB := hb.trans (d67.mono hbz)
      have TL2 := Lib.hid (tsAt_keep T2.out e8 (by rw [Z5.out]; omega))
      have TM := Lib.hid (tsAt_keep ts7 d7 (Nat.le_refl _))
      have BL := Lib.hid (BB.out.keep e8)
      have BC := Lib.hid (Hbs.out.keep d67)
      have HWB := Lib.hid hWB
      have C8 := Lib.hid c8
      unfold fv
      dsimp only
      rw [Hposlen.out, HN.out]
      clear hb7 ho7 ts7 hWB d7 d67 c8 e8 c6 S3 hb Hbs BB T2
      go_wp2
      rw [HWB.out]
      go_loopw [14] (fun iv wx => ∃ j q : Nat, iv = .int .i64 (j : Int) ∧ j ≤ N ∧ wx = WB.drewN q) (fun iv _ => N - (intOf iv).toNat)
      case atStart => exact ⟨0, 0, rfl, by omega, rfl⟩
      case round =>
        obtain ⟨j, q, rfl, hj, rfl⟩ := hrel
        by_cases hjN : j < N
        · have hjl : j < ts.length := by rw [HN.out]; exact hjN
          have hjt : j < (tlOf l ts).length := by rw [tlOf_len]; exact hjl
          have hjp : j < (M.pos (PB A ts) 0 0 (tlOf l ts)).length := by rw [pos_len]; exact hjt
          obtain ⟨p1, p2, p3, p4⟩ := Hposat.out j hjt hjp
          obtain ⟨-, -, e3, e4⟩ := Heach.out ts[j] (List.getElem_mem hjl)
          have hS : (tlOf l ts)[j]'hjt = (ts[j].1, (l.drop ts[j].2.1).take (ts[j].2.2 - ts[j].2.1)) := by simp [tlOf]
          rw [hS] at p1 p4
          have htl2 := TL2.out
          have htm := TM.out
          rw [HN.out] at htl2
          obtain ⟨b, o, hA, hlb, hcc⟩ := tsAt_val TL2.out (by omega)
          obtain ⟨b9, o9, hA9, hlb9, hcc9⟩ := tsAt_val TM.out (by rw [pos_len]; omega)
          subst hA
          subst hA9
          obtain ⟨y0, y1, y2⟩ := hcc j hjl
          obtain ⟨x0, x1, x2⟩ := hcc9 j hjp
          obtain ⟨K, hK⟩ : ∃ K, ts[j].1 = K := ⟨_, rfl⟩
          obtain ⟨F, hF⟩ : ∃ F, ts[j].2.1 = F := ⟨_, rfl⟩
          obtain ⟨T, hT⟩ : ∃ F, ts[j].2.2 = F := ⟨_, rfl⟩
          obtain ⟨pj, hpj⟩ : ∃ p, (M.pos (PB A ts) 0 0 (tlOf l ts))[j]'hjp = p := ⟨_, rfl⟩
          simp only [List.length_nil] at p1 p2 p3 p4
          rw [hpj] at p1 p2 p3 p4 x0 x1 x2
          obtain ⟨K2, F2, T2⟩ := pj
          rw [hK] at p1 y0
          rw [hF] at p4 y1 e3
          rw [hT] at p4 y2 e3 e4
          dsimp only at p1 p2 p3 p4 x0 x1 x2
          subst p1
          have w1 : (0 : Int) ≤ j := by omega
          have w2' : (j : Int) < N := by omega
          have hpl2 := Hposlen.out
          rw [HN.out] at hpl2
          rw [HL.out] at e4
          obtain ⟨ac2, cc2, hvc2, g1, -, g3⟩ := id BC.out
          simp only [Value.slice.injEq] at hvc2
          obtain ⟨hz1, -, hz2⟩ := hvc2
          subst hz1
          subst hz2
          have hft : F2 < T2 := by
            have := congrArg List.length p4
            rw [List.length_take, List.length_drop, List.length_take, List.length_drop, HL.out] at this
            omega
          obtain ⟨bc, oc, rfl, -, -⟩ := g3 (by omega)
          obtain ⟨aa2, ca2, hva2, g4, -, g6⟩ := id BL.out
          simp only [Value.slice.injEq] at hva2
          obtain ⟨hz1, -, hz2⟩ := hva2
          subst hz1
          subst hz2
          obtain ⟨ba, oa, rfl, -, -⟩ := g6 (by rw [HL.out]; omega)
          rw [HL.out] at g4
          have s1 := fun n => bs_sub (BC.out.keep (below_drewN (Below.refl _ WB) n)) F2 T2 (by omega) p3
          have s2 := fun n => bs_sub (BL.out.keep (below_drewN (Below.refl _ WB) n)) F T (by omega) e4
          rw [p4] at s1
          obtain ⟨X, hX⟩ : ∃ X, bytes ((l.drop F).take (T - F)) = X := ⟨_, rfl⟩
          have c1 := fun n => conv_bs (s1 n)
          have c2 := fun n => conv_bs (s2 n)
          rw [hX] at c1 c2
          have d1 := fun n => c1 (q + n)
          have d2 := fun n => c2 (q + n)
          have d3 : ∀ n, (WB.drewN q).drewN n = WB.drewN (q + n) := fun n => World.drewN_drewN _ _ _
          have k1 : decide (CC.length < T2) = false := by simp <;> omega
          have k2 : decide ((F2 : Int) < 0) = false := by simp <;> omega
          have k3 : decide (T2 < F2) = false := by simp <;> omega
          have k4 : F2 ≤ T2 := by omega
          have k5 : F ≤ T := by omega
          have k6 : ¬ capc = F2 := by omega
          clear hcc hcc9 hS hpj hK hF hT htl2 htm p4 hX s1 s2 g3 g6 c1 c2
          go_wp2
          go_quiet (fail)
          go_wp2
          go_roundw
          case rel => exact ⟨j + 1, _, by go_num, by omega, rfl⟩
          case measure => simp [intOf]; omega
        · obtain rfl : j = N := by omega
          clear hjN
          go_wp2
          go_ret
          exact ⟨rfl, below_drewN C8.out _⟩
end Go.Proofs.YtakgkdgielkieaaDoor
