/- The walk of ColourAll. -/
import Derived.Test.YtajjdndnmokfkaaDoorCoRe
import Derived.Test.YtajjdndnmokfkaaDoorCoAm
import Derived.Test.YtajjdndnmokfkaaDoorFRLow
import Derived.Deep.Cut
namespace Go.Proofs.YtajjdndnmokfkaaDoor
open Go.RowKit
set_option linter.unusedVariables false
set_option linter.unusedSimpArgs false

theorem spell_lenA (c : M.C4) : (M.spellC c).length ≤ 1002 := by
  have h := nof_len c 38
  rw [nof_end] at h
  unfold M.spellC
  split
  · split <;> simp <;> omega
  · simp
theorem take_memA (s : List UInt8) (L : List (List UInt8)) (i : Nat) (hi : i < L.length) : decide (s ∈ L.take (i + 1)) = (decide (s ∈ L.take i) || decide (L[i] = s)) := by
  have h : (s ∈ L.take (i + 1)) ↔ (s ∈ L.take i ∨ L[i] = s) := by
    rw [show L.take (i + 1) = L.take i ++ [L[i]] from by rw [List.take_add_one, List.getElem?_eq_getElem hi]; rfl, List.mem_append, List.mem_singleton]
    exact ⟨fun h => h.imp id Eq.symm, fun h => h.imp id Eq.symm⟩
  rw [decide_eq_decide.2 h, Bool.decide_or]
/-- What is looked for among the spellings. -/
def preA (hash : Bool) (s : List UInt8) : List UInt8 := if hash then 35 :: M.lowL s else M.lowL s
def kindA (hash : Bool) : Int := if hash then 4 else 1
theorem all_plain (hash : Bool) (s : List UInt8) (c : M.C4) (h : readC (kindA hash) s = (c, true)) : preA hash s ∈ M.spellC c ∨ (hash = true ∧ c.2.2.2 = 255 ∧ (s.length = 4 ∨ s.length = 8)) := by
  cases hash with
  | false => exact .inl (named_plain s c h)
  | true => exact (num_plain s c h).imp id (fun h => ⟨rfl, h.1, h.2⟩)
theorem all_zero (hash : Bool) (s : List UInt8) (c : M.C4) (h : readC (kindA hash) s = (c, false)) : c = (0, 0, 0, 0) := by
  cases hash with
  | false => exact named_zero s c h
  | true => exact numX_zero s c h
theorem infoTk : (Tryd.prog.info? 27).map (·.size) = some 13 := by kernel_rfl
/-- A block that holds a token. -/
def TkB (w : World) (b : Nat) (cs : Array Value) : Prop := w.heap[b]? = some (.cells cs 27 (0, 0))
theorem TkB.lt {w : World} {b : Nat} {cs : Array Value} (h : TkB w b cs) : b < w.heap.size := (Array.getElem?_eq_some_iff.1 h).1
theorem TkB.keep {w w' : World} {b : Nat} {cs : Array Value} (h : TkB w b cs) {B : Nat} (hb : Below B w w') (hB : b < B) : TkB w' b cs := by
  unfold TkB; rw [hb.block b hB]; exact h
theorem TkB.put {w : World} {b : Nat} {cs ds : Array Value} (h : TkB w b cs) (j : Nat) (u : Value) (hd : cs.setIfInBounds j u = ds) : TkB (w.setCell ⟨b, j, none⟩ u) b ds := by
  unfold TkB; rw [setCell_eq_setRow w b j cs _ _ u h, hd]; exact setRow_heap w b cs _ _ _ h
theorem wpl_ldTk {ops : Array Oper} {rest : List Oper} {o : Oper} {a : Act} {w : World} {Q : Exit → Act → World → Prop} (hgd : o.guard = none) (x : Operand) (ho : o.op = .load 27 x)
    (g : Nat) (cs : Array Value) (hx : a.eval x = .pointer (some ⟨g, 0, none⟩)) (hg : TkB w g cs) (hs : cs.size = 13)
    (h : wpList Tryd.prog ops Q rest (a.put o.dst (.agg cs)) w) : wpList Tryd.prog ops Q (o :: rest) a w :=
  wpList_load_row hgd 27 x ho g hx 27 cs (0, 0) _ hg Tryd.underlying27 rfl (by rw [hs]; exact infoTk) h
set_option maxRecDepth 100000 in
set_option maxHeartbeats 8000000 in
theorem call_walk (s : ByteArray) (hash : Bool) (w : World) (u0 : s.size ≤ 1048576) :
    Calls Tryd.prog 3 #[.string s, .bool hash] w fun e w' => e = .returned (.bool true) ∧ Below w.heap.size w w' := by
  obtain ⟨l, hl⟩ : ∃ l, bytes l = s := ⟨s.data.toList, by apply ByteArray.ext; simp [bytes]⟩
  have hsz : s.size = l.length := by rw [← hl, bytes_size]
  have AL := Lib.hid alive19_any
  have lw := fun w => rlower_any l w (by omega)
  obtain ⟨LB, hLB⟩ : ∃ x, bytes (M.lowL l) = x := ⟨_, rfl⟩
  rw [hl, hLB] at lw
  have lbz : LB.size = s.size := by rw [← hLB, bytes_size, hsz]; simp [M.lowL]
  have LW := Lib.hid lw
  have HLB := Lib.hid hLB
  have HL := Lib.hid hl
  have HSZ := Lib.hid hsz
  have lb1 : (LB.size : Int) ≤ 1048576 := by omega
  have u1 : (s.size : Int) ≤ 1048576 := by omega
  have LBZ := Lib.hid lbz
  clear lw hLB hl hsz lbz
  have z13 : (ByteArray.mk #[35]).size = 1 := rfl
  cases hash with
  | false =>
    go_enter Tryd.func3, Tryd.ntmps3
    go_wp2_with fail
    refine (AL.out _).mono ?_
    rintro e w1 ⟨rfl, hb1⟩
    have k1 : TkB (w1.alloc (.cells #[.int .i64 1, .string s, .string ⟨#[]⟩, .bool false, .string ⟨#[]⟩, .string ⟨#[]⟩, .bool false, .bool false, .int .i64 0, .int .i64 0, .int .i64 0, .int .i64 0, .int .i64 0] 27)) w1.heap.size #[.int .i64 1, .string s, .string ⟨#[]⟩, .bool false, .string ⟨#[]⟩, .string ⟨#[]⟩, .bool false, .bool false, .int .i64 0, .int .i64 0, .int .i64 0, .int .i64 0, .int .i64 0] := heap_alloc_new w1 _
    have b2 := hb1.alloc hb1.size (.cells #[.int .i64 1, .string s, .string ⟨#[]⟩, .bool false, .string ⟨#[]⟩, .string ⟨#[]⟩, .bool false, .bool false, .int .i64 0, .int .i64 0, .int .i64 0, .int .i64 0, .int .i64 0] 27)
    have z2 : w1.heap.size < (w1.alloc (.cells #[.int .i64 1, .string s, .string ⟨#[]⟩, .bool false, .string ⟨#[]⟩, .string ⟨#[]⟩, .bool false, .bool false, .int .i64 0, .int .i64 0, .int .i64 0, .int .i64 0, .int .i64 0] 27)).heap.size := by simp
    have hz1 := hb1.size
    obtain ⟨W1, hW1⟩ : ∃ x, w1.alloc (.cells #[.int .i64 1, .string s, .string ⟨#[]⟩, .bool false, .string ⟨#[]⟩, .string ⟨#[]⟩, .bool false, .bool false, .int .i64 0, .int .i64 0, .int .i64 0, .int .i64 0, .int .i64 0] 27) = x := ⟨_, rfl⟩
    rw [hW1] at k1 b2 z2
    have HW1 := Lib.hid hW1
    have K1 := Lib.hid k1
    have B2 := Lib.hid b2
    clear hb1 k1 b2 hW1
    go_upto_region 3 with (fail)
    rw [HW1.out]
    go_wp2_with fail
    refine (LW.out _).mono ?_
    rintro e w3 ⟨rfl, hb3⟩
    have k3 := K1.out.keep hb3 z2
    have b3 := B2.out.trans (hb3.mono B2.out.size)
    have K4 := Lib.hid k3
    have B4 := Lib.hid b3
    clear k3 b3 hb3
    by_cases h60 : 60 < s.size
    · have h60i : (60 : Int) < s.size := by omega
      go_wp2
      go_ret
      exact ⟨rfl, B4.out⟩
    · have h60i : decide ((60 : Int) < s.size) = false := decide_eq_false (by omega)
      have h60j : (s.size : Int) ≤ 60 := by omega
      have rd := fun w => read_any 1 l (.string ⟨#[]⟩) (.bool false) (.string ⟨#[]⟩) (.string ⟨#[]⟩) (.bool false) (.bool false) (.int .i64 0) (.int .i64 0) (.int .i64 0) (.int .i64 0) (.int .i64 0) s w HL.out (by have := HSZ.out; omega)
      have ap := all_plain false l
      have az := all_zero false l
      have an := fun c => named_ne l c
      have an2 : ∀ c, readC 1 l = (c, true) → M.spellC c ≠ [] := an
      unfold kindA at ap az
      simp only [if_true, Bool.false_eq_true, if_false] at ap az
      obtain ⟨R, hR⟩ : ∃ R, readC 1 l = R := ⟨_, rfl⟩
      rw [hR] at ap az an2 rd
      clear an
      obtain ⟨⟨d1, d2, d3, d4⟩, ok⟩ := R
      unfold arrV arrC at rd
      simp only at rd
      have RD := Lib.hid rd
      have AP := Lib.hid ap
      have AZ := Lib.hid az
      clear rd ap az hR
      go_wp2_with (refine wpl_ldTk rfl _ rfl w1.heap.size (#[.int .i64 1, .string s, .string ⟨#[]⟩, .bool false, .string ⟨#[]⟩, .string ⟨#[]⟩, .bool false, .bool false, .int .i64 0, .int .i64 0, .int .i64 0, .int .i64 0, .int .i64 0]) rfl K4.out rfl ?_)
      refine (RD.out _).mono ?_
      rintro e w5 ⟨rfl, hb5⟩
      have b5 := B4.out.trans (hb5.mono B4.out.size)
      have x6 : AB (w5.alloc (.cells #[.int .i64 d1, .int .i64 d2, .int .i64 d3, .int .i64 d4] 25)) w5.heap.size (d1, d2, d3, d4) := AB.new w5 (d1, d2, d3, d4)
      have b6 := b5.alloc b5.size (.cells #[.int .i64 d1, .int .i64 d2, .int .i64 d3, .int .i64 d4] 25)
      have z6 : w5.heap.size < (w5.alloc (.cells #[.int .i64 d1, .int .i64 d2, .int .i64 d3, .int .i64 d4] 25)).heap.size := by simp
      obtain ⟨W6, hW6⟩ : ∃ x, w5.alloc (.cells #[.int .i64 d1, .int .i64 d2, .int .i64 d3, .int .i64 d4] 25) = x := ⟨_, rfl⟩
      rw [hW6] at x6 b6 z6
      have HW6 := Lib.hid hW6
      have X6 := Lib.hid x6
      have B6 := Lib.hid b6
      clear hb5 b5 x6 b6 hW6
      go_upto_region 10 with (fail)
      rw [HW6.out]
      cases ok with
      | false =>
        have e0 := AZ.out _ rfl
        simp only [Prod.mk.injEq] at e0
        obtain ⟨rfl, rfl, rfl, rfl⟩ := e0
        have g0 := cell_of_row _ _ 0 _ _ _ X6.out
        have g1 := cell_of_row _ _ 1 _ _ _ X6.out
        have g2 := cell_of_row _ _ 2 _ _ _ X6.out
        have g3 := cell_of_row _ _ 3 _ _ _ X6.out
        simp only [arrC] at g0 g1 g2 g3
        go_wp2_with (refine wpl_cmpA (by rfl) _ _ rfl (0, 0, 0, 0) (0, 0, 0, 0) true (by simp) rfl rfl ?_)
        go_wp2
        go_ret
        exact ⟨rfl, B6.out⟩
      | true =>
        have hp := AP.out _ rfl
        have g0 := cell_of_row _ _ 0 _ _ _ X6.out
        have g1 := cell_of_row _ _ 1 _ _ _ X6.out
        have g2 := cell_of_row _ _ 2 _ _ _ X6.out
        have g3 := cell_of_row _ _ 3 _ _ _ X6.out
        simp only [arrC] at g0 g1 g2 g3
        have sp := spell_any (d1, d2, d3, d4)
        have hL2 := spell_lenA (d1, d2, d3, d4)
        obtain ⟨L, hL⟩ : ∃ L, M.spellC (d1, d2, d3, d4) = L := ⟨_, rfl⟩
        rw [hL] at sp hp hL2
        unfold arrV arrC at sp
        simp only at sp
        have SP := Lib.hid sp
        have HP := Lib.hid hp
        have HNE := Lib.hid (show L ≠ [] from by rw [← hL]; exact an2 _ rfl)
        clear sp hp hL
        go_wp2_with fail
        refine (SP.out _).mono ?_
        rintro e w8 ⟨v8, rfl, hs8, hb8⟩
        have x8 := X6.out.keep hb8 z6
        have b8 := B6.out.trans (hb8.mono B6.out.size)
        have pq : bytes (preA false l) = LB := by unfold preA; rw [if_neg (by decide)]; exact HLB.out
        obtain ⟨P, hP⟩ : ∃ x, LB = x := ⟨_, rfl⟩
        obtain ⟨q, hq⟩ : ∃ q, preA false l = q := ⟨_, rfl⟩
        rw [hP, hq] at pq
        have HPQ := Lib.hid pq
        have HP2 := HP.out
        rw [hq] at HP2
        have HPR := Lib.hid HP2
        have TS := Lib.hid (take_memA q L)
        have X8 := Lib.hid x8
        have B8 := Lib.hid b8
        clear x8 b8 hb8 pq HP2 hq g0 g1 g2 g3 HP
        rw [hP]
        clear hP
        obtain ⟨b8, off8, cap8, rfl, hbl8, hd1, hd2, hc8⟩ := s_cells hs8 (List.length_pos_iff.2 HNE.out)
        have HC8 := Lib.hid hc8
        clear hs8 hc8
        go_wp2
        go_loopw [11, 12] (fun bv iv wr2 => ∃ i : Nat, iv = .int .i64 (i : Int) ∧ i ≤ L.length ∧ bv = .bool (decide (q ∈ L.take i)) ∧ Below w8.heap.size w8 wr2) (fun _ iv _ => L.length - (intOf iv).toNat)
        case atStart => exact ⟨0, rfl, by omega, by simp, Below.refl _ _⟩
        case round =>
          obtain ⟨i, rfl, hi, rfl, hb9⟩ := hrel
          by_cases hi2 : i < L.length
          · have hc9 := (hb9.cell (p := ⟨b8, off8 + i, none⟩) hbl8).trans (HC8.out i hi2)
            have i1 : (i : Int) < L.length := by omega
            have ts := TS.out i hi2
            have HB9 := Lib.hid hb9
            obtain ⟨T, hT⟩ : ∃ T, L[i] = T := ⟨_, rfl⟩
            rw [hT] at ts hc9
            obtain ⟨TB, hTB⟩ : ∃ x, bytes T = x := ⟨_, rfl⟩
            rw [hTB] at hc9
            obtain ⟨bv, hbv⟩ : ∃ x, decide (q ∈ L.take i) = x := ⟨_, rfl⟩
            rw [hbv] at ts
            rw [hbv]
            have HTB := Lib.hid hTB
            have TSS := Lib.hid ts
            clear hT hTB hbv hb9 ts
            cases bv with
            | true =>
              go_wp2
              go_roundw
              case rel => exact ⟨i + 1, by go_num, by omega, by rw [TSS.out]; rfl, HB9.out⟩
              case measure => simp [intOf]; omega
            | false =>
              by_cases hq : T = q
              · obtain rfl : TB = P := by rw [← HTB.out, ← HPQ.out, hq]
                have HQ := Lib.hid hq
                clear hq
                go_wp2
                go_roundw
                case rel => exact ⟨i + 1, by go_num, by omega, by rw [TSS.out, decide_eq_true HQ.out]; rfl, HB9.out⟩
                case measure => simp [intOf]; omega
              · have nq : (TB.toList == P.toList) = false := by
                  rw [← HTB.out, ← HPQ.out, tl_bytes, tl_bytes]
                  simpa using hq
                have HQ := Lib.hid hq
                clear hq
                go_wp2
                go_roundw
                case rel => exact ⟨i + 1, by go_num, by omega, by rw [TSS.out, decide_eq_false HQ.out]; rfl, HB9.out⟩
                case measure => simp [intOf]; omega
          · obtain rfl : i = L.length := by omega
            have jf2 : decide ((L.length : Int) < L.length) = false := by simp
            have x9 := X8.out.keep hb9 X8.out.lt
            have g0 := cell_of_row _ _ 0 _ _ _ x9
            have g1 := cell_of_row _ _ 1 _ _ _ x9
            have g2 := cell_of_row _ _ 2 _ _ _ x9
            have g3 := cell_of_row _ _ 3 _ _ _ x9
            simp only [arrC] at g0 g1 g2 g3
            have B9 := Lib.hid (B8.out.trans (hb9.mono B8.out.size))
            rw [List.take_of_length_le (Nat.le_refl _)]
            clear hb9 x9
            obtain ⟨bv, hbv⟩ : ∃ x, decide (q ∈ L) = x := ⟨_, rfl⟩
            rw [hbv]
            cases bv with
            | true =>
              go_wp2
              go_ret
              exact ⟨rfl, B9.out⟩
            | false =>
              have hp3 := HPR.out.resolve_left (by simpa using hbv)
              exact absurd hp3.1 (by simp)
  | true =>
    go_enter Tryd.func3, Tryd.ntmps3
    go_wp2_with fail
    refine (AL.out _).mono ?_
    rintro e w1 ⟨rfl, hb1⟩
    have k1 : TkB (w1.alloc (.cells #[.int .i64 1, .string s, .string ⟨#[]⟩, .bool false, .string ⟨#[]⟩, .string ⟨#[]⟩, .bool false, .bool false, .int .i64 0, .int .i64 0, .int .i64 0, .int .i64 0, .int .i64 0] 27)) w1.heap.size #[.int .i64 1, .string s, .string ⟨#[]⟩, .bool false, .string ⟨#[]⟩, .string ⟨#[]⟩, .bool false, .bool false, .int .i64 0, .int .i64 0, .int .i64 0, .int .i64 0, .int .i64 0] := heap_alloc_new w1 _
    have b2 := hb1.alloc hb1.size (.cells #[.int .i64 1, .string s, .string ⟨#[]⟩, .bool false, .string ⟨#[]⟩, .string ⟨#[]⟩, .bool false, .bool false, .int .i64 0, .int .i64 0, .int .i64 0, .int .i64 0, .int .i64 0] 27)
    have z2 : w1.heap.size < (w1.alloc (.cells #[.int .i64 1, .string s, .string ⟨#[]⟩, .bool false, .string ⟨#[]⟩, .string ⟨#[]⟩, .bool false, .bool false, .int .i64 0, .int .i64 0, .int .i64 0, .int .i64 0, .int .i64 0] 27)).heap.size := by simp
    have hz1 := hb1.size
    obtain ⟨W1, hW1⟩ : ∃ x, w1.alloc (.cells #[.int .i64 1, .string s, .string ⟨#[]⟩, .bool false, .string ⟨#[]⟩, .string ⟨#[]⟩, .bool false, .bool false, .int .i64 0, .int .i64 0, .int .i64 0, .int .i64 0, .int .i64 0] 27) = x := ⟨_, rfl⟩
    rw [hW1] at k1 b2 z2
    have HW1 := Lib.hid hW1
    have K1 := Lib.hid k1
    have B2 := Lib.hid b2
    clear hb1 k1 b2 hW1
    go_upto_region 3 with (fail)
    rw [HW1.out]
    go_wp2_with fail
    refine (LW.out _).mono ?_
    rintro e w3 ⟨rfl, hb3⟩
    have k3 := K1.out.keep hb3 z2
    have b3 := B2.out.trans (hb3.mono B2.out.size)
    have ce : w3.cell? ⟨w1.heap.size, 0, none⟩ = some (.int .i64 1) := cell_of_row _ _ 0 _ _ _ k3
    have fz := frozen_of_row _ _ 0 _ _ k3
    have p3 : TkB (w3.setCell ⟨w1.heap.size, 0, none⟩ (.int .i64 4)) w1.heap.size #[.int .i64 4, .string s, .string ⟨#[]⟩, .bool false, .string ⟨#[]⟩, .string ⟨#[]⟩, .bool false, .bool false, .int .i64 0, .int .i64 0, .int .i64 0, .int .i64 0, .int .i64 0] := TkB.put k3 0 _ rfl
    have q3 := Below.setCell b3 (show w.heap.size ≤ (⟨w1.heap.size, 0, none⟩ : Addr).block from hz1) (.int .i64 4)
    obtain ⟨W4, hW4⟩ : ∃ x, w3.setCell ⟨w1.heap.size, 0, none⟩ (.int .i64 4) = x := ⟨_, rfl⟩
    rw [hW4] at p3 q3
    have HW4 := Lib.hid hW4
    have K4 := Lib.hid p3
    have B4 := Lib.hid q3
    clear p3 q3 k3 b3 hb3 hW4
    go_upto_region 6 with (fail)
    rw [HW4.out]
    clear ce fz
    go_upto_region 7 with (fail)
    by_cases h60 : 60 < s.size
    · have h60i : (60 : Int) < s.size := by omega
      go_wp2
      go_ret
      exact ⟨rfl, B4.out⟩
    · have h60i : decide ((60 : Int) < s.size) = false := decide_eq_false (by omega)
      have h60j : (s.size : Int) ≤ 60 := by omega
      have rd := fun w => read_any 4 l (.string ⟨#[]⟩) (.bool false) (.string ⟨#[]⟩) (.string ⟨#[]⟩) (.bool false) (.bool false) (.int .i64 0) (.int .i64 0) (.int .i64 0) (.int .i64 0) (.int .i64 0) s w HL.out (by have := HSZ.out; omega)
      have ap := all_plain true l
      have az := all_zero true l
      have an := fun c => num_ne l c
      have an2 : ∀ c, readC 4 l = (c, true) → M.spellC c ≠ [] := an
      unfold kindA at ap az
      simp only [if_true, Bool.false_eq_true, if_false] at ap az
      obtain ⟨R, hR⟩ : ∃ R, readC 4 l = R := ⟨_, rfl⟩
      rw [hR] at ap az an2 rd
      clear an
      obtain ⟨⟨d1, d2, d3, d4⟩, ok⟩ := R
      unfold arrV arrC at rd
      simp only at rd
      have RD := Lib.hid rd
      have AP := Lib.hid ap
      have AZ := Lib.hid az
      clear rd ap az hR
      go_wp2_with (refine wpl_ldTk rfl _ rfl w1.heap.size (#[.int .i64 4, .string s, .string ⟨#[]⟩, .bool false, .string ⟨#[]⟩, .string ⟨#[]⟩, .bool false, .bool false, .int .i64 0, .int .i64 0, .int .i64 0, .int .i64 0, .int .i64 0]) rfl K4.out rfl ?_)
      refine (RD.out _).mono ?_
      rintro e w5 ⟨rfl, hb5⟩
      have b5 := B4.out.trans (hb5.mono B4.out.size)
      have x6 : AB (w5.alloc (.cells #[.int .i64 d1, .int .i64 d2, .int .i64 d3, .int .i64 d4] 25)) w5.heap.size (d1, d2, d3, d4) := AB.new w5 (d1, d2, d3, d4)
      have b6 := b5.alloc b5.size (.cells #[.int .i64 d1, .int .i64 d2, .int .i64 d3, .int .i64 d4] 25)
      have z6 : w5.heap.size < (w5.alloc (.cells #[.int .i64 d1, .int .i64 d2, .int .i64 d3, .int .i64 d4] 25)).heap.size := by simp
      obtain ⟨W6, hW6⟩ : ∃ x, w5.alloc (.cells #[.int .i64 d1, .int .i64 d2, .int .i64 d3, .int .i64 d4] 25) = x := ⟨_, rfl⟩
      rw [hW6] at x6 b6 z6
      have HW6 := Lib.hid hW6
      have X6 := Lib.hid x6
      have B6 := Lib.hid b6
      clear hb5 b5 x6 b6 hW6
      go_upto_region 10 with (fail)
      rw [HW6.out]
      cases ok with
      | false =>
        have e0 := AZ.out _ rfl
        simp only [Prod.mk.injEq] at e0
        obtain ⟨rfl, rfl, rfl, rfl⟩ := e0
        have g0 := cell_of_row _ _ 0 _ _ _ X6.out
        have g1 := cell_of_row _ _ 1 _ _ _ X6.out
        have g2 := cell_of_row _ _ 2 _ _ _ X6.out
        have g3 := cell_of_row _ _ 3 _ _ _ X6.out
        simp only [arrC] at g0 g1 g2 g3
        go_wp2_with (refine wpl_cmpA (by rfl) _ _ rfl (0, 0, 0, 0) (0, 0, 0, 0) true (by simp) rfl rfl ?_)
        go_wp2
        go_ret
        exact ⟨rfl, B6.out⟩
      | true =>
        have hp := AP.out _ rfl
        have g0 := cell_of_row _ _ 0 _ _ _ X6.out
        have g1 := cell_of_row _ _ 1 _ _ _ X6.out
        have g2 := cell_of_row _ _ 2 _ _ _ X6.out
        have g3 := cell_of_row _ _ 3 _ _ _ X6.out
        simp only [arrC] at g0 g1 g2 g3
        have sp := spell_any (d1, d2, d3, d4)
        have hL2 := spell_lenA (d1, d2, d3, d4)
        obtain ⟨L, hL⟩ : ∃ L, M.spellC (d1, d2, d3, d4) = L := ⟨_, rfl⟩
        rw [hL] at sp hp hL2
        unfold arrV arrC at sp
        simp only at sp
        have SP := Lib.hid sp
        have HP := Lib.hid hp
        have HNE := Lib.hid (show L ≠ [] from by rw [← hL]; exact an2 _ rfl)
        clear sp hp hL
        go_wp2_with fail
        refine (SP.out _).mono ?_
        rintro e w8 ⟨v8, rfl, hs8, hb8⟩
        have x8 := X6.out.keep hb8 z6
        have b8 := B6.out.trans (hb8.mono B6.out.size)
        have pq : bytes (preA true l) = (ByteArray.mk #[35] ++ LB) := by unfold preA; rw [if_pos rfl, show (35 :: M.lowL l) = [35] ++ M.lowL l from rfl, bytes_addD, HLB.out]; rfl
        obtain ⟨P, hP⟩ : ∃ x, (ByteArray.mk #[35] ++ LB) = x := ⟨_, rfl⟩
        obtain ⟨q, hq⟩ : ∃ q, preA true l = q := ⟨_, rfl⟩
        rw [hP, hq] at pq
        have HPQ := Lib.hid pq
        have HP2 := HP.out
        rw [hq] at HP2
        have HPR := Lib.hid HP2
        have TS := Lib.hid (take_memA q L)
        have X8 := Lib.hid x8
        have B8 := Lib.hid b8
        clear x8 b8 hb8 pq HP2 hq g0 g1 g2 g3 HP
        rw [hP]
        clear hP
        obtain ⟨b8, off8, cap8, rfl, hbl8, hd1, hd2, hc8⟩ := s_cells hs8 (List.length_pos_iff.2 HNE.out)
        have HC8 := Lib.hid hc8
        clear hs8 hc8
        go_wp2
        go_loopw [11, 12] (fun bv iv wr2 => ∃ i : Nat, iv = .int .i64 (i : Int) ∧ i ≤ L.length ∧ bv = .bool (decide (q ∈ L.take i)) ∧ Below w8.heap.size w8 wr2) (fun _ iv _ => L.length - (intOf iv).toNat)
        case atStart => exact ⟨0, rfl, by omega, by simp, Below.refl _ _⟩
        case round =>
          obtain ⟨i, rfl, hi, rfl, hb9⟩ := hrel
          by_cases hi2 : i < L.length
          · have hc9 := (hb9.cell (p := ⟨b8, off8 + i, none⟩) hbl8).trans (HC8.out i hi2)
            have i1 : (i : Int) < L.length := by omega
            have ts := TS.out i hi2
            have HB9 := Lib.hid hb9
            obtain ⟨T, hT⟩ : ∃ T, L[i] = T := ⟨_, rfl⟩
            rw [hT] at ts hc9
            obtain ⟨TB, hTB⟩ : ∃ x, bytes T = x := ⟨_, rfl⟩
            rw [hTB] at hc9
            obtain ⟨bv, hbv⟩ : ∃ x, decide (q ∈ L.take i) = x := ⟨_, rfl⟩
            rw [hbv] at ts
            rw [hbv]
            have HTB := Lib.hid hTB
            have TSS := Lib.hid ts
            clear hT hTB hbv hb9 ts
            cases bv with
            | true =>
              go_wp2
              go_roundw
              case rel => exact ⟨i + 1, by go_num, by omega, by rw [TSS.out]; rfl, HB9.out⟩
              case measure => simp [intOf]; omega
            | false =>
              by_cases hq : T = q
              · obtain rfl : TB = P := by rw [← HTB.out, ← HPQ.out, hq]
                have HQ := Lib.hid hq
                clear hq
                go_wp2
                go_roundw
                case rel => exact ⟨i + 1, by go_num, by omega, by rw [TSS.out, decide_eq_true HQ.out]; rfl, HB9.out⟩
                case measure => simp [intOf]; omega
              · have nq : (TB.toList == P.toList) = false := by
                  rw [← HTB.out, ← HPQ.out, tl_bytes, tl_bytes]
                  simpa using hq
                have HQ := Lib.hid hq
                clear hq
                go_wp2
                go_roundw
                case rel => exact ⟨i + 1, by go_num, by omega, by rw [TSS.out, decide_eq_false HQ.out]; rfl, HB9.out⟩
                case measure => simp [intOf]; omega
          · obtain rfl : i = L.length := by omega
            have jf2 : decide ((L.length : Int) < L.length) = false := by simp
            have x9 := X8.out.keep hb9 X8.out.lt
            have g0 := cell_of_row _ _ 0 _ _ _ x9
            have g1 := cell_of_row _ _ 1 _ _ _ x9
            have g2 := cell_of_row _ _ 2 _ _ _ x9
            have g3 := cell_of_row _ _ 3 _ _ _ x9
            simp only [arrC] at g0 g1 g2 g3
            have B9 := Lib.hid (B8.out.trans (hb9.mono B8.out.size))
            rw [List.take_of_length_le (Nat.le_refl _)]
            clear hb9 x9
            obtain ⟨bv, hbv⟩ : ∃ x, decide (q ∈ L) = x := ⟨_, rfl⟩
            rw [hbv]
            cases bv with
            | true =>
              go_wp2
              go_ret
              exact ⟨rfl, B9.out⟩
            | false =>
              have hp3 := HPR.out.resolve_left (by simpa using hbv)
              obtain ⟨-, hp4, hp5⟩ := hp3
              have hp4 : d4 = 255 := hp4
              subst hp4
              have hsl := HSZ.out
              rcases hp5 with hp5 | hp5
              · have sz : (s.size : Int) = 4 := by omega
                go_wp2
                go_ret
                exact ⟨rfl, B9.out⟩
              · have sz : (s.size : Int) = 8 := by omega
                go_wp2
                go_ret
                exact ⟨rfl, B9.out⟩
end Go.Proofs.YtajjdndnmokfkaaDoor
