/- Texts of ours in one: JgP ZPs ZTake ZSing ZUM ZUN. -/
import Derived.Test.YtlobinjdgcidmaaDoorQj10
import Derived.Test.YtlobinjdgcidmaaDoorQj11
import Derived.Test.YtlobinjdgcidmaaDoorQj00
import Derived.Test.YtlobinjdgcidmaaDoorQj02
import Derived.Test.YtlobinjdgcidmaaDoorQj03
import Derived.Deep.DeepCutAuto
import Derived.WalkLawsBesides
/- Several texts of ours in one: QJ4 QJ5 QJ6 QJ7. -/
/- What jlex.word and the functions that read texts return, for any bytes. -/
namespace Go.Proofs.YtlobinjdgcidmaaDoor
open Go.RowKit
set_option linter.unusedVariables false
set_option linter.unusedSimpArgs false

theorem bs_sub {w : World} {b off len cap : Nat} {l : List UInt8} (h : Bs w (.slice (some ⟨b, off, none⟩) len cap) l) (i j : Nat) (hi : i ≤ j) (hj : j ≤ len) :
    Bs w (.slice (some ⟨b, off + i, none⟩) (j - i) (cap - i)) ((l.drop i).take (j - i)) := by
  obtain ⟨a, cap', e, h1, h2, h3⟩ := h
  simp only [Value.slice.injEq] at e
  obtain ⟨rfl, rfl, rfl⟩ := e
  have hlen : ((l.drop i).take (j - i)).length = j - i := by rw [List.length_take, List.length_drop]; omega
  refine ⟨_, cap - i, by rw [hlen], by rw [hlen]; omega, by omega, fun h0 => ?_⟩
  rw [hlen] at h0
  obtain ⟨b', off', e, hlt, hc⟩ := h3 (by omega)
  simp only [Option.some.injEq, Addr.mk.injEq, and_true] at e
  obtain ⟨rfl, rfl⟩ := e
  refine ⟨b, off + i, rfl, hlt, fun q hq => ?_⟩
  rw [hlen] at hq
  rw [Nat.add_assoc, hc (i + q) (by omega)]
  simp
theorem conv_bs {w : World} {b off len cap : Nat} {l : List UInt8} (h : Bs w (.slice (some ⟨b, off, none⟩) len cap) l) : (convert 29 9 (.slice (some ⟨b, off, none⟩) len cap)).run Tryd.prog w = .ok (.string (bytes l)) w := by
  obtain ⟨a, cap', e, h1, h2, h3⟩ := h
  simp only [Value.slice.injEq] at e
  obtain ⟨rfl, rfl, rfl⟩ := e
  have hB : Lib.Bytes w b off (bytes l) := by
    intro i hi
    have hi' : i < l.length := by simpa [bytes, ByteArray.size] using hi
    obtain ⟨b', off', e, hlt, hc⟩ := h3 (by omega)
    simp only [Option.some.injEq, Addr.mk.injEq, and_true] at e
    obtain ⟨rfl, rfl⟩ := e
    rw [hc i hi']
    congr 3
  have := Lib.run_convert_whole (P := Tryd.prog) w 29 5 9 Tryd.underlying29 Tryd.underlying5 Tryd.underlying9 b off _ hB cap
  rw [bytes_size] at this
  exact this

theorem ba_ne {T S : ByteArray} (h : ¬ T = S) : (T.toList == S.toList) = false := by
  rw [beq_eq_false_iff_ne]
  intro e
  rw [ByteArray.toList_eq, ByteArray.toList_eq] at e
  apply h
  cases T; cases S
  congr 1
  exact Array.toList_inj.1 e
end Go.Proofs.YtlobinjdgcidmaaDoor

/- What the functions of jlex that read texts return, for any bytes that are UTF-8 from there on. -/
namespace Go.Proofs.YtlobinjdgcidmaaDoor
open Go.RowKit
set_option linter.unusedVariables false
set_option linter.unusedSimpArgs false

end Go.Proofs.YtlobinjdgcidmaaDoor

/- What jlex.skipBlanks, jlex.token and jlex.Split return, for any bytes. -/
namespace Go.Proofs.YtlobinjdgcidmaaDoor
open Go.RowKit
set_option linter.unusedVariables false
set_option linter.unusedSimpArgs false

theorem ne_c (c : UInt8) (C : Int) (hC : (c.toNat : Int) = C) (k : UInt8) (K : Int) (hK : (k.toNat : Int) = K) (h : ¬ c = k) : (C == K) = false := by
  rw [beq_eq_false_iff_ne]; intro e; apply h; apply UInt8.toNat_inj.1; omega
theorem eq_c (c : UInt8) (C : Int) (hC : (c.toNat : Int) = C) (k : UInt8) (K : Int) (hK : (k.toNat : Int) = K) (h : c = k) : (C == K) = true := by
  rw [beq_iff_eq, ← hC, h, hK]
end Go.Proofs.YtlobinjdgcidmaaDoor

/- What jlex.Split returns, for any bytes. -/
namespace Go.Proofs.YtlobinjdgcidmaaDoor
open Go.RowKit
set_option linter.unusedVariables false
set_option linter.unusedSimpArgs false

def tv (t : Nat × Nat × Nat) : List Value := [.int .i64 (t.1 : Int), .int .i64 (t.2.1 : Int), .int .i64 (t.2.2 : Int)]
def tvs (l : M.Toks) : List (List Value) := l.map tv
theorem tvs_len (l : M.Toks) : (tvs l).length = l.length := by simp [tvs]
theorem tvs_append (k l : M.Toks) : tvs (k ++ l) = tvs k ++ tvs l := by simp [tvs]
theorem tvs_three (l : M.Toks) : ∀ y ∈ tvs l, y.length = 3 := by
  intro y hy
  simp only [tvs, List.mem_map] at hy
  obtain ⟨r, _, rfl⟩ := hy
  rfl
theorem tvs_one (l : M.Toks) : ∀ y ∈ tvs l, ∀ c ∈ y, c.oneCell' = true := by
  intro y hy
  simp only [tvs, List.mem_map] at hy
  obtain ⟨r, _, rfl⟩ := hy
  intro c hc
  simp [tv] at hc
  rcases hc with rfl | rfl | rfl <;> rfl
theorem infoT : (Tryd.prog.info? 85).map (fun i => (i.zero, i.size, i.bytes)) = some (some (.agg #[.int .i64 0, .int .i64 0, .int .i64 0]), 3, 24) := by kernel_rfl
def OwnT (B : Nat) (w : World) (v : Value) (l : M.Toks) : Prop := OwnV 85 3 B w v (tvs l)
def Ts (w : World) (v : Value) (l : M.Toks) : Prop := Vs 3 w v (tvs l)
theorem OwnT.keep {B : Nat} {w w' : World} {v : Value} {l : M.Toks} (h : OwnT B w v l) (hb : Below w.heap.size w w') : OwnT B w' v l := OwnV.keep h hb
theorem one_tok (w : World) (k a b : Nat) : Vs 3 (w.alloc (.cells #[.int .i64 (k : Int), .int .i64 (a : Int), .int .i64 (b : Int)] 85)) (.slice (some ⟨w.heap.size, 0, none⟩) 1 1) (tvs [(k, a, b)]) :=
  vs_cells 3 85 w (tvs [(k, a, b)]) _ 1 rfl (tvs_three _) rfl (by simp [tvs])
def fv (e a : Int) : Value := .agg #[.int .i64 e, .int .i64 a]
def SpP (w : World) (r : M.Toks × Int × Int) (e : Ending) (w' : World) : Prop := ∃ v', e = .returned (.tuple #[v', fv r.2.1 r.2.2]) ∧ OwnT w.heap.size w' v' r.1 ∧ Below w.heap.size w w'
theorem spP_ok {w w' : World} {r : M.Toks × Int × Int} {v' : Value} {a b : Int} (h1 : r.2.1 = a) (h2 : r.2.2 = b) (ho : OwnT w.heap.size w' v' r.1) (hb : Below w.heap.size w w') :
    SpP w r (.returned (.tuple #[v', .agg #[.int .i64 a, .int .i64 b]])) w' := ⟨v', by rw [h1, h2]; rfl, ho, hb⟩
def lexAt (l : List UInt8) (pre : M.Toks) (i : Nat) : Except Nat M.Toks := match M.lexS (l.drop i) i with | Except.error e => Except.error e | Except.ok r => Except.ok (pre ++ r)
theorem lexAt_end (l : List UInt8) (pre : M.Toks) (i : Nat) (h : l.length ≤ i) : lexAt l pre i = .ok pre := by
  unfold lexAt; rw [M.lexS_end _ _ (by rw [List.length_drop]; omega)]; simp
theorem lexAt_bad (l : List UInt8) (pre : M.Toks) (i : Nat) (h : i < l.length) (h0 : M.lead (l.drop i) = 0) (ht : M.tokL (l.drop i) = none) : lexAt l pre i = .error i := by
  unfold lexAt; rw [M.lexS_bad _ _ (by rw [h0, List.length_drop]; omega) (by rw [h0]; simpa using ht), h0]; rfl
theorem lexAt_in (l : List UInt8) (pre : M.Toks) (i k m : Nat) (h : i < l.length) (h0 : M.lead (l.drop i) = 0) (ht : M.tokL (l.drop i) = some (k, m)) :
    lexAt l pre i = lexAt l (pre ++ [(k, i, i + m)]) (i + m + M.lead (l.drop (i + m))) := by
  unfold lexAt
  rw [M.lexS_in _ _ k m (by rw [h0, List.length_drop]; omega) (by rw [h0]; simpa using ht), h0, List.drop_drop, Nat.zero_add, Nat.add_zero]
  have e := M.lexS_skip (l.drop (i + m)) (i + m) (M.lead (l.drop (i + m))) (Nat.le_refl _)
  rw [List.drop_drop] at e
  rw [e]
  cases M.lexS (l.drop (i + m + M.lead (l.drop (i + m)))) (i + m + M.lead (l.drop (i + m))) with
  | error e => rfl
  | ok r => simp
theorem ownT_base {B B' : Nat} {w : World} {v : Value} {l : M.Toks} (h : OwnT B w v l) (hB : B' ≤ B) : OwnT B' w v l := by
  obtain ⟨⟨h1, h2 | ⟨g, cap, cur, rfl, a, b, c⟩⟩, h3, h4⟩ := h
  · exact ⟨⟨h1, .inl h2⟩, h3, h4⟩
  · exact ⟨⟨h1, .inr ⟨g, cap, cur, rfl, Nat.le_trans hB a, b, c⟩⟩, h3, h4⟩
theorem ownT_nil (B : Nat) (w : World) : OwnT B w (.slice none 0 0) [] := ownV_nil _ _ _ _
end Go.Proofs.YtlobinjdgcidmaaDoor
/- jparse: the parser's state in memory; kind, unfit, take. -/
namespace Go.Proofs.YtlobinjdgcidmaaDoor
open Go.RowKit
set_option linter.unusedVariables false
set_option linter.unusedSimpArgs false

def atP (n : Nat) : M.Toks → Int
  | [] => n
  | t :: _ => t.2.1
def kindP : M.Toks → Nat
  | [] => 0
  | t :: _ => t.1
def synP (n : Nat) (ts : M.Toks) : Int × Int := (3, atP n ts)
structure Fr (pb : Nat) (w w' : World) : Prop where
  lo : Below pb w w'
  oth : ∀ j, j < w.heap.size → j ≠ pb → w'.heap[j]? = w.heap[j]?
theorem Fr.refl (pb : Nat) (w : World) : Fr pb w w := ⟨Below.refl _ _, fun _ _ _ => rfl⟩
theorem Fr.trans {pb : Nat} {a b c : World} (h : Fr pb a b) (k : Fr pb b c) : Fr pb a c :=
  ⟨h.lo.trans k.lo, fun j hj hn => (k.oth j (Nat.lt_of_lt_of_le hj h.lo.size) hn).trans (h.oth j hj hn)⟩
theorem Fr.of {pb : Nat} {w w' : World} (h : Below w.heap.size w w') (hp : pb ≤ w.heap.size) : Fr pb w w' := ⟨h.mono hp, fun j hj _ => h.block j hj⟩
def ptrP (w0 : World) : Value := .pointer (some ⟨w0.heap.size, 0, none⟩)
theorem infoTok1 : (Tryd.prog.info? 85).map (·.size) = some 3 := by kernel_rfl
end Go.Proofs.YtlobinjdgcidmaaDoor
/- jparse: take. -/
namespace Go.Proofs.YtlobinjdgcidmaaDoor
open Go.RowKit
set_option linter.unusedVariables false
set_option linter.unusedSimpArgs false

def takeP (n k : Nat) : M.Toks → Except (Int × Int) ((Nat × Nat × Nat) × M.Toks)
  | t :: r => if t.1 = k then .ok (t, r) else .error (synP n (t :: r))
  | [] => .error (synP n [])
def tz : Array Value := #[.int .i64 0, .int .i64 0, .int .i64 0]
end Go.Proofs.YtlobinjdgcidmaaDoor
/- jparse: single. -/
namespace Go.Proofs.YtlobinjdgcidmaaDoor
open Go.RowKit
set_option linter.unusedVariables false
set_option linter.unusedSimpArgs false

def leafP (k : Int) (fr : Int) : Vh := ⟨k, [], false, [], [], fr, 0, []⟩
def nilV : Value := .slice none 0 0
theorem Fr.setRow {pb : Nat} {w w' : World} (h : Fr pb w w') {g : Nat} (hg : w.heap.size ≤ g) (hp : pb ≤ g) (cs : Array Value) : Fr pb w (w'.setRow g cs) :=
  ⟨below_setRowK h.lo hp cs, fun j hj hn => by rw [setRow_other _ _ _ _ (by omega)]; exact h.oth j hj hn⟩
theorem infoV1 : (Tryd.prog.info? 36).map (·.size) = some 9 := infoVal
end Go.Proofs.YtlobinjdgcidmaaDoor
/- jparse.Units, plain: element by element. Nothing of the program is imported. -/
namespace Go.Proofs.YtlobinjdgcidmaaDoor.M
open Go.Lib
set_option linter.unusedVariables false
set_option linter.unusedSimpArgs false

set_option maxRecDepth 100000 in
set_option maxHeartbeats 4000000 in
/-- A mark behind a text is no part of a code point. -/
theorem dec_quote (s : List UInt8) (h0 : 0 < s.length) : dec (s ++ [34]) = dec s := by
  unfold dec
  obtain ⟨n, hn⟩ : ∃ n, s.length = n := ⟨_, rfl⟩
  have hq : byte (s ++ [34]) n = 34 := by unfold byte; rw [← hn]; simp [List.getD]
  have hs : ∀ i, i < n → byte (s ++ [34]) i = byte s i := fun i hi => byte_append s _ i (by omega)
  rw [List.length_append, hn, hs 0 (by omega)]
  simp only [List.length_cons, List.length_nil, Nat.zero_add]
  generalize byte s 0 = b0
  by_cases n1 : n = 1
  · subst n1
    rw [hq]
    unfold decodeN
    repeat' split
    all_goals first | (exfalso; omega) | rfl
  · rw [hs 1 (by omega)]
    by_cases n2 : n = 2
    · subst n2
      rw [hq]
      unfold decodeN
      repeat' split
      all_goals first | (exfalso; omega) | rfl
    · rw [hs 2 (by omega)]
      by_cases n3 : n = 3
      · subst n3
        rw [hq]
        unfold decodeN
        repeat' split
        all_goals first | (exfalso; omega) | rfl
      · rw [hs 3 (by omega)]
        unfold decodeN
        repeat' split
        all_goals first | (exfalso; omega) | rfl
theorem nx_quote (s : List UInt8) (h0 : 0 < s.length) : nx (s ++ [34]) = nx s := by unfold nx; rw [dec_quote s h0]
def elS (s : List UInt8) : Nat × Nat :=
  if s.getD 0 0 = 92 then
    (if s.length = 1 then (0, 0)
     else if s.getD 1 0 = 117 then (if s.length < 6 then (0, 0) else if hex4ok (s.drop 2) then (hex4 (s.drop 2), 6) else (0, 0))
     else if s.getD 1 0 ∈ escL then (escV (s.getD 1 0), 2) else (0, 0))
  else if (nx s).2.2 = true ∧ 32 ≤ (dec s).1 ∧ (dec s).1 ≠ 34 then dec s else (0, 0)
def Good (t : List UInt8) : Prop := jtS t = some t.length ∧ (validAll t).2 = true
theorem hex4_le (t : List UInt8) : hex4 t ≤ 65535 := by
  have h := fun k => hexV_lt (t.getD k 0)
  have h0 := h 0
  have h1 := h 1
  have h2 := h 2
  have h3 := h 3
  unfold hex4 hexN
  omega
theorem escV_le (d : UInt8) : escV d ≤ 255 := by
  have := d.toNat_lt
  unfold escV
  repeat' split
  all_goals omega
end Go.Proofs.YtlobinjdgcidmaaDoor.M
/- jparse.Units, plain: what the elements tell is what the page's own reading tells. Nothing of the program is imported. -/
namespace Go.Proofs.YtlobinjdgcidmaaDoor.M
open Go.Lib
set_option linter.unusedVariables false
set_option linter.unusedSimpArgs false

theorem dec_hi (s : List UInt8) (h : ¬ (s.getD 0 0).toNat < 128) : 128 ≤ (dec s).1 := by
  have hb : ¬ byte s 0 < 128 := h
  unfold dec decodeN
  rw [if_neg hb]
  repeat' split
  all_goals (simp only; omega)
theorem hexOk_app (v : List UInt8) (k : Nat) (h : k < v.length) : hexOk (v ++ [34]) k = hexOk v k := by
  have e : (v ++ [34]).getD k 0 = v.getD k 0 := by simp [List.getD, List.getElem?_append_left h]
  unfold hexOk
  rw [e]
theorem hex4ok_app (v : List UInt8) (h : 4 ≤ v.length) : hex4ok (v ++ [34]) = hex4ok v := by
  unfold hex4ok; rw [hexOk_app v 0 (by omega), hexOk_app v 1 (by omega), hexOk_app v 2 (by omega), hexOk_app v 3 (by omega)]
theorem hex4_app (v : List UInt8) (h : 4 ≤ v.length) : hex4 (v ++ [34]) = hex4 v := by
  have e : ∀ k, k < 4 → (v ++ [34]).getD k 0 = v.getD k 0 := fun k hk => by simp [List.getD, List.getElem?_append_left (show k < v.length by omega)]
  unfold hex4 hexN; rw [e 0 (by omega), e 1 (by omega), e 2 (by omega), e 3 (by omega)]
theorem hex4ok_len (v : List UInt8) (h : hex4ok v = true) : 4 ≤ v.length := by
  unfold hex4ok at h
  simp only [Bool.and_eq_true] at h
  have := (hexOk_in _ _ h.2).1
  omega
theorem hex4ok_low (v : List UInt8) (h : hex4ok v = true) : ∀ j, j < 4 → (v.getD j 0).toNat < 128 := by
  unfold hex4ok at h
  simp only [Bool.and_eq_true] at h
  have q0 := hexOk_in _ _ h.1.1.1
  have q1 := hexOk_in _ _ h.1.1.2
  have q2 := hexOk_in _ _ h.1.2
  have q3 := hexOk_in _ _ h.2
  intro j hj
  have : j = 0 ∨ j = 1 ∨ j = 2 ∨ j = 3 := by omega
  rcases this with rfl | rfl | rfl | rfl <;> omega
theorem esc_low (d : UInt8) (h : d ∈ escL) : d.toNat < 128 := by
  unfold escL at h
  simp only [List.mem_cons, List.mem_nil_iff, or_false] at h
  rcases h with rfl | rfl | rfl | rfl | rfl | rfl | rfl | rfl <;> decide
theorem pair_low (n : Nat) (h : n < 65536) : pairU n = [n] := by unfold pairU; rw [if_pos h]
theorem elS_hex (v : List UInt8) : elS (92 :: 117 :: v) = if (92 :: 117 :: v).length < 6 then (0, 0) else if hex4ok v then (hex4 v, 6) else (0, 0) := by
  have h1 : ¬ (92 :: 117 :: v).length = 1 := by simp
  have h2 : ((92 :: 117 :: v : List UInt8).getD 0 0 = 92) := rfl
  have h3 : ((92 :: 117 :: v : List UInt8).getD 1 0 = 117) := rfl
  unfold elS
  rw [if_pos h2, if_neg h1, if_pos h3]
  rfl
theorem elS_esc (d : UInt8) (v : List UInt8) (h : d ≠ 117) : elS (92 :: d :: v) = if d ∈ escL then (escV d, 2) else (0, 0) := by
  have h1 : ¬ (92 :: d :: v).length = 1 := by simp
  have h2 : ((92 :: d :: v : List UInt8).getD 0 0 = 92) := rfl
  have h3 : ¬ ((92 :: d :: v : List UInt8).getD 1 0 = 117) := h
  unfold elS
  rw [if_pos h2, if_neg h1, if_neg h3]
  rfl
theorem elS_cp (c : UInt8) (u : List UInt8) (h : c ≠ 92) : elS (c :: u) = if (nx (c :: u)).2.2 = true ∧ 32 ≤ (dec (c :: u)).1 ∧ (dec (c :: u)).1 ≠ 34 then dec (c :: u) else (0, 0) := by
  have h2 : ¬ ((c :: u : List UInt8).getD 0 0 = 92) := h
  unfold elS
  rw [if_neg h2]
theorem el_fwd (t : List UInt8) (h0 : 0 < t.length) (g : Good (t ++ [34])) :
    0 < (elS t).2 ∧ Good (t.drop (elS t).2 ++ [34]) ∧ ulS (t ++ [34]) = pairU (elS t).1 ++ ulS (t.drop (elS t).2 ++ [34]) := by
  match t, h0 with
  | c :: u, _ =>
    by_cases hc : c = 92
    · subst hc
      have g1 : jtS (92 :: (u ++ [34])) = some ((u ++ [34]).length + 1) := by have := g.1; simpa using this
      have g2 : (validAll (92 :: (u ++ [34]))).2 = true := g.2
      match u with
      | [] =>
        have := jt_esc [34] g1 g2 (by decide)
        simp at this
      | d :: v =>
        by_cases hd : d = 117
        · subst hd
          have k := jt_hex (117 :: v ++ [34]) g1 g2 rfl
          have kl : 4 ≤ v.length := by have := k.1; simp at this; omega
          have k2 : hex4ok v = true := by have := k.2.1; simp only [List.cons_append, List.drop_succ_cons, List.drop_zero] at this; rwa [hex4ok_app v kl] at this
          have hE : elS (92 :: 117 :: v) = (hex4 v, 6) := by
            rw [elS_hex, if_neg (by simp only [List.length_cons]; omega), if_pos k2]
          rw [hE]
          have e5 : (117 :: v ++ [34]).drop 5 = v.drop 4 ++ [34] := by
            simp only [List.cons_append, List.drop_succ_cons]
            exact List.drop_append_of_le_length kl
          have e6 : (92 :: 117 :: v).drop 6 = v.drop 4 := rfl
          simp only
          rw [e6]
          rw [e5] at k
          refine ⟨by omega, ⟨k.2.2.1, k.2.2.2⟩, ?_⟩
          have := ulS_hex (117 :: v ++ [34]) rfl
          rw [e5] at this
          show ulS (92 :: (117 :: v ++ [34])) = _
          rw [this]
          simp only [List.cons_append, List.drop_succ_cons, List.drop_zero]
          rw [hex4_app v kl, pair_low _ (by have := hex4_le v; omega)]
          rfl
        · have k := jt_esc (d :: v ++ [34]) g1 g2 (by simpa using hd)
          have k2 : d ∈ escL := by simpa using k.2.1
          have hE : elS (92 :: d :: v) = (escV d, 2) := by
            rw [elS_esc d v hd, if_pos k2]
          rw [hE]
          have e1 : (d :: v ++ [34]).drop 1 = v ++ [34] := rfl
          have e2 : (92 :: d :: v).drop 2 = v := rfl
          simp only
          rw [e2]
          rw [e1] at k
          refine ⟨by omega, ⟨k.2.2.1, k.2.2.2⟩, ?_⟩
          have := ulS_esc (d :: v ++ [34]) (by simp) (by simpa using hd)
          rw [e1] at this
          show ulS (92 :: (d :: v ++ [34])) = _
          rw [this, pair_low _ (by have := escV_le d; omega)]
          rfl
    · have hc2 : (c :: u ++ [34]).getD 0 0 ≠ 92 := by simpa using hc
      have k := jt_cp (c :: u ++ [34]) g.1 (by simp) g.2 hc2
      rw [nx_quote _ (by simp), dec_quote _ (by simp)] at k
      have kc : c ≠ 34 := by simpa using k.1
      have kd : 32 ≤ c.toNat := by simpa using k.2.1
      have hr : 32 ≤ (dec (c :: u)).1 ∧ (dec (c :: u)).1 ≠ 34 := by
        by_cases hlow : c.toNat < 128
        · have := (nx_ascii (c :: u) (by simp) (by simpa using hlow)).2.2
          simp only [List.getD_cons_zero] at this
          rw [this]
          refine ⟨kd, fun e => kc ?_⟩
          exact UInt8.toNat_inj.mp (by rw [e]; rfl)
        · have := dec_hi (c :: u) (by simpa using hlow)
          exact ⟨by omega, by omega⟩
      have hE : elS (c :: u) = dec (c :: u) := by
        rw [elS_cp c u hc, if_pos ⟨k.2.2.1, hr.1, hr.2⟩]
      rw [hE]
      have hw := dec_width (c :: u)
      have hle := dec_le (c :: u) (by simp)
      have e1 : (c :: u ++ [34]).drop (dec (c :: u)).2 = (c :: u).drop (dec (c :: u)).2 ++ [34] := List.drop_append_of_le_length hle
      rw [e1] at k
      refine ⟨by omega, ⟨k.2.2.2.2.1, k.2.2.2.2.2⟩, ?_⟩
      have := ulS_cp c (u ++ [34]) (by simp) hc
      rw [show c :: (u ++ [34]) = (c :: u) ++ [34] from rfl, dec_quote _ (by simp), e1] at this
      exact this
theorem el_bwd (t : List UInt8) (h0 : 0 < t.length) (hn : 0 < (elS t).2) (g : Good (t.drop (elS t).2 ++ [34])) : Good (t ++ [34]) := by
  match t, h0 with
  | c :: u, _ =>
    by_cases hc : c = 92
    · subst hc
      match u with
      | [] => exact absurd hn (by decide)
      | d :: v =>
        by_cases hd : d = 117
        · subst hd
          have hE : elS (92 :: 117 :: v) = if (92 :: 117 :: v).length < 6 then (0, 0) else if hex4ok v then (hex4 v, 6) else (0, 0) := elS_hex v
          by_cases h6 : (92 :: 117 :: v).length < 6
          · rw [hE, if_pos h6] at hn; exact absurd hn (by decide)
          · rw [hE, if_neg h6] at hn g
            cases h4 : hex4ok v with
            | false => rw [h4] at hn; simp at hn
            | true =>
              rw [h4, if_pos rfl] at g
              have kl := hex4ok_len v h4
              have lo := hex4ok_low v h4
              have e6 : (92 :: 117 :: v).drop 6 = v.drop 4 := rfl
              simp only at g
              rw [e6] at g
              have e5 : (117 :: v ++ [34]).drop 5 = v.drop 4 ++ [34] := by
                simp only [List.cons_append, List.drop_succ_cons]
                exact List.drop_append_of_le_length kl
              have h117 : (117 :: v ++ [34] : List UInt8).getD 0 0 = 117 := rfl
              refine ⟨?_, ?_⟩
              · show jtS (92 :: (117 :: v ++ [34])) = _
                rw [jtS_cons, if_neg (by decide), if_neg (by decide), if_neg (by simp), if_pos h117, e5]
                simp only [List.cons_append, List.drop_succ_cons, List.drop_zero]
                rw [hex4ok_app v kl, h4, if_pos rfl, g.1]
                simp
                omega
              · rw [valid_asciis 6 _ (by simp; omega) (fun j hj => by
                  have : j = 0 ∨ j = 1 ∨ j = 2 ∨ j = 3 ∨ j = 4 ∨ j = 5 := by omega
                  have e : ∀ k, k < 4 → (v ++ [34]).getD k 0 = v.getD k 0 := fun k hk => by simp [List.getD, List.getElem?_append_left (show k < v.length by omega)]
                  rcases this with rfl | rfl | rfl | rfl | rfl | rfl
                  · simp
                  · simp
                  · show ((v ++ [34]).getD 0 0).toNat < 128; rw [e 0 (by omega)]; exact lo 0 (by omega)
                  · show ((v ++ [34]).getD 1 0).toNat < 128; rw [e 1 (by omega)]; exact lo 1 (by omega)
                  · show ((v ++ [34]).getD 2 0).toNat < 128; rw [e 2 (by omega)]; exact lo 2 (by omega)
                  · show ((v ++ [34]).getD 3 0).toNat < 128; rw [e 3 (by omega)]; exact lo 3 (by omega))]
                have : (92 :: 117 :: v ++ [34]).drop 6 = v.drop 4 ++ [34] := e5
                rw [this]
                exact g.2
        · have hE : elS (92 :: d :: v) = if d ∈ escL then (escV d, 2) else (0, 0) := elS_esc d v hd
          by_cases h2 : d ∈ escL
          · rw [hE, if_pos h2] at g
            have e2 : (92 :: d :: v).drop 2 = v := rfl
            simp only at g
            rw [e2] at g
            refine ⟨?_, ?_⟩
            · show jtS (92 :: (d :: v ++ [34])) = _
              rw [jtS_cons, if_neg (by decide), if_neg (by decide), if_neg (by simp), if_neg (by simpa using hd), if_pos (by simpa using h2)]
              show (jtS (v ++ [34])).map _ = _
              rw [g.1]
              simp
            · rw [valid_asciis 2 _ (by simp) (fun j hj => by
                have : j = 0 ∨ j = 1 := by omega
                rcases this with rfl | rfl
                · simp
                · simpa using esc_low d h2)]
              exact g.2
          · rw [hE, if_neg h2] at hn; exact absurd hn (by decide)
    · have hE : elS (c :: u) = if (nx (c :: u)).2.2 = true ∧ 32 ≤ (dec (c :: u)).1 ∧ (dec (c :: u)).1 ≠ 34 then dec (c :: u) else (0, 0) := elS_cp c u hc
      by_cases hk : (nx (c :: u)).2.2 = true ∧ 32 ≤ (dec (c :: u)).1 ∧ (dec (c :: u)).1 ≠ 34
      · rw [hE, if_pos hk] at g
        have hw := dec_width (c :: u)
        have hle := dec_le (c :: u) (by simp)
        have e1 : (c :: u ++ [34]).drop (dec (c :: u)).2 = (c :: u).drop (dec (c :: u)).2 ++ [34] := List.drop_append_of_le_length hle
        refine ⟨?_, ?_⟩
        · by_cases hlow : c.toNat < 128
          · have ha := nx_ascii (c :: u) (by simp) (by simpa using hlow)
            simp only [List.getD_cons_zero] at ha
            rw [ha.2.1] at g
            have h32 : 32 ≤ c.toNat := by rw [← ha.2.2]; exact hk.2.1
            have h34 : c ≠ 34 := fun e => hk.2.2 (by rw [ha.2.2, e]; rfl)
            show jtS (c :: (u ++ [34])) = _
            rw [jtS_cons, if_neg h34, if_neg (by omega), if_pos hc]
            have g1 := g.1
            simp only [List.drop_succ_cons, List.drop_zero] at g1
            rw [g1]
            simp
          · have hcont := dec_cont (c :: u) hk.1
            have hh : ∀ x ∈ (c :: u).take (dec (c :: u)).2, 128 ≤ x.toNat := by
              intro x hx
              obtain ⟨j, hj, rfl⟩ := List.getElem_of_mem hx
              rw [List.getElem_take]
              simp only [List.length_take] at hj
              by_cases hj0 : j = 0
              · subst hj0; simpa using hlow
              · have := hcont j (by omega) (by omega)
                rwa [byte_get _ j (by omega)] at this
            have : c :: u ++ [34] = (c :: u).take (dec (c :: u)).2 ++ ((c :: u).drop (dec (c :: u)).2 ++ [34]) := by rw [← List.append_assoc, List.take_append_drop]
            rw [this, jtS_high _ _ hh, g.1]
            simp only [Option.map_some, List.length_append, List.length_take, List.length_drop, List.length_cons, List.length_nil, Option.some.injEq]
            simp only [List.length_cons] at hle
            omega
        · rw [validAll_step _ (by simp), nx_quote _ (by simp), dec_quote _ (by simp), hk.1, e1, g.2]; rfl
      · rw [hE, if_neg hk] at hn; exact absurd hn (by decide)
def uF : Nat → List UInt8 → Option (List Nat)
  | 0, _ => none
  | f + 1, t => if t.length = 0 then some [] else if (elS t).2 = 0 then none else (uF f (t.drop (elS t).2)).map (pairU (elS t).1 ++ ·)
theorem uF_some (f : Nat) : ∀ (t : List UInt8) (u : List Nat), t.length < f → uF f t = some u → Good (t ++ [34]) ∧ ulS (t ++ [34]) = u := by
  induction f with
  | zero => intro t u h; omega
  | succ f ih =>
    intro t u h hu
    unfold uF at hu
    by_cases h0 : t.length = 0
    · rw [if_pos h0] at hu
      obtain rfl : t = [] := List.eq_nil_of_length_eq_zero h0
      have : u = [] := by simpa using hu.symm
      subst this
      exact ⟨⟨by rw [List.nil_append, jtS_cons, if_pos rfl]; rfl, by decide⟩, ulS_end _ (by simp)⟩
    · rw [if_neg h0] at hu
      by_cases hn : (elS t).2 = 0
      · rw [if_pos hn] at hu; exact absurd hu (by simp)
      · rw [if_neg hn] at hu
        cases hr : uF f (t.drop (elS t).2) with
        | none => rw [hr] at hu; exact absurd hu (by simp)
        | some w =>
          rw [hr] at hu
          have hu2 : pairU (elS t).1 ++ w = u := by simpa using hu
          have := ih _ w (by rw [List.length_drop]; omega) hr
          have gg := el_bwd t (by omega) (by omega) this.1
          refine ⟨gg, ?_⟩
          rw [(el_fwd t (by omega) gg).2.2, this.2, hu2]
theorem uF_none (f : Nat) : ∀ (t : List UInt8), t.length < f → uF f t = none → ¬ Good (t ++ [34]) := by
  induction f with
  | zero => intro t h; omega
  | succ f ih =>
    intro t h hu g
    unfold uF at hu
    by_cases h0 : t.length = 0
    · rw [if_pos h0] at hu; exact absurd hu (by simp)
    · rw [if_neg h0] at hu
      have k := el_fwd t (by omega) g
      rw [if_neg (by omega)] at hu
      cases hr : uF f (t.drop (elS t).2) with
      | none => exact ih _ (by rw [List.length_drop]; omega) hr k.2.1
      | some w => rw [hr] at hu; exact absurd hu (by simp)
theorem jtS_last (l : List UInt8) : ∀ n, jtS l = some n → l.getD (n - 1) 0 = 34 := by
  induction l using jtS.induct with
  | case1 => intro n h; rw [jtS_nil] at h; exact absurd h (by simp)
  | case2 t => intro n h; rw [jtS_cons, if_pos rfl] at h; simp at h; subst h; rfl
  | case3 c t h1 h2 => intro n h; rw [jtS_cons, if_neg h1, if_pos h2] at h; exact absurd h (by simp)
  | case4 c t h1 h2 h3 ih =>
    intro n h; rw [jtS_cons, if_neg h1, if_neg h2, if_pos h3] at h
    cases hh : jtS t with
    | none => rw [hh] at h; exact absurd h (by simp)
    | some m =>
      rw [hh] at h; simp at h
      have := ih m hh
      have hm := jtS_le _ m hh
      subst h
      rw [show m + 1 - 1 = (m - 1) + 1 by omega]
      exact this
  | case5 c t h1 h2 h3 h4 h5 ih =>
    intro n h; rw [jtS_cons, if_neg h1, if_neg h2, if_neg h3, if_pos h4, if_pos h5] at h
    cases hh : jtS (t.drop 5) with
    | none => rw [hh] at h; exact absurd h (by simp)
    | some m =>
      rw [hh] at h; simp at h
      have := ih m hh
      have hm := jtS_le _ m hh
      subst h
      rw [show m + 6 - 1 = (5 + (m - 1)) + 1 by omega, List.getD_cons_succ, ← this]
      simp [List.getD]
  | case6 c t h1 h2 h3 h4 h5 => intro n h; rw [jtS_cons, if_neg h1, if_neg h2, if_neg h3, if_pos h4, if_neg h5] at h; exact absurd h (by simp)
  | case7 c t h1 h2 h3 h4 h5 ih =>
    intro n h; rw [jtS_cons, if_neg h1, if_neg h2, if_neg h3, if_neg h4, if_pos h5] at h
    cases hh : jtS (t.drop 1) with
    | none => rw [hh] at h; exact absurd h (by simp)
    | some m =>
      rw [hh] at h; simp at h
      have := ih m hh
      have hm := jtS_le _ m hh
      subst h
      rw [show m + 2 - 1 = (1 + (m - 1)) + 1 by omega, List.getD_cons_succ, ← this]
      simp [List.getD, Nat.add_comm]
  | case8 c t h1 h2 h3 h4 h5 => intro n h; rw [jtS_cons, if_neg h1, if_neg h2, if_neg h3, if_neg h4, if_neg h5] at h; exact absurd h (by simp)
theorem uF_iff (f : Nat) (t : List UInt8) (hf : t.length < f) : uF f t = if jtS (t ++ [34]) = some (t ++ [34]).length ∧ (validAll (t ++ [34])).2 = true then some (ulS (t ++ [34])) else none := by
  cases h : uF f t with
  | none =>
    have hg : ¬ (jtS (t ++ [34]) = some (t ++ [34]).length ∧ (validAll (t ++ [34])).2 = true) := uF_none _ t hf h
    rw [if_neg hg]
  | some u =>
    have := uF_some _ t u hf h
    have hg : (jtS (t ++ [34]) = some (t ++ [34]).length ∧ (validAll (t ++ [34])).2 = true) := this.1
    rw [if_pos hg, this.2]
end Go.Proofs.YtlobinjdgcidmaaDoor.M
