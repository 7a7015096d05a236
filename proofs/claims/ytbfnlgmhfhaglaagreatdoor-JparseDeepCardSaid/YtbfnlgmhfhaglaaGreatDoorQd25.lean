/- Texts of ours in one: ZDp ZEq. -/
import Derived.Test.YtbfnlgmhfhaglaaGreatDoorQd24
import Derived.Test.YtbfnlgmhfhaglaaGreatDoorQd02
import Derived.Deep.QuietTactic
import Derived.BigQuiet
import Derived.Outline
/- JSON, plain: arrays and objects in one another. -/
namespace Go.Proofs.YtbfnlgmhfhaglaaGreatDoor
set_option linter.unusedVariables false
set_option linter.unusedSimpArgs false

def opD (o : Bool) : List UInt8 := if o then [123, 34, 97, 34, 58] else [91]
def clD (o : Bool) : List UInt8 := if o then [125] else [93]
def repD (s : List UInt8) : Nat → List UInt8
  | 0 => []
  | n + 1 => repD s n ++ s
theorem repD_len (s : List UInt8) : ∀ n, (repD s n).length = n * s.length
  | 0 => by simp [repD]
  | n + 1 => by rw [repD, List.length_append, repD_len s n, Nat.add_mul, Nat.one_mul]
theorem repD_front (s : List UInt8) : ∀ n, repD s (n + 1) = s ++ repD s n
  | 0 => by simp [repD]
  | n + 1 => by
    have ih := repD_front s n
    have e : repD s (n + 1 + 1) = repD s (n + 1) ++ s := rfl
    rw [e, ih, List.append_assoc]
    congr 1
def nsD (o : Bool) (n : Nat) : List UInt8 := (repD (opD o) n ++ [49]) ++ repD (clD o) n
theorem nsD_step (o : Bool) (n : Nat) : nsD o (n + 1) = opD o ++ (nsD o n ++ clD o) := by
  unfold nsD
  rw [repD_front (opD o) n, repD]
  simp [List.append_assoc]
theorem nsD_len (o : Bool) (n : Nat) : (nsD o n).length = n * (opD o).length + 1 + n := by
  unfold nsD
  simp only [List.length_append, repD_len, List.length_cons, List.length_nil]
  cases o <;> simp [clD]
def tkD (o : Bool) : Nat → Nat → M.Toks
  | 0, p => [(8, p, p + 1)]
  | n + 1, p => (if o then [(1, p, p + 1), (7, p + 1, p + 4), (5, p + 4, p + 5)] else [(3, p, p + 1)]) ++ (tkD o n (p + (opD o).length) ++ [(if o then 2 else 4, p + (opD o).length + (nsD o n).length, p + (opD o).length + (nsD o n).length + 1)])
theorem tok_one (t : List UInt8) (h : M.goB (t.getD 0 0) = false) : M.tokL (49 :: t) = some (8, 1) := by
  have hd : M.dgB (t.getD 0 0) = false ∧ t.getD 0 0 ≠ 46 ∧ t.getD 0 0 ≠ 101 ∧ t.getD 0 0 ≠ 69 := by
    refine ⟨?_, ?_, ?_, ?_⟩
    · unfold M.goB at h
      simp only [Bool.or_eq_false_iff] at h
      exact h.1.1.1.1.1.1
    · intro e; rw [e] at h; exact absurd h (by decide)
    · intro e; rw [e] at h; exact absurd h (by decide)
    · intro e; rw [e] at h; exact absurd h (by decide)
  obtain ⟨h1, h2, h3, h4⟩ := hd
  have hr : M.run (49 :: t) = 1 := by
    unfold M.run
    rw [if_pos (by decide)]
    cases t with
    | nil => rfl
    | cons c t =>
      have : M.dgB c = false := by simpa using h1
      simp [M.run, this]
  have hn : M.neg (49 :: t) = 0 := by simp [M.neg]
  have hw : M.whole (49 :: t) = 1 := by unfold M.whole; rw [if_neg (by simp), hr]
  have hf : M.frac t = 0 := by unfold M.frac; rw [if_neg (fun e => h2 e.1)]
  have hx : M.expo t = 0 := by
    unfold M.expo
    rw [if_neg (by rintro (e | e); exact h3 e; exact h4 e)]
  have hl : M.numL (49 :: t) = some 1 := by
    unfold M.numL
    rw [hn]
    rw [if_pos (show M.dgB ((49 :: t).getD 0 0) = true by simp; decide)]
    simp only [List.drop_zero, hw, Nat.zero_add, List.drop_succ_cons, hf, hx, Nat.add_zero]
    rw [show (49 :: t).getD 1 0 = t.getD 0 0 by simp, h]
    rfl
  unfold M.tokL
  simp [hl]
theorem lexS_tok (s : List UInt8) (k m p : Nat) (r : M.Toks) (h0 : M.lead s = 0) (hl : 0 < s.length) (ht : M.tokL s = some (k, m)) (h : M.lexS (s.drop m) (p + m) = .ok r) : M.lexS s p = .ok ((k, p, p + m) :: r) := by
  rw [M.lexS_in s p k m (by omega) (by rw [h0]; simpa using ht), h0]
  simp only [Nat.zero_add, Nat.add_zero]
  rw [h]
theorem tok_123 (t : List UInt8) : M.tokL (123 :: t) = some (1, 1) := by simp [M.tokL]
theorem tok_125 (t : List UInt8) : M.tokL (125 :: t) = some (2, 1) := by simp [M.tokL]
theorem tok_58 (t : List UInt8) : M.tokL (58 :: t) = some (5, 1) := by simp [M.tokL]
theorem tok_a (t : List UInt8) : M.tokL (34 :: 97 :: 34 :: t) = some (7, 3) := by
  unfold M.tokL
  have : M.jtS (97 :: 34 :: t) = some 2 := by
    rw [M.jtS_cons, if_neg (by decide), if_neg (by decide), if_pos (by decide), M.jtS_cons, if_pos rfl]; rfl
  simp [this]
theorem lex_ns (o : Bool) : ∀ n p (post : List UInt8) (r : M.Toks), M.goB (post.getD 0 0) = false → M.lexS post (p + (nsD o n).length) = .ok r → M.lexS (nsD o n ++ post) p = .ok (tkD o n p ++ r) := by
  intro n
  induction n with
  | zero =>
    intro p post r hg h
    have e : nsD o 0 ++ post = 49 :: post := by simp [nsD, repD]
    rw [e]
    refine lexS_tok (49 :: post) 8 1 p r (by simp [M.lead, M.blB]) (by simp) (tok_one post hg) ?_
    have : (nsD o 0).length = 1 := by simp [nsD, repD]
    rw [this] at h
    simpa using h
  | succ n ih =>
    intro p post r hg h
    rw [nsD_step] at h ⊢
    cases o with
    | false =>
      have e : (opD false ++ (nsD false n ++ clD false)) ++ post = 91 :: (nsD false n ++ (93 :: post)) := by simp [opD, clD]
      rw [e]
      have hl : (opD false ++ (nsD false n ++ clD false)).length = 1 + (nsD false n).length + 1 := by simp [opD, clD]; omega
      rw [hl] at h
      have h1 := M.lex_sign 93 4 post (p + 1 + (nsD false n).length) r (by decide) M.tok_93 (by rw [show p + 1 + (nsD false n).length + 1 = p + (1 + (nsD false n).length + 1) by omega]; exact h)
      have h2 := ih (p + 1) (93 :: post) _ (by simp [M.goB, M.dgB]) h1
      have h3 := M.lex_sign 91 3 _ p _ (by decide) M.tok_91 h2
      rw [h3]
      simp [tkD, opD]
    | true =>
      have e : (opD true ++ (nsD true n ++ clD true)) ++ post = 123 :: 34 :: 97 :: 34 :: 58 :: (nsD true n ++ (125 :: post)) := by simp [opD, clD]
      rw [e]
      have hl : (opD true ++ (nsD true n ++ clD true)).length = 5 + (nsD true n).length + 1 := by simp [opD, clD]; omega
      rw [hl] at h
      have h1 := M.lex_sign 125 2 post (p + 5 + (nsD true n).length) r (by decide) tok_125 (by rw [show p + 5 + (nsD true n).length + 1 = p + (5 + (nsD true n).length + 1) by omega]; exact h)
      have h2 := ih (p + 5) (125 :: post) _ (by simp [M.goB, M.dgB]) h1
      have h3 := M.lex_sign 58 5 _ (p + 4) _ (by decide) tok_58 h2
      have h4 := lexS_tok (34 :: 97 :: 34 :: 58 :: (nsD true n ++ (125 :: post))) 7 3 (p + 1) _ (by simp [M.lead, M.blB]) (by simp) (tok_a _) (by simpa using h3)
      have h5 := M.lex_sign 123 1 _ p _ (by decide) tok_123 h4
      rw [h5]
      simp [tkD, opD]
theorem ns_split (o : Bool) (n : Nat) (hn : n ≤ 70) : M.splitV (nsD o n) = (tkD o n 0, 0, 0) := by
  apply M.split_ok
  · rw [nsD_len]; cases o <;> simp [opD] <;> omega
  · have := lex_ns o n 0 [] [] (by decide) (M.lexS_nil _)
    simpa using this
  · apply valid_all_ascii
    intro j hj
    have : ∀ c ∈ nsD o n, c.toNat < 128 := by
      intro c hc
      have hr : ∀ (s : List UInt8), (∀ c ∈ s, c.toNat < 128) → ∀ k, ∀ c ∈ repD s k, c.toNat < 128 := by
        intro s hs k
        induction k with
        | zero => intro c hc; simp [repD] at hc
        | succ k ih =>
          intro c hc
          rcases List.mem_append.1 hc with hc | hc
          · exact ih c hc
          · exact hs c hc
      unfold nsD at hc
      rcases List.mem_append.1 hc with hc | hc
      · rcases List.mem_append.1 hc with hc | hc
        · exact hr (opD o) (by cases o <;> decide) n c hc
        · rw [List.mem_singleton.1 hc]; decide
      · exact hr (clD o) (by cases o <;> decide) n c hc
    have hm : (nsD o n).getD j 0 ∈ nsD o n := by
      rw [List.getD_eq_getElem?_getD, List.getElem?_eq_getElem hj]
      simp
    exact this _ hm
def DeepV : Nat → Vh → Vo → Prop
  | 0, h, kids => h.k = 4 ∧ kids = .nil
  | n + 1, h, kids => ∃ L h' kids', kids = Vo.snoc L h' kids' ∧ DeepV n h' kids'
theorem val_deep (l : List UInt8) (o : Bool) : ∀ n f deep p (r : M.Toks), 2 * n + 2 ≤ f →
    (n ≤ deep → ∃ h kids, valP l f deep (tkD o n p ++ r) = .ok (h, kids, r) ∧ DeepV n h kids) ∧
    (deep < n → valP l f deep (tkD o n p ++ r) = .error (4, ((p + deep * (opD o).length : Nat) : Int))) := by
  intro n
  induction n with
  | zero =>
    intro f deep p r hf
    obtain ⟨f, rfl⟩ : ∃ q, f = q + 1 := ⟨f - 1, by omega⟩
    refine ⟨fun _ => ⟨numbV l (8, p, p + 1), .nil, by simp [tkD, valP], rfl, rfl⟩, fun h => absurd h (by omega)⟩
  | succ n ih =>
    intro f deep p r hf
    obtain ⟨f, rfl⟩ : ∃ q, f = q + 1 := ⟨f - 1, by omega⟩
    obtain ⟨f0, rfl⟩ : ∃ q, f = q + 1 := ⟨f - 1, by omega⟩
    have hk : ∀ (q : Nat) (s : M.Toks), kindP (tkD o n q ++ s) ≠ 4 ∧ kindP (tkD o n q ++ s) ≠ 2 := by
      intro q s
      cases n with
      | zero => simp [tkD, kindP]
      | succ n => cases o <;> simp [tkD, kindP]
    cases o with
    | false =>
      have e : tkD false (n + 1) p ++ r = (3, p, p + 1) :: (tkD false n (p + 1) ++ ((4, p + 1 + (nsD false n).length, p + 1 + (nsD false n).length + 1) :: r)) := by simp [tkD, opD]
      rw [e]
      cases deep with
      | zero => exact ⟨fun h => absurd h (by omega), fun _ => by simp [valP]⟩
      | succ d =>
        have v1 := ih (f0 + 1) d (p + 1) ((4, p + 1 + (nsD false n).length, p + 1 + (nsD false n).length + 1) :: r) (by omega)
        have hv : valP l (f0 + 1 + 1) (d + 1) ((3, p, p + 1) :: (tkD false n (p + 1) ++ ((4, p + 1 + (nsD false n).length, p + 1 + (nsD false n).length + 1) :: r))) =
            (match itemW l (valP l (f0 + 1) d) false (tkD false n (p + 1) ++ ((4, p + 1 + (nsD false n).length, p + 1 + (nsD false n).length + 1) :: r)) [] .nil with
              | .error e => .error e
              | .ok (ms, L, r2) => restP l (f0 + 1) false d p r2 ms L) := by
          rw [valP]
          simp only
          rw [if_neg (by decide), if_neg (by decide), if_neg (by decide), if_pos (by decide), if_neg (hk _ _).1]
          rfl
        rw [hv]
        unfold itemW
        simp only [Bool.false_eq_true, if_false]
        constructor
        · intro hle
          obtain ⟨h, kids, e1, e2⟩ := v1.1 (by omega)
          rw [e1]
          simp only
          refine ⟨⟨2, [], false, [], [], p, (p + 1 + (nsD false n).length : Nat), []⟩, Vo.snoc .nil h kids, ?_, .nil, h, kids, rfl, e2⟩
          rw [restP, if_pos (by simp [kindP, shL])]
          simp [takeP, shL, kdL]
        · intro hlt
          rw [v1.2 (by omega)]
          simp only [opD, Bool.false_eq_true, if_false, List.length_cons, List.length_nil]
          congr 2
          omega
    | true =>
      have e : tkD true (n + 1) p ++ r = (1, p, p + 1) :: (7, p + 1, p + 4) :: (5, p + 4, p + 5) :: (tkD true n (p + 5) ++ ((2, p + 5 + (nsD true n).length, p + 5 + (nsD true n).length + 1) :: r)) := by simp [tkD, opD]
      rw [e]
      cases deep with
      | zero => exact ⟨fun h => absurd h (by omega), fun _ => by simp [valP]⟩
      | succ d =>
        have v1 := ih (f0 + 1) d (p + 5) ((2, p + 5 + (nsD true n).length, p + 5 + (nsD true n).length + 1) :: r) (by omega)
        have hv : valP l (f0 + 1 + 1) (d + 1) ((1, p, p + 1) :: (7, p + 1, p + 4) :: (5, p + 4, p + 5) :: (tkD true n (p + 5) ++ ((2, p + 5 + (nsD true n).length, p + 5 + (nsD true n).length + 1) :: r))) =
            (match itemW l (valP l (f0 + 1) d) true ((7, p + 1, p + 4) :: (5, p + 4, p + 5) :: (tkD true n (p + 5) ++ ((2, p + 5 + (nsD true n).length, p + 5 + (nsD true n).length + 1) :: r))) [] .nil with
              | .error e => .error e
              | .ok (ms, L, r2) => restP l (f0 + 1) true d p r2 ms L) := by
          rw [valP]
          simp only
          rw [if_neg (by decide), if_neg (by decide), if_neg (by decide), if_pos (by decide), if_neg (by simp [kindP])]
          rfl
        rw [hv]
        have iw : itemW l (valP l (f0 + 1) d) true ((7, p + 1, p + 4) :: (5, p + 4, p + 5) :: (tkD true n (p + 5) ++ ((2, p + 5 + (nsD true n).length, p + 5 + (nsD true n).length + 1) :: r))) [] .nil =
            (match valP l (f0 + 1) d (tkD true n (p + 5) ++ ((2, p + 5 + (nsD true n).length, p + 5 + (nsD true n).length + 1) :: r)) with
              | .error e => .error e
              | .ok (h, kids, r3) => .ok ([] ++ [((p + 4 : Nat) : Int)], (Vo.snoc .nil (textV l (7, p + 1, p + 4)) .nil).snoc h kids, r3)) := by
          unfold itemW
          rw [if_pos rfl]
          cases hvv : valP l (f0 + 1) d (tkD true n (p + 5) ++ ((2, p + 5 + (nsD true n).length, p + 5 + (nsD true n).length + 1) :: r)) with
          | error e => simp [takeP, hvv]
          | ok q => obtain ⟨a, b, c⟩ := q; simp [takeP, hvv]
        rw [iw]
        constructor
        · intro hle
          obtain ⟨h, kids, e1, e2⟩ := v1.1 (by omega)
          rw [e1]
          simp only
          refine ⟨⟨1, [], false, [], [], p, (p + 5 + (nsD true n).length : Nat), [((p + 4 : Nat) : Int)]⟩, (Vo.snoc .nil (textV l (7, p + 1, p + 4)) .nil).snoc h kids, ?_, _, h, kids, rfl, e2⟩
          rw [restP, if_pos (by simp [kindP, shL])]
          simp [takeP, shL, kdL]
        · intro hlt
          rw [v1.2 (by omega)]
          simp only [opD, if_true, List.length_cons, List.length_nil]
          congr 2
          omega
theorem tkD_len (o : Bool) : ∀ n p, n ≤ (tkD o n p).length
  | 0, p => Nat.zero_le _
  | n + 1, p => by
    have := tkD_len o n (p + (opD o).length)
    cases o <;> simp [tkD] <;> omega
theorem deep_parse (o : Bool) (n : Nat) (depth : Int) (hn : n ≤ 70) :
    (n ≤ dpN depth → ∃ h kids, parseV (nsD o n) depth = .ok (h, kids) ∧ DeepV n h kids) ∧ (dpN depth < n → parseV (nsD o n) depth = .error (4, ((dpN depth * (opD o).length : Nat) : Int))) := by
  have hs := ns_split o n hn
  have ln := tkD_len o n 0
  have v := val_deep (nsD o n) o n (2 * (tkD o n 0).length + 2) (dpN depth) 0 [] (by omega)
  rw [List.append_nil, Nat.zero_add] at v
  unfold parseV parP
  rw [hs, if_pos rfl]
  simp only
  constructor
  · intro h
    obtain ⟨a, b, c, d⟩ := v.1 h
    exact ⟨a, b, by rw [c], d⟩
  · intro h
    rw [v.2 h]
end Go.Proofs.YtbfnlgmhfhaglaaGreatDoor
/- slices.Equal of ints. -/
namespace Go.Proofs.YtbfnlgmhfhaglaaGreatDoor
open Go.RowKit
set_option linter.unusedVariables false
set_option linter.unusedSimpArgs false

set_option maxRecDepth 100000 in
set_option maxHeartbeats 1000000 in
theorem seq_any (v u : Value) (l k : List Int) (r : Bool) (w : World) (hv : Is w v l) (hu : Is w u k) (hl : l.length ≤ 4294967296) (hk : k.length ≤ 4294967296) (hr : decide (l = k) = r) :
    Calls Tryz.prog 23 #[v, u] w fun e w' => e = .returned (.bool r) ∧ Below w.heap.size w w' := by
  obtain ⟨a, cap, rfl, h1, h2, h3⟩ := hv
  obtain ⟨a', cap', rfl, g1, g2, g3⟩ := hu
  have H3 := Lib.hid h3
  have G3 := Lib.hid g3
  have Hr := Lib.hid hr
  by_cases hlk : l.length = k.length
  · obtain ⟨n, hn⟩ : ∃ n, l.length = n := ⟨_, rfl⟩
    rw [hn] at hlk h1 hl ⊢
    rw [← hlk] at g1 hk ⊢
    have Hn := Lib.hid hn
    have Hk := Lib.hid hlk
    clear h3 g3 hr hn hlk
    go_enter Tryz.func23, Tryz.ntmps23
    go_wp2
    go_loopw [5, 13] (fun _ iv wr => ∃ m q : Nat, iv = .int .i64 m ∧ m ≤ n ∧ wr = w.drewN q ∧ l.take m = k.take m) (fun _ iv _ => n - (intOf iv).toNat)
    case atStart => exact ⟨0, 0, rfl, by omega, rfl, by simp⟩
    case round =>
      obtain ⟨m, q, rfl, hm, rfl, ht⟩ := hrel
      have Ht := Lib.hid ht
      clear ht
      by_cases hlt : m < n
      · obtain ⟨b, off, rfl, hb, hc⟩ := H3.out (by rw [Hn.out]; omega)
        obtain ⟨b', off', rfl, hb', hc'⟩ := G3.out (by rw [← Hk.out]; omega)
        have c1 := hc m (by rw [Hn.out]; exact hlt)
        have c2 := hc' m (by rw [← Hk.out]; exact hlt)
        obtain ⟨x, hx⟩ : ∃ x, l[m]'(by rw [Hn.out]; exact hlt) = x := ⟨_, rfl⟩
        obtain ⟨y, hy⟩ : ∃ x, k[m]'(by rw [← Hk.out]; exact hlt) = x := ⟨_, rfl⟩
        rw [hx] at c1
        rw [hy] at c2
        have Hx := Lib.hid hx
        have Hy := Lib.hid hy
        have i1 : (0 : Int) ≤ m := by omega
        have i2 : (m : Int) < n := by omega
        clear hc hc' hx hy
        by_cases hxy : x = y
        · have t1 : (x != y) = false := by simp [hxy]
          have t2 : (x == y) = true := by simp [hxy]
          have hnext : l.take (m + 1) = k.take (m + 1) := by
            rw [List.take_succ_eq_append_getElem (by rw [Hn.out]; exact hlt), List.take_succ_eq_append_getElem (by rw [← Hk.out]; exact hlt), Ht.out, Hx.out, Hy.out, hxy]
          have Hnext := Lib.hid hnext
          clear hnext hxy
          go_wp2
          go_quiet (fail)
          go_wp2
          go_roundw
          case rel => exact ⟨m + 1, _, by go_num, by omega, rfl, Hnext.out⟩
          case measure => simp [intOf]; omega
        · have t1 : (x != y) = true := by simpa using hxy
          have t2 : (x == y) = false := by simpa using hxy
          have hr2 : r = false := by
            rw [← Hr.out]
            rw [decide_eq_false_iff_not]
            intro hh
            apply hxy
            rw [← Hx.out, ← Hy.out]
            subst hh
            rfl
          subst hr2
          clear hxy
          go_wp2
          go_quiet (fail)
          go_wp2
          go_ret
          exact ⟨rfl, ⟨rfl, rfl, rfl, Nat.le_refl _, fun _ _ => rfl⟩⟩
      · obtain rfl : m = n := by omega
        have hr2 := Hr.out
        have ht := Ht.out
        rw [List.take_of_length_le (by rw [Hn.out]; exact Nat.le_refl _), List.take_of_length_le (by rw [← Hk.out]; exact Nat.le_refl _)] at ht
        have : r = true := by rw [← hr2]; simpa using ht
        subst this
        clear hlt hr2 ht
        go_wp2
        go_ret
        exact ⟨rfl, ⟨rfl, rfl, rfl, Nat.le_refl _, fun _ _ => rfl⟩⟩
  · have : r = false := by
      rw [← hr, decide_eq_false_iff_not]
      intro hh; exact hlk (by rw [hh])
    subst this
    have t1 : ((l.length : Int) != k.length) = true := by simp; omega
    have t2 : ((l.length : Int) == k.length) = false := by simp; omega
    clear h3 g3 hr
    go_enter Tryz.func23, Tryz.ntmps23
    go_wp2
    go_ret
    exact ⟨rfl, Below.refl _ _⟩
end Go.Proofs.YtbfnlgmhfhaglaaGreatDoor
