/- Documents of any shape in memory: lists of documents as forests; a document that came in, opened. -/
import Derived.Test.YtehofomfblfhaaaTDoc3
import Derived.Deep.Slices
import Derived.Deep.Fields
import Derived.ChangeSame
import Derived.ProofKit
import Derived.OpenShut
namespace Go.Proofs.Ytehofomfblfhaaa
open Go.RowKit Go.ChangeShapes Go.WideShapes
set_option linter.unusedVariables false
set_option linter.unusedSimpArgs false

/-- A list of documents: the first one's kind, place, text, kids; the rest. -/
inductive Fo where
  | nil : Fo
  | cons (k f : Int) (s : ByteArray) (kids rest : Fo) : Fo
def Fo.len : Fo → Nat
  | .nil => 0
  | .cons _ _ _ _ r => r.len + 1
/-- Such a list in memory, from a place on. -/
def FoAt (w : World) : Fo → Nat → Nat → Prop
  | .nil, _, _ => True
  | .cons k f s kids rest, b, off => (s.size ≤ maxLen ∧ w.cell? ⟨b, off, none⟩ = some (.int .i64 k) ∧ w.cell? ⟨b, off + 1, none⟩ = some (.int .i64 f) ∧ w.cell? ⟨b, off + 2, none⟩ = some (.string s) ∧
      ∃ a cap, w.cell? ⟨b, off + 3, none⟩ = some (.slice a kids.len cap) ∧ kids.len ≤ cap ∧ cap ≤ maxLen ∧ (a = none → cap = 0) ∧ (0 < kids.len → ∃ b' off', a = some ⟨b', off', none⟩ ∧ b' < w.heap.size ∧ FoAt w kids b' off')) ∧
      FoAt w rest b (off + 4)
/-- A document's kids. -/
def FoS (w : World) (v : Value) (L : Fo) : Prop :=
  ∃ a cap, v = .slice a L.len cap ∧ L.len ≤ cap ∧ cap ≤ maxLen ∧ (a = none → cap = 0) ∧ (0 < L.len → ∃ b off, a = some ⟨b, off, none⟩ ∧ b < w.heap.size ∧ FoAt w L b off)
theorem foAt_keep {w w' : World} (hb : Below w.heap.size w w') (L : Fo) : ∀ b off, b < w.heap.size → FoAt w L b off → FoAt w' L b off := by
  induction L with
  | nil => intros; trivial
  | cons k f s kids rest ih1 ih2 =>
    intro b off hlt h
    obtain ⟨⟨hs, c0, c1, c2, a, cap, c3, h1, h2, h3, h4⟩, h5⟩ := h
    refine ⟨⟨hs, (hb.cell (p := ⟨b, off, none⟩) hlt).trans c0, (hb.cell (p := ⟨b, off + 1, none⟩) hlt).trans c1, (hb.cell (p := ⟨b, off + 2, none⟩) hlt).trans c2, a, cap, (hb.cell (p := ⟨b, off + 3, none⟩) hlt).trans c3, h1, h2, h3, fun h0 => ?_⟩, ih2 b (off + 4) hlt h5⟩
    obtain ⟨b', off', e, hl', hk⟩ := h4 h0
    exact ⟨b', off', e, Nat.lt_of_lt_of_le hl' hb.size, ih1 b' off' hl' hk⟩
theorem FoS.keep {w w' : World} {v : Value} {L : Fo} (h : FoS w v L) (hb : Below w.heap.size w w') : FoS w' v L := by
  obtain ⟨a, cap, rfl, h1, h2, h3, h4⟩ := h
  refine ⟨a, cap, rfl, h1, h2, h3, fun h0 => ?_⟩
  obtain ⟨b, off, e, hl, hk⟩ := h4 h0
  exact ⟨b, off, e, Nat.lt_of_lt_of_le hl hb.size, foAt_keep hb L b off hl hk⟩
/-- The n-th document of a list in memory. -/
def Fo.at? : Fo → Nat → Option (Int × Int × ByteArray × Fo)
  | .nil, _ => none
  | .cons k f s kids _, 0 => some (k, f, s, kids)
  | .cons _ _ _ _ r, n + 1 => r.at? n
theorem foAt_get {w : World} (L : Fo) : ∀ b off j k f s kids, FoAt w L b off → L.at? j = some (k, f, s, kids) →
    s.size ≤ maxLen ∧ w.cell? ⟨b, off + j * 4, none⟩ = some (.int .i64 k) ∧ w.cell? ⟨b, off + j * 4 + 1, none⟩ = some (.int .i64 f) ∧ w.cell? ⟨b, off + j * 4 + 2, none⟩ = some (.string s) ∧ ∃ v, w.cell? ⟨b, off + j * 4 + 3, none⟩ = some v ∧ FoS w v kids := by
  induction L with
  | nil => intro b off j k f s kids _ h; simp [Fo.at?] at h
  | cons k0 f0 s0 kids0 rest ih1 ih2 =>
    intro b off j k f s kids h hj
    obtain ⟨⟨hs, c0, c1, c2, a, cap, c3, h1, h2, h3, h4⟩, h5⟩ := h
    cases j with
    | zero =>
      simp only [Fo.at?, Option.some.injEq, Prod.mk.injEq] at hj
      obtain ⟨rfl, rfl, rfl, rfl⟩ := hj
      simp only [Nat.zero_mul, Nat.add_zero]
      exact ⟨hs, c0, c1, c2, _, c3, a, cap, rfl, h1, h2, h3, h4⟩
    | succ j =>
      have := ih2 b (off + 4) j k f s kids h5 hj
      rw [show off + (j + 1) * 4 = off + 4 + j * 4 by omega]
      exact this
theorem Fo.at_some (L : Fo) : ∀ j, j < L.len → ∃ k f s kids, L.at? j = some (k, f, s, kids) := by
  induction L with
  | nil => intro j h; simp [Fo.len] at h
  | cons k f s kids rest _ ih =>
    intro j h
    cases j with
    | zero => exact ⟨k, f, s, kids, rfl⟩
    | succ j => exact ih j (by simp [Fo.len] at h; omega)
/-- A list put together out of its documents. -/
theorem foAt_of {w : World} {b : Nat} (n : Nat) : ∀ off, (∀ j, j < n → ∃ k f s v kids, s.size ≤ maxLen ∧ w.cell? ⟨b, off + j * 4, none⟩ = some (.int .i64 k) ∧ w.cell? ⟨b, off + j * 4 + 1, none⟩ = some (.int .i64 f) ∧ w.cell? ⟨b, off + j * 4 + 2, none⟩ = some (.string s) ∧ w.cell? ⟨b, off + j * 4 + 3, none⟩ = some v ∧ FoS w v kids) →
    ∃ L : Fo, L.len = n ∧ FoAt w L b off := by
  induction n with
  | zero => intro off _; exact ⟨.nil, rfl, trivial⟩
  | succ n ih =>
    intro off h
    obtain ⟨k, f, s, v, kids, hs, c0, c1, c2, c3, a, cap, rfl, h1, h2, h3, h4⟩ := h 0 (by omega)
    obtain ⟨L, hL, hat⟩ := ih (off + 4) (fun j hj => by
      have := h (j + 1) (by omega)
      rw [show off + (j + 1) * 4 = off + 4 + j * 4 by omega] at this
      exact this)
    simp only [Nat.zero_mul, Nat.add_zero] at c0 c1 c2 c3
    exact ⟨.cons k f s kids L, by simp [Fo.len, hL], ⟨hs, c0, c1, c2, a, cap, c3, h1, h2, h3, h4⟩, hat⟩
set_option maxRecDepth 100000 in
theorem open_doc_n {H : Type} {enc : TypeId × Value → H} {W : World} : ∀ (fuel : Nat) (cs : List Value) (x : DataW H × List MemPlace),
    DataW.trod enc Try.prog W 0 (fun _ => true) true fuel 24 cs = some x → ∃ k f s v L, cs = [.int .i64 k, .int .i64 f, .string s, v] ∧ s.size ≤ maxLen ∧ FoS W v L := by
  intro fuel
  induction fuel using Nat.strongRecOn with
  | _ fuel ih =>
    intro cs x h
    have ce : Try.prog.cellsOf 24 = 4 := by kernel_rfl
    obtain ⟨xs, n', hfu, _, hcl, hxl, hfl⟩ := DataW.trod_struct Try.underlying24 h
    rw [ce] at hcl
    have got : ∀ (j : Nat) (f : Field), (match Try.prog.underlying 24 with | some (.struct fs) => fs[j]? | _ => none) = some f → ∃ y, DataW.trod enc Try.prog W 0 (fun _ => true) true n' f.type ((cs.drop f.offset).take (Try.prog.cellsOf f.type)) = some y := by
      intro j f hf
      have h1 := hfl j f (by rw [Try.underlying24] at hf; exact hf)
      rw [h1]
      have hj : j < xs.length := by
        rw [Try.underlying24] at hf
        have := (Array.getElem?_eq_some_iff.1 hf).1
        omega
      exact ⟨_, List.getElem?_eq_getElem hj⟩
    have one : ∀ (j : Nat) (hj : j < 4) (f : Field), f.offset = j → Try.prog.cellsOf f.type = 1 → (∃ y, DataW.trod enc Try.prog W 0 (fun _ => true) true n' f.type ((cs.drop f.offset).take (Try.prog.cellsOf f.type)) = some y) → ∃ y, DataW.trod enc Try.prog W 0 (fun _ => true) true n' f.type [cs[j]'(by omega)] = some y := by
      intro j hj f h1 h2 ⟨y, hy⟩
      rw [h1, h2, show (cs.drop j).take 1 = [cs[j]'(by omega)] by rw [List.drop_eq_getElem_cons (by omega)]; rfl] at hy
      exact ⟨y, hy⟩
    obtain ⟨y0, e0⟩ := one 0 (by omega) _ rfl (by kernel_rfl) (got 0 _ (by rw [Try.underlying24]; rfl))
    obtain ⟨y1, e1⟩ := one 1 (by omega) _ rfl (by kernel_rfl) (got 1 _ (by rw [Try.underlying24]; rfl))
    obtain ⟨y2, e2⟩ := one 2 (by omega) _ rfl (by kernel_rfl) (got 2 _ (by rw [Try.underlying24]; rfl))
    obtain ⟨y3, e3⟩ := one 3 (by omega) _ rfl (by kernel_rfl) (got 3 _ (by rw [Try.underlying24]; rfl))
    obtain ⟨k, hk, _⟩ := DataW.trod_int Try.underlying3 e0
    obtain ⟨f, hf, _⟩ := DataW.trod_int Try.underlying3 e1
    obtain ⟨s, hs, _, hsz⟩ := DataW.trod_string Try.underlying9 e2
    simp only [List.cons.injEq, and_true] at hk hf hs
    refine ⟨k, f, s, cs[3]'(by omega), ?_⟩
    have hcs : cs = [.int .i64 k, .int .i64 f, .string s, cs[3]'(by omega)] := by
      apply List.ext_getElem (by simpa using hcl)
      intro i h1 h2
      match i, h2 with
      | 0, _ => exact hk
      | 1, _ => exact hf
      | 2, _ => exact hs
      | 3, _ => rfl
    suffices hS : ∃ L, FoS W (cs[3]'(by omega)) L by
      obtain ⟨L, hL⟩ := hS
      exact ⟨L, hcs, hsz, hL⟩
    rcases DataW.trod_slice Try.underlying22 e3 with ⟨h0, _⟩ | ⟨a, len, cap, elems, rest, n, hn, h0, _, _, hl, hm, hlen, hel, _⟩
    · simp only [List.cons.injEq, and_true] at h0
      rw [h0]
      exact ⟨.nil, none, 0, rfl, Nat.le_refl _, by decide, fun _ => rfl, fun h => by simp [Fo.len] at h⟩
    · simp only [List.cons.injEq, and_true] at h0
      rw [h0]
      have each : ∀ j, j < len → ∃ k f s v kids, s.size ≤ maxLen ∧ FoS W v kids ∧ ∀ i u, [Value.int .i64 k, .int .i64 f, .string s, v][i]? = some u → W.cell? (a.add (j * 4 + i)) = some u := by
        intro j hj
        have := hel j hj
        rw [List.getElem?_eq_getElem (by omega)] at this
        obtain ⟨cs', h1, h2⟩ := Option.bind_eq_some_iff.1 this
        obtain ⟨k, f, s, v, L, rfl, hs, hL⟩ := ih n (by omega) cs' _ h2
        rw [ce] at h1
        obtain ⟨_, hcl', hat⟩ := World.cells?_some h1
        refine ⟨k, f, s, v, L, hs, hL, fun i u hu => ?_⟩
        have hi : i < 4 := by have := (List.getElem?_eq_some_iff.1 hu).1; simpa using this
        rw [← Go.Deep.add_add, hat i hi]
        exact hu
      rcases Nat.eq_zero_or_pos len with hz | hz
      · subst hz
        exact ⟨.nil, _, cap, rfl, Nat.zero_le _, hm, by simp, fun h => by simp [Fo.len] at h⟩
      · obtain ⟨k, f', s', v, kids, _, _, c0⟩ := each 0 hz
        have c0 := c0 0 _ rfl
        obtain ⟨b, off, sp⟩ := a
        have hs2 : sp = none := by
          cases sp with
          | none => rfl
          | some s => exfalso; revert c0; simp [Addr.add, World.cell?]; cases W.heap[b]? with
            | none => simp
            | some o => cases o <;> simp
        subst hs2
        have hb : b < W.heap.size := by
          have := World.block_lt_of_cell? W _ c0
          rw [Go.WideShapes.add_plain] at this
          exact this
        obtain ⟨L, hL, hat⟩ := foAt_of (w := W) (b := b) len off (fun j hj => by
          obtain ⟨k, f, s, v, kids, hs, hv, hc⟩ := each j hj
          refine ⟨k, f, s, v, kids, hs, ?_, ?_, ?_, ?_, hv⟩
          · have := hc 0 _ rfl; rw [Go.WideShapes.add_plain] at this; exact this
          · have := hc 1 _ rfl; rw [Go.WideShapes.add_plain] at this; rwa [← Nat.add_assoc] at this
          · have := hc 2 _ rfl; rw [Go.WideShapes.add_plain] at this; rwa [← Nat.add_assoc] at this
          · have := hc 3 _ rfl; rw [Go.WideShapes.add_plain] at this; rwa [← Nat.add_assoc] at this)
        subst hL
        exact ⟨L, _, cap, rfl, hl, hm, by simp, fun _ => ⟨b, off, rfl, hb, hat⟩⟩
end Go.Proofs.Ytehofomfblfhaaa
