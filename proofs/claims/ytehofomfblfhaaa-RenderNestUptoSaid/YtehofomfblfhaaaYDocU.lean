/- A document that came in, of the second form: how big it may be. -/
import Derived.Test.YtehofomfblfhaaaTForest
import Derived.Test.YtehofomfblfhaaaMgWF
import Derived.Test.YtehofomfblfhaaaRows
import Derived.Test.YtehofomfblfhaaaYTx
import Derived.Test.YtehofomfblfhaaaMgWN
import Derived.WalkKit
namespace Go.Proofs.Ytehofomfblfhaaa
open Go.RowKit Go.ChangeShapes Go.WideShapes
set_option linter.unusedVariables false
set_option linter.unusedSimpArgs false

theorem bulk_one {H : Type} (d : DataW H) : 1 ≤ Rows.uptoBulk d := by
  cases d with
  | lit l => cases l <;> simp [Rows.uptoBulk]
  | _ => simp [Rows.uptoBulk]
theorem bulk_len {H : Type} (l : List (DataW H)) : l.length ≤ Rows.uptoBulkAll l := by
  induction l with
  | nil => simp [Rows.uptoBulkAll]
  | cons d r ih => have := bulk_one d; simp only [Rows.uptoBulkAll, List.length_cons]; omega
theorem bulk_mem {H : Type} {d : DataW H} {l : List (DataW H)} (h : d ∈ l) : Rows.uptoBulk d ≤ Rows.uptoBulkAll l := by
  induction l with
  | nil => exact absurd h (by simp)
  | cons x r ih =>
    simp only [Rows.uptoBulkAll]
    rcases List.mem_cons.1 h with rfl | h
    · omega
    · have := ih h; omega
theorem upto_all {H : Type} {ds : List (DataW H)} (hk : Rows.uptoSmall H ds = true) : Rows.uptoBulkAll ds ≤ 1048576 := of_decide_eq_true hk
theorem upto_slice {H : Type} {ds e s : List (DataW H)} (hk : Rows.uptoSmall H ds = true) (h : DataW.slice e s ∈ ds) : e.length ≤ 1048576 := by
  have h1 := upto_all hk
  have h2 := bulk_mem h
  have h3 := bulk_len e
  simp only [Rows.uptoBulk] at h2
  omega
theorem upto_text {H : Type} {ds : List (DataW H)} {l : List UInt8} (hk : Rows.uptoSmall H ds = true) (h : DataW.lit (.string l) ∈ ds) : l.length ≤ 1048576 := by
  have h1 := upto_all hk
  have h2 := bulk_mem h
  simp only [Rows.uptoBulk] at h2
  omega
theorem upto_num {H : Type} {ds : List (DataW H)} {a : DataW H} {l k : List UInt8} (hk : Rows.uptoSmall H ds = true) (h : DataW.agg [a, .lit (.string l), .lit (.string k)] ∈ ds) : l.length ≤ 1048576 ∧ k.length ≤ 1048576 := by
  have h1 := upto_all hk
  have h2 := bulk_mem h
  simp only [Rows.uptoBulk, Rows.uptoBulkAll] at h2
  omega
theorem foAt_ofB {H : Type} {w : World} {b : Nat} (ds : List (DataW H)) : ∀ off, (∀ j (hj : j < ds.length), ∃ k f s v kids, s.size ≤ maxLen ∧ w.cell? ⟨b, off + j * 4, none⟩ = some (.int .i64 k) ∧ w.cell? ⟨b, off + j * 4 + 1, none⟩ = some (.int .i64 f) ∧ w.cell? ⟨b, off + j * 4 + 2, none⟩ = some (.string s) ∧ w.cell? ⟨b, off + j * 4 + 3, none⟩ = some v ∧ FoS w v kids ∧ s.size + 1 + FoSz kids ≤ Rows.uptoBulk ds[j]) →
    ∃ L : Fo, L.len = ds.length ∧ FoAt w L b off ∧ FoSz L ≤ Rows.uptoBulkAll ds := by
  induction ds with
  | nil => intro off _; exact ⟨.nil, rfl, trivial, by simp [FoSz]⟩
  | cons d ds ih =>
    intro off h
    obtain ⟨k, f, s, v, kids, hs, c0, c1, c2, c3, ⟨a, cap, rfl, h1, h2, h3, h4⟩, hbd⟩ := h 0 (by simp)
    obtain ⟨L, hL, hat, hLb⟩ := ih (off + 4) (fun j hj => by
      have := h (j + 1) (by simpa using hj)
      rw [show off + (j + 1) * 4 = off + 4 + j * 4 by omega] at this
      simpa using this)
    simp only [Nat.zero_mul, Nat.add_zero] at c0 c1 c2 c3
    simp only [List.getElem_cons_zero] at hbd
    exact ⟨.cons k f s kids L, by simp [Fo.len, hL], ⟨⟨hs, c0, c1, c2, a, cap, c3, h1, h2, h3, h4⟩, hat⟩, by simp only [FoSz, Rows.uptoBulkAll]; omega⟩
set_option maxRecDepth 100000 in
theorem open_doc_b {H : Type} {enc : TypeId × Value → H} {W : World} : ∀ (fuel : Nat) (cs : List Value) (x : DataW H × List MemPlace),
    DataW.trod enc Try.prog W 0 (fun _ => true) true fuel 24 cs = some x → ∃ k f s v L, cs = [.int .i64 k, .int .i64 f, .string s, v] ∧ s.size ≤ maxLen ∧ FoS W v L ∧ s.size + 1 + FoSz L ≤ Rows.uptoBulk x.1 := by
  intro fuel
  induction fuel using Nat.strongRecOn with
  | _ fuel ih =>
    intro cs x h
    have ce : Try.prog.cellsOf 24 = 4 := by kernel_rfl
    obtain ⟨xs, n', hfu, hxx, hcl, hxl, hfl⟩ := DataW.trod_struct Try.underlying24 h
    rw [ce] at hcl
    have got : ∀ (j : Nat) (f : Field), (match Try.prog.underlying 24 with | some (.struct fs) => fs[j]? | _ => none) = some f → ∃ y, xs[j]? = some y ∧ DataW.trod enc Try.prog W 0 (fun _ => true) true n' f.type ((cs.drop f.offset).take (Try.prog.cellsOf f.type)) = some y := by
      intro j f hf
      have h1 := hfl j f (by rw [Try.underlying24] at hf; exact hf)
      rw [h1]
      have hj : j < xs.length := by
        rw [Try.underlying24] at hf
        have := (Array.getElem?_eq_some_iff.1 hf).1
        omega
      exact ⟨_, List.getElem?_eq_getElem hj, List.getElem?_eq_getElem hj⟩
    have one : ∀ (j : Nat) (hj : j < 4) (f : Field), f.offset = j → Try.prog.cellsOf f.type = 1 → (∃ y, xs[j]? = some y ∧ DataW.trod enc Try.prog W 0 (fun _ => true) true n' f.type ((cs.drop f.offset).take (Try.prog.cellsOf f.type)) = some y) → ∃ y, xs[j]? = some y ∧ DataW.trod enc Try.prog W 0 (fun _ => true) true n' f.type [cs[j]'(by omega)] = some y := by
      intro j hj f h1 h2 ⟨y, hxy, hy⟩
      rw [h1, h2, show (cs.drop j).take 1 = [cs[j]'(by omega)] by rw [List.drop_eq_getElem_cons (by omega)]; rfl] at hy
      exact ⟨y, hxy, hy⟩
    obtain ⟨y0, x0, e0⟩ := one 0 (by omega) _ rfl (by kernel_rfl) (got 0 _ (by rw [Try.underlying24]; rfl))
    obtain ⟨y1, x1, e1⟩ := one 1 (by omega) _ rfl (by kernel_rfl) (got 1 _ (by rw [Try.underlying24]; rfl))
    obtain ⟨y2, x2, e2⟩ := one 2 (by omega) _ rfl (by kernel_rfl) (got 2 _ (by rw [Try.underlying24]; rfl))
    obtain ⟨y3, x3, e3⟩ := one 3 (by omega) _ rfl (by kernel_rfl) (got 3 _ (by rw [Try.underlying24]; rfl))
    obtain ⟨k, hk, _⟩ := DataW.trod_int Try.underlying3 e0
    obtain ⟨f, hf, _⟩ := DataW.trod_int Try.underlying3 e1
    obtain ⟨s, hs, hy2, hsz⟩ := DataW.trod_string Try.underlying9 e2
    simp only [List.cons.injEq, and_true] at hk hf hs
    refine ⟨k, f, s, cs[3]'(by omega), ?_⟩
    have hcs : cs = [.int .i64 k, .int .i64 f, .string s, cs[3]'(by omega)] := by
      apply List.ext_getElem (by simpa using hcl)
      intro i h1 h2
      match i, h2 with
      | 0, _ => exact hk
      | 1, _ => exact hf
      | 2, _ => exact hs
      | 3, _ => rfl
    have hx4 : xs.length = 4 := hxl
    have hbk : Rows.uptoBulk x.1 = Rows.uptoBulk y0.1 + (Rows.uptoBulk y1.1 + (Rows.uptoBulk y2.1 + (Rows.uptoBulk y3.1 + 0))) + 1 := by
      have e : xs = [y0, y1, y2, y3] := by
        apply List.ext_getElem? ; intro i
        rcases (show i = 0 ∨ i = 1 ∨ i = 2 ∨ i = 3 ∨ 4 ≤ i by omega) with rfl | rfl | rfl | rfl | h
        · exact x0
        · exact x1
        · exact x2
        · exact x3
        · rw [List.getElem?_eq_none (by omega), List.getElem?_eq_none (by simp; omega)]
      rw [hxx, e]
      simp only [Rows.uptoBulk, List.map_cons, List.map_nil, Rows.uptoBulkAll]
    have hb2 : Rows.uptoBulk y2.1 = s.size + 1 := by
      rw [hy2]; simp only [Rows.uptoBulk]
      have : s.data.toList.length = s.size := Array.length_toList
      omega
    suffices hS : ∃ L, FoS W (cs[3]'(by omega)) L ∧ FoSz L ≤ Rows.uptoBulk y3.1 by
      obtain ⟨L, hL, hLb⟩ := hS
      exact ⟨L, hcs, hsz, hL, by omega⟩
    rcases DataW.trod_slice Try.underlying22 e3 with ⟨h0, _⟩ | ⟨a, len, cap, elems, rest, n, hn, h0, hyy, _, hl, hm, hlen, hel, _⟩
    · simp only [List.cons.injEq, and_true] at h0
      rw [h0]
      exact ⟨.nil, ⟨none, 0, rfl, Nat.le_refl _, by decide, fun _ => rfl, fun h => by simp [Fo.len] at h⟩, by simp [FoSz]⟩
    · simp only [List.cons.injEq, and_true] at h0
      rw [h0]
      have hby : Rows.uptoBulkAll (elems.map (·.1)) ≤ Rows.uptoBulk y3.1 := by
        rw [hyy]; simp only [Rows.uptoBulk]; omega
      have each : ∀ j (hj : j < len), ∃ k f s v kids, s.size ≤ maxLen ∧ FoS W v kids ∧ s.size + 1 + FoSz kids ≤ Rows.uptoBulk (elems[j]'(by omega)).1 ∧ ∀ i u, [Value.int .i64 k, .int .i64 f, .string s, v][i]? = some u → W.cell? (a.add (j * 4 + i)) = some u := by
        intro j hj
        have := hel j hj
        rw [List.getElem?_eq_getElem (by omega)] at this
        obtain ⟨cs', h1, h2⟩ := Option.bind_eq_some_iff.1 this
        obtain ⟨k, f, s, v, L, rfl, hs, hL, hLb⟩ := ih n (by omega) cs' _ h2
        rw [ce] at h1
        obtain ⟨_, hcl', hat⟩ := World.cells?_some h1
        refine ⟨k, f, s, v, L, hs, hL, hLb, fun i u hu => ?_⟩
        have hi : i < 4 := by have := (List.getElem?_eq_some_iff.1 hu).1; simpa using this
        rw [← Go.Deep.add_add, hat i hi]
        exact hu
      rcases Nat.eq_zero_or_pos len with hz | hz
      · subst hz
        exact ⟨.nil, ⟨_, cap, rfl, Nat.zero_le _, hm, by simp, fun h => by simp [Fo.len] at h⟩, by simp [FoSz]⟩
      · obtain ⟨k, f', s', v, kids, _, _, _, c0⟩ := each 0 hz
        have c0 := c0 0 _ rfl
        obtain ⟨b, off, sp⟩ := a
        have hs2 : sp = none := by
          cases sp with
          | none => rfl
          | some s => exfalso; revert c0; simp [Addr.add, World.cell?]; cases W.heap[b]? with
            | none => simp
            | some o => cases o <;> simp
        subst hs2
        have hb : b < W.heap.size := by
          have := World.block_lt_of_cell? W _ c0
          rw [Go.WideShapes.add_plain] at this
          exact this
        obtain ⟨L, hL, hat, hLb⟩ := foAt_ofB (w := W) (b := b) (elems.map (·.1)) off (fun j hj => by
          rw [List.length_map] at hj
          obtain ⟨k, f, s, v, kids, hs, hv, hbd, hc⟩ := each j (by omega)
          refine ⟨k, f, s, v, kids, hs, ?_, ?_, ?_, ?_, hv, by rw [List.getElem_map]; exact hbd⟩
          · have := hc 0 _ rfl; rw [Go.WideShapes.add_plain] at this; exact this
          · have := hc 1 _ rfl; rw [Go.WideShapes.add_plain] at this; rwa [← Nat.add_assoc] at this
          · have := hc 2 _ rfl; rw [Go.WideShapes.add_plain] at this; rwa [← Nat.add_assoc] at this
          · have := hc 3 _ rfl; rw [Go.WideShapes.add_plain] at this; rwa [← Nat.add_assoc] at this)
        rw [List.length_map, hlen] at hL
        subst hL
        exact ⟨L, ⟨_, cap, rfl, hl, hm, by simp, fun _ => ⟨b, off, rfl, hb, hat⟩⟩, by omega⟩
theorem rnest_all (k0 f0 : Int) (s0 : ByteArray) (v0 : Value) (L0 : Fo) (i : Int) (w : World) (hv0 : FoS w v0 L0) (hsz : s0.size + 1 + FoSz L0 ≤ 1048576) :
    Calls Try.prog 9 #[.agg (dv k0 f0 s0 v0), .int .i64 i] w fun e w' => e = .returned (.bool true) ∧ Below w.heap.size w w' :=
  rnest_walk pieces_any alive_c k0 f0 s0 v0 L0 i w hv0 hsz
end Go.Proofs.Ytehofomfblfhaaa
