/- Several texts of ours in one: TFlat TFlat2 TFlat3. -/
import Derived.Test.YtehofomfblfhaaaMgWR
import Derived.Test.YtehofomfblfhaaaTDoc4
import Derived.Deep.DeepCutAuto
/- Documents of any shape: without new lines. -/
namespace Go.Proofs.Ytehofomfblfhaaa
open Go.RowKit
set_option linter.unusedVariables false
set_option linter.unusedSimpArgs false

def FoSz : Fo → Nat
  | .nil => 0
  | .cons _ _ s kids rest => s.size + 1 + FoSz kids + FoSz rest
/-- What appending a list's text gives: the text (up to a hard line), and whether there was none. -/
def flatF : Fo → List UInt8 × Bool
  | .nil => ([], true)
  | .cons k f s kids rest =>
    let x := if k = 1 then (s.data.toList, true) else if k = 2 then ([32], true) else if k = 4 then ([], false) else flatF kids
    if x.2 = true then (x.1 ++ (flatF rest).1, (flatF rest).2) else (x.1, false)
def flatD (k : Int) (s : ByteArray) (kids : Fo) : List UInt8 × Bool :=
  if k = 1 then (s.data.toList, true) else if k = 2 then ([32], true) else if k = 4 then ([], false) else flatF kids
theorem flatF_cons (k f : Int) (s : ByteArray) (kids rest : Fo) : flatF (.cons k f s kids rest) = if (flatD k s kids).2 = true then ((flatD k s kids).1 ++ (flatF rest).1, (flatF rest).2) else ((flatD k s kids).1, false) := rfl
theorem flatF_len (L : Fo) : (flatF L).1.length ≤ FoSz L := by
  induction L with
  | nil => simp [flatF]
  | cons k f s kids rest ih1 ih2 =>
    have h : (flatD k s kids).1.length ≤ s.size + 1 + FoSz kids := by
      unfold flatD
      split
      · simp; omega
      · split
        · simp; omega
        · split
          · simp
          · omega
    rw [flatF_cons]
    simp only [FoSz]
    split
    · simp; omega
    · simp; omega
theorem flatD_len (k : Int) (s : ByteArray) (kids : Fo) : (flatD k s kids).1.length ≤ s.size + 1 + FoSz kids := by
  have := flatF_len kids
  unfold flatD
  split
  · simp; omega
  · split
    · simp; omega
    · split
      · simp
      · omega
/-- append of a text onto bytes of the call's own; no block but the row's own changes. -/
theorem wpl_append_strG {w : World} {ops : Array Oper} {rest : List Oper} {o : Oper} {a : Act} {Q : Exit → Act → World → Prop} (hgd : o.guard = none) (s x : Operand)
    (ho : o.op = .call { callee := .builtin .append, args := #[s, x], argTypes := #[69, 9] })
    (B : Nat) (v : Value) (l k t : List UInt8) (S : ByteArray) (hS : bytes k = S) (hs : a.eval s = v) (hown : OwnB B w v l) (hx : a.eval x = .string S)
    (hlen : l.length + k.length ≤ 4294967296) (hB : B ≤ w.heap.size) (ht : l ++ k = t)
    (h : ∀ v' w', OwnB B w' v' t → Below B w w' → (∀ j, j < w.heap.size → some j ≠ v.ownBlock → w'.heap[j]? = w.heap[j]?) → wpList Try.prog ops Q rest (a.put o.dst v') w') : wpList Try.prog ops Q (o :: rest) a w := by
  subst ht
  subst hS
  obtain ⟨i0, hi, hz0, hz1, hz2⟩ := info_parts infoB
  have hlt := World.ownsRow.lt hown
  have hsz : (bytes k).size = k.length := bytes_size k
  refine Lib.wpList_append_own_string _ hgd s x 69 9 ho B 5 i0 Try.underlying69 Try.underlying9 hi hz0 hz1 hz2 v l.length (bcells l) hs hown (bytes k) hx (by rw [hsz]; unfold maxLen; omega) (by rw [hsz]; omega) hB ?_
  intro v' w' hown' hg _
  refine h v' w' ?_ ((Below.refl B w).grown hg hB (fun j hj => (hlt j hj).1)) (fun j h1 h2 => hg.block j h1 h2)
  have e : Lib.strCells (bytes k) = bcells k := by simp [Lib.strCells, bcells, bytes_list]
  rw [e, hsz, ← bcells_append, ← List.length_append] at hown'
  exact hown'
theorem wpl_appendT {w : World} {ops : Array Oper} {rest : List Oper} {o : Oper} {a : Act} {Q : Exit → Act → World → Prop} (hgd : o.guard = none) (s x : Operand)
    (ho : o.op = .call { callee := .builtin .append, args := #[s, x], argTypes := #[69, 69] })
    (B : Nat) (v u : Value) (l k t : List UInt8) (hs : a.eval s = v) (hown : OwnB B w v l) (hx : a.eval x = u) (hu : Bs w u k) (hz : ∀ n c, u = .slice none n c → c = 0)
    (hlen : l.length + k.length ≤ 4294967296) (hB : B ≤ w.heap.size) (ht : l ++ k = t)
    (h : ∀ v' w', OwnB B w' v' t → Below B w w' → (∀ j, j < w.heap.size → some j ≠ v.ownBlock → w'.heap[j]? = w.heap[j]?) → wpList Try.prog ops Q rest (a.put o.dst v') w') : wpList Try.prog ops Q (o :: rest) a w := by
  subst ht
  obtain ⟨i0, hi, hz0, hz1, hz2⟩ := info_parts infoB
  obtain ⟨ad, cap, rfl, h1, h2, h3⟩ := hu
  have hlt := World.ownsRow.lt hown
  cases ad with
  | none =>
    have h0 : k = [] := by
      cases k with
      | nil => rfl
      | cons c k => obtain ⟨b, off, h, _⟩ := h3 (by simp); exact absurd h (by simp)
    subst h0
    obtain rfl := hz _ _ rfl
    refine wpList_append_own_none hgd s x 69 ho B 5 i0 1 Try.underlying69 hi v l.length (bcells l) hs hown hx ?_
    exact h v w (by simpa using hown) (Below.refl _ _) (fun _ _ _ => rfl)
  | some ad =>
    have hcs : ∀ j c, (bcells k)[j]? = some c → w.cell? (ad.add j) = some c := by
      intro j c hj
      have h0 : 0 < k.length := by
        have := (List.getElem?_eq_some_iff.1 hj).1
        simp [bcells] at this; omega
      obtain ⟨b, off, hab, _, hc⟩ := h3 h0
      obtain rfl : ad = ⟨b, off, none⟩ := by simpa using hab
      exact bs_cells hc j c hj
    refine wpList_append_own _ hgd s x 69 ho B 5 i0 (.int .u8 0) 1 1 Try.underlying69 hi hz0 hz1 hz2 rfl (by decide) v l.length (bcells l) hs hown ad k.length cap (bcells k) hx (by simp [bcells]) hcs one_oneCell (by unfold maxLen; omega) (by omega) hB ?_
    intro v' w' hown' hg _
    refine h v' w' ?_ ((Below.refl B w).grown hg hB (fun j hj => (hlt j hj).1)) (fun j h1 h2 => hg.block j h1 h2)
    rw [← bcells_append, ← List.length_append] at hown'
    exact hown'
/-- Every block of documents stands. -/
def DocsStand (w w' : World) : Prop := ∀ (j : Nat) (cs : Array Value) (r : Nat × Nat), w.heap[j]? = some (Obj.cells cs 24 r) → w'.heap[j]? = some (Obj.cells cs 24 r)
theorem DocsStand.trans {a b c : World} (h : DocsStand a b) (k : DocsStand b c) : DocsStand a c := fun j cs r e => k j cs r (h j cs r e)
theorem own_ne {B : Nat} {w : World} {v : Value} {l : List UInt8} (h : OwnB B w v l) {j : Nat} {cs : Array Value} {r : Nat × Nat} (e : w.heap[j]? = some (Obj.cells cs 24 r)) : some j ≠ v.ownBlock := by
  intro hj
  obtain ⟨_, ⟨rfl, _⟩ | ⟨g, cap, cur, rfl, _, hh, _⟩⟩ := h
  · simp [Value.ownBlock] at hj
  · simp [Value.ownBlock] at hj
    subst hj
    rw [hh] at e
    simp at e
theorem stand_of {B : Nat} {w w' : World} {v : Value} {l : List UInt8} (h : OwnB B w v l) (hf : ∀ j, j < w.heap.size → some j ≠ v.ownBlock → w'.heap[j]? = w.heap[j]?) : DocsStand w w' :=
  fun j cs r e => by rw [hf j (Array.getElem?_eq_some_iff.1 e).1 (own_ne h e)]; exact e
/-- What doc.appendFlat gives. -/
def AfD (B : Nat) (bv : Value) (w : World) (t : List UInt8) (ok : Bool) (e : Ending) (w' : World) : Prop := ∃ v', e = .returned (.tuple #[v', .bool ok]) ∧ OwnB B w' v' t ∧ Below B w w' ∧ DocsStand w w'
end Go.Proofs.Ytehofomfblfhaaa

/- Documents of any shape: without new lines, whole. -/
namespace Go.Proofs.Ytehofomfblfhaaa
open Go.RowKit
set_option linter.unusedVariables false
set_option linter.unusedSimpArgs false

/-- On the way through a list: what is behind, what is left. -/
def FlW (L R : Fo) (j : Nat) (acc : List UInt8) (okb : Bool) : Prop :=
  R.len + j = L.len ∧ (∀ i, R.at? i = L.at? (j + i)) ∧ acc.length + FoSz R ≤ FoSz L ∧ flatF L = if okb = true then (acc ++ (flatF R).1, (flatF R).2) else (acc, false)
theorem FlW.go {L rest kids : Fo} {k f : Int} {s : ByteArray} {j : Nat} {acc : List UInt8} (h : FlW L (.cons k f s kids rest) j acc true) :
    FlW L rest (j + 1) (acc ++ (flatD k s kids).1) (flatD k s kids).2 ∧ L.at? j = some (k, f, s, kids) ∧ acc.length + (s.size + 1 + FoSz kids) ≤ FoSz L := by
  obtain ⟨h1, h2, h3, h4⟩ := h
  have hl := flatD_len k s kids
  simp only [Fo.len, FoSz] at h1 h3
  refine ⟨⟨by omega, fun i => ?_, by rw [List.length_append]; omega, ?_⟩, ?_, by omega⟩
  · have := h2 (i + 1)
    rw [show j + (i + 1) = j + 1 + i by omega] at this
    exact this
  · rw [h4, flatF_cons, if_pos rfl]
    cases hb : (flatD k s kids).2 with
    | true => simp
    | false => simp
  · have := h2 0; exact this.symm
end Go.Proofs.Ytehofomfblfhaaa

/- doc.Right and doc.Flat of any document. -/
namespace Go.Proofs.Ytehofomfblfhaaa
open Go.RowKit
set_option linter.unusedVariables false
set_option linter.unusedSimpArgs false

set_option maxRecDepth 100000 in
set_option maxHeartbeats 2000000 in
theorem rightT_any (k f : Int) (s : ByteArray) (kids : Fo) (v : Value) (w : World) (hv : FoS w v kids) :
    Calls Try.prog 24 #[.agg (dv k f s v)] w fun e w' => e = .returned (.bool (rightD k f s kids 200)) ∧ Below w.heap.size w w' := by
  have hv' := hv
  obtain ⟨a, c, rfl⟩ := hv.slice
  have b0 := Lib.hid ((Below.refl w.heap.size w).alloc (Nat.le_refl _) (.cells #[.int .i64 k, .int .i64 f, .string s, .slice a kids.len c] 24))
  have R := Lib.hid (rc_any k f s kids 200 _ _ (by decide) (hv'.keep b0.out))
  obtain ⟨n, hn⟩ : ∃ n, kids.len = n := ⟨_, rfl⟩
  rw [hn] at R b0 ⊢
  generalize rightD k f s kids 200 = ans at R ⊢
  clear hv hv' hn
  unfold dv at R ⊢
  go_enter Try.func24, Try.ntmps24
  go_wp2_with fail
  refine (R.out).mono ?_
  rintro e w1 ⟨rfl, hb1⟩
  have hfin := b0.out.trans (hb1.mono b0.out.size)
  clear hb1
  go_wp2
  go_ret
  exact ⟨rfl, hfin⟩
/-- What doc.Flat gives. -/
def flatV (k f : Int) (s : ByteArray) (kids : Fo) : Value :=
  if rightD k f s kids 200 = true ∧ (flatD k s kids).2 = true then .tuple #[.string (bytes (flatD k s kids).1), .bool true] else .tuple #[.string ⟨#[]⟩, .bool false]
end Go.Proofs.Ytehofomfblfhaaa
