/- Documents of any shape: without new lines. -/
import Derived.Test.YtghkhammobodgaaTRight2
namespace Go.Proofs.Ytghkhammobodgaa
open Go.RowKit
set_option linter.unusedVariables false
set_option linter.unusedSimpArgs false

def FoSz : Fo → Nat
  | .nil => 0
  | .cons _ _ s kids rest => s.size + 1 + FoSz kids + FoSz rest
/-- What appending a list's text gives: the text (up to a hard line), and whether there was none. -/
def flatF : Fo → List UInt8 × Bool
  | .nil => ([], true)
  | .cons k f s kids rest =>
    let x := if k = 1 then (s.data.toList, true) else if k = 2 then ([32], true) else if k = 4 then ([], false) else flatF kids
    if x.2 = true then (x.1 ++ (flatF rest).1, (flatF rest).2) else (x.1, false)
def flatD (k : Int) (s : ByteArray) (kids : Fo) : List UInt8 × Bool :=
  if k = 1 then (s.data.toList, true) else if k = 2 then ([32], true) else if k = 4 then ([], false) else flatF kids
theorem flatF_cons (k f : Int) (s : ByteArray) (kids rest : Fo) : flatF (.cons k f s kids rest) = if (flatD k s kids).2 = true then ((flatD k s kids).1 ++ (flatF rest).1, (flatF rest).2) else ((flatD k s kids).1, false) := rfl
theorem flatF_len (L : Fo) : (flatF L).1.length ≤ FoSz L := by
  induction L with
  | nil => simp [flatF]
  | cons k f s kids rest ih1 ih2 =>
    have h : (flatD k s kids).1.length ≤ s.size + 1 + FoSz kids := by
      unfold flatD
      split
      · simp; omega
      · split
        · simp; omega
        · split
          · simp
          · omega
    rw [flatF_cons]
    simp only [FoSz]
    split
    · simp; omega
    · simp; omega
theorem flatD_len (k : Int) (s : ByteArray) (kids : Fo) : (flatD k s kids).1.length ≤ s.size + 1 + FoSz kids := by
  have := flatF_len kids
  unfold flatD
  split
  · simp; omega
  · split
    · simp; omega
    · split
      · simp
      · omega
/-- append of a text onto bytes of the call's own; no block but the row's own changes. -/
theorem wpl_append_strG {w : World} {ops : Array Oper} {rest : List Oper} {o : Oper} {a : Act} {Q : Exit → Act → World → Prop} (hgd : o.guard = none) (s x : Operand)
    (ho : o.op = .call { callee := .builtin .append, args := #[s, x], argTypes := #[52, 9] })
    (B : Nat) (v : Value) (l k t : List UInt8) (S : ByteArray) (hS : bytes k = S) (hs : a.eval s = v) (hown : OwnB B w v l) (hx : a.eval x = .string S)
    (hlen : l.length + k.length ≤ 4294967296) (hB : B ≤ w.heap.size) (ht : l ++ k = t)
    (h : ∀ v' w', OwnB B w' v' t → Below B w w' → (∀ j, j < w.heap.size → some j ≠ v.ownBlock → w'.heap[j]? = w.heap[j]?) → wpList Try.prog ops Q rest (a.put o.dst v') w') : wpList Try.prog ops Q (o :: rest) a w := by
  subst ht
  subst hS
  obtain ⟨i0, hi, hz0, hz1, hz2⟩ := info_parts infoB
  have hlt := World.ownsRow.lt hown
  have hsz : (bytes k).size = k.length := bytes_size k
  refine Lib.wpList_append_own_string _ hgd s x 52 9 ho B 5 i0 Try.underlying52 Try.underlying9 hi hz0 hz1 hz2 v l.length (bcells l) hs hown (bytes k) hx (by rw [hsz]; unfold maxLen; omega) (by rw [hsz]; omega) hB ?_
  intro v' w' hown' hg _
  refine h v' w' ?_ ((Below.refl B w).grown hg hB (fun j hj => (hlt j hj).1)) (fun j h1 h2 => hg.block j h1 h2)
  have e : Lib.strCells (bytes k) = bcells k := by simp [Lib.strCells, bcells, bytes_list]
  rw [e, hsz, ← bcells_append, ← List.length_append] at hown'
  exact hown'
theorem wpl_appendT {w : World} {ops : Array Oper} {rest : List Oper} {o : Oper} {a : Act} {Q : Exit → Act → World → Prop} (hgd : o.guard = none) (s x : Operand)
    (ho : o.op = .call { callee := .builtin .append, args := #[s, x], argTypes := #[52, 52] })
    (B : Nat) (v u : Value) (l k t : List UInt8) (hs : a.eval s = v) (hown : OwnB B w v l) (hx : a.eval x = u) (hu : Bs w u k) (hz : ∀ n c, u = .slice none n c → c = 0)
    (hlen : l.length + k.length ≤ 4294967296) (hB : B ≤ w.heap.size) (ht : l ++ k = t)
    (h : ∀ v' w', OwnB B w' v' t → Below B w w' → (∀ j, j < w.heap.size → some j ≠ v.ownBlock → w'.heap[j]? = w.heap[j]?) → wpList Try.prog ops Q rest (a.put o.dst v') w') : wpList Try.prog ops Q (o :: rest) a w := by
  subst ht
  obtain ⟨i0, hi, hz0, hz1, hz2⟩ := info_parts infoB
  obtain ⟨ad, cap, rfl, h1, h2, h3⟩ := hu
  have hlt := World.ownsRow.lt hown
  cases ad with
  | none =>
    have h0 : k = [] := by
      cases k with
      | nil => rfl
      | cons c k => obtain ⟨b, off, h, _⟩ := h3 (by simp); exact absurd h (by simp)
    subst h0
    obtain rfl := hz _ _ rfl
    refine wpList_append_own_none hgd s x 52 ho B 5 i0 1 Try.underlying52 hi v l.length (bcells l) hs hown hx ?_
    exact h v w (by simpa using hown) (Below.refl _ _) (fun _ _ _ => rfl)
  | some ad =>
    have hcs : ∀ j c, (bcells k)[j]? = some c → w.cell? (ad.add j) = some c := by
      intro j c hj
      have h0 : 0 < k.length := by
        have := (List.getElem?_eq_some_iff.1 hj).1
        simp [bcells] at this; omega
      obtain ⟨b, off, hab, _, hc⟩ := h3 h0
      obtain rfl : ad = ⟨b, off, none⟩ := by simpa using hab
      exact bs_cells hc j c hj
    refine wpList_append_own _ hgd s x 52 ho B 5 i0 (.int .u8 0) 1 1 Try.underlying52 hi hz0 hz1 hz2 rfl (by decide) v l.length (bcells l) hs hown ad k.length cap (bcells k) hx (by simp [bcells]) hcs one_oneCell (by unfold maxLen; omega) (by omega) hB ?_
    intro v' w' hown' hg _
    refine h v' w' ?_ ((Below.refl B w).grown hg hB (fun j hj => (hlt j hj).1)) (fun j h1 h2 => hg.block j h1 h2)
    rw [← bcells_append, ← List.length_append] at hown'
    exact hown'
/-- Every block of documents stands. -/
def DocsStand (w w' : World) : Prop := ∀ (j : Nat) (cs : Array Value) (r : Nat × Nat), w.heap[j]? = some (Obj.cells cs 24 r) → w'.heap[j]? = some (Obj.cells cs 24 r)
theorem DocsStand.trans {a b c : World} (h : DocsStand a b) (k : DocsStand b c) : DocsStand a c := fun j cs r e => k j cs r (h j cs r e)
theorem own_ne {B : Nat} {w : World} {v : Value} {l : List UInt8} (h : OwnB B w v l) {j : Nat} {cs : Array Value} {r : Nat × Nat} (e : w.heap[j]? = some (Obj.cells cs 24 r)) : some j ≠ v.ownBlock := by
  intro hj
  obtain ⟨_, ⟨rfl, _⟩ | ⟨g, cap, cur, rfl, _, hh, _⟩⟩ := h
  · simp [Value.ownBlock] at hj
  · simp [Value.ownBlock] at hj
    subst hj
    rw [hh] at e
    simp at e
theorem stand_of {B : Nat} {w w' : World} {v : Value} {l : List UInt8} (h : OwnB B w v l) (hf : ∀ j, j < w.heap.size → some j ≠ v.ownBlock → w'.heap[j]? = w.heap[j]?) : DocsStand w w' :=
  fun j cs r e => by rw [hf j (Array.getElem?_eq_some_iff.1 e).1 (own_ne h e)]; exact e
/-- What doc.appendFlat gives. -/
def AfD (B : Nat) (bv : Value) (w : World) (t : List UInt8) (ok : Bool) (e : Ending) (w' : World) : Prop := ∃ v', e = .returned (.tuple #[v', .bool ok]) ∧ OwnB B w' v' t ∧ Below B w w' ∧ DocsStand w w'
def FC (k f : Int) (s : ByteArray) (kids : Fo) : Prop :=
  ∀ (pre : List UInt8) (B : Nat) (bv v : Value) (W0 w : World), FoS W0 v kids → W0.heap.size ≤ B → Below W0.heap.size W0 w → OwnB B w bv pre → B ≤ w.heap.size → pre.length + (s.size + 1 + FoSz kids) ≤ 1000000 →
    Calls Try.prog 33 #[bv, .agg (dv k f s v)] w (AfD B bv w (pre ++ (flatD k s kids).1) (flatD k s kids).2)
set_option maxRecDepth 100000 in
set_option maxHeartbeats 2000000 in
theorem af_text (f : Int) (s : List UInt8) (a : Option Addr) (n c : Nat) (bv : Value) (pre : List UInt8) (B : Nat) (w : World) (ho : OwnB B w bv pre) (hB : B ≤ w.heap.size) (h1 : pre.length + s.length ≤ 1000000) :
    Calls Try.prog 33 #[bv, .agg (dv 1 f (bytes s) (.slice a n c))] w (AfD B bv w (pre ++ s) true) := by
  have b0 := Lib.hid ((Below.refl w.heap.size w).alloc (Nat.le_refl _) (.cells #[.int .i64 1, .int .i64 f, .string (bytes s), .slice a n c] 24))
  have HOW := Lib.hid ho
  have HO := Lib.hid (ho.keep b0.out)
  have z1 : B ≤ (w.alloc (.cells #[.int .i64 1, .int .i64 f, .string (bytes s), .slice a n c] 24)).heap.size := by simp; omega
  have Z1 := Lib.hid z1
  have HBB := Lib.hid hB
  clear ho z1 hB
  unfold dv
  go_enter Try.func33, Try.ntmps33
  go_wp2_with (at_builtin; refine wpl_append_strG rfl _ _ rfl B bv pre s (pre ++ s) (bytes s) rfl rfl HO.out rfl (by omega) Z1.out rfl ?_)
  intro v2 w2 ho2 hb2 hfr
  have hfin := (b0.out.mono HBB.out).trans hb2
  have hfr2 : ∀ j, j < w.heap.size → some j ≠ bv.ownBlock → w2.heap[j]? = w.heap[j]? := fun j h1 h2 => (hfr j (by first | omega | (simp; omega)) h2).trans (b0.out.block j h1)
  clear hb2 hfr
  go_wp2
  go_ret2
  exact ⟨_, rfl, ho2, hfin, stand_of HOW.out hfr2⟩
set_option maxRecDepth 100000 in
set_option maxHeartbeats 2000000 in
theorem af_space (f : Int) (S : ByteArray) (a : Option Addr) (n c : Nat) (bv : Value) (pre : List UInt8) (B : Nat) (w : World) (ho : OwnB B w bv pre) (hB : B ≤ w.heap.size) (h1 : pre.length + 1 ≤ 1000000) :
    Calls Try.prog 33 #[bv, .agg (dv 2 f S (.slice a n c))] w (AfD B bv w (pre ++ [32]) true) := by
  have b0 := Lib.hid ((Below.refl w.heap.size w).alloc (Nat.le_refl _) (.cells #[.int .i64 2, .int .i64 f, .string S, .slice a n c] 24))
  obtain ⟨W1, hW1⟩ : ∃ W, w.alloc (.cells #[.int .i64 2, .int .i64 f, .string S, .slice a n c] 24) = W := ⟨_, rfl⟩
  rw [hW1] at b0
  have c0 : W1.cell? ⟨w.heap.size, 0, none⟩ = some (.int .i64 2) := by rw [← hW1, World.cell?_alloc_at _ _ _ _ rfl]; rfl
  have HW1 := Lib.hid hW1
  have b1 := Lib.hid ((Below.refl W1.heap.size W1).alloc (Nat.le_refl _) (.cells #[.int .u8 32] 5))
  have HOW := Lib.hid ho
  have HO := Lib.hid ((ho.keep b0.out).keep b1.out)
  have Z0 := Lib.hid (show B ≤ W1.heap.size by have := b0.out.size; omega)
  have Z1 := Lib.hid (show B ≤ (W1.alloc (.cells #[.int .u8 32] 5)).heap.size by have := Z0.out; simp; omega)
  have HBB := Lib.hid hB
  clear ho hB hW1
  unfold dv
  go_enter Try.func33, Try.ntmps33
  go_upto_region 1 with fail
  rw [HW1.out]
  go_wp2_with (at_builtin; refine wpl_appendT rfl _ _ rfl B bv (.slice (some ⟨W1.heap.size, 0, none⟩) 1 1) pre [32] (pre ++ [32]) rfl HO.out rfl (one_sp W1) (by intro n c h; simp at h) (by simp; omega) Z1.out rfl ?_)
  intro v2 w2 ho2 hb2 hfr
  have hfin := (b0.out.mono HBB.out).trans ((b1.out.mono Z0.out).trans hb2)
  have hfr2 : ∀ j, j < w.heap.size → some j ≠ bv.ownBlock → w2.heap[j]? = w.heap[j]? := fun j h1 h2 => by
    have hz := b0.out.size
    exact (hfr j (by first | omega | (simp; omega)) h2).trans ((b1.out.block j (by omega)).trans (b0.out.block j h1))
  clear hb2 hfr
  go_wp2
  go_ret2
  exact ⟨_, rfl, ho2, hfin, stand_of HOW.out hfr2⟩
set_option maxRecDepth 100000 in
set_option maxHeartbeats 2000000 in
theorem af_hard (f : Int) (S : ByteArray) (a : Option Addr) (n c : Nat) (bv : Value) (pre : List UInt8) (B : Nat) (w : World) (ho : OwnB B w bv pre) (hB : B ≤ w.heap.size) :
    Calls Try.prog 33 #[bv, .agg (dv 4 f S (.slice a n c))] w (AfD B bv w pre false) := by
  have b0 := Lib.hid ((Below.refl w.heap.size w).alloc (Nat.le_refl _) (.cells #[.int .i64 4, .int .i64 f, .string S, .slice a n c] 24))
  have HOW := Lib.hid ho
  have HO := Lib.hid (ho.keep b0.out)
  have HBB := Lib.hid hB
  clear ho hB
  unfold dv
  go_enter Try.func33, Try.ntmps33
  go_wp2
  go_ret2
  exact ⟨_, rfl, HO.out, b0.out.mono HBB.out, stand_of HOW.out fun j h1 _ => b0.out.block j h1⟩
end Go.Proofs.Ytghkhammobodgaa
