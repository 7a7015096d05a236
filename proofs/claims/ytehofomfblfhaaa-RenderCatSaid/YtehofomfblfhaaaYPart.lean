/- Layouts: what render.measure knows of a document, and how it lies in memory. -/
import Derived.Test.YtehofomfblfhaaaYBeh
import Derived.Test.YtehofomfblfhaaaYStr
import Derived.Test.YtehofomfblfhaaaVAppG
namespace Go.Proofs.Ytehofomfblfhaaa
open Go.RowKit
set_option linter.unusedVariables false
set_option linter.unusedSimpArgs false

/-- The text without line breaks, hard ones left out. -/
def allF : Fo → List UInt8
  | .nil => []
  | .cons k _ s kids rest => (if k = 1 then s.data.toList else if k = 2 then [32] else if k = 4 then [] else allF kids) ++ allF rest
def allD (k : Int) (s : ByteArray) (kids : Fo) : List UInt8 := if k = 1 then s.data.toList else if k = 2 then [32] else if k = 4 then [] else allF kids
theorem allF_cons (k f : Int) (s : ByteArray) (kids rest : Fo) : allF (.cons k f s kids rest) = allD k s kids ++ allF rest := rfl
/-- Is a hard one in it? -/
def hardF : Fo → Bool
  | .nil => false
  | .cons k _ _ kids rest => (if k = 1 then false else if k = 2 then false else if k = 4 then true else hardF kids) || hardF rest
def hardD (k : Int) (kids : Fo) : Bool := if k = 1 then false else if k = 2 then false else if k = 4 then true else hardF kids
theorem hardF_cons (k f : Int) (s : ByteArray) (kids rest : Fo) : hardF (.cons k f s kids rest) = (hardD k kids || hardF rest) := rfl
theorem flatF_all (L : Fo) : (flatF L).2 = !hardF L ∧ (hardF L = false → (flatF L).1 = allF L) := by
  induction L with
  | nil => exact ⟨rfl, fun _ => rfl⟩
  | cons k f s kids rest ih1 ih2 =>
    have hd : (flatD k s kids).2 = !hardD k kids ∧ (hardD k kids = false → (flatD k s kids).1 = allD k s kids) := by
      unfold flatD hardD allD
      by_cases h1 : k = 1
      · simp [h1]
      · by_cases h2 : k = 2
        · simp [h2]
        · by_cases h4 : k = 4
          · simp [h4]
          · simp only [if_neg h1, if_neg h2, if_neg h4]
            exact ih1
    rw [flatF_cons, hardF_cons, allF_cons, hd.1]
    cases h : hardD k kids with
    | true => simp
    | false =>
      simp only [Bool.not_false, if_true, Bool.false_or]
      exact ⟨ih2.1, fun h2 => by rw [hd.2 h, ih2.2 h2]⟩
theorem flatD_all (k : Int) (s : ByteArray) (kids : Fo) : (flatD k s kids).2 = !hardD k kids ∧ (hardD k kids = false → (flatD k s kids).1 = allD k s kids) := by
  unfold flatD hardD allD
  by_cases h1 : k = 1
  · simp [h1]
  · by_cases h2 : k = 2
    · simp [h2]
    · by_cases h4 : k = 4
      · simp [h4]
      · simp only [if_neg h1, if_neg h2, if_neg h4]
        exact flatF_all kids
theorem allF_len (L : Fo) : (allF L).length ≤ FoSz L := by
  induction L with
  | nil => simp [allF]
  | cons k f s kids rest ih1 ih2 =>
    rw [allF_cons, List.length_append]
    simp only [FoSz]
    have : (allD k s kids).length ≤ s.size + 1 + FoSz kids := by
      have e : s.data.toList.length = s.size := Array.length_toList
      unfold allD
      repeat' split
      all_goals (try simp only [List.length_cons, List.length_nil])
      all_goals omega
    omega
theorem allD_len (k : Int) (s : ByteArray) (kids : Fo) : (allD k s kids).length ≤ s.size + 1 + FoSz kids := by
  have h := allF_len kids
  have e : s.data.toList.length = s.size := Array.length_toList
  unfold allD
  repeat' split
  all_goals (try simp only [List.length_cons, List.length_nil])
  all_goals omega
/-- A text's width and its ends. -/
def strV (l : List UInt8) : List Value := [.int .i64 (M.wl l : Int), .string (bytes (M.hd3 l)), .string (bytes (M.tl3 l))]
/-- A part's eleven cells. -/
def pcs (k f : Int) (s : ByteArray) (xd vk : Value) (l : List UInt8) (h : Bool) (lb : Nat × Bool) : List Value := [.int .i64 k, .int .i64 f, .string s, xd, vk, .int .i64 (M.wl l : Int), .string (bytes (M.hd3 l)), .string (bytes (M.tl3 l)), .bool h, .int .i64 (lb.1 : Int), .bool lb.2]
/-- A slice that holds these, in a block of some kind. -/
def VsP (P : Nat → Prop) (sz : Nat) (w : World) (v : Value) (l : List (List Value)) : Prop := Vs sz w v l ∧ ∀ b off n c, v = .slice (some ⟨b, off, none⟩) n c → 0 < n → P b
theorem Vs.frameP {sz : Nat} {w w' : World} {v : Value} {l : List (List Value)} (h : Vs sz w v l) (hf : ∀ b off n c, v = .slice (some ⟨b, off, none⟩) n c → 0 < n → w'.heap[b]? = w.heap[b]?) : Vs sz w' v l := by
  obtain ⟨a, cap, rfl, h1, h2, h3⟩ := h
  refine ⟨a, cap, rfl, h1, h2, fun h0 => ?_⟩
  obtain ⟨b, off, rfl, hlt, hc⟩ := h3 h0
  have e := hf b off _ _ rfl h0
  refine ⟨b, off, rfl, ?_, fun j hj i u hu => (cell_sameT e).trans (hc j hj i u hu)⟩
  rw [Array.getElem?_eq_getElem hlt] at e
  exact (Array.getElem?_eq_some_iff.1 e).1
theorem VsP.frame {P : Nat → Prop} {sz : Nat} {w w' : World} {v : Value} {l : List (List Value)} (h : VsP P sz w v l) (hf : ∀ b, P b → w'.heap[b]? = w.heap[b]?) : VsP P sz w' v l :=
  ⟨h.1.frameP fun b off n c e h0 => hf b (h.2 b off n c e h0), h.2⟩
/-- It is a slice. -/
def SlV (v : Value) : Prop := ∃ a n c, v = .slice a n c
theorem SlV.one {v : Value} (h : SlV v) : v.oneCell' = true := by obtain ⟨a, n, c, rfl⟩ := h; rfl
/-- A document's part in memory, all of it in blocks of some kind. -/
inductive PaC (P : Nat → Prop) (w : World) : Int → Int → ByteArray → Fo → List Value → Prop where
  | mk (k f : Int) (s : ByteArray) (kids : Fo) (xd vk : Value) (lk : List (List Value)) (hs : s.size ≤ maxLen) (hx : SlV xd) (hv : VsP P 11 w vk lk) (hl : lk.length = kids.len)
      (hk : ∀ (j : Nat) (hj : j < lk.length) k' f' s' kids', kids.at? j = some (k', f', s', kids') → PaC P w k' f' s' kids' lk[j]) :
      PaC P w k f s kids (pcs k f s xd vk (allD k s kids) (hardD k kids) (lbD k s kids))
theorem PaC.keep {P : Nat → Prop} {w w' : World} {k f : Int} {s : ByteArray} {kids : Fo} {y : List Value} (h : PaC P w k f s kids y) (hf : ∀ b, P b → w'.heap[b]? = w.heap[b]?) : PaC P w' k f s kids y := by
  induction h with
  | mk k f s kids xd vk lk hs hx hv hl _ ih => exact .mk k f s kids xd vk lk hs hx (hv.frame hf) hl ih
theorem PaC.mono {P Q : Nat → Prop} {w : World} {k f : Int} {s : ByteArray} {kids : Fo} {y : List Value} (h : PaC P w k f s kids y) (hf : ∀ b, P b → Q b) : PaC Q w k f s kids y := by
  induction h with
  | mk k f s kids xd vk lk hs hx hv hl _ ih => exact .mk k f s kids xd vk lk hs hx ⟨hv.1, fun b off n c e h0 => hf b (hv.2 b off n c e h0)⟩ hl ih
theorem PaC.len {P : Nat → Prop} {w : World} {k f : Int} {s : ByteArray} {kids : Fo} {y : List Value} (h : PaC P w k f s kids y) : y.length = 11 := by
  cases h; rfl
theorem PaC.ones {P : Nat → Prop} {w : World} {k f : Int} {s : ByteArray} {kids : Fo} {y : List Value} (h : PaC P w k f s kids y) : ∀ c ∈ y, c.oneCell' = true := by
  cases h with
  | mk _ _ _ _ xd vk lk hs hx hv hl hk =>
    obtain ⟨a, cap, rfl, -⟩ := hv.1
    intro c hc
    simp only [pcs, List.mem_cons, List.mem_nil_iff, or_false] at hc
    rcases hc with rfl | rfl | rfl | rfl | rfl | rfl | rfl | rfl | rfl | rfl | rfl
    all_goals first | rfl | exact hx.one
/-- On the way through the kids. -/
structure MsW (P : Nat → Prop) (w : World) (L rest : Fo) (j : Nat) (lk : List (List Value)) (acc : List UInt8) (hd : Bool) (lb : Nat × Bool) : Prop where
  len : rest.len + j = L.len
  at_ : ∀ i, rest.at? i = L.at? (j + i)
  lks : lk.length = j
  txt : acc ++ allF rest = allF L
  hrd : (hd || hardF rest) = hardF L
  led : comb lb (lbF rest) = lbF L
  kin : ∀ (i : Nat) (hi : i < lk.length) k' f' s' kids', L.at? i = some (k', f', s', kids') → PaC P w k' f' s' kids' lk[i]
theorem MsW.start (P : Nat → Prop) (w : World) (L : Fo) : MsW P w L L 0 [] [] false (0, false) :=
  ⟨by omega, fun i => by rw [Nat.zero_add], rfl, rfl, rfl, by simp [comb], fun i hi => by simp at hi⟩
theorem MsW.go {P Q : Nat → Prop} {w w' : World} {L rest kids : Fo} {k f : Int} {s : ByteArray} {j : Nat} {lk : List (List Value)} {acc : List UInt8} {hd : Bool} {lb : Nat × Bool} {y : List Value}
    (h : MsW P w L (.cons k f s kids rest) j lk acc hd lb) (hf : ∀ b, P b → w'.heap[b]? = w.heap[b]?) (hq : ∀ b, P b → Q b) (hy : PaC Q w' k f s kids y) :
    MsW Q w' L rest (j + 1) (lk ++ [y]) (acc ++ allD k s kids) (hd || hardD k kids) (comb lb (lbD k s kids)) := by
  obtain ⟨h1, h2, h3, h4, h5, h6, h7⟩ := h
  have h20 := h2 0
  simp only [Fo.len] at h1
  refine ⟨by omega, fun i => ?_, by simp [h3], ?_, ?_, ?_, fun i hi k' f' s' kids' hat => ?_⟩
  · have := h2 (i + 1)
    rw [show j + (i + 1) = j + 1 + i by omega] at this
    exact this
  · rw [← h4, allF_cons, List.append_assoc]
  · rw [← h5, hardF_cons, Bool.or_assoc]
  · rw [← h6, lbF_cons, comb_assoc]
  · by_cases hij : i < lk.length
    · rw [List.getElem_append_left hij]
      exact ((h7 i hij k' f' s' kids' hat).keep hf).mono hq
    · obtain rfl : i = j := by simp at hi; omega
      rw [Nat.add_zero] at h20
      rw [← h20] at hat
      simp only [Fo.at?, Option.some.injEq, Prod.mk.injEq] at hat
      obtain ⟨rfl, rfl, rfl, rfl⟩ := hat
      simp only [List.getElem_append_right (show lk.length ≤ i by omega), h3, Nat.sub_self, List.getElem_cons_zero]
      exact hy
theorem MsW.keep {P : Nat → Prop} {w w' : World} {L rest : Fo} {j : Nat} {lk : List (List Value)} {acc : List UInt8} {hd : Bool} {lb : Nat × Bool}
    (h : MsW P w L rest j lk acc hd lb) (hf : ∀ b, P b → w'.heap[b]? = w.heap[b]?) : MsW P w' L rest j lk acc hd lb :=
  ⟨h.len, h.at_, h.lks, h.txt, h.hrd, h.led, fun i hi k' f' s' kids' hat => (h.kin i hi k' f' s' kids' hat).keep hf⟩
theorem MsW.mono {P Q : Nat → Prop} {w : World} {L rest : Fo} {j : Nat} {lk : List (List Value)} {acc : List UInt8} {hd : Bool} {lb : Nat × Bool}
    (h : MsW P w L rest j lk acc hd lb) (hq : ∀ b, P b → Q b) : MsW Q w L rest j lk acc hd lb :=
  ⟨h.len, h.at_, h.lks, h.txt, h.hrd, h.led, fun i hi k' f' s' kids' hat => (h.kin i hi k' f' s' kids' hat).mono hq⟩
/-- Where a slice of the call's own lies. -/
theorem own_p {E sz B : Nat} {w : World} {v : Value} {l : List (List Value)} (h : OwnV E sz B w v l) : VsP (fun b => B ≤ b ∧ b < w.heap.size) sz w v l := by
  refine ⟨h.vs, fun b off n c e h0 => ?_⟩
  have hlt := World.ownsRow.lt h.1
  obtain ⟨_, ⟨rfl, h0'⟩ | ⟨g, cap, cur, rfl, _⟩⟩ := h.1
  · simp at e
  · simp only [Value.slice.injEq, Option.some.injEq, Addr.mk.injEq, and_true] at e
    obtain ⟨⟨rfl, -⟩, -⟩ := e
    exact hlt g rfl
end Go.Proofs.Ytehofomfblfhaaa
