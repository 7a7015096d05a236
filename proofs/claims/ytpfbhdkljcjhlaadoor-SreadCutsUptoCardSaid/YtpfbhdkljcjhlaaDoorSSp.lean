/- sread.Mappings: strings.Split at one byte; a row of the call's own, kept. -/
import Derived.Test.YtpfbhdkljcjhlaaDoorSSg
import Derived.Test.YtpfbhdkljcjhlaaDoorVAppG
import Derived.Test.YtpfbhdkljcjhlaaDoorSGMath2
import Derived.Test.YtpfbhdkljcjhlaaDoorShelf
namespace Go.Proofs.YtpfbhdkljcjhlaaDoor
open Go.RowKit
set_option linter.unusedVariables false
set_option linter.unusedSimpArgs false

/-- The texts of a list, one behind the other in a block. -/
def PartsAt (w : World) (b : Nat) (ps : List (List UInt8)) : Prop := ∀ j (hj : j < ps.length), w.cell? ⟨b, j, none⟩ = some (.string (bytes ps[j]))
theorem PartsAt.keep {w w' : World} {b : Nat} {ps : List (List UInt8)} (h : PartsAt w b ps) {B : Nat} (hb : Below B w w') (hB : b < B) : PartsAt w' b ps :=
  fun j hj => (hb.cell (p := ⟨b, j, none⟩) hB).trans (h j hj)
theorem cut_cells (c : UInt8) (t : List UInt8) : (Lib.splitB (bytes [c]) 0 (Lib.countB (bytes t) (bytes [c])) (bytes t)).map (fun p => p.data.toList) = M.cut c t := by
  rw [Lib.splitB_data]
  unfold M.cut Lib.split
  rw [bytes_list, bytes_list]
  congr 1
theorem cut_pos (c : UInt8) (t : List UInt8) : (M.cut c t).length = Lib.countB (bytes t) (bytes [c]) + 1 := by
  rw [← cut_cells, List.length_map]
  exact Lib.splitB_all (bytes [c]) (by simp [bytes_size]) 0 _ _ rfl
/-- strings.Split at one byte. -/
theorem split_any (c : UInt8) (t : List UInt8) (T C : ByteArray) (m : Int) (w : World) (hT : bytes t = T) (hC : bytes [c] = C) (hs : T.size < 4294967281) (hm : w.cell? ⟨0, 0, none⟩ = some (.int .i64 m)) :
    Calls Tryd.prog 12 #[.string T, .string C] w fun e w' => ∃ W', e = .returned (.slice (some ⟨w.heap.size, 0, none⟩) (M.cut c t).length (M.cut c t).length) ∧ W' = w' ∧ PartsAt w' w.heap.size (M.cut c t) ∧ Below w.heap.size w w' ∧ w'.heap.size = w.heap.size + 1 := by
  subst hT hC
  refine (Tryd.strings_Split (bytes t) (bytes [c]) m w hs hm (by simp [bytes_size])).mono ?_
  rintro e w' ⟨rfl, rfl⟩
  refine ⟨_, by rw [cut_pos], rfl, ?_, (Below.refl _ _).alloc (Nat.le_refl _) _, by simp⟩
  intro j hj
  rw [World.cell?_alloc_at _ _ _ _ rfl]
  have h1 := cut_cells c t
  have hj2 : j < (Lib.splitB (bytes [c]) 0 (Lib.countB (bytes t) (bytes [c])) (bytes t)).length := by
    rw [← List.length_map (f := fun p : ByteArray => p.data.toList), h1]; exact hj
  rw [List.getElem?_toArray, List.getElem?_map, List.getElem?_eq_getElem hj2]
  have h2 : (M.cut c t)[j] = ((Lib.splitB (bytes [c]) 0 (Lib.countB (bytes t) (bytes [c])) (bytes t))[j]).data.toList := by
    have := congrArg (fun l => l[j]?) h1
    simp only [List.getElem?_map, List.getElem?_eq_getElem hj2, List.getElem?_eq_getElem hj, Option.map_some, Option.some.injEq] at this
    exact this.symm
  rw [h2]
  simp [bytes]
theorem OwnV.frame {E sz B : Nat} {w w' : World} {v : Value} {l : List (List Value)} (h : OwnV E sz B w v l) (hf : ∀ j, v.ownBlock = some j → w'.heap[j]? = w.heap[j]?) : OwnV E sz B w' v l := by
  obtain ⟨⟨h1, h2⟩, h3, h4⟩ := h
  refine ⟨⟨h1, ?_⟩, h3, h4⟩
  rcases h2 with h2 | ⟨g, cap, cur, rfl, a, b, c⟩
  · exact .inl h2
  · exact .inr ⟨g, cap, cur, rfl, a, by rw [hf g rfl]; exact b, c⟩
theorem OwnV.low {E sz B : Nat} {w : World} {v : Value} {l : List (List Value)} (h : OwnV E sz B w v l) : ∀ j, v.ownBlock = some j → B ≤ j := fun j hj => (World.ownsRow.lt h.1 j hj).1
end Go.Proofs.YtpfbhdkljcjhlaaDoor
