import Derived.Test.YtimjbjppmhdjnaaGreatDoorMgL
import Derived.Laws.StructEq
import Derived.ChangeKeysEq
import Derived.Deep.MidRow
import Derived.Test.YtimjbjppmhdjnaaGreatDoorMgT
namespace Go.Proofs.YtimjbjppmhdjnaaGreatDoor
open Go.RowKit
set_option linter.unusedVariables false
set_option linter.unusedSimpArgs false
theorem range_of {w : World} {b o : Nat} {cs : Array Value} (h : ∀ k, k < cs.size -> w.cell? ⟨b, o + k, none⟩ = cs[k]?) : w.rangeAt b o cs.toList := by
 intro j v hj
 have hl : j < cs.size := by
  have := (List.getElem?_eq_some_iff.1 hj).1
  simpa using this
 rw [h j hl, <- hj]; simp
theorem wp_ldM {o : Oper} {a : Act} {w : World} {K : Act -> World -> Prop} {Q : Exit -> Act -> World -> Prop} (x : Operand) (ho : o.op = .load 33 x)
  (b off : Nat) (cs : Array Value) (hx : a.eval x = .pointer (some ⟨b, off, none⟩)) (hs : cs.size = 13) (hc : ∀ k, k < 13 -> w.cell? ⟨b, off + k, none⟩ = cs[k]?)
  (h : K (a.put o.dst (.agg cs)) w) : o.wp Tryz.prog a w K Q := by
 have := wp_load_mid (P := Tryz.prog) (Q := Q) (K := K) 33 x ho b off hx cs.toList _ (range_of (by rw [hs]; exact hc)) Tryz.underlying33 rfl (by rw [Array.length_toList, hs]; exact infoC13)
 rw [Array.toArray_toList] at this
 exact this h
theorem wpl_ldM {ops : Array Oper} {rest : List Oper} {o : Oper} {a : Act} {w : World} {Q : Exit -> Act -> World -> Prop} (hw : Region.wanted o (yielded ops a.tmps) = true) (x : Operand) (ho : o.op = .load 33 x)
  (b off : Nat) (cs : Array Value) (hx : a.eval x = .pointer (some ⟨b, off, none⟩)) (hs : cs.size = 13) (hc : ∀ k, k < 13 -> w.cell? ⟨b, off + k, none⟩ = cs[k]?)
  (h : wpList Tryz.prog ops Q rest (a.put o.dst (.agg cs)) w) : wpList Tryz.prog ops Q (o :: rest) a w :=
 wpList_step fun K hK => by rw [if_pos hw]; exact wp_ldM x ho b off cs hx hs hc (hK _ _ h)
theorem cs_open {w : World} {v : Value} {l : List (M.CT × Int)} (h : Cs w v l) {n : Nat} (hn : l.length = n) : ∃ a cap, v = .slice a n cap /\ n <= cap /\ cap <= maxLen /\ ∀ j (hj : j < l.length), ∃ b off, a = some ⟨b, off, none⟩ /\ b < w.heap.size /\
  ∀ k u, (ctv (l[j]).1 (l[j]).2)[k]? = some u -> w.cell? ⟨b, off + j * 13 + k, none⟩ = some u := by
 obtain ⟨a, cap, rfl, h1, h2, h3⟩ := h
 subst hn
 have hl := tvsC_len l
 refine ⟨a, cap, by rw [hl], by omega, h2, fun j hj => ?_⟩
 obtain ⟨b, off, rfl, hb, hc⟩ := h3 (by omega)
 refine ⟨b, off, rfl, hb, fun k u hu => ?_⟩
 have := hc j (by omega) k u (by
  have e : (tvsC l)[j]'(by omega) = tvC l[j] := by simp [tvsC]
  rw [e]; simpa [tvC] using hu)
 rw [Nat.add_assoc]; exact this
end Go.Proofs.YtimjbjppmhdjnaaGreatDoor
