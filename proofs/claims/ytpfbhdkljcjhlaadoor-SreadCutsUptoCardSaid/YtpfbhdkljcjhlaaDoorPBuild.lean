/- A strings.Builder of the call's own: copyCheck and WriteString, walked over this program (its copy of copyCheck ends in a panic that the loader refuses: nothing of ours comes there). -/
import Derived.Test.YtpfbhdkljcjhlaaDoorUAppS
import Derived.Test.YtpfbhdkljcjhlaaDoorShelf
import Derived.Lib.Builder
import Derived.Outline
namespace Go.Proofs.YtpfbhdkljcjhlaaDoor
open Go.RowKit
set_option linter.unusedVariables false
set_option linter.unusedSimpArgs false

/-- A builder of the call's own that holds these bytes. -/
def Bd (B b : Nat) (l : List UInt8) (w : World) : Prop := Lib.IsBuilder 49 5 B b (bcells l) w
theorem bd_fresh (w : World) : Bd w.heap.size w.heap.size [] (w.alloc (.cells #[.pointer none, .slice none 0 0] 49)) := Lib.fresh_isBuilder 49 5 w
theorem Bd.low {B C b : Nat} {l : List UInt8} {w : World} (h : Bd B b l w) (hC : C ≤ B) : Bd C b l w := by
  have : ∀ p, Lib.BuilderAt 49 5 B b p (bcells l) w → Lib.BuilderAt 49 5 C b p (bcells l) w := by
    rintro p ⟨hB, v, hb, ⟨h1, h2⟩, hne⟩
    refine ⟨Nat.le_trans hC hB, v, hb, ⟨h1, ?_⟩, hne⟩
    rcases h2 with h2 | ⟨g, cap, cur, e, h3, h4⟩
    · exact .inl h2
    · exact .inr ⟨g, cap, cur, e, Nat.le_trans hC h3, h4⟩
  exact h.elim (fun h => .inl (this _ h)) (fun h => .inr (this _ h))
theorem Bd.keep {B b : Nat} {l : List UInt8} {w w' : World} (h : Bd B b l w) (hb : Below w.heap.size w w') : Bd B b l w' := by
  have : ∀ p, Lib.BuilderAt 49 5 B b p (bcells l) w → Lib.BuilderAt 49 5 B b p (bcells l) w' := by
    intro p h
    have hlt := h.lt
    obtain ⟨hB, v, hbk, hown, hne⟩ := h
    exact ⟨hB, v, by rw [hb.block b hlt]; exact hbk, ownsRow_keep hown hb, hne⟩
  exact h.elim (fun h => .inl (this _ h)) (fun h => .inr (this _ h))
theorem Bd.lt {B b : Nat} {l : List UInt8} {w : World} (h : Bd B b l w) : B ≤ b ∧ b < w.heap.size := h.elim (fun h => ⟨h.1, h.lt⟩) (fun h => ⟨h.1, h.lt⟩)
theorem bytecells (l : List UInt8) : Lib.byteCells l = bcells l := by
  first | rfl | simp [Lib.byteCells, bcells]
theorem bstr_any (B b : Nat) (l : List UInt8) (w : World) (h : Bd B b l w) (hB : B ≤ w.heap.size) :
    Calls Tryd.prog 23 #[.pointer (some ⟨b, 0, none⟩)] w fun e w' => e = .returned (.string (bytes l)) ∧ Below B w w' :=
  Tryd.Builder_String_any B b l w (by rw [bytecells]; exact h) hB

theorem sizeBd : (Tryd.prog.info? 49).map (fun i => i.size) = some 2 := by kernel_rfl
set_option maxRecDepth 100000 in
set_option maxHeartbeats 1000000 in
theorem bcheck_used (b : Nat) (w : World) (hc : w.cell? ⟨b, 0, none⟩ = some (.pointer (some ⟨b, 0, none⟩))) :
    Calls Tryd.prog 29 #[.pointer (some ⟨b, 0, none⟩)] w fun e w' => e = .returned (.tuple #[]) ∧ w' = w := by
  obtain ⟨j, hj, hjs⟩ := Option.map_eq_some_iff.1 sizeBd
  go_enter Tryd.func29, Tryd.ntmps29
  go_wp2
  rw [Lib.run_neq_ptr_same w _ Tryd.underlying46 hj]
  go_wp2
  go_end0
  exact ⟨rfl, rfl⟩
set_option maxRecDepth 100000 in
set_option maxHeartbeats 1000000 in
theorem bcheck_fresh (b : Nat) (w : World) (hc : w.cell? ⟨b, 0, none⟩ = some (.pointer none)) (hsh : w.shape? b = some (49, 2)) (hfz : w.frozen? ⟨b, 0, none⟩ = false) :
    Calls Tryd.prog 29 #[.pointer (some ⟨b, 0, none⟩)] w fun e w' => e = .returned (.tuple #[]) ∧ w' = w.setCell ⟨b, 0, none⟩ (.pointer (some ⟨b, 0, none⟩)) := by
  obtain ⟨j, hj, hjs⟩ := Option.map_eq_some_iff.1 sizeBd
  go_enter Tryd.func29, Tryd.ntmps29
  go_wp2
  rw [Lib.run_to_unsafe w ⟨b, 0, none⟩ Tryd.underlying46 Tryd.underlying72 hj (by rw [hjs]; decide) hsh (Nat.zero_lt_succ 1)]
  simp only [Result.andThen]
  rw [Oper.upon_value]
  go_wp2
  rw [run_callFunc_extern Tryd.func40 (by kernel_rfl) (by kernel_rfl) (by kernel_rfl) (e := Extern.AbiNoEscape.same) (by kernel_rfl)]
  rw [Lib.run_noEscape]
  simp only [Result.andThen]
  rw [Oper.upon_value]
  go_wp2
  rw [Lib.run_from_unsafe w ⟨b, 0, none⟩ Tryd.underlying72 Tryd.underlying46 hj hsh (by kernel_rfl)]
  simp only [Result.andThen]
  rw [Oper.upon_value]
  go_wp2
  go_end0
  exact ⟨rfl, rfl⟩
theorem bcheck_any (B b : Nat) (l : List UInt8) (w : World) (h : Bd B b l w) :
    Calls Tryd.prog 29 #[.pointer (some ⟨b, 0, none⟩)] w fun e w' => e = .returned (.tuple #[]) ∧ Lib.BuilderAt 49 5 B b (.pointer (some ⟨b, 0, none⟩)) (bcells l) w' ∧ Below B w w' := by
  rcases h with h | h
  · refine (bcheck_fresh b w h.cell0 h.shape h.frozen0).mono ?_
    rintro e w' ⟨rfl, rfl⟩
    exact ⟨rfl, h.used _, (Below.refl B w).setCell (p := ⟨b, 0, none⟩) h.1 _⟩
  · refine (bcheck_used b w h.cell0).mono ?_
    rintro e w' ⟨rfl, rfl⟩
    exact ⟨rfl, h, Below.refl B _⟩
/-- append of a text onto bytes of the call's own; no block but the row's own changes. -/
theorem wpl_append_strG {w : World} {ops : Array Oper} {rest : List Oper} {o : Oper} {a : Act} {Q : Exit → Act → World → Prop} (hgd : o.guard = none) (s x : Operand)
    (ho : o.op = .call { callee := .builtin .append, args := #[s, x], argTypes := #[47, 9] })
    (B : Nat) (v : Value) (l k t : List UInt8) (S : ByteArray) (hS : bytes k = S) (hs : a.eval s = v) (hown : OwnB B w v l) (hx : a.eval x = .string S)
    (hlen : l.length + k.length ≤ 4294967296) (hB : B ≤ w.heap.size) (ht : l ++ k = t)
    (h : ∀ v' w', OwnB B w' v' t → Below B w w' → (∀ j, j < w.heap.size → some j ≠ v.ownBlock → w'.heap[j]? = w.heap[j]?) → wpList Tryd.prog ops Q rest (a.put o.dst v') w') : wpList Tryd.prog ops Q (o :: rest) a w := by
  subst ht
  subst hS
  obtain ⟨i0, hi, hz0, hz1, hz2⟩ := info_parts infoB
  have hlt := World.ownsRow.lt hown
  have hsz : (bytes k).size = k.length := bytes_size k
  refine Lib.wpList_append_own_string _ hgd s x 47 9 ho B 5 i0 Tryd.underlying47 Tryd.underlying9 hi hz0 hz1 hz2 v l.length (bcells l) hs hown (bytes k) hx (by rw [hsz]; unfold maxLen; omega) (by rw [hsz]; omega) hB ?_
  intro v' w' hown' hg _
  refine h v' w' ?_ ((Below.refl B w).grown hg hB (fun j hj => (hlt j hj).1)) (fun j h1 h2 => hg.block j h1 h2)
  have e : Lib.strCells (bytes k) = bcells k := by simp [Lib.strCells, bcells, bytes_list]
  rw [e, hsz, ← bcells_append, ← List.length_append] at hown'
  exact hown'
set_option maxRecDepth 100000 in
set_option maxHeartbeats 2000000 in
theorem bwrite_any (B b : Nat) (l k t : List UInt8) (S : ByteArray) (hS : bytes k = S) (w : World) (h : Bd B b l w) (hl : l.length + k.length ≤ 4294967296) (hB : B ≤ w.heap.size) (ht : l ++ k = t) :
    Calls Tryd.prog 20 #[.pointer (some ⟨b, 0, none⟩), .string S] w fun e w' => e = .returned (.tuple #[.int .i64 (S.size : Int), .nilIface]) ∧ Bd B b t w' ∧ Below B w w' := by
  have CK := Lib.hid (bcheck_any B b l w h)
  have HS := Lib.hid hS
  have HT := Lib.hid ht
  clear hS h ht
  go_enter Tryd.func20, Tryd.ntmps20
  go_wp2_with fail
  refine CK.out.mono ?_
  rintro e w1 ⟨rfl, ⟨hBb, vv, hbk, hown, hne⟩, hb1⟩
  have hlt : b < w1.heap.size := Array.getElem?_eq_some_iff.1 hbk |>.1
  have c0 : w1.cell? ⟨b, 0, none⟩ = some (.pointer (some ⟨b, 0, none⟩)) := by rw [Lib.cell_of_heap hbk]; rfl
  have c1 : w1.cell? ⟨b, 1, none⟩ = some vv := by rw [Lib.cell_of_heap hbk]; rfl
  have hbz := hb1.size
  have hown2 : OwnB B w1 vv l := by unfold OwnB; rw [bcells_len] at hown; exact hown
  have HK := Lib.hid hbk
  have HNE := Lib.hid hne
  have Hb1 := Lib.hid hb1
  have HO := Lib.hid hown2
  have hB1 : B ≤ w1.heap.size := by omega
  clear hbk hne hb1 hown hown2
  go_wp2_with (at_builtin; refine wpl_append_strG rfl _ _ rfl B _ l k t S HS.out rfl HO.out rfl hl hB1 HT.out ?_)
  intro v' w2 hown' hbw hgrow
  have hb2 : w2.heap[b]? = some (.cells #[.pointer (some ⟨b, 0, none⟩), vv] 49 (0, 0)) := by
    rw [hgrow b hlt (fun e => HNE.out e.symm)]
    exact HK.out
  have d0 : w2.cell? ⟨b, 0, none⟩ = some (.pointer (some ⟨b, 0, none⟩)) := by rw [Lib.cell_of_heap hb2]; rfl
  have d1 : w2.cell? ⟨b, 1, none⟩ = some vv := by rw [Lib.cell_of_heap hb2]; rfl
  have f1 : w2.frozen? ⟨b, 1, none⟩ = false := Lib.frozen_of_heap hb2 1
  obtain ⟨ao, n', cap, rfl⟩ : ∃ ao n' cap, v' = .slice ao n' cap := by
    rcases hown'.2 with ⟨hv, _⟩ | ⟨g, cap, cur, hv, _⟩
    · exact ⟨_, _, _, hv⟩
    · exact ⟨_, _, _, hv⟩
  have HB2 := Lib.hid hb2
  have HO2 := Lib.hid hown'
  have HBW := Lib.hid hbw
  clear hb2 hown' hgrow c0 c1 hbw
  go_wp2
  go_ret2
  refine ⟨rfl, .inr ?_, ?_⟩
  · refine Lib.BuilderAt.put hBb HB2.out ?_ (by decide)
    have h := HO2.out
    unfold OwnB at h
    rw [bcells_len]
    exact h
  · exact (Hb1.out.trans HBW.out).setCell (p := ⟨b, 1, none⟩) hBb _
end Go.Proofs.YtpfbhdkljcjhlaaDoor
