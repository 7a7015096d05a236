import Derived.Test.YtimjbjppmhdjnaaGreatDoorMgB
import Derived.Lib.AppendStr
namespace Go.Proofs.YtimjbjppmhdjnaaGreatDoor
open Go.RowKit
set_option linter.unusedVariables false
def FullB (w : World) (v : Value) (l : List UInt8) : Prop := ∃ g, v = .slice (some ⟨g, 0, none⟩) l.length l.length /\ g < w.heap.size /\ ∀ j (h : j < l.length), w.cell? ⟨g, j, none⟩ = some (.int .u8 (l[j].toNat : Int))
def OF (B : Nat) (w : World) (v : Value) (l : List UInt8) : Prop := OwnB B w v l \/ FullB w v l
theorem OF.keep {B : Nat} {w w' : World} {v : Value} {l : List UInt8} (h : OF B w v l) (hb : Below w.heap.size w w') : OF B w' v l := by
 rcases h with h | ⟨g, rfl, hg, hc⟩
 ·exact .inl (OwnB.keep h hb)
 ·exact .inr ⟨g, rfl, Nat.lt_of_lt_of_le hg hb.size, fun j hj => by rw [hb.cell (p := ⟨g, j, none⟩) hg]; exact hc j hj⟩
theorem full_new (w : World) (l : List UInt8) (m : Nat × Nat) (hl : l.length <= 1048576) : FullB (w.alloc (.cells (bcells l).toArray 5 m)) (.slice (some ⟨w.heap.size, 0, none⟩) l.length l.length) l := by
 refine ⟨w.heap.size, rfl, by simp, fun j hj => ?_⟩
 obtain ⟨a, cap, e, _, _, h3⟩ := bs_newm w l m hl
 obtain ⟨b, off, e2, _, hc⟩ := h3 (by omega)
 simp only [Value.slice.injEq] at e
 rw [e2] at e
 obtain ⟨e, _⟩ := e
 simp only [Option.some.injEq, Addr.mk.injEq, and_true] at e
 obtain ⟨rfl, rfl⟩ := e
 have := hc j hj
 rwa [Nat.zero_add] at this
theorem grown_ownB (B : Nat) (w : World) (l k : List UInt8) (hB : B <= w.heap.size) (hlen : l.length + k.length <= 4294967296) :
  OwnB B (w.drew.alloc (.cells ((bcells l).toArray ++ (bcells k).toArray ++ Builtin.zeroCells (Value.int .u8 0).cells (grownCap w (l.length + k.length) l.length 5 - (l.length + k.length))) 5))
   (.slice (some ⟨w.heap.size, 0, none⟩) (l.length + k.length) (grownCap w (l.length + k.length) l.length 5)) (l ++ k) /\
  Below B w (w.drew.alloc (.cells ((bcells l).toArray ++ (bcells k).toArray ++ Builtin.zeroCells (Value.int .u8 0).cells (grownCap w (l.length + k.length) l.length 5 - (l.length + k.length))) 5)) := by
 have hge := grownCap_ge w (l.length + k.length) l.length 5
 have hcm : grownCap w (l.length + k.length) l.length 5 <= maxLen := grownCap_le_maxLen w _ _ _ (by unfold maxLen; omega)
 obtain ⟨c, hc⟩ : ∃ c, grownCap w (l.length + k.length) l.length 5 = c := ⟨_, rfl⟩
 rw [hc] at hge hcm ⊢
 refine ⟨?_, (((Below.refl B w).drew).alloc (by exact hB) _)⟩
 unfold OwnB
 rw [List.length_append]
 refine ⟨by simp [bcells], .inr ⟨w.heap.size, c, _, rfl, hB, heap_alloc_new w.drew _, hge, hcm, ?_, ?_⟩⟩
 ·rw [Array.size_append, Array.size_append, size_zeroCells]
  have : (Value.int IntKind.u8 0).cells.size = 1 := rfl
  rw [this]
  simp [bcells]; omega
 ·rw [Array.toList_append, Array.toList_append]
  simp only [bcells_append]
  rw [Nat.mul_one]
  have hl : (bcells l ++ bcells k).length = l.length + k.length := by simp [bcells]
  rw [<- hl]
  exact List.take_left
theorem wpl_appendO {w : World} {ops : Array Oper} {rest : List Oper} {o : Oper} {a : Act} {Q : Exit -> Act -> World -> Prop} (hgd : o.guard = none) (s x : Operand)
  (ho : o.op = .call { callee := .builtin .append, args := #[s, x], argTypes := #[22, 22] })
  (B : Nat) (v u : Value) (l k t : List UInt8) (hs : a.eval s = v) (hown : OF B w v l) (hx : a.eval x = u) (hu : Bs w u k) (hz : ∀ n c, u = .slice none n c -> c = 0) (hk : 0 < k.length)
  (hlen : l.length + k.length <= 4294967296) (hB : B <= w.heap.size) (ht : l ++ k = t)
  (h : ∀ v' w', OwnB B w' v' t -> Below B w w' -> wpList Tryz.prog ops Q rest (a.put o.dst v') w') : wpList Tryz.prog ops Q (o :: rest) a w := by
 rcases hown with hown | ⟨g, rfl, hg, hc⟩
 ·exact wpl_append hgd s x ho B v u l k t hs hown hx hu hz hlen hB ht h
 ·subst ht
  obtain ⟨i0, hi, hz0, hz1, hz2⟩ := info_parts infoB
  obtain ⟨ad, cap, rfl, h1, h2, h3⟩ := hu
  obtain ⟨b, off, rfl, hb, hcb⟩ := h3 hk
  obtain ⟨g1, g2⟩ := grown_ownB B w l k hB hlen
  have hr := fun ty => run_append_grow (P := Tryz.prog) w 22 ty 5 i0 (.int .u8 0) Tryz.underlying22 hi hz0 ⟨g, 0, none⟩ l.length l.length (bcells l) (by rw [hz1]; simp [bcells])
   (fun j u hj => bs_cells (b := g) (off := 0) (fun j hj => by rw [Nat.zero_add]; exact hc j hj) j u hj) ⟨b, off, none⟩ k.length cap (bcells k) (by rw [hz1]; simp [bcells]) (fun j u hj => bs_cells hcb j u hj) (by omega) (by omega) (growslice_fits (by omega) (by rw [hz2]; omega))
  refine wpList_plain hgd fun K hK => ?_
  unfold Oper.wp execOp
  simp only [ho, resolve, invoke, builtin, Sem.run_bind, Sem.run_pure, Result.andThen_ok, List.map_toArray, List.map_cons, List.map_nil, hs, hx, hr]
  exact hK _ _ (h _ _ g1 g2)
theorem wpl_appendO_str {w : World} {ops : Array Oper} {rest : List Oper} {o : Oper} {a : Act} {Q : Exit -> Act -> World -> Prop} (hgd : o.guard = none) (s x : Operand)
  (ho : o.op = .call { callee := .builtin .append, args := #[s, x], argTypes := #[22, 9] })
  (B : Nat) (v : Value) (l k t : List UInt8) (hs : a.eval s = v) (hown : OF B w v l) (hx : a.eval x = .string (bytes k)) (hk : 0 < k.length)
  (hlen : l.length + k.length <= 4294967296) (hB : B <= w.heap.size) (ht : l ++ k = t)
  (h : ∀ v' w', OwnB B w' v' t -> Below B w w' -> wpList Tryz.prog ops Q rest (a.put o.dst v') w') : wpList Tryz.prog ops Q (o :: rest) a w := by
 rcases hown with hown | ⟨g, rfl, hg, hc⟩
 ·exact wpl_append_str hgd s x ho B v l k t hs hown hx hlen hB ht h
 ·subst ht
  obtain ⟨i0, hi, hz0, hz1, hz2⟩ := info_parts infoB
  have hsz : (bytes k).size = k.length := bytes_size k
  obtain ⟨g1, g2⟩ := grown_ownB B w l k hB hlen
  have e : Lib.strCells (bytes k) = bcells k := by simp [Lib.strCells, bcells, bytes_list]
  have hr := fun ty => Lib.run_append_grow_string (P := Tryz.prog) w 22 9 ty 5 i0 (.int .u8 0) Tryz.underlying22 Tryz.underlying9 hi hz0 ⟨g, 0, none⟩ l.length l.length (bcells l) (by rw [hz1]; simp [bcells])
   (fun j u hj => bs_cells (b := g) (off := 0) (fun j hj => by rw [Nat.zero_add]; exact hc j hj) j u hj) (bytes k) (by rw [hsz]; omega) (by rw [hsz]; omega) (growslice_fits (by rw [hsz]; omega) (by rw [hz2, hsz]; omega))
  simp only [e, hsz] at hr
  refine wpList_plain hgd fun K hK => ?_
  unfold Oper.wp execOp
  simp only [ho, resolve, invoke, builtin, Sem.run_bind, Sem.run_pure, Result.andThen_ok, List.map_toArray, List.map_cons, List.map_nil, hs, hx, hr]
  exact hK _ _ (h _ _ g1 g2)
end Go.Proofs.YtimjbjppmhdjnaaGreatDoor
