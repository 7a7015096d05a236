import Derived.Test.YtbfnlgmhfhaglaaGreatDoorQb05
import Derived.Test.YtbfnlgmhfhaglaaGreatDoorQb06
import Derived.Test.YtbfnlgmhfhaglaaGreatDoorQb00
import Derived.Test.YtbfnlgmhfhaglaaGreatDoorQb02
namespace Go.Proofs.YtbfnlgmhfhaglaaGreatDoor
open Go.RowKit
set_option linter.unusedVariables false
set_option linter.unusedSimpArgs false
theorem bs_sub {w : World} {b off len cap : Nat} {l : List UInt8} (h : Bs w (.slice (some ⟨b, off, none⟩) len cap) l) (i j : Nat) (hi : i <= j) (hj : j <= len) :
  Bs w (.slice (some ⟨b, off + i, none⟩) (j - i) (cap - i)) ((l.drop i).take (j - i)) := by
 obtain ⟨a, cap', e, h1, h2, h3⟩ := h
 simp only [Value.slice.injEq] at e
 obtain ⟨rfl, rfl, rfl⟩ := e
 have hlen : ((l.drop i).take (j - i)).length = j - i := by rw [List.length_take, List.length_drop]; omega
 refine ⟨_, cap - i, by rw [hlen], by rw [hlen]; omega, by omega, fun h0 => ?_⟩
 rw [hlen] at h0
 obtain ⟨b', off', e, hlt, hc⟩ := h3 (by omega)
 simp only [Option.some.injEq, Addr.mk.injEq, and_true] at e
 obtain ⟨rfl, rfl⟩ := e
 refine ⟨b, off + i, rfl, hlt, fun q hq => ?_⟩
 rw [hlen] at hq
 rw [Nat.add_assoc, hc (i + q) (by omega)]
 simp
theorem conv_bs {w : World} {b off len cap : Nat} {l : List UInt8} (h : Bs w (.slice (some ⟨b, off, none⟩) len cap) l) : (convert 37 9 (.slice (some ⟨b, off, none⟩) len cap)).run Tryz.prog w = .ok (.string (bytes l)) w := by
 obtain ⟨a, cap', e, h1, h2, h3⟩ := h
 simp only [Value.slice.injEq] at e
 obtain ⟨rfl, rfl, rfl⟩ := e
 have hB : Lib.Bytes w b off (bytes l) := by
  intro i hi
  have hi' : i < l.length := by simpa [bytes, ByteArray.size] using hi
  obtain ⟨b', off', e, hlt, hc⟩ := h3 (by omega)
  simp only [Option.some.injEq, Addr.mk.injEq, and_true] at e
  obtain ⟨rfl, rfl⟩ := e
  rw [hc i hi']
  congr 3
 have := Lib.run_convert_whole (P := Tryz.prog) w 37 5 9 Tryz.underlying37 Tryz.underlying5 Tryz.underlying9 b off _ hB cap
 rw [bytes_size] at this
 exact this
theorem ba_ne {T S : ByteArray} (h : ¬ T = S) : (T.toList == S.toList) = false := by
 rw [beq_eq_false_iff_ne]
 intro e
 rw [ByteArray.toList_eq, ByteArray.toList_eq] at e
 apply h
 cases T; cases S
 congr 1
 exact Array.toList_inj.1 e
theorem ne_c (c : UInt8) (C : Int) (hC : (c.toNat : Int) = C) (k : UInt8) (K : Int) (hK : (k.toNat : Int) = K) (h : ¬ c = k) : (C == K) = false := by
 rw [beq_eq_false_iff_ne]; intro e; apply h; apply UInt8.toNat_inj.1; omega
theorem eq_c (c : UInt8) (C : Int) (hC : (c.toNat : Int) = C) (k : UInt8) (K : Int) (hK : (k.toNat : Int) = K) (h : c = k) : (C == K) = true := by
 rw [beq_iff_eq, <- hC, h, hK]
def tv (t : Nat × Nat × Nat) : List Value := [.int .i64 (t.1 : Int), .int .i64 (t.2.1 : Int), .int .i64 (t.2.2 : Int)]
def tvs (l : M.Toks) : List (List Value) := l.map tv
theorem tvs_len (l : M.Toks) : (tvs l).length = l.length := by simp [tvs]
theorem tvs_append (k l : M.Toks) : tvs (k ++ l) = tvs k ++ tvs l := by simp [tvs]
theorem tvs_three (l : M.Toks) : ∀ y ∈ tvs l, y.length = 3 := by
 intro y hy
 simp only [tvs, List.mem_map] at hy
 obtain ⟨r, _, rfl⟩ := hy
 rfl
theorem tvs_one (l : M.Toks) : ∀ y ∈ tvs l, ∀ c ∈ y, c.oneCell' = true := by
 intro y hy
 simp only [tvs, List.mem_map] at hy
 obtain ⟨r, _, rfl⟩ := hy
 intro c hc
 simp [tv] at hc
 rcases hc with rfl | rfl | rfl <;> rfl
theorem infoT : (Tryz.prog.info? 51).map (fun i => (i.zero, i.size, i.bytes)) = some (some (.agg #[.int .i64 0, .int .i64 0, .int .i64 0]), 3, 24) := by kernel_rfl
def OwnT (B : Nat) (w : World) (v : Value) (l : M.Toks) : Prop := OwnV 51 3 B w v (tvs l)
def Ts (w : World) (v : Value) (l : M.Toks) : Prop := Vs 3 w v (tvs l)
theorem OwnT.keep {B : Nat} {w w' : World} {v : Value} {l : M.Toks} (h : OwnT B w v l) (hb : Below w.heap.size w w') : OwnT B w' v l := OwnV.keep h hb
theorem one_tok (w : World) (k a b : Nat) : Vs 3 (w.alloc (.cells #[.int .i64 (k : Int), .int .i64 (a : Int), .int .i64 (b : Int)] 51)) (.slice (some ⟨w.heap.size, 0, none⟩) 1 1) (tvs [(k, a, b)]) :=
 vs_cells 3 51 w (tvs [(k, a, b)]) _ 1 rfl (tvs_three _) rfl (by simp [tvs])
def fv (e a : Int) : Value := .agg #[.int .i64 e, .int .i64 a]
def SpP (w : World) (r : M.Toks × Int × Int) (e : Ending) (w' : World) : Prop := ∃ v', e = .returned (.tuple #[v', fv r.2.1 r.2.2]) /\ OwnT w.heap.size w' v' r.1 /\ Below w.heap.size w w'
theorem spP_ok {w w' : World} {r : M.Toks × Int × Int} {v' : Value} {a b : Int} (h1 : r.2.1 = a) (h2 : r.2.2 = b) (ho : OwnT w.heap.size w' v' r.1) (hb : Below w.heap.size w w') :
  SpP w r (.returned (.tuple #[v', .agg #[.int .i64 a, .int .i64 b]])) w' := ⟨v', by rw [h1, h2]; rfl, ho, hb⟩
def lexAt (l : List UInt8) (pre : M.Toks) (i : Nat) : Except Nat M.Toks := match M.lexS (l.drop i) i with | Except.error e => Except.error e | Except.ok r => Except.ok (pre ++ r)
theorem lexAt_end (l : List UInt8) (pre : M.Toks) (i : Nat) (h : l.length <= i) : lexAt l pre i = .ok pre := by
 unfold lexAt; rw [M.lexS_end _ _ (by rw [List.length_drop]; omega)]; simp
theorem lexAt_bad (l : List UInt8) (pre : M.Toks) (i : Nat) (h : i < l.length) (h0 : M.lead (l.drop i) = 0) (ht : M.tokL (l.drop i) = none) : lexAt l pre i = .error i := by
 unfold lexAt; rw [M.lexS_bad _ _ (by rw [h0, List.length_drop]; omega) (by rw [h0]; simpa using ht), h0]; rfl
theorem lexAt_in (l : List UInt8) (pre : M.Toks) (i k m : Nat) (h : i < l.length) (h0 : M.lead (l.drop i) = 0) (ht : M.tokL (l.drop i) = some (k, m)) :
  lexAt l pre i = lexAt l (pre ++ [(k, i, i + m)]) (i + m + M.lead (l.drop (i + m))) := by
 unfold lexAt
 rw [M.lexS_in _ _ k m (by rw [h0, List.length_drop]; omega) (by rw [h0]; simpa using ht), h0, List.drop_drop, Nat.zero_add, Nat.add_zero]
 have e := M.lexS_skip (l.drop (i + m)) (i + m) (M.lead (l.drop (i + m))) (Nat.le_refl _)
 rw [List.drop_drop] at e
 rw [e]
 cases M.lexS (l.drop (i + m + M.lead (l.drop (i + m)))) (i + m + M.lead (l.drop (i + m))) with
 | error e => rfl
 | ok r => simp
theorem ownT_base {B B' : Nat} {w : World} {v : Value} {l : M.Toks} (h : OwnT B w v l) (hB : B' <= B) : OwnT B' w v l := by
 obtain ⟨⟨h1, h2 | ⟨g, cap, cur, rfl, a, b, c⟩⟩, h3, h4⟩ := h
 ·exact ⟨⟨h1, .inl h2⟩, h3, h4⟩
 ·exact ⟨⟨h1, .inr ⟨g, cap, cur, rfl, Nat.le_trans hB a, b, c⟩⟩, h3, h4⟩
theorem ownT_nil (B : Nat) (w : World) : OwnT B w (.slice none 0 0) [] := ownV_nil _ _ _ _
end Go.Proofs.YtbfnlgmhfhaglaaGreatDoor
