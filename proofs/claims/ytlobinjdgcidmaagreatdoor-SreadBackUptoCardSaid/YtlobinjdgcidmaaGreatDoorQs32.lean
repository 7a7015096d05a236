/- Texts of ours in one: VqPut PBuild SProg PBuildF. -/
import Derived.Test.YtlobinjdgcidmaaGreatDoorRows
import Derived.Test.YtlobinjdgcidmaaGreatDoorQs28
import Derived.Test.YtlobinjdgcidmaaGreatDoorQs02
import Derived.WalkKit
import Derived.ProofKit
import Derived.OpenShut
import Derived.Below
import Derived.Lib.Hide
import Derived.Laws.BytesArg
import Derived.Lib.SlBytesRow
import Derived.Lib.AppendStr
import Derived.Test.YtlobinjdgcidmaaGreatDoorQs01
import Derived.Lib.Builder
import Derived.Outline
import Derived.Test.YtlobinjdgcidmaaGreatDoorQs30
/- vlq.Put: what is returned for any text and any number in range. -/
namespace Go.Proofs.YtlobinjdgcidmaaGreatDoor
open Go.RowKit

set_option maxRecDepth 100000 in
theorem vq_info5 : (Tryz.prog.info? 5).map (fun i => (i.zero, i.size, i.bytes)) = some (some (.int .u8 0), 1, 1) := by kernel_rfl

def lets (l : List Nat) : List Value := l.map fun d => .int .u8 ((V.letter d).toNat : Int)
theorem lets_snoc (l : List Nat) (d : Nat) : lets (l ++ [d]) = lets l ++ [.int .u8 ((V.letter d).toNat : Int)] := by simp [lets]

set_option maxRecDepth 100000 in
theorem vq_letter_at (x : Nat) (h : x < (ByteArray.mk V.alpha.toArray).size) : (ByteArray.mk V.alpha.toArray)[x]'h = V.letter x := by
  have h' : x < V.alpha.length := h
  show V.alpha.toArray[x] = V.alpha.getD x 0
  simp [List.getElem?_eq_getElem h']

set_option maxRecDepth 100000 in
theorem vq_one_new (w : World) (v : Value) (t : TypeId) (x : Value) (hx : v = x) : ∀ j u, [x][j]? = some u → (w.alloc (.cells #[v] t)).cell? ((⟨w.heap.size, 0, none⟩ : Addr).add j) = some u := by
  subst hx
  intro j u hj
  cases j with
  | zero => simp at hj; subst hj; exact (World.cell?_alloc_at _ _ _ _ rfl).trans rfl
  | succ j => simp at hj

set_option maxRecDepth 100000 in
theorem vq_conv_own {B : Nat} {w : World} {v : Value} {l : List Nat} (hown : w.ownsRow B 5 1 v l.length (lets l)) (hl : 0 < l.length) :
    ∃ g cap, v = .slice (some ⟨g, 0, none⟩) l.length cap ∧ (convert 29 9 (.slice (some ⟨g, 0, none⟩) l.length cap)).run Tryz.prog w = .ok (.string (V.bytes (l.map V.letter))) w := by
  have hc := hown
  obtain ⟨_, ⟨_, h0⟩ | ⟨g, cap, cur, rfl, _⟩⟩ := hown
  · omega
  refine ⟨g, cap, rfl, ?_⟩
  have hB : Lib.Bytes w g 0 (V.bytes (l.map V.letter)) := by
    intro i hi
    have hi' : i < l.length := by simpa [V.bytes, ByteArray.size] using hi
    have := hc.cells rfl i (.int .u8 ((V.letter l[i]).toNat : Int)) (by simp [lets, hi'])
    rw [show (⟨g, 0, none⟩ : Addr).add i = ⟨g, 0 + i, none⟩ by cases i <;> simp [Addr.add]] at this
    rw [this]
    congr 3
    show _ = (((l.map V.letter).toArray)[i]'(by simpa using hi')).toNat
    simp
  have := Lib.run_convert_whole (P := Tryz.prog) w 29 5 9 Tryz.underlying29 Tryz.underlying5 Tryz.underlying9 g 0 _ hB cap
  rw [show (V.bytes (l.map V.letter)).size = l.length by simp [V.bytes, ByteArray.size]] at this
  exact this

set_option maxRecDepth 100000 in
set_option maxHeartbeats 400000 in
theorem vq_put_any (s : ByteArray) (n : Int) (w : World) (h1 : -1099511627776 ≤ n) (h2 : n ≤ 1099511627776) (hs : s.size ≤ 1048576) :
    Calls Tryz.prog 65 #[.string s, .int .i64 n] w fun e w' => e = .returned (.string (s ++ V.bytes (V.text n))) ∧ Below w.heap.size w w' := by
  obtain ⟨i0, hi, hz0, hz1, hz2⟩ := info_parts vq_info5
  by_cases hn : n < 0
  all_goals
    go_enter Tryz.func65, Tryz.ntmps65
    go_wp2
    go_loopw [5, 6] (fun xv v wr => ∃ (f x : Nat) (l : List Nat), xv = .int .i64 x ∧ V.Left (V.zig n) f x l ∧ wr.ownsRow w.heap.size 5 1 v l.length (lets l) ∧ Below w.heap.size w wr) (fun xv _ _ => (intOf xv).toNat)
    case atStart =>
      refine ⟨8, V.zig n, [], ?_, V.left_start _ (V.zig_lt _ h1 h2), World.ownsRow_nil _ _ _ _, Below.refl _ _⟩
      unfold V.zig
      first | rw [if_pos (by omega)] | rw [if_neg (by omega)]
      congr 1
      omega
    case round =>
      obtain ⟨f, x, l, rfl, hL, hown, hb⟩ := hrel
      have hlen := V.left_len hL
      have hx := V.left_x hL
      have HL := Lib.hid hL
      have hsz := hb.size
      clear hL
      by_cases hx32 : 32 ≤ x
      · have hm : x % 32 < 32 := by omega
        go_wp2_with (at_builtin; refine wpList_append_own _ rfl _ _ 29 rfl w.heap.size 5 i0 (.int .u8 0) 1 1 Tryz.underlying29 hi hz0 hz1 hz2 rfl (by decide) _ _ _ rfl (hown.alloc _) ⟨wr.heap.size, 0, none⟩ 1 1 [.int .u8 ((V.letter (32 + x % 32)).toNat : Int)] rfl rfl ?c1 ?c2 ?c3 ?c4 ?c5 ?_)
        case c1 => exact vq_one_new _ _ _ _ (congrArg (fun b : UInt8 => Value.int .u8 (b.toNat : Int)) (vq_letter_at _ _))
        case c2 => intro u hu; simp at hu; subst hu; rfl
        case c3 => unfold maxLen; omega
        case c4 => omega
        case c5 => simp; omega
        intro v' w1 hown' hgrow _
        have hb1 := (hb.alloc hsz _).grown hgrow (by simp; omega) (fun j hj => (hown.lt j hj).1)
        clear hgrow hown hb
        go_wp2
        go_roundw
        case rel =>
          obtain ⟨g, hg⟩ := V.left_step HL.out hx32
          refine ⟨g, x / 32, l ++ [32 + x % 32], by simp, hg, ?_, hb1⟩
          rw [lets_snoc]; simpa using hown'
        case measure => simp [intOf]; omega
      · go_wp2_with (at_builtin; refine wpList_append_own _ rfl _ _ 29 rfl w.heap.size 5 i0 (.int .u8 0) 1 1 Tryz.underlying29 hi hz0 hz1 hz2 rfl (by decide) _ _ _ rfl (hown.alloc _) ⟨wr.heap.size, 0, none⟩ 1 1 [.int .u8 ((V.letter x).toNat : Int)] rfl rfl ?c1 ?c2 ?c3 ?c4 ?c5 ?_)
        case c1 => exact vq_one_new _ _ _ _ (congrArg (fun b : UInt8 => Value.int .u8 (b.toNat : Int)) (vq_letter_at _ _))
        case c2 => intro u hu; simp at hu; subst hu; rfl
        case c3 => unfold maxLen; omega
        case c4 => omega
        case c5 => simp; omega
        intro v' w1 hown' hgrow _
        have hb1 := (hb.alloc hsz _).grown hgrow (by simp; omega) (fun j hj => (hown.lt j hj).1)
        have hown2 : w1.ownsRow w.heap.size 5 1 v' (l ++ [x]).length (lets (l ++ [x])) := by rw [lets_snoc]; simpa using hown'
        obtain ⟨g, cap, rfl, hconv⟩ := vq_conv_own hown2 (by simp)
        simp only [List.length_append, List.length_cons, List.length_nil, Nat.zero_add] at hconv
        rw [V.left_stop HL.out (by omega), show (V.digs 9 (V.zig n)).map V.letter = V.text n from rfl] at hconv
        have ht : (V.bytes (V.text n)).size ≤ 9 := V.text_len n
        clear hgrow hown hb hown' hown2
        go_wp2
        go_ret
        exact ⟨rfl, hb1⟩

set_option maxRecDepth 100000 in
/-- The contract at a written text. -/
theorem vq_put_to (s r : ByteArray) (n : Int) (w : World) (h1 : -1099511627776 ≤ n) (h2 : n ≤ 1099511627776) (hs : s.size ≤ 1048576) (hr : s ++ V.bytes (V.text n) = r) :
    Calls Tryz.prog 65 #[.string s, .int .i64 n] w fun e w' => e = .returned (.string r) ∧ Below w.heap.size w w' := by
  subst hr; exact vq_put_any s n w h1 h2 hs
set_option maxRecDepth 100000 in
theorem vq_empty_bytes (l : List UInt8) : (ByteArray.mk #[]) ++ V.bytes l = V.bytes l := by
  apply ByteArray.ext; simp [V.bytes]
end Go.Proofs.YtlobinjdgcidmaaGreatDoor
/- A strings.Builder of the call's own: copyCheck and WriteString, walked over this program (its copy of copyCheck ends in a panic that the loader refuses: nothing of ours comes there). -/
namespace Go.Proofs.YtlobinjdgcidmaaGreatDoor
open Go.RowKit
set_option linter.unusedVariables false
set_option linter.unusedSimpArgs false

def Bd (B b : Nat) (l : List UInt8) (w : World) : Prop := Lib.IsBuilder 87 5 B b (bcells l) w
theorem bd_fresh (w : World) : Bd w.heap.size w.heap.size [] (w.alloc (.cells #[.pointer none, .slice none 0 0] 87)) := Lib.fresh_isBuilder 87 5 w
theorem Bd.keep {B b : Nat} {l : List UInt8} {w w' : World} (h : Bd B b l w) (hb : Below w.heap.size w w') : Bd B b l w' := by
  have : ∀ p, Lib.BuilderAt 87 5 B b p (bcells l) w → Lib.BuilderAt 87 5 B b p (bcells l) w' := by
    intro p h
    have hlt := h.lt
    obtain ⟨hB, v, hbk, hown, hne⟩ := h
    exact ⟨hB, v, by rw [hb.block b hlt]; exact hbk, ownsRow_keep hown hb, hne⟩
  exact h.elim (fun h => .inl (this _ h)) (fun h => .inr (this _ h))
theorem bytecells (l : List UInt8) : Lib.byteCells l = bcells l := by
  first | rfl | simp [Lib.byteCells, bcells]
theorem bstr_any (B b : Nat) (l : List UInt8) (w : World) (h : Bd B b l w) (hB : B ≤ w.heap.size) :
    Calls Tryz.prog 43 #[.pointer (some ⟨b, 0, none⟩)] w fun e w' => e = .returned (.string (bytes l)) ∧ Below B w w' :=
  Tryz.Builder_String_any B b l w (by rw [bytecells]; exact h) hB

theorem sizeBd : (Tryz.prog.info? 87).map (fun i => i.size) = some 2 := by kernel_rfl
set_option maxRecDepth 100000 in
set_option maxHeartbeats 1000000 in
theorem bcheck_used (b : Nat) (w : World) (hc : w.cell? ⟨b, 0, none⟩ = some (.pointer (some ⟨b, 0, none⟩))) :
    Calls Tryz.prog 60 #[.pointer (some ⟨b, 0, none⟩)] w fun e w' => e = .returned (.tuple #[]) ∧ w' = w := by
  obtain ⟨j, hj, hjs⟩ := Option.map_eq_some_iff.1 sizeBd
  go_enter Tryz.func60, Tryz.ntmps60
  go_wp2
  rw [Lib.run_neq_ptr_same w _ Tryz.underlying85 hj]
  go_wp2
  go_end0
  exact ⟨rfl, rfl⟩
set_option maxRecDepth 100000 in
set_option maxHeartbeats 1000000 in
theorem bcheck_fresh (b : Nat) (w : World) (hc : w.cell? ⟨b, 0, none⟩ = some (.pointer none)) (hsh : w.shape? b = some (87, 2)) (hfz : w.frozen? ⟨b, 0, none⟩ = false) :
    Calls Tryz.prog 60 #[.pointer (some ⟨b, 0, none⟩)] w fun e w' => e = .returned (.tuple #[]) ∧ w' = w.setCell ⟨b, 0, none⟩ (.pointer (some ⟨b, 0, none⟩)) := by
  obtain ⟨j, hj, hjs⟩ := Option.map_eq_some_iff.1 sizeBd
  go_enter Tryz.func60, Tryz.ntmps60
  go_wp2
  rw [Lib.run_to_unsafe w ⟨b, 0, none⟩ Tryz.underlying85 Tryz.underlying126 hj (by rw [hjs]; decide) hsh (Nat.zero_lt_succ 1)]
  simp only [Result.andThen]
  rw [Oper.upon_value]
  go_wp2
  rw [run_callFunc_extern Tryz.func80 (by kernel_rfl) (by kernel_rfl) (by kernel_rfl) (e := Extern.AbiNoEscape.same) (by kernel_rfl)]
  rw [Lib.run_noEscape]
  simp only [Result.andThen]
  rw [Oper.upon_value]
  go_wp2
  rw [Lib.run_from_unsafe w ⟨b, 0, none⟩ Tryz.underlying126 Tryz.underlying85 hj hsh (by kernel_rfl)]
  simp only [Result.andThen]
  rw [Oper.upon_value]
  go_wp2
  go_end0
  exact ⟨rfl, rfl⟩
theorem wpl_append_strG {w : World} {ops : Array Oper} {rest : List Oper} {o : Oper} {a : Act} {Q : Exit → Act → World → Prop} (hgd : o.guard = none) (s x : Operand)
    (ho : o.op = .call { callee := .builtin .append, args := #[s, x], argTypes := #[29, 9] })
    (B : Nat) (v : Value) (l k t : List UInt8) (S : ByteArray) (hS : bytes k = S) (hs : a.eval s = v) (hown : OwnB B w v l) (hx : a.eval x = .string S)
    (hlen : l.length + k.length ≤ 4294967296) (hB : B ≤ w.heap.size) (ht : l ++ k = t)
    (h : ∀ v' w', OwnB B w' v' t → Below B w w' → (∀ j, j < w.heap.size → some j ≠ v.ownBlock → w'.heap[j]? = w.heap[j]?) → wpList Tryz.prog ops Q rest (a.put o.dst v') w') : wpList Tryz.prog ops Q (o :: rest) a w := by
  subst ht
  subst hS
  obtain ⟨i0, hi, hz0, hz1, hz2⟩ := info_parts infoB
  have hlt := World.ownsRow.lt hown
  have hsz : (bytes k).size = k.length := bytes_size k
  refine Lib.wpList_append_own_string _ hgd s x 29 9 ho B 5 i0 Tryz.underlying29 Tryz.underlying9 hi hz0 hz1 hz2 v l.length (bcells l) hs hown (bytes k) hx (by rw [hsz]; unfold maxLen; omega) (by rw [hsz]; omega) hB ?_
  intro v' w' hown' hg _
  refine h v' w' ?_ ((Below.refl B w).grown hg hB (fun j hj => (hlt j hj).1)) (fun j h1 h2 => hg.block j h1 h2)
  have e : Lib.strCells (bytes k) = bcells k := by simp [Lib.strCells, bcells, bytes_list]
  rw [e, hsz, ← bcells_append, ← List.length_append] at hown'
  exact hown'
end Go.Proofs.YtlobinjdgcidmaaGreatDoor
/- smap's small functions: inRange, isBefore, segment: for any segments. -/
namespace Go.Proofs.YtlobinjdgcidmaaGreatDoor
open Go.RowKit
set_option linter.unusedVariables false
set_option linter.unusedSimpArgs false

def s4a (x : M.S4) : Value := .agg #[.int .i64 x.1, .int .i64 x.2.1, .int .i64 x.2.2.1, .int .i64 x.2.2.2]
theorem vbytes (l : List UInt8) : V.bytes l = bytes l := rfl
theorem bytes_join (k l : List UInt8) : bytes k ++ V.bytes l = bytes (k ++ l) := by
  rw [vbytes]; unfold bytes; rw [ByteArray.mk_append_mk]
def inB (n : Int) : Bool := decide (0 ≤ n) && decide (n ≤ 1073741824)
set_option maxRecDepth 100000 in
set_option maxHeartbeats 1000000 in
theorem sinrange_any (x : M.S4) (r : Bool) (w : World) (hr : M.okS x = r) :
    Calls Tryz.prog 38 #[s4a x] w fun e w' => e = .returned (.bool r) ∧ Below w.heap.size w w' := by
  obtain ⟨a, b, c, d⟩ := x
  have hok := M.okS_iff (a, b, c, d)
  rw [hr] at hok
  simp only at hok
  unfold s4a
  obtain ⟨W, hW⟩ : ∃ W, (w.alloc (.cells #[.int .i64 a, .int .i64 b, .int .i64 c, .int .i64 d] 39)).alloc (.cells #[.int .i64 a, .int .i64 b, .int .i64 c, .int .i64 d] 3) = W := ⟨_, rfl⟩
  have hb2 : Below w.heap.size w W := by rw [← hW]; exact ((Below.refl _ _).alloc (Nat.le_refl _) _).alloc (by simp) _
  have hc0 : W.cell? ⟨w.heap.size, 0, none⟩ = some (.int .i64 a) := by
    rw [← hW, World.cell?_alloc_past _ _ _ (by simp), World.cell?_alloc_at _ _ _ _ rfl]; rfl
  have hcs : ∀ i, i < 4 → W.cell? ⟨w.heap.size + 1, i, none⟩ = some (.int .i64 ([a, b, c, d].getD i 0)) := by
    intro i hi
    rw [← hW, World.cell?_alloc_at _ _ _ _ (by simp)]
    have : i = 0 ∨ i = 1 ∨ i = 2 ∨ i = 3 := by omega
    rcases this with rfl | rfl | rfl | rfl <;> rfl
  have HB2 := Lib.hid hb2
  have HOK := Lib.hid hok
  have HW := Lib.hid hW
  have HCS := Lib.hid hcs
  have H0 := Lib.hid hc0
  have HR := Lib.hid hr
  clear hok hb2 hr hW hcs hc0
  go_enter Tryz.func38, Tryz.ntmps38
  go_wp2
  rw [HW.out]
  go_loop [15] (fun iv => ∃ i : Nat, iv = .int .i64 (i : Int) ∧ i ≤ 4 ∧ ∀ j, j < i → inB ([a, b, c, d].getD j 0) = true) (fun iv => 4 - (intOf iv).toNat)
  case atStart => exact ⟨0, rfl, by omega, fun j h => by omega⟩
  case round =>
    obtain ⟨i, rfl, hi, hall⟩ := hrel
    have HA := Lib.hid hall
    clear hall
    by_cases hlt : i < 4
    · have ci := HCS.out i hlt
      obtain ⟨q, hq⟩ : ∃ q, [a, b, c, d].getD i 0 = q := ⟨_, rfl⟩
      rw [hq] at ci
      have HQ := Lib.hid hq
      have i1 : (i : Int) < 4 := by omega
      clear hq
      by_cases hbad : q < 0 ∨ 1073741824 < q
      · obtain rfl : r = false := by
          cases r with
          | false => rfl
          | true =>
            have h := HOK.out.1 rfl
            have hq := HQ.out
            have : i = 0 ∨ i = 1 ∨ i = 2 ∨ i = 3 := by omega
            rcases this with rfl | rfl | rfl | rfl <;> (simp at hq; omega)
        by_cases hneg : q < 0
        · clear hbad
          go_wp2
          go_ret
          exact ⟨rfl, HB2.out⟩
        · have hbig : 1073741824 < q := by omega
          clear hbad
          go_wp2
          go_ret
          exact ⟨rfl, HB2.out⟩
      · have q0 : ¬ q < 0 := by omega
        have q1 : ¬ 1073741824 < q := by omega
        clear hbad
        go_wp2
        go_round
        case rel =>
          refine ⟨i + 1, by go_num, by omega, fun j hj => ?_⟩
          by_cases hji : j < i
          · exact HA.out j hji
          · obtain rfl : j = i := by omega
            rw [HQ.out]; simp [inB]; omega
        case measure => simp [intOf]; omega
    · obtain rfl : i = 4 := by omega
      have h0 := HA.out 0 (by omega)
      have h1 := HA.out 1 (by omega)
      have h2 := HA.out 2 (by omega)
      have h3 := HA.out 3 (by omega)
      simp [inB] at h0 h1 h2 h3
      have ha := H0.out
      clear hlt
      by_cases hbig : a ≤ 100000
      · obtain rfl : r = true := HOK.out.2 ⟨by omega, hbig, by omega, by omega, by omega, by omega, by omega, by omega⟩
        clear h0 h1 h2 h3
        go_wp2
        go_ret
        exact ⟨rfl, HB2.out⟩
      · obtain rfl : r = false := by
          cases r with
          | false => rfl
          | true => have h := HOK.out.1 rfl; omega
        clear h0 h1 h2 h3
        go_wp2
        go_ret
        exact ⟨rfl, HB2.out⟩
set_option maxRecDepth 100000 in
set_option maxHeartbeats 1000000 in
theorem sbefore_any (x y : M.S4) (r : Bool) (w : World) (hr : M.befS x y = r) :
    Calls Tryz.prog 39 #[s4a x, s4a y] w fun e w' => e = .returned (.bool r) ∧ Below w.heap.size w w' := by
  obtain ⟨a, b, c, d⟩ := x
  obtain ⟨a', b', c', d'⟩ := y
  have hbf := M.befS_iff (a, b, c, d) (a', b', c', d')
  rw [hr] at hbf
  simp only at hbf
  unfold s4a
  have hb2 : Below w.heap.size w ((w.alloc (.cells #[.int .i64 a, .int .i64 b, .int .i64 c, .int .i64 d] 39)).alloc (.cells #[.int .i64 a', .int .i64 b', .int .i64 c', .int .i64 d'] 39)) := ((Below.refl _ _).alloc (Nat.le_refl _) _).alloc (by simp) _
  have HB2 := Lib.hid hb2
  have HBF := Lib.hid hbf
  clear hb2 hbf hr
  have hw : (a < a' ∧ r = true) ∨ (a = a' ∧ b < b' ∧ r = true) ∨ (a = a' ∧ ¬ b < b' ∧ r = false) ∨ (a' < a ∧ r = false) := by
    cases r with
    | true => have h := HBF.out.1 rfl; rcases h with h | ⟨h, h2⟩ <;> simp <;> omega
    | false =>
      have h : ¬ (a < a' ∨ a = a' ∧ b < b') := fun h => by have := HBF.out.2 h; simp at this
      simp; omega
  rcases hw with ⟨h1, rfl⟩ | ⟨rfl, h1, rfl⟩ | ⟨rfl, h1, rfl⟩ | ⟨h1, rfl⟩
  · go_enter Tryz.func39, Tryz.ntmps39
    go_wp2
    go_ret
    exact ⟨rfl, HB2.out⟩
  · have h0 : ¬ a < a := by omega
    go_enter Tryz.func39, Tryz.ntmps39
    go_wp2
    go_ret
    exact ⟨rfl, HB2.out⟩
  · have h0 : ¬ a < a := by omega
    go_enter Tryz.func39, Tryz.ntmps39
    go_wp2
    go_ret
    exact ⟨rfl, HB2.out⟩
  · have h0 : ¬ a < a' := by omega
    have h2 : (a == a') = false := by rw [beq_eq_false_iff_ne]; omega
    go_enter Tryz.func39, Tryz.ntmps39
    go_wp2
    go_ret
    exact ⟨rfl, HB2.out⟩
set_option maxRecDepth 100000 in
set_option maxHeartbeats 1000000 in
theorem segment_any (x y : M.S4) (T : ByteArray) (w : World) (hx : M.okS x = true) (hy0 : 0 ≤ y.2.1 ∧ y.2.1 ≤ 1073741824 ∧ 0 ≤ y.2.2.1 ∧ y.2.2.1 ≤ 1073741824 ∧ 0 ≤ y.2.2.2 ∧ y.2.2.2 ≤ 1073741824)
    (hT : bytes (M.four (x.2.1 - y.2.1) (x.2.2.1 - y.2.2.1) (x.2.2.2 - y.2.2.2)) = T) :
    Calls Tryz.prog 42 #[s4a x, s4a y] w fun e w' => e = .returned (.string T) ∧ Below w.heap.size w w' := by
  obtain ⟨a, b, c, d⟩ := x
  obtain ⟨a', b', c', d'⟩ := y
  have hok := (M.okS_iff (a, b, c, d)).1 hx
  simp only at hok hy0 hT
  obtain ⟨o1, o2, o3, o4, o5, o6, o7, o8⟩ := hok
  obtain ⟨g1, g2, g3, g4, g5, g6⟩ := hy0
  unfold s4a
  obtain ⟨W, hW⟩ : ∃ W, (w.alloc (.cells #[.int .i64 a, .int .i64 b, .int .i64 c, .int .i64 d] 39)).alloc (.cells #[.int .i64 a', .int .i64 b', .int .i64 c', .int .i64 d'] 39) = W := ⟨_, rfl⟩
  have hb2 : Below w.heap.size w W := by rw [← hW]; exact ((Below.refl _ _).alloc (Nat.le_refl _) _).alloc (by simp) _
  have hz : W.heap.size = w.heap.size + 2 := by rw [← hW]; simp
  have cx : ∀ i, i < 4 → W.cell? ⟨w.heap.size, i, none⟩ = some (.int .i64 ([a, b, c, d].getD i 0)) := by
    intro i hi
    rw [← hW, World.cell?_alloc_past _ _ _ (by simp), World.cell?_alloc_at _ _ _ _ rfl]
    have : i = 0 ∨ i = 1 ∨ i = 2 ∨ i = 3 := by omega
    rcases this with rfl | rfl | rfl | rfl <;> rfl
  have cy : ∀ i, i < 4 → W.cell? ⟨w.heap.size + 1, i, none⟩ = some (.int .i64 ([a', b', c', d'].getD i 0)) := by
    intro i hi
    rw [← hW, World.cell?_alloc_at _ _ _ _ (by simp)]
    have : i = 0 ∨ i = 1 ∨ i = 2 ∨ i = 3 := by omega
    rcases this with rfl | rfl | rfl | rfl <;> rfl
  have keep : ∀ V, Below W.heap.size W V → (V.cell? ⟨w.heap.size, 2, none⟩ = some (.int .i64 c) ∧ V.cell? ⟨w.heap.size, 3, none⟩ = some (.int .i64 d) ∧ V.cell? ⟨w.heap.size + 1, 2, none⟩ = some (.int .i64 c') ∧ V.cell? ⟨w.heap.size + 1, 3, none⟩ = some (.int .i64 d')) := fun V h =>
    ⟨(h.cell (p := ⟨w.heap.size, 2, none⟩) (by show w.heap.size < _; omega)).trans (cx 2 (by omega)), (h.cell (p := ⟨w.heap.size, 3, none⟩) (by show w.heap.size < _; omega)).trans (cx 3 (by omega)),
     (h.cell (p := ⟨w.heap.size + 1, 2, none⟩) (by show w.heap.size + 1 < _; omega)).trans (cy 2 (by omega)), (h.cell (p := ⟨w.heap.size + 1, 3, none⟩) (by show w.heap.size + 1 < _; omega)).trans (cy 3 (by omega))⟩
  obtain ⟨T1, hT1⟩ : ∃ T, bytes (V.text (b - b')) = T := ⟨_, rfl⟩
  obtain ⟨T2, hT2⟩ : ∃ T, bytes (V.text (b - b') ++ V.text 0) = T := ⟨_, rfl⟩
  obtain ⟨T3, hT3⟩ : ∃ T, bytes (V.text (b - b') ++ V.text 0 ++ V.text (c - c')) = T := ⟨_, rfl⟩
  have l1 := V.text_len (b - b')
  have l2 := V.text_len 0
  have l3 := V.text_len (c - c')
  have P1 := Lib.hid (fun W => vq_put_to ⟨#[]⟩ T1 (b - b') W (by omega) (by omega) (by decide) (by rw [vq_empty_bytes, ← hT1]; rfl))
  have P2 := Lib.hid (fun W => vq_put_to T1 T2 0 W (by omega) (by omega) (by rw [← hT1, bytes_size]; omega) (by rw [← hT1, ← hT2, bytes_join]))
  have P3 := Lib.hid (fun W => vq_put_to T2 T3 (c - c') W (by omega) (by omega) (by rw [← hT2, bytes_size, List.length_append]; omega) (by rw [← hT2, ← hT3, bytes_join]))
  have P4 := Lib.hid (fun W => vq_put_to T3 T (d - d') W (by omega) (by omega) (by rw [← hT3, bytes_size, List.length_append, List.length_append]; omega) (by rw [← hT3, ← hT, bytes_join]; rfl))
  have HB2 := Lib.hid hb2
  have HW := Lib.hid hW
  have HZ := Lib.hid hz
  have KP := Lib.hid keep
  have x1 := cx 1 (by omega)
  have y1 := cy 1 (by omega)
  simp only [List.getD_cons_succ, List.getD_cons_zero] at x1 y1
  clear hT hT1 hT2 hT3 hW hz hb2 cx cy keep l1 l2 l3 hx
  go_enter Tryz.func42, Tryz.ntmps42
  go_wp2_with fail
  rw [HW.out]
  refine (P1.out _).mono ?_
  rintro e w1 ⟨rfl, hb1⟩
  have HX1 := Lib.hid hb1
  clear hb1 x1 y1
  go_wp2_with fail
  refine (P2.out _).mono ?_
  rintro e w2 ⟨rfl, hb2⟩
  have hx2 := HX1.out.trans (hb2.mono HX1.out.size)
  obtain ⟨k1, -, k3, -⟩ := KP.out w2 hx2
  have HX2 := Lib.hid hx2
  clear hb2 hx2
  go_wp2_with fail
  refine (P3.out _).mono ?_
  rintro e w3 ⟨rfl, hb3⟩
  have hx3 := HX2.out.trans (hb3.mono HX2.out.size)
  obtain ⟨-, k2, -, k4⟩ := KP.out w3 hx3
  have HX3 := Lib.hid hx3
  clear hb3 hx3 k1 k3
  go_wp2_with fail
  refine (P4.out _).mono ?_
  rintro e w4 ⟨rfl, hb4⟩
  have hx4 := HX3.out.trans (hb4.mono HX3.out.size)
  have hf := HB2.out.trans (hx4.mono HB2.out.size)
  clear hb4 hx4 k2 k4
  go_wp2
  go_ret
  exact ⟨rfl, hf⟩
end Go.Proofs.YtlobinjdgcidmaaGreatDoor
/- WriteString once more, with word of the blocks that stay as they were. -/
namespace Go.Proofs.YtlobinjdgcidmaaGreatDoor
open Go.RowKit
set_option linter.unusedVariables false
set_option linter.unusedSimpArgs false

def Apt (b : Nat) (w w' : World) : Prop := ∀ (j : Nat) (cs : Array Value) (T : TypeId) (fr : Nat × Nat), j < w.heap.size → j ≠ b → w.heap[j]? = some (.cells cs T fr) → T ≠ 5 → w'.heap[j]? = w.heap[j]?
theorem bcheckF_any (B b : Nat) (l : List UInt8) (w : World) (h : Bd B b l w) :
    Calls Tryz.prog 60 #[.pointer (some ⟨b, 0, none⟩)] w fun e w' => e = .returned (.tuple #[]) ∧ Lib.BuilderAt 87 5 B b (.pointer (some ⟨b, 0, none⟩)) (bcells l) w' ∧ Below B w w' ∧ Apt b w w' := by
  rcases h with h | h
  · refine (bcheck_fresh b w h.cell0 h.shape h.frozen0).mono ?_
    rintro e w' ⟨rfl, rfl⟩
    exact ⟨rfl, h.used _, (Below.refl B w).setCell (p := ⟨b, 0, none⟩) h.1 _, fun j cs T fr _ hjb _ _ => Below.heap_setCell _ _ _ _ (fun e => hjb e)⟩
  · refine (bcheck_used b w h.cell0).mono ?_
    rintro e w' ⟨rfl, rfl⟩
    exact ⟨rfl, h, Below.refl B _, fun j cs T fr _ _ _ _ => rfl⟩
set_option maxRecDepth 100000 in
set_option maxHeartbeats 2000000 in
theorem bwriteF_any (B b : Nat) (l k t : List UInt8) (S : ByteArray) (hS : bytes k = S) (w : World) (h : Bd B b l w) (hl : l.length + k.length ≤ 4294967296) (hB : B ≤ w.heap.size) (ht : l ++ k = t) :
    Calls Tryz.prog 40 #[.pointer (some ⟨b, 0, none⟩), .string S] w fun e w' => e = .returned (.tuple #[.int .i64 (S.size : Int), .nilIface]) ∧ Bd B b t w' ∧ Below B w w' ∧ Apt b w w' := by
  have CK := Lib.hid (bcheckF_any B b l w h)
  have HS := Lib.hid hS
  have HT := Lib.hid ht
  clear hS h ht
  go_enter Tryz.func40, Tryz.ntmps40
  go_wp2_with fail
  refine CK.out.mono ?_
  rintro e w1 ⟨rfl, ⟨hBb, vv, hbk, hown, hne⟩, hb1, hap1⟩
  have HAP1 := Lib.hid hap1
  have HRAW := Lib.hid hown
  have hlt : b < w1.heap.size := Array.getElem?_eq_some_iff.1 hbk |>.1
  have c0 : w1.cell? ⟨b, 0, none⟩ = some (.pointer (some ⟨b, 0, none⟩)) := by rw [Lib.cell_of_heap hbk]; rfl
  have c1 : w1.cell? ⟨b, 1, none⟩ = some vv := by rw [Lib.cell_of_heap hbk]; rfl
  have hbz := hb1.size
  have hown2 : OwnB B w1 vv l := by unfold OwnB; rw [bcells_len] at hown; exact hown
  have HK := Lib.hid hbk
  have HNE := Lib.hid hne
  have Hb1 := Lib.hid hb1
  have HO := Lib.hid hown2
  have hB1 : B ≤ w1.heap.size := by omega
  clear hbk hne hb1 hown hown2 hap1
  go_wp2_with (at_builtin; refine wpl_append_strG rfl _ _ rfl B _ l k t S HS.out rfl HO.out rfl hl hB1 HT.out ?_)
  intro v' w2 hown' hbw hgrow
  have hb2 : w2.heap[b]? = some (.cells #[.pointer (some ⟨b, 0, none⟩), vv] 87 (0, 0)) := by
    rw [hgrow b hlt (fun e => HNE.out e.symm)]
    exact HK.out
  have d0 : w2.cell? ⟨b, 0, none⟩ = some (.pointer (some ⟨b, 0, none⟩)) := by rw [Lib.cell_of_heap hb2]; rfl
  have d1 : w2.cell? ⟨b, 1, none⟩ = some vv := by rw [Lib.cell_of_heap hb2]; rfl
  have f1 : w2.frozen? ⟨b, 1, none⟩ = false := Lib.frozen_of_heap hb2 1
  obtain ⟨ao, n', cap, rfl⟩ : ∃ ao n' cap, v' = .slice ao n' cap := by
    rcases hown'.2 with ⟨hv, _⟩ | ⟨g, cap, cur, hv, _⟩
    · exact ⟨_, _, _, hv⟩
    · exact ⟨_, _, _, hv⟩
  have HB2 := Lib.hid hb2
  have HO2 := Lib.hid hown'
  have HBW := Lib.hid hbw
  have HGR := Lib.hid hgrow
  clear hb2 hown' hgrow c0 c1 hbw
  go_wp2
  go_ret2
  refine ⟨rfl, .inr ?_, ?_, ?_⟩
  · refine Lib.BuilderAt.put hBb HB2.out ?_ (by decide)
    have h := HO2.out
    unfold OwnB at h
    rw [bcells_len]
    exact h
  · exact (Hb1.out.trans HBW.out).setCell (p := ⟨b, 1, none⟩) hBb _
  · intro j cs T fr hj hjb hcs hT
    have h1 := HAP1.out j cs T fr hj hjb hcs hT
    have h2 : w1.heap[j]? = some (.cells cs T fr) := h1.trans hcs
    have h3 : vv.ownBlock ≠ some j := Lib.ownBlock_ne HRAW.out h2 hT
    have hj1 : j < w1.heap.size := (Array.getElem?_eq_some_iff.1 h2).1
    rw [Below.heap_setCell _ _ _ _ (fun e => hjb e), HGR.out j hj1 (fun e => h3 e.symm), h1]
end Go.Proofs.YtlobinjdgcidmaaGreatDoor
