/- vlq.Put: what is returned for any text and any number in range. -/
import Derived.Test.YtpfbhdkljcjhlaaDoorRows
import Derived.Test.YtpfbhdkljcjhlaaDoorVqMath
import Derived.Test.YtpfbhdkljcjhlaaDoorUBase
import Derived.WalkKit
import Derived.ProofKit
import Derived.OpenShut
import Derived.Below
import Derived.Lib.Hide
import Derived.Laws.BytesArg
import Derived.Lib.SlBytesRow
namespace Go.Proofs.YtpfbhdkljcjhlaaDoor
open Go.RowKit

set_option maxRecDepth 100000 in
theorem vq_info5 : (Tryd.prog.info? 5).map (fun i => (i.zero, i.size, i.bytes)) = some (some (.int .u8 0), 1, 1) := by kernel_rfl

def lets (l : List Nat) : List Value := l.map fun d => .int .u8 ((V.letter d).toNat : Int)
theorem lets_snoc (l : List Nat) (d : Nat) : lets (l ++ [d]) = lets l ++ [.int .u8 ((V.letter d).toNat : Int)] := by simp [lets]

set_option maxRecDepth 100000 in
theorem vq_letter_at (x : Nat) (h : x < (ByteArray.mk V.alpha.toArray).size) : (ByteArray.mk V.alpha.toArray)[x]'h = V.letter x := by
  have h' : x < V.alpha.length := h
  show V.alpha.toArray[x] = V.alpha.getD x 0
  simp [List.getElem?_eq_getElem h']

set_option maxRecDepth 100000 in
theorem vq_one_new (w : World) (v : Value) (t : TypeId) (x : Value) (hx : v = x) : ∀ j u, [x][j]? = some u → (w.alloc (.cells #[v] t)).cell? ((⟨w.heap.size, 0, none⟩ : Addr).add j) = some u := by
  subst hx
  intro j u hj
  cases j with
  | zero => simp at hj; subst hj; exact (World.cell?_alloc_at _ _ _ _ rfl).trans rfl
  | succ j => simp at hj

set_option maxRecDepth 100000 in
theorem vq_conv_own {B : Nat} {w : World} {v : Value} {l : List Nat} (hown : w.ownsRow B 5 1 v l.length (lets l)) (hl : 0 < l.length) :
    ∃ g cap, v = .slice (some ⟨g, 0, none⟩) l.length cap ∧ (convert 47 9 (.slice (some ⟨g, 0, none⟩) l.length cap)).run Tryd.prog w = .ok (.string (V.bytes (l.map V.letter))) w := by
  have hc := hown
  obtain ⟨_, ⟨_, h0⟩ | ⟨g, cap, cur, rfl, _⟩⟩ := hown
  · omega
  refine ⟨g, cap, rfl, ?_⟩
  have hB : Lib.Bytes w g 0 (V.bytes (l.map V.letter)) := by
    intro i hi
    have hi' : i < l.length := by simpa [V.bytes, ByteArray.size] using hi
    have := hc.cells rfl i (.int .u8 ((V.letter l[i]).toNat : Int)) (by simp [lets, hi'])
    rw [show (⟨g, 0, none⟩ : Addr).add i = ⟨g, 0 + i, none⟩ by cases i <;> simp [Addr.add]] at this
    rw [this]
    congr 3
    show _ = (((l.map V.letter).toArray)[i]'(by simpa using hi')).toNat
    simp
  have := Lib.run_convert_whole (P := Tryd.prog) w 47 5 9 Tryd.underlying47 Tryd.underlying5 Tryd.underlying9 g 0 _ hB cap
  rw [show (V.bytes (l.map V.letter)).size = l.length by simp [V.bytes, ByteArray.size]] at this
  exact this

set_option maxRecDepth 100000 in
set_option maxHeartbeats 400000 in
theorem vq_put_any (s : ByteArray) (n : Int) (w : World) (h1 : -1099511627776 ≤ n) (h2 : n ≤ 1099511627776) (hs : s.size ≤ 1048576) :
    Calls Tryd.prog 34 #[.string s, .int .i64 n] w fun e w' => e = .returned (.string (s ++ V.bytes (V.text n))) ∧ Below w.heap.size w w' := by
  obtain ⟨i0, hi, hz0, hz1, hz2⟩ := info_parts vq_info5
  by_cases hn : n < 0
  all_goals
    go_enter Tryd.func34, Tryd.ntmps34
    go_wp2
    go_loopw [5, 6] (fun xv v wr => ∃ (f x : Nat) (l : List Nat), xv = .int .i64 x ∧ V.Left (V.zig n) f x l ∧ wr.ownsRow w.heap.size 5 1 v l.length (lets l) ∧ Below w.heap.size w wr) (fun xv _ _ => (intOf xv).toNat)
    case atStart =>
      refine ⟨8, V.zig n, [], ?_, V.left_start _ (V.zig_lt _ h1 h2), World.ownsRow_nil _ _ _ _, Below.refl _ _⟩
      unfold V.zig
      first | rw [if_pos (by omega)] | rw [if_neg (by omega)]
      congr 1
      omega
    case round =>
      obtain ⟨f, x, l, rfl, hL, hown, hb⟩ := hrel
      have hlen := V.left_len hL
      have hx := V.left_x hL
      have HL := Lib.hid hL
      have hsz := hb.size
      clear hL
      by_cases hx32 : 32 ≤ x
      · have hm : x % 32 < 32 := by omega
        go_wp2_with (at_builtin; refine wpList_append_own _ rfl _ _ 47 rfl w.heap.size 5 i0 (.int .u8 0) 1 1 Tryd.underlying47 hi hz0 hz1 hz2 rfl (by decide) _ _ _ rfl (hown.alloc _) ⟨wr.heap.size, 0, none⟩ 1 1 [.int .u8 ((V.letter (32 + x % 32)).toNat : Int)] rfl rfl ?c1 ?c2 ?c3 ?c4 ?c5 ?_)
        case c1 => exact vq_one_new _ _ _ _ (congrArg (fun b : UInt8 => Value.int .u8 (b.toNat : Int)) (vq_letter_at _ _))
        case c2 => intro u hu; simp at hu; subst hu; rfl
        case c3 => unfold maxLen; omega
        case c4 => omega
        case c5 => simp; omega
        intro v' w1 hown' hgrow _
        have hb1 := (hb.alloc hsz _).grown hgrow (by simp; omega) (fun j hj => (hown.lt j hj).1)
        clear hgrow hown hb
        go_wp2
        go_roundw
        case rel =>
          obtain ⟨g, hg⟩ := V.left_step HL.out hx32
          refine ⟨g, x / 32, l ++ [32 + x % 32], by simp, hg, ?_, hb1⟩
          rw [lets_snoc]; simpa using hown'
        case measure => simp [intOf]; omega
      · go_wp2_with (at_builtin; refine wpList_append_own _ rfl _ _ 47 rfl w.heap.size 5 i0 (.int .u8 0) 1 1 Tryd.underlying47 hi hz0 hz1 hz2 rfl (by decide) _ _ _ rfl (hown.alloc _) ⟨wr.heap.size, 0, none⟩ 1 1 [.int .u8 ((V.letter x).toNat : Int)] rfl rfl ?c1 ?c2 ?c3 ?c4 ?c5 ?_)
        case c1 => exact vq_one_new _ _ _ _ (congrArg (fun b : UInt8 => Value.int .u8 (b.toNat : Int)) (vq_letter_at _ _))
        case c2 => intro u hu; simp at hu; subst hu; rfl
        case c3 => unfold maxLen; omega
        case c4 => omega
        case c5 => simp; omega
        intro v' w1 hown' hgrow _
        have hb1 := (hb.alloc hsz _).grown hgrow (by simp; omega) (fun j hj => (hown.lt j hj).1)
        have hown2 : w1.ownsRow w.heap.size 5 1 v' (l ++ [x]).length (lets (l ++ [x])) := by rw [lets_snoc]; simpa using hown'
        obtain ⟨g, cap, rfl, hconv⟩ := vq_conv_own hown2 (by simp)
        simp only [List.length_append, List.length_cons, List.length_nil, Nat.zero_add] at hconv
        rw [V.left_stop HL.out (by omega), show (V.digs 9 (V.zig n)).map V.letter = V.text n from rfl] at hconv
        have ht : (V.bytes (V.text n)).size ≤ 9 := V.text_len n
        clear hgrow hown hb hown' hown2
        go_wp2
        go_ret
        exact ⟨rfl, hb1⟩

set_option maxRecDepth 100000 in
theorem vq_put_out (s : ByteArray) (n : Int) (w : World) (h : n < -1099511627776 ∨ 1099511627776 < n) :
    Calls Tryd.prog 34 #[.string s, .int .i64 n] w fun e w' => e = .returned (.string s) ∧ w = w' := by
  rcases h with h | h
  all_goals
    go_enter Tryd.func34, Tryd.ntmps34
    go_wp2
    go_ret
    exact ⟨rfl, rfl⟩

set_option maxRecDepth 100000 in
/-- The contract at a written text. -/
theorem vq_put_to (s r : ByteArray) (n : Int) (w : World) (h1 : -1099511627776 ≤ n) (h2 : n ≤ 1099511627776) (hs : s.size ≤ 1048576) (hr : s ++ V.bytes (V.text n) = r) :
    Calls Tryd.prog 34 #[.string s, .int .i64 n] w fun e w' => e = .returned (.string r) ∧ Below w.heap.size w w' := by
  subst hr; exact vq_put_any s n w h1 h2 hs
set_option maxRecDepth 100000 in
theorem vq_empty_bytes (l : List UInt8) : (ByteArray.mk #[]) ++ V.bytes l = V.bytes l := by
  apply ByteArray.ext; simp [V.bytes]
end Go.Proofs.YtpfbhdkljcjhlaaDoor
