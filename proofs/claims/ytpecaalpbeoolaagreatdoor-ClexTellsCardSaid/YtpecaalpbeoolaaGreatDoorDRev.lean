/- slices.Reverse at bytes of the call's own. -/
import Derived.Test.YtpecaalpbeoolaaGreatDoorDec
import Derived.Test.YtpecaalpbeoolaaGreatDoorMgB
import Derived.Sort.WalkB12
import Derived.Sort.WalkC
import Derived.BigRegion
import Derived.WalkSmall
namespace Go.Proofs.YtpecaalpbeoolaaGreatDoor
open Go.RowKit Go.Sort
set_option linter.unusedVariables false

def enc8 (c : UInt8) : Value := .int .u8 (c.toNat : Int)
/-- i exchanges from both ends. -/
def swE (d : Array UInt8) : Nat → Array UInt8
  | 0 => d
  | i + 1 => swp (swE d i) i (d.size - 1 - i)
theorem swp_size (d : Array UInt8) (i j : Nat) : (swp d i j).size = d.size := by simp [swp]
theorem swE_size (d : Array UInt8) (i : Nat) : (swE d i).size = d.size := by
  induction i with
  | zero => rfl
  | succ i ih => rw [swE, swp_size, ih]
theorem swp_get (d : Array UInt8) (i j k : Nat) (hi : i < d.size) (hj : j < d.size) (hk : k < d.size) : (swp d i j)[k]! = if k = j then d[i]! else if k = i then d[j]! else d[k]! := by
  have e1 : ∀ (a : Array UInt8) (m : Nat) (x : UInt8), m < a.size → ∀ k, k < a.size → (a.setIfInBounds m x)[k]! = if k = m then x else a[k]! := by
    intro a m x hm k hk
    by_cases h : k = m
    · subst h; rw [if_pos rfl]; exact getElem!_set_same a k x hm
    · rw [if_neg h, getElem!_pos _ k (by simpa using hk), getElem!_pos a k hk, Array.getElem_setIfInBounds, if_neg (fun hh => h hh.symm)]
  unfold swp
  rw [e1 _ _ _ (by simpa using hj) k (by simpa using hk), e1 _ _ _ hi k hk]
theorem swE_get (d : Array UInt8) (i k : Nat) (hi : 2 * i ≤ d.size) (hk : k < d.size) : (swE d i)[k]! = if k < i ∨ d.size - 1 - k < i then d[d.size - 1 - k]! else d[k]! := by
  induction i generalizing k with
  | zero => simp [swE]
  | succ i ih =>
    have hs := swE_size d i
    rw [swE, swp_get _ _ _ _ (by omega) (by omega) (by omega), ih i (by omega) (by omega), ih (d.size - 1 - i) (by omega) (by omega), ih k (by omega) hk]
    by_cases h1 : k = d.size - 1 - i
    · subst h1
      rw [if_pos rfl, if_neg (by omega), if_pos (by omega), show d.size - 1 - (d.size - 1 - i) = i by omega]
    · rw [if_neg h1]
      by_cases h2 : k = i
      · subst h2
        rw [if_pos rfl, if_neg (by omega), if_pos (by omega)]
      · rw [if_neg h2]
        by_cases h3 : k < i ∨ d.size - 1 - k < i
        · rw [if_pos h3, if_pos (by omega)]
        · rw [if_neg h3, if_neg (by omega)]
theorem swE_rev (d : Array UInt8) : swE d (d.size / 2) = d.reverse := by
  have hs := swE_size d (d.size / 2)
  apply Array.ext
  · rw [hs]; simp
  · intro k h1 h2
    have hk : k < d.size := by omega
    have := swE_get d (d.size / 2) k (by omega) hk
    rw [getElem!_pos _ k h1] at this
    rw [this]
    simp only [Array.getElem_reverse]
    by_cases h3 : k < d.size / 2 ∨ d.size - 1 - k < d.size / 2
    · rw [if_pos h3, getElem!_pos d _ (by omega)]
    · rw [if_neg h3, getElem!_pos d k hk]
      congr 1
      omega

theorem holds_own {B : Nat} {w : World} {g n cap : Nat} {l : List UInt8} (h : OwnB B w (.slice (some ⟨g, 0, none⟩) n cap) l) : n = l.length ∧ Holds enc8 w g 0 l.toArray := by
  have hc := h
  obtain ⟨h1, ⟨h2, _⟩ | ⟨g', cap', cur, he, h2, h3, h4, h5, h6, h7⟩⟩ := h
  · simp at h2
  · simp only [Value.slice.injEq, Option.some.injEq, Addr.mk.injEq, and_true] at he
    obtain ⟨rfl, rfl, rfl⟩ := he
    refine ⟨rfl, fun j hj => ⟨?_, ?_⟩⟩
    · have hj' : j < l.length := by simpa using hj
      have := World.ownsRow.cells hc rfl j (.int .u8 (l[j].toNat : Int)) (by simp [bcells, hj'])
      rw [show (⟨g, 0, none⟩ : Addr).add j = ⟨g, 0 + j, none⟩ by cases j <;> simp [Addr.add]] at this
      rw [this]
      unfold enc8
      rw [getElem!_pos _ j hj]
      simp
    · simp [World.frozen?, h3]

theorem own_put {B : Nat} {w : World} {g n cap : Nat} {l : List UInt8} (h : OwnB B w (.slice (some ⟨g, 0, none⟩) n cap) l) (d : Array UInt8) (hd : d.size = l.length) (q : Nat) :
    OwnB B ((putRow enc8 w g 0 d).drewN q) (.slice (some ⟨g, 0, none⟩) n cap) d.toList ∧ Below B w ((putRow enc8 w g 0 d).drewN q) := by
  obtain ⟨h1, ⟨h2, _⟩ | ⟨g', cap', cur, he, h2, h3, h4, h5, h6, h7⟩⟩ := h
  · simp at h2
  · simp only [Value.slice.injEq, Option.some.injEq, Addr.mk.injEq, and_true] at he
    obtain ⟨rfl, rfl, rfl⟩ := he
    have hlt : g < w.heap.size := (Array.getElem?_eq_some_iff.1 h3).1
    have hput : (putRow enc8 w g 0 d).heap[g]? = some (.cells (putCells enc8 0 d cur) 5 (0, 0)) := by
      unfold putRow mapBlock
      simp only [Array.getElem?_modify, if_true]
      rw [h3]
      rfl
    have hlen : d.toList.length = l.length := by simpa using hd
    refine ⟨⟨by simp [bcells, hd], .inr ⟨g, cap, putCells enc8 0 d cur, by rw [hlen], h2, hput, by rw [hlen]; exact h4, h5, by simp [putCells, h6], ?_⟩⟩, ?_⟩
    · rw [hlen, Nat.mul_one]
      apply List.ext_getElem
      · simp [putCells, bcells, hd, h6]; omega
      · intro k k1 k2
        have hk : k < l.length := by simp [bcells, hd] at k2; omega
        have hk3 : k < d.size := by omega
        simp [putCells, bcells, enc8, hk3]
    · refine ⟨rfl, rfl, rfl, by show w.heap.size ≤ (w.heap.modify g _).size; simp, fun k hk => ?_⟩
      show (w.heap.modify g _)[k]? = _
      rw [Array.getElem?_modify, if_neg (by omega)]

set_option maxRecDepth 1000000 in
set_option maxHeartbeats 4000000 in
theorem rev_any (B : Nat) (v : Value) (l k : List UInt8) (w : World) (hv : OwnB B w v l) (hl : l.length ≤ 1048576) (hk : l.reverse = k) :
    Calls Tryz.prog 144 #[v] w fun e w' => e = .returned (.tuple #[]) ∧ OwnB B w' v k ∧ Below B w w' := by
  have hv2 := hv
  obtain ⟨_, ⟨rfl, h0⟩ | ⟨g, cap, cur, rfl, _⟩⟩ := hv2
  · have : l = [] := List.length_eq_zero_iff.1 h0
    subst this
    have : k = [] := by rw [← hk]; rfl
    subst this
    have Hv := Lib.hid hv
    clear hv hk h0
    go_enter Tryz.func144, Tryz.ntmps144
    go_wp2
    refine wp_loop_rounds 1 ?_
    rw [rounds_succ]
    go_wp2
    go_end0
    exact ⟨rfl, Hv.out, Below.refl _ _⟩
  · obtain ⟨_, hh⟩ := holds_own hv
    obtain ⟨d, hd⟩ : ∃ d, l.toArray = d := ⟨_, rfl⟩
    have hds : d.size = l.length := by rw [← hd]; simp
    rw [hd] at hh
    obtain ⟨n, hn⟩ : ∃ n, l.length = n := ⟨_, rfl⟩
    rw [hn] at hds hl ⊢
    have hfin : ∀ q, OwnB B ((putRow enc8 w g 0 (swE d (n / 2))).drewN q) (.slice (some ⟨g, 0, none⟩) n cap) k ∧ Below B w ((putRow enc8 w g 0 (swE d (n / 2))).drewN q) := by
      intro q
      rw [hn] at hv
      have := own_put hv (swE d (n / 2)) (by rw [swE_size, hds, hn]) q
      rw [show (swE d (n / 2)).toList = k by rw [← hds, swE_rev, ← hk, ← hd]; simp] at this
      exact this
    have Hfin := Lib.hid hfin
    have Hh := Lib.hid hh
    have hself := putRow_self enc8 w g 0 d hh
    have Hself := Lib.hid hself
    clear hv hh hfin hself hk hd hn
    go_enter Tryz.func144, Tryz.ntmps144
    go_wp2
    go_loopw [2, 3] (fun iv jv wr => ∃ (i q : Nat), iv = .int .i64 i ∧ jv = .int .i64 ((n : Int) - 1 - i) ∧ 2 * i ≤ n ∧ wr = (putRow enc8 w g 0 (swE d i)).drewN q) (fun iv _ _ => n - (intOf iv).toNat)
    case atStart => exact ⟨0, 0, rfl, by simp, by omega, by rw [show swE d 0 = d from rfl, Hself.out]; rfl⟩
    case round =>
      obtain ⟨i, q, rfl, rfl, hi, hw⟩ := hrel
      by_cases hlt : 2 * i + 1 < n
      · have hsw := swE_size d i
        have hHi := holds_putRow enc8 w g 0 d (swE d i) Hh.out (by rw [hsw])
        have ci := hHi i (by omega)
        have cj := hHi (n - 1 - i) (by omega)
        obtain ⟨x, hx⟩ : ∃ x, (swE d i)[i]! = x := ⟨_, rfl⟩
        obtain ⟨y, hy⟩ : ∃ x, (swE d i)[n - 1 - i]! = x := ⟨_, rfl⟩
        rw [hx] at ci
        rw [hy] at cj
        simp only [Nat.zero_add] at ci cj
        have hsw2 := swap_worldC enc8 w g 0 (swE d i) q i (n - 1 - i) (by omega) (by omega)
        rw [hx, hy] at hsw2
        simp only [Nat.zero_add] at hsw2
        have hnext : swE d (i + 1) = swp (swE d i) i (n - 1 - i) := by rw [swE, hds]
        rw [← hnext] at hsw2
        have w1 : wr.cell? ⟨g, i, none⟩ = some (.int .u8 (x.toNat : Int)) := by rw [hw]; exact ci.1
        have w2 : wr.cell? ⟨g, n - 1 - i, none⟩ = some (.int .u8 (y.toNat : Int)) := by rw [hw]; exact cj.1
        have z1 : wr.frozen? ⟨g, i, none⟩ = false := by rw [hw]; exact ci.2
        have z2 : wr.frozen? ⟨g, n - 1 - i, none⟩ = false := by rw [hw]; exact cj.2
        have i1 : (0 : Int) ≤ i := by omega
        have i2 : (i : Int) < n := by omega
        have i3 : (0 : Int) ≤ (n : Int) - 1 - i := by omega
        have i4 : (n : Int) - 1 - i < n := by omega
        have i5 : ((n : Int) - 1 - i).toNat = n - 1 - i := by omega
        have i6 : (i : Int) < (n : Int) - 1 - i := by omega
        have i7 : i ≠ n - 1 - i := by omega
        rw [← hw] at hsw2
        have Hsw := Lib.hid hsw2
        have Hw := Lib.hid hw
        clear hsw hHi ci cj hx hy hsw2 hnext hw
        go_wp2_with fail
        go_region
        go_wp2
        go_roundw
        case rel => exact ⟨i + 1, q + 1, by go_num, by congr 1; omega, by omega, Hsw.out⟩
        case measure => simp [intOf]; omega
      · have he : i = n / 2 := by omega
        have hb : ¬ (i : Int) < (n : Int) - 1 - i := by omega
        subst he
        have hf := Hfin.out q
        rw [← hw] at hf
        have Hf := Lib.hid hf
        clear hf hw
        go_wp2
        go_end0
        exact ⟨rfl, Hf.out⟩
end Go.Proofs.YtpecaalpbeoolaaGreatDoor
