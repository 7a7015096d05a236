/- Texts of ours in one: JgD. -/
import Derived.Test.YtlobinjdgcidmaaGreatDoorQs02
import Derived.Test.YtlobinjdgcidmaaGreatDoorQs00
import Derived.Test.YtlobinjdgcidmaaGreatDoorQs01
import Derived.WalkLawsBesides
import Derived.Sort.WalkB12
import Derived.Sort.WalkC
import Derived.BigRegion
import Derived.WalkSmall
import Derived.Deep.QuietTactic
import Derived.BigQuiet
import Derived.Laws.Concat
import Derived.Shelf.Strconv.AtoiAll
/- Several texts of ours in one: Dec DRev DSum DAdd DAdd2 DIntM DInt0 DInt NMath2 NMath4 NMath3. -/
/- Decimals: what the functions of package decimal return that read texts alone. -/
namespace Go.Proofs.YtlobinjdgcidmaaGreatDoor
open Go.RowKit
set_option linter.unusedVariables false

theorem ret_i {k : IntKind} {a b : Int} (h : a = b) : Ending.returned (.int k a) = .returned (.int k b) := by rw [h]
theorem dgt_any (l : List UInt8) (i r : Nat) (w : World) (hl : l.length ≤ 1048576) (hd : ∀ c ∈ l, M.dig c = true) (hr : M.dat l i = r) :
    Calls Tryz.prog 141 #[.string (bytes l), .int .i64 (i : Int)] w fun e w' => e = .returned (.int .i64 (r : Int)) ∧ w = w' := by
  have hsz := bytes_size l
  unfold M.dat at hr
  by_cases h : i < l.length
  · rw [if_pos h] at hr
    have hk : l.length - 1 - i < l.length := by omega
    have hc := (M.dig_iff _).1 (hd _ (List.getElem_mem hk))
    simp only [List.getD, List.getElem?_eq_getElem hk, Option.getD_some] at hr
    obtain ⟨s, hs⟩ : ∃ s, bytes l = s := ⟨_, rfl⟩
    rw [hs] at hsz
    have hget : ∀ (k : Nat) (hk2 : k < s.size), k = l.length - 1 - i → s[k].toNat = (l[l.length - 1 - i]'hk).toNat := by
      intro k hk2 hk3
      subst hk3
      subst hs
      rfl
    rw [hs]
    have i1 : (0 : Int) ≤ (s.size : Int) - 1 - i := by omega
    have i2 : (s.size : Int) - 1 - i < s.size := by omega
    have i3 : s.size ≤ 1048576 := by omega
    have i4 : (i : Int) < s.size := by omega
    have i5 : ((s.size : Int) - 1 - i).toNat = l.length - 1 - i := by omega
    have i6 : i ≤ 1048576 := by omega
    go_enter Tryz.func141, Tryz.ntmps141
    go_wp2
    go_ret
    exact ⟨ret_i (by omega), rfl⟩
  · rw [if_neg h] at hr
    subst hr
    obtain ⟨s, hs⟩ : ∃ s, bytes l = s := ⟨_, rfl⟩
    rw [hs] at hsz ⊢
    have i4 : (s.size : Int) ≤ i := by omega
    clear h hs
    go_enter Tryz.func141, Tryz.ntmps141
    go_wp2
    go_ret
    exact ⟨rfl, rfl⟩

theorem hasPre_minus (l : List UInt8) : Lib.hasPrefix l [45] = M.isNeg l := by
  unfold M.isNeg Lib.hasPrefix
  cases l with
  | nil => decide
  | cons c t => rw [Bool.eq_iff_iff]; simp [List.isPrefixOf]; exact ⟨Eq.symm, Eq.symm⟩
theorem isneg_any (l : List UInt8) (r : Bool) (w : World) (hr : M.isNeg l = r) :
    Calls Tryz.prog 130 #[.string (bytes l)] w fun e w' => e = .returned (.bool r) ∧ w = w' := by
  have hc := Tryz.strings_HasPrefix (bytes l) ⟨#[45]⟩ w
  rw [bytes_list, show (ByteArray.mk #[45]).data.toList = [45] from rfl, hasPre_minus, hr] at hc
  have Hc := Lib.hid hc
  clear hc hr
  go_enter Tryz.func130, Tryz.ntmps130
  go_wp2_with fail
  refine Hc.out.mono ?_
  rintro e w' ⟨rfl, rfl⟩
  go_wp2
  go_ret
  exact ⟨rfl, rfl⟩
theorem trimPre_minus (l : List UInt8) : Lib.trimPrefix l [45] = M.unsign l := by
  unfold Lib.trimPrefix M.unsign
  rw [hasPre_minus]
  unfold M.isNeg
  cases l with
  | nil => rfl
  | cons c t => by_cases h : c = 45 <;> simp [h]
theorem unsign_any (l k : List UInt8) (w : World) (hr : M.unsign l = k) :
    Calls Tryz.prog 129 #[.string (bytes l)] w fun e w' => e = .returned (.string (bytes k)) ∧ w = w' := by
  have hc := Tryz.strings_TrimPrefix (bytes l) ⟨#[45]⟩ w
  rw [bytes_list, show (ByteArray.mk #[45]).data.toList = [45] from rfl, trimPre_minus, hr] at hc
  have hc2 : Calls Tryz.prog 123 #[.string (bytes l), .string ⟨#[45]⟩] w fun e w' => e = .returned (.string (bytes k)) ∧ w' = w := hc
  have Hc := Lib.hid hc2
  clear hc hc2 hr
  go_enter Tryz.func129, Tryz.ntmps129
  go_wp2_with fail
  refine Hc.out.mono ?_
  rintro e w' ⟨rfl, rfl⟩
  go_wp2
  go_ret
  exact ⟨rfl, rfl⟩
theorem alldig_any (l : List UInt8) (r : Bool) (w : World) (hl : l.length ≤ 1048576) (hr : l.all M.dig = r) :
    Calls Tryz.prog 140 #[.string (bytes l)] w fun e w' => e = .returned (.bool r) ∧ w = w' := by
  have hsz := bytes_size l
  obtain ⟨s, hs⟩ : ∃ s, bytes l = s := ⟨_, rfl⟩
  rw [hs] at hsz ⊢
  have hget : ∀ (k : Nat) (hk : k < s.size) (hk2 : k < l.length), s[k] = l[k] := by
    intro k hk hk2
    subst hs
    rfl
  have Hr := Lib.hid hr
  have Hget := Lib.hid hget
  have Hsz := Lib.hid hsz
  have hs1 : s.size ≤ 1048576 := by omega
  clear hr hget hs hsz
  go_enter Tryz.func140, Tryz.ntmps140
  go_wp2
  go_loop [3, 6] (fun _ iv => ∃ k : Nat, iv = .int .i64 k ∧ k ≤ s.size ∧ (l.take k).all M.dig = true) (fun _ iv => s.size - (intOf iv).toNat)
  case atStart => exact ⟨0, rfl, by omega, rfl⟩
  case round =>
    obtain ⟨k, rfl, hk, ht⟩ := hrel
    have Ht := Lib.hid ht
    clear ht
    by_cases hlt : k < s.size
    · have hk2 : k < l.length := by rw [← Hsz.out]; exact hlt
      have hsk := Hget.out k hlt hk2
      obtain ⟨c, hc⟩ : ∃ c, l[k] = c := ⟨_, rfl⟩
      rw [hc] at hsk
      have hnext : (l.take (k + 1)).all M.dig = M.dig c := by
        rw [List.take_succ_eq_append_getElem hk2, List.all_append, Ht.out, hc]; simp
      have hbad : M.dig c = false → r = false := by
        intro hd
        rw [← Hr.out]
        cases hh : l.all M.dig with
        | false => rfl
        | true =>
          rw [List.all_eq_true] at hh
          have := hh c (by rw [← hc]; exact List.getElem_mem hk2)
          rw [hd] at this; exact absurd this (by simp)
      have hdc := M.dig_iff c
      have Hnext := Lib.hid hnext
      have Hbad := Lib.hid hbad
      have Hsk := Lib.hid hsk
      by_cases hd : M.dig c = true
      · have ⟨c1, c2⟩ := hdc.1 hd
        have q1 : decide ((c.toNat : Int) < 48) = false := by simp; omega
        have q2 : decide (57 < (c.toNat : Int)) = false := by simp; omega
        have Hd := Lib.hid hd
        clear hd hdc hbad hnext hc
        go_wp2
        go_round
        case rel => exact ⟨k + 1, by go_num, by omega, by rw [Hnext.out]; exact Hd.out⟩
        case measure => simp [intOf]; omega
      · have hd' : M.dig c = false := by simpa using hd
        have hr2 := Hbad.out hd'
        subst hr2
        have hcc : c.toNat < 48 ∨ (48 ≤ c.toNat ∧ 57 < c.toNat) := by
          rw [hdc] at hd; omega
        clear hd hd' hdc hbad hnext hc
        rcases hcc with c1 | ⟨c1, c2⟩
        all_goals
          go_wp2
          go_ret
          exact ⟨rfl, rfl⟩
    · obtain rfl : k = s.size := by omega
      have hr2 := Hr.out
      have := Ht.out
      rw [Hsz.out, List.take_length] at this
      rw [this] at hr2
      subst hr2
      clear hlt this
      go_wp2
      go_ret
      exact ⟨rfl, rfl⟩
end Go.Proofs.YtlobinjdgcidmaaGreatDoor

/- slices.Reverse at bytes of the call's own. -/
namespace Go.Proofs.YtlobinjdgcidmaaGreatDoor
open Go.RowKit Go.Sort
set_option linter.unusedVariables false

def enc8 (c : UInt8) : Value := .int .u8 (c.toNat : Int)
def swE (d : Array UInt8) : Nat → Array UInt8
  | 0 => d
  | i + 1 => swp (swE d i) i (d.size - 1 - i)
theorem swp_size (d : Array UInt8) (i j : Nat) : (swp d i j).size = d.size := by simp [swp]
theorem swE_size (d : Array UInt8) (i : Nat) : (swE d i).size = d.size := by
  induction i with
  | zero => rfl
  | succ i ih => rw [swE, swp_size, ih]
theorem swp_get (d : Array UInt8) (i j k : Nat) (hi : i < d.size) (hj : j < d.size) (hk : k < d.size) : (swp d i j)[k]! = if k = j then d[i]! else if k = i then d[j]! else d[k]! := by
  have e1 : ∀ (a : Array UInt8) (m : Nat) (x : UInt8), m < a.size → ∀ k, k < a.size → (a.setIfInBounds m x)[k]! = if k = m then x else a[k]! := by
    intro a m x hm k hk
    by_cases h : k = m
    · subst h; rw [if_pos rfl]; exact getElem!_set_same a k x hm
    · rw [if_neg h, getElem!_pos _ k (by simpa using hk), getElem!_pos a k hk, Array.getElem_setIfInBounds, if_neg (fun hh => h hh.symm)]
  unfold swp
  rw [e1 _ _ _ (by simpa using hj) k (by simpa using hk), e1 _ _ _ hi k hk]
theorem swE_get (d : Array UInt8) (i k : Nat) (hi : 2 * i ≤ d.size) (hk : k < d.size) : (swE d i)[k]! = if k < i ∨ d.size - 1 - k < i then d[d.size - 1 - k]! else d[k]! := by
  induction i generalizing k with
  | zero => simp [swE]
  | succ i ih =>
    have hs := swE_size d i
    rw [swE, swp_get _ _ _ _ (by omega) (by omega) (by omega), ih i (by omega) (by omega), ih (d.size - 1 - i) (by omega) (by omega), ih k (by omega) hk]
    by_cases h1 : k = d.size - 1 - i
    · subst h1
      rw [if_pos rfl, if_neg (by omega), if_pos (by omega), show d.size - 1 - (d.size - 1 - i) = i by omega]
    · rw [if_neg h1]
      by_cases h2 : k = i
      · subst h2
        rw [if_pos rfl, if_neg (by omega), if_pos (by omega)]
      · rw [if_neg h2]
        by_cases h3 : k < i ∨ d.size - 1 - k < i
        · rw [if_pos h3, if_pos (by omega)]
        · rw [if_neg h3, if_neg (by omega)]
theorem swE_rev (d : Array UInt8) : swE d (d.size / 2) = d.reverse := by
  have hs := swE_size d (d.size / 2)
  apply Array.ext
  · rw [hs]; simp
  · intro k h1 h2
    have hk : k < d.size := by omega
    have := swE_get d (d.size / 2) k (by omega) hk
    rw [getElem!_pos _ k h1] at this
    rw [this]
    simp only [Array.getElem_reverse]
    by_cases h3 : k < d.size / 2 ∨ d.size - 1 - k < d.size / 2
    · rw [if_pos h3, getElem!_pos d _ (by omega)]
    · rw [if_neg h3, getElem!_pos d k hk]
      congr 1
      omega

theorem holds_own {B : Nat} {w : World} {g n cap : Nat} {l : List UInt8} (h : OwnB B w (.slice (some ⟨g, 0, none⟩) n cap) l) : n = l.length ∧ Holds enc8 w g 0 l.toArray := by
  have hc := h
  obtain ⟨h1, ⟨h2, _⟩ | ⟨g', cap', cur, he, h2, h3, h4, h5, h6, h7⟩⟩ := h
  · simp at h2
  · simp only [Value.slice.injEq, Option.some.injEq, Addr.mk.injEq, and_true] at he
    obtain ⟨rfl, rfl, rfl⟩ := he
    refine ⟨rfl, fun j hj => ⟨?_, ?_⟩⟩
    · have hj' : j < l.length := by simpa using hj
      have := World.ownsRow.cells hc rfl j (.int .u8 (l[j].toNat : Int)) (by simp [bcells, hj'])
      rw [show (⟨g, 0, none⟩ : Addr).add j = ⟨g, 0 + j, none⟩ by cases j <;> simp [Addr.add]] at this
      rw [this]
      unfold enc8
      rw [getElem!_pos _ j hj]
      simp
    · simp [World.frozen?, h3]

theorem own_put {B : Nat} {w : World} {g n cap : Nat} {l : List UInt8} (h : OwnB B w (.slice (some ⟨g, 0, none⟩) n cap) l) (d : Array UInt8) (hd : d.size = l.length) (q : Nat) :
    OwnB B ((putRow enc8 w g 0 d).drewN q) (.slice (some ⟨g, 0, none⟩) n cap) d.toList ∧ Below B w ((putRow enc8 w g 0 d).drewN q) := by
  obtain ⟨h1, ⟨h2, _⟩ | ⟨g', cap', cur, he, h2, h3, h4, h5, h6, h7⟩⟩ := h
  · simp at h2
  · simp only [Value.slice.injEq, Option.some.injEq, Addr.mk.injEq, and_true] at he
    obtain ⟨rfl, rfl, rfl⟩ := he
    have hlt : g < w.heap.size := (Array.getElem?_eq_some_iff.1 h3).1
    have hput : (putRow enc8 w g 0 d).heap[g]? = some (.cells (putCells enc8 0 d cur) 5 (0, 0)) := by
      unfold putRow mapBlock
      simp only [Array.getElem?_modify, if_true]
      rw [h3]
      rfl
    have hlen : d.toList.length = l.length := by simpa using hd
    refine ⟨⟨by simp [bcells, hd], .inr ⟨g, cap, putCells enc8 0 d cur, by rw [hlen], h2, hput, by rw [hlen]; exact h4, h5, by simp [putCells, h6], ?_⟩⟩, ?_⟩
    · rw [hlen, Nat.mul_one]
      apply List.ext_getElem
      · simp [putCells, bcells, hd, h6]; omega
      · intro k k1 k2
        have hk : k < l.length := by simp [bcells, hd] at k2; omega
        have hk3 : k < d.size := by omega
        simp [putCells, bcells, enc8, hk3]
    · refine ⟨rfl, rfl, rfl, by show w.heap.size ≤ (w.heap.modify g _).size; simp, fun k hk => ?_⟩
      show (w.heap.modify g _)[k]? = _
      rw [Array.getElem?_modify, if_neg (by omega)]

set_option maxRecDepth 1000000 in
set_option maxHeartbeats 4000000 in
theorem rev_any (B : Nat) (v : Value) (l k : List UInt8) (w : World) (hv : OwnB B w v l) (hl : l.length ≤ 1048576) (hk : l.reverse = k) :
    Calls Tryz.prog 142 #[v] w fun e w' => e = .returned (.tuple #[]) ∧ OwnB B w' v k ∧ Below B w w' := by
  have hv2 := hv
  obtain ⟨_, ⟨rfl, h0⟩ | ⟨g, cap, cur, rfl, _⟩⟩ := hv2
  · have : l = [] := List.length_eq_zero_iff.1 h0
    subst this
    have : k = [] := by rw [← hk]; rfl
    subst this
    have Hv := Lib.hid hv
    clear hv hk h0
    go_enter Tryz.func142, Tryz.ntmps142
    go_wp2
    refine wp_loop_rounds 1 ?_
    rw [rounds_succ]
    go_wp2
    go_end0
    exact ⟨rfl, Hv.out, Below.refl _ _⟩
  · obtain ⟨_, hh⟩ := holds_own hv
    obtain ⟨d, hd⟩ : ∃ d, l.toArray = d := ⟨_, rfl⟩
    have hds : d.size = l.length := by rw [← hd]; simp
    rw [hd] at hh
    obtain ⟨n, hn⟩ : ∃ n, l.length = n := ⟨_, rfl⟩
    rw [hn] at hds hl ⊢
    have hfin : ∀ q, OwnB B ((putRow enc8 w g 0 (swE d (n / 2))).drewN q) (.slice (some ⟨g, 0, none⟩) n cap) k ∧ Below B w ((putRow enc8 w g 0 (swE d (n / 2))).drewN q) := by
      intro q
      rw [hn] at hv
      have := own_put hv (swE d (n / 2)) (by rw [swE_size, hds, hn]) q
      rw [show (swE d (n / 2)).toList = k by rw [← hds, swE_rev, ← hk, ← hd]; simp] at this
      exact this
    have Hfin := Lib.hid hfin
    have Hh := Lib.hid hh
    have hself := putRow_self enc8 w g 0 d hh
    have Hself := Lib.hid hself
    clear hv hh hfin hself hk hd hn
    go_enter Tryz.func142, Tryz.ntmps142
    go_wp2
    go_loopw [2, 3] (fun iv jv wr => ∃ (i q : Nat), iv = .int .i64 i ∧ jv = .int .i64 ((n : Int) - 1 - i) ∧ 2 * i ≤ n ∧ wr = (putRow enc8 w g 0 (swE d i)).drewN q) (fun iv _ _ => n - (intOf iv).toNat)
    case atStart => exact ⟨0, 0, rfl, by simp, by omega, by rw [show swE d 0 = d from rfl, Hself.out]; rfl⟩
    case round =>
      obtain ⟨i, q, rfl, rfl, hi, hw⟩ := hrel
      by_cases hlt : 2 * i + 1 < n
      · have hsw := swE_size d i
        have hHi := holds_putRow enc8 w g 0 d (swE d i) Hh.out (by rw [hsw])
        have ci := hHi i (by omega)
        have cj := hHi (n - 1 - i) (by omega)
        obtain ⟨x, hx⟩ : ∃ x, (swE d i)[i]! = x := ⟨_, rfl⟩
        obtain ⟨y, hy⟩ : ∃ x, (swE d i)[n - 1 - i]! = x := ⟨_, rfl⟩
        rw [hx] at ci
        rw [hy] at cj
        simp only [Nat.zero_add] at ci cj
        have hsw2 := swap_worldC enc8 w g 0 (swE d i) q i (n - 1 - i) (by omega) (by omega)
        rw [hx, hy] at hsw2
        simp only [Nat.zero_add] at hsw2
        have hnext : swE d (i + 1) = swp (swE d i) i (n - 1 - i) := by rw [swE, hds]
        rw [← hnext] at hsw2
        have w1 : wr.cell? ⟨g, i, none⟩ = some (.int .u8 (x.toNat : Int)) := by rw [hw]; exact ci.1
        have w2 : wr.cell? ⟨g, n - 1 - i, none⟩ = some (.int .u8 (y.toNat : Int)) := by rw [hw]; exact cj.1
        have z1 : wr.frozen? ⟨g, i, none⟩ = false := by rw [hw]; exact ci.2
        have z2 : wr.frozen? ⟨g, n - 1 - i, none⟩ = false := by rw [hw]; exact cj.2
        have i1 : (0 : Int) ≤ i := by omega
        have i2 : (i : Int) < n := by omega
        have i3 : (0 : Int) ≤ (n : Int) - 1 - i := by omega
        have i4 : (n : Int) - 1 - i < n := by omega
        have i5 : ((n : Int) - 1 - i).toNat = n - 1 - i := by omega
        have i6 : (i : Int) < (n : Int) - 1 - i := by omega
        have i7 : i ≠ n - 1 - i := by omega
        rw [← hw] at hsw2
        have Hsw := Lib.hid hsw2
        have Hw := Lib.hid hw
        clear hsw hHi ci cj hx hy hsw2 hnext hw
        go_wp2_with fail
        go_region
        go_wp2
        go_roundw
        case rel => exact ⟨i + 1, q + 1, by go_num, by congr 1; omega, by omega, Hsw.out⟩
        case measure => simp [intOf]; omega
      · have he : i = n / 2 := by omega
        have hb : ¬ (i : Int) < (n : Int) - 1 - i := by omega
        subst he
        have hf := Hfin.out q
        rw [← hw] at hf
        have Hf := Lib.hid hf
        clear hf hw
        go_wp2
        go_end0
        exact ⟨rfl, Hf.out⟩
end Go.Proofs.YtlobinjdgcidmaaGreatDoor

/- Decimals: adding and taking off, digit by digit; a row of digits with a sign; which is a decimal, which of two is less. -/
namespace Go.Proofs.YtlobinjdgcidmaaGreatDoor
open Go.RowKit
set_option linter.unusedVariables false

theorem one_digit (w : World) (d : Nat) (v : Value) (h : v = .int .u8 ((M.ofD d).toNat : Int)) : Bs (w.alloc (.cells #[v] 5)) (.slice (some ⟨w.heap.size, 0, none⟩) 1 1) [M.ofD d] := by
  subst h; exact bs_cells_new w [M.ofD d] _ 1 rfl rfl (by simp)
theorem ofD_val (d : Nat) (x : Int) (h : x = 48 + (d % 10 : Nat)) : Value.int .u8 x = .int .u8 ((M.ofD d).toNat : Int) := by
  rw [M.ofD_nat, h]; congr 1

set_option maxHeartbeats 1000000 in
theorem sum_any (x y : List UInt8) (w : World) (hx : x.length ≤ 100000) (hy : y.length ≤ 100000) (dx : ∀ c ∈ x, M.dig c = true) (dy : ∀ c ∈ y, M.dig c = true) :
    Calls Tryz.prog 132 #[.string (bytes x), .string (bytes y)] w fun e w' => ∃ v l, e = .returned v ∧ OwnB w.heap.size w' v l ∧ l.length ≤ 100001 ∧ (∀ c ∈ l, M.dig c = true) ∧ M.dval l = M.dval x + M.dval y ∧ Below w.heap.size w w' := by
  have sx := bytes_size x
  have sy := bytes_size y
  have d1 := fun i r W h => dgt_any x i r W (by omega) dx h
  have d2 := fun i r W h => dgt_any y i r W (by omega) dy h
  obtain ⟨s, hs⟩ : ∃ s, bytes x = s := ⟨_, rfl⟩
  obtain ⟨t, ht⟩ : ∃ s, bytes y = s := ⟨_, rfl⟩
  rw [hs] at sx d1
  rw [ht] at sy d2
  rw [hs, ht]
  obtain ⟨K, hK⟩ : ∃ K, max x.length y.length = K := ⟨_, rfl⟩
  have hK1 : x.length ≤ K ∧ y.length ≤ K ∧ K ≤ 100000 := by omega
  have hmax : max (s.size : Int) (t.size : Int) = (K : Int) := by omega
  have hs1 : s.size ≤ 100000 := by omega
  have ht1 : t.size ≤ 100000 := by omega
  have D1 := Lib.hid d1
  have D2 := Lib.hid d2
  have Dx := Lib.hid dx
  have Dy := Lib.hid dy
  clear d1 d2 dx dy hs ht hK sx sy
  go_enter Tryz.func132, Tryz.ntmps132
  go_wp2
  clear hmax
  go_loopw [5, 6, 7, 8, 15] (fun ov cv _ _ iv wr => ∃ (k carry : Nat) (l : List UInt8), iv = .int .i64 k ∧ cv = .int .i64 carry ∧ k ≤ K + 1 ∧ M.Sum x y k l carry ∧ OwnB w.heap.size wr ov l ∧ Below w.heap.size w wr) (fun _ _ _ _ iv _ => K + 1 - (intOf iv).toNat)
  case atStart => exact ⟨0, 0, [], rfl, rfl, by omega, M.sum_start x y, World.ownsRow_nil _ _ _ _, Below.refl _ _⟩
  case round =>
    obtain ⟨k, carry, l, rfl, rfl, hk, hS, ho, hb⟩ := hrel
    have hc1 := hS.2.2.1
    have hll := hS.1
    have HS := Lib.hid hS
    have hsz := hb.size
    clear hS
    by_cases hlt : k < K + 1
    · obtain ⟨p, hp⟩ : ∃ p, M.dat x k = p := ⟨_, rfl⟩
      obtain ⟨q, hq⟩ : ∃ p, M.dat y k = p := ⟨_, rfl⟩
      have hp9 := M.dat_le x Dx.out k
      have hq9 := M.dat_le y Dy.out k
      have hstep := M.sum_step Dx.out Dy.out HS.out
      rw [hp] at hp9 hstep
      rw [hq] at hq9 hstep
      have c1 := fun W => D1.out k p W hp
      have c2 := fun W => D2.out k q W hq
      have C1 := Lib.hid c1
      have C2 := Lib.hid c2
      have Hstep := Lib.hid hstep
      obtain ⟨T, hT⟩ : ∃ T, p + q + carry = T := ⟨_, rfl⟩
      rw [hT] at Hstep
      obtain ⟨P, hP⟩ : ∃ P : Int, (p : Int) = P := ⟨_, rfl⟩
      obtain ⟨Q, hQ⟩ : ∃ P : Int, (q : Int) = P := ⟨_, rfl⟩
      obtain ⟨C, hC⟩ : ∃ P : Int, (carry : Int) = P := ⟨_, rfl⟩
      have hTi : P + Q + C = (T : Int) := by omega
      have P0 : 0 ≤ P := by omega
      have P9 : P ≤ 9 := by omega
      have Q0 : 0 ≤ Q := by omega
      have Q9 : Q ≤ 9 := by omega
      have C0' : 0 ≤ C := by omega
      have C9 : C ≤ 1 := by omega
      have hll2 : l.length ≤ 100001 := by omega
      rw [hP] at C1
      rw [hQ] at C2
      rw [hC]
      obtain ⟨R, hR⟩ : ∃ R, (P + Q + C) % 10 = R := ⟨_, rfl⟩
      obtain ⟨V, hV⟩ : ∃ R, (P + Q + C) / 10 = R := ⟨_, rfl⟩
      have R0 : 0 ≤ R := by omega
      have R9 : R ≤ 9 := by omega
      have hRT : R = ((T % 10 : Nat) : Int) := by omega
      have hVT : V = ((T / 10 : Nat) : Int) := by omega
      have HTi := Lib.hid hTi
      have HRT := Lib.hid hRT
      have HVT := Lib.hid hVT
      clear hRT hVT
      clear c1 c2 hp hq hstep hT hll hP hQ hC hTi hp9 hq9 hc1
      go_wp2_with fail
      refine (C1.out _).mono ?_
      rintro e w1 ⟨rfl, rfl⟩
      go_wp2_with fail
      refine (C2.out _).mono ?_
      rintro e w1 ⟨rfl, rfl⟩
      go_wp2_with (at_builtin; refine wpl_append rfl _ _ rfl w.heap.size _ (.slice (some ⟨wr.heap.size, 0, none⟩) 1 1) l [M.ofD T] (l ++ [M.ofD T]) rfl (ho.keep ((Below.refl _ _).alloc (Nat.le_refl _) _)) rfl (one_digit wr T _ (ofD_val T _ (by rw [HRT.out]))) (fun n c h => by simp at h) (by simp; omega) (by simp; omega) rfl ?_)
      intro v3 w3 ho3 hb4
      have hb5 := (hb.alloc hsz _).trans hb4
      clear hb hb4 ho
      go_wp2
      go_roundw
      case rel => exact ⟨k + 1, T / 10, l ++ [M.ofD T], by go_num, by have := HTi.out; congr 1; omega, by omega, Hstep.out, ho3, hb5⟩
      case measure => simp [intOf]; omega
    · obtain rfl : k = K + 1 := by omega
      have hend := M.sum_end Dx.out Dy.out HS.out (by omega) (by omega)
      have hdl := HS.out.2.1
      have Hend := Lib.hid hend
      have Hdl := Lib.hid hdl
      clear hend hdl hlt
      go_wp2_with fail
      refine (rev_any w.heap.size _ l l.reverse wr ho (by omega) rfl).mono ?_
      rintro e w2 ⟨rfl, ho2, hb2⟩
      have hb3 := hb.trans hb2
      clear hb hb2 ho
      go_wp2
      go_ret
      exact ⟨_, l.reverse, rfl, ho2, by simp; omega, fun c hc => Hdl.out c (by simpa using hc), by rw [M.dval_reverse]; exact Hend.out, hb3⟩
set_option maxHeartbeats 1000000 in
theorem dif_any (x y : List UInt8) (w : World) (hx : x.length ≤ 100000) (hy : y.length ≤ 100000) (dx : ∀ c ∈ x, M.dig c = true) (dy : ∀ c ∈ y, M.dig c = true) (hle : y.length ≤ x.length) (hval : M.dval y ≤ M.dval x) :
    Calls Tryz.prog 134 #[.string (bytes x), .string (bytes y)] w fun e w' => ∃ v l, e = .returned v ∧ OwnB w.heap.size w' v l ∧ l.length ≤ 100001 ∧ (∀ c ∈ l, M.dig c = true) ∧ M.dval l = M.dval x - M.dval y ∧ Below w.heap.size w w' := by
  have sx := bytes_size x
  have sy := bytes_size y
  have d1 := fun i r W h => dgt_any x i r W (by omega) dx h
  have d2 := fun i r W h => dgt_any y i r W (by omega) dy h
  obtain ⟨s, hs⟩ : ∃ s, bytes x = s := ⟨_, rfl⟩
  obtain ⟨t, ht⟩ : ∃ s, bytes y = s := ⟨_, rfl⟩
  rw [hs] at sx d1
  rw [ht] at sy d2
  rw [hs, ht]
  obtain ⟨K, hK⟩ : ∃ K, x.length = K := ⟨_, rfl⟩
  have hK1 : x.length ≤ K ∧ y.length ≤ K ∧ K ≤ 100000 := by omega
  have hmax : s.size = K := by omega
  have hs1 : s.size ≤ 100000 := by omega
  have ht1 : t.size ≤ 100000 := by omega
  have D1 := Lib.hid d1
  have D2 := Lib.hid d2
  have Dx := Lib.hid dx
  have Dy := Lib.hid dy
  clear d1 d2 dx dy hs ht hK sx sy
  have Hsz := Lib.hid hmax
  go_enter Tryz.func134, Tryz.ntmps134
  go_wp2
  go_loopw [5, 6, 7, 8, 11] (fun ov cv _ _ iv wr => ∃ (k carry : Nat) (l : List UInt8), iv = .int .i64 k ∧ cv = .int .i64 carry ∧ k ≤ K ∧ M.Dif x y k l carry ∧ OwnB w.heap.size wr ov l ∧ Below w.heap.size w wr) (fun _ _ _ _ iv _ => K - (intOf iv).toNat)
  case atStart => exact ⟨0, 0, [], rfl, rfl, by omega, M.dif_start x y, World.ownsRow_nil _ _ _ _, Below.refl _ _⟩
  case round =>
    obtain ⟨k, carry, l, rfl, rfl, hk, hS, ho, hb⟩ := hrel
    have hc1 := hS.2.2.1
    have hll := hS.1
    have HS := Lib.hid hS
    have hsz := hb.size
    clear hS
    by_cases hlt : k < K
    · obtain ⟨p, hp⟩ : ∃ p, M.dat x k = p := ⟨_, rfl⟩
      obtain ⟨q, hq⟩ : ∃ p, M.dat y k = p := ⟨_, rfl⟩
      have hp9 := M.dat_le x Dx.out k
      have hq9 := M.dat_le y Dy.out k
      have hstep := M.dif_step Dx.out Dy.out HS.out
      rw [hp] at hp9 hstep
      rw [hq] at hq9 hstep
      have c1 := fun W => D1.out k p W hp
      have c2 := fun W => D2.out k q W hq
      have C1 := Lib.hid c1
      have C2 := Lib.hid c2
      have Hstep := Lib.hid hstep
      obtain ⟨T, hT⟩ : ∃ T, p + 10 - q - carry = T := ⟨_, rfl⟩
      rw [hT] at Hstep
      obtain ⟨P, hP⟩ : ∃ P : Int, (p : Int) = P := ⟨_, rfl⟩
      obtain ⟨Q, hQ⟩ : ∃ P : Int, (q : Int) = P := ⟨_, rfl⟩
      obtain ⟨C, hC⟩ : ∃ P : Int, (carry : Int) = P := ⟨_, rfl⟩
      have hTi : P - Q - C + 10 = (T : Int) := by omega
      have P0 : 0 ≤ P := by omega
      have P9 : P ≤ 9 := by omega
      have Q0 : 0 ≤ Q := by omega
      have Q9 : Q ≤ 9 := by omega
      have C0' : 0 ≤ C := by omega
      have C9 : C ≤ 1 := by omega
      have hll2 : l.length ≤ 100001 := by omega
      rw [hP] at C1
      rw [hQ] at C2
      rw [hC]
      obtain ⟨R, hR⟩ : ∃ R, (P - Q - C + 10) % 10 = R := ⟨_, rfl⟩
      obtain ⟨V, hV⟩ : ∃ R, (P - Q - C + 10) / 10 = R := ⟨_, rfl⟩
      have R0 : 0 ≤ R := by omega
      have R9 : R ≤ 9 := by omega
      have hRT : R = ((T % 10 : Nat) : Int) := by omega
      have hVT : V = ((T / 10 : Nat) : Int) := by omega
      have HTi := Lib.hid hTi
      have HRT := Lib.hid hRT
      have HVT := Lib.hid hVT
      clear hRT hVT
      clear c1 c2 hp hq hstep hT hll hP hQ hC hTi hp9 hq9 hc1
      go_wp2_with fail
      refine (C1.out _).mono ?_
      rintro e w1 ⟨rfl, rfl⟩
      go_wp2_with fail
      refine (C2.out _).mono ?_
      rintro e w1 ⟨rfl, rfl⟩
      go_wp2_with (at_builtin; refine wpl_append rfl _ _ rfl w.heap.size _ (.slice (some ⟨wr.heap.size, 0, none⟩) 1 1) l [M.ofD T] (l ++ [M.ofD T]) rfl (ho.keep ((Below.refl _ _).alloc (Nat.le_refl _) _)) rfl (one_digit wr T _ (ofD_val T _ (by rw [HRT.out]))) (fun n c h => by simp at h) (by simp; omega) (by simp; omega) rfl ?_)
      intro v3 w3 ho3 hb4
      have hb5 := (hb.alloc hsz _).trans hb4
      clear hb hb4 ho
      go_wp2
      go_roundw
      case rel => exact ⟨k + 1, 1 - T / 10, l ++ [M.ofD T], by go_num, by have := HTi.out; congr 1; omega, by omega, Hstep.out, ho3, hb5⟩
      case measure => simp [intOf]; omega
    · obtain rfl : k = K := by omega
      have hend := M.dif_end HS.out (by omega) (by omega) hval
      have hdl := HS.out.2.1
      have Hend := Lib.hid hend
      have Hdl := Lib.hid hdl
      clear hend hdl hlt
      go_wp2_with fail
      refine (rev_any w.heap.size _ l l.reverse wr ho (by omega) rfl).mono ?_
      rintro e w2 ⟨rfl, ho2, hb2⟩
      have hb3 := hb.trans hb2
      clear hb hb2 ho
      go_wp2
      go_ret
      exact ⟨_, l.reverse, rfl, ho2, by simp; omega, fun c hc => Hdl.out c (by simpa using hc), by rw [M.dval_reverse]; exact Hend.out, hb3⟩
end Go.Proofs.YtlobinjdgcidmaaGreatDoor

/- Decimals: what signed, Right, lessDigits, Add and Less return. -/
namespace Go.Proofs.YtlobinjdgcidmaaGreatDoor
open Go.RowKit
set_option linter.unusedVariables false

theorem strip_len (l : List UInt8) : (M.strip l).length ≤ l.length := by
  unfold M.strip; exact (List.dropWhile_sublist _).length_le
theorem toList_bytes (l : List UInt8) : (bytes l).toList = l := by
  rw [ByteArray.toList_eq]; simp [bytes]
set_option maxRecDepth 100000 in
set_option maxHeartbeats 400000 in
theorem signed_any (B : Nat) (neg : Bool) (v : Value) (l k : List UInt8) (w : World) (hv : OwnB B w v l) (hl : l.length ≤ 1000000) (hk : M.sgn neg l = k) :
    Calls Tryz.prog 131 #[.bool neg, v] w fun e w' => e = .returned (.string (bytes k)) ∧ w = w' := by
  have hcv := conv_own hv
  have htl := Tryz.strings_TrimLeft_one (bytes l) 48 (by decide) w
  rw [bytes_list, show (⟨(Lib.trimLeftB l 48).toArray⟩ : ByteArray) = bytes (M.strip l) from rfl] at htl
  have hsl := strip_len l
  have Htl := Lib.hid htl
  obtain ⟨S, hS⟩ : ∃ S, bytes (M.strip l) = S := ⟨_, rfl⟩
  have hSl : S.toList = M.strip l := by rw [← hS, toList_bytes]
  have hSs : S.size = (M.strip l).length := by rw [← hS, bytes_size]
  rw [hS] at Htl
  subst hk
  unfold M.sgn
  by_cases h0 : M.strip l = []
  · rw [if_pos h0]
    rw [h0] at hSl
    have e2 : S.toList.isEmpty = true := by rw [hSl]; rfl
    clear htl hS hSs hsl h0 hv
    go_enter Tryz.func131, Tryz.ntmps131
    go_wp2_with fail
    refine Htl.out.mono ?_
    rintro e w' ⟨rfl, rfl⟩
    go_wp2
    go_ret
    exact ⟨rfl, rfl⟩
  · rw [if_neg h0]
    obtain ⟨c, t, hct⟩ : ∃ c t, S.toList = c :: t := by
      rw [hSl]
      cases hh : M.strip l with
      | nil => exact absurd hh h0
      | cons c t => exact ⟨c, t, rfl⟩
    have hq : (ByteArray.mk #[45]).size = 1 := rfl
    have a1 : ∀ W, (Op.stringOp .add (ByteArray.mk #[45]) S).run Tryz.prog W = .ok (.string (ByteArray.mk #[45] ++ S)) W := fun W => run_string_add W _ _ (by rw [hq]; decide) (by omega)
    have hcat : ByteArray.mk #[45] ++ S = bytes (45 :: M.strip l) := by
      rw [← hS]; apply ByteArray.ext; simp [bytes]
    have Hcat := Lib.hid hcat
    have HS := Lib.hid hS
    clear htl hS hSl hSs hsl h0 hv hq hcat hl
    cases neg with
    | false =>
      go_enter Tryz.func131, Tryz.ntmps131
      go_wp2_with fail
      refine Htl.out.mono ?_
      rintro e w' ⟨rfl, rfl⟩
      go_wp2
      go_ret
      exact ⟨by rw [← HS.out]; rfl, rfl⟩
    | true =>
      go_enter Tryz.func131, Tryz.ntmps131
      go_wp2_with fail
      refine Htl.out.mono ?_
      rintro e w' ⟨rfl, rfl⟩
      go_wp2
      go_ret
      exact ⟨by rw [← Hcat.out]; rfl, rfl⟩

theorem unsign_len (l : List UInt8) : (M.unsign l).length ≤ l.length := by
  unfold M.unsign; split <;> simp
set_option maxRecDepth 100000 in
set_option maxHeartbeats 400000 in
theorem right_any (l : List UInt8) (r : Bool) (w : World) (hl : l.length ≤ 1000000) (hr : M.rightD l = r) :
    Calls Tryz.prog 128 #[.string (bytes l)] w fun e w' => e = .returned (.bool r) ∧ w = w' := by
  obtain ⟨S, hS⟩ : ∃ S, bytes l = S := ⟨_, rfl⟩
  have hSl : S.toList = l := by rw [← hS, toList_bytes]
  unfold M.rightD at hr
  by_cases h0 : l = [48]
  · subst h0
    have : r = true := by rw [← hr]; rfl
    subst this
    rw [hS]
    clear hS hr hl
    go_enter Tryz.func128, Tryz.ntmps128
    go_wp2
    go_ret
    exact ⟨rfl, rfl⟩
  · have q0 : (l == [48]) = false := by simpa using h0
    rw [q0, Bool.false_or] at hr
    obtain ⟨k, hk⟩ : ∃ k, M.unsign l = k := ⟨_, rfl⟩
    have hkl := unsign_len l
    rw [hk] at hr hkl
    have hd := unsign_any l k w hk
    obtain ⟨D, hD⟩ : ∃ D, bytes k = D := ⟨_, rfl⟩
    have hDl : D.toList = k := by rw [← hD, toList_bytes]
    rw [hS, hD] at hd
    rw [hS]
    have Hd := Lib.hid hd
    cases k with
    | nil =>
      have : r = false := by rw [← hr]; rfl
      subst this
      clear hd hS hD hr hk hkl hl h0
      go_enter Tryz.func128, Tryz.ntmps128
      go_wp2_with fail
      refine Hd.out.mono ?_
      rintro e w' ⟨rfl, rfl⟩
      go_wp2
      go_ret
      exact ⟨rfl, rfl⟩
    | cons c t =>
      have hsz : 0 < D.size := by rw [← hD, bytes_size]; simp
      have hD0 : ∀ h : 0 < D.size, D[0]'h = c := by intro h; subst hD; rfl
      have q1 : (c :: t == ([] : List UInt8)) = false := rfl
      by_cases hc : c = 48
      · subst hc
        have : r = false := by rw [← hr]; simp
        subst this
        have hD1 := hD0 hsz
        clear hd hS hD hr hk hkl hl h0 hD0
        go_enter Tryz.func128, Tryz.ntmps128
        go_wp2_with fail
        refine Hd.out.mono ?_
        rintro e w' ⟨rfl, rfl⟩
        go_wp2
        go_ret
        exact ⟨by simp, rfl⟩
      · have hall := fun W => alldig_any (c :: t) r W (by omega) (by rw [← hr]; simp [hc])
        rw [hD] at hall
        have Hall := Lib.hid hall
        have hcn : c.toNat ≠ 48 := fun hh => hc (UInt8.toNat_inj.1 hh)
        have q2 : ((c.toNat : Int) == 48) = false := by rw [beq_eq_false_iff_ne]; omega
        have q3 : ((c.toNat : Int) != 48) = true := by simp [bne, q2]
        have hD1 := hD0 hsz
        clear hd hS hD hr hk hkl hl h0 hD0 hall hc hcn
        go_enter Tryz.func128, Tryz.ntmps128
        go_wp2_with fail
        refine Hd.out.mono ?_
        rintro e w' ⟨rfl, rfl⟩
        go_wp2_with fail
        refine (Hall.out _).mono ?_
        rintro e w' ⟨rfl, rfl⟩
        go_wp2
        go_ret
        exact ⟨by simp, rfl⟩

theorem dless_iff (k l : List UInt8) : Op.bytesLess k l = decide (k < l) := by
  induction k generalizing l with
  | nil => cases l <;> simp [Op.bytesLess]
  | cons a k ih =>
    cases l with
    | nil => simp [Op.bytesLess]
    | cons b l =>
      simp only [Op.bytesLess, ih, List.cons_lt_cons_iff]
      by_cases h1 : a < b
      · simp [h1]
      · by_cases h2 : a = b
        · subst h2; simp [h1]
        · simp [h1, h2]
set_option maxRecDepth 100000 in
set_option maxHeartbeats 400000 in
theorem lessd_any (x y : List UInt8) (r : Bool) (w : World) (hx : x.length ≤ 1000000) (hy : y.length ≤ 1000000) (hr : M.lessB x y = r) :
    Calls Tryz.prog 133 #[.string (bytes x), .string (bytes y)] w fun e w' => e = .returned (.bool r) ∧ w = w' := by
  obtain ⟨S, hS⟩ : ∃ S, bytes x = S := ⟨_, rfl⟩
  obtain ⟨T, hT⟩ : ∃ S, bytes y = S := ⟨_, rfl⟩
  have s1 : S.size = x.length := by rw [← hS, bytes_size]
  have s2 : T.size = y.length := by rw [← hT, bytes_size]
  have hl : Op.bytesLess S.toList T.toList = decide (x < y) := by rw [← hS, ← hT, toList_bytes, toList_bytes, dless_iff]
  rw [hS, hT]
  unfold M.lessB at hr
  by_cases h0 : x.length = y.length
  · rw [if_neg (by simp [h0])] at hr
    rw [hr] at hl
    have q1 : ((S.size : Int) != T.size) = false := by simp [s1, s2, h0]
    have hST : S.size = T.size := by omega
    clear hr hS hT s1 s2 h0
    go_enter Tryz.func133, Tryz.ntmps133
    go_wp2
    go_ret
    exact ⟨rfl, rfl⟩
  · rw [if_pos h0] at hr
    have q1 : ((S.size : Int) != T.size) = true := by simp; omega
    have hST : ¬ S.size = T.size := by omega
    have hr2 : decide ((S.size : Int) < T.size) = r := by rw [← hr]; simp; omega
    clear hr hS hT s1 s2 h0 hl
    go_enter Tryz.func133, Tryz.ntmps133
    go_wp2
    go_ret
    exact ⟨by rw [← hr2]; simp, rfl⟩
end Go.Proofs.YtlobinjdgcidmaaGreatDoor

/- Decimals: what Add and Less return, for any two texts. -/
namespace Go.Proofs.YtlobinjdgcidmaaGreatDoor
open Go.RowKit
set_option linter.unusedVariables false

def strB (r : List UInt8 × Bool) : Value := .tuple #[.string (bytes r.1), .bool r.2]
set_option maxRecDepth 100000 in
set_option maxHeartbeats 1000000 in
theorem add_any (a b : List UInt8) (res : List UInt8 × Bool) (w : World) (la : a.length ≤ 100000) (lb : b.length ≤ 100000) (hr : M.addD a b = res) :
    Calls Tryz.prog 118 #[.string (bytes a), .string (bytes b)] w fun e w' => e = .returned (strB res) ∧ Below w.heap.size w w' := by
  unfold M.addD at hr
  have ra := fun r W h => right_any a r W (by omega) h
  have rb := fun r W h => right_any b r W (by omega) h
  cases ha : M.rightD a with
  | false =>
    rw [ha] at hr
    simp only [Bool.false_and, Bool.false_eq_true, if_false] at hr
    subst hr
    have A1 := Lib.hid (fun W => ra false W ha)
    clear ra rb ha
    go_enter Tryz.func118, Tryz.ntmps118
    go_wp2_with fail
    refine (A1.out _).mono ?_
    rintro e w' ⟨rfl, rfl⟩
    go_wp2
    go_ret2
    exact ⟨rfl, Below.refl _ _⟩
  | true =>
    have A1 := Lib.hid (fun W => ra true W ha)
    cases hb : M.rightD b with
    | false =>
      rw [ha, hb] at hr
      simp only [Bool.and_false, Bool.false_eq_true, if_false] at hr
      subst hr
      have B1 := Lib.hid (fun W => rb false W hb)
      clear ra rb ha hb
      go_enter Tryz.func118, Tryz.ntmps118
      go_wp2_with fail
      refine (A1.out _).mono ?_
      rintro e w' ⟨rfl, rfl⟩
      go_wp2_with fail
      refine (B1.out _).mono ?_
      rintro e w' ⟨rfl, rfl⟩
      go_wp2
      go_ret2
      exact ⟨rfl, Below.refl _ _⟩
    | true =>
      rw [ha, hb] at hr
      simp only [Bool.and_self, if_true] at hr
      subst hr
      have B1 := Lib.hid (fun W => rb true W hb)
      obtain ⟨x, hx⟩ : ∃ x, M.unsign a = x := ⟨_, rfl⟩
      obtain ⟨y, hy⟩ : ∃ y, M.unsign b = y := ⟨_, rfl⟩
      have lx : x.length ≤ 100000 := by rw [← hx]; have := unsign_len a; omega
      have ly : y.length ≤ 100000 := by rw [← hy]; have := unsign_len b; omega
      have rx := M.row_unsign a ha
      have ry := M.row_unsign b hb
      rw [hx] at rx
      rw [hy] at ry
      have U1 := Lib.hid (fun W => unsign_any a x W hx)
      have U2 := Lib.hid (fun W => unsign_any b y W hy)
      obtain ⟨p, hp⟩ : ∃ p, M.isNeg a = p := ⟨_, rfl⟩
      obtain ⟨q, hq⟩ : ∃ p, M.isNeg b = p := ⟨_, rfl⟩
      have N1 := Lib.hid (fun W => isneg_any a p W hp)
      have N2 := Lib.hid (fun W => isneg_any b q W hq)
      by_cases hpq : p = q
      · have hfin := fun l h1 h2 => M.add_same a b l (by rw [hp, hq, hpq]) h1 (by rw [hx, hy]; exact h2)
        rw [hp] at hfin
        have Hfin := Lib.hid hfin
        have hsum := fun W => sum_any x y W lx ly rx.1 ry.1
        have Hsum := Lib.hid hsum
        have q1 : (p == q) = true := by rw [hpq]; simp
        subst hpq
        clear ra rb ha hb hx hy rx ry hp hq hfin hsum lx ly la lb
        cases p
        all_goals
          go_enter Tryz.func118, Tryz.ntmps118
          go_wp2_with fail
          refine (A1.out _).mono ?_
          rintro e w' ⟨rfl, rfl⟩
          go_wp2_with fail
          refine (B1.out _).mono ?_
          rintro e w' ⟨rfl, rfl⟩
          go_wp2_with fail
          refine (U1.out _).mono ?_
          rintro e w' ⟨rfl, rfl⟩
          go_wp2_with fail
          refine (U2.out _).mono ?_
          rintro e w' ⟨rfl, rfl⟩
          go_wp2_with fail
          refine (N1.out _).mono ?_
          rintro e w' ⟨rfl, rfl⟩
          go_wp2_with fail
          refine (N2.out _).mono ?_
          rintro e w' ⟨rfl, rfl⟩
          go_wp2_with fail
          refine (N1.out _).mono ?_
          rintro e w' ⟨rfl, rfl⟩
          go_wp2_with fail
          refine (Hsum.out _).mono ?_
          rintro e w' ⟨v, l, rfl, ho, hl, hd, hv, hbl⟩
          have hres := Hfin.out l hd hv
          have Hres := Lib.hid hres
          clear hd hv hres
          go_wp2_with fail
          refine (signed_any _ _ v l _ _ ho (by omega) Hres.out).mono ?_
          rintro e w' ⟨rfl, rfl⟩
          go_wp2
          go_ret2
          exact ⟨rfl, hbl⟩
      · have q1 : (p == q) = false := by simpa using hpq
        have hlb := M.less_dval x y rx ry
        by_cases hlt : M.dval x < M.dval y
        · have hless : M.lessB x y = true := by rw [hlb]; simpa using hlt
          have hfin := fun l h1 h2 => M.add_less a b l (by rw [hp, hq]; exact hpq) h1 (by rw [hx, hy]; exact hlt) (by rw [hx, hy]; exact h2)
          rw [hq] at hfin
          have Hfin := Lib.hid hfin
          have hdif := fun W => dif_any y x W ly lx ry.1 rx.1 (M.row_len y x ry rx (by omega)) (by omega)
          have Hdif := Lib.hid hdif
          have L1 := Lib.hid (fun W => lessd_any x y true W (by omega) (by omega) hless)
          clear ra rb ha hb hx hy rx ry hp hq hfin hdif lx ly la lb hlb hlt hless
          cases p <;> cases q <;> first | (exact absurd rfl hpq) | skip
          all_goals
            clear hpq
            go_enter Tryz.func118, Tryz.ntmps118
            go_wp2_with fail
            refine (A1.out _).mono ?_
            rintro e w' ⟨rfl, rfl⟩
            go_wp2_with fail
            refine (B1.out _).mono ?_
            rintro e w' ⟨rfl, rfl⟩
            go_wp2_with fail
            refine (U1.out _).mono ?_
            rintro e w' ⟨rfl, rfl⟩
            go_wp2_with fail
            refine (U2.out _).mono ?_
            rintro e w' ⟨rfl, rfl⟩
            go_wp2_with fail
            refine (N1.out _).mono ?_
            rintro e w' ⟨rfl, rfl⟩
            go_wp2_with fail
            refine (N2.out _).mono ?_
            rintro e w' ⟨rfl, rfl⟩
            go_wp2_with fail
            refine (L1.out _).mono ?_
            rintro e w' ⟨rfl, rfl⟩
            go_wp2_with fail
            refine (N2.out _).mono ?_
            rintro e w' ⟨rfl, rfl⟩
            go_wp2_with fail
            refine (Hdif.out _).mono ?_
            rintro e w' ⟨v, l, rfl, ho, hl, hd, hv, hbl⟩
            have hres := Hfin.out l hd hv
            have Hres := Lib.hid hres
            clear hd hv hres
            go_wp2_with fail
            refine (signed_any _ _ v l _ _ ho (by omega) Hres.out).mono ?_
            rintro e w' ⟨rfl, rfl⟩
            go_wp2
            go_ret2
            exact ⟨rfl, hbl⟩
        · have hless : M.lessB x y = false := by rw [hlb]; simpa using hlt
          have hfin := fun l h1 h2 => M.add_more a b l (by rw [hp, hq]; exact hpq) h1 (by rw [hx, hy]; exact hlt) (by rw [hx, hy]; exact h2)
          rw [hp] at hfin
          have Hfin := Lib.hid hfin
          have hdif := fun W => dif_any x y W lx ly rx.1 ry.1 (M.row_len x y rx ry (by omega)) (by omega)
          have Hdif := Lib.hid hdif
          have L1 := Lib.hid (fun W => lessd_any x y false W (by omega) (by omega) hless)
          clear ra rb ha hb hx hy rx ry hp hq hfin hdif lx ly la lb hlb hlt hless
          cases p <;> cases q <;> first | (exact absurd rfl hpq) | skip
          all_goals
            clear hpq
            go_enter Tryz.func118, Tryz.ntmps118
            go_wp2_with fail
            refine (A1.out _).mono ?_
            rintro e w' ⟨rfl, rfl⟩
            go_wp2_with fail
            refine (B1.out _).mono ?_
            rintro e w' ⟨rfl, rfl⟩
            go_wp2_with fail
            refine (U1.out _).mono ?_
            rintro e w' ⟨rfl, rfl⟩
            go_wp2_with fail
            refine (U2.out _).mono ?_
            rintro e w' ⟨rfl, rfl⟩
            go_wp2_with fail
            refine (N1.out _).mono ?_
            rintro e w' ⟨rfl, rfl⟩
            go_wp2_with fail
            refine (N2.out _).mono ?_
            rintro e w' ⟨rfl, rfl⟩
            go_wp2_with fail
            refine (L1.out _).mono ?_
            rintro e w' ⟨rfl, rfl⟩
            go_wp2_with fail
            refine (N1.out _).mono ?_
            rintro e w' ⟨rfl, rfl⟩
            go_wp2_with fail
            refine (Hdif.out _).mono ?_
            rintro e w' ⟨v, l, rfl, ho, hl, hd, hv, hbl⟩
            have hres := Hfin.out l hd hv
            have Hres := Lib.hid hres
            clear hd hv hres
            go_wp2_with fail
            refine (signed_any _ _ v l _ _ ho (by omega) Hres.out).mono ?_
            rintro e w' ⟨rfl, rfl⟩
            go_wp2
            go_ret2
            exact ⟨rfl, hbl⟩
end Go.Proofs.YtlobinjdgcidmaaGreatDoor

/- Decimals: what Int returns, for any text. -/
namespace Go.Proofs.YtlobinjdgcidmaaGreatDoor.M
open Go.RowKit
set_option linter.unusedVariables false

def intD (l : List UInt8) : Int × Bool := if rightD l = true ∧ -1000000 ≤ valD l ∧ valD l ≤ 1000000 then (valD l, true) else (0, false)
end Go.Proofs.YtlobinjdgcidmaaGreatDoor.M

/- Decimals: an int and whether it is one, as a value. -/
namespace Go.Proofs.YtlobinjdgcidmaaGreatDoor
open Go.RowKit
set_option linter.unusedVariables false
end Go.Proofs.YtlobinjdgcidmaaGreatDoor

/- Decimals: the program's Int. -/
namespace Go.Proofs.YtlobinjdgcidmaaGreatDoor
open Go.RowKit
set_option linter.unusedVariables false
end Go.Proofs.YtlobinjdgcidmaaGreatDoor

/- Plain numbers and lists: the numbers of chapter 5, spelled, and read again. -/
namespace Go.Proofs.YtlobinjdgcidmaaGreatDoor.M
set_option linter.unusedVariables false
set_option linter.unusedSimpArgs false

def rightN (D E : List UInt8) : Bool := if D = [] then E.isEmpty else D.all dig && D.head? != some 48 && D.getLast? != some 48 && rightD E
def unsc (d : List UInt8) (x : Int) : List UInt8 :=
  if 0 ≤ x ∧ x ≤ 20 then d ++ List.replicate x.toNat 48
  else if x < 0 ∧ 0 < (d.length : Int) + x then d.take ((d.length : Int) + x).toNat ++ 46 :: d.drop ((d.length : Int) + x).toNat
  else if (d.length : Int) + x ≤ 0 ∧ -20 ≤ (d.length : Int) + x then 48 :: 46 :: (List.replicate (-((d.length : Int) + x)).toNat 48 ++ d)
  else []
def sgl (ng : Bool) : List UInt8 := if ng then [45] else []
def upE (D E : List UInt8) : List UInt8 := (addD E (txt ((D.length : Int) - 1))).1
def plain1 (ng : Bool) (D E : List UInt8) : List (List UInt8) := if (intD E).2 = true ∧ unsc D (intD E).1 ≠ [] then [sgl ng ++ unsc D (intD E).1] else []
def plain3 (ng : Bool) (D E : List UInt8) : List (List UInt8) := if 1 < D.length ∧ upE D E ≠ [48] then [sgl ng ++ (D.take 1 ++ 46 :: (D.drop 1 ++ 101 :: upE D E))] else []
def plainN (ng : Bool) (D E : List UInt8) : List (List UInt8) :=
  if rightN D E = true then (if D = [] then [sgl ng ++ [48]] else plain1 ng D E ++ ([sgl ng ++ (D ++ 101 :: E)] ++ plain3 ng D E)) else []
def less2 (b s : List UInt8) : List UInt8 := if s.length < b.length then s else b
def shortN : List (List UInt8) → List UInt8
  | [] => []
  | a :: t => t.foldl less2 a
theorem fold_short (t : List (List UInt8)) : ∀ a, (t.foldl less2 a ∈ a :: t) ∧ ∀ x ∈ a :: t, (t.foldl less2 a).length ≤ x.length := by
  induction t with
  | nil => intro a; simp
  | cons b t ih =>
    intro a
    rw [List.foldl_cons]
    obtain ⟨h1, h2⟩ := ih (less2 a b)
    have h3 := h2 (less2 a b) (by simp)
    have h4 : (less2 a b).length ≤ a.length ∧ (less2 a b).length ≤ b.length ∧ (less2 a b = a ∨ less2 a b = b) := by
      unfold less2; split <;> simp <;> omega
    refine ⟨?_, fun x hx => ?_⟩
    · rcases List.mem_cons.1 h1 with h | h
      · rw [h]; rcases h4.2.2 with e | e <;> (rw [e]; simp)
      · simp [h]
    · rcases List.mem_cons.1 hx with rfl | hx
      · omega
      · rcases List.mem_cons.1 hx with rfl | hx
        · omega
        · exact h2 x (by simp [hx])
theorem short_mem (l : List (List UInt8)) (h : l ≠ []) : shortN l ∈ l := by
  cases l with
  | nil => exact absurd rfl h
  | cons a t => exact (fold_short t a).1
theorem canon_core (D : List UInt8) (hd : ∀ c ∈ D, dig c = true) (h1 : D.head? ≠ some 48) (h2 : D.getLast? ≠ some 48) (hne : D ≠ []) : dval D % 10 ≠ 0 ∧ D = canon (dval D) := by
  have e := canon_self D hd h1
  refine ⟨fun h => ?_, e.symm⟩
  have h0 : dval D ≠ 0 := dval_pos D hd h1 hne
  rw [canon_pos _ h0] at e
  apply h2
  rw [← e]
  simp [ofD, h]
theorem right_ex (D E : List UInt8) (h : rightN D E = true) : (D = [] ∧ E = []) ∨ ∃ m X, m % 10 ≠ 0 ∧ D = canon m ∧ E = txt X := by
  unfold rightN at h
  split at h
  · rename_i h0; left; exact ⟨h0, by simpa using h⟩
  · rename_i h0
    right
    simp only [Bool.and_eq_true, List.all_eq_true, bne_iff_ne] at h
    obtain ⟨⟨⟨h1, h2⟩, h3⟩, h4⟩ := h
    obtain ⟨h5, h6⟩ := canon_core D h1 h2 h3 h0
    exact ⟨_, _, h5, h6, (txt_val E h4).symm⟩
theorem expAt_txt (X : Int) : ExpAt (101 :: txt X) X := .inr ⟨101, .inl rfl, rfl⟩
theorem sgl_at (ng : Bool) : (sgl ng = [] ∧ ng = false) ∨ (sgl ng = [45] ∧ ng = true) ∨ (sgl ng = [43] ∧ ng = false) := by cases ng <;> simp [sgl]
theorem dig_rep (k : Nat) : ∀ c ∈ List.replicate k (48 : UInt8), dig c = true := by
  intro c hc
  rw [List.mem_replicate] at hc
  rw [hc.2]; decide
theorem dval_zeros (D : List UInt8) (k : Nat) : dval (D ++ List.replicate k 48) = dval D * 10 ^ k := by
  induction k with
  | zero => simp
  | succ k ih => rw [List.replicate_succ', ← List.append_assoc, dval_snoc, ih, Nat.pow_succ]; show 10 * (dval D * 10 ^ k) + 0 = dval D * (10 ^ k * 10); rw [Nat.mul_comm (10 ^ k) 10, Nat.mul_left_comm (dval D), Nat.add_zero]
theorem dval_lead (k : Nat) (D : List UInt8) : dval (List.replicate k 48 ++ D) = dval D := by
  induction k with
  | zero => simp
  | succ k ih => rw [List.replicate_succ, List.cons_append, dval_cons, ih]; simp
theorem upE_txt (D : List UInt8) (X : Int) : upE D (txt X) = txt (X + ((D.length : Int) - 1)) := by
  unfold upE
  rw [add_right _ _ (val_txt X).2 (val_txt _).2, (val_txt X).1, (val_txt _).1]
theorem plain_back (ng : Bool) (D E : List UInt8) : ∀ t ∈ plainN ng D E, readN t = ((ng, D, E), true) := by
  intro t ht
  unfold plainN at ht
  split at ht
  case isFalse => simp at ht
  rename_i hr
  rcases right_ex D E hr with ⟨rfl, rfl⟩ | ⟨m, X, hm, rfl, rfl⟩
  · rw [if_pos rfl] at ht
    simp only [List.mem_singleton] at ht
    subst ht
    have := read_form (sgl ng) ng (sgl_at ng) [48] [] [] [] 0 (by decide) (by simp) (.inl ⟨rfl, rfl, by simp⟩) (.inl ⟨rfl, rfl⟩)
    simp only [List.append_nil] at this
    rw [this]
    congr 1; exact congrArg (Prod.mk ng) (nz_zero _)
  · have h0 : m ≠ 0 := by intro h0; subst h0; exact hm rfl
    have hne := canon_ne m h0
    have hD := canon_dig m
    rw [if_neg hne] at ht
    obtain ⟨D, eD⟩ : ∃ D, canon m = D := ⟨_, rfl⟩
    have hdv : dval D = m := by rw [← eD, dval_canon]
    have hcore : ∀ e : Int, nz (dval D) e = (D, txt e) := fun e => by rw [hdv, nz_core m e hm, eD]
    rw [eD] at ht hne hD ⊢
    have hl : 0 < D.length := List.length_pos_iff.2 hne
    rcases List.mem_append.1 ht with ht | ht
    · unfold plain1 at ht
      split at ht
      case isFalse => simp at ht
      rename_i hc
      simp only [List.mem_singleton] at ht
      subst ht
      have hx : (intD (txt X)).1 = X := by
        have h2 := hc.1
        unfold intD at h2 ⊢
        split
        · exact (val_txt X).1
        · rename_i hh; rw [if_neg hh] at h2; exact absurd h2 (by simp)
      have hu := hc.2
      rw [hx] at hu ⊢
      unfold unsc at hu ⊢
      split
      · rename_i h1
        have := read_form (sgl ng) ng (sgl_at ng) (D ++ List.replicate X.toNat 48) [] [] [] 0 (fun c hc => (List.mem_append.1 hc).elim (hD c) (dig_rep _ c)) (by simp) (.inl ⟨rfl, rfl, by simp [hne]⟩) (.inl ⟨rfl, rfl⟩)
        simp only [List.append_nil] at this
        rw [this, dval_zeros, nz_pow, hcore, show (0 : Int) - ([] : List UInt8).length + X.toNat = X by simp; omega]
      · rename_i h1
        split
        · rename_i h2
          obtain ⟨n, hn⟩ : ∃ n : Nat, (n : Int) = D.length + X := ⟨((D.length : Int) + X).toNat, by omega⟩
          rw [show ((D.length : Int) + X).toNat = n by omega]
          have := read_form (sgl ng) ng (sgl_at ng) (D.take n) (D.drop n) (46 :: D.drop n) [] 0 (fun c hc => hD c (List.mem_of_mem_take hc)) (fun c hc => hD c (List.mem_of_mem_drop hc)) (.inr ⟨rfl, by intro e; have := congrArg List.length e; simp at this; omega⟩) (.inl ⟨rfl, rfl⟩)
          rw [List.append_nil] at this
          rw [this, List.take_append_drop, hcore, List.length_drop, show (0 : Int) - ((D.length - n : Nat) : Int) = X by omega]
        · rename_i h2
          split
          · rename_i h3
            obtain ⟨n, hn⟩ : ∃ n : Nat, (n : Int) = -(D.length + X) := ⟨(-((D.length : Int) + X)).toNat, by omega⟩
            rw [show (-((D.length : Int) + X)).toNat = n by omega]
            have := read_form (sgl ng) ng (sgl_at ng) [48] (List.replicate n 48 ++ D) (46 :: (List.replicate n 48 ++ D)) [] 0 (by decide) (fun c hc => (List.mem_append.1 hc).elim (dig_rep _ c) (hD c)) (.inr ⟨rfl, by simp [hne]⟩) (.inl ⟨rfl, rfl⟩)
            rw [List.append_nil] at this
            rw [show (48 :: 46 :: (List.replicate n 48 ++ D)) = [48] ++ (46 :: (List.replicate n 48 ++ D)) from rfl, this, show [48] ++ (List.replicate n 48 ++ D) = List.replicate (n + 1) 48 ++ D by rw [List.replicate_succ]; rfl, dval_lead, hcore, List.length_append, List.length_replicate, show (0 : Int) - ((n + D.length : Nat) : Int) = X by omega]
          · rename_i h3
            rw [if_neg h1, if_neg h2, if_neg h3] at hu
            exact absurd rfl hu
    · rcases List.mem_append.1 ht with ht | ht
      · simp only [List.mem_singleton] at ht
        subst ht
        have := read_form (sgl ng) ng (sgl_at ng) D [] [] (101 :: txt X) X hD (by simp) (.inl ⟨rfl, rfl, hne⟩) (expAt_txt X)
        rw [List.nil_append] at this
        rw [this, List.append_nil, hcore, show X - ([] : List UInt8).length = X by simp]
      · unfold plain3 at ht
        split at ht
        case isFalse => simp at ht
        rename_i hc
        simp only [List.mem_singleton] at ht
        subst ht
        rw [upE_txt]
        have := read_form (sgl ng) ng (sgl_at ng) (D.take 1) (D.drop 1) (46 :: D.drop 1) (101 :: txt (X + ((D.length : Int) - 1))) (X + ((D.length : Int) - 1)) (fun c hc => hD c (List.mem_of_mem_take hc)) (fun c hc => hD c (List.mem_of_mem_drop hc)) (.inr ⟨rfl, by intro e; have := congrArg List.length e; simp at this; omega⟩) (expAt_txt _)
        rw [List.cons_append] at this
        rw [this, List.take_append_drop, hcore, List.length_drop, show X + ((D.length : Int) - 1) - ((D.length - 1 : Nat) : Int) = X by omega]
end Go.Proofs.YtlobinjdgcidmaaGreatDoor.M

/- Plain numbers and lists: numbers written in several ways; which digits and powers may be. -/
namespace Go.Proofs.YtlobinjdgcidmaaGreatDoor.M
set_option linter.unusedVariables false
set_option linter.unusedSimpArgs false

theorem strip_len2 (l : List UInt8) : (strip l).length ≤ l.length := by
  unfold strip
  exact (List.dropWhile_sublist _).length_le
theorem rstrip_len (l : List UInt8) : (rstrip l).length ≤ l.length := by
  unfold rstrip
  rw [List.length_reverse]
  exact Nat.le_trans (List.dropWhile_sublist _).length_le (by rw [List.length_reverse]; exact Nat.le_refl _)
end Go.Proofs.YtlobinjdgcidmaaGreatDoor.M

/- Plain numbers and lists: no text that is a number is shorter than its shortest spelling, but one that begins with a point, or a plus. -/
namespace Go.Proofs.YtlobinjdgcidmaaGreatDoor.M
set_option linter.unusedVariables false
set_option linter.unusedSimpArgs false

theorem plain_ne (ng : Bool) (D E : List UInt8) (h : rightN D E = true) : plainN ng D E ≠ [] := by
  unfold plainN
  rw [if_pos h]
  split <;> simp
theorem readN_nil : (readN []).2 = false := by decide
theorem plain_pos (ng : Bool) (D E : List UInt8) : ∀ t ∈ plainN ng D E, 0 < t.length := by
  intro t ht
  have := plain_back ng D E t ht
  rcases Nat.eq_zero_or_pos t.length with h | h
  · rw [List.length_eq_zero_iff.1 h] at this
    have h2 := readN_nil
    rw [this] at h2
    exact absurd h2 (by simp)
  · exact h
end Go.Proofs.YtlobinjdgcidmaaGreatDoor.M
