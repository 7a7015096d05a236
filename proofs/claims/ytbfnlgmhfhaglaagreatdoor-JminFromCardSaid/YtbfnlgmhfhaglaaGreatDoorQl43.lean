/- Texts of ours in one: APie VStep. -/
import Derived.Test.YtbfnlgmhfhaglaaGreatDoorQl42
import Derived.Test.YtbfnlgmhfhaglaaGreatDoorQl10
import Derived.Test.YtbfnlgmhfhaglaaGreatDoorQl12
import Derived.Test.YtbfnlgmhfhaglaaGreatDoorQl02
import Derived.Deep.AppendLies
import Derived.Deep.RegionHeld3
/- Values of any shape: jmin.Pieces, what it gives, plain; jmin.single, mark. -/
namespace Go.Proofs.YtbfnlgmhfhaglaaGreatDoor
open Go.RowKit
set_option linter.unusedVariables false
set_option linter.unusedSimpArgs false

abbrev Jp := List UInt8 × Int
def pcv (p : Jp) : List Value := [.string (bytes p.1), .int .i64 p.2]
def sglB (h : Vh) : List UInt8 := if h.k = 3 then M.spell (h.tx.map Int.toNat) else if h.k = 4 then M.shortN (M.plainN h.ng h.dg h.ex) else if h.k = 5 then [116, 114, 117, 101] else if h.k = 6 then [102, 97, 108, 115, 101] else [110, 117, 108, 108]
def mkB (k : Int) (i : Nat) : List UInt8 := if k = 1 ∧ i % 2 = 1 then [58] else [44]
def opB (k : Int) : List UInt8 := if k = 1 then [123] else [91]
def clB (k : Int) : List UInt8 := if k = 1 then [125] else [93]
def pcsL (k : Int) (ms : List Int) : Vo → Nat → List Jp
  | .nil, _ => []
  | .cons h kids rest, i => (if 0 < i then [(mkB k i, ms.getD (i - 1) 0)] else []) ++ ((if h.k = 1 ∨ h.k = 2 then (opB h.k, h.fr) :: (pcsL h.k h.ms kids 0 ++ [(clB h.k, h.tt)]) else [(sglB h, h.fr)]) ++ pcsL k ms rest (i + 1))
def pcsV (h : Vh) (kids : Vo) : List Jp := if h.k = 1 ∨ h.k = 2 then (opB h.k, h.fr) :: (pcsL h.k h.ms kids 0 ++ [(clB h.k, h.tt)]) else [(sglB h, h.fr)]
theorem pcsL_cons (k : Int) (ms : List Int) (h : Vh) (kids rest : Vo) (i : Nat) : pcsL k ms (.cons h kids rest) i = (if 0 < i then [(mkB k i, ms.getD (i - 1) 0)] else []) ++ (pcsV h kids ++ pcsL k ms rest (i + 1)) := rfl
set_option maxRecDepth 100000 in
set_option maxHeartbeats 2000000 in
theorem mark_any (h : Vh) (kids : Vo) (tv v mv : Value) (i : Nat) (w : World) (ht : HdS w h tv mv) (hv : VoS w v kids) (hi : i ≤ 1000000000) :
    Calls Tryz.prog 77 #[.agg (vv h tv v mv), .int .i64 (i : Int)] w fun e w' => e = .returned (.string (bytes (mkB h.k i))) ∧ Below w.heap.size w w' := by
  have b0 := Lib.hid ((Below.refl w.heap.size w).alloc (Nat.le_refl _) (.cells (vv h tv v mv) 27))
  obtain ⟨a, c, hvs⟩ := hv.slice
  obtain ⟨ta, tc, hts⟩ := ht.t.slice
  obtain ⟨ma, mc, hms⟩ := ht.m.slice
  subst hvs hts hms
  have MK := Lib.hid (show mkB h.k i = if h.k = 1 ∧ i % 2 = 1 then [58] else [44] from rfl)
  obtain ⟨ans, hans⟩ : ∃ x, mkB h.k i = x := ⟨_, rfl⟩
  rw [hans] at MK ⊢
  unfold vv vvl at b0 ⊢
  obtain ⟨K, hK⟩ : ∃ x, h.k = x := ⟨_, rfl⟩
  rw [hK] at b0 MK ⊢
  have j3 : (i : Int).tmod 2 = ((i % 2 : Nat) : Int) := by rw [Int.tmod_eq_emod_of_nonneg (by omega)]; omega
  clear hans hK ht hv
  by_cases hk : K = 1
  · subst hk
    rcases Nat.mod_two_eq_zero_or_one i with hm | hm
    · have hq : ans = [44] := by rw [MK.out, if_neg (by omega)]
      rw [hm] at j3
      subst hq
      clear hm MK
      go_enter Tryz.func77, Tryz.ntmps77
      go_wp2
      go_ret
      exact ⟨rfl, b0.out⟩
    · have hq : ans = [58] := by rw [MK.out, if_pos ⟨rfl, hm⟩]
      rw [hm] at j3
      subst hq
      clear hm MK
      go_enter Tryz.func77, Tryz.ntmps77
      go_wp2
      go_ret
      exact ⟨rfl, b0.out⟩
  · have hq : ans = [44] := by rw [MK.out, if_neg (by omega)]
    have t1 : (K == 1) = false := by simpa using hk
    subst hq
    clear MK hk j3
    go_enter Tryz.func77, Tryz.ntmps77
    go_wp2
    go_ret
    exact ⟨rfl, b0.out⟩
theorem units_nat (l : List Int) (h : M.rightU l = true) : iN (l.map Int.toNat) = l ∧ ∀ u ∈ l.map Int.toNat, u ≤ 65535 := by
  rw [M.rightU_iff] at h
  constructor
  · unfold iN
    rw [List.map_map]
    conv => rhs; rw [← List.map_id l]
    apply List.map_congr_left
    intro z hz
    have := h z hz
    simp only [Function.comp, id]
    omega
  · intro u hu
    obtain ⟨z, hz, rfl⟩ := List.mem_map.1 hu
    have := h z hz
    omega
set_option maxRecDepth 100000 in
set_option maxHeartbeats 4000000 in
theorem jmsingle_any (h : Vh) (kids : Vo) (tv v mv : Value) (w : World) (ht : HdS w h tv mv) (hv : VoS w v kids) (hT : Tabs w) (hU : h.k = 3 → M.rightU h.tx = true) (hL : h.tx.length ≤ 1048576) (hD : h.dg.length ≤ 700) (hE : h.ex.length ≤ 700) :
    Calls Tryz.prog 57 #[.agg (vv h tv v mv)] w fun e w' => e = .returned (.string (bytes (sglB h))) ∧ Below w.heap.size w w' := by
  have b0 := Lib.hid ((Below.refl w.heap.size w).alloc (Nat.le_refl _) (.cells (vv h tv v mv) 27))
  have x0 := Lib.hid (VB.new w h tv v mv)
  have SG := Lib.hid (show sglB h = if h.k = 3 then M.spell (h.tx.map Int.toNat) else if h.k = 4 then M.shortN (M.plainN h.ng h.dg h.ex) else if h.k = 5 then [116, 114, 117, 101] else if h.k = 6 then [102, 97, 108, 115, 101] else [110, 117, 108, 108] from rfl)
  have hv2 := hv
  have ht2 := ht
  obtain ⟨a, c, hvs⟩ := hv.slice
  obtain ⟨ta, tc, hts⟩ := ht.t.slice
  obtain ⟨ma, mc, hms⟩ := ht.m.slice
  subst hvs hts hms
  obtain ⟨W1, hW1⟩ : ∃ W, w.alloc (.cells (vv h (.slice ta h.tx.length tc) (.slice a kids.len c) (.slice ma h.ms.length mc)) 27) = W := ⟨_, rfl⟩
  rw [hW1] at b0 x0
  have HW1 := Lib.hid hW1
  have TW := Lib.hid (hT.keep b0.out)
  have HI := Lib.hid ((ht.below b0.out).t.is (fun _ h => h))
  obtain ⟨ans, hans⟩ : ∃ x, sglB h = x := ⟨_, rfl⟩
  rw [hans] at SG ⊢
  obtain ⟨g0, g1, g2, g3, g4, -, -, -, -⟩ := x0.out.cells
  have SH := Lib.hid (fun W hW => short_any h.ng h.dg h.ex _ W hW hD hE rfl)
  have HU := Lib.hid hU
  obtain ⟨K, hK⟩ : ∃ x, h.k = x := ⟨_, rfl⟩
  rw [hK] at g0 SG HU
  have EXP : Hid (vv h (.slice ta h.tx.length tc) (.slice a kids.len c) (.slice ma h.ms.length mc) = #[.int .i64 K, .slice ta h.tx.length tc, .bool h.ng, .string (bytes h.dg), .string (bytes h.ex), .slice a kids.len c, .int .i64 h.fr, .int .i64 h.tt, .slice ma h.ms.length mc]) := Lib.hid (by rw [← hK]; rfl)
  rw [EXP.out] at HW1 ⊢
  clear hW1 hK hans hv hv2 ht ht2 hT hU x0
  by_cases k3 : K = 3
  · subst k3
    obtain ⟨q1, q2⟩ := units_nat h.tx (HU.out rfl)
    have hq : ans = M.spell (h.tx.map Int.toNat) := by rw [SG.out, if_pos rfl]
    have JS := Lib.hid (jspell_any _ (h.tx.map Int.toNat) _ W1 (by rw [q1]; exact HI.out) (by rw [List.length_map]; exact hL) q2 rfl)
    rw [← hq] at JS
    clear SG q1 q2 hq SH g2 g3 g4
    go_enter Tryz.func57, Tryz.ntmps57
    go_upto_region 1 with fail
    rw [HW1.out]
    go_wp2_with fail
    refine JS.out.mono ?_
    rintro e w2 ⟨rfl, hb2⟩
    have d2 := b0.out.trans (hb2.mono b0.out.size)
    clear hb2
    go_wp2
    go_ret
    exact ⟨rfl, d2⟩
  have t3 : (K == 3) = false := by simpa using k3
  by_cases k4 : K = 4
  · subst k4
    have hq : ans = M.shortN (M.plainN h.ng h.dg h.ex) := by rw [SG.out, if_neg (by decide), if_pos rfl]
    have S1 := Lib.hid (SH.out W1 TW.out)
    rw [← hq] at S1
    unfold numV at S1
    simp only at S1
    obtain ⟨D, hD'⟩ : ∃ x, bytes h.dg = x := ⟨_, rfl⟩
    obtain ⟨E, hE'⟩ : ∃ x, bytes h.ex = x := ⟨_, rfl⟩
    rw [hD'] at S1 g3 HW1 ⊢
    rw [hE'] at S1 g4 HW1 ⊢
    clear SG hq SH k3 hD' hE' EXP
    go_enter Tryz.func57, Tryz.ntmps57
    go_upto_region 1 with fail
    rw [HW1.out]
    go_wp2_with fail
    refine S1.out.mono ?_
    rintro e w2 ⟨rfl, hb2⟩
    have d2 := b0.out.trans (hb2.mono b0.out.size)
    clear hb2
    go_wp2
    go_ret
    exact ⟨rfl, d2⟩
  have t4 : (K == 4) = false := by simpa using k4
  have hq := SG.out
  rw [if_neg k3, if_neg k4] at hq
  clear SG SH HU k3 k4 HI g1 g2 g3 g4 EXP
  by_cases k5 : K = 5
  · subst k5
    rw [if_pos rfl] at hq
    subst hq
    go_enter Tryz.func57, Tryz.ntmps57
    go_upto_region 1 with fail
    rw [HW1.out]
    go_wp2
    go_ret
    exact ⟨rfl, b0.out⟩
  rw [if_neg k5] at hq
  have t5 : (K == 5) = false := by simpa using k5
  by_cases k6 : K = 6
  · subst k6
    rw [if_pos rfl] at hq
    subst hq
    clear k5
    go_enter Tryz.func57, Tryz.ntmps57
    go_upto_region 1 with fail
    rw [HW1.out]
    go_wp2
    go_ret
    exact ⟨rfl, b0.out⟩
  rw [if_neg k6] at hq
  have t6 : (K == 6) = false := by simpa using k6
  subst hq
  clear k5 k6
  go_enter Tryz.func57, Tryz.ntmps57
  go_upto_region 1 with fail
  rw [HW1.out]
  go_wp2
  go_ret
  exact ⟨rfl, b0.out⟩
end Go.Proofs.YtbfnlgmhfhaglaaGreatDoor
/- append of one struct onto structs of the call's own, at a step of a region that draws its order. -/
namespace Go.Proofs.YtbfnlgmhfhaglaaGreatDoor
open Go.RowKit
set_option linter.unusedVariables false
set_option linter.unusedSimpArgs false

theorem stepl_appendV {w : World} {ops : Array Oper} {o : Oper} {a : Act} {K : Act → World → Prop} {Q : Exit → Act → World → Prop} {E0 : Prop} {E T sz bytes : Nat} {z : Value} (hgd : o.guard = none) (s xo : Operand)
    (ho : o.op = .call { callee := .builtin .append, args := #[s, xo], argTypes := #[T, T] }) (hT : Tryz.prog.underlying T = some (.slice E)) (hinfo : (Tryz.prog.info? E).map (fun i => (i.zero, i.size, i.bytes)) = some (some z, sz, bytes)) (hz : z.cells.size = sz) (h0 : 0 < sz)
    (B : Nat) (v u : Value) (l t : List (List Value)) (y : List Value) (hs : a.eval s = v) (hown : OwnV E sz B w v l) (hx : a.eval xo = u) (hu : Vs sz w u [y]) (hy : y.length = sz) (hy1 : ∀ c ∈ y, c.oneCell' = true)
    (hlen : (l.length + 1) * bytes ≤ 140737488355328) (hb0 : 0 < bytes) (hB : B ≤ w.heap.size) (ht : l ++ [y] = t)
    (h : ∀ v' w', OwnV E sz B w' v' t → Below B w w' → w.grownBy w' v.ownBlock → (v'.ownBlock = v.ownBlock ∨ v'.ownBlock = some w.heap.size) → K (a.put o.dst v') w') : if Region.wanted o (yielded ops a.tmps) = true then Oper.wp Tryz.prog o a w K Q else E0 := by
  subst ht
  obtain ⟨i0, hi, hz0, hz1, hz2⟩ := info_parts hinfo
  obtain ⟨ad, cap, rfl, h1, h2, h3⟩ := hu
  obtain ⟨hown, hsz, hone⟩ := hown
  have hlt := World.ownsRow.lt hown
  obtain ⟨b, off, rfl, _, hc⟩ := h3 (by simp)
  have hmax : l.length + 1 ≤ 140737488355328 := Nat.le_trans (Nat.le_mul_of_pos_right _ hb0) hlen
  have hcs : ∀ j c, y[j]? = some c → w.cell? ((⟨b, off, none⟩ : Addr).add j) = some c := by
    intro j c hj
    rw [Go.WideShapes.add_plain]
    have := hc 0 (by simp) j c (by simpa using hj)
    simpa using this
  refine step_append_lies w hgd s xo T ho B E i0 z sz bytes hT hi hz0 hz1 hz2 hz h0 v l.length l.flatten hs hown ⟨b, off, none⟩ 1 cap y (by simpa using hx) (by rw [hy, Nat.one_mul]) hcs hy1 (by decide) (by unfold maxLen; omega) hlen hB _ rfl ?_
  intro g cap' w' hown' hg hgo _
  refine h _ w' ⟨?_, ?_, ?_⟩ ((Below.refl B w).grown hg hB (fun j hj => (hlt j hj).1)) hg (by rcases hgo with h | h; exact .inl h.symm; right; rw [h]; rfl)
  · have e : (l ++ [y]).flatten = l.flatten ++ y := by simp
    rw [e, List.length_append]
    exact hown'
  · intro q hq
    rcases List.mem_append.1 hq with hq | hq
    · exact hsz q hq
    · rw [List.mem_singleton.1 hq]; exact hy
  · intro q hq
    rcases List.mem_append.1 hq with hq | hq
    · exact hone q hq
    · rw [List.mem_singleton.1 hq]; exact hy1
end Go.Proofs.YtbfnlgmhfhaglaaGreatDoor
