import Derived.Test.YtbfnlgmhfhaglaaGreatDoorQb17
import Derived.Test.YtbfnlgmhfhaglaaGreatDoorQb02
import Derived.Maps.AppendAt
import Derived.OneCell
import Derived.Test.YtbfnlgmhfhaglaaGreatDoorQb16
import Derived.Test.YtbfnlgmhfhaglaaGreatDoorQb14
import Derived.Deep.QuietTactic
import Derived.BigQuiet
import Derived.OrdersHeld
import Derived.Deep.MidRow
import Derived.Deep.AppendLies
import Derived.Laws.OwnMore
import Derived.Deep.RegionHeld3
set_option maxHeartbeats 4000000
set_option maxRecDepth 100000
namespace Go.Proofs.YtbfnlgmhfhaglaaGreatDoor
open Go.RowKit
set_option linter.unusedVariables false
set_option linter.unusedSimpArgs false
theorem short_step (l : List (List UInt8)) (k : Nat) (hk : k < l.length) : M.shortN (l.take (k + 1)) = if k = 0 then l[k] else M.less2 (M.shortN (l.take k)) l[k] := by
 rw [List.take_succ_eq_append_getElem hk]
 cases l with
 | nil => simp at hk
 | cons a t =>
  cases k with
  | zero => rfl
  | succ k =>
   rw [if_neg (by omega)]
   simp only [List.take_succ_cons, List.cons_append, M.shortN, List.foldl_append, List.foldl_cons, List.foldl_nil]
theorem ss_get {w : World} {v : Value} {l : List (List UInt8)} (h : Ss w v l) : ∃ a cap, v = .slice a l.length cap /\ (0 < l.length -> ∃ b off, a = some ⟨b, off, none⟩ /\ b < w.heap.size /\ ∀ j (h : j < l.length), w.cell? ⟨b, off + j, none⟩ = some (.string (bytes l[j]))) := by
 obtain ⟨a, cap, hv, h1, h2, h3⟩ := h
 rw [srow_len] at hv
 refine ⟨a, cap, hv, fun h0 => ?_⟩
 obtain ⟨b, off, ha, hb, hc⟩ := h3 (by rw [srow_len]; exact h0)
 refine ⟨b, off, ha, hb, fun j hj => ?_⟩
 have := hc j (by rw [srow_len]; exact hj) 0 (.string (bytes l[j])) (by simp [srow])
 rwa [Nat.mul_one, Nat.add_zero] at this
theorem short_any (ng : Bool) (D E R : List UInt8) (w : World) (hT : Tabs w) (h1 : D.length <= 700) (h2 : E.length <= 700) (hR : M.shortN (M.plainN ng D E) = R) :
  Calls Tryz.prog 79 #[.agg (numV (ng, D, E))] w fun e w' => e = .returned (.string (bytes R)) /\ Below w.heap.size w w' := by
 obtain ⟨l, hl⟩ : ∃ l, M.plainN ng D E = l := ⟨_, rfl⟩
 have hlen : l.length <= 3 := by
  rw [<- hl]; unfold M.plainN M.plain1 M.plain3
  split
  ·split
   ·simp
   ·simp only [List.length_append]
    split <;> split <;> simp
  ·simp
 rw [hl] at hR
 have P1 := LH (fun (W : World) (hW : Below w.heap.size w W) => plain_any ng D E l W (hT.keep hW) h1 h2 hl)
 have hsz : ∀ j (h : j < l.length), (bytes l[j]).size = l[j].length := fun j h => bytes_size _
 unfold numV at P1 ⊢
 simp only at P1 ⊢
 have HR := LH hR
 have B0 : Hid (Below w.heap.size w (w.alloc (.cells #[.bool ng, .string (bytes D), .string (bytes E)] 24))) := LH ((Below.refl _ _).alloc (Nat.le_refl _) _)
 obtain ⟨SD, hSD⟩ : ∃ S, bytes D = S := ⟨_, rfl⟩
 obtain ⟨SE, hSE⟩ : ∃ S, bytes E = S := ⟨_, rfl⟩
 rw [hSD, hSE] at P1 B0 ⊢
 clear hl hR hSD hSE hsz hT
 go_enter Tryz.func79, Tryz.ntmps79
 go_wp2_with fail
 refine (P1.out _ B0.out).mono ?_
 rintro e w1 ⟨v, rfl, hs, hb1⟩
 obtain ⟨a, cap, rfl, hc⟩ := ss_get hs
 have hb2 := B0.out.trans (hb1.mono B0.out.size)
 have HC := LH hc
 have HB2 := LH hb2
 obtain ⟨n, hn⟩ : ∃ n, l.length = n := ⟨_, rfl⟩
 have HN := LH hn
 rw [hn] at hlen ⊢
 clear hs hb1 hc hb2 hn
 go_wp2
 go_loop [3, 9] (fun sv iv => ∃ k : Nat, iv = .int .i64 (k : Int) /\ k <= n /\ sv = .string (bytes (M.shortN (l.take k)))) (fun _ iv => n - (intOf iv).toNat)
 case atStart => exact ⟨0, rfl, by omega, rfl⟩
 case round =>
  obtain ⟨k, rfl, hk, rfl⟩ := hrel
  by_cases hlt : k < n
  ·have hkl : k < l.length := by rw [HN.out]; exact hlt
   obtain ⟨b, off, rfl, hb, hcell⟩ := HC.out (by omega)
   have hc1 := hcell k hkl
   have hst := short_step l k hkl
   obtain ⟨s, hs⟩ : ∃ s, l[k] = s := ⟨_, rfl⟩
   obtain ⟨t, ht⟩ : ∃ s, M.shortN (l.take k) = s := ⟨_, rfl⟩
   rw [hs] at hc1 hst
   rw [ht] at hst ⊢
   have z1 := bytes_size s
   have z2 := bytes_size t
   obtain ⟨S, hS⟩ : ∃ S, bytes s = S := ⟨_, rfl⟩
   obtain ⟨T, hT⟩ : ∃ S, bytes t = S := ⟨_, rfl⟩
   rw [hS] at hc1 z1
   rw [hT] at z2 ⊢
   have hst2 : bytes (M.shortN (l.take (k + 1))) = if k = 0 then S else if S.size < T.size then S else T := by
    rw [hst]; unfold M.less2
    split
    ·exact hS
    ·rw [z1, z2]; split
     ·exact hS
     ·exact hT
   have HST := LH hst2
   clear hcell hst hs ht hS hT hst2 z1 z2 hb
   have hway : (k = 0) \/ (0 < k /\ S.size < T.size) \/ (0 < k /\ T.size <= S.size) := by omega
   rcases hway with rfl | ⟨q1, q2⟩ | ⟨q1, q2⟩
   ·rw [Nat.add_zero] at hc1
    go_wp2
    go_round
    case rel => exact ⟨0 + 1, by go_num, by omega, by rw [HST.out, if_pos rfl]⟩
    case measure => simp [intOf] <;> omega
   ·have q3 : ((k : Int) == 0) = false := by rw [beq_eq_false_iff_ne]; omega
    go_wp2
    go_round
    case rel => exact ⟨k + 1, by go_num, by omega, by rw [HST.out, if_neg (by omega), if_pos (by omega)]⟩
    case measure => simp [intOf] <;> omega
   ·have q3 : ((k : Int) == 0) = false := by rw [beq_eq_false_iff_ne]; omega
    go_wp2
    go_round
    case rel => exact ⟨k + 1, by go_num, by omega, by rw [HST.out, if_neg (by omega), if_neg (by omega)]⟩
    case measure => simp [intOf] <;> omega
  ·obtain rfl : k = n := by omega
   clear hlt
   have hfin : M.shortN (l.take k) = R := by rw [<- HN.out, List.take_length]; exact HR.out
   rw [hfin]
   clear hfin
   go_wp2
   go_ret
   exact ⟨rfl, HB2.out⟩
end Go.Proofs.YtbfnlgmhfhaglaaGreatDoor
namespace Go.Proofs.YtbfnlgmhfhaglaaGreatDoor
open Go.RowKit
set_option linter.unusedVariables false
theorem wpl_appendVG {w : World} {ops : Array Oper} {rest : List Oper} {o : Oper} {a : Act} {Q : Exit -> Act -> World -> Prop} {E T sz bytes : Nat} {z : Value} (hgd : o.guard = none) (s x : Operand)
  (ho : o.op = .call { callee := .builtin .append, args := #[s, x], argTypes := #[T, T] }) (hT : Tryz.prog.underlying T = some (.slice E)) (hinfo : (Tryz.prog.info? E).map (fun i => (i.zero, i.size, i.bytes)) = some (some z, sz, bytes)) (hz : z.cells.size = sz) (h0 : 0 < sz)
  (B : Nat) (v u : Value) (l k t : List (List Value)) (hs : a.eval s = v) (hown : OwnV E sz B w v l) (hx : a.eval x = u) (hu : Vs sz w u k) (hnn : NNv u) (hk : ∀ y ∈ k, y.length = sz) (hk1 : ∀ y ∈ k, ∀ c ∈ y, c.oneCell' = true)
  (hlen : (l.length + k.length) * bytes <= 140737488355328) (hb0 : 0 < bytes) (hB : B <= w.heap.size) (ht : l ++ k = t)
  (h : ∀ v' w', OwnV E sz B w' v' t -> Below B w w' -> (∀ j, j < w.heap.size -> some j ≠ v.ownBlock -> w'.heap[j]? = w.heap[j]?) -> (v'.ownBlock = v.ownBlock \/ v'.ownBlock = some w.heap.size) -> wpList Tryz.prog ops Q rest (a.put o.dst v') w') : wpList Tryz.prog ops Q (o :: rest) a w := by
 subst ht
 obtain ⟨i0, hi, hz0, hz1, hz2⟩ := info_parts hinfo
 obtain ⟨ad, cap, rfl, h1, h2, h3⟩ := hu
 obtain ⟨hown, hsz, hone⟩ := hown
 have hlt := World.ownsRow.lt hown
 have hmax : l.length + k.length <= 140737488355328 := Nat.le_trans (Nat.le_mul_of_pos_right _ hb0) hlen
 have hall : (∀ y ∈ l ++ k, y.length = sz) /\ ∀ y ∈ l ++ k, ∀ c ∈ y, c.oneCell' = true := by
  refine ⟨fun y hy => ?_, fun y hy => ?_⟩
  ·rcases List.mem_append.1 hy with hy | hy
   ·exact hsz y hy
   ·exact hk y hy
  ·rcases List.mem_append.1 hy with hy | hy
   ·exact hone y hy
   ·exact hk1 y hy
 cases ad with
 | none =>
  have hk0 : k = [] := by
   cases k with
   | nil => rfl
   | cons c k => obtain ⟨b, off, h, _⟩ := h3 (by simp); exact absurd h (by simp)
  subst hk0
  obtain rfl := hnn _ _ rfl
  refine wpList_append_own_none hgd s x T ho B E i0 sz hT hi v l.length l.flatten hs hown hx ?_
  exact h v w (by rw [List.append_nil]; exact ⟨hown, hsz, hone⟩) (Below.refl _ _) (fun _ _ _ => rfl) (.inl rfl)
 | some ad =>
  have hcs : ∀ j c, k.flatten[j]? = some c -> w.cell? (ad.add j) = some c := by
   intro j c hj
   have hjl := (List.getElem?_eq_some_iff.1 hj).1
   rw [flat_len k hk] at hjl
   have hk0 : 0 < k.length := by
    rcases Nat.eq_zero_or_pos k.length with e | e
    ·rw [e, Nat.zero_mul] at hjl; omega
    ·exact e
   obtain ⟨b, off, hab, _, hc⟩ := h3 hk0
   obtain rfl : ad = ⟨b, off, none⟩ := by simpa using hab
   have hq : j / sz < k.length := by rw [Nat.div_lt_iff_lt_mul h0]; exact hjl
   have hm : j % sz < sz := Nat.mod_lt _ h0
   have he : j / sz * sz + j % sz = j := by rw [Nat.mul_comm]; exact Nat.div_add_mod j sz
   have hf := flat_get k hk (j / sz) hq (j % sz) hm
   rw [he, hj] at hf
   rw [Go.WideShapes.add_plain]
   have := hc (j / sz) hq (j % sz) c hf.symm
   rwa [he] at this
  refine wpList_append_own_at _ hgd s x T ho B E i0 z sz bytes hT hi hz0 hz1 hz2 hz h0 v l.length l.flatten hs hown ad k.length cap k.flatten hx (flat_len k hk) hcs (fun u hu => ?_) (by unfold maxLen; omega) hlen hB ?_
  ·obtain ⟨y, hy, hu⟩ := List.mem_flatten.1 hu
   exact hk1 y hy u hu
  ·intro v' w' hown' hg _ hwh
   refine h v' w' ⟨?_, hall.1, hall.2⟩ ((Below.refl B w).grown hg hB (fun j hj => (hlt j hj).1)) (fun j h1 h2 => hg.block j h1 h2) hwh
   rw [<- List.flatten_append, <- List.length_append] at hown'
   exact hown'
theorem OwnV.setOther {E sz B : Nat} {w : World} {v : Value} {l : List (List Value)} (h : OwnV E sz B w v l) (a : Addr) (u : Value) (hne : v.ownBlock ≠ some a.block) : OwnV E sz B (w.setCell a u) v l :=
 ⟨ownsRow_setCell_other h.1 hne u, h.2.1, h.2.2⟩
end Go.Proofs.YtbfnlgmhfhaglaaGreatDoor
namespace Go.Proofs.YtbfnlgmhfhaglaaGreatDoor
open Go.RowKit
set_option linter.unusedVariables false
set_option linter.unusedSimpArgs false
abbrev Jp := List UInt8 × Int
def pcv (p : Jp) : List Value := [.string (bytes p.1), .int .i64 p.2]
def sglB (h : Vh) : List UInt8 := if h.k = 3 then M.spell (h.tx.map Int.toNat) else if h.k = 4 then M.shortN (M.plainN h.ng h.dg h.ex) else if h.k = 5 then [116, 114, 117, 101] else if h.k = 6 then [102, 97, 108, 115, 101] else [110, 117, 108, 108]
def mkB (k : Int) (i : Nat) : List UInt8 := if k = 1 /\ i % 2 = 1 then [58] else [44]
def opB (k : Int) : List UInt8 := if k = 1 then [123] else [91]
def clB (k : Int) : List UInt8 := if k = 1 then [125] else [93]
def pcsL (k : Int) (ms : List Int) : Vo -> Nat -> List Jp
 | .nil, _ => []
 | .cons h kids rest, i => (if 0 < i then [(mkB k i, ms.getD (i - 1) 0)] else []) ++ ((if h.k = 1 \/ h.k = 2 then (opB h.k, h.fr) :: (pcsL h.k h.ms kids 0 ++ [(clB h.k, h.tt)]) else [(sglB h, h.fr)]) ++ pcsL k ms rest (i + 1))
def pcsV (h : Vh) (kids : Vo) : List Jp := if h.k = 1 \/ h.k = 2 then (opB h.k, h.fr) :: (pcsL h.k h.ms kids 0 ++ [(clB h.k, h.tt)]) else [(sglB h, h.fr)]
theorem pcsL_cons (k : Int) (ms : List Int) (h : Vh) (kids rest : Vo) (i : Nat) : pcsL k ms (.cons h kids rest) i = (if 0 < i then [(mkB k i, ms.getD (i - 1) 0)] else []) ++ (pcsV h kids ++ pcsL k ms rest (i + 1)) := rfl
theorem mark_any (h : Vh) (kids : Vo) (tv v mv : Value) (i : Nat) (w : World) (ht : HdS w h tv mv) (hv : VoS w v kids) (hi : i <= 1000000000) :
  Calls Tryz.prog 77 #[.agg (vv h tv v mv), .int .i64 (i : Int)] w fun e w' => e = .returned (.string (bytes (mkB h.k i))) /\ Below w.heap.size w w' := by
 have b0 := LH ((Below.refl w.heap.size w).alloc (Nat.le_refl _) (.cells (vv h tv v mv) 27))
 obtain ⟨a, c, hvs⟩ := hv.slice
 obtain ⟨ta, tc, hts⟩ := ht.t.slice
 obtain ⟨ma, mc, hms⟩ := ht.m.slice
 subst hvs hts hms
 have MK := LH (show mkB h.k i = if h.k = 1 /\ i % 2 = 1 then [58] else [44] from rfl)
 obtain ⟨ans, hans⟩ : ∃ x, mkB h.k i = x := ⟨_, rfl⟩
 rw [hans] at MK ⊢
 unfold vv vvl at b0 ⊢
 obtain ⟨K, hK⟩ : ∃ x, h.k = x := ⟨_, rfl⟩
 rw [hK] at b0 MK ⊢
 have j3 : (i : Int).tmod 2 = ((i % 2 : Nat) : Int) := by rw [Int.tmod_eq_emod_of_nonneg (by omega)]; omega
 clear hans hK ht hv
 by_cases hk : K = 1
 ·subst hk
  rcases Nat.mod_two_eq_zero_or_one i with hm | hm
  ·have hq : ans = [44] := by rw [MK.out, if_neg (by omega)]
   rw [hm] at j3
   subst hq
   clear hm MK
   go_enter Tryz.func77, Tryz.ntmps77
   go_wp2
   go_ret
   exact ⟨rfl, b0.out⟩
  ·have hq : ans = [58] := by rw [MK.out, if_pos ⟨rfl, hm⟩]
   rw [hm] at j3
   subst hq
   clear hm MK
   go_enter Tryz.func77, Tryz.ntmps77
   go_wp2
   go_ret
   exact ⟨rfl, b0.out⟩
 ·have hq : ans = [44] := by rw [MK.out, if_neg (by omega)]
  have t1 : (K == 1) = false := by simpa using hk
  subst hq
  clear MK hk j3
  go_enter Tryz.func77, Tryz.ntmps77
  go_wp2
  go_ret
  exact ⟨rfl, b0.out⟩
theorem units_nat (l : List Int) (h : M.rightU l = true) : iN (l.map Int.toNat) = l /\ ∀ u ∈ l.map Int.toNat, u <= 65535 := by
 rw [M.rightU_iff] at h
 constructor
 ·unfold iN
  rw [List.map_map]
  conv => rhs; rw [<- List.map_id l]
  apply List.map_congr_left
  intro z hz
  have := h z hz
  simp only [Function.comp, id]
  omega
 ·intro u hu
  obtain ⟨z, hz, rfl⟩ := List.mem_map.1 hu
  have := h z hz
  omega
theorem jmsingle_any (h : Vh) (kids : Vo) (tv v mv : Value) (w : World) (ht : HdS w h tv mv) (hv : VoS w v kids) (hT : Tabs w) (hU : h.k = 3 -> M.rightU h.tx = true) (hL : h.tx.length <= 1048576) (hD : h.dg.length <= 700) (hE : h.ex.length <= 700) :
  Calls Tryz.prog 57 #[.agg (vv h tv v mv)] w fun e w' => e = .returned (.string (bytes (sglB h))) /\ Below w.heap.size w w' := by
 have b0 := LH ((Below.refl w.heap.size w).alloc (Nat.le_refl _) (.cells (vv h tv v mv) 27))
 have x0 := LH (VB.new w h tv v mv)
 have SG := LH (show sglB h = if h.k = 3 then M.spell (h.tx.map Int.toNat) else if h.k = 4 then M.shortN (M.plainN h.ng h.dg h.ex) else if h.k = 5 then [116, 114, 117, 101] else if h.k = 6 then [102, 97, 108, 115, 101] else [110, 117, 108, 108] from rfl)
 have hv2 := hv
 have ht2 := ht
 obtain ⟨a, c, hvs⟩ := hv.slice
 obtain ⟨ta, tc, hts⟩ := ht.t.slice
 obtain ⟨ma, mc, hms⟩ := ht.m.slice
 subst hvs hts hms
 obtain ⟨W1, hW1⟩ : ∃ W, w.alloc (.cells (vv h (.slice ta h.tx.length tc) (.slice a kids.len c) (.slice ma h.ms.length mc)) 27) = W := ⟨_, rfl⟩
 rw [hW1] at b0 x0
 have HW1 := LH hW1
 have TW := LH (hT.keep b0.out)
 have HI := LH ((ht.below b0.out).t.is (fun _ h => h))
 obtain ⟨ans, hans⟩ : ∃ x, sglB h = x := ⟨_, rfl⟩
 rw [hans] at SG ⊢
 obtain ⟨g0, g1, g2, g3, g4, -, -, -, -⟩ := x0.out.cells
 have SH := LH (fun W hW => short_any h.ng h.dg h.ex _ W hW hD hE rfl)
 have HU := LH hU
 obtain ⟨K, hK⟩ : ∃ x, h.k = x := ⟨_, rfl⟩
 rw [hK] at g0 SG HU
 have EXP : Hid (vv h (.slice ta h.tx.length tc) (.slice a kids.len c) (.slice ma h.ms.length mc) = #[.int .i64 K, .slice ta h.tx.length tc, .bool h.ng, .string (bytes h.dg), .string (bytes h.ex), .slice a kids.len c, .int .i64 h.fr, .int .i64 h.tt, .slice ma h.ms.length mc]) := LH (by rw [<- hK]; rfl)
 rw [EXP.out] at HW1 ⊢
 clear hW1 hK hans hv hv2 ht ht2 hT hU x0
 by_cases k3 : K = 3
 ·subst k3
  obtain ⟨q1, q2⟩ := units_nat h.tx (HU.out rfl)
  have hq : ans = M.spell (h.tx.map Int.toNat) := by rw [SG.out, if_pos rfl]
  have JS := LH (jspell_any _ (h.tx.map Int.toNat) _ W1 (by rw [q1]; exact HI.out) (by rw [List.length_map]; exact hL) q2 rfl)
  rw [<- hq] at JS
  clear SG q1 q2 hq SH g2 g3 g4
  go_enter Tryz.func57, Tryz.ntmps57
  go_upto_region 1 with fail
  rw [HW1.out]
  go_wp2_with fail
  refine JS.out.mono ?_
  rintro e w2 ⟨rfl, hb2⟩
  have d2 := b0.out.trans (hb2.mono b0.out.size)
  clear hb2
  go_wp2
  go_ret
  exact ⟨rfl, d2⟩
 have t3 : (K == 3) = false := by simpa using k3
 by_cases k4 : K = 4
 ·subst k4
  have hq : ans = M.shortN (M.plainN h.ng h.dg h.ex) := by rw [SG.out, if_neg (by decide), if_pos rfl]
  have S1 := LH (SH.out W1 TW.out)
  rw [<- hq] at S1
  unfold numV at S1
  simp only at S1
  obtain ⟨D, hD'⟩ : ∃ x, bytes h.dg = x := ⟨_, rfl⟩
  obtain ⟨E, hE'⟩ : ∃ x, bytes h.ex = x := ⟨_, rfl⟩
  rw [hD'] at S1 g3 HW1 ⊢
  rw [hE'] at S1 g4 HW1 ⊢
  clear SG hq SH k3 hD' hE' EXP
  go_enter Tryz.func57, Tryz.ntmps57
  go_upto_region 1 with fail
  rw [HW1.out]
  go_wp2_with fail
  refine S1.out.mono ?_
  rintro e w2 ⟨rfl, hb2⟩
  have d2 := b0.out.trans (hb2.mono b0.out.size)
  clear hb2
  go_wp2
  go_ret
  exact ⟨rfl, d2⟩
 have t4 : (K == 4) = false := by simpa using k4
 have hq := SG.out
 rw [if_neg k3, if_neg k4] at hq
 clear SG SH HU k3 k4 HI g1 g2 g3 g4 EXP
 by_cases k5 : K = 5
 ·subst k5
  rw [if_pos rfl] at hq
  subst hq
  go_enter Tryz.func57, Tryz.ntmps57
  go_upto_region 1 with fail
  rw [HW1.out]
  go_wp2
  go_ret
  exact ⟨rfl, b0.out⟩
 rw [if_neg k5] at hq
 have t5 : (K == 5) = false := by simpa using k5
 by_cases k6 : K = 6
 ·subst k6
  rw [if_pos rfl] at hq
  subst hq
  clear k5
  go_enter Tryz.func57, Tryz.ntmps57
  go_upto_region 1 with fail
  rw [HW1.out]
  go_wp2
  go_ret
  exact ⟨rfl, b0.out⟩
 rw [if_neg k6] at hq
 have t6 : (K == 6) = false := by simpa using k6
 subst hq
 clear k5 k6
 go_enter Tryz.func57, Tryz.ntmps57
 go_upto_region 1 with fail
 rw [HW1.out]
 go_wp2
 go_ret
 exact ⟨rfl, b0.out⟩
theorem rtk {P : Program} {md : Region.Mode} {ops : Array Oper} {Q : Exit -> Act -> World -> Prop} {S : World -> Prop} (i : Nat) {oi : Oper} {v : Value} {fuel : Nat} {listed l2 : Array Bool} {a a2 : Act} {w : World}
  (h : wpAnyH P md ops Q S fuel l2 a2 w)
  (hi : ops[i]? = some oi := by exact (List.getElem?_toArray.trans (by simp only [List.getElem?_cons_succ, List.getElem?_cons_zero]; exact rfl)))
  (hy : YieldsIf P ops S oi v a := by exact Or.inl ⟨by rfl, by intro V hSV; (try dsimp only at hSV); (try obtain ⟨s0, s1, s2, s3, s4, s5, s6, s7, s8, s9, s10, s11, s12⟩ := hSV); go_simp; (try rw [if_neg (by omega)]); (try with_reducible rfl)⟩)
  (hs : Region.noSelect ops = true := by kernel_rfl) (hf : Region.free md ops listed i = true := by kernel_rfl) (hr : (Region.ready md ops listed).contains i = true := by kernel_rfl)
  (hQ : ∀ c a w, Q (.panic c) (a.put oi.dst v) w -> Q (.panic c) a w := by exact fun _ _ _ h => h) (hS : S w := by assumption)
  (hl : listed.setIfInBounds i true = l2 := by first | (simp only [List.getElem_toArray, List.getElem_cons_succ, List.getElem_cons_zero, Act.put, List.setIfInBounds_toArray, List.set_cons_zero, List.set_cons_succ]; done) | (simp only [List.getElem_toArray, List.getElem_cons_succ, List.getElem_cons_zero, Act.put, List.setIfInBounds_toArray, List.set_cons_zero, List.set_cons_succ]; exact rfl) | exact rfl)
  (ha : a.put oi.dst v = a2 := by first | (simp only [List.getElem_toArray, List.getElem_cons_succ, List.getElem_cons_zero, Act.put, List.setIfInBounds_toArray, List.set_cons_zero, List.set_cons_succ]; done) | (simp only [List.getElem_toArray, List.getElem_cons_succ, List.getElem_cons_zero, Act.put, List.setIfInBounds_toArray, List.set_cons_zero, List.set_cons_succ]; exact rfl) | exact rfl) :
  wpAnyH P md ops Q S (fuel + 1) listed a w :=
 wpAnyH_take hi hs hf hr hQ hy hS (by rw [hl, ha]; exact h)
def setL (xs : List Value) : Nat -> List Value -> List Value
 | _, [] => xs
 | o, v :: r => setL (xs.set o v) (o + 1) r
theorem setCells_other (g : Nat) (vs : List Value) : ∀ (o : Nat) (w : World) (k : Nat), k ≠ g -> (w.setCells g o vs).heap[k]? = w.heap[k]? := by
 induction vs with
 | nil => intro o w k _; rfl
 | cons v r ih => intro o w k h; rw [World.setCells, ih _ _ _ h, heap_setCell_other _ _ _ _ h]
theorem below_setCells {B : Nat} {a w : World} (h : Below B a w) {g : Nat} (hg : B <= g) (vs : List Value) : ∀ (o : Nat), Below B a (w.setCells g o vs) := by
 induction vs generalizing w with
 | nil => intro o; exact h
 | cons v r ih => intro o; exact ih (h.setCell hg v) (o + 1)
theorem own_in {E sz B : Nat} {w : World} {v : Value} {l : List (List Value)} (h : OwnV E sz B w v l) : ∀ j, v.ownBlock = some j -> B <= j /\ j < w.heap.size := fun j hj => World.ownsRow.lt h.1 j hj
def BK (T : TypeId) (w : World) (b : Nat) (cs : Array Value) : Prop := w.heap[b]? = some (.cells cs T (0, 0))
theorem BK.new (T : TypeId) (w : World) (cs : Array Value) : BK T (w.alloc (.cells cs T)) w.heap.size cs := heap_alloc_new w _
theorem BK.lt {T : TypeId} {w : World} {b : Nat} {cs : Array Value} (h : BK T w b cs) : b < w.heap.size := (Array.getElem?_eq_some_iff.1 h).1
theorem BK.cell {T : TypeId} {w : World} {b : Nat} {cs : Array Value} (h : BK T w b cs) (j : Nat) : w.cell? ⟨b, j, none⟩ = cs[j]? := cell_of_row w b j cs _ _ h
theorem BK.keep {T : TypeId} {w w' : World} {b : Nat} {cs : Array Value} (h : BK T w b cs) (hb : Below w.heap.size w w') : BK T w' b cs := by
 unfold BK; rw [hb.block b h.lt]; exact h
theorem BK.keepB {T : TypeId} {B : Nat} {w w' : World} {b : Nat} {cs : Array Value} (h : BK T w b cs) (hb : Below B w w') (hB : b < B) : BK T w' b cs := by
 unfold BK; rw [hb.block b hB]; exact h
theorem BK.frame {T : TypeId} {w w' : World} {b : Nat} {cs : Array Value} (h : BK T w b cs) (hb : w'.heap[b]? = w.heap[b]?) : BK T w' b cs := by
 unfold BK; rw [hb]; exact h
theorem BK.set {T : TypeId} {w : World} {b : Nat} {cs : Array Value} (h : BK T w b cs) (ds : Array Value) : BK T (w.setRow b ds) b ds := setRow_heap w b cs ds _ _ h
theorem BK.setCell {T : TypeId} {w : World} {b : Nat} {cs : Array Value} (h : BK T w b cs) (j : Nat) (u : Value) : BK T (w.setCell ⟨b, j, none⟩ u) b (cs.setIfInBounds j u) := heap_setCell_same w b j cs T u h
theorem BK.other {T : TypeId} {w : World} {b : Nat} {cs : Array Value} (h : BK T w b cs) {c : Nat} (hne : b ≠ c) (j : Nat) (u : Value) : BK T (w.setCell ⟨c, j, none⟩ u) b cs := by
 unfold BK; rw [heap_setCell_other _ _ _ _ hne]; exact h
theorem BK.range {T : TypeId} {w : World} {b : Nat} {cs : Array Value} (h : BK T w b cs) (o : Nat) (vs : List Value) (hv : ∀ j u, vs[j]? = some u -> cs[o + j]? = some u) : w.rangeAt b o vs := fun j u hu => (h.cell (o + j)).trans (hv j u hu)
theorem BK.there {T : TypeId} {w : World} {b : Nat} {cs : Array Value} (h : BK T w b cs) (o k : Nat) (hk : o + k <= cs.size) : w.there b o k := fun j hj =>
 ⟨by rw [h.cell, Array.getElem?_eq_getElem (by omega)]; rfl, frozen_of_row w b (o + j) cs T h⟩
def setA (cs : Array Value) : Nat -> List Value -> Array Value
 | _, [] => cs
 | o, v :: r => setA (cs.setIfInBounds o v) (o + 1) r
theorem BK.setCells {T : TypeId} {b : Nat} (vs : List Value) : ∀ (w : World) (cs : Array Value) (o : Nat), BK T w b cs -> BK T (w.setCells b o vs) b (setA cs o vs) := by
 induction vs with
 | nil => intro w cs o h; exact h
 | cons v r ih => intro w cs o h; exact ih _ _ _ (h.setCell o v)
theorem wp_appV {w : World} {o : Oper} {a : Act} {K : Act -> World -> Prop} {Q : Exit -> Act -> World -> Prop} {E T sz bytes : Nat} {z : Value} (s x : Operand)
  (ho : o.op = .call { callee := .builtin .append, args := #[s, x], argTypes := #[T, T] }) (hT : Tryz.prog.underlying T = some (.slice E)) (hinfo : (Tryz.prog.info? E).map (fun i => (i.zero, i.size, i.bytes)) = some (some z, sz, bytes)) (hz : z.cells.size = sz) (h0 : 0 < sz)
  (B : Nat) (v : Value) (l t : List (List Value)) (y : List Value) (bz c n : Nat) (hn : l.length = n) (hs : a.eval s = v) (hown : OwnV E sz B w v l) (hx : a.eval x = .slice (some ⟨bz, 0, none⟩) 1 c) (hu : w.rangeAt bz 0 y) (hy : y.length = sz) (hy1 : ∀ c ∈ y, c.oneCell' = true)
  (hlen : (n + 1) * bytes <= 140737488355328) (hb0 : 0 < bytes) (hB : B <= w.heap.size) (ht : l ++ [y] = t)
  (h : ∀ g cap w', OwnV E sz B w' (.slice (some ⟨g, 0, none⟩) (n + 1) cap) t -> Below B w w' -> (∀ j, j < w.heap.size -> some j ≠ v.ownBlock -> w'.heap[j]? = w.heap[j]?) -> (v.ownBlock = some g \/ g = w.heap.size) -> g < w'.heap.size -> K (a.put o.dst (.slice (some ⟨g, 0, none⟩) (n + 1) cap)) w') : o.wp Tryz.prog a w K Q := by
 subst ht
 subst hn
 obtain ⟨i0, hi, hz0, hz1, hz2⟩ := info_parts hinfo
 obtain ⟨hown, hsz, hone⟩ := hown
 have hlt := World.ownsRow.lt hown
 have hmax : l.length + 1 <= 140737488355328 := Nat.le_trans (Nat.le_mul_of_pos_right _ hb0) hlen
 refine wp_append_lies w s x T ho B E i0 z sz bytes hT hi hz0 hz1 hz2 hz h0 v l.length l.flatten hs hown ⟨bz, 0, none⟩ 1 c y hx (by rw [hy, Nat.one_mul]) (fun j u hu' => by rw [Addr.add_mid]; exact hu j u hu') hy1 (by decide) (by unfold maxLen; omega) hlen hB _ rfl ?_
 intro g cap w' hown' hg hgo hgl
 refine h g cap w' ⟨?_, ?_, ?_⟩ ((Below.refl B w).grown hg hB (fun j hj => (hlt j hj).1)) (fun j h1 h2 => hg.block j h1 h2) hgo hgl
 ·have e : (l ++ [y]).flatten = l.flatten ++ y := by simp
  rw [e, List.length_append]
  exact hown'
 ·intro q hq
  rcases List.mem_append.1 hq with hq | hq
  ·exact hsz q hq
  ·rw [List.mem_singleton.1 hq]; exact hy
 ·intro q hq
  rcases List.mem_append.1 hq with hq | hq
  ·exact hone q hq
  ·rw [List.mem_singleton.1 hq]; exact hy1
theorem wpl_stK {T : TypeId} {sz : Nat} (hinfo : (Tryz.prog.info? T).map (·.size) = some sz) {ops : Array Oper} {rest : List Oper} {o : Oper} {a : Act} {w : World} {Q : Exit -> Act -> World -> Prop} (hgd : o.guard = none) (x y : Operand) (ho : o.op = .store T x y)
  (g : Nat) (old cells : Array Value) (hx : a.eval x = .pointer (some ⟨g, 0, none⟩)) (hy : a.eval y = .agg cells) (hg : BK T w g old) (hs : old.size = sz) (hc : cells.size = sz) (h1 : cells.all (·.oneCell') = true)
  (h : wpList Tryz.prog ops Q rest (a.put o.dst undef) (w.setRow g cells)) : wpList Tryz.prog ops Q (o :: rest) a w :=
 wpList_store_row hgd T x y ho g cells hx hy T old hg (by rw [hc]; exact hinfo) (by rw [hs, hc]) h1 h
theorem res_bk {T : TypeId} {sz : Nat} {d : TypeDesc} (hu : Tryz.prog.underlying T = some d) (hd : d.isRow = true) (hinfo : (Tryz.prog.info? T).map (·.size) = some sz) {fn : Func} {p : Tmp} (h : fn.results = #[.cell p T]) (tmps : Array Value) (w : World) (g : Nat) (cs : List Value)
  (hp : tmps.getD p undef = .pointer (some ⟨g, 0, none⟩)) (hg : BK T w g cs.toArray) (hs : cs.length = sz) :
  (results fn tmps).run Tryz.prog w = .ok (.agg cs.toArray) w := by
 have e : (results fn tmps).run Tryz.prog w = ((asAddr (tmps.getD p undef)).run Tryz.prog w).andThen fun a w₁ => (loadVar T a).run Tryz.prog w₁ := by
  simp only [results, h]
  simp [Sem.run_bind, Result.andThen]
 rw [e, hp]
 have : (asAddr (.pointer (some ⟨g, 0, none⟩))).run Tryz.prog w = .ok ⟨g, 0, none⟩ w := rfl
 rw [this]
 simp only [Result.andThen]
 exact run_loadVar_mid w g 0 T cs d (hg.range 0 cs (by intro j u h; simpa using h)) hu hd (by rw [hs]; exact hinfo)
theorem below_setRowK {B : Nat} {a w : World} (h : Below B a w) {g : Nat} (hg : B <= g) (cs : Array Value) : Below B a (w.setRow g cs) :=
 ⟨h.os, h.tape, h.output, by rw [setRow_size]; exact h.size, fun k hk => by rw [setRow_other w g k cs (by omega)]; exact h.block k hk⟩
theorem stepl_appendV {w : World} {ops : Array Oper} {o : Oper} {a : Act} {K : Act -> World -> Prop} {Q : Exit -> Act -> World -> Prop} {E0 : Prop} {E T sz bytes : Nat} {z : Value} (hgd : o.guard = none) (s xo : Operand)
  (ho : o.op = .call { callee := .builtin .append, args := #[s, xo], argTypes := #[T, T] }) (hT : Tryz.prog.underlying T = some (.slice E)) (hinfo : (Tryz.prog.info? E).map (fun i => (i.zero, i.size, i.bytes)) = some (some z, sz, bytes)) (hz : z.cells.size = sz) (h0 : 0 < sz)
  (B : Nat) (v u : Value) (l t : List (List Value)) (y : List Value) (hs : a.eval s = v) (hown : OwnV E sz B w v l) (hx : a.eval xo = u) (hu : Vs sz w u [y]) (hy : y.length = sz) (hy1 : ∀ c ∈ y, c.oneCell' = true)
  (hlen : (l.length + 1) * bytes <= 140737488355328) (hb0 : 0 < bytes) (hB : B <= w.heap.size) (ht : l ++ [y] = t)
  (h : ∀ v' w', OwnV E sz B w' v' t -> Below B w w' -> w.grownBy w' v.ownBlock -> (v'.ownBlock = v.ownBlock \/ v'.ownBlock = some w.heap.size) -> K (a.put o.dst v') w') : if Region.wanted o (yielded ops a.tmps) = true then Oper.wp Tryz.prog o a w K Q else E0 := by
 subst ht
 obtain ⟨i0, hi, hz0, hz1, hz2⟩ := info_parts hinfo
 obtain ⟨ad, cap, rfl, h1, h2, h3⟩ := hu
 obtain ⟨hown, hsz, hone⟩ := hown
 have hlt := World.ownsRow.lt hown
 obtain ⟨b, off, rfl, _, hc⟩ := h3 (by simp)
 have hmax : l.length + 1 <= 140737488355328 := Nat.le_trans (Nat.le_mul_of_pos_right _ hb0) hlen
 have hcs : ∀ j c, y[j]? = some c -> w.cell? ((⟨b, off, none⟩ : Addr).add j) = some c := by
  intro j c hj
  rw [Go.WideShapes.add_plain]
  have := hc 0 (by simp) j c (by simpa using hj)
  simpa using this
 refine step_append_lies w hgd s xo T ho B E i0 z sz bytes hT hi hz0 hz1 hz2 hz h0 v l.length l.flatten hs hown ⟨b, off, none⟩ 1 cap y (by simpa using hx) (by rw [hy, Nat.one_mul]) hcs hy1 (by decide) (by unfold maxLen; omega) hlen hB _ rfl ?_
 intro g cap' w' hown' hg hgo _
 refine h _ w' ⟨?_, ?_, ?_⟩ ((Below.refl B w).grown hg hB (fun j hj => (hlt j hj).1)) hg (by rcases hgo with h | h; exact .inl h.symm; right; rw [h]; rfl)
 ·have e : (l ++ [y]).flatten = l.flatten ++ y := by simp
  rw [e, List.length_append]
  exact hown'
 ·intro q hq
  rcases List.mem_append.1 hq with hq | hq
  ·exact hsz q hq
  ·rw [List.mem_singleton.1 hq]; exact hy
 ·intro q hq
  rcases List.mem_append.1 hq with hq | hq
  ·exact hone q hq
  ·rw [List.mem_singleton.1 hq]; exact hy1
end Go.Proofs.YtbfnlgmhfhaglaaGreatDoor
