import Derived.Test.YtbfnlgmhfhaglaaGreatDoorQb09
import Derived.Test.YtbfnlgmhfhaglaaGreatDoorQb02
import Derived.Laws.StructEq
import Derived.ChangeKeysEq
import Derived.Test.YtbfnlgmhfhaglaaGreatDoorQb22
import Derived.Deep.QuietTactic
import Derived.BigQuiet
import Derived.Outline
import Derived.StillTail
import Derived.StillTailTactics
import Derived.Test.YtbfnlgmhfhaglaaGreatDoorQb21
set_option maxHeartbeats 8000000
set_option maxRecDepth 100000
namespace Go.Proofs.YtbfnlgmhfhaglaaGreatDoor
open Go.RowKit
set_option linter.unusedVariables false
set_option linter.unusedSimpArgs false
theorem neqnum_any (ng ng' : Bool) (D E D' E' : List UInt8) (w : World) : (binOp .neq 24 (.agg #[.bool ng, .string (bytes D), .string (bytes E)]) (.agg #[.bool ng', .string (bytes D'), .string (bytes E')])).run Tryz.prog w = .ok (.bool (!(decide (ng = ng' /\ D = D' /\ E = E')))) w := by
 rw [run_neq_struct, run_equalIn_agg w _ _ _ _ (by simp [Program.fieldsOf, Tryz.underlying24]) Tryz.stoodInHeld24]
 have e0 : ∀ l : List UInt8, (bytes l).toList = l := fun l => by rw [ByteArray.toList_eq, bytes_list]
 have e2 : ∀ l k : List UInt8, (bytes l = bytes k) ↔ l = k := fun l k => ⟨fun h => by rw [<- e0 l, <- e0 k, h], fun h => by rw [h]⟩
 by_cases h1 : ng = ng' <;> by_cases h2 : D = D' <;> by_cases h3 : E = E' <;> simp [Program.fieldsOf, Tryz.underlying24, Op.eqFields, part, go_sem, e0, e2, h1, h2, h3]
def sameHd (h h' : Vh) (n n' : Nat) : Bool := decide (h.k = h'.k) && decide (h.tx = h'.tx) && decide (h.ng = h'.ng /\ h.dg = h'.dg /\ h.ex = h'.ex) && decide (n = n')
def sameVo : Vo -> Vo -> Bool
 | .cons h kids rest, .cons h' kids' rest' => sameHd h h' kids.len kids'.len && sameVo kids kids' && sameVo rest rest'
 | .nil, .nil => true
 | .nil, .cons _ _ _ => false
 | .cons _ _ _, .nil => false
def sameH (h : Vh) (kids : Vo) (h' : Vh) (kids' : Vo) : Bool := sameHd h h' kids.len kids'.len && sameVo kids kids'
theorem sameVo_true (L : Vo) : ∀ L' : Vo, L.len = L'.len -> (∀ j h kids h' kids', L.at? j = some (h, kids) -> L'.at? j = some (h', kids') -> sameH h kids h' kids' = true) -> sameVo L L' = true := by
 induction L with
 | nil =>
  intro L' hn _
  cases L' with
  | nil => rfl
  | cons _ _ _ => simp [Vo.len] at hn
 | cons h kids rest _ ih =>
  intro L' hn H
  cases L' with
  | nil => simp [Vo.len] at hn
  | cons h' kids' rest' =>
   have h1 := H 0 h kids h' kids' rfl rfl
   have h2 := ih rest' (by simpa [Vo.len] using hn) (fun j a b c d e f => H (j + 1) a b c d e f)
   unfold sameH at h1
   simp only [sameVo, h2, Bool.and_true]
   exact h1
theorem sameVo_false (L : Vo) : ∀ (L' : Vo) j h kids h' kids', L.at? j = some (h, kids) -> L'.at? j = some (h', kids') -> sameH h kids h' kids' = false -> sameVo L L' = false := by
 induction L with
 | nil => intro L' j h kids h' kids' e; simp [Vo.at?] at e
 | cons h0 kids0 rest _ ih =>
  intro L' j h kids h' kids' e e' hs
  cases L' with
  | nil => simp [Vo.at?] at e'
  | cons h0' kids0' rest' =>
   cases j with
   | zero =>
    simp only [Vo.at?, Option.some.injEq, Prod.mk.injEq] at e e'
    obtain ⟨rfl, rfl⟩ := e
    obtain ⟨rfl, rfl⟩ := e'
    unfold sameH at hs
    simp only [sameVo, hs, Bool.false_and]
   | succ j =>
    simp only [sameVo, ih rest' j h kids h' kids' e e' hs, Bool.and_false]
def Vo.app : Vo -> Vo -> Vo
 | .nil, K => K
 | .cons h k r, K => .cons h k (r.app K)
theorem app_nil (L : Vo) : L.app .nil = L := by
 induction L with
 | nil => rfl
 | cons h k r _ ih => simp only [Vo.app, ih]
theorem sameVo_len (L : Vo) : ∀ M : Vo, L.len ≠ M.len -> sameVo L M = false := by
 induction L with
 | nil =>
  intro M h
  cases M with
  | nil => simp [Vo.len] at h
  | cons _ _ _ => rfl
 | cons h k r _ ih =>
  intro M hl
  cases M with
  | nil => rfl
  | cons h' k' r' => simp only [sameVo]; rw [ih r' (by simpa [Vo.len] using hl)]; simp
theorem two_laid (w : World) (cs : Array Value) (x y : Value) (p2 : Nat) (hp : w.heap.size + 1 = p2) :
  BK 27 ((w.alloc (.cells zv 27)).alloc (.cells #[.int .i64 0, .int .i64 0] 34)) w.heap.size zv /\
  BK 34 (((w.alloc (.cells zv 27)).alloc (.cells #[.int .i64 0, .int .i64 0] 34)).setRow w.heap.size cs) p2 #[.int .i64 0, .int .i64 0] /\
  BK 27 ((((w.alloc (.cells zv 27)).alloc (.cells #[.int .i64 0, .int .i64 0] 34)).setRow w.heap.size cs).setRow p2 #[x, y]) w.heap.size cs /\
  BK 34 ((((w.alloc (.cells zv 27)).alloc (.cells #[.int .i64 0, .int .i64 0] 34)).setRow w.heap.size cs).setRow p2 #[x, y]) p2 #[x, y] /\
  Below w.heap.size w ((((w.alloc (.cells zv 27)).alloc (.cells #[.int .i64 0, .int .i64 0] 34)).setRow w.heap.size cs).setRow p2 #[x, y]) := by
 subst hp
 have k1 := BK.new 27 w zv
 have b1 := (Below.refl w.heap.size w).alloc (Nat.le_refl _) (.cells zv 27)
 have hs : (w.alloc (.cells zv 27)).heap.size = w.heap.size + 1 := by simp
 obtain ⟨W1, hW1⟩ : ∃ x, w.alloc (.cells zv 27) = x := ⟨_, rfl⟩
 rw [hW1] at k1 b1 hs ⊢
 have k2 := BK.new 34 W1 #[.int .i64 0, .int .i64 0]
 have b2 := (Below.refl W1.heap.size W1).alloc (Nat.le_refl _) (.cells #[.int .i64 0, .int .i64 0] 34)
 rw [hs] at k2
 have k3 := k1.keep b2
 have B := b1.trans (b2.mono (by omega))
 have k4 := k2.frame (setRow_other _ w.heap.size (w.heap.size + 1) cs (by omega))
 have k5 := k3.set cs
 have k6 := k5.frame (setRow_other _ (w.heap.size + 1) w.heap.size #[x, y] (by omega))
 exact ⟨k3, k4, k6, k4.set _, below_setRowK (below_setRowK B (Nat.le_refl _) cs) (by omega) _⟩
theorem junits_no (v : Value) (l : List UInt8) (w : World) (hv : Bs w v l) (hl : l.length <= 1048576) (hr : junits l = none) :
  Calls Tryz.prog 69 #[v] w fun e w' => e = .returned (.tuple #[nilV, .bool false]) /\ Below w.heap.size w w' := by
 have hv2 := hv
 obtain ⟨a, cap, rfl, h1, h2, h3⟩ := hv2
 obtain ⟨n, hn⟩ : ∃ n, l.length = n := ⟨_, rfl⟩
 rw [hn] at hv h1 hl ⊢
 unfold junits at hr
 rw [hn] at hr
 by_cases hn2 : n < 2
 ·rw [if_neg (by omega)] at hr
  have n2 : (n : Int) < 2 := by omega
  clear hr h3 hv hn hn2
  go_enter Tryz.func69, Tryz.ntmps69
  go_wp2
  go_ret2
  exact ⟨rfl, Below.refl _ _⟩
 ·obtain ⟨b, off, rfl, hb, hcl⟩ := h3 (by omega)
  have hcg : ∀ j, j < l.length -> w.cell? ⟨b, off + j, none⟩ = some (.int .u8 ((l.getD j 0).toNat : Int)) := fun j hj => by rw [hcl j hj]; simp [hj]
  have hc0 := hcg 0 (by omega)
  rw [Nat.add_zero] at hc0
  have n2 : ¬ (n : Int) < 2 := by omega
  have n3 : 2 <= n := by omega
  obtain ⟨c, hc⟩ : ∃ c, l.getD 0 0 = c := ⟨_, rfl⟩
  rw [hc] at hc0 hr
  obtain ⟨C, hC⟩ : ∃ C : Int, (c.toNat : Int) = C := ⟨_, rfl⟩
  rw [hC] at hc0
  by_cases h34 : c = 34
  ·obtain ⟨T, hT⟩ : ∃ T, jtI l 1 = T := ⟨_, rfl⟩
   have J1 : Calls Tryz.prog 38 #[.slice (some ⟨b, off, none⟩) n cap, .int .i64 0] w fun e w' => e = .returned (.int .i64 T) /\ Below w.heap.size w w' := jtext_any _ l 0 T w hv (by omega) (by omega) hT
   have t1 := eq_n c C hC 34 34 rfl h34
   have t2 := eq_b c C hC 34 34 rfl h34
   rw [hT] at hr
   have HJ := LH J1
   by_cases hTn : T = n
   ·have t3 : (T != (n : Int)) = false := by simp [hTn]
    have t4 : (T == (n : Int)) = true := by simp [hTn]
    obtain ⟨⟨q, vok⟩, hval⟩ : ∃ x, M.validAll l = x := ⟨_, rfl⟩
    have V1 := fun W hb => refvalid_any (.slice (some ⟨b, off, none⟩) n cap) l q vok W hb (by omega) hval
    have Hvs := LH hv
    have HV := LH V1
    rw [hval] at hr
    cases vok with
    | false =>
     rw [if_neg (by simp)] at hr
     clear hr h3 hv hn hn2 hcl hcg hc hC h34 hT J1 V1 hval hTn
     go_enter Tryz.func69, Tryz.ntmps69
     go_wp2_with fail
     refine HJ.out.mono ?_
     rintro e w1 ⟨rfl, hb1⟩
     go_wp2_with fail
     refine (HV.out _ (Hvs.out.keep hb1)).mono ?_
     rintro e w' ⟨rfl, rfl⟩
     go_wp2
     go_ret2
     exact ⟨rfl, hb1⟩
    | true =>
     exfalso
     rw [if_pos ⟨n3, h34, hTn, rfl⟩] at hr
     exact absurd hr (by simp)
   ·have t3 : (T != (n : Int)) = true := by simpa using hTn
    have t4 : (T == (n : Int)) = false := by simpa using hTn
    rw [if_neg (by intro hh; exact hTn hh.2.2.1)] at hr
    clear hr h3 hv hn hn2 hcl hcg hc hC h34 hT J1
    go_enter Tryz.func69, Tryz.ntmps69
    go_wp2_with fail
    refine HJ.out.mono ?_
    rintro e w1 ⟨rfl, hb1⟩
    go_wp2
    go_ret2
    exact ⟨rfl, hb1⟩
  ·have t2 := ne_b c C hC 34 34 rfl h34
   have t1 := ne_n c C hC 34 34 rfl h34
   rw [if_neg (by intro hh; exact h34 hh.2.1)] at hr
   clear hr h3 hv hn hn2 hcl hcg hc hC h34
   go_enter Tryz.func69, Tryz.ntmps69
   go_wp2
   go_ret2
   exact ⟨rfl, Below.refl _ _⟩
theorem units_page (s : List UInt8) : unitsV s = junits s := by
 unfold unitsV junits
 by_cases h2 : 2 <= s.length
 ·by_cases h0 : s.getD 0 0 = 34
  ·match s, h2 with
   | c :: t, h2 =>
    simp only [List.getD_cons_zero] at h0
    subst h0
    have hv : (M.validAll (34 :: t)).2 = (M.validAll t).2 := by rw [M.valid_ascii (34 :: t) (by simp) (show (34 : UInt8).toNat < 128 by decide)]; rfl
    have hj : (jtI (34 :: t) 1 = ((34 :: t).length : Nat)) ↔ M.jtS t = some t.length := by
     unfold jtI
     simp only [List.drop_succ_cons, List.drop_zero, List.length_cons]
     cases M.jtS t with
     | none => simp; omega
     | some m => simp; omega
    by_cases hq : (34 :: t).getD ((34 :: t).length - 1) 0 = 34
    ·rw [if_pos ⟨h2, rfl, hq⟩]
     have ht : t = (((34 :: t).drop 1).take ((34 :: t).length - 2)) ++ [34] := by
      simp only [List.length_cons] at h2
      obtain ⟨n, hn⟩ : ∃ n, t.length = n + 1 := ⟨t.length - 1, by omega⟩
      simp only [List.drop_succ_cons, List.drop_zero, List.length_cons, hn]
      rw [show n + 1 + 1 - 2 = n by omega]
      have hq' : t.getD n 0 = 34 := by simpa [hn, List.getD] using hq
      conv => lhs; rw [<- List.take_append_drop n t]
      congr 1
      rw [List.drop_eq_getElem_cons (by omega), List.drop_eq_nil_of_le (by omega)]
      simp only [List.getD, List.getElem?_eq_getElem (show n < t.length by omega), Option.getD_some] at hq'
      rw [hq']
     obtain ⟨u, hu⟩ : ∃ u, (((34 :: t).drop 1).take ((34 :: t).length - 2)) = u := ⟨_, rfl⟩
     rw [hu] at ht ⊢
     rw [M.uF_iff _ u (by rw [<- hu]; simp; omega), <- ht]
     have hg : (34 :: t).getD 0 0 = 34 := rfl
     by_cases hg1 : M.jtS t = some t.length /\ (M.validAll t).2 = true
     ·rw [if_pos hg1, if_pos ⟨h2, rfl, hj.2 hg1.1, by rw [hv]; exact hg1.2⟩]; rfl
     ·rw [if_neg hg1, if_neg (fun h => hg1 ⟨hj.1 h.2.2.1, by rw [<- hv]; exact h.2.2.2⟩)]
    ·rw [if_neg (fun h => hq h.2.2), if_neg]
     intro h
     apply hq
     have := M.jtS_last t _ (hj.1 h.2.2.1)
     simp only [List.length_cons] at h2
     obtain ⟨n, hn⟩ : ∃ n, t.length = n + 1 := ⟨t.length - 1, by omega⟩
     simp only [List.length_cons, hn, Nat.add_sub_cancel] at this ⊢
     exact this
  ·rw [if_neg (fun h => h0 h.2.1), if_neg (fun h => h0 h.2.1)]
 ·rw [if_neg (fun h => h2 h.1), if_neg (fun h => h2 h.1)]
end Go.Proofs.YtbfnlgmhfhaglaaGreatDoor
