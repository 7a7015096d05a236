/- Texts of ours in one: BSam0 ZAl7 ZUnW JgM ZLe. -/
import Derived.Test.YtlobinjdgcidmaaDoorQj04
import Derived.Test.YtlobinjdgcidmaaDoorQj02
import Derived.Laws.StructEq
import Derived.ChangeKeysEq
import Derived.Test.YtlobinjdgcidmaaDoorQj16
import Derived.Deep.QuietTactic
import Derived.BigQuiet
import Derived.Outline
import Derived.StillTail
import Derived.StillTailTactics
import Derived.Test.YtlobinjdgcidmaaDoorQj15
import Derived.Test.YtlobinjdgcidmaaDoorQj00
import Derived.Test.YtlobinjdgcidmaaDoorQj11
import Derived.Test.YtlobinjdgcidmaaDoorQj05
/- Values of any shape: when two are one, plain; == of numbers. -/
namespace Go.Proofs.YtlobinjdgcidmaaDoor
open Go.RowKit
set_option linter.unusedVariables false
set_option linter.unusedSimpArgs false

def sameHd (h h' : Vh) (n n' : Nat) : Bool := decide (h.k = h'.k) && decide (h.tx = h'.tx) && decide (h.ng = h'.ng ∧ h.dg = h'.dg ∧ h.ex = h'.ex) && decide (n = n')
def sameVo : Vo → Vo → Bool
  | .cons h kids rest, .cons h' kids' rest' => sameHd h h' kids.len kids'.len && sameVo kids kids' && sameVo rest rest'
  | .nil, .nil => true
  | .nil, .cons _ _ _ => false
  | .cons _ _ _, .nil => false
def sameH (h : Vh) (kids : Vo) (h' : Vh) (kids' : Vo) : Bool := sameHd h h' kids.len kids'.len && sameVo kids kids'
def Vo.app : Vo → Vo → Vo
  | .nil, K => K
  | .cons h k r, K => .cons h k (r.app K)
theorem app_nil (L : Vo) : L.app .nil = L := by
  induction L with
  | nil => rfl
  | cons h k r _ ih => simp only [Vo.app, ih]
theorem sameVo_len (L : Vo) : ∀ M : Vo, L.len ≠ M.len → sameVo L M = false := by
  induction L with
  | nil =>
    intro M h
    cases M with
    | nil => simp [Vo.len] at h
    | cons _ _ _ => rfl
  | cons h k r _ ih =>
    intro M hl
    cases M with
    | nil => rfl
    | cons h' k' r' => simp only [sameVo]; rw [ih r' (by simpa [Vo.len] using hl)]; simp
end Go.Proofs.YtlobinjdgcidmaaDoor
/- Chapter 7's alive. -/
namespace Go.Proofs.YtlobinjdgcidmaaDoor
open Go.RowKit
set_option linter.unusedVariables false
set_option linter.unusedSimpArgs false

theorem two_laid (w : World) (cs : Array Value) (x y : Value) (p2 : Nat) (hp : w.heap.size + 1 = p2) :
    BK 36 ((w.alloc (.cells zv 36)).alloc (.cells #[.int .i64 0, .int .i64 0] 39)) w.heap.size zv ∧
    BK 39 (((w.alloc (.cells zv 36)).alloc (.cells #[.int .i64 0, .int .i64 0] 39)).setRow w.heap.size cs) p2 #[.int .i64 0, .int .i64 0] ∧
    BK 36 ((((w.alloc (.cells zv 36)).alloc (.cells #[.int .i64 0, .int .i64 0] 39)).setRow w.heap.size cs).setRow p2 #[x, y]) w.heap.size cs ∧
    BK 39 ((((w.alloc (.cells zv 36)).alloc (.cells #[.int .i64 0, .int .i64 0] 39)).setRow w.heap.size cs).setRow p2 #[x, y]) p2 #[x, y] ∧
    Below w.heap.size w ((((w.alloc (.cells zv 36)).alloc (.cells #[.int .i64 0, .int .i64 0] 39)).setRow w.heap.size cs).setRow p2 #[x, y]) := by
  subst hp
  have k1 := BK.new 36 w zv
  have b1 := (Below.refl w.heap.size w).alloc (Nat.le_refl _) (.cells zv 36)
  have hs : (w.alloc (.cells zv 36)).heap.size = w.heap.size + 1 := by simp
  obtain ⟨W1, hW1⟩ : ∃ x, w.alloc (.cells zv 36) = x := ⟨_, rfl⟩
  rw [hW1] at k1 b1 hs ⊢
  have k2 := BK.new 39 W1 #[.int .i64 0, .int .i64 0]
  have b2 := (Below.refl W1.heap.size W1).alloc (Nat.le_refl _) (.cells #[.int .i64 0, .int .i64 0] 39)
  rw [hs] at k2
  have k3 := k1.keep b2
  have B := b1.trans (b2.mono (by omega))
  have k4 := k2.frame (setRow_other _ w.heap.size (w.heap.size + 1) cs (by omega))
  have k5 := k3.set cs
  have k6 := k5.frame (setRow_other _ (w.heap.size + 1) w.heap.size #[x, y] (by omega))
  exact ⟨k3, k4, k6, k4.set _, below_setRowK (below_setRowK B (Nat.le_refl _) cs) (by omega) _⟩
end Go.Proofs.YtlobinjdgcidmaaDoor
/- JparseUnits: the program's Units and the page's JUnits. -/
namespace Go.Proofs.YtlobinjdgcidmaaDoor
open Go.RowKit
set_option linter.unusedVariables false
set_option linter.unusedSimpArgs false

set_option maxRecDepth 100000 in
set_option maxHeartbeats 8000000 in
theorem junits_no (v : Value) (l : List UInt8) (w : World) (hv : Bs w v l) (hl : l.length ≤ 1048576) (hr : junits l = none) :
    Calls Tryd.prog 22 #[v] w fun e w' => e = .returned (.tuple #[nilV, .bool false]) ∧ Below w.heap.size w w' := by
  have hv2 := hv
  obtain ⟨a, cap, rfl, h1, h2, h3⟩ := hv2
  obtain ⟨n, hn⟩ : ∃ n, l.length = n := ⟨_, rfl⟩
  rw [hn] at hv h1 hl ⊢
  unfold junits at hr
  rw [hn] at hr
  by_cases hn2 : n < 2
  · rw [if_neg (by omega)] at hr
    have n2 : (n : Int) < 2 := by omega
    clear hr h3 hv hn hn2
    go_enter Tryd.func22, Tryd.ntmps22
    go_wp2
    go_ret2
    exact ⟨rfl, Below.refl _ _⟩
  · obtain ⟨b, off, rfl, hb, hcl⟩ := h3 (by omega)
    have hcg : ∀ j, j < l.length → w.cell? ⟨b, off + j, none⟩ = some (.int .u8 ((l.getD j 0).toNat : Int)) := fun j hj => by rw [hcl j hj]; simp [hj]
    have hc0 := hcg 0 (by omega)
    rw [Nat.add_zero] at hc0
    have n2 : ¬ (n : Int) < 2 := by omega
    have n3 : 2 ≤ n := by omega
    obtain ⟨c, hc⟩ : ∃ c, l.getD 0 0 = c := ⟨_, rfl⟩
    rw [hc] at hc0 hr
    obtain ⟨C, hC⟩ : ∃ C : Int, (c.toNat : Int) = C := ⟨_, rfl⟩
    rw [hC] at hc0
    by_cases h34 : c = 34
    · obtain ⟨T, hT⟩ : ∃ T, jtI l 1 = T := ⟨_, rfl⟩
      have J1 : Calls Tryd.prog 39 #[.slice (some ⟨b, off, none⟩) n cap, .int .i64 0] w fun e w' => e = .returned (.int .i64 T) ∧ Below w.heap.size w w' := jtext_any _ l 0 T w hv (by omega) (by omega) hT
      have t1 := eq_n c C hC 34 34 rfl h34
      have t2 := eq_b c C hC 34 34 rfl h34
      rw [hT] at hr
      have HJ := Lib.hid J1
      by_cases hTn : T = n
      · have t3 : (T != (n : Int)) = false := by simp [hTn]
        have t4 : (T == (n : Int)) = true := by simp [hTn]
        obtain ⟨⟨q, vok⟩, hval⟩ : ∃ x, M.validAll l = x := ⟨_, rfl⟩
        have V1 := fun W hb => refvalid_any (.slice (some ⟨b, off, none⟩) n cap) l q vok W hb (by omega) hval
        have Hvs := Lib.hid hv
        have HV := Lib.hid V1
        rw [hval] at hr
        cases vok with
        | false =>
          rw [if_neg (by simp)] at hr
          clear hr h3 hv hn hn2 hcl hcg hc hC h34 hT J1 V1 hval hTn
          go_enter Tryd.func22, Tryd.ntmps22
          go_wp2_with fail
          refine HJ.out.mono ?_
          rintro e w1 ⟨rfl, hb1⟩
          go_wp2_with fail
          refine (HV.out _ (Hvs.out.keep hb1)).mono ?_
          rintro e w' ⟨rfl, rfl⟩
          go_wp2
          go_ret2
          exact ⟨rfl, hb1⟩
        | true =>
          exfalso
          rw [if_pos ⟨n3, h34, hTn, rfl⟩] at hr
          exact absurd hr (by simp)
      · have t3 : (T != (n : Int)) = true := by simpa using hTn
        have t4 : (T == (n : Int)) = false := by simpa using hTn
        rw [if_neg (by intro hh; exact hTn hh.2.2.1)] at hr
        clear hr h3 hv hn hn2 hcl hcg hc hC h34 hT J1
        go_enter Tryd.func22, Tryd.ntmps22
        go_wp2_with fail
        refine HJ.out.mono ?_
        rintro e w1 ⟨rfl, hb1⟩
        go_wp2
        go_ret2
        exact ⟨rfl, hb1⟩
    · have t2 := ne_b c C hC 34 34 rfl h34
      have t1 := ne_n c C hC 34 34 rfl h34
      rw [if_neg (by intro hh; exact h34 hh.2.1)] at hr
      clear hr h3 hv hn hn2 hcl hcg hc hC h34
      go_enter Tryd.func22, Tryd.ntmps22
      go_wp2
      go_ret2
      exact ⟨rfl, Below.refl _ _⟩
theorem units_page (s : List UInt8) : unitsV s = junits s := by
  unfold unitsV junits
  by_cases h2 : 2 ≤ s.length
  · by_cases h0 : s.getD 0 0 = 34
    · match s, h2 with
      | c :: t, h2 =>
        simp only [List.getD_cons_zero] at h0
        subst h0
        have hv : (M.validAll (34 :: t)).2 = (M.validAll t).2 := by rw [M.valid_ascii (34 :: t) (by simp) (show (34 : UInt8).toNat < 128 by decide)]; rfl
        have hj : (jtI (34 :: t) 1 = ((34 :: t).length : Nat)) ↔ M.jtS t = some t.length := by
          unfold jtI
          simp only [List.drop_succ_cons, List.drop_zero, List.length_cons]
          cases M.jtS t with
          | none => simp; omega
          | some m => simp; omega
        by_cases hq : (34 :: t).getD ((34 :: t).length - 1) 0 = 34
        · rw [if_pos ⟨h2, rfl, hq⟩]
          have ht : t = (((34 :: t).drop 1).take ((34 :: t).length - 2)) ++ [34] := by
            simp only [List.length_cons] at h2
            obtain ⟨n, hn⟩ : ∃ n, t.length = n + 1 := ⟨t.length - 1, by omega⟩
            simp only [List.drop_succ_cons, List.drop_zero, List.length_cons, hn]
            rw [show n + 1 + 1 - 2 = n by omega]
            have hq' : t.getD n 0 = 34 := by simpa [hn, List.getD] using hq
            conv => lhs; rw [← List.take_append_drop n t]
            congr 1
            rw [List.drop_eq_getElem_cons (by omega), List.drop_eq_nil_of_le (by omega)]
            simp only [List.getD, List.getElem?_eq_getElem (show n < t.length by omega), Option.getD_some] at hq'
            rw [hq']
          obtain ⟨u, hu⟩ : ∃ u, (((34 :: t).drop 1).take ((34 :: t).length - 2)) = u := ⟨_, rfl⟩
          rw [hu] at ht ⊢
          rw [M.uF_iff _ u (by rw [← hu]; simp; omega), ← ht]
          have hg : (34 :: t).getD 0 0 = 34 := rfl
          by_cases hg1 : M.jtS t = some t.length ∧ (M.validAll t).2 = true
          · rw [if_pos hg1, if_pos ⟨h2, rfl, hj.2 hg1.1, by rw [hv]; exact hg1.2⟩]; rfl
          · rw [if_neg hg1, if_neg (fun h => hg1 ⟨hj.1 h.2.2.1, by rw [← hv]; exact h.2.2.2⟩)]
        · rw [if_neg (fun h => hq h.2.2), if_neg]
          intro h
          apply hq
          have := M.jtS_last t _ (hj.1 h.2.2.1)
          simp only [List.length_cons] at h2
          obtain ⟨n, hn⟩ : ∃ n, t.length = n + 1 := ⟨t.length - 1, by omega⟩
          simp only [List.length_cons, hn, Nat.add_sub_cancel] at this ⊢
          exact this
    · rw [if_neg (fun h => h0 h.2.1), if_neg (fun h => h0 h.2.1)]
  · rw [if_neg (fun h => h2 h.1), if_neg (fun h => h2 h.1)]
end Go.Proofs.YtlobinjdgcidmaaDoor
/- Several texts of ours in one: KMath3 QMath6 QMath8 QMath9 QMath10. -/
/- Plain numbers and lists: what is written of units is read as those units; no text that stands for the same units is shorter. -/
namespace Go.Proofs.YtlobinjdgcidmaaDoor.M
open Go.Lib
set_option linter.unusedVariables false
set_option linter.unusedSimpArgs false

theorem hexV_hexd (n : Nat) (h : n < 16) : hexV (hexd n) = n := by
  have : n = 0 ∨ n = 1 ∨ n = 2 ∨ n = 3 ∨ n = 4 ∨ n = 5 ∨ n = 6 ∨ n = 7 ∨ n = 8 ∨ n = 9 ∨ n = 10 ∨ n = 11 ∨ n = 12 ∨ n = 13 ∨ n = 14 ∨ n = 15 := by omega
  rcases this with rfl | rfl | rfl | rfl | rfl | rfl | rfl | rfl | rfl | rfl | rfl | rfl | rfl | rfl | rfl | rfl <;> decide +kernel
theorem hexd_low (n : Nat) (h : n < 16) : (hexd n).toNat < 128 := by
  have : n = 0 ∨ n = 1 ∨ n = 2 ∨ n = 3 ∨ n = 4 ∨ n = 5 ∨ n = 6 ∨ n = 7 ∨ n = 8 ∨ n = 9 ∨ n = 10 ∨ n = 11 ∨ n = 12 ∨ n = 13 ∨ n = 14 ∨ n = 15 := by omega
  rcases this with rfl | rfl | rfl | rfl | rfl | rfl | rfl | rfl | rfl | rfl | rfl | rfl | rfl | rfl | rfl | rfl <;> decide +kernel
theorem escL_low {d : UInt8} (h : d ∈ escL) : d.toNat < 128 ∧ d ≠ 117 := by
  unfold escL at h
  simp only [List.mem_cons, List.mem_nil_iff, or_false] at h
  rcases h with rfl | rfl | rfl | rfl | rfl | rfl | rfl | rfl <;> decide
theorem esc_facts (d : UInt8) (hd : d ∈ escL) (s : List UInt8) :
    jtS ([92, d] ++ s) = (jtS s).map (· + 2) ∧ ulS ([92, d] ++ s) = escV d :: ulS s ∧ (validAll ([92, d] ++ s)).2 = (validAll s).2 := by
  have hl := escL_low hd
  refine ⟨?_, ?_, ?_⟩
  · show jtS (92 :: d :: s) = _
    rw [jtS_cons, if_neg (by decide), if_neg (by decide), if_neg (by simp), List.getD_cons_zero, if_neg hl.2, if_pos hd]
    rfl
  · show ulS (92 :: d :: s) = _
    rw [ulS_esc _ (by simp) (by simpa using hl.2)]
    rfl
  · rw [valid_asciis 2 _ (by simp) (fun j hj => by
      have : j = 0 ∨ j = 1 := by omega
      rcases this with rfl | rfl
      · simp
      · simpa using hl.1)]
    rfl
theorem num_facts (r : Nat) (hr : r ≤ 65535) (s : List UInt8) :
    jtS (num6 r ++ s) = (jtS s).map (· + 6) ∧ ulS (num6 r ++ s) = r :: ulS s ∧ (validAll (num6 r ++ s)).2 = (validAll s).2 := by
  have e : num6 r ++ s = 92 :: 117 :: hexd (r / 4096) :: hexd (r / 256 % 16) :: hexd (r / 16 % 16) :: hexd (r % 16) :: s := rfl
  have q0 := hexV_hexd (r / 4096) (by omega)
  have q1 := hexV_hexd (r / 256 % 16) (by omega)
  have q2 := hexV_hexd (r / 16 % 16) (by omega)
  have q3 := hexV_hexd (r % 16) (by omega)
  rw [e]
  refine ⟨?_, ?_, ?_⟩
  · rw [jtS_cons, if_neg (by decide), if_neg (by decide), if_neg (by simp), List.getD_cons_zero, if_pos rfl, if_pos]
    · rfl
    · unfold hex4ok hexOk
      simp only [List.drop_succ_cons, List.drop_zero, List.getD_cons_zero, List.getD_cons_succ, q0, q1, q2, q3]
      simp
      omega
  · rw [ulS_hex _ (by simp)]
    simp only [List.drop_succ_cons, List.drop_zero]
    unfold hex4 hexN
    simp only [List.getD_cons_zero, List.getD_cons_succ, q0, q1, q2, q3]
    simp only [Int.toNat_natCast]
    congr 1
    omega
  · rw [valid_asciis 6 _ (by simp) (fun j hj => by
      have : j = 0 ∨ j = 1 ∨ j = 2 ∨ j = 3 ∨ j = 4 ∨ j = 5 := by omega
      rcases this with rfl | rfl | rfl | rfl | rfl | rfl
      · simp
      · simp
      · exact hexd_low _ (by omega)
      · exact hexd_low _ (by omega)
      · exact hexd_low _ (by omega)
      · exact hexd_low _ (by omega))]
    rfl
theorem enc_high (r : Nat) (h : isCP r = true) (h1 : 128 ≤ r) : ∀ c ∈ enc r, 128 ≤ c.toNat := by
  rw [isCP_iff] at h
  intro c hc
  by_cases h2 : r < 2048
  · rw [enc_two r h1 h2] at hc
    simp only [List.mem_cons, List.mem_nil_iff, or_false] at hc
    rcases hc with rfl | rfl <;> (rw [toU8 _ (by omega)]; omega)
  · by_cases h3 : r ≤ 65535
    · rw [enc_three r (by omega)] at hc
      simp only [List.mem_cons, List.mem_nil_iff, or_false] at hc
      rcases hc with rfl | rfl | rfl <;> (rw [toU8 _ (by omega)]; omega)
    · rw [enc_four r (by omega) (by omega)] at hc
      simp only [List.mem_cons, List.mem_nil_iff, or_false] at hc
      rcases hc with rfl | rfl | rfl | rfl <;> (rw [toU8 _ (by omega)]; omega)
theorem enc_facts (r : Nat) (h : isCP r = true) (h0 : 32 ≤ r) (h34 : r ≠ 34) (h92 : r ≠ 92) (s : List UInt8) (hs : 0 < s.length) :
    jtS (enc r ++ s) = (jtS s).map (· + (enc r).length) ∧ ulS (enc r ++ s) = pairU r ++ ulS s ∧ (validAll (enc r ++ s)).2 = (validAll s).2 := by
  have hp := enc_pos r
  have hd := dec_enc r h s
  have hn := nx_enc r h s
  have hl := enc_len r h
  have hdrop : (enc r ++ s).drop (wid r) = s := by rw [← hl]; simp
  have hv : (validAll (enc r ++ s)).2 = (validAll s).2 := by
    rw [validAll_step _ (by simp; omega), hn, hd]; simp only [Bool.true_and]; rw [hdrop]
  obtain ⟨c, t, hct⟩ : ∃ c t, enc r = c :: t := by
    cases he : enc r with
    | nil => rw [he] at hp; simp at hp
    | cons c t => exact ⟨c, t, rfl⟩
  have hc : c ≠ 34 ∧ c ≠ 92 ∧ 32 ≤ c.toNat := by
    by_cases h1 : r < 128
    · rw [enc_one r h1] at hct
      simp only [List.cons.injEq] at hct
      have : c.toNat = r := by rw [← hct.1, toU8 r (by omega)]
      refine ⟨fun e => ?_, fun e => ?_, by omega⟩
      · subst e; exact h34 (by simpa using this.symm)
      · subst e; exact h92 (by simpa using this.symm)
    · have := enc_high r h (by omega) c (by rw [hct]; simp)
      refine ⟨fun e => ?_, fun e => ?_, by omega⟩ <;> (subst e; simp at this)
  refine ⟨?_, ?_, hv⟩
  · by_cases h1 : r < 128
    · have hct2 := hct
      rw [enc_one r h1] at hct2
      simp only [List.cons.injEq] at hct2
      rw [hct, ← hct2.2]
      show jtS (c :: s) = _
      rw [jtS_cons, if_neg hc.1, if_neg (by omega), if_pos hc.2.1]
      rfl
    · exact jtS_high _ _ (enc_high r h (by omega))
  · rw [hct] at hd hdrop ⊢
    rw [List.cons_append, ulS_cp c (t ++ s) (by simp; omega) hc.2.1]
    rw [List.cons_append] at hd hdrop
    rw [hd, hdrop]
theorem spel_facts (r : Nat) (hr : r ≤ 1114111) (s : List UInt8) (hs : 0 < s.length) :
    jtS (spel r ++ s) = (jtS s).map (· + (spel r).length) ∧ ulS (spel r ++ s) = pairU r ++ ulS s ∧ (validAll (spel r ++ s)).2 = (validAll s).2 := by
  have hp : r < 65536 → pairU r = [r] := fun h => by unfold pairU; rw [if_pos h]
  by_cases h1 : r = 34
  · subst h1; rw [show spel 34 = [92, 34] from rfl, hp (by omega)]; exact esc_facts 34 (by decide) s
  by_cases h2 : r = 92
  · subst h2; rw [show spel 92 = [92, 92] from rfl, hp (by omega)]; exact esc_facts 92 (by decide) s
  by_cases h3 : r = 8
  · subst h3; rw [show spel 8 = [92, 98] from rfl, hp (by omega)]; exact esc_facts 98 (by decide) s
  by_cases h4 : r = 12
  · subst h4; rw [show spel 12 = [92, 102] from rfl, hp (by omega)]; exact esc_facts 102 (by decide) s
  by_cases h5 : r = 10
  · subst h5; rw [show spel 10 = [92, 110] from rfl, hp (by omega)]; exact esc_facts 110 (by decide) s
  by_cases h6 : r = 13
  · subst h6; rw [show spel 13 = [92, 114] from rfl, hp (by omega)]; exact esc_facts 114 (by decide) s
  by_cases h7 : r = 9
  · subst h7; rw [show spel 9 = [92, 116] from rfl, hp (by omega)]; exact esc_facts 116 (by decide) s
  have e : spel r = if r < 32 ∨ Sur r then num6 r else enc r := by
    unfold spel
    rw [if_neg h1, if_neg h2, if_neg h3, if_neg h4, if_neg h5, if_neg h6, if_neg h7]
  rw [e]
  by_cases h8 : r < 32 ∨ Sur r
  · rw [if_pos h8]
    have hb : r ≤ 65535 := by unfold Sur at h8; omega
    rw [hp (by omega)]
    exact num_facts r hb s
  · rw [if_neg h8]
    have hcp : isCP r = true := by rw [isCP_iff]; unfold Sur at h8; omega
    exact enc_facts r hcp (by omega) h1 h2 s hs
theorem pairU_join (u v : Nat) (h : isPair u v = true) : pairU (joinU u v) = [u, v] := by
  have hj := join_lt u v h
  rw [isPair_iff] at h
  unfold pairU
  rw [if_neg (by omega)]
  unfold joinU
  have q1 : 55296 + (65536 + (u - 55296) * 1024 + (v - 56320) - 65536) / 1024 = u := by omega
  have q2 : 56320 + (65536 + (u - 55296) * 1024 + (v - 56320) - 65536) % 1024 = v := by omega
  rw [q1, q2]
theorem body_facts (l : List Nat) (hl : ∀ u ∈ l, u ≤ 65535) (s : List UInt8) (hs : 0 < s.length) :
    jtS (body l ++ s) = (jtS s).map (· + (body l).length) ∧ ulS (body l ++ s) = l ++ ulS s ∧ (validAll (body l ++ s)).2 = (validAll s).2 := by
  have one : ∀ r rest x, r ≤ 1114111 → (jtS (rest ++ s) = (jtS s).map (· + rest.length) ∧ ulS (rest ++ s) = x ++ ulS s ∧ (validAll (rest ++ s)).2 = (validAll s).2) →
      jtS ((spel r ++ rest) ++ s) = (jtS s).map (· + (spel r ++ rest).length) ∧ ulS ((spel r ++ rest) ++ s) = (pairU r ++ x) ++ ulS s ∧ (validAll ((spel r ++ rest) ++ s)).2 = (validAll s).2 := by
    intro r rest x hr ⟨a1, a2, a3⟩
    obtain ⟨b1, b2, b3⟩ := spel_facts r hr (rest ++ s) (by simp; omega)
    rw [List.append_assoc]
    refine ⟨?_, ?_, ?_⟩
    · rw [b1, a1, Option.map_map]
      congr 1
      funext k
      simp; omega
    · rw [b2, a2, List.append_assoc]
    · rw [b3, a3]
  induction l using body.induct with
  | case1 => simp [body]
  | case2 u =>
    have hu := hl u (by simp)
    have := one u [] [] (by omega) (by simp)
    have hp : pairU u = [u] := by unfold pairU; rw [if_pos (by omega)]
    simpa [body, hp] using this
  | case3 u v t hp ih =>
    have hj := join_lt u v hp
    have := one (joinU u v) (body t) t (by omega) (ih (fun x hx => hl x (by simp [hx])))
    rw [pairU_join u v hp] at this
    simp only [body, if_pos hp]
    exact this
  | case4 u v t hp ih =>
    have hu := hl u (by simp)
    have := one u (body (v :: t)) (v :: t) (by omega) (ih (fun x hx => hl x (List.mem_cons_of_mem _ hx)))
    have hpu : pairU u = [u] := by unfold pairU; rw [if_pos (by omega)]
    rw [hpu] at this
    simp only [body, if_neg hp]
    exact this

end Go.Proofs.YtlobinjdgcidmaaDoor.M

/- Plain numbers and lists: two texts with a blank between, split. -/
namespace Go.Proofs.YtlobinjdgcidmaaDoor.M
open Go.Lib
set_option linter.unusedVariables false
set_option linter.unusedSimpArgs false

end Go.Proofs.YtlobinjdgcidmaaDoor.M

/- Plain numbers and lists: tokens with blanks between them, put together and split again. -/
namespace Go.Proofs.YtlobinjdgcidmaaDoor.M
open Go.Lib
set_option linter.unusedVariables false
set_option linter.unusedSimpArgs false

abbrev TL := List (Nat × List UInt8)
def bld (P : Nat → List UInt8) : Nat → TL → List UInt8
  | j, [] => P j
  | j, x :: r => P j ++ (x.2 ++ bld P (j + 1) r)
theorem bld_cons (P : Nat → List UInt8) (j : Nat) (x : Nat × List UInt8) (r : TL) : bld P j (x :: r) = P j ++ (x.2 ++ bld P (j + 1) r) := rfl
def pos (P : Nat → List UInt8) : Nat → Nat → TL → Toks
  | _, _, [] => []
  | j, p, x :: r => (x.1, p + (P j).length, p + ((P j).length + x.2.length)) :: pos P (j + 1) (p + ((P j).length + x.2.length)) r
def GoodT (x : Nat × List UInt8) : Prop := 0 < x.2.length ∧ tokL x.2 = some (x.1, x.2.length) ∧ (validAll x.2).2 = true
def Adj (P : Nat → List UInt8) : Nat → TL → Prop
  | _, [] => True
  | _, [_] => True
  | j, x :: y :: r => (P (j + 1) ≠ [] ∨ x.1 ≤ 7 ∨ y.1 ≤ 6) ∧ Adj P (j + 1) (y :: r)
theorem bl_go (c : UInt8) (h : blB c = true) : goB c = false ∧ c.toNat < 128 := by
  have h0 : ∀ d : Fin 256, blB d.val.toUInt8 = true → goB d.val.toUInt8 = false ∧ d.val < 128 := by decide +kernel
  have := h0 ⟨c.toNat, c.toNat_lt⟩
  simp only at this
  rw [show c.toNat.toUInt8 = c from by apply UInt8.toNat_inj.1; rw [toU8 c.toNat c.toNat_lt]] at this
  exact this h
theorem tok_head (s : List UInt8) (k n : Nat) (h : tokL s = some (k, n)) : blB (s.getD 0 0) = false := by
  cases hb : blB (s.getD 0 0) with
  | false => rfl
  | true =>
    exfalso
    have hx : (s.getD 0 0 = 32 ∨ s.getD 0 0 = 9) ∨ s.getD 0 0 = 10 ∨ s.getD 0 0 = 13 := by
      unfold blB at hb
      simp only [Bool.or_eq_true, beq_iff_eq] at hb
      rcases hb with ((e | e) | e) | e
      · exact .inl (.inl e)
      · exact .inl (.inr e)
      · exact .inr (.inl e)
      · exact .inr (.inr e)
    have hn : numL s = none := by
      unfold numL
      have hg : neg s = 0 := by
        unfold neg
        rw [if_neg (by rcases hx with (e | e) | e | e <;> (rw [e]; decide))]
      rw [hg, if_neg (by rcases hx with (e | e) | e | e <;> (rw [e]; decide))]
    unfold tokL at h
    rw [hn] at h
    rcases hx with (e | e) | e | e <;> (rw [e] at h; simp at h)
theorem tok_sign (s : List UInt8) (k n : Nat) (h : tokL s = some (k, n)) (hk : k ≤ 6) : goB (s.getD 0 0) = false := by
  unfold tokL at h
  by_cases c1 : s.getD 0 0 = 123
  · rw [c1]; decide
  rw [if_neg c1] at h
  by_cases c2 : s.getD 0 0 = 125
  · rw [c2]; decide
  rw [if_neg c2] at h
  by_cases c3 : s.getD 0 0 = 91
  · rw [c3]; decide
  rw [if_neg c3] at h
  by_cases c4 : s.getD 0 0 = 93
  · rw [c4]; decide
  rw [if_neg c4] at h
  by_cases c5 : s.getD 0 0 = 58
  · rw [c5]; decide
  rw [if_neg c5] at h
  by_cases c6 : s.getD 0 0 = 44
  · rw [c6]; decide
  rw [if_neg c6] at h
  exfalso
  split at h
  · cases hj : jtS (s.drop 1) with
    | none => rw [hj] at h; simp at h
    | some m => rw [hj] at h; simp at h; omega
  · split at h
    · have := (wordL_le tru s 9 (by decide) k n h).1; omega
    · split at h
      · have := (wordL_le fls s 10 (by decide) k n h).1; omega
      · split at h
        · have := (wordL_le nul s 11 (by decide) k n h).1; omega
        · cases hj : numL s with
          | none => rw [hj] at h; simp at h
          | some m => rw [hj] at h; simp at h; omega
theorem getD_app (a b : List UInt8) (h : a ≠ []) : (a ++ b).getD 0 0 = a.getD 0 0 := by
  cases a with
  | nil => exact absurd rfl h
  | cons c t => rfl
theorem lead_app (p s : List UInt8) (hp : ∀ c ∈ p, blB c = true) (hs : blB (s.getD 0 0) = false) : lead (p ++ s) = p.length := by
  apply lead_of
  · intro j hj
    rw [show (p ++ s).getD j 0 = p[j] by simp [List.getD, List.getElem?_append_left hj, hj]]
    exact hp _ (List.getElem_mem hj)
  · rw [show (p ++ s).getD p.length 0 = s.getD 0 0 by simp only [List.getD]; rw [List.getElem?_append_right (Nat.le_refl _), Nat.sub_self]]
    exact hs
theorem lead_only (p : List UInt8) (hp : ∀ c ∈ p, blB c = true) : lead p = p.length := by
  have := lead_app p [] hp (by decide)
  rwa [List.append_nil] at this
theorem bld_head (P : Nat → List UInt8) (hP : ∀ j, ∀ c ∈ P j, blB c = true) (j : Nat) (r : TL) (hg : ∀ x ∈ r, GoodT x) (h : P j ≠ [] ∨ (∀ y, r.head? = some y → y.1 ≤ 6)) : goB ((bld P j r).getD 0 0) = false := by
  by_cases hne : P j = []
  · cases r with
    | nil => unfold bld; rw [hne]; decide
    | cons y r =>
      rw [bld_cons, hne, List.nil_append]
      have gy := hg y (by simp)
      have hy : y.1 ≤ 6 := by
        rcases h with h | h
        · exact absurd hne h
        · exact h y rfl
      rw [getD_app _ _ (by intro e; have g1 := gy.1; rw [e] at g1; exact absurd g1 (by simp))]
      exact tok_sign y.2 y.1 _ gy.2.1 hy
  · have hb : ∀ t, goB ((P j ++ t).getD 0 0) = false := fun t => by
      rw [getD_app _ _ hne]
      cases hp : P j with
      | nil => exact absurd hp hne
      | cons c u => exact (bl_go c (hP j c (by rw [hp]; simp))).1
    cases r with
    | nil => unfold bld; have := hb []; rwa [List.append_nil] at this
    | cons y r => rw [bld_cons]; exact hb _
theorem lex_bld (P : Nat → List UInt8) (hP : ∀ j, ∀ c ∈ P j, blB c = true) (r : TL) : ∀ (j p : Nat), (∀ x ∈ r, GoodT x) → Adj P j r → lexS (bld P j r) p = .ok (pos P j p r) := by
  induction r with
  | nil =>
    intro j p hg ha
    unfold bld pos
    exact lexS_end _ _ (by rw [lead_only _ (hP j)]; exact Nat.le_refl _)
  | cons x r ih =>
    intro j p hg ha
    have gx := hg x (by simp)
    have hg' : ∀ y ∈ r, GoodT y := fun y hy => hg y (by simp [hy])
    have ha' : Adj P (j + 1) r := by
      cases r with
      | nil => trivial
      | cons y r => exact ha.2
    have hh := tok_head x.2 _ _ gx.2.1
    have hne : x.2 ≠ [] := by intro e; have g1 := gx.1; rw [e] at g1; exact absurd g1 (by simp)
    have hld : lead (bld P j (x :: r)) = (P j).length := by
      rw [bld_cons]
      exact lead_app _ _ (hP j) (by rw [getD_app _ _ hne]; exact hh)
    have hdr : (bld P j (x :: r)).drop (P j).length = x.2 ++ bld P (j + 1) r := by rw [bld_cons]; exact List.drop_left
    have htk : tokL (x.2 ++ bld P (j + 1) r) = some (x.1, x.2.length) := by
      have hloc := tok_local x.2 (bld P (j + 1) r) x.1 x.2.length gx.1 gx.2.1 (by
        by_cases hk : x.1 ≤ 7
        · exact .inl hk
        · right
          apply bld_head P hP (j + 1) r hg'
          cases r with
          | nil => right; intro y hy; simp at hy
          | cons y r =>
            rcases ha.1 with h | h | h
            · exact .inl h
            · exact absurd h hk
            · right; intro z hz; simp at hz; subst hz; exact h)
      rwa [List.take_length] at hloc
    have hlt : lead (bld P j (x :: r)) < (bld P j (x :: r)).length := by
      rw [hld, bld_cons]; simp only [List.length_append]; have := gx.1; omega
    rw [lexS_in _ p x.1 x.2.length hlt (by rw [hld, hdr]; exact htk), hld]
    have hdr2 : (bld P j (x :: r)).drop ((P j).length + x.2.length) = bld P (j + 1) r := by
      rw [← List.drop_drop, hdr]; exact List.drop_left
    rw [hdr2, ih (j + 1) (p + ((P j).length + x.2.length)) hg' ha']
    rfl
theorem valid_blank (p : List UInt8) (hp : ∀ c ∈ p, blB c = true) : (validAll p).2 = true := by
  have := valid_asciis p.length p (Nat.le_refl _) (fun j hj => by
    rw [show p.getD j 0 = p[j] by simp [hj]]
    exact (bl_go _ (hp _ (List.getElem_mem hj))).2)
  rw [this, List.drop_length]; rfl
theorem valid_bld (P : Nat → List UInt8) (hP : ∀ j, ∀ c ∈ P j, blB c = true) (r : TL) : ∀ j, (∀ x ∈ r, GoodT x) → (validAll (bld P j r)).2 = true := by
  induction r with
  | nil => intro j hg; unfold bld; exact valid_blank _ (hP j)
  | cons x r ih =>
    intro j hg
    rw [bld_cons, join_good _ _ (valid_blank _ (hP j)), join_good _ _ (hg x (by simp)).2.2]
    exact ih (j + 1) (fun y hy => hg y (by simp [hy]))
end Go.Proofs.YtlobinjdgcidmaaDoor.M

/- Plain numbers and lists: each token of a text, taken out, is a token alone, and UTF-8. -/
namespace Go.Proofs.YtlobinjdgcidmaaDoor
open Go.Lib
set_option linter.unusedVariables false
set_option linter.unusedSimpArgs false

theorem valid_all_ascii (s : List UInt8) (h : ∀ j, j < s.length → (s.getD j 0).toNat < 128) : (M.validAll s).2 = true := by
  rw [M.valid_asciis s.length s (Nat.le_refl _) h, List.drop_length]; rfl
end Go.Proofs.YtlobinjdgcidmaaDoor

/- Plain numbers and lists: the tokens of a text as texts of their own; where they stand when they are put together anew. -/
namespace Go.Proofs.YtlobinjdgcidmaaDoor
open Go.Lib
set_option linter.unusedVariables false
set_option linter.unusedSimpArgs false

end Go.Proofs.YtlobinjdgcidmaaDoor
/- Plain: which units a text has, how long it is written; how long a number is written; what is read may be. -/
namespace Go.Proofs.YtlobinjdgcidmaaDoor
open Go.RowKit
set_option linter.unusedVariables false
set_option linter.unusedSimpArgs false

theorem hex4_le (t : List UInt8) : M.hex4 t ≤ 65535 := by
  unfold M.hex4 M.hexN
  have h0 := M.hexV_lt (t.getD 0 0)
  have h1 := M.hexV_lt (t.getD 1 0)
  have h2 := M.hexV_lt (t.getD 2 0)
  have h3 := M.hexV_lt (t.getD 3 0)
  omega
theorem escV_le (d : UInt8) : M.escV d ≤ 65535 := by
  have := d.toNat_lt
  unfold M.escV
  repeat' split
  all_goals omega
namespace M
end M
end Go.Proofs.YtlobinjdgcidmaaDoor
