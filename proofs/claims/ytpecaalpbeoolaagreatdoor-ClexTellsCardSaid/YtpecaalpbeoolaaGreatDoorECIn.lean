/- Code points of an input: what the reference's Runes returns, for any bytes (XCIn without the program's). -/
import Derived.Test.YtpecaalpbeoolaaGreatDoorMgU
import Derived.Test.YtpecaalpbeoolaaGreatDoorMgB
import Derived.Test.YtpecaalpbeoolaaGreatDoorRNext
namespace Go.Proofs.YtpecaalpbeoolaaGreatDoor
open Go.RowKit
set_option linter.unusedVariables false
set_option linter.unusedSimpArgs false

/-- A code point with its place, in cells. -/
def rv (r : Int × Int) : List Value := [.int .i64 r.1, .int .i64 r.2]
def rvs (l : List (Int × Int)) : List (List Value) := l.map rv
theorem rvs_len (l : List (Int × Int)) : (rvs l).length = l.length := by simp [rvs]
theorem rvs_append (k l : List (Int × Int)) : rvs (k ++ l) = rvs k ++ rvs l := by simp [rvs]
theorem rvs_two (l : List (Int × Int)) : ∀ y ∈ rvs l, y.length = 2 := by
  intro y hy
  simp only [rvs, List.mem_map] at hy
  obtain ⟨r, _, rfl⟩ := hy
  rfl
theorem rvs_one (l : List (Int × Int)) : ∀ y ∈ rvs l, ∀ c ∈ y, c.oneCell' = true := by
  intro y hy
  simp only [rvs, List.mem_map] at hy
  obtain ⟨r, _, rfl⟩ := hy
  intro c hc
  simp [rv] at hc
  rcases hc with rfl | rfl <;> rfl
theorem infoR : (Tryz.prog.info? 51).map (fun i => (i.zero, i.size, i.bytes)) = some (some (.agg #[.int .i64 0, .int .i64 0]), 2, 16) := by kernel_rfl
def OwnR (B : Nat) (w : World) (v : Value) (l : List (Int × Int)) : Prop := OwnV 51 2 B w v (rvs l)
def Rs (w : World) (v : Value) (l : List (Int × Int)) : Prop := Vs 2 w v (rvs l)
theorem OwnR.keep {B : Nat} {w w' : World} {v : Value} {l : List (Int × Int)} (h : OwnR B w v l) (hb : Below w.heap.size w w') : OwnR B w' v l := OwnV.keep h hb
theorem one_rune (w : World) (r a : Int) : Vs 2 (w.alloc (.cells #[.int .i64 r, .int .i64 a] 51)) (.slice (some ⟨w.heap.size, 0, none⟩) 1 1) (rvs [(r, a)]) :=
  vs_cells 2 51 w (rvs [(r, a)]) _ 1 rfl (rvs_two _) rfl (by simp [rvs])
/-- append of a code point onto code points of the call's own. -/
theorem wpl_rune {w : World} {ops : Array Oper} {rest : List Oper} {o : Oper} {a : Act} {Q : Exit → Act → World → Prop} (hgd : o.guard = none) (s x : Operand)
    (ho : o.op = .call { callee := .builtin .append, args := #[s, x], argTypes := #[23, 23] })
    (B : Nat) (v u : Value) (l t : List (Int × Int)) (r p : Int) (hs : a.eval s = v) (hown : OwnR B w v l) (hx : a.eval x = u) (hu : Vs 2 w u (rvs [(r, p)])) (hnn : NNv u)
    (hlen : l.length ≤ 4294967296) (hB : B ≤ w.heap.size) (ht : l ++ [(r, p)] = t)
    (h : ∀ v' w', OwnR B w' v' t → Below B w w' → wpList Tryz.prog ops Q rest (a.put o.dst v') w') : wpList Tryz.prog ops Q (o :: rest) a w :=
  wpl_appendV hgd s x ho Tryz.underlying23 infoR rfl (by decide) B v u (rvs l) (rvs [(r, p)]) (rvs t) hs hown hx hu hnn (rvs_two _) (rvs_one _) (by rw [rvs_len, rvs_len]; simp; omega) (by decide) hB (by rw [← ht, rvs_append]) h

theorem tup_ii {a b c d : Int} (h : a = b) (h2 : c = d) : Ending.returned (.tuple #[.int .i64 a, .int .i64 c]) = .returned (.tuple #[.int .i64 b, .int .i64 d]) := by rw [h, h2]
/-- What Runes returns. -/
def RuP (w : World) (l : List (Int × Int)) (e : Ending) (w' : World) : Prop := ∃ v', e = .returned v' ∧ OwnR w.heap.size w' v' l ∧ Below w.heap.size w w'
set_option maxRecDepth 100000 in
set_option maxHeartbeats 4000000 in
theorem refruns_any (v : Value) (l : List UInt8) (rs : List (Int × Int)) (w : World) (hv : Bs w v l) (hl : l.length ≤ 1048576) (hr : M.rn l 0 = rs) :
    Calls Tryz.prog 12 #[v] w (RuP w rs) := by
  have hv2 := hv
  obtain ⟨a, cap, rfl, h1, h2, h3⟩ := hv2
  obtain ⟨n, hn⟩ : ∃ n, l.length = n := ⟨_, rfl⟩
  have Hv := Lib.hid hv
  have Hn := Lib.hid hn
  have Hr := Lib.hid hr
  have H3 := Lib.hid h3
  rw [hn] at h1 hl ⊢
  clear h3 hv hn hr
  go_enter Tryz.func12, Tryz.ntmps12
  go_wp2
  go_loopw [3, 4, 5, 6, 7, 8] (fun ov iv _ _ _ _ wr => ∃ (i : Nat) (pre : List (Int × Int)), iv = .int .i64 i ∧ i ≤ n ∧ pre ++ M.rn l i = rs ∧ pre.length ≤ i ∧ OwnR w.heap.size wr ov pre ∧ Below w.heap.size w wr) (fun _ iv _ _ _ _ _ => n - (intOf iv).toNat)
  case atStart => exact ⟨0, [], rfl, by omega, Hr.out, by simp, ownV_nil _ _ _ _, Below.refl _ _⟩
  case round =>
    obtain ⟨i, pre, rfl, hi, hpre, hpl, ho, hb⟩ := hrel
    have hsz := hb.size
    by_cases hlt : i < n
    · obtain ⟨b, off, rfl, hbk, hcl⟩ := H3.out (by rw [Hn.out]; omega)
      obtain ⟨ok, hnx⟩ := M.next_dec l i (by rw [Hn.out]; exact hlt)
      have N1 := refnext_any _ l i _ wr (Hv.out.keep hb) (by rw [Hn.out]; omega) hnx
      unfold tri at N1
      dsimp only at N1
      rw [Hn.out] at N1
      have hst := M.rn_in l i (by rw [Hn.out]; exact hlt)
      have hle := M.step_le l i (by rw [Hn.out]; exact hlt)
      rw [Hn.out] at hle
      have hlow := M.dec_low (l.drop i)
      have hwid := M.dec_width (l.drop i)
      have hdl := M.dec_le (l.drop i) (by simp; rw [Hn.out]; omega)
      rw [List.length_drop, Hn.out] at hdl
      have hcg : i + 1 < n → wr.cell? ⟨b, off + (i + 1), none⟩ = some (.int .u8 ((l.getD (i + 1) 0).toNat : Int)) := fun hj => by
        have hj' : i + 1 < l.length := by rw [Hn.out]; exact hj
        rw [hb.cell (p := ⟨b, off + (i + 1), none⟩) hbk, hcl (i + 1) hj']; simp [hj']
      have hout : n ≤ i + 1 → l.getD (i + 1) 0 = 0 := by intro h; simp [List.getD, List.getElem?_eq_none (show l.length ≤ i + 1 by rw [Hn.out]; exact h)]
      unfold M.stepR at hst hle
      obtain ⟨D, hD⟩ : ∃ D, (M.dec (l.drop i)).1 = D := ⟨_, rfl⟩
      obtain ⟨K, hK⟩ : ∃ D, (M.dec (l.drop i)).2 = D := ⟨_, rfl⟩
      obtain ⟨c, hc⟩ : ∃ c, l.getD (i + 1) 0 = c := ⟨_, rfl⟩
      rw [hD, hK] at hst hle N1 hlow
      rw [hK] at hwid hdl
      rw [hc] at hst hle hcg hout
      have HN := Lib.hid N1
      have Hpre := Lib.hid hpre
      clear N1 hD hK hc hnx hcl hpre
      by_cases h0 : D = 0
      · subst h0
        rw [if_pos rfl] at hst hle
        have hfin : (pre ++ [(65533, (i : Int))]) ++ M.rn l (i + K) = rs := by rw [List.append_assoc, List.singleton_append, ← hst]; exact Hpre.out
        have Hf := Lib.hid hfin
        clear hst hle hcg hout hlow hfin
        go_wp2_with fail
        refine HN.out.mono ?_
        rintro e w' ⟨rfl, rfl⟩
        go_wp2_with (at_builtin; refine wpl_rune rfl _ _ rfl w.heap.size _ (.slice (some ⟨wr.heap.size, 0, none⟩) 1 1) pre (pre ++ [(65533, (i : Int))]) 65533 i rfl (OwnR.keep ho ((Below.refl _ _).alloc (Nat.le_refl _) _)) rfl (one_rune wr 65533 i) (nnv_some _ _ _) (by omega) (by simp; omega) rfl ?_)
        intro v3 w3 ho3 hb4
        have hb5 := (hb.alloc hsz _).trans hb4
        clear hb hb4 ho
        go_wp2
        go_roundw
        case rel => exact ⟨i + K, pre ++ [(65533, (i : Int))], by go_num, by omega, Hf.out, by simp; omega, ho3, hb5⟩
        case measure => simp [intOf]; omega
      by_cases h12 : D = 12
      · subst h12
        rw [if_neg (by decide), if_pos rfl] at hst hle
        have hfin : (pre ++ [(10, (i : Int))]) ++ M.rn l (i + K) = rs := by rw [List.append_assoc, List.singleton_append, ← hst]; exact Hpre.out
        have Hf := Lib.hid hfin
        clear hst hle hcg hout hlow hfin h0
        go_wp2_with fail
        refine HN.out.mono ?_
        rintro e w' ⟨rfl, rfl⟩
        go_wp2_with (at_builtin; refine wpl_rune rfl _ _ rfl w.heap.size _ (.slice (some ⟨wr.heap.size, 0, none⟩) 1 1) pre (pre ++ [(10, (i : Int))]) 10 i rfl (OwnR.keep ho ((Below.refl _ _).alloc (Nat.le_refl _) _)) rfl (one_rune wr 10 i) (nnv_some _ _ _) (by omega) (by simp; omega) rfl ?_)
        intro v3 w3 ho3 hb4
        have hb5 := (hb.alloc hsz _).trans hb4
        clear hb hb4 ho
        go_wp2
        go_roundw
        case rel => exact ⟨i + K, pre ++ [(10, (i : Int))], by go_num, by omega, Hf.out, by simp; omega, ho3, hb5⟩
        case measure => simp [intOf]; omega
      by_cases h13 : D = 13
      · subst h13
        have hK1 := (hlow (by decide)).1
        subst hK1
        rw [if_neg (by decide), if_neg (by decide), if_pos rfl] at hst hle
        obtain ⟨C, hC⟩ : ∃ C : Int, (c.toNat : Int) = C := ⟨_, rfl⟩
        rw [hC] at hcg
        have i4 : ((i : Int) + 1).toNat = i + 1 := by omega
        by_cases hin : i + 1 < n
        · have hcc := hcg hin
          have t1 : decide ((i : Int) + 1 < n) = true := by simp; omega
          have u1 : (i : Int) + 1 < n := by omega
          by_cases h10 : c = 10
          · have t2 : (C == 10) = true := by rw [← hC, h10]; rfl
            rw [if_pos h10] at hst hle
            have hfin : (pre ++ [(10, (i : Int))]) ++ M.rn l (i + 2) = rs := by rw [List.append_assoc, List.singleton_append, ← hst]; exact Hpre.out
            have Hf := Lib.hid hfin
            clear hst hle hcg hout hlow hfin h0 h12 h10 hC
            go_wp2_with fail
            refine HN.out.mono ?_
            rintro e w' ⟨rfl, rfl⟩
            go_wp2_with (at_builtin; refine wpl_rune rfl _ _ rfl w.heap.size _ (.slice (some ⟨wr.heap.size, 0, none⟩) 1 1) pre (pre ++ [(10, (i : Int))]) 10 i rfl (OwnR.keep ho ((Below.refl _ _).alloc (Nat.le_refl _) _)) rfl (one_rune wr 10 i) (nnv_some _ _ _) (by omega) (by simp; omega) rfl ?_)
            intro v3 w3 ho3 hb4
            have hb5 := (hb.alloc hsz _).trans hb4
            clear hb hb4 ho
            go_wp2
            go_roundw
            case rel => exact ⟨i + 2, pre ++ [(10, (i : Int))], by go_num, by omega, Hf.out, by simp; omega, ho3, hb5⟩
            case measure => simp [intOf]; omega
          · have t2 : (C == 10) = false := by rw [beq_eq_false_iff_ne]; intro hh; apply h10; apply UInt8.toNat_inj.1; show c.toNat = 10; omega
            rw [if_neg h10] at hst hle
            have hfin : (pre ++ [(10, (i : Int))]) ++ M.rn l (i + 1) = rs := by rw [List.append_assoc, List.singleton_append, ← hst]; exact Hpre.out
            have Hf := Lib.hid hfin
            clear hst hle hcg hout hlow hfin h0 h12 h10 hC
            go_wp2_with fail
            refine HN.out.mono ?_
            rintro e w' ⟨rfl, rfl⟩
            go_wp2_with (at_builtin; refine wpl_rune rfl _ _ rfl w.heap.size _ (.slice (some ⟨wr.heap.size, 0, none⟩) 1 1) pre (pre ++ [(10, (i : Int))]) 10 i rfl (OwnR.keep ho ((Below.refl _ _).alloc (Nat.le_refl _) _)) rfl (one_rune wr 10 i) (nnv_some _ _ _) (by omega) (by simp; omega) rfl ?_)
            intro v3 w3 ho3 hb4
            have hb5 := (hb.alloc hsz _).trans hb4
            clear hb hb4 ho
            go_wp2
            go_roundw
            case rel => exact ⟨i + 1, pre ++ [(10, (i : Int))], by go_num, by omega, Hf.out, by simp; omega, ho3, hb5⟩
            case measure => simp [intOf]; omega
        · have hc0 := hout (by omega)
          rw [if_neg (by rw [hc0]; decide)] at hst hle
          have t1 : decide ((i : Int) + 1 < n) = false := by simp; omega
          have hfin : (pre ++ [(10, (i : Int))]) ++ M.rn l (i + 1) = rs := by rw [List.append_assoc, List.singleton_append, ← hst]; exact Hpre.out
          have Hf := Lib.hid hfin
          clear hst hle hcg hout hlow hfin h0 h12 hC hc0
          go_wp2_with fail
          refine HN.out.mono ?_
          rintro e w' ⟨rfl, rfl⟩
          go_wp2_with (at_builtin; refine wpl_rune rfl _ _ rfl w.heap.size _ (.slice (some ⟨wr.heap.size, 0, none⟩) 1 1) pre (pre ++ [(10, (i : Int))]) 10 i rfl (OwnR.keep ho ((Below.refl _ _).alloc (Nat.le_refl _) _)) rfl (one_rune wr 10 i) (nnv_some _ _ _) (by omega) (by simp; omega) rfl ?_)
          intro v3 w3 ho3 hb4
          have hb5 := (hb.alloc hsz _).trans hb4
          clear hb hb4 ho
          go_wp2
          go_roundw
          case rel => exact ⟨i + 1, pre ++ [(10, (i : Int))], by go_num, by omega, Hf.out, by simp; omega, ho3, hb5⟩
          case measure => simp [intOf]; omega
      · rw [if_neg h0, if_neg h12, if_neg h13] at hst hle
        obtain ⟨E, hE⟩ : ∃ E : Int, (D : Int) = E := ⟨_, rfl⟩
        have t1 : (E == 0) = false := by rw [beq_eq_false_iff_ne]; omega
        have t2 : (E == 12) = false := by rw [beq_eq_false_iff_ne]; omega
        have t3 : (E == 13) = false := by rw [beq_eq_false_iff_ne]; omega
        rw [hE] at HN hst
        have hfin : (pre ++ [(E, (i : Int))]) ++ M.rn l (i + K) = rs := by rw [List.append_assoc, List.singleton_append, ← hst]; exact Hpre.out
        have Hf := Lib.hid hfin
        clear hst hle hcg hout hlow hfin h0 h12 h13 hE
        go_wp2_with fail
        refine HN.out.mono ?_
        rintro e w' ⟨rfl, rfl⟩
        go_wp2_with (at_builtin; refine wpl_rune rfl _ _ rfl w.heap.size _ (.slice (some ⟨wr.heap.size, 0, none⟩) 1 1) pre (pre ++ [(E, (i : Int))]) E i rfl (OwnR.keep ho ((Below.refl _ _).alloc (Nat.le_refl _) _)) rfl (one_rune wr E i) (nnv_some _ _ _) (by omega) (by simp; omega) rfl ?_)
        intro v3 w3 ho3 hb4
        have hb5 := (hb.alloc hsz _).trans hb4
        clear hb hb4 ho
        go_wp2
        go_roundw
        case rel => exact ⟨i + K, pre ++ [(E, (i : Int))], by go_num, by omega, Hf.out, by simp; omega, ho3, hb5⟩
        case measure => simp [intOf]; omega
    · have hfin := hpre
      rw [M.rn_out l i (by rw [Hn.out]; omega), List.append_nil] at hfin
      subst hfin
      have HF : Hid (RuP w pre (.returned u3) wr) := Lib.hid ⟨_, rfl, ho, hb⟩
      have hge : (n : Int) ≤ i := by omega
      have hge2 : n ≤ i := by omega
      clear ho hb hpre hlt
      go_wp2
      go_ret
      exact HF.out
end Go.Proofs.YtpecaalpbeoolaaGreatDoor
