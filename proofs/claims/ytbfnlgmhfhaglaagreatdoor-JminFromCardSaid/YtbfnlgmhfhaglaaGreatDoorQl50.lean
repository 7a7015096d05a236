/- Texts of ours in one: AAlive ZMl Open. -/
import Derived.Test.YtbfnlgmhfhaglaaGreatDoorQl45
import Derived.Test.YtbfnlgmhfhaglaaGreatDoorQl40
import Derived.Test.YtbfnlgmhfhaglaaGreatDoorQl49
import Derived.Test.YtbfnlgmhfhaglaaGreatDoorQl22
import Derived.Test.YtbfnlgmhfhaglaaGreatDoorQl31
import Derived.Test.YtbfnlgmhfhaglaaGreatDoorQl02
import Derived.ProofKit
import Derived.OpenShut
import Derived.ChangeSame
/- Chapter 9's own 'alive'. -/
namespace Go.Proofs.YtbfnlgmhfhaglaaGreatDoor
open Go.RowKit
set_option linter.unusedVariables false
set_option linter.unusedSimpArgs false

def vhK (k : Int) : Vh := ⟨k, [], false, [], [], 0, 0, []⟩
theorem vhK_hd (k : Int) (w : World) : HdS w (vhK k) (.slice none 0 0) (.slice none 0 0) := ⟨by show 0 ≤ _; exact Nat.zero_le _, by show 0 ≤ _; exact Nat.zero_le _, isP_nil _ _, isP_nil _ _⟩
theorem vhK_L (k : Int) (A : Nat) : VoL A (.cons (vhK k) .nil .nil) := ⟨⟨Nat.zero_le _, Nat.zero_le _⟩, trivial, trivial⟩
theorem jpc5 : jpc (vhK 5) .nil = [([116, 114, 117, 101], 0)] := by decide +kernel
theorem jpc0 : jpc (vhK 0) .nil = [] := by decide +kernel
theorem right7 : rightH (vhK 7) .nil 60 = true := by decide +kernel
set_option maxRecDepth 100000 in
set_option maxHeartbeats 4000000 in
theorem alive9_any (w : World) (hT : Tabs w) : Calls Tryz.prog 17 #[] w fun e w' => e = .returned (.bool true) ∧ Below w.heap.size w w' := by
  have P5 : Hid (∀ W, Tabs W → Calls Tryz.prog 20 #[.agg #[.int .i64 5, .slice none 0 0, .bool false, .string ⟨#[]⟩, .string ⟨#[]⟩, .slice none 0 0, .int .i64 0, .int .i64 0, .slice none 0 0]] W fun e w' => ∃ u, e = .returned u ∧ OwnJ W.heap.size w' u [([116, 114, 117, 101], 0)] ∧ Below W.heap.size W w') :=
    Lib.hid fun W hW => by have := jpieces_any (vhK 5) .nil (.slice none 0 0) (.slice none 0 0) (.slice none 0 0) W hW (by decide) (vhK_L 5 700) (vhK_hd 5 W) (voP_nil _ _); rw [jpc5] at this; exact this
  have P0 : Hid (∀ W, Tabs W → Calls Tryz.prog 20 #[.agg #[.int .i64 0, .slice none 0 0, .bool false, .string ⟨#[]⟩, .string ⟨#[]⟩, .slice none 0 0, .int .i64 0, .int .i64 0, .slice none 0 0]] W fun e w' => ∃ u, e = .returned u ∧ OwnJ W.heap.size w' u [] ∧ Below W.heap.size W w') :=
    Lib.hid fun W hW => by have := jpieces_any (vhK 0) .nil (.slice none 0 0) (.slice none 0 0) (.slice none 0 0) W hW (by decide) (vhK_L 0 700) (vhK_hd 0 W) (voP_nil _ _); rw [jpc0] at this; exact this
  have R7 : Hid (∀ W, Calls Tryz.prog 32 #[.agg #[.int .i64 7, .slice none 0 0, .bool false, .string ⟨#[]⟩, .string ⟨#[]⟩, .slice none 0 0, .int .i64 0, .int .i64 0, .slice none 0 0]] W fun e w' => e = .returned (.bool true) ∧ Below W.heap.size W w') :=
    Lib.hid fun W => by have := jright_top (vhK 7) .nil (.slice none 0 0) (.slice none 0 0) (.slice none 0 0) W (by decide) (vhK_L 7 100000) (vhK_hd 7 W) (voP_nil _ _); rw [right7] at this; exact this
  have HT := Lib.hid hT
  clear hT
  go_enter Tryz.func17, Tryz.ntmps17
  go_wp2_with fail
  refine (P5.out w HT.out).mono ?_
  rintro e w1 ⟨u1, rfl, hu1, hb1⟩
  obtain ⟨a1, c1, rfl, -, -, hq1⟩ := OwnV.vs hu1
  obtain ⟨b, off, rfl, hbk, hcc⟩ := hq1 (by decide)
  have c0 : w1.cell? ⟨b, off, none⟩ = some (.string ⟨#[116, 114, 117, 101]⟩) := hcc 0 (by decide) 0 _ rfl
  have B1 := Lib.hid hb1
  have P01 := Lib.hid (P0.out w1 (HT.out.keep hb1))
  have HC := Lib.hid c0
  have HBK := Lib.hid hbk
  clear hu1 hcc hq1 hb1 c0 hbk
  go_wp2_with fail
  refine P01.out.mono ?_
  rintro e w2 ⟨u2, rfl, hu2, hb2⟩
  obtain ⟨a2, c2, rfl, -⟩ := OwnV.vs hu2
  have c0 := (hb2.cell (p := ⟨b, off, none⟩) HBK.out).trans HC.out
  have B2 := Lib.hid (B1.out.trans (hb2.mono B1.out.size))
  have R72 := Lib.hid (R7.out w2)
  clear hu2 hb2
  go_wp2_with fail
  refine R72.out.mono ?_
  rintro e w3 ⟨rfl, hb3⟩
  have B3 := Lib.hid (B2.out.trans (hb3.mono B2.out.size))
  clear hb3
  go_wp2
  go_ret
  exact ⟨rfl, B3.out⟩
end Go.Proofs.YtbfnlgmhfhaglaaGreatDoor
/- The walk of JminLeast; all texts of some pieces together. -/
namespace Go.Proofs.YtbfnlgmhfhaglaaGreatDoor
open Go.RowKit
set_option linter.unusedVariables false
set_option linter.unusedSimpArgs false

def jtx (P : List Jp) : List UInt8 := P.flatMap fun q => q.1
theorem jtx_len (P : List Jp) : (jtx P).length = jpN P := by
  induction P with
  | nil => rfl
  | cons a r ih => simp only [jtx, List.flatMap_cons, List.length_append] at ih ⊢; rw [ih]; simp [jpN]
theorem jtx_step (P : List Jp) (i : Nat) (h : i < P.length) : jtx (P.take (i + 1)) = jtx (P.take i) ++ (P[i]).1 := by
  unfold jtx
  rw [List.take_succ_eq_append_getElem h, List.flatMap_append]
  simp
theorem jtx_le (P : List Jp) (i : Nat) : (jtx (P.take i)).length ≤ (jtx P).length := by
  have e : jtx P = jtx (P.take i) ++ jtx (P.drop i) := by unfold jtx; rw [← List.flatMap_append, List.take_append_drop]
  rw [e, List.length_append]; omega
theorem pcs_getJ {w : World} {u : Value} {l : List Jp} (h : Vs 2 w u (l.map pcv)) {n : Nat} (hn : l.length = n) : ∃ a cap, u = .slice a n cap ∧ n ≤ cap ∧ cap ≤ maxLen ∧ ∀ j (hj : j < l.length), ∃ b off, a = some ⟨b, off, none⟩ ∧ b < w.heap.size ∧
    w.cell? ⟨b, off + j * 2, none⟩ = some (.string (bytes (l[j]).1)) ∧ w.cell? ⟨b, off + j * 2 + 1, none⟩ = some (.int .i64 (l[j]).2) := by
  obtain ⟨a, cap, rfl, h1, h2, h3⟩ := h
  rw [List.length_map] at h1 ⊢
  subst hn
  refine ⟨a, cap, rfl, h1, h2, fun j hj => ?_⟩
  obtain ⟨b, off, rfl, hb, hc⟩ := h3 (by rw [List.length_map]; omega)
  have hk := hc j (by simpa using hj)
  refine ⟨b, off, rfl, hb, ?_, ?_⟩
  · have := hk 0 (.string (bytes (l[j]).1)) (by simp [pcv]); rwa [Nat.add_zero] at this
  · have := hk 1 (.int .i64 (l[j]).2) (by simp [pcv]); rwa [← Nat.add_assoc] at this
set_option maxRecDepth 100000 in
set_option maxHeartbeats 4000000 in
theorem joined_any (P : List Jp) (u : Value) (w : World) (hu : Vs 2 w u (P.map pcv)) (hl : (jtx P).length ≤ 4000000) :
    Calls Tryz.prog 19 #[u] w fun e w' => e = .returned (.string (bytes (jtx P))) ∧ Below w.heap.size w w' := by
  obtain ⟨n, hn⟩ : ∃ n, P.length = n := ⟨_, rfl⟩
  obtain ⟨a, cap, rfl, h1, h2, h3⟩ := pcs_getJ hu hn
  have H3 := Lib.hid h3
  have HN := Lib.hid hn
  have HL := Lib.hid hl
  unfold maxLen at h2
  clear hu h3 hn hl
  go_enter Tryz.func19, Tryz.ntmps19
  go_wp2
  go_loopw [3, 4] (fun sv iv wr => ∃ i : Nat, sv = .string (bytes (jtx (P.take i))) ∧ iv = .int .i64 (i : Int) ∧ i ≤ n ∧ Below w.heap.size w wr) (fun _ iv _ => n - (intOf iv).toNat)
  case atStart => exact ⟨0, rfl, rfl, by omega, Below.refl _ _⟩
  case round =>
    obtain ⟨i, rfl, rfl, hi, hb⟩ := hrel
    have HB := Lib.hid hb
    clear hb
    by_cases hlt : i < n
    · have hil : i < P.length := by rw [HN.out]; exact hlt
      obtain ⟨b, off, rfl, hbk, p0, p1⟩ := H3.out i hil
      have q0 := (HB.out.cell (p := ⟨b, off + i * 2, none⟩) hbk).trans p0
      have hst := jtx_step P i hil
      have hs1 := jtx_le P (i + 1)
      have hs2 := HL.out
      obtain ⟨A, hA⟩ : ∃ A, jtx (P.take i) = A := ⟨_, rfl⟩
      obtain ⟨T, hT⟩ : ∃ A, (P[i]).1 = A := ⟨_, rfl⟩
      obtain ⟨Z, hZ⟩ : ∃ A, jtx (P.take (i + 1)) = A := ⟨_, rfl⟩
      rw [hT] at q0
      rw [hA, hT] at hst
      rw [hZ] at hst hs1
      have HZ := Lib.hid hZ
      subst hst
      rw [List.length_append] at hs1
      rw [hA]
      have a1 : ∀ W, (Op.stringOp .add (bytes A) (bytes T)).run Tryz.prog W = .ok (.string (bytes (A ++ T))) W := fun W => by rw [← bytes_app]; exact run_string_add_sum (P := Tryz.prog) (w := W) _ _ (by rw [bytes_size, bytes_size]; omega)
      have i0 : (0 : Int) ≤ i := by omega
      have i1 : (i : Int) < n := by omega
      obtain ⟨SA, hSA⟩ : ∃ x, bytes A = x := ⟨_, rfl⟩
      obtain ⟨ST, hST⟩ : ∃ x, bytes T = x := ⟨_, rfl⟩
      obtain ⟨SZ, hSZ⟩ : ∃ x, bytes (A ++ T) = x := ⟨_, rfl⟩
      rw [hSA, hST, hSZ] at a1
      rw [hST] at q0
      rw [hSA]
      have HSZ := Lib.hid hSZ
      clear p0 p1 hil hA hT hZ hs1 hs2 hSA hST hSZ
      go_wp2
      go_roundw
      case rel => exact ⟨i + 1, by rw [HZ.out, HSZ.out], by go_num, by omega, HB.out⟩
      case measure => simp [intOf]; omega
    · obtain rfl : i = n := by omega
      have t1 : decide ((i : Int) < i) = false := by simp
      have e : P.take i = P := by rw [List.take_of_length_le (by rw [HN.out]; exact Nat.le_refl _)]
      rw [e]
      clear hlt e
      go_wp2
      go_ret
      exact ⟨rfl, HB.out⟩
set_option maxRecDepth 100000 in
set_option maxHeartbeats 8000000 in
theorem jmleast_walk (a0 : Option Addr) (len0 cap0 : Nat) (l : List UInt8) (w : World) (hl : l.length = len0) (b0 : Bs w (.slice a0 len0 cap0) l) (n0 : ∀ n c, Value.slice a0 len0 cap0 = .slice none n c → c = 0) (hT : TabX w) :
    Calls Tryz.prog 8 #[.slice a0 len0 cap0] w fun e w' => e = .returned (.bool true) ∧ Below w.heap.size w w' := by
  have AL := Lib.hid (alive9_any w hT.tab)
  have HT := Lib.hid hT
  have B0 := Lib.hid b0
  have RP := Lib.hid (fun (W : World) (hW : Below w.heap.size w W) => refjparse_any (.slice a0 len0 cap0) l 60 W (HT.out.keep hW) (B0.out.keep hW))
  obtain ⟨R, hR⟩ : ∃ R, parseV l 60 = R := ⟨_, rfl⟩
  rw [hR] at RP
  have HL := Lib.hid hl
  clear hT b0 n0 hl
  cases R with
  | error x =>
    have hx := parV_err hR
    obtain ⟨xe, xa⟩ := x
    simp only at hx
    have t6 : (xe != 0) = true := by simpa using hx
    unfold ParQ at RP
    dsimp only at RP
    clear hR hx B0
    go_enter Tryz.func8, Tryz.ntmps8
    go_wp2_with fail
    refine AL.out.mono ?_
    rintro e w1 ⟨rfl, hb1⟩
    go_wp2_with fail
    refine (RP.out w1 hb1).mono ?_
    rintro e w2 ⟨rfl, hb2⟩
    obtain ⟨p2, hp2⟩ : ∃ x, w2.heap.size + 1 = x := ⟨_, rfl⟩
    obtain ⟨k1, k2, k3, k4, bb⟩ := two_laid w2 zvl.toArray (.int .i64 xe) (.int .i64 xa) p2 hp2
    have B3 := (hb1.trans (hb2.mono hb1.size)).trans (bb.mono (hb1.trans (hb2.mono hb1.size)).size)
    obtain ⟨W4, hW4⟩ : ∃ x, (((w2.alloc (.cells zv 27)).alloc (.cells #[.int .i64 0, .int .i64 0] 34)).setRow w2.heap.size zvl.toArray).setRow p2 #[.int .i64 xe, .int .i64 xa] = x := ⟨_, rfl⟩
    rw [hW4] at k3 k4 B3
    have HW4 := Lib.hid (show (((w2.alloc (.cells #[.int .i64 0, .slice none 0 0, .bool false, .string ⟨#[]⟩, .string ⟨#[]⟩, .slice none 0 0, .int .i64 0, .int .i64 0, .slice none 0 0] 27)).alloc (.cells #[.int .i64 0, .int .i64 0] 34)).setRow w2.heap.size (vv ⟨0, [], false, [], [], 0, 0, []⟩ nilV nilV nilV)).setRow p2 #[.int .i64 xe, .int .i64 xa] = W4 from hW4)
    clear hW4 bb hb1 hb2
    go_upto_region 3 with (first | (refine wpl_stV rfl _ _ rfl w2.heap.size zv ⟨0, [], false, [], [], 0, 0, []⟩ nilV nilV nilV rfl rfl k1 rfl rfl rfl rfl ?_) | (refine wpl_stK infoF1 rfl _ _ rfl p2 _ #[.int .i64 xe, .int .i64 xa] rfl rfl k2 rfl rfl (by simp [Value.oneCell']) ?_))
    rw [HW4.out]
    have e0 : W4.cell? ⟨p2, 0, none⟩ = some (.int .i64 xe) := k4.cell 0
    by_cases h6 : 600 < len0
    · have t5 : decide ((600 : Int) < (len0 : Int)) = true := by simp; omega
      go_wp2
      go_ret
      exact ⟨rfl, B3⟩
    · have t5 : decide ((600 : Int) < (len0 : Int)) = false := by simp; omega
      go_wp2
      go_ret
      exact ⟨rfl, B3⟩
  | ok q =>
    obtain ⟨h, kids⟩ := q
    unfold ParQ at RP
    dsimp only at RP
    by_cases h6 : 600 < len0
    · have t5 : decide ((600 : Int) < (len0 : Int)) = true := by simp; omega
      clear hR B0
      go_enter Tryz.func8, Tryz.ntmps8
      go_wp2_with fail
      refine AL.out.mono ?_
      rintro e w1 ⟨rfl, hb1⟩
      go_wp2_with fail
      refine (RP.out w1 hb1).mono ?_
      rintro e w2 ⟨tv, v, mv, rfl, hd, hv, hb2⟩
      obtain ⟨p2, hp2⟩ : ∃ x, w2.heap.size + 1 = x := ⟨_, rfl⟩
      obtain ⟨k1, k2, k3, k4, bb⟩ := two_laid w2 (vv h tv v mv) (.int .i64 0) (.int .i64 0) p2 hp2
      have B3 := Lib.hid ((hb1.trans (hb2.mono hb1.size)).trans (bb.mono (hb1.trans (hb2.mono hb1.size)).size))
      have t1 := hd.t.one
      have t2 := hv.one
      have t3 := hd.m.one
      have hdS := (hd.mono (Q := fun b => b < w2.heap.size) (fun b hb => hb.2) : HdS w2 h tv mv).below bb
      have hvS := (hv.mono (Q := fun b => b < w2.heap.size) (fun b hb => hb.2) : VoS w2 v kids).below bb
      obtain ⟨W4, hW4⟩ : ∃ x, (((w2.alloc (.cells zv 27)).alloc (.cells #[.int .i64 0, .int .i64 0] 34)).setRow w2.heap.size (vv h tv v mv)).setRow p2 #[.int .i64 0, .int .i64 0] = x := ⟨_, rfl⟩
      rw [hW4] at k3 k4 B3 hdS hvS
      have HW4 := Lib.hid (show (((w2.alloc (.cells #[.int .i64 0, .slice none 0 0, .bool false, .string ⟨#[]⟩, .string ⟨#[]⟩, .slice none 0 0, .int .i64 0, .int .i64 0, .slice none 0 0] 27)).alloc (.cells #[.int .i64 0, .int .i64 0] 34)).setRow w2.heap.size (vv h tv v mv)).setRow p2 #[.int .i64 0, .int .i64 0] = W4 from hW4)
      have hdS := Lib.hid hdS
      have hvS := Lib.hid hvS
      clear hW4 bb hb1 hb2 hd hv
      go_upto_region 3 with (first | (refine wpl_stV rfl _ _ rfl w2.heap.size zv h tv v mv rfl rfl k1 rfl t1 t2 t3 ?_) | (refine wpl_stK infoF1 rfl _ _ rfl p2 _ #[.int .i64 0, .int .i64 0] rfl rfl k2 rfl rfl (by simp [Value.oneCell']) ?_))
      rw [HW4.out]
      have e0 : W4.cell? ⟨p2, 0, none⟩ = some (.int .i64 0) := k4.cell 0
      have VB4 : VB W4 w2.heap.size h tv v mv := k3
      go_wp2
      go_ret
      exact ⟨rfl, B3.out⟩
    · have t5 : decide ((600 : Int) < (len0 : Int)) = false := by simp; omega
      obtain ⟨ts, hs, hp, -⟩ := parV_ok hR
      have hz := par_sz (by have := HL.out; omega) hs hp
      have hq := par_least (by have := HL.out; omega) hs hp
      have JP := Lib.hid (fun (W : World) (tv v mv : Value) (hW : Tabs W) (a : HdS W h tv mv) (b : VoS W v kids) => jpieces_any h kids tv v mv W hW (by omega) hz.2 a b)
      obtain ⟨P, hP⟩ : ∃ P, jpc h kids = P := ⟨_, rfl⟩
      rw [hP] at JP hq
      rw [← jtx_len] at hq
      have JO := Lib.hid (fun (W : World) (u : Value) (a : Vs 2 W u (P.map pcv)) => joined_any P u W a (by have := HL.out; omega))
      obtain ⟨S, hS⟩ : ∃ S, bytes (jtx P) = S := ⟨_, rfl⟩
      have hsz := bytes_size (jtx P)
      rw [hS] at hsz JO
      rw [← hsz] at hq
      obtain ⟨N, hN⟩ : ∃ N, S.size = N := ⟨_, rfl⟩
      rw [hN, HL.out] at hq
      clear hR hs hp hz hP hS hsz B0
      go_enter Tryz.func8, Tryz.ntmps8
      go_wp2_with fail
      refine AL.out.mono ?_
      rintro e w1 ⟨rfl, hb1⟩
      go_wp2_with fail
      refine (RP.out w1 hb1).mono ?_
      rintro e w2 ⟨tv, v, mv, rfl, hd, hv, hb2⟩
      obtain ⟨p2, hp2⟩ : ∃ x, w2.heap.size + 1 = x := ⟨_, rfl⟩
      obtain ⟨k1, k2, k3, k4, bb⟩ := two_laid w2 (vv h tv v mv) (.int .i64 0) (.int .i64 0) p2 hp2
      have B3 := Lib.hid ((hb1.trans (hb2.mono hb1.size)).trans (bb.mono (hb1.trans (hb2.mono hb1.size)).size))
      have t1 := hd.t.one
      have t2 := hv.one
      have t3 := hd.m.one
      have hdS := (hd.mono (Q := fun b => b < w2.heap.size) (fun b hb => hb.2) : HdS w2 h tv mv).below bb
      have hvS := (hv.mono (Q := fun b => b < w2.heap.size) (fun b hb => hb.2) : VoS w2 v kids).below bb
      obtain ⟨W4, hW4⟩ : ∃ x, (((w2.alloc (.cells zv 27)).alloc (.cells #[.int .i64 0, .int .i64 0] 34)).setRow w2.heap.size (vv h tv v mv)).setRow p2 #[.int .i64 0, .int .i64 0] = x := ⟨_, rfl⟩
      rw [hW4] at k3 k4 B3 hdS hvS
      have HW4 := Lib.hid (show (((w2.alloc (.cells #[.int .i64 0, .slice none 0 0, .bool false, .string ⟨#[]⟩, .string ⟨#[]⟩, .slice none 0 0, .int .i64 0, .int .i64 0, .slice none 0 0] 27)).alloc (.cells #[.int .i64 0, .int .i64 0] 34)).setRow w2.heap.size (vv h tv v mv)).setRow p2 #[.int .i64 0, .int .i64 0] = W4 from hW4)
      have hdS := Lib.hid hdS
      have hvS := Lib.hid hvS
      clear hW4 bb hb1 hb2 hd hv
      go_upto_region 3 with (first | (refine wpl_stV rfl _ _ rfl w2.heap.size zv h tv v mv rfl rfl k1 rfl t1 t2 t3 ?_) | (refine wpl_stK infoF1 rfl _ _ rfl p2 _ #[.int .i64 0, .int .i64 0] rfl rfl k2 rfl rfl (by simp [Value.oneCell']) ?_))
      rw [HW4.out]
      have e0 : W4.cell? ⟨p2, 0, none⟩ = some (.int .i64 0) := k4.cell 0
      have VB4 : VB W4 w2.heap.size h tv v mv := k3
      have JP2 := Lib.hid (JP.out W4 tv v mv (HT.out.keep B3.out).tab hdS.out hvS.out)
      go_wp2_with (first | (refine wpl_ldV rfl _ rfl w2.heap.size 0 h tv v mv rfl (VB.range VB4) ?_) | fail)
      refine JP2.out.mono ?_
      rintro e w5 ⟨u, rfl, hu, hb5⟩
      have B5 := Lib.hid (B3.out.trans (hb5.mono B3.out.size))
      have JO2 := Lib.hid (JO.out w5 u (OwnV.vs hu))
      clear hu hb5
      go_wp2_with fail
      refine JO2.out.mono ?_
      rintro e w6 ⟨rfl, hb6⟩
      have B6 := Lib.hid (B5.out.trans (hb6.mono B5.out.size))
      clear hb6
      have q1 : (1 : Int) ≤ N := by omega
      have q2 : (N : Int) ≤ len0 := by omega
      go_wp2
      go_ret
      exact ⟨rfl, B6.out⟩
end Go.Proofs.YtbfnlgmhfhaglaaGreatDoor
/- Slices of bytes and of ints that came in, as the frame reads them. -/
namespace Go.Proofs.YtbfnlgmhfhaglaaGreatDoor
open Go.RowKit Go.ChangeShapes Go.WideShapes Go.ChangeAt
set_option linter.unusedVariables false

theorem open_bytes {H : Type} {enc : TypeId × Value → H} {W : World} {a : Option Addr} {len cap : Nat} {d : DataW H} {p : List MemPlace}
    (h : DataW.Trod enc Tryz.prog W 0 (fun _ => true) true 37 (.slice a len cap) d p) : ∃ l : List UInt8, l.length = len ∧ Bs W (.slice a len cap) l ∧ ∀ n c, Value.slice a len cap = .slice none n c → c = 0 := by
  obtain ⟨fuel, hf⟩ := h
  have : ∃ zs, (a = none ∧ len = 0 ∧ cap = 0 ∧ zs = []) ∨ ∃ x, a = some x ∧ len ≤ cap ∧ cap ≤ maxLen ∧ zs.length = cap ∧ (∀ i, i < zs.length → W.cell? (x.add i) = some (.int .u8 (zs.getD i 0))) ∧ ∀ n ∈ zs, (Lit.int .u8 n).wf = true := by
    rcases open_ints Tryz.underlying37 Tryz.underlying5 (by kernel_rfl) hf with ⟨hcs, _⟩ | ⟨x, l, c, zs, hcs, _, hl, hm, hz, _, hcell, hwz⟩
    · simp [Value.cells] at hcs
      obtain ⟨rfl, rfl, rfl⟩ := hcs
      exact ⟨[], .inl ⟨rfl, rfl, rfl, rfl⟩⟩
    · simp [Value.cells] at hcs
      obtain ⟨rfl, rfl, rfl⟩ := hcs
      exact ⟨zs, .inr ⟨_, rfl, hl, hm, by simpa using hz, hcell, hwz⟩⟩
  obtain ⟨zs, hz⟩ := this
  exact row_bs hz
end Go.Proofs.YtbfnlgmhfhaglaaGreatDoor
