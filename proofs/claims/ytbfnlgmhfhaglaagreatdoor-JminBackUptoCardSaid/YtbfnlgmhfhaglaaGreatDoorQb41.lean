import Derived.Test.YtbfnlgmhfhaglaaGreatDoorQb20
import Derived.Test.YtbfnlgmhfhaglaaGreatDoorQb40
import Derived.Test.YtbfnlgmhfhaglaaGreatDoorQb25
import Derived.Test.YtbfnlgmhfhaglaaGreatDoorQb22
import Derived.Test.YtbfnlgmhfhaglaaGreatDoorQb23
import Derived.Test.YtbfnlgmhfhaglaaGreatDoorQb33
import Derived.Test.YtbfnlgmhfhaglaaGreatDoorQb26
set_option maxHeartbeats 4000000
set_option maxRecDepth 100000
namespace Go.Proofs.YtbfnlgmhfhaglaaGreatDoor
open Go.RowKit
set_option linter.unusedVariables false
set_option linter.unusedSimpArgs false
def vhK (k : Int) : Vh := ⟨k, [], false, [], [], 0, 0, []⟩
theorem vhK_hd (k : Int) (w : World) : HdS w (vhK k) (.slice none 0 0) (.slice none 0 0) := ⟨by show 0 <= _; exact Nat.zero_le _, by show 0 <= _; exact Nat.zero_le _, isP_nil _ _, isP_nil _ _⟩
theorem vhK_L (k : Int) (A : Nat) : VoL A (.cons (vhK k) .nil .nil) := ⟨⟨Nat.zero_le _, Nat.zero_le _⟩, trivial, trivial⟩
theorem jpc5 : jpc (vhK 5) .nil = [([116, 114, 117, 101], 0)] := by decide +kernel
theorem jpc0 : jpc (vhK 0) .nil = [] := by decide +kernel
theorem right7 : rightH (vhK 7) .nil 60 = true := by decide +kernel
theorem alive9_any (w : World) (hT : Tabs w) : Calls Tryz.prog 17 #[] w fun e w' => e = .returned (.bool true) /\ Below w.heap.size w w' := by
 have P5 : Hid (∀ W, Tabs W -> Calls Tryz.prog 20 #[.agg #[.int .i64 5, .slice none 0 0, .bool false, .string ⟨#[]⟩, .string ⟨#[]⟩, .slice none 0 0, .int .i64 0, .int .i64 0, .slice none 0 0]] W fun e w' => ∃ u, e = .returned u /\ OwnJ W.heap.size w' u [([116, 114, 117, 101], 0)] /\ Below W.heap.size W w') :=
  LH fun W hW => by have := jpieces_any (vhK 5) .nil (.slice none 0 0) (.slice none 0 0) (.slice none 0 0) W hW (by decide) (vhK_L 5 700) (vhK_hd 5 W) (voP_nil _ _); rw [jpc5] at this; exact this
 have P0 : Hid (∀ W, Tabs W -> Calls Tryz.prog 20 #[.agg #[.int .i64 0, .slice none 0 0, .bool false, .string ⟨#[]⟩, .string ⟨#[]⟩, .slice none 0 0, .int .i64 0, .int .i64 0, .slice none 0 0]] W fun e w' => ∃ u, e = .returned u /\ OwnJ W.heap.size w' u [] /\ Below W.heap.size W w') :=
  LH fun W hW => by have := jpieces_any (vhK 0) .nil (.slice none 0 0) (.slice none 0 0) (.slice none 0 0) W hW (by decide) (vhK_L 0 700) (vhK_hd 0 W) (voP_nil _ _); rw [jpc0] at this; exact this
 have R7 : Hid (∀ W, Calls Tryz.prog 32 #[.agg #[.int .i64 7, .slice none 0 0, .bool false, .string ⟨#[]⟩, .string ⟨#[]⟩, .slice none 0 0, .int .i64 0, .int .i64 0, .slice none 0 0]] W fun e w' => e = .returned (.bool true) /\ Below W.heap.size W w') :=
  LH fun W => by have := jright_top (vhK 7) .nil (.slice none 0 0) (.slice none 0 0) (.slice none 0 0) W (by decide) (vhK_L 7 100000) (vhK_hd 7 W) (voP_nil _ _); rw [right7] at this; exact this
 have HT := LH hT
 clear hT
 go_enter Tryz.func17, Tryz.ntmps17
 go_wp2_with fail
 refine (P5.out w HT.out).mono ?_
 rintro e w1 ⟨u1, rfl, hu1, hb1⟩
 obtain ⟨a1, c1, rfl, -, -, hq1⟩ := OwnV.vs hu1
 obtain ⟨b, off, rfl, hbk, hcc⟩ := hq1 (by decide)
 have c0 : w1.cell? ⟨b, off, none⟩ = some (.string ⟨#[116, 114, 117, 101]⟩) := hcc 0 (by decide) 0 _ rfl
 have B1 := LH hb1
 have P01 := LH (P0.out w1 (HT.out.keep hb1))
 have HC := LH c0
 have HBK := LH hbk
 clear hu1 hcc hq1 hb1 c0 hbk
 go_wp2_with fail
 refine P01.out.mono ?_
 rintro e w2 ⟨u2, rfl, hu2, hb2⟩
 obtain ⟨a2, c2, rfl, -⟩ := OwnV.vs hu2
 have c0 := (hb2.cell (p := ⟨b, off, none⟩) HBK.out).trans HC.out
 have B2 := LH (B1.out.trans (hb2.mono B1.out.size))
 have R72 := LH (R7.out w2)
 clear hu2 hb2
 go_wp2_with fail
 refine R72.out.mono ?_
 rintro e w3 ⟨rfl, hb3⟩
 have B3 := LH (B2.out.trans (hb3.mono B2.out.size))
 clear hb3
 go_wp2
 go_ret
 exact ⟨rfl, B3.out⟩
def jtx (P : List Jp) : List UInt8 := P.flatMap fun q => q.1
theorem jtx_step (P : List Jp) (i : Nat) (h : i < P.length) : jtx (P.take (i + 1)) = jtx (P.take i) ++ (P[i]).1 := by
 unfold jtx
 rw [List.take_succ_eq_append_getElem h, List.flatMap_append]
 simp
theorem jtx_le (P : List Jp) (i : Nat) : (jtx (P.take i)).length <= (jtx P).length := by
 have e : jtx P = jtx (P.take i) ++ jtx (P.drop i) := by unfold jtx; rw [<- List.flatMap_append, List.take_append_drop]
 rw [e, List.length_append]; omega
theorem pcs_getJ {w : World} {u : Value} {l : List Jp} (h : Vs 2 w u (l.map pcv)) {n : Nat} (hn : l.length = n) : ∃ a cap, u = .slice a n cap /\ n <= cap /\ cap <= maxLen /\ ∀ j (hj : j < l.length), ∃ b off, a = some ⟨b, off, none⟩ /\ b < w.heap.size /\
  w.cell? ⟨b, off + j * 2, none⟩ = some (.string (bytes (l[j]).1)) /\ w.cell? ⟨b, off + j * 2 + 1, none⟩ = some (.int .i64 (l[j]).2) := by
 obtain ⟨a, cap, rfl, h1, h2, h3⟩ := h
 rw [List.length_map] at h1 ⊢
 subst hn
 refine ⟨a, cap, rfl, h1, h2, fun j hj => ?_⟩
 obtain ⟨b, off, rfl, hb, hc⟩ := h3 (by rw [List.length_map]; omega)
 have hk := hc j (by simpa using hj)
 refine ⟨b, off, rfl, hb, ?_, ?_⟩
 ·have := hk 0 (.string (bytes (l[j]).1)) (by simp [pcv]); rwa [Nat.add_zero] at this
 ·have := hk 1 (.int .i64 (l[j]).2) (by simp [pcv]); rwa [<- Nat.add_assoc] at this
theorem joined_any (P : List Jp) (u : Value) (w : World) (hu : Vs 2 w u (P.map pcv)) (hl : (jtx P).length <= 4000000) :
  Calls Tryz.prog 19 #[u] w fun e w' => e = .returned (.string (bytes (jtx P))) /\ Below w.heap.size w w' := by
 obtain ⟨n, hn⟩ : ∃ n, P.length = n := ⟨_, rfl⟩
 obtain ⟨a, cap, rfl, h1, h2, h3⟩ := pcs_getJ hu hn
 have H3 := LH h3
 have HN := LH hn
 have HL := LH hl
 unfold maxLen at h2
 clear hu h3 hn hl
 go_enter Tryz.func19, Tryz.ntmps19
 go_wp2
 go_loopw [3, 4] (fun sv iv wr => ∃ i : Nat, sv = .string (bytes (jtx (P.take i))) /\ iv = .int .i64 (i : Int) /\ i <= n /\ Below w.heap.size w wr) (fun _ iv _ => n - (intOf iv).toNat)
 case atStart => exact ⟨0, rfl, rfl, by omega, Below.refl _ _⟩
 case round =>
  obtain ⟨i, rfl, rfl, hi, hb⟩ := hrel
  have HB := LH hb
  clear hb
  by_cases hlt : i < n
  ·have hil : i < P.length := by rw [HN.out]; exact hlt
   obtain ⟨b, off, rfl, hbk, p0, p1⟩ := H3.out i hil
   have q0 := (HB.out.cell (p := ⟨b, off + i * 2, none⟩) hbk).trans p0
   have hst := jtx_step P i hil
   have hs1 := jtx_le P (i + 1)
   have hs2 := HL.out
   obtain ⟨A, hA⟩ : ∃ A, jtx (P.take i) = A := ⟨_, rfl⟩
   obtain ⟨T, hT⟩ : ∃ A, (P[i]).1 = A := ⟨_, rfl⟩
   obtain ⟨Z, hZ⟩ : ∃ A, jtx (P.take (i + 1)) = A := ⟨_, rfl⟩
   rw [hT] at q0
   rw [hA, hT] at hst
   rw [hZ] at hst hs1
   have HZ := LH hZ
   subst hst
   rw [List.length_append] at hs1
   rw [hA]
   have a1 : ∀ W, (Op.stringOp .add (bytes A) (bytes T)).run Tryz.prog W = .ok (.string (bytes (A ++ T))) W := fun W => by rw [<- bytes_app]; exact run_string_add_sum (P := Tryz.prog) (w := W) _ _ (by rw [bytes_size, bytes_size]; omega)
   have i0 : (0 : Int) <= i := by omega
   have i1 : (i : Int) < n := by omega
   obtain ⟨SA, hSA⟩ : ∃ x, bytes A = x := ⟨_, rfl⟩
   obtain ⟨ST, hST⟩ : ∃ x, bytes T = x := ⟨_, rfl⟩
   obtain ⟨SZ, hSZ⟩ : ∃ x, bytes (A ++ T) = x := ⟨_, rfl⟩
   rw [hSA, hST, hSZ] at a1
   rw [hST] at q0
   rw [hSA]
   have HSZ := LH hSZ
   clear p0 p1 hil hA hT hZ hs1 hs2 hSA hST hSZ
   go_wp2
   go_roundw
   case rel => exact ⟨i + 1, by rw [HZ.out, HSZ.out], by go_num, by omega, HB.out⟩
   case measure => simp [intOf]; omega
  ·obtain rfl : i = n := by omega
   have t1 : decide ((i : Int) < i) = false := by simp
   have e : P.take i = P := by rw [List.take_of_length_le (by rw [HN.out]; exact Nat.le_refl _)]
   rw [e]
   clear hlt e
   go_wp2
   go_ret
   exact ⟨rfl, HB.out⟩
end Go.Proofs.YtbfnlgmhfhaglaaGreatDoor
namespace Go.Proofs.YtbfnlgmhfhaglaaGreatDoor
set_option linter.unusedVariables false
set_option linter.unusedSimpArgs false
theorem short_le (l : List (List UInt8)) : ∀ x ∈ l, (M.shortN l).length <= x.length := by
 cases l with
 | nil => intro x hx; simp at hx
 | cons a t => exact (M.fold_short t a).2
theorem sgl_len (ng : Bool) : (M.sgl ng).length <= 1 := by cases ng <;> simp [M.sgl]
theorem num_short (ng : Bool) (D E : List UInt8) : (M.shortN (M.plainN ng D E)).length <= 3 + D.length + E.length := by
 have h1 := sgl_len ng
 unfold M.plainN
 split
 ·split
  ·have := short_le [M.sgl ng ++ [48]] (M.sgl ng ++ [48]) (by simp)
   rw [List.length_append, List.length_singleton] at this
   omega
  ·have := short_le (M.plain1 ng D E ++ ([M.sgl ng ++ (D ++ 101 :: E)] ++ M.plain3 ng D E)) (M.sgl ng ++ (D ++ 101 :: E)) (by simp)
   simp only [List.length_append, List.length_cons] at this ⊢
   omega
 ·simp [M.shortN]
theorem sgl_short (h : Vh) (hd : h.dg.length <= 100 /\ h.ex.length <= 100) : (sglB h).length <= 210 * (1 + h.tx.length) := by
 unfold sglB
 split
 ·have := M.body_len (h.tx.map Int.toNat)
  rw [List.length_map] at this
  simp only [M.spell, List.length_cons, List.length_append, List.length_nil]
  omega
 ·split
  ·have := num_short h.ng h.dg h.ex; omega
  ·repeat' split
   all_goals simp
   all_goals omega
theorem pcs_short (L : Vo) : ∀ k ms i, VoL 100 L -> (jtx (pcsL k ms L i)).length <= 215 * VoC L := by
 induction L with
 | nil => intro k ms i _; simp [pcsL, jtx]
 | cons h kids rest ih1 ih2 =>
  intro k ms i hL
  obtain ⟨hd, hk, hr⟩ := hL
  have e1 := ih1 h.k h.ms 0 hk
  have e2 := ih2 k ms (i + 1) hr
  have e3 := sgl_short h hd
  have e4 : (jtx (if 0 < i then [(mkB k i, ms.getD (i - 1) 0)] else [])).length <= 1 := by
   split
   ·simp only [jtx, List.flatMap_cons, List.flatMap_nil, List.append_nil]
    unfold mkB; split <;> simp
   ·simp [jtx]
  have e5 : (jtx (pcsV h kids)).length <= 2 + 210 * (1 + h.tx.length) + 215 * VoC kids := by
   unfold pcsV
   split
   ·have o1 : (opB h.k).length = 1 := by unfold opB; split <;> rfl
    have o2 : (clB h.k).length = 1 := by unfold clB; split <;> rfl
    simp only [jtx, List.flatMap_cons, List.flatMap_append, List.flatMap_nil, List.append_nil, List.length_append] at e1 ⊢
    omega
   ·simp only [jtx, List.flatMap_cons, List.flatMap_nil, List.append_nil]
    omega
  rw [pcsL_cons]
  have ea : ∀ a b : List Jp, jtx (a ++ b) = jtx a ++ jtx b := fun a b => by simp [jtx]
  rw [ea, ea, List.length_append, List.length_append]
  simp only [VoC]
  omega
theorem back_short (h : Vh) (kids : Vo) (hL : VoL 100 (.cons h kids .nil)) : (jtx (pcsV h kids)).length <= 215 * VoC (.cons h kids .nil) := by
 have := pcs_short (.cons h kids .nil) 2 [] 0 hL
 rw [pcsL_cons, if_neg (by omega), List.nil_append] at this
 simpa [pcsL] using this
theorem right_ms {h : Vh} {kids : Vo} {d : Nat} (hr : rightH h kids d = true) : h.ms.length <= kids.len := by
 unfold rightH headB at hr
 by_cases hk : h.k = 1 \/ h.k = 2
 ·rw [if_pos hk] at hr
  simp only [Bool.and_eq_true, marksB, decide_eq_true_eq] at hr
  have := hr.2.2.1.1.1.2
  omega
 ·rw [if_neg hk] at hr
  have nl : nlist h kids.len = true -> h.ms.length <= kids.len := fun q => by
   unfold nlist at q
   simp only [Bool.and_eq_true, decide_eq_true_eq] at q
   omega
  split at hr
  ·simp only [Bool.and_eq_true] at hr
   exact nl hr.2.1.2
  ·split at hr
   ·simp only [Bool.and_eq_true] at hr
    exact nl hr.2.1.2
   ·split at hr
    ·simp only [Bool.and_eq_true] at hr
     exact nl hr.2.2
    ·simp at hr
theorem right_kids {h : Vh} {kids : Vo} {d : Nat} (hr : rightH h kids d = true) : ∃ d', rightVo kids d' = true := by
 by_cases hk : h.k = 1 \/ h.k = 2
 ·exact ⟨_, (right_list hr hk).2.2.2.1⟩
 ·obtain rfl := len_nil (right_leaf hr hk).1
  exact ⟨0, rfl⟩
theorem same_few (L' : Vo) : ∀ (L : Vo) (d : Nat), sameVo L' L = true -> rightVo L' d = true -> VoC L' + L'.len <= 2 * VoC L := by
 induction L' with
 | nil => intro L d _ _; simp [VoC, Vo.len]
 | cons h' k' r' ih1 ih2 =>
  intro L d hs hr
  cases L with
  | nil => simp [sameVo] at hs
  | cons h k r =>
   simp only [sameVo, Bool.and_eq_true] at hs
   obtain ⟨⟨hs1, hs2⟩, hs3⟩ := hs
   rw [rightVo_cons, Bool.and_eq_true] at hr
   have e1 := right_ms hr.1
   obtain ⟨d', hd'⟩ := right_kids hr.1
   have e2 := ih1 k d' hs2 hd'
   have e3 := ih2 r d hs3 hr.2
   have e4 : h'.tx = h.tx := by
    unfold sameHd at hs1
    simp only [Bool.and_eq_true, decide_eq_true_eq] at hs1
    exact hs1.1.1.2
   simp only [VoC, Vo.len]
   rw [e4]
   omega
theorem back_walk (h : Vh) (kids : Vo) (hr : rightH h kids 60 = true) (hl : (jtx (pcsV h kids)).length <= 20000) :
  ∃ ts h' kids', M.splitV (jtx (pcsV h kids)) = (ts, 0, 0) /\ (ts.map fun t => t.2.2 - t.2.1).sum = (jtx (pcsV h kids)).length /\ parseV (jtx (pcsV h kids)) 60 = .ok (h', kids') /\ sameH h' kids' h kids = true /\ 1 + h'.tx.length + h'.ms.length + VoC kids' <= 2 * VoC (.cons h kids .nil) := by
 obtain ⟨ts, h', kids', e1, e2, e3, e4⟩ := back_all h kids hr hl
 refine ⟨ts, h', kids', e1, e2, ?_, e4, ?_⟩
 ·show parseV ((pcsV h kids).flatMap fun q => q.1) 60 = _
  unfold parseV
  rw [e1, if_pos rfl]
  exact e3
 ·have hv := (val_right _ _).1 60 _ _ _ _ (par_ok e3)
  have := same_few (.cons h' kids' .nil) (.cons h kids .nil) 60 (by simp only [sameVo, Bool.and_true]; exact e4) (by rw [rightVo_cons, hv]; rfl)
  simp only [VoC, Vo.len] at this ⊢
  omega
end Go.Proofs.YtbfnlgmhfhaglaaGreatDoor
