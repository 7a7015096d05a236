/- Texts between marks, as the program's quote and cname write them. -/
import Derived.Test.YtkaojigdogeliaaDoorESpell3
import Derived.Test.YtkaojigdogeliaaDoorUAppS
import Derived.Laws.OwnMore
namespace Go.Proofs.YtkaojigdogeliaaDoor
open Go.RowKit
set_option linter.unusedVariables false
set_option linter.unusedSimpArgs false

set_option maxRecDepth 100000 in
set_option maxHeartbeats 1000000 in
theorem joins_any (r : Int) (b : Bool) (w : World) (h : M.jn r = b) : Calls Tryd.prog 57 #[.int .i64 r] w fun e w' => e = .returned (.bool b) ∧ w = w' := by
  cases hx : M.isX r with
  | true =>
    have X1 := Lib.hid (isx_any r true w hx)
    have hb : b = true := by rw [← h]; simp [M.jn, hx]
    subst hb
    clear h hx
    go_enter Tryd.func57, Tryd.ntmps57
    go_wp2_with fail
    refine (X1.out).mono ?_
    rintro e w' ⟨rfl, rfl⟩
    go_wp2
    go_ret
    exact ⟨rfl, rfl⟩
  | false =>
    have X1 := Lib.hid (isx_any r false w hx)
    cases hd : M.isBl r with
    | true =>
      have X2 := Lib.hid (isbl_any r true w hd)
      have hb : b = true := by rw [← h]; simp [M.jn, hd]
      subst hb
      clear h hx hd
      go_enter Tryd.func57, Tryd.ntmps57
      go_wp2_with fail
      refine (X1.out).mono ?_
      rintro e w' ⟨rfl, rfl⟩
      go_wp2_with fail
      refine (X2.out).mono ?_
      rintro e w' ⟨rfl, rfl⟩
      go_wp2
      go_ret
      exact ⟨rfl, rfl⟩
    | false =>
      have X2 := Lib.hid (isbl_any r false w hd)
      have hb : b = (decide (r = 12) || decide (r = 13)) := by rw [← h]; simp [M.jn, hx, hd]
      have hway : (r = 12) ∨ (r = 13) ∨ (r ≠ 12 ∧ r ≠ 13) := by omega
      rcases hway with rfl | rfl | ⟨h1, h2⟩
      · obtain rfl : b = true := by rw [hb]; decide
        clear h hx hd hb
        go_enter Tryd.func57, Tryd.ntmps57
        go_wp2_with fail
        refine (X1.out).mono ?_
        rintro e w' ⟨rfl, rfl⟩
        go_wp2_with fail
        refine (X2.out).mono ?_
        rintro e w' ⟨rfl, rfl⟩
        go_wp2
        go_ret
        exact ⟨rfl, rfl⟩
      · obtain rfl : b = true := by rw [hb]; decide
        clear h hx hd hb
        go_enter Tryd.func57, Tryd.ntmps57
        go_wp2_with fail
        refine (X1.out).mono ?_
        rintro e w' ⟨rfl, rfl⟩
        go_wp2_with fail
        refine (X2.out).mono ?_
        rintro e w' ⟨rfl, rfl⟩
        go_wp2
        go_ret
        exact ⟨rfl, rfl⟩
      · obtain rfl : b = false := by rw [hb]; simp [h1, h2]
        have t1 : (r == 12) = false := by rw [beq_eq_false_iff_ne]; exact h1
        have t2 : (r == 13) = false := by rw [beq_eq_false_iff_ne]; exact h2
        clear h hx hd hb h1 h2
        go_enter Tryd.func57, Tryd.ntmps57
        go_wp2_with fail
        refine (X1.out).mono ?_
        rintro e w' ⟨rfl, rfl⟩
        go_wp2_with fail
        refine (X2.out).mono ?_
        rintro e w' ⟨rfl, rfl⟩
        go_wp2
        go_ret
        exact ⟨rfl, rfl⟩
set_option maxRecDepth 100000 in
set_option maxHeartbeats 1000000 in
theorem qput_any (B : Nat) (v : Value) (l t : List UInt8) (r : Int) (w : World) (hv : OwnB B w v l) (hl : l.length ≤ 4000000) (hB : B ≤ w.heap.size) (ht : l ++ M.enc r = t) :
    Calls Tryd.prog 55 #[v, .int .i64 r] w fun e w' => ∃ v', e = .returned v' ∧ OwnB B w' v' t ∧ Below B w w' := by
  have P := Lib.hid (put_any (.slice none 0 0) [] (M.enc r) r w (bs_nil _) (by simp) (by simp))
  have Ht := Lib.hid ht
  have hle := M.enc_le r
  clear ht
  go_enter Tryd.func55, Tryd.ntmps55
  go_wp2_with fail
  refine (P.out).mono ?_
  rintro e w2 ⟨v2, rfl, ho2, hb2⟩
  have ho := OwnB.keep hv hb2
  have hbs := ho2.bs
  have hnn := ho2.nnb
  have hb3 : Below B w w2 := hb2.mono hB
  have hz : B ≤ w2.heap.size := Nat.le_trans hB hb2.size
  clear hb2 ho2 hv
  go_wp2_with (at_builtin; refine wpl_append rfl _ _ rfl B v v2 l (M.enc r) t rfl ho rfl hbs hnn (by omega) hz Ht.out ?_)
  intro v6 w6 ho6 hb6
  have hb7 := hb3.trans hb6
  clear hb3 hb6 hbs hnn
  go_wp2
  go_ret
  exact ⟨_, rfl, ho6, hb7⟩
set_option maxRecDepth 100000 in
set_option maxHeartbeats 1000000 in
theorem trim_two (l : List UInt8) (w : World) (hl : l.length = 2) : Calls Tryd.prog 64 #[.string (bytes (l ++ [32])), .string ⟨#[32]⟩] w fun e w' => e = .returned (.string (bytes l)) ∧ w = w' := by
  have hsz : (bytes (l ++ [32])).size = 3 := by rw [bytes_size]; simp [hl]
  have e1 := ext_from (l ++ [32]) 2 3 hsz
  have e2 := ext_to (l ++ [32]) 2 (by simp; omega)
  have d1 : (l ++ [32]).drop 2 = ([32] : List UInt8) := by rw [← hl]; exact List.drop_left
  have d2 : (l ++ [32]).take 2 = l := by rw [← hl]; exact List.take_left
  rw [d1] at e1
  rw [d2] at e2
  clear d1 d2
  have q : ((bytes [32]).toList == [32]) = true := by rw [ByteArray.toList_eq, bytes_toList]; rfl
  obtain ⟨S, hS⟩ : ∃ S, bytes (l ++ [32]) = S := ⟨_, rfl⟩
  obtain ⟨Z, hZ⟩ : ∃ S, bytes [32] = S := ⟨_, rfl⟩
  obtain ⟨L, hL⟩ : ∃ S, bytes l = S := ⟨_, rfl⟩
  rw [hS] at hsz e1 e2 ⊢
  rw [hL] at e2 ⊢
  rw [hZ] at e1 q
  clear hS hZ hL hl
  have X : Calls Tryd.prog 76 #[.string S, .string ⟨#[32]⟩] w fun e w' => e = .returned (.bool true) ∧ w = w' := by
    clear e2
    go_enter Tryd.func76, Tryd.ntmps76
    go_wp2
    go_ret
    exact ⟨by first | rfl | simp [q], rfl⟩
  have Y : Calls Tryd.prog 70 #[.string S, .string ⟨#[32]⟩] w fun e w' => e = .returned (.string L) ∧ w = w' := by
    have HX := Lib.hid X
    clear X e1 q
    go_enter Tryd.func70, Tryd.ntmps70
    go_wp2_with fail
    refine (HX.out).mono ?_
    rintro e w' ⟨rfl, rfl⟩
    go_wp2
    go_ret
    exact ⟨by first | rfl | simp [e2], rfl⟩
  have HY := Lib.hid Y
  clear X Y e1 e2 q
  go_enter Tryd.func64, Tryd.ntmps64
  go_wp2_with fail
  refine (HY.out).mono ?_
  rintro e w' ⟨rfl, rfl⟩
  go_wp2
  go_ret
  exact ⟨rfl, rfl⟩
/-- What is written of the end of a line. -/
def lbB (r : Int) (j : Bool) : List UInt8 := M.encZs (92 :: M.hexd r ++ (if j then [32] else []))
set_option maxRecDepth 100000 in
set_option maxHeartbeats 1000000 in
theorem lbreak_any (r : Nat) (j : Bool) (w : World) (hT : TzCell w) (hr : r = 10 ∨ r = 12 ∨ r = 13) :
    Calls Tryd.prog 56 #[.int .i64 (r : Int), .bool j] w fun e w' => e = .returned (.string (bytes (lbB r j))) ∧ Below w.heap.size w w' := by
  have N := Lib.hid (enum_any r w hT (by omega))
  have e1 : lbB r true = M.encZs (M.numN r) := rfl
  cases j with
  | true =>
    rw [e1]
    obtain ⟨S, hS⟩ : ∃ S, bytes (M.encZs (M.numN r)) = S := ⟨_, rfl⟩
    rw [hS] at N ⊢
    clear hT hr hS e1
    go_enter Tryd.func56, Tryd.ntmps56
    go_wp2_with fail
    refine (N.out).mono ?_
    rintro e w2 ⟨rfl, hb2⟩
    go_wp2
    go_ret
    exact ⟨rfl, hb2⟩
  | false =>
    have e2 : M.encZs (M.numN r) = lbB r false ++ [32] := by
      show M.encZs (92 :: M.hexd r ++ [32]) = M.encZs (92 :: M.hexd r ++ []) ++ [32]
      rw [M.encZs_append, List.append_nil, M.encZs_cons 32, M.encZs_nil, M.enc_ascii 32 (by decide) (by decide)]; rfl
    have e3 : (lbB r false).length = 2 := by
      rcases hr with rfl | rfl | rfl
      · unfold lbB; rw [List.cons_append, M.encZs_cons, M.encZs_append, hexB_one 10 (by decide), M.enc_ascii 92 (by decide) (by decide)]; rfl
      · unfold lbB; rw [List.cons_append, M.encZs_cons, M.encZs_append, hexB_one 12 (by decide), M.enc_ascii 92 (by decide) (by decide)]; rfl
      · unfold lbB; rw [List.cons_append, M.encZs_cons, M.encZs_append, hexB_one 13 (by decide), M.enc_ascii 92 (by decide) (by decide)]; rfl
    have T := Lib.hid (fun W => trim_two (lbB r false) W e3)
    rw [← e2] at T
    obtain ⟨S, hS⟩ : ∃ S, bytes (M.encZs (M.numN r)) = S := ⟨_, rfl⟩
    rw [hS] at N T
    obtain ⟨L, hL⟩ : ∃ S, bytes (lbB r false) = S := ⟨_, rfl⟩
    rw [hL] at T ⊢
    clear hT hr hS e1 e2 e3 hL
    go_enter Tryd.func56, Tryd.ntmps56
    go_wp2_with fail
    refine (N.out).mono ?_
    rintro e w2 ⟨rfl, hb2⟩
    go_wp2_with fail
    refine (T.out _).mono ?_
    rintro e w' ⟨rfl, rfl⟩
    go_wp2
    go_ret
    exact ⟨rfl, hb2⟩
theorem nextj (l : List UInt8) (p : Nat) : ((M.nextAt l p).2.2 && M.jn (M.nextAt l p).1) = M.jn ((M.pn l p).getD 0 0) := by
  by_cases h : p < l.length
  · rw [M.nextAt_in l p h, M.pn_in l p h]
    simp only [List.getD_cons_zero]
    unfold M.nx M.ptv
    split
    · rename_i hd; rw [hd]; decide
    · simp only [Bool.true_and]
      split
      · rename_i hd; rw [hd]; decide
      · rfl
  · rw [M.pn_out l p (by omega)]
    unfold M.nextAt
    rw [if_pos (by omega)]
    decide
end Go.Proofs.YtkaojigdogeliaaDoor
