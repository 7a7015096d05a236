import Derived.Test.YtimjbjppmhdjnaaGreatDoorWEq
import Derived.Test.YtimjbjppmhdjnaaGreatDoorNDiv
import Derived.Laws.ResultCell
import Derived.Deep.RegionHeld3
set_option maxHeartbeats 4000000
set_option maxRecDepth 100000
namespace Go.Proofs.YtimjbjppmhdjnaaGreatDoor
open Go.RowKit
set_option linter.unusedVariables false
set_option linter.unusedSimpArgs false
theorem results_cell_one {fn : Func} {p : Tmp} {ty : TypeId} (h : fn.results = #[.cell p ty]) (tmps : Array Value) (P : Program) (w : World) :
  (results fn tmps).run P w = ((asAddr (tmps.getD p undef)).run P w).andThen fun a w₁ => ((loadVar ty a).run P w₁) := by
 simp only [results, h]
 simp [Sem.run_bind, Result.andThen]
theorem res_tok1 {fn : Func} {p : Tmp} (h : fn.results = #[.cell p 33]) (tmps : Array Value) (w : World) (g : Nat) (cs : Array Value)
  (hp : tmps.getD p undef = .pointer (some ⟨g, 0, none⟩)) (hg : CB w g cs) (hs : cs.size = 13) :
  (results fn tmps).run Tryz.prog w = .ok (.agg cs) w := by
 rw [results_cell_one h, hp]
 have : (asAddr (.pointer (some ⟨g, 0, none⟩))).run Tryz.prog w = .ok ⟨g, 0, none⟩ w := rfl
 rw [this]
 simp only [Result.andThen]
 exact run_loadVar_row w g 33 33 cs (0, 0) _ hg Tryz.underlying33 rfl (by rw [hs]; exact infoC13)
theorem cb_mid (w : World) (A B C : Array Value) : CB (((w.alloc (.cells A 33)).alloc (.cells B 33)).alloc (.cells C 33)) (w.heap.size + 1) B := by
 have h := CB.new (w.alloc (.cells A 33)) B
 have h2 := h.keep ((Below.refl _ _).alloc (Nat.le_refl _) (.cells C 33)) h.lt
 have e : (w.alloc (.cells A 33)).heap.size = w.heap.size + 1 := by simp
 rw [e] at h2; exact h2
theorem cb_drew {w : World} {b : Nat} {cs : Array Value} (h : CB w b cs) : CB w.drew b cs := h
theorem below3 (w : World) (a b c : Obj) : Below w.heap.size w (((w.alloc a).alloc b).alloc c) := (((Below.refl _ _).alloc (Nat.le_refl _) _).alloc (by simp) _).alloc (by simp; omega) _
theorem listed_ten (t : M.CT) (c : C4) (z : Int) (w : World) (hk : t.kind = 10) :
  Calls Tryz.prog 15 #[.agg (gtv (t, c, z))] w fun e w' => e = .returned (.agg (gtv (M.onlyT t, z4, z))) /\ Below w.heap.size w w' := by
 obtain ⟨k, text, unit, ⟨n0, n1, n2⟩, flag, sign⟩ := t
 obtain ⟨c0, c1, c2, c3⟩ := c
 simp only at hk
 subst hk
 have e1 := gtv_lit 10 text unit n0 n1 n2 flag sign c0 c1 c2 c3 z
 rw [e1]
 clear e1
 go_enter Tryz.func15, Tryz.ntmps15
 go_wp2
 go_region
 go_wp2
 refine bodyPost_ret (res_tok1 rfl _ _ (w.heap.size + 1) _ rfl (by first | exact cb_mid _ _ _ _ | exact cb_drew (cb_mid _ _ _ _)) rfl) rfl ?_
 exact ⟨by first | rfl | (simp [gtv, M.onlyT, M.isNum, z4, bytes]), by first | exact below3 _ _ _ _ | exact (below3 _ _ _ _).drew⟩
theorem listed_eleven (t : M.CT) (c : C4) (z : Int) (w : World) (hk : t.kind = 11) :
  Calls Tryz.prog 15 #[.agg (gtv (t, c, z))] w fun e w' => e = .returned (.agg (gtv (M.onlyT t, z4, z))) /\ Below w.heap.size w w' := by
 obtain ⟨k, text, unit, ⟨n0, n1, n2⟩, flag, sign⟩ := t
 obtain ⟨c0, c1, c2, c3⟩ := c
 simp only at hk
 subst hk
 have e1 := gtv_lit 11 text unit n0 n1 n2 flag sign c0 c1 c2 c3 z
 rw [e1]
 clear e1
 go_enter Tryz.func15, Tryz.ntmps15
 go_wp2
 go_region
 go_wp2
 refine bodyPost_ret (res_tok1 rfl _ _ (w.heap.size + 1) _ rfl (by first | exact cb_mid _ _ _ _ | exact cb_drew (cb_mid _ _ _ _)) rfl) rfl ?_
 exact ⟨by first | rfl | (simp [gtv, M.onlyT, M.isNum, z4, bytes]), by first | exact below3 _ _ _ _ | exact (below3 _ _ _ _).drew⟩
theorem listed_twelve (t : M.CT) (c : C4) (z : Int) (w : World) (hk : t.kind = 12) :
  Calls Tryz.prog 15 #[.agg (gtv (t, c, z))] w fun e w' => e = .returned (.agg (gtv (M.onlyT t, z4, z))) /\ Below w.heap.size w w' := by
 obtain ⟨k, text, unit, ⟨n0, n1, n2⟩, flag, sign⟩ := t
 obtain ⟨c0, c1, c2, c3⟩ := c
 simp only at hk
 subst hk
 have e1 := gtv_lit 12 text unit n0 n1 n2 flag sign c0 c1 c2 c3 z
 rw [e1]
 clear e1
 go_enter Tryz.func15, Tryz.ntmps15
 go_wp2
 go_region
 go_wp2
 refine bodyPost_ret (res_tok1 rfl _ _ (w.heap.size + 1) _ rfl (by first | exact cb_mid _ _ _ _ | exact cb_drew (cb_mid _ _ _ _)) rfl) rfl ?_
 exact ⟨by first | rfl | (simp [gtv, M.onlyT, M.isNum, z4, bytes]), by first | exact below3 _ _ _ _ | exact (below3 _ _ _ _).drew⟩
theorem listed_hash (t : M.CT) (c : C4) (z : Int) (w : World) (hk : t.kind = 4) :
  Calls Tryz.prog 15 #[.agg (gtv (t, c, z))] w fun e w' => e = .returned (.agg (gtv (M.onlyT t, z4, z))) /\ Below w.heap.size w w' := by
 obtain ⟨k, text, unit, ⟨n0, n1, n2⟩, flag, sign⟩ := t
 obtain ⟨c0, c1, c2, c3⟩ := c
 simp only at hk
 subst hk
 have S1 := Lib.hid (fun w => sign_any 4 [] w rfl)
 have e1 := gtv_lit 4 text unit n0 n1 n2 flag sign c0 c1 c2 c3 z
 rw [e1]
 rw [show bytes [] = (⟨#[]⟩ : ByteArray) from rfl] at S1
 clear e1
 go_enter Tryz.func15, Tryz.ntmps15
 go_wp2_with fail
 refine (S1.out _).mono ?_
 rintro e w' ⟨rfl, rfl⟩
 go_wp2
 refine bodyPost_ret (res_tok1 rfl _ _ (w.heap.size + 1) _ rfl (by first | exact cb_mid _ _ _ _ | exact cb_drew (cb_mid _ _ _ _)) rfl) rfl ?_
 exact ⟨by first | rfl | (simp [gtv, M.onlyT, M.isNum, z4, bytes, M.sigS]), by first | exact below3 _ _ _ _ | exact (below3 _ _ _ _).drew⟩
theorem listed_other (t : M.CT) (c : C4) (z : Int) (w : World) (hk : ¬ M.isNum t.kind) (h4 : t.kind ≠ 4) :
  Calls Tryz.prog 15 #[.agg (gtv (t, c, z))] w fun e w' => e = .returned (.agg (gtv (M.onlyT t, z4, z))) /\ Below w.heap.size w w' := by
 obtain ⟨k, text, unit, ⟨n0, n1, n2⟩, flag, sign⟩ := t
 obtain ⟨c0, c1, c2, c3⟩ := c
 simp only at hk h4
 obtain ⟨s, hs⟩ : ∃ s, M.sigS k = s := ⟨_, rfl⟩
 have S1 := Lib.hid (fun w => sign_any k s w hs)
 have e1 := gtv_lit k text unit n0 n1 n2 flag sign c0 c1 c2 c3 z
 rw [e1]
 have e2 : gtv (M.onlyT ⟨k, text, unit, (n0, n1, n2), flag, sign⟩, z4, z) = #[.int .i64 k, .string (if s = [] then bytes text else ⟨#[]⟩), .string ⟨#[]⟩, .bool false, .string ⟨#[]⟩, .string ⟨#[]⟩, .bool false, .bool false, .int .i64 0, .int .i64 0, .int .i64 0, .int .i64 0, .int .i64 z] := by
  unfold M.onlyT
  rw [if_neg hk]
  simp only [hs, gtv, z4]
  rw [if_neg h4]
  split <;> rfl
 rw [e2]
 have t10 : (k == 10) = false := by unfold M.isNum at hk; simp; omega
 have t11 : (k == 11) = false := by unfold M.isNum at hk; simp; omega
 have t12 : (k == 12) = false := by unfold M.isNum at hk; simp; omega
 have t4 : (k == 4) = false := by simp [h4]
 clear e1 e2 hk h4 hs
 by_cases h0 : s = []
 ·subst h0
  rw [if_pos rfl]
  rw [show bytes [] = (⟨#[]⟩ : ByteArray) from rfl] at S1
  go_enter Tryz.func15, Tryz.ntmps15
  go_wp2_with fail
  refine (S1.out _).mono ?_
  rintro e w' ⟨rfl, rfl⟩
  go_wp2
  refine bodyPost_ret (res_tok1 rfl _ _ (w.heap.size + 1) _ rfl (by first | exact cb_mid _ _ _ _ | exact cb_drew (cb_mid _ _ _ _)) rfl) rfl ?_
  exact ⟨by first | rfl | (simp [gtv, M.onlyT, M.isNum, z4, bytes]), by first | exact below3 _ _ _ _ | exact (below3 _ _ _ _).drew⟩
 ·rw [if_neg h0]
  obtain ⟨e1, e2, e3⟩ := str_ne _ s rfl h0
  obtain ⟨S, hS⟩ : ∃ S, bytes s = S := ⟨_, rfl⟩
  rw [hS] at S1 e1 e2 e3
  clear hS h0
  go_enter Tryz.func15, Tryz.ntmps15
  go_wp2_with fail
  refine (S1.out _).mono ?_
  rintro e w' ⟨rfl, rfl⟩
  go_wp2
  refine bodyPost_ret (res_tok1 rfl _ _ (w.heap.size + 1) _ rfl (by first | exact cb_mid _ _ _ _ | exact cb_drew (cb_mid _ _ _ _)) rfl) rfl ?_
  exact ⟨by first | rfl | (simp [gtv, M.onlyT, M.isNum, z4, bytes]), by first | exact below3 _ _ _ _ | exact (below3 _ _ _ _).drew⟩
theorem listed_any (g : GT) (w : World) :
  Calls Tryz.prog 15 #[.agg (gtv g)] w fun e w' => e = .returned (.agg (gtv (M.onlyT g.1, z4, g.2.2))) /\ Below w.heap.size w w' := by
 obtain ⟨t, c, z⟩ := g
 by_cases h10 : t.kind = 10
 ·exact listed_ten t c z w h10
 by_cases h11 : t.kind = 11
 ·exact listed_eleven t c z w h11
 by_cases h12 : t.kind = 12
 ·exact listed_twelve t c z w h12
 by_cases h4 : t.kind = 4
 ·exact listed_hash t c z w h4
 ·exact listed_other t c z w (by unfold M.isNum; omega) h4
end Go.Proofs.YtimjbjppmhdjnaaGreatDoor
