/- What utf.Put returns, for any bytes and any number. -/
import Derived.Test.YtpecaalpbeoolaaGreatDoorMgB
import Derived.Test.YtpecaalpbeoolaaGreatDoorShelf
namespace Go.Proofs.YtpecaalpbeoolaaGreatDoor
open Go.RowKit
set_option linter.unusedVariables false

set_option maxHeartbeats 400000 in
theorem clone_any (v : Value) (l : List UInt8) (w : World) (hv : Bs w v l) (hl : l.length ≤ 4294967296) :
    Calls Tryz.prog 105 #[v] w fun e w' => ∃ v', e = .returned v' ∧ OwnB w.heap.size w' v' l ∧ Below w.heap.size w w' := by
  obtain ⟨i0, hi, hz0, hz1, hz2⟩ := info_parts infoB
  obtain ⟨a, cap, rfl, h1, h2, h3⟩ := hv
  cases a with
  | none =>
    have h0 : l = [] := by
      cases l with
      | nil => rfl
      | cons c l => obtain ⟨b, off, h, _⟩ := h3 (by simp); exact absurd h (by simp)
    subst h0
    have hq := fun w => Lib.run_eql_slice_nil (P := Tryz.prog) w 22 5 none ([] : List UInt8).length cap 0 0 Tryz.underlying22
    simp only [List.length_nil, Option.isNone_none] at hq
    go_enter Tryz.func105, Tryz.ntmps105
    go_wp2
    go_ret
    exact ⟨_, rfl, World.ownsRow_nil _ _ _ _, Below.refl _ _⟩
  | some ad =>
    have hq := fun w => Lib.run_eql_slice_nil (P := Tryz.prog) w 22 5 (some ad) l.length cap 0 0 Tryz.underlying22
    simp only [Option.isNone_some] at hq
    have hcs : ∀ (W : World) (o : Obj), Below w.heap.size w W → ∀ j u, (bcells l)[j]? = some u → (W.alloc o).cell? (ad.add j) = some u := by
      intro W o hb j u hj
      have h0 : 0 < l.length := by
        have := (List.getElem?_eq_some_iff.1 hj).1
        simp [bcells] at this; omega
      obtain ⟨b, off, hab, hlt, hc⟩ := h3 h0
      obtain rfl : ad = ⟨b, off, none⟩ := by simpa using hab
      have := bs_cells hc j u hj
      have hb2 : Below w.heap.size w (W.alloc o) := hb.alloc hb.size o
      rw [hb2.cell (p := (⟨b, off, none⟩ : Addr).add j) (by rw [Go.WideShapes.add_plain]; exact hlt)]
      exact this
    clear h3
    have Hcs := Lib.hid hcs
    clear hcs
    go_enter Tryz.func105, Tryz.ntmps105
    go_wp2_with (at_builtin; refine wpList_append_own _ rfl _ _ 22 rfl w.heap.size 5 i0 (.int .u8 0) 1 1 Tryz.underlying22 hi hz0 hz1 hz2 rfl (by decide) _ 0 [] rfl (World.ownsRow_made _ #[] 0 (Nat.le_refl _) (by decide) rfl) ad l.length cap (bcells l) rfl (by simp [bcells]) ?c1 one_oneCell ?c3 ?c4 ?c5 ?_)
    case c1 => exact Hcs.out w _ (Below.refl _ _)
    case c3 => unfold maxLen; omega
    case c4 => omega
    case c5 => simp
    intro v' w1 hown hgrow _
    have hb := ((Below.refl w.heap.size w).alloc (Nat.le_refl _) (.cells #[] 5)).grown hgrow (by simp) (fun j hj => by simp [Value.ownBlock] at hj; omega)
    clear hgrow
    go_wp2
    go_ret
    exact ⟨_, rfl, hown, hb⟩

theorem cp_true (r : Int) (w : World) (h : M.isCP r = true) :
    Calls Tryz.prog 103 #[.int .i64 r] w fun e w' => e = .returned (.bool true) ∧ w = w' := by
  rw [M.isCP_iff] at h
  obtain ⟨h1, h2, h3⟩ := h
  rcases h3 with h3 | h3
  · go_enter Tryz.func103, Tryz.ntmps103
    go_wp2
    go_ret
    exact ⟨by simp; try omega, rfl⟩
  · have h4 : ¬ r < 55296 := by omega
    go_enter Tryz.func103, Tryz.ntmps103
    go_wp2
    go_ret
    exact ⟨by simp; try omega, rfl⟩
theorem cp_false (r : Int) (w : World) (h : M.isCP r = false) :
    Calls Tryz.prog 103 #[.int .i64 r] w fun e w' => e = .returned (.bool false) ∧ w = w' := by
  have h0 : ¬ (0 ≤ r ∧ r ≤ 1114111 ∧ (r < 55296 ∨ 57343 < r)) := by rw [← M.isCP_iff]; simp [h]
  clear h
  have h1 : r < 0 ∨ (0 ≤ r ∧ 1114111 < r) ∨ (0 ≤ r ∧ r ≤ 1114111 ∧ 55296 ≤ r ∧ r ≤ 57343) := by omega
  clear h0
  rcases h1 with h1 | ⟨h1, h2⟩ | ⟨h1, h2, h3, h4⟩
  all_goals
    go_enter Tryz.func103, Tryz.ntmps103
    go_wp2
    go_ret
    exact ⟨by simp; try omega, rfl⟩

theorem append_any (B : Nat) (v : Value) (l t : List UInt8) (r : Int) (w : World) (hr0 : -2147483648 ≤ r) (hr1 : r ≤ 2147483647) (hv : OwnB B w v l) (hl : l.length ≤ 4294967296) (hB : B ≤ w.heap.size) (ht : l ++ M.enc r = t) :
    Calls Tryz.prog 104 #[v, .int .i32 r] w fun e w' => ∃ v', e = .returned v' ∧ OwnB B w' v' t ∧ Below B w w' := by
  subst ht
  have hlt := World.ownsRow.lt hv
  refine (Tryz.utf8_AppendRune_plain B v l.length (bcells l) r hr0 hr1 w hv (by omega) hB).mono ?_
  rintro e w' ⟨v', rfl, hown, o, hg⟩
  refine ⟨v', rfl, ?_, ((Below.refl B w).alloc hB o).grown hg (by simp; omega) (fun j hj => (hlt j hj).1)⟩
  rw [runeCells_eq, ← bcells_append, bcells_len, ← List.length_append] at hown
  exact hown

set_option maxHeartbeats 400000 in
theorem put_any (v : Value) (l t : List UInt8) (r : Int) (w : World) (hv : Bs w v l) (hl : l.length ≤ 4294967296) (ht : l ++ M.enc r = t) :
    Calls Tryz.prog 86 #[v, .int .i64 r] w fun e w' => ∃ v', e = .returned v' ∧ OwnB w.heap.size w' v' t ∧ Below w.heap.size w w' := by
  by_cases hcp : M.isCP r = true
  · have hr := (M.isCP_iff r).1 hcp
    have hr0 : 0 ≤ r := hr.1
    have hr1 : r ≤ 1114111 := hr.2.1
    have Hcp := Lib.hid hcp
    have Ht := Lib.hid ht
    clear hr hcp ht
    go_enter Tryz.func86, Tryz.ntmps86
    go_wp2_with fail
    refine (cp_true r _ Hcp.out).mono ?_
    rintro e w' ⟨rfl, rfl⟩
    go_wp2_with fail
    refine (clone_any v l _ hv hl).mono ?_
    rintro e w1 ⟨v1, rfl, ho, hb⟩
    go_wp2_with fail
    refine (append_any w.heap.size v1 l t r _ (by omega) (by omega) ho hl hb.size Ht.out).mono ?_
    rintro e w2 ⟨v2, rfl, ho2, hb2⟩
    go_wp2
    go_ret
    exact ⟨_, rfl, ho2, hb.trans hb2⟩
  · have hcp' : M.isCP r = false := by simpa using hcp
    rw [M.enc_other r hcp'] at ht
    have Hcp := Lib.hid hcp'
    have Ht := Lib.hid ht
    clear hcp hcp' ht
    go_enter Tryz.func86, Tryz.ntmps86
    go_wp2_with fail
    refine (cp_false r _ Hcp.out).mono ?_
    rintro e w' ⟨rfl, rfl⟩
    go_wp2_with fail
    refine (clone_any v l _ hv hl).mono ?_
    rintro e w1 ⟨v1, rfl, ho, hb⟩
    go_wp2_with fail
    refine (append_any w.heap.size v1 l t 65533 _ (by omega) (by omega) ho hl hb.size Ht.out).mono ?_
    rintro e w2 ⟨v2, rfl, ho2, hb2⟩
    go_wp2
    go_ret
    exact ⟨_, rfl, ho2, hb.trans hb2⟩
end Go.Proofs.YtpecaalpbeoolaaGreatDoor
