/- Layouts: the page's own rows of documents: kids, blanks, Cap. -/
import Derived.Test.YtehofomfblfhaaaYLay
import Derived.Test.YtehofomfblfhaaaVStep
import Derived.Test.YtehofomfblfhaaaTSame
import Derived.Deep.DeepCutAuto
import Derived.Deep.QuietTactic
import Derived.BigQuiet
import Derived.OrdersHeld
import Derived.Deep.RegionHeld3
namespace Go.Proofs.Ytehofomfblfhaaa
open Go.RowKit
set_option linter.unusedVariables false
set_option linter.unusedSimpArgs false

/-- An item's cells; its kids' value is told apart. -/
def iv (k f : Int) (S : ByteArray) (v : Value) (lv : Int) (fl : Bool) : Array Value := #[.int .i64 k, .int .i64 f, .string S, v, .int .i64 lv, .bool fl]
def ic (p : It × Value) : List Value := [.int .i64 p.1.k, .int .i64 p.1.f, .string p.1.s, p.2, .int .i64 (p.1.lv : Int), .bool p.1.fl]
theorem infoIt : (Try.prog.info? 62).map (fun i => (i.zero, i.size, i.bytes)) = some (some (.agg #[.int .i64 0, .int .i64 0, .string ⟨#[]⟩, .slice none 0 0, .int .i64 0, .bool false]), 6, 72) := by kernel_rfl
/-- Each item's kids lie in this world. -/
def KidsIn (w : World) (R : List (It × Value)) : Prop := ∀ p ∈ R, FoS w p.2 p.1.kids
theorem KidsIn.keep {w w' : World} {R : List (It × Value)} (h : KidsIn w R) (hb : Below w.heap.size w w') : KidsIn w' R := fun p hp => (h p hp).keep hb
theorem ic_six (R : List (It × Value)) : ∀ y ∈ R.map ic, y.length = 6 := by
  intro y hy; simp only [List.mem_map] at hy; obtain ⟨p, _, rfl⟩ := hy; rfl
theorem ic_one (w : World) (R : List (It × Value)) (h : KidsIn w R) : ∀ y ∈ R.map ic, ∀ c ∈ y, c.oneCell' = true := by
  intro y hy c hc
  simp only [List.mem_map] at hy
  obtain ⟨p, hp, rfl⟩ := hy
  obtain ⟨a, cap, e⟩ := (h p hp).slice
  simp only [ic, List.mem_cons, List.mem_nil_iff, or_false] at hc
  rcases hc with rfl | rfl | rfl | rfl | rfl | rfl
  · rfl
  · rfl
  · rfl
  · rw [e]; rfl
  · rfl
  · rfl
/-- What kids gives: a row of the call's own. -/
def KdP (w0 w : World) (L : List It) (e : Ending) (w' : World) : Prop := ∃ (u : Value) (R : List (It × Value)), e = .returned u ∧ R.map (·.1) = L ∧ KidsIn w0 R ∧ OwnV 62 6 w.heap.size w' u (R.map ic) ∧ Below w.heap.size w w'
theorem six_keep {V V' : World} {b1 b3 o3 : Nat} {u1 u2 c0 c1 c2 c3 : Value} (h : V.cell? ⟨b1, 3, none⟩ = some u1 ∧ V.cell? ⟨b1, 5, none⟩ = some u2 ∧ V.cell? ⟨b3, o3, none⟩ = some c0 ∧ V.cell? ⟨b3, o3 + 1, none⟩ = some c1 ∧ V.cell? ⟨b3, o3 + 2, none⟩ = some c2 ∧ V.cell? ⟨b3, o3 + 3, none⟩ = some c3) (hb : Below V.heap.size V V') :
    V'.cell? ⟨b1, 3, none⟩ = some u1 ∧ V'.cell? ⟨b1, 5, none⟩ = some u2 ∧ V'.cell? ⟨b3, o3, none⟩ = some c0 ∧ V'.cell? ⟨b3, o3 + 1, none⟩ = some c1 ∧ V'.cell? ⟨b3, o3 + 2, none⟩ = some c2 ∧ V'.cell? ⟨b3, o3 + 3, none⟩ = some c3 := by
  obtain ⟨a1, a2, a3, a4, a5, a6⟩ := h
  have h1 : b1 < V.heap.size := World.block_lt_of_cell? V _ a1
  have h3 : b3 < V.heap.size := World.block_lt_of_cell? V _ a3
  exact ⟨(hb.cell (p := ⟨b1, 3, none⟩) h1).trans a1, (hb.cell (p := ⟨b1, 5, none⟩) h1).trans a2, (hb.cell (p := ⟨b3, o3, none⟩) h3).trans a3, (hb.cell (p := ⟨b3, o3 + 1, none⟩) h3).trans a4, (hb.cell (p := ⟨b3, o3 + 2, none⟩) h3).trans a5, (hb.cell (p := ⟨b3, o3 + 3, none⟩) h3).trans a6⟩
theorem six_keepB {V V' : World} {B b1 b3 o3 : Nat} {u1 u2 c0 c1 c2 c3 : Value} (h : V.cell? ⟨b1, 3, none⟩ = some u1 ∧ V.cell? ⟨b1, 5, none⟩ = some u2 ∧ V.cell? ⟨b3, o3, none⟩ = some c0 ∧ V.cell? ⟨b3, o3 + 1, none⟩ = some c1 ∧ V.cell? ⟨b3, o3 + 2, none⟩ = some c2 ∧ V.cell? ⟨b3, o3 + 3, none⟩ = some c3) (hb : Below B V V') (h1 : b1 < B) (h3 : b3 < B) :
    V'.cell? ⟨b1, 3, none⟩ = some u1 ∧ V'.cell? ⟨b1, 5, none⟩ = some u2 ∧ V'.cell? ⟨b3, o3, none⟩ = some c0 ∧ V'.cell? ⟨b3, o3 + 1, none⟩ = some c1 ∧ V'.cell? ⟨b3, o3 + 2, none⟩ = some c2 ∧ V'.cell? ⟨b3, o3 + 3, none⟩ = some c3 := by
  obtain ⟨a1, a2, a3, a4, a5, a6⟩ := h
  exact ⟨(hb.cell (p := ⟨b1, 3, none⟩) h1).trans a1, (hb.cell (p := ⟨b1, 5, none⟩) h1).trans a2, (hb.cell (p := ⟨b3, o3, none⟩) h3).trans a3, (hb.cell (p := ⟨b3, o3 + 1, none⟩) h3).trans a4, (hb.cell (p := ⟨b3, o3 + 2, none⟩) h3).trans a5, (hb.cell (p := ⟨b3, o3 + 3, none⟩) h3).trans a6⟩
/-- On the way through the kids. -/
def KdW (L rest : Fo) (lv : Nat) (fl : Bool) (j : Nat) (R : List (It × Value)) : Prop := rest.len + j = L.len ∧ (∀ i, rest.at? i = L.at? (j + i)) ∧ R.map (·.1) ++ items lv fl rest = items lv fl L ∧ R.length = j
set_option maxRecDepth 100000 in
set_option maxHeartbeats 8000000 in
theorem kids_lv (k f : Int) (S : ByteArray) (L : Fo) (lv lv' : Nat) (fl : Bool) (v : Value) (w0 w : World) (hv : FoS w0 v L) (hb0 : Below w0.heap.size w0 w) (hk : (k = 7 ∧ lv' = lv + 1) ∨ (k ≠ 7 ∧ lv' = lv)) (hl : lv ≤ 100000) (hLn : L.len ≤ 100000) :
    Calls Try.prog 31 #[.agg (iv k f S v (lv : Int) fl)] w (KdP w0 w (items lv' fl L)) := by
  have HB0 := Lib.hid hb0
  clear hb0
  obtain ⟨a, cap, rfl, h1, h2, h3, h4⟩ := hv
  obtain ⟨n, hn⟩ : ∃ n, L.len = n := ⟨_, rfl⟩
  have HN := Lib.hid hn
  have HS := Lib.hid (fun j hj => Fo.at_some L j hj)
  have FW0 := Lib.hid (show KdW L L lv' fl 0 [] from ⟨by omega, fun i => by rw [Nat.zero_add], rfl, rfl⟩)
  rw [hn] at h4 hLn
  have H4 := Lib.hid h4
  unfold KdP
  rw [hn]
  obtain ⟨T, hT⟩ : ∃ T, items lv' fl L = T := ⟨_, rfl⟩
  have HT := Lib.hid hT
  rw [hT]
  have b0 := Lib.hid ((Below.refl w.heap.size w).alloc (Nat.le_refl _) (.cells #[.int .i64 k, .int .i64 f, .string S, .slice a n cap, .int .i64 (lv : Int), .bool fl] 62))
  obtain ⟨W1, hW1⟩ : ∃ W, w.alloc (.cells #[.int .i64 k, .int .i64 f, .string S, .slice a n cap, .int .i64 (lv : Int), .bool fl] 62) = W := ⟨_, rfl⟩
  rw [hW1] at b0
  have c0 : W1.cell? ⟨w.heap.size, 0, none⟩ = some (.int .i64 k) := by rw [← hW1, World.cell?_alloc_at _ _ _ _ rfl]; rfl
  have c3 : W1.cell? ⟨w.heap.size, 3, none⟩ = some (.slice a n cap) := by rw [← hW1, World.cell?_alloc_at _ _ _ _ rfl]; rfl
  have c4 : W1.cell? ⟨w.heap.size, 4, none⟩ = some (.int .i64 (lv : Int)) := by rw [← hW1, World.cell?_alloc_at _ _ _ _ rfl]; rfl
  have c5 : W1.cell? ⟨w.heap.size, 5, none⟩ = some (.bool fl) := by rw [← hW1, World.cell?_alloc_at _ _ _ _ rfl]; rfl
  have z1 : w.heap.size < W1.heap.size := by rw [← hW1]; simp
  have HW1 := Lib.hid hW1
  have C3 := Lib.hid c3
  have C5 := Lib.hid c5
  have l0 : (0 : Int) ≤ lv := by omega
  have l1 : (lv : Int) ≤ 100000 := by omega
  obtain ⟨LV, hLV⟩ : ∃ x : Int, (lv' : Int) = x := ⟨_, rfl⟩
  have HLV := Lib.hid hLV
  have Z1 := Lib.hid z1
  clear hn h3 h4 hW1 hT c3 c5 h1 h2
  have main : ∀ (a0 : Int), True := fun _ => trivial
  unfold iv
  rcases hk with ⟨rfl, hlv⟩ | ⟨hk, hlv⟩
  case' inl => have ELV := Lib.hid (show (lv : Int) + 1 = LV by rw [← hLV]; omega)
  case' inr => have ELV := Lib.hid (show (lv : Int) = LV by rw [← hLV]; omega)
  case' inr => have k7 : (k == 7) = false := by simpa using hk
  case' inr => clear hk
  all_goals (
    clear hlv hLV main z1
    go_enter Try.func31, Try.ntmps31
    go_upto_region 1 with fail
    rw [HW1.out]
    have eLV := ELV.out
    clear ELV
    go_wp2
    (try rw [eLV])
    clear eLV
    go_loopw [3, 5] (fun lvv iv wr => ∃ (j : Nat) (rest : Fo) (R : List (It × Value)), iv = .int .i64 (j : Int) ∧ j ≤ n ∧ KdW L rest lv' fl j R ∧ KidsIn w0 R ∧ OwnV 62 6 W1.heap.size wr lvv (R.map ic) ∧ Below W1.heap.size W1 wr) (fun _ iv _ => n - (intOf iv).toNat)
    case atStart => exact ⟨0, L, [], rfl, by omega, FW0.out, fun p hp => by simp at hp, ownV_nil _ _ _ _, Below.refl _ _⟩
    case round =>
      obtain ⟨j, rest, R, rfl, hj, hkw, hki, ho, hb⟩ := hrel
      have HB := Lib.hid (b0.out.trans (hb.mono b0.out.size))
      have HBR := Lib.hid hb
      have q3 := (hb.cell (p := ⟨w.heap.size, 3, none⟩) Z1.out).trans C3.out
      have q5 := (hb.cell (p := ⟨w.heap.size, 5, none⟩) Z1.out).trans C5.out
      clear hb
      by_cases hlt : j < n
      · cases rest with
        | nil => exfalso; have := hkw.1; have := HN.out; simp [Fo.len] at *; omega
        | cons x0 x1 X kids rest2 =>
          have hat : L.at? j = some (x0, x1, X, kids) := (hkw.2.1 0).symm
          obtain ⟨b, off, rfl, hbk, hfo⟩ := H4.out (by omega)
          obtain ⟨-, p0, p1, p2, u, p3, hu⟩ := foAt_get L b off j x0 x1 X kids hfo hat
          have hbw : b < w.heap.size := Nat.lt_of_lt_of_le hbk HB0.out.size
          have NKW := Lib.hid (show KdW L rest2 lv' fl (j + 1) (R ++ [(⟨x0, x1, X, kids, lv', fl⟩, u)]) from ⟨by have := hkw.1; simp only [Fo.len] at this; omega, fun i => by
            have := hkw.2.1 (i + 1)
            rw [show j + (i + 1) = j + 1 + i by omega] at this
            exact this, by have := hkw.2.2.1; rw [items_append] at this; simpa using this, by have := hkw.2.2.2; simp; omega⟩)
          have NKI := Lib.hid (show KidsIn w0 (R ++ [(⟨x0, x1, X, kids, lv', fl⟩, u)]) from fun p hp => by
            rcases List.mem_append.1 hp with hp | hp
            · exact hki p hp
            · obtain rfl := List.mem_singleton.1 hp
              exact hu)
          have HRL := Lib.hid hkw.2.2.2
          obtain ⟨ua, ucap, hus⟩ := hu.slice
          obtain ⟨un, hun⟩ : ∃ m, kids.len = m := ⟨_, rfl⟩
          rw [hun] at hus
          subst hus
          have r0 := (HB.out.cell (p := ⟨b, off + j * 4, none⟩) hbw).trans ((HB0.out.cell (p := ⟨b, off + j * 4, none⟩) hbk).trans p0)
          have r1 := (HB.out.cell (p := ⟨b, off + j * 4 + 1, none⟩) hbw).trans ((HB0.out.cell (p := ⟨b, off + j * 4 + 1, none⟩) hbk).trans p1)
          have r2 := (HB.out.cell (p := ⟨b, off + j * 4 + 2, none⟩) hbw).trans ((HB0.out.cell (p := ⟨b, off + j * 4 + 2, none⟩) hbk).trans p2)
          have r3 := (HB.out.cell (p := ⟨b, off + j * 4 + 3, none⟩) hbw).trans ((HB0.out.cell (p := ⟨b, off + j * 4 + 3, none⟩) hbk).trans p3)
          have HO := Lib.hid ho
          have HBK := Lib.hid hbw
          have j0 : (0 : Int) ≤ j := by omega
          have j1 : (j : Int) < n := by omega
          have VS : Hid (Vs 6 (wr.drew.alloc (.cells #[.int .i64 x0, .int .i64 x1, .string X, .slice ua un ucap, .int .i64 LV, .bool fl] 62)) (.slice (some ⟨wr.heap.size, 0, none⟩) 1 1) [ic (⟨x0, x1, X, kids, lv', fl⟩, .slice ua un ucap)]) := Lib.hid (vs_cells 6 62 wr.drew [ic (⟨x0, x1, X, kids, lv', fl⟩, .slice ua un ucap)] _ 1 (by simp [ic, HLV.out]) (by simp [ic]) rfl (by simp))
          clear p0 p1 p2 p3 hat hfo hu hun hkw hki ho
          go_upto_region 8 with (fail)
          refine wp_region_noPanic ?_
          refine wp_region_held_drew (S := fun V : World => V.cell? ⟨w.heap.size, 3, none⟩ = some (.slice (some ⟨b, off, none⟩) n cap) ∧ V.cell? ⟨w.heap.size, 5, none⟩ = some (.bool fl) ∧ V.cell? ⟨b, off + j * 4, none⟩ = some (.int .i64 x0) ∧ V.cell? ⟨b, off + j * 4 + 1, none⟩ = some (.int .i64 x1) ∧ V.cell? ⟨b, off + j * 4 + 2, none⟩ = some (.string X) ∧ V.cell? ⟨b, off + j * 4 + 3, none⟩ = some (.slice ua un ucap)) (by kernel_rfl) ⟨q3, q5, r0, r1, r2, r3⟩ (fun hS => ?_)
          refine wpAnyH_take (i := 0) (oi := _) (v := ?_) (List.getElem?_toArray.trans (by simp only [List.getElem?_cons_succ, List.getElem?_cons_zero]; exact rfl)) (by kernel_rfl) (by kernel_rfl) (by kernel_rfl) (fun _ _ _ h => h) (Or.inl ⟨by rfl, ?_⟩) (by assumption) ?_
          rotate_left
          · (intro V hSV; (try dsimp only at hSV); (try obtain ⟨s0, s1, s2, s3, s4, s5⟩ := hSV); go_simp; (try rw [if_neg (by omega)]); (try with_reducible rfl))
          try simp only [List.getElem_toArray, List.getElem_cons_succ, List.getElem_cons_zero, Act.put, List.setIfInBounds_toArray, List.set_cons_zero, List.set_cons_succ]
          refine wpAnyH_take (i := 1) (oi := _) (v := ?_) (List.getElem?_toArray.trans (by simp only [List.getElem?_cons_succ, List.getElem?_cons_zero]; exact rfl)) (by kernel_rfl) (by kernel_rfl) (by kernel_rfl) (fun _ _ _ h => h) (Or.inl ⟨by rfl, ?_⟩) (by assumption) ?_
          rotate_left
          · (intro V hSV; (try dsimp only at hSV); (try obtain ⟨s0, s1, s2, s3, s4, s5⟩ := hSV); go_simp; (try rw [if_neg (by omega)]); (try with_reducible rfl))
          try simp only [List.getElem_toArray, List.getElem_cons_succ, List.getElem_cons_zero, Act.put, List.setIfInBounds_toArray, List.set_cons_zero, List.set_cons_succ]
          refine wpAnyH_take (i := 2) (oi := _) (v := ?_) (List.getElem?_toArray.trans (by simp only [List.getElem?_cons_succ, List.getElem?_cons_zero]; exact rfl)) (by kernel_rfl) (by kernel_rfl) (by kernel_rfl) (fun _ _ _ h => h) (Or.inl ⟨by rfl, ?_⟩) (by assumption) ?_
          rotate_left
          · (intro V hSV; (try dsimp only at hSV); (try obtain ⟨s0, s1, s2, s3, s4, s5⟩ := hSV); go_simp; (try rw [if_neg (by omega)]); (try with_reducible rfl))
          try simp only [List.getElem_toArray, List.getElem_cons_succ, List.getElem_cons_zero, Act.put, List.setIfInBounds_toArray, List.set_cons_zero, List.set_cons_succ]
          refine wpAnyH_take (i := 3) (oi := _) (v := ?_) (List.getElem?_toArray.trans (by simp only [List.getElem?_cons_succ, List.getElem?_cons_zero]; exact rfl)) (by kernel_rfl) (by kernel_rfl) (by kernel_rfl) (fun _ _ _ h => h) (Or.inl ⟨by rfl, ?_⟩) (by assumption) ?_
          rotate_left
          · (intro V hSV; (try dsimp only at hSV); (try obtain ⟨s0, s1, s2, s3, s4, s5⟩ := hSV); go_simp; (try rw [if_neg (by omega)]); (try with_reducible rfl))
          try simp only [List.getElem_toArray, List.getElem_cons_succ, List.getElem_cons_zero, Act.put, List.setIfInBounds_toArray, List.set_cons_zero, List.set_cons_succ]
          refine wpAnyH_take (i := 4) (oi := _) (v := ?_) (List.getElem?_toArray.trans (by simp only [List.getElem?_cons_succ, List.getElem?_cons_zero]; exact rfl)) (by kernel_rfl) (by kernel_rfl) (by kernel_rfl) (fun _ _ _ h => h) (Or.inl ⟨by rfl, ?_⟩) (by assumption) ?_
          rotate_left
          · (intro V hSV; (try dsimp only at hSV); (try obtain ⟨s0, s1, s2, s3, s4, s5⟩ := hSV); go_simp; (try rw [if_neg (by omega)]); (try with_reducible rfl))
          try simp only [List.getElem_toArray, List.getElem_cons_succ, List.getElem_cons_zero, Act.put, List.setIfInBounds_toArray, List.set_cons_zero, List.set_cons_succ]
          refine wpAnyH_take (i := 5) (oi := _) (v := ?_) (List.getElem?_toArray.trans (by simp only [List.getElem?_cons_succ, List.getElem?_cons_zero]; exact rfl)) (by kernel_rfl) (by kernel_rfl) (by kernel_rfl) (fun _ _ _ h => h) (Or.inl ⟨by rfl, ?_⟩) (by assumption) ?_
          rotate_left
          · (intro V hSV; (try dsimp only at hSV); (try obtain ⟨s0, s1, s2, s3, s4, s5⟩ := hSV); go_simp; (try rw [if_neg (by omega)]); (try with_reducible rfl))
          try simp only [List.getElem_toArray, List.getElem_cons_succ, List.getElem_cons_zero, Act.put, List.setIfInBounds_toArray, List.set_cons_zero, List.set_cons_succ]
          refine wpAnyH_take (i := 6) (oi := _) (v := ?_) (List.getElem?_toArray.trans (by simp only [List.getElem?_cons_succ, List.getElem?_cons_zero]; exact rfl)) (by kernel_rfl) (by kernel_rfl) (by kernel_rfl) (fun _ _ _ h => h) (Or.inl ⟨by rfl, ?_⟩) (by assumption) ?_
          rotate_left
          · (intro V hSV; (try dsimp only at hSV); (try obtain ⟨s0, s1, s2, s3, s4, s5⟩ := hSV); go_simp; (try rw [if_neg (by omega)]); (try with_reducible rfl))
          try simp only [List.getElem_toArray, List.getElem_cons_succ, List.getElem_cons_zero, Act.put, List.setIfInBounds_toArray, List.set_cons_zero, List.set_cons_succ]
          refine wpAnyH_take (i := 7) (oi := _) (v := ?_) (List.getElem?_toArray.trans (by simp only [List.getElem?_cons_succ, List.getElem?_cons_zero]; exact rfl)) (by kernel_rfl) (by kernel_rfl) (by kernel_rfl) (fun _ _ _ h => h) (Or.inl ⟨by rfl, ?_⟩) (by assumption) ?_
          rotate_left
          · (intro V hSV; (try dsimp only at hSV); (try obtain ⟨s0, s1, s2, s3, s4, s5⟩ := hSV); go_simp; (try rw [if_neg (by omega)]); (try with_reducible rfl))
          try simp only [List.getElem_toArray, List.getElem_cons_succ, List.getElem_cons_zero, Act.put, List.setIfInBounds_toArray, List.set_cons_zero, List.set_cons_succ]
          refine wpAnyH_take (i := 8) (oi := _) (v := ?_) (List.getElem?_toArray.trans (by simp only [List.getElem?_cons_succ, List.getElem?_cons_zero]; exact rfl)) (by kernel_rfl) (by kernel_rfl) (by kernel_rfl) (fun _ _ _ h => h) (Or.inl ⟨by rfl, ?_⟩) (by assumption) ?_
          rotate_left
          · (intro V hSV; (try dsimp only at hSV); (try obtain ⟨s0, s1, s2, s3, s4, s5⟩ := hSV); go_simp; (try rw [if_neg (by omega)]); (try with_reducible rfl))
          try simp only [List.getElem_toArray, List.getElem_cons_succ, List.getElem_cons_zero, Act.put, List.setIfInBounds_toArray, List.set_cons_zero, List.set_cons_succ]
          refine wpAnyH_take (i := 9) (oi := _) (v := ?_) (List.getElem?_toArray.trans (by simp only [List.getElem?_cons_succ, List.getElem?_cons_zero]; exact rfl)) (by kernel_rfl) (by kernel_rfl) (by kernel_rfl) (fun _ _ _ h => h) (Or.inl ⟨by rfl, ?_⟩) (by assumption) ?_
          rotate_left
          · (intro V hSV; (try dsimp only at hSV); (try obtain ⟨s0, s1, s2, s3, s4, s5⟩ := hSV); go_simp; (try rw [if_neg (by omega)]); (try with_reducible rfl))
          try simp only [List.getElem_toArray, List.getElem_cons_succ, List.getElem_cons_zero, Act.put, List.setIfInBounds_toArray, List.set_cons_zero, List.set_cons_succ]
          refine wpAnyH_take (i := 10) (oi := _) (v := ?_) (List.getElem?_toArray.trans (by simp only [List.getElem?_cons_succ, List.getElem?_cons_zero]; exact rfl)) (by kernel_rfl) (by kernel_rfl) (by kernel_rfl) (fun _ _ _ h => h) (Or.inl ⟨by rfl, ?_⟩) (by assumption) ?_
          rotate_left
          · (intro V hSV; (try dsimp only at hSV); (try obtain ⟨s0, s1, s2, s3, s4, s5⟩ := hSV); go_simp; (try rw [if_neg (by omega)]); (try with_reducible rfl))
          try simp only [List.getElem_toArray, List.getElem_cons_succ, List.getElem_cons_zero, Act.put, List.setIfInBounds_toArray, List.set_cons_zero, List.set_cons_succ]
          refine wpAnyH_ready (rs := [11]) (by kernel_rfl) (by simp) ?_
          refine AllReadyH.cons rfl (fun K hK => ?_) AllReadyH.nil
          go_simp
          refine hK.out _ _ (six_keep (V := wr.drew) hS ((Below.refl _ _).alloc (Nat.le_refl _) _)) (fun hS => ?_)
          clear hK K
          have BA := Lib.hid ((HBR.out.drew).alloc HBR.out.drew.size (.cells #[.int .i64 x0, .int .i64 x1, .string X, .slice ua un ucap, .int .i64 LV, .bool fl] 62))
          have HOA := Lib.hid (OwnV.keep HO.out (((Below.refl wr.heap.size wr).drew).alloc (Nat.le_refl _) (.cells #[.int .i64 x0, .int .i64 x1, .string X, .slice ua un ucap, .int .i64 LV, .bool fl] 62)))
          refine wpAnyH_ready (rs := [12]) (by kernel_rfl) (by simp) ?_
          refine AllReadyH.cons rfl (fun K hK => ?_) AllReadyH.nil
          refine stepl_appendV (by rfl) _ _ (by rfl) Try.underlying63 infoIt rfl (by decide) W1.heap.size u3 (.slice (some ⟨wr.heap.size, 0, none⟩) 1 1) (R.map ic) ((R ++ [((⟨x0, x1, X, kids, lv', fl⟩ : It), Value.slice ua un ucap)]).map ic) (ic (⟨x0, x1, X, kids, lv', fl⟩, .slice ua un ucap)) (by rfl) HOA.out (by rfl) VS.out rfl (fun c hc => ic_one w0 _ NKI.out (ic (⟨x0, x1, X, kids, lv', fl⟩, .slice ua un ucap)) (by simp) c hc) (by rw [List.length_map, HRL.out]; omega) (by decide) BA.out.size (by simp) ?_
          intro v2 w2 ho2 hb2 _ _
          refine hK.out _ _ (six_keepB hS hb2 Z1.out (by have := HBK.out; have := Z1.out; omega)) (fun hS => ?_)
          clear hK K
          have e2 := BA.out.trans hb2
          clear hb2
          refine wpAnyH_take (i := 13) (oi := _) (v := ?_) (List.getElem?_toArray.trans (by simp only [List.getElem?_cons_succ, List.getElem?_cons_zero]; exact rfl)) (by kernel_rfl) (by kernel_rfl) (by kernel_rfl) (fun _ _ _ h => h) (Or.inl ⟨by rfl, ?_⟩) (by assumption) ?_
          rotate_left
          · (intro V hSV; (try dsimp only at hSV); (try obtain ⟨s0, s1, s2, s3, s4, s5⟩ := hSV); go_simp; (try rw [if_neg (by omega)]); (try with_reducible rfl))
          try simp only [List.getElem_toArray, List.getElem_cons_succ, List.getElem_cons_zero, Act.put, List.setIfInBounds_toArray, List.set_cons_zero, List.set_cons_succ]
          refine wpAnyH_done (by kernel_rfl) ?_ _
          refine NoPanic.normal ?_
          clear hS
          go_wp2
          go_roundw
          case rel => exact ⟨j + 1, rest2, _, by go_num, by omega, NKW.out, NKI.out, ho2, e2⟩
          case measure => simp [intOf]; omega
      · obtain rfl : j = n := by omega
        have t1 : decide ((j : Int) < j) = false := by simp
        have hnil : rest = .nil := by
          have h1 := hkw.1
          have h2 := HN.out
          cases rest with
          | nil => rfl
          | cons _ _ _ _ _ => simp [Fo.len] at h1; omega
        subst hnil
        have hfin := Lib.hid (show R.map (·.1) = T by rw [← HT.out, ← hkw.2.2.1]; simp [items])
        have HKI := Lib.hid hki
        have HOM := Lib.hid (show OwnV 62 6 w.heap.size wr u3 (R.map ic) from ⟨World.ownsRow.mono ho.1 (Nat.le_of_lt Z1.out), ho.2.1, ho.2.2⟩)
        clear hlt hkw hki ho
        go_wp2
        go_ret
        exact ⟨_, R, rfl, hfin.out, HKI.out, HOM.out, HB.out⟩)
end Go.Proofs.Ytehofomfblfhaaa
