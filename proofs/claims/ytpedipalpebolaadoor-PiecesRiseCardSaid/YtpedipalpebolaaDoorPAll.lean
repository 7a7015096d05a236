/- places.All: the place of each offset, for any bytes. -/
import Derived.Test.YtpedipalpebolaaDoorPText
import Derived.Test.YtpedipalpebolaaDoorPNext
import Derived.Test.YtpedipalpebolaaDoorVAppG
namespace Go.Proofs.YtpedipalpebolaaDoor
open Go.RowKit
set_option linter.unusedVariables false
set_option linter.unusedSimpArgs false

/-- The places of the offsets up to one. -/
def placesP (l : List UInt8) (k : Nat) : List (Nat × Nat × Nat) := (List.range k).map fun j => (j, (M.atP l j).1, (M.atP l j).2)
theorem placesP_len (l : List UInt8) (k : Nat) : (placesP l k).length = k := by simp [placesP]
theorem placesP_succ (l : List UInt8) (k : Nat) : placesP l (k + 1) = placesP l k ++ [(k, (M.atP l k).1, (M.atP l k).2)] := by
  unfold placesP; rw [List.range_succ, List.map_append]; rfl
theorem placesP_one (l : List UInt8) : placesP l 1 = [(0, 0, 0)] := by
  unfold placesP
  have : M.atP l 0 = (0, 0) := by unfold M.atP; rw [M.goP_stop _ _ _ _ (by simp)]
  simp [List.range_succ, this]
theorem placesP_at (l : List UInt8) (k j : Nat) (hj : j < k) : (placesP l k)[j]'(by rw [placesP_len]; exact hj) = (j, (M.atP l j).1, (M.atP l j).2) := by simp [placesP]
def AlP (w : World) (l : List (Nat × Nat × Nat)) (e : Ending) (w' : World) : Prop := ∃ v', e = .returned v' ∧ OwnL w.heap.size w' v' l ∧ Below w.heap.size w w'
theorem ownL_made (w : World) (cap : Nat) (h0 : 1 ≤ cap) (hc : cap ≤ 4194304) : OwnL w.heap.size (w.alloc (.cells (madeCells #[.int .i64 0, .int .i64 0, .int .i64 0] (cap * 3)) 43)) (.slice (some ⟨w.heap.size, 0, none⟩) 1 cap) [(0, 0, 0)] := by
  refine ⟨⟨rfl, .inr ⟨w.heap.size, cap, _, rfl, Nat.le_refl _, heap_alloc_new w _, h0, by unfold maxLen; omega, by rw [size_madeCells], ?_⟩⟩, map_len (f := plv) (fun _ => rfl) _, map_one plv_one _⟩
  obtain ⟨c, rfl⟩ : ∃ c, cap = c + 1 := ⟨cap - 1, by omega⟩
  apply List.ext_getElem
  · simp [size_madeCells, plv]; omega
  · intro j h1 h2
    have hj : j < 3 := by simpa [plv] using h2
    have : j = 0 ∨ j = 1 ∨ j = 2 := by omega
    rcases this with rfl | rfl | rfl <;> simp [madeCells, plv]
theorem wpl_placeG {w : World} {ops : Array Oper} {rest : List Oper} {o : Oper} {a : Act} {Q : Exit → Act → World → Prop} (hgd : o.guard = none) (s x : Operand)
    (ho : o.op = .call { callee := .builtin .append, args := #[s, x], argTypes := #[38, 38] })
    (B : Nat) (v u : Value) (l t : List (Nat × Nat × Nat)) (p : Nat × Nat × Nat) (hs : a.eval s = v) (hown : OwnL B w v l) (hx : a.eval x = u) (hu : Vs 3 w u [plv p]) (hnn : NNv u)
    (hlen : l.length ≤ 4294967296) (hB : B ≤ w.heap.size) (ht : l ++ [p] = t)
    (h : ∀ v' w', OwnL B w' v' t → Below B w w' → (∀ j, j < w.heap.size → some j ≠ v.ownBlock → w'.heap[j]? = w.heap[j]?) → (v'.ownBlock = v.ownBlock ∨ v'.ownBlock = some w.heap.size) → wpList Tryd.prog ops Q rest (a.put o.dst v') w') : wpList Tryd.prog ops Q (o :: rest) a w :=
  wpl_appendVG hgd s x ho Tryd.underlying38 infoPl rfl (by decide) B v u (l.map plv) [plv p] (t.map plv) hs hown hx hu hnn (map_len (f := plv) (fun _ => rfl) [p]) (map_one plv_one [p]) (by simp; omega) (by decide) hB (by rw [← ht]; simp) h
theorem ownsV_alloc {E sz B : Nat} {w : World} {v : Value} {l : List (List Value)} (h : OwnV E sz B w v l) (o : Obj) : OwnV E sz B (w.alloc o) v l := OwnV.keep h ((Below.refl _ _).alloc (Nat.le_refl _) o)
/-- A block of one place, with leave to write. -/
def PlAt (w : World) (b o k c : Nat) : Prop := w.cell? ⟨b, 0, none⟩ = some (.int .i64 (o : Int)) ∧ w.cell? ⟨b, 1, none⟩ = some (.int .i64 (k : Int)) ∧ w.cell? ⟨b, 2, none⟩ = some (.int .i64 (c : Int)) ∧ ∀ j, w.frozen? ⟨b, j, none⟩ = false
theorem plAt_same {w w' : World} {b o k c : Nat} (h : PlAt w b o k c) (hb : w'.heap[b]? = w.heap[b]?) : PlAt w' b o k c :=
  ⟨by rw [World.cell?_of_block hb]; exact h.1, by rw [World.cell?_of_block hb]; exact h.2.1, by rw [World.cell?_of_block hb]; exact h.2.2.1, fun j => by rw [← h.2.2.2 j]; simp only [World.frozen?, hb]⟩
theorem plAt_keep {w w' : World} {b o k c : Nat} (h : PlAt w b o k c) (hlt : b < w.heap.size) (hb : Below w.heap.size w w') : PlAt w' b o k c := plAt_same h (hb.block b hlt)
theorem plAt_set {w : World} {b o k c o2 k2 c2 : Nat} (h : PlAt w b o k c) (hlt : b < w.heap.size) :
    PlAt (((w.setCell ⟨b, 0, none⟩ (.int .i64 (o2 : Int))).setCell ⟨b, 1, none⟩ (.int .i64 (k2 : Int))).setCell ⟨b, 2, none⟩ (.int .i64 (c2 : Int))) b o2 k2 c2 := by
  obtain ⟨h0, h1, h2, h3⟩ := h
  have z := h3
  refine ⟨?_, ?_, ?_, fun j => ?_⟩ <;> simp [go_sem, h0, h1, h2, h3]
set_option maxRecDepth 100000 in
set_option maxHeartbeats 4000000 in
theorem pall_any (v : Value) (l : List UInt8) (w : World) (hT : Tabs w) (hv : Bs w v l) (hl : l.length ≤ 1048576) :
    Calls Tryd.prog 11 #[v] w (AlP w (placesP l (l.length + 1))) := by
  obtain ⟨i0, hi0, hz0, hz1, hz2⟩ := info_parts infoPl
  have hv2 := hv
  obtain ⟨a, cap, rfl, h1, h2, h3⟩ := hv2
  obtain ⟨n, hn⟩ : ∃ n, l.length = n := ⟨_, rfl⟩
  have hmk : ∀ u : World, (Instr.makeSlice 38 (.int .i64 1) (.int .i64 ((n : Int) + 1))).run Tryd.prog u = .ok (.slice (some ⟨u.heap.size, 0, none⟩) 1 (n + 1)) (u.alloc (.cells (madeCells #[.int .i64 0, .int .i64 0, .int .i64 0] ((n + 1) * 3)) 43)) := fun u => by
    have h := run_make (P := Tryd.prog) u 38 43 i0 _ Tryd.underlying38 hi0 hz0 .i64 .i64 1 ((n : Int) + 1) (by omega) (by omega) (by rw [hz2]; omega) (by omega)
    have e : ((n : Int) + 1).toNat = n + 1 := by omega
    rw [e] at h
    simpa [hz1, Value.cells] using h
  have ho0 := ownL_made w (n + 1) (by omega) (by omega)
  rw [← placesP_one l] at ho0
  have HO0 := Lib.hid ho0
  have HN := Lib.hid hn
  have HT := Lib.hid hT
  have HV := Lib.hid hv
  rw [hn] at h1 hl ⊢
  clear h3 hv hT hn hi0 hz0 hz1 hz2 ho0
  go_enter Tryd.func11, Tryd.ntmps11
  go_wp2
  go_loopw [3] (fun av wr => ∃ (f o k c : Nat), o ≤ n ∧ M.Rch l f o k c ∧ k ≤ o ∧ c ≤ 2 * o ∧ OwnL w.heap.size wr av (placesP l (o + 1)) ∧ av.ownBlock ≠ some (w.heap.size + 1) ∧ PlAt wr (w.heap.size + 1) o k c ∧ w.heap.size + 1 < wr.heap.size ∧ Below w.heap.size w wr)
    (fun _ wr => match wr.cell? ⟨w.heap.size + 1, 0, none⟩ with | some (.int _ o) => n - o.toNat | _ => 0)
  case atStart =>
    refine ⟨n, 0, 0, 0, by omega, by have h := M.Rch.start l; rwa [HN.out] at h, by omega, by omega, ownsV_alloc HO0.out _, by simp [Value.ownBlock], ?_, by simp, ((Below.refl _ _).alloc (Nat.le_refl _) _).alloc (by simp) _⟩
    refine ⟨?_, ?_, ?_, fun j => ?_⟩
    · rw [World.cell?_alloc_at _ _ _ _ (by simp)]; rfl
    · rw [World.cell?_alloc_at _ _ _ _ (by simp)]; rfl
    · rw [World.cell?_alloc_at _ _ _ _ (by simp)]; rfl
    · exact World.frozen?_alloc_at _ _ _ _ (by simp)
  case round =>
    obtain ⟨f, o, k, c, ho, hrc, hk, hc, hown, hne, hpl, hs, hb⟩ := hrel
    have hbz := hb.size
    by_cases hlt : o < n
    · obtain ⟨o2, k2, c2, hst⟩ : ∃ o2 k2 c2, M.stepP l (o, k, c) = (o2, k2, c2) := ⟨_, _, _, rfl⟩
      have hbo := M.stepP_le l (o, k, c) (by rw [HN.out]; exact hlt)
      have hbo2 := M.stepP_off l (o, k, c)
      have hk2 : k2 ≤ o2 ∧ c2 ≤ 2 * o2 := by
        have hw := (M.dec_width (l.drop o)).1
        have hu : M.unitsOf (M.dec (l.drop o)).1 ≤ 2 := by unfold M.unitsOf; split <;> omega
        unfold M.stepP at hst
        split at hst <;> (simp only [Prod.mk.injEq] at hst; omega)
      rw [hst] at hbo hbo2
      rw [HN.out] at hbo
      simp only at hbo hbo2
      have hin := fun t h1 h2 => hrc.within (by rw [HN.out]; exact hlt) hst t h1 h2
      have hrc2 := hrc.step (by rw [HN.out]; exact hlt) hst
      have NX := Lib.hid (pnext_any _ l o k c _ wr (HT.out.keep hb) (HV.out.keep hb) (by rw [HN.out]; exact hlt) (by rw [HN.out]; omega) (by omega) (by omega) hst)
      rw [HN.out] at NX
      obtain ⟨g0, g1, g2, gz⟩ := id hpl
      have HPL := Lib.hid hpl
      have HIN := Lib.hid hin
      have HRC := Lib.hid hrc2
      have HOW := Lib.hid hown
      have HNE := Lib.hid hne
      clear hst hin hrc2 hrc hown hne hpl gz
      go_wp2_with fail
      refine NX.out.mono ?_
      rintro e w2 ⟨rfl, hb2⟩
      unfold plc
      have hpl2 := plAt_keep HPL.out hs hb2
      have hs2 := hb2.size
      obtain ⟨q0, q1, q2, qz⟩ := id hpl2
      have z0 := qz 0
      have z1 := qz 1
      have z2 := qz 2
      have hs3 : w.heap.size + 1 < w2.heap.size := by omega
      have hpl3 := plAt_set (o2 := o2) (k2 := k2) (c2 := c2) hpl2 hs3
      have hb3 := (((hb.trans (hb2.mono hbz)).setCell (p := ⟨w.heap.size + 1, 0, none⟩) (by simp) (.int .i64 (o2 : Int))).setCell (p := ⟨w.heap.size + 1, 1, none⟩) (by simp) (.int .i64 (k2 : Int))).setCell (p := ⟨w.heap.size + 1, 2, none⟩) (by simp) (.int .i64 (c2 : Int))
      have how3 := OwnV.setOther (OwnV.setOther (OwnV.setOther (HOW.out.keep hb2) ⟨w.heap.size + 1, 0, none⟩ (.int .i64 (o2 : Int)) HNE.out) ⟨w.heap.size + 1, 1, none⟩ (.int .i64 (k2 : Int)) HNE.out) ⟨w.heap.size + 1, 2, none⟩ (.int .i64 (c2 : Int)) HNE.out
      obtain ⟨a3, cap3, hv3⟩ : ∃ a cap, u3 = .slice a (o + 1) cap := by
        obtain ⟨a, cap, h, _⟩ := lsAt_of HOW.out
        rw [placesP_len] at h
        exact ⟨a, cap, h⟩
      subst hv3
      have HPL3 := Lib.hid hpl3
      have HB3 := Lib.hid hb3
      have HOW3 := Lib.hid how3
      have g4 : (((w2.setCell ⟨w.heap.size + 1, 0, none⟩ (.int .i64 (o2 : Int))).setCell ⟨w.heap.size + 1, 1, none⟩ (.int .i64 (k2 : Int))).setCell ⟨w.heap.size + 1, 2, none⟩ (.int .i64 (c2 : Int))).heap.size = w2.heap.size := by simp
      have G4 := Lib.hid g4
      clear hpl2 hpl3 hb3 how3 qz hb2 hb g0 g1 g2 g4
      go_wp2
      obtain ⟨W, hW⟩ : ∃ W, ((w2.setCell ⟨w.heap.size + 1, 0, none⟩ (.int .i64 (o2 : Int))).setCell ⟨w.heap.size + 1, 1, none⟩ (.int .i64 (k2 : Int))).setCell ⟨w.heap.size + 1, 2, none⟩ (.int .i64 (c2 : Int)) = W := ⟨_, rfl⟩
      rw [hW] at HPL3 HB3 HOW3 G4 ⊢
      clear hW q0 q1 q2 z0 z1 z2
      have hWs : w.heap.size + 1 < W.heap.size := by rw [G4.out]; exact hs3
      go_loopw [3, 5] (fun av fv wx => ∃ m : Nat, fv = .int .i64 (m : Int) ∧ o + 1 ≤ m ∧ m ≤ o2 + 1 ∧ OwnL w.heap.size wx av (placesP l m) ∧ av.ownBlock ≠ some (w.heap.size + 1) ∧ PlAt wx (w.heap.size + 1) o2 k2 c2 ∧ w.heap.size + 1 < wx.heap.size ∧ Below w.heap.size w wx) (fun _ fv _ => o2 + 1 - (intOf fv).toNat)
      case atStart => exact ⟨o + 1, by go_num, by omega, by omega, HOW3.out, HNE.out, HPL3.out, hWs, HB3.out⟩
      case round =>
        obtain ⟨m, rfl, hm1, hm2, howx, hnex, hplx, hsx, hbx⟩ := hrel
        have hbxz := hbx.size
        obtain ⟨g0, g1, g2, gz⟩ := id hplx
        have HPX := Lib.hid hplx
        have HOX := Lib.hid howx
        have HNX := Lib.hid hnex
        by_cases hmlt : m ≤ o2
        · have m1 : (m : Int) ≤ o2 := by omega
          have hpt : placesP l m ++ [(m, k2, c2)] = placesP l (m + 1) := by
            rw [placesP_succ, HIN.out m (by omega) hmlt]
          have HPT := Lib.hid hpt
          have hpl9 : (placesP l m).length ≤ 4294967296 := by rw [placesP_len]; omega
          obtain ⟨pls, hpls⟩ : ∃ x, placesP l m = x := ⟨_, rfl⟩
          rw [hpls] at HOX HPT hpl9
          clear hplx howx hnex hpt gz hpls
          go_wp2_with (at_builtin; refine wpl_placeG rfl _ _ rfl w.heap.size _ (.slice (some ⟨wr.heap.size, 0, none⟩) 1 1) pls (placesP l (m + 1)) (m, k2, c2) rfl (OwnL.keep HOX.out ((Below.refl _ _).alloc (Nat.le_refl _) _)) rfl (one_place wr m k2 c2) (nnv_some _ _ _) hpl9 (by simp; omega) HPT.out ?_)
          intro v6 w6 ho6 hb6 hg6 hw6
          have hal : Below wr.heap.size wr (wr.alloc (.cells #[.int .i64 (m : Int), .int .i64 (k2 : Int), .int .i64 (c2 : Int)] 43)) := (Below.refl _ _).alloc (Nat.le_refl _) _
          have hb7 := (hbx.trans (hal.mono hbxz)).trans hb6
          have hne6 : v6.ownBlock ≠ some (w.heap.size + 1) := by
            rcases hw6 with h | h
            · rw [h]; exact HNX.out
            · rw [h]; simp; omega
          have hpl6 : PlAt w6 (w.heap.size + 1) o2 k2 c2 := plAt_same (plAt_keep HPX.out hsx hal) (hg6 _ (by simp; omega) (fun h => HNX.out h.symm))
          have hs6 : w.heap.size + 1 < w6.heap.size := by
            obtain ⟨h, _⟩ := hpl6
            exact World.block_lt_of_cell? w6 _ h
          have H1 := Lib.hid hne6
          have H2 := Lib.hid hpl6
          have H3 := Lib.hid hb7
          have H4 := Lib.hid ho6
          clear hal hb7 hne6 hpl6 hw6 hg6 hb6 ho6 g0 g1 g2
          go_wp2
          go_roundw
          case rel => exact ⟨m + 1, by go_num, by omega, by omega, H4.out, H1.out, H2.out, hs6, H3.out⟩
          case measure => simp [intOf]; omega
        · obtain rfl : m = o2 + 1 := by omega
          have m1 : ¬ ((o2 + 1 : Nat) : Int) ≤ o2 := by omega
          have m2 : decide (((o2 + 1 : Nat) : Int) ≤ o2) = false := by simp; omega
          clear howx hnex hplx gz
          go_wp2
          go_roundw
          case rel => exact ⟨f - 1, o2, k2, c2, hbo, HRC.out, hk2.1, hk2.2, HOX.out, HNX.out, HPX.out, hsx, hbx⟩
          case measure =>
            rw [HPX.out.1, HPL.out.1]
            simp
            omega
    · obtain rfl : o = n := by omega
      obtain ⟨g0, g1, g2, gz⟩ := id hpl
      have HOW := Lib.hid hown
      have HB := Lib.hid hb
      clear hown hne hpl gz hb hrc
      go_wp2
      go_ret
      exact ⟨_, rfl, HOW.out, HB.out⟩
end Go.Proofs.YtpedipalpebolaaDoor
