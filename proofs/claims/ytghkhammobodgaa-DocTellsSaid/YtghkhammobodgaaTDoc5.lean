/- Documents: doc.Cat of what has no kids, whole. -/
import Derived.Test.YtghkhammobodgaaTDoc4
import Derived.Deep.DeepCutAuto
namespace Go.Proofs.Ytghkhammobodgaa
open Go.RowKit
set_option linter.unusedVariables false
set_option linter.unusedSimpArgs false

/-- On the way: the kids' row, the document, the result's block. -/
def CatS (w : World) (B0 b5 : Nat) (k : Int) (v1 : Value) (l : List Lf) (wr : World) : Prop :=
  OwnD B0 wr v1 l ∧ DB wr b5 (dv k 0 ⟨#[]⟩ v1) ∧ DB wr w.heap.size (dv 0 0 ⟨#[]⟩ (.slice none 0 0)) ∧ Below w.heap.size w wr
theorem CatS.go {w : World} {B0 b5 B : Nat} {k : Int} {v1 : Value} {l : List Lf} {wr w' : World} (h : CatS w B0 b5 k v1 l wr) (hb : Below B wr w') (hB : B ≤ wr.heap.size) (h5 : b5 < B) (hw : w.heap.size < B) (hv : ∀ g, v1.ownBlock = some g → g < B) : CatS w B0 b5 k v1 l w' := by
  obtain ⟨⟨h1, h1b, h1c⟩, h2, h3, h4⟩ := h
  refine ⟨⟨?_, h1b, h1c⟩, h2.keep hb h5, h3.keep hb hw, h4.trans (hb.mono (by omega))⟩
  obtain ⟨hx, h0 | ⟨g, cap, cur, he, hg, hh, r⟩⟩ := h1
  · exact ⟨hx, .inl h0⟩
  · exact ⟨hx, .inr ⟨g, cap, cur, he, hg, by rw [hb.block g (hv g (by rw [he]; rfl))]; exact hh, r⟩⟩
theorem dv_one (k f : Int) (S : ByteArray) (v : Value) (h : v.oneCell' = true) : (dv k f S v).all (·.oneCell') = true := by
  rw [Array.all_eq_true_iff_forall_mem]
  intro x hx
  simp only [dv, List.mem_toArray, List.mem_cons, List.mem_nil_iff, or_false] at hx
  rcases hx with rfl | rfl | rfl | rfl
  · rfl
  · rfl
  · rfl
  · exact h
theorem ownD_setRow {B : Nat} {w : World} {v : Value} {l : List Lf} (h : OwnD B w v l) (b : Nat) (cs : Array Value) (hv : ∀ g, v.ownBlock = some g → g ≠ b) : OwnD B (w.setRow b cs) v l := by
  obtain ⟨⟨hx, h1⟩, h1b, h1c⟩ := h
  refine ⟨⟨hx, ?_⟩, h1b, h1c⟩
  rcases h1 with h0 | ⟨g, cap, cur, he, hg, hh, r⟩
  · exact .inl h0
  · exact .inr ⟨g, cap, cur, he, hg, by rw [setRow_other w b g cs (hv g (by rw [he]; rfl))]; exact hh, r⟩
set_option maxRecDepth 100000 in
set_option maxHeartbeats 8000000 in
theorem cat_any (k : Int) (v : Value) (l : List Lf) (w : World) (hv : Ds w v l) (h0 : 0 < l.length) (hl : l.length ≤ 1000) :
    Calls Try.prog 22 #[.int .i64 k, v] w fun e w' => ∃ v', e = .returned (.agg (dv k 0 ⟨#[]⟩ v')) ∧ Ds w' v' l ∧ Below w.heap.size w w' := by
  obtain ⟨n, hn⟩ : ∃ n, l.length = n := ⟨_, rfl⟩
  have b0 := Lib.hid ((Below.refl w.heap.size w).alloc (Nat.le_refl _) (.cells #[.int .i64 0, .int .i64 0, .string ⟨#[]⟩, .slice none 0 0] 24))
  have db0 := Lib.hid (DB.new w #[.int .i64 0, .int .i64 0, .string ⟨#[]⟩, .slice none 0 0])
  obtain ⟨W0, hW0⟩ : ∃ W, w.alloc (.cells #[.int .i64 0, .int .i64 0, .string ⟨#[]⟩, .slice none 0 0] 24) = W := ⟨_, rfl⟩
  have z0 := Lib.hid (show W0.heap.size = w.heap.size + 1 by rw [← hW0]; simp)
  rw [hW0] at b0 db0
  have HW0 := Lib.hid hW0
  have CL := Lib.hid (clone_any v l W0 (Vs.keep hv b0.out) h0 hl)
  have HN := Lib.hid hn
  rw [hn] at h0 hl
  clear hv hn hW0
  go_enter Try.func22, Try.ntmps22
  go_wp2_with fail
  rw [HW0.out]
  refine (CL.out).mono ?_
  rintro e w1 ⟨v1, rfl, ho1, hb1⟩
  have b1 := Lib.hid (b0.out.trans (hb1.mono b0.out.size))
  have db1 := Lib.hid (db0.out.keep hb1 (by rw [z0.out]; omega))
  have z1 := Lib.hid hb1.size
  obtain ⟨g1, cap1, rfl, hg1a, hg1b⟩ : ∃ g cap, v1 = .slice (some ⟨g, 0, none⟩) n cap ∧ W0.heap.size ≤ g ∧ g < w1.heap.size := by
    obtain ⟨ho, _, _⟩ := ho1
    have hlt := World.ownsRow.lt ho
    obtain ⟨_, ⟨rfl, h1⟩ | ⟨g, cap, cur, rfl, _⟩⟩ := ho
    · rw [List.length_map, HN.out] at h1; omega
    · rw [List.length_map, HN.out]; exact ⟨g, cap, rfl, (hlt g rfl).1, (hlt g rfl).2⟩
  -- the document's block, and the list of lists
  have b2 := Lib.hid (b1.out.alloc b1.out.size (.cells #[.int .i64 k, .int .i64 0, .string ⟨#[]⟩, (.slice (some ⟨g1, 0, none⟩) n cap1)] 24))
  have db2 := Lib.hid (db1.out.keep ((Below.refl w1.heap.size w1).alloc (Nat.le_refl _) (.cells #[.int .i64 k, .int .i64 0, .string ⟨#[]⟩, (.slice (some ⟨g1, 0, none⟩) n cap1)] 24)) (by have := z1.out; rw [z0.out] at this; omega))
  have dd2 := Lib.hid (DB.new w1 #[.int .i64 k, .int .i64 0, .string ⟨#[]⟩, (.slice (some ⟨g1, 0, none⟩) n cap1)])
  have do2 := Lib.hid (OwnV.keep ho1 ((Below.refl w1.heap.size w1).alloc (Nat.le_refl _) (.cells #[.int .i64 k, .int .i64 0, .string ⟨#[]⟩, (.slice (some ⟨g1, 0, none⟩) n cap1)] 24)))
  obtain ⟨W2, hW2⟩ : ∃ W, w1.alloc (.cells #[.int .i64 k, .int .i64 0, .string ⟨#[]⟩, (.slice (some ⟨g1, 0, none⟩) n cap1)] 24) = W := ⟨_, rfl⟩
  have z2 := Lib.hid (show W2.heap.size = w1.heap.size + 1 by rw [← hW2]; simp)
  rw [hW2] at b2 db2 dd2 do2
  have HW2 := Lib.hid hW2
  obtain ⟨b5, hb5⟩ : ∃ b, w1.heap.size = b := ⟨_, rfl⟩
  have HB5 := Lib.hid hb5
  have CS2 : Hid (CatS w W0.heap.size b5 k (.slice (some ⟨g1, 0, none⟩) n cap1) l W2) := Lib.hid ⟨do2.out, by rw [← hb5]; exact dd2.out, db2.out, b2.out⟩
  have c53 : W2.cell? ⟨b5, 3, none⟩ = some (.slice (some ⟨g1, 0, none⟩) n cap1) := CS2.out.2.1.cell 3
  have b3 := Lib.hid ((Below.refl W2.heap.size W2).alloc (Nat.le_refl _) (.cells #[(.slice (some ⟨g1, 0, none⟩) n cap1)] 22))
  have OL0 : Hid (OwnL W2.heap.size (W2.alloc (.cells #[(.slice (some ⟨g1, 0, none⟩) n cap1)] 22)) (.slice (some ⟨W2.heap.size, 0, none⟩) 1 1) [(.slice (some ⟨g1, 0, none⟩) n cap1)]) := Lib.hid ⟨World.ownsRow_lit W2 #[(.slice (some ⟨g1, 0, none⟩) n cap1)] 1 (Nat.le_refl _) (by decide) rfl, by simp, by simp; rfl⟩
  obtain ⟨W3, hW3⟩ : ∃ W, W2.alloc (.cells #[(.slice (some ⟨g1, 0, none⟩) n cap1)] 22) = W := ⟨_, rfl⟩
  have HW3 := Lib.hid hW3
  rw [hW3] at b3 OL0
  have hwB : Hid (w.heap.size < W2.heap.size) := Lib.hid (by have := z0.out; have := z1.out; have := z2.out; omega)
  have h5B : Hid (b5 < W2.heap.size) := Lib.hid (by rw [z2.out]; omega)
  have hvB : Hid (∀ g, (Value.slice (some ⟨g1, 0, none⟩) n cap1).ownBlock = some g → g < W2.heap.size) := Lib.hid (by intro g hg; simp [Value.ownBlock] at hg; rw [z2.out]; omega)
  have CS3 : Hid (CatS w W0.heap.size b5 k (.slice (some ⟨g1, 0, none⟩) n cap1) l W3) := Lib.hid (CS2.out.go b3.out (Nat.le_refl _) h5B.out hwB.out hvB.out)
  have z3 := Lib.hid (show W2.heap.size ≤ W3.heap.size from b3.out.size)
  have hgB : Hid (g1 < W2.heap.size) := Lib.hid (by rw [z2.out]; omega)
  clear hW2 hb1 ho1 hW3 CS2 hb5
  go_upto_region 2 with fail
  rw [HW2.out, HB5.out]
  go_upto_region 3 with fail
  rw [HW3.out]
  obtain ⟨bB, hbB⟩ : ∃ b, W2.heap.size = b := ⟨_, rfl⟩
  rw [hbB] at OL0 z3 hwB h5B hvB hgB b3
  have HBB := Lib.hid hbB
  clear hbB
  go_upto_region 3 with fail
  (try rw [HBB.out])
  have PN := Lib.hid (fun W => clonenil_any W)
  have Hbne := Lib.hid (show b5 ≠ g1 by rw [← HB5.out]; omega)
  have Hwne := Lib.hid (show w.heap.size ≠ g1 by have := z0.out; omega)
  have Hwg := Lib.hid (show w.heap.size ≤ g1 by have := z0.out; omega)
  clear b1 db1 z1 b2 db2 dd2 do2 z2 b0 db0 CL z0 hg1a hg1b HW2 HB5 HW3
  go_loopg [6, 7, 8] (n + 1) (fun g sv _ _ wr => CatS w W0.heap.size b5 k (.slice (some ⟨g1, 0, none⟩) n cap1) l wr ∧ bB ≤ wr.heap.size ∧ ((g = n + 1 ∧ OwnL bB wr sv [.slice (some ⟨g1, 0, none⟩) n cap1]) ∨ (g ≤ n ∧ OwnL bB wr sv (List.replicate g (.slice none 0 0)))))
  case atStart => exact ⟨CS3.out, z3.out, .inl ⟨rfl, OL0.out⟩⟩
  case round =>
    obtain ⟨hcs, hz, hway⟩ := hrel
    have HCS := Lib.hid hcs
    have HZ := Lib.hid hz
    clear hcs hz
    rcases hway with ⟨rfl, ho⟩ | ⟨hg, ho⟩
    · obtain ⟨gs, caps, hsv, hgs1, hgs2, hgs3, hgs4⟩ := ownL_form ho (by simp)
      simp only [List.length_singleton] at hsv
      subst hsv
      obtain ⟨hp1, hp2⟩ := ownL_pop (l := []) ho
      simp only [List.length_nil] at hp1 hp2
      have HP1 := Lib.hid hp1
      clear ho hp1
      go_wp2
      go_loopg [6, 8, 32] n (fun g sv _ iv wx => ∃ j : Nat, iv = .int .i64 (j : Int) ∧ g + j = n ∧ CatS w W0.heap.size b5 k (.slice (some ⟨g1, 0, none⟩) n cap1) l wx ∧ bB ≤ wx.heap.size ∧ OwnL bB wx sv (List.replicate j (.slice none 0 0)))
      case atStart => exact ⟨0, rfl, by omega, HCS.out, HZ.out, HP1.out⟩
      case round =>
        obtain ⟨j, rfl, hgj, hcs, hz, ho⟩ := hrel
        have HC2 := Lib.hid hcs
        have HZ2 := Lib.hid hz
        clear hcs hz
        by_cases hlt : j < n
        · have hjl : j < l.length := by rw [HN.out]; exact hlt
          have hod := HC2.out.1
          obtain ⟨a', cap', hsl, -, -, hds⟩ := ds_get (OwnV.vs hod) HN.out
          simp only [Value.slice.injEq] at hsl
          obtain ⟨rfl, -, rfl⟩ := hsl
          obtain ⟨b', off', hab, -, -, -, -, q3⟩ := hds j hjl
          simp only [Option.some.injEq, Addr.mk.injEq, and_true] at hab
          obtain ⟨rfl, rfl⟩ := hab
          rw [Nat.zero_add] at q3
          have hfr := World.ownsRow.frozenAt (by have := hod.1; rw [List.length_map, HN.out] at this; exact this) (j * 4 + 3)
          have hst := World.ownsRow.stored (by have := hod.1; rw [List.length_map, HN.out] at this; exact this) (j * 4 + 3) (.slice none 0 0)
          have hflat : (l.map lfv).flatten[j * 4 + 3]? = some (.slice none 0 0) := by
            rw [flat_get (l.map lfv) (lfv_four l) j (by simpa using hjl) 3 (by decide)]
            simp [lfv]
          have hset : (l.map lfv).flatten.set (j * 4 + 3) (.slice none 0 0) = (l.map lfv).flatten := by
            apply List.ext_getElem?
            intro i
            rw [List.getElem?_set]
            split
            · rename_i h; subst h
              split
              · exact hflat.symm
              · rename_i hh; rw [List.getElem?_eq_none (by omega)]
            · rfl
          rw [hset] at hst
          have hne : u6.ownBlock ≠ some g1 := by
            intro h
            have := (World.ownsRow.lt ho.1 g1 h).1
            have := hgB.out
            omega
          have HS1 : Hid (CatS w W0.heap.size b5 k (.slice (some ⟨g1, 0, none⟩) n cap1) l (wr.setCell ⟨g1, j * 4 + 3, none⟩ (.slice none 0 0))) := Lib.hid ⟨⟨by rw [List.length_map, HN.out]; exact hst.1, hod.2.1, hod.2.2⟩, HC2.out.2.1.other Hbne.out _ _, HC2.out.2.2.1.other Hwne.out _ _, HC2.out.2.2.2.setCell (by have := Hwg.out; omega) _⟩
          have HO1 : Hid (OwnL bB (wr.setCell ⟨g1, j * 4 + 3, none⟩ (.slice none 0 0)) u6 (List.replicate j (.slice none 0 0))) := Lib.hid ⟨ownsRow_setCell_other ho.1 hne _, ho.2.1, ho.2.2⟩
          have qS : (wr.setCell ⟨g1, j * 4 + 3, none⟩ (.slice none 0 0)).cell? ⟨g1, j * 4 + 3, none⟩ = some (.slice none 0 0) := World.cell?_setCell_same _ _ _ q3
          obtain ⟨wS, hwS⟩ : ∃ W, wr.setCell ⟨g1, j * 4 + 3, none⟩ (.slice none 0 0) = W := ⟨_, rfl⟩
          have HWS := Lib.hid hwS
          rw [hwS] at HS1 HO1 qS
          have zS := Lib.hid (show bB ≤ wS.heap.size by rw [← hwS]; have := HZ2.out; simpa using this)
          have j0 : (0 : Int) ≤ j := by omega
          have j1 : (j : Int) < n := by omega
          clear hds hod hst hflat hset hne hwS ho hjl
          as_aux_lemma =>
            go_wp2_with fail
            refine (PN.out _).mono ?_
            rintro e w' ⟨rfl, rfl⟩
            go_upto_region 10 with fail
            rw [HWS.out]
            have hB4 := Lib.hid ((Below.refl bB wS).alloc zS.out (.cells #[.slice none 0 0] 22))
            have HO2 := Lib.hid (OwnV.keep HO1.out ((Below.refl wS.heap.size wS).alloc (Nat.le_refl _) (.cells #[.slice none 0 0] 22)))
            go_wp2_with (at_builtin; refine wpl_appendV rfl _ _ rfl Try.underlying58 infoSl rfl (by decide) bB u6 (.slice (some ⟨wS.heap.size, 0, none⟩) 1 1) ((List.replicate j (Value.slice none 0 0)).map fun u => [u]) [[.slice none 0 0]] ((List.replicate (j + 1) (Value.slice none 0 0)).map fun u => [u]) rfl HO2.out rfl (vs_cells 1 22 wS [[.slice none 0 0]] #[.slice none 0 0] 1 rfl (by simp) rfl (by simp)) (nnv_some _ _ _) (by simp) (by simp; rfl) (by simp; omega) (by decide) (Nat.le_trans zS.out hB4.out.size) (by rw [List.replicate_succ', List.map_append]; rfl) ?_)
            intro v2 w2 ho2 hb2
            have hb3 := hB4.out.trans hb2
            have hfin := HS1.out.go hb3 zS.out h5B.out hwB.out hvB.out
            have hz3 : bB ≤ w2.heap.size := Nat.le_trans zS.out hb3.size
            clear hb2 hb3
            go_wp2
            go_roundg (n - (j + 1))
            case rel => exact ⟨j + 1, by go_num, by omega, hfin, hz3, by unfold OwnL; rw [List.map_replicate]; exact ho2⟩
            case measure => omega
        · obtain rfl : j = n := by omega
          have t1 : decide ((j : Int) < j) = false := by simp
          clear hlt
          as_aux_lemma =>
            go_wp2
            go_roundg j
            case rel => exact ⟨HC2.out, HZ2.out, .inr ⟨Nat.le_refl _, ho⟩⟩
            case measure => omega
    · rcases Nat.eq_zero_or_pos gk with hg0 | hg0
      · subst hg0
        obtain ⟨a6, c6, hsv⟩ : ∃ a c, u6 = .slice a 0 c := by
          obtain ⟨_, ⟨h, h0⟩ | ⟨g, cap, cur, h, _⟩⟩ := ho.1
          · exact ⟨none, 0, h⟩
          · exact ⟨_, cap, by rw [h]; rfl⟩
        subst hsv
        have hdb5 := HCS.out.2.1
        have hdbw := HCS.out.2.2.1
        have hod := Lib.hid (ownD_setRow HCS.out.1 w.heap.size (dv k 0 ⟨#[]⟩ (.slice (some ⟨g1, 0, none⟩) n cap1)) (by intro g hg; simp [Value.ownBlock] at hg; have := Hwne.out; omega))
        have hbl := Lib.hid (below_setRowD HCS.out.2.2.2 (Nat.le_refl w.heap.size) (dv k 0 ⟨#[]⟩ (.slice (some ⟨g1, 0, none⟩) n cap1)))
        clear ho hg
        as_aux_lemma =>
          go_wp2_with (first | (refine wpl_ldD rfl _ rfl b5 _ rfl hdb5 rfl ?_) | (refine wpl_stD rfl _ _ rfl w.heap.size _ (dv k 0 ⟨#[]⟩ (.slice (some ⟨g1, 0, none⟩) n cap1)) rfl rfl hdbw rfl rfl (dv_one _ _ _ _ rfl) ?_))
          (try simp only [Exit.inBlock, Exit.then])
          exact bodyPost_ret (res_doc rfl _ _ w.heap.size _ rfl (DB.set hdbw _) rfl) rfl ⟨_, rfl, OwnV.vs hod.out, hbl.out⟩
      · obtain ⟨m, rfl⟩ : ∃ m, gk = m + 1 := ⟨gk - 1, by omega⟩
        rw [List.replicate_succ'] at ho
        obtain ⟨gs, caps, hsv, hgs1, hgs2, hgs3, hgs4⟩ := ownL_form ho (by simp)
        simp only [List.length_append, List.length_replicate, List.length_singleton] at hsv hgs3
        unfold maxLen at hgs4
        have m4 : (m : Int) ≤ caps := by omega
        subst hsv
        have ho' : OwnL bB wr (.slice (some ⟨gs, 0, none⟩) ((List.replicate m (Value.slice none 0 0)).length + 1) caps) (List.replicate m (.slice none 0 0) ++ [.slice none 0 0]) := by rw [List.length_replicate]; exact ho
        obtain ⟨hp1, hp2⟩ := ownL_pop ho'
        simp only [List.length_replicate] at hp1 hp2
        have HP1 := Lib.hid hp1
        have m0 : (0 : Int) ≤ m := by omega
        have m1 : (m : Int) ≤ 1000 := by omega
        have m2 : (m : Int) + 1 - 1 = m := by omega
        have m3 : (0 : Int) < (m : Int) + 1 := by omega
        clear ho hp1 ho'
        as_aux_lemma =>
          go_wp2
          go_loopg [6, 8, 32] 0 (fun g sv _ iv wx => iv = .int .i64 0 ∧ sv = .slice (some ⟨gs, 0, none⟩) m caps ∧ wr = wx)
          case atStart => exact ⟨rfl, rfl, rfl⟩
          case round =>
            obtain ⟨rfl, rfl, rfl⟩ := hrel
            go_wp2
            go_roundg m
            case rel => exact ⟨HCS.out, HZ.out, .inr ⟨by omega, HP1.out⟩⟩
            case measure => omega
end Go.Proofs.Ytghkhammobodgaa
