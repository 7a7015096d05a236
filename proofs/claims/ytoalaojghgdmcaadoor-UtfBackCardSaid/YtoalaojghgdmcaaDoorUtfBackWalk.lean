/- The walk of UtfBack: what the call comes to, in any memory in which the tables are laid. -/
import Derived.Test.YtoalaojghgdmcaaDoorTied
import Derived.Test.YtoalaojghgdmcaaDoorUAlive
import Derived.WalkKit
import Derived.ProofKit
import Derived.OpenShut
import Derived.ShutString
import Derived.ChangeOld
import Derived.Below
import Derived.Test.YtoalaojghgdmcaaDoorUApp
import Derived.Test.YtoalaojghgdmcaaDoorUMath4
namespace Go.Proofs.YtoalaojghgdmcaaDoor.utfBack
open Go.ChangeShapes Go.WideShapes Go.ChangeAt Go.RowKit
open Go.ChangeMaps (open_string shut_string)
set_option linter.unusedVariables false

def IsRow (k : IntKind) (w : World) (a : Option Addr) (len cap : Nat) (zs : List Int) : Prop :=
  (a = none ∧ len = 0 ∧ cap = 0 ∧ zs = []) ∨
  ∃ x, a = some x ∧ len ≤ cap ∧ cap ≤ maxLen ∧ zs.length = cap ∧ (∀ i, i < zs.length → w.cell? (x.add i) = some (.int k (zs.getD i 0))) ∧ ∀ n ∈ zs, (Lit.int k n).wf = true

set_option maxRecDepth 100000 in
theorem out_of (a0 : Option Addr) (len0 cap0 : Nat) (i : Int) (w : World) (hT : Tabs w) (h : 60 < len0 ∨ (len0 ≤ 60 ∧ i < 0)) :
    Calls Tryd.prog 4 #[.slice a0 len0 cap0, .int .i64 i] w fun e w' => e = .returned (.bool true) ∧ Below w.heap.size w w' := by
  have HT := Lib.hid hT
  clear hT
  rcases h with h | ⟨h1, h2⟩
  all_goals
    go_enter Tryd.func4, Tryd.ntmps4
    go_wp2_with fail
    refine (alive_any _ HT.out).mono ?_
    rintro e w1 ⟨rfl, hb⟩
    go_wp2
    go_ret
    exact ⟨rfl, hb⟩

/-- The first m bytes of a slice are a slice of them. -/
theorem bs_take {w : World} {g cap n : Nat} {l : List UInt8} (h : Bs w (.slice (some ⟨g, 0, none⟩) n cap) l) (m : Nat) (hm : m ≤ l.length) : Bs w (.slice (some ⟨g, 0, none⟩) m cap) (l.take m) := by
  obtain ⟨a, c, he, h1, h2, h3⟩ := h
  simp only [Value.slice.injEq] at he
  obtain ⟨rfl, rfl, rfl⟩ := he
  have e : (l.take m).length = m := by rw [List.length_take]; omega
  refine ⟨_, _, by rw [e], by omega, h2, fun h0 => ?_⟩
  obtain ⟨b, off, hab, hb, hc⟩ := h3 (by omega)
  exact ⟨b, off, hab, hb, fun j hj => by rw [hc j (by omega)]; simp⟩

theorem own_keep {B : Nat} {w w' : World} {v : Value} {l : List UInt8} (h : OwnB B w v l) (hb : Below w.heap.size w w') : OwnB B w' v l := by
  have hlt := World.ownsRow.lt h
  obtain ⟨h1, h2 | ⟨g, cap, cur, rfl, hB, hh, h3⟩⟩ := h
  · exact ⟨h1, .inl h2⟩
  · exact ⟨h1, .inr ⟨g, cap, cur, rfl, hB, by rw [hb.block g (hlt g rfl).2]; exact hh, h3⟩⟩
theorem valid_part {B W : Nat} {w : World} {g cp : Nat} {z : Int} (ho : OwnB B w (.slice (some ⟨g, 0, none⟩) (M.enc z).length cp) (M.enc z)) (hz : M.isCP z = true) (hW : (M.enc z).length = W) (m : Nat) (hm : m < W) (ok : Bool) (hok : (m == 0) = ok) (hT : Tabs w) :
    ∃ n : Nat, Calls Tryd.prog 19 #[.slice (some ⟨g, 0, none⟩) m cp] w fun e w' => e = .returned (.tuple #[.int .i64 (n : Int), .bool ok]) ∧ Below w.heap.size w w' := by
  subst hok
  have hb := bs_take ho.bs m (by omega)
  have hv := M.valid_cut z hz m (by omega)
  refine ⟨_, valid_any _ _ (M.validAll ((M.enc z).take m)).1 (m == 0) w hT hb ?_ ?_⟩
  · have := List.length_take_le m (M.enc z); have := M.enc_le z; omega
  · rw [← hv]
theorem own_form {B : Nat} {w : World} {v : Value} {l : List UInt8} (h : OwnB B w v l) (h0 : 0 < l.length) : ∃ g cp, v = .slice (some ⟨g, 0, none⟩) l.length cp ∧ l.length ≤ cp := by
  obtain ⟨_, ⟨_, h1⟩ | ⟨g, cap, cur, rfl, _, _, h1, _⟩⟩ := h
  · omega
  · exact ⟨g, cap, rfl, h1⟩

set_option maxRecDepth 100000 in
set_option maxHeartbeats 4000000 in
theorem row_of (A : Option Addr) (len cap : Nat) (cut : Int) (zs : List Int) (w : World) (hT : Tabs w) (hl : len ≤ 60) (hlz : len ≤ zs.length) (hcut : 0 ≤ cut)
    (hc : 0 < len → ∃ b off, A = some ⟨b, off, none⟩ ∧ b < w.heap.size ∧ ∀ j, j < len → w.cell? ⟨b, off + j, none⟩ = some (.int .i64 (zs.getD j 0))) :
    Calls Tryd.prog 4 #[.slice A len cap, .int .i64 cut] w fun e w' => e = .returned (.bool true) ∧ Below w.heap.size w w' := by
  have q1 : decide (60 < (len : Int)) = false := by simp; omega
  have q2 : decide (cut < 0) = false := by simp; omega
  have q4 : decide (60 < len) = false := by simp; omega
  have HT := Lib.hid hT
  have Hc := Lib.hid hc
  clear hc hT
  go_enter Tryd.func4, Tryd.ntmps4
  go_wp2_with fail
  refine (alive_any _ HT.out).mono ?_
  rintro e w1 ⟨rfl, hb⟩
  go_wp2
  go_loopw [6, 7] (fun v iv wr => ∃ (i : Nat), i ≤ len ∧ iv = .int .i64 i ∧ (∀ j, j < i → M.isCP (zs.getD j 0) = true) ∧ OwnB w.heap.size wr v (M.encZ (zs.take i)) ∧ Below w.heap.size w wr) (fun _ iv _ => len - (intOf iv).toNat)
  case atStart => exact ⟨0, by omega, rfl, by omega, World.ownsRow_nil _ _ _ _, hb⟩
  case round =>
    obtain ⟨i, hi, rfl, hcp, ho, hbr⟩ := hrel
    have hel : (M.encZ (zs.take i)).length ≤ 240 := by have := M.encZ_len (zs.take i); have := List.length_take_le i zs; omega
    have hsz := hbr.size
    have Ho := Lib.hid ho
    have Hcp := Lib.hid hcp
    clear hcp ho
    by_cases hlt : i < len
    · obtain ⟨b, off, rfl, hbk, hcs⟩ := Hc.out (by omega)
      have hcell : wr.cell? ⟨b, off + i, none⟩ = some (.int .i64 (zs.getD i 0)) := by
        rw [hbr.cell (p := ⟨b, off + i, none⟩) hbk]; exact hcs i hlt
      have hsn := M.encZ_snoc zs i (by omega)
      obtain ⟨z, hzz⟩ : ∃ z, zs.getD i 0 = z := ⟨_, rfl⟩
      rw [hzz] at hcell hsn
      have Hz := Lib.hid hzz
      have Hsn := Lib.hid hsn
      clear hzz hsn hcs
      by_cases hz : M.isCP z = true
      · have hzr := (M.isCP_iff z).1 hz
        have z0 : 0 ≤ z := hzr.1
        have z1 : z ≤ 1114111 := hzr.2.1
        have z2 := hzr.2.2
        have hw := M.width_cases z hz
        have hnew : ∀ j, j < i + 1 → M.isCP (zs.getD j 0) = true := by
          intro j hj
          by_cases h : j = i
          · subst h; rw [Hz.out]; exact hz
          · exact Hcp.out j (by omega)
        have Hnew := Lib.hid hnew
        have HzC := Lib.hid hz
        clear hzr hz hnew
        have hw2 : (z < 128 ∧ (M.enc z).length = 1) ∨ (128 ≤ z ∧ z < 2048 ∧ (M.enc z).length = 2) ∨ (2048 ≤ z ∧ z < 55296 ∧ (M.enc z).length = 3) ∨ (57343 < z ∧ z < 65536 ∧ (M.enc z).length = 3) ∨ (65536 ≤ z ∧ (M.enc z).length = 4) := by omega
        clear hw z2
        rcases hw2 with ⟨h1, hW⟩ | ⟨h1, h2, hW⟩ | ⟨h1, h2, hW⟩ | ⟨h1, h2, hW⟩ | ⟨h1, hW⟩
        all_goals
          have HW := Lib.hid hW
          clear hW
          go_wp2_with fail
          refine (put_any _ [] (M.enc z) z wr (bs_nil _) (by decide) (by simp)).mono ?_
          rintro e w2 ⟨v2, rfl, ho2, hb2⟩
          obtain ⟨g, cp, rfl, hcp2⟩ := own_form ho2 (by rw [HW.out]; omega)
          have Ho2 := Lib.hid ho2
          clear ho2
          have hb3 := hbr.trans (hb2.mono hsz)
          have hT2 := HT.out.keep hb3
          have HT2 := Lib.hid hT2
          have Hb2 := Lib.hid hb2
          have Hb3 := Lib.hid hb3
          have Hbr := Lib.hid hbr
          rw [HW.out] at hcp2 ⊢
          have hcell2 : w2.cell? ⟨b, off + i, none⟩ = some (.int .i64 z) := by
            rw [hb2.cell (p := ⟨b, off + i, none⟩) (World.block_lt_of_cell? wr _ hcell)]; exact hcell
          have hs2 := hb2.size
          clear hT2 hb2 hb3 hbr
          go_wp2_with fail
        · obtain ⟨n1, hV⟩ := valid_part Ho2.out HzC.out HW.out 0 (by omega) true rfl HT2.out
          refine hV.mono ?_
          rintro e w3 ⟨rfl, hb4⟩
          clear hV
          have hb5 := Hb3.out.trans (hb4.mono Hb3.out.size)
          have ho3 := own_keep Ho.out ((Hb2.out).trans (hb4.mono hs2))
          have hbs3 := Ho2.out.bs.keep hb4
          rw [HW.out] at hbs3
          have Ho3 := Lib.hid ho3
          have Hbs3 := Lib.hid hbs3
          have hs5 := hb5.size
          clear ho3 hbs3 hb4
          go_wp2_with (at_builtin; refine wpl_append rfl _ _ rfl w.heap.size _ (.slice (some ⟨g, 0, none⟩) 1 cp) (M.encZ (zs.take i)) (M.enc z) (M.encZ (zs.take (i + 1))) rfl Ho3.out rfl Hbs3.out (fun n c h => by simp at h) (by rw [HW.out]; omega) hs5 Hsn.out.symm ?_)
          intro v4 w4 ho4 hb6
          have hb7 := hb5.trans hb6
          clear hb5 hb6
          go_wp2
          go_roundw
          case rel => exact ⟨i + 1, by omega, by go_num, Hnew.out, ho4, hb7⟩
          case measure => simp [intOf]; omega
        · have hcases : cut % 2 = 0 ∨ cut % 2 = 1 := by omega
          rcases hcases with hm | hm
          · rw [hm]
            rw [show ((0 : Int) % 3).toNat = 0 from rfl]
            obtain ⟨n1, hV⟩ := valid_part Ho2.out HzC.out HW.out 0 (by omega) true rfl HT2.out
            refine hV.mono ?_
            rintro e w3 ⟨rfl, hb4⟩
            clear hV
            have hb5 := Hb3.out.trans (hb4.mono Hb3.out.size)
            have ho3 := own_keep Ho.out ((Hb2.out).trans (hb4.mono hs2))
            have hbs3 := Ho2.out.bs.keep hb4
            rw [HW.out] at hbs3
            have Ho3 := Lib.hid ho3
            have Hbs3 := Lib.hid hbs3
            have hs5 := hb5.size
            clear ho3 hbs3 hb4
            go_wp2_with (at_builtin; refine wpl_append rfl _ _ rfl w.heap.size _ (.slice (some ⟨g, 0, none⟩) 2 cp) (M.encZ (zs.take i)) (M.enc z) (M.encZ (zs.take (i + 1))) rfl Ho3.out rfl Hbs3.out (fun n c h => by simp at h) (by rw [HW.out]; omega) hs5 Hsn.out.symm ?_)
            intro v4 w4 ho4 hb6
            have hb7 := hb5.trans hb6
            clear hb5 hb6
            go_wp2
            go_roundw
            case rel => exact ⟨i + 1, by omega, by go_num, Hnew.out, ho4, hb7⟩
            case measure => simp [intOf]; omega
          · rw [hm]
            rw [show ((1 : Int) % 3).toNat = 1 from rfl]
            obtain ⟨n1, hV⟩ := valid_part Ho2.out HzC.out HW.out 1 (by omega) false rfl HT2.out
            refine hV.mono ?_
            rintro e w3 ⟨rfl, hb4⟩
            clear hV
            have hb5 := Hb3.out.trans (hb4.mono Hb3.out.size)
            have ho3 := own_keep Ho.out ((Hb2.out).trans (hb4.mono hs2))
            have hbs3 := Ho2.out.bs.keep hb4
            rw [HW.out] at hbs3
            have Ho3 := Lib.hid ho3
            have Hbs3 := Lib.hid hbs3
            have hs5 := hb5.size
            clear ho3 hbs3 hb4
            go_wp2_with (at_builtin; refine wpl_append rfl _ _ rfl w.heap.size _ (.slice (some ⟨g, 0, none⟩) 2 cp) (M.encZ (zs.take i)) (M.enc z) (M.encZ (zs.take (i + 1))) rfl Ho3.out rfl Hbs3.out (fun n c h => by simp at h) (by rw [HW.out]; omega) hs5 Hsn.out.symm ?_)
            intro v4 w4 ho4 hb6
            have hb7 := hb5.trans hb6
            clear hb5 hb6
            go_wp2
            go_roundw
            case rel => exact ⟨i + 1, by omega, by go_num, Hnew.out, ho4, hb7⟩
            case measure => simp [intOf]; omega
        · have hcases : cut % 3 = 0 ∨ cut % 3 = 1 ∨ cut % 3 = 2 := by omega
          rcases hcases with hm | hm | hm
          · rw [hm]
            rw [show ((0 : Int) % 4).toNat = 0 from rfl]
            obtain ⟨n1, hV⟩ := valid_part Ho2.out HzC.out HW.out 0 (by omega) true rfl HT2.out
            refine hV.mono ?_
            rintro e w3 ⟨rfl, hb4⟩
            clear hV
            have hb5 := Hb3.out.trans (hb4.mono Hb3.out.size)
            have ho3 := own_keep Ho.out ((Hb2.out).trans (hb4.mono hs2))
            have hbs3 := Ho2.out.bs.keep hb4
            rw [HW.out] at hbs3
            have Ho3 := Lib.hid ho3
            have Hbs3 := Lib.hid hbs3
            have hs5 := hb5.size
            clear ho3 hbs3 hb4
            go_wp2_with (at_builtin; refine wpl_append rfl _ _ rfl w.heap.size _ (.slice (some ⟨g, 0, none⟩) 3 cp) (M.encZ (zs.take i)) (M.enc z) (M.encZ (zs.take (i + 1))) rfl Ho3.out rfl Hbs3.out (fun n c h => by simp at h) (by rw [HW.out]; omega) hs5 Hsn.out.symm ?_)
            intro v4 w4 ho4 hb6
            have hb7 := hb5.trans hb6
            clear hb5 hb6
            go_wp2
            go_roundw
            case rel => exact ⟨i + 1, by omega, by go_num, Hnew.out, ho4, hb7⟩
            case measure => simp [intOf]; omega
          · rw [hm]
            rw [show ((1 : Int) % 4).toNat = 1 from rfl]
            obtain ⟨n1, hV⟩ := valid_part Ho2.out HzC.out HW.out 1 (by omega) false rfl HT2.out
            refine hV.mono ?_
            rintro e w3 ⟨rfl, hb4⟩
            clear hV
            have hb5 := Hb3.out.trans (hb4.mono Hb3.out.size)
            have ho3 := own_keep Ho.out ((Hb2.out).trans (hb4.mono hs2))
            have hbs3 := Ho2.out.bs.keep hb4
            rw [HW.out] at hbs3
            have Ho3 := Lib.hid ho3
            have Hbs3 := Lib.hid hbs3
            have hs5 := hb5.size
            clear ho3 hbs3 hb4
            go_wp2_with (at_builtin; refine wpl_append rfl _ _ rfl w.heap.size _ (.slice (some ⟨g, 0, none⟩) 3 cp) (M.encZ (zs.take i)) (M.enc z) (M.encZ (zs.take (i + 1))) rfl Ho3.out rfl Hbs3.out (fun n c h => by simp at h) (by rw [HW.out]; omega) hs5 Hsn.out.symm ?_)
            intro v4 w4 ho4 hb6
            have hb7 := hb5.trans hb6
            clear hb5 hb6
            go_wp2
            go_roundw
            case rel => exact ⟨i + 1, by omega, by go_num, Hnew.out, ho4, hb7⟩
            case measure => simp [intOf]; omega
          · rw [hm]
            rw [show ((2 : Int) % 4).toNat = 2 from rfl]
            obtain ⟨n1, hV⟩ := valid_part Ho2.out HzC.out HW.out 2 (by omega) false rfl HT2.out
            refine hV.mono ?_
            rintro e w3 ⟨rfl, hb4⟩
            clear hV
            have hb5 := Hb3.out.trans (hb4.mono Hb3.out.size)
            have ho3 := own_keep Ho.out ((Hb2.out).trans (hb4.mono hs2))
            have hbs3 := Ho2.out.bs.keep hb4
            rw [HW.out] at hbs3
            have Ho3 := Lib.hid ho3
            have Hbs3 := Lib.hid hbs3
            have hs5 := hb5.size
            clear ho3 hbs3 hb4
            go_wp2_with (at_builtin; refine wpl_append rfl _ _ rfl w.heap.size _ (.slice (some ⟨g, 0, none⟩) 3 cp) (M.encZ (zs.take i)) (M.enc z) (M.encZ (zs.take (i + 1))) rfl Ho3.out rfl Hbs3.out (fun n c h => by simp at h) (by rw [HW.out]; omega) hs5 Hsn.out.symm ?_)
            intro v4 w4 ho4 hb6
            have hb7 := hb5.trans hb6
            clear hb5 hb6
            go_wp2
            go_roundw
            case rel => exact ⟨i + 1, by omega, by go_num, Hnew.out, ho4, hb7⟩
            case measure => simp [intOf]; omega
        · have hcases : cut % 3 = 0 ∨ cut % 3 = 1 ∨ cut % 3 = 2 := by omega
          rcases hcases with hm | hm | hm
          · rw [hm]
            rw [show ((0 : Int) % 4).toNat = 0 from rfl]
            obtain ⟨n1, hV⟩ := valid_part Ho2.out HzC.out HW.out 0 (by omega) true rfl HT2.out
            refine hV.mono ?_
            rintro e w3 ⟨rfl, hb4⟩
            clear hV
            have hb5 := Hb3.out.trans (hb4.mono Hb3.out.size)
            have ho3 := own_keep Ho.out ((Hb2.out).trans (hb4.mono hs2))
            have hbs3 := Ho2.out.bs.keep hb4
            rw [HW.out] at hbs3
            have Ho3 := Lib.hid ho3
            have Hbs3 := Lib.hid hbs3
            have hs5 := hb5.size
            clear ho3 hbs3 hb4
            go_wp2_with (at_builtin; refine wpl_append rfl _ _ rfl w.heap.size _ (.slice (some ⟨g, 0, none⟩) 3 cp) (M.encZ (zs.take i)) (M.enc z) (M.encZ (zs.take (i + 1))) rfl Ho3.out rfl Hbs3.out (fun n c h => by simp at h) (by rw [HW.out]; omega) hs5 Hsn.out.symm ?_)
            intro v4 w4 ho4 hb6
            have hb7 := hb5.trans hb6
            clear hb5 hb6
            go_wp2
            go_roundw
            case rel => exact ⟨i + 1, by omega, by go_num, Hnew.out, ho4, hb7⟩
            case measure => simp [intOf]; omega
          · rw [hm]
            rw [show ((1 : Int) % 4).toNat = 1 from rfl]
            obtain ⟨n1, hV⟩ := valid_part Ho2.out HzC.out HW.out 1 (by omega) false rfl HT2.out
            refine hV.mono ?_
            rintro e w3 ⟨rfl, hb4⟩
            clear hV
            have hb5 := Hb3.out.trans (hb4.mono Hb3.out.size)
            have ho3 := own_keep Ho.out ((Hb2.out).trans (hb4.mono hs2))
            have hbs3 := Ho2.out.bs.keep hb4
            rw [HW.out] at hbs3
            have Ho3 := Lib.hid ho3
            have Hbs3 := Lib.hid hbs3
            have hs5 := hb5.size
            clear ho3 hbs3 hb4
            go_wp2_with (at_builtin; refine wpl_append rfl _ _ rfl w.heap.size _ (.slice (some ⟨g, 0, none⟩) 3 cp) (M.encZ (zs.take i)) (M.enc z) (M.encZ (zs.take (i + 1))) rfl Ho3.out rfl Hbs3.out (fun n c h => by simp at h) (by rw [HW.out]; omega) hs5 Hsn.out.symm ?_)
            intro v4 w4 ho4 hb6
            have hb7 := hb5.trans hb6
            clear hb5 hb6
            go_wp2
            go_roundw
            case rel => exact ⟨i + 1, by omega, by go_num, Hnew.out, ho4, hb7⟩
            case measure => simp [intOf]; omega
          · rw [hm]
            rw [show ((2 : Int) % 4).toNat = 2 from rfl]
            obtain ⟨n1, hV⟩ := valid_part Ho2.out HzC.out HW.out 2 (by omega) false rfl HT2.out
            refine hV.mono ?_
            rintro e w3 ⟨rfl, hb4⟩
            clear hV
            have hb5 := Hb3.out.trans (hb4.mono Hb3.out.size)
            have ho3 := own_keep Ho.out ((Hb2.out).trans (hb4.mono hs2))
            have hbs3 := Ho2.out.bs.keep hb4
            rw [HW.out] at hbs3
            have Ho3 := Lib.hid ho3
            have Hbs3 := Lib.hid hbs3
            have hs5 := hb5.size
            clear ho3 hbs3 hb4
            go_wp2_with (at_builtin; refine wpl_append rfl _ _ rfl w.heap.size _ (.slice (some ⟨g, 0, none⟩) 3 cp) (M.encZ (zs.take i)) (M.enc z) (M.encZ (zs.take (i + 1))) rfl Ho3.out rfl Hbs3.out (fun n c h => by simp at h) (by rw [HW.out]; omega) hs5 Hsn.out.symm ?_)
            intro v4 w4 ho4 hb6
            have hb7 := hb5.trans hb6
            clear hb5 hb6
            go_wp2
            go_roundw
            case rel => exact ⟨i + 1, by omega, by go_num, Hnew.out, ho4, hb7⟩
            case measure => simp [intOf]; omega
        · have hcases : cut % 4 = 0 ∨ cut % 4 = 1 ∨ cut % 4 = 2 ∨ cut % 4 = 3 := by omega
          rcases hcases with hm | hm | hm | hm
          · rw [hm]
            rw [show ((0 : Int) % 5).toNat = 0 from rfl]
            obtain ⟨n1, hV⟩ := valid_part Ho2.out HzC.out HW.out 0 (by omega) true rfl HT2.out
            refine hV.mono ?_
            rintro e w3 ⟨rfl, hb4⟩
            clear hV
            have hb5 := Hb3.out.trans (hb4.mono Hb3.out.size)
            have ho3 := own_keep Ho.out ((Hb2.out).trans (hb4.mono hs2))
            have hbs3 := Ho2.out.bs.keep hb4
            rw [HW.out] at hbs3
            have Ho3 := Lib.hid ho3
            have Hbs3 := Lib.hid hbs3
            have hs5 := hb5.size
            clear ho3 hbs3 hb4
            go_wp2_with (at_builtin; refine wpl_append rfl _ _ rfl w.heap.size _ (.slice (some ⟨g, 0, none⟩) 4 cp) (M.encZ (zs.take i)) (M.enc z) (M.encZ (zs.take (i + 1))) rfl Ho3.out rfl Hbs3.out (fun n c h => by simp at h) (by rw [HW.out]; omega) hs5 Hsn.out.symm ?_)
            intro v4 w4 ho4 hb6
            have hb7 := hb5.trans hb6
            clear hb5 hb6
            go_wp2
            go_roundw
            case rel => exact ⟨i + 1, by omega, by go_num, Hnew.out, ho4, hb7⟩
            case measure => simp [intOf]; omega
          · rw [hm]
            rw [show ((1 : Int) % 5).toNat = 1 from rfl]
            obtain ⟨n1, hV⟩ := valid_part Ho2.out HzC.out HW.out 1 (by omega) false rfl HT2.out
            refine hV.mono ?_
            rintro e w3 ⟨rfl, hb4⟩
            clear hV
            have hb5 := Hb3.out.trans (hb4.mono Hb3.out.size)
            have ho3 := own_keep Ho.out ((Hb2.out).trans (hb4.mono hs2))
            have hbs3 := Ho2.out.bs.keep hb4
            rw [HW.out] at hbs3
            have Ho3 := Lib.hid ho3
            have Hbs3 := Lib.hid hbs3
            have hs5 := hb5.size
            clear ho3 hbs3 hb4
            go_wp2_with (at_builtin; refine wpl_append rfl _ _ rfl w.heap.size _ (.slice (some ⟨g, 0, none⟩) 4 cp) (M.encZ (zs.take i)) (M.enc z) (M.encZ (zs.take (i + 1))) rfl Ho3.out rfl Hbs3.out (fun n c h => by simp at h) (by rw [HW.out]; omega) hs5 Hsn.out.symm ?_)
            intro v4 w4 ho4 hb6
            have hb7 := hb5.trans hb6
            clear hb5 hb6
            go_wp2
            go_roundw
            case rel => exact ⟨i + 1, by omega, by go_num, Hnew.out, ho4, hb7⟩
            case measure => simp [intOf]; omega
          · rw [hm]
            rw [show ((2 : Int) % 5).toNat = 2 from rfl]
            obtain ⟨n1, hV⟩ := valid_part Ho2.out HzC.out HW.out 2 (by omega) false rfl HT2.out
            refine hV.mono ?_
            rintro e w3 ⟨rfl, hb4⟩
            clear hV
            have hb5 := Hb3.out.trans (hb4.mono Hb3.out.size)
            have ho3 := own_keep Ho.out ((Hb2.out).trans (hb4.mono hs2))
            have hbs3 := Ho2.out.bs.keep hb4
            rw [HW.out] at hbs3
            have Ho3 := Lib.hid ho3
            have Hbs3 := Lib.hid hbs3
            have hs5 := hb5.size
            clear ho3 hbs3 hb4
            go_wp2_with (at_builtin; refine wpl_append rfl _ _ rfl w.heap.size _ (.slice (some ⟨g, 0, none⟩) 4 cp) (M.encZ (zs.take i)) (M.enc z) (M.encZ (zs.take (i + 1))) rfl Ho3.out rfl Hbs3.out (fun n c h => by simp at h) (by rw [HW.out]; omega) hs5 Hsn.out.symm ?_)
            intro v4 w4 ho4 hb6
            have hb7 := hb5.trans hb6
            clear hb5 hb6
            go_wp2
            go_roundw
            case rel => exact ⟨i + 1, by omega, by go_num, Hnew.out, ho4, hb7⟩
            case measure => simp [intOf]; omega
          · rw [hm]
            rw [show ((3 : Int) % 5).toNat = 3 from rfl]
            obtain ⟨n1, hV⟩ := valid_part Ho2.out HzC.out HW.out 3 (by omega) false rfl HT2.out
            refine hV.mono ?_
            rintro e w3 ⟨rfl, hb4⟩
            clear hV
            have hb5 := Hb3.out.trans (hb4.mono Hb3.out.size)
            have ho3 := own_keep Ho.out ((Hb2.out).trans (hb4.mono hs2))
            have hbs3 := Ho2.out.bs.keep hb4
            rw [HW.out] at hbs3
            have Ho3 := Lib.hid ho3
            have Hbs3 := Lib.hid hbs3
            have hs5 := hb5.size
            clear ho3 hbs3 hb4
            go_wp2_with (at_builtin; refine wpl_append rfl _ _ rfl w.heap.size _ (.slice (some ⟨g, 0, none⟩) 4 cp) (M.encZ (zs.take i)) (M.enc z) (M.encZ (zs.take (i + 1))) rfl Ho3.out rfl Hbs3.out (fun n c h => by simp at h) (by rw [HW.out]; omega) hs5 Hsn.out.symm ?_)
            intro v4 w4 ho4 hb6
            have hb7 := hb5.trans hb6
            clear hb5 hb6
            go_wp2
            go_roundw
            case rel => exact ⟨i + 1, by omega, by go_num, Hnew.out, ho4, hb7⟩
            case measure => simp [intOf]; omega
      · have hbad : z < 0 ∨ (0 ≤ z ∧ 1114111 < z) ∨ (0 ≤ z ∧ z ≤ 1114111 ∧ 55296 ≤ z ∧ z < 57344) := by
          rw [M.isCP_iff] at hz; omega
        clear hz
        rcases hbad with h | ⟨h, h2⟩ | ⟨h, h2, h3, h4⟩
        all_goals
          go_wp2
          go_ret
          exact ⟨rfl, hbr⟩
    · obtain rfl : i = len := by omega
      have hbs := Ho.out.bs
      have hbs2 := hbs
      obtain ⟨ad, cp, rfl, _, _, _⟩ := hbs2
      have Hbs := Lib.hid hbs
      have hval := M.valid_encZ (zs.take i) (fun z hz => by
        obtain ⟨j, hj, rfl⟩ := List.getElem_of_mem hz
        have := Hcp.out j (by rw [List.length_take] at hj; omega)
        simp only [List.getElem_take]
        rw [List.length_take] at hj
        have e : zs.getD j 0 = zs[j]'(by omega) := by simp [show j < zs.length by omega]
        rwa [e] at this)
      have Hval := Lib.hid hval
      clear hlt hbs hval
      go_wp2
      go_loopw [12, 13] (fun av kv wr2 => ∃ k : Nat, k ≤ i ∧ kv = .int .i64 k ∧ av = .int .i64 ((M.encZ (zs.take k)).length : Int) ∧ Below wr.heap.size wr wr2) (fun _ kv _ => i - (intOf kv).toNat)
      case atStart => exact ⟨0, by omega, rfl, by simp [M.encZ], Below.refl _ _⟩
      case round =>
        obtain ⟨k, hk, rfl, rfl, hb2⟩ := hrel
        rename_i wr2 _ _
        have hTr := HT.out.keep (hbr.trans (hb2.mono hsz))
        have hbs3 := Hbs.out.keep hb2
        have HTr := Lib.hid hTr
        have Hbs3 := Lib.hid hbs3
        clear hTr hbs3
        by_cases hlt : k < i
        · obtain ⟨b, off, rfl, hbk, hcs⟩ := Hc.out (by omega)
          have hzk := Hcp.out k hlt
          have hnx := M.encZ_at zs i k hlt hlz hzk
          have hlen : (M.encZ (zs.take (k + 1))).length = (M.encZ (zs.take k)).length + (M.enc (zs.getD k 0)).length := by rw [M.encZ_snoc zs k (by omega), List.length_append]
          have hp := M.enc_pos (zs.getD k 0)
          have hcell : ∀ w5, Below w.heap.size w w5 → w5.cell? ⟨b, off + k, none⟩ = some (.int .i64 (zs.getD k 0)) := fun w5 h => by
            rw [h.cell (p := ⟨b, off + k, none⟩) hbk]; exact hcs k hlt
          have hle : (M.encZ (zs.take k)).length ≤ 240 := by have := M.encZ_len (zs.take k); have := List.length_take_le k zs; omega
          have hle2 := M.enc_le (zs.getD k 0)
          generalize zs.getD k 0 = z at *
          obtain ⟨m, hm⟩ : ∃ m, (M.enc z).length = m := ⟨_, rfl⟩
          rw [hm] at hnx hlen hp hle2
          have Hnx := Lib.hid hnx
          have Hlen := Lib.hid hlen
          have Hcell := Lib.hid hcell
          clear hnx hlen hcell hm hcs hzk
          go_wp2_with fail
          refine (next_any _ (M.encZ (zs.take i)) _ _ _ HTr.out Hbs3.out (by omega) Hnx.out).mono ?_
          rintro e w5 ⟨rfl, hb5⟩
          unfold tri
          have hb6 := hb2.trans (hb5.mono hb2.size)
          have hc5 := Hcell.out w5 (hbr.trans (hb6.mono hsz))
          clear hb2 hb5
          go_wp2
          go_roundw
          case rel => exact ⟨k + 1, by omega, by go_num, by rw [Hlen.out]; go_num, hb6⟩
          case measure => simp [intOf]; omega
        · obtain rfl : k = i := by omega
          clear hlt
          go_wp2_with fail
          refine (valid_any _ (M.encZ (zs.take k)) _ _ _ HTr.out Hbs3.out (by omega) Hval.out).mono ?_
          rintro e w5 ⟨rfl, hb5⟩
          have hb6 := hbr.trans ((hb2.trans (hb5.mono hb2.size)).mono hsz)
          clear hbr hb2 hb5
          go_wp2
          go_ret
          exact ⟨by first | rfl | simp, hb6⟩

theorem walk (a0 : Option Addr) (len0 cap0 : Nat) (z0 : List Int) (a1 : Int) (w : World) (w0 : IsRow .i64 w a0 len0 cap0 z0) (w1 : (Lit.int .i64 a1).wf = true) (hT : Tabs w) :
    Calls Tryd.prog 4 #[.slice a0 len0 cap0, .int .i64 a1] w fun e w' => e = .returned (.bool true) ∧ Below w.heap.size w w' := by
  by_cases h : 60 < len0 ∨ (len0 ≤ 60 ∧ a1 < 0)
  · exact out_of a0 len0 cap0 a1 w hT h
  · rcases w0 with ⟨rfl, rfl, rfl, rfl⟩ | ⟨x, rfl, hl, hm, hz, hc, _⟩
    · exact row_of none 0 0 a1 [] w hT (by omega) (by simp) (by omega) (fun h0 => by omega)
    · refine row_of (some x) len0 cap0 a1 z0 w hT (by omega) (by omega) (by omega) (fun h0 => ?_)
      obtain ⟨b, off, rfl, hc2⟩ := ints_at hc (by omega)
      exact ⟨b, off, rfl, World.block_lt_of_cell? w _ (hc2 0 (by omega)), fun j hj => hc2 j (by omega)⟩

end Go.Proofs.YtoalaojghgdmcaaDoor.utfBack
