/- Layouts: RenderSame's own texts: the pieces that are no blanks and new lines from nowhere. -/
import Derived.Test.YtehofomfblfhaaaYPcs
import Derived.Test.YtehofomfblfhaaaYLaw
namespace Go.Proofs.Ytehofomfblfhaaa
open Go.RowKit
set_option linter.unusedVariables false
set_option linter.unusedSimpArgs false

def bl (f : Int) (s : ByteArray) (k : Nat) : Bool := decide (f = -1) && (decide (0 < s.size) && (s.data.toList.take k).all fun c => c == 32 || c == 10)
theorem bl_zero (f : Int) (s : ByteArray) (k : Nat) (h : ¬ f = -1) : bl f s k = false := by unfold bl; simp [h]
theorem bl_one (s : ByteArray) : bl (-1) s 0 = decide (0 < s.size) := by unfold bl; simp
theorem byte_is (c : UInt8) (n : Nat) (hn : n < 256) : ((c.toNat : Int) == (n : Int)) = (c == UInt8.ofNat n) := by
  rw [Bool.eq_iff_iff]
  simp only [beq_iff_eq]
  constructor
  · intro h
    apply UInt8.toNat_inj.1
    rw [UInt8.toNat_ofNat_of_lt' hn]
    omega
  · intro h
    rw [h, UInt8.toNat_ofNat_of_lt' hn]
theorem bl_succ (f : Int) (s : ByteArray) (k : Nat) (h : k < s.size) : bl f s (k + 1) = (bl f s k && (((s[k].toNat : Int) == 32) || ((s[k].toNat : Int) == 10))) := by
  have e : s.data.toList.take (k + 1) = s.data.toList.take k ++ [s[k]] := by
    rw [List.take_succ_eq_append_getElem (by simpa using h)]; rfl
  have e1 : ((s[k].toNat : Int) == 32) = (s[k] == 32) := byte_is s[k] 32 (by omega)
  have e2 : ((s[k].toNat : Int) == 10) = (s[k] == 10) := byte_is s[k] 10 (by omega)
  unfold bl
  rw [e, List.all_append, e1, e2]
  simp only [List.all_cons, List.all_nil, Bool.and_true, Bool.and_assoc]
theorem bl_full (f : Int) (s : ByteArray) : bl f s s.size = isBk (s, f) := by
  unfold bl isBk
  have e : s.data.toList.take s.size = s.data.toList := List.take_of_length_le (by rw [Array.length_toList]; exact Nat.le_refl _)
  rw [e]
  have h : decide (0 < s.size) = decide (s.data.toList ≠ []) := by
    have e2 : s.data.toList.length = s.size := Array.length_toList
    apply decide_eq_decide.2
    rw [← e2, List.length_pos_iff]
  simp only [h]
theorem notBk_take (l : List Pc) (i : Nat) (h : i < l.length) : notBk (l.take (i + 1)) = notBk (l.take i) ++ if isBk (l[i].1, l[i].2) = true then [] else [(l[i].1, l[i].2)] := by
  rw [List.take_succ_eq_append_getElem h, notBk_append]
  congr 1
  unfold notBk
  by_cases hb : isBk l[i] = true
  · have hb2 : isBk (l[i].1, l[i].2) = true := hb
    rw [if_pos hb2]; simp [hb]
  · have hb2 : ¬ isBk (l[i].1, l[i].2) = true := hb
    rw [if_neg hb2]; simp [hb]
set_option maxRecDepth 100000 in
set_option maxHeartbeats 4000000 in
theorem texts_any (l : List Pc) (v : Value) (w : World) (hv : Vs 2 w v (l.map pc2)) (hl : l.length ≤ 100000) (hz : ∀ p ∈ l, p.1.size ≤ 1000000000) :
    Calls Try.prog 18 #[v] w fun e w' => ∃ v', e = .returned v' ∧ Vs 2 w' v' ((notBk l).map pc2) ∧ Below w.heap.size w w' := by
  obtain ⟨n, hn⟩ : ∃ n, l.length = n := ⟨_, rfl⟩
  obtain ⟨a, cap, rfl, h1, h2, h3⟩ := pcs_get hv hn
  have H3 := Lib.hid h3
  have HN := Lib.hid hn
  have HL := Lib.hid hl
  have HZ := Lib.hid hz
  unfold maxLen at h2
  clear hv h3 hn hl hz
  go_enter Try.func18, Try.ntmps18
  go_wp2
  go_loopw [3, 4] (fun ov iv wr => ∃ i : Nat, iv = .int .i64 (i : Int) ∧ i ≤ n ∧ OwnV 34 2 w.heap.size wr ov ((notBk (l.take i)).map pc2) ∧ Below w.heap.size w wr) (fun _ iv _ => n - (intOf iv).toNat)
  case atStart => exact ⟨0, rfl, by omega, ownV_nil _ _ _ _, Below.refl _ _⟩
  case round =>
    obtain ⟨i, rfl, hi, ho, hb⟩ := hrel
    by_cases hlt : i < n
    · have hil : i < l.length := by rw [HN.out]; exact hlt
      obtain ⟨b, off, rfl, hbk, p0, p1⟩ := H3.out i hil
      have q0 := (hb.cell (p := ⟨b, off + i * 2, none⟩) hbk).trans p0
      have q1 := (hb.cell (p := ⟨b, off + i * 2 + 1, none⟩) hbk).trans p1
      have i0 : (0 : Int) ≤ i := by omega
      have i1 : (i : Int) < n := by omega
      have hT := notBk_take l i hil
      have hsz := HZ.out _ (List.getElem_mem hil)
      obtain ⟨S0, hS0⟩ : ∃ A, (l[i]).1 = A := ⟨_, rfl⟩
      obtain ⟨f0, hf0⟩ : ∃ A, (l[i]).2 = A := ⟨_, rfl⟩
      obtain ⟨lo, hlo⟩ : ∃ A, notBk (l.take i) = A := ⟨_, rfl⟩
      have hll : lo.length ≤ 1000000 := by
        have h1 : lo.length ≤ (l.take i).length := by rw [← hlo]; exact List.length_filter_le _ _
        have h2 : (l.take i).length ≤ i := List.length_take_le _ _
        have := HL.out
        omega
      rw [hS0, hf0, hlo] at hT
      rw [hS0] at q0 hsz
      rw [hf0] at q1
      rw [hlo] at ho
      have HT := Lib.hid hT
      have HO := Lib.hid ho
      have HB := Lib.hid hb
      have HLL := Lib.hid hll
      have BZ := Lib.hid (bl_zero f0 S0)
      have BO := Lib.hid (bl_one S0)
      have BS := Lib.hid (bl_succ f0 S0)
      have BF := Lib.hid (bl_full f0 S0)
      clear p0 p1 hT ho hb hll hS0 hf0 hlo hil
      go_wp2
      all_goals
        go_loop [6, 7] (fun bv kv => ∃ k : Nat, kv = .int .i64 (k : Int) ∧ k ≤ S0.size ∧ bv = .bool (bl f0 S0 k)) (fun _ kv => S0.size - (intOf kv).toNat)
        case atStart => exact ⟨0, rfl, by omega, by first | rw [BZ.out 0 ‹_›] | (obtain rfl : f0 = -1 := ‹_›; rw [BO.out])⟩
        case round =>
          obtain ⟨k, rfl, hk, rfl⟩ := hrel
          by_cases hkz : k < S0.size
          · have bs := Lib.hid (BS.out k hkz)
            obtain ⟨X, hX⟩ : ∃ X, bl f0 S0 k = X := ⟨_, rfl⟩
            have HX := Lib.hid hX
            rw [hX]
            clear hX
            cases X
            all_goals
              go_wp2
              all_goals
                go_round
                case rel => exact ⟨k + 1, by go_num, by omega, by rw [bs.out, HX.out]; simp_all⟩
                case measure => simp [intOf]; omega
          · obtain rfl : k = S0.size := by omega
            have bf := BF.out
            obtain ⟨X, hX⟩ : ∃ X, isBk (S0, f0) = X := ⟨_, rfl⟩
            rw [hX] at bf
            have HTX := Lib.hid (show notBk (l.take (i + 1)) = lo ++ if X = true then [] else [(S0, f0)] by rw [HT.out, hX])
            rw [bf]
            clear bf hX hkz hk
            cases X
            · go_wp2_with (at_builtin; refine wpl_pcG rfl _ _ rfl w.heap.size u3 (.slice (some ⟨wr.heap.size, 0, none⟩) 1 1) lo (S0, _) rfl (OwnV.keep HO.out ((Below.refl wr.heap.size wr).alloc (Nat.le_refl _) _)) rfl (one_pc wr S0 _) (nnv_some _ _ _) HLL.out (HB.out.alloc HB.out.size _).size ?_)
              intro v5 w5 ho5 hb5 hfr5
              have O5 := Lib.hid ho5
              have B5 := Lib.hid ((HB.out.alloc HB.out.size _).trans hb5)
              clear ho5 hb5 hfr5
              go_wp2
              go_roundw
              case rel => exact ⟨i + 1, by go_num, by omega, by rw [HTX.out]; first | simpa using O5.out | (have hf : f0 = -1 := ‹_›; rw [hf]; simpa using O5.out), B5.out⟩
              case measure => simp [intOf]; omega
            · go_wp2
              go_roundw
              case rel => exact ⟨i + 1, by go_num, by omega, by rw [HTX.out]; simpa using HO.out, HB.out⟩
              case measure => simp [intOf]; omega
    · obtain rfl : i = n := by omega
      have t1 : decide ((i : Int) < i) = false := by simp
      have hfull := Lib.hid (show notBk (l.take i) = notBk l by rw [List.take_of_length_le (by rw [HN.out]; exact Nat.le_refl _)])
      have HB := Lib.hid hb
      have HO := Lib.hid ho
      clear hlt ho hb
      go_wp2
      go_ret
      exact ⟨_, rfl, by have := HO.out.vs; rwa [hfull.out] at this, HB.out⟩
end Go.Proofs.Ytehofomfblfhaaa
