/- Texts of ours in one: ZQu. -/
import Derived.Test.YtlobinjdgcidmaaDoorQj23
import Derived.Test.YtlobinjdgcidmaaDoorQj24
import Derived.Test.YtlobinjdgcidmaaDoorQj25
import Derived.Test.YtlobinjdgcidmaaDoorQj19
import Derived.Test.YtlobinjdgcidmaaDoorQj20
import Derived.Test.YtlobinjdgcidmaaDoorQj03
/- What SmapJson's law calls: its own text of a text. -/
namespace Go.Proofs.YtlobinjdgcidmaaDoor
open Go.RowKit
set_option linter.unusedVariables false
set_option linter.unusedSimpArgs false

set_option maxRecDepth 100000 in
set_option maxHeartbeats 4000000 in
theorem lquoted_any (s : ByteArray) (l : List UInt8) (U : List Nat) (t : ByteArray) (w : World) (hs : s.data.toList = l) (hl : l.length ≤ 40000) (hU : unitsL l = U) (ht : bytes (M.spell U) = t) :
    Calls Tryd.prog 23 #[.string s] w fun e w' => e = .returned (.string t) ∧ Below w.heap.size w w' := by
  have hUle : ∀ u ∈ U, u ≤ 65535 := by rw [← hU]; exact unitsL_le l.length l (Nat.le_refl _)
  have hUlen : U.length ≤ 100000 := by rw [← hU]; have := unitsL_len l.length l (Nat.le_refl _); omega
  have HUle := Lib.hid hUle
  have HUlen := Lib.hid hUlen
  have Ht := Lib.hid ht
  clear hUle hUlen ht
  have hsz : s.size = l.length := by rw [← hs]; rfl
  have hconv := bw_conv w s
  have hbw := bw_below w s
  have hbs := bw_bs w s (by omega)
  rw [hs] at hbs
  have hsw := bw_size w s
  obtain ⟨n, hn⟩ : ∃ n, l.length = n := ⟨_, rfl⟩
  rw [hn] at hsz hl
  rw [hsz] at hbs hconv
  obtain ⟨W1, hW1⟩ : ∃ W, Lib.bytesWorld w 5 s = W := ⟨_, rfl⟩
  rw [hW1] at hconv hbw hbs hsw
  have HBS := Lib.hid hbs
  have HBW := Lib.hid hbw
  have HN := Lib.hid hn
  have HU := Lib.hid hU
  have HSW := Lib.hid hsw
  clear hbw hbs hs hsz hn hU hW1 hsw
  go_enter Tryd.func23, Tryd.ntmps23
  go_wp2
  go_loopw [3, 5, 6, 7, 8] (fun ov iv _ _ _ wr => ∃ (i : Nat) (pre : List Nat), iv = .int .i64 (i : Int) ∧ i ≤ n + 4 ∧ pre ++ unitsL (l.drop i) = U ∧ pre.length ≤ 2 * i ∧ OwnI W1.heap.size wr ov (iN pre) ∧ Below W1.heap.size W1 wr) (fun _ iv _ _ _ _ => n - (intOf iv).toNat)
  case atStart => exact ⟨0, [], rfl, by omega, by simpa using HU.out, by simp, World.ownsRow_nil _ _ _ _, Below.refl _ _⟩
  case round =>
    obtain ⟨i, pre, rfl, hi, hpre, hpl, ho, hb1⟩ := hrel
    have hsz := hb1.size
    by_cases hlt : i < n
    · have hil : i < l.length := by rw [HN.out]; exact hlt
      have hil2 : 0 < (l.drop i).length := by simp only [List.length_drop]; omega
      rw [unitsL_cons _ hil2, List.drop_drop] at hpre
      obtain ⟨ok, hnx⟩ : ∃ ok, M.nextAt l i = (((M.dec (l.drop i)).1 : Int), ((M.dec (l.drop i)).2 : Int), ok) := by
        rw [M.nextAt_in l i hil]
        unfold M.nx
        by_cases hb : M.dec (l.drop i) = (65533, 1)
        · rw [if_pos hb, hb]; exact ⟨false, rfl⟩
        · rw [if_neg hb]; exact ⟨true, rfl⟩
      have hw := M.dec_width (l.drop i)
      have hr := M.dec_rune (l.drop i)
      obtain ⟨r, hr'⟩ : ∃ r, (M.dec (l.drop i)).1 = r := ⟨_, rfl⟩
      obtain ⟨m, hm'⟩ : ∃ r, (M.dec (l.drop i)).2 = r := ⟨_, rfl⟩
      rw [hr'] at hpre hnx hr
      rw [hm'] at hpre hnx hw
      rw [← List.append_assoc] at hpre
      have N1 := refnext_any (.slice (some ⟨w.heap.size, 0, none⟩) n (grownCap w n 0 5)) l i _ wr (HBS.out.keep hb1) (by rw [HN.out]; omega) hnx
      unfold tri at N1
      dsimp only at N1
      have hp2 := pairU_two r
      have HP := Lib.hid hpre
      have N1' := Lib.hid N1
      have i1 : (i : Int) < n := by omega
      clear hpre hnx hr' hm' N1 hlt
      obtain ⟨R, hRI⟩ : ∃ R : Int, (r : Int) = R := ⟨_, rfl⟩
      have R0 : 0 ≤ R := by omega
      have R1 : R ≤ 1114111 := by omega
      rw [hRI] at N1'
      have HO := Lib.hid ho
      clear ho
      by_cases hb16 : r < 65536
      · have h' : R < 65536 := by omega
        have e : iN pre ++ [R] = iN (pre ++ M.pairU r) := by rw [iN_append]; unfold M.pairU; rw [if_pos hb16]; simp [iN, hRI]
        have He := Lib.hid e
        clear e hRI hb16 hr
        go_wp2_with fail
        refine N1'.out.mono ?_
        rintro e w' ⟨rfl, rfl⟩
        go_wp2_with (at_builtin; refine wpl_appendI rfl _ _ rfl W1.heap.size _ (.slice (some ⟨wr.heap.size, 0, none⟩) 1 1) (iN pre) [R] (iN (pre ++ M.pairU r)) rfl (ownsRow_keep HO.out ((Below.refl _ _).alloc (Nat.le_refl _) _)) rfl (is_one wr _) (nn_some _ _ _) (by rw [iN_len]; simp; omega) (by simp; omega) He.out ?_)
        intro v3 w3 ho3 hb3
        have hb4 := (hb1.alloc hsz _).trans hb3
        clear hb3
        go_wp2
        go_roundw
        case rel => exact ⟨i + m, pre ++ M.pairU r, by go_num, by omega, HP.out, by simp; omega, ho3, hb4⟩
        case measure => simp [intOf]; omega
      · have h' : 65536 ≤ R := by omega
        have hand := sand1023 (R - 65536) (by omega) (by omega)
        have hand2 : (0 : Int) ≤ (R - 65536) % 1024 := by omega
        have hand3 : (R - 65536) % 1024 < 1024 := by omega
        have hd2 : (0 : Int) ≤ (R - 65536) / 1024 := by omega
        have hd3 : (R - 65536) / 1024 < 1024 := by omega
        have e : iN pre ++ [55296 + (R - 65536) / 1024, 56320 + (R - 65536) % 1024] = iN (pre ++ M.pairU r) := by
          rw [iN_append]
          congr 1
          unfold M.pairU
          rw [if_neg hb16]
          simp only [iN, List.map_cons, List.map_nil]
          have q1 : ((55296 + (r - 65536) / 1024 : Nat) : Int) = 55296 + (R - 65536) / 1024 := by omega
          have q2 : ((56320 + (r - 65536) % 1024 : Nat) : Int) = 56320 + (R - 65536) % 1024 := by omega
          rw [q1, q2]
        have He := Lib.hid e
        clear e hRI hb16 hr
        go_wp2_with fail
        refine N1'.out.mono ?_
        rintro e w' ⟨rfl, rfl⟩
        go_wp2_with (at_builtin; refine wpl_appendI rfl _ _ rfl W1.heap.size _ (.slice (some ⟨wr.heap.size, 0, none⟩) 2 2) (iN pre) [55296 + (R - 65536) / 1024, 56320 + (R - 65536) % 1024] (iN (pre ++ M.pairU r)) rfl (ownsRow_keep HO.out ((Below.refl _ _).alloc (Nat.le_refl _) _)) rfl (is_two wr _ _) (nn_some _ _ _) (by rw [iN_len]; simp; omega) (by simp; omega) He.out ?_)
        intro v3 w3 ho3 hb3
        have hb4 := (hb1.alloc hsz _).trans hb3
        clear hb3
        go_wp2
        go_roundw
        case rel => exact ⟨i + m, pre ++ M.pairU r, by go_num, by omega, HP.out, by simp; omega, ho3, hb4⟩
        case measure => simp [intOf]; omega
    · have hu := unitsL_nil (l.drop i) (by simp only [List.length_drop]; rw [HN.out]; omega)
      rw [hu, List.append_nil] at hpre
      subst hpre
      have hfin := HBW.out.trans (hb1.mono (by have := HSW.out; omega))
      have his := OwnI.is ho
      have RS := Lib.hid (refspell_any _ pre t wr his HUlen.out HUle.out Ht.out)
      have HF := Lib.hid hfin
      clear hu his hfin
      go_wp2_with fail
      refine RS.out.mono ?_
      rintro e w9 ⟨rfl, hb9⟩
      go_wp2
      go_ret
      exact ⟨rfl, HF.out.trans (hb9.mono HF.out.size)⟩
end Go.Proofs.YtlobinjdgcidmaaDoor
