import Derived.Test.YtimjbjppmhdjnaaGreatDoorWTk
import Derived.Test.YtimjbjppmhdjnaaGreatDoorWSm
import Derived.Test.YtimjbjppmhdjnaaGreatDoorWApp
import Derived.Test.YtimjbjppmhdjnaaGreatDoorMgP
import Derived.Test.YtimjbjppmhdjnaaGreatDoorMgM
import Derived.Lib.SlBytesConst
import Derived.Deep.RegionHeld3
set_option maxHeartbeats 8000000
set_option maxRecDepth 100000
namespace Go.Proofs.YtimjbjppmhdjnaaGreatDoor.M
theorem ix_fin : ∀ n : Fin 256, decide (0 <= Lib.indexByte [34, 39, 40, 41, 92, 32] n.val.toUInt8) = decide (n.val = 34 \/ n.val = 39 \/ n.val = 40 \/ n.val = 41 \/ n.val = 92 \/ n.val = 32) := by decide +kernel
theorem ix_iff (c : UInt8) : (0 <= Lib.indexByte [34, 39, 40, 41, 92, 32] c) ↔ (c = 34 \/ c = 39 \/ c = 40 \/ c = 41 \/ c = 92 \/ c = 32) := by
 have h := ix_fin ⟨c.toNat, c.toNat_lt⟩
 have e : c.toNat.toUInt8 = c := u8_of c _ rfl
 simp only [e] at h
 have h2 := Bool.eq_iff_iff.1 h
 rw [decide_eq_true_iff, decide_eq_true_iff] at h2
 rw [h2]
 have hh : ∀ k : UInt8, c.toNat = k.toNat ↔ c = k := fun k => UInt8.toNat_inj
 rw [<- hh 34, <- hh 39, <- hh 40, <- hh 41, <- hh 92, <- hh 32]; rfl
theorem urlB_len (c : UInt8) : 1 <= (urlB c).length /\ (urlB c).length <= 16 := by
 unfold urlB
 split
 ·simp
 ·split
  ·have h1 := encZs_len (numN c.toNat)
   have h2 := numN_len c.toNat
   have h3 : 1 <= (numN c.toNat).length := by simp [numN]
   omega
  ·simp
def accU (s : List UInt8) (k : Nat) : List UInt8 := [117, 114, 108, 40] ++ (s.take k).flatMap urlB
theorem accU_succ (s : List UInt8) (k : Nat) (h : k < s.length) : accU s (k + 1) = accU s k ++ urlB s[k] := by
 unfold accU
 rw [List.take_succ_eq_append_getElem h, List.flatMap_append]; simp
theorem accU_len (s : List UInt8) (k : Nat) : (accU s k).length <= 4 + 16 * k := by
 induction k with
 | zero => simp [accU]
 | succ k ih =>
  by_cases h : k < s.length
  ·rw [accU_succ s k h, List.length_append]
   have := (urlB_len s[k]).2
   omega
  ·have : s.take (k + 1) = s.take k := by rw [List.take_of_length_le (by omega), List.take_of_length_le (by omega)]
   have e : accU s (k + 1) = accU s k := by unfold accU; rw [this]
   rw [e]; omega
theorem e3_split (s : List UInt8) (c : UInt8) (t : List UInt8) (h : s = c :: t) : e3 s = ((decide (c = 101) || decide (c = 69)) && dig ((unsign t).getD 0 0)) := by
 subst h
 unfold e3 unsign
 cases t with
 | nil => simp
 | cons a u =>
  by_cases h45 : a = 45
  ·subst h45; simp
  ·simp [h45]
end Go.Proofs.YtimjbjppmhdjnaaGreatDoor.M
namespace Go.Proofs.YtimjbjppmhdjnaaGreatDoor
open Go.RowKit
set_option linter.unusedVariables false
set_option linter.unusedSimpArgs false
theorem url_any (s t : List UInt8) (w : World) (hT : Tabs w) (hl : s.length <= 100000) (ht : M.urlS s = t) :
  Calls Tryz.prog 47 #[.string (bytes s)] w (StP w t) := by
 have kc := fun (w : World) (C : Array Value) (n c : Nat) => Lib.run_convert_bytes_const (P := Tryz.prog) w 22 5 C n c Tryz.underlying22 Tryz.underlying5
 have hsz := bytes_size s
 obtain ⟨S, hS⟩ : ∃ S, bytes s = S := ⟨_, rfl⟩
 rw [hS] at hsz ⊢
 have hget : ∀ (k : Nat) (hk : k < S.size) (hk2 : k < s.length), S[k] = s[k] := by
  intro k hk hk2
  subst hS
  rfl
 have Hget := Lib.hid hget
 have Hsz := Lib.hid hsz
 have HT := Lib.hid hT
 have Ht := Lib.hid ht
 have hs1 : S.size <= 100000 := by omega
 clear hget hS hsz hT ht
 go_enter Tryz.func47, Tryz.ntmps47
 go_wp2
 go_loopw [3, 4, 5, 10] (fun ov _ _ iv wr => ∃ k : Nat, iv = .int .i64 (k : Int) /\ k <= S.size /\ OF w.heap.size wr ov (M.accU s k) /\ Below w.heap.size w wr) (fun _ _ _ iv _ => S.size - (intOf iv).toNat)
 case atStart => exact ⟨0, rfl, by omega, .inr (full_new w [117, 114, 108, 40] _ (by simp)), (Below.refl _ _).alloc (Nat.le_refl _) _⟩
 case round =>
  obtain ⟨k, rfl, hk, ho, hb⟩ := hrel
  have hsz := hb.size
  by_cases hlt : k < S.size
  ·have hk2 : k < s.length := by rw [<- Hsz.out]; exact hlt
   have hsk := Hget.out k hlt hk2
   have hac := M.accU_succ s k hk2
   have hal := M.accU_len s k
   obtain ⟨c, hc⟩ : ∃ c, s[k] = c := ⟨_, rfl⟩
   rw [hc] at hsk hac
   have hub := M.urlB_len c
   have Hsk := Lib.hid hsk
   obtain ⟨z, hz⟩ : ∃ z, Lib.indexByte [34, 39, 40, 41, 92, 32] c = z := ⟨_, rfl⟩
   have hzi := M.ix_iff c
   rw [hz] at hzi
   obtain ⟨C, hC⟩ : ∃ C : Int, (c.toNat : Int) = C := ⟨_, rfl⟩
   have IX := Lib.hid (fun w => (Tryz.strings_IndexByte ⟨#[34, 39, 40, 41, 92, 32]⟩ (c.toNat : Int) w).mono fun e w' (h : e = .returned (.int .i64 (Lib.indexByte [34, 39, 40, 41, 92, 32] ((c.toNat : Int).toNat.toUInt8))) /\ w' = w) => (⟨by rw [h.1, show (c.toNat : Int).toNat.toUInt8 = c from by rw [Int.toNat_natCast]; exact M.u8_of c _ rfl, hz], h.2.symm⟩ : e = .returned (.int .i64 z) /\ w = w'))
   have hcr : 0 <= C /\ C < 256 := by have := c.toNat_lt; omega
   have C0 := hcr.1
   have C1 := hcr.2
   have k0 : (0 : Int) <= k := by omega
   have k1 : (k : Int) < S.size := by omega
   obtain ⟨A, hA⟩ : ∃ A, M.accU s k = A := ⟨_, rfl⟩
   rw [hA] at ho hac hal
   have HAC := Lib.hid hac
   have HO := Lib.hid ho
   have HB := Lib.hid hb
   have hAl : A.length <= 4000000 := by omega
   have HC := Lib.hid hC
   have hsk2 : (S[k]'hlt).toNat = c.toNat := by rw [hsk]
   clear hac hA hal hc hk2 hz hsk ho hb hcr hl
   by_cases hsp : c = 34 \/ c = 39 \/ c = 40 \/ c = 41 \/ c = 92 \/ c = 32
   ·have hz0 : 0 <= z := hzi.2 hsp
    have HUB := Lib.hid (show M.urlB c = [92, c] by unfold M.urlB; rw [if_pos hsp])
    have hsk3 := Hsk.out
    clear hzi hsp hub
    rw [HC.out] at IX
    as_aux_lemma =>
     go_wp2_with (simp only [Hsk.out, HC.out])
     refine (IX.out _).mono ?_
     rintro e w' ⟨rfl, rfl⟩
     go_wp2_with (at_builtin; refine wpl_appendO rfl _ _ rfl w.heap.size _ (.slice (some ⟨wr.heap.size, 0, none⟩) 2 2) A [92, c] (A ++ [92, c]) rfl (HO.out.keep ((Below.refl _ _).alloc (Nat.le_refl _) _)) rfl (bs_cells_new wr [92, c] _ 2 (by simp only [bcells, List.map_cons, List.map_nil, HC.out]; rfl) rfl (by simp)) (fun n c h => by simp at h) (by simp) (by simp; omega) (by simp; omega) rfl ?_)
     intro v3 w3 ho3 hb3
     have hb4 := (HB.out.alloc hsz _).trans hb3
     go_wp2
     go_roundw
     case rel => exact ⟨k + 1, by go_num, by omega, by rw [HAC.out, HUB.out]; exact .inl ho3, hb4⟩
     case measure => simp [intOf]; omega
   ·have hz0 : z < 0 := by rcases Int.lt_or_le z 0 with h | h; exact h; exact absurd (hzi.1 h) hsp
    rw [HC.out] at IX
    by_cases hnm : c.toNat < 32 \/ c = 127
    ·have HUB := Lib.hid (show M.urlB c = M.encZs (M.numN c.toNat) by unfold M.urlB; rw [if_neg hsp, if_pos hnm])
     have hway : (C < 32) \/ (¬ C < 32 /\ C = 127) := by
      rcases hnm with h | h
      ·exact .inl (by omega)
      ·right; subst h; rw [<- HC.out]; decide
     have N1 := Lib.hid (fun w hw => enum_any c.toNat w hw (by rcases hnm with h | h; omega; subst h; decide))
     have hul : (M.encZs (M.numN c.toNat)).length <= 16 /\ 1 <= (M.encZs (M.numN c.toNat)).length := by rw [<- HUB.out]; exact ⟨hub.2, hub.1⟩
     obtain ⟨U, hU⟩ : ∃ U, M.encZs (M.numN c.toNat) = U := ⟨_, rfl⟩
     rw [hU] at N1 HUB hul
     rw [HC.out] at N1
     clear hzi hsp hub hnm hU
     have hw : ∀ (b : Prop), b -> b := fun _ h => h
     as_aux_lemma =>
      rcases hway with h1 | ⟨h1, rfl⟩
      ·go_wp2_with (simp only [Hsk.out, HC.out])
       refine (IX.out _).mono ?_
       rintro e w' ⟨rfl, rfl⟩
       go_wp2_with fail
       refine (N1.out _ (HT.out.keep HB.out).z).mono ?_
       rintro e w2 ⟨rfl, hb2⟩
       have HO2 := Lib.hid (HO.out.keep hb2)
       have HB2 := Lib.hid (HB.out.trans (hb2.mono HB.out.size))
       have hz2 := HB2.out.size
       clear hb2
       go_wp2_with (at_builtin; refine wpl_appendO_str rfl _ _ rfl w.heap.size _ A U (A ++ U) rfl HO2.out rfl (by omega) (by omega) hz2 rfl ?_)
       intro v3 w3 ho3 hb3
       have hb4 := HB2.out.trans hb3
       go_wp2
       go_roundw
       case rel => exact ⟨k + 1, by go_num, by omega, by rw [HAC.out, HUB.out]; exact .inl ho3, hb4⟩
       case measure => simp [intOf]; omega
      ·go_wp2_with (simp only [Hsk.out, HC.out])
       refine (IX.out _).mono ?_
       rintro e w' ⟨rfl, rfl⟩
       go_wp2_with fail
       refine (N1.out _ (HT.out.keep HB.out).z).mono ?_
       rintro e w2 ⟨rfl, hb2⟩
       have HO2 := Lib.hid (HO.out.keep hb2)
       have HB2 := Lib.hid (HB.out.trans (hb2.mono HB.out.size))
       have hz2 := HB2.out.size
       clear hb2
       go_wp2_with (at_builtin; refine wpl_appendO_str rfl _ _ rfl w.heap.size _ A U (A ++ U) rfl HO2.out rfl (by omega) (by omega) hz2 rfl ?_)
       intro v3 w3 ho3 hb3
       have hb4 := HB2.out.trans hb3
       go_wp2
       go_roundw
       case rel => exact ⟨k + 1, by go_num, by omega, by rw [HAC.out, HUB.out]; exact .inl ho3, hb4⟩
       case measure => simp [intOf]; omega
    ·have HUB := Lib.hid (show M.urlB c = [c] by unfold M.urlB; rw [if_neg hsp, if_neg hnm])
     have h1 : ¬ C < 32 := by omega
     have h2 : (C == 127) = false := by rw [beq_eq_false_iff_ne]; intro h; exact hnm (.inr (UInt8.toNat_inj.1 (by show c.toNat = 127; omega)))
     clear hzi hsp hub hnm
     as_aux_lemma =>
      go_wp2_with (simp only [Hsk.out, HC.out])
      refine (IX.out _).mono ?_
      rintro e w' ⟨rfl, rfl⟩
      go_wp2_with (at_builtin; refine wpl_appendO rfl _ _ rfl w.heap.size _ (.slice (some ⟨wr.heap.size, 0, none⟩) 1 1) A [c] (A ++ [c]) rfl (HO.out.keep ((Below.refl _ _).alloc (Nat.le_refl _) _)) rfl (bs_cells_new wr [c] _ 1 (by simp only [bcells, List.map_cons, List.map_nil, HC.out]) rfl (by simp)) (fun n c h => by simp at h) (by simp) (by simp; omega) (by simp; omega) rfl ?_)
      intro v3 w3 ho3 hb3
      have hb4 := (HB.out.alloc hsz _).trans hb3
      go_wp2
      go_roundw
      case rel => exact ⟨k + 1, by go_num, by omega, by rw [HAC.out, HUB.out]; exact .inl ho3, hb4⟩
      case measure => simp [intOf]; omega
  ·obtain rfl : k = S.size := by omega
   have hfin : M.accU s S.size ++ [41] = t := by
    rw [<- Ht.out]; unfold M.accU M.urlS; rw [Hsz.out, List.take_length]; simp
   have hal := M.accU_len s S.size
   obtain ⟨A, hA⟩ : ∃ A, M.accU s S.size = A := ⟨_, rfl⟩
   rw [hA] at ho hfin hal
   have HF := Lib.hid hfin
   have HO := Lib.hid ho
   have HB := Lib.hid hb
   clear hlt ho hb hA hfin
   go_wp2_with (at_builtin; refine wpl_appendO rfl _ _ rfl w.heap.size _ (.slice (some ⟨wr.heap.size, 0, none⟩) 1 1) A [41] (A ++ [41]) rfl (HO.out.keep ((Below.refl _ _).alloc (Nat.le_refl _) _)) rfl (bs_cells_new wr [41] _ 1 rfl rfl (by simp)) (fun n c h => by simp at h) (by simp) (by simp; omega) (by simp; omega) rfl ?_)
   intro v3 w3 ho3 hb3
   have hb4 := (HB.out.alloc hsz _).trans hb3
   rw [HF.out] at ho3
   have hcv2 := conv_own ho3
   have HG : Hid (StP w t (.returned (.string (bytes t))) w3) := Lib.hid ⟨rfl, hb4⟩
   clear hb4 hb3 ho3
   go_wp2
   go_ret
   exact HG.out
theorem cat_bytes (a b t : List UInt8) (h : a ++ b = t) : bytes a ++ bytes b = bytes t := by rw [cat2, h]
theorem spF_bytes_len (ps : List Int) : (M.encZs (M.spF ps)).length <= 16 * ps.length + 16 := by
 have h1 := (M.encZs_len (M.spF ps)).2
 have h2 : (M.spF ps).length <= 4 * ps.length + 1 := by
  cases ps with
  | nil => simp [M.spF]
  | cons a t =>
   rw [M.spF_cons]
   have h3 := M.spR_len t
   have h4 := M.spR_len (a :: t)
   have h5 := M.numN_len a
   split
   ·simp at h4 ⊢; omega
   ·split
    ·cases t with
     | nil => simp
     | cons b u =>
      have h6 := M.spR_len u
      have h7 := M.spR_len (b :: u)
      have h8 := M.numN_len b
      simp only
      split
      ·simp at h7 ⊢; omega
      ·simp at h7 ⊢; omega
    ·simp at h4 ⊢; omega
 omega
theorem Tabs.e {w : World} (h : Tabs w) : TabsE w := ⟨h, h.z⟩
theorem unit_plain (s t : List UInt8) (w : World) (hT : Tabs w) (hl : s.length <= 1700) (h : s.head? ≠ some 101 /\ s.head? ≠ some 69) (ht : M.unitS s = t) :
  Calls Tryz.prog 48 #[.string (bytes s)] w (StP w t) := by
 have h3 : M.e3 s = false := by
  unfold M.e3
  cases s with
  | nil => simp [M.dig]
  | cons c u =>
   simp only [List.head?_cons, ne_eq, Option.some.injEq] at h
   simp [h.1, h.2]
 unfold M.unitS at ht
 rw [h3] at ht
 simp only [Bool.false_eq_true, if_false] at ht
 have P1 := Lib.hid (fun w => pre_any s 101 false w (by simpa using h.1))
 have P2 := Lib.hid (fun w => pre_any s 69 false w (by simpa using h.2))
 have S1 := Lib.hid (spell_any s t w hT.e (by omega) ht)
 unfold StP at S1 ⊢
 clear h h3 ht hT
 obtain ⟨S, hS⟩ : ∃ S, bytes s = S := ⟨_, rfl⟩
 rw [hS] at P1 P2 S1 ⊢
 clear hS
 go_enter Tryz.func48, Tryz.ntmps48
 go_wp2_with fail
 refine (P1.out _).mono ?_
 rintro e w' ⟨rfl, rfl⟩
 go_wp2_with fail
 refine (P2.out _).mono ?_
 rintro e w' ⟨rfl, rfl⟩
 go_wp2_with fail
 refine S1.out.mono ?_
 rintro e w1 ⟨rfl, hb1⟩
 go_wp2
 go_ret
 exact ⟨rfl, hb1⟩
theorem unit_enil (u d t : List UInt8) (w : World) (hT : Tabs w) (hl : ((101 : UInt8) :: u).length <= 1700) (hd : M.unsign u = d) (h : d = []) (ht : M.unitS (101 :: u) = t) :
  Calls Tryz.prog 48 #[.string (bytes (101 :: u))] w (StP w t) := by
 have h3 := M.e3_split (101 :: u) 101 u rfl
 rw [hd, h] at h3
 have h3 : M.e3 (101 :: u) = false := by rw [h3]; decide
 unfold M.unitS at ht
 rw [h3] at ht
 simp only [Bool.false_eq_true, if_false, if_true] at ht
 have P1 := Lib.hid (fun w => pre_any (101 :: u) 101 true w rfl)
 have T1 := Lib.hid (fun w => tpre_any u d w hd)
 have hext := ext_from (101 :: u) 1
 have hsz := bytes_size (101 :: u)
 rw [List.drop_succ_cons, List.drop_zero] at hext
 have S1 := Lib.hid (spell_any (101 :: u) t w hT.e (by omega) ht)
 unfold StP at S1 ⊢
 have hl9 : (101 :: u).length <= 1700 := hl
 rw [<- hsz] at hext
 have hp0 : 0 < (bytes (101 :: u)).size := by rw [hsz]; simp
 have b0 := s_at (101 :: u) 0 101 rfl hp0
 have hs1 : (bytes (101 :: u)).size <= 1700 := by rw [hsz]; exact hl
 obtain ⟨e1, e2, e3⟩ := str_nil (bytes d) d rfl h
 obtain ⟨S, hS⟩ : ∃ S, bytes (101 :: u) = S := ⟨_, rfl⟩
 obtain ⟨U, hU⟩ : ∃ S, bytes u = S := ⟨_, rfl⟩
 obtain ⟨D, hD⟩ : ∃ S, bytes d = S := ⟨_, rfl⟩
 simp only [hS] at P1 hext hp0 b0 hs1 ⊢
 simp only [hU] at T1 hext
 simp only [hD] at T1 e1 e2 e3
 simp only [hS] at S1
 have b8 : S[0]'hp0 = 101 := b0
 have i1 : (1 : Int) <= S.size := by omega
 have i0 : (0 : Int) < S.size := by omega
 have HEX := Lib.hid hext
 clear h3 ht hd h b0 hS hU hD hsz hl hl9 hext hT
 go_enter Tryz.func48, Tryz.ntmps48
 go_wp2_with fail
 refine (P1.out _).mono ?_
 rintro e w' ⟨rfl, rfl⟩
 have hext := HEX.out
 go_wp2_with (simp only [hext])
 refine (T1.out _).mono ?_
 rintro e w' ⟨rfl, rfl⟩
 go_wp2_with fail
 refine S1.out.mono ?_
 rintro e w1 ⟨rfl, hb1⟩
 go_wp2
 go_ret
 exact ⟨rfl, hb1⟩
theorem unit_elo (u d t : List UInt8) (w : World) (hT : Tabs w) (hl : ((101 : UInt8) :: u).length <= 1700) (hd : M.unsign u = d) (x : UInt8) (v : List UInt8) (h : d = x :: v) (h1 : x.toNat < 48) (ht : M.unitS (101 :: u) = t) :
  Calls Tryz.prog 48 #[.string (bytes (101 :: u))] w (StP w t) := by
 have h3 := M.e3_split (101 :: u) 101 u rfl
 rw [hd, h] at h3
 have h3 : M.e3 (101 :: u) = false := by rw [h3]; simp [M.dig]; omega
 unfold M.unitS at ht
 rw [h3] at ht
 simp only [Bool.false_eq_true, if_false, if_true] at ht
 have P1 := Lib.hid (fun w => pre_any (101 :: u) 101 true w rfl)
 have T1 := Lib.hid (fun w => tpre_any u d w hd)
 have hext := ext_from (101 :: u) 1
 have hsz := bytes_size (101 :: u)
 rw [List.drop_succ_cons, List.drop_zero] at hext
 have S1 := Lib.hid (spell_any (101 :: u) t w hT.e (by omega) ht)
 unfold StP at S1 ⊢
 have hl9 : (101 :: u).length <= 1700 := hl
 rw [<- hsz] at hext
 have hp0 : 0 < (bytes (101 :: u)).size := by rw [hsz]; simp
 have b0 := s_at (101 :: u) 0 101 rfl hp0
 have hs1 : (bytes (101 :: u)).size <= 1700 := by rw [hsz]; exact hl
 obtain ⟨e1, e2, e3⟩ := str_ne (bytes d) d rfl (by rw [h]; simp)
 have hpd : 0 < (bytes d).size := by omega
 have bd := s_at d 0 x (by rw [h]; rfl) hpd
 obtain ⟨S, hS⟩ : ∃ S, bytes (101 :: u) = S := ⟨_, rfl⟩
 obtain ⟨U, hU⟩ : ∃ S, bytes u = S := ⟨_, rfl⟩
 obtain ⟨D, hD⟩ : ∃ S, bytes d = S := ⟨_, rfl⟩
 simp only [hS] at P1 hext hp0 b0 hs1 ⊢
 simp only [hU] at T1 hext
 simp only [hD] at T1 e1 e2 e3 hpd bd
 simp only [hS] at S1
 have b9 : D[0]'hpd = x := bd
 obtain ⟨X, hX⟩ : ∃ X : Int, (x.toNat : Int) = X := ⟨_, rfl⟩
 have X0 : 0 <= X := by omega
 have X1 : X < 256 := by have := x.toNat_lt; omega
 have q1 : X < 48 := by omega
 have b8 : S[0]'hp0 = 101 := b0
 have i1 : (1 : Int) <= S.size := by omega
 have i0 : (0 : Int) < S.size := by omega
 have HEX := Lib.hid hext
 clear h3 ht hd h b0 hS hU hD hsz hl hl9 hext hT bd h1
 go_enter Tryz.func48, Tryz.ntmps48
 go_wp2_with fail
 refine (P1.out _).mono ?_
 rintro e w' ⟨rfl, rfl⟩
 have hext := HEX.out
 go_wp2_with (simp only [hext])
 refine (T1.out _).mono ?_
 rintro e w' ⟨rfl, rfl⟩
 go_wp2_with (simp only [b9, hX])
 refine S1.out.mono ?_
 rintro e w1 ⟨rfl, hb1⟩
 go_wp2
 go_ret
 exact ⟨rfl, hb1⟩
theorem unit_ehi (u d t : List UInt8) (w : World) (hT : Tabs w) (hl : ((101 : UInt8) :: u).length <= 1700) (hd : M.unsign u = d) (x : UInt8) (v : List UInt8) (h : d = x :: v) (h1 : 57 < x.toNat) (ht : M.unitS (101 :: u) = t) :
  Calls Tryz.prog 48 #[.string (bytes (101 :: u))] w (StP w t) := by
 have h3 := M.e3_split (101 :: u) 101 u rfl
 rw [hd, h] at h3
 have h3 : M.e3 (101 :: u) = false := by rw [h3]; simp [M.dig]; omega
 unfold M.unitS at ht
 rw [h3] at ht
 simp only [Bool.false_eq_true, if_false, if_true] at ht
 have P1 := Lib.hid (fun w => pre_any (101 :: u) 101 true w rfl)
 have T1 := Lib.hid (fun w => tpre_any u d w hd)
 have hext := ext_from (101 :: u) 1
 have hsz := bytes_size (101 :: u)
 rw [List.drop_succ_cons, List.drop_zero] at hext
 have S1 := Lib.hid (spell_any (101 :: u) t w hT.e (by omega) ht)
 unfold StP at S1 ⊢
 have hl9 : (101 :: u).length <= 1700 := hl
 rw [<- hsz] at hext
 have hp0 : 0 < (bytes (101 :: u)).size := by rw [hsz]; simp
 have b0 := s_at (101 :: u) 0 101 rfl hp0
 have hs1 : (bytes (101 :: u)).size <= 1700 := by rw [hsz]; exact hl
 obtain ⟨e1, e2, e3⟩ := str_ne (bytes d) d rfl (by rw [h]; simp)
 have hpd : 0 < (bytes d).size := by omega
 have bd := s_at d 0 x (by rw [h]; rfl) hpd
 obtain ⟨S, hS⟩ : ∃ S, bytes (101 :: u) = S := ⟨_, rfl⟩
 obtain ⟨U, hU⟩ : ∃ S, bytes u = S := ⟨_, rfl⟩
 obtain ⟨D, hD⟩ : ∃ S, bytes d = S := ⟨_, rfl⟩
 simp only [hS] at P1 hext hp0 b0 hs1 ⊢
 simp only [hU] at T1 hext
 simp only [hD] at T1 e1 e2 e3 hpd bd
 simp only [hS] at S1
 have b9 : D[0]'hpd = x := bd
 obtain ⟨X, hX⟩ : ∃ X : Int, (x.toNat : Int) = X := ⟨_, rfl⟩
 have X0 : 0 <= X := by omega
 have X1 : X < 256 := by have := x.toNat_lt; omega
 have q1 : ¬ X < 48 := by omega
 have q2 : 57 < X := by omega
 have b8 : S[0]'hp0 = 101 := b0
 have i1 : (1 : Int) <= S.size := by omega
 have i0 : (0 : Int) < S.size := by omega
 have HEX := Lib.hid hext
 clear h3 ht hd h b0 hS hU hD hsz hl hl9 hext hT bd h1
 go_enter Tryz.func48, Tryz.ntmps48
 go_wp2_with fail
 refine (P1.out _).mono ?_
 rintro e w' ⟨rfl, rfl⟩
 have hext := HEX.out
 go_wp2_with (simp only [hext])
 refine (T1.out _).mono ?_
 rintro e w' ⟨rfl, rfl⟩
 go_wp2_with (simp only [b9, hX])
 refine S1.out.mono ?_
 rintro e w1 ⟨rfl, hb1⟩
 go_wp2
 go_ret
 exact ⟨rfl, hb1⟩
theorem unit_edig (u d t : List UInt8) (w : World) (hT : Tabs w) (hl : ((101 : UInt8) :: u).length <= 1700) (hd : M.unsign u = d) (x : UInt8) (v : List UInt8) (h : d = x :: v) (h1 : 48 <= x.toNat) (h2 : x.toNat <= 57) (ht : M.unitS (101 :: u) = t) :
  Calls Tryz.prog 48 #[.string (bytes (101 :: u))] w (StP w t) := by
 have h3 := M.e3_split (101 :: u) 101 u rfl
 rw [hd, h] at h3
 have h3 : M.e3 (101 :: u) = true := by rw [h3]; simp [M.dig, h1, h2]
 unfold M.unitS at ht
 rw [h3] at ht
 simp only [Bool.false_eq_true, if_false, if_true] at ht
 have P1 := Lib.hid (fun w => pre_any (101 :: u) 101 true w rfl)
 have T1 := Lib.hid (fun w => tpre_any u d w hd)
 have hext := ext_from (101 :: u) 1
 have hsz := bytes_size (101 :: u)
 rw [List.drop_succ_cons, List.drop_zero] at hext
 rw [show M.byte (101 :: u) 0 = 101 from rfl, List.drop_succ_cons, List.drop_zero] at ht
 obtain ⟨R, hR⟩ : ∃ R, M.encZs (M.spR (M.pn u 0)) = R := ⟨_, rfl⟩
 have R1 := Lib.hid (fun W hW => sprest_any u R W hW (by simp at hl; omega) hR)
 have N1 := Lib.hid (fun W hW => enum_any 101 W hW (by decide))
 have hlr : R.length <= 27200 := by
  have h1 := M.pn_len u u.length 0 (by omega)
  have h2 := spR_bytes_len (M.pn u 0)
  simp at hl
  rw [<- hR]; omega
 have hln : (M.encZs (M.numN ((101 : Nat) : Int))).length <= 16 := by decide +kernel
 have a1 := cat_run (M.encZs (M.numN ((101 : Nat) : Int))) R t (by rw [<- hR]; exact ht) (by omega) (by omega)
 have zR := bytes_size R
 obtain ⟨NB, hNB⟩ : ∃ S, bytes (M.encZs (M.numN ((101 : Nat) : Int))) = S := ⟨_, rfl⟩
 obtain ⟨RB, hRB⟩ : ∃ S, bytes R = S := ⟨_, rfl⟩
 obtain ⟨TB, hTB⟩ : ∃ S, bytes t = S := ⟨_, rfl⟩
 unfold StP at R1 ⊢
 rw [hNB] at a1 N1
 rw [hRB] at a1 R1
 rw [hTB] at a1 ⊢
 have HT := Lib.hid hT
 have hl9 : (101 :: u).length <= 1700 := hl
 rw [<- hsz] at hext
 have hp0 : 0 < (bytes (101 :: u)).size := by rw [hsz]; simp
 have b0 := s_at (101 :: u) 0 101 rfl hp0
 have hs1 : (bytes (101 :: u)).size <= 1700 := by rw [hsz]; exact hl
 obtain ⟨e1, e2, e3⟩ := str_ne (bytes d) d rfl (by rw [h]; simp)
 have hpd : 0 < (bytes d).size := by omega
 have bd := s_at d 0 x (by rw [h]; rfl) hpd
 obtain ⟨S, hS⟩ : ∃ S, bytes (101 :: u) = S := ⟨_, rfl⟩
 obtain ⟨U, hU⟩ : ∃ S, bytes u = S := ⟨_, rfl⟩
 obtain ⟨D, hD⟩ : ∃ S, bytes d = S := ⟨_, rfl⟩
 simp only [hS] at P1 hext hp0 b0 hs1 ⊢
 simp only [hU] at T1 hext R1
 simp only [hD] at T1 e1 e2 e3 hpd bd
 have b9 : D[0]'hpd = x := bd
 obtain ⟨X, hX⟩ : ∃ X : Int, (x.toNat : Int) = X := ⟨_, rfl⟩
 have X0 : 0 <= X := by omega
 have X1 : X < 256 := by have := x.toNat_lt; omega
 have q1 : ¬ X < 48 := by omega
 have q2 : ¬ 57 < X := by omega
 have b8 : S[0]'hp0 = 101 := b0
 have i1 : (1 : Int) <= S.size := by omega
 have i0 : (0 : Int) < S.size := by omega
 have HEX := Lib.hid hext
 clear h3 ht hd h b0 hS hU hD hsz hl hl9 hext hT hNB hRB hTB hR bd h1 h2
 go_enter Tryz.func48, Tryz.ntmps48
 go_wp2_with fail
 refine (P1.out _).mono ?_
 rintro e w' ⟨rfl, rfl⟩
 have hext := HEX.out
 go_wp2_with (simp only [hext])
 refine (T1.out _).mono ?_
 rintro e w' ⟨rfl, rfl⟩
 go_upto_region 4 with (simp only [b9, hX])
 refine wp_region_noPanic ?_
 refine wp_region_held_drew (S := fun _ => True) (by kernel_rfl) trivial (fun hS => ?_)
 refine rtk 0 ?_
 refine rtk 1 ?_
 refine rtk 2 ?_
 refine rtk 4 ?_
 refine rtk 5 ?_
 refine wpAnyH_ready (rs := [3]) (by kernel_rfl) (by simp) ?_
 refine AllReadyH.cons rfl (fun K hK => ?_) AllReadyH.nil
 go_simp
 refine (N1.out _ (tz_drew HT.out.z)).mono ?_
 rintro e w5 ⟨rfl, hb5⟩
 refine hK.out _ _ (trivial) (fun hS => ?_)
 clear hK K
 have hb6 : Below w.heap.size w w5 := ((Below.refl w.heap.size w).drew).trans hb5
 refine wpAnyH_ready (rs := [6]) (by kernel_rfl) (by simp) ?_
 refine AllReadyH.cons rfl (fun K hK => ?_) AllReadyH.nil
 go_simp
 refine (R1.out _ (HT.out.keep hb6).e).mono ?_
 rintro e w7 ⟨rfl, hb7⟩
 refine hK.out _ _ (trivial) (fun hS => ?_)
 clear hK K
 refine rtk 7 ?_
 refine rtk 8 ?_
 refine wpAnyH_done (by kernel_rfl) ?_ _
 refine NoPanic.normal ?_
 have hb8 := hb6.trans (hb7.mono hb6.size)
 go_wp2
 go_ret
 exact ⟨rfl, hb8⟩
theorem unit_gnil (u d t : List UInt8) (w : World) (hT : Tabs w) (hl : ((69 : UInt8) :: u).length <= 1700) (hd : M.unsign u = d) (h : d = []) (ht : M.unitS (69 :: u) = t) :
  Calls Tryz.prog 48 #[.string (bytes (69 :: u))] w (StP w t) := by
 have h3 := M.e3_split (69 :: u) 69 u rfl
 rw [hd, h] at h3
 have h3 : M.e3 (69 :: u) = false := by rw [h3]; decide
 unfold M.unitS at ht
 rw [h3] at ht
 simp only [Bool.false_eq_true, if_false, if_true] at ht
 have P1 := Lib.hid (fun w => pre_any (69 :: u) 101 false w rfl)
 have P2 := Lib.hid (fun w => pre_any (69 :: u) 69 true w rfl)
 have T1 := Lib.hid (fun w => tpre_any u d w hd)
 have hext := ext_from (69 :: u) 1
 have hsz := bytes_size (69 :: u)
 rw [List.drop_succ_cons, List.drop_zero] at hext
 have S1 := Lib.hid (spell_any (69 :: u) t w hT.e (by omega) ht)
 unfold StP at S1 ⊢
 have hl9 : (69 :: u).length <= 1700 := hl
 rw [<- hsz] at hext
 have hp0 : 0 < (bytes (69 :: u)).size := by rw [hsz]; simp
 have b0 := s_at (69 :: u) 0 69 rfl hp0
 have hs1 : (bytes (69 :: u)).size <= 1700 := by rw [hsz]; exact hl
 obtain ⟨e1, e2, e3⟩ := str_nil (bytes d) d rfl h
 obtain ⟨S, hS⟩ : ∃ S, bytes (69 :: u) = S := ⟨_, rfl⟩
 obtain ⟨U, hU⟩ : ∃ S, bytes u = S := ⟨_, rfl⟩
 obtain ⟨D, hD⟩ : ∃ S, bytes d = S := ⟨_, rfl⟩
 simp only [hS] at P1 hext hp0 b0 hs1 ⊢
 simp only [hU] at T1 hext
 simp only [hD] at T1 e1 e2 e3
 simp only [hS] at P2
 simp only [hS] at S1
 have b8 : S[0]'hp0 = 69 := b0
 have i1 : (1 : Int) <= S.size := by omega
 have i0 : (0 : Int) < S.size := by omega
 have HEX := Lib.hid hext
 clear h3 ht hd h b0 hS hU hD hsz hl hl9 hext hT
 go_enter Tryz.func48, Tryz.ntmps48
 go_wp2_with fail
 refine (P1.out _).mono ?_
 rintro e w' ⟨rfl, rfl⟩
 go_wp2_with fail
 refine (P2.out _).mono ?_
 rintro e w' ⟨rfl, rfl⟩
 have hext := HEX.out
 go_wp2_with (simp only [hext])
 refine (T1.out _).mono ?_
 rintro e w' ⟨rfl, rfl⟩
 go_wp2_with fail
 refine S1.out.mono ?_
 rintro e w1 ⟨rfl, hb1⟩
 go_wp2
 go_ret
 exact ⟨rfl, hb1⟩
theorem unit_glo (u d t : List UInt8) (w : World) (hT : Tabs w) (hl : ((69 : UInt8) :: u).length <= 1700) (hd : M.unsign u = d) (x : UInt8) (v : List UInt8) (h : d = x :: v) (h1 : x.toNat < 48) (ht : M.unitS (69 :: u) = t) :
  Calls Tryz.prog 48 #[.string (bytes (69 :: u))] w (StP w t) := by
 have h3 := M.e3_split (69 :: u) 69 u rfl
 rw [hd, h] at h3
 have h3 : M.e3 (69 :: u) = false := by rw [h3]; simp [M.dig]; omega
 unfold M.unitS at ht
 rw [h3] at ht
 simp only [Bool.false_eq_true, if_false, if_true] at ht
 have P1 := Lib.hid (fun w => pre_any (69 :: u) 101 false w rfl)
 have P2 := Lib.hid (fun w => pre_any (69 :: u) 69 true w rfl)
 have T1 := Lib.hid (fun w => tpre_any u d w hd)
 have hext := ext_from (69 :: u) 1
 have hsz := bytes_size (69 :: u)
 rw [List.drop_succ_cons, List.drop_zero] at hext
 have S1 := Lib.hid (spell_any (69 :: u) t w hT.e (by omega) ht)
 unfold StP at S1 ⊢
 have hl9 : (69 :: u).length <= 1700 := hl
 rw [<- hsz] at hext
 have hp0 : 0 < (bytes (69 :: u)).size := by rw [hsz]; simp
 have b0 := s_at (69 :: u) 0 69 rfl hp0
 have hs1 : (bytes (69 :: u)).size <= 1700 := by rw [hsz]; exact hl
 obtain ⟨e1, e2, e3⟩ := str_ne (bytes d) d rfl (by rw [h]; simp)
 have hpd : 0 < (bytes d).size := by omega
 have bd := s_at d 0 x (by rw [h]; rfl) hpd
 obtain ⟨S, hS⟩ : ∃ S, bytes (69 :: u) = S := ⟨_, rfl⟩
 obtain ⟨U, hU⟩ : ∃ S, bytes u = S := ⟨_, rfl⟩
 obtain ⟨D, hD⟩ : ∃ S, bytes d = S := ⟨_, rfl⟩
 simp only [hS] at P1 hext hp0 b0 hs1 ⊢
 simp only [hU] at T1 hext
 simp only [hD] at T1 e1 e2 e3 hpd bd
 simp only [hS] at P2
 simp only [hS] at S1
 have b9 : D[0]'hpd = x := bd
 obtain ⟨X, hX⟩ : ∃ X : Int, (x.toNat : Int) = X := ⟨_, rfl⟩
 have X0 : 0 <= X := by omega
 have X1 : X < 256 := by have := x.toNat_lt; omega
 have q1 : X < 48 := by omega
 have b8 : S[0]'hp0 = 69 := b0
 have i1 : (1 : Int) <= S.size := by omega
 have i0 : (0 : Int) < S.size := by omega
 have HEX := Lib.hid hext
 clear h3 ht hd h b0 hS hU hD hsz hl hl9 hext hT bd h1
 go_enter Tryz.func48, Tryz.ntmps48
 go_wp2_with fail
 refine (P1.out _).mono ?_
 rintro e w' ⟨rfl, rfl⟩
 go_wp2_with fail
 refine (P2.out _).mono ?_
 rintro e w' ⟨rfl, rfl⟩
 have hext := HEX.out
 go_wp2_with (simp only [hext])
 refine (T1.out _).mono ?_
 rintro e w' ⟨rfl, rfl⟩
 go_wp2_with (simp only [b9, hX])
 refine S1.out.mono ?_
 rintro e w1 ⟨rfl, hb1⟩
 go_wp2
 go_ret
 exact ⟨rfl, hb1⟩
theorem unit_ghi (u d t : List UInt8) (w : World) (hT : Tabs w) (hl : ((69 : UInt8) :: u).length <= 1700) (hd : M.unsign u = d) (x : UInt8) (v : List UInt8) (h : d = x :: v) (h1 : 57 < x.toNat) (ht : M.unitS (69 :: u) = t) :
  Calls Tryz.prog 48 #[.string (bytes (69 :: u))] w (StP w t) := by
 have h3 := M.e3_split (69 :: u) 69 u rfl
 rw [hd, h] at h3
 have h3 : M.e3 (69 :: u) = false := by rw [h3]; simp [M.dig]; omega
 unfold M.unitS at ht
 rw [h3] at ht
 simp only [Bool.false_eq_true, if_false, if_true] at ht
 have P1 := Lib.hid (fun w => pre_any (69 :: u) 101 false w rfl)
 have P2 := Lib.hid (fun w => pre_any (69 :: u) 69 true w rfl)
 have T1 := Lib.hid (fun w => tpre_any u d w hd)
 have hext := ext_from (69 :: u) 1
 have hsz := bytes_size (69 :: u)
 rw [List.drop_succ_cons, List.drop_zero] at hext
 have S1 := Lib.hid (spell_any (69 :: u) t w hT.e (by omega) ht)
 unfold StP at S1 ⊢
 have hl9 : (69 :: u).length <= 1700 := hl
 rw [<- hsz] at hext
 have hp0 : 0 < (bytes (69 :: u)).size := by rw [hsz]; simp
 have b0 := s_at (69 :: u) 0 69 rfl hp0
 have hs1 : (bytes (69 :: u)).size <= 1700 := by rw [hsz]; exact hl
 obtain ⟨e1, e2, e3⟩ := str_ne (bytes d) d rfl (by rw [h]; simp)
 have hpd : 0 < (bytes d).size := by omega
 have bd := s_at d 0 x (by rw [h]; rfl) hpd
 obtain ⟨S, hS⟩ : ∃ S, bytes (69 :: u) = S := ⟨_, rfl⟩
 obtain ⟨U, hU⟩ : ∃ S, bytes u = S := ⟨_, rfl⟩
 obtain ⟨D, hD⟩ : ∃ S, bytes d = S := ⟨_, rfl⟩
 simp only [hS] at P1 hext hp0 b0 hs1 ⊢
 simp only [hU] at T1 hext
 simp only [hD] at T1 e1 e2 e3 hpd bd
 simp only [hS] at P2
 simp only [hS] at S1
 have b9 : D[0]'hpd = x := bd
 obtain ⟨X, hX⟩ : ∃ X : Int, (x.toNat : Int) = X := ⟨_, rfl⟩
 have X0 : 0 <= X := by omega
 have X1 : X < 256 := by have := x.toNat_lt; omega
 have q1 : ¬ X < 48 := by omega
 have q2 : 57 < X := by omega
 have b8 : S[0]'hp0 = 69 := b0
 have i1 : (1 : Int) <= S.size := by omega
 have i0 : (0 : Int) < S.size := by omega
 have HEX := Lib.hid hext
 clear h3 ht hd h b0 hS hU hD hsz hl hl9 hext hT bd h1
 go_enter Tryz.func48, Tryz.ntmps48
 go_wp2_with fail
 refine (P1.out _).mono ?_
 rintro e w' ⟨rfl, rfl⟩
 go_wp2_with fail
 refine (P2.out _).mono ?_
 rintro e w' ⟨rfl, rfl⟩
 have hext := HEX.out
 go_wp2_with (simp only [hext])
 refine (T1.out _).mono ?_
 rintro e w' ⟨rfl, rfl⟩
 go_wp2_with (simp only [b9, hX])
 refine S1.out.mono ?_
 rintro e w1 ⟨rfl, hb1⟩
 go_wp2
 go_ret
 exact ⟨rfl, hb1⟩
theorem unit_gdig (u d t : List UInt8) (w : World) (hT : Tabs w) (hl : ((69 : UInt8) :: u).length <= 1700) (hd : M.unsign u = d) (x : UInt8) (v : List UInt8) (h : d = x :: v) (h1 : 48 <= x.toNat) (h2 : x.toNat <= 57) (ht : M.unitS (69 :: u) = t) :
  Calls Tryz.prog 48 #[.string (bytes (69 :: u))] w (StP w t) := by
 have h3 := M.e3_split (69 :: u) 69 u rfl
 rw [hd, h] at h3
 have h3 : M.e3 (69 :: u) = true := by rw [h3]; simp [M.dig, h1, h2]
 unfold M.unitS at ht
 rw [h3] at ht
 simp only [Bool.false_eq_true, if_false, if_true] at ht
 have P1 := Lib.hid (fun w => pre_any (69 :: u) 101 false w rfl)
 have P2 := Lib.hid (fun w => pre_any (69 :: u) 69 true w rfl)
 have T1 := Lib.hid (fun w => tpre_any u d w hd)
 have hext := ext_from (69 :: u) 1
 have hsz := bytes_size (69 :: u)
 rw [List.drop_succ_cons, List.drop_zero] at hext
 rw [show M.byte (69 :: u) 0 = 69 from rfl, List.drop_succ_cons, List.drop_zero] at ht
 obtain ⟨R, hR⟩ : ∃ R, M.encZs (M.spR (M.pn u 0)) = R := ⟨_, rfl⟩
 have R1 := Lib.hid (fun W hW => sprest_any u R W hW (by simp at hl; omega) hR)
 have N1 := Lib.hid (fun W hW => enum_any 69 W hW (by decide))
 have hlr : R.length <= 27200 := by
  have h1 := M.pn_len u u.length 0 (by omega)
  have h2 := spR_bytes_len (M.pn u 0)
  simp at hl
  rw [<- hR]; omega
 have hln : (M.encZs (M.numN ((69 : Nat) : Int))).length <= 16 := by decide +kernel
 have a1 := cat_run (M.encZs (M.numN ((69 : Nat) : Int))) R t (by rw [<- hR]; exact ht) (by omega) (by omega)
 have zR := bytes_size R
 obtain ⟨NB, hNB⟩ : ∃ S, bytes (M.encZs (M.numN ((69 : Nat) : Int))) = S := ⟨_, rfl⟩
 obtain ⟨RB, hRB⟩ : ∃ S, bytes R = S := ⟨_, rfl⟩
 obtain ⟨TB, hTB⟩ : ∃ S, bytes t = S := ⟨_, rfl⟩
 unfold StP at R1 ⊢
 rw [hNB] at a1 N1
 rw [hRB] at a1 R1
 rw [hTB] at a1 ⊢
 have HT := Lib.hid hT
 have hl9 : (69 :: u).length <= 1700 := hl
 rw [<- hsz] at hext
 have hp0 : 0 < (bytes (69 :: u)).size := by rw [hsz]; simp
 have b0 := s_at (69 :: u) 0 69 rfl hp0
 have hs1 : (bytes (69 :: u)).size <= 1700 := by rw [hsz]; exact hl
 obtain ⟨e1, e2, e3⟩ := str_ne (bytes d) d rfl (by rw [h]; simp)
 have hpd : 0 < (bytes d).size := by omega
 have bd := s_at d 0 x (by rw [h]; rfl) hpd
 obtain ⟨S, hS⟩ : ∃ S, bytes (69 :: u) = S := ⟨_, rfl⟩
 obtain ⟨U, hU⟩ : ∃ S, bytes u = S := ⟨_, rfl⟩
 obtain ⟨D, hD⟩ : ∃ S, bytes d = S := ⟨_, rfl⟩
 simp only [hS] at P1 hext hp0 b0 hs1 ⊢
 simp only [hU] at T1 hext R1
 simp only [hD] at T1 e1 e2 e3 hpd bd
 simp only [hS] at P2
 have b9 : D[0]'hpd = x := bd
 obtain ⟨X, hX⟩ : ∃ X : Int, (x.toNat : Int) = X := ⟨_, rfl⟩
 have X0 : 0 <= X := by omega
 have X1 : X < 256 := by have := x.toNat_lt; omega
 have q1 : ¬ X < 48 := by omega
 have q2 : ¬ 57 < X := by omega
 have b8 : S[0]'hp0 = 69 := b0
 have i1 : (1 : Int) <= S.size := by omega
 have i0 : (0 : Int) < S.size := by omega
 have HEX := Lib.hid hext
 clear h3 ht hd h b0 hS hU hD hsz hl hl9 hext hT hNB hRB hTB hR bd h1 h2
 go_enter Tryz.func48, Tryz.ntmps48
 go_wp2_with fail
 refine (P1.out _).mono ?_
 rintro e w' ⟨rfl, rfl⟩
 go_wp2_with fail
 refine (P2.out _).mono ?_
 rintro e w' ⟨rfl, rfl⟩
 have hext := HEX.out
 go_wp2_with (simp only [hext])
 refine (T1.out _).mono ?_
 rintro e w' ⟨rfl, rfl⟩
 go_upto_region 4 with (simp only [b9, hX])
 refine wp_region_noPanic ?_
 refine wp_region_held_drew (S := fun _ => True) (by kernel_rfl) trivial (fun hS => ?_)
 refine rtk 0 ?_
 refine rtk 1 ?_
 refine rtk 2 ?_
 refine rtk 4 ?_
 refine rtk 5 ?_
 refine wpAnyH_ready (rs := [3]) (by kernel_rfl) (by simp) ?_
 refine AllReadyH.cons rfl (fun K hK => ?_) AllReadyH.nil
 go_simp
 refine (N1.out _ (tz_drew HT.out.z)).mono ?_
 rintro e w5 ⟨rfl, hb5⟩
 refine hK.out _ _ (trivial) (fun hS => ?_)
 clear hK K
 have hb6 : Below w.heap.size w w5 := ((Below.refl w.heap.size w).drew).trans hb5
 refine wpAnyH_ready (rs := [6]) (by kernel_rfl) (by simp) ?_
 refine AllReadyH.cons rfl (fun K hK => ?_) AllReadyH.nil
 go_simp
 refine (R1.out _ (HT.out.keep hb6).e).mono ?_
 rintro e w7 ⟨rfl, hb7⟩
 refine hK.out _ _ (trivial) (fun hS => ?_)
 clear hK K
 refine rtk 7 ?_
 refine rtk 8 ?_
 refine wpAnyH_done (by kernel_rfl) ?_ _
 refine NoPanic.normal ?_
 have hb8 := hb6.trans (hb7.mono hb6.size)
 go_wp2
 go_ret
 exact ⟨rfl, hb8⟩
theorem unit_any (s t : List UInt8) (w : World) (hT : Tabs w) (hl : s.length <= 1700) (ht : M.unitS s = t) :
  Calls Tryz.prog 48 #[.string (bytes s)] w (StP w t) := by
 match s, hl, ht with
 | [], hl, ht => exact unit_plain [] t w hT hl ⟨by simp, by simp⟩ ht
 | c :: u, hl, ht =>
  have hway : M.unsign u = [] \/ ∃ x v, M.unsign u = x :: v := by
   cases M.unsign u with
   | nil => exact .inl rfl
   | cons x v => exact .inr ⟨x, v, rfl⟩
  by_cases h1 : c = 101
  ·subst h1
   rcases hway with h | ⟨x, v, h⟩
   ·exact unit_enil u _ t w hT hl rfl h ht
   ·by_cases a : x.toNat < 48
    ·exact unit_elo u _ t w hT hl rfl x v h a ht
    ·by_cases b : 57 < x.toNat
     ·exact unit_ehi u _ t w hT hl rfl x v h b ht
     ·exact unit_edig u _ t w hT hl rfl x v h (by omega) (by omega) ht
  ·by_cases h2 : c = 69
   ·subst h2
    rcases hway with h | ⟨x, v, h⟩
    ·exact unit_gnil u _ t w hT hl rfl h ht
    ·by_cases a : x.toNat < 48
     ·exact unit_glo u _ t w hT hl rfl x v h a ht
     ·by_cases b : 57 < x.toNat
      ·exact unit_ghi u _ t w hT hl rfl x v h b ht
      ·exact unit_gdig u _ t w hT hl rfl x v h (by omega) (by omega) ht
   ·exact unit_plain (c :: u) t w hT hl ⟨by simpa using h1, by simpa using h2⟩ ht
theorem hash_any (g : GT) (t : List UInt8) (w : World) (hT : Tabs w) (hl : g.1.text.length <= 100000) (ht : M.hashS g.1 = t) :
  Calls Tryz.prog 45 #[.agg (gtv g)] w (StP w t) := by
 obtain ⟨⟨k, text, unit, ⟨n0, n1, n2⟩, flag, sign⟩, ⟨c0, c1, c2, c3⟩, z⟩ := g
 unfold M.hashS at ht
 simp only at hl ht
 have e1 := gtv_lit k text unit n0 n1 n2 flag sign c0 c1 c2 c3 z
 rw [e1]
 obtain ⟨r, hr⟩ : ∃ r, (if flag = true then M.encZs (M.spF (M.pn text 0)) else M.encZs (M.spR (M.pn text 0))) = r := ⟨_, rfl⟩
 rw [hr] at ht
 have hrl : r.length <= 1600100 := by
  have h1 := M.pn_len text text.length 0 (by omega)
  have h2 := spR_bytes_len (M.pn text 0)
  have h3 := spF_bytes_len (M.pn text 0)
  rw [<- hr]; split <;> omega
 have a1 := cat_bytes [35] r t (by rw [<- ht]; rfl)
 rw [show bytes [35] = (⟨#[35]⟩ : ByteArray) from rfl] at a1
 have HA := Lib.hid a1
 have zr := bytes_size r
 have HT := Lib.hid hT
 obtain ⟨RB, hRB⟩ : ∃ S, bytes r = S := ⟨_, rfl⟩
 obtain ⟨TB, hTB⟩ : ∃ S, bytes t = S := ⟨_, rfl⟩
 have zR : RB.size <= 1600100 := by rw [<- hRB, zr]; exact hrl
 unfold StP
 rw [hTB] at HA ⊢
 rw [hRB] at HA
 cases flag with
 | true =>
  simp only [if_true] at hr
  have S1 := Lib.hid (fun W hW => spell_any text r W hW hl hr)
  unfold StP at S1
  rw [hRB] at S1
  clear hT e1 ht hr hrl a1 zr hRB hTB
  go_enter Tryz.func45, Tryz.ntmps45
  go_wp2_with fail
  refine (S1.out _ (HT.out.keep ((Below.refl _ _).alloc (Nat.le_refl _) _)).e).mono ?_
  rintro e w1 ⟨rfl, hb1⟩
  have hb2 := ((Below.refl w.heap.size w).alloc (Nat.le_refl _) _).trans (hb1.mono (by simp))
  go_wp2
  go_ret
  exact ⟨congrArg (fun x => Ending.returned (Value.string x)) HA.out, hb2⟩
 | false =>
  simp only [Bool.false_eq_true, if_false] at hr
  have S1 := Lib.hid (fun W hW => sprest_any text r W hW hl hr)
  unfold StP at S1
  rw [hRB] at S1
  clear hT e1 ht hr hrl a1 zr hRB hTB
  go_enter Tryz.func45, Tryz.ntmps45
  go_wp2_with fail
  refine (S1.out _ (HT.out.keep ((Below.refl _ _).alloc (Nat.le_refl _) _)).e).mono ?_
  rintro e w1 ⟨rfl, hb1⟩
  have hb2 := ((Below.refl w.heap.size w).alloc (Nat.le_refl _) _).trans (hb1.mono (by simp))
  go_wp2
  go_ret
  exact ⟨congrArg (fun x => Ending.returned (Value.string x)) HA.out, hb2⟩
end Go.Proofs.YtimjbjppmhdjnaaGreatDoor
