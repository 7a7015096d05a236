import Derived.Test.YtimjbjppmhdjnaaGreatDoorWTk
import Derived.Test.YtimjbjppmhdjnaaGreatDoorNShort0
import Derived.Test.YtimjbjppmhdjnaaGreatDoorMgW
import Derived.Test.YtimjbjppmhdjnaaGreatDoorMgT
import Derived.Deep.RegionHeld3
set_option maxHeartbeats 4000000
set_option maxRecDepth 100000
namespace Go.Proofs.YtimjbjppmhdjnaaGreatDoor.M
theorem contains_pe (l : List UInt8) : Lib.containsAny l [46, 101] = hasPE l := by
 have key : ∀ l : List UInt8, (0 <= Lib.indexAny l [46, 101]) ↔ ∃ c ∈ l, ([46, 101] : List UInt8).contains c = true := by
  intro l
  induction l with
  | nil => simp [Lib.indexAny]
  | cons b l ih =>
   unfold Lib.indexAny
   by_cases hb : ([46, 101] : List UInt8).contains b = true
   ·rw [if_pos hb]; simp only [Int.le_refl, true_iff]; exact ⟨b, by simp, hb⟩
   ·rw [if_neg hb]
    by_cases hm : Lib.indexAny l [46, 101] = -1
    ·have hn : ¬ ∃ c ∈ l, ([46, 101] : List UInt8).contains c = true := by rw [<- ih, hm]; decide
     rw [if_pos (by simpa using hm)]
     constructor
     ·intro h; exact absurd h (by decide)
     ·rintro ⟨c, hc, h⟩
      rcases List.mem_cons.1 hc with rfl | hc
      ·exact absurd h hb
      ·exact absurd ⟨c, hc, h⟩ hn
    ·have hge := Lib.indexAny_ge [46, 101] l
     rw [if_neg (by simpa using hm)]
     constructor
     ·intro _
      have : 0 <= Lib.indexAny l [46, 101] := by omega
      obtain ⟨c, hc, h⟩ := ih.1 this
      exact ⟨c, by simp [hc], h⟩
     ·intro _; omega
 unfold Lib.containsAny
 rw [Bool.eq_iff_iff, decide_eq_true_iff, key]
 unfold hasPE
 rw [List.any_eq_true]
 constructor
 ·rintro ⟨c, hc, h⟩; exact ⟨c, hc, by simpa using h⟩
 ·rintro ⟨c, hc, h⟩; exact ⟨c, hc, by simpa using h⟩
theorem hasPre_two (l : List UInt8) : Lib.hasPrefix l [48, 46] = decide (l.take 2 = [48, 46]) := by
 unfold Lib.hasPrefix
 match l with
 | [] => rfl
 | [a] => rw [Bool.eq_iff_iff]; simp [List.isPrefixOf]
 | a :: b :: t =>
  rw [Bool.eq_iff_iff]
  simp [List.isPrefixOf]
  constructor <;> (rintro ⟨h1, h2⟩; exact ⟨h1.symm, h2.symm⟩)
theorem fold3_step (L : List (List UInt8)) (k : Nat) (hk : k < L.length) : (L.take (k + 1)).foldl less3 [] = less3 ((L.take k).foldl less3 []) L[k] := by
 rw [List.take_succ_eq_append_getElem hk, List.foldl_append]; rfl
theorem plain_asc (ng : Bool) (D E : List UInt8) : ∀ t ∈ plainN ng D E, ∀ x ∈ t, x.toNat < 128 := by
 intro t ht x hx
 unfold plainN at ht
 split at ht
 case isFalse => simp at ht
 rename_i hr
 have hdig : ∀ c : UInt8, dig c = true -> c.toNat < 128 := by
  intro c hc
  unfold dig at hc
  simp at hc
  have := hc.2
  omega
 have htx : ∀ z : Int, ∀ c ∈ txt z, c.toNat < 128 := by
  intro z c hc
  rcases txt_cases z with ⟨_, e⟩ | ⟨_, e⟩
  ·rw [e] at hc; exact hdig c (decS_dig _ c hc)
  ·rw [e] at hc
   rcases List.mem_cons.1 hc with rfl | hc
   ·decide
   ·exact hdig c (decS_dig _ c hc)
 have hsg : ∀ c ∈ sgl ng, c.toNat < 128 := by cases ng <;> simp [sgl]
 rcases right_ex D E hr with ⟨rfl, rfl⟩ | ⟨m, X, hm, rfl, rfl⟩
 ·rw [if_pos rfl] at ht
  simp only [List.mem_singleton] at ht
  subst ht
  rcases List.mem_append.1 hx with hx | hx
  ·exact hsg x hx
  ·simp at hx; subst hx; decide
 ·have h0 : m ≠ 0 := by intro h0; subst h0; exact hm rfl
  have hne := canon_ne m h0
  have hD := canon_dig m
  rw [if_neg hne] at ht
  have hDa : ∀ c ∈ canon m, c.toNat < 128 := fun c hc => hdig c (hD c hc)
  have hz : ∀ k, ∀ c ∈ List.replicate k (48 : UInt8), c.toNat < 128 := fun k c hc => by rw [List.eq_of_mem_replicate hc]; decide
  rcases List.mem_append.1 ht with ht | ht
  ·unfold plain1 at ht
   split at ht
   case isFalse => simp at ht
   simp only [List.mem_singleton] at ht
   subst ht
   rcases List.mem_append.1 hx with hx | hx
   ·exact hsg x hx
   ·unfold unsc at hx
    split at hx
    ·rcases List.mem_append.1 hx with hx | hx
     ·exact hDa x hx
     ·exact hz _ x hx
    ·split at hx
     ·rcases List.mem_append.1 hx with hx | hx
      ·exact hDa x (List.mem_of_mem_take hx)
      ·rcases List.mem_cons.1 hx with rfl | hx
       ·decide
       ·exact hDa x (List.mem_of_mem_drop hx)
     ·split at hx
      ·rcases List.mem_cons.1 hx with rfl | hx
       ·decide
       ·rcases List.mem_cons.1 hx with rfl | hx
        ·decide
        ·rcases List.mem_append.1 hx with hx | hx
         ·exact hz _ x hx
         ·exact hDa x hx
      ·simp at hx
  ·rcases List.mem_append.1 ht with ht | ht
   ·simp only [List.mem_singleton] at ht
    subst ht
    rcases List.mem_append.1 hx with hx | hx
    ·exact hsg x hx
    ·rcases List.mem_append.1 hx with hx | hx
     ·exact hDa x hx
     ·rcases List.mem_cons.1 hx with rfl | hx
      ·decide
      ·exact htx X x hx
   ·unfold plain3 at ht
    split at ht
    case isFalse => simp at ht
    simp only [List.mem_singleton] at ht
    subst ht
    rw [upE_txt] at hx
    rcases List.mem_append.1 hx with hx | hx
    ·exact hsg x hx
    ·rcases List.mem_append.1 hx with hx | hx
     ·exact hDa x (List.mem_of_mem_take hx)
     ·rcases List.mem_cons.1 hx with rfl | hx
      ·decide
      ·rcases List.mem_append.1 hx with hx | hx
       ·exact hDa x (List.mem_of_mem_drop hx)
       ·rcases List.mem_cons.1 hx with rfl | hx
        ·decide
        ·exact htx _ x hx
end Go.Proofs.YtimjbjppmhdjnaaGreatDoor.M
namespace Go.Proofs.YtimjbjppmhdjnaaGreatDoor
open Go.RowKit
set_option linter.unusedVariables false
set_option linter.unusedSimpArgs false
theorem plain_len (D E : List UInt8) (h1 : D.length <= 500) (h2 : E.length <= 500) : ∀ s ∈ M.plainN false D E, s.length <= 2000 := by
 intro s hs
 unfold M.plainN at hs
 split at hs
 case isFalse => simp at hs
 rename_i hr
 split at hs
 ·simp only [List.mem_singleton] at hs
  subst hs; simp [M.sgl]
 ·rename_i hD
  have hrE : M.rightD E = true := by
   unfold M.rightN at hr
   rw [if_neg hD] at hr
   simp only [Bool.and_eq_true] at hr
   exact hr.2
  have hu := upE_le D E hrE h1 h2
  rcases List.mem_append.1 hs with hs | hs
  ·unfold M.plain1 at hs
   split at hs
   ·simp only [List.mem_singleton] at hs
    subst hs
    unfold M.unsc
    simp only [M.sgl, Bool.false_eq_true, if_false, List.nil_append]
    repeat' split
    all_goals simp
    all_goals omega
   ·simp at hs
  ·rcases List.mem_append.1 hs with hs | hs
   ·simp only [List.mem_singleton] at hs
    subst hs; simp [M.sgl]; omega
   ·unfold M.plain3 at hs
    split at hs
    ·simp only [List.mem_singleton] at hs
     subst hs; simp [M.sgl]; omega
    ·simp at hs
theorem short_len (D E : List UInt8) (h1 : D.length <= 500) (h2 : E.length <= 500) : (M.shortS D E).length <= 4000 := by
 unfold M.shortS
 split
 ·simp
 ·rw [M.fold3_nil]
  by_cases h : (((M.plainN false D E).map M.cut0).filter M.hasPE) = []
  ·rw [h]; simp [M.shortN]
  ·have := M.short_mem _ h
   obtain ⟨x, hx, he⟩ := List.mem_map.1 (List.mem_filter.1 this).1
   rw [<- he]
   have a := M.cut0_len x
   have b := plain_len D E h1 h2 x hx
   omega
theorem haspre2_any (l : List UInt8) (r : Bool) (w : World) (hr : decide (l.take 2 = [48, 46]) = r) :
  Calls Tryz.prog 60 #[.string (bytes l), .string ⟨#[48, 46]⟩] w fun e w' => e = .returned (.bool r) /\ w = w' := by
 have hc := Tryz.strings_HasPrefix (bytes l) ⟨#[48, 46]⟩ w
 rw [bytes_list, show (ByteArray.mk #[48, 46]).data.toList = [48, 46] from rfl, M.hasPre_two, hr] at hc
 exact hc.mono fun _ _ h => ⟨h.1, h.2.symm⟩
theorem containsP_any (s : List UInt8) (b : Bool) (w : World) (hs : s.length <= 4000000) (ha : ∀ x ∈ s, x.toNat < 128) (hb : M.hasPE s = b) :
  Calls Tryz.prog 61 #[.string (bytes s), .string ⟨#[46, 101]⟩] w fun e w' => e = .returned (.bool b) /\ Below w.heap.size w w' := by
 have := Tryz.strings_ContainsAny_laid (bytes s) ⟨#[46, 101]⟩ w (by rw [bytes_size]; omega) (by decide) (by rw [bytes_list]; intro j b hj; exact ha b (List.mem_of_getElem? hj)) (by
  intro j b hj
  have : b ∈ ([46, 101] : List UInt8) := List.mem_of_getElem? hj
  simp at this
  rcases this with rfl | rfl <;> decide)
 rw [bytes_list, show (ByteArray.mk #[46, 101]).data.toList = [46, 101] from rfl, M.contains_pe, hb] at this
 exact this
theorem whole_any (ng : Bool) (D E t : List UInt8) (w : World) (h1 : D.length <= 500) (h2 : E.length <= 500) (ht : M.wholeS D E = t) :
  Calls Tryz.prog 26 #[.agg (numV (ng, D, E))] w fun e w' => e = .returned (.string (bytes t)) /\ Below w.heap.size w w' := by
 obtain ⟨x, ok, hx⟩ : ∃ x ok, M.intD E = (x, ok) := ⟨_, _, rfl⟩
 have I1 := Lib.hid (fun w => int_any E (x, ok) w (by omega) hx)
 unfold M.wholeS at ht
 rw [hx] at ht
 unfold intB at I1
 unfold numV
 simp only at ht I1 ⊢
 obtain ⟨SD, hSD⟩ : ∃ S, bytes D = S := ⟨_, rfl⟩
 obtain ⟨SE, hSE⟩ : ∃ S, bytes E = S := ⟨_, rfl⟩
 rw [hSE] at I1
 rw [hSD, hSE]
 have B0 : Hid (Below w.heap.size w (w.alloc (.cells #[.bool ng, .string SD, .string SE] 30))) := Lib.hid ((Below.refl _ _).alloc (Nat.le_refl _) _)
 by_cases h0 : D = []
 ·rw [if_pos h0] at ht
  subst ht
  obtain ⟨e1, e2, e3⟩ := str_nil SD D hSD h0
  clear hSD hSE hx h0 h1 h2
  go_enter Tryz.func26, Tryz.ntmps26
  go_wp2
  go_ret
  exact ⟨rfl, B0.out⟩
 ·rw [if_neg h0] at ht
  obtain ⟨e1, e2, e3⟩ := str_ne SD D hSD h0
  have way : (ok = false /\ t = []) \/ (ok = true /\ x < 0 /\ t = []) \/ (ok = true /\ 20000 < x /\ t = []) \/ (ok = true /\ ∃ n : Nat, x = n /\ n <= 20000 /\ t = D ++ List.replicate n 48) := by
   cases ok with
   | false => exact .inl ⟨rfl, by rw [<- ht]; simp⟩
   | true =>
    by_cases hn : x < 0
    ·exact .inr (.inl ⟨rfl, hn, by rw [<- ht, if_neg (by omega)]⟩)
    ·by_cases hb : 20000 < x
     ·exact .inr (.inr (.inl ⟨rfl, hb, by rw [<- ht, if_neg (by omega)]⟩))
     ·exact .inr (.inr (.inr ⟨rfl, x.toNat, by omega, by omega, by rw [<- ht, if_pos ⟨rfl, by omega, by omega⟩]⟩))
  have HSD := Lib.hid hSD
  clear hSE hx h0 ht hSD
  rcases way with ⟨rfl, rfl⟩ | ⟨rfl, hn, rfl⟩ | ⟨rfl, hn, rfl⟩ | ⟨rfl, n, rfl, hn, rfl⟩
  ·clear h1 h2
   go_enter Tryz.func26, Tryz.ntmps26
   go_wp2_with fail
   refine (I1.out _).mono ?_
   rintro e w1 ⟨rfl, hb1⟩
   go_wp2
   go_ret
   exact ⟨rfl, B0.out.trans (hb1.mono B0.out.size)⟩
  ·clear h1 h2
   go_enter Tryz.func26, Tryz.ntmps26
   go_wp2_with fail
   refine (I1.out _).mono ?_
   rintro e w1 ⟨rfl, hb1⟩
   go_wp2
   go_ret
   exact ⟨rfl, B0.out.trans (hb1.mono B0.out.size)⟩
  ·have hn2 : ¬ x < 0 := by omega
   clear h1 h2
   go_enter Tryz.func26, Tryz.ntmps26
   go_wp2_with fail
   refine (I1.out _).mono ?_
   rintro e w1 ⟨rfl, hb1⟩
   go_wp2
   go_ret
   exact ⟨rfl, B0.out.trans (hb1.mono B0.out.size)⟩
  ·have P := Lib.hid (fun w => repeat_any n w (by omega))
   have a1 := cat_run D (List.replicate n 48) _ rfl (by omega) (by simp; omega)
   obtain ⟨SZ, hSZ⟩ : ∃ S, bytes (List.replicate n 48) = S := ⟨_, rfl⟩
   obtain ⟨SR, hSR⟩ : ∃ S, bytes (D ++ List.replicate n 48) = S := ⟨_, rfl⟩
   rw [HSD.out, hSZ, hSR] at a1
   rw [hSZ] at P
   rw [hSR]
   have n0 : (0 : Int) <= n := by omega
   have n1 : (n : Int) <= 20000 := by omega
   have hz : SD.size <= 500 := by rw [<- HSD.out, bytes_size]; exact h1
   clear hSZ hSR h1 h2 HSD
   go_enter Tryz.func26, Tryz.ntmps26
   go_wp2_with fail
   refine (I1.out _).mono ?_
   rintro e w1 ⟨rfl, hb1⟩
   have cD : w1.cell? ⟨w.heap.size, 1, none⟩ = some (.string SD) := by
    rw [hb1.cell (p := ⟨w.heap.size, 1, none⟩) (by simp), World.cell?_alloc_at _ _ _ _ rfl]; rfl
   have hb2 := B0.out.trans (hb1.mono B0.out.size)
   have zb := hb2.size
   go_upto_region 6 with (fail)
   refine wp_region_noPanic ?_
   refine wp_region_held_drew (S := fun W => W.cell? ⟨w.heap.size, 1, none⟩ = some (.string SD)) (by kernel_rfl) cD (fun hS => ?_)
   refine rtk 0 ?_
   refine rtk 1 ?_
   refine rtk 2 ?_
   refine wpAnyH_ready (rs := [3]) (by kernel_rfl) (by simp) ?_
   refine AllReadyH.cons rfl (fun K hK => ?_) AllReadyH.nil
   go_simp
   refine (P.out _).mono ?_
   rintro e w5 ⟨rfl, hb5⟩
   refine hK.out _ _ (((hb5.cell (p := ⟨w.heap.size, 1, none⟩) (by have := (World.block_lt_of_cell? _ _ cD); simpa using this)).trans hS)) (fun hS => ?_)
   clear hK K
   refine rtk 4 ?_
   refine rtk 5 ?_
   refine wpAnyH_done (by kernel_rfl) ?_ _
   refine NoPanic.normal ?_
   have hb6 := hb2.drew.trans (hb5.mono hb2.drew.size)
   go_wp2
   go_ret
   exact ⟨rfl, hb6⟩
theorem shorttext_any (ng : Bool) (D E t : List UInt8) (w : World) (hT : Tabs w) (h1 : D.length <= 500) (h2 : E.length <= 500) (ht : M.shortS D E = t) :
  Calls Tryz.prog 27 #[.agg (numV (ng, D, E))] w fun e w' => e = .returned (.string (bytes t)) /\ Below w.heap.size w w' := by
 obtain ⟨l, hl⟩ : ∃ l, M.plainN false D E = l := ⟨_, rfl⟩
 have P1 := Lib.hid (fun (W : World) (hW : Below w.heap.size w W) => plain_any false D E l W (hT.keep hW) h1 h2 hl)
 have hasc := M.plain_asc false D E
 have hn3 : l.length <= 3 := by
  rw [<- hl]; unfold M.plainN M.plain1 M.plain3
  split
  ·split
   ·simp
   ·simp only [List.length_append]
    split <;> split <;> simp
  ·simp
 have hlen : ∀ s ∈ l, s.length <= 4000 := by
  intro s hs
  have := plain_len D E h1 h2 s (by rw [hl]; exact hs)
  omega
 rw [hl] at hasc
 unfold M.shortS at ht
 rw [hl] at ht
 unfold numV at P1 ⊢
 simp only at P1 ⊢
 obtain ⟨SD, hSD⟩ : ∃ S, bytes D = S := ⟨_, rfl⟩
 obtain ⟨SE, hSE⟩ : ∃ S, bytes E = S := ⟨_, rfl⟩
 rw [hSD, hSE] at P1 ⊢
 have B0 : Hid (Below w.heap.size w (w.alloc (.cells #[.bool ng, .string SD, .string SE] 30))) := Lib.hid ((Below.refl _ _).alloc (Nat.le_refl _) _)
 by_cases h0 : D = []
 ·rw [if_pos h0] at ht
  subst ht
  obtain ⟨e1, e2, e3⟩ := str_nil SD D hSD h0
  clear hSD hSE h0 h1 h2 hl hasc hlen hT
  go_enter Tryz.func27, Tryz.ntmps27
  go_wp2
  go_ret
  exact ⟨rfl, B0.out⟩
 ·rw [if_neg h0] at ht
  obtain ⟨e1, e2, e3⟩ := str_ne SD D hSD h0
  have B1 : Hid (Below w.heap.size w (w.alloc (.cells #[.bool false, .string SD, .string SE] 30))) := Lib.hid ((Below.refl _ _).alloc (Nat.le_refl _) _)
  have HR := Lib.hid ht
  have HA := Lib.hid hasc
  have HL := Lib.hid hlen
  clear hSD hSE h0 h1 h2 hl hasc hlen hT ht
  go_enter Tryz.func27, Tryz.ntmps27
  go_wp2_with fail
  refine (P1.out _ B1.out).mono ?_
  rintro e w1 ⟨v, rfl, hs, hb1⟩
  obtain ⟨a, cap, rfl, hc⟩ := ss_get hs
  have hb2 := B1.out.trans (hb1.mono B1.out.size)
  have HC := Lib.hid hc
  have HB2 := Lib.hid hb2
  obtain ⟨n, hn⟩ : ∃ n, l.length = n := ⟨_, rfl⟩
  have HN := Lib.hid hn
  rw [hn] at hn3 ⊢
  clear hs hb1 hc hb2 hn
  go_wp2
  go_loopw [3, 5, 13] (fun sv _ iv wr => ∃ k : Nat, iv = .int .i64 (k : Int) /\ k <= n /\ sv = .string (bytes (((l.map M.cut0).take k).foldl M.less3 [])) /\ Below w1.heap.size w1 wr) (fun _ _ iv _ => n - (intOf iv).toNat)
  case atStart => exact ⟨0, rfl, by omega, rfl, Below.refl _ _⟩
  case round =>
   obtain ⟨k, rfl, hk, rfl, hbr⟩ := hrel
   by_cases hlt : k < n
   ·have hkl : k < l.length := by rw [HN.out]; exact hlt
    obtain ⟨b, off, rfl, hb, hcell⟩ := HC.out (by omega)
    have hc1 := (hbr.cell (p := ⟨b, off + k, none⟩) hb).trans (hcell k hkl)
    have hst := M.fold3_step (l.map M.cut0) k (by rw [List.length_map]; exact hkl)
    have hsa := HA.out l[k] (List.getElem_mem hkl)
    have hsl := HL.out l[k] (List.getElem_mem hkl)
    rw [List.getElem_map] at hst
    obtain ⟨s, hs⟩ : ∃ s, l[k] = s := ⟨_, rfl⟩
    obtain ⟨t0, ht0⟩ : ∃ s, ((l.map M.cut0).take k).foldl M.less3 [] = s := ⟨_, rfl⟩
    rw [hs] at hc1 hst hsa hsl
    rw [ht0] at hst ⊢
    obtain ⟨c, hcc⟩ : ∃ c, M.cut0 s = c := ⟨_, rfl⟩
    rw [hcc] at hst
    have hca : ∀ x ∈ c, x.toNat < 128 := by
     intro x hx
     rw [<- hcc] at hx
     unfold M.cut0 at hx
     split at hx
     ·exact hsa x (List.mem_of_mem_drop hx)
     ·exact hsa x hx
    have hcl : c.length <= 4000 := by have := M.cut0_len s; rw [hcc] at this; omega
    obtain ⟨pe, hpe⟩ : ∃ b, M.hasPE c = b := ⟨_, rfl⟩
    have A1 := Lib.hid (fun w => containsP_any c pe w (by omega) hca hpe)
    have hex := ext_from s 1
    have z1 := bytes_size c
    have z2 := bytes_size t0
    have hpr : (s.take 2 = [48, 46] /\ c = s.drop 1 /\ 1 <= s.length) \/ (¬ s.take 2 = [48, 46] /\ c = s) := by
     rw [<- hcc]
     unfold M.cut0
     by_cases h : s.take 2 = [48, 46]
     ·rw [if_pos h]; exact .inl ⟨h, rfl, by cases s with | nil => simp at h | cons a u => simp⟩
     ·rw [if_neg h]; exact .inr ⟨h, rfl⟩
    have hfold : (pe = false /\ M.less3 t0 c = t0) \/ (pe = true /\ t0 = [] /\ M.less3 t0 c = c) \/ (pe = true /\ t0 ≠ [] /\ c.length < t0.length /\ M.less3 t0 c = c) \/ (pe = true /\ t0 ≠ [] /\ t0.length <= c.length /\ M.less3 t0 c = t0) := by
     unfold M.less3
     rw [hpe]
     cases pe with
     | false => exact .inl ⟨rfl, by simp⟩
     | true =>
      by_cases h : t0 = []
      ·exact .inr (.inl ⟨rfl, h, by simp [h]⟩)
      ·by_cases h2 : c.length < t0.length
       ·exact .inr (.inr (.inl ⟨rfl, h, h2, by simp [h2]⟩))
       ·exact .inr (.inr (.inr ⟨rfl, h, by omega, by rw [if_neg]; simp [h]; omega⟩))
    have H2 := Lib.hid (fun r (h : decide (s.take 2 = [48, 46]) = r) w => haspre2_any s r w h)
    have i0 : (0 : Int) <= k := by omega
    have i1 : (k : Int) < n := by omega
    have HST := Lib.hid hst
    have HBR := Lib.hid hbr
    have zs := bytes_size s
    obtain ⟨S, hS⟩ : ∃ S, bytes s = S := ⟨_, rfl⟩
    obtain ⟨C, hC⟩ : ∃ S, bytes c = S := ⟨_, rfl⟩
    obtain ⟨T, hTT⟩ : ∃ S, bytes t0 = S := ⟨_, rfl⟩
    have HTT := Lib.hid hTT
    have HCC := Lib.hid hC
    have HSS := Lib.hid hS
    rw [hS] at hc1 H2 hex zs
    rw [hC] at A1 z1
    rw [hTT] at z2 ⊢
    have hct : ∀ u : List UInt8, ((l.map M.cut0).take (k + 1)).foldl M.less3 [] = u -> bytes (((l.map M.cut0).take (k + 1)).foldl M.less3 []) = bytes u := fun u h => by rw [h]
    clear hcell hst hs ht0 hcc hS hC hTT hsa hca hbr hb hpe
    have first : ∃ SS : ByteArray, SS = C := ⟨_, rfl⟩
    rcases hpr with ⟨p1, p2, p3⟩ | ⟨p1, p2⟩
    ·have K1 := Lib.hid (H2.out true (by simp [p1]))
     have hext : S.extract 1 S.size = C := by
      rw [zs, hex, <- p2]; exact HCC.out
     have s1 : (1 : Int) <= S.size := by omega
     have HEX := Lib.hid hext
     clear hext hex p1 p2 p3 H2 zs
     as_aux_lemma =>
      go_wp2_with fail
      refine (K1.out _).mono ?_
      rintro e w' ⟨rfl, rfl⟩
      have hext := HEX.out
      go_wp2_with (simp only [hext])
      refine (A1.out _).mono ?_
      rintro e w2 ⟨rfl, hb2⟩
      have HF := Lib.hid (HBR.out.trans (hb2.mono HBR.out.size))
      clear hb2 hext HEX
      rcases hfold with ⟨rfl, hf⟩ | ⟨rfl, h0, hf⟩ | ⟨rfl, h0, h3, hf⟩ | ⟨rfl, h0, h3, hf⟩
      ·have HX := Lib.hid hf
       clear hf
       go_wp2
       go_roundw
       case rel => exact ⟨k + 1, by go_num, by omega, by rw [HST.out, HX.out, HTT.out], HF.out⟩
       case measure => simp [intOf] <;> omega
      ·obtain ⟨e1, e2, e3⟩ := str_nil T t0 HTT.out h0
       have HX := Lib.hid hf
       clear hf h0
       go_wp2
       go_roundw
       case rel => exact ⟨k + 1, by go_num, by omega, by rw [HST.out, HX.out, HCC.out], HF.out⟩
       case measure => simp [intOf] <;> omega
      ·obtain ⟨e1, e2, e3⟩ := str_ne T t0 HTT.out h0
       have HX := Lib.hid hf
       have e4 : C.size < T.size := by omega
       clear hf h0 h3
       go_wp2
       go_roundw
       case rel => exact ⟨k + 1, by go_num, by omega, by rw [HST.out, HX.out, HCC.out], HF.out⟩
       case measure => simp [intOf] <;> omega
      ·obtain ⟨e1, e2, e3⟩ := str_ne T t0 HTT.out h0
       have HX := Lib.hid hf
       have e4 : T.size <= C.size := by omega
       clear hf h0 h3
       go_wp2
       go_roundw
       case rel => exact ⟨k + 1, by go_num, by omega, by rw [HST.out, HX.out, HTT.out], HF.out⟩
       case measure => simp [intOf] <;> omega
    ·have K1 := Lib.hid (H2.out false (by simp [p1]))
     obtain rfl : S = C := by rw [<- HSS.out, <- HCC.out, p2]
     clear hex p1 p2 H2 zs
     as_aux_lemma =>
      go_wp2_with fail
      refine (K1.out _).mono ?_
      rintro e w' ⟨rfl, rfl⟩
      go_wp2_with fail
      refine (A1.out _).mono ?_
      rintro e w2 ⟨rfl, hb2⟩
      have HF := Lib.hid (HBR.out.trans (hb2.mono HBR.out.size))
      clear hb2
      rcases hfold with ⟨rfl, hf⟩ | ⟨rfl, h0, hf⟩ | ⟨rfl, h0, h3, hf⟩ | ⟨rfl, h0, h3, hf⟩
      ·have HX := Lib.hid hf
       clear hf
       go_wp2
       go_roundw
       case rel => exact ⟨k + 1, by go_num, by omega, by rw [HST.out, HX.out, HTT.out], HF.out⟩
       case measure => simp [intOf] <;> omega
      ·obtain ⟨e1, e2, e3⟩ := str_nil T t0 HTT.out h0
       have HX := Lib.hid hf
       clear hf h0
       go_wp2
       go_roundw
       case rel => exact ⟨k + 1, by go_num, by omega, by rw [HST.out, HX.out, HCC.out], HF.out⟩
       case measure => simp [intOf] <;> omega
      ·obtain ⟨e1, e2, e3⟩ := str_ne T t0 HTT.out h0
       have HX := Lib.hid hf
       have e4 : S.size < T.size := by omega
       clear hf h0 h3
       go_wp2
       go_roundw
       case rel => exact ⟨k + 1, by go_num, by omega, by rw [HST.out, HX.out, HCC.out], HF.out⟩
       case measure => simp [intOf] <;> omega
      ·obtain ⟨e1, e2, e3⟩ := str_ne T t0 HTT.out h0
       have HX := Lib.hid hf
       have e4 : T.size <= S.size := by omega
       clear hf h0 h3
       go_wp2
       go_roundw
       case rel => exact ⟨k + 1, by go_num, by omega, by rw [HST.out, HX.out, HTT.out], HF.out⟩
       case measure => simp [intOf] <;> omega
   ·obtain rfl : k = n := by omega
    have hfin : ((l.map M.cut0).take k).foldl M.less3 [] = t := by
     rw [<- HN.out, <- List.length_map (f := M.cut0), List.take_length]; exact HR.out
    rw [hfin]
    have HF := Lib.hid (HB2.out.trans (hbr.mono HB2.out.size))
    clear hlt hfin hbr
    go_wp2
    go_ret
    exact ⟨rfl, HF.out⟩
theorem number_any (n : M.NumV) (whole sign : Bool) (t : List UInt8) (w : World) (hT : Tabs w) (h1 : n.2.1.length <= 500) (h2 : n.2.2.length <= 500) (ht : M.numS n whole sign = t) :
  Calls Tryz.prog 11 #[.agg (numV n), .bool whole, .bool sign] w fun e w' => e = .returned (.string (bytes t)) /\ Below w.heap.size w w' := by
 obtain ⟨ng, D, E⟩ := n
 simp only at h1 h2
 obtain ⟨r, hr⟩ : ∃ r, M.rightN D E = r := ⟨_, rfl⟩
 obtain ⟨x, hx⟩ : ∃ x, M.wholeS D E = x := ⟨_, rfl⟩
 obtain ⟨y, hy⟩ : ∃ y, M.shortS D E = y := ⟨_, rfl⟩
 have R1 := Lib.hid (fun w => rightn_any ng D E r w (by omega) (by omega) hr)
 have W1 := Lib.hid (fun w => whole_any ng D E x w h1 h2 hx)
 have S1 := Lib.hid (fun (W : World) (hW : Below w.heap.size w W) => shorttext_any ng D E y W (hT.keep hW) h1 h2 hy)
 have hxl : x.length <= 20600 := by
  rw [<- hx]; unfold M.wholeS
  split
  ·simp
  ·split
   ·simp; omega
   ·simp
 have hyl : y.length <= 4000 := by
  rw [<- hy]; exact short_len D E h1 h2
 unfold M.numS at ht
 simp only at ht
 rw [hr, hx, hy] at ht
 unfold numV at R1 W1 S1 ⊢
 simp only at R1 W1 S1 ⊢
 obtain ⟨SD, hSD⟩ : ∃ S, bytes D = S := ⟨_, rfl⟩
 obtain ⟨SE, hSE⟩ : ∃ S, bytes E = S := ⟨_, rfl⟩
 rw [hSD, hSE] at R1 W1 S1 ⊢
 have B0 : Hid (Below w.heap.size w (w.alloc (.cells #[.bool ng, .string SD, .string SE] 30))) := Lib.hid ((Below.refl _ _).alloc (Nat.le_refl _) _)
 have g0 : Hid (Box w.heap.size (.bool ng) (.string SD) (.string SE) (w.alloc (.cells #[.bool ng, .string SD, .string SE] 30))) := Lib.hid
  ⟨by rw [World.cell?_alloc_at _ _ _ _ rfl]; rfl, by rw [World.cell?_alloc_at _ _ _ _ rfl]; rfl, by rw [World.cell?_alloc_at _ _ _ _ rfl]; rfl⟩
 clear hSD hSE hr hx hy hT h1 h2
 cases r with
 | false =>
  obtain rfl : ([] : List UInt8) = t := by rw [<- ht]; rfl
  clear ht hxl hyl
  go_enter Tryz.func11, Tryz.ntmps11
  go_wp2_with fail
  refine (R1.out _).mono ?_
  rintro e w1 ⟨rfl, hb1⟩
  go_wp2
  go_ret
  exact ⟨rfl, B0.out.trans (hb1.mono B0.out.size)⟩
 | true =>
  simp only [if_true] at ht
  have key : ∀ (z : List UInt8), z.length <= 20600 -> M.sgS ng sign z = t -> ∃ Z : ByteArray, bytes z = Z /\ (((Z.toList.isEmpty = true) /\ t = []) \/ ((Z.toList.isEmpty = false) /\ ((ng = true /\ bytes t = ⟨#[45]⟩ ++ Z) \/ (ng = false /\ sign = true /\ bytes t = ⟨#[43]⟩ ++ Z) \/ (ng = false /\ sign = false /\ bytes t = Z)))) := by
   intro z hz h
   refine ⟨_, rfl, ?_⟩
   by_cases h0 : z = []
   ·subst h0; exact .inl ⟨(str_nil _ [] rfl rfl).2.1, by rw [<- h]; rfl⟩
   ·have e := str_ne _ z rfl h0
    refine .inr ⟨e.1, ?_⟩
    unfold M.sgS at h
    rw [if_neg h0] at h
    cases ng with
    | true => exact .inl ⟨rfl, by rw [<- h]; rfl⟩
    | false =>
     cases sign with
     | true => exact .inr (.inl ⟨rfl, rfl, by rw [<- h]; rfl⟩)
     | false => exact .inr (.inr ⟨rfl, rfl, by rw [<- h]; rfl⟩)
  cases whole with
  | true =>
   simp only [if_true] at ht
   obtain ⟨Z, hZ, hk⟩ := key x hxl ht
   rw [hZ] at W1
   have zz : Z.size <= 20600 := by rw [<- hZ, bytes_size]; exact hxl
   clear key ht hZ hxl hyl S1
   go_enter Tryz.func11, Tryz.ntmps11
   go_wp2_with fail
   refine (R1.out _).mono ?_
   rintro e w1 ⟨rfl, hb1⟩
   obtain ⟨c0, c1, c2⟩ := box_keep g0.out hb1 (by simp)
   have hb2 := B0.out.trans (hb1.mono B0.out.size)
   go_wp2_with fail
   refine (W1.out _).mono ?_
   rintro e w2 ⟨rfl, hb3⟩
   obtain ⟨c0, c1, c2⟩ := box_keep ⟨c0, c1, c2⟩ hb3 (by have := (World.block_lt_of_cell? _ _ c0); simpa using this)
   have hb4 := hb2.trans (hb3.mono hb2.size)
   clear hb1 hb2 hb3
   have HT := Lib.hid hb4
   clear hb4
   rcases hk with ⟨e1, rfl⟩ | ⟨e1, ⟨rfl, e2⟩ | ⟨rfl, rfl, e2⟩ | ⟨rfl, rfl, e2⟩⟩
   ·go_wp2
    go_ret
    exact ⟨rfl, HT.out⟩
   all_goals
    have E2 := Lib.hid e2
    clear e2
    go_wp2
    go_ret
    exact ⟨congrArg (fun x => Ending.returned (Value.string x)) E2.out.symm, HT.out⟩
  | false =>
   simp only [Bool.false_eq_true, if_false] at ht
   obtain ⟨Z, hZ, hk⟩ := key y (by omega) ht
   rw [hZ] at S1
   have zz : Z.size <= 20600 := by rw [<- hZ, bytes_size]; omega
   clear key ht hZ hxl hyl W1
   go_enter Tryz.func11, Tryz.ntmps11
   go_wp2_with fail
   refine (R1.out _).mono ?_
   rintro e w1 ⟨rfl, hb1⟩
   obtain ⟨c0, c1, c2⟩ := box_keep g0.out hb1 (by simp)
   have hb2 := B0.out.trans (hb1.mono B0.out.size)
   go_wp2_with fail
   refine (S1.out _ hb2).mono ?_
   rintro e w2 ⟨rfl, hb3⟩
   obtain ⟨c0, c1, c2⟩ := box_keep ⟨c0, c1, c2⟩ hb3 (by have := (World.block_lt_of_cell? _ _ c0); simpa using this)
   have hb4 := hb2.trans (hb3.mono hb2.size)
   clear hb1 hb2 hb3
   have HT := Lib.hid hb4
   clear hb4
   rcases hk with ⟨e1, rfl⟩ | ⟨e1, ⟨rfl, e2⟩ | ⟨rfl, rfl, e2⟩ | ⟨rfl, rfl, e2⟩⟩
   ·go_wp2
    go_ret
    exact ⟨rfl, HT.out⟩
   all_goals
    have E2 := Lib.hid e2
    clear e2
    go_wp2
    go_ret
    exact ⟨congrArg (fun x => Ending.returned (Value.string x)) E2.out.symm, HT.out⟩
end Go.Proofs.YtimjbjppmhdjnaaGreatDoor
