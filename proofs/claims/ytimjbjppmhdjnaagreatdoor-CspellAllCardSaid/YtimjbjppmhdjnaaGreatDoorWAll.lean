import Derived.Test.YtimjbjppmhdjnaaGreatDoorWAlive
import Derived.Test.YtimjbjppmhdjnaaGreatDoorWTied
import Derived.Test.YtimjbjppmhdjnaaGreatDoorMgG
import Derived.Test.YtimjbjppmhdjnaaGreatDoorMgZ
import Derived.Test.YtimjbjppmhdjnaaGreatDoorMgV
set_option maxHeartbeats 8000000
set_option maxRecDepth 100000
namespace Go.Proofs.YtimjbjppmhdjnaaGreatDoor
open Go.RowKit
set_option linter.unusedVariables false
set_option linter.unusedSimpArgs false
theorem unitS_len2 (s : List UInt8) (h : s.length <= 1600) : (M.unitS s).length <= 32100 := by
 unfold M.unitS
 split
 ·have h1 := M.pn_len (s.drop 1) (s.drop 1).length 0 (by omega)
  have h2 := spR_bytes_len (M.pn (s.drop 1) 0)
  have h3 := (M.encZs_len (M.numN (M.byte s 0))).2
  have h4 := M.numN_len (M.byte s 0)
  rw [List.length_append]
  rw [List.length_drop] at h1
  omega
 ·have h1 := M.pn_len s s.length 0 (by omega)
  have h3 := spF_bytes_len (M.pn s 0)
  omega
theorem numS_len2 (n : M.NumV) (a b : Bool) (h1 : n.2.1.length <= 500) (h2 : n.2.2.length <= 500) (hw : a = true -> (M.wholeS n.2.1 n.2.2).length <= 401) : (M.numS n a b).length <= 4001 := by
 unfold M.numS
 split
 ·have hx : (if a then M.wholeS n.2.1 n.2.2 else M.shortS n.2.1 n.2.2).length <= 4000 := by
   cases a with
   | true => have := hw rfl; simp only [if_true]; omega
   | false =>
    simp only [Bool.false_eq_true, if_false]
    exact short_len n.2.1 n.2.2 h1 h2
  obtain ⟨x, hxx⟩ : ∃ x, (if a then M.wholeS n.2.1 n.2.2 else M.shortS n.2.1 n.2.2) = x := ⟨_, rfl⟩
  rw [hxx] at hx ⊢
  unfold M.sgS
  split
  ·simp
  ·split
   ·simp; exact hx
   ·split
    ·simp; exact hx
    ·omega
 ·simp
theorem lexed_all (l : List UInt8) (hl : l.length <= 400) : ∀ t ∈ M.tksC (M.rn l 0), 0 <= t.2 /\ M.rightT t.1 = true /\ Small t.1 /\ (M.spellT t.1).length <= 39000 /\ M.spellT t.1 ≠ [] := by
 intro t ht
 obtain ⟨h1, h2, ⟨h3, h4, h5, h6⟩, h7, h8⟩ := M.rn_tks l hl t ht
 have hs : Small t.1 := ⟨by omega, by omega, by omega, by omega⟩
 refine ⟨h1, h2, hs, ?_, h8⟩
 rcases spellT_len t.1 hs with h | h
 ·exact h
 ·have e : M.spellT t.1 = M.numS t.1.num t.1.flag t.1.sign ++ M.unitS t.1.unit := by
   unfold M.spellT
   rw [h]
   rfl
  rw [e, List.length_append]
  have a := numS_len2 t.1.num t.1.flag t.1.sign (by omega) (by omega) (fun hf => h7 hf (.inr (.inr h)))
  have b := unitS_len2 t.1.unit (by omega)
  omega
theorem call_walk (a0 : Option Addr) (len0 cap0 : Nat) (l : List UInt8) (w : World) (hl : l.length = len0) (b0 : Bs w (.slice a0 len0 cap0) l) (n0 : ∀ n c, Value.slice a0 len0 cap0 = .slice none n c -> c = 0) (hT : Tabs w) :
  Calls Tryz.prog 3 #[.slice a0 len0 cap0] w fun e w' => e = .returned (.bool true) /\ Below w.heap.size w w' := by
 have A1 := Lib.hid (alive_any w hT)
 by_cases h0 : 400 < len0
 ·have h0' : (400 : Int) < len0 := by omega
  clear b0 n0 hT hl
  go_enter Tryz.func3, Tryz.ntmps3
  go_wp2_with fail
  refine A1.out.mono ?_
  rintro e w1 ⟨rfl, hb⟩
  go_wp2
  go_ret
  exact ⟨rfl, hb⟩
 have q1 : decide ((400 : Int) < len0) = false := by simp; omega
 have k0 : len0 <= 400 := by omega
 have B0 := Lib.hid b0
 have HT := Lib.hid hT
 obtain ⟨rs, hrs⟩ : ∃ rs, M.rn l 0 = rs := ⟨_, rfl⟩
 have hall := lexed_all l (by omega)
 have hrl := M.rn_len l l.length 0 (by omega)
 rw [hrs] at hall hrl
 obtain ⟨TT, hTT⟩ : ∃ T, M.tksC rs = T := ⟨_, rfl⟩
 rw [hTT] at hall
 have hTl : TT.length <= 400 := by
  have h2 := tksC_len rs rs.length 0 (by omega)
  rw [List.drop_zero, hTT] at h2
  omega
 obtain ⟨N, hN⟩ : ∃ N, TT.length = N := ⟨_, rfl⟩
 have hNl : N <= 400 := by omega
 have HA := Lib.hid hall
 have HN := Lib.hid hN
 have R1 := Lib.hid (fun W hW => refruns_any (.slice a0 len0 cap0) l rs W hW (by omega) hrs)
 have C1 := Lib.hid (fun v W hv => rclex_any v rs TT W hv (by omega) hTT)
 unfold RuP at R1
 unfold ClP at C1
 clear b0 n0 hT hl h0 hrs hTT hall hN hrl hTl
 go_enter Tryz.func3, Tryz.ntmps3
 go_wp2_with fail
 refine A1.out.mono ?_
 rintro e1 w1 ⟨rfl, hb⟩
 have D1 := Lib.hid hb
 clear hb
 go_wp2_with fail
 refine (R1.out _ (B0.out.keep D1.out)).mono ?_
 rintro e2 w2 ⟨v2, rfl, ho2, hb2⟩
 have D2 := Lib.hid (D1.out.trans (hb2.mono D1.out.size))
 have l2 := ho2.vs
 change Rs w2 v2 rs at l2
 have S2 := Lib.hid (C1.out _ _ l2)
 clear hb2 ho2 l2
 go_wp2_with fail
 refine S2.out.mono ?_
 rintro e3 w3 ⟨v3, rfl, ho3, hb3⟩
 have D3 := Lib.hid (D2.out.trans (hb3.mono D2.out.size))
 have l3 := Lib.hid ho3.cs
 obtain ⟨a3, c3, rfl, g1, g2, g3⟩ := cs_open l3.out HN.out
 clear g3 hb3 ho3 S2
 as_aux_lemma =>
  go_wp2
  go_loopw [5] (fun iv W => ∃ i : Nat, iv = .int .i64 (i : Int) /\ i <= N /\ Below w.heap.size w W /\ Cs W (.slice a3 N c3) TT) (fun iv _ => N - (intOf iv).toNat)
  case atStart => exact ⟨0, rfl, by omega, D3.out, l3.out⟩
  case round =>
   obtain ⟨i, rfl, hi, hbw, hcw⟩ := hrel
   have HB := Lib.hid hbw
   have HCW := Lib.hid hcw
   clear hbw hcw l3 D3
   by_cases hlt : i < N
   ·have hi1 : i < TT.length := by rw [HN.out]; exact hlt
    obtain ⟨a', c', he, _, _, hc⟩ := cs_open HCW.out HN.out
    simp only [Value.slice.injEq, true_and] at he
    obtain ⟨rfl, rfl⟩ := he
    obtain ⟨b, off, rfl, hbl, hc2⟩ := hc i hi1
    obtain ⟨hz, hri, hsm, hsl, hne⟩ := HA.out _ (List.getElem_mem hi1)
    obtain ⟨t, ht⟩ : ∃ t, TT[i] = t := ⟨_, rfl⟩
    rw [ht] at hz hri hsm hsl hne hc2
    obtain ⟨⟨kk, text, unit, ⟨n0, n1, n2⟩, flag, sign⟩, z⟩ := t
    simp only at hz hri hsm hsl hne hc2
    have hrG : rightG (⟨kk, text, unit, (n0, n1, n2), flag, sign⟩, z4, z) = true := by rw [rightG_T _ _ hz]; exact hri
    have hsG : spellG (⟨kk, text, unit, (n0, n1, n2), flag, sign⟩, z4, z) = M.spellT ⟨kk, text, unit, (n0, n1, n2), flag, sign⟩ := by unfold spellG; rw [if_pos hrG]
    have RI := Lib.hid (fun W hW => cright_any (⟨kk, text, unit, (n0, n1, n2), flag, sign⟩, z4, z) true W hW hsm hsl hrG)
    have SP := Lib.hid (fun W hW => cspell_any (⟨kk, text, unit, (n0, n1, n2), flag, sign⟩, z4, z) _ W hW hsm hsl hsG)
    obtain ⟨S, hS⟩ : ∃ S, bytes (M.spellT ⟨kk, text, unit, (n0, n1, n2), flag, sign⟩) = S := ⟨_, rfl⟩
    have hSe := (str_ne S _ hS hne).1
    rw [hS] at SP
    have e0 : gtv (⟨kk, text, unit, (n0, n1, n2), flag, sign⟩, z4, z) = #[.int .i64 kk, .string (bytes text), .string (bytes unit), .bool n0, .string (bytes n1), .string (bytes n2), .bool flag, .bool sign, .int .i64 0, .int .i64 0, .int .i64 0, .int .i64 0, .int .i64 z] := rfl
    have e1 : ctv ⟨kk, text, unit, (n0, n1, n2), flag, sign⟩ z = #[.int .i64 kk, .string (bytes text), .string (bytes unit), .bool n0, .string (bytes n1), .string (bytes n2), .bool flag, .bool sign, .int .i64 0, .int .i64 0, .int .i64 0, .int .i64 0, .int .i64 z] := rfl
    rw [e0] at RI SP
    rw [e1] at hc2
    obtain ⟨TB, hTB⟩ : ∃ S, bytes text = S := ⟨_, rfl⟩
    obtain ⟨UB, hUB⟩ : ∃ S, bytes unit = S := ⟨_, rfl⟩
    obtain ⟨N1, hN1⟩ : ∃ S, bytes n1 = S := ⟨_, rfl⟩
    obtain ⟨N2, hN2⟩ : ∃ S, bytes n2 = S := ⟨_, rfl⟩
    rw [hTB, hUB, hN1, hN2] at RI SP hc2
    have HC := Lib.hid (show ∀ (W : World), Below wr.heap.size wr W -> ∀ k, k < 13 -> W.cell? ⟨b, off + i * 13 + k, none⟩ = (#[.int .i64 kk, .string TB, .string UB, .bool n0, .string N1, .string N2, .bool flag, .bool sign, .int .i64 0, .int .i64 0, .int .i64 0, .int .i64 0, .int .i64 z] : Array Value)[k]? by
     intro W hW k hk
     have e : (#[.int .i64 kk, .string TB, .string UB, .bool n0, .string N1, .string N2, .bool flag, .bool sign, .int .i64 0, .int .i64 0, .int .i64 0, .int .i64 0, .int .i64 z] : Array Value)[k]? = some ((#[.int .i64 kk, .string TB, .string UB, .bool n0, .string N1, .string N2, .bool flag, .bool sign, .int .i64 0, .int .i64 0, .int .i64 0, .int .i64 0, .int .i64 z] : Array Value)[k]'(by simpa using hk)) := Array.getElem?_eq_getElem _
     exact (hW.cell (p := ⟨b, off + i * 13 + k, none⟩) hbl).trans (by rw [e]; exact hc2 k _ e))
    have i1 : (0 : Int) <= (i : Int) := by omega
    have i2 : (i : Int) < (N : Int) := by omega
    clear hc hc2 ht hz hri hsm hsl hne hrG hsG hS e0 e1 hTB hUB hN1 hN2 hi1
    have s0 : wr.cell? ⟨b, off + i * 13, none⟩ = some (.int .i64 kk) := HC.out _ (Below.refl _ _) 0 (by decide)
    have s1 : wr.cell? ⟨b, off + i * 13 + 1, none⟩ = some (.string TB) := HC.out _ (Below.refl _ _) 1 (by decide)
    have s2 : wr.cell? ⟨b, off + i * 13 + 2, none⟩ = some (.string UB) := HC.out _ (Below.refl _ _) 2 (by decide)
    have s3 : wr.cell? ⟨b, off + i * 13 + 3, none⟩ = some (.bool n0) := HC.out _ (Below.refl _ _) 3 (by decide)
    have s4 : wr.cell? ⟨b, off + i * 13 + 4, none⟩ = some (.string N1) := HC.out _ (Below.refl _ _) 4 (by decide)
    have s5 : wr.cell? ⟨b, off + i * 13 + 5, none⟩ = some (.string N2) := HC.out _ (Below.refl _ _) 5 (by decide)
    have s6 : wr.cell? ⟨b, off + i * 13 + 6, none⟩ = some (.bool flag) := HC.out _ (Below.refl _ _) 6 (by decide)
    have s7 : wr.cell? ⟨b, off + i * 13 + 7, none⟩ = some (.bool sign) := HC.out _ (Below.refl _ _) 7 (by decide)
    have s8 : wr.cell? ⟨b, off + i * 13 + 8, none⟩ = some (.int .i64 0) := HC.out _ (Below.refl _ _) 8 (by decide)
    have s9 : wr.cell? ⟨b, off + i * 13 + 9, none⟩ = some (.int .i64 0) := HC.out _ (Below.refl _ _) 9 (by decide)
    have s10 : wr.cell? ⟨b, off + i * 13 + 10, none⟩ = some (.int .i64 0) := HC.out _ (Below.refl _ _) 10 (by decide)
    have s11 : wr.cell? ⟨b, off + i * 13 + 11, none⟩ = some (.int .i64 0) := HC.out _ (Below.refl _ _) 11 (by decide)
    have s12 : wr.cell? ⟨b, off + i * 13 + 12, none⟩ = some (.int .i64 z) := HC.out _ (Below.refl _ _) 12 (by decide)
    go_wp2_with fail
    refine (RI.out _ (HT.out.keep HB.out)).mono ?_
    rintro e w5 ⟨rfl, hb5⟩
    have HB5 := Lib.hid (HB.out.trans (hb5.mono HB.out.size))
    have HW5 := Lib.hid hb5
    clear hb5 s0 s1 s2 s3 s4 s5 s6 s7 s8 s9 s10 s11 s12
    have s0 : w5.cell? ⟨b, off + i * 13, none⟩ = some (.int .i64 kk) := HC.out _ HW5.out 0 (by decide)
    have s1 : w5.cell? ⟨b, off + i * 13 + 1, none⟩ = some (.string TB) := HC.out _ HW5.out 1 (by decide)
    have s2 : w5.cell? ⟨b, off + i * 13 + 2, none⟩ = some (.string UB) := HC.out _ HW5.out 2 (by decide)
    have s3 : w5.cell? ⟨b, off + i * 13 + 3, none⟩ = some (.bool n0) := HC.out _ HW5.out 3 (by decide)
    have s4 : w5.cell? ⟨b, off + i * 13 + 4, none⟩ = some (.string N1) := HC.out _ HW5.out 4 (by decide)
    have s5 : w5.cell? ⟨b, off + i * 13 + 5, none⟩ = some (.string N2) := HC.out _ HW5.out 5 (by decide)
    have s6 : w5.cell? ⟨b, off + i * 13 + 6, none⟩ = some (.bool flag) := HC.out _ HW5.out 6 (by decide)
    have s7 : w5.cell? ⟨b, off + i * 13 + 7, none⟩ = some (.bool sign) := HC.out _ HW5.out 7 (by decide)
    have s8 : w5.cell? ⟨b, off + i * 13 + 8, none⟩ = some (.int .i64 0) := HC.out _ HW5.out 8 (by decide)
    have s9 : w5.cell? ⟨b, off + i * 13 + 9, none⟩ = some (.int .i64 0) := HC.out _ HW5.out 9 (by decide)
    have s10 : w5.cell? ⟨b, off + i * 13 + 10, none⟩ = some (.int .i64 0) := HC.out _ HW5.out 10 (by decide)
    have s11 : w5.cell? ⟨b, off + i * 13 + 11, none⟩ = some (.int .i64 0) := HC.out _ HW5.out 11 (by decide)
    have s12 : w5.cell? ⟨b, off + i * 13 + 12, none⟩ = some (.int .i64 z) := HC.out _ HW5.out 12 (by decide)
    go_wp2_with fail
    refine (SP.out _ (HT.out.keep HB5.out)).mono ?_
    rintro e w6 ⟨rfl, hb6⟩
    have HB6 := Lib.hid (HB5.out.trans (hb6.mono HB5.out.size))
    have HC6 := Lib.hid (HCW.out.keep (HW5.out.trans (hb6.mono HW5.out.size)))
    clear hb6 s0 s1 s2 s3 s4 s5 s6 s7 s8 s9 s10 s11 s12
    go_wp2
    go_roundw
    case rel => exact ⟨i + 1, by go_num, by omega, HB6.out, HC6.out⟩
    case measure => simp [intOf]; omega
   ·go_wp2
    go_ret
    exact ⟨rfl, HB.out⟩
end Go.Proofs.YtimjbjppmhdjnaaGreatDoor
