/- The walk of CinputTwice: what the call comes to, in any memory in which the tables are laid. -/
import Derived.Test.YtpnlkahebdipcaaDoorTied
import Derived.WalkKit
import Derived.ProofKit
import Derived.OpenShut
import Derived.ShutString
import Derived.ChangeOld
import Derived.Below
import Derived.Test.YtpnlkahebdipcaaDoorCLaw
import Derived.Test.YtpnlkahebdipcaaDoorCMath2
import Derived.Test.YtpnlkahebdipcaaDoorUConv
namespace Go.Proofs.YtpnlkahebdipcaaDoor.cinputTwice
open Go.ChangeShapes Go.WideShapes Go.ChangeAt Go.RowKit
open Go.ChangeMaps (open_string shut_string)
set_option linter.unusedVariables false

def IsRow (k : IntKind) (w : World) (a : Option Addr) (len cap : Nat) (zs : List Int) : Prop :=
  (a = none ∧ len = 0 ∧ cap = 0 ∧ zs = []) ∨
  ∃ x, a = some x ∧ len ≤ cap ∧ cap ≤ maxLen ∧ zs.length = cap ∧ (∀ i, i < zs.length → w.cell? (x.add i) = some (.int k (zs.getD i 0))) ∧ ∀ n ∈ zs, (Lit.int k n).wf = true

set_option linter.unusedSimpArgs false
theorem map_fst_at {a b : List (Int × Int)} (h : a.map Prod.fst = b.map Prod.fst) (k : Nat) (h1 : k < a.length) (h2 : k < b.length) : (a[k]).1 = (b[k]).1 := by
  have := congrArg (fun l => l[k]?) h
  simp only [List.getElem?_map, List.getElem?_eq_getElem h1, List.getElem?_eq_getElem h2, Option.map_some, Option.some.injEq] at this
  exact this
set_option maxRecDepth 100000 in
set_option maxHeartbeats 8000000 in
theorem walk (a0 : Option Addr) (len0 cap0 : Nat) (z0 : List Int) (w : World) (w0 : IsRow .u8 w a0 len0 cap0 z0) (hT : Tabs w) :
    Calls Tryd.prog 4 #[.slice a0 len0 cap0] w fun e w' => e = .returned (.bool true) ∧ Below w.heap.size w w' := by
  obtain ⟨l, hl, b0, n0⟩ := row_bs w0
  clear w0 n0
  have al := Lib.hid (alive_any w hT)
  have B0 := Lib.hid b0
  have HT := Lib.hid hT
  by_cases h : 400 < len0
  · clear b0 hT hl
    go_enter Tryd.func4, Tryd.ntmps4
    go_wp2_with fail
    refine al.out.mono ?_
    rintro e w1 ⟨rfl, hb⟩
    go_wp2
    go_ret
    exact ⟨rfl, hb⟩
  · have h4 : len0 ≤ 400 := by omega
    obtain ⟨rs, hrs⟩ : ∃ rs, M.rn l 0 = rs := ⟨_, rfl⟩
    obtain ⟨t, ht⟩ : ∃ t, M.encR rs = t := ⟨_, rfl⟩
    obtain ⟨ms, hms⟩ : ∃ ms, M.rn t 0 = ms := ⟨_, rfl⟩
    have hok := M.rn_ok l l.length 0 (by omega)
    have hat := M.rn_at l l.length 0 (by omega)
    have hlr := M.rn_len l l.length 0 (by omega)
    rw [hrs] at hok hat hlr
    have hfs := M.rn_enc rs hok []
    rw [List.nil_append, ht] at hfs
    rw [show ([] : List UInt8).length = 0 from rfl, hms] at hfs
    have hcl := M.encR_clean rs hok
    have hva := M.encR_valid rs hok
    have htl := M.encR_len rs
    rw [ht] at hcl hva htl
    have hml : ms.length = rs.length := by have := congrArg List.length hfs; simpa using this
    have hmat := map_fst_at hfs
    have hbt : (bytes t).data.toList = t := bytes_list t
    have hbz : (bytes t).size = t.length := bytes_size t
    have R1 := Lib.hid (fun W (hW : Tabs W) (hB : Bs W (.slice a0 len0 cap0) l) => cruns_any _ l rs W hW hB (by omega) hrs)
    have T1 := Lib.hid (fun v W hR => ctext_any v rs t W hR (by omega) ht)
    have R2 := Lib.hid (fun v W (hW : Tabs W) hB => cruns_any v t ms W hW hB (by omega) hms)
    have V1 := Lib.hid (fun v W hB => refvalid_any v t _ true W hB (by omega) hva)
    have hbs := fun W : World => bw_bs W (bytes t) (by omega)
    rw [hbt] at hbs
    have hconv := fun W => bw_conv W (bytes t)
    have Hbs := Lib.hid hbs
    obtain ⟨S, hS⟩ : ∃ S, bytes t = S := ⟨_, rfl⟩
    rw [hS] at hconv hbz
    have T2 := T1
    rw [hS] at T2 Hbs
    clear T1
    obtain ⟨N, hN⟩ : ∃ N, rs.length = N := ⟨_, rfl⟩
    rw [hN] at hml hlr
    have HN := Lib.hid hN
    have HM := Lib.hid hml
    have Hat := Lib.hid hat
    have Hmat := Lib.hid hmat
    have Hcl := Lib.hid hcl
    have Hl := Lib.hid hl
    have Hbz := Lib.hid hbz
    have hN4 : N ≤ 400 := by omega
    have hS4 : S.size ≤ 1600 := by omega
    have ht4 : t.length ≤ 1600 := by omega
    clear b0 hT hl hrs ht hms hok hat hlr hfs hcl hva htl hml hmat hbt hbz hbs hS hN h
    go_enter Tryd.func4, Tryd.ntmps4
    go_wp2_with fail
    refine al.out.mono ?_
    rintro e w1 ⟨rfl, hb⟩
    go_wp2_with fail
    refine (R1.out _ (HT.out.keep hb) (B0.out.keep hb)).mono ?_
    rintro e w2 ⟨v2, rfl, ho2, hb2⟩
    have c2 := hb.trans (hb2.mono hb.size)
    clear hb hb2
    go_wp2_with fail
    refine (T2.out _ _ ho2.vs).mono ?_
    rintro e w3 ⟨rfl, hb3⟩
    have c3 := c2.trans (hb3.mono c2.size)
    have ho3 := OwnR.keep ho2 hb3
    clear c2 hb3 ho2
    have c4 := c3.trans ((bw_below w3 S).mono c3.size)
    have ho4 := OwnR.keep ho3 (bw_below w3 S)
    have hs4 := Hbs.out w3
    go_wp2_with fail
    refine (R2.out _ _ (HT.out.keep c4) hs4).mono ?_
    rintro e w5 ⟨v5, rfl, ho5, hb5⟩
    have c5 := c4.trans (hb5.mono c4.size)
    have hr5 := (OwnR.keep ho4 hb5).vs
    have hm5 := ho5.vs
    have hs5 := hs4.keep hb5
    clear c3 c4 ho3 ho4 hs4 ho5 hb5
    obtain ⟨a2, cap2, rfl, k1, k2, k3⟩ := rs_open hr5 HN.out
    obtain ⟨a5, cap5, rfl, k4, k5, k6⟩ := rs_open hm5 HM.out
    have K3 := Lib.hid k3
    have K6 := Lib.hid k6
    have Hs5 := Lib.hid hs5
    clear k3 k6 hs5 hr5 hm5
    go_wp2
    clear hconv
    obtain ⟨wo, rfl⟩ : ∃ wo : World, wo = w5 := ⟨_, rfl⟩
    go_loopw [7, 8] (fun av iv wr => ∃ (k q : Nat) (A : Int), iv = .int .i64 k ∧ k ≤ N ∧ av = .int .i64 A ∧ (∀ h : k < rs.length, A < (rs[k]).2) ∧ wr = wo.drewN q) (fun _ iv _ => N - (intOf iv).toNat)
    case atStart => exact ⟨0, 0, -1, rfl, by omega, rfl, fun h => by have := (Hat.out 0 h).1; simp at this; omega, rfl⟩
    case round =>
      obtain ⟨k, q, A, rfl, hk, rfl, hA, rfl⟩ := hrel
      by_cases hlt : k < N
      · have hkr : k < rs.length := by rw [HN.out]; exact hlt
        have hkm : k < ms.length := by rw [HM.out]; exact hlt
        obtain ⟨b, off, rfl, hbk, hc⟩ := K3.out (by omega)
        obtain ⟨b', off', rfl, hbk', hc'⟩ := K6.out (by omega)
        obtain ⟨d1, d2⟩ := hc k hkr
        obtain ⟨d3, d4⟩ := hc' k hkm
        have heq := Hmat.out k hkm hkr
        have hA2 := hA hkr
        have hat := Hat.out k hkr
        obtain ⟨x, hx⟩ : ∃ x, (rs[k]).1 = x := ⟨_, rfl⟩
        obtain ⟨y, hy⟩ : ∃ x, (rs[k]).2 = x := ⟨_, rfl⟩
        rw [heq, hx] at d3
        rw [hx] at d1
        rw [hy] at d2 hA2 hat
        have hnext : ∀ h : k + 1 < rs.length, y < (rs[k + 1]).2 := fun h => hat.2.2 h
        have hat2 := hat.2.1
        rw [Hl.out] at hat2
        have Hnext := Lib.hid hnext
        have i1 : (0 : Int) ≤ k := by omega
        have i2 : (k : Int) < N := by omega
        have t1 : (x != x) = false := by simp
        have t2 : decide (y ≤ A) = false := by simp; omega
        have t3 : decide ((len0 : Int) ≤ y) = false := by simp; omega
        clear hc hc' heq hA hat hx hy hnext
        go_wp2
        go_quiet (fail)
        go_wp2
        go_roundw
        case rel => exact ⟨k + 1, _, y, by go_num, by omega, rfl, Hnext.out, rfl⟩
        case measure => simp [intOf]; omega
      · obtain rfl : k = N := by omega
        have hs5 := Hs5.out
        have hs6 := hs5.keep (below_drewN (Below.refl _ _) q)
        obtain ⟨a6, cap6, he6, m1, m2, m3⟩ := hs5
        simp only [Value.slice.injEq] at he6
        obtain ⟨rfl, hSt, rfl⟩ := he6
        have M3 := Lib.hid m3
        have HS := Lib.hid hSt
        have HS6 := Lib.hid hs6
        clear m3 hSt hs6 hlt
        go_wp2
        go_loop [9] (fun iv => ∃ m : Nat, iv = .int .i64 m ∧ m ≤ S.size) (fun iv => S.size - (intOf iv).toNat)
        case atStart => exact ⟨0, rfl, by omega⟩
        case round =>
          obtain ⟨m, rfl, hm⟩ := hrel
          by_cases hlt : m < S.size
          · have hmt : m < t.length := by rw [← HS.out]; exact hlt
            obtain ⟨b, off, hab, hbk, hc⟩ := M3.out (by omega)
            simp only [Option.some.injEq, Addr.mk.injEq, and_true] at hab
            obtain ⟨rfl, rfl⟩ := hab
            have hcm := hc m hmt
            rw [Nat.zero_add] at hcm
            obtain ⟨z1, z2, z3⟩ := Hcl.out t[m] (List.getElem_mem hmt)
            obtain ⟨c, hcc⟩ : ∃ c, t[m] = c := ⟨_, rfl⟩
            rw [hcc] at hcm z1 z2 z3
            obtain ⟨C, hC⟩ : ∃ C : Int, (c.toNat : Int) = C := ⟨_, rfl⟩
            rw [hC] at hcm
            have t1 : (C == 0) = false := by rw [beq_eq_false_iff_ne]; intro hh; apply z1; apply UInt8.toNat_inj.1; show c.toNat = 0; omega
            have t2 : (C == 12) = false := by rw [beq_eq_false_iff_ne]; intro hh; apply z2; apply UInt8.toNat_inj.1; show c.toNat = 12; omega
            have t3 : (C == 13) = false := by rw [beq_eq_false_iff_ne]; intro hh; apply z3; apply UInt8.toNat_inj.1; show c.toNat = 13; omega
            have i1 : (0 : Int) ≤ m := by omega
            have i2 : (m : Int) < S.size := by omega
            clear hc hcc hC z1 z2 z3
            go_wp2
            go_round
            case rel => exact ⟨m + 1, by go_num, by omega⟩
            case measure => simp [intOf]; omega
          · obtain rfl : m = S.size := by omega
            clear hlt
            go_wp2_with fail
            refine (V1.out _ _ HS6.out).mono ?_
            rintro e w7 ⟨rfl, rfl⟩
            go_wp2
            go_ret
            exact ⟨rfl, below_drewN c5 q⟩

end Go.Proofs.YtpnlkahebdipcaaDoor.cinputTwice
