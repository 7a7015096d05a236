/- Texts of ours in one: JgP. -/
import Derived.Test.YtlobinjdgcidmaaGreatDoorQs05
import Derived.Test.YtlobinjdgcidmaaGreatDoorQs06
import Derived.Test.YtlobinjdgcidmaaGreatDoorQs00
import Derived.Test.YtlobinjdgcidmaaGreatDoorQs02
/- Several texts of ours in one: QJ4 QJ5 QJ6 QJ7. -/
/- What jlex.word and the functions that read texts return, for any bytes. -/
namespace Go.Proofs.YtlobinjdgcidmaaGreatDoor
open Go.RowKit
set_option linter.unusedVariables false
set_option linter.unusedSimpArgs false

theorem bs_sub {w : World} {b off len cap : Nat} {l : List UInt8} (h : Bs w (.slice (some ⟨b, off, none⟩) len cap) l) (i j : Nat) (hi : i ≤ j) (hj : j ≤ len) :
    Bs w (.slice (some ⟨b, off + i, none⟩) (j - i) (cap - i)) ((l.drop i).take (j - i)) := by
  obtain ⟨a, cap', e, h1, h2, h3⟩ := h
  simp only [Value.slice.injEq] at e
  obtain ⟨rfl, rfl, rfl⟩ := e
  have hlen : ((l.drop i).take (j - i)).length = j - i := by rw [List.length_take, List.length_drop]; omega
  refine ⟨_, cap - i, by rw [hlen], by rw [hlen]; omega, by omega, fun h0 => ?_⟩
  rw [hlen] at h0
  obtain ⟨b', off', e, hlt, hc⟩ := h3 (by omega)
  simp only [Option.some.injEq, Addr.mk.injEq, and_true] at e
  obtain ⟨rfl, rfl⟩ := e
  refine ⟨b, off + i, rfl, hlt, fun q hq => ?_⟩
  rw [hlen] at hq
  rw [Nat.add_assoc, hc (i + q) (by omega)]
  simp
theorem conv_bs {w : World} {b off len cap : Nat} {l : List UInt8} (h : Bs w (.slice (some ⟨b, off, none⟩) len cap) l) : (convert 29 9 (.slice (some ⟨b, off, none⟩) len cap)).run Tryz.prog w = .ok (.string (bytes l)) w := by
  obtain ⟨a, cap', e, h1, h2, h3⟩ := h
  simp only [Value.slice.injEq] at e
  obtain ⟨rfl, rfl, rfl⟩ := e
  have hB : Lib.Bytes w b off (bytes l) := by
    intro i hi
    have hi' : i < l.length := by simpa [bytes, ByteArray.size] using hi
    obtain ⟨b', off', e, hlt, hc⟩ := h3 (by omega)
    simp only [Option.some.injEq, Addr.mk.injEq, and_true] at e
    obtain ⟨rfl, rfl⟩ := e
    rw [hc i hi']
    congr 3
  have := Lib.run_convert_whole (P := Tryz.prog) w 29 5 9 Tryz.underlying29 Tryz.underlying5 Tryz.underlying9 b off _ hB cap
  rw [bytes_size] at this
  exact this

theorem ba_ne {T S : ByteArray} (h : ¬ T = S) : (T.toList == S.toList) = false := by
  rw [beq_eq_false_iff_ne]
  intro e
  rw [ByteArray.toList_eq, ByteArray.toList_eq] at e
  apply h
  cases T; cases S
  congr 1
  exact Array.toList_inj.1 e
set_option maxRecDepth 100000 in
set_option maxHeartbeats 2000000 in
theorem word_any (v : Value) (l : List UInt8) (i : Nat) (nm : List UInt8) (k : Nat) (r : Int × Int) (w : World) (hv : Bs w v l) (hi : i < l.length) (hl : l.length ≤ 4294967296) (hk : k ≤ 100) (hn0 : 1 ≤ nm.length) (hn9 : nm.length ≤ 100) (hr : tokI (M.wordL nm (l.drop i) k) i = r) :
    Calls Tryz.prog 68 #[v, .int .i64 (i : Int), .string (bytes nm), .int .i64 (k : Int)] w fun e w' => e = .returned (pr r) ∧ w = w' := by
  have G := Lib.hid (fun q r h hr => goes_any v l q r w hv h hl hr)
  have hv2 := hv
  obtain ⟨a, cap, rfl, h1, h2, h3⟩ := hv2
  obtain ⟨n, hn⟩ : ∃ n, l.length = n := ⟨_, rfl⟩
  obtain ⟨b, off, rfl, hb, hcl⟩ := h3 (by omega)
  obtain ⟨m, hm⟩ : ∃ m, nm.length = m := ⟨_, rfl⟩
  have hsz : (bytes nm).size = m := by rw [bytes_size, hm]
  unfold M.wordL at hr
  rw [M.drop_getD, hm] at hr
  have hcv := fun h : i + m ≤ n => conv_bs (bs_sub hv i (i + m) (by omega) (by rw [hn]; exact h))
  rw [show i + m - i = m by omega] at hcv
  obtain ⟨t, ht⟩ : ∃ t, (l.drop i).take m = t := ⟨_, rfl⟩
  rw [ht] at hr hcv
  have htl : t.length = min m (n - i) := by rw [← ht, List.length_take, List.length_drop, hn]
  obtain ⟨g, hg⟩ : ∃ g, M.goB (l.getD (i + m) 0) = g := ⟨_, rfl⟩
  rw [hg] at hr
  obtain ⟨S, hS⟩ : ∃ S, bytes nm = S := ⟨_, rfl⟩
  obtain ⟨T, hT⟩ : ∃ T, bytes t = T := ⟨_, rfl⟩
  rw [hS] at hsz ⊢
  rw [hT] at hcv
  have hST : t = nm ↔ T = S := by
    rw [← hS, ← hT]
    constructor
    · intro h; rw [h]
    · intro h; have := congrArg (fun x => x.data.toList) h; simpa [bytes] using this
  rw [hn] at h1 hl hi G ⊢
  rw [hm] at hn0 hn9
  have u1 : (i : Int) < n := by omega
  by_cases hend : n < i + m
  · have t1 : decide ((i : Int) + m > n) = true := by simp; omega
    have t2 : decide ((n : Int) < (i : Int) + m) = true := by simp; omega
    rw [if_neg (fun hh => by have := congrArg List.length hh.1; omega)] at hr
    subst hr
    clear hv h2 h3 hcl hcv ht hg hST hS hT hn hm G htl
    have Hsz := Lib.hid hsz
    go_enter Tryz.func68, Tryz.ntmps68
    go_wp2
    go_ret2
    exact ⟨rfl, rfl⟩
  · have t2 : decide ((n : Int) < (i : Int) + m) = false := by simp; omega
    have hcv1 := hcv (by omega)
    have e1 : (((i + m : Nat)) : Int) = (i : Int) + m := by omega
    have G1 := Lib.hid (G.out (i + m) g (by omega) (by rw [← hg]))
    rw [e1] at G1
    have i4 : ((i : Int) + m).toNat = i + m := by omega
    have i5 : i + m - i = m := by omega
    have hle : i + m ≤ n := by omega
    by_cases hTS : T = S
    · have htn := hST.2 hTS
      have q2 : (T.toList == S.toList) = true := by rw [hTS]; simp
      cases g with
      | false =>
        rw [if_pos ⟨htn, rfl⟩] at hr
        subst hr
        clear hv h2 h3 hcl hcv ht hg hST hS hT hn hm G htl e1 hend hTS htn
        go_enter Tryz.func68, Tryz.ntmps68
        go_wp2_with fail
        refine G1.out.mono ?_
        rintro e w' ⟨rfl, rfl⟩
        go_wp2
        go_ret2
        exact ⟨by simp [tokI, pr], rfl⟩
      | true =>
        rw [if_neg (by simp)] at hr
        subst hr
        clear hv h2 h3 hcl hcv ht hg hST hS hT hn hm G htl e1 hend hTS htn
        go_enter Tryz.func68, Tryz.ntmps68
        go_wp2_with fail
        refine G1.out.mono ?_
        rintro e w' ⟨rfl, rfl⟩
        go_wp2
        go_ret2
        exact ⟨rfl, rfl⟩
    · rw [if_neg (fun hh => hTS (hST.1 hh.1))] at hr
      subst hr
      have q3 := ba_ne hTS
      clear hv h2 h3 hcl hcv ht hg hST hS hT hn hm G htl e1 hend hTS
      go_enter Tryz.func68, Tryz.ntmps68
      go_wp2
      go_ret2
      exact ⟨rfl, rfl⟩
end Go.Proofs.YtlobinjdgcidmaaGreatDoor

/- What the functions of jlex that read texts return, for any bytes that are UTF-8 from there on. -/
namespace Go.Proofs.YtlobinjdgcidmaaGreatDoor
open Go.RowKit
set_option linter.unusedVariables false
set_option linter.unusedSimpArgs false

theorem hexV_iff (c : UInt8) : 0 ≤ M.hexV c ↔ (48 ≤ c.toNat ∧ c.toNat ≤ 57 ∨ 97 ≤ c.toNat ∧ c.toNat ≤ 102 ∨ 65 ≤ c.toNat ∧ c.toNat ≤ 70) := by
  unfold M.hexV
  repeat' split
  all_goals omega
set_option maxRecDepth 100000 in
set_option maxHeartbeats 2000000 in
theorem uesc_any (v : Value) (l : List UInt8) (i r : Nat) (w : World) (hv : Bs w v l) (hi : i < l.length) (hl : l.length ≤ 4294967296) (hr : (if M.hex4ok (l.drop (i + 2)) = true then 6 else 0) = r) :
    Calls Tryz.prog 107 #[v, .int .i64 (i : Int)] w fun e w' => e = .returned (.int .i64 (r : Int)) ∧ w = w' := by
  obtain ⟨a, cap, rfl, h1, h2, h3⟩ := hv
  obtain ⟨n, hn⟩ : ∃ n, l.length = n := ⟨_, rfl⟩
  obtain ⟨b, off, rfl, hb, hcl⟩ := h3 (by omega)
  have HC := Lib.hid (@cell_getD w b off l hcl)
  have HX := Lib.hid (fun c r hr => ishex_any c r w hr)
  have Hr := Lib.hid hr
  have HN := Lib.hid hn
  have i2 : ((i : Int) + 2).toNat = i + 2 := by omega
  have i6 : ((i : Int) + 6).toNat = i + 6 := by omega
  have i5 : i + 6 - (i + 2) = 4 := by omega
  by_cases hend : i + 6 ≤ n
  · rw [hn] at h1 hl hi ⊢
    have t1 : decide ((n : Int) < (i : Int) + 6) = false := by simp; omega
    have u1 : (i : Int) + 6 ≤ n := by omega
    clear h3 hcl hr hn h2
    go_enter Tryz.func107, Tryz.ntmps107
    go_wp2
    go_loop [19] (fun kv => ∃ j : Nat, kv = .int .i64 (j : Int) ∧ j ≤ 4 ∧ hexTo l (i + 2) j = true) (fun kv => 4 - (intOf kv).toNat)
    case atStart => exact ⟨0, rfl, by omega, rfl⟩
    case round =>
      obtain ⟨j, rfl, hj, hx⟩ := hrel
      have Hx := Lib.hid hx
      clear hx
      by_cases hj4 : j < 4
      · have hck := HC.out (i + 2 + j) (by rw [HN.out]; omega)
        obtain ⟨c, hc⟩ : ∃ c, l.getD (i + 2 + j) 0 = c := ⟨_, rfl⟩
        rw [hc] at hck
        have hck2 : w.cell? ⟨b, off + (i + 2) + j, none⟩ = some (.int .u8 (c.toNat : Int)) := by rw [← hck]; congr 2; omega
        have hno := hexTo_no l (i + 2) j hj4
        rw [hc, hexV_iff] at hno
        obtain ⟨d, hd⟩ : ∃ d, decide (48 ≤ c.toNat ∧ c.toNat ≤ 57 ∨ 97 ≤ c.toNat ∧ c.toNat ≤ 102 ∨ 65 ≤ c.toNat ∧ c.toNat ≤ 70) = d := ⟨_, rfl⟩
        have X1 := Lib.hid (HX.out c d hd)
        have hsucc : d = true → hexTo l (i + 2) (j + 1) = true := by
          intro h
          unfold hexTo
          rw [Hx.out, hc]
          simp only [Bool.true_and, decide_eq_true_eq]
          rw [hexV_iff]
          rw [h] at hd
          exact of_decide_eq_true hd
        have hbad : d = false → r = 0 := by
          intro h
          rw [h] at hd
          have := Hr.out
          rw [hno (of_decide_eq_false hd), if_neg (by simp)] at this
          omega
        have Hs := Lib.hid hsucc
        have Hb := Lib.hid hbad
        obtain ⟨C, hC⟩ : ∃ C : Int, (c.toNat : Int) = C := ⟨_, rfl⟩
        rw [hC] at hck2 X1
        clear hck hc hno hd hsucc hbad hC
        cases d with
        | true =>
          have Hn := Lib.hid (Hs.out rfl)
          go_wp2_with fail
          refine X1.out.mono ?_
          rintro e w' ⟨rfl, rfl⟩
          go_wp2
          go_round
          case rel => exact ⟨j + 1, by go_num, by omega, Hn.out⟩
          case measure => simp [intOf]; omega
        | false =>
          obtain rfl := Hb.out rfl
          go_wp2_with fail
          refine X1.out.mono ?_
          rintro e w' ⟨rfl, rfl⟩
          go_wp2
          go_ret
          exact ⟨rfl, rfl⟩
      · obtain rfl : j = 4 := by omega
        have hr6 := Hr.out
        rw [hexTo_four, Hx.out, if_pos rfl] at hr6
        subst hr6
        go_wp2
        go_ret
        exact ⟨rfl, rfl⟩
  · have t1 : decide ((n : Int) < (i : Int) + 6) = true := by simp; omega
    have hno : M.hex4ok (l.drop (i + 2)) = false := by
      cases h4 : M.hex4ok (l.drop (i + 2)) with
      | false => rfl
      | true =>
        rw [hexTo_four] at h4
        simp only [hexTo, Bool.true_and, Bool.and_eq_true, decide_eq_true_eq] at h4
        have := hexV_in l _ h4.2
        omega
    rw [hno, if_neg (by simp)] at hr
    subst hr
    rw [hn] at h1 hl hi ⊢
    clear h3 hcl hn h2 HC HX Hr HN hno
    go_enter Tryz.func107, Tryz.ntmps107
    go_wp2
    go_ret
    exact ⟨rfl, rfl⟩

set_option maxRecDepth 100000 in
set_option maxHeartbeats 2000000 in
theorem cpt_any (v : Value) (l : List UInt8) (i r : Nat) (w : World) (hT : Tabs w) (hv : Bs w v l) (hi : i < l.length) (hl : l.length ≤ 4294967296) (hok : (M.nx (l.drop i)).2.2 = true)
    (hr : (if 32 ≤ (l.getD i 0).toNat then (M.dec (l.drop i)).2 else 0) = r) :
    Calls Tryz.prog 106 #[v, .int .i64 (i : Int)] w fun e w' => e = .returned (.int .i64 (r : Int)) ∧ Below w.heap.size w w' := by
  have hnx : M.nextAt l (i : Int) = (((M.dec (l.drop i)).1 : Int), ((M.dec (l.drop i)).2 : Int), true) := by
    rw [M.nextAt_in l i hi]
    unfold M.nx at hok ⊢
    split
    · rename_i h; rw [if_pos h] at hok; exact absurd hok (by simp)
    · rfl
  have N1 := Lib.hid (next_any v l (i : Int) _ w hT hv hl hnx)
  obtain ⟨a, cap, rfl, h1, h2, h3⟩ := hv
  obtain ⟨n, hn⟩ : ∃ n, l.length = n := ⟨_, rfl⟩
  obtain ⟨b, off, rfl, hb, hcl⟩ := h3 (by omega)
  have hci := @cell_getD w b off l hcl i hi
  obtain ⟨c, hc⟩ : ∃ c, l.getD i 0 = c := ⟨_, rfl⟩
  rw [hc] at hci hr
  obtain ⟨R, hR⟩ : ∃ R, (M.dec (l.drop i)).1 = R := ⟨_, rfl⟩
  obtain ⟨K, hK⟩ : ∃ R, (M.dec (l.drop i)).2 = R := ⟨_, rfl⟩
  rw [hR, hK] at N1
  rw [hK] at hr
  obtain ⟨C, hC⟩ : ∃ C : Int, (c.toNat : Int) = C := ⟨_, rfl⟩
  rw [hC] at hci
  unfold tri at N1
  rw [hn] at h1 hl hi N1 ⊢
  have u1 : (i : Int) < n := by omega
  by_cases h32 : 32 ≤ c.toNat
  · rw [if_pos h32] at hr
    have t1 : decide (C < (32 : Int)) = false := by simp; omega
    subst hr
    clear h32 hC hR hK hc hcl h3 h2 hn hnx hok hT
    go_enter Tryz.func106, Tryz.ntmps106
    go_wp2_with fail
    refine N1.out.mono ?_
    rintro e w' ⟨rfl, hb1⟩
    have hcr := hb1.cell (p := ⟨b, off + i, none⟩) hb
    rw [hci] at hcr
    go_wp2
    go_ret
    exact ⟨rfl, hb1⟩
  · rw [if_neg h32] at hr
    have t1 : decide (C < (32 : Int)) = true := by simp; omega
    subst hr
    clear h32 hC hR hK hc hcl h3 h2 hn hnx hok hT
    go_enter Tryz.func106, Tryz.ntmps106
    go_wp2_with fail
    refine N1.out.mono ?_
    rintro e w' ⟨rfl, hb1⟩
    have hcr := hb1.cell (p := ⟨b, off + i, none⟩) hb
    rw [hci] at hcr
    go_wp2
    go_ret
    exact ⟨rfl, hb1⟩

theorem esc_cases (d : UInt8) (D : Int) (hD : (d.toNat : Int) = D) : (d ∈ M.escL ∧ d ≠ 117 ∧ ((D == 34) = true ∨ ((D == 34) = false ∧ (D == 92) = true) ∨ ((D == 34) = false ∧ (D == 92) = false ∧ (D == 47) = true) ∨ ((D == 34) = false ∧ (D == 92) = false ∧ (D == 47) = false ∧ (D == 98) = true) ∨
    ((D == 34) = false ∧ (D == 92) = false ∧ (D == 47) = false ∧ (D == 98) = false ∧ (D == 102) = true) ∨ ((D == 34) = false ∧ (D == 92) = false ∧ (D == 47) = false ∧ (D == 98) = false ∧ (D == 102) = false ∧ (D == 110) = true) ∨
    ((D == 34) = false ∧ (D == 92) = false ∧ (D == 47) = false ∧ (D == 98) = false ∧ (D == 102) = false ∧ (D == 110) = false ∧ (D == 114) = true) ∨
    ((D == 34) = false ∧ (D == 92) = false ∧ (D == 47) = false ∧ (D == 98) = false ∧ (D == 102) = false ∧ (D == 110) = false ∧ (D == 114) = false ∧ (D == 116) = true))) ∨
    (d ∉ M.escL ∧ (D == 34) = false ∧ (D == 92) = false ∧ (D == 47) = false ∧ (D == 98) = false ∧ (D == 102) = false ∧ (D == 110) = false ∧ (D == 114) = false ∧ (D == 116) = false ∧ ((d = 117 ∧ (D == 117) = true) ∨ (d ≠ 117 ∧ (D == 117) = false))) := by
  have h : ∀ d : Fin 256, (d.val.toUInt8 ∈ M.escL ∧ d.val.toUInt8 ≠ 117 ∧ (((d.val : Int) == 34) = true ∨ (((d.val : Int) == 34) = false ∧ ((d.val : Int) == 92) = true) ∨ (((d.val : Int) == 34) = false ∧ ((d.val : Int) == 92) = false ∧ ((d.val : Int) == 47) = true) ∨ (((d.val : Int) == 34) = false ∧ ((d.val : Int) == 92) = false ∧ ((d.val : Int) == 47) = false ∧ ((d.val : Int) == 98) = true) ∨
    (((d.val : Int) == 34) = false ∧ ((d.val : Int) == 92) = false ∧ ((d.val : Int) == 47) = false ∧ ((d.val : Int) == 98) = false ∧ ((d.val : Int) == 102) = true) ∨ (((d.val : Int) == 34) = false ∧ ((d.val : Int) == 92) = false ∧ ((d.val : Int) == 47) = false ∧ ((d.val : Int) == 98) = false ∧ ((d.val : Int) == 102) = false ∧ ((d.val : Int) == 110) = true) ∨
    (((d.val : Int) == 34) = false ∧ ((d.val : Int) == 92) = false ∧ ((d.val : Int) == 47) = false ∧ ((d.val : Int) == 98) = false ∧ ((d.val : Int) == 102) = false ∧ ((d.val : Int) == 110) = false ∧ ((d.val : Int) == 114) = true) ∨
    (((d.val : Int) == 34) = false ∧ ((d.val : Int) == 92) = false ∧ ((d.val : Int) == 47) = false ∧ ((d.val : Int) == 98) = false ∧ ((d.val : Int) == 102) = false ∧ ((d.val : Int) == 110) = false ∧ ((d.val : Int) == 114) = false ∧ ((d.val : Int) == 116) = true))) ∨
    (d.val.toUInt8 ∉ M.escL ∧ ((d.val : Int) == 34) = false ∧ ((d.val : Int) == 92) = false ∧ ((d.val : Int) == 47) = false ∧ ((d.val : Int) == 98) = false ∧ ((d.val : Int) == 102) = false ∧ ((d.val : Int) == 110) = false ∧ ((d.val : Int) == 114) = false ∧ ((d.val : Int) == 116) = false ∧ ((d.val.toUInt8 = 117 ∧ ((d.val : Int) == 117) = true) ∨ (d.val.toUInt8 ≠ 117 ∧ ((d.val : Int) == 117) = false))) := by decide +kernel
  have h2 := h ⟨d.toNat, d.toNat_lt⟩
  simp only at h2
  rw [← u8_of d.toNat_lt rfl, hD] at h2
  exact h2
set_option maxRecDepth 100000 in
set_option maxHeartbeats 4000000 in
theorem elem_any (v : Value) (l : List UInt8) (i r : Nat) (w : World) (hT : Tabs w) (hv : Bs w v l) (hi : i < l.length) (hl : l.length ≤ 4294967296) (hok : Okv l i) (hr : elemN l i = r) :
    Calls Tryz.prog 86 #[v, .int .i64 (i : Int)] w fun e w' => e = .returned (.int .i64 (r : Int)) ∧ Below w.heap.size w w' := by
  have CP := Lib.hid (fun r hr => cpt_any v l i r w hT hv hi hl (okv_nx l i hi hok).1 hr)
  have UE := Lib.hid (fun r hr => uesc_any v l i r w hv hi hl hr)
  obtain ⟨a, cap, rfl, h1, h2, h3⟩ := hv
  obtain ⟨n, hn⟩ : ∃ n, l.length = n := ⟨_, rfl⟩
  obtain ⟨b, off, rfl, hb, hcl⟩ := h3 (by omega)
  have hcg := @cell_getD w b off l hcl
  have hci := hcg i hi
  unfold elemN at hr
  have hout := getD_out l (i + 1)
  obtain ⟨c, hc⟩ : ∃ c, l.getD i 0 = c := ⟨_, rfl⟩
  rw [hc] at hci hr CP
  obtain ⟨C, hC⟩ : ∃ C : Int, (c.toNat : Int) = C := ⟨_, rfl⟩
  rw [hC] at hci
  have u1 : (i : Int) < n := by omega
  have i4 : ((i : Int) + 1).toNat = i + 1 := by omega
  by_cases h92 : c = 92
  · have t1 : (C != 92) = false := by simp [← hC, h92]
    rw [if_pos h92] at hr
    by_cases hend : i + 1 < n
    · have hcd := hcg (i + 1) (by omega)
      obtain ⟨d, hd⟩ : ∃ d, l.getD (i + 1) 0 = d := ⟨_, rfl⟩
      rw [hd] at hcd hr
      obtain ⟨D, hD⟩ : ∃ D : Int, (d.toNat : Int) = D := ⟨_, rfl⟩
      rw [hD] at hcd
      have t2 : ((i : Int) + 1 == n) = false := by rw [beq_eq_false_iff_ne]; omega
      have v1 : (i : Int) + 1 < n := by omega
      rcases esc_cases d D hD with ⟨hm, hnu, hs⟩ | ⟨hm, q1, q2, q3, q4, q5, q6, q7, q8, hu⟩
      · rw [if_neg hnu, if_pos hm] at hr
        subst hr
        rw [hn] at h1 hl hi ⊢
        clear CP UE hC hD hd hc hcl hcg hout h3 h2 hn hm hnu hok hT h92 hend
        rcases hs with q1 | ⟨q1, q2⟩ | ⟨q1, q2, q3⟩ | ⟨q1, q2, q3, q4⟩ | ⟨q1, q2, q3, q4, q5⟩ | ⟨q1, q2, q3, q4, q5, q6⟩ | ⟨q1, q2, q3, q4, q5, q6, q7⟩ | ⟨q1, q2, q3, q4, q5, q6, q7, q8⟩
        all_goals
          go_enter Tryz.func86, Tryz.ntmps86
          go_wp2
          go_ret
          exact ⟨rfl, Below.refl _ _⟩
      · rcases hu with ⟨hu, q9⟩ | ⟨hu, q9⟩
        · rw [if_pos hu] at hr
          have U1 := Lib.hid (UE.out r hr)
          rw [hn] at h1 hl hi U1 ⊢
          clear CP UE hC hD hd hc hcl hcg hout h3 h2 hn hm hu hok hT h92 hend hr
          go_enter Tryz.func86, Tryz.ntmps86
          go_wp2_with fail
          refine U1.out.mono ?_
          rintro e w' ⟨rfl, rfl⟩
          go_wp2
          go_ret
          exact ⟨rfl, Below.refl _ _⟩
        · rw [if_neg hu, if_neg hm] at hr
          subst hr
          rw [hn] at h1 hl hi ⊢
          clear CP UE hC hD hd hc hcl hcg hout h3 h2 hn hm hu hok hT h92 hend
          go_enter Tryz.func86, Tryz.ntmps86
          go_wp2
          go_ret
          exact ⟨rfl, Below.refl _ _⟩
    · have hd := hout (by omega)
      rw [hd, if_neg (by decide), if_neg (by decide)] at hr
      subst hr
      have t2 : ((i : Int) + 1 == n) = true := by rw [beq_iff_eq]; omega
      rw [hn] at h1 hl hi ⊢
      clear CP UE hC hd hc hcl hcg hout h3 h2 hn hok hT h92 hend
      go_enter Tryz.func86, Tryz.ntmps86
      go_wp2
      go_ret
      exact ⟨rfl, Below.refl _ _⟩
  · have t1 : (C != 92) = true := by rw [bne_iff_ne]; intro hh; apply h92; apply UInt8.toNat_inj.1; show c.toNat = 92; omega
    rw [if_neg h92] at hr
    have C1 := Lib.hid (CP.out r hr)
    rw [hn] at h1 hl hi C1 ⊢
    clear CP UE hC hc hcl hcg hout h3 h2 hn hok hT h92 hr
    go_enter Tryz.func86, Tryz.ntmps86
    go_wp2_with fail
    refine C1.out.mono ?_
    rintro e w' ⟨rfl, hb1⟩
    go_wp2
    go_ret
    exact ⟨rfl, hb1⟩

set_option maxRecDepth 100000 in
set_option maxHeartbeats 4000000 in
theorem text_any (v : Value) (l : List UInt8) (i : Nat) (r : Int × Int) (w : World) (hT : Tabs w) (hv : Bs w v l) (hi : i < l.length) (hl : l.length ≤ 4294967296) (hok : Okv l (i + 1))
    (hr : tokI ((M.jtS ((l.drop i).drop 1)).map fun n => (7, n + 1)) i = r) :
    Calls Tryz.prog 67 #[v, .int .i64 (i : Int)] w fun e w' => e = .returned (pr r) ∧ Below w.heap.size w w' := by
  have hv2 := hv
  obtain ⟨a, cap, rfl, h1, h2, h3⟩ := hv2
  obtain ⟨n, hn⟩ : ∃ n, l.length = n := ⟨_, rfl⟩
  obtain ⟨b, off, rfl, hb, hcl⟩ := h3 (by omega)
  have hcg := @cell_getD w b off l hcl
  obtain ⟨z, hz⟩ : ∃ z, jtI l (i + 1) = z := ⟨_, rfl⟩
  have hrz : (z = -1 → r = (0, 0)) ∧ (∀ k : Nat, z = k → r = (7, (k : Int))) := by
    rw [← hr, ← hz]
    unfold jtI
    rw [List.drop_drop]
    cases M.jtS (l.drop (i + 1)) with
    | none => exact ⟨fun _ => rfl, fun k hk => by simp at hk <;> omega⟩
    | some m => exact ⟨fun h => by simp at h; omega, fun k hk => by simp at hk; simp [tokI]; omega⟩
  have HR := Lib.hid hrz
  have HC := Lib.hid hcg
  have HN := Lib.hid hn
  have HV := Lib.hid hv
  have HT := Lib.hid hT
  have HZ := Lib.hid hz
  have HO := Lib.hid hok
  rw [hn] at h1 hl hi ⊢
  clear h3 hcl hcg hn hv hT hz hrz hr hok h2
  go_enter Tryz.func67, Tryz.ntmps67
  go_wp2
  go_loopw [1, 6] (fun iv _ wr => ∃ j : Nat, iv = .int .i64 (j : Int) ∧ j ≤ n ∧ jtI l j = z ∧ Okv l j ∧ Below w.heap.size w wr) (fun iv _ _ => n - (intOf iv).toNat)
  case atStart => exact ⟨i + 1, by go_num, by omega, HZ.out, HO.out, Below.refl _ _⟩
  case round =>
    obtain ⟨j, rfl, hj, hx, ho, hbl⟩ := hrel
    by_cases hlt : j < n
    · have hjl : j < l.length := by rw [HN.out]; exact hlt
      have hgd : l.getD j 0 = l[j] := by simp [hjl]
      have hcj : wr.cell? ⟨b, off + j, none⟩ = some (.int .u8 ((l.getD j 0).toNat : Int)) := by rw [hbl.cell (p := ⟨b, off + j, none⟩) hb]; exact HC.out j hjl
      have hend := jt_end l j hjl
      rw [← hgd, hx] at hend
      have hef := fun h => elem_facts l j hjl h ho
      have E1 := fun r hr => elem_any _ l j r wr (HT.out.keep hbl) (HV.out.keep hbl) hjl (by rw [HN.out]; exact hl) ho hr
      rw [HN.out] at E1
      obtain ⟨c, hc⟩ : ∃ c, l.getD j 0 = c := ⟨_, rfl⟩
      rw [hc] at hcj hend hef
      obtain ⟨C, hC⟩ : ∃ C : Int, (c.toNat : Int) = C := ⟨_, rfl⟩
      rw [hC] at hcj
      have u1 : (j : Int) < n := by omega
      have u2 : ((j : Int) == n) = false := by rw [beq_eq_false_iff_ne]; omega
      by_cases h34 : c = 34
      · have t1 : (C != 34) = false := by simp [← hC, h34]
        have hz := hend h34
        have hrr := HR.out.2 (j + 1) (by rw [hz]; omega)
        have Hrr := Lib.hid hrr
        clear hend hef E1 hc hC h34 hz hrr hx ho hgd
        go_wp2
        go_ret2
        exact ⟨by rw [Hrr.out]; rfl, hbl⟩
      · have t1 : (C != 34) = true := by rw [bne_iff_ne]; intro hh; apply h34; apply UInt8.toNat_inj.1; show c.toNat = 34; omega
        have hfa := hef h34
        obtain ⟨m, hm⟩ : ∃ m, elemN l j = m := ⟨_, rfl⟩
        have E2 := Lib.hid (E1 m hm)
        rw [hm, hx] at hfa
        rw [HN.out] at hfa
        rcases hfa with ⟨hm0, hz⟩ | ⟨hm0, hle, hz, ho2⟩
        · have hrr := HR.out.1 hz
          have Hrr := Lib.hid hrr
          subst hm0
          clear hend hef E1 hc hC h34 hz hrr hx ho hgd hm
          go_wp2_with fail
          refine E2.out.mono ?_
          rintro e w2 ⟨rfl, hb2⟩
          have hb3 := hbl.trans (hb2.mono hbl.size)
          go_wp2
          go_ret2
          exact ⟨by rw [Hrr.out]; rfl, hb3⟩
        · have t2 : ((m : Int) == 0) = false := by rw [beq_eq_false_iff_ne]; omega
          have Hz := Lib.hid hz
          have Ho2 := Lib.hid ho2
          clear hend hef E1 hc hC h34 hz ho2 hx ho hgd hm
          go_wp2_with fail
          refine E2.out.mono ?_
          rintro e w2 ⟨rfl, hb2⟩
          have hb3 := hbl.trans (hb2.mono hbl.size)
          clear hbl hb2 hcj
          go_wp2
          go_roundw
          case rel => exact ⟨j + m, by go_num, by omega, Hz.out, Ho2.out, hb3⟩
          case measure => simp [intOf]; omega
    · obtain rfl : j = n := by omega
      have hz := hx
      rw [jtI_out l j (by rw [HN.out]; exact Nat.le_refl _)] at hz
      have hrr := HR.out.1 hz.symm
      have Hrr := Lib.hid hrr
      clear hx hz hrr ho hlt
      go_wp2
      go_ret2
      exact ⟨by rw [Hrr.out]; rfl, hbl⟩
end Go.Proofs.YtlobinjdgcidmaaGreatDoor

/- What jlex.skipBlanks, jlex.token and jlex.Split return, for any bytes. -/
namespace Go.Proofs.YtlobinjdgcidmaaGreatDoor
open Go.RowKit
set_option linter.unusedVariables false
set_option linter.unusedSimpArgs false

theorem bl_cases (c : UInt8) (C : Int) (h : (c.toNat : Int) = C) : (M.blB c = true ∧ ((C == 32) = true ∨ ((C == 32) = false ∧ (C == 9) = true) ∨ ((C == 32) = false ∧ (C == 9) = false ∧ (C == 10) = true) ∨ ((C == 32) = false ∧ (C == 9) = false ∧ (C == 10) = false ∧ (C == 13) = true))) ∨
    (M.blB c = false ∧ (C == 32) = false ∧ (C == 9) = false ∧ (C == 10) = false ∧ (C == 13) = false) := by
  have h0 : ∀ d : Fin 256, (M.blB d.val.toUInt8 = true ∧ (((d.val : Int) == 32) = true ∨ (((d.val : Int) == 32) = false ∧ ((d.val : Int) == 9) = true) ∨ (((d.val : Int) == 32) = false ∧ ((d.val : Int) == 9) = false ∧ ((d.val : Int) == 10) = true) ∨ (((d.val : Int) == 32) = false ∧ ((d.val : Int) == 9) = false ∧ ((d.val : Int) == 10) = false ∧ ((d.val : Int) == 13) = true))) ∨
    (M.blB d.val.toUInt8 = false ∧ ((d.val : Int) == 32) = false ∧ ((d.val : Int) == 9) = false ∧ ((d.val : Int) == 10) = false ∧ ((d.val : Int) == 13) = false) := by decide +kernel
  have h2 := h0 ⟨c.toNat, c.toNat_lt⟩
  simp only at h2
  rw [← u8_of c.toNat_lt rfl, h] at h2
  exact h2
set_option maxRecDepth 100000 in
set_option maxHeartbeats 2000000 in
theorem skipb_any (v : Value) (l : List UInt8) (i r : Nat) (w : World) (hv : Bs w v l) (hi : i ≤ l.length) (hl : l.length ≤ 4294967296) (hr : i + M.lead (l.drop i) = r) :
    Calls Tryz.prog 45 #[v, .int .i64 (i : Int)] w fun e w' => e = .returned (.int .i64 (r : Int)) ∧ w = w' := by
  obtain ⟨a, cap, rfl, h1, h2, h3⟩ := hv
  obtain ⟨n, hn⟩ : ∃ n, l.length = n := ⟨_, rfl⟩
  have Hr := Lib.hid hr
  have HN := Lib.hid hn
  have H3 := Lib.hid h3
  rw [hn] at hi hl h1 ⊢
  clear hr hn h3 h2
  go_enter Tryz.func45, Tryz.ntmps45
  go_wp2
  go_loop [1] (fun iv => ∃ j : Nat, iv = .int .i64 (j : Int) ∧ j ≤ n ∧ j + M.lead (l.drop j) = r) (fun iv => n - (intOf iv).toNat)
  case atStart => exact ⟨i, rfl, hi, Hr.out⟩
  case round =>
    obtain ⟨j, rfl, hj, hx⟩ := hrel
    obtain ⟨r1, r2⟩ := lead_at l j
    by_cases hlt : j < n
    · obtain ⟨b, off, rfl, hb, hcl⟩ := H3.out (by rw [HN.out]; omega)
      have hcj := @cell_getD w b off l hcl j (by rw [HN.out]; exact hlt)
      obtain ⟨c, hc⟩ : ∃ c, l.getD j 0 = c := ⟨_, rfl⟩
      rw [hc] at hcj r1 r2
      obtain ⟨C, hC⟩ : ∃ C : Int, (c.toNat : Int) = C := ⟨_, rfl⟩
      rw [hC] at hcj
      have u1 : (j : Int) < n := by omega
      rcases bl_cases c C hC with ⟨hbl, hs⟩ | ⟨hbl, q1, q2, q3, q4⟩
      · have Hx := Lib.hid ((r1 hbl).symm.trans hx)
        clear r1 r2 hbl hx hC hc hcl
        rcases hs with q1 | ⟨q1, q2⟩ | ⟨q1, q2, q3⟩ | ⟨q1, q2, q3, q4⟩
        all_goals
          go_wp2
          go_round
          case rel => exact ⟨j + 1, by go_num, by omega, Hx.out⟩
          case measure => simp [intOf]; omega
      · have Hx := Lib.hid ((r2 hbl).symm.trans hx)
        clear r1 r2 hbl hx hC hc hcl
        go_wp2
        go_ret
        exact ⟨by rw [Hx.out]; rfl, rfl⟩
    · have hc := getD_out l j (by rw [HN.out]; omega)
      have Hx := Lib.hid ((r2 (by rw [hc]; rfl)).symm.trans hx)
      have t1 : decide ((j : Int) < n) = false := by simp; omega
      clear r1 r2 hx hc
      go_wp2
      go_ret
      exact ⟨by rw [Hx.out]; rfl, rfl⟩

theorem ne_c (c : UInt8) (C : Int) (hC : (c.toNat : Int) = C) (k : UInt8) (K : Int) (hK : (k.toNat : Int) = K) (h : ¬ c = k) : (C == K) = false := by
  rw [beq_eq_false_iff_ne]; intro e; apply h; apply UInt8.toNat_inj.1; omega
theorem eq_c (c : UInt8) (C : Int) (hC : (c.toNat : Int) = C) (k : UInt8) (K : Int) (hK : (k.toNat : Int) = K) (h : c = k) : (C == K) = true := by
  rw [beq_iff_eq, ← hC, h, hK]
set_option maxRecDepth 100000 in
set_option maxHeartbeats 4000000 in
theorem token_any (v : Value) (l : List UInt8) (i : Nat) (r : Int × Int) (w : World) (hT : Tabs w) (hv : Bs w v l) (hi : i < l.length) (hl : l.length ≤ 4294967296) (hok : Okv l i)
    (hr : tokI (M.tokL (l.drop i)) i = r) :
    Calls Tryz.prog 46 #[v, .int .i64 (i : Int)] w fun e w' => e = .returned (pr r) ∧ Below w.heap.size w w' := by
  have TX := Lib.hid (fun h r hr => text_any v l i r w hT hv hi hl h hr)
  have WD := Lib.hid (fun nm k r hk h0 h9 hr => word_any v l i nm k r w hv hi hl hk h0 h9 hr)
  have NU := Lib.hid (fun r hr => number_any v l i r w hv hi hl hr)
  have hv2 := hv
  obtain ⟨a, cap, rfl, h1, h2, h3⟩ := hv2
  obtain ⟨n, hn⟩ : ∃ n, l.length = n := ⟨_, rfl⟩
  obtain ⟨b, off, rfl, hb, hcl⟩ := h3 (by omega)
  have hci := @cell_getD w b off l hcl i hi
  unfold M.tokL at hr
  simp only [M.drop_getD, Nat.add_zero] at hr
  have hasc : l.getD i 0 = 34 → Okv l (i + 1) := fun h => okv_ascii l i 1 (by omega) (fun j hj => by rw [show i + j = i by omega, h]; decide) hok
  obtain ⟨c, hc⟩ : ∃ c, l.getD i 0 = c := ⟨_, rfl⟩
  rw [hc] at hci hr hasc
  obtain ⟨C, hC⟩ : ∃ C : Int, (c.toNat : Int) = C := ⟨_, rfl⟩
  rw [hC] at hci
  have u1 : (i : Int) < n := by omega
  rw [hn] at h1 hl hi TX WD NU ⊢
  clear hc hcl h3 h2 hn hv hT hok
  by_cases c1 : c = 123
  · rw [if_pos c1] at hr; subst hr
    have t1 := eq_c c C hC 123 123 rfl c1
    clear TX WD NU hasc hC c1
    go_enter Tryz.func46, Tryz.ntmps46
    go_wp2
    go_ret2
    exact ⟨rfl, Below.refl _ _⟩
  have t1 := ne_c c C hC 123 123 rfl c1
  rw [if_neg c1] at hr
  clear c1
  by_cases c2 : c = 125
  · rw [if_pos c2] at hr; subst hr
    have t2 := eq_c c C hC 125 125 rfl c2
    clear TX WD NU hasc hC c2
    go_enter Tryz.func46, Tryz.ntmps46
    go_wp2
    go_ret2
    exact ⟨rfl, Below.refl _ _⟩
  have t2 := ne_c c C hC 125 125 rfl c2
  rw [if_neg c2] at hr
  clear c2
  by_cases c3 : c = 91
  · rw [if_pos c3] at hr; subst hr
    have t3 := eq_c c C hC 91 91 rfl c3
    clear TX WD NU hasc hC c3
    go_enter Tryz.func46, Tryz.ntmps46
    go_wp2
    go_ret2
    exact ⟨rfl, Below.refl _ _⟩
  have t3 := ne_c c C hC 91 91 rfl c3
  rw [if_neg c3] at hr
  clear c3
  by_cases c4 : c = 93
  · rw [if_pos c4] at hr; subst hr
    have t4 := eq_c c C hC 93 93 rfl c4
    clear TX WD NU hasc hC c4
    go_enter Tryz.func46, Tryz.ntmps46
    go_wp2
    go_ret2
    exact ⟨rfl, Below.refl _ _⟩
  have t4 := ne_c c C hC 93 93 rfl c4
  rw [if_neg c4] at hr
  clear c4
  by_cases c5 : c = 58
  · rw [if_pos c5] at hr; subst hr
    have t5 := eq_c c C hC 58 58 rfl c5
    clear TX WD NU hasc hC c5
    go_enter Tryz.func46, Tryz.ntmps46
    go_wp2
    go_ret2
    exact ⟨rfl, Below.refl _ _⟩
  have t5 := ne_c c C hC 58 58 rfl c5
  rw [if_neg c5] at hr
  clear c5
  by_cases c6 : c = 44
  · rw [if_pos c6] at hr; subst hr
    have t6 := eq_c c C hC 44 44 rfl c6
    clear TX WD NU hasc hC c6
    go_enter Tryz.func46, Tryz.ntmps46
    go_wp2
    go_ret2
    exact ⟨rfl, Below.refl _ _⟩
  have t6 := ne_c c C hC 44 44 rfl c6
  rw [if_neg c6] at hr
  clear c6
  by_cases c7 : c = 34
  · rw [if_pos c7] at hr
    have t7 := eq_c c C hC 34 34 rfl c7
    have T1 := Lib.hid (TX.out (hasc c7) r hr)
    clear TX WD NU hasc hC c7 hr
    go_enter Tryz.func46, Tryz.ntmps46
    go_wp2_with fail
    refine T1.out.mono ?_
    rintro e w' ⟨rfl, hb1⟩
    unfold pr
    go_wp2
    go_ret2
    exact ⟨rfl, hb1⟩
  have t7 := ne_c c C hC 34 34 rfl c7
  rw [if_neg c7] at hr
  clear c7 TX hasc
  by_cases c8 : c = 116
  · rw [if_pos c8] at hr
    have t8 := eq_c c C hC 116 116 rfl c8
    have T1 := WD.out M.tru 9 r (by omega) (by decide) (by decide) hr
    rw [show bytes M.tru = ⟨#[116, 114, 117, 101]⟩ from rfl] at T1
    have T1 := Lib.hid T1
    clear WD NU hC c8 hr
    go_enter Tryz.func46, Tryz.ntmps46
    go_wp2_with fail
    refine T1.out.mono ?_
    rintro e w' ⟨rfl, rfl⟩
    unfold pr
    go_wp2
    go_ret2
    exact ⟨rfl, Below.refl _ _⟩
  have t8 := ne_c c C hC 116 116 rfl c8
  rw [if_neg c8] at hr
  clear c8
  by_cases c9 : c = 102
  · rw [if_pos c9] at hr
    have t9 := eq_c c C hC 102 102 rfl c9
    have T1 := WD.out M.fls 10 r (by omega) (by decide) (by decide) hr
    rw [show bytes M.fls = ⟨#[102, 97, 108, 115, 101]⟩ from rfl] at T1
    have T1 := Lib.hid T1
    clear WD NU hC c9 hr
    go_enter Tryz.func46, Tryz.ntmps46
    go_wp2_with fail
    refine T1.out.mono ?_
    rintro e w' ⟨rfl, rfl⟩
    unfold pr
    go_wp2
    go_ret2
    exact ⟨rfl, Below.refl _ _⟩
  have t9 := ne_c c C hC 102 102 rfl c9
  rw [if_neg c9] at hr
  clear c9
  by_cases c10 : c = 110
  · rw [if_pos c10] at hr
    have t10 := eq_c c C hC 110 110 rfl c10
    have T1 := WD.out M.nul 11 r (by omega) (by decide) (by decide) hr
    rw [show bytes M.nul = ⟨#[110, 117, 108, 108]⟩ from rfl] at T1
    have T1 := Lib.hid T1
    clear WD NU hC c10 hr
    go_enter Tryz.func46, Tryz.ntmps46
    go_wp2_with fail
    refine T1.out.mono ?_
    rintro e w' ⟨rfl, rfl⟩
    unfold pr
    go_wp2
    go_ret2
    exact ⟨rfl, Below.refl _ _⟩
  have t10 := ne_c c C hC 110 110 rfl c10
  rw [if_neg c10] at hr
  clear c10 WD
  have N1 := Lib.hid (NU.out r hr)
  clear NU hr hC
  go_enter Tryz.func46, Tryz.ntmps46
  go_wp2_with fail
  refine N1.out.mono ?_
  rintro e w' ⟨rfl, rfl⟩
  unfold pr
  go_wp2
  go_ret2
  exact ⟨rfl, Below.refl _ _⟩
end Go.Proofs.YtlobinjdgcidmaaGreatDoor

/- What jlex.Split returns, for any bytes. -/
namespace Go.Proofs.YtlobinjdgcidmaaGreatDoor
open Go.RowKit
set_option linter.unusedVariables false
set_option linter.unusedSimpArgs false

def tv (t : Nat × Nat × Nat) : List Value := [.int .i64 (t.1 : Int), .int .i64 (t.2.1 : Int), .int .i64 (t.2.2 : Int)]
def tvs (l : M.Toks) : List (List Value) := l.map tv
theorem tvs_len (l : M.Toks) : (tvs l).length = l.length := by simp [tvs]
theorem tvs_append (k l : M.Toks) : tvs (k ++ l) = tvs k ++ tvs l := by simp [tvs]
theorem tvs_three (l : M.Toks) : ∀ y ∈ tvs l, y.length = 3 := by
  intro y hy
  simp only [tvs, List.mem_map] at hy
  obtain ⟨r, _, rfl⟩ := hy
  rfl
theorem tvs_one (l : M.Toks) : ∀ y ∈ tvs l, ∀ c ∈ y, c.oneCell' = true := by
  intro y hy
  simp only [tvs, List.mem_map] at hy
  obtain ⟨r, _, rfl⟩ := hy
  intro c hc
  simp [tv] at hc
  rcases hc with rfl | rfl | rfl <;> rfl
theorem infoT : (Tryz.prog.info? 98).map (fun i => (i.zero, i.size, i.bytes)) = some (some (.agg #[.int .i64 0, .int .i64 0, .int .i64 0]), 3, 24) := by kernel_rfl
def OwnT (B : Nat) (w : World) (v : Value) (l : M.Toks) : Prop := OwnV 98 3 B w v (tvs l)
def Ts (w : World) (v : Value) (l : M.Toks) : Prop := Vs 3 w v (tvs l)
theorem OwnT.keep {B : Nat} {w w' : World} {v : Value} {l : M.Toks} (h : OwnT B w v l) (hb : Below w.heap.size w w') : OwnT B w' v l := OwnV.keep h hb
theorem one_tok (w : World) (k a b : Nat) : Vs 3 (w.alloc (.cells #[.int .i64 (k : Int), .int .i64 (a : Int), .int .i64 (b : Int)] 98)) (.slice (some ⟨w.heap.size, 0, none⟩) 1 1) (tvs [(k, a, b)]) :=
  vs_cells 3 98 w (tvs [(k, a, b)]) _ 1 rfl (tvs_three _) rfl (by simp [tvs])
theorem wpl_tok {w : World} {ops : Array Oper} {rest : List Oper} {o : Oper} {a : Act} {Q : Exit → Act → World → Prop} (hgd : o.guard = none) (s x : Operand)
    (ho : o.op = .call { callee := .builtin .append, args := #[s, x], argTypes := #[70, 70] })
    (B : Nat) (v u : Value) (l t : M.Toks) (k p q : Nat) (hs : a.eval s = v) (hown : OwnT B w v l) (hx : a.eval x = u) (hu : Vs 3 w u (tvs [(k, p, q)])) (hnn : NNv u)
    (hlen : l.length ≤ 4294967296) (hB : B ≤ w.heap.size) (ht : l ++ [(k, p, q)] = t)
    (h : ∀ v' w', OwnT B w' v' t → Below B w w' → wpList Tryz.prog ops Q rest (a.put o.dst v') w') : wpList Tryz.prog ops Q (o :: rest) a w :=
  wpl_appendV hgd s x ho Tryz.underlying70 infoT rfl (by decide) B v u (tvs l) (tvs [(k, p, q)]) (tvs t) hs hown hx hu hnn (tvs_three _) (tvs_one _) (by rw [tvs_len, tvs_len]; simp; omega) (by decide) hB (by rw [← ht, tvs_append]) h

def fv (e a : Int) : Value := .agg #[.int .i64 e, .int .i64 a]
def SpP (w : World) (r : M.Toks × Int × Int) (e : Ending) (w' : World) : Prop := ∃ v', e = .returned (.tuple #[v', fv r.2.1 r.2.2]) ∧ OwnT w.heap.size w' v' r.1 ∧ Below w.heap.size w w'
theorem spP_ok {w w' : World} {r : M.Toks × Int × Int} {v' : Value} {a b : Int} (h1 : r.2.1 = a) (h2 : r.2.2 = b) (ho : OwnT w.heap.size w' v' r.1) (hb : Below w.heap.size w w') :
    SpP w r (.returned (.tuple #[v', .agg #[.int .i64 a, .int .i64 b]])) w' := ⟨v', by rw [h1, h2]; rfl, ho, hb⟩
def lexAt (l : List UInt8) (pre : M.Toks) (i : Nat) : Except Nat M.Toks := match M.lexS (l.drop i) i with | Except.error e => Except.error e | Except.ok r => Except.ok (pre ++ r)
theorem lexAt_end (l : List UInt8) (pre : M.Toks) (i : Nat) (h : l.length ≤ i) : lexAt l pre i = .ok pre := by
  unfold lexAt; rw [M.lexS_end _ _ (by rw [List.length_drop]; omega)]; simp
theorem lexAt_bad (l : List UInt8) (pre : M.Toks) (i : Nat) (h : i < l.length) (h0 : M.lead (l.drop i) = 0) (ht : M.tokL (l.drop i) = none) : lexAt l pre i = .error i := by
  unfold lexAt; rw [M.lexS_bad _ _ (by rw [h0, List.length_drop]; omega) (by rw [h0]; simpa using ht), h0]; rfl
theorem lexAt_in (l : List UInt8) (pre : M.Toks) (i k m : Nat) (h : i < l.length) (h0 : M.lead (l.drop i) = 0) (ht : M.tokL (l.drop i) = some (k, m)) :
    lexAt l pre i = lexAt l (pre ++ [(k, i, i + m)]) (i + m + M.lead (l.drop (i + m))) := by
  unfold lexAt
  rw [M.lexS_in _ _ k m (by rw [h0, List.length_drop]; omega) (by rw [h0]; simpa using ht), h0, List.drop_drop, Nat.zero_add, Nat.add_zero]
  have e := M.lexS_skip (l.drop (i + m)) (i + m) (M.lead (l.drop (i + m))) (Nat.le_refl _)
  rw [List.drop_drop] at e
  rw [e]
  cases M.lexS (l.drop (i + m + M.lead (l.drop (i + m)))) (i + m + M.lead (l.drop (i + m))) with
  | error e => rfl
  | ok r => simp
theorem lead_zero (l : List UInt8) (i : Nat) : M.lead (l.drop (i + M.lead (l.drop i))) = 0 := by
  have := M.lead_drop (l.drop i) (M.lead (l.drop i)) (Nat.le_refl _)
  rw [List.drop_drop] at this; omega
theorem okv_lead (l : List UInt8) (i : Nat) (h : Okv l i) : Okv l (i + M.lead (l.drop i)) ∧ i + M.lead (l.drop i) ≤ max i l.length := by
  have hle := M.lead_le (l.drop i)
  rw [List.length_drop] at hle
  refine ⟨?_, by omega⟩
  by_cases hi : i ≤ l.length
  · refine okv_ascii l i _ (by omega) (fun j hj => ?_) h
    have := M.lead_bl (l.drop i) j hj
    rw [M.drop_getD] at this
    unfold M.blB at this
    simp only [Bool.or_eq_true, beq_iff_eq] at this
    rcases this with ((e | e) | e) | e <;> (rw [e]; decide)
  · rw [show M.lead (l.drop i) = 0 by omega]; exact h
theorem okv_tok (l : List UInt8) (i k m : Nat) (hi : i < l.length) (h : Okv l i) (ht : M.tokL (l.drop i) = some (k, m)) : Okv l (i + m) ∧ 1 ≤ m ∧ i + m ≤ l.length := by
  have hm := M.tok_le (l.drop i) (by rw [List.length_drop]; omega) k m ht
  rw [List.length_drop] at hm
  refine ⟨?_, hm.1, by omega⟩
  exact tok_okv l i k m hi h ht

theorem ownT_base {B B' : Nat} {w : World} {v : Value} {l : M.Toks} (h : OwnT B w v l) (hB : B' ≤ B) : OwnT B' w v l := by
  obtain ⟨⟨h1, h2 | ⟨g, cap, cur, rfl, a, b, c⟩⟩, h3, h4⟩ := h
  · exact ⟨⟨h1, .inl h2⟩, h3, h4⟩
  · exact ⟨⟨h1, .inr ⟨g, cap, cur, rfl, Nat.le_trans hB a, b, c⟩⟩, h3, h4⟩
theorem ownT_set {B : Nat} {w : World} {v : Value} {l : M.Toks} (h : OwnT (B + 1) w v l) (i : Nat) (u : Value) : OwnT (B + 1) (w.setCell ⟨B, i, none⟩ u) v l := by
  obtain ⟨⟨h1, h2 | ⟨g, cap, cur, rfl, a, b, c⟩⟩, h3, h4⟩ := h
  · exact ⟨⟨h1, .inl h2⟩, h3, h4⟩
  · exact ⟨⟨h1, .inr ⟨g, cap, cur, rfl, a, by rw [Below.heap_setCell _ _ _ _ (by show g ≠ B; omega)]; exact b, c⟩⟩, h3, h4⟩
theorem ownT_nil (B : Nat) (w : World) : OwnT B w (.slice none 0 0) [] := ownV_nil _ _ _ _
set_option maxRecDepth 100000 in
set_option maxHeartbeats 4000000 in
theorem split_any (v : Value) (l : List UInt8) (R : M.Toks × Int × Int) (w : World) (hT : Tabs w) (hv : Bs w v l) (hl : l.length ≤ 1048576) (hr : M.splitV l = R) :
    Calls Tryz.prog 29 #[v] w (SpP w R) := by
  have hv2 := hv
  obtain ⟨a, cap, rfl, h1, h2, h3⟩ := hv2
  obtain ⟨n, hn⟩ : ∃ n, l.length = n := ⟨_, rfl⟩
  unfold M.splitV at hr
  by_cases hbig : 20000 < n
  · rw [if_pos (by omega)] at hr
    subst hr
    rw [hn] at h1 hl ⊢
    clear hv h3 h2 hn hT
    have u1 : (20000 : Int) < n := by omega
    go_enter Tryz.func29, Tryz.ntmps29
    go_wp2
    refine bodyPost_ret (v := .tuple #[.slice none 0 0, .agg #[.int .i64 5, .int .i64 20000]]) (by simp [results, Tryz.results29, go_sem]) rfl ?_
    exact spP_ok rfl rfl (ownT_nil _ _) ((Below.refl _ _).alloc (Nat.le_refl _) _)
  rw [if_neg (by omega)] at hr
  have u1 : ¬ (20000 : Int) < n := by omega
  have u2 : decide ((20000 : Int) < n) = false := by simp; omega
  obtain ⟨W1, hW1⟩ : ∃ W1, w.alloc (.cells #[.int .i64 0, .int .i64 0] 51) = W1 := ⟨_, rfl⟩
  have hWs : W1.heap.size = w.heap.size + 1 := by rw [← hW1]; simp
  have hWb : Below w.heap.size w W1 := by rw [← hW1]; exact (Below.refl _ _).alloc (Nat.le_refl _) _
  have hc0 : W1.cell? ⟨w.heap.size, 0, none⟩ = some (.int .i64 0) := by rw [← hW1]; simp
  have hc1 : W1.cell? ⟨w.heap.size, 1, none⟩ = some (.int .i64 0) := by rw [← hW1]; simp
  have hf : ∀ j, W1.frozen? ⟨w.heap.size, j, none⟩ = false := fun j => by rw [← hW1]; simp
  have Facts := Lib.hid (fun wr (hb : Below (w.heap.size + 1) W1 wr) => (⟨(hb.cell (p := ⟨w.heap.size, 0, none⟩) (by simp)).trans hc0, (hb.cell (p := ⟨w.heap.size, 1, none⟩) (by simp)).trans hc1, (hb.frozen (p := ⟨w.heap.size, 0, none⟩) (by simp)).trans (hf 0), (hb.frozen (p := ⟨w.heap.size, 1, none⟩) (by simp)).trans (hf 1), by have := hb.size; omega, hWb.trans (hb.mono (by omega))⟩ :
    wr.cell? ⟨w.heap.size, 0, none⟩ = some (.int .i64 0) ∧ wr.cell? ⟨w.heap.size, 1, none⟩ = some (.int .i64 0) ∧ wr.frozen? ⟨w.heap.size, 0, none⟩ = false ∧ wr.frozen? ⟨w.heap.size, 1, none⟩ = false ∧ w.heap.size < wr.heap.size ∧ Below w.heap.size w wr))
  have V1 := fun q ok h => valid_any _ l q ok W1 (hT.keep hWb) (hv.keep hWb) (by omega) h
  rw [hn, hWs] at V1
  have HW1 := Lib.hid hW1
  have HV := Lib.hid hv
  have HT := Lib.hid hT
  have HN := Lib.hid hn
  have hWs1 := Lib.hid hWs
  cases hok : (M.validAll l).2 with
  | false =>
    rw [if_pos hok] at hr
    have V2 := Lib.hid (V1 (M.validAll l).1 false (by rw [← hok]))
    obtain ⟨q, hq⟩ : ∃ q, (M.validAll l).1 = q := ⟨_, rfl⟩
    rw [hq] at hr V2
    subst hr
    rw [hn] at h1 hl ⊢
    clear V1 hv hT hn hok hq h3 h2 hW1 hWs hc0 hc1 hf hWb
    go_enter Tryz.func29, Tryz.ntmps29
    go_wp2_with fail
    rw [HW1.out]
    refine V2.out.mono ?_
    rintro e w2 ⟨rfl, hb2⟩
    obtain ⟨q0, q1, z0, z1, hlt, hbw⟩ := Facts.out _ hb2
    go_wp2
    refine bodyPost_ret (v := .tuple #[.slice none 0 0, .agg #[.int .i64 2, .int .i64 (q : Int)]]) (by simp [results, Tryz.results29, go_sem, q0, q1, hlt]) rfl ?_
    exact spP_ok rfl rfl (ownT_nil _ _) ((hbw.setCell (Nat.le_refl _) _).setCell (Nat.le_refl _) _)
  | true =>
    rw [if_neg (by rw [hok]; simp)] at hr
    have hall := M.all_len l hok
    have V2 := Lib.hid (V1 n true (by rw [← hok, ← hn, ← hall]))
    have hok0 : Okv l 0 := by unfold Okv; simpa using hok
    have ho1 := okv_lead l 0 hok0
    rw [Nat.zero_add] at ho1
    have hz1 := lead_zero l 0
    rw [Nat.zero_add] at hz1
    have hx0 : lexAt l [] (M.lead l) = M.lexS l 0 := by
      unfold lexAt
      have := M.lexS_skip l 0 (M.lead l) (Nat.le_refl _)
      rw [Nat.zero_add] at this
      rw [this]
      cases M.lexS (l.drop (M.lead l)) (M.lead l) with
      | error e => rfl
      | ok r => simp
    simp only [List.drop_zero] at ho1 hz1
    have hll := M.lead_le l
    obtain ⟨X, hX⟩ : ∃ X, M.lexS l 0 = X := ⟨_, rfl⟩
    rw [hX] at hr hx0
    have HR : Hid ((∀ e, X = .error e → R = ([], 3, (e : Int))) ∧ (∀ t, X = .ok t → R = (t, 0, 0))) := Lib.hid ⟨fun e h => by rw [← hr, h], fun t h => by rw [← hr, h]⟩
    obtain ⟨m0, hm0⟩ : ∃ m, M.lead l = m := ⟨_, rfl⟩
    rw [hm0] at ho1 hz1 hx0 hll
    have S0 := Lib.hid (fun wr (hb : Below (w.heap.size + 1) W1 wr) => skipb_any _ l 0 m0 wr ((hv.keep hWb).below hb (by omega)) (by omega) (by omega) (by simpa using hm0))
    have HX0 := Lib.hid hx0
    have HO1 := Lib.hid ho1.1
    have HZ1 := Lib.hid hz1
    rw [hn] at h1 hl hll S0 ⊢
    have HWb := Lib.hid hWb
    clear V1 hv hT hn hok h3 h2 hW1 hWs hc0 hc1 hf hWb hr hall hok0 ho1 hz1 hx0 hX hm0
    go_enter Tryz.func29, Tryz.ntmps29
    go_wp2_with fail
    rw [HW1.out]
    refine V2.out.mono ?_
    rintro e w2 ⟨rfl, hb2⟩
    go_wp2_with fail
    refine (S0.out _ hb2).mono ?_
    rintro e w' ⟨rfl, rfl⟩
    go_wp2
    go_loopw [6, 7, 8, 9] (fun ov iv _ _ wr => ∃ (i : Nat) (pre : M.Toks), iv = .int .i64 (i : Int) ∧ i ≤ n ∧ lexAt l pre i = X ∧ M.lead (l.drop i) = 0 ∧ Okv l i ∧ pre.length ≤ i ∧ OwnT (w.heap.size + 1) wr ov pre ∧ Below (w.heap.size + 1) W1 wr) (fun _ iv _ _ _ => n - (intOf iv).toNat)
    case atStart => exact ⟨m0, [], rfl, hll, HX0.out, HZ1.out, HO1.out, by simp, ownT_nil _ _, hb2⟩
    case round =>
      obtain ⟨i, pre, rfl, hi, hx, hz, ho, hpl, hown, hb⟩ := hrel
      have hsz := hb.size
      rw [hWs1.out] at hsz
      by_cases hlt : i < n
      · have hil : i < l.length := by rw [HN.out]; exact hlt
        have hvr : Bs wr (.slice a n cap) l := by have := (HV.out.keep HWb.out).below hb (by rw [hWs1.out]; omega); rwa [HN.out] at this
        have hTr : Tabs wr := (HT.out.keep HWb.out).keep (hb.mono (by rw [hWs1.out]; omega))
        have hbad := lexAt_bad l pre i hil hz
        have hin := fun k m h => lexAt_in l pre i k m hil hz h
        have htk := fun k m h => okv_tok l i k m hil ho h
        have hlz := fun m => lead_zero l (i + m)
        have hol := fun m h => okv_lead l (i + m) h
        rw [hx] at hbad hin
        cases htok : M.tokL (l.drop i) with
        | none =>
          have T1 := Lib.hid (token_any _ l i (0, 0) wr hTr hvr hil (by rw [HN.out]; omega) ho (by rw [htok]; rfl))
          have hRR := HR.out.1 i (hbad htok)
          have HRR := Lib.hid hRR
          clear hvr hTr hbad hin htk hlz hol htok hRR hz ho hx hown
          go_wp2_with fail
          refine T1.out.mono ?_
          rintro e w3 ⟨rfl, hb3⟩
          have hb4 := hb.trans (hb3.mono hsz)
          obtain ⟨q0, q1, z0, z1, hlt2, hbw⟩ := Facts.out _ hb4
          clear hb3 hb
          unfold pr
          go_wp2
          refine bodyPost_ret (v := .tuple #[.slice none 0 0, .agg #[.int .i64 3, .int .i64 (i : Int)]]) (by simp [results, Tryz.results29, go_sem, q0, q1, hlt2]) rfl ?_
          exact spP_ok (by rw [HRR.out]) (by rw [HRR.out]) (by rw [HRR.out]; exact ownT_nil _ _) ((hbw.setCell (Nat.le_refl _) _).setCell (Nat.le_refl _) _)
        | some km =>
          obtain ⟨k, m⟩ := km
          obtain ⟨ho2, hm1, hm2⟩ := htk k m htok
          have hx2 := hin k m htok
          have hz2 := hlz m
          have ho3 := hol m ho2
          have hkk := M.tok_le (l.drop i) (by rw [List.length_drop]; omega) k m htok
          obtain ⟨z, hzz⟩ : ∃ z, i + m + M.lead (l.drop (i + m)) = z := ⟨_, rfl⟩
          rw [hzz] at hx2 hz2 ho3
          have hzn : z ≤ n := by have := ho3.2; rw [HN.out] at this hm2; omega
          have hzm : i + m ≤ z := by omega
          have T1 := Lib.hid (token_any _ l i ((k : Int), ((i + m : Nat) : Int)) wr hTr hvr hil (by rw [HN.out]; omega) ho (by rw [htok]; rfl))
          have B1 := Lib.hid (fun ws hv => skipb_any (.slice a n cap) l (i + m) z ws hv hm2 (by rw [HN.out]; omega) hzz)
          have Hx2 := Lib.hid hx2
          have Hz2 := Lib.hid hz2
          have Ho3 := Lib.hid ho3.1
          have Hvr := Lib.hid hvr
          rw [HN.out] at hm2
          have t1 : ((k : Int) == 0) = false := by rw [beq_eq_false_iff_ne]; omega
          clear hvr hTr hbad hin htk hlz hol htok hz ho hx ho2 hx2 hz2 ho3 hzz hkk
          go_wp2_with fail
          refine T1.out.mono ?_
          rintro e w3 ⟨rfl, hb3⟩
          unfold pr
          have hv3 := Hvr.out.keep hb3
          have hb4 := hb.trans (hb3.mono hsz)
          have hown3 := OwnT.keep hown hb3
          have hsz4 := hb4.size
          rw [hWs1.out] at hsz4
          have Hv3 := Lib.hid hv3
          clear hb3 hb hown hv3
          go_wp2_with (at_builtin; refine wpl_tok rfl _ _ rfl (w.heap.size + 1) _ (.slice (some ⟨w3.heap.size, 0, none⟩) 1 1) pre (pre ++ [(k, i, i + m)]) k i (i + m) rfl (OwnT.keep hown3 ((Below.refl _ _).alloc (Nat.le_refl _) _)) rfl (one_tok w3 k i (i + m)) (nnv_some _ _ _) (by omega) (by simp; omega) rfl ?_)
          intro v5 w5 ho5 hb5
          have hb6 := (hb4.alloc hsz4 _).trans hb5
          have hv5' := (HV.out.keep HWb.out).below hb6 (by rw [hWs1.out]; omega)
          rw [HN.out] at hv5'
          have hv5 := Lib.hid hv5'
          clear hb4 hb5 hown3 hv5'
          go_wp2_with fail
          refine (B1.out _ hv5.out).mono ?_
          rintro e w' ⟨rfl, rfl⟩
          go_wp2
          go_roundw
          case rel => exact ⟨z, pre ++ [(k, i, i + m)], rfl, hzn, Hx2.out.symm, Hz2.out, Ho3.out, by simp; omega, ho5, hb6⟩
          case measure => simp [intOf]; omega
      · obtain rfl : i = n := by omega
        have hx2 := hx
        rw [lexAt_end l pre i (by rw [HN.out]; exact Nat.le_refl _)] at hx2
        have hRR := HR.out.2 pre hx2.symm
        have HRR := Lib.hid hRR
        obtain ⟨q0, q1, z0, z1, hlt2, hbw⟩ := Facts.out _ hb
        clear hx hx2 hRR hz ho hlt
        go_wp2
        refine bodyPost_ret (v := .tuple #[u6, .agg #[.int .i64 0, .int .i64 0]]) (by simp [results, Tryz.results29, go_sem, q0, q1, hlt2]) rfl ?_
        refine spP_ok (by rw [HRR.out]) (by rw [HRR.out]) ?_ ((hbw.setCell (Nat.le_refl _) _).setCell (Nat.le_refl _) _)
        rw [HRR.out]
        exact ownT_base (ownT_set (ownT_set hown 0 _) 1 _) (Nat.le_succ _)
end Go.Proofs.YtlobinjdgcidmaaGreatDoor
