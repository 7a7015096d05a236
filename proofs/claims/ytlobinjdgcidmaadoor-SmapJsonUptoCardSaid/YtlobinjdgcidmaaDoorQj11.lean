/- Texts of ours in one: JgK. -/
import Derived.Test.YtlobinjdgcidmaaDoorQj00
import Derived.Test.YtlobinjdgcidmaaDoorQj02
import Derived.Deep.QuietTactic
import Derived.BigQuiet
import Derived.Outline
/- Several texts of ours in one: KHex KText QMath4. -/
/- Texts of JSON as the reference reads them: hexDigit. -/
namespace Go.Proofs.YtlobinjdgcidmaaDoor
open Go.RowKit
set_option linter.unusedVariables false
set_option linter.unusedSimpArgs false

theorem retQ_i {k : IntKind} {a b : Int} (h : a = b) : Ending.returned (.int k a) = .returned (.int k b) := by rw [h]
set_option maxRecDepth 100000 in
set_option maxHeartbeats 1000000 in
theorem hex_any (c : UInt8) (x : Int) (w : World) (hx : M.hexV c = x) :
    Calls Tryd.prog 47 #[.int .u8 (c.toNat : Int)] w fun e w' => e = .returned (.int .i64 x) ∧ w = w' := by
  have hb : c.toNat < 256 := c.toNat_lt
  unfold M.hexV at hx
  have hs : (c.toNat < 48 ∧ x = -1) ∨ (48 ≤ c.toNat ∧ c.toNat ≤ 57 ∧ x = (c.toNat : Int) - 48) ∨ (57 < c.toNat ∧ c.toNat < 65 ∧ x = -1) ∨ (65 ≤ c.toNat ∧ c.toNat ≤ 70 ∧ x = (c.toNat : Int) - 55) ∨ (70 < c.toNat ∧ c.toNat < 97 ∧ x = -1) ∨ (97 ≤ c.toNat ∧ c.toNat ≤ 102 ∧ x = (c.toNat : Int) - 87) ∨ (102 < c.toNat ∧ x = -1) := by
    repeat' split at hx
    all_goals omega
  obtain ⟨C, hC⟩ : ∃ C : Int, (c.toNat : Int) = C := ⟨_, rfl⟩
  rw [hC] at hs ⊢
  have hs2 : (C < 48 ∧ x = -1) ∨ (48 ≤ C ∧ C ≤ 57 ∧ x = C - 48) ∨ (57 < C ∧ C < 65 ∧ x = -1) ∨ (65 ≤ C ∧ C ≤ 70 ∧ x = C - 55) ∨ (70 < C ∧ C < 97 ∧ x = -1) ∨ (97 ≤ C ∧ C ≤ 102 ∧ x = C - 87) ∨ (102 < C ∧ x = -1) := by omega
  have C0 : 0 ≤ C := by omega
  have C9 : C < 256 := by omega
  clear hs hx hC hb
  rcases hs2 with ⟨h1, rfl⟩ | ⟨h1, h2, hx⟩ | ⟨h1, h2, rfl⟩ | ⟨h1, h2, hx⟩ | ⟨h1, h2, rfl⟩ | ⟨h1, h2, hx⟩ | ⟨h1, rfl⟩
  · have t1 : decide ((48 : Int) ≤ C) = false := by simp; omega
    have t2 : decide ((97 : Int) ≤ C) = false := by simp; omega
    have t3 : decide ((65 : Int) ≤ C) = false := by simp; omega
    go_enter Tryd.func47, Tryd.ntmps47
    go_wp2
    go_ret
    exact ⟨rfl, rfl⟩
  · have Hx := Lib.hid hx
    have t1 : decide ((48 : Int) ≤ C) = true := by simp; omega
    have t2 : decide (C ≤ (57 : Int)) = true := by simp; omega
    clear hx
    go_enter Tryd.func47, Tryd.ntmps47
    go_wp2
    go_ret
    exact ⟨retQ_i (by have := Hx.out; omega), rfl⟩
  · have t1 : decide ((48 : Int) ≤ C) = true := by simp; omega
    have t2 : decide (C ≤ (57 : Int)) = false := by simp; omega
    have t3 : decide ((97 : Int) ≤ C) = false := by simp; omega
    have t4 : decide ((65 : Int) ≤ C) = false := by simp; omega
    go_enter Tryd.func47, Tryd.ntmps47
    go_wp2
    go_ret
    exact ⟨rfl, rfl⟩
  · have Hx := Lib.hid hx
    have t1 : decide ((48 : Int) ≤ C) = true := by simp; omega
    have t2 : decide (C ≤ (57 : Int)) = false := by simp; omega
    have t3 : decide ((97 : Int) ≤ C) = false := by simp; omega
    have t4 : decide ((65 : Int) ≤ C) = true := by simp; omega
    have t5 : decide (C ≤ (70 : Int)) = true := by simp; omega
    clear hx
    go_enter Tryd.func47, Tryd.ntmps47
    go_wp2
    go_ret
    exact ⟨retQ_i (by have := Hx.out; omega), rfl⟩
  · have t1 : decide ((48 : Int) ≤ C) = true := by simp; omega
    have t2 : decide (C ≤ (57 : Int)) = false := by simp; omega
    have t3 : decide ((97 : Int) ≤ C) = false := by simp; omega
    have t4 : decide ((65 : Int) ≤ C) = true := by simp; omega
    have t5 : decide (C ≤ (70 : Int)) = false := by simp; omega
    go_enter Tryd.func47, Tryd.ntmps47
    go_wp2
    go_ret
    exact ⟨rfl, rfl⟩
  · have Hx := Lib.hid hx
    have t1 : decide ((48 : Int) ≤ C) = true := by simp; omega
    have t2 : decide (C ≤ (57 : Int)) = false := by simp; omega
    have t3 : decide ((97 : Int) ≤ C) = true := by simp; omega
    have t4 : decide (C ≤ (102 : Int)) = true := by simp; omega
    clear hx
    go_enter Tryd.func47, Tryd.ntmps47
    go_wp2
    go_ret
    exact ⟨retQ_i (by have := Hx.out; omega), rfl⟩
  · have t1 : decide ((48 : Int) ≤ C) = true := by simp; omega
    have t2 : decide (C ≤ (57 : Int)) = false := by simp; omega
    have t3 : decide ((97 : Int) ≤ C) = true := by simp; omega
    have t4 : decide (C ≤ (102 : Int)) = false := by simp; omega
    have t5 : decide ((65 : Int) ≤ C) = true := by simp; omega
    have t6 : decide (C ≤ (70 : Int)) = false := by simp; omega
    go_enter Tryd.func47, Tryd.ntmps47
    go_wp2
    go_ret
    exact ⟨rfl, rfl⟩
end Go.Proofs.YtlobinjdgcidmaaDoor

/- Texts of JSON as the reference reads them: jtext: where a text ends. -/
namespace Go.Proofs.YtlobinjdgcidmaaDoor
open Go.RowKit
set_option linter.unusedVariables false
set_option linter.unusedSimpArgs false

def jtI (l : List UInt8) (i : Nat) : Int := match M.jtS (l.drop i) with | some n => (i : Int) + n | none => -1
theorem drop_at (l : List UInt8) (i : Nat) (h : i < l.length) : l.drop i = l[i] :: l.drop (i + 1) := List.drop_eq_getElem_cons h
theorem jtI_out (l : List UInt8) (i : Nat) (h : l.length ≤ i) : jtI l i = -1 := by
  unfold jtI; rw [List.drop_eq_nil_of_le h, M.jtS_nil]
theorem jtI_map (l : List UInt8) (i k : Nat) (h : M.jtS (l.drop i) = (M.jtS (l.drop (i + k))).map (· + k)) : jtI l (i + k) = jtI l i := by
  unfold jtI
  rw [h]
  cases M.jtS (l.drop (i + k)) with
  | none => rfl
  | some n => simp; omega
theorem jt_end (l : List UInt8) (i : Nat) (h : i < l.length) (hc : l[i] = 34) : jtI l i = i + 1 := by
  unfold jtI; rw [drop_at l i h, M.jtS_cons, if_pos hc]; rfl
theorem jt_low (l : List UInt8) (i : Nat) (h : i < l.length) (hc : l[i] ≠ 34) (h2 : l[i].toNat < 32) : jtI l i = -1 := by
  unfold jtI; rw [drop_at l i h, M.jtS_cons, if_neg hc, if_pos h2]
theorem jt_plain (l : List UInt8) (i : Nat) (h : i < l.length) (hc : l[i] ≠ 34) (h2 : ¬ l[i].toNat < 32) (h3 : l[i] ≠ 92) : jtI l (i + 1) = jtI l i := by
  apply jtI_map; rw [drop_at l i h, M.jtS_cons, if_neg hc, if_neg h2, if_pos h3]
theorem getD_drop (l : List UInt8) (i k : Nat) : (l.drop i).getD k 0 = l.getD (i + k) 0 := by simp [List.getD]
theorem drop_drop' (l : List UInt8) (i k : Nat) : (l.drop i).drop k = l.drop (i + k) := by rw [List.drop_drop]
theorem jt_back (l : List UInt8) (i : Nat) (h : i < l.length) (hc : l[i] = 92) : M.jtS (l.drop i) = if l.getD (i + 1) 0 = 117 then (if M.hex4ok (l.drop (i + 2)) then (M.jtS (l.drop (i + 6))).map (· + 6) else none)
    else if l.getD (i + 1) 0 ∈ M.escL then (M.jtS (l.drop (i + 2))).map (· + 2) else none := by
  rw [drop_at l i h, M.jtS_cons, if_neg (by rw [hc]; decide), if_neg (by rw [hc]; decide), if_neg (by rw [hc]; simp), getD_drop, drop_drop', drop_drop']
theorem jt_six (l : List UInt8) (i : Nat) (h : i < l.length) (hc : l[i] = 92) (h1 : l.getD (i + 1) 0 = 117) (h4 : M.hex4ok (l.drop (i + 2)) = true) : jtI l (i + 6) = jtI l i := by
  apply jtI_map; rw [jt_back l i h hc, if_pos h1, if_pos h4]
theorem jt_six_no (l : List UInt8) (i : Nat) (h : i < l.length) (hc : l[i] = 92) (h1 : l.getD (i + 1) 0 = 117) (h4 : M.hex4ok (l.drop (i + 2)) = false) : jtI l i = -1 := by
  unfold jtI; rw [jt_back l i h hc, if_pos h1, if_neg (by simp [h4])]
theorem jt_two (l : List UInt8) (i : Nat) (h : i < l.length) (hc : l[i] = 92) (h1 : l.getD (i + 1) 0 ≠ 117) (h4 : l.getD (i + 1) 0 ∈ M.escL) : jtI l (i + 2) = jtI l i := by
  apply jtI_map; rw [jt_back l i h hc, if_neg h1, if_pos h4]
theorem jt_two_no (l : List UInt8) (i : Nat) (h : i < l.length) (hc : l[i] = 92) (h1 : l.getD (i + 1) 0 ≠ 117) (h4 : l.getD (i + 1) 0 ∉ M.escL) : jtI l i = -1 := by
  unfold jtI; rw [jt_back l i h hc, if_neg h1, if_neg h4]
def hexTo (l : List UInt8) (p : Nat) : Nat → Bool
  | 0 => true
  | j + 1 => hexTo l p j && decide (0 ≤ M.hexV (l.getD (p + j) 0))
theorem hexTo_four (l : List UInt8) (p : Nat) : M.hex4ok (l.drop p) = hexTo l p 4 := by
  unfold M.hex4ok M.hexOk
  simp only [getD_drop, hexTo, Bool.true_and]
theorem hexTo_no (l : List UInt8) (p j : Nat) (hj : j < 4) (h : ¬ 0 ≤ M.hexV (l.getD (p + j) 0)) : M.hex4ok (l.drop p) = false := by
  rw [hexTo_four]
  simp only [hexTo, Bool.true_and, Bool.and_eq_false_iff, decide_eq_false_iff_not]
  have : j = 0 ∨ j = 1 ∨ j = 2 ∨ j = 3 := by omega
  rcases this with rfl | rfl | rfl | rfl
  · exact .inl (.inl (.inl h))
  · exact .inl (.inl (.inr h))
  · exact .inl (.inr h)
  · exact .inr h
theorem hexV_in (l : List UInt8) (k : Nat) (h : 0 ≤ M.hexV (l.getD k 0)) : k < l.length := by
  apply M.getD_in; intro e; rw [e] at h; exact absurd h (by decide)
theorem mem_take_succ (d : UInt8) (j : Nat) (hj : j < 8) : decide (d ∈ M.escL.take (j + 1)) = (decide (d ∈ M.escL.take j) || d == M.escL.getD j 0) := by
  have : j = 0 ∨ j = 1 ∨ j = 2 ∨ j = 3 ∨ j = 4 ∨ j = 5 ∨ j = 6 ∨ j = 7 := by omega
  rcases this with rfl | rfl | rfl | rfl | rfl | rfl | rfl | rfl
  all_goals (rw [Bool.eq_iff_iff]; simp [M.escL, or_assoc])
theorem escS_at (j : Nat) (h : j < (ByteArray.mk #[34, 92, 47, 98, 102, 110, 114, 116]).size) : (ByteArray.mk #[34, 92, 47, 98, 102, 110, 114, 116])[j]'h = M.escL.getD j 0 := by
  have h8 : j < 8 := h
  have : j = 0 ∨ j = 1 ∨ j = 2 ∨ j = 3 ∨ j = 4 ∨ j = 5 ∨ j = 6 ∨ j = 7 := by omega
  rcases this with rfl | rfl | rfl | rfl | rfl | rfl | rfl | rfl <;> rfl
theorem below_drewNQ {B : Nat} {a w : World} (h : Below B a w) (n : Nat) : Below B a (w.drewN n) := ⟨h.os, h.tape, h.output, h.size, h.block⟩

set_option maxRecDepth 100000 in
set_option maxHeartbeats 4000000 in
theorem jtext_any (v : Value) (l : List UInt8) (at0 : Nat) (r : Int) (w : World) (hv : Bs w v l) (hl : l.length ≤ 4294967296) (ha : at0 < l.length) (hr : jtI l (at0 + 1) = r) :
    Calls Tryd.prog 39 #[v, .int .i64 (at0 : Int)] w fun e w' => e = .returned (.int .i64 r) ∧ Below w.heap.size w w' := by
  obtain ⟨a, cap, rfl, h1, h2, h3⟩ := hv
  obtain ⟨b, off, rfl, hb, hcl⟩ := h3 (by omega)
  have hcg : ∀ j, j < l.length → w.cell? ⟨b, off + j, none⟩ = some (.int .u8 ((l.getD j 0).toNat : Int)) := fun j hj => by rw [hcl j hj]; simp [hj]
  obtain ⟨n, hn⟩ : ∃ n, l.length = n := ⟨_, rfl⟩
  rw [hn] at h1 hl ha ⊢
  have HC := Lib.hid hcg
  have HN := Lib.hid hn
  have HR := Lib.hid hr
  clear h3 hcl hcg hn hr
  go_enter Tryd.func39, Tryd.ntmps39
  go_wp2
  go_loopw [5, 6, 7, 8, 9] (fun iv _ _ _ _ wr => ∃ i q : Nat, iv = .int .i64 i ∧ i ≤ n ∧ wr = w.drewN q ∧ jtI l i = r) (fun iv _ _ _ _ _ => n - (intOf iv).toNat)
  case atStart => exact ⟨at0 + 1, 0, by go_num, by omega, rfl, HR.out⟩
  case round =>
    obtain ⟨i, q, rfl, hi, rfl, hT⟩ := hrel
    have HT := Lib.hid hT
    clear hT
    by_cases hlt : i < n
    · have hil : i < l.length := by rw [HN.out]; exact hlt
      have hci := HC.out i hil
      have hgd : l.getD i 0 = l[i] := by simp [hil]
      rw [hgd] at hci
      have f1 := jt_end l i hil
      have f2 := jt_low l i hil
      have f3 := jt_plain l i hil
      have f4 := jt_six l i hil
      have f5 := jt_six_no l i hil
      have f6 := jt_two l i hil
      have f7 := jt_two_no l i hil
      rw [HT.out] at f1 f2 f3 f4 f5 f6 f7
      obtain ⟨c, hc⟩ : ∃ c, l[i] = c := ⟨_, rfl⟩
      rw [hc] at hci f1 f2 f3 f4 f5 f6 f7
      obtain ⟨C, hC⟩ : ∃ C : Int, (c.toNat : Int) = C := ⟨_, rfl⟩
      rw [hC] at hci
      have C0 : 0 ≤ C := by omega
      have C9 : C < 256 := by have := c.toNat_lt; omega
      have i1 : (0 : Int) ≤ i := by omega
      have i2 : (i : Int) < n := by omega
      have HCc := Lib.hid hC
      have F3 := Lib.hid f3
      have F4 := Lib.hid f4
      have F5 := Lib.hid f5
      have F6 := Lib.hid f6
      have F7 := Lib.hid f7
      have cn : ∀ k : Nat, (k : Int) = C ↔ c.toNat = k := fun k => by omega
      clear f3 f4 f5 f6 f7 hc hgd hC
      by_cases c34 : c = 34
      · have hr := f1 c34
        have t1 : C = 34 := by have := HCc.out; rw [c34] at this; simpa using this.symm
        have t2 : (C == 34) = true := by simp [t1]
        have Hr := Lib.hid hr
        clear f1 f2 cn c34 t1 hr
        go_wp2
        go_ret
        exact ⟨retQ_i (by rw [Hr.out]), below_drewNQ (Below.refl _ _) _⟩
      · have t1 : (C == 34) = false := by rw [beq_eq_false_iff_ne]; intro hh; apply c34; apply UInt8.toNat_inj.1; have := HCc.out; show c.toNat = 34; omega
        by_cases c32 : c.toNat < 32
        · have hr := f2 c34 c32
          have t2 : C < 32 := by have := HCc.out; omega
          have Hr := Lib.hid hr
          clear f1 f2 cn c34 c32 hr
          go_wp2
          go_ret
          exact ⟨retQ_i (by rw [Hr.out]), below_drewNQ (Below.refl _ _) _⟩
        · have t2 : 32 ≤ C := by have := HCc.out; omega
          by_cases c92 : c = 92
          · have t3 : (C != 92) = false := by have := HCc.out; rw [c92] at this; rw [← this]; rfl
            have t4 : (C == 92) = true := by have := HCc.out; rw [c92] at this; rw [← this]; rfl
            have F4' := Lib.hid (F4.out c92)
            have F5' := Lib.hid (F5.out c92)
            have F6' := Lib.hid (F6.out c92)
            have F7' := Lib.hid (F7.out c92)
            clear f1 f2 cn c34 c32 F3 F4 F5 F6 F7 c92
            obtain ⟨d, hd⟩ : ∃ d, l.getD (i + 1) 0 = d := ⟨_, rfl⟩
            have hout : n ≤ i + 1 → d = 0 := by intro h; rw [← hd]; simp [List.getD, List.getElem?_eq_none (show l.length ≤ i + 1 by rw [HN.out]; exact h)]
            have hcd : i + 1 < n → w.cell? ⟨b, off + (i + 1), none⟩ = some (.int .u8 (d.toNat : Int)) := by intro h; rw [HC.out (i + 1) (by rw [HN.out]; exact h), hd]
            rw [hd] at F4' F5' F6' F7'
            obtain ⟨D, hD⟩ : ∃ C : Int, (d.toNat : Int) = C := ⟨_, rfl⟩
            rw [hD] at hcd
            have D0 : 0 ≤ D := by omega
            have D9 : D < 256 := by have := d.toNat_lt; omega
            have i4 : ((i : Int) + 1).toNat = i + 1 := by omega
            have HDD := Lib.hid hD
            have Hd := Lib.hid hd
            clear hd hD
            by_cases hu : i + 1 < n ∧ d = 117
            · obtain ⟨hu1, hu2⟩ := hu
              have hcd' := hcd hu1
              have t5 : D = 117 := by have := HDD.out; rw [hu2] at this; simpa using this.symm
              have t6 : (D == 117) = true := by simp [t5]
              have t7 : decide ((i : Int) + 1 < n) = true := by simp; omega
              have u7 : (i : Int) + 1 < n := by omega
              have F4 := Lib.hid (F4'.out hu2)
              have F5 := Lib.hid (F5'.out hu2)
              clear hcd hout t5 hu2 F4' F5' F6' F7'
              go_wp2
              go_loop [6] (fun kv => ∃ j : Nat, kv = .int .i64 ((i : Int) + 2 + j) ∧ j ≤ 4 ∧ hexTo l (i + 2) j = true) (fun kv => ((i : Int) + 6 - intOf kv).toNat)
              case atStart => exact ⟨0, by simp, by omega, rfl⟩
              case round =>
                obtain ⟨j, rfl, hj, hx⟩ := hrel
                have Hx := Lib.hid hx
                clear hx
                by_cases hj4 : j < 4
                · have k0 : (i : Int) + 2 + j < i + 6 := by omega
                  obtain ⟨x, hx⟩ : ∃ x, M.hexV (l.getD (i + 2 + j) 0) = x := ⟨_, rfl⟩
                  have hxl := M.hexV_lt (l.getD (i + 2 + j) 0)
                  rw [hx] at hxl
                  have hin := hexV_in l (i + 2 + j)
                  have hno := hexTo_no l (i + 2) j hj4
                  rw [hx] at hin hno
                  by_cases hkn : n ≤ i + 2 + j
                  · have hr := F5.out (hno (by intro h; have := hin h; rw [HN.out] at this; omega))
                    have k1 : decide ((n : Int) ≤ (i : Int) + 2 + j) = true := by simp; omega
                    have Hr := Lib.hid hr
                    clear hx hin hno hr
                    go_wp2
                    go_ret
                    exact ⟨retQ_i (by rw [Hr.out]), below_drewNQ (Below.refl _ _) _⟩
                  · have k1 : decide ((n : Int) ≤ (i : Int) + 2 + j) = false := by simp; omega
                    have hck := HC.out (i + 2 + j) (by rw [HN.out]; omega)
                    have k2 : (0 : Int) ≤ (i : Int) + 2 + j := by omega
                    have k3 : (i : Int) + 2 + j < n := by omega
                    have k4 : ((i : Int) + 2 + j).toNat = i + 2 + j := by omega
                    have hc1 := fun W => hex_any (l.getD (i + 2 + j) 0) x W hx
                    have Hc1 := Lib.hid hc1
                    have Hxx := Lib.hid hx
                    by_cases hx0 : x < 0
                    · have hr := F5.out (hno (by omega))
                      have Hr := Lib.hid hr
                      clear hx hin hno hr hc1
                      go_wp2_with fail
                      refine (Hc1.out _).mono ?_
                      rintro e w' ⟨rfl, rfl⟩
                      go_wp2
                      go_ret
                      exact ⟨retQ_i (by rw [Hr.out]), below_drewNQ (Below.refl _ _) _⟩
                    · clear hx hin hno hc1
                      go_wp2_with fail
                      refine (Hc1.out _).mono ?_
                      rintro e w' ⟨rfl, rfl⟩
                      go_wp2
                      go_round
                      case rel => exact ⟨j + 1, by congr 1 <;> omega, by omega, by unfold hexTo; rw [Hx.out, Hxx.out]; simp only [Bool.true_and, decide_eq_true_eq]; omega⟩
                      case measure => simp [intOf]; omega
                · obtain rfl : j = 4 := by omega
                  have hr := F4.out (by rw [hexTo_four]; exact Hx.out)
                  have h5 : i + 5 < n := by
                    have := Hx.out
                    simp only [hexTo, Bool.true_and, Bool.and_eq_true, decide_eq_true_eq] at this
                    have := hexV_in l _ this.2
                    rw [HN.out] at this; omega
                  have k0 : ¬ (i : Int) + 2 + 4 < i + 6 := by omega
                  have Hr := Lib.hid hr
                  clear hr
                  go_wp2
                  go_roundw
                  case rel => exact ⟨i + 6, q, by go_num, by omega, rfl, Hr.out⟩
                  case measure => simp [intOf]; omega
            · have hne : d ≠ 117 := by
                intro h
                by_cases h2 : i + 1 < n
                · exact hu ⟨h2, h⟩
                · have := hout (by omega); rw [this] at h; exact absurd h (by decide)
              have t6 : (D == 117) = false := by rw [beq_eq_false_iff_ne]; intro hh; apply hne; apply UInt8.toNat_inj.1; have := HDD.out; show d.toNat = 117; omega
              have F6 := Lib.hid (F6'.out hne)
              have F7 := Lib.hid (F7'.out hne)
              have tst : (decide ((i : Int) + 1 < n) = true ∧ i + 1 < n) ∨ (decide ((i : Int) + 1 < n) = false ∧ n ≤ i + 1) := by
                by_cases h : i + 1 < n
                · exact .inl ⟨by simp; omega, h⟩
                · exact .inr ⟨by simp; omega, by omega⟩
              clear hu hne F4' F5' F6' F7'
              rcases tst with ⟨t7, u7⟩ | ⟨t7, u7⟩
              · have hcd' := hcd u7
                clear hcd hout
                go_wp2
                have hEm := escS_at
                have hE8 : (ByteArray.mk #[34, 92, 47, 98, 102, 110, 114, 116]).size = 8 := rfl
                generalize (ByteArray.mk #[34, 92, 47, 98, 102, 110, 114, 116]) = E at hEm hE8 ⊢
                have HE8 := Lib.hid hE8
                have HEm := Lib.hid hEm
                clear hE8 hEm
                go_loopw [7, 9] (fun okv kv wr => ∃ (j p : Nat), kv = .int .i64 j ∧ j ≤ 8 ∧ wr = w.drewN p ∧ okv = .bool (decide (d ∈ M.escL.take j))) (fun _ kv _ => 8 - (intOf kv).toNat)
                case atStart => exact ⟨0, q, rfl, by omega, rfl, rfl⟩
                case round =>
                  obtain ⟨j, p, rfl, hj, rfl, rfl⟩ := hrel
                  have hE8 := HE8.out
                  have hEm := HEm.out
                  by_cases hj8 : j < 8
                  · have hj8' : j < E.size := by omega
                    have hem := hEm j hj8'
                    obtain ⟨e0, he0⟩ : ∃ e0, M.escL.getD j 0 = e0 := ⟨_, rfl⟩
                    have hmt := mem_take_succ d j hj8
                    rw [he0] at hem hmt
                    have e1 : (0 : Int) ≤ j := by omega
                    have e2 : (j : Int) < 8 := by omega
                    have e3 : (j : Int) < E.size := by omega
                    obtain ⟨okb, hokb⟩ : ∃ okb, decide (d ∈ M.escL.take j) = okb := ⟨_, rfl⟩
                    rw [hokb] at hmt ⊢
                    have hE9 : E.size ≤ 8 := by omega
                    have hE7 : 8 ≤ E.size := by omega
                    have Hmt := Lib.hid hmt
                    obtain ⟨G, hG⟩ : ∃ G : Int, (e0.toNat : Int) = G := ⟨_, rfl⟩
                    have hemG : ((E[j]'hj8').toNat : Int) = G := by rw [hem]; exact hG
                    have tq : ((D == G) = true ∧ (d == e0) = true) ∨ ((D == G) = false ∧ (d == e0) = false) := by
                      by_cases h : d = e0
                      · left; subst h; have := HDD.out; exact ⟨by rw [beq_iff_eq]; omega, by simp⟩
                      · right; refine ⟨?_, by simpa using h⟩
                        rw [beq_eq_false_iff_ne]; intro hh; apply h; apply UInt8.toNat_inj.1; have := HDD.out; omega
                    have HG := Lib.hid hG
                    have Hem := Lib.hid hem
                    clear hokb hmt hem he0 hE8 hEm hG
                    cases okb with
                    | true =>
                      go_wp2
                      go_quiet (fail)
                      go_wp2
                      go_roundw
                      case rel => exact ⟨j + 1, _, by go_num, by omega, rfl, by rw [Hmt.out]; simp⟩
                      case measure => simp [intOf]; omega
                    | false =>
                      rcases tq with ⟨q1, q2⟩ | ⟨q1, q2⟩
                      all_goals
                        have Hq2 := Lib.hid q2
                        clear q2
                        go_wp2
                        go_quiet (fail)
                        go_wp2
                        go_roundw
                        case rel => exact ⟨j + 1, _, by go_num, by omega, rfl, by rw [Hmt.out, Hq2.out]; simp⟩
                        case measure => simp [intOf]; omega
                  · obtain rfl : j = 8 := by omega
                    have hfull : M.escL.take 8 = M.escL := rfl
                    rw [hfull]
                    have hE9 : E.size ≤ 8 := by omega
                    clear hfull hj8 hE8 hEm
                    cases hm : decide (d ∈ M.escL) with
                    | true =>
                      have hr := F6.out (of_decide_eq_true hm)
                      have hi2 : i + 2 ≤ n := by omega
                      have Hr := Lib.hid hr
                      clear hr hm
                      go_wp2
                      go_roundw
                      case rel => exact ⟨i + 2, _, by go_num, hi2, rfl, Hr.out⟩
                      case measure => simp [intOf]; omega
                    | false =>
                      have hr := F7.out (of_decide_eq_false hm)
                      have Hr := Lib.hid hr
                      clear hr hm
                      go_wp2
                      go_ret
                      exact ⟨retQ_i (by rw [Hr.out]), below_drewNQ (Below.refl _ _) _⟩
              · have hd0 := hout u7
                clear hcd hout
                go_wp2
                have hEm := escS_at
                have hE8 : (ByteArray.mk #[34, 92, 47, 98, 102, 110, 114, 116]).size = 8 := rfl
                generalize (ByteArray.mk #[34, 92, 47, 98, 102, 110, 114, 116]) = E at hEm hE8 ⊢
                have HE8 := Lib.hid hE8
                have HEm := Lib.hid hEm
                clear hE8 hEm
                go_loopw [7, 9] (fun okv kv wr => ∃ (j p : Nat), kv = .int .i64 j ∧ j ≤ 8 ∧ wr = w.drewN p ∧ okv = .bool (decide (d ∈ M.escL.take j))) (fun _ kv _ => 8 - (intOf kv).toNat)
                case atStart => exact ⟨0, q, rfl, by omega, rfl, rfl⟩
                case round =>
                  obtain ⟨j, p, rfl, hj, rfl, rfl⟩ := hrel
                  have hE8 := HE8.out
                  have hEm := HEm.out
                  have hr := F7.out (by rw [hd0]; decide)
                  have hok : decide (d ∈ M.escL.take j) = false := by
                    rw [decide_eq_false_iff_not, hd0]
                    intro h; exact absurd (List.mem_of_mem_take h) (by decide)
                  rw [hok]
                  have hE9 : E.size ≤ 8 := by omega
                  have Hr := Lib.hid hr
                  clear hr hok hd0 hE8 hEm
                  go_wp2
                  all_goals
                    go_ret
                    exact ⟨retQ_i (by rw [Hr.out]), below_drewNQ (Below.refl _ _) _⟩
          · have hr := F3.out c34 c32 c92
            have t3 : (C != 92) = true := by rw [bne_iff_ne]; intro hh; apply c92; apply UInt8.toNat_inj.1; have := HCc.out; show c.toNat = 92; omega
            have Hr := Lib.hid hr
            clear f1 f2 cn c34 c32 c92 F4 F5 F6 F7 hr
            go_wp2
            go_roundw
            case rel => exact ⟨i + 1, q, by go_num, by omega, rfl, Hr.out⟩
            case measure => simp [intOf]; omega
    · obtain rfl : i = n := by omega
      have hr := HT.out
      rw [jtI_out l i (by rw [HN.out]; exact Nat.le_refl _)] at hr
      have Hr := Lib.hid hr
      clear hlt hr
      go_wp2
      go_ret
      exact ⟨retQ_i (by rw [Hr.out]), below_drewNQ (Below.refl _ _) _⟩
end Go.Proofs.YtlobinjdgcidmaaDoor

/- Plain numbers and lists: one element of a text on. -/
namespace Go.Proofs.YtlobinjdgcidmaaDoor
open Go.Lib
set_option linter.unusedVariables false
set_option linter.unusedSimpArgs false

end Go.Proofs.YtlobinjdgcidmaaDoor
