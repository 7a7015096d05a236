/- Texts of ours in one: JgU. -/
import Derived.Test.YtlobinjdgcidmaaGreatDoorQs02
import Derived.Test.YtlobinjdgcidmaaGreatDoorQs00
import Derived.Laws.BitsLemmas
/- Several texts of ours in one: UNx Utf RNext. -/
/- UTF-8: what utf.Next returns, for any bytes and any place. -/
namespace Go.Proofs.YtlobinjdgcidmaaGreatDoor
open Go.RowKit

theorem decode_any (l : List UInt8) (b off n cap : Nat) (w : World) (hT : Tabs w) (hn : l.length = n) (h0 : 0 < l.length)
    (hp : ∀ j (h : j < l.length), w.cell? ⟨b, off + j, none⟩ = some (.int .u8 (l[j].toNat : Int))) :
    Calls Tryz.prog 85 #[.slice (some ⟨b, off, none⟩) n cap] w fun e w' => e = .returned (.tuple #[.int .i32 ((M.dec l).1 : Int), .int .i64 ((M.dec l).2 : Int)]) ∧ Below w.heap.size w w' := by
  subst hn
  have hs : (ByteArray.mk l.toArray).size = l.length := rfl
  have hg : ∀ j, ((ByteArray.mk l.toArray).get! j).toNat = M.byte l j := fun j => by
    unfold M.byte
    simp [ByteArray.get!, List.getD]
    rfl
  have := Tryz.utf8_DecodeRune (ByteArray.mk l.toArray) b off cap w hT.u (fun j hj => by
    rw [hg j]
    have hj' : j < l.length := hj
    rw [hp j hj']
    simp [M.byte, hj'])
  rw [hs] at this
  refine this.mono ?_
  rintro e w' ⟨rfl, hb⟩
  refine ⟨?_, hb⟩
  have e1 : Lib.decodeGo (ByteArray.mk l.toArray) = M.dec l := by
    unfold Lib.decodeGo
    rw [if_neg (by rw [hs]; omega), Lib.decode_at, hs, hg, hg, hg, hg]
    rfl
  rw [e1]

set_option maxHeartbeats 400000 in
theorem next_any (v : Value) (l : List UInt8) (p : Int) (r : Int × Int × Bool) (w : World) (hT : Tabs w) (hv : Bs w v l) (hl : l.length ≤ 4294967296) (hr : M.nextAt l p = r) :
    Calls Tryz.prog 66 #[v, .int .i64 p] w fun e w' => e = .returned (tri r) ∧ Below w.heap.size w w' := by
  subst hr
  obtain ⟨a, cap, rfl, h1, h2, h3⟩ := hv
  unfold M.nextAt
  by_cases ho : p < 0 ∨ (l.length : Int) ≤ p
  · rw [if_pos ho]
    rcases ho with ho | ho
    · go_enter Tryz.func66, Tryz.ntmps66
      go_wp2
      go_ret3
      exact ⟨rfl, Below.refl _ _⟩
    · by_cases h0 : p < 0
      all_goals
        go_enter Tryz.func66, Tryz.ntmps66
        go_wp2
        go_ret3
        exact ⟨rfl, Below.refl _ _⟩
  · rw [if_neg ho]
    obtain ⟨k, rfl⟩ : ∃ k : Nat, p = k := ⟨p.toNat, by omega⟩
    have hk : k < l.length := by omega
    rw [Int.toNat_natCast]
    obtain ⟨b, off, rfl, hb, hc⟩ := h3 (by omega)
    have hd := decode_any (l.drop k) b (off + k) (l.length - k) (cap - k) w hT (by simp) (by simp; omega) (fun j hj => by
      rw [Nat.add_assoc, hc (k + j) (by simp at hj; omega)]; simp)
    have hcap : cap ≠ k := by omega
    clear ho h3 hc
    unfold M.nx
    obtain ⟨R, K, hRK⟩ : ∃ R K, M.dec (l.drop k) = (R, K) := ⟨_, _, rfl⟩
    have hK := M.dec_width (l.drop k)
    have hR := M.dec_rune (l.drop k)
    rw [hRK] at hd hK hR ⊢
    simp only at hd hK hR ⊢
    have HRK := Lib.hid hRK
    have Hd := Lib.hid hd
    clear hRK hd
    by_cases hbad : (R, K) = (65533, 1)
    · rw [if_pos hbad]
      simp only [Prod.mk.injEq] at hbad
      obtain ⟨rfl, rfl⟩ := hbad
      go_enter Tryz.func66, Tryz.ntmps66
      go_wp2_with fail
      refine Hd.out.mono ?_
      rintro e w' ⟨rfl, hbl⟩
      go_wp2
      go_ret3
      exact ⟨rfl, hbl⟩
    · rw [if_neg hbad]
      by_cases hR0 : R = 65533
      · have hK1 : ¬ K = 1 := fun h => hbad (by rw [hR0, h])
        have q1 : ((R : Int) == 65533) = true := by rw [beq_iff_eq]; omega
        have q2 : ((K : Int) == 1) = false := by rw [beq_eq_false_iff_ne]; omega
        clear hbad hK1 hR0
        go_enter Tryz.func66, Tryz.ntmps66
        go_wp2_with fail
        refine Hd.out.mono ?_
        rintro e w' ⟨rfl, hbl⟩
        go_wp2
        go_ret3
        exact ⟨rfl, hbl⟩
      · have q1 : ((R : Int) == 65533) = false := by rw [beq_eq_false_iff_ne]; omega
        clear hbad hR0
        go_enter Tryz.func66, Tryz.ntmps66
        go_wp2_with fail
        refine Hd.out.mono ?_
        rintro e w' ⟨rfl, hbl⟩
        go_wp2
        go_ret3
        exact ⟨rfl, hbl⟩

end Go.Proofs.YtlobinjdgcidmaaGreatDoor

/- UTF-8: what utf.Valid and utf.Units return, for any bytes and any number. -/
namespace Go.Proofs.YtlobinjdgcidmaaGreatDoor
open Go.RowKit


set_option maxHeartbeats 400000 in
theorem valid_any (v : Value) (l : List UInt8) (q : Nat) (ok : Bool) (w : World) (hT : Tabs w) (hv : Bs w v l) (hl : l.length ≤ 4294967296) (hr : M.validAll l = (q, ok)) :
    Calls Tryz.prog 44 #[v] w fun e w' => e = .returned (.tuple #[.int .i64 q, .bool ok]) ∧ Below w.heap.size w w' := by
  have hv2 := hv
  obtain ⟨a, cap, rfl, h1, h2, h3⟩ := hv2
  clear h3
  have Hv := Lib.hid hv
  have HT := Lib.hid hT
  have Hr := Lib.hid hr
  clear hv hT hr
  go_enter Tryz.func44, Tryz.ntmps44
  go_wp2
  go_loopw [4] (fun pv wr => ∃ (f p : Nat), pv = .int .i64 p ∧ p ≤ l.length ∧ l.length ≤ p + f ∧ M.valid f l p = (q, ok) ∧ Below w.heap.size w wr) (fun pv _ => l.length - (intOf pv).toNat)
  case atStart => exact ⟨l.length, 0, rfl, by omega, by omega, Hr.out, Below.refl _ _⟩
  case round =>
    obtain ⟨f, p, rfl, hp, hf, hval, hb⟩ := hrel
    have hTr := HT.out.keep hb
    have hvr := Hv.out.keep hb
    by_cases hlt : p < l.length
    · have hn := M.dec_width (l.drop p)
      have hle := M.dec_le (l.drop p) (by simp; omega)
      rw [List.length_drop] at hle
      have hnx : M.nextAt l p = M.nx (l.drop p) := by unfold M.nextAt; rw [if_neg (by omega)]; simp
      by_cases hbad : M.dec (l.drop p) = (65533, 1)
      · have e1 : M.nx (l.drop p) = (65533, 1, false) := by unfold M.nx; rw [if_pos hbad]
        rw [M.valid_bad f l p hlt (by omega) (by rw [e1])] at hval
        obtain ⟨rfl, rfl⟩ := Prod.mk.inj hval
        have Hnx := Lib.hid (hnx.trans e1)
        clear hnx e1 hbad hval hn hle
        go_wp2_with fail
        refine (next_any _ l _ _ _ hTr hvr hl Hnx.out).mono ?_
        rintro e w2 ⟨rfl, hb2⟩
        unfold tri
        go_wp2
        go_ret2
        exact ⟨rfl, hb.trans (hb2.mono hb.size)⟩
      · obtain ⟨R, K, hRK⟩ : ∃ R K, M.dec (l.drop p) = (R, K) := ⟨_, _, rfl⟩
        have e1 : M.nx (l.drop p) = ((R : Int), (K : Int), true) := by unfold M.nx; rw [if_neg hbad, hRK]
        rw [M.valid_good f l p hlt (by omega) (by rw [e1]), hRK] at hval
        rw [hRK] at hn hle
        simp only at hval hn hle
        have Hval := Lib.hid hval
        have Hnx := Lib.hid (hnx.trans e1)
        clear hnx e1 hbad hval hRK
        go_wp2_with fail
        refine (next_any _ l _ _ _ hTr hvr hl Hnx.out).mono ?_
        rintro e w2 ⟨rfl, hb2⟩
        unfold tri
        have hb3 := hb.trans (hb2.mono hb.size)
        clear hb hb2 hTr hvr
        go_wp2
        go_roundw
        case rel => exact ⟨f - 1, p + K, by go_num, by omega, by omega, Hval.out, hb3⟩
        case measure => simp [intOf]; omega
    · obtain rfl : p = l.length := by omega
      rw [M.valid_end f l _ (Nat.le_refl _)] at hval
      obtain ⟨rfl, rfl⟩ := Prod.mk.inj hval
      clear hlt hval
      go_wp2
      go_ret2
      exact ⟨rfl, hb⟩
end Go.Proofs.YtlobinjdgcidmaaGreatDoor

/- The reference of utf: what abridgerref1.Next and abridgerref1.Valid return, for any bytes and any place. -/
namespace Go.Proofs.YtlobinjdgcidmaaGreatDoor
open Go.RowKit
set_option linter.unusedVariables false

theorem and192_u8 : ∀ c : Fin 256, bits .and .u8 ((c.val : Nat) : Int) 192 = ((c.val / 64 * 64 : Nat) : Int) := by decide +kernel
theorem and63_u8 : ∀ c : Fin 256, bits .and .u8 ((c.val : Nat) : Int) 63 = ((c.val % 64 : Nat) : Int) := by decide +kernel
theorem and31_i64 : ∀ c : Fin 256, bits .and .i64 ((c.val : Nat) : Int) 31 = ((c.val % 32 : Nat) : Int) := by decide +kernel
theorem and15_i64 : ∀ c : Fin 256, bits .and .i64 ((c.val : Nat) : Int) 15 = ((c.val % 16 : Nat) : Int) := by decide +kernel
theorem and7_i64 : ∀ c : Fin 256, bits .and .i64 ((c.val : Nat) : Int) 7 = ((c.val % 8 : Nat) : Int) := by decide +kernel
theorem rwraps_i64 (n : Int) (h₀ : 0 ≤ n) (h₁ : n < 2 ^ 62) : IntKind.i64.wrap n = n := by rw [IntKind.wrap_i64]; omega
theorem or_64 (a x : Nat) (ha : a < 8388608) (hx : x < 64) : bits .or .i64 ((a : Int) * 64) (x : Int) = ((a * 64 + x : Nat) : Int) := by
  have := bits_join .i64 62 (by decide) rwraps_i64 6 ((a : Int) * 64) (x : Int) (by omega) (by omega) (by omega) (by omega) (by omega) (by omega)
  rw [this]; omega

theorem tail_any (v : Value) (l : List UInt8) (q : Nat) (r : Bool) (w : World) (hv : Bs w v l) (hl : l.length ≤ 4294967296) (hq : q ≤ 8589934592) (hr : M.tl l q = r) :
    Calls Tryz.prog 34 #[v, .int .i64 (q : Int)] w fun e w' => e = .returned (.tuple #[.int .i64 (if r then ((M.byte l q % 64 : Nat) : Int) else 0), .bool r]) ∧ w = w' := by
  obtain ⟨a, cap, rfl, h1, h2, h3⟩ := hv
  cases r with
  | true =>
    have ⟨h4, h5⟩ := (M.tl_iff l q).1 hr
    obtain ⟨b, off, rfl, hb, hc⟩ := h3 (by omega)
    have hc0 : w.cell? ⟨b, off + q, none⟩ = some (.int .u8 (M.byte l q : Int)) := by
      rw [hc q h4]; unfold M.byte; simp [h4]
    have hb256 := M.byte_lt l q
    have e1 := and192_u8 ⟨M.byte l q, hb256⟩
    have e2 := and63_u8 ⟨M.byte l q, hb256⟩
    simp only [if_true]
    generalize M.byte l q = c at *
    simp only at e1 e2
    rw [h5] at e1
    have i1 : (0 : Int) ≤ q := by omega
    have i2 : (q : Int) < l.length := by omega
    clear h3 hc hr h5
    go_enter Tryz.func34, Tryz.ntmps34
    go_wp2
    go_ret2
    exact ⟨rfl, rfl⟩
  | false =>
    simp only [Bool.false_eq_true, if_false]
    by_cases h4 : q < l.length
    · obtain ⟨b, off, rfl, hb, hc⟩ := h3 (by omega)
      have hc0 : w.cell? ⟨b, off + q, none⟩ = some (.int .u8 (M.byte l q : Int)) := by
        rw [hc q h4]; unfold M.byte; simp [h4]
      have hb256 := M.byte_lt l q
      have h5 : M.byte l q / 64 ≠ 2 := fun hh => by
        have := (M.tl_iff l q).2 ⟨h4, hh⟩
        rw [hr] at this; exact absurd this (by simp)
      have e1 := and192_u8 ⟨M.byte l q, hb256⟩
      generalize M.byte l q = c at *
      simp only at e1
      obtain ⟨d, hd⟩ : ∃ d, c / 64 * 64 = d := ⟨_, rfl⟩
      have q1 : ((d : Int) == 128) = false := by rw [beq_eq_false_iff_ne]; omega
      have q2 : ((d : Int) != 128) = true := by simp [bne, q1]
      rw [hd] at e1
      have i1 : (0 : Int) ≤ q := by omega
      have i2 : (q : Int) < l.length := by omega
      clear h3 hc hr h5 hd
      go_enter Tryz.func34, Tryz.ntmps34
      go_wp2
      go_ret2
      exact ⟨rfl, rfl⟩
    · have h5 : l.length ≤ q := by omega
      clear h3 hr h4
      go_enter Tryz.func34, Tryz.ntmps34
      go_wp2
      go_ret2
      exact ⟨rfl, rfl⟩

set_option maxRecDepth 100000 in
set_option maxHeartbeats 2000000 in
theorem refnext_two (v : Value) (l : List UInt8) (k : Nat) (w : World) (hv : Bs w v l) (hl : l.length ≤ 4294967296) (hk : k < l.length) (d1 : 192 ≤ M.byte l k) (d2 : M.byte l k < 224) :
    Calls Tryz.prog 20 #[v, .int .i64 (k : Int)] w fun e w' => e = .returned (tri (M.nx (l.drop k))) ∧ w = w' := by
  have Hv := Lib.hid hv
  obtain ⟨a, cap, rfl, h1, h2, h3⟩ := hv
  obtain ⟨b, off, rfl, hb, hc⟩ := h3 (by omega)
  have hc0 : w.cell? ⟨b, off + k, none⟩ = some (.int .u8 (M.byte l k : Int)) := by
    rw [hc k hk]; unfold M.byte; simp [hk]
  have hand := and31_i64 ⟨M.byte l k, M.byte_lt l k⟩
  simp only at hand
  have i1 : (0 : Int) ≤ k := by omega
  have i2 : (k : Int) < l.length := by omega
  clear h3 hc
  obtain ⟨r0, hr0⟩ : ∃ r0, M.byte l k % 32 = r0 := ⟨_, rfl⟩
  have hr0b : r0 < 32 := by omega
  have hcl : M.Cls (M.byte l k) 2 128 r0 := .inl ⟨d1, d2, rfl, rfl, hr0.symm⟩
  rw [hr0] at hand
  have Hcl := Lib.hid hcl
  obtain ⟨res, hres⟩ : ∃ res, M.nx (l.drop k) = res := ⟨_, rfl⟩
  rw [hres]
  have Hres := Lib.hid hres
  clear hres hcl hr0
  obtain ⟨c, hcc⟩ : ∃ c, M.byte l k = c := ⟨_, rfl⟩
  rw [hcc] at hc0 hand d1 d2
  have Hcc := Lib.hid hcc
  clear hcc
  have q0 : decide ((k : Int) < 0) = false := by simp
  have q00 : decide (l.length ≤ k) = false := by simp; omega
  have q1 : decide ((c : Int) < 128) = false := by simp; omega
  have q2 : decide (192 ≤ (c : Int)) = true := by simp; omega
  have q3 : decide ((c : Int) < 224) = true := by simp; omega
  have c255 : c ≤ 255 := by omega
  clear d1 d2
  go_enter Tryz.func20, Tryz.ntmps20
  go_wp2
  go_loop [9, 11] (fun rv iv => ∃ j : Nat, iv = .int .i64 ((j : Int) + 1) ∧ j + 1 ≤ 2 ∧ M.oks l k j ∧ rv = .int .i64 (M.acc l k r0 j : Int)) (fun _ iv => 2 - (intOf iv).toNat)
  case atStart => exact ⟨0, by first | rfl | simp, by omega, trivial, rfl⟩
  case round =>
    obtain ⟨j, rfl, hj, hok, rfl⟩ := hrel
    have hacc := M.acc_lt l k r0 hr0b j (by omega)
    have Hok := Lib.hid hok
    clear hok
    by_cases hlt : j + 1 < 2
    · have hlt2 : (j : Int) + 1 < 2 := by omega
      obtain ⟨t, ht⟩ : ∃ t, M.tl l (k + (j + 1)) = t := ⟨_, rfl⟩
      have hti := tail_any _ l (k + (j + 1)) t w Hv.out hl (by omega) ht
      rw [show ((k + (j + 1) : Nat) : Int) = (k : Int) + ((j : Int) + 1) by omega] at hti
      cases t with
      | false =>
        have hst := M.nx_stop l k 2 128 r0 j Hcl.out hlt Hok.out ht
        rw [Hres.out] at hst
        have Hst := Lib.hid hst
        have Hti := Lib.hid hti
        clear hst ht hti
        go_wp2_with fail
        refine Hti.out.mono ?_
        rintro e w' ⟨rfl, rfl⟩
        go_wp2
        go_ret3
        exact ⟨by rw [Hst.out]; rfl, rfl⟩
      | true =>
        have Ht := Lib.hid ht
        simp only [if_true] at hti
        obtain ⟨x, hx⟩ : ∃ x, M.byte l (k + (j + 1)) % 64 = x := ⟨_, rfl⟩
        rw [hx] at hti
        have hor := or_64 (M.acc l k r0 j) x hacc (by omega)
        have hstep : M.acc l k r0 j * 64 + x = M.acc l k r0 (j + 1) := by rw [← hx]; rfl
        rw [hstep] at hor
        clear hx
        have Hti := Lib.hid hti
        clear hti hstep ht
        go_wp2_with fail
        refine Hti.out.mono ?_
        rintro e w' ⟨rfl, rfl⟩
        go_wp2
        go_round
        case rel => exact ⟨j + 1, by go_num, by omega, ⟨Hok.out, Ht.out⟩, rfl⟩
        case measure => simp [intOf]; omega
    · have hjn : j + 1 = 2 := by omega
      have hfull := M.nx_full l k 2 128 r0 j Hcl.out hjn Hok.out _ rfl
      rw [Hres.out] at hfull
      obtain ⟨a, ha⟩ : ∃ a, M.acc l k r0 j = a := ⟨_, rfl⟩
      rw [ha] at hacc hfull
      rw [ha]
      have hlt2 : ¬ (j : Int) + 1 < 2 := by omega
      clear ha hjn hlt
      by_cases g1 : a < 128
      · rw [if_pos (.inl g1)] at hfull
        have Hf := Lib.hid hfull
        clear hfull
        go_wp2
        go_ret3
        exact ⟨by rw [Hf.out]; rfl, rfl⟩
      · by_cases g2 : 1114111 < a
        · rw [if_pos (.inr (.inl g2))] at hfull
          have Hf := Lib.hid hfull
          clear hfull
          go_wp2
          go_ret3
          exact ⟨by rw [Hf.out]; rfl, rfl⟩
        · by_cases g3 : 55296 ≤ a ∧ a < 57344
          · rw [if_pos (.inr (.inr g3))] at hfull
            obtain ⟨g3, g4⟩ := g3
            have Hf := Lib.hid hfull
            clear hfull
            go_wp2
            all_goals (go_ret3; exact ⟨by rw [Hf.out]; rfl, rfl⟩)
          · rw [if_neg (by omega)] at hfull
            have g5 : a < 55296 ∨ 57344 ≤ a := by omega
            have Hf := Lib.hid hfull
            clear hfull g3
            rcases g5 with g5 | g5
            all_goals
              go_wp2
              all_goals (go_ret3; exact ⟨by rw [Hf.out]; rfl, rfl⟩)

set_option maxRecDepth 100000 in
set_option maxHeartbeats 2000000 in
theorem refnext_three (v : Value) (l : List UInt8) (k : Nat) (w : World) (hv : Bs w v l) (hl : l.length ≤ 4294967296) (hk : k < l.length) (d1 : 224 ≤ M.byte l k) (d2 : M.byte l k < 240) :
    Calls Tryz.prog 20 #[v, .int .i64 (k : Int)] w fun e w' => e = .returned (tri (M.nx (l.drop k))) ∧ w = w' := by
  have Hv := Lib.hid hv
  obtain ⟨a, cap, rfl, h1, h2, h3⟩ := hv
  obtain ⟨b, off, rfl, hb, hc⟩ := h3 (by omega)
  have hc0 : w.cell? ⟨b, off + k, none⟩ = some (.int .u8 (M.byte l k : Int)) := by
    rw [hc k hk]; unfold M.byte; simp [hk]
  have hand := and15_i64 ⟨M.byte l k, M.byte_lt l k⟩
  simp only at hand
  have i1 : (0 : Int) ≤ k := by omega
  have i2 : (k : Int) < l.length := by omega
  clear h3 hc
  obtain ⟨r0, hr0⟩ : ∃ r0, M.byte l k % 16 = r0 := ⟨_, rfl⟩
  have hr0b : r0 < 32 := by omega
  have hcl : M.Cls (M.byte l k) 3 2048 r0 := .inr (.inl ⟨d1, d2, rfl, rfl, hr0.symm⟩)
  rw [hr0] at hand
  have Hcl := Lib.hid hcl
  obtain ⟨res, hres⟩ : ∃ res, M.nx (l.drop k) = res := ⟨_, rfl⟩
  rw [hres]
  have Hres := Lib.hid hres
  clear hres hcl hr0
  obtain ⟨c, hcc⟩ : ∃ c, M.byte l k = c := ⟨_, rfl⟩
  rw [hcc] at hc0 hand d1 d2
  have Hcc := Lib.hid hcc
  clear hcc
  have q0 : decide ((k : Int) < 0) = false := by simp
  have q00 : decide (l.length ≤ k) = false := by simp; omega
  have q1 : decide ((c : Int) < 128) = false := by simp; omega
  have q2 : decide (192 ≤ (c : Int)) = true := by simp; omega
  have q3 : decide ((c : Int) < 224) = false := by simp; omega
  have q4 : decide (224 ≤ (c : Int)) = true := by simp; omega
  have q5 : decide ((c : Int) < 240) = true := by simp; omega
  have c255 : c ≤ 255 := by omega
  clear d1 d2
  go_enter Tryz.func20, Tryz.ntmps20
  go_wp2
  go_loop [9, 11] (fun rv iv => ∃ j : Nat, iv = .int .i64 ((j : Int) + 1) ∧ j + 1 ≤ 3 ∧ M.oks l k j ∧ rv = .int .i64 (M.acc l k r0 j : Int)) (fun _ iv => 3 - (intOf iv).toNat)
  case atStart => exact ⟨0, by first | rfl | simp, by omega, trivial, rfl⟩
  case round =>
    obtain ⟨j, rfl, hj, hok, rfl⟩ := hrel
    have hacc := M.acc_lt l k r0 hr0b j (by omega)
    have Hok := Lib.hid hok
    clear hok
    by_cases hlt : j + 1 < 3
    · have hlt2 : (j : Int) + 1 < 3 := by omega
      obtain ⟨t, ht⟩ : ∃ t, M.tl l (k + (j + 1)) = t := ⟨_, rfl⟩
      have hti := tail_any _ l (k + (j + 1)) t w Hv.out hl (by omega) ht
      rw [show ((k + (j + 1) : Nat) : Int) = (k : Int) + ((j : Int) + 1) by omega] at hti
      cases t with
      | false =>
        have hst := M.nx_stop l k 3 2048 r0 j Hcl.out hlt Hok.out ht
        rw [Hres.out] at hst
        have Hst := Lib.hid hst
        have Hti := Lib.hid hti
        clear hst ht hti
        go_wp2_with fail
        refine Hti.out.mono ?_
        rintro e w' ⟨rfl, rfl⟩
        go_wp2
        go_ret3
        exact ⟨by rw [Hst.out]; rfl, rfl⟩
      | true =>
        have Ht := Lib.hid ht
        simp only [if_true] at hti
        obtain ⟨x, hx⟩ : ∃ x, M.byte l (k + (j + 1)) % 64 = x := ⟨_, rfl⟩
        rw [hx] at hti
        have hor := or_64 (M.acc l k r0 j) x hacc (by omega)
        have hstep : M.acc l k r0 j * 64 + x = M.acc l k r0 (j + 1) := by rw [← hx]; rfl
        rw [hstep] at hor
        clear hx
        have Hti := Lib.hid hti
        clear hti hstep ht
        go_wp2_with fail
        refine Hti.out.mono ?_
        rintro e w' ⟨rfl, rfl⟩
        go_wp2
        go_round
        case rel => exact ⟨j + 1, by go_num, by omega, ⟨Hok.out, Ht.out⟩, rfl⟩
        case measure => simp [intOf]; omega
    · have hjn : j + 1 = 3 := by omega
      have hfull := M.nx_full l k 3 2048 r0 j Hcl.out hjn Hok.out _ rfl
      rw [Hres.out] at hfull
      obtain ⟨a, ha⟩ : ∃ a, M.acc l k r0 j = a := ⟨_, rfl⟩
      rw [ha] at hacc hfull
      rw [ha]
      have hlt2 : ¬ (j : Int) + 1 < 3 := by omega
      clear ha hjn hlt
      by_cases g1 : a < 2048
      · rw [if_pos (.inl g1)] at hfull
        have Hf := Lib.hid hfull
        clear hfull
        go_wp2
        go_ret3
        exact ⟨by rw [Hf.out]; rfl, rfl⟩
      · by_cases g2 : 1114111 < a
        · rw [if_pos (.inr (.inl g2))] at hfull
          have Hf := Lib.hid hfull
          clear hfull
          go_wp2
          go_ret3
          exact ⟨by rw [Hf.out]; rfl, rfl⟩
        · by_cases g3 : 55296 ≤ a ∧ a < 57344
          · rw [if_pos (.inr (.inr g3))] at hfull
            obtain ⟨g3, g4⟩ := g3
            have Hf := Lib.hid hfull
            clear hfull
            go_wp2
            all_goals (go_ret3; exact ⟨by rw [Hf.out]; rfl, rfl⟩)
          · rw [if_neg (by omega)] at hfull
            have g5 : a < 55296 ∨ 57344 ≤ a := by omega
            have Hf := Lib.hid hfull
            clear hfull g3
            rcases g5 with g5 | g5
            all_goals
              go_wp2
              all_goals (go_ret3; exact ⟨by rw [Hf.out]; rfl, rfl⟩)

set_option maxRecDepth 100000 in
set_option maxHeartbeats 2000000 in
theorem refnext_four (v : Value) (l : List UInt8) (k : Nat) (w : World) (hv : Bs w v l) (hl : l.length ≤ 4294967296) (hk : k < l.length) (d1 : 240 ≤ M.byte l k) (d2 : M.byte l k < 248) :
    Calls Tryz.prog 20 #[v, .int .i64 (k : Int)] w fun e w' => e = .returned (tri (M.nx (l.drop k))) ∧ w = w' := by
  have Hv := Lib.hid hv
  obtain ⟨a, cap, rfl, h1, h2, h3⟩ := hv
  obtain ⟨b, off, rfl, hb, hc⟩ := h3 (by omega)
  have hc0 : w.cell? ⟨b, off + k, none⟩ = some (.int .u8 (M.byte l k : Int)) := by
    rw [hc k hk]; unfold M.byte; simp [hk]
  have hand := and7_i64 ⟨M.byte l k, M.byte_lt l k⟩
  simp only at hand
  have i1 : (0 : Int) ≤ k := by omega
  have i2 : (k : Int) < l.length := by omega
  clear h3 hc
  obtain ⟨r0, hr0⟩ : ∃ r0, M.byte l k % 8 = r0 := ⟨_, rfl⟩
  have hr0b : r0 < 32 := by omega
  have hcl : M.Cls (M.byte l k) 4 65536 r0 := .inr (.inr ⟨d1, d2, rfl, rfl, hr0.symm⟩)
  rw [hr0] at hand
  have Hcl := Lib.hid hcl
  obtain ⟨res, hres⟩ : ∃ res, M.nx (l.drop k) = res := ⟨_, rfl⟩
  rw [hres]
  have Hres := Lib.hid hres
  clear hres hcl hr0
  obtain ⟨c, hcc⟩ : ∃ c, M.byte l k = c := ⟨_, rfl⟩
  rw [hcc] at hc0 hand d1 d2
  have Hcc := Lib.hid hcc
  clear hcc
  have q0 : decide ((k : Int) < 0) = false := by simp
  have q00 : decide (l.length ≤ k) = false := by simp; omega
  have q1 : decide ((c : Int) < 128) = false := by simp; omega
  have q2 : decide (192 ≤ (c : Int)) = true := by simp; omega
  have q3 : decide ((c : Int) < 224) = false := by simp; omega
  have q4 : decide (224 ≤ (c : Int)) = true := by simp; omega
  have q5 : decide ((c : Int) < 240) = false := by simp; omega
  have q6 : decide (240 ≤ (c : Int)) = true := by simp; omega
  have q7 : decide ((c : Int) < 248) = true := by simp; omega
  have c255 : c ≤ 255 := by omega
  clear d1 d2
  go_enter Tryz.func20, Tryz.ntmps20
  go_wp2
  go_loop [9, 11] (fun rv iv => ∃ j : Nat, iv = .int .i64 ((j : Int) + 1) ∧ j + 1 ≤ 4 ∧ M.oks l k j ∧ rv = .int .i64 (M.acc l k r0 j : Int)) (fun _ iv => 4 - (intOf iv).toNat)
  case atStart => exact ⟨0, by first | rfl | simp, by omega, trivial, rfl⟩
  case round =>
    obtain ⟨j, rfl, hj, hok, rfl⟩ := hrel
    have hacc := M.acc_lt l k r0 hr0b j (by omega)
    have Hok := Lib.hid hok
    clear hok
    by_cases hlt : j + 1 < 4
    · have hlt2 : (j : Int) + 1 < 4 := by omega
      obtain ⟨t, ht⟩ : ∃ t, M.tl l (k + (j + 1)) = t := ⟨_, rfl⟩
      have hti := tail_any _ l (k + (j + 1)) t w Hv.out hl (by omega) ht
      rw [show ((k + (j + 1) : Nat) : Int) = (k : Int) + ((j : Int) + 1) by omega] at hti
      cases t with
      | false =>
        have hst := M.nx_stop l k 4 65536 r0 j Hcl.out hlt Hok.out ht
        rw [Hres.out] at hst
        have Hst := Lib.hid hst
        have Hti := Lib.hid hti
        clear hst ht hti
        go_wp2_with fail
        refine Hti.out.mono ?_
        rintro e w' ⟨rfl, rfl⟩
        go_wp2
        go_ret3
        exact ⟨by rw [Hst.out]; rfl, rfl⟩
      | true =>
        have Ht := Lib.hid ht
        simp only [if_true] at hti
        obtain ⟨x, hx⟩ : ∃ x, M.byte l (k + (j + 1)) % 64 = x := ⟨_, rfl⟩
        rw [hx] at hti
        have hor := or_64 (M.acc l k r0 j) x hacc (by omega)
        have hstep : M.acc l k r0 j * 64 + x = M.acc l k r0 (j + 1) := by rw [← hx]; rfl
        rw [hstep] at hor
        clear hx
        have Hti := Lib.hid hti
        clear hti hstep ht
        go_wp2_with fail
        refine Hti.out.mono ?_
        rintro e w' ⟨rfl, rfl⟩
        go_wp2
        go_round
        case rel => exact ⟨j + 1, by go_num, by omega, ⟨Hok.out, Ht.out⟩, rfl⟩
        case measure => simp [intOf]; omega
    · have hjn : j + 1 = 4 := by omega
      have hfull := M.nx_full l k 4 65536 r0 j Hcl.out hjn Hok.out _ rfl
      rw [Hres.out] at hfull
      obtain ⟨a, ha⟩ : ∃ a, M.acc l k r0 j = a := ⟨_, rfl⟩
      rw [ha] at hacc hfull
      rw [ha]
      have hlt2 : ¬ (j : Int) + 1 < 4 := by omega
      clear ha hjn hlt
      by_cases g1 : a < 65536
      · rw [if_pos (.inl g1)] at hfull
        have Hf := Lib.hid hfull
        clear hfull
        go_wp2
        go_ret3
        exact ⟨by rw [Hf.out]; rfl, rfl⟩
      · by_cases g2 : 1114111 < a
        · rw [if_pos (.inr (.inl g2))] at hfull
          have Hf := Lib.hid hfull
          clear hfull
          go_wp2
          go_ret3
          exact ⟨by rw [Hf.out]; rfl, rfl⟩
        · by_cases g3 : 55296 ≤ a ∧ a < 57344
          · rw [if_pos (.inr (.inr g3))] at hfull
            obtain ⟨g3, g4⟩ := g3
            have Hf := Lib.hid hfull
            clear hfull
            go_wp2
            all_goals (go_ret3; exact ⟨by rw [Hf.out]; rfl, rfl⟩)
          · rw [if_neg (by omega)] at hfull
            have g5 : a < 55296 ∨ 57344 ≤ a := by omega
            have Hf := Lib.hid hfull
            clear hfull g3
            rcases g5 with g5 | g5
            all_goals
              go_wp2
              all_goals (go_ret3; exact ⟨by rw [Hf.out]; rfl, rfl⟩)

set_option maxRecDepth 100000 in
set_option maxHeartbeats 1000000 in
theorem refnext_any (v : Value) (l : List UInt8) (p : Int) (r : Int × Int × Bool) (w : World) (hv : Bs w v l) (hl : l.length ≤ 4294967296) (hr : M.nextAt l p = r) :
    Calls Tryz.prog 20 #[v, .int .i64 p] w fun e w' => e = .returned (tri r) ∧ w = w' := by
  subst hr
  by_cases ho : p < 0 ∨ (l.length : Int) ≤ p
  · rw [M.nextAt_out l p ho]
    obtain ⟨a, cap, rfl, h1, h2, h3⟩ := hv
    clear h3
    by_cases h0 : p < 0
    · clear ho
      go_enter Tryz.func20, Tryz.ntmps20
      go_wp2
      go_ret3
      exact ⟨rfl, rfl⟩
    · have h5 : (l.length : Int) ≤ p := by omega
      clear ho
      go_enter Tryz.func20, Tryz.ntmps20
      go_wp2
      go_ret3
      exact ⟨rfl, rfl⟩
  · obtain ⟨k, rfl⟩ : ∃ k : Nat, p = k := ⟨p.toNat, by omega⟩
    have hk : k < l.length := by omega
    rw [M.nextAt_in l k hk]
    have hv2 := hv
    obtain ⟨a, cap, rfl, h1, h2, h3⟩ := hv2
    obtain ⟨b, off, rfl, hb, hc⟩ := h3 (by omega)
    have hc0 : w.cell? ⟨b, off + k, none⟩ = some (.int .u8 (M.byte l k : Int)) := by
      rw [hc k hk]; unfold M.byte; simp [hk]
    have hb256 := M.byte_lt l k
    have i1 : (0 : Int) ≤ k := by omega
    have i2 : (k : Int) < l.length := by omega
    have Hv := Lib.hid hv
    clear h3 hc ho hv
    by_cases c1 : M.byte l k < 128
    · rw [M.nx_one l k c1]
      generalize M.byte l k = c at *
      go_enter Tryz.func20, Tryz.ntmps20
      go_wp2
      refine wp_loop_rounds 1 ?_
      rw [rounds_succ]
      go_wp2
      go_ret3
      exact ⟨rfl, rfl⟩
    · by_cases c2 : M.byte l k < 192 ∨ 248 ≤ M.byte l k
      · rw [M.nx_none l k (by omega)]
        generalize M.byte l k = c at *
        rcases c2 with c2 | c2
        all_goals
          go_enter Tryz.func20, Tryz.ntmps20
          go_wp2
          go_ret3
          exact ⟨rfl, rfl⟩
      · have hb256 := M.byte_lt l k
        by_cases d1 : M.byte l k < 224
        · exact refnext_two _ l k w Hv.out hl hk (by omega) d1
        · by_cases d2 : M.byte l k < 240
          · exact refnext_three _ l k w Hv.out hl hk (by omega) d2
          · exact refnext_four _ l k w Hv.out hl hk (by omega) (by omega)

set_option maxHeartbeats 400000 in
theorem refvalid_any (v : Value) (l : List UInt8) (q : Nat) (ok : Bool) (w : World) (hv : Bs w v l) (hl : l.length ≤ 4294967296) (hr : M.validAll l = (q, ok)) :
    Calls Tryz.prog 9 #[v] w fun e w' => e = .returned (.tuple #[.int .i64 q, .bool ok]) ∧ w = w' := by
  have hv2 := hv
  obtain ⟨a, cap, rfl, h1, h2, h3⟩ := hv2
  clear h3
  have Hv := Lib.hid hv
  have Hr := Lib.hid hr
  clear hv hr
  go_enter Tryz.func9, Tryz.ntmps9
  go_wp2
  go_loop [4] (fun pv => ∃ (f p : Nat), pv = .int .i64 p ∧ p ≤ l.length ∧ l.length ≤ p + f ∧ M.valid f l p = (q, ok)) (fun pv => l.length - (intOf pv).toNat)
  case atStart => exact ⟨l.length, 0, rfl, by omega, by omega, Hr.out⟩
  case round =>
    obtain ⟨f, p, rfl, hp, hf, hval⟩ := hrel
    by_cases hlt : p < l.length
    · have hn := M.dec_width (l.drop p)
      have hle := M.dec_le (l.drop p) (by simp; omega)
      rw [List.length_drop] at hle
      have hnx : M.nextAt l p = M.nx (l.drop p) := M.nextAt_in l p hlt
      by_cases hbad : M.dec (l.drop p) = (65533, 1)
      · have e1 : M.nx (l.drop p) = (65533, 1, false) := by unfold M.nx; rw [if_pos hbad]
        rw [M.valid_bad f l p hlt (by omega) (by rw [e1])] at hval
        obtain ⟨rfl, rfl⟩ := Prod.mk.inj hval
        have Hnx := Lib.hid (hnx.trans e1)
        clear hnx e1 hbad hval hn hle
        go_wp2_with fail
        refine (refnext_any _ l _ _ _ Hv.out hl Hnx.out).mono ?_
        rintro e w2 ⟨rfl, rfl⟩
        unfold tri
        go_wp2
        go_ret2
        exact ⟨rfl, rfl⟩
      · obtain ⟨R, K, hRK⟩ : ∃ R K, M.dec (l.drop p) = (R, K) := ⟨_, _, rfl⟩
        have e1 : M.nx (l.drop p) = ((R : Int), (K : Int), true) := by unfold M.nx; rw [if_neg hbad, hRK]
        rw [M.valid_good f l p hlt (by omega) (by rw [e1]), hRK] at hval
        rw [hRK] at hn hle
        simp only at hval hn hle
        have Hval := Lib.hid hval
        have Hnx := Lib.hid (hnx.trans e1)
        clear hnx e1 hbad hval hRK
        go_wp2_with fail
        refine (refnext_any _ l _ _ _ Hv.out hl Hnx.out).mono ?_
        rintro e w2 ⟨rfl, rfl⟩
        unfold tri
        go_wp2
        go_round
        case rel => exact ⟨f - 1, p + K, by go_num, by omega, by omega, Hval.out⟩
        case measure => simp [intOf]; omega
    · obtain rfl : p = l.length := by omega
      rw [M.valid_end f l _ (Nat.le_refl _)] at hval
      obtain ⟨rfl, rfl⟩ := Prod.mk.inj hval
      clear hlt hval
      go_wp2
      go_ret2
      exact ⟨rfl, rfl⟩
end Go.Proofs.YtlobinjdgcidmaaGreatDoor
