/- Texts of ours in one: JgU. -/
import Derived.Test.YtbfnlgmhfhaglaaGreatDoorQk02
import Derived.Test.YtbfnlgmhfhaglaaGreatDoorQk00
import Derived.Laws.BitsLemmas
/- Several texts of ours in one: UNx Utf RNext. -/
/- UTF-8: what utf.Next returns, for any bytes and any place. -/
namespace Go.Proofs.YtbfnlgmhfhaglaaGreatDoor
open Go.RowKit

theorem decode_any (l : List UInt8) (b off n cap : Nat) (w : World) (hT : Tabs w) (hn : l.length = n) (h0 : 0 < l.length)
    (hp : ∀ j (h : j < l.length), w.cell? ⟨b, off + j, none⟩ = some (.int .u8 (l[j].toNat : Int))) :
    Calls Tryz.prog 81 #[.slice (some ⟨b, off, none⟩) n cap] w fun e w' => e = .returned (.tuple #[.int .i32 ((M.dec l).1 : Int), .int .i64 ((M.dec l).2 : Int)]) ∧ Below w.heap.size w w' := by
  subst hn
  have hs : (ByteArray.mk l.toArray).size = l.length := rfl
  have hg : ∀ j, ((ByteArray.mk l.toArray).get! j).toNat = M.byte l j := fun j => by
    unfold M.byte
    simp [ByteArray.get!, List.getD]
    rfl
  have := Tryz.utf8_DecodeRune (ByteArray.mk l.toArray) b off cap w hT.u (fun j hj => by
    rw [hg j]
    have hj' : j < l.length := hj
    rw [hp j hj']
    simp [M.byte, hj'])
  rw [hs] at this
  refine this.mono ?_
  rintro e w' ⟨rfl, hb⟩
  refine ⟨?_, hb⟩
  have e1 : Lib.decodeGo (ByteArray.mk l.toArray) = M.dec l := by
    unfold Lib.decodeGo
    rw [if_neg (by rw [hs]; omega), Lib.decode_at, hs, hg, hg, hg, hg]
    rfl
  rw [e1]

set_option maxHeartbeats 400000 in
theorem next_any (v : Value) (l : List UInt8) (p : Int) (r : Int × Int × Bool) (w : World) (hT : Tabs w) (hv : Bs w v l) (hl : l.length ≤ 4294967296) (hr : M.nextAt l p = r) :
    Calls Tryz.prog 61 #[v, .int .i64 p] w fun e w' => e = .returned (tri r) ∧ Below w.heap.size w w' := by
  subst hr
  obtain ⟨a, cap, rfl, h1, h2, h3⟩ := hv
  unfold M.nextAt
  by_cases ho : p < 0 ∨ (l.length : Int) ≤ p
  · rw [if_pos ho]
    rcases ho with ho | ho
    · go_enter Tryz.func61, Tryz.ntmps61
      go_wp2
      go_ret3
      exact ⟨rfl, Below.refl _ _⟩
    · by_cases h0 : p < 0
      all_goals
        go_enter Tryz.func61, Tryz.ntmps61
        go_wp2
        go_ret3
        exact ⟨rfl, Below.refl _ _⟩
  · rw [if_neg ho]
    obtain ⟨k, rfl⟩ : ∃ k : Nat, p = k := ⟨p.toNat, by omega⟩
    have hk : k < l.length := by omega
    rw [Int.toNat_natCast]
    obtain ⟨b, off, rfl, hb, hc⟩ := h3 (by omega)
    have hd := decode_any (l.drop k) b (off + k) (l.length - k) (cap - k) w hT (by simp) (by simp; omega) (fun j hj => by
      rw [Nat.add_assoc, hc (k + j) (by simp at hj; omega)]; simp)
    have hcap : cap ≠ k := by omega
    clear ho h3 hc
    unfold M.nx
    obtain ⟨R, K, hRK⟩ : ∃ R K, M.dec (l.drop k) = (R, K) := ⟨_, _, rfl⟩
    have hK := M.dec_width (l.drop k)
    have hR := M.dec_rune (l.drop k)
    rw [hRK] at hd hK hR ⊢
    simp only at hd hK hR ⊢
    have HRK := Lib.hid hRK
    have Hd := Lib.hid hd
    clear hRK hd
    by_cases hbad : (R, K) = (65533, 1)
    · rw [if_pos hbad]
      simp only [Prod.mk.injEq] at hbad
      obtain ⟨rfl, rfl⟩ := hbad
      go_enter Tryz.func61, Tryz.ntmps61
      go_wp2_with fail
      refine Hd.out.mono ?_
      rintro e w' ⟨rfl, hbl⟩
      go_wp2
      go_ret3
      exact ⟨rfl, hbl⟩
    · rw [if_neg hbad]
      by_cases hR0 : R = 65533
      · have hK1 : ¬ K = 1 := fun h => hbad (by rw [hR0, h])
        have q1 : ((R : Int) == 65533) = true := by rw [beq_iff_eq]; omega
        have q2 : ((K : Int) == 1) = false := by rw [beq_eq_false_iff_ne]; omega
        clear hbad hK1 hR0
        go_enter Tryz.func61, Tryz.ntmps61
        go_wp2_with fail
        refine Hd.out.mono ?_
        rintro e w' ⟨rfl, hbl⟩
        go_wp2
        go_ret3
        exact ⟨rfl, hbl⟩
      · have q1 : ((R : Int) == 65533) = false := by rw [beq_eq_false_iff_ne]; omega
        clear hbad hR0
        go_enter Tryz.func61, Tryz.ntmps61
        go_wp2_with fail
        refine Hd.out.mono ?_
        rintro e w' ⟨rfl, hbl⟩
        go_wp2
        go_ret3
        exact ⟨rfl, hbl⟩

end Go.Proofs.YtbfnlgmhfhaglaaGreatDoor

/- UTF-8: what utf.Valid and utf.Units return, for any bytes and any number. -/
namespace Go.Proofs.YtbfnlgmhfhaglaaGreatDoor
open Go.RowKit


set_option maxHeartbeats 400000 in
theorem valid_any (v : Value) (l : List UInt8) (q : Nat) (ok : Bool) (w : World) (hT : Tabs w) (hv : Bs w v l) (hl : l.length ≤ 4294967296) (hr : M.validAll l = (q, ok)) :
    Calls Tryz.prog 40 #[v] w fun e w' => e = .returned (.tuple #[.int .i64 q, .bool ok]) ∧ Below w.heap.size w w' := by
  have hv2 := hv
  obtain ⟨a, cap, rfl, h1, h2, h3⟩ := hv2
  clear h3
  have Hv := Lib.hid hv
  have HT := Lib.hid hT
  have Hr := Lib.hid hr
  clear hv hT hr
  go_enter Tryz.func40, Tryz.ntmps40
  go_wp2
  go_loopw [4] (fun pv wr => ∃ (f p : Nat), pv = .int .i64 p ∧ p ≤ l.length ∧ l.length ≤ p + f ∧ M.valid f l p = (q, ok) ∧ Below w.heap.size w wr) (fun pv _ => l.length - (intOf pv).toNat)
  case atStart => exact ⟨l.length, 0, rfl, by omega, by omega, Hr.out, Below.refl _ _⟩
  case round =>
    obtain ⟨f, p, rfl, hp, hf, hval, hb⟩ := hrel
    have hTr := HT.out.keep hb
    have hvr := Hv.out.keep hb
    by_cases hlt : p < l.length
    · have hn := M.dec_width (l.drop p)
      have hle := M.dec_le (l.drop p) (by simp; omega)
      rw [List.length_drop] at hle
      have hnx : M.nextAt l p = M.nx (l.drop p) := by unfold M.nextAt; rw [if_neg (by omega)]; simp
      by_cases hbad : M.dec (l.drop p) = (65533, 1)
      · have e1 : M.nx (l.drop p) = (65533, 1, false) := by unfold M.nx; rw [if_pos hbad]
        rw [M.valid_bad f l p hlt (by omega) (by rw [e1])] at hval
        obtain ⟨rfl, rfl⟩ := Prod.mk.inj hval
        have Hnx := Lib.hid (hnx.trans e1)
        clear hnx e1 hbad hval hn hle
        go_wp2_with fail
        refine (next_any _ l _ _ _ hTr hvr hl Hnx.out).mono ?_
        rintro e w2 ⟨rfl, hb2⟩
        unfold tri
        go_wp2
        go_ret2
        exact ⟨rfl, hb.trans (hb2.mono hb.size)⟩
      · obtain ⟨R, K, hRK⟩ : ∃ R K, M.dec (l.drop p) = (R, K) := ⟨_, _, rfl⟩
        have e1 : M.nx (l.drop p) = ((R : Int), (K : Int), true) := by unfold M.nx; rw [if_neg hbad, hRK]
        rw [M.valid_good f l p hlt (by omega) (by rw [e1]), hRK] at hval
        rw [hRK] at hn hle
        simp only at hval hn hle
        have Hval := Lib.hid hval
        have Hnx := Lib.hid (hnx.trans e1)
        clear hnx e1 hbad hval hRK
        go_wp2_with fail
        refine (next_any _ l _ _ _ hTr hvr hl Hnx.out).mono ?_
        rintro e w2 ⟨rfl, hb2⟩
        unfold tri
        have hb3 := hb.trans (hb2.mono hb.size)
        clear hb hb2 hTr hvr
        go_wp2
        go_roundw
        case rel => exact ⟨f - 1, p + K, by go_num, by omega, by omega, Hval.out, hb3⟩
        case measure => simp [intOf]; omega
    · obtain rfl : p = l.length := by omega
      rw [M.valid_end f l _ (Nat.le_refl _)] at hval
      obtain ⟨rfl, rfl⟩ := Prod.mk.inj hval
      clear hlt hval
      go_wp2
      go_ret2
      exact ⟨rfl, hb⟩
end Go.Proofs.YtbfnlgmhfhaglaaGreatDoor

/- The reference of utf: what abridgerref1.Next and abridgerref1.Valid return, for any bytes and any place. -/
namespace Go.Proofs.YtbfnlgmhfhaglaaGreatDoor
open Go.RowKit
set_option linter.unusedVariables false

end Go.Proofs.YtbfnlgmhfhaglaaGreatDoor
