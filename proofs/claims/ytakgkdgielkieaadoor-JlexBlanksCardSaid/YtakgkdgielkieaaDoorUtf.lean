/- UTF-8: what utf.Valid and utf.Units return, for any bytes and any number. -/
import Derived.Test.YtakgkdgielkieaaDoorUNx
namespace Go.Proofs.YtakgkdgielkieaaDoor
open Go.RowKit


set_option maxHeartbeats 400000 in
theorem valid_any (v : Value) (l : List UInt8) (q : Nat) (ok : Bool) (w : World) (hT : Tabs w) (hv : Bs w v l) (hl : l.length ≤ 4294967296) (hr : M.validAll l = (q, ok)) :
    Calls Tryd.prog 12 #[v] w fun e w' => e = .returned (.tuple #[.int .i64 q, .bool ok]) ∧ Below w.heap.size w w' := by
  have hv2 := hv
  obtain ⟨a, cap, rfl, h1, h2, h3⟩ := hv2
  clear h3
  have Hv := Lib.hid hv
  have HT := Lib.hid hT
  have Hr := Lib.hid hr
  clear hv hT hr
  go_enter Tryd.func12, Tryd.ntmps12
  go_wp2
  go_loopw [4] (fun pv wr => ∃ (f p : Nat), pv = .int .i64 p ∧ p ≤ l.length ∧ l.length ≤ p + f ∧ M.valid f l p = (q, ok) ∧ Below w.heap.size w wr) (fun pv _ => l.length - (intOf pv).toNat)
  case atStart => exact ⟨l.length, 0, rfl, by omega, by omega, Hr.out, Below.refl _ _⟩
  case round =>
    obtain ⟨f, p, rfl, hp, hf, hval, hb⟩ := hrel
    have hTr := HT.out.keep hb
    have hvr := Hv.out.keep hb
    by_cases hlt : p < l.length
    · have hn := M.dec_width (l.drop p)
      have hle := M.dec_le (l.drop p) (by simp; omega)
      rw [List.length_drop] at hle
      have hnx : M.nextAt l p = M.nx (l.drop p) := by unfold M.nextAt; rw [if_neg (by omega)]; simp
      by_cases hbad : M.dec (l.drop p) = (65533, 1)
      · have e1 : M.nx (l.drop p) = (65533, 1, false) := by unfold M.nx; rw [if_pos hbad]
        rw [M.valid_bad f l p hlt (by omega) (by rw [e1])] at hval
        obtain ⟨rfl, rfl⟩ := Prod.mk.inj hval
        have Hnx := Lib.hid (hnx.trans e1)
        clear hnx e1 hbad hval hn hle
        go_wp2_with fail
        refine (next_any _ l _ _ _ hTr hvr hl Hnx.out).mono ?_
        rintro e w2 ⟨rfl, hb2⟩
        unfold tri
        go_wp2
        go_ret2
        exact ⟨rfl, hb.trans (hb2.mono hb.size)⟩
      · obtain ⟨R, K, hRK⟩ : ∃ R K, M.dec (l.drop p) = (R, K) := ⟨_, _, rfl⟩
        have e1 : M.nx (l.drop p) = ((R : Int), (K : Int), true) := by unfold M.nx; rw [if_neg hbad, hRK]
        rw [M.valid_good f l p hlt (by omega) (by rw [e1]), hRK] at hval
        rw [hRK] at hn hle
        simp only at hval hn hle
        have Hval := Lib.hid hval
        have Hnx := Lib.hid (hnx.trans e1)
        clear hnx e1 hbad hval hRK
        go_wp2_with fail
        refine (next_any _ l _ _ _ hTr hvr hl Hnx.out).mono ?_
        rintro e w2 ⟨rfl, hb2⟩
        unfold tri
        have hb3 := hb.trans (hb2.mono hb.size)
        clear hb hb2 hTr hvr
        go_wp2
        go_roundw
        case rel => exact ⟨f - 1, p + K, by go_num, by omega, by omega, Hval.out, hb3⟩
        case measure => simp [intOf]; omega
    · obtain rfl : p = l.length := by omega
      rw [M.valid_end f l _ (Nat.le_refl _)] at hval
      obtain ⟨rfl, rfl⟩ := Prod.mk.inj hval
      clear hlt hval
      go_wp2
      go_ret2
      exact ⟨rfl, hb⟩
end Go.Proofs.YtakgkdgielkieaaDoor
