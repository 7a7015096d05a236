/- UTF-8: what utf.Next returns, for any bytes and any place. -/
import Derived.Test.YtbmnmnfdlajgnaaDoorUPut
namespace Go.Proofs.YtbmnmnfdlajgnaaDoor
open Go.RowKit

/-- Go's own tables of UTF-8. -/
def Tabs (w : World) : Prop := Lib.Utf8Tabs 1 2 w
theorem Tabs.keep {w w' : World} (h : Tabs w) (hb : Below w.heap.size w w') : Tabs w' := by
  obtain ⟨h1, h2⟩ := h
  refine ⟨fun c hc => ?_, fun i hi => ⟨?_, ?_⟩⟩
  · rw [hb.cell (World.block_lt_of_cell? w _ (h1 c hc))]; exact h1 c hc
  · rw [hb.cell (World.block_lt_of_cell? w _ (h2 i hi).1)]; exact (h2 i hi).1
  · rw [hb.cell (World.block_lt_of_cell? w _ (h2 i hi).2)]; exact (h2 i hi).2

theorem decode_any (l : List UInt8) (b off n cap : Nat) (w : World) (hT : Tabs w) (hn : l.length = n) (h0 : 0 < l.length)
    (hp : ∀ j (h : j < l.length), w.cell? ⟨b, off + j, none⟩ = some (.int .u8 (l[j].toNat : Int))) :
    Calls Tryd.prog 54 #[.slice (some ⟨b, off, none⟩) n cap] w fun e w' => e = .returned (.tuple #[.int .i32 ((M.dec l).1 : Int), .int .i64 ((M.dec l).2 : Int)]) ∧ Below w.heap.size w w' := by
  subst hn
  have hs : (ByteArray.mk l.toArray).size = l.length := rfl
  have hg : ∀ j, ((ByteArray.mk l.toArray).get! j).toNat = M.byte l j := fun j => by
    unfold M.byte
    simp [ByteArray.get!, List.getD]
    rfl
  have := Tryd.utf8_DecodeRune (ByteArray.mk l.toArray) b off cap w hT (fun j hj => by
    rw [hg j]
    have hj' : j < l.length := hj
    rw [hp j hj']
    simp [M.byte, hj'])
  rw [hs] at this
  refine this.mono ?_
  rintro e w' ⟨rfl, hb⟩
  refine ⟨?_, hb⟩
  have e1 : Lib.decodeGo (ByteArray.mk l.toArray) = M.dec l := by
    unfold Lib.decodeGo
    rw [if_neg (by rw [hs]; omega), Lib.decode_at, hs, hg, hg, hg, hg]
    rfl
  rw [e1]

set_option maxHeartbeats 400000 in
theorem next_any (v : Value) (l : List UInt8) (p : Int) (r : Int × Int × Bool) (w : World) (hT : Tabs w) (hv : Bs w v l) (hl : l.length ≤ 4294967296) (hr : M.nextAt l p = r) :
    Calls Tryd.prog 39 #[v, .int .i64 p] w fun e w' => e = .returned (tri r) ∧ Below w.heap.size w w' := by
  subst hr
  obtain ⟨a, cap, rfl, h1, h2, h3⟩ := hv
  unfold M.nextAt
  by_cases ho : p < 0 ∨ (l.length : Int) ≤ p
  · rw [if_pos ho]
    rcases ho with ho | ho
    · go_enter Tryd.func39, Tryd.ntmps39
      go_wp2
      go_ret3
      exact ⟨rfl, Below.refl _ _⟩
    · by_cases h0 : p < 0
      all_goals
        go_enter Tryd.func39, Tryd.ntmps39
        go_wp2
        go_ret3
        exact ⟨rfl, Below.refl _ _⟩
  · rw [if_neg ho]
    obtain ⟨k, rfl⟩ : ∃ k : Nat, p = k := ⟨p.toNat, by omega⟩
    have hk : k < l.length := by omega
    rw [Int.toNat_natCast]
    obtain ⟨b, off, rfl, hb, hc⟩ := h3 (by omega)
    have hd := decode_any (l.drop k) b (off + k) (l.length - k) (cap - k) w hT (by simp) (by simp; omega) (fun j hj => by
      rw [Nat.add_assoc, hc (k + j) (by simp at hj; omega)]; simp)
    have hcap : cap ≠ k := by omega
    clear ho h3 hc
    unfold M.nx
    obtain ⟨R, K, hRK⟩ : ∃ R K, M.dec (l.drop k) = (R, K) := ⟨_, _, rfl⟩
    have hK := M.dec_width (l.drop k)
    have hR := M.dec_rune (l.drop k)
    rw [hRK] at hd hK hR ⊢
    simp only at hd hK hR ⊢
    have HRK := Lib.hid hRK
    have Hd := Lib.hid hd
    clear hRK hd
    by_cases hbad : (R, K) = (65533, 1)
    · rw [if_pos hbad]
      simp only [Prod.mk.injEq] at hbad
      obtain ⟨rfl, rfl⟩ := hbad
      go_enter Tryd.func39, Tryd.ntmps39
      go_wp2_with fail
      refine Hd.out.mono ?_
      rintro e w' ⟨rfl, hbl⟩
      go_wp2
      go_ret3
      exact ⟨rfl, hbl⟩
    · rw [if_neg hbad]
      by_cases hR0 : R = 65533
      · have hK1 : ¬ K = 1 := fun h => hbad (by rw [hR0, h])
        have q1 : ((R : Int) == 65533) = true := by rw [beq_iff_eq]; omega
        have q2 : ((K : Int) == 1) = false := by rw [beq_eq_false_iff_ne]; omega
        clear hbad hK1 hR0
        go_enter Tryd.func39, Tryd.ntmps39
        go_wp2_with fail
        refine Hd.out.mono ?_
        rintro e w' ⟨rfl, hbl⟩
        go_wp2
        go_ret3
        exact ⟨rfl, hbl⟩
      · have q1 : ((R : Int) == 65533) = false := by rw [beq_eq_false_iff_ne]; omega
        clear hbad hR0
        go_enter Tryd.func39, Tryd.ntmps39
        go_wp2_with fail
        refine Hd.out.mono ?_
        rintro e w' ⟨rfl, hbl⟩
        go_wp2
        go_ret3
        exact ⟨rfl, hbl⟩

end Go.Proofs.YtbmnmnfdlajgnaaDoor
