/- The laws of the input: 'same' of two lists that are one; 'alive' comes to true. -/
import Derived.Test.YtpnlkahebdipcaaDoorCTxt
import Derived.Deep.QuietTactic
import Derived.BigQuiet
import Derived.Lib.SlBytesConst
namespace Go.Proofs.YtpnlkahebdipcaaDoor
open Go.RowKit
set_option linter.unusedVariables false
set_option linter.unusedSimpArgs false

theorem below_drewN {B : Nat} {a w : World} (h : Below B a w) (n : Nat) : Below B a (w.drewN n) := ⟨h.os, h.tape, h.output, h.size, h.block⟩
set_option maxRecDepth 100000 in
set_option maxHeartbeats 4000000 in
theorem same_one (v u : Value) (l : List (Int × Int)) (w : World) (hv : Rs w v l) (hu : Rs w u l) (hl : l.length ≤ 4294967296) :
    Calls Tryd.prog 8 #[v, u] w fun e w' => e = .returned (.bool true) ∧ Below w.heap.size w w' := by
  obtain ⟨a, cap, rfl, h1, h2, h3⟩ := hv
  obtain ⟨a', cap', rfl, g1, g2, g3⟩ := hu
  rw [rvs_len] at h1 g1 ⊢
  obtain ⟨n, hn⟩ : ∃ n, l.length = n := ⟨_, rfl⟩
  have Hn := Lib.hid hn
  have H3 := Lib.hid h3
  have G3 := Lib.hid g3
  rw [hn] at h1 g1 hl ⊢
  clear h3 g3 hn
  go_enter Tryd.func8, Tryd.ntmps8
  go_wp2
  go_loopw [5] (fun iv wr => ∃ m q : Nat, iv = .int .i64 m ∧ m ≤ n ∧ wr = w.drewN q) (fun iv _ => n - (intOf iv).toNat)
  case atStart => exact ⟨0, 0, rfl, by omega, rfl⟩
  case round =>
    obtain ⟨m, q, rfl, hm, rfl⟩ := hrel
    by_cases hlt : m < n
    · obtain ⟨b, off, rfl, hb, hc⟩ := H3.out (by rw [rvs_len, Hn.out]; omega)
      obtain ⟨b', off', rfl, hb', hc'⟩ := G3.out (by rw [rvs_len, Hn.out]; omega)
      obtain ⟨c1, c2⟩ := rs_cells hc m (by rw [Hn.out]; exact hlt)
      obtain ⟨d1, d2⟩ := rs_cells hc' m (by rw [Hn.out]; exact hlt)
      obtain ⟨x, hx⟩ : ∃ x, (l[m]'(by rw [Hn.out]; exact hlt)).1 = x := ⟨_, rfl⟩
      obtain ⟨y, hy⟩ : ∃ x, (l[m]'(by rw [Hn.out]; exact hlt)).2 = x := ⟨_, rfl⟩
      rw [hx] at c1 d1
      rw [hy] at c2 d2
      have i1 : (0 : Int) ≤ m := by omega
      have i2 : (m : Int) < n := by omega
      clear hc hc' hx hy
      go_wp2
      go_quiet (fail)
      go_wp2
      go_roundw
      case rel => exact ⟨m + 1, _, by go_num, by omega, rfl⟩
      case measure => simp [intOf]; omega
    · obtain rfl : m = n := by omega
      clear hlt
      go_wp2
      go_ret
      exact ⟨rfl, below_drewN (Below.refl _ _) _⟩
theorem alive_rn : M.rn [97, 13, 10] 0 = [(97, 0), (10, 1)] := by
  have e1 : M.stepR [97, 13, 10] 0 = (97, 1) := by decide +kernel
  have e2 : M.stepR [97, 13, 10] 1 = (10, 2) := by decide +kernel
  rw [M.rn_in _ 0 (by decide), e1]
  show (97, ((0 : Nat) : Int)) :: M.rn _ 1 = _
  rw [M.rn_in _ 1 (by decide), e2]
  show (97, ((0 : Nat) : Int)) :: (10, ((1 : Nat) : Int)) :: M.rn _ 3 = _
  rw [M.rn_out _ 3 (by decide)]
  rfl
theorem alive_nil : M.rn [] 0 = [] := M.rn_out _ _ (by decide)
set_option maxRecDepth 100000 in
set_option maxHeartbeats 4000000 in
theorem alive_any (w : World) (hT : Tabs w) :
    Calls Tryd.prog 7 #[] w fun e w' => e = .returned (.bool true) ∧ Below w.heap.size w w' := by
  have kc := fun (w : World) (C : Array Value) (n c : Nat) => Lib.run_convert_bytes_const (P := Tryd.prog) w 22 5 C n c Tryd.underlying22 Tryd.underlying5
  have hb1 : Below w.heap.size w (w.alloc (.cells #[.int .u8 97, .int .u8 13, .int .u8 10] 5 (3, 4))) := (Below.refl _ _).alloc (Nat.le_refl _) _
  have R1 := Lib.hid (cruns_any _ [97, 13, 10] _ _ (hT.keep hb1) (bs_newm w [97, 13, 10] (3, 4) (by simp)) (by simp) alive_rn)
  have R2 := Lib.hid (fun W hW => cruns_any (.slice none 0 0) [] [] W hW (bs_nil W) (by simp) alive_nil)
  have HT := Lib.hid hT
  have Hb1 := Lib.hid hb1
  clear hT hb1
  go_enter Tryd.func7, Tryd.ntmps7
  go_wp2_with fail
  refine R1.out.mono ?_
  rintro e w2 ⟨v2, rfl, ho2, hb2⟩
  have c2 := Hb1.out.trans (hb2.mono Hb1.out.size)
  go_wp2_with fail
  refine (R2.out _ (HT.out.keep c2)).mono ?_
  rintro e w3 ⟨v3, rfl, ho3, hb3⟩
  have c3 := c2.trans (hb3.mono c2.size)
  have ho4 := OwnR.keep ho2 hb3
  have hrs : Rs w3 v2 [(97, 0), (10, 1)] := ho4.vs
  have T1 := Lib.hid (ctext_any v2 [(97, 0), (10, 1)] [97, 10] w3 hrs (by simp) (by decide +kernel))
  obtain ⟨a2, cap2, rfl, k1, k2, k3⟩ := hrs
  obtain ⟨b, off, rfl, hbk, hcl⟩ := k3 (by simp [rvs])
  obtain ⟨d1, d2⟩ := rs_cells hcl 1 (by simp)
  have e3 : ∃ a, v3 = .slice a 0 0 ∨ ∃ c, v3 = .slice a 0 c := by
    obtain ⟨a3, c3, rfl, _⟩ := ho3.vs
    exact ⟨a3, .inr ⟨c3, rfl⟩⟩
  obtain ⟨a3, hv3⟩ := e3
  have hv3' : ∃ c, v3 = .slice a3 0 c := by rcases hv3 with h | h; exact ⟨0, h⟩; exact h
  obtain ⟨cc, rfl⟩ := hv3'
  clear ho2 ho3 ho4 hb2 hb3 c2 hcl k3 hv3
  go_wp2_with fail
  refine T1.out.mono ?_
  rintro e w4 ⟨rfl, hb4⟩
  have c4 := c3.trans (hb4.mono c3.size)
  clear hb4 c3
  go_wp2
  go_ret
  exact ⟨by simp [bytes], c4⟩
end Go.Proofs.YtpnlkahebdipcaaDoor
