/- Texts of ours in one: ZUc. -/
import Derived.Test.YtlobinjdgcidmaaGreatDoorQs03
import Derived.Test.YtlobinjdgcidmaaGreatDoorQs04
import Derived.Test.YtlobinjdgcidmaaGreatDoorQs02
import Derived.Test.YtlobinjdgcidmaaGreatDoorQs07
import Derived.Test.YtlobinjdgcidmaaGreatDoorQs01
import Derived.Deep.DeepCutAuto
import Derived.WalkLawsBesides
/- jparse.Units of the program: numbered, escape, element. -/
namespace Go.Proofs.YtlobinjdgcidmaaGreatDoor
open Go.RowKit
set_option linter.unusedVariables false
set_option linter.unusedSimpArgs false

structure TabX (w : World) : Prop where
  tab : Tabs w
  err : ∃ ev, w.cell? ⟨4, 0, none⟩ = some ev ∧ (ev = .nilIface ∨ ∃ te pe, ev = .iface te pe)
theorem TabX.keep {w w' : World} (h : TabX w) (hb : Below w.heap.size w w') : TabX w' := by
  obtain ⟨h1, ev, h2, h3⟩ := h
  exact ⟨h1.keep hb, ev, by rw [hb.cell (World.block_lt_of_cell? w _ h2)]; exact h2, h3⟩
theorem hexV_C (c : UInt8) : (M.hexC c < 16 ↔ 0 ≤ M.hexV c) ∧ (M.hexC c < 16 → M.hexC c = (M.hexV c).toNat) := by
  have := c.toNat_lt
  unfold M.hexC M.hexV
  repeat' split
  all_goals constructor <;> omega
theorem four_of (v : List UInt8) (h : 4 ≤ v.length) : v.take 4 = [v.getD 0 0, v.getD 1 0, v.getD 2 0, v.getD 3 0] := by
  match v, h with
  | a :: b :: c :: d :: r, _ => rfl
theorem hexCs_four (v : List UInt8) (h : M.hex4ok v = true) : M.hexCs (v.take 4) = M.hex4 v := by
  rw [four_of v (M.hex4ok_len v h)]
  unfold M.hex4ok M.hexOk at h
  simp only [Bool.and_eq_true, decide_eq_true_eq] at h
  unfold M.hexCs M.hex4 M.hexN
  simp only [List.foldl_cons, List.foldl_nil]
  rw [(hexV_C _).2 ((hexV_C _).1.2 h.1.1.1), (hexV_C _).2 ((hexV_C _).1.2 h.1.1.2), (hexV_C _).2 ((hexV_C _).1.2 h.1.2), (hexV_C _).2 ((hexV_C _).1.2 h.2)]
  omega
theorem hex_bad (v : List UInt8) (hl : 4 ≤ v.length) (h : M.hex4ok v = false) : ∃ g, g < 4 ∧ (∀ k, k < g → M.hexC (v.getD k 0) < 16) ∧ ¬ M.hexC (v.getD g 0) < 16 := by
  by_cases h0 : M.hexC (v.getD 0 0) < 16
  · by_cases h1 : M.hexC (v.getD 1 0) < 16
    · by_cases h2 : M.hexC (v.getD 2 0) < 16
      · by_cases h3 : M.hexC (v.getD 3 0) < 16
        · exfalso
          have : M.hex4ok v = true := by
            unfold M.hex4ok M.hexOk
            simp only [Bool.and_eq_true, decide_eq_true_eq]
            exact ⟨⟨⟨(hexV_C _).1.1 h0, (hexV_C _).1.1 h1⟩, (hexV_C _).1.1 h2⟩, (hexV_C _).1.1 h3⟩
          rw [this] at h; cases h
        · exact ⟨3, by omega, fun k hk => (by
            have : k = 0 ∨ k = 1 ∨ k = 2 := by omega
            rcases this with rfl | rfl | rfl <;> assumption), h3⟩
      · exact ⟨2, by omega, fun k hk => (by
          have : k = 0 ∨ k = 1 := by omega
          rcases this with rfl | rfl <;> assumption), h2⟩
    · exact ⟨1, by omega, fun k hk => (by
        have : k = 0 := by omega
        subst this; assumption), h1⟩
  · exact ⟨0, by omega, fun k hk => absurd hk (by omega), h0⟩
theorem bs_part {w : World} {b off n cap : Nat} {l : List UInt8} (h : Bs w (.slice (some ⟨b, off, none⟩) n cap) l) (a e : Nat) (he : a ≤ e) (hn : e ≤ n) : Bs w (.slice (some ⟨b, off + a, none⟩) (e - a) (cap - a)) ((l.drop a).take (e - a)) := by
  obtain ⟨a', cap', e', h1, h2, h3⟩ := h
  simp only [Value.slice.injEq] at e'
  obtain ⟨rfl, rfl, rfl⟩ := e'
  have hlen : ((l.drop a).take (e - a)).length = e - a := by simp; omega
  refine ⟨_, _, by rw [hlen], by rw [hlen]; omega, by omega, fun h0 => ?_⟩
  rw [hlen] at h0
  obtain ⟨b', off', e2, hb, hc⟩ := h3 (by omega)
  simp only [Option.some.injEq, Addr.mk.injEq, and_true] at e2
  obtain ⟨rfl, rfl⟩ := e2
  refine ⟨_, _, rfl, hb, fun j hj => ?_⟩
  rw [hlen] at hj
  rw [Nat.add_assoc, hc (a + j) (by omega)]
  simp
theorem bs_open {w : World} {v : Value} {l : List UInt8} (h : Bs w v l) (h0 : 0 < l.length) : ∃ b off cap, v = .slice (some ⟨b, off, none⟩) l.length cap ∧ l.length ≤ cap ∧ cap ≤ maxLen ∧ b < w.heap.size ∧ ∀ j, j < l.length → w.cell? ⟨b, off + j, none⟩ = some (.int .u8 ((l.getD j 0).toNat : Int)) := by
  obtain ⟨a, cap, rfl, h1, h2, h3⟩ := h
  obtain ⟨b, off, rfl, hb, hc⟩ := h3 h0
  exact ⟨b, off, cap, rfl, h1, h2, hb, fun j hj => by rw [hc j hj]; simp [List.getD, hj]⟩
set_option maxRecDepth 100000 in
set_option maxHeartbeats 2000000 in
theorem puz_good (l : List UInt8) (w : World) (hl : l.length = 4) (h : ∀ k, k < 4 → M.hexC (l.getD k 0) < 16) :
    Calls Tryz.prog 136 #[.string (bytes l), .int .i64 16, .int .i64 16] w fun e w' => e = .returned (.tuple #[.int .u64 (M.hexCs l : Int), .nilIface]) ∧ Below w.heap.size w w' := by
  have P := Lib.hid (zpu_in l w (by intro e; rw [e] at hl; cases hl) (by omega) l.length (Nat.le_refl _) (fun k hk => h k (by omega)) (fun h => absurd h (Nat.lt_irrefl _)) (.tuple #[.int .u64 (M.hexCs l : Int), .nilIface]) (by rw [if_pos rfl]))
  obtain ⟨S, hS⟩ : ∃ S, bytes l = S := ⟨_, rfl⟩
  rw [hS] at P ⊢
  clear h hl hS
  go_enter Tryz.func136, Tryz.ntmps136
  go_wp2_with fail
  refine P.out.mono ?_
  rintro e w1 ⟨rfl, hb1⟩
  have HB := Lib.hid hb1
  clear hb1
  go_wp2
  go_ret2
  exact ⟨rfl, HB.out⟩
set_option maxRecDepth 100000 in
set_option maxHeartbeats 2000000 in
theorem puz_bad (l : List UInt8) (w : World) (hT : TabX w) (hl : l.length = 4) (g : Nat) (hg : g < 4) (h : ∀ k, k < g → M.hexC (l.getD k 0) < 16) (hbad : ¬ M.hexC (l.getD g 0) < 16) :
    Calls Tryz.prog 136 #[.string (bytes l), .int .i64 16, .int .i64 16] w fun e w' => (∃ T x, e = .returned (.tuple #[.int .u64 0, .iface T x])) ∧ Below w.heap.size w w' := by
  have P := Lib.hid (zpu_in l w (by intro e; rw [e] at hl; cases hl) (by omega) g (by omega) h (fun _ => hbad) (.tuple #[.int .u64 0, .iface 182 (.int .i64 2)]) (by rw [if_neg (by omega)]))
  have HT := Lib.hid hT
  have hsz : (bytes l).size ≤ 281474976710656 := by rw [bytes_size]; omega
  obtain ⟨S, hS⟩ : ∃ S, bytes l = S := ⟨_, rfl⟩
  rw [hS] at P hsz ⊢
  have HZ := Lib.hid hsz
  clear h hl hS hbad hT hsz
  go_enter Tryz.func136, Tryz.ntmps136
  go_wp2_with fail
  refine P.out.mono ?_
  rintro e w1 ⟨rfl, hb1⟩
  obtain ⟨ev, he1, he2⟩ := (HT.out.keep hb1).err
  have TE := Lib.hid (Tryz.strconv_toError_syntax ⟨#[80, 97, 114, 115, 101, 85, 105, 110, 116]⟩ S 16 16 ev w1 HZ.out he1 he2)
  have HB := Lib.hid hb1
  clear hb1 he1 he2
  go_wp2_with fail
  refine TE.out.mono ?_
  rintro e w2 ⟨N, rfl, hN, hc, hb2⟩
  have HB2 := Lib.hid (HB.out.trans (hb2.mono HB.out.size))
  clear hb2 hN hc
  go_wp2
  go_ret2
  exact ⟨⟨_, _, rfl⟩, HB2.out⟩
def ElQ (r : Nat × Nat) (w : World) (e : Ending) (w' : World) : Prop := e = .returned (.tuple #[.int .i64 (r.1 : Int), .int .i64 (r.2 : Int)]) ∧ Below w.heap.size w w'
set_option maxRecDepth 100000 in
set_option maxHeartbeats 2000000 in
theorem numberedz_any (v : List UInt8) (b off n cap : Nat) (w : World) (hT : TabX w) (hn : v.length + 2 = n) (hb : Bs w (.slice (some ⟨b, off, none⟩) n cap) (92 :: 117 :: v)) (hl : n ≤ 1048576) :
    Calls Tryz.prog 122 #[.slice (some ⟨b, off, none⟩) n cap] w (ElQ (M.elS (92 :: 117 :: v)) w) := by
  unfold ElQ
  obtain ⟨ca, cb⟩ : n ≤ cap ∧ cap ≤ maxLen := by
    obtain ⟨a', c', e, h1, h2, _⟩ := hb
    simp only [Value.slice.injEq] at e
    obtain ⟨rfl, rfl, rfl⟩ := e
    exact ⟨by simpa [← hn] using h1, h2⟩
  rw [M.elS_hex]
  have hlen : (92 :: 117 :: v : List UInt8).length = n := by simp; omega
  rw [hlen]
  by_cases h6 : n < 6
  · rw [if_pos h6]
    have h6' : (n : Int) < 6 := by omega
    have N0 : (0 : Int) ≤ n := by omega
    clear hT hb hn hlen h6
    go_enter Tryz.func122, Tryz.ntmps122
    go_wp2
    go_ret2
    exact ⟨rfl, Below.refl _ _⟩
  · rw [if_neg h6]
    have hp := bs_part hb 2 6 (by omega) (by omega)
    have e4 : ((92 :: 117 :: v).drop 2).take (6 - 2) = v.take 4 := rfl
    rw [e4] at hp
    have hcv := conv_bs hp
    have h4 : 4 ≤ v.length := by omega
    have hgd : ∀ k, k < 4 → (v.take 4).getD k 0 = v.getD k 0 := fun k hk => by simp only [List.getD]; rw [List.getElem?_take_of_lt hk]
    simp only [Nat.reduceSub] at hcv
    have m1 : (6 : Int) ≤ n := by omega
    have m2 : (n : Int) ≤ cap := by omega
    have m3 : (cap : Int) ≤ maxLen := by omega
    have m4 : ¬ (cap : Int) - 2 = 0 := by omega
    have q1 : ¬ cap - 2 = 0 := by omega
    cases hk : M.hex4ok v with
    | true =>
      rw [if_pos rfl]
      have P := Lib.hid (puz_good (v.take 4) w (by simp; omega) (fun k hk' => by
        rw [hgd k hk']
        unfold M.hex4ok M.hexOk at hk
        simp only [Bool.and_eq_true, decide_eq_true_eq] at hk
        have : k = 0 ∨ k = 1 ∨ k = 2 ∨ k = 3 := by omega
        rcases this with rfl | rfl | rfl | rfl
        · exact (hexV_C _).1.2 hk.1.1.1
        · exact (hexV_C _).1.2 hk.1.1.2
        · exact (hexV_C _).1.2 hk.1.2
        · exact (hexV_C _).1.2 hk.2))
      rw [hexCs_four v hk] at P
      have x1 := M.hex4_le v
      obtain ⟨S, hS⟩ : ∃ S, bytes (v.take 4) = S := ⟨_, rfl⟩
      rw [hS] at P hcv
      obtain ⟨X, hX⟩ : ∃ X : Int, ((M.hex4 v : Nat) : Int) = X := ⟨_, rfl⟩
      simp only
      rw [hX] at P ⊢
      have X0 : 0 ≤ X := by omega
      have X1 : X ≤ 65535 := by omega
      clear hT hb hn hlen hk hX x1 hS hgd hp e4
      go_enter Tryz.func122, Tryz.ntmps122
      go_wp2_with fail
      refine P.out.mono ?_
      rintro e w1 ⟨rfl, hb1⟩
      have HB := Lib.hid hb1
      clear hb1
      go_wp2
      go_ret2
      exact ⟨rfl, HB.out⟩
    | false =>
      rw [if_neg (by simp)]
      obtain ⟨g, hg, hok, hbad⟩ := hex_bad v h4 hk
      have P := Lib.hid (puz_bad (v.take 4) w hT (by simp; omega) g hg (fun k hk' => by rw [hgd k (by omega)]; exact hok k hk') (by rw [hgd g hg]; exact hbad))
      obtain ⟨S, hS⟩ : ∃ S, bytes (v.take 4) = S := ⟨_, rfl⟩
      rw [hS] at P hcv
      clear hT hb hn hlen hk hS hgd hp e4 hok hbad
      go_enter Tryz.func122, Tryz.ntmps122
      go_wp2_with fail
      refine P.out.mono ?_
      rintro e w1 ⟨⟨T, x, rfl⟩, hb1⟩
      have HB := Lib.hid hb1
      clear hb1
      go_wp2
      go_ret2
      exact ⟨rfl, HB.out⟩
end Go.Proofs.YtlobinjdgcidmaaGreatDoor
