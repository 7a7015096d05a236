/- The walk of CinputJoins: what the call comes to, in any memory in which the tables are laid. -/
import Derived.Test.YtpnlkahebdipcaaDoorTied
import Derived.WalkKit
import Derived.ProofKit
import Derived.OpenShut
import Derived.ShutString
import Derived.ChangeOld
import Derived.Below
import Derived.Test.YtpnlkahebdipcaaDoorCLaw
import Derived.Test.YtpnlkahebdipcaaDoorCMath3
import Derived.Test.YtpnlkahebdipcaaDoorUConv
import Derived.Test.YtpnlkahebdipcaaDoorCStep
import Derived.Test.YtpnlkahebdipcaaDoorBulk
namespace Go.Proofs.YtpnlkahebdipcaaDoor.cinputJoins
open Go.ChangeShapes Go.WideShapes Go.ChangeAt Go.RowKit
open Go.ChangeMaps (open_string shut_string)
set_option linter.unusedVariables false

def IsRow (k : IntKind) (w : World) (a : Option Addr) (len cap : Nat) (zs : List Int) : Prop :=
  (a = none ∧ len = 0 ∧ cap = 0 ∧ zs = []) ∨
  ∃ x, a = some x ∧ len ≤ cap ∧ cap ≤ maxLen ∧ zs.length = cap ∧ (∀ i, i < zs.length → w.cell? (x.add i) = some (.int k (zs.getD i 0))) ∧ ∀ n ∈ zs, (Lit.int k n).wf = true

set_option linter.unusedSimpArgs false
theorem ownR_row {B : Nat} {w : World} {v : Value} {l : List (Int × Int)} (h : OwnR B w v l) : ∀ k, v.ownBlock = some k → B ≤ k ∧ k < w.heap.size := World.ownsRow.lt h.1
theorem rs_own {B : Nat} {w : World} {v : Value} {l : List (Int × Int)} (h : OwnR B w v l) {n : Nat} (hn : l.length = n) :
    ∃ a cap, v = .slice a n cap ∧ n ≤ cap ∧ cap ≤ maxLen ∧ (0 < n → ∃ b, a = some ⟨b, 0, none⟩ ∧ B ≤ b ∧ b < w.heap.size ∧ ∀ j (hj : j < l.length), w.cell? ⟨b, j * 2, none⟩ = some (.int .i64 (l[j]).1) ∧ w.cell? ⟨b, j * 2 + 1, none⟩ = some (.int .i64 (l[j]).2)) := by
  have hlt := ownR_row h
  obtain ⟨a, cap, rfl, h1, h2, h3⟩ := rs_open h.vs hn
  refine ⟨a, cap, rfl, h1, h2, fun h0 => ?_⟩
  obtain ⟨b, off, rfl, hb, hc⟩ := h3 h0
  obtain ⟨⟨_, ⟨hz, _⟩ | ⟨g, c2, cur, hz, _⟩⟩, _⟩ := h
  · simp at hz
  · simp only [Value.slice.injEq, Option.some.injEq, Addr.mk.injEq, and_true] at hz
    obtain ⟨⟨rfl, rfl⟩, _⟩ := hz
    refine ⟨b, rfl, (hlt b rfl).1, hb, fun j hj => ?_⟩
    have := hc j hj
    rwa [Nat.zero_add] at this
theorem OwnR.low {B B2 : Nat} {w : World} {v : Value} {l : List (Int × Int)} (h : OwnR B w v l) (hb : B2 ≤ B) : OwnR B2 w v l := by
  obtain ⟨⟨h1, h2 | ⟨g, cap, cur, e, h3, h4⟩⟩, h5⟩ := h
  · exact ⟨⟨h1, .inl h2⟩, h5⟩
  · exact ⟨⟨h1, .inr ⟨g, cap, cur, e, Nat.le_trans hb h3, h4⟩⟩, h5⟩
def JoinPost (w : World) (e : Ending) (w' : World) : Prop := e = .returned (.bool true) ∧ Below w.heap.size w w'
set_option maxRecDepth 100000 in
set_option maxHeartbeats 8000000 in
theorem walk_u (a0 : Option Addr) (len0 cap0 : Nat) (z0 : List Int) (a1 : Option Addr) (len1 cap1 : Nat) (z1 : List Int) (w : World) (w0 : IsRow .u8 w a0 len0 cap0 z0) (w1 : IsRow .u8 w a1 len1 cap1 z1) (u0 : len0 ≤ 1048576) (u1 : len1 ≤ 1048576) (hT : Tabs w) :
    Calls Tryd.prog 6 #[.slice a0 len0 cap0, .slice a1 len1 cap1] w fun e w' => e = .returned (.bool true) ∧ Below w.heap.size w w' := by
  obtain ⟨la, hla, b0, n0⟩ := row_bs w0
  obtain ⟨lb, hlb, b1, n1⟩ := row_bs w1
  clear w0 w1
  have al := Lib.hid (alive_any w hT)
  have B0 := Lib.hid b0
  have B1 := Lib.hid b1
  have HT := Lib.hid hT
  obtain ⟨⟨q, vok⟩, hval⟩ : ∃ x, M.validAll la = x := ⟨_, rfl⟩
  have V1 := Lib.hid (fun W hB => refvalid_any (.slice a0 len0 cap0) la q vok W hB (by omega) hval)
  by_cases h0 : 200 < len0
  · have h0' : (200 : Int) < len0 := by omega
    clear b0 b1 hT hval hla hlb n0 n1
    go_enter Tryd.func6, Tryd.ntmps6
    go_wp2_with fail
    refine al.out.mono ?_
    rintro e w1 ⟨rfl, hb⟩
    go_wp2_with fail
    refine (V1.out _ (B0.out.keep hb)).mono ?_
    rintro e w' ⟨rfl, rfl⟩
    go_wp2
    go_ret
    exact ⟨rfl, hb⟩
  by_cases h1 : 200 < len1
  · have h1' : (200 : Int) < len1 := by omega
    clear b0 b1 hT hval hla hlb n0 n1
    go_enter Tryd.func6, Tryd.ntmps6
    go_wp2_with fail
    refine al.out.mono ?_
    rintro e w1 ⟨rfl, hb⟩
    go_wp2_with fail
    refine (V1.out _ (B0.out.keep hb)).mono ?_
    rintro e w' ⟨rfl, rfl⟩
    go_wp2
    go_ret
    exact ⟨rfl, hb⟩
  have k0 : len0 ≤ 200 := by omega
  have k1 : len1 ≤ 200 := by omega
  cases vok with
  | false =>
    clear b0 b1 hT hval hla hlb n0 n1 h0 h1
    go_enter Tryd.func6, Tryd.ntmps6
    go_wp2_with fail
    refine al.out.mono ?_
    rintro e w1 ⟨rfl, hb⟩
    go_wp2_with fail
    refine (V1.out _ (B0.out.keep hb)).mono ?_
    rintro e w' ⟨rfl, rfl⟩
    go_wp2
    go_ret
    exact ⟨rfl, hb⟩
  | true =>
    have hvt : (M.validAll la).2 = true := by rw [hval]
    have b0' := b0
    obtain ⟨ad, cp, he, m1, m2, m3⟩ := b0'
    simp only [Value.slice.injEq] at he
    obtain ⟨rfl, hq, rfl⟩ := he
    clear hq
    by_cases h13 : 0 < len0 ∧ la.getD (len0 - 1) 0 = 13
    · obtain ⟨p0, p1⟩ := h13
      obtain ⟨b, off, rfl, hbk, hc⟩ := m3 (by omega)
      have hl := hc (len0 - 1) (by omega)
      rw [show la[len0 - 1]'(by omega) = 13 by rw [← p1]; simp [show len0 - 1 < la.length by omega]] at hl
      have i1 : (0 : Int) < len0 := by omega
      have i2 : (0 : Int) ≤ (len0 : Int) - 1 := by omega
      have i3 : ((len0 : Int) - 1).toNat = len0 - 1 := by omega
      have i4 : (len0 : Int) - 1 < len0 := by omega
      clear b0 b1 hT hval hla hlb n0 n1 h0 h1 m3 hc p1 hvt
      go_enter Tryd.func6, Tryd.ntmps6
      go_wp2_with fail
      refine al.out.mono ?_
      rintro e w1 ⟨rfl, hb⟩
      have hlr := hb.cell (p := ⟨b, off + (len0 - 1), none⟩) hbk
      rw [hl] at hlr
      go_wp2_with fail
      refine (V1.out _ (B0.out.keep hb)).mono ?_
      rintro e w' ⟨rfl, rfl⟩
      go_wp2
      go_ret
      exact ⟨rfl, hb⟩
    · have h13' : 0 < la.length → la.getD (la.length - 1) 0 ≠ 13 := by rw [hla]; exact fun h1 h2 => h13 ⟨h1, h2⟩
      have hjoin := M.rn_join la lb la.length 0 (by omega) (by omega) (by rw [List.drop_zero]; exact hvt) h13'
      obtain ⟨ra, hra⟩ : ∃ x, M.rn la 0 = x := ⟨_, rfl⟩
      obtain ⟨rb, hrb⟩ : ∃ x, M.rn lb 0 = x := ⟨_, rfl⟩
      rw [hra, hrb, hla] at hjoin
      have hal := M.rn_len la la.length 0 (by omega)
      have hbl := M.rn_len lb lb.length 0 (by omega)
      rw [hra] at hal
      rw [hrb] at hbl
      have hat := M.rn_at lb lb.length 0 (by omega)
      rw [hrb] at hat
      have R1 := Lib.hid (fun W (hW : Tabs W) (hB : Bs W (.slice a0 len0 cap0) la) => cruns_any _ la ra W hW hB (by omega) hra)
      have R2 := Lib.hid (fun W (hW : Tabs W) (hB : Bs W (.slice a1 len1 cap1) lb) => cruns_any _ lb rb W hW hB (by omega) hrb)
      have R3 := Lib.hid (fun v W (hW : Tabs W) hB => cruns_any v (la ++ lb) _ W hW hB (by simp; omega) hjoin)
      have S1 := Lib.hid (fun v u W hv hu => same_one v u (ra ++ rb.map (M.sh len0)) W hv hu (by simp; omega))
      have tst : (decide ((0 : Int) < len0) = false ∧ decide (0 < len0) = false) ∨ (decide ((0 : Int) < len0) = true ∧ ∃ b off C, a0 = some ⟨b, off, none⟩ ∧ b < w.heap.size ∧ w.cell? ⟨b, off + (len0 - 1), none⟩ = some (.int .u8 C) ∧ (C == 13) = false) := by
        by_cases hp : 0 < len0
        · right
          obtain ⟨b, off, rfl, hbk, hc⟩ := m3 (by omega)
          refine ⟨by simp; omega, b, off, _, rfl, hbk, hc (len0 - 1) (by omega), ?_⟩
          rw [beq_eq_false_iff_ne]
          intro hh
          apply h13' (by omega)
          rw [hla]
          apply UInt8.toNat_inj.1
          show _ = 13
          have : la.getD (len0 - 1) 0 = la[len0 - 1]'(by omega) := by simp [show len0 - 1 < la.length by omega]
          rw [this]; omega
        · left; constructor <;> (simp; omega)
      obtain ⟨N, hN⟩ : ∃ N, rb.length = N := ⟨_, rfl⟩
      have HN := Lib.hid hN
      have Hat := Lib.hid hat
      have Hla := Lib.hid hla
      have Hlb := Lib.hid hlb
      have N0 := Lib.hid n0
      have N1 := Lib.hid n1
      have ral : ra.length ≤ 200 := by omega
      have rbl : N ≤ 200 := by omega
      have i2 : 0 < len0 → (0 : Int) ≤ (len0 : Int) - 1 := by omega
      have i3 : ((len0 : Int) - 1).toNat = len0 - 1 := by omega
      clear b0 b1 hT hval hla hlb n0 n1 h0 h1 m3 hvt h13 h13' hjoin hra hrb hal hbl hat hN
      have q1 : decide ((200 : Int) < len0) = false := by simp; omega
      have q2 : decide ((200 : Int) < len1) = false := by simp; omega
      rcases tst with ⟨t1, t2⟩ | ⟨t1, b, off, C, rfl, hbk, hl, t2⟩
      all_goals
        go_enter Tryd.func6, Tryd.ntmps6
        go_wp2_with fail
        refine al.out.mono ?_
        rintro e w1 ⟨rfl, hb⟩
        first
          | (have hlr := hb.cell (p := ⟨b, off + (len0 - 1), none⟩) hbk
             rw [hl] at hlr
             have i1 : (0 : Int) < len0 := by simpa using t1
             have i4 := i2 (by omega)
             have i5 : (len0 : Int) - 1 < len0 := by omega)
          | skip
        go_wp2_with fail
        refine (V1.out _ (B0.out.keep hb)).mono ?_
        rintro e w' ⟨rfl, rfl⟩
        go_wp2_with fail
        refine (R1.out _ (HT.out.keep hb) (B0.out.keep hb)).mono ?_
        rintro e w2 ⟨v2, rfl, ho2, hb2⟩
        have c2 := hb.trans (hb2.mono hb.size)
        clear hb2
        go_wp2_with fail
        refine (R2.out _ (HT.out.keep c2) (B1.out.keep c2)).mono ?_
        rintro e w3 ⟨v3, rfl, ho3, hb3⟩
        have c3 := c2.trans (hb3.mono c2.size)
        go_wp2_with fail
        have hx3 := OwnR.low (OwnR.keep ho2 hb3) hb.size
        have hxk := ownR_row ho2
        have hs23 := hb3.size
        obtain ⟨a3, cap3, rfl, m1, m2, m3⟩ := rs_own ho3 HN.out
        have M3 := Lib.hid m3
        have Hxk := Lib.hid hxk
        have Hx3 := Lib.hid hx3
        have Hb3 := Lib.hid hb3
        clear m3 hxk hx3 hb3 ho2 ho3 hb c2
        go_loopw [8, 10] (fun xv iv wr => ∃ i : Nat, iv = .int .i64 i ∧ i ≤ N ∧ OwnR w.heap.size wr xv (ra ++ (rb.take i).map (M.sh len0)) ∧ Below w.heap.size w wr ∧ w3.heap.size ≤ wr.heap.size ∧ (∀ k, w2.heap.size ≤ k → k < w3.heap.size → wr.heap[k]? = w3.heap[k]?) ∧ (∀ k, xv.ownBlock = some k → k < w2.heap.size ∨ w3.heap.size ≤ k)) (fun _ iv _ => N - (intOf iv).toNat)
        case atStart => exact ⟨0, rfl, by omega, by simpa using Hx3.out, c3, Nat.le_refl _, fun _ _ _ => rfl, fun k hk => .inl (Hxk.out k hk).2⟩
        case round =>
          obtain ⟨i, rfl, hi, hox, hbw, hsw, hblk, hown⟩ := hrel
          have Hblk := Lib.hid hblk
          have Hown := Lib.hid hown
          clear hblk hown
          by_cases hlt : i < N
          · have hir : i < rb.length := by rw [HN.out]; exact hlt
            obtain ⟨b3, rfl, hB3, hb3lt, hcl⟩ := M3.out (by omega)
            obtain ⟨d1, d2⟩ := hcl i hir
            have hat := Hat.out i hir
            have hsn : (rb.take (i + 1)).map (M.sh len0) = (rb.take i).map (M.sh len0) ++ [M.sh len0 rb[i]] := by rw [List.take_succ_eq_append_getElem hir, List.map_append]; rfl
            obtain ⟨r, hr⟩ : ∃ r, (rb[i]).1 = r := ⟨_, rfl⟩
            obtain ⟨p, hp⟩ : ∃ r, (rb[i]).2 = r := ⟨_, rfl⟩
            have hshv : M.sh len0 rb[i] = (r, p + len0) := by unfold M.sh; rw [hr, hp]
            rw [hshv] at hsn
            rw [hr] at d1
            rw [hp] at d2 hat
            have e1 : wr.cell? ⟨b3, i * 2, none⟩ = some (.int .i64 r) := by rw [World.cell?_of_block (w := w3) (Hblk.out b3 hB3 hb3lt)]; exact d1
            have e2 : wr.cell? ⟨b3, i * 2 + 1, none⟩ = some (.int .i64 p) := by rw [World.cell?_of_block (w := w3) (Hblk.out b3 hB3 hb3lt)]; exact d2
            have e3 : ∀ o : Obj, (wr.alloc o).drew.cell? ⟨b3, i * 2, none⟩ = some (.int .i64 r) ∧ (wr.alloc o).drew.cell? ⟨b3, i * 2 + 1, none⟩ = some (.int .i64 p) := fun o => by
              have hbo : Below wr.heap.size wr (wr.alloc o).drew := ((Below.refl _ _).alloc (Nat.le_refl _) _).drew
              have hb3w : b3 < wr.heap.size := by omega
              exact ⟨by rw [hbo.cell (p := ⟨b3, i * 2, none⟩) hb3w]; exact e1, by rw [hbo.cell (p := ⟨b3, i * 2 + 1, none⟩) hb3w]; exact e2⟩
            have E3 := Lib.hid e3
            have hne : some b3 ≠ u8.ownBlock := fun h => by rcases Hown.out b3 h.symm with h | h <;> omega
            have Hne := Lib.hid hne
            have hws := hbw.size
            have p0 : 0 ≤ p := by have := hat.1; omega
            have p1 : p < 200 := by have := hat.2.1; rw [Hlb.out] at this; omega
            have wrp : IntKind.i64.wrap (p + len0) = p + len0 := IntWalk.i64_in _ (by omega)
            have z1 : (0 : Int) ≤ i := by omega
            have z2 : (i : Int) < N := by omega
            have hpl : (ra ++ (rb.take i).map (M.sh len0)).length ≤ 400 := by simp; omega
            obtain ⟨pre, hpre⟩ : ∃ pre, ra ++ (rb.take i).map (M.sh len0) = pre := ⟨_, rfl⟩
            have hnext : ra ++ (rb.take (i + 1)).map (M.sh len0) = pre ++ [(r, p + len0)] := by rw [hsn, ← List.append_assoc, hpre]
            rw [hpre] at hox hpl
            have Hnext := Lib.hid hnext
            have Hox := Lib.hid hox
            have hb3w : b3 < wr.heap.size := by omega
            clear hcl d1 d2 hat hsn hr hp hshv hpre hnext hox e3 hne
            go_wp2
            go_region_held3 (fun W : World => W.cell? ⟨b3, i * 2, none⟩ = some (.int .i64 r) ∧ W.cell? ⟨b3, i * 2 + 1, none⟩ = some (.int .i64 p)) (first | exact ⟨e1, e2⟩ | exact E3.out _ | exact ⟨hG5.cell (E3.out _).1 Hne.out, hG5.cell (E3.out _).2 Hne.out⟩)
              ((refine stepl_rune (by rfl) _ _ (by rfl) w.heap.size u8 (.slice (some ⟨wr.heap.size, 0, none⟩) 1 1) pre (pre ++ [(r, p + len0)]) r (p + len0) (by rfl) (OwnR.keep Hox.out ((Below.refl _ _).alloc (Nat.le_refl _) _).drew) (by rfl) (one_rune wr.drew _ _) (by omega) (by simp; omega) rfl ?_; intro v5 w5 ho5 hb5 hG5 hO5))
            all_goals
              have hbo : ∀ o : Obj, Below wr.heap.size wr (wr.alloc o).drew := fun o => ((Below.refl _ _).alloc (Nat.le_refl _) _).drew
              have hbw5 := ((hbw.alloc hws _).drew).trans hb5
              have hs5 : w3.heap.size ≤ w5.heap.size := by have h1 := hG5.size; have h2 := (hbo (.cells #[.int .i64 r, .int .i64 (p + len0)] 30)).size; omega
              have hk5 : ∀ k, w2.heap.size ≤ k → k < w3.heap.size → w5.heap[k]? = w3.heap[k]? := fun k h1 h2 => by
                have hko : some k ≠ u8.ownBlock := fun h => by rcases Hown.out k h.symm with h | h <;> omega
                have hkw : k < wr.heap.size := by omega
                rw [hG5.block k (Nat.lt_of_lt_of_le hkw (hbo _).size) hko, (hbo _).block k hkw, Hblk.out k h1 h2]
              have ho5k : ∀ k, v5.ownBlock = some k → k < w2.heap.size ∨ w3.heap.size ≤ k := fun k h => by
                rcases hO5 with h5 | h5
                · exact Hown.out k (by rw [← h5]; exact h)
                · right
                  have h2 := (hbo (.cells #[.int .i64 r, .int .i64 (p + len0)] 30)).size
                  have h3 : (wr.alloc (.cells #[.int .i64 r, .int .i64 (p + len0)] 30)).drew.heap.size = k := Option.some.inj (h5.symm.trans h)
                  omega
              have H1 := Lib.hid hk5
              have H2 := Lib.hid ho5k
              clear hbo hk5 ho5k hG5 hO5 hb5 e1 e2 hbw
              go_wp2
              go_roundw
              case rel => exact ⟨i + 1, by go_num, by omega, by rw [Hnext.out]; exact ho5, hbw5, hs5, H1.out, H2.out⟩
              case measure => simp [intOf]; omega
          · obtain rfl : i = N := by omega
            have hfull : rb.take i = rb := List.take_of_length_le (by rw [HN.out]; exact Nat.le_refl _)
            rw [hfull] at hox
            have hws := hbw.size
            have Hox := Lib.hid hox
            clear hfull hox hlt
            go_wp2_with (at_builtin; first | (refine wpl_append rfl _ _ rfl wr.heap.size (.slice none 0 0) (.slice a0 len0 cap0) [] la la rfl (World.ownsRow_nil _ _ _ _) rfl (B0.out.keep hbw) N0.out (by rw [Hla.out]; simp; omega) (Nat.le_refl _) rfl ?_) | (refine wpl_append rfl _ _ rfl wr.heap.size (.slice none 0 0) (.slice (some ⟨b, off, none⟩) len0 cap0) [] la la rfl (World.ownsRow_nil _ _ _ _) rfl (B0.out.keep hbw) N0.out (by rw [Hla.out]; simp; omega) (Nat.le_refl _) rfl ?_))
            intro v6 w6 ho6 hb6
            have c6 := hbw.trans (hb6.mono hws)
            go_wp2_with (at_builtin; refine wpl_append rfl _ _ rfl wr.heap.size v6 (.slice a1 len1 cap1) la lb (la ++ lb) rfl ho6 rfl (B1.out.keep c6) N1.out (by rw [Hla.out, Hlb.out]; omega) hb6.size rfl ?_)
            intro v7 w7 ho7 hb7
            have b7 := hb6.trans hb7
            have c7 := hbw.trans (b7.mono hws)
            have hx7 := OwnR.keep Hox.out b7
            clear hb6 hb7 c6 ho6
            go_wp2_with fail
            refine (R3.out _ _ (HT.out.keep c7) ho7.bs).mono ?_
            rintro e w8 ⟨v8, rfl, ho8, hb8⟩
            have c8 := c7.trans (hb8.mono c7.size)
            have hx8 := (OwnR.keep hx7 hb8).vs
            clear hb8 hx7 c7 b7 ho7
            go_wp2_with fail
            refine (S1.out _ _ _ ho8.vs hx8).mono ?_
            rintro e w9 ⟨rfl, hb9⟩
            have c9 := c8.trans (hb9.mono c8.size)
            clear hb9 c8 ho8 hx8
            go_wp2
            go_ret
            exact ⟨rfl, c9⟩

end Go.Proofs.YtpnlkahebdipcaaDoor.cinputJoins
