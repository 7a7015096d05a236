/- The walk of NumberBack. -/
import Derived.Test.YtmfcfkmkmlcepaaDoorNAlive
import Derived.Test.YtmfcfkmkmlcepaaDoorNRRight
namespace Go.Proofs.YtmfcfkmkmlcepaaDoor
open Go.RowKit
set_option linter.unusedVariables false
set_option linter.unusedSimpArgs false

theorem unsc_len (d : List UInt8) (x : Int) : (M.unsc d x).length ≤ d.length + 22 := by
  unfold M.unsc
  split
  · simp; omega
  · split
    · simp; omega
    · split
      · simp; omega
      · simp
theorem plain_len (ng : Bool) (D E : List UInt8) (h1 : D.length ≤ 300) (h2 : E.length ≤ 300) : ∀ t ∈ M.plainN ng D E, t.length ≤ 1000 := by
  intro t ht
  have hs := M.sgl_len ng
  have hs1 : (M.sgl ng).length ≤ 1 := by rw [hs]; split <;> omega
  unfold M.plainN at ht
  split at ht
  case isFalse => simp at ht
  rename_i hr
  split at ht
  · simp only [List.mem_singleton] at ht; subst ht; rw [List.length_append]; simp; omega
  · rename_i h0
    rcases List.mem_append.1 ht with ht | ht
    · unfold M.plain1 at ht
      split at ht
      · simp only [List.mem_singleton] at ht; subst ht; have := unsc_len D (M.intD E).1; rw [List.length_append]; omega
      · simp at ht
    · rcases List.mem_append.1 ht with ht | ht
      · simp only [List.mem_singleton] at ht; subst ht; simp only [List.length_append, List.length_cons]; omega
      · unfold M.plain3 at ht
        split at ht
        · have hrE : M.rightD E = true := by
            rw [M.right_prog D E h0] at hr
            simp only [Bool.and_eq_true] at hr
            exact hr.2
          have := upE_le D E hrE h1 h2
          simp only [List.mem_singleton] at ht; subst ht; simp only [List.length_append, List.length_cons, List.length_take, List.length_drop]; omega
        · simp at ht
theorem plain_three (ng : Bool) (D E : List UInt8) : (M.plainN ng D E).length ≤ 3 := by
  unfold M.plainN M.plain1 M.plain3
  split
  · split
    · simp
    · simp only [List.length_append]
      split <;> split <;> simp
  · simp
theorem any_step (l : List (List UInt8)) (s : List UInt8) (k : Nat) (hk : k < l.length) : (l.take (k + 1)).any (· == s) = ((l.take k).any (· == s) || (l[k] == s)) := by
  rw [List.take_succ_eq_append_getElem hk, List.any_append]; simp
set_option maxRecDepth 100000 in
set_option maxHeartbeats 8000000 in
theorem nback_walk (ng : Bool) (s1 s2 : ByteArray) (w : World) (hT : Tabs w) :
    Calls Tryd.prog 3 #[.agg #[.bool ng, .string s1, .string s2]] w fun e w' => e = .returned (.bool true) ∧ Below w.heap.size w w' := by
  obtain ⟨D, hD⟩ : ∃ D, bytes D = s1 := ⟨s1.data.toList, bytes_of s1⟩
  obtain ⟨E, hE⟩ : ∃ D, bytes D = s2 := ⟨s2.data.toList, bytes_of s2⟩
  have zD := bytes_size D
  have zE := bytes_size E
  rw [hD] at zD
  rw [hE] at zE
  have B0 : Hid (Below w.heap.size w (w.alloc (.cells #[.bool ng, .string s1, .string s2] 23))) := Lib.hid ((Below.refl _ _).alloc (Nat.le_refl _) _)
  have al := Lib.hid (alive_any _ (hT.keep B0.out))
  have HT := Lib.hid hT
  clear hT
  have hway : (200 < s1.size) ∨ (s1.size ≤ 200 ∧ 100 < s2.size) ∨ (s1.size ≤ 200 ∧ s2.size ≤ 100) := by omega
  rcases hway with h | ⟨h, h2⟩ | ⟨h, h2⟩
  · clear hD hE zD zE
    have q : (200 : Int) < s1.size := by omega
    go_enter Tryd.func3, Tryd.ntmps3
    go_wp2_with fail
    refine al.out.mono ?_
    rintro e w1 ⟨rfl, hb1⟩
    obtain ⟨⟨g0, g1, g2⟩, -, hs1, hb0⟩ := keep3 hb1
    clear hb1
    go_wp2
    go_ret
    exact ⟨rfl, hb0⟩
  · clear hD hE zD zE
    have q : ¬ (200 : Int) < s1.size := by omega
    have q2 : (100 : Int) < s2.size := by omega
    go_enter Tryd.func3, Tryd.ntmps3
    go_wp2_with fail
    refine al.out.mono ?_
    rintro e w1 ⟨rfl, hb1⟩
    obtain ⟨⟨g0, g1, g2⟩, -, hs1, hb0⟩ := keep3 hb1
    clear hb1
    go_wp2
    go_ret
    exact ⟨rfl, hb0⟩
  have hDl : D.length ≤ 200 := by omega
  have hEl : E.length ≤ 100 := by omega
  have q1 : ¬ (200 : Int) < s1.size := by omega
  have q2 : ¬ (100 : Int) < s2.size := by omega
  cases hrt : M.rightN D E with
  | false =>
    have RN := Lib.hid (fun w => refrightn_any ng D E false w (by omega) (by omega) hrt)
    unfold numV at RN
    simp only [hD, hE] at RN
    clear hD hE zD zE hrt
    go_enter Tryd.func3, Tryd.ntmps3
    go_wp2_with fail
    refine al.out.mono ?_
    rintro e w1 ⟨rfl, hb1⟩
    obtain ⟨⟨g0, g1, g2⟩, -, hs1, hb0⟩ := keep3 hb1
    clear hb1
    go_wp2_with fail
    refine (RN.out _).mono ?_
    rintro e w2 ⟨rfl, rfl⟩
    go_wp2
    go_ret
    exact ⟨rfl, hb0.alloc hb0.size _⟩
  | true =>
    have RN := Lib.hid (fun w => refrightn_any ng D E true w (by omega) (by omega) hrt)
    obtain ⟨l, hl⟩ : ∃ l, M.plainN ng D E = l := ⟨_, rfl⟩
    obtain ⟨s, hs⟩ : ∃ s, M.shortN l = s := ⟨_, rfl⟩
    have hmem : s ∈ l := by rw [← hs]; exact M.short_mem l (by rw [← hl]; exact M.plain_ne ng D E hrt)
    have hle : ∀ t ∈ l, s.length ≤ t.length := by rw [← hs]; exact M.short_le l
    have hback : ∀ t ∈ l, M.readN t = ((ng, D, E), true) := by rw [← hl]; exact M.plain_back ng D E
    have hlen : ∀ t ∈ l, t.length ≤ 1000 := by rw [← hl]; exact plain_len ng D E (by omega) (by omega)
    have PL := Lib.hid (fun w hw => plain_any ng D E l w hw (by omega) (by omega) hl)
    have SH := Lib.hid (fun w hw => short_any ng D E s w hw (by omega) (by omega) (by rw [hl]; exact hs))
    have RD := Lib.hid (fun t (ht : t ∈ l) w hw => read_any t (ng, D, E) true w hw (by have := hlen t ht; omega) (hback t ht))
    have hl3 : l.length ≤ 3 := by rw [← hl]; exact plain_three ng D E
    have hany : l.any (· == s) = true := List.any_eq_true.2 ⟨s, hmem, by simp⟩
    unfold numV at RN PL SH RD
    simp only [hD, hE] at RN PL SH RD
    have HL := Lib.hid hle
    have HLen := Lib.hid hlen
    have HAny := Lib.hid hany
    obtain ⟨S, hS⟩ : ∃ S, bytes s = S := ⟨_, rfl⟩
    have hSz := bytes_size s
    rw [hS] at SH hSz
    have HS := Lib.hid hS
    have HSz := Lib.hid hSz
    have z1 : S.size ≤ 1000 := by have := hlen s hmem; omega
    clear hD hE zD zE hrt hl hs hmem hle hback hlen hany hS hSz
    go_enter Tryd.func3, Tryd.ntmps3
    go_wp2_with fail
    refine al.out.mono ?_
    rintro e w1 ⟨rfl, hb1⟩
    obtain ⟨⟨g0, g1, g2⟩, -, hs1, hb0⟩ := keep3 hb1
    clear hb1
    go_wp2_with fail
    refine (RN.out _).mono ?_
    rintro e w2 ⟨rfl, rfl⟩
    obtain ⟨W2, hW2⟩ : ∃ W, w1.alloc (.cells #[.bool ng, .string s1, .string s2] 23) = W := ⟨_, rfl⟩
    have d2 : Below w1.heap.size w1 W2 := by rw [← hW2]; exact (Below.refl _ _).alloc (Nat.le_refl _) _
    have gW : Box w.heap.size (.bool ng) (.string s1) (.string s2) W2 := box_keep ⟨g0, g1, g2⟩ d2 hs1
    have hb2 := hb0.trans (d2.mono hb0.size)
    have hs2 : w.heap.size < W2.heap.size := by have := d2.size; omega
    have GW := Lib.hid gW
    rw [hW2]
    clear hW2 d2 gW hb0 g0 g1 g2 hs1
    obtain ⟨g0, g1, g2⟩ := GW.out
    go_wp2_with fail
    refine (PL.out _ (HT.out.keep hb2)).mono ?_
    rintro e w3 ⟨v, rfl, hv, hb3⟩
    have hb4 := hb2.trans (hb3.mono hb2.size)
    have gW3 := box_keep GW.out hb3 hs2
    have hs3 : w.heap.size < w3.heap.size := by have := hb3.size; omega
    have GW3 := Lib.hid gW3
    clear g0 g1 g2 hb2 hb3 gW3 GW
    obtain ⟨g0, g1, g2⟩ := GW3.out
    go_wp2_with fail
    refine (SH.out _ (HT.out.keep hb4)).mono ?_
    rintro e w5 ⟨rfl, hb5⟩
    have hb6 := hb4.trans (hb5.mono hb4.size)
    have gW5 := box_keep GW3.out hb5 hs3
    have hv5 : Ss w5 v l := Vs.keep hv hb5
    have hs5 : w.heap.size < w5.heap.size := by have := hb5.size; omega
    obtain ⟨a, cap, rfl, hc⟩ := ss_get hv5
    have GW5 := Lib.hid gW5
    have HC := Lib.hid hc
    have HB6 := Lib.hid hb6
    obtain ⟨n, hn⟩ : ∃ n, l.length = n := ⟨_, rfl⟩
    have HN := Lib.hid hn
    rw [hn] at hl3 ⊢
    clear g0 g1 g2 hb4 hb5 hb6 gW5 hv hv5 hc hn GW3
    go_wp2
    go_loopw [6, 7] (fun tv iv wx => ∃ k : Nat, iv = .int .i64 (k : Int) ∧ k ≤ n ∧ tv = .bool ((l.take k).any (· == s)) ∧ Below w5.heap.size w5 wx) (fun _ iv _ => n - (intOf iv).toNat)
    case atStart => exact ⟨0, rfl, by omega, rfl, Below.refl _ _⟩
    case round =>
      obtain ⟨k, rfl, hk, rfl, hbx⟩ := hrel
      have hbz := hbx.size
      have gx := box_keep GW5.out hbx hs5
      obtain ⟨g0, g1, g2⟩ := gx
      by_cases hlt : k < n
      · have hkl : k < l.length := by rw [HN.out]; exact hlt
        obtain ⟨b, off, rfl, hb, hcell⟩ := HC.out (by omega)
        have hc1 := (hbx.cell (p := ⟨b, off + k, none⟩) hb).trans (hcell k hkl)
        have hst := any_step l s k hkl
        have hmk : l[k] ∈ l := List.getElem_mem hkl
        have r1 := HL.out _ hmk
        have r2 := HLen.out _ hmk
        have RK := Lib.hid (RD.out _ hmk wr (HT.out.keep (HB6.out.trans (hbx.mono HB6.out.size))))
        obtain ⟨t, ht⟩ : ∃ t, l[k] = t := ⟨_, rfl⟩
        rw [ht] at hc1 hst r1 r2 RK
        have z2 := bytes_size t
        obtain ⟨T, hT⟩ : ∃ S, bytes t = S := ⟨_, rfl⟩
        have hts : (T.toList == S.toList) = (t == s) := by rw [← hT, ← HS.out, toList_bytes, toList_bytes]
        rw [hT] at hc1 z2 RK
        obtain ⟨c, hcc⟩ : ∃ c, (t == s) = c := ⟨_, rfl⟩
        rw [hcc] at hst hts
        obtain ⟨y, hy⟩ : ∃ y, (l.take k).any (· == s) = y := ⟨_, rfl⟩
        rw [hy] at hst ⊢
        have hsz := HSz.out
        have u1 : ¬ (T.size : Int) < S.size := by omega
        have u2 : T.size ≤ 1000 := by omega
        have HST := Lib.hid hst
        have Hbx := Lib.hid hbx
        clear hcell hst hmk r1 r2 ht z2 hT hcc hy hsz hbx
        go_wp2_with fail
        refine RK.out.mono ?_
        rintro e w7 ⟨rfl, hb7⟩
        have hb8 := Hbx.out.trans (hb7.mono hbz)
        have g7 := box_keep ⟨g0, g1, g2⟩ hb7 (by omega)
        have hc7 := (hb7.cell (p := ⟨b, off + k, none⟩) (by show b < wr.heap.size; omega)).trans hc1
        have z7 := hb8.size
        have zb : b < w7.heap.size := by omega
        have hb9 := hb8.alloc z7 (.cells #[.bool ng, .string s1, .string s2] 23)
        have Hb9 := Lib.hid hb9
        have z8 : w.heap.size < w7.heap.size := by omega
        clear g0 g1 g2 hb7 hb8 hb9 hc1
        obtain ⟨g0, g1, g2⟩ := g7
        cases y
        all_goals
          go_wp2
          go_roundw
          case rel => exact ⟨k + 1, by go_num, by omega, by rw [HST.out]; simp, Hb9.out⟩
          case measure => simp [intOf] <;> omega
      · obtain rfl : k = n := by omega
        clear hlt
        have hfin : (l.take k).any (· == s) = true := by rw [← HN.out, List.take_length]; exact HAny.out
        rw [hfin]
        have hb7 := HB6.out.trans (hbx.mono HB6.out.size)
        clear hfin hbx
        go_wp2
        go_ret
        exact ⟨rfl, hb7⟩
end Go.Proofs.YtmfcfkmkmlcepaaDoor
