/- Numbers: the reference's run and stripped. -/
import Derived.Test.YtfclkackfamdlaaGreatDoorNRead2
import Derived.Test.YtfclkackfamdlaaGreatDoorNMath4
namespace Go.Proofs.YtfclkackfamdlaaGreatDoor
open Go.RowKit
set_option linter.unusedVariables false
set_option linter.unusedSimpArgs false

theorem get_of (l : List UInt8) (S : ByteArray) (hS : bytes l = S) : S.size = l.length ∧ ∀ (j : Nat) (h : j < S.size) (h2 : j < l.length), S[j]'h = l[j] := by
  subst hS
  exact ⟨bytes_size l, fun j h h2 => rfl⟩
set_option maxRecDepth 100000 in
set_option maxHeartbeats 1000000 in
theorem runn_any (l : List UInt8) (i r : Nat) (w : World) (hl : l.length ≤ 4000000) (hi : i ≤ l.length) (hr : i + (M.dg (l.drop i)).length = r) :
    Calls Tryz.prog 10 #[.string (bytes l), .int .i64 (i : Int)] w fun e w' => e = .returned (.int .i64 (r : Int)) ∧ w = w' := by
  obtain ⟨S, hS⟩ : ∃ S, bytes l = S := ⟨_, rfl⟩
  obtain ⟨hsz, hget⟩ := get_of l S hS
  obtain ⟨n, hn⟩ : ∃ n, (M.dg (l.drop i)).length = n := ⟨_, rfl⟩
  have hg := dg_get (l.drop i)
  rw [hn] at hg hr
  have hnl : i + n ≤ l.length := by
    have := dg_len (l.drop i) _ rfl
    rw [List.length_drop, hn] at this; omega
  rw [hS]
  have HG := Lib.hid hg
  have Hget := Lib.hid hget
  have HSZ := Lib.hid hsz
  subst hr
  have s1 : S.size ≤ 4000000 := by omega
  have s2 : i + n ≤ S.size := by omega
  clear hS hn hg hget hsz hi hl hnl
  go_enter Tryz.func10, Tryz.ntmps10
  go_wp2
  go_loop [1] (fun iv => ∃ k : Nat, iv = .int .i64 ((i + k : Nat) : Int) ∧ k ≤ n) (fun iv => S.size - (intOf iv).toNat)
  case atStart => exact ⟨0, rfl, by omega⟩
  case round =>
    obtain ⟨k, rfl, hk⟩ := hrel
    obtain ⟨j, hj⟩ : ∃ j, i + k = j := ⟨_, rfl⟩
    rw [hj]
    have Hj := Lib.hid hj
    by_cases hlt : k < n
    · obtain ⟨g1, g2⟩ := (HG.out k).1 hlt
      have hjl : j < l.length := by rw [List.length_drop] at g1; omega
      have hjs : j < S.size := by rw [HSZ.out]; exact hjl
      have hsk := Hget.out j hjs hjl
      have hd : M.dig l[j] = true := by rw [← g2]; congr 1; simp [hj]
      obtain ⟨c, hc⟩ : ∃ c, l[j] = c := ⟨_, rfl⟩
      rw [hc] at hsk hd
      obtain ⟨d1, d2⟩ := (M.dig_iff c).1 hd
      have q1 : decide (48 ≤ (c.toNat : Int)) = true := by simp; omega
      have q2 : decide ((c.toNat : Int) ≤ 57) = true := by simp; omega
      clear g1 g2 hd hc d1 d2 hj hjl
      go_wp2
      go_round
      case rel => exact ⟨k + 1, by have := Hj.out; rw [show i + (k + 1) = j + 1 by omega]; go_num, by omega⟩
      case measure => simp [intOf]; omega
    · obtain rfl : k = n := by omega
      clear hlt
      by_cases hjs : j < S.size
      · have hjl : j < l.length := by rw [← HSZ.out]; exact hjs
        have g2 := (HG.out k).2 rfl (by rw [List.length_drop]; omega)
        have hsk := Hget.out j hjs hjl
        have hd : M.dig l[j] = false := by rw [← g2]; congr 1; simp [hj]
        obtain ⟨c, hc⟩ : ∃ c, l[j] = c := ⟨_, rfl⟩
        rw [hc] at hsk hd
        have hcc : c.toNat < 48 ∨ (48 ≤ c.toNat ∧ 57 < c.toNat) := by
          have : ¬ (48 ≤ c.toNat ∧ c.toNat ≤ 57) := fun h' => by rw [(M.dig_iff c).2 h'] at hd; exact absurd hd (by simp)
          omega
        clear g2 hd hc hj hjl
        rcases hcc with c1 | ⟨c1, c2⟩
        · have q1 : decide (48 ≤ (c.toNat : Int)) = false := by simp; omega
          go_wp2
          go_ret
          exact ⟨ret_i (by have := Hj.out; omega), rfl⟩
        · have q1 : decide (48 ≤ (c.toNat : Int)) = true := by simp; omega
          have q2 : decide ((c.toNat : Int) ≤ 57) = false := by simp; omega
          go_wp2
          go_ret
          exact ⟨ret_i (by have := Hj.out; omega), rfl⟩
      · clear hj
        have q0 : ¬ (j : Int) < S.size := by omega
        go_wp2
        go_ret
        exact ⟨ret_i (by have := Hj.out; omega), rfl⟩
theorem strip_row (l : List UInt8) (hd : ∀ c ∈ l, M.dig c = true) (hne : l ≠ []) (h : l.length = 1 ∨ l.head? ≠ some 48) : l = M.decS (M.dval l) := by
  rcases h with h | h
  · obtain ⟨c, rfl⟩ := List.length_eq_one_iff.1 h
    have h1 := (M.dig_iff c).1 (hd c (by simp))
    have h2 : M.dval [c] = c.toNat - 48 := by simp [M.dval]
    rw [h2, M.decS_small _ (by omega)]
    congr 1
    apply UInt8.toNat_inj.1
    rw [M.ofD_nat]; omega
  · have h0 := M.dval_pos l hd h hne
    unfold M.decS
    rw [if_neg h0]
    exact (M.canon_self l hd h).symm
set_option maxRecDepth 100000 in
set_option maxHeartbeats 2000000 in
theorem stripped_any (l r : List UInt8) (w : World) (hl : l.length ≤ 4000000) (hd : ∀ c ∈ l, M.dig c = true) (hne : l ≠ []) (hr : M.decS (M.dval l) = r) :
    Calls Tryz.prog 11 #[.string (bytes l)] w fun e w' => e = .returned (.string (bytes r)) ∧ w = w' := by
  have Hd := Lib.hid hd
  have Hr := Lib.hid hr
  have h0 : Hid (M.dval l = M.dval l) := Lib.hid rfl
  have hpos := List.length_pos_iff.2 hne
  obtain ⟨n, hn⟩ : ∃ n, l.length = n := ⟨_, rfl⟩
  rw [hn] at hl hpos
  have HN := Lib.hid hn
  clear hd hr hn hne
  go_enter Tryz.func11, Tryz.ntmps11
  go_wp2
  go_loop [0] (fun sv => ∃ k : Nat, sv = .string (bytes (l.drop k)) ∧ k < n ∧ M.dval (l.drop k) = M.dval l) (fun sv => match sv with | .string s => s.size | _ => 0)
  case atStart => exact ⟨0, rfl, hpos, rfl⟩
  case round =>
    obtain ⟨k, rfl, hk, hv⟩ := hrel
    have hkl : k < l.length := by rw [HN.out]; exact hk
    have hdk : ∀ c ∈ l.drop k, M.dig c = true := fun c hc => Hd.out c (List.mem_of_mem_drop hc)
    have hcons := List.drop_eq_getElem_cons hkl
    obtain ⟨c, hc⟩ : ∃ c, l[k] = c := ⟨_, rfl⟩
    rw [hc] at hcons
    have hlen : (l.drop k).length = n - k := by rw [List.length_drop, HN.out]
    have hext := ext_from (l.drop k) 1
    rw [List.drop_drop, hlen] at hext
    obtain ⟨T, hT⟩ : ∃ T, bytes (l.drop k) = T := ⟨_, rfl⟩
    obtain ⟨hz, hget⟩ := get_of _ T hT
    rw [hlen] at hz
    have hz2 := bytes_size (l.drop (k + 1))
    rw [List.length_drop, HN.out] at hz2
    have hT0 : ∀ h : 0 < T.size, T[0]'h = c := fun h => by
      rw [hget 0 h (by rw [hlen]; omega)]
      simp [hcons]
    rw [hT] at hext ⊢
    rw [← hz] at hext
    have z0 : 0 < T.size := by omega
    have f1 := hT0 z0
    have z4 : T.size ≤ 4000000 := by omega
    by_cases hgo : 1 < T.size ∧ c = 48
    · obtain ⟨g1, rfl⟩ := hgo
      have hv2 : M.dval (l.drop (k + 1)) = M.dval l := by
        rw [← hv, hcons]
        have := M.dval_lead 1 (l.drop (k + 1))
        simpa using this.symm
      have HX := Lib.hid hext
      have HV := Lib.hid hv2
      have HZ2 := Lib.hid hz2
      have HZ := Lib.hid hz
      clear hdk hcons hlen hget hT0 hv hv2 hT hext hc hz2 hz
      go_wp2
      go_round
      case rel => exact ⟨k + 1, congrArg Value.string HX.out, by have := HZ.out; omega, HV.out⟩
      case measure =>
        have h1 := congrArg ByteArray.size HX.out
        have h2 := HZ2.out
        have h3 := HZ.out
        simp only
        omega
    · have hfin : bytes r = T := by
        rw [← hT, ← Hr.out, ← hv, ← strip_row (l.drop k) hdk (by rw [hcons]; simp) (by
          by_cases h1 : 1 < T.size
          · right; rw [hcons]; simp; exact fun h => hgo ⟨h1, h⟩
          · left; omega)]
      have HF := Lib.hid hfin
      have hw : T.size ≤ 1 ∨ (1 < T.size ∧ ((c.toNat : Int) == 48) = false) := by
        by_cases h1 : 1 < T.size
        · right
          refine ⟨h1, ?_⟩
          rw [beq_eq_false_iff_ne]
          intro h; apply hgo
          exact ⟨h1, UInt8.toNat_inj.1 (by show c.toNat = 48; omega)⟩
        · left; omega
      clear hdk hcons hlen hget hT0 hv hT hext hc hz2 hz hfin hgo
      rcases hw with h1 | ⟨h1, h2⟩
      all_goals
        go_wp2
        go_ret
        exact ⟨by rw [HF.out]; rfl, rfl⟩
end Go.Proofs.YtfclkackfamdlaaGreatDoor
