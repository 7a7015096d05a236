/- Texts of ours in one: NSign. -/
import Derived.Test.YtlobinjdgcidmaaGreatDoorQs15
import Derived.Test.YtlobinjdgcidmaaGreatDoorQs00
import Derived.Test.YtlobinjdgcidmaaGreatDoorQs02
import Derived.Test.YtlobinjdgcidmaaGreatDoorQs01
import Derived.Deep.QuietTactic
import Derived.BigQuiet
/- Numbers: a sign, and digits, cut off a text. -/
namespace Go.Proofs.YtlobinjdgcidmaaGreatDoor
open Go.RowKit
set_option linter.unusedVariables false
set_option linter.unusedSimpArgs false

theorem ext_b (l : List UInt8) (i j : Nat) : (bytes l).extract i j = bytes ((l.drop i).take (j - i)) := by
  apply ByteArray.ext
  simp [bytes, List.extract_toArray, List.extract]
theorem ext_from (l : List UInt8) (i : Nat) : (bytes l).extract i l.length = bytes (l.drop i) := by
  rw [ext_b, List.take_of_length_le (by simp)]
theorem ext_to (l : List UInt8) (j : Nat) : (bytes l).extract 0 j = bytes (l.take j) := by
  rw [ext_b]; simp
theorem hasPre_one (l : List UInt8) (c : UInt8) : Lib.hasPrefix l [c] = (l.head? == some c) := by
  unfold Lib.hasPrefix
  cases l with
  | nil => rfl
  | cons a t => rw [Bool.eq_iff_iff]; simp [List.isPrefixOf]; exact ⟨Eq.symm, Eq.symm⟩
theorem pre_any (l : List UInt8) (c : UInt8) (r : Bool) (w : World) (hr : (l.head? == some c) = r) :
    Calls Tryz.prog 62 #[.string (bytes l), .string ⟨#[c]⟩] w fun e w' => e = .returned (.bool r) ∧ w = w' := by
  have hc := Tryz.strings_HasPrefix (bytes l) ⟨#[c]⟩ w
  rw [bytes_list, show (ByteArray.mk #[c]).data.toList = [c] from rfl, hasPre_one, hr] at hc
  exact hc.mono fun _ _ h => ⟨h.1, h.2.symm⟩
theorem tpre_any (l k : List UInt8) (w : World) (hr : M.unsign l = k) :
    Calls Tryz.prog 123 #[.string (bytes l), .string ⟨#[45]⟩] w fun e w' => e = .returned (.string (bytes k)) ∧ w = w' := by
  have hc := Tryz.strings_TrimPrefix (bytes l) ⟨#[45]⟩ w
  rw [bytes_list, show (ByteArray.mk #[45]).data.toList = [45] from rfl, trimPre_minus, hr] at hc
  have hc2 : Calls Tryz.prog 123 #[.string (bytes l), .string ⟨#[45]⟩] w fun e w' => e = .returned (.string (bytes k)) ∧ w' = w := hc
  exact hc2.mono fun _ _ h => ⟨h.1, h.2.symm⟩
theorem ret_bs {a b : ByteArray} {c d : Bool} (h : a = b) (h2 : c = d) : Ending.returned (.tuple #[.bool c, .string a]) = .returned (.tuple #[.bool d, .string b]) := by rw [h, h2]
theorem ret_ss {a b c d : ByteArray} (h : a = b) (h2 : c = d) : Ending.returned (.tuple #[.string a, .string c]) = .returned (.tuple #[.string b, .string d]) := by rw [h, h2]
set_option maxRecDepth 100000 in
set_option maxHeartbeats 1000000 in
theorem csign_any (l : List UInt8) (p : Bool) (k : List UInt8) (w : World) (hl : l.length ≤ 1000000) (hr : M.csign l = (p, k)) :
    Calls Tryz.prog 109 #[.string (bytes l)] w fun e w' => e = .returned (.tuple #[.bool p, .string (bytes k)]) ∧ ∃ n, w' = w.drewN n := by
  unfold M.csign at hr
  by_cases h : l.head? = some 43
  · rw [if_pos h] at hr
    simp only [Prod.mk.injEq] at hr
    obtain ⟨rfl, rfl⟩ := hr
    have P1 := Lib.hid (fun W => pre_any l 43 true W (by rw [h]; decide))
    have hlen : 0 < l.length := by cases l with | nil => simp at h | cons a t => simp
    have hx := ext_from l 1
    rw [List.drop_one] at hx
    have hsz := bytes_size l
    obtain ⟨S, hS⟩ : ∃ S, bytes l = S := ⟨_, rfl⟩
    rw [hS] at P1 hx hsz ⊢
    rw [← hsz] at hx
    have s1 : 1 ≤ S.size := by omega
    have s2 : S.size ≤ 1000000 := by omega
    have Hx := Lib.hid hx
    clear hx hsz hS h hl hlen
    go_enter Tryz.func109, Tryz.ntmps109
    go_wp2_with fail
    refine (P1.out _).mono ?_
    rintro e w' ⟨rfl, rfl⟩
    go_wp2
    go_region
    all_goals
      go_wp2
      go_ret2
      exact ⟨ret_bs Hx.out rfl, 1, rfl⟩
  · rw [if_neg h] at hr
    simp only [Prod.mk.injEq] at hr
    obtain ⟨rfl, rfl⟩ := hr
    have P1 := Lib.hid (fun W => pre_any l 43 false W (by simpa using h))
    have P2 := Lib.hid (fun W => pre_any l 45 (M.isNeg l) W rfl)
    have P3 := Lib.hid (fun W => tpre_any l (M.unsign l) W rfl)
    obtain ⟨S, hS⟩ : ∃ S, bytes l = S := ⟨_, rfl⟩
    rw [hS] at P1 P2 P3 ⊢
    clear hS h hl
    go_enter Tryz.func109, Tryz.ntmps109
    go_wp2_with fail
    refine (P1.out _).mono ?_
    rintro e w' ⟨rfl, rfl⟩
    go_wp2_with fail
    refine (P2.out _).mono ?_
    rintro e w' ⟨rfl, rfl⟩
    go_wp2_with fail
    refine (P3.out _).mono ?_
    rintro e w' ⟨rfl, rfl⟩
    go_wp2
    go_ret2
    exact ⟨rfl, 0, rfl⟩
theorem isdig_any (c : UInt8) (w : World) :
    Calls Tryz.prog 124 #[.int .u8 c.toNat] w fun e w' => e = .returned (.bool (M.dig c)) ∧ w = w' := by
  have hd := M.dig_iff c
  cases h : M.dig c with
  | true =>
    obtain ⟨h1, h2⟩ := hd.1 h
    have q1 : decide (48 ≤ (c.toNat : Int)) = true := by simp; omega
    have q2 : decide ((c.toNat : Int) ≤ 57) = true := by simp; omega
    clear hd h
    go_enter Tryz.func124, Tryz.ntmps124
    go_wp2
    go_ret
    exact ⟨rfl, rfl⟩
  | false =>
    have hcc : c.toNat < 48 ∨ (48 ≤ c.toNat ∧ 57 < c.toNat) := by
      have : ¬ (48 ≤ c.toNat ∧ c.toNat ≤ 57) := fun h' => by rw [hd.2 h'] at h; exact absurd h (by simp)
      omega
    clear hd h
    rcases hcc with c1 | ⟨c1, c2⟩
    · have q1 : decide (48 ≤ (c.toNat : Int)) = false := by simp; omega
      go_enter Tryz.func124, Tryz.ntmps124
      go_wp2
      go_ret
      exact ⟨rfl, rfl⟩
    · have q1 : decide (48 ≤ (c.toNat : Int)) = true := by simp; omega
      have q2 : decide ((c.toNat : Int) ≤ 57) = false := by simp; omega
      go_enter Tryz.func124, Tryz.ntmps124
      go_wp2
      go_ret
      exact ⟨rfl, rfl⟩
theorem dg_get (l : List UInt8) : ∀ k, (k < (M.dg l).length → ∃ h : k < l.length, M.dig l[k] = true) ∧ (k = (M.dg l).length → ∀ h : k < l.length, M.dig l[k] = false) := by
  intro k
  have e := M.dg_rs l
  obtain ⟨D, hD⟩ : ∃ D, M.dg l = D := ⟨_, rfl⟩
  obtain ⟨R, hR⟩ : ∃ D, M.rs l = D := ⟨_, rfl⟩
  have hd := M.dg_dig l
  have hr := M.rs_head l
  rw [hD] at e hd ⊢
  rw [hR] at e hr
  subst e
  refine ⟨fun h => ⟨by simp; omega, ?_⟩, fun h hk => ?_⟩
  · rw [List.getElem_append_left h]; exact hd _ (List.getElem_mem h)
  · subst h
    rw [List.getElem_append_right (Nat.le_refl _)]
    simp only [Nat.sub_self]
    cases R with
    | nil => simp at hk
    | cons c t => exact hr c rfl
theorem dg_take (l : List UInt8) : l.take (M.dg l).length = M.dg l ∧ l.drop (M.dg l).length = M.rs l := by
  have h1 := List.take_left (l₁ := M.dg l) (l₂ := M.rs l)
  have h2 := List.drop_left (l₁ := M.dg l) (l₂ := M.rs l)
  rw [M.dg_rs l] at h1 h2
  exact ⟨h1, h2⟩
set_option maxRecDepth 100000 in
set_option maxHeartbeats 1000000 in
theorem cdig_any (l d k : List UInt8) (w : World) (hl : l.length ≤ 1000000) (hd : M.dg l = d) (hk : M.rs l = k) :
    Calls Tryz.prog 110 #[.string (bytes l)] w fun e w' => e = .returned (.tuple #[.string (bytes d), .string (bytes k)]) ∧ ∃ n, w' = w.drewN n := by
  have hsz := bytes_size l
  have h1 := ext_to l (M.dg l).length
  have h2 := ext_from l (M.dg l).length
  rw [(dg_take l).1] at h1
  rw [(dg_take l).2] at h2
  have hdl : (M.dg l).length ≤ l.length := by have := congrArg List.length (M.dg_rs l); rw [List.length_append] at this; omega
  rw [hd] at h1 h2 hdl
  rw [hk] at h2
  obtain ⟨S, hS⟩ : ∃ S, bytes l = S := ⟨_, rfl⟩
  have hget : ∀ (k : Nat) (hk : k < S.size) (hk2 : k < l.length), S[k] = l[k] := by intro k hk hk2; subst hS; rfl
  rw [hS] at hsz h1 h2 ⊢
  rw [← hsz] at h2
  have G := Lib.hid (dg_get l)
  have HD := Lib.hid hd
  have Hget := Lib.hid hget
  have Hsz := Lib.hid hsz
  have H1 := Lib.hid h1
  have H2 := Lib.hid h2
  obtain ⟨n, hn⟩ : ∃ n, d.length = n := ⟨_, rfl⟩
  rw [hn] at H1 H2 hdl
  have HN := Lib.hid hn
  have s1 : S.size ≤ 1000000 := by omega
  have s2 : n ≤ S.size := by omega
  clear hd hk hsz hget h1 h2 hS hn hl hdl
  go_enter Tryz.func110, Tryz.ntmps110
  go_wp2
  go_loop [4] (fun iv => ∃ k : Nat, iv = .int .i64 k ∧ k ≤ n) (fun iv => S.size - (intOf iv).toNat)
  case atStart => exact ⟨0, rfl, by omega⟩
  case round =>
    obtain ⟨k, rfl, hk⟩ := hrel
    by_cases hlt : k < n
    · obtain ⟨g1, g2⟩ := (G.out k).1 (by rw [HD.out, HN.out]; exact hlt)
      have hks : k < S.size := by omega
      have hsk := Hget.out k hks g1
      have D1 := Lib.hid (fun W => isdig_any l[k] W)
      rw [g2, ← hsk] at D1
      clear g2 hsk
      go_wp2_with fail
      refine (D1.out _).mono ?_
      rintro e w' ⟨rfl, rfl⟩
      go_wp2
      go_round
      case rel => exact ⟨k + 1, by go_num, by omega⟩
      case measure => simp [intOf]; omega
    · obtain rfl : k = n := by omega
      clear hlt
      by_cases hks : k < S.size
      · have hkl : k < l.length := by rw [← Hsz.out]; exact hks
        have g2 := (G.out k).2 (by rw [HD.out, HN.out]) hkl
        have hsk := Hget.out k hks hkl
        have D1 := Lib.hid (fun W => isdig_any l[k] W)
        rw [g2, ← hsk] at D1
        clear g2 hsk
        go_wp2_with fail
        refine (D1.out _).mono ?_
        rintro e w' ⟨rfl, rfl⟩
        go_wp2
        go_region
        all_goals
          go_wp2
          go_ret2
          first
            | exact ⟨ret_ss H1.out H2.out, 1, rfl⟩
            | exact ⟨ret_ss (by have h := H1.out; simpa [go_sem] using h) (by have h := H2.out; simpa [go_sem] using h), 1, rfl⟩
      · obtain rfl : k = S.size := by omega
        clear hks
        go_wp2
        go_region
        all_goals
          go_wp2
          go_ret2
          first
            | exact ⟨ret_ss H1.out H2.out, 1, rfl⟩
            | exact ⟨ret_ss (by have h := H1.out; simpa [go_sem] using h) (by have h := H2.out; simpa [go_sem] using h), 1, rfl⟩
end Go.Proofs.YtlobinjdgcidmaaGreatDoor
