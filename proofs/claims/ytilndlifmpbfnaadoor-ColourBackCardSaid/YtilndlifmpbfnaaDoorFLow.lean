/- Tokens of CSS: small letters (the program's fold.Lower). -/
import Derived.Test.YtilndlifmpbfnaaDoorBgD
import Derived.Test.YtilndlifmpbfnaaDoorBgB
import Derived.Deep.QuietTactic
import Derived.BigQuiet
namespace Go.Proofs.YtilndlifmpbfnaaDoor
open Go.RowKit
set_option linter.unusedVariables false
set_option linter.unusedSimpArgs false

theorem conv_bsF {w : World} {b off len cap : Nat} {l : List UInt8} (h : Bs w (.slice (some ⟨b, off, none⟩) len cap) l) : (convert 30 9 (.slice (some ⟨b, off, none⟩) len cap)).run Tryd.prog w = .ok (.string (bytes l)) w := by
  obtain ⟨a, cap', e, h1, h2, h3⟩ := h
  simp only [Value.slice.injEq] at e
  obtain ⟨rfl, rfl, rfl⟩ := e
  have hB : Lib.Bytes w b off (bytes l) := by
    intro i hi
    have hi' : i < l.length := by simpa [bytes, ByteArray.size] using hi
    obtain ⟨b', off', e, hlt, hc⟩ := h3 (by omega)
    simp only [Option.some.injEq, Addr.mk.injEq, and_true] at e
    obtain ⟨rfl, rfl⟩ := e
    rw [hc i hi']
    congr 3
  have := Lib.run_convert_whole (P := Tryd.prog) w 30 5 9 Tryd.underlying30 Tryd.underlying5 Tryd.underlying9 b off _ hB cap
  rw [bytes_size] at this
  exact this
/-- What lies there when so many letters are made small. -/
def lowAt (s : List UInt8) (j k : Nat) : UInt8 := if k < j then M.lowB (s.getD k 0) else s.getD k 0
theorem lowB_small (c : UInt8) (h1 : 65 ≤ c.toNat) (h2 : c.toNat ≤ 90) : ((M.lowB c).toNat : Int) = (c.toNat : Int) + 32 := by
  unfold M.lowB
  rw [if_pos ⟨h1, h2⟩, UInt8.toNat_add]
  have : (32 : UInt8).toNat = 32 := rfl
  omega
theorem lowB_other (c : UInt8) (h : ¬ (65 ≤ c.toNat ∧ c.toNat ≤ 90)) : M.lowB c = c := by unfold M.lowB; rw [if_neg h]
set_option maxRecDepth 100000 in
set_option maxHeartbeats 4000000 in
theorem flower_any (s : List UInt8) (w : World) (hl : s.length ≤ 4000000) :
    Calls Tryd.prog 14 #[.string (bytes s)] w fun e w' => e = .returned (.string (bytes (M.lowL s))) ∧ Below w.heap.size w w' := by
  have hcv := bw_conv w (bytes s)
  have hbs := bw_bs w (bytes s) (by rw [bytes_size]; omega)
  have hbb := bw_below w (bytes s)
  have hbz := bw_size w (bytes s)
  rw [bytes_list] at hbs
  have hfz : ∀ k, k < s.length → (Lib.bytesWorld w 5 (bytes s)).frozen? ⟨w.heap.size, k, none⟩ = false := by
    intro k hk
    have h1 := Lib.bytesWorld_at_new w 5 (bytes s)
    have h2 : s.length ≤ (Lib.bytesCells w 5 (bytes s)).size := by
      rcases Nat.lt_or_ge k (Lib.bytesCells w 5 (bytes s)).size with h | h
      · rcases Nat.lt_or_ge (s.length - 1) (Lib.bytesCells w 5 (bytes s)).size with h' | h'
        · omega
        · have := Lib.bytesWorld_cell w 5 (bytes s) (s.length - 1) (by rw [bytes_size]; omega)
          simp [World.cell?, h1, Array.getElem?_eq_none h'] at this
      · have := Lib.bytesWorld_cell w 5 (bytes s) k (by rw [bytes_size]; omega)
        simp [World.cell?, h1, Array.getElem?_eq_none h] at this
    unfold World.frozen?
    rw [h1]
    simp
    omega
  rw [bytes_size] at hcv hbs
  obtain ⟨n, hn⟩ : ∃ n, s.length = n := ⟨_, rfl⟩
  rw [hn] at hcv hbs hl hfz
  obtain ⟨cap, hcap⟩ : ∃ cap, grownCap w n 0 5 = cap := ⟨_, rfl⟩
  rw [hcap] at hcv hbs
  have hcell : ∀ k, k < n → (Lib.bytesWorld w 5 (bytes s)).cell? ⟨w.heap.size, k, none⟩ = some (.int .u8 ((s.getD k 0).toNat : Int)) := by
    intro k hk
    obtain ⟨a', cap', e, g1, g2, g3⟩ := hbs
    simp only [Value.slice.injEq] at e
    obtain ⟨rfl, -, rfl⟩ := e
    obtain ⟨b, off, e2, _, hc⟩ := g3 (by omega)
    simp only [Option.some.injEq, Addr.mk.injEq, and_true] at e2
    obtain ⟨rfl, rfl⟩ := e2
    have := hc k (by omega)
    rw [Nat.zero_add] at this
    rw [this]; simp [List.getD, show k < s.length by omega]
  have hcp : n ≤ cap ∧ cap ≤ maxLen := by
    obtain ⟨a', cap', e, g1, g2, g3⟩ := hbs
    simp only [Value.slice.injEq] at e
    obtain ⟨-, -, rfl⟩ := e
    exact ⟨by omega, g2⟩
  obtain ⟨W, hW⟩ : ∃ W, Lib.bytesWorld w 5 (bytes s) = W := ⟨_, rfl⟩
  rw [hW] at hcv hbs hbb hbz hfz hcell
  obtain ⟨S, hS⟩ : ∃ S, bytes s = S := ⟨_, rfl⟩
  rw [hS] at hcv ⊢
  have HN := Lib.hid hn
  have HCE := Lib.hid hcell
  have HF := Lib.hid hfz
  have HBB := Lib.hid hbb
  have HBZ := Lib.hid hbz
  have HCP := Lib.hid hcp
  have n0 : (n : Int) ≤ 4000000 := by omega
  clear hn hcell hfz hbb hbz hbs hS hW hcap hcp
  go_enter Tryd.func14, Tryd.ntmps14
  go_wp2
  go_loopw [10] (fun iv wr => ∃ j : Nat, iv = .int .i64 (j : Int) ∧ j ≤ n ∧ Below w.heap.size w wr ∧ (∀ k, k < n → wr.cell? ⟨w.heap.size, k, none⟩ = some (.int .u8 ((lowAt s j k).toNat : Int))) ∧ (∀ k, k < n → wr.frozen? ⟨w.heap.size, k, none⟩ = false) ∧ w.heap.size < wr.heap.size) (fun iv _ => n - (intOf iv).toNat)
  case atStart => exact ⟨0, rfl, by omega, HBB.out, fun k hk => by rw [HCE.out k hk]; simp [lowAt], HF.out, by have := HBZ.out; omega⟩
  case round =>
    obtain ⟨j, rfl, hj, hb, hce, hfr, hlt⟩ := hrel
    have HB := Lib.hid hb
    have HC := Lib.hid hce
    have HR := Lib.hid hfr
    have j0 : (0 : Int) ≤ j := by omega
    clear hb hce hfr
    by_cases hjn : j < n
    · have c0 := HC.out j hjn
      have f0 := HR.out j hjn
      have j1 : (j : Int) < n := by omega
      have hlow : lowAt s j j = s.getD j 0 := by unfold lowAt; rw [if_neg (by omega)]
      rw [hlow] at c0
      obtain ⟨x, hx⟩ : ∃ x, s.getD j 0 = x := ⟨_, rfl⟩
      rw [hx] at c0
      have HX := Lib.hid hx
      obtain ⟨X, hX⟩ : ∃ X : Int, (x.toNat : Int) = X := ⟨_, rfl⟩
      rw [hX] at c0
      have x0 : 0 ≤ X := by omega
      have x1 : X < 256 := by have := x.toNat_lt; omega
      have HXX := Lib.hid hX
      clear hlow hx hX
      by_cases h1 : 65 ≤ X
      · by_cases h2 : X ≤ 90
        · have hnew : ((M.lowB x).toNat : Int) = X + 32 := by rw [lowB_small x (by have := HXX.out; omega) (by have := HXX.out; omega), HXX.out]
          have HNEW := Lib.hid hnew
          clear hnew
          as_aux_lemma =>
            go_wp2
            go_roundw
            case rel =>
              refine ⟨j + 1, by go_num, by omega, HB.out.setCell (Nat.le_refl _) _, fun k hk => ?_, fun k hk => by rw [World.frozen?_setCell]; exact HR.out k hk, by simpa using hlt⟩
              by_cases hkj : k = j
              · subst hkj
                rw [World.cell?_setCell_same _ _ _ (HC.out k hk)]
                have e : lowAt s (k + 1) k = M.lowB x := by unfold lowAt; rw [if_pos (by omega), HX.out]
                rw [e, HNEW.out]
                congr 2 <;> omega
              · rw [World.cell?_setCell_other _ _ _ _ (by intro e; simp only [Addr.mk.injEq] at e; exact hkj e.2.1.symm), HC.out k hk]
                have e : lowAt s (j + 1) k = lowAt s j k := by
                  unfold lowAt
                  by_cases h : k < j
                  · rw [if_pos h, if_pos (by omega)]
                  · rw [if_neg h, if_neg (by omega)]
                rw [e]
            case measure => simp [intOf]; omega
        · have hnew : M.lowB x = x := lowB_other x (by have := HXX.out; omega)
          have HNEW := Lib.hid hnew
          clear hnew
          as_aux_lemma =>
            go_wp2
            go_roundw
            case rel =>
              refine ⟨j + 1, by go_num, by omega, HB.out, fun k hk => ?_, HR.out, hlt⟩
              rw [HC.out k hk]
              have e : lowAt s (j + 1) k = lowAt s j k := by
                unfold lowAt
                by_cases h : k < j
                · rw [if_pos h, if_pos (by omega)]
                · by_cases h2 : k = j
                  · subst h2; rw [if_pos (by omega), if_neg (by omega), HX.out, HNEW.out]
                  · rw [if_neg h, if_neg (by omega)]
              rw [e]
            case measure => simp [intOf]; omega
      · have hnew : M.lowB x = x := lowB_other x (by have := HXX.out; omega)
        have HNEW := Lib.hid hnew
        clear hnew
        as_aux_lemma =>
          go_wp2
          go_roundw
          case rel =>
            refine ⟨j + 1, by go_num, by omega, HB.out, fun k hk => ?_, HR.out, hlt⟩
            rw [HC.out k hk]
            have e : lowAt s (j + 1) k = lowAt s j k := by
              unfold lowAt
              by_cases h : k < j
              · rw [if_pos h, if_pos (by omega)]
              · by_cases h2 : k = j
                · subst h2; rw [if_pos (by omega), if_neg (by omega), HX.out, HNEW.out]
                · rw [if_neg h, if_neg (by omega)]
            rw [e]
          case measure => simp [intOf]; omega
    · obtain rfl : j = n := by omega
      have hbs : Bs wr (.slice (some ⟨w.heap.size, 0, none⟩) j cap) (M.lowL s) := by
        have hls : (M.lowL s).length = j := by unfold M.lowL; rw [List.length_map]; exact HN.out
        refine ⟨_, cap, by rw [hls], by rw [hls]; exact HCP.out.1, HCP.out.2, fun h0 => ⟨w.heap.size, 0, rfl, hlt, fun k hk => ?_⟩⟩
        rw [hls] at hk
        rw [Nat.zero_add, HC.out k hk]
        unfold lowAt
        rw [if_pos hk]
        have hks : k < s.length := by rw [HN.out]; exact hk
        have e1 : s.getD k 0 = s[k] := by simp [List.getD, hks]
        rw [e1]
        have e2 : ∀ (m : List UInt8) (h : k < m.length), m = s.map M.lowB → m[k] = M.lowB s[k] := by rintro m h rfl; exact List.getElem_map _
        rw [e2 (M.lowL s) _ rfl]
      have hcb := conv_bsF hbs
      clear hbs hjn
      as_aux_lemma =>
        go_wp2
        go_ret
        exact ⟨rfl, HB.out⟩
end Go.Proofs.YtilndlifmpbfnaaDoor
