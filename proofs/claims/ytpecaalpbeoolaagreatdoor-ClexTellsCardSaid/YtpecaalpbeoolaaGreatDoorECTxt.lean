/- Code points as a text: what cinput.Text returns (XCTxt without the reference's). -/
import Derived.Test.YtpecaalpbeoolaaGreatDoorECIn
import Derived.Test.YtpecaalpbeoolaaGreatDoorUPut
import Derived.Test.YtpecaalpbeoolaaGreatDoorURef2
import Derived.Deep.DeepCutAuto
import Derived.Outline
namespace Go.Proofs.YtpecaalpbeoolaaGreatDoor
open Go.RowKit
set_option linter.unusedVariables false
set_option linter.unusedSimpArgs false

theorem rs_cells {w : World} {b off : Nat} {l : List (Int × Int)} (h : ∀ j (h : j < (rvs l).length) i u, (rvs l)[j][i]? = some u → w.cell? ⟨b, off + (j * 2 + i), none⟩ = some u) :
    ∀ j (hj : j < l.length), w.cell? ⟨b, off + j * 2, none⟩ = some (.int .i64 (l[j]).1) ∧ w.cell? ⟨b, off + j * 2 + 1, none⟩ = some (.int .i64 (l[j]).2) := by
  intro j hj
  have hj' : j < (rvs l).length := by rw [rvs_len]; exact hj
  have e : (rvs l)[j] = rv l[j] := by simp [rvs]
  have h0 := h j hj' 0 (.int .i64 (l[j]).1) (by rw [e]; rfl)
  have h1 := h j hj' 1 (.int .i64 (l[j]).2) (by rw [e]; rfl)
  exact ⟨by simpa using h0, by rw [Nat.add_assoc]; exact h1⟩
/-- Code points that lie somewhere: the value, and each cell. -/
theorem rs_open {w : World} {v : Value} {l : List (Int × Int)} (h : Rs w v l) {n : Nat} (hn : l.length = n) :
    ∃ a cap, v = .slice a n cap ∧ n ≤ cap ∧ cap ≤ maxLen ∧ (0 < n → ∃ b off, a = some ⟨b, off, none⟩ ∧ b < w.heap.size ∧ ∀ j (hj : j < l.length), w.cell? ⟨b, off + j * 2, none⟩ = some (.int .i64 (l[j]).1) ∧ w.cell? ⟨b, off + j * 2 + 1, none⟩ = some (.int .i64 (l[j]).2)) := by
  obtain ⟨a, cap, rfl, h1, h2, h3⟩ := h
  rw [rvs_len, hn] at h1
  refine ⟨a, cap, by rw [rvs_len, hn], h1, h2, fun h0 => ?_⟩
  obtain ⟨b, off, rfl, hb, hc⟩ := h3 (by rw [rvs_len, hn]; exact h0)
  exact ⟨b, off, rfl, hb, rs_cells hc⟩
set_option maxRecDepth 100000 in
set_option maxHeartbeats 4000000 in
theorem ctext_any (v : Value) (l : List (Int × Int)) (t : List UInt8) (w : World) (hv : Rs w v l) (hl : l.length ≤ 100000) (ht : M.encR l = t) :
    Calls Tryz.prog 63 #[v] w fun e w' => e = .returned (.string (bytes t)) ∧ Below w.heap.size w w' := by
  obtain ⟨a, cap, rfl, h1, h2, h3⟩ := hv
  rw [rvs_len] at h1 ⊢
  obtain ⟨n, hn⟩ : ∃ n, l.length = n := ⟨_, rfl⟩
  have Hn := Lib.hid hn
  have Ht := Lib.hid ht
  have H3 := Lib.hid h3
  rw [hn] at h1 hl ⊢
  clear h3 hn ht
  go_enter Tryz.func63, Tryz.ntmps63
  go_wp2
  go_loopw [3, 5, 8] (fun ov _ iv wr => ∃ i : Nat, iv = .int .i64 i ∧ i ≤ n ∧ OwnB w.heap.size wr ov (M.encR (l.take i)) ∧ Below w.heap.size w wr) (fun _ _ iv _ => n - (intOf iv).toNat)
  case atStart => exact ⟨0, rfl, by omega, World.ownsRow_nil _ _ _ _, Below.refl _ _⟩
  case round =>
    obtain ⟨i, rfl, hi, ho, hb⟩ := hrel
    have hsz := hb.size
    by_cases hlt : i < n
    · obtain ⟨b, off, rfl, hbk, hcl⟩ := H3.out (by rw [rvs_len, Hn.out]; omega)
      obtain ⟨hc, hc2⟩ := rs_cells hcl i (by rw [Hn.out]; exact hlt)
      have hsn := M.encR_snoc l i (by rw [Hn.out]; exact hlt)
      have hln := M.encR_len (l.take i)
      rw [List.length_take] at hln
      obtain ⟨r, hr⟩ : ∃ r, (l[i]'(by rw [Hn.out]; exact hlt)).1 = r := ⟨_, rfl⟩
      obtain ⟨p, hp⟩ : ∃ r, (l[i]'(by rw [Hn.out]; exact hlt)).2 = r := ⟨_, rfl⟩
      rw [hr] at hc hsn
      rw [hp] at hc2
      have hcr := hb.cell (p := ⟨b, off + i * 2, none⟩) hbk
      rw [hc] at hcr
      have hcr2 := hb.cell (p := ⟨b, off + i * 2 + 1, none⟩) hbk
      rw [hc2] at hcr2
      obtain ⟨R, hR⟩ : ∃ R, M.encR (l.take i) = R := ⟨_, rfl⟩
      rw [hR] at ho hsn hln
      have hRl : R.length ≤ 1048576 := by omega
      have Hsn := Lib.hid hsn
      clear hcl hc hc2 hsn hln hr hp hR
      go_wp2_with fail
      refine (put_any (.slice none 0 0) [] (M.enc r) r _ (bs_nil _) (by simp) rfl).mono ?_
      rintro e w2 ⟨v2, rfl, ho2, hb2⟩
      have hba : Below w.heap.size w w2 := (hb.alloc hsz _).trans (hb2.mono (by simp; omega))
      have hoa : OwnB w.heap.size w2 u3 R := OwnB.keep (World.ownsRow.alloc ho _) hb2
      have hszb := hba.size
      have hel := M.enc_le r
      have hbs2 := ho2.bs
      have hnn2 : ∀ n c, v2 = .slice none n c → c = 0 := by
        obtain ⟨_, ⟨rfl, h0⟩ | ⟨g, cap, cur, rfl, _⟩⟩ := ho2
        · intro n c h; simp at h; omega
        · intro n c h; simp at h
      clear hb hb2 ho ho2
      go_wp2_with (at_builtin; refine wpl_append rfl _ _ rfl w.heap.size _ v2 R (M.enc r) (R ++ M.enc r) rfl hoa rfl hbs2 hnn2 (by omega) hszb rfl ?_)
      intro v3 w3 ho3 hb4
      have hb5 := hba.trans hb4
      clear hba hb4 hoa hbs2 hnn2
      go_wp2
      go_roundw
      case rel => exact ⟨i + 1, by go_num, by omega, by rw [Hsn.out]; exact ho3, hb5⟩
      case measure => simp [intOf]; omega
    · obtain rfl : i = n := by omega
      have hfull : M.encR (l.take i) = t := by rw [List.take_of_length_le (by rw [Hn.out]; exact Nat.le_refl _)]; exact Ht.out
      rw [hfull] at ho
      have hcv := conv_own ho
      clear hfull
      go_wp2
      go_ret
      exact ⟨rfl, hb⟩
end Go.Proofs.YtpecaalpbeoolaaGreatDoor
