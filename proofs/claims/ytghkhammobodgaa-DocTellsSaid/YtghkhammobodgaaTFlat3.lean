/- doc.Right and doc.Flat of any document. -/
import Derived.Test.YtghkhammobodgaaTFlat2
namespace Go.Proofs.Ytghkhammobodgaa
open Go.RowKit
set_option linter.unusedVariables false
set_option linter.unusedSimpArgs false

theorem fc_one (k f : Int) (s : ByteArray) (kids : Fo) (FC0 : ∀ j k f s kids', kids.at? j = some (k, f, s, kids') → FC k f s kids') : FC k f s kids := by
  intro pre B bv v W0 w hv hB0 hW ho hB hsz
  have hv' := hv
  obtain ⟨a, c, rfl⟩ := hv.slice
  by_cases h1 : k = 1
  · subst h1
    have e : bytes s.data.toList = s := by simp [bytes]
    have := af_text f s.data.toList a kids.len c bv pre B w ho hB (by simp; omega)
    rw [e] at this
    exact this
  by_cases h2 : k = 2
  · subst h2
    exact af_space f s a kids.len c bv pre B w ho hB (by omega)
  by_cases h4 : k = 4
  · subst h4
    have := af_hard f s a kids.len c bv pre B w ho hB
    rw [← List.append_nil pre] at this
    exact this
  have e : flatD k s kids = flatF kids := by unfold flatD; rw [if_neg h1, if_neg h2, if_neg h4]
  rw [e]
  exact af_node k f s kids FC0 h1 h2 h4 pre B bv _ W0 w hv' hB0 hW ho hB (by omega) _ rfl
theorem fc_list (L : Fo) : ∀ j k f s kids, L.at? j = some (k, f, s, kids) → FC k f s kids := by
  induction L with
  | nil => intro j k f s kids h; simp [Fo.at?] at h
  | cons k0 f0 s0 kids0 rest ih1 ih2 =>
    intro j k f s kids h
    cases j with
    | zero =>
      simp only [Fo.at?, Option.some.injEq, Prod.mk.injEq] at h
      obtain ⟨rfl, rfl, rfl, rfl⟩ := h
      exact fc_one k0 f0 s0 kids0 ih1
    | succ j => exact ih2 j k f s kids h
/-- doc.appendFlat of any document. -/
theorem fc_any (k f : Int) (s : ByteArray) (kids : Fo) : FC k f s kids := fc_one k f s kids (fc_list kids)
set_option maxRecDepth 100000 in
set_option maxHeartbeats 2000000 in
theorem rightT_any (k f : Int) (s : ByteArray) (kids : Fo) (v : Value) (w : World) (hv : FoS w v kids) :
    Calls Try.prog 16 #[.agg (dv k f s v)] w fun e w' => e = .returned (.bool (rightD k f s kids 200)) ∧ Below w.heap.size w w' := by
  have hv' := hv
  obtain ⟨a, c, rfl⟩ := hv.slice
  have b0 := Lib.hid ((Below.refl w.heap.size w).alloc (Nat.le_refl _) (.cells #[.int .i64 k, .int .i64 f, .string s, .slice a kids.len c] 24))
  have R := Lib.hid (rc_any k f s kids 200 _ _ (by decide) (hv'.keep b0.out))
  obtain ⟨n, hn⟩ : ∃ n, kids.len = n := ⟨_, rfl⟩
  rw [hn] at R b0 ⊢
  generalize rightD k f s kids 200 = ans at R ⊢
  clear hv hv' hn
  unfold dv at R ⊢
  go_enter Try.func16, Try.ntmps16
  go_wp2_with fail
  refine (R.out).mono ?_
  rintro e w1 ⟨rfl, hb1⟩
  have hfin := b0.out.trans (hb1.mono b0.out.size)
  clear hb1
  go_wp2
  go_ret
  exact ⟨rfl, hfin⟩
/-- What doc.Flat gives. -/
def flatV (k f : Int) (s : ByteArray) (kids : Fo) : Value :=
  if rightD k f s kids 200 = true ∧ (flatD k s kids).2 = true then .tuple #[.string (bytes (flatD k s kids).1), .bool true] else .tuple #[.string ⟨#[]⟩, .bool false]
set_option maxRecDepth 100000 in
set_option maxHeartbeats 2000000 in
theorem flatT_any (k f : Int) (s : ByteArray) (kids : Fo) (v : Value) (w : World) (hv : FoS w v kids) (hsz : s.size + 1 + FoSz kids ≤ 1000000) :
    Calls Try.prog 14 #[.agg (dv k f s v)] w fun e w' => e = .returned (flatV k f s kids) ∧ Below w.heap.size w w' := by
  have hv' := hv
  have R := Lib.hid (fun W (hW : Below w.heap.size w W) => rightT_any k f s kids v W (hv'.keep hW))
  have AF := Lib.hid (fun W (hW : Below w.heap.size w W) => fc_any k f s kids [] W.heap.size (.slice none 0 0) v W W (hv'.keep hW) (Nat.le_refl _) (Below.refl _ _) (World.ownsRow_nil _ _ _ _) (Nat.le_refl _) (by simpa using hsz))
  obtain ⟨a, c, rfl⟩ := hv.slice
  have b0 := Lib.hid ((Below.refl w.heap.size w).alloc (Nat.le_refl _) (.cells #[.int .i64 k, .int .i64 f, .string s, .slice a kids.len c] 24))
  obtain ⟨n, hn⟩ : ∃ n, kids.len = n := ⟨_, rfl⟩
  unfold flatV
  simp only [List.nil_append] at AF
  rw [hn] at R AF b0 ⊢
  generalize rightD k f s kids 200 = ans at R ⊢
  obtain ⟨⟨t, ok⟩, hT⟩ : ∃ x, flatD k s kids = x := ⟨_, rfl⟩
  rw [hT] at AF ⊢
  simp only at AF ⊢
  clear hv hv' hn hT hsz
  unfold dv at R AF ⊢
  cases ans with
  | false =>
    rw [if_neg (by simp)]
    go_enter Try.func14, Try.ntmps14
    go_wp2_with fail
    refine (R.out _ b0.out).mono ?_
    rintro e w1 ⟨rfl, hb1⟩
    have d1 := b0.out.trans (hb1.mono b0.out.size)
    clear hb1
    go_wp2
    go_ret2
    exact ⟨rfl, d1⟩
  | true =>
    cases ok with
    | false =>
      rw [if_neg (by simp)]
      go_enter Try.func14, Try.ntmps14
      go_wp2_with fail
      refine (R.out _ b0.out).mono ?_
      rintro e w1 ⟨rfl, hb1⟩
      obtain ⟨g0, g1, g2, g3, d1⟩ := keep4 hb1
      clear hb1
      go_wp2_with fail
      refine (AF.out _ d1).mono ?_
      rintro e w2 ⟨v2, rfl, ho2, hb2, -⟩
      have hfin := d1.trans (hb2.mono d1.size)
      clear hb2 d1 ho2
      go_wp2
      go_ret2
      exact ⟨rfl, hfin⟩
    | true =>
      rw [if_pos ⟨rfl, rfl⟩]
      go_enter Try.func14, Try.ntmps14
      go_wp2_with fail
      refine (R.out _ b0.out).mono ?_
      rintro e w1 ⟨rfl, hb1⟩
      obtain ⟨g0, g1, g2, g3, d1⟩ := keep4 hb1
      clear hb1
      go_wp2_with fail
      refine (AF.out _ d1).mono ?_
      rintro e w2 ⟨v2, rfl, ho2, hb2, -⟩
      have hcv := conv_own ho2
      have hfin := d1.trans (hb2.mono d1.size)
      clear hb2 d1 ho2
      go_wp2
      go_ret2
      exact ⟨rfl, hfin⟩
end Go.Proofs.Ytghkhammobodgaa
