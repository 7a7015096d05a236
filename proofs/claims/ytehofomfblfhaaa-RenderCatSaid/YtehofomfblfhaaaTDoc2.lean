/- Documents: rows of what has no kids; may be; without new lines. -/
import Derived.Test.YtehofomfblfhaaaTDoc
import Derived.Test.YtehofomfblfhaaaMgB
namespace Go.Proofs.Ytehofomfblfhaaa
open Go.RowKit
set_option linter.unusedVariables false
set_option linter.unusedSimpArgs false

/-- What has no kids: its kind, its place, its text. -/
abbrev Lf := Int × Int × List UInt8
def lfv (x : Lf) : List Value := [.int .i64 x.1, .int .i64 x.2.1, .string (bytes x.2.2), .slice none 0 0]
def Ds (w : World) (v : Value) (l : List Lf) : Prop := Vs 4 w v (l.map lfv)
def OwnD (B : Nat) (w : World) (v : Value) (l : List Lf) : Prop := OwnV 24 4 B w v (l.map lfv)
theorem lfv_four (l : List Lf) : ∀ y ∈ l.map lfv, y.length = 4 := by
  intro y hy; simp only [List.mem_map] at hy; obtain ⟨s, _, rfl⟩ := hy; rfl
theorem lfv_one (l : List Lf) : ∀ y ∈ l.map lfv, ∀ c ∈ y, c.oneCell' = true := by
  intro y hy c hc
  simp only [List.mem_map] at hy
  obtain ⟨s, _, rfl⟩ := hy
  simp only [lfv, List.mem_cons, List.mem_nil_iff, or_false] at hc
  rcases hc with rfl | rfl | rfl | rfl <;> rfl
theorem ds_get {w : World} {v : Value} {l : List Lf} (h : Ds w v l) {n : Nat} (hn : l.length = n) : ∃ a cap, v = .slice a n cap ∧ n ≤ cap ∧ cap ≤ maxLen ∧ ∀ j (hj : j < l.length), ∃ b off, a = some ⟨b, off, none⟩ ∧ b < w.heap.size ∧
    w.cell? ⟨b, off + j * 4, none⟩ = some (.int .i64 (l[j]).1) ∧ w.cell? ⟨b, off + j * 4 + 1, none⟩ = some (.int .i64 (l[j]).2.1) ∧ w.cell? ⟨b, off + j * 4 + 2, none⟩ = some (.string (bytes (l[j]).2.2)) ∧ w.cell? ⟨b, off + j * 4 + 3, none⟩ = some (.slice none 0 0) := by
  obtain ⟨a, cap, rfl, h1, h2, h3⟩ := h
  rw [List.length_map] at h1 ⊢
  subst hn
  refine ⟨a, cap, rfl, h1, h2, fun j hj => ?_⟩
  obtain ⟨b, off, rfl, hb, hc⟩ := h3 (by rw [List.length_map]; omega)
  have hk := hc j (by simpa using hj)
  refine ⟨b, off, rfl, hb, ?_, ?_, ?_, ?_⟩
  · have := hk 0 (.int .i64 (l[j]).1) (by simp [lfv]); rwa [Nat.add_zero] at this
  · have := hk 1 (.int .i64 (l[j]).2.1) (by simp [lfv]); rwa [← Nat.add_assoc] at this
  · have := hk 2 (.string (bytes (l[j]).2.2)) (by simp [lfv]); rwa [← Nat.add_assoc] at this
  · have := hk 3 (.slice none 0 0) (by simp [lfv]); rwa [← Nat.add_assoc] at this
def LfOk (x : Lf) : Prop := LeafP x.1 x.2.1 (bytes x.2.2)
set_option maxRecDepth 100000 in
set_option maxHeartbeats 2000000 in
theorem rightk_any (k f : Int) (S : ByteArray) (v : Value) (l : List Lf) (d : Int) (w : World) (hv : Ds w v l) (hl : l.length ≤ 1000000) (hok : ∀ x ∈ l, LfOk x) :
    Calls Try.prog 46 #[.agg (dv k f S v), .int .i64 d] w fun e w' => e = .returned (.bool true) ∧ Below w.heap.size w w' := by
  obtain ⟨n, hn⟩ : ∃ n, l.length = n := ⟨_, rfl⟩
  obtain ⟨a, cap, rfl, h1, h2, h3⟩ := ds_get hv hn
  rw [hn] at hl
  have HN := Lib.hid hn
  have H3 := Lib.hid h3
  have HOK := Lib.hid hok
  have RL := Lib.hid (fun (x : Lf) (hx : x ∈ l) W => rightl_any x.1 x.2.1 (bytes x.2.2) d W (hok x hx))
  have b0 := Lib.hid ((Below.refl w.heap.size w).alloc (Nat.le_refl _) (.cells #[.int .i64 k, .int .i64 f, .string S, .slice a n cap] 24))
  obtain ⟨W1, hW1⟩ : ∃ W, w.alloc (.cells #[.int .i64 k, .int .i64 f, .string S, .slice a n cap] 24) = W := ⟨_, rfl⟩
  rw [hW1] at b0
  have HW1 := Lib.hid hW1
  clear hv hn h3 hok hW1
  unfold dv
  go_enter Try.func46, Try.ntmps46
  go_wp2
  rw [HW1.out]
  go_loopw [6, 10] (fun _ iv wr => ∃ j : Nat, iv = .int .i64 (j : Int) ∧ j ≤ n ∧ Below W1.heap.size W1 wr) (fun _ iv _ => n - (intOf iv).toNat)
  case atStart => exact ⟨0, rfl, by omega, Below.refl _ _⟩
  case round =>
    obtain ⟨j, rfl, hj, hb⟩ := hrel
    have HB := Lib.hid (b0.out.trans (hb.mono b0.out.size))
    have HBR := Lib.hid hb
    clear hb
    by_cases hlt : j < n
    · have hjl : j < l.length := by rw [HN.out]; exact hlt
      obtain ⟨b, off, rfl, hbk, c0, c1, c2, c3⟩ := H3.out j hjl
      have g0 := (HB.out.cell (p := ⟨b, off + j * 4, none⟩) hbk).trans c0
      have g1 := (HB.out.cell (p := ⟨b, off + j * 4 + 1, none⟩) hbk).trans c1
      have g2 := (HB.out.cell (p := ⟨b, off + j * 4 + 2, none⟩) hbk).trans c2
      have g3 := (HB.out.cell (p := ⟨b, off + j * 4 + 3, none⟩) hbk).trans c3
      have R1 := Lib.hid (RL.out (l[j]) (List.getElem_mem hjl))
      obtain ⟨x, hx⟩ : ∃ x, l[j] = x := ⟨_, rfl⟩
      rw [hx] at g0 g1 g2 R1
      obtain ⟨x0, x1, x2⟩ := x
      unfold dv at R1
      simp only at g0 g1 g2 R1
      obtain ⟨X, hX⟩ : ∃ X, bytes x2 = X := ⟨_, rfl⟩
      rw [hX] at g2 R1
      have j0 : (0 : Int) ≤ j := by omega
      have j1 : (j : Int) < n := by omega
      have D1 := Lib.hid (fun W (h : Below (wr.alloc (.cells #[.int .i64 x0, .int .i64 x1, .string X, .slice none 0 0] 24)).heap.size (wr.alloc (.cells #[.int .i64 x0, .int .i64 x1, .string X, .slice none 0 0] 24)) W) => HBR.out.trans ((keep4 h).2.2.2.2.mono HBR.out.size))
      clear c0 c1 c2 c3 hx hX hjl
      as_aux_lemma =>
        go_wp2_with fail
        refine (R1.out _).mono ?_
        rintro e w2 ⟨rfl, hb2⟩
        have d2 := D1.out _ hb2
        clear hb2
        go_wp2
        go_roundw
        case rel => exact ⟨j + 1, by go_num, by omega, d2⟩
        case measure => simp [intOf]; omega
    · obtain rfl : j = n := by omega
      have t1 : decide ((j : Int) < j) = false := by simp
      clear hlt
      as_aux_lemma =>
        go_wp2
        go_ret
        exact ⟨rfl, HB.out⟩
set_option maxRecDepth 100000 in
set_option maxHeartbeats 1000000 in
theorem rightn_any (v : Value) (l : List Lf) (d : Int) (hd : 0 < d) (hd2 : d ≤ 1000) (w : World) (hv : Ds w v l) (hl : l.length ≤ 1000000) (hok : ∀ x ∈ l, LfOk x) :
    Calls Try.prog 36 #[.agg (dv 6 0 ⟨#[]⟩ v), .int .i64 d] w fun e w' => e = .returned (.bool true) ∧ Below w.heap.size w w' := by
  have H := Lib.hid (fun W => hasnt_any 6 v W)
  have RK := Lib.hid (fun W (hW : Below w.heap.size w W) => rightk_any 6 0 ⟨#[]⟩ v l (d - 1) W (Vs.keep hv hW) hl hok)
  clear hv hok
  unfold dv at H RK ⊢
  go_enter Try.func36, Try.ntmps36
  go_wp2_with fail
  refine (H.out _).mono ?_
  rintro e w1 ⟨rfl, hb1⟩
  obtain ⟨g0, g1, g2, g3, hb⟩ := keep4 hb1
  clear hb1
  go_wp2_with fail
  refine (RK.out _ hb).mono ?_
  rintro e w2 ⟨rfl, hb2⟩
  have d2 := hb.trans (hb2.mono hb.size)
  go_wp2
  go_ret
  exact ⟨rfl, d2⟩
end Go.Proofs.Ytehofomfblfhaaa
