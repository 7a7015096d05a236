/- The walk of JstringJoins. -/
import Derived.Test.YtmhjafpoaamkeaaJLaw
namespace Go.Proofs.Ytmhjafpoaamkeaa
open Go.RowKit
set_option linter.unusedVariables false

set_option maxHeartbeats 400000 in
theorem jjoins_out (a0 : Option Addr) (len0 cap0 : Nat) (a1 : Option Addr) (len1 cap1 : Nat) (k l : List Int) (w : World) (hk : k.length = len0) (hl : l.length = len1)
    (b0 : Is w (.slice a0 len0 cap0) k) (b1 : Is w (.slice a1 len1 cap1) l)
    (h : 100 < len0 ∨ (len0 ≤ 100 ∧ 100 < len1) ∨ (len0 ≤ 100 ∧ len1 ≤ 100 ∧ M.rightU k = false) ∨ (len0 ≤ 100 ∧ len1 ≤ 100 ∧ M.rightU k = true ∧ M.rightU l = false)) :
    Calls Try.prog 6 #[.slice a0 len0 cap0, .slice a1 len1 cap1] w fun e w' => e = .returned (.bool true) ∧ Below w.heap.size w w' := by
  have B0 := Lib.hid b0
  have B1 := Lib.hid b1
  have Hk := Lib.hid hk
  have Hl := Lib.hid hl
  clear b0 b1 hk hl
  rcases h with h | ⟨h1, h2⟩ | ⟨h1, h2, h3⟩ | ⟨h1, h2, h3, h4⟩
  · go_enter Try.func6, Try.ntmps6
    go_wp2_with fail
    refine (jalive_any _).mono ?_
    rintro e w1 ⟨rfl, hb⟩
    go_wp2
    go_ret
    exact ⟨rfl, hb⟩
  · go_enter Try.func6, Try.ntmps6
    go_wp2_with fail
    refine (jalive_any _).mono ?_
    rintro e w1 ⟨rfl, hb⟩
    go_wp2
    go_ret
    exact ⟨rfl, hb⟩
  · have H3 := Lib.hid h3
    clear h3
    go_enter Try.func6, Try.ntmps6
    go_wp2_with fail
    refine (jalive_any _).mono ?_
    rintro e w1 ⟨rfl, hb⟩
    go_wp2_with fail
    refine (runits_any _ k false _ (B0.out.keep hb) (by rw [Hk.out]; omega) H3.out).mono ?_
    rintro e w2 ⟨rfl, rfl⟩
    go_wp2
    go_ret
    exact ⟨rfl, hb⟩
  · have H3 := Lib.hid h3
    have H4 := Lib.hid h4
    clear h3 h4
    go_enter Try.func6, Try.ntmps6
    go_wp2_with fail
    refine (jalive_any _).mono ?_
    rintro e w1 ⟨rfl, hb⟩
    go_wp2_with fail
    refine (runits_any _ k true _ (B0.out.keep hb) (by rw [Hk.out]; omega) H3.out).mono ?_
    rintro e w2 ⟨rfl, rfl⟩
    go_wp2_with fail
    refine (runits_any _ l false _ (B1.out.keep hb) (by rw [Hl.out]; omega) H4.out).mono ?_
    rintro e w2 ⟨rfl, rfl⟩
    go_wp2
    go_ret
    exact ⟨rfl, hb⟩

/-- What a slice's own cells say. -/
theorem is_cell {w : World} {a : Option Addr} {len cap : Nat} {l : List Int} (h : Is w (.slice a len cap) l) (hl : 0 < len) :
    ∃ b off, a = some ⟨b, off, none⟩ ∧ b < w.heap.size ∧ l.length = len ∧ len ≤ cap ∧ ∀ j (h : j < l.length), w.cell? ⟨b, off + j, none⟩ = some (.int .i64 l[j]) := by
  obtain ⟨a', cap', he, h1, h2, h3⟩ := h
  simp only [Value.slice.injEq] at he
  obtain ⟨rfl, rfl, rfl⟩ := he
  obtain ⟨b, off, rfl, hb, hc⟩ := h3 hl
  exact ⟨b, off, rfl, hb, rfl, h1, hc⟩

theorem spell_join (k m : List Nat) (h : ∀ u v, k.getLast? = some u → m.head? = some v → M.isPair u v = false) (X Y Z : ByteArray)
    (hX : bytes (M.spell k) = X) (hY : bytes (M.spell m) = Y) (hZ : bytes (M.spell (k ++ m)) = Z) :
    2 ≤ X.size ∧ 2 ≤ Y.size ∧ X.extract 0 (X.size - 1) ++ Y.extract 1 Y.size = Z := by
  have e1 : X.size = (M.body k).length + 2 := by rw [← hX, bytes_size]; simp [M.spell]
  have e2 : Y.size = (M.body m).length + 2 := by rw [← hY, bytes_size]; simp [M.spell]
  refine ⟨by omega, by omega, ?_⟩
  apply ByteArray.ext
  rw [← hZ]
  rw [ByteArray.data_append, ByteArray.data_extract, ByteArray.data_extract, e1, e2, ← hX, ← hY]
  unfold bytes M.spell
  rw [M.body_append k m h]
  have q1 : (34 :: (M.body k ++ [34]) : List UInt8).dropLast = 34 :: M.body k := by rw [← List.cons_append, List.dropLast_concat]
  have q2 : List.take ((M.body m).length + 1) (M.body m ++ [34]) = M.body m ++ [34] := List.take_of_length_le (by simp)
  simp [q1, q2]

set_option maxHeartbeats 1000000 in
theorem jjoins_in (a0 : Option Addr) (len0 cap0 : Nat) (a1 : Option Addr) (len1 cap1 : Nat) (k m : List Nat) (w : World) (hk : k.length = len0) (hl : m.length = len1)
    (h1 : len0 ≤ 100) (h2 : len1 ≤ 100) (b0 : Is w (.slice a0 len0 cap0) (iN k)) (b1 : Is w (.slice a1 len1 cap1) (iN m)) (z0 : NN (.slice a0 len0 cap0)) (z1 : NN (.slice a1 len1 cap1))
    (hku : ∀ u ∈ k, u ≤ 65535) (hmu : ∀ u ∈ m, u ≤ 65535) :
    Calls Try.prog 6 #[.slice a0 len0 cap0, .slice a1 len1 cap1] w fun e w' => e = .returned (.bool true) ∧ Below w.heap.size w w' := by
  have B0 := Lib.hid b0
  have B1 := Lib.hid b1
  have R0 := Lib.hid (rightU_iN k hku)
  have R1 := Lib.hid (rightU_iN m hmu)
  obtain ⟨X, hX⟩ : ∃ X, bytes (M.spell k) = X := ⟨_, rfl⟩
  obtain ⟨Y, hY⟩ : ∃ X, bytes (M.spell m) = X := ⟨_, rfl⟩
  obtain ⟨Z, hZ⟩ : ∃ X, bytes (M.spell (k ++ m)) = X := ⟨_, rfl⟩
  have Hk := Lib.hid hk
  have Hl := Lib.hid hl
  have s1 := fun W hv => jspell_any (.slice a0 len0 cap0) k X W hv (by omega) hku hX
  have s2 := fun W hv => jspell_any (.slice a1 len1 cap1) m Y W hv (by omega) hmu hY
  have s3 := fun v W hv => jspell_any v (k ++ m) Z W hv (by rw [List.length_append]; omega) (fun u hu => (List.mem_append.1 hu).elim (hku u) (hmu u)) hZ
  have S1 := Lib.hid s1
  have S2 := Lib.hid s2
  have S3 := Lib.hid s3
  have Z0 := Lib.hid z0
  have Z1 := Lib.hid z1
  by_cases hp : ∃ u v, k.getLast? = some u ∧ m.head? = some v ∧ M.isPair u v = true
  · obtain ⟨u, v, hu, hv, hp⟩ := hp
    rw [M.isPair_iff] at hp
    have h0k : 0 < len0 := by
      cases k with
      | nil => simp at hu
      | cons _ _ => simp at hk; omega
    have h0m : 0 < len1 := by
      cases m with
      | nil => simp at hv
      | cons _ _ => simp at hl; omega
    obtain ⟨b, off, rfl, hbk, hlk, hck, hc⟩ := is_cell b0 h0k
    obtain ⟨b', off', rfl, hbm, hlm, hcm, hd⟩ := is_cell b1 h0m
    have hc1 := hc (len0 - 1) (by omega)
    have hd1 := hd 0 (by omega)
    have e1 : (iN k)[len0 - 1]'(by omega) = (u : Int) := by
      rw [List.getLast?_eq_getElem?, hk] at hu
      obtain ⟨_, hu⟩ := List.getElem?_eq_some_iff.1 hu
      simp [iN, hu]
    have e2 : (iN m)[0]'(by omega) = (v : Int) := by
      rw [List.head?_eq_getElem?] at hv
      obtain ⟨_, hv⟩ := List.getElem?_eq_some_iff.1 hv
      simp [iN, hv]
    rw [e1] at hc1
    rw [e2] at hd1
    obtain ⟨x, hx⟩ : ∃ x : Int, (u : Int) = x := ⟨_, rfl⟩
    obtain ⟨y, hy⟩ : ∃ x : Int, (v : Int) = x := ⟨_, rfl⟩
    rw [hx] at hc1
    rw [hy] at hd1
    have x1 : 55296 ≤ x := by omega
    have x2 : x < 56320 := by omega
    have y1 : 56320 ≤ y := by omega
    have y2 : y < 57344 := by omega
    have Hc1 := Lib.hid hc1
    have Hd1 := Lib.hid hd1
    have i1 : (0 : Int) < len0 := by omega
    have i2 : (0 : Int) < len1 := by omega
    clear s1 s2 s3 hX hY hZ b0 b1 z0 z1 hku hmu hu hv hp hc hd hk hl hlk hlm e1 e2 hx hy hc1 hd1
    go_enter Try.func6, Try.ntmps6
    go_wp2_with fail
    refine (jalive_any _).mono ?_
    rintro e w1 ⟨rfl, hb⟩
    go_wp2_with fail
    refine (runits_any _ (iN k) true _ (B0.out.keep hb) (by rw [iN_len, Hk.out]; omega) R0.out).mono ?_
    rintro e w2 ⟨rfl, rfl⟩
    go_wp2_with fail
    refine (runits_any _ (iN m) true _ (B1.out.keep hb) (by rw [iN_len, Hl.out]; omega) R1.out).mono ?_
    rintro e w2 ⟨rfl, rfl⟩
    have hcc := hb.cell (p := ⟨b, off + (len0 - 1), none⟩) hbk
    have hdd := hb.cell (p := ⟨b', off' + 0, none⟩) hbm
    rw [Hc1.out] at hcc
    rw [Hd1.out, Nat.add_zero] at hdd
    go_wp2
    go_ret
    exact ⟨rfl, hb⟩
  · have hnp : ∀ u v, k.getLast? = some u → m.head? = some v → M.isPair u v = false := by
      intro u v hu hv
      cases hh : M.isPair u v with
      | false => rfl
      | true => exact absurd ⟨u, v, hu, hv, hh⟩ hp
    obtain ⟨j1, j2, j3⟩ := spell_join k m hnp X Y Z hX hY hZ
    have J3 := Lib.hid j3
    have lX : X.size ≤ 1000 := by rw [← hX, bytes_size]; have := M.body_len k; simp [M.spell]; omega
    have lY : Y.size ≤ 1000 := by rw [← hY, bytes_size]; have := M.body_len m; simp [M.spell]; omega
    have happ : iN k ++ iN m = iN (k ++ m) := (iN_append k m).symm
    have Happ := Lib.hid happ
    have hcase : len0 = 0 ∨ (0 < len0 ∧ len1 = 0) ∨ (0 < len0 ∧ 0 < len1 ∧ ∃ b off b' off' x y, a0 = some ⟨b, off, none⟩ ∧ a1 = some ⟨b', off', none⟩ ∧ b < w.heap.size ∧ b' < w.heap.size ∧
        w.cell? ⟨b, off + (len0 - 1), none⟩ = some (.int .i64 x) ∧ w.cell? ⟨b', off', none⟩ = some (.int .i64 y) ∧ (x < 55296 ∨ (55296 ≤ x ∧ 56320 ≤ x) ∨ (55296 ≤ x ∧ x < 56320 ∧ y < 56320) ∨ (55296 ≤ x ∧ x < 56320 ∧ 56320 ≤ y ∧ 57344 ≤ y))) := by
      by_cases h0k : len0 = 0
      · exact .inl h0k
      · by_cases h0m : len1 = 0
        · exact .inr (.inl ⟨by omega, h0m⟩)
        · obtain ⟨b, off, rfl, hbk, hlk, hck, hc⟩ := is_cell b0 (by omega)
          obtain ⟨b', off', rfl, hbm, hlm, hcm, hd⟩ := is_cell b1 (by omega)
          have hc1 := hc (len0 - 1) (by omega)
          have hd1 := hd 0 (by omega)
          have e1 : (iN k)[len0 - 1]'(by omega) = ((k[len0 - 1]'(by omega) : Nat) : Int) := by simp [iN]
          have e2 : (iN m)[0]'(by omega) = ((m[0]'(by omega) : Nat) : Int) := by simp [iN]
          rw [e1] at hc1
          rw [e2] at hd1
          refine .inr (.inr ⟨by omega, by omega, b, off, b', off', _, _, rfl, rfl, hbk, hbm, hc1, hd1, ?_⟩)
          have := hnp (k[len0 - 1]'(by omega)) (m[0]'(by omega)) (by simp [List.getLast?_eq_getElem?, hk]) (by rw [List.head?_eq_getElem?]; simp)
          have hq : ¬ (55296 ≤ k[len0 - 1]'(by omega) ∧ k[len0 - 1]'(by omega) < 56320 ∧ 56320 ≤ m[0]'(by omega) ∧ m[0]'(by omega) < 57344) := by
            rw [← M.isPair_iff]; simp [this]
          omega
    clear s1 s2 s3 hX hY hZ b0 b1 z0 z1 hku hmu hp hnp hk hl j3 happ
    rcases hcase with rfl | ⟨g1, rfl⟩ | ⟨g1, g2, b, off, b', off', x, y, rfl, rfl, hbk, hbm, hc1, hd1, hxy⟩
    · go_enter Try.func6, Try.ntmps6
      go_wp2_with fail
      refine (jalive_any _).mono ?_
      rintro e w1 ⟨rfl, hb⟩
      go_wp2_with fail
      refine (runits_any _ (iN k) true _ (B0.out.keep hb) (by rw [iN_len, Hk.out]; omega) R0.out).mono ?_
      rintro e w2 ⟨rfl, rfl⟩
      go_wp2_with fail
      refine (runits_any _ (iN m) true _ (B1.out.keep hb) (by rw [iN_len, Hl.out]; omega) R1.out).mono ?_
      rintro e w2 ⟨rfl, rfl⟩
      go_wp2_with fail
      refine (S1.out _ (B0.out.keep hb)).mono ?_
      rintro e w2 ⟨rfl, hb2⟩
      have hb3 := hb.trans (hb2.mono hb.size)
      clear hb hb2
      go_wp2_with fail
      refine (S2.out _ (B1.out.keep hb3)).mono ?_
      rintro e w4 ⟨rfl, hb4⟩
      have hb5 := hb3.trans (hb4.mono hb3.size)
      have hs5 := hb5.size
      clear hb3 hb4
      go_wp2_with (at_builtin; refine wpl_appendI rfl _ _ rfl w.heap.size (.slice none 0 0) _ [] (iN k) (iN k) rfl (World.ownsRow_nil _ _ _ _) rfl (B0.out.keep hb5) Z0.out (by rw [iN_len, Hk.out]; simp <;> omega) hs5 rfl ?_)
      intro v6 w6 ho6 hb6
      have hb7 := hb5.trans hb6
      have hs7 := hb7.size
      clear hb5 hb6
      go_wp2_with (at_builtin; refine wpl_appendI rfl _ _ rfl w.heap.size v6 _ (iN k) (iN m) (iN (k ++ m)) rfl ho6 rfl (B1.out.keep hb7) Z1.out (by rw [iN_len, iN_len, Hk.out, Hl.out]; omega) hs7 Happ.out ?_)
      intro v8 w8 ho8 hb8
      have hb9 := hb7.trans hb8
      have his := ho8.is
      clear hb7 hb8 ho6 ho8
      go_wp2_with fail
      refine (S3.out _ _ his).mono ?_
      rintro e w10 ⟨rfl, hb10⟩
      have hb11 := hb9.trans (hb10.mono hb9.size)
      clear hb9 hb10 his
      go_wp2
      go_quiet (fail)
      go_wp2
      go_ret
      exact ⟨by rw [J3.out]; simp, below_drewN hb11 _⟩
    · go_enter Try.func6, Try.ntmps6
      go_wp2_with fail
      refine (jalive_any _).mono ?_
      rintro e w1 ⟨rfl, hb⟩
      go_wp2_with fail
      refine (runits_any _ (iN k) true _ (B0.out.keep hb) (by rw [iN_len, Hk.out]; omega) R0.out).mono ?_
      rintro e w2 ⟨rfl, rfl⟩
      go_wp2_with fail
      refine (runits_any _ (iN m) true _ (B1.out.keep hb) (by rw [iN_len, Hl.out]; omega) R1.out).mono ?_
      rintro e w2 ⟨rfl, rfl⟩
      go_wp2_with fail
      refine (S1.out _ (B0.out.keep hb)).mono ?_
      rintro e w2 ⟨rfl, hb2⟩
      have hb3 := hb.trans (hb2.mono hb.size)
      clear hb hb2
      go_wp2_with fail
      refine (S2.out _ (B1.out.keep hb3)).mono ?_
      rintro e w4 ⟨rfl, hb4⟩
      have hb5 := hb3.trans (hb4.mono hb3.size)
      have hs5 := hb5.size
      clear hb3 hb4
      go_wp2_with (at_builtin; refine wpl_appendI rfl _ _ rfl w.heap.size (.slice none 0 0) _ [] (iN k) (iN k) rfl (World.ownsRow_nil _ _ _ _) rfl (B0.out.keep hb5) Z0.out (by rw [iN_len, Hk.out]; simp <;> omega) hs5 rfl ?_)
      intro v6 w6 ho6 hb6
      have hb7 := hb5.trans hb6
      have hs7 := hb7.size
      clear hb5 hb6
      go_wp2_with (at_builtin; refine wpl_appendI rfl _ _ rfl w.heap.size v6 _ (iN k) (iN m) (iN (k ++ m)) rfl ho6 rfl (B1.out.keep hb7) Z1.out (by rw [iN_len, iN_len, Hk.out, Hl.out]; omega) hs7 Happ.out ?_)
      intro v8 w8 ho8 hb8
      have hb9 := hb7.trans hb8
      have his := ho8.is
      clear hb7 hb8 ho6 ho8
      go_wp2_with fail
      refine (S3.out _ _ his).mono ?_
      rintro e w10 ⟨rfl, hb10⟩
      have hb11 := hb9.trans (hb10.mono hb9.size)
      clear hb9 hb10 his
      go_wp2
      go_quiet (fail)
      go_wp2
      go_ret
      exact ⟨by rw [J3.out]; simp, below_drewN hb11 _⟩
    · have i1 : (0 : Int) < len0 := by omega
      have i2 : (0 : Int) < len1 := by omega
      have Hc1 := Lib.hid hc1
      have Hd1 := Lib.hid hd1
      clear hc1 hd1
      rcases hxy with x1 | ⟨x1, x2⟩ | ⟨x1, x2, y1⟩ | ⟨x1, x2, y1, y2⟩
      all_goals
        go_enter Try.func6, Try.ntmps6
        go_wp2_with fail
        refine (jalive_any _).mono ?_
        rintro e w1 ⟨rfl, hb⟩
        go_wp2_with fail
        refine (runits_any _ (iN k) true _ (B0.out.keep hb) (by rw [iN_len, Hk.out]; omega) R0.out).mono ?_
        rintro e w2 ⟨rfl, rfl⟩
        go_wp2_with fail
        refine (runits_any _ (iN m) true _ (B1.out.keep hb) (by rw [iN_len, Hl.out]; omega) R1.out).mono ?_
        rintro e w2 ⟨rfl, rfl⟩
        have hcc := hb.cell (p := ⟨b, off + (len0 - 1), none⟩) hbk
        have hdd := hb.cell (p := ⟨b', off', none⟩) hbm
        rw [Hc1.out] at hcc
        rw [Hd1.out] at hdd
        go_wp2_with fail
        refine (S1.out _ (B0.out.keep hb)).mono ?_
        rintro e w2 ⟨rfl, hb2⟩
        have hb3 := hb.trans (hb2.mono hb.size)
        clear hcc hdd hb hb2
        go_wp2_with fail
        refine (S2.out _ (B1.out.keep hb3)).mono ?_
        rintro e w4 ⟨rfl, hb4⟩
        have hb5 := hb3.trans (hb4.mono hb3.size)
        have hs5 := hb5.size
        clear hb3 hb4
        go_wp2_with (at_builtin; refine wpl_appendI rfl _ _ rfl w.heap.size (.slice none 0 0) _ [] (iN k) (iN k) rfl (World.ownsRow_nil _ _ _ _) rfl (B0.out.keep hb5) Z0.out (by rw [iN_len, Hk.out]; simp <;> omega) hs5 rfl ?_)
        intro v6 w6 ho6 hb6
        have hb7 := hb5.trans hb6
        have hs7 := hb7.size
        clear hb5 hb6
        go_wp2_with (at_builtin; refine wpl_appendI rfl _ _ rfl w.heap.size v6 _ (iN k) (iN m) (iN (k ++ m)) rfl ho6 rfl (B1.out.keep hb7) Z1.out (by rw [iN_len, iN_len, Hk.out, Hl.out]; omega) hs7 Happ.out ?_)
        intro v8 w8 ho8 hb8
        have hb9 := hb7.trans hb8
        have his := ho8.is
        clear hb7 hb8 ho6 ho8
        go_wp2_with fail
        refine (S3.out _ _ his).mono ?_
        rintro e w10 ⟨rfl, hb10⟩
        have hb11 := hb9.trans (hb10.mono hb9.size)
        clear hb9 hb10 his
        go_wp2
        go_quiet (fail)
        go_wp2
        go_ret
        exact ⟨by rw [J3.out]; simp, below_drewN hb11 _⟩

theorem jjoins_walk (a0 : Option Addr) (len0 cap0 : Nat) (z0 : List Int) (a1 : Option Addr) (len1 cap1 : Nat) (z1 : List Int) (w : World) (w0 : RowI w a0 len0 cap0 z0) (w1 : RowI w a1 len1 cap1 z1) :
    Calls Try.prog 6 #[.slice a0 len0 cap0, .slice a1 len1 cap1] w fun e w' => e = .returned (.bool true) ∧ Below w.heap.size w w' := by
  obtain ⟨k, hk, b0, n0⟩ := row_is w0
  obtain ⟨l, hl, b1, n1⟩ := row_is w1
  by_cases h1 : 100 < len0
  · exact jjoins_out a0 len0 cap0 a1 len1 cap1 k l w hk hl b0 b1 (.inl h1)
  · by_cases h2 : 100 < len1
    · exact jjoins_out a0 len0 cap0 a1 len1 cap1 k l w hk hl b0 b1 (.inr (.inl ⟨by omega, h2⟩))
    · cases h3 : M.rightU k with
      | false => exact jjoins_out a0 len0 cap0 a1 len1 cap1 k l w hk hl b0 b1 (.inr (.inr (.inl ⟨by omega, by omega, h3⟩)))
      | true =>
        cases h4 : M.rightU l with
        | false => exact jjoins_out a0 len0 cap0 a1 len1 cap1 k l w hk hl b0 b1 (.inr (.inr (.inr ⟨by omega, by omega, h3, h4⟩)))
        | true =>
          obtain ⟨k', rfl, hk'⟩ := iN_of k h3
          obtain ⟨l', rfl, hl'⟩ := iN_of l h4
          exact jjoins_in a0 len0 cap0 a1 len1 cap1 k' l' w (by rw [← hk, iN_len]) (by rw [← hl, iN_len]) (by omega) (by omega) b0 b1 n0 n1 hk' hl'
end Go.Proofs.Ytmhjafpoaamkeaa
