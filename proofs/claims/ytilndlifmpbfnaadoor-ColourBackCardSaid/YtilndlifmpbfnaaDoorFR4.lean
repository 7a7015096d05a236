/- Tokens of CSS, the page's own: numbers. -/
import Derived.Test.YtilndlifmpbfnaaDoorBgF
import Derived.Test.YtilndlifmpbfnaaDoorNRNum
import Derived.Test.YtilndlifmpbfnaaDoorBgD
import Derived.Deep.DeepCutAuto
namespace Go.Proofs.YtilndlifmpbfnaaDoor.M
open Go.Lib
set_option linter.unusedVariables false
set_option linter.unusedSimpArgs false
/-- Is there a power? -/
def exB (D : List Int) : Bool := (decide (D.getD (num2 D) (-1) = 101) || decide (D.getD (num2 D) (-1) = 69)) && nDg (D.getD (num2 D + 1 + sgN (D.drop (num2 D + 1))) (-1))
theorem encZs_asc' (l : List Int) (h : ∀ r ∈ l, numC r) : (encZs l).map (fun c => (c.toNat : Int)) = l := (encZs_asc l (fun r hr => by have := h r hr; unfold numC at this; omega)).2.2
theorem take_numC (D : List Int) : ∀ r ∈ D.take (numE D), numC r := by
  intro r hr
  obtain ⟨k, hk, e⟩ := take_mem _ _ _ hr
  rw [← e]; exact numE_range D k hk
theorem whole_iff (l : List UInt8) (L : List Int) (h : l.map (fun c => (c.toNat : Int)) = L) : wholeL l = true ↔ ∀ r ∈ L, r ≠ 46 ∧ r ≠ 101 ∧ r ≠ 69 := by
  subst h
  unfold wholeL
  rw [List.all_eq_true]
  have key : ∀ (c n : UInt8), (c.toNat : Int) = (n.toNat : Int) → c = n := fun c n h => UInt8.toNat_inj.1 (by omega)
  constructor
  · intro hh r hr
    obtain ⟨c, hc, rfl⟩ := List.mem_map.1 hr
    have := hh c hc
    simp at this
    exact ⟨fun e => this.1.1 (key c 46 e), fun e => this.1.2 (key c 101 e), fun e => this.2 (key c 69 e)⟩
  · intro hh c hc
    have := hh _ (List.mem_map.2 ⟨c, hc, rfl⟩)
    obtain ⟨a, b, d⟩ := this
    simp
    exact ⟨⟨fun e => a (by rw [e]; rfl), fun e => b (by rw [e]; rfl)⟩, fun e => d (by rw [e]; rfl)⟩
theorem mem_take_of (D : List Int) (n k : Nat) (hk : k < n) (hn : n ≤ D.length) : D.getD k (-1) ∈ D.take n := by
  have hl : k < D.length := by omega
  have e : D.getD k (-1) = (D.take n)[k]'(by rw [List.length_take]; omega) := by rw [List.getElem_take]; simp [List.getD, hl]
  rw [e]; exact List.getElem_mem _
theorem whole_page (D : List Int) (h : numB D = true) : wholeL (encZs (D.take (numE D))) = !(fracB (D.drop (num1 D)) || exB D) := by
  have hle := (numE_le D h).2
  have hi := whole_iff _ _ (encZs_asc' _ (take_numC D))
  have h12 : num1 D ≤ num2 D := by unfold num2; split <;> omega
  have h2e : num2 D ≤ numE D := by unfold numE; split; (split <;> omega); omega
  cases hf : fracB (D.drop (num1 D)) with
  | true =>
    have h46 : D.getD (num1 D) (-1) = 46 := by
      unfold fracB at hf
      simp only [Bool.and_eq_true, decide_eq_true_eq] at hf
      rw [← hf.1, drop_getD, Nat.add_zero]
    have hlt : num1 D < num2 D := by unfold num2; rw [if_pos hf]; omega
    cases hw : wholeL (encZs (D.take (numE D))) with
    | false => rfl
    | true => exact absurd h46 (hi.1 hw _ (mem_take_of D _ _ (by omega) hle)).1
  | false =>
    cases he : exB D with
    | true =>
      unfold exB at he
      simp only [Bool.and_eq_true, Bool.or_eq_true, decide_eq_true_eq] at he
      have hlt : num2 D < numE D := by unfold numE; rw [if_pos he.1, if_pos he.2]; omega
      cases hw : wholeL (encZs (D.take (numE D))) with
      | false => rfl
      | true =>
        have := hi.1 hw _ (mem_take_of D _ _ hlt hle)
        rcases he.1 with e | e
        · exact absurd e this.2.1
        · exact absurd e this.2.2
    | false =>
      have e1 : numE D = num1 D := by
        have e2 : num2 D = num1 D := by unfold num2; rw [hf]; rfl
        unfold numE
        split
        · rename_i h1
          rw [if_neg]
          · exact e2
          · intro h2
            unfold exB at he
            rw [h2, Bool.and_true] at he
            simp only [Bool.or_eq_false_iff, decide_eq_false_iff_not] at he
            rcases h1 with e | e
            · exact he.1 e
            · exact he.2 e
        · exact e2
      rw [e1]
      rw [e1] at hi hle
      show wholeL (encZs (List.take (num1 D) D)) = true
      rw [hi]
      intro r hr
      obtain ⟨k, hk, e⟩ := take_mem _ _ _ hr
      unfold num1 at hk
      by_cases h1 : k < sgN D
      · unfold sgN at h1
        split at h1
        · obtain rfl : k = 0 := by omega
          omega
        · omega
      · have := digN_get (D.drop (sgN D)) (k - sgN D) (by omega)
        rw [drop_getD, show sgN D + (k - sgN D) = k by omega, e, nDg_iff] at this
        omega
theorem sign_page (D : List Int) (h : numB D = true) : ((encZs (D.take (numE D))).head? == some 43) = decide (D.getD 0 (-1) = 43) := by
  obtain ⟨h1, h2⟩ := numE_le D h
  have hc := numE_range D 0 h1
  cases D with
  | nil => simp at h2; omega
  | cons r t =>
    obtain ⟨n, hn⟩ : ∃ n, numE (r :: t) = n + 1 := ⟨numE (r :: t) - 1, by omega⟩
    rw [hn, List.take_succ_cons, encZs_cons]
    have hr : (r :: t).getD 0 (-1) = r := rfl
    rw [hr] at hc ⊢
    have hb : 0 ≤ r ∧ r < 128 := by unfold numC at hc; omega
    obtain ⟨e1, e2⟩ := enc_asc r hb.1 hb.2
    rw [e1, List.singleton_append, List.head?_cons]
    by_cases h43 : r = 43
    · subst h43; rfl
    · rw [decide_eq_false h43]
      have : r.toNat.toUInt8 ≠ 43 := fun e => by
        have := congrArg UInt8.toNat e
        rw [e2] at this
        have e3 : (43 : UInt8).toNat = 43 := rfl
        omega
      simp [this]
end Go.Proofs.YtilndlifmpbfnaaDoor.M
namespace Go.Proofs.YtilndlifmpbfnaaDoor
open Go.RowKit
set_option linter.unusedVariables false
set_option linter.unusedSimpArgs false

/-- On the way: the result's block is empty yet, the token's holds this one. -/
def Stn (w : World) (b8 : Nat) (t : M.CT) (W : World) : Prop := CB W w.heap.size (ctv {} 0) ∧ CB W b8 (ctv t 0) ∧ Below w.heap.size w W ∧ w.heap.size < b8
theorem Stn.put {w W : World} {b8 : Nat} {t t' : M.CT} (h : Stn w b8 t W) (j : Nat) (u : Value) (e : (ctv t 0).setIfInBounds j u = ctv t' 0) : Stn w b8 t' (W.setCell ⟨b8, j, none⟩ u) :=
  ⟨h.1.other (Nat.ne_of_lt h.2.2.2) _ _, by have := h.2.1.put j u; rw [e] at this; exact this, h.2.2.1.setCell (Nat.le_of_lt h.2.2.2) _, h.2.2.2⟩
theorem Stn.go {w W W' : World} {b8 : Nat} {t : M.CT} (h : Stn w b8 t W) (hb : Below W.heap.size W W') : Stn w b8 t W' :=
  ⟨h.1.keep hb h.1.lt, h.2.1.keep hb h.2.1.lt, h.2.2.1.trans (hb.mono h.2.2.1.size), h.2.2.2⟩
theorem fracB_at (c : List Int) (k : Nat) : M.fracB (c.drop k) = (decide (c.getD k (-1) = 46) && M.nDg (c.getD (k + 1) (-1))) := by
  unfold M.fracB; rw [getD_drop, getD_drop, Nat.add_zero]
set_option maxRecDepth 100000 in
set_option maxHeartbeats 16000000 in
theorem rnumbers_any (v : Value) (L : List (Int × Int)) (c : List Int) (i : Nat) (t : M.CT) (K : Nat) (w : World) (hv : Rs w v L) (hc : cps L = c) (hl : L.length ≤ 40000) (hi : i < L.length) (hnb : M.numB (c.drop i) = true)
    (ht : (M.numT (c.drop i)).1 = t) (hK : i + (M.numT (c.drop i)).2 = K) :
    Calls Tryd.prog 27 #[v, .int .i64 (i : Int)] w (TkR w t K) := by
  have hlc := hv.lc
  rw [hc] at hlc
  have hcl : c.length = L.length := by rw [← hc, cps_len]
  have hle := M.numE_le _ hnb
  rw [List.length_drop, hcl] at hle
  have hwhole := M.whole_page _ hnb
  have hsign := M.sign_page _ hnb
  have hasc := M.num_asc (c.drop i)
  obtain ⟨n, hn⟩ : ∃ n, L.length = n := ⟨_, rfl⟩
  obtain ⟨s, hs⟩ : ∃ s, M.encZs ((c.drop i).take (M.numE (c.drop i))) = s := ⟨_, rfl⟩
  have hsl : s.length ≤ 80000 := by
    have := (M.encZs_asc ((c.drop i).take (M.numE (c.drop i))) (by
      intro r hr
      obtain ⟨k, hk, e⟩ := M.take_mem _ _ r hr
      have := M.numE_range _ k hk
      rw [e] at this
      unfold M.numC at this
      omega)).2.1
    rw [hs] at this
    have h5 : ((c.drop i).take (M.numE (c.drop i))).length ≤ n := by simp; omega
    omega
  have AT := Lib.hid (fun (W : World) (hW : Below w.heap.size w W) (j : Nat) (y : Int) (hy : c.getD j (-1) = y) => rat_any v c j y W (hlc.keep hW) (by omega) hy)
  -- the places
  have hn4 := numE_at c i
  obtain ⟨k1, hk1⟩ : ∃ k, nE2 c i = k := ⟨_, rfl⟩
  obtain ⟨k2, hk2⟩ : ∃ k, nE3 c k1 = k := ⟨_, rfl⟩
  obtain ⟨m, hm⟩ : ∃ m, i + M.numE (c.drop i) = m := ⟨_, rfl⟩
  rw [hk1, hk2, hm] at hn4
  have him : i ≤ m := by omega
  have hmn : m ≤ n := by omega
  have hnum1 : i + M.num1 (c.drop i) = k1 := by rw [← hk1]; unfold M.num1 nE2; rw [List.drop_drop]; omega
  have hnum2 : i + M.num2 (c.drop i) = k2 := by
    rw [← hk2]; unfold M.num2 nE3
    rw [List.drop_drop, List.drop_drop, ← Nat.add_assoc, hnum1]
    split <;> omega
  have hfr : M.fracB ((c.drop i).drop (M.num1 (c.drop i))) = M.fracB (c.drop k1) := by rw [List.drop_drop, hnum1]
  have hex : M.exB (c.drop i) = ((decide (c.getD k2 (-1) = 101) || decide (c.getD k2 (-1) = 69)) && M.nDg (c.getD (nEd c k2) (-1))) := by
    unfold M.exB nEd
    rw [getD_drop, getD_drop, List.drop_drop, hnum2, show i + (M.num2 (c.drop i) + 1) = k2 + 1 by omega, show i + (M.num2 (c.drop i) + 1 + M.sgN (c.drop (k2 + 1))) = k2 + 1 + M.sgN (c.drop (k2 + 1)) by omega]
  rw [hfr, hex, hs] at hwhole
  rw [hs, getD_drop, Nat.add_zero] at hsign
  rw [hs] at hasc
  obtain ⟨fr, hfrv⟩ : ∃ b, M.fracB (c.drop k1) = b := ⟨_, rfl⟩
  obtain ⟨eb, hebv⟩ : ∃ b, (decide (c.getD k2 (-1) = 101) || decide (c.getD k2 (-1) = 69)) = b := ⟨_, rfl⟩
  obtain ⟨ed, hedv⟩ : ∃ b, M.nDg (c.getD (nEd c k2) (-1)) = b := ⟨_, rfl⟩
  rw [hfrv, hebv, hedv] at hwhole
  have hm4 : m = if eb = true then (if ed = true then nEd c k2 + M.digN (c.drop (nEd c k2)) else k2) else k2 := by
    rw [hn4]; unfold nE4
    rw [hedv]
    by_cases h : c.getD k2 (-1) = 101 ∨ c.getD k2 (-1) = 69
    · rw [if_pos h, if_pos (show eb = true by rw [← hebv]; simpa using h)]
    · rw [if_neg h, if_neg (show ¬ eb = true by rw [← hebv]; simpa using h)]
  have hk23 : k2 = if fr = true then k1 + 1 + M.digN (c.drop (k1 + 1)) else k1 := by rw [← hk2]; unfold nE3; rw [hfrv]
  -- sizes
  have z2 : k2 ≤ m := by have h2 : M.num2 (c.drop i) ≤ M.numE (c.drop i) := by { unfold M.numE; split; (split <;> omega); omega }; omega
  have z1 : k1 ≤ k2 := by rw [hk23]; split <;> omega
  obtain ⟨y0, hy0⟩ : ∃ y, c.getD i (-1) = y := ⟨_, rfl⟩
  obtain ⟨k0, hk0⟩ : ∃ k, i + M.sgN (c.drop i) = k := ⟨_, rfl⟩
  have hk01 : k0 + M.digN (c.drop k0) = k1 := by rw [← hk1]; unfold nE2; rw [hk0]
  have hk0v : k0 = if y0 = 43 ∨ y0 = 45 then i + 1 else i := by rw [← hk0, sgN_page, hy0]; split <;> omega
  rw [hy0] at hsign
  have RW := Lib.hid (fun (W : World) (hW : Below w.heap.size w W) => rraw_any v L c i m W (rs_keep hv hW) hc (by omega) (by omega) him (by omega))
  rw [show m - i = M.numE (c.drop i) by omega, hs] at RW
  obtain ⟨r, ok, hr⟩ : ∃ r ok, M.readN s = (r, ok) := ⟨_, _, rfl⟩
  have RD := Lib.hid (fun W => refread_any s r ok W (by omega) hr)
  have BG := Lib.hid (fun W (hW : Below w.heap.size w W) => rbegins_any _ c (m : Int) _ W (hlc.keep hW) (by omega) rfl)
  rw [if_neg (by omega), Int.toNat_natCast] at BG
  have hcl2 : clampN (m : Int) c.length = m := by unfold clampN; omega
  obtain ⟨U, hU⟩ : ∃ U, (M.takeN (c.drop m)).1 = U := ⟨_, rfl⟩
  obtain ⟨e2, he2⟩ : ∃ U, m + (M.takeN (c.drop m)).2 = U := ⟨_, rfl⟩
  have TK := Lib.hid (fun W (hW : Below w.heap.size w W) => rtake_any _ c (m : Int) U e2 W (hlc.keep hW) (by omega) (by rw [hcl2]; exact hU) (by rw [hcl2]; exact he2))
  unfold M.numT at ht hK
  have hdd : (c.drop i).drop (M.numE (c.drop i)) = c.drop m := by rw [List.drop_drop, hm]
  have hgd : (c.drop i).getD (M.numE (c.drop i)) (-1) = c.getD m (-1) := by rw [getD_drop, hm]
  rw [hdd, hgd, hs, hU] at ht hK
  obtain ⟨bg, hbg⟩ : ∃ b, M.begN (c.drop m) = b := ⟨_, rfl⟩
  rw [hbg] at ht hK BG
  obtain ⟨ym, hym⟩ : ∃ y, c.getD m (-1) = y := ⟨_, rfl⟩
  rw [hym] at ht hK
  obtain ⟨sg, hsg⟩ : ∃ b, decide (y0 = 43) = b := ⟨_, rfl⟩
  have hT0 : M.numT0 s = { kind := 10, flag := !(fr || (eb && ed)), sign := sg, num := r } := by unfold M.numT0; rw [hr, hwhole, hsign, hsg]
  rw [hT0] at ht hK
  obtain ⟨S, hS⟩ : ∃ S, bytes s = S := ⟨_, rfl⟩
  rw [hS] at RW RD
  obtain ⟨r0, r1, r2⟩ := r
  unfold numV at RD
  simp only at RD
  obtain ⟨W0, hW0, cb0, b0, zz0⟩ := w0_facts w
  have HW0 := Lib.hid hW0
  have HT := Lib.hid ht
  have HK := Lib.hid hK
  have HE2 := Lib.hid he2
  have HM := Lib.hid hm
  have HM4 := Lib.hid hm4
  have HK23 := Lib.hid hk23
  have HK01 := Lib.hid hk01
  have HK0V := Lib.hid hk0v
  have HFR := Lib.hid hfrv
  have HEB := Lib.hid hebv
  have HED := Lib.hid hedv
  have HSG := Lib.hid hsg
  have HYM := Lib.hid hym
  have HY0 := Lib.hid hy0
  have HNL := Lib.hid (show c.length = n by omega)
  have hk1i : i ≤ k0 := by rw [← hk0]; omega
  have i1 : (0 : Int) ≤ i := by omega
  have i3 : (m : Int) ≤ 40000 := by omega
  have i4 : k0 ≤ k1 := by omega
  have wz := b0.size
  clear hW0 hv hc hn hlc hcl hle hwhole hsign hasc hs hsl hn4 hk1 hk2 hnum1 hnum2 hfr hex hfrv hebv hedv hm4 hk23 hy0 hk0 hk01 hk0v hr hcl2 hU he2 ht hK hdd hgd hbg hym hsg hT0 hS hnb hm hl hi zz0
  go_enter Tryd.func27, Tryd.ntmps27
  go_upto_region 1 with fail
  rw [HW0.out]
  go_upto_region 3 with fail
  have lt8 := cb0.lt
  have cb8 : CB (W0.alloc (.cells #[.int .i64 10, .string ⟨#[]⟩, .string ⟨#[]⟩, .bool false, .string ⟨#[]⟩, .string ⟨#[]⟩, .bool true, .bool false, .int .i64 0, .int .i64 0, .int .i64 0, .int .i64 0, .int .i64 0] 36)) W0.heap.size (ctv { kind := 10, flag := true } 0) := CB.new W0 _
  have cb5 : CB (W0.alloc (.cells #[.int .i64 10, .string ⟨#[]⟩, .string ⟨#[]⟩, .bool false, .string ⟨#[]⟩, .string ⟨#[]⟩, .bool true, .bool false, .int .i64 0, .int .i64 0, .int .i64 0, .int .i64 0, .int .i64 0] 36)) w.heap.size (ctv {} 0) := cb0.keep ((Below.refl W0.heap.size W0).alloc (Nat.le_refl _) _) lt8
  have c5 : Below w.heap.size w (W0.alloc (.cells #[.int .i64 10, .string ⟨#[]⟩, .string ⟨#[]⟩, .bool false, .string ⟨#[]⟩, .string ⟨#[]⟩, .bool true, .bool false, .int .i64 0, .int .i64 0, .int .i64 0, .int .i64 0, .int .i64 0] 36)) := b0.alloc b0.size _
  obtain ⟨W1, hW1⟩ : ∃ W, W0.alloc (.cells #[.int .i64 10, .string ⟨#[]⟩, .string ⟨#[]⟩, .bool false, .string ⟨#[]⟩, .string ⟨#[]⟩, .bool true, .bool false, .int .i64 0, .int .i64 0, .int .i64 0, .int .i64 0, .int .i64 0] 36) = W := ⟨_, rfl⟩
  rw [hW1] at cb8 cb5 c5 ⊢
  obtain ⟨b8, hb8⟩ : ∃ b, W0.heap.size = b := ⟨_, rfl⟩
  rw [hb8] at cb8 lt8 ⊢
  have ST1 := Lib.hid (show Stn w b8 { kind := 10, flag := true } W1 from ⟨cb5, cb8, c5, lt8⟩)
  have A0 := Lib.hid (AT.out W1 c5 i y0 HY0.out)
  clear hW1 hb8 cb8 cb5 c5 cb0 b0 wz
  -- the sign
  obtain ⟨sb, hsb⟩ : ∃ b, decide (y0 = 43 ∨ y0 = 45) = b := ⟨_, rfl⟩
  have HSB := Lib.hid hsb
  clear hsb
  go_cut [22] (fun q wx => q = .bool sb ∧ W1 = wx)
  case first =>
   as_aux_lemma =>
    have hsb := HSB.out
    by_cases h43 : y0 = 43
    · subst h43
      obtain rfl : true = sb := by rw [← hsb]; rfl
      clear hsb
      go_wp2_with fail
      refine (A0.out).mono ?_
      rintro e w' ⟨rfl, rfl⟩
      go_wp2_with fail
      go_meet
      exact ⟨rfl, rfl⟩
    · have t43 : (y0 == 43) = false := by simpa using h43
      by_cases h45 : y0 = 45
      · subst h45
        obtain rfl : true = sb := by rw [← hsb]; rfl
        clear hsb
        go_wp2_with fail
        refine (A0.out).mono ?_
        rintro e w' ⟨rfl, rfl⟩
        go_wp2_with fail
        refine (A0.out).mono ?_
        rintro e w' ⟨rfl, rfl⟩
        go_wp2_with fail
        go_meet
        exact ⟨rfl, rfl⟩
      · have t45 : (y0 == 45) = false := by simpa using h45
        obtain rfl : false = sb := by rw [← hsb]; exact (decide_eq_false (by omega)).symm
        clear hsb
        clear h43 h45
        go_wp2_with fail
        refine (A0.out).mono ?_
        rintro e w' ⟨rfl, rfl⟩
        go_wp2_with fail
        refine (A0.out).mono ?_
        rintro e w' ⟨rfl, rfl⟩
        go_wp2_with fail
        go_meet
        exact ⟨rfl, rfl⟩
  case rest =>
  obtain ⟨rfl, rfl⟩ := hcut
  go_upto_if 22 with fail
  go_cut [1] (fun q wx => q = .int .i64 (k0 : Int) ∧ Stn w b8 { kind := 10, flag := true, sign := sg } wx)
  case first =>
   as_aux_lemma =>
    have g7 := ST1.out.2.1.cell 7
    have f7 := ST1.out.2.1.free 7
    rw [show (ctv _ _)[7]? = some (.bool false) from rfl] at g7
    have hk0v := HK0V.out
    have hsb := HSB.out
    by_cases h43 : y0 = 43
    · subst h43
      obtain rfl : true = sb := by rw [← hsb]; rfl
      clear hsb
      rw [if_pos (.inl rfl)] at hk0v
      have hsg : sg = true := by rw [← HSG.out]; rfl
      have HK0 := Lib.hid hk0v
      clear hk0v
      go_wp2_with fail
      refine (A0.out).mono ?_
      rintro e w' ⟨rfl, rfl⟩
      go_wp2_with fail
      go_meet
      exact ⟨by rw [HK0.out]; first | rfl | go_num, by rw [hsg]; exact ST1.out.put 7 _ rfl⟩
    · have t43 : (y0 == 43) = false := by simpa using h43
      have hsg : sg = false := by rw [← HSG.out]; exact decide_eq_false h43
      by_cases h45 : y0 = 45
      · subst h45
        obtain rfl : true = sb := by rw [← hsb]; rfl
        clear hsb
        rw [if_pos (.inr rfl)] at hk0v
        have HK0 := Lib.hid hk0v
        clear hk0v h43
        go_wp2_with fail
        refine (A0.out).mono ?_
        rintro e w' ⟨rfl, rfl⟩
        go_wp2_with fail
        go_meet
        exact ⟨by rw [HK0.out]; first | rfl | go_num, by rw [hsg]; exact ST1.out.put 7 _ rfl⟩
      · rw [if_neg (by omega)] at hk0v
        obtain rfl : false = sb := by rw [← hsb]; exact (decide_eq_false (by omega)).symm
        clear hsb
        have HK0 := Lib.hid hk0v
        clear hk0v h43 h45
        go_wp2_with fail
        go_meet
        exact ⟨by rw [HK0.out], by rw [hsg]; exact ST1.out⟩
  case rest =>
  obtain ⟨rfl, st2⟩ := hcut
  clear A0 ST1
  obtain ⟨W2, hW2⟩ : ∃ x, x = wc := ⟨_, rfl⟩
  subst hW2
  have ST2 := Lib.hid st2
  have B2 := Lib.hid st2.2.2.1
  clear st2
  go_wp2_with fail
  go_loop [1] (fun iv => ∃ j : Nat, iv = .int .i64 (j : Int) ∧ k0 ≤ j ∧ j ≤ k1 ∧ j + M.digN (c.drop j) = k1) (fun iv => n - (intOf iv).toNat)
  case atStart => exact ⟨k0, by first | rfl | go_num, Nat.le_refl _, by have := HK01.out; omega, HK01.out⟩
  case round =>
  obtain ⟨j, rfl, hq1, hq2, hjk⟩ := hrel
  have j0 : (0 : Int) ≤ j := by omega
  have j9 : (j : Int) ≤ 40000 := by omega
  obtain ⟨yj, hyj⟩ : ∃ y, c.getD j (-1) = y := ⟨_, rfl⟩
  have AJ := Lib.hid (AT.out W2 B2.out j yj hyj)
  by_cases hdg : M.nDg yj = true
  · have DJ := Lib.hid (rndg_any yj true W2 hdg)
    rw [← hyj] at hdg
    rw [digN_at c j hdg] at hjk
    have hjn : j < n := by
      rcases Nat.lt_or_ge j n with h | h
      · exact h
      · rw [getD_end c n j HNL.out h] at hdg; exact absurd hdg (by decide)
    have HJ := Lib.hid (show (j + 1) + M.digN (c.drop (j + 1)) = k1 by omega)
    have hj1 : j + 1 ≤ k1 := by omega
    clear hyj hdg hjk
    as_aux_lemma =>
      go_wp2_with fail
      refine (AJ.out).mono ?_
      rintro e w' ⟨rfl, rfl⟩
      go_wp2_with fail
      refine (DJ.out).mono ?_
      rintro e w' ⟨rfl, rfl⟩
      go_wp2
      go_round
      case rel => exact ⟨j + 1, by go_num, by omega, hj1, HJ.out⟩
      case measure => simp [intOf]; omega
  rw [Bool.not_eq_true] at hdg
  have DJ := Lib.hid (rndg_any yj false W2 hdg)
  rw [← hyj] at hdg
  rw [digN_out c j hdg, Nat.add_zero] at hjk
  obtain rfl : k1 = j := hjk.symm
  clear hyj hdg
  go_wp2_with fail
  refine (AJ.out).mono ?_
  rintro e w' ⟨rfl, rfl⟩
  go_wp2_with fail
  refine (DJ.out).mono ?_
  rintro e w' ⟨rfl, rfl⟩
  clear AJ DJ j0 j9
  clear hq1 hq2
  -- the part behind the point
  go_upto_region 8 with fail
  go_cut [46] (fun q wx => q = .bool fr ∧ W2 = wx)
  case first =>
   as_aux_lemma =>
    obtain ⟨y, hy⟩ : ∃ y, c.getD k1 (-1) = y := ⟨_, rfl⟩
    have A1 := Lib.hid (AT.out W2 B2.out k1 y hy)
    have hf := HFR.out
    rw [fracB_at, hy] at hf
    by_cases h46 : y = 46
    · subst h46
      obtain ⟨y2, hy2⟩ : ∃ y, c.getD (k1 + 1) (-1) = y := ⟨_, rfl⟩
      have A2 := Lib.hid (AT.out W2 B2.out (k1 + 1) y2 hy2)
      rw [show ((k1 + 1 : Nat) : Int) = (k1 : Int) + 1 by omega] at A2
      have D2 := Lib.hid (rndg_any y2 fr W2 (by rw [hy2] at hf; simpa using hf))
      have k19 : (k1 : Int) ≤ 40000 := by omega
      clear hf hy hy2
      go_wp2_with fail
      refine (A1.out).mono ?_
      rintro e w' ⟨rfl, rfl⟩
      go_wp2_with fail
      refine (A2.out).mono ?_
      rintro e w' ⟨rfl, rfl⟩
      go_wp2_with fail
      refine (D2.out).mono ?_
      rintro e w' ⟨rfl, rfl⟩
      go_wp2_with fail
      go_meet
      exact ⟨rfl, rfl⟩
    · have t46 : (y == 46) = false := by simpa using h46
      have hff : fr = false := by rw [← hf, decide_eq_false h46]; rfl
      subst hff
      clear hf h46 hy
      go_wp2_with fail
      refine (A1.out).mono ?_
      rintro e w' ⟨rfl, rfl⟩
      go_wp2_with fail
      go_meet
      exact ⟨rfl, rfl⟩
  case rest =>
  obtain ⟨rfl, rfl⟩ := hcut
  go_upto_if 46 with fail
  go_cut [1] (fun q wx => q = .int .i64 (k2 : Int) ∧ Stn w b8 { kind := 10, flag := !fr, sign := sg } wx)
  case first =>
   as_aux_lemma =>
    have hk23 := HK23.out
    cases fr with
    | false =>
      rw [if_neg (by simp)] at hk23
      have HK2 := Lib.hid hk23
      clear hk23
      go_wp2_with fail
      go_meet
      exact ⟨by rw [HK2.out], ST2.out⟩
    | true =>
      rw [if_pos rfl] at hk23
      have g6 := ST2.out.2.1.cell 6
      have f6 := ST2.out.2.1.free 6
      rw [show (ctv _ _)[6]? = some (.bool true) from rfl] at g6
      have hst3 : Stn w b8 { kind := 10, flag := false, sign := sg } (W2.setCell ⟨b8, 6, none⟩ (.bool false)) := ST2.out.put 6 _ rfl
      have HST3 := Lib.hid hst3
      have B3 := Lib.hid hst3.2.2.1
      have hd1 : M.nDg (c.getD (k1 + 1) (-1)) = true := by
        have := HFR.out
        rw [fracB_at, Bool.and_eq_true] at this
        exact this.2
      have HK2 := Lib.hid (show (k1 + 2) + M.digN (c.drop (k1 + 2)) = k2 by rw [digN_at c (k1 + 1) hd1, show k1 + 1 + 1 = k1 + 2 from rfl] at hk23; omega)
      obtain ⟨W3, hW3⟩ : ∃ W, W2.setCell ⟨b8, 6, none⟩ (.bool false) = W := ⟨_, rfl⟩
      have HW3 := Lib.hid hW3
      rw [hW3] at HST3 B3
      have k19 : (k1 : Int) ≤ 40000 := by omega
      have z12 : k1 + 2 ≤ k2 := by have := HK2.out; omega
      clear hk23 hst3 hW3 hd1
      go_wp2_with fail
      rw [HW3.out]
      go_loop [1] (fun iv => ∃ j : Nat, iv = .int .i64 (j : Int) ∧ k1 + 2 ≤ j ∧ j ≤ k2 ∧ j + M.digN (c.drop j) = k2) (fun iv => n - (intOf iv).toNat)
      case atStart => exact ⟨k1 + 2, by first | rfl | go_num, Nat.le_refl _, by have := HK2.out; omega, HK2.out⟩
      case round =>
      obtain ⟨j, rfl, hq1, hq2, hjk⟩ := hrel
      have j0 : (0 : Int) ≤ j := by omega
      have j9 : (j : Int) ≤ 40000 := by omega
      obtain ⟨yj, hyj⟩ : ∃ y, c.getD j (-1) = y := ⟨_, rfl⟩
      have AJ := Lib.hid (AT.out W3 B3.out j yj hyj)
      by_cases hdg : M.nDg yj = true
      · have DJ := Lib.hid (rndg_any yj true W3 hdg)
        rw [← hyj] at hdg
        rw [digN_at c j hdg] at hjk
        have hjn : j < n := by
          rcases Nat.lt_or_ge j n with h | h
          · exact h
          · rw [getD_end c n j HNL.out h] at hdg; exact absurd hdg (by decide)
        have HJ := Lib.hid (show (j + 1) + M.digN (c.drop (j + 1)) = k2 by omega)
        have hj1 : j + 1 ≤ k2 := by omega
        clear hyj hdg hjk
        as_aux_lemma =>
          go_wp2_with fail
          refine (AJ.out).mono ?_
          rintro e w' ⟨rfl, rfl⟩
          go_wp2_with fail
          refine (DJ.out).mono ?_
          rintro e w' ⟨rfl, rfl⟩
          go_wp2
          go_round
          case rel => exact ⟨j + 1, by go_num, by omega, hj1, HJ.out⟩
          case measure => simp [intOf]; omega
      rw [Bool.not_eq_true] at hdg
      have DJ := Lib.hid (rndg_any yj false W3 hdg)
      rw [← hyj] at hdg
      rw [digN_out c j hdg, Nat.add_zero] at hjk
      obtain rfl : k2 = j := hjk.symm
      clear hyj hdg
      go_wp2_with fail
      refine (AJ.out).mono ?_
      rintro e w' ⟨rfl, rfl⟩
      go_wp2_with fail
      refine (DJ.out).mono ?_
      rintro e w' ⟨rfl, rfl⟩
      clear AJ DJ j0 j9
      go_wp2_with fail
      go_meet
      exact ⟨rfl, HST3.out⟩
  case rest =>
  obtain ⟨rfl, st3⟩ := hcut
  clear ST2 B2
  obtain ⟨W3, hW3⟩ : ∃ x, x = wc := ⟨_, rfl⟩
  subst hW3
  have ST3 := Lib.hid st3
  have B3 := Lib.hid st3.2.2.1
  clear st3
  -- the power
  go_upto_region 13 with fail
  go_cut [65] (fun q wx => q = .bool eb ∧ W3 = wx)
  case first =>
   as_aux_lemma =>
    obtain ⟨y, hy⟩ : ∃ y, c.getD k2 (-1) = y := ⟨_, rfl⟩
    have A1 := Lib.hid (AT.out W3 B3.out k2 y hy)
    have he := HEB.out
    rw [hy] at he
    by_cases h101 : y = 101
    · subst h101
      have hee : eb = true := by rw [← he]; rfl
      subst hee
      clear he hy
      go_wp2_with fail
      refine (A1.out).mono ?_
      rintro e w' ⟨rfl, rfl⟩
      go_wp2_with fail
      go_meet
      exact ⟨rfl, rfl⟩
    · have t101 : (y == 101) = false := by simpa using h101
      have hee : eb = (y == 69) := by rw [← he, decide_eq_false h101, Bool.false_or]; by_cases h : y = 69 <;> simp [h]
      subst hee
      clear he h101 hy
      go_wp2_with fail
      refine (A1.out).mono ?_
      rintro e w' ⟨rfl, rfl⟩
      go_wp2_with fail
      refine (A1.out).mono ?_
      rintro e w' ⟨rfl, rfl⟩
      go_wp2_with fail
      go_meet
      exact ⟨rfl, rfl⟩
  case rest =>
  obtain ⟨rfl, rfl⟩ := hcut
  go_upto_if 65 with fail
  go_cut [1] (fun q wx => q = .int .i64 (m : Int) ∧ Stn w b8 { kind := 10, flag := !(fr || (eb && ed)), sign := sg } wx)
  case first =>
   as_aux_lemma =>
    have hm4 := HM4.out
    cases eb with
    | false =>
      rw [if_neg (by simp)] at hm4
      have HM2 := Lib.hid hm4
      clear hm4
      go_wp2_with fail
      go_meet
      exact ⟨by rw [HM2.out], by rw [Bool.false_and, Bool.or_false]; exact ST3.out⟩
    | true =>
      rw [if_pos rfl] at hm4
      obtain ⟨y, hy⟩ : ∃ y, c.getD (k2 + 1) (-1) = y := ⟨_, rfl⟩
      have A1 := Lib.hid (AT.out W3 B3.out (k2 + 1) y hy)
      rw [show ((k2 + 1 : Nat) : Int) = (k2 : Int) + 1 by omega] at A1
      have k29 : (k2 : Int) ≤ 40000 := by omega
      have k30 : (0 : Int) ≤ k2 := by omega
      have hned : nEd c k2 = if y = 43 ∨ y = 45 then k2 + 2 else k2 + 1 := by unfold nEd; rw [sgN_page, hy]; split <;> omega
      obtain ⟨k3, hk3⟩ : ∃ k, nEd c k2 = k := ⟨_, rfl⟩
      obtain ⟨y3, hy3⟩ : ∃ y, c.getD k3 (-1) = y := ⟨_, rfl⟩
      have A3 := Lib.hid (AT.out W3 B3.out k3 y3 hy3)
      have hed := HED.out
      rw [hk3] at hned hm4 hed
      rw [hy3] at hed
      have D3 := Lib.hid (rndg_any y3 ed W3 hed)
      have k39 : (k3 : Int) ≤ 40002 := by rw [hned]; split <;> omega
      have HNED := Lib.hid hned
      have HM3 := Lib.hid hm4
      have g6 := ST3.out.2.1.cell 6
      have f6 := ST3.out.2.1.free 6
      rw [show (ctv _ _)[6]? = some (.bool (!fr)) from rfl] at g6
      have hst4 : Stn w b8 { kind := 10, flag := false, sign := sg } (W3.setCell ⟨b8, 6, none⟩ (.bool false)) := ST3.out.put 6 _ rfl
      have HST4 := Lib.hid hst4
      have B4 := Lib.hid hst4.2.2.1
      obtain ⟨W4, hW4⟩ : ∃ W, W3.setCell ⟨b8, 6, none⟩ (.bool false) = W := ⟨_, rfl⟩
      have HW4 := Lib.hid hW4
      rw [hW4] at HST4 B4
      clear hy hned hk3 hy3 hed hm4 hst4 hW4
      by_cases h43 : y = 43
      · subst h43
        have hk3 : (k3 : Int) = (k2 : Int) + 1 + 1 := by rw [HNED.out, if_pos (.inl rfl)]; omega
        rw [hk3] at A3
        cases ed with
        | false =>
          have hm := HM3.out
          rw [if_neg (by simp)] at hm
          have HM2 := Lib.hid hm
          clear hm
          go_wp2_with fail
          refine (A1.out).mono ?_
          rintro e w' ⟨rfl, rfl⟩
          go_wp2_with fail
          refine (A3.out).mono ?_
          rintro e w' ⟨rfl, rfl⟩
          go_wp2_with fail
          refine (D3.out).mono ?_
          rintro e w' ⟨rfl, rfl⟩
          go_wp2_with fail
          go_meet
          exact ⟨by rw [HM2.out], by rw [Bool.and_false, Bool.or_false]; exact ST3.out⟩
        | true =>
          have hm := HM3.out
          rw [if_pos rfl] at hm
          have HK3 := Lib.hid hm.symm
          have k3m : k3 ≤ m := by omega
          clear hm
          go_wp2_with fail
          refine (A1.out).mono ?_
          rintro e w' ⟨rfl, rfl⟩
          go_wp2_with fail
          refine (A3.out).mono ?_
          rintro e w' ⟨rfl, rfl⟩
          go_wp2_with fail
          refine (D3.out).mono ?_
          rintro e w' ⟨rfl, rfl⟩
          go_wp2_with fail
          rw [HW4.out]
          go_loop [1] (fun iv => ∃ j : Nat, iv = .int .i64 (j : Int) ∧ k3 ≤ j ∧ j ≤ m ∧ j + M.digN (c.drop j) = m) (fun iv => n - (intOf iv).toNat)
          case atStart => exact ⟨k3, by (first | rfl | go_num | (rw [hk3])), Nat.le_refl _, by have := HK3.out; omega, HK3.out⟩
          case round =>
          obtain ⟨j, rfl, hq1, hq2, hjk⟩ := hrel
          have j0 : (0 : Int) ≤ j := by omega
          have j9 : (j : Int) ≤ 40000 := by omega
          obtain ⟨yj, hyj⟩ : ∃ y, c.getD j (-1) = y := ⟨_, rfl⟩
          have AJ := Lib.hid (AT.out W4 B4.out j yj hyj)
          by_cases hdg : M.nDg yj = true
          · have DJ := Lib.hid (rndg_any yj true W4 hdg)
            rw [← hyj] at hdg
            rw [digN_at c j hdg] at hjk
            have hjn : j < n := by
              rcases Nat.lt_or_ge j n with h | h
              · exact h
              · rw [getD_end c n j HNL.out h] at hdg; exact absurd hdg (by decide)
            have HJ := Lib.hid (show (j + 1) + M.digN (c.drop (j + 1)) = m by omega)
            have hj1 : j + 1 ≤ m := by omega
            clear hyj hdg hjk
            as_aux_lemma =>
              go_wp2_with fail
              refine (AJ.out).mono ?_
              rintro e w' ⟨rfl, rfl⟩
              go_wp2_with fail
              refine (DJ.out).mono ?_
              rintro e w' ⟨rfl, rfl⟩
              go_wp2
              go_round
              case rel => exact ⟨j + 1, by go_num, by omega, hj1, HJ.out⟩
              case measure => simp [intOf]; omega
          rw [Bool.not_eq_true] at hdg
          have DJ := Lib.hid (rndg_any yj false W4 hdg)
          rw [← hyj] at hdg
          rw [digN_out c j hdg, Nat.add_zero] at hjk
          obtain rfl : m = j := hjk.symm
          clear hyj hdg
          go_wp2_with fail
          refine (AJ.out).mono ?_
          rintro e w' ⟨rfl, rfl⟩
          go_wp2_with fail
          refine (DJ.out).mono ?_
          rintro e w' ⟨rfl, rfl⟩
          clear AJ DJ j0 j9
          go_wp2_with fail
          go_meet
          exact ⟨rfl, by rw [Bool.true_and, Bool.or_true]; exact HST4.out⟩
      · have t43 : (y == 43) = false := by simpa using h43
        by_cases h45 : y = 45
        · subst h45
          have hk3 : (k3 : Int) = (k2 : Int) + 1 + 1 := by rw [HNED.out, if_pos (.inr rfl)]; omega
          rw [hk3] at A3
          clear h43
          cases ed with
          | false =>
            have hm := HM3.out
            rw [if_neg (by simp)] at hm
            have HM2 := Lib.hid hm
            clear hm
            go_wp2_with fail
            refine (A1.out).mono ?_
            rintro e w' ⟨rfl, rfl⟩
            go_wp2_with fail
            refine (A1.out).mono ?_
            rintro e w' ⟨rfl, rfl⟩
            go_wp2_with fail
            refine (A3.out).mono ?_
            rintro e w' ⟨rfl, rfl⟩
            go_wp2_with fail
            refine (D3.out).mono ?_
            rintro e w' ⟨rfl, rfl⟩
            go_wp2_with fail
            go_meet
            exact ⟨by rw [HM2.out], by rw [Bool.and_false, Bool.or_false]; exact ST3.out⟩
          | true =>
            have hm := HM3.out
            rw [if_pos rfl] at hm
            have HK3 := Lib.hid hm.symm
            have k3m : k3 ≤ m := by omega
            clear hm
            go_wp2_with fail
            refine (A1.out).mono ?_
            rintro e w' ⟨rfl, rfl⟩
            go_wp2_with fail
            refine (A1.out).mono ?_
            rintro e w' ⟨rfl, rfl⟩
            go_wp2_with fail
            refine (A3.out).mono ?_
            rintro e w' ⟨rfl, rfl⟩
            go_wp2_with fail
            refine (D3.out).mono ?_
            rintro e w' ⟨rfl, rfl⟩
            go_wp2_with fail
            rw [HW4.out]
            go_loop [1] (fun iv => ∃ j : Nat, iv = .int .i64 (j : Int) ∧ k3 ≤ j ∧ j ≤ m ∧ j + M.digN (c.drop j) = m) (fun iv => n - (intOf iv).toNat)
            case atStart => exact ⟨k3, by (first | rfl | go_num | (rw [hk3])), Nat.le_refl _, by have := HK3.out; omega, HK3.out⟩
            case round =>
            obtain ⟨j, rfl, hq1, hq2, hjk⟩ := hrel
            have j0 : (0 : Int) ≤ j := by omega
            have j9 : (j : Int) ≤ 40000 := by omega
            obtain ⟨yj, hyj⟩ : ∃ y, c.getD j (-1) = y := ⟨_, rfl⟩
            have AJ := Lib.hid (AT.out W4 B4.out j yj hyj)
            by_cases hdg : M.nDg yj = true
            · have DJ := Lib.hid (rndg_any yj true W4 hdg)
              rw [← hyj] at hdg
              rw [digN_at c j hdg] at hjk
              have hjn : j < n := by
                rcases Nat.lt_or_ge j n with h | h
                · exact h
                · rw [getD_end c n j HNL.out h] at hdg; exact absurd hdg (by decide)
              have HJ := Lib.hid (show (j + 1) + M.digN (c.drop (j + 1)) = m by omega)
              have hj1 : j + 1 ≤ m := by omega
              clear hyj hdg hjk
              as_aux_lemma =>
                go_wp2_with fail
                refine (AJ.out).mono ?_
                rintro e w' ⟨rfl, rfl⟩
                go_wp2_with fail
                refine (DJ.out).mono ?_
                rintro e w' ⟨rfl, rfl⟩
                go_wp2
                go_round
                case rel => exact ⟨j + 1, by go_num, by omega, hj1, HJ.out⟩
                case measure => simp [intOf]; omega
            rw [Bool.not_eq_true] at hdg
            have DJ := Lib.hid (rndg_any yj false W4 hdg)
            rw [← hyj] at hdg
            rw [digN_out c j hdg, Nat.add_zero] at hjk
            obtain rfl : m = j := hjk.symm
            clear hyj hdg
            go_wp2_with fail
            refine (AJ.out).mono ?_
            rintro e w' ⟨rfl, rfl⟩
            go_wp2_with fail
            refine (DJ.out).mono ?_
            rintro e w' ⟨rfl, rfl⟩
            clear AJ DJ j0 j9
            go_wp2_with fail
            go_meet
            exact ⟨rfl, by rw [Bool.true_and, Bool.or_true]; exact HST4.out⟩
        · have t45 : (y == 45) = false := by simpa using h45
          have hk3 : (k3 : Int) = (k2 : Int) + 1 := by rw [HNED.out, if_neg (by omega)]; omega
          rw [hk3] at A3
          clear h43 h45
          cases ed with
          | false =>
            have hm := HM3.out
            rw [if_neg (by simp)] at hm
            have HM2 := Lib.hid hm
            clear hm
            go_wp2_with fail
            refine (A1.out).mono ?_
            rintro e w' ⟨rfl, rfl⟩
            go_wp2_with fail
            refine (A1.out).mono ?_
            rintro e w' ⟨rfl, rfl⟩
            go_wp2_with fail
            refine (A3.out).mono ?_
            rintro e w' ⟨rfl, rfl⟩
            go_wp2_with fail
            refine (D3.out).mono ?_
            rintro e w' ⟨rfl, rfl⟩
            go_wp2_with fail
            go_meet
            exact ⟨by rw [HM2.out], by rw [Bool.and_false, Bool.or_false]; exact ST3.out⟩
          | true =>
            have hm := HM3.out
            rw [if_pos rfl] at hm
            have HK3 := Lib.hid hm.symm
            have k3m : k3 ≤ m := by omega
            clear hm
            go_wp2_with fail
            refine (A1.out).mono ?_
            rintro e w' ⟨rfl, rfl⟩
            go_wp2_with fail
            refine (A1.out).mono ?_
            rintro e w' ⟨rfl, rfl⟩
            go_wp2_with fail
            refine (A3.out).mono ?_
            rintro e w' ⟨rfl, rfl⟩
            go_wp2_with fail
            refine (D3.out).mono ?_
            rintro e w' ⟨rfl, rfl⟩
            go_wp2_with fail
            rw [HW4.out]
            go_loop [1] (fun iv => ∃ j : Nat, iv = .int .i64 (j : Int) ∧ k3 ≤ j ∧ j ≤ m ∧ j + M.digN (c.drop j) = m) (fun iv => n - (intOf iv).toNat)
            case atStart => exact ⟨k3, by (first | rfl | go_num | (rw [hk3])), Nat.le_refl _, by have := HK3.out; omega, HK3.out⟩
            case round =>
            obtain ⟨j, rfl, hq1, hq2, hjk⟩ := hrel
            have j0 : (0 : Int) ≤ j := by omega
            have j9 : (j : Int) ≤ 40000 := by omega
            obtain ⟨yj, hyj⟩ : ∃ y, c.getD j (-1) = y := ⟨_, rfl⟩
            have AJ := Lib.hid (AT.out W4 B4.out j yj hyj)
            by_cases hdg : M.nDg yj = true
            · have DJ := Lib.hid (rndg_any yj true W4 hdg)
              rw [← hyj] at hdg
              rw [digN_at c j hdg] at hjk
              have hjn : j < n := by
                rcases Nat.lt_or_ge j n with h | h
                · exact h
                · rw [getD_end c n j HNL.out h] at hdg; exact absurd hdg (by decide)
              have HJ := Lib.hid (show (j + 1) + M.digN (c.drop (j + 1)) = m by omega)
              have hj1 : j + 1 ≤ m := by omega
              clear hyj hdg hjk
              as_aux_lemma =>
                go_wp2_with fail
                refine (AJ.out).mono ?_
                rintro e w' ⟨rfl, rfl⟩
                go_wp2_with fail
                refine (DJ.out).mono ?_
                rintro e w' ⟨rfl, rfl⟩
                go_wp2
                go_round
                case rel => exact ⟨j + 1, by go_num, by omega, hj1, HJ.out⟩
                case measure => simp [intOf]; omega
            rw [Bool.not_eq_true] at hdg
            have DJ := Lib.hid (rndg_any yj false W4 hdg)
            rw [← hyj] at hdg
            rw [digN_out c j hdg, Nat.add_zero] at hjk
            obtain rfl : m = j := hjk.symm
            clear hyj hdg
            go_wp2_with fail
            refine (AJ.out).mono ?_
            rintro e w' ⟨rfl, rfl⟩
            go_wp2_with fail
            refine (DJ.out).mono ?_
            rintro e w' ⟨rfl, rfl⟩
            clear AJ DJ j0 j9
            go_wp2_with fail
            go_meet
            exact ⟨rfl, by rw [Bool.true_and, Bool.or_true]; exact HST4.out⟩
  case rest =>
  obtain ⟨rfl, st4⟩ := hcut
  clear ST3 B3
  obtain ⟨W4, hW4⟩ : ∃ x, x = wc := ⟨_, rfl⟩
  subst hW4
  obtain ⟨cbr, cbt, c4, -⟩ := st4
  obtain ⟨fl, hfl⟩ : ∃ b, (!(fr || (eb && ed))) = b := ⟨_, rfl⟩
  have ht0 := HT.out
  have hK0 := HK.out
  rw [hfl] at cbt ht0 hK0
  have HT := Lib.hid ht0
  have HK := Lib.hid hK0
  clear hfl ht0 hK0
  go_wp2_with fail
  refine (RW.out _ c4).mono ?_
  rintro e w5 ⟨rfl, hb5⟩
  have c5 := c4.trans (hb5.mono c4.size)
  have cb5 := cbr.keep hb5 cbr.lt
  have cb85 := cbt.keep hb5 cbt.lt
  clear hb5 c4 cbr cbt
  go_wp2_with fail
  refine (RD.out _).mono ?_
  rintro e w6 ⟨rfl, hb6⟩
  have c6 := c5.trans (hb6.mono c5.size)
  have cb6 := cb5.keep hb6 cb5.lt
  have cb86 := cb85.keep hb6 cb85.lt
  clear hb6 c5 cb5 cb85
  have g3 := cb86.cell 3
  have f3 := cb86.free 3
  rw [show (ctv _ _)[3]? = some (.bool false) from rfl] at g3
  have g4 := cb86.cell 4
  have f4 := cb86.free 4
  rw [show (ctv _ _)[4]? = some (.string ⟨#[]⟩) from rfl] at g4
  have g5 := cb86.cell 5
  have f5 := cb86.free 5
  rw [show (ctv _ _)[5]? = some (.string ⟨#[]⟩) from rfl] at g5
  go_wp2_with fail
  have cb87 : CB (((w6.setCell ⟨b8, 3, none⟩ (.bool r0)).setCell ⟨b8, 4, none⟩ (.string (bytes r1))).setCell ⟨b8, 5, none⟩ (.string (bytes r2))) b8 (ctv { kind := 10, flag := fl, sign := sg, num := (r0, r1, r2) } 0) := ((cb86.put 3 _).put 4 _).put 5 _
  have cb7 : CB (((w6.setCell ⟨b8, 3, none⟩ (.bool r0)).setCell ⟨b8, 4, none⟩ (.string (bytes r1))).setCell ⟨b8, 5, none⟩ (.string (bytes r2))) w.heap.size (ctv {} 0) := ((cb6.other (Nat.ne_of_lt lt8) _ _).other (Nat.ne_of_lt lt8) _ _).other (Nat.ne_of_lt lt8) _ _
  have c7 : Below w.heap.size w (((w6.setCell ⟨b8, 3, none⟩ (.bool r0)).setCell ⟨b8, 4, none⟩ (.string (bytes r1))).setCell ⟨b8, 5, none⟩ (.string (bytes r2))) := ((c6.setCell (Nat.le_of_lt lt8) _).setCell (Nat.le_of_lt lt8) _).setCell (Nat.le_of_lt lt8) _
  obtain ⟨W7, hW7⟩ : ∃ W, ((w6.setCell ⟨b8, 3, none⟩ (.bool r0)).setCell ⟨b8, 4, none⟩ (.string (bytes r1))).setCell ⟨b8, 5, none⟩ (.string (bytes r2)) = W := ⟨_, rfl⟩
  rw [hW7] at cb87 cb7 c7 ⊢
  clear hW7 c6 cb6 cb86 g3 g4 g5 f3 f4 f5
  refine (BG.out _ c7).mono ?_
  rintro e w' ⟨rfl, rfl⟩
  have g0 := cb87.cell 0
  have f0 := cb87.free 0
  rw [show (ctv _ _)[0]? = some (.int .i64 10) from rfl] at g0
  cases bg with
  | true =>
    as_aux_lemma =>
      have ht := HT.out
      have hK := HK.out
      simp only [if_true] at ht hK
      obtain rfl : e2 = K := by rw [← hK, ← HE2.out, ← HM.out]; omega
      have HT2 := Lib.hid ht
      clear ht hK
      go_wp2_with fail
      have cb8 : CB (W7.setCell ⟨b8, 0, none⟩ (.int .i64 12)) b8 (ctv { kind := 12, flag := fl, sign := sg, num := (r0, r1, r2) } 0) := cb87.put 0 _
      have cb9 : CB (W7.setCell ⟨b8, 0, none⟩ (.int .i64 12)) w.heap.size (ctv {} 0) := cb7.other (Nat.ne_of_lt lt8) _ _
      have c8 : Below w.heap.size w (W7.setCell ⟨b8, 0, none⟩ (.int .i64 12)) := c7.setCell (Nat.le_of_lt lt8) _
      obtain ⟨W8, hW8⟩ : ∃ W, W7.setCell ⟨b8, 0, none⟩ (.int .i64 12) = W := ⟨_, rfl⟩
      rw [hW8] at cb8 cb9 c8 ⊢
      clear hW8 cb87 cb7 c7 g0 f0
      refine (TK.out _ c8).mono ?_
      rintro e w9 ⟨rfl, hb9⟩
      have c9 := c8.trans (hb9.mono c8.size)
      have cb89 := cb8.keep hb9 cb8.lt
      have cb49 := cb9.keep hb9 cb9.lt
      clear hb9 c8 cb8 cb9
      have g2 := cb89.cell 2
      have f2 := cb89.free 2
      rw [show (ctv _ _)[2]? = some (.string ⟨#[]⟩) from rfl] at g2
      have cb8X : CB (w9.setCell ⟨b8, 2, none⟩ (.string (bytes (M.encZs U)))) b8 (ctv { kind := 12, flag := fl, sign := sg, num := (r0, r1, r2), unit := M.encZs U } 0) := cb89.put 2 _
      have cb4X : CB (w9.setCell ⟨b8, 2, none⟩ (.string (bytes (M.encZs U)))) w.heap.size (ctv {} 0) := cb49.other (Nat.ne_of_lt lt8) _ _
      have cX : Below w.heap.size w (w9.setCell ⟨b8, 2, none⟩ (.string (bytes (M.encZs U)))) := c9.setCell (Nat.le_of_lt lt8) _
      go_wp2_with (first | (refine wpl_ldT rfl _ rfl b8 _ rfl cb8X rfl ?_) | (refine wpl_stT rfl _ _ rfl w.heap.size (ctv {} 0) (ctv { kind := 12, flag := fl, sign := sg, num := (r0, r1, r2), unit := M.encZs U } 0) rfl rfl cb4X rfl rfl (ctv_one _ _) ?_))
      (try simp only [Exit.inBlock, Exit.then])
      exact bodyPost_ret (res_tok rfl _ _ w.heap.size _ _ rfl rfl (CB.set cb4X _) rfl) rfl ⟨(by rw [← HT2.out]), below_setRow cX (Nat.le_refl _) _⟩
  | false =>
    by_cases h37 : ym = 37
    · have AM := Lib.hid (AT.out W7 c7 m ym HYM.out)
      have ht := HT.out
      have hK := HK.out
      simp only [Bool.false_eq_true, if_false, h37, if_true] at ht hK
      have HT2 := Lib.hid ht
      have HK2 := Lib.hid (show (m : Int) + 1 = K by have := HM.out; omega)
      clear ht hK
      subst h37
      as_aux_lemma =>
        go_wp2_with fail
        refine (AM.out).mono ?_
        rintro e w' ⟨rfl, rfl⟩
        have c8 := c7
        have cb88 := cb87
        have cb48 := cb7
        clear c7 cb87 cb7 g0 f0
        have g0 := cb88.cell 0
        have f0 := cb88.free 0
        rw [show (ctv _ _)[0]? = some (.int .i64 10) from rfl] at g0
        have cb8X : CB (W7.setCell ⟨b8, 0, none⟩ (.int .i64 11)) b8 (ctv { kind := 11, flag := fl, sign := sg, num := (r0, r1, r2) } 0) := cb88.put 0 _
        have cb4X : CB (W7.setCell ⟨b8, 0, none⟩ (.int .i64 11)) w.heap.size (ctv {} 0) := cb48.other (Nat.ne_of_lt lt8) _ _
        have cX : Below w.heap.size w (W7.setCell ⟨b8, 0, none⟩ (.int .i64 11)) := c8.setCell (Nat.le_of_lt lt8) _
        go_wp2_with (first | (refine wpl_ldT rfl _ rfl b8 _ rfl cb8X rfl ?_) | (refine wpl_stT rfl _ _ rfl w.heap.size (ctv {} 0) (ctv { kind := 11, flag := fl, sign := sg, num := (r0, r1, r2) } 0) rfl rfl cb4X rfl rfl (ctv_one _ _) ?_))
        (try simp only [Exit.inBlock, Exit.then])
        exact bodyPost_ret (res_tok rfl _ _ w.heap.size _ _ rfl rfl (CB.set cb4X _) rfl) rfl ⟨(by rw [← HT2.out]; exact etup_ai HK2.out), below_setRow cX (Nat.le_refl _) _⟩
    · have tp : (ym == 37) = false := by simpa using h37
      have AM := Lib.hid (AT.out W7 c7 m ym HYM.out)
      have ht := HT.out
      have hK := HK.out
      simp only [Bool.false_eq_true, if_false, h37] at ht hK
      have HT2 := Lib.hid ht
      obtain rfl : m = K := by have := HM.out; omega
      clear ht hK h37
      as_aux_lemma =>
        go_wp2_with fail
        refine (AM.out).mono ?_
        rintro e w' ⟨rfl, rfl⟩
        have c8 := c7
        have cb88 := cb87
        have cb48 := cb7
        clear c7 cb87 cb7 g0 f0
        go_wp2_with (first | (refine wpl_ldT rfl _ rfl b8 _ rfl cb88 rfl ?_) | (refine wpl_stT rfl _ _ rfl w.heap.size (ctv {} 0) (ctv { kind := 10, flag := fl, sign := sg, num := (r0, r1, r2) } 0) rfl rfl cb48 rfl rfl (ctv_one _ _) ?_))
        (try simp only [Exit.inBlock, Exit.then])
        exact bodyPost_ret (res_tok rfl _ _ w.heap.size _ _ rfl rfl (CB.set cb48 _) rfl) rfl ⟨(by rw [← HT2.out]), below_setRow c8 (Nat.le_refl _) _⟩
end Go.Proofs.YtilndlifmpbfnaaDoor
