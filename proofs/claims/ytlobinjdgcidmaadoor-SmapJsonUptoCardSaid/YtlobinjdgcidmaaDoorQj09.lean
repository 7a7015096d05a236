/- Texts of ours in one: JgL. -/
import Derived.Test.YtlobinjdgcidmaaDoorQj02
import Derived.Test.YtlobinjdgcidmaaDoorQj00
import Derived.StillTailTactics
import Derived.Deep.QuietTactic
import Derived.BigQuiet
import Derived.Lib.SlBytesConst
import Derived.Laws.BitsLemmas
import Derived.WalkSmall
/- Several texts of ours in one: JStr JSpell JLaw. -/
/- Texts of JSON, written: what jstring.Right and jstring.Spell return, for any ints. -/
namespace Go.Proofs.YtlobinjdgcidmaaDoor
open Go.RowKit
set_option linter.unusedVariables false

def iN (l : List Nat) : List Int := l.map fun (n : Nat) => (n : Int)
theorem iN_drop (l : List Nat) (n : Nat) : (iN l).drop n = iN (l.drop n) := by simp [iN]
theorem iN_len (l : List Nat) : (iN l).length = l.length := by simp [iN]
theorem iN_append (k l : List Nat) : iN (k ++ l) = iN k ++ iN l := by simp [iN]
theorem iN_of (l : List Int) (h : M.rightU l = true) : ∃ k : List Nat, l = iN k ∧ ∀ u ∈ k, u ≤ 65535 := by
  rw [M.rightU_iff] at h
  refine ⟨l.map Int.toNat, ?_, ?_⟩
  · unfold iN
    rw [List.map_map]
    conv => lhs; rw [← List.map_id l]
    apply List.map_congr_left
    intro x hx
    have := h x hx
    simp only [id, Function.comp]
    omega
  · intro u hu
    simp only [List.mem_map] at hu
    obtain ⟨x, hx, rfl⟩ := hu
    have := h x hx
    omega
theorem rightU_iN (k : List Nat) (h : ∀ u ∈ k, u ≤ 65535) : M.rightU (iN k) = true := by
  rw [M.rightU_iff]
  intro u hu
  simp only [iN, List.mem_map] at hu
  obtain ⟨x, hx, rfl⟩ := hu
  have := h x hx
  omega
theorem rightU_take (l : List Int) (k : Nat) (hk : k < l.length) (h : M.rightU (l.take k) = true) (h2 : 0 ≤ l[k] ∧ l[k] ≤ 65535) :
    M.rightU (l.take (k + 1)) = true := by
  rw [M.rightU_iff] at *
  rw [List.take_succ_eq_append_getElem hk]
  intro u hu
  rcases List.mem_append.1 hu with hu | hu
  · exact h u hu
  · simp at hu; subst hu; exact h2
theorem rightU_bad (l : List Int) (k : Nat) (hk : k < l.length) (h : l[k] < 0 ∨ 65535 < l[k]) : M.rightU l = false := by
  cases hr : M.rightU l with
  | false => rfl
  | true =>
    rw [M.rightU_iff] at hr
    have := hr _ (List.getElem_mem hk)
    omega

set_option maxHeartbeats 400000 in
theorem jright_any (v : Value) (l : List Int) (r : Bool) (w : World) (hv : Is w v l) (hl : l.length ≤ 4294967296) (hr : M.rightU l = r) :
    Calls Tryd.prog 32 #[v] w fun e w' => e = .returned (.bool r) ∧ w = w' := by
  obtain ⟨a, cap, rfl, h1, h2, h3⟩ := hv
  have Hr := Lib.hid hr
  have H3 := Lib.hid h3
  clear hr h3
  go_enter Tryd.func32, Tryd.ntmps32
  go_wp2
  go_loop [4, 7] (fun _ iv => ∃ k : Nat, iv = .int .i64 k ∧ k ≤ l.length ∧ M.rightU (l.take k) = true) (fun _ iv => l.length - (intOf iv).toNat)
  case atStart => exact ⟨0, rfl, by omega, rfl⟩
  case round =>
    obtain ⟨k, rfl, hk, ht⟩ := hrel
    have Ht := Lib.hid ht
    clear ht
    by_cases hlt : k < l.length
    · obtain ⟨b, off, rfl, hb, hc⟩ := H3.out (by omega)
      have hc0 := hc k hlt
      have hbad := rightU_bad l k hlt
      have hgood := rightU_take l k hlt Ht.out
      rw [Hr.out] at hbad
      obtain ⟨x, hx⟩ : ∃ x, l[k] = x := ⟨_, rfl⟩
      rw [hx] at hc0 hbad hgood
      have i1 : (0 : Int) ≤ k := by omega
      have i2 : (k : Int) < l.length := by omega
      clear hc hx
      by_cases hx : x < 0 ∨ 65535 < x
      · have hr2 := hbad hx
        subst hr2
        clear hbad hgood
        rcases hx with hx | hx
        · go_wp2
          go_ret
          exact ⟨rfl, rfl⟩
        · by_cases hx0 : x < 0
          · omega
          · go_wp2
            go_ret
            exact ⟨rfl, rfl⟩
      · have hgo := hgood (by omega)
        have Hgo := Lib.hid hgo
        have x0 : 0 ≤ x := by omega
        have x1 : x ≤ 65535 := by omega
        clear hbad hgood hgo hx
        go_wp2
        go_round
        case rel => exact ⟨k + 1, by go_num, by omega, Hgo.out⟩
        case measure => simp [intOf]; omega
    · obtain rfl : k = l.length := by omega
      have hr2 := Hr.out
      rw [List.take_of_length_le (Nat.le_refl _)] at Ht
      rw [Ht.out] at hr2
      subst hr2
      clear hlt
      go_wp2
      go_ret
      exact ⟨rfl, rfl⟩

theorem tup2 {a b c d : Int} (h : a = c) (k : b = d) : Ending.returned (.tuple #[.int .i64 a, .int .i64 b]) = Ending.returned (.tuple #[.int .i64 c, .int .i64 d]) := by rw [h, k]
theorem jwraps_i64 (n : Int) (h₀ : 0 ≤ n) (h₁ : n < 2 ^ 62) : IntKind.i64.wrap n = n := by rw [IntKind.wrap_i64]; omega
theorem jand15 (n : Int) (h0 : 0 ≤ n) (h1 : n ≤ 1114111) : bits .and .i64 n 15 = n % 16 := bits_mask .i64 62 (by decide) jwraps_i64 4 (by decide) n h0 (by omega)

set_option maxHeartbeats 400000 in
theorem first_pair (b off len cap : Nat) (x y : Int) (w : World) (h2 : 2 ≤ len) (hcap : len ≤ cap) (hm : cap ≤ maxLen)
    (c0 : w.cell? ⟨b, off, none⟩ = some (.int .i64 x)) (c1 : w.cell? ⟨b, off + 1, none⟩ = some (.int .i64 y)) (p1 : 55296 ≤ x) (p2 : x < 56320) (p3 : 56320 ≤ y) (p4 : y < 57344) :
    Calls Tryd.prog 33 #[.slice (some ⟨b, off, none⟩) len cap] w fun e w' => e = .returned (.tuple #[.int .i64 (65536 + (x - 55296) * 1024 + (y - 56320)), .int .i64 2]) ∧ Below w.heap.size w w' := by
  have q1 : (1 : Int) < len := by omega
  have q2 : (0 : Int) < len := by omega
  go_enter Tryd.func33, Tryd.ntmps33
  go_wp2
  go_quiet (fail)
  go_wp2
  go_ret2
  exact ⟨tup2 (by omega) rfl, below_drewN (Below.refl _ _) _⟩

set_option maxHeartbeats 400000 in
theorem first_one (b off len cap : Nat) (x y : Int) (w : World) (h1 : 1 ≤ len) (hcap : len ≤ cap) (_hm : cap ≤ maxLen)
    (c0 : w.cell? ⟨b, off, none⟩ = some (.int .i64 x)) (c1 : 2 ≤ len → w.cell? ⟨b, off + 1, none⟩ = some (.int .i64 y)) (h : len = 1 ∨ x < 55296 ∨ 56320 ≤ x ∨ y < 56320 ∨ 57344 ≤ y) :
    Calls Tryd.prog 33 #[.slice (some ⟨b, off, none⟩) len cap] w fun e w' => e = .returned (.tuple #[.int .i64 x, .int .i64 1]) ∧ w = w' := by
  have q2 : (0 : Int) < len := by omega
  by_cases hl : len = 1
  · subst hl
    clear c1 h
    go_enter Tryd.func33, Tryd.ntmps33
    go_wp2
    go_ret2
    exact ⟨rfl, rfl⟩
  · have q1 : (1 : Int) < len := by omega
    have c2 := c1 (by omega)
    clear c1
    by_cases p1 : 55296 ≤ x
    · by_cases p2 : x < 56320
      · by_cases p3 : 56320 ≤ y
        · have p4 : 57344 ≤ y := by omega
          clear h hl
          go_enter Tryd.func33, Tryd.ntmps33
          go_wp2
          go_ret2
          exact ⟨rfl, rfl⟩
        · clear h hl
          go_enter Tryd.func33, Tryd.ntmps33
          go_wp2
          go_ret2
          exact ⟨rfl, rfl⟩
      · clear h hl
        go_enter Tryd.func33, Tryd.ntmps33
        go_wp2
        go_ret2
        exact ⟨rfl, rfl⟩
    · clear h hl
      go_enter Tryd.func33, Tryd.ntmps33
      go_wp2
      go_ret2
      exact ⟨rfl, rfl⟩

theorem first_any (v : Value) (l : List Nat) (r n : Nat) (w : World) (hv : Is w v (iN l)) (h0 : l ≠ []) (hr : M.firstU l = (r, n)) :
    Calls Tryd.prog 33 #[v] w fun e w' => e = .returned (.tuple #[.int .i64 (r : Int), .int .i64 (n : Int)]) ∧ Below w.heap.size w w' := by
  obtain ⟨a, cap, rfl, h1, h2, h3⟩ := hv
  have hlen : 1 ≤ l.length := by
    cases l with
    | nil => exact absurd rfl h0
    | cons _ _ => simp
  obtain ⟨b, off, rfl, hb, hc⟩ := h3 (by rw [iN_len]; omega)
  rw [iN_len] at h1 ⊢
  match l, h0 with
  | [u], _ =>
    simp only [M.firstU, Prod.mk.injEq] at hr
    obtain ⟨rfl, rfl⟩ := hr
    have c0 := hc 0 (by simp [iN])
    refine (first_one b off 1 cap u 0 w (by omega) h1 h2 c0 (fun h => by omega) (.inl rfl)).mono ?_
    rintro e w' ⟨rfl, rfl⟩
    exact ⟨rfl, Below.refl _ _⟩
  | u :: v :: t, _ =>
    have c0 := hc 0 (by simp [iN])
    have c1 := hc 1 (by simp [iN])
    by_cases hp : M.isPair u v = true
    · simp only [M.firstU, if_pos hp, Prod.mk.injEq] at hr
      obtain ⟨rfl, rfl⟩ := hr
      rw [M.isPair_iff] at hp
      refine (first_pair b off _ cap u v w (by simp) h1 h2 c0 c1 (by omega) (by omega) (by omega) (by omega)).mono ?_
      rintro e w' ⟨rfl, hw⟩
      exact ⟨tup2 (by unfold M.joinU; omega) rfl, hw⟩
    · simp only [M.firstU, if_neg hp, Prod.mk.injEq] at hr
      obtain ⟨rfl, rfl⟩ := hr
      rw [M.isPair_iff] at hp
      refine (first_one b off _ cap u v w (by simp) h1 h2 c0 (fun _ => c1) (by omega)).mono ?_
      rintro e w' ⟨rfl, rfl⟩
      exact ⟨rfl, Below.refl _ _⟩

theorem sur_any (u : Int) (r : Bool) (w : World) (hr : (decide (55296 ≤ u) && decide (u < 57344)) = r) :
    Calls Tryd.prog 55 #[.int .i64 u] w fun e w' => e = .returned (.bool r) ∧ w = w' := by
  subst hr
  by_cases h : 55296 ≤ u
  · go_enter Tryd.func55, Tryd.ntmps55
    go_wp2
    go_ret
    exact ⟨by simp [h], rfl⟩
  · go_enter Tryd.func55, Tryd.ntmps55
    go_wp2
    go_ret
    exact ⟨by simp; omega, rfl⟩

theorem hexAt : ∀ d : Fin 16, (ByteArray.mk #[48, 49, 50, 51, 52, 53, 54, 55, 56, 57, 97, 98, 99, 100, 101, 102])[d.val]'(by have := d.isLt; simp [ByteArray.size]) = M.hexd d.val := by decide +kernel
theorem hexAt' (d : Nat) (h : d < 16) (x : Nat) (hx : x = d) (h' : x < (ByteArray.mk #[48, 49, 50, 51, 52, 53, 54, 55, 56, 57, 97, 98, 99, 100, 101, 102]).size) :
    Value.int .u8 (((ByteArray.mk #[48, 49, 50, 51, 52, 53, 54, 55, 56, 57, 97, 98, 99, 100, 101, 102])[x]'h').toNat : Int) = .int .u8 ((M.hexd d).toNat : Int) := by
  subst hx; rw [hexAt ⟨x, h⟩]
set_option maxHeartbeats 1000000 in
set_option maxRecDepth 100000 in
theorem numbered_any (u : Nat) (t : List UInt8) (w : World) (hu : u ≤ 65535) (ht : M.num6 u = t) :
    Calls Tryd.prog 56 #[.int .i64 (u : Int)] w fun e w' => ∃ v, e = .returned v ∧ Bs w' v t ∧ NN v ∧ Below w.heap.size w w' := by
  obtain ⟨x, hx⟩ : ∃ x : Int, (u : Int) = x := ⟨_, rfl⟩
  have hx0 : 0 ≤ x := by omega
  have hx1 : x ≤ 65535 := by omega
  rw [hx]
  have e1 := jand15 (x / 256) (by omega) (by omega)
  have e2 := jand15 (x / 16) (by omega) (by omega)
  have e3 := jand15 x (by omega) (by omega)
  have b0 : 0 ≤ x / 4096 := by omega
  have b1 : x / 4096 < 16 := by omega
  have b2 : 0 ≤ x / 256 % 16 := by omega
  have b3 : x / 256 % 16 < 16 := by omega
  have b4 : 0 ≤ x / 16 % 16 := by omega
  have b5 : x / 16 % 16 < 16 := by omega
  have b6 : 0 ≤ x % 16 := by omega
  have b7 : x % 16 < 16 := by omega
  have hcells : bcells t = [.int .u8 92, .int .u8 117, .int .u8 ((M.hexd (u / 4096)).toNat : Int), .int .u8 ((M.hexd (u / 256 % 16)).toNat : Int), .int .u8 ((M.hexd (u / 16 % 16)).toNat : Int), .int .u8 ((M.hexd (u % 16)).toNat : Int)] := by
    rw [← ht]; rfl
  have htl : t.length ≤ 1048576 := by rw [← ht]; simp [M.num6]
  have Hx := Lib.hid hx
  have Hcells := Lib.hid hcells
  clear hx ht hu hcells
  go_enter Tryd.func56, Tryd.ntmps56
  go_wp2_with fail
  refine wp_region_still_tail 14 (by kernel_rfl) (by kernel_rfl) ?_
  simp only [List.take_succ_cons, List.take_zero, List.drop_succ_cons, List.drop_zero]
  repeat still_step
  refine wpStill_nil ?_
  change wpList _ _ _ _ _ w.drew
  go_wp2
  go_ret
  refine ⟨_, rfl, ?_, nn_some _ _ _, ((Below.refl _ _).drew).alloc (by simp) _⟩
  have hb := bs_cells_new w.drew t _ 6 Hcells.out rfl htl
  refine Eq.mp ?_ hb
  congr 4
  have Hx := Hx.out
  rw [hexAt' (u / 4096) (by omega) _ (by omega), hexAt' (u / 256 % 16) (by omega) _ (by omega), hexAt' (u / 16 % 16) (by omega) _ (by omega), hexAt' (u % 16) (by omega) _ (by omega)]
  rfl

set_option maxHeartbeats 400000 in
theorem spelling_esc (r : Nat) (t : List UInt8) (w : World) (hr : r = 34 ∨ r = 92 ∨ r = 8 ∨ r = 12 ∨ r = 10 ∨ r = 13 ∨ r = 9) (ht : M.spel r = t) :
    Calls Tryd.prog 34 #[.int .i64 (r : Int)] w fun e w' => ∃ v, e = .returned v ∧ Bs w' v t ∧ NN v ∧ Below w.heap.size w w' := by
  have kc := fun (w : World) (C : Array Value) (n c : Nat) => Lib.run_convert_bytes_const (P := Tryd.prog) w 29 5 C n c Tryd.underlying29 Tryd.underlying5
  rcases hr with rfl | rfl | rfl | rfl | rfl | rfl | rfl
  · obtain rfl : [92, 34] = t := by rw [← ht]; decide +kernel
    clear ht
    go_enter Tryd.func34, Tryd.ntmps34
    go_wp2
    go_ret
    exact ⟨_, rfl, bs_cells_new w [92, 34] _ 2 rfl rfl (by decide), nn_some _ _ _, (Below.refl _ _).alloc (Nat.le_refl _) _⟩
  · obtain rfl : [92, 92] = t := by rw [← ht]; decide +kernel
    clear ht
    go_enter Tryd.func34, Tryd.ntmps34
    go_wp2
    go_ret
    exact ⟨_, rfl, bs_cells_new w [92, 92] _ 2 rfl rfl (by decide), nn_some _ _ _, (Below.refl _ _).alloc (Nat.le_refl _) _⟩
  · obtain rfl : [92, 98] = t := by rw [← ht]; decide +kernel
    clear ht
    go_enter Tryd.func34, Tryd.ntmps34
    go_wp2
    go_ret
    exact ⟨_, rfl, bs_newm w [92, 98] _ (by decide), nn_some _ _ _, (Below.refl _ _).alloc (Nat.le_refl _) _⟩
  · obtain rfl : [92, 102] = t := by rw [← ht]; decide +kernel
    clear ht
    go_enter Tryd.func34, Tryd.ntmps34
    go_wp2
    go_ret
    exact ⟨_, rfl, bs_newm w [92, 102] _ (by decide), nn_some _ _ _, (Below.refl _ _).alloc (Nat.le_refl _) _⟩
  · obtain rfl : [92, 110] = t := by rw [← ht]; decide +kernel
    clear ht
    go_enter Tryd.func34, Tryd.ntmps34
    go_wp2
    go_ret
    exact ⟨_, rfl, bs_newm w [92, 110] _ (by decide), nn_some _ _ _, (Below.refl _ _).alloc (Nat.le_refl _) _⟩
  · obtain rfl : [92, 114] = t := by rw [← ht]; decide +kernel
    clear ht
    go_enter Tryd.func34, Tryd.ntmps34
    go_wp2
    go_ret
    exact ⟨_, rfl, bs_newm w [92, 114] _ (by decide), nn_some _ _ _, (Below.refl _ _).alloc (Nat.le_refl _) _⟩
  · obtain rfl : [92, 116] = t := by rw [← ht]; decide +kernel
    clear ht
    go_enter Tryd.func34, Tryd.ntmps34
    go_wp2
    go_ret
    exact ⟨_, rfl, bs_newm w [92, 116] _ (by decide), nn_some _ _ _, (Below.refl _ _).alloc (Nat.le_refl _) _⟩
set_option maxHeartbeats 400000 in
theorem spelling_any (r : Nat) (t : List UInt8) (w : World) (hr : r ≤ 1114111) (ht : M.spel r = t) :
    Calls Tryd.prog 34 #[.int .i64 (r : Int)] w fun e w' => ∃ v, e = .returned v ∧ Bs w' v t ∧ NN v ∧ Below w.heap.size w w' := by
  by_cases hesc : r = 34 ∨ r = 92 ∨ r = 8 ∨ r = 12 ∨ r = 10 ∨ r = 13 ∨ r = 9
  · exact spelling_esc r t w hesc ht
  obtain ⟨x, hx⟩ : ∃ x : Int, (r : Int) = x := ⟨_, rfl⟩
  have n34 : (x == 34) = false := by rw [beq_eq_false_iff_ne]; omega
  have n92 : (x == 92) = false := by rw [beq_eq_false_iff_ne]; omega
  have n8 : (x == 8) = false := by rw [beq_eq_false_iff_ne]; omega
  have n12 : (x == 12) = false := by rw [beq_eq_false_iff_ne]; omega
  have n10 : (x == 10) = false := by rw [beq_eq_false_iff_ne]; omega
  have n13 : (x == 13) = false := by rw [beq_eq_false_iff_ne]; omega
  have n9 : (x == 9) = false := by rw [beq_eq_false_iff_ne]; omega
  have hx0 : 0 ≤ x := by omega
  have hx1 : x ≤ 1114111 := by omega
  unfold M.spel at ht
  rw [if_neg (by omega), if_neg (by omega), if_neg (by omega), if_neg (by omega), if_neg (by omega), if_neg (by omega), if_neg (by omega)] at ht
  by_cases h1 : r < 32 ∨ M.Sur r
  · rw [if_pos h1] at ht
    have hnum := fun w => numbered_any r t w (by unfold M.Sur at h1; omega) ht
    rw [hx] at hnum ⊢
    have Hnum := Lib.hid hnum
    clear hnum hesc ht
    by_cases h2 : x < 32
    · clear h1 hx
      go_enter Tryd.func34, Tryd.ntmps34
      go_wp2_with fail
      refine (Hnum.out _).mono ?_
      rintro e w' ⟨v, rfl, b1, b2, b3⟩
      go_wp2
      go_ret
      exact ⟨_, rfl, b1, b2, b3⟩
    · have hs := fun w => sur_any x true w (by unfold M.Sur at h1; simp; omega)
      have Hs := Lib.hid hs
      clear h1 hx hs
      go_enter Tryd.func34, Tryd.ntmps34
      go_wp2_with fail
      refine (Hs.out _).mono ?_
      rintro e w' ⟨rfl, rfl⟩
      go_wp2_with fail
      refine (Hnum.out _).mono ?_
      rintro e w' ⟨v, rfl, b1, b2, b3⟩
      go_wp2
      go_ret
      exact ⟨_, rfl, b1, b2, b3⟩
  · rw [if_neg h1] at ht
    have hput := fun w => put_any (.slice none 0 0) [] t (r : Int) w (bs_nil _) (by decide) (by rw [← ht]; rfl)
    rw [hx] at hput ⊢
    have h2 : ¬ x < 32 := by omega
    have hs := fun w => sur_any x false w (by unfold M.Sur at h1; simp; omega)
    have Hs := Lib.hid hs
    have Hput := Lib.hid hput
    clear hs hput h1 hx hesc ht
    go_enter Tryd.func34, Tryd.ntmps34
    go_wp2_with fail
    refine (Hs.out _).mono ?_
    rintro e w' ⟨rfl, rfl⟩
    go_wp2_with fail
    refine (Hput.out _).mono ?_
    rintro e w' ⟨v, rfl, ho, b3⟩
    go_wp2
    go_ret
    exact ⟨_, rfl, ho.bs, ho.nn, b3⟩
end Go.Proofs.YtlobinjdgcidmaaDoor

/- Texts of JSON, written: what jstring.Spell returns of units. -/
namespace Go.Proofs.YtlobinjdgcidmaaDoor
open Go.RowKit
set_option linter.unusedVariables false

set_option maxHeartbeats 1000000 in
theorem jspell_any (v : Value) (l : List Nat) (t : ByteArray) (w : World) (hv : Is w v (iN l)) (hl : l.length ≤ 1048576) (hu : ∀ u ∈ l, u ≤ 65535) (ht : bytes (M.spell l) = t) :
    Calls Tryd.prog 16 #[v] w fun e w' => e = .returned (.string t) ∧ Below w.heap.size w w' := by
  have hR := rightU_iN l hu
  have Hv := Lib.hid hv
  have HR := Lib.hid hR
  have Ht := Lib.hid ht
  have Hu := Lib.hid hu
  obtain ⟨a, cap, rfl, h1, h2, h3⟩ := hv
  rw [iN_len] at h1 Hv ⊢
  have hblen := M.body_len l
  clear hR ht hu h3
  have hbn : ∀ W : World, Below w.heap.size w W → Below w.heap.size w (W.alloc (.cells #[.int .u8 34] 5)) := fun W h => h.alloc h.size _
  have Hbn := Lib.hid hbn
  clear hbn
  go_enter Tryd.func16, Tryd.ntmps16
  go_wp2_with fail
  refine (jright_any _ (iN l) true _ Hv.out (by rw [iN_len]; omega) HR.out).mono ?_
  rintro e w' ⟨rfl, rfl⟩
  go_wp2
  go_loopw [0, 3, 4, 5] (fun lv ov _ _ wr => ∃ (m : Nat) (pre : List UInt8), m ≤ l.length ∧ Is w lv (iN (l.drop m)) ∧ OwnB w.heap.size wr ov (34 :: pre) ∧ pre ++ M.body (l.drop m) = M.body l ∧ Below w.heap.size w wr) (fun lv _ _ _ _ => match lv with | .slice _ n _ => n | _ => 0)
  case atStart =>
    refine ⟨0, [], by omega, ?_, ownB_built w.heap.size w [34] _ 1 (Nat.le_refl _) rfl rfl (by decide), rfl, Hbn.out _ (Below.refl _ _)⟩
    exact Hv.out
  case round =>
    obtain ⟨m, pre, hm, hIs, ho, hpre, hb⟩ := hrel
    have hIs2 := hIs
    have HIs := Lib.hid hIs
    obtain ⟨a', cap', rfl, g1, g2, g3⟩ := hIs2
    have hplen : pre.length ≤ 6 * l.length := by
      have := congrArg List.length hpre
      rw [List.length_append] at this; omega
    have hlen2 : (iN (l.drop m)).length = l.length - m := by rw [iN_len, List.length_drop]
    have g3' : m < l.length → _ := fun hh => g3 (by rw [hlen2]; omega)
    rw [hlen2] at HIs g1 ⊢
    have Hpre := Lib.hid hpre
    have hsz := hb.size
    clear hIs hpre hlen2 g3
    obtain ⟨L, hL⟩ : ∃ L, l.length - m = L := ⟨_, rfl⟩
    have hLm : m + L = l.length := by rw [← hL]; exact Nat.add_sub_cancel' hm
    rw [hL] at HIs g1 ⊢
    by_cases hlt : m < l.length
    · obtain ⟨b', off', rfl, hbk, hcx⟩ := g3' hlt
      clear hcx
      have hne : l.drop m ≠ [] := by intro hh; have := congrArg List.length hh; simp at this; omega
      obtain ⟨R, N, hRN⟩ : ∃ R N, M.firstU (l.drop m) = (R, N) := ⟨_, _, rfl⟩
      have hfl := M.first_len (l.drop m) hne
      have hfv := M.first_val (l.drop m) (fun u hh => Hu.out u (List.mem_of_mem_drop hh))
      have hstep := M.body_step (l.drop m) hne
      rw [hRN] at hfl hfv hstep
      simp only [List.drop_drop, List.length_drop] at hfl hfv hstep
      have hpre2 : (pre ++ M.spel R) ++ M.body (l.drop (m + N)) = M.body l := by rw [← Hpre.out, hstep, List.append_assoc]
      have hdrop : (iN (l.drop m)).drop N = iN (l.drop (m + N)) := by rw [iN_drop, List.drop_drop]
      obtain ⟨t, hsp⟩ : ∃ t, M.spel R = t := ⟨_, rfl⟩
      rw [hsp] at hpre2
      have hsl := (M.spel_len R).1
      rw [hsp] at hsl
      have hR1 := hfv.1
      have hN1 := hfl.1
      have hN2 := hfl.2.1
      have hpos : (0 : Int) < (L : Int) := by omega
      have Hne := Lib.hid hne
      have HRN := Lib.hid hRN
      have Hpre2 := Lib.hid hpre2
      have Hdrop := Lib.hid hdrop
      have Hsp := Lib.hid hsp
      rw [hL] at hN2
      clear hne hRN hpre2 hdrop hsp hstep hfv hfl g3' hL
      go_wp2_with fail
      refine (first_any _ (l.drop m) R N wr (HIs.out.keep hb) Hne.out HRN.out).mono ?_
      rintro e w1 ⟨rfl, hb1⟩
      have hb2 := hb.trans (hb1.mono hsz)
      have ho1 := ho.keep hb1
      clear hb hb1 ho hsz
      go_wp2_with fail
      refine (spelling_any R t _ hR1 Hsp.out).mono ?_
      rintro e w2 ⟨v2, rfl, k1, k2, k3⟩
      have hb3 := hb2.trans (k3.mono hb2.size)
      have hsz3 := hb3.size
      have ho2 := ho1.keep k3
      clear hb2 ho1 k3
      go_wp2_with (at_builtin; refine wpl_append rfl _ _ rfl w.heap.size _ v2 (34 :: pre) t (34 :: (pre ++ t)) rfl ho2 rfl k1 k2 (by simp only [List.length_cons]; omega) hsz3 rfl ?_)
      intro v3 w3 ho3 hb4
      have hb5 := hb3.trans hb4
      clear hb3 ho2 k1 k2 hb4 hsz3
      have fin := is_drop HIs.out N hN2
      rw [Hdrop.out] at fin
      by_cases hcN : cap' = N
      · obtain rfl : L = cap' := by omega
        subst hcN
        rw [if_pos rfl] at fin
        simp only [Nat.sub_self] at fin
        have Fin := Lib.hid fin
        clear fin
        go_wp2
        go_roundw
        case rel => exact ⟨m + L, pre ++ t, by omega, Fin.out, ho3, Hpre2.out, hb5⟩
        case measure => simp; omega
      · rw [if_neg hcN] at fin
        have Fin := Lib.hid fin
        clear fin
        go_wp2
        go_roundw
        case rel => exact ⟨m + N, pre ++ t, by omega, Fin.out, ho3, Hpre2.out, hb5⟩
        case measure => simp; omega
    · obtain rfl : m = l.length := by omega
      obtain rfl : L = 0 := by omega
      rw [List.drop_length] at Hpre
      have hpe : pre = M.body l := by have := Hpre.out; simpa [M.body] using this
      have hfin : bytes (34 :: (pre ++ [34])) = t := by rw [← Ht.out, hpe]; rfl
      have Hfin := Lib.hid hfin
      clear hlt g3' hpe hfin hL hLm
      go_wp2_with (at_builtin; refine wpl_append rfl _ _ rfl w.heap.size _ (.slice (some ⟨wr.heap.size, 0, none⟩) 1 1) (34 :: pre) [34] (34 :: (pre ++ [34])) rfl (ho.keep ((Below.refl _ _).alloc (Nat.le_refl _) _)) rfl (bs_cells_new wr [34] _ 1 rfl rfl (by decide)) (nn_some _ _ _) (by simp; omega) (by simp; omega) rfl ?_)
      intro v3 w3 ho3 hb4
      have hcv := conv_own ho3
      rw [Hfin.out] at hcv
      have hb5 := (hb.alloc hsz _).trans hb4
      clear hb4 ho hb ho3
      go_wp2
      go_ret
      exact ⟨rfl, hb5⟩

end Go.Proofs.YtlobinjdgcidmaaDoor

/- What the laws of texts of JSON share: the example of the document; units one behind the other. -/
namespace Go.Proofs.YtlobinjdgcidmaaDoor
open Go.RowKit
set_option linter.unusedVariables false

theorem is_cells_new (w : World) (l : List Int) (cs : List Value) (n : Nat) (h : icells l = cs) (hn : cs.length = n) (hl : l.length ≤ 1048576) :
    Is (w.alloc (.cells cs.toArray 3)) (.slice (some ⟨w.heap.size, 0, none⟩) n n) l := by
  have := is_new w l hl
  have e : l.length = n := by rw [← hn, ← h]; simp [icells]
  rw [h] at this
  simpa [e] using this

theorem is_two (w : World) (x y : Int) : Is (w.alloc (.cells #[.int .i64 x, .int .i64 y] 3)) (.slice (some ⟨w.heap.size, 0, none⟩) 2 2) [x, y] := is_cells_new w [x, y] [.int .i64 x, .int .i64 y] 2 rfl rfl (by simp)
theorem is_one (w : World) (x : Int) : Is (w.alloc (.cells #[.int .i64 x] 3)) (.slice (some ⟨w.heap.size, 0, none⟩) 1 1) [x] := is_cells_new w [x] [.int .i64 x] 1 rfl rfl (by simp)
set_option maxHeartbeats 400000 in
theorem runits_any (v : Value) (l : List Int) (r : Bool) (w : World) (hv : Is w v l) (hl : l.length ≤ 4294967296) (hr : M.rightU l = r) :
    Calls Tryd.prog 63 #[v] w fun e w' => e = .returned (.bool r) ∧ w = w' := by
  obtain ⟨a, cap, rfl, h1, h2, h3⟩ := hv
  have Hr := Lib.hid hr
  have H3 := Lib.hid h3
  clear hr h3
  go_enter Tryd.func63, Tryd.ntmps63
  go_wp2
  go_loop [3] (fun iv => ∃ k : Nat, iv = .int .i64 k ∧ k ≤ l.length ∧ M.rightU (l.take k) = true) (fun iv => l.length - (intOf iv).toNat)
  case atStart => exact ⟨0, rfl, by omega, rfl⟩
  case round =>
    obtain ⟨k, rfl, hk, ht⟩ := hrel
    have Ht := Lib.hid ht
    clear ht
    by_cases hlt : k < l.length
    · obtain ⟨b, off, rfl, hb, hc⟩ := H3.out (by omega)
      have hc0 := hc k hlt
      have hbad := rightU_bad l k hlt
      have hgood := rightU_take l k hlt Ht.out
      rw [Hr.out] at hbad
      obtain ⟨x, hx⟩ : ∃ x, l[k] = x := ⟨_, rfl⟩
      rw [hx] at hc0 hbad hgood
      have i1 : (0 : Int) ≤ k := by omega
      have i2 : (k : Int) < l.length := by omega
      clear hc hx
      by_cases hx : x < 0 ∨ 65535 < x
      · have hr2 := hbad hx
        subst hr2
        clear hbad hgood
        by_cases hx0 : x < 0
        · go_wp2
          go_ret
          exact ⟨rfl, rfl⟩
        · have hx1 : 65535 < x := by omega
          clear hx
          go_wp2
          go_ret
          exact ⟨rfl, rfl⟩
      · have hgo := hgood (by omega)
        have Hgo := Lib.hid hgo
        have x0 : 0 ≤ x := by omega
        have x1 : x ≤ 65535 := by omega
        clear hbad hgood hgo hx
        go_wp2
        go_round
        case rel => exact ⟨k + 1, by go_num, by omega, Hgo.out⟩
        case measure => simp [intOf]; omega
    · obtain rfl : k = l.length := by omega
      have hr2 := Hr.out
      rw [List.take_of_length_le (Nat.le_refl _)] at Ht
      rw [Ht.out] at hr2
      subst hr2
      clear hlt
      go_wp2
      go_ret
      exact ⟨rfl, rfl⟩
end Go.Proofs.YtlobinjdgcidmaaDoor
