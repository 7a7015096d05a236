/- Texts of ours in one: JgL. -/
import Derived.Test.YtlobinjdgcidmaaGreatDoorQs02
import Derived.Test.YtlobinjdgcidmaaGreatDoorQs00
import Derived.StillTailTactics
import Derived.Deep.QuietTactic
import Derived.BigQuiet
import Derived.Lib.SlBytesConst
import Derived.Laws.BitsLemmas
import Derived.WalkSmall
/- Several texts of ours in one: JStr JSpell JLaw. -/
/- Texts of JSON, written: what jstring.Right and jstring.Spell return, for any ints. -/
namespace Go.Proofs.YtlobinjdgcidmaaGreatDoor
open Go.RowKit
set_option linter.unusedVariables false

def iN (l : List Nat) : List Int := l.map fun (n : Nat) => (n : Int)
theorem iN_drop (l : List Nat) (n : Nat) : (iN l).drop n = iN (l.drop n) := by simp [iN]
theorem iN_len (l : List Nat) : (iN l).length = l.length := by simp [iN]
theorem iN_append (k l : List Nat) : iN (k ++ l) = iN k ++ iN l := by simp [iN]
theorem iN_of (l : List Int) (h : M.rightU l = true) : ∃ k : List Nat, l = iN k ∧ ∀ u ∈ k, u ≤ 65535 := by
  rw [M.rightU_iff] at h
  refine ⟨l.map Int.toNat, ?_, ?_⟩
  · unfold iN
    rw [List.map_map]
    conv => lhs; rw [← List.map_id l]
    apply List.map_congr_left
    intro x hx
    have := h x hx
    simp only [id, Function.comp]
    omega
  · intro u hu
    simp only [List.mem_map] at hu
    obtain ⟨x, hx, rfl⟩ := hu
    have := h x hx
    omega
theorem rightU_iN (k : List Nat) (h : ∀ u ∈ k, u ≤ 65535) : M.rightU (iN k) = true := by
  rw [M.rightU_iff]
  intro u hu
  simp only [iN, List.mem_map] at hu
  obtain ⟨x, hx, rfl⟩ := hu
  have := h x hx
  omega
theorem rightU_take (l : List Int) (k : Nat) (hk : k < l.length) (h : M.rightU (l.take k) = true) (h2 : 0 ≤ l[k] ∧ l[k] ≤ 65535) :
    M.rightU (l.take (k + 1)) = true := by
  rw [M.rightU_iff] at *
  rw [List.take_succ_eq_append_getElem hk]
  intro u hu
  rcases List.mem_append.1 hu with hu | hu
  · exact h u hu
  · simp at hu; subst hu; exact h2
theorem rightU_bad (l : List Int) (k : Nat) (hk : k < l.length) (h : l[k] < 0 ∨ 65535 < l[k]) : M.rightU l = false := by
  cases hr : M.rightU l with
  | false => rfl
  | true =>
    rw [M.rightU_iff] at hr
    have := hr _ (List.getElem_mem hk)
    omega

theorem tup2 {a b c d : Int} (h : a = c) (k : b = d) : Ending.returned (.tuple #[.int .i64 a, .int .i64 b]) = Ending.returned (.tuple #[.int .i64 c, .int .i64 d]) := by rw [h, k]
theorem jwraps_i64 (n : Int) (h₀ : 0 ≤ n) (h₁ : n < 2 ^ 62) : IntKind.i64.wrap n = n := by rw [IntKind.wrap_i64]; omega
theorem jand15 (n : Int) (h0 : 0 ≤ n) (h1 : n ≤ 1114111) : bits .and .i64 n 15 = n % 16 := bits_mask .i64 62 (by decide) jwraps_i64 4 (by decide) n h0 (by omega)

set_option maxHeartbeats 400000 in
theorem first_pair (b off len cap : Nat) (x y : Int) (w : World) (h2 : 2 ≤ len) (hcap : len ≤ cap) (hm : cap ≤ maxLen)
    (c0 : w.cell? ⟨b, off, none⟩ = some (.int .i64 x)) (c1 : w.cell? ⟨b, off + 1, none⟩ = some (.int .i64 y)) (p1 : 55296 ≤ x) (p2 : x < 56320) (p3 : 56320 ≤ y) (p4 : y < 57344) :
    Calls Tryz.prog 32 #[.slice (some ⟨b, off, none⟩) len cap] w fun e w' => e = .returned (.tuple #[.int .i64 (65536 + (x - 55296) * 1024 + (y - 56320)), .int .i64 2]) ∧ Below w.heap.size w w' := by
  have q1 : (1 : Int) < len := by omega
  have q2 : (0 : Int) < len := by omega
  go_enter Tryz.func32, Tryz.ntmps32
  go_wp2
  go_quiet (fail)
  go_wp2
  go_ret2
  exact ⟨tup2 (by omega) rfl, below_drewN (Below.refl _ _) _⟩

set_option maxHeartbeats 400000 in
theorem first_one (b off len cap : Nat) (x y : Int) (w : World) (h1 : 1 ≤ len) (hcap : len ≤ cap) (_hm : cap ≤ maxLen)
    (c0 : w.cell? ⟨b, off, none⟩ = some (.int .i64 x)) (c1 : 2 ≤ len → w.cell? ⟨b, off + 1, none⟩ = some (.int .i64 y)) (h : len = 1 ∨ x < 55296 ∨ 56320 ≤ x ∨ y < 56320 ∨ 57344 ≤ y) :
    Calls Tryz.prog 32 #[.slice (some ⟨b, off, none⟩) len cap] w fun e w' => e = .returned (.tuple #[.int .i64 x, .int .i64 1]) ∧ w = w' := by
  have q2 : (0 : Int) < len := by omega
  by_cases hl : len = 1
  · subst hl
    clear c1 h
    go_enter Tryz.func32, Tryz.ntmps32
    go_wp2
    go_ret2
    exact ⟨rfl, rfl⟩
  · have q1 : (1 : Int) < len := by omega
    have c2 := c1 (by omega)
    clear c1
    by_cases p1 : 55296 ≤ x
    · by_cases p2 : x < 56320
      · by_cases p3 : 56320 ≤ y
        · have p4 : 57344 ≤ y := by omega
          clear h hl
          go_enter Tryz.func32, Tryz.ntmps32
          go_wp2
          go_ret2
          exact ⟨rfl, rfl⟩
        · clear h hl
          go_enter Tryz.func32, Tryz.ntmps32
          go_wp2
          go_ret2
          exact ⟨rfl, rfl⟩
      · clear h hl
        go_enter Tryz.func32, Tryz.ntmps32
        go_wp2
        go_ret2
        exact ⟨rfl, rfl⟩
    · clear h hl
      go_enter Tryz.func32, Tryz.ntmps32
      go_wp2
      go_ret2
      exact ⟨rfl, rfl⟩

theorem first_any (v : Value) (l : List Nat) (r n : Nat) (w : World) (hv : Is w v (iN l)) (h0 : l ≠ []) (hr : M.firstU l = (r, n)) :
    Calls Tryz.prog 32 #[v] w fun e w' => e = .returned (.tuple #[.int .i64 (r : Int), .int .i64 (n : Int)]) ∧ Below w.heap.size w w' := by
  obtain ⟨a, cap, rfl, h1, h2, h3⟩ := hv
  have hlen : 1 ≤ l.length := by
    cases l with
    | nil => exact absurd rfl h0
    | cons _ _ => simp
  obtain ⟨b, off, rfl, hb, hc⟩ := h3 (by rw [iN_len]; omega)
  rw [iN_len] at h1 ⊢
  match l, h0 with
  | [u], _ =>
    simp only [M.firstU, Prod.mk.injEq] at hr
    obtain ⟨rfl, rfl⟩ := hr
    have c0 := hc 0 (by simp [iN])
    refine (first_one b off 1 cap u 0 w (by omega) h1 h2 c0 (fun h => by omega) (.inl rfl)).mono ?_
    rintro e w' ⟨rfl, rfl⟩
    exact ⟨rfl, Below.refl _ _⟩
  | u :: v :: t, _ =>
    have c0 := hc 0 (by simp [iN])
    have c1 := hc 1 (by simp [iN])
    by_cases hp : M.isPair u v = true
    · simp only [M.firstU, if_pos hp, Prod.mk.injEq] at hr
      obtain ⟨rfl, rfl⟩ := hr
      rw [M.isPair_iff] at hp
      refine (first_pair b off _ cap u v w (by simp) h1 h2 c0 c1 (by omega) (by omega) (by omega) (by omega)).mono ?_
      rintro e w' ⟨rfl, hw⟩
      exact ⟨tup2 (by unfold M.joinU; omega) rfl, hw⟩
    · simp only [M.firstU, if_neg hp, Prod.mk.injEq] at hr
      obtain ⟨rfl, rfl⟩ := hr
      rw [M.isPair_iff] at hp
      refine (first_one b off _ cap u v w (by simp) h1 h2 c0 (fun _ => c1) (by omega)).mono ?_
      rintro e w' ⟨rfl, rfl⟩
      exact ⟨rfl, Below.refl _ _⟩

theorem hexAt : ∀ d : Fin 16, (ByteArray.mk #[48, 49, 50, 51, 52, 53, 54, 55, 56, 57, 97, 98, 99, 100, 101, 102])[d.val]'(by have := d.isLt; simp [ByteArray.size]) = M.hexd d.val := by decide +kernel
theorem hexAt' (d : Nat) (h : d < 16) (x : Nat) (hx : x = d) (h' : x < (ByteArray.mk #[48, 49, 50, 51, 52, 53, 54, 55, 56, 57, 97, 98, 99, 100, 101, 102]).size) :
    Value.int .u8 (((ByteArray.mk #[48, 49, 50, 51, 52, 53, 54, 55, 56, 57, 97, 98, 99, 100, 101, 102])[x]'h').toNat : Int) = .int .u8 ((M.hexd d).toNat : Int) := by
  subst hx; rw [hexAt ⟨x, h⟩]
end Go.Proofs.YtlobinjdgcidmaaGreatDoor

/- Texts of JSON, written: what jstring.Spell returns of units. -/
namespace Go.Proofs.YtlobinjdgcidmaaGreatDoor
open Go.RowKit
set_option linter.unusedVariables false

end Go.Proofs.YtlobinjdgcidmaaGreatDoor

/- What the laws of texts of JSON share: the example of the document; units one behind the other. -/
namespace Go.Proofs.YtlobinjdgcidmaaGreatDoor
open Go.RowKit
set_option linter.unusedVariables false

theorem is_cells_new (w : World) (l : List Int) (cs : List Value) (n : Nat) (h : icells l = cs) (hn : cs.length = n) (hl : l.length ≤ 1048576) :
    Is (w.alloc (.cells cs.toArray 3)) (.slice (some ⟨w.heap.size, 0, none⟩) n n) l := by
  have := is_new w l hl
  have e : l.length = n := by rw [← hn, ← h]; simp [icells]
  rw [h] at this
  simpa [e] using this

theorem is_two (w : World) (x y : Int) : Is (w.alloc (.cells #[.int .i64 x, .int .i64 y] 3)) (.slice (some ⟨w.heap.size, 0, none⟩) 2 2) [x, y] := is_cells_new w [x, y] [.int .i64 x, .int .i64 y] 2 rfl rfl (by simp)
theorem is_one (w : World) (x : Int) : Is (w.alloc (.cells #[.int .i64 x] 3)) (.slice (some ⟨w.heap.size, 0, none⟩) 1 1) [x] := is_cells_new w [x] [.int .i64 x] 1 rfl rfl (by simp)
set_option maxHeartbeats 400000 in
theorem runits_any (v : Value) (l : List Int) (r : Bool) (w : World) (hv : Is w v l) (hl : l.length ≤ 4294967296) (hr : M.rightU l = r) :
    Calls Tryz.prog 26 #[v] w fun e w' => e = .returned (.bool r) ∧ w = w' := by
  obtain ⟨a, cap, rfl, h1, h2, h3⟩ := hv
  have Hr := Lib.hid hr
  have H3 := Lib.hid h3
  clear hr h3
  go_enter Tryz.func26, Tryz.ntmps26
  go_wp2
  go_loop [3] (fun iv => ∃ k : Nat, iv = .int .i64 k ∧ k ≤ l.length ∧ M.rightU (l.take k) = true) (fun iv => l.length - (intOf iv).toNat)
  case atStart => exact ⟨0, rfl, by omega, rfl⟩
  case round =>
    obtain ⟨k, rfl, hk, ht⟩ := hrel
    have Ht := Lib.hid ht
    clear ht
    by_cases hlt : k < l.length
    · obtain ⟨b, off, rfl, hb, hc⟩ := H3.out (by omega)
      have hc0 := hc k hlt
      have hbad := rightU_bad l k hlt
      have hgood := rightU_take l k hlt Ht.out
      rw [Hr.out] at hbad
      obtain ⟨x, hx⟩ : ∃ x, l[k] = x := ⟨_, rfl⟩
      rw [hx] at hc0 hbad hgood
      have i1 : (0 : Int) ≤ k := by omega
      have i2 : (k : Int) < l.length := by omega
      clear hc hx
      by_cases hx : x < 0 ∨ 65535 < x
      · have hr2 := hbad hx
        subst hr2
        clear hbad hgood
        by_cases hx0 : x < 0
        · go_wp2
          go_ret
          exact ⟨rfl, rfl⟩
        · have hx1 : 65535 < x := by omega
          clear hx
          go_wp2
          go_ret
          exact ⟨rfl, rfl⟩
      · have hgo := hgood (by omega)
        have Hgo := Lib.hid hgo
        have x0 : 0 ≤ x := by omega
        have x1 : x ≤ 65535 := by omega
        clear hbad hgood hgo hx
        go_wp2
        go_round
        case rel => exact ⟨k + 1, by go_num, by omega, Hgo.out⟩
        case measure => simp [intOf]; omega
    · obtain rfl : k = l.length := by omega
      have hr2 := Hr.out
      rw [List.take_of_length_le (Nat.le_refl _)] at Ht
      rw [Ht.out] at hr2
      subst hr2
      clear hlt
      go_wp2
      go_ret
      exact ⟨rfl, rfl⟩
end Go.Proofs.YtlobinjdgcidmaaGreatDoor
