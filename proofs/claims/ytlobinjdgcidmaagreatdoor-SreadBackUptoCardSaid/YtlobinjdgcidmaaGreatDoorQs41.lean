/- Texts of ours in one: JRefSpell2. -/
import Derived.Test.YtlobinjdgcidmaaGreatDoorQs10
import Derived.Test.YtlobinjdgcidmaaGreatDoorQs40
import Derived.Deep.RegionHeld3
import Derived.Deep.DeepCutAuto
/- The reference of texts of JSON: what abridgerref1.SpellUnits returns, for any ints. -/
namespace Go.Proofs.YtlobinjdgcidmaaGreatDoor
open Go.RowKit
set_option linter.unusedVariables false

def shortL : List Int := [34, 92, 8, 12, 10, 13, 9]
def shortAt (u : Int) : Int := if u = 34 then 0 else if u = 92 then 1 else if u = 8 then 2 else if u = 12 then 3 else if u = 10 then 4 else if u = 13 then 5 else if u = 9 then 6 else -1
def seekJ (u : Int) (j : Nat) : Int := if shortAt u < j then shortAt u else -1
theorem shortAt_lt (u : Int) : -1 ≤ shortAt u ∧ shortAt u < 7 := by
  unfold shortAt
  repeat' split
  all_goals omega
theorem shortL_at (u : Int) (j : Nat) (hj : j < 7) : shortL.getD j 0 = u ↔ shortAt u = j := by
  have : j = 0 ∨ j = 1 ∨ j = 2 ∨ j = 3 ∨ j = 4 ∨ j = 5 ∨ j = 6 := by omega
  unfold shortAt shortL
  rcases this with rfl | rfl | rfl | rfl | rfl | rfl | rfl
  all_goals
    simp only [List.getD_cons_zero, List.getD_cons_succ]
    constructor
    · intro h; subst h; decide
    · intro h
      repeat' split at h
      all_goals omega
theorem seek_hit (u : Int) (j : Nat) (hj : j < 7) (h : shortL.getD j 0 = u) : seekJ u (j + 1) = j := by
  rw [shortL_at u j hj] at h
  unfold seekJ; rw [h, if_pos (by omega)]
theorem seek_miss (u : Int) (j : Nat) (hj : j < 7) (h : ¬ shortL.getD j 0 = u) : seekJ u (j + 1) = seekJ u j := by
  rw [shortL_at u j hj] at h
  unfold seekJ
  by_cases h1 : shortAt u < j
  · rw [if_pos h1, if_pos (by omega)]
  · rw [if_neg h1, if_neg (by omega)]
theorem seek_all (u : Int) : seekJ u 7 = shortAt u := by
  have := shortAt_lt u
  unfold seekJ; rw [if_pos (by omega)]
theorem seek_none (u : Int) : seekJ u 0 = -1 := by
  have := shortAt_lt u
  unfold seekJ
  by_cases h : shortAt u < 0
  · rw [if_pos (by omega)]; omega
  · rw [if_neg (by omega)]

def blkSh : Obj := .cells #[.int .i64 34, .int .i64 92, .int .i64 8, .int .i64 12, .int .i64 10, .int .i64 13, .int .i64 9] 3
theorem cellSh (w : World) (j : Nat) (hj : j < 7) : (w.alloc blkSh).cell? ⟨w.heap.size, j, none⟩ = some (.int .i64 (shortL.getD j 0)) := by
  unfold blkSh
  rw [World.cell?_alloc_at _ _ _ _ rfl]
  have : j = 0 ∨ j = 1 ∨ j = 2 ∨ j = 3 ∨ j = 4 ∨ j = 5 ∨ j = 6 := by omega
  rcases this with rfl | rfl | rfl | rfl | rfl | rfl | rfl <;> rfl
def escOf (k : Nat) : UInt8 := [34, 92, 98, 102, 110, 114, 116].getD k 0
theorem escAt (k : Nat) (h : k < 7) (x : Nat) (hx : x = k) (h' : x < (ByteArray.mk #[34, 92, 98, 102, 110, 114, 116]).size) :
    Value.int .u8 (((ByteArray.mk #[34, 92, 98, 102, 110, 114, 116])[x]'h').toNat : Int) = .int .u8 ((escOf k).toNat : Int) := by
  subst hx
  have : x = 0 ∨ x = 1 ∨ x = 2 ∨ x = 3 ∨ x = 4 ∨ x = 5 ∨ x = 6 := by omega
  rcases this with rfl | rfl | rfl | rfl | rfl | rfl | rfl <;> rfl
theorem spel_short (u k : Nat) (h : shortAt (u : Int) = k) : k < 7 ∧ M.spel u = [92, escOf k] := by
  have hk := shortAt_lt (u : Int)
  refine ⟨by omega, ?_⟩
  unfold shortAt at h
  by_cases h1 : u = 34
  · subst h1; obtain rfl : k = 0 := by simp at h; omega
    decide +kernel
  · by_cases h2 : u = 92
    · subst h2; obtain rfl : k = 1 := by simp at h; omega
      decide +kernel
    · by_cases h3 : u = 8
      · subst h3; obtain rfl : k = 2 := by simp at h; omega
        decide +kernel
      · by_cases h4 : u = 12
        · subst h4; obtain rfl : k = 3 := by simp at h; omega
          decide +kernel
        · by_cases h5 : u = 10
          · subst h5; obtain rfl : k = 4 := by simp at h; omega
            decide +kernel
          · by_cases h6 : u = 13
            · subst h6; obtain rfl : k = 5 := by simp at h; omega
              decide +kernel
            · by_cases h7 : u = 9
              · subst h7; obtain rfl : k = 6 := by simp at h; omega
                decide +kernel
              · rw [if_neg (by omega), if_neg (by omega), if_neg (by omega), if_neg (by omega), if_neg (by omega), if_neg (by omega), if_neg (by omega)] at h
                omega
theorem spel_long (u : Nat) (h : shortAt (u : Int) < 0) : M.spel u = if u < 32 ∨ M.Sur u then M.num6 u else M.enc u := by
  unfold shortAt at h
  have : u ≠ 34 ∧ u ≠ 92 ∧ u ≠ 8 ∧ u ≠ 12 ∧ u ≠ 10 ∧ u ≠ 13 ∧ u ≠ 9 := by
    refine ⟨?_, ?_, ?_, ?_, ?_, ?_, ?_⟩ <;> (intro hh; subst hh; exact absurd h (by decide))
  unfold M.spel
  rw [if_neg this.1, if_neg this.2.1, if_neg this.2.2.1, if_neg this.2.2.2.1, if_neg this.2.2.2.2.1, if_neg this.2.2.2.2.2.1, if_neg this.2.2.2.2.2.2]

theorem short_low (u k : Nat) (hk : k < 7) (h : shortAt (u : Int) = k) : u < 100 := by
  by_cases hu : u < 100
  · exact hu
  · unfold shortAt at h
    rw [if_neg (by omega), if_neg (by omega), if_neg (by omega), if_neg (by omega), if_neg (by omega), if_neg (by omega), if_neg (by omega)] at h
    omega
theorem pair_low (u v : Nat) {k : Nat} (hk : k < 7) (h : shortAt (u : Int) = k) : M.isPair u v = false := by
  have := short_low u k hk h
  cases hp : M.isPair u v with
  | false => rfl
  | true => rw [M.isPair_iff] at hp; omega
theorem body_next (l : List Nat) (m : Nat) (hm : m < l.length) (h : ∀ v, l[m + 1]? = some v → M.isPair l[m] v = false) : M.body (l.drop m) = M.spel l[m] ++ M.body (l.drop (m + 1)) := by
  rw [List.drop_eq_getElem_cons hm]
  match hd : l.drop (m + 1) with
  | [] => simp [M.body]
  | v :: t =>
    have hv : l[m + 1]? = some v := by
      have := congrArg List.head? hd
      rw [List.head?_drop] at this
      simpa using this
    simp [M.body, h v hv]
theorem body_two (l : List Nat) (m : Nat) (hm : m + 1 < l.length) (h : M.isPair l[m] l[m + 1] = true) : M.body (l.drop m) = M.enc (M.joinU l[m] l[m + 1]) ++ M.body (l.drop (m + 2)) := by
  rw [List.drop_eq_getElem_cons (by omega : m < l.length), List.drop_eq_getElem_cons hm]
  simp only [M.body, if_pos h]
  rw [M.spel_join _ _ h]
theorem bs_esc (w : World) (c : UInt8) (v : Value) (h : v = .int .u8 (c.toNat : Int)) : Bs (w.alloc (.cells #[.int .u8 92, v] 5)) (.slice (some ⟨w.heap.size, 0, none⟩) 2 2) [92, c] := by
  subst h; exact bs_cells_new w [92, c] _ 2 rfl rfl (by simp)
theorem bs_num (w : World) (u : Nat) (t : List UInt8) (ht : M.num6 u = t) (a b c d : Value) (ha : a = .int .u8 ((M.hexd (u / 4096)).toNat : Int)) (hb : b = .int .u8 ((M.hexd (u / 256 % 16)).toNat : Int))
    (hc : c = .int .u8 ((M.hexd (u / 16 % 16)).toNat : Int)) (hd : d = .int .u8 ((M.hexd (u % 16)).toNat : Int)) :
    Bs (w.alloc (.cells #[.int .u8 92, .int .u8 117, a, b, c, d] 5)).drew (.slice (some ⟨w.heap.size, 0, none⟩) 6 6) t := by
  subst ha hb hc hd ht
  exact bs_cells_new w.drew (M.num6 u) _ 6 rfl rfl (by simp [M.num6])

set_option maxRecDepth 100000 in
set_option maxHeartbeats 40000000 in
theorem refspell_any (v : Value) (l : List Nat) (t : ByteArray) (w : World) (hv : Is w v (iN l)) (hl : l.length ≤ 2200000) (hu : ∀ u ∈ l, u ≤ 65535) (ht : bytes (M.spell l) = t) :
    Calls Tryz.prog 13 #[v] w fun e w' => e = .returned (.string t) ∧ Below w.heap.size w w' := by
  have HR := Lib.hid (rightU_iN l hu)
  have Hv := Lib.hid hv
  have Ht := Lib.hid ht
  have Hu := Lib.hid hu
  obtain ⟨a, cap, rfl, h1, h2, h3⟩ := hv
  have H3 := Lib.hid h3
  have Hcs := Lib.hid cellSh
  rw [iN_len] at h1 Hv ⊢
  have hblen := M.body_len l
  clear ht hu h3
  have hbn : ∀ (W : World) o, Below w.heap.size w W → Below w.heap.size w (W.alloc o) := fun W o h => h.alloc h.size _
  have Hbn := Lib.hid hbn
  clear hbn
  go_enter Tryz.func13, Tryz.ntmps13
  go_wp2_with fail
  refine (runits_any _ (iN l) true _ Hv.out (by rw [iN_len]; omega) HR.out).mono ?_
  rintro e w' ⟨rfl, rfl⟩
  go_wp2
  go_loopw [4, 5, 6, 7, 8, 9] (fun bv iv _ _ _ _ wr => ∃ (m : Nat) (pre : List UInt8), iv = .int .i64 m ∧ m ≤ l.length ∧ OwnB w.heap.size wr bv (34 :: pre) ∧ pre ++ M.body (l.drop m) = M.body l ∧ Below w.heap.size w wr) (fun _ iv _ _ _ _ _ => l.length - (intOf iv).toNat)
  case atStart => exact ⟨0, [], rfl, by omega, ownB_built w.heap.size w [34] _ 1 (Nat.le_refl _) rfl rfl (by decide), rfl, Hbn.out _ _ (Below.refl _ _)⟩
  case round =>
    obtain ⟨m, pre, rfl, hm, ho, hpre, hb⟩ := hrel
    have hplen : pre.length ≤ 6 * l.length := by
      have := congrArg List.length hpre
      rw [List.length_append] at this; omega
    have Hpre := Lib.hid hpre
    have Ho := Lib.hid ho
    have hsz := hb.size
    clear hpre ho
    by_cases hlt : m < l.length
    · obtain ⟨b, off, rfl, hbk, hc⟩ := H3.out (by rw [iN_len]; omega)
      have hc0 := hc m (by rw [iN_len]; exact hlt)
      have e0 : (iN l)[m]'(by rw [iN_len]; exact hlt) = ((l[m] : Nat) : Int) := by simp [iN]
      rw [e0] at hc0
      obtain ⟨x, hx⟩ : ∃ x : Int, ((l[m] : Nat) : Int) = x := ⟨_, rfl⟩
      rw [hx] at hc0
      have hux := Hu.out l[m] (List.getElem_mem hlt)
      have hx0 : 0 ≤ x := by omega
      have hx1 : x ≤ 65535 := by omega
      have hcr := hb.cell (p := ⟨b, off + m, none⟩) hbk
      rw [hc0] at hcr
      have i1 : (0 : Int) ≤ m := by omega
      have i2 : (m : Int) < l.length := by omega
      obtain ⟨n, hn⟩ : ∃ n, wr.heap.size = n := ⟨_, rfl⟩
      have hcs := fun j hj => Hcs.out wr j hj
      obtain ⟨W, hW⟩ : ∃ W, wr.alloc blkSh = W := ⟨_, rfl⟩
      have hbW : Below w.heap.size w W := by rw [← hW]; exact Hbn.out _ _ hb
      have hoW : OwnB w.heap.size W u4 (34 :: pre) := by rw [← hW]; exact Ho.out.keep ((Below.refl _ _).alloc (Nat.le_refl _) _)
      rw [hW, hn] at hcs
      unfold blkSh at hW
      have Hx := Lib.hid hx
      have HcW := Lib.hid hcs
      have HW := Lib.hid hW
      have Hn := Lib.hid hn
      have HoW := Lib.hid hoW
      have Hc := Lib.hid hc
      clear hx hcs hW hn hoW hc hc0 e0
      go_wp2
      rw [HW.out, Hn.out]
      obtain ⟨wo, hwo⟩ : ∃ wo : World, wo = W := ⟨_, rfl⟩
      go_loop [7, 9] (fun kv jv => ∃ j : Nat, jv = .int .i64 j ∧ j ≤ 7 ∧ kv = .int .i64 (seekJ x j)) (fun _ jv => 7 - (intOf jv).toNat)
      case atStart => exact ⟨0, rfl, by omega, by rw [seek_none]⟩
      case round =>
        obtain ⟨j, rfl, hj, rfl⟩ := hrel
        by_cases hj7 : j < 7
        · have hcj := HcW.out j hj7
          have j1 : (0 : Int) ≤ j := by omega
          have j2 : (j : Int) < 7 := by omega
          have hhit := seek_hit x j hj7
          have hmiss := seek_miss x j hj7
          obtain ⟨y, hy⟩ : ∃ y, shortL.getD j 0 = y := ⟨_, rfl⟩
          rw [hy] at hcj hhit hmiss
          obtain ⟨kk, hkk⟩ : ∃ kk, seekJ x j = kk := ⟨_, rfl⟩
          rw [hkk] at hmiss ⊢
          clear hy hkk
          by_cases hyx : y = x
          · have hh := hhit hyx
            have q1 : (y == x) = true := by rw [beq_iff_eq]; exact hyx
            have Hh := Lib.hid hh
            clear hhit hmiss hh hyx
            go_wp2
            go_round
            case rel => exact ⟨j + 1, by go_num, by omega, by rw [Hh.out]⟩
            case measure => simp [intOf]; omega
          · have hh := hmiss hyx
            have q1 : (y == x) = false := by rw [beq_eq_false_iff_ne]; exact hyx
            have Hh := Lib.hid hh
            clear hhit hmiss hh hyx
            go_wp2
            go_round
            case rel => exact ⟨j + 1, by go_num, by omega, by rw [Hh.out]⟩
            case measure => simp [intOf]; omega
        · obtain rfl : j = 7 := by omega
          rw [seek_all]
          have hbd : Below w.heap.size w W ∧ w.heap.size ≤ W.heap.size := ⟨hbW, hbW.size⟩
          have hszW := hbW.size
          have hne : l.drop m ≠ [] := by intro hh; have := congrArg List.length hh; simp at this; omega
          have hstep := M.body_step (l.drop m) hne
          by_cases hk : 0 ≤ shortAt x
          · obtain ⟨k, hkk⟩ : ∃ k : Nat, shortAt x = k := ⟨(shortAt x).toNat, by omega⟩
            obtain ⟨hk7, hsp⟩ := spel_short l[m] k (by rw [Hx.out]; exact hkk)
            rw [hkk]
            have fin : (pre ++ [92, escOf k]) ++ M.body (l.drop (m + 1)) = M.body l := by
              rw [← Hpre.out, body_next l m hlt (fun v _ => by rw [show M.isPair l[m] v = false from pair_low _ _ (spel_short l[m] k (by rw [Hx.out]; exact hkk)).1 (by rw [Hx.out]; exact hkk)]), hsp, List.append_assoc]
            have Fin := Lib.hid fin
            have k0 : (0 : Int) ≤ k := by omega
            have k7 : (k : Int) < 7 := by omega
            clear fin hsp hkk hk hstep hne
            go_wp2_with (at_builtin; refine wpl_append rfl _ _ rfl w.heap.size u4 (.slice (some ⟨W.heap.size, 0, none⟩) 2 2) (34 :: pre) [92, escOf k] (34 :: (pre ++ [92, escOf k])) rfl (HoW.out.keep ((Below.refl _ _).alloc (Nat.le_refl _) _)) rfl (bs_esc W _ _ (escAt k hk7 _ rfl _)) (nn_some _ _ _) (by simp; omega) (by simp; omega) rfl ?_)
            intro v3 w3 ho3 hb4
            have hb5 := (hbW.alloc hszW _).trans hb4
            clear hb4
            go_wp2
            go_roundw
            case rel => exact ⟨m + 1, pre ++ [92, escOf k], by go_num, by omega, ho3, Fin.out, hb5⟩
            case measure => simp [intOf]; omega
          · have hk' : shortAt x < 0 := by omega
            have hlong := spel_long l[m] (by rw [Hx.out]; exact hk')
            clear hk
            have e1 := jand15 (x / 256) (by omega) (by omega)
            have e2 := jand15 (x / 16) (by omega) (by omega)
            have e3 := jand15 x (by omega) (by omega)
            have b0 : 0 ≤ x / 4096 := by omega
            have b1 : x / 4096 < 16 := by omega
            have b2 : 0 ≤ x / 256 % 16 := by omega
            have b3 : x / 256 % 16 < 16 := by omega
            have b4 : 0 ≤ x / 16 % 16 := by omega
            have b5 : x / 16 % 16 < 16 := by omega
            have b6 : 0 ≤ x % 16 := by omega
            have b7 : x % 16 < 16 := by omega
            by_cases hpair : ∃ y : Nat, l[m + 1]? = some y ∧ M.isPair l[m] y = true
            · obtain ⟨Y, hY, hP⟩ := hpair
              obtain ⟨hm1, hY2⟩ := List.getElem?_eq_some_iff.1 hY
              have hc1 := Hc.out (m + 1) (by rw [iN_len]; exact hm1)
              have e0 : (iN l)[m + 1]'(by rw [iN_len]; exact hm1) = (Y : Int) := by simp [iN, hY2]
              rw [e0] at hc1
              have hcy : W.cell? ⟨b, off + (m + 1), none⟩ = some (.int .i64 (Y : Int)) := by rw [hbW.cell (p := ⟨b, off + (m + 1), none⟩) hbk]; exact hc1
              obtain ⟨U, hU⟩ : ∃ U, l[m] = U := ⟨_, rfl⟩
              have hUx : (U : Int) = x := by rw [← hU]; exact Hx.out
              have hbody := body_two l m hm1 (by rw [hY2]; exact hP)
              rw [hU] at hP hbody
              rw [hY2] at hbody
              have hjoin := M.join_lt U Y hP
              obtain ⟨J, hJ⟩ : ∃ J, M.joinU U Y = J := ⟨_, rfl⟩
              have hJx : (J : Int) = 65536 + (x - 55296) * 1024 + (Y : Int) - 56320 := by
                rw [← hJ]; unfold M.joinU; rw [M.isPair_iff] at hP; omega
              rw [hJ] at hbody hjoin
              rw [M.isPair_iff] at hP
              obtain ⟨y, hy⟩ : ∃ y : Int, (Y : Int) = y := ⟨_, rfl⟩
              rw [hy] at hcy hJx
              have g1 : 55296 ≤ x := by omega
              have g2 : x < 56320 := by omega
              have g3 : (m : Int) + 1 < (l.length : Int) := by omega
              have g4 : 56320 ≤ y := by omega
              have g5 : y < 57344 := by omega
              have fin : (pre ++ M.enc (J : Int)) ++ M.body (l.drop (m + 2)) = M.body l := by
                rw [← Hpre.out, hbody, List.append_assoc]
              rw [hJx] at fin
              have hcp : M.isCP (65536 + (x - 55296) * 1024 + y - 56320) = true := by rw [M.isCP_iff]; omega
              have Fin := Lib.hid fin
              have Hcp := Lib.hid hcp
              clear fin hcp hJx hJ hjoin hbody hU hUx hY hY2 e0 hc1 hP hlong hstep hne hux hy
              go_wp2_with fail
              refine (refput_cp w.heap.size u4 (34 :: pre) (34 :: (pre ++ M.enc (65536 + (x - 55296) * 1024 + y - 56320))) _ W Hcp.out HoW.out (by simp; omega) hszW rfl).mono ?_
              rintro e w3 ⟨v3, rfl, ho3, hb4⟩
              have hb5 := hbW.trans hb4
              clear hb4
              go_wp2
              go_roundw
              case rel => exact ⟨m + 2, pre ++ M.enc (65536 + (x - 55296) * 1024 + y - 56320), by go_num, by omega, ho3, Fin.out, hb5⟩
              case measure => simp [intOf]; omega
            · have hnp : ∀ v, l[m + 1]? = some v → M.isPair l[m] v = false := by
                intro v hv
                cases hh : M.isPair l[m] v with
                | false => rfl
                | true => exact absurd ⟨v, hv, hh⟩ hpair
              have hbody := body_next l m hlt hnp
              rw [hlong] at hbody
              have hcase : (x < 32) ∨ (32 ≤ x ∧ x < 55296) ∨ (57344 ≤ x) ∨ (56320 ≤ x ∧ x < 57344) ∨ (55296 ≤ x ∧ x < 56320 ∧ (l.length : Int) ≤ (m : Int) + 1) ∨
                  (55296 ≤ x ∧ x < 56320 ∧ (m : Int) + 1 < (l.length : Int) ∧ ∃ y : Int, W.cell? ⟨b, off + (m + 1), none⟩ = some (.int .i64 y) ∧ (y < 56320 ∨ (56320 ≤ y ∧ 57344 ≤ y))) := by
                by_cases g : 55296 ≤ x ∧ x < 56320 ∧ m + 1 < l.length
                · obtain ⟨g1, g2, g3⟩ := g
                  refine .inr (.inr (.inr (.inr (.inr ⟨g1, g2, by omega, ((l[m + 1] : Nat) : Int), ?_, ?_⟩))))
                  · have hc1 := Hc.out (m + 1) (by rw [iN_len]; exact g3)
                    have e0 : (iN l)[m + 1]'(by rw [iN_len]; exact g3) = ((l[m + 1] : Nat) : Int) := by simp [iN]
                    rw [e0] at hc1
                    rw [hbW.cell (p := ⟨b, off + (m + 1), none⟩) hbk]; exact hc1
                  · have := hnp l[m + 1] (by simp [g3])
                    have hq : ¬ (55296 ≤ l[m] ∧ l[m] < 56320 ∧ 56320 ≤ l[m + 1] ∧ l[m + 1] < 57344) := by
                      rw [← M.isPair_iff]; simp [this]
                    have := Hx.out
                    omega
                · have := Hx.out
                  omega
              obtain ⟨U, hU⟩ : ∃ U, l[m] = U := ⟨_, rfl⟩
              have hUx : (U : Int) = x := by rw [← hU]; exact Hx.out
              rw [hU] at hbody
              have h0 : U / 4096 < 16 := by omega
              have h1' : U / 256 % 16 < 16 := by omega
              have h2' : U / 16 % 16 < 16 := by omega
              have h3' : U % 16 < 16 := by omega
              have hfin : ∀ t, (if U < 32 ∨ M.Sur U then M.num6 U else M.enc U) = t → (pre ++ t) ++ M.body (l.drop (m + 1)) = M.body l := by
                intro t ht
                rw [← Hpre.out, hbody, ht, List.append_assoc]
              have HU := Lib.hid hUx
              have hsurI : M.Sur U ↔ (55296 ≤ x ∧ x < 57344) := by unfold M.Sur; omega
              have hltI : U < 32 ↔ x < 32 := by omega
              have Hfin := Lib.hid hfin
              have HsurI := Lib.hid hsurI
              have HltI := Lib.hid hltI
              have Hne := Lib.hid hne
              clear hfin hsurI hltI hne hlong hstep hbody hnp hpair hU hUx hux
              go_upto_region 19 with (fail)
              go_cut [49] from 14 to 125 (fun s49 wx => s49 = .bool false ∧ W = wx)
              case first =>
                rcases hcase with g | ⟨g1, g2⟩ | g | ⟨g1, g2⟩ | ⟨g1, g2, g3⟩ | ⟨g1, g2, g3, y, g4, g5⟩
                · go_wp2_with fail
                  go_meet
                  exact ⟨rfl, rfl⟩
                · go_wp2_with fail
                  go_meet
                  exact ⟨rfl, rfl⟩
                · go_wp2_with fail
                  go_meet
                  exact ⟨rfl, rfl⟩
                · go_wp2_with fail
                  go_meet
                  exact ⟨rfl, rfl⟩
                · go_wp2_with fail
                  go_meet
                  exact ⟨rfl, rfl⟩
                · rcases g5 with g5 | ⟨g5, g6⟩
                  · go_wp2_with fail
                    go_meet
                    exact ⟨rfl, rfl⟩
                  · have q : decide (y < 57344) = false := by simp; omega
                    go_wp2_with fail
                    go_meet
                    exact ⟨rfl, rfl⟩
              case rest =>
                obtain ⟨rfl, rfl⟩ := hcut
                clear hcase
                by_cases hcd : x < 32 ∨ (55296 ≤ x ∧ x < 57344)
                · have fin := Hfin.out (M.num6 U) (if_pos (by rw [HltI.out, HsurI.out]; exact hcd))
                  have Fin := Lib.hid fin
                  clear fin
                  have hcase2 : (x < 32) ∨ (32 ≤ x ∧ 55296 ≤ x ∧ x < 57344) := by omega
                  clear hcd
                  go_upto_region 22 with (fail)
                  go_cut [94] from 14 to 125 (fun s94 wx => s94 = .bool true ∧ W = wx)
                  case first =>
                    rcases hcase2 with g | ⟨g, g1, g2⟩
                    all_goals
                      go_wp2_with fail
                      go_meet
                      exact ⟨rfl, rfl⟩
                  case rest =>
                    obtain ⟨rfl, rfl⟩ := hcut
                    clear hcase2
                    go_wp2_with fail
                    go_region_held3 (fun _ : World => True) (trivial)
                      ((refine stepl_append (by rfl) _ _ (by rfl) w.heap.size u4 (.slice (some ⟨W.heap.size, 0, none⟩) 6 6) (34 :: pre) (M.num6 U) (34 :: (pre ++ M.num6 U)) (by rfl) (HoW.out.keep ((Below.refl _ _).alloc (Nat.le_refl _) _).drew) (by rfl) (bs_num W U _ rfl _ _ _ _ (hexAt' (U / 4096) h0 _ (by have := HU.out; omega) _) (hexAt' (U / 256 % 16) h1' _ (by have := HU.out; omega) _) (hexAt' (U / 16 % 16) h2' _ (by have := HU.out; omega) _) (hexAt' (U % 16) h3' _ (by have := HU.out; omega) _)) (by simp [M.num6]) (by simp [M.num6]; omega) (by simp; omega) rfl ?_; intro v3 w3 ho3 hb4))
                    all_goals
                      have hb5 := ((hbW.alloc hszW _).drew).trans hb4
                      clear hb4
                      go_wp2
                      go_roundw
                      case rel => first | exact ⟨m + 1, pre ++ M.num6 U, by go_num, by omega, ho3, Fin.out, hb5⟩ | ((repeat apply Exists.intro); exact ⟨⟨m + 1, pre ++ M.num6 U, by go_num, by omega, ho3, Fin.out, hb5⟩, rfl⟩)
                      case measure => simp [intOf]; omega
                · have fin := Hfin.out (M.enc (U : Int)) (if_neg (by rw [HltI.out, HsurI.out]; exact hcd))
                  have Fin := Lib.hid fin
                  clear fin
                  have hcase2 : (32 ≤ x ∧ x < 55296) ∨ (32 ≤ x ∧ 57344 ≤ x) := by omega
                  clear hcd
                  rcases hcase2 with ⟨g, g1⟩ | ⟨g, g1⟩
                  all_goals
                    go_wp2_with fail
                    refine (refput_cp w.heap.size u4 (34 :: pre) (34 :: (pre ++ M.enc (U : Int))) x W (by rw [M.isCP_iff]; omega) HoW.out (by simp; omega) hszW (by rw [HU.out]; rfl)).mono ?_
                    rintro e w3 ⟨v3, rfl, ho3, hb4⟩
                    have hb5 := hbW.trans hb4
                    clear hb4
                    go_wp2
                    go_roundw
                    case rel => first | exact ⟨m + 1, pre ++ M.enc (U : Int), by go_num, by omega, ho3, Fin.out, hb5⟩ | ((repeat apply Exists.intro); exact ⟨⟨m + 1, pre ++ M.enc (U : Int), by go_num, by omega, ho3, Fin.out, hb5⟩, rfl⟩)
                    case measure => simp [intOf]; omega
    · obtain rfl : m = l.length := by omega
      rw [List.drop_length] at Hpre
      have hpe : pre = M.body l := by have := Hpre.out; simpa [M.body] using this
      have hfin : bytes (34 :: (pre ++ [34])) = t := by rw [← Ht.out, hpe]; rfl
      have Hfin := Lib.hid hfin
      clear hlt hpe hfin
      go_wp2_with (at_builtin; refine wpl_append rfl _ _ rfl w.heap.size _ (.slice (some ⟨wr.heap.size, 0, none⟩) 1 1) (34 :: pre) [34] (34 :: (pre ++ [34])) rfl (Ho.out.keep ((Below.refl _ _).alloc (Nat.le_refl _) _)) rfl (bs_cells_new wr [34] _ 1 rfl rfl (by decide)) (nn_some _ _ _) (by simp; omega) (by simp; omega) rfl ?_)
      intro v3 w3 ho3 hb4
      have hcv := conv_own ho3
      rw [Hfin.out] at hcv
      have hb5 := (hb.alloc hsz _).trans hb4
      clear hb4 hb ho3
      go_wp2
      go_ret
      exact ⟨rfl, hb5⟩
end Go.Proofs.YtlobinjdgcidmaaGreatDoor
