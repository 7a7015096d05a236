/- Texts of ours in one: ZQv SAlive ZSk0 VqRef. -/
import Derived.Test.YtlobinjdgcidmaaDoorQj26
import Derived.Test.YtlobinjdgcidmaaDoorQj23
import Derived.Test.YtlobinjdgcidmaaDoorQj20
import Derived.Laws.BitsLemmas
import Derived.Deep.QuietTactic
import Derived.BigQuiet
import Derived.Laws.DeepStrings4
/- What SmapJson's law calls: its own units of a text; Few. -/
namespace Go.Proofs.YtlobinjdgcidmaaDoor
open Go.RowKit
set_option linter.unusedVariables false
set_option linter.unusedSimpArgs false

set_option maxRecDepth 100000 in
set_option maxHeartbeats 2000000 in
theorem lunits_any (s : ByteArray) (l : List UInt8) (U : List Nat) (w : World) (hs : s.data.toList = l) (hl : l.length ≤ 40000) (hU : unitsL l = U) :
    Calls Tryd.prog 11 #[.string s] w fun e w' => ∃ tv, e = .returned tv ∧ IsP (Nw w.heap.size w') w' tv (iN U) ∧ Below w.heap.size w w' := by
  have hUle : ∀ u ∈ U, u ≤ 65535 := by rw [← hU]; exact unitsL_le l.length l (Nat.le_refl _)
  have hUlen : U.length ≤ 80008 := by rw [← hU]; have := unitsL_len l.length l (Nat.le_refl _); omega
  have hsp : (M.spell U).length ≤ 600000 := by
    have h1 := M.body_len U
    unfold M.spell
    simp only [List.length_cons, List.length_append, List.length_nil]
    omega
  have huv := units_spell U hUle
  obtain ⟨t, ht⟩ : ∃ t, bytes (M.spell U) = t := ⟨_, rfl⟩
  have tl : t.data.toList = M.spell U := by rw [← ht]; exact bytes_list _
  have tz : t.size ≤ 600000 := by rw [← ht, bytes_size]; exact hsp
  have Q1 := Lib.hid (lquoted_any s l U t w hs hl hU ht)
  have TL := Lib.hid tl
  have HSP := Lib.hid hsp
  have HUV := Lib.hid huv
  clear hs hl hU hUle hUlen hsp huv ht tl
  go_enter Tryd.func11, Tryd.ntmps11
  go_wp2_with fail
  refine Q1.out.mono ?_
  rintro e w1 ⟨rfl, hb1⟩
  have cv := bw_conv w1 t
  have hbs := bw_bs w1 t (by omega)
  rw [TL.out] at hbs
  have bwb := bw_below w1 t
  obtain ⟨cc, hcc⟩ : ∃ x, grownCap w1 t.size 0 5 = x := ⟨_, rfl⟩
  rw [hcc] at cv hbs
  obtain ⟨WX, hWX⟩ : ∃ x, Lib.bytesWorld w1 5 t = x := ⟨_, rfl⟩
  rw [hWX] at cv hbs bwb
  have J1 := Lib.hid (junitsz_any _ (M.spell U) WX hbs (by have := HSP.out; omega))
  have B1 := Lib.hid (hb1.trans (bwb.mono hb1.size))
  have S1 := Lib.hid (show w.heap.size ≤ WX.heap.size from B1.out.size)
  clear hbs bwb hcc hWX hb1
  go_wp2_with fail
  refine J1.out.mono ?_
  rintro e w2 ⟨tv, b, rfl, his, hb2⟩
  rw [HUV.out] at his
  have h1 : IsP (Nw w.heap.size w2) w2 tv (iN U) := his.mono (fun x hx => ⟨Nat.le_trans S1.out hx.1, hx.2⟩)
  have h2 := B1.out.trans (hb2.mono B1.out.size)
  obtain ⟨a, c, rfl⟩ := his.slice
  have H1 := Lib.hid h1
  have H2 := Lib.hid h2
  clear his h1 h2 hb2 cv
  go_wp2
  go_ret
  exact ⟨_, rfl, H1.out, H2.out⟩
def FewI (L : List M.S4) (i : Nat) : Prop := ∀ j (hj : j < L.length), j < i → (L[j]).1 ≤ 200 ∨ 100000 < (L[j]).1
theorem fewI_zero (L : List M.S4) : FewI L 0 := fun j _ h => absurd h (by omega)
theorem fewI_step {L : List M.S4} {i : Nat} (h : FewI L i) (hi : i < L.length) (hx : (L[i]).1 ≤ 200 ∨ 100000 < (L[i]).1) : FewI L (i + 1) := fun j hj hl => by
  by_cases e : j = i
  · subst e; exact hx
  · exact h j hj (by omega)
theorem fewI_all {L : List M.S4} {n : Nat} (h : FewI L n) (hn : L.length = n) : ∀ x ∈ L, x.1 ≤ 200 ∨ 100000 < x.1 := fun x hx => by
  obtain ⟨j, hj, rfl⟩ := List.getElem_of_mem hx
  exact h j hj (by omega)
def FewQ (L : List M.S4) (w : World) (e : Ending) (w' : World) : Prop := ∃ q, e = .returned (.bool q) ∧ (q = true → L.length ≤ 60 ∧ ∀ x ∈ L, x.1 ≤ 200 ∨ 100000 < x.1) ∧ w' = w
set_option maxRecDepth 100000 in
set_option maxHeartbeats 2000000 in
theorem sfewq_any (v : Value) (L : List M.S4) (w : World) (hv : SsS w v L) :
    Calls Tryd.prog 6 #[v] w (FewQ L w) := by
  have hpa := s4At_of hv
  obtain ⟨a, cap, rfl, h1, h2, -⟩ := id hpa
  have HP := Lib.hid hpa
  obtain ⟨n, hn⟩ : ∃ n, L.length = n := ⟨_, rfl⟩
  have HN := Lib.hid hn
  rw [hn] at h1 ⊢
  have hm : cap ≤ 9223372036854775807 := by unfold maxLen at h2; omega
  clear hpa hv hn
  go_enter Tryd.func6, Tryd.ntmps6
  go_wp2
  go_loopw [3] (fun iv wr => ∃ i : Nat, iv = .int .i64 (i : Int) ∧ i ≤ n ∧ FewI L i ∧ wr = w) (fun iv _ => n - (intOf iv).toNat)
  case atStart => exact ⟨0, rfl, by omega, fewI_zero L, rfl⟩
  case round =>
    obtain ⟨i, rfl, hi, hfi, hwq⟩ := hrel
    have HFI := Lib.hid hfi
    clear hfi
    have hwq := hwq.symm
    subst hwq
    by_cases hlt : i < n
    · obtain ⟨b, off, rfl, hbk, c0, c1, c2, c3⟩ := s4At_get (by have h := HP.out; rw [HN.out] at h; exact h) i (by rw [HN.out]; exact hlt)
      obtain ⟨x, hx⟩ : ∃ x, (L[i]'(by rw [HN.out]; exact hlt)).1 = x := ⟨_, rfl⟩
      rw [hx] at c0
      have HXX := Lib.hid hx
      have i1 : (i : Int) < n := by omega
      have i0 : (0 : Int) ≤ i := by omega
      clear c1 c2 c3 hx
      by_cases g1 : 200 < x
      · by_cases g2 : x ≤ 100000
        · go_wp2
          go_ret
          exact ⟨false, rfl, fun h => by simp at h, rfl⟩
        · have g3 : 100000 < x := by omega
          go_wp2
          go_roundw
          case rel => exact ⟨i + 1, by go_num, by omega, fewI_step HFI.out (by rw [HN.out]; exact hlt) (by rw [HXX.out]; omega), by first | rfl | trivial⟩
          case measure => simp [intOf]; omega
      · have g3 : x ≤ 200 := by omega
        go_wp2
        go_roundw
        case rel => exact ⟨i + 1, by go_num, by omega, fewI_step HFI.out (by rw [HN.out]; exact hlt) (by rw [HXX.out]; omega), by first | rfl | trivial⟩
        case measure => simp [intOf]; omega
    · obtain rfl : i = n := by omega
      go_wp2
      go_ret
      exact ⟨_, rfl, fun h => ⟨by have := of_decide_eq_true h; have := HN.out; omega, fewI_all HFI.out HN.out⟩, rfl⟩

end Go.Proofs.YtlobinjdgcidmaaDoor
/- What the laws of smap share: the example of the document, and a map. -/
namespace Go.Proofs.YtlobinjdgcidmaaDoor
open Go.RowKit
set_option linter.unusedVariables false
set_option linter.unusedSimpArgs false

theorem maps_nil : M.maps [] = some [] := rfl
theorem maps_ex : M.maps [(1, 2, 0, 3)] = some [59, 69, 65, 65, 71] := by decide +kernel
theorem wtx_pos (T m : ByteArray) : 0 < (wtx T m).size := by
  unfold wtx
  simp only [ByteArray.size_append]
  have : (ByteArray.mk #[34, 125]).size = 2 := rfl
  omega
theorem wtx_len (l m : List UInt8) (hl : l.length ≤ 100000) (hm : m.length ≤ 1000000) : (wtx (bytes (M.spell (unitsL l))) (bytes m)).size ≤ 9000000 := by
  unfold wtx
  simp only [ByteArray.size_append]
  rw [bytes_size, bytes_size]
  have h1 := M.body_len (unitsL l)
  have h2 := unitsL_len l.length l (Nat.le_refl _)
  have q1 : (ByteArray.mk #[34, 125]).size = 2 := rfl
  have q2 : (ByteArray.mk #[123, 34, 118, 101, 114, 115, 105, 111, 110, 34, 58, 51, 44, 34, 115, 111, 117, 114, 99, 101, 115, 34, 58, 91]).size = 24 := rfl
  have q3 : (ByteArray.mk #[93, 44, 34, 110, 97, 109, 101, 115, 34, 58, 91, 93, 44, 34, 109, 97, 112, 112, 105, 110, 103, 115, 34, 58, 34]).size = 25 := rfl
  unfold M.spell
  simp only [List.length_cons, List.length_append, List.length_nil]
  omega
set_option maxRecDepth 100000 in
set_option maxHeartbeats 2000000 in
theorem salive_any (w : World) (hT : Tabs w) : Calls Tryd.prog 4 #[] w fun e w' => e = .returned (.bool true) ∧ Below w.heap.size w w' := by
  have S1 := Lib.hid (fun W => smaps_any (.slice none 0 0) [] _ W (ss_nil W) (by simp) maps_nil)
  have S2 := Lib.hid (fun v W hv => smaps_any v [(1, 2, 0, 3)] _ W hv (by simp) maps_ex)
  have S3 := Lib.hid (fun W hT => swrite_any (.mk #[97]) [97] (.slice none 0 0) [] _ W hT rfl (by simp) (ss_nil W) (by simp) maps_nil)
  unfold MpP mres at S1 S2
  simp only [Option.isSome_some, Option.getD_some] at S1 S2
  dsimp only [wres] at S3
  have hp := wtx_pos (bytes (M.spell (unitsL [97]))) (bytes [])
  have hq := wtx_len [97] [] (by simp) (by simp)
  obtain ⟨X, hX⟩ : ∃ X, wtx (bytes (M.spell (unitsL [97]))) (bytes []) = X := ⟨_, rfl⟩
  rw [hX] at S3 hp hq
  have hE : bytes [59, 69, 65, 65, 71] = ByteArray.mk #[59, 69, 65, 65, 71] := rfl
  have hE0 : bytes [] = ByteArray.mk #[] := rfl
  rw [hE] at S2
  rw [hE0] at S1
  have HT := Lib.hid hT
  clear hT hX hE hE0
  go_enter Tryd.func4, Tryd.ntmps4
  go_wp2_with fail
  refine (S1.out w).mono ?_
  rintro e w1 ⟨rfl, hb1⟩
  have s1 := hb1.size
  have ho := one_s4 w1 (1, 2, 0, 3)
  have hb2 := hb1.alloc s1 (.cells #[.int .i64 1, .int .i64 2, .int .i64 0, .int .i64 3] 47)
  have s2 := hb2.size
  have HB2 := Lib.hid hb2
  have HO := Lib.hid ho
  clear hb1 hb2 ho
  go_wp2_with fail
  refine (S2.out _ _ HO.out).mono ?_
  rintro e w3 ⟨rfl, hb3⟩
  have hb4 := HB2.out.trans (hb3.mono s2)
  have s4 := hb4.size
  have HB4 := Lib.hid hb4
  clear hb3 hb4
  go_wp2_with fail
  refine (S3.out _ (HT.out.keep HB4.out)).mono ?_
  rintro e w5 ⟨rfl, hb5⟩
  have hb6 := HB4.out.trans (hb5.mono s4)
  clear hb5
  go_wp2
  go_ret
  exact ⟨rfl, hb6⟩
end Go.Proofs.YtlobinjdgcidmaaDoor
/- SmapJson, plain and small: the text that is written, the items that are read. -/
namespace Go.Proofs.YtlobinjdgcidmaaDoor
open Go.RowKit
set_option linter.unusedVariables false
set_option linter.unusedSimpArgs false

theorem wtx_list (T m : List UInt8) : wtx (bytes T) (bytes m) = bytes (sjS T (34 :: (m ++ [34]))) := by
  unfold wtx
  apply ByteArray.ext
  simp [bytes, sjS, sjA, sjB]
theorem unitsL_asc : ∀ (l : List UInt8), (∀ c ∈ l, c.toNat < 128) → unitsL l = l.map UInt8.toNat
  | [], _ => unitsL_nil [] rfl
  | c :: r, h => by
    have hc := h c (by simp)
    have hd : M.dec (c :: r) = (c.toNat, 1) := by
      have hb : M.byte (c :: r) 0 < 128 := hc
      unfold M.dec Go.Lib.decodeN
      rw [if_pos hb]
      rfl
    have ih := unitsL_asc r (fun x hx => h x (List.mem_cons_of_mem _ hx))
    rw [unitsL_cons _ (by simp), hd]
    simp only [List.drop_succ_cons, List.drop_zero, ih, List.map_cons]
    unfold M.pairU
    rw [if_pos (by omega)]
    rfl
def kT (j : Nat) : List Nat := [kVer, kSrc, kNam, kMap].getD j []
def kS (j : Nat) : ByteArray := [ByteArray.mk #[118, 101, 114, 115, 105, 111, 110], ByteArray.mk #[115, 111, 117, 114, 99, 101, 115], ByteArray.mk #[110, 97, 109, 101, 115], ByteArray.mk #[109, 97, 112, 112, 105, 110, 103, 115]].getD j ⟨#[]⟩
theorem four4 {P : Nat → Prop} (h0 : P 0) (h1 : P 1) (h2 : P 2) (h3 : P 3) : ∀ j, j < 4 → P j
  | 0, _ => h0
  | 1, _ => h1
  | 2, _ => h2
  | 3, _ => h3
  | n + 4, h => absurd h (by omega)
theorem kS_asc : ∀ j, j < 4 → ∀ c ∈ (kS j).data.toList, c.toNat < 128 := four4 (by decide) (by decide) (by decide) (by decide)
theorem kS_map : ∀ j, j < 4 → (kS j).data.toList.map UInt8.toNat = kT j := four4 (by decide) (by decide) (by decide) (by decide)
theorem kS_units (j : Nat) (hj : j < 4) : unitsL (kS j).data.toList = kT j := by rw [unitsL_asc _ (kS_asc j hj), kS_map j hj]
theorem kS_len : ∀ j, j < 4 → (kS j).data.toList.length ≤ 40000 := four4 (by decide) (by decide) (by decide) (by decide)
theorem kT_len : ∀ j, j < 4 → (kT j).length ≤ 100 := four4 (by decide) (by decide) (by decide) (by decide)
theorem er_tx {h g : Vh} (e : erh h = erh g) : h.tx = g.tx := by have := congrArg Vh.tx e; simpa only [erh] using this
theorem er_k {h g : Vh} (e : erh h = erh g) : h.k = g.k := by have := congrArg Vh.k e; simpa only [erh] using this
theorem sj_keys {K : Vo} {U V : List Nat} (e : er K = er (sjK U V)) : ∀ j, j < 4 → ∃ h k, K.at? (2 * j) = some (h, k) ∧ h.tx = iN (kT j) := by
  have go : ∀ j (h0 : Vh) (k0 : Vo) (l : List Nat), (sjK U V).at? j = some (h0, k0) → h0.tx = iN l → ∃ h k, K.at? j = some (h, k) ∧ h.tx = iN l := fun j h0 k0 l hj hl => by
    obtain ⟨h, k, a, b, -⟩ := at_er e hj
    exact ⟨h, k, a, by rw [er_tx b, hl]⟩
  exact four4 (go 0 _ _ kVer rfl rfl) (go 2 _ _ kSrc rfl rfl) (go 4 _ _ kNam rfl rfl) (go 6 _ _ kMap rfl rfl)
theorem sj_rest {K : Vo} {U V : List Nat} (e : er K = er (sjK U V)) : K.len = 8 ∧
    (∃ h k, K.at? 1 = some (h, k) ∧ h.ng = false ∧ h.dg = [51] ∧ h.ex = [48]) ∧
    (∃ h k hu ku, K.at? 3 = some (h, k) ∧ h.k = 2 ∧ k.len = 1 ∧ k.at? 0 = some (hu, ku) ∧ hu.tx = iN U) ∧
    (∃ h k, K.at? 5 = some (h, k) ∧ k.len = 0) ∧ (∃ h k, K.at? 7 = some (h, k) ∧ h.tx = iN V) := by
  refine ⟨len_er e, ?_, ?_, ?_, ?_⟩
  · obtain ⟨h, k, a, b, -⟩ := at_er e (j := 1) (h := kyV 3) (k := .nil) rfl
    have e1 : (kyV 3).ng = false ∧ (kyV 3).dg = [51] ∧ (kyV 3).ex = [48] := by decide +kernel
    have x1 : h.ng = (kyV 3).ng := by have := congrArg Vh.ng b; simpa only [erh] using this
    have x2 : h.dg = (kyV 3).dg := by have := congrArg Vh.dg b; simpa only [erh] using this
    have x3 : h.ex = (kyV 3).ex := by have := congrArg Vh.ex b; simpa only [erh] using this
    exact ⟨h, k, a, by rw [x1, e1.1], by rw [x2, e1.2.1], by rw [x3, e1.2.2]⟩
  · obtain ⟨h, k, a, b, c⟩ := at_er e (j := 3) (h := arH) (k := .cons (txH U) .nil .nil) rfl
    obtain ⟨hu, ku, a2, b2, -⟩ := at_er c (j := 0) (h := txH U) (k := .nil) rfl
    exact ⟨h, k, hu, ku, a, er_k b, len_er c, a2, er_tx b2⟩
  · obtain ⟨h, k, a, b, c⟩ := at_er e (j := 5) (h := arH) (k := .nil) rfl
    exact ⟨h, k, a, len_er c⟩
  · obtain ⟨h, k, a, b, -⟩ := at_er e (j := 7) (h := txH V) (k := .nil) rfl
    exact ⟨h, k, a, er_tx b⟩
theorem sj_all (l acc : List UInt8) (hl : l.length ≤ 100) (hp : ∀ c ∈ acc, plB c = true) (ha : acc.length ≤ 2420) :
    unitsL acc = acc.map UInt8.toNat ∧ (wtx (bytes (M.spell (unitsL l))) (bytes acc)).data.toList = sjS (M.spell (unitsL l)) (M.spell (acc.map UInt8.toNat)) ∧ (sjS (M.spell (unitsL l)) (M.spell (acc.map UInt8.toNat))).length ≤ 20000 ∧
      ∃ h kids, parseV (sjS (M.spell (unitsL l)) (M.spell (acc.map UInt8.toNat))) 60 = .ok (h, kids) ∧ h.k = 1 ∧ er kids = er (sjK (unitsL l) (acc.map UInt8.toNat)) := by
  have hU : ∀ u ∈ unitsL l, u ≤ 65535 := unitsL_le l.length l (Nat.le_refl _)
  have hV : ∀ u ∈ acc.map UInt8.toNat, u ≤ 65535 := fun u hu => by
    obtain ⟨c, hc, rfl⟩ := List.mem_map.1 hu
    have := plB_lt (hp c hc)
    omega
  have hs : M.spell (acc.map UInt8.toNat) = 34 :: (acc ++ [34]) := by unfold M.spell; rw [body_plain acc hp]
  have h1 := M.body_len (unitsL l)
  have h2 := unitsL_len l.length l (Nat.le_refl _)
  have hlen : (sjS (M.spell (unitsL l)) (M.spell (acc.map UInt8.toNat))).length ≤ 20000 := by
    rw [hs]
    unfold sjS M.spell sjA sjB
    simp only [List.length_cons, List.length_append, List.length_nil]
    omega
  refine ⟨unitsL_asc acc (fun c hc => plB_lt (hp c hc)), ?_, hlen, sj_parse _ _ hU hV hlen⟩
  rw [wtx_list, hs]
  exact bytes_list _
end Go.Proofs.YtlobinjdgcidmaaDoor
/- The reference of vlq: what abridgerref1.PutVlq and abridgerref1.GetVlq return. -/
namespace Go.Proofs.YtlobinjdgcidmaaDoor
open Go.RowKit

theorem vq_wraps (n : Int) (h₀ : 0 ≤ n) (h₁ : n < 2 ^ 62) : IntKind.i64.wrap n = n := by rw [IntKind.wrap_i64]; omega
theorem vq_letters_any (w : World) : Calls Tryd.prog 30 #[] w fun e w' => e = .returned (.string ⟨V.alpha.toArray⟩) ∧ w' = w := by
  go_enter Tryd.func30, Tryd.ntmps30
  go_wp2
  go_ret
  exact ⟨rfl, rfl⟩

theorem vq_and31 (x : Nat) (h : x < 4611686018427387904) : bits .and .i64 (x : Int) 31 = ((x % 32 : Nat) : Int) := by
  have := (bits_nat .i64 62 (by decide) vq_wraps x 31 (by omega) (by omega)).1
  rw [show (x &&& 31) = x % 32 from Nat.and_two_pow_sub_one_eq_mod x 5] at this
  exact this
theorem vq_ret_str {a b : ByteArray} (h : a = b) : Ending.returned (.string a) = .returned (.string b) := by rw [h]
theorem vq_letter_piece (d : Nat) (h : d < 64) : (ByteArray.mk V.alpha.toArray).extract d (d + 1) = V.bytes [V.letter d] := by
  have : ∀ d, d < 64 → (ByteArray.mk V.alpha.toArray).extract d (d + 1) = V.bytes [V.letter d] := by decide +kernel
  exact this d h
theorem vq_bytes_cat (s : ByteArray) (k l : List UInt8) : s ++ V.bytes k ++ V.bytes l = s ++ V.bytes (k ++ l) := by apply ByteArray.ext; simp [V.bytes]

theorem vq_slice_letter (w : World) (i : Int) (d : Nat) (hi : i = d) (hd : d < 64) :
    (Instr.slice 9 (.string ⟨V.alpha.toArray⟩) (some (.int .i64 i)) (some (.int .i64 (i + 1))) none).run Tryd.prog w = .ok (.string (V.bytes [V.letter d])) w := by
  subst hi
  have hs : (ByteArray.mk V.alpha.toArray).size = 64 := rfl
  rw [run_slice_string_if _ 9 _ _ _ _ _ Tryd.underlying9, if_pos (by rw [hs]; omega), if_pos (by omega)]
  have := vq_letter_piece d hd
  rw [show ((d : Int)).toNat = d by omega, show ((d : Int) + 1).toNat = d + 1 by omega, this]

set_option maxHeartbeats 400000 in
theorem vq_refput_in (s : ByteArray) (n : Int) (w : World) (h1 : -1099511627776 ≤ n) (h2 : n ≤ 1099511627776) (hs : s.size ≤ 8000000) :
    Calls Tryd.prog 14 #[.string s, .int .i64 n] w fun e w' => e = .returned (.string (s ++ V.bytes (V.text n))) ∧ w' = w := by
  have b1 : decide (n < -1099511627776) = false := by simp; omega
  have b2 : decide (1099511627776 < n) = false := by simp; omega
  by_cases hn : n < 0
  all_goals
    go_enter Tryd.func14, Tryd.ntmps14
    go_wp2
    go_loop [0, 5] (fun sv xv => ∃ (f x : Nat) (l : List Nat), xv = .int .i64 x ∧ sv = .string (s ++ V.bytes (l.map V.letter)) ∧ V.Left (V.zig n) f x l) (fun xs xv => (intOf xv).toNat + 0 * (intOf xs).toNat)
    case atStart =>
      refine ⟨8, V.zig n, [], ?_, congrArg Value.string (by apply ByteArray.ext; simp [V.bytes]), V.left_start _ (V.zig_lt _ h1 h2)⟩
      unfold V.zig
      first | rw [if_pos (by omega)] | rw [if_neg (by omega)]
      congr 1
      omega
    case round =>
      obtain ⟨f, x, l, rfl, rfl, hL⟩ := hrel
      have hlen := V.left_len hL
      have hx := V.left_x hL
      have HL := Lib.hid hL
      clear hL
      have hand := vq_and31 x (by omega)
      have hsz : (s ++ V.bytes (l.map V.letter)).size ≤ 8000008 := by rw [ByteArray.size_append]; simp only [V.bytes, ByteArray.size, List.size_toArray, List.length_map]; simp only [ByteArray.size] at hs; omega
      obtain ⟨t, ht⟩ : ∃ t, s ++ V.bytes (l.map V.letter) = t := ⟨_, rfl⟩
      rw [ht] at hsz ⊢
      have Ht := Lib.hid ht
      clear ht
      have hq : ∀ d, (V.bytes [V.letter d]).size = 1 := fun _ => rfl
      by_cases hx32 : 32 ≤ x
      · have hsl := fun w => vq_slice_letter w ((x : Int) % 32 + 32) (32 + x % 32) (by omega) (by omega)
        go_wp2_with (go_at_call 30; refine (vq_letters_any _).mono ?_; rintro e w' ⟨rfl, rfl⟩)
        go_round
        case rel =>
          obtain ⟨g, hg⟩ := V.left_step HL.out hx32
          refine ⟨g, x / 32, l ++ [32 + x % 32], by simp, ?_, hg⟩
          rw [← Ht.out, vq_bytes_cat]; simp
        case measure => simp [intOf]; omega
      · have hsl := fun w => vq_slice_letter w ((x : Int) % 32) x (by omega) (by omega)
        have hzx : ((x : Int) / 32 == 0) = true := by rw [beq_iff_eq]; omega
        go_wp2_with (go_at_call 30; refine (vq_letters_any _).mono ?_; rintro e w' ⟨rfl, rfl⟩)
        go_ret
        refine ⟨vq_ret_str ?_, rfl⟩
        have := V.left_stop HL.out (by omega)
        rw [← Ht.out, vq_bytes_cat]
        unfold V.text
        rw [← this]
        simp

end Go.Proofs.YtlobinjdgcidmaaDoor
