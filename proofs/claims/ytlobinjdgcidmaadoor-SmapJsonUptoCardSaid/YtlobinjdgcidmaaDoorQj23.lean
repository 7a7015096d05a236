/- Texts of ours in one: SUnits SWrite URef UStep. -/
import Derived.Test.YtlobinjdgcidmaaDoorQj22
import Derived.Test.YtlobinjdgcidmaaDoorQj09
import Derived.Test.YtlobinjdgcidmaaDoorQj00
import Derived.Test.YtlobinjdgcidmaaDoorQj03
import Derived.Test.YtlobinjdgcidmaaDoorQj02
import Derived.Laws.BitsLemmas
import Derived.Deep.AppendLies
/- Units of a name: units.Append, smap.unitsOf, smap.Write. -/
namespace Go.Proofs.YtlobinjdgcidmaaDoor
open Go.RowKit
set_option linter.unusedVariables false
set_option linter.unusedSimpArgs false

def unitsL (l : List UInt8) : List Nat := if h : l = [] then [] else M.pairU (M.dec l).1 ++ unitsL (l.drop (M.dec l).2)
termination_by l.length
decreasing_by
  have h1 := M.dec_width l
  have h2 : 0 < l.length := List.length_pos_iff.2 h
  simp only [List.length_drop]
  omega
theorem unitsL_nil (l : List UInt8) (h : l.length = 0) : unitsL l = [] := by
  rw [unitsL]; rw [dif_pos (List.length_eq_zero_iff.1 h)]
theorem unitsL_cons (l : List UInt8) (h : 0 < l.length) : unitsL l = M.pairU (M.dec l).1 ++ unitsL (l.drop (M.dec l).2) := by
  conv => lhs; rw [unitsL]
  rw [dif_neg (List.length_pos_iff.1 h)]
theorem pairUS_two (r : Nat) : (M.pairU r).length ≤ 2 := by unfold M.pairU; split <;> simp
theorem pairUS_le (r : Nat) (h : r ≤ 1114111) : ∀ u ∈ M.pairU r, u ≤ 65535 := by
  intro u hu
  unfold M.pairU at hu
  split at hu
  · simp at hu; omega
  · simp at hu; omega
theorem unitsL_le : ∀ (n : Nat) (l : List UInt8), l.length ≤ n → ∀ u ∈ unitsL l, u ≤ 65535 := by
  intro n
  induction n with
  | zero => intro l h u hu; rw [unitsL_nil l (by omega)] at hu; simp at hu
  | succ n ih =>
    intro l h u hu
    by_cases h0 : 0 < l.length
    · rw [unitsL_cons l h0] at hu
      rcases List.mem_append.1 hu with hu | hu
      · exact pairUS_le _ (M.dec_rune l) u hu
      · exact ih _ (by have := M.dec_width l; simp only [List.length_drop]; omega) u hu
    · rw [unitsL_nil l (by omega)] at hu; simp at hu
theorem sand1023 (n : Int) (h0 : 0 ≤ n) (h1 : n ≤ 1114111) : bits .and .i64 n 1023 = n % 1024 := bits_mask .i64 62 (by decide) (fun n h₀ h₁ => by rw [IntKind.wrap_i64]; omega) 10 (by decide) n h0 (by omega)
set_option maxRecDepth 100000 in
set_option maxHeartbeats 1000000 in
theorem uapp_any (B : Nat) (v : Value) (l : List Nat) (r : Nat) (t : List Nat) (w : World) (ho : OwnI B w v (iN l)) (hr : r ≤ 1114111) (hl : l.length ≤ 2097152) (hB : B ≤ w.heap.size) (ht : l ++ M.pairU r = t) :
    Calls Tryd.prog 36 #[v, .int .i64 (r : Int)] w fun e w' => ∃ v', e = .returned v' ∧ OwnI B w' v' (iN t) ∧ Below B w w' := by
  unfold M.pairU at ht
  obtain ⟨R, hR⟩ : ∃ R : Int, (r : Int) = R := ⟨_, rfl⟩
  have R0 : 0 ≤ R := by omega
  have R1 : R ≤ 1114111 := by omega
  have Ho := Lib.hid ho
  by_cases h : r < 65536
  · rw [if_pos h] at ht
    have h' : R < 65536 := by omega
    have e : iN l ++ [R] = iN t := by rw [← ht, iN_append]; simp [iN, hR]
    have He := Lib.hid e
    rw [hR]
    clear e hR h ht ho hr
    go_enter Tryd.func36, Tryd.ntmps36
    go_wp2_with (at_builtin; refine wpl_appendI rfl _ _ rfl B _ (.slice (some ⟨w.heap.size, 0, none⟩) 1 1) (iN l) [R] (iN t) rfl (ownsRow_keep Ho.out ((Below.refl _ _).alloc (Nat.le_refl _) _)) rfl (is_one w _) (nn_some _ _ _) (by rw [iN_len]; simp; omega) (by simp; omega) He.out ?_)
    intro v3 w3 ho3 hb3
    have hb4 := ((Below.refl B w).alloc hB _).trans hb3
    clear hb3
    go_wp2
    go_ret
    exact ⟨_, rfl, ho3, hb4⟩
  · rw [if_neg h] at ht
    have h' : 65536 ≤ R := by omega
    have hand := sand1023 (R - 65536) (by omega) (by omega)
    have hand2 : (0 : Int) ≤ (R - 65536) % 1024 := by omega
    have hand3 : (R - 65536) % 1024 < 1024 := by omega
    have hd2 : (0 : Int) ≤ (R - 65536) / 1024 := by omega
    have hd3 : (R - 65536) / 1024 < 1024 := by omega
    have e : iN l ++ [55296 + (R - 65536) / 1024, 56320 + (R - 65536) % 1024] = iN t := by
      rw [← ht, iN_append]
      congr 1
      simp only [iN, List.map_cons, List.map_nil]
      have q1 : ((55296 + (r - 65536) / 1024 : Nat) : Int) = 55296 + (R - 65536) / 1024 := by omega
      have q2 : ((56320 + (r - 65536) % 1024 : Nat) : Int) = 56320 + (R - 65536) % 1024 := by omega
      rw [q1, q2]
    have He := Lib.hid e
    rw [hR]
    clear e hR h ht ho hr
    go_enter Tryd.func36, Tryd.ntmps36
    go_wp2_with (at_builtin; refine wpl_appendI rfl _ _ rfl B _ (.slice (some ⟨w.heap.size, 0, none⟩) 2 2) (iN l) [55296 + (R - 65536) / 1024, 56320 + (R - 65536) % 1024] (iN t) rfl (ownsRow_keep Ho.out ((Below.refl _ _).alloc (Nat.le_refl _) _)) rfl (is_two w _ _) (nn_some _ _ _) (by rw [iN_len]; simp; omega) (by simp; omega) He.out ?_)
    intro v3 w3 ho3 hb3
    have hb4 := ((Below.refl B w).alloc hB _).trans hb3
    clear hb3
    go_wp2
    go_ret
    exact ⟨_, rfl, ho3, hb4⟩
set_option maxRecDepth 100000 in
set_option maxHeartbeats 4000000 in
theorem unitsof_any (s : ByteArray) (l : List UInt8) (U : List Nat) (w : World) (hT : Tabs w) (hs : s.data.toList = l) (hl : l.length ≤ 400000) (hU : unitsL l = U) :
    Calls Tryd.prog 17 #[.string s] w fun e w' => ∃ v', e = .returned v' ∧ Is w' v' (iN U) ∧ U.length ≤ 2 * l.length + 8 ∧ Below w.heap.size w w' := by
  have hsz : s.size = l.length := by rw [← hs]; rfl
  have hconv := bw_conv w s
  have hbw := bw_below w s
  have hbs := bw_bs w s (by omega)
  rw [hs] at hbs
  have hsw := bw_size w s
  obtain ⟨n, hn⟩ : ∃ n, l.length = n := ⟨_, rfl⟩
  rw [hn] at hsz hl
  rw [hsz] at hbs hconv
  obtain ⟨W1, hW1⟩ : ∃ W, Lib.bytesWorld w 5 s = W := ⟨_, rfl⟩
  rw [hW1] at hconv hbw hbs hsw
  obtain ⟨V, hV⟩ : ∃ V, Value.slice (some ⟨w.heap.size, 0, none⟩) n (grownCap w n 0 5) = V := ⟨_, rfl⟩
  have HTB := Lib.hid (hT.keep hbw)
  have HBS := Lib.hid hbs
  have HBW := Lib.hid hbw
  have HN := Lib.hid hn
  have HU := Lib.hid hU
  clear hbw hbs hs hsz hn hU hT hW1 hV
  go_enter Tryd.func17, Tryd.ntmps17
  go_wp2
  go_loopw [4, 5, 6, 7, 8] (fun ov iv _ _ _ wr => ∃ (i : Nat) (pre : List Nat), iv = .int .i64 (i : Int) ∧ i ≤ n + 4 ∧ pre ++ unitsL (l.drop i) = U ∧ pre.length ≤ 2 * i ∧ OwnI W1.heap.size wr ov (iN pre) ∧ Below W1.heap.size W1 wr) (fun _ iv _ _ _ _ => n - (intOf iv).toNat)
  case atStart => exact ⟨0, [], rfl, by omega, by simpa using HU.out, by simp, World.ownsRow_nil _ _ _ _, Below.refl _ _⟩
  case round =>
    obtain ⟨i, pre, rfl, hi, hpre, hpl, ho, hb1⟩ := hrel
    have hsz := hb1.size
    by_cases hlt : i < n
    · have hil : i < l.length := by rw [HN.out]; exact hlt
      have hil2 : 0 < (l.drop i).length := by simp only [List.length_drop]; omega
      rw [unitsL_cons _ hil2, List.drop_drop] at hpre
      obtain ⟨ok, hnx⟩ : ∃ ok, M.nextAt l i = (((M.dec (l.drop i)).1 : Int), ((M.dec (l.drop i)).2 : Int), ok) := by
        rw [M.nextAt_in l i hil]
        unfold M.nx
        by_cases hb : M.dec (l.drop i) = (65533, 1)
        · rw [if_pos hb, hb]; exact ⟨false, rfl⟩
        · rw [if_neg hb]; exact ⟨true, rfl⟩
      have hw := M.dec_width (l.drop i)
      have hr := M.dec_rune (l.drop i)
      obtain ⟨r, hr'⟩ : ∃ r, (M.dec (l.drop i)).1 = r := ⟨_, rfl⟩
      obtain ⟨m, hm'⟩ : ∃ r, (M.dec (l.drop i)).2 = r := ⟨_, rfl⟩
      rw [hr'] at hpre hnx hr
      rw [hm'] at hpre hnx hw
      rw [← List.append_assoc] at hpre
      have N1 := next_any (.slice (some ⟨w.heap.size, 0, none⟩) n (grownCap w n 0 5)) l i _ wr (HTB.out.keep hb1) (HBS.out.keep hb1) (by rw [HN.out]; omega) hnx
      unfold tri at N1
      dsimp only at N1
      have hp2 := pairUS_two r
      have HP := Lib.hid hpre
      have N1' := Lib.hid N1
      have i1 : (i : Int) < n := by omega
      clear hpre hnx hr' hm' N1 hlt
      obtain ⟨RI, hRI⟩ : ∃ R : Int, (r : Int) = R := ⟨_, rfl⟩
      have UA := Lib.hid (fun (v : Value) (W : World) (ho : OwnI W1.heap.size W v (iN pre)) (hs : W1.heap.size ≤ W.heap.size) => uapp_any W1.heap.size v pre r _ W ho hr (by omega) hs rfl)
      rw [hRI] at N1' UA
      clear hRI
      go_wp2_with fail
      refine N1'.out.mono ?_
      rintro e w2 ⟨rfl, hb2⟩
      have ho2 := ownsRow_keep ho hb2
      have hb4 := hb1.trans (hb2.mono hsz)
      have hs3 := hb4.size
      clear ho hb1 hb2
      go_wp2_with fail
      refine (UA.out _ w2 ho2 hs3).mono ?_
      rintro e w3 ⟨v3, rfl, ho4, hb5⟩
      have hb7 := hb4.trans hb5
      clear hb4 hb5 ho2
      go_wp2
      go_roundw
      case rel => exact ⟨i + m, pre ++ M.pairU r, by go_num, by omega, HP.out, by simp; omega, ho4, hb7⟩
      case measure => simp [intOf]; omega
    · have hu := unitsL_nil (l.drop i) (by simp only [List.length_drop]; rw [HN.out]; omega)
      rw [hu, List.append_nil] at hpre
      subst hpre
      have hfin := HBW.out.trans (hb1.mono (by omega))
      have his := OwnI.is ho
      clear hu
      go_wp2
      go_ret
      exact ⟨_, rfl, his, by rw [HN.out]; omega, hfin⟩
end Go.Proofs.YtlobinjdgcidmaaDoor
/- smap.Write: what is returned, for any name and any segments. -/
namespace Go.Proofs.YtlobinjdgcidmaaDoor
open Go.RowKit
set_option linter.unusedVariables false
set_option linter.unusedSimpArgs false

def wtx (T m : ByteArray) : ByteArray := ByteArray.mk #[123, 34, 118, 101, 114, 115, 105, 111, 110, 34, 58, 51, 44, 34, 115, 111, 117, 114, 99, 101, 115, 34, 58, 91] ++ T ++ ByteArray.mk #[93, 44, 34, 110, 97, 109, 101, 115, 34, 58, 91, 93, 44, 34, 109, 97, 112, 112, 105, 110, 103, 115, 34, 58, 34] ++ m ++ ByteArray.mk #[34, 125]
theorem mapsG_len (f : Bool) (last : M.S4) (l : List M.S4) (acc : List UInt8) (h0 : f = true → last.1 = 0) (h1 : last.1 ≤ 100000) (hm : M.mapsG f last l = some acc) : (acc.length : Int) ≤ (100000 - last.1) + 37 * l.length := by
  induction l generalizing f last acc with
  | nil => have : acc = [] := by simpa [M.mapsG] using hm.symm
           subst this; simp; omega
  | cons x r ih =>
    unfold M.mapsG at hm
    split at hm
    · rename_i hg
      obtain ⟨k, hk, rfl⟩ := Option.map_eq_some_iff.1 hm
      obtain ⟨ho, hb⟩ := M.good_parts f last x hg
      have ho := (M.okS_iff x).1 ho
      have hlx : last.1 ≤ x.1 := by
        cases f with
        | true => have := h0 rfl; omega
        | false => have := hb rfl; omega
      have := ih false x k (fun h => by simp at h) ho.2.1 hk
      have hc := M.chunk_len f last x hlx
      rw [List.length_append, List.length_cons]
      omega
    · simp at hm
theorem maps_len (l : List M.S4) (acc : List UInt8) (hm : M.maps l = some acc) : acc.length ≤ 100000 + 37 * l.length := by
  have := mapsG_len true (0, 0, 0, 0) l acc (fun _ => rfl) (by simp) hm
  simp only at this
  omega
theorem unitsL_len : ∀ (n : Nat) (l : List UInt8), l.length ≤ n → (unitsL l).length ≤ 2 * l.length + 8 := by
  intro n
  induction n with
  | zero => intro l h; rw [unitsL_nil l (by omega)]; simp
  | succ n ih =>
    intro l h
    by_cases h0 : 0 < l.length
    · rw [unitsL_cons l h0, List.length_append]
      have h1 := M.dec_width l
      have h2 := pairUS_two (M.dec l).1
      by_cases h3 : (M.dec l).2 ≤ l.length
      · have := ih (l.drop (M.dec l).2) (by simp only [List.length_drop]; omega)
        simp only [List.length_drop] at this
        omega
      · rw [unitsL_nil (l.drop (M.dec l).2) (by simp only [List.length_drop]; omega)]
        simp only [List.length_nil]; omega
    · rw [unitsL_nil l (by omega)]; simp
def wres (l : List UInt8) : Option (List UInt8) → Value
  | none => .tuple #[.string ⟨#[]⟩, .bool false]
  | some m => .tuple #[.string (wtx (bytes (M.spell (unitsL l))) (bytes m)), .bool true]
set_option maxRecDepth 100000 in
set_option maxHeartbeats 2000000 in
theorem swrite_any (s : ByteArray) (l : List UInt8) (v : Value) (L : List M.S4) (r : Option (List UInt8)) (w : World) (hT : Tabs w) (hs : s.data.toList = l) (hl : l.length ≤ 100000) (hv : SsS w v L) (hL : L.length ≤ 1000) (hr : M.maps L = r) :
    Calls Tryd.prog 8 #[.string s, v] w fun e w' => e = .returned (wres l r) ∧ Below w.heap.size w w' := by
  have MP := Lib.hid (smaps_any v L r w hv (by omega) hr)
  have HT := Lib.hid hT
  unfold MpP mres at MP
  have HUL := Lib.hid (unitsL_le l.length l (Nat.le_refl _))
  have HS := Lib.hid hs
  obtain ⟨a, cap, rfl, -⟩ := s4At_of hv
  cases r with
  | none =>
    simp only [Option.isSome_none, Option.getD_none] at MP
    clear hT hv hr hs
    go_enter Tryd.func8, Tryd.ntmps8
    go_wp2_with fail
    refine MP.out.mono ?_
    rintro e w1 ⟨rfl, hb1⟩
    go_wp2
    go_ret2
    exact ⟨rfl, hb1⟩
  | some m =>
    simp only [Option.isSome_some, Option.getD_some] at MP
    obtain ⟨U, hU⟩ : ∃ U, unitsL l = U := ⟨_, rfl⟩
    obtain ⟨T, hTT⟩ : ∃ T, bytes (M.spell U) = T := ⟨_, rfl⟩
    obtain ⟨mb, hmb⟩ : ∃ T, bytes m = T := ⟨_, rfl⟩
    have hts : T.size ≤ 5000000 := by
      rw [← hTT, bytes_size]
      have h1 := M.body_len U
      have h2 := unitsL_len l.length l (Nat.le_refl _)
      rw [hU] at h2
      unfold M.spell
      simp only [List.length_cons, List.length_append, List.length_nil]
      omega
    have hms : mb.size ≤ 5000000 := by
      rw [← hmb, bytes_size]
      have := maps_len L m hr
      omega
    rw [hU] at HUL
    rw [hmb] at MP
    have hw : wres l (some m) = .tuple #[.string (wtx T mb), .bool true] := by rw [← hmb, ← hTT, ← hU]; rfl
    have HW := Lib.hid hw
    have HU := Lib.hid hU
    have HTT := Lib.hid hTT
    clear hT hv hr hs hw hmb hU hTT
    go_enter Tryd.func8, Tryd.ntmps8
    go_wp2_with fail
    refine MP.out.mono ?_
    rintro e w1 ⟨rfl, hb1⟩
    go_wp2_with fail
    refine (unitsof_any s l U w1 (HT.out.keep hb1) HS.out (by omega) HU.out).mono ?_
    rintro e w2 ⟨v2, rfl, his, hul, hb2⟩
    have hb3 := hb1.trans (hb2.mono hb1.size)
    clear hb1 hb2
    go_wp2_with fail
    refine (jspell_any v2 U T w2 his (by omega) HUL.out HTT.out).mono ?_
    rintro e w3 ⟨rfl, hb4⟩
    have hb5 := hb3.trans (hb4.mono hb3.size)
    clear hb3 hb4
    go_wp2
    go_ret2
    exact ⟨by rw [HW.out]; rfl, hb5⟩
end Go.Proofs.YtlobinjdgcidmaaDoor
/- The reference of utf: what abridgerref1.Put returns of a code point, onto bytes of the call's own. -/
namespace Go.Proofs.YtlobinjdgcidmaaDoor
open Go.RowKit

theorem wraps_i64 (n : Int) (h₀ : 0 ≤ n) (h₁ : n < 2 ^ 62) : IntKind.i64.wrap n = n := by rw [IntKind.wrap_i64]; omega
theorem and63 (n : Int) (h0 : 0 ≤ n) (h1 : n ≤ 1114111) : bits .and .i64 n 63 = n % 64 := bits_mask .i64 62 (by decide) wraps_i64 6 (by decide) n h0 (by omega)
theorem or128 (n : Int) (h0 : 0 ≤ n) (h1 : n < 64) : bits .or .i64 128 n = 128 + n := bits_join .i64 62 (by decide) wraps_i64 6 128 n (by decide) (by decide) (by decide) h0 (by omega) (by omega)
theorem or192 (n : Int) (h0 : 0 ≤ n) (h1 : n < 64) : bits .or .i64 192 n = 192 + n := bits_join .i64 62 (by decide) wraps_i64 6 192 n (by decide) (by decide) (by decide) h0 (by omega) (by omega)
theorem or224 (n : Int) (h0 : 0 ≤ n) (h1 : n < 32) : bits .or .i64 224 n = 224 + n := bits_join .i64 62 (by decide) wraps_i64 5 224 n (by decide) (by decide) (by decide) h0 (by omega) (by omega)
theorem or240 (n : Int) (h0 : 0 ≤ n) (h1 : n < 16) : bits .or .i64 240 n = 240 + n := bits_join .i64 62 (by decide) wraps_i64 4 240 n (by decide) (by decide) (by decide) h0 (by omega) (by omega)

theorem cells_one (r : Int) (h0 : 0 ≤ r) (h1 : r ≤ 127) : bcells (M.enc r) = [.int .u8 r] := by rw [← runeCells_eq, Lib.runeCells, Lib.encodeRuneZ_one h0 h1]; rfl
theorem cells_two (r : Int) (h0 : 128 ≤ r) (h1 : r ≤ 2047) : bcells (M.enc r) = [.int .u8 (192 + r / 64), .int .u8 (128 + r % 64)] := by rw [← runeCells_eq, Lib.runeCells, Lib.encodeRuneZ_two h0 h1]; rfl
theorem cells_three (r : Int) (h : (2048 ≤ r ∧ r < 55296) ∨ (57343 < r ∧ r ≤ 65535)) : bcells (M.enc r) = [.int .u8 (224 + r / 4096), .int .u8 (128 + r / 64 % 64), .int .u8 (128 + r % 64)] := by rw [← runeCells_eq, Lib.runeCells, Lib.encodeRuneZ_three h]; rfl
theorem cells_four (r : Int) (h0 : 65536 ≤ r) (h1 : r ≤ 1114111) : bcells (M.enc r) = [.int .u8 (240 + r / 262144), .int .u8 (128 + r / 4096 % 64), .int .u8 (128 + r / 64 % 64), .int .u8 (128 + r % 64)] := by rw [← runeCells_eq, Lib.runeCells, Lib.encodeRuneZ_four h0 h1]; rfl
set_option maxHeartbeats 1000000 in
theorem refput_cp (B : Nat) (v : Value) (l t : List UInt8) (r : Int) (w : World) (hr : M.isCP r = true) (hv : OwnB B w v l) (hl : l.length ≤ 1048576) (hB : B ≤ w.heap.size) (ht : l ++ M.enc r = t) :
    Calls Tryd.prog 64 #[v, .int .i64 r] w fun e w' => ∃ v', e = .returned v' ∧ OwnB B w' v' t ∧ Below B w w' := by
  have hcp := (M.isCP_iff r).1 hr
  have h0 : 0 ≤ r := hcp.1
  have h1 : r ≤ 1114111 := hcp.2.1
  have hlen : l.length + (M.enc r).length ≤ 4294967296 := by have := M.enc_le r; omega
  have hal : ∀ o, OwnB B (w.alloc o) v l := fun o => World.ownsRow.alloc hv o
  have hba : ∀ o, Below B w (w.alloc o) := fun o => (Below.refl B w).alloc hB o
  have Hal := Lib.hid hal
  have Hba := Lib.hid hba
  have Hlen := Lib.hid hlen
  have Ht := Lib.hid ht
  by_cases c1 : r < 128
  · have hbs := fun w : World => bs_cells_new w (M.enc r) _ 1 (cells_one r h0 (by omega)) rfl (by have := M.enc_le r; omega)
    have Hbs := Lib.hid hbs
    clear hr hcp hv hlen hal hba hbs ht
    go_enter Tryd.func64, Tryd.ntmps64
    go_wp2_with (at_builtin; refine wpl_append rfl _ _ rfl B v (.slice (some ⟨w.heap.size, 0, none⟩) 1 1) l (M.enc r) t rfl (Hal.out _) rfl (Hbs.out w) (fun n c h => by simp at h) Hlen.out (by simp only [World.alloc, Array.size_push]; omega) Ht.out ?_)
    intro v' w' ho hb
    have hb2 := (Hba.out _).trans hb
    clear hb
    go_wp2
    go_ret
    exact ⟨_, rfl, ho, hb2⟩
  · by_cases c2 : r < 2048
    · have hbs := fun w : World => bs_cells_new w (M.enc r) _ 2 (cells_two r (by omega) (by omega)) rfl (by have := M.enc_le r; omega)
      have Hbs := Lib.hid hbs
      have e1 := or192 (r / 64) (by omega) (by omega)
      have e2 := and63 r h0 h1
      have e3 := or128 (r % 64) (by omega) (by omega)
      clear hr hcp hv hlen hal hba hbs ht
      go_enter Tryd.func64, Tryd.ntmps64
      go_wp2_with (at_builtin; refine wpl_append rfl _ _ rfl B v (.slice (some ⟨w.heap.size, 0, none⟩) 2 2) l (M.enc r) t rfl (Hal.out _) rfl (Hbs.out w) (fun n c h => by simp at h) Hlen.out (by simp only [World.alloc, Array.size_push]; omega) Ht.out ?_)
      intro v' w' ho hb
      have hb2 := (Hba.out _).trans hb
      clear hb
      go_wp2
      go_ret
      exact ⟨_, rfl, ho, hb2⟩
    · by_cases c3 : r < 65536
      · have hbs := fun w : World => bs_cells_new w (M.enc r) _ 3 (cells_three r (by omega)) rfl (by have := M.enc_le r; omega)
        have Hbs := Lib.hid hbs
        have e1 := or224 (r / 4096) (by omega) (by omega)
        have e2 := and63 (r / 64) (by omega) (by omega)
        have e3 := or128 (r / 64 % 64) (by omega) (by omega)
        have e4 := and63 r h0 h1
        have e5 := or128 (r % 64) (by omega) (by omega)
        have hs : r < 55296 ∨ 57343 < r := by omega
        clear hr hcp hv hlen hal hba hbs ht
        rcases hs with hs | hs
        all_goals
          go_enter Tryd.func64, Tryd.ntmps64
          go_wp2_with (at_builtin; refine wpl_append rfl _ _ rfl B v (.slice (some ⟨w.heap.size, 0, none⟩) 3 3) l (M.enc r) t rfl (Hal.out _) rfl (Hbs.out w) (fun n c h => by simp at h) Hlen.out (by simp only [World.alloc, Array.size_push]; omega) Ht.out ?_)
          intro v' w' ho hb
          have hb2 := (Hba.out _).trans hb
          clear hb
          go_wp2
          go_ret
          exact ⟨_, rfl, ho, hb2⟩
      · have hbs := fun w : World => bs_cells_new w (M.enc r) _ 4 (cells_four r (by omega) h1) rfl (by have := M.enc_le r; omega)
        have Hbs := Lib.hid hbs
        have e1 := or240 (r / 262144) (by omega) (by omega)
        have e6 := and63 (r / 4096) (by omega) (by omega)
        have e7 := or128 (r / 4096 % 64) (by omega) (by omega)
        have e2 := and63 (r / 64) (by omega) (by omega)
        have e3 := or128 (r / 64 % 64) (by omega) (by omega)
        have e4 := and63 r h0 h1
        have e5 := or128 (r % 64) (by omega) (by omega)
        clear hr hcp hv hlen hal hba hbs ht
        go_enter Tryd.func64, Tryd.ntmps64
        go_wp2_with (at_builtin; refine wpl_append rfl _ _ rfl B v (.slice (some ⟨w.heap.size, 0, none⟩) 4 4) l (M.enc r) t rfl (Hal.out _) rfl (Hbs.out w) (fun n c h => by simp at h) Hlen.out (by simp only [World.alloc, Array.size_push]; omega) Ht.out ?_)
        intro v' w' ho hb
        have hb2 := (Hba.out _).trans hb
        clear hb
        go_wp2
        go_ret
        exact ⟨_, rfl, ho, hb2⟩

end Go.Proofs.YtlobinjdgcidmaaDoor
/- append of bytes onto bytes of the call's own, at a step of a region that draws its order. -/
namespace Go.Proofs.YtlobinjdgcidmaaDoor
open Go.RowKit

theorem stepl_append {w : World} {ops : Array Oper} {o : Oper} {a : Act} {K : Act → World → Prop} {Q : Exit → Act → World → Prop} {E : Prop} (hgd : o.guard = none) (s x : Operand)
    (ho : o.op = .call { callee := .builtin .append, args := #[s, x], argTypes := #[29, 29] })
    (B : Nat) (v u : Value) (l k t : List UInt8) (hs : a.eval s = v) (hown : OwnB B w v l) (hx : a.eval x = u) (hu : Bs w u k) (hk : 0 < k.length)
    (hlen : l.length + k.length ≤ 4294967296) (hB : B ≤ w.heap.size) (ht : l ++ k = t)
    (h : ∀ v' w', OwnB B w' v' t → Below B w w' → K (a.put o.dst v') w') : if Region.wanted o (yielded ops a.tmps) = true then Oper.wp Tryd.prog o a w K Q else E := by
  subst ht
  obtain ⟨i0, hi, hz0, hz1, hz2⟩ := info_parts infoB
  obtain ⟨ad, cap, rfl, h1, h2, h3⟩ := hu
  have hlt := World.ownsRow.lt hown
  obtain ⟨b, off, rfl, _, hc⟩ := h3 hk
  refine step_append_lies w hgd s x 29 ho B 5 i0 (.int .u8 0) 1 1 Tryd.underlying29 hi hz0 hz1 hz2 rfl (by decide) v l.length (bcells l) hs hown ⟨b, off, none⟩ k.length cap (bcells k) hx (by simp [bcells]) (bs_cells hc) one_oneCell hk (by unfold maxLen; omega) (by omega) hB _ rfl ?_
  intro g cap' w' hown' hg _ _
  refine h _ w' ?_ ((Below.refl B w).grown hg hB (fun j hj => (hlt j hj).1))
  rw [← bcells_append, ← List.length_append] at hown'
  rw [← List.length_append]
  exact hown'
end Go.Proofs.YtlobinjdgcidmaaDoor
