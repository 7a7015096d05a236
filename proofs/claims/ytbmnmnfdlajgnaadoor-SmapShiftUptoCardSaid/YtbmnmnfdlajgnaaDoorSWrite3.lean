/- smap.Write: what is returned, for any name and any segments. -/
import Derived.Test.YtbmnmnfdlajgnaaDoorSUnits3
namespace Go.Proofs.YtbmnmnfdlajgnaaDoor
open Go.RowKit
set_option linter.unusedVariables false
set_option linter.unusedSimpArgs false

def wtx (T m : ByteArray) : ByteArray := ByteArray.mk #[123, 34, 118, 101, 114, 115, 105, 111, 110, 34, 58, 51, 44, 34, 115, 111, 117, 114, 99, 101, 115, 34, 58, 91] ++ T ++ ByteArray.mk #[93, 44, 34, 110, 97, 109, 101, 115, 34, 58, 91, 93, 44, 34, 109, 97, 112, 112, 105, 110, 103, 115, 34, 58, 34] ++ m ++ ByteArray.mk #[34, 125]
theorem mapsG_len (f : Bool) (last : M.S4) (l : List M.S4) (acc : List UInt8) (h0 : f = true → last.1 = 0) (h1 : last.1 ≤ 100000) (hm : M.mapsG f last l = some acc) : (acc.length : Int) ≤ (100000 - last.1) + 37 * l.length := by
  induction l generalizing f last acc with
  | nil => have : acc = [] := by simpa [M.mapsG] using hm.symm
           subst this; simp; omega
  | cons x r ih =>
    unfold M.mapsG at hm
    split at hm
    · rename_i hg
      obtain ⟨k, hk, rfl⟩ := Option.map_eq_some_iff.1 hm
      obtain ⟨ho, hb⟩ := M.good_parts f last x hg
      have ho := (M.okS_iff x).1 ho
      have hlx : last.1 ≤ x.1 := by
        cases f with
        | true => have := h0 rfl; omega
        | false => have := hb rfl; omega
      have := ih false x k (fun h => by simp at h) ho.2.1 hk
      have hc := M.chunk_len f last x hlx
      rw [List.length_append, List.length_cons]
      omega
    · simp at hm
theorem maps_len (l : List M.S4) (acc : List UInt8) (hm : M.maps l = some acc) : acc.length ≤ 100000 + 37 * l.length := by
  have := mapsG_len true (0, 0, 0, 0) l acc (fun _ => rfl) (by simp) hm
  simp only at this
  omega
theorem unitsL_len : ∀ (n : Nat) (l : List UInt8), l.length ≤ n → (unitsL l).length ≤ 2 * l.length + 8 := by
  intro n
  induction n with
  | zero => intro l h; rw [unitsL_nil l (by omega)]; simp
  | succ n ih =>
    intro l h
    by_cases h0 : 0 < l.length
    · rw [unitsL_cons l h0, List.length_append]
      have h1 := M.dec_width l
      have h2 := pairU_two (M.dec l).1
      by_cases h3 : (M.dec l).2 ≤ l.length
      · have := ih (l.drop (M.dec l).2) (by simp only [List.length_drop]; omega)
        simp only [List.length_drop] at this
        omega
      · rw [unitsL_nil (l.drop (M.dec l).2) (by simp only [List.length_drop]; omega)]
        simp only [List.length_nil]; omega
    · rw [unitsL_nil l (by omega)]; simp
/-- What Write returns. -/
def wres (l : List UInt8) : Option (List UInt8) → Value
  | none => .tuple #[.string ⟨#[]⟩, .bool false]
  | some m => .tuple #[.string (wtx (bytes (M.spell (unitsL l))) (bytes m)), .bool true]
set_option maxRecDepth 100000 in
set_option maxHeartbeats 2000000 in
theorem swrite_any (s : ByteArray) (l : List UInt8) (v : Value) (L : List M.S4) (r : Option (List UInt8)) (w : World) (hT : Tabs w) (hs : s.data.toList = l) (hl : l.length ≤ 100000) (hv : Ss w v L) (hL : L.length ≤ 1000) (hr : M.maps L = r) :
    Calls Tryd.prog 14 #[.string s, v] w fun e w' => e = .returned (wres l r) ∧ Below w.heap.size w w' := by
  have MP := Lib.hid (smaps_any v L r w hv hL hr)
  have HT := Lib.hid hT
  unfold MpP mres at MP
  have HUL := Lib.hid (unitsL_le l.length l (Nat.le_refl _))
  have HS := Lib.hid hs
  obtain ⟨a, cap, rfl, -⟩ := s4At_of hv
  cases r with
  | none =>
    simp only [Option.isSome_none, Option.getD_none] at MP
    clear hT hv hr hs
    go_enter Tryd.func14, Tryd.ntmps14
    go_wp2_with fail
    refine MP.out.mono ?_
    rintro e w1 ⟨rfl, hb1⟩
    go_wp2
    go_ret2
    exact ⟨rfl, hb1⟩
  | some m =>
    simp only [Option.isSome_some, Option.getD_some] at MP
    obtain ⟨U, hU⟩ : ∃ U, unitsL l = U := ⟨_, rfl⟩
    obtain ⟨T, hTT⟩ : ∃ T, bytes (M.spell U) = T := ⟨_, rfl⟩
    obtain ⟨mb, hmb⟩ : ∃ T, bytes m = T := ⟨_, rfl⟩
    have hts : T.size ≤ 5000000 := by
      rw [← hTT, bytes_size]
      have h1 := M.body_len U
      have h2 := unitsL_len l.length l (Nat.le_refl _)
      rw [hU] at h2
      unfold M.spell
      simp only [List.length_cons, List.length_append, List.length_nil]
      omega
    have hms : mb.size ≤ 5000000 := by
      rw [← hmb, bytes_size]
      have := maps_len L m hr
      omega
    rw [hU] at HUL
    rw [hmb] at MP
    have hw : wres l (some m) = .tuple #[.string (wtx T mb), .bool true] := by rw [← hmb, ← hTT, ← hU]; rfl
    have HW := Lib.hid hw
    have HU := Lib.hid hU
    have HTT := Lib.hid hTT
    clear hT hv hr hs hw hmb hU hTT
    go_enter Tryd.func14, Tryd.ntmps14
    go_wp2_with fail
    refine MP.out.mono ?_
    rintro e w1 ⟨rfl, hb1⟩
    go_wp2_with fail
    refine (unitsof_any s l U w1 (HT.out.keep hb1) HS.out (by omega) HU.out).mono ?_
    rintro e w2 ⟨v2, rfl, his, hul, hb2⟩
    have hb3 := hb1.trans (hb2.mono hb1.size)
    clear hb1 hb2
    go_wp2_with fail
    refine (jspell_any v2 U T w2 his (by omega) HUL.out HTT.out).mono ?_
    rintro e w3 ⟨rfl, hb4⟩
    have hb5 := hb3.trans (hb4.mono hb3.size)
    clear hb3 hb4
    go_wp2
    go_ret2
    exact ⟨by rw [HW.out]; rfl, hb5⟩
end Go.Proofs.YtbmnmnfdlajgnaaDoor
