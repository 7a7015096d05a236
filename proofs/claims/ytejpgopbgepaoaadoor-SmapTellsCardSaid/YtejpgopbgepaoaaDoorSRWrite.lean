/- The reference's Write: what is returned, for any name and any segments. -/
import Derived.Test.YtejpgopbgepaoaaDoorSWrite
import Derived.Test.YtejpgopbgepaoaaDoorSRMaps
import Derived.Test.YtejpgopbgepaoaaDoorSRUnits
import Derived.Test.YtejpgopbgepaoaaDoorJRefSpell2
namespace Go.Proofs.YtejpgopbgepaoaaDoor
open Go.RowKit
set_option linter.unusedVariables false
set_option linter.unusedSimpArgs false

set_option maxRecDepth 100000 in
set_option maxHeartbeats 2000000 in
theorem refwrite_any (s : ByteArray) (l : List UInt8) (v : Value) (L : List M.S4) (r : Option (List UInt8)) (w : World) (hs : s.data.toList = l) (hl : l.length ≤ 40000) (hv : Ss w v L) (hL : L.length ≤ 1000) (hr : M.maps L = r) :
    Calls Tryd.prog 11 #[.string s, v] w fun e w' => e = .returned (wres l r) ∧ Below w.heap.size w w' := by
  have MP := Lib.hid (refmaps_any v L r w hv (by omega) hr)
  unfold MpP mres at MP
  have HUL := Lib.hid (unitsL_le l.length l (Nat.le_refl _))
  have HS := Lib.hid hs
  obtain ⟨a, cap, rfl, -⟩ := s4At_of hv
  cases r with
  | none =>
    simp only [Option.isSome_none, Option.getD_none] at MP
    clear hv hr hs
    go_enter Tryd.func11, Tryd.ntmps11
    go_wp2_with fail
    refine MP.out.mono ?_
    rintro e w1 ⟨rfl, hb1⟩
    go_wp2
    go_ret2
    exact ⟨rfl, hb1⟩
  | some m =>
    simp only [Option.isSome_some, Option.getD_some] at MP
    obtain ⟨U, hU⟩ : ∃ U, unitsL l = U := ⟨_, rfl⟩
    obtain ⟨T, hTT⟩ : ∃ T, bytes (M.spell U) = T := ⟨_, rfl⟩
    obtain ⟨mb, hmb⟩ : ∃ T, bytes m = T := ⟨_, rfl⟩
    have hts : T.size ≤ 5000000 := by
      rw [← hTT, bytes_size]
      have h1 := M.body_len U
      have h2 := unitsL_len l.length l (Nat.le_refl _)
      rw [hU] at h2
      unfold M.spell
      simp only [List.length_cons, List.length_append, List.length_nil]
      omega
    have hms : mb.size ≤ 5000000 := by
      rw [← hmb, bytes_size]
      have := maps_len L m hr
      omega
    rw [hU] at HUL
    rw [hmb] at MP
    have hw : wres l (some m) = .tuple #[.string (wtx T mb), .bool true] := by rw [← hmb, ← hTT, ← hU]; rfl
    have HW := Lib.hid hw
    have HU := Lib.hid hU
    have HTT := Lib.hid hTT
    clear hv hr hs hw hmb hU hTT
    go_enter Tryd.func11, Tryd.ntmps11
    go_wp2_with fail
    refine MP.out.mono ?_
    rintro e w1 ⟨rfl, hb1⟩
    go_wp2_with fail
    refine (refunits_any s l U w1 HS.out (by omega) HU.out).mono ?_
    rintro e w2 ⟨v2, rfl, his, hul, hb2⟩
    have hb3 := hb1.trans (hb2.mono hb1.size)
    clear hb1 hb2
    go_wp2_with fail
    refine (refspell_any v2 U T w2 his (by omega) HUL.out HTT.out).mono ?_
    rintro e w3 ⟨rfl, hb4⟩
    have hb5 := hb3.trans (hb4.mono hb3.size)
    clear hb3 hb4
    go_wp2
    go_ret2
    exact ⟨by rw [HW.out]; rfl, hb5⟩
end Go.Proofs.YtejpgopbgepaoaaDoor
