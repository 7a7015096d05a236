import Derived.Test.YtimjbjppmhdjnaaGreatDoorMgW
import Derived.Test.YtimjbjppmhdjnaaGreatDoorMgA
import Derived.Test.YtimjbjppmhdjnaaGreatDoorMgL
import Derived.Test.YtimjbjppmhdjnaaGreatDoorMgN
import Derived.Lib.IndexLaws
set_option maxHeartbeats 4000000
set_option maxRecDepth 100000
namespace Go.Proofs.YtimjbjppmhdjnaaGreatDoor
open Go.RowKit
set_option linter.unusedVariables false
set_option linter.unusedSimpArgs false
abbrev C4 := Int × Int × Int × Int
def z4 : C4 := (0, 0, 0, 0)
abbrev GT := M.CT × C4 × Int
def gtv (g : GT) : Array Value := #[.int .i64 g.1.kind, .string (bytes g.1.text), .string (bytes g.1.unit), .bool g.1.num.1, .string (bytes g.1.num.2.1), .string (bytes g.1.num.2.2), .bool g.1.flag, .bool g.1.sign, .int .i64 g.2.1.1, .int .i64 g.2.1.2.1, .int .i64 g.2.1.2.2.1, .int .i64 g.2.1.2.2.2, .int .i64 g.2.2]
theorem gtv_lit (k : Int) (text unit : List UInt8) (n0 : Bool) (n1 n2 : List UInt8) (flag sign : Bool) (c0 c1 c2 c3 z : Int) : gtv (⟨k, text, unit, (n0, n1, n2), flag, sign⟩, (c0, c1, c2, c3), z) = #[.int .i64 k, .string (bytes text), .string (bytes unit), .bool n0, .string (bytes n1), .string (bytes n2), .bool flag, .bool sign, .int .i64 c0, .int .i64 c1, .int .i64 c2, .int .i64 c3, .int .i64 z] := rfl
theorem gtv_size (g : GT) : (gtv g).size = 13 := rfl
theorem gtv_one (g : GT) : (gtv g).all (·.oneCell') = true := by
 rw [Array.all_eq_true_iff_forall_mem]
 intro x hx
 simp only [gtv, List.mem_toArray, List.mem_cons, List.mem_nil_iff, or_false] at hx
 rcases hx with rfl | rfl | rfl | rfl | rfl | rfl | rfl | rfl | rfl | rfl | rfl | rfl | rfl <;> rfl
theorem sign_any (k : Int) (s : List UInt8) (w : World) (h : M.sigS k = s) :
  Calls Tryz.prog 18 #[.int .i64 k] w fun e w' => e = .returned (.string (bytes s)) /\ w = w' := by
 by_cases h14 : k = 14
 ·subst h14
  obtain rfl : ([60, 33, 45, 45] : List UInt8) = s := by rw [<- h]; rfl
  clear h
  go_enter Tryz.func18, Tryz.ntmps18
  go_wp2
  go_ret
  exact ⟨rfl, rfl⟩
 by_cases h15 : k = 15
 ·subst h15
  obtain rfl : ([45, 45, 62] : List UInt8) = s := by rw [<- h]; rfl
  clear h
  go_enter Tryz.func18, Tryz.ntmps18
  go_wp2
  go_ret
  exact ⟨rfl, rfl⟩
 by_cases h16 : k = 16
 ·subst h16
  obtain rfl : ([58] : List UInt8) = s := by rw [<- h]; rfl
  clear h
  go_enter Tryz.func18, Tryz.ntmps18
  go_wp2
  go_ret
  exact ⟨rfl, rfl⟩
 by_cases h17 : k = 17
 ·subst h17
  obtain rfl : ([59] : List UInt8) = s := by rw [<- h]; rfl
  clear h
  go_enter Tryz.func18, Tryz.ntmps18
  go_wp2
  go_ret
  exact ⟨rfl, rfl⟩
 by_cases h18 : k = 18
 ·subst h18
  obtain rfl : ([44] : List UInt8) = s := by rw [<- h]; rfl
  clear h
  go_enter Tryz.func18, Tryz.ntmps18
  go_wp2
  go_ret
  exact ⟨rfl, rfl⟩
 by_cases h19 : k = 19
 ·subst h19
  obtain rfl : ([123] : List UInt8) = s := by rw [<- h]; rfl
  clear h
  go_enter Tryz.func18, Tryz.ntmps18
  go_wp2
  go_ret
  exact ⟨rfl, rfl⟩
 by_cases h20 : k = 20
 ·subst h20
  obtain rfl : ([125] : List UInt8) = s := by rw [<- h]; rfl
  clear h
  go_enter Tryz.func18, Tryz.ntmps18
  go_wp2
  go_ret
  exact ⟨rfl, rfl⟩
 by_cases h21 : k = 21
 ·subst h21
  obtain rfl : ([40] : List UInt8) = s := by rw [<- h]; rfl
  clear h
  go_enter Tryz.func18, Tryz.ntmps18
  go_wp2
  go_ret
  exact ⟨rfl, rfl⟩
 by_cases h22 : k = 22
 ·subst h22
  obtain rfl : ([41] : List UInt8) = s := by rw [<- h]; rfl
  clear h
  go_enter Tryz.func18, Tryz.ntmps18
  go_wp2
  go_ret
  exact ⟨rfl, rfl⟩
 by_cases h23 : k = 23
 ·subst h23
  obtain rfl : ([91] : List UInt8) = s := by rw [<- h]; rfl
  clear h
  go_enter Tryz.func18, Tryz.ntmps18
  go_wp2
  go_ret
  exact ⟨rfl, rfl⟩
 by_cases h24 : k = 24
 ·subst h24
  obtain rfl : ([93] : List UInt8) = s := by rw [<- h]; rfl
  clear h
  go_enter Tryz.func18, Tryz.ntmps18
  go_wp2
  go_ret
  exact ⟨rfl, rfl⟩
 obtain rfl : ([] : List UInt8) = s := by rw [<- h]; unfold M.sigS; rw [if_neg h14]; rw [if_neg h15]; rw [if_neg h16]; rw [if_neg h17]; rw [if_neg h18]; rw [if_neg h19]; rw [if_neg h20]; rw [if_neg h21]; rw [if_neg h22]; rw [if_neg h23]; rw [if_neg h24]
 have t14 : (k == 14) = false := by simpa using h14
 have t15 : (k == 15) = false := by simpa using h15
 have t16 : (k == 16) = false := by simpa using h16
 have t17 : (k == 17) = false := by simpa using h17
 have t18 : (k == 18) = false := by simpa using h18
 have t19 : (k == 19) = false := by simpa using h19
 have t20 : (k == 20) = false := by simpa using h20
 have t21 : (k == 21) = false := by simpa using h21
 have t22 : (k == 22) = false := by simpa using h22
 have t23 : (k == 23) = false := by simpa using h23
 have t24 : (k == 24) = false := by simpa using h24
 clear h h14 h15 h16 h17 h18 h19 h20 h21 h22 h23 h24
 go_enter Tryz.func18, Tryz.ntmps18
 go_wp2
 go_ret
 exact ⟨rfl, rfl⟩
theorem index0 (l : List UInt8) : decide (0 <= Lib.indexByte l 0) = l.contains 0 := by
 cases h : l.contains 0 with
 | false =>
  have hn : Lib.indexByte l 0 = -1 := by
   have hg := Lib.indexByte_ge l 0
   by_cases hh : Lib.indexByte l 0 = -1
   ·exact hh
   ·obtain ⟨o, ho⟩ : ∃ o : Nat, Lib.indexByte l 0 = o := ⟨(Lib.indexByte l 0).toNat, by omega⟩
    have := (Lib.indexByte_some ho).1
    have hm := List.mem_of_getElem? this
    simp only [List.contains_eq_any_beq, List.any_eq_false] at h
    have := h 0 hm
    simp at this
  rw [hn]; rfl
 | true =>
  simp only [List.contains_eq_any_beq, List.any_eq_true] at h
  obtain ⟨x, hx, h0⟩ := h
  have hx0 : x = 0 := by simpa using Eq.symm (by simpa using h0 : (0 : UInt8) = x)
  subst hx0
  obtain ⟨i, hi, he⟩ := List.getElem_of_mem hx
  have hg := Lib.indexByte_ge l 0
  by_cases hh : Lib.indexByte l 0 = -1
  ·exact absurd (show l[i]? = some 0 by rw [List.getElem?_eq_getElem hi, he]) (Lib.indexByte_none hh i)
  ·simp; omega
theorem contains0_any (s : List UInt8) (w : World) : Calls Tryz.prog 42 #[.string (bytes s), .string ⟨#[0]⟩] w fun e w' => e = .returned (.bool (s.contains 0)) /\ w = w' :=
 (Tryz.strings_Contains_one (bytes s) 0 w).mono fun e w' ⟨h1, h2⟩ => ⟨by rw [h1, bytes_list, index0], h2.symm⟩
theorem isclean_any (s : List UInt8) (b : Bool) (w : World) (hT : Tabs w) (hl : s.length <= 1000000) (hb : M.cleanS s = b) :
  Calls Tryz.prog 14 #[.string (bytes s)] w fun e w' => e = .returned (.bool b) /\ Below w.heap.size w w' := by
 have hcv := bw_conv w (bytes s)
 have hbs := bw_bs w (bytes s) (by rw [bytes_size]; omega)
 have hbb := bw_below w (bytes s)
 rw [bytes_list] at hbs
 rw [bytes_size] at hcv hbs
 obtain ⟨q, ok, hv⟩ : ∃ q ok, M.validAll s = (q, ok) := ⟨_, _, rfl⟩
 obtain ⟨W, hW⟩ : ∃ W, Lib.bytesWorld w 5 (bytes s) = W := ⟨_, rfl⟩
 rw [hW] at hcv hbs hbb
 have V1 := Lib.hid (valid_any _ s q ok W (hT.keep hbb) hbs (by omega) hv)
 have C1 := Lib.hid (fun w => contains0_any s w)
 have hb2 : (ok && !s.contains 0) = b := by rw [<- hb]; unfold M.cleanS; rw [hv]
 obtain ⟨z, hz⟩ : ∃ z, s.contains 0 = z := ⟨_, rfl⟩
 rw [hz] at C1 hb2
 obtain ⟨S, hS⟩ : ∃ S, bytes s = S := ⟨_, rfl⟩
 rw [hS] at hcv C1 ⊢
 have HB := Lib.hid hbb
 clear hbb hbs hv hb hT hS hW hl hz
 cases ok with
 | false =>
  obtain rfl : false = b := by rw [<- hb2]; rfl
  go_enter Tryz.func14, Tryz.ntmps14
  go_wp2_with fail
  refine V1.out.mono ?_
  rintro e w1 ⟨rfl, hb1⟩
  go_wp2
  go_ret
  exact ⟨rfl, HB.out.trans (hb1.mono HB.out.size)⟩
 | true =>
  go_enter Tryz.func14, Tryz.ntmps14
  go_wp2_with fail
  refine V1.out.mono ?_
  rintro e w1 ⟨rfl, hb1⟩
  go_wp2_with fail
  refine (C1.out _).mono ?_
  rintro e w' ⟨rfl, rfl⟩
  go_wp2
  go_ret
  exact ⟨by rw [<- hb2]; first | rfl | simp, HB.out.trans (hb1.mono HB.out.size)⟩
theorem lineb_any (g : GT) (b : Bool) (w : World) (hb : M.lineT g.1 = b) :
  Calls Tryz.prog 74 #[.agg (gtv g)] w fun e w' => e = .returned (.bool b) /\ Below w.heap.size w w' := by
 obtain ⟨⟨k, text, unit, ⟨n0, n1, n2⟩, flag, sign⟩, ⟨c0, c1, c2, c3⟩, z⟩ := g
 unfold M.lineT at hb
 simp only at hb
 unfold gtv
 simp only
 by_cases h6 : k = 6
 ·subst h6
  obtain rfl : true = b := by rw [<- hb]; rfl
  clear hb
  go_enter Tryz.func74, Tryz.ntmps74
  go_wp2
  go_ret
  exact ⟨rfl, (Below.refl _ _).alloc (Nat.le_refl _) _⟩
 have t6 : (k == 6) = false := by simpa using h6
 by_cases h9 : k = 9
 ·subst h9
  by_cases ht : text = [92]
  ·subst ht
   obtain rfl : true = b := by rw [<- hb]; rfl
   have t1 : ((bytes [92]).toList == [92]) = true := by rw [toList_bytes]; rfl
   obtain ⟨S, hS⟩ : ∃ S, bytes [92] = S := ⟨_, rfl⟩
   rw [hS] at t1 ⊢
   clear hb h6 t6 hS
   go_enter Tryz.func74, Tryz.ntmps74
   go_wp2
   go_ret
   exact ⟨rfl, (Below.refl _ _).alloc (Nat.le_refl _) _⟩
  ·obtain rfl : false = b := by rw [<- hb]; simp [ht]
   obtain ⟨S, hS⟩ : ∃ S, bytes text = S := ⟨_, rfl⟩
   have t1 : (S.toList == [92]) = false := by rw [<- hS, toList_bytes]; simpa using ht
   rw [hS]
   clear hb ht hS h6 t6
   go_enter Tryz.func74, Tryz.ntmps74
   go_wp2
   go_ret
   exact ⟨rfl, (Below.refl _ _).alloc (Nat.le_refl _) _⟩
 ·have t9 : (k == 9) = false := by simpa using h9
  obtain rfl : false = b := by rw [<- hb]; simp [h6, h9]
  clear hb h6 h9
  go_enter Tryz.func74, Tryz.ntmps74
  go_wp2
  go_ret
  exact ⟨rfl, (Below.refl _ _).alloc (Nat.le_refl _) _⟩
theorem isurl_any (g : GT) (b : Bool) (w : World) (hl : g.1.text.length <= 4000000) (hb : M.urlF g.1 = b) :
  Calls Tryz.prog 75 #[.agg (gtv g)] w fun e w' => e = .returned (.bool b) /\ Below w.heap.size w w' := by
 obtain ⟨⟨k, text, unit, ⟨n0, n1, n2⟩, flag, sign⟩, ⟨c0, c1, c2, c3⟩, z⟩ := g
 have L1 := Lib.hid (fun w => flower_any text w hl)
 unfold M.urlF at hb
 simp only at hb L1
 unfold gtv
 simp only
 obtain ⟨S, hS⟩ : ∃ S, bytes text = S := ⟨_, rfl⟩
 obtain ⟨R, hR⟩ : ∃ S, bytes (M.lowL text) = S := ⟨_, rfl⟩
 rw [hS, hR] at L1
 rw [hS]
 by_cases h2 : k = 2
 ·subst h2
  obtain rfl : decide (M.lowL text = [117, 114, 108]) = b := by rw [<- hb]; rfl
  have t1 : ∃ x, (R.toList == [117, 114, 108]) = x /\ decide (M.lowL text = [117, 114, 108]) = x := ⟨_, rfl, by rw [<- hR, toList_bytes]; by_cases h : M.lowL text = [117, 114, 108] <;> simp [h]⟩
  obtain ⟨x, t1, t2⟩ := t1
  rw [t2]
  clear hb t2 hR hS hl
  go_enter Tryz.func75, Tryz.ntmps75
  go_wp2_with fail
  refine (L1.out _).mono ?_
  rintro e w1 ⟨rfl, hb1⟩
  go_wp2
  go_ret
  exact ⟨rfl, ((Below.refl _ _).alloc (Nat.le_refl _) _).trans (hb1.mono (by simp))⟩
 ·have t2 : (k == 2) = false := by simpa using h2
  obtain rfl : false = b := by rw [<- hb]; simp [h2]
  clear hb h2 hl
  go_enter Tryz.func75, Tryz.ntmps75
  go_wp2
  go_ret
  exact ⟨rfl, (Below.refl _ _).alloc (Nat.le_refl _) _⟩
end Go.Proofs.YtimjbjppmhdjnaaGreatDoor
