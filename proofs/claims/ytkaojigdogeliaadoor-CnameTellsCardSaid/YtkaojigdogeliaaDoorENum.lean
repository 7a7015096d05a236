/- A small number in base 16, as strconv.FormatInt writes it; escape.Number. -/
import Derived.Test.YtkaojigdogeliaaDoorECls
import Derived.Test.YtkaojigdogeliaaDoorEMath4
import Derived.Test.YtkaojigdogeliaaDoorUNx
import Derived.Laws.BitsLemmas
import Derived.Outline
namespace Go.Proofs.YtkaojigdogeliaaDoor
open Go.RowKit
set_option linter.unusedVariables false
set_option linter.unusedSimpArgs false

/-- The one cell that is read of the table of bits. -/
def TzCell (w : World) : Prop := w.cell? ⟨4, 15, none⟩ = some (.int .u8 4)
theorem TzCell.keep {w w' : World} (h : TzCell w) (hb : Below w.heap.size w w') : TzCell w' := by
  unfold TzCell at h ⊢; rw [hb.cell (World.block_lt_of_cell? w _ h)]; exact h
def TabsE (w : World) : Prop := Tabs w ∧ TzCell w
theorem TabsE.keep {w w' : World} (h : TabsE w) (hb : Below w.heap.size w w') : TabsE w' :=
  ⟨h.1.keep hb, h.2.keep hb⟩
set_option maxRecDepth 100000 in
set_option maxHeartbeats 1000000 in
theorem tz64_any (w : World) (hT : TzCell w) : Calls Tryd.prog 78 #[.int .u64 16] w fun e w' => e = .returned (.int .i64 4) ∧ w = w' := by
  unfold TzCell at hT
  have key : IntKind.u64.wrap (bits BinOp.and IntKind.u64 16 (IntKind.u64.wrap (-16)) * 285870213051353865) / 288230376151711744 = 15 := by decide +kernel
  have key2 : IntKind.u64.wrap (bits BinOp.and IntKind.u64 16 18446744073709551600 * 285870213051353865) / 288230376151711744 = 15 := by decide +kernel
  go_enter Tryd.func78, Tryd.ntmps78
  go_wp2_with (first | simp only [key] | simp only [key2])
  go_ret
  exact ⟨rfl, rfl⟩
set_option maxRecDepth 100000 in
set_option maxHeartbeats 1000000 in
theorem tz_any (w : World) (hT : TzCell w) : Calls Tryd.prog 75 #[.int .u64 16] w fun e w' => e = .returned (.int .i64 4) ∧ w = w' := by
  have X := Lib.hid (tz64_any w hT)
  clear hT
  go_enter Tryd.func75, Tryd.ntmps75
  go_wp2_with fail
  refine (X.out).mono ?_
  rintro e w' ⟨rfl, rfl⟩
  go_wp2
  go_ret
  exact ⟨rfl, rfl⟩
set_option maxRecDepth 100000 in
set_option maxHeartbeats 1000000 in
theorem pow_any (w : World) : Calls Tryd.prog 74 #[.int .i64 16] w fun e w' => e = .returned (.bool true) ∧ w = w' := by
  go_enter Tryd.func74, Tryd.ntmps74
  go_wp2
  go_ret
  exact ⟨rfl, rfl⟩
theorem conv_at (w : World) (g off : Nat) (l : List UInt8) (n cap : Nat) (hn : l.length = n) (h : ∀ j (hj : j < l.length), w.cell? ⟨g, off + j, none⟩ = some (.int .u8 (l[j].toNat : Int))) :
    (convert 34 9 (.slice (some ⟨g, off, none⟩) n cap)).run Tryd.prog w = .ok (.string (bytes l)) w := by
  subst hn
  have hB : Lib.Bytes w g off (bytes l) := by
    intro i hi
    have hi' : i < l.length := by simpa [bytes, ByteArray.size] using hi
    rw [h i hi']
    congr 3
  have := Lib.run_convert_whole (P := Tryd.prog) w 34 5 9 Tryd.underlying34 Tryd.underlying5 Tryd.underlying9 g off _ hB cap
  rw [bytes_size] at this
  exact this
theorem and15_u64 : ∀ c : Fin 256, bits .and .u64 ((c.val : Nat) : Int) 15 = ((c.val % 16 : Nat) : Int) := by decide +kernel
theorem dig36 : ∀ d : Fin 16, (((ByteArray.mk #[48, 49, 50, 51, 52, 53, 54, 55, 56, 57, 97, 98, 99, 100, 101, 102, 103, 104, 105, 106, 107, 108, 109, 110, 111, 112, 113, 114, 115, 116, 117, 118, 119, 120, 121, 122])[d.val]'(by have := d.isLt; simp [ByteArray.size]; omega)).toNat : Int) = M.dgx d.val := by decide +kernel
theorem dig36' (d : Nat) (h : d < 16) (x : Nat) (hx : x = d) (h' : x < (ByteArray.mk #[48, 49, 50, 51, 52, 53, 54, 55, 56, 57, 97, 98, 99, 100, 101, 102, 103, 104, 105, 106, 107, 108, 109, 110, 111, 112, 113, 114, 115, 116, 117, 118, 119, 120, 121, 122]).size) :
    (((ByteArray.mk #[48, 49, 50, 51, 52, 53, 54, 55, 56, 57, 97, 98, 99, 100, 101, 102, 103, 104, 105, 106, 107, 108, 109, 110, 111, 112, 113, 114, 115, 116, 117, 118, 119, 120, 121, 122])[x]'h').toNat : Int) = M.dgx d := by
  subst hx; rw [dig36 ⟨x, h⟩]
theorem z79 : Tryd.zeroCells79.size = 65 := by kernel_rfl
theorem dgx_u8 (k : Nat) (h : k < 16) : ((M.dgx k).toNat.toUInt8.toNat : Int) = M.dgx k := by
  have := M.dgx_ok k h
  rw [M.toU8 _ (by omega)]; omega
theorem hexB_one (r : Nat) (h : r < 16) : M.encZs (M.hexd r) = [(M.dgx r).toNat.toUInt8] := by
  have := M.dgx_ok r h
  have e : M.hexd r = [M.dgx r] := by unfold M.hexd; rw [if_pos (by omega)]; rfl
  rw [e, M.encZs_cons, M.encZs_nil, M.enc_ascii _ (by omega) (by omega)]; rfl
theorem hexB_two (r : Nat) (h : 16 ≤ r) (h2 : r < 128) : M.encZs (M.hexd r) = [(M.dgx (r / 16)).toNat.toUInt8, (M.dgx (r % 16)).toNat.toUInt8] := by
  have h3 := M.dgx_ok (r / 16) (by omega)
  have h4 := M.dgx_ok (r % 16) (by omega)
  have e : M.hexd r = [M.dgx (r / 16), M.dgx (r % 16)] := by
    unfold M.hexd; rw [if_neg (by omega)]
    have e1 : ((r : Int) / 16).toNat = r / 16 := by omega
    have e2 : ((r : Int) % 16).toNat = r % 16 := by omega
    rw [e1, e2]
  rw [e, M.encZs_cons, M.encZs_cons, M.encZs_nil, M.enc_ascii _ (by omega) (by omega), M.enc_ascii _ (by omega) (by omega)]; rfl
theorem conv_one (w : World) (r : Nat) (h : r < 16) : (convert 34 9 (.slice (some ⟨w.heap.size, 64, none⟩) 1 1)).run Tryd.prog (w.alloc (Obj.cells (Tryd.zeroCells79.setIfInBounds 64 (.int .u8 (M.dgx r))) 79)) = .ok (.string (bytes (M.encZs (M.hexd r)))) (w.alloc (Obj.cells (Tryd.zeroCells79.setIfInBounds 64 (.int .u8 (M.dgx r))) 79)) := by
  refine conv_at _ _ 64 _ 1 1 (by rw [hexB_one r h]; rfl) ?_
  rw [hexB_one r h]
  intro j hj
  obtain rfl : j = 0 := by simp at hj; omega
  rw [World.cell?_alloc_at _ _ _ _ rfl]
  simp only [List.getElem_cons_zero]
  rw [dgx_u8 r h]
  simp [Array.getElem?_setIfInBounds, z79]
theorem conv_two (w : World) (r : Nat) (h : 16 ≤ r) (h2 : r < 128) : (convert 34 9 (.slice (some ⟨w.heap.size, 63, none⟩) 2 2)).run Tryd.prog (w.alloc (Obj.cells ((Tryd.zeroCells79.setIfInBounds 64 (.int .u8 (M.dgx (r % 16)))).setIfInBounds 63 (.int .u8 (M.dgx (r / 16)))) 79)) = .ok (.string (bytes (M.encZs (M.hexd r)))) (w.alloc (Obj.cells ((Tryd.zeroCells79.setIfInBounds 64 (.int .u8 (M.dgx (r % 16)))).setIfInBounds 63 (.int .u8 (M.dgx (r / 16)))) 79)) := by
  refine conv_at _ _ 63 _ 2 2 (by rw [hexB_two r h h2]; rfl) ?_
  rw [hexB_two r h h2]
  intro j hj
  rw [World.cell?_alloc_at _ _ _ _ rfl]
  match j, hj with
  | 0, _ =>
    simp only [List.getElem_cons_zero]
    rw [dgx_u8 (r / 16) (by omega)]
    simp [Array.getElem?_setIfInBounds, z79]
  | 1, _ =>
    simp only [List.getElem_cons_succ, List.getElem_cons_zero]
    rw [dgx_u8 (r % 16) (by omega)]
    simp [Array.getElem?_setIfInBounds, z79]
set_option maxRecDepth 100000 in
set_option maxHeartbeats 4000000 in
theorem fbits_any (r : Nat) (w : World) (hT : TzCell w) (h2 : r < 128) :
    Calls Tryd.prog 69 #[.slice none 0 0, .int .u64 (r : Int), .int .i64 16, .bool false, .bool false] w fun e w' => e = .returned (.tuple #[.slice none 0 0, .string (bytes (M.encZs (M.hexd r)))]) ∧ Below w.heap.size w w' := by
  have T1 := Lib.hid (fun w h => tz_any w h)
  have HT := Lib.hid hT
  have i1 : (r : Int) < 128 := by omega
  have a1 := and15_u64 ⟨r, by omega⟩
  simp only at a1
  have A1 := Lib.hid a1
  clear hT a1
  go_enter Tryd.func69, Tryd.ntmps69
  go_wp2_with fail
  refine (pow_any _).mono ?_
  rintro e w' ⟨rfl, rfl⟩
  go_wp2_with fail
  refine (T1.out _ (HT.out.keep ((Below.refl _ _).alloc (Nat.le_refl _) _))).mono ?_
  rintro e w' ⟨rfl, rfl⟩
  go_wp2
  go_loopw [1, 13] (fun uv iv wr => (uv = .int .u64 (r : Int) ∧ iv = .int .i64 65 ∧ wr = w.alloc (Obj.cells Tryd.zeroCells79 79)) ∨ (16 ≤ r ∧ uv = .int .u64 ((r / 16 : Nat) : Int) ∧ iv = .int .i64 64 ∧ ∃ V : Int, V = M.dgx (r % 16) ∧ wr = w.alloc (Obj.cells (Tryd.zeroCells79.setIfInBounds 64 (.int .u8 V)) 79))) (fun uv _ _ => (intOf uv).toNat)
  case atStart => exact .inl ⟨rfl, rfl, rfl⟩
  case round =>
    rcases hrel with ⟨rfl, rfl, rfl⟩ | ⟨h16, rfl, rfl, V, hV, rfl⟩
    · by_cases hlt : 16 ≤ r
      · have hlt2 : (16 : Int) ≤ r := by omega
        have a1 := A1.out
        have u1 : ((r % 16 : Nat) : Int).toNat = r % 16 := by omega
        go_wp2
        go_roundw
        case rel => exact .inr ⟨hlt, by simp, rfl, _, dig36' (r % 16) (by omega) _ rfl _, rfl⟩
        case measure => simp [intOf]; omega
      · have hlt2 : ¬ (16 : Int) ≤ r := by omega
        have t1 : decide ((16 : Int) ≤ r) = false := by simp; omega
        have u1 : (r : Int).toNat = r := by omega
        have hd := dig36' r (by omega) r rfl (by simp [ByteArray.size]; omega)
        have hcv := conv_one w r (by omega)
        go_wp2
        go_ret2
        exact ⟨rfl, (Below.refl _ _).alloc (Nat.le_refl _) _⟩
    · have t1 : decide ((16 : Int) ≤ (r : Int) / 16) = false := by simp; omega
      have u1 : ((r : Int) / 16).toNat = r / 16 := by omega
      have hd := dig36' (r / 16) (by omega) (r / 16) rfl (by simp [ByteArray.size]; omega)
      have hcv := conv_two w r h16 h2
      subst hV
      go_wp2
      go_ret2
      exact ⟨rfl, (Below.refl _ _).alloc (Nat.le_refl _) _⟩
set_option maxRecDepth 100000 in
set_option maxHeartbeats 1000000 in
theorem fint_any (r : Nat) (w : World) (hT : TzCell w) (h2 : r < 128) :
    Calls Tryd.prog 52 #[.int .i64 (r : Int), .int .i64 16] w fun e w' => e = .returned (.string (bytes (M.encZs (M.hexd r)))) ∧ Below w.heap.size w w' := by
  have F := Lib.hid (fbits_any r w hT h2)
  have X : Calls Tryd.prog 62 #[.int .i64 (r : Int), .int .i64 16] w fun e w' => e = .returned (.string (bytes (M.encZs (M.hexd r)))) ∧ Below w.heap.size w w' := by
    have i1 : (0 : Int) ≤ r := by omega
    have i2 : (r : Int) < 128 := by omega
    clear hT h2
    go_enter Tryd.func62, Tryd.ntmps62
    go_wp2_with fail
    refine (F.out).mono ?_
    rintro e w1 ⟨rfl, hb⟩
    go_wp2
    go_ret
    exact ⟨rfl, hb⟩
  have HX := Lib.hid X
  clear hT h2 F X
  go_enter Tryd.func52, Tryd.ntmps52
  go_wp2_with fail
  refine (HX.out).mono ?_
  rintro e w1 ⟨rfl, hb⟩
  go_wp2
  go_ret
  exact ⟨rfl, hb⟩
theorem cat3 (a b c : List UInt8) : bytes a ++ bytes b ++ bytes c = bytes (a ++ b ++ c) := by
  apply ByteArray.ext
  simp [bytes]
theorem numB (r : Nat) : bytes [92] ++ bytes (M.encZs (M.hexd r)) ++ bytes [32] = bytes (M.encZs (M.numN r)) := by
  rw [cat3]
  congr 1
  have e : M.encZs (M.numN r) = M.enc 92 ++ (M.encZs (M.hexd r) ++ M.enc 32) := by
    show M.encZs (92 :: (M.hexd r ++ [32])) = _
    rw [M.encZs_cons, M.encZs_append, M.encZs_cons, M.encZs_nil, List.append_nil]
  rw [e, M.enc_ascii 92 (by decide) (by decide), M.enc_ascii 32 (by decide) (by decide)]
  simp
set_option maxRecDepth 100000 in
set_option maxHeartbeats 1000000 in
theorem enum_any (r : Nat) (w : World) (hT : TzCell w) (h2 : r < 128) :
    Calls Tryd.prog 39 #[.int .i64 (r : Int)] w fun e w' => e = .returned (.string (bytes (M.encZs (M.numN r)))) ∧ Below w.heap.size w w' := by
  have F := Lib.hid (fint_any r w hT h2)
  have hN := numB r
  rw [show bytes [92] = ⟨#[92]⟩ from rfl, show bytes [32] = ⟨#[32]⟩ from rfl] at hN
  have HN := Lib.hid hN
  have hsz : (bytes (M.encZs (M.hexd r))).size ≤ 8 := by
    have h3 := (M.hexd_ok r (by omega) (by omega)).2.2
    have := (M.encZs_len (M.hexd r)).2
    rw [bytes_size]; omega
  obtain ⟨S, hS⟩ : ∃ S, bytes (M.encZs (M.hexd r)) = S := ⟨_, rfl⟩
  rw [hS] at F HN hsz
  have i1 : (0 : Int) ≤ r := by omega
  have i2 : (r : Int) < 128 := by omega
  clear hT hN h2 hS
  go_enter Tryd.func39, Tryd.ntmps39
  go_wp2_with fail
  refine (F.out).mono ?_
  rintro e w1 ⟨rfl, hb⟩
  have hn := HN.out
  go_wp2
  go_ret
  exact ⟨by first | rfl | rw [← HN.out], hb⟩
end Go.Proofs.YtkaojigdogeliaaDoor
