/- Plain numbers and lists: code points one behind the other are read one behind the other. Nothing of the program is imported. -/
import Derived.Test.YtoalaojghgdmcaaDoorUMath3
namespace Go.Proofs.YtoalaojghgdmcaaDoor.M

def encZ (zs : List Int) : List UInt8 := zs.flatMap fun z => enc z
theorem encZ_snoc (zs : List Int) (k : Nat) (h : k < zs.length) : encZ (zs.take (k + 1)) = encZ (zs.take k) ++ enc (zs.getD k 0) := by
  rw [List.take_succ_eq_append_getElem h, show zs.getD k 0 = zs[k] by simp [h]]
  simp only [encZ, List.flatMap_append, List.flatMap_cons, List.flatMap_nil, List.append_nil]
theorem encZ_len (zs : List Int) : (encZ zs).length ≤ 4 * zs.length := by
  induction zs with
  | nil => simp [encZ]
  | cons a zs ih =>
    have := enc_le a
    simp only [encZ, List.flatMap_cons, List.length_append, List.length_cons] at *
    omega
theorem nx_cp (z : Int) (h : isCP z = true) (t : List UInt8) : nx (enc z ++ t) = (z, ((enc z).length : Int), true) := by
  have h1 := (isCP_iff z).1 h
  obtain ⟨n, rfl⟩ : ∃ n : Nat, z = n := ⟨z.toNat, by omega⟩
  rw [nx_enc n h t, enc_len n h]
theorem encZ_at (zs : List Int) (n k : Nat) (hk : k < n) (hn : n ≤ zs.length) (h : isCP (zs.getD k 0) = true) :
    nextAt (encZ (zs.take n)) ((encZ (zs.take k)).length : Int) = (zs.getD k 0, ((enc (zs.getD k 0)).length : Int), true) := by
  have e : encZ (zs.take n) = encZ (zs.take k) ++ (enc (zs.getD k 0) ++ encZ ((zs.take n).drop (k + 1))) := by
    rw [← List.append_assoc, ← encZ_snoc zs k (by omega)]
    conv => lhs; rw [← List.take_append_drop (k + 1) (zs.take n)]
    simp only [encZ, List.flatMap_append, List.take_take]
    rw [Nat.min_eq_left (by omega)]
  have hp := enc_pos (zs.getD k 0)
  unfold nextAt
  rw [if_neg (by rw [e]; simp only [List.length_append]; omega), Int.toNat_natCast, e, List.drop_left]
  exact nx_cp _ h _
theorem valid_one (z : Int) (h : isCP z = true) : validAll (enc z) = ((enc z).length, true) := by
  have h1 := (isCP_iff z).1 h
  obtain ⟨n, rfl⟩ : ∃ n : Nat, z = n := ⟨z.toNat, by omega⟩
  have hp := enc_pos n
  have hd := dec_enc n h []
  have hx := nx_enc n h []
  rw [List.append_nil] at hd hx
  unfold validAll
  rw [valid_good _ _ 0 (by omega) (by omega) (by rw [List.drop_zero, hx]), List.drop_zero, hd, valid_end _ _ _ (by rw [enc_len n h]; simp), enc_len n h]
  simp
theorem valid_encZ (zs : List Int) (h : ∀ z ∈ zs, isCP z = true) : validAll (encZ zs) = ((encZ zs).length, true) := by
  induction zs with
  | nil => rfl
  | cons a zs ih =>
    have e : encZ (a :: zs) = enc a ++ encZ zs := by simp [encZ]
    rw [e, join_good _ _ (by rw [valid_one a (h a (by simp))]), ih (fun z hz => h z (by simp [hz])), List.length_append]
theorem valid_cut (z : Int) (h : isCP z = true) (m : Nat) (hm : m < (enc z).length) : (validAll ((enc z).take m)).2 = (m == 0) := by
  have h1 := (isCP_iff z).1 h
  obtain ⟨n, rfl⟩ : ∃ n : Nat, z = n := ⟨z.toNat, by omega⟩
  by_cases h0 : m = 0
  · subst h0; rfl
  · have hl : ((enc (n : Int)).take m).length = m := by rw [List.length_take]; omega
    have hc := enc_cut h m (by omega) (by rw [← enc_len n h]; exact hm)
    unfold validAll
    rw [valid_bad _ _ 0 (by omega) (by omega) (by rw [List.drop_zero]; exact hc)]
    symm
    rw [beq_eq_false_iff_ne]; exact h0
theorem width_cases (z : Int) (h : isCP z = true) : (z < 128 ∧ (enc z).length = 1) ∨ (128 ≤ z ∧ z < 2048 ∧ (enc z).length = 2) ∨ (2048 ≤ z ∧ z < 65536 ∧ (enc z).length = 3) ∨ (65536 ≤ z ∧ (enc z).length = 4) := by
  have h1 := (isCP_iff z).1 h
  obtain ⟨n, rfl⟩ : ∃ n : Nat, z = n := ⟨z.toNat, by omega⟩
  rw [enc_len n h]
  unfold wid
  repeat' split
  all_goals omega
end Go.Proofs.YtoalaojghgdmcaaDoor.M
