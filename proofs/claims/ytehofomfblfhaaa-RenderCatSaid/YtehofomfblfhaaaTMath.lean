/- Plain: a text has as many code points as it was written from. -/
import Derived.Test.YtehofomfblfhaaaMgU
import Derived.Lib.RuneCount
import Derived.Lib.DecodeN
namespace Go.Proofs.Ytehofomfblfhaaa.M
open Go.Lib
set_option linter.unusedVariables false
set_option linter.unusedSimpArgs false

theorem dec_any (r : Int) (t : List UInt8) : (dec (enc r ++ t)).2 = (enc r).length := by
  have key : ∀ n : Nat, isCP n = true → (dec (enc n ++ t)).2 = (enc n).length := fun n h => by rw [dec_enc n h t, enc_len n h]
  cases h : isCP r with
  | true =>
    have h2 := (isCP_iff r).1 h
    have e : r = (r.toNat : Int) := by omega
    rw [e] at h ⊢
    exact key _ h
  | false => rw [enc_other r h]; exact key 65533 (by decide)
theorem get_drop (s : ByteArray) (L : List UInt8) (hs : s = ⟨L.toArray⟩) (i k : Nat) : (s.get! (i + k)).toNat = byte (L.drop i) k := by
  subst hs
  unfold byte
  have e : (ByteArray.mk L.toArray).get! (i + k) = L.getD (i + k) 0 := by
    show (L.toArray)[i + k]! = _
    simp [List.getD, getElem!_def]
    rfl
  rw [e]
  simp [List.getD]
theorem decode_dec (L : List UInt8) (i : Nat) : Utf8.decode ⟨L.toArray⟩ i = dec (L.drop i) := by
  rw [decode_at]
  unfold dec
  have hsz : (ByteArray.mk L.toArray).size = L.length := by simp [ByteArray.size]
  rw [hsz, List.length_drop]
  have g := get_drop ⟨L.toArray⟩ L rfl i
  have g0 := g 0
  rw [Nat.add_zero] at g0
  rw [g0, g 1, g 2, g 3]
theorem count_enc (l : List Int) : ∀ (pre : List UInt8) (fuel : Nat), (encZs l).length ≤ fuel → runeCountFrom ⟨(pre ++ encZs l).toArray⟩ fuel pre.length = l.length := by
  induction l with
  | nil =>
    intro pre fuel _
    rw [runeCountFrom_end _ _ _ (by simp [encZs, ByteArray.size])]
    rfl
  | cons r t ih =>
    intro pre fuel hf
    rw [encZs_cons, List.length_append] at hf
    have hp := enc_pos r
    obtain ⟨f, rfl⟩ : ∃ f, fuel = f + 1 := ⟨fuel - 1, by omega⟩
    have hd := decode_dec (pre ++ encZs (r :: t)) pre.length
    rw [List.drop_left, encZs_cons] at hd
    have hw := congrArg Prod.snd hd
    rw [dec_any] at hw
    unfold runeCountFrom
    rw [encZs_cons, if_pos (by simp [ByteArray.size]; omega), hw]
    have := ih (pre ++ enc r) f (by omega)
    rw [List.append_assoc, List.length_append] at this
    rw [this, List.length_cons, Nat.add_comm]
theorem count_all (l : List Int) : runeCount ⟨(encZs l).toArray⟩ = l.length := by
  have := count_enc l [] (encZs l).length (Nat.le_refl _)
  unfold runeCount
  have hsz : (ByteArray.mk (encZs l).toArray).size = (encZs l).length := by simp [ByteArray.size]
  rw [hsz]
  exact this
end Go.Proofs.Ytehofomfblfhaaa.M
