/- The page's Wide of any text. -/
import Derived.Test.YtehofomfblfhaaaTRef2
import Derived.Deep.DeepCutAuto
namespace Go.Proofs.Ytehofomfblfhaaa
open Go.RowKit
set_option linter.unusedVariables false
set_option linter.unusedSimpArgs false

theorem bytes_toListT (l : List UInt8) : (bytes l).data.toList = l := by simp [bytes]
theorem count_in (l : List UInt8) (i c : Nat) (hi : i < l.length) (hc : c ≤ i) : c + Lib.runeCountFrom (bytes l) (l.length - c) i = (c + 1) + Lib.runeCountFrom (bytes l) (l.length - (c + 1)) (i + (M.dec (l.drop i)).2) := by
  have e : l.length - c = (l.length - (c + 1)) + 1 := by omega
  have hd := congrArg Prod.snd (M.decode_dec l i)
  rw [e]
  conv => lhs; unfold Lib.runeCountFrom
  rw [if_pos (by rw [bytes_size]; exact hi), show Utf8.decode (bytes l) i = Utf8.decode ⟨l.toArray⟩ i from rfl, hd]
  omega
theorem count_out (l : List UInt8) (f : Nat) : Lib.runeCountFrom (bytes l) f l.length = 0 := Lib.runeCountFrom_end _ _ _ (by rw [bytes_size]; omega)
set_option maxRecDepth 100000 in
set_option maxHeartbeats 4000000 in
theorem refwide_any (l : List UInt8) (T : Nat) (w : World) (hl : l.length ≤ 1000000) (hT : Lib.runeCount (bytes l) = T) :
    Calls Try.prog 22 #[.string (bytes l)] w fun e w' => e = .returned (.int .i64 (T : Int)) ∧ Below w.heap.size w w' := by
  have hsz0 : (bytes l).size = l.length := bytes_size l
  have H0 := Lib.hid (show 0 + Lib.runeCountFrom (bytes l) (l.length - 0) 0 = T by rw [← hT]; unfold Lib.runeCount; rw [hsz0]; simp)
  obtain ⟨n, hn⟩ : ∃ n, l.length = n := ⟨_, rfl⟩
  have hcv := bw_conv w (bytes l)
  have hbs := bw_bs w (bytes l) (by rw [hsz0]; omega)
  have hbb := bw_below w (bytes l)
  rw [bytes_toListT] at hbs
  rw [hsz0] at hcv hbs
  rw [hn] at hcv hbs hl
  obtain ⟨W1, hW1⟩ : ∃ W1, Lib.bytesWorld w 5 (bytes l) = W1 := ⟨_, rfl⟩
  rw [hW1] at hcv hbs hbb
  obtain ⟨cap, hcap⟩ : ∃ W1, grownCap w n 0 5 = W1 := ⟨_, rfl⟩
  rw [hcap] at hcv hbs
  have Hn := Lib.hid hn
  have Hbs := Lib.hid hbs
  have Hbb := Lib.hid hbb
  have HC := Lib.hid (fun i c (h : i < l.length) (hc : c ≤ i) => count_in l i c h hc)
  have HO := Lib.hid (fun f => count_out l f)
  obtain ⟨S, hS⟩ : ∃ S, bytes l = S := ⟨_, rfl⟩
  rw [hS] at hcv H0 HC HO ⊢
  have hz := hbb.size
  clear hn hbs hbb hW1 hcap hsz0 hS hT
  go_enter Try.func22, Try.ntmps22
  go_wp2
  go_loopw [3, 5] (fun cv iv wr => ∃ (i c : Nat), iv = .int .i64 i ∧ cv = .int .i64 c ∧ i ≤ n ∧ c ≤ i ∧ c + Lib.runeCountFrom S (l.length - c) i = T ∧ Below W1.heap.size W1 wr) (fun _ iv _ => n - (intOf iv).toNat)
  case atStart => exact ⟨0, 0, rfl, rfl, by omega, by omega, H0.out, Below.refl _ _⟩
  case round =>
    obtain ⟨i, c, rfl, rfl, hi, hci, hrc, hb⟩ := hrel
    have hsz := hb.size
    by_cases hlt : i < n
    · have hil : i < l.length := by rw [Hn.out]; exact hlt
      obtain ⟨ok, hnx⟩ := M.next_dec l i hil
      have N1 := refnext_any _ l i _ wr (Hbs.out.keep hb) (by rw [Hn.out]; omega) hnx
      unfold tri at N1
      dsimp only at N1
      have hw := M.dec_width (l.drop i)
      have hle := M.dec_le (l.drop i) (by simp; omega)
      rw [List.length_drop, Hn.out] at hle
      rw [HC.out i c hil hci] at hrc
      obtain ⟨D, hD⟩ : ∃ D, (M.dec (l.drop i)).1 = D := ⟨_, rfl⟩
      obtain ⟨K, hK⟩ : ∃ D, (M.dec (l.drop i)).2 = D := ⟨_, rfl⟩
      rw [hD, hK] at N1
      rw [hK] at hw hle hrc
      have HR := Lib.hid hrc
      have HBX := Lib.hid hb
      have HN := Lib.hid (fun (_ : Unit) => N1)
      have i0 : (0 : Int) ≤ i := by omega
      have i1 : (i : Int) < n := by omega
      have c0 : (0 : Int) ≤ c := by omega
      have c1 : (c : Int) ≤ 1000000 := by omega
      have k0 : (1 : Int) ≤ K := by omega
      have k1 : (K : Int) ≤ 4 := by omega
      clear hrc hb hnx hD hK N1 hil
      as_aux_lemma =>
        go_wp2_with fail
        refine (HN.out ()).mono ?_
        rintro e w' ⟨rfl, rfl⟩
        go_wp2
        go_roundw
        case rel => exact ⟨i + K, c + 1, by go_num, by go_num, by omega, by omega, HR.out, HBX.out⟩
        case measure => simp [intOf]; omega
    · obtain rfl : i = n := by omega
      have t1 : decide ((i : Int) < i) = false := by simp
      have hfin : c = T := by have h := HO.out (l.length - c); rw [Hn.out] at h hrc; rw [h] at hrc; simpa using hrc
      subst hfin
      have HBX := Lib.hid (Hbb.out.trans (hb.mono Hbb.out.size))
      clear hlt hrc hb
      as_aux_lemma =>
        go_wp2
        go_ret
        exact ⟨rfl, HBX.out⟩
end Go.Proofs.Ytehofomfblfhaaa
