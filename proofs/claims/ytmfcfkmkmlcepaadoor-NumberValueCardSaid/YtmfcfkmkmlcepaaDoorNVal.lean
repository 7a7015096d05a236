/- The walk of NumberValue: its texts. -/
import Derived.Test.YtmfcfkmkmlcepaaDoorNAlive
import Derived.Test.YtmfcfkmkmlcepaaDoorDDec2
namespace Go.Proofs.YtmfcfkmkmlcepaaDoor
open Go.RowKit
set_option linter.unusedVariables false
set_option linter.unusedSimpArgs false

/-- The text that the law makes. -/
def valT (a : Nat) (x : Int) (p : Bool) : List UInt8 :=
  if p then (List.replicate (7 - (M.decS a).length) 48 ++ M.decS a).take ((List.replicate (7 - (M.decS a).length) 48 ++ M.decS a).length - 3) ++ (46 :: (List.replicate (7 - (M.decS a).length) 48 ++ M.decS a).drop ((List.replicate (7 - (M.decS a).length) 48 ++ M.decS a).length - 3) ++ 101 :: M.txt (x + 3))
  else M.decS a ++ 69 :: M.txt x
theorem valT_read (a : Nat) (x : Int) (p : Bool) : M.readN (valT a x p) = ((false, M.nz a x), true) := by
  unfold valT
  cases p with
  | false => exact M.value_n a x
  | true =>
    simp only [if_true]
    obtain ⟨S, hS⟩ : ∃ S, List.replicate (7 - (M.decS a).length) 48 ++ M.decS a = S := ⟨_, rfl⟩
    rw [hS]
    have hl := congrArg List.length hS
    rw [List.length_append, List.length_replicate] at hl
    exact M.value_p a (7 - (M.decS a).length) (S.length - 3) x S hS.symm (by omega)
theorem txt_small (x : Int) (h1 : -100 ≤ x) (h2 : x ≤ 100) : (M.txt x).length ≤ 4 := by
  have := M.txt_len x 3 (by omega) (by omega); omega
theorem valT_len (a : Nat) (x : Int) (p : Bool) (ha : a ≤ 99999) (h1 : -10 ≤ x) (h2 : x ≤ 10) : (valT a x p).length ≤ 40 := by
  have h3 := M.decS_len a 4 (by omega)
  have h4 := txt_small x (by omega) (by omega)
  have h5 := txt_small (x + 3) (by omega) (by omega)
  unfold valT
  split
  · simp only [List.length_append, List.length_take, List.length_drop, List.length_cons, List.length_replicate]; omega
  · simp only [List.length_append, List.length_cons]; omega
set_option maxRecDepth 100000 in
set_option maxHeartbeats 4000000 in
theorem text_any (a : Nat) (x : Int) (p : Bool) (w : World) (ha : a ≤ 99999) (h1 : -10 ≤ x) (h2 : x ≤ 10) :
    Calls Tryd.prog 13 #[.int .i64 a, .int .i64 x, .bool p] w fun e w' => e = .returned (.string (bytes (valT a x p))) ∧ ∃ n, w' = w.drewN n := by
  have h3 := M.decS_len a 4 (by omega)
  have hp := List.length_pos_iff.2 (M.decS_ne a)
  have D1 := Lib.hid (fun w => refdec_any (a : Int) w (by omega) (by omega))
  rw [M.txt_nat] at D1
  have h4 := txt_small x (by omega) (by omega)
  have h5 := txt_small (x + 3) (by omega) (by omega)
  cases p with
  | false =>
    have D2 := Lib.hid (fun w => refdec_any x w (by omega) (by omega))
    have a1 := cat_run (M.decS a) [69] _ rfl (by omega) (by simp)
    have a2 := cat_run (M.decS a ++ [69]) (M.txt x) (valT a x false) (by unfold valT; simp) (by simp; omega) (by omega)
    rw [show bytes [69] = (⟨#[69]⟩ : ByteArray) from rfl] at a1
    obtain ⟨SA, hSA⟩ : ∃ S, bytes (M.decS a) = S := ⟨_, rfl⟩
    obtain ⟨SB, hSB⟩ : ∃ S, bytes (M.decS a ++ [69]) = S := ⟨_, rfl⟩
    obtain ⟨SX, hSX⟩ : ∃ S, bytes (M.txt x) = S := ⟨_, rfl⟩
    obtain ⟨SR, hSR⟩ : ∃ S, bytes (valT a x false) = S := ⟨_, rfl⟩
    rw [hSA, hSB] at a1
    rw [hSB, hSX, hSR] at a2
    rw [hSA] at D1
    rw [hSX] at D2
    rw [hSR]
    clear hSA hSB hSX hSR h3 h4 h5 hp
    go_enter Tryd.func13, Tryd.ntmps13
    go_wp2_with fail
    refine (D1.out _).mono ?_
    rintro e w' ⟨rfl, rfl⟩
    go_wp2_with fail
    refine (D2.out _).mono ?_
    rintro e w' ⟨rfl, rfl⟩
    go_wp2
    go_ret
    exact ⟨rfl, 0, rfl⟩
  | true =>
    have D2 := Lib.hid (fun w => refdec_any (x + 3) w (by omega) (by omega))
    obtain ⟨L, hL⟩ : ∃ L, (M.decS a).length = L := ⟨_, rfl⟩
    obtain ⟨S, hS⟩ : ∃ S, List.replicate (7 - L) 48 ++ M.decS a = S := ⟨_, rfl⟩
    have hl := congrArg List.length hS
    rw [List.length_append, List.length_replicate, hL] at hl
    rw [hL] at h3 hp
    have hl7 : S.length = 7 := by omega
    have hval : valT a x true = S.take 4 ++ (46 :: S.drop 4 ++ 101 :: M.txt (x + 3)) := by unfold valT; simp only [if_true, hL, hS, hl7]
    have e1 := ext_to S 4
    have e2 := ext_from S 4
    have a1 := cat_run (S.take 4) [46] _ rfl (by simp; omega) (by simp)
    have a2 := cat_run (S.take 4 ++ [46]) (S.drop 4) _ rfl (by simp; omega) (by simp; omega)
    have a3 := cat_run (S.take 4 ++ [46] ++ S.drop 4) [101] _ rfl (by simp; omega) (by simp)
    have a4 := cat_run (S.take 4 ++ [46] ++ S.drop 4 ++ [101]) (M.txt (x + 3)) (valT a x true) (by rw [hval]; simp) (by simp; omega) (by omega)
    rw [show bytes [46] = (⟨#[46]⟩ : ByteArray) from rfl] at a1
    rw [show bytes [101] = (⟨#[101]⟩ : ByteArray) from rfl] at a3
    rw [← e1] at a1
    rw [← e2, hl7] at a2
    have hpad : ∀ k, k < 7 - L → ∀ W : World, (Op.stringOp .add (⟨#[48]⟩ : ByteArray) (bytes (List.replicate k 48 ++ M.decS a))).run Tryd.prog W = .ok (.string (bytes (List.replicate (k + 1) 48 ++ M.decS a))) W := fun k hk => by
      have := cat_run [48] (List.replicate k 48 ++ M.decS a) (List.replicate (k + 1) 48 ++ M.decS a) (by rw [List.replicate_succ]; rfl) (by simp) (by simp; omega)
      rwa [show bytes [48] = (⟨#[48]⟩ : ByteArray) from rfl] at this
    have hsz : ∀ k, (bytes (List.replicate k 48 ++ M.decS a)).size = k + L := fun k => by rw [bytes_size]; simp [hL]
    have hz := bytes_size S
    rw [hl7] at hz
    obtain ⟨SS, hSS⟩ : ∃ T, bytes S = T := ⟨_, rfl⟩
    obtain ⟨S1, hS1⟩ : ∃ T, bytes (S.take 4 ++ [46]) = T := ⟨_, rfl⟩
    obtain ⟨S2, hS2⟩ : ∃ T, bytes (S.take 4 ++ [46] ++ S.drop 4) = T := ⟨_, rfl⟩
    obtain ⟨S3, hS3⟩ : ∃ T, bytes (S.take 4 ++ [46] ++ S.drop 4 ++ [101]) = T := ⟨_, rfl⟩
    obtain ⟨SX, hSX⟩ : ∃ T, bytes (M.txt (x + 3)) = T := ⟨_, rfl⟩
    obtain ⟨SR, hSR⟩ : ∃ T, bytes (valT a x true) = T := ⟨_, rfl⟩
    rw [hSS, hS1] at a1
    rw [hS1, hSS, hS2] at a2
    rw [hS2, hS3] at a3
    rw [hS3, hSX, hSR] at a4
    rw [hSX] at D2
    rw [hSR]
    rw [hSS] at hz
    have HP := Lib.hid hpad
    have HZ := Lib.hid hsz
    have HS := Lib.hid (show bytes (List.replicate (7 - L) 48 ++ M.decS a) = SS by rw [hS, hSS])
    have D0 : Hid (bytes (M.decS a) = bytes (List.replicate 0 48 ++ M.decS a)) := Lib.hid rfl
    have z1 : (SS.size : Int) - 3 = 4 := by omega
    have HZ1 := Lib.hid z1
    have Hz := Lib.hid hz
    clear hS hl hval e1 e2 hpad hsz hSS hS1 hS2 hS3 hSX hSR h4 h5 z1 hz hl7
    go_enter Tryd.func13, Tryd.ntmps13
    go_wp2_with fail
    refine (D1.out _).mono ?_
    rintro e w' ⟨rfl, rfl⟩
    rw [D0.out]
    go_wp2_with fail
    go_loop [7] (fun sv => ∃ k : Nat, k ≤ 7 - L ∧ sv = .string (bytes (List.replicate k 48 ++ M.decS a))) (fun sv => 7 - (match sv with | .string s => s.size | _ => 0))
    case atStart => exact ⟨0, by omega, rfl⟩
    case round =>
      obtain ⟨k, hk, rfl⟩ := hrel
      have hzk := HZ.out k
      have hzk2 := HZ.out (k + 1)
      by_cases hlt : k < 7 - L
      · have hadd := HP.out k hlt
        obtain ⟨T, hT⟩ : ∃ T, bytes (List.replicate k 48 ++ M.decS a) = T := ⟨_, rfl⟩
        obtain ⟨T2, hT2⟩ : ∃ T, bytes (List.replicate (k + 1) 48 ++ M.decS a) = T := ⟨_, rfl⟩
        rw [hT, hT2] at hadd
        rw [hT] at hzk ⊢
        rw [hT2] at hzk2
        have q : (T.size : Int) < 7 := by omega
        have HT2 := Lib.hid hT2
        have HZK := Lib.hid hzk
        have HZK2 := Lib.hid hzk2
        clear hT hT2 hzk hzk2
        go_wp2
        go_round
        case rel => exact ⟨k + 1, by omega, by rw [HT2.out]⟩
        case measure => have := HZK.out; have := HZK2.out; simp; omega
      · obtain rfl : k = 7 - L := by omega
        rw [HS.out] at hzk ⊢
        have hz := Hz.out
        clear hlt hk hzk hzk2
        go_wp2_with fail
        go_quiet ((go_at_call 12; exact Calls.quiet_of_same ((D2.out _).mono fun _ _ h => ⟨h.1, h.2.symm⟩)))
        go_wp2
        go_ret
        exact ⟨rfl, by first | exact ⟨_, rfl⟩ | exact ⟨0, rfl⟩⟩
end Go.Proofs.YtmfcfkmkmlcepaaDoor
