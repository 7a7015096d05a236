/- The walk of NumberShift. -/
import Derived.Test.YtmfcfkmkmlcepaaDoorNAlive
import Derived.Test.YtmfcfkmkmlcepaaDoorDDec2
import Derived.Test.YtmfcfkmkmlcepaaDoorIBase
namespace Go.Proofs.YtmfcfkmkmlcepaaDoor
open Go.RowKit
set_option linter.unusedVariables false
set_option linter.unusedSimpArgs false

theorem and1023_any (z : Int) : ∃ a : Nat, bits .and .i64 z 1023 = (a : Int) ∧ a < 1024 := by
  refine ⟨(BitVec.ofInt 64 z &&& BitVec.ofInt 64 1023).toNat, ?_, ?_⟩
  · have h : (BitVec.ofInt 64 z &&& BitVec.ofInt 64 1023).toNat ≤ 1023 := by
      rw [BitVec.toNat_and]
      exact Nat.le_trans Nat.and_le_right (by decide)
    show IntKind.i64.wrap ((BitVec.ofInt 64 z &&& BitVec.ofInt 64 1023).toNat : Int) = _
    rw [IntKind.wrap_i64]
    omega
  · rw [BitVec.toNat_and]
    exact Nat.lt_of_le_of_lt Nat.and_le_right (by decide)
/-- The digit that a number picks. -/
noncomputable def dgA (z : Int) : Nat := (and1023_any z).choose
theorem dgA_ok (z : Int) : bits .and .i64 z 1023 = (dgA z : Int) ∧ dgA z < 1024 := (and1023_any z).choose_spec
noncomputable def dgS (l : List Int) : List UInt8 := l.map fun z => M.ofD (dgA z)
theorem dgS_dig (l : List Int) : ∀ c ∈ dgS l, M.dig c = true := by
  intro c hc; simp only [dgS, List.mem_map] at hc; obtain ⟨z, _, rfl⟩ := hc; exact M.ofD_dig _
theorem dgS_len (l : List Int) : (dgS l).length = l.length := by simp [dgS]
theorem dgS_step (l : List Int) (k : Nat) (hk : k < l.length) : dgS (l.take (k + 1)) = dgS (l.take k) ++ [M.ofD (dgA l[k])] := by
  rw [List.take_succ_eq_append_getElem hk]; unfold dgS; rw [List.map_append]; rfl
theorem box_new {w W : World} {c0 c1 c2 : Value} {T : TypeId} (h : w.alloc (.cells #[c0, c1, c2] T) = W) : Below w.heap.size w W ∧ W.heap.size = w.heap.size + 1 ∧ Box w.heap.size c0 c1 c2 W := by
  subst h
  exact ⟨(Below.refl _ _).alloc (Nat.le_refl _) _, by simp, by rw [World.cell?_alloc_at _ _ _ _ rfl]; rfl, by rw [World.cell?_alloc_at _ _ _ _ rfl]; rfl, by rw [World.cell?_alloc_at _ _ _ _ rfl]; rfl⟩
theorem txt_lenS (z : Int) (h1 : -100000 ≤ z) (h2 : z ≤ 100000) : (M.txt z).length ≤ 10 := by
  have := M.txt_len z 9 (by omega) (by omega); omega
theorem zeros30 (m : Nat) (h : m ≤ 30) : (ByteArray.mk #[48, 48, 48, 48, 48, 48, 48, 48, 48, 48, 48, 48, 48, 48, 48, 48, 48, 48, 48, 48, 48, 48, 48, 48, 48, 48, 48, 48, 48, 48]).extract 0 m = bytes (List.replicate m 48) := by
  have e := ext_to (List.replicate 30 48) m
  rw [List.take_replicate, Nat.min_eq_left h] at e
  exact e
set_option maxRecDepth 100000 in
set_option maxHeartbeats 16000000 in
theorem nshift_walk (a0 : Option Addr) (len0 cap0 : Nat) (x mv : Int) (ng : Bool) (zs : List Int) (w : World) (hz : zs.length = len0) (b0 : Is w (.slice a0 len0 cap0) zs) (n0 : NN (.slice a0 len0 cap0)) (m1 : (Lit.int .i64 x).wf = true) (m2 : (Lit.int .i64 mv).wf = true) (hT : Tabs w) :
    Calls Tryd.prog 4 #[.slice a0 len0 cap0, .int .i64 x, .int .i64 mv, .bool ng] w fun e w' => e = .returned (.bool true) ∧ Below w.heap.size w w' := by
  have al := Lib.hid (alive_any w hT)
  have HT := Lib.hid hT
  clear hT m1 m2 n0
  have hway : ((len0 < 1) ∨ (1 ≤ len0 ∧ 40 < len0) ∨ (1 ≤ len0 ∧ len0 ≤ 40 ∧ x < -1000) ∨ (1 ≤ len0 ∧ len0 ≤ 40 ∧ -1000 ≤ x ∧ 1000 < x) ∨ (1 ≤ len0 ∧ len0 ≤ 40 ∧ -1000 ≤ x ∧ x ≤ 1000 ∧ mv < 0) ∨ (1 ≤ len0 ∧ len0 ≤ 40 ∧ -1000 ≤ x ∧ x ≤ 1000 ∧ 0 ≤ mv ∧ 30 < mv)) ∨ (1 ≤ len0 ∧ len0 ≤ 40 ∧ -1000 ≤ x ∧ x ≤ 1000 ∧ 0 ≤ mv ∧ mv ≤ 30) := by omega
  rcases hway with hout | ⟨c1, c2, c3, c4, c5, c6⟩
  · clear hz b0
    rcases hout with c1 | ⟨c1, c2⟩ | ⟨c1, c2, c3⟩ | ⟨c1, c2, c3, c4⟩ | ⟨c1, c2, c3, c4, c5⟩ | ⟨c1, c2, c3, c4, c5, c6⟩
    · obtain rfl : len0 = 0 := by omega
      go_enter Tryd.func4, Tryd.ntmps4
      go_wp2_with fail
      refine al.out.mono ?_
      rintro e w1 ⟨rfl, hb⟩
      go_wp2
      go_ret
      exact ⟨rfl, hb⟩
    all_goals
      have t1 : ¬ (len0 : Int) < 1 := by omega
      first | (have t2 : (40 : Int) < len0 := by omega) | (have t2 : ¬ (40 : Int) < len0 := by omega)
      go_enter Tryd.func4, Tryd.ntmps4
      go_wp2_with fail
      refine al.out.mono ?_
      rintro e w1 ⟨rfl, hb⟩
      go_wp2
      go_ret
      exact ⟨rfl, hb⟩
  obtain ⟨m, rfl⟩ : ∃ n : Nat, mv = n := ⟨mv.toNat, by omega⟩
  have hm : m ≤ 30 := by omega
  obtain ⟨L, hL⟩ : ∃ L, dgS zs = L := ⟨_, rfl⟩
  have hLd : ∀ c ∈ L, M.dig c = true := by rw [← hL]; exact dgS_dig zs
  have hLl : L.length = len0 := by rw [← hL, dgS_len, hz]
  have hL0 : L ≠ [] := by intro h; rw [h] at hLl; simp at hLl; omega
  obtain ⟨sg, hsg⟩ : ∃ sg, M.sgl ng = sg := ⟨_, rfl⟩
  have lsg : sg.length ≤ 1 := by rw [← hsg, M.sgl_len]; split <;> simp
  obtain ⟨SG, hSG⟩ : ∃ S, bytes sg = S := ⟨_, rfl⟩
  have hngs : (ng = false ∧ SG = ⟨#[]⟩) ∨ (ng = true ∧ SG = ⟨#[45]⟩) := by
    rw [← hSG, ← hsg]; cases ng <;> simp [M.sgl, bytes]
  obtain ⟨Z, hZ⟩ : ∃ Z, List.replicate m (48 : UInt8) = Z := ⟨_, rfl⟩
  have hZl : Z.length = m := by rw [← hZ]; simp
  have e1 := txt_lenS x (by omega) (by omega)
  have e2 := txt_lenS (x - m) (by omega) (by omega)
  have e3 := txt_lenS (x + m + len0) (by omega) (by omega)
  have r1 := M.shift_a ng L x hLd hL0
  have r2 := M.shift_b ng L x m hLd hL0
  have r3 := M.shift_c ng L x m hLd
  have r4 := M.shift_d ng L x m hLd hL0
  rw [hLl] at r4
  rw [hsg] at r1 r2 r3 r4
  rw [hZ] at r2 r3 r4
  obtain ⟨⟨D, E⟩, hnz⟩ : ∃ r, M.nz (M.dval L) x = r := ⟨_, rfl⟩
  rw [hnz] at r1 r2 r3 r4
  have cA0 := cat_run (sg) L _ rfl (by first | omega | (simp only [List.length_append, List.length_cons, List.length_nil]; omega)) (by first | omega | (simp only [List.length_append, List.length_cons, List.length_nil]; omega))
  have cA1 := cat_run (sg ++ L) [101] _ rfl (by first | omega | (simp only [List.length_append, List.length_cons, List.length_nil]; omega)) (by first | omega | (simp only [List.length_append, List.length_cons, List.length_nil]; omega))
  have cA2 := cat_run (sg ++ L ++ [101]) (M.txt x) _ rfl (by first | omega | (simp only [List.length_append, List.length_cons, List.length_nil]; omega)) (by first | omega | (simp only [List.length_append, List.length_cons, List.length_nil]; omega))
  have cB0 := cat_run (sg) L _ rfl (by first | omega | (simp only [List.length_append, List.length_cons, List.length_nil]; omega)) (by first | omega | (simp only [List.length_append, List.length_cons, List.length_nil]; omega))
  have cB1 := cat_run (sg ++ L) Z _ rfl (by first | omega | (simp only [List.length_append, List.length_cons, List.length_nil]; omega)) (by first | omega | (simp only [List.length_append, List.length_cons, List.length_nil]; omega))
  have cB2 := cat_run (sg ++ L ++ Z) [69] _ rfl (by first | omega | (simp only [List.length_append, List.length_cons, List.length_nil]; omega)) (by first | omega | (simp only [List.length_append, List.length_cons, List.length_nil]; omega))
  have cB3 := cat_run (sg ++ L ++ Z ++ [69]) (M.txt (x - m)) _ rfl (by first | omega | (simp only [List.length_append, List.length_cons, List.length_nil]; omega)) (by first | omega | (simp only [List.length_append, List.length_cons, List.length_nil]; omega))
  have cC0 := cat_run (sg) [48, 48] _ rfl (by first | omega | (simp only [List.length_append, List.length_cons, List.length_nil]; omega)) (by first | omega | (simp only [List.length_append, List.length_cons, List.length_nil]; omega))
  have cC1 := cat_run (sg ++ [48, 48]) L _ rfl (by first | omega | (simp only [List.length_append, List.length_cons, List.length_nil]; omega)) (by first | omega | (simp only [List.length_append, List.length_cons, List.length_nil]; omega))
  have cC2 := cat_run (sg ++ [48, 48] ++ L) [46] _ rfl (by first | omega | (simp only [List.length_append, List.length_cons, List.length_nil]; omega)) (by first | omega | (simp only [List.length_append, List.length_cons, List.length_nil]; omega))
  have cC3 := cat_run (sg ++ [48, 48] ++ L ++ [46]) Z _ rfl (by first | omega | (simp only [List.length_append, List.length_cons, List.length_nil]; omega)) (by first | omega | (simp only [List.length_append, List.length_cons, List.length_nil]; omega))
  have cC4 := cat_run (sg ++ [48, 48] ++ L ++ [46] ++ Z) [48, 101] _ rfl (by first | omega | (simp only [List.length_append, List.length_cons, List.length_nil]; omega)) (by first | omega | (simp only [List.length_append, List.length_cons, List.length_nil]; omega))
  have cC5 := cat_run (sg ++ [48, 48] ++ L ++ [46] ++ Z ++ [48, 101]) (M.txt x) _ rfl (by first | omega | (simp only [List.length_append, List.length_cons, List.length_nil]; omega)) (by first | omega | (simp only [List.length_append, List.length_cons, List.length_nil]; omega))
  have cD0 := cat_run (sg) [46] _ rfl (by first | omega | (simp only [List.length_append, List.length_cons, List.length_nil]; omega)) (by first | omega | (simp only [List.length_append, List.length_cons, List.length_nil]; omega))
  have cD1 := cat_run (sg ++ [46]) Z _ rfl (by first | omega | (simp only [List.length_append, List.length_cons, List.length_nil]; omega)) (by first | omega | (simp only [List.length_append, List.length_cons, List.length_nil]; omega))
  have cD2 := cat_run (sg ++ [46] ++ Z) L _ rfl (by first | omega | (simp only [List.length_append, List.length_cons, List.length_nil]; omega)) (by first | omega | (simp only [List.length_append, List.length_cons, List.length_nil]; omega))
  have cD3 := cat_run (sg ++ [46] ++ Z ++ L) [101] _ rfl (by first | omega | (simp only [List.length_append, List.length_cons, List.length_nil]; omega)) (by first | omega | (simp only [List.length_append, List.length_cons, List.length_nil]; omega))
  have cD4 := cat_run (sg ++ [46] ++ Z ++ L ++ [101]) (M.txt (x + m + len0)) _ rfl (by first | omega | (simp only [List.length_append, List.length_cons, List.length_nil]; omega)) (by first | omega | (simp only [List.length_append, List.length_cons, List.length_nil]; omega))
  have D1 := Lib.hid (fun w => refdec_any x w (by omega) (by omega))
  have D2 := Lib.hid (fun w => refdec_any (x - m) w (by omega) (by omega))
  have D3 := Lib.hid (fun w => refdec_any (x + m + len0) w (by omega) (by omega))
  have R1 := Lib.hid (fun w hw => read_any (sg ++ L ++ [101] ++ (M.txt x)) (ng, D, E) true w hw (by simp only [List.length_append, List.length_cons, List.length_nil]; omega) (show M.readN (sg ++ L ++ [101] ++ (M.txt x)) = _ by rw [← r1]; congr 1; simp))
  have R2 := Lib.hid (fun w hw => read_any (sg ++ L ++ Z ++ [69] ++ (M.txt (x - m))) (ng, D, E) true w hw (by simp only [List.length_append, List.length_cons, List.length_nil]; omega) (show M.readN (sg ++ L ++ Z ++ [69] ++ (M.txt (x - m))) = _ by rw [← r2]; congr 1; simp))
  have R3 := Lib.hid (fun w hw => read_any (sg ++ [48, 48] ++ L ++ [46] ++ Z ++ [48, 101] ++ (M.txt x)) (ng, D, E) true w hw (by simp only [List.length_append, List.length_cons, List.length_nil]; omega) (show M.readN (sg ++ [48, 48] ++ L ++ [46] ++ Z ++ [48, 101] ++ (M.txt x)) = _ by rw [← r3]; congr 1; simp))
  have R4 := Lib.hid (fun w hw => read_any (sg ++ [46] ++ Z ++ L ++ [101] ++ (M.txt (x + m + len0))) (ng, D, E) true w hw (by simp only [List.length_append, List.length_cons, List.length_nil]; omega) (show M.readN (sg ++ [46] ++ Z ++ L ++ [101] ++ (M.txt (x + m + len0))) = _ by rw [← r4]; congr 1; simp))
  unfold numV at R1 R2 R3 R4
  simp only at R1 R2 R3 R4
  obtain ⟨S12, hS12⟩ : ∃ S, bytes (sg ++ [48, 48] ++ L ++ [46] ++ Z ++ [48, 101] ++ (M.txt x)) = S := ⟨_, rfl⟩
  obtain ⟨S17, hS17⟩ : ∃ S, bytes (sg ++ [46] ++ Z ++ L ++ [101] ++ (M.txt (x + m + len0))) = S := ⟨_, rfl⟩
  obtain ⟨S11, hS11⟩ : ∃ S, bytes (sg ++ [48, 48] ++ L ++ [46] ++ Z ++ [48, 101]) = S := ⟨_, rfl⟩
  obtain ⟨S6, hS6⟩ : ∃ S, bytes (sg ++ L ++ Z ++ [69] ++ (M.txt (x - m))) = S := ⟨_, rfl⟩
  obtain ⟨S10, hS10⟩ : ∃ S, bytes (sg ++ [48, 48] ++ L ++ [46] ++ Z) = S := ⟨_, rfl⟩
  obtain ⟨S3, hS3⟩ : ∃ S, bytes (sg ++ L ++ [101] ++ (M.txt x)) = S := ⟨_, rfl⟩
  obtain ⟨S16, hS16⟩ : ∃ S, bytes (sg ++ [46] ++ Z ++ L ++ [101]) = S := ⟨_, rfl⟩
  obtain ⟨S9, hS9⟩ : ∃ S, bytes (sg ++ [48, 48] ++ L ++ [46]) = S := ⟨_, rfl⟩
  obtain ⟨S5, hS5⟩ : ∃ S, bytes (sg ++ L ++ Z ++ [69]) = S := ⟨_, rfl⟩
  obtain ⟨S15, hS15⟩ : ∃ S, bytes (sg ++ [46] ++ Z ++ L) = S := ⟨_, rfl⟩
  obtain ⟨S8, hS8⟩ : ∃ S, bytes (sg ++ [48, 48] ++ L) = S := ⟨_, rfl⟩
  obtain ⟨S2, hS2⟩ : ∃ S, bytes (sg ++ L ++ [101]) = S := ⟨_, rfl⟩
  obtain ⟨S14, hS14⟩ : ∃ S, bytes (sg ++ [46] ++ Z) = S := ⟨_, rfl⟩
  obtain ⟨S7, hS7⟩ : ∃ S, bytes (sg ++ [48, 48]) = S := ⟨_, rfl⟩
  obtain ⟨S4, hS4⟩ : ∃ S, bytes (sg ++ L ++ Z) = S := ⟨_, rfl⟩
  obtain ⟨S13, hS13⟩ : ∃ S, bytes (sg ++ [46]) = S := ⟨_, rfl⟩
  obtain ⟨S1, hS1⟩ : ∃ S, bytes (sg ++ L) = S := ⟨_, rfl⟩
  obtain ⟨T1, hT1⟩ : ∃ S, bytes (M.txt x) = S := ⟨_, rfl⟩
  obtain ⟨T2, hT2⟩ : ∃ S, bytes (M.txt (x - m)) = S := ⟨_, rfl⟩
  obtain ⟨T3, hT3⟩ : ∃ S, bytes (M.txt (x + m + len0)) = S := ⟨_, rfl⟩
  simp only [hS12, hS17, hS11, hS6, hS10, hS3, hS16, hS9, hS5, hS15, hS8, hS2, hS14, hS7, hS4, hS13, hS1, hT1, hT2, hT3, hSG, show bytes [101] = (⟨#[101]⟩ : ByteArray) from rfl, show bytes [69] = (⟨#[69]⟩ : ByteArray) from rfl, show bytes [48, 48] = (⟨#[48, 48]⟩ : ByteArray) from rfl, show bytes [46] = (⟨#[46]⟩ : ByteArray) from rfl, show bytes [48, 101] = (⟨#[48, 101]⟩ : ByteArray) from rfl] at cA0 cA1 cA2 cB0 cB1 cB2 cB3 cC0 cC1 cC2 cC3 cC4 cC5 cD0 cD1 cD2 cD3 cD4
  simp only [hS3] at R1
  simp only [hS6] at R2
  simp only [hS12] at R3
  simp only [hS17] at R4
  rw [hT1] at D1
  rw [hT2] at D2
  rw [hT3] at D3
  obtain ⟨SD, hSD⟩ : ∃ S, bytes D = S := ⟨_, rfl⟩
  obtain ⟨SE, hSE⟩ : ∃ S, bytes E = S := ⟨_, rfl⟩
  simp only [hSD, hSE] at R1 R2 R3 R4
  have hzr := zeros30 m hm
  rw [hZ] at hzr
  obtain ⟨SZ, hSZ⟩ : ∃ S, bytes Z = S := ⟨_, rfl⟩
  rw [hSZ] at hzr
  obtain ⟨SL, hSL⟩ : ∃ S, bytes L = S := ⟨_, rfl⟩
  have zL := bytes_size L
  rw [hSL, hLl] at zL
  simp only [hSZ, hSL] at cA0 cA1 cA2 cB0 cB1 cB2 cB3 cC0 cC1 cC2 cC3 cC4 cC5 cD0 cD1 cD2 cD3 cD4
  have HL := Lib.hid hL
  have HSL := Lib.hid hSL
  have HZS := Lib.hid hz
  have HB0 := Lib.hid b0
  have HZL := Lib.hid zL
  have s0 : SL.size ≤ 40 := by omega
  clear hS12 hS17 hS11 hS6 hS10 hS3 hS16 hS9 hS5 hS15 hS8 hS2 hS14 hS7 hS4 hS13 hS1 hT1 hT2 hT3 hSG hsg lsg hL hLd hLl hL0 hZ hZl e1 e2 e3 r1 r2 r3 r4 hnz hSD hSE hSZ hSL zL hz b0
  rcases hngs with ⟨rfl, rfl⟩ | ⟨rfl, rfl⟩
  · skip
    go_enter Tryd.func4, Tryd.ntmps4
    go_wp2_with fail
    refine al.out.mono ?_
    rintro e w1 ⟨rfl, hb1⟩
    obtain ⟨a', cap', hs', -, -, hcell⟩ := HB0.out.keep hb1
    obtain ⟨b, off, ha', hbb, hcl⟩ := hcell (by rw [HZS.out]; omega)
    simp only [Value.slice.injEq] at hs'
    obtain ⟨rfl, -, rfl⟩ := hs'
    subst ha'
    have HCL := Lib.hid hcl
    have HB1 := Lib.hid hb1
    clear hcell hcl hb1
    have t1 : ¬ (len0 : Int) < 1 := by omega
    have t2 : ¬ (40 : Int) < len0 := by omega
    go_wp2_with fail
    go_loop [10, 11, 12] (fun sv iv _ => ∃ k : Nat, iv = .int .i64 (k : Int) ∧ k ≤ len0 ∧ sv = .string (bytes (dgS (zs.take k)))) (fun _ iv _ => len0 - (intOf iv).toNat)
    case atStart => exact ⟨0, rfl, by omega, rfl⟩
    case round =>
      obtain ⟨k, rfl, hk, rfl⟩ := hrel
      by_cases hlt : k < len0
      · have hkl : k < zs.length := by rw [HZS.out]; exact hlt
        have hc1 := HCL.out k hkl
        have hst := dgS_step zs k hkl
        obtain ⟨z, hzz⟩ : ∃ z, zs[k] = z := ⟨_, rfl⟩
        rw [hzz] at hc1 hst
        obtain ⟨hA, hA9⟩ := dgA_ok z
        obtain ⟨A, hAe⟩ : ∃ A, dgA z = A := ⟨_, rfl⟩
        rw [hAe] at hA hA9 hst
        obtain ⟨d, hd⟩ : ∃ d, A % 10 = d := ⟨_, rfl⟩
        have hd10 : d < 10 := by omega
        have r1 : (A : Int) % 10 = (d : Int) := by omega
        have r2 : (A : Int).tmod 10 = (d : Int) := by rw [Int.tmod_eq_emod_of_nonneg (by omega)]; exact r1
        have hof : M.ofD A = M.ofD d := by unfold M.ofD; congr 1; omega
        have hcut := dig_cut d hd10 d (d + 1) rfl rfl
        have hln : (dgS (zs.take k)).length ≤ 40 := by rw [dgS_len, List.length_take]; omega
        have hadd := cat_run (dgS (zs.take k)) [M.ofD d] (dgS (zs.take (k + 1))) (by rw [hst, hof]) (by omega) (by simp)
        rw [← hcut] at hadd
        obtain ⟨P, hP⟩ : ∃ P, bytes (dgS (zs.take k)) = P := ⟨_, rfl⟩
        obtain ⟨N, hN⟩ : ∃ P, bytes (dgS (zs.take (k + 1))) = P := ⟨_, rfl⟩
        rw [hP, hN] at hadd
        rw [hP]
        have HN := Lib.hid hN
        have u1 : (d : Int) < 10 := by omega
        have u2 : (k : Int) < len0 := by omega
        have Hr1 := Lib.hid r1
        clear hst hzz hAe hd hof hcut hln hP hN hk hkl
        go_wp2
        go_round
        case rel => exact ⟨k + 1, by go_num, by omega, by rw [HN.out]⟩
        case measure => simp [intOf] <;> omega
      · obtain rfl : k = len0 := by omega
        have hfin : bytes (dgS (zs.take k)) = SL := by rw [← HZS.out, List.take_length, HL.out, HSL.out]
        rw [hfin]
        have u2 : ¬ (k : Int) < k := by omega
        have hb1 := HB1.out
        have zz := HZL.out
        clear hlt hk hfin HCL HB1 HB0 HZS
        go_wp2_with fail
        refine (D1.out _).mono ?_
        rintro e w' ⟨rfl, rfl⟩
        go_wp2_with fail
        refine (R1.out _ (HT.out.keep hb1)).mono ?_
        rintro e w2 ⟨rfl, hb2⟩
        have hb3 := hb1.trans (hb2.mono hb1.size)
        obtain ⟨W3, hW3⟩ : ∃ W, w2.alloc (.cells #[.bool false, .string SD, .string SE] 23) = W := ⟨_, rfl⟩
        obtain ⟨d3, z3, gA⟩ := box_new hW3
        have hb4 := hb3.trans (d3.mono hb3.size)
        have HW3 := Lib.hid hW3
        have GA := Lib.hid gA
        clear hb1 hb2 hb3 hW3 d3 gA
        go_wp2_with fail
        rw [HW3.out]
        clear HW3
        refine (D2.out _).mono ?_
        rintro e w' ⟨rfl, rfl⟩
        go_wp2_with fail
        refine (R2.out _ (HT.out.keep hb4)).mono ?_
        rintro e w4 ⟨rfl, hb5⟩
        have hb6 := hb4.trans (hb5.mono hb4.size)
        have gA4 := box_keep GA.out hb5 (by omega)
        have y4 := hb5.size
        obtain ⟨W5, hW5⟩ : ∃ W, w4.alloc (.cells #[.bool false, .string SD, .string SE] 23) = W := ⟨_, rfl⟩
        obtain ⟨d5, z5, gB⟩ := box_new hW5
        have gA5 := box_keep gA4 d5 (by omega)
        have hb7 := hb6.trans (d5.mono hb6.size)
        have HW5 := Lib.hid hW5
        have GA5 := Lib.hid gA5
        have GB := Lib.hid gB
        clear hb4 hb5 hb6 gA4 hW5 d5 gB gA5 GA
        go_wp2_with fail
        rw [HW5.out]
        clear HW5
        refine (D1.out _).mono ?_
        rintro e w' ⟨rfl, rfl⟩
        go_wp2_with fail
        refine (R3.out _ (HT.out.keep hb7)).mono ?_
        rintro e w6 ⟨rfl, hb8⟩
        have hb9 := hb7.trans (hb8.mono hb7.size)
        have gA6 := box_keep GA5.out hb8 (by omega)
        have gB6 := box_keep GB.out hb8 (by omega)
        have y6 := hb8.size
        obtain ⟨W7, hW7⟩ : ∃ W, w6.alloc (.cells #[.bool false, .string SD, .string SE] 23) = W := ⟨_, rfl⟩
        obtain ⟨d7, z7, gC⟩ := box_new hW7
        have gA7 := box_keep gA6 d7 (by omega)
        have gB7 := box_keep gB6 d7 (by omega)
        have hb10 := hb9.trans (d7.mono hb9.size)
        have HW7 := Lib.hid hW7
        have GA7 := Lib.hid gA7
        have GB7 := Lib.hid gB7
        have GC := Lib.hid gC
        clear hb7 hb8 hb9 gA6 gB6 hW7 d7 gA7 gB7 gC GA5 GB
        go_wp2_with fail
        rw [HW7.out]
        clear HW7
        refine (D3.out _).mono ?_
        rintro e w' ⟨rfl, rfl⟩
        go_wp2_with fail
        refine (R4.out _ (HT.out.keep hb10)).mono ?_
        rintro e w8 ⟨rfl, hb11⟩
        have hb12 := hb10.trans (hb11.mono hb10.size)
        obtain ⟨gA0, gA1, gA2⟩ := box_keep GA7.out hb11 (by omega)
        obtain ⟨gB0, gB1, gB2⟩ := box_keep GB7.out hb11 (by omega)
        obtain ⟨gC0, gC1, gC2⟩ := box_keep GC.out hb11 (by omega)
        have y8 := hb11.size
        have v1 : w2.heap.size < w8.heap.size := by omega
        have v2 : w4.heap.size < w8.heap.size := by omega
        have v3 : w6.heap.size < w8.heap.size := by omega
        have hb13 := hb12.alloc hb12.size (.cells #[.bool false, .string SD, .string SE] 23)
        have HB13 := Lib.hid hb13
        clear hb10 hb11 hb12 hb13 GA7 GB7 GC
        go_wp2
        go_ret
        exact ⟨by first | rfl | simp, HB13.out⟩
  · skip
    go_enter Tryd.func4, Tryd.ntmps4
    go_wp2_with fail
    refine al.out.mono ?_
    rintro e w1 ⟨rfl, hb1⟩
    obtain ⟨a', cap', hs', -, -, hcell⟩ := HB0.out.keep hb1
    obtain ⟨b, off, ha', hbb, hcl⟩ := hcell (by rw [HZS.out]; omega)
    simp only [Value.slice.injEq] at hs'
    obtain ⟨rfl, -, rfl⟩ := hs'
    subst ha'
    have HCL := Lib.hid hcl
    have HB1 := Lib.hid hb1
    clear hcell hcl hb1
    have t1 : ¬ (len0 : Int) < 1 := by omega
    have t2 : ¬ (40 : Int) < len0 := by omega
    go_wp2_with fail
    go_loop [10, 11, 12] (fun sv iv _ => ∃ k : Nat, iv = .int .i64 (k : Int) ∧ k ≤ len0 ∧ sv = .string (bytes (dgS (zs.take k)))) (fun _ iv _ => len0 - (intOf iv).toNat)
    case atStart => exact ⟨0, rfl, by omega, rfl⟩
    case round =>
      obtain ⟨k, rfl, hk, rfl⟩ := hrel
      by_cases hlt : k < len0
      · have hkl : k < zs.length := by rw [HZS.out]; exact hlt
        have hc1 := HCL.out k hkl
        have hst := dgS_step zs k hkl
        obtain ⟨z, hzz⟩ : ∃ z, zs[k] = z := ⟨_, rfl⟩
        rw [hzz] at hc1 hst
        obtain ⟨hA, hA9⟩ := dgA_ok z
        obtain ⟨A, hAe⟩ : ∃ A, dgA z = A := ⟨_, rfl⟩
        rw [hAe] at hA hA9 hst
        obtain ⟨d, hd⟩ : ∃ d, A % 10 = d := ⟨_, rfl⟩
        have hd10 : d < 10 := by omega
        have r1 : (A : Int) % 10 = (d : Int) := by omega
        have r2 : (A : Int).tmod 10 = (d : Int) := by rw [Int.tmod_eq_emod_of_nonneg (by omega)]; exact r1
        have hof : M.ofD A = M.ofD d := by unfold M.ofD; congr 1; omega
        have hcut := dig_cut d hd10 d (d + 1) rfl rfl
        have hln : (dgS (zs.take k)).length ≤ 40 := by rw [dgS_len, List.length_take]; omega
        have hadd := cat_run (dgS (zs.take k)) [M.ofD d] (dgS (zs.take (k + 1))) (by rw [hst, hof]) (by omega) (by simp)
        rw [← hcut] at hadd
        obtain ⟨P, hP⟩ : ∃ P, bytes (dgS (zs.take k)) = P := ⟨_, rfl⟩
        obtain ⟨N, hN⟩ : ∃ P, bytes (dgS (zs.take (k + 1))) = P := ⟨_, rfl⟩
        rw [hP, hN] at hadd
        rw [hP]
        have HN := Lib.hid hN
        have u1 : (d : Int) < 10 := by omega
        have u2 : (k : Int) < len0 := by omega
        have Hr1 := Lib.hid r1
        clear hst hzz hAe hd hof hcut hln hP hN hk hkl
        go_wp2
        go_round
        case rel => exact ⟨k + 1, by go_num, by omega, by rw [HN.out]⟩
        case measure => simp [intOf] <;> omega
      · obtain rfl : k = len0 := by omega
        have hfin : bytes (dgS (zs.take k)) = SL := by rw [← HZS.out, List.take_length, HL.out, HSL.out]
        rw [hfin]
        have u2 : ¬ (k : Int) < k := by omega
        have hb1 := HB1.out
        have zz := HZL.out
        clear hlt hk hfin HCL HB1 HB0 HZS
        go_wp2_with fail
        refine (D1.out _).mono ?_
        rintro e w' ⟨rfl, rfl⟩
        go_wp2_with fail
        refine (R1.out _ (HT.out.keep hb1)).mono ?_
        rintro e w2 ⟨rfl, hb2⟩
        have hb3 := hb1.trans (hb2.mono hb1.size)
        obtain ⟨W3, hW3⟩ : ∃ W, w2.alloc (.cells #[.bool true, .string SD, .string SE] 23) = W := ⟨_, rfl⟩
        obtain ⟨d3, z3, gA⟩ := box_new hW3
        have hb4 := hb3.trans (d3.mono hb3.size)
        have HW3 := Lib.hid hW3
        have GA := Lib.hid gA
        clear hb1 hb2 hb3 hW3 d3 gA
        go_wp2_with fail
        rw [HW3.out]
        clear HW3
        refine (D2.out _).mono ?_
        rintro e w' ⟨rfl, rfl⟩
        go_wp2_with fail
        refine (R2.out _ (HT.out.keep hb4)).mono ?_
        rintro e w4 ⟨rfl, hb5⟩
        have hb6 := hb4.trans (hb5.mono hb4.size)
        have gA4 := box_keep GA.out hb5 (by omega)
        have y4 := hb5.size
        obtain ⟨W5, hW5⟩ : ∃ W, w4.alloc (.cells #[.bool true, .string SD, .string SE] 23) = W := ⟨_, rfl⟩
        obtain ⟨d5, z5, gB⟩ := box_new hW5
        have gA5 := box_keep gA4 d5 (by omega)
        have hb7 := hb6.trans (d5.mono hb6.size)
        have HW5 := Lib.hid hW5
        have GA5 := Lib.hid gA5
        have GB := Lib.hid gB
        clear hb4 hb5 hb6 gA4 hW5 d5 gB gA5 GA
        go_wp2_with fail
        rw [HW5.out]
        clear HW5
        refine (D1.out _).mono ?_
        rintro e w' ⟨rfl, rfl⟩
        go_wp2_with fail
        refine (R3.out _ (HT.out.keep hb7)).mono ?_
        rintro e w6 ⟨rfl, hb8⟩
        have hb9 := hb7.trans (hb8.mono hb7.size)
        have gA6 := box_keep GA5.out hb8 (by omega)
        have gB6 := box_keep GB.out hb8 (by omega)
        have y6 := hb8.size
        obtain ⟨W7, hW7⟩ : ∃ W, w6.alloc (.cells #[.bool true, .string SD, .string SE] 23) = W := ⟨_, rfl⟩
        obtain ⟨d7, z7, gC⟩ := box_new hW7
        have gA7 := box_keep gA6 d7 (by omega)
        have gB7 := box_keep gB6 d7 (by omega)
        have hb10 := hb9.trans (d7.mono hb9.size)
        have HW7 := Lib.hid hW7
        have GA7 := Lib.hid gA7
        have GB7 := Lib.hid gB7
        have GC := Lib.hid gC
        clear hb7 hb8 hb9 gA6 gB6 hW7 d7 gA7 gB7 gC GA5 GB
        go_wp2_with fail
        rw [HW7.out]
        clear HW7
        refine (D3.out _).mono ?_
        rintro e w' ⟨rfl, rfl⟩
        go_wp2_with fail
        refine (R4.out _ (HT.out.keep hb10)).mono ?_
        rintro e w8 ⟨rfl, hb11⟩
        have hb12 := hb10.trans (hb11.mono hb10.size)
        obtain ⟨gA0, gA1, gA2⟩ := box_keep GA7.out hb11 (by omega)
        obtain ⟨gB0, gB1, gB2⟩ := box_keep GB7.out hb11 (by omega)
        obtain ⟨gC0, gC1, gC2⟩ := box_keep GC.out hb11 (by omega)
        have y8 := hb11.size
        have v1 : w2.heap.size < w8.heap.size := by omega
        have v2 : w4.heap.size < w8.heap.size := by omega
        have v3 : w6.heap.size < w8.heap.size := by omega
        have hb13 := hb12.alloc hb12.size (.cells #[.bool true, .string SD, .string SE] 23)
        have HB13 := Lib.hid hb13
        clear hb10 hb11 hb12 hb13 GA7 GB7 GC
        go_wp2
        go_ret
        exact ⟨by first | rfl | simp, HB13.out⟩
end Go.Proofs.YtmfcfkmkmlcepaaDoor
