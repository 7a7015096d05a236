/- Decimals: the reference's reckon: two rows of digits together, or one less the other. -/
import Derived.Test.YtfclkackfamdlaaGreatDoorDReck
namespace Go.Proofs.YtfclkackfamdlaaGreatDoor
open Go.RowKit
set_option linter.unusedVariables false
set_option linter.unusedSimpArgs false

theorem take_rev_step (l : List UInt8) (n j : Nat) (hn : n ≤ l.length) (hj : j < n) : (l.take n).reverse.take (j + 1) = (l.take n).reverse.take j ++ [l[n - 1 - j]'(by omega)] := by
  rw [List.take_succ_eq_append_getElem (by simp; omega)]
  congr 2
  rw [List.getElem_reverse]
  simp only [List.length_take, List.getElem_take]
  congr 1
  omega

set_option maxRecDepth 1100000 in
set_option maxHeartbeats 4000000 in
theorem reck_sum (x y : List UInt8) (w : World) (hx : x.length ≤ 1100000) (hy : y.length ≤ 1100000) (hx0 : 0 < x.length) (dx : ∀ c ∈ x, M.dig c = true) (dy : ∀ c ∈ y, M.dig c = true) :
    Calls Tryz.prog 26 #[.string (bytes x), .string (bytes y), .bool false] w fun e w' => e = .returned (.string (bytes (M.decS (M.dval x + M.dval y)))) ∧ Below w.heap.size w w' := by
  have sx := bytes_size x
  have sy := bytes_size y
  have d1 := fun i r W h => refdgt_any x i r W (by omega) dx h
  have d2 := fun i r W h => refdgt_any y i r W (by omega) dy h
  obtain ⟨s, hs⟩ : ∃ s, bytes x = s := ⟨_, rfl⟩
  obtain ⟨t, ht⟩ : ∃ s, bytes y = s := ⟨_, rfl⟩
  rw [hs] at sx d1
  rw [ht] at sy d2
  rw [hs, ht]
  have hs1 : s.size ≤ 1100000 := by omega
  have ht1 : t.size ≤ 1100000 := by omega
  have hs0 : 0 < s.size := by omega
  obtain ⟨K, hK⟩ : ∃ K, max x.length y.length = K := ⟨_, rfl⟩
  have hK1 : s.size ≤ K ∧ t.size ≤ K ∧ K ≤ 1100000 ∧ (K = s.size ∨ K = t.size) := by omega
  have Sx := Lib.hid sx
  have Sy := Lib.hid sy
  have D1 := Lib.hid d1
  have D2 := Lib.hid d2
  have Dx := Lib.hid dx
  have Dy := Lib.hid dy
  have HK := Lib.hid hK1
  clear d1 d2 dx dy hs ht hK sx sy hK1
  go_enter Tryz.func26, Tryz.ntmps26
  go_wp2
  go_loopw [7, 8, 9, 10] (fun ov cv iv _ wr => ∃ (k carry : Nat) (l : List UInt8), iv = .int .i64 k ∧ cv = .int .i64 carry ∧ k ≤ K + 1 ∧ (k ≤ K ∨ carry = 0) ∧ M.Sum x y k l carry ∧ OwnB w.heap.size wr ov l ∧ Below w.heap.size w wr) (fun _ _ iv _ _ => K + 1 - (intOf iv).toNat)
  case atStart => exact ⟨0, 0, [], rfl, rfl, by omega, by omega, M.sum_start x y, World.ownsRow_nil _ _ _ _, Below.refl _ _⟩
  case round =>
    obtain ⟨k, carry, l, rfl, rfl, hk, hkc, hS, ho, hb⟩ := hrel
    have hc1 := hS.2.2.1
    have hll := hS.1
    have HS := Lib.hid hS
    have hsz := hb.size
    clear hS
    by_cases hgo : k < s.size ∨ k < t.size ∨ 0 < carry
    · obtain ⟨p, hp⟩ : ∃ p, M.dat x k = p := ⟨_, rfl⟩
      obtain ⟨q, hq⟩ : ∃ p, M.dat y k = p := ⟨_, rfl⟩
      have hp9 := M.dat_le x Dx.out k
      have hq9 := M.dat_le y Dy.out k
      have hstep := M.sum_step Dx.out Dy.out HS.out
      have hlast : k = K → (M.dat x k + M.dat y k + carry) / 10 = 0 := fun h => M.sum_last (by have := HK.out; have := Sx.out; omega) (by have := HK.out; have := Sy.out; omega) hc1
      have hkK : k ≤ K := by have := HK.out; omega
      rw [hp] at hp9 hstep hlast
      rw [hq] at hq9 hstep hlast
      have c1 := fun W => D1.out k p W hp
      have c2 := fun W => D2.out k q W hq
      have C1 := Lib.hid c1
      have C2 := Lib.hid c2
      have Hstep := Lib.hid hstep
      obtain ⟨T, hT⟩ : ∃ T, p + q + carry = T := ⟨_, rfl⟩
      rw [hT] at Hstep hlast
      obtain ⟨P, hP⟩ : ∃ P : Int, (p : Int) = P := ⟨_, rfl⟩
      obtain ⟨Q, hQ⟩ : ∃ P : Int, (q : Int) = P := ⟨_, rfl⟩
      obtain ⟨C, hC⟩ : ∃ P : Int, (carry : Int) = P := ⟨_, rfl⟩
      have hTi : P + Q + C = (T : Int) := by omega
      have P0 : 0 ≤ P := by omega
      have P9 : P ≤ 9 := by omega
      have Q0 : 0 ≤ Q := by omega
      have Q9 : Q ≤ 9 := by omega
      have C0' : 0 ≤ C := by omega
      have C9 : C ≤ 1 := by omega
      have hll2 : l.length ≤ 1100001 := by have := HK.out; omega
      have hk2 : k ≤ 1100001 := by have := HK.out; omega
      rw [hP] at C1
      rw [hQ] at C2
      rw [hC]
      have HTi := Lib.hid hTi
      have Hlast := Lib.hid hlast
      have tst : (decide (k < s.size) = true ∧ decide ((k : Int) < s.size) = true) ∨ (decide (k < s.size) = false ∧ decide ((k : Int) < s.size) = false ∧ decide (k < t.size) = true ∧ decide ((k : Int) < t.size) = true) ∨ (decide (k < s.size) = false ∧ decide ((k : Int) < s.size) = false ∧ decide (k < t.size) = false ∧ decide ((k : Int) < t.size) = false ∧ decide (0 < C) = true) := by
        simp only [decide_eq_true_eq, decide_eq_false_iff_not]
        omega
      have dig : (9 < P + Q + C ∧ (∃ X, P + Q + C - 10 = X ∧ 0 ≤ X ∧ X ≤ 9)) ∨ (P + Q + C ≤ 9) := by
        by_cases h : 9 < P + Q + C
        · exact .inl ⟨h, _, rfl, by omega, by omega⟩
        · exact .inr (by omega)
      clear c1 c2 hp hq hstep hT hll hP hQ hC hTi hp9 hq9 hc1 hgo hlast hkc
      rcases tst with ⟨t1, t2⟩ | ⟨t1, t2, t3, t4⟩ | ⟨t1, t2, t3, t4, t5⟩
      all_goals
        rcases dig with ⟨h9, X, hX, hX0, hX9⟩ | h9
        · have hXT : X = ((T % 10 : Nat) : Int) := by have := HTi.out; omega
          have hcy : (1 : Int) = ((T / 10 : Nat) : Int) := by have := HTi.out; omega
          have HX := Lib.hid hX
          have HXT := Lib.hid hXT
          have Hcy := Lib.hid hcy
          clear hX hXT hcy
          go_wp2_with fail
          refine (C1.out _).mono ?_
          rintro e w1 ⟨rfl, rfl⟩
          go_wp2_with fail
          refine (C2.out _).mono ?_
          rintro e w1 ⟨rfl, rfl⟩
          go_wp2_with (at_builtin; refine wpl_append rfl _ _ rfl w.heap.size _ (.slice (some ⟨wr.heap.size, 0, none⟩) 1 1) l [M.ofD T] (l ++ [M.ofD T]) rfl (ho.keep ((Below.refl _ _).alloc (Nat.le_refl _) _)) rfl (one_digit wr T _ (ofD_val T _ (by have := HXT.out; have := HX.out; omega))) (fun n c h => by simp at h) (by simp; omega) (by simp; omega) rfl ?_)
          intro v3 w3 ho3 hb4
          have hb5 := (hb.alloc hsz _).trans hb4
          clear hb hb4 ho
          go_wp2
          go_roundw
          case rel => exact ⟨k + 1, T / 10, l ++ [M.ofD T], by go_num, by rw [← Hcy.out], by omega, by have := Hlast.out; omega, Hstep.out, ho3, hb5⟩
          case measure => simp [intOf]; omega
        · have hXT : P + Q + C = ((T % 10 : Nat) : Int) := by have := HTi.out; omega
          have hcy : (0 : Int) = ((T / 10 : Nat) : Int) := by have := HTi.out; omega
          have HXT := Lib.hid hXT
          have Hcy := Lib.hid hcy
          clear hXT hcy
          go_wp2_with fail
          refine (C1.out _).mono ?_
          rintro e w1 ⟨rfl, rfl⟩
          go_wp2_with fail
          refine (C2.out _).mono ?_
          rintro e w1 ⟨rfl, rfl⟩
          go_wp2_with (at_builtin; refine wpl_append rfl _ _ rfl w.heap.size _ (.slice (some ⟨wr.heap.size, 0, none⟩) 1 1) l [M.ofD T] (l ++ [M.ofD T]) rfl (ho.keep ((Below.refl _ _).alloc (Nat.le_refl _) _)) rfl (one_digit wr T _ (ofD_val T _ (by have := HXT.out; omega))) (fun n c h => by simp at h) (by simp; omega) (by simp; omega) rfl ?_)
          intro v3 w3 ho3 hb4
          have hb5 := (hb.alloc hsz _).trans hb4
          clear hb hb4 ho
          go_wp2
          go_roundw
          case rel => exact ⟨k + 1, T / 10, l ++ [M.ofD T], by go_num, by rw [← Hcy.out], by omega, by have := Hlast.out; omega, Hstep.out, ho3, hb5⟩
          case measure => simp [intOf]; omega
    · have hk3 : s.size ≤ k ∧ t.size ≤ k ∧ carry = 0 := by omega
      obtain ⟨e1, e2, rfl⟩ := hk3
      have t1 : decide (k < s.size) = false := by simp; omega
      have t2 : decide ((k : Int) < s.size) = false := by simp; omega
      have t3 : decide (k < t.size) = false := by simp; omega
      have t4 : decide ((k : Int) < t.size) = false := by simp; omega
      have hend := M.sum_done HS.out (by have := Sx.out; omega) (by have := Sy.out; omega)
      have hkK : k ≤ 1100001 ∧ 0 < k := by have := HK.out; omega
      clear hgo hkc
      obtain ⟨wo, rfl⟩ : ∃ wo : World, wo = wr := ⟨_, rfl⟩
      have hdl := HS.out.2.1
      have hlen1 := HS.out.1
      have hl0 : 0 < l.length := by rw [hlen1]; omega
      obtain ⟨a1, cap1, rfl, hq1, hq2, hq3⟩ := ho.bs
      obtain ⟨b, off, rfl, hbk, hcell⟩ := hq3 hl0
      have hlb : l.length ≤ 1100001 := by rw [hlen1]; omega
      obtain ⟨L, hL⟩ : ∃ L, l.length = L := ⟨_, rfl⟩
      rw [hL] at hq1 hl0 hlb
      have Hend := Lib.hid hend
      have Hdl := Lib.hid hdl
      have Hcell := Lib.hid hcell
      have HL := Lib.hid hL
      rw [hL]
      clear hend hdl hcell hq3 hL hlen1 ho
      go_wp2
      go_loop [11] (fun nv => ∃ m : Nat, nv = .int .i64 m ∧ 1 ≤ m ∧ m ≤ L ∧ M.lev (l.take m) = M.lev l) (fun nv => (intOf nv).toNat)
      case atStart => exact ⟨L, rfl, by omega, by omega, by rw [← HL.out, List.take_length]⟩
      case round =>
        obtain ⟨m, rfl, hm1, hmL, hlev⟩ := hrel
        have hml : m - 1 < l.length := by rw [HL.out]; omega
        have hcm := Hcell.out (m - 1) hml
        have htk := M.lev_take l m hm1 (by rw [HL.out]; omega)
        obtain ⟨c, hc⟩ : ∃ c, l[m - 1] = c := ⟨_, rfl⟩
        rw [hc] at hcm htk
        rw [hlev] at htk
        have i1 : (0 : Int) ≤ (m : Int) - 1 := by omega
        have i2 : (m : Int) - 1 < L := by omega
        have i3 : ((m : Int) - 1).toNat = m - 1 := by omega
        have Hc := Lib.hid hc
        have Hlev := Lib.hid hlev
        have Htk := Lib.hid htk
        clear hc hlev htk
        by_cases hgo : 1 < m ∧ c = 48
        · obtain ⟨g1, rfl⟩ := hgo
          have g1' : (1 : Int) < m := by omega
          go_wp2
          go_round
          case rel => exact ⟨m - 1, by congr 1; omega, by omega, by omega, (Htk.out rfl).symm⟩
          case measure => simp [intOf]; omega
        · have hlast : m = 1 ∨ c ≠ 48 := by
            by_cases h : 1 < m
            · exact .inr (fun hc => hgo ⟨h, hc⟩)
            · exact .inl (by omega)
          have hrev := M.rev_decS (l.take m) (fun x hx => Hdl.out x (List.mem_of_mem_take hx)) (by intro hh; have := congrArg List.length hh; simp [HL.out] at this; omega) (by
            rcases hlast with h | h
            · left; simp [HL.out]; omega
            · right; rw [List.getLast_eq_getElem]; simp only [List.length_take, List.getElem_take]
              intro hh; apply h; rw [← Hc.out, ← hh]; congr 1; rw [HL.out]; omega)
          rw [Hlev.out, Hend.out] at hrev
          have Hrev := Lib.hid hrev
          have hm2 : m ≤ 1100001 := by omega
          have hbz := hb.size
          have tst : (decide ((1 : Int) < m) = false ∧ decide (1 < m) = false) ∨ (decide ((1 : Int) < m) = true ∧ decide (1 < m) = true ∧ ((c.toNat : Int) == 48) = false) := by
            by_cases h1 : m = 1
            · left; simp; omega
            · right; refine ⟨by simp; omega, by simp; omega, ?_⟩
              rw [beq_eq_false_iff_ne]
              intro hh
              rcases hlast with h | h
              · exact h1 h
              · exact h (UInt8.toNat_inj.1 (by simpa using (by omega : c.toNat = 48)))
          clear hgo hrev hlast
          rcases tst with ⟨t1, t2⟩ | ⟨t1, t2, h2⟩
          all_goals
            have i0 : (0 : Int) ≤ m := by omega
            go_wp2
            go_loopw [12, 13] (fun ov iv wr => ∃ j : Nat, iv = .int .i64 ((m : Int) - 1 - j) ∧ j ≤ m ∧ OwnB wo.heap.size wr ov ((l.take m).reverse.take j) ∧ Below wo.heap.size wo wr) (fun _ iv _ => (intOf iv + 1).toNat)
            case atStart => exact ⟨0, by simp, by omega, World.ownsRow_nil _ _ _ _, Below.refl _ _⟩
            case round =>
              obtain ⟨j, rfl, hj, ho2, hb2⟩ := hrel
              have hsz2 := hb2.size
              by_cases hlt : j < m
              · have hjl : m - 1 - j < l.length := by rw [HL.out]; omega
                have hcj := Hcell.out (m - 1 - j) hjl
                have hst := take_rev_step l m j (by rw [HL.out]; omega) hlt
                obtain ⟨d, hd⟩ : ∃ c, l[m - 1 - j] = c := ⟨_, rfl⟩
                rw [hd] at hcj hst
                have hcw := hb2.cell (p := ⟨b, off + (m - 1 - j), none⟩) hbk
                rw [hcj] at hcw
                have k1 : (0 : Int) ≤ (m : Int) - 1 - j := by omega
                have k2 : (m : Int) - 1 - j < L := by omega
                have k3 : ((m : Int) - 1 - j).toNat = m - 1 - j := by omega
                have hlj : ((l.take m).reverse.take j).length ≤ 1100001 := by simp; omega
                have Hst := Lib.hid hst
                obtain ⟨R, hR⟩ : ∃ R, (l.take m).reverse.take j = R := ⟨_, rfl⟩
                rw [hR] at ho2 hlj Hst
                clear hst hd hR hcj
                go_wp2_with (at_builtin; refine wpl_append rfl _ _ rfl wo.heap.size _ (.slice (some ⟨_, 0, none⟩) 1 1) R [d] (R ++ [d]) rfl (ho2.keep ((Below.refl _ _).alloc (Nat.le_refl _) _)) rfl (bs_cells_new _ [d] _ 1 rfl rfl (by simp)) (fun n c h => by simp at h) (by simp; omega) (by simp; omega) rfl ?_)
                intro v3 w3 ho3 hb4
                have hb5 := (hb2.alloc hsz2 _).trans hb4
                clear hb2 hb4 ho2
                go_wp2
                go_roundw
                case rel => exact ⟨j + 1, by congr 1; omega, by omega, by rw [Hst.out]; exact ho3, hb5⟩
                case measure => simp [intOf]; omega
              · obtain rfl : j = m := by omega
                have k1 : ¬ (0 : Int) ≤ (j : Int) - 1 - j := by omega
                have hfull : (l.take j).reverse.take j = M.decS (M.dval x + M.dval y) := by rw [← Hrev.out]; exact List.take_of_length_le (by simp; omega)
                rw [hfull] at ho2
                have hcv := conv_own ho2
                have hfin : Below w.heap.size w wr := hb.trans (hb2.mono hbz)
                clear hfull ho2 hb2 hb
                go_wp2
                go_ret
                exact ⟨rfl, hfin⟩

set_option maxRecDepth 1100000 in
set_option maxHeartbeats 4000000 in
theorem reck_dif (x y : List UInt8) (w : World) (hx : x.length ≤ 1100000) (hy : y.length ≤ 1100000) (hx0 : 0 < x.length) (dx : ∀ c ∈ x, M.dig c = true) (dy : ∀ c ∈ y, M.dig c = true) (hle : y.length ≤ x.length) (hval : M.dval y ≤ M.dval x) :
    Calls Tryz.prog 26 #[.string (bytes x), .string (bytes y), .bool true] w fun e w' => e = .returned (.string (bytes (M.decS (M.dval x - M.dval y)))) ∧ Below w.heap.size w w' := by
  have sx := bytes_size x
  have sy := bytes_size y
  have d1 := fun i r W h => refdgt_any x i r W (by omega) dx h
  have d2 := fun i r W h => refdgt_any y i r W (by omega) dy h
  obtain ⟨s, hs⟩ : ∃ s, bytes x = s := ⟨_, rfl⟩
  obtain ⟨t, ht⟩ : ∃ s, bytes y = s := ⟨_, rfl⟩
  rw [hs] at sx d1
  rw [ht] at sy d2
  rw [hs, ht]
  have hs1 : s.size ≤ 1100000 := by omega
  have ht1 : t.size ≤ 1100000 := by omega
  have hs0 : 0 < s.size := by omega
  obtain ⟨K, hK⟩ : ∃ K, x.length = K := ⟨_, rfl⟩
  have hK1 : s.size = K ∧ t.size ≤ K ∧ K ≤ 1100000 := by omega
  have Sx := Lib.hid sx
  have Sy := Lib.hid sy
  have D1 := Lib.hid d1
  have D2 := Lib.hid d2
  have Dx := Lib.hid dx
  have Dy := Lib.hid dy
  have HK := Lib.hid hK1
  clear d1 d2 dx dy hs ht hK sx sy hK1
  go_enter Tryz.func26, Tryz.ntmps26
  go_wp2
  go_loopw [7, 8, 9, 10] (fun ov cv iv _ wr => ∃ (k carry : Nat) (l : List UInt8), iv = .int .i64 k ∧ cv = .int .i64 carry ∧ k ≤ K ∧ M.Dif x y k l carry ∧ OwnB w.heap.size wr ov l ∧ Below w.heap.size w wr) (fun _ _ iv _ _ => K - (intOf iv).toNat)
  case atStart => exact ⟨0, 0, [], rfl, rfl, by omega, M.dif_start x y, World.ownsRow_nil _ _ _ _, Below.refl _ _⟩
  case round =>
    obtain ⟨k, carry, l, rfl, rfl, hk, hS, ho, hb⟩ := hrel
    have hc1 := hS.2.2.1
    have hll := hS.1
    have HS := Lib.hid hS
    have hsz := hb.size
    clear hS
    by_cases hgo : k < K
    · have hgo' : k < s.size := by have := HK.out; omega
      obtain ⟨p, hp⟩ : ∃ p, M.dat x k = p := ⟨_, rfl⟩
      obtain ⟨q, hq⟩ : ∃ p, M.dat y k = p := ⟨_, rfl⟩
      have hp9 := M.dat_le x Dx.out k
      have hq9 := M.dat_le y Dy.out k
      have hstep := M.dif_step Dx.out Dy.out HS.out
      rw [hp] at hp9 hstep
      rw [hq] at hq9 hstep
      have c1 := fun W => D1.out k p W hp
      have c2 := fun W => D2.out k q W hq
      have C1 := Lib.hid c1
      have C2 := Lib.hid c2
      have Hstep := Lib.hid hstep
      obtain ⟨T, hT⟩ : ∃ T, p + 10 - q - carry = T := ⟨_, rfl⟩
      rw [hT] at Hstep
      obtain ⟨P, hP⟩ : ∃ P : Int, (p : Int) = P := ⟨_, rfl⟩
      obtain ⟨Q, hQ⟩ : ∃ P : Int, (q : Int) = P := ⟨_, rfl⟩
      obtain ⟨C, hC⟩ : ∃ P : Int, (carry : Int) = P := ⟨_, rfl⟩
      have hTi : P - Q - C + 10 = (T : Int) := by omega
      have P0 : 0 ≤ P := by omega
      have P9 : P ≤ 9 := by omega
      have Q0 : 0 ≤ Q := by omega
      have Q9 : Q ≤ 9 := by omega
      have C0' : 0 ≤ C := by omega
      have C9 : C ≤ 1 := by omega
      have hll2 : l.length ≤ 1100001 := by have := HK.out; omega
      have hk2 : k ≤ 1100001 := by have := HK.out; omega
      rw [hP] at C1
      rw [hQ] at C2
      rw [hC]
      have HTi := Lib.hid hTi
      have t1 : decide (k < s.size) = true := by simp; omega
      have t2 : decide ((k : Int) < s.size) = true := by simp; omega
      have dig : (P - Q - C < 0 ∧ (∃ X, P - Q - C + 10 = X ∧ 0 ≤ X ∧ X ≤ 9)) ∨ (0 ≤ P - Q - C ∧ (∃ X, P - Q - C = X ∧ 0 ≤ X ∧ X ≤ 9)) := by
        by_cases h : P - Q - C < 0
        · exact .inl ⟨h, _, rfl, by omega, by omega⟩
        · exact .inr ⟨by omega, _, rfl, by omega, by omega⟩
      clear c1 c2 hp hq hstep hT hll hP hQ hC hTi hp9 hq9 hc1 hgo'
      rcases dig with ⟨h9, X, hX, hX0, hX9⟩ | ⟨h9, X, hX, hX0, hX9⟩
      · have hXT : X = ((T % 10 : Nat) : Int) := by have := HTi.out; omega
        have hcy : (1 : Int) = ((1 - T / 10 : Nat) : Int) := by have := HTi.out; omega
        have HX := Lib.hid hX
        have HXT := Lib.hid hXT
        have Hcy := Lib.hid hcy
        clear hX hXT hcy
        go_wp2_with fail
        refine (C1.out _).mono ?_
        rintro e w1 ⟨rfl, rfl⟩
        go_wp2_with fail
        refine (C2.out _).mono ?_
        rintro e w1 ⟨rfl, rfl⟩
        go_wp2_with fail
        refine (C1.out _).mono ?_
        rintro e w1 ⟨rfl, rfl⟩
        go_wp2_with fail
        refine (C2.out _).mono ?_
        rintro e w1 ⟨rfl, rfl⟩
        go_wp2_with (at_builtin; refine wpl_append rfl _ _ rfl w.heap.size _ (.slice (some ⟨wr.heap.size, 0, none⟩) 1 1) l [M.ofD T] (l ++ [M.ofD T]) rfl (ho.keep ((Below.refl _ _).alloc (Nat.le_refl _) _)) rfl (one_digit wr T _ (ofD_val T _ (by have := HXT.out; have := HX.out; omega))) (fun n c h => by simp at h) (by simp; omega) (by simp; omega) rfl ?_)
        intro v3 w3 ho3 hb4
        have hb5 := (hb.alloc hsz _).trans hb4
        clear hb hb4 ho
        go_wp2
        go_roundw
        case rel => exact ⟨k + 1, 1 - T / 10, l ++ [M.ofD T], by go_num, by rw [← Hcy.out], by omega, Hstep.out, ho3, hb5⟩
        case measure => simp [intOf]; omega
      · have hXT : X = ((T % 10 : Nat) : Int) := by have := HTi.out; omega
        have hcy : (0 : Int) = ((1 - T / 10 : Nat) : Int) := by have := HTi.out; omega
        have HX := Lib.hid hX
        have HXT := Lib.hid hXT
        have Hcy := Lib.hid hcy
        have t3 : decide (9 < P - Q - C) = false := by simp; omega
        clear hX hXT hcy
        go_wp2_with fail
        refine (C1.out _).mono ?_
        rintro e w1 ⟨rfl, rfl⟩
        go_wp2_with fail
        refine (C2.out _).mono ?_
        rintro e w1 ⟨rfl, rfl⟩
        go_wp2_with fail
        refine (C1.out _).mono ?_
        rintro e w1 ⟨rfl, rfl⟩
        go_wp2_with fail
        refine (C2.out _).mono ?_
        rintro e w1 ⟨rfl, rfl⟩
        go_wp2_with (at_builtin; refine wpl_append rfl _ _ rfl w.heap.size _ (.slice (some ⟨wr.heap.size, 0, none⟩) 1 1) l [M.ofD T] (l ++ [M.ofD T]) rfl (ho.keep ((Below.refl _ _).alloc (Nat.le_refl _) _)) rfl (one_digit wr T _ (ofD_val T _ (by have := HXT.out; have := HX.out; omega))) (fun n c h => by simp at h) (by simp; omega) (by simp; omega) rfl ?_)
        intro v3 w3 ho3 hb4
        have hb5 := (hb.alloc hsz _).trans hb4
        clear hb hb4 ho
        go_wp2
        go_roundw
        case rel => exact ⟨k + 1, 1 - T / 10, l ++ [M.ofD T], by go_num, by rw [← Hcy.out], by omega, Hstep.out, ho3, hb5⟩
        case measure => simp [intOf]; omega
    · have hkk : k = K := by omega
      have e1 : s.size ≤ k ∧ t.size ≤ k := by have := HK.out; omega
      have hc0 := M.dif_last HS.out (by have := Sx.out; omega) (by have := Sy.out; omega) hval
      subst hc0
      have t1 : decide (k < s.size) = false := by simp; omega
      have t2 : decide ((k : Int) < s.size) = false := by simp; omega
      have t3 : decide (k < t.size) = false := by simp; omega
      have t4 : decide ((k : Int) < t.size) = false := by simp; omega
      have hend := M.dif_end HS.out (by have := Sx.out; omega) (by have := Sy.out; omega) hval
      have hkK : k ≤ 1100001 ∧ 0 < k := by have := HK.out; omega
      clear hgo hkk
      obtain ⟨wo, rfl⟩ : ∃ wo : World, wo = wr := ⟨_, rfl⟩
      have hdl := HS.out.2.1
      have hlen1 := HS.out.1
      have hl0 : 0 < l.length := by rw [hlen1]; omega
      obtain ⟨a1, cap1, rfl, hq1, hq2, hq3⟩ := ho.bs
      obtain ⟨b, off, rfl, hbk, hcell⟩ := hq3 hl0
      have hlb : l.length ≤ 1100001 := by rw [hlen1]; omega
      obtain ⟨L, hL⟩ : ∃ L, l.length = L := ⟨_, rfl⟩
      rw [hL] at hq1 hl0 hlb
      have Hend := Lib.hid hend
      have Hdl := Lib.hid hdl
      have Hcell := Lib.hid hcell
      have HL := Lib.hid hL
      rw [hL]
      clear hend hdl hcell hq3 hL hlen1 ho
      go_wp2
      go_loop [11] (fun nv => ∃ m : Nat, nv = .int .i64 m ∧ 1 ≤ m ∧ m ≤ L ∧ M.lev (l.take m) = M.lev l) (fun nv => (intOf nv).toNat)
      case atStart => exact ⟨L, rfl, by omega, by omega, by rw [← HL.out, List.take_length]⟩
      case round =>
        obtain ⟨m, rfl, hm1, hmL, hlev⟩ := hrel
        have hml : m - 1 < l.length := by rw [HL.out]; omega
        have hcm := Hcell.out (m - 1) hml
        have htk := M.lev_take l m hm1 (by rw [HL.out]; omega)
        obtain ⟨c, hc⟩ : ∃ c, l[m - 1] = c := ⟨_, rfl⟩
        rw [hc] at hcm htk
        rw [hlev] at htk
        have i1 : (0 : Int) ≤ (m : Int) - 1 := by omega
        have i2 : (m : Int) - 1 < L := by omega
        have i3 : ((m : Int) - 1).toNat = m - 1 := by omega
        have Hc := Lib.hid hc
        have Hlev := Lib.hid hlev
        have Htk := Lib.hid htk
        clear hc hlev htk
        by_cases hgo : 1 < m ∧ c = 48
        · obtain ⟨g1, rfl⟩ := hgo
          have g1' : (1 : Int) < m := by omega
          go_wp2
          go_round
          case rel => exact ⟨m - 1, by congr 1; omega, by omega, by omega, (Htk.out rfl).symm⟩
          case measure => simp [intOf]; omega
        · have hlast : m = 1 ∨ c ≠ 48 := by
            by_cases h : 1 < m
            · exact .inr (fun hc => hgo ⟨h, hc⟩)
            · exact .inl (by omega)
          have hrev := M.rev_decS (l.take m) (fun x hx => Hdl.out x (List.mem_of_mem_take hx)) (by intro hh; have := congrArg List.length hh; simp [HL.out] at this; omega) (by
            rcases hlast with h | h
            · left; simp [HL.out]; omega
            · right; rw [List.getLast_eq_getElem]; simp only [List.length_take, List.getElem_take]
              intro hh; apply h; rw [← Hc.out, ← hh]; congr 1; rw [HL.out]; omega)
          rw [Hlev.out, Hend.out] at hrev
          have Hrev := Lib.hid hrev
          have hm2 : m ≤ 1100001 := by omega
          have hbz := hb.size
          have tst : (decide ((1 : Int) < m) = false ∧ decide (1 < m) = false) ∨ (decide ((1 : Int) < m) = true ∧ decide (1 < m) = true ∧ ((c.toNat : Int) == 48) = false) := by
            by_cases h1 : m = 1
            · left; simp; omega
            · right; refine ⟨by simp; omega, by simp; omega, ?_⟩
              rw [beq_eq_false_iff_ne]
              intro hh
              rcases hlast with h | h
              · exact h1 h
              · exact h (UInt8.toNat_inj.1 (by simpa using (by omega : c.toNat = 48)))
          clear hgo hrev hlast
          rcases tst with ⟨t1, t2⟩ | ⟨t1, t2, h2⟩
          all_goals
            have i0 : (0 : Int) ≤ m := by omega
            go_wp2
            go_loopw [12, 13] (fun ov iv wr => ∃ j : Nat, iv = .int .i64 ((m : Int) - 1 - j) ∧ j ≤ m ∧ OwnB wo.heap.size wr ov ((l.take m).reverse.take j) ∧ Below wo.heap.size wo wr) (fun _ iv _ => (intOf iv + 1).toNat)
            case atStart => exact ⟨0, by simp, by omega, World.ownsRow_nil _ _ _ _, Below.refl _ _⟩
            case round =>
              obtain ⟨j, rfl, hj, ho2, hb2⟩ := hrel
              have hsz2 := hb2.size
              by_cases hlt : j < m
              · have hjl : m - 1 - j < l.length := by rw [HL.out]; omega
                have hcj := Hcell.out (m - 1 - j) hjl
                have hst := take_rev_step l m j (by rw [HL.out]; omega) hlt
                obtain ⟨d, hd⟩ : ∃ c, l[m - 1 - j] = c := ⟨_, rfl⟩
                rw [hd] at hcj hst
                have hcw := hb2.cell (p := ⟨b, off + (m - 1 - j), none⟩) hbk
                rw [hcj] at hcw
                have k1 : (0 : Int) ≤ (m : Int) - 1 - j := by omega
                have k2 : (m : Int) - 1 - j < L := by omega
                have k3 : ((m : Int) - 1 - j).toNat = m - 1 - j := by omega
                have hlj : ((l.take m).reverse.take j).length ≤ 1100001 := by simp; omega
                have Hst := Lib.hid hst
                obtain ⟨R, hR⟩ : ∃ R, (l.take m).reverse.take j = R := ⟨_, rfl⟩
                rw [hR] at ho2 hlj Hst
                clear hst hd hR hcj
                go_wp2_with (at_builtin; refine wpl_append rfl _ _ rfl wo.heap.size _ (.slice (some ⟨_, 0, none⟩) 1 1) R [d] (R ++ [d]) rfl (ho2.keep ((Below.refl _ _).alloc (Nat.le_refl _) _)) rfl (bs_cells_new _ [d] _ 1 rfl rfl (by simp)) (fun n c h => by simp at h) (by simp; omega) (by simp; omega) rfl ?_)
                intro v3 w3 ho3 hb4
                have hb5 := (hb2.alloc hsz2 _).trans hb4
                clear hb2 hb4 ho2
                go_wp2
                go_roundw
                case rel => exact ⟨j + 1, by congr 1; omega, by omega, by rw [Hst.out]; exact ho3, hb5⟩
                case measure => simp [intOf]; omega
              · obtain rfl : j = m := by omega
                have k1 : ¬ (0 : Int) ≤ (j : Int) - 1 - j := by omega
                have hfull : (l.take j).reverse.take j = M.decS (M.dval x - M.dval y) := by rw [← Hrev.out]; exact List.take_of_length_le (by simp; omega)
                rw [hfull] at ho2
                have hcv := conv_own ho2
                have hfin : Below w.heap.size w wr := hb.trans (hb2.mono hbz)
                clear hfull ho2 hb2 hb
                go_wp2
                go_ret
                exact ⟨rfl, hfin⟩
end Go.Proofs.YtfclkackfamdlaaGreatDoor
