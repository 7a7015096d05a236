/- Texts between marks: quote.Text and cname.Text. -/
import Derived.Test.YtkaojigdogeliaaDoorEQuote
import Derived.Outline
namespace Go.Proofs.YtkaojigdogeliaaDoor
open Go.RowKit
set_option linter.unusedVariables false
set_option linter.unusedSimpArgs false

theorem qt_len (q r n : Int) : (M.qt q r n).length ≤ 4 := by
  unfold M.qt M.hexd
  repeat' split
  all_goals simp
theorem qB_at (Q : Int) (l : List UInt8) (i : Nat) (h : i < l.length) : M.qB Q (M.pn l i) = M.qt Q (M.ptv (l.drop i)) ((M.pn l (i + (M.dec (l.drop i)).2)).getD 0 0) ++ M.qB Q (M.pn l (i + (M.dec (l.drop i)).2)) := by
  rw [M.pn_in l i h]; rfl
theorem two_byte (w : World) (c d : UInt8) (x y : Int) (hx : (c.toNat : Int) = x) (hy : (d.toNat : Int) = y) : Bs (w.alloc (.cells #[.int .u8 x, .int .u8 y] 5)) (.slice (some ⟨w.heap.size, 0, none⟩) 2 2) [c, d] := by
  subst hx; subst hy
  exact bs_cells_new w [c, d] _ 2 rfl rfl (by simp)
theorem encZs_le (l : List Int) (k : Nat) (h : l.length ≤ k) : (M.encZs l).length ≤ 4 * k := by
  have := (M.encZs_len l).2; omega
set_option maxRecDepth 100000 in
set_option maxHeartbeats 4000000 in
theorem qtext_any (l t : List UInt8) (q : UInt8) (w : World) (hT : TabsE w) (hl : l.length ≤ 100000) (hq : q = 34 ∨ q = 39) (ht : M.encZs (M.qF q.toNat (M.pn l 0)) = t) :
    Calls Tryd.prog 43 #[.string (bytes l), .int .u8 (q.toNat : Int)] w (StP w t) := by
  have hsz0 : (bytes l).size = l.length := bytes_size l
  obtain ⟨n, hn⟩ : ∃ n, l.length = n := ⟨_, rfl⟩
  rw [M.qF_bytes q hq] at ht
  obtain ⟨Q, hQ⟩ : ∃ Q : Int, (q.toNat : Int) = Q := ⟨_, rfl⟩
  have hQ2 : Q = 34 ∨ Q = 39 := by rcases hq with rfl | rfl; left; rw [← hQ]; rfl; right; rw [← hQ]; rfl
  have hQb : M.enc Q = [q] := by rw [← hQ]; exact M.enc_byte q (by omega)
  rw [hQ] at ht ⊢
  obtain ⟨F, hF⟩ : ∃ F, M.qB Q (M.pn l 0) = F := ⟨_, rfl⟩
  rw [hF] at ht
  have hcv := bw_conv w (bytes l)
  have hbs := bw_bs w (bytes l) (by rw [hsz0]; omega)
  have hbb := bw_below w (bytes l)
  rw [bytes_toList] at hbs
  rw [hsz0] at hcv hbs
  rw [hn] at hcv hbs hl
  obtain ⟨W1, hW1⟩ : ∃ W1, Lib.bytesWorld w 5 (bytes l) = W1 := ⟨_, rfl⟩
  rw [hW1] at hcv hbs hbb
  obtain ⟨cap, hcap⟩ : ∃ W1, grownCap w n 0 5 = W1 := ⟨_, rfl⟩
  rw [hcap] at hcv hbs
  have hob := World.ownsRow_lit (base := W1.heap.size) (e := 5) (size := 1) W1 #[.int .u8 Q] 1 (Nat.le_refl _) (by decide) rfl
  have hob2 : OwnB W1.heap.size (W1.alloc (.cells #[.int .u8 Q] 5)) (.slice (some ⟨W1.heap.size, 0, none⟩) 1 1) (q :: M.encZs []) := by
    unfold OwnB
    have e : bcells (q :: M.encZs []) = [.int .u8 Q] := by rw [M.encZs_nil]; simp [bcells, hQ]
    rw [e]; exact hob
  have Hn := Lib.hid hn
  have Hbs := Lib.hid hbs
  have HT := Lib.hid (hT.keep hbb)
  have Hbb := Lib.hid hbb
  have Ht := Lib.hid ht
  have HO := Lib.hid hob2
  have HQb := Lib.hid hQb
  have HF0 := Lib.hid hF
  have HQN := Lib.hid hQ
  obtain ⟨S, hS⟩ : ∃ S, bytes l = S := ⟨_, rfl⟩
  rw [hS] at hcv ⊢
  have hz := hbb.size
  have Q0 : 0 ≤ Q := by omega
  have Q1 : Q < 128 := by omega
  clear hn hbs hT hbb ht hW1 hcap hsz0 hS hob hob2 hQb hF hQ hq
  go_enter Tryd.func43, Tryd.ntmps43
  go_wp2
  go_loopw [6, 7] (fun ov iv wr => ∃ (i : Nat) (pre : List Int), iv = .int .i64 i ∧ i ≤ n ∧ pre ++ M.qB Q (M.pn l i) = F ∧ pre.length ≤ 4 * i ∧ OwnB W1.heap.size wr ov (q :: M.encZs pre) ∧ Below W1.heap.size W1 wr) (fun _ iv _ => n - (intOf iv).toNat)
  case atStart => exact ⟨0, [], rfl, by omega, HF0.out, by simp, HO.out, (Below.refl _ _).alloc (Nat.le_refl _) _⟩
  case round =>
    obtain ⟨i, pre, rfl, hi, hpre, hpl, ho, hb⟩ := hrel
    have hsz := hb.size
    by_cases hlt : i < n
    · have hil : i < l.length := by rw [Hn.out]; exact hlt
      obtain ⟨ok, hnx⟩ := M.next_dec l i hil
      have N1 := next_any _ l i _ wr (HT.out.keep hb).1 (Hbs.out.keep hb) (by rw [Hn.out]; omega) hnx
      unfold tri at N1
      dsimp only at N1
      have hw := M.dec_width (l.drop i)
      have hle := M.dec_le (l.drop i) (by simp; omega)
      have hdr := M.dec_cp (l.drop i)
      have hlow := M.dec_low (l.drop i)
      rw [List.length_drop, Hn.out] at hle
      rw [qB_at Q l i hil] at hpre
      unfold M.ptv at hpre
      obtain ⟨D, hD⟩ : ∃ D, (M.dec (l.drop i)).1 = D := ⟨_, rfl⟩
      obtain ⟨K, hK⟩ : ∃ D, (M.dec (l.drop i)).2 = D := ⟨_, rfl⟩
      rw [hD, hK] at N1 hpre hlow
      rw [hD] at hdr
      rw [hK] at hw hle
      have hw1 := hw.1
      have hw4 := hw.2
      obtain ⟨j, hj⟩ : ∃ j, i + K = j := ⟨_, rfl⟩
      have hji : (i : Int) + K = j := by omega
      rw [hj] at hpre
      obtain ⟨x, hx⟩ : ∃ x, (M.pn l j).getD 0 0 = x := ⟨_, rfl⟩
      rw [hx] at hpre
      obtain ⟨g, hg⟩ : ∃ g, M.qt Q (if D = 0 then 65533 else (D : Int)) x = g := ⟨_, rfl⟩
      have hgl : g.length ≤ 4 := by rw [← hg]; exact qt_len _ _ _
      rw [hg] at hpre
      have hpre2 : (pre ++ g) ++ M.qB Q (M.pn l j) = F := by rw [← hpre]; simp
      have Hpre := Lib.hid hpre2
      have hpl2 : (pre ++ g).length ≤ 4 * j := by simp; omega
      have hel : (q :: M.encZs pre).length ≤ 2000000 := by
        have := encZs_le pre _ hpl
        simp; omega
      have hea : q :: M.encZs (pre ++ g) = (q :: M.encZs pre) ++ M.encZs g := by rw [M.encZs_append]; simp
      obtain ⟨R, hR⟩ : ∃ R, q :: M.encZs pre = R := ⟨_, rfl⟩
      rw [hR] at ho hel hea
      have Hea := Lib.hid hea
      have HN := Lib.hid N1
      have HC := Lib.hid (HT.out.keep hb)
      have Hj := Lib.hid hj
      have Hx := Lib.hid hx
      have hjn : j ≤ n := by omega
      clear N1 hpre hpre2 hR hD hK hnx hw hil hea hj hx
      by_cases h0 : D = 0
      · subst h0
        rw [if_pos rfl] at hg
        have hg2 : g = [65533] := by rw [← hg]; unfold M.qt; rw [if_neg (by omega), if_neg (by decide)]
        have P := Lib.hid (fun v W hv hB => qput_any W1.heap.size v R (q :: M.encZs (pre ++ g)) 65533 W hv (by omega) hB (by rw [Hea.out, hg2, M.encZs_cons, M.encZs_nil, List.append_nil]))
        clear hg hg2 hlow hdr
        go_wp2_with fail
        refine (HN.out).mono ?_
        rintro e w2 ⟨rfl, hb2⟩
        have ho2 := OwnB.keep ho hb2
        have hb3 := hb.trans (hb2.mono hsz)
        have hb3z := hb3.size
        clear hb hb2 ho
        go_wp2_with fail
        refine (P.out _ _ ho2 hb3z).mono ?_
        rintro e w3 ⟨v3, rfl, ho3, hb4⟩
        have hb5 := hb3.trans hb4
        clear hb3 hb4 ho2
        go_wp2
        go_roundw
        case rel => exact ⟨j, pre ++ g, by have := Hj.out; go_num, hjn, Hpre.out, hpl2, ho3, hb5⟩
        case measure => have := Hj.out; simp [intOf]; omega
      rw [if_neg h0] at hg
      have t0 : ((D : Int) == 0) = false := by rw [beq_eq_false_iff_ne]; omega
      have hcpD := (M.isCP_iff D).1 hdr
      by_cases hq9 : (D : Int) = Q ∨ (D : Int) = 92
      · have hg2 : g = [92, (D : Int)] := by rw [← hg]; unfold M.qt; rw [if_pos hq9]
        have heb : M.encZs g = [92, D.toUInt8] := by
          rw [hg2, M.encZs_cons, M.encZs_cons, M.encZs_nil, M.enc_ascii 92 (by decide) (by decide), M.enc_ascii D (by omega) (by omega)]; rfl
        have hd8 : (D.toUInt8.toNat : Int) = (D : Int) := by rw [M.toU8 D (by omega)]
        rw [heb] at Hea
        have D1 : (D : Int) < 128 := by omega
        have D0 : (0 : Int) ≤ D := by omega
        have TB := Lib.hid (fun W => two_byte W 92 D.toUInt8 92 D rfl hd8)
        have hway : ((D : Int) == 92) = true ∨ (((D : Int) == 92) = false ∧ ((D : Int) == Q) = true) := by
          by_cases h92 : (D : Int) = 92
          · left; rw [h92]; rfl
          · right; refine ⟨by rw [beq_eq_false_iff_ne]; exact h92, by rw [beq_iff_eq]; omega⟩
        clear hg hg2 hlow hdr heb hd8 hcpD hq9 h0
        rcases hway with hw92 | ⟨hw92, hwQ⟩
        all_goals
          go_wp2_with fail
          refine (HN.out).mono ?_
          rintro e w2 ⟨rfl, hb2⟩
          have ho2 := OwnB.keep ho hb2
          have hb3 := hb.trans (hb2.mono hsz)
          have hb3z := hb3.size
          have hb3a := hb3.alloc hb3z (.cells #[.int .u8 92, .int .u8 D] 5)
          have hoa : OwnB W1.heap.size (w2.alloc (.cells #[.int .u8 92, .int .u8 D] 5)) u6 R := World.ownsRow.alloc ho2 _
          have hb3az := hb3a.size
          clear hb hb2 ho hb3 ho2
          go_wp2_with (at_builtin; refine wpl_append rfl _ _ rfl W1.heap.size u6 (.slice (some ⟨w2.heap.size, 0, none⟩) 2 2) R [92, D.toUInt8] (q :: M.encZs (pre ++ g)) rfl hoa rfl (TB.out w2) (nnb_some _ _ _) (by simp; omega) hb3az (by rw [Hea.out]) ?_)
          intro v6 w6 ho6 hb6
          have hb7 := hb3a.trans hb6
          clear hb3a hb6 hoa
          go_wp2
          go_roundw
          case rel => exact ⟨j, pre ++ g, by have := Hj.out; go_num, hjn, Hpre.out, hpl2, ho6, hb7⟩
          case measure => have := Hj.out; simp [intOf]; omega
      have t92 : ((D : Int) == 92) = false := by rw [beq_eq_false_iff_ne]; omega
      have tQ : ((D : Int) == Q) = false := by rw [beq_eq_false_iff_ne]; omega
      by_cases hlb : D = 10 ∨ D = 12 ∨ D = 13
      · have hK1 := (hlow (by omega)).1
        obtain ⟨mo, hmo⟩ : ∃ r, M.nextAt l j = r := ⟨_, rfl⟩
        have hnj := nextj l j
        rw [hmo, Hx.out] at hnj
        have HN2 := Lib.hid (fun W (hW : Tabs W) (hv : Bs W (.slice (some ⟨w.heap.size, 0, none⟩) n cap) l) => next_any _ l j mo W hW hv (by rw [Hn.out]; omega) hmo)
        obtain ⟨x1, x2, x3⟩ := mo
        simp only at hnj
        have hg2 : g = 92 :: M.hexd D ++ (if M.jn x then [32] else []) := by
          rw [← hg]; unfold M.qt; rw [if_neg (by omega), if_pos (by omega)]
        have heb : M.encZs g = lbB D (M.jn x) := by rw [hg2]; rfl
        rw [heb] at Hea
        rw [← hnj] at Hea
        have LB := Lib.hid (fun b W hW => lbreak_any D b W hW hlb)
        have JN := Lib.hid (fun W => joins_any x1 _ W rfl)
        obtain ⟨jx, hjx⟩ : ∃ jx, M.jn x1 = jx := ⟨_, rfl⟩
        rw [hjx] at Hea JN
        have hll : ∀ b, (lbB D b).length ≤ 16 := by
          intro b
          unfold lbB
          have h1 : (92 :: M.hexd D ++ (if b then [32] else [])).length ≤ 4 := by unfold M.hexd; split <;> split <;> simp
          have := encZs_le _ _ h1
          omega
        have Hll := Lib.hid hll
        have hway : ((D : Int) == 10) = true ∨ (((D : Int) == 10) = false ∧ ((D : Int) == 12) = true) ∨ (((D : Int) == 10) = false ∧ ((D : Int) == 12) = false ∧ ((D : Int) == 13) = true) := by
          rcases hlb with rfl | rfl | rfl
          · left; rfl
          · right; left; exact ⟨by decide, by decide⟩
          · right; right; exact ⟨by decide, by decide, by decide⟩
        clear hg hg2 hlow hdr heb hcpD hq9 h0 hjx hnj hmo hll hlb hK1
        unfold tri at HN2
        simp only at HN2
        cases x3 with
        | false =>
          simp only [Bool.false_and] at Hea
          have HLB := Lib.hid (fun W hW => LB.out false W hW)
          obtain ⟨u, hu⟩ : ∃ u, lbB D false = u := ⟨_, rfl⟩
          have hul := Hll.out false
          rw [hu] at Hea hul HLB
          clear hu
          rcases hway with hwa | ⟨hwa, hwb⟩ | ⟨hwa, hwb, hwc⟩
          all_goals
            as_aux_lemma =>
              go_wp2_with fail
              refine (HN.out).mono ?_
              rintro e w2 ⟨rfl, hb2⟩
              have ho2 := OwnB.keep ho hb2
              have hb3 := hb.trans (hb2.mono hsz)
              have hb3z := hb3.size
              have HC3 := Lib.hid (HN2.out w2 (HC.out.keep hb2).1 (Hbs.out.keep hb3))
              have HC4 := Lib.hid (HC.out.keep hb2)
              clear hb hb2 ho
              go_wp2_with fail
              refine (HC3.out).mono ?_
              rintro e w3 ⟨rfl, hb2⟩
              have ho3 := OwnB.keep ho2 hb2
              have hb4 := hb3.trans (hb2.mono hb3z)
              have hb4z := hb4.size
              have HC5 := Lib.hid (HC4.out.keep hb2)
              clear hb2 hb3 ho2
              go_wp2_with fail
              refine (HLB.out _ HC5.out.2).mono ?_
              rintro e w4 ⟨rfl, hb2⟩
              have ho4 := OwnB.keep ho3 hb2
              have hb5 := hb4.trans (hb2.mono hb4z)
              have hb5z := hb5.size
              clear hb2 hb4 ho3
              go_wp2_with (at_builtin; refine wpl_append_str rfl _ _ rfl W1.heap.size u6 R u (q :: M.encZs (pre ++ g)) rfl ho4 rfl (by omega) hb5z (by rw [Hea.out]) ?_)
              intro v6 w6 ho6 hb6
              have hb7 := hb5.trans hb6
              clear hb5 hb6 ho4
              go_wp2
              go_roundw
              case rel => exact ⟨j, pre ++ g, by have := Hj.out; go_num, hjn, Hpre.out, hpl2, ho6, hb7⟩
              case measure => have := Hj.out; simp [intOf]; omega
        | true =>
          simp only [Bool.true_and] at Hea
          have HLB := Lib.hid (fun W hW => LB.out jx W hW)
          obtain ⟨u, hu⟩ : ∃ u, lbB D jx = u := ⟨_, rfl⟩
          have hul := Hll.out jx
          rw [hu] at Hea hul HLB
          clear hu
          rcases hway with hwa | ⟨hwa, hwb⟩ | ⟨hwa, hwb, hwc⟩
          all_goals
            as_aux_lemma =>
              go_wp2_with fail
              refine (HN.out).mono ?_
              rintro e w2 ⟨rfl, hb2⟩
              have ho2 := OwnB.keep ho hb2
              have hb3 := hb.trans (hb2.mono hsz)
              have hb3z := hb3.size
              have HC3 := Lib.hid (HN2.out w2 (HC.out.keep hb2).1 (Hbs.out.keep hb3))
              have HC4 := Lib.hid (HC.out.keep hb2)
              clear hb hb2 ho
              go_wp2_with fail
              refine (HC3.out).mono ?_
              rintro e w3 ⟨rfl, hb2⟩
              have ho3 := OwnB.keep ho2 hb2
              have hb4 := hb3.trans (hb2.mono hb3z)
              have hb4z := hb4.size
              have HC5 := Lib.hid (HC4.out.keep hb2)
              clear hb2 hb3 ho2
              go_wp2_with fail
              refine (JN.out _).mono ?_
              rintro e w' ⟨rfl, rfl⟩
              go_wp2_with fail
              refine (HLB.out _ HC5.out.2).mono ?_
              rintro e w4 ⟨rfl, hb2⟩
              have ho4 := OwnB.keep ho3 hb2
              have hb5 := hb4.trans (hb2.mono hb4z)
              have hb5z := hb5.size
              clear hb2 hb4 ho3
              go_wp2_with (at_builtin; refine wpl_append_str rfl _ _ rfl W1.heap.size u6 R u (q :: M.encZs (pre ++ g)) rfl ho4 rfl (by omega) hb5z (by rw [Hea.out]) ?_)
              intro v6 w6 ho6 hb6
              have hb7 := hb5.trans hb6
              clear hb5 hb6 ho4
              go_wp2
              go_roundw
              case rel => exact ⟨j, pre ++ g, by have := Hj.out; go_num, hjn, Hpre.out, hpl2, ho6, hb7⟩
              case measure => have := Hj.out; simp [intOf]; omega
      have ta : ((D : Int) == 10) = false := by rw [beq_eq_false_iff_ne]; omega
      have tb : ((D : Int) == 12) = false := by rw [beq_eq_false_iff_ne]; omega
      have tc : ((D : Int) == 13) = false := by rw [beq_eq_false_iff_ne]; omega
      have hg2 : g = [(D : Int)] := by rw [← hg]; unfold M.qt; rw [if_neg hq9, if_neg (by omega)]
      have P := Lib.hid (fun v W hv hB => qput_any W1.heap.size v R (q :: M.encZs (pre ++ g)) D W hv (by omega) hB (by rw [Hea.out, hg2, M.encZs_cons, M.encZs_nil, List.append_nil]))
      clear hg hg2 hlow hdr hlb hq9 h0 hcpD
      go_wp2_with fail
      refine (HN.out).mono ?_
      rintro e w2 ⟨rfl, hb2⟩
      have ho2 := OwnB.keep ho hb2
      have hb3 := hb.trans (hb2.mono hsz)
      have hb3z := hb3.size
      clear hb hb2 ho
      go_wp2_with fail
      refine (P.out _ _ ho2 hb3z).mono ?_
      rintro e w3 ⟨v3, rfl, ho3, hb4⟩
      have hb5 := hb3.trans hb4
      clear hb3 hb4 ho2
      go_wp2
      go_roundw
      case rel => exact ⟨j, pre ++ g, by have := Hj.out; go_num, hjn, Hpre.out, hpl2, ho3, hb5⟩
      case measure => have := Hj.out; simp [intOf]; omega
    · rw [M.pn_out l i (by rw [Hn.out]; omega)] at hpre
      have hpre2 : pre = F := by simpa [M.qB] using hpre
      subst hpre2
      have hel : (q :: M.encZs pre).length ≤ 2000000 := by
        have := encZs_le pre _ hpl
        simp; omega
      have hea : (q :: M.encZs pre) ++ [q] = t := by
        rw [← Ht.out, M.encZs] ; simp
      have Hea := Lib.hid hea
      obtain ⟨R, hR⟩ : ∃ R, q :: M.encZs pre = R := ⟨_, rfl⟩
      rw [hR] at ho hel Hea
      have OB := Lib.hid (fun W => one_byte W q Q HQN.out)
      have hge : (n : Int) ≤ i := by omega
      have hba := hb.alloc hsz (.cells #[.int .u8 Q] 5)
      have hoa : OwnB W1.heap.size (wr.alloc (.cells #[.int .u8 Q] 5)) u6 R := World.ownsRow.alloc ho _
      have hbaz := hba.size
      clear hpre hR hea ho hb
      go_wp2_with (at_builtin; refine wpl_append rfl _ _ rfl W1.heap.size u6 (.slice (some ⟨wr.heap.size, 0, none⟩) 1 1) R [q] t rfl hoa rfl (OB.out wr) (nnb_some _ _ _) (by simp; omega) hbaz Hea.out ?_)
      intro v6 w6 ho6 hb6
      have hb7 := hba.trans hb6
      have hcv2 := conv_own ho6
      have HF : Hid (StP w t (.returned (.string (bytes t))) w6) := Lib.hid ⟨rfl, Hbb.out.trans (hb7.mono hz)⟩
      clear hba hb6 hoa ho6 hb7
      go_wp2
      go_ret
      exact HF.out
set_option maxRecDepth 100000 in
set_option maxHeartbeats 1000000 in
theorem ctextq_any (l t : List UInt8) (w : World) (hT : TabsE w) (hl : l.length ≤ 100000) (ht : M.qText (M.pn l 0) = t) :
    Calls Tryd.prog 22 #[.string (bytes l)] w (StP w t) := by
  unfold M.qText at ht
  have Q1 := Lib.hid (fun W hW => qtext_any l _ 34 W hW hl (.inl rfl) rfl)
  have Q2 := Lib.hid (fun W hW => qtext_any l _ 39 W hW hl (.inr rfl) rfl)
  rw [show ((34 : UInt8).toNat : Int) = 34 from rfl] at Q1
  rw [show ((39 : UInt8).toNat : Int) = 39 from rfl] at Q2
  obtain ⟨A, hA⟩ : ∃ A, M.encZs (M.qF 34 (M.pn l 0)) = A := ⟨_, rfl⟩
  obtain ⟨B, hB⟩ : ∃ A, M.encZs (M.qF 39 (M.pn l 0)) = A := ⟨_, rfl⟩
  rw [hA, hB] at ht
  rw [hA] at Q1
  rw [hB] at Q2
  unfold StP at Q1 Q2
  have sA := bytes_size A
  have sB := bytes_size B
  obtain ⟨SA, hSA⟩ : ∃ A', bytes A = A' := ⟨_, rfl⟩
  obtain ⟨SB, hSB⟩ : ∃ A', bytes B = A' := ⟨_, rfl⟩
  rw [hSA] at Q1 sA
  rw [hSB] at Q2 sB
  rw [← sA, ← sB] at ht
  obtain ⟨S, hS⟩ : ∃ S, bytes l = S := ⟨_, rfl⟩
  rw [hS] at Q1 Q2 ⊢
  have HT := Lib.hid hT
  have HA := Lib.hid hSA
  have HB := Lib.hid hSB
  clear hSA hSB hA hB hS hT sA sB
  by_cases hlt : SB.size < SA.size
  · rw [if_pos hlt] at ht
    subst ht
    have q1 : decide ((SB.size : Int) < SA.size) = true := by simpa using hlt
    have q2 : decide (SB.size < SA.size) = true := by simpa using hlt
    clear hlt
    go_enter Tryd.func22, Tryd.ntmps22
    go_wp2_with fail
    refine (Q1.out _ HT.out).mono ?_
    rintro e w2 ⟨rfl, hb2⟩
    have HT2 := Lib.hid (HT.out.keep hb2)
    go_wp2_with fail
    refine (Q2.out _ HT2.out).mono ?_
    rintro e w3 ⟨rfl, hb3⟩
    have HF : Hid (StP w B (.returned (.string SB)) w3) := Lib.hid ⟨by rw [HB.out], hb2.trans (hb3.mono hb2.size)⟩
    clear hb2 hb3
    go_wp2
    go_ret
    exact HF.out
  · rw [if_neg hlt] at ht
    subst ht
    have q1 : decide ((SB.size : Int) < SA.size) = false := by simpa using hlt
    have q2 : decide (SB.size < SA.size) = false := by simpa using hlt
    clear hlt
    go_enter Tryd.func22, Tryd.ntmps22
    go_wp2_with fail
    refine (Q1.out _ HT.out).mono ?_
    rintro e w2 ⟨rfl, hb2⟩
    have HT2 := Lib.hid (HT.out.keep hb2)
    go_wp2_with fail
    refine (Q2.out _ HT2.out).mono ?_
    rintro e w3 ⟨rfl, hb3⟩
    have HF : Hid (StP w A (.returned (.string SA)) w3) := Lib.hid ⟨by rw [HA.out], hb2.trans (hb3.mono hb2.size)⟩
    clear hb2 hb3
    go_wp2
    go_ret
    exact HF.out
end Go.Proofs.YtkaojigdogeliaaDoor
