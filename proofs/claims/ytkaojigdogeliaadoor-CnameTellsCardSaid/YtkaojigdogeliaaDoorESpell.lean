/- How the program spells the rest of a name, code point by code point. -/
import Derived.Test.YtkaojigdogeliaaDoorENum
import Derived.Test.YtkaojigdogeliaaDoorEName
import Derived.Test.YtkaojigdogeliaaDoorUPut
import Derived.Test.YtkaojigdogeliaaDoorUConv
import Derived.Test.YtkaojigdogeliaaDoorUApp
namespace Go.Proofs.YtkaojigdogeliaaDoor
open Go.RowKit
set_option linter.unusedVariables false
set_option linter.unusedSimpArgs false

def NNb (v : Value) : Prop := ∀ n c, v = .slice none n c → c = 0
theorem nnb_some (a : Addr) (n c : Nat) : NNb (.slice (some a) n c) := fun n c h => by simp at h
theorem OwnB.nnb {B : Nat} {w : World} {v : Value} {l : List UInt8} (h : OwnB B w v l) : NNb v := by
  obtain ⟨_, ⟨rfl, h0⟩ | ⟨g, cap, cur, rfl, _⟩⟩ := h
  · intro n c h; simp at h; omega
  · exact nnb_some _ _ _
/-- Bytes are returned. -/
def BsP (w : World) (t : List UInt8) (e : Ending) (w' : World) : Prop := ∃ v, e = .returned v ∧ Bs w' v t ∧ NNb v ∧ Below w.heap.size w w'
theorem bytes_toList (l : List UInt8) : (bytes l).data.toList = l := by simp [bytes]
theorem one_byte (w : World) (c : UInt8) (x : Int) (hx : (c.toNat : Int) = x) : Bs (w.alloc (.cells #[.int .u8 x] 5)) (.slice (some ⟨w.heap.size, 0, none⟩) 1 1) [c] := by
  subst hx
  exact bs_cells_new w [c] _ 1 rfl rfl (by simp)
theorem pt_cp (D : Nat) (h : M.isCP D = true) : M.okP (if D = 0 then 65533 else (D : Int)) := by
  unfold M.okP
  split
  · decide
  · exact ⟨h, by omega⟩
set_option maxRecDepth 100000 in
set_option maxHeartbeats 2000000 in
theorem spelling_any (D : Nat) (t : List UInt8) (w : World) (hT : TzCell w) (hD : D ≤ 1114111) (ht : M.encZs (M.sp (if D = 0 then 65533 else (D : Int))) = t) :
    Calls Tryd.prog 42 #[.int .i64 (D : Int)] w (BsP w t) := by
  by_cases h0 : D = 0
  · subst h0
    rw [if_pos rfl] at ht
    have e : M.sp 65533 = [65533] := by decide
    rw [e, M.encZs_cons, M.encZs_nil, List.append_nil] at ht
    have P := Lib.hid (put_any (.slice none 0 0) [] t 65533 w (bs_nil _) (by simp) (by simpa using ht))
    clear ht e hT hD
    go_enter Tryd.func42, Tryd.ntmps42
    go_wp2_with fail
    refine (P.out).mono ?_
    rintro e w1 ⟨v1, rfl, ho, hb⟩
    have hbs := ho.bs
    have hnn := ho.nnb
    have HF : Hid (BsP w t (.returned v1) w1) := Lib.hid ⟨v1, rfl, hbs, hnn, hb⟩
    clear ho hb hbs hnn
    go_wp2
    go_ret
    exact HF.out
  rw [if_neg h0] at ht
  have t0 : ((D : Int) == 0) = false := by rw [beq_eq_false_iff_ne]; omega
  by_cases hn : (D : Int) < 32 ∨ (D : Int) = 127
  · have e : M.sp D = M.numN D := by unfold M.sp; rw [if_pos hn]
    rw [e] at ht
    have N := Lib.hid (enum_any D w hT (by omega))
    rw [ht] at N
    have hlen : t.length ≤ 100 := by
      have h1 := (M.encZs_len (M.numN D)).2
      have h2 : (M.numN D).length ≤ 4 := by unfold M.numN M.hexd; split <;> simp
      rw [← ht]; omega
    have hcv := fun W => bw_conv W (bytes t)
    have Hbs := Lib.hid (fun W => bw_bs W (bytes t) (by rw [bytes_size]; omega))
    have Hbb := Lib.hid (fun W => bw_below W (bytes t))
    have Hlen := Lib.hid hlen
    clear hlen
    rcases hn with hn | hn
    · have t1 : decide ((D : Int) < 32) = true := by simp; omega
      clear ht e hT hD h0
      go_enter Tryd.func42, Tryd.ntmps42
      go_wp2_with fail
      refine (N.out).mono ?_
      rintro e w1 ⟨rfl, hb⟩
      have HF : Hid (BsP w t (.returned (.slice (some ⟨w1.heap.size, 0, none⟩) (bytes t).size (grownCap w1 (bytes t).size 0 5))) (Lib.bytesWorld w1 5 (bytes t))) :=
        Lib.hid ⟨_, rfl, by have := Hbs.out w1; rwa [bytes_toList] at this, nnb_some _ _ _, hb.trans ((Hbb.out w1).mono hb.size)⟩
      clear hb
      go_wp2
      go_ret
      exact HF.out
    · have hn' : D = 127 := by omega
      subst hn'
      clear ht e hT hD h0 hn
      go_enter Tryd.func42, Tryd.ntmps42
      go_wp2_with fail
      refine (N.out).mono ?_
      rintro e w1 ⟨rfl, hb⟩
      have HF : Hid (BsP w t (.returned (.slice (some ⟨w1.heap.size, 0, none⟩) (bytes t).size (grownCap w1 (bytes t).size 0 5))) (Lib.bytesWorld w1 5 (bytes t))) :=
        Lib.hid ⟨_, rfl, by have := Hbs.out w1; rwa [bytes_toList] at this, nnb_some _ _ _, hb.trans ((Hbb.out w1).mono hb.size)⟩
      clear hb
      go_wp2
      go_ret
      exact HF.out
  · have t1 : decide ((D : Int) < 32) = false := by simp; omega
    have t2 : ((D : Int) == 127) = false := by rw [beq_eq_false_iff_ne]; omega
    cases hi : M.nIn D with
    | true =>
      have e : M.sp D = [(D : Int)] := by unfold M.sp; rw [if_neg hn, if_pos hi]
      rw [e, M.encZs_cons, M.encZs_nil, List.append_nil] at ht
      have X := Lib.hid (nin_any D true w hi)
      have P := Lib.hid (put_any (.slice none 0 0) [] t D w (bs_nil _) (by simp) (by simpa using ht))
      clear ht e hT hD h0 hn hi
      go_enter Tryd.func42, Tryd.ntmps42
      go_wp2_with fail
      refine (X.out).mono ?_
      rintro e w' ⟨rfl, rfl⟩
      go_wp2_with fail
      refine (P.out).mono ?_
      rintro e w1 ⟨v1, rfl, ho, hb⟩
      have HF : Hid (BsP w t (.returned v1) w1) := Lib.hid ⟨v1, rfl, ho.bs, ho.nnb, hb⟩
      clear ho hb
      go_wp2
      go_ret
      exact HF.out
    | false =>
      have e : M.sp D = [92, (D : Int)] := by unfold M.sp; rw [if_neg hn, if_neg (by simp [hi])]
      rw [e, M.encZs_cons, M.encZs_cons, M.encZs_nil, List.append_nil, M.enc_ascii 92 (by decide) (by decide)] at ht
      have X := Lib.hid (nin_any D false w hi)
      have P := Lib.hid (fun W v hv => put_any v [92] t D W hv (by simp) ht)
      clear ht e hT hD h0 hn hi
      go_enter Tryd.func42, Tryd.ntmps42
      go_wp2_with fail
      refine (X.out).mono ?_
      rintro e w' ⟨rfl, rfl⟩
      go_wp2_with fail
      refine (P.out _ _ (one_byte w 92 92 rfl)).mono ?_
      rintro e w1 ⟨v1, rfl, ho, hb⟩
      have hb2 := ((Below.refl w.heap.size w).alloc (Nat.le_refl _) (.cells #[.int .u8 92] 5)).trans (hb.mono (by simp))
      have HF : Hid (BsP w t (.returned v1) w1) := Lib.hid ⟨v1, rfl, ho.bs, ho.nnb, hb2⟩
      clear ho hb hb2
      go_wp2
      go_ret
      exact HF.out
/-- A text is returned. -/
def StP (w : World) (t : List UInt8) (e : Ending) (w' : World) : Prop := e = .returned (.string (bytes t)) ∧ Below w.heap.size w w'
theorem spR_snoc (l : List Int) (r : Int) : M.encZs (M.spR (l ++ [r])) = M.encZs (M.spR l) ++ M.encZs (M.sp r) := by
  simp [M.spR, M.encZs_append]
theorem spR_bytes_len (l : List Int) : (M.encZs (M.spR l)).length ≤ 16 * l.length := by
  have h1 := (M.encZs_len (M.spR l)).2
  have h2 := M.spR_len l
  omega
set_option maxRecDepth 100000 in
set_option maxHeartbeats 2000000 in
theorem sprest_any (l t : List UInt8) (w : World) (hT : TabsE w) (hl : l.length ≤ 100000) (ht : M.encZs (M.spR (M.pn l 0)) = t) :
    Calls Tryd.prog 20 #[.string (bytes l)] w (StP w t) := by
  have hsz0 : (bytes l).size = l.length := bytes_size l
  obtain ⟨n, hn⟩ : ∃ n, l.length = n := ⟨_, rfl⟩
  have hcv := bw_conv w (bytes l)
  have hbs := bw_bs w (bytes l) (by rw [hsz0]; omega)
  have hbb := bw_below w (bytes l)
  rw [bytes_toList] at hbs
  rw [hsz0] at hcv hbs
  rw [hn] at hcv hbs hl
  obtain ⟨W1, hW1⟩ : ∃ W1, Lib.bytesWorld w 5 (bytes l) = W1 := ⟨_, rfl⟩
  rw [hW1] at hcv hbs hbb
  obtain ⟨cap, hcap⟩ : ∃ W1, grownCap w n 0 5 = W1 := ⟨_, rfl⟩
  rw [hcap] at hcv hbs
  have Hn := Lib.hid hn
  have Hbs := Lib.hid hbs
  have HT := Lib.hid (hT.keep hbb)
  have Hbb := Lib.hid hbb
  have Ht := Lib.hid ht
  obtain ⟨S, hS⟩ : ∃ S, bytes l = S := ⟨_, rfl⟩
  rw [hS] at hcv ⊢
  have hz := hbb.size
  clear hn hbs hT hbb ht hW1 hcap hsz0 hS
  go_enter Tryd.func20, Tryd.ntmps20
  go_wp2
  go_loopw [4, 5, 6, 7, 8] (fun ov iv _ _ _ wr => ∃ (i : Nat) (pre : List Int), iv = .int .i64 i ∧ i ≤ n ∧ pre ++ M.pn l i = M.pn l 0 ∧ pre.length ≤ i ∧ OwnB W1.heap.size wr ov (M.encZs (M.spR pre)) ∧ Below W1.heap.size W1 wr) (fun _ iv _ _ _ _ => n - (intOf iv).toNat)
  case atStart => exact ⟨0, [], rfl, by omega, rfl, by simp, World.ownsRow_nil _ _ _ _, Below.refl _ _⟩
  case round =>
    obtain ⟨i, pre, rfl, hi, hpre, hpl, ho, hb⟩ := hrel
    have hsz := hb.size
    by_cases hlt : i < n
    · have hil : i < l.length := by rw [Hn.out]; exact hlt
      obtain ⟨ok, hnx⟩ := M.next_dec l i hil
      have N1 := next_any _ l i _ wr (HT.out.keep hb).1 (Hbs.out.keep hb) (by rw [Hn.out]; omega) hnx
      unfold tri at N1
      dsimp only at N1
      have hw := M.dec_width (l.drop i)
      have hle := M.dec_le (l.drop i) (by simp; omega)
      have hdr := M.dec_rune (l.drop i)
      rw [List.length_drop, Hn.out] at hle
      rw [M.pn_in l i hil] at hpre
      unfold M.ptv at hpre
      obtain ⟨D, hD⟩ : ∃ D, (M.dec (l.drop i)).1 = D := ⟨_, rfl⟩
      obtain ⟨K, hK⟩ : ∃ D, (M.dec (l.drop i)).2 = D := ⟨_, rfl⟩
      rw [hD, hK] at N1 hpre
      rw [hD] at hdr
      rw [hK] at hw hle
      have hpre2 : (pre ++ [if D = 0 then 65533 else (D : Int)]) ++ M.pn l (i + K) = M.pn l 0 := by rw [← hpre]; simp
      have Hpre := Lib.hid hpre2
      obtain ⟨u, hu⟩ : ∃ u, M.encZs (M.sp (if D = 0 then 65533 else (D : Int))) = u := ⟨_, rfl⟩
      have hul : u.length ≤ 16 := by
        have h1 := (M.encZs_len (M.sp (if D = 0 then 65533 else (D : Int)))).2
        have h2 := M.sp_len (if D = 0 then 65533 else (D : Int))
        rw [← hu]; omega
      have hsn := spR_snoc pre (if D = 0 then 65533 else (D : Int))
      rw [hu] at hsn
      have hbl := spR_bytes_len pre
      obtain ⟨R, hR⟩ : ∃ R, M.encZs (M.spR pre) = R := ⟨_, rfl⟩
      rw [hR] at ho hsn hbl
      have Hsn := Lib.hid hsn
      have HS := Lib.hid (fun W hW => spelling_any D u W hW hdr hu)
      have HN := Lib.hid N1
      have HC := Lib.hid (HT.out.keep hb).2
      have hw1 := hw.1
      clear N1 hpre hpre2 hu hsn hR hD hK hnx hw hdr hil
      go_wp2_with fail
      refine (HN.out).mono ?_
      rintro e w2 ⟨rfl, hb2⟩
      have HC2 := Lib.hid (HC.out.keep hb2)
      have ho2 := OwnB.keep ho hb2
      have hb3 := hb.trans (hb2.mono hsz)
      clear hb hb2 ho
      go_wp2_with fail
      refine (HS.out _ HC2.out).mono ?_
      rintro e w3 ⟨v3, rfl, hv3, hnn, hb4⟩
      have ho3 := OwnB.keep ho2 hb4
      have hb5 := hb3.trans (hb4.mono hb3.size)
      have hb5z : w.heap.size ≤ w3.heap.size := by have := hb5.size; omega
      have hb5y := hb5.size
      clear hb3 hb4 ho2
      go_wp2_with (at_builtin; refine wpl_append rfl _ _ rfl W1.heap.size _ v3 R u (R ++ u) rfl ho3 rfl hv3 hnn (by omega) hb5y rfl ?_)
      intro v6 w6 ho6 hb6
      have hb7 := hb5.trans hb6
      clear hb5 hb6 ho3 hv3 hnn
      go_wp2
      go_roundw
      case rel => exact ⟨i + K, pre ++ [if D = 0 then 65533 else (D : Int)], by go_num, by omega, Hpre.out, by simp; omega, by rw [Hsn.out]; exact ho6, hb7⟩
      case measure => simp [intOf]; omega
    · rw [M.pn_out l i (by rw [Hn.out]; omega), List.append_nil] at hpre
      have hfull : M.encZs (M.spR pre) = t := by rw [hpre]; exact Ht.out
      rw [hfull] at ho
      have hcv2 := conv_own ho
      have hge : (n : Int) ≤ i := by omega
      have HF : Hid (StP w t (.returned (.string (bytes t))) wr) := Lib.hid ⟨rfl, Hbb.out.trans (hb.mono hz)⟩
      clear hfull hpre ho hb
      go_wp2
      go_ret
      exact HF.out
end Go.Proofs.YtkaojigdogeliaaDoor
