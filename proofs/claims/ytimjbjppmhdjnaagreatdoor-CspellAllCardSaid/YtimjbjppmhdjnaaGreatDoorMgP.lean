import Derived.Test.YtimjbjppmhdjnaaGreatDoorMgE
import Derived.Test.YtimjbjppmhdjnaaGreatDoorMgA
import Derived.Test.YtimjbjppmhdjnaaGreatDoorMgB
import Derived.Laws.Concat
import Derived.Deep.RegionHeld3
import Derived.Test.YtimjbjppmhdjnaaGreatDoorWTk
import Derived.Laws.OwnMore
import Derived.Outline
set_option maxHeartbeats 4000000
set_option maxRecDepth 100000
namespace Go.Proofs.YtimjbjppmhdjnaaGreatDoor
open Go.RowKit
set_option linter.unusedVariables false
set_option linter.unusedSimpArgs false
def NNb (v : Value) : Prop := ∀ n c, v = .slice none n c -> c = 0
theorem nnb_some (a : Addr) (n c : Nat) : NNb (.slice (some a) n c) := fun n c h => by simp at h
theorem OwnB.nnb {B : Nat} {w : World} {v : Value} {l : List UInt8} (h : OwnB B w v l) : NNb v := by
 obtain ⟨_, ⟨rfl, h0⟩ | ⟨g, cap, cur, rfl, _⟩⟩ := h
 ·intro n c h; simp at h; omega
 ·exact nnb_some _ _ _
def BsP (w : World) (t : List UInt8) (e : Ending) (w' : World) : Prop := ∃ v, e = .returned v /\ Bs w' v t /\ NNb v /\ Below w.heap.size w w'
theorem bytes_toList (l : List UInt8) : (bytes l).data.toList = l := by simp [bytes]
theorem one_byte (w : World) (c : UInt8) (x : Int) (hx : (c.toNat : Int) = x) : Bs (w.alloc (.cells #[.int .u8 x] 5)) (.slice (some ⟨w.heap.size, 0, none⟩) 1 1) [c] := by
 subst hx
 exact bs_cells_new w [c] _ 1 rfl rfl (by simp)
theorem spelling_any (D : Nat) (t : List UInt8) (w : World) (hT : TzCell w) (hD : D <= 1114111) (ht : M.encZs (M.sp (if D = 0 then 65533 else (D : Int))) = t) :
  Calls Tryz.prog 119 #[.int .i64 (D : Int)] w (BsP w t) := by
 by_cases h0 : D = 0
 ·subst h0
  rw [if_pos rfl] at ht
  have e : M.sp 65533 = [65533] := by decide
  rw [e, M.encZs_cons, M.encZs_nil, List.append_nil] at ht
  have P := Lib.hid (put_any (.slice none 0 0) [] t 65533 w (bs_nil _) (by simp) (by simpa using ht))
  clear ht e hT hD
  go_enter Tryz.func119, Tryz.ntmps119
  go_wp2_with fail
  refine (P.out).mono ?_
  rintro e w1 ⟨v1, rfl, ho, hb⟩
  have hbs := ho.bs
  have hnn := ho.nnb
  have HF : Hid (BsP w t (.returned v1) w1) := Lib.hid ⟨v1, rfl, hbs, hnn, hb⟩
  clear ho hb hbs hnn
  go_wp2
  go_ret
  exact HF.out
 rw [if_neg h0] at ht
 have t0 : ((D : Int) == 0) = false := by rw [beq_eq_false_iff_ne]; omega
 by_cases hn : (D : Int) < 32 \/ (D : Int) = 127
 ·have e : M.sp D = M.numN D := by unfold M.sp; rw [if_pos hn]
  rw [e] at ht
  have N := Lib.hid (enum_any D w hT (by omega))
  rw [ht] at N
  have hlen : t.length <= 100 := by
   have h1 := (M.encZs_len (M.numN D)).2
   have h2 : (M.numN D).length <= 4 := by unfold M.numN M.hexd; split <;> simp
   rw [<- ht]; omega
  have hcv := fun W => bw_conv W (bytes t)
  have Hbs := Lib.hid (fun W => bw_bs W (bytes t) (by rw [bytes_size]; omega))
  have Hbb := Lib.hid (fun W => bw_below W (bytes t))
  have Hlen := Lib.hid hlen
  clear hlen
  rcases hn with hn | hn
  ·have t1 : decide ((D : Int) < 32) = true := by simp; omega
   clear ht e hT hD h0
   go_enter Tryz.func119, Tryz.ntmps119
   go_wp2_with fail
   refine (N.out).mono ?_
   rintro e w1 ⟨rfl, hb⟩
   have HF : Hid (BsP w t (.returned (.slice (some ⟨w1.heap.size, 0, none⟩) (bytes t).size (grownCap w1 (bytes t).size 0 5))) (Lib.bytesWorld w1 5 (bytes t))) :=
    Lib.hid ⟨_, rfl, by have := Hbs.out w1; rwa [bytes_toList] at this, nnb_some _ _ _, hb.trans ((Hbb.out w1).mono hb.size)⟩
   clear hb
   go_wp2
   go_ret
   exact HF.out
  ·have hn' : D = 127 := by omega
   subst hn'
   clear ht e hT hD h0 hn
   go_enter Tryz.func119, Tryz.ntmps119
   go_wp2_with fail
   refine (N.out).mono ?_
   rintro e w1 ⟨rfl, hb⟩
   have HF : Hid (BsP w t (.returned (.slice (some ⟨w1.heap.size, 0, none⟩) (bytes t).size (grownCap w1 (bytes t).size 0 5))) (Lib.bytesWorld w1 5 (bytes t))) :=
    Lib.hid ⟨_, rfl, by have := Hbs.out w1; rwa [bytes_toList] at this, nnb_some _ _ _, hb.trans ((Hbb.out w1).mono hb.size)⟩
   clear hb
   go_wp2
   go_ret
   exact HF.out
 ·have t1 : decide ((D : Int) < 32) = false := by simp; omega
  have t2 : ((D : Int) == 127) = false := by rw [beq_eq_false_iff_ne]; omega
  cases hi : M.nIn D with
  | true =>
   have e : M.sp D = [(D : Int)] := by unfold M.sp; rw [if_neg hn, if_pos hi]
   rw [e, M.encZs_cons, M.encZs_nil, List.append_nil] at ht
   have X := Lib.hid (nin_any D true w hi)
   have P := Lib.hid (put_any (.slice none 0 0) [] t D w (bs_nil _) (by simp) (by simpa using ht))
   clear ht e hT hD h0 hn hi
   go_enter Tryz.func119, Tryz.ntmps119
   go_wp2_with fail
   refine (X.out).mono ?_
   rintro e w' ⟨rfl, rfl⟩
   go_wp2_with fail
   refine (P.out).mono ?_
   rintro e w1 ⟨v1, rfl, ho, hb⟩
   have HF : Hid (BsP w t (.returned v1) w1) := Lib.hid ⟨v1, rfl, ho.bs, ho.nnb, hb⟩
   clear ho hb
   go_wp2
   go_ret
   exact HF.out
  | false =>
   have e : M.sp D = [92, (D : Int)] := by unfold M.sp; rw [if_neg hn, if_neg (by simp [hi])]
   rw [e, M.encZs_cons, M.encZs_cons, M.encZs_nil, List.append_nil, M.enc_ascii 92 (by decide) (by decide)] at ht
   have X := Lib.hid (nin_any D false w hi)
   have P := Lib.hid (fun W v hv => put_any v [92] t D W hv (by simp) ht)
   clear ht e hT hD h0 hn hi
   go_enter Tryz.func119, Tryz.ntmps119
   go_wp2_with fail
   refine (X.out).mono ?_
   rintro e w' ⟨rfl, rfl⟩
   go_wp2_with fail
   refine (P.out _ _ (one_byte w 92 92 rfl)).mono ?_
   rintro e w1 ⟨v1, rfl, ho, hb⟩
   have hb2 := ((Below.refl w.heap.size w).alloc (Nat.le_refl _) (.cells #[.int .u8 92] 5)).trans (hb.mono (by simp))
   have HF : Hid (BsP w t (.returned v1) w1) := Lib.hid ⟨v1, rfl, ho.bs, ho.nnb, hb2⟩
   clear ho hb hb2
   go_wp2
   go_ret
   exact HF.out
def StP (w : World) (t : List UInt8) (e : Ending) (w' : World) : Prop := e = .returned (.string (bytes t)) /\ Below w.heap.size w w'
theorem spR_snoc (l : List Int) (r : Int) : M.encZs (M.spR (l ++ [r])) = M.encZs (M.spR l) ++ M.encZs (M.sp r) := by
 simp [M.spR, M.encZs_append]
theorem spR_bytes_len (l : List Int) : (M.encZs (M.spR l)).length <= 16 * l.length := by
 have h1 := (M.encZs_len (M.spR l)).2
 have h2 := M.spR_len l
 omega
theorem sprest_any (l t : List UInt8) (w : World) (hT : TabsE w) (hl : l.length <= 100000) (ht : M.encZs (M.spR (M.pn l 0)) = t) :
  Calls Tryz.prog 81 #[.string (bytes l)] w (StP w t) := by
 have hsz0 : (bytes l).size = l.length := bytes_size l
 obtain ⟨n, hn⟩ : ∃ n, l.length = n := ⟨_, rfl⟩
 have hcv := bw_conv w (bytes l)
 have hbs := bw_bs w (bytes l) (by rw [hsz0]; omega)
 have hbb := bw_below w (bytes l)
 rw [bytes_toList] at hbs
 rw [hsz0] at hcv hbs
 rw [hn] at hcv hbs hl
 obtain ⟨W1, hW1⟩ : ∃ W1, Lib.bytesWorld w 5 (bytes l) = W1 := ⟨_, rfl⟩
 rw [hW1] at hcv hbs hbb
 obtain ⟨cap, hcap⟩ : ∃ W1, grownCap w n 0 5 = W1 := ⟨_, rfl⟩
 rw [hcap] at hcv hbs
 have Hn := Lib.hid hn
 have Hbs := Lib.hid hbs
 have HT := Lib.hid (hT.keep hbb)
 have Hbb := Lib.hid hbb
 have Ht := Lib.hid ht
 obtain ⟨S, hS⟩ : ∃ S, bytes l = S := ⟨_, rfl⟩
 rw [hS] at hcv ⊢
 have hz := hbb.size
 clear hn hbs hT hbb ht hW1 hcap hsz0 hS
 go_enter Tryz.func81, Tryz.ntmps81
 go_wp2
 go_loopw [4, 5, 6, 7, 8] (fun ov iv _ _ _ wr => ∃ (i : Nat) (pre : List Int), iv = .int .i64 i /\ i <= n /\ pre ++ M.pn l i = M.pn l 0 /\ pre.length <= i /\ OwnB W1.heap.size wr ov (M.encZs (M.spR pre)) /\ Below W1.heap.size W1 wr) (fun _ iv _ _ _ _ => n - (intOf iv).toNat)
 case atStart => exact ⟨0, [], rfl, by omega, rfl, by simp, World.ownsRow_nil _ _ _ _, Below.refl _ _⟩
 case round =>
  obtain ⟨i, pre, rfl, hi, hpre, hpl, ho, hb⟩ := hrel
  have hsz := hb.size
  by_cases hlt : i < n
  ·have hil : i < l.length := by rw [Hn.out]; exact hlt
   obtain ⟨ok, hnx⟩ := M.next_dec l i hil
   have N1 := next_any _ l i _ wr (HT.out.keep hb).1 (Hbs.out.keep hb) (by rw [Hn.out]; omega) hnx
   unfold tri at N1
   dsimp only at N1
   have hw := M.dec_width (l.drop i)
   have hle := M.dec_le (l.drop i) (by simp; omega)
   have hdr := M.dec_rune (l.drop i)
   rw [List.length_drop, Hn.out] at hle
   rw [M.pn_in l i hil] at hpre
   unfold M.ptv at hpre
   obtain ⟨D, hD⟩ : ∃ D, (M.dec (l.drop i)).1 = D := ⟨_, rfl⟩
   obtain ⟨K, hK⟩ : ∃ D, (M.dec (l.drop i)).2 = D := ⟨_, rfl⟩
   rw [hD, hK] at N1 hpre
   rw [hD] at hdr
   rw [hK] at hw hle
   have hpre2 : (pre ++ [if D = 0 then 65533 else (D : Int)]) ++ M.pn l (i + K) = M.pn l 0 := by rw [<- hpre]; simp
   have Hpre := Lib.hid hpre2
   obtain ⟨u, hu⟩ : ∃ u, M.encZs (M.sp (if D = 0 then 65533 else (D : Int))) = u := ⟨_, rfl⟩
   have hul : u.length <= 16 := by
    have h1 := (M.encZs_len (M.sp (if D = 0 then 65533 else (D : Int)))).2
    have h2 := M.sp_len (if D = 0 then 65533 else (D : Int))
    rw [<- hu]; omega
   have hsn := spR_snoc pre (if D = 0 then 65533 else (D : Int))
   rw [hu] at hsn
   have hbl := spR_bytes_len pre
   obtain ⟨R, hR⟩ : ∃ R, M.encZs (M.spR pre) = R := ⟨_, rfl⟩
   rw [hR] at ho hsn hbl
   have Hsn := Lib.hid hsn
   have HS := Lib.hid (fun W hW => spelling_any D u W hW hdr hu)
   have HN := Lib.hid N1
   have HC := Lib.hid (HT.out.keep hb).2
   have hw1 := hw.1
   clear N1 hpre hpre2 hu hsn hR hD hK hnx hw hdr hil
   go_wp2_with fail
   refine (HN.out).mono ?_
   rintro e w2 ⟨rfl, hb2⟩
   have HC2 := Lib.hid (HC.out.keep hb2)
   have ho2 := OwnB.keep ho hb2
   have hb3 := hb.trans (hb2.mono hsz)
   clear hb hb2 ho
   go_wp2_with fail
   refine (HS.out _ HC2.out).mono ?_
   rintro e w3 ⟨v3, rfl, hv3, hnn, hb4⟩
   have ho3 := OwnB.keep ho2 hb4
   have hb5 := hb3.trans (hb4.mono hb3.size)
   have hb5z : w.heap.size <= w3.heap.size := by have := hb5.size; omega
   have hb5y := hb5.size
   clear hb3 hb4 ho2
   go_wp2_with (at_builtin; refine wpl_append rfl _ _ rfl W1.heap.size _ v3 R u (R ++ u) rfl ho3 rfl hv3 hnn (by omega) hb5y rfl ?_)
   intro v6 w6 ho6 hb6
   have hb7 := hb5.trans hb6
   clear hb5 hb6 ho3 hv3 hnn
   go_wp2
   go_roundw
   case rel => exact ⟨i + K, pre ++ [if D = 0 then 65533 else (D : Int)], by go_num, by omega, Hpre.out, by simp; omega, by rw [Hsn.out]; exact ho6, hb7⟩
   case measure => simp [intOf]; omega
  ·rw [M.pn_out l i (by rw [Hn.out]; omega), List.append_nil] at hpre
   have hfull : M.encZs (M.spR pre) = t := by rw [hpre]; exact Ht.out
   rw [hfull] at ho
   have hcv2 := conv_own ho
   have hge : (n : Int) <= i := by omega
   have HF : Hid (StP w t (.returned (.string (bytes t))) wr) := Lib.hid ⟨rfl, Hbb.out.trans (hb.mono hz)⟩
   clear hfull hpre ho hb
   go_wp2
   go_ret
   exact HF.out
theorem s_at (l : List UInt8) (k : Nat) (c : UInt8) (hk : l[k]? = some c) (h : k < (bytes l).size) : (bytes l)[k]'h = c := by
 have h2 : k < l.length := by rw [bytes_size] at h; exact h
 rw [List.getElem?_eq_getElem h2] at hk
 simp only [Option.some.injEq] at hk
 rw [<- hk]; rfl
theorem headlen_any (l : List UInt8) (k : Nat) (w : World) (hl : l.length <= 100000) (hk : M.headN l = k) :
  Calls Tryz.prog 79 #[.string (bytes l)] w fun e w' => e = .returned (.int .i64 (k : Int)) /\ w = w' := by
 have hsz : (bytes l).size = l.length := bytes_size l
 match l, hl, hk, hsz with
 | [], _, hk, hsz =>
  obtain rfl : 0 = k := hk
  obtain ⟨S, hS⟩ : ∃ S, bytes [] = S := ⟨_, rfl⟩
  rw [hS] at hsz ⊢
  simp only [List.length_nil] at hsz
  clear hS hk
  go_enter Tryz.func79, Tryz.ntmps79
  go_wp2
  go_ret
  exact ⟨rfl, rfl⟩
 | [c], _, hk, hsz =>
  have a0 := s_at [c] 0 c rfl (by rw [hsz]; simp)
  simp only [List.length_cons, List.length_nil] at hsz
  cases hd : M.nDg (c.toNat : Int) with
  | true =>
   obtain rfl : 1 = k := by rw [<- hk]; simp [M.headN, hd]
   have X := Lib.hid (ndg_any (c.toNat : Int) true w hd)
   obtain ⟨C, hC⟩ : ∃ C : Int, (c.toNat : Int) = C := ⟨_, rfl⟩
   have C0 : 0 <= C := by omega
   have C1 : C < 256 := by have := c.toNat_lt; omega
   rw [hC] at X
   obtain ⟨S, hS⟩ : ∃ S, bytes [c] = S := ⟨_, rfl⟩
   simp only [hS] at hsz a0 ⊢
   have hp0 : 0 < S.size := by omega
   have b0 : S[0]'hp0 = c := a0
   clear a0
   clear hS hk hd
   go_enter Tryz.func79, Tryz.ntmps79
   go_wp2_with fail
   refine (X.out).mono ?_
   rintro e w' ⟨rfl, rfl⟩
   go_wp2
   go_ret
   exact ⟨rfl, rfl⟩
  | false =>
   obtain rfl : 0 = k := by rw [<- hk]; simp [M.headN, hd]
   have X := Lib.hid (ndg_any (c.toNat : Int) false w hd)
   obtain ⟨C, hC⟩ : ∃ C : Int, (c.toNat : Int) = C := ⟨_, rfl⟩
   have C0 : 0 <= C := by omega
   have C1 : C < 256 := by have := c.toNat_lt; omega
   rw [hC] at X
   obtain ⟨S, hS⟩ : ∃ S, bytes [c] = S := ⟨_, rfl⟩
   simp only [hS] at hsz a0 ⊢
   have hp0 : 0 < S.size := by omega
   have b0 : S[0]'hp0 = c := a0
   clear a0
   clear hS hk hd
   go_enter Tryz.func79, Tryz.ntmps79
   go_wp2_with fail
   refine (X.out).mono ?_
   rintro e w' ⟨rfl, rfl⟩
   go_wp2
   go_ret
   exact ⟨rfl, rfl⟩
 | c :: d :: t, hl, hk, hsz =>
  have hp0 : 0 < (bytes (c :: d :: t)).size := by rw [hsz]; simp
  have hp1 : 1 < (bytes (c :: d :: t)).size := by rw [hsz]; simp
  have a0 := s_at (c :: d :: t) 0 c rfl hp0
  have a1 := s_at (c :: d :: t) 1 d rfl hp1
  have hsm : (bytes (c :: d :: t)).size <= 100000 := by rw [hsz]; exact hl
  clear hsz
  obtain ⟨S, hS⟩ : ∃ S, bytes (c :: d :: t) = S := ⟨_, rfl⟩
  simp only [hS] at hp0 hp1 a0 a1 hsm ⊢
  have b0 : S[0]'hp0 = c := a0
  have b1 : S[1]'hp1 = d := a1
  clear a0 a1
  have i0 : (0 : Int) < S.size := by omega
  have i1 : (1 : Int) < S.size := by omega
  have t0 : decide ((0 : Int) < S.size) = true := by simpa using i0
  have t1 : decide ((1 : Int) < S.size) = true := by simpa using i1
  obtain ⟨C, hC⟩ : ∃ C : Int, (c.toNat : Int) = C := ⟨_, rfl⟩
  have C0 : 0 <= C := by omega
  have C1 : C < 256 := by have := c.toNat_lt; omega
  cases hd : M.nDg (c.toNat : Int) with
  | true =>
   obtain rfl : 1 = k := by rw [<- hk]; simp [M.headN, hd]
   have X := Lib.hid (ndg_any (c.toNat : Int) true w hd)
   rw [hC] at X
   clear hS hk hd
   go_enter Tryz.func79, Tryz.ntmps79
   go_wp2_with fail
   refine (X.out).mono ?_
   rintro e w' ⟨rfl, rfl⟩
   go_wp2
   go_ret
   exact ⟨rfl, rfl⟩
  | false =>
   have X := Lib.hid (ndg_any (c.toNat : Int) false w hd)
   rw [hC] at X
   by_cases h45 : C = 45
   ·have X2 := Lib.hid (ndg_any (d.toNat : Int) _ w rfl)
    have hk2 : (if M.nDg (d.toNat : Int) = true then 2 else 0) = k := by
     rw [<- hk]
     simp only [M.headN, hd]
     have : c.toNat = 45 := by omega
     by_cases hdd : M.nDg (d.toNat : Int) = true <;> simp [this, hdd]
    obtain ⟨D, hD⟩ : ∃ C : Int, (d.toNat : Int) = C := ⟨_, rfl⟩
    have D0 : 0 <= D := by omega
    have D1 : D < 256 := by have := d.toNat_lt; omega
    rw [hD] at X2 hk2
    obtain ⟨q, hq⟩ : ∃ q, M.nDg D = q := ⟨_, rfl⟩
    rw [hq] at X2 hk2
    have c45 : (C == 45) = true := by rw [h45]; rfl
    clear hS hk hd hq h45
    cases q with
    | true =>
     obtain rfl : 2 = k := by simpa using hk2
     clear hk2
     go_enter Tryz.func79, Tryz.ntmps79
     go_wp2_with fail
     refine (X.out).mono ?_
     rintro e w' ⟨rfl, rfl⟩
     go_wp2_with fail
     refine (X2.out).mono ?_
     rintro e w' ⟨rfl, rfl⟩
     go_wp2
     go_ret
     exact ⟨rfl, rfl⟩
    | false =>
     obtain rfl : 0 = k := by simpa using hk2
     clear hk2
     go_enter Tryz.func79, Tryz.ntmps79
     go_wp2_with fail
     refine (X.out).mono ?_
     rintro e w' ⟨rfl, rfl⟩
     go_wp2_with fail
     refine (X2.out).mono ?_
     rintro e w' ⟨rfl, rfl⟩
     go_wp2
     go_ret
     exact ⟨rfl, rfl⟩
   ·have c45 : (C == 45) = false := by rw [beq_eq_false_iff_ne]; exact h45
    obtain rfl : 0 = k := by
     rw [<- hk]
     simp only [M.headN, hd]
     have : c.toNat ≠ 45 := by omega
     simp [this]
    clear hS hk hd h45
    go_enter Tryz.func79, Tryz.ntmps79
    go_wp2_with fail
    refine (X.out).mono ?_
    rintro e w' ⟨rfl, rfl⟩
    go_wp2
    go_ret
    exact ⟨rfl, rfl⟩
theorem ext_fromE (l : List UInt8) (k n : Nat) (hn : (bytes l).size = n) : (bytes l).extract k n = bytes (l.drop k) := by
 subst hn
 rw [bytes_size]
 apply ByteArray.ext
 simp [bytes, ByteArray.extract, ByteArray.copySlice, List.take_of_length_le]
theorem ext_toE (l : List UInt8) (k : Nat) (h : k <= l.length) : (bytes l).extract 0 k = bytes (l.take k) := by
 apply ByteArray.ext
 simp [bytes, ByteArray.extract, ByteArray.copySlice]
theorem cat2 (a b : List UInt8) : bytes a ++ bytes b = bytes (a ++ b) := by
 apply ByteArray.ext
 simp [bytes]
theorem spell_zero (l t : List UInt8) (w : World) (hT : TabsE w) (hl : l.length <= 100000) (h0 : M.headN l = 0) (h45 : l ≠ [45]) (ht : M.encZs (M.spF (M.pn l 0)) = t) :
  Calls Tryz.prog 44 #[.string (bytes l)] w (StP w t) := by
 rw [M.spF_zero l h0 h45] at ht
 have R := Lib.hid (sprest_any l t w hT hl ht)
 have H := Lib.hid (headlen_any l 0 w hl h0)
 have hlen : t.length <= 1600000 := by
  have h1 := M.pn_len l l.length 0 (by omega)
  have h2 := spR_bytes_len (M.pn l 0)
  rw [<- ht]; omega
 have hne : (bytes l).toList ≠ [45] := by
  intro h
  apply h45
  rw [<- bytes_toList l, <- ByteArray.toList_eq]; exact h
 have hsz : (bytes l).size <= 100000 := by rw [bytes_size]; exact hl
 have hszt : (bytes t).size <= 1600000 := by rw [bytes_size]; exact hlen
 have hext := ext_fromE l 0 (bytes l).size rfl
 rw [List.drop_zero] at hext
 obtain ⟨S, hS⟩ : ∃ S, bytes l = S := ⟨_, rfl⟩
 obtain ⟨T, hTT⟩ : ∃ S, bytes t = S := ⟨_, rfl⟩
 have HTT := Lib.hid hTT
 unfold StP at R
 rw [hS] at R H hne hsz hext ⊢
 rw [hTT] at R hszt
 have q1 : (S.toList == [45]) = false := by rw [beq_eq_false_iff_ne]; exact hne
 clear hS ht hT h0 h45 hlen hne hTT
 go_enter Tryz.func44, Tryz.ntmps44
 go_wp2_with fail
 refine (H.out).mono ?_
 rintro e w' ⟨rfl, rfl⟩
 go_wp2_with (simp only [hext])
 refine (R.out).mono ?_
 rintro e w2 ⟨rfl, hb⟩
 have HF : Hid (StP w t (.returned (.string T)) w2) := Lib.hid ⟨by rw [HTT.out], hb⟩
 clear hb
 go_wp2
 go_ret
 exact HF.out
theorem tz_drew {w : World} (h : TzCell w) : TzCell w.drew := h
theorem spell_one (c : UInt8) (l t : List UInt8) (w : World) (hT : TabsE w) (hl : (c :: l).length <= 100000) (hd : M.nDg c.toNat = true) (ht : M.encZs (M.spF (M.pn (c :: l) 0)) = t) :
  Calls Tryz.prog 44 #[.string (bytes (c :: l))] w (StP w t) := by
 rw [M.spF_one c l hd, M.encZs_append] at ht
 have hC := M.dg_num _ hd
 have H := Lib.hid (headlen_any (c :: l) 1 w hl (by simp [M.headN, hd]))
 obtain ⟨u, hu⟩ : ∃ u, M.encZs (M.spR (M.pn l 0)) = u := ⟨_, rfl⟩
 rw [hu] at ht
 have R := Lib.hid (fun W hW => sprest_any l u W hW (by simp at hl; omega) hu)
 have N := Lib.hid (fun W hW => enum_any c.toNat W hW (by omega))
 have hlen : u.length <= 1600000 := by
  have h1 := M.pn_len l l.length 0 (by omega)
  have h2 := spR_bytes_len (M.pn l 0)
  simp at hl
  rw [<- hu]; omega
 have hlenn : (M.encZs (M.numN c.toNat)).length <= 100 := by
  have h1 := (M.encZs_len (M.numN c.toNat)).2
  have h2 : (M.numN (c.toNat : Int)).length <= 4 := by unfold M.numN M.hexd; split <;> simp
  omega
 have hne : (bytes (c :: l)).toList ≠ [45] := by
  intro h
  rw [ByteArray.toList_eq, bytes_toList] at h
  simp at h
  rw [h.1] at hd
  exact absurd hd (by decide)
 have hsz : (bytes (c :: l)).size <= 100000 := by rw [bytes_size]; exact hl
 have hp0 : 0 < (bytes (c :: l)).size := by rw [bytes_size]; simp
 have a0 := s_at (c :: l) 0 c rfl hp0
 have hszt : (bytes u).size <= 1600000 := by rw [bytes_size]; exact hlen
 have hszn : (bytes (M.encZs (M.numN c.toNat))).size <= 100 := by rw [bytes_size]; exact hlenn
 have hext := ext_fromE (c :: l) 1 (bytes (c :: l)).size rfl
 have hext0 := ext_toE (c :: l) 0 (by omega)
 rw [List.take_zero] at hext0
 rw [List.drop_succ_cons, List.drop_zero] at hext
 have hcat := cat2 (M.encZs (M.numN c.toNat)) u
 rw [ht] at hcat
 unfold StP at R
 obtain ⟨S, hS⟩ : ∃ S, bytes (c :: l) = S := ⟨_, rfl⟩
 obtain ⟨T, hTT⟩ : ∃ S, bytes u = S := ⟨_, rfl⟩
 obtain ⟨L, hL⟩ : ∃ S, bytes l = S := ⟨_, rfl⟩
 obtain ⟨D, hD⟩ : ∃ S, bytes (M.encZs (M.numN c.toNat)) = S := ⟨_, rfl⟩
 have Hcat := Lib.hid hcat
 obtain ⟨C, hCC⟩ : ∃ C : Int, (c.toNat : Int) = C := ⟨_, rfl⟩
 rw [hCC] at hD hC N
 simp only [hCC] at hszn Hcat
 simp only [hS] at H hne hsz hp0 a0 hext hext0 ⊢
 simp only [hTT] at R hszt Hcat
 simp only [hL] at R hext
 simp only [hD] at N hszn Hcat
 have b0 : S[0]'hp0 = c := a0
 have q1 : (S.toList == [45]) = false := by rw [beq_eq_false_iff_ne]; exact hne
 have C0 : 0 <= C := by omega
 have C1 : C < 128 := by omega
 have wz : IntKind.i64.wrap 0 = 0 := by decide +kernel
 have wC : IntKind.i64.wrap C = C := IntWalk.i64_in _ (by omega)
 have i0 : (0 : Int) < S.size := by omega
 have i00 : (0 : Int) <= S.size := by omega
 have e0 : bytes [] ++ D = D := by apply ByteArray.ext; simp [bytes]
 have HT := Lib.hid hT
 have Hext := Lib.hid hext
 clear a0 hS ht hT hne hTT hL hD hcat hC hd hext hu hlen hlenn
 go_enter Tryz.func44, Tryz.ntmps44
 go_wp2_with fail
 refine (H.out).mono ?_
 rintro e w' ⟨rfl, rfl⟩
 go_wp2
 refine wp_region_noPanic ?_
 refine wp_region_held_drew (S := fun _ => True) (by kernel_rfl) trivial (fun hS => ?_)
 refine rtk 0 ?_
 refine rtk 1 ?_
 refine rtk 2 ?_
 refine rtk 3 ?_
 refine rtk 4 ?_
 refine rtk 5 ?_
 refine rtk 6 ?_
 refine rtk 7 ?_
 refine rtk 8 ?_
 refine wpAnyH_ready (rs := [9]) (by kernel_rfl) (by simp) ?_
 refine AllReadyH.cons rfl (fun K hK => ?_) AllReadyH.nil
 go_simp
 refine (N.out _ (tz_drew HT.out.2)).mono ?_
 rintro e w5 ⟨rfl, hb5⟩
 refine hK.out _ _ (trivial) (fun hS => ?_)
 clear hK K
 refine rtk 10 ?_
 refine rtk 11 ?_
 refine wpAnyH_done (by kernel_rfl) ?_ _
 refine NoPanic.normal ?_
 have hb6 : Below w.heap.size w w5 := ((Below.refl w.heap.size w).drew).trans hb5
 have hb6z := hb6.size
 clear hb5
 have hext := Hext.out
 go_wp2_with (simp only [hext])
 refine (R.out _ (HT.out.keep hb6)).mono ?_
 rintro e w7 ⟨rfl, hb7⟩
 have hcat := Hcat.out
 have HF : Hid (StP w t (.returned (.string (bytes t))) w7) := Lib.hid ⟨rfl, hb6.trans (hb7.mono hb6z)⟩
 clear hb6 hb7
 go_wp2
 go_ret
 exact HF.out
theorem spell_two (c : UInt8) (l t : List UInt8) (w : World) (hT : TabsE w) (hl : (45 :: c :: l).length <= 100000) (hd : M.nDg c.toNat = true) (ht : M.encZs (M.spF (M.pn (45 :: c :: l) 0)) = t) :
  Calls Tryz.prog 44 #[.string (bytes (45 :: c :: l))] w (StP w t) := by
 rw [M.spF_two c l hd, M.encZs_append, M.encZs_cons, M.enc_ascii 45 (by decide) (by decide)] at ht
 change [45] ++ _ ++ _ = t at ht
 have hC := M.dg_num _ hd
 have H := Lib.hid (headlen_any (45 :: c :: l) 2 w hl (by simp [M.headN, hd, show M.nDg 45 = false from by decide]))
 obtain ⟨u, hu⟩ : ∃ u, M.encZs (M.spR (M.pn l 0)) = u := ⟨_, rfl⟩
 rw [hu] at ht
 have R := Lib.hid (fun W hW => sprest_any l u W hW (by simp at hl; omega) hu)
 have N := Lib.hid (fun W hW => enum_any c.toNat W hW (by omega))
 have hlen : u.length <= 1600000 := by
  have h1 := M.pn_len l l.length 0 (by omega)
  have h2 := spR_bytes_len (M.pn l 0)
  simp at hl
  rw [<- hu]; omega
 have hlenn : (M.encZs (M.numN c.toNat)).length <= 100 := by
  have h1 := (M.encZs_len (M.numN c.toNat)).2
  have h2 : (M.numN (c.toNat : Int)).length <= 4 := by unfold M.numN M.hexd; split <;> simp
  omega
 have hne : (bytes (45 :: c :: l)).toList ≠ [45] := by
  intro h
  rw [ByteArray.toList_eq, bytes_toList] at h
  simp at h
 have hsz : (bytes (45 :: c :: l)).size <= 100000 := by rw [bytes_size]; exact hl
 have hp0 : 1 < (bytes (45 :: c :: l)).size := by rw [bytes_size]; simp
 have a0 := s_at (45 :: c :: l) 1 c rfl hp0
 have hszt : (bytes u).size <= 1600000 := by rw [bytes_size]; exact hlen
 have hszn : (bytes (M.encZs (M.numN c.toNat))).size <= 100 := by rw [bytes_size]; exact hlenn
 have hext := ext_fromE (45 :: c :: l) 2 (bytes (45 :: c :: l)).size rfl
 have hext0 := ext_toE (45 :: c :: l) 1 (by simp)
 rw [List.take_succ_cons, List.take_zero] at hext0
 rw [List.drop_succ_cons, List.drop_succ_cons, List.drop_zero] at hext
 have hcat := cat3 [45] (M.encZs (M.numN c.toNat)) u
 rw [ht] at hcat
 have h45 : (bytes [45]).size = 1 := by rw [bytes_size]; rfl
 unfold StP at R
 obtain ⟨S, hS⟩ : ∃ S, bytes (45 :: c :: l) = S := ⟨_, rfl⟩
 obtain ⟨T, hTT⟩ : ∃ S, bytes u = S := ⟨_, rfl⟩
 obtain ⟨L, hL⟩ : ∃ S, bytes l = S := ⟨_, rfl⟩
 obtain ⟨D, hD⟩ : ∃ S, bytes (M.encZs (M.numN c.toNat)) = S := ⟨_, rfl⟩
 have Hcat := Lib.hid hcat
 obtain ⟨C, hCC⟩ : ∃ C : Int, (c.toNat : Int) = C := ⟨_, rfl⟩
 rw [hCC] at hD hC N
 simp only [hCC] at hszn Hcat
 simp only [hS] at H hne hsz hp0 a0 hext hext0 ⊢
 simp only [hTT] at R hszt Hcat
 simp only [hL] at R hext
 simp only [hD] at N hszn Hcat
 have b0 : S[1]'hp0 = c := a0
 obtain ⟨Z, hZ⟩ : ∃ S, bytes [45] = S := ⟨_, rfl⟩
 simp only [hZ] at hext0 h45 Hcat
 have q1 : (S.toList == [45]) = false := by rw [beq_eq_false_iff_ne]; exact hne
 have C0 : 0 <= C := by omega
 have C1 : C < 128 := by omega
 have wz : IntKind.i64.wrap 1 = 1 := by decide +kernel
 have wC : IntKind.i64.wrap C = C := IntWalk.i64_in _ (by omega)
 have i0 : (1 : Int) < S.size := by omega
 have i00 : (1 : Int) <= S.size := by omega
 have HT := Lib.hid hT
 have Hext := Lib.hid hext
 clear hZ a0 hS ht hT hne hTT hL hD hcat hC hd hext hu hlen hlenn
 go_enter Tryz.func44, Tryz.ntmps44
 go_wp2_with fail
 refine (H.out).mono ?_
 rintro e w' ⟨rfl, rfl⟩
 go_wp2
 refine wp_region_noPanic ?_
 refine wp_region_held_drew (S := fun _ => True) (by kernel_rfl) trivial (fun hS => ?_)
 refine rtk 0 ?_
 refine rtk 1 ?_
 refine rtk 2 ?_
 refine rtk 3 ?_
 refine rtk 4 ?_
 refine rtk 5 ?_
 refine rtk 6 ?_
 refine rtk 7 ?_
 refine rtk 8 ?_
 refine wpAnyH_ready (rs := [9]) (by kernel_rfl) (by simp) ?_
 refine AllReadyH.cons rfl (fun K hK => ?_) AllReadyH.nil
 go_simp
 refine (N.out _ (tz_drew HT.out.2)).mono ?_
 rintro e w5 ⟨rfl, hb5⟩
 refine hK.out _ _ (trivial) (fun hS => ?_)
 clear hK K
 refine rtk 10 ?_
 refine rtk 11 ?_
 refine wpAnyH_done (by kernel_rfl) ?_ _
 refine NoPanic.normal ?_
 have hb6 : Below w.heap.size w w5 := ((Below.refl w.heap.size w).drew).trans hb5
 have hb6z := hb6.size
 clear hb5
 have hext := Hext.out
 go_wp2_with (simp only [hext])
 refine (R.out _ (HT.out.keep hb6)).mono ?_
 rintro e w7 ⟨rfl, hb7⟩
 have hcat := Hcat.out
 have HF : Hid (StP w t (.returned (.string (bytes t))) w7) := Lib.hid ⟨rfl, hb6.trans (hb7.mono hb6z)⟩
 clear hb6 hb7
 go_wp2
 go_ret
 exact HF.out
theorem spell_dash (t : List UInt8) (w : World) (ht : M.encZs (M.spF (M.pn [45] 0)) = t) : Calls Tryz.prog 44 #[.string (bytes [45])] w (StP w t) := by
 have e : t = [92, 45] := by
  rw [<- ht, M.spF_dash, M.encZs_cons, M.encZs_cons, M.encZs_nil, M.enc_ascii 92 (by decide) (by decide), M.enc_ascii 45 (by decide) (by decide)]; rfl
 subst e
 have hne : (bytes [45]).toList = [45] := by rw [ByteArray.toList_eq, bytes_toList]
 have q1 : ((bytes [45]).toList == [45]) = true := by rw [hne]; rfl
 obtain ⟨S, hS⟩ : ∃ S, bytes [45] = S := ⟨_, rfl⟩
 rw [hS] at q1 ⊢
 have HF : Hid (StP w [92, 45] (.returned (.string ⟨#[92, 45]⟩)) w) := Lib.hid ⟨rfl, Below.refl _ _⟩
 clear ht hne hS
 go_enter Tryz.func44, Tryz.ntmps44
 go_wp2
 go_ret
 exact HF.out
theorem spell_any (l t : List UInt8) (w : World) (hT : TabsE w) (hl : l.length <= 100000) (ht : M.encZs (M.spF (M.pn l 0)) = t) :
  Calls Tryz.prog 44 #[.string (bytes l)] w (StP w t) := by
 by_cases h45 : l = [45]
 ·subst h45; exact spell_dash t w ht
 by_cases h0 : M.headN l = 0
 ·exact spell_zero l t w hT hl h0 h45 ht
 match l, hl, ht, h0 with
 | [], _, _, h0 => exact absurd rfl h0
 | c :: l, hl, ht, h0 =>
  by_cases hd : M.nDg c.toNat = true
  ·exact spell_one c l t w hT hl hd ht
  ·match l, hl, ht, h0 with
   | [], _, _, h0 => exact absurd (by simp [M.headN, hd]) h0
   | d :: l, hl, ht, h0 =>
    by_cases hc : c.toNat = 45 /\ M.nDg d.toNat = true
    ·obtain rfl : c = 45 := UInt8.toNat_inj.1 hc.1
     exact spell_two d l t w hT hl hc.2 ht
    ·exact absurd (by simp only [M.headN]; rw [if_neg hd, if_neg hc]) h0
theorem joins_any (r : Int) (b : Bool) (w : World) (h : M.jn r = b) : Calls Tryz.prog 122 #[.int .i64 r] w fun e w' => e = .returned (.bool b) /\ w = w' := by
 cases hx : M.isX r with
 | true =>
  have X1 := Lib.hid (isx_any r true w hx)
  have hb : b = true := by rw [<- h]; simp [M.jn, hx]
  subst hb
  clear h hx
  go_enter Tryz.func122, Tryz.ntmps122
  go_wp2_with fail
  refine (X1.out).mono ?_
  rintro e w' ⟨rfl, rfl⟩
  go_wp2
  go_ret
  exact ⟨rfl, rfl⟩
 | false =>
  have X1 := Lib.hid (isx_any r false w hx)
  cases hd : M.isBl r with
  | true =>
   have X2 := Lib.hid (isbl_any r true w hd)
   have hb : b = true := by rw [<- h]; simp [M.jn, hd]
   subst hb
   clear h hx hd
   go_enter Tryz.func122, Tryz.ntmps122
   go_wp2_with fail
   refine (X1.out).mono ?_
   rintro e w' ⟨rfl, rfl⟩
   go_wp2_with fail
   refine (X2.out).mono ?_
   rintro e w' ⟨rfl, rfl⟩
   go_wp2
   go_ret
   exact ⟨rfl, rfl⟩
  | false =>
   have X2 := Lib.hid (isbl_any r false w hd)
   have hb : b = (decide (r = 12) || decide (r = 13)) := by rw [<- h]; simp [M.jn, hx, hd]
   have hway : (r = 12) \/ (r = 13) \/ (r ≠ 12 /\ r ≠ 13) := by omega
   rcases hway with rfl | rfl | ⟨h1, h2⟩
   ·obtain rfl : b = true := by rw [hb]; decide
    clear h hx hd hb
    go_enter Tryz.func122, Tryz.ntmps122
    go_wp2_with fail
    refine (X1.out).mono ?_
    rintro e w' ⟨rfl, rfl⟩
    go_wp2_with fail
    refine (X2.out).mono ?_
    rintro e w' ⟨rfl, rfl⟩
    go_wp2
    go_ret
    exact ⟨rfl, rfl⟩
   ·obtain rfl : b = true := by rw [hb]; decide
    clear h hx hd hb
    go_enter Tryz.func122, Tryz.ntmps122
    go_wp2_with fail
    refine (X1.out).mono ?_
    rintro e w' ⟨rfl, rfl⟩
    go_wp2_with fail
    refine (X2.out).mono ?_
    rintro e w' ⟨rfl, rfl⟩
    go_wp2
    go_ret
    exact ⟨rfl, rfl⟩
   ·obtain rfl : b = false := by rw [hb]; simp [h1, h2]
    have t1 : (r == 12) = false := by rw [beq_eq_false_iff_ne]; exact h1
    have t2 : (r == 13) = false := by rw [beq_eq_false_iff_ne]; exact h2
    clear h hx hd hb h1 h2
    go_enter Tryz.func122, Tryz.ntmps122
    go_wp2_with fail
    refine (X1.out).mono ?_
    rintro e w' ⟨rfl, rfl⟩
    go_wp2_with fail
    refine (X2.out).mono ?_
    rintro e w' ⟨rfl, rfl⟩
    go_wp2
    go_ret
    exact ⟨rfl, rfl⟩
theorem qput_any (B : Nat) (v : Value) (l t : List UInt8) (r : Int) (w : World) (hv : OwnB B w v l) (hl : l.length <= 4000000) (hB : B <= w.heap.size) (ht : l ++ M.enc r = t) :
  Calls Tryz.prog 120 #[v, .int .i64 r] w fun e w' => ∃ v', e = .returned v' /\ OwnB B w' v' t /\ Below B w w' := by
 have P := Lib.hid (put_any (.slice none 0 0) [] (M.enc r) r w (bs_nil _) (by simp) (by simp))
 have Ht := Lib.hid ht
 have hle := M.enc_le r
 clear ht
 go_enter Tryz.func120, Tryz.ntmps120
 go_wp2_with fail
 refine (P.out).mono ?_
 rintro e w2 ⟨v2, rfl, ho2, hb2⟩
 have ho := OwnB.keep hv hb2
 have hbs := ho2.bs
 have hnn := ho2.nnb
 have hb3 : Below B w w2 := hb2.mono hB
 have hz : B <= w2.heap.size := Nat.le_trans hB hb2.size
 clear hb2 ho2 hv
 go_wp2_with (at_builtin; refine wpl_append rfl _ _ rfl B v v2 l (M.enc r) t rfl ho rfl hbs hnn (by omega) hz Ht.out ?_)
 intro v6 w6 ho6 hb6
 have hb7 := hb3.trans hb6
 clear hb3 hb6 hbs hnn
 go_wp2
 go_ret
 exact ⟨_, rfl, ho6, hb7⟩
theorem trim_two (l : List UInt8) (w : World) (hl : l.length = 2) : Calls Tryz.prog 159 #[.string (bytes (l ++ [32])), .string ⟨#[32]⟩] w fun e w' => e = .returned (.string (bytes l)) /\ w = w' := by
 have hsz : (bytes (l ++ [32])).size = 3 := by rw [bytes_size]; simp [hl]
 have e1 := ext_fromE (l ++ [32]) 2 3 hsz
 have e2 := ext_toE (l ++ [32]) 2 (by simp; omega)
 have d1 : (l ++ [32]).drop 2 = ([32] : List UInt8) := by rw [<- hl]; exact List.drop_left
 have d2 : (l ++ [32]).take 2 = l := by rw [<- hl]; exact List.take_left
 rw [d1] at e1
 rw [d2] at e2
 clear d1 d2
 have q : ((bytes [32]).toList == [32]) = true := by rw [ByteArray.toList_eq, bytes_toList]; rfl
 obtain ⟨S, hS⟩ : ∃ S, bytes (l ++ [32]) = S := ⟨_, rfl⟩
 obtain ⟨Z, hZ⟩ : ∃ S, bytes [32] = S := ⟨_, rfl⟩
 obtain ⟨L, hL⟩ : ∃ S, bytes l = S := ⟨_, rfl⟩
 rw [hS] at hsz e1 e2 ⊢
 rw [hL] at e2 ⊢
 rw [hZ] at e1 q
 clear hS hZ hL hl
 have X : Calls Tryz.prog 217 #[.string S, .string ⟨#[32]⟩] w fun e w' => e = .returned (.bool true) /\ w = w' := by
  clear e2
  go_enter Tryz.func217, Tryz.ntmps217
  go_wp2
  go_ret
  exact ⟨by first | rfl | simp [q], rfl⟩
 have Y : Calls Tryz.prog 198 #[.string S, .string ⟨#[32]⟩] w fun e w' => e = .returned (.string L) /\ w = w' := by
  have HX := Lib.hid X
  clear X e1 q
  go_enter Tryz.func198, Tryz.ntmps198
  go_wp2_with fail
  refine (HX.out).mono ?_
  rintro e w' ⟨rfl, rfl⟩
  go_wp2
  go_ret
  exact ⟨by first | rfl | simp [e2], rfl⟩
 have HY := Lib.hid Y
 clear X Y e1 e2 q
 go_enter Tryz.func159, Tryz.ntmps159
 go_wp2_with fail
 refine (HY.out).mono ?_
 rintro e w' ⟨rfl, rfl⟩
 go_wp2
 go_ret
 exact ⟨rfl, rfl⟩
def lbB (r : Int) (j : Bool) : List UInt8 := M.encZs (92 :: M.hexd r ++ (if j then [32] else []))
theorem lbreak_any (r : Nat) (j : Bool) (w : World) (hT : TzCell w) (hr : r = 10 \/ r = 12 \/ r = 13) :
  Calls Tryz.prog 121 #[.int .i64 (r : Int), .bool j] w fun e w' => e = .returned (.string (bytes (lbB r j))) /\ Below w.heap.size w w' := by
 have N := Lib.hid (enum_any r w hT (by omega))
 have e1 : lbB r true = M.encZs (M.numN r) := rfl
 cases j with
 | true =>
  rw [e1]
  obtain ⟨S, hS⟩ : ∃ S, bytes (M.encZs (M.numN r)) = S := ⟨_, rfl⟩
  rw [hS] at N ⊢
  clear hT hr hS e1
  go_enter Tryz.func121, Tryz.ntmps121
  go_wp2_with fail
  refine (N.out).mono ?_
  rintro e w2 ⟨rfl, hb2⟩
  go_wp2
  go_ret
  exact ⟨rfl, hb2⟩
 | false =>
  have e2 : M.encZs (M.numN r) = lbB r false ++ [32] := by
   show M.encZs (92 :: M.hexd r ++ [32]) = M.encZs (92 :: M.hexd r ++ []) ++ [32]
   rw [M.encZs_append, List.append_nil, M.encZs_cons 32, M.encZs_nil, M.enc_ascii 32 (by decide) (by decide)]; rfl
  have e3 : (lbB r false).length = 2 := by
   rcases hr with rfl | rfl | rfl
   ·unfold lbB; rw [List.cons_append, M.encZs_cons, M.encZs_append, hexB_one 10 (by decide), M.enc_ascii 92 (by decide) (by decide)]; rfl
   ·unfold lbB; rw [List.cons_append, M.encZs_cons, M.encZs_append, hexB_one 12 (by decide), M.enc_ascii 92 (by decide) (by decide)]; rfl
   ·unfold lbB; rw [List.cons_append, M.encZs_cons, M.encZs_append, hexB_one 13 (by decide), M.enc_ascii 92 (by decide) (by decide)]; rfl
  have T := Lib.hid (fun W => trim_two (lbB r false) W e3)
  rw [<- e2] at T
  obtain ⟨S, hS⟩ : ∃ S, bytes (M.encZs (M.numN r)) = S := ⟨_, rfl⟩
  rw [hS] at N T
  obtain ⟨L, hL⟩ : ∃ S, bytes (lbB r false) = S := ⟨_, rfl⟩
  rw [hL] at T ⊢
  clear hT hr hS e1 e2 e3 hL
  go_enter Tryz.func121, Tryz.ntmps121
  go_wp2_with fail
  refine (N.out).mono ?_
  rintro e w2 ⟨rfl, hb2⟩
  go_wp2_with fail
  refine (T.out _).mono ?_
  rintro e w' ⟨rfl, rfl⟩
  go_wp2
  go_ret
  exact ⟨rfl, hb2⟩
theorem nextj (l : List UInt8) (p : Nat) : ((M.nextAt l p).2.2 && M.jn (M.nextAt l p).1) = M.jn ((M.pn l p).getD 0 0) := by
 by_cases h : p < l.length
 ·rw [M.nextAt_in l p h, M.pn_in l p h]
  simp only [List.getD_cons_zero]
  unfold M.nx M.ptv
  split
  ·rename_i hd; rw [hd]; decide
  ·simp only [Bool.true_and]
   split
   ·rename_i hd; rw [hd]; decide
   ·rfl
 ·rw [M.pn_out l p (by omega)]
  unfold M.nextAt
  rw [if_pos (by omega)]
  decide
theorem qt_len (q r n : Int) : (M.qt q r n).length <= 4 := by
 unfold M.qt M.hexd
 repeat' split
 all_goals simp
theorem qB_at (Q : Int) (l : List UInt8) (i : Nat) (h : i < l.length) : M.qB Q (M.pn l i) = M.qt Q (M.ptv (l.drop i)) ((M.pn l (i + (M.dec (l.drop i)).2)).getD 0 0) ++ M.qB Q (M.pn l (i + (M.dec (l.drop i)).2)) := by
 rw [M.pn_in l i h]; rfl
theorem two_byte (w : World) (c d : UInt8) (x y : Int) (hx : (c.toNat : Int) = x) (hy : (d.toNat : Int) = y) : Bs (w.alloc (.cells #[.int .u8 x, .int .u8 y] 5)) (.slice (some ⟨w.heap.size, 0, none⟩) 2 2) [c, d] := by
 subst hx; subst hy
 exact bs_cells_new w [c, d] _ 2 rfl rfl (by simp)
theorem encZs_le (l : List Int) (k : Nat) (h : l.length <= k) : (M.encZs l).length <= 4 * k := by
 have := (M.encZs_len l).2; omega
theorem qtext_any (l t : List UInt8) (q : UInt8) (w : World) (hT : TabsE w) (hl : l.length <= 100000) (hq : q = 34 \/ q = 39) (ht : M.encZs (M.qF q.toNat (M.pn l 0)) = t) :
  Calls Tryz.prog 82 #[.string (bytes l), .int .u8 (q.toNat : Int)] w (StP w t) := by
 have hsz0 : (bytes l).size = l.length := bytes_size l
 obtain ⟨n, hn⟩ : ∃ n, l.length = n := ⟨_, rfl⟩
 rw [M.qF_bytes q hq] at ht
 obtain ⟨Q, hQ⟩ : ∃ Q : Int, (q.toNat : Int) = Q := ⟨_, rfl⟩
 have hQ2 : Q = 34 \/ Q = 39 := by rcases hq with rfl | rfl; left; rw [<- hQ]; rfl; right; rw [<- hQ]; rfl
 have hQb : M.enc Q = [q] := by rw [<- hQ]; exact M.enc_byte q (by omega)
 rw [hQ] at ht ⊢
 obtain ⟨F, hF⟩ : ∃ F, M.qB Q (M.pn l 0) = F := ⟨_, rfl⟩
 rw [hF] at ht
 have hcv := bw_conv w (bytes l)
 have hbs := bw_bs w (bytes l) (by rw [hsz0]; omega)
 have hbb := bw_below w (bytes l)
 rw [bytes_toList] at hbs
 rw [hsz0] at hcv hbs
 rw [hn] at hcv hbs hl
 obtain ⟨W1, hW1⟩ : ∃ W1, Lib.bytesWorld w 5 (bytes l) = W1 := ⟨_, rfl⟩
 rw [hW1] at hcv hbs hbb
 obtain ⟨cap, hcap⟩ : ∃ W1, grownCap w n 0 5 = W1 := ⟨_, rfl⟩
 rw [hcap] at hcv hbs
 have hob := World.ownsRow_lit (base := W1.heap.size) (e := 5) (size := 1) W1 #[.int .u8 Q] 1 (Nat.le_refl _) (by decide) rfl
 have hob2 : OwnB W1.heap.size (W1.alloc (.cells #[.int .u8 Q] 5)) (.slice (some ⟨W1.heap.size, 0, none⟩) 1 1) (q :: M.encZs []) := by
  unfold OwnB
  have e : bcells (q :: M.encZs []) = [.int .u8 Q] := by rw [M.encZs_nil]; simp [bcells, hQ]
  rw [e]; exact hob
 have Hn := Lib.hid hn
 have Hbs := Lib.hid hbs
 have HT := Lib.hid (hT.keep hbb)
 have Hbb := Lib.hid hbb
 have Ht := Lib.hid ht
 have HO := Lib.hid hob2
 have HQb := Lib.hid hQb
 have HF0 := Lib.hid hF
 have HQN := Lib.hid hQ
 obtain ⟨S, hS⟩ : ∃ S, bytes l = S := ⟨_, rfl⟩
 rw [hS] at hcv ⊢
 have hz := hbb.size
 have Q0 : 0 <= Q := by omega
 have Q1 : Q < 128 := by omega
 clear hn hbs hT hbb ht hW1 hcap hsz0 hS hob hob2 hQb hF hQ hq
 go_enter Tryz.func82, Tryz.ntmps82
 go_wp2
 go_loopw [6, 7] (fun ov iv wr => ∃ (i : Nat) (pre : List Int), iv = .int .i64 i /\ i <= n /\ pre ++ M.qB Q (M.pn l i) = F /\ pre.length <= 4 * i /\ OwnB W1.heap.size wr ov (q :: M.encZs pre) /\ Below W1.heap.size W1 wr) (fun _ iv _ => n - (intOf iv).toNat)
 case atStart => exact ⟨0, [], rfl, by omega, HF0.out, by simp, HO.out, (Below.refl _ _).alloc (Nat.le_refl _) _⟩
 case round =>
  obtain ⟨i, pre, rfl, hi, hpre, hpl, ho, hb⟩ := hrel
  have hsz := hb.size
  by_cases hlt : i < n
  ·have hil : i < l.length := by rw [Hn.out]; exact hlt
   obtain ⟨ok, hnx⟩ := M.next_dec l i hil
   have N1 := next_any _ l i _ wr (HT.out.keep hb).1 (Hbs.out.keep hb) (by rw [Hn.out]; omega) hnx
   unfold tri at N1
   dsimp only at N1
   have hw := M.dec_width (l.drop i)
   have hle := M.dec_le (l.drop i) (by simp; omega)
   have hdr := M.dec_cp (l.drop i)
   have hlow := M.dec_low (l.drop i)
   rw [List.length_drop, Hn.out] at hle
   rw [qB_at Q l i hil] at hpre
   unfold M.ptv at hpre
   obtain ⟨D, hD⟩ : ∃ D, (M.dec (l.drop i)).1 = D := ⟨_, rfl⟩
   obtain ⟨K, hK⟩ : ∃ D, (M.dec (l.drop i)).2 = D := ⟨_, rfl⟩
   rw [hD, hK] at N1 hpre hlow
   rw [hD] at hdr
   rw [hK] at hw hle
   have hw1 := hw.1
   have hw4 := hw.2
   obtain ⟨j, hj⟩ : ∃ j, i + K = j := ⟨_, rfl⟩
   have hji : (i : Int) + K = j := by omega
   rw [hj] at hpre
   obtain ⟨x, hx⟩ : ∃ x, (M.pn l j).getD 0 0 = x := ⟨_, rfl⟩
   rw [hx] at hpre
   obtain ⟨g, hg⟩ : ∃ g, M.qt Q (if D = 0 then 65533 else (D : Int)) x = g := ⟨_, rfl⟩
   have hgl : g.length <= 4 := by rw [<- hg]; exact qt_len _ _ _
   rw [hg] at hpre
   have hpre2 : (pre ++ g) ++ M.qB Q (M.pn l j) = F := by rw [<- hpre]; simp
   have Hpre := Lib.hid hpre2
   have hpl2 : (pre ++ g).length <= 4 * j := by simp; omega
   have hel : (q :: M.encZs pre).length <= 2000000 := by
    have := encZs_le pre _ hpl
    simp; omega
   have hea : q :: M.encZs (pre ++ g) = (q :: M.encZs pre) ++ M.encZs g := by rw [M.encZs_append]; simp
   obtain ⟨R, hR⟩ : ∃ R, q :: M.encZs pre = R := ⟨_, rfl⟩
   rw [hR] at ho hel hea
   have Hea := Lib.hid hea
   have HN := Lib.hid N1
   have HC := Lib.hid (HT.out.keep hb)
   have Hj := Lib.hid hj
   have Hx := Lib.hid hx
   have hjn : j <= n := by omega
   clear N1 hpre hpre2 hR hD hK hnx hw hil hea hj hx
   by_cases h0 : D = 0
   ·subst h0
    rw [if_pos rfl] at hg
    have hg2 : g = [65533] := by rw [<- hg]; unfold M.qt; rw [if_neg (by omega), if_neg (by decide)]
    have P := Lib.hid (fun v W hv hB => qput_any W1.heap.size v R (q :: M.encZs (pre ++ g)) 65533 W hv (by omega) hB (by rw [Hea.out, hg2, M.encZs_cons, M.encZs_nil, List.append_nil]))
    clear hg hg2 hlow hdr
    go_wp2_with fail
    refine (HN.out).mono ?_
    rintro e w2 ⟨rfl, hb2⟩
    have ho2 := OwnB.keep ho hb2
    have hb3 := hb.trans (hb2.mono hsz)
    have hb3z := hb3.size
    clear hb hb2 ho
    go_wp2_with fail
    refine (P.out _ _ ho2 hb3z).mono ?_
    rintro e w3 ⟨v3, rfl, ho3, hb4⟩
    have hb5 := hb3.trans hb4
    clear hb3 hb4 ho2
    go_wp2
    go_roundw
    case rel => exact ⟨j, pre ++ g, by have := Hj.out; go_num, hjn, Hpre.out, hpl2, ho3, hb5⟩
    case measure => have := Hj.out; simp [intOf]; omega
   rw [if_neg h0] at hg
   have t0 : ((D : Int) == 0) = false := by rw [beq_eq_false_iff_ne]; omega
   have hcpD := (M.isCP_iff D).1 hdr
   by_cases hq9 : (D : Int) = Q \/ (D : Int) = 92
   ·have hg2 : g = [92, (D : Int)] := by rw [<- hg]; unfold M.qt; rw [if_pos hq9]
    have heb : M.encZs g = [92, D.toUInt8] := by
     rw [hg2, M.encZs_cons, M.encZs_cons, M.encZs_nil, M.enc_ascii 92 (by decide) (by decide), M.enc_ascii D (by omega) (by omega)]; rfl
    have hd8 : (D.toUInt8.toNat : Int) = (D : Int) := by rw [M.toU8 D (by omega)]
    rw [heb] at Hea
    have D1 : (D : Int) < 128 := by omega
    have D0 : (0 : Int) <= D := by omega
    have TB := Lib.hid (fun W => two_byte W 92 D.toUInt8 92 D rfl hd8)
    have hway : ((D : Int) == 92) = true \/ (((D : Int) == 92) = false /\ ((D : Int) == Q) = true) := by
     by_cases h92 : (D : Int) = 92
     ·left; rw [h92]; rfl
     ·right; refine ⟨by rw [beq_eq_false_iff_ne]; exact h92, by rw [beq_iff_eq]; omega⟩
    clear hg hg2 hlow hdr heb hd8 hcpD hq9 h0
    rcases hway with hw92 | ⟨hw92, hwQ⟩
    all_goals
     go_wp2_with fail
     refine (HN.out).mono ?_
     rintro e w2 ⟨rfl, hb2⟩
     have ho2 := OwnB.keep ho hb2
     have hb3 := hb.trans (hb2.mono hsz)
     have hb3z := hb3.size
     have hb3a := hb3.alloc hb3z (.cells #[.int .u8 92, .int .u8 D] 5)
     have hoa : OwnB W1.heap.size (w2.alloc (.cells #[.int .u8 92, .int .u8 D] 5)) u6 R := World.ownsRow.alloc ho2 _
     have hb3az := hb3a.size
     clear hb hb2 ho hb3 ho2
     go_wp2_with (at_builtin; refine wpl_append rfl _ _ rfl W1.heap.size u6 (.slice (some ⟨w2.heap.size, 0, none⟩) 2 2) R [92, D.toUInt8] (q :: M.encZs (pre ++ g)) rfl hoa rfl (TB.out w2) (nnb_some _ _ _) (by simp; omega) hb3az (by rw [Hea.out]) ?_)
     intro v6 w6 ho6 hb6
     have hb7 := hb3a.trans hb6
     clear hb3a hb6 hoa
     go_wp2
     go_roundw
     case rel => exact ⟨j, pre ++ g, by have := Hj.out; go_num, hjn, Hpre.out, hpl2, ho6, hb7⟩
     case measure => have := Hj.out; simp [intOf]; omega
   have t92 : ((D : Int) == 92) = false := by rw [beq_eq_false_iff_ne]; omega
   have tQ : ((D : Int) == Q) = false := by rw [beq_eq_false_iff_ne]; omega
   by_cases hlb : D = 10 \/ D = 12 \/ D = 13
   ·have hK1 := (hlow (by omega)).1
    obtain ⟨mo, hmo⟩ : ∃ r, M.nextAt l j = r := ⟨_, rfl⟩
    have hnj := nextj l j
    rw [hmo, Hx.out] at hnj
    have HN2 := Lib.hid (fun W (hW : Tabs W) (hv : Bs W (.slice (some ⟨w.heap.size, 0, none⟩) n cap) l) => next_any _ l j mo W hW hv (by rw [Hn.out]; omega) hmo)
    obtain ⟨x1, x2, x3⟩ := mo
    simp only at hnj
    have hg2 : g = 92 :: M.hexd D ++ (if M.jn x then [32] else []) := by
     rw [<- hg]; unfold M.qt; rw [if_neg (by omega), if_pos (by omega)]
    have heb : M.encZs g = lbB D (M.jn x) := by rw [hg2]; rfl
    rw [heb] at Hea
    rw [<- hnj] at Hea
    have LB := Lib.hid (fun b W hW => lbreak_any D b W hW hlb)
    have JN := Lib.hid (fun W => joins_any x1 _ W rfl)
    obtain ⟨jx, hjx⟩ : ∃ jx, M.jn x1 = jx := ⟨_, rfl⟩
    rw [hjx] at Hea JN
    have hll : ∀ b, (lbB D b).length <= 16 := by
     intro b
     unfold lbB
     have h1 : (92 :: M.hexd D ++ (if b then [32] else [])).length <= 4 := by unfold M.hexd; split <;> split <;> simp
     have := encZs_le _ _ h1
     omega
    have Hll := Lib.hid hll
    have hway : ((D : Int) == 10) = true \/ (((D : Int) == 10) = false /\ ((D : Int) == 12) = true) \/ (((D : Int) == 10) = false /\ ((D : Int) == 12) = false /\ ((D : Int) == 13) = true) := by
     rcases hlb with rfl | rfl | rfl
     ·left; rfl
     ·right; left; exact ⟨by decide, by decide⟩
     ·right; right; exact ⟨by decide, by decide, by decide⟩
    clear hg hg2 hlow hdr heb hcpD hq9 h0 hjx hnj hmo hll hlb hK1
    unfold tri at HN2
    simp only at HN2
    cases x3 with
    | false =>
     simp only [Bool.false_and] at Hea
     have HLB := Lib.hid (fun W hW => LB.out false W hW)
     obtain ⟨u, hu⟩ : ∃ u, lbB D false = u := ⟨_, rfl⟩
     have hul := Hll.out false
     rw [hu] at Hea hul HLB
     clear hu
     rcases hway with hwa | ⟨hwa, hwb⟩ | ⟨hwa, hwb, hwc⟩
     all_goals
      as_aux_lemma =>
       go_wp2_with fail
       refine (HN.out).mono ?_
       rintro e w2 ⟨rfl, hb2⟩
       have ho2 := OwnB.keep ho hb2
       have hb3 := hb.trans (hb2.mono hsz)
       have hb3z := hb3.size
       have HC3 := Lib.hid (HN2.out w2 (HC.out.keep hb2).1 (Hbs.out.keep hb3))
       have HC4 := Lib.hid (HC.out.keep hb2)
       clear hb hb2 ho
       go_wp2_with fail
       refine (HC3.out).mono ?_
       rintro e w3 ⟨rfl, hb2⟩
       have ho3 := OwnB.keep ho2 hb2
       have hb4 := hb3.trans (hb2.mono hb3z)
       have hb4z := hb4.size
       have HC5 := Lib.hid (HC4.out.keep hb2)
       clear hb2 hb3 ho2
       go_wp2_with fail
       refine (HLB.out _ HC5.out.2).mono ?_
       rintro e w4 ⟨rfl, hb2⟩
       have ho4 := OwnB.keep ho3 hb2
       have hb5 := hb4.trans (hb2.mono hb4z)
       have hb5z := hb5.size
       clear hb2 hb4 ho3
       go_wp2_with (at_builtin; refine wpl_append_str rfl _ _ rfl W1.heap.size u6 R u (q :: M.encZs (pre ++ g)) rfl ho4 rfl (by omega) hb5z (by rw [Hea.out]) ?_)
       intro v6 w6 ho6 hb6
       have hb7 := hb5.trans hb6
       clear hb5 hb6 ho4
       go_wp2
       go_roundw
       case rel => exact ⟨j, pre ++ g, by have := Hj.out; go_num, hjn, Hpre.out, hpl2, ho6, hb7⟩
       case measure => have := Hj.out; simp [intOf]; omega
    | true =>
     simp only [Bool.true_and] at Hea
     have HLB := Lib.hid (fun W hW => LB.out jx W hW)
     obtain ⟨u, hu⟩ : ∃ u, lbB D jx = u := ⟨_, rfl⟩
     have hul := Hll.out jx
     rw [hu] at Hea hul HLB
     clear hu
     rcases hway with hwa | ⟨hwa, hwb⟩ | ⟨hwa, hwb, hwc⟩
     all_goals
      as_aux_lemma =>
       go_wp2_with fail
       refine (HN.out).mono ?_
       rintro e w2 ⟨rfl, hb2⟩
       have ho2 := OwnB.keep ho hb2
       have hb3 := hb.trans (hb2.mono hsz)
       have hb3z := hb3.size
       have HC3 := Lib.hid (HN2.out w2 (HC.out.keep hb2).1 (Hbs.out.keep hb3))
       have HC4 := Lib.hid (HC.out.keep hb2)
       clear hb hb2 ho
       go_wp2_with fail
       refine (HC3.out).mono ?_
       rintro e w3 ⟨rfl, hb2⟩
       have ho3 := OwnB.keep ho2 hb2
       have hb4 := hb3.trans (hb2.mono hb3z)
       have hb4z := hb4.size
       have HC5 := Lib.hid (HC4.out.keep hb2)
       clear hb2 hb3 ho2
       go_wp2_with fail
       refine (JN.out _).mono ?_
       rintro e w' ⟨rfl, rfl⟩
       go_wp2_with fail
       refine (HLB.out _ HC5.out.2).mono ?_
       rintro e w4 ⟨rfl, hb2⟩
       have ho4 := OwnB.keep ho3 hb2
       have hb5 := hb4.trans (hb2.mono hb4z)
       have hb5z := hb5.size
       clear hb2 hb4 ho3
       go_wp2_with (at_builtin; refine wpl_append_str rfl _ _ rfl W1.heap.size u6 R u (q :: M.encZs (pre ++ g)) rfl ho4 rfl (by omega) hb5z (by rw [Hea.out]) ?_)
       intro v6 w6 ho6 hb6
       have hb7 := hb5.trans hb6
       clear hb5 hb6 ho4
       go_wp2
       go_roundw
       case rel => exact ⟨j, pre ++ g, by have := Hj.out; go_num, hjn, Hpre.out, hpl2, ho6, hb7⟩
       case measure => have := Hj.out; simp [intOf]; omega
   have ta : ((D : Int) == 10) = false := by rw [beq_eq_false_iff_ne]; omega
   have tb : ((D : Int) == 12) = false := by rw [beq_eq_false_iff_ne]; omega
   have tc : ((D : Int) == 13) = false := by rw [beq_eq_false_iff_ne]; omega
   have hg2 : g = [(D : Int)] := by rw [<- hg]; unfold M.qt; rw [if_neg hq9, if_neg (by omega)]
   have P := Lib.hid (fun v W hv hB => qput_any W1.heap.size v R (q :: M.encZs (pre ++ g)) D W hv (by omega) hB (by rw [Hea.out, hg2, M.encZs_cons, M.encZs_nil, List.append_nil]))
   clear hg hg2 hlow hdr hlb hq9 h0 hcpD
   go_wp2_with fail
   refine (HN.out).mono ?_
   rintro e w2 ⟨rfl, hb2⟩
   have ho2 := OwnB.keep ho hb2
   have hb3 := hb.trans (hb2.mono hsz)
   have hb3z := hb3.size
   clear hb hb2 ho
   go_wp2_with fail
   refine (P.out _ _ ho2 hb3z).mono ?_
   rintro e w3 ⟨v3, rfl, ho3, hb4⟩
   have hb5 := hb3.trans hb4
   clear hb3 hb4 ho2
   go_wp2
   go_roundw
   case rel => exact ⟨j, pre ++ g, by have := Hj.out; go_num, hjn, Hpre.out, hpl2, ho3, hb5⟩
   case measure => have := Hj.out; simp [intOf]; omega
  ·rw [M.pn_out l i (by rw [Hn.out]; omega)] at hpre
   have hpre2 : pre = F := by simpa [M.qB] using hpre
   subst hpre2
   have hel : (q :: M.encZs pre).length <= 2000000 := by
    have := encZs_le pre _ hpl
    simp; omega
   have hea : (q :: M.encZs pre) ++ [q] = t := by
    rw [<- Ht.out, M.encZs] ; simp
   have Hea := Lib.hid hea
   obtain ⟨R, hR⟩ : ∃ R, q :: M.encZs pre = R := ⟨_, rfl⟩
   rw [hR] at ho hel Hea
   have OB := Lib.hid (fun W => one_byte W q Q HQN.out)
   have hge : (n : Int) <= i := by omega
   have hba := hb.alloc hsz (.cells #[.int .u8 Q] 5)
   have hoa : OwnB W1.heap.size (wr.alloc (.cells #[.int .u8 Q] 5)) u6 R := World.ownsRow.alloc ho _
   have hbaz := hba.size
   clear hpre hR hea ho hb
   go_wp2_with (at_builtin; refine wpl_append rfl _ _ rfl W1.heap.size u6 (.slice (some ⟨wr.heap.size, 0, none⟩) 1 1) R [q] t rfl hoa rfl (OB.out wr) (nnb_some _ _ _) (by simp; omega) hbaz Hea.out ?_)
   intro v6 w6 ho6 hb6
   have hb7 := hba.trans hb6
   have hcv2 := conv_own ho6
   have HF : Hid (StP w t (.returned (.string (bytes t))) w6) := Lib.hid ⟨rfl, Hbb.out.trans (hb7.mono hz)⟩
   clear hba hb6 hoa ho6 hb7
   go_wp2
   go_ret
   exact HF.out
theorem ctextq_any (l t : List UInt8) (w : World) (hT : TabsE w) (hl : l.length <= 100000) (ht : M.qText (M.pn l 0) = t) :
  Calls Tryz.prog 46 #[.string (bytes l)] w (StP w t) := by
 unfold M.qText at ht
 have Q1 := Lib.hid (fun W hW => qtext_any l _ 34 W hW hl (.inl rfl) rfl)
 have Q2 := Lib.hid (fun W hW => qtext_any l _ 39 W hW hl (.inr rfl) rfl)
 rw [show ((34 : UInt8).toNat : Int) = 34 from rfl] at Q1
 rw [show ((39 : UInt8).toNat : Int) = 39 from rfl] at Q2
 obtain ⟨A, hA⟩ : ∃ A, M.encZs (M.qF 34 (M.pn l 0)) = A := ⟨_, rfl⟩
 obtain ⟨B, hB⟩ : ∃ A, M.encZs (M.qF 39 (M.pn l 0)) = A := ⟨_, rfl⟩
 rw [hA, hB] at ht
 rw [hA] at Q1
 rw [hB] at Q2
 unfold StP at Q1 Q2
 have sA := bytes_size A
 have sB := bytes_size B
 obtain ⟨SA, hSA⟩ : ∃ A', bytes A = A' := ⟨_, rfl⟩
 obtain ⟨SB, hSB⟩ : ∃ A', bytes B = A' := ⟨_, rfl⟩
 rw [hSA] at Q1 sA
 rw [hSB] at Q2 sB
 rw [<- sA, <- sB] at ht
 obtain ⟨S, hS⟩ : ∃ S, bytes l = S := ⟨_, rfl⟩
 rw [hS] at Q1 Q2 ⊢
 have HT := Lib.hid hT
 have HA := Lib.hid hSA
 have HB := Lib.hid hSB
 clear hSA hSB hA hB hS hT sA sB
 by_cases hlt : SB.size < SA.size
 ·rw [if_pos hlt] at ht
  subst ht
  have q1 : decide ((SB.size : Int) < SA.size) = true := by simpa using hlt
  have q2 : decide (SB.size < SA.size) = true := by simpa using hlt
  clear hlt
  go_enter Tryz.func46, Tryz.ntmps46
  go_wp2_with fail
  refine (Q1.out _ HT.out).mono ?_
  rintro e w2 ⟨rfl, hb2⟩
  have HT2 := Lib.hid (HT.out.keep hb2)
  go_wp2_with fail
  refine (Q2.out _ HT2.out).mono ?_
  rintro e w3 ⟨rfl, hb3⟩
  have HF : Hid (StP w B (.returned (.string SB)) w3) := Lib.hid ⟨by rw [HB.out], hb2.trans (hb3.mono hb2.size)⟩
  clear hb2 hb3
  go_wp2
  go_ret
  exact HF.out
 ·rw [if_neg hlt] at ht
  subst ht
  have q1 : decide ((SB.size : Int) < SA.size) = false := by simpa using hlt
  have q2 : decide (SB.size < SA.size) = false := by simpa using hlt
  clear hlt
  go_enter Tryz.func46, Tryz.ntmps46
  go_wp2_with fail
  refine (Q1.out _ HT.out).mono ?_
  rintro e w2 ⟨rfl, hb2⟩
  have HT2 := Lib.hid (HT.out.keep hb2)
  go_wp2_with fail
  refine (Q2.out _ HT2.out).mono ?_
  rintro e w3 ⟨rfl, hb3⟩
  have HF : Hid (StP w A (.returned (.string SA)) w3) := Lib.hid ⟨by rw [HA.out], hb2.trans (hb3.mono hb2.size)⟩
  clear hb2 hb3
  go_wp2
  go_ret
  exact HF.out
end Go.Proofs.YtimjbjppmhdjnaaGreatDoor
