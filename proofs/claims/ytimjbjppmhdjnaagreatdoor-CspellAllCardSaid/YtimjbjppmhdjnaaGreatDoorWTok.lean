import Derived.Test.YtimjbjppmhdjnaaGreatDoorWEq
import Derived.Test.YtimjbjppmhdjnaaGreatDoorMgV
import Derived.Test.YtimjbjppmhdjnaaGreatDoorMgA
import Derived.Deep.LoopGhost
set_option maxHeartbeats 4000000
set_option maxRecDepth 100000
namespace Go.Proofs.YtimjbjppmhdjnaaGreatDoor
open Go.RowKit
set_option linter.unusedVariables false
set_option linter.unusedSimpArgs false
def gl (g : GT) : List Value := (gtv g).toList
def gls (l : List GT) : List (List Value) := l.map gl
theorem gls_len (l : List GT) : (gls l).length = l.length := by simp [gls]
theorem gls_append (k l : List GT) : gls (k ++ l) = gls k ++ gls l := by simp [gls]
theorem gls_size (l : List GT) : ∀ y ∈ gls l, y.length = 13 := by
 intro y hy
 simp only [gls, List.mem_map] at hy
 obtain ⟨r, _, rfl⟩ := hy
 rfl
theorem gls_one (l : List GT) : ∀ y ∈ gls l, ∀ c ∈ y, c.oneCell' = true := by
 intro y hy
 simp only [gls, List.mem_map] at hy
 obtain ⟨r, _, rfl⟩ := hy
 intro c hc
 have := gtv_one r
 rw [Array.all_eq_true_iff_forall_mem] at this
 exact this c (by simpa [gl] using hc)
def OwnG (B : Nat) (w : World) (v : Value) (l : List GT) : Prop := OwnV 33 13 B w v (gls l)
def Gs (w : World) (v : Value) (l : List GT) : Prop := Vs 13 w v (gls l)
theorem OwnG.keep {B : Nat} {w w' : World} {v : Value} {l : List GT} (h : OwnG B w v l) (hb : Below w.heap.size w w') : OwnG B w' v l := OwnV.keep h hb
theorem OwnG.gs {B : Nat} {w : World} {v : Value} {l : List GT} (h : OwnG B w v l) : Gs w v l := OwnV.vs h
theorem Gs.keep {w w' : World} {v : Value} {l : List GT} (h : Gs w v l) (hb : Below w.heap.size w w') : Gs w' v l := Vs.keep h hb
def toG (x : M.CT × Int) : GT := (x.1, z4, x.2)
theorem tvs_gls (l : List (M.CT × Int)) : tvsC l = gls (l.map toG) := by
 unfold tvsC gls
 rw [List.map_map]; rfl
theorem Cs.gs {w : World} {v : Value} {l : List (M.CT × Int)} (h : Cs w v l) : Gs w v (l.map toG) := by unfold Gs; rw [<- tvs_gls]; exact h
theorem gs_cells {w : World} {v : Value} {l : List GT} (h : Gs w v l) {n : Nat} (hn : l.length = n) : ∃ a cap, v = .slice a n cap /\ n <= cap /\ cap <= maxLen /\ ∀ j (hj : j < l.length), ∃ b off, a = some ⟨b, off, none⟩ /\ b < w.heap.size /\
  ∀ k, k < 13 -> w.cell? ⟨b, off + j * 13 + k, none⟩ = (gtv (l[j]))[k]? := by
 obtain ⟨a, cap, rfl, h1, h2, h3⟩ := h
 subst hn
 have hl := gls_len l
 refine ⟨a, cap, by rw [hl], by omega, h2, fun j hj => ?_⟩
 obtain ⟨b, off, rfl, hb, hc⟩ := h3 (by omega)
 refine ⟨b, off, rfl, hb, fun k hk => ?_⟩
 have e : (gtv (l[j]))[k]? = some ((gtv (l[j]))[k]'(by rw [gtv_size]; exact hk)) := Array.getElem?_eq_getElem _
 rw [e]
 have := hc j (by omega) k _ (by
  have e2 : (gls l)[j]'(by omega) = gl l[j] := by simp [gls]
  rw [e2]
  unfold gl
  rw [Array.getElem?_toList]; exact e)
 rw [Nat.add_assoc]; exact this
def sameG (x y : GT) : Bool := decide (x.1 = y.1 /\ x.2.1 = y.2.1)
theorem eqfun_any (x y : GT) (r : Bool) (w : World) (hr : sameG x y = r) :
  Calls Tryz.prog 114 #[.agg (gtv x), .agg (gtv y)] w fun e w' => e = .returned (.bool r) /\ Below w.heap.size w w' := by
 obtain ⟨t, c, z⟩ := x
 obtain ⟨u, d, y⟩ := y
 have hd : decide (((t, c, z) : GT) = (u, d, z)) = r := by
  rw [<- hr]; unfold sameG
  simp only [Prod.mk.injEq, and_true]
 have e1 : gtv (t, c, z) = #[.int .i64 t.kind, .string (bytes t.text), .string (bytes t.unit), .bool t.num.1, .string (bytes t.num.2.1), .string (bytes t.num.2.2), .bool t.flag, .bool t.sign, .int .i64 c.1, .int .i64 c.2.1, .int .i64 c.2.2.1, .int .i64 c.2.2.2, .int .i64 z] := rfl
 have e2 : gtv (u, d, y) = #[.int .i64 u.kind, .string (bytes u.text), .string (bytes u.unit), .bool u.num.1, .string (bytes u.num.2.1), .string (bytes u.num.2.2), .bool u.flag, .bool u.sign, .int .i64 d.1, .int .i64 d.2.1, .int .i64 d.2.2.1, .int .i64 d.2.2.2, .int .i64 y] := rfl
 rw [e1, e2]
 have HD := Lib.hid hd
 clear hr hd e1 e2
 go_enter Tryz.func114, Tryz.ntmps114
 go_wp2_with (refine wpl_cmpG rfl true _ _ rfl (t, c, z) (u, d, z) r HD.out _ _ rfl rfl rfl rfl ?_)
 go_wp2
 go_ret
 exact ⟨by simp, ((Below.refl _ _).alloc (Nat.le_refl _) _).alloc (by simp) _⟩
def keyG (g : GT) : M.CT × C4 := (g.1, g.2.1)
theorem sameG_key (x y : GT) : sameG x y = decide (keyG x = keyG y) := by
 unfold sameG keyG
 rw [Bool.eq_iff_iff, decide_eq_true_iff, decide_eq_true_iff]
 exact ⟨fun h => Prod.ext h.1 h.2, fun h => ⟨by have := congrArg Prod.fst h; exact this, by have := congrArg Prod.snd h; exact this⟩⟩
theorem map_eq_iff (l m : List GT) : l.map keyG = m.map keyG ↔ l.length = m.length /\ ∀ j (h : j < l.length) (h2 : j < m.length), keyG l[j] = keyG m[j] := by
 constructor
 ·intro h
  have hl := congrArg List.length h
  simp only [List.length_map] at hl
  refine ⟨hl, fun j h1 h2 => ?_⟩
  have : (l.map keyG)[j]'(by simpa using h1) = (m.map keyG)[j]'(by simpa using h2) := by simp only [h]
  simpa using this
 ·rintro ⟨hl, h⟩
  apply List.ext_getElem
  ·simpa using hl
  ·intro j h1 h2
   simp only [List.length_map] at h1 h2
   simpa using h j h1 h2
theorem eqfunc_any (u v : Value) (l m : List GT) (r : Bool) (w : World) (hu : Gs w u l) (hv : Gs w v m) (hl : l.length <= 1000000) (hm : m.length <= 1000000) (hr : decide (l.map keyG = m.map keyG) = r) :
  Calls Tryz.prog 113 #[u, v, .func (.func 114) #[] #[]] w fun e w' => e = .returned (.bool r) /\ Below w.heap.size w w' := by
 obtain ⟨n, hn⟩ : ∃ n, l.length = n := ⟨_, rfl⟩
 obtain ⟨p, hp⟩ : ∃ n, m.length = n := ⟨_, rfl⟩
 obtain ⟨ax, cx, rfl, x1, x2, x3⟩ := gs_cells hu hn
 obtain ⟨ay, cy, rfl, y1, y2, y3⟩ := gs_cells hv hp
 rw [hn] at hl
 rw [hp] at hm
 have HN := Lib.hid hn
 have HP := Lib.hid hp
 have HX := Lib.hid x3
 have HY := Lib.hid y3
 have HR := Lib.hid hr
 clear hu hv hn hp x3 y3 hr
 by_cases hnp : n = p
 ·subst hnp
  clear x1 x2 y1 y2
  go_enter Tryz.func113, Tryz.ntmps113
  go_wp2
  go_loopw [17] (fun iv wr => ∃ k : Nat, iv = .int .i64 (k : Int) /\ k <= n /\ Below w.heap.size w wr /\ ∀ j (h1 : j < l.length) (h2 : j < m.length), j < k -> keyG l[j] = keyG m[j]) (fun iv _ => n - (intOf iv).toNat)
  case atStart => exact ⟨0, rfl, by omega, Below.refl _ _, fun _ _ _ h => by omega⟩
  case round =>
   obtain ⟨k, rfl, hk, hbr, hall⟩ := hrel
   have HBR := Lib.hid hbr
   have HA := Lib.hid hall
   clear hbr hall
   by_cases hlt : k < n
   ·have hkl : k < l.length := by rw [HN.out]; exact hlt
    have hkm : k < m.length := by rw [HP.out]; exact hlt
    obtain ⟨bx, ox, rfl, hbx, hcx⟩ := HX.out k hkl
    obtain ⟨by', oy, rfl, hby, hcy⟩ := HY.out k hkm
    obtain ⟨g, hg⟩ : ∃ g, l[k] = g := ⟨_, rfl⟩
    obtain ⟨h, hh⟩ : ∃ g, m[k] = g := ⟨_, rfl⟩
    have HG := Lib.hid hg
    have HH := Lib.hid hh
    rw [hg] at hcx
    rw [hh] at hcy
    have CX := Lib.hid (fun W (hW : Below w.heap.size w W) k' (hk' : k' < 13) => (hW.cell (p := ⟨bx, ox + k * 13 + k', none⟩) hbx).trans (hcx k' hk'))
    have CY := Lib.hid (fun W (hW : Below w.heap.size w W) k' (hk' : k' < 13) => (hW.cell (p := ⟨by', oy + k * 13 + k', none⟩) hby).trans (hcy k' hk'))
    obtain ⟨q, hq⟩ : ∃ q, sameG g h = q := ⟨_, rfl⟩
    have HQ := Lib.hid hq
    have E1 := Lib.hid (fun w => eqfun_any g h q w hq)
    have i0 : (0 : Int) <= k := by omega
    have i1 : (k : Int) < n := by omega
    clear hcx hcy hg hh hq hbx hby
    go_upto_region 6 with (first | (refine wpl_ldM rfl _ rfl bx (ox + k * 13) (gtv g) rfl rfl (CX.out _ HBR.out) ?_) | (refine wpl_stT rfl _ _ rfl wr.heap.size (ctv {} 0) (gtv g) rfl rfl (CB.new wr _) rfl rfl (gtv_one _) ?_))
    have cbA : CB ((wr.alloc (.cells #[.int .i64 0, .string ⟨#[]⟩, .string ⟨#[]⟩, .bool false, .string ⟨#[]⟩, .string ⟨#[]⟩, .bool false, .bool false, .int .i64 0, .int .i64 0, .int .i64 0, .int .i64 0, .int .i64 0] 33)).setRow wr.heap.size (gtv g)) wr.heap.size (gtv g) := (CB.new wr _).set _
    have hA : Below wr.heap.size wr ((wr.alloc (.cells #[.int .i64 0, .string ⟨#[]⟩, .string ⟨#[]⟩, .bool false, .string ⟨#[]⟩, .string ⟨#[]⟩, .bool false, .bool false, .int .i64 0, .int .i64 0, .int .i64 0, .int .i64 0, .int .i64 0] 33)).setRow wr.heap.size (gtv g)) := below_setRow ((Below.refl _ _).alloc (Nat.le_refl _) _) (Nat.le_refl _) _
    obtain ⟨W2, hW2⟩ : ∃ W, (wr.alloc (.cells #[.int .i64 0, .string ⟨#[]⟩, .string ⟨#[]⟩, .bool false, .string ⟨#[]⟩, .string ⟨#[]⟩, .bool false, .bool false, .int .i64 0, .int .i64 0, .int .i64 0, .int .i64 0, .int .i64 0] 33)).setRow wr.heap.size (gtv g) = W := ⟨_, rfl⟩
    rw [hW2] at cbA hA ⊢
    have HB2 := Lib.hid (HBR.out.trans (hA.mono HBR.out.size))
    have zA := cbA.lt
    clear hW2 hA
    go_upto_region 7 with (first | (refine wpl_ldM rfl _ rfl by' (oy + k * 13) (gtv h) rfl rfl (CY.out _ HB2.out) ?_) | (refine wpl_stT rfl _ _ rfl W2.heap.size (ctv {} 0) (gtv h) rfl rfl (CB.new W2 _) rfl rfl (gtv_one _) ?_))
    have cbB : CB ((W2.alloc (.cells #[.int .i64 0, .string ⟨#[]⟩, .string ⟨#[]⟩, .bool false, .string ⟨#[]⟩, .string ⟨#[]⟩, .bool false, .bool false, .int .i64 0, .int .i64 0, .int .i64 0, .int .i64 0, .int .i64 0] 33)).setRow W2.heap.size (gtv h)) W2.heap.size (gtv h) := (CB.new W2 _).set _
    have hB : Below W2.heap.size W2 ((W2.alloc (.cells #[.int .i64 0, .string ⟨#[]⟩, .string ⟨#[]⟩, .bool false, .string ⟨#[]⟩, .string ⟨#[]⟩, .bool false, .bool false, .int .i64 0, .int .i64 0, .int .i64 0, .int .i64 0, .int .i64 0] 33)).setRow W2.heap.size (gtv h)) := below_setRow ((Below.refl _ _).alloc (Nat.le_refl _) _) (Nat.le_refl _) _
    obtain ⟨W3, hW3⟩ : ∃ W, (W2.alloc (.cells #[.int .i64 0, .string ⟨#[]⟩, .string ⟨#[]⟩, .bool false, .string ⟨#[]⟩, .string ⟨#[]⟩, .bool false, .bool false, .int .i64 0, .int .i64 0, .int .i64 0, .int .i64 0, .int .i64 0] 33)).setRow W2.heap.size (gtv h) = W := ⟨_, rfl⟩
    rw [hW3] at cbB hB ⊢
    have HB3 := Lib.hid (HB2.out.trans (hB.mono HB2.out.size))
    have cbA2 := cbA.keep hB zA
    obtain ⟨bA, hbA⟩ : ∃ b, wr.heap.size = b := ⟨_, rfl⟩
    obtain ⟨bB, hbB⟩ : ∃ b, W2.heap.size = b := ⟨_, rfl⟩
    rw [hbA] at cbA2 ⊢
    rw [hbB] at cbB ⊢
    clear hW3 hB zA cbA hbA hbB
    go_wp2_with (first | (refine wpl_ldT rfl _ rfl bA _ rfl cbA2 rfl ?_) | (refine wpl_ldT rfl _ rfl bB _ rfl cbB rfl ?_))
    refine (E1.out _).mono ?_
    rintro e w4 ⟨rfl, hb4⟩
    have HB4 := Lib.hid (HB3.out.trans (hb4.mono HB3.out.size))
    clear hb4 cbA2 cbB
    cases q with
    | true =>
     go_wp2
     go_roundw
     case rel => exact ⟨k + 1, by go_num, by omega, HB4.out, fun j h1 h2 hj => by
      by_cases hjk : j < k
      ·exact HA.out j h1 h2 hjk
      ·obtain rfl : j = k := by omega
       have := HQ.out
       rw [sameG_key, decide_eq_true_iff] at this
       rw [HG.out, HH.out]; exact this⟩
     case measure => simp [intOf]; omega
    | false =>
     have hfin : r = false := by
      rw [<- HR.out, decide_eq_false_iff_not, map_eq_iff]
      rintro ⟨_, h2⟩
      have h3 := h2 k (by rw [HN.out]; exact hlt) (by rw [HP.out]; exact hlt)
      have := HQ.out
      rw [sameG_key, decide_eq_false_iff_not] at this
      rw [HG.out, HH.out] at h3
      exact this h3
     subst hfin
     go_wp2
     go_ret
     exact ⟨rfl, HB4.out⟩
   ·obtain rfl : k = n := by omega
    have hfin : r = true := by
     rw [<- HR.out, decide_eq_true_iff, map_eq_iff]
     exact ⟨by rw [HN.out, HP.out], fun j h1 h2 => HA.out j h1 h2 (by rw [HN.out] at h1; exact h1)⟩
    subst hfin
    clear hlt
    go_wp2
    go_ret
    exact ⟨rfl, HBR.out⟩
 ·have hfin : r = false := by
   rw [<- HR.out, decide_eq_false_iff_not, map_eq_iff]
   rintro ⟨h1, _⟩
   rw [HN.out, HP.out] at h1
   exact hnp h1
  subst hfin
  have t1 : ((n : Int) == (p : Int)) = false := by rw [beq_eq_false_iff_ne]; omega
  have t2 : ¬ ((n : Int) = (p : Int)) := by omega
  clear hnp HX HY HN HP HR x1 x2 y1 y2
  go_enter Tryz.func113, Tryz.ntmps113
  go_wp2
  go_ret
  exact ⟨rfl, Below.refl _ _⟩
theorem equal_any (u v : Value) (l m : List GT) (r : Bool) (w : World) (hu : Gs w u l) (hv : Gs w v m) (hl : l.length <= 1000000) (hm : m.length <= 1000000) (hr : decide (l.map keyG = m.map keyG) = r) :
  Calls Tryz.prog 76 #[u, v] w fun e w' => e = .returned (.bool r) /\ Below w.heap.size w w' := by
 have E1 := Lib.hid (eqfunc_any u v l m r w hu hv hl hm hr)
 clear hu hv hl hm hr
 go_enter Tryz.func76, Tryz.ntmps76
 go_wp2_with fail
 refine E1.out.mono ?_
 rintro e w1 ⟨rfl, hb1⟩
 go_wp2
 go_ret
 exact ⟨rfl, hb1⟩
theorem clonet_any (v : Value) (l : List GT) (w : World) (hv : Gs w v l) (hnn : NNv v) (hl : l.length <= 1000000) :
  Calls Tryz.prog 73 #[v] w fun e w' => ∃ v', e = .returned v' /\ OwnG w.heap.size w' v' l /\ Below w.heap.size w w' := by
 have q : ∀ (w : World) (a : Option Addr) (n c n' c' : Nat), (binOp .eql 24 (.slice a n c) (.slice none n' c')).run Tryz.prog w = .ok (.bool a.isNone) w := fun w a n c n' c' => Lib.run_eql_slice_nil w _ _ a n c n' c' Tryz.underlying24
 obtain ⟨a, cap, hvv, h1, h2, h3⟩ := hv
 cases a with
 | none =>
  have h0 : l = [] := by
   rcases Nat.eq_zero_or_pos (gls l).length with h | h
   ·rw [gls_len] at h; exact List.length_eq_zero_iff.1 h
   ·obtain ⟨b, off, he, _⟩ := h3 h; simp at he
  subst h0
  subst hvv
  clear h1 h2 h3 hl hnn
  go_enter Tryz.func73, Tryz.ntmps73
  go_wp2
  go_ret
  exact ⟨_, rfl, ownV_nil _ _ _ _, Below.refl _ _⟩
 | some ad =>
  have hv2 : Gs w v l := ⟨_, cap, hvv, h1, h2, h3⟩
  have b0 := Lib.hid ((Below.refl w.heap.size w).alloc (Nat.le_refl _) (.cells #[] 33))
  have HO : Hid (OwnV 33 13 w.heap.size (w.alloc (.cells #[] 33)) (.slice (some ⟨w.heap.size, 0, none⟩) 0 0) []) := Lib.hid ⟨World.ownsRow_made w #[] 0 (Nat.le_refl _) (Nat.zero_le _) rfl, by simp, by simp⟩
  have HV := Lib.hid (Vs.keep hv2 b0.out)
  obtain ⟨n, hn⟩ : ∃ n, (gls l).length = n := ⟨_, rfl⟩
  have HN := Lib.hid hn
  have H4 := Lib.hid (gls_size l)
  have H5 := Lib.hid (gls_one l)
  have hl2 : n <= 1000000 := by rw [<- hn, gls_len]; exact hl
  rw [hn] at hvv h1
  subst hvv
  clear h3 hv2 hn hl hnn
  go_enter Tryz.func73, Tryz.ntmps73
  go_wp2_with (at_builtin; refine wpl_appendV rfl _ _ rfl Tryz.underlying24 infoC rfl (by decide) w.heap.size (.slice (some ⟨w.heap.size, 0, none⟩) 0 0) (.slice (some ad) n cap) [] (gls l) (gls l) rfl HO.out rfl HV.out (nnv_some _ _ _) H4.out H5.out (by rw [HN.out]; simp; omega) (by decide) (by simp) rfl ?_)
  intro v2 w2 ho2 hb2
  have hfin := b0.out.trans hb2
  go_wp2
  go_ret
  exact ⟨_, rfl, ho2, hfin⟩
end Go.Proofs.YtimjbjppmhdjnaaGreatDoor
