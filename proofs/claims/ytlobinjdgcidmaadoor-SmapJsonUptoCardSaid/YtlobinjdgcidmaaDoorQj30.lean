/- Texts of ours in one: ZRv ZRw. -/
import Derived.Test.YtlobinjdgcidmaaDoorQj29
import Derived.Deep.QuietTactic
import Derived.BigQuiet
/- The page's reader of JSON, plain: value; it is the program's own (valP). -/
namespace Go.Proofs.YtlobinjdgcidmaaDoor
set_option linter.unusedVariables false
set_option linter.unusedSimpArgs false

abbrev RRes := Vh × Vo × Rst
def itemR (l : List UInt8) (val : Rst → RRes) (obj : Bool) (st : Rst) (ms : List Int) (L : Vo) : List Int × Vo × Rst :=
  if obj then
    (ms ++ [(markR l.length 5 (textR l st).2).1], (L.snoc (textR l st).1 .nil).snoc (val (markR l.length 5 (textR l st).2).2).1 (val (markR l.length 5 (textR l st).2).2).2.1, (val (markR l.length 5 (textR l st).2).2).2.2)
  else (ms, L.snoc (val st).1 (val st).2.1, (val st).2.2)
def listR (obj : Bool) (fr : Nat) (tt : Int) (ms : List Int) : Vh := ⟨kdL obj, [], false, [], [], fr, tt, ms⟩
mutual
def valR (l : List UInt8) : Nat → Nat → Rst → RRes
  | 0, _, st => (noV, .nil, failR l.length 3 st)
  | f + 1, deep, st => match st with
    | .error x => (noV, .nil, .error x)
    | .ok [] => (noV, .nil, .error (synP l.length []))
    | .ok (t :: r) =>
      if t.1 = 7 then (textV l t, .nil, .ok r)
      else if t.1 = 8 then (numbV l t, .nil, .ok r)
      else if t.1 = 9 ∨ t.1 = 10 ∨ t.1 = 11 then (leafP ((t.1 : Int) - 4) t.2.1, .nil, .ok r)
      else if t.1 = 1 ∨ t.1 = 3 then
        (match deep with
         | 0 => (noV, .nil, .error (4, (t.2.1 : Int)))
         | d + 1 =>
           if kindP r = t.1 + 1 then tailR l f (decide (t.1 = 1)) d t.2.1 (.ok r) [] .nil
           else tailR l f (decide (t.1 = 1)) d t.2.1 (itemR l (valR l f d) (decide (t.1 = 1)) (.ok r) [] .nil).2.2 (itemR l (valR l f d) (decide (t.1 = 1)) (.ok r) [] .nil).1 (itemR l (valR l f d) (decide (t.1 = 1)) (.ok r) [] .nil).2.1)
      else (noV, .nil, .error (synP l.length (t :: r)))
def tailR (l : List UInt8) : Nat → Bool → Nat → Nat → Rst → List Int → Vo → RRes
  | 0, obj, _, fr, st, ms, L => (listR obj fr 0 ms, L, failR l.length 3 st)
  | f + 1, obj, d, fr, st, ms, L =>
    if isR 6 st then
      tailR l f obj d fr (itemR l (valR l f d) obj (markR l.length 6 st).2 (ms ++ [(markR l.length 6 st).1]) L).2.2 (itemR l (valR l f d) obj (markR l.length 6 st).2 (ms ++ [(markR l.length 6 st).1]) L).1 (itemR l (valR l f d) obj (markR l.length 6 st).2 (ms ++ [(markR l.length 6 st).1]) L).2.1
    else (listR obj fr (markR l.length (shL obj) st).1 ms, L, (markR l.length (shL obj) st).2)
end
def Agr (p : PRes) (q : RRes) : Prop := match p with
  | .ok (h, k, r) => q = (h, k, .ok r)
  | .error e => q.2.2 = .error e
def AgrI (p : LRes) (q : List Int × Vo × Rst) : Prop := match p with
  | .ok (ms, L, r) => q = (ms, L, .ok r)
  | .error e => q.2.2 = .error e
theorem valR_bad (l : List UInt8) (f deep : Nat) (x : Int × Int) : valR l f deep (.error x) = (noV, .nil, .error x) := by
  cases f with
  | zero => simp [valR, failR]
  | succ f => simp [valR]
theorem tailR_bad (l : List UInt8) (f : Nat) (obj : Bool) (d fr : Nat) (x : Int × Int) (ms : List Int) (L : Vo) : tailR l f obj d fr (.error x) ms L = (listR obj fr 0 ms, L, .error x) := by
  cases f with
  | zero => simp [tailR, failR]
  | succ f => simp [tailR, isR, markR]
theorem item_agr (l : List UInt8) (val : M.Toks → PRes) (val' : Rst → RRes) (hb : ∀ x, val' (.error x) = (noV, .nil, .error x)) (hv : ∀ ts, Agr (val ts) (val' (.ok ts))) (obj : Bool) (ts : M.Toks) (ms : List Int) (L : Vo) :
    AgrI (itemW l val obj ts ms L) (itemR l val' obj (.ok ts) ms L) := by
  unfold itemW itemR
  cases obj with
  | false =>
    simp only [Bool.false_eq_true, if_false]
    have := hv ts
    cases h : val ts with
    | error e => rw [h] at this; exact this
    | ok q =>
      obtain ⟨a, b, c⟩ := q
      rw [h] at this
      simp only [Agr] at this
      simp [AgrI, this]
  | true =>
    simp only [if_true]
    cases h7 : takeP l.length 7 ts with
    | error e => simp [AgrI, textR, h7, markR, hb]
    | ok q =>
      obtain ⟨t, r⟩ := q
      simp only
      cases h5 : takeP l.length 5 r with
      | error e => simp [AgrI, textR, h7, markR, h5, hb]
      | ok q =>
        obtain ⟨c, r2⟩ := q
        simp only
        have := hv r2
        cases h : val r2 with
        | error e =>
          rw [h] at this
          simp only [Agr] at this
          simp [AgrI, textR, h7, markR, h5, this]
        | ok q =>
          obtain ⟨a, b, c2⟩ := q
          rw [h] at this
          simp only [Agr] at this
          simp [AgrI, textR, h7, markR, h5, this]
theorem val_agr (l : List UInt8) : ∀ f, (∀ deep ts, Agr (valP l f deep ts) (valR l f deep (.ok ts))) ∧ (∀ obj d fr ts ms L, Agr (restP l f obj d fr ts ms L) (tailR l f obj d fr (.ok ts) ms L)) := by
  intro f
  induction f with
  | zero => exact ⟨fun deep ts => by simp [valP, valR, Agr, failR, synP], fun obj d fr ts ms L => by simp [restP, tailR, Agr, failR, synP]⟩
  | succ f ih =>
    obtain ⟨iv, ir⟩ := ih
    have it := fun d obj ts ms L => item_agr l (valP l f d) (valR l f d) (valR_bad l f d) (iv d) obj ts ms L
    have step : ∀ obj d fr ts ms L, Agr (match itemW l (valP l f d) obj ts ms L with
             | .error e => .error e
             | .ok (ms, L, r2) => restP l f obj d fr r2 ms L) (tailR l f obj d fr (itemR l (valR l f d) obj (.ok ts) ms L).2.2 (itemR l (valR l f d) obj (.ok ts) ms L).1 (itemR l (valR l f d) obj (.ok ts) ms L).2.1) := by
      intro obj d fr ts ms L
      have h := it d obj ts ms L
      cases hw : itemW l (valP l f d) obj ts ms L with
      | error e =>
        rw [hw] at h
        simp only [AgrI] at h
        simp only
        rw [h, tailR_bad]
        rfl
      | ok q =>
        obtain ⟨a, b, c⟩ := q
        rw [hw] at h
        simp only [AgrI] at h
        rw [h]
        exact ir obj d fr c a b
    refine ⟨fun deep ts => ?_, fun obj d fr ts ms L => ?_⟩
    · cases ts with
      | nil => simp [valP, valR, Agr]
      | cons t r =>
        unfold valP valR
        simp only
        by_cases h7 : t.1 = 7
        · rw [if_pos h7, if_pos h7]; rfl
        · rw [if_neg h7, if_neg h7]
          by_cases h8 : t.1 = 8
          · rw [if_pos h8, if_pos h8]; rfl
          · rw [if_neg h8, if_neg h8]
            by_cases h9 : t.1 = 9 ∨ t.1 = 10 ∨ t.1 = 11
            · rw [if_pos h9, if_pos h9]; rfl
            · rw [if_neg h9, if_neg h9]
              by_cases h1 : t.1 = 1 ∨ t.1 = 3
              · rw [if_pos h1, if_pos h1]
                cases deep with
                | zero => rfl
                | succ d =>
                  simp only
                  by_cases hk : kindP r = t.1 + 1
                  · rw [if_pos hk, if_pos hk]
                    exact ir _ _ _ _ _ _
                  · rw [if_neg hk, if_neg hk]
                    exact step _ _ _ _ _ _
              · rw [if_neg h1, if_neg h1]; rfl
    · unfold restP tailR
      by_cases hs : kindP ts = shL obj
      · have h6 : isR 6 (.ok ts) = false := by
          simp only [isR, hs, decide_eq_false_iff_not]
          cases obj <;> simp [shL]
        rw [if_pos hs, h6]
        simp only [Bool.false_eq_true, if_false]
        cases ht : takeP l.length (shL obj) ts with
        | error e => simp [markR, ht, Agr]
        | ok q => obtain ⟨t, r⟩ := q; simp [markR, ht, Agr, listR]
      · rw [if_neg hs]
        cases h6 : takeP l.length 6 ts with
        | error e =>
          have hne : kindP ts ≠ 6 := by
            cases ts with
            | nil => simp [kindP]
            | cons t r =>
              intro hk
              have hk' : t.1 = 6 := hk
              simp [takeP, hk'] at h6
          have h6' : isR 6 (.ok ts) = false := by simp [isR, hne]
          rw [h6']
          simp only [Bool.false_eq_true, if_false]
          have e1 : e = synP l.length ts := by
            cases ts with
            | nil => simp [takeP] at h6; exact h6.symm
            | cons t r =>
              have hk' : t.1 ≠ 6 := hne
              simp [takeP, hk'] at h6; exact h6.symm
          have hh : markR l.length (shL obj) (.ok ts) = (0, .error (synP l.length ts)) := by
            cases ts with
            | nil => rfl
            | cons t r =>
              have hk' : t.1 ≠ shL obj := hs
              simp [markR, takeP, hk']
          rw [hh, e1]
          rfl
        | ok q =>
          obtain ⟨c, r⟩ := q
          have hc := take_len h6
          have h6' : isR 6 (.ok ts) = true := by
            cases ts with
            | nil => simp [takeP] at h6
            | cons t r =>
              by_cases hk : t.1 = 6
              · simp [isR, kindP, hk]
              · simp [takeP, hk] at h6
          rw [h6']
          simp only [if_true]
          have hm : markR l.length 6 (.ok ts) = ((c.2.1 : Int), .ok r) := by simp [markR, h6]
          rw [hm]
          exact step _ _ _ _ _ _
def parR (l : List UInt8) (deep : Nat) (ts : M.Toks) : Except (Int × Int) (Vh × Vo) := match (valR l (2 * ts.length + 2) deep (.ok ts)).2.2 with
  | .error x => .error x
  | .ok [] => .ok ((valR l (2 * ts.length + 2) deep (.ok ts)).1, (valR l (2 * ts.length + 2) deep (.ok ts)).2.1)
  | .ok (t :: r) => .error (synP l.length (t :: r))
theorem par_agr (l : List UInt8) (deep : Nat) (ts : M.Toks) : parR l deep ts = parP l deep ts := by
  have h := (val_agr l (2 * ts.length + 2)).1 deep ts
  unfold parR parP
  cases hv : valP l (2 * ts.length + 2) deep ts with
  | error e =>
    rw [hv] at h
    simp only [Agr] at h
    rw [h]
  | ok q =>
    obtain ⟨a, b, c⟩ := q
    rw [hv] at h
    simp only [Agr] at h
    rw [h]
    cases c with
    | nil => rfl
    | cons t r => rfl
end Go.Proofs.YtlobinjdgcidmaaDoor
/- The page's reader of JSON: value, where there is no token, and where there is a text. -/
namespace Go.Proofs.YtlobinjdgcidmaaDoor
open Go.RowKit
set_option linter.unusedVariables false
set_option linter.unusedSimpArgs false

def NoTok : Rst → Prop
  | .ok ts => ts = []
  | .error _ => True
theorem valR_none {l : List UInt8} {f deep : Nat} {st : Rst} (h : NoTok st) : valR l f deep st = (noV, .nil, failR l.length 3 st) := by
  cases st with
  | error x => rw [valR_bad]; rfl
  | ok ts =>
    obtain rfl : ts = [] := h
    cases f with
    | zero => simp [valR]
    | succ f => simp [valR, failR, synP]
theorem notok_is {k : Nat} {st : Rst} (hk : 1 ≤ k) (h : NoTok st) : isR k st = false := by
  cases st with
  | error x => rfl
  | ok ts =>
    obtain rfl : ts = [] := h
    exact decide_eq_false (by show ¬ 0 = k; omega)
set_option maxRecDepth 100000 in
set_option maxHeartbeats 4000000 in
theorem rdval_none {w0 w : World} {bv lv : Value} {l : List UInt8} {all : M.Toks} {st : Rst} (D : Int) (x : RdP w0 bv lv l all w st) (hN : NoTok st) :
    Calls Tryd.prog 19 #[ptrP w0, .int .i64 D] w (RvQ w0 bv lv l all noV .nil (failR l.length 3 st) w) := by
  have HX := Lib.hid x
  have hlt := rdlt x
  have b0 := Lib.hid ((Below.refl w.heap.size w).alloc (Nat.le_refl _) (.cells zv 36))
  have K0 := Lib.hid (BK.new 36 w zv)
  obtain ⟨W1, hW1⟩ : ∃ x, w.alloc (.cells zv 36) = x := ⟨_, rfl⟩
  rw [hW1] at b0 K0
  have HW1 := Lib.hid (show w.alloc (.cells #[.int .i64 0, .slice none 0 0, .bool false, .string ⟨#[]⟩, .string ⟨#[]⟩, .slice none 0 0, .int .i64 0, .int .i64 0, .slice none 0 0] 36) = W1 from hW1)
  have X1 := Lib.hid (x.keep b0.out)
  have hl1 := K0.out.lt
  have hR := notok_is (k := 7) (by decide) hN
  have IS := Lib.hid (fun (w1 : World) (h : RdP w0 bv lv l all w1 st) => (hR ▸ rdis_any 7 (by decide) h : Calls Tryd.prog 41 #[ptrP w0, .int .i64 7] w1 fun e w' => e = .returned (.bool false) ∧ Below w1.heap.size w1 w'))
  have FA := Lib.hid (fun (w1 : World) (h : RdP w0 bv lv l all w1 st) => rdfail_any (e' := 3) (by decide) h)
  have FIN := Lib.hid (fun (w2 w3 : World) (hb : Below W1.heap.size W1 w2) (hq : RdQ w0 bv lv l all (failR l.length 3 st) w2 w3) => (by
    have K03 := (K0.out.keep hb).frame (hq.2.oth _ (by have := hb.size; omega) (by omega))
    refine ⟨K03, hq.1, ((Fr.of b0.out (Nat.le_of_lt hlt)).trans (Fr.of hb (by omega))).trans hq.2⟩ : BK 36 w3 w.heap.size zv ∧ RdP w0 bv lv l all w3 (failR l.length 3 st) ∧ Fr w0.heap.size w w3))
  unfold ptrP at IS FA ⊢
  clear hR hW1
  cases st with
  | error q =>
    clear x hN
    go_enter Tryd.func19, Tryd.ntmps19
    go_upto_region 1 with fail
    rw [HW1.out]
    go_wp2_with fail
    refine (IS.out _ X1.out).mono ?_
    rintro e w2 ⟨rfl, hb⟩
    have H2 := Lib.hid hb
    obtain ⟨h0, n, x2⟩ := X1.out.keep hb
    have HX2 := Lib.hid x2
    obtain ⟨c0, c1, c2, c3, c4⟩ := x2.cells
    have t0 : (q.1 != 0) = true := by simpa using h0
    obtain ⟨E, hE⟩ : ∃ E, q.1 = E := ⟨_, rfl⟩
    rw [hE] at c3 t0
    clear hb x2 h0 hE
    go_wp2_with fail
    go_quiet (fail)
    go_wp2_with fail
    have HQ : Below W1.heap.size W1 (w2.drewN nq) := H2.out.trans (show Below W1.heap.size w2 (w2.drewN nq) from ⟨rfl, rfl, rfl, Nat.le_refl _, fun _ _ => rfl⟩)
    refine (FA.out (w2.drewN nq) (X1.out.keep HQ)).mono ?_
    rintro e w3 ⟨rfl, hq⟩
    obtain ⟨K3, X3, F3⟩ := FIN.out (w2.drewN nq) w3 HQ hq
    have K3 := Lib.hid K3
    have X3 := Lib.hid X3
    have F3 := Lib.hid F3
    clear hq
    go_wp2_with (refine wpl_stV rfl _ _ rfl w.heap.size zv noV nilV nilV nilV rfl rfl K3.out rfl rfl rfl rfl ?_)
    go_wp2
    refine bodyPost_ret (res_bk Tryd.underlying36 rfl infoV1 rfl _ _ w.heap.size (vvl noV nilV nilV nilV) rfl (BK.set K3.out _) rfl) rfl ⟨nilV, nilV, nilV, rfl, ⟨by simp [noV], by simp [noV], isP_nil _ _, isP_nil _ _⟩, voP_nil _ _, X3.out.setRow hlt _, Fr.setRow F3.out (Nat.le_refl _) (Nat.le_of_lt hlt) _⟩
  | ok ts =>
    obtain rfl : ts = [] := hN
    clear x
    go_enter Tryd.func19, Tryd.ntmps19
    go_upto_region 1 with fail
    rw [HW1.out]
    go_wp2_with fail
    refine (IS.out _ X1.out).mono ?_
    rintro e w2 ⟨rfl, hb⟩
    have H2 := Lib.hid hb
    obtain ⟨n, x2, hd⟩ := X1.out.keep hb
    have HX2 := Lib.hid x2
    obtain ⟨c0, c1, c2, c3, c4⟩ := x2.cells
    obtain ⟨ta, cap, rfl, h1, h2, h3⟩ := x2.toks
    have hn : n = all.length := by
      have := x2.hn
      have h5 := List.drop_eq_nil_iff.1 hd
      omega
    subst hn
    clear hb x2 hd h3
    go_wp2_with fail
    go_quiet (fail)
    go_wp2_with fail
    have HQ : Below W1.heap.size W1 (w2.drewN nq) := H2.out.trans (show Below W1.heap.size w2 (w2.drewN nq) from ⟨rfl, rfl, rfl, Nat.le_refl _, fun _ _ => rfl⟩)
    refine (FA.out (w2.drewN nq) (X1.out.keep HQ)).mono ?_
    rintro e w3 ⟨rfl, hq⟩
    obtain ⟨K3, X3, F3⟩ := FIN.out (w2.drewN nq) w3 HQ hq
    have K3 := Lib.hid K3
    have X3 := Lib.hid X3
    have F3 := Lib.hid F3
    clear hq
    go_wp2_with (refine wpl_stV rfl _ _ rfl w.heap.size zv noV nilV nilV nilV rfl rfl K3.out rfl rfl rfl rfl ?_)
    go_wp2
    refine bodyPost_ret (res_bk Tryd.underlying36 rfl infoV1 rfl _ _ w.heap.size (vvl noV nilV nilV nilV) rfl (BK.set K3.out _) rfl) rfl ⟨nilV, nilV, nilV, rfl, ⟨by simp [noV], by simp [noV], isP_nil _ _, isP_nil _ _⟩, voP_nil _ _, X3.out.setRow hlt _, Fr.setRow F3.out (Nat.le_refl _) (Nat.le_of_lt hlt) _⟩
theorem RvQ.row {w0 w w1 w' : World} {bv lv : Value} {l : List UInt8} {all : M.Toks} {h : Vh} {kids : Vo} {st : Rst} {tv v mv : Value} {g : Nat} (cs : Array Value)
    (hd : HdP (Nw w1.heap.size w') w' h tv mv) (hv : VoP (Nw w1.heap.size w') w' v kids) (q : RdQ w0 bv lv l all st w1 w') (f : Fr w0.heap.size w w1) (hg : w.heap.size ≤ g) (hg1 : g < w1.heap.size) (hlt : w0.heap.size < w.heap.size) :
    HdP (Nw w.heap.size (w'.setRow g cs)) (w'.setRow g cs) h tv mv ∧ VoP (Nw w.heap.size (w'.setRow g cs)) (w'.setRow g cs) v kids ∧ RdQ w0 bv lv l all st w (w'.setRow g cs) := by
  have hk : ∀ b, Nw w1.heap.size w' b → (w'.setRow g cs).heap[b]? = w'.heap[b]? := fun b hb => setRow_other _ _ _ _ (by have := hb.1; omega)
  have hm : ∀ b, Nw w1.heap.size w' b → Nw w.heap.size (w'.setRow g cs) b := fun b hb => ⟨by have := hb.1; omega, Nat.lt_of_lt_of_le hb.2 (below_setRowK (Below.refl 0 w') (Nat.zero_le _) _).size⟩
  exact ⟨(hd.keep hk).mono hm, (hv.keep hk).mono hm, q.1.setRow (by omega) _, Fr.setRow (f.trans q.2) hg (by omega) _⟩
set_option maxRecDepth 100000 in
set_option maxHeartbeats 4000000 in
theorem rdval_text {w0 w : World} {bv lv : Value} {l : List UInt8} {all : M.Toks} {st : Rst} (D : Int) (x : RdP w0 bv lv l all w st) (hT : TkIn l all) (hR : isR 7 st = true) :
    Calls Tryd.prog 19 #[ptrP w0, .int .i64 D] w (RvQ w0 bv lv l all (textR l st).1 .nil (textR l st).2 w) := by
  have HX := Lib.hid x
  have hlt := rdlt x
  have b0 := Lib.hid ((Below.refl w.heap.size w).alloc (Nat.le_refl _) (.cells zv 36))
  have K0 := Lib.hid (BK.new 36 w zv)
  obtain ⟨W1, hW1⟩ : ∃ x, w.alloc (.cells zv 36) = x := ⟨_, rfl⟩
  rw [hW1] at b0 K0
  have HW1 := Lib.hid (show w.alloc (.cells #[.int .i64 0, .slice none 0 0, .bool false, .string ⟨#[]⟩, .string ⟨#[]⟩, .slice none 0 0, .int .i64 0, .int .i64 0, .slice none 0 0] 36) = W1 from hW1)
  have X1 := Lib.hid (x.keep b0.out)
  have hl1 := K0.out.lt
  have IS := Lib.hid (fun (w1 : World) (h : RdP w0 bv lv l all w1 st) => (hR ▸ rdis_any 7 (by decide) h : Calls Tryd.prog 41 #[ptrP w0, .int .i64 7] w1 fun e w' => e = .returned (.bool true) ∧ Below w1.heap.size w1 w'))
  have TX := Lib.hid (fun (w1 : World) (h : RdP w0 bv lv l all w1 st) => rdtext_any h hT)
  obtain ⟨Q, hQ⟩ : ∃ q, textR l st = q := ⟨_, rfl⟩
  rw [hQ] at TX ⊢
  unfold ptrP at IS TX ⊢
  clear hR hW1 x hQ
  go_enter Tryd.func19, Tryd.ntmps19
  go_upto_region 1 with fail
  rw [HW1.out]
  go_wp2_with fail
  refine (IS.out _ X1.out).mono ?_
  rintro e w2 ⟨rfl, hb⟩
  have H2 := Lib.hid hb
  clear hb
  go_wp2_with fail
  refine (TX.out w2 (X1.out.keep H2.out)).mono ?_
  rintro e w3 ⟨tv, v, mv, rfl, hd, hv, hq⟩
  have s1 := H2.out.size
  have K3 := Lib.hid ((K0.out.keep H2.out).frame (hq.2.oth _ (by omega) (by omega)))
  have R3 := Lib.hid (fun cs => RvQ.row cs hd hv hq ((Fr.of b0.out (Nat.le_of_lt hlt)).trans (Fr.of H2.out (by omega))) (Nat.le_refl _) (by omega) hlt)
  have t1 := hd.t.one
  have t2 := hv.one
  have t3 := hd.m.one
  clear hd hv hq
  go_wp2_with (refine wpl_stV rfl _ _ rfl w.heap.size zv Q.1 tv v mv rfl rfl K3.out rfl t1 t2 t3 ?_)
  go_wp2
  obtain ⟨r1, r2, r3⟩ := R3.out (vv Q.1 tv v mv)
  refine bodyPost_ret (res_bk Tryd.underlying36 rfl infoV1 rfl _ _ w.heap.size (vvl Q.1 tv v mv) rfl (BK.set K3.out _) rfl) rfl ⟨tv, v, mv, rfl, r1, r2, r3⟩
end Go.Proofs.YtlobinjdgcidmaaDoor
