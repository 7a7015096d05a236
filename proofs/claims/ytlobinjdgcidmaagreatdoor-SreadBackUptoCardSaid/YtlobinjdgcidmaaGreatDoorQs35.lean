/- Texts of ours in one: RdPl SSp SGMath3. -/
import Derived.Test.YtlobinjdgcidmaaGreatDoorQs31
import Derived.Test.YtlobinjdgcidmaaGreatDoorQs34
import Derived.Test.YtlobinjdgcidmaaGreatDoorQs30
import Derived.Test.YtlobinjdgcidmaaGreatDoorQs13
import Derived.Test.YtlobinjdgcidmaaGreatDoorQs01
/- What sread.Read finds in a source map that was written (plain). -/
namespace Go.Proofs.YtlobinjdgcidmaaGreatDoor
set_option linter.unusedVariables false
set_option linter.unusedSimpArgs false

theorem wtx_list (T m : List UInt8) : wtx (bytes T) (bytes m) = bytes (sjS T (34 :: (m ++ [34]))) := by
  unfold wtx
  apply ByteArray.ext
  simp [bytes, sjS, sjA, sjB]
theorem unitsL_asc : ∀ (l : List UInt8), (∀ c ∈ l, c.toNat < 128) → unitsL l = l.map UInt8.toNat
  | [], _ => unitsL_nil [] rfl
  | c :: r, h => by
    have hc := h c (by simp)
    have hd : M.dec (c :: r) = (c.toNat, 1) := by
      have hb : M.byte (c :: r) 0 < 128 := hc
      unfold M.dec Go.Lib.decodeN
      rw [if_pos hb]
      rfl
    have ih := unitsL_asc r (fun x hx => h x (List.mem_cons_of_mem _ hx))
    rw [unitsL_cons _ (by simp), hd]
    simp only [List.drop_succ_cons, List.drop_zero, ih, List.map_cons]
    unfold M.pairU
    rw [if_pos (by omega)]
    rfl
theorem valid_asc (l : List UInt8) (h : ∀ c ∈ l, c.toNat < 128) : (M.validAll l).2 = true := by
  have := M.valid_asciis l.length l (Nat.le_refl _) (fun j hj => by
    rw [show l.getD j 0 = l[j] by simp [hj]]
    exact h _ (List.getElem_mem hj))
  rw [this, List.drop_length]; rfl
theorem txtU_asc (l : List UInt8) (h : ∀ c ∈ l, c.toNat < 128) : txtU (l.map UInt8.toNat) = l := by
  rw [← unitsL_asc l h]
  exact txt_units l.length l (Nat.le_refl _) (valid_asc l h)
def verB : List UInt8 := [118, 101, 114, 115, 105, 111, 110]
def srcB : List UInt8 := [115, 111, 117, 114, 99, 101, 115]
def namB : List UInt8 := [110, 97, 109, 101, 115]
def mapB : List UInt8 := [109, 97, 112, 112, 105, 110, 103, 115]
theorem txt_ver : txtU kVer = verB := txtU_asc verB (by decide)
theorem txt_src : txtU kSrc = srcB := txtU_asc srcB (by decide)
theorem txt_nam : txtU kNam = namB := txtU_asc namB (by decide)
theorem txt_map : txtU kMap = mapB := txtU_asc mapB (by decide)
def erP (x : Vh × Vo) : Vh × Vo := (erh x.1, er x.2)
theorem memG_er (nl : List UInt8) : ∀ (n : Nat) (K L : Vo) (f g : Option (Vh × Vo)) (c : Nat), K.len ≤ n → er K = er L → f.map erP = g.map erP → (memG nl K f c).1.map erP = (memG nl L g c).1.map erP ∧ (memG nl K f c).2 = (memG nl L g c).2
  | n, .nil, L, f, g, c, hn, he, hf => by
    cases L with
    | nil => simp only [memG]; exact ⟨hf, trivial⟩
    | cons _ _ _ => simp [er] at he
  | n, .cons h k .nil, L, f, g, c, hn, he, hf => by
    cases L with
    | nil => simp [er] at he
    | cons h' k' r' =>
      cases r' with
      | nil => simp only [memG]; exact ⟨hf, trivial⟩
      | cons _ _ _ => simp [er] at he
  | 0, .cons h k (.cons h2 k2 r), L, f, g, c, hn, he, hf => by simp [Vo.len] at hn
  | n + 1, .cons h k (.cons h2 k2 r), L, f, g, c, hn, he, hf => by
    cases L with
    | nil => simp [er] at he
    | cons h' k' r' =>
      cases r' with
      | nil => simp [er] at he
      | cons h2' k2' r2 =>
        simp only [er, Vo.cons.injEq] at he
        obtain ⟨e1, -, e2, e3, e4⟩ := he
        have et : h.tx = h'.tx := by have := congrArg Vh.tx e1; simpa only [erh] using this
        simp only [memG]
        rw [et]
        split
        · exact memG_er nl n r r2 _ _ _ (by simp [Vo.len] at hn; omega) e4 (by simp [erP, e2, e3])
        · exact memG_er nl n r r2 _ _ _ (by simp [Vo.len] at hn; omega) e4 hf
theorem memG_of {nl : List UInt8} {K L : Vo} {h : Vh} {k : Vo} (e : er K = er L) (hl : memG nl L none 0 = (some (h, k), 1)) : ∃ h' k', memG nl K none 0 = (some (h', k'), 1) ∧ erh h' = erh h ∧ er k' = er k := by
  obtain ⟨a, b⟩ := memG_er nl K.len K L none none 0 (Nat.le_refl _) e rfl
  rw [hl] at a b
  cases hk : (memG nl K none 0).1 with
  | none => rw [hk] at a; simp at a
  | some q =>
    obtain ⟨h', k'⟩ := q
    rw [hk] at a
    simp only [Option.map_some, erP, Option.some.injEq, Prod.mk.injEq] at a
    exact ⟨h', k', Prod.ext hk b, a.1, a.2⟩
theorem natL_tx (l : List Nat) : natL (txH l).tx = l := iN_nat l
theorem mem_ver (U V : List Nat) : memG verB (sjK U V) none 0 = (some (kyV 3, .nil), 1) := by
  have a1 : ¬ (srcB = verB) := by decide
  have a2 : ¬ (namB = verB) := by decide
  have a3 : ¬ (mapB = verB) := by decide
  simp only [sjK, memG, natL_tx, txt_ver, txt_src, txt_nam, txt_map, if_true, a1, a2, a3, if_false]
theorem mem_src (U V : List Nat) : memG srcB (sjK U V) none 0 = (some (arH, .cons (txH U) .nil .nil), 1) := by
  have a1 : ¬ (verB = srcB) := by decide
  have a2 : ¬ (namB = srcB) := by decide
  have a3 : ¬ (mapB = srcB) := by decide
  simp only [sjK, memG, natL_tx, txt_ver, txt_src, txt_nam, txt_map, if_true, a1, a2, a3, if_false]
theorem mem_map (U V : List Nat) : memG mapB (sjK U V) none 0 = (some (txH V, .nil), 1) := by
  have a1 : ¬ (verB = mapB) := by decide
  have a2 : ¬ (srcB = mapB) := by decide
  have a3 : ¬ (namB = mapB) := by decide
  simp only [sjK, memG, natL_tx, txt_ver, txt_src, txt_nam, txt_map, if_true, a1, a2, a3, if_false]
structure RdOK (K : Vo) (U V : List Nat) : Prop where
  ev : K.len % 2 = 0
  ln : K.len ≤ 2097152
  tx : TxOK K
  v : ∃ h k, memG verB K none 0 = (some (h, k), 1) ∧ h.k = 4 ∧ h.ng = false ∧ h.dg = [51] ∧ h.ex = [48]
  s : ∃ h k h0 k0, memG srcB K none 0 = (some (h, k), 1) ∧ h.k = 2 ∧ k.len = 1 ∧ k.at? 0 = some (h0, k0) ∧ h0.k = 3 ∧ h0.tx = iN U
  m : ∃ h k, memG mapB K none 0 = (some (h, k), 1) ∧ h.k = 3 ∧ h.tx = iN V
theorem rdOK_of {K : Vo} {U V : List Nat} (e : er K = er (sjK U V)) (hU : ∀ u ∈ U, u ≤ 65535) (hV : ∀ u ∈ V, u ≤ 65535) (lU : U.length ≤ 1000000) (lV : V.length ≤ 1000000) : RdOK K U V := by
  have hl : K.len = 8 := len_er e
  refine ⟨by omega, by omega, ?_, ?_, ?_, ?_⟩
  · intro j h k hj
    have hlt := vo_at_lt K j hj
    obtain ⟨h', k', a, b, -⟩ := at_er e.symm hj
    have et : h.tx = h'.tx := by have := congrArg Vh.tx b; simpa only [erh] using this.symm
    rw [et]
    have hj8 : j = 0 ∨ j = 1 ∨ j = 2 ∨ j = 3 ∨ j = 4 ∨ j = 5 ∨ j = 6 ∨ j = 7 := by omega
    have fin : ∀ (x : Vh) (y : Vo) (l : List Nat), some (x, y) = some (h', k') → x.tx = iN l → (∀ u ∈ l, u ≤ 65535) → l.length ≤ 1000000 → ∃ l : List Nat, h'.tx = iN l ∧ (∀ u ∈ l, u ≤ 65535) ∧ l.length ≤ 1000000 := fun x y l e1 e2 e3 e4 => by
      simp only [Option.some.injEq, Prod.mk.injEq] at e1
      exact ⟨l, by rw [← e1.1, e2], e3, e4⟩
    rcases hj8 with rfl | rfl | rfl | rfl | rfl | rfl | rfl | rfl
    · exact fin (txH kVer) .nil kVer a rfl (by decide) (by decide)
    · exact fin (kyV 3) .nil [] a rfl (by decide) (by decide)
    · exact fin (txH kSrc) .nil kSrc a rfl (by decide) (by decide)
    · exact fin arH _ [] a rfl (by decide) (by decide)
    · exact fin (txH kNam) .nil kNam a rfl (by decide) (by decide)
    · exact fin arH .nil [] a rfl (by decide) (by decide)
    · exact fin (txH kMap) .nil kMap a rfl (by decide) (by decide)
    · exact fin (txH V) .nil V a rfl hV lV
  · obtain ⟨h, k, a, b, -⟩ := memG_of e (mem_ver U V)
    have e1 : (kyV 3).k = 4 ∧ (kyV 3).ng = false ∧ (kyV 3).dg = [51] ∧ (kyV 3).ex = [48] := by decide +kernel
    have x0 : h.k = (kyV 3).k := by have := congrArg Vh.k b; simpa only [erh] using this
    have x1 : h.ng = (kyV 3).ng := by have := congrArg Vh.ng b; simpa only [erh] using this
    have x2 : h.dg = (kyV 3).dg := by have := congrArg Vh.dg b; simpa only [erh] using this
    have x3 : h.ex = (kyV 3).ex := by have := congrArg Vh.ex b; simpa only [erh] using this
    exact ⟨h, k, a, by rw [x0, e1.1], by rw [x1, e1.2.1], by rw [x2, e1.2.2.1], by rw [x3, e1.2.2.2]⟩
  · obtain ⟨h, k, a, b, c⟩ := memG_of e (mem_src U V)
    obtain ⟨h0, k0, a2, b2, -⟩ := at_er c (j := 0) (h := txH U) (k := .nil) rfl
    have x0 : h.k = arH.k := by have := congrArg Vh.k b; simpa only [erh] using this
    have x1 : h0.k = (txH U).k := by have := congrArg Vh.k b2; simpa only [erh] using this
    have x2 : h0.tx = (txH U).tx := by have := congrArg Vh.tx b2; simpa only [erh] using this
    exact ⟨h, k, h0, k0, a, x0, len_er c, a2, x1, x2⟩
  · obtain ⟨h, k, a, b, -⟩ := memG_of e (mem_map U V)
    have x0 : h.k = (txH V).k := by have := congrArg Vh.k b; simpa only [erh] using this
    have x2 : h.tx = (txH V).tx := by have := congrArg Vh.tx b; simpa only [erh] using this
    exact ⟨h, k, a, x0, x2⟩
theorem sr_all (l acc : List UInt8) (hl : l.length ≤ 100) (hp : ∀ c ∈ acc, plB c = true) (ha : acc.length ≤ 2420) :
    txtU (acc.map UInt8.toNat) = acc ∧ (wtx (bytes (M.spell (unitsL l))) (bytes acc)).data.toList = sjS (M.spell (unitsL l)) (M.spell (acc.map UInt8.toNat)) ∧ (sjS (M.spell (unitsL l)) (M.spell (acc.map UInt8.toNat))).length ≤ 20000 ∧
      ∃ h K, parseV (sjS (M.spell (unitsL l)) (M.spell (acc.map UInt8.toNat))) 60 = .ok (h, K) ∧ h.k = 1 ∧ RdOK K (unitsL l) (acc.map UInt8.toNat) := by
  have hU : ∀ u ∈ unitsL l, u ≤ 65535 := unitsL_le l.length l (Nat.le_refl _)
  have hV : ∀ u ∈ acc.map UInt8.toNat, u ≤ 65535 := fun u hu => by
    obtain ⟨c, hc, rfl⟩ := List.mem_map.1 hu
    have := plB_lt (hp c hc)
    omega
  have hs : M.spell (acc.map UInt8.toNat) = 34 :: (acc ++ [34]) := by unfold M.spell; rw [body_plain acc hp]
  have h1 := M.body_len (unitsL l)
  have h2 := unitsL_len l.length l (Nat.le_refl _)
  have hlen : (sjS (M.spell (unitsL l)) (M.spell (acc.map UInt8.toNat))).length ≤ 20000 := by
    rw [hs]
    unfold sjS M.spell sjA sjB
    simp only [List.length_cons, List.length_append, List.length_nil]
    omega
  obtain ⟨h, K, e1, e2, e3⟩ := sj_parse _ _ hU hV hlen
  refine ⟨txtU_asc acc (fun c hc => plB_lt (hp c hc)), ?_, hlen, h, K, e1, e2, rdOK_of e3 hU hV (by omega) (by rw [List.length_map]; omega)⟩
  rw [wtx_list, hs]
  exact bytes_list _
end Go.Proofs.YtlobinjdgcidmaaGreatDoor
/- sread.Mappings: strings.Split at one byte; a row of the call's own, kept. -/
namespace Go.Proofs.YtlobinjdgcidmaaGreatDoor
open Go.RowKit
set_option linter.unusedVariables false
set_option linter.unusedSimpArgs false

def PartsAt (w : World) (b : Nat) (ps : List (List UInt8)) : Prop := ∀ j (hj : j < ps.length), w.cell? ⟨b, j, none⟩ = some (.string (bytes ps[j]))
theorem PartsAt.keep {w w' : World} {b : Nat} {ps : List (List UInt8)} (h : PartsAt w b ps) {B : Nat} (hb : Below B w w') (hB : b < B) : PartsAt w' b ps :=
  fun j hj => (hb.cell (p := ⟨b, j, none⟩) hB).trans (h j hj)
theorem cut_cells (c : UInt8) (t : List UInt8) : (Lib.splitB (bytes [c]) 0 (Lib.countB (bytes t) (bytes [c])) (bytes t)).map (fun p => p.data.toList) = M.cut c t := by
  rw [Lib.splitB_data]
  unfold M.cut Lib.split
  rw [bytes_list, bytes_list]
  congr 1
theorem cut_pos (c : UInt8) (t : List UInt8) : (M.cut c t).length = Lib.countB (bytes t) (bytes [c]) + 1 := by
  rw [← cut_cells, List.length_map]
  exact Lib.splitB_all (bytes [c]) (by simp [bytes_size]) 0 _ _ rfl
theorem splitS_any (c : UInt8) (t : List UInt8) (T C : ByteArray) (m : Int) (w : World) (hT : bytes t = T) (hC : bytes [c] = C) (hs : T.size < 4294967281) (hm : w.cell? ⟨0, 0, none⟩ = some (.int .i64 m)) :
    Calls Tryz.prog 23 #[.string T, .string C] w fun e w' => ∃ W', e = .returned (.slice (some ⟨w.heap.size, 0, none⟩) (M.cut c t).length (M.cut c t).length) ∧ W' = w' ∧ PartsAt w' w.heap.size (M.cut c t) ∧ Below w.heap.size w w' ∧ w'.heap.size = w.heap.size + 1 := by
  subst hT hC
  refine (Tryz.strings_Split (bytes t) (bytes [c]) m w hs hm (by simp [bytes_size])).mono ?_
  rintro e w' ⟨rfl, rfl⟩
  refine ⟨_, by rw [cut_pos], rfl, ?_, (Below.refl _ _).alloc (Nat.le_refl _) _, by simp⟩
  intro j hj
  rw [World.cell?_alloc_at _ _ _ _ rfl]
  have h1 := cut_cells c t
  have hj2 : j < (Lib.splitB (bytes [c]) 0 (Lib.countB (bytes t) (bytes [c])) (bytes t)).length := by
    rw [← List.length_map (f := fun p : ByteArray => p.data.toList), h1]; exact hj
  rw [List.getElem?_toArray, List.getElem?_map, List.getElem?_eq_getElem hj2]
  have h2 : (M.cut c t)[j] = ((Lib.splitB (bytes [c]) 0 (Lib.countB (bytes t) (bytes [c])) (bytes t))[j]).data.toList := by
    have := congrArg (fun l => l[j]?) h1
    simp only [List.getElem?_map, List.getElem?_eq_getElem hj2, List.getElem?_eq_getElem hj, Option.map_some, Option.some.injEq] at this
    exact this.symm
  rw [h2]
  simp [bytes]
theorem OwnV.frame {E sz B : Nat} {w w' : World} {v : Value} {l : List (List Value)} (h : OwnV E sz B w v l) (hf : ∀ j, v.ownBlock = some j → w'.heap[j]? = w.heap[j]?) : OwnV E sz B w' v l := by
  obtain ⟨⟨h1, h2⟩, h3, h4⟩ := h
  refine ⟨⟨h1, ?_⟩, h3, h4⟩
  rcases h2 with h2 | ⟨g, cap, cur, rfl, a, b, c⟩
  · exact .inl h2
  · exact .inr ⟨g, cap, cur, rfl, a, by rw [hf g rfl]; exact b, c⟩
theorem OwnV.low {E sz B : Nat} {w : World} {v : Value} {l : List (List Value)} (h : OwnV E sz B w v l) : ∀ j, v.ownBlock = some j → B ≤ j := fun j hj => (World.ownsRow.lt h.1 j hj).1
end Go.Proofs.YtlobinjdgcidmaaGreatDoor
/- What a text of mappings tells: no more segments than letters, and one (plain lists). -/
namespace Go.Proofs.YtlobinjdgcidmaaGreatDoor.M
open Go.Proofs.YtlobinjdgcidmaaGreatDoor
set_option linter.unusedVariables false
set_option linter.unusedSimpArgs false

def wS (l : List (List UInt8)) : Nat := (l.map fun p => p.length + 1).sum
theorem wS_drop (l : List (List UInt8)) (i : Nat) (hi : i < l.length) : wS (l.drop i) = (l[i].length + 1) + wS (l.drop (i + 1)) := by
  rw [List.drop_eq_getElem_cons hi]
  unfold wS
  rw [List.map_cons, List.sum_cons]
theorem wS_splitK (c : UInt8) : ∀ (k : Nat) (s : List UInt8), wS (Go.Lib.splitK [c] 0 k s) ≤ s.length + 1
  | 0, s => by simp [Go.Lib.splitK, wS]
  | k + 1, s => by
    unfold Go.Lib.splitK
    split
    · simp [wS]
    · rename_i h
      have ih := wS_splitK c k (s.drop ((Go.Lib.index s [c]).toNat + 1))
      have hd : (s.take ((Go.Lib.index s [c]).toNat)).length = min (Go.Lib.index s [c]).toNat s.length := List.length_take
      have hb : (Go.Lib.index s [c]).toNat + 1 ≤ s.length := by
        rcases Go.Lib.index_spec s [c] with ⟨e, _⟩ | ⟨i, e, hi, ho, _⟩
        · rw [e] at h; simp at h
        · rcases Go.Lib.occAt_room ho with h2 | h2
          · simp at h2; rw [e]; simpa using h2
          · simp at h2
      unfold wS at ih ⊢
      rw [List.map_cons, List.sum_cons]
      rw [List.length_drop] at ih
      have : (s.take ((Go.Lib.index s [c]).toNat + 0)).length = (Go.Lib.index s [c]).toNat := by rw [Nat.add_zero, List.length_take]; omega
      rw [this]
      have e : ([c] : List UInt8).length = 1 := rfl
      rw [e]
      omega
theorem wS_cut (c : UInt8) (t : List UInt8) : wS (cut c t) ≤ t.length + 1 := wS_splitK c _ t
theorem mapsG_len (fst : Bool) (last : S4) (l : List S4) (a : List UInt8) (h : mapsG fst last l = some a) (h1 : last.1 ≤ 100000) (hf : fst = true → last.1 = 0) : (a.length : Int) ≤ (100000 - last.1) + 37 * l.length := by
  induction l generalizing fst last a with
  | nil => simp [mapsG] at h; subst h; simp; omega
  | cons x r ih =>
    unfold mapsG at h
    split at h
    · rename_i hg
      cases hm : mapsG false x r with
      | none => rw [hm] at h; simp at h
      | some b =>
        rw [hm] at h
        simp only [Option.map_some, Option.some.injEq] at h
        subst h
        have hx : last.1 ≤ x.1 ∧ x.1 ≤ 100000 := by
          unfold goodS at hg
          rw [Bool.and_eq_true, okS_iff, Bool.or_eq_true, befS_iff] at hg
          obtain ⟨hg1, hg2⟩ := hg
          refine ⟨?_, hg1.2.1⟩
          rcases hg2 with h | h
          · have := hf h; omega
          · omega
        have := ih false x b hm hx.2 (by simp)
        have h2 := chunk_len fst last x hx.1
        rw [List.length_append, List.length_cons]
        omega
    · simp at h
theorem maps_len (l : List S4) (a : List UInt8) (h : maps l = some a) : a.length ≤ 100000 + 37 * l.length := by
  have := mapsG_len true (0, 0, 0, 0) l a h (by simp) (by simp)
  simp at this
  omega
end Go.Proofs.YtlobinjdgcidmaaGreatDoor.M
