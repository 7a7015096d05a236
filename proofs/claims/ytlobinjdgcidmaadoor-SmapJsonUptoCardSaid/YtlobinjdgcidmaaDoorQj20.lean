/- Texts of ours in one: ZSj SBase VqPut PBuild. -/
import Derived.Test.YtlobinjdgcidmaaDoorQj19
import Derived.Test.YtlobinjdgcidmaaDoorQj02
import Derived.Deep.AppendLies
import Derived.Deep.RegionHeld3
import Derived.Deep.Slices
import Derived.Deep.Fields
import Derived.ChangeSame
import Derived.ProofKit
import Derived.OpenShut
import Derived.Test.YtlobinjdgcidmaaDoorRows
import Derived.WalkKit
import Derived.Below
import Derived.Lib.Hide
import Derived.Laws.BytesArg
import Derived.Lib.SlBytesRow
import Derived.Lib.AppendStr
import Derived.Test.YtlobinjdgcidmaaDoorQj01
import Derived.Lib.Builder
import Derived.Outline
/- JSON, plain: a source map's text is the shortest text of a value; what is parsed of it. -/
namespace Go.Proofs.YtlobinjdgcidmaaDoor
set_option linter.unusedVariables false
set_option linter.unusedSimpArgs false

def sjA : List UInt8 := [123, 34, 118, 101, 114, 115, 105, 111, 110, 34, 58, 51, 44, 34, 115, 111, 117, 114, 99, 101, 115, 34, 58, 91]
def sjB : List UInt8 := [93, 44, 34, 110, 97, 109, 101, 115, 34, 58, 91, 93, 44, 34, 109, 97, 112, 112, 105, 110, 103, 115, 34, 58]
def sjS (T V : List UInt8) : List UInt8 := sjA ++ (T ++ (sjB ++ (V ++ [125])))
def txH (l : List Nat) : Vh := ⟨3, iN l, false, [], [], 0, 0, []⟩
def arH : Vh := ⟨2, [], false, [], [], 0, 0, []⟩
def sjH : Vh := ⟨1, [], false, [], [], 0, 0, [0, 0, 0, 0, 0, 0, 0]⟩
def kVer : List Nat := [118, 101, 114, 115, 105, 111, 110]
def kSrc : List Nat := [115, 111, 117, 114, 99, 101, 115]
def kNam : List Nat := [110, 97, 109, 101, 115]
def kMap : List Nat := [109, 97, 112, 112, 105, 110, 103, 115]
def sjK (U V : List Nat) : Vo :=
  .cons (txH kVer) .nil (.cons (kyV 3) .nil (.cons (txH kSrc) .nil (.cons arH (.cons (txH U) .nil .nil) (.cons (txH kNam) .nil (.cons arH .nil (.cons (txH kMap) .nil (.cons (txH V) .nil .nil)))))))
theorem iN_nat (l : List Nat) : (iN l).map Int.toNat = l := by
  induction l with
  | nil => rfl
  | cons a r ih => simp only [iN, List.map_cons] at ih ⊢; rw [ih]; simp
theorem txH_sgl (l : List Nat) : sglB (txH l) = M.spell l := by
  unfold sglB
  rw [if_pos (show (txH l).k = 3 from rfl)]
  show M.spell ((iN l).map Int.toNat) = _
  rw [iN_nat]
theorem iN_right (l : List Nat) (h : ∀ u ∈ l, u ≤ 65535) : M.rightU (iN l) = true := by
  rw [M.rightU_iff]
  intro u hu
  unfold iN at hu
  obtain ⟨n, hn, rfl⟩ := List.mem_map.1 hu
  have := h n hn
  omega
theorem txH_right (l : List Nat) (h : ∀ u ∈ l, u ≤ 65535) (d : Nat) : rightH (txH l) .nil d = true := by
  have := iN_right l h
  simp only [rightH, headB, txH, nlist, nnum, Vo.len, this]
  rfl
theorem pcs_tx (l : List Nat) : pcsV (txH l) .nil = [(M.spell l, 0)] := by
  unfold pcsV
  rw [if_neg (by simp [txH]), txH_sgl]
  rfl
theorem pcs_three : pcsV (kyV 3) .nil = [([51], 0)] := by
  unfold pcsV
  rw [if_neg (by simp [kyV]), kyV_sgl (by omega)]
  rfl
theorem sj_text (U V : List Nat) : (pcsV sjH (sjK U V)).flatMap (fun q => q.1) = sjS (M.spell U) (M.spell V) := by
  have e1 : M.spell kVer = [34, 118, 101, 114, 115, 105, 111, 110, 34] := by decide +kernel
  have e2 : M.spell kSrc = [34, 115, 111, 117, 114, 99, 101, 115, 34] := by decide +kernel
  have e3 : M.spell kNam = [34, 110, 97, 109, 101, 115, 34] := by decide +kernel
  have e4 : M.spell kMap = [34, 109, 97, 112, 112, 105, 110, 103, 115, 34] := by decide +kernel
  have a1 : pcsV arH (.cons (txH U) .nil .nil) = [([91], 0), (M.spell U, 0), ([93], 0)] := by
    unfold pcsV
    rw [if_pos (.inr rfl)]
    rw [pcsL_cons, pcs_tx]
    rfl
  have a2 : pcsV arH .nil = [([91], 0), ([93], 0)] := rfl
  unfold pcsV
  rw [if_pos (show sjH.k = 1 ∨ sjH.k = 2 from .inl rfl)]
  unfold sjK
  rw [pcsL_cons, pcsL_cons, pcsL_cons, pcsL_cons, pcsL_cons, pcsL_cons, pcsL_cons, pcsL_cons, pcs_tx, pcs_tx, pcs_tx, pcs_tx, pcs_tx, pcs_three, a1, a2, e1, e2, e3, e4]
  simp [pcsL, opB, clB, mkB, sjH, sjS, sjA, sjB]
theorem sj_right (U V : List Nat) (hU : ∀ u ∈ U, u ≤ 65535) (hV : ∀ u ∈ V, u ≤ 65535) (d : Nat) : rightH sjH (sjK U V) (d + 2) = true := by
  have r1 := fun e => txH_right kVer (by decide) e
  have r2 := fun e => txH_right kSrc (by decide) e
  have r3 := fun e => txH_right kNam (by decide) e
  have r4 := fun e => txH_right kMap (by decide) e
  have r5 := fun e => txH_right U hU e
  have r6 := fun e => txH_right V hV e
  have r7 := fun e => kyV_right (b := 3) (by omega) e
  have r8 : rightH arH .nil (d + 1) = true := by simp [rightH, headB, arH, nnum, marksB, keysB, rightVo, Vo.len]
  have r9 : rightH arH (.cons (txH U) .nil .nil) (d + 1) = true := by
    have : rightVo (.cons (txH U) .nil .nil) d = true := by rw [rightVo_cons, r5]; rfl
    unfold rightH headB
    rw [if_pos (.inr rfl), Nat.add_sub_cancel, this]
    simp [arH, nnum, marksB, keysB, Vo.len]
  have hk : rightVo (sjK U V) (d + 1) = true := by
    unfold sjK
    simp only [rightVo_cons, r1, r2, r3, r4, r6, r7, r8, r9]
    rfl
  unfold rightH headB
  rw [if_pos (.inl rfl), show d + 2 - 1 = d + 1 by omega, hk]
  simp [sjH, nnum, marksB, keysB, sjK, Vo.len, evK, txH]
theorem sj_parse (U V : List Nat) (hU : ∀ u ∈ U, u ≤ 65535) (hV : ∀ u ∈ V, u ≤ 65535) (hl : (sjS (M.spell U) (M.spell V)).length ≤ 20000) :
    ∃ h kids, parseV (sjS (M.spell U) (M.spell V)) 60 = .ok (h, kids) ∧ h.k = 1 ∧ er kids = er (sjK U V) := by
  have e0 := sj_text U V
  obtain ⟨ts, h', kids', e1, e3, e4⟩ := back_at 60 sjH (sjK U V) (sj_right U V hU hV 58) (by rw [e0]; exact hl)
  rw [e0] at e1 e3
  unfold sameH at e4
  rw [Bool.and_eq_true] at e4
  refine ⟨h', kids', ?_, ?_, (same_er _ _).1 e4.2⟩
  · unfold parseV
    rw [e1, if_pos rfl]
    exact e3
  · have := e4.1
    unfold sameHd at this
    simp only [Bool.and_eq_true, decide_eq_true_eq] at this
    exact this.1.1.1
theorem at_er {K L : Vo} (e : er K = er L) {j : Nat} {h : Vh} {k : Vo} (hj : L.at? j = some (h, k)) : ∃ h' k', K.at? j = some (h', k') ∧ erh h' = erh h ∧ er k' = er k := by
  have ea := er_at K j
  rw [e, er_at, hj] at ea
  cases hk : K.at? j with
  | none => rw [hk] at ea; simp at ea
  | some q =>
    obtain ⟨h', k'⟩ := q
    rw [hk] at ea
    simp only [Option.map_some, Option.some.injEq, Prod.mk.injEq] at ea
    exact ⟨h', k', rfl, ea.1.symm, ea.2.symm⟩
theorem len_er {K L : Vo} (e : er K = er L) : K.len = L.len := by
  have := congrArg Vo.len e
  rwa [er_len, er_len] at this
def plB (c : UInt8) : Bool := decide (32 ≤ c.toNat) && decide (c.toNat < 128) && (c != 34) && (c != 92)
theorem plB_spel (c : UInt8) (h : plB c = true) : M.spel c.toNat = [c] := by
  have h0 : ∀ d : Fin 256, plB d.val.toUInt8 = true → M.spel d.val.toUInt8.toNat = [d.val.toUInt8] := by decide +kernel
  have := h0 ⟨c.toNat, c.toNat_lt⟩
  simp only at this
  rw [show c.toNat.toUInt8 = c from by apply UInt8.toNat_inj.1; rw [M.toU8 c.toNat c.toNat_lt]] at this
  exact this h
theorem plB_lt {c : UInt8} (h : plB c = true) : c.toNat < 128 := by
  unfold plB at h
  simp only [Bool.and_eq_true, decide_eq_true_eq] at h
  exact h.1.1.2
theorem body_plain : ∀ (m : List UInt8), (∀ c ∈ m, plB c = true) → M.body (m.map UInt8.toNat) = m
  | [], _ => rfl
  | [c], h => by
    simp only [List.map_cons, List.map_nil, M.body]
    exact plB_spel c (h c (by simp))
  | c :: d :: r, h => by
    have hc := h c (by simp)
    have := body_plain (d :: r) (fun x hx => h x (List.mem_cons_of_mem _ hx))
    have l := plB_lt hc
    have hp : M.isPair c.toNat d.toNat = false := by
      cases hh : M.isPair c.toNat d.toNat with
      | false => rfl
      | true => rw [M.isPair_iff] at hh; omega
    simp only [List.map_cons] at this ⊢
    rw [M.body, hp]
    simp only [Bool.false_eq_true, if_false]
    rw [this, plB_spel c hc]
    rfl
theorem letter_pl : ∀ d, d < 64 → plB (V.letter d) = true := by decide +kernel
theorem text_pl (n : Int) : ∀ c ∈ V.text n, plB c = true := by
  intro c hc
  unfold V.text at hc
  obtain ⟨d, hd, rfl⟩ := List.mem_map.1 hc
  exact letter_pl d (V.digs_lt _ _ d hd)
theorem chunk_pl (f : Bool) (last x : M.S4) : ∀ c ∈ M.chunk f last x, plB c = true := by
  intro c hc
  unfold M.chunk M.four at hc
  rcases List.mem_append.1 hc with hc | hc
  · unfold M.sepS at hc
    split at hc
    · rw [List.mem_singleton.1 hc]; decide
    · rw [(List.mem_replicate.1 hc).2]; decide
  · rcases List.mem_append.1 hc with hc | hc
    · rcases List.mem_append.1 hc with hc | hc
      · rcases List.mem_append.1 hc with hc | hc
        · exact text_pl _ c hc
        · exact text_pl _ c hc
      · exact text_pl _ c hc
    · exact text_pl _ c hc
theorem mapsG_pl (l : List M.S4) : ∀ (f : Bool) (last : M.S4) (acc : List UInt8), M.mapsG f last l = some acc → ∀ c ∈ acc, plB c = true := by
  induction l with
  | nil =>
    intro f last acc hm
    have : acc = [] := by simpa [M.mapsG] using hm.symm
    subst this; intro c hc; simp at hc
  | cons x r ih =>
    intro f last acc hm
    unfold M.mapsG at hm
    split at hm
    · obtain ⟨k, hk, rfl⟩ := Option.map_eq_some_iff.1 hm
      intro c hc
      rcases List.mem_append.1 hc with hc | hc
      · exact chunk_pl f last x c hc
      · exact ih false x k hk c hc
    · simp at hm
theorem mapsG_short (f : Bool) (last : M.S4) (l : List M.S4) (acc : List UInt8) (h0 : f = true → last.1 = 0) (h1 : last.1 ≤ 200) (hl : ∀ x ∈ l, x.1 ≤ 200 ∨ 100000 < x.1) (hm : M.mapsG f last l = some acc) : (acc.length : Int) ≤ (200 - last.1) + 37 * l.length := by
  induction l generalizing f last acc with
  | nil => have : acc = [] := by simpa [M.mapsG] using hm.symm
           subst this; simp; omega
  | cons x r ih =>
    unfold M.mapsG at hm
    split at hm
    · rename_i hg
      obtain ⟨k, hk, rfl⟩ := Option.map_eq_some_iff.1 hm
      obtain ⟨ho, hb⟩ := M.good_parts f last x hg
      have ho := (M.okS_iff x).1 ho
      have hx : x.1 ≤ 200 := by
        rcases hl x (by simp) with h | h
        · exact h
        · omega
      have hlx : last.1 ≤ x.1 := by
        cases f with
        | true => have := h0 rfl; omega
        | false => have := hb rfl; omega
      have := ih false x k (fun h => by simp at h) hx (fun y hy => hl y (List.mem_cons_of_mem _ hy)) hk
      have hc := M.chunk_len f last x hlx
      rw [List.length_append, List.length_cons]
      omega
    · simp at hm
theorem maps_short (l : List M.S4) (acc : List UInt8) (hl : ∀ x ∈ l, x.1 ≤ 200 ∨ 100000 < x.1) (hm : M.maps l = some acc) : acc.length ≤ 200 + 37 * l.length := by
  have := mapsG_short true (0, 0, 0, 0) l acc (fun _ => rfl) (by simp) hl hm
  simp only at this
  omega
end Go.Proofs.YtlobinjdgcidmaaDoor
/- Segments in memory, whatever ints they hold. -/
namespace Go.Proofs.YtlobinjdgcidmaaDoor
open Go.RowKit Go.ChangeShapes Go.WideShapes
set_option linter.unusedVariables false
set_option linter.unusedSimpArgs false

def s4v (x : M.S4) : List Value := [.int .i64 x.1, .int .i64 x.2.1, .int .i64 x.2.2.1, .int .i64 x.2.2.2]
theorem s4_len (l : List M.S4) : ∀ y ∈ l.map s4v, y.length = 4 := by
  intro y hy
  obtain ⟨x, _, rfl⟩ := List.mem_map.1 hy
  rfl
def SsS (w : World) (v : Value) (l : List M.S4) : Prop := Vs 4 w v (l.map s4v)
theorem SsS.keep {w w' : World} {v : Value} {l : List M.S4} (h : SsS w v l) (hb : Below w.heap.size w w') : SsS w' v l := Vs.keep h hb
theorem ss_nil (w : World) : SsS w (.slice none 0 0) [] := vs_nil 4 w
def S4At (B : Nat) (w : World) (v : Value) (l : List M.S4) : Prop :=
  ∃ a cap, v = .slice a l.length cap ∧ l.length ≤ cap ∧ cap ≤ maxLen ∧ (0 < l.length → ∃ b off, a = some ⟨b, off, none⟩ ∧ b < B ∧ ∀ j (hj : j < l.length),
    w.cell? ⟨b, off + j * 4, none⟩ = some (.int .i64 l[j].1) ∧ w.cell? ⟨b, off + j * 4 + 1, none⟩ = some (.int .i64 l[j].2.1) ∧ w.cell? ⟨b, off + j * 4 + 2, none⟩ = some (.int .i64 l[j].2.2.1) ∧ w.cell? ⟨b, off + j * 4 + 3, none⟩ = some (.int .i64 l[j].2.2.2))
theorem s4At_of {w : World} {v : Value} {l : List M.S4} (h : SsS w v l) : S4At w.heap.size w v l := by
  obtain ⟨a, cap, rfl, h1, h2, h3⟩ := h
  rw [List.length_map] at h1
  refine ⟨a, cap, by rw [List.length_map], h1, h2, fun h0 => ?_⟩
  obtain ⟨b, off, rfl, hb, hc⟩ := h3 (by rw [List.length_map]; exact h0)
  refine ⟨b, off, rfl, hb, fun j hj => ?_⟩
  have h4 := hc j (by rw [List.length_map]; exact hj)
  have h5 := h4 0 (.int .i64 l[j].1) (by simp [s4v])
  have h6 := h4 1 (.int .i64 l[j].2.1) (by simp [s4v])
  have h7 := h4 2 (.int .i64 l[j].2.2.1) (by simp [s4v])
  have h8 := h4 3 (.int .i64 l[j].2.2.2) (by simp [s4v])
  exact ⟨by simpa using h5, by rw [Nat.add_assoc]; exact h6, by rw [Nat.add_assoc]; exact h7, by rw [Nat.add_assoc]; exact h8⟩
theorem s4At_keep {B C : Nat} {w w' : World} {v : Value} {l : List M.S4} (h : S4At B w v l) (hb : Below C w w') (hC : B ≤ C) : S4At B w' v l := by
  obtain ⟨a, cap, rfl, h1, h2, h3⟩ := h
  refine ⟨a, cap, rfl, h1, h2, fun h0 => ?_⟩
  obtain ⟨b, off, rfl, hlt, hc⟩ := h3 h0
  refine ⟨b, off, rfl, hlt, fun j hj => ?_⟩
  obtain ⟨x0, x1, x2, x3⟩ := hc j hj
  exact ⟨(hb.cell (p := ⟨b, off + j * 4, none⟩) (Nat.lt_of_lt_of_le hlt hC)).trans x0, (hb.cell (p := ⟨b, off + j * 4 + 1, none⟩) (Nat.lt_of_lt_of_le hlt hC)).trans x1, (hb.cell (p := ⟨b, off + j * 4 + 2, none⟩) (Nat.lt_of_lt_of_le hlt hC)).trans x2, (hb.cell (p := ⟨b, off + j * 4 + 3, none⟩) (Nat.lt_of_lt_of_le hlt hC)).trans x3⟩
theorem s4At_get {B : Nat} {w : World} {a : Option Addr} {n cap : Nat} {l : List M.S4} (h : S4At B w (.slice a n cap) l) (j : Nat) (hj : j < l.length) :
    ∃ b off, a = some ⟨b, off, none⟩ ∧ b < B ∧ w.cell? ⟨b, off + j * 4, none⟩ = some (.int .i64 l[j].1) ∧ w.cell? ⟨b, off + j * 4 + 1, none⟩ = some (.int .i64 l[j].2.1) ∧ w.cell? ⟨b, off + j * 4 + 2, none⟩ = some (.int .i64 l[j].2.2.1) ∧ w.cell? ⟨b, off + j * 4 + 3, none⟩ = some (.int .i64 l[j].2.2.2) := by
  obtain ⟨a', c', hs, _, _, h3⟩ := h
  simp only [Value.slice.injEq] at hs
  obtain ⟨rfl, _, _⟩ := hs
  obtain ⟨b, off, rfl, hb, hc⟩ := h3 (by omega)
  exact ⟨b, off, rfl, hb, hc j hj⟩
theorem one_s4 (w : World) (x : M.S4) : Vs 4 (w.alloc (.cells #[.int .i64 x.1, .int .i64 x.2.1, .int .i64 x.2.2.1, .int .i64 x.2.2.2] 47)) (.slice (some ⟨w.heap.size, 0, none⟩) 1 1) [s4v x] :=
  vs_cells 4 47 w [s4v x] _ 1 rfl (s4_len [x]) rfl (by simp)
set_option maxRecDepth 100000 in
theorem open_s4 {H : Type} {enc : TypeId × Value → H} {W : World} {a : Option Addr} {len cap : Nat} {d : DataW H} {p : List MemPlace}
    (h : DataW.Trod enc Tryd.prog W 0 (fun _ => true) true 22 (.slice a len cap) d p) :
    ∃ L : List M.S4, L.length = len ∧ SsS W (.slice a len cap) L ∧ NNv (.slice a len cap) := by
  obtain ⟨fuel, hf⟩ := h
  have ce : Tryd.prog.cellsOf 47 = 4 := by kernel_rfl
  rcases Go.Deep.open_slice Tryd.underlying22 hf with ⟨hcs, _⟩ | ⟨x, l, c, m, n, D, Pl, hcs, _, hl, hm, hmm, _, hcell⟩
  · simp [Value.cells] at hcs
    obtain ⟨rfl, rfl, rfl⟩ := hcs
    exact ⟨[], rfl, vs_nil 4 W, nnv_nil⟩
  · simp [Value.cells] at hcs
    obtain rfl : a = some x := hcs.1
    obtain rfl : len = l := hcs.2.1
    obtain rfl : cap = c := hcs.2.2
    simp only [if_true] at hmm
    obtain rfl : cap = m := hmm.symm
    have hs : ∀ i, i < cap → ∃ y : M.S4, ∀ j u, (s4v y)[j]? = some u → W.cell? (x.add (i * 4 + j)) = some u := by
      intro i hi
      obtain ⟨cs', hc, ht⟩ := hcell i hi
      rw [ce] at hc
      obtain ⟨_, hcl, hat⟩ := World.cells?_some hc
      obtain ⟨xs, n', _, _, _, _, hfl⟩ := DataW.trod_struct Tryd.underlying47 ht
      have each : ∀ (j : Nat) (hj : j < 4) (f : Field), f.offset = j → Tryd.prog.cellsOf f.type = 1 → f.type = 3 → (∃ y, DataW.trod enc Tryd.prog W 0 (fun _ => true) true n' f.type ((cs'.drop f.offset).take (Tryd.prog.cellsOf f.type)) = some y) → ∃ k : Int, cs'[j]? = some (.int .i64 k) := by
        intro j hj f h1 h2 h3 ⟨y, hy⟩
        rw [h1, h2, h3, List.drop_eq_getElem_cons (by omega)] at hy
        obtain ⟨k, e, _⟩ := DataW.trod_int Tryd.underlying3 hy
        refine ⟨k, ?_⟩
        simp only [List.take_succ_cons, List.take_zero, List.cons.injEq, and_true] at e
        rw [List.getElem?_eq_getElem (by omega), e]
      have got : ∀ (j : Nat) (f : Field), (match Tryd.prog.underlying 47 with | some (.struct fs) => fs[j]? | _ => none) = some f → ∃ y, DataW.trod enc Tryd.prog W 0 (fun _ => true) true n' f.type ((cs'.drop f.offset).take (Tryd.prog.cellsOf f.type)) = some y := by
        intro j f hf
        have h1 := hfl j f (by rw [Tryd.underlying47] at hf; exact hf)
        rw [h1]
        rename_i xlen _
        have hj : j < xs.length := by
          rw [Tryd.underlying47] at hf
          have := (Array.getElem?_eq_some_iff.1 hf).1
          omega
        exact ⟨_, List.getElem?_eq_getElem hj⟩
      obtain ⟨k0, e0⟩ := each 0 (by omega) _ rfl (by kernel_rfl) rfl (got 0 _ (by rw [Tryd.underlying47]; rfl))
      obtain ⟨k1, e1⟩ := each 1 (by omega) _ rfl (by kernel_rfl) rfl (got 1 _ (by rw [Tryd.underlying47]; rfl))
      obtain ⟨k2, e2⟩ := each 2 (by omega) _ rfl (by kernel_rfl) rfl (got 2 _ (by rw [Tryd.underlying47]; rfl))
      obtain ⟨k3, e3⟩ := each 3 (by omega) _ rfl (by kernel_rfl) rfl (got 3 _ (by rw [Tryd.underlying47]; rfl))
      refine ⟨(k0, k1, k2, k3), fun j u hu => ?_⟩
      have hj : j < 4 := by have := (List.getElem?_eq_some_iff.1 hu).1; simpa [s4v] using this
      have h1 := hat j hj
      rw [← Go.Deep.add_add, h1]
      have : j = 0 ∨ j = 1 ∨ j = 2 ∨ j = 3 := by omega
      rcases this with rfl | rfl | rfl | rfl
      · rw [e0]; simpa [s4v] using hu
      · rw [e1]; simpa [s4v] using hu
      · rw [e2]; simpa [s4v] using hu
      · rw [e3]; simpa [s4v] using hu
    obtain ⟨Y, hY⟩ : ∃ Y : Nat → M.S4, ∀ i, i < cap → ∀ j u, (s4v (Y i))[j]? = some u → W.cell? (x.add (i * 4 + j)) = some u :=
      ⟨fun i => if hi : i < cap then (hs i hi).choose else (0, 0, 0, 0), fun i hi => by simp only [hi, dif_pos]; exact (hs i hi).choose_spec⟩
    refine ⟨(List.range len).map Y, by simp, ?_, nnv_some _ _ _⟩
    have hlen : (((List.range len).map Y).map s4v).length = len := by simp
    refine ⟨some x, cap, by rw [hlen], by rw [hlen]; exact hl, hm, fun h0 => ?_⟩
    have h0' : 0 < len := by rw [hlen] at h0; exact h0
    have c0 := hY 0 (by omega) 0 _ rfl
    obtain ⟨b, off, s⟩ := x
    have hs2 : s = none := by
      cases s with
      | none => rfl
      | some s => exfalso; revert c0; simp [Addr.add, World.cell?]; cases W.heap[b]? with
        | none => simp
        | some o => cases o <;> simp
    subst hs2
    have hb : b < W.heap.size := by
      have := World.block_lt_of_cell? W _ c0
      rw [Go.WideShapes.add_plain] at this
      exact this
    refine ⟨b, off, rfl, hb, fun j hj i u hu => ?_⟩
    rw [hlen] at hj
    have := hY j (by omega) i u (by simpa using hu)
    rwa [Go.WideShapes.add_plain] at this
end Go.Proofs.YtlobinjdgcidmaaDoor
/- vlq.Put: what is returned for any text and any number in range. -/
namespace Go.Proofs.YtlobinjdgcidmaaDoor
open Go.RowKit

set_option maxRecDepth 100000 in
theorem vq_info5 : (Tryd.prog.info? 5).map (fun i => (i.zero, i.size, i.bytes)) = some (some (.int .u8 0), 1, 1) := by kernel_rfl

def lets (l : List Nat) : List Value := l.map fun d => .int .u8 ((V.letter d).toNat : Int)
theorem lets_snoc (l : List Nat) (d : Nat) : lets (l ++ [d]) = lets l ++ [.int .u8 ((V.letter d).toNat : Int)] := by simp [lets]

set_option maxRecDepth 100000 in
theorem vq_letter_at (x : Nat) (h : x < (ByteArray.mk V.alpha.toArray).size) : (ByteArray.mk V.alpha.toArray)[x]'h = V.letter x := by
  have h' : x < V.alpha.length := h
  show V.alpha.toArray[x] = V.alpha.getD x 0
  simp [List.getElem?_eq_getElem h']

set_option maxRecDepth 100000 in
theorem vq_one_new (w : World) (v : Value) (t : TypeId) (x : Value) (hx : v = x) : ∀ j u, [x][j]? = some u → (w.alloc (.cells #[v] t)).cell? ((⟨w.heap.size, 0, none⟩ : Addr).add j) = some u := by
  subst hx
  intro j u hj
  cases j with
  | zero => simp at hj; subst hj; exact (World.cell?_alloc_at _ _ _ _ rfl).trans rfl
  | succ j => simp at hj

set_option maxRecDepth 100000 in
theorem vq_conv_own {B : Nat} {w : World} {v : Value} {l : List Nat} (hown : w.ownsRow B 5 1 v l.length (lets l)) (hl : 0 < l.length) :
    ∃ g cap, v = .slice (some ⟨g, 0, none⟩) l.length cap ∧ (convert 29 9 (.slice (some ⟨g, 0, none⟩) l.length cap)).run Tryd.prog w = .ok (.string (V.bytes (l.map V.letter))) w := by
  have hc := hown
  obtain ⟨_, ⟨_, h0⟩ | ⟨g, cap, cur, rfl, _⟩⟩ := hown
  · omega
  refine ⟨g, cap, rfl, ?_⟩
  have hB : Lib.Bytes w g 0 (V.bytes (l.map V.letter)) := by
    intro i hi
    have hi' : i < l.length := by simpa [V.bytes, ByteArray.size] using hi
    have := hc.cells rfl i (.int .u8 ((V.letter l[i]).toNat : Int)) (by simp [lets, hi'])
    rw [show (⟨g, 0, none⟩ : Addr).add i = ⟨g, 0 + i, none⟩ by cases i <;> simp [Addr.add]] at this
    rw [this]
    congr 3
    show _ = (((l.map V.letter).toArray)[i]'(by simpa using hi')).toNat
    simp
  have := Lib.run_convert_whole (P := Tryd.prog) w 29 5 9 Tryd.underlying29 Tryd.underlying5 Tryd.underlying9 g 0 _ hB cap
  rw [show (V.bytes (l.map V.letter)).size = l.length by simp [V.bytes, ByteArray.size]] at this
  exact this

set_option maxRecDepth 100000 in
set_option maxHeartbeats 400000 in
theorem vq_put_any (s : ByteArray) (n : Int) (w : World) (h1 : -1099511627776 ≤ n) (h2 : n ≤ 1099511627776) (hs : s.size ≤ 1048576) :
    Calls Tryd.prog 54 #[.string s, .int .i64 n] w fun e w' => e = .returned (.string (s ++ V.bytes (V.text n))) ∧ Below w.heap.size w w' := by
  obtain ⟨i0, hi, hz0, hz1, hz2⟩ := info_parts vq_info5
  by_cases hn : n < 0
  all_goals
    go_enter Tryd.func54, Tryd.ntmps54
    go_wp2
    go_loopw [5, 6] (fun xv v wr => ∃ (f x : Nat) (l : List Nat), xv = .int .i64 x ∧ V.Left (V.zig n) f x l ∧ wr.ownsRow w.heap.size 5 1 v l.length (lets l) ∧ Below w.heap.size w wr) (fun xv _ _ => (intOf xv).toNat)
    case atStart =>
      refine ⟨8, V.zig n, [], ?_, V.left_start _ (V.zig_lt _ h1 h2), World.ownsRow_nil _ _ _ _, Below.refl _ _⟩
      unfold V.zig
      first | rw [if_pos (by omega)] | rw [if_neg (by omega)]
      congr 1
      omega
    case round =>
      obtain ⟨f, x, l, rfl, hL, hown, hb⟩ := hrel
      have hlen := V.left_len hL
      have hx := V.left_x hL
      have HL := Lib.hid hL
      have hsz := hb.size
      clear hL
      by_cases hx32 : 32 ≤ x
      · have hm : x % 32 < 32 := by omega
        go_wp2_with (at_builtin; refine wpList_append_own _ rfl _ _ 29 rfl w.heap.size 5 i0 (.int .u8 0) 1 1 Tryd.underlying29 hi hz0 hz1 hz2 rfl (by decide) _ _ _ rfl (hown.alloc _) ⟨wr.heap.size, 0, none⟩ 1 1 [.int .u8 ((V.letter (32 + x % 32)).toNat : Int)] rfl rfl ?c1 ?c2 ?c3 ?c4 ?c5 ?_)
        case c1 => exact vq_one_new _ _ _ _ (congrArg (fun b : UInt8 => Value.int .u8 (b.toNat : Int)) (vq_letter_at _ _))
        case c2 => intro u hu; simp at hu; subst hu; rfl
        case c3 => unfold maxLen; omega
        case c4 => omega
        case c5 => simp; omega
        intro v' w1 hown' hgrow _
        have hb1 := (hb.alloc hsz _).grown hgrow (by simp; omega) (fun j hj => (hown.lt j hj).1)
        clear hgrow hown hb
        go_wp2
        go_roundw
        case rel =>
          obtain ⟨g, hg⟩ := V.left_step HL.out hx32
          refine ⟨g, x / 32, l ++ [32 + x % 32], by simp, hg, ?_, hb1⟩
          rw [lets_snoc]; simpa using hown'
        case measure => simp [intOf]; omega
      · go_wp2_with (at_builtin; refine wpList_append_own _ rfl _ _ 29 rfl w.heap.size 5 i0 (.int .u8 0) 1 1 Tryd.underlying29 hi hz0 hz1 hz2 rfl (by decide) _ _ _ rfl (hown.alloc _) ⟨wr.heap.size, 0, none⟩ 1 1 [.int .u8 ((V.letter x).toNat : Int)] rfl rfl ?c1 ?c2 ?c3 ?c4 ?c5 ?_)
        case c1 => exact vq_one_new _ _ _ _ (congrArg (fun b : UInt8 => Value.int .u8 (b.toNat : Int)) (vq_letter_at _ _))
        case c2 => intro u hu; simp at hu; subst hu; rfl
        case c3 => unfold maxLen; omega
        case c4 => omega
        case c5 => simp; omega
        intro v' w1 hown' hgrow _
        have hb1 := (hb.alloc hsz _).grown hgrow (by simp; omega) (fun j hj => (hown.lt j hj).1)
        have hown2 : w1.ownsRow w.heap.size 5 1 v' (l ++ [x]).length (lets (l ++ [x])) := by rw [lets_snoc]; simpa using hown'
        obtain ⟨g, cap, rfl, hconv⟩ := vq_conv_own hown2 (by simp)
        simp only [List.length_append, List.length_cons, List.length_nil, Nat.zero_add] at hconv
        rw [V.left_stop HL.out (by omega), show (V.digs 9 (V.zig n)).map V.letter = V.text n from rfl] at hconv
        have ht : (V.bytes (V.text n)).size ≤ 9 := V.text_len n
        clear hgrow hown hb hown' hown2
        go_wp2
        go_ret
        exact ⟨rfl, hb1⟩

set_option maxRecDepth 100000 in
/-- The contract at a written text. -/
theorem vq_put_to (s r : ByteArray) (n : Int) (w : World) (h1 : -1099511627776 ≤ n) (h2 : n ≤ 1099511627776) (hs : s.size ≤ 1048576) (hr : s ++ V.bytes (V.text n) = r) :
    Calls Tryd.prog 54 #[.string s, .int .i64 n] w fun e w' => e = .returned (.string r) ∧ Below w.heap.size w w' := by
  subst hr; exact vq_put_any s n w h1 h2 hs
set_option maxRecDepth 100000 in
theorem vq_empty_bytes (l : List UInt8) : (ByteArray.mk #[]) ++ V.bytes l = V.bytes l := by
  apply ByteArray.ext; simp [V.bytes]
end Go.Proofs.YtlobinjdgcidmaaDoor
/- A strings.Builder of the call's own: copyCheck and WriteString, walked over this program (its copy of copyCheck ends in a panic that the loader refuses: nothing of ours comes there). -/
namespace Go.Proofs.YtlobinjdgcidmaaDoor
open Go.RowKit
set_option linter.unusedVariables false
set_option linter.unusedSimpArgs false

def Bd (B b : Nat) (l : List UInt8) (w : World) : Prop := Lib.IsBuilder 67 5 B b (bcells l) w
theorem bd_fresh (w : World) : Bd w.heap.size w.heap.size [] (w.alloc (.cells #[.pointer none, .slice none 0 0] 67)) := Lib.fresh_isBuilder 67 5 w
theorem Bd.keep {B b : Nat} {l : List UInt8} {w w' : World} (h : Bd B b l w) (hb : Below w.heap.size w w') : Bd B b l w' := by
  have : ∀ p, Lib.BuilderAt 67 5 B b p (bcells l) w → Lib.BuilderAt 67 5 B b p (bcells l) w' := by
    intro p h
    have hlt := h.lt
    obtain ⟨hB, v, hbk, hown, hne⟩ := h
    exact ⟨hB, v, by rw [hb.block b hlt]; exact hbk, ownsRow_keep hown hb, hne⟩
  exact h.elim (fun h => .inl (this _ h)) (fun h => .inr (this _ h))
theorem bytecells (l : List UInt8) : Lib.byteCells l = bcells l := by
  first | rfl | simp [Lib.byteCells, bcells]
theorem bstr_any (B b : Nat) (l : List UInt8) (w : World) (h : Bd B b l w) (hB : B ≤ w.heap.size) :
    Calls Tryd.prog 29 #[.pointer (some ⟨b, 0, none⟩)] w fun e w' => e = .returned (.string (bytes l)) ∧ Below B w w' :=
  Tryd.Builder_String_any B b l w (by rw [bytecells]; exact h) hB

theorem sizeBd : (Tryd.prog.info? 67).map (fun i => i.size) = some 2 := by kernel_rfl
set_option maxRecDepth 100000 in
set_option maxHeartbeats 1000000 in
theorem bcheck_used (b : Nat) (w : World) (hc : w.cell? ⟨b, 0, none⟩ = some (.pointer (some ⟨b, 0, none⟩))) :
    Calls Tryd.prog 49 #[.pointer (some ⟨b, 0, none⟩)] w fun e w' => e = .returned (.tuple #[]) ∧ w' = w := by
  obtain ⟨j, hj, hjs⟩ := Option.map_eq_some_iff.1 sizeBd
  go_enter Tryd.func49, Tryd.ntmps49
  go_wp2
  rw [Lib.run_neq_ptr_same w _ Tryd.underlying65 hj]
  go_wp2
  go_end0
  exact ⟨rfl, rfl⟩
set_option maxRecDepth 100000 in
set_option maxHeartbeats 1000000 in
theorem bcheck_fresh (b : Nat) (w : World) (hc : w.cell? ⟨b, 0, none⟩ = some (.pointer none)) (hsh : w.shape? b = some (67, 2)) (hfz : w.frozen? ⟨b, 0, none⟩ = false) :
    Calls Tryd.prog 49 #[.pointer (some ⟨b, 0, none⟩)] w fun e w' => e = .returned (.tuple #[]) ∧ w' = w.setCell ⟨b, 0, none⟩ (.pointer (some ⟨b, 0, none⟩)) := by
  obtain ⟨j, hj, hjs⟩ := Option.map_eq_some_iff.1 sizeBd
  go_enter Tryd.func49, Tryd.ntmps49
  go_wp2
  rw [Lib.run_to_unsafe w ⟨b, 0, none⟩ Tryd.underlying65 Tryd.underlying105 hj (by rw [hjs]; decide) hsh (Nat.zero_lt_succ 1)]
  simp only [Result.andThen]
  rw [Oper.upon_value]
  go_wp2
  rw [run_callFunc_extern Tryd.func65 (by kernel_rfl) (by kernel_rfl) (by kernel_rfl) (e := Extern.AbiNoEscape.same) (by kernel_rfl)]
  rw [Lib.run_noEscape]
  simp only [Result.andThen]
  rw [Oper.upon_value]
  go_wp2
  rw [Lib.run_from_unsafe w ⟨b, 0, none⟩ Tryd.underlying105 Tryd.underlying65 hj hsh (by kernel_rfl)]
  simp only [Result.andThen]
  rw [Oper.upon_value]
  go_wp2
  go_end0
  exact ⟨rfl, rfl⟩
theorem wpl_append_strG {w : World} {ops : Array Oper} {rest : List Oper} {o : Oper} {a : Act} {Q : Exit → Act → World → Prop} (hgd : o.guard = none) (s x : Operand)
    (ho : o.op = .call { callee := .builtin .append, args := #[s, x], argTypes := #[29, 9] })
    (B : Nat) (v : Value) (l k t : List UInt8) (S : ByteArray) (hS : bytes k = S) (hs : a.eval s = v) (hown : OwnB B w v l) (hx : a.eval x = .string S)
    (hlen : l.length + k.length ≤ 4294967296) (hB : B ≤ w.heap.size) (ht : l ++ k = t)
    (h : ∀ v' w', OwnB B w' v' t → Below B w w' → (∀ j, j < w.heap.size → some j ≠ v.ownBlock → w'.heap[j]? = w.heap[j]?) → wpList Tryd.prog ops Q rest (a.put o.dst v') w') : wpList Tryd.prog ops Q (o :: rest) a w := by
  subst ht
  subst hS
  obtain ⟨i0, hi, hz0, hz1, hz2⟩ := info_parts infoB
  have hlt := World.ownsRow.lt hown
  have hsz : (bytes k).size = k.length := bytes_size k
  refine Lib.wpList_append_own_string _ hgd s x 29 9 ho B 5 i0 Tryd.underlying29 Tryd.underlying9 hi hz0 hz1 hz2 v l.length (bcells l) hs hown (bytes k) hx (by rw [hsz]; unfold maxLen; omega) (by rw [hsz]; omega) hB ?_
  intro v' w' hown' hg _
  refine h v' w' ?_ ((Below.refl B w).grown hg hB (fun j hj => (hlt j hj).1)) (fun j h1 h2 => hg.block j h1 h2)
  have e : Lib.strCells (bytes k) = bcells k := by simp [Lib.strCells, bcells, bytes_list]
  rw [e, hsz, ← bcells_append, ← List.length_append] at hown'
  exact hown'
end Go.Proofs.YtlobinjdgcidmaaDoor
