/- Texts of ours in one: SMath ZSj VqMath2 VqGet. -/
import Derived.Test.YtlobinjdgcidmaaGreatDoorQs28
import Derived.Test.YtlobinjdgcidmaaGreatDoorRows
import Derived.Test.YtlobinjdgcidmaaGreatDoorQs01
import Derived.WalkKit
import Derived.ProofKit
import Derived.OpenShut
import Derived.Below
import Derived.Lib.Hide
import Derived.Laws.BitsLemmas
import Derived.IntWalk
/- Plain numbers and lists: how segments are written as mappings. Nothing of the program is imported. -/
namespace Go.Proofs.YtlobinjdgcidmaaGreatDoor.M
set_option linter.unusedVariables false
set_option linter.unusedSimpArgs false

abbrev S4 := Int × Int × Int × Int
def okS (s : S4) : Bool := decide (0 ≤ s.1) && decide (s.1 ≤ 100000) && (decide (0 ≤ s.2.1) && decide (s.2.1 ≤ 1073741824)) && (decide (0 ≤ s.2.2.1) && decide (s.2.2.1 ≤ 1073741824)) && (decide (0 ≤ s.2.2.2) && decide (s.2.2.2 ≤ 1073741824))
theorem okS_iff (s : S4) : okS s = true ↔ (0 ≤ s.1 ∧ s.1 ≤ 100000 ∧ 0 ≤ s.2.1 ∧ s.2.1 ≤ 1073741824 ∧ 0 ≤ s.2.2.1 ∧ s.2.2.1 ≤ 1073741824 ∧ 0 ≤ s.2.2.2 ∧ s.2.2.2 ≤ 1073741824) := by
  simp [okS, and_assoc]
def befS (a b : S4) : Bool := decide (a.1 < b.1) || (decide (a.1 = b.1) && decide (a.2.1 < b.2.1))
theorem befS_iff (a b : S4) : befS a b = true ↔ (a.1 < b.1 ∨ (a.1 = b.1 ∧ a.2.1 < b.2.1)) := by simp [befS]
def colOf (last x : S4) : Int := if x.1 = last.1 then last.2.1 else 0
def sepS (fst : Bool) (last x : S4) : List UInt8 := if fst = false ∧ x.1 = last.1 then [44] else List.replicate (x.1 - last.1).toNat 59
def four (a b c : Int) : List UInt8 := V.text a ++ V.text 0 ++ V.text b ++ V.text c
def chunk (fst : Bool) (last x : S4) : List UInt8 := sepS fst last x ++ four (x.2.1 - colOf last x) (x.2.2.1 - last.2.2.1) (x.2.2.2 - last.2.2.2)
def goodS (fst : Bool) (last x : S4) : Bool := okS x && (fst || befS last x)
def mapsG : Bool → S4 → List S4 → Option (List UInt8)
  | _, _, [] => some []
  | fst, last, x :: r => if goodS fst last x then (mapsG false x r).map (chunk fst last x ++ ·) else none
def maps (l : List S4) : Option (List UInt8) := mapsG true (0, 0, 0, 0) l
def lastOf (l : List S4) (i : Nat) : S4 := if i = 0 then (0, 0, 0, 0) else l.getD (i - 1) (0, 0, 0, 0)
theorem lastOf_succ (l : List S4) (i : Nat) (h : i < l.length) : lastOf l (i + 1) = l[i] := by simp [lastOf, h]
def At (l : List S4) (i : Nat) (acc : List UInt8) : Prop := maps l = (mapsG (decide (i = 0)) (lastOf l i) (l.drop i)).map (acc ++ ·)
theorem at_start (l : List S4) : At l 0 [] := by
  unfold At maps lastOf
  simp
theorem at_bad (l : List S4) (i : Nat) (acc : List UInt8) (h : At l i acc) (hi : i < l.length) (hg : goodS (decide (i = 0)) (lastOf l i) l[i] = false) : maps l = none := by
  rw [h, List.drop_eq_getElem_cons hi]
  unfold mapsG
  rw [hg]; rfl
theorem at_step (l : List S4) (i : Nat) (acc : List UInt8) (h : At l i acc) (hi : i < l.length) (hg : goodS (decide (i = 0)) (lastOf l i) l[i] = true) : At l (i + 1) (acc ++ chunk (decide (i = 0)) (lastOf l i) l[i]) := by
  have h2 := h
  unfold At at h2 ⊢
  rw [h2, List.drop_eq_getElem_cons hi, lastOf_succ l i hi]
  conv => lhs; unfold mapsG
  rw [hg]
  simp only [if_true, Option.map_map]
  have : decide (i + 1 = 0) = false := by simp
  rw [this]
  congr 1
  funext x
  simp
theorem at_end (l : List S4) (acc : List UInt8) (h : At l l.length acc) : maps l = some acc := by
  rw [h, List.drop_length]
  simp [mapsG]
theorem four_len (a b c : Int) : (four a b c).length ≤ 36 := by
  have := V.text_len a
  have := V.text_len 0
  have := V.text_len b
  have := V.text_len c
  unfold four
  simp only [List.length_append]
  omega
theorem chunk_len (fst : Bool) (last x : S4) (h : last.1 ≤ x.1) : ((chunk fst last x).length : Int) ≤ (x.1 - last.1) + 37 := by
  have h1 := four_len (x.2.1 - colOf last x) (x.2.2.1 - last.2.2.1) (x.2.2.2 - last.2.2.2)
  unfold chunk
  rw [List.length_append]
  unfold sepS
  split
  · simp only [List.length_cons, List.length_nil]; omega
  · rw [List.length_replicate]; omega
theorem good_parts (fst : Bool) (last x : S4) (h : goodS fst last x = true) : okS x = true ∧ (fst = false → last.1 < x.1 ∨ (last.1 = x.1 ∧ last.2.1 < x.2.1)) := by
  simp only [goodS, Bool.and_eq_true, Bool.or_eq_true] at h
  refine ⟨h.1, fun hf => ?_⟩
  rcases h.2 with h2 | h2
  · rw [hf] at h2; exact absurd h2 (by decide)
  · exact (befS_iff _ _).1 h2
theorem last_ok (l : List S4) (i : Nat) (acc : List UInt8) (h : i = 0 ∨ okS (lastOf l i) = true) : 0 ≤ (lastOf l i).1 ∧ (lastOf l i).1 ≤ 100000 ∧ 0 ≤ (lastOf l i).2.1 ∧ (lastOf l i).2.1 ≤ 1073741824 ∧ 0 ≤ (lastOf l i).2.2.1 ∧ (lastOf l i).2.2.1 ≤ 1073741824 ∧ 0 ≤ (lastOf l i).2.2.2 ∧ (lastOf l i).2.2.2 ≤ 1073741824 := by
  rcases h with h | h
  · subst h; simp [lastOf]
  · have := (okS_iff _).1 h; omega

def isSep (c : UInt8) : Bool := c == 59 || c == 44
theorem letter_sep : ∀ d, d < 64 → isSep (V.letter d) = false := by decide +kernel
theorem text_sep (n : Int) : ∀ c ∈ V.text n, isSep c = false := by
  intro c hc
  unfold V.text at hc
  obtain ⟨d, hd, rfl⟩ := List.mem_map.1 hc
  exact letter_sep d (V.digs_lt _ _ d hd)
theorem four_sep (a b c : Int) : ∀ x ∈ four a b c, isSep x = false := by
  intro x hx
  unfold four at hx
  simp only [List.mem_append] at hx
  rcases hx with ((h | h) | h) | h
  · exact text_sep _ x h
  · exact text_sep _ x h
  · exact text_sep _ x h
  · exact text_sep _ x h
theorem four_pos (a b c : Int) : four a b c ≠ [] := by
  have := V.text_pos a
  unfold four
  intro h
  have h2 := congrArg List.length h
  simp only [List.length_append, List.length_nil] at h2
  omega
end Go.Proofs.YtlobinjdgcidmaaGreatDoor.M
/- JSON, plain: a source map's text is the shortest text of a value; what is parsed of it. -/
namespace Go.Proofs.YtlobinjdgcidmaaGreatDoor
set_option linter.unusedVariables false
set_option linter.unusedSimpArgs false

def sjA : List UInt8 := [123, 34, 118, 101, 114, 115, 105, 111, 110, 34, 58, 51, 44, 34, 115, 111, 117, 114, 99, 101, 115, 34, 58, 91]
def sjB : List UInt8 := [93, 44, 34, 110, 97, 109, 101, 115, 34, 58, 91, 93, 44, 34, 109, 97, 112, 112, 105, 110, 103, 115, 34, 58]
def sjS (T V : List UInt8) : List UInt8 := sjA ++ (T ++ (sjB ++ (V ++ [125])))
def txH (l : List Nat) : Vh := ⟨3, iN l, false, [], [], 0, 0, []⟩
def arH : Vh := ⟨2, [], false, [], [], 0, 0, []⟩
def sjH : Vh := ⟨1, [], false, [], [], 0, 0, [0, 0, 0, 0, 0, 0, 0]⟩
def kVer : List Nat := [118, 101, 114, 115, 105, 111, 110]
def kSrc : List Nat := [115, 111, 117, 114, 99, 101, 115]
def kNam : List Nat := [110, 97, 109, 101, 115]
def kMap : List Nat := [109, 97, 112, 112, 105, 110, 103, 115]
def sjK (U V : List Nat) : Vo :=
  .cons (txH kVer) .nil (.cons (kyV 3) .nil (.cons (txH kSrc) .nil (.cons arH (.cons (txH U) .nil .nil) (.cons (txH kNam) .nil (.cons arH .nil (.cons (txH kMap) .nil (.cons (txH V) .nil .nil)))))))
theorem iN_nat (l : List Nat) : (iN l).map Int.toNat = l := by
  induction l with
  | nil => rfl
  | cons a r ih => simp only [iN, List.map_cons] at ih ⊢; rw [ih]; simp
theorem txH_sgl (l : List Nat) : sglB (txH l) = M.spell l := by
  unfold sglB
  rw [if_pos (show (txH l).k = 3 from rfl)]
  show M.spell ((iN l).map Int.toNat) = _
  rw [iN_nat]
theorem iN_right (l : List Nat) (h : ∀ u ∈ l, u ≤ 65535) : M.rightU (iN l) = true := by
  rw [M.rightU_iff]
  intro u hu
  unfold iN at hu
  obtain ⟨n, hn, rfl⟩ := List.mem_map.1 hu
  have := h n hn
  omega
theorem txH_right (l : List Nat) (h : ∀ u ∈ l, u ≤ 65535) (d : Nat) : rightH (txH l) .nil d = true := by
  have := iN_right l h
  simp only [rightH, headB, txH, nlist, nnum, Vo.len, this]
  rfl
theorem pcs_tx (l : List Nat) : pcsV (txH l) .nil = [(M.spell l, 0)] := by
  unfold pcsV
  rw [if_neg (by simp [txH]), txH_sgl]
  rfl
theorem pcs_three : pcsV (kyV 3) .nil = [([51], 0)] := by
  unfold pcsV
  rw [if_neg (by simp [kyV]), kyV_sgl (by omega)]
  rfl
theorem sj_text (U V : List Nat) : (pcsV sjH (sjK U V)).flatMap (fun q => q.1) = sjS (M.spell U) (M.spell V) := by
  have e1 : M.spell kVer = [34, 118, 101, 114, 115, 105, 111, 110, 34] := by decide +kernel
  have e2 : M.spell kSrc = [34, 115, 111, 117, 114, 99, 101, 115, 34] := by decide +kernel
  have e3 : M.spell kNam = [34, 110, 97, 109, 101, 115, 34] := by decide +kernel
  have e4 : M.spell kMap = [34, 109, 97, 112, 112, 105, 110, 103, 115, 34] := by decide +kernel
  have a1 : pcsV arH (.cons (txH U) .nil .nil) = [([91], 0), (M.spell U, 0), ([93], 0)] := by
    unfold pcsV
    rw [if_pos (.inr rfl)]
    rw [pcsL_cons, pcs_tx]
    rfl
  have a2 : pcsV arH .nil = [([91], 0), ([93], 0)] := rfl
  unfold pcsV
  rw [if_pos (show sjH.k = 1 ∨ sjH.k = 2 from .inl rfl)]
  unfold sjK
  rw [pcsL_cons, pcsL_cons, pcsL_cons, pcsL_cons, pcsL_cons, pcsL_cons, pcsL_cons, pcsL_cons, pcs_tx, pcs_tx, pcs_tx, pcs_tx, pcs_tx, pcs_three, a1, a2, e1, e2, e3, e4]
  simp [pcsL, opB, clB, mkB, sjH, sjS, sjA, sjB]
theorem sj_right (U V : List Nat) (hU : ∀ u ∈ U, u ≤ 65535) (hV : ∀ u ∈ V, u ≤ 65535) (d : Nat) : rightH sjH (sjK U V) (d + 2) = true := by
  have r1 := fun e => txH_right kVer (by decide) e
  have r2 := fun e => txH_right kSrc (by decide) e
  have r3 := fun e => txH_right kNam (by decide) e
  have r4 := fun e => txH_right kMap (by decide) e
  have r5 := fun e => txH_right U hU e
  have r6 := fun e => txH_right V hV e
  have r7 := fun e => kyV_right (b := 3) (by omega) e
  have r8 : rightH arH .nil (d + 1) = true := by simp [rightH, headB, arH, nnum, marksB, keysB, rightVo, Vo.len]
  have r9 : rightH arH (.cons (txH U) .nil .nil) (d + 1) = true := by
    have : rightVo (.cons (txH U) .nil .nil) d = true := by rw [rightVo_cons, r5]; rfl
    unfold rightH headB
    rw [if_pos (.inr rfl), Nat.add_sub_cancel, this]
    simp [arH, nnum, marksB, keysB, Vo.len]
  have hk : rightVo (sjK U V) (d + 1) = true := by
    unfold sjK
    simp only [rightVo_cons, r1, r2, r3, r4, r6, r7, r8, r9]
    rfl
  unfold rightH headB
  rw [if_pos (.inl rfl), show d + 2 - 1 = d + 1 by omega, hk]
  simp [sjH, nnum, marksB, keysB, sjK, Vo.len, evK, txH]
theorem sj_parse (U V : List Nat) (hU : ∀ u ∈ U, u ≤ 65535) (hV : ∀ u ∈ V, u ≤ 65535) (hl : (sjS (M.spell U) (M.spell V)).length ≤ 20000) :
    ∃ h kids, parseV (sjS (M.spell U) (M.spell V)) 60 = .ok (h, kids) ∧ h.k = 1 ∧ er kids = er (sjK U V) := by
  have e0 := sj_text U V
  obtain ⟨ts, h', kids', e1, e3, e4⟩ := back_at 60 sjH (sjK U V) (sj_right U V hU hV 58) (by rw [e0]; exact hl)
  rw [e0] at e1 e3
  unfold sameH at e4
  rw [Bool.and_eq_true] at e4
  refine ⟨h', kids', ?_, ?_, (same_er _ _).1 e4.2⟩
  · unfold parseV
    rw [e1, if_pos rfl]
    exact e3
  · have := e4.1
    unfold sameHd at this
    simp only [Bool.and_eq_true, decide_eq_true_eq] at this
    exact this.1.1.1
theorem at_er {K L : Vo} (e : er K = er L) {j : Nat} {h : Vh} {k : Vo} (hj : L.at? j = some (h, k)) : ∃ h' k', K.at? j = some (h', k') ∧ erh h' = erh h ∧ er k' = er k := by
  have ea := er_at K j
  rw [e, er_at, hj] at ea
  cases hk : K.at? j with
  | none => rw [hk] at ea; simp at ea
  | some q =>
    obtain ⟨h', k'⟩ := q
    rw [hk] at ea
    simp only [Option.map_some, Option.some.injEq, Prod.mk.injEq] at ea
    exact ⟨h', k', rfl, ea.1.symm, ea.2.symm⟩
theorem len_er {K L : Vo} (e : er K = er L) : K.len = L.len := by
  have := congrArg Vo.len e
  rwa [er_len, er_len] at this
def plB (c : UInt8) : Bool := decide (32 ≤ c.toNat) && decide (c.toNat < 128) && (c != 34) && (c != 92)
theorem plB_spel (c : UInt8) (h : plB c = true) : M.spel c.toNat = [c] := by
  have h0 : ∀ d : Fin 256, plB d.val.toUInt8 = true → M.spel d.val.toUInt8.toNat = [d.val.toUInt8] := by decide +kernel
  have := h0 ⟨c.toNat, c.toNat_lt⟩
  simp only at this
  rw [show c.toNat.toUInt8 = c from by apply UInt8.toNat_inj.1; rw [M.toU8 c.toNat c.toNat_lt]] at this
  exact this h
theorem plB_lt {c : UInt8} (h : plB c = true) : c.toNat < 128 := by
  unfold plB at h
  simp only [Bool.and_eq_true, decide_eq_true_eq] at h
  exact h.1.1.2
theorem body_plain : ∀ (m : List UInt8), (∀ c ∈ m, plB c = true) → M.body (m.map UInt8.toNat) = m
  | [], _ => rfl
  | [c], h => by
    simp only [List.map_cons, List.map_nil, M.body]
    exact plB_spel c (h c (by simp))
  | c :: d :: r, h => by
    have hc := h c (by simp)
    have := body_plain (d :: r) (fun x hx => h x (List.mem_cons_of_mem _ hx))
    have l := plB_lt hc
    have hp : M.isPair c.toNat d.toNat = false := by
      cases hh : M.isPair c.toNat d.toNat with
      | false => rfl
      | true => rw [M.isPair_iff] at hh; omega
    simp only [List.map_cons] at this ⊢
    rw [M.body, hp]
    simp only [Bool.false_eq_true, if_false]
    rw [this, plB_spel c hc]
    rfl
theorem letter_pl : ∀ d, d < 64 → plB (V.letter d) = true := by decide +kernel
theorem text_pl (n : Int) : ∀ c ∈ V.text n, plB c = true := by
  intro c hc
  unfold V.text at hc
  obtain ⟨d, hd, rfl⟩ := List.mem_map.1 hc
  exact letter_pl d (V.digs_lt _ _ d hd)
theorem chunk_pl (f : Bool) (last x : M.S4) : ∀ c ∈ M.chunk f last x, plB c = true := by
  intro c hc
  unfold M.chunk M.four at hc
  rcases List.mem_append.1 hc with hc | hc
  · unfold M.sepS at hc
    split at hc
    · rw [List.mem_singleton.1 hc]; decide
    · rw [(List.mem_replicate.1 hc).2]; decide
  · rcases List.mem_append.1 hc with hc | hc
    · rcases List.mem_append.1 hc with hc | hc
      · rcases List.mem_append.1 hc with hc | hc
        · exact text_pl _ c hc
        · exact text_pl _ c hc
      · exact text_pl _ c hc
    · exact text_pl _ c hc
theorem mapsG_pl (l : List M.S4) : ∀ (f : Bool) (last : M.S4) (acc : List UInt8), M.mapsG f last l = some acc → ∀ c ∈ acc, plB c = true := by
  induction l with
  | nil =>
    intro f last acc hm
    have : acc = [] := by simpa [M.mapsG] using hm.symm
    subst this; intro c hc; simp at hc
  | cons x r ih =>
    intro f last acc hm
    unfold M.mapsG at hm
    split at hm
    · obtain ⟨k, hk, rfl⟩ := Option.map_eq_some_iff.1 hm
      intro c hc
      rcases List.mem_append.1 hc with hc | hc
      · exact chunk_pl f last x c hc
      · exact ih false x k hk c hc
    · simp at hm
theorem mapsG_short (f : Bool) (last : M.S4) (l : List M.S4) (acc : List UInt8) (h0 : f = true → last.1 = 0) (h1 : last.1 ≤ 200) (hl : ∀ x ∈ l, x.1 ≤ 200 ∨ 100000 < x.1) (hm : M.mapsG f last l = some acc) : (acc.length : Int) ≤ (200 - last.1) + 37 * l.length := by
  induction l generalizing f last acc with
  | nil => have : acc = [] := by simpa [M.mapsG] using hm.symm
           subst this; simp; omega
  | cons x r ih =>
    unfold M.mapsG at hm
    split at hm
    · rename_i hg
      obtain ⟨k, hk, rfl⟩ := Option.map_eq_some_iff.1 hm
      obtain ⟨ho, hb⟩ := M.good_parts f last x hg
      have ho := (M.okS_iff x).1 ho
      have hx : x.1 ≤ 200 := by
        rcases hl x (by simp) with h | h
        · exact h
        · omega
      have hlx : last.1 ≤ x.1 := by
        cases f with
        | true => have := h0 rfl; omega
        | false => have := hb rfl; omega
      have := ih false x k (fun h => by simp at h) hx (fun y hy => hl y (List.mem_cons_of_mem _ hy)) hk
      have hc := M.chunk_len f last x hlx
      rw [List.length_append, List.length_cons]
      omega
    · simp at hm
theorem maps_short (l : List M.S4) (acc : List UInt8) (hl : ∀ x ∈ l, x.1 ≤ 200 ∨ 100000 < x.1) (hm : M.maps l = some acc) : acc.length ≤ 200 + 37 * l.length := by
  have := mapsG_short true (0, 0, 0, 0) l acc (fun _ => rfl) (by simp) hl hm
  simp only at this
  omega
end Go.Proofs.YtlobinjdgcidmaaGreatDoor
/- The reading of a number's letters: what a text says at a place (plain lists; nothing of the program). -/
namespace Go.Proofs.YtlobinjdgcidmaaGreatDoor.V

def idx (c : UInt8) : Int := Go.Lib.indexByte alpha c
theorem idx_all : ∀ n, n < 256 → (idx (UInt8.ofNat n) = -1 ∨ (0 ≤ idx (UInt8.ofNat n) ∧ idx (UInt8.ofNat n) < 64 ∧ letter (idx (UInt8.ofNat n)).toNat = UInt8.ofNat n)) := by decide +kernel
theorem idx_letter_all : ∀ d, d < 64 → idx (letter d) = d := by decide +kernel
theorem idx_cases (c : UInt8) : idx c = -1 ∨ (0 ≤ idx c ∧ idx c < 64 ∧ letter (idx c).toNat = c) := by
  have h := idx_all c.toNat c.toNat_lt
  simpa using h
def scan : Nat → List UInt8 → Option (List Nat)
  | 0, _ => none
  | _ + 1, [] => none
  | f + 1, c :: l => if idx c < 0 then none else if idx c < 32 then some [(idx c).toNat] else (scan f l).map ((idx c).toNat :: ·)
def val : List Nat → Nat
  | [] => 0
  | d :: r => d % 32 + 32 * val r
def unzig (x : Nat) : Int := if x % 2 = 1 then -((x / 2 : Nat) : Int) else ((x / 2 : Nat) : Int)
def fine (ds : List Nat) : Bool := val ds != 1 && decide (val ds / 2 ≤ 1099511627776) && !(ds.getLastD 0 == 0 && decide (1 < ds.length))
def get (l : List UInt8) : Option (Int × Nat) :=
  match scan 9 l with
  | none => none
  | some ds => if fine ds then some (unzig (val ds), ds.length) else none
def getAt (l : List UInt8) (at_ : Int) : Option (Int × Nat) := if at_ < 0 ∨ (l.length : Int) ≤ at_ then none else get (l.drop at_.toNat)
def gN (at_ : Int) : Option (Int × Nat) → Int × Int × Bool
  | none => (0, 0, false)
  | some (n, k) => (n, at_ + k, true)

theorem val_snoc (l : List Nat) (d : Nat) : val (l ++ [d]) = val l + 32 ^ l.length * (d % 32) := by
  induction l with
  | nil => simp [val]
  | cons a l ih => simp only [List.cons_append, val, ih, List.length_cons, Nat.pow_succ]; rw [Nat.mul_add, Nat.mul_comm (32 ^ l.length) 32, Nat.mul_assoc]; omega
theorem val_lt (l : List Nat) : val l < 32 ^ l.length := by
  induction l with
  | nil => simp [val]
  | cons a l ih => simp only [val, List.length_cons, Nat.pow_succ]; have := Nat.mod_lt a (show 0 < 32 by omega); omega

def Read (l : List UInt8) (k : Nat) (ds : List Nat) : Prop := ds.length = k ∧ k ≤ 9 ∧ k ≤ l.length ∧ scan 9 l = (scan (9 - k) (l.drop k)).map (ds ++ ·)
theorem read_start (l : List UInt8) : Read l 0 [] := ⟨rfl, by omega, by omega, by simp⟩
theorem read_step {l : List UInt8} {k : Nat} {ds : List Nat} (h : Read l k ds) (hk : k < 9) (hl : k < l.length) (h32 : 32 ≤ idx l[k]) : Read l (k + 1) (ds ++ [(idx l[k]).toNat]) := by
  obtain ⟨h1, h2, h3, h4⟩ := h
  refine ⟨by simp [h1], by omega, by omega, ?_⟩
  rw [h4, show 9 - k = (9 - (k + 1)) + 1 by omega, List.drop_eq_getElem_cons hl]
  have a1 : ¬ idx l[k] < 0 := by omega
  have a2 : ¬ idx l[k] < 32 := by omega
  simp only [scan, a1, a2, if_false, Option.map_map]
  congr 1
  funext r
  simp
theorem read_none {l : List UInt8} {k : Nat} {ds : List Nat} (h : Read l k ds) (hk : k < 9) (hl : k < l.length) (h0 : idx l[k] < 0) : get l = none := by
  obtain ⟨h1, h2, h3, h4⟩ := h
  unfold get
  rw [h4, show 9 - k = (9 - (k + 1)) + 1 by omega, List.drop_eq_getElem_cons hl]
  simp [scan, h0]
theorem read_some {l : List UInt8} {k : Nat} {ds : List Nat} (h : Read l k ds) (hk : k < 9) (hl : k < l.length) (h0 : 0 ≤ idx l[k]) (h32 : idx l[k] < 32) : get l = if fine (ds ++ [(idx l[k]).toNat]) then some (unzig (val (ds ++ [(idx l[k]).toNat])), k + 1) else none := by
  obtain ⟨h1, h2, h3, h4⟩ := h
  unfold get
  rw [h4, show 9 - k = (9 - (k + 1)) + 1 by omega, List.drop_eq_getElem_cons hl]
  have a1 : ¬ idx l[k] < 0 := by omega
  simp [scan, a1, h32, h1]
theorem read_end {l : List UInt8} {k : Nat} {ds : List Nat} (h : Read l k ds) (hk : 9 ≤ k ∨ l.length ≤ k) : get l = none := by
  obtain ⟨h1, h2, h3, h4⟩ := h
  unfold get
  rw [h4]
  rcases hk with hk | hk
  · rw [show 9 - k = 0 by omega]; simp [scan]
  · rw [List.drop_eq_nil_of_le hk]; cases 9 - k <;> simp [scan]
theorem fine_snoc (ds : List Nat) (d : Nat) : fine (ds ++ [d]) = (val (ds ++ [d]) != 1 && decide (val (ds ++ [d]) / 2 ≤ 1099511627776) && !(d == 0 && decide (0 < ds.length))) := by
  unfold fine; simp

theorem scan_digs (f x : Nat) (r : List UInt8) (h : x < 32 ^ f) (hf : 0 < f) : scan f ((digs f x).map letter ++ r) = some (digs f x) := by
  induction f generalizing x with
  | zero => omega
  | succ f ih =>
    by_cases hx : x < 32
    · have e := idx_letter_all x (by omega)
      rw [digs_small _ _ hx]
      simp only [List.map_cons, List.map_nil, List.cons_append, scan, e]
      rw [if_neg (by omega), if_pos (by omega)]
      simp
    · have hx' : 32 ≤ x := by omega
      have e := idx_letter_all (32 + x % 32) (by omega)
      rw [digs_big _ _ hx']
      have hf' : 0 < f := by
        cases f with
        | zero => simp at h; omega
        | succ f => omega
      have hlt : x / 32 < 32 ^ f := by rw [Nat.pow_succ] at h; omega
      simp only [List.map_cons, List.cons_append, scan, e]
      rw [if_neg (by omega), if_neg (by omega), ih _ hlt hf']
      simp
      omega
theorem val_digs (f x : Nat) (h : x < 32 ^ f) (hf : 0 < f) : val (digs f x) = x := by
  induction f generalizing x with
  | zero => omega
  | succ f ih =>
    by_cases hx : x < 32
    · rw [digs_small _ _ hx]; simp [val]; omega
    · have hx' : 32 ≤ x := by omega
      rw [digs_big _ _ hx']
      have hf' : 0 < f := by
        cases f with
        | zero => simp at h; omega
        | succ f => omega
      have hlt : x / 32 < 32 ^ f := by rw [Nat.pow_succ] at h; omega
      simp only [val, ih _ hlt hf']
      omega
theorem last_digs (f x : Nat) (h : x < 32 ^ f) (hf : 0 < f) (h0 : (digs f x).getLastD 0 = 0) : x = 0 := by
  induction f generalizing x with
  | zero => omega
  | succ f ih =>
    by_cases hx : x < 32
    · rw [digs_small _ _ hx] at h0; simpa using h0
    · have hx' : 32 ≤ x := by omega
      rw [digs_big _ _ hx'] at h0
      have hf' : 0 < f := by
        cases f with
        | zero => simp at h; omega
        | succ f => omega
      have hlt : x / 32 < 32 ^ f := by rw [Nat.pow_succ] at h; omega
      have hne : digs f (x / 32) ≠ [] := by
        obtain ⟨g, rfl⟩ : ∃ g, f = g + 1 := ⟨f - 1, by omega⟩
        intro hn
        have := digs_pos g (x / 32)
        rw [hn] at this
        simp at this
      have : (digs f (x / 32)).getLastD 0 = 0 := by
        cases hd : digs f (x / 32) with
        | nil => exact absurd hd hne
        | cons a l => rw [hd] at h0; simpa using h0
      have := ih _ hlt hf' this
      omega
theorem unzig_zig (n : Int) : unzig (zig n) = n := by
  unfold unzig zig
  split <;> split <;> omega
theorem zig_one (n : Int) : zig n ≠ 1 := by unfold zig; split <;> omega
theorem zig_half (n : Int) (h1 : -1099511627776 ≤ n) (h2 : n ≤ 1099511627776) : zig n / 2 ≤ 1099511627776 := by unfold zig; split <;> omega
theorem get_text (n : Int) (h1 : -1099511627776 ≤ n) (h2 : n ≤ 1099511627776) (r : List UInt8) : get (text n ++ r) = some (n, (text n).length) := by
  have hz := zig_lt n h1 h2
  have hv := val_digs 9 (zig n) hz (by omega)
  unfold get text
  rw [scan_digs 9 (zig n) r hz (by omega)]
  have hf : fine (digs 9 (zig n)) = true := by
    unfold fine
    rw [hv]
    have a := zig_one n
    have b := zig_half n h1 h2
    by_cases hl : (digs 9 (zig n)).getLastD 0 = 0
    · have z := last_digs 9 (zig n) hz (by omega) hl
      rw [z]
      decide
    · simp [a, b]
      left
      simpa using hl
  simp only [hf, if_true, hv, unzig_zig, List.length_map]
end Go.Proofs.YtlobinjdgcidmaaGreatDoor.V
/- vlq.Get: what is returned for any text at any place. -/
namespace Go.Proofs.YtlobinjdgcidmaaGreatDoor
open Go.RowKit

def vq_tri (r : Int × Int × Bool) : Value := .tuple #[.int .i64 r.1, .int .i64 r.2.1, .bool r.2.2]

theorem vq_indexByte_any (c : Int) (x : UInt8) (d : Int) (hx : c = x.toNat) (hd : V.idx x = d) (w : World) :
    Calls Tryz.prog 58 #[.string ⟨V.alpha.toArray⟩, .int .u8 c] w fun e w' => e = .returned (.int .i64 d) ∧ w = w' := by
  subst hx hd
  refine (Tryz.strings_IndexByte _ _ _).mono ?_
  rintro e w' ⟨rfl, rfl⟩
  exact ⟨by simp [V.idx], rfl⟩

theorem vq_wraps_i64 (n : Int) (h₀ : 0 ≤ n) (h₁ : n < 2 ^ 62) : IntKind.i64.wrap n = n := by rw [IntKind.wrap_i64]; omega

theorem vq_or_step (ds : List Nat) (d k : Nat) (hl : ds.length = k) (hk : k ≤ 8) : bits .or .i64 (V.val ds : Int) (wrap64 ((d : Int) % 32 * 2 ^ (k * 5))) = (V.val (ds ++ [d]) : Int) := by
  have h1 := V.val_lt ds
  have hp : 32 ^ k = 2 ^ (k * 5) := by rw [Nat.mul_comm, Nat.pow_mul]
  have hm : d % 32 < 32 := Nat.mod_lt _ (by omega)
  have h2 : 2 ^ (k * 5) ≤ 2 ^ 40 := Nat.pow_le_pow_right (by omega) (by omega)
  have h3 : d % 32 * 2 ^ (k * 5) ≤ 31 * 2 ^ (k * 5) := Nat.mul_le_mul_right _ (by omega)
  have hc : (d : Int) % 32 * 2 ^ (k * 5) = ((d % 32 * 2 ^ (k * 5) : Nat) : Int) := by simp
  rw [V.val_snoc, hl, hp]
  rw [hl, hp] at h1
  rw [hc, IntWalk.wrap64_in _ (by omega), (bits_nat .i64 62 (by decide) vq_wraps_i64 _ _ (by omega) (by omega)).2, Nat.mul_comm (d % 32), Nat.or_comm, ← Nat.two_pow_add_eq_or_of_lt h1 (d % 32), Nat.add_comm]

theorem vq_num_no (x : Nat) (w : World) (h : x < 1152921504606846976) (hx : x = 1 ∨ 1099511627776 < x / 2) :
    Calls Tryz.prog 59 #[.int .i64 (x : Int)] w fun e w' => e = .returned (.tuple #[.int .i64 0, .bool false]) ∧ w = w' := by
  by_cases h1 : x = 1
  · subst h1
    go_enter Tryz.func59, Tryz.ntmps59
    go_wp2
    go_ret2
    exact ⟨rfl, rfl⟩
  · have h2 : 1099511627776 < x / 2 := by omega
    have h3 : ((x : Int) == 1) = false := by simp; omega
    clear hx
    go_enter Tryz.func59, Tryz.ntmps59
    go_wp2
    go_ret2
    exact ⟨rfl, rfl⟩

theorem vq_num_yes (x : Nat) (w : World) (h : x < 1152921504606846976) (hx : ¬ (x = 1 ∨ 1099511627776 < x / 2)) :
    Calls Tryz.prog 59 #[.int .i64 (x : Int)] w fun e w' => e = .returned (.tuple #[.int .i64 (V.unzig x), .bool true]) ∧ w = w' := by
  have h1 : ¬ x = 1 := fun h => hx (.inl h)
  have h2 : x / 2 ≤ 1099511627776 := by omega
  have h3 : ((x : Int) == 1) = false := by simp; omega
  clear hx h1
  by_cases hp : x % 2 = 1
  · have hr : V.unzig x = -((x / 2 : Nat) : Int) := by simp [V.unzig, hp]
    have Hr := Lib.hid hr
    have h5 : ((x : Int) % 2 == 1) = true := by simp; omega
    clear hr hp
    go_enter Tryz.func59, Tryz.ntmps59
    go_wp2
    go_ret2
    exact ⟨by rw [Hr.out]; simp, rfl⟩
  · have hr : V.unzig x = ((x / 2 : Nat) : Int) := by simp [V.unzig, hp]
    have Hr := Lib.hid hr
    have h5 : ((x : Int) % 2 == 1) = false := by simp; omega
    clear hr hp
    go_enter Tryz.func59, Tryz.ntmps59
    go_wp2
    go_ret2
    exact ⟨by rw [Hr.out]; simp, rfl⟩

set_option maxRecDepth 100000 in
set_option maxHeartbeats 2000000 in
theorem vq_get_in (s : ByteArray) (k0 : Nat) (w : World) (hs : s.size ≤ 1048576) (h0 : k0 < s.size) :
    Calls Tryz.prog 37 #[.string s, .int .i64 (k0 : Int)] w fun e w' => e = .returned (vq_tri (V.gN k0 (V.get (s.data.toList.drop k0)))) ∧ w = w' := by
  have hB1 : decide (s.size ≤ k0) = false := by simp; omega
  have hB2 : decide ((k0 : Int) < 0) = false := by simp
  go_enter Tryz.func37, Tryz.ntmps37
  go_wp2_with fail
  go_loop [7, 25] (fun xv kv => ∃ (k : Nat) (ds : List Nat), kv = .int .i64 k ∧ xv = .int .i64 (V.val ds) ∧ V.Read (s.data.toList.drop k0) k ds) (fun _ kv => 9 - (intOf kv).toNat)
  case atStart => exact ⟨0, [], rfl, rfl, V.read_start _⟩
  case round =>
    obtain ⟨k, ds, rfl, rfl, hR⟩ := hrel
    have hk9 := hR.2.1
    have HR := Lib.hid hR
    clear hR
    by_cases hlt : k < 9 ∧ k0 + k < s.size
    · obtain ⟨hk, hks⟩ := hlt
      have hll : k < (s.data.toList.drop k0).length := by
        have : s.data.toList.length = s.size := by simp
        rw [List.length_drop]; omega
      have hget : (s.data.toList.drop k0)[k] = s[k0 + k] := by simp [ByteArray.getElem_eq_getElem_data]
      have hc := V.idx_cases s[k0 + k]
      by_cases hneg : V.idx s[k0 + k] < 0
      · have hm1 : V.idx s[k0 + k] = -1 := by omega
        have hres := V.read_none HR.out hk hll (by rw [hget]; exact hneg)
        have Hm := Lib.hid hm1
        have Hres := Lib.hid hres
        clear hm1 hneg hc hget hres
        go_wp2_with fail
        refine (vq_indexByte_any _ s[k0 + k] _ rfl Hm.out _).mono ?_
        rintro e w' ⟨rfl, rfl⟩
        go_wp2
        go_ret3
        exact ⟨by rw [Hres.out]; rfl, rfl⟩
      · obtain ⟨d, hd⟩ : ∃ d : Nat, V.idx s[k0 + k] = d := ⟨(V.idx s[k0 + k]).toNat, by omega⟩
        have hd64 : d < 64 := by omega
        have Hd := Lib.hid hd
        have HC := Lib.hid hget
        clear hc hd hneg hget
        have hor := vq_or_step ds d k HR.out.1 (by omega)
        obtain ⟨x2, hx2⟩ : ∃ x2 : Nat, V.val (ds ++ [d]) = x2 := ⟨_, rfl⟩
        have hx2b : x2 < 1152921504606846976 := by
          have q1 := V.val_lt (ds ++ [d])
          have q2 : 32 ^ (ds ++ [d]).length ≤ 32 ^ 9 := Nat.pow_le_pow_right (by omega) (by have := HR.out.1; simp; omega)
          omega
        rw [hx2] at hor
        have Hx2 := Lib.hid hx2
        clear hx2
        by_cases h32 : d < 32
        · have hres := V.read_some HR.out hk hll (by rw [HC.out, Hd.out]; omega) (by rw [HC.out, Hd.out]; omega)
          rw [HC.out, Hd.out, Int.toNat_natCast, V.fine_snoc, HR.out.1, Hx2.out] at hres
          by_cases hbad : x2 = 1 ∨ 1099511627776 < x2 / 2
          · have hres2 : V.get (s.data.toList.drop k0) = none := by
              rw [hres, if_neg]
              rcases hbad with h | h
              · simp [h]
              · have : ¬ x2 / 2 ≤ 1099511627776 := by omega
                simp [this]
            have Hres := Lib.hid hres2
            have Hbad := Lib.hid hbad
            clear hres hres2 hbad
            go_wp2_with fail
            refine (vq_indexByte_any _ s[k0 + k] _ rfl Hd.out _).mono ?_
            rintro e w' ⟨rfl, rfl⟩
            go_wp2_with fail
            refine (vq_num_no x2 _ hx2b Hbad.out).mono ?_
            rintro e w' ⟨rfl, rfl⟩
            go_wp2
            go_ret3
            exact ⟨by rw [Hres.out]; rfl, rfl⟩
          · by_cases hz : d = 0 ∧ 0 < k
            · have hres2 : V.get (s.data.toList.drop k0) = none := by
                rw [hres, if_neg]
                simp [hz]
              obtain ⟨hz1, hz2⟩ := hz
              have hd00 : ((d : Int) == 0) = true := by simp; omega
              clear hz1
              have Hres := Lib.hid hres2
              have Hbad := Lib.hid hbad
              clear hres hres2 hbad
              go_wp2_with fail
              refine (vq_indexByte_any _ s[k0 + k] _ rfl Hd.out _).mono ?_
              rintro e w' ⟨rfl, rfl⟩
              go_wp2_with fail
              refine (vq_num_yes x2 _ hx2b Hbad.out).mono ?_
              rintro e w' ⟨rfl, rfl⟩
              go_wp2
              go_ret3
              exact ⟨by rw [Hres.out]; rfl, rfl⟩
            · have hres2 : V.get (s.data.toList.drop k0) = some (V.unzig x2, k + 1) := by
                rw [hres, if_pos]
                have b1 : ¬ x2 = 1 := fun h => hbad (.inl h)
                have b2 : x2 / 2 ≤ 1099511627776 := by omega
                simp [b1, b2]
                omega
              have Hres := Lib.hid hres2
              have Hbad := Lib.hid hbad
              clear hres hres2 hbad
              by_cases hd0 : d = 0
              · have hk1 : k < 1 := by omega
                have hd00 : ((d : Int) == 0) = true := by simp; omega
                clear hz hd0
                go_wp2_with fail
                refine (vq_indexByte_any _ s[k0 + k] _ rfl Hd.out _).mono ?_
                rintro e w' ⟨rfl, rfl⟩
                go_wp2_with fail
                refine (vq_num_yes x2 _ hx2b Hbad.out).mono ?_
                rintro e w' ⟨rfl, rfl⟩
                go_wp2
                go_ret3
                exact ⟨by rw [Hres.out]; simp [V.gN, vq_tri]; omega, rfl⟩
              · clear hz
                have hd00 : ((d : Int) == 0) = false := by simp; omega
                go_wp2_with fail
                refine (vq_indexByte_any _ s[k0 + k] _ rfl Hd.out _).mono ?_
                rintro e w' ⟨rfl, rfl⟩
                go_wp2_with fail
                refine (vq_num_yes x2 _ hx2b Hbad.out).mono ?_
                rintro e w' ⟨rfl, rfl⟩
                go_wp2
                go_ret3
                exact ⟨by rw [Hres.out]; simp [V.gN, vq_tri]; omega, rfl⟩
        · have hR2 := V.read_step HR.out hk hll (by rw [HC.out, Hd.out]; omega)
          rw [HC.out, Hd.out, Int.toNat_natCast] at hR2
          have HR2 := Lib.hid hR2
          clear hR2
          go_wp2_with fail
          refine (vq_indexByte_any _ s[k0 + k] _ rfl Hd.out _).mono ?_
          rintro e w' ⟨rfl, rfl⟩
          go_wp2
          go_round
          case rel => exact ⟨k + 1, ds ++ [d], by go_num, by rw [Hx2.out], HR2.out⟩
          case measure => simp [intOf]; omega
    · have hres : V.get (s.data.toList.drop k0) = none := V.read_end HR.out (by
        have : s.data.toList.length = s.size := by simp
        rw [List.length_drop]; omega)
      have Hres := Lib.hid hres
      clear hres
      go_wp2
      go_ret3
      exact ⟨by rw [Hres.out]; rfl, rfl⟩

theorem vq_get_out (s : ByteArray) (k0 : Int) (w : World) (_hs : s.size ≤ 9223372036854775807) (h : k0 < 0 ∨ (s.size : Int) ≤ k0) :
    Calls Tryz.prog 37 #[.string s, .int .i64 k0] w fun e w' => e = .returned (vq_tri (0, 0, false)) ∧ w = w' := by
  by_cases h0 : k0 < 0
  · clear h
    go_enter Tryz.func37, Tryz.ntmps37
    go_wp2
    go_ret3
    exact ⟨rfl, rfl⟩
  · have h2 : (s.size : Int) ≤ k0 := by omega
    clear h
    go_enter Tryz.func37, Tryz.ntmps37
    go_wp2
    go_ret3
    exact ⟨rfl, rfl⟩

theorem vq_get_any (s : ByteArray) (k0 : Int) (r : Int × Int × Bool) (w : World) (hs : s.size ≤ 1048576) (hr : V.gN k0 (V.getAt s.data.toList k0) = r) :
    Calls Tryz.prog 37 #[.string s, .int .i64 k0] w fun e w' => e = .returned (vq_tri r) ∧ w = w' := by
  subst hr
  have hl : s.data.toList.length = s.size := by simp
  by_cases h : k0 < 0 ∨ (s.size : Int) ≤ k0
  · have : V.getAt s.data.toList k0 = none := by unfold V.getAt; rw [if_pos (by omega)]
    rw [this]
    exact vq_get_out s k0 w (by omega) h
  · obtain ⟨k, rfl⟩ : ∃ k : Nat, k0 = k := ⟨k0.toNat, by omega⟩
    have : V.getAt s.data.toList k = V.get (s.data.toList.drop k) := by unfold V.getAt; rw [if_neg (by omega)]; simp
    rw [this]
    exact vq_get_in s k w hs (by omega)
end Go.Proofs.YtlobinjdgcidmaaGreatDoor
