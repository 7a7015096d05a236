/- The reading of a number's letters: what a text says at a place (plain lists; nothing of the program). -/
import Derived.Test.YtpfbhdkljcjhlaaDoorVqMath
namespace Go.Proofs.YtpfbhdkljcjhlaaDoor.V

/-- The place of a byte among the letters, or -1. -/
def idx (c : UInt8) : Int := Go.Lib.indexByte alpha c
theorem idx_all : ∀ n, n < 256 → (idx (UInt8.ofNat n) = -1 ∨ (0 ≤ idx (UInt8.ofNat n) ∧ idx (UInt8.ofNat n) < 64 ∧ letter (idx (UInt8.ofNat n)).toNat = UInt8.ofNat n)) := by decide +kernel
theorem idx_letter_all : ∀ d, d < 64 → idx (letter d) = d := by decide +kernel
theorem idx_cases (c : UInt8) : idx c = -1 ∨ (0 ≤ idx c ∧ idx c < 64 ∧ letter (idx c).toNat = c) := by
  have h := idx_all c.toNat c.toNat_lt
  simpa using h
/-- The digits at the head of a text: up to the first below 32, at most f. -/
def scan : Nat → List UInt8 → Option (List Nat)
  | 0, _ => none
  | _ + 1, [] => none
  | f + 1, c :: l => if idx c < 0 then none else if idx c < 32 then some [(idx c).toNat] else (scan f l).map ((idx c).toNat :: ·)
def val : List Nat → Nat
  | [] => 0
  | d :: r => d % 32 + 32 * val r
def unzig (x : Nat) : Int := if x % 2 = 1 then -((x / 2 : Nat) : Int) else ((x / 2 : Nat) : Int)
/-- May these digits be? -/
def fine (ds : List Nat) : Bool := val ds != 1 && decide (val ds / 2 ≤ 1099511627776) && !(ds.getLastD 0 == 0 && decide (1 < ds.length))
def get (l : List UInt8) : Option (Int × Nat) :=
  match scan 9 l with
  | none => none
  | some ds => if fine ds then some (unzig (val ds), ds.length) else none
/-- What stands at a place of a text. -/
def getAt (l : List UInt8) (at_ : Int) : Option (Int × Nat) := if at_ < 0 ∨ (l.length : Int) ≤ at_ then none else get (l.drop at_.toNat)
def gN (at_ : Int) : Option (Int × Nat) → Int × Int × Bool
  | none => (0, 0, false)
  | some (n, k) => (n, at_ + k, true)

theorem val_snoc (l : List Nat) (d : Nat) : val (l ++ [d]) = val l + 32 ^ l.length * (d % 32) := by
  induction l with
  | nil => simp [val]
  | cons a l ih => simp only [List.cons_append, val, ih, List.length_cons, Nat.pow_succ]; rw [Nat.mul_add, Nat.mul_comm (32 ^ l.length) 32, Nat.mul_assoc]; omega
theorem val_lt (l : List Nat) : val l < 32 ^ l.length := by
  induction l with
  | nil => simp [val]
  | cons a l ih => simp only [val, List.length_cons, Nat.pow_succ]; have := Nat.mod_lt a (show 0 < 32 by omega); omega

/-- What holds of the digits that have been read. -/
def Read (l : List UInt8) (k : Nat) (ds : List Nat) : Prop := ds.length = k ∧ k ≤ 9 ∧ k ≤ l.length ∧ scan 9 l = (scan (9 - k) (l.drop k)).map (ds ++ ·)
theorem read_start (l : List UInt8) : Read l 0 [] := ⟨rfl, by omega, by omega, by simp⟩
theorem read_step {l : List UInt8} {k : Nat} {ds : List Nat} (h : Read l k ds) (hk : k < 9) (hl : k < l.length) (h32 : 32 ≤ idx l[k]) : Read l (k + 1) (ds ++ [(idx l[k]).toNat]) := by
  obtain ⟨h1, h2, h3, h4⟩ := h
  refine ⟨by simp [h1], by omega, by omega, ?_⟩
  rw [h4, show 9 - k = (9 - (k + 1)) + 1 by omega, List.drop_eq_getElem_cons hl]
  have a1 : ¬ idx l[k] < 0 := by omega
  have a2 : ¬ idx l[k] < 32 := by omega
  simp only [scan, a1, a2, if_false, Option.map_map]
  congr 1
  funext r
  simp
theorem read_none {l : List UInt8} {k : Nat} {ds : List Nat} (h : Read l k ds) (hk : k < 9) (hl : k < l.length) (h0 : idx l[k] < 0) : get l = none := by
  obtain ⟨h1, h2, h3, h4⟩ := h
  unfold get
  rw [h4, show 9 - k = (9 - (k + 1)) + 1 by omega, List.drop_eq_getElem_cons hl]
  simp [scan, h0]
theorem read_some {l : List UInt8} {k : Nat} {ds : List Nat} (h : Read l k ds) (hk : k < 9) (hl : k < l.length) (h0 : 0 ≤ idx l[k]) (h32 : idx l[k] < 32) : get l = if fine (ds ++ [(idx l[k]).toNat]) then some (unzig (val (ds ++ [(idx l[k]).toNat])), k + 1) else none := by
  obtain ⟨h1, h2, h3, h4⟩ := h
  unfold get
  rw [h4, show 9 - k = (9 - (k + 1)) + 1 by omega, List.drop_eq_getElem_cons hl]
  have a1 : ¬ idx l[k] < 0 := by omega
  simp [scan, a1, h32, h1]
theorem read_end {l : List UInt8} {k : Nat} {ds : List Nat} (h : Read l k ds) (hk : 9 ≤ k ∨ l.length ≤ k) : get l = none := by
  obtain ⟨h1, h2, h3, h4⟩ := h
  unfold get
  rw [h4]
  rcases hk with hk | hk
  · rw [show 9 - k = 0 by omega]; simp [scan]
  · rw [List.drop_eq_nil_of_le hk]; cases 9 - k <;> simp [scan]
theorem fine_snoc (ds : List Nat) (d : Nat) : fine (ds ++ [d]) = (val (ds ++ [d]) != 1 && decide (val (ds ++ [d]) / 2 ≤ 1099511627776) && !(d == 0 && decide (0 < ds.length))) := by
  unfold fine; simp

theorem scan_digs (f x : Nat) (r : List UInt8) (h : x < 32 ^ f) (hf : 0 < f) : scan f ((digs f x).map letter ++ r) = some (digs f x) := by
  induction f generalizing x with
  | zero => omega
  | succ f ih =>
    by_cases hx : x < 32
    · have e := idx_letter_all x (by omega)
      rw [digs_small _ _ hx]
      simp only [List.map_cons, List.map_nil, List.cons_append, scan, e]
      rw [if_neg (by omega), if_pos (by omega)]
      simp
    · have hx' : 32 ≤ x := by omega
      have e := idx_letter_all (32 + x % 32) (by omega)
      rw [digs_big _ _ hx']
      have hf' : 0 < f := by
        cases f with
        | zero => simp at h; omega
        | succ f => omega
      have hlt : x / 32 < 32 ^ f := by rw [Nat.pow_succ] at h; omega
      simp only [List.map_cons, List.cons_append, scan, e]
      rw [if_neg (by omega), if_neg (by omega), ih _ hlt hf']
      simp
      omega
theorem val_digs (f x : Nat) (h : x < 32 ^ f) (hf : 0 < f) : val (digs f x) = x := by
  induction f generalizing x with
  | zero => omega
  | succ f ih =>
    by_cases hx : x < 32
    · rw [digs_small _ _ hx]; simp [val]; omega
    · have hx' : 32 ≤ x := by omega
      rw [digs_big _ _ hx']
      have hf' : 0 < f := by
        cases f with
        | zero => simp at h; omega
        | succ f => omega
      have hlt : x / 32 < 32 ^ f := by rw [Nat.pow_succ] at h; omega
      simp only [val, ih _ hlt hf']
      omega
theorem last_digs (f x : Nat) (h : x < 32 ^ f) (hf : 0 < f) (h0 : (digs f x).getLastD 0 = 0) : x = 0 := by
  induction f generalizing x with
  | zero => omega
  | succ f ih =>
    by_cases hx : x < 32
    · rw [digs_small _ _ hx] at h0; simpa using h0
    · have hx' : 32 ≤ x := by omega
      rw [digs_big _ _ hx'] at h0
      have hf' : 0 < f := by
        cases f with
        | zero => simp at h; omega
        | succ f => omega
      have hlt : x / 32 < 32 ^ f := by rw [Nat.pow_succ] at h; omega
      have hne : digs f (x / 32) ≠ [] := by
        obtain ⟨g, rfl⟩ : ∃ g, f = g + 1 := ⟨f - 1, by omega⟩
        intro hn
        have := digs_pos g (x / 32)
        rw [hn] at this
        simp at this
      have : (digs f (x / 32)).getLastD 0 = 0 := by
        cases hd : digs f (x / 32) with
        | nil => exact absurd hd hne
        | cons a l => rw [hd] at h0; simpa using h0
      have := ih _ hlt hf' this
      omega
theorem unzig_zig (n : Int) : unzig (zig n) = n := by
  unfold unzig zig
  split <;> split <;> omega
theorem zig_one (n : Int) : zig n ≠ 1 := by unfold zig; split <;> omega
theorem zig_half (n : Int) (h1 : -1099511627776 ≤ n) (h2 : n ≤ 1099511627776) : zig n / 2 ≤ 1099511627776 := by unfold zig; split <;> omega
theorem get_text (n : Int) (h1 : -1099511627776 ≤ n) (h2 : n ≤ 1099511627776) (r : List UInt8) : get (text n ++ r) = some (n, (text n).length) := by
  have hz := zig_lt n h1 h2
  have hv := val_digs 9 (zig n) hz (by omega)
  unfold get text
  rw [scan_digs 9 (zig n) r hz (by omega)]
  have hf : fine (digs 9 (zig n)) = true := by
    unfold fine
    rw [hv]
    have a := zig_one n
    have b := zig_half n h1 h2
    by_cases hl : (digs 9 (zig n)).getLastD 0 = 0
    · have z := last_digs 9 (zig n) hz (by omega) hl
      rw [z]
      decide
    · simp [a, b]
      left
      simpa using hl
  simp only [hf, if_true, hv, unzig_zig, List.length_map]
theorem text_inj (a b : Int) (a1 : -1099511627776 ≤ a) (a2 : a ≤ 1099511627776) (b1 : -1099511627776 ≤ b) (b2 : b ≤ 1099511627776) (r : List UInt8) (h : text b = text a ++ r) : a = b := by
  have ha := get_text a a1 a2 r
  have hb := get_text b b1 b2 []
  rw [List.append_nil, h, ha] at hb
  simp at hb
  exact hb.1
theorem scan_cut (f g x : Nat) : scan g ((digs f x).dropLast.map letter) = none := by
  induction f generalizing g x with
  | zero => cases g <;> simp [digs, scan]
  | succ f ih =>
    by_cases hx : x < 32
    · rw [digs_small _ _ hx]; cases g <;> simp [scan]
    · have hx' : 32 ≤ x := by omega
      rw [digs_big _ _ hx']
      cases hd : digs f (x / 32) with
      | nil => cases g <;> simp [scan]
      | cons a l =>
        rw [List.dropLast_cons_of_ne_nil (by simp), ← hd]
        cases g with
        | zero => simp [scan]
        | succ g =>
          have e := idx_letter_all (32 + x % 32) (by omega)
          simp only [List.map_cons, scan, e, ih]
          rw [if_neg (by omega), if_neg (by omega)]
          rfl
theorem get_cut (n : Int) : get ((text n).take ((text n).length - 1)) = none := by
  have : (text n).take ((text n).length - 1) = (digs 9 (zig n)).dropLast.map letter := by
    unfold text; rw [← List.dropLast_eq_take, List.map_dropLast]
  unfold get
  rw [this, scan_cut]

/-- How many digits are left of y. -/
def cnt (f y : Nat) : Nat := if y = 0 then 0 else (digs f y).length
def Cnt (N f y want : Nat) : Prop := y < 32 ^ f ∧ f ≤ 8 ∧ want + f ≤ 9 ∧ want + cnt f y = N
theorem cnt_step {N f y want : Nat} (h : Cnt N f y want) (hy : 0 < y) : ∃ g, Cnt N g (y / 32) (want + 1) := by
  obtain ⟨h1, h2, h3, h4⟩ := h
  cases f with
  | zero => simp at h1; omega
  | succ g =>
    refine ⟨g, by rw [Nat.pow_succ] at h1; omega, by omega, by omega, ?_⟩
    unfold cnt at *
    rw [if_neg (by omega)] at h4
    by_cases hx : y < 32
    · rw [digs_small _ _ hx] at h4
      rw [if_pos (by omega)]
      simpa using h4
    · rw [digs_big _ _ (by omega)] at h4
      rw [if_neg (by omega)]
      simp at h4
      omega
theorem cnt_stop {N f want : Nat} (h : Cnt N f 0 want) : want = N := by
  have := h.2.2.2
  simpa [cnt] using this
theorem cnt_start (n : Int) (h1 : -1099511627776 ≤ n) (h2 : n ≤ 1099511627776) : Cnt (text n).length 8 (n.natAbs / 16) 1 := by
  have e : n.natAbs / 16 = zig n / 32 := by unfold zig; split <;> omega
  have hz := zig_lt n h1 h2
  refine ⟨by rw [e]; omega, by omega, by omega, ?_⟩
  rw [e]
  unfold cnt text
  rw [List.length_map]
  by_cases hx : zig n < 32
  · rw [digs_small _ _ hx, if_pos (by omega)]
    simp
  · rw [digs_big 8 (zig n) (by omega), if_neg (by omega)]
    simp
    omega
end Go.Proofs.YtpfbhdkljcjhlaaDoor.V
