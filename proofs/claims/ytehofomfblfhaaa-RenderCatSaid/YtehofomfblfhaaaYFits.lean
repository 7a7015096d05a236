/- Layouts: the documents of RenderFits and RenderHard, plain. -/
import Derived.Test.YtehofomfblfhaaaYLaw
import Derived.Lib.RuneCountTail
import Derived.Shelf.Spec.RuneCount
namespace Go.Proofs.Ytehofomfblfhaaa
open Go.RowKit
set_option linter.unusedVariables false
set_option linter.unusedSimpArgs false

theorem wd_ascii (l : List UInt8) (h : ∀ c ∈ l, c.toNat < 128) : wd (bytes l) = l.length := by
  unfold wd
  rw [Lib.runeCount_split (bytes l) l.length (by rw [bytes_size]; exact Nat.le_refl _) ?_]
  · rw [bytes_size]
    have e : Lib.runeCount ((bytes l).extract l.length l.length) ≤ ((bytes l).extract l.length l.length).size := Lib.runeCount_le _
    rw [ByteArray.size_extract, bytes_size] at e
    omega
  · intro j hj
    have hp : j < (bytes l).data.size := by simpa [bytes] using hj
    have e : (bytes l).get! j = (bytes l).data[j]'hp := getElem!_pos (bytes l).data j hp
    rw [e]
    exact h _ (by simp [bytes])
def fitL (k : Int) : Nat → List Nat → Fo
  | _, [] => .nil
  | i, t :: ts => .cons k 0 ⟨#[]⟩ .nil (.cons 1 (i : Int) (bytes (List.replicate t 120)) .nil (fitL k (i + 1) ts))
def fitA (k : Int) : List Nat → Fo
  | [] => .nil
  | t :: ts => .cons 1 0 (bytes (List.replicate t 120)) .nil (fitL k 1 ts)
def gapK (k : Int) : List UInt8 := if k = 2 then [32] else []
def flT (k : Int) (ts : List Nat) : List UInt8 := ts.flatMap fun t => gapK k ++ List.replicate t 120
def brT (n : Nat) (ts : List Nat) : List UInt8 := ts.flatMap fun t => 10 :: List.replicate n 32 ++ List.replicate t 120
theorem flatF_fitL (k : Int) (hk : k = 2 ∨ k = 3) (ts : List Nat) : ∀ i, flatF (fitL k i ts) = (flT k ts, true) := by
  induction ts with
  | nil => intro i; rfl
  | cons t ts ih =>
    intro i
    have h0 : flatD k ⟨#[]⟩ .nil = (gapK k, true) := by
      rcases hk with rfl | rfl <;> rfl
    have h1 : flatD 1 (bytes (List.replicate t 120)) .nil = (List.replicate t 120, true) := by
      unfold flatD; rw [if_pos rfl, bytes_list]
    show flatF (.cons k 0 ⟨#[]⟩ .nil (.cons 1 (i : Int) (bytes (List.replicate t 120)) .nil (fitL k (i + 1) ts))) = _
    rw [flatF_cons, h0, if_pos rfl, flatF_cons, h1, if_pos rfl, ih (i + 1)]
    simp [flT]
theorem flatF_fitA (k : Int) (hk : k = 2 ∨ k = 3) (t : Nat) (ts : List Nat) : flatF (fitA k (t :: ts)) = (List.replicate t 120 ++ flT k ts, true) := by
  have h1 : flatD 1 (bytes (List.replicate t 120)) .nil = (List.replicate t 120, true) := by
    unfold flatD; rw [if_pos rfl, bytes_list]
  show flatF (.cons 1 0 (bytes (List.replicate t 120)) .nil (fitL k 1 ts)) = _
  rw [flatF_cons, h1, if_pos rfl, flatF_fitL k hk ts]
theorem ptext_cons (a : Pc) (l : List Pc) : ptext (a :: l) = a.1.data.toList ++ ptext l := by unfold ptext; rw [List.flatMap_cons]
theorem ptext_word (l : List UInt8) (f : Int) : ptext (if bytes l = ⟨#[]⟩ then [] else [(bytes l, f)]) = l := by
  by_cases h : bytes l = ⟨#[]⟩
  · rw [if_pos h]
    have := congrArg (fun x => x.data.toList) h
    simp only [bytes_list] at this
    rw [this]; rfl
  · rw [if_neg h, ptext_cons, bytes_list]
    simp [ptext]
theorem flatP_fitL (k : Int) (hk : k = 2 ∨ k = 3) (ts : List Nat) : ∀ i, ptext (flatP (fitL k i ts)) = flT k ts := by
  induction ts with
  | nil => intro i; rfl
  | cons t ts ih =>
    intro i
    show ptext (flatP (.cons k 0 ⟨#[]⟩ .nil (.cons 1 (i : Int) (bytes (List.replicate t 120)) .nil (fitL k (i + 1) ts)))) = _
    have h0 : ptext (if k = 1 then (if (⟨#[]⟩ : ByteArray) = ⟨#[]⟩ then [] else [((⟨#[]⟩ : ByteArray), (0 : Int))]) else if k = 2 ∨ k = 3 ∨ k = 4 then (if k = 2 then [spc] else []) else flatP .nil) = gapK k := by
      rcases hk with rfl | rfl <;> rfl
    simp only [flatP] at h0 ⊢
    rw [ptext_append, ptext_append, h0, if_pos trivial, ptext_word, ih (i + 1)]
    simp [flT]
theorem flatP_fitA (k : Int) (hk : k = 2 ∨ k = 3) (t : Nat) (ts : List Nat) : ptext (flatP (fitA k (t :: ts))) = List.replicate t 120 ++ flT k ts := by
  show ptext (flatP (.cons 1 0 (bytes (List.replicate t 120)) .nil (fitL k 1 ts))) = _
  simp only [flatP]
  rw [ptext_append, if_pos trivial, ptext_word, flatP_fitL k hk ts]
theorem lay_word (w i : Nat) (l : List UInt8) (f : Int) (lv : Nat) (fl : Bool) (row : List It) (col : Nat) : ∃ c, ptext (lay w i (⟨1, f, bytes l, .nil, lv, fl⟩ :: row) col) = l ++ ptext (lay w i row c) := by
  by_cases h : bytes l = ⟨#[]⟩
  · refine ⟨col, ?_⟩
    rw [lay_cons, if_pos rfl, if_pos h]
    have := congrArg (fun x => x.data.toList) h
    simp only [bytes_list] at this
    rw [this]; rfl
  · refine ⟨col + wd (bytes l), ?_⟩
    rw [lay_text _ _ _ _ _ _ _ _ h, ptext_cons, bytes_list]
theorem ptext_brk (n : Nat) (l : List Pc) : ptext (brk n :: l) = 10 :: List.replicate n 32 ++ ptext l := by
  rw [ptext_cons]
  unfold brk
  rw [bytes_list]
theorem lay_fitL (w ind : Nat) (k : Int) (hk : k = 2 ∨ k = 3) (lv : Nat) (ts : List Nat) : ∀ i col, ptext (lay w ind (items lv false (fitL k i ts)) col) = brT (lv * ind) ts := by
  induction ts with
  | nil => intro i col; show ptext (lay w ind [] col) = []; rw [lay_nil]; rfl
  | cons t ts ih =>
    intro i col
    show ptext (lay w ind (⟨k, 0, ⟨#[]⟩, .nil, lv, false⟩ :: ⟨1, (i : Int), bytes (List.replicate t 120), .nil, lv, false⟩ :: items lv false (fitL k (i + 1) ts)) col) = _
    rw [lay_brk _ _ _ (by omega), ptext_brk]
    obtain ⟨c, e⟩ := lay_word w ind (List.replicate t 120) (i : Int) lv false (items lv false (fitL k (i + 1) ts)) (lv * ind)
    rw [e, ih (i + 1) c]
    simp [brT]
theorem flT_ascii (k : Int) (ts : List Nat) : ∀ c ∈ flT k ts, c.toNat < 128 := by
  intro c hc
  unfold flT at hc
  obtain ⟨t, _, h⟩ := List.mem_flatMap.1 hc
  rcases List.mem_append.1 h with h | h
  · unfold gapK at h
    split at h
    · rw [List.mem_singleton.1 h]; decide
    · exact absurd h (by simp)
  · rw [(List.mem_replicate.1 h).2]; decide
/-- RenderFits, plain. -/
theorem fits_plain (w ind : Nat) (k : Int) (hk : k = 2 ∨ k = 3) (t : Nat) (ts : List Nat) : ptext (layD w ind 6 0 ⟨#[]⟩ (Fo.one 7 0 ⟨#[]⟩ (fitA k (t :: ts)))) = if (List.replicate t 120 ++ flT k ts).length ≤ w then List.replicate t 120 ++ flT k ts else List.replicate t 120 ++ brT ind ts := by
  have hF := flatF_fitA k hk t ts
  have h7 : flatD 7 ⟨#[]⟩ (fitA k (t :: ts)) = flatF (fitA k (t :: ts)) := by unfold flatD; simp
  have h1 : flatF (Fo.one 7 0 ⟨#[]⟩ (fitA k (t :: ts))) = (List.replicate t 120 ++ flT k ts, true) := by
    rw [flatF_one _ _ _ _ (by rw [h7, hF]), h7, hF]
  have hwd : wd (bytes (List.replicate t 120 ++ flT k ts)) = (List.replicate t 120 ++ flT k ts).length := by
    apply wd_ascii
    intro c hc
    rcases List.mem_append.1 hc with h | h
    · rw [(List.mem_replicate.1 h).2]; decide
    · exact flT_ascii k ts c h
  unfold layD
  by_cases h : (List.replicate t 120 ++ flT k ts).length ≤ w
  · rw [if_pos h, group_fits w ind _ 0 (by rw [h1]) (by rw [h1]; simp only; rw [hwd]; exact h)]
    show ptext (flatP (Fo.one 7 0 ⟨#[]⟩ (fitA k (t :: ts)))) = _
    have e : flatP (Fo.one 7 0 ⟨#[]⟩ (fitA k (t :: ts))) = flatP (fitA k (t :: ts)) := by
      simp [Fo.one, flatP]
    rw [e, flatP_fitA k hk]
  · rw [if_neg h, group_breaks w ind _ 0 (by rw [h1]; simp only; rw [hwd]; exact fun e => h e.2)]
    show ptext (lay w ind (⟨7, 0, ⟨#[]⟩, fitA k (t :: ts), 0, false⟩ :: []) 0) = _
    rw [nest_is, List.append_nil]
    show ptext (lay w ind (⟨1, 0, bytes (List.replicate t 120), .nil, 0 + 1, false⟩ :: items (0 + 1) false (fitL k 1 ts)) 0) = _
    obtain ⟨c, e⟩ := lay_word w ind (List.replicate t 120) 0 (0 + 1) false (items (0 + 1) false (fitL k 1 ts)) 0
    rw [e, lay_fitL w ind k hk (0 + 1) ts 1 c]
    simp
end Go.Proofs.Ytehofomfblfhaaa
