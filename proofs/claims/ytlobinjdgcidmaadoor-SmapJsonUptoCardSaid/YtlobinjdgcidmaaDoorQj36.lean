/- Texts of ours in one: ZRa. -/
import Derived.Test.YtlobinjdgcidmaaDoorQj33
import Derived.Test.YtlobinjdgcidmaaDoorQj35
/- The page's reader of JSON: value, of any tokens. -/
namespace Go.Proofs.YtlobinjdgcidmaaDoor
open Go.RowKit
set_option linter.unusedVariables false
set_option linter.unusedSimpArgs false

theorem rdp_len {w0 w : World} {bv lv : Value} {l : List UInt8} {all ts : M.Toks} (x : RdP w0 bv lv l all w (.ok ts)) : ts.length ≤ 20000 := by
  obtain ⟨n, h, e⟩ := x
  have := h.la
  rw [← e, List.length_drop]; omega
theorem rdval_all (w0 : World) (bv lv : Value) (l : List UInt8) (all : M.Toks) (hT : TkIn l all) (N : Nat) : ∀ {w : World} {st : Rst} {g deep : Nat} {D : Int}, (deep : Int) = D → deep ≤ 1000 → stL st ≤ N → 2 * stL st + 1 ≤ g → RdP w0 bv lv l all w st →
    Calls Tryd.prog 19 #[ptrP w0, .int .i64 D] w (RvQ w0 bv lv l all (valR l g deep st).1 (valR l g deep st).2.1 (valR l g deep st).2.2 w) := by
  have none : ∀ {w : World} {st : Rst} {g deep : Nat} {D : Int}, NoTok st → RdP w0 bv lv l all w st → Calls Tryd.prog 19 #[ptrP w0, .int .i64 D] w (RvQ w0 bv lv l all (valR l g deep st).1 (valR l g deep st).2.1 (valR l g deep st).2.2 w) := by
    intro w st g deep D hn x
    rw [valR_none hn]
    exact rdval_none D x hn
  induction N with
  | zero =>
    intro w st g deep D hD hd hs hg x
    refine none ?_ x
    cases st with
    | error q => trivial
    | ok ts => exact List.eq_nil_of_length_eq_zero (Nat.le_zero.1 hs)
  | succ N ih =>
    intro w st g deep D hD hd hs hg x
    cases st with
    | error q => exact none trivial x
    | ok ts =>
      cases ts with
      | nil => exact none rfl x
      | cons t r =>
        obtain ⟨k, fr, te⟩ := t
        have hlen : stL (.ok ((k, fr, te) :: r)) = r.length + 1 := rfl
        have hl := rdp_len x
        simp only [List.length_cons] at hl
        obtain ⟨g, rfl⟩ : ∃ q, g = q + 1 := ⟨g - 1, by omega⟩
        by_cases k7 : k = 7
        · subst k7
          rw [show valR l (g + 1) deep (.ok ((7, fr, te) :: r)) = ((textR l (.ok ((7, fr, te) :: r))).1, .nil, (textR l (.ok ((7, fr, te) :: r))).2) by simp [valR, textR, takeP]]
          exact rdval_text D x hT (by simp [isR, kindP])
        by_cases k8 : k = 8
        · subst k8
          rw [show valR l (g + 1) deep (.ok ((8, fr, te) :: r)) = (numbV l (8, fr, te), .nil, .ok r) by simp [valR]]
          exact rdval_num D (fun l r ok w a b => refread_any l r ok w a b) x hT
        by_cases k9 : k = 9
        · subst k9
          rw [show valR l (g + 1) deep (.ok ((9, fr, te) :: r)) = (leafP 5 fr, .nil, .ok r) by simp [valR]]
          exact rdval_w9 D x hT
        by_cases k10 : k = 10
        · subst k10
          rw [show valR l (g + 1) deep (.ok ((10, fr, te) :: r)) = (leafP 6 fr, .nil, .ok r) by simp [valR]]
          exact rdval_w10 D x hT
        by_cases k11 : k = 11
        · subst k11
          rw [show valR l (g + 1) deep (.ok ((11, fr, te) :: r)) = (leafP 7 fr, .nil, .ok r) by simp [valR]]
          exact rdval_w11 D x hT
        by_cases k1 : k = 1
        · subst k1
          cases deep with
          | zero =>
            rw [show valR l (g + 1) 0 (.ok ((1, fr, te) :: r)) = (noV, .nil, .error (4, (fr : Int))) by simp [valR]]
            exact rdval_deep1 D (by omega) x hT
          | succ d => exact rdval_list1 g d D (by omega) (by omega) (by omega) (fun g d E st V a b c e y => ih a b (by omega) e y) x hT
        by_cases k3 : k = 3
        · subst k3
          cases deep with
          | zero =>
            rw [show valR l (g + 1) 0 (.ok ((3, fr, te) :: r)) = (noV, .nil, .error (4, (fr : Int))) by simp [valR]]
            exact rdval_deep3 D (by omega) x hT
          | succ d => exact rdval_list3 g d D (by omega) (by omega) (by omega) (fun g d E st V a b c e y => ih a b (by omega) e y) x hT
        rw [show valR l (g + 1) deep (.ok ((k, fr, te) :: r)) = (noV, .nil, .error (3, (fr : Int))) by simp [valR, k7, k8, k9, k10, k11, k1, k3, synP, atP]]
        exact rdval_bad D k ⟨k7, k8, k9, k10, k11, k1, k3⟩ x hT
end Go.Proofs.YtlobinjdgcidmaaDoor
