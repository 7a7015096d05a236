/- Plain numbers and lists: a name is read as it was written. Nothing of the program is imported. -/
import Derived.Test.YtkaojigdogeliaaDoorEMath
namespace Go.Proofs.YtkaojigdogeliaaDoor.M
open Go.Lib
set_option linter.unusedVariables false
set_option linter.unusedSimpArgs false

theorem dgx_fin : ∀ n : Fin 16, isX (dgx n.val) = true ∧ xv (dgx n.val) = (n.val : Int) ∧ isCP (dgx n.val) = true ∧ 48 ≤ dgx n.val ∧ dgx n.val ≤ 102 ∧ (dgx n.val ≤ 57 ∨ 97 ≤ dgx n.val) := by decide +kernel
theorem dgx_ok (n : Nat) (h : n < 16) : isX (dgx n) = true ∧ xv (dgx n) = (n : Int) ∧ isCP (dgx n) = true ∧ 48 ≤ dgx n ∧ dgx n ≤ 102 ∧ (dgx n ≤ 57 ∨ 97 ≤ dgx n) := dgx_fin ⟨n, h⟩
theorem okX_self (x : Int) (h : isCP x = true) (h0 : x ≠ 0) : okX x = x := by
  rw [isCP_iff] at h
  unfold okX
  rw [if_neg]; omega
theorem hexRun_stop (n : Nat) (r : Int) (t : List Int) (h : isX r = false) : hexRun n (r :: t) = [] := by
  cases n with
  | zero => rfl
  | succ n => simp [hexRun, h]
theorem hexRun_go (n : Nat) (r : Int) (t : List Int) (h : isX r = true) : hexRun (n + 1) (r :: t) = r :: hexRun n t := by simp [hexRun, h]
theorem escV_num (r : Int) (h1 : 1 ≤ r) (h2 : r < 128) (t : List Int) : escV (hexd r ++ 32 :: t) = (r, (hexd r).length + 1) := by
  have hcp : isCP r = true := by rw [isCP_iff]; omega
  by_cases h : r < 16
  · obtain ⟨a, b, _⟩ := dgx_ok r.toNat (by omega)
    have e : hexd r = [dgx r.toNat] := by unfold hexd; rw [if_pos h]
    rw [e]
    simp only [List.singleton_append, escV, a, if_true, hexRun_go 5 _ _ a, hexRun_stop 5 32 t (by decide)]
    have : hexVal [dgx r.toNat] = r := by simp only [hexVal, List.foldl_cons, List.foldl_nil, b]; omega
    rw [this, okX_self r hcp (by omega)]
    simp [isBl]
  · obtain ⟨a, b, _⟩ := dgx_ok (r / 16).toNat (by omega)
    obtain ⟨a2, b2, _⟩ := dgx_ok (r % 16).toNat (by omega)
    have e : hexd r = [dgx (r / 16).toNat, dgx (r % 16).toNat] := by unfold hexd; rw [if_neg h]
    rw [e]
    simp only [List.cons_append, List.nil_append, escV, a, if_true, hexRun_go 5 _ _ a, hexRun_go 4 _ _ a2, hexRun_stop 4 32 t (by decide)]
    have : hexVal [dgx (r / 16).toNat, dgx (r % 16).toNat] = r := by simp only [hexVal, List.foldl_cons, List.foldl_nil, b, b2]; omega
    rw [this, okX_self r hcp (by omega)]
    simp [isBl]
theorem hexd_ok (r : Int) (h1 : 0 ≤ r) (h2 : r < 256) : (∀ c ∈ hexd r, isCP c = true ∧ 48 ≤ c ∧ c ≤ 102 ∧ (c ≤ 57 ∨ 97 ≤ c) ∧ isX c = true) ∧ 1 ≤ (hexd r).length ∧ (hexd r).length ≤ 2 := by
  by_cases h : r < 16
  · obtain ⟨a, b, c, d, e, f⟩ := dgx_ok r.toNat (by omega)
    have e' : hexd r = [dgx r.toNat] := by unfold hexd; rw [if_pos h]
    rw [e']; exact ⟨fun x hx => by obtain rfl := List.mem_singleton.1 hx; exact ⟨c, d, e, f, a⟩, by simp, by simp⟩
  · obtain ⟨a, b, c, d, e, f⟩ := dgx_ok (r / 16).toNat (by omega)
    obtain ⟨a2, b2, c2, d2, e2, f2⟩ := dgx_ok (r % 16).toNat (by omega)
    have e' : hexd r = [dgx (r / 16).toNat, dgx (r % 16).toNat] := by unfold hexd; rw [if_neg h]
    rw [e']
    refine ⟨fun x hx => ?_, by simp, by simp⟩
    simp only [List.mem_cons, List.mem_nil_iff, or_false] at hx
    rcases hx with rfl | rfl
    · exact ⟨c, d, e, f, a⟩
    · exact ⟨c2, d2, e2, f2, a2⟩
theorem hexd_head (r : Int) (h1 : 0 ≤ r) (h2 : r < 256) : ∃ a u, hexd r = a :: u ∧ isX a = true ∧ a ≠ 10 := by
  have ⟨h, hl, _⟩ := hexd_ok r h1 h2
  cases e : hexd r with
  | nil => rw [e] at hl; simp at hl
  | cons a u =>
    have := h a (by rw [e]; simp)
    exact ⟨a, u, rfl, this.2.2.2.2, by omega⟩
theorem takeN_num (r : Int) (h1 : 1 ≤ r) (h2 : r < 128) (t : List Int) : takeN (numN r ++ t) = (r :: (takeN t).1, (numN r).length + (takeN t).2) := by
  have e : numN r ++ t = 92 :: (hexd r ++ 32 :: t) := by simp [numN]
  obtain ⟨a, u, ea, hx, hn⟩ := hexd_head r (by omega) (by omega)
  have he : esB (92 :: (hexd r ++ 32 :: t)) = true := by rw [ea]; simp [esB, hn]
  rw [e, takeN_esc _ _ he, escV_num r h1 h2]
  have ed : (hexd r ++ 32 :: t).drop ((hexd r).length + 1) = t := by rw [show hexd r ++ 32 :: t = (hexd r ++ [32]) ++ t by simp]; exact List.drop_left' (by simp)
  simp only [ed, numN]
  simp; omega
theorem takeN_sp (r : Int) (h : okP r) (t : List Int) : takeN (sp r ++ t) = (r :: (takeN t).1, (sp r).length + (takeN t).2) := by
  obtain ⟨hc, h1⟩ := h
  unfold sp
  by_cases hn : r < 32 ∨ r = 127
  · rw [if_pos hn]; exact takeN_num r h1 (by omega) t
  · rw [if_neg hn]
    by_cases hi : nIn r = true
    · rw [if_pos hi]; exact takeN_in r t hi
    · rw [if_neg hi]
      have hi' : nIn r = false := by simpa using hi
      rw [nIn_not] at hi'
      have hx : isX r = false := by rw [isX_not]; omega
      have he : esB (92 :: r :: t) = true := by simp [esB]; omega
      show takeN (92 :: r :: t) = _
      rw [takeN_esc _ _ he]
      simp [escV, hx]
theorem takeN_spR (l : List Int) (h : ∀ r ∈ l, okP r) (t : List Int) : takeN (spR l ++ t) = (l ++ (takeN t).1, (spR l).length + (takeN t).2) := by
  induction l with
  | nil => simp [spR]
  | cons a l ih =>
    have e : spR (a :: l) ++ t = sp a ++ (spR l ++ t) := by simp [spR]
    rw [e, takeN_sp a (h a (by simp)), ih (fun r hr => h r (by simp [hr]))]
    simp [spR]; omega
theorem dg_num (a : Int) (h : nDg a = true) : 1 ≤ a ∧ a < 128 := by rw [nDg_iff] at h; omega
theorem takeN_spF (l : List Int) (h : ∀ r ∈ l, okP r) (t : List Int) : takeN (spF l ++ t) = (l ++ (takeN t).1, (spF l).length + (takeN t).2) := by
  unfold spF
  split
  · simp
  · rename_i a l
    split
    · rename_i hd
      have hd2 := dg_num a hd
      rw [List.append_assoc, takeN_num a hd2.1 hd2.2, takeN_spR l (fun r hr => h r (by simp [hr]))]
      simp; omega
    · split
      · rename_i h45
        subst h45
        split
        · have he : esB (92 :: 45 :: t) = true := by simp [esB]
          show takeN (92 :: 45 :: t) = _
          rw [takeN_esc _ _ he]
          simp [escV, isX, nDg]
        · rename_i b u
          split
          · rename_i hd
            have hd2 := dg_num b hd
            rw [List.cons_append, List.cons_append, takeN_in 45 _ (by decide), List.append_assoc, takeN_num b hd2.1 hd2.2, takeN_spR u (fun r hr => h r (by simp [hr]))]
            simp; omega
          · rw [List.cons_append, takeN_in 45 _ (by decide), takeN_spR (b :: u) (fun r hr => h r (by simp at hr ⊢; exact .inr hr))]
            simp; omega
      · exact takeN_spR (a :: l) h t
theorem esB_num (r : Int) (h1 : 0 ≤ r) (h2 : r < 256) (t : List Int) : esB (numN r ++ t) = true := by
  obtain ⟨a, u, ea, hx, hn⟩ := hexd_head r h1 h2
  simp [numN, ea, esB, hn]
theorem begN_num (r : Int) (h1 : 0 ≤ r) (h2 : r < 256) (t : List Int) : begN (numN r ++ t) = true := by
  have := esB_num r h1 h2 t
  have e : numN r ++ t = 92 :: (hexd r ++ [32] ++ t) := by simp [numN]
  rw [e] at this ⊢
  simp only [begN, this, Bool.or_true, ite_self]
  simp
theorem sp_head (b : Int) (h : okP b) (t : List Int) : ∃ c u, sp b ++ t = c :: u ∧ ((c = b ∧ nIn b = true) ∨ (c = 92 ∧ esB (c :: u) = true)) := by
  obtain ⟨hc, h1⟩ := h
  unfold sp
  by_cases hn : b < 32 ∨ b = 127
  · rw [if_pos hn]
    have := esB_num b (by omega) (by omega) t
    exact ⟨92, hexd b ++ [32] ++ t, by simp [numN], .inr ⟨rfl, by simpa [numN] using this⟩⟩
  · rw [if_neg hn]
    by_cases hi : nIn b = true
    · rw [if_pos hi]; exact ⟨b, t, rfl, .inl ⟨rfl, hi⟩⟩
    · rw [if_neg hi]; exact ⟨92, b :: t, rfl, .inr ⟨rfl, by simp [esB]; omega⟩⟩
theorem begN_spF (l : List Int) (h : ∀ r ∈ l, okP r) (h0 : l ≠ []) (t : List Int) : begN (spF l ++ t) = true := by
  unfold spF
  split
  · exact absurd rfl h0
  · rename_i a l
    split
    · rename_i hd
      have hd2 := dg_num a hd
      rw [List.append_assoc]; exact begN_num a (by omega) (by omega) _
    · rename_i hnd
      split
      · rename_i h45
        subst h45
        split
        · simp [begN, esB]
        · rename_i b u
          split
          · rename_i hd
            have hd2 := dg_num b hd
            have e : (45 :: numN b ++ spR u) ++ t = 45 :: (numN b ++ (spR u ++ t)) := by simp
            rw [e]
            have := esB_num b (by omega) (by omega) (spR u ++ t)
            simp [begN, this]
          · rename_i hnb
            obtain ⟨c, v, e, hcc⟩ := sp_head b (h b (by simp)) (spR u ++ t)
            have e2 : (45 :: spR (b :: u)) ++ t = 45 :: (c :: v) := by rw [← e]; simp [spR]
            rw [e2]
            rcases hcc with ⟨rfl, hi⟩ | ⟨rfl, he⟩
            · have hnd : nDg c = false := by simpa using hnb
              unfold nIn at hi
              rw [hnd] at hi
              simp at hi
              simp only [begN, if_true, List.getD_cons_zero]
              rcases hi with hi | hi
              · simp [hi]
              · simp [hi]
            · simp only [begN, if_true, he, Bool.or_true]
      · rename_i hn45
        obtain ⟨c, v, e, hcc⟩ := sp_head a (h a (by simp)) (spR l ++ t)
        have e2 : spR (a :: l) ++ t = c :: v := by rw [← e]; simp [spR]
        rw [e2]
        rcases hcc with ⟨rfl, hi⟩ | ⟨rfl, he⟩
        · have hnd2 : nDg c = false := by simpa using hnd
          unfold nIn at hi
          rw [hnd2] at hi
          simp [hn45] at hi
          simp [begN, hn45, hi]
        · simp [begN, he]

instance (r : Int) : Decidable (Okr r) := by unfold Okr; infer_instance
/-- What is written has no byte 0, 12, 13 of its own. -/
theorem numN_okr (r : Int) (h1 : 0 ≤ r) (h2 : r < 256) : ∀ c ∈ numN r, Okr c := by
  intro c hc
  unfold numN at hc
  simp only [List.cons_append, List.mem_cons, List.mem_append, List.mem_nil_iff, or_false] at hc
  rcases hc with rfl | hc | rfl
  · decide
  · have := (hexd_ok r h1 h2).1 c hc
    exact ⟨this.1, by omega, by omega, by omega⟩
  · decide
theorem sp_okr (r : Int) (h : okP r) : ∀ c ∈ sp r, Okr c := by
  obtain ⟨hc, h1⟩ := h
  intro c hm
  unfold sp at hm
  split at hm
  · rename_i hn; exact numN_okr r (by omega) (by omega) c hm
  · split at hm
    · obtain rfl := List.mem_singleton.1 hm; exact ⟨hc, by omega, by omega, by omega⟩
    · simp only [List.mem_cons, List.mem_nil_iff, or_false] at hm
      rcases hm with rfl | rfl
      · decide
      · exact ⟨hc, by omega, by omega, by omega⟩
theorem spR_okr (l : List Int) (h : ∀ r ∈ l, okP r) : ∀ c ∈ spR l, Okr c := by
  intro c hc
  obtain ⟨r, hr, hc⟩ := List.mem_flatMap.1 hc
  exact sp_okr r (h r hr) c hc
theorem spF_okr (l : List Int) (h : ∀ r ∈ l, okP r) : ∀ c ∈ spF l, Okr c := by
  intro c hc
  unfold spF at hc
  split at hc
  · simp at hc
  · rename_i a l
    split at hc
    · rename_i hd
      have hd2 := dg_num a hd
      rcases List.mem_append.1 hc with hc | hc
      · exact numN_okr a (by omega) (by omega) c hc
      · exact spR_okr l (fun r hr => h r (by simp [hr])) c hc
    · split at hc
      · split at hc
        · simp at hc; rcases hc with rfl | rfl <;> decide
        · rename_i b u
          split at hc
          · rename_i hd
            have hd2 := dg_num b hd
            simp only [List.cons_append, List.mem_cons, List.mem_append] at hc
            rcases hc with rfl | hc | hc
            · decide
            · exact numN_okr b (by omega) (by omega) c hc
            · exact spR_okr u (fun r hr => h r (by simp [hr])) c hc
          · rcases List.mem_cons.1 hc with rfl | hc
            · decide
            · exact spR_okr (b :: u) (fun r hr => h r (by simp at hr ⊢; exact .inr hr)) c hc
      · exact spR_okr (a :: l) h c hc
/-- The code points of what is written. -/
theorem rn_encZs (l : List Int) (h : ∀ r ∈ l, Okr r) : (rn (encZs l) 0).map Prod.fst = l := by
  have := rn_enc (l.map fun r => (r, (0 : Int))) (by intro r hr; obtain ⟨x, hx, rfl⟩ := List.mem_map.1 hr; exact h x hx) []
  simp only [List.nil_append, List.length_nil, List.map_map] at this
  have e : encR (l.map fun r => (r, (0 : Int))) = encZs l := by simp [encR, encZs, List.flatMap_map]
  rw [e] at this
  rw [this]
  show l.map (fun r => r) = l
  simp
/-- What may stand behind a name. -/
def endB (k : Nat) : List Int := if k = 0 then [] else if k = 1 then [40] else if k = 2 then [41] else if k = 3 then [123] else if k = 4 then [59] else if k = 5 then [58] else if k = 6 then [44] else if k = 7 then [34] else if k = 8 then [62] else [32]
theorem endB_fin : ∀ k : Fin 10, (∀ c ∈ endB k.val, Okr c) := by decide +kernel
theorem takeN_end (k : Nat) (h : k < 10) : takeN (endB k) = ([], 0) := by
  have : ∀ c ∈ endB k, nIn c = false ∧ c ≠ 92 := by
    have : ∀ k : Fin 10, ∀ c ∈ endB k.val, nIn c = false ∧ c ≠ 92 := by decide +kernel
    exact this ⟨k, h⟩
  cases e : endB k with
  | nil => exact takeN_nil
  | cons c t =>
    have := this c (by rw [e]; simp)
    exact takeN_out c t (by simp [esB, this.2]) this.1
end Go.Proofs.YtkaojigdogeliaaDoor.M
