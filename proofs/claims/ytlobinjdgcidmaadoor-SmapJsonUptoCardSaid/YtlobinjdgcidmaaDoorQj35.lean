/- Texts of ours in one: NRNum. -/
import Derived.Test.YtlobinjdgcidmaaDoorQj34
/- Numbers: the reference's ReadNum. -/
namespace Go.Proofs.YtlobinjdgcidmaaDoor
open Go.RowKit
set_option linter.unusedVariables false
set_option linter.unusedSimpArgs false

theorem at_ways (l : List UInt8) (k : Nat) (hk : k ≤ l.length) : (k = l.length ∧ l.drop k = []) ∨ ∃ (h : k < l.length) (t : List UInt8), l.drop k = l[k] :: t ∧ t = l.drop (k + 1) := by
  rcases Nat.lt_or_ge k l.length with h | h
  · right; exact ⟨h, l.drop (k + 1), List.drop_eq_getElem_cons h, rfl⟩
  · left; exact ⟨by omega, List.drop_eq_nil_of_le h⟩
theorem beqn (c : UInt8) (n : UInt8) (b : Bool) (h : (c == n) = b) : ((c.toNat : Int) == (n.toNat : Int)) = b := by
  rw [← h, Bool.eq_iff_iff, beq_iff_eq, beq_iff_eq]
  constructor
  · intro h1; apply UInt8.toNat_inj.1; omega
  · intro h1; rw [h1]
theorem two_end {w W : World} {ng : Bool} (h : Two w ng W) (c0 c1 c2 : Value) : Below w.heap.size w (((W.setCell ⟨w.heap.size, 0, none⟩ c0).setCell ⟨w.heap.size, 1, none⟩ c1).setCell ⟨w.heap.size, 2, none⟩ c2) :=
  ((h.2.2.2.2.2.setCell (by simp) _).setCell (by simp) _).setCell (by simp) _
theorem txt_len9 (z : Int) (h1 : -2000000 ≤ z) (h2 : z ≤ 2000000) : (M.txt z).length ≤ 10 := by
  have := M.txt_len z 9 (by omega) (by omega); omega
theorem two_dig {w W W5 : World} {ng : Bool} (v : Value) (h : Two w ng W) (hb : Below (W.setCell ⟨w.heap.size + 1, 1, none⟩ v).heap.size (W.setCell ⟨w.heap.size + 1, 1, none⟩ v) W5) :
    Box w.heap.size (.bool false) (.string ⟨#[]⟩) (.string ⟨#[]⟩) W5 ∧ Box (w.heap.size + 1) (.bool ng) v (.string ⟨#[]⟩) W5 ∧
    (W5.frozen? ⟨w.heap.size, 0, none⟩ = false ∧ W5.frozen? ⟨w.heap.size, 1, none⟩ = false ∧ W5.frozen? ⟨w.heap.size, 2, none⟩ = false) ∧
    (W5.frozen? ⟨w.heap.size + 1, 0, none⟩ = false ∧ W5.frozen? ⟨w.heap.size + 1, 1, none⟩ = false ∧ W5.frozen? ⟨w.heap.size + 1, 2, none⟩ = false) ∧ Below w.heap.size w W5 := by
  obtain ⟨⟨a0, a1, a2⟩, ⟨b0, b1, b2⟩, ⟨f0, f1, f2⟩, ⟨e0, e1, e2⟩, hz, hbl⟩ := h
  have hsz : (W.setCell ⟨w.heap.size + 1, 1, none⟩ v).heap.size = w.heap.size + 2 := by simp [World.setCell, hz]
  obtain ⟨hc, hf⟩ := bcell hb
  have o : ∀ (n k : Nat), ¬ (n = w.heap.size + 1 ∧ k = 1) → (W.setCell ⟨w.heap.size + 1, 1, none⟩ v).cell? ⟨n, k, none⟩ = W.cell? ⟨n, k, none⟩ := fun n k h => World.cell?_setCell_other _ _ _ _ (by intro e; simp only [Addr.mk.injEq, and_true] at e; exact h ⟨e.1.symm, e.2.symm⟩)
  refine ⟨⟨?_, ?_, ?_⟩, ⟨?_, ?_, ?_⟩, ⟨?_, ?_, ?_⟩, ⟨?_, ?_, ?_⟩, (hbl.setCell (by simp) _).trans (hb.mono (by omega))⟩
  · rw [hc _ _ (by omega), o _ _ (by omega)]; exact a0
  · rw [hc _ _ (by omega), o _ _ (by omega)]; exact a1
  · rw [hc _ _ (by omega), o _ _ (by omega)]; exact a2
  · rw [hc _ _ (by omega), o _ _ (by omega)]; exact b0
  · rw [hc _ _ (by omega), World.cell?_setCell_same' _ _ _ (by rw [b1]; rfl)]
  · rw [hc _ _ (by omega), o _ _ (by omega)]; exact b2
  · rw [hf _ _ (by omega), World.frozen?_setCell]; exact f0
  · rw [hf _ _ (by omega), World.frozen?_setCell]; exact f1
  · rw [hf _ _ (by omega), World.frozen?_setCell]; exact f2
  · rw [hf _ _ (by omega), World.frozen?_setCell]; exact e0
  · rw [hf _ _ (by omega), World.frozen?_setCell]; exact e1
  · rw [hf _ _ (by omega), World.frozen?_setCell]; exact e2
set_option maxRecDepth 100000 in
set_option maxHeartbeats 32000000 in
theorem refread_any (l : List UInt8) (r : M.NumV) (ok : Bool) (w : World) (hl : l.length ≤ 1048576) (hr : M.readN l = (r, ok)) :
    Calls Tryd.prog 43 #[.string (bytes l)] w fun e w' => e = .returned (.tuple #[.agg (numV r), .bool ok]) ∧ Below w.heap.size w w' := by
  obtain ⟨ng, rr, hcs⟩ : ∃ a s, M.csign l = (a, s) := ⟨_, _, rfl⟩
  obtain ⟨i, hi1, hil, rfl, hway⟩ := sign_ways l ng rr hcs
  obtain ⟨S, hS⟩ : ∃ S, bytes l = S := ⟨_, rfl⟩
  obtain ⟨hsz, hget⟩ := get_of l S hS
  have RUN := Lib.hid (fun (i r : Nat) (w : World) (h1 : i ≤ l.length) (h2 : i + (M.dg (l.drop i)).length = r) => runn_any l i r w (by omega) h1 h2)
  have EXT := Lib.hid (fun (a b : Nat) (h : a ≤ b) => ext_b l a b)
  rw [hS] at RUN EXT ⊢
  -- the digits
  obtain ⟨W, hW⟩ : ∃ W, M.dg (l.drop i) = W := ⟨_, rfl⟩
  obtain ⟨K1, hK1⟩ : ∃ K, i + W.length = K := ⟨_, rfl⟩
  have hWd := M.dg_dig (l.drop i)
  have hWl := dg_len (l.drop i) W hW
  rw [List.length_drop] at hWl
  have hK1l : K1 ≤ l.length := by omega
  have hrs : M.rs (l.drop i) = l.drop K1 := by rw [← (dg_take (l.drop i)).2, hW, List.drop_drop, hK1]
  rw [hW] at hWd
  have R1 := Lib.hid (fun w => RUN.out i K1 w hil (by rw [hW]; exact hK1))
  have x1 : S.extract i K1 = bytes W := by
    rw [EXT.out i K1 (by omega), ← hW, ← (dg_take (l.drop i)).1, hW, show K1 - i = W.length by omega]
  -- the point
  obtain ⟨db, hdb⟩ : ∃ b, ((l.drop K1).head? == some 46) = b := ⟨_, rfl⟩
  obtain ⟨F, hF⟩ : ∃ F, (if db then M.dg (l.drop (K1 + 1)) else []) = F := ⟨_, rfl⟩
  obtain ⟨k2, hk2⟩ : ∃ k, (if db then K1 + 1 + F.length else K1) = k := ⟨_, rfl⟩
  have hdbl : db = true → K1 + 1 ≤ l.length := fun h => by
    rw [h, beq_iff_eq] at hdb
    rcases at_ways l K1 hK1l with ⟨_, e⟩ | ⟨h, _⟩
    · rw [e] at hdb; simp at hdb
    · omega
  have hFd : ∀ c ∈ F, M.dig c = true := by
    rw [← hF]; split
    · exact M.dg_dig _
    · simp
  have hk2l : k2 ≤ l.length ∧ K1 ≤ k2 := by
    rw [← hk2]
    by_cases h : db = true
    · rw [if_pos h]
      have h1 := hdbl h
      have : F.length ≤ (l.drop (K1 + 1)).length := by rw [← hF, if_pos h]; exact dg_len _ _ rfl
      rw [List.length_drop] at this
      omega
    · rw [if_neg h]; omega
  have hdiv : M.divW l = if db = true then (if F = [] then (M.zeroP, false) else M.divE ng W F (l.drop k2)) else if W = [] then (M.zeroP, false) else M.divE ng W [] (l.drop k2) := by
    unfold M.divW
    rw [hcs]
    simp only [hW, hrs]
    by_cases h : db = true
    · have h46 : (l.drop K1).head? = some 46 := by rw [h, beq_iff_eq] at hdb; exact hdb
      have htl : (l.drop K1).tail = l.drop (K1 + 1) := by rw [List.tail_drop]
      have hF2 : M.dg (l.drop (K1 + 1)) = F := by rw [← hF, if_pos h]
      have hrs2 : M.rs (l.drop (K1 + 1)) = l.drop k2 := by rw [← (dg_take (l.drop (K1 + 1))).2, hF2, List.drop_drop, ← hk2, if_pos h]
      rw [if_pos h46, if_pos h, htl, hF2, hrs2]
    · have h46 : ¬ (l.drop K1).head? = some 46 := fun e => h (by rw [← hdb, e]; rfl)
      rw [if_neg h46, if_neg h, ← hk2, if_neg h]
  have R2 := Lib.hid (fun (h : db = true) w => RUN.out (K1 + 1) k2 w (hdbl h) (by rw [← hk2, if_pos h, ← hF, if_pos h]))
  have x2 : Hid (db = true → S.extract (K1 + 1) k2 = bytes F) := Lib.hid (fun h => by
    rw [EXT.out (K1 + 1) k2 (by rw [← hk2, if_pos h]; omega)]
    have hF2 : M.dg (l.drop (K1 + 1)) = F := by rw [← hF, if_pos h]
    rw [show k2 - (K1 + 1) = F.length by rw [← hk2, if_pos h]; omega, ← hF2, (dg_take (l.drop (K1 + 1))).1])
  have hWF : (W ++ F).length ≤ 1048576 := by
    rw [List.length_append]
    by_cases h : db = true
    · have : k2 = K1 + 1 + F.length := by rw [← hk2, if_pos h]
      omega
    · have : F = [] := by rw [← hF, if_neg h]
      rw [this]; simp only [List.length_nil]; omega
  have cWF := cat_big W F _ rfl (by rw [List.length_append] at hWF; omega) (by rw [List.length_append] at hWF; omega)
  obtain ⟨SW, hSW⟩ : ∃ S, bytes W = S := ⟨_, rfl⟩
  obtain ⟨SF, hSF⟩ : ∃ S, bytes F = S := ⟨_, rfl⟩
  obtain ⟨SQ, hSQ⟩ : ∃ S, bytes (W ++ F) = S := ⟨_, rfl⟩
  rw [hSW, hSF, hSQ] at cWF
  rw [hSW] at x1
  rw [hSF] at x2
  have hFz := bytes_size F
  rw [hSF] at hFz
  have hfe : Hid ((F = [] ∧ SF.toList.isEmpty = true ∧ SF.toList = []) ∨ (F ≠ [] ∧ SF.toList.isEmpty = false ∧ (!SF.toList.isEmpty) = true)) := Lib.hid (by
    by_cases h : F = []
    · have := str_nil SF F hSF h; exact .inl ⟨h, this.2.1, this.1⟩
    · have := str_ne SF F hSF h; exact .inr ⟨h, this.1, this.2.1⟩)
  have hqe : Hid ((W ++ F = [] ∧ SQ.toList.isEmpty = true ∧ SQ.toList = []) ∨ (W ++ F ≠ [] ∧ SQ.toList.isEmpty = false ∧ (!SQ.toList.isEmpty) = true)) := Lib.hid (by
    by_cases h : W ++ F = []
    · have := str_nil SQ _ hSQ h; exact .inl ⟨h, this.2.1, this.1⟩
    · have := str_ne SQ _ hSQ h; exact .inr ⟨h, this.1, this.2.1⟩)
  have hF0 : Hid (db = false → SF = ⟨#[]⟩ ∧ k2 = K1) := Lib.hid (fun h => by
    constructor
    · rw [← hSF, ← hF, h]; rfl
    · rw [← hk2, h]; rfl)
  have hdw : Hid ((db = false ∧ K1 = S.size) ∨ (db = false ∧ ∃ h : K1 < S.size, ((S[K1].toNat : Int) == 46) = false) ∨ (db = true ∧ ∃ h : K1 < S.size, ((S[K1].toNat : Int) == 46) = true)) := Lib.hid (by
    rcases at_ways l K1 hK1l with ⟨e1, e2⟩ | ⟨h, t, e1, _⟩
    · left; rw [e2] at hdb; exact ⟨by rw [← hdb]; rfl, by omega⟩
    · right
      rw [e1] at hdb
      have h2 : K1 < S.size := by omega
      have hb := beqn l[K1] 46 _ rfl
      rw [← hget K1 h2 h] at hb
      have hdb2 : (S[K1] == 46) = db := by rw [hget K1 h2 h, ← hdb]; simp
      rw [hdb2] at hb
      cases db with
      | false => exact .inl ⟨rfl, h2, hb⟩
      | true => exact .inr ⟨rfl, h2, hb⟩)
  -- the power
  obtain ⟨eb, heb⟩ : ∃ b, ((l.drop k2).head? == some 101 || (l.drop k2).head? == some 69) = b := ⟨_, rfl⟩
  obtain ⟨ng2, r2, hcs2⟩ : ∃ a s, M.csign (l.drop (k2 + 1)) = (a, s) := ⟨_, _, rfl⟩
  obtain ⟨i2, hi2, hi2l, rfl, hway2⟩ := sign_ways _ ng2 r2 hcs2
  rw [List.drop_drop] at hcs2
  rw [List.length_drop] at hi2l
  obtain ⟨G, hG⟩ : ∃ F, (if eb then M.dg (l.drop (k2 + 1 + i2)) else []) = F := ⟨_, rfl⟩
  obtain ⟨k3, hk3⟩ : ∃ k, (if eb then k2 + 1 + i2 + G.length else k2) = k := ⟨_, rfl⟩
  obtain ⟨X, hX⟩ : ∃ X : Int, (if ng2 = true then -(M.dval G : Int) else M.dval G) = X := ⟨_, rfl⟩
  have hebl : eb = true → k2 + 1 ≤ l.length := fun h => by
    rw [h] at heb
    rcases at_ways l k2 hk2l.1 with ⟨_, e⟩ | ⟨h, _⟩
    · rw [e] at heb; simp at heb
    · omega
  have hGd : ∀ c ∈ G, M.dig c = true := by
    rw [← hG]; split
    · exact M.dg_dig _
    · simp
  have hk3l : k3 ≤ l.length ∧ k2 ≤ k3 := by
    rw [← hk3]
    by_cases h : eb = true
    · rw [if_pos h]
      have h1 := hebl h
      have : G.length ≤ (l.drop (k2 + 1 + i2)).length := by rw [← hG, if_pos h]; exact dg_len _ _ rfl
      rw [List.length_drop] at this
      omega
    · rw [if_neg h]; omega
  have hGl : G.length ≤ 1048576 := by
    by_cases h : eb = true
    · have : k3 = k2 + 1 + i2 + G.length := by rw [← hk3, if_pos h]
      omega
    · rw [← hG, if_neg h]; simp
  have hdivE : M.divE ng W F (l.drop k2) = if eb = true then ((ng, W, F, true, ng2, G), (l.drop k3).isEmpty && !G.isEmpty) else ((ng, W, F, false, false, []), (l.drop k2).isEmpty) := by
    unfold M.divE
    by_cases h : eb = true
    · have hh : (l.drop k2).head? = some 101 ∨ (l.drop k2).head? = some 69 := by rw [h, Bool.or_eq_true, beq_iff_eq, beq_iff_eq] at heb; exact heb
      have htl : (l.drop k2).tail = l.drop (k2 + 1) := by rw [List.tail_drop]
      have hG2 : M.dg (l.drop (k2 + 1 + i2)) = G := by rw [← hG, if_pos h]
      have hrs2 : M.rs (l.drop (k2 + 1 + i2)) = l.drop k3 := by rw [← (dg_take (l.drop (k2 + 1 + i2))).2, hG2, List.drop_drop, ← hk3, if_pos h]
      rw [if_pos hh, if_pos h, htl, hcs2]
      simp only [hG2, hrs2]
    · have hh : ¬ ((l.drop k2).head? = some 101 ∨ (l.drop k2).head? = some 69) := fun e => h (by rw [← heb, Bool.or_eq_true, beq_iff_eq, beq_iff_eq]; exact e)
      rw [if_neg hh, if_neg h]
  have hX0 : eb = false → X = 0 := fun h => by
    have : G = [] := by rw [← hG, h]; rfl
    rw [← hX, this]; simp [M.dval]
  have hfin : (W ++ F ≠ []) → (db = true → F ≠ []) → (eb = true → G ≠ []) → (if k3 = l.length then ((ng, M.nz (M.dval (W ++ F)) (X - F.length)), true) else ((false, [], []), false)) = (r, ok) := fun h1 h2 h3 => by
    have hdw2 : M.divW l = M.divE ng W F (l.drop k2) := by
      rw [hdiv]
      by_cases h : db = true
      · rw [if_pos h, if_neg (h2 h)]
      · have hF0 : F = [] := by rw [← hF, if_neg h]
        rw [if_neg h, if_neg (by intro e; apply h1; rw [e, hF0]; rfl), hF0]
    have hr2 := hr
    unfold M.readN at hr2
    rw [hdw2, hdivE] at hr2
    have hd : ∀ c ∈ W ++ F, M.dig c = true := fun c hc => (List.mem_append.1 hc).elim (hWd c) (hFd c)
    by_cases h : eb = true
    · rw [if_pos h] at hr2
      have hGe : G.isEmpty = false := by simpa using h3 h
      simp only [hGe, Bool.not_false, Bool.and_true] at hr2
      by_cases hk : k3 = l.length
      · rw [if_pos hk]
        rw [hk, List.drop_length] at hr2
        simp only [List.isEmpty_nil, if_true] at hr2
        rw [M.norm_nz _ _ hd] at hr2
        rw [← hr2, ← hX]; rfl
      · rw [if_neg hk]
        have : (l.drop k3).isEmpty = false := by
          cases hh : l.drop k3 with
          | nil => rw [List.drop_eq_nil_iff] at hh; omega
          | cons c t => rfl
        rw [this] at hr2
        simpa using hr2
    · rw [if_neg h] at hr2
      have hk32 : k3 = k2 := by rw [← hk3, if_neg h]
      have hXz := hX0 (by simpa using h)
      simp only at hr2
      by_cases hk : k3 = l.length
      · rw [if_pos hk]
        rw [← hk32, hk, List.drop_length] at hr2
        simp only [List.isEmpty_nil, if_true] at hr2
        rw [M.norm_nz _ _ hd] at hr2
        rw [← hr2, hXz]; rfl
      · rw [if_neg hk]
        have : (l.drop k2).isEmpty = false := by
          cases hh : l.drop k2 with
          | nil => rw [List.drop_eq_nil_iff] at hh; omega
          | cons c t => rfl
        rw [this] at hr2
        simpa using hr2
  have hbad1 : db = true → F = [] → ((false, [], []), false) = (r, ok) := fun h1 h2 => by
    have hr2 := hr
    unfold M.readN at hr2
    rw [hdiv, if_pos h1, if_pos h2] at hr2
    simpa using hr2
  have hbad2 : W ++ F = [] → ((false, [], []), false) = (r, ok) := fun h1 => by
    have h2 := List.append_eq_nil_iff.1 h1
    by_cases h : db = true
    · exact hbad1 h h2.2
    · have hr2 := hr
      unfold M.readN at hr2
      rw [hdiv, if_neg h, if_pos h2.1] at hr2
      simpa using hr2
  have hbad3 : (db = true → F ≠ []) → W ++ F ≠ [] → eb = true → G = [] → ((false, [], []), false) = (r, ok) := fun h2 h1 h3 h4 => by
    have hdw2 : M.divW l = M.divE ng W F (l.drop k2) := by
      rw [hdiv]
      by_cases h : db = true
      · rw [if_pos h, if_neg (h2 h)]
      · have hF0 : F = [] := by rw [← hF, if_neg h]
        rw [if_neg h, if_neg (by intro e; apply h1; rw [e, hF0]; rfl), hF0]
    have hr2 := hr
    unfold M.readN at hr2
    rw [hdw2, hdivE, if_pos h3, h4] at hr2
    simpa using hr2
  have R3 := Lib.hid (fun (h : eb = true) w => RUN.out (k2 + 1 + i2) k3 w (by have := hebl h; omega) (by rw [← hk3, if_pos h, ← hG, if_pos h]))
  have x3 : Hid (eb = true → S.extract (k2 + 1 + i2) k3 = bytes G) := Lib.hid (fun h => by
    rw [EXT.out (k2 + 1 + i2) k3 (by rw [← hk3, if_pos h]; omega)]
    have hG2 : M.dg (l.drop (k2 + 1 + i2)) = G := by rw [← hG, if_pos h]
    rw [show k3 - (k2 + 1 + i2) = G.length by rw [← hk3, if_pos h]; omega, ← hG2, (dg_take (l.drop (k2 + 1 + i2))).1])
  have ST1 := Lib.hid (fun (h : G ≠ []) w => stripped_any G _ w (by omega) hGd h rfl)
  have ST2 := Lib.hid (fun (h : W ++ F ≠ []) w => stripped_any (W ++ F) _ w (by omega) (fun c hc => (List.mem_append.1 hc).elim (hWd c) (hFd c)) h rfl)
  have hew : Hid ((eb = false ∧ k2 = S.size) ∨ (eb = false ∧ ∃ h : k2 < S.size, ((S[k2].toNat : Int) == 101) = false ∧ ((S[k2].toNat : Int) == 69) = false) ∨ (eb = true ∧ ∃ h : k2 < S.size, ((S[k2].toNat : Int) == 101) = true) ∨ (eb = true ∧ ∃ h : k2 < S.size, ((S[k2].toNat : Int) == 101) = false ∧ ((S[k2].toNat : Int) == 69) = true)) := Lib.hid (by
    rcases at_ways l k2 hk2l.1 with ⟨e1, e2⟩ | ⟨h, t, e1, _⟩
    · left; rw [e2] at heb; exact ⟨by rw [← heb]; rfl, by omega⟩
    · right
      rw [e1] at heb
      have h2 : k2 < S.size := by omega
      have hb := beqn l[k2] 101 _ rfl
      have hb2 := beqn l[k2] 69 _ rfl
      rw [← hget k2 h2 h] at hb hb2
      have heb2 : ((S[k2] == 101) || (S[k2] == 69)) = eb := by rw [hget k2 h2 h, ← heb]; simp
      cases h101 : (S[k2] == 101) with
      | true =>
        rw [h101] at hb heb2
        exact .inr (.inl ⟨by rw [← heb2]; rfl, h2, hb⟩)
      | false =>
        rw [h101] at hb heb2
        cases h69 : (S[k2] == 69) with
        | true =>
          rw [h69] at hb2 heb2
          exact .inr (.inr ⟨by rw [← heb2]; rfl, h2, hb, hb2⟩)
        | false =>
          rw [h69] at hb2 heb2
          exact .inl ⟨by rw [← heb2]; rfl, h2, hb, hb2⟩)
  have hsw : Hid (eb = true → (i2 = 0 ∧ ng2 = false ∧ k2 + 1 = S.size) ∨ (i2 = 0 ∧ ng2 = false ∧ ∃ h : k2 + 1 < S.size, ((S[k2 + 1].toNat : Int) == 43) = false ∧ ((S[k2 + 1].toNat : Int) == 45) = false) ∨ (i2 = 1 ∧ ng2 = false ∧ ∃ h : k2 + 1 < S.size, ((S[k2 + 1].toNat : Int) == 43) = true ∧ ((S[k2 + 1].toNat : Int) == 45) = false) ∨ (i2 = 1 ∧ ng2 = true ∧ ∃ h : k2 + 1 < S.size, ((S[k2 + 1].toNat : Int) == 43) = false ∧ ((S[k2 + 1].toNat : Int) == 45) = true)) := Lib.hid (fun h => by
    have hle := hebl h
    rcases at_ways l (k2 + 1) hle with ⟨e1, e2⟩ | ⟨h, t, e1, _⟩
    · rw [e2] at hway2
      rcases hway2 with ⟨a, b, _⟩ | ⟨_, _, c, t, e, _⟩ | ⟨_, _, t, e⟩ | ⟨_, _, t, e⟩
      · exact .inl ⟨a, b, by omega⟩
      all_goals exact absurd e (by simp)
    · have h2 : k2 + 1 < S.size := by omega
      have hg := hget (k2 + 1) h2 h
      rw [e1] at hway2
      rcases hway2 with ⟨_, _, e⟩ | ⟨a, b, c, t2, e, q1, q2⟩ | ⟨a, b, t2, e⟩ | ⟨a, b, t2, e⟩
      · exact absurd e (by simp)
      · simp only [List.cons.injEq] at e
        rw [← e.1, ← hg] at q1 q2
        exact .inr (.inl ⟨a, b, h2, q1, q2⟩)
      · simp only [List.cons.injEq] at e
        rw [e.1] at hg
        exact .inr (.inr (.inl ⟨a, b, h2, by rw [hg]; decide, by rw [hg]; decide⟩))
      · simp only [List.cons.injEq] at e
        rw [e.1] at hg
        exact .inr (.inr (.inr ⟨a, b, h2, by rw [hg]; decide, by rw [hg]; decide⟩)))
  have hk30 : Hid (eb = false → k3 = k2 ∧ bytes (M.txt X) = ⟨#[48]⟩) := Lib.hid (fun h => ⟨by rw [← hk3, h]; rfl, by rw [hX0 h]; rfl⟩)
  have hXn : (ng2 = true → X = -(M.dval G : Int)) ∧ (ng2 = false → X = (M.dval G : Int)) := ⟨fun h => by rw [← hX, if_pos h], fun h => by rw [← hX, h]; rfl⟩
  have hXl : (M.txt X).length ≤ 1048578 := by
    have h1 := M.dval_lt G hGd
    have h2 := M.txt_len X (G.length + 1) (by omega) (by
      have : X.natAbs = M.dval G := by rw [← hX]; split <;> omega
      rw [this]; exact Nat.lt_of_lt_of_le h1 (Nat.pow_le_pow_right (by omega) (by omega)))
    omega
  obtain ⟨SX, hSX⟩ : ∃ S, bytes (M.txt X) = S := ⟨_, rfl⟩
  rw [hSX] at hk30
  have HFin := Lib.hid hfin
  have HB1 := Lib.hid hbad1
  have HB2 := Lib.hid hbad2
  have HB3 := Lib.hid hbad3
  have HXn := Lib.hid hXn
  have HSX := Lib.hid hSX
  have HGd := Lib.hid hGd
  have HW := Lib.hid hway
  have HG := Lib.hid hget
  have HSZ := Lib.hid hsz
  have HX1 := Lib.hid x1
  have HR := Lib.hid hr
  have HWd := Lib.hid hWd
  have HFd := Lib.hid hFd
  have HSQ := Lib.hid hSQ
  have HFz := Lib.hid hFz
  have s1 : S.size ≤ 1048576 := by omega
  have s2 : i ≤ K1 := by omega
  have s3 : K1 ≤ S.size := by omega
  have s4 : k2 ≤ S.size := by omega
  have s5 : K1 ≤ k2 := hk2l.2
  have s7 : k3 ≤ S.size := by omega
  have s8 : k2 ≤ k3 := hk3l.2
  have K3 : Hid (eb = true → k3 = k2 + 1 + i2 + G.length ∧ k2 + 1 + i2 ≤ k3) := Lib.hid (fun h => by rw [← hk3, if_pos h]; omega)
  have K2 : Hid (db = true → k2 = K1 + 1 + F.length) := Lib.hid (fun h => by rw [← hk2, if_pos h])
  have s6 : db = true → K1 + 1 ≤ k2 := fun h => by rw [← hk2, if_pos h]; omega
  have S6 := Lib.hid s6
  have hlz : F.length ≤ 1048576 := by rw [List.length_append] at hWF; omega
  clear hway hget hsz x1 hr hWd hWl hrs hdb hF hk2 hdbl hFd hk2l hdiv hSW hSF hSQ hFz s6 hK1 hcs hW hS hK1l hil heb hcs2 hi2l hway2 hG hk3 hX hebl hGd hk3l hdivE hX0 hfin hbad1 hbad2 hbad3 hXn hSX
  go_enter Tryd.func43, Tryd.ntmps43
  go_upto_region 3 with fail
  go_cut [31] (fun s31 wx => s31 = .bool (decide (i = 1)) ∧ Two w false wx)
  case first =>
   as_aux_lemma =>
    rcases HW.out with ⟨rfl, rfl, rfl⟩ | ⟨rfl, rfl, c, t, rfl, q1, q2⟩ | ⟨rfl, rfl, t, rfl⟩ | ⟨rfl, rfl, t, rfl⟩
    · have z : S.size = 0 := HSZ.out
      have hS0 : ¬ (0 : Int) < S.size := by omega
      go_wp2_with fail
      go_meet
      exact ⟨rfl, two_new w⟩
    all_goals
      have z : 0 < S.size := by have := HSZ.out; simp at this; omega
      have f0 := HG.out 0 z (by simp)
      simp only [List.getElem_cons_zero] at f0
      go_wp2_with fail
      go_meet
      exact ⟨rfl, two_new w⟩
  case rest =>
  obtain ⟨rfl, h2⟩ := hcut
  have H2 := Lib.hid h2
  clear h2
  go_upto_if 31 with fail
  go_cut [4] (fun s4 wx => s4 = .int .i64 (i : Int) ∧ Two w ng wx)
  case first =>
   as_aux_lemma =>
    obtain ⟨⟨a0, a1, a2⟩, ⟨b0, b1, b2⟩, ⟨f0, f1, f2⟩, ⟨e0, e1, e2⟩, hz, hb⟩ := H2.out
    rcases HW.out with ⟨rfl, rfl, rfl⟩ | ⟨rfl, rfl, c, t, rfl, q1, q2⟩ | ⟨rfl, rfl, t, rfl⟩ | ⟨rfl, rfl, t, rfl⟩
    · go_wp2_with fail
      go_meet
      exact ⟨rfl, H2.out⟩
    · go_wp2_with fail
      go_meet
      exact ⟨rfl, H2.out⟩
    all_goals
      have z : 0 < S.size := by have := HSZ.out; simp at this; omega
      have f0 := HG.out 0 z (by simp)
      simp only [List.getElem_cons_zero] at f0
      go_wp2_with fail
      go_meet
      exact ⟨rfl, two_set _ H2.out⟩
  case rest =>
  obtain ⟨rfl, h2⟩ := hcut
  clear H2
  have H2 := Lib.hid h2
  clear h2
  obtain ⟨W0, hW0⟩ : ∃ x, x = wc := ⟨_, rfl⟩
  subst hW0
  go_wp2_with fail
  refine (R1.out _).mono ?_
  rintro e w' ⟨rfl, rfl⟩
  have x1 := HX1.out
  go_upto_region 9 with fail
  go_cut [55] (fun s wx => s = .bool db ∧ W0 = wx)
  case first =>
   as_aux_lemma =>
    rcases hdw.out with ⟨rfl, q⟩ | ⟨rfl, q, q2⟩ | ⟨rfl, q, q2⟩
    · have q3 : ¬ (K1 : Int) < S.size := by omega
      clear q
      go_wp2_with fail
      go_meet
      exact ⟨rfl, rfl⟩
    all_goals
      go_wp2_with fail
      go_meet
      exact ⟨rfl, rfl⟩
  case rest =>
  obtain ⟨rfl, rfl⟩ := hcut
  go_upto_if 55 with fail
  go_cut [6, 8] (fun s6 s8 wx => s6 = .int .i64 (k2 : Int) ∧ s8 = .string SF ∧ (db = true → F ≠ []) ∧ W0 = wx)
  case first =>
   as_aux_lemma =>
    cases db with
    | false =>
      obtain ⟨h1, h2⟩ := hF0.out rfl
      go_wp2_with fail
      go_meet
      exact ⟨by rw [h2], by rw [h1], (fun h => by cases h), rfl⟩
    | true =>
      have r2 := Lib.hid (R2.out rfl)
      rw [show ((K1 + 1 : Nat) : Int) = (K1 : Int) + 1 by omega] at r2
      have x2' := x2.out rfl
      have k21 := S6.out rfl
      go_wp2_with fail
      refine (r2.out _).mono ?_
      rintro e w' ⟨rfl, rfl⟩
      rcases hfe.out with ⟨u0, u1, u2⟩ | ⟨u0, u1, u2⟩
      · have hb := HB1.out (by simp) u0
        simp only [Prod.mk.injEq] at hb
        obtain ⟨rfl, rfl⟩ := hb
        obtain ⟨⟨a0, a1, a2⟩, ⟨b0, b1, b2⟩, ⟨f0, f1, f2⟩, ⟨e0, e1, e2⟩, hz, hbl⟩ := H2.out
        have hend := Lib.hid (two_end H2.out (.bool false) (.string ⟨#[]⟩) (.string ⟨#[]⟩))
        clear u0 hbl H2
        go_wp2
        exact bodyPost_ret (v := .tuple #[.agg #[.bool false, .string ⟨#[]⟩, .string ⟨#[]⟩], .bool false]) (by simp [results, Tryd.results43, go_sem, a0, a1, a2]) rfl ⟨rfl, hend.out⟩
      · have U0 := Lib.hid u0
        clear u0
        go_wp2_with fail
        go_meet
        exact ⟨rfl, rfl, fun _ => U0.out, rfl⟩
  case rest =>
  obtain ⟨rfl, rfl, hdF, rfl⟩ := hcut
  have HdF := Lib.hid hdF
  clear hdF
  rcases hqe.out with ⟨u0, u1, u2⟩ | ⟨u0, u1, u2⟩
  · have hb := HB2.out u0
    simp only [Prod.mk.injEq] at hb
    obtain ⟨rfl, rfl⟩ := hb
    obtain ⟨⟨a0, a1, a2⟩, ⟨b0, b1, b2⟩, ⟨f0, f1, f2⟩, ⟨e0, e1, e2⟩, hz, hbl⟩ := H2.out
    have hend := Lib.hid (two_end H2.out (.bool false) (.string ⟨#[]⟩) (.string ⟨#[]⟩))
    clear u0 hbl H2
    go_wp2
    exact bodyPost_ret (v := .tuple #[.agg #[.bool false, .string ⟨#[]⟩, .string ⟨#[]⟩], .bool false]) (by simp [results, Tryd.results43, go_sem, a0, a1, a2]) rfl ⟨rfl, hend.out⟩
  have U0 := Lib.hid u0
  clear u0
  go_upto_region 18 with fail
  go_cut [89] (fun s wx => s = .bool eb ∧ W0 = wx)
  case first =>
   as_aux_lemma =>
    rcases hew.out with ⟨rfl, q⟩ | ⟨rfl, q, q2, q3⟩ | ⟨rfl, q, q2⟩ | ⟨rfl, q, q2, q3⟩
    · have q3 : ¬ (k2 : Int) < S.size := by omega
      clear q
      go_wp2_with fail
      go_meet
      exact ⟨rfl, rfl⟩
    all_goals
      go_wp2_with fail
      go_meet
      exact ⟨rfl, rfl⟩
  case rest =>
  obtain ⟨rfl, rfl⟩ := hcut
  go_upto_if 89 with fail
  go_cut [6, 10] (fun s6 s10 wx => s6 = .int .i64 (k3 : Int) ∧ s10 = .string SX ∧ (eb = true → G ≠ []) ∧ W0 = wx)
  case first =>
   as_aux_lemma =>
    cases eb with
    | false =>
      obtain ⟨h1, h2⟩ := hk30.out (by simp)
      go_wp2_with fail
      go_meet
      exact ⟨by rw [h1], by rw [h2], (fun h => by cases h), rfl⟩
    | true =>
      obtain ⟨k31, k32⟩ := K3.out (by simp)
      have K31 := Lib.hid k31
      have r3 := Lib.hid (R3.out (by simp))
      have x3' := x3.out (by simp)
      obtain ⟨SGG, hSGG⟩ : ∃ S, bytes G = S := ⟨_, rfl⟩
      obtain ⟨SDD, hSDD⟩ : ∃ S, bytes (M.decS (M.dval G)) = S := ⟨_, rfl⟩
      have ST := ST1
      rw [hSGG] at x3'
      rw [hSGG, hSDD] at ST
      have hGq : Hid (bytes G = SGG) := Lib.hid hSGG
      have hDq : Hid (bytes (M.decS (M.dval G)) = SDD) := Lib.hid hSDD
      clear k31 hSGG hSDD
      have hb3 := HB3.out
      rcases hsw.out (by simp) with ⟨rfl, rfl, q⟩ | ⟨rfl, rfl, q, q1, q2⟩ | ⟨rfl, rfl, q, q1, q2⟩ | ⟨rfl, rfl, q, q1, q2⟩
      · rw [show ((k2 + 1 + 0 : Nat) : Int) = (k2 : Int) + 1 by omega] at r3
        have q3 : ¬ ((k2 : Int) + 1) < S.size := by omega
        clear q
        go_wp2_with fail
        refine (r3.out _).mono ?_
        rintro e w' ⟨rfl, rfl⟩
        by_cases hG0 : G = []
        · have hb := hb3 HdF.out U0.out (by simp) hG0
          simp only [Prod.mk.injEq] at hb
          obtain ⟨rfl, rfl⟩ := hb
          have hk : (k3 : Int) = (k2 : Int) + 1 := by have := K31.out; rw [hG0] at this; simp at this; omega
          have hk' : ((k3 : Int) == (k2 : Int) + 1) = true := by rw [beq_iff_eq]; exact hk
          clear hk hG0
          have hend := Lib.hid (two_end H2.out (.bool false) (.string ⟨#[]⟩) (.string ⟨#[]⟩))
          obtain ⟨⟨a0, a1, a2⟩, ⟨b0, b1, b2⟩, ⟨f0, f1, f2⟩, ⟨e0, e1, e2⟩, hz, hbl⟩ := H2.out
          clear hbl H2
          go_wp2
          exact bodyPost_ret (v := .tuple #[.agg #[.bool false, .string ⟨#[]⟩, .string ⟨#[]⟩], .bool false]) (by simp [results, Tryd.results43, go_sem, a0, a1, a2]) rfl ⟨rfl, hend.out⟩
        · have hgp := List.length_pos_iff.2 hG0
          have hk' : ((k3 : Int) == (k2 : Int) + 1) = false := by have := K31.out; rw [beq_eq_false_iff_ne]; omega
          have st := Lib.hid (ST.out hG0)
          have HG0 := Lib.hid hG0
          clear hG0 hgp
          go_wp2_with fail
          refine (st.out _).mono ?_
          rintro e w' ⟨rfl, rfl⟩
          have hx : SDD = SX := by
            rw [← hDq.out, ← HSX.out, HXn.out.2 (by simp), M.txt_nat]
          subst hx
          go_wp2_with fail
          go_meet
          exact ⟨rfl, rfl, (fun _ => HG0.out), rfl⟩
      · rw [show ((k2 + 1 + 0 : Nat) : Int) = (k2 : Int) + 1 by omega] at r3
        go_wp2_with fail
        refine (r3.out _).mono ?_
        rintro e w' ⟨rfl, rfl⟩
        by_cases hG0 : G = []
        · have hb := hb3 HdF.out U0.out (by simp) hG0
          simp only [Prod.mk.injEq] at hb
          obtain ⟨rfl, rfl⟩ := hb
          have hk : (k3 : Int) = (k2 : Int) + 1 := by have := K31.out; rw [hG0] at this; simp at this; omega
          have hk' : ((k3 : Int) == (k2 : Int) + 1) = true := by rw [beq_iff_eq]; exact hk
          clear hk hG0
          have hend := Lib.hid (two_end H2.out (.bool false) (.string ⟨#[]⟩) (.string ⟨#[]⟩))
          obtain ⟨⟨a0, a1, a2⟩, ⟨b0, b1, b2⟩, ⟨f0, f1, f2⟩, ⟨e0, e1, e2⟩, hz, hbl⟩ := H2.out
          clear hbl H2
          go_wp2
          exact bodyPost_ret (v := .tuple #[.agg #[.bool false, .string ⟨#[]⟩, .string ⟨#[]⟩], .bool false]) (by simp [results, Tryd.results43, go_sem, a0, a1, a2]) rfl ⟨rfl, hend.out⟩
        · have hgp := List.length_pos_iff.2 hG0
          have hk' : ((k3 : Int) == (k2 : Int) + 1) = false := by have := K31.out; rw [beq_eq_false_iff_ne]; omega
          have st := Lib.hid (ST.out hG0)
          have HG0 := Lib.hid hG0
          clear hG0 hgp
          go_wp2_with fail
          refine (st.out _).mono ?_
          rintro e w' ⟨rfl, rfl⟩
          have hx : SDD = SX := by
            rw [← hDq.out, ← HSX.out, HXn.out.2 (by simp), M.txt_nat]
          subst hx
          go_wp2_with fail
          go_meet
          exact ⟨rfl, rfl, (fun _ => HG0.out), rfl⟩
      · rw [show ((k2 + 1 + 1 : Nat) : Int) = (k2 : Int) + 1 + 1 by omega] at r3
        go_wp2_with fail
        refine (r3.out _).mono ?_
        rintro e w' ⟨rfl, rfl⟩
        by_cases hG0 : G = []
        · have hb := hb3 HdF.out U0.out (by simp) hG0
          simp only [Prod.mk.injEq] at hb
          obtain ⟨rfl, rfl⟩ := hb
          have hk : (k3 : Int) = (k2 : Int) + 1 + 1 := by have := K31.out; rw [hG0] at this; simp at this; omega
          have hk' : ((k3 : Int) == (k2 : Int) + 1 + 1) = true := by rw [beq_iff_eq]; exact hk
          clear hk hG0
          have hend := Lib.hid (two_end H2.out (.bool false) (.string ⟨#[]⟩) (.string ⟨#[]⟩))
          obtain ⟨⟨a0, a1, a2⟩, ⟨b0, b1, b2⟩, ⟨f0, f1, f2⟩, ⟨e0, e1, e2⟩, hz, hbl⟩ := H2.out
          clear hbl H2
          go_wp2
          exact bodyPost_ret (v := .tuple #[.agg #[.bool false, .string ⟨#[]⟩, .string ⟨#[]⟩], .bool false]) (by simp [results, Tryd.results43, go_sem, a0, a1, a2]) rfl ⟨rfl, hend.out⟩
        · have hgp := List.length_pos_iff.2 hG0
          have hk' : ((k3 : Int) == (k2 : Int) + 1 + 1) = false := by have := K31.out; rw [beq_eq_false_iff_ne]; omega
          have st := Lib.hid (ST.out hG0)
          have HG0 := Lib.hid hG0
          clear hG0 hgp
          go_wp2_with fail
          refine (st.out _).mono ?_
          rintro e w' ⟨rfl, rfl⟩
          have hx : SDD = SX := by
            rw [← hDq.out, ← HSX.out, HXn.out.2 (by simp), M.txt_nat]
          subst hx
          go_wp2_with fail
          go_meet
          exact ⟨rfl, rfl, (fun _ => HG0.out), rfl⟩
      · rw [show ((k2 + 1 + 1 : Nat) : Int) = (k2 : Int) + 1 + 1 by omega] at r3
        go_wp2_with fail
        refine (r3.out _).mono ?_
        rintro e w' ⟨rfl, rfl⟩
        by_cases hG0 : G = []
        · have hb := hb3 HdF.out U0.out (by simp) hG0
          simp only [Prod.mk.injEq] at hb
          obtain ⟨rfl, rfl⟩ := hb
          have hk : (k3 : Int) = (k2 : Int) + 1 + 1 := by have := K31.out; rw [hG0] at this; simp at this; omega
          have hk' : ((k3 : Int) == (k2 : Int) + 1 + 1) = true := by rw [beq_iff_eq]; exact hk
          clear hk hG0
          have hend := Lib.hid (two_end H2.out (.bool false) (.string ⟨#[]⟩) (.string ⟨#[]⟩))
          obtain ⟨⟨a0, a1, a2⟩, ⟨b0, b1, b2⟩, ⟨f0, f1, f2⟩, ⟨e0, e1, e2⟩, hz, hbl⟩ := H2.out
          clear hbl H2
          go_wp2
          exact bodyPost_ret (v := .tuple #[.agg #[.bool false, .string ⟨#[]⟩, .string ⟨#[]⟩], .bool false]) (by simp [results, Tryd.results43, go_sem, a0, a1, a2]) rfl ⟨rfl, hend.out⟩
        · have hgp := List.length_pos_iff.2 hG0
          have hk' : ((k3 : Int) == (k2 : Int) + 1 + 1) = false := by have := K31.out; rw [beq_eq_false_iff_ne]; omega
          have st := Lib.hid (ST.out hG0)
          have HG0 := Lib.hid hG0
          clear hG0 hgp
          go_wp2_with fail
          refine (st.out _).mono ?_
          rintro e w' ⟨rfl, rfl⟩
          by_cases hv : M.dval G = 0
          · have hx : SDD = SX := by
              rw [← hDq.out, ← HSX.out, HXn.out.1 (by simp), hv]; rfl
            have h48 : (SDD.toList == [48]) = true ∧ SDD.toList = [48] := by
              rw [← hDq.out, toList_bytes, hv]; exact ⟨rfl, rfl⟩
            obtain ⟨h481, h482⟩ := h48
            subst hx
            clear hv
            go_wp2_with fail
            go_meet
            exact ⟨rfl, rfl, (fun _ => HG0.out), rfl⟩
          · have h48 : (SDD.toList == [48]) = false ∧ SDD.toList ≠ [48] := by
              rw [← hDq.out, toList_bytes]
              have : M.decS (M.dval G) ≠ [48] := fun e => hv ((M.decS_zero _).1 e)
              exact ⟨by simpa using this, this⟩
            obtain ⟨h481, h482⟩ := h48
            have hdl := M.dval_lt G HGd.out
            have hcat := cat_big [45] (M.decS (M.dval G)) (M.txt X) (by rw [HXn.out.1 (by simp), M.txt_minus _ hv]; rfl) (by simp) (by
              have e : 45 :: M.decS (M.dval G) = M.txt X := by rw [HXn.out.1 (by simp), M.txt_minus _ hv]
              have := congrArg List.length e
              simp at this; omega)
            rw [hDq.out, HSX.out, show bytes [45] = (⟨#[45]⟩ : ByteArray) from rfl] at hcat
            clear hv hdl
            go_wp2_with fail
            go_meet
            exact ⟨rfl, rfl, (fun _ => HG0.out), rfl⟩
  case rest =>
  obtain ⟨rfl, rfl, heG, rfl⟩ := hcut
  have hfin := HFin.out U0.out HdF.out heG
  by_cases hke : k3 = S.size
  case neg =>
    as_aux_lemma =>
    rw [if_neg (by rw [← HSZ.out]; exact hke)] at hfin
    simp only [Prod.mk.injEq] at hfin
    obtain ⟨rfl, rfl⟩ := hfin
    have hke' : ((k3 : Int) != S.size) = true := by rw [bne_iff_ne]; omega
    have hend := Lib.hid (two_end H2.out (.bool false) (.string ⟨#[]⟩) (.string ⟨#[]⟩))
    obtain ⟨⟨a0, a1, a2⟩, ⟨b0, b1, b2⟩, ⟨f0, f1, f2⟩, ⟨e0, e1, e2⟩, hz, hbl⟩ := H2.out
    clear hbl H2 hke heG
    go_wp2
    exact bodyPost_ret (v := .tuple #[.agg #[.bool false, .string ⟨#[]⟩, .string ⟨#[]⟩], .bool false]) (by simp [results, Tryd.results43, go_sem, a0, a1, a2]) rfl ⟨rfl, hend.out⟩
  case pos =>
  as_aux_lemma =>
  rw [if_pos (by rw [← HSZ.out]; exact hke)] at hfin
  obtain ⟨P, n, hP1, hP2, hP3⟩ := dec_split (M.dval (W ++ F))
  rw [hP3] at hfin
  have hke' : ((k3 : Int) != S.size) = false := by simp [bne]; omega
  have st := Lib.hid (ST2.out U0.out)
  rw [HSQ.out, hP1] at st
  have hPl : P.length + n ≤ 1048577 := by
    have hd : ∀ c ∈ W ++ F, M.dig c = true := fun c hc => (List.mem_append.1 hc).elim (HWd.out c) (HFd.out c)
    have h1 := M.dval_lt _ hd
    have h2 := M.decS_len (M.dval (W ++ F)) ((W ++ F).length) (Nat.lt_of_lt_of_le h1 (Nat.pow_le_pow_right (by omega) (by omega)))
    rw [hP1, List.length_append, List.length_replicate] at h2
    omega
  have hP0 : Hid (bytes (P ++ List.replicate n 48) = bytes (P ++ List.replicate (n - 0) 48)) := Lib.hid rfl
  have HFI := Lib.hid hfin
  have HP2 := Lib.hid hP2
  have z9 : SF.size ≤ 1048576 := by rw [HFz.out]; omega
  clear hfin hP1 hP2 hP3 hke heG
  go_wp2_with fail
  refine (st.out _).mono ?_
  rintro e w' ⟨rfl, rfl⟩
  rw [hP0.out]
  go_wp2_with fail
  go_loop [13, 14] (fun sv xv => ∃ j : Nat, j ≤ n ∧ sv = .string (bytes (P ++ List.replicate (n - j) 48)) ∧ xv = .int .i64 (-(SF.size : Int) + j)) (fun sv _ => match sv with | .string s => s.size | _ => 0)
  case atStart => exact ⟨0, by omega, rfl, by simp⟩
  case round =>
    obtain ⟨j, hj, rfl, rfl⟩ := hrel
    by_cases hlt : j < n
    · as_aux_lemma =>
      obtain ⟨m, hm⟩ : ∃ m, n - j = m + 1 := ⟨n - j - 1, by omega⟩
      have hm2 : n - (j + 1) = m := by omega
      rw [hm]
      have hl : (P ++ List.replicate (m + 1) (48 : UInt8)).length = P.length + m + 1 := by simp; omega
      have hext := ext_to (P ++ List.replicate (m + 1) 48) (P.length + m)
      have htk : (P ++ List.replicate (m + 1) (48 : UInt8)).take (P.length + m) = P ++ List.replicate m 48 := by
        rw [List.replicate_succ', ← List.append_assoc]
        have : (P ++ List.replicate m (48 : UInt8)).length = P.length + m := by simp
        rw [← this]; exact List.take_left
      rw [htk] at hext
      obtain ⟨T, hT⟩ : ∃ T, bytes (P ++ List.replicate (m + 1) 48) = T := ⟨_, rfl⟩
      obtain ⟨T2, hT2⟩ : ∃ T, bytes (P ++ List.replicate m 48) = T := ⟨_, rfl⟩
      obtain ⟨hz, hg⟩ := get_of _ T hT
      rw [hl] at hz
      have hz2 := bytes_size (P ++ List.replicate m (48 : UInt8))
      rw [hT2] at hz2
      have hl48 : ∀ h : T.size - 1 < T.size, T[T.size - 1]'h = 48 := fun h => by
        rw [hg _ h (by rw [hl]; omega)]
        have e : T.size - 1 = P.length + m := by omega
        have : ∀ (q : Nat) (hq : q < (P ++ List.replicate (m + 1) (48 : UInt8)).length), q = P.length + m → (P ++ List.replicate (m + 1) (48 : UInt8))[q] = 48 := fun q hq e => by
          subst e
          rw [List.getElem_append_right (by omega)]
          simp
        exact this _ _ e
      rw [hT, hT2, show P.length + m = T.size - 1 by omega] at hext
      rw [hT]
      have z1 : 0 < T.size := by omega
      have z2 : T.size - 1 < T.size := by omega
      have z3 : T.size ≤ 1048577 := by omega
      have f48 := hl48 z2
      have HX := Lib.hid hext
      have HT2 := Lib.hid hT2
      have HM2 := Lib.hid hm2
      have HZ2 : Hid (T2.size < T.size) := Lib.hid (by rw [hz2, hz]; simp)
      clear hm hl htk hT hT2 hz hg hz2 hl48 hext
      go_wp2
      go_round
      case rel => exact ⟨j + 1, by omega, by rw [HM2.out, HT2.out]; exact congrArg Value.string HX.out, by congr 1; omega⟩
      case measure => simp only [HX.out]; exact HZ2.out
    · as_aux_lemma =>
      obtain rfl : j = n := by omega
      rw [Nat.sub_self, List.replicate_zero, List.append_nil]
      obtain ⟨T, hT⟩ : ∃ T, bytes P = T := ⟨_, rfl⟩
      obtain ⟨hz, hg⟩ := get_of P T hT
      rw [hT]
      by_cases hP0 : P = []
      · obtain ⟨t1, t2, t3⟩ := str_nil T P hT hP0
        have hfi := HFI.out
        rw [if_pos hP0] at hfi
        simp only [Prod.mk.injEq] at hfi
        obtain ⟨rfl, rfl⟩ := hfi
        have z0 : ¬ (0 : Int) < T.size := by rw [hz, hP0]; simp
        have hend := Lib.hid (two_end H2.out (.bool ng) (.string ⟨#[]⟩) (.string ⟨#[]⟩))
        obtain ⟨⟨a0, a1, a2⟩, ⟨b0, b1, b2⟩, ⟨f0, f1, f2⟩, ⟨e0, e1, e2⟩, hz', hbl⟩ := H2.out
        clear hbl H2 hz hg hP0 hT hlt
        go_wp2
        exact bodyPost_ret (v := .tuple #[.agg #[.bool ng, .string ⟨#[]⟩, .string ⟨#[]⟩], .bool true]) (by simp [results, Tryd.results43, go_sem, a0, a1, a2]) rfl ⟨rfl, hend.out⟩
      · obtain ⟨t1, t2, t3⟩ := str_ne T P hT hP0
        have hfi := HFI.out
        rw [if_neg hP0] at hfi
        simp only [Prod.mk.injEq] at hfi
        obtain ⟨rfl, rfl⟩ := hfi
        have hpos := List.length_pos_iff.2 hP0
        have z1 : 0 < T.size := by omega
        have z2 : T.size - 1 < T.size := by omega
        have z3 : T.size ≤ 1048577 := by omega
        have hlast : T[T.size - 1]'z2 = P[P.length - 1] := by
          rw [hg _ z2 (by omega)]
          congr 1; omega
        have hl : P.getLast? = some P[P.length - 1] := by rw [List.getLast?_eq_getElem?]; simp
        obtain ⟨c, hc⟩ : ∃ c, P[P.length - 1] = c := ⟨_, rfl⟩
        rw [hc] at hlast hl
        have hc48 : ((c.toNat : Int) == 48) = false := by
          rw [beq_eq_false_iff_ne]; intro e
          rcases HP2.out with h | h
          · exact hP0 h
          · apply h; rw [hl, show c = 48 from UInt8.toNat_inj.1 (by show c.toNat = 48; omega)]
        have D1 := Lib.hid (fun w => refdec_any (-(SF.size : Int) + j) w (by omega) (by omega))
        have hadd := M.add_right (M.txt X) (M.txt (-(SF.size : Int) + j)) (M.val_txt _).2 (M.val_txt _).2
        rw [(M.val_txt _).1, (M.val_txt _).1] at hadd
        have hxl := txt_len9 (-(SF.size : Int) + j) (by omega) (by omega)
        have A1 := Lib.hid (fun w => refadd_any (M.txt X) (M.txt (-(SF.size : Int) + j)) _ w (by omega) (by omega) hadd)
        unfold strB at A1
        simp only [HSX.out] at A1
        have hXe : X + (-(SF.size : Int) + j) = X - F.length + j := by rw [HFz.out]; omega
        rw [hXe] at A1
        obtain ⟨SY, hSY⟩ : ∃ S, bytes (M.txt (X - F.length + j)) = S := ⟨_, rfl⟩
        obtain ⟨SZ, hSZ⟩ : ∃ S, bytes (M.txt (-(SF.size : Int) + j)) = S := ⟨_, rfl⟩
        rw [hSZ] at D1
        simp only [hSY, hSZ] at A1
        have HT' := Lib.hid hT
        have HSY := Lib.hid hSY
        have TD := Lib.hid (fun W5 hb => two_dig (W5 := W5) (.string T) H2.out hb)
        obtain ⟨⟨a0, a1, a2⟩, ⟨b0, b1, b2⟩, ⟨f0, f1, f2⟩, ⟨e0, e1, e2⟩, hz', hbl⟩ := H2.out
        clear hbl H2 hz hg hP0 hT hlt hpos hl hc hadd hxl hXe hSY hSZ
        go_wp2_with fail
        refine (D1.out _).mono ?_
        rintro e w' ⟨rfl, rfl⟩
        go_wp2_with fail
        refine (A1.out _).mono ?_
        rintro e w5 ⟨rfl, hb5⟩
        obtain ⟨⟨g0, g1, g2⟩, ⟨h0, h1, h2⟩, ⟨m0, m1, m2⟩, ⟨n0, n1, n2⟩, hbl⟩ := TD.out w5 hb5
        have HBL := Lib.hid hbl
        clear hb5 hbl a0 a1 a2 b0 b1 b2 f0 f1 f2 e0 e1 e2 TD
        go_wp2
        exact bodyPost_ret (v := .tuple #[.agg #[.bool ng, .string T, .string SY], .bool true]) (by simp [results, Tryd.results43, go_sem, g0, g1, g2, h0, h1, h2]) rfl ⟨agg3 rfl HT'.out.symm HSY.out.symm rfl, (((HBL.out.setCell (by simp) _).setCell (by simp) _).setCell (by simp) _).setCell (by simp) _⟩
end Go.Proofs.YtlobinjdgcidmaaDoor
