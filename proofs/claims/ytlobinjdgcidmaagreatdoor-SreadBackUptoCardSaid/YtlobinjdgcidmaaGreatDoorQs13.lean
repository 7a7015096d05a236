/- Texts of ours in one: ZUd VAppG WTk YRow. -/
import Derived.Test.YtlobinjdgcidmaaGreatDoorQs08
import Derived.Test.YtlobinjdgcidmaaGreatDoorQs02
import Derived.Test.YtlobinjdgcidmaaGreatDoorQs10
import Derived.Test.YtlobinjdgcidmaaGreatDoorQs12
import Derived.Maps.AppendAt
import Derived.OneCell
import Derived.Deep.QuietTactic
import Derived.BigQuiet
import Derived.OrdersHeld
import Derived.Deep.MidRow
import Derived.Deep.AppendLies
import Derived.Laws.OwnMore
/- jparse.Units of the program: escape, element, units.Append, Units. -/
namespace Go.Proofs.YtlobinjdgcidmaaGreatDoor
open Go.RowKit
set_option linter.unusedVariables false
set_option linter.unusedSimpArgs false

theorem nx_nextAt (s : List UInt8) (h : 0 < s.length) : M.nextAt s 0 = (((M.dec s).1 : Int), ((M.dec s).2 : Int), (M.nx s).2.2) := by
  unfold M.nextAt
  rw [if_neg (by omega)]
  show M.nx s = _
  unfold M.nx
  split
  · rename_i h; rw [h]; rfl
  · rfl
set_option maxRecDepth 100000 in
set_option maxHeartbeats 4000000 in
theorem escapez_any (v : Value) (u : List UInt8) (w : World) (hT : TabX w) (hb : Bs w v (92 :: u)) (hl : u.length ≤ 1048000) :
    Calls Tryz.prog 108 #[v] w (ElQ (M.elS (92 :: u)) w) := by
  obtain ⟨b, off, cap, rfl, h1, h2, h3, hc⟩ := bs_open hb (by simp)
  match u with
  | [] =>
    have hE : M.elS [92] = (0, 0) := by decide
    rw [hE]
    unfold ElQ
    simp only [List.length_cons, List.length_nil, Nat.zero_add]
    clear hT hb hc h1 h2 h3
    go_enter Tryz.func108, Tryz.ntmps108
    go_wp2
    go_ret2
    exact ⟨rfl, Below.refl _ _⟩
  | d :: t =>
    obtain ⟨n, hn⟩ : ∃ n, t.length + 2 = n := ⟨_, rfl⟩
    have hlen : (92 :: d :: t : List UInt8).length = n := by simp; omega
    rw [hlen] at h1 hc hb ⊢
    have c1 := hc 1 (by omega)
    have hd : (92 :: d :: t : List UInt8).getD 1 0 = d := rfl
    rw [hd] at c1
    have n1 : ¬ (n : Int) = 1 := by omega
    have n2 : (1 : Int) < n := by omega
    by_cases h117 : d = 117
    · subst h117
      have NA := Lib.hid (numberedz_any t b off n cap w hT hn hb (by simp at hl; omega))
      unfold ElQ at NA ⊢
      obtain ⟨⟨R1, R2⟩, hR⟩ : ∃ R, M.elS (92 :: 117 :: t) = R := ⟨_, rfl⟩
      rw [hR] at NA ⊢
      have c1' : w.cell? ⟨b, off + 1, none⟩ = some (.int .u8 117) := c1
      clear hT hb hc h1 h2 h3 c1 hR hlen hd hl hn
      go_enter Tryz.func108, Tryz.ntmps108
      go_wp2_with fail
      refine NA.out.mono ?_
      rintro e w1 ⟨rfl, hb1⟩
      have HB := Lib.hid hb1
      clear hb1
      go_wp2
      go_ret2
      exact ⟨rfl, HB.out⟩
    · rw [M.elS_esc d t h117]
      unfold ElQ
      by_cases k0 : d = 34
      · subst k0
        rw [if_pos (by decide)]
        have c1' : w.cell? ⟨b, off + 1, none⟩ = some (.int .u8 34) := c1
        clear hT hb hc h1 h2 h3 c1 hlen hd hl hn
        go_enter Tryz.func108, Tryz.ntmps108
        go_wp2
        go_ret2
        exact ⟨rfl, Below.refl _ _⟩
      by_cases k1 : d = 92
      · subst k1
        rw [if_pos (by decide)]
        have c1' : w.cell? ⟨b, off + 1, none⟩ = some (.int .u8 92) := c1
        clear hT hb hc h1 h2 h3 c1 hlen hd hl hn
        go_enter Tryz.func108, Tryz.ntmps108
        go_wp2
        go_ret2
        exact ⟨rfl, Below.refl _ _⟩
      by_cases k2 : d = 47
      · subst k2
        rw [if_pos (by decide)]
        have c1' : w.cell? ⟨b, off + 1, none⟩ = some (.int .u8 47) := c1
        clear hT hb hc h1 h2 h3 c1 hlen hd hl hn
        go_enter Tryz.func108, Tryz.ntmps108
        go_wp2
        go_ret2
        exact ⟨rfl, Below.refl _ _⟩
      by_cases k3 : d = 98
      · subst k3
        rw [if_pos (by decide)]
        have c1' : w.cell? ⟨b, off + 1, none⟩ = some (.int .u8 98) := c1
        clear hT hb hc h1 h2 h3 c1 hlen hd hl hn
        go_enter Tryz.func108, Tryz.ntmps108
        go_wp2
        go_ret2
        exact ⟨rfl, Below.refl _ _⟩
      by_cases k4 : d = 102
      · subst k4
        rw [if_pos (by decide)]
        have c1' : w.cell? ⟨b, off + 1, none⟩ = some (.int .u8 102) := c1
        clear hT hb hc h1 h2 h3 c1 hlen hd hl hn
        go_enter Tryz.func108, Tryz.ntmps108
        go_wp2
        go_ret2
        exact ⟨rfl, Below.refl _ _⟩
      by_cases k5 : d = 110
      · subst k5
        rw [if_pos (by decide)]
        have c1' : w.cell? ⟨b, off + 1, none⟩ = some (.int .u8 110) := c1
        clear hT hb hc h1 h2 h3 c1 hlen hd hl hn
        go_enter Tryz.func108, Tryz.ntmps108
        go_wp2
        go_ret2
        exact ⟨rfl, Below.refl _ _⟩
      by_cases k6 : d = 114
      · subst k6
        rw [if_pos (by decide)]
        have c1' : w.cell? ⟨b, off + 1, none⟩ = some (.int .u8 114) := c1
        clear hT hb hc h1 h2 h3 c1 hlen hd hl hn
        go_enter Tryz.func108, Tryz.ntmps108
        go_wp2
        go_ret2
        exact ⟨rfl, Below.refl _ _⟩
      by_cases k7 : d = 116
      · subst k7
        rw [if_pos (by decide)]
        have c1' : w.cell? ⟨b, off + 1, none⟩ = some (.int .u8 116) := c1
        clear hT hb hc h1 h2 h3 c1 hlen hd hl hn
        go_enter Tryz.func108, Tryz.ntmps108
        go_wp2
        go_ret2
        exact ⟨rfl, Below.refl _ _⟩
      have hne : d ∉ M.escL := by
        unfold M.escL
        simp only [List.mem_cons, List.mem_nil_iff, or_false, not_or]
        exact ⟨k0, k1, k2, k3, k4, k5, k6, k7⟩
      rw [if_neg hne]
      have q : ∀ (x : UInt8) (X : Int), (x.toNat : Int) = X → ¬ d = x → ¬ (d.toNat : Int) = X := fun x X hx hd e => hd (UInt8.toNat_inj.mp (by omega))
      have q0 := q 34 34 rfl k0
      have q1 := q 92 92 rfl k1
      have q2 := q 47 47 rfl k2
      have q3 := q 98 98 rfl k3
      have q4 := q 102 102 rfl k4
      have q5 := q 110 110 rfl k5
      have q6 := q 114 114 rfl k6
      have q7 := q 116 116 rfl k7
      have q8 := q 117 117 rfl h117
      obtain ⟨D, hD⟩ : ∃ D : Int, (d.toNat : Int) = D := ⟨_, rfl⟩
      rw [hD] at c1 q0 q1 q2 q3 q4 q5 q6 q7 q8
      clear hT hb hc h1 h2 h3 hlen hd hl hn q hD k0 k1 k2 k3 k4 k5 k6 k7 hne h117
      go_enter Tryz.func108, Tryz.ntmps108
      go_wp2
      go_ret2
      exact ⟨rfl, Below.refl _ _⟩
set_option maxRecDepth 100000 in
set_option maxHeartbeats 4000000 in
theorem elementz_any (v : Value) (s : List UInt8) (w : World) (hT : TabX w) (hb : Bs w v s) (h0 : 0 < s.length) (hl : s.length ≤ 1048000) :
    Calls Tryz.prog 92 #[v] w (ElQ (M.elS s) w) := by
  match s, h0 with
  | c :: u, _ =>
    have HB := Lib.hid hb
    obtain ⟨b, off, cap, rfl, h1, h2, h3, hc⟩ := bs_open hb (by simp)
    have c0 := hc 0 (by simp)
    have n0 : ((0 : Int) < ((c :: u).length : Int)) := by simp only [List.length_cons]; omega
    rw [Nat.add_zero, List.getD_cons_zero] at c0
    by_cases h92 : c = 92
    · subst h92
      have NA := Lib.hid (escapez_any _ u w hT hb (by simp at hl; omega))
      unfold ElQ at NA ⊢
      obtain ⟨⟨R1, R2⟩, hR⟩ : ∃ R, M.elS (92 :: u) = R := ⟨_, rfl⟩
      rw [hR] at NA ⊢
      have c0' : w.cell? ⟨b, off, none⟩ = some (.int .u8 92) := c0
      obtain ⟨n, hn⟩ : ∃ n, (92 :: u).length = n := ⟨_, rfl⟩
      rw [hn] at NA n0 ⊢
      clear hT hb hc h1 h2 h3 c0 hR hl hn HB
      go_enter Tryz.func92, Tryz.ntmps92
      go_wp2_with fail
      refine NA.out.mono ?_
      rintro e w1 ⟨rfl, hb1⟩
      have HB := Lib.hid hb1
      clear hb1
      go_wp2
      go_ret2
      exact ⟨rfl, HB.out⟩
    · rw [M.elS_cp c u h92]
      have nN := nx_nextAt (c :: u) (by simp)
      have NA := Lib.hid (next_any _ (c :: u) 0 _ w hT.tab hb (by omega) nN)
      unfold ElQ
      have hne : ¬ (c.toNat : Int) = 92 := fun e => h92 (UInt8.toNat_inj.mp (by have : (92 : UInt8).toNat = 92 := rfl; omega))
      obtain ⟨D, hD⟩ : ∃ D : Int, (c.toNat : Int) = D := ⟨_, rfl⟩
      rw [hD] at c0 hne
      obtain ⟨⟨R, N⟩, hR⟩ : ∃ R, M.dec (c :: u) = R := ⟨_, rfl⟩
      obtain ⟨ok, hok⟩ : ∃ R, (M.nx (c :: u)).2.2 = R := ⟨_, rfl⟩
      rw [hR, hok] at NA
      rw [hR, hok]
      obtain ⟨n, hn⟩ : ∃ n, (c :: u).length = n := ⟨_, rfl⟩
      rw [hn] at NA n0 ⊢
      unfold tri at NA
      simp only at NA ⊢
      have A1 : R < 32 ∨ R = 34 ∨ (32 ≤ R ∧ R ≠ 34) := by omega
      clear hT hb hc h1 h2 h3 hD h92 hR hl hn HB nN hok
      cases ok with
      | false =>
        rw [if_neg (by simp)]
        go_enter Tryz.func92, Tryz.ntmps92
        go_wp2_with fail
        refine NA.out.mono ?_
        rintro e w1 ⟨rfl, hb1⟩
        have HB := Lib.hid hb1
        clear hb1
        go_wp2
        go_ret2
        exact ⟨rfl, HB.out⟩
      | true =>
        rcases A1 with a | a | ⟨a, a2⟩
        · rw [if_neg (by omega)]
          have a' : (R : Int) < 32 := by omega
          clear a
          obtain ⟨Z, hZ⟩ : ∃ Z : Int, (R : Int) = Z := ⟨_, rfl⟩
          rw [hZ] at NA a'
          clear hZ
          go_enter Tryz.func92, Tryz.ntmps92
          go_wp2_with fail
          refine NA.out.mono ?_
          rintro e w1 ⟨rfl, hb1⟩
          have HB := Lib.hid hb1
          clear hb1
          go_wp2
          go_ret2
          exact ⟨rfl, HB.out⟩
        · subst a
          rw [if_neg (by simp)]
          go_enter Tryz.func92, Tryz.ntmps92
          go_wp2_with fail
          refine NA.out.mono ?_
          rintro e w1 ⟨rfl, hb1⟩
          have HB := Lib.hid hb1
          clear hb1
          go_wp2
          go_ret2
          exact ⟨rfl, HB.out⟩
        · rw [if_pos ⟨rfl, a, a2⟩]
          have a' : ¬ (R : Int) < 32 := by omega
          have a2' : ¬ (R : Int) = 34 := by omega
          clear a a2
          obtain ⟨Z, hZ⟩ : ∃ Z : Int, (R : Int) = Z := ⟨_, rfl⟩
          rw [hZ] at NA a' a2' ⊢
          have b1 : decide (Z < 32) = false := by simpa using a'
          have b2 : (Z == 34) = false := by simpa using a2'
          clear hZ
          go_enter Tryz.func92, Tryz.ntmps92
          go_wp2_with fail
          refine NA.out.mono ?_
          rintro e w1 ⟨rfl, hb1⟩
          have HB := Lib.hid hb1
          clear hb1
          go_wp2
          go_ret2
          exact ⟨rfl, HB.out⟩
set_option maxRecDepth 100000 in
set_option maxHeartbeats 1000000 in
theorem uappz_any (B : Nat) (v : Value) (l : List Nat) (r : Nat) (t : List Nat) (w : World) (ho : OwnI B w v (iN l)) (hr : r ≤ 1114111) (hl : l.length ≤ 2097152) (hB : B ≤ w.heap.size) (ht : l ++ M.pairU r = t) :
    Calls Tryz.prog 93 #[v, .int .i64 (r : Int)] w fun e w' => ∃ v', e = .returned v' ∧ OwnI B w' v' (iN t) ∧ Below B w w' := by
  have sand1023 : ∀ n : Int, 0 ≤ n → n ≤ 1114111 → bits .and .i64 n 1023 = n % 1024 := fun n h0 h1 => bits_mask .i64 62 (by decide) (fun n h₀ h₁ => by rw [IntKind.wrap_i64]; omega) 10 (by decide) n h0 (by omega)
  unfold M.pairU at ht
  obtain ⟨R, hR⟩ : ∃ R : Int, (r : Int) = R := ⟨_, rfl⟩
  have R0 : 0 ≤ R := by omega
  have R1 : R ≤ 1114111 := by omega
  have Ho := Lib.hid ho
  by_cases h : r < 65536
  · rw [if_pos h] at ht
    have h' : R < 65536 := by omega
    have e : iN l ++ [R] = iN t := by rw [← ht, iN_append]; simp [iN, hR]
    have He := Lib.hid e
    rw [hR]
    clear e hR h ht ho hr
    go_enter Tryz.func93, Tryz.ntmps93
    go_wp2_with (at_builtin; refine wpl_appendI rfl _ _ rfl B _ (.slice (some ⟨w.heap.size, 0, none⟩) 1 1) (iN l) [R] (iN t) rfl (ownsRow_keep Ho.out ((Below.refl _ _).alloc (Nat.le_refl _) _)) rfl (is_one w _) (nn_some _ _ _) (by rw [iN_len]; simp; omega) (by simp; omega) He.out ?_)
    intro v3 w3 ho3 hb3
    have hb4 := ((Below.refl B w).alloc hB _).trans hb3
    clear hb3
    go_wp2
    go_ret
    exact ⟨_, rfl, ho3, hb4⟩
  · rw [if_neg h] at ht
    have h' : 65536 ≤ R := by omega
    have hand := sand1023 (R - 65536) (by omega) (by omega)
    have hand2 : (0 : Int) ≤ (R - 65536) % 1024 := by omega
    have hand3 : (R - 65536) % 1024 < 1024 := by omega
    have hd2 : (0 : Int) ≤ (R - 65536) / 1024 := by omega
    have hd3 : (R - 65536) / 1024 < 1024 := by omega
    have e : iN l ++ [55296 + (R - 65536) / 1024, 56320 + (R - 65536) % 1024] = iN t := by
      rw [← ht, iN_append]
      congr 1
      simp only [iN, List.map_cons, List.map_nil]
      have q1 : ((55296 + (r - 65536) / 1024 : Nat) : Int) = 55296 + (R - 65536) / 1024 := by omega
      have q2 : ((56320 + (r - 65536) % 1024 : Nat) : Int) = 56320 + (R - 65536) % 1024 := by omega
      rw [q1, q2]
    have He := Lib.hid e
    rw [hR]
    clear e hR h ht ho hr
    go_enter Tryz.func93, Tryz.ntmps93
    go_wp2_with (at_builtin; refine wpl_appendI rfl _ _ rfl B _ (.slice (some ⟨w.heap.size, 0, none⟩) 2 2) (iN l) [55296 + (R - 65536) / 1024, 56320 + (R - 65536) % 1024] (iN t) rfl (ownsRow_keep Ho.out ((Below.refl _ _).alloc (Nat.le_refl _) _)) rfl (is_two w _ _) (nn_some _ _ _) (by rw [iN_len]; simp; omega) (by simp; omega) He.out ?_)
    intro v3 w3 ho3 hb3
    have hb4 := ((Below.refl B w).alloc hB _).trans hb3
    clear hb3
    go_wp2
    go_ret
    exact ⟨_, rfl, ho3, hb4⟩
end Go.Proofs.YtlobinjdgcidmaaGreatDoor
/- append of structs onto structs of the call's own, with word of which block the row lies in behind it: no other changes. -/
namespace Go.Proofs.YtlobinjdgcidmaaGreatDoor
open Go.RowKit
set_option linter.unusedVariables false

theorem wpl_appendVG {w : World} {ops : Array Oper} {rest : List Oper} {o : Oper} {a : Act} {Q : Exit → Act → World → Prop} {E T sz bytes : Nat} {z : Value} (hgd : o.guard = none) (s x : Operand)
    (ho : o.op = .call { callee := .builtin .append, args := #[s, x], argTypes := #[T, T] }) (hT : Tryz.prog.underlying T = some (.slice E)) (hinfo : (Tryz.prog.info? E).map (fun i => (i.zero, i.size, i.bytes)) = some (some z, sz, bytes)) (hz : z.cells.size = sz) (h0 : 0 < sz)
    (B : Nat) (v u : Value) (l k t : List (List Value)) (hs : a.eval s = v) (hown : OwnV E sz B w v l) (hx : a.eval x = u) (hu : Vs sz w u k) (hnn : NNv u) (hk : ∀ y ∈ k, y.length = sz) (hk1 : ∀ y ∈ k, ∀ c ∈ y, c.oneCell' = true)
    (hlen : (l.length + k.length) * bytes ≤ 140737488355328) (hb0 : 0 < bytes) (hB : B ≤ w.heap.size) (ht : l ++ k = t)
    (h : ∀ v' w', OwnV E sz B w' v' t → Below B w w' → (∀ j, j < w.heap.size → some j ≠ v.ownBlock → w'.heap[j]? = w.heap[j]?) → (v'.ownBlock = v.ownBlock ∨ v'.ownBlock = some w.heap.size) → wpList Tryz.prog ops Q rest (a.put o.dst v') w') : wpList Tryz.prog ops Q (o :: rest) a w := by
  subst ht
  obtain ⟨i0, hi, hz0, hz1, hz2⟩ := info_parts hinfo
  obtain ⟨ad, cap, rfl, h1, h2, h3⟩ := hu
  obtain ⟨hown, hsz, hone⟩ := hown
  have hlt := World.ownsRow.lt hown
  have hmax : l.length + k.length ≤ 140737488355328 := Nat.le_trans (Nat.le_mul_of_pos_right _ hb0) hlen
  have hall : (∀ y ∈ l ++ k, y.length = sz) ∧ ∀ y ∈ l ++ k, ∀ c ∈ y, c.oneCell' = true := by
    refine ⟨fun y hy => ?_, fun y hy => ?_⟩
    · rcases List.mem_append.1 hy with hy | hy
      · exact hsz y hy
      · exact hk y hy
    · rcases List.mem_append.1 hy with hy | hy
      · exact hone y hy
      · exact hk1 y hy
  cases ad with
  | none =>
    have hk0 : k = [] := by
      cases k with
      | nil => rfl
      | cons c k => obtain ⟨b, off, h, _⟩ := h3 (by simp); exact absurd h (by simp)
    subst hk0
    obtain rfl := hnn _ _ rfl
    refine wpList_append_own_none hgd s x T ho B E i0 sz hT hi v l.length l.flatten hs hown hx ?_
    exact h v w (by rw [List.append_nil]; exact ⟨hown, hsz, hone⟩) (Below.refl _ _) (fun _ _ _ => rfl) (.inl rfl)
  | some ad =>
    have hcs : ∀ j c, k.flatten[j]? = some c → w.cell? (ad.add j) = some c := by
      intro j c hj
      have hjl := (List.getElem?_eq_some_iff.1 hj).1
      rw [flat_len k hk] at hjl
      have hk0 : 0 < k.length := by
        rcases Nat.eq_zero_or_pos k.length with e | e
        · rw [e, Nat.zero_mul] at hjl; omega
        · exact e
      obtain ⟨b, off, hab, _, hc⟩ := h3 hk0
      obtain rfl : ad = ⟨b, off, none⟩ := by simpa using hab
      have hq : j / sz < k.length := by rw [Nat.div_lt_iff_lt_mul h0]; exact hjl
      have hm : j % sz < sz := Nat.mod_lt _ h0
      have he : j / sz * sz + j % sz = j := by rw [Nat.mul_comm]; exact Nat.div_add_mod j sz
      have hf := flat_get k hk (j / sz) hq (j % sz) hm
      rw [he, hj] at hf
      rw [Go.WideShapes.add_plain]
      have := hc (j / sz) hq (j % sz) c hf.symm
      rwa [he] at this
    refine wpList_append_own_at _ hgd s x T ho B E i0 z sz bytes hT hi hz0 hz1 hz2 hz h0 v l.length l.flatten hs hown ad k.length cap k.flatten hx (flat_len k hk) hcs (fun u hu => ?_) (by unfold maxLen; omega) hlen hB ?_
    · obtain ⟨y, hy, hu⟩ := List.mem_flatten.1 hu
      exact hk1 y hy u hu
    · intro v' w' hown' hg _ hwh
      refine h v' w' ⟨?_, hall.1, hall.2⟩ ((Below.refl B w).grown hg hB (fun j hj => (hlt j hj).1)) (fun j h1 h2 => hg.block j h1 h2) hwh
      rw [← List.flatten_append, ← List.length_append] at hown'
      exact hown'
theorem OwnV.setOther {E sz B : Nat} {w : World} {v : Value} {l : List (List Value)} (h : OwnV E sz B w v l) (a : Addr) (u : Value) (hne : v.ownBlock ≠ some a.block) : OwnV E sz B (w.setCell a u) v l :=
  ⟨ownsRow_setCell_other h.1 hne u, h.2.1, h.2.2⟩
end Go.Proofs.YtlobinjdgcidmaaGreatDoor
/- A region whose order is drawn: one operation is taken, in short words. -/
namespace Go.Proofs.YtlobinjdgcidmaaGreatDoor
open Go.RowKit
set_option linter.unusedVariables false
set_option linter.unusedSimpArgs false
theorem rtk {P : Program} {md : Region.Mode} {ops : Array Oper} {Q : Exit → Act → World → Prop} {S : World → Prop} (i : Nat) {oi : Oper} {v : Value} {fuel : Nat} {listed l2 : Array Bool} {a a2 : Act} {w : World}
    (h : wpAnyH P md ops Q S fuel l2 a2 w)
    (hi : ops[i]? = some oi := by exact (List.getElem?_toArray.trans (by simp only [List.getElem?_cons_succ, List.getElem?_cons_zero]; exact rfl)))
    (hy : YieldsIf P ops S oi v a := by exact Or.inl ⟨by rfl, by intro V hSV; (try dsimp only at hSV); (try obtain ⟨s0, s1, s2, s3, s4, s5, s6, s7, s8, s9, s10, s11, s12⟩ := hSV); go_simp; (try rw [if_neg (by omega)]); (try with_reducible rfl)⟩)
    (hs : Region.noSelect ops = true := by kernel_rfl) (hf : Region.free md ops listed i = true := by kernel_rfl) (hr : (Region.ready md ops listed).contains i = true := by kernel_rfl)
    (hQ : ∀ c a w, Q (.panic c) (a.put oi.dst v) w → Q (.panic c) a w := by exact fun _ _ _ h => h) (hS : S w := by assumption)
    (hl : listed.setIfInBounds i true = l2 := by first | (simp only [List.getElem_toArray, List.getElem_cons_succ, List.getElem_cons_zero, Act.put, List.setIfInBounds_toArray, List.set_cons_zero, List.set_cons_succ]; done) | (simp only [List.getElem_toArray, List.getElem_cons_succ, List.getElem_cons_zero, Act.put, List.setIfInBounds_toArray, List.set_cons_zero, List.set_cons_succ]; exact rfl) | exact rfl)
    (ha : a.put oi.dst v = a2 := by first | (simp only [List.getElem_toArray, List.getElem_cons_succ, List.getElem_cons_zero, Act.put, List.setIfInBounds_toArray, List.set_cons_zero, List.set_cons_succ]; done) | (simp only [List.getElem_toArray, List.getElem_cons_succ, List.getElem_cons_zero, Act.put, List.setIfInBounds_toArray, List.set_cons_zero, List.set_cons_succ]; exact rfl) | exact rfl) :
    wpAnyH P md ops Q S (fuel + 1) listed a w :=
  wpAnyH_take hi hs hf hr hQ hy hS (by rw [hl, ha]; exact h)
theorem rts {P : Program} {md : Region.Mode} {ops : Array Oper} {Q : Exit → Act → World → Prop} {S : World → Prop} (i : Nat) {oi : Oper} {fuel : Nat} {listed l2 : Array Bool} {a a2 : Act} {w : World}
    (h : wpAnyH P md ops Q S fuel l2 a2 w)
    (hi : ops[i]? = some oi := by exact (List.getElem?_toArray.trans (by simp only [List.getElem?_cons_succ, List.getElem?_cons_zero]; exact rfl)))
    (hn : Region.wanted oi (yielded ops a.tmps) = false := by rfl)
    (hs : Region.noSelect ops = true := by kernel_rfl) (hf : Region.free md ops listed i = true := by kernel_rfl) (hr : (Region.ready md ops listed).contains i = true := by kernel_rfl)
    (hQ : ∀ c a w, Q (.panic c) (a.put oi.dst undef) w → Q (.panic c) a w := by exact fun _ _ _ h => h) (hS : S w := by assumption)
    (hl : listed.setIfInBounds i true = l2 := by first | (simp only [List.getElem_toArray, List.getElem_cons_succ, List.getElem_cons_zero, Act.put, List.setIfInBounds_toArray, List.set_cons_zero, List.set_cons_succ]; done) | (simp only [List.getElem_toArray, List.getElem_cons_succ, List.getElem_cons_zero, Act.put, List.setIfInBounds_toArray, List.set_cons_zero, List.set_cons_succ]; exact rfl) | exact rfl)
    (ha : a.put oi.dst undef = a2 := by first | (simp only [List.getElem_toArray, List.getElem_cons_succ, List.getElem_cons_zero, Act.put, List.setIfInBounds_toArray, List.set_cons_zero, List.set_cons_succ]; done) | (simp only [List.getElem_toArray, List.getElem_cons_succ, List.getElem_cons_zero, Act.put, List.setIfInBounds_toArray, List.set_cons_zero, List.set_cons_succ]; exact rfl) | exact rfl) :
    wpAnyH P md ops Q S (fuel + 1) listed a w :=
  wpAnyH_take hi hs hf hr hQ (Or.inr ⟨hn, rfl⟩) hS (by rw [hl, ha]; exact h)
end Go.Proofs.YtlobinjdgcidmaaGreatDoor
/- Rows of structs of the call's own: a whole struct is stored in the midst of a row; blocks of known cells. -/
namespace Go.Proofs.YtlobinjdgcidmaaGreatDoor
open Go.RowKit
set_option linter.unusedVariables false
set_option linter.unusedSimpArgs false

def setL (xs : List Value) : Nat → List Value → List Value
  | _, [] => xs
  | o, v :: r => setL (xs.set o v) (o + 1) r
theorem setL_append (vs : List Value) : ∀ (A Z : List Value), Z.length = vs.length → setL (A ++ Z) A.length vs = A ++ vs := by
  induction vs with
  | nil => intro A Z h; simp only [List.length_nil, List.length_eq_zero_iff] at h; subst h; rfl
  | cons v r ih =>
    intro A Z h
    cases Z with
    | nil => simp at h
    | cons z Z =>
      simp only [setL]
      have e : (A ++ z :: Z).set A.length v = (A ++ [v]) ++ Z := by simp
      rw [e]
      have := ih (A ++ [v]) Z (by simpa using h)
      simp only [List.length_append, List.length_singleton] at this
      rw [this]; simp
theorem setCells_other (g : Nat) (vs : List Value) : ∀ (o : Nat) (w : World) (k : Nat), k ≠ g → (w.setCells g o vs).heap[k]? = w.heap[k]? := by
  induction vs with
  | nil => intro o w k _; rfl
  | cons v r ih => intro o w k h; rw [World.setCells, ih _ _ _ h, heap_setCell_other _ _ _ _ h]
theorem below_setCells {B : Nat} {a w : World} (h : Below B a w) {g : Nat} (hg : B ≤ g) (vs : List Value) : ∀ (o : Nat), Below B a (w.setCells g o vs) := by
  induction vs generalizing w with
  | nil => intro o; exact h
  | cons v r ih => intro o; exact ih (h.setCell hg v) (o + 1)
theorem ownsRow_setCells {base e size n g cap : Nat} (vs : List Value) : ∀ (w : World) (xs : List Value) (o : Nat), w.ownsRow base e size (.slice (some ⟨g, 0, none⟩) n cap) n xs → (w.setCells g o vs).ownsRow base e size (.slice (some ⟨g, 0, none⟩) n cap) n (setL xs o vs) := by
  induction vs with
  | nil => intro w xs o h; exact h
  | cons v r ih => intro w xs o h; exact ih _ _ _ (h.stored o v).1
theorem ownsRow_there {w : World} {base e size n g cap : Nat} {xs : List Value} (h : w.ownsRow base e size (.slice (some ⟨g, 0, none⟩) n cap) n xs) (o k : Nat) (hk : o + k ≤ n * size) : w.there g o k := by
  intro j hj
  have hl := h.1
  have hlt : o + j < xs.length := by omega
  have := World.ownsRow.cells h rfl (o + j) xs[o + j] (List.getElem?_eq_getElem hlt)
  rw [Addr.add_mid, Nat.zero_add] at this
  exact ⟨by rw [this]; rfl, h.frozenAt (o + j)⟩
theorem OwnV.setLast {E sz B : Nat} {w : World} {g cap n : Nat} {l : List (List Value)} {z y : List Value} (h : OwnV E sz B w (.slice (some ⟨g, 0, none⟩) n cap) (l ++ [z])) (hn : l.length + 1 = n) (hy : y.length = sz) (hy1 : ∀ c ∈ y, c.oneCell' = true) :
    OwnV E sz B (w.setCells g (l.length * sz) y) (.slice (some ⟨g, 0, none⟩) n cap) (l ++ [y]) := by
  obtain ⟨h1, h2, h3⟩ := h
  have hz : z.length = sz := h2 z (by simp)
  have hl : l.flatten.length = l.length * sz := flat_len l fun x hx => h2 x (by simp [hx])
  rw [List.length_append, List.length_singleton, hn] at h1
  have := ownsRow_setCells y w _ (l.length * sz) h1
  rw [List.flatten_append, ← hl, List.flatten_singleton, setL_append y _ _ (by rw [hz, hy])] at this
  refine ⟨?_, fun x hx => ?_, fun x hx => ?_⟩
  · rw [List.length_append, List.length_singleton, hn, List.flatten_append, List.flatten_singleton, ← hl]
    exact this
  · rcases List.mem_append.1 hx with hx | hx
    · exact h2 x (by simp [hx])
    · rw [List.mem_singleton.1 hx]; exact hy
  · rcases List.mem_append.1 hx with hx | hx
    · exact h3 x (by simp [hx])
    · rw [List.mem_singleton.1 hx]; exact hy1
theorem own_in {E sz B : Nat} {w : World} {v : Value} {l : List (List Value)} (h : OwnV E sz B w v l) : ∀ j, v.ownBlock = some j → B ≤ j ∧ j < w.heap.size := fun j hj => World.ownsRow.lt h.1 j hj
def BK (T : TypeId) (w : World) (b : Nat) (cs : Array Value) : Prop := w.heap[b]? = some (.cells cs T (0, 0))
theorem BK.new (T : TypeId) (w : World) (cs : Array Value) : BK T (w.alloc (.cells cs T)) w.heap.size cs := heap_alloc_new w _
theorem BK.lt {T : TypeId} {w : World} {b : Nat} {cs : Array Value} (h : BK T w b cs) : b < w.heap.size := (Array.getElem?_eq_some_iff.1 h).1
theorem BK.cell {T : TypeId} {w : World} {b : Nat} {cs : Array Value} (h : BK T w b cs) (j : Nat) : w.cell? ⟨b, j, none⟩ = cs[j]? := cell_of_row w b j cs _ _ h
theorem BK.keep {T : TypeId} {w w' : World} {b : Nat} {cs : Array Value} (h : BK T w b cs) (hb : Below w.heap.size w w') : BK T w' b cs := by
  unfold BK; rw [hb.block b h.lt]; exact h
theorem BK.keepB {T : TypeId} {B : Nat} {w w' : World} {b : Nat} {cs : Array Value} (h : BK T w b cs) (hb : Below B w w') (hB : b < B) : BK T w' b cs := by
  unfold BK; rw [hb.block b hB]; exact h
theorem BK.frame {T : TypeId} {w w' : World} {b : Nat} {cs : Array Value} (h : BK T w b cs) (hb : w'.heap[b]? = w.heap[b]?) : BK T w' b cs := by
  unfold BK; rw [hb]; exact h
theorem BK.set {T : TypeId} {w : World} {b : Nat} {cs : Array Value} (h : BK T w b cs) (ds : Array Value) : BK T (w.setRow b ds) b ds := setRow_heap w b cs ds _ _ h
theorem BK.setCell {T : TypeId} {w : World} {b : Nat} {cs : Array Value} (h : BK T w b cs) (j : Nat) (u : Value) : BK T (w.setCell ⟨b, j, none⟩ u) b (cs.setIfInBounds j u) := heap_setCell_same w b j cs T u h
theorem BK.other {T : TypeId} {w : World} {b : Nat} {cs : Array Value} (h : BK T w b cs) {c : Nat} (hne : b ≠ c) (j : Nat) (u : Value) : BK T (w.setCell ⟨c, j, none⟩ u) b cs := by
  unfold BK; rw [heap_setCell_other _ _ _ _ hne]; exact h
theorem BK.range {T : TypeId} {w : World} {b : Nat} {cs : Array Value} (h : BK T w b cs) (o : Nat) (vs : List Value) (hv : ∀ j u, vs[j]? = some u → cs[o + j]? = some u) : w.rangeAt b o vs := fun j u hu => (h.cell (o + j)).trans (hv j u hu)
theorem BK.there {T : TypeId} {w : World} {b : Nat} {cs : Array Value} (h : BK T w b cs) (o k : Nat) (hk : o + k ≤ cs.size) : w.there b o k := fun j hj =>
  ⟨by rw [h.cell, Array.getElem?_eq_getElem (by omega)]; rfl, frozen_of_row w b (o + j) cs T h⟩
def setA (cs : Array Value) : Nat → List Value → Array Value
  | _, [] => cs
  | o, v :: r => setA (cs.setIfInBounds o v) (o + 1) r
theorem BK.setCells {T : TypeId} {b : Nat} (vs : List Value) : ∀ (w : World) (cs : Array Value) (o : Nat), BK T w b cs → BK T (w.setCells b o vs) b (setA cs o vs) := by
  induction vs with
  | nil => intro w cs o h; exact h
  | cons v r ih => intro w cs o h; exact ih _ _ _ (h.setCell o v)
theorem rangeAt_keep {w w' : World} {b o : Nat} {cs : List Value} (h : w.rangeAt b o cs) (hb : w'.heap[b]? = w.heap[b]?) : w'.rangeAt b o cs := fun j u hu => by
  have := h j u hu
  unfold World.cell? at this ⊢
  rw [hb]; exact this
theorem wp_appV {w : World} {o : Oper} {a : Act} {K : Act → World → Prop} {Q : Exit → Act → World → Prop} {E T sz bytes : Nat} {z : Value} (s x : Operand)
    (ho : o.op = .call { callee := .builtin .append, args := #[s, x], argTypes := #[T, T] }) (hT : Tryz.prog.underlying T = some (.slice E)) (hinfo : (Tryz.prog.info? E).map (fun i => (i.zero, i.size, i.bytes)) = some (some z, sz, bytes)) (hz : z.cells.size = sz) (h0 : 0 < sz)
    (B : Nat) (v : Value) (l t : List (List Value)) (y : List Value) (bz c n : Nat) (hn : l.length = n) (hs : a.eval s = v) (hown : OwnV E sz B w v l) (hx : a.eval x = .slice (some ⟨bz, 0, none⟩) 1 c) (hu : w.rangeAt bz 0 y) (hy : y.length = sz) (hy1 : ∀ c ∈ y, c.oneCell' = true)
    (hlen : (n + 1) * bytes ≤ 140737488355328) (hb0 : 0 < bytes) (hB : B ≤ w.heap.size) (ht : l ++ [y] = t)
    (h : ∀ g cap w', OwnV E sz B w' (.slice (some ⟨g, 0, none⟩) (n + 1) cap) t → Below B w w' → (∀ j, j < w.heap.size → some j ≠ v.ownBlock → w'.heap[j]? = w.heap[j]?) → (v.ownBlock = some g ∨ g = w.heap.size) → g < w'.heap.size → K (a.put o.dst (.slice (some ⟨g, 0, none⟩) (n + 1) cap)) w') : o.wp Tryz.prog a w K Q := by
  subst ht
  subst hn
  obtain ⟨i0, hi, hz0, hz1, hz2⟩ := info_parts hinfo
  obtain ⟨hown, hsz, hone⟩ := hown
  have hlt := World.ownsRow.lt hown
  have hmax : l.length + 1 ≤ 140737488355328 := Nat.le_trans (Nat.le_mul_of_pos_right _ hb0) hlen
  refine wp_append_lies w s x T ho B E i0 z sz bytes hT hi hz0 hz1 hz2 hz h0 v l.length l.flatten hs hown ⟨bz, 0, none⟩ 1 c y hx (by rw [hy, Nat.one_mul]) (fun j u hu' => by rw [Addr.add_mid]; exact hu j u hu') hy1 (by decide) (by unfold maxLen; omega) hlen hB _ rfl ?_
  intro g cap w' hown' hg hgo hgl
  refine h g cap w' ⟨?_, ?_, ?_⟩ ((Below.refl B w).grown hg hB (fun j hj => (hlt j hj).1)) (fun j h1 h2 => hg.block j h1 h2) hgo hgl
  · have e : (l ++ [y]).flatten = l.flatten ++ y := by simp
    rw [e, List.length_append]
    exact hown'
  · intro q hq
    rcases List.mem_append.1 hq with hq | hq
    · exact hsz q hq
    · rw [List.mem_singleton.1 hq]; exact hy
  · intro q hq
    rcases List.mem_append.1 hq with hq | hq
    · exact hone q hq
    · rw [List.mem_singleton.1 hq]; exact hy1
theorem wpl_stK {T : TypeId} {sz : Nat} (hinfo : (Tryz.prog.info? T).map (·.size) = some sz) {ops : Array Oper} {rest : List Oper} {o : Oper} {a : Act} {w : World} {Q : Exit → Act → World → Prop} (hgd : o.guard = none) (x y : Operand) (ho : o.op = .store T x y)
    (g : Nat) (old cells : Array Value) (hx : a.eval x = .pointer (some ⟨g, 0, none⟩)) (hy : a.eval y = .agg cells) (hg : BK T w g old) (hs : old.size = sz) (hc : cells.size = sz) (h1 : cells.all (·.oneCell') = true)
    (h : wpList Tryz.prog ops Q rest (a.put o.dst undef) (w.setRow g cells)) : wpList Tryz.prog ops Q (o :: rest) a w :=
  wpList_store_row hgd T x y ho g cells hx hy T old hg (by rw [hc]; exact hinfo) (by rw [hs, hc]) h1 h
theorem res_bk {T : TypeId} {sz : Nat} {d : TypeDesc} (hu : Tryz.prog.underlying T = some d) (hd : d.isRow = true) (hinfo : (Tryz.prog.info? T).map (·.size) = some sz) {fn : Func} {p : Tmp} (h : fn.results = #[.cell p T]) (tmps : Array Value) (w : World) (g : Nat) (cs : List Value)
    (hp : tmps.getD p undef = .pointer (some ⟨g, 0, none⟩)) (hg : BK T w g cs.toArray) (hs : cs.length = sz) :
    (results fn tmps).run Tryz.prog w = .ok (.agg cs.toArray) w := by
  have e : (results fn tmps).run Tryz.prog w = ((asAddr (tmps.getD p undef)).run Tryz.prog w).andThen fun a w₁ => (loadVar T a).run Tryz.prog w₁ := by
    simp only [results, h]
    simp [Sem.run_bind, Result.andThen]
  rw [e, hp]
  have : (asAddr (.pointer (some ⟨g, 0, none⟩))).run Tryz.prog w = .ok ⟨g, 0, none⟩ w := rfl
  rw [this]
  simp only [Result.andThen]
  exact run_loadVar_mid w g 0 T cs d (hg.range 0 cs (by intro j u h; simpa using h)) hu hd (by rw [hs]; exact hinfo)
theorem below_setRowK {B : Nat} {a w : World} (h : Below B a w) {g : Nat} (hg : B ≤ g) (cs : Array Value) : Below B a (w.setRow g cs) :=
  ⟨h.os, h.tape, h.output, by rw [setRow_size]; exact h.size, fun k hk => by rw [setRow_other w g k cs (by omega)]; exact h.block k hk⟩
end Go.Proofs.YtlobinjdgcidmaaGreatDoor
