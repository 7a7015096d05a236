/- Texts of ours in one: JgT. -/
import Derived.Test.YtlobinjdgcidmaaDoorQj38
import Derived.Test.YtlobinjdgcidmaaDoorQj39
import Derived.Test.YtlobinjdgcidmaaDoorQj40
import Derived.Test.YtlobinjdgcidmaaDoorQj41
import Derived.Test.YtlobinjdgcidmaaDoorQj37
import Derived.Deep.Cut
/- Several texts of ours in one: QR3 QR5 QR6. -/
/- Tokens of JSON as the reference reads them: jnumber, for any bytes. -/
namespace Go.Proofs.YtlobinjdgcidmaaDoor
open Go.RowKit

theorem refjn_any (v : Value) (l : List UInt8) (i : Nat) (z : Int) (w : World) (hv : Bs w v l) (hi : i < l.length) (hl : l.length ≤ 1048576) (hr : jnI (M.numL (l.drop i)) i = z) :
    Calls Tryd.prog 40 #[v, .int .i64 (i : Int)] w fun e w' => e = .returned (.int .i64 z) ∧ w = w' := by
  by_cases h1 : l.getD i 0 = 45
  · by_cases h2 : l.getD (i + 1) 0 = 48
    · exact refjn_11 v l i z w hv hi hl hr h1 h2
    · exact refjn_10 v l i z w hv hi hl hr h1 h2
  · by_cases h2 : l.getD i 0 = 48
    · exact refjn_01 v l i z w hv hi hl hr h1 h2
    · exact refjn_00 v l i z w hv hi hl hr h1 h2
end Go.Proofs.YtlobinjdgcidmaaDoor

/- Tokens of JSON as the reference finds them: Jlex, for any bytes: the walk. -/
namespace Go.Proofs.YtlobinjdgcidmaaDoor
open Go.RowKit
set_option linter.unusedVariables false
set_option linter.unusedSimpArgs false

theorem wpl_appendVK {w : World} {ops : Array Oper} {rest : List Oper} {o : Oper} {a : Act} {Q : Exit → Act → World → Prop} {E T sz bytes : Nat} {z : Value} (hgd : o.guard = none) (s x : Operand)
    (ho : o.op = .call { callee := .builtin .append, args := #[s, x], argTypes := #[T, T] }) (hT : Tryd.prog.underlying T = some (.slice E)) (hinfo : (Tryd.prog.info? E).map (fun i => (i.zero, i.size, i.bytes)) = some (some z, sz, bytes)) (hz : z.cells.size = sz) (h0 : 0 < sz)
    (B : Nat) (v u : Value) (l k t : List (List Value)) (hs : a.eval s = v) (hown : OwnV E sz B w v l) (hx : a.eval x = u) (hu : Vs sz w u k) (hnn : NNv u) (hk : ∀ y ∈ k, y.length = sz) (hk1 : ∀ y ∈ k, ∀ c ∈ y, c.oneCell' = true)
    (hlen : (l.length + k.length) * bytes ≤ 140737488355328) (hb0 : 0 < bytes) (hB : B ≤ w.heap.size) (ht : l ++ k = t)
    (h : ∀ v' w', OwnV E sz B w' v' t → Below B w w' → (∀ m, m < w.heap.size → v.ownBlock ≠ some m → w'.heap[m]? = w.heap[m]?) → wpList Tryd.prog ops Q rest (a.put o.dst v') w') : wpList Tryd.prog ops Q (o :: rest) a w := by
  subst ht
  obtain ⟨i0, hi, hz0, hz1, hz2⟩ := info_parts hinfo
  obtain ⟨ad, cap, rfl, h1, h2, h3⟩ := hu
  obtain ⟨hown, hsz, hone⟩ := hown
  have hlt := World.ownsRow.lt hown
  have hmax : l.length + k.length ≤ 140737488355328 := Nat.le_trans (Nat.le_mul_of_pos_right _ hb0) hlen
  have hall : (∀ y ∈ l ++ k, y.length = sz) ∧ ∀ y ∈ l ++ k, ∀ c ∈ y, c.oneCell' = true := by
    refine ⟨fun y hy => ?_, fun y hy => ?_⟩
    · rcases List.mem_append.1 hy with hy | hy
      · exact hsz y hy
      · exact hk y hy
    · rcases List.mem_append.1 hy with hy | hy
      · exact hone y hy
      · exact hk1 y hy
  cases ad with
  | none =>
    have hk0 : k = [] := by
      cases k with
      | nil => rfl
      | cons c k => obtain ⟨b, off, h, _⟩ := h3 (by simp); exact absurd h (by simp)
    subst hk0
    obtain rfl := hnn _ _ rfl
    refine wpList_append_own_none hgd s x T ho B E i0 sz hT hi v l.length l.flatten hs hown hx ?_
    exact h v w (by rw [List.append_nil]; exact ⟨hown, hsz, hone⟩) (Below.refl _ _) (fun _ _ _ => rfl)
  | some ad =>
    have hcs : ∀ j c, k.flatten[j]? = some c → w.cell? (ad.add j) = some c := by
      intro j c hj
      have hjl := (List.getElem?_eq_some_iff.1 hj).1
      rw [flat_len k hk] at hjl
      have hk0 : 0 < k.length := by
        rcases Nat.eq_zero_or_pos k.length with e | e
        · rw [e, Nat.zero_mul] at hjl; omega
        · exact e
      obtain ⟨b, off, hab, _, hc⟩ := h3 hk0
      obtain rfl : ad = ⟨b, off, none⟩ := by simpa using hab
      have hq : j / sz < k.length := by rw [Nat.div_lt_iff_lt_mul h0]; exact hjl
      have hm : j % sz < sz := Nat.mod_lt _ h0
      have he : j / sz * sz + j % sz = j := by rw [Nat.mul_comm]; exact Nat.div_add_mod j sz
      have hf := flat_get k hk (j / sz) hq (j % sz) hm
      rw [he, hj] at hf
      rw [Go.WideShapes.add_plain]
      have := hc (j / sz) hq (j % sz) c hf.symm
      rwa [he] at this
    refine wpList_append_own _ hgd s x T ho B E i0 z sz bytes hT hi hz0 hz1 hz2 hz h0 v l.length l.flatten hs hown ad k.length cap k.flatten hx (flat_len k hk) hcs (fun u hu => ?_) (by unfold maxLen; omega) hlen hB ?_
    · obtain ⟨y, hy, hu⟩ := List.mem_flatten.1 hu
      exact hk1 y hy u hu
    · intro v' w' hown' hg _
      refine h v' w' ⟨?_, hall.1, hall.2⟩ ((Below.refl B w).grown hg hB (fun j hj => (hlt j hj).1)) (fun m hm hne => hg.block m hm (fun e => hne e.symm))
      rw [← List.flatten_append, ← List.length_append] at hown'
      exact hown'
theorem wpl_tokK {w : World} {ops : Array Oper} {rest : List Oper} {o : Oper} {a : Act} {Q : Exit → Act → World → Prop} (hgd : o.guard = none) (s x : Operand)
    (ho : o.op = .call { callee := .builtin .append, args := #[s, x], argTypes := #[53, 53] })
    (B : Nat) (v u : Value) (l t : M.Toks) (k p q : Nat) (hs : a.eval s = v) (hown : OwnT B w v l) (hx : a.eval x = u) (hu : Vs 3 w u (tvs [(k, p, q)])) (hnn : NNv u)
    (hlen : l.length ≤ 4294967296) (hB : B ≤ w.heap.size) (ht : l ++ [(k, p, q)] = t)
    (h : ∀ v' w', OwnT B w' v' t → Below B w w' → (∀ m, m < w.heap.size → v.ownBlock ≠ some m → w'.heap[m]? = w.heap[m]?) → wpList Tryd.prog ops Q rest (a.put o.dst v') w') : wpList Tryd.prog ops Q (o :: rest) a w :=
  wpl_appendVK hgd s x ho Tryd.underlying53 infoT rfl (by decide) B v u (tvs l) (tvs [(k, p, q)]) (tvs t) hs hown hx hu hnn (tvs_three _) (tvs_one _) (by rw [tvs_len, tvs_len]; simp; omega) (by decide) hB (by rw [← ht, tvs_append]) h
theorem ownT_set' {B : Nat} {w : World} {v : Value} {l : M.Toks} (h : OwnT (B + 2) w v l) (i : Nat) (u : Value) : OwnT (B + 2) (w.setCell ⟨B, i, none⟩ u) v l := by
  obtain ⟨⟨h1, h2 | ⟨g, cap, cur, rfl, a, b, c⟩⟩, h3, h4⟩ := h
  · exact ⟨⟨h1, .inl h2⟩, h3, h4⟩
  · exact ⟨⟨h1, .inr ⟨g, cap, cur, rfl, a, by rw [Below.heap_setCell _ _ _ _ (by show g ≠ B; omega)]; exact b, c⟩⟩, h3, h4⟩
set_option maxRecDepth 100000 in
set_option maxHeartbeats 40000000 in
theorem refjlex_any (v : Value) (l : List UInt8) (R : M.Toks × Int × Int) (w : World) (hv : Bs w v l) (hl : l.length ≤ 1048576) (hr : M.splitV l = R) :
    Calls Tryd.prog 18 #[v] w (SpP w R) := by
  have hv2 := hv
  obtain ⟨a, cap, rfl, h1, h2, h3⟩ := hv2
  obtain ⟨n, hn⟩ : ∃ n, l.length = n := ⟨_, rfl⟩
  unfold M.splitV at hr
  by_cases hbig : 20000 < n
  · rw [if_pos (by omega)] at hr
    subst hr
    rw [hn] at h1 hl ⊢
    clear hv h3 h2 hn
    have u1 : (20000 : Int) < n := by omega
    go_enter Tryd.func18, Tryd.ntmps18
    go_wp2
    refine bodyPost_ret (v := .tuple #[.slice none 0 0, .agg #[.int .i64 5, .int .i64 20000]]) (by simp [results, Tryd.results18, go_sem]) rfl ?_
    exact spP_ok rfl rfl (ownT_nil _ _) ((Below.refl _ _).alloc (Nat.le_refl _) _)
  rw [if_neg (by omega)] at hr
  have u1 : ¬ (20000 : Int) < n := by omega
  have u2 : decide ((20000 : Int) < n) = false := by simp; omega
  obtain ⟨W1, hW1⟩ : ∃ W1, w.alloc (.cells #[.int .i64 0, .int .i64 0] 39) = W1 := ⟨_, rfl⟩
  have hWs : W1.heap.size = w.heap.size + 1 := by rw [← hW1]; simp
  have hWb : Below w.heap.size w W1 := by rw [← hW1]; exact (Below.refl _ _).alloc (Nat.le_refl _) _
  have hc0 : W1.cell? ⟨w.heap.size, 0, none⟩ = some (.int .i64 0) := by rw [← hW1]; simp
  have hc1 : W1.cell? ⟨w.heap.size, 1, none⟩ = some (.int .i64 0) := by rw [← hW1]; simp
  have hf : ∀ j, W1.frozen? ⟨w.heap.size, j, none⟩ = false := fun j => by rw [← hW1]; simp
  have V1 := fun q ok h => refvalid_any _ l q ok W1 (hv.keep hWb) (by omega) h
  rw [hn] at V1
  have HW1 := Lib.hid hW1
  have HWs := Lib.hid hWs
  have HV := Lib.hid hv
  have HN := Lib.hid hn
  cases hok : (M.validAll l).2 with
  | false =>
    rw [if_pos hok] at hr
    have V2 := Lib.hid (V1 (M.validAll l).1 false (by rw [← hok]))
    obtain ⟨q, hq⟩ : ∃ q, (M.validAll l).1 = q := ⟨_, rfl⟩
    rw [hq] at hr V2
    subst hr
    rw [hn] at h1 hl ⊢
    have hlt : w.heap.size < W1.heap.size := by omega
    have hz0 := hf 0
    have hz1 := hf 1
    have HWb := Lib.hid hWb
    clear V1 hv hn hok hq h3 h2 hW1 hf hWb hWs
    go_enter Tryd.func18, Tryd.ntmps18
    go_wp2_with fail
    rw [HW1.out]
    refine V2.out.mono ?_
    rintro e w2 ⟨rfl, rfl⟩
    go_wp2
    refine bodyPost_ret (v := .tuple #[.slice none 0 0, .agg #[.int .i64 2, .int .i64 (q : Int)]]) (by simp [results, Tryd.results18, go_sem, hc0, hc1, hlt]) rfl ?_
    exact spP_ok rfl rfl (ownT_nil _ _) ((HWb.out.setCell (Nat.le_refl _) _).setCell (Nat.le_refl _) _)
  | true =>
    rw [if_neg (by rw [hok]; simp)] at hr
    have hall := M.all_len l hok
    have V2 := Lib.hid (V1 n true (by rw [← hok, ← hn, ← hall]))
    have hx0 : lexAt l [] 0 = M.lexS l 0 := by
      unfold lexAt
      rw [List.drop_zero]
      cases M.lexS l 0 with
      | error e => rfl
      | ok r => simp
    obtain ⟨X, hX⟩ : ∃ X, M.lexS l 0 = X := ⟨_, rfl⟩
    rw [hX] at hr hx0
    have HR : Hid ((∀ e, X = .error e → R = ([], 3, (e : Int))) ∧ (∀ t, X = .ok t → R = (t, 0, 0))) := Lib.hid ⟨fun e h => by rw [← hr, h], fun t h => by rw [← hr, h]⟩
    have HX0 := Lib.hid hx0
    obtain ⟨W2, hW2⟩ : ∃ W2, W1.alloc wblk = W2 := ⟨_, rfl⟩
    have hW2s : W2.heap.size = w.heap.size + 2 := by rw [← hW2]; simp [hWs]
    have hb12 : Below W1.heap.size W1 W2 := by rw [← hW2]; exact (Below.refl _ _).alloc (Nat.le_refl _) _
    have hWb2 : Below w.heap.size w W2 := hWb.trans (hb12.mono hWb.size)
    have hwc : ∀ k, k < 3 → W2.cell? ⟨w.heap.size + 1, k, none⟩ = some (.string (bytes (M.wds k))) := fun k hk => by rw [← hW2, ← hWs]; exact wblk_cell W1 k hk
    have Facts := Lib.hid (fun wr (hb : Below (w.heap.size + 2) W2 wr) => (⟨((hb.cell (p := ⟨w.heap.size, 0, none⟩) (by show w.heap.size < _; omega)).trans (hb12.cell (p := ⟨w.heap.size, 0, none⟩) (by show w.heap.size < _; omega))).trans hc0, ((hb.cell (p := ⟨w.heap.size, 1, none⟩) (by show w.heap.size < _; omega)).trans (hb12.cell (p := ⟨w.heap.size, 1, none⟩) (by show w.heap.size < _; omega))).trans hc1,
      ((hb.frozen (p := ⟨w.heap.size, 0, none⟩) (by show w.heap.size < _; omega)).trans (hb12.frozen (p := ⟨w.heap.size, 0, none⟩) (by show w.heap.size < _; omega))).trans (hf 0), ((hb.frozen (p := ⟨w.heap.size, 1, none⟩) (by show w.heap.size < _; omega)).trans (hb12.frozen (p := ⟨w.heap.size, 1, none⟩) (by show w.heap.size < _; omega))).trans (hf 1), by have := hb.size; omega, hWb2.trans (hb.mono (by omega))⟩ :
      wr.cell? ⟨w.heap.size, 0, none⟩ = some (.int .i64 0) ∧ wr.cell? ⟨w.heap.size, 1, none⟩ = some (.int .i64 0) ∧ wr.frozen? ⟨w.heap.size, 0, none⟩ = false ∧ wr.frozen? ⟨w.heap.size, 1, none⟩ = false ∧ w.heap.size < wr.heap.size ∧ Below w.heap.size w wr))
    have WC := Lib.hid (fun wr (hb : Below (w.heap.size + 2) W2 wr) k (hk : k < 3) => (hb.cell (p := ⟨w.heap.size + 1, k, none⟩) (by show w.heap.size + 1 < _; omega)).trans (hwc k hk))
    have hV2 : ∀ wr, Below (w.heap.size + 2) W2 wr → Bs wr (.slice a n cap) l := fun wr hb => by
      have := (hv.keep hWb2).below hb (by omega)
      rwa [hn] at this
    have HV2 := Lib.hid hV2
    have HS2 := Lib.hid hW2s
    have HW2 := Lib.hid hW2
    rw [hn] at h1 hl ⊢
    clear V1 hv hn hok h3 h2 hW1 hc0 hc1 hf hr hall hx0 hX hWb hWs hwc hb12 hV2 hW2 HV hWb2 hW2s
    go_enter Tryd.func18, Tryd.ntmps18
    go_wp2_with fail
    rw [HW1.out]
    refine V2.out.mono ?_
    rintro e w' ⟨rfl, rfl⟩
    have hwl := HW2.out
    unfold wblk at hwl
    have HWl := Lib.hid hwl
    clear hwl
    go_wp2
    rw [HWl.out]
    have hEm := sgE_at
    have hE6 : (ByteArray.mk #[123, 125, 91, 93, 58, 44]).size = 6 := rfl
    generalize (ByteArray.mk #[123, 125, 91, 93, 58, 44]) = E at hEm hE6 ⊢
    have HE6 := Lib.hid hE6
    have HEm := Lib.hid hEm
    clear hE6 hEm
    go_loopw [6, 9] (fun ov iv wr => ∃ (i : Nat) (pre : M.Toks), iv = .int .i64 (i : Int) ∧ i ≤ n ∧ lexAt l pre i = X ∧ pre.length ≤ i ∧ OwnT (w.heap.size + 2) wr ov pre ∧ Below (w.heap.size + 2) W2 wr) (fun _ iv _ => n - (intOf iv).toNat)
    case atStart => exact ⟨0, [], rfl, by omega, HX0.out, by simp, ownT_nil _ _, Below.refl _ _⟩
    case round =>
      obtain ⟨i, pre, rfl, hi, hx, hpl, hown, hb⟩ := hrel
      obtain ⟨w4, rfl⟩ : ∃ x, x = wr := ⟨_, rfl⟩
      have hsz := hb.size
      rw [HS2.out] at hsz
      by_cases hlt : i < n
      · have hil : i < l.length := by rw [HN.out]; exact hlt
        have hvr := HV2.out w4 hb
        have HVR := Lib.hid hvr
        obtain ⟨a', cap', hsl, -, -, hbb⟩ := hvr
        obtain ⟨rfl, -, rfl⟩ : a' = a ∧ True ∧ cap' = cap := by simp only [Value.slice.injEq] at hsl; exact ⟨hsl.1.symm, trivial, hsl.2.2.symm⟩
        obtain ⟨b, off, rfl, hblt, hbcl⟩ := hbb (by omega)
        have hci := @cell_getD w4 b off l hbcl i hil
        have hxb := lexAt_blank l pre i hil
        have hld := lead_none l i
        obtain ⟨c, hc⟩ : ∃ c, l.getD i 0 = c := ⟨_, rfl⟩
        rw [hc] at hci hxb hld
        rw [hx] at hxb
        have BK := fun r hr => refblank_any c r w4 hr
        obtain ⟨C, hC⟩ : ∃ C : Int, (c.toNat : Int) = C := ⟨_, rfl⟩
        rw [hC] at hci BK
        have v1 : (i : Int) < n := by omega
        cases hbl : M.blB c with
        | true =>
          have B1 := Lib.hid (BK true hbl)
          have Hx2 := Lib.hid (hxb hbl)
          clear BK hbl hC hc hbcl hbb hsl hxb hx hld
          go_wp2_with fail
          refine B1.out.mono ?_
          rintro e w' ⟨rfl, rfl⟩
          go_wp2
          go_roundw
          case rel => exact ⟨i + 1, pre, by go_num, by omega, Hx2.out.symm, by omega, hown, hb⟩
          case measure => simp [intOf]; omega
        | false =>
          have B1 := Lib.hid (BK false hbl)
          have hl0 := hld hbl
          have Hx := Lib.hid hx
          have Hl0 := Lib.hid hl0
          have Hc := Lib.hid hc
          have HCc := Lib.hid hC
          have Hci := Lib.hid hci
          clear BK hbl hC hc hbcl hbb hsl hxb hx hld hl0
          go_wp2_with fail
          refine B1.out.mono ?_
          rintro e w' ⟨rfl, rfl⟩
          clear hci
          go_wp2
          go_loopw [11] (fun kv wr => ∃ k : Nat, kv = .int .i64 (k : Int) ∧ k ≤ 6 ∧ TB w4.heap.size wr (M.sgK c k : Nat) (i : Int) (M.sgT c i k) ∧ Below w4.heap.size w4 wr) (fun kv _ => 6 - (intOf kv).toNat)
          case atStart => exact ⟨0, rfl, by omega, tb_new w4 i, (Below.refl _ _).alloc (Nat.le_refl _) _⟩
          case round =>
            obtain ⟨k, rfl, hk, tb, hb2⟩ := hrel
            have hE6 := HE6.out
            have hcr : wr.cell? ⟨b, off + i, none⟩ = some (.int .u8 C) := (hb2.cell (p := ⟨b, off + i, none⟩) hblt).trans Hci.out
            by_cases hk6 : k < 6
            · have hkE : k < E.size := by omega
              have hem := HEm.out k hkE
              obtain ⟨g, hg⟩ : ∃ g, M.sgn6.getD k 0 = g := ⟨_, rfl⟩
              have hsu := sgK_succ c k
              rw [hg] at hem hsu
              obtain ⟨G, hG⟩ : ∃ G : Int, (g.toNat : Int) = G := ⟨_, rfl⟩
              have hemG : ((E[k]'hkE).toNat : Int) = G := by rw [hem]; exact hG
              have e1 : (0 : Int) ≤ k := by omega
              have e3 : (k : Int) < E.size := by omega
              have hE9 : E.size ≤ 6 := by omega
              have hE7 : 6 ≤ E.size := by omega
              obtain ⟨t0, t1, t2, ⟨z0, z2⟩, tlt⟩ := id tb
              by_cases hgc : g = c
              · have tq : (G == C) = true := by rw [beq_iff_eq, ← hG, hgc]; exact HCc.out
                have s1 : ((M.sgK c (k + 1) : Nat) : Int) = (k : Int) + 1 := by rw [(hsu.1 hgc).1]; omega
                have s2 : M.sgT c i (k + 1) = (i : Int) + 1 := (hsu.1 hgc).2 i
                have Hs := Lib.hid (And.intro s1 s2)
                have Htb := Lib.hid tb
                clear hem hsu hG hg hgc tb hE6 s1 s2
                go_wp2
                go_quiet (fail)
                go_wp2
                go_roundw
                case rel => exact ⟨k + 1, by go_num, by omega, by rw [Hs.out.1, Hs.out.2]; exact ((Htb.out.drewN _).set0 _).set2 _, ((below_drewNQ hb2 _).setCell (Nat.le_refl _) _).setCell (Nat.le_refl _) _⟩
                case measure => simp [intOf]; omega
              · have tq : (G == C) = false := by rw [beq_eq_false_iff_ne]; intro h; apply hgc; apply UInt8.toNat_inj.1; have := HCc.out; omega
                have s1 : ((M.sgK c (k + 1) : Nat) : Int) = (M.sgK c k : Nat) := by rw [(hsu.2 hgc).1]
                have s2 : M.sgT c i (k + 1) = M.sgT c i k := (hsu.2 hgc).2 i
                have Hs := Lib.hid (And.intro s1 s2)
                have Htb := Lib.hid tb
                clear hem hsu hG hg hgc tb hE6 s1 s2 t0 t1 t2 z0 z2
                go_wp2
                go_quiet (fail)
                go_wp2
                go_roundw
                case rel => exact ⟨k + 1, by go_num, by omega, by rw [Hs.out.1, Hs.out.2]; exact Htb.out.drewN _, below_drewNQ hb2 _⟩
                case measure => simp [intOf]; omega
            · obtain rfl : k = 6 := by omega
              have hE9 : E.size ≤ 6 := by omega
              have Htb := Lib.hid tb
              clear tb hE6 hk6 hcr
              obtain ⟨w5, rfl⟩ : ∃ x, x = wr := ⟨_, rfl⟩
              go_wp2
              go_loopw [12, 13] (fun kv _ wx => ∃ k : Nat, kv = .int .i64 (k : Int) ∧ k ≤ 3 ∧ TB w4.heap.size wx (M.wK (l.drop i) (M.sgK c 6) k : Nat) (i : Int) (M.wT (l.drop i) i (M.sgT c i 6) k) ∧ Below w4.heap.size w4 wx) (fun kv _ _ => 3 - (intOf kv).toNat)
              case atStart => exact ⟨0, rfl, by omega, Htb.out, hb2⟩
              case round =>
                obtain ⟨k, rfl, hk, tb, hb3⟩ := hrel
                by_cases hk3 : k < 3
                · have hbw := hb.trans (hb3.mono hsz)
                  have hwd := WC.out wr hbw k hk3
                  rw [← HWs.out] at hwd
                  have hvx := HV2.out wr hbw
                  obtain ⟨nm, hnm⟩ : ∃ nm, M.wds k = nm := ⟨_, rfl⟩
                  have hml : 4 ≤ nm.length ∧ nm.length ≤ 5 := by
                    rw [← hnm]
                    have : k = 0 ∨ k = 1 ∨ k = 2 := by omega
                    rcases this with rfl | rfl | rfl <;> decide
                  have hsu := wd_succ (l.drop i) i (M.sgK c 6) (M.sgT c i 6) k
                  rw [hnm] at hwd hsu
                  have hok : M.wOk (l.drop i) k = (decide ((l.drop i).take nm.length = nm) && !M.goB (l.getD (i + nm.length) 0)) := by unfold M.wOk; rw [hnm, M.drop_getD]
                  obtain ⟨m, hm⟩ : ∃ m, nm.length = m := ⟨_, rfl⟩
                  rw [hm] at hml hsu hok
                  obtain ⟨S, hS⟩ : ∃ S, bytes nm = S := ⟨_, rfl⟩
                  have hSz : S.size = m := by rw [← hS, bytes_size, hm]
                  rw [hS] at hwd
                  obtain ⟨t, ht⟩ : ∃ t, (l.drop i).take m = t := ⟨_, rfl⟩
                  have hcv := fun (h : i + m ≤ n) q => conv_bs (w := wr.drewN q) (bs_sub (hvx.keep (below_drewNQ (Below.refl _ _) q)) i (i + m) (by omega) h)
                  rw [show i + m - i = m by omega, ht] at hcv
                  rw [ht] at hok
                  have htl : t.length = min m (n - i) := by rw [← ht, List.length_take, List.length_drop, HN.out]
                  obtain ⟨g, hg⟩ : ∃ g, M.goB (l.getD (i + m) 0) = g := ⟨_, rfl⟩
                  rw [hg] at hok
                  have hGG := fun q => refgoes_any _ l (i + m) g (wr.drewN q) (hvx.keep (below_drewNQ (Below.refl _ _) q)) (by omega) (by rw [HN.out]; omega) hg
                  rw [show ((i + m : Nat) : Int) = (i : Int) + m by omega] at hGG
                  have GG := Lib.hid hGG
                  obtain ⟨U, hU⟩ : ∃ U, bytes t = U := ⟨_, rfl⟩
                  rw [hU] at hcv
                  have hUS : t = nm ↔ U = S := by
                    rw [← hS, ← hU]
                    constructor
                    · intro h; rw [h]
                    · intro h; have := congrArg (fun x => x.data.toList) h; simpa [bytes] using this
                  obtain ⟨t0, t1, t2, ⟨z0, z2⟩, tlt⟩ := id tb
                  have Htb := Lib.hid tb
                  have e1 : (0 : Int) ≤ k := by omega
                  have e2 : (k : Int) < 3 := by omega
                  have i4 : ((i : Int) + m).toNat = i + m := by omega
                  have i5 : i + m - i = m := by omega
                  have m1 := hml.1
                  have m2 := hml.2
                  have c1 : (9 : Int) + k = (k : Int) + 9 := by omega
                  clear c1
                  by_cases hend : i + m ≤ n
                  · have hcv1 := hcv hend
                    have u3 : decide ((i : Int) + m ≤ n) = true := by simp; omega
                    by_cases hTS : U = S
                    · have htn := hUS.2 hTS
                      obtain rfl : S = U := hTS.symm
                      cases g with
                      | false =>
                        have hw : M.wOk (l.drop i) k = true := by rw [hok, decide_eq_true htn]; rfl
                        have s1 : ((M.wK (l.drop i) (M.sgK c 6) (k + 1) : Nat) : Int) = 9 + (k : Int) := by rw [(hsu.1 hw).1]; omega
                        have s2 : M.wT (l.drop i) i (M.sgT c i 6) (k + 1) = (i : Int) + m := by rw [(hsu.1 hw).2]; omega
                        have Hs := Lib.hid (And.intro s1 s2)
                        clear hcv hsu hok hnm hS ht htl hg hGG hU hUS htn hw s1 s2 tb hm hvx hml
                        go_wp2
                        go_quiet ((go_at_call 38; exact Calls.quiet_of_same ((GG.out _).mono fun _ _ h => ⟨h.1, h.2.symm⟩)))
                        go_wp2
                        go_roundw
                        case rel =>
                          (repeat apply Exists.intro)
                          refine ⟨?_, rfl⟩
                          exact ⟨k + 1, by go_num, by omega, by rw [Hs.out.1, Hs.out.2]; exact ((Htb.out.drewN _).set0 _).set2 _, ((below_drewNQ hb3 _).setCell (Nat.le_refl _) _).setCell (Nat.le_refl _) _⟩
                        case measure => simp [intOf]; omega
                      | true =>
                        have hw : M.wOk (l.drop i) k = false := by rw [hok]; simp
                        have s1 : ((M.wK (l.drop i) (M.sgK c 6) (k + 1) : Nat) : Int) = (M.wK (l.drop i) (M.sgK c 6) k : Nat) := by rw [(hsu.2 hw).1]
                        have s2 := (hsu.2 hw).2
                        have Hs := Lib.hid (And.intro s1 s2)
                        clear hcv hsu hok hnm hS ht htl hg hGG hU hUS htn hw s1 s2 tb hm hvx hml t0 t1 t2 z0 z2
                        go_wp2
                        go_quiet ((go_at_call 38; exact Calls.quiet_of_same ((GG.out _).mono fun _ _ h => ⟨h.1, h.2.symm⟩)))
                        go_wp2
                        go_roundw
                        case rel =>
                          (repeat apply Exists.intro)
                          refine ⟨?_, rfl⟩
                          exact ⟨k + 1, by go_num, by omega, by rw [Hs.out.1, Hs.out.2]; exact Htb.out.drewN _, below_drewNQ hb3 _⟩
                        case measure => simp [intOf]; omega
                    · have q3 := ba_ne hTS
                      have hw : M.wOk (l.drop i) k = false := by rw [hok, decide_eq_false (fun h => hTS (hUS.1 h))]; rfl
                      have s1 : ((M.wK (l.drop i) (M.sgK c 6) (k + 1) : Nat) : Int) = (M.wK (l.drop i) (M.sgK c 6) k : Nat) := by rw [(hsu.2 hw).1]
                      have s2 := (hsu.2 hw).2
                      have Hs := Lib.hid (And.intro s1 s2)
                      clear hcv hsu hok hnm hS ht htl hg hGG hU hUS hTS hw s1 s2 tb hm hvx hml t0 t1 t2 z0 z2
                      go_wp2
                      go_quiet (fail)
                      go_wp2
                      go_roundw
                      case rel => exact ⟨k + 1, by go_num, by omega, by rw [Hs.out.1, Hs.out.2]; exact Htb.out.drewN _, below_drewNQ hb3 _⟩
                      case measure => simp [intOf]; omega
                  · have u3 : decide ((i : Int) + m ≤ n) = false := by simp; omega
                    have hw : M.wOk (l.drop i) k = false := by rw [hok, decide_eq_false (fun h => by have := congrArg List.length h; omega)]; rfl
                    have s1 : ((M.wK (l.drop i) (M.sgK c 6) (k + 1) : Nat) : Int) = (M.wK (l.drop i) (M.sgK c 6) k : Nat) := by rw [(hsu.2 hw).1]
                    have s2 := (hsu.2 hw).2
                    have Hs := Lib.hid (And.intro s1 s2)
                    clear hcv hsu hok hnm hS ht htl hg hGG hU hUS hw s1 s2 tb hm hvx hml t0 t1 t2 z0 z2
                    go_wp2
                    go_quiet (fail)
                    go_wp2
                    go_roundw
                    case rel => exact ⟨k + 1, by go_num, by omega, by rw [Hs.out.1, Hs.out.2]; exact Htb.out.drewN _, below_drewNQ hb3 _⟩
                    case measure => simp [intOf]; omega
                · obtain rfl : k = 3 := by omega
                  obtain ⟨w6, rfl⟩ : ∃ x, x = wr := ⟨_, rfl⟩
                  have Htb3 := Lib.hid tb
                  clear tb hk3
                  obtain ⟨K0, hK0⟩ : ∃ K : Int, ((M.wK (l.drop i) (M.sgK c 6) 3 : Nat) : Int) = K := ⟨_, rfl⟩
                  obtain ⟨T0, hT0⟩ : ∃ K : Int, M.wT (l.drop i) i (M.sgT c i 6) 3 = K := ⟨_, rfl⟩
                  have tb6 := Htb3.out
                  rw [hK0, hT0] at tb6
                  have hoth := tokR_other l i hil
                  rw [Hc.out, hK0, hT0] at hoth
                  have htx := tokR_text l i hil
                  have htn := tokR_num l i hil
                  rw [Hc.out] at htx htn
                  obtain ⟨t0, t1, t2, ⟨z0, z2⟩, tlt⟩ := id tb6
                  have Htb6 := Lib.hid tb6
                  have hc6 : w6.cell? ⟨b, off + i, none⟩ = some (.int .u8 C) := (hb3.cell (p := ⟨b, off + i, none⟩) hblt).trans Hci.out
                  have dg := dg_iff c
                  have hb6z := hb3.size
                  have hvx := HV2.out w6 (hb.trans (hb3.mono hsz))
                  clear hK0 hT0 tb6
                  by_cases h34 : c = 34
                  · have q34 := eq_c c C HCc.out 34 34 rfl h34
                    have HTokx := Lib.hid (htx h34)
                    obtain ⟨Z, hZ⟩ : ∃ Z, jtI l (i + 1) = Z := ⟨_, rfl⟩
                    rw [hZ] at HTokx
                    have JT := Lib.hid (fun W (hW : Bs W (.slice (some ⟨b, off, none⟩) n cap') l) => jtext_any _ l i Z W hW (by rw [HN.out]; omega) hil hZ)
                    have hs7 : Below w4.heap.size w4 (w6.setCell ⟨w4.heap.size, 0, none⟩ (.int .i64 7)) := hb3.setCell (Nat.le_refl _) _
                    have J1 := Lib.hid (JT.out _ (HV2.out _ (hb.trans (hs7.mono hsz))))
                    have Hs7 := Lib.hid hs7
                    clear htx htn hoth h34 dg hZ hvx JT hs7
                    go_wp2_with fail
                    refine J1.out.mono ?_
                    rintro e w7 ⟨rfl, hb7⟩
                    have tb7 := (Htb6.out.set0 7).keep hb7
                    obtain ⟨x0, x1, x2, ⟨y0, y2⟩, ylt⟩ := id tb7
                    have hb7' := Hs7.out.trans (hb7.mono Hs7.out.size)
                    obtain ⟨w8, hw8⟩ : ∃ x, w7.setCell ⟨w4.heap.size, 2, none⟩ (.int .i64 Z) = x := ⟨_, rfl⟩
                    have HTB := tb7.set2 Z
                    have hb8 := hb7'.setCell (Nat.le_refl _) (.int .i64 Z) (p := ⟨w4.heap.size, 2, none⟩)
                    rw [hw8] at HTB hb8
                    have HTB := Lib.hid HTB
                    have HTok := HTokx
                    have Hw8 := Lib.hid hw8
                    clear hw8 tb7 hb7 hb7' t0 t1 t2 z0 z2 tlt
                    clear x0 x1
                    go_upto_region 33 with (fail)
                    rw [Hw8.out]
                    clear x2 y0 y2 ylt
                    have hb8z := hb8.size
                    have hbw8 := hb.trans (hb8.mono hsz)
                    have hown8 := OwnT.keep hown hb8
                    have hfree : ∀ g, (u6).ownBlock = some g → g < w4.heap.size := fun g hg => (World.ownsRow.lt hown.1 g hg).2
                    rcases HTok.out with ⟨k2, m2, h1, hK, hTT, h3, h4, h5⟩ | ⟨h1, hTT⟩
                    · obtain ⟨e2, he2⟩ : ∃ e, i + m2 = e := ⟨_, rfl⟩
                      have hxt := lexAt_tok l pre i k2 m2 hil Hl0.out h1
                      rw [Hx.out, he2] at hxt
                      rw [he2] at hTT
                      have HTB2 := HTB.out
                      rw [hK, hTT] at HTB2
                      obtain ⟨t0, t1, t2, ⟨z0, z2⟩, tlt⟩ := id HTB2
                      have r1 : decide ((e2 : Int) < 0) = false := by rw [decide_eq_false_iff_not]; omega
                      have r2 : ¬ (e2 : Int) < 0 := by omega
                      have Hxt := Lib.hid hxt
                      have he2n : e2 ≤ n := by rw [HN.out] at h4; omega
                      have he2i : i < e2 := by omega
                      have Ht2 := Lib.hid t2
                      have Hown8 := Lib.hid hown8
                      have Hfree := Lib.hid hfree
                      clear hxt hK hTT HTB2 h1 h4 he2 hown8 hfree
                      go_wp2_with (at_builtin; refine wpl_tokK rfl _ _ rfl (w.heap.size + 2) u6 (.slice (some ⟨w8.heap.size, 0, none⟩) 1 1) pre (pre ++ [(k2, i, e2)]) k2 i e2 rfl (OwnT.keep Hown8.out ((Below.refl _ _).alloc (Nat.le_refl _) _)) rfl (one_tok w8 k2 i e2) (nnv_some _ _ _) (by omega) (by simp; omega) rfl ?_)
                      intro v9 w9 ho9 hb9 hk9
                      have hb10 := (hbw8.alloc (by omega) (.cells #[.int .i64 (k2 : Int), .int .i64 (i : Int), .int .i64 (e2 : Int)] 85)).trans hb9
                      have t9 : w9.cell? ⟨w4.heap.size, 2, none⟩ = some (.int .i64 (e2 : Int)) := by
                        rw [World.cell?_of_block (hk9 w4.heap.size (by omega) (fun h => by have := Hfree.out _ h; omega)), World.cell?_alloc_past _ _ _ tlt]; exact Ht2.out
                      clear t0 t1 t2 z0 z2 hb9 hk9 hbw8
                      go_wp2
                      go_roundw
                      case rel => exact ⟨e2, pre ++ [(k2, i, e2)], rfl, he2n, Hxt.out.symm, by simp; omega, ho9, hb10⟩
                      case measure => simp [intOf]; omega
                    · have hxb := lexAt_bad l pre i hil Hl0.out h1
                      rw [Hx.out] at hxb
                      have hRR := HR.out.1 i hxb
                      have HRR := Lib.hid hRR
                      obtain ⟨q0, q1, y0, y1, hlt2, hbq⟩ := Facts.out _ hbw8
                      have HTB2 := HTB.out
                      rw [hTT] at HTB2
                      obtain ⟨t0, t1, t2, ⟨z0, z2⟩, tlt⟩ := id HTB2
                      clear hxb hRR hTT HTB2 h1 hown8 hfree
                      go_wp2
                      refine bodyPost_ret (v := .tuple #[.slice none 0 0, .agg #[.int .i64 3, .int .i64 (i : Int)]]) (by simp [results, Tryd.results18, go_sem, q0, q1, hlt2]) rfl ?_
                      exact spP_ok (by rw [HRR.out]) (by rw [HRR.out]) (by rw [HRR.out]; exact ownT_nil _ _) ((hbq.setCell (Nat.le_refl _) _).setCell (Nat.le_refl _) _)
                  · have q34 := ne_c c C HCc.out 34 34 rfl h34
                    by_cases hnum : c = 45 ∨ M.dgB c = true
                    · have HTokx := Lib.hid (htn hnum)
                      have tn : (C == 45) = true ∨ ((C == 45) = false ∧ decide ((48 : Int) ≤ C) = true ∧ decide (C ≤ (57 : Int)) = true) := by
                        have hCc := HCc.out
                        by_cases h45 : c = 45
                        · left; exact eq_c c C hCc 45 45 rfl h45
                        · right
                          have hd : M.dgB c = true := by rcases hnum with h | h; exact absurd h h45; exact h
                          have := dg.1 hd
                          exact ⟨ne_c c C hCc 45 45 rfl h45, by simp; omega, by simp; omega⟩
                      obtain ⟨Z, hZ⟩ : ∃ Z, jnI (M.numL (l.drop i)) i = Z := ⟨_, rfl⟩
                      rw [hZ] at HTokx
                      have hs7 : Below w4.heap.size w4 (w6.setCell ⟨w4.heap.size, 0, none⟩ (.int .i64 8)) := hb3.setCell (Nat.le_refl _) _
                      have J1 := Lib.hid (refjn_any _ l i Z _ (HV2.out _ (hb.trans (hs7.mono hsz))) hil (by rw [HN.out]; omega) hZ)
                      have tb7 := Htb6.out.set0 8
                      obtain ⟨x0, x1, x2, ⟨y0, y2⟩, ylt⟩ := id tb7
                      obtain ⟨w8, hw8⟩ : ∃ x, (w6.setCell ⟨w4.heap.size, 0, none⟩ (.int .i64 8)).setCell ⟨w4.heap.size, 2, none⟩ (.int .i64 Z) = x := ⟨_, rfl⟩
                      have HTB := tb7.set2 Z
                      have hb8 := hs7.setCell (Nat.le_refl _) (.int .i64 Z) (p := ⟨w4.heap.size, 2, none⟩)
                      rw [hw8] at HTB hb8
                      have HTB := Lib.hid HTB
                      have HTok := HTokx
                      have Hw8 := Lib.hid hw8
                      clear htx htn hoth h34 dg hZ hvx hs7 hnum hw8 tb7
                      rcases tn with tn1 | ⟨tn1, tn2, tn3⟩
                      all_goals
                        go_wp2_with fail
                        refine J1.out.mono ?_
                        rintro e w7 ⟨rfl, rfl⟩
                        go_upto_region 33 with (fail)
                        rw [Hw8.out]
                        clear x0 x1 x2 y0 y2 ylt t0 t1 t2 z0 z2 tlt
                        have hb8z := hb8.size
                        have hbw8 := hb.trans (hb8.mono hsz)
                        have hown8 := OwnT.keep hown hb8
                        have hfree : ∀ g, (u6).ownBlock = some g → g < w4.heap.size := fun g hg => (World.ownsRow.lt hown.1 g hg).2
                        rcases HTok.out with ⟨k2, m2, h1, hK, hTT, h3, h4, h5⟩ | ⟨h1, hTT⟩
                        · obtain ⟨e2, he2⟩ : ∃ e, i + m2 = e := ⟨_, rfl⟩
                          have hxt := lexAt_tok l pre i k2 m2 hil Hl0.out h1
                          rw [Hx.out, he2] at hxt
                          rw [he2] at hTT
                          have HTB2 := HTB.out
                          rw [hK, hTT] at HTB2
                          obtain ⟨t0, t1, t2, ⟨z0, z2⟩, tlt⟩ := id HTB2
                          have r1 : decide ((e2 : Int) < 0) = false := by rw [decide_eq_false_iff_not]; omega
                          have r2 : ¬ (e2 : Int) < 0 := by omega
                          have Hxt := Lib.hid hxt
                          have he2n : e2 ≤ n := by rw [HN.out] at h4; omega
                          have he2i : i < e2 := by omega
                          have Ht2 := Lib.hid t2
                          have Hown8 := Lib.hid hown8
                          have Hfree := Lib.hid hfree
                          clear hxt hK hTT HTB2 h1 h4 he2 hown8 hfree
                          go_wp2_with (at_builtin; refine wpl_tokK rfl _ _ rfl (w.heap.size + 2) u6 (.slice (some ⟨w8.heap.size, 0, none⟩) 1 1) pre (pre ++ [(k2, i, e2)]) k2 i e2 rfl (OwnT.keep Hown8.out ((Below.refl _ _).alloc (Nat.le_refl _) _)) rfl (one_tok w8 k2 i e2) (nnv_some _ _ _) (by omega) (by simp; omega) rfl ?_)
                          intro v9 w9 ho9 hb9 hk9
                          have hb10 := (hbw8.alloc (by omega) (.cells #[.int .i64 (k2 : Int), .int .i64 (i : Int), .int .i64 (e2 : Int)] 85)).trans hb9
                          have t9 : w9.cell? ⟨w4.heap.size, 2, none⟩ = some (.int .i64 (e2 : Int)) := by
                            rw [World.cell?_of_block (hk9 w4.heap.size (by omega) (fun h => by have := Hfree.out _ h; omega)), World.cell?_alloc_past _ _ _ tlt]; exact Ht2.out
                          clear t0 t1 t2 z0 z2 hb9 hk9 hbw8
                          go_wp2
                          go_roundw
                          case rel => exact ⟨e2, pre ++ [(k2, i, e2)], rfl, he2n, Hxt.out.symm, by simp; omega, ho9, hb10⟩
                          case measure => simp [intOf]; omega
                        · have hxb := lexAt_bad l pre i hil Hl0.out h1
                          rw [Hx.out] at hxb
                          have hRR := HR.out.1 i hxb
                          have HRR := Lib.hid hRR
                          obtain ⟨q0, q1, y0, y1, hlt2, hbq⟩ := Facts.out _ hbw8
                          have HTB2 := HTB.out
                          rw [hTT] at HTB2
                          obtain ⟨t0, t1, t2, ⟨z0, z2⟩, tlt⟩ := id HTB2
                          clear hxb hRR hTT HTB2 h1 hown8 hfree
                          go_wp2
                          refine bodyPost_ret (v := .tuple #[.slice none 0 0, .agg #[.int .i64 3, .int .i64 (i : Int)]]) (by simp [results, Tryd.results18, go_sem, q0, q1, hlt2]) rfl ?_
                          exact spP_ok (by rw [HRR.out]) (by rw [HRR.out]) (by rw [HRR.out]; exact ownT_nil _ _) ((hbq.setCell (Nat.le_refl _) _).setCell (Nat.le_refl _) _)
                    · have HTok := Lib.hid (hoth h34 (fun h => hnum (.inl h)) (by rw [← Bool.not_eq_true]; exact fun h => hnum (.inr h)))
                      have hd : M.dgB c = false := by rw [← Bool.not_eq_true]; exact fun h => hnum (.inr h)
                      have q45 := ne_c c C HCc.out 45 45 rfl (fun h => hnum (.inl h))
                      have tn : decide ((48 : Int) ≤ C) = false ∨ (decide ((48 : Int) ≤ C) = true ∧ decide (C ≤ (57 : Int)) = false) := by
                        have hCc := HCc.out
                        by_cases h48 : (48 : Int) ≤ C
                        · right
                          have h57 : ¬ C ≤ 57 := fun h => by rw [dg.2 (by omega)] at hd; exact absurd hd (by simp)
                          exact ⟨by simpa using h48, by simp; omega⟩
                        · left; simp; omega
                      have HTB := Htb6
                      have hb8 := hb3
                      obtain ⟨w8, rfl⟩ : ∃ x, x = w6 := ⟨_, rfl⟩
                      clear htx htn hoth h34 dg hvx hnum hd
                      rcases tn with tn1 | ⟨tn1, tn2⟩
                      all_goals
                        go_upto_region 33 with (fail)
                        clear t0 t1 t2 z0 z2 tlt
                        have hb8z := hb8.size
                        have hbw8 := hb.trans (hb8.mono hsz)
                        have hown8 := OwnT.keep hown hb8
                        have hfree : ∀ g, (u6).ownBlock = some g → g < w4.heap.size := fun g hg => (World.ownsRow.lt hown.1 g hg).2
                        rcases HTok.out with ⟨k2, m2, h1, hK, hTT, h3, h4, h5⟩ | ⟨h1, hTT⟩
                        · obtain ⟨e2, he2⟩ : ∃ e, i + m2 = e := ⟨_, rfl⟩
                          have hxt := lexAt_tok l pre i k2 m2 hil Hl0.out h1
                          rw [Hx.out, he2] at hxt
                          rw [he2] at hTT
                          have HTB2 := HTB.out
                          rw [hK, hTT] at HTB2
                          obtain ⟨t0, t1, t2, ⟨z0, z2⟩, tlt⟩ := id HTB2
                          have r1 : decide ((e2 : Int) < 0) = false := by rw [decide_eq_false_iff_not]; omega
                          have r2 : ¬ (e2 : Int) < 0 := by omega
                          have Hxt := Lib.hid hxt
                          have he2n : e2 ≤ n := by rw [HN.out] at h4; omega
                          have he2i : i < e2 := by omega
                          have Ht2 := Lib.hid t2
                          have Hown8 := Lib.hid hown8
                          have Hfree := Lib.hid hfree
                          clear hxt hK hTT HTB2 h1 h4 he2 hown8 hfree
                          go_wp2_with (at_builtin; refine wpl_tokK rfl _ _ rfl (w.heap.size + 2) u6 (.slice (some ⟨w8.heap.size, 0, none⟩) 1 1) pre (pre ++ [(k2, i, e2)]) k2 i e2 rfl (OwnT.keep Hown8.out ((Below.refl _ _).alloc (Nat.le_refl _) _)) rfl (one_tok w8 k2 i e2) (nnv_some _ _ _) (by omega) (by simp; omega) rfl ?_)
                          intro v9 w9 ho9 hb9 hk9
                          have hb10 := (hbw8.alloc (by omega) (.cells #[.int .i64 (k2 : Int), .int .i64 (i : Int), .int .i64 (e2 : Int)] 85)).trans hb9
                          have t9 : w9.cell? ⟨w4.heap.size, 2, none⟩ = some (.int .i64 (e2 : Int)) := by
                            rw [World.cell?_of_block (hk9 w4.heap.size (by omega) (fun h => by have := Hfree.out _ h; omega)), World.cell?_alloc_past _ _ _ tlt]; exact Ht2.out
                          clear t0 t1 t2 z0 z2 hb9 hk9 hbw8
                          go_wp2
                          go_roundw
                          case rel => exact ⟨e2, pre ++ [(k2, i, e2)], rfl, he2n, Hxt.out.symm, by simp; omega, ho9, hb10⟩
                          case measure => simp [intOf]; omega
                        · have hxb := lexAt_bad l pre i hil Hl0.out h1
                          rw [Hx.out] at hxb
                          have hRR := HR.out.1 i hxb
                          have HRR := Lib.hid hRR
                          obtain ⟨q0, q1, y0, y1, hlt2, hbq⟩ := Facts.out _ hbw8
                          have HTB2 := HTB.out
                          rw [hTT] at HTB2
                          obtain ⟨t0, t1, t2, ⟨z0, z2⟩, tlt⟩ := id HTB2
                          clear hxb hRR hTT HTB2 h1 hown8 hfree
                          go_wp2
                          refine bodyPost_ret (v := .tuple #[.slice none 0 0, .agg #[.int .i64 3, .int .i64 (i : Int)]]) (by simp [results, Tryd.results18, go_sem, q0, q1, hlt2]) rfl ?_
                          exact spP_ok (by rw [HRR.out]) (by rw [HRR.out]) (by rw [HRR.out]; exact ownT_nil _ _) ((hbq.setCell (Nat.le_refl _) _).setCell (Nat.le_refl _) _)
      · obtain rfl : i = n := by omega
        have hx2 := hx
        rw [lexAt_end l pre i (by rw [HN.out]; exact Nat.le_refl _)] at hx2
        have hRR := HR.out.2 pre hx2.symm
        have HRR := Lib.hid hRR
        obtain ⟨q0, q1, z0, z1, hlt2, hbw⟩ := Facts.out _ hb
        clear hx hx2 hRR hlt
        go_wp2
        refine bodyPost_ret (v := .tuple #[u6, .agg #[.int .i64 0, .int .i64 0]]) (by simp [results, Tryd.results18, go_sem, q0, q1, hlt2]) rfl ?_
        refine spP_ok (by rw [HRR.out]) (by rw [HRR.out]) ?_ ((hbw.setCell (Nat.le_refl _) _).setCell (Nat.le_refl _) _)
        rw [HRR.out]
        exact ownT_base (ownT_set' (ownT_set' hown 0 _) 1 _) (by omega)
end Go.Proofs.YtlobinjdgcidmaaDoor

/- Tokens of JSON as the reference finds them: Jlex of bytes of whatever number. -/
namespace Go.Proofs.YtlobinjdgcidmaaDoor
open Go.RowKit
set_option linter.unusedVariables false
set_option linter.unusedSimpArgs false

set_option maxRecDepth 100000 in
set_option maxHeartbeats 4000000 in
theorem refjlex_all (v : Value) (l : List UInt8) (R : M.Toks × Int × Int) (w : World) (hv : Bs w v l) (hr : M.splitV l = R) :
    Calls Tryd.prog 18 #[v] w (SpP w R) := by
  by_cases hbig : 20000 < l.length
  · obtain ⟨a, cap, rfl, h1, h2, h3⟩ := hv
    obtain ⟨n, hn⟩ : ∃ n, l.length = n := ⟨_, rfl⟩
    unfold M.splitV at hr
    rw [if_pos hbig] at hr
    subst hr
    rw [hn] at h1 hbig ⊢
    clear h3 h2 hn
    have u1 : (20000 : Int) < n := by omega
    go_enter Tryd.func18, Tryd.ntmps18
    go_wp2
    refine bodyPost_ret (v := .tuple #[.slice none 0 0, .agg #[.int .i64 5, .int .i64 20000]]) (by simp [results, Tryd.results18, go_sem]) rfl ?_
    exact spP_ok rfl rfl (ownT_nil _ _) ((Below.refl _ _).alloc (Nat.le_refl _) _)
  · exact refjlex_any v l R w hv (by omega) hr
end Go.Proofs.YtlobinjdgcidmaaDoor
