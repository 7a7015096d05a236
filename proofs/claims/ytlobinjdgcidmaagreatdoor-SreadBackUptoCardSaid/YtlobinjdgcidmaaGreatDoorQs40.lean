/- Texts of ours in one: SRUnits URef UStep. -/
import Derived.Test.YtlobinjdgcidmaaGreatDoorQs34
import Derived.Test.YtlobinjdgcidmaaGreatDoorQs04
import Derived.Test.YtlobinjdgcidmaaGreatDoorQs02
import Derived.Laws.BitsLemmas
import Derived.Deep.AppendLies
/- The reference's units of a name, for any name. -/
namespace Go.Proofs.YtlobinjdgcidmaaGreatDoor
open Go.RowKit
set_option linter.unusedVariables false
set_option linter.unusedSimpArgs false

set_option maxRecDepth 100000 in
set_option maxHeartbeats 4000000 in
theorem refunits_any (s : ByteArray) (l : List UInt8) (U : List Nat) (w : World) (hs : s.data.toList = l) (hl : l.length ≤ 1048576) (hU : unitsL l = U) :
    Calls Tryz.prog 14 #[.string s] w fun e w' => ∃ v', e = .returned v' ∧ Is w' v' (iN U) ∧ U.length ≤ 2 * l.length + 8 ∧ Below w.heap.size w w' := by
  have hsz : s.size = l.length := by rw [← hs]; rfl
  have hconv := bw_conv w s
  have hbw := bw_below w s
  have hbs := bw_bs w s (by omega)
  rw [hs] at hbs
  have hsw := bw_size w s
  obtain ⟨n, hn⟩ : ∃ n, l.length = n := ⟨_, rfl⟩
  rw [hn] at hsz hl
  rw [hsz] at hbs hconv
  obtain ⟨W1, hW1⟩ : ∃ W, Lib.bytesWorld w 5 s = W := ⟨_, rfl⟩
  rw [hW1] at hconv hbw hbs hsw
  have HBS := Lib.hid hbs
  have HBW := Lib.hid hbw
  have HN := Lib.hid hn
  have HU := Lib.hid hU
  have HSW := Lib.hid hsw
  clear hbw hbs hs hsz hn hU hW1 hsw
  go_enter Tryz.func14, Tryz.ntmps14
  go_wp2
  go_loopw [3, 5, 6, 7, 8] (fun ov iv _ _ _ wr => ∃ (i : Nat) (pre : List Nat), iv = .int .i64 (i : Int) ∧ i ≤ n + 4 ∧ pre ++ unitsL (l.drop i) = U ∧ pre.length ≤ 2 * i ∧ OwnI W1.heap.size wr ov (iN pre) ∧ Below W1.heap.size W1 wr) (fun _ iv _ _ _ _ => n - (intOf iv).toNat)
  case atStart => exact ⟨0, [], rfl, by omega, by simpa using HU.out, by simp, World.ownsRow_nil _ _ _ _, Below.refl _ _⟩
  case round =>
    obtain ⟨i, pre, rfl, hi, hpre, hpl, ho, hb1⟩ := hrel
    have hsz := hb1.size
    by_cases hlt : i < n
    · have hil : i < l.length := by rw [HN.out]; exact hlt
      have hil2 : 0 < (l.drop i).length := by simp only [List.length_drop]; omega
      rw [unitsL_cons _ hil2, List.drop_drop] at hpre
      obtain ⟨ok, hnx⟩ : ∃ ok, M.nextAt l i = (((M.dec (l.drop i)).1 : Int), ((M.dec (l.drop i)).2 : Int), ok) := by
        rw [M.nextAt_in l i hil]
        unfold M.nx
        by_cases hb : M.dec (l.drop i) = (65533, 1)
        · rw [if_pos hb, hb]; exact ⟨false, rfl⟩
        · rw [if_neg hb]; exact ⟨true, rfl⟩
      have hw := M.dec_width (l.drop i)
      have hr := M.dec_rune (l.drop i)
      obtain ⟨r, hr'⟩ : ∃ r, (M.dec (l.drop i)).1 = r := ⟨_, rfl⟩
      obtain ⟨m, hm'⟩ : ∃ r, (M.dec (l.drop i)).2 = r := ⟨_, rfl⟩
      rw [hr'] at hpre hnx hr
      rw [hm'] at hpre hnx hw
      rw [← List.append_assoc] at hpre
      have N1 := refnext_any (.slice (some ⟨w.heap.size, 0, none⟩) n (grownCap w n 0 5)) l i _ wr (HBS.out.keep hb1) (by rw [HN.out]; omega) hnx
      unfold tri at N1
      dsimp only at N1
      have hp2 := pairUS_two r
      have HP := Lib.hid hpre
      have N1' := Lib.hid N1
      have i1 : (i : Int) < n := by omega
      clear hpre hnx hr' hm' N1 hlt
      obtain ⟨R, hRI⟩ : ∃ R : Int, (r : Int) = R := ⟨_, rfl⟩
      have R0 : 0 ≤ R := by omega
      have R1 : R ≤ 1114111 := by omega
      rw [hRI] at N1'
      have HO := Lib.hid ho
      clear ho
      by_cases hb16 : r < 65536
      · have h' : R < 65536 := by omega
        have e : iN pre ++ [R] = iN (pre ++ M.pairU r) := by rw [iN_append]; unfold M.pairU; rw [if_pos hb16]; simp [iN, hRI]
        have He := Lib.hid e
        clear e hRI hb16 hr
        go_wp2_with fail
        refine N1'.out.mono ?_
        rintro e w' ⟨rfl, rfl⟩
        go_wp2_with (at_builtin; refine wpl_appendI rfl _ _ rfl W1.heap.size _ (.slice (some ⟨wr.heap.size, 0, none⟩) 1 1) (iN pre) [R] (iN (pre ++ M.pairU r)) rfl (ownsRow_keep HO.out ((Below.refl _ _).alloc (Nat.le_refl _) _)) rfl (is_one wr _) (nn_some _ _ _) (by rw [iN_len]; simp; omega) (by simp; omega) He.out ?_)
        intro v3 w3 ho3 hb3
        have hb4 := (hb1.alloc hsz _).trans hb3
        clear hb3
        go_wp2
        go_roundw
        case rel => exact ⟨i + m, pre ++ M.pairU r, by go_num, by omega, HP.out, by simp; omega, ho3, hb4⟩
        case measure => simp [intOf]; omega
      · have h' : 65536 ≤ R := by omega
        have hand := sand1023 (R - 65536) (by omega) (by omega)
        have hand2 : (0 : Int) ≤ (R - 65536) % 1024 := by omega
        have hand3 : (R - 65536) % 1024 < 1024 := by omega
        have hd2 : (0 : Int) ≤ (R - 65536) / 1024 := by omega
        have hd3 : (R - 65536) / 1024 < 1024 := by omega
        have e : iN pre ++ [55296 + (R - 65536) / 1024, 56320 + (R - 65536) % 1024] = iN (pre ++ M.pairU r) := by
          rw [iN_append]
          congr 1
          unfold M.pairU
          rw [if_neg hb16]
          simp only [iN, List.map_cons, List.map_nil]
          have q1 : ((55296 + (r - 65536) / 1024 : Nat) : Int) = 55296 + (R - 65536) / 1024 := by omega
          have q2 : ((56320 + (r - 65536) % 1024 : Nat) : Int) = 56320 + (R - 65536) % 1024 := by omega
          rw [q1, q2]
        have He := Lib.hid e
        clear e hRI hb16 hr
        go_wp2_with fail
        refine N1'.out.mono ?_
        rintro e w' ⟨rfl, rfl⟩
        go_wp2_with (at_builtin; refine wpl_appendI rfl _ _ rfl W1.heap.size _ (.slice (some ⟨wr.heap.size, 0, none⟩) 2 2) (iN pre) [55296 + (R - 65536) / 1024, 56320 + (R - 65536) % 1024] (iN (pre ++ M.pairU r)) rfl (ownsRow_keep HO.out ((Below.refl _ _).alloc (Nat.le_refl _) _)) rfl (is_two wr _ _) (nn_some _ _ _) (by rw [iN_len]; simp; omega) (by simp; omega) He.out ?_)
        intro v3 w3 ho3 hb3
        have hb4 := (hb1.alloc hsz _).trans hb3
        clear hb3
        go_wp2
        go_roundw
        case rel => exact ⟨i + m, pre ++ M.pairU r, by go_num, by omega, HP.out, by simp; omega, ho3, hb4⟩
        case measure => simp [intOf]; omega
    · have hu := unitsL_nil (l.drop i) (by simp only [List.length_drop]; rw [HN.out]; omega)
      rw [hu, List.append_nil] at hpre
      subst hpre
      have hfin := HBW.out.trans (hb1.mono (by have := HSW.out; omega))
      have his := OwnI.is ho
      clear hu
      go_wp2
      go_ret
      exact ⟨_, rfl, his, by rw [HN.out]; omega, hfin⟩
end Go.Proofs.YtlobinjdgcidmaaGreatDoor
/- The reference of utf: what abridgerref1.Put returns of a code point, onto bytes of the call's own. -/
namespace Go.Proofs.YtlobinjdgcidmaaGreatDoor
open Go.RowKit

theorem wraps_i64 (n : Int) (h₀ : 0 ≤ n) (h₁ : n < 2 ^ 62) : IntKind.i64.wrap n = n := by rw [IntKind.wrap_i64]; omega
theorem and63 (n : Int) (h0 : 0 ≤ n) (h1 : n ≤ 1114111) : bits .and .i64 n 63 = n % 64 := bits_mask .i64 62 (by decide) wraps_i64 6 (by decide) n h0 (by omega)
theorem or128 (n : Int) (h0 : 0 ≤ n) (h1 : n < 64) : bits .or .i64 128 n = 128 + n := bits_join .i64 62 (by decide) wraps_i64 6 128 n (by decide) (by decide) (by decide) h0 (by omega) (by omega)
theorem or192 (n : Int) (h0 : 0 ≤ n) (h1 : n < 64) : bits .or .i64 192 n = 192 + n := bits_join .i64 62 (by decide) wraps_i64 6 192 n (by decide) (by decide) (by decide) h0 (by omega) (by omega)
theorem or224 (n : Int) (h0 : 0 ≤ n) (h1 : n < 32) : bits .or .i64 224 n = 224 + n := bits_join .i64 62 (by decide) wraps_i64 5 224 n (by decide) (by decide) (by decide) h0 (by omega) (by omega)
theorem or240 (n : Int) (h0 : 0 ≤ n) (h1 : n < 16) : bits .or .i64 240 n = 240 + n := bits_join .i64 62 (by decide) wraps_i64 4 240 n (by decide) (by decide) (by decide) h0 (by omega) (by omega)

theorem cells_one (r : Int) (h0 : 0 ≤ r) (h1 : r ≤ 127) : bcells (M.enc r) = [.int .u8 r] := by rw [← runeCells_eq, Lib.runeCells, Lib.encodeRuneZ_one h0 h1]; rfl
theorem cells_two (r : Int) (h0 : 128 ≤ r) (h1 : r ≤ 2047) : bcells (M.enc r) = [.int .u8 (192 + r / 64), .int .u8 (128 + r % 64)] := by rw [← runeCells_eq, Lib.runeCells, Lib.encodeRuneZ_two h0 h1]; rfl
theorem cells_three (r : Int) (h : (2048 ≤ r ∧ r < 55296) ∨ (57343 < r ∧ r ≤ 65535)) : bcells (M.enc r) = [.int .u8 (224 + r / 4096), .int .u8 (128 + r / 64 % 64), .int .u8 (128 + r % 64)] := by rw [← runeCells_eq, Lib.runeCells, Lib.encodeRuneZ_three h]; rfl
theorem cells_four (r : Int) (h0 : 65536 ≤ r) (h1 : r ≤ 1114111) : bcells (M.enc r) = [.int .u8 (240 + r / 262144), .int .u8 (128 + r / 4096 % 64), .int .u8 (128 + r / 64 % 64), .int .u8 (128 + r % 64)] := by rw [← runeCells_eq, Lib.runeCells, Lib.encodeRuneZ_four h0 h1]; rfl
set_option maxHeartbeats 1000000 in
theorem refput_cp (B : Nat) (v : Value) (l t : List UInt8) (r : Int) (w : World) (hr : M.isCP r = true) (hv : OwnB B w v l) (hl : l.length ≤ 16000000) (hB : B ≤ w.heap.size) (ht : l ++ M.enc r = t) :
    Calls Tryz.prog 27 #[v, .int .i64 r] w fun e w' => ∃ v', e = .returned v' ∧ OwnB B w' v' t ∧ Below B w w' := by
  have hcp := (M.isCP_iff r).1 hr
  have h0 : 0 ≤ r := hcp.1
  have h1 : r ≤ 1114111 := hcp.2.1
  have hlen : l.length + (M.enc r).length ≤ 4294967296 := by have := M.enc_le r; omega
  have hal : ∀ o, OwnB B (w.alloc o) v l := fun o => World.ownsRow.alloc hv o
  have hba : ∀ o, Below B w (w.alloc o) := fun o => (Below.refl B w).alloc hB o
  have Hal := Lib.hid hal
  have Hba := Lib.hid hba
  have Hlen := Lib.hid hlen
  have Ht := Lib.hid ht
  by_cases c1 : r < 128
  · have hbs := fun w : World => bs_cells_new w (M.enc r) _ 1 (cells_one r h0 (by omega)) rfl (by have := M.enc_le r; omega)
    have Hbs := Lib.hid hbs
    clear hr hcp hv hlen hal hba hbs ht
    go_enter Tryz.func27, Tryz.ntmps27
    go_wp2_with (at_builtin; refine wpl_append rfl _ _ rfl B v (.slice (some ⟨w.heap.size, 0, none⟩) 1 1) l (M.enc r) t rfl (Hal.out _) rfl (Hbs.out w) (fun n c h => by simp at h) Hlen.out (by simp only [World.alloc, Array.size_push]; omega) Ht.out ?_)
    intro v' w' ho hb
    have hb2 := (Hba.out _).trans hb
    clear hb
    go_wp2
    go_ret
    exact ⟨_, rfl, ho, hb2⟩
  · by_cases c2 : r < 2048
    · have hbs := fun w : World => bs_cells_new w (M.enc r) _ 2 (cells_two r (by omega) (by omega)) rfl (by have := M.enc_le r; omega)
      have Hbs := Lib.hid hbs
      have e1 := or192 (r / 64) (by omega) (by omega)
      have e2 := and63 r h0 h1
      have e3 := or128 (r % 64) (by omega) (by omega)
      clear hr hcp hv hlen hal hba hbs ht
      go_enter Tryz.func27, Tryz.ntmps27
      go_wp2_with (at_builtin; refine wpl_append rfl _ _ rfl B v (.slice (some ⟨w.heap.size, 0, none⟩) 2 2) l (M.enc r) t rfl (Hal.out _) rfl (Hbs.out w) (fun n c h => by simp at h) Hlen.out (by simp only [World.alloc, Array.size_push]; omega) Ht.out ?_)
      intro v' w' ho hb
      have hb2 := (Hba.out _).trans hb
      clear hb
      go_wp2
      go_ret
      exact ⟨_, rfl, ho, hb2⟩
    · by_cases c3 : r < 65536
      · have hbs := fun w : World => bs_cells_new w (M.enc r) _ 3 (cells_three r (by omega)) rfl (by have := M.enc_le r; omega)
        have Hbs := Lib.hid hbs
        have e1 := or224 (r / 4096) (by omega) (by omega)
        have e2 := and63 (r / 64) (by omega) (by omega)
        have e3 := or128 (r / 64 % 64) (by omega) (by omega)
        have e4 := and63 r h0 h1
        have e5 := or128 (r % 64) (by omega) (by omega)
        have hs : r < 55296 ∨ 57343 < r := by omega
        clear hr hcp hv hlen hal hba hbs ht
        rcases hs with hs | hs
        all_goals
          go_enter Tryz.func27, Tryz.ntmps27
          go_wp2_with (at_builtin; refine wpl_append rfl _ _ rfl B v (.slice (some ⟨w.heap.size, 0, none⟩) 3 3) l (M.enc r) t rfl (Hal.out _) rfl (Hbs.out w) (fun n c h => by simp at h) Hlen.out (by simp only [World.alloc, Array.size_push]; omega) Ht.out ?_)
          intro v' w' ho hb
          have hb2 := (Hba.out _).trans hb
          clear hb
          go_wp2
          go_ret
          exact ⟨_, rfl, ho, hb2⟩
      · have hbs := fun w : World => bs_cells_new w (M.enc r) _ 4 (cells_four r (by omega) h1) rfl (by have := M.enc_le r; omega)
        have Hbs := Lib.hid hbs
        have e1 := or240 (r / 262144) (by omega) (by omega)
        have e6 := and63 (r / 4096) (by omega) (by omega)
        have e7 := or128 (r / 4096 % 64) (by omega) (by omega)
        have e2 := and63 (r / 64) (by omega) (by omega)
        have e3 := or128 (r / 64 % 64) (by omega) (by omega)
        have e4 := and63 r h0 h1
        have e5 := or128 (r % 64) (by omega) (by omega)
        clear hr hcp hv hlen hal hba hbs ht
        go_enter Tryz.func27, Tryz.ntmps27
        go_wp2_with (at_builtin; refine wpl_append rfl _ _ rfl B v (.slice (some ⟨w.heap.size, 0, none⟩) 4 4) l (M.enc r) t rfl (Hal.out _) rfl (Hbs.out w) (fun n c h => by simp at h) Hlen.out (by simp only [World.alloc, Array.size_push]; omega) Ht.out ?_)
        intro v' w' ho hb
        have hb2 := (Hba.out _).trans hb
        clear hb
        go_wp2
        go_ret
        exact ⟨_, rfl, ho, hb2⟩

end Go.Proofs.YtlobinjdgcidmaaGreatDoor
/- append of bytes onto bytes of the call's own, at a step of a region that draws its order. -/
namespace Go.Proofs.YtlobinjdgcidmaaGreatDoor
open Go.RowKit

theorem stepl_append {w : World} {ops : Array Oper} {o : Oper} {a : Act} {K : Act → World → Prop} {Q : Exit → Act → World → Prop} {E : Prop} (hgd : o.guard = none) (s x : Operand)
    (ho : o.op = .call { callee := .builtin .append, args := #[s, x], argTypes := #[29, 29] })
    (B : Nat) (v u : Value) (l k t : List UInt8) (hs : a.eval s = v) (hown : OwnB B w v l) (hx : a.eval x = u) (hu : Bs w u k) (hk : 0 < k.length)
    (hlen : l.length + k.length ≤ 4294967296) (hB : B ≤ w.heap.size) (ht : l ++ k = t)
    (h : ∀ v' w', OwnB B w' v' t → Below B w w' → K (a.put o.dst v') w') : if Region.wanted o (yielded ops a.tmps) = true then Oper.wp Tryz.prog o a w K Q else E := by
  subst ht
  obtain ⟨i0, hi, hz0, hz1, hz2⟩ := info_parts infoB
  obtain ⟨ad, cap, rfl, h1, h2, h3⟩ := hu
  have hlt := World.ownsRow.lt hown
  obtain ⟨b, off, rfl, _, hc⟩ := h3 hk
  refine step_append_lies w hgd s x 29 ho B 5 i0 (.int .u8 0) 1 1 Tryz.underlying29 hi hz0 hz1 hz2 rfl (by decide) v l.length (bcells l) hs hown ⟨b, off, none⟩ k.length cap (bcells k) hx (by simp [bcells]) (bs_cells hc) one_oneCell hk (by unfold maxLen; omega) (by omega) hB _ rfl ?_
  intro g cap' w' hown' hg _ _
  refine h _ w' ?_ ((Below.refl B w).grown hg hB (fun j hj => (hlt j hj).1))
  rw [← bcells_append, ← List.length_append] at hown'
  rw [← List.length_append]
  exact hown'
end Go.Proofs.YtlobinjdgcidmaaGreatDoor
