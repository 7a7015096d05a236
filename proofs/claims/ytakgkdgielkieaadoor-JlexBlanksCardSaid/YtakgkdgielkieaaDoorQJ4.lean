/- What jlex.word and the functions that read texts return, for any bytes. -/
import Derived.Test.YtakgkdgielkieaaDoorQJ3
import Derived.Test.YtakgkdgielkieaaDoorQMath4
namespace Go.Proofs.YtakgkdgielkieaaDoor
open Go.RowKit
set_option linter.unusedVariables false
set_option linter.unusedSimpArgs false

theorem bs_sub {w : World} {b off len cap : Nat} {l : List UInt8} (h : Bs w (.slice (some ⟨b, off, none⟩) len cap) l) (i j : Nat) (hi : i ≤ j) (hj : j ≤ len) :
    Bs w (.slice (some ⟨b, off + i, none⟩) (j - i) (cap - i)) ((l.drop i).take (j - i)) := by
  obtain ⟨a, cap', e, h1, h2, h3⟩ := h
  simp only [Value.slice.injEq] at e
  obtain ⟨rfl, rfl, rfl⟩ := e
  have hlen : ((l.drop i).take (j - i)).length = j - i := by rw [List.length_take, List.length_drop]; omega
  refine ⟨_, cap - i, by rw [hlen], by rw [hlen]; omega, by omega, fun h0 => ?_⟩
  rw [hlen] at h0
  obtain ⟨b', off', e, hlt, hc⟩ := h3 (by omega)
  simp only [Option.some.injEq, Addr.mk.injEq, and_true] at e
  obtain ⟨rfl, rfl⟩ := e
  refine ⟨b, off + i, rfl, hlt, fun q hq => ?_⟩
  rw [hlen] at hq
  rw [Nat.add_assoc, hc (i + q) (by omega)]
  simp
theorem conv_bs {w : World} {b off len cap : Nat} {l : List UInt8} (h : Bs w (.slice (some ⟨b, off, none⟩) len cap) l) : (convert 22 9 (.slice (some ⟨b, off, none⟩) len cap)).run Tryd.prog w = .ok (.string (bytes l)) w := by
  obtain ⟨a, cap', e, h1, h2, h3⟩ := h
  simp only [Value.slice.injEq] at e
  obtain ⟨rfl, rfl, rfl⟩ := e
  have hB : Lib.Bytes w b off (bytes l) := by
    intro i hi
    have hi' : i < l.length := by simpa [bytes, ByteArray.size] using hi
    obtain ⟨b', off', e, hlt, hc⟩ := h3 (by omega)
    simp only [Option.some.injEq, Addr.mk.injEq, and_true] at e
    obtain ⟨rfl, rfl⟩ := e
    rw [hc i hi']
    congr 3
  have := Lib.run_convert_whole (P := Tryd.prog) w 22 5 9 Tryd.underlying22 Tryd.underlying5 Tryd.underlying9 b off _ hB cap
  rw [bytes_size] at this
  exact this

theorem ba_ne {T S : ByteArray} (h : ¬ T = S) : (T.toList == S.toList) = false := by
  rw [beq_eq_false_iff_ne]
  intro e
  rw [ByteArray.toList_eq, ByteArray.toList_eq] at e
  apply h
  cases T; cases S
  congr 1
  exact Array.toList_inj.1 e
set_option maxRecDepth 100000 in
set_option maxHeartbeats 2000000 in
theorem word_any (v : Value) (l : List UInt8) (i : Nat) (nm : List UInt8) (k : Nat) (r : Int × Int) (w : World) (hv : Bs w v l) (hi : i < l.length) (hl : l.length ≤ 4294967296) (hk : k ≤ 100) (hn0 : 1 ≤ nm.length) (hn9 : nm.length ≤ 100) (hr : tokI (M.wordL nm (l.drop i) k) i = r) :
    Calls Tryd.prog 20 #[v, .int .i64 (i : Int), .string (bytes nm), .int .i64 (k : Int)] w fun e w' => e = .returned (pr r) ∧ w = w' := by
  have G := Lib.hid (fun q r h hr => goes_any v l q r w hv h hl hr)
  have hv2 := hv
  obtain ⟨a, cap, rfl, h1, h2, h3⟩ := hv2
  obtain ⟨n, hn⟩ : ∃ n, l.length = n := ⟨_, rfl⟩
  obtain ⟨b, off, rfl, hb, hcl⟩ := h3 (by omega)
  obtain ⟨m, hm⟩ : ∃ m, nm.length = m := ⟨_, rfl⟩
  have hsz : (bytes nm).size = m := by rw [bytes_size, hm]
  unfold M.wordL at hr
  rw [M.drop_getD, hm] at hr
  have hcv := fun h : i + m ≤ n => conv_bs (bs_sub hv i (i + m) (by omega) (by rw [hn]; exact h))
  rw [show i + m - i = m by omega] at hcv
  obtain ⟨t, ht⟩ : ∃ t, (l.drop i).take m = t := ⟨_, rfl⟩
  rw [ht] at hr hcv
  have htl : t.length = min m (n - i) := by rw [← ht, List.length_take, List.length_drop, hn]
  obtain ⟨g, hg⟩ : ∃ g, M.goB (l.getD (i + m) 0) = g := ⟨_, rfl⟩
  rw [hg] at hr
  obtain ⟨S, hS⟩ : ∃ S, bytes nm = S := ⟨_, rfl⟩
  obtain ⟨T, hT⟩ : ∃ T, bytes t = T := ⟨_, rfl⟩
  rw [hS] at hsz ⊢
  rw [hT] at hcv
  have hST : t = nm ↔ T = S := by
    rw [← hS, ← hT]
    constructor
    · intro h; rw [h]
    · intro h; have := congrArg (fun x => x.data.toList) h; simpa [bytes] using this
  rw [hn] at h1 hl hi G ⊢
  rw [hm] at hn0 hn9
  have u1 : (i : Int) < n := by omega
  by_cases hend : n < i + m
  · have t1 : decide ((i : Int) + m > n) = true := by simp; omega
    have t2 : decide ((n : Int) < (i : Int) + m) = true := by simp; omega
    rw [if_neg (fun hh => by have := congrArg List.length hh.1; omega)] at hr
    subst hr
    clear hv h2 h3 hcl hcv ht hg hST hS hT hn hm G htl
    have Hsz := Lib.hid hsz
    go_enter Tryd.func20, Tryd.ntmps20
    go_wp2
    go_ret2
    exact ⟨rfl, rfl⟩
  · have t2 : decide ((n : Int) < (i : Int) + m) = false := by simp; omega
    have hcv1 := hcv (by omega)
    have e1 : (((i + m : Nat)) : Int) = (i : Int) + m := by omega
    have G1 := Lib.hid (G.out (i + m) g (by omega) (by rw [← hg]))
    rw [e1] at G1
    have i4 : ((i : Int) + m).toNat = i + m := by omega
    have i5 : i + m - i = m := by omega
    have hle : i + m ≤ n := by omega
    by_cases hTS : T = S
    · have htn := hST.2 hTS
      have q2 : (T.toList == S.toList) = true := by rw [hTS]; simp
      cases g with
      | false =>
        rw [if_pos ⟨htn, rfl⟩] at hr
        subst hr
        clear hv h2 h3 hcl hcv ht hg hST hS hT hn hm G htl e1 hend hTS htn
        go_enter Tryd.func20, Tryd.ntmps20
        go_wp2_with fail
        refine G1.out.mono ?_
        rintro e w' ⟨rfl, rfl⟩
        go_wp2
        go_ret2
        exact ⟨by simp [tokI, pr], rfl⟩
      | true =>
        rw [if_neg (by simp)] at hr
        subst hr
        clear hv h2 h3 hcl hcv ht hg hST hS hT hn hm G htl e1 hend hTS htn
        go_enter Tryd.func20, Tryd.ntmps20
        go_wp2_with fail
        refine G1.out.mono ?_
        rintro e w' ⟨rfl, rfl⟩
        go_wp2
        go_ret2
        exact ⟨rfl, rfl⟩
    · rw [if_neg (fun hh => hTS (hST.1 hh.1))] at hr
      subst hr
      have q3 := ba_ne hTS
      clear hv h2 h3 hcl hcv ht hg hST hS hT hn hm G htl e1 hend hTS
      go_enter Tryd.func20, Tryd.ntmps20
      go_wp2
      go_ret2
      exact ⟨rfl, rfl⟩
end Go.Proofs.YtakgkdgielkieaaDoor
