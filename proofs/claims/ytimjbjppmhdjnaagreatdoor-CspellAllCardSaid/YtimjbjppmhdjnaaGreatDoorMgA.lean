import Derived.Test.YtimjbjppmhdjnaaGreatDoorMgB
import Derived.Test.YtimjbjppmhdjnaaGreatDoorShelf
import Derived.Lib.SmallJoins
import Derived.Lib.AppendIntMem
import Derived.Test.YtimjbjppmhdjnaaGreatDoorMgU
import Derived.Laws.BitsLemmas
import Derived.Deep.DeepCutAuto
import Derived.Outline
set_option maxHeartbeats 4000000
set_option maxRecDepth 100000
namespace Go.Proofs.YtimjbjppmhdjnaaGreatDoor
open Go.RowKit
set_option linter.unusedVariables false
def Tabs (w : World) : Prop := Lib.Utf8Tabs 1 2 w /\ Lib.TabIs Tryz.prog w "internal/strconv.uint64pow10" .u64 Lib.pow10Tab /\ w.cell? ⟨7, 15, none⟩ = some (.int .u8 4)
theorem Tabs.u {w : World} (h : Tabs w) : Lib.Utf8Tabs 1 2 w := h.1
theorem Tabs.p {w : World} (h : Tabs w) : Lib.TabIs Tryz.prog w "internal/strconv.uint64pow10" .u64 Lib.pow10Tab := h.2.1
theorem Tabs.z {w : World} (h : Tabs w) : w.cell? ⟨7, 15, none⟩ = some (.int .u8 4) := h.2.2
theorem Tabs.keep {w w' : World} (h : Tabs w) (hb : Below w.heap.size w w') : Tabs w' := by
 obtain ⟨⟨h1, h2⟩, h3, h4⟩ := h
 refine ⟨⟨fun c hc => ?_, fun i hi => ⟨?_, ?_⟩⟩, Joins.tab_stays (g := 5) (by kernel_rfl) h3 hb (Nat.le_refl _), ?_⟩
 ·rw [hb.cell (World.block_lt_of_cell? w _ (h1 c hc))]; exact h1 c hc
 ·rw [hb.cell (World.block_lt_of_cell? w _ (h2 i hi).1)]; exact (h2 i hi).1
 ·rw [hb.cell (World.block_lt_of_cell? w _ (h2 i hi).2)]; exact (h2 i hi).2
 ·rw [hb.cell (World.block_lt_of_cell? w _ h4)]; exact h4
theorem clone_any (v : Value) (l : List UInt8) (w : World) (hv : Bs w v l) (hl : l.length <= 4294967296) :
  Calls Tryz.prog 196 #[v] w fun e w' => ∃ v', e = .returned v' /\ OwnB w.heap.size w' v' l /\ Below w.heap.size w w' := by
 obtain ⟨i0, hi, hz0, hz1, hz2⟩ := info_parts infoB
 obtain ⟨a, cap, rfl, h1, h2, h3⟩ := hv
 cases a with
 | none =>
  have h0 : l = [] := by
   cases l with
   | nil => rfl
   | cons c l => obtain ⟨b, off, h, _⟩ := h3 (by simp); exact absurd h (by simp)
  subst h0
  have hq := fun w => Lib.run_eql_slice_nil (P := Tryz.prog) w 22 5 none ([] : List UInt8).length cap 0 0 Tryz.underlying22
  simp only [List.length_nil, Option.isNone_none] at hq
  go_enter Tryz.func196, Tryz.ntmps196
  go_wp2
  go_ret
  exact ⟨_, rfl, World.ownsRow_nil _ _ _ _, Below.refl _ _⟩
 | some ad =>
  have hq := fun w => Lib.run_eql_slice_nil (P := Tryz.prog) w 22 5 (some ad) l.length cap 0 0 Tryz.underlying22
  simp only [Option.isNone_some] at hq
  have hcs : ∀ (W : World) (o : Obj), Below w.heap.size w W -> ∀ j u, (bcells l)[j]? = some u -> (W.alloc o).cell? (ad.add j) = some u := by
   intro W o hb j u hj
   have h0 : 0 < l.length := by
    have := (List.getElem?_eq_some_iff.1 hj).1
    simp [bcells] at this; omega
   obtain ⟨b, off, hab, hlt, hc⟩ := h3 h0
   obtain rfl : ad = ⟨b, off, none⟩ := by simpa using hab
   have := bs_cells hc j u hj
   have hb2 : Below w.heap.size w (W.alloc o) := hb.alloc hb.size o
   rw [hb2.cell (p := (⟨b, off, none⟩ : Addr).add j) (by rw [Go.WideShapes.add_plain]; exact hlt)]
   exact this
  clear h3
  have Hcs := Lib.hid hcs
  clear hcs
  go_enter Tryz.func196, Tryz.ntmps196
  go_wp2_with (at_builtin; refine wpList_append_own _ rfl _ _ 22 rfl w.heap.size 5 i0 (.int .u8 0) 1 1 Tryz.underlying22 hi hz0 hz1 hz2 rfl (by decide) _ 0 [] rfl (World.ownsRow_made _ #[] 0 (Nat.le_refl _) (by decide) rfl) ad l.length cap (bcells l) rfl (by simp [bcells]) ?c1 one_oneCell ?c3 ?c4 ?c5 ?_)
  case c1 => exact Hcs.out w _ (Below.refl _ _)
  case c3 => unfold maxLen; omega
  case c4 => omega
  case c5 => simp
  intro v' w1 hown hgrow _
  have hb := ((Below.refl w.heap.size w).alloc (Nat.le_refl _) (.cells #[] 5)).grown hgrow (by simp) (fun j hj => by simp [Value.ownBlock] at hj; omega)
  clear hgrow
  go_wp2
  go_ret
  exact ⟨_, rfl, hown, hb⟩
theorem cp_true (r : Int) (w : World) (h : M.isCP r = true) :
  Calls Tryz.prog 194 #[.int .i64 r] w fun e w' => e = .returned (.bool true) /\ w = w' := by
 rw [M.isCP_iff] at h
 obtain ⟨h1, h2, h3⟩ := h
 rcases h3 with h3 | h3
 ·go_enter Tryz.func194, Tryz.ntmps194
  go_wp2
  go_ret
  exact ⟨by simp; try omega, rfl⟩
 ·have h4 : ¬ r < 55296 := by omega
  go_enter Tryz.func194, Tryz.ntmps194
  go_wp2
  go_ret
  exact ⟨by simp; try omega, rfl⟩
theorem cp_false (r : Int) (w : World) (h : M.isCP r = false) :
  Calls Tryz.prog 194 #[.int .i64 r] w fun e w' => e = .returned (.bool false) /\ w = w' := by
 have h0 : ¬ (0 <= r /\ r <= 1114111 /\ (r < 55296 \/ 57343 < r)) := by rw [<- M.isCP_iff]; simp [h]
 clear h
 have h1 : r < 0 \/ (0 <= r /\ 1114111 < r) \/ (0 <= r /\ r <= 1114111 /\ 55296 <= r /\ r <= 57343) := by omega
 clear h0
 rcases h1 with h1 | ⟨h1, h2⟩ | ⟨h1, h2, h3, h4⟩
 all_goals
  go_enter Tryz.func194, Tryz.ntmps194
  go_wp2
  go_ret
  exact ⟨by simp; try omega, rfl⟩
theorem append_any (B : Nat) (v : Value) (l t : List UInt8) (r : Int) (w : World) (hr0 : -2147483648 <= r) (hr1 : r <= 2147483647) (hv : OwnB B w v l) (hl : l.length <= 4294967296) (hB : B <= w.heap.size) (ht : l ++ M.enc r = t) :
  Calls Tryz.prog 195 #[v, .int .i32 r] w fun e w' => ∃ v', e = .returned v' /\ OwnB B w' v' t /\ Below B w w' := by
 subst ht
 have hlt := World.ownsRow.lt hv
 refine (Tryz.utf8_AppendRune_plain B v l.length (bcells l) r hr0 hr1 w hv (by omega) hB).mono ?_
 rintro e w' ⟨v', rfl, hown, o, hg⟩
 refine ⟨v', rfl, ?_, ((Below.refl B w).alloc hB o).grown hg (by simp; omega) (fun j hj => (hlt j hj).1)⟩
 rw [runeCells_eq, <- bcells_append, bcells_len, <- List.length_append] at hown
 exact hown
theorem put_any (v : Value) (l t : List UInt8) (r : Int) (w : World) (hv : Bs w v l) (hl : l.length <= 4294967296) (ht : l ++ M.enc r = t) :
  Calls Tryz.prog 157 #[v, .int .i64 r] w fun e w' => ∃ v', e = .returned v' /\ OwnB w.heap.size w' v' t /\ Below w.heap.size w w' := by
 by_cases hcp : M.isCP r = true
 ·have hr := (M.isCP_iff r).1 hcp
  have hr0 : 0 <= r := hr.1
  have hr1 : r <= 1114111 := hr.2.1
  have Hcp := Lib.hid hcp
  have Ht := Lib.hid ht
  clear hr hcp ht
  go_enter Tryz.func157, Tryz.ntmps157
  go_wp2_with fail
  refine (cp_true r _ Hcp.out).mono ?_
  rintro e w' ⟨rfl, rfl⟩
  go_wp2_with fail
  refine (clone_any v l _ hv hl).mono ?_
  rintro e w1 ⟨v1, rfl, ho, hb⟩
  go_wp2_with fail
  refine (append_any w.heap.size v1 l t r _ (by omega) (by omega) ho hl hb.size Ht.out).mono ?_
  rintro e w2 ⟨v2, rfl, ho2, hb2⟩
  go_wp2
  go_ret
  exact ⟨_, rfl, ho2, hb.trans hb2⟩
 ·have hcp' : M.isCP r = false := by simpa using hcp
  rw [M.enc_other r hcp'] at ht
  have Hcp := Lib.hid hcp'
  have Ht := Lib.hid ht
  clear hcp hcp' ht
  go_enter Tryz.func157, Tryz.ntmps157
  go_wp2_with fail
  refine (cp_false r _ Hcp.out).mono ?_
  rintro e w' ⟨rfl, rfl⟩
  go_wp2_with fail
  refine (clone_any v l _ hv hl).mono ?_
  rintro e w1 ⟨v1, rfl, ho, hb⟩
  go_wp2_with fail
  refine (append_any w.heap.size v1 l t 65533 _ (by omega) (by omega) ho hl hb.size Ht.out).mono ?_
  rintro e w2 ⟨v2, rfl, ho2, hb2⟩
  go_wp2
  go_ret
  exact ⟨_, rfl, ho2, hb.trans hb2⟩
end Go.Proofs.YtimjbjppmhdjnaaGreatDoor
namespace Go.Proofs.YtimjbjppmhdjnaaGreatDoor
open Go.RowKit
theorem decode_any (l : List UInt8) (b off n cap : Nat) (w : World) (hT : Tabs w) (hn : l.length = n) (h0 : 0 < l.length)
  (hp : ∀ j (h : j < l.length), w.cell? ⟨b, off + j, none⟩ = some (.int .u8 (l[j].toNat : Int))) :
  Calls Tryz.prog 110 #[.slice (some ⟨b, off, none⟩) n cap] w fun e w' => e = .returned (.tuple #[.int .i32 ((M.dec l).1 : Int), .int .i64 ((M.dec l).2 : Int)]) /\ Below w.heap.size w w' := by
 subst hn
 have hs : (ByteArray.mk l.toArray).size = l.length := rfl
 have hg : ∀ j, ((ByteArray.mk l.toArray).get! j).toNat = M.byte l j := fun j => by
  unfold M.byte
  simp [ByteArray.get!, List.getD]
  rfl
 have := Tryz.utf8_DecodeRune (ByteArray.mk l.toArray) b off cap w hT.u (fun j hj => by
  rw [hg j]
  have hj' : j < l.length := hj
  rw [hp j hj']
  simp [M.byte, hj'])
 rw [hs] at this
 refine this.mono ?_
 rintro e w' ⟨rfl, hb⟩
 refine ⟨?_, hb⟩
 have e1 : Lib.decodeGo (ByteArray.mk l.toArray) = M.dec l := by
  unfold Lib.decodeGo
  rw [if_neg (by rw [hs]; omega), Lib.decode_at, hs, hg, hg, hg, hg]
  rfl
 rw [e1]
theorem next_any (v : Value) (l : List UInt8) (p : Int) (r : Int × Int × Bool) (w : World) (hT : Tabs w) (hv : Bs w v l) (hl : l.length <= 4294967296) (hr : M.nextAt l p = r) :
  Calls Tryz.prog 71 #[v, .int .i64 p] w fun e w' => e = .returned (tri r) /\ Below w.heap.size w w' := by
 subst hr
 obtain ⟨a, cap, rfl, h1, h2, h3⟩ := hv
 unfold M.nextAt
 by_cases ho : p < 0 \/ (l.length : Int) <= p
 ·rw [if_pos ho]
  rcases ho with ho | ho
  ·go_enter Tryz.func71, Tryz.ntmps71
   go_wp2
   go_ret3
   exact ⟨rfl, Below.refl _ _⟩
  ·by_cases h0 : p < 0
   all_goals
    go_enter Tryz.func71, Tryz.ntmps71
    go_wp2
    go_ret3
    exact ⟨rfl, Below.refl _ _⟩
 ·rw [if_neg ho]
  obtain ⟨k, rfl⟩ : ∃ k : Nat, p = k := ⟨p.toNat, by omega⟩
  have hk : k < l.length := by omega
  rw [Int.toNat_natCast]
  obtain ⟨b, off, rfl, hb, hc⟩ := h3 (by omega)
  have hd := decode_any (l.drop k) b (off + k) (l.length - k) (cap - k) w hT (by simp) (by simp; omega) (fun j hj => by
   rw [Nat.add_assoc, hc (k + j) (by simp at hj; omega)]; simp)
  have hcap : cap ≠ k := by omega
  clear ho h3 hc
  unfold M.nx
  obtain ⟨R, K, hRK⟩ : ∃ R K, M.dec (l.drop k) = (R, K) := ⟨_, _, rfl⟩
  have hK := M.dec_width (l.drop k)
  have hR := M.dec_rune (l.drop k)
  rw [hRK] at hd hK hR ⊢
  simp only at hd hK hR ⊢
  have HRK := Lib.hid hRK
  have Hd := Lib.hid hd
  clear hRK hd
  by_cases hbad : (R, K) = (65533, 1)
  ·rw [if_pos hbad]
   simp only [Prod.mk.injEq] at hbad
   obtain ⟨rfl, rfl⟩ := hbad
   go_enter Tryz.func71, Tryz.ntmps71
   go_wp2_with fail
   refine Hd.out.mono ?_
   rintro e w' ⟨rfl, hbl⟩
   go_wp2
   go_ret3
   exact ⟨rfl, hbl⟩
  ·rw [if_neg hbad]
   by_cases hR0 : R = 65533
   ·have hK1 : ¬ K = 1 := fun h => hbad (by rw [hR0, h])
    have q1 : ((R : Int) == 65533) = true := by rw [beq_iff_eq]; omega
    have q2 : ((K : Int) == 1) = false := by rw [beq_eq_false_iff_ne]; omega
    clear hbad hK1 hR0
    go_enter Tryz.func71, Tryz.ntmps71
    go_wp2_with fail
    refine Hd.out.mono ?_
    rintro e w' ⟨rfl, hbl⟩
    go_wp2
    go_ret3
    exact ⟨rfl, hbl⟩
   ·have q1 : ((R : Int) == 65533) = false := by rw [beq_eq_false_iff_ne]; omega
    clear hbad hR0
    go_enter Tryz.func71, Tryz.ntmps71
    go_wp2_with fail
    refine Hd.out.mono ?_
    rintro e w' ⟨rfl, hbl⟩
    go_wp2
    go_ret3
    exact ⟨rfl, hbl⟩
end Go.Proofs.YtimjbjppmhdjnaaGreatDoor
namespace Go.Proofs.YtimjbjppmhdjnaaGreatDoor
open Go.RowKit
set_option linter.unusedVariables false
theorem and192_u8 : ∀ c : Fin 256, bits .and .u8 ((c.val : Nat) : Int) 192 = ((c.val / 64 * 64 : Nat) : Int) := by decide +kernel
theorem and63_u8 : ∀ c : Fin 256, bits .and .u8 ((c.val : Nat) : Int) 63 = ((c.val % 64 : Nat) : Int) := by decide +kernel
theorem and31_i64 : ∀ c : Fin 256, bits .and .i64 ((c.val : Nat) : Int) 31 = ((c.val % 32 : Nat) : Int) := by decide +kernel
theorem and15_i64 : ∀ c : Fin 256, bits .and .i64 ((c.val : Nat) : Int) 15 = ((c.val % 16 : Nat) : Int) := by decide +kernel
theorem and7_i64 : ∀ c : Fin 256, bits .and .i64 ((c.val : Nat) : Int) 7 = ((c.val % 8 : Nat) : Int) := by decide +kernel
theorem rwraps_i64 (n : Int) (h₀ : 0 <= n) (h₁ : n < 2 ^ 62) : IntKind.i64.wrap n = n := by rw [IntKind.wrap_i64]; omega
theorem or_64 (a x : Nat) (ha : a < 8388608) (hx : x < 64) : bits .or .i64 ((a : Int) * 64) (x : Int) = ((a * 64 + x : Nat) : Int) := by
 have := bits_join .i64 62 (by decide) rwraps_i64 6 ((a : Int) * 64) (x : Int) (by omega) (by omega) (by omega) (by omega) (by omega) (by omega)
 rw [this]; omega
theorem tail_any (v : Value) (l : List UInt8) (q : Nat) (r : Bool) (w : World) (hv : Bs w v l) (hl : l.length <= 4294967296) (hq : q <= 8589934592) (hr : M.tl l q = r) :
  Calls Tryz.prog 40 #[v, .int .i64 (q : Int)] w fun e w' => e = .returned (.tuple #[.int .i64 (if r then ((M.byte l q % 64 : Nat) : Int) else 0), .bool r]) /\ w = w' := by
 obtain ⟨a, cap, rfl, h1, h2, h3⟩ := hv
 cases r with
 | true =>
  have ⟨h4, h5⟩ := (M.tl_iff l q).1 hr
  obtain ⟨b, off, rfl, hb, hc⟩ := h3 (by omega)
  have hc0 : w.cell? ⟨b, off + q, none⟩ = some (.int .u8 (M.byte l q : Int)) := by
   rw [hc q h4]; unfold M.byte; simp [h4]
  have hb256 := M.byte_lt l q
  have e1 := and192_u8 ⟨M.byte l q, hb256⟩
  have e2 := and63_u8 ⟨M.byte l q, hb256⟩
  simp only [if_true]
  generalize M.byte l q = c at *
  simp only at e1 e2
  rw [h5] at e1
  have i1 : (0 : Int) <= q := by omega
  have i2 : (q : Int) < l.length := by omega
  clear h3 hc hr h5
  go_enter Tryz.func40, Tryz.ntmps40
  go_wp2
  go_ret2
  exact ⟨rfl, rfl⟩
 | false =>
  simp only [Bool.false_eq_true, if_false]
  by_cases h4 : q < l.length
  ·obtain ⟨b, off, rfl, hb, hc⟩ := h3 (by omega)
   have hc0 : w.cell? ⟨b, off + q, none⟩ = some (.int .u8 (M.byte l q : Int)) := by
    rw [hc q h4]; unfold M.byte; simp [h4]
   have hb256 := M.byte_lt l q
   have h5 : M.byte l q / 64 ≠ 2 := fun hh => by
    have := (M.tl_iff l q).2 ⟨h4, hh⟩
    rw [hr] at this; exact absurd this (by simp)
   have e1 := and192_u8 ⟨M.byte l q, hb256⟩
   generalize M.byte l q = c at *
   simp only at e1
   obtain ⟨d, hd⟩ : ∃ d, c / 64 * 64 = d := ⟨_, rfl⟩
   have q1 : ((d : Int) == 128) = false := by rw [beq_eq_false_iff_ne]; omega
   have q2 : ((d : Int) != 128) = true := by simp [bne, q1]
   rw [hd] at e1
   have i1 : (0 : Int) <= q := by omega
   have i2 : (q : Int) < l.length := by omega
   clear h3 hc hr h5 hd
   go_enter Tryz.func40, Tryz.ntmps40
   go_wp2
   go_ret2
   exact ⟨rfl, rfl⟩
  ·have h5 : l.length <= q := by omega
   clear h3 hr h4
   go_enter Tryz.func40, Tryz.ntmps40
   go_wp2
   go_ret2
   exact ⟨rfl, rfl⟩
theorem refnext_two (v : Value) (l : List UInt8) (k : Nat) (w : World) (hv : Bs w v l) (hl : l.length <= 4294967296) (hk : k < l.length) (d1 : 192 <= M.byte l k) (d2 : M.byte l k < 224) :
  Calls Tryz.prog 13 #[v, .int .i64 (k : Int)] w fun e w' => e = .returned (tri (M.nx (l.drop k))) /\ w = w' := by
 have Hv := Lib.hid hv
 obtain ⟨a, cap, rfl, h1, h2, h3⟩ := hv
 obtain ⟨b, off, rfl, hb, hc⟩ := h3 (by omega)
 have hc0 : w.cell? ⟨b, off + k, none⟩ = some (.int .u8 (M.byte l k : Int)) := by
  rw [hc k hk]; unfold M.byte; simp [hk]
 have hand := and31_i64 ⟨M.byte l k, M.byte_lt l k⟩
 simp only at hand
 have i1 : (0 : Int) <= k := by omega
 have i2 : (k : Int) < l.length := by omega
 clear h3 hc
 obtain ⟨r0, hr0⟩ : ∃ r0, M.byte l k % 32 = r0 := ⟨_, rfl⟩
 have hr0b : r0 < 32 := by omega
 have hcl : M.Cls (M.byte l k) 2 128 r0 := .inl ⟨d1, d2, rfl, rfl, hr0.symm⟩
 rw [hr0] at hand
 have Hcl := Lib.hid hcl
 obtain ⟨res, hres⟩ : ∃ res, M.nx (l.drop k) = res := ⟨_, rfl⟩
 rw [hres]
 have Hres := Lib.hid hres
 clear hres hcl hr0
 obtain ⟨c, hcc⟩ : ∃ c, M.byte l k = c := ⟨_, rfl⟩
 rw [hcc] at hc0 hand d1 d2
 have Hcc := Lib.hid hcc
 clear hcc
 have q0 : decide ((k : Int) < 0) = false := by simp
 have q00 : decide (l.length <= k) = false := by simp; omega
 have q1 : decide ((c : Int) < 128) = false := by simp; omega
 have q2 : decide (192 <= (c : Int)) = true := by simp; omega
 have q3 : decide ((c : Int) < 224) = true := by simp; omega
 have c255 : c <= 255 := by omega
 clear d1 d2
 go_enter Tryz.func13, Tryz.ntmps13
 go_wp2
 go_loop [9, 11] (fun rv iv => ∃ j : Nat, iv = .int .i64 ((j : Int) + 1) /\ j + 1 <= 2 /\ M.oks l k j /\ rv = .int .i64 (M.acc l k r0 j : Int)) (fun _ iv => 2 - (intOf iv).toNat)
 case atStart => exact ⟨0, by first | rfl | simp, by omega, trivial, rfl⟩
 case round =>
  obtain ⟨j, rfl, hj, hok, rfl⟩ := hrel
  have hacc := M.acc_lt l k r0 hr0b j (by omega)
  have Hok := Lib.hid hok
  clear hok
  by_cases hlt : j + 1 < 2
  ·have hlt2 : (j : Int) + 1 < 2 := by omega
   obtain ⟨t, ht⟩ : ∃ t, M.tl l (k + (j + 1)) = t := ⟨_, rfl⟩
   have hti := tail_any _ l (k + (j + 1)) t w Hv.out hl (by omega) ht
   rw [show ((k + (j + 1) : Nat) : Int) = (k : Int) + ((j : Int) + 1) by omega] at hti
   cases t with
   | false =>
    have hst := M.nx_stop l k 2 128 r0 j Hcl.out hlt Hok.out ht
    rw [Hres.out] at hst
    have Hst := Lib.hid hst
    have Hti := Lib.hid hti
    clear hst ht hti
    go_wp2_with fail
    refine Hti.out.mono ?_
    rintro e w' ⟨rfl, rfl⟩
    go_wp2
    go_ret3
    exact ⟨by rw [Hst.out]; rfl, rfl⟩
   | true =>
    have Ht := Lib.hid ht
    simp only [if_true] at hti
    obtain ⟨x, hx⟩ : ∃ x, M.byte l (k + (j + 1)) % 64 = x := ⟨_, rfl⟩
    rw [hx] at hti
    have hor := or_64 (M.acc l k r0 j) x hacc (by omega)
    have hstep : M.acc l k r0 j * 64 + x = M.acc l k r0 (j + 1) := by rw [<- hx]; rfl
    rw [hstep] at hor
    clear hx
    have Hti := Lib.hid hti
    clear hti hstep ht
    go_wp2_with fail
    refine Hti.out.mono ?_
    rintro e w' ⟨rfl, rfl⟩
    go_wp2
    go_round
    case rel => exact ⟨j + 1, by go_num, by omega, ⟨Hok.out, Ht.out⟩, rfl⟩
    case measure => simp [intOf]; omega
  ·have hjn : j + 1 = 2 := by omega
   have hfull := M.nx_full l k 2 128 r0 j Hcl.out hjn Hok.out _ rfl
   rw [Hres.out] at hfull
   obtain ⟨a, ha⟩ : ∃ a, M.acc l k r0 j = a := ⟨_, rfl⟩
   rw [ha] at hacc hfull
   rw [ha]
   have hlt2 : ¬ (j : Int) + 1 < 2 := by omega
   clear ha hjn hlt
   by_cases g1 : a < 128
   ·rw [if_pos (.inl g1)] at hfull
    have Hf := Lib.hid hfull
    clear hfull
    go_wp2
    go_ret3
    exact ⟨by rw [Hf.out]; rfl, rfl⟩
   ·by_cases g2 : 1114111 < a
    ·rw [if_pos (.inr (.inl g2))] at hfull
     have Hf := Lib.hid hfull
     clear hfull
     go_wp2
     go_ret3
     exact ⟨by rw [Hf.out]; rfl, rfl⟩
    ·by_cases g3 : 55296 <= a /\ a < 57344
     ·rw [if_pos (.inr (.inr g3))] at hfull
      obtain ⟨g3, g4⟩ := g3
      have Hf := Lib.hid hfull
      clear hfull
      go_wp2
      all_goals (go_ret3; exact ⟨by rw [Hf.out]; rfl, rfl⟩)
     ·rw [if_neg (by omega)] at hfull
      have g5 : a < 55296 \/ 57344 <= a := by omega
      have Hf := Lib.hid hfull
      clear hfull g3
      rcases g5 with g5 | g5
      all_goals
       go_wp2
       all_goals (go_ret3; exact ⟨by rw [Hf.out]; rfl, rfl⟩)
theorem refnext_three (v : Value) (l : List UInt8) (k : Nat) (w : World) (hv : Bs w v l) (hl : l.length <= 4294967296) (hk : k < l.length) (d1 : 224 <= M.byte l k) (d2 : M.byte l k < 240) :
  Calls Tryz.prog 13 #[v, .int .i64 (k : Int)] w fun e w' => e = .returned (tri (M.nx (l.drop k))) /\ w = w' := by
 have Hv := Lib.hid hv
 obtain ⟨a, cap, rfl, h1, h2, h3⟩ := hv
 obtain ⟨b, off, rfl, hb, hc⟩ := h3 (by omega)
 have hc0 : w.cell? ⟨b, off + k, none⟩ = some (.int .u8 (M.byte l k : Int)) := by
  rw [hc k hk]; unfold M.byte; simp [hk]
 have hand := and15_i64 ⟨M.byte l k, M.byte_lt l k⟩
 simp only at hand
 have i1 : (0 : Int) <= k := by omega
 have i2 : (k : Int) < l.length := by omega
 clear h3 hc
 obtain ⟨r0, hr0⟩ : ∃ r0, M.byte l k % 16 = r0 := ⟨_, rfl⟩
 have hr0b : r0 < 32 := by omega
 have hcl : M.Cls (M.byte l k) 3 2048 r0 := .inr (.inl ⟨d1, d2, rfl, rfl, hr0.symm⟩)
 rw [hr0] at hand
 have Hcl := Lib.hid hcl
 obtain ⟨res, hres⟩ : ∃ res, M.nx (l.drop k) = res := ⟨_, rfl⟩
 rw [hres]
 have Hres := Lib.hid hres
 clear hres hcl hr0
 obtain ⟨c, hcc⟩ : ∃ c, M.byte l k = c := ⟨_, rfl⟩
 rw [hcc] at hc0 hand d1 d2
 have Hcc := Lib.hid hcc
 clear hcc
 have q0 : decide ((k : Int) < 0) = false := by simp
 have q00 : decide (l.length <= k) = false := by simp; omega
 have q1 : decide ((c : Int) < 128) = false := by simp; omega
 have q2 : decide (192 <= (c : Int)) = true := by simp; omega
 have q3 : decide ((c : Int) < 224) = false := by simp; omega
 have q4 : decide (224 <= (c : Int)) = true := by simp; omega
 have q5 : decide ((c : Int) < 240) = true := by simp; omega
 have c255 : c <= 255 := by omega
 clear d1 d2
 go_enter Tryz.func13, Tryz.ntmps13
 go_wp2
 go_loop [9, 11] (fun rv iv => ∃ j : Nat, iv = .int .i64 ((j : Int) + 1) /\ j + 1 <= 3 /\ M.oks l k j /\ rv = .int .i64 (M.acc l k r0 j : Int)) (fun _ iv => 3 - (intOf iv).toNat)
 case atStart => exact ⟨0, by first | rfl | simp, by omega, trivial, rfl⟩
 case round =>
  obtain ⟨j, rfl, hj, hok, rfl⟩ := hrel
  have hacc := M.acc_lt l k r0 hr0b j (by omega)
  have Hok := Lib.hid hok
  clear hok
  by_cases hlt : j + 1 < 3
  ·have hlt2 : (j : Int) + 1 < 3 := by omega
   obtain ⟨t, ht⟩ : ∃ t, M.tl l (k + (j + 1)) = t := ⟨_, rfl⟩
   have hti := tail_any _ l (k + (j + 1)) t w Hv.out hl (by omega) ht
   rw [show ((k + (j + 1) : Nat) : Int) = (k : Int) + ((j : Int) + 1) by omega] at hti
   cases t with
   | false =>
    have hst := M.nx_stop l k 3 2048 r0 j Hcl.out hlt Hok.out ht
    rw [Hres.out] at hst
    have Hst := Lib.hid hst
    have Hti := Lib.hid hti
    clear hst ht hti
    go_wp2_with fail
    refine Hti.out.mono ?_
    rintro e w' ⟨rfl, rfl⟩
    go_wp2
    go_ret3
    exact ⟨by rw [Hst.out]; rfl, rfl⟩
   | true =>
    have Ht := Lib.hid ht
    simp only [if_true] at hti
    obtain ⟨x, hx⟩ : ∃ x, M.byte l (k + (j + 1)) % 64 = x := ⟨_, rfl⟩
    rw [hx] at hti
    have hor := or_64 (M.acc l k r0 j) x hacc (by omega)
    have hstep : M.acc l k r0 j * 64 + x = M.acc l k r0 (j + 1) := by rw [<- hx]; rfl
    rw [hstep] at hor
    clear hx
    have Hti := Lib.hid hti
    clear hti hstep ht
    go_wp2_with fail
    refine Hti.out.mono ?_
    rintro e w' ⟨rfl, rfl⟩
    go_wp2
    go_round
    case rel => exact ⟨j + 1, by go_num, by omega, ⟨Hok.out, Ht.out⟩, rfl⟩
    case measure => simp [intOf]; omega
  ·have hjn : j + 1 = 3 := by omega
   have hfull := M.nx_full l k 3 2048 r0 j Hcl.out hjn Hok.out _ rfl
   rw [Hres.out] at hfull
   obtain ⟨a, ha⟩ : ∃ a, M.acc l k r0 j = a := ⟨_, rfl⟩
   rw [ha] at hacc hfull
   rw [ha]
   have hlt2 : ¬ (j : Int) + 1 < 3 := by omega
   clear ha hjn hlt
   by_cases g1 : a < 2048
   ·rw [if_pos (.inl g1)] at hfull
    have Hf := Lib.hid hfull
    clear hfull
    go_wp2
    go_ret3
    exact ⟨by rw [Hf.out]; rfl, rfl⟩
   ·by_cases g2 : 1114111 < a
    ·rw [if_pos (.inr (.inl g2))] at hfull
     have Hf := Lib.hid hfull
     clear hfull
     go_wp2
     go_ret3
     exact ⟨by rw [Hf.out]; rfl, rfl⟩
    ·by_cases g3 : 55296 <= a /\ a < 57344
     ·rw [if_pos (.inr (.inr g3))] at hfull
      obtain ⟨g3, g4⟩ := g3
      have Hf := Lib.hid hfull
      clear hfull
      go_wp2
      all_goals (go_ret3; exact ⟨by rw [Hf.out]; rfl, rfl⟩)
     ·rw [if_neg (by omega)] at hfull
      have g5 : a < 55296 \/ 57344 <= a := by omega
      have Hf := Lib.hid hfull
      clear hfull g3
      rcases g5 with g5 | g5
      all_goals
       go_wp2
       all_goals (go_ret3; exact ⟨by rw [Hf.out]; rfl, rfl⟩)
theorem refnext_four (v : Value) (l : List UInt8) (k : Nat) (w : World) (hv : Bs w v l) (hl : l.length <= 4294967296) (hk : k < l.length) (d1 : 240 <= M.byte l k) (d2 : M.byte l k < 248) :
  Calls Tryz.prog 13 #[v, .int .i64 (k : Int)] w fun e w' => e = .returned (tri (M.nx (l.drop k))) /\ w = w' := by
 have Hv := Lib.hid hv
 obtain ⟨a, cap, rfl, h1, h2, h3⟩ := hv
 obtain ⟨b, off, rfl, hb, hc⟩ := h3 (by omega)
 have hc0 : w.cell? ⟨b, off + k, none⟩ = some (.int .u8 (M.byte l k : Int)) := by
  rw [hc k hk]; unfold M.byte; simp [hk]
 have hand := and7_i64 ⟨M.byte l k, M.byte_lt l k⟩
 simp only at hand
 have i1 : (0 : Int) <= k := by omega
 have i2 : (k : Int) < l.length := by omega
 clear h3 hc
 obtain ⟨r0, hr0⟩ : ∃ r0, M.byte l k % 8 = r0 := ⟨_, rfl⟩
 have hr0b : r0 < 32 := by omega
 have hcl : M.Cls (M.byte l k) 4 65536 r0 := .inr (.inr ⟨d1, d2, rfl, rfl, hr0.symm⟩)
 rw [hr0] at hand
 have Hcl := Lib.hid hcl
 obtain ⟨res, hres⟩ : ∃ res, M.nx (l.drop k) = res := ⟨_, rfl⟩
 rw [hres]
 have Hres := Lib.hid hres
 clear hres hcl hr0
 obtain ⟨c, hcc⟩ : ∃ c, M.byte l k = c := ⟨_, rfl⟩
 rw [hcc] at hc0 hand d1 d2
 have Hcc := Lib.hid hcc
 clear hcc
 have q0 : decide ((k : Int) < 0) = false := by simp
 have q00 : decide (l.length <= k) = false := by simp; omega
 have q1 : decide ((c : Int) < 128) = false := by simp; omega
 have q2 : decide (192 <= (c : Int)) = true := by simp; omega
 have q3 : decide ((c : Int) < 224) = false := by simp; omega
 have q4 : decide (224 <= (c : Int)) = true := by simp; omega
 have q5 : decide ((c : Int) < 240) = false := by simp; omega
 have q6 : decide (240 <= (c : Int)) = true := by simp; omega
 have q7 : decide ((c : Int) < 248) = true := by simp; omega
 have c255 : c <= 255 := by omega
 clear d1 d2
 go_enter Tryz.func13, Tryz.ntmps13
 go_wp2
 go_loop [9, 11] (fun rv iv => ∃ j : Nat, iv = .int .i64 ((j : Int) + 1) /\ j + 1 <= 4 /\ M.oks l k j /\ rv = .int .i64 (M.acc l k r0 j : Int)) (fun _ iv => 4 - (intOf iv).toNat)
 case atStart => exact ⟨0, by first | rfl | simp, by omega, trivial, rfl⟩
 case round =>
  obtain ⟨j, rfl, hj, hok, rfl⟩ := hrel
  have hacc := M.acc_lt l k r0 hr0b j (by omega)
  have Hok := Lib.hid hok
  clear hok
  by_cases hlt : j + 1 < 4
  ·have hlt2 : (j : Int) + 1 < 4 := by omega
   obtain ⟨t, ht⟩ : ∃ t, M.tl l (k + (j + 1)) = t := ⟨_, rfl⟩
   have hti := tail_any _ l (k + (j + 1)) t w Hv.out hl (by omega) ht
   rw [show ((k + (j + 1) : Nat) : Int) = (k : Int) + ((j : Int) + 1) by omega] at hti
   cases t with
   | false =>
    have hst := M.nx_stop l k 4 65536 r0 j Hcl.out hlt Hok.out ht
    rw [Hres.out] at hst
    have Hst := Lib.hid hst
    have Hti := Lib.hid hti
    clear hst ht hti
    go_wp2_with fail
    refine Hti.out.mono ?_
    rintro e w' ⟨rfl, rfl⟩
    go_wp2
    go_ret3
    exact ⟨by rw [Hst.out]; rfl, rfl⟩
   | true =>
    have Ht := Lib.hid ht
    simp only [if_true] at hti
    obtain ⟨x, hx⟩ : ∃ x, M.byte l (k + (j + 1)) % 64 = x := ⟨_, rfl⟩
    rw [hx] at hti
    have hor := or_64 (M.acc l k r0 j) x hacc (by omega)
    have hstep : M.acc l k r0 j * 64 + x = M.acc l k r0 (j + 1) := by rw [<- hx]; rfl
    rw [hstep] at hor
    clear hx
    have Hti := Lib.hid hti
    clear hti hstep ht
    go_wp2_with fail
    refine Hti.out.mono ?_
    rintro e w' ⟨rfl, rfl⟩
    go_wp2
    go_round
    case rel => exact ⟨j + 1, by go_num, by omega, ⟨Hok.out, Ht.out⟩, rfl⟩
    case measure => simp [intOf]; omega
  ·have hjn : j + 1 = 4 := by omega
   have hfull := M.nx_full l k 4 65536 r0 j Hcl.out hjn Hok.out _ rfl
   rw [Hres.out] at hfull
   obtain ⟨a, ha⟩ : ∃ a, M.acc l k r0 j = a := ⟨_, rfl⟩
   rw [ha] at hacc hfull
   rw [ha]
   have hlt2 : ¬ (j : Int) + 1 < 4 := by omega
   clear ha hjn hlt
   by_cases g1 : a < 65536
   ·rw [if_pos (.inl g1)] at hfull
    have Hf := Lib.hid hfull
    clear hfull
    go_wp2
    go_ret3
    exact ⟨by rw [Hf.out]; rfl, rfl⟩
   ·by_cases g2 : 1114111 < a
    ·rw [if_pos (.inr (.inl g2))] at hfull
     have Hf := Lib.hid hfull
     clear hfull
     go_wp2
     go_ret3
     exact ⟨by rw [Hf.out]; rfl, rfl⟩
    ·by_cases g3 : 55296 <= a /\ a < 57344
     ·rw [if_pos (.inr (.inr g3))] at hfull
      obtain ⟨g3, g4⟩ := g3
      have Hf := Lib.hid hfull
      clear hfull
      go_wp2
      all_goals (go_ret3; exact ⟨by rw [Hf.out]; rfl, rfl⟩)
     ·rw [if_neg (by omega)] at hfull
      have g5 : a < 55296 \/ 57344 <= a := by omega
      have Hf := Lib.hid hfull
      clear hfull g3
      rcases g5 with g5 | g5
      all_goals
       go_wp2
       all_goals (go_ret3; exact ⟨by rw [Hf.out]; rfl, rfl⟩)
theorem refnext_any (v : Value) (l : List UInt8) (p : Int) (r : Int × Int × Bool) (w : World) (hv : Bs w v l) (hl : l.length <= 4294967296) (hr : M.nextAt l p = r) :
  Calls Tryz.prog 13 #[v, .int .i64 p] w fun e w' => e = .returned (tri r) /\ w = w' := by
 subst hr
 by_cases ho : p < 0 \/ (l.length : Int) <= p
 ·rw [M.nextAt_out l p ho]
  obtain ⟨a, cap, rfl, h1, h2, h3⟩ := hv
  clear h3
  by_cases h0 : p < 0
  ·clear ho
   go_enter Tryz.func13, Tryz.ntmps13
   go_wp2
   go_ret3
   exact ⟨rfl, rfl⟩
  ·have h5 : (l.length : Int) <= p := by omega
   clear ho
   go_enter Tryz.func13, Tryz.ntmps13
   go_wp2
   go_ret3
   exact ⟨rfl, rfl⟩
 ·obtain ⟨k, rfl⟩ : ∃ k : Nat, p = k := ⟨p.toNat, by omega⟩
  have hk : k < l.length := by omega
  rw [M.nextAt_in l k hk]
  have hv2 := hv
  obtain ⟨a, cap, rfl, h1, h2, h3⟩ := hv2
  obtain ⟨b, off, rfl, hb, hc⟩ := h3 (by omega)
  have hc0 : w.cell? ⟨b, off + k, none⟩ = some (.int .u8 (M.byte l k : Int)) := by
   rw [hc k hk]; unfold M.byte; simp [hk]
  have hb256 := M.byte_lt l k
  have i1 : (0 : Int) <= k := by omega
  have i2 : (k : Int) < l.length := by omega
  have Hv := Lib.hid hv
  clear h3 hc ho hv
  by_cases c1 : M.byte l k < 128
  ·rw [M.nx_one l k c1]
   generalize M.byte l k = c at *
   go_enter Tryz.func13, Tryz.ntmps13
   go_wp2
   refine wp_loop_rounds 1 ?_
   rw [rounds_succ]
   go_wp2
   go_ret3
   exact ⟨rfl, rfl⟩
  ·by_cases c2 : M.byte l k < 192 \/ 248 <= M.byte l k
   ·rw [M.nx_none l k (by omega)]
    generalize M.byte l k = c at *
    rcases c2 with c2 | c2
    all_goals
     go_enter Tryz.func13, Tryz.ntmps13
     go_wp2
     go_ret3
     exact ⟨rfl, rfl⟩
   ·have hb256 := M.byte_lt l k
    by_cases d1 : M.byte l k < 224
    ·exact refnext_two _ l k w Hv.out hl hk (by omega) d1
    ·by_cases d2 : M.byte l k < 240
     ·exact refnext_three _ l k w Hv.out hl hk (by omega) d2
     ·exact refnext_four _ l k w Hv.out hl hk (by omega) (by omega)
end Go.Proofs.YtimjbjppmhdjnaaGreatDoor
namespace Go.Proofs.YtimjbjppmhdjnaaGreatDoor
open Go.RowKit
theorem wraps_i64 (n : Int) (h₀ : 0 <= n) (h₁ : n < 2 ^ 62) : IntKind.i64.wrap n = n := by rw [IntKind.wrap_i64]; omega
theorem and63 (n : Int) (h0 : 0 <= n) (h1 : n <= 1114111) : bits .and .i64 n 63 = n % 64 := bits_mask .i64 62 (by decide) wraps_i64 6 (by decide) n h0 (by omega)
theorem or128 (n : Int) (h0 : 0 <= n) (h1 : n < 64) : bits .or .i64 128 n = 128 + n := bits_join .i64 62 (by decide) wraps_i64 6 128 n (by decide) (by decide) (by decide) h0 (by omega) (by omega)
theorem or192 (n : Int) (h0 : 0 <= n) (h1 : n < 64) : bits .or .i64 192 n = 192 + n := bits_join .i64 62 (by decide) wraps_i64 6 192 n (by decide) (by decide) (by decide) h0 (by omega) (by omega)
theorem or224 (n : Int) (h0 : 0 <= n) (h1 : n < 32) : bits .or .i64 224 n = 224 + n := bits_join .i64 62 (by decide) wraps_i64 5 224 n (by decide) (by decide) (by decide) h0 (by omega) (by omega)
theorem or240 (n : Int) (h0 : 0 <= n) (h1 : n < 16) : bits .or .i64 240 n = 240 + n := bits_join .i64 62 (by decide) wraps_i64 4 240 n (by decide) (by decide) (by decide) h0 (by omega) (by omega)
theorem cells_one (r : Int) (h0 : 0 <= r) (h1 : r <= 127) : bcells (M.enc r) = [.int .u8 r] := by rw [<- runeCells_eq, Lib.runeCells, Lib.encodeRuneZ_one h0 h1]; rfl
theorem cells_two (r : Int) (h0 : 128 <= r) (h1 : r <= 2047) : bcells (M.enc r) = [.int .u8 (192 + r / 64), .int .u8 (128 + r % 64)] := by rw [<- runeCells_eq, Lib.runeCells, Lib.encodeRuneZ_two h0 h1]; rfl
theorem cells_three (r : Int) (h : (2048 <= r /\ r < 55296) \/ (57343 < r /\ r <= 65535)) : bcells (M.enc r) = [.int .u8 (224 + r / 4096), .int .u8 (128 + r / 64 % 64), .int .u8 (128 + r % 64)] := by rw [<- runeCells_eq, Lib.runeCells, Lib.encodeRuneZ_three h]; rfl
theorem cells_four (r : Int) (h0 : 65536 <= r) (h1 : r <= 1114111) : bcells (M.enc r) = [.int .u8 (240 + r / 262144), .int .u8 (128 + r / 4096 % 64), .int .u8 (128 + r / 64 % 64), .int .u8 (128 + r % 64)] := by rw [<- runeCells_eq, Lib.runeCells, Lib.encodeRuneZ_four h0 h1]; rfl
theorem refput_cp (B : Nat) (v : Value) (l t : List UInt8) (r : Int) (w : World) (hr : M.isCP r = true) (hv : OwnB B w v l) (hl : l.length <= 1048576) (hB : B <= w.heap.size) (ht : l ++ M.enc r = t) :
  Calls Tryz.prog 64 #[v, .int .i64 r] w fun e w' => ∃ v', e = .returned v' /\ OwnB B w' v' t /\ Below B w w' := by
 have hcp := (M.isCP_iff r).1 hr
 have h0 : 0 <= r := hcp.1
 have h1 : r <= 1114111 := hcp.2.1
 have hlen : l.length + (M.enc r).length <= 4294967296 := by have := M.enc_le r; omega
 have hal : ∀ o, OwnB B (w.alloc o) v l := fun o => World.ownsRow.alloc hv o
 have hba : ∀ o, Below B w (w.alloc o) := fun o => (Below.refl B w).alloc hB o
 have Hal := Lib.hid hal
 have Hba := Lib.hid hba
 have Hlen := Lib.hid hlen
 have Ht := Lib.hid ht
 by_cases c1 : r < 128
 ·have hbs := fun w : World => bs_cells_new w (M.enc r) _ 1 (cells_one r h0 (by omega)) rfl (by have := M.enc_le r; omega)
  have Hbs := Lib.hid hbs
  clear hr hcp hv hlen hal hba hbs ht
  go_enter Tryz.func64, Tryz.ntmps64
  go_wp2_with (at_builtin; refine wpl_append rfl _ _ rfl B v (.slice (some ⟨w.heap.size, 0, none⟩) 1 1) l (M.enc r) t rfl (Hal.out _) rfl (Hbs.out w) (fun n c h => by simp at h) Hlen.out (by simp only [World.alloc, Array.size_push]; omega) Ht.out ?_)
  intro v' w' ho hb
  have hb2 := (Hba.out _).trans hb
  clear hb
  go_wp2
  go_ret
  exact ⟨_, rfl, ho, hb2⟩
 ·by_cases c2 : r < 2048
  ·have hbs := fun w : World => bs_cells_new w (M.enc r) _ 2 (cells_two r (by omega) (by omega)) rfl (by have := M.enc_le r; omega)
   have Hbs := Lib.hid hbs
   have e1 := or192 (r / 64) (by omega) (by omega)
   have e2 := and63 r h0 h1
   have e3 := or128 (r % 64) (by omega) (by omega)
   clear hr hcp hv hlen hal hba hbs ht
   go_enter Tryz.func64, Tryz.ntmps64
   go_wp2_with (at_builtin; refine wpl_append rfl _ _ rfl B v (.slice (some ⟨w.heap.size, 0, none⟩) 2 2) l (M.enc r) t rfl (Hal.out _) rfl (Hbs.out w) (fun n c h => by simp at h) Hlen.out (by simp only [World.alloc, Array.size_push]; omega) Ht.out ?_)
   intro v' w' ho hb
   have hb2 := (Hba.out _).trans hb
   clear hb
   go_wp2
   go_ret
   exact ⟨_, rfl, ho, hb2⟩
  ·by_cases c3 : r < 65536
   ·have hbs := fun w : World => bs_cells_new w (M.enc r) _ 3 (cells_three r (by omega)) rfl (by have := M.enc_le r; omega)
    have Hbs := Lib.hid hbs
    have e1 := or224 (r / 4096) (by omega) (by omega)
    have e2 := and63 (r / 64) (by omega) (by omega)
    have e3 := or128 (r / 64 % 64) (by omega) (by omega)
    have e4 := and63 r h0 h1
    have e5 := or128 (r % 64) (by omega) (by omega)
    have hs : r < 55296 \/ 57343 < r := by omega
    clear hr hcp hv hlen hal hba hbs ht
    rcases hs with hs | hs
    all_goals
     go_enter Tryz.func64, Tryz.ntmps64
     go_wp2_with (at_builtin; refine wpl_append rfl _ _ rfl B v (.slice (some ⟨w.heap.size, 0, none⟩) 3 3) l (M.enc r) t rfl (Hal.out _) rfl (Hbs.out w) (fun n c h => by simp at h) Hlen.out (by simp only [World.alloc, Array.size_push]; omega) Ht.out ?_)
     intro v' w' ho hb
     have hb2 := (Hba.out _).trans hb
     clear hb
     go_wp2
     go_ret
     exact ⟨_, rfl, ho, hb2⟩
   ·have hbs := fun w : World => bs_cells_new w (M.enc r) _ 4 (cells_four r (by omega) h1) rfl (by have := M.enc_le r; omega)
    have Hbs := Lib.hid hbs
    have e1 := or240 (r / 262144) (by omega) (by omega)
    have e6 := and63 (r / 4096) (by omega) (by omega)
    have e7 := or128 (r / 4096 % 64) (by omega) (by omega)
    have e2 := and63 (r / 64) (by omega) (by omega)
    have e3 := or128 (r / 64 % 64) (by omega) (by omega)
    have e4 := and63 r h0 h1
    have e5 := or128 (r % 64) (by omega) (by omega)
    clear hr hcp hv hlen hal hba hbs ht
    go_enter Tryz.func64, Tryz.ntmps64
    go_wp2_with (at_builtin; refine wpl_append rfl _ _ rfl B v (.slice (some ⟨w.heap.size, 0, none⟩) 4 4) l (M.enc r) t rfl (Hal.out _) rfl (Hbs.out w) (fun n c h => by simp at h) Hlen.out (by simp only [World.alloc, Array.size_push]; omega) Ht.out ?_)
    intro v' w' ho hb
    have hb2 := (Hba.out _).trans hb
    clear hb
    go_wp2
    go_ret
    exact ⟨_, rfl, ho, hb2⟩
theorem refput_sur (B : Nat) (v : Value) (l t : List UInt8) (r : Int) (w : World) (h1 : 55296 <= r) (h2 : r < 57344) (hv : OwnB B w v l) (hl : l.length <= 1048576) (hB : B <= w.heap.size) (ht : l ++ M.enc 65533 = t) :
  Calls Tryz.prog 64 #[v, .int .i64 r] w fun e w' => ∃ v', e = .returned v' /\ OwnB B w' v' t /\ Below B w w' := by
 have hlen : l.length + (M.enc 65533).length <= 4294967296 := by have := M.enc_le 65533; omega
 have hal : ∀ o, OwnB B (w.alloc o) v l := fun o => World.ownsRow.alloc hv o
 have hba : ∀ o, Below B w (w.alloc o) := fun o => (Below.refl B w).alloc hB o
 have hbs := fun w : World => bs_cells_new w (M.enc 65533) [.int .u8 239, .int .u8 191, .int .u8 189] 3 (by rw [cells_three 65533 (by omega)]; rfl) rfl (by decide +kernel)
 have Hal := Lib.hid hal
 have Hba := Lib.hid hba
 have Hlen := Lib.hid hlen
 have Ht := Lib.hid ht
 have Hbs := Lib.hid hbs
 have e1 : bits .or .i64 224 15 = 239 := by decide +kernel
 have e2 : bits .and .i64 1023 63 = 63 := by decide +kernel
 have e3 : bits .or .i64 128 63 = 191 := by decide +kernel
 have e4 : bits .and .i64 65533 63 = 61 := by decide +kernel
 have e5 : bits .or .i64 128 61 = 189 := by decide +kernel
 clear hv hlen hal hba hbs ht
 go_enter Tryz.func64, Tryz.ntmps64
 go_wp2_with (at_builtin; refine wpl_append rfl _ _ rfl B v (.slice (some ⟨w.heap.size, 0, none⟩) 3 3) l (M.enc 65533) t rfl (Hal.out _) rfl (Hbs.out w) (fun n c h => by simp at h) Hlen.out (by simp only [World.alloc, Array.size_push]; omega) Ht.out ?_)
 intro v' w' ho hb
 have hb2 := (Hba.out _).trans hb
 clear hb
 go_wp2
 go_ret
 exact ⟨_, rfl, ho, hb2⟩
end Go.Proofs.YtimjbjppmhdjnaaGreatDoor
namespace Go.Proofs.YtimjbjppmhdjnaaGreatDoor
open Go.RowKit
set_option linter.unusedVariables false
theorem refput_out (B : Nat) (v : Value) (l t : List UInt8) (r : Int) (w : World) (h1 : r < 0 \/ 1114111 < r) (hv : OwnB B w v l) (hl : l.length <= 1048576) (hB : B <= w.heap.size) (ht : l ++ M.enc 65533 = t) :
  Calls Tryz.prog 64 #[v, .int .i64 r] w fun e w' => ∃ v', e = .returned v' /\ OwnB B w' v' t /\ Below B w w' := by
 have hlen : l.length + (M.enc 65533).length <= 4294967296 := by have := M.enc_le 65533; omega
 have hal : ∀ o, OwnB B (w.alloc o) v l := fun o => World.ownsRow.alloc hv o
 have hba : ∀ o, Below B w (w.alloc o) := fun o => (Below.refl B w).alloc hB o
 have hbs := fun w : World => bs_cells_new w (M.enc 65533) [.int .u8 239, .int .u8 191, .int .u8 189] 3 (by rw [cells_three 65533 (by omega)]; rfl) rfl (by decide +kernel)
 have Hal := Lib.hid hal
 have Hba := Lib.hid hba
 have Hlen := Lib.hid hlen
 have Ht := Lib.hid ht
 have Hbs := Lib.hid hbs
 have e1 : bits .or .i64 224 15 = 239 := by decide +kernel
 have e2 : bits .and .i64 1023 63 = 63 := by decide +kernel
 have e3 : bits .or .i64 128 63 = 191 := by decide +kernel
 have e4 : bits .and .i64 65533 63 = 61 := by decide +kernel
 have e5 : bits .or .i64 128 61 = 189 := by decide +kernel
 clear hv hlen hal hba hbs ht
 have tst : (decide (r < 0) = true) \/ (decide (r < 0) = false /\ decide ((1114111 : Int) < r) = true) := by
  simp only [decide_eq_true_eq, decide_eq_false_iff_not]; omega
 clear h1
 rcases tst with t1 | ⟨t1, t2⟩
 all_goals
  go_enter Tryz.func64, Tryz.ntmps64
  go_wp2_with (at_builtin; refine wpl_append rfl _ _ rfl B v (.slice (some ⟨w.heap.size, 0, none⟩) 3 3) l (M.enc 65533) t rfl (Hal.out _) rfl (Hbs.out w) (fun n c h => by simp at h) Hlen.out (by simp only [World.alloc, Array.size_push]; omega) Ht.out ?_)
  intro v' w' ho hb
  have hb2 := (Hba.out _).trans hb
  clear hb
  go_wp2
  go_ret
  exact ⟨_, rfl, ho, hb2⟩
theorem refput_any (B : Nat) (v : Value) (l t : List UInt8) (r : Int) (w : World) (hv : OwnB B w v l) (hl : l.length <= 1048576) (hB : B <= w.heap.size) (ht : l ++ M.enc r = t) :
  Calls Tryz.prog 64 #[v, .int .i64 r] w fun e w' => ∃ v', e = .returned v' /\ OwnB B w' v' t /\ Below B w w' := by
 cases hc : M.isCP r with
 | true => exact refput_cp B v l t r w hc hv hl hB ht
 | false =>
  rw [M.enc_other r hc] at ht
  have h0 : ¬ (0 <= r /\ r <= 1114111 /\ (r < 55296 \/ 57343 < r)) := by rw [<- M.isCP_iff]; simp [hc]
  by_cases h : 55296 <= r /\ r < 57344
  ·exact refput_sur B v l t r w h.1 h.2 hv hl hB ht
  ·exact refput_out B v l t r w (by omega) hv hl hB ht
end Go.Proofs.YtimjbjppmhdjnaaGreatDoor
namespace Go.Proofs.YtimjbjppmhdjnaaGreatDoor
open Go.RowKit
set_option linter.unusedVariables false
set_option linter.unusedSimpArgs false
def rv (r : Int × Int) : List Value := [.int .i64 r.1, .int .i64 r.2]
def rvs (l : List (Int × Int)) : List (List Value) := l.map rv
theorem rvs_len (l : List (Int × Int)) : (rvs l).length = l.length := by simp [rvs]
theorem rvs_append (k l : List (Int × Int)) : rvs (k ++ l) = rvs k ++ rvs l := by simp [rvs]
theorem rvs_two (l : List (Int × Int)) : ∀ y ∈ rvs l, y.length = 2 := by
 intro y hy
 simp only [rvs, List.mem_map] at hy
 obtain ⟨r, _, rfl⟩ := hy
 rfl
theorem rvs_one (l : List (Int × Int)) : ∀ y ∈ rvs l, ∀ c ∈ y, c.oneCell' = true := by
 intro y hy
 simp only [rvs, List.mem_map] at hy
 obtain ⟨r, _, rfl⟩ := hy
 intro c hc
 simp [rv] at hc
 rcases hc with rfl | rfl <;> rfl
theorem infoR : (Tryz.prog.info? 43).map (fun i => (i.zero, i.size, i.bytes)) = some (some (.agg #[.int .i64 0, .int .i64 0]), 2, 16) := by kernel_rfl
def OwnR (B : Nat) (w : World) (v : Value) (l : List (Int × Int)) : Prop := OwnV 43 2 B w v (rvs l)
def Rs (w : World) (v : Value) (l : List (Int × Int)) : Prop := Vs 2 w v (rvs l)
theorem OwnR.keep {B : Nat} {w w' : World} {v : Value} {l : List (Int × Int)} (h : OwnR B w v l) (hb : Below w.heap.size w w') : OwnR B w' v l := OwnV.keep h hb
theorem one_rune (w : World) (r a : Int) : Vs 2 (w.alloc (.cells #[.int .i64 r, .int .i64 a] 43)) (.slice (some ⟨w.heap.size, 0, none⟩) 1 1) (rvs [(r, a)]) :=
 vs_cells 2 43 w (rvs [(r, a)]) _ 1 rfl (rvs_two _) rfl (by simp [rvs])
theorem wpl_rune {w : World} {ops : Array Oper} {rest : List Oper} {o : Oper} {a : Act} {Q : Exit -> Act -> World -> Prop} (hgd : o.guard = none) (s x : Operand)
  (ho : o.op = .call { callee := .builtin .append, args := #[s, x], argTypes := #[26, 26] })
  (B : Nat) (v u : Value) (l t : List (Int × Int)) (r p : Int) (hs : a.eval s = v) (hown : OwnR B w v l) (hx : a.eval x = u) (hu : Vs 2 w u (rvs [(r, p)])) (hnn : NNv u)
  (hlen : l.length <= 4294967296) (hB : B <= w.heap.size) (ht : l ++ [(r, p)] = t)
  (h : ∀ v' w', OwnR B w' v' t -> Below B w w' -> wpList Tryz.prog ops Q rest (a.put o.dst v') w') : wpList Tryz.prog ops Q (o :: rest) a w :=
 wpl_appendV hgd s x ho Tryz.underlying26 infoR rfl (by decide) B v u (rvs l) (rvs [(r, p)]) (rvs t) hs hown hx hu hnn (rvs_two _) (rvs_one _) (by rw [rvs_len, rvs_len]; simp; omega) (by decide) hB (by rw [<- ht, rvs_append]) h
def RuP (w : World) (l : List (Int × Int)) (e : Ending) (w' : World) : Prop := ∃ v', e = .returned v' /\ OwnR w.heap.size w' v' l /\ Below w.heap.size w w'
theorem refruns_any (v : Value) (l : List UInt8) (rs : List (Int × Int)) (w : World) (hv : Bs w v l) (hl : l.length <= 1048576) (hr : M.rn l 0 = rs) :
  Calls Tryz.prog 7 #[v] w (RuP w rs) := by
 have hv2 := hv
 obtain ⟨a, cap, rfl, h1, h2, h3⟩ := hv2
 obtain ⟨n, hn⟩ : ∃ n, l.length = n := ⟨_, rfl⟩
 have Hv := Lib.hid hv
 have Hn := Lib.hid hn
 have Hr := Lib.hid hr
 have H3 := Lib.hid h3
 rw [hn] at h1 hl ⊢
 clear h3 hv hn hr
 go_enter Tryz.func7, Tryz.ntmps7
 go_wp2
 go_loopw [3, 4, 5, 6, 7, 8] (fun ov iv _ _ _ _ wr => ∃ (i : Nat) (pre : List (Int × Int)), iv = .int .i64 i /\ i <= n /\ pre ++ M.rn l i = rs /\ pre.length <= i /\ OwnR w.heap.size wr ov pre /\ Below w.heap.size w wr) (fun _ iv _ _ _ _ _ => n - (intOf iv).toNat)
 case atStart => exact ⟨0, [], rfl, by omega, Hr.out, by simp, ownV_nil _ _ _ _, Below.refl _ _⟩
 case round =>
  obtain ⟨i, pre, rfl, hi, hpre, hpl, ho, hb⟩ := hrel
  have hsz := hb.size
  by_cases hlt : i < n
  ·obtain ⟨b, off, rfl, hbk, hcl⟩ := H3.out (by rw [Hn.out]; omega)
   obtain ⟨ok, hnx⟩ := M.next_dec l i (by rw [Hn.out]; exact hlt)
   have N1 := refnext_any _ l i _ wr (Hv.out.keep hb) (by rw [Hn.out]; omega) hnx
   unfold tri at N1
   dsimp only at N1
   rw [Hn.out] at N1
   have hst := M.rn_in l i (by rw [Hn.out]; exact hlt)
   have hle := M.step_le l i (by rw [Hn.out]; exact hlt)
   rw [Hn.out] at hle
   have hlow := M.dec_low (l.drop i)
   have hwid := M.dec_width (l.drop i)
   have hdl := M.dec_le (l.drop i) (by simp; rw [Hn.out]; omega)
   rw [List.length_drop, Hn.out] at hdl
   have hcg : i + 1 < n -> wr.cell? ⟨b, off + (i + 1), none⟩ = some (.int .u8 ((l.getD (i + 1) 0).toNat : Int)) := fun hj => by
    have hj' : i + 1 < l.length := by rw [Hn.out]; exact hj
    rw [hb.cell (p := ⟨b, off + (i + 1), none⟩) hbk, hcl (i + 1) hj']; simp [hj']
   have hout : n <= i + 1 -> l.getD (i + 1) 0 = 0 := by intro h; simp [List.getD, List.getElem?_eq_none (show l.length <= i + 1 by rw [Hn.out]; exact h)]
   unfold M.stepR at hst hle
   obtain ⟨D, hD⟩ : ∃ D, (M.dec (l.drop i)).1 = D := ⟨_, rfl⟩
   obtain ⟨K, hK⟩ : ∃ D, (M.dec (l.drop i)).2 = D := ⟨_, rfl⟩
   obtain ⟨c, hc⟩ : ∃ c, l.getD (i + 1) 0 = c := ⟨_, rfl⟩
   rw [hD, hK] at hst hle N1 hlow
   rw [hK] at hwid hdl
   rw [hc] at hst hle hcg hout
   have HN := Lib.hid N1
   have Hpre := Lib.hid hpre
   clear N1 hD hK hc hnx hcl hpre
   by_cases h0 : D = 0
   ·subst h0
    rw [if_pos rfl] at hst hle
    have hfin : (pre ++ [(65533, (i : Int))]) ++ M.rn l (i + K) = rs := by rw [List.append_assoc, List.singleton_append, <- hst]; exact Hpre.out
    have Hf := Lib.hid hfin
    clear hst hle hcg hout hlow hfin
    go_wp2_with fail
    refine HN.out.mono ?_
    rintro e w' ⟨rfl, rfl⟩
    go_wp2_with (at_builtin; refine wpl_rune rfl _ _ rfl w.heap.size _ (.slice (some ⟨wr.heap.size, 0, none⟩) 1 1) pre (pre ++ [(65533, (i : Int))]) 65533 i rfl (OwnR.keep ho ((Below.refl _ _).alloc (Nat.le_refl _) _)) rfl (one_rune wr 65533 i) (nnv_some _ _ _) (by omega) (by simp; omega) rfl ?_)
    intro v3 w3 ho3 hb4
    have hb5 := (hb.alloc hsz _).trans hb4
    clear hb hb4 ho
    go_wp2
    go_roundw
    case rel => exact ⟨i + K, pre ++ [(65533, (i : Int))], by go_num, by omega, Hf.out, by simp; omega, ho3, hb5⟩
    case measure => simp [intOf]; omega
   by_cases h12 : D = 12
   ·subst h12
    rw [if_neg (by decide), if_pos rfl] at hst hle
    have hfin : (pre ++ [(10, (i : Int))]) ++ M.rn l (i + K) = rs := by rw [List.append_assoc, List.singleton_append, <- hst]; exact Hpre.out
    have Hf := Lib.hid hfin
    clear hst hle hcg hout hlow hfin h0
    go_wp2_with fail
    refine HN.out.mono ?_
    rintro e w' ⟨rfl, rfl⟩
    go_wp2_with (at_builtin; refine wpl_rune rfl _ _ rfl w.heap.size _ (.slice (some ⟨wr.heap.size, 0, none⟩) 1 1) pre (pre ++ [(10, (i : Int))]) 10 i rfl (OwnR.keep ho ((Below.refl _ _).alloc (Nat.le_refl _) _)) rfl (one_rune wr 10 i) (nnv_some _ _ _) (by omega) (by simp; omega) rfl ?_)
    intro v3 w3 ho3 hb4
    have hb5 := (hb.alloc hsz _).trans hb4
    clear hb hb4 ho
    go_wp2
    go_roundw
    case rel => exact ⟨i + K, pre ++ [(10, (i : Int))], by go_num, by omega, Hf.out, by simp; omega, ho3, hb5⟩
    case measure => simp [intOf]; omega
   by_cases h13 : D = 13
   ·subst h13
    have hK1 := (hlow (by decide)).1
    subst hK1
    rw [if_neg (by decide), if_neg (by decide), if_pos rfl] at hst hle
    obtain ⟨C, hC⟩ : ∃ C : Int, (c.toNat : Int) = C := ⟨_, rfl⟩
    rw [hC] at hcg
    have i4 : ((i : Int) + 1).toNat = i + 1 := by omega
    by_cases hin : i + 1 < n
    ·have hcc := hcg hin
     have t1 : decide ((i : Int) + 1 < n) = true := by simp; omega
     have u1 : (i : Int) + 1 < n := by omega
     by_cases h10 : c = 10
     ·have t2 : (C == 10) = true := by rw [<- hC, h10]; rfl
      rw [if_pos h10] at hst hle
      have hfin : (pre ++ [(10, (i : Int))]) ++ M.rn l (i + 2) = rs := by rw [List.append_assoc, List.singleton_append, <- hst]; exact Hpre.out
      have Hf := Lib.hid hfin
      clear hst hle hcg hout hlow hfin h0 h12 h10 hC
      go_wp2_with fail
      refine HN.out.mono ?_
      rintro e w' ⟨rfl, rfl⟩
      go_wp2_with (at_builtin; refine wpl_rune rfl _ _ rfl w.heap.size _ (.slice (some ⟨wr.heap.size, 0, none⟩) 1 1) pre (pre ++ [(10, (i : Int))]) 10 i rfl (OwnR.keep ho ((Below.refl _ _).alloc (Nat.le_refl _) _)) rfl (one_rune wr 10 i) (nnv_some _ _ _) (by omega) (by simp; omega) rfl ?_)
      intro v3 w3 ho3 hb4
      have hb5 := (hb.alloc hsz _).trans hb4
      clear hb hb4 ho
      go_wp2
      go_roundw
      case rel => exact ⟨i + 2, pre ++ [(10, (i : Int))], by go_num, by omega, Hf.out, by simp; omega, ho3, hb5⟩
      case measure => simp [intOf]; omega
     ·have t2 : (C == 10) = false := by rw [beq_eq_false_iff_ne]; intro hh; apply h10; apply UInt8.toNat_inj.1; show c.toNat = 10; omega
      rw [if_neg h10] at hst hle
      have hfin : (pre ++ [(10, (i : Int))]) ++ M.rn l (i + 1) = rs := by rw [List.append_assoc, List.singleton_append, <- hst]; exact Hpre.out
      have Hf := Lib.hid hfin
      clear hst hle hcg hout hlow hfin h0 h12 h10 hC
      go_wp2_with fail
      refine HN.out.mono ?_
      rintro e w' ⟨rfl, rfl⟩
      go_wp2_with (at_builtin; refine wpl_rune rfl _ _ rfl w.heap.size _ (.slice (some ⟨wr.heap.size, 0, none⟩) 1 1) pre (pre ++ [(10, (i : Int))]) 10 i rfl (OwnR.keep ho ((Below.refl _ _).alloc (Nat.le_refl _) _)) rfl (one_rune wr 10 i) (nnv_some _ _ _) (by omega) (by simp; omega) rfl ?_)
      intro v3 w3 ho3 hb4
      have hb5 := (hb.alloc hsz _).trans hb4
      clear hb hb4 ho
      go_wp2
      go_roundw
      case rel => exact ⟨i + 1, pre ++ [(10, (i : Int))], by go_num, by omega, Hf.out, by simp; omega, ho3, hb5⟩
      case measure => simp [intOf]; omega
    ·have hc0 := hout (by omega)
     rw [if_neg (by rw [hc0]; decide)] at hst hle
     have t1 : decide ((i : Int) + 1 < n) = false := by simp; omega
     have hfin : (pre ++ [(10, (i : Int))]) ++ M.rn l (i + 1) = rs := by rw [List.append_assoc, List.singleton_append, <- hst]; exact Hpre.out
     have Hf := Lib.hid hfin
     clear hst hle hcg hout hlow hfin h0 h12 hC hc0
     go_wp2_with fail
     refine HN.out.mono ?_
     rintro e w' ⟨rfl, rfl⟩
     go_wp2_with (at_builtin; refine wpl_rune rfl _ _ rfl w.heap.size _ (.slice (some ⟨wr.heap.size, 0, none⟩) 1 1) pre (pre ++ [(10, (i : Int))]) 10 i rfl (OwnR.keep ho ((Below.refl _ _).alloc (Nat.le_refl _) _)) rfl (one_rune wr 10 i) (nnv_some _ _ _) (by omega) (by simp; omega) rfl ?_)
     intro v3 w3 ho3 hb4
     have hb5 := (hb.alloc hsz _).trans hb4
     clear hb hb4 ho
     go_wp2
     go_roundw
     case rel => exact ⟨i + 1, pre ++ [(10, (i : Int))], by go_num, by omega, Hf.out, by simp; omega, ho3, hb5⟩
     case measure => simp [intOf]; omega
   ·rw [if_neg h0, if_neg h12, if_neg h13] at hst hle
    obtain ⟨E, hE⟩ : ∃ E : Int, (D : Int) = E := ⟨_, rfl⟩
    have t1 : (E == 0) = false := by rw [beq_eq_false_iff_ne]; omega
    have t2 : (E == 12) = false := by rw [beq_eq_false_iff_ne]; omega
    have t3 : (E == 13) = false := by rw [beq_eq_false_iff_ne]; omega
    rw [hE] at HN hst
    have hfin : (pre ++ [(E, (i : Int))]) ++ M.rn l (i + K) = rs := by rw [List.append_assoc, List.singleton_append, <- hst]; exact Hpre.out
    have Hf := Lib.hid hfin
    clear hst hle hcg hout hlow hfin h0 h12 h13 hE
    go_wp2_with fail
    refine HN.out.mono ?_
    rintro e w' ⟨rfl, rfl⟩
    go_wp2_with (at_builtin; refine wpl_rune rfl _ _ rfl w.heap.size _ (.slice (some ⟨wr.heap.size, 0, none⟩) 1 1) pre (pre ++ [(E, (i : Int))]) E i rfl (OwnR.keep ho ((Below.refl _ _).alloc (Nat.le_refl _) _)) rfl (one_rune wr E i) (nnv_some _ _ _) (by omega) (by simp; omega) rfl ?_)
    intro v3 w3 ho3 hb4
    have hb5 := (hb.alloc hsz _).trans hb4
    clear hb hb4 ho
    go_wp2
    go_roundw
    case rel => exact ⟨i + K, pre ++ [(E, (i : Int))], by go_num, by omega, Hf.out, by simp; omega, ho3, hb5⟩
    case measure => simp [intOf]; omega
  ·have hfin := hpre
   rw [M.rn_out l i (by rw [Hn.out]; omega), List.append_nil] at hfin
   subst hfin
   have HF : Hid (RuP w pre (.returned u3) wr) := Lib.hid ⟨_, rfl, ho, hb⟩
   have hge : (n : Int) <= i := by omega
   have hge2 : n <= i := by omega
   clear ho hb hpre hlt
   go_wp2
   go_ret
   exact HF.out
theorem cnext_any (v : Value) (l : List UInt8) (i : Nat) (r : Int) (n : Nat) (w : World) (hT : Tabs w) (hv : Bs w v l) (hl : l.length <= 2147483648) (hi : i < l.length) (hs : M.stepR l i = (r, n)) :
  Calls Tryz.prog 116 #[v, .int .i64 (i : Int)] w fun e w' => e = .returned (.tuple #[.int .i64 r, .int .i64 (n : Int)]) /\ Below w.heap.size w w' := by
 obtain ⟨ok, hnx⟩ := M.next_dec l i hi
 have hv2 := hv
 obtain ⟨a, cap, rfl, h1, h2, h3⟩ := hv2
 obtain ⟨b, off, rfl, hb, hcl⟩ := h3 (by omega)
 have N1 := next_any _ l i _ w hT hv (by omega) hnx
 unfold tri at N1
 dsimp only at N1
 have hcg : i + 1 < l.length -> w.cell? ⟨b, off + (i + 1), none⟩ = some (.int .u8 ((l.getD (i + 1) 0).toNat : Int)) := fun hj => by rw [hcl (i + 1) hj]; simp [hj]
 obtain ⟨m, hm⟩ : ∃ m, l.length = m := ⟨_, rfl⟩
 have hout : m <= i + 1 -> l.getD (i + 1) 0 = 0 := by intro h; simp [List.getD, List.getElem?_eq_none (show l.length <= i + 1 by omega)]
 rw [hm] at hcg hl h1 hi N1 ⊢
 unfold M.stepR at hs
 have hlow := M.dec_low (l.drop i)
 have hwid := M.dec_width (l.drop i)
 have hrn := M.dec_rune (l.drop i)
 obtain ⟨D, hD⟩ : ∃ D, (M.dec (l.drop i)).1 = D := ⟨_, rfl⟩
 obtain ⟨K, hK⟩ : ∃ D, (M.dec (l.drop i)).2 = D := ⟨_, rfl⟩
 obtain ⟨c, hc⟩ : ∃ c, l.getD (i + 1) 0 = c := ⟨_, rfl⟩
 rw [hD, hK] at hs N1 hlow
 rw [hD] at hrn
 rw [hK] at hwid
 rw [hc] at hs hcg hout
 have HN := Lib.hid N1
 have i4 : ((i : Int) + 1).toNat = i + 1 := by omega
 by_cases h0 : D = 0
 ·subst h0
  rw [if_pos rfl] at hs
  simp only [Prod.mk.injEq] at hs
  obtain ⟨rfl, rfl⟩ := hs
  clear N1 hcg hout hD hK hc hm hcl h3 hlow hv hnx
  go_enter Tryz.func116, Tryz.ntmps116
  go_wp2_with fail
  refine HN.out.mono ?_
  rintro e w1 ⟨rfl, hb1⟩
  go_wp2
  go_ret2
  exact ⟨rfl, hb1⟩
 by_cases h12 : D = 12
 ·subst h12
  rw [if_neg (by decide), if_pos rfl] at hs
  simp only [Prod.mk.injEq] at hs
  obtain ⟨rfl, rfl⟩ := hs
  clear N1 hcg hout hD hK hc hm hcl h3 hlow hv hnx h0
  go_enter Tryz.func116, Tryz.ntmps116
  go_wp2_with fail
  refine HN.out.mono ?_
  rintro e w1 ⟨rfl, hb1⟩
  go_wp2
  go_ret2
  exact ⟨rfl, hb1⟩
 by_cases h13 : D = 13
 ·subst h13
  have hK1 := (hlow (by decide)).1
  subst hK1
  rw [if_neg (by decide), if_neg (by decide), if_pos rfl] at hs
  simp only [Prod.mk.injEq] at hs
  obtain ⟨rfl, hn⟩ := hs
  obtain ⟨C, hC⟩ : ∃ C : Int, (c.toNat : Int) = C := ⟨_, rfl⟩
  rw [hC] at hcg
  by_cases hin : i + 1 < m
  ·have hcc := hcg hin
   have t1 : decide ((i : Int) + 1 < m) = true := by simp; omega
   have u1 : (i : Int) + 1 < m := by omega
   by_cases h10 : c = 10
   ·have t2 : (C == 10) = true := by rw [<- hC, h10]; rfl
    rw [if_pos h10] at hn
    subst hn
    clear N1 hcg hout hD hK hc hm hcl h3 hlow hv hnx h0 h12 h10 hC
    go_enter Tryz.func116, Tryz.ntmps116
    go_wp2_with fail
    refine HN.out.mono ?_
    rintro e w1 ⟨rfl, hb1⟩
    have hcr := hb1.cell (p := ⟨b, off + (i + 1), none⟩) hb
    rw [hcc] at hcr
    go_wp2
    go_ret2
    exact ⟨rfl, hb1⟩
   ·have t2 : (C == 10) = false := by rw [beq_eq_false_iff_ne]; intro hh; apply h10; apply UInt8.toNat_inj.1; show c.toNat = 10; omega
    rw [if_neg h10] at hn
    subst hn
    clear N1 hcg hout hD hK hc hm hcl h3 hlow hv hnx h0 h12 h10 hC
    go_enter Tryz.func116, Tryz.ntmps116
    go_wp2_with fail
    refine HN.out.mono ?_
    rintro e w1 ⟨rfl, hb1⟩
    have hcr := hb1.cell (p := ⟨b, off + (i + 1), none⟩) hb
    rw [hcc] at hcr
    go_wp2
    go_ret2
    exact ⟨rfl, hb1⟩
  ·have hc0 := hout (by omega)
   rw [if_neg (by rw [hc0]; decide)] at hn
   subst hn
   have t1 : decide ((i : Int) + 1 < m) = false := by simp; omega
   clear N1 hcg hout hD hK hc hm hcl h3 hlow hv hnx h0 h12 hC hc0
   go_enter Tryz.func116, Tryz.ntmps116
   go_wp2_with fail
   refine HN.out.mono ?_
   rintro e w1 ⟨rfl, hb1⟩
   go_wp2
   go_ret2
   exact ⟨rfl, hb1⟩
 ·rw [if_neg h0, if_neg h12, if_neg h13] at hs
  simp only [Prod.mk.injEq] at hs
  obtain ⟨rfl, rfl⟩ := hs
  obtain ⟨E, hE⟩ : ∃ E : Int, (D : Int) = E := ⟨_, rfl⟩
  have t1 : (E == 0) = false := by rw [beq_eq_false_iff_ne]; omega
  have t2 : (E == 12) = false := by rw [beq_eq_false_iff_ne]; omega
  have t3 : (E == 13) = false := by rw [beq_eq_false_iff_ne]; omega
  rw [hE] at HN ⊢
  clear N1 hcg hout hD hK hc hm hcl h3 hlow hv hnx h0 h12 h13 hE
  go_enter Tryz.func116, Tryz.ntmps116
  go_wp2_with fail
  refine HN.out.mono ?_
  rintro e w1 ⟨rfl, hb1⟩
  go_wp2
  go_ret2
  exact ⟨rfl, hb1⟩
theorem cruns_any (v : Value) (l : List UInt8) (rs : List (Int × Int)) (w : World) (hT : Tabs w) (hv : Bs w v l) (hl : l.length <= 1048576) (hr : M.rn l 0 = rs) :
  Calls Tryz.prog 78 #[v] w (RuP w rs) := by
 obtain ⟨i0, hi0, hz0, hz1, hz2⟩ := info_parts infoR
 have hv2 := hv
 obtain ⟨a, cap, rfl, h1, h2, h3⟩ := hv2
 obtain ⟨n, hn⟩ : ∃ n, l.length = n := ⟨_, rfl⟩
 have hmk : ∀ u : World, (Instr.makeSlice 26 (.int .i64 0) (.int .i64 (n : Int))).run Tryz.prog u = .ok (.slice (some ⟨u.heap.size, 0, none⟩) 0 n) (u.alloc (.cells (madeCells #[.int .i64 0, .int .i64 0] (n * 2)) 43)) := fun u => by
  have h := run_make (P := Tryz.prog) u 26 43 i0 _ Tryz.underlying26 hi0 hz0 .i64 .i64 0 (n : Int) (by omega) (by omega) (by rw [hz2]; omega) (by omega)
  simpa [hz1, Value.cells] using h
 have hown : OwnR w.heap.size (w.alloc (.cells (madeCells #[.int .i64 0, .int .i64 0] (n * 2)) 43)) (.slice (some ⟨w.heap.size, 0, none⟩) 0 n) [] := by
  refine ⟨?_, by simp [rvs], by simp [rvs]⟩
  have := World.ownsRow_made w (base := w.heap.size) (e := 43) (size := 2) (madeCells #[.int .i64 0, .int .i64 0] (n * 2)) n (Nat.le_refl _) (by unfold maxLen; omega) (size_madeCells _ _)
  exact this
 have Hmk := Lib.hid hmk
 have Hv := Lib.hid hv
 have HT := Lib.hid hT
 have Hn := Lib.hid hn
 have Hr := Lib.hid hr
 have Ho := Lib.hid hown
 rw [hn] at h1 hl ⊢
 clear h3 hv hT hn hr hi0 hz0 hz1 hz2 hown
 go_enter Tryz.func78, Tryz.ntmps78
 go_wp2
 clear hmk
 go_loopw [3, 4, 5, 6] (fun ov iv _ _ wr => ∃ (i : Nat) (pre : List (Int × Int)), iv = .int .i64 i /\ i <= n /\ pre ++ M.rn l i = rs /\ pre.length <= i /\ OwnR w.heap.size wr ov pre /\ Below w.heap.size w wr) (fun _ iv _ _ _ => n - (intOf iv).toNat)
 case atStart => exact ⟨0, [], rfl, by omega, Hr.out, by simp, Ho.out, (Below.refl _ _).alloc (Nat.le_refl _) _⟩
 case round =>
  obtain ⟨i, pre, rfl, hi, hpre, hpl, ho, hb⟩ := hrel
  have hsz := hb.size
  by_cases hlt : i < n
  ·obtain ⟨r, k, hs⟩ : ∃ r k, M.stepR l i = (r, k) := ⟨_, _, rfl⟩
   have hle := M.step_le l i (by rw [Hn.out]; exact hlt)
   have hst := M.rn_in l i (by rw [Hn.out]; exact hlt)
   rw [hs] at hle hst
   rw [Hn.out] at hle
   have hfin : (pre ++ [(r, (i : Int))]) ++ M.rn l (i + k) = rs := by rw [List.append_assoc, List.singleton_append, <- hst]; exact hpre
   have HC := Lib.hid (cnext_any _ l i r k wr (HT.out.keep hb) (Hv.out.keep hb) (by rw [Hn.out]; omega) (by rw [Hn.out]; exact hlt) hs)
   have Hf := Lib.hid hfin
   rw [Hn.out] at HC
   have hk1 := hle.1
   have hk2 := hle.2
   clear hs hst hfin hpre hle
   go_wp2_with fail
   refine HC.out.mono ?_
   rintro e w2 ⟨rfl, hb2⟩
   have ho2 := OwnR.keep ho hb2
   have hb3 := hb.trans (hb2.mono hsz)
   have hsz3 := hb3.size
   clear hb2 ho
   go_wp2_with (at_builtin; refine wpl_rune rfl _ _ rfl w.heap.size _ (.slice (some ⟨w2.heap.size, 0, none⟩) 1 1) pre (pre ++ [(r, (i : Int))]) r i rfl (OwnR.keep ho2 ((Below.refl _ _).alloc (Nat.le_refl _) _)) rfl (one_rune w2 r i) (nnv_some _ _ _) (by omega) (by simp; omega) rfl ?_)
   intro v3 w3 ho3 hb4
   have hb5 := (hb3.alloc hsz3 _).trans hb4
   clear hb hb3 hb4 ho2
   go_wp2
   go_roundw
   case rel => exact ⟨i + k, pre ++ [(r, (i : Int))], by go_num, hk2, Hf.out, by simp; omega, ho3, hb5⟩
   case measure => simp [intOf]; omega
  ·have hfin := hpre
   rw [M.rn_out l i (by rw [Hn.out]; omega), List.append_nil] at hfin
   subst hfin
   have HF : Hid (RuP w pre (.returned u3) wr) := Lib.hid ⟨_, rfl, ho, hb⟩
   have hge : (n : Int) <= i := by omega
   have hge2 : n <= i := by omega
   clear ho hb hpre hlt
   go_wp2
   go_ret
   exact HF.out
theorem rs_cells {w : World} {b off : Nat} {l : List (Int × Int)} (h : ∀ j (h : j < (rvs l).length) i u, (rvs l)[j][i]? = some u -> w.cell? ⟨b, off + (j * 2 + i), none⟩ = some u) :
  ∀ j (hj : j < l.length), w.cell? ⟨b, off + j * 2, none⟩ = some (.int .i64 (l[j]).1) /\ w.cell? ⟨b, off + j * 2 + 1, none⟩ = some (.int .i64 (l[j]).2) := by
 intro j hj
 have hj' : j < (rvs l).length := by rw [rvs_len]; exact hj
 have e : (rvs l)[j] = rv l[j] := by simp [rvs]
 have h0 := h j hj' 0 (.int .i64 (l[j]).1) (by rw [e]; rfl)
 have h1 := h j hj' 1 (.int .i64 (l[j]).2) (by rw [e]; rfl)
 exact ⟨by simpa using h0, by rw [Nat.add_assoc]; exact h1⟩
theorem rs_open {w : World} {v : Value} {l : List (Int × Int)} (h : Rs w v l) {n : Nat} (hn : l.length = n) :
  ∃ a cap, v = .slice a n cap /\ n <= cap /\ cap <= maxLen /\ (0 < n -> ∃ b off, a = some ⟨b, off, none⟩ /\ b < w.heap.size /\ ∀ j (hj : j < l.length), w.cell? ⟨b, off + j * 2, none⟩ = some (.int .i64 (l[j]).1) /\ w.cell? ⟨b, off + j * 2 + 1, none⟩ = some (.int .i64 (l[j]).2)) := by
 obtain ⟨a, cap, rfl, h1, h2, h3⟩ := h
 rw [rvs_len, hn] at h1
 refine ⟨a, cap, by rw [rvs_len, hn], h1, h2, fun h0 => ?_⟩
 obtain ⟨b, off, rfl, hb, hc⟩ := h3 (by rw [rvs_len, hn]; exact h0)
 exact ⟨b, off, rfl, hb, rs_cells hc⟩
theorem ctext_any (v : Value) (l : List (Int × Int)) (t : List UInt8) (w : World) (hv : Rs w v l) (hl : l.length <= 100000) (ht : M.encR l = t) :
  Calls Tryz.prog 179 #[v] w fun e w' => e = .returned (.string (bytes t)) /\ Below w.heap.size w w' := by
 obtain ⟨a, cap, rfl, h1, h2, h3⟩ := hv
 rw [rvs_len] at h1 ⊢
 obtain ⟨n, hn⟩ : ∃ n, l.length = n := ⟨_, rfl⟩
 have Hn := Lib.hid hn
 have Ht := Lib.hid ht
 have H3 := Lib.hid h3
 rw [hn] at h1 hl ⊢
 clear h3 hn ht
 go_enter Tryz.func179, Tryz.ntmps179
 go_wp2
 go_loopw [3, 5, 8] (fun ov _ iv wr => ∃ i : Nat, iv = .int .i64 i /\ i <= n /\ OwnB w.heap.size wr ov (M.encR (l.take i)) /\ Below w.heap.size w wr) (fun _ _ iv _ => n - (intOf iv).toNat)
 case atStart => exact ⟨0, rfl, by omega, World.ownsRow_nil _ _ _ _, Below.refl _ _⟩
 case round =>
  obtain ⟨i, rfl, hi, ho, hb⟩ := hrel
  have hsz := hb.size
  by_cases hlt : i < n
  ·obtain ⟨b, off, rfl, hbk, hcl⟩ := H3.out (by rw [rvs_len, Hn.out]; omega)
   obtain ⟨hc, hc2⟩ := rs_cells hcl i (by rw [Hn.out]; exact hlt)
   have hsn := M.encR_snoc l i (by rw [Hn.out]; exact hlt)
   have hln := M.encR_len (l.take i)
   rw [List.length_take] at hln
   obtain ⟨r, hr⟩ : ∃ r, (l[i]'(by rw [Hn.out]; exact hlt)).1 = r := ⟨_, rfl⟩
   obtain ⟨p, hp⟩ : ∃ r, (l[i]'(by rw [Hn.out]; exact hlt)).2 = r := ⟨_, rfl⟩
   rw [hr] at hc hsn
   rw [hp] at hc2
   have hcr := hb.cell (p := ⟨b, off + i * 2, none⟩) hbk
   rw [hc] at hcr
   have hcr2 := hb.cell (p := ⟨b, off + i * 2 + 1, none⟩) hbk
   rw [hc2] at hcr2
   obtain ⟨R, hR⟩ : ∃ R, M.encR (l.take i) = R := ⟨_, rfl⟩
   rw [hR] at ho hsn hln
   have hRl : R.length <= 1048576 := by omega
   have Hsn := Lib.hid hsn
   clear hcl hc hc2 hsn hln hr hp hR
   go_wp2_with fail
   refine (put_any (.slice none 0 0) [] (M.enc r) r _ (bs_nil _) (by simp) rfl).mono ?_
   rintro e w2 ⟨v2, rfl, ho2, hb2⟩
   have hba : Below w.heap.size w w2 := (hb.alloc hsz _).trans (hb2.mono (by simp; omega))
   have hoa : OwnB w.heap.size w2 u3 R := OwnB.keep (World.ownsRow.alloc ho _) hb2
   have hszb := hba.size
   have hel := M.enc_le r
   have hbs2 := ho2.bs
   have hnn2 : ∀ n c, v2 = .slice none n c -> c = 0 := by
    obtain ⟨_, ⟨rfl, h0⟩ | ⟨g, cap, cur, rfl, _⟩⟩ := ho2
    ·intro n c h; simp at h; omega
    ·intro n c h; simp at h
   clear hb hb2 ho ho2
   go_wp2_with (at_builtin; refine wpl_append rfl _ _ rfl w.heap.size _ v2 R (M.enc r) (R ++ M.enc r) rfl hoa rfl hbs2 hnn2 (by omega) hszb rfl ?_)
   intro v3 w3 ho3 hb4
   have hb5 := hba.trans hb4
   clear hba hb4 hoa hbs2 hnn2
   go_wp2
   go_roundw
   case rel => exact ⟨i + 1, by go_num, by omega, by rw [Hsn.out]; exact ho3, hb5⟩
   case measure => simp [intOf]; omega
  ·obtain rfl : i = n := by omega
   have hfull : M.encR (l.take i) = t := by rw [List.take_of_length_le (by rw [Hn.out]; exact Nat.le_refl _)]; exact Ht.out
   rw [hfull] at ho
   have hcv := conv_own ho
   clear hfull
   go_wp2
   go_ret
   exact ⟨rfl, hb⟩
end Go.Proofs.YtimjbjppmhdjnaaGreatDoor
namespace Go.Proofs.YtimjbjppmhdjnaaGreatDoor
open Go.RowKit
theorem valid_any (v : Value) (l : List UInt8) (q : Nat) (ok : Bool) (w : World) (hT : Tabs w) (hv : Bs w v l) (hl : l.length <= 4294967296) (hr : M.validAll l = (q, ok)) :
  Calls Tryz.prog 41 #[v] w fun e w' => e = .returned (.tuple #[.int .i64 q, .bool ok]) /\ Below w.heap.size w w' := by
 have hv2 := hv
 obtain ⟨a, cap, rfl, h1, h2, h3⟩ := hv2
 clear h3
 have Hv := Lib.hid hv
 have HT := Lib.hid hT
 have Hr := Lib.hid hr
 clear hv hT hr
 go_enter Tryz.func41, Tryz.ntmps41
 go_wp2
 go_loopw [4] (fun pv wr => ∃ (f p : Nat), pv = .int .i64 p /\ p <= l.length /\ l.length <= p + f /\ M.valid f l p = (q, ok) /\ Below w.heap.size w wr) (fun pv _ => l.length - (intOf pv).toNat)
 case atStart => exact ⟨l.length, 0, rfl, by omega, by omega, Hr.out, Below.refl _ _⟩
 case round =>
  obtain ⟨f, p, rfl, hp, hf, hval, hb⟩ := hrel
  have hTr := HT.out.keep hb
  have hvr := Hv.out.keep hb
  by_cases hlt : p < l.length
  ·have hn := M.dec_width (l.drop p)
   have hle := M.dec_le (l.drop p) (by simp; omega)
   rw [List.length_drop] at hle
   have hnx : M.nextAt l p = M.nx (l.drop p) := by unfold M.nextAt; rw [if_neg (by omega)]; simp
   by_cases hbad : M.dec (l.drop p) = (65533, 1)
   ·have e1 : M.nx (l.drop p) = (65533, 1, false) := by unfold M.nx; rw [if_pos hbad]
    rw [M.valid_bad f l p hlt (by omega) (by rw [e1])] at hval
    obtain ⟨rfl, rfl⟩ := Prod.mk.inj hval
    have Hnx := Lib.hid (hnx.trans e1)
    clear hnx e1 hbad hval hn hle
    go_wp2_with fail
    refine (next_any _ l _ _ _ hTr hvr hl Hnx.out).mono ?_
    rintro e w2 ⟨rfl, hb2⟩
    unfold tri
    go_wp2
    go_ret2
    exact ⟨rfl, hb.trans (hb2.mono hb.size)⟩
   ·obtain ⟨R, K, hRK⟩ : ∃ R K, M.dec (l.drop p) = (R, K) := ⟨_, _, rfl⟩
    have e1 : M.nx (l.drop p) = ((R : Int), (K : Int), true) := by unfold M.nx; rw [if_neg hbad, hRK]
    rw [M.valid_good f l p hlt (by omega) (by rw [e1]), hRK] at hval
    rw [hRK] at hn hle
    simp only at hval hn hle
    have Hval := Lib.hid hval
    have Hnx := Lib.hid (hnx.trans e1)
    clear hnx e1 hbad hval hRK
    go_wp2_with fail
    refine (next_any _ l _ _ _ hTr hvr hl Hnx.out).mono ?_
    rintro e w2 ⟨rfl, hb2⟩
    unfold tri
    have hb3 := hb.trans (hb2.mono hb.size)
    clear hb hb2 hTr hvr
    go_wp2
    go_roundw
    case rel => exact ⟨f - 1, p + K, by go_num, by omega, by omega, Hval.out, hb3⟩
    case measure => simp [intOf]; omega
  ·obtain rfl : p = l.length := by omega
   rw [M.valid_end f l _ (Nat.le_refl _)] at hval
   obtain ⟨rfl, rfl⟩ := Prod.mk.inj hval
   clear hlt hval
   go_wp2
   go_ret2
   exact ⟨rfl, hb⟩
end Go.Proofs.YtimjbjppmhdjnaaGreatDoor
