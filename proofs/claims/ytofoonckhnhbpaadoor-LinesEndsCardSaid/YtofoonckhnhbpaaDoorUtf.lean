/- UTF-8: what utf.Next, utf.Valid, utf.Put and utf.Units return, for any bytes, any place and any number. -/
import Derived.Test.YtofoonckhnhbpaaDoorRows
import Derived.Test.YtofoonckhnhbpaaDoorUMath
import Derived.Test.YtofoonckhnhbpaaDoorUMath2
import Derived.Test.YtofoonckhnhbpaaDoorShelf
import Derived.WalkKit
import Derived.ProofKit
import Derived.OpenShut
import Derived.Below
import Derived.Lib.Hide
import Derived.Lib.SlBytesRow
import Derived.IntWalk
import Derived.WalkSpells
import Derived.Lib.LazyBuf
namespace Go.Proofs.YtofoonckhnhbpaaDoor
open Go.RowKit

/-- The three results of reading. -/
def tri (r : Int × Int × Bool) : Value := .tuple #[.int .i64 r.1, .int .i64 r.2.1, .bool r.2.2]
/-- A slice that holds these bytes. -/
def Bs (w : World) (v : Value) (l : List UInt8) : Prop :=
  ∃ a cap, v = .slice a l.length cap ∧ l.length ≤ cap ∧ cap ≤ maxLen ∧ (0 < l.length → ∃ b off, a = some ⟨b, off, none⟩ ∧ b < w.heap.size ∧ ∀ j (h : j < l.length), w.cell? ⟨b, off + j, none⟩ = some (.int .u8 (l[j].toNat : Int)))
theorem Bs.below {B : Nat} {w w' : World} {v : Value} {l : List UInt8} (h : Bs w v l) (hb : Below B w w') (hB : w.heap.size ≤ B) : Bs w' v l := by
  obtain ⟨a, cap, rfl, h1, h2, h3⟩ := h
  refine ⟨a, cap, rfl, h1, h2, fun h0 => ?_⟩
  obtain ⟨b, off, rfl, hlt, hc⟩ := h3 h0
  exact ⟨b, off, rfl, Nat.lt_of_lt_of_le hlt hb.size, fun j hj => by rw [hb.cell (p := ⟨b, off + j, none⟩) (Nat.lt_of_lt_of_le hlt hB)]; exact hc j hj⟩
theorem Bs.keep {w w' : World} {v : Value} {l : List UInt8} (h : Bs w v l) (hb : Below w.heap.size w w') : Bs w' v l := h.below hb (Nat.le_refl _)
/-- Go's own tables of UTF-8. -/
def Tabs (w : World) : Prop := Lib.Utf8Tabs 0 1 w
theorem Tabs.keep {w w' : World} (h : Tabs w) (hb : Below w.heap.size w w') : Tabs w' := by
  obtain ⟨h1, h2⟩ := h
  refine ⟨fun c hc => ?_, fun i hi => ⟨?_, ?_⟩⟩
  · rw [hb.cell (World.block_lt_of_cell? w _ (h1 c hc))]; exact h1 c hc
  · rw [hb.cell (World.block_lt_of_cell? w _ (h2 i hi).1)]; exact (h2 i hi).1
  · rw [hb.cell (World.block_lt_of_cell? w _ (h2 i hi).2)]; exact (h2 i hi).2

theorem decode_any (l : List UInt8) (b off n cap : Nat) (w : World) (hT : Tabs w) (hn : l.length = n) (h0 : 0 < l.length)
    (hp : ∀ j (h : j < l.length), w.cell? ⟨b, off + j, none⟩ = some (.int .u8 (l[j].toNat : Int))) :
    Calls Tryd.prog 37 #[.slice (some ⟨b, off, none⟩) n cap] w fun e w' => e = .returned (.tuple #[.int .i32 ((M.dec l).1 : Int), .int .i64 ((M.dec l).2 : Int)]) ∧ Below w.heap.size w w' := by
  subst hn
  have hs : (ByteArray.mk l.toArray).size = l.length := rfl
  have hg : ∀ j, ((ByteArray.mk l.toArray).get! j).toNat = M.byte l j := fun j => by
    unfold M.byte
    simp [ByteArray.get!, List.getD]
    rfl
  have := Tryd.utf8_DecodeRune (ByteArray.mk l.toArray) b off cap w hT (fun j hj => by
    rw [hg j]
    have hj' : j < l.length := hj
    rw [hp j hj']
    simp [M.byte, hj'])
  rw [hs] at this
  refine this.mono ?_
  rintro e w' ⟨rfl, hb⟩
  refine ⟨?_, hb⟩
  have e1 : Lib.decodeGo (ByteArray.mk l.toArray) = M.dec l := by
    unfold Lib.decodeGo
    rw [if_neg (by rw [hs]; omega), Lib.decode_at, hs, hg, hg, hg, hg]
    rfl
  rw [e1]

set_option maxHeartbeats 400000 in
theorem next_any (v : Value) (l : List UInt8) (p : Int) (r : Int × Int × Bool) (w : World) (hT : Tabs w) (hv : Bs w v l) (hl : l.length ≤ 4294967296) (hr : M.nextAt l p = r) :
    Calls Tryd.prog 17 #[v, .int .i64 p] w fun e w' => e = .returned (tri r) ∧ Below w.heap.size w w' := by
  subst hr
  obtain ⟨a, cap, rfl, h1, h2, h3⟩ := hv
  unfold M.nextAt
  by_cases ho : p < 0 ∨ (l.length : Int) ≤ p
  · rw [if_pos ho]
    rcases ho with ho | ho
    · go_enter Tryd.func17, Tryd.ntmps17
      go_wp2
      go_ret3
      exact ⟨rfl, Below.refl _ _⟩
    · by_cases h0 : p < 0
      all_goals
        go_enter Tryd.func17, Tryd.ntmps17
        go_wp2
        go_ret3
        exact ⟨rfl, Below.refl _ _⟩
  · rw [if_neg ho]
    obtain ⟨k, rfl⟩ : ∃ k : Nat, p = k := ⟨p.toNat, by omega⟩
    have hk : k < l.length := by omega
    rw [Int.toNat_natCast]
    obtain ⟨b, off, rfl, hb, hc⟩ := h3 (by omega)
    have hd := decode_any (l.drop k) b (off + k) (l.length - k) (cap - k) w hT (by simp) (by simp; omega) (fun j hj => by
      rw [Nat.add_assoc, hc (k + j) (by simp at hj; omega)]; simp)
    have hcap : cap ≠ k := by omega
    clear ho h3 hc
    unfold M.nx
    obtain ⟨R, K, hRK⟩ : ∃ R K, M.dec (l.drop k) = (R, K) := ⟨_, _, rfl⟩
    have hK := M.dec_width (l.drop k)
    have hR := M.dec_rune (l.drop k)
    rw [hRK] at hd hK hR ⊢
    simp only at hd hK hR ⊢
    have HRK := Lib.hid hRK
    have Hd := Lib.hid hd
    clear hRK hd
    by_cases hbad : (R, K) = (65533, 1)
    · rw [if_pos hbad]
      simp only [Prod.mk.injEq] at hbad
      obtain ⟨rfl, rfl⟩ := hbad
      go_enter Tryd.func17, Tryd.ntmps17
      go_wp2_with fail
      refine Hd.out.mono ?_
      rintro e w' ⟨rfl, hbl⟩
      go_wp2
      go_ret3
      exact ⟨rfl, hbl⟩
    · rw [if_neg hbad]
      by_cases hR0 : R = 65533
      · have hK1 : ¬ K = 1 := fun h => hbad (by rw [hR0, h])
        have q1 : ((R : Int) == 65533) = true := by rw [beq_iff_eq]; omega
        have q2 : ((K : Int) == 1) = false := by rw [beq_eq_false_iff_ne]; omega
        clear hbad hK1 hR0
        go_enter Tryd.func17, Tryd.ntmps17
        go_wp2_with fail
        refine Hd.out.mono ?_
        rintro e w' ⟨rfl, hbl⟩
        go_wp2
        go_ret3
        exact ⟨rfl, hbl⟩
      · have q1 : ((R : Int) == 65533) = false := by rw [beq_eq_false_iff_ne]; omega
        clear hbad hR0
        go_enter Tryd.func17, Tryd.ntmps17
        go_wp2_with fail
        refine Hd.out.mono ?_
        rintro e w' ⟨rfl, hbl⟩
        go_wp2
        go_ret3
        exact ⟨rfl, hbl⟩

/-- The cells of bytes. -/
def bcells (l : List UInt8) : List Value := l.map fun c => .int .u8 (c.toNat : Int)
theorem bcells_append (k l : List UInt8) : bcells (k ++ l) = bcells k ++ bcells l := by simp [bcells]
theorem bcells_len (l : List UInt8) : (bcells l).length = l.length := by simp [bcells]
theorem runeCells_eq (r : Int) : Lib.runeCells r = bcells (M.enc r) := by
  have h : ∀ x ∈ Lib.encodeRuneZ r, 0 ≤ x ∧ x < 256 := by
    intro x hx
    unfold Lib.encodeRuneZ at hx
    repeat' split at hx
    all_goals
      simp only [List.mem_cons, List.mem_nil_iff, or_false] at hx
      omega
  unfold Lib.runeCells bcells M.enc Lib.encodeRune
  rw [List.map_map]
  apply List.map_congr_left
  intro x hx
  have := h x hx
  simp only [Function.comp]
  rw [M.toU8 x.toNat (by omega)]
  congr 1
  omega
/-- A slice of the call's own that holds these bytes. -/
def OwnB (B : Nat) (w : World) (v : Value) (l : List UInt8) : Prop := w.ownsRow B 5 1 v l.length (bcells l)
theorem OwnB.bs {B : Nat} {w : World} {v : Value} {l : List UInt8} (h : OwnB B w v l) : Bs w v l := by
  have hc := h
  have hlt := World.ownsRow.lt h
  obtain ⟨_, ⟨rfl, h0⟩ | ⟨g, cap, cur, rfl, _, _, h1, h2, _⟩⟩ := h
  · exact ⟨none, 0, by rw [h0], by omega, by omega, fun h => by omega⟩
  · refine ⟨_, cap, rfl, h1, h2, fun _ => ⟨g, 0, rfl, (hlt g rfl).2, fun j hj => ?_⟩⟩
    have := World.ownsRow.cells hc rfl j (.int .u8 (l[j].toNat : Int)) (by simp [bcells, hj])
    rwa [show (⟨g, 0, none⟩ : Addr).add j = ⟨g, 0 + j, none⟩ by cases j <;> simp [Addr.add]] at this
theorem infoB : (Tryd.prog.info? 5).map (fun i => (i.zero, i.size, i.bytes)) = some (some (.int .u8 0), 1, 1) := by kernel_rfl
theorem one_oneCell {l : List UInt8} : ∀ u ∈ bcells l, u.oneCell' = true := by
  intro u hu
  simp only [bcells, List.mem_map] at hu
  obtain ⟨c, _, rfl⟩ := hu
  rfl
theorem bs_cells {w : World} {b off : Nat} {l : List UInt8} (h : ∀ j (h : j < l.length), w.cell? ⟨b, off + j, none⟩ = some (.int .u8 (l[j].toNat : Int))) :
    ∀ j u, (bcells l)[j]? = some u → w.cell? ((⟨b, off, none⟩ : Addr).add j) = some u := by
  intro j u hj
  have hl : j < l.length := by
    have := (List.getElem?_eq_some_iff.1 hj).1
    simpa [bcells] using this
  have : u = .int .u8 (l[j].toNat : Int) := by simpa [bcells, hl] using hj.symm
  subst this
  rw [Go.WideShapes.add_plain]
  exact h j hl

set_option maxHeartbeats 400000 in
theorem clone_any (v : Value) (l : List UInt8) (w : World) (hv : Bs w v l) (hl : l.length ≤ 4294967296) :
    Calls Tryd.prog 41 #[v] w fun e w' => ∃ v', e = .returned v' ∧ OwnB w.heap.size w' v' l ∧ Below w.heap.size w w' := by
  obtain ⟨i0, hi, hz0, hz1, hz2⟩ := info_parts infoB
  obtain ⟨a, cap, rfl, h1, h2, h3⟩ := hv
  cases a with
  | none =>
    have h0 : l = [] := by
      cases l with
      | nil => rfl
      | cons c l => obtain ⟨b, off, h, _⟩ := h3 (by simp); exact absurd h (by simp)
    subst h0
    have hq := fun w => Lib.run_eql_slice_nil (P := Tryd.prog) w 22 5 none ([] : List UInt8).length cap 0 0 Tryd.underlying22
    simp only [List.length_nil, Option.isNone_none] at hq
    go_enter Tryd.func41, Tryd.ntmps41
    go_wp2
    go_ret
    exact ⟨_, rfl, World.ownsRow_nil _ _ _ _, Below.refl _ _⟩
  | some ad =>
    have hq := fun w => Lib.run_eql_slice_nil (P := Tryd.prog) w 22 5 (some ad) l.length cap 0 0 Tryd.underlying22
    simp only [Option.isNone_some] at hq
    have hcs : ∀ (W : World) (o : Obj), Below w.heap.size w W → ∀ j u, (bcells l)[j]? = some u → (W.alloc o).cell? (ad.add j) = some u := by
      intro W o hb j u hj
      have h0 : 0 < l.length := by
        have := (List.getElem?_eq_some_iff.1 hj).1
        simp [bcells] at this; omega
      obtain ⟨b, off, hab, hlt, hc⟩ := h3 h0
      obtain rfl : ad = ⟨b, off, none⟩ := by simpa using hab
      have := bs_cells hc j u hj
      have hb2 : Below w.heap.size w (W.alloc o) := hb.alloc hb.size o
      rw [hb2.cell (p := (⟨b, off, none⟩ : Addr).add j) (by rw [Go.WideShapes.add_plain]; exact hlt)]
      exact this
    clear h3
    have Hcs := Lib.hid hcs
    clear hcs
    go_enter Tryd.func41, Tryd.ntmps41
    go_wp2_with (at_builtin; refine wpList_append_own _ rfl _ _ 22 rfl w.heap.size 5 i0 (.int .u8 0) 1 1 Tryd.underlying22 hi hz0 hz1 hz2 rfl (by decide) _ 0 [] rfl (World.ownsRow_made _ #[] 0 (Nat.le_refl _) (by decide) rfl) ad l.length cap (bcells l) rfl (by simp [bcells]) ?c1 one_oneCell ?c3 ?c4 ?c5 ?_)
    case c1 => exact Hcs.out w _ (Below.refl _ _)
    case c3 => unfold maxLen; omega
    case c4 => omega
    case c5 => simp
    intro v' w1 hown hgrow _
    have hb := ((Below.refl w.heap.size w).alloc (Nat.le_refl _) (.cells #[] 5)).grown hgrow (by simp) (fun j hj => by simp [Value.ownBlock] at hj; omega)
    clear hgrow
    go_wp2
    go_ret
    exact ⟨_, rfl, hown, hb⟩

theorem cp_true (r : Int) (w : World) (h : M.isCP r = true) :
    Calls Tryd.prog 39 #[.int .i64 r] w fun e w' => e = .returned (.bool true) ∧ w = w' := by
  rw [M.isCP_iff] at h
  obtain ⟨h1, h2, h3⟩ := h
  rcases h3 with h3 | h3
  · go_enter Tryd.func39, Tryd.ntmps39
    go_wp2
    go_ret
    exact ⟨by simp; try omega, rfl⟩
  · have h4 : ¬ r < 55296 := by omega
    go_enter Tryd.func39, Tryd.ntmps39
    go_wp2
    go_ret
    exact ⟨by simp; try omega, rfl⟩
theorem cp_false (r : Int) (w : World) (h : M.isCP r = false) :
    Calls Tryd.prog 39 #[.int .i64 r] w fun e w' => e = .returned (.bool false) ∧ w = w' := by
  have h0 : ¬ (0 ≤ r ∧ r ≤ 1114111 ∧ (r < 55296 ∨ 57343 < r)) := by rw [← M.isCP_iff]; simp [h]
  clear h
  have h1 : r < 0 ∨ (0 ≤ r ∧ 1114111 < r) ∨ (0 ≤ r ∧ r ≤ 1114111 ∧ 55296 ≤ r ∧ r ≤ 57343) := by omega
  clear h0
  rcases h1 with h1 | ⟨h1, h2⟩ | ⟨h1, h2, h3, h4⟩
  all_goals
    go_enter Tryd.func39, Tryd.ntmps39
    go_wp2
    go_ret
    exact ⟨by simp; try omega, rfl⟩

theorem append_any (B : Nat) (v : Value) (l t : List UInt8) (r : Int) (w : World) (hr0 : -2147483648 ≤ r) (hr1 : r ≤ 2147483647) (hv : OwnB B w v l) (hl : l.length ≤ 4294967296) (hB : B ≤ w.heap.size) (ht : l ++ M.enc r = t) :
    Calls Tryd.prog 40 #[v, .int .i32 r] w fun e w' => ∃ v', e = .returned v' ∧ OwnB B w' v' t ∧ Below B w w' := by
  subst ht
  have hlt := World.ownsRow.lt hv
  refine (Tryd.utf8_AppendRune_plain B v l.length (bcells l) r hr0 hr1 w hv (by omega) hB).mono ?_
  rintro e w' ⟨v', rfl, hown, o, hg⟩
  refine ⟨v', rfl, ?_, ((Below.refl B w).alloc hB o).grown hg (by simp; omega) (fun j hj => (hlt j hj).1)⟩
  rw [runeCells_eq, ← bcells_append, bcells_len, ← List.length_append] at hown
  exact hown

set_option maxHeartbeats 400000 in
theorem put_any (v : Value) (l t : List UInt8) (r : Int) (w : World) (hv : Bs w v l) (hl : l.length ≤ 4294967296) (ht : l ++ M.enc r = t) :
    Calls Tryd.prog 21 #[v, .int .i64 r] w fun e w' => ∃ v', e = .returned v' ∧ OwnB w.heap.size w' v' t ∧ Below w.heap.size w w' := by
  by_cases hcp : M.isCP r = true
  · have hr := (M.isCP_iff r).1 hcp
    have hr0 : 0 ≤ r := hr.1
    have hr1 : r ≤ 1114111 := hr.2.1
    have Hcp := Lib.hid hcp
    have Ht := Lib.hid ht
    clear hr hcp ht
    go_enter Tryd.func21, Tryd.ntmps21
    go_wp2_with fail
    refine (cp_true r _ Hcp.out).mono ?_
    rintro e w' ⟨rfl, rfl⟩
    go_wp2_with fail
    refine (clone_any v l _ hv hl).mono ?_
    rintro e w1 ⟨v1, rfl, ho, hb⟩
    go_wp2_with fail
    refine (append_any w.heap.size v1 l t r _ (by omega) (by omega) ho hl hb.size Ht.out).mono ?_
    rintro e w2 ⟨v2, rfl, ho2, hb2⟩
    go_wp2
    go_ret
    exact ⟨_, rfl, ho2, hb.trans hb2⟩
  · have hcp' : M.isCP r = false := by simpa using hcp
    rw [M.enc_other r hcp'] at ht
    have Hcp := Lib.hid hcp'
    have Ht := Lib.hid ht
    clear hcp hcp' ht
    go_enter Tryd.func21, Tryd.ntmps21
    go_wp2_with fail
    refine (cp_false r _ Hcp.out).mono ?_
    rintro e w' ⟨rfl, rfl⟩
    go_wp2_with fail
    refine (clone_any v l _ hv hl).mono ?_
    rintro e w1 ⟨v1, rfl, ho, hb⟩
    go_wp2_with fail
    refine (append_any w.heap.size v1 l t 65533 _ (by omega) (by omega) ho hl hb.size Ht.out).mono ?_
    rintro e w2 ⟨v2, rfl, ho2, hb2⟩
    go_wp2
    go_ret
    exact ⟨_, rfl, ho2, hb.trans hb2⟩

theorem units_any (r : Int) (w : World) : Calls Tryd.prog 23 #[.int .i64 r] w fun e w' => e = .returned (.int .i64 (if 65536 ≤ r then 2 else 1)) ∧ w = w' := by
  by_cases h : 65536 ≤ r
  · rw [if_pos h]
    go_enter Tryd.func23, Tryd.ntmps23
    go_wp2
    go_ret
    exact ⟨rfl, rfl⟩
  · rw [if_neg h]
    go_enter Tryd.func23, Tryd.ntmps23
    go_wp2
    go_ret
    exact ⟨rfl, rfl⟩

set_option maxHeartbeats 400000 in
theorem valid_any (v : Value) (l : List UInt8) (q : Nat) (ok : Bool) (w : World) (hT : Tabs w) (hv : Bs w v l) (hl : l.length ≤ 4294967296) (hr : M.validAll l = (q, ok)) :
    Calls Tryd.prog 19 #[v] w fun e w' => e = .returned (.tuple #[.int .i64 q, .bool ok]) ∧ Below w.heap.size w w' := by
  have hv2 := hv
  obtain ⟨a, cap, rfl, h1, h2, h3⟩ := hv2
  clear h3
  have Hv := Lib.hid hv
  have HT := Lib.hid hT
  have Hr := Lib.hid hr
  clear hv hT hr
  go_enter Tryd.func19, Tryd.ntmps19
  go_wp2
  go_loopw [4] (fun pv wr => ∃ (f p : Nat), pv = .int .i64 p ∧ p ≤ l.length ∧ l.length ≤ p + f ∧ M.valid f l p = (q, ok) ∧ Below w.heap.size w wr) (fun pv _ => l.length - (intOf pv).toNat)
  case atStart => exact ⟨l.length, 0, rfl, by omega, by omega, Hr.out, Below.refl _ _⟩
  case round =>
    obtain ⟨f, p, rfl, hp, hf, hval, hb⟩ := hrel
    have hTr := HT.out.keep hb
    have hvr := Hv.out.keep hb
    by_cases hlt : p < l.length
    · have hn := M.dec_width (l.drop p)
      have hle := M.dec_le (l.drop p) (by simp; omega)
      rw [List.length_drop] at hle
      have hnx : M.nextAt l p = M.nx (l.drop p) := by unfold M.nextAt; rw [if_neg (by omega)]; simp
      by_cases hbad : M.dec (l.drop p) = (65533, 1)
      · have e1 : M.nx (l.drop p) = (65533, 1, false) := by unfold M.nx; rw [if_pos hbad]
        rw [M.valid_bad f l p hlt (by omega) (by rw [e1])] at hval
        obtain ⟨rfl, rfl⟩ := Prod.mk.inj hval
        have Hnx := Lib.hid (hnx.trans e1)
        clear hnx e1 hbad hval hn hle
        go_wp2_with fail
        refine (next_any _ l _ _ _ hTr hvr hl Hnx.out).mono ?_
        rintro e w2 ⟨rfl, hb2⟩
        unfold tri
        go_wp2
        go_ret2
        exact ⟨rfl, hb.trans (hb2.mono hb.size)⟩
      · obtain ⟨R, K, hRK⟩ : ∃ R K, M.dec (l.drop p) = (R, K) := ⟨_, _, rfl⟩
        have e1 : M.nx (l.drop p) = ((R : Int), (K : Int), true) := by unfold M.nx; rw [if_neg hbad, hRK]
        rw [M.valid_good f l p hlt (by omega) (by rw [e1]), hRK] at hval
        rw [hRK] at hn hle
        simp only at hval hn hle
        have Hval := Lib.hid hval
        have Hnx := Lib.hid (hnx.trans e1)
        clear hnx e1 hbad hval hRK
        go_wp2_with fail
        refine (next_any _ l _ _ _ hTr hvr hl Hnx.out).mono ?_
        rintro e w2 ⟨rfl, hb2⟩
        unfold tri
        have hb3 := hb.trans (hb2.mono hb.size)
        clear hb hb2 hTr hvr
        go_wp2
        go_roundw
        case rel => exact ⟨f - 1, p + K, by go_num, by omega, by omega, Hval.out, hb3⟩
        case measure => simp [intOf]; omega
    · obtain rfl : p = l.length := by omega
      rw [M.valid_end f l _ (Nat.le_refl _)] at hval
      obtain ⟨rfl, rfl⟩ := Prod.mk.inj hval
      clear hlt hval
      go_wp2
      go_ret2
      exact ⟨rfl, hb⟩
end Go.Proofs.YtofoonckhnhbpaaDoor
