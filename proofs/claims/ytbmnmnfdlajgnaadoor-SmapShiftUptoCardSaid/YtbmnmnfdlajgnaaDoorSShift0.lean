/- What the walk of SmapShift wants: two rows of segments side by side; what is behind a text's first segment. -/
import Derived.Test.YtbmnmnfdlajgnaaDoorSBase
import Derived.Test.YtbmnmnfdlajgnaaDoorUConv
import Derived.Maps.AppendAt
import Derived.Outline
namespace Go.Proofs.YtbmnmnfdlajgnaaDoor
open Go.RowKit
set_option linter.unusedVariables false
set_option linter.unusedSimpArgs false

/-- append of a segment: the row's block, and that no other one changes. -/
theorem wpl_s4at {w : World} {ops : Array Oper} {rest : List Oper} {o : Oper} {a : Act} {Q : Exit → Act → World → Prop} (hgd : o.guard = none) (s x : Operand)
    (ho : o.op = .call { callee := .builtin .append, args := #[s, x], argTypes := #[22, 22] })
    (B : Nat) (v u : Value) (l t : List M.S4) (y : M.S4) (hs : a.eval s = v) (hown : OwnS4 B w v l) (hx : a.eval x = u) (hu : Vs 4 w u [s4v y])
    (hlen : l.length ≤ 1000000) (hB : B ≤ w.heap.size) (ht : l ++ [y] = t)
    (h : ∀ v' w', OwnS4 B w' v' t → Below B w w' → (∀ m, m < w.heap.size → v.ownBlock ≠ some m → w'.heap[m]? = w.heap[m]?) → (v'.ownBlock = v.ownBlock ∨ v'.ownBlock = some w.heap.size) → wpList Tryd.prog ops Q rest (a.put o.dst v') w') : wpList Tryd.prog ops Q (o :: rest) a w := by
  subst ht
  obtain ⟨i0, hi, hz0, hz1, hz2⟩ := info_parts infoS4
  obtain ⟨ad, cap, rfl, h1, h2, h3⟩ := hu
  obtain ⟨hown, hsz, hone⟩ := hown
  have hlt := World.ownsRow.lt hown
  obtain ⟨b, off, rfl, hbk, hc⟩ := h3 (by simp)
  have hcs : ∀ j c, (s4v y)[j]? = some c → w.cell? ((⟨b, off, none⟩ : Addr).add j) = some c := by
    intro j c hj
    have := hc 0 (by simp) j c (by simpa using hj)
    rw [Go.WideShapes.add_plain]
    simpa using this
  refine wpList_append_own_at w hgd s x 22 ho B 28 i0 _ 4 32 Tryd.underlying22 hi hz0 hz1 hz2 rfl (by decide) v (l.map s4v).length (l.map s4v).flatten hs hown ⟨b, off, none⟩ 1 cap (s4v y) (by rw [hx]; simp) rfl hcs (s4v_one y) (by unfold maxLen; simp; omega) (by simp; omega) hB ?_
  intro v' w' hown' hg _ hblk
  refine h v' w' ⟨?_, ?_, ?_⟩ ((Below.refl B w).grown hg hB (fun j hj => (hlt j hj).1)) (fun m hm hne => hg.block m hm (fun e => hne e.symm)) hblk
  · have e1 : ((l ++ [y]).map s4v).length = (l.map s4v).length + 1 := by simp
    have e2 : ((l ++ [y]).map s4v).flatten = (l.map s4v).flatten ++ s4v y := by simp
    rw [e1, e2]; exact hown'
  · exact s4_len _
  · exact s4_one _
/-- A row stands where its block stands. -/
theorem own_other {E sz B : Nat} {w w' : World} {v : Value} {l : List (List Value)} (h : OwnV E sz B w v l) (hb : ∀ m, m < w.heap.size → v.ownBlock = some m → w'.heap[m]? = w.heap[m]?) : OwnV E sz B w' v l := by
  have hlt := World.ownsRow.lt h.1
  obtain ⟨⟨h1, h2⟩, h3, h4⟩ := h
  refine ⟨⟨h1, ?_⟩, h3, h4⟩
  rcases h2 with h2 | ⟨g, cap, cur, rfl, q1, q2, q3⟩
  · exact .inl h2
  · refine .inr ⟨g, cap, cur, rfl, q1, ?_, q3⟩
    rw [hb g (hlt g rfl).2 rfl]; exact q2
/-- Two rows that lie apart. -/
def Apart2 (v u : Value) : Prop := ∀ m, v.ownBlock = some m → u.ownBlock ≠ some m
theorem apart_nil : Apart2 (.slice none 0 0) (.slice none 0 0) := fun m h => by simp [Value.ownBlock] at h

theorem tat_of {t : List UInt8} {T : ByteArray} (h : bytes t = T) (i : Nat) (c : UInt8) (hk : t[i]? = some c) (hp : i < T.size) : T[i]'hp = c := by
  subst h
  have h2 : i < t.length := by rw [bytes_size] at hp; exact hp
  rw [List.getElem?_eq_getElem h2] at hk
  simp only [Option.some.injEq] at hk
  rw [← hk]; rfl
theorem text_from (l : List UInt8) (k n : Nat) (hn : (bytes l).size = n) : (bytes l).extract k n = bytes (l.drop k) := by
  subst hn
  rw [bytes_size]
  apply ByteArray.ext
  simp [bytes, ByteArray.extract, ByteArray.copySlice, List.take_of_length_le]
theorem tu8 (c d : UInt8) (h : c ≠ d) : ((c.toNat : Int) == (d.toNat : Int)) = false := by
  rw [beq_eq_false_iff_ne]; intro e; apply h; apply UInt8.toNat_inj.1; omega
set_option maxRecDepth 100000 in
set_option maxHeartbeats 2000000 in
theorem tail_any (l t : List UInt8) (w : World) (hl : l.length ≤ 8000000) (ht : M.tailS l = t) :
    Calls Tryd.prog 10 #[.string (bytes l)] w fun e w' => e = .returned (.string (bytes t)) ∧ w = w' := by
  have hsz := bytes_size l
  obtain ⟨n, hn⟩ : ∃ n, l.length = n := ⟨_, rfl⟩
  rw [hn] at hsz hl
  have hext := fun k => text_from l k (bytes l).size rfl
  obtain ⟨S, hS⟩ : ∃ S, bytes l = S := ⟨_, rfl⟩
  simp only [hS] at hext hsz ⊢
  have HS := Lib.hid hS
  have Hn := Lib.hid hn
  have Ht := Lib.hid ht
  have Hext := Lib.hid hext
  have sI : ((S.size : Nat) : Int) = (n : Int) := by omega
  have Hsz := Lib.hid hsz
  clear hS hn ht hext hsz
  go_enter Tryd.func10, Tryd.ntmps10
  go_wp2
  go_loop [3] (fun iv => ∃ i : Nat, iv = .int .i64 i ∧ i ≤ n ∧ (l.drop i).dropWhile (· == 59) = l.dropWhile (· == 59)) (fun iv => n - (intOf iv).toNat)
  case atStart => exact ⟨0, rfl, by omega, rfl⟩
  case round =>
    obtain ⟨i, rfl, hi, hd⟩ := hrel
    have hout : ∀ (P : Prop), (i < n → l.getD i 0 ≠ 59) → (l.drop i = l.dropWhile (· == 59)) := fun _ hne => by
      by_cases hin : i < n
      · have hil : i < l.length := by rw [Hn.out]; exact hin
        rw [← hd, List.drop_eq_getElem_cons hil, List.dropWhile_cons_of_neg]
        have := hne hin
        simp [List.getD, hil] at this
        simp [this]
      · rw [← hd, List.drop_eq_nil_of_le (by rw [Hn.out]; omega)]; rfl
    by_cases hgo : i < n ∧ l.getD i 0 = 59
    · obtain ⟨hin, hc⟩ := hgo
      have hil : i < l.length := by rw [Hn.out]; exact hin
      have hc' : l[i] = 59 := by simpa [List.getD, hil] using hc
      have hp : i < S.size := by have := Hsz.out; omega
      have si : S[i]'hp = 59 := tat_of HS.out i 59 (by rw [List.getElem?_eq_getElem hil, hc']) hp
      have HD : Hid ((l.drop (i + 1)).dropWhile (· == 59) = l.dropWhile (· == 59)) := Lib.hid (by
        rw [← hd, List.drop_eq_getElem_cons hil, List.dropWhile_cons_of_pos (by rw [hc']; decide)])
      have i1 : (0 : Int) ≤ i := by omega
      have i2 : (i : Int) < n := by omega
      clear hd hout hc hc' hil
      go_wp2
      go_round
      case rel => exact ⟨i + 1, by go_num, by omega, HD.out⟩
      case measure => simp [intOf]; omega
    · have hd2 := hout True (fun hin hc => hgo ⟨hin, hc⟩)
      have HD2 := Lib.hid hd2
      have HT2 : Hid ((l.drop i).dropWhile (fun c => !M.isSep c) = t) := Lib.hid (by rw [hd2]; exact Ht.out)
      have Hgo := Lib.hid hgo
      have hway : (∃ c : UInt8, ∃ hp : i < S.size, i < n ∧ S[i]'hp = c ∧ ((c.toNat : Int) == 59) = false) ∨ n ≤ i := by
        by_cases hin : i < n
        · left
          have hil : i < l.length := by rw [Hn.out]; exact hin
          have hne : l[i] ≠ 59 := fun h => Hgo.out ⟨hin, by simp [List.getD, hil, h]⟩
          have hp : i < S.size := by have := Hsz.out; omega
          exact ⟨l[i], hp, hin, tat_of HS.out i l[i] (List.getElem?_eq_getElem hil) hp, tu8 _ 59 hne⟩
        · right; omega
      clear hd hout hd2 hgo
      rcases hway with ⟨c, hp, hin, si, q1⟩ | hin
      all_goals
        have i1 : (0 : Int) ≤ i := by omega
        go_wp2
        try clear si q1
        go_loop [3] (fun iv => ∃ j : Nat, iv = .int .i64 j ∧ j ≤ n ∧ (l.drop j).dropWhile (fun c => !M.isSep c) = t) (fun iv => n - (intOf iv).toNat)
        case atStart => exact ⟨i, rfl, by omega, HT2.out⟩
        case round =>
          obtain ⟨j, rfl, hj, hd⟩ := hrel
          have j1 : (0 : Int) ≤ j := by omega
          by_cases hjn : j < n
          · have hjl : j < l.length := by rw [Hn.out]; exact hjn
            have hp2 : j < S.size := by have := Hsz.out; omega
            have j2 : (j : Int) < n := by omega
            obtain ⟨d, hdd⟩ : ∃ d, l[j] = d := ⟨_, rfl⟩
            have sj : S[j]'hp2 = d := tat_of HS.out j d (by rw [List.getElem?_eq_getElem hjl, hdd]) hp2
            rw [List.drop_eq_getElem_cons hjl, hdd] at hd
            by_cases h59 : d = 59
            · subst h59
              rw [List.dropWhile_cons_of_neg (by decide)] at hd
              have HF : Hid (S.extract j S.size = bytes t) := Lib.hid (by rw [Hext.out, ← hd, List.drop_eq_getElem_cons hjl, hdd])
              clear hd hdd hjl
              go_wp2
              go_ret
              exact ⟨by rw [← HF.out]; rfl, rfl⟩
            have r59 : ((d.toNat : Int) == 59) = false := tu8 d 59 h59
            have n59 : ((d.toNat : Int) != 59) = true := by simp [bne, r59]
            by_cases h44 : d = 44
            · subst h44
              rw [List.dropWhile_cons_of_neg (by decide)] at hd
              have HF : Hid (S.extract j S.size = bytes t) := Lib.hid (by rw [Hext.out, ← hd, List.drop_eq_getElem_cons hjl, hdd])
              clear hd hdd hjl h59
              go_wp2
              go_ret
              exact ⟨by rw [← HF.out]; rfl, rfl⟩
            · have r44 : ((d.toNat : Int) == 44) = false := tu8 d 44 h44
              have n44 : ((d.toNat : Int) != 44) = true := by simp [bne, r44]
              rw [List.dropWhile_cons_of_pos (by simp [M.isSep, h59, h44])] at hd
              have HD3 := Lib.hid hd
              clear hd hdd hjl h59 h44
              go_wp2
              go_round
              case rel => exact ⟨j + 1, by go_num, by omega, HD3.out⟩
              case measure => simp [intOf]; omega
          · obtain rfl : j = n := by omega
            rw [List.drop_eq_nil_of_le (by rw [Hn.out]; exact Nat.le_refl _), List.dropWhile_nil] at hd
            subst hd
            have HF : Hid (S.extract j S.size = bytes []) := Lib.hid (by rw [Hext.out, List.drop_eq_nil_of_le (by rw [Hn.out]; exact Nat.le_refl _)])
            clear hjn
            go_wp2
            go_ret
            exact ⟨by rw [← HF.out]; rfl, rfl⟩
end Go.Proofs.YtbmnmnfdlajgnaaDoor
