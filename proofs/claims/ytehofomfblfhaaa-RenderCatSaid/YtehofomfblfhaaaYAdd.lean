/- Layouts: render's (*part).add. -/
import Derived.Test.YtehofomfblfhaaaYRow
import Derived.Test.YtehofomfblfhaaaWTd
import Derived.Test.YtehofomfblfhaaaYStret
namespace Go.Proofs.Ytehofomfblfhaaa
open Go.RowKit
set_option linter.unusedVariables false
set_option linter.unusedSimpArgs false

theorem infoPt : (Try.prog.info? 55).map (fun i => (i.zero, i.size, i.bytes)) = some (some (.agg #[.int .i64 0, .int .i64 0, .string ⟨#[]⟩, .slice none 0 0, .slice none 0 0, .int .i64 0, .string ⟨#[]⟩, .string ⟨#[]⟩, .bool false, .int .i64 0, .bool false]), 11, 144) := by kernel_rfl
theorem infoPt1 : (Try.prog.info? 55).map (·.size) = some 11 := by kernel_rfl
def pz : Array Value := #[.int .i64 0, .int .i64 0, .string ⟨#[]⟩, .slice none 0 0, .slice none 0 0, .int .i64 0, .string ⟨#[]⟩, .string ⟨#[]⟩, .bool false, .int .i64 0, .bool false]
/-- What stands but for two blocks. -/
def Fr2 (w W : World) (pb : Nat) (v : Value) : Prop := ∀ j, j < w.heap.size → j ≠ pb → some j ≠ v.ownBlock → W.heap[j]? = w.heap[j]?
/-- What add leaves. -/
def AddP (B pb : Nat) (w : World) (vk : Value) (lk : List (List Value)) (y : List Value) (f : Value → Array Value) (e : Ending) (w' : World) : Prop :=
  e = .returned (.tuple #[]) ∧ ∃ vk2, OwnV 55 11 B w' vk2 (lk ++ [y]) ∧ BK 55 w' pb (f vk2) ∧ Below B w w' ∧ Fr2 w w' pb vk ∧ vk2.ownBlock ≠ some pb ∧ (vk2.ownBlock = vk.ownBlock ∨ ∃ j, w.heap.size ≤ j ∧ vk2.ownBlock = some j)
/-- The state on the way: p's block, the kid's, the row of kids. -/
structure AdS (B pb kb : Nat) (w : World) (vk v2 : Value) (l : List (List Value)) (kc : Array Value) (W : World) (pc : Array Value) : Prop where
  hp : BK 55 W pb pc
  hk : BK 55 W kb kc
  ho : OwnV 55 11 B W v2 l
  bl : Below B w W
  fr : ∀ j, j < w.heap.size → j ≠ pb → some j ≠ vk.ownBlock → W.heap[j]? = w.heap[j]?
  sz : w.heap.size ≤ W.heap.size
  npb : v2.ownBlock ≠ some pb
  kpb : kb ≠ pb
  hB : B ≤ pb
theorem AdS.keep {B pb kb : Nat} {w W W' : World} {vk v2 : Value} {l : List (List Value)} {kc pc : Array Value} (h : AdS B pb kb w vk v2 l kc W pc) (hb : Below W.heap.size W W') : AdS B pb kb w vk v2 l kc W' pc :=
  ⟨h.hp.keep hb, h.hk.keep hb, h.ho.keep hb, h.bl.trans (hb.mono (Nat.le_trans h.hB (Nat.le_of_lt h.hp.lt))), fun j h1 h2 h3 => (hb.block j (Nat.lt_of_lt_of_le h1 h.sz)).trans (h.fr j h1 h2 h3), Nat.le_trans h.sz hb.size, h.npb, h.kpb, h.hB⟩
theorem AdS.drew {B pb kb : Nat} {w W : World} {vk v2 : Value} {l : List (List Value)} {kc pc : Array Value} (h : AdS B pb kb w vk v2 l kc W pc) : AdS B pb kb w vk v2 l kc W.drew pc := h.keep (Below.refl _ _).drew
theorem AdS.set1 {B pb kb : Nat} {w W : World} {vk v2 : Value} {l : List (List Value)} {kc pc : Array Value} (h : AdS B pb kb w vk v2 l kc W pc) (j : Nat) (u : Value) : AdS B pb kb w vk v2 l kc (W.setCell ⟨pb, j, none⟩ u) (pc.setIfInBounds j u) :=
  ⟨h.hp.setCell j u, h.hk.other h.kpb j u, OwnV.setOther h.ho ⟨pb, j, none⟩ u h.npb, h.bl.setCell (p := ⟨pb, j, none⟩) h.hB u, fun i h1 h2 h3 => (heap_setCell_other _ _ _ _ h2).trans (h.fr i h1 h2 h3), by simpa [World.setCell] using h.sz, h.npb, h.kpb, h.hB⟩
theorem AdS.sets {B pb kb : Nat} {w : World} {vk v2 : Value} {l : List (List Value)} {kc : Array Value} (vs : List Value) : ∀ (W : World) (pc : Array Value) (o : Nat), AdS B pb kb w vk v2 l kc W pc → AdS B pb kb w vk v2 l kc (W.setCells pb o vs) (setA pc o vs) := by
  induction vs with
  | nil => intro W pc o h; exact h
  | cons v r ih => intro W pc o h; exact ih _ _ _ (h.set1 o v)
set_option maxRecDepth 100000 in
set_option maxHeartbeats 4000000 in
theorem add_any (B pb n : Nat) (w : World) (k f : Int) (s : ByteArray) (xd vk : Value) (acc l' : List UInt8) (hb h' bk bk' : Bool) (ld ld' : Nat) (k' f' : Int) (s' : ByteArray) (xd' vk' : Value) (lk : List (List Value))
    (hp : BK 55 w pb #[.int .i64 k, .int .i64 f, .string s, xd, vk, .int .i64 (M.wl acc : Int), .string (bytes (M.hd3 acc)), .string (bytes (M.tl3 acc)), .bool hb, .int .i64 (ld : Int), .bool bk])
    (ho : OwnV 55 11 B w vk lk) (hB : B ≤ pb) (hn : lk.length = n) (hne : vk.ownBlock ≠ some pb) (hlk : n ≤ 1000000) (hsz : acc.length + l'.length ≤ 1000000) (hld : ld + ld' ≤ 1000000)
    (hx : xd.oneCell' = true) (hx' : xd'.oneCell' = true) (hv' : vk'.oneCell' = true) :
    Calls Try.prog 38 #[.pointer (some ⟨pb, 0, none⟩), .agg #[.int .i64 k', .int .i64 f', .string s', xd', vk', .int .i64 (M.wl l' : Int), .string (bytes (M.hd3 l')), .string (bytes (M.tl3 l')), .bool h', .int .i64 (ld' : Int), .bool bk']] w
      (AddP B pb w vk lk [.int .i64 k', .int .i64 f', .string s', xd', vk', .int .i64 (M.wl l' : Int), .string (bytes (M.hd3 l')), .string (bytes (M.tl3 l')), .bool h', .int .i64 (ld' : Int), .bool bk']
        fun v2 => #[.int .i64 k, .int .i64 f, .string s, xd, v2, .int .i64 (M.wl (acc ++ l') : Int), .string (bytes (M.hd3 (acc ++ l'))), .string (bytes (M.tl3 (acc ++ l'))), .bool (hb || h'), .int .i64 ((comb (ld, bk) (ld', bk')).1 : Int), .bool (bk || bk')]) := by
  have TH := Lib.hid (fun W => then_any acc l' W hsz)
  obtain ⟨A1, e1⟩ : ∃ x : Int, (M.wl acc : Int) = x := ⟨_, rfl⟩
  obtain ⟨A2, e2⟩ : ∃ x, bytes (M.hd3 acc) = x := ⟨_, rfl⟩
  obtain ⟨A3, e3⟩ : ∃ x, bytes (M.tl3 acc) = x := ⟨_, rfl⟩
  obtain ⟨D1, e4⟩ : ∃ x : Int, (M.wl l' : Int) = x := ⟨_, rfl⟩
  obtain ⟨D2, e5⟩ : ∃ x, bytes (M.hd3 l') = x := ⟨_, rfl⟩
  obtain ⟨D3, e6⟩ : ∃ x, bytes (M.tl3 l') = x := ⟨_, rfl⟩
  obtain ⟨E1, e7⟩ : ∃ x : Int, (M.wl (acc ++ l') : Int) = x := ⟨_, rfl⟩
  obtain ⟨E2, e8⟩ : ∃ x, bytes (M.hd3 (acc ++ l')) = x := ⟨_, rfl⟩
  obtain ⟨E3, e9⟩ : ∃ x, bytes (M.tl3 (acc ++ l')) = x := ⟨_, rfl⟩
  rw [e1, e2, e3, e4, e5, e6, e7, e8, e9] at TH
  rw [e1, e2, e3] at hp
  rw [e4, e5, e6, e7, e8, e9]
  clear e1 e2 e3 e4 e5 e6 e7 e8 e9
  have Bw : B ≤ w.heap.size := Nat.le_trans hB (Nat.le_of_lt hp.lt)
  obtain ⟨W0, hW0⟩ : ∃ W, w.alloc (.cells #[.int .i64 k', .int .i64 f', .string s', xd', vk', .int .i64 D1, .string D2, .string D3, .bool h', .int .i64 (ld' : Int), .bool bk'] 55) = W := ⟨_, rfl⟩
  have b0 : Below w.heap.size w W0 := by rw [← hW0]; exact (Below.refl _ _).alloc (Nat.le_refl _) _
  have hk0 : BK 55 W0 w.heap.size #[.int .i64 k', .int .i64 f', .string s', xd', vk', .int .i64 D1, .string D2, .string D3, .bool h', .int .i64 (ld' : Int), .bool bk'] := by rw [← hW0]; exact BK.new _ _ _
  have hp0 := hp.keep b0
  have ho0 := ho.keep b0
  have hpl := hp.lt
  have HW0 := Lib.hid hW0
  have HP0 := Lib.hid hp0
  have HK0 := Lib.hid hk0
  have HO0 := Lib.hid ho0
  have HO := Lib.hid ho
  have B0 := Lib.hid b0
  have HNL := Lib.hid hn
  obtain ⟨av, ac, hvk⟩ : ∃ a c, vk = .slice a n c := by
    obtain ⟨a, c, h, _⟩ := ho.vs
    exact ⟨a, c, by rw [h, hn]⟩
  have HNE := Lib.hid hne
  subst hvk
  clear hW0 hp0 hk0 ho0 b0 hp ho hn hne
  go_enter Try.func38, Try.ntmps38
  go_upto_region 1 with fail
  rw [HW0.out]
  refine wp_region_noPanic ?_
  have BW0 : B ≤ W0.heap.size := Nat.le_trans Bw B0.out.size
  have hkb : w.heap.size < W0.heap.size := HK0.out.lt
  have hone : (#[.int .i64 k', .int .i64 f', .string s', xd', vk', .int .i64 D1, .string D2, .string D3, .bool h', .int .i64 (ld' : Int), .bool bk'] : Array Value).all (·.oneCell') = true := all_oneCell_toArray (cs := [.int .i64 k', .int .i64 f', .string s', xd', vk', .int .i64 D1, .string D2, .string D3, .bool h', .int .i64 (ld' : Int), .bool bk']) (by
    intro c hc
    simp only [List.mem_cons, List.mem_nil_iff, or_false] at hc
    rcases hc with rfl | rfl | rfl | rfl | rfl | rfl | rfl | rfl | rfl | rfl | rfl
    all_goals first | rfl | assumption)
  have SV : ∀ V : World, BK 55 V pb #[.int .i64 k, .int .i64 f, .string s, xd, (.slice av n ac), .int .i64 A1, .string A2, .string A3, .bool hb, .int .i64 (ld : Int), .bool bk] → BK 55 V w.heap.size #[.int .i64 k', .int .i64 f', .string s', xd', vk', .int .i64 D1, .string D2, .string D3, .bool h', .int .i64 (ld' : Int), .bool bk'] → (V.cell? ⟨pb, 4, none⟩ = some (.slice av n ac) ∧ V.rangeAt w.heap.size 0 [.int .i64 k', .int .i64 f', .string s', xd', vk', .int .i64 D1, .string D2, .string D3, .bool h', .int .i64 (ld' : Int), .bool bk']) := fun V h1 h2 => ⟨h1.cell 4, h2.range 0 _ (by intro j u h; simpa using h)⟩
  refine wp_region_to 12 (S := fun V => V.cell? ⟨pb, 4, none⟩ = some (.slice av n ac) ∧ V.rangeAt w.heap.size 0 [.int .i64 k', .int .i64 f', .string s', xd', vk', .int .i64 D1, .string D2, .string D3, .bool h', .int .i64 (ld' : Int), .bool bk']) (by kernel_rfl) (SV W0.drew HP0.out HK0.out) (fun hS => ?_)
  refine dtp 0 ?_
  refine dtp 1 ?_
  refine dtp 2 ?_
  refine dtk 3 ?_
  refine dtk (v := .agg #[.int .i64 k', .int .i64 f', .string s', xd', vk', .int .i64 D1, .string D2, .string D3, .bool h', .int .i64 (ld' : Int), .bool bk']) 4 (hy := yieldsIf_load_mid (by rfl) 55 _ rfl w.heap.size 0 rfl [.int .i64 k', .int .i64 f', .string s', xd', vk', .int .i64 D1, .string D2, .string D3, .bool h', .int .i64 (ld' : Int), .bool bk'] _ (fun w hS => hS.2) Try.underlying55 rfl infoPt1) ?_
  refine dtp 5 ?_
  refine AnyTo.ready (rs := [6]) (by kernel_rfl) (by simp) ?_
  refine ReadyTo.cons rfl (fun K hK => ?_) ReadyTo.nil
  go_simp
  have hb1 : Below W0.heap.size W0 (W0.alloc (.cells pz 55)).drew := ((Below.refl _ _).alloc (Nat.le_refl _) _).drew
  have hp1 := HP0.out.keep hb1
  have hk1 := HK0.out.keep hb1
  have ho1 := HO0.out.keep hb1
  have hz1 : BK 55 (W0.alloc (.cells pz 55)).drew W0.heap.size pz := BK.new 55 W0 pz
  refine hK.out _ (W0.alloc (.cells pz 55)).drew (SV _ hp1 hk1) (fun hS => ?_)
  clear hK K
  obtain ⟨W1, hW1⟩ : ∃ W, (W0.alloc (.cells pz 55)).drew = W := ⟨_, rfl⟩
  have z1 : W1.heap.size = W0.heap.size + 1 := by rw [← hW1]; show (W0.alloc _).heap.size = _; simp
  rw [hW1] at hb1 hp1 hk1 ho1 hz1 hS ⊢
  clear hW1
  have bd1 : B ≤ W1.heap.size := by omega
  have zc : W1.rangeAt W0.heap.size 0 pz.toList := hz1.range 0 _ (by intro j u h; simpa [pz] using h)
  refine AnyTo.ready (rs := [7]) (by kernel_rfl) (by simp) ?_
  refine ReadyTo.cons rfl (fun K hK => ?_) ReadyTo.nil
  rw [if_pos (by rfl)]
  refine wp_appV _ _ rfl Try.underlying51 infoPt rfl (by decide) B (.slice av n ac) lk (lk ++ [pz.toList]) pz.toList W0.heap.size 1 n HNL.out rfl ho1 rfl zc rfl (by decide) (by omega) (by decide) bd1 rfl ?_
  intro g cap w2 ho2 hb2 hfr2 hgo hgl
  have hown0 : ∀ j, (Value.slice av n ac).ownBlock = some j → j < w.heap.size := fun j hj => (World.ownsRow.lt HO.out.1 j hj).2
  have hnk : some w.heap.size ≠ (Value.slice av n ac).ownBlock := fun e => by have := hown0 _ e.symm; omega
  have hp2 := hp1.frame (hfr2 pb hp1.lt (fun e => HNE.out e.symm))
  have hk2 := hk1.frame (hfr2 _ hk1.lt hnk)
  have hgp : g ≠ pb := by
    rcases hgo with h | h
    · intro e; exact HNE.out (e ▸ h)
    · omega
  have hgk : g ≠ w.heap.size := by
    rcases hgo with h | h
    · have := hown0 _ h; omega
    · omega
  have hgB : B ≤ g := (own_in ho2 g rfl).1
  refine hK.out _ _ (SV w2 hp2 hk2) (fun hS => ?_)
  clear hK K
  refine dtp 8 ?_
  refine dtp 10 ?_
  refine dtp 11 ?_
  have hth : w2.there g (n * 11) 11 := ownsRow_there (by have := ho2.1; rw [List.length_append, HNL.out] at this; exact this) _ _ (by omega)
  have hone2 : ∀ c ∈ [.int .i64 k', .int .i64 f', .string s', xd', vk', .int .i64 D1, .string D2, .string D3, .bool h', .int .i64 (ld' : Int), .bool bk'], c.oneCell' = true := fun c hc => (Array.all_eq_true_iff_forall_mem.1 hone) c (by simpa using hc)
  have e3 : (#[.int .i64 k', .int .i64 f', .string s', xd', vk', .int .i64 D1, .string D2, .string D3, .bool h', .int .i64 (ld' : Int), .bool bk'] : Array Value).toList = [.int .i64 k', .int .i64 f', .string s', xd', vk', .int .i64 D1, .string D2, .string D3, .bool h', .int .i64 (ld' : Int), .bool bk'] := rfl
  refine AnyTo.ready (rs := [9, 12]) (by kernel_rfl) (by simp) ?_
  refine ReadyTo.cons rfl (fun K hK => ?ordA) (ReadyTo.last rfl (by kernel_rfl) (fun K hK => ?ordB) ReadyTo.nil)
  case' ordA =>
    rw [if_pos (by rfl)]
    refine wp_store_mid 55 _ _ rfl g (n * 11) #[.int .i64 k', .int .i64 f', .string s', xd', vk', .int .i64 D1, .string D2, .string D3, .bool h', .int .i64 (ld' : Int), .bool bk'] rfl rfl hth infoPt1 hone ?_
    have ho3 := ho2.setLast (y := [.int .i64 k', .int .i64 f', .string s', xd', vk', .int .i64 D1, .string D2, .string D3, .bool h', .int .i64 (ld' : Int), .bool bk']) (by rw [HNL.out]) rfl hone2
    rw [HNL.out] at ho3
    have hp3 := hp2.frame (setCells_other g [.int .i64 k', .int .i64 f', .string s', xd', vk', .int .i64 D1, .string D2, .string D3, .bool h', .int .i64 (ld' : Int), .bool bk'] (n * 11) w2 pb hgp.symm)
    have hk3 := hk2.frame (setCells_other g [.int .i64 k', .int .i64 f', .string s', xd', vk', .int .i64 D1, .string D2, .string D3, .bool h', .int .i64 (ld' : Int), .bool bk'] (n * 11) w2 _ hgk.symm)
    have b3 := below_setCells (Below.refl B w2) hgB [.int .i64 k', .int .i64 f', .string s', xd', vk', .int .i64 D1, .string D2, .string D3, .bool h', .int .i64 (ld' : Int), .bool bk'] (n * 11)
    have f3 := fun j (h : j ≠ g) => setCells_other g [.int .i64 k', .int .i64 f', .string s', xd', vk', .int .i64 D1, .string D2, .string D3, .bool h', .int .i64 (ld' : Int), .bool bk'] (n * 11) w2 j h
    rw [e3]
    obtain ⟨w3, hw3⟩ : ∃ x, w2.setCells g (n * 11) [.int .i64 k', .int .i64 f', .string s', xd', vk', .int .i64 D1, .string D2, .string D3, .bool h', .int .i64 (ld' : Int), .bool bk'] = x := ⟨_, rfl⟩
    rw [hw3] at ho3 hp3 hk3 b3 f3 ⊢
    clear hw3 e3 hth
    refine hK.out _ _ (SV w3 hp3 hk3) (fun hS => ?_)
    clear hK K
    have c4 : w3.cell? ⟨pb, 4, none⟩ = some (.slice av n ac) := hp3.cell 4
    have f4 : w3.frozen? ⟨pb, 4, none⟩ = false := frozen_of_row w3 pb 4 _ _ hp3
    refine AnyTo.ready (rs := [12]) (by kernel_rfl) (by simp) ?_
    refine ReadyTo.last rfl (by kernel_rfl) (fun K hK => ?_) ReadyTo.nil
    go_simp
    refine hK.out _ _ ?_
    clear hK K
    refine AnyTo.done (by kernel_rfl) ?_ _
    refine NoPanic.normal ?_
    have hp4 := hp3.setCell 4 (.slice (some ⟨g, 0, none⟩) (n + 1) cap)
    have hk4 := hk3.other (c := pb) (by omega) 4 (.slice (some ⟨g, 0, none⟩) (n + 1) cap)
    have ho4 := OwnV.setOther ho3 ⟨pb, 4, none⟩ (.slice (some ⟨g, 0, none⟩) (n + 1) cap) (by simpa [Value.ownBlock] using hgp)
    have b4 := b3.setCell (p := ⟨pb, 4, none⟩) hB (.slice (some ⟨g, 0, none⟩) (n + 1) cap)
    have f4' : ∀ j, j ≠ g → j ≠ pb → (w3.setCell ⟨pb, 4, none⟩ (.slice (some ⟨g, 0, none⟩) (n + 1) cap)).heap[j]? = w2.heap[j]? := fun j h1 h2 => (heap_setCell_other _ _ _ _ h2).trans (f3 j h1)
    obtain ⟨w4, hw4⟩ : ∃ x, w3.setCell ⟨pb, 4, none⟩ (.slice (some ⟨g, 0, none⟩) (n + 1) cap) = x := ⟨_, rfl⟩
    rw [hw4] at hp4 hk4 ho4 b4 f4' ⊢
    clear hw4 hp3 hk3 ho3 b3 f3 c4 f4 hS
  case' ordB =>
    have c4 : w2.cell? ⟨pb, 4, none⟩ = some (.slice av n ac) := hp2.cell 4
    have f4 : w2.frozen? ⟨pb, 4, none⟩ = false := frozen_of_row w2 pb 4 _ _ hp2
    go_simp
    refine hK.out _ _ ?_
    clear hK K
    have hp3 := hp2.setCell 4 (.slice (some ⟨g, 0, none⟩) (n + 1) cap)
    have hk3 := hk2.other (c := pb) (by omega) 4 (.slice (some ⟨g, 0, none⟩) (n + 1) cap)
    have ho3 := OwnV.setOther ho2 ⟨pb, 4, none⟩ (.slice (some ⟨g, 0, none⟩) (n + 1) cap) (by simpa [Value.ownBlock] using hgp)
    have b3 := (Below.refl B w2).setCell (p := ⟨pb, 4, none⟩) hB (.slice (some ⟨g, 0, none⟩) (n + 1) cap)
    have f3 : ∀ j, j ≠ pb → (w2.setCell ⟨pb, 4, none⟩ (.slice (some ⟨g, 0, none⟩) (n + 1) cap)).heap[j]? = w2.heap[j]? := fun j h2 => heap_setCell_other _ _ _ _ h2
    obtain ⟨w3, hw3⟩ : ∃ x, w2.setCell ⟨pb, 4, none⟩ (.slice (some ⟨g, 0, none⟩) (n + 1) cap) = x := ⟨_, rfl⟩
    rw [hw3] at hp3 hk3 ho3 b3 f3 ⊢
    clear hw3 hth c4 f4
    have hth : w3.there g (n * 11) 11 := ownsRow_there (by have := ho3.1; rw [List.length_append, HNL.out] at this; exact this) _ _ (by omega)
    refine AnyTo.ready (rs := [9]) (by kernel_rfl) (by simp) ?_
    refine ReadyTo.last rfl (by kernel_rfl) (fun K hK => ?_) ReadyTo.nil
    rw [if_pos (by rfl)]
    refine wp_store_mid 55 _ _ rfl g (n * 11) #[.int .i64 k', .int .i64 f', .string s', xd', vk', .int .i64 D1, .string D2, .string D3, .bool h', .int .i64 (ld' : Int), .bool bk'] rfl rfl hth infoPt1 hone ?_
    have ho4 := ho3.setLast (y := [.int .i64 k', .int .i64 f', .string s', xd', vk', .int .i64 D1, .string D2, .string D3, .bool h', .int .i64 (ld' : Int), .bool bk']) (by rw [HNL.out]) rfl hone2
    rw [HNL.out] at ho4
    have hp4 := hp3.frame (setCells_other g [.int .i64 k', .int .i64 f', .string s', xd', vk', .int .i64 D1, .string D2, .string D3, .bool h', .int .i64 (ld' : Int), .bool bk'] (n * 11) w3 pb hgp.symm)
    have hk4 := hk3.frame (setCells_other g [.int .i64 k', .int .i64 f', .string s', xd', vk', .int .i64 D1, .string D2, .string D3, .bool h', .int .i64 (ld' : Int), .bool bk'] (n * 11) w3 _ hgk.symm)
    have b4 := below_setCells b3 hgB [.int .i64 k', .int .i64 f', .string s', xd', vk', .int .i64 D1, .string D2, .string D3, .bool h', .int .i64 (ld' : Int), .bool bk'] (n * 11)
    have f4' : ∀ j, j ≠ g → j ≠ pb → (w3.setCells g (n * 11) [.int .i64 k', .int .i64 f', .string s', xd', vk', .int .i64 D1, .string D2, .string D3, .bool h', .int .i64 (ld' : Int), .bool bk']).heap[j]? = w2.heap[j]? := fun j h1 h2 => (setCells_other g [.int .i64 k', .int .i64 f', .string s', xd', vk', .int .i64 D1, .string D2, .string D3, .bool h', .int .i64 (ld' : Int), .bool bk'] (n * 11) w3 j h1).trans (f3 j h2)
    rw [e3]
    obtain ⟨w4, hw4⟩ : ∃ x, w3.setCells g (n * 11) [.int .i64 k', .int .i64 f', .string s', xd', vk', .int .i64 D1, .string D2, .string D3, .bool h', .int .i64 (ld' : Int), .bool bk'] = x := ⟨_, rfl⟩
    rw [hw4] at ho4 hp4 hk4 b4 f4' ⊢
    clear hw4 e3 hth hp3 hk3 ho3 b3 f3
    refine hK.out _ _ ?_
    clear hK K
    refine AnyTo.done (by kernel_rfl) ?_ _
    refine NoPanic.normal ?_
  all_goals (
    simp only [List.setIfInBounds_toArray, List.set_cons_succ, List.set_cons_zero] at hp4
    have D4 : Hid (Below B w w4) := Lib.hid (((B0.out.mono Bw).trans (hb1.mono BW0)).trans (hb2.trans b4))
    have F4 : Hid (∀ j, j < w.heap.size → j ≠ pb → some j ≠ (Value.slice av n ac).ownBlock → w4.heap[j]? = w.heap[j]?) := Lib.hid (fun j h1 h2 h3 => by
      have hjg : j ≠ g := by
        rcases hgo with h | h
        · intro e; exact h3 (by rw [h, e])
        · omega
      rw [f4' j hjg h2, hfr2 j (by omega) h3, hb1.block j (by omega), B0.out.block j h1])
    have G4 : Hid ((Value.slice av n ac).ownBlock = some g ∨ w.heap.size ≤ g) := Lib.hid (by
      rcases hgo with h | h
      · exact .inl h
      · right; omega)
    have A4 := Lib.hid (show AdS B pb w.heap.size w (.slice av n ac) (.slice (some ⟨g, 0, none⟩) (n + 1) cap) (lk ++ [[.int .i64 k', .int .i64 f', .string s', xd', vk', .int .i64 D1, .string D2, .string D3, .bool h', .int .i64 (ld' : Int), .bool bk']]) #[.int .i64 k', .int .i64 f', .string s', xd', vk', .int .i64 D1, .string D2, .string D3, .bool h', .int .i64 (ld' : Int), .bool bk'] w4 _ from ⟨hp4, hk4, ho4, D4.out, F4.out, by have := hk4.lt; omega, by simpa [Value.ownBlock] using hgp, by omega, hB⟩)
    clear f4' hfr2 hgo hgl hgB hgk hnk hown0 hb1 hb2 b4 hp1 hk1 ho1 hz1 zc bd1 ho2 hp2 hk2 SV hone z1 BW0 hkb hone2 ho4 hS hp4 hk4 D4 F4
    go_upto_region 2 with fail
    refine wp_region_noPanic ?_
    refine wp_region_to 10 (S := fun V => V.rangeAt pb 5 [.int .i64 A1, .string A2, .string A3] ∧ V.rangeAt w.heap.size 5 [.int .i64 D1, .string D2, .string D3]) (by kernel_rfl) ⟨A4.out.drew.hp.range 5 _ (by intro j u h; rcases j with _ | _ | _ | j <;> simp_all), A4.out.drew.hk.range 5 _ (by intro j u h; rcases j with _ | _ | _ | j <;> simp_all)⟩ (fun hS => ?_)
    refine dtp 0 ?_
    refine dtp 1 ?_
    refine dtp 2 ?_
    refine dtp 3 ?_
    refine dtk (v := .agg #[.int .i64 A1, .string A2, .string A3]) 4 (hy := yieldsIf_load_mid (by rfl) 53 _ rfl pb 5 rfl [.int .i64 A1, .string A2, .string A3] _ (fun w hS => hS.1) Try.underlying53 rfl infoS3) ?_
    refine dtp 5 ?_
    refine dtk (v := .agg #[.int .i64 D1, .string D2, .string D3]) 6 (hy := yieldsIf_load_mid (by rfl) 53 _ rfl w.heap.size 5 rfl [.int .i64 D1, .string D2, .string D3] _ (fun w hS => hS.2) Try.underlying53 rfl infoS3) ?_
    refine AnyTo.ready (rs := [7]) (by kernel_rfl) (by simp) ?_
    refine ReadyTo.cons rfl (fun K hK => ?_) ReadyTo.nil
    go_simp
    refine (TH.out _).mono ?_
    rintro e w5 ⟨rfl, hb5⟩
    refine hK.out _ _ (⟨rangeAt_keep hS.1 (hb5.block pb A4.out.hp.lt), rangeAt_keep hS.2 (hb5.block _ A4.out.hk.lt)⟩) (fun hS => ?_)
    clear hK K
    have A5 := Lib.hid (A4.out.drew.keep hb5)
    clear A4 hb5
    refine dtp 8 ?_
    refine dtp 9 ?_
    refine AnyTo.ready (rs := [10]) (by kernel_rfl) (by simp) ?_
    refine ReadyTo.last rfl (by kernel_rfl) (fun K hK => ?_) ReadyTo.nil
    rw [if_pos (by rfl)]
    refine wp_store_mid 53 _ _ rfl pb 5 #[.int .i64 E1, .string E2, .string E3] rfl rfl (A5.out.hp.there 5 3 (by simp)) infoS3 (str_one _ _ _) ?_
    refine hK.out _ _ ?_
    clear hK K hS
    refine AnyTo.done (by kernel_rfl) ?_ _
    refine NoPanic.normal ?_
    have A6 := Lib.hid (AdS.sets [.int .i64 E1, .string E2, .string E3] _ _ 5 A5.out)
    simp only [setA, List.setIfInBounds_toArray, List.set_cons_succ, List.set_cons_zero] at A6
    obtain ⟨w6, hw6⟩ : ∃ x, w5.setCells pb 5 (#[.int .i64 E1, .string E2, .string E3] : Array Value).toList = x := ⟨_, rfl⟩
    rw [hw6]
    rw [show (w5.setCells pb 5 [.int .i64 E1, .string E2, .string E3]) = w6 from hw6] at A6
    clear hw6 A5
    have HG4 := Lib.hid G4.out
    clear G4
    cases hb with
    | true =>
      have q8 := A6.out.hp.cell 8
      have qk8 := A6.out.hk.cell 8
      have fz := frozen_of_row w6 pb 8 _ _ A6.out.hp
      simp only [List.getElem?_toArray, List.getElem?_cons_succ, List.getElem?_cons_zero] at q8 qk8
      go_upto_region 4 with fail
      have A7 := Lib.hid (A6.out.set1 8 (.bool true))
      simp only [List.setIfInBounds_toArray, List.set_cons_succ, List.set_cons_zero] at A7
      obtain ⟨w7, hw7⟩ : ∃ x, w6.setCell ⟨pb, 8, none⟩ (.bool true) = x := ⟨_, rfl⟩
      rw [hw7] at A7 ⊢
      clear hw7 A6 q8 qk8 fz
      cases bk with
      | true =>
        have q10 := A7.out.hp.cell 10
        have qk10 := A7.out.hk.cell 10
        have fz := frozen_of_row w7 pb 10 _ _ A7.out.hp
        simp only [List.getElem?_toArray, List.getElem?_cons_succ, List.getElem?_cons_zero] at q10 qk10
        as_aux_lemma =>
          go_wp2
          have A9 := A7.out.set1 10 (.bool true)
          simp only [List.setIfInBounds_toArray, List.set_cons_succ, List.set_cons_zero] at A9
          go_end0
          exact ⟨rfl, _, A9.ho, A9.hp, A9.bl, A9.fr, A9.npb, by rcases HG4.out with h | h; exact .inl h.symm; exact .inr ⟨g, h, rfl⟩⟩
      | false =>
        have q10 := A7.out.hp.cell 10
        simp only [List.getElem?_toArray, List.getElem?_cons_succ, List.getElem?_cons_zero] at q10
        obtain ⟨LL, hLL⟩ : ∃ x : Int, ((ld + ld' : Nat) : Int) = x := ⟨_, rfl⟩
        have v1 : IntKind.i64.wrap ((ld : Int) + ld') = LL := by rw [IntKind.wrap_i64]; omega
        have HLL := Lib.hid hLL
        clear hLL
        as_aux_lemma =>
          go_upto_region 5 with fail
          refine wp_region_noPanic ?_
          refine wp_region_to 9 (S := fun V => V.cell? ⟨pb, 9, none⟩ = some (.int .i64 (ld : Int)) ∧ V.cell? ⟨w.heap.size, 9, none⟩ = some (.int .i64 (ld' : Int))) (by kernel_rfl) ⟨A7.out.drew.hp.cell 9, A7.out.drew.hk.cell 9⟩ (fun hS => ?_)
          refine dtp 0 ?_
          refine dtp 1 ?_
          refine dtp 2 ?_
          refine dtk 3 ?_
          refine dtp 4 ?_
          refine dtk 5 ?_
          refine dtp 6 ?_
          refine dtp 7 ?_
          refine dtp 8 ?_
          have c9 : w7.drew.cell? ⟨pb, 9, none⟩ = some (.int .i64 (ld : Int)) := hS.1
          have f9 : w7.drew.frozen? ⟨pb, 9, none⟩ = false := frozen_of_row w7.drew pb 9 _ _ A7.out.drew.hp
          refine AnyTo.ready (rs := [9]) (by kernel_rfl) (by simp) ?_
          refine ReadyTo.last rfl (by kernel_rfl) (fun K hK => ?_) ReadyTo.nil
          go_simp
          refine hK.out _ (w7.drew.setCell ⟨pb, 9, none⟩ (.int .i64 LL)) ?_
          clear hK K
          refine AnyTo.done (by kernel_rfl) ?_ _
          refine NoPanic.normal ?_
          have A8 := Lib.hid (A7.out.drew.set1 9 (.int .i64 LL))
          simp only [List.setIfInBounds_toArray, List.set_cons_succ, List.set_cons_zero] at A8
          obtain ⟨w8, hw8⟩ : ∃ x, w7.drew.setCell ⟨pb, 9, none⟩ (.int .i64 LL) = x := ⟨_, rfl⟩
          rw [hw8] at A8 ⊢
          clear hw8 A7 c9 f9 q10 hS
          have q10 := A8.out.hp.cell 10
          have qk10 := A8.out.hk.cell 10
          have fz := frozen_of_row w8 pb 10 _ _ A8.out.hp
          simp only [List.getElem?_toArray, List.getElem?_cons_succ, List.getElem?_cons_zero] at q10 qk10
          go_wp2
          have A9 := A8.out.set1 10 (.bool bk')
          simp only [List.setIfInBounds_toArray, List.set_cons_succ, List.set_cons_zero] at A9
          go_end0
          exact ⟨rfl, _, A9.ho, by rw [show (((comb (ld, false) (ld', bk')).1 : Nat) : Int) = LL from HLL.out]; exact A9.hp, A9.bl, A9.fr, A9.npb, by rcases HG4.out with h | h; exact .inl h.symm; exact .inr ⟨g, h, rfl⟩⟩
    | false =>
      have q8 := A6.out.hp.cell 8
      have qk8 := A6.out.hk.cell 8
      have fz := frozen_of_row w6 pb 8 _ _ A6.out.hp
      simp only [List.getElem?_toArray, List.getElem?_cons_succ, List.getElem?_cons_zero] at q8 qk8
      go_upto_region 4 with fail
      have A7 := Lib.hid (A6.out.set1 8 (.bool h'))
      simp only [List.setIfInBounds_toArray, List.set_cons_succ, List.set_cons_zero] at A7
      obtain ⟨w7, hw7⟩ : ∃ x, w6.setCell ⟨pb, 8, none⟩ (.bool h') = x := ⟨_, rfl⟩
      rw [hw7] at A7 ⊢
      clear hw7 A6 q8 qk8 fz
      cases bk with
      | true =>
        have q10 := A7.out.hp.cell 10
        have qk10 := A7.out.hk.cell 10
        have fz := frozen_of_row w7 pb 10 _ _ A7.out.hp
        simp only [List.getElem?_toArray, List.getElem?_cons_succ, List.getElem?_cons_zero] at q10 qk10
        as_aux_lemma =>
          go_wp2
          have A9 := A7.out.set1 10 (.bool true)
          simp only [List.setIfInBounds_toArray, List.set_cons_succ, List.set_cons_zero] at A9
          go_end0
          exact ⟨rfl, _, A9.ho, A9.hp, A9.bl, A9.fr, A9.npb, by rcases HG4.out with h | h; exact .inl h.symm; exact .inr ⟨g, h, rfl⟩⟩
      | false =>
        have q10 := A7.out.hp.cell 10
        simp only [List.getElem?_toArray, List.getElem?_cons_succ, List.getElem?_cons_zero] at q10
        obtain ⟨LL, hLL⟩ : ∃ x : Int, ((ld + ld' : Nat) : Int) = x := ⟨_, rfl⟩
        have v1 : IntKind.i64.wrap ((ld : Int) + ld') = LL := by rw [IntKind.wrap_i64]; omega
        have HLL := Lib.hid hLL
        clear hLL
        as_aux_lemma =>
          go_upto_region 5 with fail
          refine wp_region_noPanic ?_
          refine wp_region_to 9 (S := fun V => V.cell? ⟨pb, 9, none⟩ = some (.int .i64 (ld : Int)) ∧ V.cell? ⟨w.heap.size, 9, none⟩ = some (.int .i64 (ld' : Int))) (by kernel_rfl) ⟨A7.out.drew.hp.cell 9, A7.out.drew.hk.cell 9⟩ (fun hS => ?_)
          refine dtp 0 ?_
          refine dtp 1 ?_
          refine dtp 2 ?_
          refine dtk 3 ?_
          refine dtp 4 ?_
          refine dtk 5 ?_
          refine dtp 6 ?_
          refine dtp 7 ?_
          refine dtp 8 ?_
          have c9 : w7.drew.cell? ⟨pb, 9, none⟩ = some (.int .i64 (ld : Int)) := hS.1
          have f9 : w7.drew.frozen? ⟨pb, 9, none⟩ = false := frozen_of_row w7.drew pb 9 _ _ A7.out.drew.hp
          refine AnyTo.ready (rs := [9]) (by kernel_rfl) (by simp) ?_
          refine ReadyTo.last rfl (by kernel_rfl) (fun K hK => ?_) ReadyTo.nil
          go_simp
          refine hK.out _ (w7.drew.setCell ⟨pb, 9, none⟩ (.int .i64 LL)) ?_
          clear hK K
          refine AnyTo.done (by kernel_rfl) ?_ _
          refine NoPanic.normal ?_
          have A8 := Lib.hid (A7.out.drew.set1 9 (.int .i64 LL))
          simp only [List.setIfInBounds_toArray, List.set_cons_succ, List.set_cons_zero] at A8
          obtain ⟨w8, hw8⟩ : ∃ x, w7.drew.setCell ⟨pb, 9, none⟩ (.int .i64 LL) = x := ⟨_, rfl⟩
          rw [hw8] at A8 ⊢
          clear hw8 A7 c9 f9 q10 hS
          have q10 := A8.out.hp.cell 10
          have qk10 := A8.out.hk.cell 10
          have fz := frozen_of_row w8 pb 10 _ _ A8.out.hp
          simp only [List.getElem?_toArray, List.getElem?_cons_succ, List.getElem?_cons_zero] at q10 qk10
          go_wp2
          have A9 := A8.out.set1 10 (.bool bk')
          simp only [List.setIfInBounds_toArray, List.set_cons_succ, List.set_cons_zero] at A9
          go_end0
          exact ⟨rfl, _, A9.ho, by rw [show (((comb (ld, false) (ld', bk')).1 : Nat) : Int) = LL from HLL.out]; exact A9.hp, A9.bl, A9.fr, A9.npb, by rcases HG4.out with h | h; exact .inl h.symm; exact .inr ⟨g, h, rfl⟩⟩
    )
end Go.Proofs.Ytehofomfblfhaaa
