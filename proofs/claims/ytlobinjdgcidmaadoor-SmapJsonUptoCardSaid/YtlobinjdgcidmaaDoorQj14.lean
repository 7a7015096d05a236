/- Texts of ours in one: ZUc. -/
import Derived.Test.YtlobinjdgcidmaaDoorQj02
import Derived.Deep.QuietTactic
import Derived.BigQuiet
import Derived.Deep.Cut
import Derived.WalkSmall
import Derived.Test.YtlobinjdgcidmaaDoorQj12
import Derived.Test.YtlobinjdgcidmaaDoorQj03
import Derived.Test.YtlobinjdgcidmaaDoorQj01
import Derived.Deep.DeepCutAuto
import Derived.WalkLawsBesides
/- jparse.Units of the program: numbered, escape, element. -/
namespace Go.Proofs.YtlobinjdgcidmaaDoor
open Go.RowKit
set_option linter.unusedVariables false
set_option linter.unusedSimpArgs false

structure TabX (w : World) : Prop where
  tab : Tabs w
theorem TabX.keep {w w' : World} (h : TabX w) (hb : Below w.heap.size w w') : TabX w' := ⟨h.tab.keep hb⟩
theorem bs_part {w : World} {b off n cap : Nat} {l : List UInt8} (h : Bs w (.slice (some ⟨b, off, none⟩) n cap) l) (a e : Nat) (he : a ≤ e) (hn : e ≤ n) : Bs w (.slice (some ⟨b, off + a, none⟩) (e - a) (cap - a)) ((l.drop a).take (e - a)) := by
  obtain ⟨a', cap', e', h1, h2, h3⟩ := h
  simp only [Value.slice.injEq] at e'
  obtain ⟨rfl, rfl, rfl⟩ := e'
  have hlen : ((l.drop a).take (e - a)).length = e - a := by simp; omega
  refine ⟨_, _, by rw [hlen], by rw [hlen]; omega, by omega, fun h0 => ?_⟩
  rw [hlen] at h0
  obtain ⟨b', off', e2, hb, hc⟩ := h3 (by omega)
  simp only [Option.some.injEq, Addr.mk.injEq, and_true] at e2
  obtain ⟨rfl, rfl⟩ := e2
  refine ⟨_, _, rfl, hb, fun j hj => ?_⟩
  rw [hlen] at hj
  rw [Nat.add_assoc, hc (a + j) (by omega)]
  simp
end Go.Proofs.YtlobinjdgcidmaaDoor
