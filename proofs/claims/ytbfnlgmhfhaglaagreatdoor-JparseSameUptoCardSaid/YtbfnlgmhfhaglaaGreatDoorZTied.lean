/- What the tied rows of chapter 7 share: the tables, and the error that a bad digit is. -/
import Derived.Test.YtbfnlgmhfhaglaaGreatDoorWTied
import Derived.Test.YtbfnlgmhfhaglaaGreatDoorZUc
import Derived.Stop.LaidErr
namespace Go.Proofs.YtbfnlgmhfhaglaaGreatDoor
open Go.RowKit Go.Lib Go.Shelf

theorem star_es : "*" ++ "errors.errorString" = "*errors.errorString" := by decide
theorem row_es (u : TypeId) (h : Tryz.prog.typeName? 3 u = some "*errors.errorString") : u = 197 :=
  typeName_ptr_named (nm := "errors.errorString") (by rw [star_es]; kernel_rfl) (by kernel_rfl) (by decide) u (by rw [star_es]; exact h)
theorem tabx_of {W : World} (h : laidMetH Tryz.prog laidList W) : TabX W := by
  refine ⟨tabs_of h, ?_⟩
  rw [MakeChecks.laidMetH_plain _ _ _ (by kernel_rfl)] at h
  have h5 := h.tail.tail.tail.tail.tail
  obtain ⟨a, s, hv, hc, _⟩ := laid_sentinel (g := 4) (ti := 150) h5 (by kernel_rfl) (by kernel_rfl) Tryz.underlying150 row_es Tryz.underlying197 Tryz.underlying199 rfl rfl Tryz.underlying9 (by kernel_rfl) (by kernel_rfl)
  have hg : Tryz.prog.globalNamed "strconv.ErrSyntax" = some 4 := by kernel_rfl
  exact ⟨_, by simpa using World.var?_cell hg hv 0, .inr ⟨_, _, rfl⟩⟩
end Go.Proofs.YtbfnlgmhfhaglaaGreatDoor
