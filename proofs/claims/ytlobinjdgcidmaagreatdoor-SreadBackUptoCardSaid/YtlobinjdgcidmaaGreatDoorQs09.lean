/- Texts of ours in one: ZTied RdTied. -/
import Derived.Test.YtlobinjdgcidmaaGreatDoorQs03
import Derived.Test.YtlobinjdgcidmaaGreatDoorQs08
import Derived.Stop.LaidErr
import Derived.Shelf.Vars
/- What the tied rows of chapter 7 share: the tables, and the error that a bad digit is. -/
namespace Go.Proofs.YtlobinjdgcidmaaGreatDoor
open Go.RowKit Go.Lib Go.Shelf

theorem star_es : "*" ++ "errors.errorString" = "*errors.errorString" := by decide
theorem row_es (u : TypeId) (h : Tryz.prog.typeName? 3 u = some "*errors.errorString") : u = 195 :=
  typeName_ptr_named (nm := "errors.errorString") (by rw [star_es]; kernel_rfl) (by kernel_rfl) (by decide) u (by rw [star_es]; exact h)
theorem tabx_of {W : World} (h : laidMetH Tryz.prog laidList W) : TabX W := by
  refine ⟨tabs_of h, ?_⟩
  rw [MakeChecks.laidMetH_plain _ _ _ (by kernel_rfl)] at h
  have h5 := h.tail.tail.tail.tail.tail
  obtain ⟨a, s, hv, hc, _⟩ := laid_sentinel (g := 4) (ti := 91) h5 (by kernel_rfl) (by kernel_rfl) Tryz.underlying91 row_es Tryz.underlying195 Tryz.underlying197 rfl rfl Tryz.underlying9 (by kernel_rfl) (by kernel_rfl)
  have hg : Tryz.prog.globalNamed "strconv.ErrSyntax" = some 4 := by kernel_rfl
  exact ⟨_, by simpa using World.var?_cell hg hv 0, .inr ⟨_, _, rfl⟩⟩
end Go.Proofs.YtlobinjdgcidmaaGreatDoor
/- That internal/bytealg.MaxLen holds some int. -/
namespace Go.Proofs.YtlobinjdgcidmaaGreatDoor
open Go.RowKit Go.Lib Go.Shelf
theorem maxlen_of {W : World} (h : W.ShapedOpen Tryz.prog) : ∃ m, W.cell? ⟨0, 0, none⟩ = some (.int .i64 m) :=
  cell_of_shapedOpen_int (g := 0) (t := 3) (zero := #[.int .i64 0]) (k := .i64) h (of_decide_eq_true (by kernel_rfl)) (by kernel_rfl) rfl (by kernel_rfl) (by kernel_rfl) Tryz.underlying3
end Go.Proofs.YtlobinjdgcidmaaGreatDoor
