/-
  NARROWER THAN 'FOR EVERY INPUT', by the rows' own cells (each row's printed sentence says how): CinputTells: laid · CinputTwice: laid · CinputEnds: laid · CinputJoins: laid.
  DERIVED. THE GIVEN ROWS OF THIS SEAT. 4 by the template 'for every input the law returns true; each argument reads behind the call as it read before'; 0 by the template 'total and deterministic' (their statements: YtpnlkahebdipcaaDoorTotals.lean).
  GIVEN WITH THE SEED: the statements are not yours to turn. If you find one false, say at which input.
  Laid BY PROGRAM, IN A SANDBOX (cutbox-rows.mjs): the forced cells as the released guide's own fill.sh prints them over the translation 510f74b2976952a3… (all of the seat's roots in one cut). By AI agents, Wed Nov 11 2026. No macro, syntax, notation, axiom, sorry.
-/
import Derived.Test.YtpnlkahebdipcaaDoorChecked
import GoSem.PinnedTables
import GoSem.Claim
import GoSem.ClaimJoined
import GoSem.ClaimMapViews
import Derived.JoinedTies
import Derived.KernelRfl
namespace Go.Proofs.YtpnlkahebdipcaaDoor
/- THE CELL 'sum', in the pinned program and in every row, IS THE sha256 OF THE DUMP (.gsa) THAT YtpnlkahebdipcaaDoorProg.lean LOADS. Nothing in Lean hashes anything: it is a label: what it is worth is what the hold of that sum in a sandbox is worth. -/
noncomputable def Tryd.pinned : Pinned := { name := "ytpnlkahebdipcaadoor", sum := "510f74b2976952a3d30e62600c07ba3cd5dfeca01c75e4cacad6bb79daf22a84", checked := Tryd.checked }
namespace Rows
def none {H : Type} : Left H := { results := [], args := [] }

/- WHAT THE LISTED PACKAGE-LEVEL VARIABLES READ AS WHEN THE CALL BEGINS. Each datum BY PROGRAM (the guide's laid-datum.mjs) off the statement by which the dump's own 'gosem.cut.vars' lays the variable. In a bare row this is a premise. The card (YtpnlkahebdipcaaDoorCards.lean) ties it to the program's text. -/
def laid_unicode_utf8_acceptRanges {H : Type} : DataW H := .agg [.agg [.lit (.int .u8 128), .lit (.int .u8 191)], .agg [.lit (.int .u8 160), .lit (.int .u8 191)], .agg [.lit (.int .u8 128), .lit (.int .u8 159)], .agg [.lit (.int .u8 144), .lit (.int .u8 191)], .agg [.lit (.int .u8 128), .lit (.int .u8 143)], .agg [.lit (.int .u8 0), .lit (.int .u8 0)], .agg [.lit (.int .u8 0), .lit (.int .u8 0)], .agg [.lit (.int .u8 0), .lit (.int .u8 0)], .agg [.lit (.int .u8 0), .lit (.int .u8 0)], .agg [.lit (.int .u8 0), .lit (.int .u8 0)], .agg [.lit (.int .u8 0), .lit (.int .u8 0)], .agg [.lit (.int .u8 0), .lit (.int .u8 0)], .agg [.lit (.int .u8 0), .lit (.int .u8 0)], .agg [.lit (.int .u8 0), .lit (.int .u8 0)], .agg [.lit (.int .u8 0), .lit (.int .u8 0)], .agg [.lit (.int .u8 0), .lit (.int .u8 0)]]
/-- One of Go's own tables, pinned by name: the form's constant. -/
def laid_unicode_utf8_first : DataW Unit := Go.Pinned.utf8First

/-- 'abridgerlaw13.CinputTells': WHATEVER THE INPUT: true; the input reads as it did. -/
def cinputTellsSpec : ChangeSpec := { name := "cinputTells", fn := fun _ => fun
  | [d1, d2] => { results := [.lit (.bool true)], args := [d1, d2] }
  | _ => none }
def cinputTellsRow : OpenClaim := { program := "ytpnlkahebdipcaadoor", sum := "510f74b2976952a3d30e62600c07ba3cd5dfeca01c75e4cacad6bb79daf22a84", func := "abridger/abridgerlaw13.CinputTells", spec := "cinputTells", named := ["unicode/utf8.first", "unicode/utf8.acceptRanges"], apart := false, laid := [("unicode/utf8.acceptRanges", laid_unicode_utf8_acceptRanges), ("unicode/utf8.first", laid_unicode_utf8_first)] }
def CinputTellsSaid : Prop := cinputTellsRow.holds Tryd.pinned (OpenSpec.ofChange cinputTellsSpec)

/-- ITS FALSE NEIGHBOUR: 'it returns false'. Refute it at one input. -/
def cinputTellsWrong : ChangeSpec := { name := "cinputTells", fn := fun _ => fun
  | [d1, d2] => { results := [.lit (.bool false)], args := [d1, d2] }
  | _ => none }
def CinputTellsWrongFalsely : Prop := cinputTellsRow.holds Tryd.pinned (OpenSpec.ofChange cinputTellsWrong)

/-- 'abridgerlaw13.CinputTwice': WHATEVER THE INPUT: true; the input reads as it did. -/
def cinputTwiceSpec : ChangeSpec := { name := "cinputTwice", fn := fun _ => fun
  | [d] => { results := [.lit (.bool true)], args := [d] }
  | _ => none }
def cinputTwiceRow : OpenClaim := { program := "ytpnlkahebdipcaadoor", sum := "510f74b2976952a3d30e62600c07ba3cd5dfeca01c75e4cacad6bb79daf22a84", func := "abridger/abridgerlaw13.CinputTwice", spec := "cinputTwice", named := ["unicode/utf8.first", "unicode/utf8.acceptRanges"], apart := false, laid := [("unicode/utf8.acceptRanges", laid_unicode_utf8_acceptRanges), ("unicode/utf8.first", laid_unicode_utf8_first)] }
def CinputTwiceSaid : Prop := cinputTwiceRow.holds Tryd.pinned (OpenSpec.ofChange cinputTwiceSpec)

/-- ITS FALSE NEIGHBOUR: 'it returns false'. Refute it at one input. -/
def cinputTwiceWrong : ChangeSpec := { name := "cinputTwice", fn := fun _ => fun
  | [d] => { results := [.lit (.bool false)], args := [d] }
  | _ => none }
def CinputTwiceWrongFalsely : Prop := cinputTwiceRow.holds Tryd.pinned (OpenSpec.ofChange cinputTwiceWrong)

/-- 'abridgerlaw13.CinputEnds': WHATEVER THE INPUT: true; the input reads as it did. -/
def cinputEndsSpec : ChangeSpec := { name := "cinputEnds", fn := fun _ => fun
  | [d] => { results := [.lit (.bool true)], args := [d] }
  | _ => none }
def cinputEndsRow : OpenClaim := { program := "ytpnlkahebdipcaadoor", sum := "510f74b2976952a3d30e62600c07ba3cd5dfeca01c75e4cacad6bb79daf22a84", func := "abridger/abridgerlaw13.CinputEnds", spec := "cinputEnds", named := ["unicode/utf8.first", "unicode/utf8.acceptRanges"], apart := false, laid := [("unicode/utf8.acceptRanges", laid_unicode_utf8_acceptRanges), ("unicode/utf8.first", laid_unicode_utf8_first)] }
def CinputEndsSaid : Prop := cinputEndsRow.holds Tryd.pinned (OpenSpec.ofChange cinputEndsSpec)

/-- ITS FALSE NEIGHBOUR: 'it returns false'. Refute it at one input. -/
def cinputEndsWrong : ChangeSpec := { name := "cinputEnds", fn := fun _ => fun
  | [d] => { results := [.lit (.bool false)], args := [d] }
  | _ => none }
def CinputEndsWrongFalsely : Prop := cinputEndsRow.holds Tryd.pinned (OpenSpec.ofChange cinputEndsWrong)

/-- 'abridgerlaw13.CinputJoins': WHATEVER THE INPUT: true; the input reads as it did. -/
def cinputJoinsSpec : ChangeSpec := { name := "cinputJoins", fn := fun _ => fun
  | [d1, d2] => { results := [.lit (.bool true)], args := [d1, d2] }
  | _ => none }
def cinputJoinsRow : OpenClaim := { program := "ytpnlkahebdipcaadoor", sum := "510f74b2976952a3d30e62600c07ba3cd5dfeca01c75e4cacad6bb79daf22a84", func := "abridger/abridgerlaw13.CinputJoins", spec := "cinputJoins", named := ["unicode/utf8.first", "unicode/utf8.acceptRanges"], apart := false, laid := [("unicode/utf8.acceptRanges", laid_unicode_utf8_acceptRanges), ("unicode/utf8.first", laid_unicode_utf8_first)] }
def CinputJoinsSaid : Prop := cinputJoinsRow.holds Tryd.pinned (OpenSpec.ofChange cinputJoinsSpec)

/-- ITS FALSE NEIGHBOUR: 'it returns false'. Refute it at one input. -/
def cinputJoinsWrong : ChangeSpec := { name := "cinputJoins", fn := fun _ => fun
  | [d1, d2] => { results := [.lit (.bool false)], args := [d1, d2] }
  | _ => none }
def CinputJoinsWrongFalsely : Prop := cinputJoinsRow.holds Tryd.pinned (OpenSpec.ofChange cinputJoinsWrong)

/- THE SECOND FORM. 'bulk': how many values and letters a reading holds, each counted each time it is reached (what is shared counts as often as it is met; a slice's spare places count too). A statement '..UptoSaid' is the law's where the arguments, and the package variables that the reading takes, are together of bulk at most 1048576: NARROWER than '..Said'. Prove '..Said' where nothing that the law and all that it calls make is longer than what came in: it says more and counts as full. Else prove '..UptoSaid'. A law counts once. -/
mutual
def uptoBulk {H : Type} : DataW H → Nat
  | .lit (.string bytes) => bytes.length + 1
  | .lit _ => 1
  | .nil => 1
  | .ptr d => uptoBulk d + 1
  | .slice elems spare => uptoBulkAll elems + uptoBulkAll spare + 1
  | .agg parts => uptoBulkAll parts + 1
  | .iface _ d => uptoBulk d + 1
  | .map entries => uptoBulkEntries entries + 1
  | .held _ => 1
def uptoBulkAll {H : Type} : List (DataW H) → Nat
  | [] => 0
  | d :: r => uptoBulk d + uptoBulkAll r
def uptoBulkEntries {H : Type} : List (Lit × DataW H) → Nat
  | [] => 0
  | x :: r => uptoBulkEntry x + uptoBulkEntries r
def uptoBulkEntry {H : Type} : Lit × DataW H → Nat
  | (.string bytes, d) => bytes.length + uptoBulk d + 1
  | (_, d) => uptoBulk d + 1
 end
def uptoSmall : (H : Type) → List (DataW H) → Bool := fun _ ds => decide (uptoBulkAll ds ≤ 1048576)
def OpenSpec.upto (s : _root_.Go.ChangeSpec) : _root_.Go.OpenSpec := { _root_.Go.OpenSpec.ofChange s with cond := some uptoSmall }

/-- 'abridgerlaw13.CinputTells', WHERE WHAT IT READS IS OF BULK AT MOST 1048576: true; the input reads as it did. -/
def cinputTellsUptoRow : OpenClaim := { program := "ytpnlkahebdipcaadoor", sum := "510f74b2976952a3d30e62600c07ba3cd5dfeca01c75e4cacad6bb79daf22a84", func := "abridger/abridgerlaw13.CinputTells", spec := "cinputTells", named := ["unicode/utf8.first", "unicode/utf8.acceptRanges"], apart := false, laid := [("unicode/utf8.acceptRanges", laid_unicode_utf8_acceptRanges), ("unicode/utf8.first", laid_unicode_utf8_first)], narrowed := true }
def CinputTellsUptoSaid : Prop := cinputTellsUptoRow.holds Tryd.pinned (OpenSpec.upto cinputTellsSpec)

/-- 'abridgerlaw13.CinputTwice', WHERE WHAT IT READS IS OF BULK AT MOST 1048576: true; the input reads as it did. -/
def cinputTwiceUptoRow : OpenClaim := { program := "ytpnlkahebdipcaadoor", sum := "510f74b2976952a3d30e62600c07ba3cd5dfeca01c75e4cacad6bb79daf22a84", func := "abridger/abridgerlaw13.CinputTwice", spec := "cinputTwice", named := ["unicode/utf8.first", "unicode/utf8.acceptRanges"], apart := false, laid := [("unicode/utf8.acceptRanges", laid_unicode_utf8_acceptRanges), ("unicode/utf8.first", laid_unicode_utf8_first)], narrowed := true }
def CinputTwiceUptoSaid : Prop := cinputTwiceUptoRow.holds Tryd.pinned (OpenSpec.upto cinputTwiceSpec)

/-- 'abridgerlaw13.CinputEnds', WHERE WHAT IT READS IS OF BULK AT MOST 1048576: true; the input reads as it did. -/
def cinputEndsUptoRow : OpenClaim := { program := "ytpnlkahebdipcaadoor", sum := "510f74b2976952a3d30e62600c07ba3cd5dfeca01c75e4cacad6bb79daf22a84", func := "abridger/abridgerlaw13.CinputEnds", spec := "cinputEnds", named := ["unicode/utf8.first", "unicode/utf8.acceptRanges"], apart := false, laid := [("unicode/utf8.acceptRanges", laid_unicode_utf8_acceptRanges), ("unicode/utf8.first", laid_unicode_utf8_first)], narrowed := true }
def CinputEndsUptoSaid : Prop := cinputEndsUptoRow.holds Tryd.pinned (OpenSpec.upto cinputEndsSpec)

/-- 'abridgerlaw13.CinputJoins', WHERE WHAT IT READS IS OF BULK AT MOST 1048576: true; the input reads as it did. -/
def cinputJoinsUptoRow : OpenClaim := { program := "ytpnlkahebdipcaadoor", sum := "510f74b2976952a3d30e62600c07ba3cd5dfeca01c75e4cacad6bb79daf22a84", func := "abridger/abridgerlaw13.CinputJoins", spec := "cinputJoins", named := ["unicode/utf8.first", "unicode/utf8.acceptRanges"], apart := false, laid := [("unicode/utf8.acceptRanges", laid_unicode_utf8_acceptRanges), ("unicode/utf8.first", laid_unicode_utf8_first)], narrowed := true }
def CinputJoinsUptoSaid : Prop := cinputJoinsUptoRow.holds Tryd.pinned (OpenSpec.upto cinputJoinsSpec)

end Rows
end Go.Proofs.YtpnlkahebdipcaaDoor
