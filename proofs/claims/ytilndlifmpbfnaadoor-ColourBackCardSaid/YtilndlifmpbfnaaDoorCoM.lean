/- Plain lists: the names of colours and what they are. Nothing of the program is imported. -/
import Derived.Test.YtilndlifmpbfnaaDoorBgD
namespace Go.Proofs.YtilndlifmpbfnaaDoor.M
open Go.Lib
set_option linter.unusedVariables false
set_option linter.unusedSimpArgs false

/-- A name and three numbers. -/
abbrev CE := List UInt8 × Int × Int × Int
/-- Four numbers. -/
abbrev C4 := Int × Int × Int × Int
def ceT : List CE := [([97, 113, 117, 97], 0, 255, 255),
  ([97, 122, 117, 114, 101], 240, 255, 255),
  ([98, 101, 105, 103, 101], 245, 245, 220),
  ([98, 105, 115, 113, 117, 101], 255, 228, 196),
  ([98, 108, 97, 99, 107], 0, 0, 0),
  ([98, 108, 117, 101], 0, 0, 255),
  ([98, 114, 111, 119, 110], 165, 42, 42),
  ([99, 111, 114, 97, 108], 255, 127, 80),
  ([102, 117, 99, 104, 115, 105, 97], 255, 0, 255),
  ([103, 111, 108, 100], 255, 215, 0),
  ([103, 114, 97, 121], 128, 128, 128),
  ([103, 114, 101, 101, 110], 0, 128, 0),
  ([105, 110, 100, 105, 103, 111], 75, 0, 130),
  ([105, 118, 111, 114, 121], 255, 255, 240),
  ([107, 104, 97, 107, 105], 240, 230, 140),
  ([108, 105, 109, 101], 0, 255, 0),
  ([108, 105, 110, 101, 110], 250, 240, 230),
  ([109, 97, 114, 111, 111, 110], 128, 0, 0),
  ([110, 97, 118, 121], 0, 0, 128),
  ([111, 108, 105, 118, 101], 128, 128, 0),
  ([111, 114, 97, 110, 103, 101], 255, 165, 0),
  ([111, 114, 99, 104, 105, 100], 218, 112, 214),
  ([112, 101, 114, 117], 205, 133, 63),
  ([112, 105, 110, 107], 255, 192, 203),
  ([112, 108, 117, 109], 221, 160, 221),
  ([112, 117, 114, 112, 108, 101], 128, 0, 128),
  ([114, 101, 100], 255, 0, 0),
  ([115, 97, 108, 109, 111, 110], 250, 128, 114),
  ([115, 105, 101, 110, 110, 97], 160, 82, 45),
  ([115, 105, 108, 118, 101, 114], 192, 192, 192),
  ([115, 110, 111, 119], 255, 250, 250),
  ([116, 97, 110], 210, 180, 140),
  ([116, 101, 97, 108], 0, 128, 128),
  ([116, 111, 109, 97, 116, 111], 255, 99, 71),
  ([118, 105, 111, 108, 101, 116], 238, 130, 238),
  ([119, 104, 101, 97, 116], 245, 222, 179),
  ([119, 104, 105, 116, 101], 255, 255, 255),
  ([121, 101, 108, 108, 111, 119], 255, 255, 0)]
def colE (e : CE) : C4 := (e.2.1, e.2.2.1, e.2.2.2, 255)
/-- The colour of a name, in any letters. -/
def namedC (s : List UInt8) : Option CE := ceT.find? fun e => decide (e.1 = lowL s)
/-- The names of a colour. -/
def namesC (c : C4) : List (List UInt8) := (ceT.filter fun e => decide (colE e = c)).map fun e => e.1
/-- A digit of sixteen. -/
def hxd (n : Int) : UInt8 := if n < 10 then (48 + n.toNat).toUInt8 else (87 + n.toNat).toUInt8
def numsC (c : C4) : List Int := if c.2.2.2 = 255 then [c.1, c.2.1, c.2.2.1] else [c.1, c.2.1, c.2.2.1, c.2.2.2]
def okN (n : Int) : Bool := decide (0 ≤ n) && decide (n ≤ 255)
def hi (n : Int) : Int := n / 16
def lo (n : Int) : Int := n % 16
def shortL (l : List Int) : List UInt8 := 35 :: l.map fun n => hxd (hi n)
def longL (l : List Int) : List UInt8 := 35 :: l.flatMap fun n => [hxd (hi n), hxd (lo n)]
def evenL (l : List Int) : Bool := l.all fun n => decide (hi n = lo n)
/-- How a colour is spelled. -/
def spellC (c : C4) : List (List UInt8) :=
  if (numsC c).all okN then (if evenL (numsC c) then [shortL (numsC c), longL (numsC c)] else [longL (numsC c)]) ++ namesC c else []
theorem ce_len : ceT.length = 38 := by decide +kernel
theorem ce_names : ∀ e ∈ ceT, e.1.length ≤ 8 := by decide +kernel
theorem ce_one : ∀ e ∈ ceT, 0 ≤ e.2.1 ∧ e.2.1 ≤ 255 ∧ 0 ≤ e.2.2.1 ∧ e.2.2.1 ≤ 255 ∧ 0 ≤ e.2.2.2 ∧ e.2.2.2 ≤ 255 := by decide +kernel
end Go.Proofs.YtilndlifmpbfnaaDoor.M
