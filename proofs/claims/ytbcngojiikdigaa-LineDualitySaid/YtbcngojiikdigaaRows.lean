/-
  No cell of these rows narrows 'for every input' (looked for: loops, veiled, ifaces, maps, wideKeys, modest, calm, conditions, laid).
  DERIVED. THE GIVEN ROWS OF THIS SEAT. 4 by the template 'for every input the law returns true; each argument reads behind the call as it read before'; 0 by the template 'total and deterministic' (their statements: YtbcngojiikdigaaTotals.lean).
  GIVEN WITH THE SEED: the statements are not yours to turn. If you find one false, say at which input.
  Laid BY PROGRAM, IN A SANDBOX (cutbox-rows.mjs): the forced cells as the released guide's own fill.sh prints them over the translation 061a94801b1ff5ce… (all of the seat's roots in one cut). By AI agents, Wed Nov 11 2026. No macro, syntax, notation, axiom, sorry.
-/
import Derived.Test.YtbcngojiikdigaaChecked
import GoSem.Claim
import GoSem.ClaimJoined
import GoSem.ClaimMapViews
import Derived.JoinedTies
import Derived.KernelRfl
namespace Go.Proofs.Ytbcngojiikdigaa
/- THE CELL 'sum', in the pinned program and in every row, IS THE sha256 OF THE DUMP (.gsa) THAT YtbcngojiikdigaaProg.lean LOADS. Nothing in Lean hashes anything: it is a label: what it is worth is what the hold of that sum in a sandbox is worth. -/
noncomputable def Try.pinned : Pinned := { name := "ytbcngojiikdigaa", sum := "061a94801b1ff5ce3030f54192fa92729db4d7182992955920838d6a3cadf9a9", checked := Try.checked }
namespace Rows
def none {H : Type} : Left H := { results := [], args := [] }

/-- 'tinplatelaw05.LineDuality': WHATEVER THE INPUT: true; the input reads as it did. -/
def lineDualitySpec : ChangeSpec := { name := "lineDuality", fn := fun _ => fun
  | [d1, d2, d3] => { results := [.lit (.bool true)], args := [d1, d2, d3] }
  | _ => none }
def lineDualityRow : OpenClaim := { program := "ytbcngojiikdigaa", sum := "061a94801b1ff5ce3030f54192fa92729db4d7182992955920838d6a3cadf9a9", func := "tinplate/tinplatelaw05.LineDuality", spec := "lineDuality", unfollowed := true, recurses := true, apart := false }
def LineDualitySaid : Prop := lineDualityRow.holds Try.pinned (OpenSpec.ofChange lineDualitySpec)

/-- ITS FALSE NEIGHBOUR: 'it returns false'. Refute it at one input. -/
def lineDualityWrong : ChangeSpec := { name := "lineDuality", fn := fun _ => fun
  | [d1, d2, d3] => { results := [.lit (.bool false)], args := [d1, d2, d3] }
  | _ => none }
def LineDualityWrongFalsely : Prop := lineDualityRow.holds Try.pinned (OpenSpec.ofChange lineDualityWrong)

/-- 'tinplatelaw05.LineStar': WHATEVER THE INPUT: true; the input reads as it did. -/
def lineStarSpec : ChangeSpec := { name := "lineStar", fn := fun _ => fun
  | [d] => { results := [.lit (.bool true)], args := [d] }
  | _ => none }
def lineStarRow : OpenClaim := { program := "ytbcngojiikdigaa", sum := "061a94801b1ff5ce3030f54192fa92729db4d7182992955920838d6a3cadf9a9", func := "tinplate/tinplatelaw05.LineStar", spec := "lineStar", unfollowed := true, recurses := true, apart := false }
def LineStarSaid : Prop := lineStarRow.holds Try.pinned (OpenSpec.ofChange lineStarSpec)

/-- ITS FALSE NEIGHBOUR: 'it returns false'. Refute it at one input. -/
def lineStarWrong : ChangeSpec := { name := "lineStar", fn := fun _ => fun
  | [d] => { results := [.lit (.bool false)], args := [d] }
  | _ => none }
def LineStarWrongFalsely : Prop := lineStarRow.holds Try.pinned (OpenSpec.ofChange lineStarWrong)

/-- 'tinplatelaw05.LineEigen': WHATEVER THE INPUT: true; the input reads as it did. -/
def lineEigenSpec : ChangeSpec := { name := "lineEigen", fn := fun _ => fun
  | [d1, d2, d3] => { results := [.lit (.bool true)], args := [d1, d2, d3] }
  | _ => none }
def lineEigenRow : OpenClaim := { program := "ytbcngojiikdigaa", sum := "061a94801b1ff5ce3030f54192fa92729db4d7182992955920838d6a3cadf9a9", func := "tinplate/tinplatelaw05.LineEigen", spec := "lineEigen", unfollowed := true, recurses := true, apart := false }
def LineEigenSaid : Prop := lineEigenRow.holds Try.pinned (OpenSpec.ofChange lineEigenSpec)

/-- ITS FALSE NEIGHBOUR: 'it returns false'. Refute it at one input. -/
def lineEigenWrong : ChangeSpec := { name := "lineEigen", fn := fun _ => fun
  | [d1, d2, d3] => { results := [.lit (.bool false)], args := [d1, d2, d3] }
  | _ => none }
def LineEigenWrongFalsely : Prop := lineEigenRow.holds Try.pinned (OpenSpec.ofChange lineEigenWrong)

/-- 'tinplatelaw05.LineRepeats': WHATEVER THE INPUT: true; the input reads as it did. -/
def lineRepeatsSpec : ChangeSpec := { name := "lineRepeats", fn := fun _ => fun
  | [d1, d2] => { results := [.lit (.bool true)], args := [d1, d2] }
  | _ => none }
def lineRepeatsRow : OpenClaim := { program := "ytbcngojiikdigaa", sum := "061a94801b1ff5ce3030f54192fa92729db4d7182992955920838d6a3cadf9a9", func := "tinplate/tinplatelaw05.LineRepeats", spec := "lineRepeats", unfollowed := true, recurses := true, apart := false }
def LineRepeatsSaid : Prop := lineRepeatsRow.holds Try.pinned (OpenSpec.ofChange lineRepeatsSpec)

/-- ITS FALSE NEIGHBOUR: 'it returns false'. Refute it at one input. -/
def lineRepeatsWrong : ChangeSpec := { name := "lineRepeats", fn := fun _ => fun
  | [d1, d2] => { results := [.lit (.bool false)], args := [d1, d2] }
  | _ => none }
def LineRepeatsWrongFalsely : Prop := lineRepeatsRow.holds Try.pinned (OpenSpec.ofChange lineRepeatsWrong)

/- THE SECOND FORM. 'bulk': how many values and letters a reading holds, each counted each time it is reached (what is shared counts as often as it is met; a slice's spare places count too). A statement '..UptoSaid' is the law's where the arguments, and the package variables that the reading takes, are together of bulk at most 1048576: NARROWER than '..Said'. Prove '..Said' where nothing that the law and all that it calls make is longer than what came in: it says more and counts as full. Else prove '..UptoSaid'. A law counts once. -/
mutual
def uptoBulk {H : Type} : DataW H → Nat
  | .lit (.string bytes) => bytes.length + 1
  | .lit _ => 1
  | .nil => 1
  | .ptr d => uptoBulk d + 1
  | .slice elems spare => uptoBulkAll elems + uptoBulkAll spare + 1
  | .agg parts => uptoBulkAll parts + 1
  | .iface _ d => uptoBulk d + 1
  | .map entries => uptoBulkEntries entries + 1
  | .held _ => 1
def uptoBulkAll {H : Type} : List (DataW H) → Nat
  | [] => 0
  | d :: r => uptoBulk d + uptoBulkAll r
def uptoBulkEntries {H : Type} : List (Lit × DataW H) → Nat
  | [] => 0
  | x :: r => uptoBulkEntry x + uptoBulkEntries r
def uptoBulkEntry {H : Type} : Lit × DataW H → Nat
  | (.string bytes, d) => bytes.length + uptoBulk d + 1
  | (_, d) => uptoBulk d + 1
 end
def uptoSmall : (H : Type) → List (DataW H) → Bool := fun _ ds => decide (uptoBulkAll ds ≤ 1048576)
def OpenSpec.upto (s : _root_.Go.ChangeSpec) : _root_.Go.OpenSpec := { _root_.Go.OpenSpec.ofChange s with cond := some uptoSmall }

/-- 'tinplatelaw05.LineDuality', WHERE WHAT IT READS IS OF BULK AT MOST 1048576: true; the input reads as it did. -/
def lineDualityUptoRow : OpenClaim := { program := "ytbcngojiikdigaa", sum := "061a94801b1ff5ce3030f54192fa92729db4d7182992955920838d6a3cadf9a9", func := "tinplate/tinplatelaw05.LineDuality", spec := "lineDuality", unfollowed := true, recurses := true, apart := false, narrowed := true }
def LineDualityUptoSaid : Prop := lineDualityUptoRow.holds Try.pinned (OpenSpec.upto lineDualitySpec)

/-- 'tinplatelaw05.LineStar', WHERE WHAT IT READS IS OF BULK AT MOST 1048576: true; the input reads as it did. -/
def lineStarUptoRow : OpenClaim := { program := "ytbcngojiikdigaa", sum := "061a94801b1ff5ce3030f54192fa92729db4d7182992955920838d6a3cadf9a9", func := "tinplate/tinplatelaw05.LineStar", spec := "lineStar", unfollowed := true, recurses := true, apart := false, narrowed := true }
def LineStarUptoSaid : Prop := lineStarUptoRow.holds Try.pinned (OpenSpec.upto lineStarSpec)

/-- 'tinplatelaw05.LineEigen', WHERE WHAT IT READS IS OF BULK AT MOST 1048576: true; the input reads as it did. -/
def lineEigenUptoRow : OpenClaim := { program := "ytbcngojiikdigaa", sum := "061a94801b1ff5ce3030f54192fa92729db4d7182992955920838d6a3cadf9a9", func := "tinplate/tinplatelaw05.LineEigen", spec := "lineEigen", unfollowed := true, recurses := true, apart := false, narrowed := true }
def LineEigenUptoSaid : Prop := lineEigenUptoRow.holds Try.pinned (OpenSpec.upto lineEigenSpec)

/-- 'tinplatelaw05.LineRepeats', WHERE WHAT IT READS IS OF BULK AT MOST 1048576: true; the input reads as it did. -/
def lineRepeatsUptoRow : OpenClaim := { program := "ytbcngojiikdigaa", sum := "061a94801b1ff5ce3030f54192fa92729db4d7182992955920838d6a3cadf9a9", func := "tinplate/tinplatelaw05.LineRepeats", spec := "lineRepeats", unfollowed := true, recurses := true, apart := false, narrowed := true }
def LineRepeatsUptoSaid : Prop := lineRepeatsUptoRow.holds Try.pinned (OpenSpec.upto lineRepeatsSpec)

end Rows
end Go.Proofs.Ytbcngojiikdigaa
