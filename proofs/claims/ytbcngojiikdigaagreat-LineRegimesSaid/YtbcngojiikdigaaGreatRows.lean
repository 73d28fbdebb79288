/-
  No cell of these rows narrows 'for every input' (looked for: loops, veiled, ifaces, maps, wideKeys, modest, calm, conditions, laid).
  DERIVED. THE GIVEN ROWS OF THIS SEAT. 5 by the template 'for every input the law returns true; each argument reads behind the call as it read before'; 0 by the template 'total and deterministic' (their statements: YtbcngojiikdigaaGreatTotals.lean).
  GIVEN WITH THE SEED: the statements are not yours to turn. If you find one false, say at which input.
  Laid BY PROGRAM, IN A SANDBOX (cutbox-rows.mjs): the forced cells as the released guide's own fill.sh prints them over the translation f832f9377cf18b35… (all of the seat's roots in one cut). By AI agents, Wed Nov 11 2026. No macro, syntax, notation, axiom, sorry.
-/
import Derived.Test.YtbcngojiikdigaaGreatChecked
import GoSem.Claim
import GoSem.ClaimJoined
import GoSem.ClaimMapViews
import Derived.JoinedTies
import Derived.KernelRfl
namespace Go.Proofs.YtbcngojiikdigaaGreat
/- THE CELL 'sum', in the pinned program and in every row, IS THE sha256 OF THE DUMP (.gsa) THAT YtbcngojiikdigaaGreatProg.lean LOADS. Nothing in Lean hashes anything: it is a label: what it is worth is what the hold of that sum in a sandbox is worth. -/
noncomputable def Tryz.pinned : Pinned := { name := "ytbcngojiikdigaagreat", sum := "f832f9377cf18b35dbddc5fc3fbc15cb499d02bbf91402ae667662f696d768ae", checked := Tryz.checked }
namespace Rows
def none {H : Type} : Left H := { results := [], args := [] }

/-- 'tinplatelaw05.LinePowers': WHATEVER THE INPUT: true; the input reads as it did. -/
def linePowersSpec : ChangeSpec := { name := "linePowers", fn := fun _ => fun
  | [d1, d2, d3, d4] => { results := [.lit (.bool true)], args := [d1, d2, d3, d4] }
  | _ => none }
def linePowersRow : OpenClaim := { program := "ytbcngojiikdigaagreat", sum := "f832f9377cf18b35dbddc5fc3fbc15cb499d02bbf91402ae667662f696d768ae", func := "tinplate/tinplatelaw05.LinePowers", spec := "linePowers", unfollowed := true, recurses := true, apart := false }
def LinePowersSaid : Prop := linePowersRow.holds Tryz.pinned (OpenSpec.ofChange linePowersSpec)

/-- ITS FALSE NEIGHBOUR: 'it returns false'. Refute it at one input. -/
def linePowersWrong : ChangeSpec := { name := "linePowers", fn := fun _ => fun
  | [d1, d2, d3, d4] => { results := [.lit (.bool false)], args := [d1, d2, d3, d4] }
  | _ => none }
def LinePowersWrongFalsely : Prop := linePowersRow.holds Tryz.pinned (OpenSpec.ofChange linePowersWrong)

/-- 'tinplatelaw05.LineSpeeds': WHATEVER THE INPUT: true; the input reads as it did. -/
def lineSpeedsSpec : ChangeSpec := { name := "lineSpeeds", fn := fun _ => fun
  | [d] => { results := [.lit (.bool true)], args := [d] }
  | _ => none }
def lineSpeedsRow : OpenClaim := { program := "ytbcngojiikdigaagreat", sum := "f832f9377cf18b35dbddc5fc3fbc15cb499d02bbf91402ae667662f696d768ae", func := "tinplate/tinplatelaw05.LineSpeeds", spec := "lineSpeeds", unfollowed := true, recurses := true, apart := false }
def LineSpeedsSaid : Prop := lineSpeedsRow.holds Tryz.pinned (OpenSpec.ofChange lineSpeedsSpec)

/-- ITS FALSE NEIGHBOUR: 'it returns false'. Refute it at one input. -/
def lineSpeedsWrong : ChangeSpec := { name := "lineSpeeds", fn := fun _ => fun
  | [d] => { results := [.lit (.bool false)], args := [d] }
  | _ => none }
def LineSpeedsWrongFalsely : Prop := lineSpeedsRow.holds Tryz.pinned (OpenSpec.ofChange lineSpeedsWrong)

/-- 'tinplatelaw05.LineWalks': WHATEVER THE INPUT: true; the input reads as it did. -/
def lineWalksSpec : ChangeSpec := { name := "lineWalks", fn := fun _ => fun
  | [d] => { results := [.lit (.bool true)], args := [d] }
  | _ => none }
def lineWalksRow : OpenClaim := { program := "ytbcngojiikdigaagreat", sum := "f832f9377cf18b35dbddc5fc3fbc15cb499d02bbf91402ae667662f696d768ae", func := "tinplate/tinplatelaw05.LineWalks", spec := "lineWalks", unfollowed := true, recurses := true, apart := false }
def LineWalksSaid : Prop := lineWalksRow.holds Tryz.pinned (OpenSpec.ofChange lineWalksSpec)

/-- ITS FALSE NEIGHBOUR: 'it returns false'. Refute it at one input. -/
def lineWalksWrong : ChangeSpec := { name := "lineWalks", fn := fun _ => fun
  | [d] => { results := [.lit (.bool false)], args := [d] }
  | _ => none }
def LineWalksWrongFalsely : Prop := lineWalksRow.holds Tryz.pinned (OpenSpec.ofChange lineWalksWrong)

/-- 'tinplatelaw05.LineRegimes': WHATEVER THE INPUT: true; the input reads as it did. -/
def lineRegimesSpec : ChangeSpec := { name := "lineRegimes", fn := fun _ => fun
  | [d] => { results := [.lit (.bool true)], args := [d] }
  | _ => none }
def lineRegimesRow : OpenClaim := { program := "ytbcngojiikdigaagreat", sum := "f832f9377cf18b35dbddc5fc3fbc15cb499d02bbf91402ae667662f696d768ae", func := "tinplate/tinplatelaw05.LineRegimes", spec := "lineRegimes", unfollowed := true, recurses := true, apart := false }
def LineRegimesSaid : Prop := lineRegimesRow.holds Tryz.pinned (OpenSpec.ofChange lineRegimesSpec)

/-- ITS FALSE NEIGHBOUR: 'it returns false'. Refute it at one input. -/
def lineRegimesWrong : ChangeSpec := { name := "lineRegimes", fn := fun _ => fun
  | [d] => { results := [.lit (.bool false)], args := [d] }
  | _ => none }
def LineRegimesWrongFalsely : Prop := lineRegimesRow.holds Tryz.pinned (OpenSpec.ofChange lineRegimesWrong)

/-- 'tinplatelaw05.LineAlgebra': WHATEVER THE INPUT: true; the input reads as it did. -/
def lineAlgebraSpec : ChangeSpec := { name := "lineAlgebra", fn := fun _ => fun
  | [d1, d2, d3, d4, d5, d6] => { results := [.lit (.bool true)], args := [d1, d2, d3, d4, d5, d6] }
  | _ => none }
def lineAlgebraRow : OpenClaim := { program := "ytbcngojiikdigaagreat", sum := "f832f9377cf18b35dbddc5fc3fbc15cb499d02bbf91402ae667662f696d768ae", func := "tinplate/tinplatelaw05.LineAlgebra", spec := "lineAlgebra", unfollowed := true, recurses := true, apart := false }
def LineAlgebraSaid : Prop := lineAlgebraRow.holds Tryz.pinned (OpenSpec.ofChange lineAlgebraSpec)

/-- ITS FALSE NEIGHBOUR: 'it returns false'. Refute it at one input. -/
def lineAlgebraWrong : ChangeSpec := { name := "lineAlgebra", fn := fun _ => fun
  | [d1, d2, d3, d4, d5, d6] => { results := [.lit (.bool false)], args := [d1, d2, d3, d4, d5, d6] }
  | _ => none }
def LineAlgebraWrongFalsely : Prop := lineAlgebraRow.holds Tryz.pinned (OpenSpec.ofChange lineAlgebraWrong)

/- THE SECOND FORM. 'bulk': how many values and letters a reading holds, each counted each time it is reached (what is shared counts as often as it is met; a slice's spare places count too). A statement '..UptoSaid' is the law's where the arguments, and the package variables that the reading takes, are together of bulk at most 1048576: NARROWER than '..Said'. Prove '..Said' where nothing that the law and all that it calls make is longer than what came in: it says more and counts as full. Else prove '..UptoSaid'. A law counts once. -/
mutual
def uptoBulk {H : Type} : DataW H → Nat
  | .lit (.string bytes) => bytes.length + 1
  | .lit _ => 1
  | .nil => 1
  | .ptr d => uptoBulk d + 1
  | .slice elems spare => uptoBulkAll elems + uptoBulkAll spare + 1
  | .agg parts => uptoBulkAll parts + 1
  | .iface _ d => uptoBulk d + 1
  | .map entries => uptoBulkEntries entries + 1
  | .held _ => 1
def uptoBulkAll {H : Type} : List (DataW H) → Nat
  | [] => 0
  | d :: r => uptoBulk d + uptoBulkAll r
def uptoBulkEntries {H : Type} : List (Lit × DataW H) → Nat
  | [] => 0
  | x :: r => uptoBulkEntry x + uptoBulkEntries r
def uptoBulkEntry {H : Type} : Lit × DataW H → Nat
  | (.string bytes, d) => bytes.length + uptoBulk d + 1
  | (_, d) => uptoBulk d + 1
 end
def uptoSmall : (H : Type) → List (DataW H) → Bool := fun _ ds => decide (uptoBulkAll ds ≤ 1048576)
def OpenSpec.upto (s : _root_.Go.ChangeSpec) : _root_.Go.OpenSpec := { _root_.Go.OpenSpec.ofChange s with cond := some uptoSmall }

/-- 'tinplatelaw05.LinePowers', WHERE WHAT IT READS IS OF BULK AT MOST 1048576: true; the input reads as it did. -/
def linePowersUptoRow : OpenClaim := { program := "ytbcngojiikdigaagreat", sum := "f832f9377cf18b35dbddc5fc3fbc15cb499d02bbf91402ae667662f696d768ae", func := "tinplate/tinplatelaw05.LinePowers", spec := "linePowers", unfollowed := true, recurses := true, apart := false, narrowed := true }
def LinePowersUptoSaid : Prop := linePowersUptoRow.holds Tryz.pinned (OpenSpec.upto linePowersSpec)

/-- 'tinplatelaw05.LineSpeeds', WHERE WHAT IT READS IS OF BULK AT MOST 1048576: true; the input reads as it did. -/
def lineSpeedsUptoRow : OpenClaim := { program := "ytbcngojiikdigaagreat", sum := "f832f9377cf18b35dbddc5fc3fbc15cb499d02bbf91402ae667662f696d768ae", func := "tinplate/tinplatelaw05.LineSpeeds", spec := "lineSpeeds", unfollowed := true, recurses := true, apart := false, narrowed := true }
def LineSpeedsUptoSaid : Prop := lineSpeedsUptoRow.holds Tryz.pinned (OpenSpec.upto lineSpeedsSpec)

/-- 'tinplatelaw05.LineWalks', WHERE WHAT IT READS IS OF BULK AT MOST 1048576: true; the input reads as it did. -/
def lineWalksUptoRow : OpenClaim := { program := "ytbcngojiikdigaagreat", sum := "f832f9377cf18b35dbddc5fc3fbc15cb499d02bbf91402ae667662f696d768ae", func := "tinplate/tinplatelaw05.LineWalks", spec := "lineWalks", unfollowed := true, recurses := true, apart := false, narrowed := true }
def LineWalksUptoSaid : Prop := lineWalksUptoRow.holds Tryz.pinned (OpenSpec.upto lineWalksSpec)

/-- 'tinplatelaw05.LineRegimes', WHERE WHAT IT READS IS OF BULK AT MOST 1048576: true; the input reads as it did. -/
def lineRegimesUptoRow : OpenClaim := { program := "ytbcngojiikdigaagreat", sum := "f832f9377cf18b35dbddc5fc3fbc15cb499d02bbf91402ae667662f696d768ae", func := "tinplate/tinplatelaw05.LineRegimes", spec := "lineRegimes", unfollowed := true, recurses := true, apart := false, narrowed := true }
def LineRegimesUptoSaid : Prop := lineRegimesUptoRow.holds Tryz.pinned (OpenSpec.upto lineRegimesSpec)

/-- 'tinplatelaw05.LineAlgebra', WHERE WHAT IT READS IS OF BULK AT MOST 1048576: true; the input reads as it did. -/
def lineAlgebraUptoRow : OpenClaim := { program := "ytbcngojiikdigaagreat", sum := "f832f9377cf18b35dbddc5fc3fbc15cb499d02bbf91402ae667662f696d768ae", func := "tinplate/tinplatelaw05.LineAlgebra", spec := "lineAlgebra", unfollowed := true, recurses := true, apart := false, narrowed := true }
def LineAlgebraUptoSaid : Prop := lineAlgebraUptoRow.holds Tryz.pinned (OpenSpec.upto lineAlgebraSpec)

end Rows
end Go.Proofs.YtbcngojiikdigaaGreat
