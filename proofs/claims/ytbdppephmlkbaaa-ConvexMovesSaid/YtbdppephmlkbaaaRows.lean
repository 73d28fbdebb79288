/-
  No cell of these rows narrows 'for every input' (looked for: loops, veiled, ifaces, maps, wideKeys, modest, calm, conditions, laid).
  DERIVED. THE GIVEN ROWS OF THIS SEAT. 4 by the template 'for every input the law returns true; each argument reads behind the call as it read before'; 0 by the template 'total and deterministic' (their statements: YtbdppephmlkbaaaTotals.lean).
  GIVEN WITH THE SEED: the statements are not yours to turn. If you find one false, say at which input.
  Laid BY PROGRAM, IN A SANDBOX (cutbox-rows.mjs): the forced cells as the released guide's own fill.sh prints them over the translation dc20265e8e0307ca… (all of the seat's roots in one cut). By AI agents, Wed Nov 11 2026. No macro, syntax, notation, axiom, sorry.
-/
import Derived.Test.YtbdppephmlkbaaaChecked
import GoSem.Claim
import GoSem.ClaimJoined
import GoSem.ClaimMapViews
import Derived.JoinedTies
import Derived.KernelRfl
namespace Go.Proofs.Ytbdppephmlkbaaa
/- THE CELL 'sum', in the pinned program and in every row, IS THE sha256 OF THE DUMP (.gsa) THAT YtbdppephmlkbaaaProg.lean LOADS. Nothing in Lean hashes anything: it is a label: what it is worth is what the hold of that sum in a sandbox is worth. -/
noncomputable def Try.pinned : Pinned := { name := "ytbdppephmlkbaaa", sum := "dc20265e8e0307ca5e057a85ac997bc1364231841a3e301c022f1883c5d8a34d", checked := Try.checked }
namespace Rows
def none {H : Type} : Left H := { results := [], args := [] }

/-- 'tinplatelaw03.ConvexHulls': WHATEVER THE INPUT: true; the input reads as it did. -/
def convexHullsSpec : ChangeSpec := { name := "convexHulls", fn := fun _ => fun
  | [d] => { results := [.lit (.bool true)], args := [d] }
  | _ => none }
def convexHullsRow : OpenClaim := { program := "ytbdppephmlkbaaa", sum := "dc20265e8e0307ca5e057a85ac997bc1364231841a3e301c022f1883c5d8a34d", func := "tinplate/tinplatelaw03.ConvexHulls", spec := "convexHulls", unfollowed := true, recurses := true, apart := false }
def ConvexHullsSaid : Prop := convexHullsRow.holds Try.pinned (OpenSpec.ofChange convexHullsSpec)

/-- ITS FALSE NEIGHBOUR: 'it returns false'. Refute it at one input. -/
def convexHullsWrong : ChangeSpec := { name := "convexHulls", fn := fun _ => fun
  | [d] => { results := [.lit (.bool false)], args := [d] }
  | _ => none }
def ConvexHullsWrongFalsely : Prop := convexHullsRow.holds Try.pinned (OpenSpec.ofChange convexHullsWrong)

/-- 'tinplatelaw03.ConvexLooks': WHATEVER THE INPUT: true; the input reads as it did. -/
def convexLooksSpec : ChangeSpec := { name := "convexLooks", fn := fun _ => fun
  | [d1, d2] => { results := [.lit (.bool true)], args := [d1, d2] }
  | _ => none }
def convexLooksRow : OpenClaim := { program := "ytbdppephmlkbaaa", sum := "dc20265e8e0307ca5e057a85ac997bc1364231841a3e301c022f1883c5d8a34d", func := "tinplate/tinplatelaw03.ConvexLooks", spec := "convexLooks", unfollowed := true, recurses := true, apart := false }
def ConvexLooksSaid : Prop := convexLooksRow.holds Try.pinned (OpenSpec.ofChange convexLooksSpec)

/-- ITS FALSE NEIGHBOUR: 'it returns false'. Refute it at one input. -/
def convexLooksWrong : ChangeSpec := { name := "convexLooks", fn := fun _ => fun
  | [d1, d2] => { results := [.lit (.bool false)], args := [d1, d2] }
  | _ => none }
def ConvexLooksWrongFalsely : Prop := convexLooksRow.holds Try.pinned (OpenSpec.ofChange convexLooksWrong)

/-- 'tinplatelaw03.ConvexMoves': WHATEVER THE INPUT: true; the input reads as it did. -/
def convexMovesSpec : ChangeSpec := { name := "convexMoves", fn := fun _ => fun
  | [d1, d2, d3] => { results := [.lit (.bool true)], args := [d1, d2, d3] }
  | _ => none }
def convexMovesRow : OpenClaim := { program := "ytbdppephmlkbaaa", sum := "dc20265e8e0307ca5e057a85ac997bc1364231841a3e301c022f1883c5d8a34d", func := "tinplate/tinplatelaw03.ConvexMoves", spec := "convexMoves", unfollowed := true, recurses := true, apart := false }
def ConvexMovesSaid : Prop := convexMovesRow.holds Try.pinned (OpenSpec.ofChange convexMovesSpec)

/-- ITS FALSE NEIGHBOUR: 'it returns false'. Refute it at one input. -/
def convexMovesWrong : ChangeSpec := { name := "convexMoves", fn := fun _ => fun
  | [d1, d2, d3] => { results := [.lit (.bool false)], args := [d1, d2, d3] }
  | _ => none }
def ConvexMovesWrongFalsely : Prop := convexMovesRow.holds Try.pinned (OpenSpec.ofChange convexMovesWrong)

/-- 'tinplatelaw03.ConvexMeets': WHATEVER THE INPUT: true; the input reads as it did. -/
def convexMeetsSpec : ChangeSpec := { name := "convexMeets", fn := fun _ => fun
  | [d1, d2] => { results := [.lit (.bool true)], args := [d1, d2] }
  | _ => none }
def convexMeetsRow : OpenClaim := { program := "ytbdppephmlkbaaa", sum := "dc20265e8e0307ca5e057a85ac997bc1364231841a3e301c022f1883c5d8a34d", func := "tinplate/tinplatelaw03.ConvexMeets", spec := "convexMeets", unfollowed := true, recurses := true, apart := false }
def ConvexMeetsSaid : Prop := convexMeetsRow.holds Try.pinned (OpenSpec.ofChange convexMeetsSpec)

/-- ITS FALSE NEIGHBOUR: 'it returns false'. Refute it at one input. -/
def convexMeetsWrong : ChangeSpec := { name := "convexMeets", fn := fun _ => fun
  | [d1, d2] => { results := [.lit (.bool false)], args := [d1, d2] }
  | _ => none }
def ConvexMeetsWrongFalsely : Prop := convexMeetsRow.holds Try.pinned (OpenSpec.ofChange convexMeetsWrong)

/- THE SECOND FORM. 'bulk': how many values and letters a reading holds, each counted each time it is reached (what is shared counts as often as it is met; a slice's spare places count too). A statement '..UptoSaid' is the law's where the arguments, and the package variables that the reading takes, are together of bulk at most 1048576: NARROWER than '..Said'. Prove '..Said' where nothing that the law and all that it calls make is longer than what came in: it says more and counts as full. Else prove '..UptoSaid'. A law counts once. -/
mutual
def uptoBulk {H : Type} : DataW H → Nat
  | .lit (.string bytes) => bytes.length + 1
  | .lit _ => 1
  | .nil => 1
  | .ptr d => uptoBulk d + 1
  | .slice elems spare => uptoBulkAll elems + uptoBulkAll spare + 1
  | .agg parts => uptoBulkAll parts + 1
  | .iface _ d => uptoBulk d + 1
  | .map entries => uptoBulkEntries entries + 1
  | .held _ => 1
def uptoBulkAll {H : Type} : List (DataW H) → Nat
  | [] => 0
  | d :: r => uptoBulk d + uptoBulkAll r
def uptoBulkEntries {H : Type} : List (Lit × DataW H) → Nat
  | [] => 0
  | x :: r => uptoBulkEntry x + uptoBulkEntries r
def uptoBulkEntry {H : Type} : Lit × DataW H → Nat
  | (.string bytes, d) => bytes.length + uptoBulk d + 1
  | (_, d) => uptoBulk d + 1
 end
def uptoSmall : (H : Type) → List (DataW H) → Bool := fun _ ds => decide (uptoBulkAll ds ≤ 1048576)
def OpenSpec.upto (s : _root_.Go.ChangeSpec) : _root_.Go.OpenSpec := { _root_.Go.OpenSpec.ofChange s with cond := some uptoSmall }

/-- 'tinplatelaw03.ConvexHulls', WHERE WHAT IT READS IS OF BULK AT MOST 1048576: true; the input reads as it did. -/
def convexHullsUptoRow : OpenClaim := { program := "ytbdppephmlkbaaa", sum := "dc20265e8e0307ca5e057a85ac997bc1364231841a3e301c022f1883c5d8a34d", func := "tinplate/tinplatelaw03.ConvexHulls", spec := "convexHulls", unfollowed := true, recurses := true, apart := false, narrowed := true }
def ConvexHullsUptoSaid : Prop := convexHullsUptoRow.holds Try.pinned (OpenSpec.upto convexHullsSpec)

/-- 'tinplatelaw03.ConvexLooks', WHERE WHAT IT READS IS OF BULK AT MOST 1048576: true; the input reads as it did. -/
def convexLooksUptoRow : OpenClaim := { program := "ytbdppephmlkbaaa", sum := "dc20265e8e0307ca5e057a85ac997bc1364231841a3e301c022f1883c5d8a34d", func := "tinplate/tinplatelaw03.ConvexLooks", spec := "convexLooks", unfollowed := true, recurses := true, apart := false, narrowed := true }
def ConvexLooksUptoSaid : Prop := convexLooksUptoRow.holds Try.pinned (OpenSpec.upto convexLooksSpec)

/-- 'tinplatelaw03.ConvexMoves', WHERE WHAT IT READS IS OF BULK AT MOST 1048576: true; the input reads as it did. -/
def convexMovesUptoRow : OpenClaim := { program := "ytbdppephmlkbaaa", sum := "dc20265e8e0307ca5e057a85ac997bc1364231841a3e301c022f1883c5d8a34d", func := "tinplate/tinplatelaw03.ConvexMoves", spec := "convexMoves", unfollowed := true, recurses := true, apart := false, narrowed := true }
def ConvexMovesUptoSaid : Prop := convexMovesUptoRow.holds Try.pinned (OpenSpec.upto convexMovesSpec)

/-- 'tinplatelaw03.ConvexMeets', WHERE WHAT IT READS IS OF BULK AT MOST 1048576: true; the input reads as it did. -/
def convexMeetsUptoRow : OpenClaim := { program := "ytbdppephmlkbaaa", sum := "dc20265e8e0307ca5e057a85ac997bc1364231841a3e301c022f1883c5d8a34d", func := "tinplate/tinplatelaw03.ConvexMeets", spec := "convexMeets", unfollowed := true, recurses := true, apart := false, narrowed := true }
def ConvexMeetsUptoSaid : Prop := convexMeetsUptoRow.holds Try.pinned (OpenSpec.upto convexMeetsSpec)

end Rows
end Go.Proofs.Ytbdppephmlkbaaa
