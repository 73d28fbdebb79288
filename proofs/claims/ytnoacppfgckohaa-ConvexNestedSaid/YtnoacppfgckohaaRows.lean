/-
  No cell of these rows narrows 'for every input' (looked for: loops, veiled, ifaces, maps, wideKeys, modest, calm, conditions, laid).
  DERIVED. THE GIVEN ROWS OF THIS SEAT. 6 by the template 'for every input the law returns true; each argument reads behind the call as it read before'; 0 by the template 'total and deterministic' (their statements: YtnoacppfgckohaaTotals.lean).
  GIVEN WITH THE SEED: the statements are not yours to turn. If you find one false, say at which input.
  Laid BY PROGRAM, IN A SANDBOX (cutbox-rows.mjs): the forced cells as the released guide's own fill.sh prints them over the translation 4fa91127b510de03… (all of the seat's roots in one cut). By AI agents, Wed Nov 11 2026. No macro, syntax, notation, axiom, sorry.
-/
import Derived.Test.YtnoacppfgckohaaChecked
import GoSem.Claim
import GoSem.ClaimJoined
import GoSem.ClaimMapViews
import Derived.JoinedTies
import Derived.KernelRfl
namespace Go.Proofs.Ytnoacppfgckohaa
/- THE CELL 'sum', in the pinned program and in every row, IS THE sha256 OF THE DUMP (.gsa) THAT YtnoacppfgckohaaProg.lean LOADS. Nothing in Lean hashes anything: it is a label: what it is worth is what the hold of that sum in a sandbox is worth. -/
noncomputable def Try.pinned : Pinned := { name := "ytnoacppfgckohaa", sum := "4fa91127b510de038d69e1389280e84b13bfcaf6c4aac19050b3df0552afef44", checked := Try.checked }
namespace Rows
def none {H : Type} : Left H := { results := [], args := [] }

/-- 'tinplatelaw03.ConvexContains': WHATEVER THE INPUT: true; the input reads as it did. -/
def convexContainsSpec : ChangeSpec := { name := "convexContains", fn := fun _ => fun
  | [d1, d2] => { results := [.lit (.bool true)], args := [d1, d2] }
  | _ => none }
def convexContainsRow : OpenClaim := { program := "ytnoacppfgckohaa", sum := "4fa91127b510de038d69e1389280e84b13bfcaf6c4aac19050b3df0552afef44", func := "tinplate/tinplatelaw03.ConvexContains", spec := "convexContains", unfollowed := true, recurses := true, apart := false }
def ConvexContainsSaid : Prop := convexContainsRow.holds Try.pinned (OpenSpec.ofChange convexContainsSpec)

/-- ITS FALSE NEIGHBOUR: 'it returns false'. Refute it at one input. -/
def convexContainsWrong : ChangeSpec := { name := "convexContains", fn := fun _ => fun
  | [d1, d2] => { results := [.lit (.bool false)], args := [d1, d2] }
  | _ => none }
def ConvexContainsWrongFalsely : Prop := convexContainsRow.holds Try.pinned (OpenSpec.ofChange convexContainsWrong)

/-- 'tinplatelaw03.ConvexPick': WHATEVER THE INPUT: true; the input reads as it did. -/
def convexPickSpec : ChangeSpec := { name := "convexPick", fn := fun _ => fun
  | [d] => { results := [.lit (.bool true)], args := [d] }
  | _ => none }
def convexPickRow : OpenClaim := { program := "ytnoacppfgckohaa", sum := "4fa91127b510de038d69e1389280e84b13bfcaf6c4aac19050b3df0552afef44", func := "tinplate/tinplatelaw03.ConvexPick", spec := "convexPick", unfollowed := true, recurses := true, apart := false }
def ConvexPickSaid : Prop := convexPickRow.holds Try.pinned (OpenSpec.ofChange convexPickSpec)

/-- ITS FALSE NEIGHBOUR: 'it returns false'. Refute it at one input. -/
def convexPickWrong : ChangeSpec := { name := "convexPick", fn := fun _ => fun
  | [d] => { results := [.lit (.bool false)], args := [d] }
  | _ => none }
def ConvexPickWrongFalsely : Prop := convexPickRow.holds Try.pinned (OpenSpec.ofChange convexPickWrong)

/-- 'tinplatelaw03.ConvexSeparates': WHATEVER THE INPUT: true; the input reads as it did. -/
def convexSeparatesSpec : ChangeSpec := { name := "convexSeparates", fn := fun _ => fun
  | [d1, d2] => { results := [.lit (.bool true)], args := [d1, d2] }
  | _ => none }
def convexSeparatesRow : OpenClaim := { program := "ytnoacppfgckohaa", sum := "4fa91127b510de038d69e1389280e84b13bfcaf6c4aac19050b3df0552afef44", func := "tinplate/tinplatelaw03.ConvexSeparates", spec := "convexSeparates", unfollowed := true, recurses := true, apart := false }
def ConvexSeparatesSaid : Prop := convexSeparatesRow.holds Try.pinned (OpenSpec.ofChange convexSeparatesSpec)

/-- ITS FALSE NEIGHBOUR: 'it returns false'. Refute it at one input. -/
def convexSeparatesWrong : ChangeSpec := { name := "convexSeparates", fn := fun _ => fun
  | [d1, d2] => { results := [.lit (.bool false)], args := [d1, d2] }
  | _ => none }
def ConvexSeparatesWrongFalsely : Prop := convexSeparatesRow.holds Try.pinned (OpenSpec.ofChange convexSeparatesWrong)

/-- 'tinplatelaw03.ConvexSums': WHATEVER THE INPUT: true; the input reads as it did. -/
def convexSumsSpec : ChangeSpec := { name := "convexSums", fn := fun _ => fun
  | [d1, d2, d3, d4] => { results := [.lit (.bool true)], args := [d1, d2, d3, d4] }
  | _ => none }
def convexSumsRow : OpenClaim := { program := "ytnoacppfgckohaa", sum := "4fa91127b510de038d69e1389280e84b13bfcaf6c4aac19050b3df0552afef44", func := "tinplate/tinplatelaw03.ConvexSums", spec := "convexSums", unfollowed := true, recurses := true, apart := false }
def ConvexSumsSaid : Prop := convexSumsRow.holds Try.pinned (OpenSpec.ofChange convexSumsSpec)

/-- ITS FALSE NEIGHBOUR: 'it returns false'. Refute it at one input. -/
def convexSumsWrong : ChangeSpec := { name := "convexSums", fn := fun _ => fun
  | [d1, d2, d3, d4] => { results := [.lit (.bool false)], args := [d1, d2, d3, d4] }
  | _ => none }
def ConvexSumsWrongFalsely : Prop := convexSumsRow.holds Try.pinned (OpenSpec.ofChange convexSumsWrong)

/-- 'tinplatelaw03.ConvexMotions': WHATEVER THE INPUT: true; the input reads as it did. -/
def convexMotionsSpec : ChangeSpec := { name := "convexMotions", fn := fun _ => fun
  | [d1, d2, d3] => { results := [.lit (.bool true)], args := [d1, d2, d3] }
  | _ => none }
def convexMotionsRow : OpenClaim := { program := "ytnoacppfgckohaa", sum := "4fa91127b510de038d69e1389280e84b13bfcaf6c4aac19050b3df0552afef44", func := "tinplate/tinplatelaw03.ConvexMotions", spec := "convexMotions", unfollowed := true, recurses := true, apart := false }
def ConvexMotionsSaid : Prop := convexMotionsRow.holds Try.pinned (OpenSpec.ofChange convexMotionsSpec)

/-- ITS FALSE NEIGHBOUR: 'it returns false'. Refute it at one input. -/
def convexMotionsWrong : ChangeSpec := { name := "convexMotions", fn := fun _ => fun
  | [d1, d2, d3] => { results := [.lit (.bool false)], args := [d1, d2, d3] }
  | _ => none }
def ConvexMotionsWrongFalsely : Prop := convexMotionsRow.holds Try.pinned (OpenSpec.ofChange convexMotionsWrong)

/-- 'tinplatelaw03.ConvexNested': WHATEVER THE INPUT: true; the input reads as it did. -/
def convexNestedSpec : ChangeSpec := { name := "convexNested", fn := fun _ => fun
  | [d1, d2, d3] => { results := [.lit (.bool true)], args := [d1, d2, d3] }
  | _ => none }
def convexNestedRow : OpenClaim := { program := "ytnoacppfgckohaa", sum := "4fa91127b510de038d69e1389280e84b13bfcaf6c4aac19050b3df0552afef44", func := "tinplate/tinplatelaw03.ConvexNested", spec := "convexNested", unfollowed := true, recurses := true, apart := false }
def ConvexNestedSaid : Prop := convexNestedRow.holds Try.pinned (OpenSpec.ofChange convexNestedSpec)

/-- ITS FALSE NEIGHBOUR: 'it returns false'. Refute it at one input. -/
def convexNestedWrong : ChangeSpec := { name := "convexNested", fn := fun _ => fun
  | [d1, d2, d3] => { results := [.lit (.bool false)], args := [d1, d2, d3] }
  | _ => none }
def ConvexNestedWrongFalsely : Prop := convexNestedRow.holds Try.pinned (OpenSpec.ofChange convexNestedWrong)

/- THE SECOND FORM. 'bulk': how many values and letters a reading holds, each counted each time it is reached (what is shared counts as often as it is met; a slice's spare places count too). A statement '..UptoSaid' is the law's where the arguments, and the package variables that the reading takes, are together of bulk at most 1048576: NARROWER than '..Said'. Prove '..Said' where nothing that the law and all that it calls make is longer than what came in: it says more and counts as full. Else prove '..UptoSaid'. A law counts once. -/
mutual
def uptoBulk {H : Type} : DataW H → Nat
  | .lit (.string bytes) => bytes.length + 1
  | .lit _ => 1
  | .nil => 1
  | .ptr d => uptoBulk d + 1
  | .slice elems spare => uptoBulkAll elems + uptoBulkAll spare + 1
  | .agg parts => uptoBulkAll parts + 1
  | .iface _ d => uptoBulk d + 1
  | .map entries => uptoBulkEntries entries + 1
  | .held _ => 1
def uptoBulkAll {H : Type} : List (DataW H) → Nat
  | [] => 0
  | d :: r => uptoBulk d + uptoBulkAll r
def uptoBulkEntries {H : Type} : List (Lit × DataW H) → Nat
  | [] => 0
  | x :: r => uptoBulkEntry x + uptoBulkEntries r
def uptoBulkEntry {H : Type} : Lit × DataW H → Nat
  | (.string bytes, d) => bytes.length + uptoBulk d + 1
  | (_, d) => uptoBulk d + 1
 end
def uptoSmall : (H : Type) → List (DataW H) → Bool := fun _ ds => decide (uptoBulkAll ds ≤ 1048576)
def OpenSpec.upto (s : _root_.Go.ChangeSpec) : _root_.Go.OpenSpec := { _root_.Go.OpenSpec.ofChange s with cond := some uptoSmall }

/-- 'tinplatelaw03.ConvexContains', WHERE WHAT IT READS IS OF BULK AT MOST 1048576: true; the input reads as it did. -/
def convexContainsUptoRow : OpenClaim := { program := "ytnoacppfgckohaa", sum := "4fa91127b510de038d69e1389280e84b13bfcaf6c4aac19050b3df0552afef44", func := "tinplate/tinplatelaw03.ConvexContains", spec := "convexContains", unfollowed := true, recurses := true, apart := false, narrowed := true }
def ConvexContainsUptoSaid : Prop := convexContainsUptoRow.holds Try.pinned (OpenSpec.upto convexContainsSpec)

/-- 'tinplatelaw03.ConvexPick', WHERE WHAT IT READS IS OF BULK AT MOST 1048576: true; the input reads as it did. -/
def convexPickUptoRow : OpenClaim := { program := "ytnoacppfgckohaa", sum := "4fa91127b510de038d69e1389280e84b13bfcaf6c4aac19050b3df0552afef44", func := "tinplate/tinplatelaw03.ConvexPick", spec := "convexPick", unfollowed := true, recurses := true, apart := false, narrowed := true }
def ConvexPickUptoSaid : Prop := convexPickUptoRow.holds Try.pinned (OpenSpec.upto convexPickSpec)

/-- 'tinplatelaw03.ConvexSeparates', WHERE WHAT IT READS IS OF BULK AT MOST 1048576: true; the input reads as it did. -/
def convexSeparatesUptoRow : OpenClaim := { program := "ytnoacppfgckohaa", sum := "4fa91127b510de038d69e1389280e84b13bfcaf6c4aac19050b3df0552afef44", func := "tinplate/tinplatelaw03.ConvexSeparates", spec := "convexSeparates", unfollowed := true, recurses := true, apart := false, narrowed := true }
def ConvexSeparatesUptoSaid : Prop := convexSeparatesUptoRow.holds Try.pinned (OpenSpec.upto convexSeparatesSpec)

/-- 'tinplatelaw03.ConvexSums', WHERE WHAT IT READS IS OF BULK AT MOST 1048576: true; the input reads as it did. -/
def convexSumsUptoRow : OpenClaim := { program := "ytnoacppfgckohaa", sum := "4fa91127b510de038d69e1389280e84b13bfcaf6c4aac19050b3df0552afef44", func := "tinplate/tinplatelaw03.ConvexSums", spec := "convexSums", unfollowed := true, recurses := true, apart := false, narrowed := true }
def ConvexSumsUptoSaid : Prop := convexSumsUptoRow.holds Try.pinned (OpenSpec.upto convexSumsSpec)

/-- 'tinplatelaw03.ConvexMotions', WHERE WHAT IT READS IS OF BULK AT MOST 1048576: true; the input reads as it did. -/
def convexMotionsUptoRow : OpenClaim := { program := "ytnoacppfgckohaa", sum := "4fa91127b510de038d69e1389280e84b13bfcaf6c4aac19050b3df0552afef44", func := "tinplate/tinplatelaw03.ConvexMotions", spec := "convexMotions", unfollowed := true, recurses := true, apart := false, narrowed := true }
def ConvexMotionsUptoSaid : Prop := convexMotionsUptoRow.holds Try.pinned (OpenSpec.upto convexMotionsSpec)

/-- 'tinplatelaw03.ConvexNested', WHERE WHAT IT READS IS OF BULK AT MOST 1048576: true; the input reads as it did. -/
def convexNestedUptoRow : OpenClaim := { program := "ytnoacppfgckohaa", sum := "4fa91127b510de038d69e1389280e84b13bfcaf6c4aac19050b3df0552afef44", func := "tinplate/tinplatelaw03.ConvexNested", spec := "convexNested", unfollowed := true, recurses := true, apart := false, narrowed := true }
def ConvexNestedUptoSaid : Prop := convexNestedUptoRow.holds Try.pinned (OpenSpec.upto convexNestedSpec)

end Rows
end Go.Proofs.Ytnoacppfgckohaa
