/-
  No cell of these rows narrows 'for every input' (looked for: loops, veiled, ifaces, maps, wideKeys, modest, calm, conditions, laid).
  DERIVED. THE GIVEN ROWS OF THIS SEAT. 11 by the template 'for every input the law returns true; each argument reads behind the call as it read before'; 0 by the template 'total and deterministic' (their statements: YtnpebfchojalcaaTotals.lean).
  GIVEN WITH THE SEED: the statements are not yours to turn. If you find one false, say at which input.
  Laid BY PROGRAM, IN A SANDBOX (cutbox-rows.mjs): the forced cells as the released guide's own fill.sh prints them over the translation ba1e1d56df30cd54… (all of the seat's roots in one cut). By AI agents, Wed Nov 11 2026. No macro, syntax, notation, axiom, sorry.
-/
import Derived.Test.YtnpebfchojalcaaChecked
import GoSem.Claim
import GoSem.ClaimJoined
import GoSem.ClaimMapViews
import Derived.JoinedTies
import Derived.KernelRfl
namespace Go.Proofs.Ytnpebfchojalcaa
/- THE CELL 'sum', in the pinned program and in every row, IS THE sha256 OF THE DUMP (.gsa) THAT YtnpebfchojalcaaProg.lean LOADS. Nothing in Lean hashes anything: it is a label: what it is worth is what the hold of that sum in a sandbox is worth. -/
noncomputable def Try.pinned : Pinned := { name := "ytnpebfchojalcaa", sum := "ba1e1d56df30cd540cdc18e62e840fa7e8b0fa86e415bd03cc7735757576aaa5", checked := Try.checked }
namespace Rows
def none {H : Type} : Left H := { results := [], args := [] }

/-- 'tinplatelaw04.BlankGrids': WHATEVER THE INPUT: true; the input reads as it did. -/
def blankGridsSpec : ChangeSpec := { name := "blankGrids", fn := fun _ => fun
  | [d1, d2] => { results := [.lit (.bool true)], args := [d1, d2] }
  | _ => none }
def blankGridsRow : OpenClaim := { program := "ytnpebfchojalcaa", sum := "ba1e1d56df30cd540cdc18e62e840fa7e8b0fa86e415bd03cc7735757576aaa5", func := "tinplate/tinplatelaw04.BlankGrids", spec := "blankGrids", unfollowed := true, recurses := true, plainKeys := false, apart := false }
def BlankGridsSaid : Prop := blankGridsRow.holds Try.pinned (OpenSpec.ofChange blankGridsSpec)

/-- ITS FALSE NEIGHBOUR: 'it returns false'. Refute it at one input. -/
def blankGridsWrong : ChangeSpec := { name := "blankGrids", fn := fun _ => fun
  | [d1, d2] => { results := [.lit (.bool false)], args := [d1, d2] }
  | _ => none }
def BlankGridsWrongFalsely : Prop := blankGridsRow.holds Try.pinned (OpenSpec.ofChange blankGridsWrong)

/-- 'tinplatelaw04.BlankDensest': WHATEVER THE INPUT: true; the input reads as it did. -/
def blankDensestSpec : ChangeSpec := { name := "blankDensest", fn := fun _ => fun
  | [d] => { results := [.lit (.bool true)], args := [d] }
  | _ => none }
def blankDensestRow : OpenClaim := { program := "ytnpebfchojalcaa", sum := "ba1e1d56df30cd540cdc18e62e840fa7e8b0fa86e415bd03cc7735757576aaa5", func := "tinplate/tinplatelaw04.BlankDensest", spec := "blankDensest", unfollowed := true, recurses := true, plainKeys := false, apart := false }
def BlankDensestSaid : Prop := blankDensestRow.holds Try.pinned (OpenSpec.ofChange blankDensestSpec)

/-- ITS FALSE NEIGHBOUR: 'it returns false'. Refute it at one input. -/
def blankDensestWrong : ChangeSpec := { name := "blankDensest", fn := fun _ => fun
  | [d] => { results := [.lit (.bool false)], args := [d] }
  | _ => none }
def BlankDensestWrongFalsely : Prop := blankDensestRow.holds Try.pinned (OpenSpec.ofChange blankDensestWrong)

/-- 'tinplatelaw04.BlankLays': WHATEVER THE INPUT: true; the input reads as it did. -/
def blankLaysSpec : ChangeSpec := { name := "blankLays", fn := fun _ => fun
  | [d1, d2, d3, d4] => { results := [.lit (.bool true)], args := [d1, d2, d3, d4] }
  | _ => none }
def blankLaysRow : OpenClaim := { program := "ytnpebfchojalcaa", sum := "ba1e1d56df30cd540cdc18e62e840fa7e8b0fa86e415bd03cc7735757576aaa5", func := "tinplate/tinplatelaw04.BlankLays", spec := "blankLays", unfollowed := true, recurses := true, plainKeys := false, apart := false }
def BlankLaysSaid : Prop := blankLaysRow.holds Try.pinned (OpenSpec.ofChange blankLaysSpec)

/-- ITS FALSE NEIGHBOUR: 'it returns false'. Refute it at one input. -/
def blankLaysWrong : ChangeSpec := { name := "blankLays", fn := fun _ => fun
  | [d1, d2, d3, d4] => { results := [.lit (.bool false)], args := [d1, d2, d3, d4] }
  | _ => none }
def BlankLaysWrongFalsely : Prop := blankLaysRow.holds Try.pinned (OpenSpec.ofChange blankLaysWrong)

/-- 'tinplatelaw04.BlankReads': WHATEVER THE INPUT: true; the input reads as it did. -/
def blankReadsSpec : ChangeSpec := { name := "blankReads", fn := fun _ => fun
  | [d1, d2, d3, d4] => { results := [.lit (.bool true)], args := [d1, d2, d3, d4] }
  | _ => none }
def blankReadsRow : OpenClaim := { program := "ytnpebfchojalcaa", sum := "ba1e1d56df30cd540cdc18e62e840fa7e8b0fa86e415bd03cc7735757576aaa5", func := "tinplate/tinplatelaw04.BlankReads", spec := "blankReads", unfollowed := true, recurses := true, plainKeys := false, apart := false }
def BlankReadsSaid : Prop := blankReadsRow.holds Try.pinned (OpenSpec.ofChange blankReadsSpec)

/-- ITS FALSE NEIGHBOUR: 'it returns false'. Refute it at one input. -/
def blankReadsWrong : ChangeSpec := { name := "blankReads", fn := fun _ => fun
  | [d1, d2, d3, d4] => { results := [.lit (.bool false)], args := [d1, d2, d3, d4] }
  | _ => none }
def BlankReadsWrongFalsely : Prop := blankReadsRow.holds Try.pinned (OpenSpec.ofChange blankReadsWrong)

/-- 'tinplatelaw04.BlankCuts': WHATEVER THE INPUT: true; the input reads as it did. -/
def blankCutsSpec : ChangeSpec := { name := "blankCuts", fn := fun _ => fun
  | [d1, d2, d3] => { results := [.lit (.bool true)], args := [d1, d2, d3] }
  | _ => none }
def blankCutsRow : OpenClaim := { program := "ytnpebfchojalcaa", sum := "ba1e1d56df30cd540cdc18e62e840fa7e8b0fa86e415bd03cc7735757576aaa5", func := "tinplate/tinplatelaw04.BlankCuts", spec := "blankCuts", unfollowed := true, recurses := true, plainKeys := false, apart := false }
def BlankCutsSaid : Prop := blankCutsRow.holds Try.pinned (OpenSpec.ofChange blankCutsSpec)

/-- ITS FALSE NEIGHBOUR: 'it returns false'. Refute it at one input. -/
def blankCutsWrong : ChangeSpec := { name := "blankCuts", fn := fun _ => fun
  | [d1, d2, d3] => { results := [.lit (.bool false)], args := [d1, d2, d3] }
  | _ => none }
def BlankCutsWrongFalsely : Prop := blankCutsRow.holds Try.pinned (OpenSpec.ofChange blankCutsWrong)

/-- 'tinplatelaw04.BlankArea': WHATEVER THE INPUT: true; the input reads as it did. -/
def blankAreaSpec : ChangeSpec := { name := "blankArea", fn := fun _ => fun
  | [d1, d2] => { results := [.lit (.bool true)], args := [d1, d2] }
  | _ => none }
def blankAreaRow : OpenClaim := { program := "ytnpebfchojalcaa", sum := "ba1e1d56df30cd540cdc18e62e840fa7e8b0fa86e415bd03cc7735757576aaa5", func := "tinplate/tinplatelaw04.BlankArea", spec := "blankArea", unfollowed := true, recurses := true, plainKeys := false, apart := false }
def BlankAreaSaid : Prop := blankAreaRow.holds Try.pinned (OpenSpec.ofChange blankAreaSpec)

/-- ITS FALSE NEIGHBOUR: 'it returns false'. Refute it at one input. -/
def blankAreaWrong : ChangeSpec := { name := "blankArea", fn := fun _ => fun
  | [d1, d2] => { results := [.lit (.bool false)], args := [d1, d2] }
  | _ => none }
def BlankAreaWrongFalsely : Prop := blankAreaRow.holds Try.pinned (OpenSpec.ofChange blankAreaWrong)

/-- 'tinplatelaw04.BlankWitness': WHATEVER THE INPUT: true; the input reads as it did. -/
def blankWitnessSpec : ChangeSpec := { name := "blankWitness", fn := fun _ => fun
  | [d1, d2, d3, d4] => { results := [.lit (.bool true)], args := [d1, d2, d3, d4] }
  | _ => none }
def blankWitnessRow : OpenClaim := { program := "ytnpebfchojalcaa", sum := "ba1e1d56df30cd540cdc18e62e840fa7e8b0fa86e415bd03cc7735757576aaa5", func := "tinplate/tinplatelaw04.BlankWitness", spec := "blankWitness", unfollowed := true, recurses := true, plainKeys := false, apart := false }
def BlankWitnessSaid : Prop := blankWitnessRow.holds Try.pinned (OpenSpec.ofChange blankWitnessSpec)

/-- ITS FALSE NEIGHBOUR: 'it returns false'. Refute it at one input. -/
def blankWitnessWrong : ChangeSpec := { name := "blankWitness", fn := fun _ => fun
  | [d1, d2, d3, d4] => { results := [.lit (.bool false)], args := [d1, d2, d3, d4] }
  | _ => none }
def BlankWitnessWrongFalsely : Prop := blankWitnessRow.holds Try.pinned (OpenSpec.ofChange blankWitnessWrong)

/-- 'tinplatelaw04.BlankFirst': WHATEVER THE INPUT: true; the input reads as it did. -/
def blankFirstSpec : ChangeSpec := { name := "blankFirst", fn := fun _ => fun
  | [d1, d2] => { results := [.lit (.bool true)], args := [d1, d2] }
  | _ => none }
def blankFirstRow : OpenClaim := { program := "ytnpebfchojalcaa", sum := "ba1e1d56df30cd540cdc18e62e840fa7e8b0fa86e415bd03cc7735757576aaa5", func := "tinplate/tinplatelaw04.BlankFirst", spec := "blankFirst", unfollowed := true, recurses := true, plainKeys := false, apart := false }
def BlankFirstSaid : Prop := blankFirstRow.holds Try.pinned (OpenSpec.ofChange blankFirstSpec)

/-- ITS FALSE NEIGHBOUR: 'it returns false'. Refute it at one input. -/
def blankFirstWrong : ChangeSpec := { name := "blankFirst", fn := fun _ => fun
  | [d1, d2] => { results := [.lit (.bool false)], args := [d1, d2] }
  | _ => none }
def BlankFirstWrongFalsely : Prop := blankFirstRow.holds Try.pinned (OpenSpec.ofChange blankFirstWrong)

/-- 'tinplatelaw04.BlankLayout': WHATEVER THE INPUT: true; the input reads as it did. -/
def blankLayoutSpec : ChangeSpec := { name := "blankLayout", fn := fun _ => fun
  | [d1, d2, d3, d4, d5, d6] => { results := [.lit (.bool true)], args := [d1, d2, d3, d4, d5, d6] }
  | _ => none }
def blankLayoutRow : OpenClaim := { program := "ytnpebfchojalcaa", sum := "ba1e1d56df30cd540cdc18e62e840fa7e8b0fa86e415bd03cc7735757576aaa5", func := "tinplate/tinplatelaw04.BlankLayout", spec := "blankLayout", unfollowed := true, recurses := true, plainKeys := false, apart := false }
def BlankLayoutSaid : Prop := blankLayoutRow.holds Try.pinned (OpenSpec.ofChange blankLayoutSpec)

/-- ITS FALSE NEIGHBOUR: 'it returns false'. Refute it at one input. -/
def blankLayoutWrong : ChangeSpec := { name := "blankLayout", fn := fun _ => fun
  | [d1, d2, d3, d4, d5, d6] => { results := [.lit (.bool false)], args := [d1, d2, d3, d4, d5, d6] }
  | _ => none }
def BlankLayoutWrongFalsely : Prop := blankLayoutRow.holds Try.pinned (OpenSpec.ofChange blankLayoutWrong)

/-- 'tinplatelaw04.BlankPlan': WHATEVER THE INPUT: true; the input reads as it did. -/
def blankPlanSpec : ChangeSpec := { name := "blankPlan", fn := fun _ => fun
  | [d1, d2, d3, d4] => { results := [.lit (.bool true)], args := [d1, d2, d3, d4] }
  | _ => none }
def blankPlanRow : OpenClaim := { program := "ytnpebfchojalcaa", sum := "ba1e1d56df30cd540cdc18e62e840fa7e8b0fa86e415bd03cc7735757576aaa5", func := "tinplate/tinplatelaw04.BlankPlan", spec := "blankPlan", unfollowed := true, recurses := true, plainKeys := false, apart := false }
def BlankPlanSaid : Prop := blankPlanRow.holds Try.pinned (OpenSpec.ofChange blankPlanSpec)

/-- ITS FALSE NEIGHBOUR: 'it returns false'. Refute it at one input. -/
def blankPlanWrong : ChangeSpec := { name := "blankPlan", fn := fun _ => fun
  | [d1, d2, d3, d4] => { results := [.lit (.bool false)], args := [d1, d2, d3, d4] }
  | _ => none }
def BlankPlanWrongFalsely : Prop := blankPlanRow.holds Try.pinned (OpenSpec.ofChange blankPlanWrong)

/-- 'tinplatelaw04.BlankGrows': WHATEVER THE INPUT: true; the input reads as it did. -/
def blankGrowsSpec : ChangeSpec := { name := "blankGrows", fn := fun _ => fun
  | [d1, d2, d3, d4, d5] => { results := [.lit (.bool true)], args := [d1, d2, d3, d4, d5] }
  | _ => none }
def blankGrowsRow : OpenClaim := { program := "ytnpebfchojalcaa", sum := "ba1e1d56df30cd540cdc18e62e840fa7e8b0fa86e415bd03cc7735757576aaa5", func := "tinplate/tinplatelaw04.BlankGrows", spec := "blankGrows", unfollowed := true, recurses := true, plainKeys := false, apart := false }
def BlankGrowsSaid : Prop := blankGrowsRow.holds Try.pinned (OpenSpec.ofChange blankGrowsSpec)

/-- ITS FALSE NEIGHBOUR: 'it returns false'. Refute it at one input. -/
def blankGrowsWrong : ChangeSpec := { name := "blankGrows", fn := fun _ => fun
  | [d1, d2, d3, d4, d5] => { results := [.lit (.bool false)], args := [d1, d2, d3, d4, d5] }
  | _ => none }
def BlankGrowsWrongFalsely : Prop := blankGrowsRow.holds Try.pinned (OpenSpec.ofChange blankGrowsWrong)

/- THE SECOND FORM. 'bulk': how many values and letters a reading holds, each counted each time it is reached (what is shared counts as often as it is met; a slice's spare places count too). A statement '..UptoSaid' is the law's where the arguments, and the package variables that the reading takes, are together of bulk at most 1048576: NARROWER than '..Said'. Prove '..Said' where nothing that the law and all that it calls make is longer than what came in: it says more and counts as full. Else prove '..UptoSaid'. A law counts once. -/
mutual
def uptoBulk {H : Type} : DataW H → Nat
  | .lit (.string bytes) => bytes.length + 1
  | .lit _ => 1
  | .nil => 1
  | .ptr d => uptoBulk d + 1
  | .slice elems spare => uptoBulkAll elems + uptoBulkAll spare + 1
  | .agg parts => uptoBulkAll parts + 1
  | .iface _ d => uptoBulk d + 1
  | .map entries => uptoBulkEntries entries + 1
  | .held _ => 1
def uptoBulkAll {H : Type} : List (DataW H) → Nat
  | [] => 0
  | d :: r => uptoBulk d + uptoBulkAll r
def uptoBulkEntries {H : Type} : List (Lit × DataW H) → Nat
  | [] => 0
  | x :: r => uptoBulkEntry x + uptoBulkEntries r
def uptoBulkEntry {H : Type} : Lit × DataW H → Nat
  | (.string bytes, d) => bytes.length + uptoBulk d + 1
  | (_, d) => uptoBulk d + 1
 end
def uptoSmall : (H : Type) → List (DataW H) → Bool := fun _ ds => decide (uptoBulkAll ds ≤ 1048576)
def OpenSpec.upto (s : _root_.Go.ChangeSpec) : _root_.Go.OpenSpec := { _root_.Go.OpenSpec.ofChange s with cond := some uptoSmall }

/-- 'tinplatelaw04.BlankGrids', WHERE WHAT IT READS IS OF BULK AT MOST 1048576: true; the input reads as it did. -/
def blankGridsUptoRow : OpenClaim := { program := "ytnpebfchojalcaa", sum := "ba1e1d56df30cd540cdc18e62e840fa7e8b0fa86e415bd03cc7735757576aaa5", func := "tinplate/tinplatelaw04.BlankGrids", spec := "blankGrids", unfollowed := true, recurses := true, plainKeys := false, apart := false, narrowed := true }
def BlankGridsUptoSaid : Prop := blankGridsUptoRow.holds Try.pinned (OpenSpec.upto blankGridsSpec)

/-- 'tinplatelaw04.BlankDensest', WHERE WHAT IT READS IS OF BULK AT MOST 1048576: true; the input reads as it did. -/
def blankDensestUptoRow : OpenClaim := { program := "ytnpebfchojalcaa", sum := "ba1e1d56df30cd540cdc18e62e840fa7e8b0fa86e415bd03cc7735757576aaa5", func := "tinplate/tinplatelaw04.BlankDensest", spec := "blankDensest", unfollowed := true, recurses := true, plainKeys := false, apart := false, narrowed := true }
def BlankDensestUptoSaid : Prop := blankDensestUptoRow.holds Try.pinned (OpenSpec.upto blankDensestSpec)

/-- 'tinplatelaw04.BlankLays', WHERE WHAT IT READS IS OF BULK AT MOST 1048576: true; the input reads as it did. -/
def blankLaysUptoRow : OpenClaim := { program := "ytnpebfchojalcaa", sum := "ba1e1d56df30cd540cdc18e62e840fa7e8b0fa86e415bd03cc7735757576aaa5", func := "tinplate/tinplatelaw04.BlankLays", spec := "blankLays", unfollowed := true, recurses := true, plainKeys := false, apart := false, narrowed := true }
def BlankLaysUptoSaid : Prop := blankLaysUptoRow.holds Try.pinned (OpenSpec.upto blankLaysSpec)

/-- 'tinplatelaw04.BlankReads', WHERE WHAT IT READS IS OF BULK AT MOST 1048576: true; the input reads as it did. -/
def blankReadsUptoRow : OpenClaim := { program := "ytnpebfchojalcaa", sum := "ba1e1d56df30cd540cdc18e62e840fa7e8b0fa86e415bd03cc7735757576aaa5", func := "tinplate/tinplatelaw04.BlankReads", spec := "blankReads", unfollowed := true, recurses := true, plainKeys := false, apart := false, narrowed := true }
def BlankReadsUptoSaid : Prop := blankReadsUptoRow.holds Try.pinned (OpenSpec.upto blankReadsSpec)

/-- 'tinplatelaw04.BlankCuts', WHERE WHAT IT READS IS OF BULK AT MOST 1048576: true; the input reads as it did. -/
def blankCutsUptoRow : OpenClaim := { program := "ytnpebfchojalcaa", sum := "ba1e1d56df30cd540cdc18e62e840fa7e8b0fa86e415bd03cc7735757576aaa5", func := "tinplate/tinplatelaw04.BlankCuts", spec := "blankCuts", unfollowed := true, recurses := true, plainKeys := false, apart := false, narrowed := true }
def BlankCutsUptoSaid : Prop := blankCutsUptoRow.holds Try.pinned (OpenSpec.upto blankCutsSpec)

/-- 'tinplatelaw04.BlankArea', WHERE WHAT IT READS IS OF BULK AT MOST 1048576: true; the input reads as it did. -/
def blankAreaUptoRow : OpenClaim := { program := "ytnpebfchojalcaa", sum := "ba1e1d56df30cd540cdc18e62e840fa7e8b0fa86e415bd03cc7735757576aaa5", func := "tinplate/tinplatelaw04.BlankArea", spec := "blankArea", unfollowed := true, recurses := true, plainKeys := false, apart := false, narrowed := true }
def BlankAreaUptoSaid : Prop := blankAreaUptoRow.holds Try.pinned (OpenSpec.upto blankAreaSpec)

/-- 'tinplatelaw04.BlankWitness', WHERE WHAT IT READS IS OF BULK AT MOST 1048576: true; the input reads as it did. -/
def blankWitnessUptoRow : OpenClaim := { program := "ytnpebfchojalcaa", sum := "ba1e1d56df30cd540cdc18e62e840fa7e8b0fa86e415bd03cc7735757576aaa5", func := "tinplate/tinplatelaw04.BlankWitness", spec := "blankWitness", unfollowed := true, recurses := true, plainKeys := false, apart := false, narrowed := true }
def BlankWitnessUptoSaid : Prop := blankWitnessUptoRow.holds Try.pinned (OpenSpec.upto blankWitnessSpec)

/-- 'tinplatelaw04.BlankFirst', WHERE WHAT IT READS IS OF BULK AT MOST 1048576: true; the input reads as it did. -/
def blankFirstUptoRow : OpenClaim := { program := "ytnpebfchojalcaa", sum := "ba1e1d56df30cd540cdc18e62e840fa7e8b0fa86e415bd03cc7735757576aaa5", func := "tinplate/tinplatelaw04.BlankFirst", spec := "blankFirst", unfollowed := true, recurses := true, plainKeys := false, apart := false, narrowed := true }
def BlankFirstUptoSaid : Prop := blankFirstUptoRow.holds Try.pinned (OpenSpec.upto blankFirstSpec)

/-- 'tinplatelaw04.BlankLayout', WHERE WHAT IT READS IS OF BULK AT MOST 1048576: true; the input reads as it did. -/
def blankLayoutUptoRow : OpenClaim := { program := "ytnpebfchojalcaa", sum := "ba1e1d56df30cd540cdc18e62e840fa7e8b0fa86e415bd03cc7735757576aaa5", func := "tinplate/tinplatelaw04.BlankLayout", spec := "blankLayout", unfollowed := true, recurses := true, plainKeys := false, apart := false, narrowed := true }
def BlankLayoutUptoSaid : Prop := blankLayoutUptoRow.holds Try.pinned (OpenSpec.upto blankLayoutSpec)

/-- 'tinplatelaw04.BlankPlan', WHERE WHAT IT READS IS OF BULK AT MOST 1048576: true; the input reads as it did. -/
def blankPlanUptoRow : OpenClaim := { program := "ytnpebfchojalcaa", sum := "ba1e1d56df30cd540cdc18e62e840fa7e8b0fa86e415bd03cc7735757576aaa5", func := "tinplate/tinplatelaw04.BlankPlan", spec := "blankPlan", unfollowed := true, recurses := true, plainKeys := false, apart := false, narrowed := true }
def BlankPlanUptoSaid : Prop := blankPlanUptoRow.holds Try.pinned (OpenSpec.upto blankPlanSpec)

/-- 'tinplatelaw04.BlankGrows', WHERE WHAT IT READS IS OF BULK AT MOST 1048576: true; the input reads as it did. -/
def blankGrowsUptoRow : OpenClaim := { program := "ytnpebfchojalcaa", sum := "ba1e1d56df30cd540cdc18e62e840fa7e8b0fa86e415bd03cc7735757576aaa5", func := "tinplate/tinplatelaw04.BlankGrows", spec := "blankGrows", unfollowed := true, recurses := true, plainKeys := false, apart := false, narrowed := true }
def BlankGrowsUptoSaid : Prop := blankGrowsUptoRow.holds Try.pinned (OpenSpec.upto blankGrowsSpec)

end Rows
end Go.Proofs.Ytnpebfchojalcaa
