/-
  No cell of these rows narrows 'for every input' (looked for: loops, veiled, ifaces, maps, wideKeys, modest, calm, conditions, laid).
  DERIVED. THE GIVEN ROWS OF THIS SEAT. 4 by the template 'for every input the law returns true; each argument reads behind the call as it read before'; 0 by the template 'total and deterministic' (their statements: YtbifmcadllilhaaGreatTotals.lean).
  GIVEN WITH THE SEED: the statements are not yours to turn. If you find one false, say at which input.
  Laid BY PROGRAM, IN A SANDBOX (cutbox-rows.mjs): the forced cells as the released guide's own fill.sh prints them over the translation 04ae4fd570b769b4… (all of the seat's roots in one cut). By AI agents, Wed Nov 11 2026. No macro, syntax, notation, axiom, sorry.
-/
import Derived.Test.YtbifmcadllilhaaGreatChecked
import GoSem.Claim
import GoSem.ClaimJoined
import GoSem.ClaimMapViews
import Derived.JoinedTies
import Derived.KernelRfl
namespace Go.Proofs.YtbifmcadllilhaaGreat
/- THE CELL 'sum', in the pinned program and in every row, IS THE sha256 OF THE DUMP (.gsa) THAT YtbifmcadllilhaaGreatProg.lean LOADS. Nothing in Lean hashes anything: it is a label: what it is worth is what the hold of that sum in a sandbox is worth. -/
noncomputable def Tryz.pinned : Pinned := { name := "ytbifmcadllilhaagreat", sum := "04ae4fd570b769b414b553c510571ace8dce890c84263243d6dca31d0d0c37d6", checked := Tryz.checked }
namespace Rows
def none {H : Type} : Left H := { results := [], args := [] }

/-- 'shardlaw15.PlanSteps': WHATEVER THE INPUT: true; the input reads as it did. -/
def planStepsSpec : ChangeSpec := { name := "planSteps", fn := fun _ => fun
  | [d1, d2, d3, d4, d5] => { results := [.lit (.bool true)], args := [d1, d2, d3, d4, d5] }
  | _ => none }
def planStepsRow : OpenClaim := { program := "ytbifmcadllilhaagreat", sum := "04ae4fd570b769b414b553c510571ace8dce890c84263243d6dca31d0d0c37d6", func := "shard/shardlaw15.PlanSteps", spec := "planSteps", unfollowed := true, recurses := true, apart := false }
def PlanStepsSaid : Prop := planStepsRow.holds Tryz.pinned (OpenSpec.ofChange planStepsSpec)

/-- ITS FALSE NEIGHBOUR: 'it returns false'. Refute it at one input. -/
def planStepsWrong : ChangeSpec := { name := "planSteps", fn := fun _ => fun
  | [d1, d2, d3, d4, d5] => { results := [.lit (.bool false)], args := [d1, d2, d3, d4, d5] }
  | _ => none }
def PlanStepsWrongFalsely : Prop := planStepsRow.holds Tryz.pinned (OpenSpec.ofChange planStepsWrong)

/-- 'shardlaw15.PlanStill': WHATEVER THE INPUT: true; the input reads as it did. -/
def planStillSpec : ChangeSpec := { name := "planStill", fn := fun _ => fun
  | [d1, d2, d3, d4] => { results := [.lit (.bool true)], args := [d1, d2, d3, d4] }
  | _ => none }
def planStillRow : OpenClaim := { program := "ytbifmcadllilhaagreat", sum := "04ae4fd570b769b414b553c510571ace8dce890c84263243d6dca31d0d0c37d6", func := "shard/shardlaw15.PlanStill", spec := "planStill", unfollowed := true, recurses := true, apart := false }
def PlanStillSaid : Prop := planStillRow.holds Tryz.pinned (OpenSpec.ofChange planStillSpec)

/-- ITS FALSE NEIGHBOUR: 'it returns false'. Refute it at one input. -/
def planStillWrong : ChangeSpec := { name := "planStill", fn := fun _ => fun
  | [d1, d2, d3, d4] => { results := [.lit (.bool false)], args := [d1, d2, d3, d4] }
  | _ => none }
def PlanStillWrongFalsely : Prop := planStillRow.holds Tryz.pinned (OpenSpec.ofChange planStillWrong)

/-- 'shardlaw15.PlanEvens': WHATEVER THE INPUT: true; the input reads as it did. -/
def planEvensSpec : ChangeSpec := { name := "planEvens", fn := fun _ => fun
  | [d1, d2, d3, d4] => { results := [.lit (.bool true)], args := [d1, d2, d3, d4] }
  | _ => none }
def planEvensRow : OpenClaim := { program := "ytbifmcadllilhaagreat", sum := "04ae4fd570b769b414b553c510571ace8dce890c84263243d6dca31d0d0c37d6", func := "shard/shardlaw15.PlanEvens", spec := "planEvens", unfollowed := true, recurses := true, apart := false }
def PlanEvensSaid : Prop := planEvensRow.holds Tryz.pinned (OpenSpec.ofChange planEvensSpec)

/-- ITS FALSE NEIGHBOUR: 'it returns false'. Refute it at one input. -/
def planEvensWrong : ChangeSpec := { name := "planEvens", fn := fun _ => fun
  | [d1, d2, d3, d4] => { results := [.lit (.bool false)], args := [d1, d2, d3, d4] }
  | _ => none }
def PlanEvensWrongFalsely : Prop := planEvensRow.holds Tryz.pinned (OpenSpec.ofChange planEvensWrong)

/-- 'shardlaw15.PlanOwn': WHATEVER THE INPUT: true; the input reads as it did. -/
def planOwnSpec : ChangeSpec := { name := "planOwn", fn := fun _ => fun
  | [d1, d2, d3, d4] => { results := [.lit (.bool true)], args := [d1, d2, d3, d4] }
  | _ => none }
def planOwnRow : OpenClaim := { program := "ytbifmcadllilhaagreat", sum := "04ae4fd570b769b414b553c510571ace8dce890c84263243d6dca31d0d0c37d6", func := "shard/shardlaw15.PlanOwn", spec := "planOwn", unfollowed := true, recurses := true, apart := false }
def PlanOwnSaid : Prop := planOwnRow.holds Tryz.pinned (OpenSpec.ofChange planOwnSpec)

/-- ITS FALSE NEIGHBOUR: 'it returns false'. Refute it at one input. -/
def planOwnWrong : ChangeSpec := { name := "planOwn", fn := fun _ => fun
  | [d1, d2, d3, d4] => { results := [.lit (.bool false)], args := [d1, d2, d3, d4] }
  | _ => none }
def PlanOwnWrongFalsely : Prop := planOwnRow.holds Tryz.pinned (OpenSpec.ofChange planOwnWrong)

/- THE SECOND FORM. 'bulk': how many values and letters a reading holds, each counted each time it is reached (what is shared counts as often as it is met; a slice's spare places count too). A statement '..UptoSaid' is the law's where the arguments, and the package variables that the reading takes, are together of bulk at most 1048576: NARROWER than '..Said'. Prove '..Said' where nothing that the law and all that it calls make is longer than what came in: it says more and counts as full. Else prove '..UptoSaid'. A law counts once. -/
mutual
def uptoBulk {H : Type} : DataW H → Nat
  | .lit (.string bytes) => bytes.length + 1
  | .lit _ => 1
  | .nil => 1
  | .ptr d => uptoBulk d + 1
  | .slice elems spare => uptoBulkAll elems + uptoBulkAll spare + 1
  | .agg parts => uptoBulkAll parts + 1
  | .iface _ d => uptoBulk d + 1
  | .map entries => uptoBulkEntries entries + 1
  | .held _ => 1
def uptoBulkAll {H : Type} : List (DataW H) → Nat
  | [] => 0
  | d :: r => uptoBulk d + uptoBulkAll r
def uptoBulkEntries {H : Type} : List (Lit × DataW H) → Nat
  | [] => 0
  | x :: r => uptoBulkEntry x + uptoBulkEntries r
def uptoBulkEntry {H : Type} : Lit × DataW H → Nat
  | (.string bytes, d) => bytes.length + uptoBulk d + 1
  | (_, d) => uptoBulk d + 1
 end
def uptoSmall : (H : Type) → List (DataW H) → Bool := fun _ ds => decide (uptoBulkAll ds ≤ 1048576)
def OpenSpec.upto (s : _root_.Go.ChangeSpec) : _root_.Go.OpenSpec := { _root_.Go.OpenSpec.ofChange s with cond := some uptoSmall }

/-- 'shardlaw15.PlanSteps', WHERE WHAT IT READS IS OF BULK AT MOST 1048576: true; the input reads as it did. -/
def planStepsUptoRow : OpenClaim := { program := "ytbifmcadllilhaagreat", sum := "04ae4fd570b769b414b553c510571ace8dce890c84263243d6dca31d0d0c37d6", func := "shard/shardlaw15.PlanSteps", spec := "planSteps", unfollowed := true, recurses := true, apart := false, narrowed := true }
def PlanStepsUptoSaid : Prop := planStepsUptoRow.holds Tryz.pinned (OpenSpec.upto planStepsSpec)

/-- 'shardlaw15.PlanStill', WHERE WHAT IT READS IS OF BULK AT MOST 1048576: true; the input reads as it did. -/
def planStillUptoRow : OpenClaim := { program := "ytbifmcadllilhaagreat", sum := "04ae4fd570b769b414b553c510571ace8dce890c84263243d6dca31d0d0c37d6", func := "shard/shardlaw15.PlanStill", spec := "planStill", unfollowed := true, recurses := true, apart := false, narrowed := true }
def PlanStillUptoSaid : Prop := planStillUptoRow.holds Tryz.pinned (OpenSpec.upto planStillSpec)

/-- 'shardlaw15.PlanEvens', WHERE WHAT IT READS IS OF BULK AT MOST 1048576: true; the input reads as it did. -/
def planEvensUptoRow : OpenClaim := { program := "ytbifmcadllilhaagreat", sum := "04ae4fd570b769b414b553c510571ace8dce890c84263243d6dca31d0d0c37d6", func := "shard/shardlaw15.PlanEvens", spec := "planEvens", unfollowed := true, recurses := true, apart := false, narrowed := true }
def PlanEvensUptoSaid : Prop := planEvensUptoRow.holds Tryz.pinned (OpenSpec.upto planEvensSpec)

/-- 'shardlaw15.PlanOwn', WHERE WHAT IT READS IS OF BULK AT MOST 1048576: true; the input reads as it did. -/
def planOwnUptoRow : OpenClaim := { program := "ytbifmcadllilhaagreat", sum := "04ae4fd570b769b414b553c510571ace8dce890c84263243d6dca31d0d0c37d6", func := "shard/shardlaw15.PlanOwn", spec := "planOwn", unfollowed := true, recurses := true, apart := false, narrowed := true }
def PlanOwnUptoSaid : Prop := planOwnUptoRow.holds Tryz.pinned (OpenSpec.upto planOwnSpec)

end Rows
end Go.Proofs.YtbifmcadllilhaaGreat
