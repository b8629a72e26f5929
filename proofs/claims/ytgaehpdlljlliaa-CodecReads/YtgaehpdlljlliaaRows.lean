/-
  No cell of these rows narrows 'for every input' (looked for: loops, veiled, ifaces, maps, wideKeys, modest, calm, conditions, laid).
  DERIVED. THE GIVEN ROWS OF THIS SEAT. 5 by the template 'for every input the law returns true; each argument reads behind the call as it read before'; 0 by the template 'total and deterministic' (their statements: YtgaehpdlljlliaaTotals.lean).
  GIVEN WITH THE SEED: the statements are not yours to turn. If you find one false, say at which input.
  Laid BY PROGRAM, IN A SANDBOX (cutbox-rows.mjs): the forced cells as the released guide's own fill.sh prints them over the translation e6f32e83801edd52… (all of the seat's roots in one cut). By AI agents, Wed Nov 11 2026. No macro, syntax, notation, axiom, sorry.
-/
import Derived.Test.YtgaehpdlljlliaaChecked
import GoSem.Claim
import GoSem.ClaimJoined
import GoSem.ClaimMapViews
import Derived.JoinedTies
import Derived.KernelRfl
namespace Go.Proofs.Ytgaehpdlljlliaa
/- THE CELL 'sum', in the pinned program and in every row, IS THE sha256 OF THE DUMP (.gsa) THAT YtgaehpdlljlliaaProg.lean LOADS. Nothing in Lean hashes anything: it is a label: what it is worth is what the hold of that sum in a sandbox is worth. -/
noncomputable def Try.pinned : Pinned := { name := "ytgaehpdlljlliaa", sum := "e6f32e83801edd52ebc55d5d8edbe482db870f28840360a6396a519afcaac58d", checked := Try.checked }
namespace Rows
def none {H : Type} : Left H := { results := [], args := [] }

/-- 'shardlaw2.CodecZeros': WHATEVER THE INPUT: true; the input reads as it did. -/
def codecZerosSpec : ChangeSpec := { name := "codecZeros", fn := fun _ => fun
  | [d1, d2, d3, d4] => { results := [.lit (.bool true)], args := [d1, d2, d3, d4] }
  | _ => none }
def codecZerosRow : OpenClaim := { program := "ytgaehpdlljlliaa", sum := "e6f32e83801edd52ebc55d5d8edbe482db870f28840360a6396a519afcaac58d", func := "shard/shardlaw2.CodecZeros", spec := "codecZeros", apart := false }
def CodecZerosSaid : Prop := codecZerosRow.holds Try.pinned (OpenSpec.ofChange codecZerosSpec)

/-- ITS FALSE NEIGHBOUR: 'it returns false'. Refute it at one input. -/
def codecZerosWrong : ChangeSpec := { name := "codecZeros", fn := fun _ => fun
  | [d1, d2, d3, d4] => { results := [.lit (.bool false)], args := [d1, d2, d3, d4] }
  | _ => none }
def CodecZerosWrongFalsely : Prop := codecZerosRow.holds Try.pinned (OpenSpec.ofChange codecZerosWrong)

/-- 'shardlaw2.CodecWrites': WHATEVER THE INPUT: true; the input reads as it did. -/
def codecWritesSpec : ChangeSpec := { name := "codecWrites", fn := fun _ => fun
  | [d1, d2] => { results := [.lit (.bool true)], args := [d1, d2] }
  | _ => none }
def codecWritesRow : OpenClaim := { program := "ytgaehpdlljlliaa", sum := "e6f32e83801edd52ebc55d5d8edbe482db870f28840360a6396a519afcaac58d", func := "shard/shardlaw2.CodecWrites", spec := "codecWrites", apart := false }
def CodecWritesSaid : Prop := codecWritesRow.holds Try.pinned (OpenSpec.ofChange codecWritesSpec)

/-- ITS FALSE NEIGHBOUR: 'it returns false'. Refute it at one input. -/
def codecWritesWrong : ChangeSpec := { name := "codecWrites", fn := fun _ => fun
  | [d1, d2] => { results := [.lit (.bool false)], args := [d1, d2] }
  | _ => none }
def CodecWritesWrongFalsely : Prop := codecWritesRow.holds Try.pinned (OpenSpec.ofChange codecWritesWrong)

/-- 'shardlaw2.CodecReads': WHATEVER THE INPUT: true; the input reads as it did. -/
def codecReadsSpec : ChangeSpec := { name := "codecReads", fn := fun _ => fun
  | [d1, d2, d3] => { results := [.lit (.bool true)], args := [d1, d2, d3] }
  | _ => none }
def codecReadsRow : OpenClaim := { program := "ytgaehpdlljlliaa", sum := "e6f32e83801edd52ebc55d5d8edbe482db870f28840360a6396a519afcaac58d", func := "shard/shardlaw2.CodecReads", spec := "codecReads", apart := false }
def CodecReadsSaid : Prop := codecReadsRow.holds Try.pinned (OpenSpec.ofChange codecReadsSpec)

/-- ITS FALSE NEIGHBOUR: 'it returns false'. Refute it at one input. -/
def codecReadsWrong : ChangeSpec := { name := "codecReads", fn := fun _ => fun
  | [d1, d2, d3] => { results := [.lit (.bool false)], args := [d1, d2, d3] }
  | _ => none }
def CodecReadsWrongFalsely : Prop := codecReadsRow.holds Try.pinned (OpenSpec.ofChange codecReadsWrong)

/-- 'shardlaw2.CodecCanon': WHATEVER THE INPUT: true; the input reads as it did. -/
def codecCanonSpec : ChangeSpec := { name := "codecCanon", fn := fun _ => fun
  | [d1, d2] => { results := [.lit (.bool true)], args := [d1, d2] }
  | _ => none }
def codecCanonRow : OpenClaim := { program := "ytgaehpdlljlliaa", sum := "e6f32e83801edd52ebc55d5d8edbe482db870f28840360a6396a519afcaac58d", func := "shard/shardlaw2.CodecCanon", spec := "codecCanon", apart := false }
def CodecCanonSaid : Prop := codecCanonRow.holds Try.pinned (OpenSpec.ofChange codecCanonSpec)

/-- ITS FALSE NEIGHBOUR: 'it returns false'. Refute it at one input. -/
def codecCanonWrong : ChangeSpec := { name := "codecCanon", fn := fun _ => fun
  | [d1, d2] => { results := [.lit (.bool false)], args := [d1, d2] }
  | _ => none }
def CodecCanonWrongFalsely : Prop := codecCanonRow.holds Try.pinned (OpenSpec.ofChange codecCanonWrong)

/-- 'shardlaw2.CodecRound': WHATEVER THE INPUT: true; the input reads as it did. -/
def codecRoundSpec : ChangeSpec := { name := "codecRound", fn := fun _ => fun
  | [d] => { results := [.lit (.bool true)], args := [d] }
  | _ => none }
def codecRoundRow : OpenClaim := { program := "ytgaehpdlljlliaa", sum := "e6f32e83801edd52ebc55d5d8edbe482db870f28840360a6396a519afcaac58d", func := "shard/shardlaw2.CodecRound", spec := "codecRound", apart := false }
def CodecRoundSaid : Prop := codecRoundRow.holds Try.pinned (OpenSpec.ofChange codecRoundSpec)

/-- ITS FALSE NEIGHBOUR: 'it returns false'. Refute it at one input. -/
def codecRoundWrong : ChangeSpec := { name := "codecRound", fn := fun _ => fun
  | [d] => { results := [.lit (.bool false)], args := [d] }
  | _ => none }
def CodecRoundWrongFalsely : Prop := codecRoundRow.holds Try.pinned (OpenSpec.ofChange codecRoundWrong)

/- THE SECOND FORM. 'bulk': how many values and letters a reading holds, each counted each time it is reached (what is shared counts as often as it is met; a slice's spare places count too). A statement '..UptoSaid' is the law's where the arguments, and the package variables that the reading takes, are together of bulk at most 1048576: NARROWER than '..Said'. Prove '..Said' where nothing that the law and all that it calls make is longer than what came in: it says more and counts as full. Else prove '..UptoSaid'. A law counts once. -/
mutual
def uptoBulk {H : Type} : DataW H → Nat
  | .lit (.string bytes) => bytes.length + 1
  | .lit _ => 1
  | .nil => 1
  | .ptr d => uptoBulk d + 1
  | .slice elems spare => uptoBulkAll elems + uptoBulkAll spare + 1
  | .agg parts => uptoBulkAll parts + 1
  | .iface _ d => uptoBulk d + 1
  | .map entries => uptoBulkEntries entries + 1
  | .held _ => 1
def uptoBulkAll {H : Type} : List (DataW H) → Nat
  | [] => 0
  | d :: r => uptoBulk d + uptoBulkAll r
def uptoBulkEntries {H : Type} : List (Lit × DataW H) → Nat
  | [] => 0
  | x :: r => uptoBulkEntry x + uptoBulkEntries r
def uptoBulkEntry {H : Type} : Lit × DataW H → Nat
  | (.string bytes, d) => bytes.length + uptoBulk d + 1
  | (_, d) => uptoBulk d + 1
 end
def uptoSmall : (H : Type) → List (DataW H) → Bool := fun _ ds => decide (uptoBulkAll ds ≤ 1048576)
def OpenSpec.upto (s : _root_.Go.ChangeSpec) : _root_.Go.OpenSpec := { _root_.Go.OpenSpec.ofChange s with cond := some uptoSmall }

/-- 'shardlaw2.CodecZeros', WHERE WHAT IT READS IS OF BULK AT MOST 1048576: true; the input reads as it did. -/
def codecZerosUptoRow : OpenClaim := { program := "ytgaehpdlljlliaa", sum := "e6f32e83801edd52ebc55d5d8edbe482db870f28840360a6396a519afcaac58d", func := "shard/shardlaw2.CodecZeros", spec := "codecZeros", apart := false, narrowed := true }
def CodecZerosUptoSaid : Prop := codecZerosUptoRow.holds Try.pinned (OpenSpec.upto codecZerosSpec)

/-- 'shardlaw2.CodecWrites', WHERE WHAT IT READS IS OF BULK AT MOST 1048576: true; the input reads as it did. -/
def codecWritesUptoRow : OpenClaim := { program := "ytgaehpdlljlliaa", sum := "e6f32e83801edd52ebc55d5d8edbe482db870f28840360a6396a519afcaac58d", func := "shard/shardlaw2.CodecWrites", spec := "codecWrites", apart := false, narrowed := true }
def CodecWritesUptoSaid : Prop := codecWritesUptoRow.holds Try.pinned (OpenSpec.upto codecWritesSpec)

/-- 'shardlaw2.CodecReads', WHERE WHAT IT READS IS OF BULK AT MOST 1048576: true; the input reads as it did. -/
def codecReadsUptoRow : OpenClaim := { program := "ytgaehpdlljlliaa", sum := "e6f32e83801edd52ebc55d5d8edbe482db870f28840360a6396a519afcaac58d", func := "shard/shardlaw2.CodecReads", spec := "codecReads", apart := false, narrowed := true }
def CodecReadsUptoSaid : Prop := codecReadsUptoRow.holds Try.pinned (OpenSpec.upto codecReadsSpec)

/-- 'shardlaw2.CodecCanon', WHERE WHAT IT READS IS OF BULK AT MOST 1048576: true; the input reads as it did. -/
def codecCanonUptoRow : OpenClaim := { program := "ytgaehpdlljlliaa", sum := "e6f32e83801edd52ebc55d5d8edbe482db870f28840360a6396a519afcaac58d", func := "shard/shardlaw2.CodecCanon", spec := "codecCanon", apart := false, narrowed := true }
def CodecCanonUptoSaid : Prop := codecCanonUptoRow.holds Try.pinned (OpenSpec.upto codecCanonSpec)

/-- 'shardlaw2.CodecRound', WHERE WHAT IT READS IS OF BULK AT MOST 1048576: true; the input reads as it did. -/
def codecRoundUptoRow : OpenClaim := { program := "ytgaehpdlljlliaa", sum := "e6f32e83801edd52ebc55d5d8edbe482db870f28840360a6396a519afcaac58d", func := "shard/shardlaw2.CodecRound", spec := "codecRound", apart := false, narrowed := true }
def CodecRoundUptoSaid : Prop := codecRoundUptoRow.holds Try.pinned (OpenSpec.upto codecRoundSpec)

end Rows
end Go.Proofs.Ytgaehpdlljlliaa
