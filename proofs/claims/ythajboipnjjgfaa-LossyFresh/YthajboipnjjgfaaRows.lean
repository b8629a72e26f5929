/-
  No cell of these rows narrows 'for every input' (looked for: loops, veiled, ifaces, maps, wideKeys, modest, calm, conditions, laid).
  DERIVED. THE GIVEN ROWS OF THIS SEAT. 12 by the template 'for every input the law returns true; each argument reads behind the call as it read before'; 0 by the template 'total and deterministic' (their statements: YthajboipnjjgfaaTotals.lean).
  GIVEN WITH THE SEED: the statements are not yours to turn. If you find one false, say at which input.
  Laid BY PROGRAM, IN A SANDBOX (cutbox-rows.mjs): the forced cells as the released guide's own fill.sh prints them over the translation 380f0850391cfef5… (all of the seat's roots in one cut). By AI agents, Wed Nov 11 2026. No macro, syntax, notation, axiom, sorry.
-/
import Derived.Test.YthajboipnjjgfaaChecked
import GoSem.Claim
import GoSem.ClaimJoined
import GoSem.ClaimMapViews
import Derived.JoinedTies
import Derived.KernelRfl
namespace Go.Proofs.Ythajboipnjjgfaa
/- THE CELL 'sum', in the pinned program and in every row, IS THE sha256 OF THE DUMP (.gsa) THAT YthajboipnjjgfaaProg.lean LOADS. Nothing in Lean hashes anything: it is a label: what it is worth is what the hold of that sum in a sandbox is worth. -/
noncomputable def Try.pinned : Pinned := { name := "ythajboipnjjgfaa", sum := "380f0850391cfef56d0fd5aa144c52af317047bdb659c5bd6d82f39359830595", checked := Try.checked }
namespace Rows
def none {H : Type} : Left H := { results := [], args := [] }

/-- 'shardlaw5.LossyPicks': WHATEVER THE INPUT: true; the input reads as it did. -/
def lossyPicksSpec : ChangeSpec := { name := "lossyPicks", fn := fun _ => fun
  | [d1, d2] => { results := [.lit (.bool true)], args := [d1, d2] }
  | _ => none }
def lossyPicksRow : OpenClaim := { program := "ythajboipnjjgfaa", sum := "380f0850391cfef56d0fd5aa144c52af317047bdb659c5bd6d82f39359830595", func := "shard/shardlaw5.LossyPicks", spec := "lossyPicks", unfollowed := true, recurses := true, plainKeys := false, apart := false }
def LossyPicksSaid : Prop := lossyPicksRow.holds Try.pinned (OpenSpec.ofChange lossyPicksSpec)

/-- ITS FALSE NEIGHBOUR: 'it returns false'. Refute it at one input. -/
def lossyPicksWrong : ChangeSpec := { name := "lossyPicks", fn := fun _ => fun
  | [d1, d2] => { results := [.lit (.bool false)], args := [d1, d2] }
  | _ => none }
def LossyPicksWrongFalsely : Prop := lossyPicksRow.holds Try.pinned (OpenSpec.ofChange lossyPicksWrong)

/-- 'shardlaw5.LossyFresh': WHATEVER THE INPUT: true; the input reads as it did. -/
def lossyFreshSpec : ChangeSpec := { name := "lossyFresh", fn := fun _ => fun
  | [d] => { results := [.lit (.bool true)], args := [d] }
  | _ => none }
def lossyFreshRow : OpenClaim := { program := "ythajboipnjjgfaa", sum := "380f0850391cfef56d0fd5aa144c52af317047bdb659c5bd6d82f39359830595", func := "shard/shardlaw5.LossyFresh", spec := "lossyFresh", unfollowed := true, recurses := true, plainKeys := false, apart := false }
def LossyFreshSaid : Prop := lossyFreshRow.holds Try.pinned (OpenSpec.ofChange lossyFreshSpec)

/-- ITS FALSE NEIGHBOUR: 'it returns false'. Refute it at one input. -/
def lossyFreshWrong : ChangeSpec := { name := "lossyFresh", fn := fun _ => fun
  | [d] => { results := [.lit (.bool false)], args := [d] }
  | _ => none }
def LossyFreshWrongFalsely : Prop := lossyFreshRow.holds Try.pinned (OpenSpec.ofChange lossyFreshWrong)

/-- 'shardlaw5.LossyCounts': WHATEVER THE INPUT: true; the input reads as it did. -/
def lossyCountsSpec : ChangeSpec := { name := "lossyCounts", fn := fun _ => fun
  | [d1, d2, d3] => { results := [.lit (.bool true)], args := [d1, d2, d3] }
  | _ => none }
def lossyCountsRow : OpenClaim := { program := "ythajboipnjjgfaa", sum := "380f0850391cfef56d0fd5aa144c52af317047bdb659c5bd6d82f39359830595", func := "shard/shardlaw5.LossyCounts", spec := "lossyCounts", unfollowed := true, recurses := true, plainKeys := false, apart := false }
def LossyCountsSaid : Prop := lossyCountsRow.holds Try.pinned (OpenSpec.ofChange lossyCountsSpec)

/-- ITS FALSE NEIGHBOUR: 'it returns false'. Refute it at one input. -/
def lossyCountsWrong : ChangeSpec := { name := "lossyCounts", fn := fun _ => fun
  | [d1, d2, d3] => { results := [.lit (.bool false)], args := [d1, d2, d3] }
  | _ => none }
def LossyCountsWrongFalsely : Prop := lossyCountsRow.holds Try.pinned (OpenSpec.ofChange lossyCountsWrong)

/-- 'shardlaw5.LossyTrust': WHATEVER THE INPUT: true; the input reads as it did. -/
def lossyTrustSpec : ChangeSpec := { name := "lossyTrust", fn := fun _ => fun
  | [d1, d2, d3, d4, d5] => { results := [.lit (.bool true)], args := [d1, d2, d3, d4, d5] }
  | _ => none }
def lossyTrustRow : OpenClaim := { program := "ythajboipnjjgfaa", sum := "380f0850391cfef56d0fd5aa144c52af317047bdb659c5bd6d82f39359830595", func := "shard/shardlaw5.LossyTrust", spec := "lossyTrust", unfollowed := true, recurses := true, plainKeys := false, apart := false }
def LossyTrustSaid : Prop := lossyTrustRow.holds Try.pinned (OpenSpec.ofChange lossyTrustSpec)

/-- ITS FALSE NEIGHBOUR: 'it returns false'. Refute it at one input. -/
def lossyTrustWrong : ChangeSpec := { name := "lossyTrust", fn := fun _ => fun
  | [d1, d2, d3, d4, d5] => { results := [.lit (.bool false)], args := [d1, d2, d3, d4, d5] }
  | _ => none }
def LossyTrustWrongFalsely : Prop := lossyTrustRow.holds Try.pinned (OpenSpec.ofChange lossyTrustWrong)

/-- 'shardlaw5.LossyBarred': WHATEVER THE INPUT: true; the input reads as it did. -/
def lossyBarredSpec : ChangeSpec := { name := "lossyBarred", fn := fun _ => fun
  | [d1, d2, d3] => { results := [.lit (.bool true)], args := [d1, d2, d3] }
  | _ => none }
def lossyBarredRow : OpenClaim := { program := "ythajboipnjjgfaa", sum := "380f0850391cfef56d0fd5aa144c52af317047bdb659c5bd6d82f39359830595", func := "shard/shardlaw5.LossyBarred", spec := "lossyBarred", unfollowed := true, recurses := true, plainKeys := false, apart := false }
def LossyBarredSaid : Prop := lossyBarredRow.holds Try.pinned (OpenSpec.ofChange lossyBarredSpec)

/-- ITS FALSE NEIGHBOUR: 'it returns false'. Refute it at one input. -/
def lossyBarredWrong : ChangeSpec := { name := "lossyBarred", fn := fun _ => fun
  | [d1, d2, d3] => { results := [.lit (.bool false)], args := [d1, d2, d3] }
  | _ => none }
def LossyBarredWrongFalsely : Prop := lossyBarredRow.holds Try.pinned (OpenSpec.ofChange lossyBarredWrong)

/-- 'shardlaw5.LossyBook': WHATEVER THE INPUT: true; the input reads as it did. -/
def lossyBookSpec : ChangeSpec := { name := "lossyBook", fn := fun _ => fun
  | [d1, d2] => { results := [.lit (.bool true)], args := [d1, d2] }
  | _ => none }
def lossyBookRow : OpenClaim := { program := "ythajboipnjjgfaa", sum := "380f0850391cfef56d0fd5aa144c52af317047bdb659c5bd6d82f39359830595", func := "shard/shardlaw5.LossyBook", spec := "lossyBook", unfollowed := true, recurses := true, plainKeys := false, apart := false }
def LossyBookSaid : Prop := lossyBookRow.holds Try.pinned (OpenSpec.ofChange lossyBookSpec)

/-- ITS FALSE NEIGHBOUR: 'it returns false'. Refute it at one input. -/
def lossyBookWrong : ChangeSpec := { name := "lossyBook", fn := fun _ => fun
  | [d1, d2] => { results := [.lit (.bool false)], args := [d1, d2] }
  | _ => none }
def LossyBookWrongFalsely : Prop := lossyBookRow.holds Try.pinned (OpenSpec.ofChange lossyBookWrong)

/-- 'shardlaw5.LossySends': WHATEVER THE INPUT: true; the input reads as it did. -/
def lossySendsSpec : ChangeSpec := { name := "lossySends", fn := fun _ => fun
  | [d1, d2] => { results := [.lit (.bool true)], args := [d1, d2] }
  | _ => none }
def lossySendsRow : OpenClaim := { program := "ythajboipnjjgfaa", sum := "380f0850391cfef56d0fd5aa144c52af317047bdb659c5bd6d82f39359830595", func := "shard/shardlaw5.LossySends", spec := "lossySends", unfollowed := true, recurses := true, plainKeys := false, apart := false }
def LossySendsSaid : Prop := lossySendsRow.holds Try.pinned (OpenSpec.ofChange lossySendsSpec)

/-- ITS FALSE NEIGHBOUR: 'it returns false'. Refute it at one input. -/
def lossySendsWrong : ChangeSpec := { name := "lossySends", fn := fun _ => fun
  | [d1, d2] => { results := [.lit (.bool false)], args := [d1, d2] }
  | _ => none }
def LossySendsWrongFalsely : Prop := lossySendsRow.holds Try.pinned (OpenSpec.ofChange lossySendsWrong)

/-- 'shardlaw5.LossyDelivers': WHATEVER THE INPUT: true; the input reads as it did. -/
def lossyDeliversSpec : ChangeSpec := { name := "lossyDelivers", fn := fun _ => fun
  | [d1, d2] => { results := [.lit (.bool true)], args := [d1, d2] }
  | _ => none }
def lossyDeliversRow : OpenClaim := { program := "ythajboipnjjgfaa", sum := "380f0850391cfef56d0fd5aa144c52af317047bdb659c5bd6d82f39359830595", func := "shard/shardlaw5.LossyDelivers", spec := "lossyDelivers", unfollowed := true, recurses := true, plainKeys := false, apart := false }
def LossyDeliversSaid : Prop := lossyDeliversRow.holds Try.pinned (OpenSpec.ofChange lossyDeliversSpec)

/-- ITS FALSE NEIGHBOUR: 'it returns false'. Refute it at one input. -/
def lossyDeliversWrong : ChangeSpec := { name := "lossyDelivers", fn := fun _ => fun
  | [d1, d2] => { results := [.lit (.bool false)], args := [d1, d2] }
  | _ => none }
def LossyDeliversWrongFalsely : Prop := lossyDeliversRow.holds Try.pinned (OpenSpec.ofChange lossyDeliversWrong)

/-- 'shardlaw5.LossyDrops': WHATEVER THE INPUT: true; the input reads as it did. -/
def lossyDropsSpec : ChangeSpec := { name := "lossyDrops", fn := fun _ => fun
  | [d1, d2] => { results := [.lit (.bool true)], args := [d1, d2] }
  | _ => none }
def lossyDropsRow : OpenClaim := { program := "ythajboipnjjgfaa", sum := "380f0850391cfef56d0fd5aa144c52af317047bdb659c5bd6d82f39359830595", func := "shard/shardlaw5.LossyDrops", spec := "lossyDrops", unfollowed := true, recurses := true, plainKeys := false, apart := false }
def LossyDropsSaid : Prop := lossyDropsRow.holds Try.pinned (OpenSpec.ofChange lossyDropsSpec)

/-- ITS FALSE NEIGHBOUR: 'it returns false'. Refute it at one input. -/
def lossyDropsWrong : ChangeSpec := { name := "lossyDrops", fn := fun _ => fun
  | [d1, d2] => { results := [.lit (.bool false)], args := [d1, d2] }
  | _ => none }
def LossyDropsWrongFalsely : Prop := lossyDropsRow.holds Try.pinned (OpenSpec.ofChange lossyDropsWrong)

/-- 'shardlaw5.LossyBlocks': WHATEVER THE INPUT: true; the input reads as it did. -/
def lossyBlocksSpec : ChangeSpec := { name := "lossyBlocks", fn := fun _ => fun
  | [d1, d2] => { results := [.lit (.bool true)], args := [d1, d2] }
  | _ => none }
def lossyBlocksRow : OpenClaim := { program := "ythajboipnjjgfaa", sum := "380f0850391cfef56d0fd5aa144c52af317047bdb659c5bd6d82f39359830595", func := "shard/shardlaw5.LossyBlocks", spec := "lossyBlocks", unfollowed := true, recurses := true, plainKeys := false, apart := false }
def LossyBlocksSaid : Prop := lossyBlocksRow.holds Try.pinned (OpenSpec.ofChange lossyBlocksSpec)

/-- ITS FALSE NEIGHBOUR: 'it returns false'. Refute it at one input. -/
def lossyBlocksWrong : ChangeSpec := { name := "lossyBlocks", fn := fun _ => fun
  | [d1, d2] => { results := [.lit (.bool false)], args := [d1, d2] }
  | _ => none }
def LossyBlocksWrongFalsely : Prop := lossyBlocksRow.holds Try.pinned (OpenSpec.ofChange lossyBlocksWrong)

/-- 'shardlaw5.LossyLists': WHATEVER THE INPUT: true; the input reads as it did. -/
def lossyListsSpec : ChangeSpec := { name := "lossyLists", fn := fun _ => fun
  | [d1, d2] => { results := [.lit (.bool true)], args := [d1, d2] }
  | _ => none }
def lossyListsRow : OpenClaim := { program := "ythajboipnjjgfaa", sum := "380f0850391cfef56d0fd5aa144c52af317047bdb659c5bd6d82f39359830595", func := "shard/shardlaw5.LossyLists", spec := "lossyLists", unfollowed := true, recurses := true, plainKeys := false, apart := false }
def LossyListsSaid : Prop := lossyListsRow.holds Try.pinned (OpenSpec.ofChange lossyListsSpec)

/-- ITS FALSE NEIGHBOUR: 'it returns false'. Refute it at one input. -/
def lossyListsWrong : ChangeSpec := { name := "lossyLists", fn := fun _ => fun
  | [d1, d2] => { results := [.lit (.bool false)], args := [d1, d2] }
  | _ => none }
def LossyListsWrongFalsely : Prop := lossyListsRow.holds Try.pinned (OpenSpec.ofChange lossyListsWrong)

/-- 'shardlaw5.LossyAll': WHATEVER THE INPUT: true; the input reads as it did. -/
def lossyAllSpec : ChangeSpec := { name := "lossyAll", fn := fun _ => fun
  | [d1, d2] => { results := [.lit (.bool true)], args := [d1, d2] }
  | _ => none }
def lossyAllRow : OpenClaim := { program := "ythajboipnjjgfaa", sum := "380f0850391cfef56d0fd5aa144c52af317047bdb659c5bd6d82f39359830595", func := "shard/shardlaw5.LossyAll", spec := "lossyAll", unfollowed := true, recurses := true, plainKeys := false, apart := false }
def LossyAllSaid : Prop := lossyAllRow.holds Try.pinned (OpenSpec.ofChange lossyAllSpec)

/-- ITS FALSE NEIGHBOUR: 'it returns false'. Refute it at one input. -/
def lossyAllWrong : ChangeSpec := { name := "lossyAll", fn := fun _ => fun
  | [d1, d2] => { results := [.lit (.bool false)], args := [d1, d2] }
  | _ => none }
def LossyAllWrongFalsely : Prop := lossyAllRow.holds Try.pinned (OpenSpec.ofChange lossyAllWrong)

/- THE SECOND FORM. 'bulk': how many values and letters a reading holds, each counted each time it is reached (what is shared counts as often as it is met; a slice's spare places count too). A statement '..UptoSaid' is the law's where the arguments, and the package variables that the reading takes, are together of bulk at most 1048576: NARROWER than '..Said'. Prove '..Said' where nothing that the law and all that it calls make is longer than what came in: it says more and counts as full. Else prove '..UptoSaid'. A law counts once. -/
mutual
def uptoBulk {H : Type} : DataW H → Nat
  | .lit (.string bytes) => bytes.length + 1
  | .lit _ => 1
  | .nil => 1
  | .ptr d => uptoBulk d + 1
  | .slice elems spare => uptoBulkAll elems + uptoBulkAll spare + 1
  | .agg parts => uptoBulkAll parts + 1
  | .iface _ d => uptoBulk d + 1
  | .map entries => uptoBulkEntries entries + 1
  | .held _ => 1
def uptoBulkAll {H : Type} : List (DataW H) → Nat
  | [] => 0
  | d :: r => uptoBulk d + uptoBulkAll r
def uptoBulkEntries {H : Type} : List (Lit × DataW H) → Nat
  | [] => 0
  | x :: r => uptoBulkEntry x + uptoBulkEntries r
def uptoBulkEntry {H : Type} : Lit × DataW H → Nat
  | (.string bytes, d) => bytes.length + uptoBulk d + 1
  | (_, d) => uptoBulk d + 1
 end
def uptoSmall : (H : Type) → List (DataW H) → Bool := fun _ ds => decide (uptoBulkAll ds ≤ 1048576)
def OpenSpec.upto (s : _root_.Go.ChangeSpec) : _root_.Go.OpenSpec := { _root_.Go.OpenSpec.ofChange s with cond := some uptoSmall }

/-- 'shardlaw5.LossyPicks', WHERE WHAT IT READS IS OF BULK AT MOST 1048576: true; the input reads as it did. -/
def lossyPicksUptoRow : OpenClaim := { program := "ythajboipnjjgfaa", sum := "380f0850391cfef56d0fd5aa144c52af317047bdb659c5bd6d82f39359830595", func := "shard/shardlaw5.LossyPicks", spec := "lossyPicks", unfollowed := true, recurses := true, plainKeys := false, apart := false, narrowed := true }
def LossyPicksUptoSaid : Prop := lossyPicksUptoRow.holds Try.pinned (OpenSpec.upto lossyPicksSpec)

/-- 'shardlaw5.LossyFresh', WHERE WHAT IT READS IS OF BULK AT MOST 1048576: true; the input reads as it did. -/
def lossyFreshUptoRow : OpenClaim := { program := "ythajboipnjjgfaa", sum := "380f0850391cfef56d0fd5aa144c52af317047bdb659c5bd6d82f39359830595", func := "shard/shardlaw5.LossyFresh", spec := "lossyFresh", unfollowed := true, recurses := true, plainKeys := false, apart := false, narrowed := true }
def LossyFreshUptoSaid : Prop := lossyFreshUptoRow.holds Try.pinned (OpenSpec.upto lossyFreshSpec)

/-- 'shardlaw5.LossyCounts', WHERE WHAT IT READS IS OF BULK AT MOST 1048576: true; the input reads as it did. -/
def lossyCountsUptoRow : OpenClaim := { program := "ythajboipnjjgfaa", sum := "380f0850391cfef56d0fd5aa144c52af317047bdb659c5bd6d82f39359830595", func := "shard/shardlaw5.LossyCounts", spec := "lossyCounts", unfollowed := true, recurses := true, plainKeys := false, apart := false, narrowed := true }
def LossyCountsUptoSaid : Prop := lossyCountsUptoRow.holds Try.pinned (OpenSpec.upto lossyCountsSpec)

/-- 'shardlaw5.LossyTrust', WHERE WHAT IT READS IS OF BULK AT MOST 1048576: true; the input reads as it did. -/
def lossyTrustUptoRow : OpenClaim := { program := "ythajboipnjjgfaa", sum := "380f0850391cfef56d0fd5aa144c52af317047bdb659c5bd6d82f39359830595", func := "shard/shardlaw5.LossyTrust", spec := "lossyTrust", unfollowed := true, recurses := true, plainKeys := false, apart := false, narrowed := true }
def LossyTrustUptoSaid : Prop := lossyTrustUptoRow.holds Try.pinned (OpenSpec.upto lossyTrustSpec)

/-- 'shardlaw5.LossyBarred', WHERE WHAT IT READS IS OF BULK AT MOST 1048576: true; the input reads as it did. -/
def lossyBarredUptoRow : OpenClaim := { program := "ythajboipnjjgfaa", sum := "380f0850391cfef56d0fd5aa144c52af317047bdb659c5bd6d82f39359830595", func := "shard/shardlaw5.LossyBarred", spec := "lossyBarred", unfollowed := true, recurses := true, plainKeys := false, apart := false, narrowed := true }
def LossyBarredUptoSaid : Prop := lossyBarredUptoRow.holds Try.pinned (OpenSpec.upto lossyBarredSpec)

/-- 'shardlaw5.LossyBook', WHERE WHAT IT READS IS OF BULK AT MOST 1048576: true; the input reads as it did. -/
def lossyBookUptoRow : OpenClaim := { program := "ythajboipnjjgfaa", sum := "380f0850391cfef56d0fd5aa144c52af317047bdb659c5bd6d82f39359830595", func := "shard/shardlaw5.LossyBook", spec := "lossyBook", unfollowed := true, recurses := true, plainKeys := false, apart := false, narrowed := true }
def LossyBookUptoSaid : Prop := lossyBookUptoRow.holds Try.pinned (OpenSpec.upto lossyBookSpec)

/-- 'shardlaw5.LossySends', WHERE WHAT IT READS IS OF BULK AT MOST 1048576: true; the input reads as it did. -/
def lossySendsUptoRow : OpenClaim := { program := "ythajboipnjjgfaa", sum := "380f0850391cfef56d0fd5aa144c52af317047bdb659c5bd6d82f39359830595", func := "shard/shardlaw5.LossySends", spec := "lossySends", unfollowed := true, recurses := true, plainKeys := false, apart := false, narrowed := true }
def LossySendsUptoSaid : Prop := lossySendsUptoRow.holds Try.pinned (OpenSpec.upto lossySendsSpec)

/-- 'shardlaw5.LossyDelivers', WHERE WHAT IT READS IS OF BULK AT MOST 1048576: true; the input reads as it did. -/
def lossyDeliversUptoRow : OpenClaim := { program := "ythajboipnjjgfaa", sum := "380f0850391cfef56d0fd5aa144c52af317047bdb659c5bd6d82f39359830595", func := "shard/shardlaw5.LossyDelivers", spec := "lossyDelivers", unfollowed := true, recurses := true, plainKeys := false, apart := false, narrowed := true }
def LossyDeliversUptoSaid : Prop := lossyDeliversUptoRow.holds Try.pinned (OpenSpec.upto lossyDeliversSpec)

/-- 'shardlaw5.LossyDrops', WHERE WHAT IT READS IS OF BULK AT MOST 1048576: true; the input reads as it did. -/
def lossyDropsUptoRow : OpenClaim := { program := "ythajboipnjjgfaa", sum := "380f0850391cfef56d0fd5aa144c52af317047bdb659c5bd6d82f39359830595", func := "shard/shardlaw5.LossyDrops", spec := "lossyDrops", unfollowed := true, recurses := true, plainKeys := false, apart := false, narrowed := true }
def LossyDropsUptoSaid : Prop := lossyDropsUptoRow.holds Try.pinned (OpenSpec.upto lossyDropsSpec)

/-- 'shardlaw5.LossyBlocks', WHERE WHAT IT READS IS OF BULK AT MOST 1048576: true; the input reads as it did. -/
def lossyBlocksUptoRow : OpenClaim := { program := "ythajboipnjjgfaa", sum := "380f0850391cfef56d0fd5aa144c52af317047bdb659c5bd6d82f39359830595", func := "shard/shardlaw5.LossyBlocks", spec := "lossyBlocks", unfollowed := true, recurses := true, plainKeys := false, apart := false, narrowed := true }
def LossyBlocksUptoSaid : Prop := lossyBlocksUptoRow.holds Try.pinned (OpenSpec.upto lossyBlocksSpec)

/-- 'shardlaw5.LossyLists', WHERE WHAT IT READS IS OF BULK AT MOST 1048576: true; the input reads as it did. -/
def lossyListsUptoRow : OpenClaim := { program := "ythajboipnjjgfaa", sum := "380f0850391cfef56d0fd5aa144c52af317047bdb659c5bd6d82f39359830595", func := "shard/shardlaw5.LossyLists", spec := "lossyLists", unfollowed := true, recurses := true, plainKeys := false, apart := false, narrowed := true }
def LossyListsUptoSaid : Prop := lossyListsUptoRow.holds Try.pinned (OpenSpec.upto lossyListsSpec)

/-- 'shardlaw5.LossyAll', WHERE WHAT IT READS IS OF BULK AT MOST 1048576: true; the input reads as it did. -/
def lossyAllUptoRow : OpenClaim := { program := "ythajboipnjjgfaa", sum := "380f0850391cfef56d0fd5aa144c52af317047bdb659c5bd6d82f39359830595", func := "shard/shardlaw5.LossyAll", spec := "lossyAll", unfollowed := true, recurses := true, plainKeys := false, apart := false, narrowed := true }
def LossyAllUptoSaid : Prop := lossyAllUptoRow.holds Try.pinned (OpenSpec.upto lossyAllSpec)

end Rows
end Go.Proofs.Ythajboipnjjgfaa
