/-
  No cell of these rows narrows 'for every input' (looked for: loops, veiled, ifaces, maps, wideKeys, modest, calm, conditions, laid).
  DERIVED. THE GIVEN ROWS OF THIS SEAT. 12 by the template 'for every input the law returns true; each argument reads behind the call as it read before'; 0 by the template 'total and deterministic' (their statements: YtmlnglillgplfaaGreatTotals.lean).
  GIVEN WITH THE SEED: the statements are not yours to turn. If you find one false, say at which input.
  Laid BY PROGRAM, IN A SANDBOX (cutbox-rows.mjs): the forced cells as the released guide's own fill.sh prints them over the translation 9a8f2dab63fab938… (all of the seat's roots in one cut). By AI agents, Wed Nov 11 2026. No macro, syntax, notation, axiom, sorry.
-/
import Derived.Test.YtmlnglillgplfaaGreatChecked
import GoSem.Claim
import GoSem.ClaimJoined
import GoSem.ClaimMapViews
import Derived.JoinedTies
import Derived.KernelRfl
namespace Go.Proofs.YtmlnglillgplfaaGreat
/- THE CELL 'sum', in the pinned program and in every row, IS THE sha256 OF THE DUMP (.gsa) THAT YtmlnglillgplfaaGreatProg.lean LOADS. Nothing in Lean hashes anything: it is a label: what it is worth is what the hold of that sum in a sandbox is worth. -/
noncomputable def Tryz.pinned : Pinned := { name := "ytmlnglillgplfaagreat", sum := "9a8f2dab63fab938bd1292a07da8e261532e30c97e5d08c88e11ac9a2e564d09", checked := Tryz.checked }
namespace Rows
def none {H : Type} : Left H := { results := [], args := [] }

/-- 'shardlaw12.ClientRound': WHATEVER THE INPUT: true; the input reads as it did. -/
def clientRoundSpec : ChangeSpec := { name := "clientRound", fn := fun _ => fun
  | [d1, d2, d3] => { results := [.lit (.bool true)], args := [d1, d2, d3] }
  | _ => none }
def clientRoundRow : OpenClaim := { program := "ytmlnglillgplfaagreat", sum := "9a8f2dab63fab938bd1292a07da8e261532e30c97e5d08c88e11ac9a2e564d09", func := "shard/shardlaw12.ClientRound", spec := "clientRound", unfollowed := true, recurses := true, apart := false }
def ClientRoundSaid : Prop := clientRoundRow.holds Tryz.pinned (OpenSpec.ofChange clientRoundSpec)

/-- ITS FALSE NEIGHBOUR: 'it returns false'. Refute it at one input. -/
def clientRoundWrong : ChangeSpec := { name := "clientRound", fn := fun _ => fun
  | [d1, d2, d3] => { results := [.lit (.bool false)], args := [d1, d2, d3] }
  | _ => none }
def ClientRoundWrongFalsely : Prop := clientRoundRow.holds Tryz.pinned (OpenSpec.ofChange clientRoundWrong)

/-- 'shardlaw12.ClientNil': WHATEVER THE INPUT: true; the input reads as it did. -/
def clientNilSpec : ChangeSpec := { name := "clientNil", fn := fun _ => fun
  | [d] => { results := [.lit (.bool true)], args := [d] }
  | _ => none }
def clientNilRow : OpenClaim := { program := "ytmlnglillgplfaagreat", sum := "9a8f2dab63fab938bd1292a07da8e261532e30c97e5d08c88e11ac9a2e564d09", func := "shard/shardlaw12.ClientNil", spec := "clientNil", unfollowed := true, recurses := true, apart := false }
def ClientNilSaid : Prop := clientNilRow.holds Tryz.pinned (OpenSpec.ofChange clientNilSpec)

/-- ITS FALSE NEIGHBOUR: 'it returns false'. Refute it at one input. -/
def clientNilWrong : ChangeSpec := { name := "clientNil", fn := fun _ => fun
  | [d] => { results := [.lit (.bool false)], args := [d] }
  | _ => none }
def ClientNilWrongFalsely : Prop := clientNilRow.holds Tryz.pinned (OpenSpec.ofChange clientNilWrong)

/-- 'shardlaw12.ClientCalm': WHATEVER THE INPUT: true; the input reads as it did. -/
def clientCalmSpec : ChangeSpec := { name := "clientCalm", fn := fun _ => fun
  | [d1, d2, d3] => { results := [.lit (.bool true)], args := [d1, d2, d3] }
  | _ => none }
def clientCalmRow : OpenClaim := { program := "ytmlnglillgplfaagreat", sum := "9a8f2dab63fab938bd1292a07da8e261532e30c97e5d08c88e11ac9a2e564d09", func := "shard/shardlaw12.ClientCalm", spec := "clientCalm", unfollowed := true, recurses := true, apart := false }
def ClientCalmSaid : Prop := clientCalmRow.holds Tryz.pinned (OpenSpec.ofChange clientCalmSpec)

/-- ITS FALSE NEIGHBOUR: 'it returns false'. Refute it at one input. -/
def clientCalmWrong : ChangeSpec := { name := "clientCalm", fn := fun _ => fun
  | [d1, d2, d3] => { results := [.lit (.bool false)], args := [d1, d2, d3] }
  | _ => none }
def ClientCalmWrongFalsely : Prop := clientCalmRow.holds Tryz.pinned (OpenSpec.ofChange clientCalmWrong)

/-- 'shardlaw12.ClientEnds': WHATEVER THE INPUT: true; the input reads as it did. -/
def clientEndsSpec : ChangeSpec := { name := "clientEnds", fn := fun _ => fun
  | [d1, d2, d3, d4] => { results := [.lit (.bool true)], args := [d1, d2, d3, d4] }
  | _ => none }
def clientEndsRow : OpenClaim := { program := "ytmlnglillgplfaagreat", sum := "9a8f2dab63fab938bd1292a07da8e261532e30c97e5d08c88e11ac9a2e564d09", func := "shard/shardlaw12.ClientEnds", spec := "clientEnds", unfollowed := true, recurses := true, apart := false }
def ClientEndsSaid : Prop := clientEndsRow.holds Tryz.pinned (OpenSpec.ofChange clientEndsSpec)

/-- ITS FALSE NEIGHBOUR: 'it returns false'. Refute it at one input. -/
def clientEndsWrong : ChangeSpec := { name := "clientEnds", fn := fun _ => fun
  | [d1, d2, d3, d4] => { results := [.lit (.bool false)], args := [d1, d2, d3, d4] }
  | _ => none }
def ClientEndsWrongFalsely : Prop := clientEndsRow.holds Tryz.pinned (OpenSpec.ofChange clientEndsWrong)

/-- 'shardlaw12.ClientStray': WHATEVER THE INPUT: true; the input reads as it did. -/
def clientStraySpec : ChangeSpec := { name := "clientStray", fn := fun _ => fun
  | [d1, d2, d3, d4, d5] => { results := [.lit (.bool true)], args := [d1, d2, d3, d4, d5] }
  | _ => none }
def clientStrayRow : OpenClaim := { program := "ytmlnglillgplfaagreat", sum := "9a8f2dab63fab938bd1292a07da8e261532e30c97e5d08c88e11ac9a2e564d09", func := "shard/shardlaw12.ClientStray", spec := "clientStray", unfollowed := true, recurses := true, apart := false }
def ClientStraySaid : Prop := clientStrayRow.holds Tryz.pinned (OpenSpec.ofChange clientStraySpec)

/-- ITS FALSE NEIGHBOUR: 'it returns false'. Refute it at one input. -/
def clientStrayWrong : ChangeSpec := { name := "clientStray", fn := fun _ => fun
  | [d1, d2, d3, d4, d5] => { results := [.lit (.bool false)], args := [d1, d2, d3, d4, d5] }
  | _ => none }
def ClientStrayWrongFalsely : Prop := clientStrayRow.holds Tryz.pinned (OpenSpec.ofChange clientStrayWrong)

/-- 'shardlaw12.ClientFinds': WHATEVER THE INPUT: true; the input reads as it did. -/
def clientFindsSpec : ChangeSpec := { name := "clientFinds", fn := fun _ => fun
  | [d1, d2, d3, d4, d5] => { results := [.lit (.bool true)], args := [d1, d2, d3, d4, d5] }
  | _ => none }
def clientFindsRow : OpenClaim := { program := "ytmlnglillgplfaagreat", sum := "9a8f2dab63fab938bd1292a07da8e261532e30c97e5d08c88e11ac9a2e564d09", func := "shard/shardlaw12.ClientFinds", spec := "clientFinds", unfollowed := true, recurses := true, apart := false }
def ClientFindsSaid : Prop := clientFindsRow.holds Tryz.pinned (OpenSpec.ofChange clientFindsSpec)

/-- ITS FALSE NEIGHBOUR: 'it returns false'. Refute it at one input. -/
def clientFindsWrong : ChangeSpec := { name := "clientFinds", fn := fun _ => fun
  | [d1, d2, d3, d4, d5] => { results := [.lit (.bool false)], args := [d1, d2, d3, d4, d5] }
  | _ => none }
def ClientFindsWrongFalsely : Prop := clientFindsRow.holds Tryz.pinned (OpenSpec.ofChange clientFindsWrong)

/-- 'shardlaw12.ClientOwn': WHATEVER THE INPUT: true; the input reads as it did. -/
def clientOwnSpec : ChangeSpec := { name := "clientOwn", fn := fun _ => fun
  | [d1, d2, d3] => { results := [.lit (.bool true)], args := [d1, d2, d3] }
  | _ => none }
def clientOwnRow : OpenClaim := { program := "ytmlnglillgplfaagreat", sum := "9a8f2dab63fab938bd1292a07da8e261532e30c97e5d08c88e11ac9a2e564d09", func := "shard/shardlaw12.ClientOwn", spec := "clientOwn", unfollowed := true, recurses := true, apart := false }
def ClientOwnSaid : Prop := clientOwnRow.holds Tryz.pinned (OpenSpec.ofChange clientOwnSpec)

/-- ITS FALSE NEIGHBOUR: 'it returns false'. Refute it at one input. -/
def clientOwnWrong : ChangeSpec := { name := "clientOwn", fn := fun _ => fun
  | [d1, d2, d3] => { results := [.lit (.bool false)], args := [d1, d2, d3] }
  | _ => none }
def ClientOwnWrongFalsely : Prop := clientOwnRow.holds Tryz.pinned (OpenSpec.ofChange clientOwnWrong)

/-- 'shardlaw12.ClientBegins': WHATEVER THE INPUT: true; the input reads as it did. -/
def clientBeginsSpec : ChangeSpec := { name := "clientBegins", fn := fun _ => fun
  | [d1, d2, d3] => { results := [.lit (.bool true)], args := [d1, d2, d3] }
  | _ => none }
def clientBeginsRow : OpenClaim := { program := "ytmlnglillgplfaagreat", sum := "9a8f2dab63fab938bd1292a07da8e261532e30c97e5d08c88e11ac9a2e564d09", func := "shard/shardlaw12.ClientBegins", spec := "clientBegins", unfollowed := true, recurses := true, apart := false }
def ClientBeginsSaid : Prop := clientBeginsRow.holds Tryz.pinned (OpenSpec.ofChange clientBeginsSpec)

/-- ITS FALSE NEIGHBOUR: 'it returns false'. Refute it at one input. -/
def clientBeginsWrong : ChangeSpec := { name := "clientBegins", fn := fun _ => fun
  | [d1, d2, d3] => { results := [.lit (.bool false)], args := [d1, d2, d3] }
  | _ => none }
def ClientBeginsWrongFalsely : Prop := clientBeginsRow.holds Tryz.pinned (OpenSpec.ofChange clientBeginsWrong)

/-- 'shardlaw12.ClientTicks': WHATEVER THE INPUT: true; the input reads as it did. -/
def clientTicksSpec : ChangeSpec := { name := "clientTicks", fn := fun _ => fun
  | [d1, d2, d3, d4, d5] => { results := [.lit (.bool true)], args := [d1, d2, d3, d4, d5] }
  | _ => none }
def clientTicksRow : OpenClaim := { program := "ytmlnglillgplfaagreat", sum := "9a8f2dab63fab938bd1292a07da8e261532e30c97e5d08c88e11ac9a2e564d09", func := "shard/shardlaw12.ClientTicks", spec := "clientTicks", unfollowed := true, recurses := true, apart := false }
def ClientTicksSaid : Prop := clientTicksRow.holds Tryz.pinned (OpenSpec.ofChange clientTicksSpec)

/-- ITS FALSE NEIGHBOUR: 'it returns false'. Refute it at one input. -/
def clientTicksWrong : ChangeSpec := { name := "clientTicks", fn := fun _ => fun
  | [d1, d2, d3, d4, d5] => { results := [.lit (.bool false)], args := [d1, d2, d3, d4, d5] }
  | _ => none }
def ClientTicksWrongFalsely : Prop := clientTicksRow.holds Tryz.pinned (OpenSpec.ofChange clientTicksWrong)

/-- 'shardlaw12.ClientTakes': WHATEVER THE INPUT: true; the input reads as it did. -/
def clientTakesSpec : ChangeSpec := { name := "clientTakes", fn := fun _ => fun
  | [d1, d2, d3] => { results := [.lit (.bool true)], args := [d1, d2, d3] }
  | _ => none }
def clientTakesRow : OpenClaim := { program := "ytmlnglillgplfaagreat", sum := "9a8f2dab63fab938bd1292a07da8e261532e30c97e5d08c88e11ac9a2e564d09", func := "shard/shardlaw12.ClientTakes", spec := "clientTakes", unfollowed := true, recurses := true, apart := false }
def ClientTakesSaid : Prop := clientTakesRow.holds Tryz.pinned (OpenSpec.ofChange clientTakesSpec)

/-- ITS FALSE NEIGHBOUR: 'it returns false'. Refute it at one input. -/
def clientTakesWrong : ChangeSpec := { name := "clientTakes", fn := fun _ => fun
  | [d1, d2, d3] => { results := [.lit (.bool false)], args := [d1, d2, d3] }
  | _ => none }
def ClientTakesWrongFalsely : Prop := clientTakesRow.holds Tryz.pinned (OpenSpec.ofChange clientTakesWrong)

/-- 'shardlaw12.ClientNews': WHATEVER THE INPUT: true; the input reads as it did. -/
def clientNewsSpec : ChangeSpec := { name := "clientNews", fn := fun _ => fun
  | [d1, d2, d3, d4] => { results := [.lit (.bool true)], args := [d1, d2, d3, d4] }
  | _ => none }
def clientNewsRow : OpenClaim := { program := "ytmlnglillgplfaagreat", sum := "9a8f2dab63fab938bd1292a07da8e261532e30c97e5d08c88e11ac9a2e564d09", func := "shard/shardlaw12.ClientNews", spec := "clientNews", unfollowed := true, recurses := true, apart := false }
def ClientNewsSaid : Prop := clientNewsRow.holds Tryz.pinned (OpenSpec.ofChange clientNewsSpec)

/-- ITS FALSE NEIGHBOUR: 'it returns false'. Refute it at one input. -/
def clientNewsWrong : ChangeSpec := { name := "clientNews", fn := fun _ => fun
  | [d1, d2, d3, d4] => { results := [.lit (.bool false)], args := [d1, d2, d3, d4] }
  | _ => none }
def ClientNewsWrongFalsely : Prop := clientNewsRow.holds Tryz.pinned (OpenSpec.ofChange clientNewsWrong)

/-- 'shardlaw12.ClientAll': WHATEVER THE INPUT: true; the input reads as it did. -/
def clientAllSpec : ChangeSpec := { name := "clientAll", fn := fun _ => fun
  | [d1, d2, d3, d4, d5] => { results := [.lit (.bool true)], args := [d1, d2, d3, d4, d5] }
  | _ => none }
def clientAllRow : OpenClaim := { program := "ytmlnglillgplfaagreat", sum := "9a8f2dab63fab938bd1292a07da8e261532e30c97e5d08c88e11ac9a2e564d09", func := "shard/shardlaw12.ClientAll", spec := "clientAll", unfollowed := true, recurses := true, apart := false }
def ClientAllSaid : Prop := clientAllRow.holds Tryz.pinned (OpenSpec.ofChange clientAllSpec)

/-- ITS FALSE NEIGHBOUR: 'it returns false'. Refute it at one input. -/
def clientAllWrong : ChangeSpec := { name := "clientAll", fn := fun _ => fun
  | [d1, d2, d3, d4, d5] => { results := [.lit (.bool false)], args := [d1, d2, d3, d4, d5] }
  | _ => none }
def ClientAllWrongFalsely : Prop := clientAllRow.holds Tryz.pinned (OpenSpec.ofChange clientAllWrong)

/- THE SECOND FORM. 'bulk': how many values and letters a reading holds, each counted each time it is reached (what is shared counts as often as it is met; a slice's spare places count too). A statement '..UptoSaid' is the law's where the arguments, and the package variables that the reading takes, are together of bulk at most 1048576: NARROWER than '..Said'. Prove '..Said' where nothing that the law and all that it calls make is longer than what came in: it says more and counts as full. Else prove '..UptoSaid'. A law counts once. -/
mutual
def uptoBulk {H : Type} : DataW H → Nat
  | .lit (.string bytes) => bytes.length + 1
  | .lit _ => 1
  | .nil => 1
  | .ptr d => uptoBulk d + 1
  | .slice elems spare => uptoBulkAll elems + uptoBulkAll spare + 1
  | .agg parts => uptoBulkAll parts + 1
  | .iface _ d => uptoBulk d + 1
  | .map entries => uptoBulkEntries entries + 1
  | .held _ => 1
def uptoBulkAll {H : Type} : List (DataW H) → Nat
  | [] => 0
  | d :: r => uptoBulk d + uptoBulkAll r
def uptoBulkEntries {H : Type} : List (Lit × DataW H) → Nat
  | [] => 0
  | x :: r => uptoBulkEntry x + uptoBulkEntries r
def uptoBulkEntry {H : Type} : Lit × DataW H → Nat
  | (.string bytes, d) => bytes.length + uptoBulk d + 1
  | (_, d) => uptoBulk d + 1
 end
def uptoSmall : (H : Type) → List (DataW H) → Bool := fun _ ds => decide (uptoBulkAll ds ≤ 1048576)
def OpenSpec.upto (s : _root_.Go.ChangeSpec) : _root_.Go.OpenSpec := { _root_.Go.OpenSpec.ofChange s with cond := some uptoSmall }

/-- 'shardlaw12.ClientRound', WHERE WHAT IT READS IS OF BULK AT MOST 1048576: true; the input reads as it did. -/
def clientRoundUptoRow : OpenClaim := { program := "ytmlnglillgplfaagreat", sum := "9a8f2dab63fab938bd1292a07da8e261532e30c97e5d08c88e11ac9a2e564d09", func := "shard/shardlaw12.ClientRound", spec := "clientRound", unfollowed := true, recurses := true, apart := false, narrowed := true }
def ClientRoundUptoSaid : Prop := clientRoundUptoRow.holds Tryz.pinned (OpenSpec.upto clientRoundSpec)

/-- 'shardlaw12.ClientNil', WHERE WHAT IT READS IS OF BULK AT MOST 1048576: true; the input reads as it did. -/
def clientNilUptoRow : OpenClaim := { program := "ytmlnglillgplfaagreat", sum := "9a8f2dab63fab938bd1292a07da8e261532e30c97e5d08c88e11ac9a2e564d09", func := "shard/shardlaw12.ClientNil", spec := "clientNil", unfollowed := true, recurses := true, apart := false, narrowed := true }
def ClientNilUptoSaid : Prop := clientNilUptoRow.holds Tryz.pinned (OpenSpec.upto clientNilSpec)

/-- 'shardlaw12.ClientCalm', WHERE WHAT IT READS IS OF BULK AT MOST 1048576: true; the input reads as it did. -/
def clientCalmUptoRow : OpenClaim := { program := "ytmlnglillgplfaagreat", sum := "9a8f2dab63fab938bd1292a07da8e261532e30c97e5d08c88e11ac9a2e564d09", func := "shard/shardlaw12.ClientCalm", spec := "clientCalm", unfollowed := true, recurses := true, apart := false, narrowed := true }
def ClientCalmUptoSaid : Prop := clientCalmUptoRow.holds Tryz.pinned (OpenSpec.upto clientCalmSpec)

/-- 'shardlaw12.ClientEnds', WHERE WHAT IT READS IS OF BULK AT MOST 1048576: true; the input reads as it did. -/
def clientEndsUptoRow : OpenClaim := { program := "ytmlnglillgplfaagreat", sum := "9a8f2dab63fab938bd1292a07da8e261532e30c97e5d08c88e11ac9a2e564d09", func := "shard/shardlaw12.ClientEnds", spec := "clientEnds", unfollowed := true, recurses := true, apart := false, narrowed := true }
def ClientEndsUptoSaid : Prop := clientEndsUptoRow.holds Tryz.pinned (OpenSpec.upto clientEndsSpec)

/-- 'shardlaw12.ClientStray', WHERE WHAT IT READS IS OF BULK AT MOST 1048576: true; the input reads as it did. -/
def clientStrayUptoRow : OpenClaim := { program := "ytmlnglillgplfaagreat", sum := "9a8f2dab63fab938bd1292a07da8e261532e30c97e5d08c88e11ac9a2e564d09", func := "shard/shardlaw12.ClientStray", spec := "clientStray", unfollowed := true, recurses := true, apart := false, narrowed := true }
def ClientStrayUptoSaid : Prop := clientStrayUptoRow.holds Tryz.pinned (OpenSpec.upto clientStraySpec)

/-- 'shardlaw12.ClientFinds', WHERE WHAT IT READS IS OF BULK AT MOST 1048576: true; the input reads as it did. -/
def clientFindsUptoRow : OpenClaim := { program := "ytmlnglillgplfaagreat", sum := "9a8f2dab63fab938bd1292a07da8e261532e30c97e5d08c88e11ac9a2e564d09", func := "shard/shardlaw12.ClientFinds", spec := "clientFinds", unfollowed := true, recurses := true, apart := false, narrowed := true }
def ClientFindsUptoSaid : Prop := clientFindsUptoRow.holds Tryz.pinned (OpenSpec.upto clientFindsSpec)

/-- 'shardlaw12.ClientOwn', WHERE WHAT IT READS IS OF BULK AT MOST 1048576: true; the input reads as it did. -/
def clientOwnUptoRow : OpenClaim := { program := "ytmlnglillgplfaagreat", sum := "9a8f2dab63fab938bd1292a07da8e261532e30c97e5d08c88e11ac9a2e564d09", func := "shard/shardlaw12.ClientOwn", spec := "clientOwn", unfollowed := true, recurses := true, apart := false, narrowed := true }
def ClientOwnUptoSaid : Prop := clientOwnUptoRow.holds Tryz.pinned (OpenSpec.upto clientOwnSpec)

/-- 'shardlaw12.ClientBegins', WHERE WHAT IT READS IS OF BULK AT MOST 1048576: true; the input reads as it did. -/
def clientBeginsUptoRow : OpenClaim := { program := "ytmlnglillgplfaagreat", sum := "9a8f2dab63fab938bd1292a07da8e261532e30c97e5d08c88e11ac9a2e564d09", func := "shard/shardlaw12.ClientBegins", spec := "clientBegins", unfollowed := true, recurses := true, apart := false, narrowed := true }
def ClientBeginsUptoSaid : Prop := clientBeginsUptoRow.holds Tryz.pinned (OpenSpec.upto clientBeginsSpec)

/-- 'shardlaw12.ClientTicks', WHERE WHAT IT READS IS OF BULK AT MOST 1048576: true; the input reads as it did. -/
def clientTicksUptoRow : OpenClaim := { program := "ytmlnglillgplfaagreat", sum := "9a8f2dab63fab938bd1292a07da8e261532e30c97e5d08c88e11ac9a2e564d09", func := "shard/shardlaw12.ClientTicks", spec := "clientTicks", unfollowed := true, recurses := true, apart := false, narrowed := true }
def ClientTicksUptoSaid : Prop := clientTicksUptoRow.holds Tryz.pinned (OpenSpec.upto clientTicksSpec)

/-- 'shardlaw12.ClientTakes', WHERE WHAT IT READS IS OF BULK AT MOST 1048576: true; the input reads as it did. -/
def clientTakesUptoRow : OpenClaim := { program := "ytmlnglillgplfaagreat", sum := "9a8f2dab63fab938bd1292a07da8e261532e30c97e5d08c88e11ac9a2e564d09", func := "shard/shardlaw12.ClientTakes", spec := "clientTakes", unfollowed := true, recurses := true, apart := false, narrowed := true }
def ClientTakesUptoSaid : Prop := clientTakesUptoRow.holds Tryz.pinned (OpenSpec.upto clientTakesSpec)

/-- 'shardlaw12.ClientNews', WHERE WHAT IT READS IS OF BULK AT MOST 1048576: true; the input reads as it did. -/
def clientNewsUptoRow : OpenClaim := { program := "ytmlnglillgplfaagreat", sum := "9a8f2dab63fab938bd1292a07da8e261532e30c97e5d08c88e11ac9a2e564d09", func := "shard/shardlaw12.ClientNews", spec := "clientNews", unfollowed := true, recurses := true, apart := false, narrowed := true }
def ClientNewsUptoSaid : Prop := clientNewsUptoRow.holds Tryz.pinned (OpenSpec.upto clientNewsSpec)

/-- 'shardlaw12.ClientAll', WHERE WHAT IT READS IS OF BULK AT MOST 1048576: true; the input reads as it did. -/
def clientAllUptoRow : OpenClaim := { program := "ytmlnglillgplfaagreat", sum := "9a8f2dab63fab938bd1292a07da8e261532e30c97e5d08c88e11ac9a2e564d09", func := "shard/shardlaw12.ClientAll", spec := "clientAll", unfollowed := true, recurses := true, apart := false, narrowed := true }
def ClientAllUptoSaid : Prop := clientAllUptoRow.holds Tryz.pinned (OpenSpec.upto clientAllSpec)

end Rows
end Go.Proofs.YtmlnglillgplfaaGreat
