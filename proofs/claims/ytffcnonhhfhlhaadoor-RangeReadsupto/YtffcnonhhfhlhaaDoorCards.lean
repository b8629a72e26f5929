/-
  DERIVED. GIVEN WITH THE SEED: THE CARDS: each row of YtffcnonhhfhlhaaDoorRows.lean that lists a variable, with what it lists TIED to the program's text (the seventh form; the later family's looks); each row that meets fmt, with fmt's text TOLD by the authors' own Lean function (tested against real Go, not proved from fmt's source: count such statements apart). THE CARD IS WHAT COUNTS. Prove the row's statement (the work); the ties are given (YtffcnonhhfhlhaaDoorTie.lean); close each card by the builder's one call (the guide's Derived/Test/ToyasCard.lean, 'card_holds'). Laid BY PROGRAM, IN A SANDBOX (cutbox-door.mjs). By AI agents, Wed Nov 11 2026. No macro, syntax, notation, axiom, sorry.
-/
import Derived.Test.YtffcnonhhfhlhaaDoorRows
import GoSem.ClaimSeven
namespace Go.Proofs.YtffcnonhhfhlhaaDoor
namespace Rows

/-- THE TIED CARD OF 'shardlaw6.RangeLoads'. -/
def rangeLoadsCard : Claim7 := { stood := { row := rangeLoadsRow, standIns := [], harness := (true, "c29b6a91f2b372b687174f9edb17854194e8adbea401d7eecfb4537308cfbb91"), looks := false }, kinds := [], alts := [], laidByText := true, laidKinds := [.data, .data, .data], laidTests := true, laidLooks := .later }
def RangeLoadsCardSaid : Prop := Claim7.holds Tryd.pinned (.plain (OpenSpec.ofChange rangeLoadsSpec)) rangeLoadsCard

/-- THE TIED CARD OF 'shardlaw6.RangeWalks'. -/
def rangeWalksCard : Claim7 := { stood := { row := rangeWalksRow, standIns := [], harness := (true, "c29b6a91f2b372b687174f9edb17854194e8adbea401d7eecfb4537308cfbb91"), looks := false }, kinds := [], alts := [], laidByText := true, laidKinds := [.data, .data, .data], laidTests := true, laidLooks := .later }
def RangeWalksCardSaid : Prop := Claim7.holds Tryd.pinned (.plain (OpenSpec.ofChange rangeWalksSpec)) rangeWalksCard

/-- THE TIED CARD OF 'shardlaw6.RangeNil'. -/
def rangeNilCard : Claim7 := { stood := { row := rangeNilRow, standIns := [], harness := (true, "c29b6a91f2b372b687174f9edb17854194e8adbea401d7eecfb4537308cfbb91"), looks := false }, kinds := [], alts := [], laidByText := true, laidKinds := [.data, .data, .data], laidTests := true, laidLooks := .later }
def RangeNilCardSaid : Prop := Claim7.holds Tryd.pinned (.plain (OpenSpec.ofChange rangeNilSpec)) rangeNilCard

/-- THE TIED CARD OF 'shardlaw6.RangeText'. -/
def rangeTextCard : Claim7 := { stood := { row := rangeTextRow, standIns := [], harness := (true, "c29b6a91f2b372b687174f9edb17854194e8adbea401d7eecfb4537308cfbb91"), looks := false }, kinds := [], alts := [], laidByText := true, laidKinds := [.data, .data, .data, .data, .pinned], laidTests := true, laidLooks := .later }
def RangeTextCardSaid : Prop := Claim7.holds Tryd.pinned (.plain (OpenSpec.ofChange rangeTextSpec)) rangeTextCard

/-- THE TIED CARD OF 'shardlaw6.RangeReads'. -/
def rangeReadsCard : Claim7 := { stood := { row := rangeReadsRow, standIns := [], harness := (true, "c29b6a91f2b372b687174f9edb17854194e8adbea401d7eecfb4537308cfbb91"), looks := false }, kinds := [], alts := [], laidByText := true, laidKinds := [.data, .data, .data, .data, .pinned], laidTests := true, laidLooks := .later }
def RangeReadsCardSaid : Prop := Claim7.holds Tryd.pinned (.plain (OpenSpec.ofChange rangeReadsSpec)) rangeReadsCard

/-- THE TIED CARD OF 'shardlaw6.RangeOwn'. -/
def rangeOwnCard : Claim7 := { stood := { row := rangeOwnRow, standIns := [], harness := (true, "c29b6a91f2b372b687174f9edb17854194e8adbea401d7eecfb4537308cfbb91"), looks := false }, kinds := [], alts := [], laidByText := true, laidKinds := [.data, .data, .data], laidTests := true, laidLooks := .later }
def RangeOwnCardSaid : Prop := Claim7.holds Tryd.pinned (.plain (OpenSpec.ofChange rangeOwnSpec)) rangeOwnCard

/-- THE TIED CARD OF 'shardlaw6.RangeAll'. -/
def rangeAllCard : Claim7 := { stood := { row := rangeAllRow, standIns := [], harness := (true, "c29b6a91f2b372b687174f9edb17854194e8adbea401d7eecfb4537308cfbb91"), looks := false }, kinds := [], alts := [], laidByText := true, laidKinds := [.data, .data, .data], laidTests := true, laidLooks := .later }
def RangeAllCardSaid : Prop := Claim7.holds Tryd.pinned (.plain (OpenSpec.ofChange rangeAllSpec)) rangeAllCard

/-- THE SECOND FORM's CARD OF 'shardlaw6.RangeLoads'. -/
def rangeLoadsUptoCard : Claim7 := { stood := { row := rangeLoadsUptoRow, standIns := [], harness := (true, "c29b6a91f2b372b687174f9edb17854194e8adbea401d7eecfb4537308cfbb91"), looks := false }, kinds := [], alts := [], laidByText := true, laidKinds := [.data, .data, .data], laidTests := true, laidLooks := .later }
def RangeLoadsUptoCardSaid : Prop := Claim7.holds Tryd.pinned (.plain (OpenSpec.upto rangeLoadsSpec)) rangeLoadsUptoCard

/-- THE SECOND FORM's CARD OF 'shardlaw6.RangeWalks'. -/
def rangeWalksUptoCard : Claim7 := { stood := { row := rangeWalksUptoRow, standIns := [], harness := (true, "c29b6a91f2b372b687174f9edb17854194e8adbea401d7eecfb4537308cfbb91"), looks := false }, kinds := [], alts := [], laidByText := true, laidKinds := [.data, .data, .data], laidTests := true, laidLooks := .later }
def RangeWalksUptoCardSaid : Prop := Claim7.holds Tryd.pinned (.plain (OpenSpec.upto rangeWalksSpec)) rangeWalksUptoCard

/-- THE SECOND FORM's CARD OF 'shardlaw6.RangeNil'. -/
def rangeNilUptoCard : Claim7 := { stood := { row := rangeNilUptoRow, standIns := [], harness := (true, "c29b6a91f2b372b687174f9edb17854194e8adbea401d7eecfb4537308cfbb91"), looks := false }, kinds := [], alts := [], laidByText := true, laidKinds := [.data, .data, .data], laidTests := true, laidLooks := .later }
def RangeNilUptoCardSaid : Prop := Claim7.holds Tryd.pinned (.plain (OpenSpec.upto rangeNilSpec)) rangeNilUptoCard

/-- THE SECOND FORM's CARD OF 'shardlaw6.RangeText'. -/
def rangeTextUptoCard : Claim7 := { stood := { row := rangeTextUptoRow, standIns := [], harness := (true, "c29b6a91f2b372b687174f9edb17854194e8adbea401d7eecfb4537308cfbb91"), looks := false }, kinds := [], alts := [], laidByText := true, laidKinds := [.data, .data, .data, .data, .pinned], laidTests := true, laidLooks := .later }
def RangeTextUptoCardSaid : Prop := Claim7.holds Tryd.pinned (.plain (OpenSpec.upto rangeTextSpec)) rangeTextUptoCard

/-- THE SECOND FORM's CARD OF 'shardlaw6.RangeReads'. -/
def rangeReadsUptoCard : Claim7 := { stood := { row := rangeReadsUptoRow, standIns := [], harness := (true, "c29b6a91f2b372b687174f9edb17854194e8adbea401d7eecfb4537308cfbb91"), looks := false }, kinds := [], alts := [], laidByText := true, laidKinds := [.data, .data, .data, .data, .pinned], laidTests := true, laidLooks := .later }
def RangeReadsUptoCardSaid : Prop := Claim7.holds Tryd.pinned (.plain (OpenSpec.upto rangeReadsSpec)) rangeReadsUptoCard

/-- THE SECOND FORM's CARD OF 'shardlaw6.RangeOwn'. -/
def rangeOwnUptoCard : Claim7 := { stood := { row := rangeOwnUptoRow, standIns := [], harness := (true, "c29b6a91f2b372b687174f9edb17854194e8adbea401d7eecfb4537308cfbb91"), looks := false }, kinds := [], alts := [], laidByText := true, laidKinds := [.data, .data, .data], laidTests := true, laidLooks := .later }
def RangeOwnUptoCardSaid : Prop := Claim7.holds Tryd.pinned (.plain (OpenSpec.upto rangeOwnSpec)) rangeOwnUptoCard

/-- THE SECOND FORM's CARD OF 'shardlaw6.RangeAll'. -/
def rangeAllUptoCard : Claim7 := { stood := { row := rangeAllUptoRow, standIns := [], harness := (true, "c29b6a91f2b372b687174f9edb17854194e8adbea401d7eecfb4537308cfbb91"), looks := false }, kinds := [], alts := [], laidByText := true, laidKinds := [.data, .data, .data], laidTests := true, laidLooks := .later }
def RangeAllUptoCardSaid : Prop := Claim7.holds Tryd.pinned (.plain (OpenSpec.upto rangeAllSpec)) rangeAllUptoCard
end Rows
end Go.Proofs.YtffcnonhhfhlhaaDoor
