/-
  NARROWER THAN 'FOR EVERY INPUT', by the rows' own cells (each row's printed sentence says how): TextEncodes: laid · TextFolds: laid · TextQuotes: laid · TextNames: laid · TextJoins: laid · TextDigits: laid · TextCounts: laid · TextComesBack: laid · TextFits: laid · TextLine: laid · TextBare: laid · TextUnquotes: laid · TextWords: laid · TextColumns: laid · TextTables: laid · TextAgain: laid.
  DERIVED. THE GIVEN ROWS OF THIS SEAT. 16 by the template 'for every input the law returns true; each argument reads behind the call as it read before'; 0 by the template 'total and deterministic' (their statements: YtckjededijgjgaaDoorTotals.lean).
  GIVEN WITH THE SEED: the statements are not yours to turn. If you find one false, say at which input.
  Laid BY PROGRAM, IN A SANDBOX (cutbox-rows.mjs): the forced cells as the released guide's own fill.sh prints them over the translation 1c6e7ebd4b77bb07… (all of the seat's roots in one cut). By AI agents, Wed Nov 11 2026. No macro, syntax, notation, axiom, sorry.
-/
import Derived.Test.YtckjededijgjgaaDoorChecked
import GoSem.Claim
import GoSem.ClaimJoined
import GoSem.ClaimMapViews
import Derived.JoinedTies
import Derived.KernelRfl
namespace Go.Proofs.YtckjededijgjgaaDoor
/- THE CELL 'sum', in the pinned program and in every row, IS THE sha256 OF THE DUMP (.gsa) THAT YtckjededijgjgaaDoorProg.lean LOADS. Nothing in Lean hashes anything: it is a label: what it is worth is what the hold of that sum in a sandbox is worth. -/
noncomputable def Tryd.pinned : Pinned := { name := "ytckjededijgjgaadoor", sum := "1c6e7ebd4b77bb0733c676e8fc58dfd13ad769e282850cd85fb05938e9c0a0b5", checked := Tryd.checked }
namespace Rows
def none {H : Type} : Left H := { results := [], args := [] }

/- WHAT THE LISTED PACKAGE-LEVEL VARIABLES READ AS WHEN THE CALL BEGINS. Each datum BY PROGRAM (the guide's laid-datum.mjs) off the statement by which the dump's own 'gosem.cut.vars' lays the variable. In a bare row this is a premise. The card (YtckjededijgjgaaDoorCards.lean) ties it to the program's text. -/
def laid_shard_text_kindSpans {H : Type} : DataW H := .slice [.agg [.lit (.int .i32 0), .lit (.int .i32 31), .lit (.int .u8 1)], .agg [.lit (.int .i32 127), .lit (.int .i32 160), .lit (.int .u8 1)], .agg [.lit (.int .i32 173), .lit (.int .i32 173), .lit (.int .u8 1)], .agg [.lit (.int .i32 768), .lit (.int .i32 879), .lit (.int .u8 2)], .agg [.lit (.int .i32 1155), .lit (.int .i32 1161), .lit (.int .u8 2)], .agg [.lit (.int .i32 1425), .lit (.int .i32 1469), .lit (.int .u8 2)], .agg [.lit (.int .i32 1564), .lit (.int .i32 1564), .lit (.int .u8 1)], .agg [.lit (.int .i32 1611), .lit (.int .i32 1631), .lit (.int .u8 2)], .agg [.lit (.int .i32 4352), .lit (.int .i32 4447), .lit (.int .u8 3)], .agg [.lit (.int .i32 5760), .lit (.int .i32 5760), .lit (.int .u8 1)], .agg [.lit (.int .i32 6158), .lit (.int .i32 6158), .lit (.int .u8 1)], .agg [.lit (.int .i32 6832), .lit (.int .i32 6911), .lit (.int .u8 2)], .agg [.lit (.int .i32 7616), .lit (.int .i32 7679), .lit (.int .u8 2)], .agg [.lit (.int .i32 8192), .lit (.int .i32 8207), .lit (.int .u8 1)], .agg [.lit (.int .i32 8232), .lit (.int .i32 8239), .lit (.int .u8 1)], .agg [.lit (.int .i32 8287), .lit (.int .i32 8303), .lit (.int .u8 1)], .agg [.lit (.int .i32 8400), .lit (.int .i32 8447), .lit (.int .u8 2)], .agg [.lit (.int .i32 11904), .lit (.int .i32 12287), .lit (.int .u8 3)], .agg [.lit (.int .i32 12288), .lit (.int .i32 12288), .lit (.int .u8 1)], .agg [.lit (.int .i32 12289), .lit (.int .i32 12350), .lit (.int .u8 3)], .agg [.lit (.int .i32 12353), .lit (.int .i32 19903), .lit (.int .u8 3)], .agg [.lit (.int .i32 19968), .lit (.int .i32 42191), .lit (.int .u8 3)], .agg [.lit (.int .i32 44032), .lit (.int .i32 55203), .lit (.int .u8 3)], .agg [.lit (.int .i32 55296), .lit (.int .i32 57343), .lit (.int .u8 1)], .agg [.lit (.int .i32 57344), .lit (.int .i32 63743), .lit (.int .u8 1)], .agg [.lit (.int .i32 63744), .lit (.int .i32 64255), .lit (.int .u8 3)], .agg [.lit (.int .i32 64976), .lit (.int .i32 65007), .lit (.int .u8 1)], .agg [.lit (.int .i32 65024), .lit (.int .i32 65039), .lit (.int .u8 2)], .agg [.lit (.int .i32 65056), .lit (.int .i32 65071), .lit (.int .u8 2)], .agg [.lit (.int .i32 65072), .lit (.int .i32 65135), .lit (.int .u8 3)], .agg [.lit (.int .i32 65279), .lit (.int .i32 65279), .lit (.int .u8 1)], .agg [.lit (.int .i32 65281), .lit (.int .i32 65376), .lit (.int .u8 3)], .agg [.lit (.int .i32 65504), .lit (.int .i32 65510), .lit (.int .u8 3)], .agg [.lit (.int .i32 65529), .lit (.int .i32 65531), .lit (.int .u8 1)], .agg [.lit (.int .i32 127744), .lit (.int .i32 128591), .lit (.int .u8 3)], .agg [.lit (.int .i32 129280), .lit (.int .i32 129535), .lit (.int .u8 3)], .agg [.lit (.int .i32 131072), .lit (.int .i32 262141), .lit (.int .u8 3)], .agg [.lit (.int .i32 917504), .lit (.int .i32 1114111), .lit (.int .u8 1)]] []
def laid_shard_text_letterSpans {H : Type} : DataW H := .slice [.agg [.lit (.int .i32 65), .lit (.int .i32 90), .lit (.int .i32 32)], .agg [.lit (.int .i32 97), .lit (.int .i32 122), .lit (.int .i32 0)], .agg [.lit (.int .i32 192), .lit (.int .i32 214), .lit (.int .i32 32)], .agg [.lit (.int .i32 216), .lit (.int .i32 222), .lit (.int .i32 32)], .agg [.lit (.int .i32 223), .lit (.int .i32 246), .lit (.int .i32 0)], .agg [.lit (.int .i32 248), .lit (.int .i32 255), .lit (.int .i32 0)], .agg [.lit (.int .i32 913), .lit (.int .i32 929), .lit (.int .i32 32)], .agg [.lit (.int .i32 931), .lit (.int .i32 937), .lit (.int .i32 32)], .agg [.lit (.int .i32 945), .lit (.int .i32 961), .lit (.int .i32 0)], .agg [.lit (.int .i32 962), .lit (.int .i32 962), .lit (.int .i32 1)], .agg [.lit (.int .i32 963), .lit (.int .i32 969), .lit (.int .i32 0)], .agg [.lit (.int .i32 1040), .lit (.int .i32 1071), .lit (.int .i32 32)], .agg [.lit (.int .i32 1072), .lit (.int .i32 1103), .lit (.int .i32 0)]] []
def laid_math_bits_deBruijn32tab {H : Type} : DataW H := .agg [.lit (.int .u8 0), .lit (.int .u8 1), .lit (.int .u8 28), .lit (.int .u8 2), .lit (.int .u8 29), .lit (.int .u8 14), .lit (.int .u8 24), .lit (.int .u8 3), .lit (.int .u8 30), .lit (.int .u8 22), .lit (.int .u8 20), .lit (.int .u8 15), .lit (.int .u8 25), .lit (.int .u8 17), .lit (.int .u8 4), .lit (.int .u8 8), .lit (.int .u8 31), .lit (.int .u8 27), .lit (.int .u8 13), .lit (.int .u8 23), .lit (.int .u8 21), .lit (.int .u8 19), .lit (.int .u8 16), .lit (.int .u8 7), .lit (.int .u8 26), .lit (.int .u8 12), .lit (.int .u8 18), .lit (.int .u8 6), .lit (.int .u8 11), .lit (.int .u8 5), .lit (.int .u8 10), .lit (.int .u8 9)]
def laid_math_bits_deBruijn64tab {H : Type} : DataW H := .agg [.lit (.int .u8 0), .lit (.int .u8 1), .lit (.int .u8 56), .lit (.int .u8 2), .lit (.int .u8 57), .lit (.int .u8 49), .lit (.int .u8 28), .lit (.int .u8 3), .lit (.int .u8 61), .lit (.int .u8 58), .lit (.int .u8 42), .lit (.int .u8 50), .lit (.int .u8 38), .lit (.int .u8 29), .lit (.int .u8 17), .lit (.int .u8 4), .lit (.int .u8 62), .lit (.int .u8 47), .lit (.int .u8 59), .lit (.int .u8 36), .lit (.int .u8 45), .lit (.int .u8 43), .lit (.int .u8 51), .lit (.int .u8 22), .lit (.int .u8 53), .lit (.int .u8 39), .lit (.int .u8 33), .lit (.int .u8 30), .lit (.int .u8 24), .lit (.int .u8 18), .lit (.int .u8 12), .lit (.int .u8 5), .lit (.int .u8 63), .lit (.int .u8 55), .lit (.int .u8 48), .lit (.int .u8 27), .lit (.int .u8 60), .lit (.int .u8 41), .lit (.int .u8 37), .lit (.int .u8 16), .lit (.int .u8 46), .lit (.int .u8 35), .lit (.int .u8 44), .lit (.int .u8 21), .lit (.int .u8 52), .lit (.int .u8 32), .lit (.int .u8 23), .lit (.int .u8 11), .lit (.int .u8 54), .lit (.int .u8 26), .lit (.int .u8 40), .lit (.int .u8 15), .lit (.int .u8 34), .lit (.int .u8 20), .lit (.int .u8 31), .lit (.int .u8 10), .lit (.int .u8 25), .lit (.int .u8 14), .lit (.int .u8 19), .lit (.int .u8 9), .lit (.int .u8 13), .lit (.int .u8 8), .lit (.int .u8 7), .lit (.int .u8 6)]
def laid_internal_strconv_uint64pow10 {H : Type} : DataW H := .agg [.lit (.int .u64 1), .lit (.int .u64 10), .lit (.int .u64 100), .lit (.int .u64 1000), .lit (.int .u64 10000), .lit (.int .u64 100000), .lit (.int .u64 1000000), .lit (.int .u64 10000000), .lit (.int .u64 100000000), .lit (.int .u64 1000000000), .lit (.int .u64 10000000000), .lit (.int .u64 100000000000), .lit (.int .u64 1000000000000), .lit (.int .u64 10000000000000), .lit (.int .u64 100000000000000), .lit (.int .u64 1000000000000000), .lit (.int .u64 10000000000000000), .lit (.int .u64 100000000000000000), .lit (.int .u64 1000000000000000000), .lit (.int .u64 10000000000000000000)]

/-- 'shardlaw1.TextEncodes': WHATEVER THE INPUT: true; the input reads as it did. -/
def textEncodesSpec : ChangeSpec := { name := "textEncodes", fn := fun _ => fun
  | [d] => { results := [.lit (.bool true)], args := [d] }
  | _ => none }
def textEncodesRow : OpenClaim := { program := "ytckjededijgjgaadoor", sum := "1c6e7ebd4b77bb0733c676e8fc58dfd13ad769e282850cd85fb05938e9c0a0b5", func := "shard/shardlaw1.TextEncodes", spec := "textEncodes", named := ["shard/text.kindSpans"], apart := false, laid := [("shard/text.kindSpans", laid_shard_text_kindSpans)] }
def TextEncodesSaid : Prop := textEncodesRow.holds Tryd.pinned (OpenSpec.ofChange textEncodesSpec)

/-- ITS FALSE NEIGHBOUR: 'it returns false'. Refute it at one input. -/
def textEncodesWrong : ChangeSpec := { name := "textEncodes", fn := fun _ => fun
  | [d] => { results := [.lit (.bool false)], args := [d] }
  | _ => none }
def TextEncodesWrongFalsely : Prop := textEncodesRow.holds Tryd.pinned (OpenSpec.ofChange textEncodesWrong)

/-- 'shardlaw1.TextFolds': WHATEVER THE INPUT: true; the input reads as it did. -/
def textFoldsSpec : ChangeSpec := { name := "textFolds", fn := fun _ => fun
  | [d] => { results := [.lit (.bool true)], args := [d] }
  | _ => none }
def textFoldsRow : OpenClaim := { program := "ytckjededijgjgaadoor", sum := "1c6e7ebd4b77bb0733c676e8fc58dfd13ad769e282850cd85fb05938e9c0a0b5", func := "shard/shardlaw1.TextFolds", spec := "textFolds", inPlace := ["internal/abi.NoEscape"], unfollowed := true, recurses := true, named := ["shard/text.letterSpans"], apart := false, laid := [("shard/text.letterSpans", laid_shard_text_letterSpans)] }
def TextFoldsSaid : Prop := textFoldsRow.holds Tryd.pinned (OpenSpec.ofChange textFoldsSpec)

/-- ITS FALSE NEIGHBOUR: 'it returns false'. Refute it at one input. -/
def textFoldsWrong : ChangeSpec := { name := "textFolds", fn := fun _ => fun
  | [d] => { results := [.lit (.bool false)], args := [d] }
  | _ => none }
def TextFoldsWrongFalsely : Prop := textFoldsRow.holds Tryd.pinned (OpenSpec.ofChange textFoldsWrong)

/-- 'shardlaw1.TextQuotes': WHATEVER THE INPUT: true; the input reads as it did. -/
def textQuotesSpec : ChangeSpec := { name := "textQuotes", fn := fun _ => fun
  | [d] => { results := [.lit (.bool true)], args := [d] }
  | _ => none }
def textQuotesRow : OpenClaim := { program := "ytckjededijgjgaadoor", sum := "1c6e7ebd4b77bb0733c676e8fc58dfd13ad769e282850cd85fb05938e9c0a0b5", func := "shard/shardlaw1.TextQuotes", spec := "textQuotes", inPlace := ["internal/abi.NoEscape"], unfollowed := true, recurses := true, named := ["internal/strconv.uint64pow10", "math/bits.deBruijn32tab", "math/bits.deBruijn64tab", "shard/text.kindSpans"], apart := false, laid := [("math/bits.deBruijn32tab", laid_math_bits_deBruijn32tab), ("math/bits.deBruijn64tab", laid_math_bits_deBruijn64tab), ("internal/strconv.uint64pow10", laid_internal_strconv_uint64pow10), ("shard/text.kindSpans", laid_shard_text_kindSpans)] }
def TextQuotesSaid : Prop := textQuotesRow.holds Tryd.pinned (OpenSpec.ofChange textQuotesSpec)

/-- ITS FALSE NEIGHBOUR: 'it returns false'. Refute it at one input. -/
def textQuotesWrong : ChangeSpec := { name := "textQuotes", fn := fun _ => fun
  | [d] => { results := [.lit (.bool false)], args := [d] }
  | _ => none }
def TextQuotesWrongFalsely : Prop := textQuotesRow.holds Tryd.pinned (OpenSpec.ofChange textQuotesWrong)

/-- 'shardlaw1.TextNames': WHATEVER THE INPUT: true; the input reads as it did. -/
def textNamesSpec : ChangeSpec := { name := "textNames", fn := fun _ => fun
  | [d] => { results := [.lit (.bool true)], args := [d] }
  | _ => none }
def textNamesRow : OpenClaim := { program := "ytckjededijgjgaadoor", sum := "1c6e7ebd4b77bb0733c676e8fc58dfd13ad769e282850cd85fb05938e9c0a0b5", func := "shard/shardlaw1.TextNames", spec := "textNames", inPlace := ["internal/abi.NoEscape"], unfollowed := true, recurses := true, named := ["shard/text.letterSpans"], apart := false, laid := [("shard/text.letterSpans", laid_shard_text_letterSpans)] }
def TextNamesSaid : Prop := textNamesRow.holds Tryd.pinned (OpenSpec.ofChange textNamesSpec)

/-- ITS FALSE NEIGHBOUR: 'it returns false'. Refute it at one input. -/
def textNamesWrong : ChangeSpec := { name := "textNames", fn := fun _ => fun
  | [d] => { results := [.lit (.bool false)], args := [d] }
  | _ => none }
def TextNamesWrongFalsely : Prop := textNamesRow.holds Tryd.pinned (OpenSpec.ofChange textNamesWrong)

/-- 'shardlaw1.TextJoins': WHATEVER THE INPUT: true; the input reads as it did. -/
def textJoinsSpec : ChangeSpec := { name := "textJoins", fn := fun _ => fun
  | [d] => { results := [.lit (.bool true)], args := [d] }
  | _ => none }
def textJoinsRow : OpenClaim := { program := "ytckjededijgjgaadoor", sum := "1c6e7ebd4b77bb0733c676e8fc58dfd13ad769e282850cd85fb05938e9c0a0b5", func := "shard/shardlaw1.TextJoins", spec := "textJoins", inPlace := ["internal/abi.NoEscape"], unfollowed := true, recurses := true, named := ["shard/text.kindSpans", "internal/strconv.uint64pow10", "math/bits.deBruijn32tab", "math/bits.deBruijn64tab"], apart := false, laid := [("math/bits.deBruijn32tab", laid_math_bits_deBruijn32tab), ("math/bits.deBruijn64tab", laid_math_bits_deBruijn64tab), ("internal/strconv.uint64pow10", laid_internal_strconv_uint64pow10), ("shard/text.kindSpans", laid_shard_text_kindSpans)] }
def TextJoinsSaid : Prop := textJoinsRow.holds Tryd.pinned (OpenSpec.ofChange textJoinsSpec)

/-- ITS FALSE NEIGHBOUR: 'it returns false'. Refute it at one input. -/
def textJoinsWrong : ChangeSpec := { name := "textJoins", fn := fun _ => fun
  | [d] => { results := [.lit (.bool false)], args := [d] }
  | _ => none }
def TextJoinsWrongFalsely : Prop := textJoinsRow.holds Tryd.pinned (OpenSpec.ofChange textJoinsWrong)

/-- 'shardlaw1.TextDigits': WHATEVER THE INPUT: true; the input reads as it did. -/
def textDigitsSpec : ChangeSpec := { name := "textDigits", fn := fun _ => fun
  | [d1, d2] => { results := [.lit (.bool true)], args := [d1, d2] }
  | _ => none }
def textDigitsRow : OpenClaim := { program := "ytckjededijgjgaadoor", sum := "1c6e7ebd4b77bb0733c676e8fc58dfd13ad769e282850cd85fb05938e9c0a0b5", func := "shard/shardlaw1.TextDigits", spec := "textDigits", inPlace := ["internal/abi.NoEscape", "internal/bytealg.MakeNoZero"], named := ["internal/strconv.uint64pow10", "math/bits.deBruijn32tab", "math/bits.deBruijn64tab"], apart := false, laid := [("math/bits.deBruijn32tab", laid_math_bits_deBruijn32tab), ("math/bits.deBruijn64tab", laid_math_bits_deBruijn64tab), ("internal/strconv.uint64pow10", laid_internal_strconv_uint64pow10)] }
def TextDigitsSaid : Prop := textDigitsRow.holds Tryd.pinned (OpenSpec.ofChange textDigitsSpec)

/-- ITS FALSE NEIGHBOUR: 'it returns false'. Refute it at one input. -/
def textDigitsWrong : ChangeSpec := { name := "textDigits", fn := fun _ => fun
  | [d1, d2] => { results := [.lit (.bool false)], args := [d1, d2] }
  | _ => none }
def TextDigitsWrongFalsely : Prop := textDigitsRow.holds Tryd.pinned (OpenSpec.ofChange textDigitsWrong)

/-- 'shardlaw1.TextCounts': WHATEVER THE INPUT: true; the input reads as it did. -/
def textCountsSpec : ChangeSpec := { name := "textCounts", fn := fun _ => fun
  | [d] => { results := [.lit (.bool true)], args := [d] }
  | _ => none }
def textCountsRow : OpenClaim := { program := "ytckjededijgjgaadoor", sum := "1c6e7ebd4b77bb0733c676e8fc58dfd13ad769e282850cd85fb05938e9c0a0b5", func := "shard/shardlaw1.TextCounts", spec := "textCounts", inPlace := ["internal/abi.NoEscape", "internal/bytealg.MakeNoZero"], named := ["internal/strconv.uint64pow10", "math/bits.deBruijn32tab", "math/bits.deBruijn64tab"], apart := false, laid := [("math/bits.deBruijn32tab", laid_math_bits_deBruijn32tab), ("math/bits.deBruijn64tab", laid_math_bits_deBruijn64tab), ("internal/strconv.uint64pow10", laid_internal_strconv_uint64pow10)] }
def TextCountsSaid : Prop := textCountsRow.holds Tryd.pinned (OpenSpec.ofChange textCountsSpec)

/-- ITS FALSE NEIGHBOUR: 'it returns false'. Refute it at one input. -/
def textCountsWrong : ChangeSpec := { name := "textCounts", fn := fun _ => fun
  | [d] => { results := [.lit (.bool false)], args := [d] }
  | _ => none }
def TextCountsWrongFalsely : Prop := textCountsRow.holds Tryd.pinned (OpenSpec.ofChange textCountsWrong)

/-- 'shardlaw1.TextComesBack': WHATEVER THE INPUT: true; the input reads as it did. -/
def textComesBackSpec : ChangeSpec := { name := "textComesBack", fn := fun _ => fun
  | [d] => { results := [.lit (.bool true)], args := [d] }
  | _ => none }
def textComesBackRow : OpenClaim := { program := "ytckjededijgjgaadoor", sum := "1c6e7ebd4b77bb0733c676e8fc58dfd13ad769e282850cd85fb05938e9c0a0b5", func := "shard/shardlaw1.TextComesBack", spec := "textComesBack", inPlace := ["internal/abi.NoEscape"], unfollowed := true, recurses := true, named := ["internal/strconv.uint64pow10", "math/bits.deBruijn32tab", "math/bits.deBruijn64tab", "shard/text.kindSpans"], apart := false, laid := [("math/bits.deBruijn32tab", laid_math_bits_deBruijn32tab), ("math/bits.deBruijn64tab", laid_math_bits_deBruijn64tab), ("internal/strconv.uint64pow10", laid_internal_strconv_uint64pow10), ("shard/text.kindSpans", laid_shard_text_kindSpans)] }
def TextComesBackSaid : Prop := textComesBackRow.holds Tryd.pinned (OpenSpec.ofChange textComesBackSpec)

/-- ITS FALSE NEIGHBOUR: 'it returns false'. Refute it at one input. -/
def textComesBackWrong : ChangeSpec := { name := "textComesBack", fn := fun _ => fun
  | [d] => { results := [.lit (.bool false)], args := [d] }
  | _ => none }
def TextComesBackWrongFalsely : Prop := textComesBackRow.holds Tryd.pinned (OpenSpec.ofChange textComesBackWrong)

/-- 'shardlaw1.TextFits': WHATEVER THE INPUT: true; the input reads as it did. -/
def textFitsSpec : ChangeSpec := { name := "textFits", fn := fun _ => fun
  | [d1, d2, d3] => { results := [.lit (.bool true)], args := [d1, d2, d3] }
  | _ => none }
def textFitsRow : OpenClaim := { program := "ytckjededijgjgaadoor", sum := "1c6e7ebd4b77bb0733c676e8fc58dfd13ad769e282850cd85fb05938e9c0a0b5", func := "shard/shardlaw1.TextFits", spec := "textFits", inPlace := ["internal/abi.NoEscape"], unfollowed := true, recurses := true, named := ["shard/text.kindSpans"], apart := false, laid := [("shard/text.kindSpans", laid_shard_text_kindSpans)] }
def TextFitsSaid : Prop := textFitsRow.holds Tryd.pinned (OpenSpec.ofChange textFitsSpec)

/-- ITS FALSE NEIGHBOUR: 'it returns false'. Refute it at one input. -/
def textFitsWrong : ChangeSpec := { name := "textFits", fn := fun _ => fun
  | [d1, d2, d3] => { results := [.lit (.bool false)], args := [d1, d2, d3] }
  | _ => none }
def TextFitsWrongFalsely : Prop := textFitsRow.holds Tryd.pinned (OpenSpec.ofChange textFitsWrong)

/-- 'shardlaw1.TextLine': WHATEVER THE INPUT: true; the input reads as it did. -/
def textLineSpec : ChangeSpec := { name := "textLine", fn := fun _ => fun
  | [d1, d2, d3] => { results := [.lit (.bool true)], args := [d1, d2, d3] }
  | _ => none }
def textLineRow : OpenClaim := { program := "ytckjededijgjgaadoor", sum := "1c6e7ebd4b77bb0733c676e8fc58dfd13ad769e282850cd85fb05938e9c0a0b5", func := "shard/shardlaw1.TextLine", spec := "textLine", inPlace := ["internal/abi.NoEscape"], unfollowed := true, recurses := true, named := ["internal/strconv.uint64pow10", "math/bits.deBruijn32tab", "math/bits.deBruijn64tab", "shard/text.kindSpans"], apart := false, laid := [("math/bits.deBruijn32tab", laid_math_bits_deBruijn32tab), ("math/bits.deBruijn64tab", laid_math_bits_deBruijn64tab), ("internal/strconv.uint64pow10", laid_internal_strconv_uint64pow10), ("shard/text.kindSpans", laid_shard_text_kindSpans)] }
def TextLineSaid : Prop := textLineRow.holds Tryd.pinned (OpenSpec.ofChange textLineSpec)

/-- ITS FALSE NEIGHBOUR: 'it returns false'. Refute it at one input. -/
def textLineWrong : ChangeSpec := { name := "textLine", fn := fun _ => fun
  | [d1, d2, d3] => { results := [.lit (.bool false)], args := [d1, d2, d3] }
  | _ => none }
def TextLineWrongFalsely : Prop := textLineRow.holds Tryd.pinned (OpenSpec.ofChange textLineWrong)

/-- 'shardlaw1.TextBare': WHATEVER THE INPUT: true; the input reads as it did. -/
def textBareSpec : ChangeSpec := { name := "textBare", fn := fun _ => fun
  | [d] => { results := [.lit (.bool true)], args := [d] }
  | _ => none }
def textBareRow : OpenClaim := { program := "ytckjededijgjgaadoor", sum := "1c6e7ebd4b77bb0733c676e8fc58dfd13ad769e282850cd85fb05938e9c0a0b5", func := "shard/shardlaw1.TextBare", spec := "textBare", inPlace := ["internal/abi.NoEscape"], unfollowed := true, recurses := true, named := ["shard/text.kindSpans", "internal/strconv.uint64pow10", "math/bits.deBruijn32tab", "math/bits.deBruijn64tab"], apart := false, laid := [("math/bits.deBruijn32tab", laid_math_bits_deBruijn32tab), ("math/bits.deBruijn64tab", laid_math_bits_deBruijn64tab), ("internal/strconv.uint64pow10", laid_internal_strconv_uint64pow10), ("shard/text.kindSpans", laid_shard_text_kindSpans)] }
def TextBareSaid : Prop := textBareRow.holds Tryd.pinned (OpenSpec.ofChange textBareSpec)

/-- ITS FALSE NEIGHBOUR: 'it returns false'. Refute it at one input. -/
def textBareWrong : ChangeSpec := { name := "textBare", fn := fun _ => fun
  | [d] => { results := [.lit (.bool false)], args := [d] }
  | _ => none }
def TextBareWrongFalsely : Prop := textBareRow.holds Tryd.pinned (OpenSpec.ofChange textBareWrong)

/-- 'shardlaw1.TextUnquotes': WHATEVER THE INPUT: true; the input reads as it did. -/
def textUnquotesSpec : ChangeSpec := { name := "textUnquotes", fn := fun _ => fun
  | [d] => { results := [.lit (.bool true)], args := [d] }
  | _ => none }
def textUnquotesRow : OpenClaim := { program := "ytckjededijgjgaadoor", sum := "1c6e7ebd4b77bb0733c676e8fc58dfd13ad769e282850cd85fb05938e9c0a0b5", func := "shard/shardlaw1.TextUnquotes", spec := "textUnquotes", inPlace := ["internal/abi.NoEscape"], unfollowed := true, recurses := true, named := ["shard/text.kindSpans"], apart := false, laid := [("shard/text.kindSpans", laid_shard_text_kindSpans)] }
def TextUnquotesSaid : Prop := textUnquotesRow.holds Tryd.pinned (OpenSpec.ofChange textUnquotesSpec)

/-- ITS FALSE NEIGHBOUR: 'it returns false'. Refute it at one input. -/
def textUnquotesWrong : ChangeSpec := { name := "textUnquotes", fn := fun _ => fun
  | [d] => { results := [.lit (.bool false)], args := [d] }
  | _ => none }
def TextUnquotesWrongFalsely : Prop := textUnquotesRow.holds Tryd.pinned (OpenSpec.ofChange textUnquotesWrong)

/-- 'shardlaw1.TextWords': WHATEVER THE INPUT: true; the input reads as it did. -/
def textWordsSpec : ChangeSpec := { name := "textWords", fn := fun _ => fun
  | [d] => { results := [.lit (.bool true)], args := [d] }
  | _ => none }
def textWordsRow : OpenClaim := { program := "ytckjededijgjgaadoor", sum := "1c6e7ebd4b77bb0733c676e8fc58dfd13ad769e282850cd85fb05938e9c0a0b5", func := "shard/shardlaw1.TextWords", spec := "textWords", inPlace := ["internal/abi.NoEscape"], unfollowed := true, recurses := true, named := ["shard/text.kindSpans"], apart := false, laid := [("shard/text.kindSpans", laid_shard_text_kindSpans)] }
def TextWordsSaid : Prop := textWordsRow.holds Tryd.pinned (OpenSpec.ofChange textWordsSpec)

/-- ITS FALSE NEIGHBOUR: 'it returns false'. Refute it at one input. -/
def textWordsWrong : ChangeSpec := { name := "textWords", fn := fun _ => fun
  | [d] => { results := [.lit (.bool false)], args := [d] }
  | _ => none }
def TextWordsWrongFalsely : Prop := textWordsRow.holds Tryd.pinned (OpenSpec.ofChange textWordsWrong)

/-- 'shardlaw1.TextColumns': WHATEVER THE INPUT: true; the input reads as it did. -/
def textColumnsSpec : ChangeSpec := { name := "textColumns", fn := fun _ => fun
  | [d1, d2, d3] => { results := [.lit (.bool true)], args := [d1, d2, d3] }
  | _ => none }
def textColumnsRow : OpenClaim := { program := "ytckjededijgjgaadoor", sum := "1c6e7ebd4b77bb0733c676e8fc58dfd13ad769e282850cd85fb05938e9c0a0b5", func := "shard/shardlaw1.TextColumns", spec := "textColumns", inPlace := ["internal/abi.NoEscape"], unfollowed := true, recurses := true, named := ["shard/text.kindSpans"], apart := false, laid := [("shard/text.kindSpans", laid_shard_text_kindSpans)] }
def TextColumnsSaid : Prop := textColumnsRow.holds Tryd.pinned (OpenSpec.ofChange textColumnsSpec)

/-- ITS FALSE NEIGHBOUR: 'it returns false'. Refute it at one input. -/
def textColumnsWrong : ChangeSpec := { name := "textColumns", fn := fun _ => fun
  | [d1, d2, d3] => { results := [.lit (.bool false)], args := [d1, d2, d3] }
  | _ => none }
def TextColumnsWrongFalsely : Prop := textColumnsRow.holds Tryd.pinned (OpenSpec.ofChange textColumnsWrong)

/-- 'shardlaw1.TextTables': WHATEVER THE INPUT: true; the input reads as it did. -/
def textTablesSpec : ChangeSpec := { name := "textTables", fn := fun _ => fun
  | [d] => { results := [.lit (.bool true)], args := [d] }
  | _ => none }
def textTablesRow : OpenClaim := { program := "ytckjededijgjgaadoor", sum := "1c6e7ebd4b77bb0733c676e8fc58dfd13ad769e282850cd85fb05938e9c0a0b5", func := "shard/shardlaw1.TextTables", spec := "textTables", inPlace := ["internal/abi.NoEscape"], unfollowed := true, recurses := true, named := ["shard/text.kindSpans"], apart := false, laid := [("shard/text.kindSpans", laid_shard_text_kindSpans)] }
def TextTablesSaid : Prop := textTablesRow.holds Tryd.pinned (OpenSpec.ofChange textTablesSpec)

/-- ITS FALSE NEIGHBOUR: 'it returns false'. Refute it at one input. -/
def textTablesWrong : ChangeSpec := { name := "textTables", fn := fun _ => fun
  | [d] => { results := [.lit (.bool false)], args := [d] }
  | _ => none }
def TextTablesWrongFalsely : Prop := textTablesRow.holds Tryd.pinned (OpenSpec.ofChange textTablesWrong)

/-- 'shardlaw1.TextAgain': WHATEVER THE INPUT: true; the input reads as it did. -/
def textAgainSpec : ChangeSpec := { name := "textAgain", fn := fun _ => fun
  | [d1, d2, d3] => { results := [.lit (.bool true)], args := [d1, d2, d3] }
  | _ => none }
def textAgainRow : OpenClaim := { program := "ytckjededijgjgaadoor", sum := "1c6e7ebd4b77bb0733c676e8fc58dfd13ad769e282850cd85fb05938e9c0a0b5", func := "shard/shardlaw1.TextAgain", spec := "textAgain", inPlace := ["internal/abi.NoEscape"], unfollowed := true, recurses := true, named := ["shard/text.kindSpans", "internal/strconv.uint64pow10", "math/bits.deBruijn32tab", "math/bits.deBruijn64tab"], apart := false, laid := [("math/bits.deBruijn32tab", laid_math_bits_deBruijn32tab), ("math/bits.deBruijn64tab", laid_math_bits_deBruijn64tab), ("internal/strconv.uint64pow10", laid_internal_strconv_uint64pow10), ("shard/text.kindSpans", laid_shard_text_kindSpans)] }
def TextAgainSaid : Prop := textAgainRow.holds Tryd.pinned (OpenSpec.ofChange textAgainSpec)

/-- ITS FALSE NEIGHBOUR: 'it returns false'. Refute it at one input. -/
def textAgainWrong : ChangeSpec := { name := "textAgain", fn := fun _ => fun
  | [d1, d2, d3] => { results := [.lit (.bool false)], args := [d1, d2, d3] }
  | _ => none }
def TextAgainWrongFalsely : Prop := textAgainRow.holds Tryd.pinned (OpenSpec.ofChange textAgainWrong)

/- THE SECOND FORM. 'bulk': how many values and letters a reading holds, each counted each time it is reached (what is shared counts as often as it is met; a slice's spare places count too). A statement '..UptoSaid' is the law's where the arguments, and the package variables that the reading takes, are together of bulk at most 1048576: NARROWER than '..Said'. Prove '..Said' where nothing that the law and all that it calls make is longer than what came in: it says more and counts as full. Else prove '..UptoSaid'. A law counts once. -/
mutual
def uptoBulk {H : Type} : DataW H → Nat
  | .lit (.string bytes) => bytes.length + 1
  | .lit _ => 1
  | .nil => 1
  | .ptr d => uptoBulk d + 1
  | .slice elems spare => uptoBulkAll elems + uptoBulkAll spare + 1
  | .agg parts => uptoBulkAll parts + 1
  | .iface _ d => uptoBulk d + 1
  | .map entries => uptoBulkEntries entries + 1
  | .held _ => 1
def uptoBulkAll {H : Type} : List (DataW H) → Nat
  | [] => 0
  | d :: r => uptoBulk d + uptoBulkAll r
def uptoBulkEntries {H : Type} : List (Lit × DataW H) → Nat
  | [] => 0
  | x :: r => uptoBulkEntry x + uptoBulkEntries r
def uptoBulkEntry {H : Type} : Lit × DataW H → Nat
  | (.string bytes, d) => bytes.length + uptoBulk d + 1
  | (_, d) => uptoBulk d + 1
 end
def uptoSmall : (H : Type) → List (DataW H) → Bool := fun _ ds => decide (uptoBulkAll ds ≤ 1048576)
def OpenSpec.upto (s : _root_.Go.ChangeSpec) : _root_.Go.OpenSpec := { _root_.Go.OpenSpec.ofChange s with cond := some uptoSmall }

/-- 'shardlaw1.TextEncodes', WHERE WHAT IT READS IS OF BULK AT MOST 1048576: true; the input reads as it did. -/
def textEncodesUptoRow : OpenClaim := { program := "ytckjededijgjgaadoor", sum := "1c6e7ebd4b77bb0733c676e8fc58dfd13ad769e282850cd85fb05938e9c0a0b5", func := "shard/shardlaw1.TextEncodes", spec := "textEncodes", named := ["shard/text.kindSpans"], apart := false, laid := [("shard/text.kindSpans", laid_shard_text_kindSpans)], narrowed := true }
def TextEncodesUptoSaid : Prop := textEncodesUptoRow.holds Tryd.pinned (OpenSpec.upto textEncodesSpec)

/-- 'shardlaw1.TextFolds', WHERE WHAT IT READS IS OF BULK AT MOST 1048576: true; the input reads as it did. -/
def textFoldsUptoRow : OpenClaim := { program := "ytckjededijgjgaadoor", sum := "1c6e7ebd4b77bb0733c676e8fc58dfd13ad769e282850cd85fb05938e9c0a0b5", func := "shard/shardlaw1.TextFolds", spec := "textFolds", inPlace := ["internal/abi.NoEscape"], unfollowed := true, recurses := true, named := ["shard/text.letterSpans"], apart := false, laid := [("shard/text.letterSpans", laid_shard_text_letterSpans)], narrowed := true }
def TextFoldsUptoSaid : Prop := textFoldsUptoRow.holds Tryd.pinned (OpenSpec.upto textFoldsSpec)

/-- 'shardlaw1.TextQuotes', WHERE WHAT IT READS IS OF BULK AT MOST 1048576: true; the input reads as it did. -/
def textQuotesUptoRow : OpenClaim := { program := "ytckjededijgjgaadoor", sum := "1c6e7ebd4b77bb0733c676e8fc58dfd13ad769e282850cd85fb05938e9c0a0b5", func := "shard/shardlaw1.TextQuotes", spec := "textQuotes", inPlace := ["internal/abi.NoEscape"], unfollowed := true, recurses := true, named := ["internal/strconv.uint64pow10", "math/bits.deBruijn32tab", "math/bits.deBruijn64tab", "shard/text.kindSpans"], apart := false, laid := [("math/bits.deBruijn32tab", laid_math_bits_deBruijn32tab), ("math/bits.deBruijn64tab", laid_math_bits_deBruijn64tab), ("internal/strconv.uint64pow10", laid_internal_strconv_uint64pow10), ("shard/text.kindSpans", laid_shard_text_kindSpans)], narrowed := true }
def TextQuotesUptoSaid : Prop := textQuotesUptoRow.holds Tryd.pinned (OpenSpec.upto textQuotesSpec)

/-- 'shardlaw1.TextNames', WHERE WHAT IT READS IS OF BULK AT MOST 1048576: true; the input reads as it did. -/
def textNamesUptoRow : OpenClaim := { program := "ytckjededijgjgaadoor", sum := "1c6e7ebd4b77bb0733c676e8fc58dfd13ad769e282850cd85fb05938e9c0a0b5", func := "shard/shardlaw1.TextNames", spec := "textNames", inPlace := ["internal/abi.NoEscape"], unfollowed := true, recurses := true, named := ["shard/text.letterSpans"], apart := false, laid := [("shard/text.letterSpans", laid_shard_text_letterSpans)], narrowed := true }
def TextNamesUptoSaid : Prop := textNamesUptoRow.holds Tryd.pinned (OpenSpec.upto textNamesSpec)

/-- 'shardlaw1.TextJoins', WHERE WHAT IT READS IS OF BULK AT MOST 1048576: true; the input reads as it did. -/
def textJoinsUptoRow : OpenClaim := { program := "ytckjededijgjgaadoor", sum := "1c6e7ebd4b77bb0733c676e8fc58dfd13ad769e282850cd85fb05938e9c0a0b5", func := "shard/shardlaw1.TextJoins", spec := "textJoins", inPlace := ["internal/abi.NoEscape"], unfollowed := true, recurses := true, named := ["shard/text.kindSpans", "internal/strconv.uint64pow10", "math/bits.deBruijn32tab", "math/bits.deBruijn64tab"], apart := false, laid := [("math/bits.deBruijn32tab", laid_math_bits_deBruijn32tab), ("math/bits.deBruijn64tab", laid_math_bits_deBruijn64tab), ("internal/strconv.uint64pow10", laid_internal_strconv_uint64pow10), ("shard/text.kindSpans", laid_shard_text_kindSpans)], narrowed := true }
def TextJoinsUptoSaid : Prop := textJoinsUptoRow.holds Tryd.pinned (OpenSpec.upto textJoinsSpec)

/-- 'shardlaw1.TextDigits', WHERE WHAT IT READS IS OF BULK AT MOST 1048576: true; the input reads as it did. -/
def textDigitsUptoRow : OpenClaim := { program := "ytckjededijgjgaadoor", sum := "1c6e7ebd4b77bb0733c676e8fc58dfd13ad769e282850cd85fb05938e9c0a0b5", func := "shard/shardlaw1.TextDigits", spec := "textDigits", inPlace := ["internal/abi.NoEscape", "internal/bytealg.MakeNoZero"], named := ["internal/strconv.uint64pow10", "math/bits.deBruijn32tab", "math/bits.deBruijn64tab"], apart := false, laid := [("math/bits.deBruijn32tab", laid_math_bits_deBruijn32tab), ("math/bits.deBruijn64tab", laid_math_bits_deBruijn64tab), ("internal/strconv.uint64pow10", laid_internal_strconv_uint64pow10)], narrowed := true }
def TextDigitsUptoSaid : Prop := textDigitsUptoRow.holds Tryd.pinned (OpenSpec.upto textDigitsSpec)

/-- 'shardlaw1.TextCounts', WHERE WHAT IT READS IS OF BULK AT MOST 1048576: true; the input reads as it did. -/
def textCountsUptoRow : OpenClaim := { program := "ytckjededijgjgaadoor", sum := "1c6e7ebd4b77bb0733c676e8fc58dfd13ad769e282850cd85fb05938e9c0a0b5", func := "shard/shardlaw1.TextCounts", spec := "textCounts", inPlace := ["internal/abi.NoEscape", "internal/bytealg.MakeNoZero"], named := ["internal/strconv.uint64pow10", "math/bits.deBruijn32tab", "math/bits.deBruijn64tab"], apart := false, laid := [("math/bits.deBruijn32tab", laid_math_bits_deBruijn32tab), ("math/bits.deBruijn64tab", laid_math_bits_deBruijn64tab), ("internal/strconv.uint64pow10", laid_internal_strconv_uint64pow10)], narrowed := true }
def TextCountsUptoSaid : Prop := textCountsUptoRow.holds Tryd.pinned (OpenSpec.upto textCountsSpec)

/-- 'shardlaw1.TextComesBack', WHERE WHAT IT READS IS OF BULK AT MOST 1048576: true; the input reads as it did. -/
def textComesBackUptoRow : OpenClaim := { program := "ytckjededijgjgaadoor", sum := "1c6e7ebd4b77bb0733c676e8fc58dfd13ad769e282850cd85fb05938e9c0a0b5", func := "shard/shardlaw1.TextComesBack", spec := "textComesBack", inPlace := ["internal/abi.NoEscape"], unfollowed := true, recurses := true, named := ["internal/strconv.uint64pow10", "math/bits.deBruijn32tab", "math/bits.deBruijn64tab", "shard/text.kindSpans"], apart := false, laid := [("math/bits.deBruijn32tab", laid_math_bits_deBruijn32tab), ("math/bits.deBruijn64tab", laid_math_bits_deBruijn64tab), ("internal/strconv.uint64pow10", laid_internal_strconv_uint64pow10), ("shard/text.kindSpans", laid_shard_text_kindSpans)], narrowed := true }
def TextComesBackUptoSaid : Prop := textComesBackUptoRow.holds Tryd.pinned (OpenSpec.upto textComesBackSpec)

/-- 'shardlaw1.TextFits', WHERE WHAT IT READS IS OF BULK AT MOST 1048576: true; the input reads as it did. -/
def textFitsUptoRow : OpenClaim := { program := "ytckjededijgjgaadoor", sum := "1c6e7ebd4b77bb0733c676e8fc58dfd13ad769e282850cd85fb05938e9c0a0b5", func := "shard/shardlaw1.TextFits", spec := "textFits", inPlace := ["internal/abi.NoEscape"], unfollowed := true, recurses := true, named := ["shard/text.kindSpans"], apart := false, laid := [("shard/text.kindSpans", laid_shard_text_kindSpans)], narrowed := true }
def TextFitsUptoSaid : Prop := textFitsUptoRow.holds Tryd.pinned (OpenSpec.upto textFitsSpec)

/-- 'shardlaw1.TextLine', WHERE WHAT IT READS IS OF BULK AT MOST 1048576: true; the input reads as it did. -/
def textLineUptoRow : OpenClaim := { program := "ytckjededijgjgaadoor", sum := "1c6e7ebd4b77bb0733c676e8fc58dfd13ad769e282850cd85fb05938e9c0a0b5", func := "shard/shardlaw1.TextLine", spec := "textLine", inPlace := ["internal/abi.NoEscape"], unfollowed := true, recurses := true, named := ["internal/strconv.uint64pow10", "math/bits.deBruijn32tab", "math/bits.deBruijn64tab", "shard/text.kindSpans"], apart := false, laid := [("math/bits.deBruijn32tab", laid_math_bits_deBruijn32tab), ("math/bits.deBruijn64tab", laid_math_bits_deBruijn64tab), ("internal/strconv.uint64pow10", laid_internal_strconv_uint64pow10), ("shard/text.kindSpans", laid_shard_text_kindSpans)], narrowed := true }
def TextLineUptoSaid : Prop := textLineUptoRow.holds Tryd.pinned (OpenSpec.upto textLineSpec)

/-- 'shardlaw1.TextBare', WHERE WHAT IT READS IS OF BULK AT MOST 1048576: true; the input reads as it did. -/
def textBareUptoRow : OpenClaim := { program := "ytckjededijgjgaadoor", sum := "1c6e7ebd4b77bb0733c676e8fc58dfd13ad769e282850cd85fb05938e9c0a0b5", func := "shard/shardlaw1.TextBare", spec := "textBare", inPlace := ["internal/abi.NoEscape"], unfollowed := true, recurses := true, named := ["shard/text.kindSpans", "internal/strconv.uint64pow10", "math/bits.deBruijn32tab", "math/bits.deBruijn64tab"], apart := false, laid := [("math/bits.deBruijn32tab", laid_math_bits_deBruijn32tab), ("math/bits.deBruijn64tab", laid_math_bits_deBruijn64tab), ("internal/strconv.uint64pow10", laid_internal_strconv_uint64pow10), ("shard/text.kindSpans", laid_shard_text_kindSpans)], narrowed := true }
def TextBareUptoSaid : Prop := textBareUptoRow.holds Tryd.pinned (OpenSpec.upto textBareSpec)

/-- 'shardlaw1.TextUnquotes', WHERE WHAT IT READS IS OF BULK AT MOST 1048576: true; the input reads as it did. -/
def textUnquotesUptoRow : OpenClaim := { program := "ytckjededijgjgaadoor", sum := "1c6e7ebd4b77bb0733c676e8fc58dfd13ad769e282850cd85fb05938e9c0a0b5", func := "shard/shardlaw1.TextUnquotes", spec := "textUnquotes", inPlace := ["internal/abi.NoEscape"], unfollowed := true, recurses := true, named := ["shard/text.kindSpans"], apart := false, laid := [("shard/text.kindSpans", laid_shard_text_kindSpans)], narrowed := true }
def TextUnquotesUptoSaid : Prop := textUnquotesUptoRow.holds Tryd.pinned (OpenSpec.upto textUnquotesSpec)

/-- 'shardlaw1.TextWords', WHERE WHAT IT READS IS OF BULK AT MOST 1048576: true; the input reads as it did. -/
def textWordsUptoRow : OpenClaim := { program := "ytckjededijgjgaadoor", sum := "1c6e7ebd4b77bb0733c676e8fc58dfd13ad769e282850cd85fb05938e9c0a0b5", func := "shard/shardlaw1.TextWords", spec := "textWords", inPlace := ["internal/abi.NoEscape"], unfollowed := true, recurses := true, named := ["shard/text.kindSpans"], apart := false, laid := [("shard/text.kindSpans", laid_shard_text_kindSpans)], narrowed := true }
def TextWordsUptoSaid : Prop := textWordsUptoRow.holds Tryd.pinned (OpenSpec.upto textWordsSpec)

/-- 'shardlaw1.TextColumns', WHERE WHAT IT READS IS OF BULK AT MOST 1048576: true; the input reads as it did. -/
def textColumnsUptoRow : OpenClaim := { program := "ytckjededijgjgaadoor", sum := "1c6e7ebd4b77bb0733c676e8fc58dfd13ad769e282850cd85fb05938e9c0a0b5", func := "shard/shardlaw1.TextColumns", spec := "textColumns", inPlace := ["internal/abi.NoEscape"], unfollowed := true, recurses := true, named := ["shard/text.kindSpans"], apart := false, laid := [("shard/text.kindSpans", laid_shard_text_kindSpans)], narrowed := true }
def TextColumnsUptoSaid : Prop := textColumnsUptoRow.holds Tryd.pinned (OpenSpec.upto textColumnsSpec)

/-- 'shardlaw1.TextTables', WHERE WHAT IT READS IS OF BULK AT MOST 1048576: true; the input reads as it did. -/
def textTablesUptoRow : OpenClaim := { program := "ytckjededijgjgaadoor", sum := "1c6e7ebd4b77bb0733c676e8fc58dfd13ad769e282850cd85fb05938e9c0a0b5", func := "shard/shardlaw1.TextTables", spec := "textTables", inPlace := ["internal/abi.NoEscape"], unfollowed := true, recurses := true, named := ["shard/text.kindSpans"], apart := false, laid := [("shard/text.kindSpans", laid_shard_text_kindSpans)], narrowed := true }
def TextTablesUptoSaid : Prop := textTablesUptoRow.holds Tryd.pinned (OpenSpec.upto textTablesSpec)

/-- 'shardlaw1.TextAgain', WHERE WHAT IT READS IS OF BULK AT MOST 1048576: true; the input reads as it did. -/
def textAgainUptoRow : OpenClaim := { program := "ytckjededijgjgaadoor", sum := "1c6e7ebd4b77bb0733c676e8fc58dfd13ad769e282850cd85fb05938e9c0a0b5", func := "shard/shardlaw1.TextAgain", spec := "textAgain", inPlace := ["internal/abi.NoEscape"], unfollowed := true, recurses := true, named := ["shard/text.kindSpans", "internal/strconv.uint64pow10", "math/bits.deBruijn32tab", "math/bits.deBruijn64tab"], apart := false, laid := [("math/bits.deBruijn32tab", laid_math_bits_deBruijn32tab), ("math/bits.deBruijn64tab", laid_math_bits_deBruijn64tab), ("internal/strconv.uint64pow10", laid_internal_strconv_uint64pow10), ("shard/text.kindSpans", laid_shard_text_kindSpans)], narrowed := true }
def TextAgainUptoSaid : Prop := textAgainUptoRow.holds Tryd.pinned (OpenSpec.upto textAgainSpec)

end Rows
end Go.Proofs.YtckjededijgjgaaDoor
