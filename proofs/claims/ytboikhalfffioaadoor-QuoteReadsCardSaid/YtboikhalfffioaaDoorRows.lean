/-
  NARROWER THAN 'FOR EVERY INPUT', by the rows' own cells (each row's printed sentence says how): QuoteReads: laid · QuoteWords: laid · QuoteLines: laid · QuoteBack: laid · QuoteUnlike: laid · QuoteJoins: laid.
  DERIVED. THE GIVEN ROWS OF THIS SEAT. 6 by the template 'for every input the law returns true; each argument reads behind the call as it read before'; 0 by the template 'total and deterministic' (their statements: YtboikhalfffioaaDoorTotals.lean).
  GIVEN WITH THE SEED: the statements are not yours to turn. If you find one false, say at which input.
  Laid BY PROGRAM, IN A SANDBOX (cutbox-rows.mjs): the forced cells as the released guide's own fill.sh prints them over the translation 51ad3086689c4865… (all of the seat's roots in one cut). By AI agents, Wed Nov 11 2026. No macro, syntax, notation, axiom, sorry.
-/
import Derived.Test.YtboikhalfffioaaDoorChecked
import GoSem.Claim
import GoSem.ClaimJoined
import GoSem.ClaimMapViews
import Derived.JoinedTies
import Derived.KernelRfl
namespace Go.Proofs.YtboikhalfffioaaDoor
/- THE CELL 'sum', in the pinned program and in every row, IS THE sha256 OF THE DUMP (.gsa) THAT YtboikhalfffioaaDoorProg.lean LOADS. Nothing in Lean hashes anything: it is a label: what it is worth is what the hold of that sum in a sandbox is worth. -/
noncomputable def Tryd.pinned : Pinned := { name := "ytboikhalfffioaadoor", sum := "51ad3086689c48651eecf09976ff5ea50ca07b2b7f4741ff744193d77935f61e", checked := Tryd.checked }
namespace Rows
def none {H : Type} : Left H := { results := [], args := [] }

/- WHAT THE LISTED PACKAGE-LEVEL VARIABLES READ AS WHEN THE CALL BEGINS. Each datum BY PROGRAM (the guide's laid-datum.mjs) off the statement by which the dump's own 'gosem.cut.vars' lays the variable. In a bare row this is a premise. The card (YtboikhalfffioaaDoorCards.lean) ties it to the program's text. -/
def laid_math_bits_deBruijn32tab {H : Type} : DataW H := .agg [.lit (.int .u8 0), .lit (.int .u8 1), .lit (.int .u8 28), .lit (.int .u8 2), .lit (.int .u8 29), .lit (.int .u8 14), .lit (.int .u8 24), .lit (.int .u8 3), .lit (.int .u8 30), .lit (.int .u8 22), .lit (.int .u8 20), .lit (.int .u8 15), .lit (.int .u8 25), .lit (.int .u8 17), .lit (.int .u8 4), .lit (.int .u8 8), .lit (.int .u8 31), .lit (.int .u8 27), .lit (.int .u8 13), .lit (.int .u8 23), .lit (.int .u8 21), .lit (.int .u8 19), .lit (.int .u8 16), .lit (.int .u8 7), .lit (.int .u8 26), .lit (.int .u8 12), .lit (.int .u8 18), .lit (.int .u8 6), .lit (.int .u8 11), .lit (.int .u8 5), .lit (.int .u8 10), .lit (.int .u8 9)]
def laid_math_bits_deBruijn64tab {H : Type} : DataW H := .agg [.lit (.int .u8 0), .lit (.int .u8 1), .lit (.int .u8 56), .lit (.int .u8 2), .lit (.int .u8 57), .lit (.int .u8 49), .lit (.int .u8 28), .lit (.int .u8 3), .lit (.int .u8 61), .lit (.int .u8 58), .lit (.int .u8 42), .lit (.int .u8 50), .lit (.int .u8 38), .lit (.int .u8 29), .lit (.int .u8 17), .lit (.int .u8 4), .lit (.int .u8 62), .lit (.int .u8 47), .lit (.int .u8 59), .lit (.int .u8 36), .lit (.int .u8 45), .lit (.int .u8 43), .lit (.int .u8 51), .lit (.int .u8 22), .lit (.int .u8 53), .lit (.int .u8 39), .lit (.int .u8 33), .lit (.int .u8 30), .lit (.int .u8 24), .lit (.int .u8 18), .lit (.int .u8 12), .lit (.int .u8 5), .lit (.int .u8 63), .lit (.int .u8 55), .lit (.int .u8 48), .lit (.int .u8 27), .lit (.int .u8 60), .lit (.int .u8 41), .lit (.int .u8 37), .lit (.int .u8 16), .lit (.int .u8 46), .lit (.int .u8 35), .lit (.int .u8 44), .lit (.int .u8 21), .lit (.int .u8 52), .lit (.int .u8 32), .lit (.int .u8 23), .lit (.int .u8 11), .lit (.int .u8 54), .lit (.int .u8 26), .lit (.int .u8 40), .lit (.int .u8 15), .lit (.int .u8 34), .lit (.int .u8 20), .lit (.int .u8 31), .lit (.int .u8 10), .lit (.int .u8 25), .lit (.int .u8 14), .lit (.int .u8 19), .lit (.int .u8 9), .lit (.int .u8 13), .lit (.int .u8 8), .lit (.int .u8 7), .lit (.int .u8 6)]
def laid_internal_strconv_uint64pow10 {H : Type} : DataW H := .agg [.lit (.int .u64 1), .lit (.int .u64 10), .lit (.int .u64 100), .lit (.int .u64 1000), .lit (.int .u64 10000), .lit (.int .u64 100000), .lit (.int .u64 1000000), .lit (.int .u64 10000000), .lit (.int .u64 100000000), .lit (.int .u64 1000000000), .lit (.int .u64 10000000000), .lit (.int .u64 100000000000), .lit (.int .u64 1000000000000), .lit (.int .u64 10000000000000), .lit (.int .u64 100000000000000), .lit (.int .u64 1000000000000000), .lit (.int .u64 10000000000000000), .lit (.int .u64 100000000000000000), .lit (.int .u64 1000000000000000000), .lit (.int .u64 10000000000000000000)]
def laid_galley_quote_errNone {H : Type} : DataW H := .iface "*errors.errorString" (.ptr (.agg [.lit (.string [110, 111, 32, 116, 101, 120, 116, 32, 111, 102, 32, 83, 104, 111, 119])]))
def laid_galley_quote_words {H : Type} : DataW H := .agg [.agg [.lit (.int .i64 0), .lit (.string [110, 111, 32, 101, 114, 114, 111, 114])], .agg [.lit (.int .i64 1), .lit (.string [98, 97, 100, 32, 97, 114, 103, 117, 109, 101, 110, 116])], .agg [.lit (.int .i64 2), .lit (.string [116, 111, 111, 32, 108, 111, 110, 103])], .agg [.lit (.int .i64 20), .lit (.string [98, 97, 100, 32, 110, 97, 109, 101])], .agg [.lit (.int .i64 21), .lit (.string [110, 111, 32, 115, 117, 99, 104, 32, 102, 105, 108, 101])], .agg [.lit (.int .i64 22), .lit (.string [110, 111, 32, 114, 111, 111, 109])], .agg [.lit (.int .i64 23), .lit (.string [105, 110, 112, 117, 116, 32, 111, 114, 32, 111, 117, 116, 112, 117, 116, 32, 102, 97, 105, 108, 101, 100])], .agg [.lit (.int .i64 24), .lit (.string [116, 104, 101, 32, 112, 111, 119, 101, 114, 32, 105, 115, 32, 103, 111, 110, 101])], .agg [.lit (.int .i64 30), .lit (.string [98, 97, 100, 32, 114, 97, 110, 103, 101])], .agg [.lit (.int .i64 31), .lit (.string [110, 111, 32, 115, 117, 99, 104, 32, 99, 108, 97, 115, 115])], .agg [.lit (.int .i64 32), .lit (.string [98, 114, 97, 99, 107, 101, 116, 32, 110, 111, 116, 32, 99, 108, 111, 115, 101, 100])], .agg [.lit (.int .i64 40), .lit (.string [98, 97, 100, 32, 101, 115, 99, 97, 112, 101])], .agg [.lit (.int .i64 41), .lit (.string [117, 110, 112, 97, 105, 114, 101, 100, 32, 112, 97, 114, 101, 110, 116, 104, 101, 115, 105, 115])], .agg [.lit (.int .i64 42), .lit (.string [110, 111, 116, 104, 105, 110, 103, 32, 116, 111, 32, 114, 101, 112, 101, 97, 116])], .agg [.lit (.int .i64 43), .lit (.string [98, 97, 100, 32, 99, 111, 117, 110, 116])], .agg [.lit (.int .i64 44), .lit (.string [110, 111, 32, 115, 117, 99, 104, 32, 103, 114, 111, 117, 112])], .agg [.lit (.int .i64 45), .lit (.string [101, 109, 112, 116, 121, 32, 114, 101, 103, 101, 120])], .agg [.lit (.int .i64 46), .lit (.string [110, 101, 115, 116, 101, 100, 32, 116, 111, 111, 32, 100, 101, 101, 112])], .agg [.lit (.int .i64 47), .lit (.string [116, 111, 111, 32, 109, 97, 110, 121, 32, 103, 114, 111, 117, 112, 115])], .agg [.lit (.int .i64 48), .lit (.string [116, 111, 111, 32, 104, 101, 97, 118, 121])], .agg [.lit (.int .i64 49), .lit (.string [110, 111, 32, 114, 101, 103, 101, 120])], .agg [.lit (.int .i64 50), .lit (.string [99, 97, 110, 110, 111, 116, 32, 98, 101, 32, 115, 112, 101, 108, 108, 101, 100])], .agg [.lit (.int .i64 51), .lit (.string [116, 111, 111, 32, 109, 97, 110, 121, 32, 115, 116, 97, 116, 101, 115])], .agg [.lit (.int .i64 52), .lit (.string [102, 117, 101, 108, 32, 105, 115, 32, 103, 111, 110, 101])], .agg [.lit (.int .i64 60), .lit (.string [98, 97, 100, 32, 116, 97, 98, 108, 101])], .agg [.lit (.int .i64 61), .lit (.string [98, 97, 100, 32, 114, 101, 112, 108, 97, 99, 101, 109, 101, 110, 116])], .agg [.lit (.int .i64 62), .lit (.string [115, 112, 97, 99, 101, 32, 105, 115, 32, 102, 117, 108, 108])], .agg [.lit (.int .i64 70), .lit (.string [110, 111, 116, 32, 99, 108, 111, 115, 101, 100])], .agg [.lit (.int .i64 71), .lit (.string [98, 97, 100, 32, 97, 100, 100, 114, 101, 115, 115])], .agg [.lit (.int .i64 72), .lit (.string [98, 97, 100, 32, 99, 111, 109, 109, 97, 110, 100])], .agg [.lit (.int .i64 73), .lit (.string [110, 111, 32, 116, 101, 120, 116])], .agg [.lit (.int .i64 74), .lit (.string [98, 97, 100, 32, 102, 108, 97, 103])], .agg [.lit (.int .i64 75), .lit (.string [98, 97, 100, 32, 108, 97, 98, 101, 108])], .agg [.lit (.int .i64 76), .lit (.string [117, 110, 112, 97, 105, 114, 101, 100, 32, 98, 114, 97, 99, 101])], .agg [.lit (.int .i64 77), .lit (.string [98, 97, 100, 32, 102, 105, 108, 101])], .agg [.lit (.int .i64 78), .lit (.string [109, 111, 114, 101, 32, 116, 104, 97, 110, 32, 97, 32, 99, 111, 109, 109, 97, 110, 100])], .agg [.lit (.int .i64 80), .lit (.string [115, 116, 101, 112, 115, 32, 97, 114, 101, 32, 103, 111, 110, 101])], .agg [.lit (.int .i64 81), .lit (.string [99, 97, 110, 110, 111, 116, 32, 119, 114, 105, 116, 101])], .agg [.lit (.int .i64 90), .lit (.string [98, 97, 100, 32, 111, 112, 116, 105, 111, 110])], .agg [.lit (.int .i64 91), .lit (.string [98, 97, 100, 32, 117, 115, 101])], .agg [.lit (.int .i64 100), .lit (.string [98, 97, 100, 32, 108, 105, 110, 101])]]

/-- 'galleylaw02.QuoteReads': WHATEVER THE INPUT: true; the input reads as it did. -/
def quoteReadsSpec : ChangeSpec := { name := "quoteReads", fn := fun _ => fun
  | [d] => { results := [.lit (.bool true)], args := [d] }
  | _ => none }
def quoteReadsRow : OpenClaim := { program := "ytboikhalfffioaadoor", sum := "51ad3086689c48651eecf09976ff5ea50ca07b2b7f4741ff744193d77935f61e", func := "galley/galleylaw02.QuoteReads", spec := "quoteReads", inPlace := ["internal/bytealg.IndexByteString", "internal/abi.NoEscape", "internal/reflectlite.TypeOf"], unfollowed := true, recurses := true, named := ["galley/quote.errNone", "internal/strconv.uint64pow10", "math/bits.deBruijn32tab", "math/bits.deBruijn64tab", "galley/quote.words"], apart := false, laid := [("math/bits.deBruijn32tab", laid_math_bits_deBruijn32tab), ("math/bits.deBruijn64tab", laid_math_bits_deBruijn64tab), ("internal/strconv.uint64pow10", laid_internal_strconv_uint64pow10), ("galley/quote.errNone", laid_galley_quote_errNone), ("galley/quote.words", laid_galley_quote_words)] }
def QuoteReadsSaid : Prop := quoteReadsRow.holds Tryd.pinned (OpenSpec.ofChange quoteReadsSpec)

/-- ITS FALSE NEIGHBOUR: 'it returns false'. Refute it at one input. -/
def quoteReadsWrong : ChangeSpec := { name := "quoteReads", fn := fun _ => fun
  | [d] => { results := [.lit (.bool false)], args := [d] }
  | _ => none }
def QuoteReadsWrongFalsely : Prop := quoteReadsRow.holds Tryd.pinned (OpenSpec.ofChange quoteReadsWrong)

/-- 'galleylaw02.QuoteWords': WHATEVER THE INPUT: true; the input reads as it did. -/
def quoteWordsSpec : ChangeSpec := { name := "quoteWords", fn := fun _ => fun
  | [d] => { results := [.lit (.bool true)], args := [d] }
  | _ => none }
def quoteWordsRow : OpenClaim := { program := "ytboikhalfffioaadoor", sum := "51ad3086689c48651eecf09976ff5ea50ca07b2b7f4741ff744193d77935f61e", func := "galley/galleylaw02.QuoteWords", spec := "quoteWords", inPlace := ["internal/abi.NoEscape", "internal/bytealg.IndexByteString", "internal/reflectlite.TypeOf"], unfollowed := true, recurses := true, named := ["galley/quote.words", "internal/strconv.uint64pow10", "math/bits.deBruijn32tab", "math/bits.deBruijn64tab", "galley/quote.errNone"], apart := false, laid := [("math/bits.deBruijn32tab", laid_math_bits_deBruijn32tab), ("math/bits.deBruijn64tab", laid_math_bits_deBruijn64tab), ("internal/strconv.uint64pow10", laid_internal_strconv_uint64pow10), ("galley/quote.errNone", laid_galley_quote_errNone), ("galley/quote.words", laid_galley_quote_words)] }
def QuoteWordsSaid : Prop := quoteWordsRow.holds Tryd.pinned (OpenSpec.ofChange quoteWordsSpec)

/-- ITS FALSE NEIGHBOUR: 'it returns false'. Refute it at one input. -/
def quoteWordsWrong : ChangeSpec := { name := "quoteWords", fn := fun _ => fun
  | [d] => { results := [.lit (.bool false)], args := [d] }
  | _ => none }
def QuoteWordsWrongFalsely : Prop := quoteWordsRow.holds Tryd.pinned (OpenSpec.ofChange quoteWordsWrong)

/-- 'galleylaw02.QuoteLines': WHATEVER THE INPUT: true; the input reads as it did. -/
def quoteLinesSpec : ChangeSpec := { name := "quoteLines", fn := fun _ => fun
  | [d] => { results := [.lit (.bool true)], args := [d] }
  | _ => none }
def quoteLinesRow : OpenClaim := { program := "ytboikhalfffioaadoor", sum := "51ad3086689c48651eecf09976ff5ea50ca07b2b7f4741ff744193d77935f61e", func := "galley/galleylaw02.QuoteLines", spec := "quoteLines", inPlace := ["internal/abi.NoEscape", "internal/bytealg.IndexByteString", "internal/reflectlite.TypeOf"], unfollowed := true, recurses := true, named := ["galley/quote.words", "internal/strconv.uint64pow10", "math/bits.deBruijn32tab", "math/bits.deBruijn64tab", "galley/quote.errNone"], apart := false, laid := [("math/bits.deBruijn32tab", laid_math_bits_deBruijn32tab), ("math/bits.deBruijn64tab", laid_math_bits_deBruijn64tab), ("internal/strconv.uint64pow10", laid_internal_strconv_uint64pow10), ("galley/quote.errNone", laid_galley_quote_errNone), ("galley/quote.words", laid_galley_quote_words)] }
def QuoteLinesSaid : Prop := quoteLinesRow.holds Tryd.pinned (OpenSpec.ofChange quoteLinesSpec)

/-- ITS FALSE NEIGHBOUR: 'it returns false'. Refute it at one input. -/
def quoteLinesWrong : ChangeSpec := { name := "quoteLines", fn := fun _ => fun
  | [d] => { results := [.lit (.bool false)], args := [d] }
  | _ => none }
def QuoteLinesWrongFalsely : Prop := quoteLinesRow.holds Tryd.pinned (OpenSpec.ofChange quoteLinesWrong)

/-- 'galleylaw02.QuoteBack': WHATEVER THE INPUT: true; the input reads as it did. -/
def quoteBackSpec : ChangeSpec := { name := "quoteBack", fn := fun _ => fun
  | [d1, d2, d3] => { results := [.lit (.bool true)], args := [d1, d2, d3] }
  | _ => none }
def quoteBackRow : OpenClaim := { program := "ytboikhalfffioaadoor", sum := "51ad3086689c48651eecf09976ff5ea50ca07b2b7f4741ff744193d77935f61e", func := "galley/galleylaw02.QuoteBack", spec := "quoteBack", inPlace := ["internal/abi.NoEscape", "internal/bytealg.IndexByteString", "internal/reflectlite.TypeOf"], unfollowed := true, recurses := true, named := ["galley/quote.errNone", "galley/quote.words", "internal/strconv.uint64pow10", "math/bits.deBruijn32tab", "math/bits.deBruijn64tab"], apart := false, laid := [("math/bits.deBruijn32tab", laid_math_bits_deBruijn32tab), ("math/bits.deBruijn64tab", laid_math_bits_deBruijn64tab), ("internal/strconv.uint64pow10", laid_internal_strconv_uint64pow10), ("galley/quote.errNone", laid_galley_quote_errNone), ("galley/quote.words", laid_galley_quote_words)] }
def QuoteBackSaid : Prop := quoteBackRow.holds Tryd.pinned (OpenSpec.ofChange quoteBackSpec)

/-- ITS FALSE NEIGHBOUR: 'it returns false'. Refute it at one input. -/
def quoteBackWrong : ChangeSpec := { name := "quoteBack", fn := fun _ => fun
  | [d1, d2, d3] => { results := [.lit (.bool false)], args := [d1, d2, d3] }
  | _ => none }
def QuoteBackWrongFalsely : Prop := quoteBackRow.holds Tryd.pinned (OpenSpec.ofChange quoteBackWrong)

/-- 'galleylaw02.QuoteUnlike': WHATEVER THE INPUT: true; the input reads as it did. -/
def quoteUnlikeSpec : ChangeSpec := { name := "quoteUnlike", fn := fun _ => fun
  | [d1, d2] => { results := [.lit (.bool true)], args := [d1, d2] }
  | _ => none }
def quoteUnlikeRow : OpenClaim := { program := "ytboikhalfffioaadoor", sum := "51ad3086689c48651eecf09976ff5ea50ca07b2b7f4741ff744193d77935f61e", func := "galley/galleylaw02.QuoteUnlike", spec := "quoteUnlike", inPlace := ["internal/abi.NoEscape", "internal/bytealg.IndexByteString", "internal/reflectlite.TypeOf"], unfollowed := true, recurses := true, named := ["galley/quote.words", "internal/strconv.uint64pow10", "math/bits.deBruijn32tab", "math/bits.deBruijn64tab", "galley/quote.errNone"], apart := false, laid := [("math/bits.deBruijn32tab", laid_math_bits_deBruijn32tab), ("math/bits.deBruijn64tab", laid_math_bits_deBruijn64tab), ("internal/strconv.uint64pow10", laid_internal_strconv_uint64pow10), ("galley/quote.errNone", laid_galley_quote_errNone), ("galley/quote.words", laid_galley_quote_words)] }
def QuoteUnlikeSaid : Prop := quoteUnlikeRow.holds Tryd.pinned (OpenSpec.ofChange quoteUnlikeSpec)

/-- ITS FALSE NEIGHBOUR: 'it returns false'. Refute it at one input. -/
def quoteUnlikeWrong : ChangeSpec := { name := "quoteUnlike", fn := fun _ => fun
  | [d1, d2] => { results := [.lit (.bool false)], args := [d1, d2] }
  | _ => none }
def QuoteUnlikeWrongFalsely : Prop := quoteUnlikeRow.holds Tryd.pinned (OpenSpec.ofChange quoteUnlikeWrong)

/-- 'galleylaw02.QuoteJoins': WHATEVER THE INPUT: true; the input reads as it did. -/
def quoteJoinsSpec : ChangeSpec := { name := "quoteJoins", fn := fun _ => fun
  | [d1, d2] => { results := [.lit (.bool true)], args := [d1, d2] }
  | _ => none }
def quoteJoinsRow : OpenClaim := { program := "ytboikhalfffioaadoor", sum := "51ad3086689c48651eecf09976ff5ea50ca07b2b7f4741ff744193d77935f61e", func := "galley/galleylaw02.QuoteJoins", spec := "quoteJoins", inPlace := ["internal/abi.NoEscape", "internal/bytealg.IndexByteString", "internal/reflectlite.TypeOf"], unfollowed := true, recurses := true, named := ["galley/quote.errNone", "galley/quote.words", "internal/strconv.uint64pow10", "math/bits.deBruijn32tab", "math/bits.deBruijn64tab"], apart := false, laid := [("math/bits.deBruijn32tab", laid_math_bits_deBruijn32tab), ("math/bits.deBruijn64tab", laid_math_bits_deBruijn64tab), ("internal/strconv.uint64pow10", laid_internal_strconv_uint64pow10), ("galley/quote.errNone", laid_galley_quote_errNone), ("galley/quote.words", laid_galley_quote_words)] }
def QuoteJoinsSaid : Prop := quoteJoinsRow.holds Tryd.pinned (OpenSpec.ofChange quoteJoinsSpec)

/-- ITS FALSE NEIGHBOUR: 'it returns false'. Refute it at one input. -/
def quoteJoinsWrong : ChangeSpec := { name := "quoteJoins", fn := fun _ => fun
  | [d1, d2] => { results := [.lit (.bool false)], args := [d1, d2] }
  | _ => none }
def QuoteJoinsWrongFalsely : Prop := quoteJoinsRow.holds Tryd.pinned (OpenSpec.ofChange quoteJoinsWrong)

/- THE SECOND FORM. 'bulk': how many values and letters a reading holds, each counted each time it is reached (what is shared counts as often as it is met; a slice's spare places count too). A statement '..UptoSaid' is the law's where the arguments, and the package variables that the reading takes, are together of bulk at most 1048576: NARROWER than '..Said'. Prove '..Said' where nothing that the law and all that it calls make is longer than what came in: it says more and counts as full. Else prove '..UptoSaid'. A law counts once. -/
mutual
def uptoBulk {H : Type} : DataW H → Nat
  | .lit (.string bytes) => bytes.length + 1
  | .lit _ => 1
  | .nil => 1
  | .ptr d => uptoBulk d + 1
  | .slice elems spare => uptoBulkAll elems + uptoBulkAll spare + 1
  | .agg parts => uptoBulkAll parts + 1
  | .iface _ d => uptoBulk d + 1
  | .map entries => uptoBulkEntries entries + 1
  | .held _ => 1
def uptoBulkAll {H : Type} : List (DataW H) → Nat
  | [] => 0
  | d :: r => uptoBulk d + uptoBulkAll r
def uptoBulkEntries {H : Type} : List (Lit × DataW H) → Nat
  | [] => 0
  | x :: r => uptoBulkEntry x + uptoBulkEntries r
def uptoBulkEntry {H : Type} : Lit × DataW H → Nat
  | (.string bytes, d) => bytes.length + uptoBulk d + 1
  | (_, d) => uptoBulk d + 1
 end
def uptoSmall : (H : Type) → List (DataW H) → Bool := fun _ ds => decide (uptoBulkAll ds ≤ 1048576)
def OpenSpec.upto (s : _root_.Go.ChangeSpec) : _root_.Go.OpenSpec := { _root_.Go.OpenSpec.ofChange s with cond := some uptoSmall }

/-- 'galleylaw02.QuoteReads', WHERE WHAT IT READS IS OF BULK AT MOST 1048576: true; the input reads as it did. -/
def quoteReadsUptoRow : OpenClaim := { program := "ytboikhalfffioaadoor", sum := "51ad3086689c48651eecf09976ff5ea50ca07b2b7f4741ff744193d77935f61e", func := "galley/galleylaw02.QuoteReads", spec := "quoteReads", inPlace := ["internal/bytealg.IndexByteString", "internal/abi.NoEscape", "internal/reflectlite.TypeOf"], unfollowed := true, recurses := true, named := ["galley/quote.errNone", "internal/strconv.uint64pow10", "math/bits.deBruijn32tab", "math/bits.deBruijn64tab", "galley/quote.words"], apart := false, laid := [("math/bits.deBruijn32tab", laid_math_bits_deBruijn32tab), ("math/bits.deBruijn64tab", laid_math_bits_deBruijn64tab), ("internal/strconv.uint64pow10", laid_internal_strconv_uint64pow10), ("galley/quote.errNone", laid_galley_quote_errNone), ("galley/quote.words", laid_galley_quote_words)], narrowed := true }
def QuoteReadsUptoSaid : Prop := quoteReadsUptoRow.holds Tryd.pinned (OpenSpec.upto quoteReadsSpec)

/-- 'galleylaw02.QuoteWords', WHERE WHAT IT READS IS OF BULK AT MOST 1048576: true; the input reads as it did. -/
def quoteWordsUptoRow : OpenClaim := { program := "ytboikhalfffioaadoor", sum := "51ad3086689c48651eecf09976ff5ea50ca07b2b7f4741ff744193d77935f61e", func := "galley/galleylaw02.QuoteWords", spec := "quoteWords", inPlace := ["internal/abi.NoEscape", "internal/bytealg.IndexByteString", "internal/reflectlite.TypeOf"], unfollowed := true, recurses := true, named := ["galley/quote.words", "internal/strconv.uint64pow10", "math/bits.deBruijn32tab", "math/bits.deBruijn64tab", "galley/quote.errNone"], apart := false, laid := [("math/bits.deBruijn32tab", laid_math_bits_deBruijn32tab), ("math/bits.deBruijn64tab", laid_math_bits_deBruijn64tab), ("internal/strconv.uint64pow10", laid_internal_strconv_uint64pow10), ("galley/quote.errNone", laid_galley_quote_errNone), ("galley/quote.words", laid_galley_quote_words)], narrowed := true }
def QuoteWordsUptoSaid : Prop := quoteWordsUptoRow.holds Tryd.pinned (OpenSpec.upto quoteWordsSpec)

/-- 'galleylaw02.QuoteLines', WHERE WHAT IT READS IS OF BULK AT MOST 1048576: true; the input reads as it did. -/
def quoteLinesUptoRow : OpenClaim := { program := "ytboikhalfffioaadoor", sum := "51ad3086689c48651eecf09976ff5ea50ca07b2b7f4741ff744193d77935f61e", func := "galley/galleylaw02.QuoteLines", spec := "quoteLines", inPlace := ["internal/abi.NoEscape", "internal/bytealg.IndexByteString", "internal/reflectlite.TypeOf"], unfollowed := true, recurses := true, named := ["galley/quote.words", "internal/strconv.uint64pow10", "math/bits.deBruijn32tab", "math/bits.deBruijn64tab", "galley/quote.errNone"], apart := false, laid := [("math/bits.deBruijn32tab", laid_math_bits_deBruijn32tab), ("math/bits.deBruijn64tab", laid_math_bits_deBruijn64tab), ("internal/strconv.uint64pow10", laid_internal_strconv_uint64pow10), ("galley/quote.errNone", laid_galley_quote_errNone), ("galley/quote.words", laid_galley_quote_words)], narrowed := true }
def QuoteLinesUptoSaid : Prop := quoteLinesUptoRow.holds Tryd.pinned (OpenSpec.upto quoteLinesSpec)

/-- 'galleylaw02.QuoteBack', WHERE WHAT IT READS IS OF BULK AT MOST 1048576: true; the input reads as it did. -/
def quoteBackUptoRow : OpenClaim := { program := "ytboikhalfffioaadoor", sum := "51ad3086689c48651eecf09976ff5ea50ca07b2b7f4741ff744193d77935f61e", func := "galley/galleylaw02.QuoteBack", spec := "quoteBack", inPlace := ["internal/abi.NoEscape", "internal/bytealg.IndexByteString", "internal/reflectlite.TypeOf"], unfollowed := true, recurses := true, named := ["galley/quote.errNone", "galley/quote.words", "internal/strconv.uint64pow10", "math/bits.deBruijn32tab", "math/bits.deBruijn64tab"], apart := false, laid := [("math/bits.deBruijn32tab", laid_math_bits_deBruijn32tab), ("math/bits.deBruijn64tab", laid_math_bits_deBruijn64tab), ("internal/strconv.uint64pow10", laid_internal_strconv_uint64pow10), ("galley/quote.errNone", laid_galley_quote_errNone), ("galley/quote.words", laid_galley_quote_words)], narrowed := true }
def QuoteBackUptoSaid : Prop := quoteBackUptoRow.holds Tryd.pinned (OpenSpec.upto quoteBackSpec)

/-- 'galleylaw02.QuoteUnlike', WHERE WHAT IT READS IS OF BULK AT MOST 1048576: true; the input reads as it did. -/
def quoteUnlikeUptoRow : OpenClaim := { program := "ytboikhalfffioaadoor", sum := "51ad3086689c48651eecf09976ff5ea50ca07b2b7f4741ff744193d77935f61e", func := "galley/galleylaw02.QuoteUnlike", spec := "quoteUnlike", inPlace := ["internal/abi.NoEscape", "internal/bytealg.IndexByteString", "internal/reflectlite.TypeOf"], unfollowed := true, recurses := true, named := ["galley/quote.words", "internal/strconv.uint64pow10", "math/bits.deBruijn32tab", "math/bits.deBruijn64tab", "galley/quote.errNone"], apart := false, laid := [("math/bits.deBruijn32tab", laid_math_bits_deBruijn32tab), ("math/bits.deBruijn64tab", laid_math_bits_deBruijn64tab), ("internal/strconv.uint64pow10", laid_internal_strconv_uint64pow10), ("galley/quote.errNone", laid_galley_quote_errNone), ("galley/quote.words", laid_galley_quote_words)], narrowed := true }
def QuoteUnlikeUptoSaid : Prop := quoteUnlikeUptoRow.holds Tryd.pinned (OpenSpec.upto quoteUnlikeSpec)

/-- 'galleylaw02.QuoteJoins', WHERE WHAT IT READS IS OF BULK AT MOST 1048576: true; the input reads as it did. -/
def quoteJoinsUptoRow : OpenClaim := { program := "ytboikhalfffioaadoor", sum := "51ad3086689c48651eecf09976ff5ea50ca07b2b7f4741ff744193d77935f61e", func := "galley/galleylaw02.QuoteJoins", spec := "quoteJoins", inPlace := ["internal/abi.NoEscape", "internal/bytealg.IndexByteString", "internal/reflectlite.TypeOf"], unfollowed := true, recurses := true, named := ["galley/quote.errNone", "galley/quote.words", "internal/strconv.uint64pow10", "math/bits.deBruijn32tab", "math/bits.deBruijn64tab"], apart := false, laid := [("math/bits.deBruijn32tab", laid_math_bits_deBruijn32tab), ("math/bits.deBruijn64tab", laid_math_bits_deBruijn64tab), ("internal/strconv.uint64pow10", laid_internal_strconv_uint64pow10), ("galley/quote.errNone", laid_galley_quote_errNone), ("galley/quote.words", laid_galley_quote_words)], narrowed := true }
def QuoteJoinsUptoSaid : Prop := quoteJoinsUptoRow.holds Tryd.pinned (OpenSpec.upto quoteJoinsSpec)

end Rows
end Go.Proofs.YtboikhalfffioaaDoor
