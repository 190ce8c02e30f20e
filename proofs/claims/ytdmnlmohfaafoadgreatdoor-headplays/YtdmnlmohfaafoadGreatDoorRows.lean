/-
  NARROWER THAN 'FOR EVERY INPUT', by the rows' own cells (each row's printed sentence says how): CodeSeries: laid · HeadPlays: laid.
  DERIVED. THE GIVEN ROWS OF THIS SEAT. 2 by the template 'for every input the law returns true; each argument reads behind the call as it read before'; 0 by the template 'total and deterministic' (their statements: YtdmnlmohfaafoadGreatDoorTotals.lean).
  GIVEN WITH THE SEED: the statements are not yours to turn. If you find one false, say at which input.
  Laid BY PROGRAM, IN A SANDBOX (cutbox-rows.mjs): the forced cells as the released guide's own fill.sh prints them over the translation 81d3f4a73c873ab6… (all of the seat's roots in one cut). By AI agents, Wed Nov 11 2026. No macro, syntax, notation, axiom, sorry.
-/
import Derived.Test.YtdmnlmohfaafoadGreatDoorChecked
import GoSem.Claim
import GoSem.ClaimJoined
import GoSem.ClaimMapViews
import Derived.JoinedTies
import Derived.KernelRfl
namespace Go.Proofs.YtdmnlmohfaafoadGreatDoor
/- THE CELL 'sum', in the pinned program and in every row, IS THE sha256 OF THE DUMP (.gsa) THAT YtdmnlmohfaafoadGreatDoorProg.lean LOADS. Nothing in Lean hashes anything: it is a label: what it is worth is what the hold of that sum in a sandbox is worth. -/
noncomputable def Tryz.pinned : Pinned := { name := "ytdmnlmohfaafoadgreatdoor", sum := "81d3f4a73c873ab6bf0773c15525deac51b1f0fbd2c057a41c75c265e5180091", checked := Tryz.checked }
namespace Rows
def none {H : Type} : Left H := { results := [], args := [] }

/- WHAT THE LISTED PACKAGE-LEVEL VARIABLES READ AS WHEN THE CALL BEGINS. Each datum BY PROGRAM (the guide's laid-datum.mjs) off the statement by which the dump's own 'gosem.cut.vars' lays the variable. In a bare row this is a premise. The card (YtdmnlmohfaafoadGreatDoorCards.lean) ties it to the program's text. -/
def laid_errors_errorType {H : Type} : DataW H := .iface "internal/reflectlite.rtype" (.agg [.ptr (.lit (.string [101, 114, 114, 111, 114]))])
def laid_raingauge_bits_widths {H : Type} : DataW H := .agg [.lit (.int .i64 0), .lit (.int .i64 4), .lit (.int .i64 7), .lit (.int .i64 12), .lit (.int .i64 20), .lit (.int .i64 32), .lit (.int .i64 64)]
def laid_raingauge_raingaugeref_Fine {H : Type} : DataW H := .agg [.lit (.int .i64 0), .lit (.int .i64 (-1))]

/-- 'raingaugelaw.CodeSeries': WHATEVER THE INPUT: true; the input reads as it did. -/
def codeSeriesSpec : ChangeSpec := { name := "codeSeries", fn := fun _ => fun
  | [d1, d2] => { results := [.lit (.bool true)], args := [d1, d2] }
  | _ => none }
def codeSeriesRow : OpenClaim := { program := "ytdmnlmohfaafoadgreatdoor", sum := "81d3f4a73c873ab6bf0773c15525deac51b1f0fbd2c057a41c75c265e5180091", func := "raingauge/raingaugelaw.CodeSeries", spec := "codeSeries", inPlace := ["internal/abi.NoEscape", "internal/bytealg.MakeNoZero", "internal/reflectlite.ValueOf", "(internal/reflectlite.Value).Type", "(internal/reflectlite.Value).IsNil", "internal/reflectlite.TypeOf", "(internal/reflectlite.Value).Elem", "(internal/reflectlite.Value).Set"], unfollowed := true, recurses := true, named := ["raingauge/raingaugeref.Fine", "raingauge/bits.widths", "errors.errorType"], apart := false, laid := [("errors.errorType", laid_errors_errorType), ("raingauge/bits.widths", laid_raingauge_bits_widths), ("raingauge/raingaugeref.Fine", laid_raingauge_raingaugeref_Fine)] }
def CodeSeriesSaid : Prop := codeSeriesRow.holds Tryz.pinned (OpenSpec.ofChange codeSeriesSpec)

/-- ITS FALSE NEIGHBOUR: 'it returns false'. Refute it at one input. -/
def codeSeriesWrong : ChangeSpec := { name := "codeSeries", fn := fun _ => fun
  | [d1, d2] => { results := [.lit (.bool false)], args := [d1, d2] }
  | _ => none }
def CodeSeriesWrongFalsely : Prop := codeSeriesRow.holds Tryz.pinned (OpenSpec.ofChange codeSeriesWrong)

/-- 'raingaugelaw.HeadPlays': WHATEVER THE INPUT: true; the input reads as it did. -/
def headPlaysSpec : ChangeSpec := { name := "headPlays", fn := fun _ => fun
  | [d1, d2, d3] => { results := [.lit (.bool true)], args := [d1, d2, d3] }
  | _ => none }
def headPlaysRow : OpenClaim := { program := "ytdmnlmohfaafoadgreatdoor", sum := "81d3f4a73c873ab6bf0773c15525deac51b1f0fbd2c057a41c75c265e5180091", func := "raingauge/raingaugelaw.HeadPlays", spec := "headPlays", inPlace := ["slices.overlaps[raingauge/api.Series]", "internal/reflectlite.ValueOf", "internal/reflectlite.Swapper", "(internal/reflectlite.Value).Len", "(internal/reflectlite.Value).Type", "(internal/reflectlite.Value).IsNil", "internal/reflectlite.TypeOf", "(internal/reflectlite.Value).Elem", "(internal/reflectlite.Value).Set"], unfollowed := true, recurses := true, named := ["raingauge/raingaugeref.Fine", "errors.errorType"], apart := false, laid := [("errors.errorType", laid_errors_errorType), ("raingauge/raingaugeref.Fine", laid_raingauge_raingaugeref_Fine)] }
def HeadPlaysSaid : Prop := headPlaysRow.holds Tryz.pinned (OpenSpec.ofChange headPlaysSpec)

/-- ITS FALSE NEIGHBOUR: 'it returns false'. Refute it at one input. -/
def headPlaysWrong : ChangeSpec := { name := "headPlays", fn := fun _ => fun
  | [d1, d2, d3] => { results := [.lit (.bool false)], args := [d1, d2, d3] }
  | _ => none }
def HeadPlaysWrongFalsely : Prop := headPlaysRow.holds Tryz.pinned (OpenSpec.ofChange headPlaysWrong)

/- THE SECOND FORM. 'bulk': how many values and letters a reading holds, each counted each time it is reached (what is shared counts as often as it is met; a slice's spare places count too). A statement '..UptoSaid' is the law's where the arguments, and the package variables that the reading takes, are together of bulk at most 1048576: NARROWER than '..Said'. Prove '..Said' where nothing that the law and all that it calls make is longer than what came in: it says more and counts as full. Else prove '..UptoSaid'. A law counts once. -/
mutual
def uptoBulk {H : Type} : DataW H → Nat
  | .lit (.string bytes) => bytes.length + 1
  | .lit _ => 1
  | .nil => 1
  | .ptr d => uptoBulk d + 1
  | .slice elems spare => uptoBulkAll elems + uptoBulkAll spare + 1
  | .agg parts => uptoBulkAll parts + 1
  | .iface _ d => uptoBulk d + 1
  | .map entries => uptoBulkEntries entries + 1
  | .held _ => 1
def uptoBulkAll {H : Type} : List (DataW H) → Nat
  | [] => 0
  | d :: r => uptoBulk d + uptoBulkAll r
def uptoBulkEntries {H : Type} : List (Lit × DataW H) → Nat
  | [] => 0
  | x :: r => uptoBulkEntry x + uptoBulkEntries r
def uptoBulkEntry {H : Type} : Lit × DataW H → Nat
  | (.string bytes, d) => bytes.length + uptoBulk d + 1
  | (_, d) => uptoBulk d + 1
 end
def uptoSmall : (H : Type) → List (DataW H) → Bool := fun _ ds => decide (uptoBulkAll ds ≤ 1048576)
def OpenSpec.upto (s : _root_.Go.ChangeSpec) : _root_.Go.OpenSpec := { _root_.Go.OpenSpec.ofChange s with cond := some uptoSmall }

/-- 'raingaugelaw.CodeSeries', WHERE WHAT IT READS IS OF BULK AT MOST 1048576: true; the input reads as it did. -/
def codeSeriesUptoRow : OpenClaim := { program := "ytdmnlmohfaafoadgreatdoor", sum := "81d3f4a73c873ab6bf0773c15525deac51b1f0fbd2c057a41c75c265e5180091", func := "raingauge/raingaugelaw.CodeSeries", spec := "codeSeries", inPlace := ["internal/abi.NoEscape", "internal/bytealg.MakeNoZero", "internal/reflectlite.ValueOf", "(internal/reflectlite.Value).Type", "(internal/reflectlite.Value).IsNil", "internal/reflectlite.TypeOf", "(internal/reflectlite.Value).Elem", "(internal/reflectlite.Value).Set"], unfollowed := true, recurses := true, named := ["raingauge/raingaugeref.Fine", "raingauge/bits.widths", "errors.errorType"], apart := false, laid := [("errors.errorType", laid_errors_errorType), ("raingauge/bits.widths", laid_raingauge_bits_widths), ("raingauge/raingaugeref.Fine", laid_raingauge_raingaugeref_Fine)], narrowed := true }
def CodeSeriesUptoSaid : Prop := codeSeriesUptoRow.holds Tryz.pinned (OpenSpec.upto codeSeriesSpec)

/-- 'raingaugelaw.HeadPlays', WHERE WHAT IT READS IS OF BULK AT MOST 1048576: true; the input reads as it did. -/
def headPlaysUptoRow : OpenClaim := { program := "ytdmnlmohfaafoadgreatdoor", sum := "81d3f4a73c873ab6bf0773c15525deac51b1f0fbd2c057a41c75c265e5180091", func := "raingauge/raingaugelaw.HeadPlays", spec := "headPlays", inPlace := ["slices.overlaps[raingauge/api.Series]", "internal/reflectlite.ValueOf", "internal/reflectlite.Swapper", "(internal/reflectlite.Value).Len", "(internal/reflectlite.Value).Type", "(internal/reflectlite.Value).IsNil", "internal/reflectlite.TypeOf", "(internal/reflectlite.Value).Elem", "(internal/reflectlite.Value).Set"], unfollowed := true, recurses := true, named := ["raingauge/raingaugeref.Fine", "errors.errorType"], apart := false, laid := [("errors.errorType", laid_errors_errorType), ("raingauge/raingaugeref.Fine", laid_raingauge_raingaugeref_Fine)], narrowed := true }
def HeadPlaysUptoSaid : Prop := headPlaysUptoRow.holds Tryz.pinned (OpenSpec.upto headPlaysSpec)

end Rows
end Go.Proofs.YtdmnlmohfaafoadGreatDoor
