/-
  NARROWER THAN 'FOR EVERY INPUT', by the rows' own cells (each row's printed sentence says how): ChunkBack: laid · ChunkSmall: laid · RollUp: laid.
  DERIVED. THE GIVEN ROWS OF THIS SEAT. 3 by the template 'for every input the law returns true; each argument reads behind the call as it read before'; 0 by the template 'total and deterministic' (their statements: YtdmnlmohfaafoabDoorTotals.lean).
  GIVEN WITH THE SEED: the statements are not yours to turn. If you find one false, say at which input.
  Laid BY PROGRAM, IN A SANDBOX (cutbox-rows.mjs): the forced cells as the released guide's own fill.sh prints them over the translation f0b53369dd6a1c79… (all of the seat's roots in one cut). By AI agents, Wed Nov 11 2026. No macro, syntax, notation, axiom, sorry.
-/
import Derived.Test.YtdmnlmohfaafoabDoorChecked
import GoSem.Claim
import GoSem.ClaimJoined
import GoSem.ClaimMapViews
import Derived.JoinedTies
import Derived.KernelRfl
namespace Go.Proofs.YtdmnlmohfaafoabDoor
/- THE CELL 'sum', in the pinned program and in every row, IS THE sha256 OF THE DUMP (.gsa) THAT YtdmnlmohfaafoabDoorProg.lean LOADS. Nothing in Lean hashes anything: it is a label: what it is worth is what the hold of that sum in a sandbox is worth. -/
noncomputable def Tryd.pinned : Pinned := { name := "ytdmnlmohfaafoabdoor", sum := "f0b53369dd6a1c794cc81699770e74131f39adf7a2ac7ac68b22afa83313cd36", checked := Tryd.checked }
namespace Rows
def none {H : Type} : Left H := { results := [], args := [] }

/- WHAT THE LISTED PACKAGE-LEVEL VARIABLES READ AS WHEN THE CALL BEGINS. Each datum BY PROGRAM (the guide's laid-datum.mjs) off the statement by which the dump's own 'gosem.cut.vars' lays the variable. In a bare row this is a premise. The card (YtdmnlmohfaafoabDoorCards.lean) ties it to the program's text. -/
def laid_raingauge_bits_widths {H : Type} : DataW H := .agg [.lit (.int .i64 0), .lit (.int .i64 4), .lit (.int .i64 7), .lit (.int .i64 12), .lit (.int .i64 20), .lit (.int .i64 32), .lit (.int .i64 64)]
def laid_errors_errorType {H : Type} : DataW H := .iface "internal/reflectlite.rtype" (.agg [.ptr (.lit (.string [101, 114, 114, 111, 114]))])

/-- 'raingaugekeep.ChunkBack': WHATEVER THE INPUT: true; the input reads as it did. -/
def chunkBackSpec : ChangeSpec := { name := "chunkBack", fn := fun _ => fun
  | [d1, d2, d3] => { results := [.lit (.bool true)], args := [d1, d2, d3] }
  | _ => none }
def chunkBackRow : OpenClaim := { program := "ytdmnlmohfaafoabdoor", sum := "f0b53369dd6a1c794cc81699770e74131f39adf7a2ac7ac68b22afa83313cd36", func := "raingauge/raingaugekeep.ChunkBack", spec := "chunkBack", named := ["raingauge/bits.widths"], apart := false, laid := [("raingauge/bits.widths", laid_raingauge_bits_widths)] }
def ChunkBackSaid : Prop := chunkBackRow.holds Tryd.pinned (OpenSpec.ofChange chunkBackSpec)

/-- ITS FALSE NEIGHBOUR: 'it returns false'. Refute it at one input. -/
def chunkBackWrong : ChangeSpec := { name := "chunkBack", fn := fun _ => fun
  | [d1, d2, d3] => { results := [.lit (.bool false)], args := [d1, d2, d3] }
  | _ => none }
def ChunkBackWrongFalsely : Prop := chunkBackRow.holds Tryd.pinned (OpenSpec.ofChange chunkBackWrong)

/-- 'raingaugekeep.ChunkSmall': WHATEVER THE INPUT: true; the input reads as it did. -/
def chunkSmallSpec : ChangeSpec := { name := "chunkSmall", fn := fun _ => fun
  | [d1, d2, d3, d4] => { results := [.lit (.bool true)], args := [d1, d2, d3, d4] }
  | _ => none }
def chunkSmallRow : OpenClaim := { program := "ytdmnlmohfaafoabdoor", sum := "f0b53369dd6a1c794cc81699770e74131f39adf7a2ac7ac68b22afa83313cd36", func := "raingauge/raingaugekeep.ChunkSmall", spec := "chunkSmall", named := ["raingauge/bits.widths"], apart := false, laid := [("raingauge/bits.widths", laid_raingauge_bits_widths)] }
def ChunkSmallSaid : Prop := chunkSmallRow.holds Tryd.pinned (OpenSpec.ofChange chunkSmallSpec)

/-- ITS FALSE NEIGHBOUR: 'it returns false'. Refute it at one input. -/
def chunkSmallWrong : ChangeSpec := { name := "chunkSmall", fn := fun _ => fun
  | [d1, d2, d3, d4] => { results := [.lit (.bool false)], args := [d1, d2, d3, d4] }
  | _ => none }
def ChunkSmallWrongFalsely : Prop := chunkSmallRow.holds Tryd.pinned (OpenSpec.ofChange chunkSmallWrong)

/-- 'raingaugelaw.RollUp': WHATEVER THE INPUT: true; the input reads as it did. -/
def rollUpSpec : ChangeSpec := { name := "rollUp", fn := fun _ => fun
  | [d1, d2, d3, d4] => { results := [.lit (.bool true)], args := [d1, d2, d3, d4] }
  | _ => none }
def rollUpRow : OpenClaim := { program := "ytdmnlmohfaafoabdoor", sum := "f0b53369dd6a1c794cc81699770e74131f39adf7a2ac7ac68b22afa83313cd36", func := "raingauge/raingaugelaw.RollUp", spec := "rollUp", inPlace := ["internal/reflectlite.ValueOf", "internal/reflectlite.Swapper", "(internal/reflectlite.Value).Len", "(internal/reflectlite.Value).Type", "(internal/reflectlite.Value).IsNil", "internal/reflectlite.TypeOf", "(internal/reflectlite.Value).Elem", "(internal/reflectlite.Value).Set"], unfollowed := true, recurses := true, named := ["errors.errorType"], apart := false, laid := [("errors.errorType", laid_errors_errorType)] }
def RollUpSaid : Prop := rollUpRow.holds Tryd.pinned (OpenSpec.ofChange rollUpSpec)

/-- ITS FALSE NEIGHBOUR: 'it returns false'. Refute it at one input. -/
def rollUpWrong : ChangeSpec := { name := "rollUp", fn := fun _ => fun
  | [d1, d2, d3, d4] => { results := [.lit (.bool false)], args := [d1, d2, d3, d4] }
  | _ => none }
def RollUpWrongFalsely : Prop := rollUpRow.holds Tryd.pinned (OpenSpec.ofChange rollUpWrong)

/- THE SECOND FORM. 'bulk': how many values and letters a reading holds, each counted each time it is reached (what is shared counts as often as it is met; a slice's spare places count too). A statement '..UptoSaid' is the law's where the arguments, and the package variables that the reading takes, are together of bulk at most 1048576: NARROWER than '..Said'. Prove '..Said' where nothing that the law and all that it calls make is longer than what came in: it says more and counts as full. Else prove '..UptoSaid'. A law counts once. -/
mutual
def uptoBulk {H : Type} : DataW H → Nat
  | .lit (.string bytes) => bytes.length + 1
  | .lit _ => 1
  | .nil => 1
  | .ptr d => uptoBulk d + 1
  | .slice elems spare => uptoBulkAll elems + uptoBulkAll spare + 1
  | .agg parts => uptoBulkAll parts + 1
  | .iface _ d => uptoBulk d + 1
  | .map entries => uptoBulkEntries entries + 1
  | .held _ => 1
def uptoBulkAll {H : Type} : List (DataW H) → Nat
  | [] => 0
  | d :: r => uptoBulk d + uptoBulkAll r
def uptoBulkEntries {H : Type} : List (Lit × DataW H) → Nat
  | [] => 0
  | x :: r => uptoBulkEntry x + uptoBulkEntries r
def uptoBulkEntry {H : Type} : Lit × DataW H → Nat
  | (.string bytes, d) => bytes.length + uptoBulk d + 1
  | (_, d) => uptoBulk d + 1
 end
def uptoSmall : (H : Type) → List (DataW H) → Bool := fun _ ds => decide (uptoBulkAll ds ≤ 1048576)
def OpenSpec.upto (s : _root_.Go.ChangeSpec) : _root_.Go.OpenSpec := { _root_.Go.OpenSpec.ofChange s with cond := some uptoSmall }

/-- 'raingaugekeep.ChunkBack', WHERE WHAT IT READS IS OF BULK AT MOST 1048576: true; the input reads as it did. -/
def chunkBackUptoRow : OpenClaim := { program := "ytdmnlmohfaafoabdoor", sum := "f0b53369dd6a1c794cc81699770e74131f39adf7a2ac7ac68b22afa83313cd36", func := "raingauge/raingaugekeep.ChunkBack", spec := "chunkBack", named := ["raingauge/bits.widths"], apart := false, laid := [("raingauge/bits.widths", laid_raingauge_bits_widths)], narrowed := true }
def ChunkBackUptoSaid : Prop := chunkBackUptoRow.holds Tryd.pinned (OpenSpec.upto chunkBackSpec)

/-- 'raingaugekeep.ChunkSmall', WHERE WHAT IT READS IS OF BULK AT MOST 1048576: true; the input reads as it did. -/
def chunkSmallUptoRow : OpenClaim := { program := "ytdmnlmohfaafoabdoor", sum := "f0b53369dd6a1c794cc81699770e74131f39adf7a2ac7ac68b22afa83313cd36", func := "raingauge/raingaugekeep.ChunkSmall", spec := "chunkSmall", named := ["raingauge/bits.widths"], apart := false, laid := [("raingauge/bits.widths", laid_raingauge_bits_widths)], narrowed := true }
def ChunkSmallUptoSaid : Prop := chunkSmallUptoRow.holds Tryd.pinned (OpenSpec.upto chunkSmallSpec)

/-- 'raingaugelaw.RollUp', WHERE WHAT IT READS IS OF BULK AT MOST 1048576: true; the input reads as it did. -/
def rollUpUptoRow : OpenClaim := { program := "ytdmnlmohfaafoabdoor", sum := "f0b53369dd6a1c794cc81699770e74131f39adf7a2ac7ac68b22afa83313cd36", func := "raingauge/raingaugelaw.RollUp", spec := "rollUp", inPlace := ["internal/reflectlite.ValueOf", "internal/reflectlite.Swapper", "(internal/reflectlite.Value).Len", "(internal/reflectlite.Value).Type", "(internal/reflectlite.Value).IsNil", "internal/reflectlite.TypeOf", "(internal/reflectlite.Value).Elem", "(internal/reflectlite.Value).Set"], unfollowed := true, recurses := true, named := ["errors.errorType"], apart := false, laid := [("errors.errorType", laid_errors_errorType)], narrowed := true }
def RollUpUptoSaid : Prop := rollUpUptoRow.holds Tryd.pinned (OpenSpec.upto rollUpSpec)

end Rows
end Go.Proofs.YtdmnlmohfaafoabDoor
