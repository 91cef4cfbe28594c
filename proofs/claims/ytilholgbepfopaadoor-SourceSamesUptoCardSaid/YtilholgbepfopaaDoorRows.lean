/-
  NARROWER THAN 'FOR EVERY INPUT', by the rows' own cells (each row's printed sentence says how): SourceNames: laid · SourceShapes: loops, laid · SourceLists: loops, laid · SourceSames: loops, laid · SourceLimits: laid · SourceMade: laid.
  DERIVED. THE GIVEN ROWS OF THIS SEAT. 6 by the template 'for every input the law returns true; each argument reads behind the call as it read before'; 0 by the template 'total and deterministic' (their statements: YtilholgbepfopaaDoorTotals.lean).
  GIVEN WITH THE SEED: the statements are not yours to turn. If you find one false, say at which input.
  Laid BY PROGRAM, IN A SANDBOX (cutbox-rows.mjs): the forced cells as the released guide's own fill.sh prints them over the translation a42570283ca3c715… (all of the seat's roots in one cut). By AI agents, Wed Nov 11 2026. No macro, syntax, notation, axiom, sorry.
-/
import Derived.Test.YtilholgbepfopaaDoorChecked
import GoSem.Claim
import GoSem.ClaimJoined
import GoSem.ClaimMapViews
import Derived.JoinedTies
import Derived.KernelRfl
namespace Go.Proofs.YtilholgbepfopaaDoor
/- THE CELL 'sum', in the pinned program and in every row, IS THE sha256 OF THE DUMP (.gsa) THAT YtilholgbepfopaaDoorProg.lean LOADS. Nothing in Lean hashes anything: it is a label: what it is worth is what the hold of that sum in a sandbox is worth. -/
noncomputable def Tryd.pinned : Pinned := { name := "ytilholgbepfopaadoor", sum := "a42570283ca3c715ac120ecf7f5e795cc1a3939af41c056d218194fecee9cbd4", checked := Tryd.checked }
namespace Rows
def none {H : Type} : Left H := { results := [], args := [] }

/- WHAT THE LISTED PACKAGE-LEVEL VARIABLES READ AS WHEN THE CALL BEGINS. Each datum BY PROGRAM (the guide's laid-datum.mjs) off the statement by which the dump's own 'gosem.cut.vars' lays the variable. In a bare row this is a premise. The card (YtilholgbepfopaaDoorCards.lean) ties it to the program's text. -/
def laid_speculate_value_names {H : Type} : DataW H := .agg [.lit (.string [97, 100, 100]), .lit (.string [115, 117, 98]), .lit (.string [109, 117, 108]), .lit (.string [100, 105, 118]), .lit (.string [109, 105, 110]), .lit (.string [109, 97, 120]), .lit (.string [97, 110, 100]), .lit (.string [111, 114]), .lit (.string [120, 111, 114]), .lit (.string [108, 101, 115, 115]), .lit (.string [101, 113, 117, 97, 108])]

/-- 'speculatelaw05.SourceNames': WHATEVER THE INPUT: true; the input reads as it did. -/
def sourceNamesSpec : ChangeSpec := { name := "sourceNames", fn := fun _ => fun
  | [d] => { results := [.lit (.bool true)], args := [d] }
  | _ => none }
def sourceNamesRow : OpenClaim := { program := "ytilholgbepfopaadoor", sum := "a42570283ca3c715ac120ecf7f5e795cc1a3939af41c056d218194fecee9cbd4", func := "speculate/speculatelaw05.SourceNames", spec := "sourceNames", unfollowed := true, recurses := true, named := ["speculate/value.names"], apart := false, laid := [("speculate/value.names", laid_speculate_value_names)] }
def SourceNamesSaid : Prop := sourceNamesRow.holds Tryd.pinned (OpenSpec.ofChange sourceNamesSpec)

/-- ITS FALSE NEIGHBOUR: 'it returns false'. Refute it at one input. -/
def sourceNamesWrong : ChangeSpec := { name := "sourceNames", fn := fun _ => fun
  | [d] => { results := [.lit (.bool false)], args := [d] }
  | _ => none }
def SourceNamesWrongFalsely : Prop := sourceNamesRow.holds Tryd.pinned (OpenSpec.ofChange sourceNamesWrong)

/-- 'speculatelaw05.SourceShapes': WHATEVER THE INPUT: true; the input reads as it did. -/
def sourceShapesSpec : ChangeSpec := { name := "sourceShapes", fn := fun _ => fun
  | [d] => { results := [.lit (.bool true)], args := [d] }
  | _ => none }
def sourceShapesRow : OpenClaim := { program := "ytilholgbepfopaadoor", sum := "a42570283ca3c715ac120ecf7f5e795cc1a3939af41c056d218194fecee9cbd4", func := "speculate/speculatelaw05.SourceShapes", spec := "sourceShapes", unfollowed := true, recurses := true, named := ["speculate/value.names"], loops := true, apart := false, laid := [("speculate/value.names", laid_speculate_value_names)] }
def SourceShapesSaid : Prop := sourceShapesRow.holds Tryd.pinned (OpenSpec.ofChange sourceShapesSpec)

/-- ITS FALSE NEIGHBOUR: 'it returns false'. Refute it at one input. -/
def sourceShapesWrong : ChangeSpec := { name := "sourceShapes", fn := fun _ => fun
  | [d] => { results := [.lit (.bool false)], args := [d] }
  | _ => none }
def SourceShapesWrongFalsely : Prop := sourceShapesRow.holds Tryd.pinned (OpenSpec.ofChange sourceShapesWrong)

/-- 'speculatelaw05.SourceLists': WHATEVER THE INPUT: true; the input reads as it did. -/
def sourceListsSpec : ChangeSpec := { name := "sourceLists", fn := fun _ => fun
  | [d] => { results := [.lit (.bool true)], args := [d] }
  | _ => none }
def sourceListsRow : OpenClaim := { program := "ytilholgbepfopaadoor", sum := "a42570283ca3c715ac120ecf7f5e795cc1a3939af41c056d218194fecee9cbd4", func := "speculate/speculatelaw05.SourceLists", spec := "sourceLists", unfollowed := true, recurses := true, named := ["speculate/value.names"], loops := true, apart := false, laid := [("speculate/value.names", laid_speculate_value_names)] }
def SourceListsSaid : Prop := sourceListsRow.holds Tryd.pinned (OpenSpec.ofChange sourceListsSpec)

/-- ITS FALSE NEIGHBOUR: 'it returns false'. Refute it at one input. -/
def sourceListsWrong : ChangeSpec := { name := "sourceLists", fn := fun _ => fun
  | [d] => { results := [.lit (.bool false)], args := [d] }
  | _ => none }
def SourceListsWrongFalsely : Prop := sourceListsRow.holds Tryd.pinned (OpenSpec.ofChange sourceListsWrong)

/-- 'speculatelaw05.SourceSames': WHATEVER THE INPUT: true; the input reads as it did. -/
def sourceSamesSpec : ChangeSpec := { name := "sourceSames", fn := fun _ => fun
  | [d1, d2, d3, d4] => { results := [.lit (.bool true)], args := [d1, d2, d3, d4] }
  | _ => none }
def sourceSamesRow : OpenClaim := { program := "ytilholgbepfopaadoor", sum := "a42570283ca3c715ac120ecf7f5e795cc1a3939af41c056d218194fecee9cbd4", func := "speculate/speculatelaw05.SourceSames", spec := "sourceSames", unfollowed := true, recurses := true, named := ["speculate/value.names"], loops := true, apart := false, laid := [("speculate/value.names", laid_speculate_value_names)] }
def SourceSamesSaid : Prop := sourceSamesRow.holds Tryd.pinned (OpenSpec.ofChange sourceSamesSpec)

/-- ITS FALSE NEIGHBOUR: 'it returns false'. Refute it at one input. -/
def sourceSamesWrong : ChangeSpec := { name := "sourceSames", fn := fun _ => fun
  | [d1, d2, d3, d4] => { results := [.lit (.bool false)], args := [d1, d2, d3, d4] }
  | _ => none }
def SourceSamesWrongFalsely : Prop := sourceSamesRow.holds Tryd.pinned (OpenSpec.ofChange sourceSamesWrong)

/-- 'speculatelaw05.SourceLimits': WHATEVER THE INPUT: true; the input reads as it did. -/
def sourceLimitsSpec : ChangeSpec := { name := "sourceLimits", fn := fun _ => fun
  | [d1, d2] => { results := [.lit (.bool true)], args := [d1, d2] }
  | _ => none }
def sourceLimitsRow : OpenClaim := { program := "ytilholgbepfopaadoor", sum := "a42570283ca3c715ac120ecf7f5e795cc1a3939af41c056d218194fecee9cbd4", func := "speculate/speculatelaw05.SourceLimits", spec := "sourceLimits", unfollowed := true, recurses := true, named := ["speculate/value.names"], apart := false, laid := [("speculate/value.names", laid_speculate_value_names)] }
def SourceLimitsSaid : Prop := sourceLimitsRow.holds Tryd.pinned (OpenSpec.ofChange sourceLimitsSpec)

/-- ITS FALSE NEIGHBOUR: 'it returns false'. Refute it at one input. -/
def sourceLimitsWrong : ChangeSpec := { name := "sourceLimits", fn := fun _ => fun
  | [d1, d2] => { results := [.lit (.bool false)], args := [d1, d2] }
  | _ => none }
def SourceLimitsWrongFalsely : Prop := sourceLimitsRow.holds Tryd.pinned (OpenSpec.ofChange sourceLimitsWrong)

/-- 'speculatelaw05.SourceMade': WHATEVER THE INPUT: true; the input reads as it did. -/
def sourceMadeSpec : ChangeSpec := { name := "sourceMade", fn := fun _ => fun
  | [d] => { results := [.lit (.bool true)], args := [d] }
  | _ => none }
def sourceMadeRow : OpenClaim := { program := "ytilholgbepfopaadoor", sum := "a42570283ca3c715ac120ecf7f5e795cc1a3939af41c056d218194fecee9cbd4", func := "speculate/speculatelaw05.SourceMade", spec := "sourceMade", unfollowed := true, recurses := true, named := ["speculate/value.names"], apart := false, laid := [("speculate/value.names", laid_speculate_value_names)] }
def SourceMadeSaid : Prop := sourceMadeRow.holds Tryd.pinned (OpenSpec.ofChange sourceMadeSpec)

/-- ITS FALSE NEIGHBOUR: 'it returns false'. Refute it at one input. -/
def sourceMadeWrong : ChangeSpec := { name := "sourceMade", fn := fun _ => fun
  | [d] => { results := [.lit (.bool false)], args := [d] }
  | _ => none }
def SourceMadeWrongFalsely : Prop := sourceMadeRow.holds Tryd.pinned (OpenSpec.ofChange sourceMadeWrong)

/- THE SECOND FORM. 'bulk': how many values and letters a reading holds, each counted each time it is reached (what is shared counts as often as it is met; a slice's spare places count too). A statement '..UptoSaid' is the law's where the arguments, and the package variables that the reading takes, are together of bulk at most 1048576: NARROWER than '..Said'. Prove '..Said' where nothing that the law and all that it calls make is longer than what came in: it says more and counts as full. Else prove '..UptoSaid'. A law counts once. -/
mutual
def uptoBulk {H : Type} : DataW H → Nat
  | .lit (.string bytes) => bytes.length + 1
  | .lit _ => 1
  | .nil => 1
  | .ptr d => uptoBulk d + 1
  | .slice elems spare => uptoBulkAll elems + uptoBulkAll spare + 1
  | .agg parts => uptoBulkAll parts + 1
  | .iface _ d => uptoBulk d + 1
  | .map entries => uptoBulkEntries entries + 1
  | .held _ => 1
def uptoBulkAll {H : Type} : List (DataW H) → Nat
  | [] => 0
  | d :: r => uptoBulk d + uptoBulkAll r
def uptoBulkEntries {H : Type} : List (Lit × DataW H) → Nat
  | [] => 0
  | x :: r => uptoBulkEntry x + uptoBulkEntries r
def uptoBulkEntry {H : Type} : Lit × DataW H → Nat
  | (.string bytes, d) => bytes.length + uptoBulk d + 1
  | (_, d) => uptoBulk d + 1
 end
def uptoSmall : (H : Type) → List (DataW H) → Bool := fun _ ds => decide (uptoBulkAll ds ≤ 1048576)
def OpenSpec.upto (s : _root_.Go.ChangeSpec) : _root_.Go.OpenSpec := { _root_.Go.OpenSpec.ofChange s with cond := some uptoSmall }

/-- 'speculatelaw05.SourceNames', WHERE WHAT IT READS IS OF BULK AT MOST 1048576: true; the input reads as it did. -/
def sourceNamesUptoRow : OpenClaim := { program := "ytilholgbepfopaadoor", sum := "a42570283ca3c715ac120ecf7f5e795cc1a3939af41c056d218194fecee9cbd4", func := "speculate/speculatelaw05.SourceNames", spec := "sourceNames", unfollowed := true, recurses := true, named := ["speculate/value.names"], apart := false, laid := [("speculate/value.names", laid_speculate_value_names)], narrowed := true }
def SourceNamesUptoSaid : Prop := sourceNamesUptoRow.holds Tryd.pinned (OpenSpec.upto sourceNamesSpec)

/-- 'speculatelaw05.SourceShapes', WHERE WHAT IT READS IS OF BULK AT MOST 1048576: true; the input reads as it did. -/
def sourceShapesUptoRow : OpenClaim := { program := "ytilholgbepfopaadoor", sum := "a42570283ca3c715ac120ecf7f5e795cc1a3939af41c056d218194fecee9cbd4", func := "speculate/speculatelaw05.SourceShapes", spec := "sourceShapes", unfollowed := true, recurses := true, named := ["speculate/value.names"], loops := true, apart := false, laid := [("speculate/value.names", laid_speculate_value_names)], narrowed := true }
def SourceShapesUptoSaid : Prop := sourceShapesUptoRow.holds Tryd.pinned (OpenSpec.upto sourceShapesSpec)

/-- 'speculatelaw05.SourceLists', WHERE WHAT IT READS IS OF BULK AT MOST 1048576: true; the input reads as it did. -/
def sourceListsUptoRow : OpenClaim := { program := "ytilholgbepfopaadoor", sum := "a42570283ca3c715ac120ecf7f5e795cc1a3939af41c056d218194fecee9cbd4", func := "speculate/speculatelaw05.SourceLists", spec := "sourceLists", unfollowed := true, recurses := true, named := ["speculate/value.names"], loops := true, apart := false, laid := [("speculate/value.names", laid_speculate_value_names)], narrowed := true }
def SourceListsUptoSaid : Prop := sourceListsUptoRow.holds Tryd.pinned (OpenSpec.upto sourceListsSpec)

/-- 'speculatelaw05.SourceSames', WHERE WHAT IT READS IS OF BULK AT MOST 1048576: true; the input reads as it did. -/
def sourceSamesUptoRow : OpenClaim := { program := "ytilholgbepfopaadoor", sum := "a42570283ca3c715ac120ecf7f5e795cc1a3939af41c056d218194fecee9cbd4", func := "speculate/speculatelaw05.SourceSames", spec := "sourceSames", unfollowed := true, recurses := true, named := ["speculate/value.names"], loops := true, apart := false, laid := [("speculate/value.names", laid_speculate_value_names)], narrowed := true }
def SourceSamesUptoSaid : Prop := sourceSamesUptoRow.holds Tryd.pinned (OpenSpec.upto sourceSamesSpec)

/-- 'speculatelaw05.SourceLimits', WHERE WHAT IT READS IS OF BULK AT MOST 1048576: true; the input reads as it did. -/
def sourceLimitsUptoRow : OpenClaim := { program := "ytilholgbepfopaadoor", sum := "a42570283ca3c715ac120ecf7f5e795cc1a3939af41c056d218194fecee9cbd4", func := "speculate/speculatelaw05.SourceLimits", spec := "sourceLimits", unfollowed := true, recurses := true, named := ["speculate/value.names"], apart := false, laid := [("speculate/value.names", laid_speculate_value_names)], narrowed := true }
def SourceLimitsUptoSaid : Prop := sourceLimitsUptoRow.holds Tryd.pinned (OpenSpec.upto sourceLimitsSpec)

/-- 'speculatelaw05.SourceMade', WHERE WHAT IT READS IS OF BULK AT MOST 1048576: true; the input reads as it did. -/
def sourceMadeUptoRow : OpenClaim := { program := "ytilholgbepfopaadoor", sum := "a42570283ca3c715ac120ecf7f5e795cc1a3939af41c056d218194fecee9cbd4", func := "speculate/speculatelaw05.SourceMade", spec := "sourceMade", unfollowed := true, recurses := true, named := ["speculate/value.names"], apart := false, laid := [("speculate/value.names", laid_speculate_value_names)], narrowed := true }
def SourceMadeUptoSaid : Prop := sourceMadeUptoRow.holds Tryd.pinned (OpenSpec.upto sourceMadeSpec)

end Rows
end Go.Proofs.YtilholgbepfopaaDoor
