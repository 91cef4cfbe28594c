/-
  DERIVED. GIVEN WITH THE SEED: THE CARDS: each row of YtilholgbepfopaaDoorRows.lean that lists a variable, with what it lists TIED to the program's text (the seventh form; the later family's looks); each row that meets fmt, with fmt's text TOLD by the authors' own Lean function (tested against real Go, not proved from fmt's source: count such statements apart). THE CARD IS WHAT COUNTS. Prove the row's statement (the work); the ties are given (YtilholgbepfopaaDoorTie.lean); close each card by the builder's one call (the guide's Derived/Test/ToyasCard.lean, 'card_holds'). Laid BY PROGRAM, IN A SANDBOX (cutbox-door.mjs). By AI agents, Wed Nov 11 2026. No macro, syntax, notation, axiom, sorry.
-/
import Derived.Test.YtilholgbepfopaaDoorRows
import GoSem.ClaimSeven
namespace Go.Proofs.YtilholgbepfopaaDoor
namespace Rows

/-- THE TIED CARD OF 'speculatelaw05.SourceNames'. -/
def sourceNamesCard : Claim7 := { stood := { row := sourceNamesRow, standIns := [], harness := (true, "025259031076852a39a6711c9e0dce4ec494f163ae295baca1dbc2c48130b38b"), looks := false }, kinds := [], alts := [], laidByText := true, laidKinds := [.data], laidTests := true, laidLooks := .later }
def SourceNamesCardSaid : Prop := Claim7.holds Tryd.pinned (.plain (OpenSpec.ofChange sourceNamesSpec)) sourceNamesCard

/-- THE TIED CARD OF 'speculatelaw05.SourceShapes'. -/
def sourceShapesCard : Claim7 := { stood := { row := sourceShapesRow, standIns := [], harness := (true, "025259031076852a39a6711c9e0dce4ec494f163ae295baca1dbc2c48130b38b"), looks := false }, kinds := [], alts := [], laidByText := true, laidKinds := [.data], laidTests := true, laidLooks := .later }
def SourceShapesCardSaid : Prop := Claim7.holds Tryd.pinned (.plain (OpenSpec.ofChange sourceShapesSpec)) sourceShapesCard

/-- THE TIED CARD OF 'speculatelaw05.SourceLists'. -/
def sourceListsCard : Claim7 := { stood := { row := sourceListsRow, standIns := [], harness := (true, "025259031076852a39a6711c9e0dce4ec494f163ae295baca1dbc2c48130b38b"), looks := false }, kinds := [], alts := [], laidByText := true, laidKinds := [.data], laidTests := true, laidLooks := .later }
def SourceListsCardSaid : Prop := Claim7.holds Tryd.pinned (.plain (OpenSpec.ofChange sourceListsSpec)) sourceListsCard

/-- THE TIED CARD OF 'speculatelaw05.SourceSames'. -/
def sourceSamesCard : Claim7 := { stood := { row := sourceSamesRow, standIns := [], harness := (true, "025259031076852a39a6711c9e0dce4ec494f163ae295baca1dbc2c48130b38b"), looks := false }, kinds := [], alts := [], laidByText := true, laidKinds := [.data], laidTests := true, laidLooks := .later }
def SourceSamesCardSaid : Prop := Claim7.holds Tryd.pinned (.plain (OpenSpec.ofChange sourceSamesSpec)) sourceSamesCard

/-- THE TIED CARD OF 'speculatelaw05.SourceLimits'. -/
def sourceLimitsCard : Claim7 := { stood := { row := sourceLimitsRow, standIns := [], harness := (true, "025259031076852a39a6711c9e0dce4ec494f163ae295baca1dbc2c48130b38b"), looks := false }, kinds := [], alts := [], laidByText := true, laidKinds := [.data], laidTests := true, laidLooks := .later }
def SourceLimitsCardSaid : Prop := Claim7.holds Tryd.pinned (.plain (OpenSpec.ofChange sourceLimitsSpec)) sourceLimitsCard

/-- THE TIED CARD OF 'speculatelaw05.SourceMade'. -/
def sourceMadeCard : Claim7 := { stood := { row := sourceMadeRow, standIns := [], harness := (true, "025259031076852a39a6711c9e0dce4ec494f163ae295baca1dbc2c48130b38b"), looks := false }, kinds := [], alts := [], laidByText := true, laidKinds := [.data], laidTests := true, laidLooks := .later }
def SourceMadeCardSaid : Prop := Claim7.holds Tryd.pinned (.plain (OpenSpec.ofChange sourceMadeSpec)) sourceMadeCard

/-- THE SECOND FORM's CARD OF 'speculatelaw05.SourceNames'. -/
def sourceNamesUptoCard : Claim7 := { stood := { row := sourceNamesUptoRow, standIns := [], harness := (true, "025259031076852a39a6711c9e0dce4ec494f163ae295baca1dbc2c48130b38b"), looks := false }, kinds := [], alts := [], laidByText := true, laidKinds := [.data], laidTests := true, laidLooks := .later }
def SourceNamesUptoCardSaid : Prop := Claim7.holds Tryd.pinned (.plain (OpenSpec.upto sourceNamesSpec)) sourceNamesUptoCard

/-- THE SECOND FORM's CARD OF 'speculatelaw05.SourceShapes'. -/
def sourceShapesUptoCard : Claim7 := { stood := { row := sourceShapesUptoRow, standIns := [], harness := (true, "025259031076852a39a6711c9e0dce4ec494f163ae295baca1dbc2c48130b38b"), looks := false }, kinds := [], alts := [], laidByText := true, laidKinds := [.data], laidTests := true, laidLooks := .later }
def SourceShapesUptoCardSaid : Prop := Claim7.holds Tryd.pinned (.plain (OpenSpec.upto sourceShapesSpec)) sourceShapesUptoCard

/-- THE SECOND FORM's CARD OF 'speculatelaw05.SourceLists'. -/
def sourceListsUptoCard : Claim7 := { stood := { row := sourceListsUptoRow, standIns := [], harness := (true, "025259031076852a39a6711c9e0dce4ec494f163ae295baca1dbc2c48130b38b"), looks := false }, kinds := [], alts := [], laidByText := true, laidKinds := [.data], laidTests := true, laidLooks := .later }
def SourceListsUptoCardSaid : Prop := Claim7.holds Tryd.pinned (.plain (OpenSpec.upto sourceListsSpec)) sourceListsUptoCard

/-- THE SECOND FORM's CARD OF 'speculatelaw05.SourceSames'. -/
def sourceSamesUptoCard : Claim7 := { stood := { row := sourceSamesUptoRow, standIns := [], harness := (true, "025259031076852a39a6711c9e0dce4ec494f163ae295baca1dbc2c48130b38b"), looks := false }, kinds := [], alts := [], laidByText := true, laidKinds := [.data], laidTests := true, laidLooks := .later }
def SourceSamesUptoCardSaid : Prop := Claim7.holds Tryd.pinned (.plain (OpenSpec.upto sourceSamesSpec)) sourceSamesUptoCard

/-- THE SECOND FORM's CARD OF 'speculatelaw05.SourceLimits'. -/
def sourceLimitsUptoCard : Claim7 := { stood := { row := sourceLimitsUptoRow, standIns := [], harness := (true, "025259031076852a39a6711c9e0dce4ec494f163ae295baca1dbc2c48130b38b"), looks := false }, kinds := [], alts := [], laidByText := true, laidKinds := [.data], laidTests := true, laidLooks := .later }
def SourceLimitsUptoCardSaid : Prop := Claim7.holds Tryd.pinned (.plain (OpenSpec.upto sourceLimitsSpec)) sourceLimitsUptoCard

/-- THE SECOND FORM's CARD OF 'speculatelaw05.SourceMade'. -/
def sourceMadeUptoCard : Claim7 := { stood := { row := sourceMadeUptoRow, standIns := [], harness := (true, "025259031076852a39a6711c9e0dce4ec494f163ae295baca1dbc2c48130b38b"), looks := false }, kinds := [], alts := [], laidByText := true, laidKinds := [.data], laidTests := true, laidLooks := .later }
def SourceMadeUptoCardSaid : Prop := Claim7.holds Tryd.pinned (.plain (OpenSpec.upto sourceMadeSpec)) sourceMadeUptoCard
end Rows
end Go.Proofs.YtilholgbepfopaaDoor
