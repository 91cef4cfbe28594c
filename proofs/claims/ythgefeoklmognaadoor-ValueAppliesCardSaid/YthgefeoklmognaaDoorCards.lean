/-
  DERIVED. GIVEN WITH THE SEED: THE CARDS: each row of YthgefeoklmognaaDoorRows.lean that lists a variable, with what it lists TIED to the program's text (the seventh form; the later family's looks); each row that meets fmt, with fmt's text TOLD by the authors' own Lean function (tested against real Go, not proved from fmt's source: count such statements apart). THE CARD IS WHAT COUNTS. Prove the row's statement (the work); the ties are given (YthgefeoklmognaaDoorTie.lean); close each card by the builder's one call (the guide's Derived/Test/ToyasCard.lean, 'card_holds'). Laid BY PROGRAM, IN A SANDBOX (cutbox-door.mjs). By AI agents, Wed Nov 11 2026. No macro, syntax, notation, axiom, sorry.
-/
import Derived.Test.YthgefeoklmognaaDoorRows
import GoSem.ClaimSeven
namespace Go.Proofs.YthgefeoklmognaaDoor
namespace Rows

/-- THE TIED CARD OF 'speculatelaw02.ValueApplies'. -/
def valueAppliesCard : Claim7 := { stood := { row := valueAppliesRow, standIns := [], harness := (true, "806067cabcef6effa27f0df2aeea87b385245f49e3fc3e0a03062c5f0b78e833"), looks := false }, kinds := [], alts := [], laidByText := true, laidKinds := [.data], laidTests := true, laidLooks := .later }
def ValueAppliesCardSaid : Prop := Claim7.holds Tryd.pinned (.plain (OpenSpec.ofChange valueAppliesSpec)) valueAppliesCard

/-- THE TIED CARD OF 'speculatelaw02.ValueNames'. -/
def valueNamesCard : Claim7 := { stood := { row := valueNamesRow, standIns := [], harness := (true, "806067cabcef6effa27f0df2aeea87b385245f49e3fc3e0a03062c5f0b78e833"), looks := false }, kinds := [], alts := [], laidByText := true, laidKinds := [.data], laidTests := true, laidLooks := .later }
def ValueNamesCardSaid : Prop := Claim7.holds Tryd.pinned (.plain (OpenSpec.ofChange valueNamesSpec)) valueNamesCard

/-- THE TIED CARD OF 'speculatelaw02.ValueGroups'. -/
def valueGroupsCard : Claim7 := { stood := { row := valueGroupsRow, standIns := [], harness := (true, "806067cabcef6effa27f0df2aeea87b385245f49e3fc3e0a03062c5f0b78e833"), looks := false }, kinds := [], alts := [], laidByText := true, laidKinds := [.data], laidTests := true, laidLooks := .later }
def ValueGroupsCardSaid : Prop := Claim7.holds Tryd.pinned (.plain (OpenSpec.ofChange valueGroupsSpec)) valueGroupsCard

/-- THE TIED CARD OF 'speculatelaw02.ValueOrder'. -/
def valueOrderCard : Claim7 := { stood := { row := valueOrderRow, standIns := [], harness := (true, "806067cabcef6effa27f0df2aeea87b385245f49e3fc3e0a03062c5f0b78e833"), looks := false }, kinds := [], alts := [], laidByText := true, laidKinds := [.data], laidTests := true, laidLooks := .later }
def ValueOrderCardSaid : Prop := Claim7.holds Tryd.pinned (.plain (OpenSpec.ofChange valueOrderSpec)) valueOrderCard

/-- THE TIED CARD OF 'speculatelaw02.ValueReferences'. -/
def valueReferencesCard : Claim7 := { stood := { row := valueReferencesRow, standIns := [], harness := (true, "806067cabcef6effa27f0df2aeea87b385245f49e3fc3e0a03062c5f0b78e833"), looks := false }, kinds := [], alts := [], laidByText := true, laidKinds := [.data], laidTests := true, laidLooks := .later }
def ValueReferencesCardSaid : Prop := Claim7.holds Tryd.pinned (.plain (OpenSpec.ofChange valueReferencesSpec)) valueReferencesCard

/-- THE SECOND FORM's CARD OF 'speculatelaw02.ValueApplies'. -/
def valueAppliesUptoCard : Claim7 := { stood := { row := valueAppliesUptoRow, standIns := [], harness := (true, "806067cabcef6effa27f0df2aeea87b385245f49e3fc3e0a03062c5f0b78e833"), looks := false }, kinds := [], alts := [], laidByText := true, laidKinds := [.data], laidTests := true, laidLooks := .later }
def ValueAppliesUptoCardSaid : Prop := Claim7.holds Tryd.pinned (.plain (OpenSpec.upto valueAppliesSpec)) valueAppliesUptoCard

/-- THE SECOND FORM's CARD OF 'speculatelaw02.ValueNames'. -/
def valueNamesUptoCard : Claim7 := { stood := { row := valueNamesUptoRow, standIns := [], harness := (true, "806067cabcef6effa27f0df2aeea87b385245f49e3fc3e0a03062c5f0b78e833"), looks := false }, kinds := [], alts := [], laidByText := true, laidKinds := [.data], laidTests := true, laidLooks := .later }
def ValueNamesUptoCardSaid : Prop := Claim7.holds Tryd.pinned (.plain (OpenSpec.upto valueNamesSpec)) valueNamesUptoCard

/-- THE SECOND FORM's CARD OF 'speculatelaw02.ValueGroups'. -/
def valueGroupsUptoCard : Claim7 := { stood := { row := valueGroupsUptoRow, standIns := [], harness := (true, "806067cabcef6effa27f0df2aeea87b385245f49e3fc3e0a03062c5f0b78e833"), looks := false }, kinds := [], alts := [], laidByText := true, laidKinds := [.data], laidTests := true, laidLooks := .later }
def ValueGroupsUptoCardSaid : Prop := Claim7.holds Tryd.pinned (.plain (OpenSpec.upto valueGroupsSpec)) valueGroupsUptoCard

/-- THE SECOND FORM's CARD OF 'speculatelaw02.ValueOrder'. -/
def valueOrderUptoCard : Claim7 := { stood := { row := valueOrderUptoRow, standIns := [], harness := (true, "806067cabcef6effa27f0df2aeea87b385245f49e3fc3e0a03062c5f0b78e833"), looks := false }, kinds := [], alts := [], laidByText := true, laidKinds := [.data], laidTests := true, laidLooks := .later }
def ValueOrderUptoCardSaid : Prop := Claim7.holds Tryd.pinned (.plain (OpenSpec.upto valueOrderSpec)) valueOrderUptoCard

/-- THE SECOND FORM's CARD OF 'speculatelaw02.ValueReferences'. -/
def valueReferencesUptoCard : Claim7 := { stood := { row := valueReferencesUptoRow, standIns := [], harness := (true, "806067cabcef6effa27f0df2aeea87b385245f49e3fc3e0a03062c5f0b78e833"), looks := false }, kinds := [], alts := [], laidByText := true, laidKinds := [.data], laidTests := true, laidLooks := .later }
def ValueReferencesUptoCardSaid : Prop := Claim7.holds Tryd.pinned (.plain (OpenSpec.upto valueReferencesSpec)) valueReferencesUptoCard
end Rows
end Go.Proofs.YthgefeoklmognaaDoor
