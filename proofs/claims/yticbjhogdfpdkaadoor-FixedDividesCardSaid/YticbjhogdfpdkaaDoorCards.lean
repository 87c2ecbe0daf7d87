/-
  DERIVED. GIVEN WITH THE SEED: THE CARDS: each row of YticbjhogdfpdkaaDoorRows.lean that lists a variable, with what it lists TIED to the program's text (the seventh form; the later family's looks); each row that meets fmt, with fmt's text TOLD by the authors' own Lean function (tested against real Go, not proved from fmt's source: count such statements apart). THE CARD IS WHAT COUNTS. Prove the row's statement (the work); the ties are given (YticbjhogdfpdkaaDoorTie.lean); close each card by the builder's one call (the guide's Derived/Test/ToyasCard.lean, 'card_holds'). Laid BY PROGRAM, IN A SANDBOX (cutbox-door.mjs). By AI agents, Wed Nov 11 2026. No macro, syntax, notation, axiom, sorry.
-/
import Derived.Test.YticbjhogdfpdkaaDoorRows
import GoSem.ClaimSeven
namespace Go.Proofs.YticbjhogdfpdkaaDoor
namespace Rows

/-- THE TIED CARD OF 'intermedelaw02.FixedTwo'. -/
def fixedTwoCard : Claim7 := { stood := { row := fixedTwoRow, standIns := [], harness := (true, "4c4c277b774f8c44f8b5f07296df3a63506b680ccb9ccb314fac8869eff097df"), looks := false }, kinds := [], alts := [], laidByText := true, laidKinds := [.data, .pinned], laidTests := true, laidLooks := .later }
def FixedTwoCardSaid : Prop := Claim7.holds Tryd.pinned (.plain (OpenSpec.ofChange fixedTwoSpec)) fixedTwoCard

/-- THE TIED CARD OF 'intermedelaw02.FixedCuts'. -/
def fixedCutsCard : Claim7 := { stood := { row := fixedCutsRow, standIns := [], harness := (true, "4c4c277b774f8c44f8b5f07296df3a63506b680ccb9ccb314fac8869eff097df"), looks := false }, kinds := [], alts := [], laidByText := true, laidKinds := [.data, .pinned], laidTests := true, laidLooks := .later }
def FixedCutsCardSaid : Prop := Claim7.holds Tryd.pinned (.plain (OpenSpec.ofChange fixedCutsSpec)) fixedCutsCard

/-- THE TIED CARD OF 'intermedelaw02.FixedPacks'. -/
def fixedPacksCard : Claim7 := { stood := { row := fixedPacksRow, standIns := [], harness := (true, "4c4c277b774f8c44f8b5f07296df3a63506b680ccb9ccb314fac8869eff097df"), looks := false }, kinds := [], alts := [], laidByText := true, laidKinds := [.data, .pinned], laidTests := true, laidLooks := .later }
def FixedPacksCardSaid : Prop := Claim7.holds Tryd.pinned (.plain (OpenSpec.ofChange fixedPacksSpec)) fixedPacksCard

/-- THE TIED CARD OF 'intermedelaw02.FixedExact'. -/
def fixedExactCard : Claim7 := { stood := { row := fixedExactRow, standIns := [], harness := (true, "4c4c277b774f8c44f8b5f07296df3a63506b680ccb9ccb314fac8869eff097df"), looks := false }, kinds := [], alts := [], laidByText := true, laidKinds := [.data, .data, .data, .data, .pinned], laidTests := true, laidLooks := .later }
def FixedExactCardSaid : Prop := Claim7.holds Tryd.pinned (.plain (OpenSpec.ofChange fixedExactSpec)) fixedExactCard

/-- THE TIED CARD OF 'intermedelaw02.FixedDivides'. -/
def fixedDividesCard : Claim7 := { stood := { row := fixedDividesRow, standIns := [], harness := (true, "4c4c277b774f8c44f8b5f07296df3a63506b680ccb9ccb314fac8869eff097df"), looks := false }, kinds := [], alts := [], laidByText := true, laidKinds := [.data, .data, .data, .data, .pinned], laidTests := true, laidLooks := .later }
def FixedDividesCardSaid : Prop := Claim7.holds Tryd.pinned (.plain (OpenSpec.ofChange fixedDividesSpec)) fixedDividesCard

/-- THE SECOND FORM's CARD OF 'intermedelaw02.FixedTwo'. -/
def fixedTwoUptoCard : Claim7 := { stood := { row := fixedTwoUptoRow, standIns := [], harness := (true, "4c4c277b774f8c44f8b5f07296df3a63506b680ccb9ccb314fac8869eff097df"), looks := false }, kinds := [], alts := [], laidByText := true, laidKinds := [.data, .pinned], laidTests := true, laidLooks := .later }
def FixedTwoUptoCardSaid : Prop := Claim7.holds Tryd.pinned (.plain (OpenSpec.upto fixedTwoSpec)) fixedTwoUptoCard

/-- THE SECOND FORM's CARD OF 'intermedelaw02.FixedCuts'. -/
def fixedCutsUptoCard : Claim7 := { stood := { row := fixedCutsUptoRow, standIns := [], harness := (true, "4c4c277b774f8c44f8b5f07296df3a63506b680ccb9ccb314fac8869eff097df"), looks := false }, kinds := [], alts := [], laidByText := true, laidKinds := [.data, .pinned], laidTests := true, laidLooks := .later }
def FixedCutsUptoCardSaid : Prop := Claim7.holds Tryd.pinned (.plain (OpenSpec.upto fixedCutsSpec)) fixedCutsUptoCard

/-- THE SECOND FORM's CARD OF 'intermedelaw02.FixedPacks'. -/
def fixedPacksUptoCard : Claim7 := { stood := { row := fixedPacksUptoRow, standIns := [], harness := (true, "4c4c277b774f8c44f8b5f07296df3a63506b680ccb9ccb314fac8869eff097df"), looks := false }, kinds := [], alts := [], laidByText := true, laidKinds := [.data, .pinned], laidTests := true, laidLooks := .later }
def FixedPacksUptoCardSaid : Prop := Claim7.holds Tryd.pinned (.plain (OpenSpec.upto fixedPacksSpec)) fixedPacksUptoCard

/-- THE SECOND FORM's CARD OF 'intermedelaw02.FixedExact'. -/
def fixedExactUptoCard : Claim7 := { stood := { row := fixedExactUptoRow, standIns := [], harness := (true, "4c4c277b774f8c44f8b5f07296df3a63506b680ccb9ccb314fac8869eff097df"), looks := false }, kinds := [], alts := [], laidByText := true, laidKinds := [.data, .data, .data, .data, .pinned], laidTests := true, laidLooks := .later }
def FixedExactUptoCardSaid : Prop := Claim7.holds Tryd.pinned (.plain (OpenSpec.upto fixedExactSpec)) fixedExactUptoCard

/-- THE SECOND FORM's CARD OF 'intermedelaw02.FixedDivides'. -/
def fixedDividesUptoCard : Claim7 := { stood := { row := fixedDividesUptoRow, standIns := [], harness := (true, "4c4c277b774f8c44f8b5f07296df3a63506b680ccb9ccb314fac8869eff097df"), looks := false }, kinds := [], alts := [], laidByText := true, laidKinds := [.data, .data, .data, .data, .pinned], laidTests := true, laidLooks := .later }
def FixedDividesUptoCardSaid : Prop := Claim7.holds Tryd.pinned (.plain (OpenSpec.upto fixedDividesSpec)) fixedDividesUptoCard
end Rows
end Go.Proofs.YticbjhogdfpdkaaDoor
