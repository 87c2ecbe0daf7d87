/-
  DERIVED. GIVEN WITH THE SEED: THE CARDS: each row of YtladjkkkhomngaaDoorRows.lean that lists a variable, with what it lists TIED to the program's text (the seventh form; the later family's looks); each row that meets fmt, with fmt's text TOLD by the authors' own Lean function (tested against real Go, not proved from fmt's source: count such statements apart). THE CARD IS WHAT COUNTS. Prove the row's statement (the work); the ties are given (YtladjkkkhomngaaDoorTie.lean); close each card by the builder's one call (the guide's Derived/Test/ToyasCard.lean, 'card_holds'). Laid BY PROGRAM, IN A SANDBOX (cutbox-door.mjs). By AI agents, Wed Nov 11 2026. No macro, syntax, notation, axiom, sorry.
-/
import Derived.Test.YtladjkkkhomngaaDoorRows
import GoSem.ClaimSeven
namespace Go.Proofs.YtladjkkkhomngaaDoor
namespace Rows

/-- THE TIED CARD OF 'intermedelaw18.PolicySets'. -/
def policySetsCard : Claim7 := { stood := { row := policySetsRow, standIns := [], harness := (true, "22d1372a0274a076f4346ce85d6f5dc0d16e8639793f45ff07a81c77a4040a1e"), looks := true }, kinds := [], alts := [], laidByText := true, laidKinds := [.data], laidTests := true, laidLooks := .later }
def PolicySetsCardSaid : Prop := Claim7.holds Tryd.pinned (.plain (OpenSpec.ofChange policySetsSpec)) policySetsCard

/-- THE TIED CARD OF 'intermedelaw18.PolicyTexts'. -/
def policyTextsCard : Claim7 := { stood := { row := policyTextsRow, standIns := [], harness := (true, "22d1372a0274a076f4346ce85d6f5dc0d16e8639793f45ff07a81c77a4040a1e"), looks := true }, kinds := [], alts := [], laidByText := true, laidKinds := [.data, .data, .data, .data, .sentinel, .sentinel, .data, .pinned], laidTests := true, laidLooks := .later }
def PolicyTextsCardSaid : Prop := Claim7.holds Tryd.pinned (.plain (OpenSpec.ofChange policyTextsSpec)) policyTextsCard

/-- THE SECOND FORM's CARD OF 'intermedelaw18.PolicySets'. -/
def policySetsUptoCard : Claim7 := { stood := { row := policySetsUptoRow, standIns := [], harness := (true, "22d1372a0274a076f4346ce85d6f5dc0d16e8639793f45ff07a81c77a4040a1e"), looks := true }, kinds := [], alts := [], laidByText := true, laidKinds := [.data], laidTests := true, laidLooks := .later }
def PolicySetsUptoCardSaid : Prop := Claim7.holds Tryd.pinned (.plain (OpenSpec.upto policySetsSpec)) policySetsUptoCard

/-- THE SECOND FORM's CARD OF 'intermedelaw18.PolicyTexts'. -/
def policyTextsUptoCard : Claim7 := { stood := { row := policyTextsUptoRow, standIns := [], harness := (true, "22d1372a0274a076f4346ce85d6f5dc0d16e8639793f45ff07a81c77a4040a1e"), looks := true }, kinds := [], alts := [], laidByText := true, laidKinds := [.data, .data, .data, .data, .sentinel, .sentinel, .data, .pinned], laidTests := true, laidLooks := .later }
def PolicyTextsUptoCardSaid : Prop := Claim7.holds Tryd.pinned (.plain (OpenSpec.upto policyTextsSpec)) policyTextsUptoCard
end Rows
end Go.Proofs.YtladjkkkhomngaaDoor
