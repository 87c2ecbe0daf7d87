/-
  DERIVED. GIVEN WITH THE SEED: THE CARDS: each row of YtnebjdjebnphnaaDoorRows.lean that lists a variable, with what it lists TIED to the program's text (the seventh form; the later family's looks); each row that meets fmt, with fmt's text TOLD by the authors' own Lean function (tested against real Go, not proved from fmt's source: count such statements apart). THE CARD IS WHAT COUNTS. Prove the row's statement (the work); the ties are given (YtnebjdjebnphnaaDoorTie.lean); close each card by the builder's one call (the guide's Derived/Test/ToyasCard.lean, 'card_holds'). Laid BY PROGRAM, IN A SANDBOX (cutbox-door.mjs). By AI agents, Wed Nov 11 2026. No macro, syntax, notation, axiom, sorry.
-/
import Derived.Test.YtnebjdjebnphnaaDoorRows
import GoSem.ClaimSeven
namespace Go.Proofs.YtnebjdjebnphnaaDoor
namespace Rows

/-- THE TIED CARD OF 'intermedelaw12.CodesetTexts'. -/
def codesetTextsCard : Claim7 := { stood := { row := codesetTextsRow, standIns := [], harness := (true, "912c024a1a328a49f89246782163aec339669893fdcce4d3280a2a1fdf3d7b17"), looks := false }, kinds := [], alts := [], laidByText := true, laidKinds := [.data], laidTests := true, laidLooks := .later }
def CodesetTextsCardSaid : Prop := Claim7.holds Tryd.pinned (.plain (OpenSpec.ofChange codesetTextsSpec)) codesetTextsCard

/-- THE TIED CARD OF 'intermedelaw12.CodesetChosen'. -/
def codesetChosenCard : Claim7 := { stood := { row := codesetChosenRow, standIns := [], harness := (true, "912c024a1a328a49f89246782163aec339669893fdcce4d3280a2a1fdf3d7b17"), looks := false }, kinds := [], alts := [], laidByText := true, laidKinds := [.data, .data, .pinned], laidTests := true, laidLooks := .later }
def CodesetChosenCardSaid : Prop := Claim7.holds Tryd.pinned (.plain (OpenSpec.ofChange codesetChosenSpec)) codesetChosenCard

/-- THE TIED CARD OF 'intermedelaw12.CodesetParses'. -/
def codesetParsesCard : Claim7 := { stood := { row := codesetParsesRow, standIns := [], harness := (true, "912c024a1a328a49f89246782163aec339669893fdcce4d3280a2a1fdf3d7b17"), looks := false }, kinds := [], alts := [], laidByText := true, laidKinds := [.data, .data, .pinned], laidTests := true, laidLooks := .later }
def CodesetParsesCardSaid : Prop := Claim7.holds Tryd.pinned (.plain (OpenSpec.ofChange codesetParsesSpec)) codesetParsesCard

/-- THE SECOND FORM's CARD OF 'intermedelaw12.CodesetTexts'. -/
def codesetTextsUptoCard : Claim7 := { stood := { row := codesetTextsUptoRow, standIns := [], harness := (true, "912c024a1a328a49f89246782163aec339669893fdcce4d3280a2a1fdf3d7b17"), looks := false }, kinds := [], alts := [], laidByText := true, laidKinds := [.data], laidTests := true, laidLooks := .later }
def CodesetTextsUptoCardSaid : Prop := Claim7.holds Tryd.pinned (.plain (OpenSpec.upto codesetTextsSpec)) codesetTextsUptoCard

/-- THE SECOND FORM's CARD OF 'intermedelaw12.CodesetChosen'. -/
def codesetChosenUptoCard : Claim7 := { stood := { row := codesetChosenUptoRow, standIns := [], harness := (true, "912c024a1a328a49f89246782163aec339669893fdcce4d3280a2a1fdf3d7b17"), looks := false }, kinds := [], alts := [], laidByText := true, laidKinds := [.data, .data, .pinned], laidTests := true, laidLooks := .later }
def CodesetChosenUptoCardSaid : Prop := Claim7.holds Tryd.pinned (.plain (OpenSpec.upto codesetChosenSpec)) codesetChosenUptoCard

/-- THE SECOND FORM's CARD OF 'intermedelaw12.CodesetParses'. -/
def codesetParsesUptoCard : Claim7 := { stood := { row := codesetParsesUptoRow, standIns := [], harness := (true, "912c024a1a328a49f89246782163aec339669893fdcce4d3280a2a1fdf3d7b17"), looks := false }, kinds := [], alts := [], laidByText := true, laidKinds := [.data, .data, .pinned], laidTests := true, laidLooks := .later }
def CodesetParsesUptoCardSaid : Prop := Claim7.holds Tryd.pinned (.plain (OpenSpec.upto codesetParsesSpec)) codesetParsesUptoCard
end Rows
end Go.Proofs.YtnebjdjebnphnaaDoor
