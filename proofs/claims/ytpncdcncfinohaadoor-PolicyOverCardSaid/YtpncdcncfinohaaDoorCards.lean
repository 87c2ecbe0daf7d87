/-
  DERIVED. GIVEN WITH THE SEED: THE CARDS: each row of YtpncdcncfinohaaDoorRows.lean that lists a variable, with what it lists TIED to the program's text (the seventh form; the later family's looks); each row that meets fmt, with fmt's text TOLD by the authors' own Lean function (tested against real Go, not proved from fmt's source: count such statements apart). THE CARD IS WHAT COUNTS. Prove the row's statement (the work); the ties are given (YtpncdcncfinohaaDoorTie.lean); close each card by the builder's one call (the guide's Derived/Test/ToyasCard.lean, 'card_holds'). Laid BY PROGRAM, IN A SANDBOX (cutbox-door.mjs). By AI agents, Wed Nov 11 2026. No macro, syntax, notation, axiom, sorry.
-/
import Derived.Test.YtpncdcncfinohaaDoorRows
import GoSem.ClaimSeven
namespace Go.Proofs.YtpncdcncfinohaaDoor
namespace Rows

/-- THE TIED CARD OF 'intermedelaw18.PolicyOver'. -/
def policyOverCard : Claim7 := { stood := { row := policyOverRow, standIns := [], harness := (true, "68b3574843f960651d58e437323d5c736fc0462efe553c922865cc80e5bb7791"), looks := false }, kinds := [], alts := [], laidByText := true, laidKinds := [.data], laidTests := true, laidLooks := .later }
def PolicyOverCardSaid : Prop := Claim7.holds Tryd.pinned (.plain (OpenSpec.ofChange policyOverSpec)) policyOverCard

/-- THE TIED CARD OF 'intermedelaw18.PolicyAgrees'. -/
def policyAgreesCard : Claim7 := { stood := { row := policyAgreesRow, standIns := [], harness := (true, "68b3574843f960651d58e437323d5c736fc0462efe553c922865cc80e5bb7791"), looks := false }, kinds := [], alts := [], laidByText := true, laidKinds := [.data], laidTests := true, laidLooks := .later }
def PolicyAgreesCardSaid : Prop := Claim7.holds Tryd.pinned (.plain (OpenSpec.ofChange policyAgreesSpec)) policyAgreesCard

/-- THE SECOND FORM's CARD OF 'intermedelaw18.PolicyOver'. -/
def policyOverUptoCard : Claim7 := { stood := { row := policyOverUptoRow, standIns := [], harness := (true, "68b3574843f960651d58e437323d5c736fc0462efe553c922865cc80e5bb7791"), looks := false }, kinds := [], alts := [], laidByText := true, laidKinds := [.data], laidTests := true, laidLooks := .later }
def PolicyOverUptoCardSaid : Prop := Claim7.holds Tryd.pinned (.plain (OpenSpec.upto policyOverSpec)) policyOverUptoCard

/-- THE SECOND FORM's CARD OF 'intermedelaw18.PolicyAgrees'. -/
def policyAgreesUptoCard : Claim7 := { stood := { row := policyAgreesUptoRow, standIns := [], harness := (true, "68b3574843f960651d58e437323d5c736fc0462efe553c922865cc80e5bb7791"), looks := false }, kinds := [], alts := [], laidByText := true, laidKinds := [.data], laidTests := true, laidLooks := .later }
def PolicyAgreesUptoCardSaid : Prop := Claim7.holds Tryd.pinned (.plain (OpenSpec.upto policyAgreesSpec)) policyAgreesUptoCard
end Rows
end Go.Proofs.YtpncdcncfinohaaDoor
