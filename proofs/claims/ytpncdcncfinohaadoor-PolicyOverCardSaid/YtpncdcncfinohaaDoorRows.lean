/-
  NARROWER THAN 'FOR EVERY INPUT', by the rows' own cells (each row's printed sentence says how): PolicyOver: laid · PolicyAgrees: laid.
  DERIVED. THE GIVEN ROWS OF THIS SEAT. 2 by the template 'for every input the law returns true; each argument reads behind the call as it read before'; 0 by the template 'total and deterministic' (their statements: YtpncdcncfinohaaDoorTotals.lean).
  GIVEN WITH THE SEED: the statements are not yours to turn. If you find one false, say at which input.
  Laid BY PROGRAM, IN A SANDBOX (cutbox-rows.mjs): the forced cells as the released guide's own fill.sh prints them over the translation 8e898905133c0844… (all of the seat's roots in one cut). By AI agents, Wed Nov 11 2026. No macro, syntax, notation, axiom, sorry.
-/
import Derived.Test.YtpncdcncfinohaaDoorChecked
import GoSem.Claim
import GoSem.ClaimJoined
import GoSem.ClaimMapViews
import Derived.JoinedTies
import Derived.KernelRfl
namespace Go.Proofs.YtpncdcncfinohaaDoor
/- THE CELL 'sum', in the pinned program and in every row, IS THE sha256 OF THE DUMP (.gsa) THAT YtpncdcncfinohaaDoorProg.lean LOADS. Nothing in Lean hashes anything: it is a label: what it is worth is what the hold of that sum in a sandbox is worth. -/
noncomputable def Tryd.pinned : Pinned := { name := "ytpncdcncfinohaadoor", sum := "8e898905133c08448483b90165fc2ac03692117b0187709f91eb91f8c3358c52", checked := Tryd.checked }
namespace Rows
def none {H : Type} : Left H := { results := [], args := [] }

/- WHAT THE LISTED PACKAGE-LEVEL VARIABLES READ AS WHEN THE CALL BEGINS. Each datum BY PROGRAM (the guide's laid-datum.mjs) off the statement by which the dump's own 'gosem.cut.vars' lays the variable. In a bare row this is a premise. The card (YtpncdcncfinohaaDoorCards.lean) ties it to the program's text. -/
def laid_intermede_policy_sorts {H : Type} : DataW H := .agg [.agg [.lit (.string []), .agg [.lit (.string []), .lit (.string []), .lit (.string []), .lit (.string [])], .lit (.int .i64 0)], .agg [.lit (.string [116, 104, 114, 101, 97, 100]), .agg [.lit (.string [102, 114, 101, 101]), .lit (.string [115, 105, 110, 103, 108, 101]), .lit (.string []), .lit (.string [])], .lit (.int .i64 2)], .agg [.lit (.string [108, 105, 102, 101, 115, 112, 97, 110]), .agg [.lit (.string [116, 114, 97, 110, 115, 105, 101, 110, 116]), .lit (.string [112, 101, 114, 115, 105, 115, 116, 101, 110, 116]), .lit (.string []), .lit (.string [])], .lit (.int .i64 2)], .agg [.lit (.string [117, 110, 105, 113, 117, 101]), .agg [.lit (.string [117, 110, 105, 113, 117, 101]), .lit (.string [109, 117, 108, 116, 105, 112, 108, 101]), .lit (.string []), .lit (.string [])], .lit (.int .i64 2)], .agg [.lit (.string [97, 115, 115, 105, 103, 110]), .agg [.lit (.string [115, 121, 115, 116, 101, 109]), .lit (.string [117, 115, 101, 114]), .lit (.string []), .lit (.string [])], .lit (.int .i64 2)], .agg [.lit (.string [114, 101, 116, 97, 105, 110]), .agg [.lit (.string [114, 101, 116, 97, 105, 110]), .lit (.string [102, 111, 114, 103, 101, 116]), .lit (.string []), .lit (.string [])], .lit (.int .i64 2)], .agg [.lit (.string [112, 114, 111, 99, 101, 115, 115]), .agg [.lit (.string [109, 97, 112]), .lit (.string [100, 101, 102, 97, 117, 108, 116]), .lit (.string [109, 97, 110, 97, 103, 101, 114]), .lit (.string [])], .lit (.int .i64 3)], .agg [.lit (.string [97, 99, 116, 105, 118, 97, 116, 101]), .agg [.lit (.string [101, 120, 112, 108, 105, 99, 105, 116]), .lit (.string [105, 109, 112, 108, 105, 99, 105, 116]), .lit (.string []), .lit (.string [])], .lit (.int .i64 2)], .agg [.lit (.string [114, 101, 98, 105, 110, 100]), .agg [.lit (.string [116, 114, 97, 110, 115, 112, 97, 114, 101, 110, 116]), .lit (.string [107, 101, 101, 112]), .lit (.string [110, 101, 118, 101, 114]), .lit (.string [])], .lit (.int .i64 3)], .agg [.lit (.string [99, 101, 114, 116, 97, 105, 110, 116, 121]), .agg [.lit (.string [115, 101, 110, 116]), .lit (.string [110, 111, 110, 101]), .lit (.string [115, 101, 114, 118, 101, 114]), .lit (.string [100, 111, 110, 101])], .lit (.int .i64 4)], .agg [.lit (.string [108, 105, 109, 105, 116]), .agg [.lit (.string []), .lit (.string []), .lit (.string []), .lit (.string [])], .lit (.int .i64 1000000)], .agg [.lit (.string [114, 111, 117, 116, 101]), .agg [.lit (.string [100, 105, 114, 101, 99, 116]), .lit (.string [102, 111, 114, 119, 97, 114, 100]), .lit (.string [115, 116, 111, 114, 101]), .lit (.string [])], .lit (.int .i64 3)], .agg [.lit (.string [112, 114, 105, 111, 114, 105, 116, 121]), .agg [.lit (.string []), .lit (.string []), .lit (.string []), .lit (.string [])], .lit (.int .i64 100)], .agg [.lit (.string [111, 114, 100, 101, 114]), .agg [.lit (.string [97, 110, 121]), .lit (.string [116, 105, 109, 101]), .lit (.string [112, 114, 105, 111, 114, 105, 116, 121]), .lit (.string [100, 101, 97, 100, 108, 105, 110, 101])], .lit (.int .i64 4)]]

/-- 'intermedelaw18.PolicyOver': WHATEVER THE INPUT: true; the input reads as it did. -/
def policyOverSpec : ChangeSpec := { name := "policyOver", fn := fun _ => fun
  | [d1, d2, d3] => { results := [.lit (.bool true)], args := [d1, d2, d3] }
  | _ => none }
def policyOverRow : OpenClaim := { program := "ytpncdcncfinohaadoor", sum := "8e898905133c08448483b90165fc2ac03692117b0187709f91eb91f8c3358c52", func := "intermede/intermedelaw18.PolicyOver", spec := "policyOver", unfollowed := true, recurses := true, named := ["intermede/policy.sorts"], apart := false, laid := [("intermede/policy.sorts", laid_intermede_policy_sorts)] }
def PolicyOverSaid : Prop := policyOverRow.holds Tryd.pinned (OpenSpec.ofChange policyOverSpec)

/-- ITS FALSE NEIGHBOUR: 'it returns false'. Refute it at one input. -/
def policyOverWrong : ChangeSpec := { name := "policyOver", fn := fun _ => fun
  | [d1, d2, d3] => { results := [.lit (.bool false)], args := [d1, d2, d3] }
  | _ => none }
def PolicyOverWrongFalsely : Prop := policyOverRow.holds Tryd.pinned (OpenSpec.ofChange policyOverWrong)

/-- 'intermedelaw18.PolicyAgrees': WHATEVER THE INPUT: true; the input reads as it did. -/
def policyAgreesSpec : ChangeSpec := { name := "policyAgrees", fn := fun _ => fun
  | [d1, d2] => { results := [.lit (.bool true)], args := [d1, d2] }
  | _ => none }
def policyAgreesRow : OpenClaim := { program := "ytpncdcncfinohaadoor", sum := "8e898905133c08448483b90165fc2ac03692117b0187709f91eb91f8c3358c52", func := "intermede/intermedelaw18.PolicyAgrees", spec := "policyAgrees", unfollowed := true, recurses := true, named := ["intermede/policy.sorts"], apart := false, laid := [("intermede/policy.sorts", laid_intermede_policy_sorts)] }
def PolicyAgreesSaid : Prop := policyAgreesRow.holds Tryd.pinned (OpenSpec.ofChange policyAgreesSpec)

/-- ITS FALSE NEIGHBOUR: 'it returns false'. Refute it at one input. -/
def policyAgreesWrong : ChangeSpec := { name := "policyAgrees", fn := fun _ => fun
  | [d1, d2] => { results := [.lit (.bool false)], args := [d1, d2] }
  | _ => none }
def PolicyAgreesWrongFalsely : Prop := policyAgreesRow.holds Tryd.pinned (OpenSpec.ofChange policyAgreesWrong)

/- THE SECOND FORM. 'bulk': how many values and letters a reading holds, each counted each time it is reached (what is shared counts as often as it is met; a slice's spare places count too). A statement '..UptoSaid' is the law's where the arguments, and the package variables that the reading takes, are together of bulk at most 1048576: NARROWER than '..Said'. Prove '..Said' where nothing that the law and all that it calls make is longer than what came in: it says more and counts as full. Else prove '..UptoSaid'. A law counts once. -/
mutual
def uptoBulk {H : Type} : DataW H → Nat
  | .lit (.string bytes) => bytes.length + 1
  | .lit _ => 1
  | .nil => 1
  | .ptr d => uptoBulk d + 1
  | .slice elems spare => uptoBulkAll elems + uptoBulkAll spare + 1
  | .agg parts => uptoBulkAll parts + 1
  | .iface _ d => uptoBulk d + 1
  | .map entries => uptoBulkEntries entries + 1
  | .held _ => 1
def uptoBulkAll {H : Type} : List (DataW H) → Nat
  | [] => 0
  | d :: r => uptoBulk d + uptoBulkAll r
def uptoBulkEntries {H : Type} : List (Lit × DataW H) → Nat
  | [] => 0
  | x :: r => uptoBulkEntry x + uptoBulkEntries r
def uptoBulkEntry {H : Type} : Lit × DataW H → Nat
  | (.string bytes, d) => bytes.length + uptoBulk d + 1
  | (_, d) => uptoBulk d + 1
 end
def uptoSmall : (H : Type) → List (DataW H) → Bool := fun _ ds => decide (uptoBulkAll ds ≤ 1048576)
def OpenSpec.upto (s : _root_.Go.ChangeSpec) : _root_.Go.OpenSpec := { _root_.Go.OpenSpec.ofChange s with cond := some uptoSmall }

/-- 'intermedelaw18.PolicyOver', WHERE WHAT IT READS IS OF BULK AT MOST 1048576: true; the input reads as it did. -/
def policyOverUptoRow : OpenClaim := { program := "ytpncdcncfinohaadoor", sum := "8e898905133c08448483b90165fc2ac03692117b0187709f91eb91f8c3358c52", func := "intermede/intermedelaw18.PolicyOver", spec := "policyOver", unfollowed := true, recurses := true, named := ["intermede/policy.sorts"], apart := false, laid := [("intermede/policy.sorts", laid_intermede_policy_sorts)], narrowed := true }
def PolicyOverUptoSaid : Prop := policyOverUptoRow.holds Tryd.pinned (OpenSpec.upto policyOverSpec)

/-- 'intermedelaw18.PolicyAgrees', WHERE WHAT IT READS IS OF BULK AT MOST 1048576: true; the input reads as it did. -/
def policyAgreesUptoRow : OpenClaim := { program := "ytpncdcncfinohaadoor", sum := "8e898905133c08448483b90165fc2ac03692117b0187709f91eb91f8c3358c52", func := "intermede/intermedelaw18.PolicyAgrees", spec := "policyAgrees", unfollowed := true, recurses := true, named := ["intermede/policy.sorts"], apart := false, laid := [("intermede/policy.sorts", laid_intermede_policy_sorts)], narrowed := true }
def PolicyAgreesUptoSaid : Prop := policyAgreesUptoRow.holds Tryd.pinned (OpenSpec.upto policyAgreesSpec)

end Rows
end Go.Proofs.YtpncdcncfinohaaDoor
