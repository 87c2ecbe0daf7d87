/-
  NARROWER THAN 'FOR EVERY INPUT', by the rows' own cells (each row's printed sentence says how): CodesetTexts: laid · CodesetChosen: laid · CodesetParses: laid.
  DERIVED. THE GIVEN ROWS OF THIS SEAT. 3 by the template 'for every input the law returns true; each argument reads behind the call as it read before'; 0 by the template 'total and deterministic' (their statements: YtnebjdjebnphnaaDoorTotals.lean).
  GIVEN WITH THE SEED: the statements are not yours to turn. If you find one false, say at which input.
  Laid BY PROGRAM, IN A SANDBOX (cutbox-rows.mjs): the forced cells as the released guide's own fill.sh prints them over the translation 551c8000dd21f4fb… (all of the seat's roots in one cut). By AI agents, Wed Nov 11 2026. No macro, syntax, notation, axiom, sorry.
-/
import Derived.Test.YtnebjdjebnphnaaDoorChecked
import GoSem.PinnedTables
import GoSem.Claim
import GoSem.ClaimJoined
import GoSem.ClaimMapViews
import Derived.JoinedTies
import Derived.KernelRfl
namespace Go.Proofs.YtnebjdjebnphnaaDoor
/- THE CELL 'sum', in the pinned program and in every row, IS THE sha256 OF THE DUMP (.gsa) THAT YtnebjdjebnphnaaDoorProg.lean LOADS. Nothing in Lean hashes anything: it is a label: what it is worth is what the hold of that sum in a sandbox is worth. -/
noncomputable def Tryd.pinned : Pinned := { name := "ytnebjdjebnphnaadoor", sum := "551c8000dd21f4fbfa91494e820cb7c3a101a58d8f571bb986bb09b31d8ddd62", checked := Tryd.checked }
namespace Rows
def none {H : Type} : Left H := { results := [], args := [] }

/- WHAT THE LISTED PACKAGE-LEVEL VARIABLES READ AS WHEN THE CALL BEGINS. Each datum BY PROGRAM (the guide's laid-datum.mjs) off the statement by which the dump's own 'gosem.cut.vars' lays the variable. In a bare row this is a premise. The card (YtnebjdjebnphnaaDoorCards.lean) ties it to the program's text. -/
def laid_intermede_codeset_names {H : Type} : DataW H := .agg [.lit (.string []), .lit (.string [97, 115, 99, 105, 105]), .lit (.string [108, 97, 116, 105, 110]), .lit (.string [117, 116, 102, 56]), .lit (.string [117, 116, 102, 49, 54]), .lit (.string [103, 114, 101, 101, 107])]
def laid_unicode_utf8_acceptRanges {H : Type} : DataW H := .agg [.agg [.lit (.int .u8 128), .lit (.int .u8 191)], .agg [.lit (.int .u8 160), .lit (.int .u8 191)], .agg [.lit (.int .u8 128), .lit (.int .u8 159)], .agg [.lit (.int .u8 144), .lit (.int .u8 191)], .agg [.lit (.int .u8 128), .lit (.int .u8 143)], .agg [.lit (.int .u8 0), .lit (.int .u8 0)], .agg [.lit (.int .u8 0), .lit (.int .u8 0)], .agg [.lit (.int .u8 0), .lit (.int .u8 0)], .agg [.lit (.int .u8 0), .lit (.int .u8 0)], .agg [.lit (.int .u8 0), .lit (.int .u8 0)], .agg [.lit (.int .u8 0), .lit (.int .u8 0)], .agg [.lit (.int .u8 0), .lit (.int .u8 0)], .agg [.lit (.int .u8 0), .lit (.int .u8 0)], .agg [.lit (.int .u8 0), .lit (.int .u8 0)], .agg [.lit (.int .u8 0), .lit (.int .u8 0)], .agg [.lit (.int .u8 0), .lit (.int .u8 0)]]
/-- One of Go's own tables, pinned by name: the form's constant. -/
def laid_unicode_utf8_first : DataW Unit := Go.Pinned.utf8First

/-- 'intermedelaw12.CodesetTexts': WHATEVER THE INPUT: true; the input reads as it did. -/
def codesetTextsSpec : ChangeSpec := { name := "codesetTexts", fn := fun _ => fun
  | [d1, d2] => { results := [.lit (.bool true)], args := [d1, d2] }
  | _ => none }
def codesetTextsRow : OpenClaim := { program := "ytnebjdjebnphnaadoor", sum := "551c8000dd21f4fbfa91494e820cb7c3a101a58d8f571bb986bb09b31d8ddd62", func := "intermede/intermedelaw12.CodesetTexts", spec := "codesetTexts", unfollowed := true, recurses := true, named := ["intermede/codeset.names"], apart := false, laid := [("intermede/codeset.names", laid_intermede_codeset_names)] }
def CodesetTextsSaid : Prop := codesetTextsRow.holds Tryd.pinned (OpenSpec.ofChange codesetTextsSpec)

/-- ITS FALSE NEIGHBOUR: 'it returns false'. Refute it at one input. -/
def codesetTextsWrong : ChangeSpec := { name := "codesetTexts", fn := fun _ => fun
  | [d1, d2] => { results := [.lit (.bool false)], args := [d1, d2] }
  | _ => none }
def CodesetTextsWrongFalsely : Prop := codesetTextsRow.holds Tryd.pinned (OpenSpec.ofChange codesetTextsWrong)

/-- 'intermedelaw12.CodesetChosen': WHATEVER THE INPUT: true; the input reads as it did. -/
def codesetChosenSpec : ChangeSpec := { name := "codesetChosen", fn := fun _ => fun
  | [d1, d2] => { results := [.lit (.bool true)], args := [d1, d2] }
  | _ => none }
def codesetChosenRow : OpenClaim := { program := "ytnebjdjebnphnaadoor", sum := "551c8000dd21f4fbfa91494e820cb7c3a101a58d8f571bb986bb09b31d8ddd62", func := "intermede/intermedelaw12.CodesetChosen", spec := "codesetChosen", inPlace := ["internal/abi.NoEscape", "internal/bytealg.MakeNoZero", "internal/bytealg.CountString", "internal/bytealg.IndexByteString", "internal/bytealg.IndexString"], unfollowed := true, recurses := true, named := ["intermede/codeset.names", "unicode/utf8.first", "unicode/utf8.acceptRanges", "internal/bytealg.MaxLen"], apart := false, laid := [("unicode/utf8.acceptRanges", laid_unicode_utf8_acceptRanges), ("intermede/codeset.names", laid_intermede_codeset_names), ("unicode/utf8.first", laid_unicode_utf8_first)] }
def CodesetChosenSaid : Prop := codesetChosenRow.holds Tryd.pinned (OpenSpec.ofChange codesetChosenSpec)

/-- ITS FALSE NEIGHBOUR: 'it returns false'. Refute it at one input. -/
def codesetChosenWrong : ChangeSpec := { name := "codesetChosen", fn := fun _ => fun
  | [d1, d2] => { results := [.lit (.bool false)], args := [d1, d2] }
  | _ => none }
def CodesetChosenWrongFalsely : Prop := codesetChosenRow.holds Tryd.pinned (OpenSpec.ofChange codesetChosenWrong)

/-- 'intermedelaw12.CodesetParses': WHATEVER THE INPUT: true; the input reads as it did. -/
def codesetParsesSpec : ChangeSpec := { name := "codesetParses", fn := fun _ => fun
  | [d] => { results := [.lit (.bool true)], args := [d] }
  | _ => none }
def codesetParsesRow : OpenClaim := { program := "ytnebjdjebnphnaadoor", sum := "551c8000dd21f4fbfa91494e820cb7c3a101a58d8f571bb986bb09b31d8ddd62", func := "intermede/intermedelaw12.CodesetParses", spec := "codesetParses", inPlace := ["internal/bytealg.CountString", "internal/bytealg.IndexByteString", "internal/bytealg.IndexString"], unfollowed := true, recurses := true, named := ["unicode/utf8.first", "unicode/utf8.acceptRanges", "internal/bytealg.MaxLen", "intermede/codeset.names"], apart := false, laid := [("unicode/utf8.acceptRanges", laid_unicode_utf8_acceptRanges), ("intermede/codeset.names", laid_intermede_codeset_names), ("unicode/utf8.first", laid_unicode_utf8_first)] }
def CodesetParsesSaid : Prop := codesetParsesRow.holds Tryd.pinned (OpenSpec.ofChange codesetParsesSpec)

/-- ITS FALSE NEIGHBOUR: 'it returns false'. Refute it at one input. -/
def codesetParsesWrong : ChangeSpec := { name := "codesetParses", fn := fun _ => fun
  | [d] => { results := [.lit (.bool false)], args := [d] }
  | _ => none }
def CodesetParsesWrongFalsely : Prop := codesetParsesRow.holds Tryd.pinned (OpenSpec.ofChange codesetParsesWrong)

/- THE SECOND FORM. 'bulk': how many values and letters a reading holds, each counted each time it is reached (what is shared counts as often as it is met; a slice's spare places count too). A statement '..UptoSaid' is the law's where the arguments, and the package variables that the reading takes, are together of bulk at most 1048576: NARROWER than '..Said'. Prove '..Said' where nothing that the law and all that it calls make is longer than what came in: it says more and counts as full. Else prove '..UptoSaid'. A law counts once. -/
mutual
def uptoBulk {H : Type} : DataW H → Nat
  | .lit (.string bytes) => bytes.length + 1
  | .lit _ => 1
  | .nil => 1
  | .ptr d => uptoBulk d + 1
  | .slice elems spare => uptoBulkAll elems + uptoBulkAll spare + 1
  | .agg parts => uptoBulkAll parts + 1
  | .iface _ d => uptoBulk d + 1
  | .map entries => uptoBulkEntries entries + 1
  | .held _ => 1
def uptoBulkAll {H : Type} : List (DataW H) → Nat
  | [] => 0
  | d :: r => uptoBulk d + uptoBulkAll r
def uptoBulkEntries {H : Type} : List (Lit × DataW H) → Nat
  | [] => 0
  | x :: r => uptoBulkEntry x + uptoBulkEntries r
def uptoBulkEntry {H : Type} : Lit × DataW H → Nat
  | (.string bytes, d) => bytes.length + uptoBulk d + 1
  | (_, d) => uptoBulk d + 1
 end
def uptoSmall : (H : Type) → List (DataW H) → Bool := fun _ ds => decide (uptoBulkAll ds ≤ 1048576)
def OpenSpec.upto (s : _root_.Go.ChangeSpec) : _root_.Go.OpenSpec := { _root_.Go.OpenSpec.ofChange s with cond := some uptoSmall }

/-- 'intermedelaw12.CodesetTexts', WHERE WHAT IT READS IS OF BULK AT MOST 1048576: true; the input reads as it did. -/
def codesetTextsUptoRow : OpenClaim := { program := "ytnebjdjebnphnaadoor", sum := "551c8000dd21f4fbfa91494e820cb7c3a101a58d8f571bb986bb09b31d8ddd62", func := "intermede/intermedelaw12.CodesetTexts", spec := "codesetTexts", unfollowed := true, recurses := true, named := ["intermede/codeset.names"], apart := false, laid := [("intermede/codeset.names", laid_intermede_codeset_names)], narrowed := true }
def CodesetTextsUptoSaid : Prop := codesetTextsUptoRow.holds Tryd.pinned (OpenSpec.upto codesetTextsSpec)

/-- 'intermedelaw12.CodesetChosen', WHERE WHAT IT READS IS OF BULK AT MOST 1048576: true; the input reads as it did. -/
def codesetChosenUptoRow : OpenClaim := { program := "ytnebjdjebnphnaadoor", sum := "551c8000dd21f4fbfa91494e820cb7c3a101a58d8f571bb986bb09b31d8ddd62", func := "intermede/intermedelaw12.CodesetChosen", spec := "codesetChosen", inPlace := ["internal/abi.NoEscape", "internal/bytealg.MakeNoZero", "internal/bytealg.CountString", "internal/bytealg.IndexByteString", "internal/bytealg.IndexString"], unfollowed := true, recurses := true, named := ["intermede/codeset.names", "unicode/utf8.first", "unicode/utf8.acceptRanges", "internal/bytealg.MaxLen"], apart := false, laid := [("unicode/utf8.acceptRanges", laid_unicode_utf8_acceptRanges), ("intermede/codeset.names", laid_intermede_codeset_names), ("unicode/utf8.first", laid_unicode_utf8_first)], narrowed := true }
def CodesetChosenUptoSaid : Prop := codesetChosenUptoRow.holds Tryd.pinned (OpenSpec.upto codesetChosenSpec)

/-- 'intermedelaw12.CodesetParses', WHERE WHAT IT READS IS OF BULK AT MOST 1048576: true; the input reads as it did. -/
def codesetParsesUptoRow : OpenClaim := { program := "ytnebjdjebnphnaadoor", sum := "551c8000dd21f4fbfa91494e820cb7c3a101a58d8f571bb986bb09b31d8ddd62", func := "intermede/intermedelaw12.CodesetParses", spec := "codesetParses", inPlace := ["internal/bytealg.CountString", "internal/bytealg.IndexByteString", "internal/bytealg.IndexString"], unfollowed := true, recurses := true, named := ["unicode/utf8.first", "unicode/utf8.acceptRanges", "internal/bytealg.MaxLen", "intermede/codeset.names"], apart := false, laid := [("unicode/utf8.acceptRanges", laid_unicode_utf8_acceptRanges), ("intermede/codeset.names", laid_intermede_codeset_names), ("unicode/utf8.first", laid_unicode_utf8_first)], narrowed := true }
def CodesetParsesUptoSaid : Prop := codesetParsesUptoRow.holds Tryd.pinned (OpenSpec.upto codesetParsesSpec)

end Rows
end Go.Proofs.YtnebjdjebnphnaaDoor
