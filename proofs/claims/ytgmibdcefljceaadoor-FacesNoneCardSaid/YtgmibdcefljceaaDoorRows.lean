/-
  NARROWER THAN 'FOR EVERY INPUT', by the rows' own cells (each row's printed sentence says how): FacesNone: laid.
  DERIVED. THE GIVEN ROWS OF THIS SEAT. 1 by the template 'for every input the law returns true; each argument reads behind the call as it read before'; 0 by the template 'total and deterministic' (their statements: YtgmibdcefljceaaDoorTotals.lean).
  GIVEN WITH THE SEED: the statements are not yours to turn. If you find one false, say at which input.
  Laid BY PROGRAM, IN A SANDBOX (cutbox-rows.mjs): the forced cells as the released guide's own fill.sh prints them over the translation 0d8bd408dde4e6f9… (all of the seat's roots in one cut). By AI agents, Wed Nov 11 2026. No macro, syntax, notation, axiom, sorry.
-/
import Derived.Test.YtgmibdcefljceaaDoorChecked
import GoSem.Claim
import GoSem.ClaimJoined
import GoSem.ClaimMapViews
import Derived.JoinedTies
import Derived.KernelRfl
namespace Go.Proofs.YtgmibdcefljceaaDoor
/- THE CELL 'sum', in the pinned program and in every row, IS THE sha256 OF THE DUMP (.gsa) THAT YtgmibdcefljceaaDoorProg.lean LOADS. Nothing in Lean hashes anything: it is a label: what it is worth is what the hold of that sum in a sandbox is worth. -/
noncomputable def Tryd.pinned : Pinned := { name := "ytgmibdcefljceaadoor", sum := "0d8bd408dde4e6f9be6a1d2a737674a830d28c40a1c56bf91151d2ba3a51e070", checked := Tryd.checked }
namespace Rows
def none {H : Type} : Left H := { results := [], args := [] }

/- WHAT THE LISTED PACKAGE-LEVEL VARIABLES READ AS WHEN THE CALL BEGINS. Each datum BY PROGRAM (the guide's laid-datum.mjs) off the statement by which the dump's own 'gosem.cut.vars' lays the variable. In a bare row this is a premise. The card (YtgmibdcefljceaaDoorCards.lean) ties it to the program's text. -/
def laid_errata_faces_names {H : Type} : DataW H := .agg [.lit (.string []), .lit (.string [101, 114, 114, 111, 114]), .lit (.string [71, 114, 97, 100, 101, 114]), .lit (.string [67, 111, 100, 101, 114]), .lit (.string [87, 101, 105, 103, 104, 101, 114]), .lit (.string [80, 104, 97, 115, 101, 114]), .lit (.string [84, 105, 109, 101, 114]), .lit (.string [76, 105, 110, 101, 114]), .lit (.string [68, 101, 116, 97, 105, 108, 101, 114]), .lit (.string [79, 110, 101]), .lit (.string [77, 97, 110, 121]), .lit (.string [74, 117, 100, 103, 101]), .lit (.string [76, 101, 110, 100, 101, 114]), .lit (.string [75, 105, 110, 100, 101, 114]), .lit (.string [83, 105, 122, 101, 114]), .lit (.string [84, 105, 109, 101, 100, 69, 114, 114, 111, 114]), .lit (.string [67, 111, 100, 101, 100, 67, 97, 117, 115, 101]), .lit (.string [87, 104, 111, 108, 101]), .lit (.string [78, 111, 98, 111, 100, 121]), .lit (.string [97, 110, 121])]

/-- 'erratalaw06.FacesNone': WHATEVER THE INPUT: true; the input reads as it did. -/
def facesNoneSpec : ChangeSpec := { name := "facesNone", fn := fun _ => fun
  | [] => { results := [.lit (.bool true)], args := [] }
  | _ => none }
def facesNoneRow : OpenClaim := { program := "ytgmibdcefljceaadoor", sum := "0d8bd408dde4e6f9be6a1d2a737674a830d28c40a1c56bf91151d2ba3a51e070", func := "errata/erratalaw06.FacesNone", spec := "facesNone", unfollowed := true, recurses := true, named := ["errata/faces.names"], apart := false, laid := [("errata/faces.names", laid_errata_faces_names)] }
def FacesNoneSaid : Prop := facesNoneRow.holds Tryd.pinned (OpenSpec.ofChange facesNoneSpec)

/-- ITS FALSE NEIGHBOUR: 'it returns false'. Refute it at one input. -/
def facesNoneWrong : ChangeSpec := { name := "facesNone", fn := fun _ => fun
  | [] => { results := [.lit (.bool false)], args := [] }
  | _ => none }
def FacesNoneWrongFalsely : Prop := facesNoneRow.holds Tryd.pinned (OpenSpec.ofChange facesNoneWrong)

/- THE SECOND FORM. 'bulk': how many values and letters a reading holds, each counted each time it is reached (what is shared counts as often as it is met; a slice's spare places count too). A statement '..UptoSaid' is the law's where the arguments, and the package variables that the reading takes, are together of bulk at most 1048576: NARROWER than '..Said'. Prove '..Said' where nothing that the law and all that it calls make is longer than what came in: it says more and counts as full. Else prove '..UptoSaid'. A law counts once. -/
mutual
def uptoBulk {H : Type} : DataW H → Nat
  | .lit (.string bytes) => bytes.length + 1
  | .lit _ => 1
  | .nil => 1
  | .ptr d => uptoBulk d + 1
  | .slice elems spare => uptoBulkAll elems + uptoBulkAll spare + 1
  | .agg parts => uptoBulkAll parts + 1
  | .iface _ d => uptoBulk d + 1
  | .map entries => uptoBulkEntries entries + 1
  | .held _ => 1
def uptoBulkAll {H : Type} : List (DataW H) → Nat
  | [] => 0
  | d :: r => uptoBulk d + uptoBulkAll r
def uptoBulkEntries {H : Type} : List (Lit × DataW H) → Nat
  | [] => 0
  | x :: r => uptoBulkEntry x + uptoBulkEntries r
def uptoBulkEntry {H : Type} : Lit × DataW H → Nat
  | (.string bytes, d) => bytes.length + uptoBulk d + 1
  | (_, d) => uptoBulk d + 1
 end
def uptoSmall : (H : Type) → List (DataW H) → Bool := fun _ ds => decide (uptoBulkAll ds ≤ 1048576)
def OpenSpec.upto (s : _root_.Go.ChangeSpec) : _root_.Go.OpenSpec := { _root_.Go.OpenSpec.ofChange s with cond := some uptoSmall }

/-- 'erratalaw06.FacesNone', WHERE WHAT IT READS IS OF BULK AT MOST 1048576: true; the input reads as it did. -/
def facesNoneUptoRow : OpenClaim := { program := "ytgmibdcefljceaadoor", sum := "0d8bd408dde4e6f9be6a1d2a737674a830d28c40a1c56bf91151d2ba3a51e070", func := "errata/erratalaw06.FacesNone", spec := "facesNone", unfollowed := true, recurses := true, named := ["errata/faces.names"], apart := false, laid := [("errata/faces.names", laid_errata_faces_names)], narrowed := true }
def FacesNoneUptoSaid : Prop := facesNoneUptoRow.holds Tryd.pinned (OpenSpec.upto facesNoneSpec)

end Rows
end Go.Proofs.YtgmibdcefljceaaDoor
