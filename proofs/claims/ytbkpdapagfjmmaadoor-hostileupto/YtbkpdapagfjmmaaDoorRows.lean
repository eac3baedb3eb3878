/-
  NARROWER THAN 'FOR EVERY INPUT', by the rows' own cells (each row's printed sentence says how): Synced: laid · Hostile: laid.
  DERIVED. THE GIVEN ROWS OF THIS SEAT. 2 by the template 'for every input the law returns true; each argument reads behind the call as it read before'; 0 by the template 'total and deterministic' (their statements: YtbkpdapagfjmmaaDoorTotals.lean).
  GIVEN WITH THE SEED: the statements are not yours to turn. If you find one false, say at which input.
  Laid BY PROGRAM, IN A SANDBOX (cutbox-rows.mjs): the forced cells as the released guide's own fill.sh prints them over the translation 97531b388aff5de8… (all of the seat's roots in one cut). By AI agents, Wed Nov 11 2026. No macro, syntax, notation, axiom, sorry.
-/
import Derived.Test.YtbkpdapagfjmmaaDoorChecked
import GoSem.Claim
import GoSem.ClaimJoined
import GoSem.ClaimMapViews
import Derived.JoinedTies
import Derived.KernelRfl
namespace Go.Proofs.YtbkpdapagfjmmaaDoor
/- THE CELL 'sum', in the pinned program and in every row, IS THE sha256 OF THE DUMP (.gsa) THAT YtbkpdapagfjmmaaDoorProg.lean LOADS. Nothing in Lean hashes anything: it is a label: what it is worth is what the hold of that sum in a sandbox is worth. -/
noncomputable def Tryd.pinned : Pinned := { name := "ytbkpdapagfjmmaadoor", sum := "97531b388aff5de8e46126b300314932948a8d52d7edf09479990ae898d7d56d", checked := Tryd.checked }
namespace Rows
def none {H : Type} : Left H := { results := [], args := [] }

/- WHAT THE LISTED PACKAGE-LEVEL VARIABLES READ AS WHEN THE CALL BEGINS. Each datum BY PROGRAM (the guide's laid-datum.mjs) off the statement by which the dump's own 'gosem.cut.vars' lays the variable. In a bare row this is a premise. The card (YtbkpdapagfjmmaaDoorCards.lean) ties it to the program's text. -/
def laid_link_link_fixed {H : Type} : DataW H := .agg [.agg [.lit (.string [116, 111]), .lit (.string [])], .agg [.lit (.string [107, 105, 110, 100]), .lit (.string [116, 101, 120, 116])], .agg [.lit (.string [107, 105, 110, 100]), .lit (.string [99, 97, 108, 108])], .agg [.lit (.string [117, 114, 103, 101, 110, 116]), .lit (.string [110, 111])]]

/-- 'linklaw.Synced': WHATEVER THE INPUT: true; the input reads as it did. -/
def syncedSpec : ChangeSpec := { name := "synced", fn := fun _ => fun
  | [d1, d2] => { results := [.lit (.bool true)], args := [d1, d2] }
  | _ => none }
def syncedRow : OpenClaim := { program := "ytbkpdapagfjmmaadoor", sum := "97531b388aff5de8e46126b300314932948a8d52d7edf09479990ae898d7d56d", func := "link/linklaw.Synced", spec := "synced", unfollowed := true, recurses := true, named := ["link/link.fixed"], apart := false, laid := [("link/link.fixed", laid_link_link_fixed)] }
def SyncedSaid : Prop := syncedRow.holds Tryd.pinned (OpenSpec.ofChange syncedSpec)

/-- ITS FALSE NEIGHBOUR: 'it returns false'. Refute it at one input. -/
def syncedWrong : ChangeSpec := { name := "synced", fn := fun _ => fun
  | [d1, d2] => { results := [.lit (.bool false)], args := [d1, d2] }
  | _ => none }
def SyncedWrongFalsely : Prop := syncedRow.holds Tryd.pinned (OpenSpec.ofChange syncedWrong)

/-- 'linklaw.Hostile': WHATEVER THE INPUT: true; the input reads as it did. -/
def hostileSpec : ChangeSpec := { name := "hostile", fn := fun _ => fun
  | [d1, d2, d3, d4] => { results := [.lit (.bool true)], args := [d1, d2, d3, d4] }
  | _ => none }
def hostileRow : OpenClaim := { program := "ytbkpdapagfjmmaadoor", sum := "97531b388aff5de8e46126b300314932948a8d52d7edf09479990ae898d7d56d", func := "link/linklaw.Hostile", spec := "hostile", unfollowed := true, recurses := true, named := ["link/link.fixed"], apart := false, laid := [("link/link.fixed", laid_link_link_fixed)] }
def HostileSaid : Prop := hostileRow.holds Tryd.pinned (OpenSpec.ofChange hostileSpec)

/-- ITS FALSE NEIGHBOUR: 'it returns false'. Refute it at one input. -/
def hostileWrong : ChangeSpec := { name := "hostile", fn := fun _ => fun
  | [d1, d2, d3, d4] => { results := [.lit (.bool false)], args := [d1, d2, d3, d4] }
  | _ => none }
def HostileWrongFalsely : Prop := hostileRow.holds Tryd.pinned (OpenSpec.ofChange hostileWrong)

/- THE SECOND FORM. 'bulk': how many values and letters a reading holds, each counted each time it is reached (what is shared counts as often as it is met; a slice's spare places count too). A statement '..UptoSaid' is the law's where the arguments, and the package variables that the reading takes, are together of bulk at most 1048576: NARROWER than '..Said'. Prove '..Said' where nothing that the law and all that it calls make is longer than what came in: it says more and counts as full. Else prove '..UptoSaid'. A law counts once. -/
mutual
def uptoBulk {H : Type} : DataW H → Nat
  | .lit (.string bytes) => bytes.length + 1
  | .lit _ => 1
  | .nil => 1
  | .ptr d => uptoBulk d + 1
  | .slice elems spare => uptoBulkAll elems + uptoBulkAll spare + 1
  | .agg parts => uptoBulkAll parts + 1
  | .iface _ d => uptoBulk d + 1
  | .map entries => uptoBulkEntries entries + 1
  | .held _ => 1
def uptoBulkAll {H : Type} : List (DataW H) → Nat
  | [] => 0
  | d :: r => uptoBulk d + uptoBulkAll r
def uptoBulkEntries {H : Type} : List (Lit × DataW H) → Nat
  | [] => 0
  | x :: r => uptoBulkEntry x + uptoBulkEntries r
def uptoBulkEntry {H : Type} : Lit × DataW H → Nat
  | (.string bytes, d) => bytes.length + uptoBulk d + 1
  | (_, d) => uptoBulk d + 1
 end
def uptoSmall : (H : Type) → List (DataW H) → Bool := fun _ ds => decide (uptoBulkAll ds ≤ 1048576)
def OpenSpec.upto (s : _root_.Go.ChangeSpec) : _root_.Go.OpenSpec := { _root_.Go.OpenSpec.ofChange s with cond := some uptoSmall }

/-- 'linklaw.Synced', WHERE WHAT IT READS IS OF BULK AT MOST 1048576: true; the input reads as it did. -/
def syncedUptoRow : OpenClaim := { program := "ytbkpdapagfjmmaadoor", sum := "97531b388aff5de8e46126b300314932948a8d52d7edf09479990ae898d7d56d", func := "link/linklaw.Synced", spec := "synced", unfollowed := true, recurses := true, named := ["link/link.fixed"], apart := false, laid := [("link/link.fixed", laid_link_link_fixed)], narrowed := true }
def SyncedUptoSaid : Prop := syncedUptoRow.holds Tryd.pinned (OpenSpec.upto syncedSpec)

/-- 'linklaw.Hostile', WHERE WHAT IT READS IS OF BULK AT MOST 1048576: true; the input reads as it did. -/
def hostileUptoRow : OpenClaim := { program := "ytbkpdapagfjmmaadoor", sum := "97531b388aff5de8e46126b300314932948a8d52d7edf09479990ae898d7d56d", func := "link/linklaw.Hostile", spec := "hostile", unfollowed := true, recurses := true, named := ["link/link.fixed"], apart := false, laid := [("link/link.fixed", laid_link_link_fixed)], narrowed := true }
def HostileUptoSaid : Prop := hostileUptoRow.holds Tryd.pinned (OpenSpec.upto hostileSpec)

end Rows
end Go.Proofs.YtbkpdapagfjmmaaDoor
