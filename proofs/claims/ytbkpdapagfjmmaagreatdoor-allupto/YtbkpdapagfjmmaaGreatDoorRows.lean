/-
  NARROWER THAN 'FOR EVERY INPUT', by the rows' own cells (each row's printed sentence says how): Reads: laid · Tables: laid · Ends: laid · Joined: laid · Arrives: laid · Within: laid · All: laid.
  DERIVED. THE GIVEN ROWS OF THIS SEAT. 7 by the template 'for every input the law returns true; each argument reads behind the call as it read before'; 0 by the template 'total and deterministic' (their statements: YtbkpdapagfjmmaaGreatDoorTotals.lean).
  GIVEN WITH THE SEED: the statements are not yours to turn. If you find one false, say at which input.
  Laid BY PROGRAM, IN A SANDBOX (cutbox-rows.mjs): the forced cells as the released guide's own fill.sh prints them over the translation 06f2f70633b51e04… (all of the seat's roots in one cut). By AI agents, Wed Nov 11 2026. No macro, syntax, notation, axiom, sorry.
-/
import Derived.Test.YtbkpdapagfjmmaaGreatDoorChecked
import GoSem.Claim
import GoSem.ClaimJoined
import GoSem.ClaimMapViews
import Derived.JoinedTies
import Derived.KernelRfl
namespace Go.Proofs.YtbkpdapagfjmmaaGreatDoor
/- THE CELL 'sum', in the pinned program and in every row, IS THE sha256 OF THE DUMP (.gsa) THAT YtbkpdapagfjmmaaGreatDoorProg.lean LOADS. Nothing in Lean hashes anything: it is a label: what it is worth is what the hold of that sum in a sandbox is worth. -/
noncomputable def Tryz.pinned : Pinned := { name := "ytbkpdapagfjmmaagreatdoor", sum := "06f2f70633b51e04f61e42acfeadf2abd99c90cd16495eba491877e69876bc65", checked := Tryz.checked }
namespace Rows
def none {H : Type} : Left H := { results := [], args := [] }

/- WHAT THE LISTED PACKAGE-LEVEL VARIABLES READ AS WHEN THE CALL BEGINS. Each datum BY PROGRAM (the guide's laid-datum.mjs) off the statement by which the dump's own 'gosem.cut.vars' lays the variable. In a bare row this is a premise. The card (YtbkpdapagfjmmaaGreatDoorCards.lean) ties it to the program's text. -/
def laid_link_link_fixed {H : Type} : DataW H := .agg [.agg [.lit (.string [116, 111]), .lit (.string [])], .agg [.lit (.string [107, 105, 110, 100]), .lit (.string [116, 101, 120, 116])], .agg [.lit (.string [107, 105, 110, 100]), .lit (.string [99, 97, 108, 108])], .agg [.lit (.string [117, 114, 103, 101, 110, 116]), .lit (.string [110, 111])]]

/-- 'linklaw.Reads': WHATEVER THE INPUT: true; the input reads as it did. -/
def readsSpec : ChangeSpec := { name := "reads", fn := fun _ => fun
  | [d] => { results := [.lit (.bool true)], args := [d] }
  | _ => none }
def readsRow : OpenClaim := { program := "ytbkpdapagfjmmaagreatdoor", sum := "06f2f70633b51e04f61e42acfeadf2abd99c90cd16495eba491877e69876bc65", func := "link/linklaw.Reads", spec := "reads", unfollowed := true, recurses := true, named := ["link/link.fixed"], apart := false, laid := [("link/link.fixed", laid_link_link_fixed)] }
def ReadsSaid : Prop := readsRow.holds Tryz.pinned (OpenSpec.ofChange readsSpec)

/-- ITS FALSE NEIGHBOUR: 'it returns false'. Refute it at one input. -/
def readsWrong : ChangeSpec := { name := "reads", fn := fun _ => fun
  | [d] => { results := [.lit (.bool false)], args := [d] }
  | _ => none }
def ReadsWrongFalsely : Prop := readsRow.holds Tryz.pinned (OpenSpec.ofChange readsWrong)

/-- 'linklaw.Tables': WHATEVER THE INPUT: true; the input reads as it did. -/
def tablesSpec : ChangeSpec := { name := "tables", fn := fun _ => fun
  | [d1, d2] => { results := [.lit (.bool true)], args := [d1, d2] }
  | _ => none }
def tablesRow : OpenClaim := { program := "ytbkpdapagfjmmaagreatdoor", sum := "06f2f70633b51e04f61e42acfeadf2abd99c90cd16495eba491877e69876bc65", func := "link/linklaw.Tables", spec := "tables", unfollowed := true, recurses := true, named := ["link/link.fixed"], apart := false, laid := [("link/link.fixed", laid_link_link_fixed)] }
def TablesSaid : Prop := tablesRow.holds Tryz.pinned (OpenSpec.ofChange tablesSpec)

/-- ITS FALSE NEIGHBOUR: 'it returns false'. Refute it at one input. -/
def tablesWrong : ChangeSpec := { name := "tables", fn := fun _ => fun
  | [d1, d2] => { results := [.lit (.bool false)], args := [d1, d2] }
  | _ => none }
def TablesWrongFalsely : Prop := tablesRow.holds Tryz.pinned (OpenSpec.ofChange tablesWrong)

/-- 'linklaw.Ends': WHATEVER THE INPUT: true; the input reads as it did. -/
def endsSpec : ChangeSpec := { name := "ends", fn := fun _ => fun
  | [d1, d2] => { results := [.lit (.bool true)], args := [d1, d2] }
  | _ => none }
def endsRow : OpenClaim := { program := "ytbkpdapagfjmmaagreatdoor", sum := "06f2f70633b51e04f61e42acfeadf2abd99c90cd16495eba491877e69876bc65", func := "link/linklaw.Ends", spec := "ends", unfollowed := true, recurses := true, named := ["link/link.fixed"], apart := false, laid := [("link/link.fixed", laid_link_link_fixed)] }
def EndsSaid : Prop := endsRow.holds Tryz.pinned (OpenSpec.ofChange endsSpec)

/-- ITS FALSE NEIGHBOUR: 'it returns false'. Refute it at one input. -/
def endsWrong : ChangeSpec := { name := "ends", fn := fun _ => fun
  | [d1, d2] => { results := [.lit (.bool false)], args := [d1, d2] }
  | _ => none }
def EndsWrongFalsely : Prop := endsRow.holds Tryz.pinned (OpenSpec.ofChange endsWrong)

/-- 'linklaw.Joined': WHATEVER THE INPUT: true; the input reads as it did. -/
def joinedSpec : ChangeSpec := { name := "joined", fn := fun _ => fun
  | [d1, d2] => { results := [.lit (.bool true)], args := [d1, d2] }
  | _ => none }
def joinedRow : OpenClaim := { program := "ytbkpdapagfjmmaagreatdoor", sum := "06f2f70633b51e04f61e42acfeadf2abd99c90cd16495eba491877e69876bc65", func := "link/linklaw.Joined", spec := "joined", unfollowed := true, recurses := true, named := ["link/link.fixed"], apart := false, laid := [("link/link.fixed", laid_link_link_fixed)] }
def JoinedSaid : Prop := joinedRow.holds Tryz.pinned (OpenSpec.ofChange joinedSpec)

/-- ITS FALSE NEIGHBOUR: 'it returns false'. Refute it at one input. -/
def joinedWrong : ChangeSpec := { name := "joined", fn := fun _ => fun
  | [d1, d2] => { results := [.lit (.bool false)], args := [d1, d2] }
  | _ => none }
def JoinedWrongFalsely : Prop := joinedRow.holds Tryz.pinned (OpenSpec.ofChange joinedWrong)

/-- 'linklaw.Arrives': WHATEVER THE INPUT: true; the input reads as it did. -/
def arrivesSpec : ChangeSpec := { name := "arrives", fn := fun _ => fun
  | [d1, d2] => { results := [.lit (.bool true)], args := [d1, d2] }
  | _ => none }
def arrivesRow : OpenClaim := { program := "ytbkpdapagfjmmaagreatdoor", sum := "06f2f70633b51e04f61e42acfeadf2abd99c90cd16495eba491877e69876bc65", func := "link/linklaw.Arrives", spec := "arrives", unfollowed := true, recurses := true, named := ["link/link.fixed"], apart := false, laid := [("link/link.fixed", laid_link_link_fixed)] }
def ArrivesSaid : Prop := arrivesRow.holds Tryz.pinned (OpenSpec.ofChange arrivesSpec)

/-- ITS FALSE NEIGHBOUR: 'it returns false'. Refute it at one input. -/
def arrivesWrong : ChangeSpec := { name := "arrives", fn := fun _ => fun
  | [d1, d2] => { results := [.lit (.bool false)], args := [d1, d2] }
  | _ => none }
def ArrivesWrongFalsely : Prop := arrivesRow.holds Tryz.pinned (OpenSpec.ofChange arrivesWrong)

/-- 'linklaw.Within': WHATEVER THE INPUT: true; the input reads as it did. -/
def withinSpec : ChangeSpec := { name := "within", fn := fun _ => fun
  | [d1, d2] => { results := [.lit (.bool true)], args := [d1, d2] }
  | _ => none }
def withinRow : OpenClaim := { program := "ytbkpdapagfjmmaagreatdoor", sum := "06f2f70633b51e04f61e42acfeadf2abd99c90cd16495eba491877e69876bc65", func := "link/linklaw.Within", spec := "within", unfollowed := true, recurses := true, named := ["link/link.fixed"], apart := false, laid := [("link/link.fixed", laid_link_link_fixed)] }
def WithinSaid : Prop := withinRow.holds Tryz.pinned (OpenSpec.ofChange withinSpec)

/-- ITS FALSE NEIGHBOUR: 'it returns false'. Refute it at one input. -/
def withinWrong : ChangeSpec := { name := "within", fn := fun _ => fun
  | [d1, d2] => { results := [.lit (.bool false)], args := [d1, d2] }
  | _ => none }
def WithinWrongFalsely : Prop := withinRow.holds Tryz.pinned (OpenSpec.ofChange withinWrong)

/-- 'linklaw.All': WHATEVER THE INPUT: true; the input reads as it did. -/
def allSpec : ChangeSpec := { name := "all", fn := fun _ => fun
  | [d] => { results := [.lit (.bool true)], args := [d] }
  | _ => none }
def allRow : OpenClaim := { program := "ytbkpdapagfjmmaagreatdoor", sum := "06f2f70633b51e04f61e42acfeadf2abd99c90cd16495eba491877e69876bc65", func := "link/linklaw.All", spec := "all", unfollowed := true, recurses := true, named := ["link/link.fixed"], apart := false, laid := [("link/link.fixed", laid_link_link_fixed)] }
def AllSaid : Prop := allRow.holds Tryz.pinned (OpenSpec.ofChange allSpec)

/-- ITS FALSE NEIGHBOUR: 'it returns false'. Refute it at one input. -/
def allWrong : ChangeSpec := { name := "all", fn := fun _ => fun
  | [d] => { results := [.lit (.bool false)], args := [d] }
  | _ => none }
def AllWrongFalsely : Prop := allRow.holds Tryz.pinned (OpenSpec.ofChange allWrong)

/- THE SECOND FORM. 'bulk': how many values and letters a reading holds, each counted each time it is reached (what is shared counts as often as it is met; a slice's spare places count too). A statement '..UptoSaid' is the law's where the arguments, and the package variables that the reading takes, are together of bulk at most 1048576: NARROWER than '..Said'. Prove '..Said' where nothing that the law and all that it calls make is longer than what came in: it says more and counts as full. Else prove '..UptoSaid'. A law counts once. -/
mutual
def uptoBulk {H : Type} : DataW H → Nat
  | .lit (.string bytes) => bytes.length + 1
  | .lit _ => 1
  | .nil => 1
  | .ptr d => uptoBulk d + 1
  | .slice elems spare => uptoBulkAll elems + uptoBulkAll spare + 1
  | .agg parts => uptoBulkAll parts + 1
  | .iface _ d => uptoBulk d + 1
  | .map entries => uptoBulkEntries entries + 1
  | .held _ => 1
def uptoBulkAll {H : Type} : List (DataW H) → Nat
  | [] => 0
  | d :: r => uptoBulk d + uptoBulkAll r
def uptoBulkEntries {H : Type} : List (Lit × DataW H) → Nat
  | [] => 0
  | x :: r => uptoBulkEntry x + uptoBulkEntries r
def uptoBulkEntry {H : Type} : Lit × DataW H → Nat
  | (.string bytes, d) => bytes.length + uptoBulk d + 1
  | (_, d) => uptoBulk d + 1
 end
def uptoSmall : (H : Type) → List (DataW H) → Bool := fun _ ds => decide (uptoBulkAll ds ≤ 1048576)
def OpenSpec.upto (s : _root_.Go.ChangeSpec) : _root_.Go.OpenSpec := { _root_.Go.OpenSpec.ofChange s with cond := some uptoSmall }

/-- 'linklaw.Reads', WHERE WHAT IT READS IS OF BULK AT MOST 1048576: true; the input reads as it did. -/
def readsUptoRow : OpenClaim := { program := "ytbkpdapagfjmmaagreatdoor", sum := "06f2f70633b51e04f61e42acfeadf2abd99c90cd16495eba491877e69876bc65", func := "link/linklaw.Reads", spec := "reads", unfollowed := true, recurses := true, named := ["link/link.fixed"], apart := false, laid := [("link/link.fixed", laid_link_link_fixed)], narrowed := true }
def ReadsUptoSaid : Prop := readsUptoRow.holds Tryz.pinned (OpenSpec.upto readsSpec)

/-- 'linklaw.Tables', WHERE WHAT IT READS IS OF BULK AT MOST 1048576: true; the input reads as it did. -/
def tablesUptoRow : OpenClaim := { program := "ytbkpdapagfjmmaagreatdoor", sum := "06f2f70633b51e04f61e42acfeadf2abd99c90cd16495eba491877e69876bc65", func := "link/linklaw.Tables", spec := "tables", unfollowed := true, recurses := true, named := ["link/link.fixed"], apart := false, laid := [("link/link.fixed", laid_link_link_fixed)], narrowed := true }
def TablesUptoSaid : Prop := tablesUptoRow.holds Tryz.pinned (OpenSpec.upto tablesSpec)

/-- 'linklaw.Ends', WHERE WHAT IT READS IS OF BULK AT MOST 1048576: true; the input reads as it did. -/
def endsUptoRow : OpenClaim := { program := "ytbkpdapagfjmmaagreatdoor", sum := "06f2f70633b51e04f61e42acfeadf2abd99c90cd16495eba491877e69876bc65", func := "link/linklaw.Ends", spec := "ends", unfollowed := true, recurses := true, named := ["link/link.fixed"], apart := false, laid := [("link/link.fixed", laid_link_link_fixed)], narrowed := true }
def EndsUptoSaid : Prop := endsUptoRow.holds Tryz.pinned (OpenSpec.upto endsSpec)

/-- 'linklaw.Joined', WHERE WHAT IT READS IS OF BULK AT MOST 1048576: true; the input reads as it did. -/
def joinedUptoRow : OpenClaim := { program := "ytbkpdapagfjmmaagreatdoor", sum := "06f2f70633b51e04f61e42acfeadf2abd99c90cd16495eba491877e69876bc65", func := "link/linklaw.Joined", spec := "joined", unfollowed := true, recurses := true, named := ["link/link.fixed"], apart := false, laid := [("link/link.fixed", laid_link_link_fixed)], narrowed := true }
def JoinedUptoSaid : Prop := joinedUptoRow.holds Tryz.pinned (OpenSpec.upto joinedSpec)

/-- 'linklaw.Arrives', WHERE WHAT IT READS IS OF BULK AT MOST 1048576: true; the input reads as it did. -/
def arrivesUptoRow : OpenClaim := { program := "ytbkpdapagfjmmaagreatdoor", sum := "06f2f70633b51e04f61e42acfeadf2abd99c90cd16495eba491877e69876bc65", func := "link/linklaw.Arrives", spec := "arrives", unfollowed := true, recurses := true, named := ["link/link.fixed"], apart := false, laid := [("link/link.fixed", laid_link_link_fixed)], narrowed := true }
def ArrivesUptoSaid : Prop := arrivesUptoRow.holds Tryz.pinned (OpenSpec.upto arrivesSpec)

/-- 'linklaw.Within', WHERE WHAT IT READS IS OF BULK AT MOST 1048576: true; the input reads as it did. -/
def withinUptoRow : OpenClaim := { program := "ytbkpdapagfjmmaagreatdoor", sum := "06f2f70633b51e04f61e42acfeadf2abd99c90cd16495eba491877e69876bc65", func := "link/linklaw.Within", spec := "within", unfollowed := true, recurses := true, named := ["link/link.fixed"], apart := false, laid := [("link/link.fixed", laid_link_link_fixed)], narrowed := true }
def WithinUptoSaid : Prop := withinUptoRow.holds Tryz.pinned (OpenSpec.upto withinSpec)

/-- 'linklaw.All', WHERE WHAT IT READS IS OF BULK AT MOST 1048576: true; the input reads as it did. -/
def allUptoRow : OpenClaim := { program := "ytbkpdapagfjmmaagreatdoor", sum := "06f2f70633b51e04f61e42acfeadf2abd99c90cd16495eba491877e69876bc65", func := "link/linklaw.All", spec := "all", unfollowed := true, recurses := true, named := ["link/link.fixed"], apart := false, laid := [("link/link.fixed", laid_link_link_fixed)], narrowed := true }
def AllUptoSaid : Prop := allUptoRow.holds Tryz.pinned (OpenSpec.upto allSpec)

end Rows
end Go.Proofs.YtbkpdapagfjmmaaGreatDoor
