/-
  No cell of these rows narrows 'for every input' (looked for: loops, veiled, ifaces, maps, wideKeys, modest, calm, conditions, laid).
  DERIVED. THE GIVEN ROWS OF THIS SEAT. 4 by the template 'for every input the law returns true; each argument reads behind the call as it read before'; 0 by the template 'total and deterministic' (their statements: YtepmhgkegfpmjaaTotals.lean).
  GIVEN WITH THE SEED: the statements are not yours to turn. If you find one false, say at which input.
  Laid BY PROGRAM, IN A SANDBOX (cutbox-rows.mjs): the forced cells as the released guide's own fill.sh prints them over the translation a0fbd655d09e19bb… (all of the seat's roots in one cut). By AI agents, Wed Nov 11 2026. No macro, syntax, notation, axiom, sorry.
-/
import Derived.Test.YtepmhgkegfpmjaaChecked
import GoSem.Claim
import GoSem.ClaimJoined
import GoSem.ClaimMapViews
import Derived.JoinedTies
import Derived.KernelRfl
namespace Go.Proofs.Ytepmhgkegfpmjaa
/- THE CELL 'sum', in the pinned program and in every row, IS THE sha256 OF THE DUMP (.gsa) THAT YtepmhgkegfpmjaaProg.lean LOADS. Nothing in Lean hashes anything: it is a label: what it is worth is what the hold of that sum in a sandbox is worth. -/
noncomputable def Try.pinned : Pinned := { name := "ytepmhgkegfpmjaa", sum := "a0fbd655d09e19bbb7ba7a421bbd717cce89e843eaeee62053e52ed8b22cdb33", checked := Try.checked }
namespace Rows
def none {H : Type} : Left H := { results := [], args := [] }

/-- 'garretlaw08.PortLists': WHATEVER THE INPUT: true; the input reads as it did. -/
def portListsSpec : ChangeSpec := { name := "portLists", fn := fun _ => fun
  | [d1, d2] => { results := [.lit (.bool true)], args := [d1, d2] }
  | _ => none }
def portListsRow : OpenClaim := { program := "ytepmhgkegfpmjaa", sum := "a0fbd655d09e19bbb7ba7a421bbd717cce89e843eaeee62053e52ed8b22cdb33", func := "garret/garretlaw08.PortLists", spec := "portLists", inPlace := ["sync/atomic.AddInt64"], unfollowed := true, recurses := true, apart := false }
def PortListsSaid : Prop := portListsRow.holds Try.pinned (OpenSpec.ofChange portListsSpec)

/-- ITS FALSE NEIGHBOUR: 'it returns false'. Refute it at one input. -/
def portListsWrong : ChangeSpec := { name := "portLists", fn := fun _ => fun
  | [d1, d2] => { results := [.lit (.bool false)], args := [d1, d2] }
  | _ => none }
def PortListsWrongFalsely : Prop := portListsRow.holds Try.pinned (OpenSpec.ofChange portListsWrong)

/-- 'garretlaw08.PortRuns': WHATEVER THE INPUT: true; the input reads as it did. -/
def portRunsSpec : ChangeSpec := { name := "portRuns", fn := fun _ => fun
  | [d1, d2] => { results := [.lit (.bool true)], args := [d1, d2] }
  | _ => none }
def portRunsRow : OpenClaim := { program := "ytepmhgkegfpmjaa", sum := "a0fbd655d09e19bbb7ba7a421bbd717cce89e843eaeee62053e52ed8b22cdb33", func := "garret/garretlaw08.PortRuns", spec := "portRuns", inPlace := ["sync/atomic.AddInt64"], unfollowed := true, recurses := true, apart := false }
def PortRunsSaid : Prop := portRunsRow.holds Try.pinned (OpenSpec.ofChange portRunsSpec)

/-- ITS FALSE NEIGHBOUR: 'it returns false'. Refute it at one input. -/
def portRunsWrong : ChangeSpec := { name := "portRuns", fn := fun _ => fun
  | [d1, d2] => { results := [.lit (.bool false)], args := [d1, d2] }
  | _ => none }
def PortRunsWrongFalsely : Prop := portRunsRow.holds Try.pinned (OpenSpec.ofChange portRunsWrong)

/-- 'garretlaw08.PortTurns': WHATEVER THE INPUT: true; the input reads as it did. -/
def portTurnsSpec : ChangeSpec := { name := "portTurns", fn := fun _ => fun
  | [d1, d2, d3] => { results := [.lit (.bool true)], args := [d1, d2, d3] }
  | _ => none }
def portTurnsRow : OpenClaim := { program := "ytepmhgkegfpmjaa", sum := "a0fbd655d09e19bbb7ba7a421bbd717cce89e843eaeee62053e52ed8b22cdb33", func := "garret/garretlaw08.PortTurns", spec := "portTurns", inPlace := ["sync/atomic.AddInt64"], unfollowed := true, recurses := true, apart := false }
def PortTurnsSaid : Prop := portTurnsRow.holds Try.pinned (OpenSpec.ofChange portTurnsSpec)

/-- ITS FALSE NEIGHBOUR: 'it returns false'. Refute it at one input. -/
def portTurnsWrong : ChangeSpec := { name := "portTurns", fn := fun _ => fun
  | [d1, d2, d3] => { results := [.lit (.bool false)], args := [d1, d2, d3] }
  | _ => none }
def PortTurnsWrongFalsely : Prop := portTurnsRow.holds Try.pinned (OpenSpec.ofChange portTurnsWrong)

/-- 'garretlaw08.PortAsks': WHATEVER THE INPUT: true; the input reads as it did. -/
def portAsksSpec : ChangeSpec := { name := "portAsks", fn := fun _ => fun
  | [d] => { results := [.lit (.bool true)], args := [d] }
  | _ => none }
def portAsksRow : OpenClaim := { program := "ytepmhgkegfpmjaa", sum := "a0fbd655d09e19bbb7ba7a421bbd717cce89e843eaeee62053e52ed8b22cdb33", func := "garret/garretlaw08.PortAsks", spec := "portAsks", inPlace := ["sync/atomic.AddInt64"], unfollowed := true, recurses := true, apart := false }
def PortAsksSaid : Prop := portAsksRow.holds Try.pinned (OpenSpec.ofChange portAsksSpec)

/-- ITS FALSE NEIGHBOUR: 'it returns false'. Refute it at one input. -/
def portAsksWrong : ChangeSpec := { name := "portAsks", fn := fun _ => fun
  | [d] => { results := [.lit (.bool false)], args := [d] }
  | _ => none }
def PortAsksWrongFalsely : Prop := portAsksRow.holds Try.pinned (OpenSpec.ofChange portAsksWrong)

/- THE SECOND FORM. 'bulk': how many values and letters a reading holds, each counted each time it is reached (what is shared counts as often as it is met; a slice's spare places count too). A statement '..UptoSaid' is the law's where the arguments, and the package variables that the reading takes, are together of bulk at most 1048576: NARROWER than '..Said'. Prove '..Said' where nothing that the law and all that it calls make is longer than what came in: it says more and counts as full. Else prove '..UptoSaid'. A law counts once. -/
mutual
def uptoBulk {H : Type} : DataW H → Nat
  | .lit (.string bytes) => bytes.length + 1
  | .lit _ => 1
  | .nil => 1
  | .ptr d => uptoBulk d + 1
  | .slice elems spare => uptoBulkAll elems + uptoBulkAll spare + 1
  | .agg parts => uptoBulkAll parts + 1
  | .iface _ d => uptoBulk d + 1
  | .map entries => uptoBulkEntries entries + 1
  | .held _ => 1
def uptoBulkAll {H : Type} : List (DataW H) → Nat
  | [] => 0
  | d :: r => uptoBulk d + uptoBulkAll r
def uptoBulkEntries {H : Type} : List (Lit × DataW H) → Nat
  | [] => 0
  | x :: r => uptoBulkEntry x + uptoBulkEntries r
def uptoBulkEntry {H : Type} : Lit × DataW H → Nat
  | (.string bytes, d) => bytes.length + uptoBulk d + 1
  | (_, d) => uptoBulk d + 1
 end
def uptoSmall : (H : Type) → List (DataW H) → Bool := fun _ ds => decide (uptoBulkAll ds ≤ 1048576)
def OpenSpec.upto (s : _root_.Go.ChangeSpec) : _root_.Go.OpenSpec := { _root_.Go.OpenSpec.ofChange s with cond := some uptoSmall }

/-- 'garretlaw08.PortLists', WHERE WHAT IT READS IS OF BULK AT MOST 1048576: true; the input reads as it did. -/
def portListsUptoRow : OpenClaim := { program := "ytepmhgkegfpmjaa", sum := "a0fbd655d09e19bbb7ba7a421bbd717cce89e843eaeee62053e52ed8b22cdb33", func := "garret/garretlaw08.PortLists", spec := "portLists", inPlace := ["sync/atomic.AddInt64"], unfollowed := true, recurses := true, apart := false, narrowed := true }
def PortListsUptoSaid : Prop := portListsUptoRow.holds Try.pinned (OpenSpec.upto portListsSpec)

/-- 'garretlaw08.PortRuns', WHERE WHAT IT READS IS OF BULK AT MOST 1048576: true; the input reads as it did. -/
def portRunsUptoRow : OpenClaim := { program := "ytepmhgkegfpmjaa", sum := "a0fbd655d09e19bbb7ba7a421bbd717cce89e843eaeee62053e52ed8b22cdb33", func := "garret/garretlaw08.PortRuns", spec := "portRuns", inPlace := ["sync/atomic.AddInt64"], unfollowed := true, recurses := true, apart := false, narrowed := true }
def PortRunsUptoSaid : Prop := portRunsUptoRow.holds Try.pinned (OpenSpec.upto portRunsSpec)

/-- 'garretlaw08.PortTurns', WHERE WHAT IT READS IS OF BULK AT MOST 1048576: true; the input reads as it did. -/
def portTurnsUptoRow : OpenClaim := { program := "ytepmhgkegfpmjaa", sum := "a0fbd655d09e19bbb7ba7a421bbd717cce89e843eaeee62053e52ed8b22cdb33", func := "garret/garretlaw08.PortTurns", spec := "portTurns", inPlace := ["sync/atomic.AddInt64"], unfollowed := true, recurses := true, apart := false, narrowed := true }
def PortTurnsUptoSaid : Prop := portTurnsUptoRow.holds Try.pinned (OpenSpec.upto portTurnsSpec)

/-- 'garretlaw08.PortAsks', WHERE WHAT IT READS IS OF BULK AT MOST 1048576: true; the input reads as it did. -/
def portAsksUptoRow : OpenClaim := { program := "ytepmhgkegfpmjaa", sum := "a0fbd655d09e19bbb7ba7a421bbd717cce89e843eaeee62053e52ed8b22cdb33", func := "garret/garretlaw08.PortAsks", spec := "portAsks", inPlace := ["sync/atomic.AddInt64"], unfollowed := true, recurses := true, apart := false, narrowed := true }
def PortAsksUptoSaid : Prop := portAsksUptoRow.holds Try.pinned (OpenSpec.upto portAsksSpec)

end Rows
end Go.Proofs.Ytepmhgkegfpmjaa
