/-
  No cell of these rows narrows 'for every input' (looked for: loops, veiled, ifaces, maps, wideKeys, modest, calm, conditions, laid).
  DERIVED. THE GIVEN ROWS OF THIS SEAT. 5 by the template 'for every input the law returns true; each argument reads behind the call as it read before'; 0 by the template 'total and deterministic' (their statements: YtndjefjkfhcedaaTotals.lean).
  GIVEN WITH THE SEED: the statements are not yours to turn. If you find one false, say at which input.
  Laid BY PROGRAM, IN A SANDBOX (cutbox-rows.mjs): the forced cells as the released guide's own fill.sh prints them over the translation 5cd076f54bf8c302… (all of the seat's roots in one cut). By AI agents, Wed Nov 11 2026. No macro, syntax, notation, axiom, sorry.
-/
import Derived.Test.YtndjefjkfhcedaaChecked
import GoSem.Claim
import GoSem.ClaimJoined
import GoSem.ClaimMapViews
import Derived.JoinedTies
import Derived.KernelRfl
namespace Go.Proofs.Ytndjefjkfhcedaa
/- THE CELL 'sum', in the pinned program and in every row, IS THE sha256 OF THE DUMP (.gsa) THAT YtndjefjkfhcedaaProg.lean LOADS. Nothing in Lean hashes anything: it is a label: what it is worth is what the hold of that sum in a sandbox is worth. -/
noncomputable def Try.pinned : Pinned := { name := "ytndjefjkfhcedaa", sum := "5cd076f54bf8c30275cb030fed68c41ca9ff43c47e527d977076cafff35d242b", checked := Try.checked }
namespace Rows
def none {H : Type} : Left H := { results := [], args := [] }

/-- 'garretlaw12.LzUnpacks': WHATEVER THE INPUT: true; the input reads as it did. -/
def lzUnpacksSpec : ChangeSpec := { name := "lzUnpacks", fn := fun _ => fun
  | [d1, d2] => { results := [.lit (.bool true)], args := [d1, d2] }
  | _ => none }
def lzUnpacksRow : OpenClaim := { program := "ytndjefjkfhcedaa", sum := "5cd076f54bf8c30275cb030fed68c41ca9ff43c47e527d977076cafff35d242b", func := "garret/garretlaw12.LzUnpacks", spec := "lzUnpacks", unfollowed := true, recurses := true, plainKeys := false, apart := false }
def LzUnpacksSaid : Prop := lzUnpacksRow.holds Try.pinned (OpenSpec.ofChange lzUnpacksSpec)

/-- ITS FALSE NEIGHBOUR: 'it returns false'. Refute it at one input. -/
def lzUnpacksWrong : ChangeSpec := { name := "lzUnpacks", fn := fun _ => fun
  | [d1, d2] => { results := [.lit (.bool false)], args := [d1, d2] }
  | _ => none }
def LzUnpacksWrongFalsely : Prop := lzUnpacksRow.holds Try.pinned (OpenSpec.ofChange lzUnpacksWrong)

/-- 'garretlaw12.LzPacks': WHATEVER THE INPUT: true; the input reads as it did. -/
def lzPacksSpec : ChangeSpec := { name := "lzPacks", fn := fun _ => fun
  | [d1, d2] => { results := [.lit (.bool true)], args := [d1, d2] }
  | _ => none }
def lzPacksRow : OpenClaim := { program := "ytndjefjkfhcedaa", sum := "5cd076f54bf8c30275cb030fed68c41ca9ff43c47e527d977076cafff35d242b", func := "garret/garretlaw12.LzPacks", spec := "lzPacks", unfollowed := true, recurses := true, plainKeys := false, apart := false }
def LzPacksSaid : Prop := lzPacksRow.holds Try.pinned (OpenSpec.ofChange lzPacksSpec)

/-- ITS FALSE NEIGHBOUR: 'it returns false'. Refute it at one input. -/
def lzPacksWrong : ChangeSpec := { name := "lzPacks", fn := fun _ => fun
  | [d1, d2] => { results := [.lit (.bool false)], args := [d1, d2] }
  | _ => none }
def LzPacksWrongFalsely : Prop := lzPacksRow.holds Try.pinned (OpenSpec.ofChange lzPacksWrong)

/-- 'garretlaw12.LzBack': WHATEVER THE INPUT: true; the input reads as it did. -/
def lzBackSpec : ChangeSpec := { name := "lzBack", fn := fun _ => fun
  | [d1, d2, d3] => { results := [.lit (.bool true)], args := [d1, d2, d3] }
  | _ => none }
def lzBackRow : OpenClaim := { program := "ytndjefjkfhcedaa", sum := "5cd076f54bf8c30275cb030fed68c41ca9ff43c47e527d977076cafff35d242b", func := "garret/garretlaw12.LzBack", spec := "lzBack", unfollowed := true, recurses := true, plainKeys := false, apart := false }
def LzBackSaid : Prop := lzBackRow.holds Try.pinned (OpenSpec.ofChange lzBackSpec)

/-- ITS FALSE NEIGHBOUR: 'it returns false'. Refute it at one input. -/
def lzBackWrong : ChangeSpec := { name := "lzBack", fn := fun _ => fun
  | [d1, d2, d3] => { results := [.lit (.bool false)], args := [d1, d2, d3] }
  | _ => none }
def LzBackWrongFalsely : Prop := lzBackRow.holds Try.pinned (OpenSpec.ofChange lzBackWrong)

/-- 'garretlaw12.LzLess': WHATEVER THE INPUT: true; the input reads as it did. -/
def lzLessSpec : ChangeSpec := { name := "lzLess", fn := fun _ => fun
  | [d1, d2] => { results := [.lit (.bool true)], args := [d1, d2] }
  | _ => none }
def lzLessRow : OpenClaim := { program := "ytndjefjkfhcedaa", sum := "5cd076f54bf8c30275cb030fed68c41ca9ff43c47e527d977076cafff35d242b", func := "garret/garretlaw12.LzLess", spec := "lzLess", unfollowed := true, recurses := true, plainKeys := false, apart := false }
def LzLessSaid : Prop := lzLessRow.holds Try.pinned (OpenSpec.ofChange lzLessSpec)

/-- ITS FALSE NEIGHBOUR: 'it returns false'. Refute it at one input. -/
def lzLessWrong : ChangeSpec := { name := "lzLess", fn := fun _ => fun
  | [d1, d2] => { results := [.lit (.bool false)], args := [d1, d2] }
  | _ => none }
def LzLessWrongFalsely : Prop := lzLessRow.holds Try.pinned (OpenSpec.ofChange lzLessWrong)

/-- 'garretlaw12.LzSums': WHATEVER THE INPUT: true; the input reads as it did. -/
def lzSumsSpec : ChangeSpec := { name := "lzSums", fn := fun _ => fun
  | [d1, d2] => { results := [.lit (.bool true)], args := [d1, d2] }
  | _ => none }
def lzSumsRow : OpenClaim := { program := "ytndjefjkfhcedaa", sum := "5cd076f54bf8c30275cb030fed68c41ca9ff43c47e527d977076cafff35d242b", func := "garret/garretlaw12.LzSums", spec := "lzSums", unfollowed := true, recurses := true, plainKeys := false, apart := false }
def LzSumsSaid : Prop := lzSumsRow.holds Try.pinned (OpenSpec.ofChange lzSumsSpec)

/-- ITS FALSE NEIGHBOUR: 'it returns false'. Refute it at one input. -/
def lzSumsWrong : ChangeSpec := { name := "lzSums", fn := fun _ => fun
  | [d1, d2] => { results := [.lit (.bool false)], args := [d1, d2] }
  | _ => none }
def LzSumsWrongFalsely : Prop := lzSumsRow.holds Try.pinned (OpenSpec.ofChange lzSumsWrong)

/- THE SECOND FORM. 'bulk': how many values and letters a reading holds, each counted each time it is reached (what is shared counts as often as it is met; a slice's spare places count too). A statement '..UptoSaid' is the law's where the arguments, and the package variables that the reading takes, are together of bulk at most 1048576: NARROWER than '..Said'. Prove '..Said' where nothing that the law and all that it calls make is longer than what came in: it says more and counts as full. Else prove '..UptoSaid'. A law counts once. -/
mutual
def uptoBulk {H : Type} : DataW H → Nat
  | .lit (.string bytes) => bytes.length + 1
  | .lit _ => 1
  | .nil => 1
  | .ptr d => uptoBulk d + 1
  | .slice elems spare => uptoBulkAll elems + uptoBulkAll spare + 1
  | .agg parts => uptoBulkAll parts + 1
  | .iface _ d => uptoBulk d + 1
  | .map entries => uptoBulkEntries entries + 1
  | .held _ => 1
def uptoBulkAll {H : Type} : List (DataW H) → Nat
  | [] => 0
  | d :: r => uptoBulk d + uptoBulkAll r
def uptoBulkEntries {H : Type} : List (Lit × DataW H) → Nat
  | [] => 0
  | x :: r => uptoBulkEntry x + uptoBulkEntries r
def uptoBulkEntry {H : Type} : Lit × DataW H → Nat
  | (.string bytes, d) => bytes.length + uptoBulk d + 1
  | (_, d) => uptoBulk d + 1
 end
def uptoSmall : (H : Type) → List (DataW H) → Bool := fun _ ds => decide (uptoBulkAll ds ≤ 1048576)
def OpenSpec.upto (s : _root_.Go.ChangeSpec) : _root_.Go.OpenSpec := { _root_.Go.OpenSpec.ofChange s with cond := some uptoSmall }

/-- 'garretlaw12.LzUnpacks', WHERE WHAT IT READS IS OF BULK AT MOST 1048576: true; the input reads as it did. -/
def lzUnpacksUptoRow : OpenClaim := { program := "ytndjefjkfhcedaa", sum := "5cd076f54bf8c30275cb030fed68c41ca9ff43c47e527d977076cafff35d242b", func := "garret/garretlaw12.LzUnpacks", spec := "lzUnpacks", unfollowed := true, recurses := true, plainKeys := false, apart := false, narrowed := true }
def LzUnpacksUptoSaid : Prop := lzUnpacksUptoRow.holds Try.pinned (OpenSpec.upto lzUnpacksSpec)

/-- 'garretlaw12.LzPacks', WHERE WHAT IT READS IS OF BULK AT MOST 1048576: true; the input reads as it did. -/
def lzPacksUptoRow : OpenClaim := { program := "ytndjefjkfhcedaa", sum := "5cd076f54bf8c30275cb030fed68c41ca9ff43c47e527d977076cafff35d242b", func := "garret/garretlaw12.LzPacks", spec := "lzPacks", unfollowed := true, recurses := true, plainKeys := false, apart := false, narrowed := true }
def LzPacksUptoSaid : Prop := lzPacksUptoRow.holds Try.pinned (OpenSpec.upto lzPacksSpec)

/-- 'garretlaw12.LzBack', WHERE WHAT IT READS IS OF BULK AT MOST 1048576: true; the input reads as it did. -/
def lzBackUptoRow : OpenClaim := { program := "ytndjefjkfhcedaa", sum := "5cd076f54bf8c30275cb030fed68c41ca9ff43c47e527d977076cafff35d242b", func := "garret/garretlaw12.LzBack", spec := "lzBack", unfollowed := true, recurses := true, plainKeys := false, apart := false, narrowed := true }
def LzBackUptoSaid : Prop := lzBackUptoRow.holds Try.pinned (OpenSpec.upto lzBackSpec)

/-- 'garretlaw12.LzLess', WHERE WHAT IT READS IS OF BULK AT MOST 1048576: true; the input reads as it did. -/
def lzLessUptoRow : OpenClaim := { program := "ytndjefjkfhcedaa", sum := "5cd076f54bf8c30275cb030fed68c41ca9ff43c47e527d977076cafff35d242b", func := "garret/garretlaw12.LzLess", spec := "lzLess", unfollowed := true, recurses := true, plainKeys := false, apart := false, narrowed := true }
def LzLessUptoSaid : Prop := lzLessUptoRow.holds Try.pinned (OpenSpec.upto lzLessSpec)

/-- 'garretlaw12.LzSums', WHERE WHAT IT READS IS OF BULK AT MOST 1048576: true; the input reads as it did. -/
def lzSumsUptoRow : OpenClaim := { program := "ytndjefjkfhcedaa", sum := "5cd076f54bf8c30275cb030fed68c41ca9ff43c47e527d977076cafff35d242b", func := "garret/garretlaw12.LzSums", spec := "lzSums", unfollowed := true, recurses := true, plainKeys := false, apart := false, narrowed := true }
def LzSumsUptoSaid : Prop := lzSumsUptoRow.holds Try.pinned (OpenSpec.upto lzSumsSpec)

end Rows
end Go.Proofs.Ytndjefjkfhcedaa
