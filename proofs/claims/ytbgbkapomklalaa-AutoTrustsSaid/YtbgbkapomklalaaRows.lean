/-
  No cell of these rows narrows 'for every input' (looked for: loops, veiled, ifaces, maps, wideKeys, modest, calm, conditions, laid).
  DERIVED. THE GIVEN ROWS OF THIS SEAT. 2 by the template 'for every input the law returns true; each argument reads behind the call as it read before'; 0 by the template 'total and deterministic' (their statements: YtbgbkapomklalaaTotals.lean).
  GIVEN WITH THE SEED: the statements are not yours to turn. If you find one false, say at which input.
  Laid BY PROGRAM, IN A SANDBOX (cutbox-rows.mjs): the forced cells as the released guide's own fill.sh prints them over the translation 3528bd4c0f63bc01… (all of the seat's roots in one cut). By AI agents, Wed Nov 11 2026. No macro, syntax, notation, axiom, sorry.
-/
import Derived.Test.YtbgbkapomklalaaChecked
import GoSem.Claim
import GoSem.ClaimJoined
import GoSem.ClaimMapViews
import Derived.JoinedTies
import Derived.KernelRfl
namespace Go.Proofs.Ytbgbkapomklalaa
/- THE CELL 'sum', in the pinned program and in every row, IS THE sha256 OF THE DUMP (.gsa) THAT YtbgbkapomklalaaProg.lean LOADS. Nothing in Lean hashes anything: it is a label: what it is worth is what the hold of that sum in a sandbox is worth. -/
noncomputable def Try.pinned : Pinned := { name := "ytbgbkapomklalaa", sum := "3528bd4c0f63bc01f0ea1912f704dd00eefc5b65829bafb7f6b9627f755abf18", checked := Try.checked }
namespace Rows
def none {H : Type} : Left H := { results := [], args := [] }

/-- 'doppelgangerlaw03.AutoValid': WHATEVER THE INPUT: true; the input reads as it did. -/
def autoValidSpec : ChangeSpec := { name := "autoValid", fn := fun _ => fun
  | [d1, d2] => { results := [.lit (.bool true)], args := [d1, d2] }
  | _ => none }
def autoValidRow : OpenClaim := { program := "ytbgbkapomklalaa", sum := "3528bd4c0f63bc01f0ea1912f704dd00eefc5b65829bafb7f6b9627f755abf18", func := "doppelganger/doppelgangerlaw03.AutoValid", spec := "autoValid", unfollowed := true, recurses := true, plainKeys := false, apart := false }
def AutoValidSaid : Prop := autoValidRow.holds Try.pinned (OpenSpec.ofChange autoValidSpec)

/-- ITS FALSE NEIGHBOUR: 'it returns false'. Refute it at one input. -/
def autoValidWrong : ChangeSpec := { name := "autoValid", fn := fun _ => fun
  | [d1, d2] => { results := [.lit (.bool false)], args := [d1, d2] }
  | _ => none }
def AutoValidWrongFalsely : Prop := autoValidRow.holds Try.pinned (OpenSpec.ofChange autoValidWrong)

/-- 'doppelgangerlaw03.AutoTrusts': WHATEVER THE INPUT: true; the input reads as it did. -/
def autoTrustsSpec : ChangeSpec := { name := "autoTrusts", fn := fun _ => fun
  | [d1, d2, d3, d4] => { results := [.lit (.bool true)], args := [d1, d2, d3, d4] }
  | _ => none }
def autoTrustsRow : OpenClaim := { program := "ytbgbkapomklalaa", sum := "3528bd4c0f63bc01f0ea1912f704dd00eefc5b65829bafb7f6b9627f755abf18", func := "doppelganger/doppelgangerlaw03.AutoTrusts", spec := "autoTrusts", unfollowed := true, recurses := true, plainKeys := false, apart := false }
def AutoTrustsSaid : Prop := autoTrustsRow.holds Try.pinned (OpenSpec.ofChange autoTrustsSpec)

/-- ITS FALSE NEIGHBOUR: 'it returns false'. Refute it at one input. -/
def autoTrustsWrong : ChangeSpec := { name := "autoTrusts", fn := fun _ => fun
  | [d1, d2, d3, d4] => { results := [.lit (.bool false)], args := [d1, d2, d3, d4] }
  | _ => none }
def AutoTrustsWrongFalsely : Prop := autoTrustsRow.holds Try.pinned (OpenSpec.ofChange autoTrustsWrong)

/- THE SECOND FORM. 'bulk': how many values and letters a reading holds, each counted each time it is reached (what is shared counts as often as it is met; a slice's spare places count too). A statement '..UptoSaid' is the law's where the arguments, and the package variables that the reading takes, are together of bulk at most 1048576: NARROWER than '..Said'. Prove '..Said' where nothing that the law and all that it calls make is longer than what came in: it says more and counts as full. Else prove '..UptoSaid'. A law counts once. -/
mutual
def uptoBulk {H : Type} : DataW H → Nat
  | .lit (.string bytes) => bytes.length + 1
  | .lit _ => 1
  | .nil => 1
  | .ptr d => uptoBulk d + 1
  | .slice elems spare => uptoBulkAll elems + uptoBulkAll spare + 1
  | .agg parts => uptoBulkAll parts + 1
  | .iface _ d => uptoBulk d + 1
  | .map entries => uptoBulkEntries entries + 1
  | .held _ => 1
def uptoBulkAll {H : Type} : List (DataW H) → Nat
  | [] => 0
  | d :: r => uptoBulk d + uptoBulkAll r
def uptoBulkEntries {H : Type} : List (Lit × DataW H) → Nat
  | [] => 0
  | x :: r => uptoBulkEntry x + uptoBulkEntries r
def uptoBulkEntry {H : Type} : Lit × DataW H → Nat
  | (.string bytes, d) => bytes.length + uptoBulk d + 1
  | (_, d) => uptoBulk d + 1
 end
def uptoSmall : (H : Type) → List (DataW H) → Bool := fun _ ds => decide (uptoBulkAll ds ≤ 1048576)
def OpenSpec.upto (s : _root_.Go.ChangeSpec) : _root_.Go.OpenSpec := { _root_.Go.OpenSpec.ofChange s with cond := some uptoSmall }

/-- 'doppelgangerlaw03.AutoValid', WHERE WHAT IT READS IS OF BULK AT MOST 1048576: true; the input reads as it did. -/
def autoValidUptoRow : OpenClaim := { program := "ytbgbkapomklalaa", sum := "3528bd4c0f63bc01f0ea1912f704dd00eefc5b65829bafb7f6b9627f755abf18", func := "doppelganger/doppelgangerlaw03.AutoValid", spec := "autoValid", unfollowed := true, recurses := true, plainKeys := false, apart := false, narrowed := true }
def AutoValidUptoSaid : Prop := autoValidUptoRow.holds Try.pinned (OpenSpec.upto autoValidSpec)

/-- 'doppelgangerlaw03.AutoTrusts', WHERE WHAT IT READS IS OF BULK AT MOST 1048576: true; the input reads as it did. -/
def autoTrustsUptoRow : OpenClaim := { program := "ytbgbkapomklalaa", sum := "3528bd4c0f63bc01f0ea1912f704dd00eefc5b65829bafb7f6b9627f755abf18", func := "doppelganger/doppelgangerlaw03.AutoTrusts", spec := "autoTrusts", unfollowed := true, recurses := true, plainKeys := false, apart := false, narrowed := true }
def AutoTrustsUptoSaid : Prop := autoTrustsUptoRow.holds Try.pinned (OpenSpec.upto autoTrustsSpec)

end Rows
end Go.Proofs.Ytbgbkapomklalaa
