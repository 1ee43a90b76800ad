/-
  No cell of these rows narrows 'for every input' (looked for: loops, veiled, ifaces, maps, wideKeys, modest, calm, conditions, laid).
  DERIVED. THE GIVEN ROWS OF THIS SEAT. 3 by the template 'for every input the law returns true; each argument reads behind the call as it read before'; 0 by the template 'total and deterministic' (their statements: YtldmjpnldgekaaaTotals.lean).
  GIVEN WITH THE SEED: the statements are not yours to turn. If you find one false, say at which input.
  Laid BY PROGRAM, IN A SANDBOX (cutbox-rows.mjs): the forced cells as the released guide's own fill.sh prints them over the translation 72897363d4174bb4… (all of the seat's roots in one cut). By AI agents, Wed Nov 11 2026. No macro, syntax, notation, axiom, sorry.
-/
import Derived.Test.YtldmjpnldgekaaaChecked
import GoSem.Claim
import GoSem.ClaimJoined
import GoSem.ClaimMapViews
import Derived.JoinedTies
import Derived.KernelRfl
namespace Go.Proofs.Ytldmjpnldgekaaa
/- THE CELL 'sum', in the pinned program and in every row, IS THE sha256 OF THE DUMP (.gsa) THAT YtldmjpnldgekaaaProg.lean LOADS. Nothing in Lean hashes anything: it is a label: what it is worth is what the hold of that sum in a sandbox is worth. -/
noncomputable def Try.pinned : Pinned := { name := "ytldmjpnldgekaaa", sum := "72897363d4174bb47e5bcd0f20702abf180c6062f8fec569c0255e7d36366868", checked := Try.checked }
namespace Rows
def none {H : Type} : Left H := { results := [], args := [] }

/-- 'doppelgangerlaw03.AutoJoins': WHATEVER THE INPUT: true; the input reads as it did. -/
def autoJoinsSpec : ChangeSpec := { name := "autoJoins", fn := fun _ => fun
  | [d1, d2] => { results := [.lit (.bool true)], args := [d1, d2] }
  | _ => none }
def autoJoinsRow : OpenClaim := { program := "ytldmjpnldgekaaa", sum := "72897363d4174bb47e5bcd0f20702abf180c6062f8fec569c0255e7d36366868", func := "doppelganger/doppelgangerlaw03.AutoJoins", spec := "autoJoins", unfollowed := true, recurses := true, plainKeys := false, apart := false }
def AutoJoinsSaid : Prop := autoJoinsRow.holds Try.pinned (OpenSpec.ofChange autoJoinsSpec)

/-- ITS FALSE NEIGHBOUR: 'it returns false'. Refute it at one input. -/
def autoJoinsWrong : ChangeSpec := { name := "autoJoins", fn := fun _ => fun
  | [d1, d2] => { results := [.lit (.bool false)], args := [d1, d2] }
  | _ => none }
def AutoJoinsWrongFalsely : Prop := autoJoinsRow.holds Try.pinned (OpenSpec.ofChange autoJoinsWrong)

/-- 'doppelgangerlaw03.AutoCounts': WHATEVER THE INPUT: true; the input reads as it did. -/
def autoCountsSpec : ChangeSpec := { name := "autoCounts", fn := fun _ => fun
  | [d1, d2, d3, d4] => { results := [.lit (.bool true)], args := [d1, d2, d3, d4] }
  | _ => none }
def autoCountsRow : OpenClaim := { program := "ytldmjpnldgekaaa", sum := "72897363d4174bb47e5bcd0f20702abf180c6062f8fec569c0255e7d36366868", func := "doppelganger/doppelgangerlaw03.AutoCounts", spec := "autoCounts", unfollowed := true, recurses := true, plainKeys := false, apart := false }
def AutoCountsSaid : Prop := autoCountsRow.holds Try.pinned (OpenSpec.ofChange autoCountsSpec)

/-- ITS FALSE NEIGHBOUR: 'it returns false'. Refute it at one input. -/
def autoCountsWrong : ChangeSpec := { name := "autoCounts", fn := fun _ => fun
  | [d1, d2, d3, d4] => { results := [.lit (.bool false)], args := [d1, d2, d3, d4] }
  | _ => none }
def AutoCountsWrongFalsely : Prop := autoCountsRow.holds Try.pinned (OpenSpec.ofChange autoCountsWrong)

/-- 'doppelgangerlaw03.AutoKeeps': WHATEVER THE INPUT: true; the input reads as it did. -/
def autoKeepsSpec : ChangeSpec := { name := "autoKeeps", fn := fun _ => fun
  | [d] => { results := [.lit (.bool true)], args := [d] }
  | _ => none }
def autoKeepsRow : OpenClaim := { program := "ytldmjpnldgekaaa", sum := "72897363d4174bb47e5bcd0f20702abf180c6062f8fec569c0255e7d36366868", func := "doppelganger/doppelgangerlaw03.AutoKeeps", spec := "autoKeeps", unfollowed := true, recurses := true, plainKeys := false, apart := false }
def AutoKeepsSaid : Prop := autoKeepsRow.holds Try.pinned (OpenSpec.ofChange autoKeepsSpec)

/-- ITS FALSE NEIGHBOUR: 'it returns false'. Refute it at one input. -/
def autoKeepsWrong : ChangeSpec := { name := "autoKeeps", fn := fun _ => fun
  | [d] => { results := [.lit (.bool false)], args := [d] }
  | _ => none }
def AutoKeepsWrongFalsely : Prop := autoKeepsRow.holds Try.pinned (OpenSpec.ofChange autoKeepsWrong)

/- THE SECOND FORM. 'bulk': how many values and letters a reading holds, each counted each time it is reached (what is shared counts as often as it is met; a slice's spare places count too). A statement '..UptoSaid' is the law's where the arguments, and the package variables that the reading takes, are together of bulk at most 1048576: NARROWER than '..Said'. Prove '..Said' where nothing that the law and all that it calls make is longer than what came in: it says more and counts as full. Else prove '..UptoSaid'. A law counts once. -/
mutual
def uptoBulk {H : Type} : DataW H → Nat
  | .lit (.string bytes) => bytes.length + 1
  | .lit _ => 1
  | .nil => 1
  | .ptr d => uptoBulk d + 1
  | .slice elems spare => uptoBulkAll elems + uptoBulkAll spare + 1
  | .agg parts => uptoBulkAll parts + 1
  | .iface _ d => uptoBulk d + 1
  | .map entries => uptoBulkEntries entries + 1
  | .held _ => 1
def uptoBulkAll {H : Type} : List (DataW H) → Nat
  | [] => 0
  | d :: r => uptoBulk d + uptoBulkAll r
def uptoBulkEntries {H : Type} : List (Lit × DataW H) → Nat
  | [] => 0
  | x :: r => uptoBulkEntry x + uptoBulkEntries r
def uptoBulkEntry {H : Type} : Lit × DataW H → Nat
  | (.string bytes, d) => bytes.length + uptoBulk d + 1
  | (_, d) => uptoBulk d + 1
 end
def uptoSmall : (H : Type) → List (DataW H) → Bool := fun _ ds => decide (uptoBulkAll ds ≤ 1048576)
def OpenSpec.upto (s : _root_.Go.ChangeSpec) : _root_.Go.OpenSpec := { _root_.Go.OpenSpec.ofChange s with cond := some uptoSmall }

/-- 'doppelgangerlaw03.AutoJoins', WHERE WHAT IT READS IS OF BULK AT MOST 1048576: true; the input reads as it did. -/
def autoJoinsUptoRow : OpenClaim := { program := "ytldmjpnldgekaaa", sum := "72897363d4174bb47e5bcd0f20702abf180c6062f8fec569c0255e7d36366868", func := "doppelganger/doppelgangerlaw03.AutoJoins", spec := "autoJoins", unfollowed := true, recurses := true, plainKeys := false, apart := false, narrowed := true }
def AutoJoinsUptoSaid : Prop := autoJoinsUptoRow.holds Try.pinned (OpenSpec.upto autoJoinsSpec)

/-- 'doppelgangerlaw03.AutoCounts', WHERE WHAT IT READS IS OF BULK AT MOST 1048576: true; the input reads as it did. -/
def autoCountsUptoRow : OpenClaim := { program := "ytldmjpnldgekaaa", sum := "72897363d4174bb47e5bcd0f20702abf180c6062f8fec569c0255e7d36366868", func := "doppelganger/doppelgangerlaw03.AutoCounts", spec := "autoCounts", unfollowed := true, recurses := true, plainKeys := false, apart := false, narrowed := true }
def AutoCountsUptoSaid : Prop := autoCountsUptoRow.holds Try.pinned (OpenSpec.upto autoCountsSpec)

/-- 'doppelgangerlaw03.AutoKeeps', WHERE WHAT IT READS IS OF BULK AT MOST 1048576: true; the input reads as it did. -/
def autoKeepsUptoRow : OpenClaim := { program := "ytldmjpnldgekaaa", sum := "72897363d4174bb47e5bcd0f20702abf180c6062f8fec569c0255e7d36366868", func := "doppelganger/doppelgangerlaw03.AutoKeeps", spec := "autoKeeps", unfollowed := true, recurses := true, plainKeys := false, apart := false, narrowed := true }
def AutoKeepsUptoSaid : Prop := autoKeepsUptoRow.holds Try.pinned (OpenSpec.upto autoKeepsSpec)

end Rows
end Go.Proofs.Ytldmjpnldgekaaa
