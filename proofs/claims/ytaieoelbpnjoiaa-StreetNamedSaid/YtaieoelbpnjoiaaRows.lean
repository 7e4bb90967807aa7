/-
  No cell of these rows narrows 'for every input' (looked for: loops, veiled, ifaces, maps, wideKeys, modest, calm, conditions, laid).
  DERIVED. THE GIVEN ROWS OF THIS SEAT. 14 by the template 'for every input the law returns true; each argument reads behind the call as it read before'; 0 by the template 'total and deterministic' (their statements: YtaieoelbpnjoiaaTotals.lean).
  GIVEN WITH THE SEED: the statements are not yours to turn. If you find one false, say at which input.
  Laid BY PROGRAM, IN A SANDBOX (cutbox-rows.mjs): the forced cells as the released guide's own fill.sh prints them over the translation 95151aa5b039d581… (all of the seat's roots in one cut). By AI agents, Wed Nov 11 2026. No macro, syntax, notation, axiom, sorry.
-/
import Derived.Test.YtaieoelbpnjoiaaChecked
import GoSem.Claim
import GoSem.ClaimJoined
import GoSem.ClaimMapViews
import Derived.JoinedTies
import Derived.KernelRfl
namespace Go.Proofs.Ytaieoelbpnjoiaa
/- THE CELL 'sum', in the pinned program and in every row, IS THE sha256 OF THE DUMP (.gsa) THAT YtaieoelbpnjoiaaProg.lean LOADS. Nothing in Lean hashes anything: it is a label: what it is worth is what the hold of that sum in a sandbox is worth. -/
noncomputable def Try.pinned : Pinned := { name := "ytaieoelbpnjoiaa", sum := "95151aa5b039d581949587206dbb19c06e79f242457d367828eb5cb169bcca46", checked := Try.checked }
namespace Rows
def none {H : Type} : Left H := { results := [], args := [] }

/-- 'laystalllaw01.StreetTowns': WHATEVER THE INPUT: true; the input reads as it did. -/
def streetTownsSpec : ChangeSpec := { name := "streetTowns", fn := fun _ => fun
  | [d1, d2, d3, d4] => { results := [.lit (.bool true)], args := [d1, d2, d3, d4] }
  | _ => none }
def streetTownsRow : OpenClaim := { program := "ytaieoelbpnjoiaa", sum := "95151aa5b039d581949587206dbb19c06e79f242457d367828eb5cb169bcca46", func := "laystall/laystalllaw01.StreetTowns", spec := "streetTowns", unfollowed := true, recurses := true, plainKeys := false, apart := false }
def StreetTownsSaid : Prop := streetTownsRow.holds Try.pinned (OpenSpec.ofChange streetTownsSpec)

/-- ITS FALSE NEIGHBOUR: 'it returns false'. Refute it at one input. -/
def streetTownsWrong : ChangeSpec := { name := "streetTowns", fn := fun _ => fun
  | [d1, d2, d3, d4] => { results := [.lit (.bool false)], args := [d1, d2, d3, d4] }
  | _ => none }
def StreetTownsWrongFalsely : Prop := streetTownsRow.holds Try.pinned (OpenSpec.ofChange streetTownsWrong)

/-- 'laystalllaw01.StreetMinutes': WHATEVER THE INPUT: true; the input reads as it did. -/
def streetMinutesSpec : ChangeSpec := { name := "streetMinutes", fn := fun _ => fun
  | [d1, d2, d3, d4, d5, d6] => { results := [.lit (.bool true)], args := [d1, d2, d3, d4, d5, d6] }
  | _ => none }
def streetMinutesRow : OpenClaim := { program := "ytaieoelbpnjoiaa", sum := "95151aa5b039d581949587206dbb19c06e79f242457d367828eb5cb169bcca46", func := "laystall/laystalllaw01.StreetMinutes", spec := "streetMinutes", unfollowed := true, recurses := true, plainKeys := false, apart := false }
def StreetMinutesSaid : Prop := streetMinutesRow.holds Try.pinned (OpenSpec.ofChange streetMinutesSpec)

/-- ITS FALSE NEIGHBOUR: 'it returns false'. Refute it at one input. -/
def streetMinutesWrong : ChangeSpec := { name := "streetMinutes", fn := fun _ => fun
  | [d1, d2, d3, d4, d5, d6] => { results := [.lit (.bool false)], args := [d1, d2, d3, d4, d5, d6] }
  | _ => none }
def StreetMinutesWrongFalsely : Prop := streetMinutesRow.holds Try.pinned (OpenSpec.ofChange streetMinutesWrong)

/-- 'laystalllaw01.StreetDrives': WHATEVER THE INPUT: true; the input reads as it did. -/
def streetDrivesSpec : ChangeSpec := { name := "streetDrives", fn := fun _ => fun
  | [d1, d2, d3, d4, d5, d6] => { results := [.lit (.bool true)], args := [d1, d2, d3, d4, d5, d6] }
  | _ => none }
def streetDrivesRow : OpenClaim := { program := "ytaieoelbpnjoiaa", sum := "95151aa5b039d581949587206dbb19c06e79f242457d367828eb5cb169bcca46", func := "laystall/laystalllaw01.StreetDrives", spec := "streetDrives", unfollowed := true, recurses := true, plainKeys := false, apart := false }
def StreetDrivesSaid : Prop := streetDrivesRow.holds Try.pinned (OpenSpec.ofChange streetDrivesSpec)

/-- ITS FALSE NEIGHBOUR: 'it returns false'. Refute it at one input. -/
def streetDrivesWrong : ChangeSpec := { name := "streetDrives", fn := fun _ => fun
  | [d1, d2, d3, d4, d5, d6] => { results := [.lit (.bool false)], args := [d1, d2, d3, d4, d5, d6] }
  | _ => none }
def StreetDrivesWrongFalsely : Prop := streetDrivesRow.holds Try.pinned (OpenSpec.ofChange streetDrivesWrong)

/-- 'laystalllaw01.StreetCosts': WHATEVER THE INPUT: true; the input reads as it did. -/
def streetCostsSpec : ChangeSpec := { name := "streetCosts", fn := fun _ => fun
  | [d1, d2, d3, d4, d5, d6, d7] => { results := [.lit (.bool true)], args := [d1, d2, d3, d4, d5, d6, d7] }
  | _ => none }
def streetCostsRow : OpenClaim := { program := "ytaieoelbpnjoiaa", sum := "95151aa5b039d581949587206dbb19c06e79f242457d367828eb5cb169bcca46", func := "laystall/laystalllaw01.StreetCosts", spec := "streetCosts", unfollowed := true, recurses := true, plainKeys := false, apart := false }
def StreetCostsSaid : Prop := streetCostsRow.holds Try.pinned (OpenSpec.ofChange streetCostsSpec)

/-- ITS FALSE NEIGHBOUR: 'it returns false'. Refute it at one input. -/
def streetCostsWrong : ChangeSpec := { name := "streetCosts", fn := fun _ => fun
  | [d1, d2, d3, d4, d5, d6, d7] => { results := [.lit (.bool false)], args := [d1, d2, d3, d4, d5, d6, d7] }
  | _ => none }
def StreetCostsWrongFalsely : Prop := streetCostsRow.holds Try.pinned (OpenSpec.ofChange streetCostsWrong)

/-- 'laystalllaw01.StreetFastest': WHATEVER THE INPUT: true; the input reads as it did. -/
def streetFastestSpec : ChangeSpec := { name := "streetFastest", fn := fun _ => fun
  | [d1, d2, d3, d4] => { results := [.lit (.bool true)], args := [d1, d2, d3, d4] }
  | _ => none }
def streetFastestRow : OpenClaim := { program := "ytaieoelbpnjoiaa", sum := "95151aa5b039d581949587206dbb19c06e79f242457d367828eb5cb169bcca46", func := "laystall/laystalllaw01.StreetFastest", spec := "streetFastest", unfollowed := true, recurses := true, plainKeys := false, apart := false }
def StreetFastestSaid : Prop := streetFastestRow.holds Try.pinned (OpenSpec.ofChange streetFastestSpec)

/-- ITS FALSE NEIGHBOUR: 'it returns false'. Refute it at one input. -/
def streetFastestWrong : ChangeSpec := { name := "streetFastest", fn := fun _ => fun
  | [d1, d2, d3, d4] => { results := [.lit (.bool false)], args := [d1, d2, d3, d4] }
  | _ => none }
def StreetFastestWrongFalsely : Prop := streetFastestRow.holds Try.pinned (OpenSpec.ofChange streetFastestWrong)

/-- 'laystalllaw01.StreetTables': WHATEVER THE INPUT: true; the input reads as it did. -/
def streetTablesSpec : ChangeSpec := { name := "streetTables", fn := fun _ => fun
  | [d1, d2, d3, d4] => { results := [.lit (.bool true)], args := [d1, d2, d3, d4] }
  | _ => none }
def streetTablesRow : OpenClaim := { program := "ytaieoelbpnjoiaa", sum := "95151aa5b039d581949587206dbb19c06e79f242457d367828eb5cb169bcca46", func := "laystall/laystalllaw01.StreetTables", spec := "streetTables", unfollowed := true, recurses := true, plainKeys := false, apart := false }
def StreetTablesSaid : Prop := streetTablesRow.holds Try.pinned (OpenSpec.ofChange streetTablesSpec)

/-- ITS FALSE NEIGHBOUR: 'it returns false'. Refute it at one input. -/
def streetTablesWrong : ChangeSpec := { name := "streetTables", fn := fun _ => fun
  | [d1, d2, d3, d4] => { results := [.lit (.bool false)], args := [d1, d2, d3, d4] }
  | _ => none }
def StreetTablesWrongFalsely : Prop := streetTablesRow.holds Try.pinned (OpenSpec.ofChange streetTablesWrong)

/-- 'laystalllaw01.StreetWorse': WHATEVER THE INPUT: true; the input reads as it did. -/
def streetWorseSpec : ChangeSpec := { name := "streetWorse", fn := fun _ => fun
  | [d1, d2, d3] => { results := [.lit (.bool true)], args := [d1, d2, d3] }
  | _ => none }
def streetWorseRow : OpenClaim := { program := "ytaieoelbpnjoiaa", sum := "95151aa5b039d581949587206dbb19c06e79f242457d367828eb5cb169bcca46", func := "laystall/laystalllaw01.StreetWorse", spec := "streetWorse", unfollowed := true, recurses := true, plainKeys := false, apart := false }
def StreetWorseSaid : Prop := streetWorseRow.holds Try.pinned (OpenSpec.ofChange streetWorseSpec)

/-- ITS FALSE NEIGHBOUR: 'it returns false'. Refute it at one input. -/
def streetWorseWrong : ChangeSpec := { name := "streetWorse", fn := fun _ => fun
  | [d1, d2, d3] => { results := [.lit (.bool false)], args := [d1, d2, d3] }
  | _ => none }
def StreetWorseWrongFalsely : Prop := streetWorseRow.holds Try.pinned (OpenSpec.ofChange streetWorseWrong)

/-- 'laystalllaw01.StreetMirrored': WHATEVER THE INPUT: true; the input reads as it did. -/
def streetMirroredSpec : ChangeSpec := { name := "streetMirrored", fn := fun _ => fun
  | [d1, d2, d3] => { results := [.lit (.bool true)], args := [d1, d2, d3] }
  | _ => none }
def streetMirroredRow : OpenClaim := { program := "ytaieoelbpnjoiaa", sum := "95151aa5b039d581949587206dbb19c06e79f242457d367828eb5cb169bcca46", func := "laystall/laystalllaw01.StreetMirrored", spec := "streetMirrored", unfollowed := true, recurses := true, plainKeys := false, apart := false }
def StreetMirroredSaid : Prop := streetMirroredRow.holds Try.pinned (OpenSpec.ofChange streetMirroredSpec)

/-- ITS FALSE NEIGHBOUR: 'it returns false'. Refute it at one input. -/
def streetMirroredWrong : ChangeSpec := { name := "streetMirrored", fn := fun _ => fun
  | [d1, d2, d3] => { results := [.lit (.bool false)], args := [d1, d2, d3] }
  | _ => none }
def StreetMirroredWrongFalsely : Prop := streetMirroredRow.holds Try.pinned (OpenSpec.ofChange streetMirroredWrong)

/-- 'laystalllaw01.StreetSpared': WHATEVER THE INPUT: true; the input reads as it did. -/
def streetSparedSpec : ChangeSpec := { name := "streetSpared", fn := fun _ => fun
  | [d1, d2, d3] => { results := [.lit (.bool true)], args := [d1, d2, d3] }
  | _ => none }
def streetSparedRow : OpenClaim := { program := "ytaieoelbpnjoiaa", sum := "95151aa5b039d581949587206dbb19c06e79f242457d367828eb5cb169bcca46", func := "laystall/laystalllaw01.StreetSpared", spec := "streetSpared", unfollowed := true, recurses := true, plainKeys := false, apart := false }
def StreetSparedSaid : Prop := streetSparedRow.holds Try.pinned (OpenSpec.ofChange streetSparedSpec)

/-- ITS FALSE NEIGHBOUR: 'it returns false'. Refute it at one input. -/
def streetSparedWrong : ChangeSpec := { name := "streetSpared", fn := fun _ => fun
  | [d1, d2, d3] => { results := [.lit (.bool false)], args := [d1, d2, d3] }
  | _ => none }
def StreetSparedWrongFalsely : Prop := streetSparedRow.holds Try.pinned (OpenSpec.ofChange streetSparedWrong)

/-- 'laystalllaw01.StreetBarred': WHATEVER THE INPUT: true; the input reads as it did. -/
def streetBarredSpec : ChangeSpec := { name := "streetBarred", fn := fun _ => fun
  | [d1, d2, d3] => { results := [.lit (.bool true)], args := [d1, d2, d3] }
  | _ => none }
def streetBarredRow : OpenClaim := { program := "ytaieoelbpnjoiaa", sum := "95151aa5b039d581949587206dbb19c06e79f242457d367828eb5cb169bcca46", func := "laystall/laystalllaw01.StreetBarred", spec := "streetBarred", unfollowed := true, recurses := true, plainKeys := false, apart := false }
def StreetBarredSaid : Prop := streetBarredRow.holds Try.pinned (OpenSpec.ofChange streetBarredSpec)

/-- ITS FALSE NEIGHBOUR: 'it returns false'. Refute it at one input. -/
def streetBarredWrong : ChangeSpec := { name := "streetBarred", fn := fun _ => fun
  | [d1, d2, d3] => { results := [.lit (.bool false)], args := [d1, d2, d3] }
  | _ => none }
def StreetBarredWrongFalsely : Prop := streetBarredRow.holds Try.pinned (OpenSpec.ofChange streetBarredWrong)

/-- 'laystalllaw01.StreetToured': WHATEVER THE INPUT: true; the input reads as it did. -/
def streetTouredSpec : ChangeSpec := { name := "streetToured", fn := fun _ => fun
  | [d1, d2] => { results := [.lit (.bool true)], args := [d1, d2] }
  | _ => none }
def streetTouredRow : OpenClaim := { program := "ytaieoelbpnjoiaa", sum := "95151aa5b039d581949587206dbb19c06e79f242457d367828eb5cb169bcca46", func := "laystall/laystalllaw01.StreetToured", spec := "streetToured", unfollowed := true, recurses := true, plainKeys := false, apart := false }
def StreetTouredSaid : Prop := streetTouredRow.holds Try.pinned (OpenSpec.ofChange streetTouredSpec)

/-- ITS FALSE NEIGHBOUR: 'it returns false'. Refute it at one input. -/
def streetTouredWrong : ChangeSpec := { name := "streetToured", fn := fun _ => fun
  | [d1, d2] => { results := [.lit (.bool false)], args := [d1, d2] }
  | _ => none }
def StreetTouredWrongFalsely : Prop := streetTouredRow.holds Try.pinned (OpenSpec.ofChange streetTouredWrong)

/-- 'laystalllaw01.StreetLoaded': WHATEVER THE INPUT: true; the input reads as it did. -/
def streetLoadedSpec : ChangeSpec := { name := "streetLoaded", fn := fun _ => fun
  | [d1, d2, d3] => { results := [.lit (.bool true)], args := [d1, d2, d3] }
  | _ => none }
def streetLoadedRow : OpenClaim := { program := "ytaieoelbpnjoiaa", sum := "95151aa5b039d581949587206dbb19c06e79f242457d367828eb5cb169bcca46", func := "laystall/laystalllaw01.StreetLoaded", spec := "streetLoaded", unfollowed := true, recurses := true, plainKeys := false, apart := false }
def StreetLoadedSaid : Prop := streetLoadedRow.holds Try.pinned (OpenSpec.ofChange streetLoadedSpec)

/-- ITS FALSE NEIGHBOUR: 'it returns false'. Refute it at one input. -/
def streetLoadedWrong : ChangeSpec := { name := "streetLoaded", fn := fun _ => fun
  | [d1, d2, d3] => { results := [.lit (.bool false)], args := [d1, d2, d3] }
  | _ => none }
def StreetLoadedWrongFalsely : Prop := streetLoadedRow.holds Try.pinned (OpenSpec.ofChange streetLoadedWrong)

/-- 'laystalllaw01.StreetMissed': WHATEVER THE INPUT: true; the input reads as it did. -/
def streetMissedSpec : ChangeSpec := { name := "streetMissed", fn := fun _ => fun
  | [d1, d2, d3] => { results := [.lit (.bool true)], args := [d1, d2, d3] }
  | _ => none }
def streetMissedRow : OpenClaim := { program := "ytaieoelbpnjoiaa", sum := "95151aa5b039d581949587206dbb19c06e79f242457d367828eb5cb169bcca46", func := "laystall/laystalllaw01.StreetMissed", spec := "streetMissed", unfollowed := true, recurses := true, plainKeys := false, apart := false }
def StreetMissedSaid : Prop := streetMissedRow.holds Try.pinned (OpenSpec.ofChange streetMissedSpec)

/-- ITS FALSE NEIGHBOUR: 'it returns false'. Refute it at one input. -/
def streetMissedWrong : ChangeSpec := { name := "streetMissed", fn := fun _ => fun
  | [d1, d2, d3] => { results := [.lit (.bool false)], args := [d1, d2, d3] }
  | _ => none }
def StreetMissedWrongFalsely : Prop := streetMissedRow.holds Try.pinned (OpenSpec.ofChange streetMissedWrong)

/-- 'laystalllaw01.StreetNamed': WHATEVER THE INPUT: true; the input reads as it did. -/
def streetNamedSpec : ChangeSpec := { name := "streetNamed", fn := fun _ => fun
  | [d1, d2] => { results := [.lit (.bool true)], args := [d1, d2] }
  | _ => none }
def streetNamedRow : OpenClaim := { program := "ytaieoelbpnjoiaa", sum := "95151aa5b039d581949587206dbb19c06e79f242457d367828eb5cb169bcca46", func := "laystall/laystalllaw01.StreetNamed", spec := "streetNamed", unfollowed := true, recurses := true, plainKeys := false, apart := false }
def StreetNamedSaid : Prop := streetNamedRow.holds Try.pinned (OpenSpec.ofChange streetNamedSpec)

/-- ITS FALSE NEIGHBOUR: 'it returns false'. Refute it at one input. -/
def streetNamedWrong : ChangeSpec := { name := "streetNamed", fn := fun _ => fun
  | [d1, d2] => { results := [.lit (.bool false)], args := [d1, d2] }
  | _ => none }
def StreetNamedWrongFalsely : Prop := streetNamedRow.holds Try.pinned (OpenSpec.ofChange streetNamedWrong)

/- THE SECOND FORM. 'bulk': how many values and letters a reading holds, each counted each time it is reached (what is shared counts as often as it is met; a slice's spare places count too). A statement '..UptoSaid' is the law's where the arguments, and the package variables that the reading takes, are together of bulk at most 1048576: NARROWER than '..Said'. Prove '..Said' where nothing that the law and all that it calls make is longer than what came in: it says more and counts as full. Else prove '..UptoSaid'. A law counts once. -/
mutual
def uptoBulk {H : Type} : DataW H → Nat
  | .lit (.string bytes) => bytes.length + 1
  | .lit _ => 1
  | .nil => 1
  | .ptr d => uptoBulk d + 1
  | .slice elems spare => uptoBulkAll elems + uptoBulkAll spare + 1
  | .agg parts => uptoBulkAll parts + 1
  | .iface _ d => uptoBulk d + 1
  | .map entries => uptoBulkEntries entries + 1
  | .held _ => 1
def uptoBulkAll {H : Type} : List (DataW H) → Nat
  | [] => 0
  | d :: r => uptoBulk d + uptoBulkAll r
def uptoBulkEntries {H : Type} : List (Lit × DataW H) → Nat
  | [] => 0
  | x :: r => uptoBulkEntry x + uptoBulkEntries r
def uptoBulkEntry {H : Type} : Lit × DataW H → Nat
  | (.string bytes, d) => bytes.length + uptoBulk d + 1
  | (_, d) => uptoBulk d + 1
 end
def uptoSmall : (H : Type) → List (DataW H) → Bool := fun _ ds => decide (uptoBulkAll ds ≤ 1048576)
def OpenSpec.upto (s : _root_.Go.ChangeSpec) : _root_.Go.OpenSpec := { _root_.Go.OpenSpec.ofChange s with cond := some uptoSmall }

/-- 'laystalllaw01.StreetTowns', WHERE WHAT IT READS IS OF BULK AT MOST 1048576: true; the input reads as it did. -/
def streetTownsUptoRow : OpenClaim := { program := "ytaieoelbpnjoiaa", sum := "95151aa5b039d581949587206dbb19c06e79f242457d367828eb5cb169bcca46", func := "laystall/laystalllaw01.StreetTowns", spec := "streetTowns", unfollowed := true, recurses := true, plainKeys := false, apart := false, narrowed := true }
def StreetTownsUptoSaid : Prop := streetTownsUptoRow.holds Try.pinned (OpenSpec.upto streetTownsSpec)

/-- 'laystalllaw01.StreetMinutes', WHERE WHAT IT READS IS OF BULK AT MOST 1048576: true; the input reads as it did. -/
def streetMinutesUptoRow : OpenClaim := { program := "ytaieoelbpnjoiaa", sum := "95151aa5b039d581949587206dbb19c06e79f242457d367828eb5cb169bcca46", func := "laystall/laystalllaw01.StreetMinutes", spec := "streetMinutes", unfollowed := true, recurses := true, plainKeys := false, apart := false, narrowed := true }
def StreetMinutesUptoSaid : Prop := streetMinutesUptoRow.holds Try.pinned (OpenSpec.upto streetMinutesSpec)

/-- 'laystalllaw01.StreetDrives', WHERE WHAT IT READS IS OF BULK AT MOST 1048576: true; the input reads as it did. -/
def streetDrivesUptoRow : OpenClaim := { program := "ytaieoelbpnjoiaa", sum := "95151aa5b039d581949587206dbb19c06e79f242457d367828eb5cb169bcca46", func := "laystall/laystalllaw01.StreetDrives", spec := "streetDrives", unfollowed := true, recurses := true, plainKeys := false, apart := false, narrowed := true }
def StreetDrivesUptoSaid : Prop := streetDrivesUptoRow.holds Try.pinned (OpenSpec.upto streetDrivesSpec)

/-- 'laystalllaw01.StreetCosts', WHERE WHAT IT READS IS OF BULK AT MOST 1048576: true; the input reads as it did. -/
def streetCostsUptoRow : OpenClaim := { program := "ytaieoelbpnjoiaa", sum := "95151aa5b039d581949587206dbb19c06e79f242457d367828eb5cb169bcca46", func := "laystall/laystalllaw01.StreetCosts", spec := "streetCosts", unfollowed := true, recurses := true, plainKeys := false, apart := false, narrowed := true }
def StreetCostsUptoSaid : Prop := streetCostsUptoRow.holds Try.pinned (OpenSpec.upto streetCostsSpec)

/-- 'laystalllaw01.StreetFastest', WHERE WHAT IT READS IS OF BULK AT MOST 1048576: true; the input reads as it did. -/
def streetFastestUptoRow : OpenClaim := { program := "ytaieoelbpnjoiaa", sum := "95151aa5b039d581949587206dbb19c06e79f242457d367828eb5cb169bcca46", func := "laystall/laystalllaw01.StreetFastest", spec := "streetFastest", unfollowed := true, recurses := true, plainKeys := false, apart := false, narrowed := true }
def StreetFastestUptoSaid : Prop := streetFastestUptoRow.holds Try.pinned (OpenSpec.upto streetFastestSpec)

/-- 'laystalllaw01.StreetTables', WHERE WHAT IT READS IS OF BULK AT MOST 1048576: true; the input reads as it did. -/
def streetTablesUptoRow : OpenClaim := { program := "ytaieoelbpnjoiaa", sum := "95151aa5b039d581949587206dbb19c06e79f242457d367828eb5cb169bcca46", func := "laystall/laystalllaw01.StreetTables", spec := "streetTables", unfollowed := true, recurses := true, plainKeys := false, apart := false, narrowed := true }
def StreetTablesUptoSaid : Prop := streetTablesUptoRow.holds Try.pinned (OpenSpec.upto streetTablesSpec)

/-- 'laystalllaw01.StreetWorse', WHERE WHAT IT READS IS OF BULK AT MOST 1048576: true; the input reads as it did. -/
def streetWorseUptoRow : OpenClaim := { program := "ytaieoelbpnjoiaa", sum := "95151aa5b039d581949587206dbb19c06e79f242457d367828eb5cb169bcca46", func := "laystall/laystalllaw01.StreetWorse", spec := "streetWorse", unfollowed := true, recurses := true, plainKeys := false, apart := false, narrowed := true }
def StreetWorseUptoSaid : Prop := streetWorseUptoRow.holds Try.pinned (OpenSpec.upto streetWorseSpec)

/-- 'laystalllaw01.StreetMirrored', WHERE WHAT IT READS IS OF BULK AT MOST 1048576: true; the input reads as it did. -/
def streetMirroredUptoRow : OpenClaim := { program := "ytaieoelbpnjoiaa", sum := "95151aa5b039d581949587206dbb19c06e79f242457d367828eb5cb169bcca46", func := "laystall/laystalllaw01.StreetMirrored", spec := "streetMirrored", unfollowed := true, recurses := true, plainKeys := false, apart := false, narrowed := true }
def StreetMirroredUptoSaid : Prop := streetMirroredUptoRow.holds Try.pinned (OpenSpec.upto streetMirroredSpec)

/-- 'laystalllaw01.StreetSpared', WHERE WHAT IT READS IS OF BULK AT MOST 1048576: true; the input reads as it did. -/
def streetSparedUptoRow : OpenClaim := { program := "ytaieoelbpnjoiaa", sum := "95151aa5b039d581949587206dbb19c06e79f242457d367828eb5cb169bcca46", func := "laystall/laystalllaw01.StreetSpared", spec := "streetSpared", unfollowed := true, recurses := true, plainKeys := false, apart := false, narrowed := true }
def StreetSparedUptoSaid : Prop := streetSparedUptoRow.holds Try.pinned (OpenSpec.upto streetSparedSpec)

/-- 'laystalllaw01.StreetBarred', WHERE WHAT IT READS IS OF BULK AT MOST 1048576: true; the input reads as it did. -/
def streetBarredUptoRow : OpenClaim := { program := "ytaieoelbpnjoiaa", sum := "95151aa5b039d581949587206dbb19c06e79f242457d367828eb5cb169bcca46", func := "laystall/laystalllaw01.StreetBarred", spec := "streetBarred", unfollowed := true, recurses := true, plainKeys := false, apart := false, narrowed := true }
def StreetBarredUptoSaid : Prop := streetBarredUptoRow.holds Try.pinned (OpenSpec.upto streetBarredSpec)

/-- 'laystalllaw01.StreetToured', WHERE WHAT IT READS IS OF BULK AT MOST 1048576: true; the input reads as it did. -/
def streetTouredUptoRow : OpenClaim := { program := "ytaieoelbpnjoiaa", sum := "95151aa5b039d581949587206dbb19c06e79f242457d367828eb5cb169bcca46", func := "laystall/laystalllaw01.StreetToured", spec := "streetToured", unfollowed := true, recurses := true, plainKeys := false, apart := false, narrowed := true }
def StreetTouredUptoSaid : Prop := streetTouredUptoRow.holds Try.pinned (OpenSpec.upto streetTouredSpec)

/-- 'laystalllaw01.StreetLoaded', WHERE WHAT IT READS IS OF BULK AT MOST 1048576: true; the input reads as it did. -/
def streetLoadedUptoRow : OpenClaim := { program := "ytaieoelbpnjoiaa", sum := "95151aa5b039d581949587206dbb19c06e79f242457d367828eb5cb169bcca46", func := "laystall/laystalllaw01.StreetLoaded", spec := "streetLoaded", unfollowed := true, recurses := true, plainKeys := false, apart := false, narrowed := true }
def StreetLoadedUptoSaid : Prop := streetLoadedUptoRow.holds Try.pinned (OpenSpec.upto streetLoadedSpec)

/-- 'laystalllaw01.StreetMissed', WHERE WHAT IT READS IS OF BULK AT MOST 1048576: true; the input reads as it did. -/
def streetMissedUptoRow : OpenClaim := { program := "ytaieoelbpnjoiaa", sum := "95151aa5b039d581949587206dbb19c06e79f242457d367828eb5cb169bcca46", func := "laystall/laystalllaw01.StreetMissed", spec := "streetMissed", unfollowed := true, recurses := true, plainKeys := false, apart := false, narrowed := true }
def StreetMissedUptoSaid : Prop := streetMissedUptoRow.holds Try.pinned (OpenSpec.upto streetMissedSpec)

/-- 'laystalllaw01.StreetNamed', WHERE WHAT IT READS IS OF BULK AT MOST 1048576: true; the input reads as it did. -/
def streetNamedUptoRow : OpenClaim := { program := "ytaieoelbpnjoiaa", sum := "95151aa5b039d581949587206dbb19c06e79f242457d367828eb5cb169bcca46", func := "laystall/laystalllaw01.StreetNamed", spec := "streetNamed", unfollowed := true, recurses := true, plainKeys := false, apart := false, narrowed := true }
def StreetNamedUptoSaid : Prop := streetNamedUptoRow.holds Try.pinned (OpenSpec.upto streetNamedSpec)

end Rows
end Go.Proofs.Ytaieoelbpnjoiaa
