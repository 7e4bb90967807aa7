/-
  No cell of these rows narrows 'for every input' (looked for: loops, veiled, ifaces, maps, wideKeys, modest, calm, conditions, laid).
  DERIVED. THE GIVEN ROWS OF THIS SEAT. 6 by the template 'for every input the law returns true; each argument reads behind the call as it read before'; 0 by the template 'total and deterministic' (their statements: YtbofjfjopeaefaaGreatTotals.lean).
  GIVEN WITH THE SEED: the statements are not yours to turn. If you find one false, say at which input.
  Laid BY PROGRAM, IN A SANDBOX (cutbox-rows.mjs): the forced cells as the released guide's own fill.sh prints them over the translation 0870eef81a39cd9d… (all of the seat's roots in one cut). By AI agents, Wed Nov 11 2026. No macro, syntax, notation, axiom, sorry.
-/
import Derived.Test.YtbofjfjopeaefaaGreatChecked
import GoSem.Claim
import GoSem.ClaimJoined
import GoSem.ClaimMapViews
import Derived.JoinedTies
import Derived.KernelRfl
namespace Go.Proofs.YtbofjfjopeaefaaGreat
/- THE CELL 'sum', in the pinned program and in every row, IS THE sha256 OF THE DUMP (.gsa) THAT YtbofjfjopeaefaaGreatProg.lean LOADS. Nothing in Lean hashes anything: it is a label: what it is worth is what the hold of that sum in a sandbox is worth. -/
noncomputable def Tryz.pinned : Pinned := { name := "ytbofjfjopeaefaagreat", sum := "0870eef81a39cd9d27813f23dd9c72c9e696262f6e8735d425108b5079f0f5b7", checked := Tryz.checked }
namespace Rows
def none {H : Type} : Left H := { results := [], args := [] }

/-- 'laystalllaw06.LotFouls': WHATEVER THE INPUT: true; the input reads as it did. -/
def lotFoulsSpec : ChangeSpec := { name := "lotFouls", fn := fun _ => fun
  | [d1, d2, d3, d4] => { results := [.lit (.bool true)], args := [d1, d2, d3, d4] }
  | _ => none }
def lotFoulsRow : OpenClaim := { program := "ytbofjfjopeaefaagreat", sum := "0870eef81a39cd9d27813f23dd9c72c9e696262f6e8735d425108b5079f0f5b7", func := "laystall/laystalllaw06.LotFouls", spec := "lotFouls", unfollowed := true, recurses := true, plainKeys := false, apart := false }
def LotFoulsSaid : Prop := lotFoulsRow.holds Tryz.pinned (OpenSpec.ofChange lotFoulsSpec)

/-- ITS FALSE NEIGHBOUR: 'it returns false'. Refute it at one input. -/
def lotFoulsWrong : ChangeSpec := { name := "lotFouls", fn := fun _ => fun
  | [d1, d2, d3, d4] => { results := [.lit (.bool false)], args := [d1, d2, d3, d4] }
  | _ => none }
def LotFoulsWrongFalsely : Prop := lotFoulsRow.holds Tryz.pinned (OpenSpec.ofChange lotFoulsWrong)

/-- 'laystalllaw06.LotMixes': WHATEVER THE INPUT: true; the input reads as it did. -/
def lotMixesSpec : ChangeSpec := { name := "lotMixes", fn := fun _ => fun
  | [d1, d2, d3, d4] => { results := [.lit (.bool true)], args := [d1, d2, d3, d4] }
  | _ => none }
def lotMixesRow : OpenClaim := { program := "ytbofjfjopeaefaagreat", sum := "0870eef81a39cd9d27813f23dd9c72c9e696262f6e8735d425108b5079f0f5b7", func := "laystall/laystalllaw06.LotMixes", spec := "lotMixes", unfollowed := true, recurses := true, plainKeys := false, apart := false }
def LotMixesSaid : Prop := lotMixesRow.holds Tryz.pinned (OpenSpec.ofChange lotMixesSpec)

/-- ITS FALSE NEIGHBOUR: 'it returns false'. Refute it at one input. -/
def lotMixesWrong : ChangeSpec := { name := "lotMixes", fn := fun _ => fun
  | [d1, d2, d3, d4] => { results := [.lit (.bool false)], args := [d1, d2, d3, d4] }
  | _ => none }
def LotMixesWrongFalsely : Prop := lotMixesRow.holds Tryz.pinned (OpenSpec.ofChange lotMixesWrong)

/-- 'laystalllaw06.LotPlans': WHATEVER THE INPUT: true; the input reads as it did. -/
def lotPlansSpec : ChangeSpec := { name := "lotPlans", fn := fun _ => fun
  | [d1, d2, d3] => { results := [.lit (.bool true)], args := [d1, d2, d3] }
  | _ => none }
def lotPlansRow : OpenClaim := { program := "ytbofjfjopeaefaagreat", sum := "0870eef81a39cd9d27813f23dd9c72c9e696262f6e8735d425108b5079f0f5b7", func := "laystall/laystalllaw06.LotPlans", spec := "lotPlans", unfollowed := true, recurses := true, plainKeys := false, apart := false }
def LotPlansSaid : Prop := lotPlansRow.holds Tryz.pinned (OpenSpec.ofChange lotPlansSpec)

/-- ITS FALSE NEIGHBOUR: 'it returns false'. Refute it at one input. -/
def lotPlansWrong : ChangeSpec := { name := "lotPlans", fn := fun _ => fun
  | [d1, d2, d3] => { results := [.lit (.bool false)], args := [d1, d2, d3] }
  | _ => none }
def LotPlansWrongFalsely : Prop := lotPlansRow.holds Tryz.pinned (OpenSpec.ofChange lotPlansWrong)

/-- 'laystalllaw06.LotPays': WHATEVER THE INPUT: true; the input reads as it did. -/
def lotPaysSpec : ChangeSpec := { name := "lotPays", fn := fun _ => fun
  | [d1, d2, d3] => { results := [.lit (.bool true)], args := [d1, d2, d3] }
  | _ => none }
def lotPaysRow : OpenClaim := { program := "ytbofjfjopeaefaagreat", sum := "0870eef81a39cd9d27813f23dd9c72c9e696262f6e8735d425108b5079f0f5b7", func := "laystall/laystalllaw06.LotPays", spec := "lotPays", unfollowed := true, recurses := true, plainKeys := false, apart := false }
def LotPaysSaid : Prop := lotPaysRow.holds Tryz.pinned (OpenSpec.ofChange lotPaysSpec)

/-- ITS FALSE NEIGHBOUR: 'it returns false'. Refute it at one input. -/
def lotPaysWrong : ChangeSpec := { name := "lotPays", fn := fun _ => fun
  | [d1, d2, d3] => { results := [.lit (.bool false)], args := [d1, d2, d3] }
  | _ => none }
def LotPaysWrongFalsely : Prop := lotPaysRow.holds Tryz.pinned (OpenSpec.ofChange lotPaysWrong)

/-- 'laystalllaw06.LotSmall': WHATEVER THE INPUT: true; the input reads as it did. -/
def lotSmallSpec : ChangeSpec := { name := "lotSmall", fn := fun _ => fun
  | [] => { results := [.lit (.bool true)], args := [] }
  | _ => none }
def lotSmallRow : OpenClaim := { program := "ytbofjfjopeaefaagreat", sum := "0870eef81a39cd9d27813f23dd9c72c9e696262f6e8735d425108b5079f0f5b7", func := "laystall/laystalllaw06.LotSmall", spec := "lotSmall", unfollowed := true, recurses := true, plainKeys := false, apart := false }
def LotSmallSaid : Prop := lotSmallRow.holds Tryz.pinned (OpenSpec.ofChange lotSmallSpec)

/-- ITS FALSE NEIGHBOUR: 'it returns false'. Refute it at one input. -/
def lotSmallWrong : ChangeSpec := { name := "lotSmall", fn := fun _ => fun
  | [] => { results := [.lit (.bool false)], args := [] }
  | _ => none }
def LotSmallWrongFalsely : Prop := lotSmallRow.holds Tryz.pinned (OpenSpec.ofChange lotSmallWrong)

/-- 'laystalllaw06.LotPicked': WHATEVER THE INPUT: true; the input reads as it did. -/
def lotPickedSpec : ChangeSpec := { name := "lotPicked", fn := fun _ => fun
  | [d1, d2] => { results := [.lit (.bool true)], args := [d1, d2] }
  | _ => none }
def lotPickedRow : OpenClaim := { program := "ytbofjfjopeaefaagreat", sum := "0870eef81a39cd9d27813f23dd9c72c9e696262f6e8735d425108b5079f0f5b7", func := "laystall/laystalllaw06.LotPicked", spec := "lotPicked", unfollowed := true, recurses := true, plainKeys := false, apart := false }
def LotPickedSaid : Prop := lotPickedRow.holds Tryz.pinned (OpenSpec.ofChange lotPickedSpec)

/-- ITS FALSE NEIGHBOUR: 'it returns false'. Refute it at one input. -/
def lotPickedWrong : ChangeSpec := { name := "lotPicked", fn := fun _ => fun
  | [d1, d2] => { results := [.lit (.bool false)], args := [d1, d2] }
  | _ => none }
def LotPickedWrongFalsely : Prop := lotPickedRow.holds Tryz.pinned (OpenSpec.ofChange lotPickedWrong)

/- THE SECOND FORM. 'bulk': how many values and letters a reading holds, each counted each time it is reached (what is shared counts as often as it is met; a slice's spare places count too). A statement '..UptoSaid' is the law's where the arguments, and the package variables that the reading takes, are together of bulk at most 1048576: NARROWER than '..Said'. Prove '..Said' where nothing that the law and all that it calls make is longer than what came in: it says more and counts as full. Else prove '..UptoSaid'. A law counts once. -/
mutual
def uptoBulk {H : Type} : DataW H → Nat
  | .lit (.string bytes) => bytes.length + 1
  | .lit _ => 1
  | .nil => 1
  | .ptr d => uptoBulk d + 1
  | .slice elems spare => uptoBulkAll elems + uptoBulkAll spare + 1
  | .agg parts => uptoBulkAll parts + 1
  | .iface _ d => uptoBulk d + 1
  | .map entries => uptoBulkEntries entries + 1
  | .held _ => 1
def uptoBulkAll {H : Type} : List (DataW H) → Nat
  | [] => 0
  | d :: r => uptoBulk d + uptoBulkAll r
def uptoBulkEntries {H : Type} : List (Lit × DataW H) → Nat
  | [] => 0
  | x :: r => uptoBulkEntry x + uptoBulkEntries r
def uptoBulkEntry {H : Type} : Lit × DataW H → Nat
  | (.string bytes, d) => bytes.length + uptoBulk d + 1
  | (_, d) => uptoBulk d + 1
 end
def uptoSmall : (H : Type) → List (DataW H) → Bool := fun _ ds => decide (uptoBulkAll ds ≤ 1048576)
def OpenSpec.upto (s : _root_.Go.ChangeSpec) : _root_.Go.OpenSpec := { _root_.Go.OpenSpec.ofChange s with cond := some uptoSmall }

/-- 'laystalllaw06.LotFouls', WHERE WHAT IT READS IS OF BULK AT MOST 1048576: true; the input reads as it did. -/
def lotFoulsUptoRow : OpenClaim := { program := "ytbofjfjopeaefaagreat", sum := "0870eef81a39cd9d27813f23dd9c72c9e696262f6e8735d425108b5079f0f5b7", func := "laystall/laystalllaw06.LotFouls", spec := "lotFouls", unfollowed := true, recurses := true, plainKeys := false, apart := false, narrowed := true }
def LotFoulsUptoSaid : Prop := lotFoulsUptoRow.holds Tryz.pinned (OpenSpec.upto lotFoulsSpec)

/-- 'laystalllaw06.LotMixes', WHERE WHAT IT READS IS OF BULK AT MOST 1048576: true; the input reads as it did. -/
def lotMixesUptoRow : OpenClaim := { program := "ytbofjfjopeaefaagreat", sum := "0870eef81a39cd9d27813f23dd9c72c9e696262f6e8735d425108b5079f0f5b7", func := "laystall/laystalllaw06.LotMixes", spec := "lotMixes", unfollowed := true, recurses := true, plainKeys := false, apart := false, narrowed := true }
def LotMixesUptoSaid : Prop := lotMixesUptoRow.holds Tryz.pinned (OpenSpec.upto lotMixesSpec)

/-- 'laystalllaw06.LotPlans', WHERE WHAT IT READS IS OF BULK AT MOST 1048576: true; the input reads as it did. -/
def lotPlansUptoRow : OpenClaim := { program := "ytbofjfjopeaefaagreat", sum := "0870eef81a39cd9d27813f23dd9c72c9e696262f6e8735d425108b5079f0f5b7", func := "laystall/laystalllaw06.LotPlans", spec := "lotPlans", unfollowed := true, recurses := true, plainKeys := false, apart := false, narrowed := true }
def LotPlansUptoSaid : Prop := lotPlansUptoRow.holds Tryz.pinned (OpenSpec.upto lotPlansSpec)

/-- 'laystalllaw06.LotPays', WHERE WHAT IT READS IS OF BULK AT MOST 1048576: true; the input reads as it did. -/
def lotPaysUptoRow : OpenClaim := { program := "ytbofjfjopeaefaagreat", sum := "0870eef81a39cd9d27813f23dd9c72c9e696262f6e8735d425108b5079f0f5b7", func := "laystall/laystalllaw06.LotPays", spec := "lotPays", unfollowed := true, recurses := true, plainKeys := false, apart := false, narrowed := true }
def LotPaysUptoSaid : Prop := lotPaysUptoRow.holds Tryz.pinned (OpenSpec.upto lotPaysSpec)

/-- 'laystalllaw06.LotSmall', WHERE WHAT IT READS IS OF BULK AT MOST 1048576: true; the input reads as it did. -/
def lotSmallUptoRow : OpenClaim := { program := "ytbofjfjopeaefaagreat", sum := "0870eef81a39cd9d27813f23dd9c72c9e696262f6e8735d425108b5079f0f5b7", func := "laystall/laystalllaw06.LotSmall", spec := "lotSmall", unfollowed := true, recurses := true, plainKeys := false, apart := false, narrowed := true }
def LotSmallUptoSaid : Prop := lotSmallUptoRow.holds Tryz.pinned (OpenSpec.upto lotSmallSpec)

/-- 'laystalllaw06.LotPicked', WHERE WHAT IT READS IS OF BULK AT MOST 1048576: true; the input reads as it did. -/
def lotPickedUptoRow : OpenClaim := { program := "ytbofjfjopeaefaagreat", sum := "0870eef81a39cd9d27813f23dd9c72c9e696262f6e8735d425108b5079f0f5b7", func := "laystall/laystalllaw06.LotPicked", spec := "lotPicked", unfollowed := true, recurses := true, plainKeys := false, apart := false, narrowed := true }
def LotPickedUptoSaid : Prop := lotPickedUptoRow.holds Tryz.pinned (OpenSpec.upto lotPickedSpec)

end Rows
end Go.Proofs.YtbofjfjopeaefaaGreat
