/- Heaviest of the program. -/
import Derived.Test.YtdjklljbninmgaaT36
import Derived.Test.YtdjklljbninmgaaT34
set_option linter.unusedSimpArgs false
set_option linter.unusedVariables false
namespace Go.Am
open Go.Proofs
variable {T : Tab} {P : Program} {N L : Nat} {H : AHeap} {Q : Bool → Value → AHeap → Prop}
/-- The greatest number below k that suits. -/
def down (p : Nat → Bool) : Nat → Option Nat
  | 0 => none
  | k + 1 => if p k then some k else down p k
/-- A load with which the cart is in time. -/
def fits (C : Int) (l : List Str) (w fr to m bm : Int) (ld : Nat) : Bool := !decide (tg (earT C l w ld fr m) to = -1) && decide (tg (earT C l w ld fr m) to ≤ bm)
section
variable {l : List Str} {C w : Int} {a : Option Addr} {cap : Nat}
end
end Go.Am
/- The law StreetLoaded. -/
namespace Go.Am
open Go.Proofs
variable {T : Tab} {P : Program} {N L : Nat} {H : AHeap} {Q : Bool → Value → AHeap → Prop}
section
variable {a : Option Addr} {cap : Nat} {bs : List Int}
end
end Go.Am
/- Bounds of the program; copies of rows of minutes. -/
namespace Go.Am
open Go.Proofs
variable {T : Tab} {P : Program} {N L : Nat} {H : AHeap} {Q : Bool → Value → AHeap → Prop}
section
variable {ex : Exec} {t : Operand → Option Value}
end
section
variable {l : List Str} {C w ld : Int} {a : Option Addr} {cap : Nat}
end
end Go.Am
