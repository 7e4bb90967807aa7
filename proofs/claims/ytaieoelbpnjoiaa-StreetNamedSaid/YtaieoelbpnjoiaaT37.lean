import Derived.Test.YtaieoelbpnjoiaaT36
import Derived.Test.YtaieoelbpnjoiaaT34
set_option linter.unusedSimpArgs false
set_option linter.unusedVariables false
namespace Go.Am
open Go.Proofs
variable {T : Tab} {P : Program} {N L : Nat} {H : AHeap} {Q : Bool → Value → AHeap → Prop}
def down (p : Nat → Bool) : Nat → Option Nat
 | 0 => none
 | k + 1 => if p k then some k else down p k
def fits (C : Int) (l : List Str) (w fr to m bm : Int) (ld : Nat) : Bool := !decide (tg (earT C l w ld fr m) to = -1) && decide (tg (earT C l w ld fr m) to ≤ bm)
section
variable {l : List Str} {C w : Int} {a : Option Addr} {cap : Nat}
end
end Go.Am
namespace Go.Am
open Go.Proofs
variable {T : Tab} {P : Program} {N L : Nat} {H : AHeap} {Q : Bool → Value → AHeap → Prop}
section
variable {a : Option Addr} {cap : Nat} {bs : List Int}
end
end Go.Am
namespace Go.Am
open Go.Proofs
variable {T : Tab} {P : Program} {N L : Nat} {H : AHeap} {Q : Bool → Value → AHeap → Prop}
section
variable {ex : Exec} {t : Operand → Option Value}
end
section
variable {l : List Str} {C w ld : Int} {a : Option Addr} {cap : Nat}
end
end Go.Am
