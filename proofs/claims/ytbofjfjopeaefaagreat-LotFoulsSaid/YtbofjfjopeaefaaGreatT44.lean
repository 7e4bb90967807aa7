import Derived.Test.YtbofjfjopeaefaaGreatT43
set_option linter.unusedSimpArgs false
set_option linter.unusedVariables false
namespace Go.Am.K
open Go.Proofs
variable {T : Tab} {P : Program} {N L : Nat} {H H' H'' : AHeap} {Q : Bool → Value → AHeap → Prop}
end Go.Am.K
namespace Go.Am.K
open Go.Proofs
variable {T : Tab} {P : Program} {N L : Nat} {H H' H'' : AHeap} {Q : Bool → Value → AHeap → Prop}
section
variable {ps : List Pk} {gs : List Gd} {lots : Int} {l : List Int}
end
section
variable {a a' al : Option Addr} {cap cap' cl : Nat} {ps : List Pk} {gs : List Gd} {lots op fd : Int} {l : List Int}
end
end Go.Am.K
namespace Go.Am.K
open Go.Proofs
variable {T : Tab} {P : Program} {N L : Nat} {H H' H'' : AHeap} {Q : Bool → Value → AHeap → Prop}
section
variable {a a' al : Option Addr} {cap cap' cl : Nat} {ps : List Pk} {gs : List Gd} {lots op fd y z : Int} {l : List Int}
theorem LtR.of (hs : Rw pkE H a ps) (hgs : Rw gdE H a' gs) (hl : Rw intE H al l) (he : lotE ps gs lots l = 0) : LtR H a a' al ps gs lots l := ⟨⟨hs, hgs, (lotE_ok he).2.1⟩, hl, (lotE_ok he).2.2⟩
end
end Go.Am.K
namespace Go.Am.K
open Go.Proofs
section
variable {ps : List Pk} {gs : List Gd} {lots n m op fd : Int} {l : List Int} {i : Nat} {p : Pk}
end
end Go.Am.K
