import Derived.Test.YtbofjfjopeaefaaT49
set_option linter.unusedSimpArgs false
set_option linter.unusedVariables false
namespace Go.Am.K
open Go.Proofs
variable {T : Tab} {P : Program} {N L : Nat} {H H' H'' : AHeap} {Q : Bool → Value → AHeap → Prop}
theorem Gw.low {tb i el z : Nat} {S : Nat → Prop} {v : Value} {cs : List Value} (g : Gw H tb S v i cs el z) : ∀ j, j ≤ tb → ¬ S j := fun j hj h => by have := (g.own j h).1; omega
def Up (tb : Nat) (x : Option Addr) : Prop := ∀ b o s, x = some ⟨b, o, s⟩ → tb ≤ b
theorem Up.none {tb : Nat} : Up tb none := fun _ _ _ h => by cases h
theorem Up.some {tb b o : Nat} {s : Option Nat} (h : tb ≤ b) : Up tb (some ⟨b, o, s⟩) := fun _ _ _ e => by cases e; exact h
theorem gr_two {x x' : Option Addr} {n n' c c' : Nat} {w : Int} (h : x ≠ none ∨ x' ≠ none) : gr (.agg ⟨[.slice x n c, .slice x' n' c', .int .i64 w]⟩) = false := by
 rcases x with _ | x
 ·rcases x' with _ | x'
  ·simp at h
  ·show (ground 5 (.slice none n c) && (ground 5 (.slice (some x') n' c') && (ground 5 (.int .i64 w) && true))) = false
   rw [show ground 5 (.slice (some x') n' c') = false from rfl, Bool.false_and, Bool.and_false]
 ·rfl
section
variable {a a' : Option Addr} {cap cap' : Nat} {ps : List Pk} {gs : List Gd} {lots : Int}
--BEGIN
--MID
--END
end
end Go.Am.K
namespace Go.Am.K
open Go.Proofs
variable {T : Tab} {P : Program} {N L : Nat} {H H' H'' : AHeap} {Q : Bool → Value → AHeap → Prop}
section
variable {a a' : Option Addr} {cap cap' : Nat} {ps : List Pk} {gs : List Gd} {lots : Int}
end
end Go.Am.K
