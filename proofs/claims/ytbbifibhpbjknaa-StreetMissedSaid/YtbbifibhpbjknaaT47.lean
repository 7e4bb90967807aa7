/- A law that is lifted: the cart drives as in the town in which it is lifted. -/
import Derived.Test.YtbbifibhpbjknaaT41
set_option linter.unusedSimpArgs false
set_option linter.unusedVariables false
namespace Go.Am
open Go.Proofs
variable {T : Tab} {P : Program} {N L : Nat} {H : AHeap} {Q : Bool → Value → AHeap → Prop}
section
variable {a : Option Addr} {cap i : Nat} {l : List Str} {C w ld m lf : Int} {b : Bool} {s : Str}
end
end Go.Am
/- Bars: the laws that alone keep a cart from a corner. -/
namespace Go.Am
open Go.Proofs
variable {T : Tab} {P : Program} {N L : Nat} {H : AHeap} {Q : Bool → Value → AHeap → Prop}
section
variable {a : Option Addr} {cap : Nat} {l : List Str} {C w ld : Int}
/-- A question of two corners and a minute. -/
theorem c82i {k₁ k₂ : Nat} {x y m : Int} (hs : Sl H a l) (hl : l.length ≤ 18) (h₁ : cellsOf (H.get k₁) = some [.int .i64 x, .int .i64 y]) (h₂ : cellsOf (H.get k₂) = some [.int .i64 m]) :
    acall tabA (aexec tabA Try.prog (N + 400)) 82 [.agg ⟨[.int .i64 C, .slice a l.length cap]⟩, .agg ⟨[.int .i64 w, .int .i64 ld]⟩, .slice (some ⟨k₁, 0, none⟩) 2 2, .slice none 0 0, .slice (some ⟨k₂, 0, none⟩) 1 1] H = some (true, .int .i64 (asked C l w ld [x, y] [] [m]), H, H.size) :=
  c82 (cs := [x, y]) (ss := []) (ms := [m]) (as' := none) (ks := 0) hs hl (Il.two (lt_of_cells h₁) h₁) (by simp) Il.nil (by simp) (Il.one (lt_of_cells h₂) h₂) (by simp)
end
end Go.Am
