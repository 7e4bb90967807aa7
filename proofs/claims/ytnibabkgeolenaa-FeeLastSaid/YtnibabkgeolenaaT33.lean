/- Cost, Pounds. -/
import Derived.Test.YtnibabkgeolenaaT32
set_option linter.unusedSimpArgs false
set_option linter.unusedVariables false
namespace Go.Am
open Go.Proofs
variable {T : Tab} {P : Program} {N L : Nat} {H H' H'' : AHeap} {Q : Bool → Value → AHeap → Prop}
section
variable {a : Option Addr} {cap : Nat} {t : List Stp} {n p : Int}
end
end Go.Am
/- A tariff that is made of numbers. -/
namespace Go.Am
open Go.Proofs
variable {T : Tab} {P : Program} {N L : Nat} {H H' H'' : AHeap} {Q : Bool → Value → AHeap → Prop}
/-- A chute after changes of other blocks. -/
theorem Chu.again {k cap q q' : Nat} {a : Option Addr} {bs : List Int} (h : Chu H k a bs cap q) (f : FrX k H H'') (hb : ∃ u s : Int, H''.get k = .rw [.slice a bs.length cap, .int .i64 u, .int .u64 s] 138 false [] ∧ (0 ≤ u ∧ u ≤ 2 * q') ∧ u ≤ bs.length ∧ 0 ≤ s ∧ s < 18446744073709551616) : Chu H'' k a bs cap q' where
  lt := Nat.lt_of_lt_of_le h.lt f.size
  blk := hb
  row hne := by
    obtain ⟨b, o, c, h1, h2, h3, h4⟩ := h.row hne
    obtain ⟨u, s, h5, _⟩ := h.blk
    exact ⟨b, o, c, h1, Nat.lt_of_lt_of_le h2 f.size, by rw [f.same b h2 (fun e => by subst e; rw [h5] at h3; cases h3)]; exact h3, h4⟩
  byte := h.byte
  len := h.len
section
variable {k cap q i : Nat} {a : Option Addr} {bs : List Int} {n u : Int} {l : List Stp} {S : Nat → Prop} {v : Value} {e e' : VT}
end
end Go.Am
/- Wrap, Copy of steps; the law FeeCosts. -/
namespace Go.Am
open Go.Proofs
variable {T : Tab} {P : Program} {N L : Nat} {H H' H'' : AHeap} {Q : Bool → Value → AHeap → Prop}
section
variable {a a' : Option Addr} {cap cap' : Nat} {ps : List Stp}
end
end Go.Am
