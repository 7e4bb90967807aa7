/- Towns that are made of numbers: the call. -/
import Derived.Test.YtdjklljbninmgaaT34
import Derived.Test.YtdjklljbninmgaaT25
set_option linter.unusedSimpArgs false
set_option linter.unusedVariables false
namespace Go.Am
open Go.Proofs
variable {T : Tab} {P : Program} {N L : Nat} {H : AHeap} {Q : Bool → Value → AHeap → Prop}
section
variable {k cap gc i j : Nat} {a ga : Option Addr} {bs : List Int} {C m : Int} {l : List Str} {H' H'' : AHeap} {e e' : VT}
end
end Go.Am
/- Towns that are made of numbers, as a whole. -/
namespace Go.Am
open Go.Proofs
variable {T : Tab} {P : Program} {N L : Nat} {H : AHeap} {Q : Bool → Value → AHeap → Prop}
theorem OkS.ok {C : Int} {s : Str} (h : OkS C s) (hC : C ≤ 8) : s.Ok := by
  have h1 := h.1
  have h2 := h.2
  unfold bad1 at h1
  unfold bad2 at h2
  simp only [Bool.or_eq_false_iff] at h1 h2
  have a1 := off_iff.1 h1.1
  have a2 := off_iff.1 h1.2.1
  have b1 := off_iff.1 h2.1
  have b2 := off_iff.1 h2.2.1
  have b3 := off_iff.1 h2.2.2.1
  have b4 := off_iff.1 h2.2.2.2.1
  have b5 := off_iff.1 h2.2.2.2.2.1
  have b6 := off_iff.1 h2.2.2.2.2.2
  exact ⟨okI_of (by omega), okI_of (by omega), okI_of (by omega), okI_of (by omega), okI_of (by omega), okI_of (by omega), okI_of (by omega), okI_of (by omega)⟩
section
variable {k cap gc i j : Nat} {a ga : Option Addr} {bs : List Int} {C m : Int} {l : List Str} {H' H'' : AHeap} {e e' : VT}
theorem Chu.again (h : Chu H k a bs cap) (f : FrX k H H'') (hb : ∃ u s : Int, H''.get k = .rw [.slice a bs.length cap, .int .i64 u, .int .u64 s] 140 false [] ∧ 0 ≤ u ∧ u ≤ bs.length ∧ 0 ≤ s ∧ s < 18446744073709551616) : Chu H'' k a bs cap where
  lt := Nat.lt_of_lt_of_le h.lt f.size
  blk := hb
  row hne := by
    obtain ⟨b, o, c, h1, h2, h3, h4⟩ := h.row hne
    obtain ⟨u, s, h5, _⟩ := h.blk
    exact ⟨b, o, c, h1, Nat.lt_of_lt_of_le h2 f.size, by rw [f.same b h2 (fun e => by subst e; rw [h5] at h3; cases h3)]; exact h3, h4⟩
  byte := h.byte
  len := h.len
end
end Go.Am
