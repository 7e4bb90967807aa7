/- What the tables say of more types and functions. -/
import Derived.Test.YtdjklljbninmgaaT40
import Derived.Test.YtdjklljbninmgaaT27
import Derived.Test.YtdjklljbninmgaaT38
import Derived.Test.YtdjklljbninmgaaT37
set_option linter.unusedSimpArgs false
set_option linter.unusedVariables false
set_option linter.defProp false
namespace Go.Am
open Go.Proofs
theorem st_apS_72 : apS tabA 72 = some (54, 2, 16) := by kernel_rfl
theorem st_brS_65_0 : brS tabA 65 0 = some (2, 28, []) := by kernel_rfl
theorem st_brS_72_1 : brS tabA 72 1 = some (2, 54, [(.int IntKind.i64 0), (.bool false)]) := by kernel_rfl
theorem st_esS_72 : esS tabA 72 = some 2 := by kernel_rfl
theorem fn_37 : tabA.fn 37 = some Try.f37 := by kernel_rfl
theorem fn_39 : tabA.fn 39 = some Try.f39 := by kernel_rfl
theorem fn_40 : tabA.fn 40 = some Try.f40 := by kernel_rfl
theorem fn_41 : tabA.fn 41 = some Try.f41 := by kernel_rfl
theorem fn_43 : tabA.fn 43 = some Try.f43 := by kernel_rfl
def ysa := (And.intro (And.intro @st_apS_72 @st_brS_65_0) (And.intro @st_brS_72_1 @st_esS_72))
end Go.Am
/- The law StreetTables: one number of a table is changed. -/
namespace Go.Am
open Go.Proofs
variable {T : Tab} {P : Program} {N L : Nat} {H : AHeap} {Q : Bool → Value → AHeap → Prop}
section
variable {l : List Str} {C w ld fr wh wn : Int} {i8 i9 k16 c16 : Nat} {a' b2 : Option Addr} {cap' cap2 : Nat} {bs2 : List Int} {H' : AHeap} {e : VT}
end
end Go.Am
/- The law StreetTables: the tables that are changed a little. -/
namespace Go.Am
open Go.Proofs
variable {T : Tab} {P : Program} {N L : Nat} {H : AHeap} {Q : Bool → Value → AHeap → Prop}
section
variable {l : List Str} {C w ld fr wh wn : Int} {i8 i9 k16 c16 : Nat} {a' b2 : Option Addr} {cap' cap2 : Nat} {bs2 : List Int} {H' : AHeap} {e : VT}
/-- What holds of the town that the law made. -/
structure Tw (C w ld : Int) (l : List Str) (a' : Option Addr) (cap' : Nat) (fr wh wn : Int) : Prop where
  hC : 2 ≤ C ∧ C ≤ 8
  hl : l.length ≤ 16
  ho : ∀ s ∈ l, OkS C s
  hn : a' = none → cap' = 0
  hw : 1 ≤ w ∧ w ≤ 9
  hd : 0 ≤ ld ∧ ld ≤ 9
  hfr : 0 ≤ fr ∧ fr < C
  hwh : 0 ≤ wh ∧ wh < C
  hwn : 0 ≤ wn ∧ wn ≤ 59
theorem Tw.good (X : Tw C w ld l a' cap' fr wh wn) : Good C l ld := by
  have := X.hC
  have := X.hd
  exact good_of (chk_of (by omega) X.hl X.ho) (off_iff.2 (by omega))
end
end Go.Am
/- The law StreetTables: the tables with one number that is later, or none. -/
namespace Go.Am
open Go.Proofs
variable {T : Tab} {P : Program} {N L : Nat} {H : AHeap} {Q : Bool → Value → AHeap → Prop}
section
variable {l : List Str} {C w ld fr wh wn : Int} {i8 i9 k16 c16 : Nat} {a' b2 : Option Addr} {cap' cap2 : Nat} {bs2 : List Int} {H' : AHeap} {e : VT}
end
end Go.Am
/- The law StreetTables. -/
namespace Go.Am
open Go.Proofs
variable {T : Tab} {P : Program} {N L : Nat} {H : AHeap} {Q : Bool → Value → AHeap → Prop}
section
variable {a b2 : Option Addr} {cap cap2 : Nat} {bs bs2 : List Int}
theorem Bts.fr {H' : AHeap} (h : Bts H a bs) (f : Fr H H') : Bts H' a bs := ⟨fun hn => by
  obtain ⟨b, o, c, h1, h2, h3, h4⟩ := h.row hn
  exact ⟨b, o, c, h1, Nat.lt_of_lt_of_le h2 f.size, by rw [f.same b h2]; exact h3, h4⟩, h.byte, h.len⟩
end
end Go.Am
