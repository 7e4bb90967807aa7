import Derived.Test.YtdjklljbninmgaaT41
import Derived.Test.YtdjklljbninmgaaT28
import Derived.Test.YtdjklljbninmgaaT39
import Derived.Test.YtdjklljbninmgaaT38
set_option linter.unusedSimpArgs false
set_option linter.unusedVariables false
set_option linter.defProp false
namespace Go.Am
open Go.Proofs
theorem st_apS_72 : apS tabA 72 = some (54, 2, 16) := by kernel_rfl
theorem st_brS_65_0 : brS tabA 65 0 = some (2, 28, []) := by kernel_rfl
theorem st_brS_72_1 : brS tabA 72 1 = some (2, 54, [(.int IntKind.i64 0), (.bool false)]) := by kernel_rfl
theorem st_esS_72 : esS tabA 72 = some 2 := by kernel_rfl
theorem fn_108 : tabA.fn 108 = some Try.f108 := by kernel_rfl
theorem fn_109 : tabA.fn 109 = some Try.f109 := by kernel_rfl
theorem fn_124 : tabA.fn 124 = some Try.f124 := by kernel_rfl
theorem fn_125 : tabA.fn 125 = some Try.f125 := by kernel_rfl
theorem fn_134 : tabA.fn 134 = some Try.f134 := by kernel_rfl
theorem fn_144 : tabA.fn 144 = some Try.f144 := by kernel_rfl
def ysa := (And.intro (And.intro @st_apS_72 @st_brS_65_0) (And.intro @st_brS_72_1 @st_esS_72))
end Go.Am
namespace Go.Am
open Go.Proofs
variable {T : Tab} {P : Program} {N L : Nat} {H : AHeap} {Q : Bool → Value → AHeap → Prop}
section
variable {l : List Str} {C w ld fr wh wn : Int} {i8 i9 k16 c16 : Nat} {a' b2 : Option Addr} {cap' cap2 : Nat} {bs2 : List Int} {H' : AHeap} {e : VT}
end
end Go.Am
namespace Go.Am
open Go.Proofs
variable {T : Tab} {P : Program} {N L : Nat} {H : AHeap} {Q : Bool → Value → AHeap → Prop}
section
variable {l : List Str} {C w ld fr wh wn : Int} {i8 i9 k16 c16 : Nat} {a' b2 : Option Addr} {cap' cap2 : Nat} {bs2 : List Int} {H' : AHeap} {e : VT}
structure Tw (C w ld : Int) (l : List Str) (a' : Option Addr) (cap' : Nat) (fr wh wn : Int) : Prop where
  hC : 2 ≤ C ∧ C ≤ 8
  hl : l.length ≤ 16
  ho : ∀ s ∈ l, OkS C s
  hn : a' = none → cap' = 0
  hw : 1 ≤ w ∧ w ≤ 9
  hd : 0 ≤ ld ∧ ld ≤ 9
  hfr : 0 ≤ fr ∧ fr < C
  hwh : 0 ≤ wh ∧ wh < C
  hwn : 0 ≤ wn ∧ wn ≤ 59
theorem Tw.good (X : Tw C w ld l a' cap' fr wh wn) : Good C l ld := by
  have := X.hC
  have := X.hd
  exact good_of (chk_of (by omega) X.hl X.ho) (off_iff.2 (by omega))
def myT (C : Int) (l : List Str) (w ld fr wn : Int) : List Int := (earT C l w ld fr wn).take C.toNat
theorem myT_len (X : Tw C w ld l a' cap' fr wh wn) : (myT C l w ld fr wn).length = C.toNat := by
  have := X.hC
  have := X.hwn
  unfold myT
  rw [List.length_take, earT_len X.good X.hfr (by omega)]
  omega
theorem myT_ok (X : Tw C w ld l a' cap' fr wh wn) : ∀ x ∈ myT C l w ld fr wn, okM x := fun x hx => by
  have h2 := X.hwn
  have h1 := (earT_ok (w := w) X.good X.hfr (a₀ := wn) (by omega)).2
  obtain ⟨i, hi, rfl⟩ := List.mem_iff_getElem.1 (List.mem_of_mem_take hx)
  have := h1 (i : Int)
  unfold tg at this
  rwa [List.getD_eq_getElem?_getD, Int.toNat_natCast, List.getElem?_eq_getElem hi] at this
end
end Go.Am
namespace Go.Am
open Go.Proofs
variable {T : Tab} {P : Program} {N L : Nat} {H : AHeap} {Q : Bool → Value → AHeap → Prop}
section
variable {l : List Str} {C w ld fr wh wn : Int} {i8 i9 k16 c16 : Nat} {a' b2 : Option Addr} {cap' cap2 : Nat} {bs2 : List Int} {H' : AHeap} {e : VT}
end
end Go.Am
namespace Go.Am
open Go.Proofs
variable {T : Tab} {P : Program} {N L : Nat} {H : AHeap} {Q : Bool → Value → AHeap → Prop}
section
variable {a b2 : Option Addr} {cap cap2 : Nat} {bs bs2 : List Int}
theorem Bts.fr {H' : AHeap} (h : Bts H a bs) (f : Fr H H') : Bts H' a bs := ⟨fun hn => by
  obtain ⟨b, o, c, h1, h2, h3, h4⟩ := h.row hn
  exact ⟨b, o, c, h1, Nat.lt_of_lt_of_le h2 f.size, by rw [f.same b h2]; exact h3, h4⟩, h.byte, h.len⟩
end
end Go.Am
