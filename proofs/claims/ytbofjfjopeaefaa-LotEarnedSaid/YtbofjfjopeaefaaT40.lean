import Derived.Test.YtbofjfjopeaefaaT39
set_option linter.unusedSimpArgs false
set_option linter.unusedVariables false
namespace Go.Am.K
open Go.Proofs
variable {T : Tab} {P : Program} {N L : Nat} {H H' H'' : AHeap} {Q : Bool → Value → AHeap → Prop}
theorem Bts.fr {a : Option Addr} {bs : List Int} (h : Bts H a bs) (f : Fr H H') : Bts H' a bs := ⟨fun hne => by
 obtain ⟨b, o, c, h1, h2, h3, h4⟩ := h.row hne
 exact ⟨b, o, c, h1, Nat.lt_of_lt_of_le h2 f.size, by rw [f.same b h2]; exact h3, h4⟩, h.byte, h.len⟩
section
variable {n kq cq i5 b1 c1 b2 c2 b3 c3 b4 c4 i10 : Nat} {aq : Option Addr} {bq rs l : List Int} {ps : List Pk} {gs : List Gd} {lots lo hi sv : Int} {e e' : VT}
end
end Go.Am.K
namespace Go.Am.K
open Go.Proofs
variable {T : Tab} {P : Program} {N L : Nat} {H H' H'' : AHeap} {Q : Bool → Value → AHeap → Prop}
def Fits (ps : List Pk) (fl : List Int) (i : Nat) : Prop := ∀ (j : Nat) (p : Pk) (f : Int), j < i → ps[j]? = some p → fl[j]? = some f → p.f ≤ f ∧ f ≤ p.hi
section
variable {kq cq i5 b1 c1 b2 c2 b3 c3 b4 c4 i10 : Nat} {aq : Option Addr} {bq rs l : List Int} {ps : List Pk} {gs : List Gd} {lots lo hi sv : Int} {e e' : VT}
end
end Go.Am.K
namespace Go.Am.K
open Go.Proofs
variable {T : Tab} {P : Program} {N L : Nat} {H H' H'' : AHeap} {Q : Bool → Value → AHeap → Prop}
theorem Mk.fits {k : Nat} {P M : Int} {ps : List Pk} {gs : List Gd} {rs : List Int} {lots : Int} (h : Mk k P M ps gs rs lots) : Fits ps rs ps.length := fun j p f _ hp hf => by
 have h1 := h.ok j p f hp hf
 exact ⟨h1.re.1, h1.sp.2⟩
section
variable {kq cq i5 b1 c1 b2 c2 b3 c3 b4 c4 i10 : Nat} {aq : Option Addr} {bq rs l : List Int} {ps : List Pk} {gs : List Gd} {lots lo hi sv : Int} {e e' : VT}
end
end Go.Am.K
