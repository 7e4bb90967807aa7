import Derived.Test.YtbofjfjopeaefaaT45
import Derived.Test.YtbofjfjopeaefaaT41
set_option linter.unusedSimpArgs false
set_option linter.unusedVariables false
namespace Go.Am.K
open Go.Proofs
variable {T : Tab} {P : Program} {N L : Nat} {H H' H'' : AHeap} {Q : Bool → Value → AHeap → Prop}
variable {k cap : Nat} {a : Option Addr} {bs : List Int}
end Go.Am.K
namespace Go.Am.K
open Go.Proofs
variable {T : Tab} {P : Program} {N L : Nat} {H H' H'' : AHeap} {Q : Bool → Value → AHeap → Prop}
theorem StOk.chk {ps : List Pk} {gs : List Gd} {lots : Int} (h : StOk ps gs lots) : chkS ps gs lots = 0 := by
 have e1 : chk1 ps gs = false := by
  unfold chk1 wi
  simp only [Bool.or_eq_false_iff,Bool.not_eq_false',Bool.and_eq_true,decide_eq_true_eq,decide_eq_false_iff_not]
  have := h.l1
  have := h.l4
  have := h.g4
  omega
 have e4 : chk2 ps gs lots = false := by
  unfold chk2 wi
  rw [h.pb, h.gb]
  have := h.lo
  simp only [Bool.not_true,Bool.or_self,Bool.false_or,Bool.not_eq_false',Bool.and_eq_true,decide_eq_true_eq]
  omega
 have e5 : (ps.all fun p => !decide (p.hi < p.f)) = true := List.all_eq_true.2 fun p hp => by
  have := h.sp p hp
  simp only [Bool.not_eq_true',decide_eq_false_iff_not]
  omega
 unfold chkS
 rw [e1, e4, h.od, e5]; rfl
section
variable {a a' al : Option Addr} {cap cap' cl mk i : Nat} {ps : List Pk} {gs : List Gd} {lots : Int} {l : List Int} {op fd n : Int} {p : Pk}
end
end Go.Am.K
namespace Go.Am.K
open Go.Proofs
variable {b b' : List Int → Int}
structure Mv (σ : List Nat) (ps ps' : List Pk) : Prop where
 pm : σ.Perm (List.range ps.length)
 len : ps'.length = ps.length
 at_ : ∀ i v : Nat, σ[i]? = some v → ps'[v]? = ps[i]?
section
variable {σ : List Nat} {ps ps' : List Pk} {gs : List Gd}
theorem Mv.sl (h : Mv σ ps ps') : σ.length = ps.length := by rw [h.pm.length_eq, List.length_range]
theorem Mv.lt (h : Mv σ ps ps') {v : Nat} (hv : v ∈ σ) : v < ps.length := List.mem_range.1 (h.pm.mem_iff.1 hv)
end
theorem ord_first : ∀ {gs : List Gd} {g0 : Gd}, ordB gs = true → gs[0]? = some g0 → ∀ g ∈ gs, g.pr ≤ g0.pr
 | [], _, _, h, _, _ => by simp at h
 | [g], g0, _, h, x, hx => by
  simp only [List.getElem?_cons_zero,Option.some.injEq] at h
  subst h
  simp only [List.mem_singleton] at hx
  subst hx
  exact Int.le_refl _
 | g :: g' :: l, g0, ho, h, x, hx => by
  simp only [List.getElem?_cons_zero,Option.some.injEq] at h
  subst h
  unfold ordB at ho
  simp only [Bool.and_eq_true,decide_eq_true_eq] at ho
  rcases List.mem_cons.1 hx with rfl | hx
  ·exact Int.le_refl _
  ·have := ord_first ho.2 (g0 := g') rfl x hx
   omega
end Go.Am.K
