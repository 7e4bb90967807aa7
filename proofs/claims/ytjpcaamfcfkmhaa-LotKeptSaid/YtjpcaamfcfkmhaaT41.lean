/- Rows of pickings and grades: alike. -/
import Derived.Test.YtjpcaamfcfkmhaaT40
set_option linter.unusedSimpArgs false
set_option linter.unusedVariables false
namespace Go.Am.K
open Go.Proofs
variable {T : Tab} {P : Program} {N L : Nat} {H : AHeap} {Q : Bool → Value → AHeap → Prop}
section
variable {a a' : Option Addr} {cap cap' : Nat} {ps : List Pk} {gs : List Gd}
end
end Go.Am.K
/- Errors of questions about one picking. -/
namespace Go.Am.K
open Go.Proofs
variable {T : Tab} {P : Program} {N L : Nat} {H : AHeap} {Q : Bool → Value → AHeap → Prop}
section
variable {a a' : Option Addr} {cap cap' : Nat} {ps : List Pk} {gs : List Gd} {lots n : Int}
structure StOk (ps : List Pk) (gs : List Gd) (lots : Int) : Prop where
  l1 : 1 ≤ ps.length
  l4 : ps.length ≤ 4
  g4 : gs.length ≤ 4
  pb : ps.all Pk.isB = true
  gb : gs.all Gd.isB = true
  lo : 0 ≤ lots ∧ lots ≤ 3
  od : ordB gs = true
  sp : ∀ p ∈ ps, p.f ≤ p.hi
theorem Pk.isB_ok {p : Pk} (h : p.isB = true) : p.Ok := by
  unfold Pk.isB wi at h
  simp only [Bool.and_eq_true,decide_eq_true_eq] at h
  exact ⟨h.1, h.2.1, h.2.2.1, h.2.2.2⟩
theorem chkS_ok (h : chkS ps gs lots = 0) : StOk ps gs lots := by
  unfold chkS at h
  cases h1 : chk1 ps gs
  · cases h2 : chk2 ps gs lots
    · cases h3 : ordB gs
      · rw [h1, h2, h3] at h; cases h
      · cases h4 : ps.all fun p => !decide (p.hi < p.f)
        · rw [h1, h2, h3, h4] at h; cases h
        · unfold chk1 wi at h1
          unfold chk2 wi at h2
          simp only [Bool.or_eq_false_iff,Bool.not_eq_false',Bool.and_eq_true,decide_eq_true_eq,decide_eq_false_iff_not] at h1 h2
          refine ⟨by omega, by omega, by omega, h2.1.1, h2.1.2, h2.2, h3, fun p hp => ?_⟩
          have := List.all_eq_true.1 h4 p hp
          simp at this
          exact this
    · rw [h1, h2] at h; cases h
  · rw [h1] at h; cases h
end
end Go.Am.K
/- Errors of samples. -/
namespace Go.Am.K
open Go.Proofs
variable {T : Tab} {P : Program} {N L : Nat} {H : AHeap} {Q : Bool → Value → AHeap → Prop}
section
variable {a a' : Option Addr} {cap cap' : Nat} {ps : List Pk} {gs : List Gd} {lots n y : Int}
end
end Go.Am.K
