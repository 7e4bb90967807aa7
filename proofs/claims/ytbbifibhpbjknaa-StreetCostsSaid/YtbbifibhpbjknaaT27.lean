/- The law StreetTowns. -/
import Derived.Test.YtbbifibhpbjknaaT26
set_option linter.unusedSimpArgs false
set_option linter.unusedVariables false
namespace Go.Am
open Go.Proofs
variable {T : Tab} {P : Program} {N L : Nat} {H : AHeap} {Q : Bool → Value → AHeap → Prop}

def cutK (n : Nat) (ds : List Nat) (I : VT → AHeap → Prop) (x : Exit) (s : ES) : Prop := match x with
  | .normal => s.n = n ∧ s.ds = ds ∧ I s.e s.H
  | _ => False
theorem cutK_normal {n : Nat} {e : VT} {ds : List Nat} {I : VT → AHeap → Prop} : cutK n ds I .normal ⟨n, e, H, ds⟩ = I e H := by simp [cutK]
/-- What is told behind the first part is all that the rest may use. -/
theorem W_cutK {N N' n : Nat} {r : Option Nat} {x y : Code} {e : VT} {ds : List Nat} {Q : Exit → ES → Prop} {Q' : Exit → ES → Prop} (I : VT → AHeap → Prop) (hx : W T P N r x L ⟨n, e, H, ds⟩ (cutK n ds I)) (hy : ∀ e H, I e H → W T P N' r y L ⟨n, e, H, ds⟩ Q) :
    W T P N r x L ⟨n, e, H, ds⟩ (fun x' s' => seqK x' (W T P N' r y L s' Q) (Q' x' s')) := by
  refine W_mono hx ?_
  intro x' s' h
  cases x' with
  | normal =>
    obtain ⟨n', e', H', ds'⟩ := s'
    obtain ⟨rfl, rfl, h3⟩ := h
    exact hy e' H' h3
  | _ => exact h.elim
/-- A store into a block that has no room for a street leaves streets alone. -/
theorem Sl.put {H : AHeap} {a : Option Addr} {l : List Str} (h : Sl H a l) {k : Nat} {blk : ABlk} {c : List Value} (hk : cellsOf (H.get k) = some c) (hc : c.length < 9) : Sl (H.put k blk) a l := by
  have ne : ∀ b o s', l ≠ [] → a = some ⟨b, o, s'⟩ → b ≠ k := by
    rintro b o s' hl rfl rfl
    obtain ⟨b', o', c', h1, h2, h3, h4⟩ := h.get hl
    cases h1
    rw [hk] at h3
    cases h3
    obtain ⟨s, hs⟩ : ∃ s, l[0]? = some s := ⟨l[0]'(List.length_pos_iff.2 hl), by simp⟩
    have := (part_row (h4 0 s hs))
    have h5 := this.2
    rw [← this.1] at h5
    simp only [List.length_take,List.length_drop] at h5
    omega
  refine ⟨fun hl => ?_, fun b o s c hl ha hcc => ?_⟩
  · obtain ⟨b, o, c, h1, h2, h3, h4⟩ := h.get hl
    exact ⟨b, o, c, h1, by rw [zdf]; exact h2, by rw [zdd (ne b o none hl h1)]; exact h3, h4⟩
  · rw [zdd (ne b o s hl ha)] at hcc
    exact h.row b o s c hl ha hcc
end Go.Am
