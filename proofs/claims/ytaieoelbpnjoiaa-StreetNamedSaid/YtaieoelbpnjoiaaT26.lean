import Derived.Test.YtaieoelbpnjoiaaT25
set_option linter.unusedSimpArgs false
set_option linter.unusedVariables false
namespace Go.Am
open Go.Proofs
variable {T : Tab} {P : Program} {N L : Nat} {H : AHeap} {Q : Bool → Value → AHeap → Prop}
theorem Sl.put {H : AHeap} {a : Option Addr} {l : List Str} (h : Sl H a l) {k : Nat} {blk : ABlk} {c : List Value} (hk : cellsOf (H.get k) = some c) (hc : c.length < 9) : Sl (H.put k blk) a l := by
 have ne : ∀ b o s', l ≠ [] → a = some ⟨b, o, s'⟩ → b ≠ k := by
  rintro b o s' hl rfl rfl
  obtain ⟨b', o', c', h1, h2, h3, h4⟩ := h.get hl
  cases h1
  rw [hk] at h3
  cases h3
  obtain ⟨s, hs⟩ : ∃ s, l[0]? = some s := ⟨l[0]'(List.length_pos_iff.2 hl), by simp⟩
  have := (part_row (h4 0 s hs))
  have h5 := this.2
  rw [← this.1] at h5
  simp only [List.length_take,List.length_drop] at h5
  omega
 refine ⟨fun hl => ?_, fun b o s c hl ha hcc => ?_⟩
 ·obtain ⟨b, o, c, h1, h2, h3, h4⟩ := h.get hl
  exact ⟨b, o, c, h1, by rw [zdf]; exact h2, by rw [zdd (ne b o none hl h1)]; exact h3, h4⟩
 ·rw [zdd (ne b o s hl ha)] at hcc
  exact h.row b o s c hl ha hcc
end Go.Am
