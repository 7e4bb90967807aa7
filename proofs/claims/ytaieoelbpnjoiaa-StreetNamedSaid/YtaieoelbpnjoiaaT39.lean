import Derived.Test.YtaieoelbpnjoiaaT38
set_option linter.unusedSimpArgs false
set_option linter.unusedVariables false
namespace Go.Am
open Go.Proofs
variable {T : Tab} {P : Program} {N L : Nat} {H : AHeap} {Q : Bool → Value → AHeap → Prop}
end Go.Am
namespace Go.Am
open Go.Proofs
variable {T : Tab} {P : Program} {N L : Nat} {H : AHeap} {Q : Bool → Value → AHeap → Prop}
theorem sl_cut {b : Nat} {l : List Str} {c : List Value} (hb : b < H.size) (h : cellsOf (H.get b) = some c) (hc : c.take (l.length * 9) = flat l) : Sl H (some ⟨b, 0, none⟩) l := by
 have hl := flat_length l
 obtain ⟨r, rfl⟩ : ∃ r, c = flat l ++ r := ⟨c.drop (l.length * 9), by rw [← hc, List.take_append_drop]⟩
 refine ⟨fun _ => ⟨b, 0, _, rfl, hb, h, fun i s hs => ?_⟩, fun b' o s c' _ ha hcc => ?_⟩
 ·have hi : i < l.length := (List.getElem?_eq_some_iff.1 hs).1
  have e : ((flat l ++ r).drop (0 + i * 9)).take 9 = s.enc := by
   rw [Nat.zero_add, List.drop_append_of_le_length (by omega), List.take_append_of_le_length (by rw [List.length_drop]; omega)]
   exact flat_drop l i s hs
  unfold part
  simp only [e,enc_len,show Nat.beq 9 9 = true by rfl,cond_true]
 ·cases ha
  rw [h] at hcc
  cases hcc
  rw [List.drop_zero, ← hl, List.take_left]
end Go.Am
