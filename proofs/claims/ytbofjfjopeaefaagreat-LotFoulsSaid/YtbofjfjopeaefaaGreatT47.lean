import Derived.Test.YtbofjfjopeaefaaGreatT46
set_option linter.unusedSimpArgs false
set_option linter.unusedVariables false
namespace Go.Am.K
open Go.Proofs
variable {T : Tab} {P : Program} {N L : Nat} {H H' H'' : AHeap} {Q : Bool → Value → AHeap → Prop}
section
variable {a a' : Option Addr} {cap cap' : Nat} {ps : List Pk} {gs : List Gd} {lots n : Int}
end
end Go.Am.K
namespace Go.Am.K
open Go.Proofs
variable {T : Tab} {P : Program} {N L : Nat} {H H' H'' : AHeap} {Q : Bool → Value → AHeap → Prop}
structure Ob {α : Type} (E : Enc α) (ty tb : Nat) (H : AHeap) (x : Option Addr) (l : List α) : Prop where
 cons : l ≠ [] → ∃ k, x = some ⟨k, 0, none⟩ ∧ tb ≤ k ∧ k < H.size ∧ H.get k = .rw (E.fl l) ty true []
theorem Ob.fr {α : Type} {E : Enc α} {ty tb : Nat} {x : Option Addr} {l : List α} (h : Ob E ty tb H x l) (f : Fr H H') : Ob E ty tb H' x l := ⟨fun hl => by
 obtain ⟨k, h1, h2, h3, h4⟩ := h.cons hl
 exact ⟨k, h1, h2, Nat.lt_of_lt_of_le h3 f.size, (f.same k h3).trans h4⟩⟩
theorem Ob.low {α : Type} {E : Enc α} {ty tb tb' : Nat} {x : Option Addr} {l : List α} (h : Ob E ty tb H x l) (hb : tb' ≤ tb) : Ob E ty tb' H x l := ⟨fun hl => by
 obtain ⟨k, h1, h2, h3, h4⟩ := h.cons hl
 exact ⟨k, h1, Nat.le_trans hb h2, h3, h4⟩⟩
theorem Ob.put {α : Type} {E : Enc α} {ty tb j : Nat} {x : Option Addr} {l : List α} {blk : ABlk} (h : Ob E ty tb H x l) (hj : j < tb) : Ob E ty tb (H.put j blk) x l := ⟨fun hl => by
 obtain ⟨k, h1, h2, h3, h4⟩ := h.cons hl
 exact ⟨k, h1, h2, by rw [size_put]; exact h3, by rw [get_put_ne (by omega)]; exact h4⟩⟩
theorem Ob.rw {α : Type} {E : Enc α} {ty tb : Nat} {x : Option Addr} {l : List α} (h : Ob E ty tb H x l) : Rw E H x l := ⟨fun hl => by
 obtain ⟨k, h1, h2, h3, h4⟩ := h.cons hl
 exact ((h1 ▸ Rw.of (r := []) h3 (by rw [h4]; rfl) (by rw [List.append_nil])) : Rw E H x l).get hl⟩
section
variable {a a' : Option Addr} {cap cap' : Nat} {ps : List Pk} {gs : List Gd} {lots n : Int}
def opn (p : Pk) (y z : Int) : Pk := ⟨p.s, p.w, p.o + y, p.f + z⟩
end
end Go.Am.K
namespace Go.Am.K
open Go.Proofs
variable {T : Tab} {P : Program} {N L : Nat} {H H' H'' : AHeap} {Q : Bool → Value → AHeap → Prop}
section
variable {a a' al : Option Addr} {cap cap' cl mk i : Nat} {ps : List Pk} {gs : List Gd} {lots : Int} {l : List Int} {op fd n : Int} {p : Pk}
end
end Go.Am.K
