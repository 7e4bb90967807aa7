/- Tables that bound, plainly; copies of minutes; two chutes. -/
import Derived.Test.YtdjklljbninmgaaT37
set_option linter.unusedSimpArgs false
set_option linter.unusedVariables false
namespace Go.Am
open Go.Proofs
variable {T : Tab} {P : Program} {N L : Nat} {H : AHeap} {Q : Bool → Value → AHeap → Prop}
theorem mu_le {ld x m : Int} (hm : 0 ≤ m ∧ m ≤ 240) : (fwd ld).mu x ≤ m ↔ x ≠ -1 ∧ x ≤ m := by
  unfold fwd
  simp only
  split <;> omega
section
variable {l : List Str} {C w ld : Int} {a : Option Addr} {cap : Nat}
theorem Chu.frx {k k' : Nat} {a a' : Option Addr} {bs bs' : List Int} {cap cap' : Nat} {H H' : AHeap} (h : Chu H k a bs cap) (h' : Chu H k' a' bs' cap') (hne : k ≠ k') (f : FrX k' H H') : Chu H' k a bs cap where
  lt := Nat.lt_of_lt_of_le h.lt f.size
  blk := by rw [f.same k h.lt hne]; exact h.blk
  row hn := by
    obtain ⟨b, o, c, h1, h2, h3, h4⟩ := h.row hn
    obtain ⟨u, s, h5, _⟩ := h'.blk
    exact ⟨b, o, c, h1, Nat.lt_of_lt_of_le h2 f.size, by rw [f.same b h2 (fun e => by subst e; rw [h5] at h3; cases h3)]; exact h3, h4⟩
  byte := h.byte
  len := h.len
/-- What laws that make their towns of numbers know: the town and the cart, in some temporaries. -/
structure LQ (n p q : Nat) (H : AHeap) (C w ld : Int) (l : List Str) (i8 i9 : Nat) (a' : Option Addr) (cap' : Nat) (e : VT) (H' : AHeap) : Prop where
  g8 : gt n e p = .pointer (some ⟨i8, 0, none⟩)
  g9 : gt n e q = .pointer (some ⟨i9, 0, none⟩)
  fr : Fr H H'
  l8 : i8 < H'.size
  l9 : i9 < H'.size
  b8 : H'.get i8 = .rw [.int .i64 C, .slice a' l.length cap'] 24 false []
  b9 : H'.get i9 = .rw [.int .i64 w, .int .i64 ld] 26 false []
  sl : Sl H' a' l
theorem LQ.next {n p q i8 i9 : Nat} {a' : Option Addr} {cap' : Nat} {e e' : VT} {H' H'' : AHeap} (I : LQ n p q H C w ld l i8 i9 a' cap' e H') (f : Fr H' H'') (h : Keep n [p, q] e e') : LQ n p q H C w ld l i8 i9 a' cap' e' H'' where
  g8 := (h p (by simp)).trans I.g8
  g9 := (h q (by simp)).trans I.g9
  fr := I.fr.trans f
  l8 := Nat.lt_of_lt_of_le I.l8 f.size
  l9 := Nat.lt_of_lt_of_le I.l9 f.size
  b8 := (f.same _ I.l8).trans I.b8
  b9 := (f.same _ I.l9).trans I.b9
  sl := I.sl.fr f
theorem LQ.frx {n p q k i8 i9 : Nat} {a' ab : Option Addr} {bs : List Int} {capb cap' : Nat} {e e' : VT} {H' H'' : AHeap} (I : LQ n p q H C w ld l i8 i9 a' cap' e H') (h8 : i8 ≠ k) (h9 : i9 ≠ k) (hk : H.size ≤ k) (hc : Chu H' k ab bs capb) (f : FrX k H' H'') (h : Keep n [p, q] e e') : LQ n p q H C w ld l i8 i9 a' cap' e' H'' where
  g8 := (h p (by simp)).trans I.g8
  g9 := (h q (by simp)).trans I.g9
  fr := f.above I.fr hk
  l8 := Nat.lt_of_lt_of_le I.l8 f.size
  l9 := Nat.lt_of_lt_of_le I.l9 f.size
  b8 := (f.same _ I.l8 h8).trans I.b8
  b9 := (f.same _ I.l9 h9).trans I.b9
  sl := I.sl.frx hc f
end
end Go.Am
/- Cuts of rows that append made, and what is appended within them: for slices.Delete. -/
namespace Go.Am
open Go.Proofs
variable {T : Tab} {P : Program} {N L : Nat} {H : AHeap} {Q : Bool → Value → AHeap → Prop}
section
variable {ex : Exec} {t : Operand → Option Value} {ty : TypeId} {x : Operand} {lo hi mx : Option Operand}
section
variable {y y1 y2 y3 : Operand} {z b o n kn : Nat}
end
end
end Go.Am
