import Derived.Test.YtehkjjgpgnejnaaT32
set_option linter.unusedSimpArgs false
set_option linter.unusedVariables false
namespace Go.Am.K
open Go.Proofs
variable {T : Tab} {P : Program} {N L : Nat} {H H' H'' : AHeap} {Q : Bool → Value → AHeap → Prop}
theorem st_apS_49 : apS tabA 49 = some (3, 1, 8) := by kernel_rfl
section
variable {k cap i j : Nat} {a : Option Addr} {bs : List Int} {M n : Int} {ps : List Pk} {rs : List Int} {S1 S2 : Nat → Prop} {v1 v2 : Value} {e e' : VT}
theorem Chu.again (h : Chu H k a bs cap) (f : FrX k H H'') (hb : ∃ u s : Int, H''.get k = .rw [.slice a bs.length cap, .int .i64 u, .int .u64 s] 145 false [] ∧ 0 ≤ u ∧ u ≤ bs.length ∧ 0 ≤ s ∧ s < 18446744073709551616) : Chu H'' k a bs cap where
 lt := Nat.lt_of_lt_of_le h.lt f.size
 blk := hb
 row hne := by
  obtain ⟨b, o, c, h1, h2, h3, h4⟩ := h.row hne
  obtain ⟨u, s, h5, _⟩ := h.blk
  exact ⟨b, o, c, h1, Nat.lt_of_lt_of_le h2 f.size, by rw [f.same b h2 (fun e => by subst e; rw [h5] at h3; cases h3)]; exact h3, h4⟩
 byte := h.byte
 len := h.len
end
end Go.Am.K
namespace Go.Am.K
open Go.Proofs
variable {T : Tab} {P : Program} {N L : Nat} {H H' H'' : AHeap} {Q : Bool → Value → AHeap → Prop}
structure MG (H H' : AHeap) (k : Nat) (a : Option Addr) (bs : List Int) (cap : Nat) (M m : Int) (i np : Nat) (ps : List Pk) (rs : List Int) (gs : List Gd) (S1 S2 S3 : Nat → Prop) (v1 v2 v3 : Value) (e : VT) : Prop where
 g96 : gt 120 e 96 = .int .i64 (i : Nat)
 g95 : gt 120 e 95 = .int .i64 m
 g9 : gt 120 e 9 = v2
 g8 : gt 120 e 8 = .pointer (some ⟨H.size + 1, 0, none⟩)
 g6 : gt 120 e 6 = .pointer (some ⟨H.size, 0, none⟩)
 g0 : gt 120 e 0 = .pointer (some ⟨k, 0, none⟩)
 chu : Chu H' k a bs cap
 fr : FrX k H H'
 sz : H.size + 1 < H'.size
 b8 : H'.get (H.size + 1) = .rw [v1, v3, .int .i64 0] 25 false []
 b6 : H'.get H.size = .rw [.slice none 0 0, .slice none 0 0, .int .i64 0] 25 false []
 r1 : Gw H' (H.size + 1) S1 v1 np (pkE.fl ps) 87 4
 r2 : Gw H' (H.size + 1) S2 v2 np (intE.fl rs) 3 1
 r3 : Gw H' (H.size + 1) S3 v3 i (gdE.fl gs) 77 2
 d13 : ∀ j, S1 j → ¬ S3 j
 d23 : ∀ j, S2 j → ¬ S3 j
 l1 : ps.length = np
 l2 : rs.length = np
 ok : ∀ (j : Nat) (p : Pk) (r : Int), ps[j]? = some p → rs[j]? = some r → PkIn M p r
section
variable {k cap i j np : Nat} {a : Option Addr} {bs : List Int} {M n m fo pr : Int} {ps : List Pk} {rs : List Int} {gs : List Gd} {S1 S2 S3 : Nat → Prop} {v1 v2 v3 : Value} {e e' : VT}
theorem MG.next (I : MG H H' k a bs cap M m i np ps rs gs S1 S2 S3 v1 v2 v3 e) (hc : Chu H'' k a bs cap) (hk : k < H.size) (f : FrX k H' H'') (h : Keep 120 [0, 6, 8, 9, 95, 96] e e') : MG H H'' k a bs cap M m i np ps rs gs S1 S2 S3 v1 v2 v3 e' where
 g96 := (h 96 (by decide)).trans I.g96
 g95 := (h 95 (by decide)).trans I.g95
 g9 := (h 9 (by decide)).trans I.g9
 g8 := (h 8 (by decide)).trans I.g8
 g6 := (h 6 (by decide)).trans I.g6
 g0 := (h 0 (by decide)).trans I.g0
 chu := hc
 fr := I.fr.trans f
 sz := Nat.lt_of_lt_of_le I.sz f.size
 b8 := (f.same _ I.sz (by omega)).trans I.b8
 b6 := (f.same _ (by have := I.sz; omega) (by omega)).trans I.b6
 r1 := I.r1.frx (fun h => by have := (I.r1.own _ h).1; omega) f
 r2 := I.r2.frx (fun h => by have := (I.r2.own _ h).1; omega) f
 r3 := I.r3.frx (fun h => by have := (I.r3.own _ h).1; omega) f
 d13 := I.d13
 d23 := I.d23
 l1 := I.l1
 l2 := I.l2
 ok := I.ok
end
end Go.Am.K
