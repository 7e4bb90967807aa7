import Derived.Test.YtjpcaamfcfkmhaaT33
import Derived.Test.YtjpcaamfcfkmhaaT37
set_option linter.unusedSimpArgs false
set_option linter.unusedVariables false
namespace Go.Am.K
open Go.Proofs
variable {T : Tab} {P : Program} {N L : Nat} {H H' H'' : AHeap} {Q : Bool → Value → AHeap → Prop}
structure Gw (H : AHeap) (tb : Nat) (S : Nat → Prop) (v : Value) (i : Nat) (cs : List Value) (el z : Nat) : Prop where
 nil : i = 0 → v = .slice none 0 0
 cons : i ≠ 0 → ∃ b al, v = .slice (some ⟨b, 0, none⟩) i (OPEN + z) ∧ S b ∧ H.get b = .rw cs el true al ∧ (∀ j ∈ al, S j)
 own : ∀ j, S j → tb < j ∧ j < H.size
section
variable {tb i el z by' b cap : Nat} {S : Nat → Prop} {v sv : Value} {cs news : List Value}
theorem Gw.same (g : Gw H tb S v i cs el z) (h : H.size ≤ H'.size) (hs : ∀ j, S j → H'.get j = H.get j) : Gw H' tb S v i cs el z :=
 ⟨g.nil, fun h0 => by
  obtain ⟨b, al, h1, h2, h3, h4⟩ := g.cons h0
  exact ⟨b, al, h1, h2, by rw [hs b h2]; exact h3, h4⟩, fun j hj => ⟨(g.own j hj).1, Nat.lt_of_lt_of_le (g.own j hj).2 h⟩⟩
theorem Gw.fr (g : Gw H tb S v i cs el z) (f : Fr H H') : Gw H' tb S v i cs el z := g.same f.size fun j hj => f.same j (g.own j hj).2
theorem Gw.frx {k : Nat} (g : Gw H tb S v i cs el z) (hk : ¬ S k) (f : FrX k H H') : Gw H' tb S v i cs el z := g.same f.size fun j hj => f.same j (g.own j hj).2 (by rintro rfl; exact hk hj)
theorem Gw.put {j : Nat} (g : Gw H tb S v i cs el z) (hj : ¬ S j) (blk : ABlk) : Gw (H.put j blk) tb S v i cs el z := g.same (by rw [size_put]; exact Nat.le_refl _) fun q hq => get_put_ne (by rintro rfl; exact hj hq)
theorem Gw.none : Gw H tb (fun _ => False) (.slice none 0 0) 0 [] el z := ⟨fun _ => rfl, fun h => absurd rfl h, fun _ h => h.elim⟩
theorem gw_append {ty : TypeId} (hs : apS tabA ty = some (el, z, by')) (g : Gw H tb S sv i cs el z) (htb : tb < H.size) (hcs : cs.length = i * z) (hx : srcCells H ⟨b, 0, none⟩ (1 * z) = some news) (hb : (i + 1) * by' ≤ 140737488355328) (hn : i + 1 ≤ 9223372036854775807)
  (h1 : oneCells news = true) (hL : L ≤ tb) (hq : ∀ a' c' H', H.size < H'.size → (∀ j, j < H.size → ¬ S j → H'.get j = H.get j) → Gw H' tb (fun j => S j ∨ j = H.size) (.slice a' (i + 1) c') (i + 1) (cs ++ news) el z → Q false (.slice a' (i + 1) c') H') : apK tabA H ty sv (.slice (some ⟨b, 0, none⟩) 1 cap) L Q := by
 by_cases hi : i = 0
 ·subst hi
  rw [g.nil rfl, apK_nil hs hx (by omega) (by omega) (by omega) h1, andK_of _ (by omega)]
  refine hq _ _ _ (by simp only [size_alloc]; omega) (fun k hk _ => get_alloc_lt (by omega)) ⟨fun h => by omega, fun _ => ⟨H.size, [], rfl, .inr rfl, ?_, by simp⟩, fun j hj => ?_⟩
  ·have : cs = [] := List.length_eq_zero_iff.1 (by omega)
   subst this
   exact get_alloc_same
  ·rcases hj with hj | rfl
   ·have := g.own j hj
    simp only [size_alloc]; omega
   ·simp only [size_alloc]; omega
 ·obtain ⟨b₀, al, rfl, k1, k3, k4⟩ := g.cons hi
  have k2 := (g.own _ k1).1
  rw [apK_more hs hx (by omega) (by exact hb) (by omega) h1 k3 hcs rfl, andK_of _ (le_minAl (by omega) (fun j hj => by have := (g.own j (k4 j hj)).1; omega))]
  refine hq _ _ _ (by simp only [size_alloc,size_put,size_kill]; omega) (fun k hk hS => ?_) ⟨fun h => by omega, fun _ => ⟨H.size, [b₀], rfl, .inr rfl, ?_, by simpa using .inl k1⟩, fun j hj => ?_⟩
  ·rw [get_alloc_lt (by simp only [size_put,size_kill]; omega), get_put_ne (by rintro rfl; exact hS k1), get_kill (fun hm => hS (k4 k hm))]
  ·exact get_alloc_eq (by simp only [size_put,size_kill])
  ·simp only [size_alloc,size_put,size_kill]
   rcases hj with hj | rfl
   ·have := g.own j hj; omega
   ·omega
end
structure Rx {α : Type} (k : Nat) (E : Enc α) (H : AHeap) (a : Option Addr) (l : List α) : Prop where
 rw : Rw E H a l
 ne : l ≠ [] → ∀ b o s, a = some ⟨b, o, s⟩ → b ≠ k
theorem Rx.frx {α : Type} {E : Enc α} {l : List α} {k : Nat} {a : Option Addr} (h : Rx k E H a l) (f : FrX k H H') : Rx k E H' a l := ⟨⟨fun hl => by
 obtain ⟨b, o, c, h1, h2, h3, h4⟩ := h.rw.get hl
 exact ⟨b, o, c, h1, Nat.lt_of_lt_of_le h2 f.size, by rw [f.same b h2 (h.ne hl _ _ _ h1)]; exact h3, h4⟩⟩, h.ne⟩
theorem Rx.fr {α : Type} {E : Enc α} {l : List α} {k : Nat} {a : Option Addr} (h : Rx k E H a l) (f : Fr H H') : Rx k E H' a l := ⟨h.rw.fr f, h.ne⟩
structure PkIn (M : Int) (p : Pk) (r : Int) : Prop where
 s : 1 ≤ p.s ∧ p.s ≤ M
 w : 0 ≤ p.w ∧ p.w ≤ p.s ∧ p.w ≤ 3
 o : 0 ≤ p.o ∧ p.o ≤ p.s
 f : 0 ≤ p.f ∧ p.f ≤ p.o
 re : p.f ≤ r ∧ r ≤ p.w
 c : p.o - p.f ≤ p.s - r
structure MP (H H' : AHeap) (k : Nat) (a : Option Addr) (bs : List Int) (cap : Nat) (M n : Int) (i : Nat) (ps : List Pk) (rs : List Int) (S1 S2 : Nat → Prop) (v1 v2 : Value) (e : VT) : Prop where
 g19 : gt 120 e 19 = .int .i64 (i : Nat)
 g18 : gt 120 e 18 = .int .i64 n
 g9 : gt 120 e 9 = v2
 g8 : gt 120 e 8 = .pointer (some ⟨H.size + 1, 0, none⟩)
 g6 : gt 120 e 6 = .pointer (some ⟨H.size, 0, none⟩)
 g2 : gt 120 e 2 = .int .i64 M
 g0 : gt 120 e 0 = .pointer (some ⟨k, 0, none⟩)
 chu : Chu H' k a bs cap
 fr : FrX k H H'
 sz : H.size + 1 < H'.size
 b8 : H'.get (H.size + 1) = .rw [v1, .slice none 0 0, .int .i64 0] 25 false []
 b6 : H'.get H.size = .rw [.slice none 0 0, .slice none 0 0, .int .i64 0] 25 false []
 r1 : Gw H' (H.size + 1) S1 v1 i (pkE.fl ps) 87 4
 r2 : Gw H' (H.size + 1) S2 v2 i (intE.fl rs) 3 1
 dj : ∀ j, S1 j → ¬ S2 j
 l1 : ps.length = i
 l2 : rs.length = i
 ok : ∀ (j : Nat) (p : Pk) (r : Int), ps[j]? = some p → rs[j]? = some r → PkIn M p r
section
variable {k cap i j : Nat} {a : Option Addr} {bs : List Int} {M n : Int} {ps : List Pk} {rs : List Int} {S1 S2 : Nat → Prop} {v1 v2 : Value} {e e' : VT}
theorem MP.next (I : MP H H' k a bs cap M n i ps rs S1 S2 v1 v2 e) (hc : Chu H'' k a bs cap) (hk : k < H.size) (hs : H'.size ≤ H''.size) (f : ∀ q, q < H'.size → q ≠ k → (q < H.size ∨ q = H.size ∨ q = H.size + 1 ∨ S1 q ∨ S2 q) → H''.get q = H'.get q) (h : Keep 120 [0, 2, 6, 8, 9, 18, 19] e e') : MP H H'' k a bs cap M n i ps rs S1 S2 v1 v2 e' where
 g19 := (h 19 (by decide)).trans I.g19
 g18 := (h 18 (by decide)).trans I.g18
 g9 := (h 9 (by decide)).trans I.g9
 g8 := (h 8 (by decide)).trans I.g8
 g6 := (h 6 (by decide)).trans I.g6
 g2 := (h 2 (by decide)).trans I.g2
 g0 := (h 0 (by decide)).trans I.g0
 chu := hc
 fr := ⟨Nat.le_trans I.fr.size hs, fun q h1 h2 => (f q (Nat.lt_of_lt_of_le h1 I.fr.size) h2 (.inl h1)).trans (I.fr.same q h1 h2)⟩
 sz := Nat.lt_of_lt_of_le I.sz hs
 b8 := (f _ I.sz (by omega) (.inr (.inr (.inl rfl)))).trans I.b8
 b6 := (f _ (by have := I.sz; omega) (by omega) (.inr (.inl rfl))).trans I.b6
 r1 := I.r1.same hs fun q hq => f q (I.r1.own q hq).2 (by have := (I.r1.own q hq).1; omega) (.inr (.inr (.inr (.inl hq))))
 r2 := I.r2.same hs fun q hq => f q (I.r2.own q hq).2 (by have := (I.r2.own q hq).1; omega) (.inr (.inr (.inr (.inr hq))))
 dj := I.dj
 l1 := I.l1
 l2 := I.l2
 ok := I.ok
theorem MP.frx (I : MP H H' k a bs cap M n i ps rs S1 S2 v1 v2 e) (hk : k < H.size) (hc : Chu H'' k a bs cap) (f : FrX k H' H'') (h : Keep 120 [0, 2, 6, 8, 9, 18, 19] e e') : MP H H'' k a bs cap M n i ps rs S1 S2 v1 v2 e' :=
 I.next hc hk f.size (fun q h1 h2 _ => f.same q h1 h2) h
theorem MP.put {c : List Value} {ty : TypeId} {al : List Nat} (I : MP H H' k a bs cap M n i ps rs S1 S2 v1 v2 e) (hk : k < H.size) (hj : H.size + 1 < j) (hb : H'.get j = .rw c ty false al) (n1 : ¬ S1 j) (n2 : ¬ S2 j) (blk : ABlk) : MP H (H'.put j blk) k a bs cap M n i ps rs S1 S2 v1 v2 e :=
 I.next (I.chu.other (by omega) (fun c' e => by rw [hb] at e; cases e)) hk (by rw [size_put]; exact Nat.le_refl _) (fun q h1 h2 h3 => get_put_ne (by
  rcases h3 with h | h | h | h | h
  ·omega
  ·omega
  ·omega
  ·exact fun e => n1 (e ▸ h)
  ·exact fun e => n2 (e ▸ h))) (Keep.refl _ _ _)
theorem MP.new (I : MP H H' k a bs cap M n i ps rs S1 S2 v1 v2 e) (hj : H'.size ≤ j) : ¬ S1 j ∧ ¬ S2 j := ⟨fun h => by have := (I.r1.own j h).2; omega, fun h => by have := (I.r2.own j h).2; omega⟩
end
end Go.Am.K
namespace Go.Am.K
open Go.Proofs
variable {T : Tab} {P : Program} {N L : Nat} {H H' H'' : AHeap} {Q : Bool → Value → AHeap → Prop}
theorem st_apS_49 : apS tabA 49 = some (3, 1, 8) := by kernel_rfl
section
variable {k cap i j : Nat} {a : Option Addr} {bs : List Int} {M n : Int} {ps : List Pk} {rs : List Int} {S1 S2 : Nat → Prop} {v1 v2 : Value} {e e' : VT}
theorem Chu.again (h : Chu H k a bs cap) (f : FrX k H H'') (hb : ∃ u s : Int, H''.get k = .rw [.slice a bs.length cap, .int .i64 u, .int .u64 s] 145 false [] ∧ 0 ≤ u ∧ u ≤ bs.length ∧ 0 ≤ s ∧ s < 18446744073709551616) : Chu H'' k a bs cap where
 lt := Nat.lt_of_lt_of_le h.lt f.size
 blk := hb
 row hne := by
  obtain ⟨b, o, c, h1, h2, h3, h4⟩ := h.row hne
  obtain ⟨u, s, h5, _⟩ := h.blk
  exact ⟨b, o, c, h1, Nat.lt_of_lt_of_le h2 f.size, by rw [f.same b h2 (fun e => by subst e; rw [h5] at h3; cases h3)]; exact h3, h4⟩
 byte := h.byte
 len := h.len
end
end Go.Am.K
