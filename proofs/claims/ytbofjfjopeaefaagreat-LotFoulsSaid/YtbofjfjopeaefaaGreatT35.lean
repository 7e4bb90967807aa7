import Derived.Test.YtbofjfjopeaefaaGreatT34
import Derived.Test.YtbofjfjopeaefaaGreatT31
import Derived.Test.YtbofjfjopeaefaaGreatT16
import Derived.Test.YtbofjfjopeaefaaGreatT33
set_option linter.unusedSimpArgs false
set_option linter.unusedVariables false
namespace Go.Am.K
open Go.Proofs
variable {T : Tab} {P : Program} {N L : Nat} {H : AHeap} {Q : Bool → Value → AHeap → Prop}
theorem c67 {n lo hi : Int} : acall tabA (aexec tabA Tryz.prog (N + 20)) 85 [.int .i64 n, .int .i64 lo, .int .i64 hi] H = some (true, .bool (off n lo hi), H, H.size) := by
 refine call_quiet (k := 15) (rs := [.tmp 6]) rfl fn_85 rfl rfl rfl ?_ rfl
 unfold off
 cases hA : decide (n < lo)
 ·simp (disch:=first|(simp only [yk,seval];done)|omega|(simp only [yz]<;>omega)|fail) only [↓yp,yA,ys0,ys1,seval,fitB,newC,endD,endR,hA]
 ·simp (disch:=first|(simp only [yk,seval];done)|omega|(simp only [yz]<;>omega)|fail) only [↓yp,yA,ys0,ys1,seval,fitB,newC,endD,endR,hA]
section
variable {a a' : Option Addr} {cap cap' : Nat} {ps : List Pk} {gs : List Gd} {lots n : Int}
structure StOk (ps : List Pk) (gs : List Gd) (lots : Int) : Prop where
 l1 : 1 ≤ ps.length
 l4 : ps.length ≤ 4
 g4 : gs.length ≤ 4
 pb : ps.all Pk.isB = true
 gb : gs.all Gd.isB = true
 lo : 0 ≤ lots ∧ lots ≤ 3
 od : ordB gs = true
 sp : ∀ p ∈ ps, p.f ≤ p.hi
theorem Pk.isB_ok {p : Pk} (h : p.isB = true) : p.Ok := by
 unfold Pk.isB wi at h
 simp only [Bool.and_eq_true,decide_eq_true_eq] at h
 exact ⟨h.1, h.2.1, h.2.2.1, h.2.2.2⟩
theorem chkS_ok (h : chkS ps gs lots = 0) : StOk ps gs lots := by
 unfold chkS at h
 cases h1 : chk1 ps gs
 ·cases h2 : chk2 ps gs lots
  ·cases h3 : ordB gs
   ·rw [h1, h2, h3] at h; cases h
   ·cases h4 : ps.all fun p => !decide (p.hi < p.f)
    ·rw [h1, h2, h3, h4] at h; cases h
    ·unfold chk1 wi at h1
     unfold chk2 wi at h2
     simp only [Bool.or_eq_false_iff,Bool.not_eq_false',Bool.and_eq_true,decide_eq_true_eq,decide_eq_false_iff_not] at h1 h2
     refine ⟨by omega, by omega, by omega, h2.1.1, h2.1.2, h2.2, h3, fun p hp => ?_⟩
     have := List.all_eq_true.1 h4 p hp
     simp at this
     exact this
  ·rw [h1, h2] at h; cases h
 ·rw [h1] at h; cases h
end
end Go.Am.K
namespace Go.Am.K
open Go.Proofs
variable {T : Tab} {P : Program} {N L : Nat} {H : AHeap} {Q : Bool → Value → AHeap → Prop}
section
variable {a a' : Option Addr} {cap cap' : Nat} {ps : List Pk} {gs : List Gd} {lots n y : Int}
end
end Go.Am.K
namespace Go.Am.K
open Go.Proofs
variable {T : Tab} {P : Program} {N L : Nat} {H H' H'' : AHeap} {Q : Bool → Value → AHeap → Prop}
structure Gw (H : AHeap) (tb : Nat) (S : Nat → Prop) (v : Value) (i : Nat) (cs : List Value) (el z : Nat) : Prop where
 nil : i = 0 → v = .slice none 0 0
 cons : i ≠ 0 → ∃ b al, v = .slice (some ⟨b, 0, none⟩) i (OPEN + z) ∧ S b ∧ H.get b = .rw cs el true al ∧ (∀ j ∈ al, S j)
 own : ∀ j, S j → tb < j ∧ j < H.size
section
variable {tb i el z by' b cap : Nat} {S : Nat → Prop} {v sv : Value} {cs news : List Value}
theorem Gw.same (g : Gw H tb S v i cs el z) (h : H.size ≤ H'.size) (hs : ∀ j, S j → H'.get j = H.get j) : Gw H' tb S v i cs el z :=
 ⟨g.nil, fun h0 => by
  obtain ⟨b, al, h1, h2, h3, h4⟩ := g.cons h0
  exact ⟨b, al, h1, h2, by rw [hs b h2]; exact h3, h4⟩, fun j hj => ⟨(g.own j hj).1, Nat.lt_of_lt_of_le (g.own j hj).2 h⟩⟩
theorem Gw.fr (g : Gw H tb S v i cs el z) (f : Fr H H') : Gw H' tb S v i cs el z := g.same f.size fun j hj => f.same j (g.own j hj).2
theorem Gw.frx {k : Nat} (g : Gw H tb S v i cs el z) (hk : ¬ S k) (f : FrX k H H') : Gw H' tb S v i cs el z := g.same f.size fun j hj => f.same j (g.own j hj).2 (by rintro rfl; exact hk hj)
theorem Gw.put {j : Nat} (g : Gw H tb S v i cs el z) (hj : ¬ S j) (blk : ABlk) : Gw (H.put j blk) tb S v i cs el z := g.same (by rw [size_put]; exact Nat.le_refl _) fun q hq => get_put_ne (by rintro rfl; exact hj hq)
theorem Gw.none : Gw H tb (fun _ => False) (.slice none 0 0) 0 [] el z := ⟨fun _ => rfl, fun h => absurd rfl h, fun _ h => h.elim⟩
theorem gw_append {ty : TypeId} (hs : apS tabA ty = some (el, z, by')) (g : Gw H tb S sv i cs el z) (htb : tb < H.size) (hcs : cs.length = i * z) (hx : srcCells H ⟨b, 0, none⟩ (1 * z) = some news) (hb : (i + 1) * by' ≤ 140737488355328) (hn : i + 1 ≤ 9223372036854775807)
  (h1 : oneCells news = true) (hL : L ≤ tb) (hq : ∀ a' c' H', H.size < H'.size → (∀ j, j < H.size → ¬ S j → H'.get j = H.get j) → Gw H' tb (fun j => S j ∨ j = H.size) (.slice a' (i + 1) c') (i + 1) (cs ++ news) el z → Q false (.slice a' (i + 1) c') H') : apK tabA H ty sv (.slice (some ⟨b, 0, none⟩) 1 cap) L Q := by
 by_cases hi : i = 0
 ·subst hi
  rw [g.nil rfl, apK_nil hs hx (by omega) (by omega) (by omega) h1, andK_of _ (by omega)]
  refine hq _ _ _ (by simp only [size_alloc]; omega) (fun k hk _ => get_alloc_lt (by omega)) ⟨fun h => by omega, fun _ => ⟨H.size, [], rfl, .inr rfl, ?_, by simp⟩, fun j hj => ?_⟩
  ·have : cs = [] := List.length_eq_zero_iff.1 (by omega)
   subst this
   exact get_alloc_same
  ·rcases hj with hj | rfl
   ·have := g.own j hj
    simp only [size_alloc]; omega
   ·simp only [size_alloc]; omega
 ·obtain ⟨b₀, al, rfl, k1, k3, k4⟩ := g.cons hi
  have k2 := (g.own _ k1).1
  rw [apK_more hs hx (by omega) (by exact hb) (by omega) h1 k3 hcs rfl, andK_of _ (le_minAl (by omega) (fun j hj => by have := (g.own j (k4 j hj)).1; omega))]
  refine hq _ _ _ (by simp only [size_alloc,size_put,size_kill]; omega) (fun k hk hS => ?_) ⟨fun h => by omega, fun _ => ⟨H.size, [b₀], rfl, .inr rfl, ?_, by simpa using .inl k1⟩, fun j hj => ?_⟩
  ·rw [get_alloc_lt (by simp only [size_put,size_kill]; omega), get_put_ne (by rintro rfl; exact hS k1), get_kill (fun hm => hS (k4 k hm))]
  ·exact get_alloc_eq (by simp only [size_put,size_kill])
  ·simp only [size_alloc,size_put,size_kill]
   rcases hj with hj | rfl
   ·have := g.own j hj; omega
   ·omega
end
structure Rx {α : Type} (k : Nat) (E : Enc α) (H : AHeap) (a : Option Addr) (l : List α) : Prop where
 rw : Rw E H a l
 ne : l ≠ [] → ∀ b o s, a = some ⟨b, o, s⟩ → b ≠ k
theorem Rx.frx {α : Type} {E : Enc α} {l : List α} {k : Nat} {a : Option Addr} (h : Rx k E H a l) (f : FrX k H H') : Rx k E H' a l := ⟨⟨fun hl => by
 obtain ⟨b, o, c, h1, h2, h3, h4⟩ := h.rw.get hl
 exact ⟨b, o, c, h1, Nat.lt_of_lt_of_le h2 f.size, by rw [f.same b h2 (h.ne hl _ _ _ h1)]; exact h3, h4⟩⟩, h.ne⟩
theorem Rx.fr {α : Type} {E : Enc α} {l : List α} {k : Nat} {a : Option Addr} (h : Rx k E H a l) (f : Fr H H') : Rx k E H' a l := ⟨h.rw.fr f, h.ne⟩
theorem Gw.rx {α : Type} {E : Enc α} {l : List α} {k tb c el : Nat} {S : Nat → Prop} {a : Option Addr} (g : Gw H tb S (.slice a l.length c) l.length (E.fl l) el E.z) (hk : ¬ S k) : Rx k E H a l := ⟨⟨fun hne => by
 obtain ⟨b, al, h1, h2, h4, h5⟩ := g.cons (by simpa using hne)
 cases h1
 exact (Rw.of (r := []) (g.own _ h2).2 (by rw [h4]; rfl) (by rw [List.append_nil])).get hne⟩, fun hne b o s e => by
 obtain ⟨b', al, h1, h2, h4, h5⟩ := g.cons (by simpa using hne)
 cases h1
 cases e
 exact fun e => hk (by rw [← e]; exact h2)⟩
structure PkIn (M : Int) (p : Pk) (r : Int) : Prop where
 s : 1 ≤ p.s ∧ p.s ≤ M
 w : 0 ≤ p.w ∧ p.w ≤ p.s ∧ p.w ≤ 3
 o : 0 ≤ p.o ∧ p.o ≤ p.s
 f : 0 ≤ p.f ∧ p.f ≤ p.o
 re : p.f ≤ r ∧ r ≤ p.w
 c : p.o - p.f ≤ p.s - r
structure MP (H H' : AHeap) (k : Nat) (a : Option Addr) (bs : List Int) (cap : Nat) (M n : Int) (i : Nat) (ps : List Pk) (rs : List Int) (S1 S2 : Nat → Prop) (v1 v2 : Value) (e : VT) : Prop where
 g19 : gt 120 e 19 = .int .i64 (i : Nat)
 g18 : gt 120 e 18 = .int .i64 n
 g9 : gt 120 e 9 = v2
 g8 : gt 120 e 8 = .pointer (some ⟨H.size + 1, 0, none⟩)
 g6 : gt 120 e 6 = .pointer (some ⟨H.size, 0, none⟩)
 g2 : gt 120 e 2 = .int .i64 M
 g0 : gt 120 e 0 = .pointer (some ⟨k, 0, none⟩)
 chu : Chu H' k a bs cap
 fr : FrX k H H'
 sz : H.size + 1 < H'.size
 b8 : H'.get (H.size + 1) = .rw [v1, .slice none 0 0, .int .i64 0] 25 false []
 b6 : H'.get H.size = .rw [.slice none 0 0, .slice none 0 0, .int .i64 0] 25 false []
 r1 : Gw H' (H.size + 1) S1 v1 i (pkE.fl ps) 76 4
 r2 : Gw H' (H.size + 1) S2 v2 i (intE.fl rs) 3 1
 dj : ∀ j, S1 j → ¬ S2 j
 l1 : ps.length = i
 l2 : rs.length = i
 ok : ∀ (j : Nat) (p : Pk) (r : Int), ps[j]? = some p → rs[j]? = some r → PkIn M p r
section
variable {k cap i j : Nat} {a : Option Addr} {bs : List Int} {M n : Int} {ps : List Pk} {rs : List Int} {S1 S2 : Nat → Prop} {v1 v2 : Value} {e e' : VT}
theorem MP.next (I : MP H H' k a bs cap M n i ps rs S1 S2 v1 v2 e) (hc : Chu H'' k a bs cap) (hk : k < H.size) (hs : H'.size ≤ H''.size) (f : ∀ q, q < H'.size → q ≠ k → (q < H.size ∨ q = H.size ∨ q = H.size + 1 ∨ S1 q ∨ S2 q) → H''.get q = H'.get q) (h : Keep 120 [0, 2, 6, 8, 9, 18, 19] e e') : MP H H'' k a bs cap M n i ps rs S1 S2 v1 v2 e' where
 g19 := (h 19 (by decide)).trans I.g19
 g18 := (h 18 (by decide)).trans I.g18
 g9 := (h 9 (by decide)).trans I.g9
 g8 := (h 8 (by decide)).trans I.g8
 g6 := (h 6 (by decide)).trans I.g6
 g2 := (h 2 (by decide)).trans I.g2
 g0 := (h 0 (by decide)).trans I.g0
 chu := hc
 fr := ⟨Nat.le_trans I.fr.size hs, fun q h1 h2 => (f q (Nat.lt_of_lt_of_le h1 I.fr.size) h2 (.inl h1)).trans (I.fr.same q h1 h2)⟩
 sz := Nat.lt_of_lt_of_le I.sz hs
 b8 := (f _ I.sz (by omega) (.inr (.inr (.inl rfl)))).trans I.b8
 b6 := (f _ (by have := I.sz; omega) (by omega) (.inr (.inl rfl))).trans I.b6
 r1 := I.r1.same hs fun q hq => f q (I.r1.own q hq).2 (by have := (I.r1.own q hq).1; omega) (.inr (.inr (.inr (.inl hq))))
 r2 := I.r2.same hs fun q hq => f q (I.r2.own q hq).2 (by have := (I.r2.own q hq).1; omega) (.inr (.inr (.inr (.inr hq))))
 dj := I.dj
 l1 := I.l1
 l2 := I.l2
 ok := I.ok
theorem MP.frx (I : MP H H' k a bs cap M n i ps rs S1 S2 v1 v2 e) (hk : k < H.size) (hc : Chu H'' k a bs cap) (f : FrX k H' H'') (h : Keep 120 [0, 2, 6, 8, 9, 18, 19] e e') : MP H H'' k a bs cap M n i ps rs S1 S2 v1 v2 e' :=
 I.next hc hk f.size (fun q h1 h2 _ => f.same q h1 h2) h
theorem MP.put {c : List Value} {ty : TypeId} {al : List Nat} (I : MP H H' k a bs cap M n i ps rs S1 S2 v1 v2 e) (hk : k < H.size) (hj : H.size + 1 < j) (hb : H'.get j = .rw c ty false al) (n1 : ¬ S1 j) (n2 : ¬ S2 j) (blk : ABlk) : MP H (H'.put j blk) k a bs cap M n i ps rs S1 S2 v1 v2 e :=
 I.next (I.chu.other (by omega) (fun c' e => by rw [hb] at e; cases e)) hk (by rw [size_put]; exact Nat.le_refl _) (fun q h1 h2 h3 => get_put_ne (by
  rcases h3 with h | h | h | h | h
  ·omega
  ·omega
  ·omega
  ·exact fun e => n1 (e ▸ h)
  ·exact fun e => n2 (e ▸ h))) (Keep.refl _ _ _)
theorem MP.new (I : MP H H' k a bs cap M n i ps rs S1 S2 v1 v2 e) (hj : H'.size ≤ j) : ¬ S1 j ∧ ¬ S2 j := ⟨fun h => by have := (I.r1.own j h).2; omega, fun h => by have := (I.r2.own j h).2; omega⟩
end
end Go.Am.K
namespace Go.Am.K
open Go.Proofs
variable {T : Tab} {P : Program} {N L : Nat} {H H' H'' : AHeap} {Q : Bool → Value → AHeap → Prop}
theorem st_apS_26 : apS tabA 26 = some (3, 1, 8) := by kernel_rfl
section
variable {k cap i j : Nat} {a : Option Addr} {bs : List Int} {M n : Int} {ps : List Pk} {rs : List Int} {S1 S2 : Nat → Prop} {v1 v2 : Value} {e e' : VT}
theorem Chu.again (h : Chu H k a bs cap) (f : FrX k H H'') (hb : ∃ u s : Int, H''.get k = .rw [.slice a bs.length cap, .int .i64 u, .int .u64 s] 181 false [] ∧ 0 ≤ u ∧ u ≤ bs.length ∧ 0 ≤ s ∧ s < 18446744073709551616) : Chu H'' k a bs cap where
 lt := Nat.lt_of_lt_of_le h.lt f.size
 blk := hb
 row hne := by
  obtain ⟨b, o, c, h1, h2, h3, h4⟩ := h.row hne
  obtain ⟨u, s, h5, _⟩ := h.blk
  exact ⟨b, o, c, h1, Nat.lt_of_lt_of_le h2 f.size, by rw [f.same b h2 (fun e => by subst e; rw [h5] at h3; cases h3)]; exact h3, h4⟩
 byte := h.byte
 len := h.len
end
end Go.Am.K
namespace Go.Am.K
open Go.Proofs
variable {T : Tab} {P : Program} {N L : Nat} {H H' H'' : AHeap} {Q : Bool → Value → AHeap → Prop}
structure MG (H H' : AHeap) (k : Nat) (a : Option Addr) (bs : List Int) (cap : Nat) (M m : Int) (i np : Nat) (ps : List Pk) (rs : List Int) (gs : List Gd) (S1 S2 S3 : Nat → Prop) (v1 v2 v3 : Value) (e : VT) : Prop where
 g96 : gt 120 e 96 = .int .i64 (i : Nat)
 g95 : gt 120 e 95 = .int .i64 m
 g9 : gt 120 e 9 = v2
 g8 : gt 120 e 8 = .pointer (some ⟨H.size + 1, 0, none⟩)
 g6 : gt 120 e 6 = .pointer (some ⟨H.size, 0, none⟩)
 g0 : gt 120 e 0 = .pointer (some ⟨k, 0, none⟩)
 chu : Chu H' k a bs cap
 fr : FrX k H H'
 sz : H.size + 1 < H'.size
 b8 : H'.get (H.size + 1) = .rw [v1, v3, .int .i64 0] 25 false []
 b6 : H'.get H.size = .rw [.slice none 0 0, .slice none 0 0, .int .i64 0] 25 false []
 r1 : Gw H' (H.size + 1) S1 v1 np (pkE.fl ps) 76 4
 r2 : Gw H' (H.size + 1) S2 v2 np (intE.fl rs) 3 1
 r3 : Gw H' (H.size + 1) S3 v3 i (gdE.fl gs) 78 2
 d13 : ∀ j, S1 j → ¬ S3 j
 d23 : ∀ j, S2 j → ¬ S3 j
 l1 : ps.length = np
 l2 : rs.length = np
 ok : ∀ (j : Nat) (p : Pk) (r : Int), ps[j]? = some p → rs[j]? = some r → PkIn M p r
section
variable {k cap i j np : Nat} {a : Option Addr} {bs : List Int} {M n m fo pr : Int} {ps : List Pk} {rs : List Int} {gs : List Gd} {S1 S2 S3 : Nat → Prop} {v1 v2 v3 : Value} {e e' : VT}
theorem MG.next (I : MG H H' k a bs cap M m i np ps rs gs S1 S2 S3 v1 v2 v3 e) (hc : Chu H'' k a bs cap) (hk : k < H.size) (f : FrX k H' H'') (h : Keep 120 [0, 6, 8, 9, 95, 96] e e') : MG H H'' k a bs cap M m i np ps rs gs S1 S2 S3 v1 v2 v3 e' where
 g96 := (h 96 (by decide)).trans I.g96
 g95 := (h 95 (by decide)).trans I.g95
 g9 := (h 9 (by decide)).trans I.g9
 g8 := (h 8 (by decide)).trans I.g8
 g6 := (h 6 (by decide)).trans I.g6
 g0 := (h 0 (by decide)).trans I.g0
 chu := hc
 fr := I.fr.trans f
 sz := Nat.lt_of_lt_of_le I.sz f.size
 b8 := (f.same _ I.sz (by omega)).trans I.b8
 b6 := (f.same _ (by have := I.sz; omega) (by omega)).trans I.b6
 r1 := I.r1.frx (fun h => by have := (I.r1.own _ h).1; omega) f
 r2 := I.r2.frx (fun h => by have := (I.r2.own _ h).1; omega) f
 r3 := I.r3.frx (fun h => by have := (I.r3.own _ h).1; omega) f
 d13 := I.d13
 d23 := I.d23
 l1 := I.l1
 l2 := I.l2
 ok := I.ok
end
end Go.Am.K
namespace Go.Am.K
open Go.Proofs
variable {T : Tab} {P : Program} {N L : Nat} {H H' H'' : AHeap} {Q : Bool → Value → AHeap → Prop}
section
variable {k cap i j np : Nat} {a : Option Addr} {bs : List Int} {M n m fo pr : Int} {ps : List Pk} {rs : List Int} {gs : List Gd} {S1 S2 S3 : Nat → Prop} {v1 v2 v3 : Value} {e e' : VT}
structure Mk (k : Nat) (P M : Int) (ps : List Pk) (gs : List Gd) (rs : List Int) (lots : Int) : Prop where
 l1 : 1 ≤ ps.length
 lP : (ps.length : Int) ≤ P
 lr : rs.length = ps.length
 ok : ∀ (j : Nat) (p : Pk) (r : Int), ps[j]? = some p → rs[j]? = some r → PkIn M p r
 g1 : 1 ≤ gs.length
 g3 : gs.length ≤ 3
 ord : ordB gs = true
 gok : ∀ g ∈ gs, (0 ≤ g.fo ∧ g.fo ≤ 100) ∧ (1 ≤ g.pr ∧ g.pr ≤ 100)
 lots : 1 ≤ lots ∧ lots ≤ 3
 fst : ∀ g, gs[0]? = some g → 40 ≤ g.pr
end
end Go.Am.K
namespace Go.Am.K
open Go.Proofs
variable {T : Tab} {P : Program} {N L : Nat} {H : AHeap} {Q : Bool → Value → AHeap → Prop}
section
variable {a b c d : Int}
end
theorem und119 : tabA.und 120 = some (.array 4 3) := by kernel_rfl
theorem und122 : tabA.und 114 = some (.map 120 3) := by kernel_rfl
theorem nfind_key {a b c d : Int} {es : List (Value × Value × Nat)} {q : Option Int} (h : nfind a b c d es = some q) : ∃ j, aFindKey tabA Tryz.prog 120 (.agg ⟨tv [a, b, c, d]⟩) es = some (q.map fun n => (j, .int .i64 n)) := by
 unfold aFindKey
 rw [und119]
 cases es with
 | nil => cases h; exact ⟨0, rfl⟩
 | cons e es =>
  have : aFindNow (.array 4 3) (.agg ⟨tv [a, b, c, d]⟩) (e :: es) 0 = none := rfl
  simp only [this]
  exact nfind_ok 0 h
theorem inf3 : ∃ i z, tabA.inf 3 = some i ∧ i.zero = some z ∧ z = .int .i64 0 := ⟨Tryz.t3, .int .i64 0, by kernel_rfl, by kernel_rfl, rfl⟩
section
variable {ex : Exec} {t : Operand → Option Value} {x ix y : Operand} {k j : Nat} {s : List Int} {es : List (Value × Value × Nat)} {clock : Nat}
theorem A_lookN {q : Option Int} (hx : t x = some (.map (some k))) (hi : t ix = some (.agg ⟨tv s⟩)) (hb : H.get k = .map es clock) (hs4 : s.length = 4) (hk : aFindKey tabA Tryz.prog 120 (.agg ⟨tv s⟩) es = some (q.map fun n => (j, .int .i64 n))) (hL : L ≤ H.size) (hq : Q true (.tuple ⟨[.int .i64 (q.getD 0), .bool q.isSome]⟩) H) :
  A tabA Tryz.prog ex t H L (.lookup 114 x ix true) Q := by
 obtain ⟨i, z, z1, z2, z3⟩ := inf3
 have hgz : gr z = true := by rw [z3]; rfl
 unfold A
 show (match still (aLookup tabA Tryz.prog t H 114 x ix true) with
  | some (b, v, H', m) => L ≤ m ∧ Q b v H'
  | none => False)
 have hgk : gr (.agg ⟨tv s⟩) = true := gr_tv _
 unfold aLookup
 simp only [und122,hx,hi,aMapOf,hb,hgk,cond_true,ckTv hs4,hk]
 cases q with
 | none =>
  simp only [Option.map_none,z1,z2,hgz,cond_true]
  exact ⟨hL, by rw [z3]; exact hq⟩
 | some n => exact ⟨hL, hq⟩
theorem A_updN {n : Int} (hx : t x = some (.map (some k))) (hi : t ix = some (.agg ⟨tv s⟩)) (hy : t y = some (.int .i64 n)) (hb : H.get k = .map es clock) (hs4 : s.length = 4) (hk : aFindKey tabA Tryz.prog 120 (.agg ⟨tv s⟩) es = some none) (hL : L ≤ k) (hq : Q false undef (H.put k (.map (es ++ [(.agg ⟨tv s⟩, .int .i64 n, clock)]) (clock + 1)))) :
  A tabA Tryz.prog ex t H L (.mapUpdate 114 x ix y) Q := by
 unfold A
 show (match moves (aUpdate tabA Tryz.prog t H 114 x ix y) with
  | some (b, v, H', m) => L ≤ m ∧ Q b v H'
  | none => False)
 have hgk : gr (.agg ⟨tv s⟩) = true := gr_tv _
 unfold aUpdate
 simp only [und122,hx,hi,hy,hb,hgk,cond_true,ckTv hs4,hk]
 exact ⟨hL, hq⟩
end
end Go.Am.K
namespace Go.Am.K
open Go.Proofs
variable {T : Tab} {P : Program} {N L : Nat} {H : AHeap} {Q : Bool → Value → AHeap → Prop}
def flK (v : Value) (H : AHeap) (L : Nat) (Q : Bool → Value → AHeap → Prop) (_ : Tag Q := .mk) : Prop := match still (aField tabA (fun _ => some v) H 78 (.tmp 0) 1) with
 | some (b, v, H', m) => L ≤ m ∧ Q b v H'
 | none => False
theorem A_fld {ex : Exec} {t : Operand → Option Value} {x : Operand} : A tabA Tryz.prog ex t H L (.field 78 x 1) Q = optK (t x) fun v => flK v H L Q := by
 unfold A
 show (match still (aField tabA t H 78 x 1) with
  | some (b, v, H', m) => L ≤ m ∧ Q b v H'
  | none => False) = _
 cases hs : t x with
 | none =>
  have : aField tabA t H 78 x 1 = none := by unfold aField; rw [hs]
  rw [this]; rfl
 | some v =>
  have : aField tabA t H 78 x 1 = aField tabA (fun _ => some v) H 78 (.tmp 0) 1 := by unfold aField; rw [hs]
  rw [this]; rfl
theorem flK_of {u w : Int} : flK (.agg ⟨[.int .i64 u, .int .i64 w]⟩) H L Q = andK (L ≤ H.size) (Q true (.int .i64 w) H) := by
 have : aField tabA (fun _ => some (.agg ⟨[.int .i64 u, .int .i64 w]⟩)) H 78 (.tmp 0) 1 = some (.int .i64 w, H, H.size) := by kernel_rfl
 unfold flK
 rw [this]; rfl
section
variable {a a' : Option Addr} {cap cap' k clock : Nat} {ps : List Pk} {gs : List Gd} {m : List Int} {lo : Value} {es : List (Value × Value × Nat)} {n : Int} {j : Nat}
theorem c93k (hm : m.length = 4) (hb : H.get k = .map es clock) (hk : k < H.size) (hf : aFindKey tabA Tryz.prog 120 (.agg ⟨tv m⟩) es = some (some (j, .int .i64 n))) :
  acall tabA (aexec tabA Tryz.prog (N + 800)) 77 [.agg ⟨[.slice a ps.length cap, .slice a' gs.length cap', lo, .map (some k)]⟩, .agg ⟨tv m⟩] H = some (true, .int .i64 n, H, H.size) := by
 refine call_quiet (k := 28) (rs := [.tmp 4]) rfl fn_77 rfl rfl rfl ?_ rfl
 have hmp : part (tv m) 0 5 = some (.agg ⟨tv m⟩) := part_tv hm
 simp (disch:=first|(simp only [yk,seval];done)|omega|(simp only [yz]<;>omega)|fail) only [↓yp,yA,ys0,ys1,seval,fitB,newC,endD,endR,st_faS_116_1,st_ldS_114,hmp]
 refine A_lookN (es := es) (clock := clock) (q := some n) (j := j) (s := m) (k := k) (by simp (disch:=first|(simp only [yk,seval];done)|omega|(simp only [yz]<;>omega)|fail) only [↓yp,yA,ys0,ys1,seval,fitB,newC,endD,endR]) (by simp (disch:=first|(simp only [yk,seval];done)|omega|(simp only [yz]<;>omega)|fail) only [↓yp,yA,ys0,ys1,seval,fitB,newC,endD,endR]) (by rw [get_alloc_lt (by first|omega|(simp only [yz]<;>omega)), get_alloc_lt (by first|omega|(simp only [yz]<;>omega))]; exact hb) hm hf (by first|omega|(simp only [yz]<;>omega)) ?_
 simp (disch:=first|(simp only [yk,seval];done)|omega|(simp only [yz]<;>omega)|fail) only [↓yp,yA,ys0,ys1,seval,fitB,newC,endD,endR,st_faS_116_1,st_ldS_114,Option.getD_some,Option.isSome_some]
theorem c93n (hs : Rw pkE H a ps) (hl : ps.length ≤ 4) (hpk : ∀ p ∈ ps, p.Ok) (hgs : Rw gdE H a' gs) (hgl : gs.length ≤ 4) (hgk : ∀ g ∈ gs, g.Ok) (hm : m.length = 4) (hmb : ∀ n ∈ m, 0 ≤ n ∧ n ≤ 6) (ho : sameV 5 lo lo = true) (hb : H.get k = .map es clock) (hk : k < H.size) (hf : aFindKey tabA Tryz.prog 120 (.agg ⟨tv m⟩) es = some none) :
  resK (acall tabA (aexec tabA Tryz.prog (N + 800)) 77 [.agg ⟨[.slice a ps.length cap, .slice a' gs.length cap', lo, .map (some k)]⟩, .agg ⟨tv m⟩] H) k fun _ v H' => v = .int .i64 (isum m * (grd ps gs m).pr) ∧ H' = ((H.alloc (.rw [.slice a ps.length cap, .slice a' gs.length cap', lo, .map (some k)] 116 false [])).alloc (.rw (tv m) 120 false [])).put k (.map (es ++ [(.agg ⟨tv m⟩, .int .i64 (isum m * (grd ps gs m).pr), clock)]) (clock + 1)) := by
 refine call_keep tabA_fr (R := fun v H' => v = .int .i64 (isum m * (grd ps gs m).pr) ∧ H' = ((H.alloc (.rw [.slice a ps.length cap, .slice a' gs.length cap', lo, .map (some k)] 116 false [])).alloc (.rw (tv m) 120 false [])).put k (.map (es ++ [(.agg ⟨tv m⟩, .int .i64 (isum m * (grd ps gs m).pr), clock)]) (clock + 1))) (k := 28) (rs := [.tmp 4]) rfl fn_77 rfl rfl rfl (by omega) ?_ (fun v H' h => h) ?_
 rotate_left
 ·rintro v H' ⟨rfl, rfl⟩ _ fr
  have h1 := fr.same k hk
  rw [get_put_same (by first|omega|(simp only [yz]<;>omega)), hb] at h1
  simp only [ABlk.map.injEq] at h1
  have h2 := congrArg List.length h1.1
  simp at h2
 have hmp : part (tv m) 0 5 = some (.agg ⟨tv m⟩) := part_tv hm
 have hst := fun n => sl_tv (n := n) m
 have fr : Fr H ((H.alloc (.rw [.slice a ps.length cap, .slice a' gs.length cap', lo, .map (some k)] 116 false [])).alloc (.rw (tv m) 120 false [])) := by (repeat (first | exact Fr.refl _ | assumption | refine Fr.allocd ?_ _ | refine Fr.put ?_ (by first | omega | (simp only [yz] <;> omega)) _))
 have h76 := fun (N : Nat) (H : AHeap) => c76 (N := N) (H := H) (t := m) hm fun x hx => by have := hmb x hx; omega
 have h92 := fun (N : Nat) => c92 (N := N) (cap := cap) (cap' := cap') (lo := lo) (mp := .map (some k)) (hs.fr fr) hl hpk (hgs.fr fr) hgl hgk hm hmb ho sv_map
 simp (disch:=first|(simp only [yk,seval];done)|omega|(simp only [yz]<;>omega)|fail) only [↓yp,yA,ys0,ys1,seval,fitB,newC,endD,endR,st_faS_116_1,st_ldS_114,hmp]
 refine A_lookN (es := es) (clock := clock) (q := none) (j := 0) (s := m) (k := k) (by simp (disch:=first|(simp only [yk,seval];done)|omega|(simp only [yz]<;>omega)|fail) only [↓yp,yA,ys0,ys1,seval,fitB,newC,endD,endR]) (by simp (disch:=first|(simp only [yk,seval];done)|omega|(simp only [yz]<;>omega)|fail) only [↓yp,yA,ys0,ys1,seval,fitB,newC,endD,endR]) (by rw [get_alloc_lt (by first|omega|(simp only [yz]<;>omega)), get_alloc_lt (by first|omega|(simp only [yz]<;>omega))]; exact hb) hm hf (by first|omega|(simp only [yz]<;>omega)) ?_
 simp (disch:=first|(simp only [yk,seval];done)|omega|(simp only [yz]<;>omega)|fail) only [↓yp,yA,ys0,ys1,seval,fitB,newC,endD,endR,st_faS_116_1,st_ldS_114,Option.getD_none,Option.isSome_none]
 simp only [Gd.enc] at h92
 have hp := grd_ok (ps := ps) (m := m) hgk
 have hi := m_sum hm hmb
 have hmul : 0 ≤ isum m * (grd ps gs m).pr ∧ isum m * (grd ps gs m).pr ≤ 2400 := ⟨Int.mul_nonneg hi.1 hp.1, by have := Int.mul_le_mul hi.2 hp.2 hp.1 (by omega : (0:Int) ≤ 24); omega⟩
 have hw : w64 (isum m * (grd ps gs m).pr) = isum m * (grd ps gs m).pr := w64_of (by omega)
 refine W_draw [] rfl (by kernel_rfl) (by kernel_rfl) (by first|omega|(simp only [yz]<;>omega)) ?_
 simp (disch:=first|(simp only [yk,seval];done)|omega|(simp only [yz]<;>omega)|fail) only [↓yp,yA,ys0,ys1,seval,fitB,newC,endD,endR,st_faS_116_1,st_ldS_114,hmp,h76,h92,hst,ho,sv_map,hw,A_fld,flK_of]
 refine A_updN (es := es) (clock := clock) (s := m) (k := k) (n := isum m * (grd ps gs m).pr) (by simp (disch:=first|(simp only [yk,seval];done)|omega|(simp only [yz]<;>omega)|fail) only [↓yp,yA,ys0,ys1,seval,fitB,newC,endD,endR]) (by simp (disch:=first|(simp only [yk,seval];done)|omega|(simp only [yz]<;>omega)|fail) only [↓yp,yA,ys0,ys1,seval,fitB,newC,endD,endR]) (by simp (disch:=first|(simp only [yk,seval];done)|omega|(simp only [yz]<;>omega)|fail) only [↓yp,yA,ys0,ys1,seval,fitB,newC,endD,endR]) (by rw [get_alloc_lt (by first|omega|(simp only [yz]<;>omega)), get_alloc_lt (by first|omega|(simp only [yz]<;>omega))]; exact hb) hm hf (by first|omega|(simp only [yz]<;>omega)) ?_
 simp (disch:=first|(simp only [yk,seval];done)|omega|(simp only [yz]<;>omega)|fail) only [↓yp,yA,ys0,ys1,seval,fitB,newC,endD,endR]
end
end Go.Am.K
namespace Go.Am.K
open Go.Proofs
variable {T : Tab} {P : Program} {N L : Nat} {H H' H'' : AHeap} {Q : Bool → Value → AHeap → Prop}
section
variable {ex : Exec} {t : Operand → Option Value}
theorem A_copy_of {ty : TypeId} {tys : List TypeId} {d s : Operand} {z b o dl dc sl sc : Nat} {sp : Option Nat} {sa : Addr} {l c : List Value} {e : TypeId} {op : Bool} (hz : esS T ty = some z) (hd : t d = some (.slice (some ⟨b, o, sp⟩) dl dc)) (hs : t s = some (.slice (some sa) sl sc))
  (hsrc : srcCells H sa (Nat.min sl dl * z) = some l) (hb : H.get b = .rw c e op []) (hf : o + l.length ≤ c.length) (h1 : oneCells l = true) (hL : L ≤ b) (hq : Q false (.int .i64 (Int.ofNat (Nat.min sl dl))) (H.put b (.rw (newC o l c) e op []))) : A T P ex t H L (.call ⟨.builtin .copy, [d, s].toArray, (ty :: tys).toArray⟩) Q := by
 unfold A
 show (match moves (aCopy T t H (ty :: tys).toArray [d, s].toArray) with
  | some (b, v, H', m) => L ≤ m ∧ Q b v H'
  | none => False)
 unfold esS at hz
 unfold aCopy
 simp only
 cases hu : T.und ty with
 | none => rw [hu] at hz; cases hz
 | some dd =>
  rw [hu] at hz
  cases dd with
  | slice el =>
   simp only at hz
   unfold inS at hz
   cases hi : T.inf el with
   | none => rw [hi] at hz; cases hz
   | some i =>
    rw [hi] at hz
    simp only [Option.some.injEq] at hz
    subst hz
    simp only [hd,hs,hi,hsrc]
    unfold aWrite
    rw [hb]
    have hle : Nat.ble (o + l.length) c.length = true := Nat.ble_eq_true_of_le hf
    simp only [hle,h1,Bool.and_self,cond_true]
    exact ⟨hL, hq⟩
  | _ => cases hz
theorem A_mkMap {r : Nat} : A T P ex t H L (.makeMap r none) Q = andK (L ≤ H.size) (Q false (.map (some H.size)) (H.alloc (.map [] 0))) := by
 unfold A
 show (match fresh H (newMap none) with
  | some (b, v, H', m) => L ≤ m ∧ Q b v H'
  | none => False) = _
 rfl
end
structure LotOk (ps : List Pk) (l : List Int) : Prop where
 len : l.length = ps.length
 ok : ∀ (j : Nat) (n : Int) (p : Pk), l[j]? = some n → ps[j]? = some p → 0 ≤ n ∧ n ≤ p.s
section
variable {k cap pc cap' : Nat} {a pa pa' : Option Addr} {bs : List Int} {ps : List Pk} {lots : Value}
end
end Go.Am.K
