/- A town without a street, and what Heaviest and Later of the program tell. -/
import Derived.Test.YtdjklljbninmgaaT39
import Derived.Test.YtdjklljbninmgaaT37
import Derived.Test.YtdjklljbninmgaaT40
import Derived.Test.YtdjklljbninmgaaT32
import Derived.Test.YtdjklljbninmgaaT26
import Derived.Test.YtdjklljbninmgaaT50
set_option linter.unusedSimpArgs false
set_option linter.unusedVariables false
namespace Go.Am
open Go.Proofs
variable {T : Tab} {P : Program} {N L : Nat} {H : AHeap} {Q : Bool → Value → AHeap → Prop}
section
variable {a : Option Addr} {cap : Nat} {l : List Str} {C w ld : Int}
end
end Go.Am
/- Heaviest and Later of the reference. -/
namespace Go.Am
open Go.Proofs
variable {T : Tab} {P : Program} {N L : Nat} {H : AHeap} {Q : Bool → Value → AHeap → Prop}
section
variable {a : Option Addr} {cap : Nat} {l : List Str} {C w ld : Int}
end
end Go.Am
/- Later of the reference. -/
namespace Go.Am
open Go.Proofs
variable {T : Tab} {P : Program} {N L : Nat} {H : AHeap} {Q : Bool → Value → AHeap → Prop}
section
variable {a : Option Addr} {cap : Nat} {l : List Str} {C w ld : Int}
end
end Go.Am
/- The law StreetCosts. -/
namespace Go.Am
open Go.Proofs
variable {T : Tab} {P : Program} {N L : Nat} {H : AHeap} {Q : Bool → Value → AHeap → Prop}
section
variable {a a1 a2 : Option Addr} {cap cap1 cap2 : Nat} {l : List Str} {C w ld fr to m bm st : Int} {e e' : VT} {H' H'' : AHeap}
theorem hcd (x : Int) : decide (x = x) = true := by simp
end
end Go.Am
/- The law StreetDrives: what is laid. -/
namespace Go.Am
open Go.Proofs
variable {T : Tab} {P : Program} {N L : Nat} {H : AHeap} {Q : Bool → Value → AHeap → Prop}
/-- What the law knows when its own town, that of the reference, and its own legs are laid. -/
structure LaidD (H : AHeap) (a : Option Addr) (cap : Nat) (l : List Str) (C w ld fr to m : Int) (al : Option Addr) (cl : Nat) (ls : List (Int × Bool)) (e : VT) (H' : AHeap) (a1 : Option Addr) (cap1 : Nat) (a2 : Option Addr) (cap2 : Nat) (am : Option Addr) (cm : Nat) : Prop where
  g2 : gt 196 e 2 = .int .i64 fr
  g3 : gt 196 e 3 = .int .i64 to
  g4 : gt 196 e 4 = .int .i64 m
  g5 : gt 196 e 5 = .slice al ls.length cl
  g6 : gt 196 e 6 = .pointer (some ⟨H.size, 0, none⟩)
  g7 : gt 196 e 7 = .pointer (some ⟨H.size + 1, 0, none⟩)
  g13 : gt 196 e 13 = .pointer (some ⟨H.size + 2, 0, none⟩)
  g14 : gt 196 e 14 = .slice am ls.length cm
  g15 : gt 196 e 15 = .pointer (some ⟨H.size + 2 + 1, 0, none⟩)
  fr : Fr H H'
  sz : H.size + 2 + 1 < H'.size
  b6 : H'.get H.size = .rw [.int .i64 C, .slice a l.length cap] 24 false []
  b7 : H'.get (H.size + 1) = .rw [.int .i64 w, .int .i64 ld] 26 false []
  b13 : H'.get (H.size + 2) = .rw [.int .i64 C, .slice a1 l.length cap1] 24 false []
  b15 : H'.get (H.size + 2 + 1) = .rw [.int .i64 C, .slice a2 l.length cap2] 34 false []
  s1 : Sl H' a1 l
  s2 : Sl H' a2 l
  m1 : Lg H' am ls
section
variable {a a1 a2 al am : Option Addr} {cap cap1 cap2 cl cm : Nat} {l : List Str} {C w ld fr to m : Int} {ls : List (Int × Bool)} {e e' : VT} {H' H'' : AHeap}
theorem LaidD.next (I : LaidD H a cap l C w ld fr to m al cl ls e H' a1 cap1 a2 cap2 am cm) (f : Fr H' H'') (h : Keep 196 [2, 3, 4, 5, 6, 7, 13, 14, 15] e e') : LaidD H a cap l C w ld fr to m al cl ls e' H'' a1 cap1 a2 cap2 am cm where
  g2 := (h 2 (by decide)).trans I.g2
  g3 := (h 3 (by decide)).trans I.g3
  g4 := (h 4 (by decide)).trans I.g4
  g5 := (h 5 (by decide)).trans I.g5
  g6 := (h 6 (by decide)).trans I.g6
  g7 := (h 7 (by decide)).trans I.g7
  g13 := (h 13 (by decide)).trans I.g13
  g14 := (h 14 (by decide)).trans I.g14
  g15 := (h 15 (by decide)).trans I.g15
  fr := I.fr.trans f
  sz := Nat.lt_of_lt_of_le I.sz f.size
  b6 := (f.same _ (by have := I.sz; omega)).trans I.b6
  b7 := (f.same _ (by have := I.sz; omega)).trans I.b7
  b13 := (f.same _ (by have := I.sz; omega)).trans I.b13
  b15 := (f.same _ (by have := I.sz; omega)).trans I.b15
  s1 := I.s1.fr f
  s2 := I.s2.fr f
  m1 := I.m1.fr f
theorem Lg.of {k : Nat} {op : Bool} (hk : k < H.size) (h : H.get k = .rw (lgs ls) 28 op []) : Lg H (some ⟨k, 0, none⟩) ls := ⟨fun _ => ⟨k, 0, lgs ls, rfl, hk, by rw [h]; rfl, fun i p hi => by rw [Nat.zero_add]; exact lgs_part hi⟩⟩
theorem Lg.nil : Lg H am [] := ⟨fun h => absurd rfl h⟩
theorem Lg.put {k : Nat} {blk : ABlk} (h : Lg H am ls) (hk : ∀ b o, am = some ⟨b, o, none⟩ → b ≠ k) : Lg (H.put k blk) am ls := ⟨fun hne => by
  obtain ⟨b, o, c, h1, h2, h3, h4⟩ := h.get hne
  exact ⟨b, o, c, h1, by rw [zdf]; exact h2, by rw [zdd (hk b o h1)]; exact h3, h4⟩⟩
set_option maxHeartbeats 4000000 in
set_option maxRecDepth 10000 in
/-- The towns and the legs are laid. -/
theorem c5a {e : VT} {H1 : AHeap} {c : Code} (hs : Sl H a l) (hl : l.length ≤ 18) (hb : Lg H al ls) (hll : ls.length ≤ 65)
    (g2 : gt 196 e 2 = .int .i64 fr) (g3 : gt 196 e 3 = .int .i64 to) (g4 : gt 196 e 4 = .int .i64 m) (g5 : gt 196 e 5 = .slice al ls.length cl) (g6 : gt 196 e 6 = .pointer (some ⟨H.size, 0, none⟩)) (g7 : gt 196 e 7 = .pointer (some ⟨H.size + 1, 0, none⟩))
    (f1 : Fr H H1) (sz1 : H1.size = H.size + 2) (b6 : H1.get H.size = .rw [.int .i64 C, .slice a l.length cap] 24 false []) (b7 : H1.get (H.size + 1) = .rw [.int .i64 w, .int .i64 ld] 26 false []) (hcc : c = sub [true, true, false] (bodyOf Try.f5)) :
    W tabA Try.prog (N + 300) none c H.size ⟨196, e, H1, []⟩ (endK 196 [] fun e' H' => ∃ a1 cap1 a2 cap2 am cm, LaidD H a cap l C w ld fr to m al cl ls e' H' a1 cap1 a2 cap2 am cm) := by
  subst hcc
  simp only [Try.f5,bodyOf,sub_nil,sub_seq0,sub_seq1,sub_block,sub_loop,sub_cond0,sub_cond1]
  by_cases hne : l = []
  · subst hne
    by_cases hn2 : ls = []
    · subst hn2
      simp only [List.length_nil] at g5 b6
      refine W_drawR [8, 10] [(6, 1), (6, 2), (7, 2)] rfl (by kernel_rfl) (by kernel_rfl) (by kernel_rfl) (by (first | omega | (simp only [yz] <;> omega))) ?_
      simp (disch := (first | (simp only [yk,seval]; done) | omega | (simp only [yz] <;> omega) | fail)) only [↓yp,yq0,yq1,yq2,yq3,yq4,yl,ys0,ys1,seval,zed,zee,zfr,zhw,ysu,yrg,ysv,ysw,ysx,ysz,ysa,g5,g6,b6,c19n,c20n,c37n,intZ,sz1]
      refine ⟨none, 0, none, 0, none, 0, ⟨?_, ?_, ?_, ?_, ?_, ?_, ?_, ?_, ?_, ?_, ?_, ?_, ?_, ?_, ?_, ?_, ?_, ?_⟩⟩
      · simp (disch := (first | (simp only [yk,seval]; done) | omega | (simp only [yz] <;> omega) | fail)) only [yg,Nat.reduceAdd,Nat.reduceEqDiff,Nat.reduceLT,g2]
      · simp (disch := (first | (simp only [yk,seval]; done) | omega | (simp only [yz] <;> omega) | fail)) only [yg,Nat.reduceAdd,Nat.reduceEqDiff,Nat.reduceLT,g3]
      · simp (disch := (first | (simp only [yk,seval]; done) | omega | (simp only [yz] <;> omega) | fail)) only [yg,Nat.reduceAdd,Nat.reduceEqDiff,Nat.reduceLT,g4]
      · simp (disch := (first | (simp only [yk,seval]; done) | omega | (simp only [yz] <;> omega) | fail)) only [yg,Nat.reduceAdd,Nat.reduceEqDiff,Nat.reduceLT,g5,List.length_nil]
      · simp (disch := (first | (simp only [yk,seval]; done) | omega | (simp only [yz] <;> omega) | fail)) only [yg,Nat.reduceAdd,Nat.reduceEqDiff,Nat.reduceLT,g6]
      · simp (disch := (first | (simp only [yk,seval]; done) | omega | (simp only [yz] <;> omega) | fail)) only [yg,Nat.reduceAdd,Nat.reduceEqDiff,Nat.reduceLT,g7]
      · simp (disch := (first | (simp only [yk,seval]; done) | omega | (simp only [yz] <;> omega) | fail)) only [yg,Nat.reduceAdd,Nat.reduceEqDiff,Nat.reduceLT,List.length_nil]
      · simp (disch := (first | (simp only [yk,seval]; done) | omega | (simp only [yz] <;> omega) | fail)) only [yg,Nat.reduceAdd,Nat.reduceEqDiff,Nat.reduceLT,List.length_nil]
      · simp (disch := (first | (simp only [yk,seval]; done) | omega | (simp only [yz] <;> omega) | fail)) only [yg,Nat.reduceAdd,Nat.reduceEqDiff,Nat.reduceLT,List.length_nil]
      · exact f1.trans (Fr.put (Fr.put (by (repeat (first | exact Fr.refl _ | assumption | refine Fr.allocd ?_ _ | refine Fr.kill ?_ (by first | assumption | omega) | refine Fr.put ?_ (by first | omega | (simp only [yz] <;> omega)) _))) (by omega) _) (by omega) _)
      · (first | omega | (simp only [yz] <;> omega))
      · simp (disch := (first | (simp only [yk,seval]; done) | omega | (simp only [yz] <;> omega) | fail)) only [yg,Nat.reduceAdd,Nat.reduceEqDiff,Nat.reduceLT,List.length_nil]; exact b6
      · simp (disch := (first | (simp only [yk,seval]; done) | omega | (simp only [yz] <;> omega) | fail)) only [yg,Nat.reduceAdd,Nat.reduceEqDiff,Nat.reduceLT,List.length_nil]; exact b7
      · simp (disch := (first | (simp only [yk,seval]; done) | omega | (simp only [yz] <;> omega) | fail)) only [yg,Nat.reduceAdd,Nat.reduceEqDiff,Nat.reduceLT,List.length_nil]
      · simp (disch := (first | (simp only [yk,seval]; done) | omega | (simp only [yz] <;> omega) | fail)) only [yg,Nat.reduceAdd,Nat.reduceEqDiff,Nat.reduceLT,List.length_nil]
      · exact ⟨fun h => absurd rfl h, fun _ _ _ _ h => absurd rfl h⟩
      · exact ⟨fun h => absurd rfl h, fun _ _ _ _ h => absurd rfl h⟩
      · exact Lg.nil
    · simp only [List.length_nil] at b6
      refine W_drawR [3, 8, 10] [(6, 2), (6, 3), (7, 3)] rfl (by kernel_rfl) (by kernel_rfl) (by kernel_rfl) (by (first | omega | (simp only [yz] <;> omega))) ?_
      simp (disch := (first | (simp only [yk,seval]; done) | omega | (simp only [yz] <;> omega) | fail)) only [↓yp,yq0,yq1,yq2,yq3,yq4,yl,ys0,ys1,seval,zed,zee,zfr,zhw,ysu,yrg,ysv,ysw,ysx,ysz,ysa,g5,g6,b6,c19n,c20n,intZ,sz1]
      refine c37 (hb.fr (f1.trans (by (repeat (first | exact Fr.refl _ | assumption | refine Fr.allocd ?_ _ | refine Fr.kill ?_ (by first | assumption | omega) | refine Fr.put ?_ (by first | omega | (simp only [yz] <;> omega)) _))))) hn2 hll (by (first | omega | (simp only [yz] <;> omega))) (by omega) ?_
      intro k cm H3 f3 q1 q2 q3
      have z3 := f3.size
      have s3 := f3.same
      simp only [zde] at z3 q1
      simp (disch := (first | (simp only [yk,seval]; done) | omega | (simp only [yz] <;> omega) | fail)) only [↓yp,yq0,yq1,yq2,yq3,yq4,yl,ys0,ys1,seval,zed,zee,zfr,zhw,ysu,yrg,ysv,ysw,ysx,ysz,ysa,g5,g6,b6,c19n,c20n,intZ,sz1,s3,List.length_nil]
      refine ⟨none, 0, none, 0, some ⟨k, 0, none⟩, cm, ⟨?_, ?_, ?_, ?_, ?_, ?_, ?_, ?_, ?_, ?_, ?_, ?_, ?_, ?_, ?_, ?_, ?_, ?_⟩⟩
      · simp (disch := (first | (simp only [yk,seval]; done) | omega | (simp only [yz] <;> omega) | fail)) only [yg,Nat.reduceAdd,Nat.reduceEqDiff,Nat.reduceLT,g2]
      · simp (disch := (first | (simp only [yk,seval]; done) | omega | (simp only [yz] <;> omega) | fail)) only [yg,Nat.reduceAdd,Nat.reduceEqDiff,Nat.reduceLT,g3]
      · simp (disch := (first | (simp only [yk,seval]; done) | omega | (simp only [yz] <;> omega) | fail)) only [yg,Nat.reduceAdd,Nat.reduceEqDiff,Nat.reduceLT,g4]
      · simp (disch := (first | (simp only [yk,seval]; done) | omega | (simp only [yz] <;> omega) | fail)) only [yg,Nat.reduceAdd,Nat.reduceEqDiff,Nat.reduceLT,g5,List.length_nil]
      · simp (disch := (first | (simp only [yk,seval]; done) | omega | (simp only [yz] <;> omega) | fail)) only [yg,Nat.reduceAdd,Nat.reduceEqDiff,Nat.reduceLT,g6]
      · simp (disch := (first | (simp only [yk,seval]; done) | omega | (simp only [yz] <;> omega) | fail)) only [yg,Nat.reduceAdd,Nat.reduceEqDiff,Nat.reduceLT,g7]
      · simp (disch := (first | (simp only [yk,seval]; done) | omega | (simp only [yz] <;> omega) | fail)) only [yg,Nat.reduceAdd,Nat.reduceEqDiff,Nat.reduceLT,List.length_nil]
      · simp (disch := (first | (simp only [yk,seval]; done) | omega | (simp only [yz] <;> omega) | fail)) only [yg,Nat.reduceAdd,Nat.reduceEqDiff,Nat.reduceLT,List.length_nil]
      · simp (disch := (first | (simp only [yk,seval]; done) | omega | (simp only [yz] <;> omega) | fail)) only [yg,Nat.reduceAdd,Nat.reduceEqDiff,Nat.reduceLT,List.length_nil]
      · exact f1.trans (Fr.put (Fr.put (Fr.trans (by (repeat (first | exact Fr.refl _ | assumption | refine Fr.allocd ?_ _ | refine Fr.kill ?_ (by first | assumption | omega) | refine Fr.put ?_ (by first | omega | (simp only [yz] <;> omega)) _))) f3) (by omega) _) (by omega) _)
      · (first | omega | (simp only [yz] <;> omega))
      · simp (disch := (first | (simp only [yk,seval]; done) | omega | (simp only [yz] <;> omega) | fail)) only [yg,Nat.reduceAdd,Nat.reduceEqDiff,Nat.reduceLT,s3]; exact b6
      · simp (disch := (first | (simp only [yk,seval]; done) | omega | (simp only [yz] <;> omega) | fail)) only [yg,Nat.reduceAdd,Nat.reduceEqDiff,Nat.reduceLT,s3]; exact b7
      · simp (disch := (first | (simp only [yk,seval]; done) | omega | (simp only [yz] <;> omega) | fail)) only [yg,Nat.reduceAdd,Nat.reduceEqDiff,Nat.reduceLT,s3,List.length_nil]
      · simp (disch := (first | (simp only [yk,seval]; done) | omega | (simp only [yz] <;> omega) | fail)) only [yg,Nat.reduceAdd,Nat.reduceEqDiff,Nat.reduceLT,s3,List.length_nil]
      · exact ⟨fun h => absurd rfl h, fun _ _ _ _ h => absurd rfl h⟩
      · exact ⟨fun h => absurd rfl h, fun _ _ _ _ h => absurd rfl h⟩
      · exact Lg.of (by (first | omega | (simp only [yz] <;> omega))) (by rw [zdd (by omega), zdd (by omega)]; exact q3)
  · by_cases hn2 : ls = []
    · subst hn2
      simp only [List.length_nil] at g5
      refine W_drawR [1, 5, 8, 10] [(6, 3), (6, 4), (7, 4)] rfl (by kernel_rfl) (by kernel_rfl) (by kernel_rfl) (by (first | omega | (simp only [yz] <;> omega))) ?_
      simp (disch := (first | (simp only [yk,seval]; done) | omega | (simp only [yz] <;> omega) | fail)) only [↓yp,yq0,yq1,yq2,yq3,yq4,yl,ys0,ys1,seval,zed,zee,zfr,zhw,ysu,yrg,ysv,ysw,ysx,ysz,ysa,g5,g6,b6,c37n,intZ,sz1]
      refine c19f (hs.fr (f1.trans (by (repeat (first | exact Fr.refl _ | assumption | refine Fr.allocd ?_ _ | refine Fr.kill ?_ (by first | assumption | omega) | refine Fr.put ?_ (by first | omega | (simp only [yz] <;> omega)) _))))) hl hne (by (first | omega | (simp only [yz] <;> omega))) (by omega) ?_
      intro a1 cap1 H3 nw1
      have z3 := nw1.fr.size
      have s3 := nw1.fr.same
      simp only [zde] at z3
      simp (disch := (first | (simp only [yk,seval]; done) | omega | (simp only [yz] <;> omega) | fail)) only [↓yp,yq0,yq1,yq2,yq3,yq4,yl,ys0,ys1,seval,zed,zee,zfr,zhw,ysu,yrg,ysv,ysw,ysx,ysz,ysa,g5,g6,b6,c37n,intZ,sz1,s3,List.length_nil]
      refine c20f ((hs.fr (f1.trans (by (repeat (first | exact Fr.refl _ | assumption | refine Fr.allocd ?_ _ | refine Fr.kill ?_ (by first | assumption | omega) | refine Fr.put ?_ (by first | omega | (simp only [yz] <;> omega)) _))))).fr nw1.fr) hl hne (by (first | omega | (simp only [yz] <;> omega))) (by omega) ?_
      intro a2 cap2 H4 f4 sl4
      have z4 := f4.size
      have s4 := f4.same
      simp (disch := (first | (simp only [yk,seval]; done) | omega | (simp only [yz] <;> omega) | fail)) only [↓yp,yq0,yq1,yq2,yq3,yq4,yl,ys0,ys1,seval,zed,zee,zfr,zhw,ysu,yrg,ysv,ysw,ysx,ysz,ysa,g5,g6,b6,c37n,intZ,sz1,s3,s4]
      refine ⟨a1, cap1, a2, cap2, none, 0, ⟨?_, ?_, ?_, ?_, ?_, ?_, ?_, ?_, ?_, ?_, ?_, ?_, ?_, ?_, ?_, ?_, ?_, ?_⟩⟩
      · simp (disch := (first | (simp only [yk,seval]; done) | omega | (simp only [yz] <;> omega) | fail)) only [yg,Nat.reduceAdd,Nat.reduceEqDiff,Nat.reduceLT,g2]
      · simp (disch := (first | (simp only [yk,seval]; done) | omega | (simp only [yz] <;> omega) | fail)) only [yg,Nat.reduceAdd,Nat.reduceEqDiff,Nat.reduceLT,g3]
      · simp (disch := (first | (simp only [yk,seval]; done) | omega | (simp only [yz] <;> omega) | fail)) only [yg,Nat.reduceAdd,Nat.reduceEqDiff,Nat.reduceLT,g4]
      · simp (disch := (first | (simp only [yk,seval]; done) | omega | (simp only [yz] <;> omega) | fail)) only [yg,Nat.reduceAdd,Nat.reduceEqDiff,Nat.reduceLT,g5,List.length_nil]
      · simp (disch := (first | (simp only [yk,seval]; done) | omega | (simp only [yz] <;> omega) | fail)) only [yg,Nat.reduceAdd,Nat.reduceEqDiff,Nat.reduceLT,g6]
      · simp (disch := (first | (simp only [yk,seval]; done) | omega | (simp only [yz] <;> omega) | fail)) only [yg,Nat.reduceAdd,Nat.reduceEqDiff,Nat.reduceLT,g7]
      · simp (disch := (first | (simp only [yk,seval]; done) | omega | (simp only [yz] <;> omega) | fail)) only [yg,Nat.reduceAdd,Nat.reduceEqDiff,Nat.reduceLT,List.length_nil]
      · simp (disch := (first | (simp only [yk,seval]; done) | omega | (simp only [yz] <;> omega) | fail)) only [yg,Nat.reduceAdd,Nat.reduceEqDiff,Nat.reduceLT,List.length_nil]
      · simp (disch := (first | (simp only [yk,seval]; done) | omega | (simp only [yz] <;> omega) | fail)) only [yg,Nat.reduceAdd,Nat.reduceEqDiff,Nat.reduceLT,List.length_nil]
      · exact f1.trans (Fr.put (Fr.put ((Fr.trans (by (repeat (first | exact Fr.refl _ | assumption | refine Fr.allocd ?_ _ | refine Fr.kill ?_ (by first | assumption | omega) | refine Fr.put ?_ (by first | omega | (simp only [yz] <;> omega)) _))) nw1.fr).trans f4) (by omega) _) (by omega) _)
      · (first | omega | (simp only [yz] <;> omega))
      · simp (disch := (first | (simp only [yk,seval]; done) | omega | (simp only [yz] <;> omega) | fail)) only [yg,Nat.reduceAdd,Nat.reduceEqDiff,Nat.reduceLT,s3,s4]; exact b6
      · simp (disch := (first | (simp only [yk,seval]; done) | omega | (simp only [yz] <;> omega) | fail)) only [yg,Nat.reduceAdd,Nat.reduceEqDiff,Nat.reduceLT,s3,s4]; exact b7
      · simp (disch := (first | (simp only [yk,seval]; done) | omega | (simp only [yz] <;> omega) | fail)) only [yg,Nat.reduceAdd,Nat.reduceEqDiff,Nat.reduceLT,s3,s4]
      · simp (disch := (first | (simp only [yk,seval]; done) | omega | (simp only [yz] <;> omega) | fail)) only [yg,Nat.reduceAdd,Nat.reduceEqDiff,Nat.reduceLT,s3,s4]
      · refine Sl.put (Sl.put (nw1.sl.fr f4) (c := [.int .i64 0, .slice none 0 0]) ?_ (by simp)) (c := [.int .i64 0, .slice none 0 0]) ?_ (by simp) <;> simp (disch := (first | (simp only [yk,seval]; done) | omega | (simp only [yz] <;> omega) | fail)) only [yg,Nat.reduceAdd,Nat.reduceEqDiff,Nat.reduceLT,s3,s4]
      · refine Sl.put (Sl.put sl4 (c := [.int .i64 0, .slice none 0 0]) ?_ (by simp)) (c := [.int .i64 0, .slice none 0 0]) ?_ (by simp) <;> simp (disch := (first | (simp only [yk,seval]; done) | omega | (simp only [yz] <;> omega) | fail)) only [yg,Nat.reduceAdd,Nat.reduceEqDiff,Nat.reduceLT,s3,s4]
      · exact Lg.nil
    · refine W_drawR [1, 3, 5, 8, 10] [(6, 4), (6, 5), (7, 5)] rfl (by kernel_rfl) (by kernel_rfl) (by kernel_rfl) (by (first | omega | (simp only [yz] <;> omega))) ?_
      simp (disch := (first | (simp only [yk,seval]; done) | omega | (simp only [yz] <;> omega) | fail)) only [↓yp,yq0,yq1,yq2,yq3,yq4,yl,ys0,ys1,seval,zed,zee,zfr,zhw,ysu,yrg,ysv,ysw,ysx,ysz,ysa,g5,g6,b6,intZ,sz1]
      refine c19f (hs.fr (f1.trans (by (repeat (first | exact Fr.refl _ | assumption | refine Fr.allocd ?_ _ | refine Fr.kill ?_ (by first | assumption | omega) | refine Fr.put ?_ (by first | omega | (simp only [yz] <;> omega)) _))))) hl hne (by (first | omega | (simp only [yz] <;> omega))) (by omega) ?_
      intro a1 cap1 H3 nw1
      have z3 := nw1.fr.size
      have s3 := nw1.fr.same
      simp only [zde] at z3
      simp (disch := (first | (simp only [yk,seval]; done) | omega | (simp only [yz] <;> omega) | fail)) only [↓yp,yq0,yq1,yq2,yq3,yq4,yl,ys0,ys1,seval,zed,zee,zfr,zhw,ysu,yrg,ysv,ysw,ysx,ysz,ysa,g5,g6,b6,intZ,sz1,s3,List.length_nil]
      refine c37 ((hb.fr (f1.trans (by (repeat (first | exact Fr.refl _ | assumption | refine Fr.allocd ?_ _ | refine Fr.kill ?_ (by first | assumption | omega) | refine Fr.put ?_ (by first | omega | (simp only [yz] <;> omega)) _))))).fr nw1.fr) hn2 hll (by (first | omega | (simp only [yz] <;> omega))) (by omega) ?_
      intro k cm H5 f5 q1 q2 q3
      have z5 := f5.size
      have s5 := f5.same
      simp (disch := (first | (simp only [yk,seval]; done) | omega | (simp only [yz] <;> omega) | fail)) only [↓yp,yq0,yq1,yq2,yq3,yq4,yl,ys0,ys1,seval,zed,zee,zfr,zhw,ysu,yrg,ysv,ysw,ysx,ysz,ysa,g5,g6,b6,intZ,sz1,s3,s5]
      refine c20f (((hs.fr (f1.trans (by (repeat (first | exact Fr.refl _ | assumption | refine Fr.allocd ?_ _ | refine Fr.kill ?_ (by first | assumption | omega) | refine Fr.put ?_ (by first | omega | (simp only [yz] <;> omega)) _))))).fr nw1.fr).fr f5) hl hne (by (first | omega | (simp only [yz] <;> omega))) (by omega) ?_
      intro a2 cap2 H4 f4 sl4
      have z4 := f4.size
      have s4 := f4.same
      simp (disch := (first | (simp only [yk,seval]; done) | omega | (simp only [yz] <;> omega) | fail)) only [↓yp,yq0,yq1,yq2,yq3,yq4,yl,ys0,ys1,seval,zed,zee,zfr,zhw,ysu,yrg,ysv,ysw,ysx,ysz,ysa,g5,g6,b6,intZ,sz1,s3,s5,s4]
      refine ⟨a1, cap1, a2, cap2, some ⟨k, 0, none⟩, cm, ⟨?_, ?_, ?_, ?_, ?_, ?_, ?_, ?_, ?_, ?_, ?_, ?_, ?_, ?_, ?_, ?_, ?_, ?_⟩⟩
      · simp (disch := (first | (simp only [yk,seval]; done) | omega | (simp only [yz] <;> omega) | fail)) only [yg,Nat.reduceAdd,Nat.reduceEqDiff,Nat.reduceLT,g2]
      · simp (disch := (first | (simp only [yk,seval]; done) | omega | (simp only [yz] <;> omega) | fail)) only [yg,Nat.reduceAdd,Nat.reduceEqDiff,Nat.reduceLT,g3]
      · simp (disch := (first | (simp only [yk,seval]; done) | omega | (simp only [yz] <;> omega) | fail)) only [yg,Nat.reduceAdd,Nat.reduceEqDiff,Nat.reduceLT,g4]
      · simp (disch := (first | (simp only [yk,seval]; done) | omega | (simp only [yz] <;> omega) | fail)) only [yg,Nat.reduceAdd,Nat.reduceEqDiff,Nat.reduceLT,g5,List.length_nil]
      · simp (disch := (first | (simp only [yk,seval]; done) | omega | (simp only [yz] <;> omega) | fail)) only [yg,Nat.reduceAdd,Nat.reduceEqDiff,Nat.reduceLT,g6]
      · simp (disch := (first | (simp only [yk,seval]; done) | omega | (simp only [yz] <;> omega) | fail)) only [yg,Nat.reduceAdd,Nat.reduceEqDiff,Nat.reduceLT,g7]
      · simp (disch := (first | (simp only [yk,seval]; done) | omega | (simp only [yz] <;> omega) | fail)) only [yg,Nat.reduceAdd,Nat.reduceEqDiff,Nat.reduceLT,List.length_nil]
      · simp (disch := (first | (simp only [yk,seval]; done) | omega | (simp only [yz] <;> omega) | fail)) only [yg,Nat.reduceAdd,Nat.reduceEqDiff,Nat.reduceLT,List.length_nil]
      · simp (disch := (first | (simp only [yk,seval]; done) | omega | (simp only [yz] <;> omega) | fail)) only [yg,Nat.reduceAdd,Nat.reduceEqDiff,Nat.reduceLT,List.length_nil]
      · exact f1.trans (Fr.put (Fr.put (((Fr.trans (by (repeat (first | exact Fr.refl _ | assumption | refine Fr.allocd ?_ _ | refine Fr.kill ?_ (by first | assumption | omega) | refine Fr.put ?_ (by first | omega | (simp only [yz] <;> omega)) _))) nw1.fr).trans f5).trans f4) (by omega) _) (by omega) _)
      · (first | omega | (simp only [yz] <;> omega))
      · simp (disch := (first | (simp only [yk,seval]; done) | omega | (simp only [yz] <;> omega) | fail)) only [yg,Nat.reduceAdd,Nat.reduceEqDiff,Nat.reduceLT,s3,s4,s5]; exact b6
      · simp (disch := (first | (simp only [yk,seval]; done) | omega | (simp only [yz] <;> omega) | fail)) only [yg,Nat.reduceAdd,Nat.reduceEqDiff,Nat.reduceLT,s3,s4,s5]; exact b7
      · simp (disch := (first | (simp only [yk,seval]; done) | omega | (simp only [yz] <;> omega) | fail)) only [yg,Nat.reduceAdd,Nat.reduceEqDiff,Nat.reduceLT,s3,s4,s5]
      · simp (disch := (first | (simp only [yk,seval]; done) | omega | (simp only [yz] <;> omega) | fail)) only [yg,Nat.reduceAdd,Nat.reduceEqDiff,Nat.reduceLT,s3,s4,s5]
      · refine Sl.put (Sl.put ((nw1.sl.fr f5).fr f4) (c := [.int .i64 0, .slice none 0 0]) ?_ (by simp)) (c := [.int .i64 0, .slice none 0 0]) ?_ (by simp) <;> simp (disch := (first | (simp only [yk,seval]; done) | omega | (simp only [yz] <;> omega) | fail)) only [yg,Nat.reduceAdd,Nat.reduceEqDiff,Nat.reduceLT,s3,s4,s5]
      · refine Sl.put (Sl.put sl4 (c := [.int .i64 0, .slice none 0 0]) ?_ (by simp)) (c := [.int .i64 0, .slice none 0 0]) ?_ (by simp) <;> simp (disch := (first | (simp only [yk,seval]; done) | omega | (simp only [yz] <;> omega) | fail)) only [yg,Nat.reduceAdd,Nat.reduceEqDiff,Nat.reduceLT,s3,s4,s5]
      · exact Lg.of (by (first | omega | (simp only [yz] <;> omega))) (by rw [zdd (by omega), zdd (by omega), s4 _ q2]; exact q3)
end
end Go.Am
