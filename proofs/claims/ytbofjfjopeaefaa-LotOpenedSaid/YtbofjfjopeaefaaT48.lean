import Derived.Test.YtbofjfjopeaefaaT47
set_option linter.unusedSimpArgs false
set_option linter.unusedVariables false
namespace Go.Am.K
open Go.Proofs
variable {T : Tab} {P : Program} {N L : Nat} {H H' H'' : AHeap} {Q : Bool → Value → AHeap → Prop}
section
variable {a a' : Option Addr} {cap cap' : Nat} {ps : List Pk} {gs : List Gd} {lots : Int}
end
end Go.Am.K
namespace Go.Am.K
open Go.Proofs
variable {T : Tab} {P : Program} {N L : Nat} {H H' H'' : AHeap} {Q : Bool → Value → AHeap → Prop}
section
variable {a a' : Option Addr} {cap cap' : Nat} {ps : List Pk} {gs : List Gd} {lots : Int}
end
end Go.Am.K
namespace Go.Am.K
open Go.Proofs
variable {T : Tab} {P : Program} {N L : Nat} {H H' H'' : AHeap} {Q : Bool → Value → AHeap → Prop}
section
variable {a a' : Option Addr} {cap cap' : Nat} {ps : List Pk} {gs : List Gd} {lots n : Int}
end
end Go.Am.K
namespace Go.Am.K
open Go.Proofs
variable {T : Tab} {P : Program} {N L : Nat} {H H' H'' : AHeap} {Q : Bool → Value → AHeap → Prop}
structure Ob {α : Type} (E : Enc α) (ty tb : Nat) (H : AHeap) (x : Option Addr) (l : List α) : Prop where
 cons : l ≠ [] → ∃ k, x = some ⟨k, 0, none⟩ ∧ tb ≤ k ∧ k < H.size ∧ H.get k = .rw (E.fl l) ty true []
theorem Ob.fr {α : Type} {E : Enc α} {ty tb : Nat} {x : Option Addr} {l : List α} (h : Ob E ty tb H x l) (f : Fr H H') : Ob E ty tb H' x l := ⟨fun hl => by
 obtain ⟨k, h1, h2, h3, h4⟩ := h.cons hl
 exact ⟨k, h1, h2, Nat.lt_of_lt_of_le h3 f.size, (f.same k h3).trans h4⟩⟩
theorem Ob.low {α : Type} {E : Enc α} {ty tb tb' : Nat} {x : Option Addr} {l : List α} (h : Ob E ty tb H x l) (hb : tb' ≤ tb) : Ob E ty tb' H x l := ⟨fun hl => by
 obtain ⟨k, h1, h2, h3, h4⟩ := h.cons hl
 exact ⟨k, h1, Nat.le_trans hb h2, h3, h4⟩⟩
theorem Ob.put {α : Type} {E : Enc α} {ty tb j : Nat} {x : Option Addr} {l : List α} {blk : ABlk} (h : Ob E ty tb H x l) (hj : j < tb) : Ob E ty tb (H.put j blk) x l := ⟨fun hl => by
 obtain ⟨k, h1, h2, h3, h4⟩ := h.cons hl
 exact ⟨k, h1, h2, by rw [size_put]; exact h3, by rw [get_put_ne (by omega)]; exact h4⟩⟩
theorem Ob.rw {α : Type} {E : Enc α} {ty tb : Nat} {x : Option Addr} {l : List α} (h : Ob E ty tb H x l) : Rw E H x l := ⟨fun hl => by
 obtain ⟨k, h1, h2, h3, h4⟩ := h.cons hl
 exact ((h1 ▸ Rw.of (r := []) h3 (by rw [h4]; rfl) (by rw [List.append_nil])) : Rw E H x l).get hl⟩
theorem nil23 : binV tabA Try.prog .eql 23 (.tmp 3) (.const (.slice none 0 0)) (.slice none 0 0) (.slice none 0 0) = some (.bool true) := by kernel_rfl
section
variable {a a' : Option Addr} {cap cap' : Nat} {ps : List Pk} {gs : List Gd} {lots n : Int}
set_option maxHeartbeats 4000000 in
theorem c114x {i : Nat} {p : Pk} (hs : Rw pkE H a ps) (hg : Rw gdE H a' gs) (hgn : gs = [] → a' = none ∧ cap' = 0) (hp4 : ps.length ≤ 6) (hg4 : gs.length ≤ 6) (hi : i < ps.length) (hL : L ≤ H.size) {M : Nat} (hM : 200 ≤ M)
  (hq : ∀ k c x' c' H', Fr H H' → Ob pkE 87 H.size H' (some ⟨k, 0, none⟩) (ps.set i p) → Ob gdE 77 H.size H' x' gs → Q false (.agg ⟨[.slice (some ⟨k, 0, none⟩) ps.length c, .slice x' gs.length c', .int .i64 lots]⟩) H') :
  resK (acall tabA (aexec tabA Try.prog M) 114 [.agg ⟨[.slice a ps.length cap, .slice a' gs.length cap', .int .i64 lots]⟩, .int .i64 (i : Nat), .agg ⟨p.enc⟩] H) L Q := by
 obtain ⟨N, rfl⟩ : ∃ N, M = N + 200 := ⟨M - 200, by omega⟩
 refine call_fls (R := fun v H' => ∃ k c x' c', v = .agg ⟨[.slice (some ⟨k, 0, none⟩) ps.length c, .slice x' gs.length c', .int .i64 lots]⟩ ∧ Fr H H' ∧ Ob pkE 87 H.size H' (some ⟨k, 0, none⟩) (ps.set i p) ∧ Ob gdE 77 H.size H' x' gs) (k := 21) (rs := [.cell 6 25]) rfl fn_114 rfl rfl rfl hL ?_ ?_ ?_
 rotate_left
 ·rintro v H' ⟨k, c, k', c', rfl, -⟩; rfl
 ·rintro v H' ⟨k, c, k', c', rfl, h1, h2, h3⟩
  exact hq _ _ _ _ _ h1 h2 h3
 have hp1 : ps ≠ [] := by rintro rfl; simp at hi
 have fr0 : Fr H (((H.alloc (.rw [.slice a ps.length cap, .slice a' gs.length cap', .int .i64 lots] 25 false [])).alloc (.rw p.enc 87 false [])).alloc (.rw [.slice none 0 0, .slice none 0 0, .int .i64 0] 25 false [])) := by (repeat (first | exact Fr.refl _ | assumption | refine Fr.allocd ?_ _ | refine Fr.put ?_ (by first | omega | (simp only [yz] <;> omega)) _))
 have hset : newC (i * 4) p.enc (pkE.fl ps) = pkE.fl (ps.set i p) := newC_fl (E := pkE) hi
 have hfit : decide (i * 4 + 4 ≤ (pkE.fl ps).length) = true := by
  rw [fl_length]
  simp only [decide_eq_true_eq]
  show i * 4 + 4 ≤ ps.length * 4
  omega
 simp only [Pk.enc] at fr0 hset
 by_cases hg1 : gs = []
 ·obtain ⟨rfl, rfl⟩ := hgn hg1
  subst hg1
  have h128 : ∀ {N : Nat} {H : AHeap}, acall tabA (aexec tabA Try.prog (N + 60)) 128 [.slice none 0 0] H = some (true, .slice none 0 0, H, H.size) := by
   intro N H
   refine call_quiet (k := 8) (rs := [.tmp 2]) rfl fn_128 rfl rfl rfl ?_ rfl
   simp (disch:=first|(simp only [yk,seval];done)|omega|(simp only [yz]<;>omega)|fail) only [↓yp,yq0,yq1,yq2,yq3,yq4,yl,ys0,ys1,seval,fitB,newC,endD,endR,yrg,nil23]
  simp only [List.length_nil] at fr0 ⊢
  simp (disch:=first|(simp only [yk,seval];done)|omega|(simp only [yz]<;>omega)|fail) only [↓yp,yq0,yq1,yq2,yq3,yq4,yl,ys0,ys1,seval,fitB,newC,endD,endR,yrg,Pk.enc]
  refine W_drawR (pl := []) [2, 7, 9] [(1, 1), (1, 2), (1, 3), (4, 3), (5, 3)] (planK_of rfl) (by kernel_rfl) (by kernel_rfl) (by kernel_rfl) (by first|omega|(simp only [yz]<;>omega)) ?_
  simp (disch:=first|(simp only [yk,seval];done)|omega|(simp only [yz]<;>omega)|fail) only [↓yp,yq0,yq1,yq2,yq3,yq4,yl,ys0,ys1,seval,fitB,newC,endD,endR,yrg]
  refine c127 (hs.fr fr0) hp1 (by omega) (by first|omega|(simp only [yz]<;>omega)) (by omega) ?_
  intro k cc H1 fr1 k1 k2 k3
  have f1 := fr1.size
  have s1 := fr1.same
  simp only [size_alloc] at f1 s1 k1
  simp (disch:=first|(simp only [yk,seval];done)|omega|(simp only [yz]<;>omega)|fail) only [↓yp,yq0,yq1,yq2,yq3,yq4,yl,ys0,ys1,seval,fitB,newC,endD,endR,yrg,s1,h128]
  simp (disch:=first|(simp only [yk,seval];done)|omega|(simp only [yz]<;>omega)|fail) only [↓yp,yq0,yq1,yq2,yq3,yq4,yl,ys0,ys1,seval,fitB,newC,endD,endR,yrg,s1,A_indexSlice st_esS_22,k3,hset,hfit]
  refine ⟨k, cc, none, 0, rfl, ?_, ⟨fun _ => ⟨k, rfl, by omega, by (first | omega | (simp only [yz] <;> omega)), ?_⟩⟩, ⟨fun h => absurd rfl h⟩⟩
  ·have h12 : Fr H H1 := fr0.trans fr1
   exact Fr.put (Fr.put (Fr.put (Fr.put h12 (by omega) _) (by omega) _) (by omega) _) (by omega) _
  ·rw [get_put_ne (by omega), get_put_same (by first|omega|(simp only [yz]<;>omega)), ← hset]; rfl
 simp (disch:=first|(simp only [yk,seval];done)|omega|(simp only [yz]<;>omega)|fail) only [↓yp,yq0,yq1,yq2,yq3,yq4,yl,ys0,ys1,seval,fitB,newC,endD,endR,yrg,Pk.enc]
 refine W_drawR (pl := []) [2, 5, 7, 9] [(1, 1), (1, 2), (1, 3), (1, 4), (4, 2), (4, 3), (4, 4)] (planK_of rfl) (by kernel_rfl) (by kernel_rfl) (by kernel_rfl) (by first|omega|(simp only [yz]<;>omega)) ?_
 simp (disch:=first|(simp only [yk,seval];done)|omega|(simp only [yz]<;>omega)|fail) only [↓yp,yq0,yq1,yq2,yq3,yq4,yl,ys0,ys1,seval,fitB,newC,endD,endR,yrg]
 refine c127 (hs.fr fr0) hp1 (by omega) (by first|omega|(simp only [yz]<;>omega)) (by omega) ?_
 intro k cc H1 fr1 k1 k2 k3
 have f1 := fr1.size
 have s1 := fr1.same
 simp only [size_alloc] at f1 s1 k1
 simp (disch:=first|(simp only [yk,seval];done)|omega|(simp only [yz]<;>omega)|fail) only [↓yp,yq0,yq1,yq2,yq3,yq4,yl,ys0,ys1,seval,fitB,newC,endD,endR,yrg,s1]
 refine c128 (hg.fr (fr0.trans fr1)) hg1 (by omega) (by first|omega|(simp only [yz]<;>omega)) (by omega) ?_
 intro k' cc' H2 fr2 k1' k2' k3'
 have f2 := fr2.size
 have s2 := fr2.same
 have hH1 : k < H2.size := by omega
 have k32 : H2.get k = .rw (pkE.fl ps) 87 true [] := (s2 k k2).trans k3
 simp (disch:=first|(simp only [yk,seval];done)|omega|(simp only [yz]<;>omega)|fail) only [↓yp,yq0,yq1,yq2,yq3,yq4,yl,ys0,ys1,seval,fitB,newC,endD,endR,yrg,s2,s1]
 simp (disch:=first|(simp only [yk,seval];done)|omega|(simp only [yz]<;>omega)|fail) only [↓yp,yq0,yq1,yq2,yq3,yq4,yl,ys0,ys1,seval,fitB,newC,endD,endR,yrg,s2,s1,A_indexSlice st_esS_22,k3,hset,hfit]
 refine ⟨k, cc, some ⟨k', 0, none⟩, cc', rfl, ?_, ⟨fun _ => ⟨k, rfl, by omega, by (first | omega | (simp only [yz] <;> omega)), ?_⟩⟩, ⟨fun _ => ⟨k', rfl, by omega, by (first | omega | (simp only [yz] <;> omega)), ?_⟩⟩⟩
 ·have h12 : Fr H H2 := (fr0.trans fr1).trans fr2
  exact Fr.put (Fr.put (Fr.put (Fr.put h12 (by omega) _) (by omega) _) (by omega) _) (by omega) _
 ·rw [get_put_ne (by omega), get_put_same (by first|omega|(simp only [yz]<;>omega)), ← hset]; rfl
 ·rw [get_put_ne (by omega), get_put_ne (by omega), get_put_ne (by omega), get_put_ne (by omega), k3']
def opn (p : Pk) (y z : Int) : Pk := ⟨p.s, p.w, p.o + y, p.f + z⟩
set_option maxHeartbeats 4000000 in
theorem c71 {i : Nat} {p : Pk} {y z : Int} (hs : Rw pkE H a ps) (hg : Rw gdE H a' gs) (hgn : gs = [] → a' = none ∧ cap' = 0) (hp4 : ps.length ≤ 6) (hg4 : gs.length ≤ 6) (hp : ps[i]? = some p) (hok : p.Ok) (hy : 0 ≤ y ∧ y ≤ 6) (hz : 0 ≤ z ∧ z ≤ 6) (hL : L ≤ H.size) {M : Nat} (hM : 300 ≤ M)
  (hq : ∀ k c x' c' H', Fr H H' → Ob pkE 87 H.size H' (some ⟨k, 0, none⟩) (ps.set i (opn p y z)) → Ob gdE 77 H.size H' x' gs → Q false (.agg ⟨[.slice (some ⟨k, 0, none⟩) ps.length c, .slice x' gs.length c', .int .i64 lots]⟩) H') :
  resK (acall tabA (aexec tabA Try.prog M) 71 [.agg ⟨[.slice a ps.length cap, .slice a' gs.length cap', .int .i64 lots]⟩, .int .i64 (i : Nat), .int .i64 y, .int .i64 z] H) L Q := by
 obtain ⟨N, rfl⟩ : ∃ N, M = N + 300 := ⟨M - 300, by omega⟩
 refine call_fls (R := fun v H' => ∃ k c x' c', v = .agg ⟨[.slice (some ⟨k, 0, none⟩) ps.length c, .slice x' gs.length c', .int .i64 lots]⟩ ∧ Fr H H' ∧ Ob pkE 87 H.size H' (some ⟨k, 0, none⟩) (ps.set i (opn p y z)) ∧ Ob gdE 77 H.size H' x' gs) (k := 29) (rs := [.cell 8 25]) rfl fn_71 rfl rfl rfl hL ?_ ?_ ?_
 rotate_left
 ·rintro v H' ⟨k, c, k', c', rfl, -⟩; rfl
 ·rintro v H' ⟨k, c, k', c', rfl, h1, h2, h3⟩
  exact hq _ _ _ _ _ h1 h2 h3
 have hi := (List.getElem?_eq_some_iff.1 hp).1
 obtain ⟨b, o, c, rfl, hb, hc, hqq⟩ := hs.at_ hp
 have q : part c (o + i * 4) 5 = some (.agg ⟨p.enc⟩) := part_of hqq rfl
 simp only [Pk.enc] at q
 obtain ⟨z1, z2, z3, z4⟩ := hok
 have w1 : w64 (p.o + y) = p.o + y := w64_of (by omega)
 have w2 : w64 (p.f + z) = p.f + z := w64_of (by omega)
 simp (disch:=first|(simp only [yk,seval];done)|omega|(simp only [yz]<;>omega)|fail) only [↓yp,yq0,yq1,yq2,yq3,yq4,yl,ys0,ys1,seval,fitB,newC,endD,endR,yrg,A_indexSlice st_esS_22,hc,q,w1,w2]
 refine c114x (p := opn p y z) (hs.fr (by repeat first|exact Fr.refl _|assumption|refine Fr.allocd ?_ _|refine Fr.put ?_ (by first|omega|(simp only [yz]<;>omega)) _)) (hg.fr (by repeat first|exact Fr.refl _|assumption|refine Fr.allocd ?_ _|refine Fr.put ?_ (by first|omega|(simp only [yz]<;>omega)) _)) hgn hp4 hg4 hi (by first|omega|(simp only [yz]<;>omega)) (by omega) ?_
 intro k c1 x' c2 H2 fr2 o1 o2
 have f2 := fr2.size
 have s2 := fr2.same
 simp only [size_alloc,size_put] at f2 s2 o1 o2
 have b4 : H2.get (H.size + 1) = .rw [.slice none 0 0, .slice none 0 0, .int .i64 0] 25 false [] := by rw [s2 _ (by omega)]; simp (disch:=first|(simp only [yk,seval];done)|omega|(simp only [yz]<;>omega)|fail) only [yg,seval]
 have h1 : oneCells [.slice (some ⟨k, 0, none⟩) ps.length c1, .slice x' gs.length c2, .int .i64 lots] = true := by cases x' <;> rfl
 simp (disch:=first|(simp only [yk,seval];done)|omega|(simp only [yz]<;>omega)|fail) only [↓yp,yq0,yq1,yq2,yq3,yq4,yl,ys0,ys1,seval,fitB,newC,endD,endR,yrg,b4,h1]
 refine ⟨k, c1, x', c2, rfl, Fr.put (Fr.trans (by repeat first|exact Fr.refl _|assumption|refine Fr.allocd ?_ _|refine Fr.put ?_ (by first|omega|(simp only [yz]<;>omega)) _) fr2) (by omega) _, (o1.put (by omega)).low (by omega), (o2.put (by omega)).low (by omega)⟩
end
end Go.Am.K
