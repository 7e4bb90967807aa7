import Derived.Test.YtbofjfjopeaefaaGreatT38
set_option linter.unusedSimpArgs false
set_option linter.unusedVariables false
namespace Go.Am.K
open Go.Proofs
variable {T : Tab} {P : Program} {N L : Nat} {H H' H'' : AHeap} {Q : Bool → Value → AHeap → Prop}
theorem off_wi {n lo hi : Int} : off n lo hi = !wi n lo hi := by
 unfold wi off
 rw [Bool.not_and, ← decide_not, ← decide_not]
 simp only [Int.not_le]
section
variable {a a' : Option Addr} {cap cap' : Nat} {ps : List Pk} {gs : List Gd} {lots : Int}
set_option maxHeartbeats 4000000 in
theorem c17 (hs : Rw pkE H a ps) (hgs : Rw gdE H a' gs) :
  acall tabA (aexec tabA Tryz.prog (N + 500)) 84 [.agg ⟨[.slice a ps.length cap, .slice a' gs.length cap', .int .i64 lots]⟩] H = some (true, .int .i64 (chkS ps gs lots), H, H.size) := by
 refine call_quiet (k := 132) (rs := [.tmp 2]) rfl fn_84 rfl rfl rfl ?_ rfl
 have h67 := fun (N : Nat) (H : AHeap) (n lo hi : Int) => c67 (N := N) (H := H) (n := n) (lo := lo) (hi := hi)
 simp only [off_wi] at h67
 cases hA : wi (ps.length : Int) 1 4
 ·have e : chkS ps gs lots = 3 := by unfold chkS chk1; rw [hA]; rfl
  rw [e]
  simp (disch:=first|(simp only [yk,seval];done)|omega|(simp only [yz]<;>omega)|fail) only [↓yp,yA,ys0,ys1,seval,fitB,newC,endD,endR,yrg,lenV_slice st_esS_31,lenV_slice st_esS_32,h67,hA]
 cases hB : decide (4 < (gs.length : Int))
 rotate_left
 ·have e : chkS ps gs lots = 3 := by unfold chkS chk1; rw [hA, hB]; rfl
  rw [e]
  simp (disch:=first|(simp only [yk,seval];done)|omega|(simp only [yz]<;>omega)|fail) only [↓yp,yA,ys0,ys1,seval,fitB,newC,endD,endR,yrg,lenV_slice st_esS_31,lenV_slice st_esS_32,h67,hA,hB]
 have hl : ps.length ≤ 4 := by unfold wi at hA; simp at hA; omega
 have hgl : gs.length ≤ 4 := by simp at hB; omega
 have e0 : chkS ps gs lots = bif chk2 ps gs lots then 4 else bif ordB gs then bif ps.all fun p => !decide (p.hi < p.f) then 0 else 7 else 6 := by unfold chkS chk1; rw [hA, hB]; rfl
 rw [e0]
 simp (disch:=first|(simp only [yk,seval];done)|omega|(simp only [yz]<;>omega)|fail) only [↓yp,yA,ys0,ys1,seval,fitB,newC,endD,endR,yrg,lenV_slice st_esS_31,lenV_slice st_esS_32,h67,hA,hB]
 -- the pickings
 refine W_while (n := 132) 100 (fun k e H' => ∃ i : Nat, k = ps.length - i ∧ i ≤ ps.length ∧ gt 132 e 3 = .int .i64 (i : Nat) ∧ gt 132 e 1 = .pointer (some ⟨H.size, 0, none⟩) ∧ Fr (H.alloc (.rw [.slice a ps.length cap, .slice a' gs.length cap', .int .i64 lots] 34 false [])) H' ∧ ∀ j p, j < i → ps[j]? = some p → p.isB = true)
  ?_ 4 ps.length ⟨0, by omega, by omega, by simp (disch:=first|(simp only [yk,seval];done)|omega|(simp only [yz]<;>omega)|fail) only [yg,seval] <;> rfl, by simp (disch:=first|(simp only [yk,seval];done)|omega|(simp only [yz]<;>omega)|fail) only [yg,seval], Fr.refl _, fun j p hj => by omega⟩ (by omega) (by omega)
 rintro M k e H1 ⟨i, rfl, hi, g3, g1, fr, hj⟩
 have f0 := fr.size
 simp only [size_alloc] at f0
 have b1 : H1.get H.size = .rw [.slice a ps.length cap, .slice a' gs.length cap', .int .i64 lots] 34 false [] := by rw [fr.same _ (by first|omega|(simp only [yz]<;>omega))]; exact get_alloc_same
 simp (disch:=first|(simp only [yk,seval];done)|omega|(simp only [yz]<;>omega)|fail) only [↓yp,yA,ys0,ys1,seval,fitB,newC,endD,endR,yrg,g3,g1,b1,lenV_slice st_esS_31]
 refine ⟨fun hT => ?_, fun hT => ?_⟩
 ·have hlt : i < ps.length := by simpa using hT
  obtain ⟨p, hp⟩ : ∃ p, ps[i]? = some p := ⟨ps[i], by simp [hlt]⟩
  obtain ⟨b, o, c, eb, hb, hc, hq⟩ := (hs.fr ((Fr.alloc _ _).trans fr)).at_ hp
  have q : part c (o + i * 4) 5 = some (.agg ⟨p.enc⟩) := part_of hq rfl
  simp only [Pk.enc] at q
  have hw2 : w64 ((i : Int) + 1) = ((i + 1 : Nat) : Int) := by rw [w64_of (by omega)]; omega
  have no : p.isB = false → chk2 ps gs lots = true := fun h => by
   have : ps.all Pk.isB = false := by rw [List.all_eq_false]; exact ⟨p, List.mem_of_getElem? hp, by rw [h]; simp⟩
   unfold chk2; rw [this]; rfl
  subst eb
  simp (disch:=first|(simp only [yk,seval];done)|omega|(simp only [yz]<;>omega)|fail) only [↓yp,yA,ys0,ys1,seval,fitB,newC,endD,endR,yrg,g3,g1,b1,A_indexSlice st_esS_31,hc,q]
  cases h1 : wi p.s 0 6
  ·have e : chk2 ps gs lots = true := no (by unfold Pk.isB; rw [h1]; rfl)
   simp (disch:=first|(simp only [yk,seval];done)|omega|(simp only [yz]<;>omega)|fail) only [↓yp,yA,ys0,ys1,seval,fitB,newC,endD,endR,yrg,h67,h1,e]
  cases h2 : wi p.w 0 p.s
  ·have e : chk2 ps gs lots = true := no (by unfold Pk.isB; rw [h1, h2]; rfl)
   simp (disch:=first|(simp only [yk,seval];done)|omega|(simp only [yz]<;>omega)|fail) only [↓yp,yA,ys0,ys1,seval,fitB,newC,endD,endR,yrg,h67,h1,h2,e]
  cases h3 : wi p.o 0 p.s
  ·have e : chk2 ps gs lots = true := no (by unfold Pk.isB; rw [h1, h2, h3]; rfl)
   simp (disch:=first|(simp only [yk,seval];done)|omega|(simp only [yz]<;>omega)|fail) only [↓yp,yA,ys0,ys1,seval,fitB,newC,endD,endR,yrg,h67,h1,h2,h3,e]
  cases h4 : wi p.f 0 p.o
  ·have e : chk2 ps gs lots = true := no (by unfold Pk.isB; rw [h1, h2, h3, h4]; rfl)
   simp (disch:=first|(simp only [yk,seval];done)|omega|(simp only [yz]<;>omega)|fail) only [↓yp,yA,ys0,ys1,seval,fitB,newC,endD,endR,yrg,h67,h1,h2,h3,h4,e]
  simp (disch:=first|(simp only [yk,seval];done)|omega|(simp only [yz]<;>omega)|fail) only [↓yp,yA,ys0,ys1,seval,fitB,newC,endD,endR,yrg,h67,h1,h2,h3,h4,g3,hw2]
  refine ⟨ps.length - (i + 1), by omega, i + 1, rfl, by omega, ?_, ?_, by (repeat (first | exact Fr.refl _ | assumption | refine Fr.allocd ?_ _ | refine Fr.put ?_ (by first | omega | (simp only [yz] <;> omega)) _)), ?_⟩
  ·simp (disch:=first|(simp only [yk,seval];done)|omega|(simp only [yz]<;>omega)|fail) only [yg,seval]
  ·simp (disch:=first|(simp only [yk,seval];done)|omega|(simp only [yz]<;>omega)|fail) only [yg,seval,g1]
  ·intro j t hj' ht
   by_cases e : j = i
   ·subst e; rw [hp] at ht; cases ht; unfold Pk.isB; rw [h1, h2, h3, h4]; rfl
   ·exact hj j t (by omega) ht
 have hie : i = ps.length := by have := of_decide_eq_false hT; omega
 subst hie
 have hC : ps.all Pk.isB = true := by
  rw [List.all_eq_true]
  intro s hs'
  obtain ⟨j, hj'⟩ := List.getElem?_of_mem hs'
  exact hj j s (List.getElem?_eq_some_iff.1 hj').1 hj'
 clear hj hi hT g3
 -- the grades
 simp (disch:=first|(simp only [yk,seval];done)|omega|(simp only [yz]<;>omega)|fail) only [↓yp,yA,ys0,ys1,seval,fitB,newC,endD,endR,yrg]
 refine W_while (n := 132) 100 (fun k e H' => ∃ i : Nat, k = gs.length - i ∧ i ≤ gs.length ∧ gt 132 e 5 = .int .i64 (i : Nat) ∧ gt 132 e 1 = .pointer (some ⟨H.size, 0, none⟩) ∧ H' = H1 ∧ ∀ j p, j < i → gs[j]? = some p → p.isB = true)
  ?_ 4 gs.length ⟨0, by omega, by omega, by simp (disch:=first|(simp only [yk,seval];done)|omega|(simp only [yz]<;>omega)|fail) only [yg,seval] <;> rfl, by simp (disch:=first|(simp only [yk,seval];done)|omega|(simp only [yz]<;>omega)|fail) only [yg,seval,g1], rfl, fun j p hj => by omega⟩ (by omega) (by omega)
 clear g1 e
 rintro M2 k e H1 ⟨i, rfl, hi, g5, g1, rfl, hj⟩
 simp (disch:=first|(simp only [yk,seval];done)|omega|(simp only [yz]<;>omega)|fail) only [↓yp,yA,ys0,ys1,seval,fitB,newC,endD,endR,yrg,g5,g1,b1,lenV_slice st_esS_32]
 refine ⟨fun hT => ?_, fun hT => ?_⟩
 ·have hlt : i < gs.length := by simpa using hT
  obtain ⟨g, hg⟩ : ∃ g, gs[i]? = some g := ⟨gs[i], by simp [hlt]⟩
  obtain ⟨b, o, c, eb, hb, hc, hq⟩ := (hgs.fr ((Fr.alloc _ _).trans fr)).at_ hg
  obtain ⟨x0, x1⟩ := two_cells (u := .int .i64 g.fo) (v := .int .i64 g.pr) hq
  rw [show gdE.z = 2 from rfl] at x0 x1
  have hw2 : w64 ((i : Int) + 1) = ((i + 1 : Nat) : Int) := by rw [w64_of (by omega)]; omega
  have no : g.isB = false → chk2 ps gs lots = true := fun h => by
   have : gs.all Gd.isB = false := by rw [List.all_eq_false]; exact ⟨g, List.mem_of_getElem? hg, by rw [h]; simp⟩
   unfold chk2; rw [this, hC]; rfl
  subst eb
  simp (disch:=first|(simp only [yk,seval];done)|omega|(simp only [yz]<;>omega)|fail) only [↓yp,yA,ys0,ys1,seval,fitB,newC,endD,endR,yrg,g5,g1,b1,A_indexSlice st_esS_32,hc,x0]
  cases h1 : wi g.fo 0 100
  ·have e : chk2 ps gs lots = true := no (by unfold Gd.isB; rw [h1]; rfl)
   simp (disch:=first|(simp only [yk,seval];done)|omega|(simp only [yz]<;>omega)|fail) only [↓yp,yA,ys0,ys1,seval,fitB,newC,endD,endR,yrg,h67,h1,e]
  simp (disch:=first|(simp only [yk,seval];done)|omega|(simp only [yz]<;>omega)|fail) only [↓yp,yA,ys0,ys1,seval,fitB,newC,endD,endR,yrg,h67,h1,g5,g1,b1,A_indexSlice st_esS_32,hc,x1]
  cases h2 : wi g.pr 1 100
  ·have e : chk2 ps gs lots = true := no (by unfold Gd.isB; rw [h1, h2]; rfl)
   simp (disch:=first|(simp only [yk,seval];done)|omega|(simp only [yz]<;>omega)|fail) only [↓yp,yA,ys0,ys1,seval,fitB,newC,endD,endR,yrg,h67,h1,h2,e]
  simp (disch:=first|(simp only [yk,seval];done)|omega|(simp only [yz]<;>omega)|fail) only [↓yp,yA,ys0,ys1,seval,fitB,newC,endD,endR,yrg,h67,h1,h2,g5,hw2]
  refine ⟨gs.length - (i + 1), by omega, i + 1, rfl, by omega, ?_, ?_, rfl, ?_⟩
  ·simp (disch:=first|(simp only [yk,seval];done)|omega|(simp only [yz]<;>omega)|fail) only [yg,seval]
  ·simp (disch:=first|(simp only [yk,seval];done)|omega|(simp only [yz]<;>omega)|fail) only [yg,seval,g1]
  ·intro j t hj' ht
   by_cases e : j = i
   ·subst e; rw [hg] at ht; cases ht; unfold Gd.isB; rw [h1, h2]; rfl
   ·exact hj j t (by omega) ht
 have hie : i = gs.length := by have := of_decide_eq_false hT; omega
 subst hie
 have hD : gs.all Gd.isB = true := by
  rw [List.all_eq_true]
  intro s hs'
  obtain ⟨j, hj'⟩ := List.getElem?_of_mem hs'
  exact hj j s (List.getElem?_eq_some_iff.1 hj').1 hj'
 clear hj hi hT g5
 -- the lots
 cases hE : wi lots 0 3
 ·have e : chk2 ps gs lots = true := by unfold chk2; rw [hC, hD, hE]; rfl
  simp (disch:=first|(simp only [yk,seval];done)|omega|(simp only [yz]<;>omega)|fail) only [↓yp,yA,ys0,ys1,seval,fitB,newC,endD,endR,yrg,g1,b1,h67,hE,e]
 have e : chk2 ps gs lots = false := by unfold chk2; rw [hC, hD, hE]; rfl
 rw [e, cond_false]
 simp (disch:=first|(simp only [yk,seval];done)|omega|(simp only [yz]<;>omega)|fail) only [↓yp,yA,ys0,ys1,seval,fitB,newC,endD,endR,yrg,g1,b1,h67,hE]
 -- the order
 refine W_while (n := 132) 100 (fun k e H' => ∃ i : Nat, k = gs.length + 1 - i ∧ 1 ≤ i ∧ i ≤ gs.length + 1 ∧ gt 132 e 6 = .int .i64 (i : Nat) ∧ gt 132 e 1 = .pointer (some ⟨H.size, 0, none⟩) ∧ H' = H1 ∧ ∀ j x y, j + 1 < i → gs[j]? = some x → gs[j + 1]? = some y → x.fo < y.fo ∧ y.pr < x.pr)
  ?_ 5 gs.length ⟨1, by omega, by omega, by omega, by simp (disch:=first|(simp only [yk,seval];done)|omega|(simp only [yz]<;>omega)|fail) only [yg,seval] <;> rfl, by simp (disch:=first|(simp only [yk,seval];done)|omega|(simp only [yz]<;>omega)|fail) only [yg,seval,g1], rfl, fun j x y hj => by omega⟩ (by omega) (by omega)
 clear g1
 rintro M3 k e H1 ⟨i, rfl, h1i, hi, g6, g1, rfl, hj⟩
 simp (disch:=first|(simp only [yk,seval];done)|omega|(simp only [yz]<;>omega)|fail) only [↓yp,yA,ys0,ys1,seval,fitB,newC,endD,endR,yrg,g6,g1,b1,lenV_slice st_esS_32]
 refine ⟨fun hT => ?_, fun hT => ?_⟩
 ·have hi' : i < gs.length := by simpa using hT
  obtain ⟨j, rfl⟩ : ∃ j, i = j + 1 := ⟨i - 1, by omega⟩
  obtain ⟨x, hx⟩ : ∃ x, gs[j]? = some x := ⟨gs[j], by simp [show j < gs.length by omega]⟩
  obtain ⟨y, hy⟩ : ∃ y, gs[j + 1]? = some y := ⟨gs[j + 1], by simp [hi']⟩
  have hg1 := hgs.fr ((Fr.alloc _ _).trans fr)
  obtain ⟨b, o, c, eb, hb, hc, hq⟩ := hg1.at_ hx
  obtain ⟨b2, o2, c2, e2, -, hc2, hq2⟩ := hg1.at_ hy
  subst eb
  cases e2
  rw [hc] at hc2
  cases hc2
  obtain ⟨x0, x1⟩ := two_cells (u := .int .i64 x.fo) (v := .int .i64 x.pr) hq
  obtain ⟨y0, y1⟩ := two_cells (u := .int .i64 y.fo) (v := .int .i64 y.pr) hq2
  rw [show gdE.z = 2 from rfl] at x0 x1 y0 y1
  have w1 : w64 (((j + 1 : Nat) : Int) - 1) = (j : Int) := by rw [w64_of (by omega)]; omega
  have w2 : w64 (((j + 1 : Nat) : Int) + 1) = ((j + 1 + 1 : Nat) : Int) := by rw [w64_of (by omega)]; omega
  have no : ¬ (x.fo < y.fo ∧ y.pr < x.pr) → ordB gs = false := fun h => by
   cases ho : ordB gs with
   | false => rfl
   | true => exact absurd (ordB_at.1 ho j x y hx hy) h
  simp (disch:=first|(simp only [yk,seval];done)|omega|(simp only [yz]<;>omega)|fail) only [↓yp,yA,ys0,ys1,seval,fitB,newC,endD,endR,yrg,g6,g1]
  refine W_draw [] rfl (by kernel_rfl) (by kernel_rfl) (by first|omega|(simp only [yz]<;>omega)) ?_
  cases hY : decide (y.fo ≤ x.fo)
  rotate_left
  ·have h1 := of_decide_eq_true hY
   have := no (by omega)
   simp (disch:=first|(simp only [yk,seval];done)|omega|(simp only [yz]<;>omega)|fail) only [↓yp,yA,ys0,ys1,seval,fitB,newC,endD,endR,yrg,g6,g1,b1,A_indexSlice st_esS_32,hc,x0,y0,w1,w2,hY,this]
  cases hZ : decide (x.pr ≤ y.pr)
  rotate_left
  ·have h1 := of_decide_eq_true hZ
   have := no (by omega)
   simp (disch:=first|(simp only [yk,seval];done)|omega|(simp only [yz]<;>omega)|fail) only [↓yp,yA,ys0,ys1,seval,fitB,newC,endD,endR,yrg,g6,g1,b1,A_indexSlice st_esS_32,hc,x0,x1,y0,y1,w1,w2,hY,hZ,this]
  have h1 := of_decide_eq_false hY
  have h2 := of_decide_eq_false hZ
  simp (disch:=first|(simp only [yk,seval];done)|omega|(simp only [yz]<;>omega)|fail) only [↓yp,yA,ys0,ys1,seval,fitB,newC,endD,endR,yrg,g6,g1,b1,A_indexSlice st_esS_32,hc,x0,x1,y0,y1,w1,w2,hY,hZ]
  refine ⟨gs.length + 1 - (j + 1 + 1), by omega, j + 1 + 1, rfl, by omega, by omega, ?_, ?_, rfl, ?_⟩
  ·simp (disch:=first|(simp only [yk,seval];done)|omega|(simp only [yz]<;>omega)|fail) only [yg,seval]
  ·simp (disch:=first|(simp only [yk,seval];done)|omega|(simp only [yz]<;>omega)|fail) only [yg,seval,g1]
  ·intro j' x' y' hj' hx' hy'
   by_cases e : j' = j
   ·subst e
    rw [hx] at hx'
    rw [hy] at hy'
    cases hx'
    cases hy'
    omega
   ·exact hj j' x' y' (by omega) hx' hy'
 have hF : ordB gs = true := ordB_at.2 fun j x y hx hy => hj j x y (by
  have := (List.getElem?_eq_some_iff.1 hy).1
  have := of_decide_eq_false hT
  omega) hx hy
 rw [hF, cond_true]
 clear hj hi hT g6
 -- what can be foul
 simp (disch:=first|(simp only [yk,seval];done)|omega|(simp only [yz]<;>omega)|fail) only [↓yp,yA,ys0,ys1,seval,fitB,newC,endD,endR,yrg]
 refine W_while (n := 132) 200 (fun k e H' => ∃ i : Nat, k = ps.length - i ∧ i ≤ ps.length ∧ gt 132 e 7 = .int .i64 (i : Nat) ∧ gt 132 e 1 = .pointer (some ⟨H.size, 0, none⟩) ∧ Fr H1 H' ∧ ∀ j p, j < i → ps[j]? = some p → p.f ≤ p.hi)
  ?_ 4 ps.length ⟨0, by omega, by omega, by simp (disch:=first|(simp only [yk,seval];done)|omega|(simp only [yz]<;>omega)|fail) only [yg,seval] <;> rfl, by simp (disch:=first|(simp only [yk,seval];done)|omega|(simp only [yz]<;>omega)|fail) only [yg,seval,g1], Fr.refl _, fun j p hj => by omega⟩ (by omega) (by omega)
 clear g1 e
 rintro M4 k e H2 ⟨i, rfl, hi, g7, g1, fr2, hj⟩
 have f2 := fr2.size
 have b2 : H2.get H.size = .rw [.slice a ps.length cap, .slice a' gs.length cap', .int .i64 lots] 34 false [] := by rw [fr2.same _ (by omega)]; exact b1
 simp (disch:=first|(simp only [yk,seval];done)|omega|(simp only [yz]<;>omega)|fail) only [↓yp,yA,ys0,ys1,seval,fitB,newC,endD,endR,yrg,g7,g1,b2,lenV_slice st_esS_31]
 refine ⟨fun hT => ?_, fun hT => ?_⟩
 ·have hlt : i < ps.length := by simpa using hT
  obtain ⟨p, hp⟩ : ∃ p, ps[i]? = some p := ⟨ps[i], by simp [hlt]⟩
  obtain ⟨b, o, c, eb, hb, hc, hq⟩ := (hs.fr (((Fr.alloc _ _).trans fr).trans fr2)).at_ hp
  have q : part c (o + i * 4) 5 = some (.agg ⟨p.enc⟩) := part_of hq rfl
  have hok : p.Ok := Pk.isB_ok (List.all_eq_true.1 hC p (List.mem_of_getElem? hp))
  have hw2 : w64 ((i : Int) + 1) = ((i + 1 : Nat) : Int) := by rw [w64_of (by omega)]; omega
  subst eb
  by_cases hh : p.hi < p.f
  ·have hG : (ps.all fun p => !decide (p.hi < p.f)) = false := by rw [List.all_eq_false]; exact ⟨p, List.mem_of_getElem? hp, by simp [hh]⟩
   have h68 := fun (N : Nat) (H : AHeap) => c68e (N := N) (H := H) hok hh
   simp only [Pk.enc] at q h68
   simp (disch:=first|(simp only [yk,seval];done)|omega|(simp only [yz]<;>omega)|fail) only [↓yp,yA,ys0,ys1,seval,fitB,newC,endD,endR,yrg,g7,g1,b2,A_indexSlice st_esS_31,hc,q,h68,lenV_slice st_esS_26,hG,Int.natCast_zero]
  ·simp only [Pk.enc] at q
   simp (disch:=first|(simp only [yk,seval];done)|omega|(simp only [yz]<;>omega)|fail) only [↓yp,yA,ys0,ys1,seval,fitB,newC,endD,endR,yrg,g7,g1,b2,A_indexSlice st_esS_31,hc,q]
   refine c68 hok (by omega) (by omega) (by omega) ?_
   rintro b' c' H3 fr3 - -
   have f3 := fr3.size
   have hne : decide ((((p.hi + 1 - p.f).toNat : Nat) : Int) = 0) = false := by simp; omega
   simp (disch:=first|(simp only [yk,seval];done)|omega|(simp only [yz]<;>omega)|fail) only [↓yp,yA,ys0,ys1,seval,fitB,newC,endD,endR,yrg,g7,lenV_slice st_esS_26,hne,hw2]
   refine ⟨ps.length - (i + 1), by omega, i + 1, rfl, by omega, ?_, ?_, fr2.trans fr3, ?_⟩
   ·simp (disch:=first|(simp only [yk,seval];done)|omega|(simp only [yz]<;>omega)|fail) only [yg,seval]
   ·simp (disch:=first|(simp only [yk,seval];done)|omega|(simp only [yz]<;>omega)|fail) only [yg,seval,g1]
   ·intro j t hj' ht
    by_cases e : j = i
    ·subst e; rw [hp] at ht; cases ht; omega
    ·exact hj j t (by omega) ht
 have hG : (ps.all fun p => !decide (p.hi < p.f)) = true := by
  rw [List.all_eq_true]
  intro s hs'
  obtain ⟨j, hj'⟩ := List.getElem?_of_mem hs'
  have := hj j s (by have := (List.getElem?_eq_some_iff.1 hj').1; have := of_decide_eq_false hT; omega) hj'
  simp; omega
 simp (disch:=first|(simp only [yk,seval];done)|omega|(simp only [yz]<;>omega)|fail) only [↓yp,yA,ys0,ys1,seval,fitB,newC,endD,endR,yrg,hG]
end
end Go.Am.K
namespace Go.Am.K
open Go.Proofs
variable {T : Tab} {P : Program} {N L : Nat} {H H' H'' : AHeap} {Q : Bool → Value → AHeap → Prop}
def canB (p : Pk) (m f x : Int) : Bool := ((decide (0 ≤ x) && decide (x ≤ m)) && decide (0 ≤ f - x)) && decide (f - x ≤ p.s - m)
theorem c116 {p : Pk} {m f x : Int} (hs : 0 ≤ p.s ∧ p.s ≤ 6) (hm : 0 ≤ m ∧ m ≤ 6) (hf : 0 ≤ f ∧ f ≤ 6) (hx : 0 ≤ x ∧ x ≤ 6) : acall tabA (aexec tabA Tryz.prog (N + 40)) 72 [.agg ⟨p.enc⟩, .int .i64 m, .int .i64 f, .int .i64 x] H = some (true, .bool (canB p m f x), H, H.size) := by
 refine call_quiet (k := 32) (rs := [.tmp 8]) rfl fn_72 rfl rfl rfl ?_ rfl
 have w1 : w64 (f - x) = f - x := w64_of (by omega)
 have w2 : w64 (p.s - m) = p.s - m := w64_of (by omega)
 unfold canB
 cases h1 : decide (0 ≤ x)
 ·simp (disch:=first|(simp only [yk,seval];done)|omega|(simp only [yz]<;>omega)|fail) only [↓yp,yA,ys0,ys1,seval,fitB,newC,endD,endR,yrg,Pk.enc,w1,w2,h1]
 cases h2 : decide (x ≤ m)
 ·simp (disch:=first|(simp only [yk,seval];done)|omega|(simp only [yz]<;>omega)|fail) only [↓yp,yA,ys0,ys1,seval,fitB,newC,endD,endR,yrg,Pk.enc,w1,w2,h1,h2]
 cases h3 : decide (0 ≤ f - x)
 ·simp (disch:=first|(simp only [yk,seval];done)|omega|(simp only [yz]<;>omega)|fail) only [↓yp,yA,ys0,ys1,seval,fitB,newC,endD,endR,yrg,Pk.enc,w1,w2,h1,h2,h3]
 ·simp (disch:=first|(simp only [yk,seval];done)|omega|(simp only [yz]<;>omega)|fail) only [↓yp,yA,ys0,ys1,seval,fitB,newC,endD,endR,yrg,Pk.enc,w1,w2,h1,h2,h3]
def boE : Enc Bool := ⟨fun b => [.bool b], 1, fun _ => rfl, fun _ => rfl⟩
def endF (l : List Bool) : Nat → Int × Int
 | 0 => (l.length, -1)
 | i + 1 => match l[i]? with
  | some true => (if (i : Int) < (endF l i).1 then i else (endF l i).1, i)
  | _ => endF l i
set_option maxHeartbeats 1000000 in
theorem c85 {a : Option Addr} {cap : Nat} {l : List Bool} (hs : Rw boE H a l) (hl : l.length ≤ 65) :
  acall tabA (aexec tabA Tryz.prog (N + 150)) 138 [.slice a l.length cap] H = some (true, .agg ⟨[.int .i64 (endF l l.length).1, .int .i64 (endF l l.length).2]⟩, H, H.size) := by
 refine call_quiet (k := 27) (rs := [.cell 2 37]) rfl fn_138 rfl rfl rfl ?_ rfl
 simp (disch:=first|(simp only [yk,seval];done)|omega|(simp only [yz]<;>omega)|fail) only [↓yp,yA,ys0,ys1,seval,fitB,newC,endD,endR,yrg,lenV_slice st_esS_198,A_build st_bdS_37]
 refine W_while (n := 27) 70 (fun k e H' => ∃ i : Nat, k = l.length - i ∧ i ≤ l.length ∧ gt 27 e 4 = .int .i64 (i : Nat) ∧ gt 27 e 0 = .slice a l.length cap ∧ gt 27 e 2 = .pointer (some ⟨H.size, 0, none⟩) ∧ gt 27 e 3 = .pointer (some ⟨H.size + 1, 0, none⟩) ∧ H.size + 1 < H'.size ∧ Fr H H' ∧ H'.get H.size = .rw [.int .i64 0, .int .i64 0] 37 false [] ∧ H'.get (H.size + 1) = .rw [.int .i64 (endF l i).1, .int .i64 (endF l i).2] 37 false [])
  ?_ 65 l.length ⟨0, by omega, by omega, by simp (disch:=first|(simp only [yk,seval];done)|omega|(simp only [yz]<;>omega)|fail) only [yg,seval] <;> rfl, by simp (disch:=first|(simp only [yk,seval];done)|omega|(simp only [yz]<;>omega)|fail) only [yg,seval], by simp (disch:=first|(simp only [yk,seval];done)|omega|(simp only [yz]<;>omega)|fail) only [yg,seval], by simp (disch:=first|(simp only [yk,seval];done)|omega|(simp only [yz]<;>omega)|fail) only [yg,seval], by (first | omega | (simp only [yz] <;> omega)), by (repeat (first | exact Fr.refl _ | assumption | refine Fr.allocd ?_ _ | refine Fr.put ?_ (by first | omega | (simp only [yz] <;> omega)) _)), by simp (disch:=first|(simp only [yk,seval];done)|omega|(simp only [yz]<;>omega)|fail) only [yg,seval], by simp (disch:=first|(simp only [yk,seval];done)|omega|(simp only [yz]<;>omega)|fail) only [yg,seval] <;> rfl⟩ (by omega) (by omega)
 rintro M k e H1 ⟨i, rfl, hi, g4, g0, g2, g3, hs1, fr, b2, b3⟩
 simp (disch:=first|(simp only [yk,seval];done)|omega|(simp only [yz]<;>omega)|fail) only [↓yp,yA,ys0,ys1,seval,fitB,newC,endD,endR,yrg,g4,g0,lenV_slice st_esS_198]
 refine ⟨fun hT => ?_, fun hT => ?_⟩
 ·have hlt : i < l.length := by simpa using hT
  obtain ⟨v, hv⟩ : ∃ v, l[i]? = some v := ⟨l[i], by simp [hlt]⟩
  obtain ⟨b, o, c, eb, hb, hc, hq⟩ := (hs.fr fr).at_ hv
  have q := cell_of hq
  rw [show i * boE.z = i * 1 from rfl, Nat.mul_one] at q
  have hw2 : w64 ((i : Int) + 1) = ((i + 1 : Nat) : Int) := by rw [w64_of (by omega)]; omega
  subst eb
  cases v
  ·have e1 : endF l (i + 1) = endF l i := by unfold endF; rw [hv]; cases i <;> rfl
   simp (disch:=first|(simp only [yk,seval];done)|omega|(simp only [yz]<;>omega)|fail) only [↓yp,yA,ys0,ys1,seval,fitB,newC,endD,endR,yrg,g4,g0,g2,g3,A_indexSlice st_esS_198,hc,q,hw2]
   refine ⟨l.length - (i + 1), by omega, i + 1, rfl, by omega, ?_, ?_, ?_, ?_, hs1, fr, b2, by rw [e1]; exact b3⟩
   ·simp (disch:=first|(simp only [yk,seval];done)|omega|(simp only [yz]<;>omega)|fail) only [yg,seval]
   ·simp (disch:=first|(simp only [yk,seval];done)|omega|(simp only [yz]<;>omega)|fail) only [yg,seval,g0]
   ·simp (disch:=first|(simp only [yk,seval];done)|omega|(simp only [yz]<;>omega)|fail) only [yg,seval,g2]
   ·simp (disch:=first|(simp only [yk,seval];done)|omega|(simp only [yz]<;>omega)|fail) only [yg,seval,g3]
  ·have e1 : endF l (i + 1) = (if (i : Int) < (endF l i).1 then (i : Int) else (endF l i).1, (i : Int)) := by
    show (match l[i]? with | some true => _ | _ => _) = _
    rw [hv]
   simp (disch:=first|(simp only [yk,seval];done)|omega|(simp only [yz]<;>omega)|fail) only [↓yp,yA,ys0,ys1,seval,fitB,newC,endD,endR,yrg,g4,g0,g2,g3,A_indexSlice st_esS_198,hc,q,b3]
   cases hA : decide ((i : Int) < (endF l i).1)
   ·have hA' := of_decide_eq_false hA
    rw [if_neg hA'] at e1
    simp (disch:=first|(simp only [yk,seval];done)|omega|(simp only [yz]<;>omega)|fail) only [↓yp,yA,ys0,ys1,seval,fitB,newC,endD,endR,yrg,g4,g0,g2,g3,hA,hw2]
    refine ⟨l.length - (i + 1), by omega, i + 1, rfl, by omega, ?_, ?_, ?_, ?_, by (first | omega | (simp only [yz] <;> omega)), by (repeat (first | exact Fr.refl _ | assumption | refine Fr.allocd ?_ _ | refine Fr.put ?_ (by first | omega | (simp only [yz] <;> omega)) _)), ?_, ?_⟩
    ·simp (disch:=first|(simp only [yk,seval];done)|omega|(simp only [yz]<;>omega)|fail) only [yg,seval]
    ·simp (disch:=first|(simp only [yk,seval];done)|omega|(simp only [yz]<;>omega)|fail) only [yg,seval,g0]
    ·simp (disch:=first|(simp only [yk,seval];done)|omega|(simp only [yz]<;>omega)|fail) only [yg,seval,g2]
    ·simp (disch:=first|(simp only [yk,seval];done)|omega|(simp only [yz]<;>omega)|fail) only [yg,seval,g3]
    ·rw [get_put_ne (by omega)]; exact b2
    ·rw [get_put_same (by omega), e1]
   ·have hA' := of_decide_eq_true hA
    rw [if_pos hA'] at e1
    simp (disch:=first|(simp only [yk,seval];done)|omega|(simp only [yz]<;>omega)|fail) only [↓yp,yA,ys0,ys1,seval,fitB,newC,endD,endR,yrg,g4,g0,g2,g3,hA,hw2]
    refine ⟨l.length - (i + 1), by omega, i + 1, rfl, by omega, ?_, ?_, ?_, ?_, by (first | omega | (simp only [yz] <;> omega)), by (repeat (first | exact Fr.refl _ | assumption | refine Fr.allocd ?_ _ | refine Fr.put ?_ (by first | omega | (simp only [yz] <;> omega)) _)), ?_, ?_⟩
    ·simp (disch:=first|(simp only [yk,seval];done)|omega|(simp only [yz]<;>omega)|fail) only [yg,seval]
    ·simp (disch:=first|(simp only [yk,seval];done)|omega|(simp only [yz]<;>omega)|fail) only [yg,seval,g0]
    ·simp (disch:=first|(simp only [yk,seval];done)|omega|(simp only [yz]<;>omega)|fail) only [yg,seval,g2]
    ·simp (disch:=first|(simp only [yk,seval];done)|omega|(simp only [yz]<;>omega)|fail) only [yg,seval,g3]
    ·rw [get_put_ne (by omega), get_put_ne (by omega)]; exact b2
    ·rw [get_put_same (by first|omega|(simp only [yz]<;>omega)), e1]
 have hie : i = l.length := by have := of_decide_eq_false hT; omega
 subst hie
 simp (disch:=first|(simp only [yk,seval];done)|omega|(simp only [yz]<;>omega)|fail) only [↓yp,yA,ys0,ys1,seval,fitB,newC,endD,endR,yrg,g2,g3,b2,b3]
set_option maxHeartbeats 1000000 in
theorem c81 {a : Option Addr} {cap : Nat} {l : List Int} (hs : Rw intE H a l) (hl : l.length ≤ 8) (hb : ∀ x ∈ l, 0 ≤ x ∧ x ≤ 1000000) :
  acall tabA (aexec tabA Tryz.prog (N + 100)) 89 [.slice a l.length cap] H = some (true, .int .i64 (isum l), H, H.size) := by
 refine call_quiet (k := 18) (rs := [.tmp 2]) rfl fn_89 rfl rfl rfl ?_ rfl
 simp (disch:=first|(simp only [yk,seval];done)|omega|(simp only [yz]<;>omega)|fail) only [↓yp,yA,ys0,ys1,seval,fitB,newC,endD,endR,yrg]
 refine W_while (n := 18) 60 (fun k e H' => ∃ i : Nat, k = l.length - i ∧ i ≤ l.length ∧ gt 18 e 4 = .int .i64 (i : Nat) ∧ gt 18 e 3 = .int .i64 (isum (l.take i)) ∧ gt 18 e 0 = .slice a l.length cap ∧ H' = H)
  ?_ 8 l.length ⟨0, by omega, by omega, by simp (disch:=first|(simp only [yk,seval];done)|omega|(simp only [yz]<;>omega)|fail) only [yg,seval] <;> rfl, by simp (disch:=first|(simp only [yk,seval];done)|omega|(simp only [yz]<;>omega)|fail) only [yg,seval] <;> rfl, by simp (disch:=first|(simp only [yk,seval];done)|omega|(simp only [yz]<;>omega)|fail) only [yg,seval], rfl⟩ (by omega) (by omega)
 rintro M k e H1 ⟨i, rfl, hi, g4, g3, g0, rfl⟩
 simp (disch:=first|(simp only [yk,seval];done)|omega|(simp only [yz]<;>omega)|fail) only [↓yp,yA,ys0,ys1,seval,fitB,newC,endD,endR,yrg,g4,g3,g0,lenV_slice st_esS_26]
 refine ⟨fun hT => ?_, fun hT => ?_⟩
 ·have hlt : i < l.length := by simpa using hT
  obtain ⟨v, hv⟩ : ∃ v, l[i]? = some v := ⟨l[i], by simp [hlt]⟩
  obtain ⟨b, o, c, eb, hb', hc, hq⟩ := hs.at_ hv
  have q := cell_of hq
  rw [show i * intE.z = i * 1 from rfl, Nat.mul_one] at q
  have hvb := hb v (List.mem_of_getElem? hv)
  have hsum := isum_le (l := l.take i) (m := 1000000) fun x hx => hb x (List.mem_of_mem_take hx)
  have hlen : ((l.take i).length : Int) ≤ 8 := by rw [List.length_take]; omega
  have e1 : isum (l.take (i + 1)) = isum (l.take i) + v := by
   rw [List.take_add_one, hv, isum_app]
   show _ + (v + 0) = _
   omega
  have hsm : 0 ≤ isum (l.take i) ∧ isum (l.take i) ≤ 8000000 := ⟨hsum.1, Int.le_trans hsum.2 (by have := Int.mul_le_mul_of_nonneg_left hlen (show (0 : Int) ≤ 1000000 by omega); omega)⟩
  have w1 : w64 (isum (l.take i) + v) = isum (l.take (i + 1)) := by rw [w64_of (by omega), e1]
  have hw2 : w64 ((i : Int) + 1) = ((i + 1 : Nat) : Int) := by rw [w64_of (by omega)]; omega
  subst eb
  simp (disch:=first|(simp only [yk,seval];done)|omega|(simp only [yz]<;>omega)|fail) only [↓yp,yA,ys0,ys1,seval,fitB,newC,endD,endR,yrg,g4,g3,g0,A_indexSlice st_esS_26,hc,q,w1,hw2]
  refine ⟨l.length - (i + 1), by omega, i + 1, rfl, by omega, ?_, ?_, ?_, rfl⟩
  ·simp (disch:=first|(simp only [yk,seval];done)|omega|(simp only [yz]<;>omega)|fail) only [yg,seval]
  ·simp (disch:=first|(simp only [yk,seval];done)|omega|(simp only [yz]<;>omega)|fail) only [yg,seval]
  ·simp (disch:=first|(simp only [yk,seval];done)|omega|(simp only [yz]<;>omega)|fail) only [yg,seval,g0]
 have hie : i = l.length := by have := of_decide_eq_false hT; omega
 subst hie
 rw [List.take_of_length_le (Nat.le_refl _)] at g3
 simp (disch:=first|(simp only [yk,seval];done)|omega|(simp only [yz]<;>omega)|fail) only [↓yp,yA,ys0,ys1,seval,fitB,newC,endD,endR,yrg,g3]
end Go.Am.K
