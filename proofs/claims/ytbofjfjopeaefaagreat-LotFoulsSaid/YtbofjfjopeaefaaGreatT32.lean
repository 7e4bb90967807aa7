import Derived.Test.YtbofjfjopeaefaaGreatT15
import Derived.Test.YtbofjfjopeaefaaGreatT30
set_option linter.unusedSimpArgs false
set_option linter.unusedVariables false
namespace Go.Am
open Go.Proofs
variable {T : Tab} {P : Program} {N L : Nat} {H : AHeap} {Q : Bool → Value → AHeap → Prop}
theorem c58 {n lo hi : Int} : acall tabA (aexec tabA Tryz.prog (N + 20)) 113 [.int .i64 n, .int .i64 lo, .int .i64 hi] H = some (true, .bool (wi n lo hi), H, H.size) := by
 refine call_quiet (k := 15) (rs := [.tmp 6]) rfl fn_113 rfl rfl rfl ?_ rfl
 unfold wi
 cases hA : decide (lo ≤ n)
 ·simp (disch:=first|(simp only [yk,seval];done)|omega|(simp only [yz]<;>omega)|fail) only [↓yp,yA,ys0,ys1,seval,fitB,newC,endD,endR,hA]
 ·simp (disch:=first|(simp only [yk,seval];done)|omega|(simp only [yz]<;>omega)|fail) only [↓yp,yA,ys0,ys1,seval,fitB,newC,endD,endR,hA]
def Pk.isB (p : Pk) : Bool := wi p.s 0 6 && (wi p.w 0 p.s && (wi p.o 0 p.s && wi p.f 0 p.o))
theorem c60 {p : Pk} : acall tabA (aexec tabA Tryz.prog (N + 60)) 115 [.agg ⟨p.enc⟩] H = some (true, .bool p.isB, H, H.size) := by
 refine call_quiet (k := 27) (rs := [.tmp 2]) rfl fn_115 rfl rfl rfl ?_ rfl
 unfold Pk.isB
 have h58 := fun (N : Nat) (H : AHeap) (n lo hi : Int) => c58 (N := N) (H := H) (n := n) (lo := lo) (hi := hi)
 cases hA : wi p.s 0 6
 ·simp (disch:=first|(simp only [yk,seval];done)|omega|(simp only [yz]<;>omega)|fail) only [↓yp,yA,ys0,ys1,seval,fitB,newC,endD,endR,Pk.enc,h58,hA]
 ·cases hB : wi p.w 0 p.s
  ·simp (disch:=first|(simp only [yk,seval];done)|omega|(simp only [yz]<;>omega)|fail) only [↓yp,yA,ys0,ys1,seval,fitB,newC,endD,endR,Pk.enc,h58,hA,hB]
  ·cases hC : wi p.o 0 p.s
   ·simp (disch:=first|(simp only [yk,seval];done)|omega|(simp only [yz]<;>omega)|fail) only [↓yp,yA,ys0,ys1,seval,fitB,newC,endD,endR,Pk.enc,h58,hA,hB,hC]
   ·simp (disch:=first|(simp only [yk,seval];done)|omega|(simp only [yz]<;>omega)|fail) only [↓yp,yA,ys0,ys1,seval,fitB,newC,endD,endR,Pk.enc,h58,hA,hB,hC]
def Gd.isB (g : Gd) : Bool := wi g.fo 0 100 && wi g.pr 1 100
theorem c62 {g : Gd} : acall tabA (aexec tabA Tryz.prog (N + 60)) 117 [.agg ⟨g.enc⟩] H = some (true, .bool g.isB, H, H.size) := by
 refine call_quiet (k := 11) (rs := [.tmp 2]) rfl fn_117 rfl rfl rfl ?_ rfl
 unfold Gd.isB
 have h58 := fun (N : Nat) (H : AHeap) (n lo hi : Int) => c58 (N := N) (H := H) (n := n) (lo := lo) (hi := hi)
 cases hA : wi g.fo 0 100
 ·simp (disch:=first|(simp only [yk,seval];done)|omega|(simp only [yz]<;>omega)|fail) only [↓yp,yA,ys0,ys1,seval,fitB,newC,endD,endR,Gd.enc,h58,hA]
 ·simp (disch:=first|(simp only [yk,seval];done)|omega|(simp only [yz]<;>omega)|fail) only [↓yp,yA,ys0,ys1,seval,fitB,newC,endD,endR,Gd.enc,h58,hA]
theorem c65 {a b : Int} : acall tabA (aexec tabA Tryz.prog (N + 20)) 120 [.agg ⟨[.int .i64 a, .int .i64 b]⟩] H = some (true, .bool (decide (b < a)), H, H.size) := by
 refine call_quiet (k := 8) (rs := [.tmp 2]) rfl fn_120 rfl rfl rfl ?_ rfl
 simp (disch:=first|(simp only [yk,seval];done)|omega|(simp only [yz]<;>omega)|fail) only [↓yp,yA,ys0,ys1,seval,fitB,newC,endD,endR]
theorem c59 {a : Option Addr} {cap g : Nat} {ps : List Pk} {p : Pk → Bool} (hs : Rw pkE H a ps) (hl : ps.length ≤ 8) (hp : ∀ (N : Nat) (H' : AHeap) (x : Pk), x ∈ ps → acall tabA (aexec tabA Tryz.prog (N + 60)) g [.agg ⟨x.enc⟩] H' = some (true, .bool (p x), H', H'.size)) :
  acall tabA (aexec tabA Tryz.prog (N + 170)) 114 [.slice a ps.length cap, .func (.func g) ⟨[]⟩ ⟨[]⟩] H = some (true, .bool (ps.all p), H, H.size) := by
 refine call_quiet (k := 18) (rs := [.tmp 4]) rfl fn_114 rfl rfl rfl ?_ rfl
 simp (disch:=first|(simp only [yk,seval];done)|omega|(simp only [yz]<;>omega)|fail) only [↓yp,yA,ys0,ys1,seval,fitB,newC,endD,endR,lenV_slice st_esS_22]
 refine W_while (n := 18) 70 (fun k e H' => ∃ i, k = ps.length - i ∧ i ≤ ps.length ∧ gt 18 e 9 = .int .i64 (i : Nat) ∧ gt 18 e 8 = .int .i64 ps.length ∧ gt 18 e 7 = .slice a ps.length cap ∧ gt 18 e 1 = .func (.func g) ⟨[]⟩ ⟨[]⟩ ∧ Fr H H' ∧ ∀ j s, j < i → ps[j]? = some s → p s = true)
  ?_ 8 ps.length ⟨0, by omega, by omega, by simp (disch:=first|(simp only [yk,seval];done)|omega|(simp only [yz]<;>omega)|fail) only [yg,seval] <;> rfl, by simp (disch:=first|(simp only [yk,seval];done)|omega|(simp only [yz]<;>omega)|fail) only [yg,seval], by simp (disch:=first|(simp only [yk,seval];done)|omega|(simp only [yz]<;>omega)|fail) only [yg,seval], by simp (disch:=first|(simp only [yk,seval];done)|omega|(simp only [yz]<;>omega)|fail) only [yg,seval], Fr.refl _, fun j s hj => by omega⟩ (by omega) (by omega)
 rintro M k e H' ⟨i, rfl, hi, g9, g8, g7, g1, fr, hj⟩
 have f0 := fr.size
 have fs := fr.same
 simp (disch:=first|(simp only [yk,seval];done)|omega|(simp only [yz]<;>omega)|fail) only [↓yp,yA,ys0,ys1,seval,fitB,newC,endD,endR,g9,g8,g7,g1]
 refine ⟨fun hlt => ?_, fun hlt => ?_⟩
 ·have hi' : i < ps.length := by simpa using hlt
  obtain ⟨x, hx⟩ : ∃ x, ps[i]? = some x := ⟨ps[i], by simp [hi']⟩
  obtain ⟨b, o, c, rfl, hb, hc, hq⟩ := hs.at_ hx
  have q : part c (o + i * 4) 5 = some (.agg ⟨x.enc⟩) := part_of hq rfl
  have hc' : cellsOf (H'.get b) = some c := by rw [fs b hb]; exact hc
  have hps := fun (N : Nat) (H' : AHeap) => hp N H' x (List.mem_of_getElem? hx)
  simp only [Pk.enc] at q hps
  simp (disch:=first|(simp only [yk,seval];done)|omega|(simp only [yz]<;>omega)|fail) only [↓yp,yA,ys0,ys1,seval,fitB,newC,endD,endR,g9,g8,g7,g1,A_indexSlice st_esS_22,hc',q,hps]
  refine ⟨fun hA => ?_, fun hA => ?_⟩
  rotate_left
  ·have : ps.all p = false := by rw [List.all_eq_false]; exact ⟨x, List.mem_of_getElem? hx, by rw [hA]; simp⟩
   simp (disch:=first|(simp only [yk,seval];done)|omega|(simp only [yz]<;>omega)|fail) only [↓yp,yA,ys0,ys1,seval,fitB,newC,endD,endR,hA,this]
  have hw2 : w64 ((i : Int) + 1) = ((i + 1 : Nat) : Int) := by rw [w64_of (by omega)]; omega
  simp (disch:=first|(simp only [yk,seval];done)|omega|(simp only [yz]<;>omega)|fail) only [↓yp,yA,ys0,ys1,seval,fitB,newC,endD,endR,hA,g9,g8,g7,g1,hw2]
  refine ⟨ps.length - (i + 1), by omega, i + 1, rfl, by omega, ?_, ?_, ?_, ?_, by (repeat (first | exact Fr.refl _ | assumption | refine Fr.allocd ?_ _ | refine Fr.put ?_ (by first | omega | (simp only [yz] <;> omega)) _)), ?_⟩
  ·simp (disch:=first|(simp only [yk,seval];done)|omega|(simp only [yz]<;>omega)|fail) only [yg,seval]
  ·simp (disch:=first|(simp only [yk,seval];done)|omega|(simp only [yz]<;>omega)|fail) only [yg,seval,g8]
  ·simp (disch:=first|(simp only [yk,seval];done)|omega|(simp only [yz]<;>omega)|fail) only [yg,seval,g7]
  ·simp (disch:=first|(simp only [yk,seval];done)|omega|(simp only [yz]<;>omega)|fail) only [yg,seval,g1]
  ·intro j t hj' ht
   by_cases e : j = i
   ·subst e; rw [hx] at ht; cases ht; exact hA
   ·exact hj j t (by omega) ht
 ·have hi' : ¬ i < ps.length := by simpa using hlt
  have : ps.all p = true := by
   rw [List.all_eq_true]
   intro s hs'
   obtain ⟨j, hj'⟩ := List.getElem?_of_mem hs'
   have := (List.getElem?_eq_some_iff.1 hj').1
   exact hj j s (by omega) hj'
  simp (disch:=first|(simp only [yk,seval];done)|omega|(simp only [yz]<;>omega)|fail) only [↓yp,yA,ys0,ys1,seval,fitB,newC,endD,endR,this]
theorem c61 {a : Option Addr} {cap g : Nat} {gs : List Gd} {p : Gd → Bool} (hs : Rw gdE H a gs) (hl : gs.length ≤ 8) (hp : ∀ (N : Nat) (H' : AHeap) (x : Gd), x ∈ gs → acall tabA (aexec tabA Tryz.prog (N + 60)) g [.agg ⟨x.enc⟩] H' = some (true, .bool (p x), H', H'.size)) :
  acall tabA (aexec tabA Tryz.prog (N + 170)) 116 [.slice a gs.length cap, .func (.func g) ⟨[]⟩ ⟨[]⟩] H = some (true, .bool (gs.all p), H, H.size) := by
 refine call_quiet (k := 18) (rs := [.tmp 4]) rfl fn_116 rfl rfl rfl ?_ rfl
 simp (disch:=first|(simp only [yk,seval];done)|omega|(simp only [yz]<;>omega)|fail) only [↓yp,yA,ys0,ys1,seval,fitB,newC,endD,endR,lenV_slice st_esS_23]
 refine W_while (n := 18) 70 (fun k e H' => ∃ i, k = gs.length - i ∧ i ≤ gs.length ∧ gt 18 e 9 = .int .i64 (i : Nat) ∧ gt 18 e 8 = .int .i64 gs.length ∧ gt 18 e 7 = .slice a gs.length cap ∧ gt 18 e 1 = .func (.func g) ⟨[]⟩ ⟨[]⟩ ∧ Fr H H' ∧ ∀ j s, j < i → gs[j]? = some s → p s = true)
  ?_ 8 gs.length ⟨0, by omega, by omega, by simp (disch:=first|(simp only [yk,seval];done)|omega|(simp only [yz]<;>omega)|fail) only [yg,seval] <;> rfl, by simp (disch:=first|(simp only [yk,seval];done)|omega|(simp only [yz]<;>omega)|fail) only [yg,seval], by simp (disch:=first|(simp only [yk,seval];done)|omega|(simp only [yz]<;>omega)|fail) only [yg,seval], by simp (disch:=first|(simp only [yk,seval];done)|omega|(simp only [yz]<;>omega)|fail) only [yg,seval], Fr.refl _, fun j s hj => by omega⟩ (by omega) (by omega)
 rintro M k e H' ⟨i, rfl, hi, g9, g8, g7, g1, fr, hj⟩
 have f0 := fr.size
 have fs := fr.same
 simp (disch:=first|(simp only [yk,seval];done)|omega|(simp only [yz]<;>omega)|fail) only [↓yp,yA,ys0,ys1,seval,fitB,newC,endD,endR,g9,g8,g7,g1]
 refine ⟨fun hlt => ?_, fun hlt => ?_⟩
 ·have hi' : i < gs.length := by simpa using hlt
  obtain ⟨x, hx⟩ : ∃ x, gs[i]? = some x := ⟨gs[i], by simp [hi']⟩
  obtain ⟨b, o, c, rfl, hb, hc, hq⟩ := hs.at_ hx
  have q : part c (o + i * 2) 3 = some (.agg ⟨x.enc⟩) := part_of hq rfl
  have hc' : cellsOf (H'.get b) = some c := by rw [fs b hb]; exact hc
  have hps := fun (N : Nat) (H' : AHeap) => hp N H' x (List.mem_of_getElem? hx)
  simp only [Gd.enc] at q hps
  simp (disch:=first|(simp only [yk,seval];done)|omega|(simp only [yz]<;>omega)|fail) only [↓yp,yA,ys0,ys1,seval,fitB,newC,endD,endR,g9,g8,g7,g1,A_indexSlice st_esS_23,hc',q,hps]
  refine ⟨fun hA => ?_, fun hA => ?_⟩
  rotate_left
  ·have : gs.all p = false := by rw [List.all_eq_false]; exact ⟨x, List.mem_of_getElem? hx, by rw [hA]; simp⟩
   simp (disch:=first|(simp only [yk,seval];done)|omega|(simp only [yz]<;>omega)|fail) only [↓yp,yA,ys0,ys1,seval,fitB,newC,endD,endR,hA,this]
  have hw2 : w64 ((i : Int) + 1) = ((i + 1 : Nat) : Int) := by rw [w64_of (by omega)]; omega
  simp (disch:=first|(simp only [yk,seval];done)|omega|(simp only [yz]<;>omega)|fail) only [↓yp,yA,ys0,ys1,seval,fitB,newC,endD,endR,hA,g9,g8,g7,g1,hw2]
  refine ⟨gs.length - (i + 1), by omega, i + 1, rfl, by omega, ?_, ?_, ?_, ?_, by (repeat (first | exact Fr.refl _ | assumption | refine Fr.allocd ?_ _ | refine Fr.put ?_ (by first | omega | (simp only [yz] <;> omega)) _)), ?_⟩
  ·simp (disch:=first|(simp only [yk,seval];done)|omega|(simp only [yz]<;>omega)|fail) only [yg,seval]
  ·simp (disch:=first|(simp only [yk,seval];done)|omega|(simp only [yz]<;>omega)|fail) only [yg,seval,g8]
  ·simp (disch:=first|(simp only [yk,seval];done)|omega|(simp only [yz]<;>omega)|fail) only [yg,seval,g7]
  ·simp (disch:=first|(simp only [yk,seval];done)|omega|(simp only [yz]<;>omega)|fail) only [yg,seval,g1]
  ·intro j t hj' ht
   by_cases e : j = i
   ·subst e; rw [hx] at ht; cases ht; exact hA
   ·exact hj j t (by omega) ht
 ·have hi' : ¬ i < gs.length := by simpa using hlt
  have : gs.all p = true := by
   rw [List.all_eq_true]
   intro s hs'
   obtain ⟨j, hj'⟩ := List.getElem?_of_mem hs'
   have := (List.getElem?_eq_some_iff.1 hj').1
   exact hj j s (by omega) hj'
  simp (disch:=first|(simp only [yk,seval];done)|omega|(simp only [yz]<;>omega)|fail) only [↓yp,yA,ys0,ys1,seval,fitB,newC,endD,endR,this]
theorem c64 {p : Pk} (h : p.isB = true) : acall tabA (aexec tabA Tryz.prog (N + 60)) 119 [.agg ⟨p.enc⟩] H = some (true, .bool (!decide (p.hi < p.f)), H, H.size) := by
 refine call_quiet (k := 7) (rs := [.tmp 2]) rfl fn_119 rfl rfl rfl ?_ rfl
 have ho : p.Ok := by
  unfold Pk.isB wi at h
  simp only [Bool.and_eq_true,decide_eq_true_eq] at h
  exact ⟨h.1, h.2.1, h.2.2.1, h.2.2.2⟩
 have h66 := fun (N : Nat) (H : AHeap) => c66 (N := N) (H := H) ho
 have h65 := fun (N : Nat) (H : AHeap) => c65 (N := N) (H := H) (a := p.f) (b := p.hi)
 simp only [Pk.enc] at h66
 simp (disch:=first|(simp only [yk,seval];done)|omega|(simp only [yz]<;>omega)|fail) only [↓yp,yA,ys0,ys1,seval,fitB,newC,endD,endR,Pk.enc,h66,h65]
def ordB : List Gd → Bool
 | g :: g' :: l => (decide (g.fo < g'.fo) && decide (g'.pr < g.pr)) && ordB (g' :: l)
 | _ => true
theorem ordB_at : ∀ {gs : List Gd}, ordB gs = true ↔ ∀ i g g', gs[i]? = some g → gs[i + 1]? = some g' → g.fo < g'.fo ∧ g'.pr < g.pr
 | [] => by simp [ordB]
 | [g] => by simp [ordB]
 | g :: g' :: l => by
  unfold ordB
  rw [Bool.and_eq_true, ordB_at (gs := g' :: l)]
  constructor
  ·rintro ⟨h1, h2⟩ i x y hx hy
   cases i with
   | zero =>
    simp at hx hy
    subst hx hy
    simpa using h1
   | succ i => exact h2 i x y (by simpa using hx) (by simpa using hy)
  ·intro h
   refine ⟨?_, fun i x y hx hy => h (i + 1) x y (by simpa using hx) (by simpa using hy)⟩
   have := h 0 g g' rfl rfl
   simpa using this
theorem two_cells {c : List Value} {k : Nat} {u v : Value} (h : (c.drop k).take 2 = [u, v]) : c[k]? = some u ∧ c[k + 1]? = some v := by
 have h0 : ((c.drop k).take 2)[0]? = some u := by rw [h]; rfl
 have h1 : ((c.drop k).take 2)[1]? = some v := by rw [h]; rfl
 rw [List.getElem?_take, if_pos (by omega), List.getElem?_drop] at h0 h1
 exact ⟨h0, h1⟩
set_option maxHeartbeats 1000000 in
theorem c63 {a : Option Addr} {cap : Nat} {gs : List Gd} (hs : Rw gdE H a gs) (hl : gs.length ≤ 8) : acall tabA (aexec tabA Tryz.prog (N + 170)) 118 [.slice a gs.length cap] H = some (true, .bool (ordB gs), H, H.size) := by
 refine call_quiet (k := 36) (rs := [.tmp 2]) rfl fn_118 rfl rfl rfl ?_ rfl
 simp (disch:=first|(simp only [yk,seval];done)|omega|(simp only [yz]<;>omega)|fail) only [↓yp,yA,ys0,ys1,seval,fitB,newC,endD,endR,lenV_slice st_esS_23]
 refine W_while (n := 36) 70 (fun k e H' => ∃ i : Nat, k = gs.length + 1 - i ∧ 1 ≤ i ∧ i ≤ gs.length + 1 ∧ gt 36 e 3 = .int .i64 (i : Nat) ∧ gt 36 e 0 = .slice a gs.length cap ∧ H' = H ∧ ∀ j x y, j + 1 < i → gs[j]? = some x → gs[j + 1]? = some y → x.fo < y.fo ∧ y.pr < x.pr)
  ?_ 9 gs.length ⟨1, by omega, by omega, by omega, by simp (disch:=first|(simp only [yk,seval];done)|omega|(simp only [yz]<;>omega)|fail) only [yg,seval] <;> rfl, by simp (disch:=first|(simp only [yk,seval];done)|omega|(simp only [yz]<;>omega)|fail) only [yg,seval], rfl, fun j x y hj => by omega⟩ (by omega) (by omega)
 rintro M k e H' ⟨i, rfl, h1i, hi, g3, g0, rfl, hj⟩
 simp (disch:=first|(simp only [yk,seval];done)|omega|(simp only [yz]<;>omega)|fail) only [↓yp,yA,ys0,ys1,seval,fitB,newC,endD,endR,g3,g0,lenV_slice st_esS_23]
 refine ⟨fun hA => ?_, fun hA => ?_⟩
 ·have hi' : i < gs.length := by simpa using hA
  obtain ⟨j, rfl⟩ : ∃ j, i = j + 1 := ⟨i - 1, by omega⟩
  obtain ⟨x, hx⟩ : ∃ x, gs[j]? = some x := ⟨gs[j], by simp [show j < gs.length by omega]⟩
  obtain ⟨y, hy⟩ : ∃ y, gs[j + 1]? = some y := ⟨gs[j + 1], by simp [hi']⟩
  obtain ⟨b, o, c, rfl, hb, hc, hq⟩ := hs.get (fun h => by rw [h] at hx; simp at hx)
  obtain ⟨b1, o1, c1, e1, -, hc1, hq1⟩ := hs.at_ hx
  cases e1
  obtain ⟨b2, o2, c2, e2, -, hc2, hq2⟩ := hs.at_ hy
  cases e2
  rw [hc] at hc1 hc2
  cases hc1
  cases hc2
  obtain ⟨x0, x1⟩ := two_cells (u := .int .i64 x.fo) (v := .int .i64 x.pr) hq1
  obtain ⟨y0, y1⟩ := two_cells (u := .int .i64 y.fo) (v := .int .i64 y.pr) hq2
  rw [show gdE.z = 2 from rfl] at x0 x1 y0 y1
  have w1 : w64 (((j + 1 : Nat) : Int) - 1) = (j : Int) := by rw [w64_of (by omega)]; omega
  have w2 : w64 (((j + 1 : Nat) : Int) + 1) = ((j + 1 + 1 : Nat) : Int) := by rw [w64_of (by omega)]; omega
  have no : ¬ (x.fo < y.fo ∧ y.pr < x.pr) → ordB gs = false := fun h => by
   cases ho : ordB gs with
   | false => rfl
   | true => exact absurd (ordB_at.1 ho j x y hx hy) h
  simp (disch:=first|(simp only [yk,seval];done)|omega|(simp only [yz]<;>omega)|fail) only [↓yp,yA,ys0,ys1,seval,fitB,newC,endD,endR,g3,g0]
  refine W_draw [] rfl (by kernel_rfl) (by kernel_rfl) (by first|omega|(simp only [yz]<;>omega)) ?_
  cases hB : decide (y.fo ≤ x.fo)
  ·cases hC : decide (x.pr ≤ y.pr)
   ·have h1 := of_decide_eq_false hB
    have h2 := of_decide_eq_false hC
    simp (disch:=first|(simp only [yk,seval];done)|omega|(simp only [yz]<;>omega)|fail) only [↓yp,yA,ys0,ys1,seval,fitB,newC,endD,endR,g3,g0,A_indexSlice st_esS_23,hc,x0,x1,y0,y1,w1,w2,hB,hC]
    refine ⟨gs.length + 1 - (j + 1 + 1), by omega, j + 1 + 1, rfl, by omega, by omega, ?_, ?_, rfl, ?_⟩
    ·simp (disch:=first|(simp only [yk,seval];done)|omega|(simp only [yz]<;>omega)|fail) only [yg,seval]
    ·simp (disch:=first|(simp only [yk,seval];done)|omega|(simp only [yz]<;>omega)|fail) only [yg,seval,g0]
    ·intro j' x' y' hj' hx' hy'
     by_cases e : j' = j
     ·subst e; rw [hx] at hx'; rw [hy] at hy'; cases hx'; cases hy'; exact ⟨by omega, by omega⟩
     ·exact hj j' x' y' (by omega) hx' hy'
   ·have h2 := of_decide_eq_true hC
    have hn := no (by omega)
    simp (disch:=first|(simp only [yk,seval];done)|omega|(simp only [yz]<;>omega)|fail) only [↓yp,yA,ys0,ys1,seval,fitB,newC,endD,endR,g3,g0,A_indexSlice st_esS_23,hc,x0,x1,y0,y1,w1,w2,hB,hC,hn]
  ·have h2 := of_decide_eq_true hB
   have hn := no (by omega)
   simp (disch:=first|(simp only [yk,seval];done)|omega|(simp only [yz]<;>omega)|fail) only [↓yp,yA,ys0,ys1,seval,fitB,newC,endD,endR,g3,g0,A_indexSlice st_esS_23,hc,x0,x1,y0,y1,w1,w2,hB,hn]
 ·have hi' : ¬ i < gs.length := by simpa using hA
  have : ordB gs = true := ordB_at.2 fun j x y hx hy => hj j x y (by have := (List.getElem?_eq_some_iff.1 hy).1; omega) hx hy
  simp (disch:=first|(simp only [yk,seval];done)|omega|(simp only [yz]<;>omega)|fail) only [↓yp,yA,ys0,ys1,seval,fitB,newC,endD,endR,this]
end Go.Am
namespace Go.Am
open Go.Proofs
variable {T : Tab} {P : Program} {N L : Nat} {H : AHeap} {Q : Bool → Value → AHeap → Prop}
def chk1 (ps : List Pk) (gs : List Gd) : Bool := !wi ps.length 1 4 || decide (4 < (gs.length : Int))
def chk2 (ps : List Pk) (gs : List Gd) (lots : Int) : Bool := (!ps.all Pk.isB || !gs.all Gd.isB) || !wi lots 0 3
def chkS (ps : List Pk) (gs : List Gd) (lots : Int) : Int :=
 bif chk1 ps gs then 3 else bif chk2 ps gs lots then 4 else bif ordB gs then bif ps.all fun p => !decide (p.hi < p.f) then 0 else 7 else 6
set_option maxHeartbeats 1000000 in
theorem c16 {a a' : Option Addr} {cap cap' : Nat} {ps : List Pk} {gs : List Gd} {lots : Int} (hs : Rw pkE H a ps) (hgs : Rw gdE H a' gs) :
  acall tabA (aexec tabA Tryz.prog (N + 300)) 45 [.agg ⟨[.slice a ps.length cap, .slice a' gs.length cap', .int .i64 lots]⟩] H = some (true, .int .i64 (chkS ps gs lots), H, H.size) := by
 refine call_quiet (k := 42) (rs := [.tmp 2]) rfl fn_45 rfl rfl rfl ?_ rfl
 have h58 := fun (N : Nat) (H : AHeap) (n lo hi : Int) => c58 (N := N) (H := H) (n := n) (lo := lo) (hi := hi)
 have fr : Fr H (H.alloc (.rw [.slice a ps.length cap, .slice a' gs.length cap', .int .i64 lots] 25 false [])) := by (repeat (first | exact Fr.refl _ | assumption | refine Fr.allocd ?_ _ | refine Fr.put ?_ (by first | omega | (simp only [yz] <;> omega)) _))
 cases hA : wi (ps.length : Int) 1 4
 ·have e : chkS ps gs lots = 3 := by unfold chkS chk1; rw [hA]; rfl
  rw [e]
  simp (disch:=first|(simp only [yk,seval];done)|omega|(simp only [yz]<;>omega)|fail) only [↓yp,yA,ys0,ys1,seval,fitB,newC,endD,endR,lenV_slice st_esS_22,lenV_slice st_esS_23,h58,hA]
 cases hB : decide (4 < (gs.length : Int))
 rotate_left
 ·have e : chkS ps gs lots = 3 := by unfold chkS chk1; rw [hA, hB]; rfl
  rw [e]
  simp (disch:=first|(simp only [yk,seval];done)|omega|(simp only [yz]<;>omega)|fail) only [↓yp,yA,ys0,ys1,seval,fitB,newC,endD,endR,lenV_slice st_esS_22,lenV_slice st_esS_23,h58,hA,hB]
 have hl : ps.length ≤ 4 := by unfold wi at hA; simp at hA; omega
 have hgl : gs.length ≤ 4 := by simp at hB; omega
 have h59 := fun (N : Nat) => c59 (N := N) (cap := cap) (g := 115) (p := Pk.isB) (hs.fr fr) (by omega) fun N H' x _ => c60
 have h61 := fun (N : Nat) => c61 (N := N) (cap := cap') (g := 117) (p := Gd.isB) (hgs.fr fr) (by omega) fun N H' x _ => c62
 have h63 := fun (N : Nat) => c63 (N := N) (cap := cap') (hgs.fr fr) (by omega)
 have e0 : chkS ps gs lots = bif chk2 ps gs lots then 4 else bif ordB gs then bif ps.all fun p => !decide (p.hi < p.f) then 0 else 7 else 6 := by unfold chkS chk1; rw [hA, hB]; rfl
 rw [e0]
 cases hC : ps.all Pk.isB
 ·have e : chk2 ps gs lots = true := by unfold chk2; rw [hC]; rfl
  rw [e, cond_true]
  simp (disch:=first|(simp only [yk,seval];done)|omega|(simp only [yz]<;>omega)|fail) only [↓yp,yA,ys0,ys1,seval,fitB,newC,endD,endR,lenV_slice st_esS_22,lenV_slice st_esS_23,h58,h59,h61,hA,hB,hC]
 cases hD : gs.all Gd.isB
 ·have e : chk2 ps gs lots = true := by unfold chk2; rw [hC, hD]; rfl
  rw [e, cond_true]
  simp (disch:=first|(simp only [yk,seval];done)|omega|(simp only [yz]<;>omega)|fail) only [↓yp,yA,ys0,ys1,seval,fitB,newC,endD,endR,lenV_slice st_esS_22,lenV_slice st_esS_23,h58,h59,h61,hA,hB,hC,hD]
 cases hE : wi lots 0 3
 ·have e : chk2 ps gs lots = true := by unfold chk2; rw [hC, hD, hE]; rfl
  rw [e, cond_true]
  simp (disch:=first|(simp only [yk,seval];done)|omega|(simp only [yz]<;>omega)|fail) only [↓yp,yA,ys0,ys1,seval,fitB,newC,endD,endR,lenV_slice st_esS_22,lenV_slice st_esS_23,h58,h59,h61,hA,hB,hC,hD,hE]
 have e : chk2 ps gs lots = false := by unfold chk2; rw [hC, hD, hE]; rfl
 rw [e, cond_false]
 cases hF : ordB gs
 ·rw [cond_false]
  simp (disch:=first|(simp only [yk,seval];done)|omega|(simp only [yz]<;>omega)|fail) only [↓yp,yA,ys0,ys1,seval,fitB,newC,endD,endR,lenV_slice st_esS_22,lenV_slice st_esS_23,h58,h59,h61,h63,hA,hB,hC,hD,hE,hF]
 rw [cond_true]
 have h59' := fun (N : Nat) => c59 (N := N) (cap := cap) (g := 119) (p := fun p => !decide (p.hi < p.f)) (hs.fr fr) (by omega) fun N H' x hx => c64 (List.all_eq_true.1 hC x hx)
 cases hG : ps.all fun p => !decide (p.hi < p.f)
 ·rw [cond_false]
  simp (disch:=first|(simp only [yk,seval];done)|omega|(simp only [yz]<;>omega)|fail) only [↓yp,yA,ys0,ys1,seval,fitB,newC,endD,endR,lenV_slice st_esS_22,lenV_slice st_esS_23,h58,h59,h61,h63,h59',hA,hB,hC,hD,hE,hF,hG]
 ·rw [cond_true]
  simp (disch:=first|(simp only [yk,seval];done)|omega|(simp only [yz]<;>omega)|fail) only [↓yp,yA,ys0,ys1,seval,fitB,newC,endD,endR,lenV_slice st_esS_22,lenV_slice st_esS_23,h58,h59,h61,h63,h59',hA,hB,hC,hD,hE,hF,hG]
end Go.Am
namespace Go.Am.K
open Go.Proofs
variable {T : Tab} {P : Program} {N L : Nat} {H : AHeap} {Q : Bool → Value → AHeap → Prop}
theorem c66 {p : Pk} (h : p.Ok) : acall tabA (aexec tabA Tryz.prog (N + 40)) 69 [.agg ⟨p.enc⟩] H = some (true, .agg ⟨[.int .i64 p.f, .int .i64 p.hi]⟩, H, H.size) := by
 refine call_quiet (k := 17) (rs := [.cell 2 37]) rfl fn_69 rfl rfl rfl ?_ rfl
 obtain ⟨h1, h2, h3, h4⟩ := h
 have w1 : w64 (p.s - p.o) = p.s - p.o := w64_of (by omega)
 have w2 : w64 (p.s - p.o + p.f) = p.s - p.o + p.f := w64_of (by omega)
 have hh : (if p.s - p.o + p.f < p.w then p.s - p.o + p.f else p.w) = p.hi := rfl
 simp (disch:=first|(simp only [yk,seval];done)|omega|(simp only [yz]<;>omega)|fail) only [↓yp,yA,ys0,ys1,seval,fitB,newC,endD,endR,Pk.enc,A_min,mm_min,w1,w2,hh,A_build st_bdS_37]
theorem c94 {p : Pk} {n : Int} (h : p.Ok) (hn : 0 ≤ n ∧ n ≤ 6) : acall tabA (aexec tabA Tryz.prog (N + 80)) 70 [.agg ⟨p.enc⟩, .int .i64 n] H = some (true, .agg ⟨[.int .i64 (p.il n), .int .i64 (p.ih n)]⟩, H, H.size) := by
 refine call_quiet (k := 23) (rs := [.cell 4 37]) rfl fn_70 rfl rfl rfl ?_ rfl
 have h66 := fun (N : Nat) (H : AHeap) => c66 (N := N) (H := H) h
 obtain ⟨h1, h2, h3, h4⟩ := h
 have w1 : w64 (p.s - n) = p.s - n := w64_of (by omega)
 have w2 : w64 (p.f - (p.s - n)) = p.f - (p.s - n) := w64_of (by omega)
 have hl : (if 0 > p.f - (p.s - n) then 0 else p.f - (p.s - n)) = p.il n := rfl
 have hh : (if n < p.hi then n else p.hi) = p.ih n := rfl
 simp only [Pk.enc] at h66
 simp (disch:=first|(simp only [yk,seval];done)|omega|(simp only [yz]<;>omega)|fail) only [↓yp,yA,ys0,ys1,seval,fitB,newC,endD,endR,Pk.enc]
 refine W_draw [6, 7] rfl (by kernel_rfl) (by kernel_rfl) (by first|omega|(simp only [yz]<;>omega)) ?_
 simp (disch:=first|(simp only [yk,seval];done)|omega|(simp only [yz]<;>omega)|fail) only [↓yp,yA,ys0,ys1,seval,fitB,newC,endD,endR,h66,w1]
 simp (disch:=first|(simp only [yk,seval];done)|omega|(simp only [yz]<;>omega)|fail) only [↓yp,yA,ys0,ys1,seval,fitB,newC,endD,endR,A_min,A_max,mm_min,mm_max,w2,hl,hh,A_build st_bdS_37]
theorem c130 {a b : Int} : acall tabA (aexec tabA Tryz.prog (N + 20)) 169 [.agg ⟨[.int .i64 a, .int .i64 b]⟩] H = some (true, .int .i64 a, H, H.size) := by
 refine call_quiet (k := 5) (rs := [.tmp 2]) rfl fn_169 rfl rfl rfl ?_ rfl
 simp (disch:=first|(simp only [yk,seval];done)|omega|(simp only [yz]<;>omega)|fail) only [↓yp,yA,ys0,ys1,seval,fitB,newC,endD,endR]
theorem c115 {a b : Int} : acall tabA (aexec tabA Tryz.prog (N + 20)) 140 [.agg ⟨[.int .i64 a, .int .i64 b]⟩] H = some (true, .int .i64 b, H, H.size) := by
 refine call_quiet (k := 5) (rs := [.tmp 2]) rfl fn_140 rfl rfl rfl ?_ rfl
 simp (disch:=first|(simp only [yk,seval];done)|omega|(simp only [yz]<;>omega)|fail) only [↓yp,yA,ys0,ys1,seval,fitB,newC,endD,endR]
end Go.Am.K
namespace Go.Am.K
open Go.Proofs
variable {T : Tab} {P : Program} {N L : Nat} {H : AHeap} {Q : Bool → Value → AHeap → Prop}
theorem st_arS_120 : arS tabA 120 = some (4, 1) := by kernel_rfl
theorem c103 {a : Option Addr} {cap : Nat} {t : List Int} (hs : Rw intE H a t) (hl : t.length ≤ 64) (hb : ∀ x ∈ t, 0 ≤ x ∧ x ≤ 1000000) :
  acall tabA (aexec tabA Tryz.prog (N + 150)) 96 [.slice a t.length cap] H = some (true, .int .i64 (isum t), H, H.size) := by
 refine call_quiet (k := 17) (rs := [.tmp 2]) rfl fn_96 rfl rfl rfl ?_ rfl
 simp (disch:=first|(simp only [yk,seval];done)|omega|(simp only [yz]<;>omega)|fail) only [↓yp,yA,ys0,ys1,seval,fitB,newC,endD,endR,lenV_slice st_esS_26]
 refine W_while (n := 17) 40 (fun k e H' => ∃ i : Nat, k = t.length - i ∧ i ≤ t.length ∧ gt 17 e 8 = .int .i64 (i : Nat) ∧ gt 17 e 7 = .int .i64 t.length ∧ gt 17 e 6 = .slice a t.length cap ∧ gt 17 e 3 = .int .i64 (isum (t.take i)) ∧ H' = H)
  ?_ 64 t.length ⟨0, by omega, by omega, by simp (disch:=first|(simp only [yk,seval];done)|omega|(simp only [yz]<;>omega)|fail) only [yg,seval] <;> rfl, by simp (disch:=first|(simp only [yk,seval];done)|omega|(simp only [yz]<;>omega)|fail) only [yg,seval], by simp (disch:=first|(simp only [yk,seval];done)|omega|(simp only [yz]<;>omega)|fail) only [yg,seval], by simp (disch:=first|(simp only [yk,seval];done)|omega|(simp only [yz]<;>omega)|fail) only [yg,seval] <;> rfl, rfl⟩ (by omega) (by omega)
 rintro M k e H' ⟨i, rfl, hi, g8, g7, g6, g3, rfl⟩
 simp (disch:=first|(simp only [yk,seval];done)|omega|(simp only [yz]<;>omega)|fail) only [↓yp,yA,ys0,ys1,seval,fitB,newC,endD,endR,g8,g7]
 refine ⟨fun hA => ?_, fun hA => ?_⟩
 ·have hi' : i < t.length := by simpa using hA
  obtain ⟨v, hv⟩ : ∃ v, t[i]? = some v := ⟨t[i], by simp [hi']⟩
  obtain ⟨b, o, c, rfl, hb', hc, hp⟩ := hs.at_ hv
  have q := cell_of hp
  rw [show i * intE.z = i * 1 from rfl, Nat.mul_one] at q
  have hv2 := hb v (List.mem_of_getElem? hv)
  have hs1 := isum_le (l := t.take i) (m := 1000000) fun x hx => hb x (List.mem_of_mem_take hx)
  have hl1 : (t.take i).length ≤ 64 := by rw [List.length_take]; omega
  have e1 : isum (t.take i) + v = isum (t.take (i + 1)) := by
   rw [List.take_add_one, hv, isum_app]; show _ = _ + (v + 0); omega
  have hw : w64 (isum (t.take i) + v) = isum (t.take (i + 1)) := by rw [w64_of (by omega), e1]
  have hw2 : w64 ((i : Int) + 1) = ((i + 1 : Nat) : Int) := by rw [w64_of (by omega)]; omega
  simp (disch:=first|(simp only [yk,seval];done)|omega|(simp only [yz]<;>omega)|fail) only [↓yp,yA,ys0,ys1,seval,fitB,newC,endD,endR,g8,g7,g6,g3,A_indexSlice st_esS_26,hc,q,hw,hw2]
  exact ⟨t.length - (i + 1), by omega, i + 1, rfl, by omega, by simp (disch:=first|(simp only [yk,seval];done)|omega|(simp only [yz]<;>omega)|fail) only [yg,seval], by simp (disch:=first|(simp only [yk,seval];done)|omega|(simp only [yz]<;>omega)|fail) only [yg,seval,g7], by simp (disch:=first|(simp only [yk,seval];done)|omega|(simp only [yz]<;>omega)|fail) only [yg,seval,g6], by simp (disch:=first|(simp only [yk,seval];done)|omega|(simp only [yz]<;>omega)|fail) only [yg,seval], rfl⟩
 ·have hi' : i = t.length := by
   have : ¬ ((i : Int) < t.length) := by simpa using hA
   omega
  subst hi'
  rw [List.take_length] at g3
  simp (disch:=first|(simp only [yk,seval];done)|omega|(simp only [yz]<;>omega)|fail) only [↓yp,yA,ys0,ys1,seval,fitB,newC,endD,endR,g3]
theorem c76 {t : List Int} (hl : t.length = 4) (hb : ∀ x ∈ t, 0 ≤ x ∧ x ≤ 1000000) : acall tabA (aexec tabA Tryz.prog (N + 200)) 132 [.agg ⟨tv t⟩] H = some (true, .int .i64 (isum t), H, H.size) := by
 refine call_quiet (k := 5) (rs := [.tmp 2]) rfl fn_132 rfl rfl rfl ?_ rfl
 obtain ⟨a, b, c, d, rfl⟩ : ∃ a b c d : Int, t = [a, b, c, d] := by
  match t, hl with
  | [a, b, c, d], _ => exact ⟨a, b, c, d, rfl⟩
 have h103 := fun (N : Nat) => c103 (N := N) (H := H.alloc (.rw (tv [a, b, c, d]) 120 false [])) (cap := 4) (Rw.int (b := H.size) (by simp) (by rw [get_alloc_eq rfl]; rfl)) (by simp) hb
 simp only [tv,List.map_cons,List.map_nil,List.length_cons,List.length_nil,Nat.zero_add,Nat.reduceAdd] at h103
 simp (disch:=first|(simp only [yk,seval];done)|omega|(simp only [yz]<;>omega)|fail) only [↓yp,yA,ys0,ys1,seval,fitB,newC,endD,endR,tv,A_all st_arS_120 (by unfold OPEN; omega) (by omega),h103]
end Go.Am.K
