import Derived.Test.YtehkjjgpgnejnaaT29
import Derived.Test.YtehkjjgpgnejnaaT30
set_option linter.unusedSimpArgs false
set_option linter.unusedVariables false
namespace Go.Am.K
open Go.Proofs
variable {T : Tab} {P : Program} {N L : Nat} {H : AHeap} {Q : Bool → Value → AHeap → Prop}
theorem c58 {n lo hi : Int} : acall tabA (aexec tabA Try.prog (N + 20)) 58 [.int .i64 n, .int .i64 lo, .int .i64 hi] H = some (true, .bool (wi n lo hi), H, H.size) := by
 refine call_quiet (k := 15) (rs := [.tmp 6]) rfl fn_58 rfl rfl rfl ?_ rfl
 unfold wi
 cases hA : decide (lo ≤ n)
 ·simp (disch:=first|(simp only [yk,seval];done)|omega|(simp only [yz]<;>omega)|fail) only [↓yp,yq0,yq1,yq2,yq3,yq4,yl,ys0,ys1,seval,fitB,newC,endD,endR,hA]
 ·simp (disch:=first|(simp only [yk,seval];done)|omega|(simp only [yz]<;>omega)|fail) only [↓yp,yq0,yq1,yq2,yq3,yq4,yl,ys0,ys1,seval,fitB,newC,endD,endR,hA]
theorem c60 {p : Pk} : acall tabA (aexec tabA Try.prog (N + 60)) 60 [.agg ⟨p.enc⟩] H = some (true, .bool p.isB, H, H.size) := by
 refine call_quiet (k := 27) (rs := [.tmp 2]) rfl fn_60 rfl rfl rfl ?_ rfl
 unfold Pk.isB
 have h58 := fun (N : Nat) (H : AHeap) (n lo hi : Int) => c58 (N := N) (H := H) (n := n) (lo := lo) (hi := hi)
 cases hA : wi p.s 0 6
 ·simp (disch:=first|(simp only [yk,seval];done)|omega|(simp only [yz]<;>omega)|fail) only [↓yp,yq0,yq1,yq2,yq3,yq4,yl,ys0,ys1,seval,fitB,newC,endD,endR,Pk.enc,h58,hA]
 ·cases hB : wi p.w 0 p.s
  ·simp (disch:=first|(simp only [yk,seval];done)|omega|(simp only [yz]<;>omega)|fail) only [↓yp,yq0,yq1,yq2,yq3,yq4,yl,ys0,ys1,seval,fitB,newC,endD,endR,Pk.enc,h58,hA,hB]
  ·cases hC : wi p.o 0 p.s
   ·simp (disch:=first|(simp only [yk,seval];done)|omega|(simp only [yz]<;>omega)|fail) only [↓yp,yq0,yq1,yq2,yq3,yq4,yl,ys0,ys1,seval,fitB,newC,endD,endR,Pk.enc,h58,hA,hB,hC]
   ·simp (disch:=first|(simp only [yk,seval];done)|omega|(simp only [yz]<;>omega)|fail) only [↓yp,yq0,yq1,yq2,yq3,yq4,yl,ys0,ys1,seval,fitB,newC,endD,endR,Pk.enc,h58,hA,hB,hC]
theorem c62 {g : Gd} : acall tabA (aexec tabA Try.prog (N + 60)) 62 [.agg ⟨g.enc⟩] H = some (true, .bool g.isB, H, H.size) := by
 refine call_quiet (k := 11) (rs := [.tmp 2]) rfl fn_62 rfl rfl rfl ?_ rfl
 unfold Gd.isB
 have h58 := fun (N : Nat) (H : AHeap) (n lo hi : Int) => c58 (N := N) (H := H) (n := n) (lo := lo) (hi := hi)
 cases hA : wi g.fo 0 100
 ·simp (disch:=first|(simp only [yk,seval];done)|omega|(simp only [yz]<;>omega)|fail) only [↓yp,yq0,yq1,yq2,yq3,yq4,yl,ys0,ys1,seval,fitB,newC,endD,endR,Gd.enc,h58,hA]
 ·simp (disch:=first|(simp only [yk,seval];done)|omega|(simp only [yz]<;>omega)|fail) only [↓yp,yq0,yq1,yq2,yq3,yq4,yl,ys0,ys1,seval,fitB,newC,endD,endR,Gd.enc,h58,hA]
theorem c65 {a b : Int} : acall tabA (aexec tabA Try.prog (N + 20)) 65 [.agg ⟨[.int .i64 a, .int .i64 b]⟩] H = some (true, .bool (decide (b < a)), H, H.size) := by
 refine call_quiet (k := 8) (rs := [.tmp 2]) rfl fn_65 rfl rfl rfl ?_ rfl
 simp (disch:=first|(simp only [yk,seval];done)|omega|(simp only [yz]<;>omega)|fail) only [↓yp,yq0,yq1,yq2,yq3,yq4,yl,ys0,ys1,seval,fitB,newC,endD,endR]
theorem c59 {a : Option Addr} {cap g : Nat} {ps : List Pk} {p : Pk → Bool} (hs : Rw pkE H a ps) (hl : ps.length ≤ 8) (hp : ∀ (N : Nat) (H' : AHeap) (x : Pk), x ∈ ps → acall tabA (aexec tabA Try.prog (N + 60)) g [.agg ⟨x.enc⟩] H' = some (true, .bool (p x), H', H'.size)) :
  acall tabA (aexec tabA Try.prog (N + 170)) 59 [.slice a ps.length cap, .func (.func g) ⟨[]⟩ ⟨[]⟩] H = some (true, .bool (ps.all p), H, H.size) := by
 refine call_quiet (k := 18) (rs := [.tmp 4]) rfl fn_59 rfl rfl rfl ?_ rfl
 simp (disch:=first|(simp only [yk,seval];done)|omega|(simp only [yz]<;>omega)|fail) only [↓yp,yq0,yq1,yq2,yq3,yq4,yl,ys0,ys1,seval,fitB,newC,endD,endR,lenV_slice st_esS_22]
 refine W_while (n := 18) 70 (fun k e H' => ∃ i, k = ps.length - i ∧ i ≤ ps.length ∧ gt 18 e 9 = .int .i64 (i : Nat) ∧ gt 18 e 8 = .int .i64 ps.length ∧ gt 18 e 7 = .slice a ps.length cap ∧ gt 18 e 1 = .func (.func g) ⟨[]⟩ ⟨[]⟩ ∧ Fr H H' ∧ ∀ j s, j < i → ps[j]? = some s → p s = true)
  ?_ 8 ps.length ⟨0, by omega, by omega, by simp (disch:=first|(simp only [yk,seval];done)|omega|(simp only [yz]<;>omega)|fail) only [yg,seval] <;> rfl, by simp (disch:=first|(simp only [yk,seval];done)|omega|(simp only [yz]<;>omega)|fail) only [yg,seval], by simp (disch:=first|(simp only [yk,seval];done)|omega|(simp only [yz]<;>omega)|fail) only [yg,seval], by simp (disch:=first|(simp only [yk,seval];done)|omega|(simp only [yz]<;>omega)|fail) only [yg,seval], Fr.refl _, fun j s hj => by omega⟩ (by omega) (by omega)
 rintro M k e H' ⟨i, rfl, hi, g9, g8, g7, g1, fr, hj⟩
 have f0 := fr.size
 have fs := fr.same
 simp (disch:=first|(simp only [yk,seval];done)|omega|(simp only [yz]<;>omega)|fail) only [↓yp,yq0,yq1,yq2,yq3,yq4,yl,ys0,ys1,seval,fitB,newC,endD,endR,g9,g8,g7,g1]
 refine ⟨fun hlt => ?_, fun hlt => ?_⟩
 ·have hi' : i < ps.length := by simpa using hlt
  obtain ⟨x, hx⟩ : ∃ x, ps[i]? = some x := ⟨ps[i], by simp [hi']⟩
  obtain ⟨b, o, c, rfl, hb, hc, hq⟩ := hs.at_ hx
  have q : part c (o + i * 4) 5 = some (.agg ⟨x.enc⟩) := part_of hq rfl
  have hc' : cellsOf (H'.get b) = some c := by rw [fs b hb]; exact hc
  have hps := fun (N : Nat) (H' : AHeap) => hp N H' x (List.mem_of_getElem? hx)
  simp only [Pk.enc] at q hps
  simp (disch:=first|(simp only [yk,seval];done)|omega|(simp only [yz]<;>omega)|fail) only [↓yp,yq0,yq1,yq2,yq3,yq4,yl,ys0,ys1,seval,fitB,newC,endD,endR,g9,g8,g7,g1,A_indexSlice st_esS_22,hc',q,hps]
  refine ⟨fun hA => ?_, fun hA => ?_⟩
  rotate_left
  ·have : ps.all p = false := by rw [List.all_eq_false]; exact ⟨x, List.mem_of_getElem? hx, by rw [hA]; simp⟩
   simp (disch:=first|(simp only [yk,seval];done)|omega|(simp only [yz]<;>omega)|fail) only [↓yp,yq0,yq1,yq2,yq3,yq4,yl,ys0,ys1,seval,fitB,newC,endD,endR,hA,this]
  have hw2 : w64 ((i : Int) + 1) = ((i + 1 : Nat) : Int) := by rw [w64_of (by omega)]; omega
  simp (disch:=first|(simp only [yk,seval];done)|omega|(simp only [yz]<;>omega)|fail) only [↓yp,yq0,yq1,yq2,yq3,yq4,yl,ys0,ys1,seval,fitB,newC,endD,endR,hA,g9,g8,g7,g1,hw2]
  refine ⟨ps.length - (i + 1), by omega, i + 1, rfl, by omega, ?_, ?_, ?_, ?_, by (repeat (first | exact Fr.refl _ | assumption | refine Fr.allocd ?_ _ | refine Fr.put ?_ (by first | omega | (simp only [yz] <;> omega)) _)), ?_⟩
  ·simp (disch:=first|(simp only [yk,seval];done)|omega|(simp only [yz]<;>omega)|fail) only [yg,seval]
  ·simp (disch:=first|(simp only [yk,seval];done)|omega|(simp only [yz]<;>omega)|fail) only [yg,seval,g8]
  ·simp (disch:=first|(simp only [yk,seval];done)|omega|(simp only [yz]<;>omega)|fail) only [yg,seval,g7]
  ·simp (disch:=first|(simp only [yk,seval];done)|omega|(simp only [yz]<;>omega)|fail) only [yg,seval,g1]
  ·intro j t hj' ht
   by_cases e : j = i
   ·subst e; rw [hx] at ht; cases ht; exact hA
   ·exact hj j t (by omega) ht
 ·have hi' : ¬ i < ps.length := by simpa using hlt
  have : ps.all p = true := by
   rw [List.all_eq_true]
   intro s hs'
   obtain ⟨j, hj'⟩ := List.getElem?_of_mem hs'
   have := (List.getElem?_eq_some_iff.1 hj').1
   exact hj j s (by omega) hj'
  simp (disch:=first|(simp only [yk,seval];done)|omega|(simp only [yz]<;>omega)|fail) only [↓yp,yq0,yq1,yq2,yq3,yq4,yl,ys0,ys1,seval,fitB,newC,endD,endR,this]
theorem c61 {a : Option Addr} {cap g : Nat} {gs : List Gd} {p : Gd → Bool} (hs : Rw gdE H a gs) (hl : gs.length ≤ 8) (hp : ∀ (N : Nat) (H' : AHeap) (x : Gd), x ∈ gs → acall tabA (aexec tabA Try.prog (N + 60)) g [.agg ⟨x.enc⟩] H' = some (true, .bool (p x), H', H'.size)) :
  acall tabA (aexec tabA Try.prog (N + 170)) 61 [.slice a gs.length cap, .func (.func g) ⟨[]⟩ ⟨[]⟩] H = some (true, .bool (gs.all p), H, H.size) := by
 refine call_quiet (k := 18) (rs := [.tmp 4]) rfl fn_61 rfl rfl rfl ?_ rfl
 simp (disch:=first|(simp only [yk,seval];done)|omega|(simp only [yz]<;>omega)|fail) only [↓yp,yq0,yq1,yq2,yq3,yq4,yl,ys0,ys1,seval,fitB,newC,endD,endR,lenV_slice st_esS_23]
 refine W_while (n := 18) 70 (fun k e H' => ∃ i, k = gs.length - i ∧ i ≤ gs.length ∧ gt 18 e 9 = .int .i64 (i : Nat) ∧ gt 18 e 8 = .int .i64 gs.length ∧ gt 18 e 7 = .slice a gs.length cap ∧ gt 18 e 1 = .func (.func g) ⟨[]⟩ ⟨[]⟩ ∧ Fr H H' ∧ ∀ j s, j < i → gs[j]? = some s → p s = true)
  ?_ 8 gs.length ⟨0, by omega, by omega, by simp (disch:=first|(simp only [yk,seval];done)|omega|(simp only [yz]<;>omega)|fail) only [yg,seval] <;> rfl, by simp (disch:=first|(simp only [yk,seval];done)|omega|(simp only [yz]<;>omega)|fail) only [yg,seval], by simp (disch:=first|(simp only [yk,seval];done)|omega|(simp only [yz]<;>omega)|fail) only [yg,seval], by simp (disch:=first|(simp only [yk,seval];done)|omega|(simp only [yz]<;>omega)|fail) only [yg,seval], Fr.refl _, fun j s hj => by omega⟩ (by omega) (by omega)
 rintro M k e H' ⟨i, rfl, hi, g9, g8, g7, g1, fr, hj⟩
 have f0 := fr.size
 have fs := fr.same
 simp (disch:=first|(simp only [yk,seval];done)|omega|(simp only [yz]<;>omega)|fail) only [↓yp,yq0,yq1,yq2,yq3,yq4,yl,ys0,ys1,seval,fitB,newC,endD,endR,g9,g8,g7,g1]
 refine ⟨fun hlt => ?_, fun hlt => ?_⟩
 ·have hi' : i < gs.length := by simpa using hlt
  obtain ⟨x, hx⟩ : ∃ x, gs[i]? = some x := ⟨gs[i], by simp [hi']⟩
  obtain ⟨b, o, c, rfl, hb, hc, hq⟩ := hs.at_ hx
  have q : part c (o + i * 2) 3 = some (.agg ⟨x.enc⟩) := part_of hq rfl
  have hc' : cellsOf (H'.get b) = some c := by rw [fs b hb]; exact hc
  have hps := fun (N : Nat) (H' : AHeap) => hp N H' x (List.mem_of_getElem? hx)
  simp only [Gd.enc] at q hps
  simp (disch:=first|(simp only [yk,seval];done)|omega|(simp only [yz]<;>omega)|fail) only [↓yp,yq0,yq1,yq2,yq3,yq4,yl,ys0,ys1,seval,fitB,newC,endD,endR,g9,g8,g7,g1,A_indexSlice st_esS_23,hc',q,hps]
  refine ⟨fun hA => ?_, fun hA => ?_⟩
  rotate_left
  ·have : gs.all p = false := by rw [List.all_eq_false]; exact ⟨x, List.mem_of_getElem? hx, by rw [hA]; simp⟩
   simp (disch:=first|(simp only [yk,seval];done)|omega|(simp only [yz]<;>omega)|fail) only [↓yp,yq0,yq1,yq2,yq3,yq4,yl,ys0,ys1,seval,fitB,newC,endD,endR,hA,this]
  have hw2 : w64 ((i : Int) + 1) = ((i + 1 : Nat) : Int) := by rw [w64_of (by omega)]; omega
  simp (disch:=first|(simp only [yk,seval];done)|omega|(simp only [yz]<;>omega)|fail) only [↓yp,yq0,yq1,yq2,yq3,yq4,yl,ys0,ys1,seval,fitB,newC,endD,endR,hA,g9,g8,g7,g1,hw2]
  refine ⟨gs.length - (i + 1), by omega, i + 1, rfl, by omega, ?_, ?_, ?_, ?_, by (repeat (first | exact Fr.refl _ | assumption | refine Fr.allocd ?_ _ | refine Fr.put ?_ (by first | omega | (simp only [yz] <;> omega)) _)), ?_⟩
  ·simp (disch:=first|(simp only [yk,seval];done)|omega|(simp only [yz]<;>omega)|fail) only [yg,seval]
  ·simp (disch:=first|(simp only [yk,seval];done)|omega|(simp only [yz]<;>omega)|fail) only [yg,seval,g8]
  ·simp (disch:=first|(simp only [yk,seval];done)|omega|(simp only [yz]<;>omega)|fail) only [yg,seval,g7]
  ·simp (disch:=first|(simp only [yk,seval];done)|omega|(simp only [yz]<;>omega)|fail) only [yg,seval,g1]
  ·intro j t hj' ht
   by_cases e : j = i
   ·subst e; rw [hx] at ht; cases ht; exact hA
   ·exact hj j t (by omega) ht
 ·have hi' : ¬ i < gs.length := by simpa using hlt
  have : gs.all p = true := by
   rw [List.all_eq_true]
   intro s hs'
   obtain ⟨j, hj'⟩ := List.getElem?_of_mem hs'
   have := (List.getElem?_eq_some_iff.1 hj').1
   exact hj j s (by omega) hj'
  simp (disch:=first|(simp only [yk,seval];done)|omega|(simp only [yz]<;>omega)|fail) only [↓yp,yq0,yq1,yq2,yq3,yq4,yl,ys0,ys1,seval,fitB,newC,endD,endR,this]
theorem c64 {p : Pk} (h : p.isB = true) : acall tabA (aexec tabA Try.prog (N + 60)) 64 [.agg ⟨p.enc⟩] H = some (true, .bool (!decide (p.hi < p.f)), H, H.size) := by
 refine call_quiet (k := 7) (rs := [.tmp 2]) rfl fn_64 rfl rfl rfl ?_ rfl
 have ho : p.Ok := by
  unfold Pk.isB wi at h
  simp only [Bool.and_eq_true,decide_eq_true_eq] at h
  exact ⟨h.1, h.2.1, h.2.2.1, h.2.2.2⟩
 have h66 := fun (N : Nat) (H : AHeap) => c66 (N := N) (H := H) ho
 have h65 := fun (N : Nat) (H : AHeap) => c65 (N := N) (H := H) (a := p.f) (b := p.hi)
 simp only [Pk.enc] at h66
 simp (disch:=first|(simp only [yk,seval];done)|omega|(simp only [yz]<;>omega)|fail) only [↓yp,yq0,yq1,yq2,yq3,yq4,yl,ys0,ys1,seval,fitB,newC,endD,endR,Pk.enc,h66,h65]
set_option maxHeartbeats 1000000 in
theorem c63 {a : Option Addr} {cap : Nat} {gs : List Gd} (hs : Rw gdE H a gs) (hl : gs.length ≤ 8) : acall tabA (aexec tabA Try.prog (N + 170)) 63 [.slice a gs.length cap] H = some (true, .bool (ordB gs), H, H.size) := by
 refine call_quiet (k := 36) (rs := [.tmp 2]) rfl fn_63 rfl rfl rfl ?_ rfl
 simp (disch:=first|(simp only [yk,seval];done)|omega|(simp only [yz]<;>omega)|fail) only [↓yp,yq0,yq1,yq2,yq3,yq4,yl,ys0,ys1,seval,fitB,newC,endD,endR,lenV_slice st_esS_23]
 refine W_while (n := 36) 70 (fun k e H' => ∃ i : Nat, k = gs.length + 1 - i ∧ 1 ≤ i ∧ i ≤ gs.length + 1 ∧ gt 36 e 3 = .int .i64 (i : Nat) ∧ gt 36 e 0 = .slice a gs.length cap ∧ H' = H ∧ ∀ j x y, j + 1 < i → gs[j]? = some x → gs[j + 1]? = some y → x.fo < y.fo ∧ y.pr < x.pr)
  ?_ 9 gs.length ⟨1, by omega, by omega, by omega, by simp (disch:=first|(simp only [yk,seval];done)|omega|(simp only [yz]<;>omega)|fail) only [yg,seval] <;> rfl, by simp (disch:=first|(simp only [yk,seval];done)|omega|(simp only [yz]<;>omega)|fail) only [yg,seval], rfl, fun j x y hj => by omega⟩ (by omega) (by omega)
 rintro M k e H' ⟨i, rfl, h1i, hi, g3, g0, rfl, hj⟩
 simp (disch:=first|(simp only [yk,seval];done)|omega|(simp only [yz]<;>omega)|fail) only [↓yp,yq0,yq1,yq2,yq3,yq4,yl,ys0,ys1,seval,fitB,newC,endD,endR,g3,g0,lenV_slice st_esS_23]
 refine ⟨fun hA => ?_, fun hA => ?_⟩
 ·have hi' : i < gs.length := by simpa using hA
  obtain ⟨j, rfl⟩ : ∃ j, i = j + 1 := ⟨i - 1, by omega⟩
  obtain ⟨x, hx⟩ : ∃ x, gs[j]? = some x := ⟨gs[j], by simp [show j < gs.length by omega]⟩
  obtain ⟨y, hy⟩ : ∃ y, gs[j + 1]? = some y := ⟨gs[j + 1], by simp [hi']⟩
  obtain ⟨b, o, c, rfl, hb, hc, hq⟩ := hs.get (fun h => by rw [h] at hx; simp at hx)
  obtain ⟨b1, o1, c1, e1, -, hc1, hq1⟩ := hs.at_ hx
  cases e1
  obtain ⟨b2, o2, c2, e2, -, hc2, hq2⟩ := hs.at_ hy
  cases e2
  rw [hc] at hc1 hc2
  cases hc1
  cases hc2
  obtain ⟨x0, x1⟩ := two_cells (u := .int .i64 x.fo) (v := .int .i64 x.pr) hq1
  obtain ⟨y0, y1⟩ := two_cells (u := .int .i64 y.fo) (v := .int .i64 y.pr) hq2
  rw [show gdE.z = 2 from rfl] at x0 x1 y0 y1
  have w1 : w64 (((j + 1 : Nat) : Int) - 1) = (j : Int) := by rw [w64_of (by omega)]; omega
  have w2 : w64 (((j + 1 : Nat) : Int) + 1) = ((j + 1 + 1 : Nat) : Int) := by rw [w64_of (by omega)]; omega
  have no : ¬ (x.fo < y.fo ∧ y.pr < x.pr) → ordB gs = false := fun h => by
   cases ho : ordB gs with
   | false => rfl
   | true => exact absurd (ordB_at.1 ho j x y hx hy) h
  simp (disch:=first|(simp only [yk,seval];done)|omega|(simp only [yz]<;>omega)|fail) only [↓yp,yq0,yq1,yq2,yq3,yq4,yl,ys0,ys1,seval,fitB,newC,endD,endR,g3,g0]
  refine W_draw [] rfl (by kernel_rfl) (by kernel_rfl) (by first|omega|(simp only [yz]<;>omega)) ?_
  cases hB : decide (y.fo ≤ x.fo)
  ·cases hC : decide (x.pr ≤ y.pr)
   ·have h1 := of_decide_eq_false hB
    have h2 := of_decide_eq_false hC
    simp (disch:=first|(simp only [yk,seval];done)|omega|(simp only [yz]<;>omega)|fail) only [↓yp,yq0,yq1,yq2,yq3,yq4,yl,ys0,ys1,seval,fitB,newC,endD,endR,g3,g0,A_indexSlice st_esS_23,hc,x0,x1,y0,y1,w1,w2,hB,hC]
    refine ⟨gs.length + 1 - (j + 1 + 1), by omega, j + 1 + 1, rfl, by omega, by omega, ?_, ?_, rfl, ?_⟩
    ·simp (disch:=first|(simp only [yk,seval];done)|omega|(simp only [yz]<;>omega)|fail) only [yg,seval]
    ·simp (disch:=first|(simp only [yk,seval];done)|omega|(simp only [yz]<;>omega)|fail) only [yg,seval,g0]
    ·intro j' x' y' hj' hx' hy'
     by_cases e : j' = j
     ·subst e; rw [hx] at hx'; rw [hy] at hy'; cases hx'; cases hy'; exact ⟨by omega, by omega⟩
     ·exact hj j' x' y' (by omega) hx' hy'
   ·have h2 := of_decide_eq_true hC
    have hn := no (by omega)
    simp (disch:=first|(simp only [yk,seval];done)|omega|(simp only [yz]<;>omega)|fail) only [↓yp,yq0,yq1,yq2,yq3,yq4,yl,ys0,ys1,seval,fitB,newC,endD,endR,g3,g0,A_indexSlice st_esS_23,hc,x0,x1,y0,y1,w1,w2,hB,hC,hn]
  ·have h2 := of_decide_eq_true hB
   have hn := no (by omega)
   simp (disch:=first|(simp only [yk,seval];done)|omega|(simp only [yz]<;>omega)|fail) only [↓yp,yq0,yq1,yq2,yq3,yq4,yl,ys0,ys1,seval,fitB,newC,endD,endR,g3,g0,A_indexSlice st_esS_23,hc,x0,x1,y0,y1,w1,w2,hB,hn]
 ·have hi' : ¬ i < gs.length := by simpa using hA
  have : ordB gs = true := ordB_at.2 fun j x y hx hy => hj j x y (by have := (List.getElem?_eq_some_iff.1 hy).1; omega) hx hy
  simp (disch:=first|(simp only [yk,seval];done)|omega|(simp only [yz]<;>omega)|fail) only [↓yp,yq0,yq1,yq2,yq3,yq4,yl,ys0,ys1,seval,fitB,newC,endD,endR,this]
end Go.Am.K
namespace Go.Am.K
open Go.Proofs
variable {T : Tab} {P : Program} {N L : Nat} {H : AHeap} {Q : Bool → Value → AHeap → Prop}
set_option maxHeartbeats 1000000 in
theorem c16 {a a' : Option Addr} {cap cap' : Nat} {ps : List Pk} {gs : List Gd} {lots : Int} (hs : Rw pkE H a ps) (hgs : Rw gdE H a' gs) :
  acall tabA (aexec tabA Try.prog (N + 300)) 16 [.agg ⟨[.slice a ps.length cap, .slice a' gs.length cap', .int .i64 lots]⟩] H = some (true, .int .i64 (chkS ps gs lots), H, H.size) := by
 refine call_quiet (k := 42) (rs := [.tmp 2]) rfl fn_16 rfl rfl rfl ?_ rfl
 have h58 := fun (N : Nat) (H : AHeap) (n lo hi : Int) => c58 (N := N) (H := H) (n := n) (lo := lo) (hi := hi)
 have fr : Fr H (H.alloc (.rw [.slice a ps.length cap, .slice a' gs.length cap', .int .i64 lots] 25 false [])) := by (repeat (first | exact Fr.refl _ | assumption | refine Fr.allocd ?_ _ | refine Fr.put ?_ (by first | omega | (simp only [yz] <;> omega)) _))
 cases hA : wi (ps.length : Int) 1 4
 ·have e : chkS ps gs lots = 3 := by unfold chkS chk1; rw [hA]; rfl
  rw [e]
  simp (disch:=first|(simp only [yk,seval];done)|omega|(simp only [yz]<;>omega)|fail) only [↓yp,yq0,yq1,yq2,yq3,yq4,yl,ys0,ys1,seval,fitB,newC,endD,endR,lenV_slice st_esS_22,lenV_slice st_esS_23,h58,hA]
 cases hB : decide (4 < (gs.length : Int))
 rotate_left
 ·have e : chkS ps gs lots = 3 := by unfold chkS chk1; rw [hA, hB]; rfl
  rw [e]
  simp (disch:=first|(simp only [yk,seval];done)|omega|(simp only [yz]<;>omega)|fail) only [↓yp,yq0,yq1,yq2,yq3,yq4,yl,ys0,ys1,seval,fitB,newC,endD,endR,lenV_slice st_esS_22,lenV_slice st_esS_23,h58,hA,hB]
 have hl : ps.length ≤ 4 := by unfold wi at hA; simp at hA; omega
 have hgl : gs.length ≤ 4 := by simp at hB; omega
 have h59 := fun (N : Nat) => c59 (N := N) (cap := cap) (g := 60) (p := Pk.isB) (hs.fr fr) (by omega) fun N H' x _ => c60
 have h61 := fun (N : Nat) => c61 (N := N) (cap := cap') (g := 62) (p := Gd.isB) (hgs.fr fr) (by omega) fun N H' x _ => c62
 have h63 := fun (N : Nat) => c63 (N := N) (cap := cap') (hgs.fr fr) (by omega)
 have e0 : chkS ps gs lots = bif chk2 ps gs lots then 4 else bif ordB gs then bif ps.all fun p => !decide (p.hi < p.f) then 0 else 7 else 6 := by unfold chkS chk1; rw [hA, hB]; rfl
 rw [e0]
 cases hC : ps.all Pk.isB
 ·have e : chk2 ps gs lots = true := by unfold chk2; rw [hC]; rfl
  rw [e, cond_true]
  simp (disch:=first|(simp only [yk,seval];done)|omega|(simp only [yz]<;>omega)|fail) only [↓yp,yq0,yq1,yq2,yq3,yq4,yl,ys0,ys1,seval,fitB,newC,endD,endR,lenV_slice st_esS_22,lenV_slice st_esS_23,h58,h59,h61,hA,hB,hC]
 cases hD : gs.all Gd.isB
 ·have e : chk2 ps gs lots = true := by unfold chk2; rw [hC, hD]; rfl
  rw [e, cond_true]
  simp (disch:=first|(simp only [yk,seval];done)|omega|(simp only [yz]<;>omega)|fail) only [↓yp,yq0,yq1,yq2,yq3,yq4,yl,ys0,ys1,seval,fitB,newC,endD,endR,lenV_slice st_esS_22,lenV_slice st_esS_23,h58,h59,h61,hA,hB,hC,hD]
 cases hE : wi lots 0 3
 ·have e : chk2 ps gs lots = true := by unfold chk2; rw [hC, hD, hE]; rfl
  rw [e, cond_true]
  simp (disch:=first|(simp only [yk,seval];done)|omega|(simp only [yz]<;>omega)|fail) only [↓yp,yq0,yq1,yq2,yq3,yq4,yl,ys0,ys1,seval,fitB,newC,endD,endR,lenV_slice st_esS_22,lenV_slice st_esS_23,h58,h59,h61,hA,hB,hC,hD,hE]
 have e : chk2 ps gs lots = false := by unfold chk2; rw [hC, hD, hE]; rfl
 rw [e, cond_false]
 cases hF : ordB gs
 ·rw [cond_false]
  simp (disch:=first|(simp only [yk,seval];done)|omega|(simp only [yz]<;>omega)|fail) only [↓yp,yq0,yq1,yq2,yq3,yq4,yl,ys0,ys1,seval,fitB,newC,endD,endR,lenV_slice st_esS_22,lenV_slice st_esS_23,h58,h59,h61,h63,hA,hB,hC,hD,hE,hF]
 rw [cond_true]
 have h59' := fun (N : Nat) => c59 (N := N) (cap := cap) (g := 64) (p := fun p => !decide (p.hi < p.f)) (hs.fr fr) (by omega) fun N H' x hx => c64 (List.all_eq_true.1 hC x hx)
 cases hG : ps.all fun p => !decide (p.hi < p.f)
 ·rw [cond_false]
  simp (disch:=first|(simp only [yk,seval];done)|omega|(simp only [yz]<;>omega)|fail) only [↓yp,yq0,yq1,yq2,yq3,yq4,yl,ys0,ys1,seval,fitB,newC,endD,endR,lenV_slice st_esS_22,lenV_slice st_esS_23,h58,h59,h61,h63,h59',hA,hB,hC,hD,hE,hF,hG]
 ·rw [cond_true]
  simp (disch:=first|(simp only [yk,seval];done)|omega|(simp only [yz]<;>omega)|fail) only [↓yp,yq0,yq1,yq2,yq3,yq4,yl,ys0,ys1,seval,fitB,newC,endD,endR,lenV_slice st_esS_22,lenV_slice st_esS_23,h58,h59,h61,h63,h59',hA,hB,hC,hD,hE,hF,hG]
end Go.Am.K
namespace Go.Am.K
open Go.Proofs Go.Deep Go.RowKit Go.ChangeShapes Go.WideShapes Go.ChangeAt
variable {X : Type} {enc : TypeId × Value → X} {w : World} {base : Nat} {sp : Nat → Bool} {held : Bool} {n : Nat} {cs : List Value} {x : DataW X × List MemPlace}
theorem field_of {P : Program} {fs : Array Field} {xs : List (DataW X × List MemPlace)} (hlen : xs.length = fs.size) (hf : ∀ (i : Nat) (f : Field), fs[i]? = some f → DataW.trod enc P w base sp held n f.type ((cs.drop f.offset).take (P.cellsOf f.type)) = xs[i]?) (i : Nat) {f : Field} (hi : fs[i]? = some f) :
  ∃ y, DataW.trod enc P w base sp held n f.type ((cs.drop f.offset).take (P.cellsOf f.type)) = some y := by
 have hlt : i < fs.size := by
  rw [Array.getElem?_eq_some_iff] at hi
  exact hi.1
 exact ⟨xs[i]'(by omega), by rw [hf i f hi]; simp⟩
theorem cellsOf3 : Try.prog.cellsOf 3 = 1 := by kernel_rfl
theorem cellsOf87 : Try.prog.cellsOf 87 = 4 := by kernel_rfl
theorem cellsOf77 : Try.prog.cellsOf 77 = 2 := by kernel_rfl
theorem cellsOf25 : Try.prog.cellsOf 25 = 3 := by kernel_rfl
theorem cellTypes25 : Try.prog.cellTypes Try.prog.depth 25 = some [22, 23, 3] := by kernel_rfl
theorem read_int {c : Value} {y : DataW X × List MemPlace} (h : DataW.trod enc Try.prog w base sp held n 3 [c] = some y) : ∃ i, c = .int .i64 i := by
 obtain ⟨i, h1, _, h3⟩ := DataW.trod_int Try.underlying3 h
 exact ⟨i, by simpa using h1⟩
set_option maxRecDepth 10000 in
theorem read_pk (h : DataW.trod enc Try.prog w base sp held n 87 cs = some x) : ∃ p : Pk, cs = p.enc := by
 obtain ⟨xs, n, _, rfl, hl, hlen, hf⟩ := DataW.trod_struct Try.underlying87 h
 rw [cellsOf87] at hl
 match cs, hl with
 | [c0, c1, c2, c3], _ =>
  obtain ⟨y0, h0⟩ := field_of hlen hf 0 rfl
  obtain ⟨y1, h1⟩ := field_of hlen hf 1 rfl
  obtain ⟨y2, h2⟩ := field_of hlen hf 2 rfl
  obtain ⟨y3, h3⟩ := field_of hlen hf 3 rfl
  obtain ⟨i0, rfl⟩ := read_int (c := c0) (by simpa [cellsOf3] using h0)
  obtain ⟨i1, rfl⟩ := read_int (c := c1) (by simpa [cellsOf3] using h1)
  obtain ⟨i2, rfl⟩ := read_int (c := c2) (by simpa [cellsOf3] using h2)
  obtain ⟨i3, rfl⟩ := read_int (c := c3) (by simpa [cellsOf3] using h3)
  exact ⟨⟨i0, i1, i2, i3⟩, rfl⟩
set_option maxRecDepth 10000 in
theorem read_gd (h : DataW.trod enc Try.prog w base sp held n 77 cs = some x) : ∃ g : Gd, cs = g.enc := by
 obtain ⟨xs, n, _, rfl, hl, hlen, hf⟩ := DataW.trod_struct Try.underlying77 h
 rw [cellsOf77] at hl
 match cs, hl with
 | [c0, c1], _ =>
  obtain ⟨y0, h0⟩ := field_of hlen hf 0 rfl
  obtain ⟨y1, h1⟩ := field_of hlen hf 1 rfl
  obtain ⟨i0, rfl⟩ := read_int (c := c0) (by simpa [cellsOf3] using h0)
  obtain ⟨i1, rfl⟩ := read_int (c := c1) (by simpa [cellsOf3] using h1)
  exact ⟨⟨i0, i1⟩, rfl⟩
theorem gr_pk (p : Pk) : ∀ v ∈ p.enc, gr v = true := by
 intro v hv
 simp only [Pk.enc,List.mem_cons,List.not_mem_nil,or_false] at hv
 rcases hv with rfl | rfl | rfl | rfl <;> rfl
theorem gr_gd (g : Gd) : ∀ v ∈ g.enc, gr v = true := by
 intro v hv
 simp only [Gd.enc,List.mem_cons,List.not_mem_nil,or_false] at hv
 rcases hv with rfl | rfl <;> rfl
theorem fl_get {α : Type} {E : Enc α} (hz : 0 < E.z) : ∀ (l : List α) (i : Nat) (v : Value), (E.fl l)[i]? = some v → ∃ s, l[i / E.z]? = some s ∧ (E.f s)[i % E.z]? = some v
 | [], i, v, h => by
  have : (E.fl ([] : List α)) = [] := rfl
  rw [this] at h; simp at h
 | t :: l, i, v, h => by
  have e : E.fl (t :: l) = E.f t ++ E.fl l := rfl
  rw [e] at h
  by_cases hi : i < E.z
  ·refine ⟨t, by rw [Nat.div_eq_of_lt hi]; rfl, ?_⟩
   rw [Nat.mod_eq_of_lt hi]
   rwa [List.getElem?_append_left (by rw [E.len]; exact hi)] at h
  ·rw [List.getElem?_append_right (by rw [E.len]; omega), E.len] at h
   obtain ⟨s, h1, h2⟩ := fl_get hz l (i - E.z) v h
   refine ⟨s, ?_, ?_⟩
   ·rw [Nat.div_eq_sub_div hz (by omega)]
    simpa using h1
   ·rw [Nat.mod_eq_sub_mod (by omega)]; exact h2
structure RowsIn {α : Type} (E : Enc α) (W : World) (a : Option Addr) (len cap : Nat) (l : List α) : Prop where
 hlen : len = l.length
 hcap : cap < OPEN
 nl : a = none → cap = 0 ∧ l = []
 row : ∀ ad, a = some ad → ad.spot = none ∧ ad.block < W.heap.size ∧ ∀ i v, (E.fl l)[i]? = some v → gr v = true ∧ W.cell? ⟨ad.block, ad.off + i, none⟩ = some v
set_option maxRecDepth 100000 in
theorem rows_read {α : Type} [Inhabited α] {E : Enc α} {ty et : TypeId} {W : World} {v1 : Value} {y : DataW X × List MemPlace} (hu : Try.prog.underlying ty = some (.slice et)) (hz : Try.prog.cellsOf et = E.z) (hz0 : 0 < E.z)
  (hread : ∀ {n : Nat} {cs : List Value} {y : DataW X × List MemPlace}, DataW.trod enc Try.prog W 0 (fun _ => true) true n et cs = some y → ∃ s : α, cs = E.f s) (hgr : ∀ s : α, ∀ v ∈ E.f s, gr v = true)
  (hcell : Cell.okWide Try.prog W .any base ty v1) (h1 : DataW.trod enc Try.prog W 0 (fun _ => true) true n ty [v1] = some y) :
  ∃ (a : Option Addr) (len cap : Nat) (l : List α), v1 = .slice a len cap ∧ RowsIn E W a len cap l := by
 rcases open_slice hu h1 with ⟨hn, _⟩ | ⟨a, len, cap, m, n', D, Pl, hn, _, hle, hcap, hm, _, hx⟩
 ·obtain rfl : v1 = .slice none 0 0 := by simpa using hn
  exact ⟨none, 0, 0, [], rfl, rfl, by unfold OPEN; omega, fun _ => ⟨rfl, rfl⟩, fun ad h => by cases h⟩
 ·obtain rfl : v1 = .slice (some a) len cap := by simpa using hn
  unfold Cell.okWide at hcell
  rw [hu] at hcell
  simp only [Cell.ok,hu] at hcell
  obtain ⟨_, _, _, hsp, ⟨row, cells, hsh, _⟩⟩ := hcell
  have hb := shape_lt hsh
  have hm' : m = cap := by rw [hm]; rfl
  obtain ⟨S, hS⟩ := choose_lt (α := α) (p := fun i s => W.cells? 0 (a.add (i * E.z)) E.z = some (E.f s)) (n := len) (fun i hi => by
   obtain ⟨cs', k1, k2⟩ := hx i (by omega)
   rw [hz] at k1
   obtain ⟨s, rfl⟩ := hread k2
   exact ⟨s, k1⟩)
  have hget : ∀ i s, ((List.range len).map S)[i]? = some s → i < len ∧ s = S i := fun i s h => by
   rw [List.getElem?_map, Option.map_eq_some_iff] at h
   obtain ⟨j, hj, rfl⟩ := h
   have := List.getElem?_eq_some_iff.1 hj
   obtain ⟨q1, q2⟩ := this
   rw [List.getElem_range] at q2
   subst q2
   exact ⟨by simpa using q1, rfl⟩
  refine ⟨some a, len, cap, (List.range len).map S, rfl, by simp, ?_, (fun h => by cases h), ?_⟩
  ·unfold maxLen at hcap
   unfold OPEN
   omega
  ·intro ad had
   cases had
   refine ⟨hsp, hb, fun i v hi => ?_⟩
   obtain ⟨s, h1, h2⟩ := fl_get hz0 _ i v hi
   refine ⟨hgr s v (List.mem_of_getElem? h2), ?_⟩
   obtain ⟨k1, rfl⟩ := hget _ s h1
   obtain ⟨_, _, hc⟩ := World.cells?_some (hS _ k1)
   have := hc (i % E.z) (Nat.mod_lt _ hz0)
   rw [h2, add_add, add_off hsp] at this
   rw [← this]
   congr 2
   have := Nat.div_add_mod i E.z
   rw [Nat.mul_comm] at this
   omega
instance : Inhabited Pk := ⟨⟨0, 0, 0, 0⟩⟩
instance : Inhabited Gd := ⟨⟨0, 0⟩⟩
set_option maxRecDepth 100000 in
theorem store_read {W : World} {base : Nat} {v : Value} {d : DataW X} {p : List MemPlace} (hv : Value.okWide Try.prog W .any base 25 v) (h : DataW.Trod enc Try.prog W 0 (fun _ => true) true 25 v d p) :
  ∃ (a : Option Addr) (len cap : Nat) (ps : List Pk) (a' : Option Addr) (len' cap' : Nat) (gs : List Gd) (lots : Int), v = .agg ⟨[.slice a len cap, .slice a' len' cap', .int .i64 lots]⟩ ∧ RowsIn pkE W a len cap ps ∧ RowsIn gdE W a' len' cap' gs := by
 obtain ⟨v0, v1, v2, y0, y1, y2, n, rfl, _, _, h0, h1, h2⟩ := Joins.open_agg3 Try.underlying25 (by kernel_rfl) cellsOf25 hv h
 obtain ⟨lots, rfl⟩ := read_int h2
 have hcell : Cell.okWide Try.prog W .any base 22 v0 ∧ Cell.okWide Try.prog W .any base 23 v1 := by
  unfold Value.okWide at hv
  rw [Try.underlying25] at hv
  obtain ⟨cs, hcs, _, ts, hts, _, hrow⟩ := hv
  cases hcs
  rw [cellTypes25] at hts
  cases hts
  obtain ⟨u, hu, hc⟩ := hrow 0 v0 rfl
  cases hu
  obtain ⟨u, hu, hc'⟩ := hrow 1 v1 rfl
  cases hu
  exact ⟨hc, hc'⟩
 obtain ⟨a, len, cap, ps, rfl, r⟩ := rows_read (E := pkE) Try.underlying22 cellsOf87 (by decide) read_pk gr_pk hcell.1 h0
 obtain ⟨a', len', cap', gs, rfl, r'⟩ := rows_read (E := gdE) Try.underlying23 cellsOf77 (by decide) read_gd gr_gd hcell.2 h1
 exact ⟨a, len, cap, ps, a', len', cap', gs, lots, rfl, r, r'⟩
theorem RowsIn.rw {α : Type} {E : Enc α} {W : World} {a : Option Addr} {len cap : Nat} {l : List α} (t : RowsIn E W a len cap l) {H : AHeap} {k : Nat} (hk : k < H.size) (hg : H.get k = .ro (E.fl l)) : Rw E H (atK k a) l := by
 cases a with
 | none =>
  obtain ⟨_, rfl⟩ := t.nl rfl
  exact Rw.nil
 | some ad => exact Rw.of (r := []) hk (by rw [hg]; rfl) (by rw [List.append_nil])
theorem RowsIn.cells {α : Type} {E : Enc α} {W : World} {a : Option Addr} {len cap : Nat} {l : List α} (t : RowsIn E W a len cap l) : ∀ ad, a = some ad → ad.block < W.heap.size ∧ ∀ (i : Nat) (v : Value), (E.fl l)[i]? = some v → gr v = true ∧ W.cell? ⟨ad.block, ad.off + i, none⟩ = some v := fun ad h => (t.row ad h).2
theorem RowsIn.okv {α : Type} {E : Enc α} {W : World} {a : Option Addr} {len cap : Nat} {l : List α} (t : RowsIn E W a len cap l) {σ : Place} {k : Nat} (h : σ.at_ k = a.map fun ad => (ad.block, ad.off)) : Go.Am.okv σ (.slice (atK k a) l.length cap) := by
 cases a with
 | none =>
  have := t.hcap
  simpa [Go.Am.okv, atK] using this
 | some ad =>
  simp only [atK,Option.map_some,Go.Am.okv]
  exact ⟨trivial, by rw [h]; rfl, fun hc => absurd t.hcap (by omega)⟩
theorem RowsIn.ren {α : Type} {E : Enc α} {W : World} {a : Option Addr} {len cap : Nat} {l : List α} (t : RowsIn E W a len cap l) {σ : Place} {k : Nat} (h : σ.at_ k = a.map fun ad => (ad.block, ad.off)) : Go.Am.ren σ (.slice (atK k a) l.length cap) = .slice a l.length cap := by
 cases a with
 | none =>
  obtain ⟨rfl, rfl⟩ := t.nl rfl
  exact (gr_ok σ (v := .slice none 0 0) rfl).2
 | some ad =>
  obtain ⟨b, o, s⟩ := ad
  obtain ⟨hs, _, _⟩ := t.row _ rfl
  simp only at hs
  subst hs
  simp [Go.Am.ren, atK, Place.cap, t.hcap, Place.addr, h]
end Go.Am.K
namespace Go.Am.K
open Go.Proofs Go.Deep Go.RowKit Go.ChangeShapes Go.WideShapes Go.ChangeAt
variable {X : Type} {enc : TypeId × Value → X} {W : World} {base : Nat}
def nHeap : List (Option Addr × List Value) → AHeap
 | [] => ⟨0, .nil⟩
 | r :: rs => (nHeap rs).alloc (.ro r.2)
def nPlace (rs : List (Option Addr × List Value)) : Place := ⟨fun k => (rs.reverse[k]?).bind fun r => r.1.map fun a => (a.block, a.off), fun _ => 0⟩
theorem nHeap_size : ∀ {rs : List (Option Addr × List Value)}, (nHeap rs).size = rs.length
 | [] => rfl
 | r :: rs => by
  show ((nHeap rs).alloc _).size = _
  rw [size_alloc, nHeap_size, List.length_cons]
theorem nHeap_get : ∀ {rs : List (Option Addr × List Value)} {k : Nat} {r : Option Addr × List Value}, rs.reverse[k]? = some r → (nHeap rs).get k = .ro r.2
 | [], k, r, h => by simp at h
 | s :: rs, k, r, h => by
  rw [List.reverse_cons] at h
  show ((nHeap rs).alloc _).get k = _
  by_cases hk : k < rs.length
  ·rw [List.getElem?_append_left (by rw [List.length_reverse]; exact hk)] at h
   rw [get_alloc_lt (by rw [nHeap_size]; exact hk)]
   exact nHeap_get h
  ·have hlt := (List.getElem?_eq_some_iff.1 h).1
   rw [List.length_append, List.length_reverse] at hlt
   simp only [List.length_cons,List.length_nil] at hlt
   have : k = rs.length := by omega
   subst this
   rw [List.getElem?_append_right (by rw [List.length_reverse]; exact Nat.le_refl _), List.length_reverse, Nat.sub_self] at h
   simp only [List.getElem?_cons_zero,Option.some.injEq] at h
   subst h
   exact get_alloc_eq (by rw [nHeap_size])
theorem nRel {rs : List (Option Addr × List Value)} (hr : ∀ r ∈ rs, ∀ a, r.1 = some a → a.block < W.heap.size ∧ ∀ (i : Nat) (v : Value), r.2[i]? = some v → gr v = true ∧ W.cell? ⟨a.block, a.off + i, none⟩ = some v) : Rel (nPlace rs) (nHeap rs) W where
 lt k b' s h := by
  obtain ⟨r, h1, h2⟩ := Option.bind_eq_some_iff.1 h
  obtain ⟨a, ha, he⟩ := Option.map_eq_some_iff.1 h2
  cases he
  have hlt := (List.getElem?_eq_some_iff.1 h1).1
  rw [List.length_reverse] at hlt
  exact ⟨by rw [nHeap_size]; exact hlt, (hr r (List.mem_reverse.1 (List.mem_of_getElem? h1)) a ha).1⟩
 holds k b' s h := by
  obtain ⟨r, h1, h2⟩ := Option.bind_eq_some_iff.1 h
  obtain ⟨a, ha, he⟩ := Option.map_eq_some_iff.1 h2
  cases he
  rw [nHeap_get h1]
  intro i v hi
  obtain ⟨g1, g2⟩ := (hr r (List.mem_reverse.1 (List.mem_of_getElem? h1)) a ha).2 i v hi
  exact ⟨(gr_ok _ g1).1, by rw [(gr_ok _ g1).2]; exact g2⟩
 excl k k' b' s s' h h' hne al hal := by
  obtain ⟨r, h1, h2⟩ := Option.bind_eq_some_iff.1 h
  rw [nHeap_get h1] at hal
  cases hal
theorem cellsOf3' : Try.prog.cellsOf 3 = intE.z := by kernel_rfl
theorem read_int' {w : World} {sp : Nat → Bool} {held : Bool} {n : Nat} {cs : List Value} {y : DataW X × List MemPlace} (h : DataW.trod enc Try.prog w base sp held n 3 cs = some y) : ∃ s : Int, cs = intE.f s := by
 obtain ⟨i, h1, _, h3⟩ := DataW.trod_int Try.underlying3 h
 exact ⟨i, h1⟩
theorem gr_int (s : Int) : ∀ v ∈ intE.f s, gr v = true := by
 intro v hv
 have : v = .int .i64 s := by simpa [intE] using hv
 subst this
 rfl
set_option maxRecDepth 100000 in
theorem ints_read {v : Value} {d : DataW X} {p : List MemPlace} (hv : Value.okWide Try.prog W .any base 49 v) (h : DataW.Trod enc Try.prog W 0 (fun _ => true) true 49 v d p) :
  ∃ (a : Option Addr) (len cap : Nat) (l : List Int), v = .slice a len cap ∧ RowsIn intE W a len cap l := by
 obtain ⟨fuel, h⟩ := h
 have key : ∀ a len cap, v = .slice a len cap → ∃ (a : Option Addr) (len cap : Nat) (l : List Int), v = .slice a len cap ∧ RowsIn intE W a len cap l := by
  rintro a₀ len₀ cap₀ rfl
  refine rows_read (enc := enc) (base := base) (n := fuel) (y := (d, p)) (v1 := .slice a₀ len₀ cap₀) (E := intE) (ty := 49) (et := 3) Try.underlying49 cellsOf3' (by decide) read_int' gr_int ?_ h
  unfold Value.okWide at hv
  rw [Try.underlying49] at hv
  exact hv
 cases v with
 | slice a len cap => exact key _ _ _ rfl
 | _ =>
  exfalso
  unfold Value.okWide at hv
  rw [Try.underlying49] at hv
  simp [Cell.okWide, Cell.ok, Try.underlying49] at hv
theorem lot_calls {a a' al : Option Addr} {len cap len' cap' ll cl : Nat} {ps : List Pk} {gs : List Gd} {lots : Int} {l : List Int} (t : RowsIn pkE W a len cap ps) (t' : RowsIn gdE W a' len' cap' gs) (tl : RowsIn intE W al ll cl l) {f : FuncId} {rest : List Value} (hr : allGrV rest = true) {n : Nat}
  (h : ∀ (H : AHeap) (x x' xl : Option Addr), Rw pkE H x ps → Rw gdE H x' gs → Rw intE H xl l → acall tabA (aexec tabA Try.prog n) f (.agg ⟨[.slice x ps.length cap, .slice x' gs.length cap', .int .i64 lots]⟩ :: .slice xl l.length cl :: rest) H = some (true, .bool true, H, H.size)) :
  Calls Try.prog f (.agg ⟨[.slice a len cap, .slice a' len' cap', .int .i64 lots]⟩ :: .slice al ll cl :: rest).toArray W fun e w' => e = .returned (.bool true) ∧ Below W.heap.size W w' := by
 obtain rfl := t.hlen
 obtain rfl := t'.hlen
 obtain rfl := tl.hlen
 obtain ⟨rs, hrs⟩ : ∃ rs : List (Option Addr × List Value), [(al, intE.fl l), (a', gdE.fl gs), (a, pkE.fl ps)] = rs := ⟨_, rfl⟩
 have hz : (nHeap rs).size = 3 := by rw [nHeap_size, ← hrs]; rfl
 have g0 : (nHeap rs).get 0 = .ro (pkE.fl ps) := nHeap_get (r := (a, pkE.fl ps)) (by rw [← hrs]; rfl)
 have g1 : (nHeap rs).get 1 = .ro (gdE.fl gs) := nHeap_get (r := (a', gdE.fl gs)) (by rw [← hrs]; rfl)
 have g2 : (nHeap rs).get 2 = .ro (intE.fl l) := nHeap_get (r := (al, intE.fl l)) (by rw [← hrs]; rfl)
 have e0 : (nPlace rs).at_ 0 = a.map fun ad => (ad.block, ad.off) := by rw [← hrs]; rfl
 have e1 : (nPlace rs).at_ 1 = a'.map fun ad => (ad.block, ad.off) := by rw [← hrs]; rfl
 have e2 : (nPlace rs).at_ 2 = al.map fun ad => (ad.block, ad.off) := by rw [← hrs]; rfl
 have hR : Rel (nPlace rs) (nHeap rs) W := nRel fun r hm => by
  rw [← hrs] at hm
  simp only [List.mem_cons,List.not_mem_nil,or_false] at hm
  rcases hm with rfl | rfl | rfl
  ·exact tl.cells
  ·exact t'.cells
  ·exact t.cells
 have h1 := call_ok tabA_fits (h (nHeap rs) (atK 0 a) (atK 1 a') (atK 2 al) (t.rw (by rw [hz]; omega) g0) (t'.rw (by rw [hz]; omega) g1) (tl.rw (by rw [hz]; omega) g2))
 have h2 := calls_below h1 rfl hR fun x hx => by
  rcases List.mem_cons.1 hx with rfl | hx
  ·simp only [okv]
   intro v hv
   simp only [Array.mem_def,List.mem_cons,List.not_mem_nil,or_false] at hv
   rcases hv with rfl | rfl | rfl
   ·exact t.okv e0
   ·exact t'.okv e1
   ·simp only [okv]
  ·rcases List.mem_cons.1 hx with rfl | hx
   ·exact tl.okv e2
   ·exact (gr_ok _ (allGrV_mem hr x hx)).1
 have e : (Value.agg ⟨[.slice (atK 0 a) ps.length cap, .slice (atK 1 a') gs.length cap', .int .i64 lots]⟩ :: .slice (atK 2 al) l.length cl :: rest).map (ren (nPlace rs)) = Value.agg ⟨[.slice a ps.length cap, .slice a' gs.length cap', .int .i64 lots]⟩ :: .slice al l.length cl :: rest := by
  rw [List.map_cons, List.map_cons, allGrV_ren hr, tl.ren e2]
  congr 1
  have : ren (nPlace rs) (.agg ⟨[.slice (atK 0 a) ps.length cap, .slice (atK 1 a') gs.length cap', .int .i64 lots]⟩) = .agg ⟨[ren (nPlace rs) (.slice (atK 0 a) ps.length cap), ren (nPlace rs) (.slice (atK 1 a') gs.length cap'), .int .i64 lots]⟩ := by simp [ren]
  rw [this, t.ren e0, t'.ren e1]
 rw [e] at h2
 exact h2
end Go.Am.K
