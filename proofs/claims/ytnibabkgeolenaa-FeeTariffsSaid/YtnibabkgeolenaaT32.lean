/- What pounds cost: the functions of tariffs. -/
import Derived.Test.YtnibabkgeolenaaT31
set_option linter.unusedSimpArgs false
set_option linter.unusedVariables false
namespace Go.Am
open Go.Proofs
variable {T : Tab} {P : Program} {N L : Nat} {H : AHeap} {Q : Bool → Value → AHeap → Prop}
theorem c57 {n lo hi : Int} : acall tabA (aexec tabA Try.prog (N + 20)) 57 [.int .i64 n, .int .i64 lo, .int .i64 hi] H = some (true, .bool (wi n lo hi), H, H.size) := by
  refine call_quiet (k := 15) (rs := [.tmp 6]) rfl fn_57 rfl rfl rfl ?_ rfl
  unfold wi
  cases hA : decide (lo ≤ n)
  · simp (disch := (first | (simp only [ne_eq,Nat.reduceEqDiff,not_false_eq_true,Nat.reduceLT]; done) | omega | (simp only [yz] <;> omega) | fail)) only [↓yp,yq0,yq1,yq2,yq3,yq4,yl,ys0,ys1,Nat.reduceAdd,Nat.reduceMul,Nat.reduceSub,Nat.reduceBEq,Nat.reduceEqDiff,Nat.reduceLT,Nat.reduceLeDiff,reduceIte,Int.reduceAdd,Int.reduceSub,Int.reduceMul,Int.reduceLT,Int.reduceLE,Int.reduceEq,Int.reduceToNat,Int.reduceNeg,fitB,newC,endD,endR,yrg,hA]
  · simp (disch := (first | (simp only [ne_eq,Nat.reduceEqDiff,not_false_eq_true,Nat.reduceLT]; done) | omega | (simp only [yz] <;> omega) | fail)) only [↓yp,yq0,yq1,yq2,yq3,yq4,yl,ys0,ys1,Nat.reduceAdd,Nat.reduceMul,Nat.reduceSub,Nat.reduceBEq,Nat.reduceEqDiff,Nat.reduceLT,Nat.reduceLeDiff,reduceIte,Int.reduceAdd,Int.reduceSub,Int.reduceMul,Int.reduceLT,Int.reduceLE,Int.reduceEq,Int.reduceToNat,Int.reduceNeg,fitB,newC,endD,endR,yrg,hA]
theorem c59 {s : Stp} : acall tabA (aexec tabA Try.prog (N + 60)) 59 [.agg ⟨s.enc⟩] H = some (true, .bool s.isB, H, H.size) := by
  refine call_quiet (k := 11) (rs := [.tmp 2]) rfl fn_59 rfl rfl rfl ?_ rfl
  unfold Stp.isB
  have h57 := fun (N : Nat) (H : AHeap) (n lo hi : Int) => c57 (N := N) (H := H) (n := n) (lo := lo) (hi := hi)
  cases hA : wi s.u 1 20000
  · simp (disch := (first | (simp only [ne_eq,Nat.reduceEqDiff,not_false_eq_true,Nat.reduceLT]; done) | omega | (simp only [yz] <;> omega) | fail)) only [↓yp,yq0,yq1,yq2,yq3,yq4,yl,ys0,ys1,Nat.reduceAdd,Nat.reduceMul,Nat.reduceSub,Nat.reduceBEq,Nat.reduceEqDiff,Nat.reduceLT,Nat.reduceLeDiff,reduceIte,Int.reduceAdd,Int.reduceSub,Int.reduceMul,Int.reduceLT,Int.reduceLE,Int.reduceEq,Int.reduceToNat,Int.reduceNeg,fitB,newC,endD,endR,yrg,Stp.enc,h57,hA]
  · simp (disch := (first | (simp only [ne_eq,Nat.reduceEqDiff,not_false_eq_true,Nat.reduceLT]; done) | omega | (simp only [yz] <;> omega) | fail)) only [↓yp,yq0,yq1,yq2,yq3,yq4,yl,ys0,ys1,Nat.reduceAdd,Nat.reduceMul,Nat.reduceSub,Nat.reduceBEq,Nat.reduceEqDiff,Nat.reduceLT,Nat.reduceLeDiff,reduceIte,Int.reduceAdd,Int.reduceSub,Int.reduceMul,Int.reduceLT,Int.reduceLE,Int.reduceEq,Int.reduceToNat,Int.reduceNeg,fitB,newC,endD,endR,yrg,Stp.enc,h57,hA]
/-- Of all elements a function is asked. -/
theorem c58 {a : Option Addr} {cap g : Nat} {ps : List Stp} {p : Stp → Bool} (hs : Rw stE H a ps) (hl : ps.length ≤ 16) (hp : ∀ (N : Nat) (H' : AHeap) (x : Stp), x ∈ ps → acall tabA (aexec tabA Try.prog (N + 90)) g [.agg ⟨x.enc⟩] H' = some (true, .bool (p x), H', H'.size)) :
    acall tabA (aexec tabA Try.prog (N + 170)) 58 [.slice a ps.length cap, .func (.func g) ⟨[]⟩ ⟨[]⟩] H = some (true, .bool (ps.all p), H, H.size) := by
  refine call_quiet (k := 18) (rs := [.tmp 4]) rfl fn_58 rfl rfl rfl ?_ rfl
  simp (disch := (first | (simp only [ne_eq,Nat.reduceEqDiff,not_false_eq_true,Nat.reduceLT]; done) | omega | (simp only [yz] <;> omega) | fail)) only [↓yp,yq0,yq1,yq2,yq3,yq4,yl,ys0,ys1,Nat.reduceAdd,Nat.reduceMul,Nat.reduceSub,Nat.reduceBEq,Nat.reduceEqDiff,Nat.reduceLT,Nat.reduceLeDiff,reduceIte,Int.reduceAdd,Int.reduceSub,Int.reduceMul,Int.reduceLT,Int.reduceLE,Int.reduceEq,Int.reduceToNat,Int.reduceNeg,fitB,newC,endD,endR,yrg,lenV_slice st_esS_22]
  refine W_while (n := 18) 100 (fun k e H' => ∃ i, k = ps.length - i ∧ i ≤ ps.length ∧ gt 18 e 9 = .int .i64 (i : Nat) ∧ gt 18 e 8 = .int .i64 ps.length ∧ gt 18 e 7 = .slice a ps.length cap ∧ gt 18 e 1 = .func (.func g) ⟨[]⟩ ⟨[]⟩ ∧ Fr H H' ∧ ∀ j s, j < i → ps[j]? = some s → p s = true)
    ?_ 16 ps.length ⟨0, by omega, by omega, by simp (disch := (first | (simp only [ne_eq,Nat.reduceEqDiff,not_false_eq_true,Nat.reduceLT]; done) | omega | (simp only [yz] <;> omega) | fail)) only [yg,Nat.reduceAdd,Nat.reduceEqDiff,Nat.reduceLT]; rfl, by simp (disch := (first | (simp only [ne_eq,Nat.reduceEqDiff,not_false_eq_true,Nat.reduceLT]; done) | omega | (simp only [yz] <;> omega) | fail)) only [yg,Nat.reduceAdd,Nat.reduceEqDiff,Nat.reduceLT], by simp (disch := (first | (simp only [ne_eq,Nat.reduceEqDiff,not_false_eq_true,Nat.reduceLT]; done) | omega | (simp only [yz] <;> omega) | fail)) only [yg,Nat.reduceAdd,Nat.reduceEqDiff,Nat.reduceLT], by simp (disch := (first | (simp only [ne_eq,Nat.reduceEqDiff,not_false_eq_true,Nat.reduceLT]; done) | omega | (simp only [yz] <;> omega) | fail)) only [yg,Nat.reduceAdd,Nat.reduceEqDiff,Nat.reduceLT], Fr.refl _, fun j s hj => by omega⟩ (by omega) (by omega)
  rintro M k e H' ⟨i, rfl, hi, g9, g8, g7, g1, fr, hj⟩
  have f0 := fr.size
  have fs := fr.same
  simp (disch := (first | (simp only [ne_eq,Nat.reduceEqDiff,not_false_eq_true,Nat.reduceLT]; done) | omega | (simp only [yz] <;> omega) | fail)) only [↓yp,yq0,yq1,yq2,yq3,yq4,yl,ys0,ys1,Nat.reduceAdd,Nat.reduceMul,Nat.reduceSub,Nat.reduceBEq,Nat.reduceEqDiff,Nat.reduceLT,Nat.reduceLeDiff,reduceIte,Int.reduceAdd,Int.reduceSub,Int.reduceMul,Int.reduceLT,Int.reduceLE,Int.reduceEq,Int.reduceToNat,Int.reduceNeg,fitB,newC,endD,endR,yrg,g9,g8,g7,g1]
  refine ⟨fun hlt => ?_, fun hlt => ?_⟩
  · have hi' : i < ps.length := by simpa using hlt
    obtain ⟨x, hx⟩ : ∃ x, ps[i]? = some x := ⟨ps[i], by simp [hi']⟩
    obtain ⟨b, o, c, rfl, hb, hc, hq⟩ := hs.at_ hx
    have q : part c (o + i * 2) 3 = some (.agg ⟨x.enc⟩) := part_of hq rfl
    have hc' : cellsOf (H'.get b) = some c := by rw [fs b hb]; exact hc
    have hps := fun (N : Nat) (H' : AHeap) => hp N H' x (List.mem_of_getElem? hx)
    simp only [Stp.enc] at q hps
    simp (disch := (first | (simp only [ne_eq,Nat.reduceEqDiff,not_false_eq_true,Nat.reduceLT]; done) | omega | (simp only [yz] <;> omega) | fail)) only [↓yp,yq0,yq1,yq2,yq3,yq4,yl,ys0,ys1,Nat.reduceAdd,Nat.reduceMul,Nat.reduceSub,Nat.reduceBEq,Nat.reduceEqDiff,Nat.reduceLT,Nat.reduceLeDiff,reduceIte,Int.reduceAdd,Int.reduceSub,Int.reduceMul,Int.reduceLT,Int.reduceLE,Int.reduceEq,Int.reduceToNat,Int.reduceNeg,fitB,newC,endD,endR,yrg,g9,g8,g7,g1,A_indexSlice st_esS_22,hc',q,hps]
    refine ⟨fun hA => ?_, fun hA => ?_⟩
    rotate_left
    · have : ps.all p = false := by rw [List.all_eq_false]; exact ⟨x, List.mem_of_getElem? hx, by rw [hA]; simp⟩
      simp (disch := (first | (simp only [ne_eq,Nat.reduceEqDiff,not_false_eq_true,Nat.reduceLT]; done) | omega | (simp only [yz] <;> omega) | fail)) only [↓yp,yq0,yq1,yq2,yq3,yq4,yl,ys0,ys1,Nat.reduceAdd,Nat.reduceMul,Nat.reduceSub,Nat.reduceBEq,Nat.reduceEqDiff,Nat.reduceLT,Nat.reduceLeDiff,reduceIte,Int.reduceAdd,Int.reduceSub,Int.reduceMul,Int.reduceLT,Int.reduceLE,Int.reduceEq,Int.reduceToNat,Int.reduceNeg,fitB,newC,endD,endR,yrg,hA,this]
    have hw2 : w64 ((i : Int) + 1) = ((i + 1 : Nat) : Int) := by rw [w64_of (by omega)]; omega
    simp (disch := (first | (simp only [ne_eq,Nat.reduceEqDiff,not_false_eq_true,Nat.reduceLT]; done) | omega | (simp only [yz] <;> omega) | fail)) only [↓yp,yq0,yq1,yq2,yq3,yq4,yl,ys0,ys1,Nat.reduceAdd,Nat.reduceMul,Nat.reduceSub,Nat.reduceBEq,Nat.reduceEqDiff,Nat.reduceLT,Nat.reduceLeDiff,reduceIte,Int.reduceAdd,Int.reduceSub,Int.reduceMul,Int.reduceLT,Int.reduceLE,Int.reduceEq,Int.reduceToNat,Int.reduceNeg,fitB,newC,endD,endR,yrg,hA,g9,g8,g7,g1,hw2]
    refine ⟨ps.length - (i + 1), by omega, i + 1, rfl, by omega, ?_, ?_, ?_, ?_, by (repeat (first | exact Fr.refl _ | assumption | refine Fr.allocd ?_ _ | refine Fr.kill ?_ (by first | assumption | omega) | refine Fr.put ?_ (by first | omega | (simp only [yz] <;> omega)) _)), ?_⟩
    · simp (disch := (first | (simp only [ne_eq,Nat.reduceEqDiff,not_false_eq_true,Nat.reduceLT]; done) | omega | (simp only [yz] <;> omega) | fail)) only [yg,Nat.reduceAdd,Nat.reduceEqDiff,Nat.reduceLT]
    · simp (disch := (first | (simp only [ne_eq,Nat.reduceEqDiff,not_false_eq_true,Nat.reduceLT]; done) | omega | (simp only [yz] <;> omega) | fail)) only [yg,Nat.reduceAdd,Nat.reduceEqDiff,Nat.reduceLT,g8]
    · simp (disch := (first | (simp only [ne_eq,Nat.reduceEqDiff,not_false_eq_true,Nat.reduceLT]; done) | omega | (simp only [yz] <;> omega) | fail)) only [yg,Nat.reduceAdd,Nat.reduceEqDiff,Nat.reduceLT,g7]
    · simp (disch := (first | (simp only [ne_eq,Nat.reduceEqDiff,not_false_eq_true,Nat.reduceLT]; done) | omega | (simp only [yz] <;> omega) | fail)) only [yg,Nat.reduceAdd,Nat.reduceEqDiff,Nat.reduceLT,g1]
    · intro j t hj' ht
      by_cases e : j = i
      · subst e; rw [hx] at ht; cases ht; exact hA
      · exact hj j t (by omega) ht
  · have hi' : ¬ i < ps.length := by simpa using hlt
    have : ps.all p = true := by
      rw [List.all_eq_true]
      intro s hs'
      obtain ⟨j, hj'⟩ := List.getElem?_of_mem hs'
      have := (List.getElem?_eq_some_iff.1 hj').1
      exact hj j s (by omega) hj'
    simp (disch := (first | (simp only [ne_eq,Nat.reduceEqDiff,not_false_eq_true,Nat.reduceLT]; done) | omega | (simp only [yz] <;> omega) | fail)) only [↓yp,yq0,yq1,yq2,yq3,yq4,yl,ys0,ys1,Nat.reduceAdd,Nat.reduceMul,Nat.reduceSub,Nat.reduceBEq,Nat.reduceEqDiff,Nat.reduceLT,Nat.reduceLeDiff,reduceIte,Int.reduceAdd,Int.reduceSub,Int.reduceMul,Int.reduceLT,Int.reduceLE,Int.reduceEq,Int.reduceToNat,Int.reduceNeg,fitB,newC,endD,endR,yrg,this]
theorem two_cells {c : List Value} {k : Nat} {u v : Value} (h : (c.drop k).take 2 = [u, v]) : c[k]? = some u ∧ c[k + 1]? = some v := by
  have h0 : ((c.drop k).take 2)[0]? = some u := by rw [h]; rfl
  have h1 : ((c.drop k).take 2)[1]? = some v := by rw [h]; rfl
  rw [List.getElem?_take, if_pos (by omega), List.getElem?_drop] at h0 h1
  exact ⟨h0, h1⟩
set_option maxHeartbeats 1000000 in
theorem c60 {a : Option Addr} {cap : Nat} {gs : List Stp} (hs : Rw stE H a gs) (hl : gs.length ≤ 16) : acall tabA (aexec tabA Try.prog (N + 170)) 60 [.slice a gs.length cap] H = some (true, .bool (riseB gs), H, H.size) := by
  refine call_quiet (k := 22) (rs := [.tmp 2]) rfl fn_60 rfl rfl rfl ?_ rfl
  simp (disch := (first | (simp only [ne_eq,Nat.reduceEqDiff,not_false_eq_true,Nat.reduceLT]; done) | omega | (simp only [yz] <;> omega) | fail)) only [↓yp,yq0,yq1,yq2,yq3,yq4,yl,ys0,ys1,Nat.reduceAdd,Nat.reduceMul,Nat.reduceSub,Nat.reduceBEq,Nat.reduceEqDiff,Nat.reduceLT,Nat.reduceLeDiff,reduceIte,Int.reduceAdd,Int.reduceSub,Int.reduceMul,Int.reduceLT,Int.reduceLE,Int.reduceEq,Int.reduceToNat,Int.reduceNeg,fitB,newC,endD,endR,yrg,lenV_slice st_esS_22]
  refine W_while (n := 22) 70 (fun k e H' => ∃ i : Nat, k = gs.length + 1 - i ∧ 1 ≤ i ∧ i ≤ gs.length + 1 ∧ gt 22 e 3 = .int .i64 (i : Nat) ∧ gt 22 e 0 = .slice a gs.length cap ∧ H' = H ∧ ∀ j x y, j + 1 < i → gs[j]? = some x → gs[j + 1]? = some y → x.u < y.u)
    ?_ 17 gs.length ⟨1, by omega, by omega, by omega, by simp (disch := (first | (simp only [ne_eq,Nat.reduceEqDiff,not_false_eq_true,Nat.reduceLT]; done) | omega | (simp only [yz] <;> omega) | fail)) only [yg,Nat.reduceAdd,Nat.reduceEqDiff,Nat.reduceLT]; rfl, by simp (disch := (first | (simp only [ne_eq,Nat.reduceEqDiff,not_false_eq_true,Nat.reduceLT]; done) | omega | (simp only [yz] <;> omega) | fail)) only [yg,Nat.reduceAdd,Nat.reduceEqDiff,Nat.reduceLT], rfl, fun j x y hj => by omega⟩ (by omega) (by omega)
  rintro M k e H' ⟨i, rfl, h1i, hi, g3, g0, rfl, hj⟩
  simp (disch := (first | (simp only [ne_eq,Nat.reduceEqDiff,not_false_eq_true,Nat.reduceLT]; done) | omega | (simp only [yz] <;> omega) | fail)) only [↓yp,yq0,yq1,yq2,yq3,yq4,yl,ys0,ys1,Nat.reduceAdd,Nat.reduceMul,Nat.reduceSub,Nat.reduceBEq,Nat.reduceEqDiff,Nat.reduceLT,Nat.reduceLeDiff,reduceIte,Int.reduceAdd,Int.reduceSub,Int.reduceMul,Int.reduceLT,Int.reduceLE,Int.reduceEq,Int.reduceToNat,Int.reduceNeg,fitB,newC,endD,endR,yrg,g3,g0,lenV_slice st_esS_22]
  refine ⟨fun hA => ?_, fun hA => ?_⟩
  · have hi' : i < gs.length := by simpa using hA
    obtain ⟨j, rfl⟩ : ∃ j, i = j + 1 := ⟨i - 1, by omega⟩
    obtain ⟨x, hx⟩ : ∃ x, gs[j]? = some x := ⟨gs[j], by simp [show j < gs.length by omega]⟩
    obtain ⟨y, hy⟩ : ∃ y, gs[j + 1]? = some y := ⟨gs[j + 1], by simp [hi']⟩
    obtain ⟨b, o, c, rfl, hb, hc, hq⟩ := hs.get (fun h => by rw [h] at hx; simp at hx)
    obtain ⟨b1, o1, c1, e1, -, hc1, hq1⟩ := hs.at_ hx
    cases e1
    obtain ⟨b2, o2, c2, e2, -, hc2, hq2⟩ := hs.at_ hy
    cases e2
    rw [hc] at hc1 hc2
    cases hc1
    cases hc2
    obtain ⟨x0, x1⟩ := two_cells (u := .int .i64 x.u) (v := .int .i64 x.p) hq1
    obtain ⟨y0, y1⟩ := two_cells (u := .int .i64 y.u) (v := .int .i64 y.p) hq2
    rw [show stE.z = 2 from rfl] at x0 x1 y0 y1
    have w1 : w64 (((j + 1 : Nat) : Int) - 1) = (j : Int) := by rw [w64_of (by omega)]; omega
    have w2 : w64 (((j + 1 : Nat) : Int) + 1) = ((j + 1 + 1 : Nat) : Int) := by rw [w64_of (by omega)]; omega
    simp (disch := (first | (simp only [ne_eq,Nat.reduceEqDiff,not_false_eq_true,Nat.reduceLT]; done) | omega | (simp only [yz] <;> omega) | fail)) only [↓yp,yq0,yq1,yq2,yq3,yq4,yl,ys0,ys1,Nat.reduceAdd,Nat.reduceMul,Nat.reduceSub,Nat.reduceBEq,Nat.reduceEqDiff,Nat.reduceLT,Nat.reduceLeDiff,reduceIte,Int.reduceAdd,Int.reduceSub,Int.reduceMul,Int.reduceLT,Int.reduceLE,Int.reduceEq,Int.reduceToNat,Int.reduceNeg,fitB,newC,endD,endR,yrg,g3,g0]
    refine W_draw [] rfl (by kernel_rfl) (by kernel_rfl) (by (first | omega | (simp only [yz] <;> omega))) ?_
    cases hB : decide (y.u ≤ x.u)
    · have h1 := of_decide_eq_false hB
      simp (disch := (first | (simp only [ne_eq,Nat.reduceEqDiff,not_false_eq_true,Nat.reduceLT]; done) | omega | (simp only [yz] <;> omega) | fail)) only [↓yp,yq0,yq1,yq2,yq3,yq4,yl,ys0,ys1,Nat.reduceAdd,Nat.reduceMul,Nat.reduceSub,Nat.reduceBEq,Nat.reduceEqDiff,Nat.reduceLT,Nat.reduceLeDiff,reduceIte,Int.reduceAdd,Int.reduceSub,Int.reduceMul,Int.reduceLT,Int.reduceLE,Int.reduceEq,Int.reduceToNat,Int.reduceNeg,fitB,newC,endD,endR,yrg,g3,g0,A_indexSlice st_esS_22,hc,x0,x1,y0,y1,w1,w2,hB]
      refine ⟨gs.length + 1 - (j + 1 + 1), by omega, j + 1 + 1, rfl, by omega, by omega, ?_, ?_, rfl, ?_⟩
      · simp (disch := (first | (simp only [ne_eq,Nat.reduceEqDiff,not_false_eq_true,Nat.reduceLT]; done) | omega | (simp only [yz] <;> omega) | fail)) only [yg,Nat.reduceAdd,Nat.reduceEqDiff,Nat.reduceLT]
      · simp (disch := (first | (simp only [ne_eq,Nat.reduceEqDiff,not_false_eq_true,Nat.reduceLT]; done) | omega | (simp only [yz] <;> omega) | fail)) only [yg,Nat.reduceAdd,Nat.reduceEqDiff,Nat.reduceLT,g0]
      · intro j' x' y' hj' hx' hy'
        by_cases e : j' = j
        · subst e; rw [hx] at hx'; rw [hy] at hy'; cases hx'; cases hy'; omega
        · exact hj j' x' y' (by omega) hx' hy'
    · have h2 := of_decide_eq_true hB
      have hn : riseB gs = false := by
        cases ho : riseB gs with
        | false => rfl
        | true => have := riseB_at.1 ho j x y hx hy; omega
      simp (disch := (first | (simp only [ne_eq,Nat.reduceEqDiff,not_false_eq_true,Nat.reduceLT]; done) | omega | (simp only [yz] <;> omega) | fail)) only [↓yp,yq0,yq1,yq2,yq3,yq4,yl,ys0,ys1,Nat.reduceAdd,Nat.reduceMul,Nat.reduceSub,Nat.reduceBEq,Nat.reduceEqDiff,Nat.reduceLT,Nat.reduceLeDiff,reduceIte,Int.reduceAdd,Int.reduceSub,Int.reduceMul,Int.reduceLT,Int.reduceLE,Int.reduceEq,Int.reduceToNat,Int.reduceNeg,fitB,newC,endD,endR,yrg,g3,g0,A_indexSlice st_esS_22,hc,x0,x1,y0,y1,w1,w2,hB,hn]
  · have hi' : ¬ i < gs.length := by simpa using hA
    have : riseB gs = true := riseB_at.2 fun j x y hx hy => hj j x y (by have := (List.getElem?_eq_some_iff.1 hy).1; omega) hx hy
    simp (disch := (first | (simp only [ne_eq,Nat.reduceEqDiff,not_false_eq_true,Nat.reduceLT]; done) | omega | (simp only [yz] <;> omega) | fail)) only [↓yp,yq0,yq1,yq2,yq3,yq4,yl,ys0,ys1,Nat.reduceAdd,Nat.reduceMul,Nat.reduceSub,Nat.reduceBEq,Nat.reduceEqDiff,Nat.reduceLT,Nat.reduceLeDiff,reduceIte,Int.reduceAdd,Int.reduceSub,Int.reduceMul,Int.reduceLT,Int.reduceLE,Int.reduceEq,Int.reduceToNat,Int.reduceNeg,fitB,newC,endD,endR,yrg,this]
/-- CheckTariff. -/
theorem c15 {a : Option Addr} {cap : Nat} {t : List Stp} (hs : Rw stE H a t) (hl : t.length ≤ 16) : acall tabA (aexec tabA Try.prog (N + 300)) 15 [.slice a t.length cap] H = some (true, .int .i64 (chkT t), H, H.size) := by
  refine call_quiet (k := 16) (rs := [.tmp 2]) rfl fn_15 rfl rfl rfl ?_ rfl
  have h57 := fun (N : Nat) (H : AHeap) (n lo hi : Int) => c57 (N := N) (H := H) (n := n) (lo := lo) (hi := hi)
  have h58 := fun (N : Nat) => c58 (N := N) (cap := cap) (g := 59) (p := Stp.isB) hs hl fun N H' x _ => c59 (N := N + 30) (H := H') (s := x)
  have h60 := fun (N : Nat) => c60 (N := N) (cap := cap) hs hl
  unfold chkT
  cases hA : wi t.length 1 4
  · simp (disch := (first | (simp only [ne_eq,Nat.reduceEqDiff,not_false_eq_true,Nat.reduceLT]; done) | omega | (simp only [yz] <;> omega) | fail)) only [↓yp,yq0,yq1,yq2,yq3,yq4,yl,ys0,ys1,Nat.reduceAdd,Nat.reduceMul,Nat.reduceSub,Nat.reduceBEq,Nat.reduceEqDiff,Nat.reduceLT,Nat.reduceLeDiff,reduceIte,Int.reduceAdd,Int.reduceSub,Int.reduceMul,Int.reduceLT,Int.reduceLE,Int.reduceEq,Int.reduceToNat,Int.reduceNeg,fitB,newC,endD,endR,yrg,lenV_slice st_esS_22,h57,hA]
  cases hB : t.all Stp.isB
  · simp (disch := (first | (simp only [ne_eq,Nat.reduceEqDiff,not_false_eq_true,Nat.reduceLT]; done) | omega | (simp only [yz] <;> omega) | fail)) only [↓yp,yq0,yq1,yq2,yq3,yq4,yl,ys0,ys1,Nat.reduceAdd,Nat.reduceMul,Nat.reduceSub,Nat.reduceBEq,Nat.reduceEqDiff,Nat.reduceLT,Nat.reduceLeDiff,reduceIte,Int.reduceAdd,Int.reduceSub,Int.reduceMul,Int.reduceLT,Int.reduceLE,Int.reduceEq,Int.reduceToNat,Int.reduceNeg,fitB,newC,endD,endR,yrg,lenV_slice st_esS_22,h57,h58,hA,hB]
  cases hC : riseB t
  · simp (disch := (first | (simp only [ne_eq,Nat.reduceEqDiff,not_false_eq_true,Nat.reduceLT]; done) | omega | (simp only [yz] <;> omega) | fail)) only [↓yp,yq0,yq1,yq2,yq3,yq4,yl,ys0,ys1,Nat.reduceAdd,Nat.reduceMul,Nat.reduceSub,Nat.reduceBEq,Nat.reduceEqDiff,Nat.reduceLT,Nat.reduceLeDiff,reduceIte,Int.reduceAdd,Int.reduceSub,Int.reduceMul,Int.reduceLT,Int.reduceLE,Int.reduceEq,Int.reduceToNat,Int.reduceNeg,fitB,newC,endD,endR,yrg,lenV_slice st_esS_22,h57,h58,h60,hA,hB,hC]
  · simp (disch := (first | (simp only [ne_eq,Nat.reduceEqDiff,not_false_eq_true,Nat.reduceLT]; done) | omega | (simp only [yz] <;> omega) | fail)) only [↓yp,yq0,yq1,yq2,yq3,yq4,yl,ys0,ys1,Nat.reduceAdd,Nat.reduceMul,Nat.reduceSub,Nat.reduceBEq,Nat.reduceEqDiff,Nat.reduceLT,Nat.reduceLeDiff,reduceIte,Int.reduceAdd,Int.reduceSub,Int.reduceMul,Int.reduceLT,Int.reduceLE,Int.reduceEq,Int.reduceToNat,Int.reduceNeg,fitB,newC,endD,endR,yrg,lenV_slice st_esS_22,h57,h58,h60,hA,hB,hC]
/-- sum. -/
theorem c77 {a : Option Addr} {cap : Nat} {t : List Int} (hs : Rw intE H a t) (hl : t.length ≤ 64) (hb : ∀ x ∈ t, -1000000000000 ≤ x ∧ x ≤ 1000000000000) :
    acall tabA (aexec tabA Try.prog (N + 150)) 77 [.slice a t.length cap] H = some (true, .int .i64 (isum t), H, H.size) := by
  refine call_quiet (k := 17) (rs := [.tmp 2]) rfl fn_77 rfl rfl rfl ?_ rfl
  simp (disch := (first | (simp only [ne_eq,Nat.reduceEqDiff,not_false_eq_true,Nat.reduceLT]; done) | omega | (simp only [yz] <;> omega) | fail)) only [↓yp,yq0,yq1,yq2,yq3,yq4,yl,ys0,ys1,Nat.reduceAdd,Nat.reduceMul,Nat.reduceSub,Nat.reduceBEq,Nat.reduceEqDiff,Nat.reduceLT,Nat.reduceLeDiff,reduceIte,Int.reduceAdd,Int.reduceSub,Int.reduceMul,Int.reduceLT,Int.reduceLE,Int.reduceEq,Int.reduceToNat,Int.reduceNeg,fitB,newC,endD,endR,yrg,lenV_slice st_esS_40]
  refine W_while (n := 17) 40 (fun k e H' => ∃ i : Nat, k = t.length - i ∧ i ≤ t.length ∧ gt 17 e 8 = .int .i64 (i : Nat) ∧ gt 17 e 7 = .int .i64 t.length ∧ gt 17 e 6 = .slice a t.length cap ∧ gt 17 e 3 = .int .i64 (isum (t.take i)) ∧ H' = H)
    ?_ 64 t.length ⟨0, by omega, by omega, by simp (disch := (first | (simp only [ne_eq,Nat.reduceEqDiff,not_false_eq_true,Nat.reduceLT]; done) | omega | (simp only [yz] <;> omega) | fail)) only [yg,Nat.reduceAdd,Nat.reduceEqDiff,Nat.reduceLT]; rfl, by simp (disch := (first | (simp only [ne_eq,Nat.reduceEqDiff,not_false_eq_true,Nat.reduceLT]; done) | omega | (simp only [yz] <;> omega) | fail)) only [yg,Nat.reduceAdd,Nat.reduceEqDiff,Nat.reduceLT], by simp (disch := (first | (simp only [ne_eq,Nat.reduceEqDiff,not_false_eq_true,Nat.reduceLT]; done) | omega | (simp only [yz] <;> omega) | fail)) only [yg,Nat.reduceAdd,Nat.reduceEqDiff,Nat.reduceLT], by simp (disch := (first | (simp only [ne_eq,Nat.reduceEqDiff,not_false_eq_true,Nat.reduceLT]; done) | omega | (simp only [yz] <;> omega) | fail)) only [yg,Nat.reduceAdd,Nat.reduceEqDiff,Nat.reduceLT]; rfl, rfl⟩ (by omega) (by omega)
  rintro M k e H' ⟨i, rfl, hi, g8, g7, g6, g3, rfl⟩
  simp (disch := (first | (simp only [ne_eq,Nat.reduceEqDiff,not_false_eq_true,Nat.reduceLT]; done) | omega | (simp only [yz] <;> omega) | fail)) only [↓yp,yq0,yq1,yq2,yq3,yq4,yl,ys0,ys1,Nat.reduceAdd,Nat.reduceMul,Nat.reduceSub,Nat.reduceBEq,Nat.reduceEqDiff,Nat.reduceLT,Nat.reduceLeDiff,reduceIte,Int.reduceAdd,Int.reduceSub,Int.reduceMul,Int.reduceLT,Int.reduceLE,Int.reduceEq,Int.reduceToNat,Int.reduceNeg,fitB,newC,endD,endR,yrg,g8,g7]
  refine ⟨fun hA => ?_, fun hA => ?_⟩
  · have hi' : i < t.length := by simpa using hA
    obtain ⟨v, hv⟩ : ∃ v, t[i]? = some v := ⟨t[i], by simp [hi']⟩
    obtain ⟨b, o, c, rfl, hb', hc, hp⟩ := hs.at_ hv
    have q := cell_of hp
    rw [show i * intE.z = i * 1 from rfl, Nat.mul_one] at q
    have hv2 := hb v (List.mem_of_getElem? hv)
    have hs1 := isum_in (l := t.take i) (m := 1000000000000) fun x hx => hb x (List.mem_of_mem_take hx)
    have hl1 : (t.take i).length ≤ 64 := by rw [List.length_take]; omega
    have e1 : isum (t.take i) + v = isum (t.take (i + 1)) := by
      rw [List.take_add_one, hv, isum_app]; show _ = _ + (v + 0); omega
    have hw : w64 (isum (t.take i) + v) = isum (t.take (i + 1)) := by rw [w64_of (by omega), e1]
    have hw2 : w64 ((i : Int) + 1) = ((i + 1 : Nat) : Int) := by rw [w64_of (by omega)]; omega
    simp (disch := (first | (simp only [ne_eq,Nat.reduceEqDiff,not_false_eq_true,Nat.reduceLT]; done) | omega | (simp only [yz] <;> omega) | fail)) only [↓yp,yq0,yq1,yq2,yq3,yq4,yl,ys0,ys1,Nat.reduceAdd,Nat.reduceMul,Nat.reduceSub,Nat.reduceBEq,Nat.reduceEqDiff,Nat.reduceLT,Nat.reduceLeDiff,reduceIte,Int.reduceAdd,Int.reduceSub,Int.reduceMul,Int.reduceLT,Int.reduceLE,Int.reduceEq,Int.reduceToNat,Int.reduceNeg,fitB,newC,endD,endR,yrg,g8,g7,g6,g3,A_indexSlice st_esS_40,hc,q,hw,hw2]
    exact ⟨t.length - (i + 1), by omega, i + 1, rfl, by omega, by simp (disch := (first | (simp only [ne_eq,Nat.reduceEqDiff,not_false_eq_true,Nat.reduceLT]; done) | omega | (simp only [yz] <;> omega) | fail)) only [yg,Nat.reduceAdd,Nat.reduceEqDiff,Nat.reduceLT], by simp (disch := (first | (simp only [ne_eq,Nat.reduceEqDiff,not_false_eq_true,Nat.reduceLT]; done) | omega | (simp only [yz] <;> omega) | fail)) only [yg,Nat.reduceAdd,Nat.reduceEqDiff,Nat.reduceLT,g7], by simp (disch := (first | (simp only [ne_eq,Nat.reduceEqDiff,not_false_eq_true,Nat.reduceLT]; done) | omega | (simp only [yz] <;> omega) | fail)) only [yg,Nat.reduceAdd,Nat.reduceEqDiff,Nat.reduceLT,g6], by simp (disch := (first | (simp only [ne_eq,Nat.reduceEqDiff,not_false_eq_true,Nat.reduceLT]; done) | omega | (simp only [yz] <;> omega) | fail)) only [yg,Nat.reduceAdd,Nat.reduceEqDiff,Nat.reduceLT], rfl⟩
  · have hi' : i = t.length := by have : ¬ ((i : Int) < t.length) := by simpa using hA
                                  omega
    subst hi'
    rw [List.take_length] at g3
    simp (disch := (first | (simp only [ne_eq,Nat.reduceEqDiff,not_false_eq_true,Nat.reduceLT]; done) | omega | (simp only [yz] <;> omega) | fail)) only [↓yp,yq0,yq1,yq2,yq3,yq4,yl,ys0,ys1,Nat.reduceAdd,Nat.reduceMul,Nat.reduceSub,Nat.reduceBEq,Nat.reduceEqDiff,Nat.reduceLT,Nat.reduceLeDiff,reduceIte,Int.reduceAdd,Int.reduceSub,Int.reduceMul,Int.reduceLT,Int.reduceLE,Int.reduceEq,Int.reduceToNat,Int.reduceNeg,fitB,newC,endD,endR,yrg,g3]
theorem fl_int : ∀ t : List Int, intE.fl t = tv t
  | [] => rfl
  | x :: t => by show [Value.int .i64 x] ++ intE.fl t = .int .i64 x :: tv t; rw [fl_int t]; rfl
theorem Rw.int {b : Nat} {t : List Int} (hb : b < H.size) (h : cellsOf (H.get b) = some (tv t)) : Rw intE H (some ⟨b, 0, none⟩) t := Rw.of (r := []) hb h (by rw [List.append_nil, fl_int])
end Go.Am
/- What pounds cost. -/
namespace Go.Am
open Go.Proofs
variable {T : Tab} {P : Program} {N L : Nat} {H H' H'' : AHeap} {Q : Bool → Value → AHeap → Prop}
/-- A row that is made by append, with the blocks that are its own. -/
structure Gw (H : AHeap) (tb : Nat) (S : Nat → Prop) (v : Value) (i : Nat) (cs : List Value) (el z : Nat) : Prop where
  nil : i = 0 → v = .slice none 0 0
  cons : i ≠ 0 → ∃ b al, v = .slice (some ⟨b, 0, none⟩) i (OPEN + z) ∧ S b ∧ H.get b = .rw cs el true al ∧ (∀ j ∈ al, S j)
  own : ∀ j, S j → tb < j ∧ j < H.size
section
variable {tb i el z by' b cap : Nat} {S : Nat → Prop} {v sv : Value} {cs news : List Value}
theorem Gw.same (g : Gw H tb S v i cs el z) (h : H.size ≤ H'.size) (hs : ∀ j, S j → H'.get j = H.get j) : Gw H' tb S v i cs el z :=
  ⟨g.nil, fun h0 => by
    obtain ⟨b, al, h1, h2, h3, h4⟩ := g.cons h0
    exact ⟨b, al, h1, h2, by rw [hs b h2]; exact h3, h4⟩, fun j hj => ⟨(g.own j hj).1, Nat.lt_of_lt_of_le (g.own j hj).2 h⟩⟩
theorem Gw.fr (g : Gw H tb S v i cs el z) (f : Fr H H') : Gw H' tb S v i cs el z := g.same f.size fun j hj => f.same j (g.own j hj).2
theorem Gw.put {j : Nat} (g : Gw H tb S v i cs el z) (hj : ¬ S j) (blk : ABlk) : Gw (H.put j blk) tb S v i cs el z := g.same (by rw [size_put]; exact Nat.le_refl _) fun q hq => get_put_ne (by rintro rfl; exact hj hq)
theorem Gw.none : Gw H tb (fun _ => False) (.slice none 0 0) 0 [] el z := ⟨fun _ => rfl, fun h => absurd rfl h, fun _ h => h.elim⟩
theorem gw_append {ty : TypeId} (hs : apS tabA ty = some (el, z, by')) (g : Gw H tb S sv i cs el z) (htb : tb < H.size) (hcs : cs.length = i * z) (hx : srcCells H ⟨b, 0, none⟩ (1 * z) = some news) (hb : (i + 1) * by' ≤ 140737488355328) (hn : i + 1 ≤ 9223372036854775807)
    (h1 : oneCells news = true) (hL : L ≤ tb) (hq : ∀ a' c' H', H.size < H'.size → (∀ j, j < H.size → ¬ S j → H'.get j = H.get j) → Gw H' tb (fun j => S j ∨ j = H.size) (.slice a' (i + 1) c') (i + 1) (cs ++ news) el z → Q false (.slice a' (i + 1) c') H') : apK tabA H ty sv (.slice (some ⟨b, 0, none⟩) 1 cap) L Q := by
  by_cases hi : i = 0
  · subst hi
    rw [g.nil rfl, apK_nil hs hx (by omega) (by omega) (by omega) h1, andK_of _ (by omega)]
    refine hq _ _ _ (by simp only [size_alloc]; omega) (fun k hk _ => get_alloc_lt (by omega)) ⟨fun h => by omega, fun _ => ⟨H.size, [], rfl, .inr rfl, ?_, by simp⟩, fun j hj => ?_⟩
    · have : cs = [] := List.length_eq_zero_iff.1 (by omega)
      subst this
      exact get_alloc_same
    · rcases hj with hj | rfl
      · have := g.own j hj
        simp only [size_alloc]; omega
      · simp only [size_alloc]; omega
  · obtain ⟨b₀, al, rfl, k1, k3, k4⟩ := g.cons hi
    have k2 := (g.own _ k1).1
    rw [apK_more hs hx (by omega) (by exact hb) (by omega) h1 k3 hcs rfl, andK_of _ (le_minAl (by omega) (fun j hj => by have := (g.own j (k4 j hj)).1; omega))]
    refine hq _ _ _ (by simp only [size_alloc,size_put,size_kill]; omega) (fun k hk hS => ?_) ⟨fun h => by omega, fun _ => ⟨H.size, [b₀], rfl, .inr rfl, ?_, by simpa using .inl k1⟩, fun j hj => ?_⟩
    · rw [get_alloc_lt (by simp only [size_put,size_kill]; omega), get_put_ne (by rintro rfl; exact hS k1), get_kill (fun hm => hS (k4 k hm))]
    · exact get_alloc_eq (by simp only [size_put,size_kill])
    · simp only [size_alloc,size_put,size_kill]
      rcases hj with hj | rfl
      · have := g.own j hj; omega
      · omega
end
/-- A slice of such things, none of them in one block. -/
structure Rx {α : Type} (k : Nat) (E : Enc α) (H : AHeap) (a : Option Addr) (l : List α) : Prop where
  rw : Rw E H a l
  ne : l ≠ [] → ∀ b o s, a = some ⟨b, o, s⟩ → b ≠ k
theorem Rx.fr {α : Type} {E : Enc α} {l : List α} {k : Nat} {a : Option Addr} (h : Rx k E H a l) (f : Fr H H') : Rx k E H' a l := ⟨h.rw.fr f, h.ne⟩
theorem Gw.rx {α : Type} {E : Enc α} {l : List α} {k tb c el : Nat} {S : Nat → Prop} {a : Option Addr} (g : Gw H tb S (.slice a l.length c) l.length (E.fl l) el E.z) (hk : ¬ S k) : Rx k E H a l := ⟨⟨fun hne => by
  obtain ⟨b, al, h1, h2, h4, h5⟩ := g.cons (by simpa using hne)
  cases h1
  exact (Rw.of (r := []) (g.own _ h2).2 (by rw [h4]; rfl) (by rw [List.append_nil])).get hne⟩, fun hne b o s e => by
  obtain ⟨b', al, h1, h2, h4, h5⟩ := g.cons (by simpa using hne)
  cases h1
  cases e
  exact fun e => hk (by rw [← e]; exact h2)⟩
theorem take_fl {α : Type} {E : Enc α} {l : List α} {x : α} {i : Nat} (h : l[i]? = some x) : E.fl (l.take i) ++ E.f x = E.fl (l.take (i + 1)) := by
  rw [List.take_add_one, h, fl_app]
  show _ = _ ++ (E.f x ++ [])
  rw [List.append_nil]
theorem Gw.low {tb i el z : Nat} {S : Nat → Prop} {v : Value} {cs : List Value} (g : Gw H tb S v i cs el z) : ∀ j, j ≤ tb → ¬ S j := fun j hj h => by have := (g.own j h).1; omega
/-- Blocks from one on. -/
def Up (tb : Nat) (x : Option Addr) : Prop := ∀ b o s, x = some ⟨b, o, s⟩ → tb ≤ b
theorem Up.none {tb : Nat} : Up tb none := fun _ _ _ h => by cases h
theorem Up.some {tb b o : Nat} {s : Option Nat} (h : tb ≤ b) : Up tb (some ⟨b, o, s⟩) := fun _ _ _ e => by cases e; exact h
theorem st_apS_40 : apS tabA 40 = some (3, 1, 8) := by kernel_rfl
theorem st_apS_22 : apS tabA 22 = some (26, 2, 16) := by kernel_rfl
theorem i64_quo {ty : TypeId} {x y : Operand} {a b : Int} (h : b ≠ 0) : binV T P .quo ty x y (.int .i64 a) (.int .i64 b) = some (.int .i64 (w64 (a.tdiv b))) := by
  show (match (match pureRun P (Op.intDiv .quo .i64 a b) with
    | some v => bif gr v then some v else none
    | none => none) with
    | some v => some v
    | none => _) = _
  unfold Op.intDiv
  rw [if_neg h]; rfl
theorem c103 {n : Int} (hn : -100000000000000 ≤ n ∧ n ≤ 100000000000000) : acall tabA (aexec tabA Try.prog (N + 20)) 103 [.int .i64 n] H = some (true, .int .i64 (whl n), H, H.size) := by
  refine call_quiet (k := 6) (rs := [.tmp 2]) rfl fn_103 rfl rfl rfl ?_ rfl
  have w1 : w64 (n + 99) = n + 99 := w64_of (by omega)
  have h2 : (n + 99).tdiv 100 = whl n := rfl
  have h3 : -100000000000000 ≤ whl n ∧ whl n ≤ 100000000000100 := by
    unfold whl
    by_cases h : 0 ≤ n + 99
    · rw [Int.tdiv_eq_ediv_of_nonneg h]; omega
    · have := Int.neg_tdiv (a := -(n + 99)) (b := 100)
      rw [Int.neg_neg, Int.tdiv_eq_ediv_of_nonneg (a := -(n + 99)) (by omega)] at this
      rw [this]; omega
  have w2 : w64 (whl n) = whl n := w64_of (by omega)
  simp (disch := (first | (simp only [ne_eq,Nat.reduceEqDiff,not_false_eq_true,Nat.reduceLT]; done) | omega | (simp only [yz] <;> omega) | fail)) only [↓yp,yq0,yq1,yq2,yq3,yq4,yl,ys0,ys1,Nat.reduceAdd,Nat.reduceMul,Nat.reduceSub,Nat.reduceBEq,Nat.reduceEqDiff,Nat.reduceLT,Nat.reduceLeDiff,reduceIte,Int.reduceAdd,Int.reduceSub,Int.reduceMul,Int.reduceLT,Int.reduceLE,Int.reduceEq,Int.reduceToNat,Int.reduceNeg,fitB,newC,endD,endR,yrg,w1,i64_quo (b := 100) (by omega),h2,w2]
/-- What the loop over the steps still has to do. -/
theorem hunL_drop : ∀ {t : List Stp} {i : Nat} {s : Stp} {b n : Int}, t[i]? = some s → hunL (t.drop i) b n = ((bif i + 1 == t.length then n else mn s.u n) - b) * s.p :: hunL (t.drop (i + 1)) (bif i + 1 == t.length then n else mn s.u n) n
  | [], i, s, b, n, h => by simp at h
  | [x], 0, s, b, n, h => by
    simp only [List.getElem?_cons_zero,Option.some.injEq] at h
    subst h; rfl
  | x :: y :: t, 0, s, b, n, h => by
    simp only [List.getElem?_cons_zero,Option.some.injEq] at h
    subst h; rfl
  | x :: t, i + 1, s, b, n, h => by
    have := hunL_drop (t := t) (i := i) (b := b) (n := n) (by simpa using h)
    rw [List.drop_succ_cons, this, List.length_cons]
    have e : (i + 1 + 1 == t.length + 1) = (i + 1 == t.length) := by rw [Bool.eq_iff_iff]; simp
    rw [e, List.drop_succ_cons]
set_option maxHeartbeats 2000000 in
theorem c62 {a : Option Addr} {cap : Nat} {t : List Stp} {n : Int} (hs : Rw stE H a t) (ht : TarOk t) (hn : 0 ≤ n ∧ n ≤ 20001) :
    acall tabA (aexec tabA Try.prog (N + 400)) 62 [.slice a t.length cap, .int .i64 n] H = some (true, .int .i64 (whl (cts t n)), H, H.size) := by
  have hl := ht.len
  refine call_quiet (k := 41) (rs := [.tmp 4]) rfl fn_62 rfl rfl rfl ?_ rfl
  simp (disch := (first | (simp only [ne_eq,Nat.reduceEqDiff,not_false_eq_true,Nat.reduceLT]; done) | omega | (simp only [yz] <;> omega) | fail)) only [↓yp,yq0,yq1,yq2,yq3,yq4,yl,ys0,ys1,Nat.reduceAdd,Nat.reduceMul,Nat.reduceSub,Nat.reduceBEq,Nat.reduceEqDiff,Nat.reduceLT,Nat.reduceLeDiff,reduceIte,Int.reduceAdd,Int.reduceSub,Int.reduceMul,Int.reduceLT,Int.reduceLE,Int.reduceEq,Int.reduceToNat,Int.reduceNeg,fitB,newC,endD,endR,yrg,lenV_slice st_esS_22]
  refine W_while (n := 41) 100 (fun k e H' => ∃ (i : Nat) (v : Value) (S : Nat → Prop) (cs : List Int) (b : Int), k = t.length - i ∧ i ≤ t.length ∧ gt 41 e 12 = .int .i64 (i : Nat) ∧ gt 41 e 11 = .int .i64 t.length ∧ gt 41 e 10 = .slice a t.length cap ∧ gt 41 e 0 = .slice a t.length cap ∧ gt 41 e 1 = .int .i64 n ∧ gt 41 e 5 = v ∧ gt 41 e 6 = .int .i64 b ∧ Fr H H' ∧ Gw H' H.size S v i (intE.fl cs) 3 1 ∧ cs.length = i ∧ (0 ≤ b ∧ b ≤ 20001) ∧ cs ++ hunL (t.drop i) b n = hunL t 0 n ∧ ∀ x ∈ cs, -100000000 ≤ x ∧ x ≤ 100000000)
    ?_ 4 t.length ⟨0, _, _, [], 0, by omega, by omega, by simp (disch := (first | (simp only [ne_eq,Nat.reduceEqDiff,not_false_eq_true,Nat.reduceLT]; done) | omega | (simp only [yz] <;> omega) | fail)) only [yg,Nat.reduceAdd,Nat.reduceEqDiff,Nat.reduceLT]; rfl, by simp (disch := (first | (simp only [ne_eq,Nat.reduceEqDiff,not_false_eq_true,Nat.reduceLT]; done) | omega | (simp only [yz] <;> omega) | fail)) only [yg,Nat.reduceAdd,Nat.reduceEqDiff,Nat.reduceLT], by simp (disch := (first | (simp only [ne_eq,Nat.reduceEqDiff,not_false_eq_true,Nat.reduceLT]; done) | omega | (simp only [yz] <;> omega) | fail)) only [yg,Nat.reduceAdd,Nat.reduceEqDiff,Nat.reduceLT], by simp (disch := (first | (simp only [ne_eq,Nat.reduceEqDiff,not_false_eq_true,Nat.reduceLT]; done) | omega | (simp only [yz] <;> omega) | fail)) only [yg,Nat.reduceAdd,Nat.reduceEqDiff,Nat.reduceLT], by simp (disch := (first | (simp only [ne_eq,Nat.reduceEqDiff,not_false_eq_true,Nat.reduceLT]; done) | omega | (simp only [yz] <;> omega) | fail)) only [yg,Nat.reduceAdd,Nat.reduceEqDiff,Nat.reduceLT], by simp (disch := (first | (simp only [ne_eq,Nat.reduceEqDiff,not_false_eq_true,Nat.reduceLT]; done) | omega | (simp only [yz] <;> omega) | fail)) only [yg,Nat.reduceAdd,Nat.reduceEqDiff,Nat.reduceLT], by simp (disch := (first | (simp only [ne_eq,Nat.reduceEqDiff,not_false_eq_true,Nat.reduceLT]; done) | omega | (simp only [yz] <;> omega) | fail)) only [yg,Nat.reduceAdd,Nat.reduceEqDiff,Nat.reduceLT], Fr.refl _, Gw.none, rfl, by omega, rfl, by simp⟩ (by omega) (by omega)
  rintro M1 k e H1 ⟨i, v, S, cs, b, rfl, hi, g12, g11, g10, g0, g1, g5, g6, fr, gw, hcl, hb, hcs, hin⟩
  have f0 := fr.size
  simp (disch := (first | (simp only [ne_eq,Nat.reduceEqDiff,not_false_eq_true,Nat.reduceLT]; done) | omega | (simp only [yz] <;> omega) | fail)) only [↓yp,yq0,yq1,yq2,yq3,yq4,yl,ys0,ys1,Nat.reduceAdd,Nat.reduceMul,Nat.reduceSub,Nat.reduceBEq,Nat.reduceEqDiff,Nat.reduceLT,Nat.reduceLeDiff,reduceIte,Int.reduceAdd,Int.reduceSub,Int.reduceMul,Int.reduceLT,Int.reduceLE,Int.reduceEq,Int.reduceToNat,Int.reduceNeg,fitB,newC,endD,endR,yrg,g12,g11]
  refine ⟨fun hT => ?_, fun hT => ?_⟩
  · have hlt : i < t.length := by simpa using hT
    obtain ⟨s, hp⟩ : ∃ s, t[i]? = some s := ⟨t[i], by simp [hlt]⟩
    obtain ⟨bl, o, c, eb, hbl, hc, hqq⟩ := (hs.fr fr).at_ hp
    have q : part c (o + i * 2) 3 = some (.agg ⟨s.enc⟩) := part_of hqq rfl
    have hw2 : w64 ((i : Int) + 1) = ((i + 1 : Nat) : Int) := by rw [w64_of (by omega)]; omega
    simp only [Stp.enc] at q
    have hso := ht.ok s (List.mem_of_getElem? hp)
    have hu := hso.u
    have hpp := hso.p
    have wl : w64 ((t.length : Int) - 1) = (t.length : Int) - 1 := w64_of (by omega)
    have hmn : (if n < s.u then n else s.u) = mn s.u n := rfl
    have hmr : 0 ≤ mn s.u n ∧ mn s.u n ≤ 20001 := by unfold mn; split <;> omega
    subst eb
    have hdr := hunL_drop (b := b) (n := n) hp
    have step : ∀ up : Int, (0 ≤ up ∧ up ≤ 20001) → (bif i + 1 == t.length then n else mn s.u n) = up → w64 (up - b) = up - b ∧ w64 ((up - b) * s.p) = (up - b) * s.p ∧ cs ++ [(up - b) * s.p] ++ hunL (t.drop (i + 1)) up n = hunL t 0 n ∧ ∀ x ∈ cs ++ [(up - b) * s.p], -100000000 ≤ x ∧ x ≤ 100000000 := fun up hup e => by
      have hm : -20001 * 500 ≤ (up - b) * s.p ∧ (up - b) * s.p ≤ 20001 * 500 := by
        by_cases h0 : 0 ≤ up - b
        · have h1 := Int.mul_nonneg h0 hpp.1
          have h2 := Int.mul_le_mul (show up - b ≤ 20001 by omega) hpp.2 hpp.1 (by omega)
          omega
        · have h1 := Int.mul_nonneg (show 0 ≤ -(up - b) by omega) hpp.1
          have h2 := Int.mul_le_mul (show -(up - b) ≤ 20001 by omega) hpp.2 hpp.1 (by omega)
          rw [Int.neg_mul] at h1 h2
          omega
      refine ⟨w64_of (by omega), w64_of (by omega), ?_, fun x hx => ?_⟩
      · rw [← hcs, hdr, e, List.append_assoc]; rfl
      · rcases List.mem_append.1 hx with h | h
        · exact hin x h
        · simp only [List.mem_singleton] at h; subst h; omega
    cases hL : decide ((i : Int) = (t.length : Int) - 1)
    all_goals
      have hL' := hL
      simp only [decide_eq_true_eq,decide_eq_false_iff_not] at hL'
    · obtain ⟨w1, w2, hcs2, hin2⟩ := step (mn s.u n) hmr (by rw [show (i + 1 == t.length) = false by rw [beq_eq_false_iff_ne]; omega]; rfl)
      simp (disch := (first | (simp only [ne_eq,Nat.reduceEqDiff,not_false_eq_true,Nat.reduceLT]; done) | omega | (simp only [yz] <;> omega) | fail)) only [↓yp,yq0,yq1,yq2,yq3,yq4,yl,ys0,ys1,Nat.reduceAdd,Nat.reduceMul,Nat.reduceSub,Nat.reduceBEq,Nat.reduceEqDiff,Nat.reduceLT,Nat.reduceLeDiff,reduceIte,Int.reduceAdd,Int.reduceSub,Int.reduceMul,Int.reduceLT,Int.reduceLE,Int.reduceEq,Int.reduceToNat,Int.reduceNeg,fitB,newC,endD,endR,yrg,g12,g10,g0,g1,g5,g6,A_indexSlice st_esS_22,hc,q,A_min,mm_min,hmn,lenV_slice st_esS_22,wl,hL,w1,w2,A_buildSlice st_brS_40_1]
      refine gw_append (i := i) (cs := intE.fl cs) (news := [.int .i64 ((mn s.u n - b) * s.p)]) st_apS_40 (gw.fr (by (repeat (first | exact Fr.refl _ | assumption | refine Fr.allocd ?_ _ | refine Fr.kill ?_ (by first | assumption | omega) | refine Fr.put ?_ (by first | omega | (simp only [yz] <;> omega)) _)))) (by (first | omega | (simp only [yz] <;> omega))) (by rw [fl_length, hcl]; rfl) (by unfold srcCells; simp (disch := (first | (simp only [ne_eq,Nat.reduceEqDiff,not_false_eq_true,Nat.reduceLT]; done) | omega | (simp only [yz] <;> omega) | fail)) only [yg,Nat.reduceAdd,Nat.reduceEqDiff,Nat.reduceLT]; rfl) (by omega) (by omega) rfl (by omega) ?_
      intro a1 c1 H2 hs2 fs2 gw1
      simp only [size_alloc,size_put] at hs2 fs2
      rw [show intE.fl cs ++ [Value.int .i64 ((mn s.u n - b) * s.p)] = intE.fl (cs ++ [(mn s.u n - b) * s.p]) by rw [fl_app]; rfl] at gw1
      simp (disch := (first | (simp only [ne_eq,Nat.reduceEqDiff,not_false_eq_true,Nat.reduceLT]; done) | omega | (simp only [yz] <;> omega) | fail)) only [↓yp,yq0,yq1,yq2,yq3,yq4,yl,ys0,ys1,Nat.reduceAdd,Nat.reduceMul,Nat.reduceSub,Nat.reduceBEq,Nat.reduceEqDiff,Nat.reduceLT,Nat.reduceLeDiff,reduceIte,Int.reduceAdd,Int.reduceSub,Int.reduceMul,Int.reduceLT,Int.reduceLE,Int.reduceEq,Int.reduceToNat,Int.reduceNeg,fitB,newC,endD,endR,yrg,g12,hw2]
      refine ⟨t.length - (i + 1), by omega, i + 1, _, _, cs ++ [(mn s.u n - b) * s.p], mn s.u n, rfl, by omega, ?_, ?_, ?_, ?_, ?_, ?_, ?_, ?_, gw1, by simp [hcl], hmr, hcs2, hin2⟩
      · simp (disch := (first | (simp only [ne_eq,Nat.reduceEqDiff,not_false_eq_true,Nat.reduceLT]; done) | omega | (simp only [yz] <;> omega) | fail)) only [yg,Nat.reduceAdd,Nat.reduceEqDiff,Nat.reduceLT]
      · simp (disch := (first | (simp only [ne_eq,Nat.reduceEqDiff,not_false_eq_true,Nat.reduceLT]; done) | omega | (simp only [yz] <;> omega) | fail)) only [yg,Nat.reduceAdd,Nat.reduceEqDiff,Nat.reduceLT,g11]
      · simp (disch := (first | (simp only [ne_eq,Nat.reduceEqDiff,not_false_eq_true,Nat.reduceLT]; done) | omega | (simp only [yz] <;> omega) | fail)) only [yg,Nat.reduceAdd,Nat.reduceEqDiff,Nat.reduceLT,g10]
      · simp (disch := (first | (simp only [ne_eq,Nat.reduceEqDiff,not_false_eq_true,Nat.reduceLT]; done) | omega | (simp only [yz] <;> omega) | fail)) only [yg,Nat.reduceAdd,Nat.reduceEqDiff,Nat.reduceLT,g0]
      · simp (disch := (first | (simp only [ne_eq,Nat.reduceEqDiff,not_false_eq_true,Nat.reduceLT]; done) | omega | (simp only [yz] <;> omega) | fail)) only [yg,Nat.reduceAdd,Nat.reduceEqDiff,Nat.reduceLT,g1]
      · simp (disch := (first | (simp only [ne_eq,Nat.reduceEqDiff,not_false_eq_true,Nat.reduceLT]; done) | omega | (simp only [yz] <;> omega) | fail)) only [yg,Nat.reduceAdd,Nat.reduceEqDiff,Nat.reduceLT]
      · simp (disch := (first | (simp only [ne_eq,Nat.reduceEqDiff,not_false_eq_true,Nat.reduceLT]; done) | omega | (simp only [yz] <;> omega) | fail)) only [yg,Nat.reduceAdd,Nat.reduceEqDiff,Nat.reduceLT]
      · exact ⟨by omega, fun q hq => by rw [fs2 q (by omega) (gw.low q (by omega)), get_alloc_lt (by (first | omega | (simp only [yz] <;> omega))), get_put_ne (by omega), get_alloc_lt (by omega)]; exact fr.same q hq⟩
    · obtain ⟨w1, w2, hcs2, hin2⟩ := step n hn (by rw [show (i + 1 == t.length) = true by rw [beq_iff_eq]; omega]; rfl)
      simp (disch := (first | (simp only [ne_eq,Nat.reduceEqDiff,not_false_eq_true,Nat.reduceLT]; done) | omega | (simp only [yz] <;> omega) | fail)) only [↓yp,yq0,yq1,yq2,yq3,yq4,yl,ys0,ys1,Nat.reduceAdd,Nat.reduceMul,Nat.reduceSub,Nat.reduceBEq,Nat.reduceEqDiff,Nat.reduceLT,Nat.reduceLeDiff,reduceIte,Int.reduceAdd,Int.reduceSub,Int.reduceMul,Int.reduceLT,Int.reduceLE,Int.reduceEq,Int.reduceToNat,Int.reduceNeg,fitB,newC,endD,endR,yrg,g12,g10,g0,g1,g5,g6,A_indexSlice st_esS_22,hc,q,A_min,mm_min,hmn,lenV_slice st_esS_22,wl,hL,w1,w2,A_buildSlice st_brS_40_1]
      refine gw_append (i := i) (cs := intE.fl cs) (news := [.int .i64 ((n - b) * s.p)]) st_apS_40 (gw.fr (by (repeat (first | exact Fr.refl _ | assumption | refine Fr.allocd ?_ _ | refine Fr.kill ?_ (by first | assumption | omega) | refine Fr.put ?_ (by first | omega | (simp only [yz] <;> omega)) _)))) (by (first | omega | (simp only [yz] <;> omega))) (by rw [fl_length, hcl]; rfl) (by unfold srcCells; simp (disch := (first | (simp only [ne_eq,Nat.reduceEqDiff,not_false_eq_true,Nat.reduceLT]; done) | omega | (simp only [yz] <;> omega) | fail)) only [yg,Nat.reduceAdd,Nat.reduceEqDiff,Nat.reduceLT]; rfl) (by omega) (by omega) rfl (by omega) ?_
      intro a1 c1 H2 hs2 fs2 gw1
      simp only [size_alloc,size_put] at hs2 fs2
      rw [show intE.fl cs ++ [Value.int .i64 ((n - b) * s.p)] = intE.fl (cs ++ [(n - b) * s.p]) by rw [fl_app]; rfl] at gw1
      simp (disch := (first | (simp only [ne_eq,Nat.reduceEqDiff,not_false_eq_true,Nat.reduceLT]; done) | omega | (simp only [yz] <;> omega) | fail)) only [↓yp,yq0,yq1,yq2,yq3,yq4,yl,ys0,ys1,Nat.reduceAdd,Nat.reduceMul,Nat.reduceSub,Nat.reduceBEq,Nat.reduceEqDiff,Nat.reduceLT,Nat.reduceLeDiff,reduceIte,Int.reduceAdd,Int.reduceSub,Int.reduceMul,Int.reduceLT,Int.reduceLE,Int.reduceEq,Int.reduceToNat,Int.reduceNeg,fitB,newC,endD,endR,yrg,g12,hw2]
      refine ⟨t.length - (i + 1), by omega, i + 1, _, _, cs ++ [(n - b) * s.p], n, rfl, by omega, ?_, ?_, ?_, ?_, ?_, ?_, ?_, ?_, gw1, by simp [hcl], hn, hcs2, hin2⟩
      · simp (disch := (first | (simp only [ne_eq,Nat.reduceEqDiff,not_false_eq_true,Nat.reduceLT]; done) | omega | (simp only [yz] <;> omega) | fail)) only [yg,Nat.reduceAdd,Nat.reduceEqDiff,Nat.reduceLT]
      · simp (disch := (first | (simp only [ne_eq,Nat.reduceEqDiff,not_false_eq_true,Nat.reduceLT]; done) | omega | (simp only [yz] <;> omega) | fail)) only [yg,Nat.reduceAdd,Nat.reduceEqDiff,Nat.reduceLT,g11]
      · simp (disch := (first | (simp only [ne_eq,Nat.reduceEqDiff,not_false_eq_true,Nat.reduceLT]; done) | omega | (simp only [yz] <;> omega) | fail)) only [yg,Nat.reduceAdd,Nat.reduceEqDiff,Nat.reduceLT,g10]
      · simp (disch := (first | (simp only [ne_eq,Nat.reduceEqDiff,not_false_eq_true,Nat.reduceLT]; done) | omega | (simp only [yz] <;> omega) | fail)) only [yg,Nat.reduceAdd,Nat.reduceEqDiff,Nat.reduceLT,g0]
      · simp (disch := (first | (simp only [ne_eq,Nat.reduceEqDiff,not_false_eq_true,Nat.reduceLT]; done) | omega | (simp only [yz] <;> omega) | fail)) only [yg,Nat.reduceAdd,Nat.reduceEqDiff,Nat.reduceLT,g1]
      · simp (disch := (first | (simp only [ne_eq,Nat.reduceEqDiff,not_false_eq_true,Nat.reduceLT]; done) | omega | (simp only [yz] <;> omega) | fail)) only [yg,Nat.reduceAdd,Nat.reduceEqDiff,Nat.reduceLT]
      · simp (disch := (first | (simp only [ne_eq,Nat.reduceEqDiff,not_false_eq_true,Nat.reduceLT]; done) | omega | (simp only [yz] <;> omega) | fail)) only [yg,Nat.reduceAdd,Nat.reduceEqDiff,Nat.reduceLT]
      · exact ⟨by omega, fun q hq => by rw [fs2 q (by omega) (gw.low q (by omega)), get_alloc_lt (by (first | omega | (simp only [yz] <;> omega))), get_put_ne (by omega), get_alloc_lt (by omega)]; exact fr.same q hq⟩
  have hie : i = t.length := by have := of_decide_eq_false hT; omega
  subst hie
  rw [List.drop_of_length_le (Nat.le_refl _)] at hcs
  have hcs' : cs = hunL t 0 n := by rw [← hcs]; exact (List.append_nil _).symm
  obtain ⟨bv, al, ev, -⟩ := gw.cons (by omega)
  subst ev
  have rw5 : Rw intE H1 (some ⟨bv, 0, none⟩) cs := by
    have gw' := gw
    rw [show t.length = cs.length from hcl.symm] at gw'
    exact (Gw.rx (k := 0) (E := intE) (l := cs) gw' (fun h => by have := (gw.own 0 h).1; omega)).rw
  have h77 := fun (N : Nat) => c77 (N := N) (cap := OPEN + 1) rw5 (by omega) fun x hx => by have := hin x hx; omega
  rw [hcl] at h77
  have hsum : isum cs = cts t n := by rw [hcs', hunL_sum]; rfl
  rw [hsum] at h77
  obtain ⟨m, rfl⟩ : ∃ m : Nat, n = m := ⟨n.toNat, by omega⟩
  have hb2 := cts_le ht m
  have h103 := fun (N : Nat) (H : AHeap) => c103 (N := N) (H := H) (n := cts t m) (by omega)
  simp (disch := (first | (simp only [ne_eq,Nat.reduceEqDiff,not_false_eq_true,Nat.reduceLT]; done) | omega | (simp only [yz] <;> omega) | fail)) only [↓yp,yq0,yq1,yq2,yq3,yq4,yl,ys0,ys1,Nat.reduceAdd,Nat.reduceMul,Nat.reduceSub,Nat.reduceBEq,Nat.reduceEqDiff,Nat.reduceLT,Nat.reduceLeDiff,reduceIte,Int.reduceAdd,Int.reduceSub,Int.reduceMul,Int.reduceLT,Int.reduceLE,Int.reduceEq,Int.reduceToNat,Int.reduceNeg,fitB,newC,endD,endR,yrg,g5,h77,h103]
end Go.Am
