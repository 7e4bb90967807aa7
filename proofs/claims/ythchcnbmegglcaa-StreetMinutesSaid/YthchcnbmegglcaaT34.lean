/- The reference's Minutes. -/
import Derived.Test.YthchcnbmegglcaaT33
set_option linter.unusedSimpArgs false
set_option linter.unusedVariables false
namespace Go.Am
open Go.Proofs
variable {T : Tab} {P : Program} {N L : Nat} {H : AHeap} {Q : Bool → Value → AHeap → Prop}

theorem tv_more (i : Nat) : tv (List.replicate i (-1)) ++ [.int .i64 (-1)] = tv (List.replicate (i + 1) (-1)) := by
  unfold tv
  rw [List.replicate_succ', List.map_append]; rfl
section
variable {l : List Str} {C w ld fr a₀ : Int} {a : Option Addr} {cap : Nat}
set_option maxHeartbeats 1000000 in
theorem c31 (hs : Sl H a l) (hl : l.length ≤ 18) (g : Good C l ld) (hfr : 0 ≤ fr ∧ fr < C) (ha : 0 ≤ a₀ ∧ a₀ ≤ 240) (hL : L ≤ H.size) {M : Nat} (hM : 4000 ≤ M)
    (hq : ∀ k cap' H', Fr H H' → H.size ≤ k → k < H'.size → (∃ al, H'.get k = .rw (tv ((earT C l w ld fr a₀).take C.toNat)) 3 true al) → Q false (.slice (some ⟨k, 0, none⟩) C.toNat cap') H') :
    resK (acall tabA (aexec tabA Try.prog M) 31 [.agg ⟨[.int .i64 C, .slice a l.length cap]⟩, .agg ⟨[.int .i64 w, .int .i64 ld]⟩, .int .i64 fr, .int .i64 a₀, .int .i64 (-1)] H) L Q := by
  obtain ⟨N, rfl⟩ : ∃ N, M = N + 4000 := ⟨M - 4000, by omega⟩
  refine call_fls (R := fun v H' => ∃ k cap', v = .slice (some ⟨k, 0, none⟩) C.toNat cap' ∧ Fr H H' ∧ H.size ≤ k ∧ k < H'.size ∧ ∃ al, H'.get k = .rw (tv ((earT C l w ld fr a₀).take C.toNat)) 3 true al) (k := 30) (rs := [.tmp 10]) rfl fn_31 rfl rfl rfl hL ?_ ?_ ?_
  rotate_left
  · rintro v H' ⟨k, cap', rfl, -⟩; rfl
  · rintro v H' ⟨k, cap', rfl, h1, h2, h3, h4⟩
    exact hq _ _ _ h1 h2 h3 h4
  have hC := g.hC
  simp (disch := (first | (simp only [ne_eq,Nat.reduceEqDiff,not_false_eq_true,Nat.reduceLT]; done) | omega | (simp only [yz] <;> omega) | fail)) only [↓yp,yq0,yq1,yq2,yq3,yq4,yl,ys0,ys1,Nat.reduceAdd,Nat.reduceMul,Nat.reduceSub,Nat.reduceBEq,Nat.reduceEqDiff,Nat.reduceLT,Nat.reduceLeDiff,reduceIte,Int.reduceAdd,Int.reduceSub,Int.reduceMul,Int.reduceLT,Int.reduceLE,Int.reduceEq,Int.reduceToNat,Int.reduceNeg,zed,zee,zfr,zhw,ysu,yrg]
  refine W_while (n := 30) 60 (fun k e H' => ∃ (i : Nat) (ga : Option Addr) (gc : Nat), k = C.toNat - i ∧ i ≤ C.toNat ∧ gt 30 e 12 = .int .i64 (i : Nat) ∧ gt 30 e 11 = .slice ga i gc ∧ gt 30 e 5 = .pointer (some ⟨H.size, 0, none⟩) ∧ gt 30 e 6 = .pointer (some ⟨H.size + 1, 0, none⟩) ∧ gt 30 e 2 = .int .i64 fr ∧ gt 30 e 3 = .int .i64 a₀ ∧ gt 30 e 4 = .int .i64 (-1) ∧
      Fr ((H.alloc (.rw [.int .i64 C, .slice a l.length cap] 34 false [])).alloc (.rw [.int .i64 w, .int .i64 ld] 50 false [])) H' ∧ Grow H' (H.size + 1) (.slice ga i gc) i (tv (List.replicate i (-1))) 3 1)
    ?_ 8 C.toNat ⟨0, none, 0, by omega, by omega, by simp (disch := (first | (simp only [ne_eq,Nat.reduceEqDiff,not_false_eq_true,Nat.reduceLT]; done) | omega | (simp only [yz] <;> omega) | fail)) only [yg,Nat.reduceAdd,Nat.reduceEqDiff,Nat.reduceLT]; rfl, by simp (disch := (first | (simp only [ne_eq,Nat.reduceEqDiff,not_false_eq_true,Nat.reduceLT]; done) | omega | (simp only [yz] <;> omega) | fail)) only [yg,Nat.reduceAdd,Nat.reduceEqDiff,Nat.reduceLT], by simp (disch := (first | (simp only [ne_eq,Nat.reduceEqDiff,not_false_eq_true,Nat.reduceLT]; done) | omega | (simp only [yz] <;> omega) | fail)) only [yg,Nat.reduceAdd,Nat.reduceEqDiff,Nat.reduceLT], by simp (disch := (first | (simp only [ne_eq,Nat.reduceEqDiff,not_false_eq_true,Nat.reduceLT]; done) | omega | (simp only [yz] <;> omega) | fail)) only [yg,Nat.reduceAdd,Nat.reduceEqDiff,Nat.reduceLT], by simp (disch := (first | (simp only [ne_eq,Nat.reduceEqDiff,not_false_eq_true,Nat.reduceLT]; done) | omega | (simp only [yz] <;> omega) | fail)) only [yg,Nat.reduceAdd,Nat.reduceEqDiff,Nat.reduceLT], by simp (disch := (first | (simp only [ne_eq,Nat.reduceEqDiff,not_false_eq_true,Nat.reduceLT]; done) | omega | (simp only [yz] <;> omega) | fail)) only [yg,Nat.reduceAdd,Nat.reduceEqDiff,Nat.reduceLT], by simp (disch := (first | (simp only [ne_eq,Nat.reduceEqDiff,not_false_eq_true,Nat.reduceLT]; done) | omega | (simp only [yz] <;> omega) | fail)) only [yg,Nat.reduceAdd,Nat.reduceEqDiff,Nat.reduceLT], Fr.refl _, ⟨fun _ => rfl, fun h => absurd rfl h⟩⟩ (by omega) (by omega)
  rintro M1 k1 e H' ⟨i, ga, gc, rfl, hi, g12, g11, g5, g6, g2, g3, g4, fr', gw⟩
  have f0 := fr'.size
  simp only [zde] at f0
  have fs := fr'.same
  simp (disch := (first | (simp only [ne_eq,Nat.reduceEqDiff,not_false_eq_true,Nat.reduceLT]; done) | omega | (simp only [yz] <;> omega) | fail)) only [↓yp,yq0,yq1,yq2,yq3,yq4,yl,ys0,ys1,Nat.reduceAdd,Nat.reduceMul,Nat.reduceSub,Nat.reduceBEq,Nat.reduceEqDiff,Nat.reduceLT,Nat.reduceLeDiff,reduceIte,Int.reduceAdd,Int.reduceSub,Int.reduceMul,Int.reduceLT,Int.reduceLE,Int.reduceEq,Int.reduceToNat,Int.reduceNeg,zed,zee,zfr,zhw,ysu,yrg,g12,g5,fs]
  refine ⟨fun hA => ?_, fun hA => ?_⟩
  · have hi' : (i : Int) < C := by simpa using hA
    have hw2 : w64 ((i : Int) + 1) = ((i + 1 : Nat) : Int) := by rw [w64_of (by omega)]; omega
    simp (disch := (first | (simp only [ne_eq,Nat.reduceEqDiff,not_false_eq_true,Nat.reduceLT]; done) | omega | (simp only [yz] <;> omega) | fail)) only [↓yp,yq0,yq1,yq2,yq3,yq4,yl,ys0,ys1,Nat.reduceAdd,Nat.reduceMul,Nat.reduceSub,Nat.reduceBEq,Nat.reduceEqDiff,Nat.reduceLT,Nat.reduceLeDiff,reduceIte,Int.reduceAdd,Int.reduceSub,Int.reduceMul,Int.reduceLT,Int.reduceLE,Int.reduceEq,Int.reduceToNat,Int.reduceNeg,zed,zee,zfr,zhw,ysu,yrg,g11,A_buildSlice st_brS_52_1]
    refine grow_append (i := i) (cs := tv (List.replicate i (-1))) (news := [.int .i64 (-1)]) st_apS_52 (gw.fr (by (repeat (first | exact Fr.refl _ | assumption | refine Fr.allocd ?_ _ | refine Fr.kill ?_ (by first | assumption | omega) | refine Fr.put ?_ (by first | omega | (simp only [yz] <;> omega)) _)))) (by (first | omega | (simp only [yz] <;> omega))) (by rw [tv_len, List.length_replicate, Nat.mul_one]) (by unfold srcCells; simp (disch := (first | (simp only [ne_eq,Nat.reduceEqDiff,not_false_eq_true,Nat.reduceLT]; done) | omega | (simp only [yz] <;> omega) | fail)) only [yg,Nat.reduceAdd,Nat.reduceEqDiff,Nat.reduceLT]; rfl) (by omega) (by omega) rfl (by omega) ?_
    intro a' c' H₂ fu gw'
    have u0 := fu.size
    have us := fu.same
    simp only [zde,zdf] at u0
    simp (disch := (first | (simp only [ne_eq,Nat.reduceEqDiff,not_false_eq_true,Nat.reduceLT]; done) | omega | (simp only [yz] <;> omega) | fail)) only [↓yp,yq0,yq1,yq2,yq3,yq4,yl,ys0,ys1,Nat.reduceAdd,Nat.reduceMul,Nat.reduceSub,Nat.reduceBEq,Nat.reduceEqDiff,Nat.reduceLT,Nat.reduceLeDiff,reduceIte,Int.reduceAdd,Int.reduceSub,Int.reduceMul,Int.reduceLT,Int.reduceLE,Int.reduceEq,Int.reduceToNat,Int.reduceNeg,zed,zee,zfr,zhw,ysu,yrg,g12,hw2]
    refine ⟨C.toNat - (i + 1), by omega, i + 1, a', c', rfl, by omega, ?_, ?_, ?_, ?_, ?_, ?_, ?_, ?_, ?_⟩
    · simp (disch := (first | (simp only [ne_eq,Nat.reduceEqDiff,not_false_eq_true,Nat.reduceLT]; done) | omega | (simp only [yz] <;> omega) | fail)) only [yg,Nat.reduceAdd,Nat.reduceEqDiff,Nat.reduceLT]
    · simp (disch := (first | (simp only [ne_eq,Nat.reduceEqDiff,not_false_eq_true,Nat.reduceLT]; done) | omega | (simp only [yz] <;> omega) | fail)) only [yg,Nat.reduceAdd,Nat.reduceEqDiff,Nat.reduceLT]
    · simp (disch := (first | (simp only [ne_eq,Nat.reduceEqDiff,not_false_eq_true,Nat.reduceLT]; done) | omega | (simp only [yz] <;> omega) | fail)) only [yg,Nat.reduceAdd,Nat.reduceEqDiff,Nat.reduceLT,g5]
    · simp (disch := (first | (simp only [ne_eq,Nat.reduceEqDiff,not_false_eq_true,Nat.reduceLT]; done) | omega | (simp only [yz] <;> omega) | fail)) only [yg,Nat.reduceAdd,Nat.reduceEqDiff,Nat.reduceLT,g6]
    · simp (disch := (first | (simp only [ne_eq,Nat.reduceEqDiff,not_false_eq_true,Nat.reduceLT]; done) | omega | (simp only [yz] <;> omega) | fail)) only [yg,Nat.reduceAdd,Nat.reduceEqDiff,Nat.reduceLT,g2]
    · simp (disch := (first | (simp only [ne_eq,Nat.reduceEqDiff,not_false_eq_true,Nat.reduceLT]; done) | omega | (simp only [yz] <;> omega) | fail)) only [yg,Nat.reduceAdd,Nat.reduceEqDiff,Nat.reduceLT,g3]
    · simp (disch := (first | (simp only [ne_eq,Nat.reduceEqDiff,not_false_eq_true,Nat.reduceLT]; done) | omega | (simp only [yz] <;> omega) | fail)) only [yg,Nat.reduceAdd,Nat.reduceEqDiff,Nat.reduceLT,g4]
    · refine Fr.part (H₁ := _) ?_ fu (by (first | omega | (simp only [yz] <;> omega)))
      (repeat (first | exact Fr.refl _ | assumption | refine Fr.allocd ?_ _ | refine Fr.kill ?_ (by first | assumption | omega) | refine Fr.put ?_ (by first | omega | (simp only [yz] <;> omega)) _))
    · rw [← tv_more]; exact gw'
  · have : i = C.toNat := by simp at hA; omega
    subst this
    obtain ⟨ob, al, hv, k1, k2, k3, k4⟩ := gw.cons (by omega)
    obtain ⟨rfl, hgc⟩ : ga = some ⟨ob, 0, none⟩ ∧ gc = OPEN + 1 := by
      cases hv; exact ⟨rfl, rfl⟩
    have frH : Fr H H' := Fr.trans (by (repeat (first | exact Fr.refl _ | assumption | refine Fr.allocd ?_ _ | refine Fr.kill ?_ (by first | assumption | omega) | refine Fr.put ?_ (by first | omega | (simp only [yz] <;> omega)) _))) fr'
    simp (disch := (first | (simp only [ne_eq,Nat.reduceEqDiff,not_false_eq_true,Nat.reduceLT]; done) | omega | (simp only [yz] <;> omega) | fail)) only [↓yp,yq0,yq1,yq2,yq3,yq4,yl,ys0,ys1,Nat.reduceAdd,Nat.reduceMul,Nat.reduceSub,Nat.reduceBEq,Nat.reduceEqDiff,Nat.reduceLT,Nat.reduceLeDiff,reduceIte,Int.reduceAdd,Int.reduceSub,Int.reduceMul,Int.reduceLT,Int.reduceLE,Int.reduceEq,Int.reduceToNat,Int.reduceNeg,zed,zee,zfr,zhw,ysu,yrg,g11,g5,g6,g2,g3,g4,fs]
    refine c87 (H₀ := H) frH hs hl g hfr ha k3 (by omega) (fun j hj => by have := k4 j hj; omega) (by omega) (by omega) ?_
    intro q v H'' fr2 sz2 old hx
    obtain ⟨al', -, hx⟩ := hx
    simp (disch := (first | (simp only [ne_eq,Nat.reduceEqDiff,not_false_eq_true,Nat.reduceLT]; done) | omega | (simp only [yz] <;> omega) | fail)) only [↓yp,yq0,yq1,yq2,yq3,yq4,yl,ys0,ys1,Nat.reduceAdd,Nat.reduceMul,Nat.reduceSub,Nat.reduceBEq,Nat.reduceEqDiff,Nat.reduceLT,Nat.reduceLeDiff,reduceIte,Int.reduceAdd,Int.reduceSub,Int.reduceMul,Int.reduceLT,Int.reduceLE,Int.reduceEq,Int.reduceToNat,Int.reduceNeg,zed,zee,zfr,zhw,ysu,yrg,g11]
    exact ⟨ob, gc, rfl, fr2, by omega, by omega, al', hx⟩
end
end Go.Am
