/- Heaviest and Later of the reference. -/
import Derived.Test.YtbbifibhpbjknaaT40
import Derived.Test.YtbbifibhpbjknaaT33
set_option linter.unusedSimpArgs false
set_option linter.unusedVariables false
namespace Go.Am
open Go.Proofs
variable {T : Tab} {P : Program} {N L : Nat} {H : AHeap} {Q : Bool → Value → AHeap → Prop}
section
variable {a : Option Addr} {cap : Nat} {l : List Str} {C w ld : Int}
/-- The last load that suits, less than 0 if there is none. -/
def heavR (p : Nat → Bool) (k : Nat) : Int := match down p k with
  | some n => n
  | none => -1
theorem heavR_succ {p : Nat → Bool} {k : Nat} : heavR p (k + 1) = if p k then (k : Int) else heavR p k := by
  unfold heavR
  have h : down p (k + 1) = if p k then some k else down p k := rfl
  rw [h]
  cases p k <;> rfl
set_option maxHeartbeats 2000000 in
theorem c45 {fr to m bm : Int} (hs : Sl H a l) (hl : l.length ≤ 18) (h0 : asked C l w 0 [fr, to] [] [m, bm] = 0) :
    acall tabA (aexec tabA Try.prog (N + 5000)) 45 [.agg ⟨[.int .i64 C, .slice a l.length cap]⟩, .int .i64 w, .int .i64 fr, .int .i64 to, .int .i64 m, .int .i64 bm] H = some (true, .int .i64 (heavR (fits C l w fr to m bm) 10), H, H.size) := by
  refine call_quiet (k := 39) (rs := [.tmp 12]) rfl fn_45 rfl rfl rfl ?_ rfl
  obtain ⟨hc, hw, hd, hcs, -, hms⟩ := asked_ok h0
  have hC := off_iff.1 (chk_ok hc).1
  have hfr := hcs fr (by simp)
  have hto := hcs to (by simp)
  have hm := hms m (by simp)
  simp (disch := (first | (simp only [ne_eq,Nat.reduceEqDiff,not_false_eq_true,Nat.reduceLT]; done) | omega | (simp only [yz] <;> omega) | fail)) only [↓yp,yq0,yq1,yq2,yq3,yq4,yl,ys0,ys1,Nat.reduceAdd,Nat.reduceMul,Nat.reduceSub,Nat.reduceBEq,Nat.reduceEqDiff,Nat.reduceLT,Nat.reduceLeDiff,reduceIte,Int.reduceAdd,Int.reduceSub,Int.reduceMul,Int.reduceLT,Int.reduceLE,Int.reduceEq,Int.reduceToNat,Int.reduceNeg,zed,zee,zfr,zhw,ysu,yrg,ysv,ysw,ysx]
  refine W_while (n := 39) 4500 (fun k e H' => ∃ j : Nat, k = 10 - j ∧ j ≤ 10 ∧ gt 39 e 14 = .int .i64 (j : Nat) ∧ gt 39 e 13 = .int .i64 (heavR (fits C l w fr to m bm) j) ∧ gt 39 e 6 = .pointer (some ⟨H.size, 0, none⟩) ∧ gt 39 e 1 = .int .i64 w ∧ gt 39 e 2 = .int .i64 fr ∧ gt 39 e 3 = .int .i64 to ∧ gt 39 e 4 = .int .i64 m ∧ gt 39 e 5 = .int .i64 bm ∧ Fr (H.alloc (.rw [.int .i64 C, .slice a l.length cap] 34 false [])) H')
    ?_ 10 10 ⟨0, by omega, by omega, by simp (disch := (first | (simp only [ne_eq,Nat.reduceEqDiff,not_false_eq_true,Nat.reduceLT]; done) | omega | (simp only [yz] <;> omega) | fail)) only [yg,Nat.reduceAdd,Nat.reduceEqDiff,Nat.reduceLT]; rfl, by simp (disch := (first | (simp only [ne_eq,Nat.reduceEqDiff,not_false_eq_true,Nat.reduceLT]; done) | omega | (simp only [yz] <;> omega) | fail)) only [yg,Nat.reduceAdd,Nat.reduceEqDiff,Nat.reduceLT]; rfl, by simp (disch := (first | (simp only [ne_eq,Nat.reduceEqDiff,not_false_eq_true,Nat.reduceLT]; done) | omega | (simp only [yz] <;> omega) | fail)) only [yg,Nat.reduceAdd,Nat.reduceEqDiff,Nat.reduceLT], by simp (disch := (first | (simp only [ne_eq,Nat.reduceEqDiff,not_false_eq_true,Nat.reduceLT]; done) | omega | (simp only [yz] <;> omega) | fail)) only [yg,Nat.reduceAdd,Nat.reduceEqDiff,Nat.reduceLT], by simp (disch := (first | (simp only [ne_eq,Nat.reduceEqDiff,not_false_eq_true,Nat.reduceLT]; done) | omega | (simp only [yz] <;> omega) | fail)) only [yg,Nat.reduceAdd,Nat.reduceEqDiff,Nat.reduceLT], by simp (disch := (first | (simp only [ne_eq,Nat.reduceEqDiff,not_false_eq_true,Nat.reduceLT]; done) | omega | (simp only [yz] <;> omega) | fail)) only [yg,Nat.reduceAdd,Nat.reduceEqDiff,Nat.reduceLT], by simp (disch := (first | (simp only [ne_eq,Nat.reduceEqDiff,not_false_eq_true,Nat.reduceLT]; done) | omega | (simp only [yz] <;> omega) | fail)) only [yg,Nat.reduceAdd,Nat.reduceEqDiff,Nat.reduceLT], by simp (disch := (first | (simp only [ne_eq,Nat.reduceEqDiff,not_false_eq_true,Nat.reduceLT]; done) | omega | (simp only [yz] <;> omega) | fail)) only [yg,Nat.reduceAdd,Nat.reduceEqDiff,Nat.reduceLT], by (repeat (first | exact Fr.refl _ | assumption | refine Fr.allocd ?_ _ | refine Fr.kill ?_ (by first | assumption | omega) | refine Fr.put ?_ (by first | omega | (simp only [yz] <;> omega)) _))⟩ (by omega) (by omega)
  rintro M1 k1 e H' ⟨j, rfl, hj, g14, g13, g6, g1, g2, g3, g4, g5, fr'⟩
  have f0 := fr'.size
  have fs := fr'.same
  simp only [zde] at f0
  simp (disch := (first | (simp only [ne_eq,Nat.reduceEqDiff,not_false_eq_true,Nat.reduceLT]; done) | omega | (simp only [yz] <;> omega) | fail)) only [↓yp,yq0,yq1,yq2,yq3,yq4,yl,ys0,ys1,Nat.reduceAdd,Nat.reduceMul,Nat.reduceSub,Nat.reduceBEq,Nat.reduceEqDiff,Nat.reduceLT,Nat.reduceLeDiff,reduceIte,Int.reduceAdd,Int.reduceSub,Int.reduceMul,Int.reduceLT,Int.reduceLE,Int.reduceEq,Int.reduceToNat,Int.reduceNeg,zed,zee,zfr,zhw,ysu,yrg,ysv,ysw,ysx,g14]
  refine ⟨fun hA => ?_, fun hA => ?_⟩
  rotate_left
  · have hj0 : j = 10 := by have := of_decide_eq_false hA; omega
    subst hj0
    simp (disch := (first | (simp only [ne_eq,Nat.reduceEqDiff,not_false_eq_true,Nat.reduceLT]; done) | omega | (simp only [yz] <;> omega) | fail)) only [↓yp,yq0,yq1,yq2,yq3,yq4,yl,ys0,ys1,Nat.reduceAdd,Nat.reduceMul,Nat.reduceSub,Nat.reduceBEq,Nat.reduceEqDiff,Nat.reduceLT,Nat.reduceLeDiff,reduceIte,Int.reduceAdd,Int.reduceSub,Int.reduceMul,Int.reduceLT,Int.reduceLE,Int.reduceEq,Int.reduceToNat,Int.reduceNeg,zed,zee,zfr,zhw,ysu,yrg,ysv,ysw,ysx,g13]
  have hj9 : j ≤ 9 := by have := of_decide_eq_true hA; omega
  have g : Good C l (j : Int) := good_of hc (off_iff.2 (by omega))
  have e8 := earT_ok (w := w) g (fr := fr) (a₀ := m) (by omega) hm
  have hat := take_at e8.1 hC (x := to) (by omega)
  have hok := e8.2 to
  unfold okM at hok
  have hw2 : w64 ((j : Int) + 1) = ((j + 1 : Nat) : Int) := by rw [w64_of (by omega)]; omega
  have sH : Sl H' a l := (hs.fr (Fr.alloc _ _)).fr fr'
  simp (disch := (first | (simp only [ne_eq,Nat.reduceEqDiff,not_false_eq_true,Nat.reduceLT]; done) | omega | (simp only [yz] <;> omega) | fail)) only [↓yp,yq0,yq1,yq2,yq3,yq4,yl,ys0,ys1,Nat.reduceAdd,Nat.reduceMul,Nat.reduceSub,Nat.reduceBEq,Nat.reduceEqDiff,Nat.reduceLT,Nat.reduceLeDiff,reduceIte,Int.reduceAdd,Int.reduceSub,Int.reduceMul,Int.reduceLT,Int.reduceLE,Int.reduceEq,Int.reduceToNat,Int.reduceNeg,zed,zee,zfr,zhw,ysu,yrg,ysv,ysw,ysx,g14,g6,g1,g2,g4,fs,A_build st_bdS_50]
  refine c31 sH hl g (by omega) hm (by omega) (by omega) ?_
  intro k cap' H3 fr3 hk1 hk2 hx
  obtain ⟨al, hx⟩ := hx
  have f3 := fr3.size
  have hfit : fits C l w fr to m bm j = (!decide (tg (earT C l w j fr m) to = -1) && decide (tg (earT C l w j fr m) to ≤ bm)) := rfl
  have hsu := heavR_succ (p := fits C l w fr to m bm) (k := j)
  obtain ⟨v, hv⟩ : ∃ v, tg (earT C l w j fr m) to = v := ⟨_, rfl⟩
  rw [hv] at hok hfit hat
  have fin : ∀ e', gt 39 e' 14 = .int .i64 ((j + 1 : Nat) : Int) → gt 39 e' 13 = .int .i64 (heavR (fits C l w fr to m bm) (j + 1)) → Keep 39 [1, 2, 3, 4, 5, 6] e e' → ∃ k', k' < 10 - j ∧ ∃ j : Nat, k' = 10 - j ∧ j ≤ 10 ∧ gt 39 e' 14 = .int .i64 (j : Nat) ∧ gt 39 e' 13 = .int .i64 (heavR (fits C l w fr to m bm) j) ∧ gt 39 e' 6 = .pointer (some ⟨H.size, 0, none⟩) ∧ gt 39 e' 1 = .int .i64 w ∧ gt 39 e' 2 = .int .i64 fr ∧ gt 39 e' 3 = .int .i64 to ∧ gt 39 e' 4 = .int .i64 m ∧ gt 39 e' 5 = .int .i64 bm ∧ Fr (H.alloc (.rw [.int .i64 C, .slice a l.length cap] 34 false [])) H3 := fun e' h1 h2 hk => ⟨10 - (j + 1), by omega, j + 1, rfl, by omega, h1, h2, (hk 6 (by simp)).trans g6, (hk 1 (by simp)).trans g1, (hk 2 (by simp)).trans g2, (hk 3 (by simp)).trans g3, (hk 4 (by simp)).trans g4, (hk 5 (by simp)).trans g5, fr'.trans fr3⟩
  cases hE1 : decide (0 ≤ v)
  · have h1 := of_decide_eq_false hE1
    have d1 : decide (v = -1) = true := by simp; omega
    rw [d1] at hfit
    simp only [Bool.not_true,Bool.false_and] at hfit
    rw [hfit] at hsu
    simp (disch := (first | (simp only [ne_eq,Nat.reduceEqDiff,not_false_eq_true,Nat.reduceLT]; done) | omega | (simp only [yz] <;> omega) | fail)) only [↓yp,yq0,yq1,yq2,yq3,yq4,yl,ys0,ys1,Nat.reduceAdd,Nat.reduceMul,Nat.reduceSub,Nat.reduceBEq,Nat.reduceEqDiff,Nat.reduceLT,Nat.reduceLeDiff,reduceIte,Int.reduceAdd,Int.reduceSub,Int.reduceMul,Int.reduceLT,Int.reduceLE,Int.reduceEq,Int.reduceToNat,Int.reduceNeg,zed,zee,zfr,zhw,ysu,yrg,ysv,ysw,ysx,g14,g3,g5,A_indexSlice zir,hx,hat,hE1,hw2]
    refine fin _ ?_ ?_ (by (with_reducible (repeat (first | refine Keep.put ?_ (by decide) | refine Keep.none ?_ | assumption | exact Keep.refl _ _ _))))
    · simp (disch := (first | (simp only [ne_eq,Nat.reduceEqDiff,not_false_eq_true,Nat.reduceLT]; done) | omega | (simp only [yz] <;> omega) | fail)) only [yg,Nat.reduceAdd,Nat.reduceEqDiff,Nat.reduceLT]
    · simp (disch := (first | (simp only [ne_eq,Nat.reduceEqDiff,not_false_eq_true,Nat.reduceLT]; done) | omega | (simp only [yz] <;> omega) | fail)) only [yg,Nat.reduceAdd,Nat.reduceEqDiff,Nat.reduceLT,g13,hsu]
      simp
  · have h1 := of_decide_eq_true hE1
    have d1 : decide (v = -1) = false := by simp; omega
    rw [d1] at hfit
    simp only [Bool.not_false,Bool.true_and] at hfit
    rw [hfit] at hsu
    cases hE2 : decide (v ≤ bm)
    · rw [hE2] at hsu
      simp (disch := (first | (simp only [ne_eq,Nat.reduceEqDiff,not_false_eq_true,Nat.reduceLT]; done) | omega | (simp only [yz] <;> omega) | fail)) only [↓yp,yq0,yq1,yq2,yq3,yq4,yl,ys0,ys1,Nat.reduceAdd,Nat.reduceMul,Nat.reduceSub,Nat.reduceBEq,Nat.reduceEqDiff,Nat.reduceLT,Nat.reduceLeDiff,reduceIte,Int.reduceAdd,Int.reduceSub,Int.reduceMul,Int.reduceLT,Int.reduceLE,Int.reduceEq,Int.reduceToNat,Int.reduceNeg,zed,zee,zfr,zhw,ysu,yrg,ysv,ysw,ysx,g14,g3,g5,A_indexSlice zir,hx,hat,hE1,hE2,hw2]
      refine fin _ ?_ ?_ (by (with_reducible (repeat (first | refine Keep.put ?_ (by decide) | refine Keep.none ?_ | assumption | exact Keep.refl _ _ _))))
      · simp (disch := (first | (simp only [ne_eq,Nat.reduceEqDiff,not_false_eq_true,Nat.reduceLT]; done) | omega | (simp only [yz] <;> omega) | fail)) only [yg,Nat.reduceAdd,Nat.reduceEqDiff,Nat.reduceLT]
      · simp (disch := (first | (simp only [ne_eq,Nat.reduceEqDiff,not_false_eq_true,Nat.reduceLT]; done) | omega | (simp only [yz] <;> omega) | fail)) only [yg,Nat.reduceAdd,Nat.reduceEqDiff,Nat.reduceLT,g13,hsu]
        simp
    · rw [hE2] at hsu
      simp (disch := (first | (simp only [ne_eq,Nat.reduceEqDiff,not_false_eq_true,Nat.reduceLT]; done) | omega | (simp only [yz] <;> omega) | fail)) only [↓yp,yq0,yq1,yq2,yq3,yq4,yl,ys0,ys1,Nat.reduceAdd,Nat.reduceMul,Nat.reduceSub,Nat.reduceBEq,Nat.reduceEqDiff,Nat.reduceLT,Nat.reduceLeDiff,reduceIte,Int.reduceAdd,Int.reduceSub,Int.reduceMul,Int.reduceLT,Int.reduceLE,Int.reduceEq,Int.reduceToNat,Int.reduceNeg,zed,zee,zfr,zhw,ysu,yrg,ysv,ysw,ysx,g14,g3,g5,A_indexSlice zir,hx,hat,hE1,hE2,hw2]
      refine fin _ ?_ ?_ (by (with_reducible (repeat (first | refine Keep.put ?_ (by decide) | refine Keep.none ?_ | assumption | exact Keep.refl _ _ _))))
      · simp (disch := (first | (simp only [ne_eq,Nat.reduceEqDiff,not_false_eq_true,Nat.reduceLT]; done) | omega | (simp only [yz] <;> omega) | fail)) only [yg,Nat.reduceAdd,Nat.reduceEqDiff,Nat.reduceLT]
      · simp (disch := (first | (simp only [ne_eq,Nat.reduceEqDiff,not_false_eq_true,Nat.reduceLT]; done) | omega | (simp only [yz] <;> omega) | fail)) only [yg,Nat.reduceAdd,Nat.reduceEqDiff,Nat.reduceLT,hsu]
        simp
end
end Go.Am
/- Later of the reference. -/
namespace Go.Am
open Go.Proofs
variable {T : Tab} {P : Program} {N L : Nat} {H : AHeap} {Q : Bool → Value → AHeap → Prop}
section
variable {a : Option Addr} {cap : Nat} {l : List Str} {C w ld : Int}
theorem take_one {j : Nat} {s : Str} (h : l[j]? = some s) : l.take (j + 1) = l.take j ++ [s] := by
  rw [List.take_add_one, h]; rfl
theorem take_erase_ne {i j : Nat} {s : Str} (h : l[j]? = some s) (hne : j ≠ i) : (l.take (j + 1)).eraseIdx i = (l.take j).eraseIdx i ++ [s] := by
  have hlt := (List.getElem?_eq_some_iff.1 h).1
  have hlen : (l.take j).length = j := by rw [List.length_take]; omega
  rw [take_one h]
  by_cases hi : i < j
  · rw [List.eraseIdx_append_of_lt_length (by omega)]
  · rw [List.eraseIdx_of_length_le (by rw [List.length_append, hlen]; simp; omega), List.eraseIdx_of_length_le (by omega)]
theorem take_erase_eq {j : Nat} {s : Str} (h : l[j]? = some s) : (l.take (j + 1)).eraseIdx j = (l.take j).eraseIdx j := by
  have hlt := (List.getElem?_eq_some_iff.1 h).1
  have hlen : (l.take j).length = j := by rw [List.length_take]; omega
  have e : (l.take j).eraseIdx j = l.take j := List.eraseIdx_of_length_le (by omega)
  rw [take_one h, List.eraseIdx_append_of_length_le (by omega), hlen, Nat.sub_self, e]
  simp
set_option maxHeartbeats 4000000 in
theorem c47 {fr to m : Int} {i : Nat} (hs : Sl H a l) (hl : l.length ≤ 18) (h0 : asked C l w ld [fr, to] [(i : Int)] [m] = 0) :
    acall tabA (aexec tabA Try.prog (N + 5000)) 47 [.agg ⟨[.int .i64 C, .slice a l.length cap]⟩, .agg ⟨[.int .i64 w, .int .i64 ld]⟩, .int .i64 fr, .int .i64 to, .int .i64 m, .int .i64 (i : Nat)] H = some (true, .tuple ⟨[.int .i64 (lateA C l w ld fr to m i).1, .int .i64 (lateA C l w ld fr to m i).2]⟩, H, H.size) := by
  refine call_quiet (k := 64) (rs := [.tmp 12, .tmp 13]) rfl fn_47 rfl rfl rfl ?_ rfl
  obtain ⟨hc, hw, hd, hcs, hss, hms⟩ := asked_ok h0
  have g := good_of hc hd
  have hC := g.hC
  have hfr := hcs fr (by simp)
  have hto := hcs to (by simp)
  have hm := hms m (by simp)
  have hst := hss i (by simp)
  have hi : i < l.length := by omega
  have hne : l ≠ [] := fun h => by rw [h] at hi; simp at hi
  obtain ⟨b, o, c, rfl, hb, hcc, hp⟩ := hs.get hne
  have hc' := chk_erase (i := i) hc
  have g' := good_of hc' hd
  have e8 := earT_ok (w := w) g (fr := fr) (a₀ := m) (by omega) hm
  have hat := take_at e8.1 hC (x := to) (by omega)
  have e8' := earT_ok (w := w) g' (fr := fr) (a₀ := m) (by omega) hm
  have hat' := take_at e8'.1 hC (x := to) (by omega)
  have hok := e8.2 to
  have hok' := e8'.2 to
  unfold okM at hok hok'
  have hla : lateA C l w ld fr to m i = if tg (earT C l w ld fr m) to = -1 then (0, 1) else if tg (earT C (l.eraseIdx i) w ld fr m) to = -1 then (0, 9) else (tg (earT C (l.eraseIdx i) w ld fr m) to - tg (earT C l w ld fr m) to, 0) := by
    unfold lateA
    rw [Int.toNat_natCast]
  rw [hla]
  clear hla
  obtain ⟨v, hv⟩ : ∃ v, tg (earT C l w ld fr m) to = v := ⟨_, rfl⟩
  obtain ⟨v', hv'⟩ : ∃ v, tg (earT C (l.eraseIdx i) w ld fr m) to = v := ⟨_, rfl⟩
  rw [hv] at hok hat ⊢
  rw [hv'] at hok' hat' ⊢
  simp (disch := (first | (simp only [ne_eq,Nat.reduceEqDiff,not_false_eq_true,Nat.reduceLT]; done) | omega | (simp only [yz] <;> omega) | fail)) only [↓yp,yq0,yq1,yq2,yq3,yq4,yl,ys0,ys1,Nat.reduceAdd,Nat.reduceMul,Nat.reduceSub,Nat.reduceBEq,Nat.reduceEqDiff,Nat.reduceLT,Nat.reduceLeDiff,reduceIte,Int.reduceAdd,Int.reduceSub,Int.reduceMul,Int.reduceLT,Int.reduceLE,Int.reduceEq,Int.reduceToNat,Int.reduceNeg,zed,zee,zfr,zhw,ysu,yrg,ysv,ysw,ysx]
  refine c31 (hs.fr (by (repeat (first | exact Fr.refl _ | assumption | refine Fr.allocd ?_ _ | refine Fr.kill ?_ (by first | assumption | omega) | refine Fr.put ?_ (by first | omega | (simp only [yz] <;> omega)) _)))) hl g (by omega) hm (by (first | omega | (simp only [yz] <;> omega))) (by omega) ?_
  intro k cap' H1 fr1 hk1 hk2 hx
  obtain ⟨al, hx⟩ := hx
  have f1 := fr1.size
  have s1 := fr1.same
  simp only [zde] at f1
  simp (disch := (first | (simp only [ne_eq,Nat.reduceEqDiff,not_false_eq_true,Nat.reduceLT]; done) | omega | (simp only [yz] <;> omega) | fail)) only [↓yp,yq0,yq1,yq2,yq3,yq4,yl,ys0,ys1,Nat.reduceAdd,Nat.reduceMul,Nat.reduceSub,Nat.reduceBEq,Nat.reduceEqDiff,Nat.reduceLT,Nat.reduceLeDiff,reduceIte,Int.reduceAdd,Int.reduceSub,Int.reduceMul,Int.reduceLT,Int.reduceLE,Int.reduceEq,Int.reduceToNat,Int.reduceNeg,zed,zee,zfr,zhw,ysu,yrg,ysv,ysw,ysx,A_indexSlice zir,hx,hat]
  refine ⟨fun hA => ?_, fun hA => ?_⟩
  · have h1 : v = -1 := by have := of_decide_eq_true hA; omega
    rw [if_pos h1]
    simp (disch := (first | (simp only [ne_eq,Nat.reduceEqDiff,not_false_eq_true,Nat.reduceLT]; done) | omega | (simp only [yz] <;> omega) | fail)) only [↓yp,yq0,yq1,yq2,yq3,yq4,yl,ys0,ys1,Nat.reduceAdd,Nat.reduceMul,Nat.reduceSub,Nat.reduceBEq,Nat.reduceEqDiff,Nat.reduceLT,Nat.reduceLeDiff,reduceIte,Int.reduceAdd,Int.reduceSub,Int.reduceMul,Int.reduceLT,Int.reduceLE,Int.reduceEq,Int.reduceToNat,Int.reduceNeg,zed,zee,zfr,zhw,ysu,yrg,ysv,ysw,ysx]
  have h1 : v ≠ -1 := by have := of_decide_eq_false hA; omega
  rw [if_neg h1]
  have fH1 : Fr H H1 := Fr.trans (by (repeat (first | exact Fr.refl _ | assumption | refine Fr.allocd ?_ _ | refine Fr.kill ?_ (by first | assumption | omega) | refine Fr.put ?_ (by first | omega | (simp only [yz] <;> omega)) _))) fr1
  have b6 : H1.get H.size = .rw [.int .i64 C, .slice (some ⟨b, o, none⟩) l.length cap] 34 false [] := by rw [s1 _ (by (first | omega | (simp only [yz] <;> omega)))]; simp (disch := (first | (simp only [ne_eq,Nat.reduceEqDiff,not_false_eq_true,Nat.reduceLT]; done) | omega | (simp only [yz] <;> omega) | fail)) only [yg,Nat.reduceAdd,Nat.reduceEqDiff,Nat.reduceLT]
  have b7 : H1.get (H.size + 1) = .rw [.int .i64 w, .int .i64 ld] 50 false [] := by rw [s1 _ (by (first | omega | (simp only [yz] <;> omega)))]; simp (disch := (first | (simp only [ne_eq,Nat.reduceEqDiff,not_false_eq_true,Nat.reduceLT]; done) | omega | (simp only [yz] <;> omega) | fail)) only [yg,Nat.reduceAdd,Nat.reduceEqDiff,Nat.reduceLT]
  have hcb : cellsOf (H1.get b) = some c := by rw [fH1.same b hb]; exact hcc
  simp (disch := (first | (simp only [ne_eq,Nat.reduceEqDiff,not_false_eq_true,Nat.reduceLT]; done) | omega | (simp only [yz] <;> omega) | fail)) only [↓yp,yq0,yq1,yq2,yq3,yq4,yl,ys0,ys1,Nat.reduceAdd,Nat.reduceMul,Nat.reduceSub,Nat.reduceBEq,Nat.reduceEqDiff,Nat.reduceLT,Nat.reduceLeDiff,reduceIte,Int.reduceAdd,Int.reduceSub,Int.reduceMul,Int.reduceLT,Int.reduceLE,Int.reduceEq,Int.reduceToNat,Int.reduceNeg,zed,zee,zfr,zhw,ysu,yrg,ysv,ysw,ysx,b6,A_build zim]
  refine W_while (n := 64) 4500 (fun k e H' => ∃ j ga gc, k = l.length - j ∧ j ≤ l.length ∧ gt 64 e 16 = .int .i64 (j : Nat) ∧ gt 64 e 15 = .pointer (some ⟨H1.size, 0, none⟩) ∧ gt 64 e 14 = .int .i64 v ∧ gt 64 e 6 = .pointer (some ⟨H.size, 0, none⟩) ∧ gt 64 e 7 = .pointer (some ⟨H.size + 1, 0, none⟩) ∧ gt 64 e 2 = .int .i64 fr ∧ gt 64 e 3 = .int .i64 to ∧ gt 64 e 4 = .int .i64 m ∧ gt 64 e 5 = .int .i64 (i : Nat) ∧
      Fr H1 H' ∧ H1.size < H'.size ∧ H'.get H1.size = .rw [.int .i64 C, .slice ga ((l.take j).eraseIdx i).length gc] 34 false [] ∧ Grow H' H1.size (.slice ga ((l.take j).eraseIdx i).length gc) ((l.take j).eraseIdx i).length (flat ((l.take j).eraseIdx i)) 46 9)
    ?_ 18 l.length ⟨0, none, 0, by omega, by omega, by simp (disch := (first | (simp only [ne_eq,Nat.reduceEqDiff,not_false_eq_true,Nat.reduceLT]; done) | omega | (simp only [yz] <;> omega) | fail)) only [yg,Nat.reduceAdd,Nat.reduceEqDiff,Nat.reduceLT]; rfl, by simp (disch := (first | (simp only [ne_eq,Nat.reduceEqDiff,not_false_eq_true,Nat.reduceLT]; done) | omega | (simp only [yz] <;> omega) | fail)) only [yg,Nat.reduceAdd,Nat.reduceEqDiff,Nat.reduceLT], by simp (disch := (first | (simp only [ne_eq,Nat.reduceEqDiff,not_false_eq_true,Nat.reduceLT]; done) | omega | (simp only [yz] <;> omega) | fail)) only [yg,Nat.reduceAdd,Nat.reduceEqDiff,Nat.reduceLT], by simp (disch := (first | (simp only [ne_eq,Nat.reduceEqDiff,not_false_eq_true,Nat.reduceLT]; done) | omega | (simp only [yz] <;> omega) | fail)) only [yg,Nat.reduceAdd,Nat.reduceEqDiff,Nat.reduceLT], by simp (disch := (first | (simp only [ne_eq,Nat.reduceEqDiff,not_false_eq_true,Nat.reduceLT]; done) | omega | (simp only [yz] <;> omega) | fail)) only [yg,Nat.reduceAdd,Nat.reduceEqDiff,Nat.reduceLT], by simp (disch := (first | (simp only [ne_eq,Nat.reduceEqDiff,not_false_eq_true,Nat.reduceLT]; done) | omega | (simp only [yz] <;> omega) | fail)) only [yg,Nat.reduceAdd,Nat.reduceEqDiff,Nat.reduceLT], by simp (disch := (first | (simp only [ne_eq,Nat.reduceEqDiff,not_false_eq_true,Nat.reduceLT]; done) | omega | (simp only [yz] <;> omega) | fail)) only [yg,Nat.reduceAdd,Nat.reduceEqDiff,Nat.reduceLT], by simp (disch := (first | (simp only [ne_eq,Nat.reduceEqDiff,not_false_eq_true,Nat.reduceLT]; done) | omega | (simp only [yz] <;> omega) | fail)) only [yg,Nat.reduceAdd,Nat.reduceEqDiff,Nat.reduceLT], by simp (disch := (first | (simp only [ne_eq,Nat.reduceEqDiff,not_false_eq_true,Nat.reduceLT]; done) | omega | (simp only [yz] <;> omega) | fail)) only [yg,Nat.reduceAdd,Nat.reduceEqDiff,Nat.reduceLT], by (repeat (first | exact Fr.refl _ | assumption | refine Fr.allocd ?_ _ | refine Fr.kill ?_ (by first | assumption | omega) | refine Fr.put ?_ (by first | omega | (simp only [yz] <;> omega)) _)), by (first | omega | (simp only [yz] <;> omega)), by simp (disch := (first | (simp only [ne_eq,Nat.reduceEqDiff,not_false_eq_true,Nat.reduceLT]; done) | omega | (simp only [yz] <;> omega) | fail)) only [yg,Nat.reduceAdd,Nat.reduceEqDiff,Nat.reduceLT]; rfl, ⟨fun _ => rfl, fun h => absurd rfl h⟩⟩ (by omega) (by omega)
  rintro M1 k1 e H' ⟨j, ga, gc, rfl, hj, g16, g15, g14, g6, g7, g2, g3, g4, g5, fr', htb, hgt, gw⟩
  have f0 := fr'.size
  have b6' := (fr'.same _ (by omega)).trans b6
  have b7' := (fr'.same _ (by omega)).trans b7
  have hcb' : cellsOf (H'.get b) = some c := by rw [fr'.same b (by omega)]; exact hcb
  simp (disch := (first | (simp only [ne_eq,Nat.reduceEqDiff,not_false_eq_true,Nat.reduceLT]; done) | omega | (simp only [yz] <;> omega) | fail)) only [↓yp,yq0,yq1,yq2,yq3,yq4,yl,ys0,ys1,Nat.reduceAdd,Nat.reduceMul,Nat.reduceSub,Nat.reduceBEq,Nat.reduceEqDiff,Nat.reduceLT,Nat.reduceLeDiff,reduceIte,Int.reduceAdd,Int.reduceSub,Int.reduceMul,Int.reduceLT,Int.reduceLE,Int.reduceEq,Int.reduceToNat,Int.reduceNeg,zed,zee,zfr,zhw,ysu,yrg,ysv,ysw,ysx,g16,g6,b6',lenV_slice ziq]
  refine ⟨fun hlt => ?_, fun hlt => ?_⟩
  · have hj' : j < l.length := by have := of_decide_eq_true hlt; omega
    obtain ⟨s, his⟩ : ∃ s, l[j]? = some s := ⟨l[j], by simp [hj']⟩
    have hpi := hp j s his
    have hw2 : w64 ((j : Int) + 1) = ((j + 1 : Nat) : Int) := by rw [w64_of (by omega)]; omega
    have hel : ((l.take j).eraseIdx i).length ≤ j := by
      have := List.length_eraseIdx_le (l.take j) i
      rw [List.length_take] at this
      omega
    by_cases hji : j = i
    · have hd0 : decide ((j : Int) = (i : Int)) = true := by simp; omega
      simp (disch := (first | (simp only [ne_eq,Nat.reduceEqDiff,not_false_eq_true,Nat.reduceLT]; done) | omega | (simp only [yz] <;> omega) | fail)) only [↓yp,yq0,yq1,yq2,yq3,yq4,yl,ys0,ys1,Nat.reduceAdd,Nat.reduceMul,Nat.reduceSub,Nat.reduceBEq,Nat.reduceEqDiff,Nat.reduceLT,Nat.reduceLeDiff,reduceIte,Int.reduceAdd,Int.reduceSub,Int.reduceMul,Int.reduceLT,Int.reduceLE,Int.reduceEq,Int.reduceToNat,Int.reduceNeg,zed,zee,zfr,zhw,ysu,yrg,ysv,ysw,ysx,g16,g5,hd0,hw2]
      subst hji
      refine ⟨l.length - (j + 1), by omega, j + 1, ga, gc, rfl, by omega, ?_, ?_, ?_, ?_, ?_, ?_, ?_, ?_, ?_, fr', htb, by rw [take_erase_eq his]; exact hgt, by rw [take_erase_eq his]; exact gw⟩
      · simp (disch := (first | (simp only [ne_eq,Nat.reduceEqDiff,not_false_eq_true,Nat.reduceLT]; done) | omega | (simp only [yz] <;> omega) | fail)) only [yg,Nat.reduceAdd,Nat.reduceEqDiff,Nat.reduceLT]
      · simp (disch := (first | (simp only [ne_eq,Nat.reduceEqDiff,not_false_eq_true,Nat.reduceLT]; done) | omega | (simp only [yz] <;> omega) | fail)) only [yg,Nat.reduceAdd,Nat.reduceEqDiff,Nat.reduceLT,g15]
      · simp (disch := (first | (simp only [ne_eq,Nat.reduceEqDiff,not_false_eq_true,Nat.reduceLT]; done) | omega | (simp only [yz] <;> omega) | fail)) only [yg,Nat.reduceAdd,Nat.reduceEqDiff,Nat.reduceLT,g14]
      · simp (disch := (first | (simp only [ne_eq,Nat.reduceEqDiff,not_false_eq_true,Nat.reduceLT]; done) | omega | (simp only [yz] <;> omega) | fail)) only [yg,Nat.reduceAdd,Nat.reduceEqDiff,Nat.reduceLT,g6]
      · simp (disch := (first | (simp only [ne_eq,Nat.reduceEqDiff,not_false_eq_true,Nat.reduceLT]; done) | omega | (simp only [yz] <;> omega) | fail)) only [yg,Nat.reduceAdd,Nat.reduceEqDiff,Nat.reduceLT,g7]
      · simp (disch := (first | (simp only [ne_eq,Nat.reduceEqDiff,not_false_eq_true,Nat.reduceLT]; done) | omega | (simp only [yz] <;> omega) | fail)) only [yg,Nat.reduceAdd,Nat.reduceEqDiff,Nat.reduceLT,g2]
      · simp (disch := (first | (simp only [ne_eq,Nat.reduceEqDiff,not_false_eq_true,Nat.reduceLT]; done) | omega | (simp only [yz] <;> omega) | fail)) only [yg,Nat.reduceAdd,Nat.reduceEqDiff,Nat.reduceLT,g3]
      · simp (disch := (first | (simp only [ne_eq,Nat.reduceEqDiff,not_false_eq_true,Nat.reduceLT]; done) | omega | (simp only [yz] <;> omega) | fail)) only [yg,Nat.reduceAdd,Nat.reduceEqDiff,Nat.reduceLT,g4]
      · simp (disch := (first | (simp only [ne_eq,Nat.reduceEqDiff,not_false_eq_true,Nat.reduceLT]; done) | omega | (simp only [yz] <;> omega) | fail)) only [yg,Nat.reduceAdd,Nat.reduceEqDiff,Nat.reduceLT,g5]
    · have hd0 : decide ((j : Int) = (i : Int)) = false := by simp; omega
      simp (disch := (first | (simp only [ne_eq,Nat.reduceEqDiff,not_false_eq_true,Nat.reduceLT]; done) | omega | (simp only [yz] <;> omega) | fail)) only [↓yp,yq0,yq1,yq2,yq3,yq4,yl,ys0,ys1,Nat.reduceAdd,Nat.reduceMul,Nat.reduceSub,Nat.reduceBEq,Nat.reduceEqDiff,Nat.reduceLT,Nat.reduceLeDiff,reduceIte,Int.reduceAdd,Int.reduceSub,Int.reduceMul,Int.reduceLT,Int.reduceLE,Int.reduceEq,Int.reduceToNat,Int.reduceNeg,zed,zee,zfr,zhw,ysu,yrg,ysv,ysw,ysx,g16,g5,hd0]
      refine W_drawR (pl := []) [7, 8, 10] [(1, 3)] (planB_of rfl (by decide) (by decide) rfl) (by kernel_rfl) (by kernel_rfl) (by kernel_rfl) (by (first | omega | (simp only [yz] <;> omega))) ?_
      simp (disch := (first | (simp only [ne_eq,Nat.reduceEqDiff,not_false_eq_true,Nat.reduceLT]; done) | omega | (simp only [yz] <;> omega) | fail)) only [↓yp,yq0,yq1,yq2,yq3,yq4,yl,ys0,ys1,Nat.reduceAdd,Nat.reduceMul,Nat.reduceSub,Nat.reduceBEq,Nat.reduceEqDiff,Nat.reduceLT,Nat.reduceLeDiff,reduceIte,Int.reduceAdd,Int.reduceSub,Int.reduceMul,Int.reduceLT,Int.reduceLE,Int.reduceEq,Int.reduceToNat,Int.reduceNeg,zed,zee,zfr,zhw,ysu,yrg,ysv,ysw,ysx,g16,g15,g6,b6',hgt,hcb',hpi,A_indexSlice ziq,Str.enc,A_buildSlice st_brS_32_1]
      refine grow_append (i := ((l.take j).eraseIdx i).length) (cs := flat ((l.take j).eraseIdx i)) (news := s.enc) st_apS32 (gw.fr (by (repeat (first | exact Fr.refl _ | assumption | refine Fr.allocd ?_ _ | refine Fr.kill ?_ (by first | assumption | omega) | refine Fr.put ?_ (by first | omega | (simp only [yz] <;> omega)) _)))) (by (first | omega | (simp only [yz] <;> omega))) (by rw [flat_length]) (enc_cells (by simp (disch := (first | (simp only [ne_eq,Nat.reduceEqDiff,not_false_eq_true,Nat.reduceLT]; done) | omega | (simp only [yz] <;> omega) | fail)) only [yg,Nat.reduceAdd,Nat.reduceEqDiff,Nat.reduceLT,Str.enc])) (by omega) (by omega) rfl (by omega) ?_
      intro a' c' H₂ fu gw'
      have u0 := fu.size
      have us := fu.same
      simp only [zde] at u0
      have hcb2 : cellsOf (H₂.get b) = some c := by rw [us b (by omega), zdb (by omega)]; exact hcb'
      have b62 : H₂.get H.size = .rw [.int .i64 C, .slice (some ⟨b, o, none⟩) l.length cap] 34 false [] := by rw [us _ (by omega), zdb (by omega)]; exact b6'
      have hgt2 : H₂.get H1.size = .rw [.int .i64 C, .slice ga ((l.take j).eraseIdx i).length gc] 34 false [] := by rw [us _ (by omega), zdb (by omega)]; exact hgt
      simp (disch := (first | (simp only [ne_eq,Nat.reduceEqDiff,not_false_eq_true,Nat.reduceLT]; done) | omega | (simp only [yz] <;> omega) | fail)) only [↓yp,yq0,yq1,yq2,yq3,yq4,yl,ys0,ys1,Nat.reduceAdd,Nat.reduceMul,Nat.reduceSub,Nat.reduceBEq,Nat.reduceEqDiff,Nat.reduceLT,Nat.reduceLeDiff,reduceIte,Int.reduceAdd,Int.reduceSub,Int.reduceMul,Int.reduceLT,Int.reduceLE,Int.reduceEq,Int.reduceToNat,Int.reduceNeg,zed,zee,zfr,zhw,ysu,yrg,ysv,ysw,ysx,g16,g15,g6,b6',b62,hgt,hgt2,hcb',hcb2,hpi,A_indexSlice ziq,Str.enc,hw2]
      have e1 : ((l.take (j + 1)).eraseIdx i).length = ((l.take j).eraseIdx i).length + 1 := by rw [take_erase_ne his hji, List.length_append]; rfl
      refine ⟨l.length - (j + 1), by omega, j + 1, a', c', rfl, by omega, ?_, ?_, ?_, ?_, ?_, ?_, ?_, ?_, ?_, ?_, ?_, ?_, ?_⟩
      · simp (disch := (first | (simp only [ne_eq,Nat.reduceEqDiff,not_false_eq_true,Nat.reduceLT]; done) | omega | (simp only [yz] <;> omega) | fail)) only [yg,Nat.reduceAdd,Nat.reduceEqDiff,Nat.reduceLT]
      · simp (disch := (first | (simp only [ne_eq,Nat.reduceEqDiff,not_false_eq_true,Nat.reduceLT]; done) | omega | (simp only [yz] <;> omega) | fail)) only [yg,Nat.reduceAdd,Nat.reduceEqDiff,Nat.reduceLT,g15]
      · simp (disch := (first | (simp only [ne_eq,Nat.reduceEqDiff,not_false_eq_true,Nat.reduceLT]; done) | omega | (simp only [yz] <;> omega) | fail)) only [yg,Nat.reduceAdd,Nat.reduceEqDiff,Nat.reduceLT,g14]
      · simp (disch := (first | (simp only [ne_eq,Nat.reduceEqDiff,not_false_eq_true,Nat.reduceLT]; done) | omega | (simp only [yz] <;> omega) | fail)) only [yg,Nat.reduceAdd,Nat.reduceEqDiff,Nat.reduceLT,g6]
      · simp (disch := (first | (simp only [ne_eq,Nat.reduceEqDiff,not_false_eq_true,Nat.reduceLT]; done) | omega | (simp only [yz] <;> omega) | fail)) only [yg,Nat.reduceAdd,Nat.reduceEqDiff,Nat.reduceLT,g7]
      · simp (disch := (first | (simp only [ne_eq,Nat.reduceEqDiff,not_false_eq_true,Nat.reduceLT]; done) | omega | (simp only [yz] <;> omega) | fail)) only [yg,Nat.reduceAdd,Nat.reduceEqDiff,Nat.reduceLT,g2]
      · simp (disch := (first | (simp only [ne_eq,Nat.reduceEqDiff,not_false_eq_true,Nat.reduceLT]; done) | omega | (simp only [yz] <;> omega) | fail)) only [yg,Nat.reduceAdd,Nat.reduceEqDiff,Nat.reduceLT,g3]
      · simp (disch := (first | (simp only [ne_eq,Nat.reduceEqDiff,not_false_eq_true,Nat.reduceLT]; done) | omega | (simp only [yz] <;> omega) | fail)) only [yg,Nat.reduceAdd,Nat.reduceEqDiff,Nat.reduceLT,g4]
      · simp (disch := (first | (simp only [ne_eq,Nat.reduceEqDiff,not_false_eq_true,Nat.reduceLT]; done) | omega | (simp only [yz] <;> omega) | fail)) only [yg,Nat.reduceAdd,Nat.reduceEqDiff,Nat.reduceLT,g5]
      · refine Fr.put ?_ (by (first | omega | (simp only [yz] <;> omega))) _
        refine Fr.part (H₁ := _) ?_ fu (by (first | omega | (simp only [yz] <;> omega)))
        exact fr'.allocd _
      · (first | omega | (simp only [yz] <;> omega))
      · rw [zdc (by omega), e1]
      · rw [e1, take_erase_ne his hji, flat_append]
        simp only [flat,List.append_nil]
        exact gw'.put (by omega)
  · have hjl : j = l.length := by have := of_decide_eq_false hlt; omega
    subst hjl
    rw [List.take_length] at hgt gw
    simp (disch := (first | (simp only [ne_eq,Nat.reduceEqDiff,not_false_eq_true,Nat.reduceLT]; done) | omega | (simp only [yz] <;> omega) | fail)) only [↓yp,yq0,yq1,yq2,yq3,yq4,yl,ys0,ys1,Nat.reduceAdd,Nat.reduceMul,Nat.reduceSub,Nat.reduceBEq,Nat.reduceEqDiff,Nat.reduceLT,Nat.reduceLeDiff,reduceIte,Int.reduceAdd,Int.reduceSub,Int.reduceMul,Int.reduceLT,Int.reduceLE,Int.reduceEq,Int.reduceToNat,Int.reduceNeg,zed,zee,zfr,zhw,ysu,yrg,ysv,ysw,ysx,g15,hgt,g7,b7',g2,g4]
    refine c31 gw.sl (by have := List.length_eraseIdx_le l i; omega) g' (by omega) hm (by omega) (by omega) ?_
    intro k2 cap2 H2 fr2 hk3 hk4 hx2
    obtain ⟨al2, hx2⟩ := hx2
    have f2 := fr2.size
    simp (disch := (first | (simp only [ne_eq,Nat.reduceEqDiff,not_false_eq_true,Nat.reduceLT]; done) | omega | (simp only [yz] <;> omega) | fail)) only [↓yp,yq0,yq1,yq2,yq3,yq4,yl,ys0,ys1,Nat.reduceAdd,Nat.reduceMul,Nat.reduceSub,Nat.reduceBEq,Nat.reduceEqDiff,Nat.reduceLT,Nat.reduceLeDiff,reduceIte,Int.reduceAdd,Int.reduceSub,Int.reduceMul,Int.reduceLT,Int.reduceLE,Int.reduceEq,Int.reduceToNat,Int.reduceNeg,zed,zee,zfr,zhw,ysu,yrg,ysv,ysw,ysx,A_indexSlice zir,g3,g14,hx2,hat']
    have hw3 : w64 (v' - v) = v' - v := w64_of (by omega)
    refine ⟨fun hB => ?_, fun hB => ?_⟩
    · have h2 : v' = -1 := by have := of_decide_eq_true hB; omega
      rw [if_pos h2]
      simp (disch := (first | (simp only [ne_eq,Nat.reduceEqDiff,not_false_eq_true,Nat.reduceLT]; done) | omega | (simp only [yz] <;> omega) | fail)) only [↓yp,yq0,yq1,yq2,yq3,yq4,yl,ys0,ys1,Nat.reduceAdd,Nat.reduceMul,Nat.reduceSub,Nat.reduceBEq,Nat.reduceEqDiff,Nat.reduceLT,Nat.reduceLeDiff,reduceIte,Int.reduceAdd,Int.reduceSub,Int.reduceMul,Int.reduceLT,Int.reduceLE,Int.reduceEq,Int.reduceToNat,Int.reduceNeg,zed,zee,zfr,zhw,ysu,yrg,ysv,ysw,ysx]
    · have h2 : v' ≠ -1 := by have := of_decide_eq_false hB; omega
      rw [if_neg h2]
      simp (disch := (first | (simp only [ne_eq,Nat.reduceEqDiff,not_false_eq_true,Nat.reduceLT]; done) | omega | (simp only [yz] <;> omega) | fail)) only [↓yp,yq0,yq1,yq2,yq3,yq4,yl,ys0,ys1,Nat.reduceAdd,Nat.reduceMul,Nat.reduceSub,Nat.reduceBEq,Nat.reduceEqDiff,Nat.reduceLT,Nat.reduceLeDiff,reduceIte,Int.reduceAdd,Int.reduceSub,Int.reduceMul,Int.reduceLT,Int.reduceLE,Int.reduceEq,Int.reduceToNat,Int.reduceNeg,zed,zee,zfr,zhw,ysu,yrg,ysv,ysw,ysx,g14,hw3]
end
end Go.Am
