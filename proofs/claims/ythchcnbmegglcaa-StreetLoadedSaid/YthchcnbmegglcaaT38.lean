/- Heaviest of the program. -/
import Derived.Test.YthchcnbmegglcaaT37
set_option linter.unusedSimpArgs false
set_option linter.unusedVariables false
namespace Go.Am
open Go.Proofs
variable {T : Tab} {P : Program} {N L : Nat} {H : AHeap} {Q : Bool → Value → AHeap → Prop}
/-- The greatest number below k that suits. -/
def down (p : Nat → Bool) : Nat → Option Nat
  | 0 => none
  | k + 1 => if p k then some k else down p k
theorem down_some {p : Nat → Bool} : ∀ {k n : Nat}, down p k = some n → p n = true ∧ n < k ∧ ∀ q, n < q → q < k → p q = false
  | k + 1, n, h => by
    unfold down at h
    by_cases hp : p k = true
    · rw [if_pos hp] at h
      cases h
      exact ⟨hp, by omega, fun q h1 h2 => by omega⟩
    · rw [if_neg hp] at h
      obtain ⟨h1, h2, h3⟩ := down_some h
      refine ⟨h1, by omega, fun q h4 h5 => ?_⟩
      by_cases e : q = k
      · subst e; simpa using hp
      · exact h3 q h4 (by omega)
theorem down_none {p : Nat → Bool} : ∀ {k : Nat}, down p k = none → ∀ q, q < k → p q = false
  | k + 1, h, q, hq => by
    unfold down at h
    by_cases hp : p k = true
    · rw [if_pos hp] at h; cases h
    · rw [if_neg hp] at h
      by_cases e : q = k
      · subst e; simpa using hp
      · exact down_none h q (by omega)
theorem down_is {p : Nat → Bool} : ∀ {k j : Nat}, j < k → p j = true → (∀ q, j < q → q < k → p q = false) → down p k = some j
  | k + 1, j, h, hp, hq => by
    unfold down
    by_cases e : j = k
    · subst e; rw [if_pos hp]
    · rw [if_neg (by rw [hq k (by omega) (by omega)]; simp)]
      exact down_is (by omega) hp fun q h1 h2 => hq q h1 (by omega)
theorem down_no {p : Nat → Bool} : ∀ {k : Nat}, (∀ q, q < k → p q = false) → down p k = none
  | 0, _ => rfl
  | k + 1, h => by
    unfold down
    rw [if_neg (by rw [h k (by omega)]; simp)]
    exact down_no fun q hq => h q (by omega)
/-- A load with which the cart is in time. -/
def fits (C : Int) (l : List Str) (w fr to m bm : Int) (ld : Nat) : Bool := !decide (tg (earT C l w ld fr m) to = -1) && decide (tg (earT C l w ld fr m) to ≤ bm)
def heavV (C : Int) (l : List Str) (w fr to m bm : Int) : Int × Int := match down (fits C l w fr to m bm) 10 with
  | some n => (n, 0)
  | none => (0, 1)
section
variable {l : List Str} {C w : Int} {a : Option Addr} {cap : Nat}
set_option maxHeartbeats 2000000 in
theorem c44 {fr to m bm : Int} (hs : Sl H a l) (hl : l.length ≤ 16) (hC : 1 ≤ C ∧ C ≤ 8) (ho : ∀ s ∈ l, OkS C s) (hw : 1 ≤ w ∧ w ≤ 9) (hfr : 0 ≤ fr ∧ fr < C) (hto : 0 ≤ to ∧ to < C) (hm : 0 ≤ m ∧ m ≤ 240) (hbm : 0 ≤ bm ∧ bm ≤ 240) :
    acall tabA (aexec tabA Try.prog (N + 5500)) 44 [.agg ⟨[.int .i64 C, .slice a l.length cap]⟩, .int .i64 w, .int .i64 fr, .int .i64 to, .int .i64 m, .int .i64 bm] H = some (true, .tuple ⟨[.int .i64 (heavV C l w fr to m bm).1, .int .i64 (heavV C l w fr to m bm).2]⟩, H, H.size) := by
  refine call_quiet (k := 52) (rs := [.tmp 12, .tmp 13]) rfl fn_44 rfl rfl rfl ?_ rfl
  have hck : chk C l = 0 := chk_of hC hl ho
  have h0 : asked C l w 0 [fr, to] [] [m, bm] = 0 := asked_zero hC hl ho hw (by omega) (by simp; omega) (by simp; omega)
  simp (disch := (first | (simp only [ne_eq,Nat.reduceEqDiff,not_false_eq_true,Nat.reduceLT]; done) | omega | (simp only [yz] <;> omega) | fail)) only [↓yp,yq0,yq1,yq2,yq3,yq4,yl,ys0,ys1,Nat.reduceAdd,Nat.reduceMul,Nat.reduceSub,Nat.reduceBEq,Nat.reduceEqDiff,Nat.reduceLT,Nat.reduceLeDiff,reduceIte,Int.reduceAdd,Int.reduceSub,Int.reduceMul,Int.reduceLT,Int.reduceLE,Int.reduceEq,Int.reduceToNat,Int.reduceNeg,zed,zee,zfr,zhw,ysu,yrg,ysv,A_buildSlice st_brS_52_2,A_build st_bdS_26]
  rw [c82f (x := fr) (y := to) (m := m) (n := bm) (hs.fr (by (repeat (first | exact Fr.refl _ | assumption | refine Fr.allocd ?_ _ | refine Fr.kill ?_ (by first | assumption | omega) | refine Fr.put ?_ (by first | omega | (simp only [yz] <;> omega)) _)))) (by omega) (by simp (disch := (first | (simp only [ne_eq,Nat.reduceEqDiff,not_false_eq_true,Nat.reduceLT]; done) | omega | (simp only [yz] <;> omega) | fail)) only [yg,Nat.reduceAdd,Nat.reduceEqDiff,Nat.reduceLT]) (by simp (disch := (first | (simp only [ne_eq,Nat.reduceEqDiff,not_false_eq_true,Nat.reduceLT]; done) | omega | (simp only [yz] <;> omega) | fail)) only [yg,Nat.reduceAdd,Nat.reduceEqDiff,Nat.reduceLT]), h0]
  simp (disch := (first | (simp only [ne_eq,Nat.reduceEqDiff,not_false_eq_true,Nat.reduceLT]; done) | omega | (simp only [yz] <;> omega) | fail)) only [↓yp,yq0,yq1,yq2,yq3,yq4,yl,ys0,ys1,Nat.reduceAdd,Nat.reduceMul,Nat.reduceSub,Nat.reduceBEq,Nat.reduceEqDiff,Nat.reduceLT,Nat.reduceLeDiff,reduceIte,Int.reduceAdd,Int.reduceSub,Int.reduceMul,Int.reduceLT,Int.reduceLE,Int.reduceEq,Int.reduceToNat,Int.reduceNeg,zed,zee,zfr,zhw,ysu,yrg,ysv]
  refine W_while (n := 52) 5000 (fun k e H' => ∃ j : Nat, k = j ∧ j ≤ 10 ∧ gt 52 e 15 = .int .i64 ((j : Int) - 1) ∧ gt 52 e 6 = .pointer (some ⟨H.size, 0, none⟩) ∧ gt 52 e 1 = .int .i64 w ∧ gt 52 e 2 = .int .i64 fr ∧ gt 52 e 3 = .int .i64 to ∧ gt 52 e 4 = .int .i64 m ∧ gt 52 e 5 = .int .i64 bm ∧ Fr (H.alloc (.rw [.int .i64 C, .slice a l.length cap] 24 false [])) H' ∧ ∀ q, j ≤ q → q < 10 → fits C l w fr to m bm q = false)
    ?_ 10 10 ⟨10, rfl, by omega, by simp (disch := (first | (simp only [ne_eq,Nat.reduceEqDiff,not_false_eq_true,Nat.reduceLT]; done) | omega | (simp only [yz] <;> omega) | fail)) only [yg,Nat.reduceAdd,Nat.reduceEqDiff,Nat.reduceLT]; rfl, by simp (disch := (first | (simp only [ne_eq,Nat.reduceEqDiff,not_false_eq_true,Nat.reduceLT]; done) | omega | (simp only [yz] <;> omega) | fail)) only [yg,Nat.reduceAdd,Nat.reduceEqDiff,Nat.reduceLT], by simp (disch := (first | (simp only [ne_eq,Nat.reduceEqDiff,not_false_eq_true,Nat.reduceLT]; done) | omega | (simp only [yz] <;> omega) | fail)) only [yg,Nat.reduceAdd,Nat.reduceEqDiff,Nat.reduceLT], by simp (disch := (first | (simp only [ne_eq,Nat.reduceEqDiff,not_false_eq_true,Nat.reduceLT]; done) | omega | (simp only [yz] <;> omega) | fail)) only [yg,Nat.reduceAdd,Nat.reduceEqDiff,Nat.reduceLT], by simp (disch := (first | (simp only [ne_eq,Nat.reduceEqDiff,not_false_eq_true,Nat.reduceLT]; done) | omega | (simp only [yz] <;> omega) | fail)) only [yg,Nat.reduceAdd,Nat.reduceEqDiff,Nat.reduceLT], by simp (disch := (first | (simp only [ne_eq,Nat.reduceEqDiff,not_false_eq_true,Nat.reduceLT]; done) | omega | (simp only [yz] <;> omega) | fail)) only [yg,Nat.reduceAdd,Nat.reduceEqDiff,Nat.reduceLT], by simp (disch := (first | (simp only [ne_eq,Nat.reduceEqDiff,not_false_eq_true,Nat.reduceLT]; done) | omega | (simp only [yz] <;> omega) | fail)) only [yg,Nat.reduceAdd,Nat.reduceEqDiff,Nat.reduceLT], by (repeat (first | exact Fr.refl _ | assumption | refine Fr.allocd ?_ _ | refine Fr.kill ?_ (by first | assumption | omega) | refine Fr.put ?_ (by first | omega | (simp only [yz] <;> omega)) _)), fun q h1 h2 => by omega⟩ (by omega) (by omega)
  rintro M1 k1 e H' ⟨j, rfl, hj, g15, g6, g1, g2, g3, g4, g5, fr', hno⟩
  have f0 := fr'.size
  have fs := fr'.same
  simp only [zde] at f0
  simp (disch := (first | (simp only [ne_eq,Nat.reduceEqDiff,not_false_eq_true,Nat.reduceLT]; done) | omega | (simp only [yz] <;> omega) | fail)) only [↓yp,yq0,yq1,yq2,yq3,yq4,yl,ys0,ys1,Nat.reduceAdd,Nat.reduceMul,Nat.reduceSub,Nat.reduceBEq,Nat.reduceEqDiff,Nat.reduceLT,Nat.reduceLeDiff,reduceIte,Int.reduceAdd,Int.reduceSub,Int.reduceMul,Int.reduceLT,Int.reduceLE,Int.reduceEq,Int.reduceToNat,Int.reduceNeg,zed,zee,zfr,zhw,ysu,yrg,ysv,g15]
  refine ⟨fun hA => ?_, fun hA => ?_⟩
  rotate_left
  · have hj0 : k1 = 0 := by have := of_decide_eq_false hA; omega
    subst hj0
    have hv : heavV C l w fr to m bm = (0, 1) := by
      unfold heavV
      rw [down_no fun q hq => hno q (by omega) hq]
    simp (disch := (first | (simp only [ne_eq,Nat.reduceEqDiff,not_false_eq_true,Nat.reduceLT]; done) | omega | (simp only [yz] <;> omega) | fail)) only [↓yp,yq0,yq1,yq2,yq3,yq4,yl,ys0,ys1,Nat.reduceAdd,Nat.reduceMul,Nat.reduceSub,Nat.reduceBEq,Nat.reduceEqDiff,Nat.reduceLT,Nat.reduceLeDiff,reduceIte,Int.reduceAdd,Int.reduceSub,Int.reduceMul,Int.reduceLT,Int.reduceLE,Int.reduceEq,Int.reduceToNat,Int.reduceNeg,zed,zee,zfr,zhw,ysu,yrg,ysv,hv]
  have hj1 : 0 < k1 := by have := of_decide_eq_true hA; omega
  obtain ⟨ld, rfl⟩ : ∃ ld, k1 = ld + 1 := ⟨k1 - 1, by omega⟩
  have eld : ((ld + 1 : Nat) : Int) - 1 = (ld : Int) := by omega
  rw [eld] at g15
  have g : Good C l (ld : Int) := good_of hck (off_iff.2 (by omega))
  have e8 := earT_ok (w := w) g (fr := fr) (a₀ := m) hfr hm
  have hat := tv_at e8.1 (x := to) (by omega)
  have hw3 : w64 ((ld : Int) - 1) = (ld : Int) - 1 := w64_of (by omega)
  have sH : Sl H' a l := (hs.fr (Fr.alloc _ _)).fr fr'
  simp (disch := (first | (simp only [ne_eq,Nat.reduceEqDiff,not_false_eq_true,Nat.reduceLT]; done) | omega | (simp only [yz] <;> omega) | fail)) only [↓yp,yq0,yq1,yq2,yq3,yq4,yl,ys0,ys1,Nat.reduceAdd,Nat.reduceMul,Nat.reduceSub,Nat.reduceBEq,Nat.reduceEqDiff,Nat.reduceLT,Nat.reduceLeDiff,reduceIte,Int.reduceAdd,Int.reduceSub,Int.reduceMul,Int.reduceLT,Int.reduceLE,Int.reduceEq,Int.reduceToNat,Int.reduceNeg,zed,zee,zfr,zhw,ysu,yrg,ysv,g15,g6,g1,fs,A_build st_bdS_26]
  refine c83q sH.none_len (by omega) (by omega) ?_
  intro b3 H3 fr3
  have f3 := fr3.size
  have h88 := fun (N : Nat) => c88 (N := N) (C := C) (w := w) (cap := cap) (fr := fr) (a₀ := m) g (sH.fr fr3) (by omega) hfr hm
  simp only [jobG] at h88
  simp (disch := (first | (simp only [ne_eq,Nat.reduceEqDiff,not_false_eq_true,Nat.reduceLT]; done) | omega | (simp only [yz] <;> omega) | fail)) only [↓yp,yq0,yq1,yq2,yq3,yq4,yl,ys0,ys1,Nat.reduceAdd,Nat.reduceMul,Nat.reduceSub,Nat.reduceBEq,Nat.reduceEqDiff,Nat.reduceLT,Nat.reduceLeDiff,reduceIte,Int.reduceAdd,Int.reduceSub,Int.reduceMul,Int.reduceLT,Int.reduceLE,Int.reduceEq,Int.reduceToNat,Int.reduceNeg,zed,zee,zfr,zhw,ysu,yrg,ysv,jobV,g2,g4,h88]
  refine A_index_of (k := .i64) (i := to) (cs := tv (earT C l w ld fr m)) (v := .int .i64 (tg (earT C l w ld fr m) to)) st_ixV_130 (by simp (disch := (first | (simp only [ne_eq,Nat.reduceEqDiff,not_false_eq_true,Nat.reduceLT]; done) | omega | (simp only [yz] <;> omega) | fail)) only [↓yp,yq0,yq1,yq2,yq3,yq4,yl,ys0,ys1,Nat.reduceAdd,Nat.reduceMul,Nat.reduceSub,Nat.reduceBEq,Nat.reduceEqDiff,Nat.reduceLT,Nat.reduceLeDiff,reduceIte,Int.reduceAdd,Int.reduceSub,Int.reduceMul,Int.reduceLT,Int.reduceLE,Int.reduceEq,Int.reduceToNat,Int.reduceNeg,zed,zee,zfr,zhw,ysu,yrg,ysv]) (by simp (disch := (first | (simp only [ne_eq,Nat.reduceEqDiff,not_false_eq_true,Nat.reduceLT]; done) | omega | (simp only [yz] <;> omega) | fail)) only [↓yp,yq0,yq1,yq2,yq3,yq4,yl,ys0,ys1,Nat.reduceAdd,Nat.reduceMul,Nat.reduceSub,Nat.reduceBEq,Nat.reduceEqDiff,Nat.reduceLT,Nat.reduceLeDiff,reduceIte,Int.reduceAdd,Int.reduceSub,Int.reduceMul,Int.reduceLT,Int.reduceLE,Int.reduceEq,Int.reduceToNat,Int.reduceNeg,zed,zee,zfr,zhw,ysu,yrg,ysv,g3]) ⟨by omega, by omega⟩ (by rw [zdj, Nat.mul_one]; exact hat) (by omega) ?_
  have hfit : fits C l w fr to m bm ld = (!decide (tg (earT C l w ld fr m) to = -1) && decide (tg (earT C l w ld fr m) to ≤ bm)) := rfl
  have next : fits C l w fr to m bm ld = false → ∀ q, ld ≤ q → q < 10 → fits C l w fr to m bm q = false := fun h q h1 h2 => by
    by_cases e : q = ld
    · subst e; exact h
    · exact hno q (by omega) h2
  cases hE1 : decide (tg (earT C l w ld fr m) to = -1)
  rotate_left
  · rw [hE1] at hfit
    simp (disch := (first | (simp only [ne_eq,Nat.reduceEqDiff,not_false_eq_true,Nat.reduceLT]; done) | omega | (simp only [yz] <;> omega) | fail)) only [↓yp,yq0,yq1,yq2,yq3,yq4,yl,ys0,ys1,Nat.reduceAdd,Nat.reduceMul,Nat.reduceSub,Nat.reduceBEq,Nat.reduceEqDiff,Nat.reduceLT,Nat.reduceLeDiff,reduceIte,Int.reduceAdd,Int.reduceSub,Int.reduceMul,Int.reduceLT,Int.reduceLE,Int.reduceEq,Int.reduceToNat,Int.reduceNeg,zed,zee,zfr,zhw,ysu,yrg,ysv,g15,hE1,hw3]
    refine ⟨ld, by omega, ld, rfl, by omega, ?_, ?_, ?_, ?_, ?_, ?_, ?_, fr'.trans fr3, next hfit⟩
    · simp (disch := (first | (simp only [ne_eq,Nat.reduceEqDiff,not_false_eq_true,Nat.reduceLT]; done) | omega | (simp only [yz] <;> omega) | fail)) only [yg,Nat.reduceAdd,Nat.reduceEqDiff,Nat.reduceLT]
    · simp (disch := (first | (simp only [ne_eq,Nat.reduceEqDiff,not_false_eq_true,Nat.reduceLT]; done) | omega | (simp only [yz] <;> omega) | fail)) only [yg,Nat.reduceAdd,Nat.reduceEqDiff,Nat.reduceLT,g6]
    · simp (disch := (first | (simp only [ne_eq,Nat.reduceEqDiff,not_false_eq_true,Nat.reduceLT]; done) | omega | (simp only [yz] <;> omega) | fail)) only [yg,Nat.reduceAdd,Nat.reduceEqDiff,Nat.reduceLT,g1]
    · simp (disch := (first | (simp only [ne_eq,Nat.reduceEqDiff,not_false_eq_true,Nat.reduceLT]; done) | omega | (simp only [yz] <;> omega) | fail)) only [yg,Nat.reduceAdd,Nat.reduceEqDiff,Nat.reduceLT,g2]
    · simp (disch := (first | (simp only [ne_eq,Nat.reduceEqDiff,not_false_eq_true,Nat.reduceLT]; done) | omega | (simp only [yz] <;> omega) | fail)) only [yg,Nat.reduceAdd,Nat.reduceEqDiff,Nat.reduceLT,g3]
    · simp (disch := (first | (simp only [ne_eq,Nat.reduceEqDiff,not_false_eq_true,Nat.reduceLT]; done) | omega | (simp only [yz] <;> omega) | fail)) only [yg,Nat.reduceAdd,Nat.reduceEqDiff,Nat.reduceLT,g4]
    · simp (disch := (first | (simp only [ne_eq,Nat.reduceEqDiff,not_false_eq_true,Nat.reduceLT]; done) | omega | (simp only [yz] <;> omega) | fail)) only [yg,Nat.reduceAdd,Nat.reduceEqDiff,Nat.reduceLT,g5]
  cases hE2 : decide (tg (earT C l w ld fr m) to ≤ bm)
  · rw [hE1, hE2] at hfit
    simp (disch := (first | (simp only [ne_eq,Nat.reduceEqDiff,not_false_eq_true,Nat.reduceLT]; done) | omega | (simp only [yz] <;> omega) | fail)) only [↓yp,yq0,yq1,yq2,yq3,yq4,yl,ys0,ys1,Nat.reduceAdd,Nat.reduceMul,Nat.reduceSub,Nat.reduceBEq,Nat.reduceEqDiff,Nat.reduceLT,Nat.reduceLeDiff,reduceIte,Int.reduceAdd,Int.reduceSub,Int.reduceMul,Int.reduceLT,Int.reduceLE,Int.reduceEq,Int.reduceToNat,Int.reduceNeg,zed,zee,zfr,zhw,ysu,yrg,ysv,g15,g5,hE1,hE2,hw3]
    refine ⟨ld, by omega, ld, rfl, by omega, ?_, ?_, ?_, ?_, ?_, ?_, ?_, fr'.trans fr3, next hfit⟩
    · simp (disch := (first | (simp only [ne_eq,Nat.reduceEqDiff,not_false_eq_true,Nat.reduceLT]; done) | omega | (simp only [yz] <;> omega) | fail)) only [yg,Nat.reduceAdd,Nat.reduceEqDiff,Nat.reduceLT]
    · simp (disch := (first | (simp only [ne_eq,Nat.reduceEqDiff,not_false_eq_true,Nat.reduceLT]; done) | omega | (simp only [yz] <;> omega) | fail)) only [yg,Nat.reduceAdd,Nat.reduceEqDiff,Nat.reduceLT,g6]
    · simp (disch := (first | (simp only [ne_eq,Nat.reduceEqDiff,not_false_eq_true,Nat.reduceLT]; done) | omega | (simp only [yz] <;> omega) | fail)) only [yg,Nat.reduceAdd,Nat.reduceEqDiff,Nat.reduceLT,g1]
    · simp (disch := (first | (simp only [ne_eq,Nat.reduceEqDiff,not_false_eq_true,Nat.reduceLT]; done) | omega | (simp only [yz] <;> omega) | fail)) only [yg,Nat.reduceAdd,Nat.reduceEqDiff,Nat.reduceLT,g2]
    · simp (disch := (first | (simp only [ne_eq,Nat.reduceEqDiff,not_false_eq_true,Nat.reduceLT]; done) | omega | (simp only [yz] <;> omega) | fail)) only [yg,Nat.reduceAdd,Nat.reduceEqDiff,Nat.reduceLT,g3]
    · simp (disch := (first | (simp only [ne_eq,Nat.reduceEqDiff,not_false_eq_true,Nat.reduceLT]; done) | omega | (simp only [yz] <;> omega) | fail)) only [yg,Nat.reduceAdd,Nat.reduceEqDiff,Nat.reduceLT,g4]
    · simp (disch := (first | (simp only [ne_eq,Nat.reduceEqDiff,not_false_eq_true,Nat.reduceLT]; done) | omega | (simp only [yz] <;> omega) | fail)) only [yg,Nat.reduceAdd,Nat.reduceEqDiff,Nat.reduceLT,g5]
  · rw [hE1, hE2] at hfit
    have hv : heavV C l w fr to m bm = ((ld : Int), 0) := by
      unfold heavV
      rw [down_is (by omega) hfit fun q h1 h2 => hno q (by omega) h2]
    simp (disch := (first | (simp only [ne_eq,Nat.reduceEqDiff,not_false_eq_true,Nat.reduceLT]; done) | omega | (simp only [yz] <;> omega) | fail)) only [↓yp,yq0,yq1,yq2,yq3,yq4,yl,ys0,ys1,Nat.reduceAdd,Nat.reduceMul,Nat.reduceSub,Nat.reduceBEq,Nat.reduceEqDiff,Nat.reduceLT,Nat.reduceLeDiff,reduceIte,Int.reduceAdd,Int.reduceSub,Int.reduceMul,Int.reduceLT,Int.reduceLE,Int.reduceEq,Int.reduceToNat,Int.reduceNeg,zed,zee,zfr,zhw,ysu,yrg,ysv,g15,g5,hE1,hE2,hv]
/-- A lighter cart can all that a heavier one can. -/
theorem lighter {ld ld' : Int} (g : Good C l ld) (g' : Good C l ld') (hld : ld ≤ ld') (h0 : 0 ≤ ld) (hup : ∀ s ∈ l, 0 ≤ s.up) : NoBetter l l w w ld ld' := by
  intro i s b hi hm
  have hmem := List.mem_of_getElem? hi
  have hu := hup s hmem
  refine ⟨i, s, hi, rfl, rfl, ?_, fun m h0' h => ?_⟩
  · unfold mayL at hm ⊢
    simp only [Bool.and_eq_true,decide_eq_true_eq] at hm ⊢
    exact ⟨hm.1, hm.2.1, by omega⟩
  · have ht : takes s b ld ≤ takes s b ld' := by
      unfold takes
      cases b
      · simp only [cond_false]
        have := Int.mul_le_mul_of_nonneg_left hld hu
        omega
      · simp
    have ht0 := (g.fit hmem).takes b
    refine starts_less ht ?_ h h0' (by omega)
    by_cases e : s.hi < s.lo
    · exact .inl e
    · exact .inr ⟨by omega, by omega, by omega⟩
theorem fits_down {fr to m bm : Int} {ld ld' : Nat} (hC : 1 ≤ C ∧ C ≤ 8) (hl : l.length ≤ 16) (ho : ∀ s ∈ l, OkS C s) (hfr : 0 ≤ fr ∧ fr < C) (hto : 0 ≤ to ∧ to < C) (hm : 0 ≤ m ∧ m ≤ 240) (h : ld ≤ ld') (h9 : ld' ≤ 9) (hf : fits C l w fr to m bm ld' = true) : fits C l w fr to m bm ld = true := by
  have hck : chk C l = 0 := chk_of hC hl ho
  have g : Good C l (ld : Int) := good_of hck (off_iff.2 (by omega))
  have g' : Good C l (ld' : Int) := good_of hck (off_iff.2 (by omega))
  unfold fits at hf ⊢
  simp only [Bool.and_eq_true,Bool.not_eq_true',decide_eq_false_iff_not,decide_eq_true_eq] at hf ⊢
  have hup : ∀ s ∈ l, 0 ≤ s.up := fun s hs => by
    have h2 := (ho s hs).2
    unfold bad2 at h2
    simp only [Bool.or_eq_false_iff] at h2
    exact (off_iff.1 h2.2.1).1
  have hb := (earT_is (w := w) g hfr hm).le _ to hto.1 (Can.better (lighter (w := w) g g' (by omega) (by omega) hup) g' hm.1 hm.2 ((earT_is (w := w) g' hfr hm).can to hto.1 hf.1))
  exact ⟨hb.1, by omega⟩
theorem fits_by {fr to m bm bm' : Int} {ld : Nat} (h : bm ≤ bm') (hf : fits C l w fr to m bm ld = true) : fits C l w fr to m bm' ld = true := by
  unfold fits at hf ⊢
  simp only [Bool.and_eq_true,Bool.not_eq_true',decide_eq_false_iff_not,decide_eq_true_eq] at hf ⊢
  exact ⟨hf.1, by omega⟩
end
end Go.Am
/- The law StreetLoaded. -/
namespace Go.Am
open Go.Proofs
variable {T : Tab} {P : Program} {N L : Nat} {H : AHeap} {Q : Bool → Value → AHeap → Prop}
section
variable {a : Option Addr} {cap : Nat} {bs : List Int}
theorem awake_l {ex : Exec} : acall tabA ex 18 [] H = some (true, .bool true, H, H.size) := nr rfl
theorem nEE {b : Bool} {x y : Operand} : binV tabA Try.prog .neq 4 x y (.bool b) (.bool b) = some (.bool false) := by
  cases b
  · exact nFF
  · exact nTT
set_option maxHeartbeats 4000000 in
set_option maxRecDepth 10000 in
theorem c14 {x y : Int} (hb : Bts H a bs) (hx : 0 ≤ x ∧ x < 256) (hy : 0 ≤ y ∧ y < 256) :
    acall tabA (aexec tabA Try.prog (N + 8000)) 14 [.slice a bs.length cap, .int .u8 x, .int .u8 y] H = some (true, .bool true, H, H.size) := by
  refine call_quiet (k := 140) (rs := [.tmp 6]) rfl fn_14 rfl rfl rfl ?_ rfl
  refine W_seqI (fun e' H'' => gt 140 e' 0 = .slice a bs.length cap ∧ gt 140 e' 1 = .int .u8 x ∧ gt 140 e' 2 = .int .u8 y ∧ H = H'') ?_ ?_
  · simp (disch := (first | (simp only [ne_eq,Nat.reduceEqDiff,not_false_eq_true,Nat.reduceLT]; done) | omega | (simp only [yz] <;> omega) | fail)) only [↓yp,yq0,yq1,yq2,yq3,yq4,yl,ys0,ys1,Nat.reduceAdd,Nat.reduceMul,Nat.reduceSub,Nat.reduceBEq,Nat.reduceEqDiff,Nat.reduceLT,Nat.reduceLeDiff,reduceIte,Int.reduceAdd,Int.reduceSub,Int.reduceMul,Int.reduceLT,Int.reduceLE,Int.reduceEq,Int.reduceToNat,Int.reduceNeg,zed,zee,zfr,zhw,ysu,yrg,ysv]
    refine ⟨?_, ?_, ?_, rfl⟩
    · simp (disch := (first | (simp only [ne_eq,Nat.reduceEqDiff,not_false_eq_true,Nat.reduceLT]; done) | omega | (simp only [yz] <;> omega) | fail)) only [yg,Nat.reduceAdd,Nat.reduceEqDiff,Nat.reduceLT]
    · simp (disch := (first | (simp only [ne_eq,Nat.reduceEqDiff,not_false_eq_true,Nat.reduceLT]; done) | omega | (simp only [yz] <;> omega) | fail)) only [yg,Nat.reduceAdd,Nat.reduceEqDiff,Nat.reduceLT]
    · simp (disch := (first | (simp only [ne_eq,Nat.reduceEqDiff,not_false_eq_true,Nat.reduceLT]; done) | omega | (simp only [yz] <;> omega) | fail)) only [yg,Nat.reduceAdd,Nat.reduceEqDiff,Nat.reduceLT]
  rintro e1 H1 ⟨g0, g1, g2, rfl⟩
  refine W_seqI (fun e' H'' => gt 140 e' 1 = .int .u8 x ∧ gt 140 e' 2 = .int .u8 y ∧ gt 140 e' 7 = .pointer (some ⟨H.size, 0, none⟩) ∧ Fr H H'' ∧ H''.size = H.size + 1 ∧ Chu H'' H.size a bs cap) ?_ ?_
  · simp (disch := (first | (simp only [ne_eq,Nat.reduceEqDiff,not_false_eq_true,Nat.reduceLT]; done) | omega | (simp only [yz] <;> omega) | fail)) only [↓yp,yq0,yq1,yq2,yq3,yq4,yl,ys0,ys1,Nat.reduceAdd,Nat.reduceMul,Nat.reduceSub,Nat.reduceBEq,Nat.reduceEqDiff,Nat.reduceLT,Nat.reduceLeDiff,reduceIte,Int.reduceAdd,Int.reduceSub,Int.reduceMul,Int.reduceLT,Int.reduceLE,Int.reduceEq,Int.reduceToNat,Int.reduceNeg,zed,zee,zfr,zhw,ysu,yrg,ysv,g0]
    refine c48 hb (Nat.le_refl _) (by omega) ?_
    intro H2 fr1 hs1 hc1
    simp (disch := (first | (simp only [ne_eq,Nat.reduceEqDiff,not_false_eq_true,Nat.reduceLT]; done) | omega | (simp only [yz] <;> omega) | fail)) only [↓yp,yq0,yq1,yq2,yq3,yq4,yl,ys0,ys1,Nat.reduceAdd,Nat.reduceMul,Nat.reduceSub,Nat.reduceBEq,Nat.reduceEqDiff,Nat.reduceLT,Nat.reduceLeDiff,reduceIte,Int.reduceAdd,Int.reduceSub,Int.reduceMul,Int.reduceLT,Int.reduceLE,Int.reduceEq,Int.reduceToNat,Int.reduceNeg,zed,zee,zfr,zhw,ysu,yrg,ysv]
    refine ⟨?_, ?_, ?_, fr1, hs1, hc1⟩
    · simp (disch := (first | (simp only [ne_eq,Nat.reduceEqDiff,not_false_eq_true,Nat.reduceLT]; done) | omega | (simp only [yz] <;> omega) | fail)) only [yg,Nat.reduceAdd,Nat.reduceEqDiff,Nat.reduceLT,g1]
    · simp (disch := (first | (simp only [ne_eq,Nat.reduceEqDiff,not_false_eq_true,Nat.reduceLT]; done) | omega | (simp only [yz] <;> omega) | fail)) only [yg,Nat.reduceAdd,Nat.reduceEqDiff,Nat.reduceLT,g2]
    · simp (disch := (first | (simp only [ne_eq,Nat.reduceEqDiff,not_false_eq_true,Nat.reduceLT]; done) | omega | (simp only [yz] <;> omega) | fail)) only [yg,Nat.reduceAdd,Nat.reduceEqDiff,Nat.reduceLT]
  clear g0 g1 g2
  rintro e2 H1 ⟨g1, g2, g7, fr1, hs1, hc1⟩
  refine W_seqI (fun e' H'' => ∃ a' cap' C l i8, gt 140 e' 1 = .int .u8 x ∧ gt 140 e' 2 = .int .u8 y ∧ gt 140 e' 7 = .pointer (some ⟨H.size, 0, none⟩) ∧ gt 140 e' 8 = .pointer (some ⟨i8, 0, none⟩) ∧ (2 ≤ C ∧ C ≤ 8) ∧ (l.length : Int) ≤ 14 ∧ (∀ s ∈ l, OkS C s) ∧ (a' = none → cap' = 0) ∧ Sl H'' a' l ∧ H''.get i8 = .rw [.int .i64 C, .slice a' l.length cap'] 24 false [] ∧ H.size < i8 ∧ i8 < H''.size ∧ Fr H H'' ∧ Chu H'' H.size a bs cap) ?_ ?_
  · simp (disch := (first | (simp only [ne_eq,Nat.reduceEqDiff,not_false_eq_true,Nat.reduceLT]; done) | omega | (simp only [yz] <;> omega) | fail)) only [↓yp,yq0,yq1,yq2,yq3,yq4,yl,ys0,ys1,Nat.reduceAdd,Nat.reduceMul,Nat.reduceSub,Nat.reduceBEq,Nat.reduceEqDiff,Nat.reduceLT,Nat.reduceLeDiff,reduceIte,Int.reduceAdd,Int.reduceSub,Int.reduceMul,Int.reduceLT,Int.reduceLE,Int.reduceEq,Int.reduceToNat,Int.reduceNeg,zed,zee,zfr,zhw,ysu,yrg,ysv,g7]
    refine c49 hc1 (by omega) (by omega) (Nat.le_refl _) (by omega) ?_
    intro f2 a' cap' C l H2 hC1 hC2 hl ho hn hsl hc2 hx2
    have sz2 := hx2.size
    simp (disch := (first | (simp only [ne_eq,Nat.reduceEqDiff,not_false_eq_true,Nat.reduceLT]; done) | omega | (simp only [yz] <;> omega) | fail)) only [↓yp,yq0,yq1,yq2,yq3,yq4,yl,ys0,ys1,Nat.reduceAdd,Nat.reduceMul,Nat.reduceSub,Nat.reduceBEq,Nat.reduceEqDiff,Nat.reduceLT,Nat.reduceLeDiff,reduceIte,Int.reduceAdd,Int.reduceSub,Int.reduceMul,Int.reduceLT,Int.reduceLE,Int.reduceEq,Int.reduceToNat,Int.reduceNeg,zed,zee,zfr,zhw,ysu,yrg,ysv]
    refine ⟨a', cap', C, l, H2.size, ?_, ?_, ?_, ?_, by omega, by omega, ho, hn, Sl.put (hsl.fr (Fr.alloc _ _)) (c := [.int .i64 0, .slice none 0 0]) (by rw [zda rfl]; rfl) (by simp), zdc (by (first | omega | (simp only [yz] <;> omega))), by omega, by (first | omega | (simp only [yz] <;> omega)), Fr.put (Fr.allocd (hx2.above fr1 (Nat.le_refl _)) _) (by omega) _, (hc2.fr (Fr.alloc _ _)).other (by omega) (fun c e => by rw [zda rfl] at e; cases e)⟩
    · simp (disch := (first | (simp only [ne_eq,Nat.reduceEqDiff,not_false_eq_true,Nat.reduceLT]; done) | omega | (simp only [yz] <;> omega) | fail)) only [yg,Nat.reduceAdd,Nat.reduceEqDiff,Nat.reduceLT,g1]
    · simp (disch := (first | (simp only [ne_eq,Nat.reduceEqDiff,not_false_eq_true,Nat.reduceLT]; done) | omega | (simp only [yz] <;> omega) | fail)) only [yg,Nat.reduceAdd,Nat.reduceEqDiff,Nat.reduceLT,g2]
    · simp (disch := (first | (simp only [ne_eq,Nat.reduceEqDiff,not_false_eq_true,Nat.reduceLT]; done) | omega | (simp only [yz] <;> omega) | fail)) only [yg,Nat.reduceAdd,Nat.reduceEqDiff,Nat.reduceLT,g7]
    · simp (disch := (first | (simp only [ne_eq,Nat.reduceEqDiff,not_false_eq_true,Nat.reduceLT]; done) | omega | (simp only [yz] <;> omega) | fail)) only [yg,Nat.reduceAdd,Nat.reduceEqDiff,Nat.reduceLT]
  clear g1 g2 g7 fr1 hs1 hc1
  rintro e3 H2 ⟨a', cap', C, l, i8, g1, g2, g7, g8, hC28, hl, ho, hn, hsl, b8, k8, l8, fr2, hc2⟩
  refine W_seqI (fun e' H'' => ∃ w ld i9, LP 140 H C w ld l i8 i9 a' cap' e' H'' ∧ gt 140 e' 1 = .int .u8 x ∧ gt 140 e' 2 = .int .u8 y ∧ gt 140 e' 7 = .pointer (some ⟨H.size, 0, none⟩) ∧ (1 ≤ w ∧ w ≤ 5) ∧ (0 ≤ ld ∧ ld ≤ 5) ∧ H.size < i9 ∧ Chu H'' H.size a bs cap) ?_ ?_
  · have sz2 := fr2.size
    simp (disch := (first | (simp only [ne_eq,Nat.reduceEqDiff,not_false_eq_true,Nat.reduceLT]; done) | omega | (simp only [yz] <;> omega) | fail)) only [↓yp,yq0,yq1,yq2,yq3,yq4,yl,ys0,ys1,Nat.reduceAdd,Nat.reduceMul,Nat.reduceSub,Nat.reduceBEq,Nat.reduceEqDiff,Nat.reduceLT,Nat.reduceLeDiff,reduceIte,Int.reduceAdd,Int.reduceSub,Int.reduceMul,Int.reduceLT,Int.reduceLE,Int.reduceEq,Int.reduceToNat,Int.reduceNeg,zed,zee,zfr,zhw,ysu,yrg,ysv,g7]
    refine c50 hc2 (Nat.le_refl _) (by omega) ?_
    intro f3 w ld H3 hw1 hw2 hd1 hd2 hc3 hx3
    have sz3 := hx3.size
    simp (disch := (first | (simp only [ne_eq,Nat.reduceEqDiff,not_false_eq_true,Nat.reduceLT]; done) | omega | (simp only [yz] <;> omega) | fail)) only [↓yp,yq0,yq1,yq2,yq3,yq4,yl,ys0,ys1,Nat.reduceAdd,Nat.reduceMul,Nat.reduceSub,Nat.reduceBEq,Nat.reduceEqDiff,Nat.reduceLT,Nat.reduceLeDiff,reduceIte,Int.reduceAdd,Int.reduceSub,Int.reduceMul,Int.reduceLT,Int.reduceLE,Int.reduceEq,Int.reduceToNat,Int.reduceNeg,zed,zee,zfr,zhw,ysu,yrg,ysv]
    refine ⟨w, ld, H3.size, ⟨?_, ?_, Fr.put (Fr.allocd (hx3.above fr2 (Nat.le_refl _)) _) (by omega) _, by (first | omega | (simp only [yz] <;> omega)), by (first | omega | (simp only [yz] <;> omega)), ?_, zdc (by (first | omega | (simp only [yz] <;> omega))), Sl.put ((hsl.frx hc2 hx3).fr (Fr.alloc _ _)) (c := [.int .i64 0, .int .i64 0]) (by rw [zda rfl]; rfl) (by simp)⟩, ?_, ?_, ?_, by omega, by omega, by omega, (hc3.fr (Fr.alloc _ _)).other (by omega) (fun c e => by rw [zda rfl] at e; cases e)⟩
    · simp (disch := (first | (simp only [ne_eq,Nat.reduceEqDiff,not_false_eq_true,Nat.reduceLT]; done) | omega | (simp only [yz] <;> omega) | fail)) only [yg,Nat.reduceAdd,Nat.reduceEqDiff,Nat.reduceLT,g8]
    · simp (disch := (first | (simp only [ne_eq,Nat.reduceEqDiff,not_false_eq_true,Nat.reduceLT]; done) | omega | (simp only [yz] <;> omega) | fail)) only [yg,Nat.reduceAdd,Nat.reduceEqDiff,Nat.reduceLT]
    · rw [zdd (by omega), zdb (by omega), hx3.same _ l8 (by omega)]; exact b8
    · simp (disch := (first | (simp only [ne_eq,Nat.reduceEqDiff,not_false_eq_true,Nat.reduceLT]; done) | omega | (simp only [yz] <;> omega) | fail)) only [yg,Nat.reduceAdd,Nat.reduceEqDiff,Nat.reduceLT,g1]
    · simp (disch := (first | (simp only [ne_eq,Nat.reduceEqDiff,not_false_eq_true,Nat.reduceLT]; done) | omega | (simp only [yz] <;> omega) | fail)) only [yg,Nat.reduceAdd,Nat.reduceEqDiff,Nat.reduceLT,g2]
    · simp (disch := (first | (simp only [ne_eq,Nat.reduceEqDiff,not_false_eq_true,Nat.reduceLT]; done) | omega | (simp only [yz] <;> omega) | fail)) only [yg,Nat.reduceAdd,Nat.reduceEqDiff,Nat.reduceLT,g7]
  have hk8 : H.size < i8 := k8
  clear g1 g2 g7 g8 hsl b8 l8 fr2 hc2 k8
  rintro e H' ⟨w, ld, i9, I, g1, g2, g7, ⟨hw1, hw2⟩, ⟨hd1, hd2⟩, hk9, hc⟩
  have hC : 1 ≤ C ∧ C ≤ 8 := by omega
  obtain ⟨to, hto⟩ : ∃ to, x.tmod C = to := ⟨_, rfl⟩
  have hto2 : 0 ≤ to ∧ to < C := by
    rw [← hto]
    exact ⟨Int.tmod_nonneg _ hx.1, Int.tmod_lt_of_pos _ (by omega)⟩
  have hlt := hc.lt
  have sz := I.fr.size
  refine W_seqI (fun e' H'' => ∃ fr m, LP 140 H C w ld l i8 i9 a' cap' e' H'' ∧ gt 140 e' 2 = .int .u8 y ∧ (0 ≤ fr ∧ fr < C) ∧ (0 ≤ m ∧ m ≤ 49) ∧ gt 140 e' 10 = .int .i64 fr ∧ gt 140 e' 11 = .int .i64 to ∧ gt 140 e' 12 = .int .i64 m) ?_ ?_
  · have l8 := I.l8
    have g8 := I.g8
    have b8 := I.b8
    obtain ⟨fl, v, H1, mm, hres, hLm, fr, rfl, ⟨hf1, hf2⟩, hff, hc1, hx1, hs1⟩ := resK_elim (Q := fun f v H'' => ∃ d : Int, v = .int .i64 d ∧ Pulled C d ∧ (f = true → H'' = H') ∧ Chu H'' H.size a bs cap ∧ FrX H.size H' H'' ∧ H''.size = H'.size) (c51 (M := N + 7994) (n := C) hc (Nat.le_refl _) (by omega) (by omega) fun f v H'' h0 h1 h2 h3 h4 => ⟨v, rfl, h1, h0, h2, h3, h4⟩)
    obtain ⟨fl2, v2, H2, mm2, hres2, hLm2, m, rfl, ⟨hm1, hm2⟩, hff2, hc2, hx2, hs2⟩ := resK_elim (Q := fun f v H'' => ∃ d : Int, v = .int .i64 d ∧ Pulled 50 d ∧ (f = true → H'' = H1) ∧ Chu H'' H.size a bs cap ∧ FrX H.size H1 H'' ∧ H''.size = H1.size) (c51 (M := N + 7994) (n := 50) hc1 (Nat.le_refl _) (by omega) (by omega) fun f v H'' h0 h1 h2 h3 h4 => ⟨v, rfl, h1, h0, h2, h3, h4⟩)
    have b81 : H1.get i8 = .rw [.int .i64 C, .slice a' l.length cap'] 24 false [] := by
      rw [hx1.same _ l8 (by omega)]; exact b8
    have b82 : H2.get i8 = .rw [.int .i64 C, .slice a' l.length cap'] 24 false [] := by
      rw [hx2.same _ (by omega) (by omega)]; exact b81
    have w1 : w64 x = x := w64_of (by omega)
    have hrem := fun (p q : Operand) (z : Int) => i64_rem (T := tabA) (P := Try.prog) (ty := 3) (x := p) (y := q) (a := z) (b := C) (by omega)
    have I2 : ∀ e', Keep 140 [8, 9] e e' → LP 140 H C w ld l i8 i9 a' cap' e' H2 := fun e' hke => I.frx (by omega) (by omega) (Nat.le_refl _) hc (hx1.trans hx2) hke
    cases fl
    · cases fl2
      · refine W_drawR (pl := []) [3, 10] [] (planB_of rfl (by decide) (by decide) rfl) (by kernel_rfl) (by kernel_rfl) (by kernel_rfl) (by (first | omega | (simp only [yz] <;> omega))) ?_
        simp (disch := (first | (simp only [ne_eq,Nat.reduceEqDiff,not_false_eq_true,Nat.reduceLT]; done) | omega | (simp only [yz] <;> omega) | fail)) only [↓yp,yq0,yq1,yq2,yq3,yq4,yl,ys0,ys1,Nat.reduceAdd,Nat.reduceMul,Nat.reduceSub,Nat.reduceBEq,Nat.reduceEqDiff,Nat.reduceLT,Nat.reduceLeDiff,reduceIte,Int.reduceAdd,Int.reduceSub,Int.reduceMul,Int.reduceLT,Int.reduceLE,Int.reduceEq,Int.reduceToNat,Int.reduceNeg,zed,zee,zfr,zhw,ysu,yrg,ysv,g1,g2,g7,g8,b8,b81,b82,hres,hres2,A_conv,cv_5_3,w1,hrem,hto]
        refine ⟨fr, m, I2 _ (by (with_reducible (repeat (first | refine Keep.put ?_ (by decide) | refine Keep.none ?_ | assumption | exact Keep.refl _ _ _)))), ?_, ⟨hf1, by omega⟩, by omega, ?_, ?_, ?_⟩
        · simp (disch := (first | (simp only [ne_eq,Nat.reduceEqDiff,not_false_eq_true,Nat.reduceLT]; done) | omega | (simp only [yz] <;> omega) | fail)) only [yg,Nat.reduceAdd,Nat.reduceEqDiff,Nat.reduceLT,g2]
        · simp (disch := (first | (simp only [ne_eq,Nat.reduceEqDiff,not_false_eq_true,Nat.reduceLT]; done) | omega | (simp only [yz] <;> omega) | fail)) only [yg,Nat.reduceAdd,Nat.reduceEqDiff,Nat.reduceLT]
        · simp (disch := (first | (simp only [ne_eq,Nat.reduceEqDiff,not_false_eq_true,Nat.reduceLT]; done) | omega | (simp only [yz] <;> omega) | fail)) only [yg,Nat.reduceAdd,Nat.reduceEqDiff,Nat.reduceLT]
        · simp (disch := (first | (simp only [ne_eq,Nat.reduceEqDiff,not_false_eq_true,Nat.reduceLT]; done) | omega | (simp only [yz] <;> omega) | fail)) only [yg,Nat.reduceAdd,Nat.reduceEqDiff,Nat.reduceLT]
      · obtain rfl := hff2 rfl
        refine W_drawR (pl := []) [3] [(10, 0)] (planB_of rfl (by decide) (by decide) rfl) (by kernel_rfl) (by kernel_rfl) (by kernel_rfl) (by (first | omega | (simp only [yz] <;> omega))) ?_
        simp (disch := (first | (simp only [ne_eq,Nat.reduceEqDiff,not_false_eq_true,Nat.reduceLT]; done) | omega | (simp only [yz] <;> omega) | fail)) only [↓yp,yq0,yq1,yq2,yq3,yq4,yl,ys0,ys1,Nat.reduceAdd,Nat.reduceMul,Nat.reduceSub,Nat.reduceBEq,Nat.reduceEqDiff,Nat.reduceLT,Nat.reduceLeDiff,reduceIte,Int.reduceAdd,Int.reduceSub,Int.reduceMul,Int.reduceLT,Int.reduceLE,Int.reduceEq,Int.reduceToNat,Int.reduceNeg,zed,zee,zfr,zhw,ysu,yrg,ysv,g1,g2,g7,g8,b8,b81,hres,hres2,A_conv,cv_5_3,w1,hrem,hto]
        refine ⟨fr, m, I2 _ (by (with_reducible (repeat (first | refine Keep.put ?_ (by decide) | refine Keep.none ?_ | assumption | exact Keep.refl _ _ _)))), ?_, ⟨hf1, by omega⟩, by omega, ?_, ?_, ?_⟩
        · simp (disch := (first | (simp only [ne_eq,Nat.reduceEqDiff,not_false_eq_true,Nat.reduceLT]; done) | omega | (simp only [yz] <;> omega) | fail)) only [yg,Nat.reduceAdd,Nat.reduceEqDiff,Nat.reduceLT,g2]
        · simp (disch := (first | (simp only [ne_eq,Nat.reduceEqDiff,not_false_eq_true,Nat.reduceLT]; done) | omega | (simp only [yz] <;> omega) | fail)) only [yg,Nat.reduceAdd,Nat.reduceEqDiff,Nat.reduceLT]
        · simp (disch := (first | (simp only [ne_eq,Nat.reduceEqDiff,not_false_eq_true,Nat.reduceLT]; done) | omega | (simp only [yz] <;> omega) | fail)) only [yg,Nat.reduceAdd,Nat.reduceEqDiff,Nat.reduceLT]
        · simp (disch := (first | (simp only [ne_eq,Nat.reduceEqDiff,not_false_eq_true,Nat.reduceLT]; done) | omega | (simp only [yz] <;> omega) | fail)) only [yg,Nat.reduceAdd,Nat.reduceEqDiff,Nat.reduceLT]
    · obtain rfl := hff rfl
      cases fl2
      · refine W_drawR (pl := []) [10] [(3, 1)] (planB_of rfl (by decide) (by decide) rfl) (by kernel_rfl) (by kernel_rfl) (by kernel_rfl) (by (first | omega | (simp only [yz] <;> omega))) ?_
        simp (disch := (first | (simp only [ne_eq,Nat.reduceEqDiff,not_false_eq_true,Nat.reduceLT]; done) | omega | (simp only [yz] <;> omega) | fail)) only [↓yp,yq0,yq1,yq2,yq3,yq4,yl,ys0,ys1,Nat.reduceAdd,Nat.reduceMul,Nat.reduceSub,Nat.reduceBEq,Nat.reduceEqDiff,Nat.reduceLT,Nat.reduceLeDiff,reduceIte,Int.reduceAdd,Int.reduceSub,Int.reduceMul,Int.reduceLT,Int.reduceLE,Int.reduceEq,Int.reduceToNat,Int.reduceNeg,zed,zee,zfr,zhw,ysu,yrg,ysv,g1,g2,g7,g8,b8,b82,hres,hres2,A_conv,cv_5_3,w1,hrem,hto]
        refine ⟨fr, m, I2 _ (by (with_reducible (repeat (first | refine Keep.put ?_ (by decide) | refine Keep.none ?_ | assumption | exact Keep.refl _ _ _)))), ?_, ⟨hf1, by omega⟩, by omega, ?_, ?_, ?_⟩
        · simp (disch := (first | (simp only [ne_eq,Nat.reduceEqDiff,not_false_eq_true,Nat.reduceLT]; done) | omega | (simp only [yz] <;> omega) | fail)) only [yg,Nat.reduceAdd,Nat.reduceEqDiff,Nat.reduceLT,g2]
        · simp (disch := (first | (simp only [ne_eq,Nat.reduceEqDiff,not_false_eq_true,Nat.reduceLT]; done) | omega | (simp only [yz] <;> omega) | fail)) only [yg,Nat.reduceAdd,Nat.reduceEqDiff,Nat.reduceLT]
        · simp (disch := (first | (simp only [ne_eq,Nat.reduceEqDiff,not_false_eq_true,Nat.reduceLT]; done) | omega | (simp only [yz] <;> omega) | fail)) only [yg,Nat.reduceAdd,Nat.reduceEqDiff,Nat.reduceLT]
        · simp (disch := (first | (simp only [ne_eq,Nat.reduceEqDiff,not_false_eq_true,Nat.reduceLT]; done) | omega | (simp only [yz] <;> omega) | fail)) only [yg,Nat.reduceAdd,Nat.reduceEqDiff,Nat.reduceLT]
      · obtain rfl := hff2 rfl
        refine W_drawR (pl := []) [] [] (planB_of rfl (by decide) (by decide) rfl) (by kernel_rfl) (by kernel_rfl) (by kernel_rfl) (by (first | omega | (simp only [yz] <;> omega))) ?_
        simp (disch := (first | (simp only [ne_eq,Nat.reduceEqDiff,not_false_eq_true,Nat.reduceLT]; done) | omega | (simp only [yz] <;> omega) | fail)) only [↓yp,yq0,yq1,yq2,yq3,yq4,yl,ys0,ys1,Nat.reduceAdd,Nat.reduceMul,Nat.reduceSub,Nat.reduceBEq,Nat.reduceEqDiff,Nat.reduceLT,Nat.reduceLeDiff,reduceIte,Int.reduceAdd,Int.reduceSub,Int.reduceMul,Int.reduceLT,Int.reduceLE,Int.reduceEq,Int.reduceToNat,Int.reduceNeg,zed,zee,zfr,zhw,ysu,yrg,ysv,g1,g2,g7,g8,b8,hres,hres2,A_conv,cv_5_3,w1,hrem,hto]
        refine ⟨fr, m, I2 _ (by (with_reducible (repeat (first | refine Keep.put ?_ (by decide) | refine Keep.none ?_ | assumption | exact Keep.refl _ _ _)))), ?_, ⟨hf1, by omega⟩, by omega, ?_, ?_, ?_⟩
        · simp (disch := (first | (simp only [ne_eq,Nat.reduceEqDiff,not_false_eq_true,Nat.reduceLT]; done) | omega | (simp only [yz] <;> omega) | fail)) only [yg,Nat.reduceAdd,Nat.reduceEqDiff,Nat.reduceLT,g2]
        · simp (disch := (first | (simp only [ne_eq,Nat.reduceEqDiff,not_false_eq_true,Nat.reduceLT]; done) | omega | (simp only [yz] <;> omega) | fail)) only [yg,Nat.reduceAdd,Nat.reduceEqDiff,Nat.reduceLT]
        · simp (disch := (first | (simp only [ne_eq,Nat.reduceEqDiff,not_false_eq_true,Nat.reduceLT]; done) | omega | (simp only [yz] <;> omega) | fail)) only [yg,Nat.reduceAdd,Nat.reduceEqDiff,Nat.reduceLT]
        · simp (disch := (first | (simp only [ne_eq,Nat.reduceEqDiff,not_false_eq_true,Nat.reduceLT]; done) | omega | (simp only [yz] <;> omega) | fail)) only [yg,Nat.reduceAdd,Nat.reduceEqDiff,Nat.reduceLT]
  clear sz I g7 g1 g2 hc hlt
  rintro e H' ⟨fr, m, I, g2, hfr, hm, g10, g11, g12⟩
  have sz := I.fr.size
  obtain ⟨q, hq⟩ : ∃ q, y.tmod 120 = q := ⟨_, rfl⟩
  have hq2 : 0 ≤ q ∧ q < 120 := by
    rw [← hq]
    exact ⟨Int.tmod_nonneg _ hy.1, Int.tmod_lt_of_pos _ (by omega)⟩
  obtain ⟨bm, hbm⟩ : ∃ bm, (if m + q < 240 then m + q else 240) = bm := ⟨_, rfl⟩
  have hbm2 : m ≤ bm ∧ bm ≤ 240 := by rw [← hbm]; split <;> omega
  refine W_seqI (fun e' H'' => LP 140 H C w ld l i8 i9 a' cap' e' H'' ∧ gt 140 e' 10 = .int .i64 fr ∧ gt 140 e' 11 = .int .i64 to ∧ gt 140 e' 12 = .int .i64 m ∧ gt 140 e' 13 = .int .i64 bm) ?_ ?_
  · have w1 : w64 y = y := w64_of (by omega)
    have w2 : w64 (m + q) = m + q := w64_of (by omega)
    have hrem := fun (p q : Operand) (z : Int) => i64_rem (T := tabA) (P := Try.prog) (ty := 3) (x := p) (y := q) (a := z) (b := 120) (by omega)
    simp (disch := (first | (simp only [ne_eq,Nat.reduceEqDiff,not_false_eq_true,Nat.reduceLT]; done) | omega | (simp only [yz] <;> omega) | fail)) only [↓yp,yq0,yq1,yq2,yq3,yq4,yl,ys0,ys1,Nat.reduceAdd,Nat.reduceMul,Nat.reduceSub,Nat.reduceBEq,Nat.reduceEqDiff,Nat.reduceLT,Nat.reduceLeDiff,reduceIte,Int.reduceAdd,Int.reduceSub,Int.reduceMul,Int.reduceLT,Int.reduceLE,Int.reduceEq,Int.reduceToNat,Int.reduceNeg,zed,zee,zfr,zhw,ysu,yrg,ysv,g2,g12,A_conv,cv_5_3,A_min,mm_min,w1,w2,hrem,hq,hbm]
    refine ⟨I.next (Fr.refl _) (by (with_reducible (repeat (first | refine Keep.put ?_ (by decide) | refine Keep.none ?_ | assumption | exact Keep.refl _ _ _)))), ?_, ?_, ?_, ?_⟩
    · simp (disch := (first | (simp only [ne_eq,Nat.reduceEqDiff,not_false_eq_true,Nat.reduceLT]; done) | omega | (simp only [yz] <;> omega) | fail)) only [yg,Nat.reduceAdd,Nat.reduceEqDiff,Nat.reduceLT,g10]
    · simp (disch := (first | (simp only [ne_eq,Nat.reduceEqDiff,not_false_eq_true,Nat.reduceLT]; done) | omega | (simp only [yz] <;> omega) | fail)) only [yg,Nat.reduceAdd,Nat.reduceEqDiff,Nat.reduceLT,g11]
    · simp (disch := (first | (simp only [ne_eq,Nat.reduceEqDiff,not_false_eq_true,Nat.reduceLT]; done) | omega | (simp only [yz] <;> omega) | fail)) only [yg,Nat.reduceAdd,Nat.reduceEqDiff,Nat.reduceLT,g12]
    · simp (disch := (first | (simp only [ne_eq,Nat.reduceEqDiff,not_false_eq_true,Nat.reduceLT]; done) | omega | (simp only [yz] <;> omega) | fail)) only [yg,Nat.reduceAdd,Nat.reduceEqDiff,Nat.reduceLT]
  clear sz I g2 g10 g11 g12
  rintro e H' ⟨I, g10, g11, g12, g13⟩
  have sz := I.fr.size
  have hl16 : l.length ≤ 16 := by omega
  have az := fun (ld : Int) (hd : 0 ≤ ld ∧ ld ≤ 9) (cs ms : List Int) h1 h3 => asked_zero (cs := cs) (ms := ms) (ld := ld) (w := w) hC hl16 ho (by omega) hd h1 h3
  obtain ⟨bm', hbm'⟩ : ∃ bm', (if bm + 11 < 240 then bm + 11 else 240) = bm' := ⟨_, rfl⟩
  have hbm3 : bm ≤ bm' ∧ bm' ≤ 240 := by rw [← hbm']; split <;> omega
  obtain ⟨s1, hs1⟩ : ∃ s, heavV C l w fr to m bm = s := ⟨_, rfl⟩
  obtain ⟨s2, hs2⟩ : ∃ s, heavV C l w fr to m bm' = s := ⟨_, rfl⟩
  refine W_seqI (fun e' H'' => LP 140 H C w ld l i8 i9 a' cap' e' H'' ∧ gt 140 e' 10 = .int .i64 fr ∧ gt 140 e' 11 = .int .i64 to ∧ gt 140 e' 12 = .int .i64 m ∧ gt 140 e' 13 = .int .i64 bm ∧ gt 140 e' 14 = .int .i64 s1.1 ∧ gt 140 e' 15 = .int .i64 s1.2) ?_ ?_
  · have g8 := I.g8
    have g9 := I.g9
    have b8 := I.b8
    have b9 := I.b9
    simp (disch := (first | (simp only [ne_eq,Nat.reduceEqDiff,not_false_eq_true,Nat.reduceLT]; done) | omega | (simp only [yz] <;> omega) | fail)) only [↓yp,yq0,yq1,yq2,yq3,yq4,yl,ys0,ys1,Nat.reduceAdd,Nat.reduceMul,Nat.reduceSub,Nat.reduceBEq,Nat.reduceEqDiff,Nat.reduceLT,Nat.reduceLeDiff,reduceIte,Int.reduceAdd,Int.reduceSub,Int.reduceMul,Int.reduceLT,Int.reduceLE,Int.reduceEq,Int.reduceToNat,Int.reduceNeg,zed,zee,zfr,zhw,ysu,yrg,ysv,g8,g9,b8,b9,g10,g11,g12,g13]
    rw [c44 I.sl hl16 hC ho (by omega) hfr hto2 (by omega) (by omega), hs1]
    simp (disch := (first | (simp only [ne_eq,Nat.reduceEqDiff,not_false_eq_true,Nat.reduceLT]; done) | omega | (simp only [yz] <;> omega) | fail)) only [↓yp,yq0,yq1,yq2,yq3,yq4,yl,ys0,ys1,Nat.reduceAdd,Nat.reduceMul,Nat.reduceSub,Nat.reduceBEq,Nat.reduceEqDiff,Nat.reduceLT,Nat.reduceLeDiff,reduceIte,Int.reduceAdd,Int.reduceSub,Int.reduceMul,Int.reduceLT,Int.reduceLE,Int.reduceEq,Int.reduceToNat,Int.reduceNeg,zed,zee,zfr,zhw,ysu,yrg,ysv]
    refine ⟨I.next (Fr.refl _) (by (with_reducible (repeat (first | refine Keep.put ?_ (by decide) | refine Keep.none ?_ | assumption | exact Keep.refl _ _ _)))), ?_, ?_, ?_, ?_, ?_, ?_⟩
    · simp (disch := (first | (simp only [ne_eq,Nat.reduceEqDiff,not_false_eq_true,Nat.reduceLT]; done) | omega | (simp only [yz] <;> omega) | fail)) only [yg,Nat.reduceAdd,Nat.reduceEqDiff,Nat.reduceLT,g10]
    · simp (disch := (first | (simp only [ne_eq,Nat.reduceEqDiff,not_false_eq_true,Nat.reduceLT]; done) | omega | (simp only [yz] <;> omega) | fail)) only [yg,Nat.reduceAdd,Nat.reduceEqDiff,Nat.reduceLT,g11]
    · simp (disch := (first | (simp only [ne_eq,Nat.reduceEqDiff,not_false_eq_true,Nat.reduceLT]; done) | omega | (simp only [yz] <;> omega) | fail)) only [yg,Nat.reduceAdd,Nat.reduceEqDiff,Nat.reduceLT,g12]
    · simp (disch := (first | (simp only [ne_eq,Nat.reduceEqDiff,not_false_eq_true,Nat.reduceLT]; done) | omega | (simp only [yz] <;> omega) | fail)) only [yg,Nat.reduceAdd,Nat.reduceEqDiff,Nat.reduceLT,g13]
    · simp (disch := (first | (simp only [ne_eq,Nat.reduceEqDiff,not_false_eq_true,Nat.reduceLT]; done) | omega | (simp only [yz] <;> omega) | fail)) only [yg,Nat.reduceAdd,Nat.reduceEqDiff,Nat.reduceLT]
    · simp (disch := (first | (simp only [ne_eq,Nat.reduceEqDiff,not_false_eq_true,Nat.reduceLT]; done) | omega | (simp only [yz] <;> omega) | fail)) only [yg,Nat.reduceAdd,Nat.reduceEqDiff,Nat.reduceLT]
  clear sz I g10 g11 g12 g13
  rintro e H' ⟨I, g10, g11, g12, g13, g14, g15⟩
  have sz := I.fr.size
  refine W_seqI (fun e' H'' => LP 140 H C w ld l i8 i9 a' cap' e' H'' ∧ gt 140 e' 10 = .int .i64 fr ∧ gt 140 e' 11 = .int .i64 to ∧ gt 140 e' 12 = .int .i64 m ∧ gt 140 e' 13 = .int .i64 bm ∧ gt 140 e' 14 = .int .i64 s1.1 ∧ gt 140 e' 15 = .int .i64 s1.2 ∧ gt 140 e' 16 = .int .i64 s2.1 ∧ gt 140 e' 17 = .int .i64 s2.2) ?_ ?_
  · have g8 := I.g8
    have g9 := I.g9
    have b8 := I.b8
    have b9 := I.b9
    have w2 : w64 (bm + 11) = bm + 11 := w64_of (by omega)
    simp (disch := (first | (simp only [ne_eq,Nat.reduceEqDiff,not_false_eq_true,Nat.reduceLT]; done) | omega | (simp only [yz] <;> omega) | fail)) only [↓yp,yq0,yq1,yq2,yq3,yq4,yl,ys0,ys1,Nat.reduceAdd,Nat.reduceMul,Nat.reduceSub,Nat.reduceBEq,Nat.reduceEqDiff,Nat.reduceLT,Nat.reduceLeDiff,reduceIte,Int.reduceAdd,Int.reduceSub,Int.reduceMul,Int.reduceLT,Int.reduceLE,Int.reduceEq,Int.reduceToNat,Int.reduceNeg,zed,zee,zfr,zhw,ysu,yrg,ysv,g8,g9,b8,b9,g10,g11,g12,g13,A_min,mm_min,w2,hbm']
    rw [c44 I.sl hl16 hC ho (by omega) hfr hto2 (by omega) (by omega), hs2]
    simp (disch := (first | (simp only [ne_eq,Nat.reduceEqDiff,not_false_eq_true,Nat.reduceLT]; done) | omega | (simp only [yz] <;> omega) | fail)) only [↓yp,yq0,yq1,yq2,yq3,yq4,yl,ys0,ys1,Nat.reduceAdd,Nat.reduceMul,Nat.reduceSub,Nat.reduceBEq,Nat.reduceEqDiff,Nat.reduceLT,Nat.reduceLeDiff,reduceIte,Int.reduceAdd,Int.reduceSub,Int.reduceMul,Int.reduceLT,Int.reduceLE,Int.reduceEq,Int.reduceToNat,Int.reduceNeg,zed,zee,zfr,zhw,ysu,yrg,ysv]
    refine ⟨I.next (Fr.refl _) (by (with_reducible (repeat (first | refine Keep.put ?_ (by decide) | refine Keep.none ?_ | assumption | exact Keep.refl _ _ _)))), ?_, ?_, ?_, ?_, ?_, ?_, ?_, ?_⟩
    · simp (disch := (first | (simp only [ne_eq,Nat.reduceEqDiff,not_false_eq_true,Nat.reduceLT]; done) | omega | (simp only [yz] <;> omega) | fail)) only [yg,Nat.reduceAdd,Nat.reduceEqDiff,Nat.reduceLT,g10]
    · simp (disch := (first | (simp only [ne_eq,Nat.reduceEqDiff,not_false_eq_true,Nat.reduceLT]; done) | omega | (simp only [yz] <;> omega) | fail)) only [yg,Nat.reduceAdd,Nat.reduceEqDiff,Nat.reduceLT,g11]
    · simp (disch := (first | (simp only [ne_eq,Nat.reduceEqDiff,not_false_eq_true,Nat.reduceLT]; done) | omega | (simp only [yz] <;> omega) | fail)) only [yg,Nat.reduceAdd,Nat.reduceEqDiff,Nat.reduceLT,g12]
    · simp (disch := (first | (simp only [ne_eq,Nat.reduceEqDiff,not_false_eq_true,Nat.reduceLT]; done) | omega | (simp only [yz] <;> omega) | fail)) only [yg,Nat.reduceAdd,Nat.reduceEqDiff,Nat.reduceLT,g13]
    · simp (disch := (first | (simp only [ne_eq,Nat.reduceEqDiff,not_false_eq_true,Nat.reduceLT]; done) | omega | (simp only [yz] <;> omega) | fail)) only [yg,Nat.reduceAdd,Nat.reduceEqDiff,Nat.reduceLT,g14]
    · simp (disch := (first | (simp only [ne_eq,Nat.reduceEqDiff,not_false_eq_true,Nat.reduceLT]; done) | omega | (simp only [yz] <;> omega) | fail)) only [yg,Nat.reduceAdd,Nat.reduceEqDiff,Nat.reduceLT,g15]
    · simp (disch := (first | (simp only [ne_eq,Nat.reduceEqDiff,not_false_eq_true,Nat.reduceLT]; done) | omega | (simp only [yz] <;> omega) | fail)) only [yg,Nat.reduceAdd,Nat.reduceEqDiff,Nat.reduceLT]
    · simp (disch := (first | (simp only [ne_eq,Nat.reduceEqDiff,not_false_eq_true,Nat.reduceLT]; done) | omega | (simp only [yz] <;> omega) | fail)) only [yg,Nat.reduceAdd,Nat.reduceEqDiff,Nat.reduceLT]
  clear sz I g10 g11 g12 g13 g14 g15
  rintro e H' ⟨I, g10, g11, g12, g13, g14, g15, g16, g17⟩
  have sz := I.fr.size
  -- what the two are
  have key : (s1.2 = 1 ∧ (s2.2 = 0 ∨ s2.2 = 1) ∧ ∀ j : Nat, j ≤ 9 → fits C l w fr to m bm j = false) ∨ (s1.2 = 0 ∧ s2.2 = 0 ∧ 0 ≤ s1.1 ∧ s1.1 ≤ 9 ∧ s1.1 ≤ s2.1 ∧ ∀ j : Nat, j ≤ 9 → fits C l w fr to m bm j = decide ((j : Int) ≤ s1.1)) := by
    rw [← hs1, ← hs2]
    unfold heavV
    cases h1 : down (fits C l w fr to m bm) 10 with
    | none =>
      refine .inl ⟨rfl, ?_, fun j hj => down_none h1 j (by omega)⟩
      cases down (fits C l w fr to m bm') 10 <;> simp
    | some n =>
      obtain ⟨q1, q2, q3⟩ := down_some h1
      cases h2 : down (fits C l w fr to m bm') 10 with
      | none => exact absurd (fits_by hbm3.1 q1) (by rw [down_none h2 n q2]; simp)
      | some n' =>
        obtain ⟨p1, p2, p3⟩ := down_some h2
        refine .inr ⟨rfl, rfl, by simp, by simp; omega, ?_, fun j hj => ?_⟩
        · simp only
          by_cases e : n ≤ n'
          · omega
          · exact absurd (fits_by hbm3.1 q1) (by rw [p3 n (by omega) q2]; simp)
        · simp only
          by_cases e : j ≤ n
          · rw [fits_down hC hl16 ho hfr hto2 (by omega) e (by omega) q1]
            simp; omega
          · rw [q3 j (by omega) (by omega)]
            simp; omega
  refine W_seqI (fun e' H'' => LP 140 H C w ld l i8 i9 a' cap' e' H'' ∧ gt 140 e' 10 = .int .i64 fr ∧ gt 140 e' 11 = .int .i64 to ∧ gt 140 e' 12 = .int .i64 m ∧ gt 140 e' 13 = .int .i64 bm ∧ gt 140 e' 14 = .int .i64 s1.1 ∧ gt 140 e' 15 = .int .i64 s1.2) ?_ ?_
  · rcases key with ⟨k1, k2, -⟩ | ⟨k1, k2, k3, k4, k5, -⟩
    · rw [k1] at g15
      rcases k2 with k2 | k2
      all_goals
        rw [k2] at g17
        simp (disch := (first | (simp only [ne_eq,Nat.reduceEqDiff,not_false_eq_true,Nat.reduceLT]; done) | omega | (simp only [yz] <;> omega) | fail)) only [↓yp,yq0,yq1,yq2,yq3,yq4,yl,ys0,ys1,Nat.reduceAdd,Nat.reduceMul,Nat.reduceSub,Nat.reduceBEq,Nat.reduceEqDiff,Nat.reduceLT,Nat.reduceLeDiff,reduceIte,Int.reduceAdd,Int.reduceSub,Int.reduceMul,Int.reduceLT,Int.reduceLE,Int.reduceEq,Int.reduceToNat,Int.reduceNeg,zed,zee,zfr,zhw,ysu,yrg,ysv,g15,g17]
        refine ⟨I.next (Fr.refl _) (by (with_reducible (repeat (first | refine Keep.put ?_ (by decide) | refine Keep.none ?_ | assumption | exact Keep.refl _ _ _)))), ?_, ?_, ?_, ?_, ?_, ?_⟩
        · simp (disch := (first | (simp only [ne_eq,Nat.reduceEqDiff,not_false_eq_true,Nat.reduceLT]; done) | omega | (simp only [yz] <;> omega) | fail)) only [yg,Nat.reduceAdd,Nat.reduceEqDiff,Nat.reduceLT,g10]
        · simp (disch := (first | (simp only [ne_eq,Nat.reduceEqDiff,not_false_eq_true,Nat.reduceLT]; done) | omega | (simp only [yz] <;> omega) | fail)) only [yg,Nat.reduceAdd,Nat.reduceEqDiff,Nat.reduceLT,g11]
        · simp (disch := (first | (simp only [ne_eq,Nat.reduceEqDiff,not_false_eq_true,Nat.reduceLT]; done) | omega | (simp only [yz] <;> omega) | fail)) only [yg,Nat.reduceAdd,Nat.reduceEqDiff,Nat.reduceLT,g12]
        · simp (disch := (first | (simp only [ne_eq,Nat.reduceEqDiff,not_false_eq_true,Nat.reduceLT]; done) | omega | (simp only [yz] <;> omega) | fail)) only [yg,Nat.reduceAdd,Nat.reduceEqDiff,Nat.reduceLT,g13]
        · simp (disch := (first | (simp only [ne_eq,Nat.reduceEqDiff,not_false_eq_true,Nat.reduceLT]; done) | omega | (simp only [yz] <;> omega) | fail)) only [yg,Nat.reduceAdd,Nat.reduceEqDiff,Nat.reduceLT,g14]
        · simp (disch := (first | (simp only [ne_eq,Nat.reduceEqDiff,not_false_eq_true,Nat.reduceLT]; done) | omega | (simp only [yz] <;> omega) | fail)) only [yg,Nat.reduceAdd,Nat.reduceEqDiff,Nat.reduceLT,g15,k1]
    · rw [k1] at g15
      rw [k2] at g17
      have d1 : decide (s2.1 < s1.1) = false := by simp; omega
      have d2 : decide (s1.1 < 0) = false := by simp; omega
      have d3 : decide (9 < s1.1) = false := by simp; omega
      simp (disch := (first | (simp only [ne_eq,Nat.reduceEqDiff,not_false_eq_true,Nat.reduceLT]; done) | omega | (simp only [yz] <;> omega) | fail)) only [↓yp,yq0,yq1,yq2,yq3,yq4,yl,ys0,ys1,Nat.reduceAdd,Nat.reduceMul,Nat.reduceSub,Nat.reduceBEq,Nat.reduceEqDiff,Nat.reduceLT,Nat.reduceLeDiff,reduceIte,Int.reduceAdd,Int.reduceSub,Int.reduceMul,Int.reduceLT,Int.reduceLE,Int.reduceEq,Int.reduceToNat,Int.reduceNeg,zed,zee,zfr,zhw,ysu,yrg,ysv,g15,g17,g14,g16,d1,d2,d3]
      refine ⟨I.next (Fr.refl _) (by (with_reducible (repeat (first | refine Keep.put ?_ (by decide) | refine Keep.none ?_ | assumption | exact Keep.refl _ _ _)))), ?_, ?_, ?_, ?_, ?_, ?_⟩
      · simp (disch := (first | (simp only [ne_eq,Nat.reduceEqDiff,not_false_eq_true,Nat.reduceLT]; done) | omega | (simp only [yz] <;> omega) | fail)) only [yg,Nat.reduceAdd,Nat.reduceEqDiff,Nat.reduceLT,g10]
      · simp (disch := (first | (simp only [ne_eq,Nat.reduceEqDiff,not_false_eq_true,Nat.reduceLT]; done) | omega | (simp only [yz] <;> omega) | fail)) only [yg,Nat.reduceAdd,Nat.reduceEqDiff,Nat.reduceLT,g11]
      · simp (disch := (first | (simp only [ne_eq,Nat.reduceEqDiff,not_false_eq_true,Nat.reduceLT]; done) | omega | (simp only [yz] <;> omega) | fail)) only [yg,Nat.reduceAdd,Nat.reduceEqDiff,Nat.reduceLT,g12]
      · simp (disch := (first | (simp only [ne_eq,Nat.reduceEqDiff,not_false_eq_true,Nat.reduceLT]; done) | omega | (simp only [yz] <;> omega) | fail)) only [yg,Nat.reduceAdd,Nat.reduceEqDiff,Nat.reduceLT,g13]
      · simp (disch := (first | (simp only [ne_eq,Nat.reduceEqDiff,not_false_eq_true,Nat.reduceLT]; done) | omega | (simp only [yz] <;> omega) | fail)) only [yg,Nat.reduceAdd,Nat.reduceEqDiff,Nat.reduceLT,g14]
      · simp (disch := (first | (simp only [ne_eq,Nat.reduceEqDiff,not_false_eq_true,Nat.reduceLT]; done) | omega | (simp only [yz] <;> omega) | fail)) only [yg,Nat.reduceAdd,Nat.reduceEqDiff,Nat.reduceLT,g15,k1]
  have hfit : ∀ j : Nat, j ≤ 9 → fits C l w fr to m bm j = (decide (s1.2 = 0) && decide ((j : Int) ≤ s1.1)) := fun j hj => by
    rcases key with ⟨k1, -, k3⟩ | ⟨k1, -, -, -, -, k3⟩
    · rw [k3 j hj, k1]; rfl
    · rw [k3 j hj, k1]; simp
  clear sz I g10 g11 g12 g13 g14 g15 g16 g17 key hs1 hs2
  rintro e H' ⟨I, g10, g11, g12, g13, g14, g15⟩
  have sz := I.fr.size
  simp (disch := (first | (simp only [ne_eq,Nat.reduceEqDiff,not_false_eq_true,Nat.reduceLT]; done) | omega | (simp only [yz] <;> omega) | fail)) only [↓yp,yq0,yq1,yq2,yq3,yq4,yl,ys0,ys1,Nat.reduceAdd,Nat.reduceMul,Nat.reduceSub,Nat.reduceBEq,Nat.reduceEqDiff,Nat.reduceLT,Nat.reduceLeDiff,reduceIte,Int.reduceAdd,Int.reduceSub,Int.reduceMul,Int.reduceLT,Int.reduceLE,Int.reduceEq,Int.reduceToNat,Int.reduceNeg,zed,zee,zfr,zhw,ysu,yrg,ysv]
  refine W_while (n := 140) 6000 (fun k e' H'' => ∃ j : Nat, k = 10 - j ∧ j ≤ 10 ∧ gt 140 e' 102 = .int .i64 (j : Nat) ∧ LP 140 H C w ld l i8 i9 a' cap' e' H'' ∧ gt 140 e' 10 = .int .i64 fr ∧ gt 140 e' 11 = .int .i64 to ∧ gt 140 e' 12 = .int .i64 m ∧ gt 140 e' 13 = .int .i64 bm ∧ gt 140 e' 14 = .int .i64 s1.1 ∧ gt 140 e' 15 = .int .i64 s1.2)
    ?_ 10 10 ⟨0, by omega, by omega, by simp (disch := (first | (simp only [ne_eq,Nat.reduceEqDiff,not_false_eq_true,Nat.reduceLT]; done) | omega | (simp only [yz] <;> omega) | fail)) only [yg,Nat.reduceAdd,Nat.reduceEqDiff,Nat.reduceLT]; rfl, I.next (Fr.refl _) (by (with_reducible (repeat (first | refine Keep.put ?_ (by decide) | refine Keep.none ?_ | assumption | exact Keep.refl _ _ _)))), by simp (disch := (first | (simp only [ne_eq,Nat.reduceEqDiff,not_false_eq_true,Nat.reduceLT]; done) | omega | (simp only [yz] <;> omega) | fail)) only [yg,Nat.reduceAdd,Nat.reduceEqDiff,Nat.reduceLT,g10], by simp (disch := (first | (simp only [ne_eq,Nat.reduceEqDiff,not_false_eq_true,Nat.reduceLT]; done) | omega | (simp only [yz] <;> omega) | fail)) only [yg,Nat.reduceAdd,Nat.reduceEqDiff,Nat.reduceLT,g11], by simp (disch := (first | (simp only [ne_eq,Nat.reduceEqDiff,not_false_eq_true,Nat.reduceLT]; done) | omega | (simp only [yz] <;> omega) | fail)) only [yg,Nat.reduceAdd,Nat.reduceEqDiff,Nat.reduceLT,g12], by simp (disch := (first | (simp only [ne_eq,Nat.reduceEqDiff,not_false_eq_true,Nat.reduceLT]; done) | omega | (simp only [yz] <;> omega) | fail)) only [yg,Nat.reduceAdd,Nat.reduceEqDiff,Nat.reduceLT,g13], by simp (disch := (first | (simp only [ne_eq,Nat.reduceEqDiff,not_false_eq_true,Nat.reduceLT]; done) | omega | (simp only [yz] <;> omega) | fail)) only [yg,Nat.reduceAdd,Nat.reduceEqDiff,Nat.reduceLT,g14], by simp (disch := (first | (simp only [ne_eq,Nat.reduceEqDiff,not_false_eq_true,Nat.reduceLT]; done) | omega | (simp only [yz] <;> omega) | fail)) only [yg,Nat.reduceAdd,Nat.reduceEqDiff,Nat.reduceLT,g15]⟩ (by omega) (by omega)
  clear sz I g10 g11 g12 g13 g14 g15
  rintro M1 k1 e H' ⟨j, rfl, hj, g102, I, g10, g11, g12, g13, g14, g15⟩
  have sz := I.fr.size
  simp (disch := (first | (simp only [ne_eq,Nat.reduceEqDiff,not_false_eq_true,Nat.reduceLT]; done) | omega | (simp only [yz] <;> omega) | fail)) only [↓yp,yq0,yq1,yq2,yq3,yq4,yl,ys0,ys1,Nat.reduceAdd,Nat.reduceMul,Nat.reduceSub,Nat.reduceBEq,Nat.reduceEqDiff,Nat.reduceLT,Nat.reduceLeDiff,reduceIte,Int.reduceAdd,Int.reduceSub,Int.reduceMul,Int.reduceLT,Int.reduceLE,Int.reduceEq,Int.reduceToNat,Int.reduceNeg,zed,zee,zfr,zhw,ysu,yrg,ysv,g102]
  refine ⟨fun hA => ?_, fun hA => ?_⟩
  rotate_left
  · simp (disch := (first | (simp only [ne_eq,Nat.reduceEqDiff,not_false_eq_true,Nat.reduceLT]; done) | omega | (simp only [yz] <;> omega) | fail)) only [↓yp,yq0,yq1,yq2,yq3,yq4,yl,ys0,ys1,Nat.reduceAdd,Nat.reduceMul,Nat.reduceSub,Nat.reduceBEq,Nat.reduceEqDiff,Nat.reduceLT,Nat.reduceLeDiff,reduceIte,Int.reduceAdd,Int.reduceSub,Int.reduceMul,Int.reduceLT,Int.reduceLE,Int.reduceEq,Int.reduceToNat,Int.reduceNeg,zed,zee,zfr,zhw,ysu,yrg,ysv,awake_l]
  have hj9 : j ≤ 9 := by have := of_decide_eq_true hA; omega
  have g8 := I.g8
  have g9 := I.g9
  have b8 := I.b8
  have b9 := I.b9
  have hw2 : w64 ((j : Int) + 1) = ((j + 1 : Nat) : Int) := by rw [w64_of (by omega)]; omega
  have gj : Good C l (j : Int) := good_of (chk_of hC hl16 ho) (off_iff.2 (by omega))
  have e8 := earT_len (w := w) gj (fr := fr) (a₀ := m) hfr (by omega)
  have hE := take_at e8 hC hto2
  have hft := hfit j hj9
  unfold fits at hft
  obtain ⟨E, he⟩ : ∃ E, tg (earT C l w (j : Int) fr m) to = E := ⟨_, rfl⟩
  rw [he] at hE hft
  simp (disch := (first | (simp only [ne_eq,Nat.reduceEqDiff,not_false_eq_true,Nat.reduceLT]; done) | omega | (simp only [yz] <;> omega) | fail)) only [↓yp,yq0,yq1,yq2,yq3,yq4,yl,ys0,ys1,Nat.reduceAdd,Nat.reduceMul,Nat.reduceSub,Nat.reduceBEq,Nat.reduceEqDiff,Nat.reduceLT,Nat.reduceLeDiff,reduceIte,Int.reduceAdd,Int.reduceSub,Int.reduceMul,Int.reduceLT,Int.reduceLE,Int.reduceEq,Int.reduceToNat,Int.reduceNeg,zed,zee,zfr,zhw,ysu,yrg,ysv,g102,g8,g9,b8,b9,A_build st_bdS_26,g10,g12]
  refine c52 I.sl (by omega) (az (j : Int) (by omega) [fr] [m] (by simp; omega) (by simp; omega)) (by omega) (by omega) ?_
  intro k cap'' H3 fr3 hk1 hk2 hk3
  have sz3 := fr3.size
  have fin : ∀ e', Keep 140 [8, 9] e e' → gt 140 e' 102 = .int .i64 ((j + 1 : Nat) : Int) → gt 140 e' 10 = .int .i64 fr → gt 140 e' 11 = .int .i64 to → gt 140 e' 12 = .int .i64 m → gt 140 e' 13 = .int .i64 bm → gt 140 e' 14 = .int .i64 s1.1 → gt 140 e' 15 = .int .i64 s1.2 → ∃ k', k' < 10 - j ∧ ∃ j : Nat, k' = 10 - j ∧ j ≤ 10 ∧ gt 140 e' 102 = .int .i64 (j : Nat) ∧ LP 140 H C w ld l i8 i9 a' cap' e' H3 ∧ gt 140 e' 10 = .int .i64 fr ∧ gt 140 e' 11 = .int .i64 to ∧ gt 140 e' 12 = .int .i64 m ∧ gt 140 e' 13 = .int .i64 bm ∧ gt 140 e' 14 = .int .i64 s1.1 ∧ gt 140 e' 15 = .int .i64 s1.2 := fun e' hke h1 h2 h3 h4 h5 h6 h7 => ⟨10 - (j + 1), by omega, j + 1, rfl, by omega, h1, I.next fr3 hke, h2, h3, h4, h5, h6, h7⟩
  cases hz : decide (s1.2 = 0)
  all_goals
    rw [hz] at hft
    cases hE1 : decide (E = -1)
    all_goals
      cases hE2 : decide (E ≤ bm)
      all_goals
        cases hz2 : decide ((j : Int) ≤ s1.1)
        all_goals
          rw [hE1, hE2, hz2] at hft
          first
            | exact absurd hft (by decide)
            | (simp (disch := (first | (simp only [ne_eq,Nat.reduceEqDiff,not_false_eq_true,Nat.reduceLT]; done) | omega | (simp only [yz] <;> omega) | fail)) only [↓yp,yq0,yq1,yq2,yq3,yq4,yl,ys0,ys1,Nat.reduceAdd,Nat.reduceMul,Nat.reduceSub,Nat.reduceBEq,Nat.reduceEqDiff,Nat.reduceLT,Nat.reduceLeDiff,reduceIte,Int.reduceAdd,Int.reduceSub,Int.reduceMul,Int.reduceLT,Int.reduceLE,Int.reduceEq,Int.reduceToNat,Int.reduceNeg,zed,zee,zfr,zhw,ysu,yrg,ysv,g11,g13,g14,g15,hk3,binV_nil_some zir,A_indexSlice zir,hE,hE1,hE2,hz,hz2,nEE,hw2,g102]
               exact fin _ (by (with_reducible (repeat (first | refine Keep.put ?_ (by decide) | refine Keep.none ?_ | assumption | exact Keep.refl _ _ _)))) (by simp (disch := (first | (simp only [ne_eq,Nat.reduceEqDiff,not_false_eq_true,Nat.reduceLT]; done) | omega | (simp only [yz] <;> omega) | fail)) only [yg,Nat.reduceAdd,Nat.reduceEqDiff,Nat.reduceLT]) (by simp (disch := (first | (simp only [ne_eq,Nat.reduceEqDiff,not_false_eq_true,Nat.reduceLT]; done) | omega | (simp only [yz] <;> omega) | fail)) only [yg,Nat.reduceAdd,Nat.reduceEqDiff,Nat.reduceLT,g10]) (by simp (disch := (first | (simp only [ne_eq,Nat.reduceEqDiff,not_false_eq_true,Nat.reduceLT]; done) | omega | (simp only [yz] <;> omega) | fail)) only [yg,Nat.reduceAdd,Nat.reduceEqDiff,Nat.reduceLT,g11]) (by simp (disch := (first | (simp only [ne_eq,Nat.reduceEqDiff,not_false_eq_true,Nat.reduceLT]; done) | omega | (simp only [yz] <;> omega) | fail)) only [yg,Nat.reduceAdd,Nat.reduceEqDiff,Nat.reduceLT,g12]) (by simp (disch := (first | (simp only [ne_eq,Nat.reduceEqDiff,not_false_eq_true,Nat.reduceLT]; done) | omega | (simp only [yz] <;> omega) | fail)) only [yg,Nat.reduceAdd,Nat.reduceEqDiff,Nat.reduceLT,g13]) (by simp (disch := (first | (simp only [ne_eq,Nat.reduceEqDiff,not_false_eq_true,Nat.reduceLT]; done) | omega | (simp only [yz] <;> omega) | fail)) only [yg,Nat.reduceAdd,Nat.reduceEqDiff,Nat.reduceLT,g14]) (by simp (disch := (first | (simp only [ne_eq,Nat.reduceEqDiff,not_false_eq_true,Nat.reduceLT]; done) | omega | (simp only [yz] <;> omega) | fail)) only [yg,Nat.reduceAdd,Nat.reduceEqDiff,Nat.reduceLT,g15]))
end
end Go.Am
