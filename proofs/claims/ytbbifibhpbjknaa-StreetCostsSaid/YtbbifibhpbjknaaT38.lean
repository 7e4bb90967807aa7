/- Heaviest of the program. -/
import Derived.Test.YtbbifibhpbjknaaT37
import Derived.Test.YtbbifibhpbjknaaT35
set_option linter.unusedSimpArgs false
set_option linter.unusedVariables false
namespace Go.Am
open Go.Proofs
variable {T : Tab} {P : Program} {N L : Nat} {H : AHeap} {Q : Bool → Value → AHeap → Prop}
/-- The greatest number below k that suits. -/
def down (p : Nat → Bool) : Nat → Option Nat
  | 0 => none
  | k + 1 => if p k then some k else down p k
theorem down_is {p : Nat → Bool} : ∀ {k j : Nat}, j < k → p j = true → (∀ q, j < q → q < k → p q = false) → down p k = some j
  | k + 1, j, h, hp, hq => by
    unfold down
    by_cases e : j = k
    · subst e; rw [if_pos hp]
    · rw [if_neg (by rw [hq k (by omega) (by omega)]; simp)]
      exact down_is (by omega) hp fun q h1 h2 => hq q h1 (by omega)
theorem down_no {p : Nat → Bool} : ∀ {k : Nat}, (∀ q, q < k → p q = false) → down p k = none
  | 0, _ => rfl
  | k + 1, h => by
    unfold down
    rw [if_neg (by rw [h k (by omega)]; simp)]
    exact down_no fun q hq => h q (by omega)
/-- A load with which the cart is in time. -/
def fits (C : Int) (l : List Str) (w fr to m bm : Int) (ld : Nat) : Bool := !decide (tg (earT C l w ld fr m) to = -1) && decide (tg (earT C l w ld fr m) to ≤ bm)
def heavV (C : Int) (l : List Str) (w fr to m bm : Int) : Int × Int := match down (fits C l w fr to m bm) 10 with
  | some n => (n, 0)
  | none => (0, 1)
section
variable {l : List Str} {C w : Int} {a : Option Addr} {cap : Nat}
set_option maxHeartbeats 2000000 in
theorem c44 {fr to m bm : Int} (hs : Sl H a l) (hl : l.length ≤ 16) (hC : 1 ≤ C ∧ C ≤ 8) (ho : ∀ s ∈ l, OkS C s) (hw : 1 ≤ w ∧ w ≤ 9) (hfr : 0 ≤ fr ∧ fr < C) (hto : 0 ≤ to ∧ to < C) (hm : 0 ≤ m ∧ m ≤ 240) (hbm : 0 ≤ bm ∧ bm ≤ 240) :
    acall tabA (aexec tabA Try.prog (N + 5500)) 44 [.agg ⟨[.int .i64 C, .slice a l.length cap]⟩, .int .i64 w, .int .i64 fr, .int .i64 to, .int .i64 m, .int .i64 bm] H = some (true, .tuple ⟨[.int .i64 (heavV C l w fr to m bm).1, .int .i64 (heavV C l w fr to m bm).2]⟩, H, H.size) := by
  refine call_quiet (k := 52) (rs := [.tmp 12, .tmp 13]) rfl fn_44 rfl rfl rfl ?_ rfl
  have hck : chk C l = 0 := chk_of hC hl ho
  have h0 : asked C l w 0 [fr, to] [] [m, bm] = 0 := asked_zero hC hl ho hw (by omega) (by simp; omega) (by simp; omega)
  simp (disch := (first | (simp only [ne_eq,Nat.reduceEqDiff,not_false_eq_true,Nat.reduceLT]; done) | omega | (simp only [yz] <;> omega) | fail)) only [↓yp,yq0,yq1,yq2,yq3,yq4,yl,ys0,ys1,Nat.reduceAdd,Nat.reduceMul,Nat.reduceSub,Nat.reduceBEq,Nat.reduceEqDiff,Nat.reduceLT,Nat.reduceLeDiff,reduceIte,Int.reduceAdd,Int.reduceSub,Int.reduceMul,Int.reduceLT,Int.reduceLE,Int.reduceEq,Int.reduceToNat,Int.reduceNeg,zed,zee,zfr,zhw,ysu,yrg,ysv,A_buildSlice st_brS_52_2,A_build st_bdS_26]
  rw [c82f (x := fr) (y := to) (m := m) (n := bm) (hs.fr (by (repeat (first | exact Fr.refl _ | assumption | refine Fr.allocd ?_ _ | refine Fr.kill ?_ (by first | assumption | omega) | refine Fr.put ?_ (by first | omega | (simp only [yz] <;> omega)) _)))) (by omega) (by simp (disch := (first | (simp only [ne_eq,Nat.reduceEqDiff,not_false_eq_true,Nat.reduceLT]; done) | omega | (simp only [yz] <;> omega) | fail)) only [yg,Nat.reduceAdd,Nat.reduceEqDiff,Nat.reduceLT]) (by simp (disch := (first | (simp only [ne_eq,Nat.reduceEqDiff,not_false_eq_true,Nat.reduceLT]; done) | omega | (simp only [yz] <;> omega) | fail)) only [yg,Nat.reduceAdd,Nat.reduceEqDiff,Nat.reduceLT]), h0]
  simp (disch := (first | (simp only [ne_eq,Nat.reduceEqDiff,not_false_eq_true,Nat.reduceLT]; done) | omega | (simp only [yz] <;> omega) | fail)) only [↓yp,yq0,yq1,yq2,yq3,yq4,yl,ys0,ys1,Nat.reduceAdd,Nat.reduceMul,Nat.reduceSub,Nat.reduceBEq,Nat.reduceEqDiff,Nat.reduceLT,Nat.reduceLeDiff,reduceIte,Int.reduceAdd,Int.reduceSub,Int.reduceMul,Int.reduceLT,Int.reduceLE,Int.reduceEq,Int.reduceToNat,Int.reduceNeg,zed,zee,zfr,zhw,ysu,yrg,ysv]
  refine W_while (n := 52) 5000 (fun k e H' => ∃ j : Nat, k = j ∧ j ≤ 10 ∧ gt 52 e 15 = .int .i64 ((j : Int) - 1) ∧ gt 52 e 6 = .pointer (some ⟨H.size, 0, none⟩) ∧ gt 52 e 1 = .int .i64 w ∧ gt 52 e 2 = .int .i64 fr ∧ gt 52 e 3 = .int .i64 to ∧ gt 52 e 4 = .int .i64 m ∧ gt 52 e 5 = .int .i64 bm ∧ Fr (H.alloc (.rw [.int .i64 C, .slice a l.length cap] 24 false [])) H' ∧ ∀ q, j ≤ q → q < 10 → fits C l w fr to m bm q = false)
    ?_ 10 10 ⟨10, rfl, by omega, by simp (disch := (first | (simp only [ne_eq,Nat.reduceEqDiff,not_false_eq_true,Nat.reduceLT]; done) | omega | (simp only [yz] <;> omega) | fail)) only [yg,Nat.reduceAdd,Nat.reduceEqDiff,Nat.reduceLT]; rfl, by simp (disch := (first | (simp only [ne_eq,Nat.reduceEqDiff,not_false_eq_true,Nat.reduceLT]; done) | omega | (simp only [yz] <;> omega) | fail)) only [yg,Nat.reduceAdd,Nat.reduceEqDiff,Nat.reduceLT], by simp (disch := (first | (simp only [ne_eq,Nat.reduceEqDiff,not_false_eq_true,Nat.reduceLT]; done) | omega | (simp only [yz] <;> omega) | fail)) only [yg,Nat.reduceAdd,Nat.reduceEqDiff,Nat.reduceLT], by simp (disch := (first | (simp only [ne_eq,Nat.reduceEqDiff,not_false_eq_true,Nat.reduceLT]; done) | omega | (simp only [yz] <;> omega) | fail)) only [yg,Nat.reduceAdd,Nat.reduceEqDiff,Nat.reduceLT], by simp (disch := (first | (simp only [ne_eq,Nat.reduceEqDiff,not_false_eq_true,Nat.reduceLT]; done) | omega | (simp only [yz] <;> omega) | fail)) only [yg,Nat.reduceAdd,Nat.reduceEqDiff,Nat.reduceLT], by simp (disch := (first | (simp only [ne_eq,Nat.reduceEqDiff,not_false_eq_true,Nat.reduceLT]; done) | omega | (simp only [yz] <;> omega) | fail)) only [yg,Nat.reduceAdd,Nat.reduceEqDiff,Nat.reduceLT], by simp (disch := (first | (simp only [ne_eq,Nat.reduceEqDiff,not_false_eq_true,Nat.reduceLT]; done) | omega | (simp only [yz] <;> omega) | fail)) only [yg,Nat.reduceAdd,Nat.reduceEqDiff,Nat.reduceLT], by (repeat (first | exact Fr.refl _ | assumption | refine Fr.allocd ?_ _ | refine Fr.kill ?_ (by first | assumption | omega) | refine Fr.put ?_ (by first | omega | (simp only [yz] <;> omega)) _)), fun q h1 h2 => by omega⟩ (by omega) (by omega)
  rintro M1 k1 e H' ⟨j, rfl, hj, g15, g6, g1, g2, g3, g4, g5, fr', hno⟩
  have f0 := fr'.size
  have fs := fr'.same
  simp only [zde] at f0
  simp (disch := (first | (simp only [ne_eq,Nat.reduceEqDiff,not_false_eq_true,Nat.reduceLT]; done) | omega | (simp only [yz] <;> omega) | fail)) only [↓yp,yq0,yq1,yq2,yq3,yq4,yl,ys0,ys1,Nat.reduceAdd,Nat.reduceMul,Nat.reduceSub,Nat.reduceBEq,Nat.reduceEqDiff,Nat.reduceLT,Nat.reduceLeDiff,reduceIte,Int.reduceAdd,Int.reduceSub,Int.reduceMul,Int.reduceLT,Int.reduceLE,Int.reduceEq,Int.reduceToNat,Int.reduceNeg,zed,zee,zfr,zhw,ysu,yrg,ysv,g15]
  refine ⟨fun hA => ?_, fun hA => ?_⟩
  rotate_left
  · have hj0 : k1 = 0 := by have := of_decide_eq_false hA; omega
    subst hj0
    have hv : heavV C l w fr to m bm = (0, 1) := by
      unfold heavV
      rw [down_no fun q hq => hno q (by omega) hq]
    simp (disch := (first | (simp only [ne_eq,Nat.reduceEqDiff,not_false_eq_true,Nat.reduceLT]; done) | omega | (simp only [yz] <;> omega) | fail)) only [↓yp,yq0,yq1,yq2,yq3,yq4,yl,ys0,ys1,Nat.reduceAdd,Nat.reduceMul,Nat.reduceSub,Nat.reduceBEq,Nat.reduceEqDiff,Nat.reduceLT,Nat.reduceLeDiff,reduceIte,Int.reduceAdd,Int.reduceSub,Int.reduceMul,Int.reduceLT,Int.reduceLE,Int.reduceEq,Int.reduceToNat,Int.reduceNeg,zed,zee,zfr,zhw,ysu,yrg,ysv,hv]
  have hj1 : 0 < k1 := by have := of_decide_eq_true hA; omega
  obtain ⟨ld, rfl⟩ : ∃ ld, k1 = ld + 1 := ⟨k1 - 1, by omega⟩
  have eld : ((ld + 1 : Nat) : Int) - 1 = (ld : Int) := by omega
  rw [eld] at g15
  have g : Good C l (ld : Int) := good_of hck (off_iff.2 (by omega))
  have e8 := earT_ok (w := w) g (fr := fr) (a₀ := m) hfr hm
  have hat := tv_at e8.1 (x := to) (by omega)
  have hw3 : w64 ((ld : Int) - 1) = (ld : Int) - 1 := w64_of (by omega)
  have sH : Sl H' a l := (hs.fr (Fr.alloc _ _)).fr fr'
  simp (disch := (first | (simp only [ne_eq,Nat.reduceEqDiff,not_false_eq_true,Nat.reduceLT]; done) | omega | (simp only [yz] <;> omega) | fail)) only [↓yp,yq0,yq1,yq2,yq3,yq4,yl,ys0,ys1,Nat.reduceAdd,Nat.reduceMul,Nat.reduceSub,Nat.reduceBEq,Nat.reduceEqDiff,Nat.reduceLT,Nat.reduceLeDiff,reduceIte,Int.reduceAdd,Int.reduceSub,Int.reduceMul,Int.reduceLT,Int.reduceLE,Int.reduceEq,Int.reduceToNat,Int.reduceNeg,zed,zee,zfr,zhw,ysu,yrg,ysv,g15,g6,g1,fs,A_build st_bdS_26]
  refine c83q sH.none_len (by omega) (by omega) ?_
  intro b3 H3 fr3
  have f3 := fr3.size
  have h88 := fun (N : Nat) => c88 (N := N) (C := C) (w := w) (cap := cap) (fr := fr) (a₀ := m) g (sH.fr fr3) (by omega) hfr hm
  simp only [jobG] at h88
  simp (disch := (first | (simp only [ne_eq,Nat.reduceEqDiff,not_false_eq_true,Nat.reduceLT]; done) | omega | (simp only [yz] <;> omega) | fail)) only [↓yp,yq0,yq1,yq2,yq3,yq4,yl,ys0,ys1,Nat.reduceAdd,Nat.reduceMul,Nat.reduceSub,Nat.reduceBEq,Nat.reduceEqDiff,Nat.reduceLT,Nat.reduceLeDiff,reduceIte,Int.reduceAdd,Int.reduceSub,Int.reduceMul,Int.reduceLT,Int.reduceLE,Int.reduceEq,Int.reduceToNat,Int.reduceNeg,zed,zee,zfr,zhw,ysu,yrg,ysv,jobV,g2,g4,h88]
  refine A_index_of (k := .i64) (i := to) (cs := tv (earT C l w ld fr m)) (v := .int .i64 (tg (earT C l w ld fr m) to)) st_ixV_130 (by simp (disch := (first | (simp only [ne_eq,Nat.reduceEqDiff,not_false_eq_true,Nat.reduceLT]; done) | omega | (simp only [yz] <;> omega) | fail)) only [↓yp,yq0,yq1,yq2,yq3,yq4,yl,ys0,ys1,Nat.reduceAdd,Nat.reduceMul,Nat.reduceSub,Nat.reduceBEq,Nat.reduceEqDiff,Nat.reduceLT,Nat.reduceLeDiff,reduceIte,Int.reduceAdd,Int.reduceSub,Int.reduceMul,Int.reduceLT,Int.reduceLE,Int.reduceEq,Int.reduceToNat,Int.reduceNeg,zed,zee,zfr,zhw,ysu,yrg,ysv]) (by simp (disch := (first | (simp only [ne_eq,Nat.reduceEqDiff,not_false_eq_true,Nat.reduceLT]; done) | omega | (simp only [yz] <;> omega) | fail)) only [↓yp,yq0,yq1,yq2,yq3,yq4,yl,ys0,ys1,Nat.reduceAdd,Nat.reduceMul,Nat.reduceSub,Nat.reduceBEq,Nat.reduceEqDiff,Nat.reduceLT,Nat.reduceLeDiff,reduceIte,Int.reduceAdd,Int.reduceSub,Int.reduceMul,Int.reduceLT,Int.reduceLE,Int.reduceEq,Int.reduceToNat,Int.reduceNeg,zed,zee,zfr,zhw,ysu,yrg,ysv,g3]) ⟨by omega, by omega⟩ (by rw [zdj, Nat.mul_one]; exact hat) (by omega) ?_
  have hfit : fits C l w fr to m bm ld = (!decide (tg (earT C l w ld fr m) to = -1) && decide (tg (earT C l w ld fr m) to ≤ bm)) := rfl
  have next : fits C l w fr to m bm ld = false → ∀ q, ld ≤ q → q < 10 → fits C l w fr to m bm q = false := fun h q h1 h2 => by
    by_cases e : q = ld
    · subst e; exact h
    · exact hno q (by omega) h2
  cases hE1 : decide (tg (earT C l w ld fr m) to = -1)
  rotate_left
  · rw [hE1] at hfit
    simp (disch := (first | (simp only [ne_eq,Nat.reduceEqDiff,not_false_eq_true,Nat.reduceLT]; done) | omega | (simp only [yz] <;> omega) | fail)) only [↓yp,yq0,yq1,yq2,yq3,yq4,yl,ys0,ys1,Nat.reduceAdd,Nat.reduceMul,Nat.reduceSub,Nat.reduceBEq,Nat.reduceEqDiff,Nat.reduceLT,Nat.reduceLeDiff,reduceIte,Int.reduceAdd,Int.reduceSub,Int.reduceMul,Int.reduceLT,Int.reduceLE,Int.reduceEq,Int.reduceToNat,Int.reduceNeg,zed,zee,zfr,zhw,ysu,yrg,ysv,g15,hE1,hw3]
    refine ⟨ld, by omega, ld, rfl, by omega, ?_, ?_, ?_, ?_, ?_, ?_, ?_, fr'.trans fr3, next hfit⟩
    · simp (disch := (first | (simp only [ne_eq,Nat.reduceEqDiff,not_false_eq_true,Nat.reduceLT]; done) | omega | (simp only [yz] <;> omega) | fail)) only [yg,Nat.reduceAdd,Nat.reduceEqDiff,Nat.reduceLT]
    · simp (disch := (first | (simp only [ne_eq,Nat.reduceEqDiff,not_false_eq_true,Nat.reduceLT]; done) | omega | (simp only [yz] <;> omega) | fail)) only [yg,Nat.reduceAdd,Nat.reduceEqDiff,Nat.reduceLT,g6]
    · simp (disch := (first | (simp only [ne_eq,Nat.reduceEqDiff,not_false_eq_true,Nat.reduceLT]; done) | omega | (simp only [yz] <;> omega) | fail)) only [yg,Nat.reduceAdd,Nat.reduceEqDiff,Nat.reduceLT,g1]
    · simp (disch := (first | (simp only [ne_eq,Nat.reduceEqDiff,not_false_eq_true,Nat.reduceLT]; done) | omega | (simp only [yz] <;> omega) | fail)) only [yg,Nat.reduceAdd,Nat.reduceEqDiff,Nat.reduceLT,g2]
    · simp (disch := (first | (simp only [ne_eq,Nat.reduceEqDiff,not_false_eq_true,Nat.reduceLT]; done) | omega | (simp only [yz] <;> omega) | fail)) only [yg,Nat.reduceAdd,Nat.reduceEqDiff,Nat.reduceLT,g3]
    · simp (disch := (first | (simp only [ne_eq,Nat.reduceEqDiff,not_false_eq_true,Nat.reduceLT]; done) | omega | (simp only [yz] <;> omega) | fail)) only [yg,Nat.reduceAdd,Nat.reduceEqDiff,Nat.reduceLT,g4]
    · simp (disch := (first | (simp only [ne_eq,Nat.reduceEqDiff,not_false_eq_true,Nat.reduceLT]; done) | omega | (simp only [yz] <;> omega) | fail)) only [yg,Nat.reduceAdd,Nat.reduceEqDiff,Nat.reduceLT,g5]
  cases hE2 : decide (tg (earT C l w ld fr m) to ≤ bm)
  · rw [hE1, hE2] at hfit
    simp (disch := (first | (simp only [ne_eq,Nat.reduceEqDiff,not_false_eq_true,Nat.reduceLT]; done) | omega | (simp only [yz] <;> omega) | fail)) only [↓yp,yq0,yq1,yq2,yq3,yq4,yl,ys0,ys1,Nat.reduceAdd,Nat.reduceMul,Nat.reduceSub,Nat.reduceBEq,Nat.reduceEqDiff,Nat.reduceLT,Nat.reduceLeDiff,reduceIte,Int.reduceAdd,Int.reduceSub,Int.reduceMul,Int.reduceLT,Int.reduceLE,Int.reduceEq,Int.reduceToNat,Int.reduceNeg,zed,zee,zfr,zhw,ysu,yrg,ysv,g15,g5,hE1,hE2,hw3]
    refine ⟨ld, by omega, ld, rfl, by omega, ?_, ?_, ?_, ?_, ?_, ?_, ?_, fr'.trans fr3, next hfit⟩
    · simp (disch := (first | (simp only [ne_eq,Nat.reduceEqDiff,not_false_eq_true,Nat.reduceLT]; done) | omega | (simp only [yz] <;> omega) | fail)) only [yg,Nat.reduceAdd,Nat.reduceEqDiff,Nat.reduceLT]
    · simp (disch := (first | (simp only [ne_eq,Nat.reduceEqDiff,not_false_eq_true,Nat.reduceLT]; done) | omega | (simp only [yz] <;> omega) | fail)) only [yg,Nat.reduceAdd,Nat.reduceEqDiff,Nat.reduceLT,g6]
    · simp (disch := (first | (simp only [ne_eq,Nat.reduceEqDiff,not_false_eq_true,Nat.reduceLT]; done) | omega | (simp only [yz] <;> omega) | fail)) only [yg,Nat.reduceAdd,Nat.reduceEqDiff,Nat.reduceLT,g1]
    · simp (disch := (first | (simp only [ne_eq,Nat.reduceEqDiff,not_false_eq_true,Nat.reduceLT]; done) | omega | (simp only [yz] <;> omega) | fail)) only [yg,Nat.reduceAdd,Nat.reduceEqDiff,Nat.reduceLT,g2]
    · simp (disch := (first | (simp only [ne_eq,Nat.reduceEqDiff,not_false_eq_true,Nat.reduceLT]; done) | omega | (simp only [yz] <;> omega) | fail)) only [yg,Nat.reduceAdd,Nat.reduceEqDiff,Nat.reduceLT,g3]
    · simp (disch := (first | (simp only [ne_eq,Nat.reduceEqDiff,not_false_eq_true,Nat.reduceLT]; done) | omega | (simp only [yz] <;> omega) | fail)) only [yg,Nat.reduceAdd,Nat.reduceEqDiff,Nat.reduceLT,g4]
    · simp (disch := (first | (simp only [ne_eq,Nat.reduceEqDiff,not_false_eq_true,Nat.reduceLT]; done) | omega | (simp only [yz] <;> omega) | fail)) only [yg,Nat.reduceAdd,Nat.reduceEqDiff,Nat.reduceLT,g5]
  · rw [hE1, hE2] at hfit
    have hv : heavV C l w fr to m bm = ((ld : Int), 0) := by
      unfold heavV
      rw [down_is (by omega) hfit fun q h1 h2 => hno q (by omega) h2]
    simp (disch := (first | (simp only [ne_eq,Nat.reduceEqDiff,not_false_eq_true,Nat.reduceLT]; done) | omega | (simp only [yz] <;> omega) | fail)) only [↓yp,yq0,yq1,yq2,yq3,yq4,yl,ys0,ys1,Nat.reduceAdd,Nat.reduceMul,Nat.reduceSub,Nat.reduceBEq,Nat.reduceEqDiff,Nat.reduceLT,Nat.reduceLeDiff,reduceIte,Int.reduceAdd,Int.reduceSub,Int.reduceMul,Int.reduceLT,Int.reduceLE,Int.reduceEq,Int.reduceToNat,Int.reduceNeg,zed,zee,zfr,zhw,ysu,yrg,ysv,g15,g5,hE1,hE2,hv]
end
end Go.Am
/- Bounds of the program; copies of rows of minutes. -/
namespace Go.Am
open Go.Proofs
variable {T : Tab} {P : Program} {N L : Nat} {H : AHeap} {Q : Bool → Value → AHeap → Prop}
section
variable {ex : Exec} {t : Operand → Option Value}
end
section
variable {l : List Str} {C w ld : Int} {a : Option Addr} {cap : Nat}
theorem c83s {ad : Addr} {n : Nat} (hL : L ≤ H.size) : resK (acall tabA (aexec tabA Try.prog (N + 30)) 83 [.agg ⟨[.int .i64 C, .slice (some ad) n cap]⟩, .agg ⟨[.int .i64 w, .int .i64 ld]⟩] H) L Q =
    Q false (jobV C (some ad) n cap w ld) ((((H.alloc (.rw [.int .i64 C, .slice (some ad) n cap] 24 false [])).alloc (.rw [.int .i64 w, .int .i64 ld] 26 false [])).alloc (.rw [.int .i64 0, .slice none 0 0, .int .i64 0, .int .i64 0, .int .i64 0] 124 false [])).put (H.size + 1 + 1) (.rw [.int .i64 C, .slice (some ad) n cap, .int .i64 w, .int .i64 ld, .int .i64 (-1)] 124 false [])) := by
  refine call_res (k := 8) (rs := [.cell 4 124]) rfl fn_83 rfl rfl rfl ?_ rfl hL
  simp (disch := (first | (simp only [ne_eq,Nat.reduceEqDiff,not_false_eq_true,Nat.reduceLT]; done) | omega | (simp only [yz] <;> omega) | fail)) only [↓yp,yq0,yq1,yq2,yq3,yq4,yl,ys0,ys1,Nat.reduceAdd,Nat.reduceMul,Nat.reduceSub,Nat.reduceBEq,Nat.reduceEqDiff,Nat.reduceLT,Nat.reduceLeDiff,reduceIte,Int.reduceAdd,Int.reduceSub,Int.reduceMul,Int.reduceLT,Int.reduceLE,Int.reduceEq,Int.reduceToNat,Int.reduceNeg,zed,zee,zfr,zhw,ysu,yrg,ysv,ysw,A_build zik]
  rfl
end
end Go.Am
/- Tables that bound, plainly; copies of minutes; two chutes. -/
namespace Go.Am
open Go.Proofs
variable {T : Tab} {P : Program} {N L : Nat} {H : AHeap} {Q : Bool → Value → AHeap → Prop}
theorem mu_le {ld x m : Int} (hm : 0 ≤ m ∧ m ≤ 240) : (fwd ld).mu x ≤ m ↔ x ≠ -1 ∧ x ≤ m := by
  unfold fwd
  simp only
  split <;> omega
section
variable {l : List Str} {C w ld : Int} {a : Option Addr} {cap : Nat}
theorem Chu.frx {k k' : Nat} {a a' : Option Addr} {bs bs' : List Int} {cap cap' : Nat} {H H' : AHeap} (h : Chu H k a bs cap) (h' : Chu H k' a' bs' cap') (hne : k ≠ k') (f : FrX k' H H') : Chu H' k a bs cap where
  lt := Nat.lt_of_lt_of_le h.lt f.size
  blk := by rw [f.same k h.lt hne]; exact h.blk
  row hn := by
    obtain ⟨b, o, c, h1, h2, h3, h4⟩ := h.row hn
    obtain ⟨u, s, h5, _⟩ := h'.blk
    exact ⟨b, o, c, h1, Nat.lt_of_lt_of_le h2 f.size, by rw [f.same b h2 (fun e => by subst e; rw [h5] at h3; cases h3)]; exact h3, h4⟩
  byte := h.byte
  len := h.len
/-- What laws that make their towns of numbers know: the town and the cart, in some temporaries. -/
structure LQ (n p q : Nat) (H : AHeap) (C w ld : Int) (l : List Str) (i8 i9 : Nat) (a' : Option Addr) (cap' : Nat) (e : VT) (H' : AHeap) : Prop where
  g8 : gt n e p = .pointer (some ⟨i8, 0, none⟩)
  g9 : gt n e q = .pointer (some ⟨i9, 0, none⟩)
  fr : Fr H H'
  l8 : i8 < H'.size
  l9 : i9 < H'.size
  b8 : H'.get i8 = .rw [.int .i64 C, .slice a' l.length cap'] 24 false []
  b9 : H'.get i9 = .rw [.int .i64 w, .int .i64 ld] 26 false []
  sl : Sl H' a' l
theorem LQ.next {n p q i8 i9 : Nat} {a' : Option Addr} {cap' : Nat} {e e' : VT} {H' H'' : AHeap} (I : LQ n p q H C w ld l i8 i9 a' cap' e H') (f : Fr H' H'') (h : Keep n [p, q] e e') : LQ n p q H C w ld l i8 i9 a' cap' e' H'' where
  g8 := (h p (by simp)).trans I.g8
  g9 := (h q (by simp)).trans I.g9
  fr := I.fr.trans f
  l8 := Nat.lt_of_lt_of_le I.l8 f.size
  l9 := Nat.lt_of_lt_of_le I.l9 f.size
  b8 := (f.same _ I.l8).trans I.b8
  b9 := (f.same _ I.l9).trans I.b9
  sl := I.sl.fr f
theorem LQ.frx {n p q k i8 i9 : Nat} {a' ab : Option Addr} {bs : List Int} {capb cap' : Nat} {e e' : VT} {H' H'' : AHeap} (I : LQ n p q H C w ld l i8 i9 a' cap' e H') (h8 : i8 ≠ k) (h9 : i9 ≠ k) (hk : H.size ≤ k) (hc : Chu H' k ab bs capb) (f : FrX k H' H'') (h : Keep n [p, q] e e') : LQ n p q H C w ld l i8 i9 a' cap' e' H'' where
  g8 := (h p (by simp)).trans I.g8
  g9 := (h q (by simp)).trans I.g9
  fr := f.above I.fr hk
  l8 := Nat.lt_of_lt_of_le I.l8 f.size
  l9 := Nat.lt_of_lt_of_le I.l9 f.size
  b8 := (f.same _ I.l8 h8).trans I.b8
  b9 := (f.same _ I.l9 h9).trans I.b9
  sl := I.sl.frx hc f
end
end Go.Am
