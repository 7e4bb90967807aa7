/- What the tables say of more types and functions. -/
import Derived.Test.YtbbifibhpbjknaaT41
import Derived.Test.YtbbifibhpbjknaaT28
set_option linter.unusedSimpArgs false
set_option linter.unusedVariables false
set_option linter.defProp false
namespace Go.Am
open Go.Proofs
theorem st_brS_101_0 : brS tabA 101 0 = some (1, 105, []) := by kernel_rfl
theorem fn_63 : tabA.fn 63 = some Try.f63 := by kernel_rfl
theorem fn_64 : tabA.fn 64 = some Try.f64 := by kernel_rfl
theorem fn_65 : tabA.fn 65 = some Try.f65 := by kernel_rfl
theorem fn_66 : tabA.fn 66 = some Try.f66 := by kernel_rfl
theorem fn_111 : tabA.fn 111 = some Try.f111 := by kernel_rfl
theorem fn_112 : tabA.fn 112 = some Try.f112 := by kernel_rfl
theorem fn_126 : tabA.fn 126 = some Try.f126 := by kernel_rfl
def ysz := @st_brS_101_0
end Go.Am
/- Bars: the laws that alone keep a cart from a corner. -/
namespace Go.Am
open Go.Proofs
variable {T : Tab} {P : Program} {N L : Nat} {H : AHeap} {Q : Bool → Value → AHeap → Prop}
/-- The first laws that suit. -/
def barsL (p : Nat → Bool) : Nat → List Int
  | 0 => []
  | k + 1 => barsL p k ++ (if p k then [(k : Int)] else [])
theorem barsL_le {p : Nat → Bool} : ∀ k, (barsL p k).length ≤ k
  | 0 => by simp [barsL]
  | k + 1 => by
    have := barsL_le (p := p) k
    unfold barsL
    rw [List.length_append]
    split <;> simp <;> omega
/-- Where the cart can be without a law. -/
def freeP (C : Int) (l : List Str) (w ld fr to m : Int) (k : Nat) : Bool := !decide (tg (earT C (l.map (lift k)) w ld fr m) to = -1)
section
variable {a : Option Addr} {cap : Nat} {l : List Str} {C w ld : Int}
/-- A question of two corners and a minute. -/
theorem c82i {k₁ k₂ : Nat} {x y m : Int} (hs : Sl H a l) (hl : l.length ≤ 18) (h₁ : cellsOf (H.get k₁) = some [.int .i64 x, .int .i64 y]) (h₂ : cellsOf (H.get k₂) = some [.int .i64 m]) :
    acall tabA (aexec tabA Try.prog (N + 400)) 82 [.agg ⟨[.int .i64 C, .slice a l.length cap]⟩, .agg ⟨[.int .i64 w, .int .i64 ld]⟩, .slice (some ⟨k₁, 0, none⟩) 2 2, .slice none 0 0, .slice (some ⟨k₂, 0, none⟩) 1 1] H = some (true, .int .i64 (asked C l w ld [x, y] [] [m]), H, H.size) :=
  c82 (cs := [x, y]) (ss := []) (ms := [m]) (as' := none) (ks := 0) hs hl (Il.two (lt_of_cells h₁) h₁) (by simp) Il.nil (by simp) (Il.one (lt_of_cells h₂) h₂) (by simp)
theorem Grow.il {tb n c el : Nat} {a : Option Addr} {t : List Int} (g : Grow H tb (.slice a n c) n (tv t) el 1) (hn : t.length = n) : Il H a t := by
  by_cases h : n = 0
  · have : t = [] := List.length_eq_zero_iff.1 (by omega)
    subst this
    have e := g.nil h
    cases e
    exact Il.nil
  · obtain ⟨b, al, h1, h2, h3, h4, h5⟩ := g.cons h
    cases h1
    exact Il.of h3 (by rw [h4]; rfl)
set_option maxHeartbeats 4000000 in
theorem c62 {fr to m : Int} (hs : Sl H a l) (hl : l.length ≤ 16) (hC : 1 ≤ C ∧ C ≤ 8) (ho : ∀ s ∈ l, OkS C s) (hw : 1 ≤ w ∧ w ≤ 9) (hd : 0 ≤ ld ∧ ld ≤ 9) (hfr : 0 ≤ fr ∧ fr < C) (hto : 0 ≤ to ∧ to < C) (hm : 0 ≤ m ∧ m ≤ 240) (hL : L ≤ H.size) {M : Nat} (hM : 5500 ≤ M)
    (hq : ∀ f a' c H', Fr H H' → Il H' a' (barsL (freeP C l w ld fr to m) 4) → (barsL (freeP C l w ld fr to m) 4 = [] → a' = none ∧ c = 0) → tg (earT C l w ld fr m) to = -1 → Q f (.tuple ⟨[.slice a' (barsL (freeP C l w ld fr to m) 4).length c, .int .i64 0]⟩) H')
    (hq1 : ∀ f H', Fr H H' → tg (earT C l w ld fr m) to ≠ -1 → Q f (.tuple ⟨[.slice none 0 0, .int .i64 1]⟩) H') :
    resK (acall tabA (aexec tabA Try.prog M) 62 [.agg ⟨[.int .i64 C, .slice a l.length cap]⟩, .agg ⟨[.int .i64 w, .int .i64 ld]⟩, .int .i64 fr, .int .i64 to, .int .i64 m] H) L Q := by
  obtain ⟨N, rfl⟩ : ∃ N, M = N + 5500 := ⟨M - 5500, by omega⟩
  have h0 : asked C l w ld [fr, to] [] [m] = 0 := asked_zero hC hl ho hw hd (by simp; omega) (by simp; omega)
  have g : Good C l ld := good_of (chk_of hC hl ho) (off_iff.2 hd)
  have e8 := earT_ok (w := w) g (fr := fr) (a₀ := m) hfr hm
  have hat := tv_at e8.1 (x := to) (by omega)
  obtain ⟨p, hp⟩ : ∃ p, freeP C l w ld fr to m = p := ⟨_, rfl⟩
  rw [hp] at hq
  refine call_some (R := fun v H' => (¬ tg (earT C l w ld fr m) to = -1 ∧ v = .tuple ⟨[.slice none 0 0, .int .i64 1]⟩ ∧ Fr H H') ∨ (tg (earT C l w ld fr m) to = -1 ∧ ∃ a' c, v = .tuple ⟨[.slice a' (barsL p 4).length c, .int .i64 0]⟩ ∧ Fr H H' ∧ Il H' a' (barsL p 4) ∧ (barsL p 4 = [] → a' = none ∧ c = 0))) (k := 55) (rs := [.tmp 10, .tmp 11]) rfl fn_62 rfl rfl rfl hL ?_ ?_ ?_
  · simp (disch := (first | (simp only [ne_eq,Nat.reduceEqDiff,not_false_eq_true,Nat.reduceLT]; done) | omega | (simp only [yz] <;> omega) | fail)) only [↓yp,yq0,yq1,yq2,yq3,yq4,yl,ys0,ys1,Nat.reduceAdd,Nat.reduceMul,Nat.reduceSub,Nat.reduceBEq,Nat.reduceEqDiff,Nat.reduceLT,Nat.reduceLeDiff,reduceIte,Int.reduceAdd,Int.reduceSub,Int.reduceMul,Int.reduceLT,Int.reduceLE,Int.reduceEq,Int.reduceToNat,Int.reduceNeg,zed,zee,zfr,zhw,ysu,yrg,ysv,ysw,ysx,A_buildSlice st_brS_52_2,A_buildSlice st_brS_52_1]
    rw [c82i (x := fr) (y := to) (m := m) (hs.fr (by (repeat (first | exact Fr.refl _ | assumption | refine Fr.allocd ?_ _ | refine Fr.kill ?_ (by first | assumption | omega) | refine Fr.put ?_ (by first | omega | (simp only [yz] <;> omega)) _)))) (by omega) (by simp (disch := (first | (simp only [ne_eq,Nat.reduceEqDiff,not_false_eq_true,Nat.reduceLT]; done) | omega | (simp only [yz] <;> omega) | fail)) only [yg,Nat.reduceAdd,Nat.reduceEqDiff,Nat.reduceLT]) (by simp (disch := (first | (simp only [ne_eq,Nat.reduceEqDiff,not_false_eq_true,Nat.reduceLT]; done) | omega | (simp only [yz] <;> omega) | fail)) only [yg,Nat.reduceAdd,Nat.reduceEqDiff,Nat.reduceLT]), h0]
    simp (disch := (first | (simp only [ne_eq,Nat.reduceEqDiff,not_false_eq_true,Nat.reduceLT]; done) | omega | (simp only [yz] <;> omega) | fail)) only [↓yp,yq0,yq1,yq2,yq3,yq4,yl,ys0,ys1,Nat.reduceAdd,Nat.reduceMul,Nat.reduceSub,Nat.reduceBEq,Nat.reduceEqDiff,Nat.reduceLT,Nat.reduceLeDiff,reduceIte,Int.reduceAdd,Int.reduceSub,Int.reduceMul,Int.reduceLT,Int.reduceLE,Int.reduceEq,Int.reduceToNat,Int.reduceNeg,zed,zee,zfr,zhw,ysu,yrg,ysv,ysw,ysx]
    refine c83q (hs.fr (by (repeat (first | exact Fr.refl _ | assumption | refine Fr.allocd ?_ _ | refine Fr.kill ?_ (by first | assumption | omega) | refine Fr.put ?_ (by first | omega | (simp only [yz] <;> omega)) _)))).none_len (by (first | omega | (simp only [yz] <;> omega))) (by omega) ?_
    intro b3 H3 fr3
    have f3 := fr3.size
    have s3 := fr3.same
    simp only [zde] at f3
    have fH : Fr H H3 := Fr.trans (by (repeat (first | exact Fr.refl _ | assumption | refine Fr.allocd ?_ _ | refine Fr.kill ?_ (by first | assumption | omega) | refine Fr.put ?_ (by first | omega | (simp only [yz] <;> omega)) _))) fr3
    have h88 := fun (H' : AHeap) (f : Fr H H') (N : Nat) => c88 (N := N) (C := C) (w := w) (cap := cap) (fr := fr) (a₀ := m) g (hs.fr f) (by omega) hfr hm
    simp only [jobG] at h88
    simp (disch := (first | (simp only [ne_eq,Nat.reduceEqDiff,not_false_eq_true,Nat.reduceLT]; done) | omega | (simp only [yz] <;> omega) | fail)) only [↓yp,yq0,yq1,yq2,yq3,yq4,yl,ys0,ys1,Nat.reduceAdd,Nat.reduceMul,Nat.reduceSub,Nat.reduceBEq,Nat.reduceEqDiff,Nat.reduceLT,Nat.reduceLeDiff,reduceIte,Int.reduceAdd,Int.reduceSub,Int.reduceMul,Int.reduceLT,Int.reduceLE,Int.reduceEq,Int.reduceToNat,Int.reduceNeg,zed,zee,zfr,zhw,ysu,yrg,ysv,ysw,ysx,jobV]
    rw [h88 _ (by (repeat (first | exact Fr.refl _ | assumption | refine Fr.allocd ?_ _ | refine Fr.kill ?_ (by first | assumption | omega) | refine Fr.put ?_ (by first | omega | (simp only [yz] <;> omega)) _)))]
    simp (disch := (first | (simp only [ne_eq,Nat.reduceEqDiff,not_false_eq_true,Nat.reduceLT]; done) | omega | (simp only [yz] <;> omega) | fail)) only [↓yp,yq0,yq1,yq2,yq3,yq4,yl,ys0,ys1,Nat.reduceAdd,Nat.reduceMul,Nat.reduceSub,Nat.reduceBEq,Nat.reduceEqDiff,Nat.reduceLT,Nat.reduceLeDiff,reduceIte,Int.reduceAdd,Int.reduceSub,Int.reduceMul,Int.reduceLT,Int.reduceLE,Int.reduceEq,Int.reduceToNat,Int.reduceNeg,zed,zee,zfr,zhw,ysu,yrg,ysv,ysw,ysx]
    refine A_index_of (k := .i64) (i := to) (cs := tv (earT C l w ld fr m)) (v := .int .i64 (tg (earT C l w ld fr m) to)) st_ixV_130 (by simp (disch := (first | (simp only [ne_eq,Nat.reduceEqDiff,not_false_eq_true,Nat.reduceLT]; done) | omega | (simp only [yz] <;> omega) | fail)) only [↓yp,yq0,yq1,yq2,yq3,yq4,yl,ys0,ys1,Nat.reduceAdd,Nat.reduceMul,Nat.reduceSub,Nat.reduceBEq,Nat.reduceEqDiff,Nat.reduceLT,Nat.reduceLeDiff,reduceIte,Int.reduceAdd,Int.reduceSub,Int.reduceMul,Int.reduceLT,Int.reduceLE,Int.reduceEq,Int.reduceToNat,Int.reduceNeg,zed,zee,zfr,zhw,ysu,yrg,ysv,ysw,ysx]) (by simp (disch := (first | (simp only [ne_eq,Nat.reduceEqDiff,not_false_eq_true,Nat.reduceLT]; done) | omega | (simp only [yz] <;> omega) | fail)) only [↓yp,yq0,yq1,yq2,yq3,yq4,yl,ys0,ys1,Nat.reduceAdd,Nat.reduceMul,Nat.reduceSub,Nat.reduceBEq,Nat.reduceEqDiff,Nat.reduceLT,Nat.reduceLeDiff,reduceIte,Int.reduceAdd,Int.reduceSub,Int.reduceMul,Int.reduceLT,Int.reduceLE,Int.reduceEq,Int.reduceToNat,Int.reduceNeg,zed,zee,zfr,zhw,ysu,yrg,ysv,ysw,ysx]) ⟨by omega, by omega⟩ (by rw [zdj, Nat.mul_one]; exact hat) (by (first | omega | (simp only [yz] <;> omega))) ?_
    simp (disch := (first | (simp only [ne_eq,Nat.reduceEqDiff,not_false_eq_true,Nat.reduceLT]; done) | omega | (simp only [yz] <;> omega) | fail)) only [↓yp,yq0,yq1,yq2,yq3,yq4,yl,ys0,ys1,Nat.reduceAdd,Nat.reduceMul,Nat.reduceSub,Nat.reduceBEq,Nat.reduceEqDiff,Nat.reduceLT,Nat.reduceLeDiff,reduceIte,Int.reduceAdd,Int.reduceSub,Int.reduceMul,Int.reduceLT,Int.reduceLE,Int.reduceEq,Int.reduceToNat,Int.reduceNeg,zed,zee,zfr,zhw,ysu,yrg,ysv,ysw,ysx]
    refine ⟨fun hA => ?_, fun hA => ?_⟩
    rotate_left
    · have hA' : tg (earT C l w ld fr m) to ≠ -1 := of_decide_eq_false hA
      simp (disch := (first | (simp only [ne_eq,Nat.reduceEqDiff,not_false_eq_true,Nat.reduceLT]; done) | omega | (simp only [yz] <;> omega) | fail)) only [↓yp,yq0,yq1,yq2,yq3,yq4,yl,ys0,ys1,Nat.reduceAdd,Nat.reduceMul,Nat.reduceSub,Nat.reduceBEq,Nat.reduceEqDiff,Nat.reduceLT,Nat.reduceLeDiff,reduceIte,Int.reduceAdd,Int.reduceSub,Int.reduceMul,Int.reduceLT,Int.reduceLE,Int.reduceEq,Int.reduceToNat,Int.reduceNeg,zed,zee,zfr,zhw,ysu,yrg,ysv,ysw,ysx]
      exact .inl ⟨hA', Fr.put (Fr.allocd fH _) (by omega) _⟩
    have hA' : tg (earT C l w ld fr m) to = -1 := of_decide_eq_true hA
    simp (disch := (first | (simp only [ne_eq,Nat.reduceEqDiff,not_false_eq_true,Nat.reduceLT]; done) | omega | (simp only [yz] <;> omega) | fail)) only [↓yp,yq0,yq1,yq2,yq3,yq4,yl,ys0,ys1,Nat.reduceAdd,Nat.reduceMul,Nat.reduceSub,Nat.reduceBEq,Nat.reduceEqDiff,Nat.reduceLT,Nat.reduceLeDiff,reduceIte,Int.reduceAdd,Int.reduceSub,Int.reduceMul,Int.reduceLT,Int.reduceLE,Int.reduceEq,Int.reduceToNat,Int.reduceNeg,zed,zee,zfr,zhw,ysu,yrg,ysv,ysw,ysx]
    refine W_while (n := 55) 5000 (fun k e H' => ∃ j ga gc, ∃ lf : Int, k = 4 - j ∧ j ≤ 4 ∧ gt 55 e 37 = .int .i64 (j : Nat) ∧ gt 55 e 13 = .pointer (some ⟨H3.size, 0, none⟩) ∧ gt 55 e 2 = .int .i64 fr ∧ gt 55 e 3 = .int .i64 to ∧ gt 55 e 4 = .int .i64 m ∧ gt 55 e 14 = .slice ga (barsL p j).length gc ∧ Fr H3 H' ∧ H3.size < H'.size ∧ H'.get H3.size = .rw [.int .i64 C, .slice a l.length cap, .int .i64 w, .int .i64 ld, .int .i64 lf] 124 false [] ∧ Grow H' H3.size (.slice ga (barsL p j).length gc) (barsL p j).length (tv (barsL p j)) 105 1)
      ?_ 4 4 ⟨0, none, 0, -1, by omega, by omega, by simp (disch := (first | (simp only [ne_eq,Nat.reduceEqDiff,not_false_eq_true,Nat.reduceLT]; done) | omega | (simp only [yz] <;> omega) | fail)) only [yg,Nat.reduceAdd,Nat.reduceEqDiff,Nat.reduceLT]; rfl, by simp (disch := (first | (simp only [ne_eq,Nat.reduceEqDiff,not_false_eq_true,Nat.reduceLT]; done) | omega | (simp only [yz] <;> omega) | fail)) only [yg,Nat.reduceAdd,Nat.reduceEqDiff,Nat.reduceLT], by simp (disch := (first | (simp only [ne_eq,Nat.reduceEqDiff,not_false_eq_true,Nat.reduceLT]; done) | omega | (simp only [yz] <;> omega) | fail)) only [yg,Nat.reduceAdd,Nat.reduceEqDiff,Nat.reduceLT], by simp (disch := (first | (simp only [ne_eq,Nat.reduceEqDiff,not_false_eq_true,Nat.reduceLT]; done) | omega | (simp only [yz] <;> omega) | fail)) only [yg,Nat.reduceAdd,Nat.reduceEqDiff,Nat.reduceLT], by simp (disch := (first | (simp only [ne_eq,Nat.reduceEqDiff,not_false_eq_true,Nat.reduceLT]; done) | omega | (simp only [yz] <;> omega) | fail)) only [yg,Nat.reduceAdd,Nat.reduceEqDiff,Nat.reduceLT], by simp (disch := (first | (simp only [ne_eq,Nat.reduceEqDiff,not_false_eq_true,Nat.reduceLT]; done) | omega | (simp only [yz] <;> omega) | fail)) only [yg,Nat.reduceAdd,Nat.reduceEqDiff,Nat.reduceLT]; rfl, by (repeat (first | exact Fr.refl _ | assumption | refine Fr.allocd ?_ _ | refine Fr.kill ?_ (by first | assumption | omega) | refine Fr.put ?_ (by first | omega | (simp only [yz] <;> omega)) _)), by (first | omega | (simp only [yz] <;> omega)), by simp (disch := (first | (simp only [ne_eq,Nat.reduceEqDiff,not_false_eq_true,Nat.reduceLT]; done) | omega | (simp only [yz] <;> omega) | fail)) only [yg,Nat.reduceAdd,Nat.reduceEqDiff,Nat.reduceLT], ⟨fun _ => rfl, fun h => absurd rfl h⟩⟩ (by omega) (by omega)
    rintro M1 k1 e H' ⟨j, ga, gc, lf, rfl, hj, g37, g13, g2, g3, g4, g14, fr', htb, hgt, gw⟩
    have f0 := fr'.size
    simp (disch := (first | (simp only [ne_eq,Nat.reduceEqDiff,not_false_eq_true,Nat.reduceLT]; done) | omega | (simp only [yz] <;> omega) | fail)) only [↓yp,yq0,yq1,yq2,yq3,yq4,yl,ys0,ys1,Nat.reduceAdd,Nat.reduceMul,Nat.reduceSub,Nat.reduceBEq,Nat.reduceEqDiff,Nat.reduceLT,Nat.reduceLeDiff,reduceIte,Int.reduceAdd,Int.reduceSub,Int.reduceMul,Int.reduceLT,Int.reduceLE,Int.reduceEq,Int.reduceToNat,Int.reduceNeg,zed,zee,zfr,zhw,ysu,yrg,ysv,ysw,ysx,g37]
    refine ⟨fun hB => ?_, fun hB => ?_⟩
    · have hj4 : j < 4 := by have := of_decide_eq_true hB; omega
      have hlf : 0 ≤ (j : Int) ∧ (j : Int) ≤ 3 := by omega
      have hw2 : w64 ((j : Int) + 1) = ((j + 1 : Nat) : Int) := by rw [w64_of (by omega)]; omega
      have gL : Good C (l.map (lift j)) ld := goodL hC hl ho hd
      have e8' := earT_ok (w := w) gL (fr := fr) (a₀ := m) hfr hm
      have hat' := tv_at e8'.1 (x := to) (by omega)
      have hpj : p j = !decide (tg (earT C (l.map (lift j)) w ld fr m) to = -1) := by rw [← hp]; rfl
      have h88 := fun (H' : AHeap) (f : Fr H H') (N : Nat) => c88L (N := N) (C := C) (w := w) (cap := cap) (fr := fr) (a₀ := m) (lf := (j : Int)) g gL (hs.fr f) (by omega) hlf (by omega) (by omega) hfr hm
      simp only [jobG] at h88
      have fHH : Fr H H' := fH.trans fr'
      simp (disch := (first | (simp only [ne_eq,Nat.reduceEqDiff,not_false_eq_true,Nat.reduceLT]; done) | omega | (simp only [yz] <;> omega) | fail)) only [↓yp,yq0,yq1,yq2,yq3,yq4,yl,ys0,ys1,Nat.reduceAdd,Nat.reduceMul,Nat.reduceSub,Nat.reduceBEq,Nat.reduceEqDiff,Nat.reduceLT,Nat.reduceLeDiff,reduceIte,Int.reduceAdd,Int.reduceSub,Int.reduceMul,Int.reduceLT,Int.reduceLE,Int.reduceEq,Int.reduceToNat,Int.reduceNeg,zed,zee,zfr,zhw,ysu,yrg,ysv,ysw,ysx,g37,g13,hgt]
      rw [g2, g4, h88 _ (Fr.put fHH (by omega) _)]
      simp (disch := (first | (simp only [ne_eq,Nat.reduceEqDiff,not_false_eq_true,Nat.reduceLT]; done) | omega | (simp only [yz] <;> omega) | fail)) only [↓yp,yq0,yq1,yq2,yq3,yq4,yl,ys0,ys1,Nat.reduceAdd,Nat.reduceMul,Nat.reduceSub,Nat.reduceBEq,Nat.reduceEqDiff,Nat.reduceLT,Nat.reduceLeDiff,reduceIte,Int.reduceAdd,Int.reduceSub,Int.reduceMul,Int.reduceLT,Int.reduceLE,Int.reduceEq,Int.reduceToNat,Int.reduceNeg,zed,zee,zfr,zhw,ysu,yrg,ysv,ysw,ysx]
      refine A_index_of (k := .i64) (i := to) (cs := tv (earT C (l.map (lift j)) w ld fr m)) (v := .int .i64 (tg (earT C (l.map (lift j)) w ld fr m) to)) st_ixV_130 (by simp (disch := (first | (simp only [ne_eq,Nat.reduceEqDiff,not_false_eq_true,Nat.reduceLT]; done) | omega | (simp only [yz] <;> omega) | fail)) only [↓yp,yq0,yq1,yq2,yq3,yq4,yl,ys0,ys1,Nat.reduceAdd,Nat.reduceMul,Nat.reduceSub,Nat.reduceBEq,Nat.reduceEqDiff,Nat.reduceLT,Nat.reduceLeDiff,reduceIte,Int.reduceAdd,Int.reduceSub,Int.reduceMul,Int.reduceLT,Int.reduceLE,Int.reduceEq,Int.reduceToNat,Int.reduceNeg,zed,zee,zfr,zhw,ysu,yrg,ysv,ysw,ysx]) (by simp (disch := (first | (simp only [ne_eq,Nat.reduceEqDiff,not_false_eq_true,Nat.reduceLT]; done) | omega | (simp only [yz] <;> omega) | fail)) only [↓yp,yq0,yq1,yq2,yq3,yq4,yl,ys0,ys1,Nat.reduceAdd,Nat.reduceMul,Nat.reduceSub,Nat.reduceBEq,Nat.reduceEqDiff,Nat.reduceLT,Nat.reduceLeDiff,reduceIte,Int.reduceAdd,Int.reduceSub,Int.reduceMul,Int.reduceLT,Int.reduceLE,Int.reduceEq,Int.reduceToNat,Int.reduceNeg,zed,zee,zfr,zhw,ysu,yrg,ysv,ysw,ysx,g3]) ⟨by omega, by omega⟩ (by rw [zdj, Nat.mul_one]; exact hat') (by (first | omega | (simp only [yz] <;> omega))) ?_
      have hbe : barsL p (j + 1) = barsL p j ++ (if p j then [(j : Int)] else []) := rfl
      cases hD : decide (tg (earT C (l.map (lift j)) w ld fr m) to = -1)
      · rw [hD] at hpj
        rw [hpj] at hbe
        simp only [Bool.not_false,if_true] at hbe
        have hln := barsL_le (p := p) j
        simp (disch := (first | (simp only [ne_eq,Nat.reduceEqDiff,not_false_eq_true,Nat.reduceLT]; done) | omega | (simp only [yz] <;> omega) | fail)) only [↓yp,yq0,yq1,yq2,yq3,yq4,yl,ys0,ys1,Nat.reduceAdd,Nat.reduceMul,Nat.reduceSub,Nat.reduceBEq,Nat.reduceEqDiff,Nat.reduceLT,Nat.reduceLeDiff,reduceIte,Int.reduceAdd,Int.reduceSub,Int.reduceMul,Int.reduceLT,Int.reduceLE,Int.reduceEq,Int.reduceToNat,Int.reduceNeg,zed,zee,zfr,zhw,ysu,yrg,ysv,ysw,ysx,g37,g14,hD,A_buildSlice st_brS_101_1]
        refine grow_append (i := (barsL p j).length) (cs := tv (barsL p j)) (news := [.int .i64 (j : Int)]) st_apS_101 ((gw.put (Nat.le_refl _)).fr (by (repeat (first | exact Fr.refl _ | assumption | refine Fr.allocd ?_ _ | refine Fr.kill ?_ (by first | assumption | omega) | refine Fr.put ?_ (by first | omega | (simp only [yz] <;> omega)) _)))) (by (first | omega | (simp only [yz] <;> omega))) (by rw [tv_len]; omega) (by unfold srcCells; simp (disch := (first | (simp only [ne_eq,Nat.reduceEqDiff,not_false_eq_true,Nat.reduceLT]; done) | omega | (simp only [yz] <;> omega) | fail)) only [yg,Nat.reduceAdd,Nat.reduceEqDiff,Nat.reduceLT]; rfl) (by omega) (by omega) rfl (by omega) ?_
        intro a' c' H₂ fu gw'
        have u0 := fu.size
        have us := fu.same
        simp only [zde,zdf] at u0
        have e1 : (barsL p (j + 1)).length = (barsL p j).length + 1 := by rw [hbe, List.length_append]; rfl
        have etv : tv (barsL p (j + 1)) = tv (barsL p j) ++ [.int .i64 (j : Int)] := by rw [hbe]; unfold tv; rw [List.map_append]; rfl
        simp (disch := (first | (simp only [ne_eq,Nat.reduceEqDiff,not_false_eq_true,Nat.reduceLT]; done) | omega | (simp only [yz] <;> omega) | fail)) only [↓yp,yq0,yq1,yq2,yq3,yq4,yl,ys0,ys1,Nat.reduceAdd,Nat.reduceMul,Nat.reduceSub,Nat.reduceBEq,Nat.reduceEqDiff,Nat.reduceLT,Nat.reduceLeDiff,reduceIte,Int.reduceAdd,Int.reduceSub,Int.reduceMul,Int.reduceLT,Int.reduceLE,Int.reduceEq,Int.reduceToNat,Int.reduceNeg,zed,zee,zfr,zhw,ysu,yrg,ysv,ysw,ysx,g37,hw2]
        refine ⟨4 - (j + 1), by omega, j + 1, a', c', j, rfl, by omega, ?_, ?_, ?_, ?_, ?_, ?_, ?_, ?_, ?_, ?_⟩
        · simp (disch := (first | (simp only [ne_eq,Nat.reduceEqDiff,not_false_eq_true,Nat.reduceLT]; done) | omega | (simp only [yz] <;> omega) | fail)) only [yg,Nat.reduceAdd,Nat.reduceEqDiff,Nat.reduceLT]
        · simp (disch := (first | (simp only [ne_eq,Nat.reduceEqDiff,not_false_eq_true,Nat.reduceLT]; done) | omega | (simp only [yz] <;> omega) | fail)) only [yg,Nat.reduceAdd,Nat.reduceEqDiff,Nat.reduceLT,g13]
        · simp (disch := (first | (simp only [ne_eq,Nat.reduceEqDiff,not_false_eq_true,Nat.reduceLT]; done) | omega | (simp only [yz] <;> omega) | fail)) only [yg,Nat.reduceAdd,Nat.reduceEqDiff,Nat.reduceLT,g2]
        · simp (disch := (first | (simp only [ne_eq,Nat.reduceEqDiff,not_false_eq_true,Nat.reduceLT]; done) | omega | (simp only [yz] <;> omega) | fail)) only [yg,Nat.reduceAdd,Nat.reduceEqDiff,Nat.reduceLT,g3]
        · simp (disch := (first | (simp only [ne_eq,Nat.reduceEqDiff,not_false_eq_true,Nat.reduceLT]; done) | omega | (simp only [yz] <;> omega) | fail)) only [yg,Nat.reduceAdd,Nat.reduceEqDiff,Nat.reduceLT,g4]
        · simp (disch := (first | (simp only [ne_eq,Nat.reduceEqDiff,not_false_eq_true,Nat.reduceLT]; done) | omega | (simp only [yz] <;> omega) | fail)) only [yg,Nat.reduceAdd,Nat.reduceEqDiff,Nat.reduceLT,e1]
        · refine Fr.part (H₁ := _) ?_ fu (by (first | omega | (simp only [yz] <;> omega)))
          exact Fr.allocd (Fr.put fr' (Nat.le_refl _) _) _
        · (first | omega | (simp only [yz] <;> omega))
        · rw [us _ (by omega), zdb (by (first | omega | (simp only [yz] <;> omega))), zdc (by omega)]
        · rw [e1, etv]; exact gw'
      · rw [hD] at hpj
        rw [hpj] at hbe
        simp only [Bool.not_true,Bool.false_eq_true,if_false,List.append_nil] at hbe
        simp (disch := (first | (simp only [ne_eq,Nat.reduceEqDiff,not_false_eq_true,Nat.reduceLT]; done) | omega | (simp only [yz] <;> omega) | fail)) only [↓yp,yq0,yq1,yq2,yq3,yq4,yl,ys0,ys1,Nat.reduceAdd,Nat.reduceMul,Nat.reduceSub,Nat.reduceBEq,Nat.reduceEqDiff,Nat.reduceLT,Nat.reduceLeDiff,reduceIte,Int.reduceAdd,Int.reduceSub,Int.reduceMul,Int.reduceLT,Int.reduceLE,Int.reduceEq,Int.reduceToNat,Int.reduceNeg,zed,zee,zfr,zhw,ysu,yrg,ysv,ysw,ysx,g37,hD,hw2]
        refine ⟨4 - (j + 1), by omega, j + 1, ga, gc, j, rfl, by omega, ?_, ?_, ?_, ?_, ?_, ?_, ?_, ?_, ?_, ?_⟩
        · simp (disch := (first | (simp only [ne_eq,Nat.reduceEqDiff,not_false_eq_true,Nat.reduceLT]; done) | omega | (simp only [yz] <;> omega) | fail)) only [yg,Nat.reduceAdd,Nat.reduceEqDiff,Nat.reduceLT]
        · simp (disch := (first | (simp only [ne_eq,Nat.reduceEqDiff,not_false_eq_true,Nat.reduceLT]; done) | omega | (simp only [yz] <;> omega) | fail)) only [yg,Nat.reduceAdd,Nat.reduceEqDiff,Nat.reduceLT,g13]
        · simp (disch := (first | (simp only [ne_eq,Nat.reduceEqDiff,not_false_eq_true,Nat.reduceLT]; done) | omega | (simp only [yz] <;> omega) | fail)) only [yg,Nat.reduceAdd,Nat.reduceEqDiff,Nat.reduceLT,g2]
        · simp (disch := (first | (simp only [ne_eq,Nat.reduceEqDiff,not_false_eq_true,Nat.reduceLT]; done) | omega | (simp only [yz] <;> omega) | fail)) only [yg,Nat.reduceAdd,Nat.reduceEqDiff,Nat.reduceLT,g3]
        · simp (disch := (first | (simp only [ne_eq,Nat.reduceEqDiff,not_false_eq_true,Nat.reduceLT]; done) | omega | (simp only [yz] <;> omega) | fail)) only [yg,Nat.reduceAdd,Nat.reduceEqDiff,Nat.reduceLT,g4]
        · simp (disch := (first | (simp only [ne_eq,Nat.reduceEqDiff,not_false_eq_true,Nat.reduceLT]; done) | omega | (simp only [yz] <;> omega) | fail)) only [yg,Nat.reduceAdd,Nat.reduceEqDiff,Nat.reduceLT,g14,hbe]
        · exact Fr.put fr' (Nat.le_refl _) _
        · (first | omega | (simp only [yz] <;> omega))
        · exact zdc (by omega)
        · rw [hbe]; exact gw.put (Nat.le_refl _)
    · have hj4 : j = 4 := by have := of_decide_eq_false hB; omega
      subst hj4
      simp (disch := (first | (simp only [ne_eq,Nat.reduceEqDiff,not_false_eq_true,Nat.reduceLT]; done) | omega | (simp only [yz] <;> omega) | fail)) only [↓yp,yq0,yq1,yq2,yq3,yq4,yl,ys0,ys1,Nat.reduceAdd,Nat.reduceMul,Nat.reduceSub,Nat.reduceBEq,Nat.reduceEqDiff,Nat.reduceLT,Nat.reduceLeDiff,reduceIte,Int.reduceAdd,Int.reduceSub,Int.reduceMul,Int.reduceLT,Int.reduceLE,Int.reduceEq,Int.reduceToNat,Int.reduceNeg,zed,zee,zfr,zhw,ysu,yrg,ysv,ysw,ysx,g14]
      exact .inr ⟨hA', ga, gc, rfl, fH.trans fr', gw.il rfl, fun he => by
        have := gw.nil (by rw [he]; rfl)
        simp only [Value.slice.injEq] at this
        exact ⟨this.1, this.2.2⟩⟩
  · rintro v H' (⟨h1, rfl, h2⟩ | ⟨h1, a', c, rfl, h2, h3, h4⟩)
    · exact hq1 _ _ h2 h1
    · exact hq _ _ _ _ h2 h3 h4 h1
  · rintro v H' (⟨h1, rfl, h2⟩ | ⟨h1, a', c, rfl, h2, h3, h4⟩) hg
    · exact hq1 _ _ (Fr.refl H) h1
    · have hnil : barsL p 4 = [] := Classical.byContradiction fun hne => by
        obtain ⟨b, o, c', rfl, _⟩ := h3.get hne
        simp [gr, ground] at hg
      rw [hnil] at hq h3 h4 ⊢
      exact hq _ _ _ _ (Fr.refl H) ⟨fun hne => absurd rfl hne⟩ h4 h1
end
end Go.Am
/- Lists of laws: sorted, asked for one, without what stands twice, copied. -/
namespace Go.Am
open Go.Proofs
variable {T : Tab} {P : Program} {N L : Nat} {H : AHeap} {Q : Bool → Value → AHeap → Prop}
section
variable {a : Option Addr} {cap : Nat} {t : List Int}
theorem c126 {x : Int} : acall tabA (aexec tabA Try.prog (N + 20)) 126 [.int .i64 x] H = some (true, .bool false, H, H.size) := by
  refine call_quiet (k := 6) (rs := [.tmp 2]) rfl fn_126 rfl rfl rfl ?_ rfl
  have hcc : decide (x = x) = true := by simp
  simp (disch := (first | (simp only [ne_eq,Nat.reduceEqDiff,not_false_eq_true,Nat.reduceLT]; done) | omega | (simp only [yz] <;> omega) | fail)) only [↓yp,yq0,yq1,yq2,yq3,yq4,yl,ys0,ys1,Nat.reduceAdd,Nat.reduceMul,Nat.reduceSub,Nat.reduceBEq,Nat.reduceEqDiff,Nat.reduceLT,Nat.reduceLeDiff,reduceIte,Int.reduceAdd,Int.reduceSub,Int.reduceMul,Int.reduceLT,Int.reduceLE,Int.reduceEq,Int.reduceToNat,Int.reduceNeg,zed,zee,zfr,zhw,ysu,yrg,ysv,ysw,ysx,ysz,hcc]
theorem c111 {x y : Int} : acall tabA (aexec tabA Try.prog (N + 60)) 111 [.int .i64 x, .int .i64 y] H = some (true, .bool (decide (x < y)), H, H.size) := by
  refine call_quiet (k := 17) (rs := [.tmp 4]) rfl fn_111 rfl rfl rfl ?_ rfl
  simp (disch := (first | (simp only [ne_eq,Nat.reduceEqDiff,not_false_eq_true,Nat.reduceLT]; done) | omega | (simp only [yz] <;> omega) | fail)) only [↓yp,yq0,yq1,yq2,yq3,yq4,yl,ys0,ys1,Nat.reduceAdd,Nat.reduceMul,Nat.reduceSub,Nat.reduceBEq,Nat.reduceEqDiff,Nat.reduceLT,Nat.reduceLeDiff,reduceIte,Int.reduceAdd,Int.reduceSub,Int.reduceMul,Int.reduceLT,Int.reduceLE,Int.reduceEq,Int.reduceToNat,Int.reduceNeg,zed,zee,zfr,zhw,ysu,yrg,ysv,ysw,ysx,ysz,c126]
/-- Numbers that never get less. -/
theorem c63 (hs : Il H a t) (hl : t.length ≤ 8) (ht : ∀ (i : Nat) x y, t[i]? = some x → t[i + 1]? = some y → x ≤ y) :
    acall tabA (aexec tabA Try.prog (N + 200)) 63 [.slice a t.length cap] H = some (true, .bool true, H, H.size) := by
  refine call_quiet (k := 21) (rs := [.tmp 2]) rfl fn_63 rfl rfl rfl ?_ rfl
  have hw1 : w64 ((t.length : Int) - 1) = (t.length : Int) - 1 := w64_of (by omega)
  simp (disch := (first | (simp only [ne_eq,Nat.reduceEqDiff,not_false_eq_true,Nat.reduceLT]; done) | omega | (simp only [yz] <;> omega) | fail)) only [↓yp,yq0,yq1,yq2,yq3,yq4,yl,ys0,ys1,Nat.reduceAdd,Nat.reduceMul,Nat.reduceSub,Nat.reduceBEq,Nat.reduceEqDiff,Nat.reduceLT,Nat.reduceLeDiff,reduceIte,Int.reduceAdd,Int.reduceSub,Int.reduceMul,Int.reduceLT,Int.reduceLE,Int.reduceEq,Int.reduceToNat,Int.reduceNeg,zed,zee,zfr,zhw,ysu,yrg,ysv,ysw,ysx,ysz,lenV_slice st_esS_101,hw1]
  refine W_while (n := 21) 120 (fun k e H' => ∃ i : Nat, k = i ∧ (i = 0 ∨ i < t.length) ∧ gt 21 e 3 = .int .i64 (if t.length = 0 then -1 else (i : Int)) ∧ gt 21 e 0 = .slice a t.length cap ∧ H' = H)
    ?_ 8 (t.length - 1) ⟨t.length - 1, rfl, by omega, by simp (disch := (first | (simp only [ne_eq,Nat.reduceEqDiff,not_false_eq_true,Nat.reduceLT]; done) | omega | (simp only [yz] <;> omega) | fail)) only [yg,Nat.reduceAdd,Nat.reduceEqDiff,Nat.reduceLT]; split <;> congr 1 <;> omega, by simp (disch := (first | (simp only [ne_eq,Nat.reduceEqDiff,not_false_eq_true,Nat.reduceLT]; done) | omega | (simp only [yz] <;> omega) | fail)) only [yg,Nat.reduceAdd,Nat.reduceEqDiff,Nat.reduceLT], rfl⟩ (by omega) (by omega)
  rintro M k e H' ⟨i, rfl, hi, g3, g0, rfl⟩
  by_cases h0 : t.length = 0
  · rw [if_pos h0] at g3
    simp (disch := (first | (simp only [ne_eq,Nat.reduceEqDiff,not_false_eq_true,Nat.reduceLT]; done) | omega | (simp only [yz] <;> omega) | fail)) only [↓yp,yq0,yq1,yq2,yq3,yq4,yl,ys0,ys1,Nat.reduceAdd,Nat.reduceMul,Nat.reduceSub,Nat.reduceBEq,Nat.reduceEqDiff,Nat.reduceLT,Nat.reduceLeDiff,reduceIte,Int.reduceAdd,Int.reduceSub,Int.reduceMul,Int.reduceLT,Int.reduceLE,Int.reduceEq,Int.reduceToNat,Int.reduceNeg,zed,zee,zfr,zhw,ysu,yrg,ysv,ysw,ysx,ysz,g3]
  rw [if_neg h0] at g3
  simp (disch := (first | (simp only [ne_eq,Nat.reduceEqDiff,not_false_eq_true,Nat.reduceLT]; done) | omega | (simp only [yz] <;> omega) | fail)) only [↓yp,yq0,yq1,yq2,yq3,yq4,yl,ys0,ys1,Nat.reduceAdd,Nat.reduceMul,Nat.reduceSub,Nat.reduceBEq,Nat.reduceEqDiff,Nat.reduceLT,Nat.reduceLeDiff,reduceIte,Int.reduceAdd,Int.reduceSub,Int.reduceMul,Int.reduceLT,Int.reduceLE,Int.reduceEq,Int.reduceToNat,Int.reduceNeg,zed,zee,zfr,zhw,ysu,yrg,ysv,ysw,ysx,ysz,g3]
  refine ⟨fun hA => ?_, fun hA => ?_⟩
  · have hi0 : 0 < k := by have := of_decide_eq_true hA; omega
    have hik : k < t.length := by omega
    have hne : t ≠ [] := fun h => by rw [h] at hik; simp at hik
    obtain ⟨b, o, c, rfl, hb, hc, hp⟩ := hs.get hne
    obtain ⟨v, hv⟩ : ∃ v, t[k]? = some v := ⟨t[k], by simp [hik]⟩
    obtain ⟨u, hu⟩ : ∃ u, t[k - 1]? = some u := ⟨t[k - 1]'(by omega), by simp [show k - 1 < t.length by omega]⟩
    have q := hp k v hv
    have q' := hp (k - 1) u hu
    have hle := ht (k - 1) u v hu (by rw [show k - 1 + 1 = k by omega]; exact hv)
    have hw2 : w64 ((k : Int) - 1) = ((k - 1 : Nat) : Int) := by rw [w64_of (by omega)]; omega
    have hd : decide (v < u) = false := by simp; omega
    simp (disch := (first | (simp only [ne_eq,Nat.reduceEqDiff,not_false_eq_true,Nat.reduceLT]; done) | omega | (simp only [yz] <;> omega) | fail)) only [↓yp,yq0,yq1,yq2,yq3,yq4,yl,ys0,ys1,Nat.reduceAdd,Nat.reduceMul,Nat.reduceSub,Nat.reduceBEq,Nat.reduceEqDiff,Nat.reduceLT,Nat.reduceLeDiff,reduceIte,Int.reduceAdd,Int.reduceSub,Int.reduceMul,Int.reduceLT,Int.reduceLE,Int.reduceEq,Int.reduceToNat,Int.reduceNeg,zed,zee,zfr,zhw,ysu,yrg,ysv,ysw,ysx,ysz]
    refine W_draw [] rfl (by kernel_rfl) (by kernel_rfl) (by (first | omega | (simp only [yz] <;> omega))) ?_
    simp (disch := (first | (simp only [ne_eq,Nat.reduceEqDiff,not_false_eq_true,Nat.reduceLT]; done) | omega | (simp only [yz] <;> omega) | fail)) only [↓yp,yq0,yq1,yq2,yq3,yq4,yl,ys0,ys1,Nat.reduceAdd,Nat.reduceMul,Nat.reduceSub,Nat.reduceBEq,Nat.reduceEqDiff,Nat.reduceLT,Nat.reduceLeDiff,reduceIte,Int.reduceAdd,Int.reduceSub,Int.reduceMul,Int.reduceLT,Int.reduceLE,Int.reduceEq,Int.reduceToNat,Int.reduceNeg,zed,zee,zfr,zhw,ysu,yrg,ysv,ysw,ysx,ysz,g3,g0,A_indexSlice st_esS_101,hc,q,q',hw2,c111,hd]
    refine ⟨k - 1, by omega, k - 1, rfl, by omega, ?_, ?_, rfl⟩
    · simp (disch := (first | (simp only [ne_eq,Nat.reduceEqDiff,not_false_eq_true,Nat.reduceLT]; done) | omega | (simp only [yz] <;> omega) | fail)) only [yg,Nat.reduceAdd,Nat.reduceEqDiff,Nat.reduceLT,if_neg h0]
    · simp (disch := (first | (simp only [ne_eq,Nat.reduceEqDiff,not_false_eq_true,Nat.reduceLT]; done) | omega | (simp only [yz] <;> omega) | fail)) only [yg,Nat.reduceAdd,Nat.reduceEqDiff,Nat.reduceLT,g0]
  · simp (disch := (first | (simp only [ne_eq,Nat.reduceEqDiff,not_false_eq_true,Nat.reduceLT]; done) | omega | (simp only [yz] <;> omega) | fail)) only [↓yp,yq0,yq1,yq2,yq3,yq4,yl,ys0,ys1,Nat.reduceAdd,Nat.reduceMul,Nat.reduceSub,Nat.reduceBEq,Nat.reduceEqDiff,Nat.reduceLT,Nat.reduceLeDiff,reduceIte,Int.reduceAdd,Int.reduceSub,Int.reduceMul,Int.reduceLT,Int.reduceLE,Int.reduceEq,Int.reduceToNat,Int.reduceNeg,zed,zee,zfr,zhw,ysu,yrg,ysv,ysw,ysx,ysz]
/-- Whether a number is there. -/
theorem c112 {v : Int} (hs : Il H a t) (hl : t.length ≤ 8) :
    ∃ r : Int, (decide (0 ≤ r) = decide (v ∈ t)) ∧ ∀ N, acall tabA (aexec tabA Try.prog (N + 100)) 112 [.slice a t.length cap, .int .i64 v] H = some (true, .int .i64 r, H, H.size) := by
  obtain ⟨r, hr⟩ : ∃ r : Int, r = (match t.findIdx? (fun x => decide (v = x)) with | some i => (i : Int) | none => -1) := ⟨_, rfl⟩
  refine ⟨r, ?_, fun N => ?_⟩
  · cases h : t.findIdx? (fun x => decide (v = x)) with
    | none =>
      rw [h] at hr
      subst hr
      have h1 := List.findIdx?_eq_none_iff.1 h
      have h2 : v ∉ t := fun hm => by have := h1 v hm; simp at this
      simp [h2]
    | some i =>
      rw [h] at hr
      subst hr
      obtain ⟨h1, h2, -⟩ := List.findIdx?_eq_some_iff_getElem.1 h
      have h3 : v = t[i] := of_decide_eq_true h2
      have : v ∈ t := by rw [h3]; exact List.getElem_mem _
      simp [this]
  refine call_quiet (k := 19) (rs := [.tmp 4]) rfl fn_112 rfl rfl rfl ?_ rfl
  simp (disch := (first | (simp only [ne_eq,Nat.reduceEqDiff,not_false_eq_true,Nat.reduceLT]; done) | omega | (simp only [yz] <;> omega) | fail)) only [↓yp,yq0,yq1,yq2,yq3,yq4,yl,ys0,ys1,Nat.reduceAdd,Nat.reduceMul,Nat.reduceSub,Nat.reduceBEq,Nat.reduceEqDiff,Nat.reduceLT,Nat.reduceLeDiff,reduceIte,Int.reduceAdd,Int.reduceSub,Int.reduceMul,Int.reduceLT,Int.reduceLE,Int.reduceEq,Int.reduceToNat,Int.reduceNeg,zed,zee,zfr,zhw,ysu,yrg,ysv,ysw,ysx,ysz,lenV_slice st_esS_101]
  refine W_while (n := 19) 40 (fun k e H' => ∃ i : Nat, k = t.length - i ∧ i ≤ t.length ∧ gt 19 e 8 = .int .i64 (i : Nat) ∧ gt 19 e 7 = .int .i64 t.length ∧ gt 19 e 0 = .slice a t.length cap ∧ gt 19 e 1 = .int .i64 v ∧ H' = H ∧ ∀ j x, j < i → t[j]? = some x → v ≠ x)
    ?_ 8 t.length ⟨0, by omega, by omega, by simp (disch := (first | (simp only [ne_eq,Nat.reduceEqDiff,not_false_eq_true,Nat.reduceLT]; done) | omega | (simp only [yz] <;> omega) | fail)) only [yg,Nat.reduceAdd,Nat.reduceEqDiff,Nat.reduceLT]; rfl, by simp (disch := (first | (simp only [ne_eq,Nat.reduceEqDiff,not_false_eq_true,Nat.reduceLT]; done) | omega | (simp only [yz] <;> omega) | fail)) only [yg,Nat.reduceAdd,Nat.reduceEqDiff,Nat.reduceLT], by simp (disch := (first | (simp only [ne_eq,Nat.reduceEqDiff,not_false_eq_true,Nat.reduceLT]; done) | omega | (simp only [yz] <;> omega) | fail)) only [yg,Nat.reduceAdd,Nat.reduceEqDiff,Nat.reduceLT], by simp (disch := (first | (simp only [ne_eq,Nat.reduceEqDiff,not_false_eq_true,Nat.reduceLT]; done) | omega | (simp only [yz] <;> omega) | fail)) only [yg,Nat.reduceAdd,Nat.reduceEqDiff,Nat.reduceLT], rfl, fun j x h => by omega⟩ (by omega) (by omega)
  rintro M k e H' ⟨i, rfl, hi, g8, g7, g0, g1, rfl, hno⟩
  simp (disch := (first | (simp only [ne_eq,Nat.reduceEqDiff,not_false_eq_true,Nat.reduceLT]; done) | omega | (simp only [yz] <;> omega) | fail)) only [↓yp,yq0,yq1,yq2,yq3,yq4,yl,ys0,ys1,Nat.reduceAdd,Nat.reduceMul,Nat.reduceSub,Nat.reduceBEq,Nat.reduceEqDiff,Nat.reduceLT,Nat.reduceLeDiff,reduceIte,Int.reduceAdd,Int.reduceSub,Int.reduceMul,Int.reduceLT,Int.reduceLE,Int.reduceEq,Int.reduceToNat,Int.reduceNeg,zed,zee,zfr,zhw,ysu,yrg,ysv,ysw,ysx,ysz,g8,g7]
  refine ⟨fun hA => ?_, fun hA => ?_⟩
  · have hi' : i < t.length := by have := of_decide_eq_true hA; omega
    have hne : t ≠ [] := fun h => by rw [h] at hi'; simp at hi'
    obtain ⟨b, o, c, rfl, hb, hc, hp⟩ := hs.get hne
    obtain ⟨x, hx⟩ : ∃ x, t[i]? = some x := ⟨t[i], by simp [hi']⟩
    have q := hp i x hx
    have hw2 : w64 ((i : Int) + 1) = ((i + 1 : Nat) : Int) := by rw [w64_of (by omega)]; omega
    cases hD : decide (v = x)
    · simp (disch := (first | (simp only [ne_eq,Nat.reduceEqDiff,not_false_eq_true,Nat.reduceLT]; done) | omega | (simp only [yz] <;> omega) | fail)) only [↓yp,yq0,yq1,yq2,yq3,yq4,yl,ys0,ys1,Nat.reduceAdd,Nat.reduceMul,Nat.reduceSub,Nat.reduceBEq,Nat.reduceEqDiff,Nat.reduceLT,Nat.reduceLeDiff,reduceIte,Int.reduceAdd,Int.reduceSub,Int.reduceMul,Int.reduceLT,Int.reduceLE,Int.reduceEq,Int.reduceToNat,Int.reduceNeg,zed,zee,zfr,zhw,ysu,yrg,ysv,ysw,ysx,ysz,g8,g7,g0,g1,A_indexSlice st_esS_101,hc,q,hD,hw2]
      refine ⟨t.length - (i + 1), by omega, i + 1, rfl, by omega, ?_, ?_, ?_, ?_, rfl, fun j y hj hy => ?_⟩
      · simp (disch := (first | (simp only [ne_eq,Nat.reduceEqDiff,not_false_eq_true,Nat.reduceLT]; done) | omega | (simp only [yz] <;> omega) | fail)) only [yg,Nat.reduceAdd,Nat.reduceEqDiff,Nat.reduceLT]
      · simp (disch := (first | (simp only [ne_eq,Nat.reduceEqDiff,not_false_eq_true,Nat.reduceLT]; done) | omega | (simp only [yz] <;> omega) | fail)) only [yg,Nat.reduceAdd,Nat.reduceEqDiff,Nat.reduceLT,g7]
      · simp (disch := (first | (simp only [ne_eq,Nat.reduceEqDiff,not_false_eq_true,Nat.reduceLT]; done) | omega | (simp only [yz] <;> omega) | fail)) only [yg,Nat.reduceAdd,Nat.reduceEqDiff,Nat.reduceLT,g0]
      · simp (disch := (first | (simp only [ne_eq,Nat.reduceEqDiff,not_false_eq_true,Nat.reduceLT]; done) | omega | (simp only [yz] <;> omega) | fail)) only [yg,Nat.reduceAdd,Nat.reduceEqDiff,Nat.reduceLT,g1]
      · by_cases e : j = i
        · subst e
          rw [hx] at hy
          cases hy
          exact of_decide_eq_false hD
        · exact hno j y (by omega) hy
    · have hf : t.findIdx? (fun x => decide (v = x)) = some i := by
        refine List.findIdx?_eq_some_iff_getElem.2 ⟨hi', ?_, fun j hj => ?_⟩
        · have : t[i] = x := by rw [List.getElem?_eq_getElem hi'] at hx; exact Option.some.inj hx
          rw [this]; exact hD
        · have := hno j t[j] hj (by simp [show j < t.length by omega])
          simpa using this
      rw [hf] at hr
      subst hr
      simp (disch := (first | (simp only [ne_eq,Nat.reduceEqDiff,not_false_eq_true,Nat.reduceLT]; done) | omega | (simp only [yz] <;> omega) | fail)) only [↓yp,yq0,yq1,yq2,yq3,yq4,yl,ys0,ys1,Nat.reduceAdd,Nat.reduceMul,Nat.reduceSub,Nat.reduceBEq,Nat.reduceEqDiff,Nat.reduceLT,Nat.reduceLeDiff,reduceIte,Int.reduceAdd,Int.reduceSub,Int.reduceMul,Int.reduceLT,Int.reduceLE,Int.reduceEq,Int.reduceToNat,Int.reduceNeg,zed,zee,zfr,zhw,ysu,yrg,ysv,ysw,ysx,ysz,g8,g7,g0,g1,A_indexSlice st_esS_101,hc,q,hD]
  · have hi' : i = t.length := by have := of_decide_eq_false hA; omega
    have hf : t.findIdx? (fun x => decide (v = x)) = none := by
      refine List.findIdx?_eq_none_iff.2 fun x hx => ?_
      obtain ⟨j, hj⟩ := List.getElem?_of_mem hx
      have := hno j x (by have := (List.getElem?_eq_some_iff.1 hj).1; omega) hj
      simpa using this
    rw [hf] at hr
    subst hr
    simp (disch := (first | (simp only [ne_eq,Nat.reduceEqDiff,not_false_eq_true,Nat.reduceLT]; done) | omega | (simp only [yz] <;> omega) | fail)) only [↓yp,yq0,yq1,yq2,yq3,yq4,yl,ys0,ys1,Nat.reduceAdd,Nat.reduceMul,Nat.reduceSub,Nat.reduceBEq,Nat.reduceEqDiff,Nat.reduceLT,Nat.reduceLeDiff,reduceIte,Int.reduceAdd,Int.reduceSub,Int.reduceMul,Int.reduceLT,Int.reduceLE,Int.reduceEq,Int.reduceToNat,Int.reduceNeg,zed,zee,zfr,zhw,ysu,yrg,ysv,ysw,ysx,ysz]
theorem c64 {v : Int} (hs : Il H a t) (hl : t.length ≤ 8) :
    acall tabA (aexec tabA Try.prog (N + 150)) 64 [.slice a t.length cap, .int .i64 v] H = some (true, .bool (decide (v ∈ t)), H, H.size) := by
  refine call_quiet (k := 9) (rs := [.tmp 4]) rfl fn_64 rfl rfl rfl ?_ rfl
  obtain ⟨r, hr, h112⟩ := c112 (cap := cap) (v := v) hs hl
  simp (disch := (first | (simp only [ne_eq,Nat.reduceEqDiff,not_false_eq_true,Nat.reduceLT]; done) | omega | (simp only [yz] <;> omega) | fail)) only [↓yp,yq0,yq1,yq2,yq3,yq4,yl,ys0,ys1,Nat.reduceAdd,Nat.reduceMul,Nat.reduceSub,Nat.reduceBEq,Nat.reduceEqDiff,Nat.reduceLT,Nat.reduceLeDiff,reduceIte,Int.reduceAdd,Int.reduceSub,Int.reduceMul,Int.reduceLT,Int.reduceLE,Int.reduceEq,Int.reduceToNat,Int.reduceNeg,zed,zee,zfr,zhw,ysu,yrg,ysv,ysw,ysx,ysz,h112,hr]
/-- Nothing stands twice. -/
theorem c65 (hs : Il H a t) (hl : t.length ≤ 8) (ht : ∀ (i : Nat) x y, t[i]? = some x → t[i + 1]? = some y → x ≠ y) (hL : L ≤ H.size) {M : Nat} (hM : 200 ≤ M)
    (hq : ∀ f H', Fr H H' → Q f (.slice a t.length cap) H') : resK (acall tabA (aexec tabA Try.prog M) 65 [.slice a t.length cap] H) L Q := by
  obtain ⟨N, rfl⟩ : ∃ N, M = N + 200 := ⟨M - 200, by omega⟩
  refine call_some (R := fun v H' => v = .slice a t.length cap ∧ Fr H H') (k := 61) (rs := [.tmp 2]) rfl fn_65 rfl rfl rfl hL ?_ (by rintro v H' ⟨rfl, h⟩; exact hq _ _ h) (by rintro v H' ⟨rfl, h⟩ _; exact hq _ _ (Fr.refl H))
  simp (disch := (first | (simp only [ne_eq,Nat.reduceEqDiff,not_false_eq_true,Nat.reduceLT]; done) | omega | (simp only [yz] <;> omega) | fail)) only [↓yp,yq0,yq1,yq2,yq3,yq4,yl,ys0,ys1,Nat.reduceAdd,Nat.reduceMul,Nat.reduceSub,Nat.reduceBEq,Nat.reduceEqDiff,Nat.reduceLT,Nat.reduceLeDiff,reduceIte,Int.reduceAdd,Int.reduceSub,Int.reduceMul,Int.reduceLT,Int.reduceLE,Int.reduceEq,Int.reduceToNat,Int.reduceNeg,zed,zee,zfr,zhw,ysu,yrg,ysv,ysw,ysx,ysz,lenV_slice st_esS_101]
  refine ⟨fun hA => ?_, fun hA => ?_⟩
  · simp (disch := (first | (simp only [ne_eq,Nat.reduceEqDiff,not_false_eq_true,Nat.reduceLT]; done) | omega | (simp only [yz] <;> omega) | fail)) only [↓yp,yq0,yq1,yq2,yq3,yq4,yl,ys0,ys1,Nat.reduceAdd,Nat.reduceMul,Nat.reduceSub,Nat.reduceBEq,Nat.reduceEqDiff,Nat.reduceLT,Nat.reduceLeDiff,reduceIte,Int.reduceAdd,Int.reduceSub,Int.reduceMul,Int.reduceLT,Int.reduceLE,Int.reduceEq,Int.reduceToNat,Int.reduceNeg,zed,zee,zfr,zhw,ysu,yrg,ysv,ysw,ysx,ysz]
    exact Fr.refl _
  have h2 : 2 ≤ t.length := by have := of_decide_eq_false hA; omega
  have hne : t ≠ [] := fun h => by rw [h] at h2; simp at h2
  obtain ⟨b, o, c, rfl, hb, hc, hp⟩ := hs.get hne
  simp (disch := (first | (simp only [ne_eq,Nat.reduceEqDiff,not_false_eq_true,Nat.reduceLT]; done) | omega | (simp only [yz] <;> omega) | fail)) only [↓yp,yq0,yq1,yq2,yq3,yq4,yl,ys0,ys1,Nat.reduceAdd,Nat.reduceMul,Nat.reduceSub,Nat.reduceBEq,Nat.reduceEqDiff,Nat.reduceLT,Nat.reduceLeDiff,reduceIte,Int.reduceAdd,Int.reduceSub,Int.reduceMul,Int.reduceLT,Int.reduceLE,Int.reduceEq,Int.reduceToNat,Int.reduceNeg,zed,zee,zfr,zhw,ysu,yrg,ysv,ysw,ysx,ysz]
  refine W_while (n := 61) 120 (fun k e H' => ∃ i : Nat, k = t.length - i ∧ 1 ≤ i ∧ i ≤ t.length ∧ gt 61 e 3 = .int .i64 (i : Nat) ∧ gt 61 e 0 = .slice (some ⟨b, o, none⟩) t.length cap ∧ H' = H)
    ?_ 8 (t.length - 1) ⟨1, by omega, by omega, by omega, by simp (disch := (first | (simp only [ne_eq,Nat.reduceEqDiff,not_false_eq_true,Nat.reduceLT]; done) | omega | (simp only [yz] <;> omega) | fail)) only [yg,Nat.reduceAdd,Nat.reduceEqDiff,Nat.reduceLT]; rfl, by simp (disch := (first | (simp only [ne_eq,Nat.reduceEqDiff,not_false_eq_true,Nat.reduceLT]; done) | omega | (simp only [yz] <;> omega) | fail)) only [yg,Nat.reduceAdd,Nat.reduceEqDiff,Nat.reduceLT], rfl⟩ (by omega) (by omega)
  rintro M k e H' ⟨i, rfl, hi1, hi, g3, g0, rfl⟩
  simp (disch := (first | (simp only [ne_eq,Nat.reduceEqDiff,not_false_eq_true,Nat.reduceLT]; done) | omega | (simp only [yz] <;> omega) | fail)) only [↓yp,yq0,yq1,yq2,yq3,yq4,yl,ys0,ys1,Nat.reduceAdd,Nat.reduceMul,Nat.reduceSub,Nat.reduceBEq,Nat.reduceEqDiff,Nat.reduceLT,Nat.reduceLeDiff,reduceIte,Int.reduceAdd,Int.reduceSub,Int.reduceMul,Int.reduceLT,Int.reduceLE,Int.reduceEq,Int.reduceToNat,Int.reduceNeg,zed,zee,zfr,zhw,ysu,yrg,ysv,ysw,ysx,ysz,g3,g0,lenV_slice st_esS_101]
  refine ⟨fun hA => ?_, fun hA => ?_⟩
  · have hik : i < t.length := by have := of_decide_eq_true hA; omega
    obtain ⟨v, hv⟩ : ∃ v, t[i]? = some v := ⟨t[i], by simp [hik]⟩
    obtain ⟨u, hu⟩ : ∃ u, t[i - 1]? = some u := ⟨t[i - 1]'(by omega), by simp [show i - 1 < t.length by omega]⟩
    have q := hp i v hv
    have q' := hp (i - 1) u hu
    have hle := ht (i - 1) u v hu (by rw [show i - 1 + 1 = i by omega]; exact hv)
    have hw2 : w64 ((i : Int) - 1) = ((i - 1 : Nat) : Int) := by rw [w64_of (by omega)]; omega
    have hw3 : w64 ((i : Int) + 1) = ((i + 1 : Nat) : Int) := by rw [w64_of (by omega)]; omega
    have hd : decide (v = u) = false := by simp; omega
    simp (disch := (first | (simp only [ne_eq,Nat.reduceEqDiff,not_false_eq_true,Nat.reduceLT]; done) | omega | (simp only [yz] <;> omega) | fail)) only [↓yp,yq0,yq1,yq2,yq3,yq4,yl,ys0,ys1,Nat.reduceAdd,Nat.reduceMul,Nat.reduceSub,Nat.reduceBEq,Nat.reduceEqDiff,Nat.reduceLT,Nat.reduceLeDiff,reduceIte,Int.reduceAdd,Int.reduceSub,Int.reduceMul,Int.reduceLT,Int.reduceLE,Int.reduceEq,Int.reduceToNat,Int.reduceNeg,zed,zee,zfr,zhw,ysu,yrg,ysv,ysw,ysx,ysz]
    refine W_draw [] rfl (by kernel_rfl) (by kernel_rfl) (by (first | omega | (simp only [yz] <;> omega))) ?_
    simp (disch := (first | (simp only [ne_eq,Nat.reduceEqDiff,not_false_eq_true,Nat.reduceLT]; done) | omega | (simp only [yz] <;> omega) | fail)) only [↓yp,yq0,yq1,yq2,yq3,yq4,yl,ys0,ys1,Nat.reduceAdd,Nat.reduceMul,Nat.reduceSub,Nat.reduceBEq,Nat.reduceEqDiff,Nat.reduceLT,Nat.reduceLeDiff,reduceIte,Int.reduceAdd,Int.reduceSub,Int.reduceMul,Int.reduceLT,Int.reduceLE,Int.reduceEq,Int.reduceToNat,Int.reduceNeg,zed,zee,zfr,zhw,ysu,yrg,ysv,ysw,ysx,ysz,g3,g0,A_indexSlice st_esS_101,hc,q,q',hw2,hw3,hd]
    refine ⟨t.length - (i + 1), by omega, i + 1, rfl, by omega, by omega, ?_, ?_, rfl⟩
    · simp (disch := (first | (simp only [ne_eq,Nat.reduceEqDiff,not_false_eq_true,Nat.reduceLT]; done) | omega | (simp only [yz] <;> omega) | fail)) only [yg,Nat.reduceAdd,Nat.reduceEqDiff,Nat.reduceLT]
    · simp (disch := (first | (simp only [ne_eq,Nat.reduceEqDiff,not_false_eq_true,Nat.reduceLT]; done) | omega | (simp only [yz] <;> omega) | fail)) only [yg,Nat.reduceAdd,Nat.reduceEqDiff,Nat.reduceLT,g0]
  · simp (disch := (first | (simp only [ne_eq,Nat.reduceEqDiff,not_false_eq_true,Nat.reduceLT]; done) | omega | (simp only [yz] <;> omega) | fail)) only [↓yp,yq0,yq1,yq2,yq3,yq4,yl,ys0,ys1,Nat.reduceAdd,Nat.reduceMul,Nat.reduceSub,Nat.reduceBEq,Nat.reduceEqDiff,Nat.reduceLT,Nat.reduceLeDiff,reduceIte,Int.reduceAdd,Int.reduceSub,Int.reduceMul,Int.reduceLT,Int.reduceLE,Int.reduceEq,Int.reduceToNat,Int.reduceNeg,zed,zee,zfr,zhw,ysu,yrg,ysv,ysw,ysx,ysz]
    exact ⟨g0, Fr.refl _⟩
theorem nil101 {x y : Operand} : binV tabA Try.prog .eql 101 x y (.slice none 0 0) (.slice none 0 0) = some (.bool true) := by kernel_rfl
theorem c66 (hs : Il H a t) (hl : t.length ≤ 8) (hn : t = [] → a = none ∧ cap = 0) (hL : L ≤ H.size) {M : Nat} (hM : 100 ≤ M)
    (hq : ∀ f a' c H', Fr H H' → Il H' a' t → Q f (.slice a' t.length c) H') : resK (acall tabA (aexec tabA Try.prog M) 66 [.slice a t.length cap] H) L Q := by
  obtain ⟨N, rfl⟩ : ∃ N, M = N + 100 := ⟨M - 100, by omega⟩
  refine call_some (R := fun v H' => ∃ a' c, v = .slice a' t.length c ∧ Fr H H' ∧ Il H' a' t) (k := 8) (rs := [.tmp 2]) rfl fn_66 rfl rfl rfl hL ?_ (by rintro v H' ⟨a', c, rfl, h1, h2⟩; exact hq _ _ _ _ h1 h2) ?_
  · by_cases hne : t = []
    · obtain ⟨rfl, rfl⟩ := hn hne
      subst hne
      simp (disch := (first | (simp only [ne_eq,Nat.reduceEqDiff,not_false_eq_true,Nat.reduceLT]; done) | omega | (simp only [yz] <;> omega) | fail)) only [↓yp,yq0,yq1,yq2,yq3,yq4,yl,ys0,ys1,Nat.reduceAdd,Nat.reduceMul,Nat.reduceSub,Nat.reduceBEq,Nat.reduceEqDiff,Nat.reduceLT,Nat.reduceLeDiff,reduceIte,Int.reduceAdd,Int.reduceSub,Int.reduceMul,Int.reduceLT,Int.reduceLE,Int.reduceEq,Int.reduceToNat,Int.reduceNeg,zed,zee,zfr,zhw,ysu,yrg,ysv,ysw,ysx,ysz,List.length_nil,nil101]
      exact ⟨none, 0, rfl, Fr.refl _, Il.nil⟩
    · obtain ⟨b, o, c, rfl, hb, hc, hp⟩ := hs.get hne
      have hpos : 0 < t.length := List.length_pos_iff.2 hne
      simp (disch := (first | (simp only [ne_eq,Nat.reduceEqDiff,not_false_eq_true,Nat.reduceLT]; done) | omega | (simp only [yz] <;> omega) | fail)) only [↓yp,yq0,yq1,yq2,yq3,yq4,yl,ys0,ys1,Nat.reduceAdd,Nat.reduceMul,Nat.reduceSub,Nat.reduceBEq,Nat.reduceEqDiff,Nat.reduceLT,Nat.reduceLeDiff,reduceIte,Int.reduceAdd,Int.reduceSub,Int.reduceMul,Int.reduceLT,Int.reduceLE,Int.reduceEq,Int.reduceToNat,Int.reduceNeg,zed,zee,zfr,zhw,ysu,yrg,ysv,ysw,ysx,ysz,binV_nil_some st_esS_101,A_buildSlice st_brS_101_0]
      rw [apK_empty (H := _) (n := t.length) st_apS_101 ((hs.fr (Fr.alloc _ _)).src hne) hpos (by omega) (by omega) (one_tv t) (c₀ := []) (by simp (disch := (first | (simp only [ne_eq,Nat.reduceEqDiff,not_false_eq_true,Nat.reduceLT]; done) | omega | (simp only [yz] <;> omega) | fail)) only [yg,Nat.reduceAdd,Nat.reduceEqDiff,Nat.reduceLT])]
      simp (disch := (first | (simp only [ne_eq,Nat.reduceEqDiff,not_false_eq_true,Nat.reduceLT]; done) | omega | (simp only [yz] <;> omega) | fail)) only [↓yp,yq0,yq1,yq2,yq3,yq4,yl,ys0,ys1,Nat.reduceAdd,Nat.reduceMul,Nat.reduceSub,Nat.reduceBEq,Nat.reduceEqDiff,Nat.reduceLT,Nat.reduceLeDiff,reduceIte,Int.reduceAdd,Int.reduceSub,Int.reduceMul,Int.reduceLT,Int.reduceLE,Int.reduceEq,Int.reduceToNat,Int.reduceNeg,zed,zee,zfr,zhw,ysu,yrg,ysv,ysw,ysx,ysz]
      exact ⟨_, _, rfl, by (repeat (first | exact Fr.refl _ | assumption | refine Fr.allocd ?_ _ | refine Fr.kill ?_ (by first | assumption | omega) | refine Fr.put ?_ (by first | omega | (simp only [yz] <;> omega)) _)), Il.of (by (first | omega | (simp only [yz] <;> omega))) (by simp (disch := (first | (simp only [ne_eq,Nat.reduceEqDiff,not_false_eq_true,Nat.reduceLT]; done) | omega | (simp only [yz] <;> omega) | fail)) only [yg,Nat.reduceAdd,Nat.reduceEqDiff,Nat.reduceLT])⟩
  · rintro v H' ⟨a', c, rfl, h1, h2⟩ hg
    have hnil : t = [] := Classical.byContradiction fun hne => by
      obtain ⟨b, o, c', rfl, _⟩ := h2.get hne
      simp [gr, ground] at hg
    subst hnil
    exact hq _ _ _ _ (Fr.refl H) ⟨fun hne => absurd rfl hne⟩
end
end Go.Am
