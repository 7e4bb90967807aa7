/- The law StreetCosts. -/
import Derived.Test.YtbbifibhpbjknaaT41
import Derived.Test.YtbbifibhpbjknaaT27
import Derived.Test.YtbbifibhpbjknaaT33
set_option linter.unusedSimpArgs false
set_option linter.unusedVariables false
namespace Go.Am
open Go.Proofs
variable {T : Tab} {P : Program} {N L : Nat} {H : AHeap} {Q : Bool → Value → AHeap → Prop}
/-- What the law knows when its own town and that of the reference are laid. -/
structure LaidC (H : AHeap) (a : Option Addr) (cap : Nat) (l : List Str) (C w ld fr to m bm st : Int) (e : VT) (H' : AHeap) (a1 : Option Addr) (cap1 : Nat) (a2 : Option Addr) (cap2 : Nat) : Prop where
  g2 : gt 120 e 2 = .int .i64 fr
  g3 : gt 120 e 3 = .int .i64 to
  g4 : gt 120 e 4 = .int .i64 m
  g5 : gt 120 e 5 = .int .i64 bm
  g6 : gt 120 e 6 = .int .i64 st
  g7 : gt 120 e 7 = .pointer (some ⟨H.size, 0, none⟩)
  g8 : gt 120 e 8 = .pointer (some ⟨H.size + 1, 0, none⟩)
  g15 : gt 120 e 15 = .pointer (some ⟨H.size + 1 + 1, 0, none⟩)
  g16 : gt 120 e 16 = .pointer (some ⟨H.size + 1 + 1 + 1, 0, none⟩)
  fr : Fr H H'
  sz : H.size + 1 + 1 + 1 < H'.size
  b7 : H'.get H.size = .rw [.int .i64 C, .slice a l.length cap] 24 false []
  b8 : H'.get (H.size + 1) = .rw [.int .i64 w, .int .i64 ld] 26 false []
  b15 : H'.get (H.size + 1 + 1) = .rw [.int .i64 C, .slice a1 l.length cap1] 24 false []
  b16 : H'.get (H.size + 1 + 1 + 1) = .rw [.int .i64 C, .slice a2 l.length cap2] 34 false []
  s1 : Sl H' a1 l
  n1 : a1 = none → cap1 = 0
  s2 : Sl H' a2 l
section
variable {a a1 a2 : Option Addr} {cap cap1 cap2 : Nat} {l : List Str} {C w ld fr to m bm st : Int} {e e' : VT} {H' H'' : AHeap}
theorem LaidC.next (I : LaidC H a cap l C w ld fr to m bm st e H' a1 cap1 a2 cap2) (f : Fr H' H'') (h : Keep 120 [2, 3, 4, 5, 6, 7, 8, 15, 16] e e') : LaidC H a cap l C w ld fr to m bm st e' H'' a1 cap1 a2 cap2 where
  g2 := (h 2 (by decide)).trans I.g2
  g3 := (h 3 (by decide)).trans I.g3
  g4 := (h 4 (by decide)).trans I.g4
  g5 := (h 5 (by decide)).trans I.g5
  g6 := (h 6 (by decide)).trans I.g6
  g7 := (h 7 (by decide)).trans I.g7
  g8 := (h 8 (by decide)).trans I.g8
  g15 := (h 15 (by decide)).trans I.g15
  g16 := (h 16 (by decide)).trans I.g16
  fr := I.fr.trans f
  sz := Nat.lt_of_lt_of_le I.sz f.size
  b7 := (f.same _ (by have := I.sz; omega)).trans I.b7
  b8 := (f.same _ (by have := I.sz; omega)).trans I.b8
  b15 := (f.same _ (by have := I.sz; omega)).trans I.b15
  b16 := (f.same _ (by have := I.sz; omega)).trans I.b16
  s1 := I.s1.fr f
  n1 := I.n1
  s2 := I.s2.fr f
theorem plan15M {ops : List Oper} {env : Nat → Value} {H : AHeap} {x y z u : Value} (hd : ops.map (·.dst) = [some 80, some 81, some 82, some 83, some 84, some 85, some 86, some 87, some 88, some 89, some 90, some 19]) (hx : env 2 = x) (hy : env 3 = y) (hz : env 6 = z) (hu : env 4 = u) : tabA.plan ops env H = some [(5, .rw [x, y] 3 false []), (7, .rw [z] 3 false []), (9, .rw [u] 3 false [])] := by
  rw [planB_hit hd (by decide) (by decide)]
  subst hx hy hz hu
  rfl
theorem hcd (x : Int) : decide (x = x) = true := by simp
set_option maxHeartbeats 4000000 in
theorem c6 (hs : Sl H a l) (hn : a = none → cap = 0) (hok : ∀ s ∈ l, s.Ok) :
    acall tabA (aexec tabA Try.prog (N + 8000)) 6 [.agg ⟨[.int .i64 C, .slice a l.length cap]⟩, .agg ⟨[.int .i64 w, .int .i64 ld]⟩, .int .i64 fr, .int .i64 to, .int .i64 m, .int .i64 bm, .int .i64 st] H = some (true, .bool true, H, H.size) := by
  refine call_quiet (k := 120) (rs := [.tmp 14]) rfl fn_6 rfl rfl rfl ?_ rfl
  simp (disch := (first | (simp only [ne_eq,Nat.reduceEqDiff,not_false_eq_true,Nat.reduceLT]; done) | omega | (simp only [yz] <;> omega) | fail)) only [↓yp,yq0,yq1,yq2,yq3,yq4,yl,ys0,ys1,Nat.reduceAdd,Nat.reduceMul,Nat.reduceSub,Nat.reduceBEq,Nat.reduceEqDiff,Nat.reduceLT,Nat.reduceLeDiff,reduceIte,Int.reduceAdd,Int.reduceSub,Int.reduceMul,Int.reduceLT,Int.reduceLE,Int.reduceEq,Int.reduceToNat,Int.reduceNeg,zed,zee,zfr,zhw,ysu,yrg,ysv,ysw,ysx,c17]
  refine ⟨fun hA => ?_, fun hA => ?_⟩
  · simp (disch := (first | (simp only [ne_eq,Nat.reduceEqDiff,not_false_eq_true,Nat.reduceLT]; done) | omega | (simp only [yz] <;> omega) | fail)) only [↓yp,yq0,yq1,yq2,yq3,yq4,yl,ys0,ys1,Nat.reduceAdd,Nat.reduceMul,Nat.reduceSub,Nat.reduceBEq,Nat.reduceEqDiff,Nat.reduceLT,Nat.reduceLeDiff,reduceIte,Int.reduceAdd,Int.reduceSub,Int.reduceMul,Int.reduceLT,Int.reduceLE,Int.reduceEq,Int.reduceToNat,Int.reduceNeg,zed,zee,zfr,zhw,ysu,yrg,ysv,ysw,ysx,awake_r]
  have hl : l.length ≤ 18 := by simp at hA; omega
  clear hA
  simp (disch := (first | (simp only [ne_eq,Nat.reduceEqDiff,not_false_eq_true,Nat.reduceLT]; done) | omega | (simp only [yz] <;> omega) | fail)) only [↓yp,yq0,yq1,yq2,yq3,yq4,yl,ys0,ys1,Nat.reduceAdd,Nat.reduceMul,Nat.reduceSub,Nat.reduceBEq,Nat.reduceEqDiff,Nat.reduceLT,Nat.reduceLeDiff,reduceIte,Int.reduceAdd,Int.reduceSub,Int.reduceMul,Int.reduceLT,Int.reduceLE,Int.reduceEq,Int.reduceToNat,Int.reduceNeg,zed,zee,zfr,zhw,ysu,yrg,ysv,ysw,ysx]
  refine W_cutK (fun e H' => ∃ a1 cap1 a2 cap2, LaidC H a cap l C w ld fr to m bm st e H' a1 cap1 a2 cap2) ?_ ?_
  · by_cases hne : l = []
    · subst hne
      refine W_drawR [6, 7] [(4, 1), (4, 2), (5, 2)] rfl (by kernel_rfl) (by kernel_rfl) (by kernel_rfl) (by (first | omega | (simp only [yz] <;> omega))) ?_
      simp (disch := (first | (simp only [ne_eq,Nat.reduceEqDiff,not_false_eq_true,Nat.reduceLT]; done) | omega | (simp only [yz] <;> omega) | fail)) only [↓yp,yq0,yq1,yq2,yq3,yq4,yl,ys0,ys1,Nat.reduceAdd,Nat.reduceMul,Nat.reduceSub,Nat.reduceBEq,Nat.reduceEqDiff,Nat.reduceLT,Nat.reduceLeDiff,reduceIte,Int.reduceAdd,Int.reduceSub,Int.reduceMul,Int.reduceLT,Int.reduceLE,Int.reduceEq,Int.reduceToNat,Int.reduceNeg,zed,zee,zfr,zhw,ysu,yrg,ysv,ysw,ysx,c19n,c20n,intZ,cutK_normal]
      refine ⟨none, 0, none, 0, ?_, ?_, ?_, ?_, ?_, ?_, ?_, ?_, ?_, ?_, ?_, ?_, ?_, ?_, ?_, ?_, fun _ => rfl, ?_⟩
      iterate 9 simp (disch := (first | (simp only [ne_eq,Nat.reduceEqDiff,not_false_eq_true,Nat.reduceLT]; done) | omega | (simp only [yz] <;> omega) | fail)) only [yg,Nat.reduceAdd,Nat.reduceEqDiff,Nat.reduceLT]
      · (repeat (first | exact Fr.refl _ | assumption | refine Fr.allocd ?_ _ | refine Fr.kill ?_ (by first | assumption | omega) | refine Fr.put ?_ (by first | omega | (simp only [yz] <;> omega)) _))
      · (first | omega | (simp only [yz] <;> omega))
      iterate 4 simp (disch := (first | (simp only [ne_eq,Nat.reduceEqDiff,not_false_eq_true,Nat.reduceLT]; done) | omega | (simp only [yz] <;> omega) | fail)) only [↓yp,yq0,yq1,yq2,yq3,yq4,yl,ys0,ys1,Nat.reduceAdd,Nat.reduceMul,Nat.reduceSub,Nat.reduceBEq,Nat.reduceEqDiff,Nat.reduceLT,Nat.reduceLeDiff,reduceIte,Int.reduceAdd,Int.reduceSub,Int.reduceMul,Int.reduceLT,Int.reduceLE,Int.reduceEq,Int.reduceToNat,Int.reduceNeg,zed,zee,zfr,zhw,ysu,yrg,ysv,ysw,ysx]
      · exact ⟨fun h => absurd rfl h, fun _ _ _ _ h => absurd rfl h⟩
      · exact ⟨fun h => absurd rfl h, fun _ _ _ _ h => absurd rfl h⟩
    · refine W_drawR [1, 3, 6, 7] [(4, 3), (4, 4), (5, 4)] rfl (by kernel_rfl) (by kernel_rfl) (by kernel_rfl) (by (first | omega | (simp only [yz] <;> omega))) ?_
      simp (disch := (first | (simp only [ne_eq,Nat.reduceEqDiff,not_false_eq_true,Nat.reduceLT]; done) | omega | (simp only [yz] <;> omega) | fail)) only [↓yp,yq0,yq1,yq2,yq3,yq4,yl,ys0,ys1,Nat.reduceAdd,Nat.reduceMul,Nat.reduceSub,Nat.reduceBEq,Nat.reduceEqDiff,Nat.reduceLT,Nat.reduceLeDiff,reduceIte,Int.reduceAdd,Int.reduceSub,Int.reduceMul,Int.reduceLT,Int.reduceLE,Int.reduceEq,Int.reduceToNat,Int.reduceNeg,zed,zee,zfr,zhw,ysu,yrg,ysv,ysw,ysx,intZ]
      refine c19f (hs.fr (by (repeat (first | exact Fr.refl _ | assumption | refine Fr.allocd ?_ _ | refine Fr.kill ?_ (by first | assumption | omega) | refine Fr.put ?_ (by first | omega | (simp only [yz] <;> omega)) _)))) hl hne (by (first | omega | (simp only [yz] <;> omega))) (by omega) ?_
      intro a1 cap1 H1 nw1
      have f1 := nw1.fr.size
      have s1 := nw1.fr.same
      simp only [zde] at f1
      simp (disch := (first | (simp only [ne_eq,Nat.reduceEqDiff,not_false_eq_true,Nat.reduceLT]; done) | omega | (simp only [yz] <;> omega) | fail)) only [↓yp,yq0,yq1,yq2,yq3,yq4,yl,ys0,ys1,Nat.reduceAdd,Nat.reduceMul,Nat.reduceSub,Nat.reduceBEq,Nat.reduceEqDiff,Nat.reduceLT,Nat.reduceLeDiff,reduceIte,Int.reduceAdd,Int.reduceSub,Int.reduceMul,Int.reduceLT,Int.reduceLE,Int.reduceEq,Int.reduceToNat,Int.reduceNeg,zed,zee,zfr,zhw,ysu,yrg,ysv,ysw,ysx,intZ,s1]
      refine c20f ((hs.fr (by (repeat (first | exact Fr.refl _ | assumption | refine Fr.allocd ?_ _ | refine Fr.kill ?_ (by first | assumption | omega) | refine Fr.put ?_ (by first | omega | (simp only [yz] <;> omega)) _)))).fr nw1.fr) hl hne (by (first | omega | (simp only [yz] <;> omega))) (by omega) ?_
      intro a2 cap2 H2 fr2 sl2
      have f2 := fr2.size
      have s2 := fr2.same
      simp (disch := (first | (simp only [ne_eq,Nat.reduceEqDiff,not_false_eq_true,Nat.reduceLT]; done) | omega | (simp only [yz] <;> omega) | fail)) only [↓yp,yq0,yq1,yq2,yq3,yq4,yl,ys0,ys1,Nat.reduceAdd,Nat.reduceMul,Nat.reduceSub,Nat.reduceBEq,Nat.reduceEqDiff,Nat.reduceLT,Nat.reduceLeDiff,reduceIte,Int.reduceAdd,Int.reduceSub,Int.reduceMul,Int.reduceLT,Int.reduceLE,Int.reduceEq,Int.reduceToNat,Int.reduceNeg,zed,zee,zfr,zhw,ysu,yrg,ysv,ysw,ysx,intZ,s1,s2,cutK_normal]
      refine ⟨a1, cap1, a2, cap2, ?_, ?_, ?_, ?_, ?_, ?_, ?_, ?_, ?_, ?_, ?_, ?_, ?_, ?_, ?_, ?_, nw1.nl, ?_⟩
      iterate 9 simp (disch := (first | (simp only [ne_eq,Nat.reduceEqDiff,not_false_eq_true,Nat.reduceLT]; done) | omega | (simp only [yz] <;> omega) | fail)) only [yg,Nat.reduceAdd,Nat.reduceEqDiff,Nat.reduceLT]
      · refine Fr.put (Fr.put ?_ (by (first | omega | (simp only [yz] <;> omega))) _) (by (first | omega | (simp only [yz] <;> omega))) _
        exact ((by (repeat (first | exact Fr.refl _ | assumption | refine Fr.allocd ?_ _ | refine Fr.kill ?_ (by first | assumption | omega) | refine Fr.put ?_ (by first | omega | (simp only [yz] <;> omega)) _)) : Fr H _).trans nw1.fr).trans fr2
      · (first | omega | (simp only [yz] <;> omega))
      iterate 4 simp (disch := (first | (simp only [ne_eq,Nat.reduceEqDiff,not_false_eq_true,Nat.reduceLT]; done) | omega | (simp only [yz] <;> omega) | fail)) only [yg,Nat.reduceAdd,Nat.reduceEqDiff,Nat.reduceLT,s1,s2]
      · refine Sl.put (Sl.put (nw1.sl.fr fr2) (c := [.int .i64 0, .slice none 0 0]) ?_ (by simp)) (c := [.int .i64 0, .slice none 0 0]) ?_ (by simp) <;> simp (disch := (first | (simp only [ne_eq,Nat.reduceEqDiff,not_false_eq_true,Nat.reduceLT]; done) | omega | (simp only [yz] <;> omega) | fail)) only [yg,Nat.reduceAdd,Nat.reduceEqDiff,Nat.reduceLT,s1,s2]
      · refine Sl.put (Sl.put sl2 (c := [.int .i64 0, .slice none 0 0]) ?_ (by simp)) (c := [.int .i64 0, .slice none 0 0]) ?_ (by simp) <;> simp (disch := (first | (simp only [ne_eq,Nat.reduceEqDiff,not_false_eq_true,Nat.reduceLT]; done) | omega | (simp only [yz] <;> omega) | fail)) only [yg,Nat.reduceAdd,Nat.reduceEqDiff,Nat.reduceLT,s1,s2]
  rintro e H' ⟨a1, cap1, a2, cap2, I⟩
  -- the greatest load
  obtain ⟨hv, hhv⟩ : ∃ hv, heavG C l w fr to m bm = hv := ⟨_, rfl⟩
  refine W_seqI (fun e' H'' => LaidC H a cap l C w ld fr to m bm st e' H'' a1 cap1 a2 cap2 ∧ gt 120 e' 17 = .int .i64 hv.1 ∧ gt 120 e' 18 = .int .i64 hv.2) ?_ ?_
  · have sz := I.sz
    have g2 := I.g2
    have g3 := I.g3
    have g4 := I.g4
    have g5 := I.g5
    have g8 := I.g8
    have g15 := I.g15
    have b8 := I.b8
    have b15 := I.b15
    simp (disch := (first | (simp only [ne_eq,Nat.reduceEqDiff,not_false_eq_true,Nat.reduceLT]; done) | omega | (simp only [yz] <;> omega) | fail)) only [↓yp,yq0,yq1,yq2,yq3,yq4,yl,ys0,ys1,Nat.reduceAdd,Nat.reduceMul,Nat.reduceSub,Nat.reduceBEq,Nat.reduceEqDiff,Nat.reduceLT,Nat.reduceLeDiff,reduceIte,Int.reduceAdd,Int.reduceSub,Int.reduceMul,Int.reduceLT,Int.reduceLE,Int.reduceEq,Int.reduceToNat,Int.reduceNeg,zed,zee,zfr,zhw,ysu,yrg,ysv,ysw,ysx,g2,g3,g4,g5,g8,g15,b8,b15]
    rw [c44g I.s1 hl, hhv]
    simp (disch := (first | (simp only [ne_eq,Nat.reduceEqDiff,not_false_eq_true,Nat.reduceLT]; done) | omega | (simp only [yz] <;> omega) | fail)) only [↓yp,yq0,yq1,yq2,yq3,yq4,yl,ys0,ys1,Nat.reduceAdd,Nat.reduceMul,Nat.reduceSub,Nat.reduceBEq,Nat.reduceEqDiff,Nat.reduceLT,Nat.reduceLeDiff,reduceIte,Int.reduceAdd,Int.reduceSub,Int.reduceMul,Int.reduceLT,Int.reduceLE,Int.reduceEq,Int.reduceToNat,Int.reduceNeg,zed,zee,zfr,zhw,ysu,yrg,ysv,ysw,ysx]
    refine ⟨I.next (Fr.refl _) (by (with_reducible (repeat (first | refine Keep.put ?_ (by decide) | refine Keep.none ?_ | assumption | exact Keep.refl _ _ _)))), ?_, ?_⟩
    · simp (disch := (first | (simp only [ne_eq,Nat.reduceEqDiff,not_false_eq_true,Nat.reduceLT]; done) | omega | (simp only [yz] <;> omega) | fail)) only [yg,Nat.reduceAdd,Nat.reduceEqDiff,Nat.reduceLT]
    · simp (disch := (first | (simp only [ne_eq,Nat.reduceEqDiff,not_false_eq_true,Nat.reduceLT]; done) | omega | (simp only [yz] <;> omega) | fail)) only [yg,Nat.reduceAdd,Nat.reduceEqDiff,Nat.reduceLT]
  clear I
  clear e H'
  rintro e H' ⟨I, g17, g18⟩
  obtain ⟨q, hq⟩ : ∃ q, asked C l w 0 [fr, to] [] [m, bm] = q := ⟨_, rfl⟩
  refine W_seqI (fun e' H'' => LaidC H a cap l C w ld fr to m bm st e' H'' a1 cap1 a2 cap2 ∧ gt 120 e' 17 = .int .i64 hv.1 ∧ gt 120 e' 18 = .int .i64 hv.2 ∧ gt 120 e' 19 = .int .i64 q) ?_ ?_
  · have sz := I.sz
    have g2 := I.g2
    have g3 := I.g3
    have g4 := I.g4
    have g5 := I.g5
    have g8 := I.g8
    have g16 := I.g16
    have b8 := I.b8
    have b16 := I.b16
    have h26 := fun (H'' : AHeap) (f : Fr H' H'') (N b₁ b₂ : Nat) (h₁ : cellsOf (H''.get b₁) = some [.int .i64 fr, .int .i64 to]) (h₂ : cellsOf (H''.get b₂) = some [.int .i64 m, .int .i64 bm]) => c26f (N := N) (C := C) (w := w) (ld := 0) (cap := cap2) (k₁ := b₁) (k₂ := b₂) (I.s2.fr f) hl h₁ h₂
    simp (disch := (first | (simp only [ne_eq,Nat.reduceEqDiff,not_false_eq_true,Nat.reduceLT]; done) | omega | (simp only [yz] <;> omega) | fail)) only [↓yp,yq0,yq1,yq2,yq3,yq4,yl,ys0,ys1,Nat.reduceAdd,Nat.reduceMul,Nat.reduceSub,Nat.reduceBEq,Nat.reduceEqDiff,Nat.reduceLT,Nat.reduceLeDiff,reduceIte,Int.reduceAdd,Int.reduceSub,Int.reduceMul,Int.reduceLT,Int.reduceLE,Int.reduceEq,Int.reduceToNat,Int.reduceNeg,zed,zee,zfr,zhw,ysu,yrg,ysv,ysw,ysx,g2,g3,g4,g5,g8,g16,b8,b16,A_build st_bdS_50,A_buildSlice st_brS_52_2]
    rw [h26 _ (by (repeat (first | exact Fr.refl _ | assumption | refine Fr.allocd ?_ _ | refine Fr.kill ?_ (by first | assumption | omega) | refine Fr.put ?_ (by first | omega | (simp only [yz] <;> omega)) _))) _ _ _ (by simp (disch := (first | (simp only [ne_eq,Nat.reduceEqDiff,not_false_eq_true,Nat.reduceLT]; done) | omega | (simp only [yz] <;> omega) | fail)) only [yg,Nat.reduceAdd,Nat.reduceEqDiff,Nat.reduceLT]) (by simp (disch := (first | (simp only [ne_eq,Nat.reduceEqDiff,not_false_eq_true,Nat.reduceLT]; done) | omega | (simp only [yz] <;> omega) | fail)) only [yg,Nat.reduceAdd,Nat.reduceEqDiff,Nat.reduceLT]), hq]
    simp (disch := (first | (simp only [ne_eq,Nat.reduceEqDiff,not_false_eq_true,Nat.reduceLT]; done) | omega | (simp only [yz] <;> omega) | fail)) only [↓yp,yq0,yq1,yq2,yq3,yq4,yl,ys0,ys1,Nat.reduceAdd,Nat.reduceMul,Nat.reduceSub,Nat.reduceBEq,Nat.reduceEqDiff,Nat.reduceLT,Nat.reduceLeDiff,reduceIte,Int.reduceAdd,Int.reduceSub,Int.reduceMul,Int.reduceLT,Int.reduceLE,Int.reduceEq,Int.reduceToNat,Int.reduceNeg,zed,zee,zfr,zhw,ysu,yrg,ysv,ysw,ysx]
    refine ⟨I.next (by (repeat (first | exact Fr.refl _ | assumption | refine Fr.allocd ?_ _ | refine Fr.kill ?_ (by first | assumption | omega) | refine Fr.put ?_ (by first | omega | (simp only [yz] <;> omega)) _))) (by (with_reducible (repeat (first | refine Keep.put ?_ (by decide) | refine Keep.none ?_ | assumption | exact Keep.refl _ _ _)))), ?_, ?_, ?_⟩
    · simp (disch := (first | (simp only [ne_eq,Nat.reduceEqDiff,not_false_eq_true,Nat.reduceLT]; done) | omega | (simp only [yz] <;> omega) | fail)) only [yg,Nat.reduceAdd,Nat.reduceEqDiff,Nat.reduceLT,g17]
    · simp (disch := (first | (simp only [ne_eq,Nat.reduceEqDiff,not_false_eq_true,Nat.reduceLT]; done) | omega | (simp only [yz] <;> omega) | fail)) only [yg,Nat.reduceAdd,Nat.reduceEqDiff,Nat.reduceLT,g18]
    · simp (disch := (first | (simp only [ne_eq,Nat.reduceEqDiff,not_false_eq_true,Nat.reduceLT]; done) | omega | (simp only [yz] <;> omega) | fail)) only [yg,Nat.reduceAdd,Nat.reduceEqDiff,Nat.reduceLT]
  clear I g17 g18
  clear e H'
  rintro e H' ⟨I, g17, g18, g19⟩
  refine W_seqI (fun e' H'' => LaidC H a cap l C w ld fr to m bm st e' H'' a1 cap1 a2 cap2 ∧ gt 120 e' 17 = .int .i64 hv.1 ∧ gt 120 e' 18 = .int .i64 hv.2 ∧ gt 120 e' 19 = .int .i64 q ∧ gt 120 e' 20 = .int .i64 0) ?_ ?_
  · have sz := I.sz
    simp (disch := (first | (simp only [ne_eq,Nat.reduceEqDiff,not_false_eq_true,Nat.reduceLT]; done) | omega | (simp only [yz] <;> omega) | fail)) only [↓yp,yq0,yq1,yq2,yq3,yq4,yl,ys0,ys1,Nat.reduceAdd,Nat.reduceMul,Nat.reduceSub,Nat.reduceBEq,Nat.reduceEqDiff,Nat.reduceLT,Nat.reduceLeDiff,reduceIte,Int.reduceAdd,Int.reduceSub,Int.reduceMul,Int.reduceLT,Int.reduceLE,Int.reduceEq,Int.reduceToNat,Int.reduceNeg,zed,zee,zfr,zhw,ysu,yrg,ysv,ysw,ysx]
    refine ⟨I.next (Fr.refl _) (by (with_reducible (repeat (first | refine Keep.put ?_ (by decide) | refine Keep.none ?_ | assumption | exact Keep.refl _ _ _)))), ?_, ?_, ?_, ?_⟩
    · simp (disch := (first | (simp only [ne_eq,Nat.reduceEqDiff,not_false_eq_true,Nat.reduceLT]; done) | omega | (simp only [yz] <;> omega) | fail)) only [yg,Nat.reduceAdd,Nat.reduceEqDiff,Nat.reduceLT,g17]
    · simp (disch := (first | (simp only [ne_eq,Nat.reduceEqDiff,not_false_eq_true,Nat.reduceLT]; done) | omega | (simp only [yz] <;> omega) | fail)) only [yg,Nat.reduceAdd,Nat.reduceEqDiff,Nat.reduceLT,g18]
    · simp (disch := (first | (simp only [ne_eq,Nat.reduceEqDiff,not_false_eq_true,Nat.reduceLT]; done) | omega | (simp only [yz] <;> omega) | fail)) only [yg,Nat.reduceAdd,Nat.reduceEqDiff,Nat.reduceLT,g19]
    · simp (disch := (first | (simp only [ne_eq,Nat.reduceEqDiff,not_false_eq_true,Nat.reduceLT]; done) | omega | (simp only [yz] <;> omega) | fail)) only [yg,Nat.reduceAdd,Nat.reduceEqDiff,Nat.reduceLT]
  clear I g17 g18 g19
  clear e H'
  rintro e H' ⟨I, g17, g18, g19, g20⟩
  refine W_seqI (fun e' H'' => LaidC H a cap l C w ld fr to m bm st e' H'' a1 cap1 a2 cap2 ∧ gt 120 e' 17 = .int .i64 hv.1 ∧ gt 120 e' 18 = .int .i64 hv.2 ∧ gt 120 e' 19 = .int .i64 hv.2 ∧ gt 120 e' 20 = .int .i64 hv.1) ?_ ?_
  · have sz := I.sz
    by_cases h0 : q = 0
    rotate_left
    · have hd0 : decide (q = 0) = false := by simpa using h0
      have e : hv = (0, q) := by rw [← hhv]; unfold heavG; rw [hq, if_pos h0]
      subst e
      simp (disch := (first | (simp only [ne_eq,Nat.reduceEqDiff,not_false_eq_true,Nat.reduceLT]; done) | omega | (simp only [yz] <;> omega) | fail)) only [↓yp,yq0,yq1,yq2,yq3,yq4,yl,ys0,ys1,Nat.reduceAdd,Nat.reduceMul,Nat.reduceSub,Nat.reduceBEq,Nat.reduceEqDiff,Nat.reduceLT,Nat.reduceLeDiff,reduceIte,Int.reduceAdd,Int.reduceSub,Int.reduceMul,Int.reduceLT,Int.reduceLE,Int.reduceEq,Int.reduceToNat,Int.reduceNeg,zed,zee,zfr,zhw,ysu,yrg,ysv,ysw,ysx,g19,hd0]
      refine ⟨I.next (Fr.refl _) (by (with_reducible (repeat (first | refine Keep.put ?_ (by decide) | refine Keep.none ?_ | assumption | exact Keep.refl _ _ _)))), ?_, ?_, ?_, ?_⟩
      · simp (disch := (first | (simp only [ne_eq,Nat.reduceEqDiff,not_false_eq_true,Nat.reduceLT]; done) | omega | (simp only [yz] <;> omega) | fail)) only [yg,Nat.reduceAdd,Nat.reduceEqDiff,Nat.reduceLT,g17]
      · simp (disch := (first | (simp only [ne_eq,Nat.reduceEqDiff,not_false_eq_true,Nat.reduceLT]; done) | omega | (simp only [yz] <;> omega) | fail)) only [yg,Nat.reduceAdd,Nat.reduceEqDiff,Nat.reduceLT,g18]
      · simp (disch := (first | (simp only [ne_eq,Nat.reduceEqDiff,not_false_eq_true,Nat.reduceLT]; done) | omega | (simp only [yz] <;> omega) | fail)) only [yg,Nat.reduceAdd,Nat.reduceEqDiff,Nat.reduceLT,g19]
      · simp (disch := (first | (simp only [ne_eq,Nat.reduceEqDiff,not_false_eq_true,Nat.reduceLT]; done) | omega | (simp only [yz] <;> omega) | fail)) only [yg,Nat.reduceAdd,Nat.reduceEqDiff,Nat.reduceLT,g20]
    have hd0 : decide (q = 0) = true := by simpa using h0
    have hq0 := hq
    rw [h0] at hq0
    have e : hv = heavV C l w fr to m bm := by rw [← hhv]; unfold heavG; rw [if_neg (by rw [hq0]; simp)]
    have g2 := I.g2
    have g3 := I.g3
    have g4 := I.g4
    have g5 := I.g5
    have g8 := I.g8
    have g16 := I.g16
    have b8 := I.b8
    have b16 := I.b16
    have h45 := fun (N : Nat) => c45 (N := N) (cap := cap2) I.s2 hl hq0
    unfold heavV at e
    cases hdn : down (fits C l w fr to m bm) 10 with
    | none =>
      rw [hdn] at e
      subst e
      have hr : heavR (fits C l w fr to m bm) 10 = -1 := by unfold heavR; rw [hdn]
      rw [hr] at h45
      simp (disch := (first | (simp only [ne_eq,Nat.reduceEqDiff,not_false_eq_true,Nat.reduceLT]; done) | omega | (simp only [yz] <;> omega) | fail)) only [↓yp,yq0,yq1,yq2,yq3,yq4,yl,ys0,ys1,Nat.reduceAdd,Nat.reduceMul,Nat.reduceSub,Nat.reduceBEq,Nat.reduceEqDiff,Nat.reduceLT,Nat.reduceLeDiff,reduceIte,Int.reduceAdd,Int.reduceSub,Int.reduceMul,Int.reduceLT,Int.reduceLE,Int.reduceEq,Int.reduceToNat,Int.reduceNeg,zed,zee,zfr,zhw,ysu,yrg,ysv,ysw,ysx,g19,hd0,g2,g3,g4,g5,g8,g16,b8,b16,h45]
      refine ⟨I.next (Fr.refl _) (by (with_reducible (repeat (first | refine Keep.put ?_ (by decide) | refine Keep.none ?_ | assumption | exact Keep.refl _ _ _)))), ?_, ?_, ?_, ?_⟩
      · simp (disch := (first | (simp only [ne_eq,Nat.reduceEqDiff,not_false_eq_true,Nat.reduceLT]; done) | omega | (simp only [yz] <;> omega) | fail)) only [yg,Nat.reduceAdd,Nat.reduceEqDiff,Nat.reduceLT,g17]
      · simp (disch := (first | (simp only [ne_eq,Nat.reduceEqDiff,not_false_eq_true,Nat.reduceLT]; done) | omega | (simp only [yz] <;> omega) | fail)) only [yg,Nat.reduceAdd,Nat.reduceEqDiff,Nat.reduceLT,g18]
      · simp (disch := (first | (simp only [ne_eq,Nat.reduceEqDiff,not_false_eq_true,Nat.reduceLT]; done) | omega | (simp only [yz] <;> omega) | fail)) only [yg,Nat.reduceAdd,Nat.reduceEqDiff,Nat.reduceLT]
      · simp (disch := (first | (simp only [ne_eq,Nat.reduceEqDiff,not_false_eq_true,Nat.reduceLT]; done) | omega | (simp only [yz] <;> omega) | fail)) only [yg,Nat.reduceAdd,Nat.reduceEqDiff,Nat.reduceLT]
    | some n =>
      rw [hdn] at e
      subst e
      have hr : heavR (fits C l w fr to m bm) 10 = (n : Int) := by unfold heavR; rw [hdn]
      rw [hr] at h45
      have hn0 : decide ((n : Int) < 0) = false := by simp
      simp (disch := (first | (simp only [ne_eq,Nat.reduceEqDiff,not_false_eq_true,Nat.reduceLT]; done) | omega | (simp only [yz] <;> omega) | fail)) only [↓yp,yq0,yq1,yq2,yq3,yq4,yl,ys0,ys1,Nat.reduceAdd,Nat.reduceMul,Nat.reduceSub,Nat.reduceBEq,Nat.reduceEqDiff,Nat.reduceLT,Nat.reduceLeDiff,reduceIte,Int.reduceAdd,Int.reduceSub,Int.reduceMul,Int.reduceLT,Int.reduceLE,Int.reduceEq,Int.reduceToNat,Int.reduceNeg,zed,zee,zfr,zhw,ysu,yrg,ysv,ysw,ysx,g19,hd0,g2,g3,g4,g5,g8,g16,b8,b16,h45,hn0]
      refine ⟨I.next (Fr.refl _) (by (with_reducible (repeat (first | refine Keep.put ?_ (by decide) | refine Keep.none ?_ | assumption | exact Keep.refl _ _ _)))), ?_, ?_, ?_, ?_⟩
      · simp (disch := (first | (simp only [ne_eq,Nat.reduceEqDiff,not_false_eq_true,Nat.reduceLT]; done) | omega | (simp only [yz] <;> omega) | fail)) only [yg,Nat.reduceAdd,Nat.reduceEqDiff,Nat.reduceLT,g17]
      · simp (disch := (first | (simp only [ne_eq,Nat.reduceEqDiff,not_false_eq_true,Nat.reduceLT]; done) | omega | (simp only [yz] <;> omega) | fail)) only [yg,Nat.reduceAdd,Nat.reduceEqDiff,Nat.reduceLT,g18]
      · simp (disch := (first | (simp only [ne_eq,Nat.reduceEqDiff,not_false_eq_true,Nat.reduceLT]; done) | omega | (simp only [yz] <;> omega) | fail)) only [yg,Nat.reduceAdd,Nat.reduceEqDiff,Nat.reduceLT,g19,h0]
      · simp (disch := (first | (simp only [ne_eq,Nat.reduceEqDiff,not_false_eq_true,Nat.reduceLT]; done) | omega | (simp only [yz] <;> omega) | fail)) only [yg,Nat.reduceAdd,Nat.reduceEqDiff,Nat.reduceLT]
  clear I g17 g18 g19 g20
  clear e H'
  rintro e H' ⟨I, g17, g18, g19, g20⟩
  refine W_seqI (fun e' H'' => LaidC H a cap l C w ld fr to m bm st e' H'' a1 cap1 a2 cap2) ?_ ?_
  · have sz := I.sz
    simp (disch := (first | (simp only [ne_eq,Nat.reduceEqDiff,not_false_eq_true,Nat.reduceLT]; done) | omega | (simp only [yz] <;> omega) | fail)) only [↓yp,yq0,yq1,yq2,yq3,yq4,yl,ys0,ys1,Nat.reduceAdd,Nat.reduceMul,Nat.reduceSub,Nat.reduceBEq,Nat.reduceEqDiff,Nat.reduceLT,Nat.reduceLeDiff,reduceIte,Int.reduceAdd,Int.reduceSub,Int.reduceMul,Int.reduceLT,Int.reduceLE,Int.reduceEq,Int.reduceToNat,Int.reduceNeg,zed,zee,zfr,zhw,ysu,yrg,ysv,ysw,ysx,g17,g18,g19,g20,hcd]
    exact I.next (Fr.refl _) (by (with_reducible (repeat (first | refine Keep.put ?_ (by decide) | refine Keep.none ?_ | assumption | exact Keep.refl _ _ _))))
  clear I g17 g18 g19 g20
  clear e H'
  rintro e H' I
  obtain ⟨hv, hhv⟩ : ∃ hv, lateG C l w ld fr to m st = hv := ⟨_, rfl⟩
  refine W_seqI (fun e' H'' => LaidC H a cap l C w ld fr to m bm st e' H'' a1 cap1 a2 cap2 ∧ gt 120 e' 17 = .int .i64 hv.1 ∧ gt 120 e' 18 = .int .i64 hv.2) ?_ ?_
  · have sz := I.sz
    have g2 := I.g2
    have g3 := I.g3
    have g4 := I.g4
    have g6 := I.g6
    have g8 := I.g8
    have g15 := I.g15
    have b8 := I.b8
    have b15 := I.b15
    simp (disch := (first | (simp only [ne_eq,Nat.reduceEqDiff,not_false_eq_true,Nat.reduceLT]; done) | omega | (simp only [yz] <;> omega) | fail)) only [↓yp,yq0,yq1,yq2,yq3,yq4,yl,ys0,ys1,Nat.reduceAdd,Nat.reduceMul,Nat.reduceSub,Nat.reduceBEq,Nat.reduceEqDiff,Nat.reduceLT,Nat.reduceLeDiff,reduceIte,Int.reduceAdd,Int.reduceSub,Int.reduceMul,Int.reduceLT,Int.reduceLE,Int.reduceEq,Int.reduceToNat,Int.reduceNeg,zed,zee,zfr,zhw,ysu,yrg,ysv,ysw,ysx,g2,g3,g4,g6,g8,g15,b8,b15]
    rw [c46 I.s1 hl, hhv]
    simp (disch := (first | (simp only [ne_eq,Nat.reduceEqDiff,not_false_eq_true,Nat.reduceLT]; done) | omega | (simp only [yz] <;> omega) | fail)) only [↓yp,yq0,yq1,yq2,yq3,yq4,yl,ys0,ys1,Nat.reduceAdd,Nat.reduceMul,Nat.reduceSub,Nat.reduceBEq,Nat.reduceEqDiff,Nat.reduceLT,Nat.reduceLeDiff,reduceIte,Int.reduceAdd,Int.reduceSub,Int.reduceMul,Int.reduceLT,Int.reduceLE,Int.reduceEq,Int.reduceToNat,Int.reduceNeg,zed,zee,zfr,zhw,ysu,yrg,ysv,ysw,ysx]
    refine ⟨I.next (Fr.refl _) (by (with_reducible (repeat (first | refine Keep.put ?_ (by decide) | refine Keep.none ?_ | assumption | exact Keep.refl _ _ _)))), ?_, ?_⟩
    · simp (disch := (first | (simp only [ne_eq,Nat.reduceEqDiff,not_false_eq_true,Nat.reduceLT]; done) | omega | (simp only [yz] <;> omega) | fail)) only [yg,Nat.reduceAdd,Nat.reduceEqDiff,Nat.reduceLT]
    · simp (disch := (first | (simp only [ne_eq,Nat.reduceEqDiff,not_false_eq_true,Nat.reduceLT]; done) | omega | (simp only [yz] <;> omega) | fail)) only [yg,Nat.reduceAdd,Nat.reduceEqDiff,Nat.reduceLT]
  clear I
  clear e H'
  rintro e H' ⟨I, g17, g18⟩
  refine W_seqI (fun e' H'' => LaidC H a cap l C w ld fr to m bm st e' H'' a1 cap1 a2 cap2 ∧ gt 120 e' 17 = .int .i64 hv.1 ∧ gt 120 e' 18 = .int .i64 hv.2 ∧ gt 120 e' 20 = .int .i64 0) ?_ ?_
  · have sz := I.sz
    simp (disch := (first | (simp only [ne_eq,Nat.reduceEqDiff,not_false_eq_true,Nat.reduceLT]; done) | omega | (simp only [yz] <;> omega) | fail)) only [↓yp,yq0,yq1,yq2,yq3,yq4,yl,ys0,ys1,Nat.reduceAdd,Nat.reduceMul,Nat.reduceSub,Nat.reduceBEq,Nat.reduceEqDiff,Nat.reduceLT,Nat.reduceLeDiff,reduceIte,Int.reduceAdd,Int.reduceSub,Int.reduceMul,Int.reduceLT,Int.reduceLE,Int.reduceEq,Int.reduceToNat,Int.reduceNeg,zed,zee,zfr,zhw,ysu,yrg,ysv,ysw,ysx]
    refine ⟨I.next (Fr.refl _) (by (with_reducible (repeat (first | refine Keep.put ?_ (by decide) | refine Keep.none ?_ | assumption | exact Keep.refl _ _ _)))), ?_, ?_, ?_⟩
    · simp (disch := (first | (simp only [ne_eq,Nat.reduceEqDiff,not_false_eq_true,Nat.reduceLT]; done) | omega | (simp only [yz] <;> omega) | fail)) only [yg,Nat.reduceAdd,Nat.reduceEqDiff,Nat.reduceLT,g17]
    · simp (disch := (first | (simp only [ne_eq,Nat.reduceEqDiff,not_false_eq_true,Nat.reduceLT]; done) | omega | (simp only [yz] <;> omega) | fail)) only [yg,Nat.reduceAdd,Nat.reduceEqDiff,Nat.reduceLT,g18]
    · simp (disch := (first | (simp only [ne_eq,Nat.reduceEqDiff,not_false_eq_true,Nat.reduceLT]; done) | omega | (simp only [yz] <;> omega) | fail)) only [yg,Nat.reduceAdd,Nat.reduceEqDiff,Nat.reduceLT]
  clear I g17 g18
  clear e H'
  rintro e H' ⟨I, g17, g18, g20⟩
  obtain ⟨q, hq⟩ : ∃ q, asked C l w ld [fr, to] [st] [m] = q := ⟨_, rfl⟩
  refine W_seqI (fun e' H'' => LaidC H a cap l C w ld fr to m bm st e' H'' a1 cap1 a2 cap2 ∧ gt 120 e' 17 = .int .i64 hv.1 ∧ gt 120 e' 18 = .int .i64 hv.2 ∧ gt 120 e' 19 = .int .i64 hv.2 ∧ gt 120 e' 20 = .int .i64 hv.1) ?_ ?_
  · refine W_seqI (fun e' H'' => LaidC H a cap l C w ld fr to m bm st e' H'' a1 cap1 a2 cap2 ∧ gt 120 e' 17 = .int .i64 hv.1 ∧ gt 120 e' 18 = .int .i64 hv.2 ∧ gt 120 e' 20 = .int .i64 0 ∧ gt 120 e' 19 = .int .i64 q) ?_ ?_
    · have sz := I.sz
      have g2 := I.g2
      have g3 := I.g3
      have g4 := I.g4
      have g6 := I.g6
      have g8 := I.g8
      have g16 := I.g16
      have b8 := I.b8
      have b16 := I.b16
      refine W_drawR (pl := [(5, .rw [.int .i64 fr, .int .i64 to] 3 false []), (7, .rw [.int .i64 st] 3 false []), (9, .rw [.int .i64 m] 3 false [])]) [] [] (plan15M rfl g2 g3 g6 g4) (by kernel_rfl) (by kernel_rfl) (by kernel_rfl) (by (first | omega | (simp only [yz] <;> omega))) ?_
      have h26 := fun (H'' : AHeap) (f : Fr H' H'') (N b₁ b₂ b₃ : Nat) (h₁ : cellsOf (H''.get b₁) = some [.int .i64 fr, .int .i64 to]) (h₂ : cellsOf (H''.get b₂) = some [.int .i64 st]) (h₃ : cellsOf (H''.get b₃) = some [.int .i64 m]) => c26h (N := N) (C := C) (w := w) (ld := ld) (cap := cap2) (k₁ := b₁) (k₂ := b₂) (k₃ := b₃) (I.s2.fr f) hl h₁ h₂ h₃
      simp (disch := (first | (simp only [ne_eq,Nat.reduceEqDiff,not_false_eq_true,Nat.reduceLT]; done) | omega | (simp only [yz] <;> omega) | fail)) only [↓yp,yq0,yq1,yq2,yq3,yq4,yl,ys0,ys1,Nat.reduceAdd,Nat.reduceMul,Nat.reduceSub,Nat.reduceBEq,Nat.reduceEqDiff,Nat.reduceLT,Nat.reduceLeDiff,reduceIte,Int.reduceAdd,Int.reduceSub,Int.reduceMul,Int.reduceLT,Int.reduceLE,Int.reduceEq,Int.reduceToNat,Int.reduceNeg,zed,zee,zfr,zhw,ysu,yrg,ysv,ysw,ysx,g2,g3,g4,g6,g8,g16,b8,b16,c27,newK_row st_brS_52_2,newK_row st_brS_52_1,maskE_nilSlice]
      rw [h26 _ (by (repeat (first | exact Fr.refl _ | assumption | refine Fr.allocd ?_ _ | refine Fr.kill ?_ (by first | assumption | omega) | refine Fr.put ?_ (by first | omega | (simp only [yz] <;> omega)) _))) _ _ _ _ (by simp (disch := (first | (simp only [ne_eq,Nat.reduceEqDiff,not_false_eq_true,Nat.reduceLT]; done) | omega | (simp only [yz] <;> omega) | fail)) only [yg,Nat.reduceAdd,Nat.reduceEqDiff,Nat.reduceLT]) (by simp (disch := (first | (simp only [ne_eq,Nat.reduceEqDiff,not_false_eq_true,Nat.reduceLT]; done) | omega | (simp only [yz] <;> omega) | fail)) only [yg,Nat.reduceAdd,Nat.reduceEqDiff,Nat.reduceLT]) (by simp (disch := (first | (simp only [ne_eq,Nat.reduceEqDiff,not_false_eq_true,Nat.reduceLT]; done) | omega | (simp only [yz] <;> omega) | fail)) only [yg,Nat.reduceAdd,Nat.reduceEqDiff,Nat.reduceLT])]
      simp (disch := (first | (simp only [ne_eq,Nat.reduceEqDiff,not_false_eq_true,Nat.reduceLT]; done) | omega | (simp only [yz] <;> omega) | fail)) only [↓yp,yq0,yq1,yq2,yq3,yq4,yl,ys0,ys1,Nat.reduceAdd,Nat.reduceMul,Nat.reduceSub,Nat.reduceBEq,Nat.reduceEqDiff,Nat.reduceLT,Nat.reduceLeDiff,reduceIte,Int.reduceAdd,Int.reduceSub,Int.reduceMul,Int.reduceLT,Int.reduceLE,Int.reduceEq,Int.reduceToNat,Int.reduceNeg,zed,zee,zfr,zhw,ysu,yrg,ysv,ysw,ysx,g2,g3,g4,g6,g8,g16,b8,b16,c27,newK_row st_brS_52_2,newK_row st_brS_52_1,maskE_nilSlice]
      rw [h26 _ (by (repeat (first | exact Fr.refl _ | assumption | refine Fr.allocd ?_ _ | refine Fr.kill ?_ (by first | assumption | omega) | refine Fr.put ?_ (by first | omega | (simp only [yz] <;> omega)) _))) _ _ _ _ (by simp (disch := (first | (simp only [ne_eq,Nat.reduceEqDiff,not_false_eq_true,Nat.reduceLT]; done) | omega | (simp only [yz] <;> omega) | fail)) only [yg,Nat.reduceAdd,Nat.reduceEqDiff,Nat.reduceLT]) (by simp (disch := (first | (simp only [ne_eq,Nat.reduceEqDiff,not_false_eq_true,Nat.reduceLT]; done) | omega | (simp only [yz] <;> omega) | fail)) only [yg,Nat.reduceAdd,Nat.reduceEqDiff,Nat.reduceLT]) (by simp (disch := (first | (simp only [ne_eq,Nat.reduceEqDiff,not_false_eq_true,Nat.reduceLT]; done) | omega | (simp only [yz] <;> omega) | fail)) only [yg,Nat.reduceAdd,Nat.reduceEqDiff,Nat.reduceLT]), hq]
      simp (disch := (first | (simp only [ne_eq,Nat.reduceEqDiff,not_false_eq_true,Nat.reduceLT]; done) | omega | (simp only [yz] <;> omega) | fail)) only [↓yp,yq0,yq1,yq2,yq3,yq4,yl,ys0,ys1,Nat.reduceAdd,Nat.reduceMul,Nat.reduceSub,Nat.reduceBEq,Nat.reduceEqDiff,Nat.reduceLT,Nat.reduceLeDiff,reduceIte,Int.reduceAdd,Int.reduceSub,Int.reduceMul,Int.reduceLT,Int.reduceLE,Int.reduceEq,Int.reduceToNat,Int.reduceNeg,zed,zee,zfr,zhw,ysu,yrg,ysv,ysw,ysx]
      refine ⟨I.next (by (repeat (first | exact Fr.refl _ | assumption | refine Fr.allocd ?_ _ | refine Fr.kill ?_ (by first | assumption | omega) | refine Fr.put ?_ (by first | omega | (simp only [yz] <;> omega)) _))) (by (with_reducible (repeat (first | refine Keep.put ?_ (by decide) | refine Keep.none ?_ | assumption | exact Keep.refl _ _ _)))), ?_, ?_, ?_, ?_⟩
      · simp (disch := (first | (simp only [ne_eq,Nat.reduceEqDiff,not_false_eq_true,Nat.reduceLT]; done) | omega | (simp only [yz] <;> omega) | fail)) only [yg,Nat.reduceAdd,Nat.reduceEqDiff,Nat.reduceLT,g17]
      · simp (disch := (first | (simp only [ne_eq,Nat.reduceEqDiff,not_false_eq_true,Nat.reduceLT]; done) | omega | (simp only [yz] <;> omega) | fail)) only [yg,Nat.reduceAdd,Nat.reduceEqDiff,Nat.reduceLT,g18]
      · simp (disch := (first | (simp only [ne_eq,Nat.reduceEqDiff,not_false_eq_true,Nat.reduceLT]; done) | omega | (simp only [yz] <;> omega) | fail)) only [yg,Nat.reduceAdd,Nat.reduceEqDiff,Nat.reduceLT,g20]
      · simp (disch := (first | (simp only [ne_eq,Nat.reduceEqDiff,not_false_eq_true,Nat.reduceLT]; done) | omega | (simp only [yz] <;> omega) | fail)) only [yg,Nat.reduceAdd,Nat.reduceEqDiff,Nat.reduceLT]
    clear I g17 g18 g20
    clear e H'
    rintro e H' ⟨I, g17, g18, g20, g19⟩
    have sz := I.sz
    by_cases h0 : q = 0
    rotate_left
    · have hd0 : decide (q = 0) = false := by simpa using h0
      have e : hv = (0, q) := by rw [← hhv]; unfold lateG; rw [hq, if_pos h0]
      subst e
      simp (disch := (first | (simp only [ne_eq,Nat.reduceEqDiff,not_false_eq_true,Nat.reduceLT]; done) | omega | (simp only [yz] <;> omega) | fail)) only [↓yp,yq0,yq1,yq2,yq3,yq4,yl,ys0,ys1,Nat.reduceAdd,Nat.reduceMul,Nat.reduceSub,Nat.reduceBEq,Nat.reduceEqDiff,Nat.reduceLT,Nat.reduceLeDiff,reduceIte,Int.reduceAdd,Int.reduceSub,Int.reduceMul,Int.reduceLT,Int.reduceLE,Int.reduceEq,Int.reduceToNat,Int.reduceNeg,zed,zee,zfr,zhw,ysu,yrg,ysv,ysw,ysx,g19,hd0]
      refine ⟨I.next (Fr.refl _) (by (with_reducible (repeat (first | refine Keep.put ?_ (by decide) | refine Keep.none ?_ | assumption | exact Keep.refl _ _ _)))), ?_, ?_, ?_, ?_⟩
      · simp (disch := (first | (simp only [ne_eq,Nat.reduceEqDiff,not_false_eq_true,Nat.reduceLT]; done) | omega | (simp only [yz] <;> omega) | fail)) only [yg,Nat.reduceAdd,Nat.reduceEqDiff,Nat.reduceLT,g17]
      · simp (disch := (first | (simp only [ne_eq,Nat.reduceEqDiff,not_false_eq_true,Nat.reduceLT]; done) | omega | (simp only [yz] <;> omega) | fail)) only [yg,Nat.reduceAdd,Nat.reduceEqDiff,Nat.reduceLT,g18]
      · simp (disch := (first | (simp only [ne_eq,Nat.reduceEqDiff,not_false_eq_true,Nat.reduceLT]; done) | omega | (simp only [yz] <;> omega) | fail)) only [yg,Nat.reduceAdd,Nat.reduceEqDiff,Nat.reduceLT,g19]
      · simp (disch := (first | (simp only [ne_eq,Nat.reduceEqDiff,not_false_eq_true,Nat.reduceLT]; done) | omega | (simp only [yz] <;> omega) | fail)) only [yg,Nat.reduceAdd,Nat.reduceEqDiff,Nat.reduceLT,g20]
    have hd0 : decide (q = 0) = true := by simpa using h0
    have hq0 := hq
    rw [h0] at hq0
    have e : hv = lateA C l w ld fr to m st := by rw [← hhv]; unfold lateG; rw [if_neg (by rw [hq0]; simp)]
    have hst := (asked_ok hq0).2.2.2.2.1 st (by simp)
    obtain ⟨i, rfl⟩ : ∃ i : Nat, st = i := ⟨st.toNat, by omega⟩
    have g2 := I.g2
    have g3 := I.g3
    have g4 := I.g4
    have g6 := I.g6
    have g8 := I.g8
    have g16 := I.g16
    have b8 := I.b8
    have b16 := I.b16
    have h47 := fun (N : Nat) => c47 (N := N) (cap := cap2) I.s2 hl hq0
    rw [← e] at h47
    simp (disch := (first | (simp only [ne_eq,Nat.reduceEqDiff,not_false_eq_true,Nat.reduceLT]; done) | omega | (simp only [yz] <;> omega) | fail)) only [↓yp,yq0,yq1,yq2,yq3,yq4,yl,ys0,ys1,Nat.reduceAdd,Nat.reduceMul,Nat.reduceSub,Nat.reduceBEq,Nat.reduceEqDiff,Nat.reduceLT,Nat.reduceLeDiff,reduceIte,Int.reduceAdd,Int.reduceSub,Int.reduceMul,Int.reduceLT,Int.reduceLE,Int.reduceEq,Int.reduceToNat,Int.reduceNeg,zed,zee,zfr,zhw,ysu,yrg,ysv,ysw,ysx,g19,hd0]
    refine W_draw [] rfl (by kernel_rfl) (by kernel_rfl) (by (first | omega | (simp only [yz] <;> omega))) ?_
    simp (disch := (first | (simp only [ne_eq,Nat.reduceEqDiff,not_false_eq_true,Nat.reduceLT]; done) | omega | (simp only [yz] <;> omega) | fail)) only [↓yp,yq0,yq1,yq2,yq3,yq4,yl,ys0,ys1,Nat.reduceAdd,Nat.reduceMul,Nat.reduceSub,Nat.reduceBEq,Nat.reduceEqDiff,Nat.reduceLT,Nat.reduceLeDiff,reduceIte,Int.reduceAdd,Int.reduceSub,Int.reduceMul,Int.reduceLT,Int.reduceLE,Int.reduceEq,Int.reduceToNat,Int.reduceNeg,zed,zee,zfr,zhw,ysu,yrg,ysv,ysw,ysx,g2,g3,g4,g6,g8,g16,b8,b16,c27,h47]
    refine ⟨I.next (Fr.refl _) (by (with_reducible (repeat (first | refine Keep.put ?_ (by decide) | refine Keep.none ?_ | assumption | exact Keep.refl _ _ _)))), ?_, ?_, ?_, ?_⟩
    · simp (disch := (first | (simp only [ne_eq,Nat.reduceEqDiff,not_false_eq_true,Nat.reduceLT]; done) | omega | (simp only [yz] <;> omega) | fail)) only [yg,Nat.reduceAdd,Nat.reduceEqDiff,Nat.reduceLT,g17]
    · simp (disch := (first | (simp only [ne_eq,Nat.reduceEqDiff,not_false_eq_true,Nat.reduceLT]; done) | omega | (simp only [yz] <;> omega) | fail)) only [yg,Nat.reduceAdd,Nat.reduceEqDiff,Nat.reduceLT,g18]
    · simp (disch := (first | (simp only [ne_eq,Nat.reduceEqDiff,not_false_eq_true,Nat.reduceLT]; done) | omega | (simp only [yz] <;> omega) | fail)) only [yg,Nat.reduceAdd,Nat.reduceEqDiff,Nat.reduceLT]
    · simp (disch := (first | (simp only [ne_eq,Nat.reduceEqDiff,not_false_eq_true,Nat.reduceLT]; done) | omega | (simp only [yz] <;> omega) | fail)) only [yg,Nat.reduceAdd,Nat.reduceEqDiff,Nat.reduceLT]
  clear I g17 g18 g20
  clear e H'
  rintro e H' ⟨I, g17, g18, g19, g20⟩
  have sz := I.sz
  have g7 := I.g7
  have g15 := I.g15
  have b7 := I.b7
  have b15 := I.b15
  have h30 := fun (N : Nat) => c30 (N := N) (C := C) (cap := cap1) (cap' := cap) I.s1 (hs.fr I.fr) hl hok
  simp (disch := (first | (simp only [ne_eq,Nat.reduceEqDiff,not_false_eq_true,Nat.reduceLT]; done) | omega | (simp only [yz] <;> omega) | fail)) only [↓yp,yq0,yq1,yq2,yq3,yq4,yl,ys0,ys1,Nat.reduceAdd,Nat.reduceMul,Nat.reduceSub,Nat.reduceBEq,Nat.reduceEqDiff,Nat.reduceLT,Nat.reduceLeDiff,reduceIte,Int.reduceAdd,Int.reduceSub,Int.reduceMul,Int.reduceLT,Int.reduceLE,Int.reduceEq,Int.reduceToNat,Int.reduceNeg,zed,zee,zfr,zhw,ysu,yrg,ysv,ysw,ysx,g17,g18,g19,g20,g7,g15,b7,b15,hcd,h30,awake_r]
end
end Go.Am
