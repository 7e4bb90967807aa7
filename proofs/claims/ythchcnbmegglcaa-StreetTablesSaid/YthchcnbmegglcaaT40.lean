/- The law StreetTables: the tables that are changed a little. -/
import Derived.Test.YthchcnbmegglcaaT39
import Derived.Test.YthchcnbmegglcaaT38
set_option linter.unusedSimpArgs false
set_option linter.unusedVariables false
namespace Go.Am
open Go.Proofs
variable {T : Tab} {P : Program} {N L : Nat} {H : AHeap} {Q : Bool → Value → AHeap → Prop}
section
variable {l : List Str} {C w ld fr wh wn : Int} {i8 i9 k16 c16 : Nat} {a' b2 : Option Addr} {cap' cap2 : Nat} {bs2 : List Int} {H' : AHeap} {e : VT}
/-- What holds of the town that the law made. -/
structure Tw (C w ld : Int) (l : List Str) (a' : Option Addr) (cap' : Nat) (fr wh wn : Int) : Prop where
  hC : 2 ≤ C ∧ C ≤ 8
  hl : l.length ≤ 16
  ho : ∀ s ∈ l, OkS C s
  hn : a' = none → cap' = 0
  hw : 1 ≤ w ∧ w ≤ 9
  hd : 0 ≤ ld ∧ ld ≤ 9
  hfr : 0 ≤ fr ∧ fr < C
  hwh : 0 ≤ wh ∧ wh < C
  hwn : 0 ≤ wn ∧ wn ≤ 59
theorem Tw.good (X : Tw C w ld l a' cap' fr wh wn) : Good C l ld := by
  have := X.hC
  have := X.hd
  exact good_of (chk_of (by omega) X.hl X.ho) (off_iff.2 (by omega))
/-- What the program's own table says. -/
def myT (C : Int) (l : List Str) (w ld fr wn : Int) : List Int := (earT C l w ld fr wn).take C.toNat
theorem myT_len (X : Tw C w ld l a' cap' fr wh wn) : (myT C l w ld fr wn).length = C.toNat := by
  have := X.hC
  have := X.hwn
  unfold myT
  rw [List.length_take, earT_len X.good X.hfr (by omega)]
  omega
theorem myT_tg (X : Tw C w ld l a' cap' fr wh wn) {x : Int} (hx : 0 ≤ x) (h : tg (myT C l w ld fr wn) x ≠ -1) : tg (myT C l w ld fr wn) x = tg (earT C l w ld fr wn) x := by
  unfold myT tg at *
  rw [List.getD_eq_getElem?_getD, List.getElem?_take] at *
  rw [List.getD_eq_getElem?_getD]
  split
  · rfl
  · rename_i h'
    rw [if_neg h'] at h
    exact absurd rfl h
theorem myT_tg2 (X : Tw C w ld l a' cap' fr wh wn) {x : Int} (hx : 0 ≤ x ∧ x < C) : tg (myT C l w ld fr wn) x = tg (earT C l w ld fr wn) x := by
  unfold myT tg
  rw [List.getD_eq_getElem?_getD, List.getD_eq_getElem?_getD, List.getElem?_take, if_pos (by omega)]
theorem myT_ok (X : Tw C w ld l a' cap' fr wh wn) : ∀ x ∈ myT C l w ld fr wn, okM x := fun x hx => by
  have h2 := X.hwn
  have h1 := (earT_ok (w := w) X.good X.hfr (a₀ := wn) (by omega)).2
  obtain ⟨i, hi, rfl⟩ := List.mem_iff_getElem.1 (List.mem_of_mem_take hx)
  have := h1 (i : Int)
  unfold tg at this
  rwa [List.getD_eq_getElem?_getD, Int.toNat_natCast, List.getElem?_eq_getElem hi] at this
theorem myT_le (X : Tw C w ld l a' cap' fr wh wn) {t : List Int} (ht : t.length = C.toNat) (hto : ∀ x ∈ t, okM x) (hb : bnds C l w ld fr wn t = true) : ∀ x : Int, 0 ≤ x → tg (myT C l w ld fr wn) x ≠ -1 → tg t x ≠ -1 ∧ tg t x ≤ tg (myT C l w ld fr wn) x := fun x hx h => by
  have hwn := X.hwn
  have e := myT_tg X hx h
  rw [e] at h ⊢
  exact bnds_le X.good X.hfr (by omega) ht hto hb hx h
set_option maxHeartbeats 4000000 in
set_option maxRecDepth 10000 in
/-- One table that may bound. -/
theorem c8q {j : Nat} (I : TS H C w ld l i8 i9 a' cap' b2 bs2 cap2 fr wh wn k16 c16 e H') (X : Tw C w ld l a' cap' fr wh wn) (g53 : gt 140 e 53 = .int .i64 (j : Nat)) :
    W tabA Try.prog (N + 6500) none (sub [true, true, true, true, true, true, true, false, true, false, false, true, true, false, false] (bodyOf Try.f8)) H.size ⟨140, e, H', []⟩ (endK 140 [] fun e' H'' => TS H C w ld l i8 i9 a' cap' b2 bs2 cap2 fr wh wn k16 c16 e' H'' ∧ gt 140 e' 53 = .int .i64 (j : Nat)) := by
  have sz := I.q.fr.size
  have g16 := I.g16
  have hC := X.hC
  have hlen := myT_len X
  simp only [Try.f8,bodyOf,sub_nil,sub_seq0,sub_seq1,sub_block,sub_loop,sub_cond0,sub_cond1]
  refine W_seqI (fun e' H'' => ∃ k17 c17, TS H C w ld l i8 i9 a' cap' b2 bs2 cap2 fr wh wn k16 c16 e' H'' ∧ gt 140 e' 17 = .slice (some ⟨k17, 0, none⟩) C.toNat c17 ∧ gt 140 e' 53 = .int .i64 (j : Nat) ∧ k16 < k17 ∧ k17 < H''.size ∧ H''.get k17 = .rw (tv (myT C l w ld fr wn)) 3 true []) ?_ ?_
  · simp (disch := (first | (simp only [ne_eq,Nat.reduceEqDiff,not_false_eq_true,Nat.reduceLT]; done) | omega | (simp only [yz] <;> omega) | fail)) only [↓yp,yq0,yq1,yq2,yq3,yq4,yl,ys0,ys1,Nat.reduceAdd,Nat.reduceMul,Nat.reduceSub,Nat.reduceBEq,Nat.reduceEqDiff,Nat.reduceLT,Nat.reduceLeDiff,reduceIte,Int.reduceAdd,Int.reduceSub,Int.reduceMul,Int.reduceLT,Int.reduceLE,Int.reduceEq,Int.reduceToNat,Int.reduceNeg,zed,zee,zfr,zhw,ysu,yrg,ysv,ysw,g16]
    have hkk := I.kk
    have hl16 := I.l16
    have h58 := fun (M : Nat) (hM : 60 ≤ M) (Q : Bool → Value → AHeap → Prop) => c58 (cap := c16) (t := myT C l w ld fr wn) (L := H.size) (Q := Q) (Il.of I.l16 (by rw [I.b16]; rfl)) I.l16 (fun h => by rw [h] at hlen; simp at hlen; omega) (by omega) (by omega) hM
    rw [hlen] at h58
    refine h58 _ (by omega) _ ?_
    intro k17 c17 H1 fr1 hk1 hk2 hk3
    simp (disch := (first | (simp only [ne_eq,Nat.reduceEqDiff,not_false_eq_true,Nat.reduceLT]; done) | omega | (simp only [yz] <;> omega) | fail)) only [↓yp,yq0,yq1,yq2,yq3,yq4,yl,ys0,ys1,Nat.reduceAdd,Nat.reduceMul,Nat.reduceSub,Nat.reduceBEq,Nat.reduceEqDiff,Nat.reduceLT,Nat.reduceLeDiff,reduceIte,Int.reduceAdd,Int.reduceSub,Int.reduceMul,Int.reduceLT,Int.reduceLE,Int.reduceEq,Int.reduceToNat,Int.reduceNeg,zed,zee,zfr,zhw,ysu,yrg,ysv,ysw]
    refine ⟨k17, c17, I.next fr1 (by (with_reducible (repeat (first | refine Keep.put ?_ (by decide) | refine Keep.none ?_ | assumption | exact Keep.refl _ _ _)))), ?_, ?_, by omega, hk2, hk3⟩
    · simp (disch := (first | (simp only [ne_eq,Nat.reduceEqDiff,not_false_eq_true,Nat.reduceLT]; done) | omega | (simp only [yz] <;> omega) | fail)) only [yg,Nat.reduceAdd,Nat.reduceEqDiff,Nat.reduceLT]
    · simp (disch := (first | (simp only [ne_eq,Nat.reduceEqDiff,not_false_eq_true,Nat.reduceLT]; done) | omega | (simp only [yz] <;> omega) | fail)) only [yg,Nat.reduceAdd,Nat.reduceEqDiff,Nat.reduceLT,g53]
  clear sz g16 g53 I
  rintro e1 H1 ⟨k17, c17, I, g17, g53, hk17, hl17, b17⟩
  refine W_seqI (fun e' H'' => ∃ t, TS H C w ld l i8 i9 a' cap' b2 bs2 cap2 fr wh wn k16 c16 e' H'' ∧ gt 140 e' 17 = .slice (some ⟨k17, 0, none⟩) C.toNat c17 ∧ gt 140 e' 53 = .int .i64 (j : Nat) ∧ k17 < H''.size ∧ H''.get k17 = .rw (tv t) 3 true [] ∧ t.length = C.toNat ∧ (∀ x ∈ t, okM x)) ?_ ?_
  · have sz := I.q.fr.size
    have g10 := I.g10
    simp (disch := (first | (simp only [ne_eq,Nat.reduceEqDiff,not_false_eq_true,Nat.reduceLT]; done) | omega | (simp only [yz] <;> omega) | fail)) only [↓yp,yq0,yq1,yq2,yq3,yq4,yl,ys0,ys1,Nat.reduceAdd,Nat.reduceMul,Nat.reduceSub,Nat.reduceBEq,Nat.reduceEqDiff,Nat.reduceLT,Nat.reduceLeDiff,reduceIte,Int.reduceAdd,Int.reduceSub,Int.reduceMul,Int.reduceLT,Int.reduceLE,Int.reduceEq,Int.reduceToNat,Int.reduceNeg,zed,zee,zfr,zhw,ysu,yrg,ysv,ysw,g10]
    refine c59 I.c2 (by omega) (by omega) (by omega) ?_
    rintro f n H2 - p1 p2 hc1 hx1 hs1
    simp (disch := (first | (simp only [ne_eq,Nat.reduceEqDiff,not_false_eq_true,Nat.reduceLT]; done) | omega | (simp only [yz] <;> omega) | fail)) only [↓yp,yq0,yq1,yq2,yq3,yq4,yl,ys0,ys1,Nat.reduceAdd,Nat.reduceMul,Nat.reduceSub,Nat.reduceBEq,Nat.reduceEqDiff,Nat.reduceLT,Nat.reduceLeDiff,reduceIte,Int.reduceAdd,Int.reduceSub,Int.reduceMul,Int.reduceLT,Int.reduceLE,Int.reduceEq,Int.reduceToNat,Int.reduceNeg,zed,zee,zfr,zhw,ysu,yrg,ysv,ysw]
    refine W_while (n := 140) 1500 (fun k e' H'' => ∃ (i : Nat) (t : List Int), k = (n - i).toNat ∧ (i : Int) ≤ n ∧ gt 140 e' 59 = .int .i64 (i : Nat) ∧ gt 140 e' 58 = .int .i64 n ∧ TS H C w ld l i8 i9 a' cap' b2 bs2 cap2 fr wh wn k16 c16 e' H'' ∧ gt 140 e' 17 = .slice (some ⟨k17, 0, none⟩) C.toNat c17 ∧ gt 140 e' 53 = .int .i64 (j : Nat) ∧ k17 < H''.size ∧ H''.get k17 = .rw (tv t) 3 true [] ∧ t.length = C.toNat ∧ (∀ x ∈ t, okM x))
      ?_ 3 n.toNat ⟨0, myT C l w ld fr wn, by omega, by omega, by simp (disch := (first | (simp only [ne_eq,Nat.reduceEqDiff,not_false_eq_true,Nat.reduceLT]; done) | omega | (simp only [yz] <;> omega) | fail)) only [yg,Nat.reduceAdd,Nat.reduceEqDiff,Nat.reduceLT]; rfl, by simp (disch := (first | (simp only [ne_eq,Nat.reduceEqDiff,not_false_eq_true,Nat.reduceLT]; done) | omega | (simp only [yz] <;> omega) | fail)) only [yg,Nat.reduceAdd,Nat.reduceEqDiff,Nat.reduceLT], I.frx hc1 hx1 (by (with_reducible (repeat (first | refine Keep.put ?_ (by decide) | refine Keep.none ?_ | assumption | exact Keep.refl _ _ _)))), by simp (disch := (first | (simp only [ne_eq,Nat.reduceEqDiff,not_false_eq_true,Nat.reduceLT]; done) | omega | (simp only [yz] <;> omega) | fail)) only [yg,Nat.reduceAdd,Nat.reduceEqDiff,Nat.reduceLT,g17], by simp (disch := (first | (simp only [ne_eq,Nat.reduceEqDiff,not_false_eq_true,Nat.reduceLT]; done) | omega | (simp only [yz] <;> omega) | fail)) only [yg,Nat.reduceAdd,Nat.reduceEqDiff,Nat.reduceLT,g53], by omega, by rw [hx1.same _ hl17 (by have := I.kk; omega)]; exact b17, hlen, myT_ok X⟩ (by omega) (by omega)
    clear sz I g17 g53 hl17 b17 g10 hc1 hx1 hs1
    rintro M1 k1 e H' ⟨i, t, rfl, hi, g59, g58, I, g17, g53, hl17, b17, ht, hto⟩
    have sz := I.q.fr.size
    simp (disch := (first | (simp only [ne_eq,Nat.reduceEqDiff,not_false_eq_true,Nat.reduceLT]; done) | omega | (simp only [yz] <;> omega) | fail)) only [↓yp,yq0,yq1,yq2,yq3,yq4,yl,ys0,ys1,Nat.reduceAdd,Nat.reduceMul,Nat.reduceSub,Nat.reduceBEq,Nat.reduceEqDiff,Nat.reduceLT,Nat.reduceLeDiff,reduceIte,Int.reduceAdd,Int.reduceSub,Int.reduceMul,Int.reduceLT,Int.reduceLE,Int.reduceEq,Int.reduceToNat,Int.reduceNeg,zed,zee,zfr,zhw,ysu,yrg,ysv,ysw,g58,g59]
    refine ⟨fun hA => ?_, fun hA => ?_⟩
    · have hlt : (i : Int) < n := of_decide_eq_true hA
      have hw2 : w64 ((i : Int) + 1) = ((i + 1 : Nat) : Int) := by rw [w64_of (by omega)]; omega
      refine W_skipI (by omega) ?_
      rw [zag, zah]
      refine W_end (c8p (I.next (Fr.refl _) (by (with_reducible (repeat (first | refine Keep.put ?_ (by decide) | refine Keep.none ?_ | assumption | exact Keep.refl _ _ _))))) X.hC (by simp (disch := (first | (simp only [ne_eq,Nat.reduceEqDiff,not_false_eq_true,Nat.reduceLT]; done) | omega | (simp only [yz] <;> omega) | fail)) only [yg,Nat.reduceAdd,Nat.reduceEqDiff,Nat.reduceLT,g17]; rfl) hk17 hl17 b17 ht hto) ?_
      rintro e' H'' ⟨t', I', q17, q53, q58, q59, ql, qb, qt, qto⟩
      have sz' := I'.q.fr.size
      simp (disch := (first | (simp only [ne_eq,Nat.reduceEqDiff,not_false_eq_true,Nat.reduceLT]; done) | omega | (simp only [yz] <;> omega) | fail)) only [yg,Nat.reduceAdd,Nat.reduceEqDiff,Nat.reduceLT,g53] at q53
      simp (disch := (first | (simp only [ne_eq,Nat.reduceEqDiff,not_false_eq_true,Nat.reduceLT]; done) | omega | (simp only [yz] <;> omega) | fail)) only [yg,Nat.reduceAdd,Nat.reduceEqDiff,Nat.reduceLT,g58] at q58
      simp (disch := (first | (simp only [ne_eq,Nat.reduceEqDiff,not_false_eq_true,Nat.reduceLT]; done) | omega | (simp only [yz] <;> omega) | fail)) only [yg,Nat.reduceAdd,Nat.reduceEqDiff,Nat.reduceLT,g59] at q59
      simp (disch := (first | (simp only [ne_eq,Nat.reduceEqDiff,not_false_eq_true,Nat.reduceLT]; done) | omega | (simp only [yz] <;> omega) | fail)) only [↓yp,yq0,yq1,yq2,yq3,yq4,yl,ys0,ys1,Nat.reduceAdd,Nat.reduceMul,Nat.reduceSub,Nat.reduceBEq,Nat.reduceEqDiff,Nat.reduceLT,Nat.reduceLeDiff,reduceIte,Int.reduceAdd,Int.reduceSub,Int.reduceMul,Int.reduceLT,Int.reduceLE,Int.reduceEq,Int.reduceToNat,Int.reduceNeg,zed,zee,zfr,zhw,ysu,yrg,ysv,ysw,q59,hw2]
      refine ⟨(n - ((i + 1 : Nat) : Int)).toNat, by omega, i + 1, t', rfl, by omega, ?_, ?_, I'.next (Fr.refl _) (by (with_reducible (repeat (first | refine Keep.put ?_ (by decide) | refine Keep.none ?_ | assumption | exact Keep.refl _ _ _)))), ?_, ?_, ql, qb, qt, qto⟩
      · simp (disch := (first | (simp only [ne_eq,Nat.reduceEqDiff,not_false_eq_true,Nat.reduceLT]; done) | omega | (simp only [yz] <;> omega) | fail)) only [yg,Nat.reduceAdd,Nat.reduceEqDiff,Nat.reduceLT]
      · simp (disch := (first | (simp only [ne_eq,Nat.reduceEqDiff,not_false_eq_true,Nat.reduceLT]; done) | omega | (simp only [yz] <;> omega) | fail)) only [yg,Nat.reduceAdd,Nat.reduceEqDiff,Nat.reduceLT,q58]
      · simp (disch := (first | (simp only [ne_eq,Nat.reduceEqDiff,not_false_eq_true,Nat.reduceLT]; done) | omega | (simp only [yz] <;> omega) | fail)) only [yg,Nat.reduceAdd,Nat.reduceEqDiff,Nat.reduceLT,q17]
      · simp (disch := (first | (simp only [ne_eq,Nat.reduceEqDiff,not_false_eq_true,Nat.reduceLT]; done) | omega | (simp only [yz] <;> omega) | fail)) only [yg,Nat.reduceAdd,Nat.reduceEqDiff,Nat.reduceLT,q53]
    · simp (disch := (first | (simp only [ne_eq,Nat.reduceEqDiff,not_false_eq_true,Nat.reduceLT]; done) | omega | (simp only [yz] <;> omega) | fail)) only [↓yp,yq0,yq1,yq2,yq3,yq4,yl,ys0,ys1,Nat.reduceAdd,Nat.reduceMul,Nat.reduceSub,Nat.reduceBEq,Nat.reduceEqDiff,Nat.reduceLT,Nat.reduceLeDiff,reduceIte,Int.reduceAdd,Int.reduceSub,Int.reduceMul,Int.reduceLT,Int.reduceLE,Int.reduceEq,Int.reduceToNat,Int.reduceNeg,zed,zee,zfr,zhw,ysu,yrg,ysv,ysw]
      exact ⟨t, I.next (Fr.refl _) (by (with_reducible (repeat (first | refine Keep.put ?_ (by decide) | refine Keep.none ?_ | assumption | exact Keep.refl _ _ _)))), by simp (disch := (first | (simp only [ne_eq,Nat.reduceEqDiff,not_false_eq_true,Nat.reduceLT]; done) | omega | (simp only [yz] <;> omega) | fail)) only [yg,Nat.reduceAdd,Nat.reduceEqDiff,Nat.reduceLT,g17], by simp (disch := (first | (simp only [ne_eq,Nat.reduceEqDiff,not_false_eq_true,Nat.reduceLT]; done) | omega | (simp only [yz] <;> omega) | fail)) only [yg,Nat.reduceAdd,Nat.reduceEqDiff,Nat.reduceLT,g53], hl17, b17, ht, hto⟩
  clear I g17 g53 hl17 b17
  rintro e2 H2 ⟨t, I, g17, g53, hl17, b17, ht, hto⟩
  have sz := I.q.fr.size
  have g8 := I.q.g8
  have g9 := I.q.g9
  have b8 := I.q.b8
  have b9 := I.q.b9
  have g13 := I.g13
  have g15 := I.g15
  have g16 := I.g16
  have hwn := X.hwn
  have h53 := fun (N : Nat) => c53 (N := N) (ct := c17) (t := t) I.q.sl X.hn X.hl (by omega) X.ho X.hw X.hd X.hfr (show 0 ≤ wn ∧ wn ≤ 240 by omega) ht hto (Il.of hl17 (by rw [b17]; rfl))
  cases hbn : bnds C l w ld fr wn t
  · rw [hbn] at h53
    simp (disch := (first | (simp only [ne_eq,Nat.reduceEqDiff,not_false_eq_true,Nat.reduceLT]; done) | omega | (simp only [yz] <;> omega) | fail)) only [↓yp,yq0,yq1,yq2,yq3,yq4,yl,ys0,ys1,Nat.reduceAdd,Nat.reduceMul,Nat.reduceSub,Nat.reduceBEq,Nat.reduceEqDiff,Nat.reduceLT,Nat.reduceLeDiff,reduceIte,Int.reduceAdd,Int.reduceSub,Int.reduceMul,Int.reduceLT,Int.reduceLE,Int.reduceEq,Int.reduceToNat,Int.reduceNeg,zed,zee,zfr,zhw,ysu,yrg,ysv,ysw,g8,g9,b8,b9,g13,g15,g17,h53]
    exact ⟨I.next (Fr.refl _) (by (with_reducible (repeat (first | refine Keep.put ?_ (by decide) | refine Keep.none ?_ | assumption | exact Keep.refl _ _ _)))), by simp (disch := (first | (simp only [ne_eq,Nat.reduceEqDiff,not_false_eq_true,Nat.reduceLT]; done) | omega | (simp only [yz] <;> omega) | fail)) only [yg,Nat.reduceAdd,Nat.reduceEqDiff,Nat.reduceLT,g53]⟩
  · have h60 := fun (N : Nat) => c60 (N := N) (cap := c16) (cap' := c17) (t := myT C l w ld fr wn) (t' := t) (Il.of I.l16 (by rw [I.b16]; rfl)) (Il.of hl17 (by rw [b17]; rfl)) (by omega) (by omega) (myT_le X ht hto hbn)
    rw [hbn] at h53
    rw [ht, hlen] at h60
    simp (disch := (first | (simp only [ne_eq,Nat.reduceEqDiff,not_false_eq_true,Nat.reduceLT]; done) | omega | (simp only [yz] <;> omega) | fail)) only [↓yp,yq0,yq1,yq2,yq3,yq4,yl,ys0,ys1,Nat.reduceAdd,Nat.reduceMul,Nat.reduceSub,Nat.reduceBEq,Nat.reduceEqDiff,Nat.reduceLT,Nat.reduceLeDiff,reduceIte,Int.reduceAdd,Int.reduceSub,Int.reduceMul,Int.reduceLT,Int.reduceLE,Int.reduceEq,Int.reduceToNat,Int.reduceNeg,zed,zee,zfr,zhw,ysu,yrg,ysv,ysw,g8,g9,b8,b9,g13,g15,g16,g17,h53,h60]
    exact ⟨I.next (Fr.refl _) (by (with_reducible (repeat (first | refine Keep.put ?_ (by decide) | refine Keep.none ?_ | assumption | exact Keep.refl _ _ _)))), by simp (disch := (first | (simp only [ne_eq,Nat.reduceEqDiff,not_false_eq_true,Nat.reduceLT]; done) | omega | (simp only [yz] <;> omega) | fail)) only [yg,Nat.reduceAdd,Nat.reduceEqDiff,Nat.reduceLT,g53]⟩
end
end Go.Am
/- The law StreetTables: the tables with one number that is later, or none. -/
namespace Go.Am
open Go.Proofs
variable {T : Tab} {P : Program} {N L : Nat} {H : AHeap} {Q : Bool → Value → AHeap → Prop}
section
variable {l : List Str} {C w ld fr wh wn : Int} {i8 i9 k16 c16 : Nat} {a' b2 : Option Addr} {cap' cap2 : Nat} {bs2 : List Int} {H' : AHeap} {e : VT}
theorem not_bnds (X : Tw C w ld l a' cap' fr wh wn) {v : Int} (hv : okM v) (h : v = -1 ∨ tg (myT C l w ld fr wn) wh < v) (hn : tg (myT C l w ld fr wn) wh ≠ -1) : bnds C l w ld fr wn ((myT C l w ld fr wn).set wh.toNat v) = false := by
  have hlen := myT_len X
  have hwh := X.hwh
  cases hb : bnds C l w ld fr wn ((myT C l w ld fr wn).set wh.toNat v)
  · rfl
  · have := myT_le X (by rw [List.length_set]; exact hlen) (okM_set (myT_ok X) hv) hb wh hwh.1 hn
    rw [tg_setN hlen (by omega) hwh.1, if_pos rfl] at this
    omega
set_option maxHeartbeats 4000000 in
set_option maxRecDepth 10000 in
theorem c8v {j kb cb : Nat} {n : Int} (I : TS H C w ld l i8 i9 a' cap' b2 bs2 cap2 fr wh wn k16 c16 e H') (X : Tw C w ld l a' cap' fr wh wn) (hn : tg (myT C l w ld fr wn) wh = n) (hn1 : n ≠ -1) (hj : j < 2) (g112 : gt 140 e 112 = .int .i64 (j : Nat)) (g111 : gt 140 e 111 = .int .i64 2) (g110 : gt 140 e 110 = .slice (some ⟨kb, 0, none⟩) 2 cb) (hkb : kb < H'.size) (bb : H'.get kb = .rw [.int .i64 (n + 1), .int .i64 (-1)] 3 false []) :
    W tabA Try.prog (N + 6500) none (sub [true, true, true, true, true, true, true, true, true, false, true, false, false, true, true, false] (bodyOf Try.f8)) H.size ⟨140, e, H', []⟩ (endK 140 [] fun e' H'' => TS H C w ld l i8 i9 a' cap' b2 bs2 cap2 fr wh wn k16 c16 e' H'' ∧ gt 140 e' 112 = .int .i64 (j : Nat) ∧ gt 140 e' 111 = .int .i64 2 ∧ gt 140 e' 110 = .slice (some ⟨kb, 0, none⟩) 2 cb ∧ kb < H''.size ∧ H''.get kb = .rw [.int .i64 (n + 1), .int .i64 (-1)] 3 false []) := by
  have sz := I.q.fr.size
  have g16 := I.g16
  have g14 := I.g14
  have hC := X.hC
  have hwh := X.hwh
  have hwn := X.hwn
  have hlen := myT_len X
  have hkk := I.kk
  have hnok : okM n := by
    rw [← hn, myT_tg2 X hwh]
    exact (earT_ok (w := w) X.good X.hfr (a₀ := wn) (by omega)).2 wh
  unfold okM at hnok
  obtain ⟨v, hv⟩ : ∃ v, (if j = 0 then n + 1 else -1) = v := ⟨_, rfl⟩
  have hvr : -1 ≤ v ∧ v ≤ 241 := by rw [← hv]; split <;> omega
  have hvn : v = -1 ∨ tg (myT C l w ld fr wn) wh < v := by rw [hn, ← hv]; split <;> omega
  have hat : [Value.int .i64 (n + 1), .int .i64 (-1)][j]? = some (.int .i64 v) := by
    rw [← hv]
    match j, hj with
    | 0, _ => rfl
    | 1, _ => rfl
  simp only [Try.f8,bodyOf,sub_nil,sub_seq0,sub_seq1,sub_block,sub_loop,sub_cond0,sub_cond1]
  rw [zah]
  refine W_seqI (fun e' H'' => TS H C w ld l i8 i9 a' cap' b2 bs2 cap2 fr wh wn k16 c16 e' H'' ∧ gt 140 e' 22 = .int .i64 v ∧ gt 140 e' 112 = .int .i64 (j : Nat) ∧ gt 140 e' 111 = .int .i64 2 ∧ gt 140 e' 110 = .slice (some ⟨kb, 0, none⟩) 2 cb ∧ kb < H''.size ∧ H''.get kb = .rw [.int .i64 (n + 1), .int .i64 (-1)] 3 false []) ?_ ?_
  · simp (disch := (first | (simp only [ne_eq,Nat.reduceEqDiff,not_false_eq_true,Nat.reduceLT]; done) | omega | (simp only [yz] <;> omega) | fail)) only [↓yp,yq0,yq1,yq2,yq3,yq4,yl,ys0,ys1,Nat.reduceAdd,Nat.reduceMul,Nat.reduceSub,Nat.reduceBEq,Nat.reduceEqDiff,Nat.reduceLT,Nat.reduceLeDiff,reduceIte,Int.reduceAdd,Int.reduceSub,Int.reduceMul,Int.reduceLT,Int.reduceLE,Int.reduceEq,Int.reduceToNat,Int.reduceNeg,zed,zee,zfr,zhw,ysu,yrg,ysv,ysw,g110,g112,A_indexSlice zir,bb,hat]
    refine ⟨I.next (Fr.refl _) (by (with_reducible (repeat (first | refine Keep.put ?_ (by decide) | refine Keep.none ?_ | assumption | exact Keep.refl _ _ _)))), ?_, ?_, ?_, ?_, hkb, bb⟩
    · simp (disch := (first | (simp only [ne_eq,Nat.reduceEqDiff,not_false_eq_true,Nat.reduceLT]; done) | omega | (simp only [yz] <;> omega) | fail)) only [yg,Nat.reduceAdd,Nat.reduceEqDiff,Nat.reduceLT]
    · simp (disch := (first | (simp only [ne_eq,Nat.reduceEqDiff,not_false_eq_true,Nat.reduceLT]; done) | omega | (simp only [yz] <;> omega) | fail)) only [yg,Nat.reduceAdd,Nat.reduceEqDiff,Nat.reduceLT,g112]
    · simp (disch := (first | (simp only [ne_eq,Nat.reduceEqDiff,not_false_eq_true,Nat.reduceLT]; done) | omega | (simp only [yz] <;> omega) | fail)) only [yg,Nat.reduceAdd,Nat.reduceEqDiff,Nat.reduceLT,g111]
    · simp (disch := (first | (simp only [ne_eq,Nat.reduceEqDiff,not_false_eq_true,Nat.reduceLT]; done) | omega | (simp only [yz] <;> omega) | fail)) only [yg,Nat.reduceAdd,Nat.reduceEqDiff,Nat.reduceLT,g110]
  clear sz g16 g14 g112 g111 g110 hkb bb I
  rintro e1 H1 ⟨I, g22, g112, g111, g110, hkb, bb⟩
  have sz := I.q.fr.size
  have g16 := I.g16
  have nset : List.take wh.toNat (tv (myT C l w ld fr wn)) ++ [.int .i64 v] ++ List.drop (wh.toNat + 1) (tv (myT C l w ld fr wn)) = tv ((myT C l w ld fr wn).set wh.toNat v) := newC_tv (by omega)
  have hfit : decide (wh.toNat + 1 ≤ (tv (myT C l w ld fr wn)).length) = true := by rw [tv_len]; simp; omega
  refine W_seqI (fun e' H'' => ∃ k23 c23, TS H C w ld l i8 i9 a' cap' b2 bs2 cap2 fr wh wn k16 c16 e' H'' ∧ gt 140 e' 22 = .int .i64 v ∧ gt 140 e' 112 = .int .i64 (j : Nat) ∧ gt 140 e' 111 = .int .i64 2 ∧ gt 140 e' 110 = .slice (some ⟨kb, 0, none⟩) 2 cb ∧ kb < H''.size ∧ H''.get kb = .rw [.int .i64 (n + 1), .int .i64 (-1)] 3 false [] ∧ gt 140 e' 23 = .slice (some ⟨k23, 0, none⟩) C.toNat c23 ∧ k16 < k23 ∧ kb ≠ k23 ∧ k23 < H''.size ∧ H''.get k23 = .rw (tv (myT C l w ld fr wn)) 3 true []) ?_ ?_
  · simp (disch := (first | (simp only [ne_eq,Nat.reduceEqDiff,not_false_eq_true,Nat.reduceLT]; done) | omega | (simp only [yz] <;> omega) | fail)) only [↓yp,yq0,yq1,yq2,yq3,yq4,yl,ys0,ys1,Nat.reduceAdd,Nat.reduceMul,Nat.reduceSub,Nat.reduceBEq,Nat.reduceEqDiff,Nat.reduceLT,Nat.reduceLeDiff,reduceIte,Int.reduceAdd,Int.reduceSub,Int.reduceMul,Int.reduceLT,Int.reduceLE,Int.reduceEq,Int.reduceToNat,Int.reduceNeg,zed,zee,zfr,zhw,ysu,yrg,ysv,ysw,g16]
    have hl16 := I.l16
    have h58 := fun (M : Nat) (hM : 60 ≤ M) (Q : Bool → Value → AHeap → Prop) => c58 (cap := c16) (t := myT C l w ld fr wn) (L := H.size) (Q := Q) (Il.of I.l16 (by rw [I.b16]; rfl)) I.l16 (fun h => by rw [h] at hlen; simp at hlen; omega) (by omega) (by omega) hM
    rw [hlen] at h58
    refine h58 _ (by omega) _ ?_
    intro k23 c23 H2 fr1 hk1 hk2 hk3
    simp (disch := (first | (simp only [ne_eq,Nat.reduceEqDiff,not_false_eq_true,Nat.reduceLT]; done) | omega | (simp only [yz] <;> omega) | fail)) only [↓yp,yq0,yq1,yq2,yq3,yq4,yl,ys0,ys1,Nat.reduceAdd,Nat.reduceMul,Nat.reduceSub,Nat.reduceBEq,Nat.reduceEqDiff,Nat.reduceLT,Nat.reduceLeDiff,reduceIte,Int.reduceAdd,Int.reduceSub,Int.reduceMul,Int.reduceLT,Int.reduceLE,Int.reduceEq,Int.reduceToNat,Int.reduceNeg,zed,zee,zfr,zhw,ysu,yrg,ysv,ysw]
    refine ⟨k23, c23, I.next fr1 (by (with_reducible (repeat (first | refine Keep.put ?_ (by decide) | refine Keep.none ?_ | assumption | exact Keep.refl _ _ _)))), ?_, ?_, ?_, ?_, by omega, by rw [fr1.same _ hkb]; exact bb, ?_, by omega, by omega, hk2, hk3⟩
    · simp (disch := (first | (simp only [ne_eq,Nat.reduceEqDiff,not_false_eq_true,Nat.reduceLT]; done) | omega | (simp only [yz] <;> omega) | fail)) only [yg,Nat.reduceAdd,Nat.reduceEqDiff,Nat.reduceLT,g22]
    · simp (disch := (first | (simp only [ne_eq,Nat.reduceEqDiff,not_false_eq_true,Nat.reduceLT]; done) | omega | (simp only [yz] <;> omega) | fail)) only [yg,Nat.reduceAdd,Nat.reduceEqDiff,Nat.reduceLT,g112]
    · simp (disch := (first | (simp only [ne_eq,Nat.reduceEqDiff,not_false_eq_true,Nat.reduceLT]; done) | omega | (simp only [yz] <;> omega) | fail)) only [yg,Nat.reduceAdd,Nat.reduceEqDiff,Nat.reduceLT,g111]
    · simp (disch := (first | (simp only [ne_eq,Nat.reduceEqDiff,not_false_eq_true,Nat.reduceLT]; done) | omega | (simp only [yz] <;> omega) | fail)) only [yg,Nat.reduceAdd,Nat.reduceEqDiff,Nat.reduceLT,g110]
    · simp (disch := (first | (simp only [ne_eq,Nat.reduceEqDiff,not_false_eq_true,Nat.reduceLT]; done) | omega | (simp only [yz] <;> omega) | fail)) only [yg,Nat.reduceAdd,Nat.reduceEqDiff,Nat.reduceLT]
  clear sz g16 g22 g112 g111 g110 hkb bb I
  rintro e2 H2 ⟨k23, c23, I, g22, g112, g111, g110, hkb, bb, g23, hk1, hk2, hk3, b23⟩
  have sz := I.q.fr.size
  have g14 := I.g14
  have I2 : ∀ e', Keep 140 [10, 11, 12, 13, 14, 15, 16] e2 e' → TS H C w ld l i8 i9 a' cap' b2 bs2 cap2 fr wh wn k16 c16 e' (H2.put k23 (.rw (tv ((myT C l w ld fr wn).set wh.toNat v)) 3 true [])) := fun e' hke => I.put hk1 b23 (by rw [tv_len]; omega) hke
  cases hA : decide (240 < v)
  rotate_left
  · simp (disch := (first | (simp only [ne_eq,Nat.reduceEqDiff,not_false_eq_true,Nat.reduceLT]; done) | omega | (simp only [yz] <;> omega) | fail)) only [↓yp,yq0,yq1,yq2,yq3,yq4,yl,ys0,ys1,Nat.reduceAdd,Nat.reduceMul,Nat.reduceSub,Nat.reduceBEq,Nat.reduceEqDiff,Nat.reduceLT,Nat.reduceLeDiff,reduceIte,Int.reduceAdd,Int.reduceSub,Int.reduceMul,Int.reduceLT,Int.reduceLE,Int.reduceEq,Int.reduceToNat,Int.reduceNeg,zed,zee,zfr,zhw,ysu,yrg,ysv,ysw,g23,g14,g22,A_indexSlice zir,b23,nset,hfit,hA]
    refine ⟨I2 _ (by (with_reducible (repeat (first | refine Keep.put ?_ (by decide) | refine Keep.none ?_ | assumption | exact Keep.refl _ _ _)))), ?_, ?_, ?_, by (first | omega | (simp only [yz] <;> omega)), by rw [zdd (by omega)]; exact bb⟩
    · simp (disch := (first | (simp only [ne_eq,Nat.reduceEqDiff,not_false_eq_true,Nat.reduceLT]; done) | omega | (simp only [yz] <;> omega) | fail)) only [yg,Nat.reduceAdd,Nat.reduceEqDiff,Nat.reduceLT,g112]
    · simp (disch := (first | (simp only [ne_eq,Nat.reduceEqDiff,not_false_eq_true,Nat.reduceLT]; done) | omega | (simp only [yz] <;> omega) | fail)) only [yg,Nat.reduceAdd,Nat.reduceEqDiff,Nat.reduceLT,g111]
    · simp (disch := (first | (simp only [ne_eq,Nat.reduceEqDiff,not_false_eq_true,Nat.reduceLT]; done) | omega | (simp only [yz] <;> omega) | fail)) only [yg,Nat.reduceAdd,Nat.reduceEqDiff,Nat.reduceLT,g110]
  have hvk : okM v := by
    have := of_decide_eq_false hA
    unfold okM
    omega
  have hbn := not_bnds X hvk hvn (by rw [hn]; exact hn1)
  refine W_seqI (fun e' H'' => TS H C w ld l i8 i9 a' cap' b2 bs2 cap2 fr wh wn k16 c16 e' H'' ∧ gt 140 e' 112 = .int .i64 (j : Nat) ∧ gt 140 e' 111 = .int .i64 2 ∧ gt 140 e' 110 = .slice (some ⟨kb, 0, none⟩) 2 cb ∧ kb < H''.size ∧ H''.get kb = .rw [.int .i64 (n + 1), .int .i64 (-1)] 3 false [] ∧ gt 140 e' 23 = .slice (some ⟨k23, 0, none⟩) C.toNat c23 ∧ k23 < H''.size ∧ H''.get k23 = .rw (tv ((myT C l w ld fr wn).set wh.toNat v)) 3 true []) ?_ ?_
  · simp (disch := (first | (simp only [ne_eq,Nat.reduceEqDiff,not_false_eq_true,Nat.reduceLT]; done) | omega | (simp only [yz] <;> omega) | fail)) only [↓yp,yq0,yq1,yq2,yq3,yq4,yl,ys0,ys1,Nat.reduceAdd,Nat.reduceMul,Nat.reduceSub,Nat.reduceBEq,Nat.reduceEqDiff,Nat.reduceLT,Nat.reduceLeDiff,reduceIte,Int.reduceAdd,Int.reduceSub,Int.reduceMul,Int.reduceLT,Int.reduceLE,Int.reduceEq,Int.reduceToNat,Int.reduceNeg,zed,zee,zfr,zhw,ysu,yrg,ysv,ysw,g23,g14,g22,A_indexSlice zir,b23,nset,hfit,hA]
    refine ⟨I2 _ (by (with_reducible (repeat (first | refine Keep.put ?_ (by decide) | refine Keep.none ?_ | assumption | exact Keep.refl _ _ _)))), ?_, ?_, ?_, by (first | omega | (simp only [yz] <;> omega)), by rw [zdd (by omega)]; exact bb, ?_, by (first | omega | (simp only [yz] <;> omega)), zdc (by (first | omega | (simp only [yz] <;> omega)))⟩
    · simp (disch := (first | (simp only [ne_eq,Nat.reduceEqDiff,not_false_eq_true,Nat.reduceLT]; done) | omega | (simp only [yz] <;> omega) | fail)) only [yg,Nat.reduceAdd,Nat.reduceEqDiff,Nat.reduceLT,g112]
    · simp (disch := (first | (simp only [ne_eq,Nat.reduceEqDiff,not_false_eq_true,Nat.reduceLT]; done) | omega | (simp only [yz] <;> omega) | fail)) only [yg,Nat.reduceAdd,Nat.reduceEqDiff,Nat.reduceLT,g111]
    · simp (disch := (first | (simp only [ne_eq,Nat.reduceEqDiff,not_false_eq_true,Nat.reduceLT]; done) | omega | (simp only [yz] <;> omega) | fail)) only [yg,Nat.reduceAdd,Nat.reduceEqDiff,Nat.reduceLT,g110]
    · simp (disch := (first | (simp only [ne_eq,Nat.reduceEqDiff,not_false_eq_true,Nat.reduceLT]; done) | omega | (simp only [yz] <;> omega) | fail)) only [yg,Nat.reduceAdd,Nat.reduceEqDiff,Nat.reduceLT,g23]
  clear sz g14 I2 g22 g112 g111 g110 hkb bb g23 hk3 b23 I
  rintro e3 H3 ⟨I, g112, g111, g110, hkb, bb, g23, hl23, b23⟩
  have sz := I.q.fr.size
  have g8 := I.q.g8
  have g9 := I.q.g9
  have b8 := I.q.b8
  have b9 := I.q.b9
  have g13 := I.g13
  have g15 := I.g15
  have h53 := fun (N : Nat) => c53 (N := N) (ct := c23) (t := (myT C l w ld fr wn).set wh.toNat v) I.q.sl X.hn X.hl (by omega) X.ho X.hw X.hd X.hfr (show 0 ≤ wn ∧ wn ≤ 240 by omega) (by rw [List.length_set]; exact hlen) (okM_set (myT_ok X) hvk) (Il.of hl23 (by rw [b23]; rfl))
  rw [hbn] at h53
  simp (disch := (first | (simp only [ne_eq,Nat.reduceEqDiff,not_false_eq_true,Nat.reduceLT]; done) | omega | (simp only [yz] <;> omega) | fail)) only [↓yp,yq0,yq1,yq2,yq3,yq4,yl,ys0,ys1,Nat.reduceAdd,Nat.reduceMul,Nat.reduceSub,Nat.reduceBEq,Nat.reduceEqDiff,Nat.reduceLT,Nat.reduceLeDiff,reduceIte,Int.reduceAdd,Int.reduceSub,Int.reduceMul,Int.reduceLT,Int.reduceLE,Int.reduceEq,Int.reduceToNat,Int.reduceNeg,zed,zee,zfr,zhw,ysu,yrg,ysv,ysw,g8,g9,b8,b9,g13,g15,g23,h53]
  refine ⟨I.next (Fr.refl _) (by (with_reducible (repeat (first | refine Keep.put ?_ (by decide) | refine Keep.none ?_ | assumption | exact Keep.refl _ _ _)))), ?_, ?_, ?_, hkb, bb⟩
  · simp (disch := (first | (simp only [ne_eq,Nat.reduceEqDiff,not_false_eq_true,Nat.reduceLT]; done) | omega | (simp only [yz] <;> omega) | fail)) only [yg,Nat.reduceAdd,Nat.reduceEqDiff,Nat.reduceLT,g112]
  · simp (disch := (first | (simp only [ne_eq,Nat.reduceEqDiff,not_false_eq_true,Nat.reduceLT]; done) | omega | (simp only [yz] <;> omega) | fail)) only [yg,Nat.reduceAdd,Nat.reduceEqDiff,Nat.reduceLT,g111]
  · simp (disch := (first | (simp only [ne_eq,Nat.reduceEqDiff,not_false_eq_true,Nat.reduceLT]; done) | omega | (simp only [yz] <;> omega) | fail)) only [yg,Nat.reduceAdd,Nat.reduceEqDiff,Nat.reduceLT,g110]
end
end Go.Am
/- The law StreetTables. -/
namespace Go.Am
open Go.Proofs
variable {T : Tab} {P : Program} {N L : Nat} {H : AHeap} {Q : Bool → Value → AHeap → Prop}
section
variable {a b2 : Option Addr} {cap cap2 : Nat} {bs bs2 : List Int}
theorem Bts.fr {H' : AHeap} (h : Bts H a bs) (f : Fr H H') : Bts H' a bs := ⟨fun hn => by
  obtain ⟨b, o, c, h1, h2, h3, h4⟩ := h.row hn
  exact ⟨b, o, c, h1, Nat.lt_of_lt_of_le h2 f.size, by rw [f.same b h2]; exact h3, h4⟩, h.byte, h.len⟩
set_option maxHeartbeats 4000000 in
set_option maxRecDepth 10000 in
theorem c8 {x y : Int} (hb : Bts H a bs) (hb2 : Bts H b2 bs2) (hx : 0 ≤ x ∧ x < 256) (hy : 0 ≤ y ∧ y < 256) :
    acall tabA (aexec tabA Try.prog (N + 8000)) 8 [.slice a bs.length cap, .slice b2 bs2.length cap2, .int .u8 x, .int .u8 y] H = some (true, .bool true, H, H.size) := by
  refine call_quiet (k := 140) (rs := [.tmp 8]) rfl fn_8 rfl rfl rfl ?_ rfl
  refine W_seqI (fun e' H'' => gt 140 e' 0 = .slice a bs.length cap ∧ gt 140 e' 1 = .slice b2 bs2.length cap2 ∧ gt 140 e' 2 = .int .u8 x ∧ gt 140 e' 3 = .int .u8 y ∧ H = H'') ?_ ?_
  · simp (disch := (first | (simp only [ne_eq,Nat.reduceEqDiff,not_false_eq_true,Nat.reduceLT]; done) | omega | (simp only [yz] <;> omega) | fail)) only [↓yp,yq0,yq1,yq2,yq3,yq4,yl,ys0,ys1,Nat.reduceAdd,Nat.reduceMul,Nat.reduceSub,Nat.reduceBEq,Nat.reduceEqDiff,Nat.reduceLT,Nat.reduceLeDiff,reduceIte,Int.reduceAdd,Int.reduceSub,Int.reduceMul,Int.reduceLT,Int.reduceLE,Int.reduceEq,Int.reduceToNat,Int.reduceNeg,zed,zee,zfr,zhw,ysu,yrg,ysv,ysw]
    refine ⟨?_, ?_, ?_, ?_, rfl⟩
    · simp (disch := (first | (simp only [ne_eq,Nat.reduceEqDiff,not_false_eq_true,Nat.reduceLT]; done) | omega | (simp only [yz] <;> omega) | fail)) only [yg,Nat.reduceAdd,Nat.reduceEqDiff,Nat.reduceLT]
    · simp (disch := (first | (simp only [ne_eq,Nat.reduceEqDiff,not_false_eq_true,Nat.reduceLT]; done) | omega | (simp only [yz] <;> omega) | fail)) only [yg,Nat.reduceAdd,Nat.reduceEqDiff,Nat.reduceLT]
    · simp (disch := (first | (simp only [ne_eq,Nat.reduceEqDiff,not_false_eq_true,Nat.reduceLT]; done) | omega | (simp only [yz] <;> omega) | fail)) only [yg,Nat.reduceAdd,Nat.reduceEqDiff,Nat.reduceLT]
    · simp (disch := (first | (simp only [ne_eq,Nat.reduceEqDiff,not_false_eq_true,Nat.reduceLT]; done) | omega | (simp only [yz] <;> omega) | fail)) only [yg,Nat.reduceAdd,Nat.reduceEqDiff,Nat.reduceLT]
  rintro e1 H1 ⟨g0, g1, g2, g3, rfl⟩
  refine W_seqI (fun e' H'' => gt 140 e' 2 = .int .u8 x ∧ gt 140 e' 3 = .int .u8 y ∧ gt 140 e' 9 = .pointer (some ⟨H.size, 0, none⟩) ∧ gt 140 e' 10 = .pointer (some ⟨H.size + 1, 0, none⟩) ∧ Fr H H'' ∧ H''.size = H.size + 2 ∧ Chu H'' H.size a bs cap ∧ Chu H'' (H.size + 1) b2 bs2 cap2) ?_ ?_
  · simp (disch := (first | (simp only [ne_eq,Nat.reduceEqDiff,not_false_eq_true,Nat.reduceLT]; done) | omega | (simp only [yz] <;> omega) | fail)) only [↓yp,yq0,yq1,yq2,yq3,yq4,yl,ys0,ys1,Nat.reduceAdd,Nat.reduceMul,Nat.reduceSub,Nat.reduceBEq,Nat.reduceEqDiff,Nat.reduceLT,Nat.reduceLeDiff,reduceIte,Int.reduceAdd,Int.reduceSub,Int.reduceMul,Int.reduceLT,Int.reduceLE,Int.reduceEq,Int.reduceToNat,Int.reduceNeg,zed,zee,zfr,zhw,ysu,yrg,ysv,ysw,g0]
    refine c48 hb (Nat.le_refl _) (by omega) ?_
    intro H2 fr1 hs1 hc1
    simp (disch := (first | (simp only [ne_eq,Nat.reduceEqDiff,not_false_eq_true,Nat.reduceLT]; done) | omega | (simp only [yz] <;> omega) | fail)) only [↓yp,yq0,yq1,yq2,yq3,yq4,yl,ys0,ys1,Nat.reduceAdd,Nat.reduceMul,Nat.reduceSub,Nat.reduceBEq,Nat.reduceEqDiff,Nat.reduceLT,Nat.reduceLeDiff,reduceIte,Int.reduceAdd,Int.reduceSub,Int.reduceMul,Int.reduceLT,Int.reduceLE,Int.reduceEq,Int.reduceToNat,Int.reduceNeg,zed,zee,zfr,zhw,ysu,yrg,ysv,ysw,g1]
    refine c48 (hb2.fr fr1) (by omega) (by omega) ?_
    intro H3 fr2 hs2 hc2
    rw [hs1] at hc2 hs2 ⊢
    simp (disch := (first | (simp only [ne_eq,Nat.reduceEqDiff,not_false_eq_true,Nat.reduceLT]; done) | omega | (simp only [yz] <;> omega) | fail)) only [↓yp,yq0,yq1,yq2,yq3,yq4,yl,ys0,ys1,Nat.reduceAdd,Nat.reduceMul,Nat.reduceSub,Nat.reduceBEq,Nat.reduceEqDiff,Nat.reduceLT,Nat.reduceLeDiff,reduceIte,Int.reduceAdd,Int.reduceSub,Int.reduceMul,Int.reduceLT,Int.reduceLE,Int.reduceEq,Int.reduceToNat,Int.reduceNeg,zed,zee,zfr,zhw,ysu,yrg,ysv,ysw]
    refine ⟨?_, ?_, ?_, ?_, fr1.trans fr2, by omega, hc1.fr fr2, hc2⟩
    · simp (disch := (first | (simp only [ne_eq,Nat.reduceEqDiff,not_false_eq_true,Nat.reduceLT]; done) | omega | (simp only [yz] <;> omega) | fail)) only [yg,Nat.reduceAdd,Nat.reduceEqDiff,Nat.reduceLT,g2]
    · simp (disch := (first | (simp only [ne_eq,Nat.reduceEqDiff,not_false_eq_true,Nat.reduceLT]; done) | omega | (simp only [yz] <;> omega) | fail)) only [yg,Nat.reduceAdd,Nat.reduceEqDiff,Nat.reduceLT,g3]
    · simp (disch := (first | (simp only [ne_eq,Nat.reduceEqDiff,not_false_eq_true,Nat.reduceLT]; done) | omega | (simp only [yz] <;> omega) | fail)) only [yg,Nat.reduceAdd,Nat.reduceEqDiff,Nat.reduceLT]
    · simp (disch := (first | (simp only [ne_eq,Nat.reduceEqDiff,not_false_eq_true,Nat.reduceLT]; done) | omega | (simp only [yz] <;> omega) | fail)) only [yg,Nat.reduceAdd,Nat.reduceEqDiff,Nat.reduceLT]
  clear g0 g1 g2 g3
  rintro e2 H1 ⟨g2, g3, g9, g10, fr1, hs1, hc1, hd1⟩
  refine W_seqI (fun e' H'' => ∃ a' cap' C l i8, gt 140 e' 2 = .int .u8 x ∧ gt 140 e' 3 = .int .u8 y ∧ gt 140 e' 9 = .pointer (some ⟨H.size, 0, none⟩) ∧ gt 140 e' 10 = .pointer (some ⟨H.size + 1, 0, none⟩) ∧ gt 140 e' 11 = .pointer (some ⟨i8, 0, none⟩) ∧ (2 ≤ C ∧ C ≤ 8) ∧ (l.length : Int) ≤ 14 ∧ (∀ s ∈ l, OkS C s) ∧ (a' = none → cap' = 0) ∧ Sl H'' a' l ∧ H''.get i8 = .rw [.int .i64 C, .slice a' l.length cap'] 24 false [] ∧ H.size + 1 < i8 ∧ i8 < H''.size ∧ Fr H H'' ∧ Chu H'' H.size a bs cap ∧ Chu H'' (H.size + 1) b2 bs2 cap2) ?_ ?_
  · simp (disch := (first | (simp only [ne_eq,Nat.reduceEqDiff,not_false_eq_true,Nat.reduceLT]; done) | omega | (simp only [yz] <;> omega) | fail)) only [↓yp,yq0,yq1,yq2,yq3,yq4,yl,ys0,ys1,Nat.reduceAdd,Nat.reduceMul,Nat.reduceSub,Nat.reduceBEq,Nat.reduceEqDiff,Nat.reduceLT,Nat.reduceLeDiff,reduceIte,Int.reduceAdd,Int.reduceSub,Int.reduceMul,Int.reduceLT,Int.reduceLE,Int.reduceEq,Int.reduceToNat,Int.reduceNeg,zed,zee,zfr,zhw,ysu,yrg,ysv,ysw,g9]
    refine c49 hc1 (by omega) (by omega) (Nat.le_refl _) (by omega) ?_
    intro f2 a' cap' C l H2 hC1 hC2 hl ho hn hsl hc2 hx2
    have sz2 := hx2.size
    have hd2 := hd1.frx hc1 (by omega) hx2
    simp (disch := (first | (simp only [ne_eq,Nat.reduceEqDiff,not_false_eq_true,Nat.reduceLT]; done) | omega | (simp only [yz] <;> omega) | fail)) only [↓yp,yq0,yq1,yq2,yq3,yq4,yl,ys0,ys1,Nat.reduceAdd,Nat.reduceMul,Nat.reduceSub,Nat.reduceBEq,Nat.reduceEqDiff,Nat.reduceLT,Nat.reduceLeDiff,reduceIte,Int.reduceAdd,Int.reduceSub,Int.reduceMul,Int.reduceLT,Int.reduceLE,Int.reduceEq,Int.reduceToNat,Int.reduceNeg,zed,zee,zfr,zhw,ysu,yrg,ysv,ysw]
    refine ⟨a', cap', C, l, H2.size, ?_, ?_, ?_, ?_, ?_, by omega, by omega, ho, hn, Sl.put (hsl.fr (Fr.alloc _ _)) (c := [.int .i64 0, .slice none 0 0]) (by rw [zda rfl]; rfl) (by simp), zdc (by (first | omega | (simp only [yz] <;> omega))), by omega, by (first | omega | (simp only [yz] <;> omega)), Fr.put (Fr.allocd (hx2.above fr1 (Nat.le_refl _)) _) (by omega) _, (hc2.fr (Fr.alloc _ _)).other (by omega) (fun c e => by rw [zda rfl] at e; cases e), (hd2.fr (Fr.alloc _ _)).other (by omega) (fun c e => by rw [zda rfl] at e; cases e)⟩
    · simp (disch := (first | (simp only [ne_eq,Nat.reduceEqDiff,not_false_eq_true,Nat.reduceLT]; done) | omega | (simp only [yz] <;> omega) | fail)) only [yg,Nat.reduceAdd,Nat.reduceEqDiff,Nat.reduceLT,g2]
    · simp (disch := (first | (simp only [ne_eq,Nat.reduceEqDiff,not_false_eq_true,Nat.reduceLT]; done) | omega | (simp only [yz] <;> omega) | fail)) only [yg,Nat.reduceAdd,Nat.reduceEqDiff,Nat.reduceLT,g3]
    · simp (disch := (first | (simp only [ne_eq,Nat.reduceEqDiff,not_false_eq_true,Nat.reduceLT]; done) | omega | (simp only [yz] <;> omega) | fail)) only [yg,Nat.reduceAdd,Nat.reduceEqDiff,Nat.reduceLT,g9]
    · simp (disch := (first | (simp only [ne_eq,Nat.reduceEqDiff,not_false_eq_true,Nat.reduceLT]; done) | omega | (simp only [yz] <;> omega) | fail)) only [yg,Nat.reduceAdd,Nat.reduceEqDiff,Nat.reduceLT,g10]
    · simp (disch := (first | (simp only [ne_eq,Nat.reduceEqDiff,not_false_eq_true,Nat.reduceLT]; done) | omega | (simp only [yz] <;> omega) | fail)) only [yg,Nat.reduceAdd,Nat.reduceEqDiff,Nat.reduceLT]
  clear g2 g3 g9 g10 fr1 hs1 hc1 hd1
  rintro e3 H2 ⟨a', cap', C, l, i8, g2, g3, g9, g10, g11, hC28, hl, ho, hn, hsl, b8, k8, l8, fr2, hc2, hd2⟩
  refine W_seqI (fun e' H'' => ∃ w ld i9, LQ 140 11 12 H C w ld l i8 i9 a' cap' e' H'' ∧ gt 140 e' 2 = .int .u8 x ∧ gt 140 e' 3 = .int .u8 y ∧ gt 140 e' 9 = .pointer (some ⟨H.size, 0, none⟩) ∧ gt 140 e' 10 = .pointer (some ⟨H.size + 1, 0, none⟩) ∧ (1 ≤ w ∧ w ≤ 5) ∧ (0 ≤ ld ∧ ld ≤ 5) ∧ H.size + 1 < i9 ∧ Chu H'' H.size a bs cap ∧ Chu H'' (H.size + 1) b2 bs2 cap2) ?_ ?_
  · have sz2 := fr2.size
    simp (disch := (first | (simp only [ne_eq,Nat.reduceEqDiff,not_false_eq_true,Nat.reduceLT]; done) | omega | (simp only [yz] <;> omega) | fail)) only [↓yp,yq0,yq1,yq2,yq3,yq4,yl,ys0,ys1,Nat.reduceAdd,Nat.reduceMul,Nat.reduceSub,Nat.reduceBEq,Nat.reduceEqDiff,Nat.reduceLT,Nat.reduceLeDiff,reduceIte,Int.reduceAdd,Int.reduceSub,Int.reduceMul,Int.reduceLT,Int.reduceLE,Int.reduceEq,Int.reduceToNat,Int.reduceNeg,zed,zee,zfr,zhw,ysu,yrg,ysv,ysw,g9]
    refine c50 hc2 (Nat.le_refl _) (by omega) ?_
    intro f3 w ld H3 hw1 hw2 hd1 hd3 hc3 hx3
    have sz3 := hx3.size
    have hd4 := hd2.frx hc2 (by omega) hx3
    simp (disch := (first | (simp only [ne_eq,Nat.reduceEqDiff,not_false_eq_true,Nat.reduceLT]; done) | omega | (simp only [yz] <;> omega) | fail)) only [↓yp,yq0,yq1,yq2,yq3,yq4,yl,ys0,ys1,Nat.reduceAdd,Nat.reduceMul,Nat.reduceSub,Nat.reduceBEq,Nat.reduceEqDiff,Nat.reduceLT,Nat.reduceLeDiff,reduceIte,Int.reduceAdd,Int.reduceSub,Int.reduceMul,Int.reduceLT,Int.reduceLE,Int.reduceEq,Int.reduceToNat,Int.reduceNeg,zed,zee,zfr,zhw,ysu,yrg,ysv,ysw]
    refine ⟨w, ld, H3.size, ⟨?_, ?_, Fr.put (Fr.allocd (hx3.above fr2 (Nat.le_refl _)) _) (by omega) _, by (first | omega | (simp only [yz] <;> omega)), by (first | omega | (simp only [yz] <;> omega)), ?_, zdc (by (first | omega | (simp only [yz] <;> omega))), Sl.put ((hsl.frx hc2 hx3).fr (Fr.alloc _ _)) (c := [.int .i64 0, .int .i64 0]) (by rw [zda rfl]; rfl) (by simp)⟩, ?_, ?_, ?_, ?_, by omega, by omega, by omega, (hc3.fr (Fr.alloc _ _)).other (by omega) (fun c e => by rw [zda rfl] at e; cases e), (hd4.fr (Fr.alloc _ _)).other (by omega) (fun c e => by rw [zda rfl] at e; cases e)⟩
    · simp (disch := (first | (simp only [ne_eq,Nat.reduceEqDiff,not_false_eq_true,Nat.reduceLT]; done) | omega | (simp only [yz] <;> omega) | fail)) only [yg,Nat.reduceAdd,Nat.reduceEqDiff,Nat.reduceLT,g11]
    · simp (disch := (first | (simp only [ne_eq,Nat.reduceEqDiff,not_false_eq_true,Nat.reduceLT]; done) | omega | (simp only [yz] <;> omega) | fail)) only [yg,Nat.reduceAdd,Nat.reduceEqDiff,Nat.reduceLT]
    · rw [zdd (by omega), zdb (by omega), hx3.same _ l8 (by omega)]; exact b8
    · simp (disch := (first | (simp only [ne_eq,Nat.reduceEqDiff,not_false_eq_true,Nat.reduceLT]; done) | omega | (simp only [yz] <;> omega) | fail)) only [yg,Nat.reduceAdd,Nat.reduceEqDiff,Nat.reduceLT,g2]
    · simp (disch := (first | (simp only [ne_eq,Nat.reduceEqDiff,not_false_eq_true,Nat.reduceLT]; done) | omega | (simp only [yz] <;> omega) | fail)) only [yg,Nat.reduceAdd,Nat.reduceEqDiff,Nat.reduceLT,g3]
    · simp (disch := (first | (simp only [ne_eq,Nat.reduceEqDiff,not_false_eq_true,Nat.reduceLT]; done) | omega | (simp only [yz] <;> omega) | fail)) only [yg,Nat.reduceAdd,Nat.reduceEqDiff,Nat.reduceLT,g9]
    · simp (disch := (first | (simp only [ne_eq,Nat.reduceEqDiff,not_false_eq_true,Nat.reduceLT]; done) | omega | (simp only [yz] <;> omega) | fail)) only [yg,Nat.reduceAdd,Nat.reduceEqDiff,Nat.reduceLT,g10]
  have hk8 : H.size + 1 < i8 := k8
  clear g2 g3 g9 g10 g11 hsl b8 l8 fr2 hc2 hd2 k8
  rintro e H' ⟨w, ld, i9, I, g2, g3, g9, g10, ⟨hw1, hw2⟩, ⟨hd1, hd2⟩, hk9, hc, hd⟩
  obtain ⟨wh, hwh⟩ : ∃ to, x.tmod C = to := ⟨_, rfl⟩
  have hwh2 : 0 ≤ wh ∧ wh < C := by
    rw [← hwh]
    exact ⟨Int.tmod_nonneg _ hx.1, Int.tmod_lt_of_pos _ (by omega)⟩
  obtain ⟨wn, hwn⟩ : ∃ to, y.tmod 60 = to := ⟨_, rfl⟩
  have hwn2 : 0 ≤ wn ∧ wn ≤ 59 := by
    rw [← hwn]
    have := Int.tmod_lt_of_pos y (show (0 : Int) < 60 by omega)
    exact ⟨Int.tmod_nonneg _ hy.1, by omega⟩
  have hlt := hc.lt
  have sz := I.fr.size
  refine W_seqI (fun e' H'' => ∃ fr, LQ 140 11 12 H C w ld l i8 i9 a' cap' e' H'' ∧ gt 140 e' 10 = .pointer (some ⟨H.size + 1, 0, none⟩) ∧ (0 ≤ fr ∧ fr < C) ∧ gt 140 e' 13 = .int .i64 fr ∧ gt 140 e' 14 = .int .i64 wh ∧ gt 140 e' 15 = .int .i64 wn ∧ Chu H'' (H.size + 1) b2 bs2 cap2) ?_ ?_
  · have l8 := I.l8
    have g8 := I.g8
    have b8 := I.b8
    obtain ⟨fl, v, H1, mm, hres, hLm, fr, rfl, ⟨hf1, hf2⟩, hff, hc1, hx1, hs1⟩ := resK_elim (Q := fun f v H'' => ∃ d : Int, v = .int .i64 d ∧ Pulled C d ∧ (f = true → H'' = H') ∧ Chu H'' H.size a bs cap ∧ FrX H.size H' H'' ∧ H''.size = H'.size) (c51 (n := C) (L := H.size) (M := N + 7994) hc (by omega) (by omega) (by omega) (fun f v H'' h1 h2 h3 h4 h5 => ⟨v, rfl, h2, h1, h3, h4, h5⟩))
    have b81 : H1.get i8 = .rw [.int .i64 C, .slice a' l.length cap'] 24 false [] := by
      rw [hx1.same _ l8 (by omega)]; exact b8
    have w1 : w64 x = x := w64_of (by omega)
    have w2 : w64 y = y := w64_of (by omega)
    have hrem := fun (p q : Operand) (z : Int) => i64_rem (T := tabA) (P := Try.prog) (ty := 3) (x := p) (y := q) (a := z) (b := C) (by omega)
    have hrem2 := fun (p q : Operand) (z : Int) => i64_rem (T := tabA) (P := Try.prog) (ty := 3) (x := p) (y := q) (a := z) (b := 60) (by omega)
    have I1 : ∀ e', Keep 140 [11, 12] e e' → LQ 140 11 12 H C w ld l i8 i9 a' cap' e' H1 := fun e' hke => I.frx (by omega) (by omega) (Nat.le_refl _) hc hx1 hke
    have hd1 := hd.frx hc (by omega) hx1
    cases fl
    · refine W_draw [3] rfl (by kernel_rfl) (by kernel_rfl) (by (first | omega | (simp only [yz] <;> omega))) ?_
      simp (disch := (first | (simp only [ne_eq,Nat.reduceEqDiff,not_false_eq_true,Nat.reduceLT]; done) | omega | (simp only [yz] <;> omega) | fail)) only [↓yp,yq0,yq1,yq2,yq3,yq4,yl,ys0,ys1,Nat.reduceAdd,Nat.reduceMul,Nat.reduceSub,Nat.reduceBEq,Nat.reduceEqDiff,Nat.reduceLT,Nat.reduceLeDiff,reduceIte,Int.reduceAdd,Int.reduceSub,Int.reduceMul,Int.reduceLT,Int.reduceLE,Int.reduceEq,Int.reduceToNat,Int.reduceNeg,zed,zee,zfr,zhw,ysu,yrg,ysv,ysw,g2,g3,g9,g8,b8,b81,hres,A_conv,cv_5_3,w1,w2,hrem,hrem2,hwh,hwn]
      refine ⟨fr, I1 _ (by (with_reducible (repeat (first | refine Keep.put ?_ (by decide) | refine Keep.none ?_ | assumption | exact Keep.refl _ _ _)))), ?_, ⟨hf1, by omega⟩, ?_, ?_, ?_, hd1⟩
      · simp (disch := (first | (simp only [ne_eq,Nat.reduceEqDiff,not_false_eq_true,Nat.reduceLT]; done) | omega | (simp only [yz] <;> omega) | fail)) only [yg,Nat.reduceAdd,Nat.reduceEqDiff,Nat.reduceLT,g10]
      · simp (disch := (first | (simp only [ne_eq,Nat.reduceEqDiff,not_false_eq_true,Nat.reduceLT]; done) | omega | (simp only [yz] <;> omega) | fail)) only [yg,Nat.reduceAdd,Nat.reduceEqDiff,Nat.reduceLT]
      · simp (disch := (first | (simp only [ne_eq,Nat.reduceEqDiff,not_false_eq_true,Nat.reduceLT]; done) | omega | (simp only [yz] <;> omega) | fail)) only [yg,Nat.reduceAdd,Nat.reduceEqDiff,Nat.reduceLT]
      · simp (disch := (first | (simp only [ne_eq,Nat.reduceEqDiff,not_false_eq_true,Nat.reduceLT]; done) | omega | (simp only [yz] <;> omega) | fail)) only [yg,Nat.reduceAdd,Nat.reduceEqDiff,Nat.reduceLT]
    · obtain rfl := hff rfl
      refine W_draw [] rfl (by kernel_rfl) (by kernel_rfl) (by (first | omega | (simp only [yz] <;> omega))) ?_
      simp (disch := (first | (simp only [ne_eq,Nat.reduceEqDiff,not_false_eq_true,Nat.reduceLT]; done) | omega | (simp only [yz] <;> omega) | fail)) only [↓yp,yq0,yq1,yq2,yq3,yq4,yl,ys0,ys1,Nat.reduceAdd,Nat.reduceMul,Nat.reduceSub,Nat.reduceBEq,Nat.reduceEqDiff,Nat.reduceLT,Nat.reduceLeDiff,reduceIte,Int.reduceAdd,Int.reduceSub,Int.reduceMul,Int.reduceLT,Int.reduceLE,Int.reduceEq,Int.reduceToNat,Int.reduceNeg,zed,zee,zfr,zhw,ysu,yrg,ysv,ysw,g2,g3,g9,g8,b8,hres,A_conv,cv_5_3,w1,w2,hrem,hrem2,hwh,hwn]
      refine ⟨fr, I1 _ (by (with_reducible (repeat (first | refine Keep.put ?_ (by decide) | refine Keep.none ?_ | assumption | exact Keep.refl _ _ _)))), ?_, ⟨hf1, by omega⟩, ?_, ?_, ?_, hd1⟩
      · simp (disch := (first | (simp only [ne_eq,Nat.reduceEqDiff,not_false_eq_true,Nat.reduceLT]; done) | omega | (simp only [yz] <;> omega) | fail)) only [yg,Nat.reduceAdd,Nat.reduceEqDiff,Nat.reduceLT,g10]
      · simp (disch := (first | (simp only [ne_eq,Nat.reduceEqDiff,not_false_eq_true,Nat.reduceLT]; done) | omega | (simp only [yz] <;> omega) | fail)) only [yg,Nat.reduceAdd,Nat.reduceEqDiff,Nat.reduceLT]
      · simp (disch := (first | (simp only [ne_eq,Nat.reduceEqDiff,not_false_eq_true,Nat.reduceLT]; done) | omega | (simp only [yz] <;> omega) | fail)) only [yg,Nat.reduceAdd,Nat.reduceEqDiff,Nat.reduceLT]
      · simp (disch := (first | (simp only [ne_eq,Nat.reduceEqDiff,not_false_eq_true,Nat.reduceLT]; done) | omega | (simp only [yz] <;> omega) | fail)) only [yg,Nat.reduceAdd,Nat.reduceEqDiff,Nat.reduceLT]
  clear sz I g2 g3 g9 g10 hc hd hlt
  rintro e H' ⟨fr, I, g10, hfr, g13, g14, g15, hd⟩
  have X : Tw C w ld l a' cap' fr wh wn := ⟨hC28, by omega, ho, hn, by omega, by omega, hfr, hwh2, hwn2⟩
  have hC : 1 ≤ C ∧ C ≤ 8 := by omega
  have hl16 : l.length ≤ 16 := by omega
  refine W_seqI (fun e' H'' => ∃ k16 c16, TS H C w ld l i8 i9 a' cap' b2 bs2 cap2 fr wh wn k16 c16 e' H'') ?_ ?_
  · have sz := I.fr.size
    have g8 := I.g8
    have g9 := I.g9
    have b8 := I.b8
    have b9 := I.b9
    have l8 := I.l8
    have l9 := I.l9
    simp (disch := (first | (simp only [ne_eq,Nat.reduceEqDiff,not_false_eq_true,Nat.reduceLT]; done) | omega | (simp only [yz] <;> omega) | fail)) only [↓yp,yq0,yq1,yq2,yq3,yq4,yl,ys0,ys1,Nat.reduceAdd,Nat.reduceMul,Nat.reduceSub,Nat.reduceBEq,Nat.reduceEqDiff,Nat.reduceLT,Nat.reduceLeDiff,reduceIte,Int.reduceAdd,Int.reduceSub,Int.reduceMul,Int.reduceLT,Int.reduceLE,Int.reduceEq,Int.reduceToNat,Int.reduceNeg,zed,zee,zfr,zhw,ysu,yrg,ysv,ysw,g8,g9,b8,b9,g13,g15]
    refine c52 I.sl (by omega) (asked_zero (cs := [fr]) (ms := [wn]) hC hl16 ho (by omega) (by omega) (by simp; omega) (by simp; omega)) (by omega) (by omega) ?_
    intro k cap'' H3 fr3 hk1 hk2 hk3
    simp (disch := (first | (simp only [ne_eq,Nat.reduceEqDiff,not_false_eq_true,Nat.reduceLT]; done) | omega | (simp only [yz] <;> omega) | fail)) only [↓yp,yq0,yq1,yq2,yq3,yq4,yl,ys0,ys1,Nat.reduceAdd,Nat.reduceMul,Nat.reduceSub,Nat.reduceBEq,Nat.reduceEqDiff,Nat.reduceLT,Nat.reduceLeDiff,reduceIte,Int.reduceAdd,Int.reduceSub,Int.reduceMul,Int.reduceLT,Int.reduceLE,Int.reduceEq,Int.reduceToNat,Int.reduceNeg,zed,zee,zfr,zhw,ysu,yrg,ysv,ysw]
    refine ⟨k, cap'', I.next fr3 (by (with_reducible (repeat (first | refine Keep.put ?_ (by decide) | refine Keep.none ?_ | assumption | exact Keep.refl _ _ _)))), ?_, ?_, ?_, ?_, ?_, by omega, by omega, by omega, hk2, hk3, hd.fr fr3⟩
    · simp (disch := (first | (simp only [ne_eq,Nat.reduceEqDiff,not_false_eq_true,Nat.reduceLT]; done) | omega | (simp only [yz] <;> omega) | fail)) only [yg,Nat.reduceAdd,Nat.reduceEqDiff,Nat.reduceLT,g10]
    · simp (disch := (first | (simp only [ne_eq,Nat.reduceEqDiff,not_false_eq_true,Nat.reduceLT]; done) | omega | (simp only [yz] <;> omega) | fail)) only [yg,Nat.reduceAdd,Nat.reduceEqDiff,Nat.reduceLT,g13]
    · simp (disch := (first | (simp only [ne_eq,Nat.reduceEqDiff,not_false_eq_true,Nat.reduceLT]; done) | omega | (simp only [yz] <;> omega) | fail)) only [yg,Nat.reduceAdd,Nat.reduceEqDiff,Nat.reduceLT,g14]
    · simp (disch := (first | (simp only [ne_eq,Nat.reduceEqDiff,not_false_eq_true,Nat.reduceLT]; done) | omega | (simp only [yz] <;> omega) | fail)) only [yg,Nat.reduceAdd,Nat.reduceEqDiff,Nat.reduceLT,g15]
    · simp (disch := (first | (simp only [ne_eq,Nat.reduceEqDiff,not_false_eq_true,Nat.reduceLT]; done) | omega | (simp only [yz] <;> omega) | fail)) only [yg,Nat.reduceAdd,Nat.reduceEqDiff,Nat.reduceLT]
  clear I g10 g13 g14 g15 hd
  rintro e H' ⟨k16, c16, I⟩
  refine W_seqI (fun e' H'' => TS H C w ld l i8 i9 a' cap' b2 bs2 cap2 fr wh wn k16 c16 e' H'') ?_ ?_
  · have sz := I.q.fr.size
    have g16 := I.g16
    simp (disch := (first | (simp only [ne_eq,Nat.reduceEqDiff,not_false_eq_true,Nat.reduceLT]; done) | omega | (simp only [yz] <;> omega) | fail)) only [↓yp,yq0,yq1,yq2,yq3,yq4,yl,ys0,ys1,Nat.reduceAdd,Nat.reduceMul,Nat.reduceSub,Nat.reduceBEq,Nat.reduceEqDiff,Nat.reduceLT,Nat.reduceLeDiff,reduceIte,Int.reduceAdd,Int.reduceSub,Int.reduceMul,Int.reduceLT,Int.reduceLE,Int.reduceEq,Int.reduceToNat,Int.reduceNeg,zed,zee,zfr,zhw,ysu,yrg,ysv,ysw,g16,binV_nil_some zir,binV_nil_someN zir]
    exact I.next (Fr.refl _) (by (with_reducible (repeat (first | refine Keep.put ?_ (by decide) | refine Keep.none ?_ | assumption | exact Keep.refl _ _ _))))
  clear I
  rintro e H' I
  refine W_seqI (fun e' H'' => TS H C w ld l i8 i9 a' cap' b2 bs2 cap2 fr wh wn k16 c16 e' H'') ?_ ?_
  · have sz := I.q.fr.size
    simp (disch := (first | (simp only [ne_eq,Nat.reduceEqDiff,not_false_eq_true,Nat.reduceLT]; done) | omega | (simp only [yz] <;> omega) | fail)) only [↓yp,yq0,yq1,yq2,yq3,yq4,yl,ys0,ys1,Nat.reduceAdd,Nat.reduceMul,Nat.reduceSub,Nat.reduceBEq,Nat.reduceEqDiff,Nat.reduceLT,Nat.reduceLeDiff,reduceIte,Int.reduceAdd,Int.reduceSub,Int.reduceMul,Int.reduceLT,Int.reduceLE,Int.reduceEq,Int.reduceToNat,Int.reduceNeg,zed,zee,zfr,zhw,ysu,yrg,ysv,ysw]
    refine W_while (n := 140) 7000 (fun k e' H'' => ∃ j : Nat, k = 6 - j ∧ j ≤ 6 ∧ gt 140 e' 53 = .int .i64 (j : Nat) ∧ TS H C w ld l i8 i9 a' cap' b2 bs2 cap2 fr wh wn k16 c16 e' H'')
      ?_ 6 6 ⟨0, by omega, by omega, by simp (disch := (first | (simp only [ne_eq,Nat.reduceEqDiff,not_false_eq_true,Nat.reduceLT]; done) | omega | (simp only [yz] <;> omega) | fail)) only [yg,Nat.reduceAdd,Nat.reduceEqDiff,Nat.reduceLT]; rfl, I.next (Fr.refl _) (by (with_reducible (repeat (first | refine Keep.put ?_ (by decide) | refine Keep.none ?_ | assumption | exact Keep.refl _ _ _))))⟩ (by omega) (by omega)
    clear sz I
    rintro M1 k1 e H' ⟨j, rfl, hj, g53, I⟩
    have sz := I.q.fr.size
    simp (disch := (first | (simp only [ne_eq,Nat.reduceEqDiff,not_false_eq_true,Nat.reduceLT]; done) | omega | (simp only [yz] <;> omega) | fail)) only [↓yp,yq0,yq1,yq2,yq3,yq4,yl,ys0,ys1,Nat.reduceAdd,Nat.reduceMul,Nat.reduceSub,Nat.reduceBEq,Nat.reduceEqDiff,Nat.reduceLT,Nat.reduceLeDiff,reduceIte,Int.reduceAdd,Int.reduceSub,Int.reduceMul,Int.reduceLT,Int.reduceLE,Int.reduceEq,Int.reduceToNat,Int.reduceNeg,zed,zee,zfr,zhw,ysu,yrg,ysv,ysw,g53]
    refine ⟨fun hA => ?_, fun hA => ?_⟩
    · have hj6 : j ≤ 5 := by have := of_decide_eq_true hA; omega
      have hw2 : w64 ((j : Int) + 1) = ((j + 1 : Nat) : Int) := by rw [w64_of (by omega)]; omega
      refine W_skipI (by omega) ?_
      rw [zag, zah]
      refine W_end (c8q (j := j) (I.next (Fr.refl _) (by (with_reducible (repeat (first | refine Keep.put ?_ (by decide) | refine Keep.none ?_ | assumption | exact Keep.refl _ _ _))))) X (by simp (disch := (first | (simp only [ne_eq,Nat.reduceEqDiff,not_false_eq_true,Nat.reduceLT]; done) | omega | (simp only [yz] <;> omega) | fail)) only [yg,Nat.reduceAdd,Nat.reduceEqDiff,Nat.reduceLT,g53])) ?_
      rintro e' H'' ⟨I', q53⟩
      have sz' := I'.q.fr.size
      simp (disch := (first | (simp only [ne_eq,Nat.reduceEqDiff,not_false_eq_true,Nat.reduceLT]; done) | omega | (simp only [yz] <;> omega) | fail)) only [↓yp,yq0,yq1,yq2,yq3,yq4,yl,ys0,ys1,Nat.reduceAdd,Nat.reduceMul,Nat.reduceSub,Nat.reduceBEq,Nat.reduceEqDiff,Nat.reduceLT,Nat.reduceLeDiff,reduceIte,Int.reduceAdd,Int.reduceSub,Int.reduceMul,Int.reduceLT,Int.reduceLE,Int.reduceEq,Int.reduceToNat,Int.reduceNeg,zed,zee,zfr,zhw,ysu,yrg,ysv,ysw,q53,hw2]
      refine ⟨6 - (j + 1), by omega, j + 1, rfl, by omega, ?_, I'.next (Fr.refl _) (by (with_reducible (repeat (first | refine Keep.put ?_ (by decide) | refine Keep.none ?_ | assumption | exact Keep.refl _ _ _))))⟩
      simp (disch := (first | (simp only [ne_eq,Nat.reduceEqDiff,not_false_eq_true,Nat.reduceLT]; done) | omega | (simp only [yz] <;> omega) | fail)) only [yg,Nat.reduceAdd,Nat.reduceEqDiff,Nat.reduceLT]
    · simp (disch := (first | (simp only [ne_eq,Nat.reduceEqDiff,not_false_eq_true,Nat.reduceLT]; done) | omega | (simp only [yz] <;> omega) | fail)) only [↓yp,yq0,yq1,yq2,yq3,yq4,yl,ys0,ys1,Nat.reduceAdd,Nat.reduceMul,Nat.reduceSub,Nat.reduceBEq,Nat.reduceEqDiff,Nat.reduceLT,Nat.reduceLeDiff,reduceIte,Int.reduceAdd,Int.reduceSub,Int.reduceMul,Int.reduceLT,Int.reduceLE,Int.reduceEq,Int.reduceToNat,Int.reduceNeg,zed,zee,zfr,zhw,ysu,yrg,ysv,ysw]
      exact I.next (Fr.refl _) (by (with_reducible (repeat (first | refine Keep.put ?_ (by decide) | refine Keep.none ?_ | assumption | exact Keep.refl _ _ _))))
  clear I
  rintro e H' I
  have sz := I.q.fr.size
  have g14 := I.g14
  have g16 := I.g16
  have b16 := I.b16
  have hat := take_at (earT_len (w := w) X.good (fr := fr) (a₀ := wn) hfr (by omega)) hC hwh2
  obtain ⟨n, hn0⟩ : ∃ n, tg (earT C l w ld fr wn) wh = n := ⟨_, rfl⟩
  rw [hn0] at hat
  have hn1 : tg (myT C l w ld fr wn) wh = n := by rw [myT_tg2 X hwh2]; exact hn0
  have hnok : okM n := by
    rw [← hn0]
    exact (earT_ok (w := w) X.good X.hfr (a₀ := wn) (by omega)).2 wh
  unfold okM at hnok
  cases hE : decide (n = -1)
  rotate_left
  · simp (disch := (first | (simp only [ne_eq,Nat.reduceEqDiff,not_false_eq_true,Nat.reduceLT]; done) | omega | (simp only [yz] <;> omega) | fail)) only [↓yp,yq0,yq1,yq2,yq3,yq4,yl,ys0,ys1,Nat.reduceAdd,Nat.reduceMul,Nat.reduceSub,Nat.reduceBEq,Nat.reduceEqDiff,Nat.reduceLT,Nat.reduceLeDiff,reduceIte,Int.reduceAdd,Int.reduceSub,Int.reduceMul,Int.reduceLT,Int.reduceLE,Int.reduceEq,Int.reduceToNat,Int.reduceNeg,zed,zee,zfr,zhw,ysu,yrg,ysv,ysw,g14,g16,A_indexSlice zir,b16,hat,hE,awake_l]
  refine W_seqI (fun e' H'' => TS H C w ld l i8 i9 a' cap' b2 bs2 cap2 fr wh wn k16 c16 e' H'') ?_ ?_
  · simp (disch := (first | (simp only [ne_eq,Nat.reduceEqDiff,not_false_eq_true,Nat.reduceLT]; done) | omega | (simp only [yz] <;> omega) | fail)) only [↓yp,yq0,yq1,yq2,yq3,yq4,yl,ys0,ys1,Nat.reduceAdd,Nat.reduceMul,Nat.reduceSub,Nat.reduceBEq,Nat.reduceEqDiff,Nat.reduceLT,Nat.reduceLeDiff,reduceIte,Int.reduceAdd,Int.reduceSub,Int.reduceMul,Int.reduceLT,Int.reduceLE,Int.reduceEq,Int.reduceToNat,Int.reduceNeg,zed,zee,zfr,zhw,ysu,yrg,ysv,ysw,g14,g16,A_indexSlice zir,b16,hat,hE]
    exact I.next (Fr.refl _) (by (with_reducible (repeat (first | refine Keep.put ?_ (by decide) | refine Keep.none ?_ | assumption | exact Keep.refl _ _ _))))
  clear sz g14 g16 b16 I
  rintro e H' I
  have sz := I.q.fr.size
  have g14 := I.g14
  have g16 := I.g16
  have b16 := I.b16
  have hl16' := I.l16
  have hkk := I.kk
  have w1 : w64 (n + 1) = n + 1 := w64_of (by omega)
  simp (disch := (first | (simp only [ne_eq,Nat.reduceEqDiff,not_false_eq_true,Nat.reduceLT]; done) | omega | (simp only [yz] <;> omega) | fail)) only [↓yp,yq0,yq1,yq2,yq3,yq4,yl,ys0,ys1,Nat.reduceAdd,Nat.reduceMul,Nat.reduceSub,Nat.reduceBEq,Nat.reduceEqDiff,Nat.reduceLT,Nat.reduceLeDiff,reduceIte,Int.reduceAdd,Int.reduceSub,Int.reduceMul,Int.reduceLT,Int.reduceLE,Int.reduceEq,Int.reduceToNat,Int.reduceNeg,zed,zee,zfr,zhw,ysu,yrg,ysv,ysw,g14,g16,A_indexSlice zir,b16,hat,hE,w1,A_buildSlice st_brS_52_2,lenV_slice zir]
  refine W_while (n := 140) 7000 (fun k e' H'' => ∃ (j kb cb : Nat), k = 2 - j ∧ j ≤ 2 ∧ gt 140 e' 112 = .int .i64 (j : Nat) ∧ gt 140 e' 111 = .int .i64 2 ∧ gt 140 e' 110 = .slice (some ⟨kb, 0, none⟩) 2 cb ∧ kb < H''.size ∧ H''.get kb = .rw [.int .i64 (n + 1), .int .i64 (-1)] 3 false [] ∧ TS H C w ld l i8 i9 a' cap' b2 bs2 cap2 fr wh wn k16 c16 e' H'')
    ?_ 2 2 ⟨0, H'.size, 2, by omega, by omega, by simp (disch := (first | (simp only [ne_eq,Nat.reduceEqDiff,not_false_eq_true,Nat.reduceLT]; done) | omega | (simp only [yz] <;> omega) | fail)) only [yg,Nat.reduceAdd,Nat.reduceEqDiff,Nat.reduceLT]; rfl, by simp (disch := (first | (simp only [ne_eq,Nat.reduceEqDiff,not_false_eq_true,Nat.reduceLT]; done) | omega | (simp only [yz] <;> omega) | fail)) only [yg,Nat.reduceAdd,Nat.reduceEqDiff,Nat.reduceLT]; rfl, by simp (disch := (first | (simp only [ne_eq,Nat.reduceEqDiff,not_false_eq_true,Nat.reduceLT]; done) | omega | (simp only [yz] <;> omega) | fail)) only [yg,Nat.reduceAdd,Nat.reduceEqDiff,Nat.reduceLT], by (first | omega | (simp only [yz] <;> omega)), by rw [zda rfl], I.next (Fr.alloc _ _) (by (with_reducible (repeat (first | refine Keep.put ?_ (by decide) | refine Keep.none ?_ | assumption | exact Keep.refl _ _ _))))⟩ (by omega) (by omega)
  clear sz g14 g16 b16 hl16' hkk I
  rintro M1 k1 e H' ⟨j, kb, cb, rfl, hj, g112, g111, g110, hkb, bb, I⟩
  have sz := I.q.fr.size
  simp (disch := (first | (simp only [ne_eq,Nat.reduceEqDiff,not_false_eq_true,Nat.reduceLT]; done) | omega | (simp only [yz] <;> omega) | fail)) only [↓yp,yq0,yq1,yq2,yq3,yq4,yl,ys0,ys1,Nat.reduceAdd,Nat.reduceMul,Nat.reduceSub,Nat.reduceBEq,Nat.reduceEqDiff,Nat.reduceLT,Nat.reduceLeDiff,reduceIte,Int.reduceAdd,Int.reduceSub,Int.reduceMul,Int.reduceLT,Int.reduceLE,Int.reduceEq,Int.reduceToNat,Int.reduceNeg,zed,zee,zfr,zhw,ysu,yrg,ysv,ysw,g112,g111]
  refine ⟨fun hA => ?_, fun hA => ?_⟩
  · have hj6 : j < 2 := by have := of_decide_eq_true hA; omega
    have hw2 : w64 ((j : Int) + 1) = ((j + 1 : Nat) : Int) := by rw [w64_of (by omega)]; omega
    refine W_skipI (by omega) ?_
    rw [zag]
    refine W_end (c8v (j := j) (n := n) (I.next (Fr.refl _) (by (with_reducible (repeat (first | refine Keep.put ?_ (by decide) | refine Keep.none ?_ | assumption | exact Keep.refl _ _ _))))) X hn1 (of_decide_eq_false hE) hj6 (by simp (disch := (first | (simp only [ne_eq,Nat.reduceEqDiff,not_false_eq_true,Nat.reduceLT]; done) | omega | (simp only [yz] <;> omega) | fail)) only [yg,Nat.reduceAdd,Nat.reduceEqDiff,Nat.reduceLT,g112]) (by simp (disch := (first | (simp only [ne_eq,Nat.reduceEqDiff,not_false_eq_true,Nat.reduceLT]; done) | omega | (simp only [yz] <;> omega) | fail)) only [yg,Nat.reduceAdd,Nat.reduceEqDiff,Nat.reduceLT,g111]) (by simp (disch := (first | (simp only [ne_eq,Nat.reduceEqDiff,not_false_eq_true,Nat.reduceLT]; done) | omega | (simp only [yz] <;> omega) | fail)) only [yg,Nat.reduceAdd,Nat.reduceEqDiff,Nat.reduceLT,g110]; rfl) hkb bb) ?_
    rintro e' H'' ⟨I', q112, q111, q110, ql, qb⟩
    have sz' := I'.q.fr.size
    simp (disch := (first | (simp only [ne_eq,Nat.reduceEqDiff,not_false_eq_true,Nat.reduceLT]; done) | omega | (simp only [yz] <;> omega) | fail)) only [↓yp,yq0,yq1,yq2,yq3,yq4,yl,ys0,ys1,Nat.reduceAdd,Nat.reduceMul,Nat.reduceSub,Nat.reduceBEq,Nat.reduceEqDiff,Nat.reduceLT,Nat.reduceLeDiff,reduceIte,Int.reduceAdd,Int.reduceSub,Int.reduceMul,Int.reduceLT,Int.reduceLE,Int.reduceEq,Int.reduceToNat,Int.reduceNeg,zed,zee,zfr,zhw,ysu,yrg,ysv,ysw,q112,hw2]
    refine ⟨2 - (j + 1), by omega, j + 1, kb, cb, rfl, by omega, ?_, ?_, ?_, ql, qb, I'.next (Fr.refl _) (by (with_reducible (repeat (first | refine Keep.put ?_ (by decide) | refine Keep.none ?_ | assumption | exact Keep.refl _ _ _))))⟩
    · simp (disch := (first | (simp only [ne_eq,Nat.reduceEqDiff,not_false_eq_true,Nat.reduceLT]; done) | omega | (simp only [yz] <;> omega) | fail)) only [yg,Nat.reduceAdd,Nat.reduceEqDiff,Nat.reduceLT]
    · simp (disch := (first | (simp only [ne_eq,Nat.reduceEqDiff,not_false_eq_true,Nat.reduceLT]; done) | omega | (simp only [yz] <;> omega) | fail)) only [yg,Nat.reduceAdd,Nat.reduceEqDiff,Nat.reduceLT,q111]
    · simp (disch := (first | (simp only [ne_eq,Nat.reduceEqDiff,not_false_eq_true,Nat.reduceLT]; done) | omega | (simp only [yz] <;> omega) | fail)) only [yg,Nat.reduceAdd,Nat.reduceEqDiff,Nat.reduceLT,q110]
  · simp (disch := (first | (simp only [ne_eq,Nat.reduceEqDiff,not_false_eq_true,Nat.reduceLT]; done) | omega | (simp only [yz] <;> omega) | fail)) only [↓yp,yq0,yq1,yq2,yq3,yq4,yl,ys0,ys1,Nat.reduceAdd,Nat.reduceMul,Nat.reduceSub,Nat.reduceBEq,Nat.reduceEqDiff,Nat.reduceLT,Nat.reduceLeDiff,reduceIte,Int.reduceAdd,Int.reduceSub,Int.reduceMul,Int.reduceLT,Int.reduceLE,Int.reduceEq,Int.reduceToNat,Int.reduceNeg,zed,zee,zfr,zhw,ysu,yrg,ysv,ysw,awake_l]
end
end Go.Am
