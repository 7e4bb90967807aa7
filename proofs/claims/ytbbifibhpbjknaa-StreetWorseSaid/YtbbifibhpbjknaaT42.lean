/- The law StreetWorse: one round of the towns that are worse. -/
import Derived.Test.YtbbifibhpbjknaaT41
import Derived.Test.YtbbifibhpbjknaaT38
set_option linter.unusedSimpArgs false
set_option linter.unusedVariables false
namespace Go.Am
open Go.Proofs
variable {T : Tab} {P : Program} {N L : Nat} {H : AHeap} {Q : Bool → Value → AHeap → Prop}
section
variable {l : List Str} {C w ld fr m : Int} {i8 i9 k12 c12 k : Nat} {a' : Option Addr} {cap' : Nat} {H' : AHeap} {e : VT}
set_option maxHeartbeats 4000000 in
set_option maxRecDepth 10000 in
theorem c9w {j : Nat} {t : Str} (I : WS H C w ld l i8 i9 a' cap' fr m k12 c12 e H') (X : WX C w ld l fr m) (hk : l[k]? = some t) (hj : j < 5) (g103 : gt 183 e 103 = .int .i64 (j : Nat)) (g15 : gt 183 e 15 = .int .i64 (k : Nat)) :
    W tabA Try.prog (N + 6500) none (sub [true, true, true, true, true, true, true, true, true, true, true, false, true, false, false, true, true, false, false] (bodyOf Try.f9)) H.size ⟨183, e, H', []⟩ (endK 183 [] fun e' H'' => WS H C w ld l i8 i9 a' cap' fr m k12 c12 e' H'' ∧ gt 183 e' 103 = .int .i64 (j : Nat) ∧ gt 183 e' 15 = .int .i64 (k : Nat)) := by
  have sz := I.p.fr.size
  have hlt := (List.getElem?_eq_some_iff.1 hk).1
  have hne : l ≠ [] := fun h => by rw [h] at hlt; simp at hlt
  have hl := X.hl
  simp only [Try.f9,bodyOf,sub_nil,sub_seq0,sub_seq1,sub_block,sub_loop,sub_cond0,sub_cond1]
  refine W_seqI (fun e' H'' => Keep 183 [8, 9, 10, 11, 12, 15, 103] e e' ∧ gt 183 e' 16 = .int .i64 (j : Nat) ∧ H' = H'') ?_ ?_
  · simp (disch := (first | (simp only [ne_eq,Nat.reduceEqDiff,not_false_eq_true,Nat.reduceLT]; done) | omega | (simp only [yz] <;> omega) | fail)) only [↓yp,yq0,yq1,yq2,yq3,yq4,yl,ys0,ys1,Nat.reduceAdd,Nat.reduceMul,Nat.reduceSub,Nat.reduceBEq,Nat.reduceEqDiff,Nat.reduceLT,Nat.reduceLeDiff,reduceIte,Int.reduceAdd,Int.reduceSub,Int.reduceMul,Int.reduceLT,Int.reduceLE,Int.reduceEq,Int.reduceToNat,Int.reduceNeg,zed,zee,zfr,zhw,ysu,yrg,ysv,ysw,ysx,g103]
    exact ⟨by (with_reducible (repeat (first | refine Keep.put ?_ (by decide) | refine Keep.none ?_ | assumption | exact Keep.refl _ _ _))), by simp (disch := (first | (simp only [ne_eq,Nat.reduceEqDiff,not_false_eq_true,Nat.reduceLT]; done) | omega | (simp only [yz] <;> omega) | fail)) only [yg,Nat.reduceAdd,Nat.reduceEqDiff,Nat.reduceLT], rfl⟩
  rintro e1 _ ⟨k1, g16, rfl⟩
  refine W_seqI (fun e' H'' => Keep 183 [8, 9, 10, 11, 12, 15, 103] e e' ∧ gt 183 e' 16 = .int .i64 (j : Nat) ∧ ∃ kb kt, gt 183 e' 17 = .pointer (some ⟨kt, 0, none⟩) ∧ Fr H' H'' ∧ H'.size ≤ kb ∧ kb < H''.size ∧ H'.size ≤ kt ∧ kt < H''.size ∧ kb ≠ kt ∧ H''.get kb = .rw (flat l) 45 true [] ∧ H''.get kt = .rw [.int .i64 C, .slice (some ⟨kb, 0, none⟩) l.length (OPEN + 9)] 24 false []) ?_ ?_
  · have g8 := (k1 8 (by simp)).trans I.p.g8
    have b8 := I.p.b8
    simp (disch := (first | (simp only [ne_eq,Nat.reduceEqDiff,not_false_eq_true,Nat.reduceLT]; done) | omega | (simp only [yz] <;> omega) | fail)) only [↓yp,yq0,yq1,yq2,yq3,yq4,yl,ys0,ys1,Nat.reduceAdd,Nat.reduceMul,Nat.reduceSub,Nat.reduceBEq,Nat.reduceEqDiff,Nat.reduceLT,Nat.reduceLeDiff,reduceIte,Int.reduceAdd,Int.reduceSub,Int.reduceMul,Int.reduceLT,Int.reduceLE,Int.reduceEq,Int.reduceToNat,Int.reduceNeg,zed,zee,zfr,zhw,ysu,yrg,ysv,ysw,ysx,g8,b8]
    refine c19g I.p.sl (by omega) hne (by omega) (by omega) ?_
    intro kb H3 f1 q1 q2 q3
    have sz3 := f1.size
    simp (disch := (first | (simp only [ne_eq,Nat.reduceEqDiff,not_false_eq_true,Nat.reduceLT]; done) | omega | (simp only [yz] <;> omega) | fail)) only [↓yp,yq0,yq1,yq2,yq3,yq4,yl,ys0,ys1,Nat.reduceAdd,Nat.reduceMul,Nat.reduceSub,Nat.reduceBEq,Nat.reduceEqDiff,Nat.reduceLT,Nat.reduceLeDiff,reduceIte,Int.reduceAdd,Int.reduceSub,Int.reduceMul,Int.reduceLT,Int.reduceLE,Int.reduceEq,Int.reduceToNat,Int.reduceNeg,zed,zee,zfr,zhw,ysu,yrg,ysv,ysw,ysx]
    refine ⟨by (with_reducible (repeat (first | refine Keep.put ?_ (by decide) | refine Keep.none ?_ | assumption | exact Keep.refl _ _ _))), ?_, kb, H3.size, ?_, Fr.put (Fr.allocd f1 _) (by omega) _, q1, by (first | omega | (simp only [yz] <;> omega)), by omega, by (first | omega | (simp only [yz] <;> omega)), by omega, ?_, zdc (by (first | omega | (simp only [yz] <;> omega)))⟩
    · simp (disch := (first | (simp only [ne_eq,Nat.reduceEqDiff,not_false_eq_true,Nat.reduceLT]; done) | omega | (simp only [yz] <;> omega) | fail)) only [yg,Nat.reduceAdd,Nat.reduceEqDiff,Nat.reduceLT,g16]
    · simp (disch := (first | (simp only [ne_eq,Nat.reduceEqDiff,not_false_eq_true,Nat.reduceLT]; done) | omega | (simp only [yz] <;> omega) | fail)) only [yg,Nat.reduceAdd,Nat.reduceEqDiff,Nat.reduceLT]
    · rw [zdd (by omega), zdb (by omega)]; exact q3
  clear g16 k1
  rintro e2 H2 ⟨k1, g16, kb, kt, g17, f2, q1, q2, q3, q4, q5, bb, bt⟩
  refine W_seqI (fun e' H'' => Keep 183 [8, 9, 10, 11, 12, 15, 103] e e' ∧ gt 183 e' 16 = .int .i64 (j : Nat) ∧ gt 183 e' 17 = .pointer (some ⟨kt, 0, none⟩) ∧ gt 183 e' 18 = .pointer (some ⟨kb, k * 9, none⟩) ∧ H2 = H'') ?_ ?_
  · have h15 := (k1 15 (by simp)).trans g15
    have szf := f2.size
    simp (disch := (first | (simp only [ne_eq,Nat.reduceEqDiff,not_false_eq_true,Nat.reduceLT]; done) | omega | (simp only [yz] <;> omega) | fail)) only [↓yp,yq0,yq1,yq2,yq3,yq4,yl,ys0,ys1,Nat.reduceAdd,Nat.reduceMul,Nat.reduceSub,Nat.reduceBEq,Nat.reduceEqDiff,Nat.reduceLT,Nat.reduceLeDiff,reduceIte,Int.reduceAdd,Int.reduceSub,Int.reduceMul,Int.reduceLT,Int.reduceLE,Int.reduceEq,Int.reduceToNat,Int.reduceNeg,zed,zee,zfr,zhw,ysu,yrg,ysv,ysw,ysx,g17,bt,h15,A_indexSlice zio]
    refine ⟨by (with_reducible (repeat (first | refine Keep.put ?_ (by decide) | refine Keep.none ?_ | assumption | exact Keep.refl _ _ _))), ?_, ?_, ?_, rfl⟩
    · simp (disch := (first | (simp only [ne_eq,Nat.reduceEqDiff,not_false_eq_true,Nat.reduceLT]; done) | omega | (simp only [yz] <;> omega) | fail)) only [yg,Nat.reduceAdd,Nat.reduceEqDiff,Nat.reduceLT,g16]
    · simp (disch := (first | (simp only [ne_eq,Nat.reduceEqDiff,not_false_eq_true,Nat.reduceLT]; done) | omega | (simp only [yz] <;> omega) | fail)) only [yg,Nat.reduceAdd,Nat.reduceEqDiff,Nat.reduceLT,g17]
    · simp (disch := (first | (simp only [ne_eq,Nat.reduceEqDiff,not_false_eq_true,Nat.reduceLT]; done) | omega | (simp only [yz] <;> omega) | fail)) only [yg,Nat.reduceAdd,Nat.reduceEqDiff,Nat.reduceLT]
  clear g16 k1 g17
  rintro e3 _ ⟨k1, g16, g17, g18, rfl⟩
  have szf := f2.size
  have ok := OkS_iff.1 (X.ho t (List.mem_of_getElem? hk))
  obtain ⟨o1, o2, o3, o4, o5, o6, o7, o8, o9⟩ := ok
  refine W_seqI (fun e' H'' => ∃ l' : List Str, Keep 183 [8, 9, 10, 11, 12, 15, 103] e e' ∧ gt 183 e' 17 = .pointer (some ⟨kt, 0, none⟩) ∧ Fr H' H'' ∧ kt < H''.size ∧ l'.length ≤ 16 ∧ (∀ s ∈ l', OkS C s) ∧ (∀ (i : Nat) s, l'[i]? = some s → ∃ (j : Nat) (t : Str), l[j]? = some t ∧ WorseS t s) ∧ H''.get kt = .rw [.int .i64 C, .slice (some ⟨kb, 0, none⟩) l'.length (OPEN + 9)] 24 false [] ∧ Sl H'' (some ⟨kb, 0, none⟩) l') ?_ ?_
  · have setl : ∀ (i : Nat), (l.set k (wrs t i)).length = l.length := fun i => List.length_set
    have fin : ∀ (i : Nat) (e' : VT), Keep 183 [8, 9, 10, 11, 12, 15, 103] e e' → gt 183 e' 17 = .pointer (some ⟨kt, 0, none⟩) → ∃ l' : List Str, Keep 183 [8, 9, 10, 11, 12, 15, 103] e e' ∧ gt 183 e' 17 = .pointer (some ⟨kt, 0, none⟩) ∧ Fr H' (H2.put kb (.rw (flat (l.set k (wrs t i))) 45 true [])) ∧ kt < (H2.put kb (.rw (flat (l.set k (wrs t i))) 45 true [])).size ∧ l'.length ≤ 16 ∧ (∀ s ∈ l', OkS C s) ∧ (∀ (i : Nat) s, l'[i]? = some s → ∃ (j : Nat) (t : Str), l[j]? = some t ∧ WorseS t s) ∧ (H2.put kb (.rw (flat (l.set k (wrs t i))) 45 true [])).get kt = .rw [.int .i64 C, .slice (some ⟨kb, 0, none⟩) l'.length (OPEN + 9)] 24 false [] ∧ Sl (H2.put kb (.rw (flat (l.set k (wrs t i))) 45 true [])) (some ⟨kb, 0, none⟩) l' := fun i e' h1 h2 =>
      ⟨l.set k (wrs t i), h1, h2, Fr.put f2 q1 _, by (first | omega | (simp only [yz] <;> omega)), by rw [setl]; exact hl, ok_set X.ho (wrs_ok (X.ho t (List.mem_of_getElem? hk))).1, worse_set hk (wrs_ok (X.ho t (List.mem_of_getElem? hk))).2, by rw [zdd (by omega), setl]; exact bt,
        sl_cut (by (first | omega | (simp only [yz] <;> omega))) (by rw [zdc q2]; rfl) (by rw [List.take_of_length_le (by rw [flat_length]; omega)])⟩
    match j, hj with
    | 0, _ =>
      have g16 : gt 183 e3 16 = .int .i64 0 := g16
      have h15 := (k1 15 (by simp)).trans g15
      have hw : w64 ((k : Int) + 1) = ((k + 1 : Nat) : Int) := by rw [w64_of (by omega)]; omega
      simp (disch := (first | (simp only [ne_eq,Nat.reduceEqDiff,not_false_eq_true,Nat.reduceLT]; done) | omega | (simp only [yz] <;> omega) | fail)) only [↓yp,yq0,yq1,yq2,yq3,yq4,yl,ys0,ys1,Nat.reduceAdd,Nat.reduceMul,Nat.reduceSub,Nat.reduceBEq,Nat.reduceEqDiff,Nat.reduceLT,Nat.reduceLeDiff,reduceIte,Int.reduceAdd,Int.reduceSub,Int.reduceMul,Int.reduceLT,Int.reduceLE,Int.reduceEq,Int.reduceToNat,Int.reduceNeg,zed,zee,zfr,zhw,ysu,yrg,ysv,ysw,ysx,g16,g17,g18,bt,h15,hw]
      refine c61 bb q2 (by omega) hlt (by omega) (by omega) ?_
      intro c H4 hc1 hc2 hx hs hbk
      have b4 : H4.get kt = .rw [.int .i64 C, .slice (some ⟨kb, 0, none⟩) l.length (OPEN + 9)] 24 false [] := by rw [hx.same _ q4 (by omega)]; exact bt
      simp (disch := (first | (simp only [ne_eq,Nat.reduceEqDiff,not_false_eq_true,Nat.reduceLT]; done) | omega | (simp only [yz] <;> omega) | fail)) only [↓yp,yq0,yq1,yq2,yq3,yq4,yl,ys0,ys1,Nat.reduceAdd,Nat.reduceMul,Nat.reduceSub,Nat.reduceBEq,Nat.reduceEqDiff,Nat.reduceLT,Nat.reduceLeDiff,reduceIte,Int.reduceAdd,Int.reduceSub,Int.reduceMul,Int.reduceLT,Int.reduceLE,Int.reduceEq,Int.reduceToNat,Int.reduceNeg,zed,zee,zfr,zhw,ysu,yrg,ysv,ysw,ysx,g17,b4]
      have hel : (l.eraseIdx k).length = l.length - 1 := List.length_eraseIdx_of_lt hlt
      refine ⟨l.eraseIdx k, by (with_reducible (repeat (first | refine Keep.put ?_ (by decide) | refine Keep.none ?_ | assumption | exact Keep.refl _ _ _))), ?_, Fr.put (hx.above f2 q1) q3 _, by (first | omega | (simp only [yz] <;> omega)), by omega, ok_erase X.ho, worse_erase, by rw [zdc (by (first | omega | (simp only [yz] <;> omega))), hel], sl_cut (by (first | omega | (simp only [yz] <;> omega))) (by rw [zdd (by omega), hbk]; rfl) (by rw [hel]; exact hc2)⟩
      simp (disch := (first | (simp only [ne_eq,Nat.reduceEqDiff,not_false_eq_true,Nat.reduceLT]; done) | omega | (simp only [yz] <;> omega) | fail)) only [yg,Nat.reduceAdd,Nat.reduceEqDiff,Nat.reduceLT,g17]
    | 1, _ =>
      have g16 : gt 183 e3 16 = .int .i64 1 := g16
      have hat : (flat l)[k * 9 + 4]? = some (.int .i64 t.wi) := flat_at hk (by omega)
      have hw : w64 (t.wi - 2) = t.wi - 2 := w64_of (by omega)
      have e1 : ∀ (H : AHeap) (Q : Nat → AHeap → Prop), wrB (.rw (flat l) 45 true []) H kb (k * 9 + 4) [.int .i64 (if t.wi - 2 > 1 then t.wi - 2 else 1)] Q = Q kb (H.put kb (.rw (flat (l.set k (wrs t 1))) 45 true [])) := fun H Q => wrB_flat (j := 4) (wrs t 1) hk (by simp) rfl rfl
      simp (disch := (first | (simp only [ne_eq,Nat.reduceEqDiff,not_false_eq_true,Nat.reduceLT]; done) | omega | (simp only [yz] <;> omega) | fail)) only [↓yp,yq0,yq1,yq2,yq3,yq4,yl,ys0,ys1,Nat.reduceAdd,Nat.reduceMul,Nat.reduceSub,Nat.reduceBEq,Nat.reduceEqDiff,Nat.reduceLT,Nat.reduceLeDiff,reduceIte,Int.reduceAdd,Int.reduceSub,Int.reduceMul,Int.reduceLT,Int.reduceLE,Int.reduceEq,Int.reduceToNat,Int.reduceNeg,zed,zee,zfr,zhw,ysu,yrg,ysv,ysw,ysx,g16,g17,g18,A_nilCheck,nilQ_ptr,bb,hat,A_max,mm_max,hw,e1]
      exact fin 1 _ (by (with_reducible (repeat (first | refine Keep.put ?_ (by decide) | refine Keep.none ?_ | assumption | exact Keep.refl _ _ _)))) (by simp (disch := (first | (simp only [ne_eq,Nat.reduceEqDiff,not_false_eq_true,Nat.reduceLT]; done) | omega | (simp only [yz] <;> omega) | fail)) only [yg,Nat.reduceAdd,Nat.reduceEqDiff,Nat.reduceLT,g17])
    | 2, _ =>
      have g16 : gt 183 e3 16 = .int .i64 2 := g16
      have hat : (flat l)[k * 9 + 5]? = some (.int .i64 t.be) := flat_at hk (by omega)
      have hw : w64 (t.be - 3) = t.be - 3 := w64_of (by omega)
      have e1 : ∀ (H : AHeap) (Q : Nat → AHeap → Prop), wrB (.rw (flat l) 45 true []) H kb (k * 9 + 5) [.int .i64 (if t.be - 3 > 0 then t.be - 3 else 0)] Q = Q kb (H.put kb (.rw (flat (l.set k (wrs t 2))) 45 true [])) := fun H Q => wrB_flat (j := 5) (wrs t 2) hk (by simp) rfl rfl
      simp (disch := (first | (simp only [ne_eq,Nat.reduceEqDiff,not_false_eq_true,Nat.reduceLT]; done) | omega | (simp only [yz] <;> omega) | fail)) only [↓yp,yq0,yq1,yq2,yq3,yq4,yl,ys0,ys1,Nat.reduceAdd,Nat.reduceMul,Nat.reduceSub,Nat.reduceBEq,Nat.reduceEqDiff,Nat.reduceLT,Nat.reduceLeDiff,reduceIte,Int.reduceAdd,Int.reduceSub,Int.reduceMul,Int.reduceLT,Int.reduceLE,Int.reduceEq,Int.reduceToNat,Int.reduceNeg,zed,zee,zfr,zhw,ysu,yrg,ysv,ysw,ysx,g16,g17,g18,A_nilCheck,nilQ_ptr,bb,hat,A_max,mm_max,hw,e1]
      exact fin 2 _ (by (with_reducible (repeat (first | refine Keep.put ?_ (by decide) | refine Keep.none ?_ | assumption | exact Keep.refl _ _ _)))) (by simp (disch := (first | (simp only [ne_eq,Nat.reduceEqDiff,not_false_eq_true,Nat.reduceLT]; done) | omega | (simp only [yz] <;> omega) | fail)) only [yg,Nat.reduceAdd,Nat.reduceEqDiff,Nat.reduceLT,g17])
    | 3, _ =>
      have g16 : gt 183 e3 16 = .int .i64 3 := g16
      have e1 : ∀ (H : AHeap) (Q : Nat → AHeap → Prop), wrB (.rw (flat l) 45 true []) H kb (k * 9 + 6) [.bool false] Q = Q kb (H.put kb (.rw (flat (l.set k (wrs t 3))) 45 true [])) := fun H Q => wrB_flat (j := 6) (wrs t 3) hk (by simp) rfl rfl
      simp (disch := (first | (simp only [ne_eq,Nat.reduceEqDiff,not_false_eq_true,Nat.reduceLT]; done) | omega | (simp only [yz] <;> omega) | fail)) only [↓yp,yq0,yq1,yq2,yq3,yq4,yl,ys0,ys1,Nat.reduceAdd,Nat.reduceMul,Nat.reduceSub,Nat.reduceBEq,Nat.reduceEqDiff,Nat.reduceLT,Nat.reduceLeDiff,reduceIte,Int.reduceAdd,Int.reduceSub,Int.reduceMul,Int.reduceLT,Int.reduceLE,Int.reduceEq,Int.reduceToNat,Int.reduceNeg,zed,zee,zfr,zhw,ysu,yrg,ysv,ysw,ysx,g16,g17,g18,A_nilCheck,nilQ_ptr,bb,e1]
      exact fin 3 _ (by (with_reducible (repeat (first | refine Keep.put ?_ (by decide) | refine Keep.none ?_ | assumption | exact Keep.refl _ _ _)))) (by simp (disch := (first | (simp only [ne_eq,Nat.reduceEqDiff,not_false_eq_true,Nat.reduceLT]; done) | omega | (simp only [yz] <;> omega) | fail)) only [yg,Nat.reduceAdd,Nat.reduceEqDiff,Nat.reduceLT,g17])
    | 4, _ =>
      have g16 : gt 183 e3 16 = .int .i64 4 := g16
      have hat1 : (flat l)[k * 9 + 7]? = some (.int .i64 t.lo) := flat_at hk (by omega)
      have hat2 : (flat l)[k * 9 + 7 + 1]? = some (.int .i64 t.hi) := flat_at (j := 8) hk (by omega)
      obtain ⟨mx, hmx⟩ : ∃ mx, (if t.hi > t.lo then t.hi else t.lo) = mx := ⟨_, rfl⟩
      have hmx2 : 0 ≤ mx ∧ mx ≤ 239 := by rw [← hmx]; split <;> omega
      have hw : w64 (t.lo - 5) = t.lo - 5 := w64_of (by omega)
      have hw2 : w64 (mx + 9) = mx + 9 := w64_of (by omega)
      have e1 : ∀ (H : AHeap) (Q : Nat → AHeap → Prop), wrB (.rw (flat l) 45 true []) H kb (k * 9 + 7) [.int .i64 (if t.lo - 5 > 0 then t.lo - 5 else 0), .int .i64 (if mx + 9 < 239 then mx + 9 else 239)] Q = Q kb (H.put kb (.rw (flat (l.set k (wrs t 4))) 45 true [])) := fun H Q => wrB_flat (j := 7) (wrs t 4) hk (by simp) (by rw [← hmx]; rfl) rfl
      simp (disch := (first | (simp only [ne_eq,Nat.reduceEqDiff,not_false_eq_true,Nat.reduceLT]; done) | omega | (simp only [yz] <;> omega) | fail)) only [↓yp,yq0,yq1,yq2,yq3,yq4,yl,ys0,ys1,Nat.reduceAdd,Nat.reduceMul,Nat.reduceSub,Nat.reduceBEq,Nat.reduceEqDiff,Nat.reduceLT,Nat.reduceLeDiff,reduceIte,Int.reduceAdd,Int.reduceSub,Int.reduceMul,Int.reduceLT,Int.reduceLE,Int.reduceEq,Int.reduceToNat,Int.reduceNeg,zed,zee,zfr,zhw,ysu,yrg,ysv,ysw,ysx,g16]
      refine W_drawR (pl := []) [24] [(5, 1), (12, 1), (17, 1)] (planB_of rfl (by decide) (by decide) rfl) (by kernel_rfl) (by kernel_rfl) (by kernel_rfl) (by (first | omega | (simp only [yz] <;> omega))) ?_
      simp (disch := (first | (simp only [ne_eq,Nat.reduceEqDiff,not_false_eq_true,Nat.reduceLT]; done) | omega | (simp only [yz] <;> omega) | fail)) only [↓yp,yq0,yq1,yq2,yq3,yq4,yl,ys0,ys1,Nat.reduceAdd,Nat.reduceMul,Nat.reduceSub,Nat.reduceBEq,Nat.reduceEqDiff,Nat.reduceLT,Nat.reduceLeDiff,reduceIte,Int.reduceAdd,Int.reduceSub,Int.reduceMul,Int.reduceLT,Int.reduceLE,Int.reduceEq,Int.reduceToNat,Int.reduceNeg,zed,zee,zfr,zhw,ysu,yrg,ysv,ysw,ysx,g16,g17,g18,A_nilCheck,nilQ_ptr,bb,hat1,hat2,A_max,mm_max,A_min,mm_min,hmx,hw,hw2,A_build zin,e1]
      exact fin 4 _ (by (with_reducible (repeat (first | refine Keep.put ?_ (by decide) | refine Keep.none ?_ | assumption | exact Keep.refl _ _ _)))) (by simp (disch := (first | (simp only [ne_eq,Nat.reduceEqDiff,not_false_eq_true,Nat.reduceLT]; done) | omega | (simp only [yz] <;> omega) | fail)) only [yg,Nat.reduceAdd,Nat.reduceEqDiff,Nat.reduceLT,g17])
  clear g16 k1 g17 g18 bt bb
  rintro e4 H4 ⟨l', k1, g17, f4, q6, h1, h2, h3, bt, sl'⟩
  refine W_mono (c9t (I.next f4 (fun p hp => k1 p (by simp at hp ⊢; omega))) X h1 h2 h3 g17 q6 bt sl') ?_
  intro x s hx
  cases x with
  | normal => exact ⟨hx.1, hx.2.1, hx.2.2.1, (hx.2.2.2.1.trans (k1 103 (by simp))).trans g103, (hx.2.2.2.2.trans (k1 15 (by simp))).trans g15⟩
  | _ => exact hx
end
end Go.Am
/- The law StreetWorse. -/
namespace Go.Am
open Go.Proofs
variable {T : Tab} {P : Program} {N L : Nat} {H : AHeap} {Q : Bool → Value → AHeap → Prop}
section
variable {a : Option Addr} {cap : Nat} {bs : List Int}
set_option maxHeartbeats 4000000 in
set_option maxRecDepth 10000 in
theorem c9 {x y : Int} (hb : Bts H a bs) (hx : 0 ≤ x ∧ x < 256) (hy : 0 ≤ y ∧ y < 256) :
    acall tabA (aexec tabA Try.prog (N + 8000)) 9 [.slice a bs.length cap, .int .u8 x, .int .u8 y] H = some (true, .bool true, H, H.size) := by
  refine call_quiet (k := 183) (rs := [.tmp 6]) rfl fn_9 rfl rfl rfl ?_ rfl
  refine W_seqI (fun e' H'' => gt 183 e' 0 = .slice a bs.length cap ∧ gt 183 e' 1 = .int .u8 x ∧ gt 183 e' 2 = .int .u8 y ∧ H = H'') ?_ ?_
  · simp (disch := (first | (simp only [ne_eq,Nat.reduceEqDiff,not_false_eq_true,Nat.reduceLT]; done) | omega | (simp only [yz] <;> omega) | fail)) only [↓yp,yq0,yq1,yq2,yq3,yq4,yl,ys0,ys1,Nat.reduceAdd,Nat.reduceMul,Nat.reduceSub,Nat.reduceBEq,Nat.reduceEqDiff,Nat.reduceLT,Nat.reduceLeDiff,reduceIte,Int.reduceAdd,Int.reduceSub,Int.reduceMul,Int.reduceLT,Int.reduceLE,Int.reduceEq,Int.reduceToNat,Int.reduceNeg,zed,zee,zfr,zhw,ysu,yrg,ysv,ysw,ysx]
    refine ⟨?_, ?_, ?_, rfl⟩
    · simp (disch := (first | (simp only [ne_eq,Nat.reduceEqDiff,not_false_eq_true,Nat.reduceLT]; done) | omega | (simp only [yz] <;> omega) | fail)) only [yg,Nat.reduceAdd,Nat.reduceEqDiff,Nat.reduceLT]
    · simp (disch := (first | (simp only [ne_eq,Nat.reduceEqDiff,not_false_eq_true,Nat.reduceLT]; done) | omega | (simp only [yz] <;> omega) | fail)) only [yg,Nat.reduceAdd,Nat.reduceEqDiff,Nat.reduceLT]
    · simp (disch := (first | (simp only [ne_eq,Nat.reduceEqDiff,not_false_eq_true,Nat.reduceLT]; done) | omega | (simp only [yz] <;> omega) | fail)) only [yg,Nat.reduceAdd,Nat.reduceEqDiff,Nat.reduceLT]
  rintro e1 H1 ⟨g0, g1, g2, rfl⟩
  refine W_seqI (fun e' H'' => gt 183 e' 1 = .int .u8 x ∧ gt 183 e' 2 = .int .u8 y ∧ gt 183 e' 7 = .pointer (some ⟨H.size, 0, none⟩) ∧ Fr H H'' ∧ H''.size = H.size + 1 ∧ Chu H'' H.size a bs cap) ?_ ?_
  · simp (disch := (first | (simp only [ne_eq,Nat.reduceEqDiff,not_false_eq_true,Nat.reduceLT]; done) | omega | (simp only [yz] <;> omega) | fail)) only [↓yp,yq0,yq1,yq2,yq3,yq4,yl,ys0,ys1,Nat.reduceAdd,Nat.reduceMul,Nat.reduceSub,Nat.reduceBEq,Nat.reduceEqDiff,Nat.reduceLT,Nat.reduceLeDiff,reduceIte,Int.reduceAdd,Int.reduceSub,Int.reduceMul,Int.reduceLT,Int.reduceLE,Int.reduceEq,Int.reduceToNat,Int.reduceNeg,zed,zee,zfr,zhw,ysu,yrg,ysv,ysw,ysx,g0]
    refine c48 hb (Nat.le_refl _) (by omega) ?_
    intro H2 fr1 hs1 hc1
    simp (disch := (first | (simp only [ne_eq,Nat.reduceEqDiff,not_false_eq_true,Nat.reduceLT]; done) | omega | (simp only [yz] <;> omega) | fail)) only [↓yp,yq0,yq1,yq2,yq3,yq4,yl,ys0,ys1,Nat.reduceAdd,Nat.reduceMul,Nat.reduceSub,Nat.reduceBEq,Nat.reduceEqDiff,Nat.reduceLT,Nat.reduceLeDiff,reduceIte,Int.reduceAdd,Int.reduceSub,Int.reduceMul,Int.reduceLT,Int.reduceLE,Int.reduceEq,Int.reduceToNat,Int.reduceNeg,zed,zee,zfr,zhw,ysu,yrg,ysv,ysw,ysx]
    refine ⟨?_, ?_, ?_, fr1, hs1, hc1⟩
    · simp (disch := (first | (simp only [ne_eq,Nat.reduceEqDiff,not_false_eq_true,Nat.reduceLT]; done) | omega | (simp only [yz] <;> omega) | fail)) only [yg,Nat.reduceAdd,Nat.reduceEqDiff,Nat.reduceLT,g1]
    · simp (disch := (first | (simp only [ne_eq,Nat.reduceEqDiff,not_false_eq_true,Nat.reduceLT]; done) | omega | (simp only [yz] <;> omega) | fail)) only [yg,Nat.reduceAdd,Nat.reduceEqDiff,Nat.reduceLT,g2]
    · simp (disch := (first | (simp only [ne_eq,Nat.reduceEqDiff,not_false_eq_true,Nat.reduceLT]; done) | omega | (simp only [yz] <;> omega) | fail)) only [yg,Nat.reduceAdd,Nat.reduceEqDiff,Nat.reduceLT]
  clear g0 g1 g2
  rintro e2 H1 ⟨g1, g2, g7, fr1, hs1, hc1⟩
  refine W_seqI (fun e' H'' => ∃ a' cap' C l i8, gt 183 e' 1 = .int .u8 x ∧ gt 183 e' 2 = .int .u8 y ∧ gt 183 e' 7 = .pointer (some ⟨H.size, 0, none⟩) ∧ gt 183 e' 8 = .pointer (some ⟨i8, 0, none⟩) ∧ (2 ≤ C ∧ C ≤ 8) ∧ (l.length : Int) ≤ 14 ∧ (∀ s ∈ l, OkS C s) ∧ (a' = none → cap' = 0) ∧ Sl H'' a' l ∧ H''.get i8 = .rw [.int .i64 C, .slice a' l.length cap'] 24 false [] ∧ H.size < i8 ∧ i8 < H''.size ∧ Fr H H'' ∧ Chu H'' H.size a bs cap) ?_ ?_
  · simp (disch := (first | (simp only [ne_eq,Nat.reduceEqDiff,not_false_eq_true,Nat.reduceLT]; done) | omega | (simp only [yz] <;> omega) | fail)) only [↓yp,yq0,yq1,yq2,yq3,yq4,yl,ys0,ys1,Nat.reduceAdd,Nat.reduceMul,Nat.reduceSub,Nat.reduceBEq,Nat.reduceEqDiff,Nat.reduceLT,Nat.reduceLeDiff,reduceIte,Int.reduceAdd,Int.reduceSub,Int.reduceMul,Int.reduceLT,Int.reduceLE,Int.reduceEq,Int.reduceToNat,Int.reduceNeg,zed,zee,zfr,zhw,ysu,yrg,ysv,ysw,ysx,g7]
    refine c49 hc1 (by omega) (by omega) (Nat.le_refl _) (by omega) ?_
    intro f2 a' cap' C l H2 hC1 hC2 hl ho hn hsl hc2 hx2
    have sz2 := hx2.size
    simp (disch := (first | (simp only [ne_eq,Nat.reduceEqDiff,not_false_eq_true,Nat.reduceLT]; done) | omega | (simp only [yz] <;> omega) | fail)) only [↓yp,yq0,yq1,yq2,yq3,yq4,yl,ys0,ys1,Nat.reduceAdd,Nat.reduceMul,Nat.reduceSub,Nat.reduceBEq,Nat.reduceEqDiff,Nat.reduceLT,Nat.reduceLeDiff,reduceIte,Int.reduceAdd,Int.reduceSub,Int.reduceMul,Int.reduceLT,Int.reduceLE,Int.reduceEq,Int.reduceToNat,Int.reduceNeg,zed,zee,zfr,zhw,ysu,yrg,ysv,ysw,ysx]
    refine ⟨a', cap', C, l, H2.size, ?_, ?_, ?_, ?_, by omega, by omega, ho, hn, Sl.put (hsl.fr (Fr.alloc _ _)) (c := [.int .i64 0, .slice none 0 0]) (by rw [zda rfl]; rfl) (by simp), zdc (by (first | omega | (simp only [yz] <;> omega))), by omega, by (first | omega | (simp only [yz] <;> omega)), Fr.put (Fr.allocd (hx2.above fr1 (Nat.le_refl _)) _) (by omega) _, (hc2.fr (Fr.alloc _ _)).other (by omega) (fun c e => by rw [zda rfl] at e; cases e)⟩
    · simp (disch := (first | (simp only [ne_eq,Nat.reduceEqDiff,not_false_eq_true,Nat.reduceLT]; done) | omega | (simp only [yz] <;> omega) | fail)) only [yg,Nat.reduceAdd,Nat.reduceEqDiff,Nat.reduceLT,g1]
    · simp (disch := (first | (simp only [ne_eq,Nat.reduceEqDiff,not_false_eq_true,Nat.reduceLT]; done) | omega | (simp only [yz] <;> omega) | fail)) only [yg,Nat.reduceAdd,Nat.reduceEqDiff,Nat.reduceLT,g2]
    · simp (disch := (first | (simp only [ne_eq,Nat.reduceEqDiff,not_false_eq_true,Nat.reduceLT]; done) | omega | (simp only [yz] <;> omega) | fail)) only [yg,Nat.reduceAdd,Nat.reduceEqDiff,Nat.reduceLT,g7]
    · simp (disch := (first | (simp only [ne_eq,Nat.reduceEqDiff,not_false_eq_true,Nat.reduceLT]; done) | omega | (simp only [yz] <;> omega) | fail)) only [yg,Nat.reduceAdd,Nat.reduceEqDiff,Nat.reduceLT]
  clear g1 g2 g7 fr1 hs1 hc1
  rintro e3 H2 ⟨a', cap', C, l, i8, g1, g2, g7, g8, hC28, hl, ho, hn, hsl, b8, k8, l8, fr2, hc2⟩
  refine W_seqI (fun e' H'' => ∃ w ld i9, LP 183 H C w ld l i8 i9 a' cap' e' H'' ∧ gt 183 e' 1 = .int .u8 x ∧ gt 183 e' 2 = .int .u8 y ∧ gt 183 e' 7 = .pointer (some ⟨H.size, 0, none⟩) ∧ (1 ≤ w ∧ w ≤ 5) ∧ (0 ≤ ld ∧ ld ≤ 5) ∧ H.size < i9 ∧ Chu H'' H.size a bs cap) ?_ ?_
  · have sz2 := fr2.size
    simp (disch := (first | (simp only [ne_eq,Nat.reduceEqDiff,not_false_eq_true,Nat.reduceLT]; done) | omega | (simp only [yz] <;> omega) | fail)) only [↓yp,yq0,yq1,yq2,yq3,yq4,yl,ys0,ys1,Nat.reduceAdd,Nat.reduceMul,Nat.reduceSub,Nat.reduceBEq,Nat.reduceEqDiff,Nat.reduceLT,Nat.reduceLeDiff,reduceIte,Int.reduceAdd,Int.reduceSub,Int.reduceMul,Int.reduceLT,Int.reduceLE,Int.reduceEq,Int.reduceToNat,Int.reduceNeg,zed,zee,zfr,zhw,ysu,yrg,ysv,ysw,ysx,g7]
    refine c50 hc2 (Nat.le_refl _) (by omega) ?_
    intro f3 w ld H3 hw1 hw2 hd1 hd2 hc3 hx3
    have sz3 := hx3.size
    simp (disch := (first | (simp only [ne_eq,Nat.reduceEqDiff,not_false_eq_true,Nat.reduceLT]; done) | omega | (simp only [yz] <;> omega) | fail)) only [↓yp,yq0,yq1,yq2,yq3,yq4,yl,ys0,ys1,Nat.reduceAdd,Nat.reduceMul,Nat.reduceSub,Nat.reduceBEq,Nat.reduceEqDiff,Nat.reduceLT,Nat.reduceLeDiff,reduceIte,Int.reduceAdd,Int.reduceSub,Int.reduceMul,Int.reduceLT,Int.reduceLE,Int.reduceEq,Int.reduceToNat,Int.reduceNeg,zed,zee,zfr,zhw,ysu,yrg,ysv,ysw,ysx]
    refine ⟨w, ld, H3.size, ⟨?_, ?_, Fr.put (Fr.allocd (hx3.above fr2 (Nat.le_refl _)) _) (by omega) _, by (first | omega | (simp only [yz] <;> omega)), by (first | omega | (simp only [yz] <;> omega)), ?_, zdc (by (first | omega | (simp only [yz] <;> omega))), Sl.put ((hsl.frx hc2 hx3).fr (Fr.alloc _ _)) (c := [.int .i64 0, .int .i64 0]) (by rw [zda rfl]; rfl) (by simp)⟩, ?_, ?_, ?_, by omega, by omega, by omega, (hc3.fr (Fr.alloc _ _)).other (by omega) (fun c e => by rw [zda rfl] at e; cases e)⟩
    · simp (disch := (first | (simp only [ne_eq,Nat.reduceEqDiff,not_false_eq_true,Nat.reduceLT]; done) | omega | (simp only [yz] <;> omega) | fail)) only [yg,Nat.reduceAdd,Nat.reduceEqDiff,Nat.reduceLT,g8]
    · simp (disch := (first | (simp only [ne_eq,Nat.reduceEqDiff,not_false_eq_true,Nat.reduceLT]; done) | omega | (simp only [yz] <;> omega) | fail)) only [yg,Nat.reduceAdd,Nat.reduceEqDiff,Nat.reduceLT]
    · rw [zdd (by omega), zdb (by omega), hx3.same _ l8 (by omega)]; exact b8
    · simp (disch := (first | (simp only [ne_eq,Nat.reduceEqDiff,not_false_eq_true,Nat.reduceLT]; done) | omega | (simp only [yz] <;> omega) | fail)) only [yg,Nat.reduceAdd,Nat.reduceEqDiff,Nat.reduceLT,g1]
    · simp (disch := (first | (simp only [ne_eq,Nat.reduceEqDiff,not_false_eq_true,Nat.reduceLT]; done) | omega | (simp only [yz] <;> omega) | fail)) only [yg,Nat.reduceAdd,Nat.reduceEqDiff,Nat.reduceLT,g2]
    · simp (disch := (first | (simp only [ne_eq,Nat.reduceEqDiff,not_false_eq_true,Nat.reduceLT]; done) | omega | (simp only [yz] <;> omega) | fail)) only [yg,Nat.reduceAdd,Nat.reduceEqDiff,Nat.reduceLT,g7]
  have hk8 : H.size < i8 := k8
  clear g1 g2 g7 g8 hsl b8 l8 fr2 hc2 k8
  rintro e H' ⟨w, ld, i9, I, g1, g2, g7, ⟨hw1, hw2⟩, ⟨hd1, hd2⟩, hk9, hc⟩
  have hC : 1 ≤ C ∧ C ≤ 8 := by omega
  have sz := I.fr.size
  have hlt := hc.lt
  refine W_seqI (fun e' H'' => ∃ fr m, LP 183 H C w ld l i8 i9 a' cap' e' H'' ∧ gt 183 e' 1 = .int .u8 x ∧ gt 183 e' 2 = .int .u8 y ∧ (0 ≤ fr ∧ fr < C) ∧ (0 ≤ m ∧ m ≤ 59) ∧ gt 183 e' 10 = .int .i64 fr ∧ gt 183 e' 11 = .int .i64 m) ?_ ?_
  · have g8 := I.g8
    have b8 := I.b8
    simp (disch := (first | (simp only [ne_eq,Nat.reduceEqDiff,not_false_eq_true,Nat.reduceLT]; done) | omega | (simp only [yz] <;> omega) | fail)) only [↓yp,yq0,yq1,yq2,yq3,yq4,yl,ys0,ys1,Nat.reduceAdd,Nat.reduceMul,Nat.reduceSub,Nat.reduceBEq,Nat.reduceEqDiff,Nat.reduceLT,Nat.reduceLeDiff,reduceIte,Int.reduceAdd,Int.reduceSub,Int.reduceMul,Int.reduceLT,Int.reduceLE,Int.reduceEq,Int.reduceToNat,Int.reduceNeg,zed,zee,zfr,zhw,ysu,yrg,ysv,ysw,ysx,g7,g8,b8]
    refine c51 hc (Nat.le_refl _) (by omega) (by omega) ?_
    rintro f1 fr H1 - ⟨p1, p2⟩ hc1 hx1 hs1
    simp (disch := (first | (simp only [ne_eq,Nat.reduceEqDiff,not_false_eq_true,Nat.reduceLT]; done) | omega | (simp only [yz] <;> omega) | fail)) only [↓yp,yq0,yq1,yq2,yq3,yq4,yl,ys0,ys1,Nat.reduceAdd,Nat.reduceMul,Nat.reduceSub,Nat.reduceBEq,Nat.reduceEqDiff,Nat.reduceLT,Nat.reduceLeDiff,reduceIte,Int.reduceAdd,Int.reduceSub,Int.reduceMul,Int.reduceLT,Int.reduceLE,Int.reduceEq,Int.reduceToNat,Int.reduceNeg,zed,zee,zfr,zhw,ysu,yrg,ysv,ysw,ysx,g7]
    refine c51 hc1 (Nat.le_refl _) (by omega) (by omega) ?_
    rintro f2 m H2 - ⟨p3, p4⟩ hc2 hx2 hs2
    simp (disch := (first | (simp only [ne_eq,Nat.reduceEqDiff,not_false_eq_true,Nat.reduceLT]; done) | omega | (simp only [yz] <;> omega) | fail)) only [↓yp,yq0,yq1,yq2,yq3,yq4,yl,ys0,ys1,Nat.reduceAdd,Nat.reduceMul,Nat.reduceSub,Nat.reduceBEq,Nat.reduceEqDiff,Nat.reduceLT,Nat.reduceLeDiff,reduceIte,Int.reduceAdd,Int.reduceSub,Int.reduceMul,Int.reduceLT,Int.reduceLE,Int.reduceEq,Int.reduceToNat,Int.reduceNeg,zed,zee,zfr,zhw,ysu,yrg,ysv,ysw,ysx]
    refine ⟨fr, m, I.frx (by omega) (by omega) (Nat.le_refl _) hc (hx1.trans hx2) (by (with_reducible (repeat (first | refine Keep.put ?_ (by decide) | refine Keep.none ?_ | assumption | exact Keep.refl _ _ _)))), ?_, ?_, by omega, by omega, ?_, ?_⟩
    · simp (disch := (first | (simp only [ne_eq,Nat.reduceEqDiff,not_false_eq_true,Nat.reduceLT]; done) | omega | (simp only [yz] <;> omega) | fail)) only [yg,Nat.reduceAdd,Nat.reduceEqDiff,Nat.reduceLT,g1]
    · simp (disch := (first | (simp only [ne_eq,Nat.reduceEqDiff,not_false_eq_true,Nat.reduceLT]; done) | omega | (simp only [yz] <;> omega) | fail)) only [yg,Nat.reduceAdd,Nat.reduceEqDiff,Nat.reduceLT,g2]
    · simp (disch := (first | (simp only [ne_eq,Nat.reduceEqDiff,not_false_eq_true,Nat.reduceLT]; done) | omega | (simp only [yz] <;> omega) | fail)) only [yg,Nat.reduceAdd,Nat.reduceEqDiff,Nat.reduceLT]
    · simp (disch := (first | (simp only [ne_eq,Nat.reduceEqDiff,not_false_eq_true,Nat.reduceLT]; done) | omega | (simp only [yz] <;> omega) | fail)) only [yg,Nat.reduceAdd,Nat.reduceEqDiff,Nat.reduceLT]
  clear sz hlt I g1 g2 g7 hc
  rintro e H' ⟨fr, m, I, g1, g2, hfr, hm, g10, g11⟩
  have X : WX C w ld l fr m := ⟨hC28, by omega, ho, by omega, by omega, hfr, hm⟩
  have hl16 : l.length ≤ 16 := by omega
  refine W_seqI (fun e' H'' => ∃ k12 c12, WS H C w ld l i8 i9 a' cap' fr m k12 c12 e' H'' ∧ gt 183 e' 1 = .int .u8 x ∧ gt 183 e' 2 = .int .u8 y) ?_ ?_
  · have sz := I.fr.size
    have g8 := I.g8
    have g9 := I.g9
    have b8 := I.b8
    have b9 := I.b9
    simp (disch := (first | (simp only [ne_eq,Nat.reduceEqDiff,not_false_eq_true,Nat.reduceLT]; done) | omega | (simp only [yz] <;> omega) | fail)) only [↓yp,yq0,yq1,yq2,yq3,yq4,yl,ys0,ys1,Nat.reduceAdd,Nat.reduceMul,Nat.reduceSub,Nat.reduceBEq,Nat.reduceEqDiff,Nat.reduceLT,Nat.reduceLeDiff,reduceIte,Int.reduceAdd,Int.reduceSub,Int.reduceMul,Int.reduceLT,Int.reduceLE,Int.reduceEq,Int.reduceToNat,Int.reduceNeg,zed,zee,zfr,zhw,ysu,yrg,ysv,ysw,ysx,g8,g9,b8,b9,g10,g11]
    refine c52 I.sl (by omega) (asked_zero (cs := [fr]) (ms := [m]) hC hl16 ho (by omega) (by omega) (by simp; omega) (by simp; omega)) (by omega) (by omega) ?_
    intro k cap'' H3 fr3 hk1 hk2 hk3
    simp (disch := (first | (simp only [ne_eq,Nat.reduceEqDiff,not_false_eq_true,Nat.reduceLT]; done) | omega | (simp only [yz] <;> omega) | fail)) only [↓yp,yq0,yq1,yq2,yq3,yq4,yl,ys0,ys1,Nat.reduceAdd,Nat.reduceMul,Nat.reduceSub,Nat.reduceBEq,Nat.reduceEqDiff,Nat.reduceLT,Nat.reduceLeDiff,reduceIte,Int.reduceAdd,Int.reduceSub,Int.reduceMul,Int.reduceLT,Int.reduceLE,Int.reduceEq,Int.reduceToNat,Int.reduceNeg,zed,zee,zfr,zhw,ysu,yrg,ysv,ysw,ysx]
    refine ⟨k, cap'', ⟨I.next fr3 (by (with_reducible (repeat (first | refine Keep.put ?_ (by decide) | refine Keep.none ?_ | assumption | exact Keep.refl _ _ _)))), ?_, ?_, ?_, hk2, hk3⟩, ?_, ?_⟩
    · simp (disch := (first | (simp only [ne_eq,Nat.reduceEqDiff,not_false_eq_true,Nat.reduceLT]; done) | omega | (simp only [yz] <;> omega) | fail)) only [yg,Nat.reduceAdd,Nat.reduceEqDiff,Nat.reduceLT,g10]
    · simp (disch := (first | (simp only [ne_eq,Nat.reduceEqDiff,not_false_eq_true,Nat.reduceLT]; done) | omega | (simp only [yz] <;> omega) | fail)) only [yg,Nat.reduceAdd,Nat.reduceEqDiff,Nat.reduceLT,g11]
    · simp (disch := (first | (simp only [ne_eq,Nat.reduceEqDiff,not_false_eq_true,Nat.reduceLT]; done) | omega | (simp only [yz] <;> omega) | fail)) only [yg,Nat.reduceAdd,Nat.reduceEqDiff,Nat.reduceLT]
    · simp (disch := (first | (simp only [ne_eq,Nat.reduceEqDiff,not_false_eq_true,Nat.reduceLT]; done) | omega | (simp only [yz] <;> omega) | fail)) only [yg,Nat.reduceAdd,Nat.reduceEqDiff,Nat.reduceLT,g1]
    · simp (disch := (first | (simp only [ne_eq,Nat.reduceEqDiff,not_false_eq_true,Nat.reduceLT]; done) | omega | (simp only [yz] <;> omega) | fail)) only [yg,Nat.reduceAdd,Nat.reduceEqDiff,Nat.reduceLT,g2]
  clear I g1 g2 g10 g11
  rintro e H' ⟨k12, c12, I, g1, g2⟩
  -- two carts
  refine W_seqI (fun e' H'' => Keep 183 [1, 2, 8, 9, 10, 11, 12] e e' ∧ gt 183 e' 13 = .pointer (some ⟨H'.size, 0, none⟩) ∧ gt 183 e' 14 = .pointer (some ⟨H'.size + 1, 0, none⟩) ∧ Fr H' H'' ∧ H''.size = H'.size + 2 ∧ H''.get H'.size = .rw [.int .i64 w, .int .i64 ld] 26 false [] ∧ H''.get (H'.size + 1) = .rw [.int .i64 w, .int .i64 ld] 26 false []) ?_ ?_
  · have sz := I.p.fr.size
    have g9 := I.p.g9
    have b9 := I.p.b9
    have l9 := I.p.l9
    refine W_drawR (pl := [(2, .rw [intZ, intZ] 26 false []), (3, .rw [intZ, intZ] 26 false [])]) [4, 5] [(2, 1), (2, 2), (3, 2)] (planB_of rfl (by decide) (by decide) rfl) (by kernel_rfl) (by kernel_rfl) (by kernel_rfl) (by (first | omega | (simp only [yz] <;> omega))) ?_
    simp (disch := (first | (simp only [ne_eq,Nat.reduceEqDiff,not_false_eq_true,Nat.reduceLT]; done) | omega | (simp only [yz] <;> omega) | fail)) only [↓yp,yq0,yq1,yq2,yq3,yq4,yl,ys0,ys1,Nat.reduceAdd,Nat.reduceMul,Nat.reduceSub,Nat.reduceBEq,Nat.reduceEqDiff,Nat.reduceLT,Nat.reduceLeDiff,reduceIte,Int.reduceAdd,Int.reduceSub,Int.reduceMul,Int.reduceLT,Int.reduceLE,Int.reduceEq,Int.reduceToNat,Int.reduceNeg,zed,zee,zfr,zhw,ysu,yrg,ysv,ysw,ysx,g9,b9,intZ]
    refine ⟨by (with_reducible (repeat (first | refine Keep.put ?_ (by decide) | refine Keep.none ?_ | assumption | exact Keep.refl _ _ _))), ?_, ?_, by (repeat (first | exact Fr.refl _ | assumption | refine Fr.allocd ?_ _ | refine Fr.kill ?_ (by first | assumption | omega) | refine Fr.put ?_ (by first | omega | (simp only [yz] <;> omega)) _)), by (first | omega | (simp only [yz] <;> omega)), ?_, ?_⟩
    · simp (disch := (first | (simp only [ne_eq,Nat.reduceEqDiff,not_false_eq_true,Nat.reduceLT]; done) | omega | (simp only [yz] <;> omega) | fail)) only [yg,Nat.reduceAdd,Nat.reduceEqDiff,Nat.reduceLT]
    · simp (disch := (first | (simp only [ne_eq,Nat.reduceEqDiff,not_false_eq_true,Nat.reduceLT]; done) | omega | (simp only [yz] <;> omega) | fail)) only [yg,Nat.reduceAdd,Nat.reduceEqDiff,Nat.reduceLT]
    · simp (disch := (first | (simp only [ne_eq,Nat.reduceEqDiff,not_false_eq_true,Nat.reduceLT]; done) | omega | (simp only [yz] <;> omega) | fail)) only [yg,Nat.reduceAdd,Nat.reduceEqDiff,Nat.reduceLT]
    · simp (disch := (first | (simp only [ne_eq,Nat.reduceEqDiff,not_false_eq_true,Nat.reduceLT]; done) | omega | (simp only [yz] <;> omega) | fail)) only [yg,Nat.reduceAdd,Nat.reduceEqDiff,Nat.reduceLT]
  rintro e6 H6 ⟨k6, g13, g14, f6, hs, b13, b14⟩
  obtain ⟨ld', hld⟩ : ∃ ld', (if ld + 1 + y.tmod 4 < 9 then ld + 1 + y.tmod 4 else 9) = ld' := ⟨_, rfl⟩
  obtain ⟨w', hw'⟩ : ∃ w', (if w + 1 + y.tmod 3 < 9 then w + 1 + y.tmod 3 else 9) = w' := ⟨_, rfl⟩
  have hy4 : 0 ≤ y.tmod 4 ∧ y.tmod 4 < 4 := ⟨Int.tmod_nonneg _ hy.1, Int.tmod_lt_of_pos _ (by omega)⟩
  have hy3 : 0 ≤ y.tmod 3 ∧ y.tmod 3 < 3 := ⟨Int.tmod_nonneg _ hy.1, Int.tmod_lt_of_pos _ (by omega)⟩
  have hy90 : 0 ≤ y.tmod 90 ∧ y.tmod 90 < 90 := ⟨Int.tmod_nonneg _ hy.1, Int.tmod_lt_of_pos _ (by omega)⟩
  have hld2 : ld ≤ ld' ∧ ld' ≤ 9 := by rw [← hld]; split <;> omega
  have hw2 : w ≤ w' ∧ w' ≤ 9 := by rw [← hw']; split <;> omega
  have wy : w64 y = y := w64_of (by omega)
  refine W_seqI (fun e' H'' => ∃ i13, WS H C w ld l i8 i9 a' cap' fr m k12 c12 e' H'' ∧ gt 183 e' 1 = .int .u8 x ∧ gt 183 e' 2 = .int .u8 y ∧ gt 183 e' 13 = .pointer (some ⟨i13, 0, none⟩) ∧ gt 183 e' 14 = .pointer (some ⟨i13 + 1, 0, none⟩) ∧ H''.size = i13 + 2 ∧ H''.get i13 = .rw [.int .i64 w, .int .i64 ld'] 26 false [] ∧ H''.get (i13 + 1) = .rw [.int .i64 w', .int .i64 ld] 26 false []) ?_ ?_
  · have sz := I.p.fr.size
    have l9 := I.p.l9
    have g9 := (k6 9 (by simp)).trans I.p.g9
    have g2' := (k6 2 (by simp)).trans g2
    have g1' := (k6 1 (by simp)).trans g1
    have b9 : H6.get i9 = .rw [.int .i64 w, .int .i64 ld] 26 false [] := (f6.same _ l9).trans I.p.b9
    have w1 : w64 (ld + 1) = ld + 1 := w64_of (by omega)
    have w2 : w64 (ld + 1 + y.tmod 4) = ld + 1 + y.tmod 4 := w64_of (by omega)
    have w3 : w64 (w + 1) = w + 1 := w64_of (by omega)
    have w4 : w64 (w + 1 + y.tmod 3) = w + 1 + y.tmod 3 := w64_of (by omega)
    have r4 := fun (p q : Operand) (z : Int) => i64_rem (T := tabA) (P := Try.prog) (ty := 3) (x := p) (y := q) (a := z) (b := 4) (by omega)
    have r3 := fun (p q : Operand) (z : Int) => i64_rem (T := tabA) (P := Try.prog) (ty := 3) (x := p) (y := q) (a := z) (b := 3) (by omega)
    refine W_draw [17, 19] rfl (by kernel_rfl) (by kernel_rfl) (by (first | omega | (simp only [yz] <;> omega))) ?_
    simp (disch := (first | (simp only [ne_eq,Nat.reduceEqDiff,not_false_eq_true,Nat.reduceLT]; done) | omega | (simp only [yz] <;> omega) | fail)) only [↓yp,yq0,yq1,yq2,yq3,yq4,yl,ys0,ys1,Nat.reduceAdd,Nat.reduceMul,Nat.reduceSub,Nat.reduceBEq,Nat.reduceEqDiff,Nat.reduceLT,Nat.reduceLeDiff,reduceIte,Int.reduceAdd,Int.reduceSub,Int.reduceMul,Int.reduceLT,Int.reduceLE,Int.reduceEq,Int.reduceToNat,Int.reduceNeg,zed,zee,zfr,zhw,ysu,yrg,ysv,ysw,ysx,g9,b9,g2',g13,g14,b13,b14,A_conv,cv_5_3,wy,w1,w2,w3,w4,r4,r3,A_min,mm_min,hld,hw']
    refine ⟨H'.size, I.next (Fr.put (Fr.put f6 (by omega) _) (by omega) _) (fun p hp => (Keep.trans k6 (show Keep 183 [1, 2, 8, 9, 10, 11, 12] e6 _ by (with_reducible (repeat (first | refine Keep.put ?_ (by decide) | refine Keep.none ?_ | assumption | exact Keep.refl _ _ _))))) p (by simp at hp ⊢; omega)), ?_, ?_, ?_, ?_, by (first | omega | (simp only [yz] <;> omega)), ?_, ?_⟩
    · simp (disch := (first | (simp only [ne_eq,Nat.reduceEqDiff,not_false_eq_true,Nat.reduceLT]; done) | omega | (simp only [yz] <;> omega) | fail)) only [yg,Nat.reduceAdd,Nat.reduceEqDiff,Nat.reduceLT,g1']
    · simp (disch := (first | (simp only [ne_eq,Nat.reduceEqDiff,not_false_eq_true,Nat.reduceLT]; done) | omega | (simp only [yz] <;> omega) | fail)) only [yg,Nat.reduceAdd,Nat.reduceEqDiff,Nat.reduceLT,g2']
    · simp (disch := (first | (simp only [ne_eq,Nat.reduceEqDiff,not_false_eq_true,Nat.reduceLT]; done) | omega | (simp only [yz] <;> omega) | fail)) only [yg,Nat.reduceAdd,Nat.reduceEqDiff,Nat.reduceLT,g13]
    · simp (disch := (first | (simp only [ne_eq,Nat.reduceEqDiff,not_false_eq_true,Nat.reduceLT]; done) | omega | (simp only [yz] <;> omega) | fail)) only [yg,Nat.reduceAdd,Nat.reduceEqDiff,Nat.reduceLT,g14]
    · simp (disch := (first | (simp only [ne_eq,Nat.reduceEqDiff,not_false_eq_true,Nat.reduceLT]; done) | omega | (simp only [yz] <;> omega) | fail)) only [yg,Nat.reduceAdd,Nat.reduceEqDiff,Nat.reduceLT]
    · simp (disch := (first | (simp only [ne_eq,Nat.reduceEqDiff,not_false_eq_true,Nat.reduceLT]; done) | omega | (simp only [yz] <;> omega) | fail)) only [yg,Nat.reduceAdd,Nat.reduceEqDiff,Nat.reduceLT]
  clear I g1 g2 k6 g13 g14 f6 hs b13 b14
  clear e6 H6 e H'
  rintro e H' ⟨i13, I, g1, g2, g13, g14, hs, b13, b14⟩
  -- later, heavier, wider
  refine W_seqI (fun e' H'' => WS H C w ld l i8 i9 a' cap' fr m k12 c12 e' H'' ∧ gt 183 e' 1 = .int .u8 x) ?_ ?_
  · have sz := I.p.fr.size
    have g8 := I.p.g8
    have g9 := I.p.g9
    have b8 := I.p.b8
    have b9 := I.p.b9
    have g10 := I.g10
    have g11 := I.g11
    have g12 := I.g12
    have w1 : w64 (m + y.tmod 90) = m + y.tmod 90 := w64_of (by omega)
    have r9 := fun (p q : Operand) (z : Int) => i64_rem (T := tabA) (P := Try.prog) (ty := 3) (x := p) (y := q) (a := z) (b := 90) (by omega)
    have gd : ∀ ld, 0 ≤ ld ∧ ld ≤ 9 → Good C l ld := fun ld h => good_of (chk_of hC hl16 ho) (off_iff.2 h)
    have h60 := fun (N : Nat) (H3 : AHeap) (fr3 : Fr H' H3) (kx cx : Nat) (t : List Int) (ht : t.length = C.toNat) (hk : kx < H3.size) (hb : H3.get kx = .rw (tv t) 3 true []) (hlt : LaterT t ((earT C l w ld fr m).take C.toNat)) => by
      have := c60 (N := N) (cap := cx) (cap' := c12) (Il.of hk (by rw [hb]; rfl)) (Il.of (Nat.lt_of_lt_of_le I.l12 fr3.size) (by rw [fr3.same _ I.l12, I.b12]; rfl)) (by rw [ht]; omega) (by rw [ht, X.len]) hlt
      rw [ht, X.len] at this
      exact this
    simp (disch := (first | (simp only [ne_eq,Nat.reduceEqDiff,not_false_eq_true,Nat.reduceLT]; done) | omega | (simp only [yz] <;> omega) | fail)) only [↓yp,yq0,yq1,yq2,yq3,yq4,yl,ys0,ys1,Nat.reduceAdd,Nat.reduceMul,Nat.reduceSub,Nat.reduceBEq,Nat.reduceEqDiff,Nat.reduceLT,Nat.reduceLeDiff,reduceIte,Int.reduceAdd,Int.reduceSub,Int.reduceMul,Int.reduceLT,Int.reduceLE,Int.reduceEq,Int.reduceToNat,Int.reduceNeg,zed,zee,zfr,zhw,ysu,yrg,ysv,ysw,ysx,g8,g9,b8,b9,g2,g10,g11,g12,A_conv,cv_5_3,wy,r9,w1,binV_nil_some zir]
    refine c52 I.p.sl (by omega) (asked_zero (cs := [fr]) (ms := [m + y.tmod 90]) hC hl16 ho (by omega) (by omega) (by simp; omega) (by simp; omega)) (by omega) (by omega) ?_
    intro ka ca HA fa ha1 ha2 ha3
    have za := fa.size
    have qa := h60 (H3 := HA) (fr3 := fa) (kx := ka) (cx := ca) (t := (earT C l w ld fr (m + y.tmod 90)).take C.toNat) (ht := take_len (gd ld (by omega)) hfr (by omega)) (hk := ha2) (hb := ha3) (hlt := later_begin hC hl16 ho (by omega) hfr (by omega) (by omega))
    have b8a := (fa.same _ I.p.l8).trans b8
    have b13a := (fa.same i13 (by omega)).trans b13
    simp (disch := (first | (simp only [ne_eq,Nat.reduceEqDiff,not_false_eq_true,Nat.reduceLT]; done) | omega | (simp only [yz] <;> omega) | fail)) only [↓yp,yq0,yq1,yq2,yq3,yq4,yl,ys0,ys1,Nat.reduceAdd,Nat.reduceMul,Nat.reduceSub,Nat.reduceBEq,Nat.reduceEqDiff,Nat.reduceLT,Nat.reduceLeDiff,reduceIte,Int.reduceAdd,Int.reduceSub,Int.reduceMul,Int.reduceLT,Int.reduceLE,Int.reduceEq,Int.reduceToNat,Int.reduceNeg,zed,zee,zfr,zhw,ysu,yrg,ysv,ysw,ysx,g8,b8a,g13,b13a,g10,g11,g12,qa]
    refine c52 (I.p.sl.fr fa) (by omega) (asked_zero (cs := [fr]) (ms := [m]) hC hl16 ho (by omega) (by omega) (by simp; omega) (by simp; omega)) (by omega) (by omega) ?_
    intro kb cb HB fb hb1 hb2 hb3
    have fab := fa.trans fb
    have zb := fab.size
    have qb := h60 (H3 := HB) (fr3 := fab) (kx := kb) (cx := cb) (t := (earT C l w ld' fr m).take C.toNat) (ht := take_len (gd ld' (by omega)) hfr (by omega)) (hk := hb2) (hb := hb3) (hlt := later_cart hC hl16 ho (Int.le_refl _) hld2.1 hd1 hld2.2 hfr (by omega))
    have b8b := (fab.same _ I.p.l8).trans b8
    have b14b := (fab.same (i13 + 1) (by omega)).trans b14
    simp (disch := (first | (simp only [ne_eq,Nat.reduceEqDiff,not_false_eq_true,Nat.reduceLT]; done) | omega | (simp only [yz] <;> omega) | fail)) only [↓yp,yq0,yq1,yq2,yq3,yq4,yl,ys0,ys1,Nat.reduceAdd,Nat.reduceMul,Nat.reduceSub,Nat.reduceBEq,Nat.reduceEqDiff,Nat.reduceLT,Nat.reduceLeDiff,reduceIte,Int.reduceAdd,Int.reduceSub,Int.reduceMul,Int.reduceLT,Int.reduceLE,Int.reduceEq,Int.reduceToNat,Int.reduceNeg,zed,zee,zfr,zhw,ysu,yrg,ysv,ysw,ysx,g8,b8b,g14,b14b,g10,g11,g12,qb]
    refine c52 (I.p.sl.fr fab) (by omega) (asked_zero (cs := [fr]) (ms := [m]) hC hl16 ho (by omega) (by omega) (by simp; omega) (by simp; omega)) (by omega) (by omega) ?_
    intro kc cc HC fc hc1 hc2 hc3
    have fabc := fab.trans fc
    have zc := fabc.size
    have qc := h60 (H3 := HC) (fr3 := fabc) (kx := kc) (cx := cc) (t := (earT C l w' ld fr m).take C.toNat) (ht := take_len (gd ld (by omega)) hfr (by omega)) (hk := hc2) (hb := hc3) (hlt := later_cart hC hl16 ho hw2.1 (Int.le_refl _) hd1 (by omega) hfr (by omega))
    simp (disch := (first | (simp only [ne_eq,Nat.reduceEqDiff,not_false_eq_true,Nat.reduceLT]; done) | omega | (simp only [yz] <;> omega) | fail)) only [↓yp,yq0,yq1,yq2,yq3,yq4,yl,ys0,ys1,Nat.reduceAdd,Nat.reduceMul,Nat.reduceSub,Nat.reduceBEq,Nat.reduceEqDiff,Nat.reduceLT,Nat.reduceLeDiff,reduceIte,Int.reduceAdd,Int.reduceSub,Int.reduceMul,Int.reduceLT,Int.reduceLE,Int.reduceEq,Int.reduceToNat,Int.reduceNeg,zed,zee,zfr,zhw,ysu,yrg,ysv,ysw,ysx,g12,qc]
    refine ⟨I.next fabc (by (with_reducible (repeat (first | refine Keep.put ?_ (by decide) | refine Keep.none ?_ | assumption | exact Keep.refl _ _ _)))), ?_⟩
    simp (disch := (first | (simp only [ne_eq,Nat.reduceEqDiff,not_false_eq_true,Nat.reduceLT]; done) | omega | (simp only [yz] <;> omega) | fail)) only [yg,Nat.reduceAdd,Nat.reduceEqDiff,Nat.reduceLT,g1]
  clear I g1 g2 g13 g14 hs b13 b14
  clear e H'
  rintro e H' ⟨I, g1⟩
  have sz := I.p.fr.size
  by_cases hne : l = []
  · have hl0 : decide ((l.length : Int) = 0) = true := by rw [hne]; rfl
    have g8 := I.p.g8
    have b8 := I.p.b8
    have l8 := I.p.l8
    simp (disch := (first | (simp only [ne_eq,Nat.reduceEqDiff,not_false_eq_true,Nat.reduceLT]; done) | omega | (simp only [yz] <;> omega) | fail)) only [↓yp,yq0,yq1,yq2,yq3,yq4,yl,ys0,ys1,Nat.reduceAdd,Nat.reduceMul,Nat.reduceSub,Nat.reduceBEq,Nat.reduceEqDiff,Nat.reduceLT,Nat.reduceLeDiff,reduceIte,Int.reduceAdd,Int.reduceSub,Int.reduceMul,Int.reduceLT,Int.reduceLE,Int.reduceEq,Int.reduceToNat,Int.reduceNeg,zed,zee,zfr,zhw,ysu,yrg,ysv,ysw,ysx,g8,b8,lenV_slice zio,hl0,awake_l]
  have hpos : 0 < l.length := List.length_pos_iff.2 hne
  have hl0 : decide ((l.length : Int) = 0) = false := by simp; exact hne
  obtain ⟨k, hk⟩ : ∃ k : Nat, x.tmod l.length = k := ⟨(x.tmod l.length).toNat, by have := Int.tmod_nonneg (l.length : Int) hx.1; omega⟩
  have hk2 : k < l.length := by
    have := Int.tmod_lt_of_pos x (show (0 : Int) < l.length by omega)
    omega
  refine W_seqI (fun e' H'' => WS H C w ld l i8 i9 a' cap' fr m k12 c12 e' H'' ∧ gt 183 e' 1 = .int .u8 x) ?_ ?_
  · have g8 := I.p.g8
    have b8 := I.p.b8
    have l8 := I.p.l8
    simp (disch := (first | (simp only [ne_eq,Nat.reduceEqDiff,not_false_eq_true,Nat.reduceLT]; done) | omega | (simp only [yz] <;> omega) | fail)) only [↓yp,yq0,yq1,yq2,yq3,yq4,yl,ys0,ys1,Nat.reduceAdd,Nat.reduceMul,Nat.reduceSub,Nat.reduceBEq,Nat.reduceEqDiff,Nat.reduceLT,Nat.reduceLeDiff,reduceIte,Int.reduceAdd,Int.reduceSub,Int.reduceMul,Int.reduceLT,Int.reduceLE,Int.reduceEq,Int.reduceToNat,Int.reduceNeg,zed,zee,zfr,zhw,ysu,yrg,ysv,ysw,ysx,g8,b8,lenV_slice zio,hl0]
    exact ⟨I.next (Fr.refl _) (by (with_reducible (repeat (first | refine Keep.put ?_ (by decide) | refine Keep.none ?_ | assumption | exact Keep.refl _ _ _)))), by simp (disch := (first | (simp only [ne_eq,Nat.reduceEqDiff,not_false_eq_true,Nat.reduceLT]; done) | omega | (simp only [yz] <;> omega) | fail)) only [yg,Nat.reduceAdd,Nat.reduceEqDiff,Nat.reduceLT,g1]⟩
  clear I g1 sz
  clear e H'
  rintro e H' ⟨I, g1⟩
  have sz := I.p.fr.size
  refine W_seqI (fun e' H'' => WS H C w ld l i8 i9 a' cap' fr m k12 c12 e' H'' ∧ gt 183 e' 15 = .int .i64 (k : Nat)) ?_ ?_
  · have g8 := I.p.g8
    have b8 := I.p.b8
    have l8 := I.p.l8
    have wx : w64 x = x := w64_of (by omega)
    have hrem := fun (p q : Operand) (z : Int) => i64_rem (T := tabA) (P := Try.prog) (ty := 3) (x := p) (y := q) (a := z) (b := l.length) (by omega)
    simp (disch := (first | (simp only [ne_eq,Nat.reduceEqDiff,not_false_eq_true,Nat.reduceLT]; done) | omega | (simp only [yz] <;> omega) | fail)) only [↓yp,yq0,yq1,yq2,yq3,yq4,yl,ys0,ys1,Nat.reduceAdd,Nat.reduceMul,Nat.reduceSub,Nat.reduceBEq,Nat.reduceEqDiff,Nat.reduceLT,Nat.reduceLeDiff,reduceIte,Int.reduceAdd,Int.reduceSub,Int.reduceMul,Int.reduceLT,Int.reduceLE,Int.reduceEq,Int.reduceToNat,Int.reduceNeg,zed,zee,zfr,zhw,ysu,yrg,ysv,ysw,ysx,g1,g8,b8,lenV_slice zio,A_conv,cv_5_3,wx,hrem,hk]
    exact ⟨I.next (Fr.refl _) (by (with_reducible (repeat (first | refine Keep.put ?_ (by decide) | refine Keep.none ?_ | assumption | exact Keep.refl _ _ _)))), by simp (disch := (first | (simp only [ne_eq,Nat.reduceEqDiff,not_false_eq_true,Nat.reduceLT]; done) | omega | (simp only [yz] <;> omega) | fail)) only [yg,Nat.reduceAdd,Nat.reduceEqDiff,Nat.reduceLT]⟩
  clear I g1 sz
  clear e H'
  rintro e H' ⟨I, g15⟩
  obtain ⟨t, ht⟩ : ∃ t, l[k]? = some t := ⟨l[k], by simp [hk2]⟩
  have sz := I.p.fr.size
  simp (disch := (first | (simp only [ne_eq,Nat.reduceEqDiff,not_false_eq_true,Nat.reduceLT]; done) | omega | (simp only [yz] <;> omega) | fail)) only [↓yp,yq0,yq1,yq2,yq3,yq4,yl,ys0,ys1,Nat.reduceAdd,Nat.reduceMul,Nat.reduceSub,Nat.reduceBEq,Nat.reduceEqDiff,Nat.reduceLT,Nat.reduceLeDiff,reduceIte,Int.reduceAdd,Int.reduceSub,Int.reduceMul,Int.reduceLT,Int.reduceLE,Int.reduceEq,Int.reduceToNat,Int.reduceNeg,zed,zee,zfr,zhw,ysu,yrg,ysv,ysw,ysx]
  refine W_while (n := 183) 7000 (fun k' e' H'' => ∃ j : Nat, k' = 5 - j ∧ j ≤ 5 ∧ gt 183 e' 103 = .int .i64 (j : Nat) ∧ gt 183 e' 15 = .int .i64 (k : Nat) ∧ WS H C w ld l i8 i9 a' cap' fr m k12 c12 e' H'')
    ?_ 5 5 ⟨0, by omega, by omega, by simp (disch := (first | (simp only [ne_eq,Nat.reduceEqDiff,not_false_eq_true,Nat.reduceLT]; done) | omega | (simp only [yz] <;> omega) | fail)) only [yg,Nat.reduceAdd,Nat.reduceEqDiff,Nat.reduceLT]; rfl, by simp (disch := (first | (simp only [ne_eq,Nat.reduceEqDiff,not_false_eq_true,Nat.reduceLT]; done) | omega | (simp only [yz] <;> omega) | fail)) only [yg,Nat.reduceAdd,Nat.reduceEqDiff,Nat.reduceLT,g15], I.next (Fr.refl _) (by (with_reducible (repeat (first | refine Keep.put ?_ (by decide) | refine Keep.none ?_ | assumption | exact Keep.refl _ _ _))))⟩ (by omega) (by omega)
  clear sz I g15
  rintro M1 k1 e H' ⟨j, rfl, hj, g103, g15, I⟩
  have sz := I.p.fr.size
  simp (disch := (first | (simp only [ne_eq,Nat.reduceEqDiff,not_false_eq_true,Nat.reduceLT]; done) | omega | (simp only [yz] <;> omega) | fail)) only [↓yp,yq0,yq1,yq2,yq3,yq4,yl,ys0,ys1,Nat.reduceAdd,Nat.reduceMul,Nat.reduceSub,Nat.reduceBEq,Nat.reduceEqDiff,Nat.reduceLT,Nat.reduceLeDiff,reduceIte,Int.reduceAdd,Int.reduceSub,Int.reduceMul,Int.reduceLT,Int.reduceLE,Int.reduceEq,Int.reduceToNat,Int.reduceNeg,zed,zee,zfr,zhw,ysu,yrg,ysv,ysw,ysx,g103]
  refine ⟨fun hA => ?_, fun hA => ?_⟩
  · have hj5 : j < 5 := by have := of_decide_eq_true hA; omega
    have hw2 : w64 ((j : Int) + 1) = ((j + 1 : Nat) : Int) := by rw [w64_of (by omega)]; omega
    refine W_skipI (by omega) ?_
    rw [zag, zah]
    refine W_end (c9w (j := j) (I.next (Fr.refl _) (by (with_reducible (repeat (first | refine Keep.put ?_ (by decide) | refine Keep.none ?_ | assumption | exact Keep.refl _ _ _))))) X ht hj5 (by simp (disch := (first | (simp only [ne_eq,Nat.reduceEqDiff,not_false_eq_true,Nat.reduceLT]; done) | omega | (simp only [yz] <;> omega) | fail)) only [yg,Nat.reduceAdd,Nat.reduceEqDiff,Nat.reduceLT,g103]) (by simp (disch := (first | (simp only [ne_eq,Nat.reduceEqDiff,not_false_eq_true,Nat.reduceLT]; done) | omega | (simp only [yz] <;> omega) | fail)) only [yg,Nat.reduceAdd,Nat.reduceEqDiff,Nat.reduceLT,g15])) ?_
    rintro e' H'' ⟨I', q103, q15⟩
    have sz' := I'.p.fr.size
    simp (disch := (first | (simp only [ne_eq,Nat.reduceEqDiff,not_false_eq_true,Nat.reduceLT]; done) | omega | (simp only [yz] <;> omega) | fail)) only [↓yp,yq0,yq1,yq2,yq3,yq4,yl,ys0,ys1,Nat.reduceAdd,Nat.reduceMul,Nat.reduceSub,Nat.reduceBEq,Nat.reduceEqDiff,Nat.reduceLT,Nat.reduceLeDiff,reduceIte,Int.reduceAdd,Int.reduceSub,Int.reduceMul,Int.reduceLT,Int.reduceLE,Int.reduceEq,Int.reduceToNat,Int.reduceNeg,zed,zee,zfr,zhw,ysu,yrg,ysv,ysw,ysx,q103,hw2]
    refine ⟨5 - (j + 1), by omega, j + 1, rfl, by omega, ?_, ?_, I'.next (Fr.refl _) (by (with_reducible (repeat (first | refine Keep.put ?_ (by decide) | refine Keep.none ?_ | assumption | exact Keep.refl _ _ _))))⟩
    · simp (disch := (first | (simp only [ne_eq,Nat.reduceEqDiff,not_false_eq_true,Nat.reduceLT]; done) | omega | (simp only [yz] <;> omega) | fail)) only [yg,Nat.reduceAdd,Nat.reduceEqDiff,Nat.reduceLT]
    · simp (disch := (first | (simp only [ne_eq,Nat.reduceEqDiff,not_false_eq_true,Nat.reduceLT]; done) | omega | (simp only [yz] <;> omega) | fail)) only [yg,Nat.reduceAdd,Nat.reduceEqDiff,Nat.reduceLT,q15]
  · simp (disch := (first | (simp only [ne_eq,Nat.reduceEqDiff,not_false_eq_true,Nat.reduceLT]; done) | omega | (simp only [yz] <;> omega) | fail)) only [↓yp,yq0,yq1,yq2,yq3,yq4,yl,ys0,ys1,Nat.reduceAdd,Nat.reduceMul,Nat.reduceSub,Nat.reduceBEq,Nat.reduceEqDiff,Nat.reduceLT,Nat.reduceLeDiff,reduceIte,Int.reduceAdd,Int.reduceSub,Int.reduceMul,Int.reduceLT,Int.reduceLE,Int.reduceEq,Int.reduceToNat,Int.reduceNeg,zed,zee,zfr,zhw,ysu,yrg,ysv,ysw,ysx,awake_l]
end
end Go.Am
