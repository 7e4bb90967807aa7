/- The law StreetMissed: the drive. -/
import Derived.Test.YtbbifibhpbjknaaT49
import Derived.Test.YtbbifibhpbjknaaT38
set_option linter.unusedSimpArgs false
set_option linter.unusedVariables false
namespace Go.Am
open Go.Proofs
variable {T : Tab} {P : Program} {N L : Nat} {H : AHeap} {Q : Bool → Value → AHeap → Prop}
section
variable {l : List Str} {C w ld fr m y : Int} {i8 i9 k k13 k14 kb k15 c15 k16 c16 t : Nat} {a' : Option Addr} {cap' : Nat} {H' H'' : AHeap} {e e' : VT}
set_option maxHeartbeats 4000000 in
set_option maxRecDepth 10000 in
theorem c15e (I : N15 H C w ld l i8 i9 a' cap' fr t m k k13 k14 kb k15 c15 k16 c16 e H') (hl : l.length ≤ 16) (g : Good C l ld) (g' : Good C (l.eraseIdx k) ld) (ht : (t : Int) < C) (hfr : 0 ≤ fr ∧ fr < C) (hm : 0 ≤ m ∧ m ≤ 240) (h0 : asked C l w ld [fr, (t : Int)] [] [m] = 0)
    (g17 : gt 162 e 17 = .int .i64 (lateA C l w ld fr t m k).1) (g18 : gt 162 e 18 = .int .i64 (lateA C l w ld fr t m k).2) (h1 : tg (earT C l w ld fr m) t ≠ -1) (h2 : tg (earT C (l.eraseIdx k) w ld fr m) t ≠ -1) :
    W tabA Try.prog (N + 39996) none (sub [true, true, true, true, true, true, true, true, true, true, true, true, true] (bodyOf Try.f15)) H.size ⟨162, e, H', []⟩ (retK tabA H.size [.tmp 6] fun v _ => v = .bool true) := by
  simp only [Try.f15,bodyOf,sub_nil,sub_seq0,sub_seq1,sub_block,sub_loop,sub_cond0,sub_cond1]
  have szI := I.p.p.fr.size
  refine W_seqI (fun e' H'' => N15 H C w ld l i8 i9 a' cap' fr t m k k13 k14 kb k15 c15 k16 c16 e' H'' ∧ gt 162 e' 17 = .int .i64 (lateA C l w ld fr t m k).1 ∧ gt 162 e' 18 = .int .i64 (lateA C l w ld fr t m k).2 ∧ gt 162 e' 20 = .int .i64 (tg (earT C l w ld fr m) t) ∧ gt 162 e' 21 = .int .i64 0 ∧ ∃ v ls base, gt 162 e' 19 = v ∧ RowL H'' v ls base ∧ Run l w ld (nxt dn0) (fr, 0) m ls ((t : Int), 0) (tg (earT C l w ld fr m) t)) ?_ ?_
  · have g8 := I.p.p.g8
    have g9 := I.p.p.g9
    have b8 := I.p.p.b8
    have b9 := I.p.p.b9
    have g10 := I.p.g10
    have g11 := I.p.g11
    have g12 := I.p.g12
    simp (disch := (first | (simp only [ne_eq,Nat.reduceEqDiff,not_false_eq_true,Nat.reduceLT]; done) | omega | (simp only [yz] <;> omega) | fail)) only [↓yp,yq0,yq1,yq2,yq3,yq4,yl,ys0,ys1,Nat.reduceAdd,Nat.reduceMul,Nat.reduceSub,Nat.reduceBEq,Nat.reduceEqDiff,Nat.reduceLT,Nat.reduceLeDiff,reduceIte,Int.reduceAdd,Int.reduceSub,Int.reduceMul,Int.reduceLT,Int.reduceLE,Int.reduceEq,Int.reduceToNat,Int.reduceNeg,zed,zee,zfr,zhw,ysu,yrg,ysv,ysw,ysx,ysz,g8,g9,g10,g11,g12,b8,b9]
    refine c38 I.p.p.sl (by omega) (by omega) (by omega) (fun h => absurd h0 h) (fun _ h => absurd h h1) ?_
    intro _ _ q v ls H3 f3 hr hrun
    have sz3 := f3.size
    simp (disch := (first | (simp only [ne_eq,Nat.reduceEqDiff,not_false_eq_true,Nat.reduceLT]; done) | omega | (simp only [yz] <;> omega) | fail)) only [↓yp,yq0,yq1,yq2,yq3,yq4,yl,ys0,ys1,Nat.reduceAdd,Nat.reduceMul,Nat.reduceSub,Nat.reduceBEq,Nat.reduceEqDiff,Nat.reduceLT,Nat.reduceLeDiff,reduceIte,Int.reduceAdd,Int.reduceSub,Int.reduceMul,Int.reduceLT,Int.reduceLE,Int.reduceEq,Int.reduceToNat,Int.reduceNeg,zed,zee,zfr,zhw,ysu,yrg,ysv,ysw,ysx,ysz]
    refine ⟨I.next f3 (by (with_reducible (repeat (first | refine Keep.put ?_ (by decide) | refine Keep.none ?_ | assumption | exact Keep.refl _ _ _)))), ?_, ?_, ?_, ?_, v, ls, _, ?_, hr, hrun⟩
    · simp (disch := omega) only [yg,Nat.reduceAdd,Nat.reduceEqDiff,Nat.reduceLT,g17]
    · simp (disch := omega) only [yg,Nat.reduceAdd,Nat.reduceEqDiff,Nat.reduceLT,g18]
    · simp (disch := omega) only [yg,Nat.reduceAdd,Nat.reduceEqDiff,Nat.reduceLT]
    · simp (disch := omega) only [yg,Nat.reduceAdd,Nat.reduceEqDiff,Nat.reduceLT]
    · simp (disch := omega) only [yg,Nat.reduceAdd,Nat.reduceEqDiff,Nat.reduceLT]
  clear g17 g18 I szI
  rintro e2 H2 ⟨I, g17, g18, g20, g21, v, ls, base, g19, hr, hrun⟩
  have szI := I.p.p.fr.size
  have hlen : ls.length ≤ 240 := by
    have e8 := earT_ok (w := w) g (fr := fr) (a₀ := m) hfr hm
    have := hrun.le
    have := e8.2 t
    unfold okM at this
    omega
  refine W_seqI (fun e' H'' => N15 H C w ld l i8 i9 a' cap' fr t m k k13 k14 kb k15 c15 k16 c16 e' H'' ∧ gt 162 e' 17 = .int .i64 (lateA C l w ld fr t m k).1 ∧ gt 162 e' 18 = .int .i64 (lateA C l w ld fr t m k).2 ∧ gt 162 e' 20 = .int .i64 (tg (earT C l w ld fr m) t) ∧ gt 162 e' 21 = .int .i64 0 ∧ gt 162 e' 22 = .bool (ls.any fun p => decide (p.1 = (k : Int)))) ?_ ?_
  · have g13 := I.p.g13
    have h70 := fun (N : Nat) => c70 (N := N) (k := (k : Int)) hr (by omega) I.p.b13 I.p.l13
    simp (disch := (first | (simp only [ne_eq,Nat.reduceEqDiff,not_false_eq_true,Nat.reduceLT]; done) | omega | (simp only [yz] <;> omega) | fail)) only [↓yp,yq0,yq1,yq2,yq3,yq4,yl,ys0,ys1,Nat.reduceAdd,Nat.reduceMul,Nat.reduceSub,Nat.reduceBEq,Nat.reduceEqDiff,Nat.reduceLT,Nat.reduceLeDiff,reduceIte,Int.reduceAdd,Int.reduceSub,Int.reduceMul,Int.reduceLT,Int.reduceLE,Int.reduceEq,Int.reduceToNat,Int.reduceNeg,zed,zee,zfr,zhw,ysu,yrg,ysv,ysw,ysx,ysz,g13,g19,h70]
    refine ⟨I.next (Fr.refl _) (by (with_reducible (repeat (first | refine Keep.put ?_ (by decide) | refine Keep.none ?_ | assumption | exact Keep.refl _ _ _)))), ?_, ?_, ?_, ?_, ?_⟩
    · simp (disch := omega) only [yg,Nat.reduceAdd,Nat.reduceEqDiff,Nat.reduceLT,g17]
    · simp (disch := omega) only [yg,Nat.reduceAdd,Nat.reduceEqDiff,Nat.reduceLT,g18]
    · simp (disch := omega) only [yg,Nat.reduceAdd,Nat.reduceEqDiff,Nat.reduceLT,g20]
    · simp (disch := omega) only [yg,Nat.reduceAdd,Nat.reduceEqDiff,Nat.reduceLT,g21]
    · simp (disch := omega) only [yg,Nat.reduceAdd,Nat.reduceEqDiff,Nat.reduceLT]
  clear g17 g18 g20 g21 I szI g19 hr
  rintro e3 H3 ⟨I, g17, g18, g20, g21, g22⟩
  have szI := I.p.p.fr.size
  have e8 := earT_ok (w := w) g (fr := fr) (a₀ := m) hfr hm
  have e9 := earT_ok (w := w) g' (fr := fr) (a₀ := m) hfr hm
  have t8 := take_at e8.1 g.hC (x := (t : Int)) (by omega)
  have t9 := take_at e9.1 g.hC (x := (t : Int)) (by omega)
  rw [Int.toNat_natCast] at t8 t9
  have o8 := e8.2 t
  have o9 := e9.2 t
  unfold okM at o8 o9
  have hle := (ear_erase (k := k) g g' hfr hm (Int.natCast_nonneg t) h2).2
  have htk : ls.any (fun p => decide (p.1 = (k : Int))) = true ∨ tg (earT C (l.eraseIdx k) w ld fr m) t - tg (earT C l w ld fr m) t = 0 := by
    cases hh : ls.any (fun p => decide (p.1 = (k : Int))) with
    | true => exact .inl rfl
    | false =>
      have := ear_missed (k := k) g' hfr hm (Int.natCast_nonneg t) hrun hh
      exact .inr (by omega)
  have hA : lateA C l w ld fr t m k = (tg (earT C (l.eraseIdx k) w ld fr m) t - tg (earT C l w ld fr m) t, 0) := by unfold lateA; rw [if_neg h1, Int.toNat_natCast, if_neg h2]
  rw [hA] at g17 g18
  have g11 := I.p.g11
  have g15 := I.g15
  have g16 := I.g16
  have b15 := I.b15
  have b16 := I.b16
  have l15 := I.l15
  have l16 := I.l16
  generalize tg (earT C (l.eraseIdx k) w ld fr m) t = B at *
  generalize tg (earT C l w ld fr m) t = A at *
  generalize (ls.any fun p => decide (p.1 = (k : Int))) = tk at *
  have hw : w64 (B - A) = B - A := w64_of (by omega)
  have d1 : decide (B - A ≥ 0) = true := decide_eq_true (by omega)
  have d2 : (tk || decide (B - A = 0)) = true := by
    rcases htk with rfl | h
    · rfl
    · rw [decide_eq_true h, Bool.or_true]
  rw [zag]
  refine W_draw [] rfl (by kernel_rfl) (by kernel_rfl) (by (first | omega | (simp only [yz] <;> omega))) ?_
  cases tk with
  | true =>
    simp (disch := (first | (simp only [ne_eq,Nat.reduceEqDiff,not_false_eq_true,Nat.reduceLT]; done) | omega | (simp only [yz] <;> omega) | fail)) only [↓yp,yq0,yq1,yq2,yq3,yq4,yl,ys0,ys1,Nat.reduceAdd,Nat.reduceMul,Nat.reduceSub,Nat.reduceBEq,Nat.reduceEqDiff,Nat.reduceLT,Nat.reduceLeDiff,reduceIte,Int.reduceAdd,Int.reduceSub,Int.reduceMul,Int.reduceLT,Int.reduceLE,Int.reduceEq,Int.reduceToNat,Int.reduceNeg,zed,zee,zfr,zhw,ysu,yrg,ysv,ysw,ysx,ysz,g11,g15,g16,g17,g18,g20,g21,g22,b15,b16,A_indexSlice zir,t8,t9,hw,d1,awake_r]
  | false =>
    have d3 : decide (B - A = 0) = true := by simpa using d2
    simp (disch := (first | (simp only [ne_eq,Nat.reduceEqDiff,not_false_eq_true,Nat.reduceLT]; done) | omega | (simp only [yz] <;> omega) | fail)) only [↓yp,yq0,yq1,yq2,yq3,yq4,yl,ys0,ys1,Nat.reduceAdd,Nat.reduceMul,Nat.reduceSub,Nat.reduceBEq,Nat.reduceEqDiff,Nat.reduceLT,Nat.reduceLeDiff,reduceIte,Int.reduceAdd,Int.reduceSub,Int.reduceMul,Int.reduceLT,Int.reduceLE,Int.reduceEq,Int.reduceToNat,Int.reduceNeg,zed,zee,zfr,zhw,ysu,yrg,ysv,ysw,ysx,ysz,g11,g15,g16,g17,g18,g20,g21,g22,b15,b16,A_indexSlice zir,t8,t9,hw,d1,d3,awake_r]
end
end Go.Am
/- The law StreetMissed. -/
namespace Go.Am
open Go.Proofs
variable {T : Tab} {P : Program} {N L : Nat} {H : AHeap} {Q : Bool → Value → AHeap → Prop}
section
variable {a : Option Addr} {cap : Nat} {bs : List Int}
set_option maxHeartbeats 4000000 in
set_option maxRecDepth 10000 in
theorem c15 {x y : Int} (hb : Bts H a bs) (hx : 0 ≤ x ∧ x < 256) (hy : 0 ≤ y ∧ y < 256) :
    acall tabA (aexec tabA Try.prog (N + 40009)) 15 [.slice a bs.length cap, .int .u8 x, .int .u8 y] H = some (true, .bool true, H, H.size) := by
  refine call_quiet (k := 162) (rs := [.tmp 6]) rfl fn_15 rfl rfl rfl ?_ rfl
  refine W_seqI (fun e' H'' => gt 162 e' 0 = .slice a bs.length cap ∧ gt 162 e' 1 = .int .u8 x ∧ gt 162 e' 2 = .int .u8 y ∧ H = H'') ?_ ?_
  · simp (disch := (first | (simp only [ne_eq,Nat.reduceEqDiff,not_false_eq_true,Nat.reduceLT]; done) | omega | (simp only [yz] <;> omega) | fail)) only [↓yp,yq0,yq1,yq2,yq3,yq4,yl,ys0,ys1,Nat.reduceAdd,Nat.reduceMul,Nat.reduceSub,Nat.reduceBEq,Nat.reduceEqDiff,Nat.reduceLT,Nat.reduceLeDiff,reduceIte,Int.reduceAdd,Int.reduceSub,Int.reduceMul,Int.reduceLT,Int.reduceLE,Int.reduceEq,Int.reduceToNat,Int.reduceNeg,zed,zee,zfr,zhw,ysu,yrg,ysv,ysw,ysx,ysz]
    refine ⟨?_, ?_, ?_, rfl⟩
    · simp (disch := omega) only [yg,Nat.reduceAdd,Nat.reduceEqDiff,Nat.reduceLT]
    · simp (disch := omega) only [yg,Nat.reduceAdd,Nat.reduceEqDiff,Nat.reduceLT]
    · simp (disch := omega) only [yg,Nat.reduceAdd,Nat.reduceEqDiff,Nat.reduceLT]
  rintro e1 H1 ⟨g0, g1, g2, rfl⟩
  refine W_seqI (fun e' H'' => gt 162 e' 1 = .int .u8 x ∧ gt 162 e' 2 = .int .u8 y ∧ gt 162 e' 7 = .pointer (some ⟨H.size, 0, none⟩) ∧ Fr H H'' ∧ H''.size = H.size + 1 ∧ Chu H'' H.size a bs cap) ?_ ?_
  · simp (disch := (first | (simp only [ne_eq,Nat.reduceEqDiff,not_false_eq_true,Nat.reduceLT]; done) | omega | (simp only [yz] <;> omega) | fail)) only [↓yp,yq0,yq1,yq2,yq3,yq4,yl,ys0,ys1,Nat.reduceAdd,Nat.reduceMul,Nat.reduceSub,Nat.reduceBEq,Nat.reduceEqDiff,Nat.reduceLT,Nat.reduceLeDiff,reduceIte,Int.reduceAdd,Int.reduceSub,Int.reduceMul,Int.reduceLT,Int.reduceLE,Int.reduceEq,Int.reduceToNat,Int.reduceNeg,zed,zee,zfr,zhw,ysu,yrg,ysv,ysw,ysx,ysz,g0]
    refine c48 hb (Nat.le_refl _) (by omega) ?_
    intro H2 fr1 hs1 hc1
    simp (disch := (first | (simp only [ne_eq,Nat.reduceEqDiff,not_false_eq_true,Nat.reduceLT]; done) | omega | (simp only [yz] <;> omega) | fail)) only [↓yp,yq0,yq1,yq2,yq3,yq4,yl,ys0,ys1,Nat.reduceAdd,Nat.reduceMul,Nat.reduceSub,Nat.reduceBEq,Nat.reduceEqDiff,Nat.reduceLT,Nat.reduceLeDiff,reduceIte,Int.reduceAdd,Int.reduceSub,Int.reduceMul,Int.reduceLT,Int.reduceLE,Int.reduceEq,Int.reduceToNat,Int.reduceNeg,zed,zee,zfr,zhw,ysu,yrg,ysv,ysw,ysx,ysz]
    refine ⟨?_, ?_, ?_, fr1, hs1, hc1⟩
    · simp (disch := omega) only [yg,Nat.reduceAdd,Nat.reduceEqDiff,Nat.reduceLT,g1]
    · simp (disch := omega) only [yg,Nat.reduceAdd,Nat.reduceEqDiff,Nat.reduceLT,g2]
    · simp (disch := omega) only [yg,Nat.reduceAdd,Nat.reduceEqDiff,Nat.reduceLT]
  clear g0 g1 g2
  rintro e2 H1 ⟨g1, g2, g7, fr1, hs1, hc1⟩
  refine W_seqI (fun e' H'' => ∃ a' cap' C l i8, gt 162 e' 1 = .int .u8 x ∧ gt 162 e' 2 = .int .u8 y ∧ gt 162 e' 7 = .pointer (some ⟨H.size, 0, none⟩) ∧ gt 162 e' 8 = .pointer (some ⟨i8, 0, none⟩) ∧ (2 ≤ C ∧ C ≤ 8) ∧ (l.length : Int) ≤ 14 ∧ (∀ s ∈ l, OkS C s) ∧ (a' = none → cap' = 0) ∧ Sl H'' a' l ∧ H''.get i8 = .rw [.int .i64 C, .slice a' l.length cap'] 24 false [] ∧ H.size < i8 ∧ i8 < H''.size ∧ Fr H H'' ∧ Chu H'' H.size a bs cap) ?_ ?_
  · simp (disch := (first | (simp only [ne_eq,Nat.reduceEqDiff,not_false_eq_true,Nat.reduceLT]; done) | omega | (simp only [yz] <;> omega) | fail)) only [↓yp,yq0,yq1,yq2,yq3,yq4,yl,ys0,ys1,Nat.reduceAdd,Nat.reduceMul,Nat.reduceSub,Nat.reduceBEq,Nat.reduceEqDiff,Nat.reduceLT,Nat.reduceLeDiff,reduceIte,Int.reduceAdd,Int.reduceSub,Int.reduceMul,Int.reduceLT,Int.reduceLE,Int.reduceEq,Int.reduceToNat,Int.reduceNeg,zed,zee,zfr,zhw,ysu,yrg,ysv,ysw,ysx,ysz,g7]
    refine c49 hc1 (by omega) (by omega) (Nat.le_refl _) (by omega) ?_
    intro f2 a' cap' C l H2 hC1 hC2 hl ho hn hsl hc2 hx2
    have sz2 := hx2.size
    simp (disch := (first | (simp only [ne_eq,Nat.reduceEqDiff,not_false_eq_true,Nat.reduceLT]; done) | omega | (simp only [yz] <;> omega) | fail)) only [↓yp,yq0,yq1,yq2,yq3,yq4,yl,ys0,ys1,Nat.reduceAdd,Nat.reduceMul,Nat.reduceSub,Nat.reduceBEq,Nat.reduceEqDiff,Nat.reduceLT,Nat.reduceLeDiff,reduceIte,Int.reduceAdd,Int.reduceSub,Int.reduceMul,Int.reduceLT,Int.reduceLE,Int.reduceEq,Int.reduceToNat,Int.reduceNeg,zed,zee,zfr,zhw,ysu,yrg,ysv,ysw,ysx,ysz]
    refine ⟨a', cap', C, l, H2.size, ?_, ?_, ?_, ?_, by omega, by omega, ho, hn, Sl.put (hsl.fr (Fr.alloc _ _)) (c := [.int .i64 0, .slice none 0 0]) (by rw [zda rfl]; rfl) (by simp), zdc (by (first | omega | (simp only [yz] <;> omega))), by omega, by (first | omega | (simp only [yz] <;> omega)), Fr.put (Fr.allocd (hx2.above fr1 (Nat.le_refl _)) _) (by omega) _, (hc2.fr (Fr.alloc _ _)).other (by omega) (fun c e => by rw [zda rfl] at e; cases e)⟩
    · simp (disch := omega) only [yg,Nat.reduceAdd,Nat.reduceEqDiff,Nat.reduceLT,g1]
    · simp (disch := omega) only [yg,Nat.reduceAdd,Nat.reduceEqDiff,Nat.reduceLT,g2]
    · simp (disch := omega) only [yg,Nat.reduceAdd,Nat.reduceEqDiff,Nat.reduceLT,g7]
    · simp (disch := omega) only [yg,Nat.reduceAdd,Nat.reduceEqDiff,Nat.reduceLT]
  clear g1 g2 g7 fr1 hs1 hc1
  rintro e3 H2 ⟨a', cap', C, l, i8, g1, g2, g7, g8, hC28, hl, ho, hn, hsl, b8, k8, l8, fr2, hc2⟩
  refine W_seqI (fun e' H'' => ∃ w ld i9, LP 162 H C w ld l i8 i9 a' cap' e' H'' ∧ gt 162 e' 1 = .int .u8 x ∧ gt 162 e' 2 = .int .u8 y ∧ gt 162 e' 7 = .pointer (some ⟨H.size, 0, none⟩) ∧ (1 ≤ w ∧ w ≤ 5) ∧ (0 ≤ ld ∧ ld ≤ 5) ∧ H.size < i9 ∧ Chu H'' H.size a bs cap) ?_ ?_
  · have sz2 := fr2.size
    simp (disch := (first | (simp only [ne_eq,Nat.reduceEqDiff,not_false_eq_true,Nat.reduceLT]; done) | omega | (simp only [yz] <;> omega) | fail)) only [↓yp,yq0,yq1,yq2,yq3,yq4,yl,ys0,ys1,Nat.reduceAdd,Nat.reduceMul,Nat.reduceSub,Nat.reduceBEq,Nat.reduceEqDiff,Nat.reduceLT,Nat.reduceLeDiff,reduceIte,Int.reduceAdd,Int.reduceSub,Int.reduceMul,Int.reduceLT,Int.reduceLE,Int.reduceEq,Int.reduceToNat,Int.reduceNeg,zed,zee,zfr,zhw,ysu,yrg,ysv,ysw,ysx,ysz,g7]
    refine c50 hc2 (Nat.le_refl _) (by omega) ?_
    intro f3 w ld H3 hw1 hw2 hd1 hd2 hc3 hx3
    have sz3 := hx3.size
    simp (disch := (first | (simp only [ne_eq,Nat.reduceEqDiff,not_false_eq_true,Nat.reduceLT]; done) | omega | (simp only [yz] <;> omega) | fail)) only [↓yp,yq0,yq1,yq2,yq3,yq4,yl,ys0,ys1,Nat.reduceAdd,Nat.reduceMul,Nat.reduceSub,Nat.reduceBEq,Nat.reduceEqDiff,Nat.reduceLT,Nat.reduceLeDiff,reduceIte,Int.reduceAdd,Int.reduceSub,Int.reduceMul,Int.reduceLT,Int.reduceLE,Int.reduceEq,Int.reduceToNat,Int.reduceNeg,zed,zee,zfr,zhw,ysu,yrg,ysv,ysw,ysx,ysz]
    refine ⟨w, ld, H3.size, ⟨?_, ?_, Fr.put (Fr.allocd (hx3.above fr2 (Nat.le_refl _)) _) (by omega) _, by (first | omega | (simp only [yz] <;> omega)), by (first | omega | (simp only [yz] <;> omega)), ?_, zdc (by (first | omega | (simp only [yz] <;> omega))), Sl.put ((hsl.frx hc2 hx3).fr (Fr.alloc _ _)) (c := [.int .i64 0, .int .i64 0]) (by rw [zda rfl]; rfl) (by simp)⟩, ?_, ?_, ?_, by omega, by omega, by omega, (hc3.fr (Fr.alloc _ _)).other (by omega) (fun c e => by rw [zda rfl] at e; cases e)⟩
    · simp (disch := omega) only [yg,Nat.reduceAdd,Nat.reduceEqDiff,Nat.reduceLT,g8]
    · simp (disch := omega) only [yg,Nat.reduceAdd,Nat.reduceEqDiff,Nat.reduceLT]
    · rw [zdd (by omega), zdb (by omega), hx3.same _ l8 (by omega)]; exact b8
    · simp (disch := omega) only [yg,Nat.reduceAdd,Nat.reduceEqDiff,Nat.reduceLT,g1]
    · simp (disch := omega) only [yg,Nat.reduceAdd,Nat.reduceEqDiff,Nat.reduceLT,g2]
    · simp (disch := omega) only [yg,Nat.reduceAdd,Nat.reduceEqDiff,Nat.reduceLT,g7]
  have hk8 : H.size < i8 := k8
  clear g1 g2 g7 g8 hsl b8 l8 fr2 hc2 k8
  rintro e H' ⟨w, ld, i9, I, g1, g2, g7, ⟨hw1, hw2⟩, ⟨hd1, hd2⟩, hk9, hc⟩
  have hC : 1 ≤ C ∧ C ≤ 8 := by omega
  obtain ⟨to, hto⟩ : ∃ to, x.tmod C = to := ⟨_, rfl⟩
  have hto2 : 0 ≤ to ∧ to < C := by
    rw [← hto]
    exact ⟨Int.tmod_nonneg _ hx.1, Int.tmod_lt_of_pos _ (by omega)⟩
  have hlt := hc.lt
  have sz := I.fr.size
  refine W_seqI (fun e' H'' => ∃ fr m, LP 162 H C w ld l i8 i9 a' cap' e' H'' ∧ gt 162 e' 2 = .int .u8 y ∧ (0 ≤ fr ∧ fr < C) ∧ (0 ≤ m ∧ m ≤ 49) ∧ gt 162 e' 10 = .int .i64 fr ∧ gt 162 e' 11 = .int .i64 to ∧ gt 162 e' 12 = .int .i64 m) ?_ ?_
  · have l8 := I.l8
    have g8 := I.g8
    have b8 := I.b8
    obtain ⟨fl, v, H1, mm, hres, hLm, fr, rfl, ⟨hf1, hf2⟩, hff, hc1, hx1, hs1⟩ := resK_elim (Q := fun f v H'' => ∃ d : Int, v = .int .i64 d ∧ Pulled C d ∧ (f = true → H'' = H') ∧ Chu H'' H.size a bs cap ∧ FrX H.size H' H'' ∧ H''.size = H'.size) (c51 (M := N + 40003) (n := C) hc (Nat.le_refl _) (by omega) (by omega) fun f v H'' h0 h1 h2 h3 h4 => ⟨v, rfl, h1, h0, h2, h3, h4⟩)
    obtain ⟨fl2, v2, H2, mm2, hres2, hLm2, m, rfl, ⟨hm1, hm2⟩, hff2, hc2, hx2, hs2⟩ := resK_elim (Q := fun f v H'' => ∃ d : Int, v = .int .i64 d ∧ Pulled 50 d ∧ (f = true → H'' = H1) ∧ Chu H'' H.size a bs cap ∧ FrX H.size H1 H'' ∧ H''.size = H1.size) (c51 (M := N + 40003) (n := 50) hc1 (Nat.le_refl _) (by omega) (by omega) fun f v H'' h0 h1 h2 h3 h4 => ⟨v, rfl, h1, h0, h2, h3, h4⟩)
    have b81 : H1.get i8 = .rw [.int .i64 C, .slice a' l.length cap'] 24 false [] := by
      rw [hx1.same _ l8 (by omega)]; exact b8
    have b82 : H2.get i8 = .rw [.int .i64 C, .slice a' l.length cap'] 24 false [] := by
      rw [hx2.same _ (by omega) (by omega)]; exact b81
    have w1 : w64 x = x := w64_of (by omega)
    have hrem := fun (p q : Operand) (z : Int) => i64_rem (T := tabA) (P := Try.prog) (ty := 3) (x := p) (y := q) (a := z) (b := C) (by omega)
    have I2 : ∀ e', Keep 162 [8, 9] e e' → LP 162 H C w ld l i8 i9 a' cap' e' H2 := fun e' hke => I.frx (by omega) (by omega) (Nat.le_refl _) hc (hx1.trans hx2) hke
    cases fl
    · cases fl2
      · refine W_drawR (pl := []) [3, 10] [] (planB_of rfl (by decide) (by decide) rfl) (by kernel_rfl) (by kernel_rfl) (by kernel_rfl) (by (first | omega | (simp only [yz] <;> omega))) ?_
        simp (disch := (first | (simp only [ne_eq,Nat.reduceEqDiff,not_false_eq_true,Nat.reduceLT]; done) | omega | (simp only [yz] <;> omega) | fail)) only [↓yp,yq0,yq1,yq2,yq3,yq4,yl,ys0,ys1,Nat.reduceAdd,Nat.reduceMul,Nat.reduceSub,Nat.reduceBEq,Nat.reduceEqDiff,Nat.reduceLT,Nat.reduceLeDiff,reduceIte,Int.reduceAdd,Int.reduceSub,Int.reduceMul,Int.reduceLT,Int.reduceLE,Int.reduceEq,Int.reduceToNat,Int.reduceNeg,zed,zee,zfr,zhw,ysu,yrg,ysv,ysw,ysx,ysz,g1,g2,g7,g8,b8,b81,b82,hres,hres2,A_conv,cv_5_3,w1,hrem,hto]
        refine ⟨fr, m, I2 _ (by (with_reducible (repeat (first | refine Keep.put ?_ (by decide) | refine Keep.none ?_ | assumption | exact Keep.refl _ _ _)))), ?_, ⟨hf1, by omega⟩, by omega, ?_, ?_, ?_⟩
        · simp (disch := omega) only [yg,Nat.reduceAdd,Nat.reduceEqDiff,Nat.reduceLT,g2]
        · simp (disch := omega) only [yg,Nat.reduceAdd,Nat.reduceEqDiff,Nat.reduceLT]
        · simp (disch := omega) only [yg,Nat.reduceAdd,Nat.reduceEqDiff,Nat.reduceLT]
        · simp (disch := omega) only [yg,Nat.reduceAdd,Nat.reduceEqDiff,Nat.reduceLT]
      · obtain rfl := hff2 rfl
        refine W_drawR (pl := []) [3] [(10, 0)] (planB_of rfl (by decide) (by decide) rfl) (by kernel_rfl) (by kernel_rfl) (by kernel_rfl) (by (first | omega | (simp only [yz] <;> omega))) ?_
        simp (disch := (first | (simp only [ne_eq,Nat.reduceEqDiff,not_false_eq_true,Nat.reduceLT]; done) | omega | (simp only [yz] <;> omega) | fail)) only [↓yp,yq0,yq1,yq2,yq3,yq4,yl,ys0,ys1,Nat.reduceAdd,Nat.reduceMul,Nat.reduceSub,Nat.reduceBEq,Nat.reduceEqDiff,Nat.reduceLT,Nat.reduceLeDiff,reduceIte,Int.reduceAdd,Int.reduceSub,Int.reduceMul,Int.reduceLT,Int.reduceLE,Int.reduceEq,Int.reduceToNat,Int.reduceNeg,zed,zee,zfr,zhw,ysu,yrg,ysv,ysw,ysx,ysz,g1,g2,g7,g8,b8,b81,hres,hres2,A_conv,cv_5_3,w1,hrem,hto]
        refine ⟨fr, m, I2 _ (by (with_reducible (repeat (first | refine Keep.put ?_ (by decide) | refine Keep.none ?_ | assumption | exact Keep.refl _ _ _)))), ?_, ⟨hf1, by omega⟩, by omega, ?_, ?_, ?_⟩
        · simp (disch := omega) only [yg,Nat.reduceAdd,Nat.reduceEqDiff,Nat.reduceLT,g2]
        · simp (disch := omega) only [yg,Nat.reduceAdd,Nat.reduceEqDiff,Nat.reduceLT]
        · simp (disch := omega) only [yg,Nat.reduceAdd,Nat.reduceEqDiff,Nat.reduceLT]
        · simp (disch := omega) only [yg,Nat.reduceAdd,Nat.reduceEqDiff,Nat.reduceLT]
    · obtain rfl := hff rfl
      cases fl2
      · refine W_drawR (pl := []) [10] [(3, 1)] (planB_of rfl (by decide) (by decide) rfl) (by kernel_rfl) (by kernel_rfl) (by kernel_rfl) (by (first | omega | (simp only [yz] <;> omega))) ?_
        simp (disch := (first | (simp only [ne_eq,Nat.reduceEqDiff,not_false_eq_true,Nat.reduceLT]; done) | omega | (simp only [yz] <;> omega) | fail)) only [↓yp,yq0,yq1,yq2,yq3,yq4,yl,ys0,ys1,Nat.reduceAdd,Nat.reduceMul,Nat.reduceSub,Nat.reduceBEq,Nat.reduceEqDiff,Nat.reduceLT,Nat.reduceLeDiff,reduceIte,Int.reduceAdd,Int.reduceSub,Int.reduceMul,Int.reduceLT,Int.reduceLE,Int.reduceEq,Int.reduceToNat,Int.reduceNeg,zed,zee,zfr,zhw,ysu,yrg,ysv,ysw,ysx,ysz,g1,g2,g7,g8,b8,b82,hres,hres2,A_conv,cv_5_3,w1,hrem,hto]
        refine ⟨fr, m, I2 _ (by (with_reducible (repeat (first | refine Keep.put ?_ (by decide) | refine Keep.none ?_ | assumption | exact Keep.refl _ _ _)))), ?_, ⟨hf1, by omega⟩, by omega, ?_, ?_, ?_⟩
        · simp (disch := omega) only [yg,Nat.reduceAdd,Nat.reduceEqDiff,Nat.reduceLT,g2]
        · simp (disch := omega) only [yg,Nat.reduceAdd,Nat.reduceEqDiff,Nat.reduceLT]
        · simp (disch := omega) only [yg,Nat.reduceAdd,Nat.reduceEqDiff,Nat.reduceLT]
        · simp (disch := omega) only [yg,Nat.reduceAdd,Nat.reduceEqDiff,Nat.reduceLT]
      · obtain rfl := hff2 rfl
        refine W_drawR (pl := []) [] [] (planB_of rfl (by decide) (by decide) rfl) (by kernel_rfl) (by kernel_rfl) (by kernel_rfl) (by (first | omega | (simp only [yz] <;> omega))) ?_
        simp (disch := (first | (simp only [ne_eq,Nat.reduceEqDiff,not_false_eq_true,Nat.reduceLT]; done) | omega | (simp only [yz] <;> omega) | fail)) only [↓yp,yq0,yq1,yq2,yq3,yq4,yl,ys0,ys1,Nat.reduceAdd,Nat.reduceMul,Nat.reduceSub,Nat.reduceBEq,Nat.reduceEqDiff,Nat.reduceLT,Nat.reduceLeDiff,reduceIte,Int.reduceAdd,Int.reduceSub,Int.reduceMul,Int.reduceLT,Int.reduceLE,Int.reduceEq,Int.reduceToNat,Int.reduceNeg,zed,zee,zfr,zhw,ysu,yrg,ysv,ysw,ysx,ysz,g1,g2,g7,g8,b8,hres,hres2,A_conv,cv_5_3,w1,hrem,hto]
        refine ⟨fr, m, I2 _ (by (with_reducible (repeat (first | refine Keep.put ?_ (by decide) | refine Keep.none ?_ | assumption | exact Keep.refl _ _ _)))), ?_, ⟨hf1, by omega⟩, by omega, ?_, ?_, ?_⟩
        · simp (disch := omega) only [yg,Nat.reduceAdd,Nat.reduceEqDiff,Nat.reduceLT,g2]
        · simp (disch := omega) only [yg,Nat.reduceAdd,Nat.reduceEqDiff,Nat.reduceLT]
        · simp (disch := omega) only [yg,Nat.reduceAdd,Nat.reduceEqDiff,Nat.reduceLT]
        · simp (disch := omega) only [yg,Nat.reduceAdd,Nat.reduceEqDiff,Nat.reduceLT]
  clear sz I g7 g1 hc hlt
  rintro e H' ⟨fr, m, I, g2, hfr, hm, g10, g11, g12⟩
  have sz := I.fr.size
  have g8 := I.g8
  have b8 := I.b8
  by_cases hne : l = []
  · subst hne
    simp (disch := (first | (simp only [ne_eq,Nat.reduceEqDiff,not_false_eq_true,Nat.reduceLT]; done) | omega | (simp only [yz] <;> omega) | fail)) only [↓yp,yq0,yq1,yq2,yq3,yq4,yl,ys0,ys1,Nat.reduceAdd,Nat.reduceMul,Nat.reduceSub,Nat.reduceBEq,Nat.reduceEqDiff,Nat.reduceLT,Nat.reduceLeDiff,reduceIte,Int.reduceAdd,Int.reduceSub,Int.reduceMul,Int.reduceLT,Int.reduceLE,Int.reduceEq,Int.reduceToNat,Int.reduceNeg,zed,zee,zfr,zhw,ysu,yrg,ysv,ysw,ysx,ysz,g8,b8,lenV_slice zio,List.length_nil,awake_r]
    rw [show decide (((0 : Nat) : Int) = 0) = true from rfl]
    simp (disch := (first | (simp only [ne_eq,Nat.reduceEqDiff,not_false_eq_true,Nat.reduceLT]; done) | omega | (simp only [yz] <;> omega) | fail)) only [↓yp,yq0,yq1,yq2,yq3,yq4,yl,ys0,ys1,Nat.reduceAdd,Nat.reduceMul,Nat.reduceSub,Nat.reduceBEq,Nat.reduceEqDiff,Nat.reduceLT,Nat.reduceLeDiff,reduceIte,Int.reduceAdd,Int.reduceSub,Int.reduceMul,Int.reduceLT,Int.reduceLE,Int.reduceEq,Int.reduceToNat,Int.reduceNeg,zed,zee,zfr,zhw,ysu,yrg,ysv,ysw,ysx,ysz,awake_r]
  have hd0 : decide ((l.length : Int) = 0) = false := decide_eq_false (by have := List.length_pos_iff.2 hne; omega)
  refine W_seqI (fun e' H'' => Keep 162 [2, 8, 9, 10, 11, 12] e e' ∧ H' = H'') ?_ ?_
  · simp (disch := (first | (simp only [ne_eq,Nat.reduceEqDiff,not_false_eq_true,Nat.reduceLT]; done) | omega | (simp only [yz] <;> omega) | fail)) only [↓yp,yq0,yq1,yq2,yq3,yq4,yl,ys0,ys1,Nat.reduceAdd,Nat.reduceMul,Nat.reduceSub,Nat.reduceBEq,Nat.reduceEqDiff,Nat.reduceLT,Nat.reduceLeDiff,reduceIte,Int.reduceAdd,Int.reduceSub,Int.reduceMul,Int.reduceLT,Int.reduceLE,Int.reduceEq,Int.reduceToNat,Int.reduceNeg,zed,zee,zfr,zhw,ysu,yrg,ysv,ysw,ysx,ysz,g8,b8,lenV_slice zio,hd0]
    exact ⟨by (with_reducible (repeat (first | refine Keep.put ?_ (by decide) | refine Keep.none ?_ | assumption | exact Keep.refl _ _ _))), rfl⟩
  rintro e5 _ ⟨k5, rfl⟩
  have hl16 : l.length ≤ 16 := by omega
  have hct : chk C l = 0 := chk_of hC hl16 ho
  have hoff : off ld 0 9 = false := off_iff.2 (by omega)
  have g := good_of hct hoff
  refine c15a (I.next (Fr.refl _) (fun p hp => k5 p (by simp at hp ⊢; omega))) (by omega) ((k5 2 (by simp)).trans g2) ((k5 10 (by simp)).trans g10) ((k5 11 (by simp)).trans g11) ((k5 12 (by simp)).trans g12) hy hl16 hne ?_ rfl
  intro k k13 k14 kb e6 H6 hkl I6
  have g' : Good C (l.eraseIdx k) ld := good_of (chk_erase hct) hoff
  obtain ⟨t, rfl⟩ : ∃ t : Nat, to = t := ⟨to.toNat, by omega⟩
  refine c15b I6 hC hl16 ho (by omega) (by omega) hfr (by omega) ?_
  intro k15 c15 k16 c16 e7 H7 I7
  refine c15c I7 hl16 (asked_of hct (off_iff.2 (by omega)) hoff (by simp; omega) (by simp; omega) (by simp; omega)) hC.1 ?_
  intro e8 H8 I8 g17 g18
  refine c15d I8 hl16 g g' hto2.2 hfr (by omega) g17 g18 ?_
  intro h1 h2 e9 H9 I9 g17 g18
  exact c15e I9 hl16 g g' hto2.2 hfr (by omega) (asked_of hct (off_iff.2 (by omega)) hoff (by simp; omega) (by simp) (by simp; omega)) g17 g18 h1 h2
end
end Go.Am
