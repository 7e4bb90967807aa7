/- The law StreetMissed: from the town on. -/
import Derived.Test.YtbbifibhpbjknaaT48
set_option linter.unusedSimpArgs false
set_option linter.unusedVariables false
namespace Go.Am
open Go.Proofs
variable {T : Tab} {P : Program} {N L : Nat} {H : AHeap} {Q : Bool → Value → AHeap → Prop}
/-- What the law has before the street is left out: the town, and a copy without it. -/
structure M15 (H : AHeap) (C w ld : Int) (l : List Str) (i8 i9 : Nat) (a' : Option Addr) (cap' : Nat) (fr to m : Int) (k k13 k14 kb : Nat) (e : VT) (H' : AHeap) : Prop where
  p : LP 162 H C w ld l i8 i9 a' cap' e H'
  g10 : gt 162 e 10 = .int .i64 fr
  g11 : gt 162 e 11 = .int .i64 to
  g12 : gt 162 e 12 = .int .i64 m
  g13 : gt 162 e 13 = .pointer (some ⟨k13, 0, none⟩)
  g14 : gt 162 e 14 = .pointer (some ⟨k14, 0, none⟩)
  l13 : k13 < H'.size
  l14 : k14 < H'.size
  b13 : H'.get k13 = .rw [.int .i64 (k : Nat)] 3 false []
  b14 : H'.get k14 = .rw [.int .i64 C, .slice (some ⟨kb, 0, none⟩) (l.eraseIdx k).length (OPEN + 9)] 24 false []
  s14 : Sl H' (some ⟨kb, 0, none⟩) (l.eraseIdx k)
section
variable {l : List Str} {C w ld fr to m y : Int} {i8 i9 k k13 k14 kb : Nat} {a' : Option Addr} {cap' : Nat} {H' H'' : AHeap} {e e' : VT}
theorem M15.next (I : M15 H C w ld l i8 i9 a' cap' fr to m k k13 k14 kb e H') (f : Fr H' H'') (h : Keep 162 [8, 9, 10, 11, 12, 13, 14] e e') : M15 H C w ld l i8 i9 a' cap' fr to m k k13 k14 kb e' H'' where
  p := I.p.next f (fun p hp => h p (by simp at hp ⊢; omega))
  g10 := (h 10 (by simp)).trans I.g10
  g11 := (h 11 (by simp)).trans I.g11
  g12 := (h 12 (by simp)).trans I.g12
  g13 := (h 13 (by simp)).trans I.g13
  g14 := (h 14 (by simp)).trans I.g14
  l13 := Nat.lt_of_lt_of_le I.l13 f.size
  l14 := Nat.lt_of_lt_of_le I.l14 f.size
  b13 := (f.same _ I.l13).trans I.b13
  b14 := (f.same _ I.l14).trans I.b14
  s14 := I.s14.fr f
set_option maxHeartbeats 4000000 in
set_option maxRecDepth 10000 in
theorem c15a (I : LP 162 H C w ld l i8 i9 a' cap' e H') (hk8 : H.size ≤ i8) (g2 : gt 162 e 2 = .int .u8 y) (g10 : gt 162 e 10 = .int .i64 fr) (g11 : gt 162 e 11 = .int .i64 to) (g12 : gt 162 e 12 = .int .i64 m) (hy : 0 ≤ y ∧ y < 256) (hl : l.length ≤ 16) (hne : l ≠ []) {c : Code}
    (hc : ∀ k k13 k14 kb e' H'', k < l.length → M15 H C w ld l i8 i9 a' cap' fr to m k k13 k14 kb e' H'' → W tabA Try.prog (N + 40000) none (sub [true] c) H.size ⟨162, e', H'', []⟩ (retK tabA H.size [.tmp 6] fun v _ => v = .bool true)) (hcc : c = sub [true, true, true, true, true, true, true, true] (bodyOf Try.f15)) :
    W tabA Try.prog (N + 40003) none (sub [true, true, true, true, true, true] (bodyOf Try.f15)) H.size ⟨162, e, H', []⟩ (retK tabA H.size [.tmp 6] fun v _ => v = .bool true) := by
  subst hcc
  have hlen : 0 < l.length := List.length_pos_iff.2 hne
  have wy : w64 y = y := w64_of (by omega)
  obtain ⟨k, hk⟩ : ∃ k : Nat, y.tmod l.length = k := ⟨(y.tmod l.length).toNat, by have := Int.tmod_nonneg (l.length : Int) hy.1; omega⟩
  have hkl : k < l.length := by have := Int.tmod_lt_of_pos y (b := (l.length : Int)) (by omega); omega
  have hrem := fun (p q : Operand) => i64_rem (T := tabA) (P := Try.prog) (ty := 3) (x := p) (y := q) (a := y) (b := (l.length : Int)) (by omega)
  have hw : w64 ((k : Int) + 1) = ((k + 1 : Nat) : Int) := by rw [w64_of (by omega)]; omega
  simp only [Try.f15,bodyOf,sub_nil,sub_seq0,sub_seq1,sub_block,sub_loop,sub_cond0,sub_cond1] at hc ⊢
  have g8 := I.g8
  have g9 := I.g9
  have b8 := I.b8
  have l8 := I.l8
  have l9 := I.l9
  have szI := I.fr.size
  refine W_seqI (fun e' H'' => Keep 162 [8, 9, 10, 11, 12] e e' ∧ gt 162 e' 13 = .pointer (some ⟨H'.size, 0, none⟩) ∧ Fr H' H'' ∧ H''.size = H'.size + 1 ∧ H''.get H'.size = .rw [.int .i64 (k : Nat)] 3 false []) ?_ ?_
  · simp (disch := (first | (simp only [ne_eq,Nat.reduceEqDiff,not_false_eq_true,Nat.reduceLT]; done) | omega | (simp only [yz] <;> omega) | fail)) only [↓yp,yq0,yq1,yq2,yq3,yq4,yl,ys0,ys1,Nat.reduceAdd,Nat.reduceMul,Nat.reduceSub,Nat.reduceBEq,Nat.reduceEqDiff,Nat.reduceLT,Nat.reduceLeDiff,reduceIte,Int.reduceAdd,Int.reduceSub,Int.reduceMul,Int.reduceLT,Int.reduceLE,Int.reduceEq,Int.reduceToNat,Int.reduceNeg,zed,zee,zfr,zhw,ysu,yrg,ysv,ysw,ysx,ysz,g2,g8,b8,A_conv,cv_5_3,wy,hrem,hk,lenV_slice zio]
    exact ⟨by (with_reducible (repeat (first | refine Keep.put ?_ (by decide) | refine Keep.none ?_ | assumption | exact Keep.refl _ _ _))), by simp (disch := (first | (simp only [ne_eq,Nat.reduceEqDiff,not_false_eq_true,Nat.reduceLT]; done) | omega | (simp only [yz] <;> omega) | fail)) only [yg,Nat.reduceAdd,Nat.reduceEqDiff,Nat.reduceLT], by (repeat (first | exact Fr.refl _ | assumption | refine Fr.allocd ?_ _ | refine Fr.kill ?_ (by first | assumption | omega) | refine Fr.put ?_ (by first | omega | (simp only [yz] <;> omega)) _)), by (first | omega | (simp only [yz] <;> omega)), zdc (by (first | omega | (simp only [yz] <;> omega)))⟩
  rintro e1 H1 ⟨k1, g13, f1, sz1, b13⟩
  refine W_seqI (fun e' H'' => Keep 162 [8, 9, 10, 11, 12] e e' ∧ gt 162 e' 13 = .pointer (some ⟨H'.size, 0, none⟩) ∧ ∃ kb kt, gt 162 e' 14 = .pointer (some ⟨kt, 0, none⟩) ∧ Fr H1 H'' ∧ H1.size ≤ kb ∧ kb < H''.size ∧ H1.size ≤ kt ∧ kt < H''.size ∧ kb ≠ kt ∧ H''.get kb = .rw (flat l) 45 true [] ∧ H''.get kt = .rw [.int .i64 C, .slice (some ⟨kb, 0, none⟩) l.length (OPEN + 9)] 24 false []) ?_ ?_
  · have q8 := (k1 8 (by simp)).trans g8
    have b81 := (f1.same _ l8).trans b8
    simp (disch := (first | (simp only [ne_eq,Nat.reduceEqDiff,not_false_eq_true,Nat.reduceLT]; done) | omega | (simp only [yz] <;> omega) | fail)) only [↓yp,yq0,yq1,yq2,yq3,yq4,yl,ys0,ys1,Nat.reduceAdd,Nat.reduceMul,Nat.reduceSub,Nat.reduceBEq,Nat.reduceEqDiff,Nat.reduceLT,Nat.reduceLeDiff,reduceIte,Int.reduceAdd,Int.reduceSub,Int.reduceMul,Int.reduceLT,Int.reduceLE,Int.reduceEq,Int.reduceToNat,Int.reduceNeg,zed,zee,zfr,zhw,ysu,yrg,ysv,ysw,ysx,ysz,q8,b81]
    refine c19g (I.sl.fr f1) (by omega) hne (by omega) (by omega) ?_
    intro kb H3 f3 q1 q2 q3
    have sz3 := f3.size
    simp (disch := (first | (simp only [ne_eq,Nat.reduceEqDiff,not_false_eq_true,Nat.reduceLT]; done) | omega | (simp only [yz] <;> omega) | fail)) only [↓yp,yq0,yq1,yq2,yq3,yq4,yl,ys0,ys1,Nat.reduceAdd,Nat.reduceMul,Nat.reduceSub,Nat.reduceBEq,Nat.reduceEqDiff,Nat.reduceLT,Nat.reduceLeDiff,reduceIte,Int.reduceAdd,Int.reduceSub,Int.reduceMul,Int.reduceLT,Int.reduceLE,Int.reduceEq,Int.reduceToNat,Int.reduceNeg,zed,zee,zfr,zhw,ysu,yrg,ysv,ysw,ysx,ysz]
    refine ⟨by (with_reducible (repeat (first | refine Keep.put ?_ (by decide) | refine Keep.none ?_ | assumption | exact Keep.refl _ _ _))), ?_, kb, H3.size, ?_, Fr.put (Fr.allocd f3 _) (by omega) _, q1, by (first | omega | (simp only [yz] <;> omega)), by omega, by (first | omega | (simp only [yz] <;> omega)), by omega, ?_, zdc (by (first | omega | (simp only [yz] <;> omega)))⟩
    · simp (disch := (first | (simp only [ne_eq,Nat.reduceEqDiff,not_false_eq_true,Nat.reduceLT]; done) | omega | (simp only [yz] <;> omega) | fail)) only [yg,Nat.reduceAdd,Nat.reduceEqDiff,Nat.reduceLT,g13]
    · simp (disch := (first | (simp only [ne_eq,Nat.reduceEqDiff,not_false_eq_true,Nat.reduceLT]; done) | omega | (simp only [yz] <;> omega) | fail)) only [yg,Nat.reduceAdd,Nat.reduceEqDiff,Nat.reduceLT]
    · rw [zdd (by omega), zdb (by omega)]; exact q3
  clear k1 g13
  rintro e2 H2 ⟨k1, g13, kb, kt, g14, f2, q1, q2, q3, q4, q5, bb, bt⟩
  have sz2 := f2.size
  have b132 := (f2.same H'.size (by omega)).trans b13
  refine W_seqI (fun e' H'' => M15 H C w ld l i8 i9 a' cap' fr to m k H'.size kt kb e' H'') ?_ ?_
  · have f12 := f1.trans f2
    simp (disch := (first | (simp only [ne_eq,Nat.reduceEqDiff,not_false_eq_true,Nat.reduceLT]; done) | omega | (simp only [yz] <;> omega) | fail)) only [↓yp,yq0,yq1,yq2,yq3,yq4,yl,ys0,ys1,Nat.reduceAdd,Nat.reduceMul,Nat.reduceSub,Nat.reduceBEq,Nat.reduceEqDiff,Nat.reduceLT,Nat.reduceLeDiff,reduceIte,Int.reduceAdd,Int.reduceSub,Int.reduceMul,Int.reduceLT,Int.reduceLE,Int.reduceEq,Int.reduceToNat,Int.reduceNeg,zed,zee,zfr,zhw,ysu,yrg,ysv,ysw,ysx,ysz,g13,g14,bt,b132,hw]
    refine c61 bb q2 (by omega) hkl (by omega) (by omega) ?_
    intro c H4 hc1 hc2 hx hs hbk
    have b4 : H4.get kt = .rw [.int .i64 C, .slice (some ⟨kb, 0, none⟩) l.length (OPEN + 9)] 24 false [] := by rw [hx.same _ q4 (by omega)]; exact bt
    have b134 : H4.get H'.size = .rw [.int .i64 (k : Nat)] 3 false [] := by rw [hx.same _ (by omega) (by omega)]; exact b132
    simp (disch := (first | (simp only [ne_eq,Nat.reduceEqDiff,not_false_eq_true,Nat.reduceLT]; done) | omega | (simp only [yz] <;> omega) | fail)) only [↓yp,yq0,yq1,yq2,yq3,yq4,yl,ys0,ys1,Nat.reduceAdd,Nat.reduceMul,Nat.reduceSub,Nat.reduceBEq,Nat.reduceEqDiff,Nat.reduceLT,Nat.reduceLeDiff,reduceIte,Int.reduceAdd,Int.reduceSub,Int.reduceMul,Int.reduceLT,Int.reduceLE,Int.reduceEq,Int.reduceToNat,Int.reduceNeg,zed,zee,zfr,zhw,ysu,yrg,ysv,ysw,ysx,ysz,g14,b4]
    have hel : (l.eraseIdx k).length = l.length - 1 := List.length_eraseIdx_of_lt hkl
    have fx : Fr H' (H4.put kt (.rw [.int .i64 C, .slice (some ⟨kb, 0, none⟩) (l.length - 1) (OPEN + 9)] 24 false [])) := Fr.put (hx.above f12 (by omega)) (by omega) _
    refine ⟨I.next fx (fun p hp => (Keep.trans k1 (show Keep 162 [8, 9, 10, 11, 12] e2 _ by (with_reducible (repeat (first | refine Keep.put ?_ (by decide) | refine Keep.none ?_ | assumption | exact Keep.refl _ _ _))))) p (by simp at hp ⊢; omega)), ?_, ?_, ?_, ?_, ?_, by (first | omega | (simp only [yz] <;> omega)), by (first | omega | (simp only [yz] <;> omega)), ?_, ?_, ?_⟩
    · simp (disch := (first | (simp only [ne_eq,Nat.reduceEqDiff,not_false_eq_true,Nat.reduceLT]; done) | omega | (simp only [yz] <;> omega) | fail)) only [yg,Nat.reduceAdd,Nat.reduceEqDiff,Nat.reduceLT]; exact (k1 10 (by simp)).trans g10
    · simp (disch := (first | (simp only [ne_eq,Nat.reduceEqDiff,not_false_eq_true,Nat.reduceLT]; done) | omega | (simp only [yz] <;> omega) | fail)) only [yg,Nat.reduceAdd,Nat.reduceEqDiff,Nat.reduceLT]; exact (k1 11 (by simp)).trans g11
    · simp (disch := (first | (simp only [ne_eq,Nat.reduceEqDiff,not_false_eq_true,Nat.reduceLT]; done) | omega | (simp only [yz] <;> omega) | fail)) only [yg,Nat.reduceAdd,Nat.reduceEqDiff,Nat.reduceLT]; exact (k1 12 (by simp)).trans g12
    · simp (disch := (first | (simp only [ne_eq,Nat.reduceEqDiff,not_false_eq_true,Nat.reduceLT]; done) | omega | (simp only [yz] <;> omega) | fail)) only [yg,Nat.reduceAdd,Nat.reduceEqDiff,Nat.reduceLT,g13]
    · simp (disch := (first | (simp only [ne_eq,Nat.reduceEqDiff,not_false_eq_true,Nat.reduceLT]; done) | omega | (simp only [yz] <;> omega) | fail)) only [yg,Nat.reduceAdd,Nat.reduceEqDiff,Nat.reduceLT,g14]
    · rw [zdd (by omega)]; exact b134
    · rw [zdc (by (first | omega | (simp only [yz] <;> omega))), hel]
    · exact sl_cut (by (first | omega | (simp only [yz] <;> omega))) (by rw [zdd (by omega), hbk]; rfl) (by rw [hel]; exact hc2)
  intro e3 H3 I3
  exact hc _ _ _ _ _ _ hkl I3
end
end Go.Am
/- The law StreetMissed: two tables. -/
namespace Go.Am
open Go.Proofs
variable {T : Tab} {P : Program} {N L : Nat} {H : AHeap} {Q : Bool → Value → AHeap → Prop}
/-- The two tables. -/
structure N15 (H : AHeap) (C w ld : Int) (l : List Str) (i8 i9 : Nat) (a' : Option Addr) (cap' : Nat) (fr to m : Int) (k k13 k14 kb k15 c15 k16 c16 : Nat) (e : VT) (H' : AHeap) : Prop where
  p : M15 H C w ld l i8 i9 a' cap' fr to m k k13 k14 kb e H'
  g15 : gt 162 e 15 = .slice (some ⟨k15, 0, none⟩) C.toNat c15
  g16 : gt 162 e 16 = .slice (some ⟨k16, 0, none⟩) C.toNat c16
  l15 : k15 < H'.size
  l16 : k16 < H'.size
  b15 : H'.get k15 = .rw (tv ((earT C l w ld fr m).take C.toNat)) 3 true []
  b16 : H'.get k16 = .rw (tv ((earT C (l.eraseIdx k) w ld fr m).take C.toNat)) 3 true []
section
variable {l : List Str} {C w ld fr to m y : Int} {i8 i9 k k13 k14 kb k15 c15 k16 c16 : Nat} {a' : Option Addr} {cap' : Nat} {H' H'' : AHeap} {e e' : VT}
theorem N15.next (I : N15 H C w ld l i8 i9 a' cap' fr to m k k13 k14 kb k15 c15 k16 c16 e H') (f : Fr H' H'') (h : Keep 162 [8, 9, 10, 11, 12, 13, 14, 15, 16] e e') : N15 H C w ld l i8 i9 a' cap' fr to m k k13 k14 kb k15 c15 k16 c16 e' H'' where
  p := I.p.next f (fun p hp => h p (by simp at hp ⊢; omega))
  g15 := (h 15 (by simp)).trans I.g15
  g16 := (h 16 (by simp)).trans I.g16
  l15 := Nat.lt_of_lt_of_le I.l15 f.size
  l16 := Nat.lt_of_lt_of_le I.l16 f.size
  b15 := (f.same _ I.l15).trans I.b15
  b16 := (f.same _ I.l16).trans I.b16
set_option maxHeartbeats 4000000 in
set_option maxRecDepth 10000 in
theorem c15b (I : M15 H C w ld l i8 i9 a' cap' fr to m k k13 k14 kb e H') (hC : 1 ≤ C ∧ C ≤ 8) (hl : l.length ≤ 16) (ho : ∀ s ∈ l, OkS C s) (hw : 1 ≤ w ∧ w ≤ 9) (hd : 0 ≤ ld ∧ ld ≤ 9) (hfr : 0 ≤ fr ∧ fr < C) (hm : 0 ≤ m ∧ m ≤ 240)
    (hc : ∀ k15 c15 k16 c16 e' H'', N15 H C w ld l i8 i9 a' cap' fr to m k k13 k14 kb k15 c15 k16 c16 e' H'' → W tabA Try.prog (N + 39999) none (sub [true, true, true, true, true, true, true, true, true, true] (bodyOf Try.f15)) H.size ⟨162, e', H'', []⟩ (retK tabA H.size [.tmp 6] fun v _ => v = .bool true)) :
    W tabA Try.prog (N + 40000) none (sub [true, true, true, true, true, true, true, true, true] (bodyOf Try.f15)) H.size ⟨162, e, H', []⟩ (retK tabA H.size [.tmp 6] fun v _ => v = .bool true) := by
  simp only [Try.f15,bodyOf,sub_nil,sub_seq0,sub_seq1,sub_block,sub_loop,sub_cond0,sub_cond1] at hc ⊢
  have g8 := I.p.g8
  have g9 := I.p.g9
  have b8 := I.p.b8
  have b9 := I.p.b9
  have l8 := I.p.l8
  have l9 := I.p.l9
  have g10 := I.g10
  have g12 := I.g12
  have g14 := I.g14
  have b14 := I.b14
  have l14 := I.l14
  have szI := I.p.fr.size
  have hle : (l.eraseIdx k).length ≤ 16 := Nat.le_trans (List.length_eraseIdx_le l k) hl
  refine W_seqI (fun e' H'' => ∃ k15 c15 k16 c16, N15 H C w ld l i8 i9 a' cap' fr to m k k13 k14 kb k15 c15 k16 c16 e' H'') ?_ (fun e' H'' ⟨_, _, _, _, h⟩ => hc _ _ _ _ _ _ h)
  obtain ⟨fl, v, H1, mm, hres, hLm, k15, c15, rfl, rfl, f1, p1, p2, p3⟩ := resK_elim (Q := fun f v H'' => ∃ k c, f = false ∧ v = .slice (some ⟨k, 0, none⟩) C.toNat c ∧ Fr H' H'' ∧ H'.size ≤ k ∧ k < H''.size ∧ H''.get k = .rw (tv ((earT C l w ld fr m).take C.toNat)) 3 true []) (c52 (L := H'.size) (M := N + 39998) (cap := cap') I.p.sl (by omega) (asked_zero (cs := [fr]) (ms := [m]) hC hl ho hw hd (by simp; omega) (by simp; omega)) (Nat.le_refl _) (by omega) fun k c H'' h1 h2 h3 h4 => ⟨k, c, rfl, rfl, h1, h2, h3, h4⟩)
  obtain ⟨fl2, v2, H2, mm2, hres2, hLm2, k16, c16, rfl, rfl, f2, q1, q2, q3⟩ := resK_elim (Q := fun f v H'' => ∃ k' c, f = false ∧ v = .slice (some ⟨k', 0, none⟩) C.toNat c ∧ Fr H1 H'' ∧ H1.size ≤ k' ∧ k' < H''.size ∧ H''.get k' = .rw (tv ((earT C (l.eraseIdx k) w ld fr m).take C.toNat)) 3 true []) (c52 (L := H1.size) (M := N + 39998) (cap := OPEN + 9) (I.s14.fr f1) (by omega) (asked_zero (cs := [fr]) (ms := [m]) hC hle (ok_erase ho) hw hd (by simp; omega) (by simp; omega)) (Nat.le_refl _) (by omega) fun k c H'' h1 h2 h3 h4 => ⟨k, c, rfl, rfl, h1, h2, h3, h4⟩)
  have s1 := f1.size
  have s2 := f2.size
  have b81 := (f1.same _ l8).trans b8
  have b91 := (f1.same _ l9).trans b9
  have b141 := (f1.same _ l14).trans b14
  have b82 := (f2.same i8 (by omega)).trans b81
  have b92 := (f2.same i9 (by omega)).trans b91
  have b142 := (f2.same k14 (by omega)).trans b141
  refine W_draw [4, 9] rfl (by kernel_rfl) (by kernel_rfl) (by (first | omega | (simp only [yz] <;> omega))) ?_
  simp (disch := (first | (simp only [ne_eq,Nat.reduceEqDiff,not_false_eq_true,Nat.reduceLT]; done) | omega | (simp only [yz] <;> omega) | fail)) only [↓yp,yq0,yq1,yq2,yq3,yq4,yl,ys0,ys1,Nat.reduceAdd,Nat.reduceMul,Nat.reduceSub,Nat.reduceBEq,Nat.reduceEqDiff,Nat.reduceLT,Nat.reduceLeDiff,reduceIte,Int.reduceAdd,Int.reduceSub,Int.reduceMul,Int.reduceLT,Int.reduceLE,Int.reduceEq,Int.reduceToNat,Int.reduceNeg,zed,zee,zfr,zhw,ysu,yrg,ysv,ysw,ysx,ysz,g8,g9,g10,g12,g14,b8,b9,b14,b81,b91,b141,b82,b92,b142,hres,hres2]
  refine ⟨k15, c15, k16, c16, I.next (f1.trans f2) (by (with_reducible (repeat (first | refine Keep.put ?_ (by decide) | refine Keep.none ?_ | assumption | exact Keep.refl _ _ _)))), ?_, ?_, by omega, q2, ?_, q3⟩
  · simp (disch := (first | (simp only [ne_eq,Nat.reduceEqDiff,not_false_eq_true,Nat.reduceLT]; done) | omega | (simp only [yz] <;> omega) | fail)) only [yg,Nat.reduceAdd,Nat.reduceEqDiff,Nat.reduceLT]
  · simp (disch := (first | (simp only [ne_eq,Nat.reduceEqDiff,not_false_eq_true,Nat.reduceLT]; done) | omega | (simp only [yz] <;> omega) | fail)) only [yg,Nat.reduceAdd,Nat.reduceEqDiff,Nat.reduceLT]
  · rw [f2.same _ p2]; exact p3
/-- The least minutes, and how much later it is without the street. -/
theorem late_zero (h0 : asked C l w ld [fr, to] [(k : Int)] [m] = 0) : lateG C l w ld fr to m k = lateA C l w ld fr to m k := by
  unfold lateG
  rw [if_neg (by simpa using h0)]
set_option maxHeartbeats 4000000 in
set_option maxRecDepth 10000 in
theorem c15c (I : N15 H C w ld l i8 i9 a' cap' fr to m k k13 k14 kb k15 c15 k16 c16 e H') (hl : l.length ≤ 16) (h0 : asked C l w ld [fr, to] [(k : Int)] [m] = 0) (hC : 1 ≤ C)
    (hc : ∀ e' H'', N15 H C w ld l i8 i9 a' cap' fr to m k k13 k14 kb k15 c15 k16 c16 e' H'' → gt 162 e' 17 = .int .i64 (lateA C l w ld fr to m k).1 → gt 162 e' 18 = .int .i64 (lateA C l w ld fr to m k).2 → W tabA Try.prog (N + 39997) none (sub [true, true, true, true, true, true, true, true, true, true, true, true] (bodyOf Try.f15)) H.size ⟨162, e', H'', []⟩ (retK tabA H.size [.tmp 6] fun v _ => v = .bool true)) :
    W tabA Try.prog (N + 39999) none (sub [true, true, true, true, true, true, true, true, true, true] (bodyOf Try.f15)) H.size ⟨162, e, H', []⟩ (retK tabA H.size [.tmp 6] fun v _ => v = .bool true) := by
  simp only [Try.f15,bodyOf,sub_nil,sub_seq0,sub_seq1,sub_block,sub_loop,sub_cond0,sub_cond1] at hc ⊢
  have g8 := I.p.p.g8
  have g9 := I.p.p.g9
  have b8 := I.p.p.b8
  have b9 := I.p.p.b9
  have l8 := I.p.p.l8
  have l9 := I.p.p.l9
  have g10 := I.p.g10
  have g11 := I.p.g11
  have g12 := I.p.g12
  have g13 := I.p.g13
  have b13 := I.p.b13
  have l13 := I.p.l13
  have szI := I.p.p.fr.size
  refine W_seqI (fun e' H'' => N15 H C w ld l i8 i9 a' cap' fr to m k k13 k14 kb k15 c15 k16 c16 e' H'' ∧ gt 162 e' 17 = .int .i64 (lateA C l w ld fr to m k).1 ∧ gt 162 e' 18 = .int .i64 (lateA C l w ld fr to m k).2) ?_ ?_
  · simp (disch := (first | (simp only [ne_eq,Nat.reduceEqDiff,not_false_eq_true,Nat.reduceLT]; done) | omega | (simp only [yz] <;> omega) | fail)) only [↓yp,yq0,yq1,yq2,yq3,yq4,yl,ys0,ys1,Nat.reduceAdd,Nat.reduceMul,Nat.reduceSub,Nat.reduceBEq,Nat.reduceEqDiff,Nat.reduceLT,Nat.reduceLeDiff,reduceIte,Int.reduceAdd,Int.reduceSub,Int.reduceMul,Int.reduceLT,Int.reduceLE,Int.reduceEq,Int.reduceToNat,Int.reduceNeg,zed,zee,zfr,zhw,ysu,yrg,ysv,ysw,ysx,ysz,g8,g9,g10,g11,g12,g13,b8,b9,b13]
    rw [c46 I.p.p.sl (by omega), late_zero h0]
    simp (disch := (first | (simp only [ne_eq,Nat.reduceEqDiff,not_false_eq_true,Nat.reduceLT]; done) | omega | (simp only [yz] <;> omega) | fail)) only [↓yp,yq0,yq1,yq2,yq3,yq4,yl,ys0,ys1,Nat.reduceAdd,Nat.reduceMul,Nat.reduceSub,Nat.reduceBEq,Nat.reduceEqDiff,Nat.reduceLT,Nat.reduceLeDiff,reduceIte,Int.reduceAdd,Int.reduceSub,Int.reduceMul,Int.reduceLT,Int.reduceLE,Int.reduceEq,Int.reduceToNat,Int.reduceNeg,zed,zee,zfr,zhw,ysu,yrg,ysv,ysw,ysx,ysz]
    exact ⟨I.next (Fr.refl _) (by (with_reducible (repeat (first | refine Keep.put ?_ (by decide) | refine Keep.none ?_ | assumption | exact Keep.refl _ _ _)))), by simp (disch := (first | (simp only [ne_eq,Nat.reduceEqDiff,not_false_eq_true,Nat.reduceLT]; done) | omega | (simp only [yz] <;> omega) | fail)) only [yg,Nat.reduceAdd,Nat.reduceEqDiff,Nat.reduceLT], by simp (disch := (first | (simp only [ne_eq,Nat.reduceEqDiff,not_false_eq_true,Nat.reduceLT]; done) | omega | (simp only [yz] <;> omega) | fail)) only [yg,Nat.reduceAdd,Nat.reduceEqDiff,Nat.reduceLT]⟩
  rintro e2 H2 ⟨I2, g17, g18⟩
  have g15 := I2.g15
  have g16 := I2.g16
  have szI2 := I2.p.p.fr.size
  refine W_seqI (fun e' H'' => N15 H C w ld l i8 i9 a' cap' fr to m k k13 k14 kb k15 c15 k16 c16 e' H'' ∧ gt 162 e' 17 = .int .i64 (lateA C l w ld fr to m k).1 ∧ gt 162 e' 18 = .int .i64 (lateA C l w ld fr to m k).2) ?_ (fun e' H'' h => hc e' H'' h.1 h.2.1 h.2.2)
  simp (disch := (first | (simp only [ne_eq,Nat.reduceEqDiff,not_false_eq_true,Nat.reduceLT]; done) | omega | (simp only [yz] <;> omega) | fail)) only [↓yp,yq0,yq1,yq2,yq3,yq4,yl,ys0,ys1,Nat.reduceAdd,Nat.reduceMul,Nat.reduceSub,Nat.reduceBEq,Nat.reduceEqDiff,Nat.reduceLT,Nat.reduceLeDiff,reduceIte,Int.reduceAdd,Int.reduceSub,Int.reduceMul,Int.reduceLT,Int.reduceLE,Int.reduceEq,Int.reduceToNat,Int.reduceNeg,zed,zee,zfr,zhw,ysu,yrg,ysv,ysw,ysx,ysz,g15,g16,binV_nil_some zir]
  exact ⟨I2.next (Fr.refl _) (by (with_reducible (repeat (first | refine Keep.put ?_ (by decide) | refine Keep.none ?_ | assumption | exact Keep.refl _ _ _)))), by simp (disch := (first | (simp only [ne_eq,Nat.reduceEqDiff,not_false_eq_true,Nat.reduceLT]; done) | omega | (simp only [yz] <;> omega) | fail)) only [yg,Nat.reduceAdd,Nat.reduceEqDiff,Nat.reduceLT,g17], by simp (disch := (first | (simp only [ne_eq,Nat.reduceEqDiff,not_false_eq_true,Nat.reduceLT]; done) | omega | (simp only [yz] <;> omega) | fail)) only [yg,Nat.reduceAdd,Nat.reduceEqDiff,Nat.reduceLT,g18]⟩
set_option maxHeartbeats 4000000 in
set_option maxRecDepth 10000 in
theorem c15d {t : Nat} (I : N15 H C w ld l i8 i9 a' cap' fr t m k k13 k14 kb k15 c15 k16 c16 e H') (hl : l.length ≤ 16) (g : Good C l ld) (g' : Good C (l.eraseIdx k) ld) (ht : (t : Int) < C) (hfr : 0 ≤ fr ∧ fr < C) (hm : 0 ≤ m ∧ m ≤ 240)
    (g17 : gt 162 e 17 = .int .i64 (lateA C l w ld fr t m k).1) (g18 : gt 162 e 18 = .int .i64 (lateA C l w ld fr t m k).2)
    (hc : tg (earT C l w ld fr m) t ≠ -1 → tg (earT C (l.eraseIdx k) w ld fr m) t ≠ -1 → ∀ e' H'', N15 H C w ld l i8 i9 a' cap' fr t m k k13 k14 kb k15 c15 k16 c16 e' H'' → gt 162 e' 17 = .int .i64 (lateA C l w ld fr t m k).1 → gt 162 e' 18 = .int .i64 (lateA C l w ld fr t m k).2 → W tabA Try.prog (N + 39996) none (sub [true, true, true, true, true, true, true, true, true, true, true, true, true] (bodyOf Try.f15)) H.size ⟨162, e', H'', []⟩ (retK tabA H.size [.tmp 6] fun v _ => v = .bool true)) :
    W tabA Try.prog (N + 39997) none (sub [true, true, true, true, true, true, true, true, true, true, true, true] (bodyOf Try.f15)) H.size ⟨162, e, H', []⟩ (retK tabA H.size [.tmp 6] fun v _ => v = .bool true) := by
  simp only [Try.f15,bodyOf,sub_nil,sub_seq0,sub_seq1,sub_block,sub_loop,sub_cond0,sub_cond1] at hc ⊢
  have g11 := I.p.g11
  have g15 := I.g15
  have g16 := I.g16
  have b15 := I.b15
  have b16 := I.b16
  have l15 := I.l15
  have l16 := I.l16
  have szI := I.p.p.fr.size
  have e8 := earT_ok (w := w) g (fr := fr) (a₀ := m) hfr hm
  have e9 := earT_ok (w := w) g' (fr := fr) (a₀ := m) hfr hm
  have t8 := take_at e8.1 g.hC (x := (t : Int)) (by omega)
  have t9 := take_at e9.1 g.hC (x := (t : Int)) (by omega)
  rw [Int.toNat_natCast] at t8 t9
  by_cases h1 : tg (earT C l w ld fr m) t = -1
  · have hA : (lateA C l w ld fr t m k).2 = 1 := by unfold lateA; rw [if_pos h1]
    rw [hA] at g18
    have d1 : decide (tg (earT C l w ld fr m) t = -1) = true := decide_eq_true h1
    simp (disch := (first | (simp only [ne_eq,Nat.reduceEqDiff,not_false_eq_true,Nat.reduceLT]; done) | omega | (simp only [yz] <;> omega) | fail)) only [↓yp,yq0,yq1,yq2,yq3,yq4,yl,ys0,ys1,Nat.reduceAdd,Nat.reduceMul,Nat.reduceSub,Nat.reduceBEq,Nat.reduceEqDiff,Nat.reduceLT,Nat.reduceLeDiff,reduceIte,Int.reduceAdd,Int.reduceSub,Int.reduceMul,Int.reduceLT,Int.reduceLE,Int.reduceEq,Int.reduceToNat,Int.reduceNeg,zed,zee,zfr,zhw,ysu,yrg,ysv,ysw,ysx,ysz,g11,g15,g16,g18,b15,b16,A_indexSlice zir,t8,d1,awake_r]
  · have d1 : decide (tg (earT C l w ld fr m) t = -1) = false := decide_eq_false h1
    by_cases h2 : tg (earT C (l.eraseIdx k) w ld fr m) t = -1
    · have hA : (lateA C l w ld fr t m k).2 = 9 := by unfold lateA; rw [if_neg h1, Int.toNat_natCast, if_pos h2]
      rw [hA] at g18
      have d2 : decide (tg (earT C (l.eraseIdx k) w ld fr m) t = -1) = true := decide_eq_true h2
      simp (disch := (first | (simp only [ne_eq,Nat.reduceEqDiff,not_false_eq_true,Nat.reduceLT]; done) | omega | (simp only [yz] <;> omega) | fail)) only [↓yp,yq0,yq1,yq2,yq3,yq4,yl,ys0,ys1,Nat.reduceAdd,Nat.reduceMul,Nat.reduceSub,Nat.reduceBEq,Nat.reduceEqDiff,Nat.reduceLT,Nat.reduceLeDiff,reduceIte,Int.reduceAdd,Int.reduceSub,Int.reduceMul,Int.reduceLT,Int.reduceLE,Int.reduceEq,Int.reduceToNat,Int.reduceNeg,zed,zee,zfr,zhw,ysu,yrg,ysv,ysw,ysx,ysz,g11,g15,g16,g18,b15,b16,A_indexSlice zir,t8,t9,d1,d2,awake_r]
    · have d2 : decide (tg (earT C (l.eraseIdx k) w ld fr m) t = -1) = false := decide_eq_false h2
      refine W_seqI (fun e' H'' => N15 H C w ld l i8 i9 a' cap' fr t m k k13 k14 kb k15 c15 k16 c16 e' H'' ∧ gt 162 e' 17 = .int .i64 (lateA C l w ld fr t m k).1 ∧ gt 162 e' 18 = .int .i64 (lateA C l w ld fr t m k).2) ?_ (fun e' H'' h => hc h1 h2 e' H'' h.1 h.2.1 h.2.2)
      simp (disch := (first | (simp only [ne_eq,Nat.reduceEqDiff,not_false_eq_true,Nat.reduceLT]; done) | omega | (simp only [yz] <;> omega) | fail)) only [↓yp,yq0,yq1,yq2,yq3,yq4,yl,ys0,ys1,Nat.reduceAdd,Nat.reduceMul,Nat.reduceSub,Nat.reduceBEq,Nat.reduceEqDiff,Nat.reduceLT,Nat.reduceLeDiff,reduceIte,Int.reduceAdd,Int.reduceSub,Int.reduceMul,Int.reduceLT,Int.reduceLE,Int.reduceEq,Int.reduceToNat,Int.reduceNeg,zed,zee,zfr,zhw,ysu,yrg,ysv,ysw,ysx,ysz,g11,g15,g16,b15,b16,A_indexSlice zir,t8,t9,d1,d2]
      exact ⟨I.next (Fr.refl _) (by (with_reducible (repeat (first | refine Keep.put ?_ (by decide) | refine Keep.none ?_ | assumption | exact Keep.refl _ _ _)))), by simp (disch := (first | (simp only [ne_eq,Nat.reduceEqDiff,not_false_eq_true,Nat.reduceLT]; done) | omega | (simp only [yz] <;> omega) | fail)) only [yg,Nat.reduceAdd,Nat.reduceEqDiff,Nat.reduceLT,g17], by simp (disch := (first | (simp only [ne_eq,Nat.reduceEqDiff,not_false_eq_true,Nat.reduceLT]; done) | omega | (simp only [yz] <;> omega) | fail)) only [yg,Nat.reduceAdd,Nat.reduceEqDiff,Nat.reduceLT,g18]⟩
end
end Go.Am
