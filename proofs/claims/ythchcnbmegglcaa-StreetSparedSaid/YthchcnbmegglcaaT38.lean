/- The law StreetSpared. -/
import Derived.Test.YthchcnbmegglcaaT37
set_option linter.unusedSimpArgs false
set_option linter.unusedVariables false
namespace Go.Am
open Go.Proofs
variable {T : Tab} {P : Program} {N L : Nat} {H : AHeap} {Q : Bool → Value → AHeap → Prop}
section
variable {a : Option Addr} {cap : Nat} {bs : List Int}
theorem awake_e {ex : Exec} : acall tabA ex 18 [] H = some (true, .bool true, H, H.size) := nr rfl
set_option maxHeartbeats 4000000 in
set_option maxRecDepth 10000 in
theorem c11 {x y : Int} (hb : Bts H a bs) (hx : 0 ≤ x ∧ x < 256) (hy : 0 ≤ y ∧ y < 256) :
    acall tabA (aexec tabA Try.prog (N + 8000)) 11 [.slice a bs.length cap, .int .u8 x, .int .u8 y] H = some (true, .bool true, H, H.size) := by
  refine call_quiet (k := 223) (rs := [.tmp 6]) rfl fn_11 rfl rfl rfl ?_ rfl
  simp (disch := (first | (simp only [ne_eq,Nat.reduceEqDiff,not_false_eq_true,Nat.reduceLT]; done) | omega | (simp only [yz] <;> omega) | fail)) only [↓yp,yq0,yq1,yq2,yq3,yq4,yl,ys0,ys1,Nat.reduceAdd,Nat.reduceMul,Nat.reduceSub,Nat.reduceBEq,Nat.reduceEqDiff,Nat.reduceLT,Nat.reduceLeDiff,reduceIte,Int.reduceAdd,Int.reduceSub,Int.reduceMul,Int.reduceLT,Int.reduceLE,Int.reduceEq,Int.reduceToNat,Int.reduceNeg,zed,zee,zfr,zhw,ysu,yrg,ysv]
  refine c48 hb (Nat.le_refl _) (by omega) ?_
  intro H1 fr1 hs1 hc1
  simp (disch := (first | (simp only [ne_eq,Nat.reduceEqDiff,not_false_eq_true,Nat.reduceLT]; done) | omega | (simp only [yz] <;> omega) | fail)) only [↓yp,yq0,yq1,yq2,yq3,yq4,yl,ys0,ys1,Nat.reduceAdd,Nat.reduceMul,Nat.reduceSub,Nat.reduceBEq,Nat.reduceEqDiff,Nat.reduceLT,Nat.reduceLeDiff,reduceIte,Int.reduceAdd,Int.reduceSub,Int.reduceMul,Int.reduceLT,Int.reduceLE,Int.reduceEq,Int.reduceToNat,Int.reduceNeg,zed,zee,zfr,zhw,ysu,yrg,ysv]
  refine c49 hc1 (by omega) (by omega) (Nat.le_refl _) (by omega) ?_
  intro f2 a' cap' C l H2 hC1 hC2 hl ho hn hsl hc2 hx2
  have sz2 := hx2.size
  simp (disch := (first | (simp only [ne_eq,Nat.reduceEqDiff,not_false_eq_true,Nat.reduceLT]; done) | omega | (simp only [yz] <;> omega) | fail)) only [↓yp,yq0,yq1,yq2,yq3,yq4,yl,ys0,ys1,Nat.reduceAdd,Nat.reduceMul,Nat.reduceSub,Nat.reduceBEq,Nat.reduceEqDiff,Nat.reduceLT,Nat.reduceLeDiff,reduceIte,Int.reduceAdd,Int.reduceSub,Int.reduceMul,Int.reduceLT,Int.reduceLE,Int.reduceEq,Int.reduceToNat,Int.reduceNeg,zed,zee,zfr,zhw,ysu,yrg,ysv]
  have hc2' : Chu ((H2.alloc (.rw [.int .i64 0, .slice none 0 0] 24 false [])).put H2.size (.rw [.int .i64 C, .slice a' l.length cap'] 24 false [])) H.size a bs cap := (hc2.fr (Fr.alloc _ _)).other (by omega) (fun c e => by rw [zda rfl] at e; cases e)
  refine c50 hc2' (Nat.le_refl _) (by omega) ?_
  intro f3 w ld H3 hw1 hw2 hd1 hd2 hc3 hx3
  have sz3 := hx3.size
  simp only [zde,zdf] at sz3
  simp (disch := (first | (simp only [ne_eq,Nat.reduceEqDiff,not_false_eq_true,Nat.reduceLT]; done) | omega | (simp only [yz] <;> omega) | fail)) only [↓yp,yq0,yq1,yq2,yq3,yq4,yl,ys0,ys1,Nat.reduceAdd,Nat.reduceMul,Nat.reduceSub,Nat.reduceBEq,Nat.reduceEqDiff,Nat.reduceLT,Nat.reduceLeDiff,reduceIte,Int.reduceAdd,Int.reduceSub,Int.reduceMul,Int.reduceLT,Int.reduceLE,Int.reduceEq,Int.reduceToNat,Int.reduceNeg,zed,zee,zfr,zhw,ysu,yrg,ysv]
  have fr2 : Fr H H2 := hx2.above fr1 (by omega)
  have fr3 : Fr H H3 := hx3.above (Fr.put (Fr.allocd fr2 _) (by omega) _) (by omega)
  have b83 : H3.get H2.size = .rw [.int .i64 C, .slice a' l.length cap'] 24 false [] := by
    rw [hx3.same _ (by (first | omega | (simp only [yz] <;> omega))) (by omega)]; exact zdc (by (first | omega | (simp only [yz] <;> omega)))
  have sl2' : Sl ((H2.alloc (.rw [.int .i64 0, .slice none 0 0] 24 false [])).put H2.size (.rw [.int .i64 C, .slice a' l.length cap'] 24 false [])) a' l := Sl.put (hsl.fr (Fr.alloc _ _)) (c := [.int .i64 0, .slice none 0 0]) (by rw [zda rfl]; rfl) (by simp)
  have sl3 : Sl H3 a' l := sl2'.frx hc2' hx3
  refine W_gen (fun e H' => LP 223 H C w ld l H2.size H3.size a' cap' e H' ∧ gt 223 e 7 = .pointer (some ⟨H.size, 0, none⟩) ∧ gt 223 e 1 = .int .u8 x ∧ gt 223 e 2 = .int .u8 y ∧ Chu H' H.size a bs cap) ⟨⟨?_, ?_, ?_, ?_, ?_, ?_, ?_, ?_⟩, ?_, ?_, ?_, ?_⟩ ?_
  · simp (disch := (first | (simp only [ne_eq,Nat.reduceEqDiff,not_false_eq_true,Nat.reduceLT]; done) | omega | (simp only [yz] <;> omega) | fail)) only [yg,Nat.reduceAdd,Nat.reduceEqDiff,Nat.reduceLT]
  · simp (disch := (first | (simp only [ne_eq,Nat.reduceEqDiff,not_false_eq_true,Nat.reduceLT]; done) | omega | (simp only [yz] <;> omega) | fail)) only [yg,Nat.reduceAdd,Nat.reduceEqDiff,Nat.reduceLT]
  · exact Fr.put (Fr.allocd fr3 _) (by omega) _
  · (first | omega | (simp only [yz] <;> omega))
  · (first | omega | (simp only [yz] <;> omega))
  · rw [zdd (by omega), zdb (by omega)]; exact b83
  · exact zdc (by (first | omega | (simp only [yz] <;> omega)))
  · exact Sl.put (sl3.fr (Fr.alloc _ _)) (c := [.int .i64 0, .int .i64 0]) (by rw [zda rfl]; rfl) (by simp)
  · simp (disch := (first | (simp only [ne_eq,Nat.reduceEqDiff,not_false_eq_true,Nat.reduceLT]; done) | omega | (simp only [yz] <;> omega) | fail)) only [yg,Nat.reduceAdd,Nat.reduceEqDiff,Nat.reduceLT]
  · simp (disch := (first | (simp only [ne_eq,Nat.reduceEqDiff,not_false_eq_true,Nat.reduceLT]; done) | omega | (simp only [yz] <;> omega) | fail)) only [yg,Nat.reduceAdd,Nat.reduceEqDiff,Nat.reduceLT]
  · simp (disch := (first | (simp only [ne_eq,Nat.reduceEqDiff,not_false_eq_true,Nat.reduceLT]; done) | omega | (simp only [yz] <;> omega) | fail)) only [yg,Nat.reduceAdd,Nat.reduceEqDiff,Nat.reduceLT]
  · exact (hc3.fr (Fr.alloc _ _)).other (by omega) (fun c e => by rw [zda rfl] at e; cases e)
  obtain ⟨i8, hi8⟩ : ∃ i8, H2.size = i8 := ⟨_, rfl⟩
  obtain ⟨i9, hi9⟩ : ∃ i9, H3.size = i9 := ⟨_, rfl⟩
  have hk8 : H.size < i8 ∧ H.size < i9 := by omega
  rw [hi8, hi9]
  clear sl3 sl2' b83 fr3 fr2 sz3 hx3 hc3 hc2' sz2 hx2 hc2 hsl hc1 hs1 fr1 hi8 hi9 H1 H2 H3
  rintro e H' ⟨I, g7, g1, g2, hc⟩
  have hC : 1 ≤ C ∧ C ≤ 8 := by omega
  -- from where, to where
  refine W_cutE (fun e' H'' => ∃ fr, LP 223 H C w ld l i8 i9 a' cap' e' H'' ∧ gt 223 e' 7 = .pointer (some ⟨H.size, 0, none⟩) ∧ gt 223 e' 2 = .int .u8 y ∧ Chu H'' H.size a bs cap ∧ (0 ≤ fr ∧ fr < C) ∧ gt 223 e' 10 = .int .i64 fr ∧ gt 223 e' 11 = .int .i64 (x.tmod C)) ?_ ?_
  · have l8 := I.l8
    have g8 := I.g8
    have b8 := I.b8
    have hszs := hc.lt
    obtain ⟨fl, v, H1, mm, hres, hLm, fr, rfl, ⟨hf1, hf2⟩, hff, hc1, hx1, hs1⟩ := resK_elim (Q := fun f v H'' => ∃ d : Int, v = .int .i64 d ∧ Pulled C d ∧ (f = true → H'' = H') ∧ Chu H'' H.size a bs cap ∧ FrX H.size H' H'' ∧ H''.size = H'.size) (c51 (M := N + 7994) (n := C) hc (Nat.le_refl _) (by omega) (by omega) fun f v H'' h0 h1 h2 h3 h4 => ⟨v, rfl, h1, h0, h2, h3, h4⟩)
    have b81 : H1.get i8 = .rw [.int .i64 C, .slice a' l.length cap'] 24 false [] := by
      rw [hx1.same _ l8 (by omega)]; exact b8
    have w1 : w64 x = x := w64_of (by omega)
    have hrem := fun (p q : Operand) (z : Int) => i64_rem (T := tabA) (P := Try.prog) (ty := 3) (x := p) (y := q) (a := z) (b := C) (by omega)
    have I1 : ∀ e', Keep 223 [8, 9] e e' → LP 223 H C w ld l i8 i9 a' cap' e' H1 := fun e' hke => I.frx (by omega) (by omega) (Nat.le_refl _) hc hx1 hke
    cases fl
    · refine W_draw [3] rfl (by kernel_rfl) (by kernel_rfl) (by (first | omega | (simp only [yz] <;> omega))) ?_
      simp (disch := (first | (simp only [ne_eq,Nat.reduceEqDiff,not_false_eq_true,Nat.reduceLT]; done) | omega | (simp only [yz] <;> omega) | fail)) only [↓yp,yq0,yq1,yq2,yq3,yq4,yl,ys0,ys1,Nat.reduceAdd,Nat.reduceMul,Nat.reduceSub,Nat.reduceBEq,Nat.reduceEqDiff,Nat.reduceLT,Nat.reduceLeDiff,reduceIte,Int.reduceAdd,Int.reduceSub,Int.reduceMul,Int.reduceLT,Int.reduceLE,Int.reduceEq,Int.reduceToNat,Int.reduceNeg,zed,zee,zfr,zhw,ysu,yrg,ysv,g1,g2,g7,g8,b8,b81,hres,A_conv,cv_5_3,w1,hrem]
      refine ⟨fr, I1 _ (by (with_reducible (repeat (first | refine Keep.put ?_ (by decide) | refine Keep.none ?_ | assumption | exact Keep.refl _ _ _)))), ?_, ?_, hc1, ⟨hf1, by omega⟩, ?_, ?_⟩
      · simp (disch := (first | (simp only [ne_eq,Nat.reduceEqDiff,not_false_eq_true,Nat.reduceLT]; done) | omega | (simp only [yz] <;> omega) | fail)) only [yg,Nat.reduceAdd,Nat.reduceEqDiff,Nat.reduceLT,g7]
      · simp (disch := (first | (simp only [ne_eq,Nat.reduceEqDiff,not_false_eq_true,Nat.reduceLT]; done) | omega | (simp only [yz] <;> omega) | fail)) only [yg,Nat.reduceAdd,Nat.reduceEqDiff,Nat.reduceLT,g2]
      · simp (disch := (first | (simp only [ne_eq,Nat.reduceEqDiff,not_false_eq_true,Nat.reduceLT]; done) | omega | (simp only [yz] <;> omega) | fail)) only [yg,Nat.reduceAdd,Nat.reduceEqDiff,Nat.reduceLT]
      · simp (disch := (first | (simp only [ne_eq,Nat.reduceEqDiff,not_false_eq_true,Nat.reduceLT]; done) | omega | (simp only [yz] <;> omega) | fail)) only [yg,Nat.reduceAdd,Nat.reduceEqDiff,Nat.reduceLT]
    · obtain rfl := hff rfl
      refine W_draw [] rfl (by kernel_rfl) (by kernel_rfl) (by (first | omega | (simp only [yz] <;> omega))) ?_
      simp (disch := (first | (simp only [ne_eq,Nat.reduceEqDiff,not_false_eq_true,Nat.reduceLT]; done) | omega | (simp only [yz] <;> omega) | fail)) only [↓yp,yq0,yq1,yq2,yq3,yq4,yl,ys0,ys1,Nat.reduceAdd,Nat.reduceMul,Nat.reduceSub,Nat.reduceBEq,Nat.reduceEqDiff,Nat.reduceLT,Nat.reduceLeDiff,reduceIte,Int.reduceAdd,Int.reduceSub,Int.reduceMul,Int.reduceLT,Int.reduceLE,Int.reduceEq,Int.reduceToNat,Int.reduceNeg,zed,zee,zfr,zhw,ysu,yrg,ysv,g1,g2,g7,g8,b8,hres,A_conv,cv_5_3,w1,hrem]
      refine ⟨fr, I1 _ (by (with_reducible (repeat (first | refine Keep.put ?_ (by decide) | refine Keep.none ?_ | assumption | exact Keep.refl _ _ _)))), ?_, ?_, hc1, ⟨hf1, by omega⟩, ?_, ?_⟩
      · simp (disch := (first | (simp only [ne_eq,Nat.reduceEqDiff,not_false_eq_true,Nat.reduceLT]; done) | omega | (simp only [yz] <;> omega) | fail)) only [yg,Nat.reduceAdd,Nat.reduceEqDiff,Nat.reduceLT,g7]
      · simp (disch := (first | (simp only [ne_eq,Nat.reduceEqDiff,not_false_eq_true,Nat.reduceLT]; done) | omega | (simp only [yz] <;> omega) | fail)) only [yg,Nat.reduceAdd,Nat.reduceEqDiff,Nat.reduceLT,g2]
      · simp (disch := (first | (simp only [ne_eq,Nat.reduceEqDiff,not_false_eq_true,Nat.reduceLT]; done) | omega | (simp only [yz] <;> omega) | fail)) only [yg,Nat.reduceAdd,Nat.reduceEqDiff,Nat.reduceLT]
      · simp (disch := (first | (simp only [ne_eq,Nat.reduceEqDiff,not_false_eq_true,Nat.reduceLT]; done) | omega | (simp only [yz] <;> omega) | fail)) only [yg,Nat.reduceAdd,Nat.reduceEqDiff,Nat.reduceLT]
  clear I g7 g1 g2 hc
  rintro e H' ⟨fr, I, g7, g2, hc, hfr, g10, g11⟩
  obtain ⟨to, hto⟩ : ∃ to, x.tmod C = to := ⟨_, rfl⟩
  have hto2 : 0 ≤ to ∧ to < C := by
    rw [← hto]
    exact ⟨Int.tmod_nonneg _ hx.1, Int.tmod_lt_of_pos _ (by omega)⟩
  rw [hto] at g11
  have hlt := hc.lt
  refine W_seqI (fun e' H'' => ∃ m, LP 223 H C w ld l i8 i9 a' cap' e' H'' ∧ gt 223 e' 2 = .int .u8 y ∧ gt 223 e' 10 = .int .i64 fr ∧ gt 223 e' 11 = .int .i64 to ∧ (0 ≤ m ∧ m ≤ 49) ∧ gt 223 e' 12 = .int .i64 m) ?_ ?_
  · simp (disch := (first | (simp only [ne_eq,Nat.reduceEqDiff,not_false_eq_true,Nat.reduceLT]; done) | omega | (simp only [yz] <;> omega) | fail)) only [↓yp,yq0,yq1,yq2,yq3,yq4,yl,ys0,ys1,Nat.reduceAdd,Nat.reduceMul,Nat.reduceSub,Nat.reduceBEq,Nat.reduceEqDiff,Nat.reduceLT,Nat.reduceLeDiff,reduceIte,Int.reduceAdd,Int.reduceSub,Int.reduceMul,Int.reduceLT,Int.reduceLE,Int.reduceEq,Int.reduceToNat,Int.reduceNeg,zed,zee,zfr,zhw,ysu,yrg,ysv,g7]
    refine c51 hc (Nat.le_refl _) (by omega) (by omega) ?_
    rintro f m H1 - ⟨h1, h2⟩ hc1 hx1 hs1
    simp (disch := (first | (simp only [ne_eq,Nat.reduceEqDiff,not_false_eq_true,Nat.reduceLT]; done) | omega | (simp only [yz] <;> omega) | fail)) only [↓yp,yq0,yq1,yq2,yq3,yq4,yl,ys0,ys1,Nat.reduceAdd,Nat.reduceMul,Nat.reduceSub,Nat.reduceBEq,Nat.reduceEqDiff,Nat.reduceLT,Nat.reduceLeDiff,reduceIte,Int.reduceAdd,Int.reduceSub,Int.reduceMul,Int.reduceLT,Int.reduceLE,Int.reduceEq,Int.reduceToNat,Int.reduceNeg,zed,zee,zfr,zhw,ysu,yrg,ysv]
    refine ⟨m, I.frx (by omega) (by omega) (Nat.le_refl _) hc hx1 (by (with_reducible (repeat (first | refine Keep.put ?_ (by decide) | refine Keep.none ?_ | assumption | exact Keep.refl _ _ _)))), ?_, ?_, ?_, by omega, ?_⟩
    · simp (disch := (first | (simp only [ne_eq,Nat.reduceEqDiff,not_false_eq_true,Nat.reduceLT]; done) | omega | (simp only [yz] <;> omega) | fail)) only [yg,Nat.reduceAdd,Nat.reduceEqDiff,Nat.reduceLT,g2]
    · simp (disch := (first | (simp only [ne_eq,Nat.reduceEqDiff,not_false_eq_true,Nat.reduceLT]; done) | omega | (simp only [yz] <;> omega) | fail)) only [yg,Nat.reduceAdd,Nat.reduceEqDiff,Nat.reduceLT,g10]
    · simp (disch := (first | (simp only [ne_eq,Nat.reduceEqDiff,not_false_eq_true,Nat.reduceLT]; done) | omega | (simp only [yz] <;> omega) | fail)) only [yg,Nat.reduceAdd,Nat.reduceEqDiff,Nat.reduceLT,g11]
    · simp (disch := (first | (simp only [ne_eq,Nat.reduceEqDiff,not_false_eq_true,Nat.reduceLT]; done) | omega | (simp only [yz] <;> omega) | fail)) only [yg,Nat.reduceAdd,Nat.reduceEqDiff,Nat.reduceLT]
  clear I g7 g2 hc g10 g11 hlt
  rintro e H' ⟨m, I, g2, g10, g11, hm, g12⟩
  have sz := I.fr.size
  obtain ⟨bm, hbm⟩ : ∃ bm, (if m + y < 240 then m + y else 240) = bm := ⟨_, rfl⟩
  have hbm2 : m ≤ bm ∧ bm ≤ 240 := by rw [← hbm]; split <;> omega
  refine W_seqI (fun e' H'' => LP 223 H C w ld l i8 i9 a' cap' e' H'' ∧ gt 223 e' 10 = .int .i64 fr ∧ gt 223 e' 11 = .int .i64 to ∧ gt 223 e' 12 = .int .i64 m ∧ gt 223 e' 13 = .int .i64 bm) ?_ ?_
  · have w1 : w64 y = y := w64_of (by omega)
    have w2 : w64 (m + y) = m + y := w64_of (by omega)
    simp (disch := (first | (simp only [ne_eq,Nat.reduceEqDiff,not_false_eq_true,Nat.reduceLT]; done) | omega | (simp only [yz] <;> omega) | fail)) only [↓yp,yq0,yq1,yq2,yq3,yq4,yl,ys0,ys1,Nat.reduceAdd,Nat.reduceMul,Nat.reduceSub,Nat.reduceBEq,Nat.reduceEqDiff,Nat.reduceLT,Nat.reduceLeDiff,reduceIte,Int.reduceAdd,Int.reduceSub,Int.reduceMul,Int.reduceLT,Int.reduceLE,Int.reduceEq,Int.reduceToNat,Int.reduceNeg,zed,zee,zfr,zhw,ysu,yrg,ysv,g2,g12,A_conv,cv_5_3,A_min,mm_min,w1,w2,hbm]
    refine ⟨I.next (Fr.refl _) (by (with_reducible (repeat (first | refine Keep.put ?_ (by decide) | refine Keep.none ?_ | assumption | exact Keep.refl _ _ _)))), ?_, ?_, ?_, ?_⟩
    · simp (disch := (first | (simp only [ne_eq,Nat.reduceEqDiff,not_false_eq_true,Nat.reduceLT]; done) | omega | (simp only [yz] <;> omega) | fail)) only [yg,Nat.reduceAdd,Nat.reduceEqDiff,Nat.reduceLT,g10]
    · simp (disch := (first | (simp only [ne_eq,Nat.reduceEqDiff,not_false_eq_true,Nat.reduceLT]; done) | omega | (simp only [yz] <;> omega) | fail)) only [yg,Nat.reduceAdd,Nat.reduceEqDiff,Nat.reduceLT,g11]
    · simp (disch := (first | (simp only [ne_eq,Nat.reduceEqDiff,not_false_eq_true,Nat.reduceLT]; done) | omega | (simp only [yz] <;> omega) | fail)) only [yg,Nat.reduceAdd,Nat.reduceEqDiff,Nat.reduceLT,g12]
    · simp (disch := (first | (simp only [ne_eq,Nat.reduceEqDiff,not_false_eq_true,Nat.reduceLT]; done) | omega | (simp only [yz] <;> omega) | fail)) only [yg,Nat.reduceAdd,Nat.reduceEqDiff,Nat.reduceLT]
  clear sz I g2 g10 g11 g12
  rintro e H' ⟨I, g10, g11, g12, g13⟩
  have sz := I.fr.size
  have hl18 : l.length ≤ 18 := by omega
  have az := fun (cs ms : List Int) h1 h3 => asked_zero (cs := cs) (ms := ms) (ld := ld) (w := w) hC (show l.length ≤ 16 by omega) ho (by omega) (by omega) h1 h3
  obtain ⟨bm', hbm'⟩ : ∃ bm', (if bm + 7 < 240 then bm + 7 else 240) = bm' := ⟨_, rfl⟩
  have hbm3 : bm ≤ bm' ∧ bm' ≤ 240 := by rw [← hbm']; split <;> omega
  have sv : ∀ b, 0 ≤ b ∧ b ≤ 240 → spareV C l w ld fr to m b = if tg (latT C l w ld to b) fr < m then (0, 1) else (tg (latT C l w ld to b) fr - m, 0) := fun b hb => by
    unfold spareV
    rw [az [fr, to] [m, b] (by simp; omega) (by simp; omega), if_neg (by simp)]
  have g : Good C l ld := good_of (chk_of hC (by omega) ho) (off_iff.2 (by omega))
  obtain ⟨s1, hs1⟩ : ∃ s, spareV C l w ld fr to m bm = s := ⟨_, rfl⟩
  obtain ⟨s2, hs2⟩ : ∃ s, spareV C l w ld fr to m bm' = s := ⟨_, rfl⟩
  refine W_seqI (fun e' H'' => LP 223 H C w ld l i8 i9 a' cap' e' H'' ∧ gt 223 e' 10 = .int .i64 fr ∧ gt 223 e' 11 = .int .i64 to ∧ gt 223 e' 12 = .int .i64 m ∧ gt 223 e' 13 = .int .i64 bm ∧ gt 223 e' 14 = .int .i64 s1.1 ∧ gt 223 e' 15 = .int .i64 s1.2) ?_ ?_
  · have g8 := I.g8
    have g9 := I.g9
    have b8 := I.b8
    have b9 := I.b9
    simp (disch := (first | (simp only [ne_eq,Nat.reduceEqDiff,not_false_eq_true,Nat.reduceLT]; done) | omega | (simp only [yz] <;> omega) | fail)) only [↓yp,yq0,yq1,yq2,yq3,yq4,yl,ys0,ys1,Nat.reduceAdd,Nat.reduceMul,Nat.reduceSub,Nat.reduceBEq,Nat.reduceEqDiff,Nat.reduceLT,Nat.reduceLeDiff,reduceIte,Int.reduceAdd,Int.reduceSub,Int.reduceMul,Int.reduceLT,Int.reduceLE,Int.reduceEq,Int.reduceToNat,Int.reduceNeg,zed,zee,zfr,zhw,ysu,yrg,ysv,g8,g9,b8,b9,g10,g11,g12,g13]
    rw [c36 I.sl hl18, hs1]
    simp (disch := (first | (simp only [ne_eq,Nat.reduceEqDiff,not_false_eq_true,Nat.reduceLT]; done) | omega | (simp only [yz] <;> omega) | fail)) only [↓yp,yq0,yq1,yq2,yq3,yq4,yl,ys0,ys1,Nat.reduceAdd,Nat.reduceMul,Nat.reduceSub,Nat.reduceBEq,Nat.reduceEqDiff,Nat.reduceLT,Nat.reduceLeDiff,reduceIte,Int.reduceAdd,Int.reduceSub,Int.reduceMul,Int.reduceLT,Int.reduceLE,Int.reduceEq,Int.reduceToNat,Int.reduceNeg,zed,zee,zfr,zhw,ysu,yrg,ysv]
    refine ⟨I.next (Fr.refl _) (by (with_reducible (repeat (first | refine Keep.put ?_ (by decide) | refine Keep.none ?_ | assumption | exact Keep.refl _ _ _)))), ?_, ?_, ?_, ?_, ?_, ?_⟩
    · simp (disch := (first | (simp only [ne_eq,Nat.reduceEqDiff,not_false_eq_true,Nat.reduceLT]; done) | omega | (simp only [yz] <;> omega) | fail)) only [yg,Nat.reduceAdd,Nat.reduceEqDiff,Nat.reduceLT,g10]
    · simp (disch := (first | (simp only [ne_eq,Nat.reduceEqDiff,not_false_eq_true,Nat.reduceLT]; done) | omega | (simp only [yz] <;> omega) | fail)) only [yg,Nat.reduceAdd,Nat.reduceEqDiff,Nat.reduceLT,g11]
    · simp (disch := (first | (simp only [ne_eq,Nat.reduceEqDiff,not_false_eq_true,Nat.reduceLT]; done) | omega | (simp only [yz] <;> omega) | fail)) only [yg,Nat.reduceAdd,Nat.reduceEqDiff,Nat.reduceLT,g12]
    · simp (disch := (first | (simp only [ne_eq,Nat.reduceEqDiff,not_false_eq_true,Nat.reduceLT]; done) | omega | (simp only [yz] <;> omega) | fail)) only [yg,Nat.reduceAdd,Nat.reduceEqDiff,Nat.reduceLT,g13]
    · simp (disch := (first | (simp only [ne_eq,Nat.reduceEqDiff,not_false_eq_true,Nat.reduceLT]; done) | omega | (simp only [yz] <;> omega) | fail)) only [yg,Nat.reduceAdd,Nat.reduceEqDiff,Nat.reduceLT]
    · simp (disch := (first | (simp only [ne_eq,Nat.reduceEqDiff,not_false_eq_true,Nat.reduceLT]; done) | omega | (simp only [yz] <;> omega) | fail)) only [yg,Nat.reduceAdd,Nat.reduceEqDiff,Nat.reduceLT]
  clear sz I g10 g11 g12 g13
  rintro e H' ⟨I, g10, g11, g12, g13, g14, g15⟩
  have sz := I.fr.size
  refine W_seqI (fun e' H'' => LP 223 H C w ld l i8 i9 a' cap' e' H'' ∧ gt 223 e' 10 = .int .i64 fr ∧ gt 223 e' 11 = .int .i64 to ∧ gt 223 e' 12 = .int .i64 m ∧ gt 223 e' 13 = .int .i64 bm ∧ gt 223 e' 14 = .int .i64 s1.1 ∧ gt 223 e' 15 = .int .i64 s1.2 ∧ gt 223 e' 16 = .int .i64 s2.1 ∧ gt 223 e' 17 = .int .i64 s2.2) ?_ ?_
  · have g8 := I.g8
    have g9 := I.g9
    have b8 := I.b8
    have b9 := I.b9
    have w2 : w64 (bm + 7) = bm + 7 := w64_of (by omega)
    simp (disch := (first | (simp only [ne_eq,Nat.reduceEqDiff,not_false_eq_true,Nat.reduceLT]; done) | omega | (simp only [yz] <;> omega) | fail)) only [↓yp,yq0,yq1,yq2,yq3,yq4,yl,ys0,ys1,Nat.reduceAdd,Nat.reduceMul,Nat.reduceSub,Nat.reduceBEq,Nat.reduceEqDiff,Nat.reduceLT,Nat.reduceLeDiff,reduceIte,Int.reduceAdd,Int.reduceSub,Int.reduceMul,Int.reduceLT,Int.reduceLE,Int.reduceEq,Int.reduceToNat,Int.reduceNeg,zed,zee,zfr,zhw,ysu,yrg,ysv,g8,g9,b8,b9,g10,g11,g12,g13,A_min,mm_min,w2,hbm']
    rw [c36 I.sl hl18, hs2]
    simp (disch := (first | (simp only [ne_eq,Nat.reduceEqDiff,not_false_eq_true,Nat.reduceLT]; done) | omega | (simp only [yz] <;> omega) | fail)) only [↓yp,yq0,yq1,yq2,yq3,yq4,yl,ys0,ys1,Nat.reduceAdd,Nat.reduceMul,Nat.reduceSub,Nat.reduceBEq,Nat.reduceEqDiff,Nat.reduceLT,Nat.reduceLeDiff,reduceIte,Int.reduceAdd,Int.reduceSub,Int.reduceMul,Int.reduceLT,Int.reduceLE,Int.reduceEq,Int.reduceToNat,Int.reduceNeg,zed,zee,zfr,zhw,ysu,yrg,ysv]
    refine ⟨I.next (Fr.refl _) (by (with_reducible (repeat (first | refine Keep.put ?_ (by decide) | refine Keep.none ?_ | assumption | exact Keep.refl _ _ _)))), ?_, ?_, ?_, ?_, ?_, ?_, ?_, ?_⟩
    · simp (disch := (first | (simp only [ne_eq,Nat.reduceEqDiff,not_false_eq_true,Nat.reduceLT]; done) | omega | (simp only [yz] <;> omega) | fail)) only [yg,Nat.reduceAdd,Nat.reduceEqDiff,Nat.reduceLT,g10]
    · simp (disch := (first | (simp only [ne_eq,Nat.reduceEqDiff,not_false_eq_true,Nat.reduceLT]; done) | omega | (simp only [yz] <;> omega) | fail)) only [yg,Nat.reduceAdd,Nat.reduceEqDiff,Nat.reduceLT,g11]
    · simp (disch := (first | (simp only [ne_eq,Nat.reduceEqDiff,not_false_eq_true,Nat.reduceLT]; done) | omega | (simp only [yz] <;> omega) | fail)) only [yg,Nat.reduceAdd,Nat.reduceEqDiff,Nat.reduceLT,g12]
    · simp (disch := (first | (simp only [ne_eq,Nat.reduceEqDiff,not_false_eq_true,Nat.reduceLT]; done) | omega | (simp only [yz] <;> omega) | fail)) only [yg,Nat.reduceAdd,Nat.reduceEqDiff,Nat.reduceLT,g13]
    · simp (disch := (first | (simp only [ne_eq,Nat.reduceEqDiff,not_false_eq_true,Nat.reduceLT]; done) | omega | (simp only [yz] <;> omega) | fail)) only [yg,Nat.reduceAdd,Nat.reduceEqDiff,Nat.reduceLT,g14]
    · simp (disch := (first | (simp only [ne_eq,Nat.reduceEqDiff,not_false_eq_true,Nat.reduceLT]; done) | omega | (simp only [yz] <;> omega) | fail)) only [yg,Nat.reduceAdd,Nat.reduceEqDiff,Nat.reduceLT,g15]
    · simp (disch := (first | (simp only [ne_eq,Nat.reduceEqDiff,not_false_eq_true,Nat.reduceLT]; done) | omega | (simp only [yz] <;> omega) | fail)) only [yg,Nat.reduceAdd,Nat.reduceEqDiff,Nat.reduceLT]
    · simp (disch := (first | (simp only [ne_eq,Nat.reduceEqDiff,not_false_eq_true,Nat.reduceLT]; done) | omega | (simp only [yz] <;> omega) | fail)) only [yg,Nat.reduceAdd,Nat.reduceEqDiff,Nat.reduceLT]
  clear sz I g10 g11 g12 g13 g14 g15
  rintro e H' ⟨I, g10, g11, g12, g13, g14, g15, g16, g17⟩
  have sz := I.fr.size
  refine W_seqI (fun e' H'' => ∃ k18 c18, LP 223 H C w ld l i8 i9 a' cap' e' H'' ∧ gt 223 e' 10 = .int .i64 fr ∧ gt 223 e' 11 = .int .i64 to ∧ gt 223 e' 12 = .int .i64 m ∧ gt 223 e' 13 = .int .i64 bm ∧ gt 223 e' 14 = .int .i64 s1.1 ∧ gt 223 e' 15 = .int .i64 s1.2 ∧ gt 223 e' 16 = .int .i64 s2.1 ∧ gt 223 e' 17 = .int .i64 s2.2 ∧ gt 223 e' 18 = .slice (some ⟨k18, 0, none⟩) C.toNat c18 ∧ gt 223 e' 19 = .int .i64 0 ∧ k18 < H''.size ∧ H''.get k18 = .rw (tv ((latT C l w ld to bm).take C.toNat)) 3 true []) ?_ ?_
  · have g8 := I.g8
    have g9 := I.g9
    have b8 := I.b8
    have b9 := I.b9
    simp (disch := (first | (simp only [ne_eq,Nat.reduceEqDiff,not_false_eq_true,Nat.reduceLT]; done) | omega | (simp only [yz] <;> omega) | fail)) only [↓yp,yq0,yq1,yq2,yq3,yq4,yl,ys0,ys1,Nat.reduceAdd,Nat.reduceMul,Nat.reduceSub,Nat.reduceBEq,Nat.reduceEqDiff,Nat.reduceLT,Nat.reduceLeDiff,reduceIte,Int.reduceAdd,Int.reduceSub,Int.reduceMul,Int.reduceLT,Int.reduceLE,Int.reduceEq,Int.reduceToNat,Int.reduceNeg,zed,zee,zfr,zhw,ysu,yrg,ysv,g8,g9,b8,b9,g11,g13]
    refine c35k I.sl hl18 (az [to] [bm] (by simp; omega) (by simp; omega)) (by omega) (by omega) ?_
    intro k cap'' H3 fr3 hk1 hk2 hk3
    simp (disch := (first | (simp only [ne_eq,Nat.reduceEqDiff,not_false_eq_true,Nat.reduceLT]; done) | omega | (simp only [yz] <;> omega) | fail)) only [↓yp,yq0,yq1,yq2,yq3,yq4,yl,ys0,ys1,Nat.reduceAdd,Nat.reduceMul,Nat.reduceSub,Nat.reduceBEq,Nat.reduceEqDiff,Nat.reduceLT,Nat.reduceLeDiff,reduceIte,Int.reduceAdd,Int.reduceSub,Int.reduceMul,Int.reduceLT,Int.reduceLE,Int.reduceEq,Int.reduceToNat,Int.reduceNeg,zed,zee,zfr,zhw,ysu,yrg,ysv]
    refine ⟨k, cap'', I.next fr3 (by (with_reducible (repeat (first | refine Keep.put ?_ (by decide) | refine Keep.none ?_ | assumption | exact Keep.refl _ _ _)))), ?_, ?_, ?_, ?_, ?_, ?_, ?_, ?_, ?_, ?_, hk2, hk3⟩
    · simp (disch := (first | (simp only [ne_eq,Nat.reduceEqDiff,not_false_eq_true,Nat.reduceLT]; done) | omega | (simp only [yz] <;> omega) | fail)) only [yg,Nat.reduceAdd,Nat.reduceEqDiff,Nat.reduceLT,g10]
    · simp (disch := (first | (simp only [ne_eq,Nat.reduceEqDiff,not_false_eq_true,Nat.reduceLT]; done) | omega | (simp only [yz] <;> omega) | fail)) only [yg,Nat.reduceAdd,Nat.reduceEqDiff,Nat.reduceLT,g11]
    · simp (disch := (first | (simp only [ne_eq,Nat.reduceEqDiff,not_false_eq_true,Nat.reduceLT]; done) | omega | (simp only [yz] <;> omega) | fail)) only [yg,Nat.reduceAdd,Nat.reduceEqDiff,Nat.reduceLT,g12]
    · simp (disch := (first | (simp only [ne_eq,Nat.reduceEqDiff,not_false_eq_true,Nat.reduceLT]; done) | omega | (simp only [yz] <;> omega) | fail)) only [yg,Nat.reduceAdd,Nat.reduceEqDiff,Nat.reduceLT,g13]
    · simp (disch := (first | (simp only [ne_eq,Nat.reduceEqDiff,not_false_eq_true,Nat.reduceLT]; done) | omega | (simp only [yz] <;> omega) | fail)) only [yg,Nat.reduceAdd,Nat.reduceEqDiff,Nat.reduceLT,g14]
    · simp (disch := (first | (simp only [ne_eq,Nat.reduceEqDiff,not_false_eq_true,Nat.reduceLT]; done) | omega | (simp only [yz] <;> omega) | fail)) only [yg,Nat.reduceAdd,Nat.reduceEqDiff,Nat.reduceLT,g15]
    · simp (disch := (first | (simp only [ne_eq,Nat.reduceEqDiff,not_false_eq_true,Nat.reduceLT]; done) | omega | (simp only [yz] <;> omega) | fail)) only [yg,Nat.reduceAdd,Nat.reduceEqDiff,Nat.reduceLT,g16]
    · simp (disch := (first | (simp only [ne_eq,Nat.reduceEqDiff,not_false_eq_true,Nat.reduceLT]; done) | omega | (simp only [yz] <;> omega) | fail)) only [yg,Nat.reduceAdd,Nat.reduceEqDiff,Nat.reduceLT,g17]
    · simp (disch := (first | (simp only [ne_eq,Nat.reduceEqDiff,not_false_eq_true,Nat.reduceLT]; done) | omega | (simp only [yz] <;> omega) | fail)) only [yg,Nat.reduceAdd,Nat.reduceEqDiff,Nat.reduceLT]
    · simp (disch := (first | (simp only [ne_eq,Nat.reduceEqDiff,not_false_eq_true,Nat.reduceLT]; done) | omega | (simp only [yz] <;> omega) | fail)) only [yg,Nat.reduceAdd,Nat.reduceEqDiff,Nat.reduceLT]
  clear sz I g10 g11 g12 g13 g14 g15 g16 g17
  rintro e H' ⟨k18, c18, I, g10, g11, g12, g13, g14, g15, g16, g17, g18, g19, hk18, b18⟩
  have sz := I.fr.size
  refine W_seqI (fun e' H'' => ∃ k20 c20, LP 223 H C w ld l i8 i9 a' cap' e' H'' ∧ gt 223 e' 10 = .int .i64 fr ∧ gt 223 e' 11 = .int .i64 to ∧ gt 223 e' 12 = .int .i64 m ∧ gt 223 e' 13 = .int .i64 bm ∧ gt 223 e' 14 = .int .i64 s1.1 ∧ gt 223 e' 15 = .int .i64 s1.2 ∧ gt 223 e' 16 = .int .i64 s2.1 ∧ gt 223 e' 17 = .int .i64 s2.2 ∧ gt 223 e' 18 = .slice (some ⟨k18, 0, none⟩) C.toNat c18 ∧ gt 223 e' 19 = .int .i64 0 ∧ k18 < H''.size ∧ H''.get k18 = .rw (tv ((latT C l w ld to bm).take C.toNat)) 3 true [] ∧ gt 223 e' 20 = .slice (some ⟨k20, 0, none⟩) C.toNat c20 ∧ k20 < H''.size ∧ H''.get k20 = .rw (tv ((earT C l w ld fr m).take C.toNat)) 3 true []) ?_ ?_
  · have g8 := I.g8
    have g9 := I.g9
    have b8 := I.b8
    have b9 := I.b9
    simp (disch := (first | (simp only [ne_eq,Nat.reduceEqDiff,not_false_eq_true,Nat.reduceLT]; done) | omega | (simp only [yz] <;> omega) | fail)) only [↓yp,yq0,yq1,yq2,yq3,yq4,yl,ys0,ys1,Nat.reduceAdd,Nat.reduceMul,Nat.reduceSub,Nat.reduceBEq,Nat.reduceEqDiff,Nat.reduceLT,Nat.reduceLeDiff,reduceIte,Int.reduceAdd,Int.reduceSub,Int.reduceMul,Int.reduceLT,Int.reduceLE,Int.reduceEq,Int.reduceToNat,Int.reduceNeg,zed,zee,zfr,zhw,ysu,yrg,ysv,g8,g9,b8,b9,g10,g12]
    refine c52 I.sl hl18 (az [fr] [m] (by simp; omega) (by simp; omega)) (by omega) (by omega) ?_
    intro k cap'' H3 fr3 hk1 hk2 hk3
    simp (disch := (first | (simp only [ne_eq,Nat.reduceEqDiff,not_false_eq_true,Nat.reduceLT]; done) | omega | (simp only [yz] <;> omega) | fail)) only [↓yp,yq0,yq1,yq2,yq3,yq4,yl,ys0,ys1,Nat.reduceAdd,Nat.reduceMul,Nat.reduceSub,Nat.reduceBEq,Nat.reduceEqDiff,Nat.reduceLT,Nat.reduceLeDiff,reduceIte,Int.reduceAdd,Int.reduceSub,Int.reduceMul,Int.reduceLT,Int.reduceLE,Int.reduceEq,Int.reduceToNat,Int.reduceNeg,zed,zee,zfr,zhw,ysu,yrg,ysv]
    refine ⟨k, cap'', I.next fr3 (by (with_reducible (repeat (first | refine Keep.put ?_ (by decide) | refine Keep.none ?_ | assumption | exact Keep.refl _ _ _)))), ?_, ?_, ?_, ?_, ?_, ?_, ?_, ?_, ?_, ?_, Nat.lt_of_lt_of_le hk18 fr3.size, by rw [fr3.same _ hk18]; exact b18, ?_, hk2, hk3⟩
    · simp (disch := (first | (simp only [ne_eq,Nat.reduceEqDiff,not_false_eq_true,Nat.reduceLT]; done) | omega | (simp only [yz] <;> omega) | fail)) only [yg,Nat.reduceAdd,Nat.reduceEqDiff,Nat.reduceLT,g10]
    · simp (disch := (first | (simp only [ne_eq,Nat.reduceEqDiff,not_false_eq_true,Nat.reduceLT]; done) | omega | (simp only [yz] <;> omega) | fail)) only [yg,Nat.reduceAdd,Nat.reduceEqDiff,Nat.reduceLT,g11]
    · simp (disch := (first | (simp only [ne_eq,Nat.reduceEqDiff,not_false_eq_true,Nat.reduceLT]; done) | omega | (simp only [yz] <;> omega) | fail)) only [yg,Nat.reduceAdd,Nat.reduceEqDiff,Nat.reduceLT,g12]
    · simp (disch := (first | (simp only [ne_eq,Nat.reduceEqDiff,not_false_eq_true,Nat.reduceLT]; done) | omega | (simp only [yz] <;> omega) | fail)) only [yg,Nat.reduceAdd,Nat.reduceEqDiff,Nat.reduceLT,g13]
    · simp (disch := (first | (simp only [ne_eq,Nat.reduceEqDiff,not_false_eq_true,Nat.reduceLT]; done) | omega | (simp only [yz] <;> omega) | fail)) only [yg,Nat.reduceAdd,Nat.reduceEqDiff,Nat.reduceLT,g14]
    · simp (disch := (first | (simp only [ne_eq,Nat.reduceEqDiff,not_false_eq_true,Nat.reduceLT]; done) | omega | (simp only [yz] <;> omega) | fail)) only [yg,Nat.reduceAdd,Nat.reduceEqDiff,Nat.reduceLT,g15]
    · simp (disch := (first | (simp only [ne_eq,Nat.reduceEqDiff,not_false_eq_true,Nat.reduceLT]; done) | omega | (simp only [yz] <;> omega) | fail)) only [yg,Nat.reduceAdd,Nat.reduceEqDiff,Nat.reduceLT,g16]
    · simp (disch := (first | (simp only [ne_eq,Nat.reduceEqDiff,not_false_eq_true,Nat.reduceLT]; done) | omega | (simp only [yz] <;> omega) | fail)) only [yg,Nat.reduceAdd,Nat.reduceEqDiff,Nat.reduceLT,g17]
    · simp (disch := (first | (simp only [ne_eq,Nat.reduceEqDiff,not_false_eq_true,Nat.reduceLT]; done) | omega | (simp only [yz] <;> omega) | fail)) only [yg,Nat.reduceAdd,Nat.reduceEqDiff,Nat.reduceLT,g18]
    · simp (disch := (first | (simp only [ne_eq,Nat.reduceEqDiff,not_false_eq_true,Nat.reduceLT]; done) | omega | (simp only [yz] <;> omega) | fail)) only [yg,Nat.reduceAdd,Nat.reduceEqDiff,Nat.reduceLT,g19]
    · simp (disch := (first | (simp only [ne_eq,Nat.reduceEqDiff,not_false_eq_true,Nat.reduceLT]; done) | omega | (simp only [yz] <;> omega) | fail)) only [yg,Nat.reduceAdd,Nat.reduceEqDiff,Nat.reduceLT]
  clear sz I g10 g11 g12 g13 g14 g15 g16 g17 g18 g19 hk18 b18
  rintro e H' ⟨k20, c20, I, g10, g11, g12, g13, g14, g15, g16, g17, g18, g19, hk18, b18, g20, hk20, b20⟩
  have sz := I.fr.size
  have g8 := I.g8
  have g9 := I.g9
  have b8 := I.b8
  have b9 := I.b9
  have hcc : decide (((C.toNat : Nat) : Int) = C) = true := by simp; omega
  have t8 := (latT_ok (w := w) g (to := to) (bm := bm) hto2 (by omega)).1
  have e8 := earT_len (w := w) g (fr := fr) (a₀ := m) hfr (by omega)
  have hL1 := take_at t8 hC hfr
  have hE := take_at e8 hC hto2
  have hb1 := both (w := w) (a₀ := m) (bm := bm) g (by omega) (by omega) hfr hto2
  have hLok := (latT_ok (w := w) g (to := to) (bm := bm) hto2 (by omega)).2 fr
  have hLok2 := (latT_ok (w := w) g (to := to) (bm := bm') hto2 (by omega)).2 fr
  have hmono := latT_mono (w := w) (x := fr) g hto2 (bm := bm) (bm' := bm') (by omega) (by omega) hfr.1 hbm3.1
  have hLb : tg (latT C l w ld to bm) fr ≠ -1 → tg (latT C l w ld to bm) fr ≤ bm := fun hn => (((latT_is (w := w) g hto2 (by omega)).can fr hfr.1 hn).ge (by omega) g).2
  rw [sv bm (by omega)] at hs1
  rw [sv bm' (by omega)] at hs2
  obtain ⟨L1, hl1⟩ : ∃ L, tg (latT C l w ld to bm) fr = L := ⟨_, rfl⟩
  obtain ⟨L2, hl2⟩ : ∃ L, tg (latT C l w ld to bm') fr = L := ⟨_, rfl⟩
  obtain ⟨E, he⟩ : ∃ E, tg (earT C l w ld fr m) to = E := ⟨_, rfl⟩
  rw [hl1] at hs1 hL1 hb1 hLok hmono hLb
  rw [hl2] at hs2 hmono hLok2
  rw [he] at hE hb1
  unfold okM at hLok hLok2
  by_cases h1 : L1 < m
  · rw [if_pos h1] at hs1
    subst hs1
    have z2 : s2.2 = 0 ∨ s2.2 = 1 := by rw [← hs2]; split <;> simp
    have hd1 : decide (L1 < m) = true := by simpa using h1
    have em : ¬ (E ≠ -1 ∧ E ≤ bm) := fun h => by have := hb1.1 h; omega
    rcases z2 with z2 | z2
    all_goals
      rw [z2] at g17
      cases hE1 : decide (E = -1)
      · cases hE2 : decide (E ≤ bm)
        · simp (disch := (first | (simp only [ne_eq,Nat.reduceEqDiff,not_false_eq_true,Nat.reduceLT]; done) | omega | (simp only [yz] <;> omega) | fail)) only [↓yp,yq0,yq1,yq2,yq3,yq4,yl,ys0,ys1,Nat.reduceAdd,Nat.reduceMul,Nat.reduceSub,Nat.reduceBEq,Nat.reduceEqDiff,Nat.reduceLT,Nat.reduceLeDiff,reduceIte,Int.reduceAdd,Int.reduceSub,Int.reduceMul,Int.reduceLT,Int.reduceLE,Int.reduceEq,Int.reduceToNat,Int.reduceNeg,zed,zee,zfr,zhw,ysu,yrg,ysv,g15,g17,g18,g19,g20,g8,b8,g11,g13,b20,lenV_slice zir,binV_nil_some zir,A_indexSlice zir,hE,hE1,hE2,hcc,nTT,nTF,nFT,nFF,g10,g12,b18,hL1,hd1,awake_e]
        · exact absurd ⟨of_decide_eq_false hE1, of_decide_eq_true hE2⟩ em
      · simp (disch := (first | (simp only [ne_eq,Nat.reduceEqDiff,not_false_eq_true,Nat.reduceLT]; done) | omega | (simp only [yz] <;> omega) | fail)) only [↓yp,yq0,yq1,yq2,yq3,yq4,yl,ys0,ys1,Nat.reduceAdd,Nat.reduceMul,Nat.reduceSub,Nat.reduceBEq,Nat.reduceEqDiff,Nat.reduceLT,Nat.reduceLeDiff,reduceIte,Int.reduceAdd,Int.reduceSub,Int.reduceMul,Int.reduceLT,Int.reduceLE,Int.reduceEq,Int.reduceToNat,Int.reduceNeg,zed,zee,zfr,zhw,ysu,yrg,ysv,g15,g17,g18,g19,g20,g8,b8,g11,g13,b20,lenV_slice zir,binV_nil_some zir,A_indexSlice zir,hE,hE1,hcc,nTT,nTF,nFT,nFF,g10,g12,b18,hL1,hd1,awake_e]
  rw [if_neg h1] at hs1
  have hLn : L1 ≠ -1 := by omega
  have hm2 := hmono hLn
  have hlb := hLb hLn
  rw [if_neg (by omega)] at hs2
  subst hs1
  subst hs2
  obtain ⟨hEn, hEb⟩ := hb1.2 ⟨hLn, by omega⟩
  have hE1 : decide (E = -1) = false := by simpa using hEn
  have hE2 : decide (E ≤ bm) = true := by simpa using hEb
  have w1 : w64 (m + (L1 - m)) = L1 := by rw [w64_of (by omega)]; omega
  have q1 : decide (L2 - m < L1 - m) = false := by simp; omega
  have q2 : decide (L1 - m < 0) = false := by simp; omega
  have q3 : decide (bm < L1) = false := by simp; omega
  have q4 : decide (L1 = L1) = true := by simp
  refine W_seqI (fun e' H'' => LP 223 H C w ld l i8 i9 a' cap' e' H'' ∧ gt 223 e' 10 = .int .i64 fr ∧ gt 223 e' 11 = .int .i64 to ∧ gt 223 e' 12 = .int .i64 m ∧ gt 223 e' 13 = .int .i64 bm ∧ gt 223 e' 14 = .int .i64 (L1 - m) ∧ gt 223 e' 15 = .int .i64 0 ∧ gt 223 e' 16 = .int .i64 (L2 - m) ∧ gt 223 e' 17 = .int .i64 0 ∧ gt 223 e' 18 = .slice (some ⟨k18, 0, none⟩) C.toNat c18 ∧ k18 < H''.size ∧ H''.get k18 = .rw (tv ((latT C l w ld to bm).take C.toNat)) 3 true []) ?_ ?_
  · simp (disch := (first | (simp only [ne_eq,Nat.reduceEqDiff,not_false_eq_true,Nat.reduceLT]; done) | omega | (simp only [yz] <;> omega) | fail)) only [↓yp,yq0,yq1,yq2,yq3,yq4,yl,ys0,ys1,Nat.reduceAdd,Nat.reduceMul,Nat.reduceSub,Nat.reduceBEq,Nat.reduceEqDiff,Nat.reduceLT,Nat.reduceLeDiff,reduceIte,Int.reduceAdd,Int.reduceSub,Int.reduceMul,Int.reduceLT,Int.reduceLE,Int.reduceEq,Int.reduceToNat,Int.reduceNeg,zed,zee,zfr,zhw,ysu,yrg,ysv,g15,g17,g18,g19,g20,g8,b8,g11,g13,b20,lenV_slice zir,binV_nil_some zir,A_indexSlice zir,hE,hE1,hE2,hcc,nTT,nTF,nFT,nFF]
    refine ⟨I.next (Fr.refl _) (by (with_reducible (repeat (first | refine Keep.put ?_ (by decide) | refine Keep.none ?_ | assumption | exact Keep.refl _ _ _)))), ?_, ?_, ?_, ?_, ?_, ?_, ?_, ?_, ?_, hk18, b18⟩
    · simp (disch := (first | (simp only [ne_eq,Nat.reduceEqDiff,not_false_eq_true,Nat.reduceLT]; done) | omega | (simp only [yz] <;> omega) | fail)) only [yg,Nat.reduceAdd,Nat.reduceEqDiff,Nat.reduceLT,g10]
    · simp (disch := (first | (simp only [ne_eq,Nat.reduceEqDiff,not_false_eq_true,Nat.reduceLT]; done) | omega | (simp only [yz] <;> omega) | fail)) only [yg,Nat.reduceAdd,Nat.reduceEqDiff,Nat.reduceLT,g11]
    · simp (disch := (first | (simp only [ne_eq,Nat.reduceEqDiff,not_false_eq_true,Nat.reduceLT]; done) | omega | (simp only [yz] <;> omega) | fail)) only [yg,Nat.reduceAdd,Nat.reduceEqDiff,Nat.reduceLT,g12]
    · simp (disch := (first | (simp only [ne_eq,Nat.reduceEqDiff,not_false_eq_true,Nat.reduceLT]; done) | omega | (simp only [yz] <;> omega) | fail)) only [yg,Nat.reduceAdd,Nat.reduceEqDiff,Nat.reduceLT,g13]
    · simp (disch := (first | (simp only [ne_eq,Nat.reduceEqDiff,not_false_eq_true,Nat.reduceLT]; done) | omega | (simp only [yz] <;> omega) | fail)) only [yg,Nat.reduceAdd,Nat.reduceEqDiff,Nat.reduceLT,g14]
    · simp (disch := (first | (simp only [ne_eq,Nat.reduceEqDiff,not_false_eq_true,Nat.reduceLT]; done) | omega | (simp only [yz] <;> omega) | fail)) only [yg,Nat.reduceAdd,Nat.reduceEqDiff,Nat.reduceLT,g15]
    · simp (disch := (first | (simp only [ne_eq,Nat.reduceEqDiff,not_false_eq_true,Nat.reduceLT]; done) | omega | (simp only [yz] <;> omega) | fail)) only [yg,Nat.reduceAdd,Nat.reduceEqDiff,Nat.reduceLT,g16]
    · simp (disch := (first | (simp only [ne_eq,Nat.reduceEqDiff,not_false_eq_true,Nat.reduceLT]; done) | omega | (simp only [yz] <;> omega) | fail)) only [yg,Nat.reduceAdd,Nat.reduceEqDiff,Nat.reduceLT,g17]
    · simp (disch := (first | (simp only [ne_eq,Nat.reduceEqDiff,not_false_eq_true,Nat.reduceLT]; done) | omega | (simp only [yz] <;> omega) | fail)) only [yg,Nat.reduceAdd,Nat.reduceEqDiff,Nat.reduceLT,g18]
  clear sz I g10 g11 g12 g13 g14 g15 g16 g17 g18 g19 hk18 b18 g20 hk20 b20 g8 g9 b8 b9
  rintro e H' ⟨I, g10, g11, g12, g13, g14, g15, g16, g17, g18, hk18, b18⟩
  have sz := I.fr.size
  refine W_seqI (fun e' H'' => LP 223 H C w ld l i8 i9 a' cap' e' H'' ∧ gt 223 e' 10 = .int .i64 fr ∧ gt 223 e' 11 = .int .i64 to ∧ gt 223 e' 12 = .int .i64 m ∧ gt 223 e' 13 = .int .i64 bm ∧ gt 223 e' 14 = .int .i64 (L1 - m) ∧ gt 223 e' 15 = .int .i64 0 ∧ gt 223 e' 16 = .int .i64 (L2 - m) ∧ gt 223 e' 17 = .int .i64 0 ∧ gt 223 e' 18 = .slice (some ⟨k18, 0, none⟩) C.toNat c18 ∧ k18 < H''.size ∧ H''.get k18 = .rw (tv ((latT C l w ld to bm).take C.toNat)) 3 true []) ?_ ?_
  · simp (disch := (first | (simp only [ne_eq,Nat.reduceEqDiff,not_false_eq_true,Nat.reduceLT]; done) | omega | (simp only [yz] <;> omega) | fail)) only [↓yp,yq0,yq1,yq2,yq3,yq4,yl,ys0,ys1,Nat.reduceAdd,Nat.reduceMul,Nat.reduceSub,Nat.reduceBEq,Nat.reduceEqDiff,Nat.reduceLT,Nat.reduceLeDiff,reduceIte,Int.reduceAdd,Int.reduceSub,Int.reduceMul,Int.reduceLT,Int.reduceLE,Int.reduceEq,Int.reduceToNat,Int.reduceNeg,zed,zee,zfr,zhw,ysu,yrg,ysv,g15]
    refine ⟨I.next (Fr.refl _) (by (with_reducible (repeat (first | refine Keep.put ?_ (by decide) | refine Keep.none ?_ | assumption | exact Keep.refl _ _ _)))), ?_, ?_, ?_, ?_, ?_, ?_, ?_, ?_, ?_, hk18, b18⟩
    · simp (disch := (first | (simp only [ne_eq,Nat.reduceEqDiff,not_false_eq_true,Nat.reduceLT]; done) | omega | (simp only [yz] <;> omega) | fail)) only [yg,Nat.reduceAdd,Nat.reduceEqDiff,Nat.reduceLT,g10]
    · simp (disch := (first | (simp only [ne_eq,Nat.reduceEqDiff,not_false_eq_true,Nat.reduceLT]; done) | omega | (simp only [yz] <;> omega) | fail)) only [yg,Nat.reduceAdd,Nat.reduceEqDiff,Nat.reduceLT,g11]
    · simp (disch := (first | (simp only [ne_eq,Nat.reduceEqDiff,not_false_eq_true,Nat.reduceLT]; done) | omega | (simp only [yz] <;> omega) | fail)) only [yg,Nat.reduceAdd,Nat.reduceEqDiff,Nat.reduceLT,g12]
    · simp (disch := (first | (simp only [ne_eq,Nat.reduceEqDiff,not_false_eq_true,Nat.reduceLT]; done) | omega | (simp only [yz] <;> omega) | fail)) only [yg,Nat.reduceAdd,Nat.reduceEqDiff,Nat.reduceLT,g13]
    · simp (disch := (first | (simp only [ne_eq,Nat.reduceEqDiff,not_false_eq_true,Nat.reduceLT]; done) | omega | (simp only [yz] <;> omega) | fail)) only [yg,Nat.reduceAdd,Nat.reduceEqDiff,Nat.reduceLT,g14]
    · simp (disch := (first | (simp only [ne_eq,Nat.reduceEqDiff,not_false_eq_true,Nat.reduceLT]; done) | omega | (simp only [yz] <;> omega) | fail)) only [yg,Nat.reduceAdd,Nat.reduceEqDiff,Nat.reduceLT,g15]
    · simp (disch := (first | (simp only [ne_eq,Nat.reduceEqDiff,not_false_eq_true,Nat.reduceLT]; done) | omega | (simp only [yz] <;> omega) | fail)) only [yg,Nat.reduceAdd,Nat.reduceEqDiff,Nat.reduceLT,g16]
    · simp (disch := (first | (simp only [ne_eq,Nat.reduceEqDiff,not_false_eq_true,Nat.reduceLT]; done) | omega | (simp only [yz] <;> omega) | fail)) only [yg,Nat.reduceAdd,Nat.reduceEqDiff,Nat.reduceLT,g17]
    · simp (disch := (first | (simp only [ne_eq,Nat.reduceEqDiff,not_false_eq_true,Nat.reduceLT]; done) | omega | (simp only [yz] <;> omega) | fail)) only [yg,Nat.reduceAdd,Nat.reduceEqDiff,Nat.reduceLT,g18]
  clear sz I g10 g11 g12 g13 g14 g15 g16 g17 g18 hk18 b18
  rintro e H' ⟨I, g10, g11, g12, g13, g14, g15, g16, g17, g18, hk18, b18⟩
  have sz := I.fr.size
  refine W_seqI (fun e' H'' => LP 223 H C w ld l i8 i9 a' cap' e' H'' ∧ gt 223 e' 10 = .int .i64 fr ∧ gt 223 e' 11 = .int .i64 to ∧ gt 223 e' 12 = .int .i64 m ∧ gt 223 e' 13 = .int .i64 bm ∧ gt 223 e' 14 = .int .i64 (L1 - m)) ?_ ?_
  · simp (disch := (first | (simp only [ne_eq,Nat.reduceEqDiff,not_false_eq_true,Nat.reduceLT]; done) | omega | (simp only [yz] <;> omega) | fail)) only [↓yp,yq0,yq1,yq2,yq3,yq4,yl,ys0,ys1,Nat.reduceAdd,Nat.reduceMul,Nat.reduceSub,Nat.reduceBEq,Nat.reduceEqDiff,Nat.reduceLT,Nat.reduceLeDiff,reduceIte,Int.reduceAdd,Int.reduceSub,Int.reduceMul,Int.reduceLT,Int.reduceLE,Int.reduceEq,Int.reduceToNat,Int.reduceNeg,zed,zee,zfr,zhw,ysu,yrg,ysv,g10,g12,g13,g14,g17,g16,g18,b18,A_indexSlice zir,hL1,w1,q1,q2,q3,q4]
    refine ⟨I.next (Fr.refl _) (by (with_reducible (repeat (first | refine Keep.put ?_ (by decide) | refine Keep.none ?_ | assumption | exact Keep.refl _ _ _)))), ?_, ?_, ?_, ?_, ?_⟩
    · simp (disch := (first | (simp only [ne_eq,Nat.reduceEqDiff,not_false_eq_true,Nat.reduceLT]; done) | omega | (simp only [yz] <;> omega) | fail)) only [yg,Nat.reduceAdd,Nat.reduceEqDiff,Nat.reduceLT,g10]
    · simp (disch := (first | (simp only [ne_eq,Nat.reduceEqDiff,not_false_eq_true,Nat.reduceLT]; done) | omega | (simp only [yz] <;> omega) | fail)) only [yg,Nat.reduceAdd,Nat.reduceEqDiff,Nat.reduceLT,g11]
    · simp (disch := (first | (simp only [ne_eq,Nat.reduceEqDiff,not_false_eq_true,Nat.reduceLT]; done) | omega | (simp only [yz] <;> omega) | fail)) only [yg,Nat.reduceAdd,Nat.reduceEqDiff,Nat.reduceLT,g12]
    · simp (disch := (first | (simp only [ne_eq,Nat.reduceEqDiff,not_false_eq_true,Nat.reduceLT]; done) | omega | (simp only [yz] <;> omega) | fail)) only [yg,Nat.reduceAdd,Nat.reduceEqDiff,Nat.reduceLT,g13]
    · simp (disch := (first | (simp only [ne_eq,Nat.reduceEqDiff,not_false_eq_true,Nat.reduceLT]; done) | omega | (simp only [yz] <;> omega) | fail)) only [yg,Nat.reduceAdd,Nat.reduceEqDiff,Nat.reduceLT,g14]
  clear sz I g10 g11 g12 g13 g14 g15 g16 g17 g18 hk18 b18
  rintro e H' ⟨I, g10, g11, g12, g13, g14⟩
  have sz := I.fr.size
  have hb3 := both (w := w) (a₀ := L1) (bm := bm) g (by omega) (by omega) hfr hto2
  rw [hl1] at hb3
  obtain ⟨hE3, hE3b⟩ := hb3.2 ⟨hLn, Int.le_refl _⟩
  have e83 := earT_len (w := w) g (fr := fr) (a₀ := L1) hfr (by omega)
  have hE3a := take_at e83 hC hto2
  obtain ⟨E3, he3⟩ : ∃ E, tg (earT C l w ld fr L1) to = E := ⟨_, rfl⟩
  rw [he3] at hE3 hE3b hE3a
  have r1 : decide (E3 = -1) = false := by simpa using hE3
  have r2 : decide (bm < E3) = false := by simp; omega
  refine W_seqI (fun e' H'' => ∃ k21 c21, LP 223 H C w ld l i8 i9 a' cap' e' H'' ∧ gt 223 e' 10 = .int .i64 fr ∧ gt 223 e' 11 = .int .i64 to ∧ gt 223 e' 12 = .int .i64 m ∧ gt 223 e' 13 = .int .i64 bm ∧ gt 223 e' 14 = .int .i64 (L1 - m) ∧ gt 223 e' 21 = .slice (some ⟨k21, 0, none⟩) C.toNat c21 ∧ H''.get k21 = .rw (tv ((earT C l w ld fr L1).take C.toNat)) 3 true []) ?_ ?_
  · have g8 := I.g8
    have g9 := I.g9
    have b8 := I.b8
    have b9 := I.b9
    simp (disch := (first | (simp only [ne_eq,Nat.reduceEqDiff,not_false_eq_true,Nat.reduceLT]; done) | omega | (simp only [yz] <;> omega) | fail)) only [↓yp,yq0,yq1,yq2,yq3,yq4,yl,ys0,ys1,Nat.reduceAdd,Nat.reduceMul,Nat.reduceSub,Nat.reduceBEq,Nat.reduceEqDiff,Nat.reduceLT,Nat.reduceLeDiff,reduceIte,Int.reduceAdd,Int.reduceSub,Int.reduceMul,Int.reduceLT,Int.reduceLE,Int.reduceEq,Int.reduceToNat,Int.reduceNeg,zed,zee,zfr,zhw,ysu,yrg,ysv,g8,g9,b8,b9,g10,g12,g14,w1]
    refine c52 I.sl hl18 (az [fr] [L1] (by simp; omega) (by simp; omega)) (by omega) (by omega) ?_
    intro k cap'' H3 fr3 hk1 hk2 hk3
    simp (disch := (first | (simp only [ne_eq,Nat.reduceEqDiff,not_false_eq_true,Nat.reduceLT]; done) | omega | (simp only [yz] <;> omega) | fail)) only [↓yp,yq0,yq1,yq2,yq3,yq4,yl,ys0,ys1,Nat.reduceAdd,Nat.reduceMul,Nat.reduceSub,Nat.reduceBEq,Nat.reduceEqDiff,Nat.reduceLT,Nat.reduceLeDiff,reduceIte,Int.reduceAdd,Int.reduceSub,Int.reduceMul,Int.reduceLT,Int.reduceLE,Int.reduceEq,Int.reduceToNat,Int.reduceNeg,zed,zee,zfr,zhw,ysu,yrg,ysv]
    refine ⟨k, cap'', I.next fr3 (by (with_reducible (repeat (first | refine Keep.put ?_ (by decide) | refine Keep.none ?_ | assumption | exact Keep.refl _ _ _)))), ?_, ?_, ?_, ?_, ?_, ?_, hk3⟩
    · simp (disch := (first | (simp only [ne_eq,Nat.reduceEqDiff,not_false_eq_true,Nat.reduceLT]; done) | omega | (simp only [yz] <;> omega) | fail)) only [yg,Nat.reduceAdd,Nat.reduceEqDiff,Nat.reduceLT,g10]
    · simp (disch := (first | (simp only [ne_eq,Nat.reduceEqDiff,not_false_eq_true,Nat.reduceLT]; done) | omega | (simp only [yz] <;> omega) | fail)) only [yg,Nat.reduceAdd,Nat.reduceEqDiff,Nat.reduceLT,g11]
    · simp (disch := (first | (simp only [ne_eq,Nat.reduceEqDiff,not_false_eq_true,Nat.reduceLT]; done) | omega | (simp only [yz] <;> omega) | fail)) only [yg,Nat.reduceAdd,Nat.reduceEqDiff,Nat.reduceLT,g12]
    · simp (disch := (first | (simp only [ne_eq,Nat.reduceEqDiff,not_false_eq_true,Nat.reduceLT]; done) | omega | (simp only [yz] <;> omega) | fail)) only [yg,Nat.reduceAdd,Nat.reduceEqDiff,Nat.reduceLT,g13]
    · simp (disch := (first | (simp only [ne_eq,Nat.reduceEqDiff,not_false_eq_true,Nat.reduceLT]; done) | omega | (simp only [yz] <;> omega) | fail)) only [yg,Nat.reduceAdd,Nat.reduceEqDiff,Nat.reduceLT,g14]
    · simp (disch := (first | (simp only [ne_eq,Nat.reduceEqDiff,not_false_eq_true,Nat.reduceLT]; done) | omega | (simp only [yz] <;> omega) | fail)) only [yg,Nat.reduceAdd,Nat.reduceEqDiff,Nat.reduceLT]
  clear sz I g10 g11 g12 g13 g14
  rintro e H' ⟨k21, c21, I, g10, g11, g12, g13, g14, g21, b21⟩
  have sz := I.fr.size
  refine W_seqI (fun e' H'' => LP 223 H C w ld l i8 i9 a' cap' e' H'' ∧ gt 223 e' 10 = .int .i64 fr ∧ gt 223 e' 11 = .int .i64 to ∧ gt 223 e' 12 = .int .i64 m ∧ gt 223 e' 13 = .int .i64 bm ∧ gt 223 e' 14 = .int .i64 (L1 - m)) ?_ ?_
  · simp (disch := (first | (simp only [ne_eq,Nat.reduceEqDiff,not_false_eq_true,Nat.reduceLT]; done) | omega | (simp only [yz] <;> omega) | fail)) only [↓yp,yq0,yq1,yq2,yq3,yq4,yl,ys0,ys1,Nat.reduceAdd,Nat.reduceMul,Nat.reduceSub,Nat.reduceBEq,Nat.reduceEqDiff,Nat.reduceLT,Nat.reduceLeDiff,reduceIte,Int.reduceAdd,Int.reduceSub,Int.reduceMul,Int.reduceLT,Int.reduceLE,Int.reduceEq,Int.reduceToNat,Int.reduceNeg,zed,zee,zfr,zhw,ysu,yrg,ysv,g21,g11,g13,b21,binV_nil_some zir,A_indexSlice zir,hE3a,r1,r2]
    refine ⟨I.next (Fr.refl _) (by (with_reducible (repeat (first | refine Keep.put ?_ (by decide) | refine Keep.none ?_ | assumption | exact Keep.refl _ _ _)))), ?_, ?_, ?_, ?_, ?_⟩
    · simp (disch := (first | (simp only [ne_eq,Nat.reduceEqDiff,not_false_eq_true,Nat.reduceLT]; done) | omega | (simp only [yz] <;> omega) | fail)) only [yg,Nat.reduceAdd,Nat.reduceEqDiff,Nat.reduceLT,g10]
    · simp (disch := (first | (simp only [ne_eq,Nat.reduceEqDiff,not_false_eq_true,Nat.reduceLT]; done) | omega | (simp only [yz] <;> omega) | fail)) only [yg,Nat.reduceAdd,Nat.reduceEqDiff,Nat.reduceLT,g11]
    · simp (disch := (first | (simp only [ne_eq,Nat.reduceEqDiff,not_false_eq_true,Nat.reduceLT]; done) | omega | (simp only [yz] <;> omega) | fail)) only [yg,Nat.reduceAdd,Nat.reduceEqDiff,Nat.reduceLT,g12]
    · simp (disch := (first | (simp only [ne_eq,Nat.reduceEqDiff,not_false_eq_true,Nat.reduceLT]; done) | omega | (simp only [yz] <;> omega) | fail)) only [yg,Nat.reduceAdd,Nat.reduceEqDiff,Nat.reduceLT,g13]
    · simp (disch := (first | (simp only [ne_eq,Nat.reduceEqDiff,not_false_eq_true,Nat.reduceLT]; done) | omega | (simp only [yz] <;> omega) | fail)) only [yg,Nat.reduceAdd,Nat.reduceEqDiff,Nat.reduceLT,g14]
  clear sz I g10 g11 g12 g13 g14 g21 b21
  rintro e H' ⟨I, g10, g11, g12, g13, g14⟩
  have sz := I.fr.size
  cases hQ : decide (L1 = 240)
  rotate_left
  · simp (disch := (first | (simp only [ne_eq,Nat.reduceEqDiff,not_false_eq_true,Nat.reduceLT]; done) | omega | (simp only [yz] <;> omega) | fail)) only [↓yp,yq0,yq1,yq2,yq3,yq4,yl,ys0,ys1,Nat.reduceAdd,Nat.reduceMul,Nat.reduceSub,Nat.reduceBEq,Nat.reduceEqDiff,Nat.reduceLT,Nat.reduceLeDiff,reduceIte,Int.reduceAdd,Int.reduceSub,Int.reduceMul,Int.reduceLT,Int.reduceLE,Int.reduceEq,Int.reduceToNat,Int.reduceNeg,zed,zee,zfr,zhw,ysu,yrg,ysv,g12,g14,w1,hQ,awake_e]
  have hQ' : L1 ≠ 240 := of_decide_eq_false hQ
  have w2 : w64 (L1 + 1) = L1 + 1 := w64_of (by omega)
  have hb4 := both (w := w) (a₀ := L1 + 1) (bm := bm) g (by omega) (by omega) hfr hto2
  rw [hl1] at hb4
  have hn4 : ¬ (tg (earT C l w ld fr (L1 + 1)) to ≠ -1 ∧ tg (earT C l w ld fr (L1 + 1)) to ≤ bm) := fun h => by have := hb4.1 h; omega
  have e84 := earT_len (w := w) g (fr := fr) (a₀ := L1 + 1) hfr (by omega)
  have hE4a := take_at e84 hC hto2
  obtain ⟨E4, he4⟩ : ∃ E, tg (earT C l w ld fr (L1 + 1)) to = E := ⟨_, rfl⟩
  rw [he4] at hn4 hE4a
  have g8 := I.g8
  have g9 := I.g9
  have b8 := I.b8
  have b9 := I.b9
  simp (disch := (first | (simp only [ne_eq,Nat.reduceEqDiff,not_false_eq_true,Nat.reduceLT]; done) | omega | (simp only [yz] <;> omega) | fail)) only [↓yp,yq0,yq1,yq2,yq3,yq4,yl,ys0,ys1,Nat.reduceAdd,Nat.reduceMul,Nat.reduceSub,Nat.reduceBEq,Nat.reduceEqDiff,Nat.reduceLT,Nat.reduceLeDiff,reduceIte,Int.reduceAdd,Int.reduceSub,Int.reduceMul,Int.reduceLT,Int.reduceLE,Int.reduceEq,Int.reduceToNat,Int.reduceNeg,zed,zee,zfr,zhw,ysu,yrg,ysv,g8,g9,b8,b9,g10,g12,g14,w1,w2,hQ]
  refine c52 I.sl hl18 (az [fr] [L1 + 1] (by simp; omega) (by simp; omega)) (by omega) (by omega) ?_
  intro k cap'' H3 fr3 hk1 hk2 hk3
  have sz3 := fr3.size
  cases r3 : decide (E4 = -1)
  · have r4 : decide (bm < E4) = true := by
      have := of_decide_eq_false r3
      simp
      omega
    simp (disch := (first | (simp only [ne_eq,Nat.reduceEqDiff,not_false_eq_true,Nat.reduceLT]; done) | omega | (simp only [yz] <;> omega) | fail)) only [↓yp,yq0,yq1,yq2,yq3,yq4,yl,ys0,ys1,Nat.reduceAdd,Nat.reduceMul,Nat.reduceSub,Nat.reduceBEq,Nat.reduceEqDiff,Nat.reduceLT,Nat.reduceLeDiff,reduceIte,Int.reduceAdd,Int.reduceSub,Int.reduceMul,Int.reduceLT,Int.reduceLE,Int.reduceEq,Int.reduceToNat,Int.reduceNeg,zed,zee,zfr,zhw,ysu,yrg,ysv,g11,g13,hk3,binV_nil_someN zir,A_indexSlice zir,hE4a,r3,r4,awake_e]
  · simp (disch := (first | (simp only [ne_eq,Nat.reduceEqDiff,not_false_eq_true,Nat.reduceLT]; done) | omega | (simp only [yz] <;> omega) | fail)) only [↓yp,yq0,yq1,yq2,yq3,yq4,yl,ys0,ys1,Nat.reduceAdd,Nat.reduceMul,Nat.reduceSub,Nat.reduceBEq,Nat.reduceEqDiff,Nat.reduceLT,Nat.reduceLeDiff,reduceIte,Int.reduceAdd,Int.reduceSub,Int.reduceMul,Int.reduceLT,Int.reduceLE,Int.reduceEq,Int.reduceToNat,Int.reduceNeg,zed,zee,zfr,zhw,ysu,yrg,ysv,g11,g13,hk3,binV_nil_someN zir,A_indexSlice zir,hE4a,r3,awake_e]
end
end Go.Am
