/- The law StreetMirrored. -/
import Derived.Test.YthchcnbmegglcaaT37
set_option linter.unusedSimpArgs false
set_option linter.unusedVariables false
namespace Go.Am
open Go.Proofs
variable {T : Tab} {P : Program} {N L : Nat} {H : AHeap} {Q : Bool → Value → AHeap → Prop}
section
variable {a : Option Addr} {cap : Nat} {bs : List Int}
theorem awake_m {ex : Exec} : acall tabA ex 18 [] H = some (true, .bool true, H, H.size) := nr rfl
theorem chk_mir {C : Int} {l : List Str} (h : ∀ s ∈ l, OkS C s) : ∀ s ∈ l.map mir, OkS C s := by
  intro s hs
  obtain ⟨t, ht, rfl⟩ := List.mem_map.1 hs
  obtain ⟨h1, h2⟩ := h t ht
  unfold bad1 at h1
  unfold bad2 at h2
  simp only [Bool.or_eq_false_iff,decide_eq_false_iff_not] at h1 h2
  have b5 := off_iff.1 h2.2.2.2.2.1
  have b6 := off_iff.1 h2.2.2.2.2.2
  constructor
  · unfold bad1 mir
    simp only [Bool.or_eq_false_iff,decide_eq_false_iff_not]
    exact ⟨h1.2.1, h1.1, fun h => h1.2.2 h.symm⟩
  · unfold bad2 mir
    simp only [Bool.or_eq_false_iff]
    exact ⟨h2.1, h2.2.1, h2.2.2.1, h2.2.2.2.1, off_iff.2 (by omega), off_iff.2 (by omega)⟩
set_option maxHeartbeats 4000000 in
set_option maxRecDepth 10000 in
theorem c10 {x y : Int} (hb : Bts H a bs) (hx : 0 ≤ x ∧ x < 256) (hy : 0 ≤ y ∧ y < 256) :
    acall tabA (aexec tabA Try.prog (N + 8000)) 10 [.slice a bs.length cap, .int .u8 x, .int .u8 y] H = some (true, .bool true, H, H.size) := by
  refine call_quiet (k := 116) (rs := [.tmp 6]) rfl fn_10 rfl rfl rfl ?_ rfl
  refine W_seqI (fun e' H'' => gt 116 e' 0 = .slice a bs.length cap ∧ gt 116 e' 1 = .int .u8 x ∧ gt 116 e' 2 = .int .u8 y ∧ H = H'') ?_ ?_
  · simp (disch := (first | (simp only [ne_eq,Nat.reduceEqDiff,not_false_eq_true,Nat.reduceLT]; done) | omega | (simp only [yz] <;> omega) | fail)) only [↓yp,yq0,yq1,yq2,yq3,yq4,yl,ys0,ys1,Nat.reduceAdd,Nat.reduceMul,Nat.reduceSub,Nat.reduceBEq,Nat.reduceEqDiff,Nat.reduceLT,Nat.reduceLeDiff,reduceIte,Int.reduceAdd,Int.reduceSub,Int.reduceMul,Int.reduceLT,Int.reduceLE,Int.reduceEq,Int.reduceToNat,Int.reduceNeg,zed,zee,zfr,zhw,ysu,yrg,ysv]
    refine ⟨?_, ?_, ?_, rfl⟩
    · simp (disch := (first | (simp only [ne_eq,Nat.reduceEqDiff,not_false_eq_true,Nat.reduceLT]; done) | omega | (simp only [yz] <;> omega) | fail)) only [yg,Nat.reduceAdd,Nat.reduceEqDiff,Nat.reduceLT]
    · simp (disch := (first | (simp only [ne_eq,Nat.reduceEqDiff,not_false_eq_true,Nat.reduceLT]; done) | omega | (simp only [yz] <;> omega) | fail)) only [yg,Nat.reduceAdd,Nat.reduceEqDiff,Nat.reduceLT]
    · simp (disch := (first | (simp only [ne_eq,Nat.reduceEqDiff,not_false_eq_true,Nat.reduceLT]; done) | omega | (simp only [yz] <;> omega) | fail)) only [yg,Nat.reduceAdd,Nat.reduceEqDiff,Nat.reduceLT]
  rintro e1 H1 ⟨g0, g1, g2, rfl⟩
  refine W_seqI (fun e' H'' => gt 116 e' 1 = .int .u8 x ∧ gt 116 e' 2 = .int .u8 y ∧ gt 116 e' 7 = .pointer (some ⟨H.size, 0, none⟩) ∧ Fr H H'' ∧ H''.size = H.size + 1 ∧ Chu H'' H.size a bs cap) ?_ ?_
  · simp (disch := (first | (simp only [ne_eq,Nat.reduceEqDiff,not_false_eq_true,Nat.reduceLT]; done) | omega | (simp only [yz] <;> omega) | fail)) only [↓yp,yq0,yq1,yq2,yq3,yq4,yl,ys0,ys1,Nat.reduceAdd,Nat.reduceMul,Nat.reduceSub,Nat.reduceBEq,Nat.reduceEqDiff,Nat.reduceLT,Nat.reduceLeDiff,reduceIte,Int.reduceAdd,Int.reduceSub,Int.reduceMul,Int.reduceLT,Int.reduceLE,Int.reduceEq,Int.reduceToNat,Int.reduceNeg,zed,zee,zfr,zhw,ysu,yrg,ysv,g0]
    refine c48 hb (Nat.le_refl _) (by omega) ?_
    intro H2 fr1 hs1 hc1
    simp (disch := (first | (simp only [ne_eq,Nat.reduceEqDiff,not_false_eq_true,Nat.reduceLT]; done) | omega | (simp only [yz] <;> omega) | fail)) only [↓yp,yq0,yq1,yq2,yq3,yq4,yl,ys0,ys1,Nat.reduceAdd,Nat.reduceMul,Nat.reduceSub,Nat.reduceBEq,Nat.reduceEqDiff,Nat.reduceLT,Nat.reduceLeDiff,reduceIte,Int.reduceAdd,Int.reduceSub,Int.reduceMul,Int.reduceLT,Int.reduceLE,Int.reduceEq,Int.reduceToNat,Int.reduceNeg,zed,zee,zfr,zhw,ysu,yrg,ysv]
    refine ⟨?_, ?_, ?_, fr1, hs1, hc1⟩
    · simp (disch := (first | (simp only [ne_eq,Nat.reduceEqDiff,not_false_eq_true,Nat.reduceLT]; done) | omega | (simp only [yz] <;> omega) | fail)) only [yg,Nat.reduceAdd,Nat.reduceEqDiff,Nat.reduceLT,g1]
    · simp (disch := (first | (simp only [ne_eq,Nat.reduceEqDiff,not_false_eq_true,Nat.reduceLT]; done) | omega | (simp only [yz] <;> omega) | fail)) only [yg,Nat.reduceAdd,Nat.reduceEqDiff,Nat.reduceLT,g2]
    · simp (disch := (first | (simp only [ne_eq,Nat.reduceEqDiff,not_false_eq_true,Nat.reduceLT]; done) | omega | (simp only [yz] <;> omega) | fail)) only [yg,Nat.reduceAdd,Nat.reduceEqDiff,Nat.reduceLT]
  clear g0 g1 g2
  rintro e2 H1 ⟨g1, g2, g7, fr1, hs1, hc1⟩
  refine W_seqI (fun e' H'' => ∃ a' cap' C l i8, gt 116 e' 1 = .int .u8 x ∧ gt 116 e' 2 = .int .u8 y ∧ gt 116 e' 7 = .pointer (some ⟨H.size, 0, none⟩) ∧ gt 116 e' 8 = .pointer (some ⟨i8, 0, none⟩) ∧ (2 ≤ C ∧ C ≤ 8) ∧ (l.length : Int) ≤ 14 ∧ (∀ s ∈ l, OkS C s) ∧ (a' = none → cap' = 0) ∧ Sl H'' a' l ∧ H''.get i8 = .rw [.int .i64 C, .slice a' l.length cap'] 24 false [] ∧ H.size < i8 ∧ i8 < H''.size ∧ Fr H H'' ∧ Chu H'' H.size a bs cap) ?_ ?_
  · simp (disch := (first | (simp only [ne_eq,Nat.reduceEqDiff,not_false_eq_true,Nat.reduceLT]; done) | omega | (simp only [yz] <;> omega) | fail)) only [↓yp,yq0,yq1,yq2,yq3,yq4,yl,ys0,ys1,Nat.reduceAdd,Nat.reduceMul,Nat.reduceSub,Nat.reduceBEq,Nat.reduceEqDiff,Nat.reduceLT,Nat.reduceLeDiff,reduceIte,Int.reduceAdd,Int.reduceSub,Int.reduceMul,Int.reduceLT,Int.reduceLE,Int.reduceEq,Int.reduceToNat,Int.reduceNeg,zed,zee,zfr,zhw,ysu,yrg,ysv,g7]
    refine c49 hc1 (by omega) (by omega) (Nat.le_refl _) (by omega) ?_
    intro f2 a' cap' C l H2 hC1 hC2 hl ho hn hsl hc2 hx2
    have sz2 := hx2.size
    simp (disch := (first | (simp only [ne_eq,Nat.reduceEqDiff,not_false_eq_true,Nat.reduceLT]; done) | omega | (simp only [yz] <;> omega) | fail)) only [↓yp,yq0,yq1,yq2,yq3,yq4,yl,ys0,ys1,Nat.reduceAdd,Nat.reduceMul,Nat.reduceSub,Nat.reduceBEq,Nat.reduceEqDiff,Nat.reduceLT,Nat.reduceLeDiff,reduceIte,Int.reduceAdd,Int.reduceSub,Int.reduceMul,Int.reduceLT,Int.reduceLE,Int.reduceEq,Int.reduceToNat,Int.reduceNeg,zed,zee,zfr,zhw,ysu,yrg,ysv]
    refine ⟨a', cap', C, l, H2.size, ?_, ?_, ?_, ?_, by omega, by omega, ho, hn, Sl.put (hsl.fr (Fr.alloc _ _)) (c := [.int .i64 0, .slice none 0 0]) (by rw [zda rfl]; rfl) (by simp), zdc (by (first | omega | (simp only [yz] <;> omega))), by omega, by (first | omega | (simp only [yz] <;> omega)), Fr.put (Fr.allocd (hx2.above fr1 (Nat.le_refl _)) _) (by omega) _, (hc2.fr (Fr.alloc _ _)).other (by omega) (fun c e => by rw [zda rfl] at e; cases e)⟩
    · simp (disch := (first | (simp only [ne_eq,Nat.reduceEqDiff,not_false_eq_true,Nat.reduceLT]; done) | omega | (simp only [yz] <;> omega) | fail)) only [yg,Nat.reduceAdd,Nat.reduceEqDiff,Nat.reduceLT,g1]
    · simp (disch := (first | (simp only [ne_eq,Nat.reduceEqDiff,not_false_eq_true,Nat.reduceLT]; done) | omega | (simp only [yz] <;> omega) | fail)) only [yg,Nat.reduceAdd,Nat.reduceEqDiff,Nat.reduceLT,g2]
    · simp (disch := (first | (simp only [ne_eq,Nat.reduceEqDiff,not_false_eq_true,Nat.reduceLT]; done) | omega | (simp only [yz] <;> omega) | fail)) only [yg,Nat.reduceAdd,Nat.reduceEqDiff,Nat.reduceLT,g7]
    · simp (disch := (first | (simp only [ne_eq,Nat.reduceEqDiff,not_false_eq_true,Nat.reduceLT]; done) | omega | (simp only [yz] <;> omega) | fail)) only [yg,Nat.reduceAdd,Nat.reduceEqDiff,Nat.reduceLT]
  clear g1 g2 g7 fr1 hs1 hc1
  rintro e3 H2 ⟨a', cap', C, l, i8, g1, g2, g7, g8, hC28, hl, ho, hn, hsl, b8, k8, l8, fr2, hc2⟩
  refine W_seqI (fun e' H'' => ∃ w ld i9, LP 116 H C w ld l i8 i9 a' cap' e' H'' ∧ gt 116 e' 1 = .int .u8 x ∧ gt 116 e' 2 = .int .u8 y ∧ gt 116 e' 7 = .pointer (some ⟨H.size, 0, none⟩) ∧ (1 ≤ w ∧ w ≤ 5) ∧ (0 ≤ ld ∧ ld ≤ 5) ∧ H.size < i9 ∧ Chu H'' H.size a bs cap) ?_ ?_
  · have sz2 := fr2.size
    simp (disch := (first | (simp only [ne_eq,Nat.reduceEqDiff,not_false_eq_true,Nat.reduceLT]; done) | omega | (simp only [yz] <;> omega) | fail)) only [↓yp,yq0,yq1,yq2,yq3,yq4,yl,ys0,ys1,Nat.reduceAdd,Nat.reduceMul,Nat.reduceSub,Nat.reduceBEq,Nat.reduceEqDiff,Nat.reduceLT,Nat.reduceLeDiff,reduceIte,Int.reduceAdd,Int.reduceSub,Int.reduceMul,Int.reduceLT,Int.reduceLE,Int.reduceEq,Int.reduceToNat,Int.reduceNeg,zed,zee,zfr,zhw,ysu,yrg,ysv,g7]
    refine c50 hc2 (Nat.le_refl _) (by omega) ?_
    intro f3 w ld H3 hw1 hw2 hd1 hd2 hc3 hx3
    have sz3 := hx3.size
    simp (disch := (first | (simp only [ne_eq,Nat.reduceEqDiff,not_false_eq_true,Nat.reduceLT]; done) | omega | (simp only [yz] <;> omega) | fail)) only [↓yp,yq0,yq1,yq2,yq3,yq4,yl,ys0,ys1,Nat.reduceAdd,Nat.reduceMul,Nat.reduceSub,Nat.reduceBEq,Nat.reduceEqDiff,Nat.reduceLT,Nat.reduceLeDiff,reduceIte,Int.reduceAdd,Int.reduceSub,Int.reduceMul,Int.reduceLT,Int.reduceLE,Int.reduceEq,Int.reduceToNat,Int.reduceNeg,zed,zee,zfr,zhw,ysu,yrg,ysv]
    refine ⟨w, ld, H3.size, ⟨?_, ?_, Fr.put (Fr.allocd (hx3.above fr2 (Nat.le_refl _)) _) (by omega) _, by (first | omega | (simp only [yz] <;> omega)), by (first | omega | (simp only [yz] <;> omega)), ?_, zdc (by (first | omega | (simp only [yz] <;> omega))), Sl.put ((hsl.frx hc2 hx3).fr (Fr.alloc _ _)) (c := [.int .i64 0, .int .i64 0]) (by rw [zda rfl]; rfl) (by simp)⟩, ?_, ?_, ?_, by omega, by omega, by omega, (hc3.fr (Fr.alloc _ _)).other (by omega) (fun c e => by rw [zda rfl] at e; cases e)⟩
    · simp (disch := (first | (simp only [ne_eq,Nat.reduceEqDiff,not_false_eq_true,Nat.reduceLT]; done) | omega | (simp only [yz] <;> omega) | fail)) only [yg,Nat.reduceAdd,Nat.reduceEqDiff,Nat.reduceLT,g8]
    · simp (disch := (first | (simp only [ne_eq,Nat.reduceEqDiff,not_false_eq_true,Nat.reduceLT]; done) | omega | (simp only [yz] <;> omega) | fail)) only [yg,Nat.reduceAdd,Nat.reduceEqDiff,Nat.reduceLT]
    · rw [zdd (by omega), zdb (by omega), hx3.same _ l8 (by omega)]; exact b8
    · simp (disch := (first | (simp only [ne_eq,Nat.reduceEqDiff,not_false_eq_true,Nat.reduceLT]; done) | omega | (simp only [yz] <;> omega) | fail)) only [yg,Nat.reduceAdd,Nat.reduceEqDiff,Nat.reduceLT,g1]
    · simp (disch := (first | (simp only [ne_eq,Nat.reduceEqDiff,not_false_eq_true,Nat.reduceLT]; done) | omega | (simp only [yz] <;> omega) | fail)) only [yg,Nat.reduceAdd,Nat.reduceEqDiff,Nat.reduceLT,g2]
    · simp (disch := (first | (simp only [ne_eq,Nat.reduceEqDiff,not_false_eq_true,Nat.reduceLT]; done) | omega | (simp only [yz] <;> omega) | fail)) only [yg,Nat.reduceAdd,Nat.reduceEqDiff,Nat.reduceLT,g7]
  have hk8 : H.size < i8 := k8
  clear g1 g2 g7 g8 hsl b8 l8 fr2 hc2 k8
  rintro e H' ⟨w, ld, i9, I, g1, g2, g7, ⟨hw1, hw2⟩, ⟨hd1, hd2⟩, hk9, hc⟩
  have hC : 1 ≤ C ∧ C ≤ 8 := by omega
  obtain ⟨to, hto⟩ : ∃ to, x.tmod C = to := ⟨_, rfl⟩
  have hto2 : 0 ≤ to ∧ to < C := by
    rw [← hto]
    exact ⟨Int.tmod_nonneg _ hx.1, Int.tmod_lt_of_pos _ (by omega)⟩
  obtain ⟨bm, hbm⟩ : ∃ bm, y.tmod 241 = bm := ⟨_, rfl⟩
  have hbm2 : 0 ≤ bm ∧ bm ≤ 240 := by
    have h1 := Int.tmod_nonneg 241 hy.1
    have h2 := Int.tmod_lt_of_pos y (show (0 : Int) < 241 by omega)
    omega
  have hlt := hc.lt
  have sz := I.fr.size
  refine W_seqI (fun e' H'' => LP 116 H C w ld l i8 i9 a' cap' e' H'' ∧ gt 116 e' 10 = .int .i64 to ∧ gt 116 e' 11 = .int .i64 bm) ?_ ?_
  · have g8 := I.g8
    have b8 := I.b8
    have w1 : w64 x = x := w64_of (by omega)
    have w2 : w64 y = y := w64_of (by omega)
    have hrem := fun (p q : Operand) (z : Int) => i64_rem (T := tabA) (P := Try.prog) (ty := 3) (x := p) (y := q) (a := z) (b := C) (by omega)
    have hrem2 := fun (p q : Operand) (z : Int) => i64_rem (T := tabA) (P := Try.prog) (ty := 3) (x := p) (y := q) (a := z) (b := 241) (by omega)
    simp (disch := (first | (simp only [ne_eq,Nat.reduceEqDiff,not_false_eq_true,Nat.reduceLT]; done) | omega | (simp only [yz] <;> omega) | fail)) only [↓yp,yq0,yq1,yq2,yq3,yq4,yl,ys0,ys1,Nat.reduceAdd,Nat.reduceMul,Nat.reduceSub,Nat.reduceBEq,Nat.reduceEqDiff,Nat.reduceLT,Nat.reduceLeDiff,reduceIte,Int.reduceAdd,Int.reduceSub,Int.reduceMul,Int.reduceLT,Int.reduceLE,Int.reduceEq,Int.reduceToNat,Int.reduceNeg,zed,zee,zfr,zhw,ysu,yrg,ysv,g1,g2,g8,b8,A_conv,cv_5_3,w1,w2,hrem,hrem2,hto,hbm]
    refine ⟨I.next (Fr.refl _) (by (with_reducible (repeat (first | refine Keep.put ?_ (by decide) | refine Keep.none ?_ | assumption | exact Keep.refl _ _ _)))), ?_, ?_⟩
    · simp (disch := (first | (simp only [ne_eq,Nat.reduceEqDiff,not_false_eq_true,Nat.reduceLT]; done) | omega | (simp only [yz] <;> omega) | fail)) only [yg,Nat.reduceAdd,Nat.reduceEqDiff,Nat.reduceLT]
    · simp (disch := (first | (simp only [ne_eq,Nat.reduceEqDiff,not_false_eq_true,Nat.reduceLT]; done) | omega | (simp only [yz] <;> omega) | fail)) only [yg,Nat.reduceAdd,Nat.reduceEqDiff,Nat.reduceLT]
  clear sz I g7 g1 g2 hc hlt
  rintro e H' ⟨I, g10, g11⟩
  have sz := I.fr.size
  have hl18 : l.length ≤ 18 := by omega
  have hck : chk C l = 0 := chk_of hC (by omega) ho
  have hlm : (l.map mir).length = l.length := List.length_map ..
  have hom := chk_mir ho
  have hckm : chk C (l.map mir) = 0 := chk_of hC (by omega) hom
  have hmm : (l.map mir).map mir = l := by
    rw [List.map_map]
    have : mir ∘ mir = id := funext fun s => mir_mir s
    rw [this, List.map_id]
  have az := fun (cs ms : List Int) h1 h3 => asked_zero (cs := cs) (ms := ms) (ld := ld) (w := w) hC (show l.length ≤ 16 by omega) ho (by omega) (by omega) h1 h3
  have azm := fun (cs ms : List Int) h1 h3 => asked_zero (cs := cs) (ms := ms) (ld := ld) (w := w) hC (show (l.map mir).length ≤ 16 by omega) hom (by omega) (by omega) h1 h3
  have g : Good C l ld := good_of hck (off_iff.2 (by omega))
  refine W_seqI (fun e' H'' => ∃ i12 a3 c3, LP 116 H C w ld l i8 i9 a' cap' e' H'' ∧ gt 116 e' 10 = .int .i64 to ∧ gt 116 e' 11 = .int .i64 bm ∧ gt 116 e' 12 = .pointer (some ⟨i12, 0, none⟩) ∧ gt 116 e' 13 = .int .i64 0 ∧ i12 < H''.size ∧ H''.get i12 = .rw [.int .i64 C, .slice a3 (l.map mir).length c3] 24 false [] ∧ Sl H'' a3 (l.map mir) ∧ (a3 = none → c3 = 0)) ?_ ?_
  · have g8 := I.g8
    have b8 := I.b8
    simp (disch := (first | (simp only [ne_eq,Nat.reduceEqDiff,not_false_eq_true,Nat.reduceLT]; done) | omega | (simp only [yz] <;> omega) | fail)) only [↓yp,yq0,yq1,yq2,yq3,yq4,yl,ys0,ys1,Nat.reduceAdd,Nat.reduceMul,Nat.reduceSub,Nat.reduceBEq,Nat.reduceEqDiff,Nat.reduceLT,Nat.reduceLeDiff,reduceIte,Int.reduceAdd,Int.reduceSub,Int.reduceMul,Int.reduceLT,Int.reduceLE,Int.reduceEq,Int.reduceToNat,Int.reduceNeg,zed,zee,zfr,zhw,ysu,yrg,ysv,g8,b8]
    refine c23w I.sl hl18 hn (by omega) (by omega) ?_
    rintro bq v H2 (⟨hc, rfl, fr2⟩ | ⟨hc, a3, cap3, rfl, nw⟩)
    · exact absurd hck hc
    have f2 := nw.fr.size
    simp (disch := (first | (simp only [ne_eq,Nat.reduceEqDiff,not_false_eq_true,Nat.reduceLT]; done) | omega | (simp only [yz] <;> omega) | fail)) only [↓yp,yq0,yq1,yq2,yq3,yq4,yl,ys0,ys1,Nat.reduceAdd,Nat.reduceMul,Nat.reduceSub,Nat.reduceBEq,Nat.reduceEqDiff,Nat.reduceLT,Nat.reduceLeDiff,reduceIte,Int.reduceAdd,Int.reduceSub,Int.reduceMul,Int.reduceLT,Int.reduceLE,Int.reduceEq,Int.reduceToNat,Int.reduceNeg,zed,zee,zfr,zhw,ysu,yrg,ysv]
    have fx : Fr H' ((H2.alloc (.rw [.int .i64 0, .slice none 0 0] 24 false [])).put H2.size (.rw [.int .i64 C, .slice a3 l.length cap3] 24 false [])) := Fr.put (Fr.allocd nw.fr _) (by omega) _
    refine ⟨H2.size, a3, cap3, I.next fx (by (with_reducible (repeat (first | refine Keep.put ?_ (by decide) | refine Keep.none ?_ | assumption | exact Keep.refl _ _ _)))), ?_, ?_, ?_, ?_, by (first | omega | (simp only [yz] <;> omega)), ?_, Sl.put (nw.sl.fr (Fr.alloc _ _)) (c := [.int .i64 0, .slice none 0 0]) (by rw [zda rfl]; rfl) (by simp), nw.nl⟩
    · simp (disch := (first | (simp only [ne_eq,Nat.reduceEqDiff,not_false_eq_true,Nat.reduceLT]; done) | omega | (simp only [yz] <;> omega) | fail)) only [yg,Nat.reduceAdd,Nat.reduceEqDiff,Nat.reduceLT,g10]
    · simp (disch := (first | (simp only [ne_eq,Nat.reduceEqDiff,not_false_eq_true,Nat.reduceLT]; done) | omega | (simp only [yz] <;> omega) | fail)) only [yg,Nat.reduceAdd,Nat.reduceEqDiff,Nat.reduceLT,g11]
    · simp (disch := (first | (simp only [ne_eq,Nat.reduceEqDiff,not_false_eq_true,Nat.reduceLT]; done) | omega | (simp only [yz] <;> omega) | fail)) only [yg,Nat.reduceAdd,Nat.reduceEqDiff,Nat.reduceLT]
    · simp (disch := (first | (simp only [ne_eq,Nat.reduceEqDiff,not_false_eq_true,Nat.reduceLT]; done) | omega | (simp only [yz] <;> omega) | fail)) only [yg,Nat.reduceAdd,Nat.reduceEqDiff,Nat.reduceLT]
    · rw [hlm]; exact zdc (by (first | omega | (simp only [yz] <;> omega)))
  clear sz I g10 g11
  rintro e H' ⟨i12, a3, c3, I, g10, g11, g12, g13, l12, b12, s12, n12⟩
  have sz := I.fr.size
  refine W_seqI (fun e' H'' => ∃ i14 a4 c4, LP 116 H C w ld l i8 i9 a' cap' e' H'' ∧ gt 116 e' 10 = .int .i64 to ∧ gt 116 e' 11 = .int .i64 bm ∧ gt 116 e' 12 = .pointer (some ⟨i12, 0, none⟩) ∧ gt 116 e' 13 = .int .i64 0 ∧ i12 < H''.size ∧ H''.get i12 = .rw [.int .i64 C, .slice a3 (l.map mir).length c3] 24 false [] ∧ Sl H'' a3 (l.map mir) ∧ gt 116 e' 14 = .pointer (some ⟨i14, 0, none⟩) ∧ gt 116 e' 15 = .int .i64 0 ∧ i14 < H''.size ∧ H''.get i14 = .rw [.int .i64 C, .slice a4 l.length c4] 24 false [] ∧ Sl H'' a4 l) ?_ ?_
  · simp (disch := (first | (simp only [ne_eq,Nat.reduceEqDiff,not_false_eq_true,Nat.reduceLT]; done) | omega | (simp only [yz] <;> omega) | fail)) only [↓yp,yq0,yq1,yq2,yq3,yq4,yl,ys0,ys1,Nat.reduceAdd,Nat.reduceMul,Nat.reduceSub,Nat.reduceBEq,Nat.reduceEqDiff,Nat.reduceLT,Nat.reduceLeDiff,reduceIte,Int.reduceAdd,Int.reduceSub,Int.reduceMul,Int.reduceLT,Int.reduceLE,Int.reduceEq,Int.reduceToNat,Int.reduceNeg,zed,zee,zfr,zhw,ysu,yrg,ysv,g12,b12]
    refine c23w s12 (by omega) n12 (by omega) (by omega) ?_
    rintro bq v H2 (⟨hc, rfl, fr2⟩ | ⟨hc, a4, cap4, rfl, nw⟩)
    · exact absurd hckm hc
    have f2 := nw.fr.size
    have snw := nw.sl
    rw [hmm] at snw
    simp (disch := (first | (simp only [ne_eq,Nat.reduceEqDiff,not_false_eq_true,Nat.reduceLT]; done) | omega | (simp only [yz] <;> omega) | fail)) only [↓yp,yq0,yq1,yq2,yq3,yq4,yl,ys0,ys1,Nat.reduceAdd,Nat.reduceMul,Nat.reduceSub,Nat.reduceBEq,Nat.reduceEqDiff,Nat.reduceLT,Nat.reduceLeDiff,reduceIte,Int.reduceAdd,Int.reduceSub,Int.reduceMul,Int.reduceLT,Int.reduceLE,Int.reduceEq,Int.reduceToNat,Int.reduceNeg,zed,zee,zfr,zhw,ysu,yrg,ysv]
    have fx : Fr H' ((H2.alloc (.rw [.int .i64 0, .slice none 0 0] 24 false [])).put H2.size (.rw [.int .i64 C, .slice a4 (l.map mir).length cap4] 24 false [])) := Fr.put (Fr.allocd nw.fr _) (by omega) _
    refine ⟨H2.size, a4, cap4, I.next fx (by (with_reducible (repeat (first | refine Keep.put ?_ (by decide) | refine Keep.none ?_ | assumption | exact Keep.refl _ _ _)))), ?_, ?_, ?_, ?_, Nat.lt_of_lt_of_le l12 fx.size, by rw [fx.same _ l12]; exact b12, s12.fr fx, ?_, ?_, by (first | omega | (simp only [yz] <;> omega)), ?_, Sl.put (snw.fr (Fr.alloc _ _)) (c := [.int .i64 0, .slice none 0 0]) (by rw [zda rfl]; rfl) (by simp)⟩
    · simp (disch := (first | (simp only [ne_eq,Nat.reduceEqDiff,not_false_eq_true,Nat.reduceLT]; done) | omega | (simp only [yz] <;> omega) | fail)) only [yg,Nat.reduceAdd,Nat.reduceEqDiff,Nat.reduceLT,g10]
    · simp (disch := (first | (simp only [ne_eq,Nat.reduceEqDiff,not_false_eq_true,Nat.reduceLT]; done) | omega | (simp only [yz] <;> omega) | fail)) only [yg,Nat.reduceAdd,Nat.reduceEqDiff,Nat.reduceLT,g11]
    · simp (disch := (first | (simp only [ne_eq,Nat.reduceEqDiff,not_false_eq_true,Nat.reduceLT]; done) | omega | (simp only [yz] <;> omega) | fail)) only [yg,Nat.reduceAdd,Nat.reduceEqDiff,Nat.reduceLT,g12]
    · simp (disch := (first | (simp only [ne_eq,Nat.reduceEqDiff,not_false_eq_true,Nat.reduceLT]; done) | omega | (simp only [yz] <;> omega) | fail)) only [yg,Nat.reduceAdd,Nat.reduceEqDiff,Nat.reduceLT,g13]
    · simp (disch := (first | (simp only [ne_eq,Nat.reduceEqDiff,not_false_eq_true,Nat.reduceLT]; done) | omega | (simp only [yz] <;> omega) | fail)) only [yg,Nat.reduceAdd,Nat.reduceEqDiff,Nat.reduceLT]
    · simp (disch := (first | (simp only [ne_eq,Nat.reduceEqDiff,not_false_eq_true,Nat.reduceLT]; done) | omega | (simp only [yz] <;> omega) | fail)) only [yg,Nat.reduceAdd,Nat.reduceEqDiff,Nat.reduceLT]
    · rw [← hlm]; exact zdc (by (first | omega | (simp only [yz] <;> omega)))
  clear sz I g10 g11 g12 g13 l12 b12 s12 n12
  rintro e H' ⟨i14, a4, c4, I, g10, g11, g12, g13, l12, b12, s12, g14, g15, l14, b14, s14⟩
  have sz := I.fr.size
  refine W_seqI (fun e' H'' => ∃ k16 c16, LP 116 H C w ld l i8 i9 a' cap' e' H'' ∧ gt 116 e' 10 = .int .i64 to ∧ gt 116 e' 11 = .int .i64 bm ∧ gt 116 e' 12 = .pointer (some ⟨i12, 0, none⟩) ∧ gt 116 e' 13 = .int .i64 0 ∧ i12 < H''.size ∧ H''.get i12 = .rw [.int .i64 C, .slice a3 (l.map mir).length c3] 24 false [] ∧ Sl H'' a3 (l.map mir) ∧ gt 116 e' 14 = .pointer (some ⟨i14, 0, none⟩) ∧ gt 116 e' 15 = .int .i64 0 ∧ i14 < H''.size ∧ H''.get i14 = .rw [.int .i64 C, .slice a4 l.length c4] 24 false [] ∧ Sl H'' a4 l ∧ gt 116 e' 16 = .slice (some ⟨k16, 0, none⟩) C.toNat c16 ∧ gt 116 e' 17 = .int .i64 0 ∧ k16 < H''.size ∧ H''.get k16 = .rw (tv ((latT C l w ld to bm).take C.toNat)) 3 true []) ?_ ?_
  · have g8 := I.g8
    have g9 := I.g9
    have b8 := I.b8
    have b9 := I.b9
    simp (disch := (first | (simp only [ne_eq,Nat.reduceEqDiff,not_false_eq_true,Nat.reduceLT]; done) | omega | (simp only [yz] <;> omega) | fail)) only [↓yp,yq0,yq1,yq2,yq3,yq4,yl,ys0,ys1,Nat.reduceAdd,Nat.reduceMul,Nat.reduceSub,Nat.reduceBEq,Nat.reduceEqDiff,Nat.reduceLT,Nat.reduceLeDiff,reduceIte,Int.reduceAdd,Int.reduceSub,Int.reduceMul,Int.reduceLT,Int.reduceLE,Int.reduceEq,Int.reduceToNat,Int.reduceNeg,zed,zee,zfr,zhw,ysu,yrg,ysv,g8,g9,b8,b9,g10,g11]
    refine c35k I.sl hl18 (az [to] [bm] (by simp; omega) (by simp; omega)) (by omega) (by omega) ?_
    intro k cap'' H3 fr3 hk1 hk2 hk3
    simp (disch := (first | (simp only [ne_eq,Nat.reduceEqDiff,not_false_eq_true,Nat.reduceLT]; done) | omega | (simp only [yz] <;> omega) | fail)) only [↓yp,yq0,yq1,yq2,yq3,yq4,yl,ys0,ys1,Nat.reduceAdd,Nat.reduceMul,Nat.reduceSub,Nat.reduceBEq,Nat.reduceEqDiff,Nat.reduceLT,Nat.reduceLeDiff,reduceIte,Int.reduceAdd,Int.reduceSub,Int.reduceMul,Int.reduceLT,Int.reduceLE,Int.reduceEq,Int.reduceToNat,Int.reduceNeg,zed,zee,zfr,zhw,ysu,yrg,ysv]
    refine ⟨k, cap'', I.next fr3 (by (with_reducible (repeat (first | refine Keep.put ?_ (by decide) | refine Keep.none ?_ | assumption | exact Keep.refl _ _ _)))), ?_, ?_, ?_, ?_, Nat.lt_of_lt_of_le l12 fr3.size, by rw [fr3.same _ l12]; exact b12, s12.fr fr3, ?_, ?_, Nat.lt_of_lt_of_le l14 fr3.size, by rw [fr3.same _ l14]; exact b14, s14.fr fr3, ?_, ?_, hk2, hk3⟩
    · simp (disch := (first | (simp only [ne_eq,Nat.reduceEqDiff,not_false_eq_true,Nat.reduceLT]; done) | omega | (simp only [yz] <;> omega) | fail)) only [yg,Nat.reduceAdd,Nat.reduceEqDiff,Nat.reduceLT,g10]
    · simp (disch := (first | (simp only [ne_eq,Nat.reduceEqDiff,not_false_eq_true,Nat.reduceLT]; done) | omega | (simp only [yz] <;> omega) | fail)) only [yg,Nat.reduceAdd,Nat.reduceEqDiff,Nat.reduceLT,g11]
    · simp (disch := (first | (simp only [ne_eq,Nat.reduceEqDiff,not_false_eq_true,Nat.reduceLT]; done) | omega | (simp only [yz] <;> omega) | fail)) only [yg,Nat.reduceAdd,Nat.reduceEqDiff,Nat.reduceLT,g12]
    · simp (disch := (first | (simp only [ne_eq,Nat.reduceEqDiff,not_false_eq_true,Nat.reduceLT]; done) | omega | (simp only [yz] <;> omega) | fail)) only [yg,Nat.reduceAdd,Nat.reduceEqDiff,Nat.reduceLT,g13]
    · simp (disch := (first | (simp only [ne_eq,Nat.reduceEqDiff,not_false_eq_true,Nat.reduceLT]; done) | omega | (simp only [yz] <;> omega) | fail)) only [yg,Nat.reduceAdd,Nat.reduceEqDiff,Nat.reduceLT,g14]
    · simp (disch := (first | (simp only [ne_eq,Nat.reduceEqDiff,not_false_eq_true,Nat.reduceLT]; done) | omega | (simp only [yz] <;> omega) | fail)) only [yg,Nat.reduceAdd,Nat.reduceEqDiff,Nat.reduceLT,g15]
    · simp (disch := (first | (simp only [ne_eq,Nat.reduceEqDiff,not_false_eq_true,Nat.reduceLT]; done) | omega | (simp only [yz] <;> omega) | fail)) only [yg,Nat.reduceAdd,Nat.reduceEqDiff,Nat.reduceLT]
    · simp (disch := (first | (simp only [ne_eq,Nat.reduceEqDiff,not_false_eq_true,Nat.reduceLT]; done) | omega | (simp only [yz] <;> omega) | fail)) only [yg,Nat.reduceAdd,Nat.reduceEqDiff,Nat.reduceLT]
  clear sz I g10 g11 g12 g13 l12 b12 s12 g14 g15 l14 b14 s14
  rintro e H' ⟨k16, c16, I, g10, g11, g12, g13, l12, b12, s12, g14, g15, l14, b14, s14, g16, g17, l16, b16⟩
  have sz := I.fr.size
  refine W_seqI (fun e' H'' => ∃ k18 c18, LP 116 H C w ld l i8 i9 a' cap' e' H'' ∧ gt 116 e' 13 = .int .i64 0 ∧ gt 116 e' 14 = .pointer (some ⟨i14, 0, none⟩) ∧ gt 116 e' 15 = .int .i64 0 ∧ i14 < H''.size ∧ H''.get i14 = .rw [.int .i64 C, .slice a4 l.length c4] 24 false [] ∧ Sl H'' a4 l ∧ gt 116 e' 16 = .slice (some ⟨k16, 0, none⟩) C.toNat c16 ∧ gt 116 e' 17 = .int .i64 0 ∧ k16 < H''.size ∧ H''.get k16 = .rw (tv ((latT C l w ld to bm).take C.toNat)) 3 true [] ∧ gt 116 e' 18 = .slice (some ⟨k18, 0, none⟩) C.toNat c18 ∧ k18 < H''.size ∧ H''.get k18 = .rw (tv ((earT C (l.map mir) w ld to (240 - bm)).take C.toNat)) 3 true []) ?_ ?_
  · have g9 := I.g9
    have b9 := I.b9
    have w1 : w64 (240 - bm) = 240 - bm := w64_of (by omega)
    simp (disch := (first | (simp only [ne_eq,Nat.reduceEqDiff,not_false_eq_true,Nat.reduceLT]; done) | omega | (simp only [yz] <;> omega) | fail)) only [↓yp,yq0,yq1,yq2,yq3,yq4,yl,ys0,ys1,Nat.reduceAdd,Nat.reduceMul,Nat.reduceSub,Nat.reduceBEq,Nat.reduceEqDiff,Nat.reduceLT,Nat.reduceLeDiff,reduceIte,Int.reduceAdd,Int.reduceSub,Int.reduceMul,Int.reduceLT,Int.reduceLE,Int.reduceEq,Int.reduceToNat,Int.reduceNeg,zed,zee,zfr,zhw,ysu,yrg,ysv,g9,b9,g10,g11,g12,b12,w1]
    refine c52 s12 (by omega) (azm [to] [240 - bm] (by simp; omega) (by simp; omega)) (by omega) (by omega) ?_
    intro k cap'' H3 fr3 hk1 hk2 hk3
    simp (disch := (first | (simp only [ne_eq,Nat.reduceEqDiff,not_false_eq_true,Nat.reduceLT]; done) | omega | (simp only [yz] <;> omega) | fail)) only [↓yp,yq0,yq1,yq2,yq3,yq4,yl,ys0,ys1,Nat.reduceAdd,Nat.reduceMul,Nat.reduceSub,Nat.reduceBEq,Nat.reduceEqDiff,Nat.reduceLT,Nat.reduceLeDiff,reduceIte,Int.reduceAdd,Int.reduceSub,Int.reduceMul,Int.reduceLT,Int.reduceLE,Int.reduceEq,Int.reduceToNat,Int.reduceNeg,zed,zee,zfr,zhw,ysu,yrg,ysv]
    refine ⟨k, cap'', I.next fr3 (by (with_reducible (repeat (first | refine Keep.put ?_ (by decide) | refine Keep.none ?_ | assumption | exact Keep.refl _ _ _)))), ?_, ?_, ?_, Nat.lt_of_lt_of_le l14 fr3.size, by rw [fr3.same _ l14]; exact b14, s14.fr fr3, ?_, ?_, Nat.lt_of_lt_of_le l16 fr3.size, by rw [fr3.same _ l16]; exact b16, ?_, hk2, hk3⟩
    · simp (disch := (first | (simp only [ne_eq,Nat.reduceEqDiff,not_false_eq_true,Nat.reduceLT]; done) | omega | (simp only [yz] <;> omega) | fail)) only [yg,Nat.reduceAdd,Nat.reduceEqDiff,Nat.reduceLT,g13]
    · simp (disch := (first | (simp only [ne_eq,Nat.reduceEqDiff,not_false_eq_true,Nat.reduceLT]; done) | omega | (simp only [yz] <;> omega) | fail)) only [yg,Nat.reduceAdd,Nat.reduceEqDiff,Nat.reduceLT,g14]
    · simp (disch := (first | (simp only [ne_eq,Nat.reduceEqDiff,not_false_eq_true,Nat.reduceLT]; done) | omega | (simp only [yz] <;> omega) | fail)) only [yg,Nat.reduceAdd,Nat.reduceEqDiff,Nat.reduceLT,g15]
    · simp (disch := (first | (simp only [ne_eq,Nat.reduceEqDiff,not_false_eq_true,Nat.reduceLT]; done) | omega | (simp only [yz] <;> omega) | fail)) only [yg,Nat.reduceAdd,Nat.reduceEqDiff,Nat.reduceLT,g16]
    · simp (disch := (first | (simp only [ne_eq,Nat.reduceEqDiff,not_false_eq_true,Nat.reduceLT]; done) | omega | (simp only [yz] <;> omega) | fail)) only [yg,Nat.reduceAdd,Nat.reduceEqDiff,Nat.reduceLT,g17]
    · simp (disch := (first | (simp only [ne_eq,Nat.reduceEqDiff,not_false_eq_true,Nat.reduceLT]; done) | omega | (simp only [yz] <;> omega) | fail)) only [yg,Nat.reduceAdd,Nat.reduceEqDiff,Nat.reduceLT]
  clear sz I g10 g11 g12 g13 l12 b12 s12 g14 g15 l14 b14 s14 g16 g17 l16 b16
  rintro e H' ⟨k18, c18, I, g13, g14, g15, l14, b14, s14, g16, g17, l16, b16, g18, l18, b18⟩
  have sz := I.fr.size
  have g8 := I.g8
  have b8 := I.b8
  have hcc : decide (((C.toNat : Nat) : Int) = C) = true := by simp; omega
  have h30 := fun (N : Nat) => c30 (N := N) (C := C) (cap := c4) (cap' := cap') s14 I.sl hl18 (fun s hs => (ho s hs).ok (by omega))
  refine W_seqI (fun e' H'' => LP 116 H C w ld l i8 i9 a' cap' e' H'' ∧ gt 116 e' 16 = .slice (some ⟨k16, 0, none⟩) C.toNat c16 ∧ k16 < H''.size ∧ H''.get k16 = .rw (tv ((latT C l w ld to bm).take C.toNat)) 3 true [] ∧ gt 116 e' 18 = .slice (some ⟨k18, 0, none⟩) C.toNat c18 ∧ k18 < H''.size ∧ H''.get k18 = .rw (tv ((earT C (l.map mir) w ld to (240 - bm)).take C.toNat)) 3 true []) ?_ ?_
  · simp (disch := (first | (simp only [ne_eq,Nat.reduceEqDiff,not_false_eq_true,Nat.reduceLT]; done) | omega | (simp only [yz] <;> omega) | fail)) only [↓yp,yq0,yq1,yq2,yq3,yq4,yl,ys0,ys1,Nat.reduceAdd,Nat.reduceMul,Nat.reduceSub,Nat.reduceBEq,Nat.reduceEqDiff,Nat.reduceLT,Nat.reduceLeDiff,reduceIte,Int.reduceAdd,Int.reduceSub,Int.reduceMul,Int.reduceLT,Int.reduceLE,Int.reduceEq,Int.reduceToNat,Int.reduceNeg,zed,zee,zfr,zhw,ysu,yrg,ysv,g13,g14,g15,g16,g17,g18,b14,g8,b8,h30,lenV_slice zir,binV_nil_some zir,hcc]
    refine ⟨I.next (Fr.refl _) (by (with_reducible (repeat (first | refine Keep.put ?_ (by decide) | refine Keep.none ?_ | assumption | exact Keep.refl _ _ _)))), ?_, l16, b16, ?_, l18, b18⟩
    · simp (disch := (first | (simp only [ne_eq,Nat.reduceEqDiff,not_false_eq_true,Nat.reduceLT]; done) | omega | (simp only [yz] <;> omega) | fail)) only [yg,Nat.reduceAdd,Nat.reduceEqDiff,Nat.reduceLT,g16]
    · simp (disch := (first | (simp only [ne_eq,Nat.reduceEqDiff,not_false_eq_true,Nat.reduceLT]; done) | omega | (simp only [yz] <;> omega) | fail)) only [yg,Nat.reduceAdd,Nat.reduceEqDiff,Nat.reduceLT,g18]
  clear sz I g13 g14 g15 l14 b14 s14 g16 g17 l16 b16 g18 l18 b18 g8 b8 h30
  rintro e H' ⟨I, g16, l16, b16, g18, l18, b18⟩
  have sz := I.fr.size
  have t8 := (latT_ok (w := w) g (to := to) (bm := bm) hto2 (by omega)).1
  have gm : Good C (l.map mir) ld := good_of hckm (off_iff.2 (by omega))
  have e8 := earT_len (w := w) gm (fr := to) (a₀ := 240 - bm) hto2 (by omega)
  have eok := earT_ok (w := w) gm (fr := to) (a₀ := 240 - bm) hto2 (by omega)
  simp (disch := (first | (simp only [ne_eq,Nat.reduceEqDiff,not_false_eq_true,Nat.reduceLT]; done) | omega | (simp only [yz] <;> omega) | fail)) only [↓yp,yq0,yq1,yq2,yq3,yq4,yl,ys0,ys1,Nat.reduceAdd,Nat.reduceMul,Nat.reduceSub,Nat.reduceBEq,Nat.reduceEqDiff,Nat.reduceLT,Nat.reduceLeDiff,reduceIte,Int.reduceAdd,Int.reduceSub,Int.reduceMul,Int.reduceLT,Int.reduceLE,Int.reduceEq,Int.reduceToNat,Int.reduceNeg,zed,zee,zfr,zhw,ysu,yrg,ysv,g18,lenV_slice zir]
  refine W_while (n := 116) 100 (fun k e' H'' => ∃ i : Nat, k = C.toNat - i ∧ i ≤ C.toNat ∧ gt 116 e' 88 = .int .i64 (i : Nat) ∧ gt 116 e' 87 = .int .i64 (C.toNat : Nat) ∧ gt 116 e' 86 = .slice (some ⟨k18, 0, none⟩) C.toNat c18 ∧ gt 116 e' 16 = .slice (some ⟨k16, 0, none⟩) C.toNat c16 ∧ H'' = H')
    ?_ 8 C.toNat ⟨0, by omega, by omega, by simp (disch := (first | (simp only [ne_eq,Nat.reduceEqDiff,not_false_eq_true,Nat.reduceLT]; done) | omega | (simp only [yz] <;> omega) | fail)) only [yg,Nat.reduceAdd,Nat.reduceEqDiff,Nat.reduceLT]; rfl, by simp (disch := (first | (simp only [ne_eq,Nat.reduceEqDiff,not_false_eq_true,Nat.reduceLT]; done) | omega | (simp only [yz] <;> omega) | fail)) only [yg,Nat.reduceAdd,Nat.reduceEqDiff,Nat.reduceLT], by simp (disch := (first | (simp only [ne_eq,Nat.reduceEqDiff,not_false_eq_true,Nat.reduceLT]; done) | omega | (simp only [yz] <;> omega) | fail)) only [yg,Nat.reduceAdd,Nat.reduceEqDiff,Nat.reduceLT], by simp (disch := (first | (simp only [ne_eq,Nat.reduceEqDiff,not_false_eq_true,Nat.reduceLT]; done) | omega | (simp only [yz] <;> omega) | fail)) only [yg,Nat.reduceAdd,Nat.reduceEqDiff,Nat.reduceLT,g16], rfl⟩ (by omega) (by omega)
  clear g16 g18
  rintro M1 k1 e2 H2 ⟨i, rfl, hi, g88, g87, g86, g16, rfl⟩
  simp (disch := (first | (simp only [ne_eq,Nat.reduceEqDiff,not_false_eq_true,Nat.reduceLT]; done) | omega | (simp only [yz] <;> omega) | fail)) only [↓yp,yq0,yq1,yq2,yq3,yq4,yl,ys0,ys1,Nat.reduceAdd,Nat.reduceMul,Nat.reduceSub,Nat.reduceBEq,Nat.reduceEqDiff,Nat.reduceLT,Nat.reduceLeDiff,reduceIte,Int.reduceAdd,Int.reduceSub,Int.reduceMul,Int.reduceLT,Int.reduceLE,Int.reduceEq,Int.reduceToNat,Int.reduceNeg,zed,zee,zfr,zhw,ysu,yrg,ysv,g88,g87]
  refine ⟨fun hA => ?_, fun hA => ?_⟩
  rotate_left
  · simp (disch := (first | (simp only [ne_eq,Nat.reduceEqDiff,not_false_eq_true,Nat.reduceLT]; done) | omega | (simp only [yz] <;> omega) | fail)) only [↓yp,yq0,yq1,yq2,yq3,yq4,yl,ys0,ys1,Nat.reduceAdd,Nat.reduceMul,Nat.reduceSub,Nat.reduceBEq,Nat.reduceEqDiff,Nat.reduceLT,Nat.reduceLeDiff,reduceIte,Int.reduceAdd,Int.reduceSub,Int.reduceMul,Int.reduceLT,Int.reduceLE,Int.reduceEq,Int.reduceToNat,Int.reduceNeg,zed,zee,zfr,zhw,ysu,yrg,ysv,awake_m]
  have hi' : (i : Int) < C := by have := of_decide_eq_true hA; omega
  have hL := take_at t8 hC (x := (i : Int)) (by omega)
  have hE := take_at e8 hC (x := (i : Int)) (by omega)
  have hm := lat_mir (w := w) (x := (i : Int)) g hbm2 hto2 (by omega)
  rw [show l.map mirS = l.map mir from rfl] at hm
  have hr := eok.2 i
  unfold okM at hr
  obtain ⟨E, he⟩ : ∃ E, tg (earT C (l.map mir) w ld to (240 - bm)) (i : Int) = E := ⟨_, rfl⟩
  obtain ⟨Lt, hlt⟩ : ∃ E, tg (latT C l w ld to bm) (i : Int) = E := ⟨_, rfl⟩
  rw [he] at hE hm hr
  rw [hlt] at hL hm
  simp only [Int.toNat_natCast] at hL hE
  have hw2 : w64 ((i : Int) + 1) = ((i + 1 : Nat) : Int) := by rw [w64_of (by omega)]; omega
  have hw3 : w64 (240 - E) = 240 - E := w64_of (by omega)
  cases hd : decide (E = -1)
  · have hE1 := of_decide_eq_false hd
    have h1 : decide (Lt = -1) = false := by
      have : ¬ Lt = -1 := fun h => hE1 (hm.1.2 h)
      simpa using this
    have h2 : decide (Lt = 240 - E) = true := by simpa using hm.2 hE1
    simp (disch := (first | (simp only [ne_eq,Nat.reduceEqDiff,not_false_eq_true,Nat.reduceLT]; done) | omega | (simp only [yz] <;> omega) | fail)) only [↓yp,yq0,yq1,yq2,yq3,yq4,yl,ys0,ys1,Nat.reduceAdd,Nat.reduceMul,Nat.reduceSub,Nat.reduceBEq,Nat.reduceEqDiff,Nat.reduceLT,Nat.reduceLeDiff,reduceIte,Int.reduceAdd,Int.reduceSub,Int.reduceMul,Int.reduceLT,Int.reduceLE,Int.reduceEq,Int.reduceToNat,Int.reduceNeg,zed,zee,zfr,zhw,ysu,yrg,ysv,g88,g87,g86,g16,A_indexSlice zir,b16,b18,hL,hE,hd,h1,h2,hw2,hw3,nFF]
    exact ⟨C.toNat - (i + 1), by omega, i + 1, rfl, by omega, by simp (disch := (first | (simp only [ne_eq,Nat.reduceEqDiff,not_false_eq_true,Nat.reduceLT]; done) | omega | (simp only [yz] <;> omega) | fail)) only [yg,Nat.reduceAdd,Nat.reduceEqDiff,Nat.reduceLT], by simp (disch := (first | (simp only [ne_eq,Nat.reduceEqDiff,not_false_eq_true,Nat.reduceLT]; done) | omega | (simp only [yz] <;> omega) | fail)) only [yg,Nat.reduceAdd,Nat.reduceEqDiff,Nat.reduceLT,g87], by simp (disch := (first | (simp only [ne_eq,Nat.reduceEqDiff,not_false_eq_true,Nat.reduceLT]; done) | omega | (simp only [yz] <;> omega) | fail)) only [yg,Nat.reduceAdd,Nat.reduceEqDiff,Nat.reduceLT,g86], by simp (disch := (first | (simp only [ne_eq,Nat.reduceEqDiff,not_false_eq_true,Nat.reduceLT]; done) | omega | (simp only [yz] <;> omega) | fail)) only [yg,Nat.reduceAdd,Nat.reduceEqDiff,Nat.reduceLT,g16], rfl⟩
  · have hE1 := of_decide_eq_true hd
    have h1 : decide (Lt = -1) = true := by simpa using hm.1.1 hE1
    simp (disch := (first | (simp only [ne_eq,Nat.reduceEqDiff,not_false_eq_true,Nat.reduceLT]; done) | omega | (simp only [yz] <;> omega) | fail)) only [↓yp,yq0,yq1,yq2,yq3,yq4,yl,ys0,ys1,Nat.reduceAdd,Nat.reduceMul,Nat.reduceSub,Nat.reduceBEq,Nat.reduceEqDiff,Nat.reduceLT,Nat.reduceLeDiff,reduceIte,Int.reduceAdd,Int.reduceSub,Int.reduceMul,Int.reduceLT,Int.reduceLE,Int.reduceEq,Int.reduceToNat,Int.reduceNeg,zed,zee,zfr,zhw,ysu,yrg,ysv,g88,g87,g86,g16,A_indexSlice zir,b16,b18,hL,hE,hd,h1,hw2,hw3,nTT]
    exact ⟨C.toNat - (i + 1), by omega, i + 1, rfl, by omega, by simp (disch := (first | (simp only [ne_eq,Nat.reduceEqDiff,not_false_eq_true,Nat.reduceLT]; done) | omega | (simp only [yz] <;> omega) | fail)) only [yg,Nat.reduceAdd,Nat.reduceEqDiff,Nat.reduceLT], by simp (disch := (first | (simp only [ne_eq,Nat.reduceEqDiff,not_false_eq_true,Nat.reduceLT]; done) | omega | (simp only [yz] <;> omega) | fail)) only [yg,Nat.reduceAdd,Nat.reduceEqDiff,Nat.reduceLT,g87], by simp (disch := (first | (simp only [ne_eq,Nat.reduceEqDiff,not_false_eq_true,Nat.reduceLT]; done) | omega | (simp only [yz] <;> omega) | fail)) only [yg,Nat.reduceAdd,Nat.reduceEqDiff,Nat.reduceLT,g86], by simp (disch := (first | (simp only [ne_eq,Nat.reduceEqDiff,not_false_eq_true,Nat.reduceLT]; done) | omega | (simp only [yz] <;> omega) | fail)) only [yg,Nat.reduceAdd,Nat.reduceEqDiff,Nat.reduceLT,g16], rfl⟩
end
end Go.Am
