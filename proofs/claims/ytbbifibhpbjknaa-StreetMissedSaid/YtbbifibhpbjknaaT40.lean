/- slices.Delete of a street. -/
import Derived.Test.YtbbifibhpbjknaaT39
set_option linter.unusedSimpArgs false
set_option linter.unusedVariables false
namespace Go.Am
open Go.Proofs
variable {T : Tab} {P : Program} {N L : Nat} {H : AHeap} {Q : Bool → Value → AHeap → Prop}
theorem flat_takeN : ∀ (l : List Str) (i : Nat), (flat l).take (i * 9) = flat (l.take i)
  | [], i => by simp [flat]
  | s :: l, 0 => by simp [flat]
  | s :: l, i + 1 => by
    rw [List.take_succ_cons, flat, flat, ← flat_takeN l i, show (i + 1) * 9 = s.enc.length + i * 9 by rw [enc_len]; omega, List.take_length_add_append]
theorem flat_dropN : ∀ (l : List Str) (i : Nat), (flat l).drop (i * 9) = flat (l.drop i)
  | [], i => by simp [flat]
  | s :: l, 0 => by simp
  | s :: l, i + 1 => by
    rw [List.drop_succ_cons, ← flat_dropN l i, flat, show (i + 1) * 9 = s.enc.length + i * 9 by rw [enc_len]; omega, List.drop_length_add_append]
theorem known_rw {b n m : Nat} {c : List Value} {ty : TypeId} {op : Bool} {al : List Nat} (hg : H.get b = .rw c ty op al) (hc : c.length = m * 9) (hn : n ≤ m) : known H ⟨b, 0, none⟩ n 9 (OPEN + 9) = m := by
  unfold known
  have e : (c.length - 0) / 9 = m := by omega
  simp only [show Nat.beq (OPEN + 9) (OPEN + 9) = true by simp,cond_true,hg,e]
  cases h : Nat.blt n m with
  | true => rfl
  | false =>
    have : ¬ n < m := fun h' => by rw [blt_true h'] at h; cases h
    rw [cond_false]; omega
theorem erase_row {l : List Str} {i : Nat} (hi : i < l.length) : flat (l.take i) ++ flat (l.drop (i + 1)) = flat (l.eraseIdx i) := by
  rw [List.eraseIdx_eq_take_drop_succ, flat_append]
theorem fn_61 : tabA.fn 61 = some Try.f61 := by kernel_rfl
theorem zc22_len : (Builtin.zeroCells zc22 1).toList.length = 9 := by kernel_rfl
theorem zc22_one : oneCells (Builtin.zeroCells zc22 1).toList = true := by kernel_rfl
theorem zc22_gr : allGrV (Builtin.zeroCells zc22 1).toList = true := by kernel_rfl
set_option maxHeartbeats 4000000 in
theorem c61 {b i : Nat} {l : List Str} (hg : H.get b = .rw (flat l) 45 true []) (hb : b < H.size) (hL : L ≤ b) (hi : i < l.length) (hl : l.length ≤ 18) {M : Nat} (hM : 100 ≤ M)
    (hq : ∀ c H', c.length = l.length * 9 → c.take ((l.length - 1) * 9) = flat (l.eraseIdx i) → FrX b H H' → H'.size = H.size → H'.get b = .rw c 45 true [] → Q false (.slice (some ⟨b, 0, none⟩) (l.length - 1) (OPEN + 9)) H') :
    resK (acall tabA (aexec tabA Try.prog M) 61 [.slice (some ⟨b, 0, none⟩) l.length (OPEN + 9), .int .i64 i, .int .i64 (i + 1 : Nat)] H) L Q := by
  obtain ⟨N, rfl⟩ : ∃ N, M = N + 100 := ⟨M - 100, by omega⟩
  refine call_keep tabA_fr (R := fun v H' => v = .slice (some ⟨b, 0, none⟩) (l.length - 1) (OPEN + 9) ∧ ∃ c, c.length = l.length * 9 ∧ c.take ((l.length - 1) * 9) = flat (l.eraseIdx i) ∧ FrX b H H' ∧ H'.size = H.size ∧ H'.get b = .rw c 45 true []) (k := 33) (rs := [.tmp 6]) rfl fn_61 rfl rfl rfl (by omega) ?_ (by rintro v H' ⟨rfl, c, h1, h2, h3, h4, h5⟩; exact hq c H' h1 h2 h3 h4 h5) (by rintro v H' ⟨rfl, -⟩ hg; simp [gr, ground] at hg)
  have hfl := flat_length l
  have hkn := known_rw (n := l.length) hg hfl (Nat.le_refl _)
  simp (disch := (first | (simp only [ne_eq,Nat.reduceEqDiff,not_false_eq_true,Nat.reduceLT]; done) | omega | (simp only [yz] <;> omega) | fail)) only [↓yp,yq0,yq1,yq2,yq3,yq4,yl,ys0,ys1,Nat.reduceAdd,Nat.reduceMul,Nat.reduceSub,Nat.reduceBEq,Nat.reduceEqDiff,Nat.reduceLT,Nat.reduceLeDiff,reduceIte,Int.reduceAdd,Int.reduceSub,Int.reduceMul,Int.reduceLT,Int.reduceLE,Int.reduceEq,Int.reduceToNat,Int.reduceNeg,zed,zee,zfr,zhw,ysu,yrg,ysv,ysw,lenV_slice zio]
  have hn0 : l.length ≠ 0 := by omega
  have hcc : decide ((i : Int) = ((i + 1 : Nat) : Int)) = false := by simp; omega
  refine A_slice3 (i := i) (j := i + 1) (m := l.length) zio (by simp (disch := (first | (simp only [ne_eq,Nat.reduceEqDiff,not_false_eq_true,Nat.reduceLT]; done) | omega | (simp only [yz] <;> omega) | fail)) only [↓yp,yq0,yq1,yq2,yq3,yq4,yl,ys0,ys1,Nat.reduceAdd,Nat.reduceMul,Nat.reduceSub,Nat.reduceBEq,Nat.reduceEqDiff,Nat.reduceLT,Nat.reduceLeDiff,reduceIte,Int.reduceAdd,Int.reduceSub,Int.reduceMul,Int.reduceLT,Int.reduceLE,Int.reduceEq,Int.reduceToNat,Int.reduceNeg,zed,zee,zfr,zhw,ysu,yrg,ysv,ysw]) (by simp (disch := (first | (simp only [ne_eq,Nat.reduceEqDiff,not_false_eq_true,Nat.reduceLT]; done) | omega | (simp only [yz] <;> omega) | fail)) only [↓yp,yq0,yq1,yq2,yq3,yq4,yl,ys0,ys1,Nat.reduceAdd,Nat.reduceMul,Nat.reduceSub,Nat.reduceBEq,Nat.reduceEqDiff,Nat.reduceLT,Nat.reduceLeDiff,reduceIte,Int.reduceAdd,Int.reduceSub,Int.reduceMul,Int.reduceLT,Int.reduceLE,Int.reduceEq,Int.reduceToNat,Int.reduceNeg,zed,zee,zfr,zhw,ysu,yrg,ysv,ysw]) (by simp (disch := (first | (simp only [ne_eq,Nat.reduceEqDiff,not_false_eq_true,Nat.reduceLT]; done) | omega | (simp only [yz] <;> omega) | fail)) only [↓yp,yq0,yq1,yq2,yq3,yq4,yl,ys0,ys1,Nat.reduceAdd,Nat.reduceMul,Nat.reduceSub,Nat.reduceBEq,Nat.reduceEqDiff,Nat.reduceLT,Nat.reduceLeDiff,reduceIte,Int.reduceAdd,Int.reduceSub,Int.reduceMul,Int.reduceLT,Int.reduceLE,Int.reduceEq,Int.reduceToNat,Int.reduceNeg,zed,zee,zfr,zhw,ysu,yrg,ysv,ysw]) (by simp (disch := (first | (simp only [ne_eq,Nat.reduceEqDiff,not_false_eq_true,Nat.reduceLT]; done) | omega | (simp only [yz] <;> omega) | fail)) only [↓yp,yq0,yq1,yq2,yq3,yq4,yl,ys0,ys1,Nat.reduceAdd,Nat.reduceMul,Nat.reduceSub,Nat.reduceBEq,Nat.reduceEqDiff,Nat.reduceLT,Nat.reduceLeDiff,reduceIte,Int.reduceAdd,Int.reduceSub,Int.reduceMul,Int.reduceLT,Int.reduceLE,Int.reduceEq,Int.reduceToNat,Int.reduceNeg,zed,zee,zfr,zhw,ysu,yrg,ysv,ysw]) hkn (by omega) (by omega) (by omega) (by unfold OPEN; omega) (by omega) ?_
  intro o'
  simp (disch := (first | (simp only [ne_eq,Nat.reduceEqDiff,not_false_eq_true,Nat.reduceLT]; done) | omega | (simp only [yz] <;> omega) | fail)) only [↓yp,yq0,yq1,yq2,yq3,yq4,yl,ys0,ys1,Nat.reduceAdd,Nat.reduceMul,Nat.reduceSub,Nat.reduceBEq,Nat.reduceEqDiff,Nat.reduceLT,Nat.reduceLeDiff,reduceIte,Int.reduceAdd,Int.reduceSub,Int.reduceMul,Int.reduceLT,Int.reduceLE,Int.reduceEq,Int.reduceToNat,Int.reduceNeg,zed,zee,zfr,zhw,ysu,yrg,ysv,ysw,lenV_slice zio,hcc]
  have hend : ∀ c : List Value, c.length = l.length * 9 → (c.take ((l.length - 1) * 9) = flat (l.eraseIdx i)) → List.take ((l.length - 1) * 9) (List.take ((l.length - 1) * 9) c ++ (Builtin.zeroCells zc22 1).toList ++ List.drop ((l.length - 1) * 9 + (Builtin.zeroCells zc22 1).toList.length) c) = flat (l.eraseIdx i) := fun c h1 h2 => by
    rw [List.append_assoc, List.take_append_of_le_length (by rw [List.length_take]; omega), List.take_take, Nat.min_self]
    exact h2
  have hlen : ∀ c : List Value, c.length = l.length * 9 → (List.take ((l.length - 1) * 9) c ++ (Builtin.zeroCells zc22 1).toList ++ List.drop ((l.length - 1) * 9 + (Builtin.zeroCells zc22 1).toList.length) c).length = l.length * 9 := fun c h1 => by
    rw [List.length_append, List.length_append, List.length_take, List.length_drop, zc22_len]
    omega
  refine W_draw [6] rfl (by kernel_rfl) (by kernel_rfl) (by (first | omega | (simp only [yz] <;> omega))) ?_
  have hz1 := zc22_len
  by_cases hlast : i + 1 = l.length
  · have hF := fun (L : Nat) (Q : Bool → Value → AHeap → Prop) => slFK_open (T := tabA) (ty := 22) (L := L) (Q := Q) (j := i) zio hkn (by omega)
    have hR := fun (L : Nat) (Q : Bool → Value → AHeap → Prop) => slRK_tail (T := tabA) (ty := 22) (L := L) (Q := Q) (i := i + 1) zio hkn hlast (by unfold OPEN; omega) (by unfold OPEN; omega) (by unfold OPEN; omega) (by omega)
    have hA := fun (L : Nat) (Q : Bool → Value → AHeap → Prop) (r : Option Nat) => apK_tail (T := tabA) (H := H) (L := L) (Q := Q) (base := some ⟨b, 0, none⟩) (sl := i) (sc := OPEN + 9) (r := r) st_apS_22 (by unfold OPEN; omega)
    simp (disch := (first | (simp only [ne_eq,Nat.reduceEqDiff,not_false_eq_true,Nat.reduceLT]; done) | omega | (simp only [yz] <;> omega) | fail)) only [↓yp,yq0,yq1,yq2,yq3,yq4,yl,ys0,ys1,Nat.reduceAdd,Nat.reduceMul,Nat.reduceSub,Nat.reduceBEq,Nat.reduceEqDiff,Nat.reduceLT,Nat.reduceLeDiff,reduceIte,Int.reduceAdd,Int.reduceSub,Int.reduceMul,Int.reduceLT,Int.reduceLE,Int.reduceEq,Int.reduceToNat,Int.reduceNeg,zed,zee,zfr,zhw,ysu,yrg,ysv,ysw,tm_slF,tm_slR,A_slF,A_slR,hF,hR,hA,sv_chan,lenV_slice zio]
    refine A_sliceM (i := i) (j := l.length) (n := i) (o := 0) (b := b) zio (by simp (disch := (first | (simp only [ne_eq,Nat.reduceEqDiff,not_false_eq_true,Nat.reduceLT]; done) | omega | (simp only [yz] <;> omega) | fail)) only [↓yp,yq0,yq1,yq2,yq3,yq4,yl,ys0,ys1,Nat.reduceAdd,Nat.reduceMul,Nat.reduceSub,Nat.reduceBEq,Nat.reduceEqDiff,Nat.reduceLT,Nat.reduceLeDiff,reduceIte,Int.reduceAdd,Int.reduceSub,Int.reduceMul,Int.reduceLT,Int.reduceLE,Int.reduceEq,Int.reduceToNat,Int.reduceNeg,zed,zee,zfr,zhw,ysu,yrg,ysv,ysw]) (by simp (disch := (first | (simp only [ne_eq,Nat.reduceEqDiff,not_false_eq_true,Nat.reduceLT]; done) | omega | (simp only [yz] <;> omega) | fail)) only [↓yp,yq0,yq1,yq2,yq3,yq4,yl,ys0,ys1,Nat.reduceAdd,Nat.reduceMul,Nat.reduceSub,Nat.reduceBEq,Nat.reduceEqDiff,Nat.reduceLT,Nat.reduceLeDiff,reduceIte,Int.reduceAdd,Int.reduceSub,Int.reduceMul,Int.reduceLT,Int.reduceLE,Int.reduceEq,Int.reduceToNat,Int.reduceNeg,zed,zee,zfr,zhw,ysu,yrg,ysv,ysw]) (by simp (disch := (first | (simp only [ne_eq,Nat.reduceEqDiff,not_false_eq_true,Nat.reduceLT]; done) | omega | (simp only [yz] <;> omega) | fail)) only [↓yp,yq0,yq1,yq2,yq3,yq4,yl,ys0,ys1,Nat.reduceAdd,Nat.reduceMul,Nat.reduceSub,Nat.reduceBEq,Nat.reduceEqDiff,Nat.reduceLT,Nat.reduceLeDiff,reduceIte,Int.reduceAdd,Int.reduceSub,Int.reduceMul,Int.reduceLT,Int.reduceLE,Int.reduceEq,Int.reduceToNat,Int.reduceNeg,zed,zee,zfr,zhw,ysu,yrg,ysv,ysw]) (known_rw hg hfl (by omega)) (by omega) (by omega) (by omega) (by omega) ?_
    have e1 : l.length - i = 1 := by omega
    have e2 : i * 9 = (l.length - 1) * 9 := by omega
    have hw : aWrite H b ((l.length - 1) * 9) (Builtin.zeroCells zc22 1).toList = some (H.put b (.rw (List.take ((l.length - 1) * 9) (flat l) ++ (Builtin.zeroCells zc22 1).toList ++ List.drop ((l.length - 1) * 9 + (Builtin.zeroCells zc22 1).toList.length) (flat l)) 45 true []), b) := by
      unfold aWrite
      have e6 : Nat.ble ((l.length - 1) * 9 + (Builtin.zeroCells zc22 1).toList.length) (flat l).length = true := Nat.ble_eq_true_of_le (by omega)
      simp only [hg,e6,zc22_one,Bool.and_self,cond_true]
      rfl
    simp (disch := (first | (simp only [ne_eq,Nat.reduceEqDiff,not_false_eq_true,Nat.reduceLT]; done) | omega | (simp only [yz] <;> omega) | fail)) only [↓yp,yq0,yq1,yq2,yq3,yq4,yl,ys0,ys1,Nat.reduceAdd,Nat.reduceMul,Nat.reduceSub,Nat.reduceBEq,Nat.reduceEqDiff,Nat.reduceLT,Nat.reduceLeDiff,reduceIte,Int.reduceAdd,Int.reduceSub,Int.reduceMul,Int.reduceLT,Int.reduceLE,Int.reduceEq,Int.reduceToNat,Int.reduceNeg,zed,zee,zfr,zhw,ysu,yrg,ysv,ysw,A_clear st_clS_22]
    unfold clK
    simp only [e1,e2,zc22_gr,hw,show Nat.beq 1 0 = false by rfl,cond_false,cond_true]
    refine ⟨hL, ?_⟩
    simp (disch := (first | (simp only [ne_eq,Nat.reduceEqDiff,not_false_eq_true,Nat.reduceLT]; done) | omega | (simp only [yz] <;> omega) | fail)) only [↓yp,yq0,yq1,yq2,yq3,yq4,yl,ys0,ys1,Nat.reduceAdd,Nat.reduceMul,Nat.reduceSub,Nat.reduceBEq,Nat.reduceEqDiff,Nat.reduceLT,Nat.reduceLeDiff,reduceIte,Int.reduceAdd,Int.reduceSub,Int.reduceMul,Int.reduceLT,Int.reduceLE,Int.reduceEq,Int.reduceToNat,Int.reduceNeg,zed,zee,zfr,zhw,ysu,yrg,ysv,ysw]
    refine ⟨by rw [show l.length - 1 = i by omega], _, hlen _ hfl, hend _ hfl (by rw [flat_takeN, ← erase_row hi, show l.length - 1 = i by omega, List.drop_of_length_le (by omega)]; simp [flat]), (FrX.refl _ _).put _, ?_⟩
    first | rfl | exact ⟨rfl, zdc hb⟩ | exact ⟨rfl, rfl⟩
  · have hfl' := hfl
    have hsrc : srcCells H ⟨b, (i + 1) * 9, none⟩ ((l.length - (i + 1)) * 9) = some (flat (l.drop (i + 1))) := by
      unfold srcCells
      simp only [hg,zdh]
      rw [flat_dropN, List.take_of_length_le (by rw [flat_length, List.length_drop]; omega), flat_length, List.length_drop]
      simp
    have hfd : (flat (l.drop (i + 1))).length = (l.length - (i + 1)) * 9 := by rw [flat_length, List.length_drop]
    obtain ⟨c1, hc1⟩ : ∃ c1, zee (i * 9) (flat (l.drop (i + 1))) (flat l) = c1 := ⟨_, rfl⟩
    have hc1l : c1.length = l.length * 9 := by
      rw [← hc1]
      unfold zee
      rw [List.length_append, List.length_append, List.length_take, List.length_drop]
      omega
    have hc1t : c1.take ((l.length - 1) * 9) = flat (l.eraseIdx i) := by
      rw [← hc1]
      unfold zee
      rw [flat_takeN, List.take_append_of_le_length (by rw [List.length_append, flat_length, List.length_take]; omega), List.take_of_length_le (by rw [List.length_append, flat_length, List.length_take]; omega), erase_row hi]
    have hF := fun (H' : AHeap) (hk : known H' ⟨b, 0, none⟩ l.length 9 (OPEN + 9) = l.length) (L : Nat) (Q : Bool → Value → AHeap → Prop) => slFK_open (T := tabA) (ty := 22) (H := H') (L := L) (Q := Q) (j := i) zio hk (by omega)
    have hR := fun (H' : AHeap) (hk : known H' ⟨b, 0, none⟩ l.length 9 (OPEN + 9) = l.length) (L : Nat) (Q : Bool → Value → AHeap → Prop) => slRK_open (T := tabA) (ty := 22) (H := H') (L := L) (Q := Q) (i := i + 1) zio hk (by omega) (by omega)
    have hF1 := hF H hkn
    have hR1 := hR H hkn
    obtain ⟨H1, hH1⟩ : ∃ H1, H.put b (.rw c1 45 true []) = H1 := ⟨_, rfl⟩
    have hg1 : H1.get b = .rw c1 45 true [] := by rw [← hH1]; exact zdc hb
    have hkn1 := known_rw (n := l.length) hg1 hc1l (Nat.le_refl _)
    have hs1 : H1.size = H.size := by rw [← hH1]; exact zdf
    have hF2 := hF H1 hkn1
    have hR2 := hR H1 hkn1
    have hA := fun (L : Nat) (Q : Bool → Value → AHeap → Prop) => apK_in (T := tabA) (H := H) (L := L) (Q := Q) (k := b) (l := i) (n := l.length - (i + 1)) (cap := OPEN + 9) st_apS_22 hsrc (by omega) (by omega) (by omega) (one_flat _) hg (by rw [known_rw hg hfl (by omega)]; omega) (by rw [hfd, hfl]; omega)
    rw [hc1, hH1] at hA
    simp (disch := (first | (simp only [ne_eq,Nat.reduceEqDiff,not_false_eq_true,Nat.reduceLT]; done) | omega | (simp only [yz] <;> omega) | fail)) only [↓yp,yq0,yq1,yq2,yq3,yq4,yl,ys0,ys1,Nat.reduceAdd,Nat.reduceMul,Nat.reduceSub,Nat.reduceBEq,Nat.reduceEqDiff,Nat.reduceLT,Nat.reduceLeDiff,reduceIte,Int.reduceAdd,Int.reduceSub,Int.reduceMul,Int.reduceLT,Int.reduceLE,Int.reduceEq,Int.reduceToNat,Int.reduceNeg,zed,zee,zfr,zhw,ysu,yrg,ysv,ysw,tm_slF,tm_slR,A_slF,A_slR,hF1,hR1,hF2,hR2,hA,sv_chan,lenV_slice zio]
    have en : i + (l.length - (i + 1)) = l.length - 1 := by omega
    refine A_sliceM (i := i + (l.length - (i + 1))) (j := l.length) (n := i + (l.length - (i + 1))) (o := 0) (b := b) zio (by simp (disch := (first | (simp only [ne_eq,Nat.reduceEqDiff,not_false_eq_true,Nat.reduceLT]; done) | omega | (simp only [yz] <;> omega) | fail)) only [↓yp,yq0,yq1,yq2,yq3,yq4,yl,ys0,ys1,Nat.reduceAdd,Nat.reduceMul,Nat.reduceSub,Nat.reduceBEq,Nat.reduceEqDiff,Nat.reduceLT,Nat.reduceLeDiff,reduceIte,Int.reduceAdd,Int.reduceSub,Int.reduceMul,Int.reduceLT,Int.reduceLE,Int.reduceEq,Int.reduceToNat,Int.reduceNeg,zed,zee,zfr,zhw,ysu,yrg,ysv,ysw]) (by simp (disch := (first | (simp only [ne_eq,Nat.reduceEqDiff,not_false_eq_true,Nat.reduceLT]; done) | omega | (simp only [yz] <;> omega) | fail)) only [↓yp,yq0,yq1,yq2,yq3,yq4,yl,ys0,ys1,Nat.reduceAdd,Nat.reduceMul,Nat.reduceSub,Nat.reduceBEq,Nat.reduceEqDiff,Nat.reduceLT,Nat.reduceLeDiff,reduceIte,Int.reduceAdd,Int.reduceSub,Int.reduceMul,Int.reduceLT,Int.reduceLE,Int.reduceEq,Int.reduceToNat,Int.reduceNeg,zed,zee,zfr,zhw,ysu,yrg,ysv,ysw]) (by simp (disch := (first | (simp only [ne_eq,Nat.reduceEqDiff,not_false_eq_true,Nat.reduceLT]; done) | omega | (simp only [yz] <;> omega) | fail)) only [↓yp,yq0,yq1,yq2,yq3,yq4,yl,ys0,ys1,Nat.reduceAdd,Nat.reduceMul,Nat.reduceSub,Nat.reduceBEq,Nat.reduceEqDiff,Nat.reduceLT,Nat.reduceLeDiff,reduceIte,Int.reduceAdd,Int.reduceSub,Int.reduceMul,Int.reduceLT,Int.reduceLE,Int.reduceEq,Int.reduceToNat,Int.reduceNeg,zed,zee,zfr,zhw,ysu,yrg,ysv,ysw]) (known_rw hg1 hc1l (by omega)) (by omega) (by omega) (by omega) (by omega) ?_
    have e1 : l.length - (l.length - 1) = 1 := by omega
    have hb1 : b < H1.size := by omega
    have hw : aWrite H1 b ((l.length - 1) * 9) (Builtin.zeroCells zc22 1).toList = some (H1.put b (.rw (List.take ((l.length - 1) * 9) c1 ++ (Builtin.zeroCells zc22 1).toList ++ List.drop ((l.length - 1) * 9 + (Builtin.zeroCells zc22 1).toList.length) c1) 45 true []), b) := by
      unfold aWrite
      have e6 : Nat.ble ((l.length - 1) * 9 + (Builtin.zeroCells zc22 1).toList.length) c1.length = true := Nat.ble_eq_true_of_le (by omega)
      simp only [hg1,e6,zc22_one,Bool.and_self,cond_true]
      rfl
    simp (disch := (first | (simp only [ne_eq,Nat.reduceEqDiff,not_false_eq_true,Nat.reduceLT]; done) | omega | (simp only [yz] <;> omega) | fail)) only [↓yp,yq0,yq1,yq2,yq3,yq4,yl,ys0,ys1,Nat.reduceAdd,Nat.reduceMul,Nat.reduceSub,Nat.reduceBEq,Nat.reduceEqDiff,Nat.reduceLT,Nat.reduceLeDiff,reduceIte,Int.reduceAdd,Int.reduceSub,Int.reduceMul,Int.reduceLT,Int.reduceLE,Int.reduceEq,Int.reduceToNat,Int.reduceNeg,zed,zee,zfr,zhw,ysu,yrg,ysv,ysw,A_clear st_clS_22,en]
    unfold clK
    simp only [e1,zc22_gr,hw,show Nat.beq 1 0 = false by rfl,cond_false,cond_true]
    refine ⟨hL, ?_⟩
    simp (disch := (first | (simp only [ne_eq,Nat.reduceEqDiff,not_false_eq_true,Nat.reduceLT]; done) | omega | (simp only [yz] <;> omega) | fail)) only [↓yp,yq0,yq1,yq2,yq3,yq4,yl,ys0,ys1,Nat.reduceAdd,Nat.reduceMul,Nat.reduceSub,Nat.reduceBEq,Nat.reduceEqDiff,Nat.reduceLT,Nat.reduceLeDiff,reduceIte,Int.reduceAdd,Int.reduceSub,Int.reduceMul,Int.reduceLT,Int.reduceLE,Int.reduceEq,Int.reduceToNat,Int.reduceNeg,zed,zee,zfr,zhw,ysu,yrg,ysv,ysw]
    refine ⟨by rw [en], _, hlen _ hc1l, hend _ hc1l hc1t, (by rw [← hH1]; exact ((FrX.refl _ _).put _).put _), ?_⟩
    first | exact hs1 | exact ⟨hs1, zdc hb1⟩ | exact ⟨hs1, rfl⟩
end Go.Am
/- Copies of streets, with what room they are known to have. -/
namespace Go.Am
open Go.Proofs
variable {T : Tab} {P : Program} {N L : Nat} {H : AHeap} {Q : Bool → Value → AHeap → Prop}
theorem c74g {a : Option Addr} {cap : Nat} {l : List Str} (hs : Sl H a l) (hl : l.length ≤ 18) (hne : l ≠ []) (hL : L ≤ H.size) {M : Nat} (hM : 60 ≤ M)
    (hq : ∀ k H', Fr H H' → H.size ≤ k → k < H'.size → H'.get k = .rw (flat l) 45 true [] → Q false (.slice (some ⟨k, 0, none⟩) l.length (OPEN + 9)) H') : resK (acall tabA (aexec tabA Try.prog M) 74 [.slice a l.length cap] H) L Q := by
  obtain ⟨N, rfl⟩ : ∃ N, M = N + 60 := ⟨M - 60, by omega⟩
  refine call_fls (R := fun v H' => ∃ k, v = .slice (some ⟨k, 0, none⟩) l.length (OPEN + 9) ∧ Fr H H' ∧ H.size ≤ k ∧ k < H'.size ∧ H'.get k = .rw (flat l) 45 true []) (k := 9) (rs := [.tmp 2]) rfl fn_74 rfl rfl rfl hL ?_ ?_ ?_
  · simp (disch := (first | (simp only [ne_eq,Nat.reduceEqDiff,not_false_eq_true,Nat.reduceLT]; done) | omega | (simp only [yz] <;> omega) | fail)) only [↓yp,yq0,yq1,yq2,yq3,yq4,yl,ys0,ys1,Nat.reduceAdd,Nat.reduceMul,Nat.reduceSub,Nat.reduceBEq,Nat.reduceEqDiff,Nat.reduceLT,Nat.reduceLeDiff,reduceIte,Int.reduceAdd,Int.reduceSub,Int.reduceMul,Int.reduceLT,Int.reduceLE,Int.reduceEq,Int.reduceToNat,Int.reduceNeg,zed,zee,zfr,zhw,ysu,yrg,ysv,ysw,lenV_slice zio]
    have hpos : 0 < l.length := List.length_pos_iff.2 hne
    have h0 : decide ((l.length : Int) = 0) = false := by simp; exact hne
    obtain ⟨b, o, c, rfl, hb, hc, _⟩ := hs.get hne
    simp (disch := (first | (simp only [ne_eq,Nat.reduceEqDiff,not_false_eq_true,Nat.reduceLT]; done) | omega | (simp only [yz] <;> omega) | fail)) only [↓yp,yq0,yq1,yq2,yq3,yq4,yl,ys0,ys1,Nat.reduceAdd,Nat.reduceMul,Nat.reduceSub,Nat.reduceBEq,Nat.reduceEqDiff,Nat.reduceLT,Nat.reduceLeDiff,reduceIte,Int.reduceAdd,Int.reduceSub,Int.reduceMul,Int.reduceLT,Int.reduceLE,Int.reduceEq,Int.reduceToNat,Int.reduceNeg,zed,zee,zfr,zhw,ysu,yrg,ysv,ysw,A_buildSlice st_brS_22_0,h0]
    rw [apK_empty (H := _) (n := l.length) st_apS_22 ((hs.fr (Fr.alloc _ _)).src hne) (by omega) (by omega) (by omega) (one_flat l) (c₀ := []) (by simp (disch := (first | (simp only [ne_eq,Nat.reduceEqDiff,not_false_eq_true,Nat.reduceLT]; done) | omega | (simp only [yz] <;> omega) | fail)) only [yg,Nat.reduceAdd,Nat.reduceEqDiff,Nat.reduceLT])]
    simp (disch := (first | (simp only [ne_eq,Nat.reduceEqDiff,not_false_eq_true,Nat.reduceLT]; done) | omega | (simp only [yz] <;> omega) | fail)) only [↓yp,yq0,yq1,yq2,yq3,yq4,yl,ys0,ys1,Nat.reduceAdd,Nat.reduceMul,Nat.reduceSub,Nat.reduceBEq,Nat.reduceEqDiff,Nat.reduceLT,Nat.reduceLeDiff,reduceIte,Int.reduceAdd,Int.reduceSub,Int.reduceMul,Int.reduceLT,Int.reduceLE,Int.reduceEq,Int.reduceToNat,Int.reduceNeg,zed,zee,zfr,zhw,ysu,yrg,ysv,ysw]
    exact ⟨_, rfl, by (repeat (first | exact Fr.refl _ | assumption | refine Fr.allocd ?_ _ | refine Fr.kill ?_ (by first | assumption | omega) | refine Fr.put ?_ (by first | omega | (simp only [yz] <;> omega)) _)), by (first | omega | (simp only [yz] <;> omega)), by (first | omega | (simp only [yz] <;> omega)), by simp (disch := (first | (simp only [ne_eq,Nat.reduceEqDiff,not_false_eq_true,Nat.reduceLT]; done) | omega | (simp only [yz] <;> omega) | fail)) only [yg,Nat.reduceAdd,Nat.reduceEqDiff,Nat.reduceLT]⟩
  · rintro v H' ⟨k, rfl, -⟩; rfl
  · rintro v H' ⟨k, rfl, h1, h2, h3, h4⟩
    exact hq _ _ h1 h2 h3 h4
theorem c19g {a : Option Addr} {cap : Nat} {l : List Str} {C : Int} (hs : Sl H a l) (hl : l.length ≤ 18) (hne : l ≠ []) (hL : L ≤ H.size) {M : Nat} (hM : 120 ≤ M)
    (hq : ∀ k H', Fr H H' → H.size ≤ k → k < H'.size → H'.get k = .rw (flat l) 45 true [] → Q false (.agg ⟨[.int .i64 C, .slice (some ⟨k, 0, none⟩) l.length (OPEN + 9)]⟩) H') : resK (acall tabA (aexec tabA Try.prog M) 19 [.agg ⟨[.int .i64 C, .slice a l.length cap]⟩] H) L Q := by
  obtain ⟨N, rfl⟩ : ∃ N, M = N + 120 := ⟨M - 120, by omega⟩
  refine call_fls (R := fun v H' => ∃ k, v = .agg ⟨[.int .i64 C, .slice (some ⟨k, 0, none⟩) l.length (OPEN + 9)]⟩ ∧ Fr H H' ∧ H.size ≤ k ∧ k < H'.size ∧ H'.get k = .rw (flat l) 45 true []) (k := 9) (rs := [.cell 2 24]) rfl fn_19 rfl rfl rfl hL ?_ ?_ ?_
  · simp (disch := (first | (simp only [ne_eq,Nat.reduceEqDiff,not_false_eq_true,Nat.reduceLT]; done) | omega | (simp only [yz] <;> omega) | fail)) only [↓yp,yq0,yq1,yq2,yq3,yq4,yl,ys0,ys1,Nat.reduceAdd,Nat.reduceMul,Nat.reduceSub,Nat.reduceBEq,Nat.reduceEqDiff,Nat.reduceLT,Nat.reduceLeDiff,reduceIte,Int.reduceAdd,Int.reduceSub,Int.reduceMul,Int.reduceLT,Int.reduceLE,Int.reduceEq,Int.reduceToNat,Int.reduceNeg,zed,zee,zfr,zhw,ysu,yrg,ysv,ysw]
    refine W_draw [4, 6] rfl (by kernel_rfl) (by kernel_rfl) (by (first | omega | (simp only [yz] <;> omega))) ?_
    simp (disch := (first | (simp only [ne_eq,Nat.reduceEqDiff,not_false_eq_true,Nat.reduceLT]; done) | omega | (simp only [yz] <;> omega) | fail)) only [↓yp,yq0,yq1,yq2,yq3,yq4,yl,ys0,ys1,Nat.reduceAdd,Nat.reduceMul,Nat.reduceSub,Nat.reduceBEq,Nat.reduceEqDiff,Nat.reduceLT,Nat.reduceLeDiff,reduceIte,Int.reduceAdd,Int.reduceSub,Int.reduceMul,Int.reduceLT,Int.reduceLE,Int.reduceEq,Int.reduceToNat,Int.reduceNeg,zed,zee,zfr,zhw,ysu,yrg,ysv,ysw]
    refine c74g (hs.fr (by (repeat (first | exact Fr.refl _ | assumption | refine Fr.allocd ?_ _ | refine Fr.kill ?_ (by first | assumption | omega) | refine Fr.put ?_ (by first | omega | (simp only [yz] <;> omega)) _)))) hl hne (by (first | omega | (simp only [yz] <;> omega))) (by omega) ?_
    intro k H₂ f1 k1 k2 k3
    have n0 := f1.size
    have ns := f1.same
    simp only [zde] at n0 k1
    have fH : Fr H H₂ := (Fr.allocd (Fr.allocd (Fr.refl _) _) _).trans f1
    simp (disch := (first | (simp only [ne_eq,Nat.reduceEqDiff,not_false_eq_true,Nat.reduceLT]; done) | omega | (simp only [yz] <;> omega) | fail)) only [↓yp,yq0,yq1,yq2,yq3,yq4,yl,ys0,ys1,Nat.reduceAdd,Nat.reduceMul,Nat.reduceSub,Nat.reduceBEq,Nat.reduceEqDiff,Nat.reduceLT,Nat.reduceLeDiff,reduceIte,Int.reduceAdd,Int.reduceSub,Int.reduceMul,Int.reduceLT,Int.reduceLE,Int.reduceEq,Int.reduceToNat,Int.reduceNeg,zed,zee,zfr,zhw,ysu,yrg,ysv,ysw,A_build zil,ns]
    exact ⟨_, rfl, by (repeat (first | exact Fr.refl _ | assumption | refine Fr.allocd ?_ _ | refine Fr.kill ?_ (by first | assumption | omega) | refine Fr.put ?_ (by first | omega | (simp only [yz] <;> omega)) _)), by (first | omega | (simp only [yz] <;> omega)), by (first | omega | (simp only [yz] <;> omega)), by rw [zdd (by omega)]; exact k3⟩
  · rintro v H' ⟨k, rfl, -⟩; rfl
  · rintro v H' ⟨k, rfl, h1, h2, h3, h4⟩
    exact hq _ _ h1 h2 h3 h4
/-- Streets that lie at the beginning of a row. -/
theorem sl_cut {b : Nat} {l : List Str} {c : List Value} (hb : b < H.size) (h : cellsOf (H.get b) = some c) (hc : c.take (l.length * 9) = flat l) : Sl H (some ⟨b, 0, none⟩) l := by
  have hl := flat_length l
  obtain ⟨r, rfl⟩ : ∃ r, c = flat l ++ r := ⟨c.drop (l.length * 9), by rw [← hc, List.take_append_drop]⟩
  refine ⟨fun _ => ⟨b, 0, _, rfl, hb, h, fun i s hs => ?_⟩, fun b' o s c' _ ha hcc => ?_⟩
  · have hi : i < l.length := (List.getElem?_eq_some_iff.1 hs).1
    have e : ((flat l ++ r).drop (0 + i * 9)).take 9 = s.enc := by
      rw [Nat.zero_add, List.drop_append_of_le_length (by omega), List.take_append_of_le_length (by rw [List.length_drop]; omega)]
      exact flat_drop l i s hs
    unfold part
    simp only [e,enc_len,show Nat.beq 9 9 = true by rfl,cond_true]
  · cases ha
    rw [h] at hcc
    cases hcc
    rw [List.drop_zero, ← hl, List.take_left]
end Go.Am
