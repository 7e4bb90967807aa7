/- A bill at work by remainders. -/
import Derived.Test.YtnibabkgeolenaaT36
set_option linter.unusedSimpArgs false
set_option linter.unusedVariables false
namespace Go.Am
open Go.Proofs
variable {T : Tab} {P : Program} {N L : Nat} {H H' H'' : AHeap} {Q : Bool → Value → AHeap → Prop}
section
variable {p A : Int} {ad : Addr} {c i : Nat} {hs : List Hs} {v1 v2 : Value} {S1 S2 : Nat → Prop} {e : VT}
set_option maxHeartbeats 8000000 in
/-- byRemainders. -/
theorem c91 (h : Bil H (some ad) hs p) (hA : isum (hs.map Hs.v) = A) (h0 : 0 < A) (hL : L ≤ H.size) {M : Nat} (hM : 1500 ≤ M)
    (hk : ∀ b2 c2 ck H', Fr H H' → Wk H' (some ⟨b2, 0, none⟩) (rnd p A hs) (pad6 (flr p A (hs.map Hs.v))) → FO H' 120 hs.length [.pointer (some ⟨ck, 0, none⟩)] (befR (rms p A (hs.map Hs.v))) →
      Q false (.agg ⟨wkC p (some ⟨b2, 0, none⟩) hs.length c2 (pad6 (flr p A (hs.map Hs.v))) 120 [.pointer (some ⟨ck, 0, none⟩)]⟩) H') :
    resK (acall tabA (aexec tabA Try.prog M) 91 [.agg ⟨[.int .i64 p, .slice (some ad) hs.length c]⟩] H) L Q := by
  obtain ⟨N, rfl⟩ : ∃ N, M = N + 1500 := ⟨M - 1500, by omega⟩
  refine call_fls (R := fun v H' => ∃ b2 c2 ck, v = .agg ⟨wkC p (some ⟨b2, 0, none⟩) hs.length c2 (pad6 (flr p A (hs.map Hs.v))) 120 [.pointer (some ⟨ck, 0, none⟩)]⟩ ∧ Fr H H' ∧ Wk H' (some ⟨b2, 0, none⟩) (rnd p A hs) (pad6 (flr p A (hs.map Hs.v))) ∧ FO H' 120 hs.length [.pointer (some ⟨ck, 0, none⟩)] (befR (rms p A (hs.map Hs.v)))) (k := 49) (rs := [.cell 2 119]) rfl fn_91 rfl rfl rfl hL ?_ ?_ ?_
  rotate_left
  · rintro v H' ⟨b2, c2, ck, rfl, -⟩; rfl
  · rintro v H' ⟨b2, c2, ck, rfl, h1, h2, h3⟩
    exact hk _ _ _ _ h1 h2 h3
  have hl := h.ok.len
  have hav := vsum h.ok
  rw [hA] at hav
  have h89 := fun (N : Nat) => c89 (N := N) (H := (H.alloc (.rw [.int .i64 p, .slice (some ad) hs.length c] 39 false [])).alloc (.rw [.int .i64 0, .slice none 0 0, .int .i64 0, .int .i64 0, .int .i64 0, .int .i64 0, .int .i64 0, .int .i64 0, .nilFunc] 119 false [])) (cap := c) (h.fr (by (repeat (first | exact Fr.refl _ | assumption | refine Fr.allocd ?_ _ | refine Fr.kill ?_ (by first | assumption | omega) | refine Fr.put ?_ (by first | omega | (simp only [yz] <;> omega)) _))))
  rw [hA] at h89
  simp (disch := (first | (simp only [ne_eq,Nat.reduceEqDiff,not_false_eq_true,Nat.reduceLT]; done) | omega | (simp only [yz] <;> omega) | fail)) only [↓yp,yq0,yq1,yq2,yq3,yq4,yl,ys0,ys1,Nat.reduceAdd,Nat.reduceMul,Nat.reduceSub,Nat.reduceBEq,Nat.reduceEqDiff,Nat.reduceLT,Nat.reduceLeDiff,reduceIte,Int.reduceAdd,Int.reduceSub,Int.reduceMul,Int.reduceLT,Int.reduceLE,Int.reduceEq,Int.reduceToNat,Int.reduceNeg,fitB,newC,endD,endR,yrg,h89,A_build st_bdS_39,lenV_slice st_esS_37]
  refine W_while (n := 49) 800 (fun k e H' => ∃ (i : Nat) (v1 v2 : Value) (S1 S2 : Nat → Prop), k = hs.length - i ∧ i ≤ hs.length ∧ RI H H' (some ad) c p A hs i v1 v2 S1 S2 e)
    ?_ 6 hs.length ⟨0, _, _, _, _, by omega, by omega, ?_, ?_, ?_, ?_, ?_, ?_, ?_, ?_, by (first | omega | (simp only [yz] <;> omega)), by (repeat (first | exact Fr.refl _ | assumption | refine Fr.allocd ?_ _ | refine Fr.kill ?_ (by first | assumption | omega) | refine Fr.put ?_ (by first | omega | (simp only [yz] <;> omega)) _)), ?_, ?_, ?_, ?_, Gw.none, Gw.none, fun _ h => h.elim⟩ (by omega) (by omega)
  rotate_left
  · simp (disch := (first | (simp only [ne_eq,Nat.reduceEqDiff,not_false_eq_true,Nat.reduceLT]; done) | omega | (simp only [yz] <;> omega) | fail)) only [yg,Nat.reduceAdd,Nat.reduceEqDiff,Nat.reduceLT]; rfl
  · simp (disch := (first | (simp only [ne_eq,Nat.reduceEqDiff,not_false_eq_true,Nat.reduceLT]; done) | omega | (simp only [yz] <;> omega) | fail)) only [yg,Nat.reduceAdd,Nat.reduceEqDiff,Nat.reduceLT]
  · simp (disch := (first | (simp only [ne_eq,Nat.reduceEqDiff,not_false_eq_true,Nat.reduceLT]; done) | omega | (simp only [yz] <;> omega) | fail)) only [yg,Nat.reduceAdd,Nat.reduceEqDiff,Nat.reduceLT]
  · simp (disch := (first | (simp only [ne_eq,Nat.reduceEqDiff,not_false_eq_true,Nat.reduceLT]; done) | omega | (simp only [yz] <;> omega) | fail)) only [yg,Nat.reduceAdd,Nat.reduceEqDiff,Nat.reduceLT]
  · simp (disch := (first | (simp only [ne_eq,Nat.reduceEqDiff,not_false_eq_true,Nat.reduceLT]; done) | omega | (simp only [yz] <;> omega) | fail)) only [yg,Nat.reduceAdd,Nat.reduceEqDiff,Nat.reduceLT]
  · simp (disch := (first | (simp only [ne_eq,Nat.reduceEqDiff,not_false_eq_true,Nat.reduceLT]; done) | omega | (simp only [yz] <;> omega) | fail)) only [yg,Nat.reduceAdd,Nat.reduceEqDiff,Nat.reduceLT]
  · simp (disch := (first | (simp only [ne_eq,Nat.reduceEqDiff,not_false_eq_true,Nat.reduceLT]; done) | omega | (simp only [yz] <;> omega) | fail)) only [yg,Nat.reduceAdd,Nat.reduceEqDiff,Nat.reduceLT]
  · simp (disch := (first | (simp only [ne_eq,Nat.reduceEqDiff,not_false_eq_true,Nat.reduceLT]; done) | omega | (simp only [yz] <;> omega) | fail)) only [yg,Nat.reduceAdd,Nat.reduceEqDiff,Nat.reduceLT]
  · simp (disch := (first | (simp only [ne_eq,Nat.reduceEqDiff,not_false_eq_true,Nat.reduceLT]; done) | omega | (simp only [yz] <;> omega) | fail)) only [yg,Nat.reduceAdd,Nat.reduceEqDiff,Nat.reduceLT]
  · simp (disch := (first | (simp only [ne_eq,Nat.reduceEqDiff,not_false_eq_true,Nat.reduceLT]; done) | omega | (simp only [yz] <;> omega) | fail)) only [yg,Nat.reduceAdd,Nat.reduceEqDiff,Nat.reduceLT]
  · simp (disch := (first | (simp only [ne_eq,Nat.reduceEqDiff,not_false_eq_true,Nat.reduceLT]; done) | omega | (simp only [yz] <;> omega) | fail)) only [yg,Nat.reduceAdd,Nat.reduceEqDiff,Nat.reduceLT]
  · simp (disch := (first | (simp only [ne_eq,Nat.reduceEqDiff,not_false_eq_true,Nat.reduceLT]; done) | omega | (simp only [yz] <;> omega) | fail)) only [yg,Nat.reduceAdd,Nat.reduceEqDiff,Nat.reduceLT]
  rintro M1 k e H1 ⟨i, v1, v2, S1, S2, rfl, hi, I⟩
  have g17 := I.g17
  have g16 := I.g16
  have sz := I.sz
  have g15 := I.g15
  have g1 := I.g1
  have g2 := I.g2
  have g3 := I.g3
  have g4 := I.g4
  have g5 := I.g5
  have f0 := I.fr.size
  have b1 := I.b1
  have b4 := I.b4
  have b5 := I.b5
  simp (disch := (first | (simp only [ne_eq,Nat.reduceEqDiff,not_false_eq_true,Nat.reduceLT]; done) | omega | (simp only [yz] <;> omega) | fail)) only [↓yp,yq0,yq1,yq2,yq3,yq4,yl,ys0,ys1,Nat.reduceAdd,Nat.reduceMul,Nat.reduceSub,Nat.reduceBEq,Nat.reduceEqDiff,Nat.reduceLT,Nat.reduceLeDiff,reduceIte,Int.reduceAdd,Int.reduceSub,Int.reduceMul,Int.reduceLT,Int.reduceLE,Int.reduceEq,Int.reduceToNat,Int.reduceNeg,fitB,newC,endD,endR,yrg,g17,g16]
  refine ⟨fun hT => ?_, fun hT => ?_⟩
  · have hlt : i < hs.length := by simpa using hT
    obtain ⟨s, hp⟩ : ∃ s, hs[i]? = some s := ⟨hs[i], by simp [hlt]⟩
    obtain ⟨bl, o, cc, eb, hbl, hc, hqq⟩ := (h.rw.fr I.fr).at_ hp
    have q : part cc (o + i * 3) 4 = some (.agg ⟨s.enc⟩) := part_of hqq rfl
    have hw2 : w64 ((i : Int) + 1) = ((i + 1 : Nat) : Int) := by rw [w64_of (by omega)]; omega
    simp only [Hs.enc] at q
    cases eb
    have hmem := List.mem_of_getElem? hp
    have hpv := pv_bd h.ok hmem
    have hfb := fl_bd h.ok hA h0 hmem
    obtain ⟨X, hX⟩ : ∃ X, p * s.v = X := ⟨_, rfl⟩
    rw [hX] at hpv hfb
    have w1 : w64 (p * s.v) = X := by rw [w64_of (by omega), hX]
    have hrem := fun (x y : Operand) => i64_rem (T := tabA) (P := Try.prog) (ty := 3) (x := x) (y := y) (a := X) (b := A) (by omega)
    have hquo := fun (x y : Operand) => i64_quo (T := tabA) (P := Try.prog) (ty := 3) (x := x) (y := y) (a := X) (b := A) (by omega)
    have em : X.tmod A = X % A := Int.tmod_eq_emod_of_nonneg hpv.1
    have eq : X.tdiv A = X / A := Int.tdiv_eq_ediv_of_nonneg hpv.1
    have w3 : w64 (X / A) = X / A := w64_of (by omega)
    have w4 : w64 (X / A + 1) = X / A + 1 := w64_of (by omega)
    have hrm : (rms p A (hs.map Hs.v))[i]? = some (X % A) := by unfold rms; rw [List.getElem?_map, List.getElem?_map, hp]; show some (p * s.v % A) = _; rw [hX]
    have hrn : (rnd p A hs)[i]? = some ⟨0, X / A, X / A + 1⟩ := by unfold rnd; rw [List.getElem?_map, hp]; show some (Hs.mk 0 (p * s.v / A) (p * s.v / A + 1)) = _; rw [hX]
    simp (disch := (first | (simp only [ne_eq,Nat.reduceEqDiff,not_false_eq_true,Nat.reduceLT]; done) | omega | (simp only [yz] <;> omega) | fail)) only [↓yp,yq0,yq1,yq2,yq3,yq4,yl,ys0,ys1,Nat.reduceAdd,Nat.reduceMul,Nat.reduceSub,Nat.reduceBEq,Nat.reduceEqDiff,Nat.reduceLT,Nat.reduceLeDiff,reduceIte,Int.reduceAdd,Int.reduceSub,Int.reduceMul,Int.reduceLT,Int.reduceLE,Int.reduceEq,Int.reduceToNat,Int.reduceNeg,fitB,newC,endD,endR,yrg,g17,g15,g1,g3,b1,A_indexSlice st_esS_37,hc,q,w1]
    have sv : ∀ {v : Value} {S : Nat → Prop} {cs : List Value} {el z : Nat}, Gw H1 (H.size + 1 + 1 + 1) S v i cs el z → sameV 6 v v = true := fun {v S cs el z} g => by
      by_cases hi0 : i = 0
      · rw [g.nil hi0]; exact sv_slice
      · obtain ⟨b, al, ev, -⟩ := g.cons hi0
        rw [ev]; exact sv_slice
    have sv1 := sv I.w1
    have sv2 := sv I.w2
    refine W_drawR (pl := []) [4, 5, 6] [(0, 3)] (planK_of rfl) (by kernel_rfl) (by kernel_rfl) (by kernel_rfl) (by (first | omega | (simp only [yz] <;> omega))) ?_
    simp (disch := (first | (simp only [ne_eq,Nat.reduceEqDiff,not_false_eq_true,Nat.reduceLT]; done) | omega | (simp only [yz] <;> omega) | fail)) only [↓yp,yq0,yq1,yq2,yq3,yq4,yl,ys0,ys1,Nat.reduceAdd,Nat.reduceMul,Nat.reduceSub,Nat.reduceBEq,Nat.reduceEqDiff,Nat.reduceLT,Nat.reduceLeDiff,reduceIte,Int.reduceAdd,Int.reduceSub,Int.reduceMul,Int.reduceLT,Int.reduceLE,Int.reduceEq,Int.reduceToNat,Int.reduceNeg,fitB,newC,endD,endR,yrg,g3,g4,b4,hrem,em,A_buildSlice st_brS_40_1]
    refine gw_append (i := i) (cs := intE.fl ((rms p A (hs.map Hs.v)).take i)) (news := [.int .i64 (X % A)]) st_apS_40 (I.w1.fr (by (repeat (first | exact Fr.refl _ | assumption | refine Fr.allocd ?_ _ | refine Fr.kill ?_ (by first | assumption | omega) | refine Fr.put ?_ (by first | omega | (simp only [yz] <;> omega)) _)))) (by (first | omega | (simp only [yz] <;> omega))) (by rw [fl_length, List.length_take_of_le (by rw [rms_len, List.length_map]; omega)]; rfl) (by unfold srcCells; simp (disch := (first | (simp only [ne_eq,Nat.reduceEqDiff,not_false_eq_true,Nat.reduceLT]; done) | omega | (simp only [yz] <;> omega) | fail)) only [yg,Nat.reduceAdd,Nat.reduceEqDiff,Nat.reduceLT]; rfl) (by omega) (by omega) rfl (by omega) ?_
    intro a1 c1 H2 hs2 fs2 gw1
    simp only [size_alloc,size_put] at hs2 fs2
    rw [show intE.fl ((rms p A (hs.map Hs.v)).take i) ++ [Value.int .i64 (X % A)] = intE.fl ((rms p A (hs.map Hs.v)).take (i + 1)) from take_fl (E := intE) hrm] at gw1
    have old : ∀ q, (q ≤ H.size + 1 + 1 + 1 ∨ q < H1.size ∧ ¬ S1 q) → H2.get q = H1.get q := fun q hq => by
      have : ¬ S1 q := by
        rcases hq with hq | hq
        · exact I.w1.low q hq
        · exact hq.2
      rw [fs2 q (by omega) this, get_alloc_lt (by (first | omega | (simp only [yz] <;> omega))), get_put_ne (by omega), get_alloc_lt (by omega)]
    have b42 := (old _ (.inl (by omega))).trans b4
    have b52 := (old _ (.inl (by omega))).trans b5
    simp (disch := (first | (simp only [ne_eq,Nat.reduceEqDiff,not_false_eq_true,Nat.reduceLT]; done) | omega | (simp only [yz] <;> omega) | fail)) only [↓yp,yq0,yq1,yq2,yq3,yq4,yl,ys0,ys1,Nat.reduceAdd,Nat.reduceMul,Nat.reduceSub,Nat.reduceBEq,Nat.reduceEqDiff,Nat.reduceLT,Nat.reduceLeDiff,reduceIte,Int.reduceAdd,Int.reduceSub,Int.reduceMul,Int.reduceLT,Int.reduceLE,Int.reduceEq,Int.reduceToNat,Int.reduceNeg,fitB,newC,endD,endR,yrg,g3,g4,b4,b42,hrem,em,A_buildSlice st_brS_40_1,sv1]
    refine W_drawR (pl := []) [10, 11, 13] [(1, 3)] (planK_of rfl) (by kernel_rfl) (by kernel_rfl) (by kernel_rfl) (by (first | omega | (simp only [yz] <;> omega))) ?_
    simp (disch := (first | (simp only [ne_eq,Nat.reduceEqDiff,not_false_eq_true,Nat.reduceLT]; done) | omega | (simp only [yz] <;> omega) | fail)) only [↓yp,yq0,yq1,yq2,yq3,yq4,yl,ys0,ys1,Nat.reduceAdd,Nat.reduceMul,Nat.reduceSub,Nat.reduceBEq,Nat.reduceEqDiff,Nat.reduceLT,Nat.reduceLeDiff,reduceIte,Int.reduceAdd,Int.reduceSub,Int.reduceMul,Int.reduceLT,Int.reduceLE,Int.reduceEq,Int.reduceToNat,Int.reduceNeg,fitB,newC,endD,endR,yrg,g3,g5,b52,hquo,eq,w3,w4,A_build st_bdS_72,A_buildSlice st_brS_37_1]
    have w22 : Gw (H2.put (H.size + 1 + 1) (.rw [.slice a1 (i + 1) c1] 40 false [])) (H.size + 1 + 1 + 1) S2 v2 i (hsE.fl ((rnd p A hs).take i)) 72 3 := I.w2.same (by rw [size_put]; omega) fun j hj => by
      have hj1 := I.w2.own j hj
      rw [get_put_ne (by omega), old j (.inr ⟨hj1.2, fun h => I.dj j h hj⟩)]
    refine gw_append (i := i) (cs := hsE.fl ((rnd p A hs).take i)) (news := [.int .i64 0, .int .i64 (X / A), .int .i64 (X / A + 1)]) st_apS_37 (w22.fr (Fr.alloc _ _)) (by (first | omega | (simp only [yz] <;> omega))) (by rw [fl_length, List.length_take_of_le (by rw [rnd_len]; omega)]; rfl) (by unfold srcCells; simp (disch := (first | (simp only [ne_eq,Nat.reduceEqDiff,not_false_eq_true,Nat.reduceLT]; done) | omega | (simp only [yz] <;> omega) | fail)) only [yg,Nat.reduceAdd,Nat.reduceEqDiff,Nat.reduceLT]; rfl) (by omega) (by omega) rfl (by omega) ?_
    intro a2 c2 H3 hs3 fs3 gw2
    simp only [size_alloc,size_put] at hs3 fs3
    rw [show hsE.fl ((rnd p A hs).take i) ++ [Value.int .i64 0, Value.int .i64 (X / A), Value.int .i64 (X / A + 1)] = hsE.fl ((rnd p A hs).take (i + 1)) from take_fl (E := hsE) hrn] at gw2
    have old2 : ∀ q, q < H2.size → q ≠ H.size + 1 + 1 → ¬ S2 q → H3.get q = H2.get q := fun q hq hn h2 => by
      rw [fs3 q (by omega) h2, get_alloc_lt (by (first | omega | (simp only [yz] <;> omega))), get_put_ne hn]
    have b53 : H3.get (H.size + 1 + 1 + 1) = .rw [.int .i64 p, v2] 39 false [] := by rw [old2 _ (by omega) (by omega) (I.w2.low _ (Nat.le_refl _))]; exact b52
    simp (disch := (first | (simp only [ne_eq,Nat.reduceEqDiff,not_false_eq_true,Nat.reduceLT]; done) | omega | (simp only [yz] <;> omega) | fail)) only [↓yp,yq0,yq1,yq2,yq3,yq4,yl,ys0,ys1,Nat.reduceAdd,Nat.reduceMul,Nat.reduceSub,Nat.reduceBEq,Nat.reduceEqDiff,Nat.reduceLT,Nat.reduceLeDiff,reduceIte,Int.reduceAdd,Int.reduceSub,Int.reduceMul,Int.reduceLT,Int.reduceLE,Int.reduceEq,Int.reduceToNat,Int.reduceNeg,fitB,newC,endD,endR,yrg,g3,g5,b52,b53,hquo,eq,w3,w4,A_build st_bdS_72,A_buildSlice st_brS_37_1,sv2,g17,hw2]
    have b43 : H3.get (H.size + 1 + 1) = .rw [.slice a1 (i + 1) c1] 40 false [] := by
      rw [fs3 _ (by omega) (I.w2.low _ (by omega)), get_alloc_lt (by (first | omega | (simp only [yz] <;> omega))), get_put_same (by omega)]
    refine ⟨hs.length - (i + 1), by omega, i + 1, .slice a1 (i + 1) c1, .slice a2 (i + 1) c2, _, _, rfl, by omega, ?_, ?_, ?_, ?_, ?_, ?_, ?_, ?_, by (first | omega | (simp only [yz] <;> omega)), ?_, ?_, ?_, ?_, get_put_same (by omega), (gw1.same (H' := H3) (by omega) fun j hj => ?_).put (gw1.low _ (Nat.le_refl _)) _, gw2.put (gw2.low _ (Nat.le_refl _)) _, ?_⟩
    · simp (disch := (first | (simp only [ne_eq,Nat.reduceEqDiff,not_false_eq_true,Nat.reduceLT]; done) | omega | (simp only [yz] <;> omega) | fail)) only [yg,Nat.reduceAdd,Nat.reduceEqDiff,Nat.reduceLT]
    · simp (disch := (first | (simp only [ne_eq,Nat.reduceEqDiff,not_false_eq_true,Nat.reduceLT]; done) | omega | (simp only [yz] <;> omega) | fail)) only [yg,Nat.reduceAdd,Nat.reduceEqDiff,Nat.reduceLT,g16]
    · simp (disch := (first | (simp only [ne_eq,Nat.reduceEqDiff,not_false_eq_true,Nat.reduceLT]; done) | omega | (simp only [yz] <;> omega) | fail)) only [yg,Nat.reduceAdd,Nat.reduceEqDiff,Nat.reduceLT,g15]
    · simp (disch := (first | (simp only [ne_eq,Nat.reduceEqDiff,not_false_eq_true,Nat.reduceLT]; done) | omega | (simp only [yz] <;> omega) | fail)) only [yg,Nat.reduceAdd,Nat.reduceEqDiff,Nat.reduceLT,g1]
    · simp (disch := (first | (simp only [ne_eq,Nat.reduceEqDiff,not_false_eq_true,Nat.reduceLT]; done) | omega | (simp only [yz] <;> omega) | fail)) only [yg,Nat.reduceAdd,Nat.reduceEqDiff,Nat.reduceLT,g2]
    · simp (disch := (first | (simp only [ne_eq,Nat.reduceEqDiff,not_false_eq_true,Nat.reduceLT]; done) | omega | (simp only [yz] <;> omega) | fail)) only [yg,Nat.reduceAdd,Nat.reduceEqDiff,Nat.reduceLT,g3]
    · simp (disch := (first | (simp only [ne_eq,Nat.reduceEqDiff,not_false_eq_true,Nat.reduceLT]; done) | omega | (simp only [yz] <;> omega) | fail)) only [yg,Nat.reduceAdd,Nat.reduceEqDiff,Nat.reduceLT,g4]
    · simp (disch := (first | (simp only [ne_eq,Nat.reduceEqDiff,not_false_eq_true,Nat.reduceLT]; done) | omega | (simp only [yz] <;> omega) | fail)) only [yg,Nat.reduceAdd,Nat.reduceEqDiff,Nat.reduceLT,g5]
    · exact ⟨by rw [size_put]; omega, fun q hq => by
        rw [get_put_ne (by omega), old2 q (by omega) (by omega) (I.w2.low q (by omega)), old q (.inl (by omega))]
        exact I.fr.same q hq⟩
    · rw [get_put_ne (by omega), old2 _ (by omega) (by omega) (I.w2.low _ (by omega)), old _ (.inl (by omega))]; exact b1
    · rw [get_put_ne (by omega), old2 _ (by omega) (by omega) (I.w2.low _ (by omega)), old _ (.inl (by omega))]; exact I.b2
    · rw [get_put_ne (by omega)]; exact b43
    · have hj1 := gw1.own j hj
      have hn2 : ¬ S2 j := fun h2 => by
        rcases hj with hj | hj
        · exact I.dj j hj h2
        · have := (I.w2.own j h2).2
          rw [hj] at this
          simp only [size_alloc,size_put] at this; omega
      exact old2 j hj1.2 (by omega) hn2
    · rintro j hj hj2
      have hj1 := gw1.own j hj
      rcases hj2 with hj2 | hj2
      · rcases hj with hj | hj
        · exact I.dj j hj hj2
        · have := (I.w2.own j hj2).2
          rw [hj] at this
          simp only [size_alloc,size_put] at this; omega
      · rw [hj2] at hj1
        simp only [size_alloc,size_put] at hj1; omega
  · have hie : i = hs.length := by have := of_decide_eq_false hT; omega
    subst hie
    obtain ⟨r1, al1, ev1, hS1, hg1, -⟩ := I.w1.cons (by omega)
    obtain ⟨r2, al2, ev2, hS2, hg2, -⟩ := I.w2.cons (by omega)
    subst ev1 ev2
    have o1 := I.w1.own _ hS1
    have o2 := I.w2.own _ hS2
    have hfl := List.take_of_length_le (l := rms p A (hs.map Hs.v)) (i := hs.length) (by rw [rms_len, List.length_map]; exact Nat.le_refl _)
    have hfl2 := List.take_of_length_le (l := rnd p A hs) (i := hs.length) (by rw [rnd_len]; exact Nat.le_refl _)
    rw [hfl] at hg1
    rw [hfl2] at hg2
    have rr : Rw hsE H1 (some ⟨r2, 0, none⟩) (rnd p A hs) := Rw.of (r := []) o2.2 (by rw [hg2]; rfl) (by rw [List.append_nil])
    have rrem : Rw intE H1 (some ⟨r1, 0, none⟩) (rms p A (hs.map Hs.v)) := Rw.of (r := []) o1.2 (by rw [hg1]; rfl) (by rw [List.append_nil])
    have b2 := I.b2
    simp (disch := (first | (simp only [ne_eq,Nat.reduceEqDiff,not_false_eq_true,Nat.reduceLT]; done) | omega | (simp only [yz] <;> omega) | fail)) only [↓yp,yq0,yq1,yq2,yq3,yq4,yl,ys0,ys1,Nat.reduceAdd,Nat.reduceMul,Nat.reduceSub,Nat.reduceBEq,Nat.reduceEqDiff,Nat.reduceLT,Nat.reduceLeDiff,reduceIte,Int.reduceAdd,Int.reduceSub,Int.reduceMul,Int.reduceLT,Int.reduceLE,Int.reduceEq,Int.reduceToNat,Int.reduceNeg,fitB,newC,endD,endR,yrg,g4,g5,b5]
    have h108 := fun (Q : Bool → Value → AHeap → Prop) (F : Nat) (hF : 600 ≤ F) => c108 (p := p) (ad := ⟨r2, 0, none⟩) (c := OPEN + 3) (g := 120) (hs := rnd p A hs) (cp := [.pointer (some ⟨H.size + 1 + 1, 0, none⟩)]) (L := H.size) (Q := Q) (M := F) ⟨_, rfl⟩ rr (by rw [rnd_len]; omega) (by rw [rnd_len]; omega) (by omega) hF
    rw [rnd_len, rnd_l] at h108
    refine h108 _ _ (by omega) ?_
    intro H2 fr2
    have f2 := fr2.size
    have b22 := (fr2.same _ (by omega : H.size + 1 < H1.size)).trans b2
    have b42 := (fr2.same _ (by omega : H.size + 1 + 1 < H1.size)).trans b4
    have hp6 := pad6_len (q := flr p A (hs.map Hs.v)) (by rw [flr_len, List.length_map]; omega)
    have hfb := fun x hx => fl_bd h.ok hA h0 (h := x) hx
    simp (disch := (first | (simp only [ne_eq,Nat.reduceEqDiff,not_false_eq_true,Nat.reduceLT]; done) | omega | (simp only [yz] <;> omega) | fail)) only [↓yp,yq0,yq1,yq2,yq3,yq4,yl,ys0,ys1,Nat.reduceAdd,Nat.reduceMul,Nat.reduceSub,Nat.reduceBEq,Nat.reduceEqDiff,Nat.reduceLT,Nat.reduceLeDiff,reduceIte,Int.reduceAdd,Int.reduceSub,Int.reduceMul,Int.reduceLT,Int.reduceLE,Int.reduceEq,Int.reduceToNat,Int.reduceNeg,fitB,newC,endD,endR,yrg,g2,b22,wk_all hp6,wk_len hp6,wk_one]
    have hr2 : (H2.put (H.size + 1) (.rw (wkC p (some ⟨r2, 0, none⟩) hs.length (OPEN + 3) (pad6 (flr p A (hs.map Hs.v))) 120 [.pointer (some ⟨H.size + 1 + 1, 0, none⟩)]) 119 false [])).get r2 = .rw (hsE.fl (rnd p A hs)) 72 true al2 := by
      rw [get_put_ne (by omega), fr2.same _ o2.2]; exact hg2
    have hr1 : (H2.put (H.size + 1) (.rw (wkC p (some ⟨r2, 0, none⟩) hs.length (OPEN + 3) (pad6 (flr p A (hs.map Hs.v))) 120 [.pointer (some ⟨H.size + 1 + 1, 0, none⟩)]) 119 false [])).get r1 = .rw (intE.fl (rms p A (hs.map Hs.v))) 3 true al1 := by
      rw [get_put_ne (by omega), fr2.same _ o1.2]; exact hg1
    have hlen : (rms p A (hs.map Hs.v)).length = hs.length := by rw [rms_len, List.length_map]
    refine ⟨r2, OPEN + 3, H.size + 1 + 1, rfl, ⟨by rw [size_put]; omega, fun q hq => by rw [get_put_ne (by omega), fr2.same _ (by omega)]; exact I.fr.same q hq⟩, ⟨Rw.of (r := []) (by rw [size_put]; omega) (by rw [hr2]; rfl) (by rw [List.append_nil]), by rw [rnd_len]; omega, hp6, ?_, ?_⟩, ?_⟩
    · refine pad6_bd (by omega) fun x hx => ?_
      unfold flr at hx
      rw [List.map_map] at hx
      obtain ⟨y, hy, rfl⟩ := List.mem_map.1 hx
      have := hfb y hy
      exact ⟨this.1, by show p * y.v / A ≤ 1000; omega⟩
    · intro x hx
      unfold rnd at hx
      obtain ⟨y, hy, rfl⟩ := List.mem_map.1 hx
      have := hfb y hy
      show p * y.v / A + 1 ≤ 1000
      omega
    · have := fo_rem (H := H2.put (H.size + 1) (.rw (wkC p (some ⟨r2, 0, none⟩) hs.length (OPEN + 3) (pad6 (flr p A (hs.map Hs.v))) 120 [.pointer (some ⟨H.size + 1 + 1, 0, none⟩)]) 119 false [])) (ck := H.size + 1 + 1) (ra := some ⟨r1, 0, none⟩) (rc := OPEN + 1) (r := rms p A (hs.map Hs.v)) (by rw [get_put_ne (by omega), hlen]; exact b42) (by rw [size_put]; omega) (Rw.of (r := []) (by rw [size_put]; omega) (by rw [hr1]; rfl) (by rw [List.append_nil])) (fun z hz => by
        unfold rms at hz
        rw [List.map_map] at hz
        obtain ⟨y, hy, rfl⟩ := List.mem_map.1 hz
        have := hfb y hy
        exact ⟨this.2.2.1, by show p * y.v % A ≤ 1000000; omega⟩) (by omega)
      rw [hlen] at this
      exact this
end
end Go.Am
/- Pennies are yielded one after the other. -/
namespace Go.Am
open Go.Proofs
variable {T : Tab} {P : Program} {N L : Nat} {H H' H'' Hw : AHeap} {Q : Bool → Value → AHeap → Prop}
theorem atake_fr' {lo : Nat} : ∀ {ds : List Nat} {H H' : AHeap}, atake ds H = some H' → (∀ q ∈ ds, lo ≤ q) → ∀ q, q < lo → H'.get q = H.get q
  | [], H, H', h, _, q, _ => by cases h; rfl
  | d :: ds, H, H', h, hl, q, hq => by
    unfold atake at h
    split at h
    · have := atake_fr' h (fun p hp => hl p (List.mem_cons_of_mem _ hp)) q hq
      rw [this, get_put_ne (by have := hl d (by simp); omega)]
    · cases h
/-- A call that leaves deferred blocks behind, and may write what was there. -/
theorem call_keepD (hT : T.MemoFr) {g : FuncId} {args : List Value} {fn : Func} {c : Code} {R : Value → AHeap → Prop} {rs : List ResultVar} (hm : T.memo g args H = none) (hf : T.fn g = some fn) (hb : fn.body = some c) (hr : fn.results.toList = rs) {k : Nat} (hk : args.length + (fn.ntmps - args.length) = k) (hL : L ≤ H.size)
    (hw : W T P N none c L ⟨k, env args 0 .nil, H, []⟩ (retD T L rs R)) (hq : ∀ v H', R v H' → Q false v H') (hq' : ∀ v H', R v H' → gr v = true → Fr H H' → Q true v H) :
    resK (acall T (aexec T P N) g args H) L Q := by
  subst hk
  unfold W at hw
  unfold resK acall acall0
  rw [hm, hf]
  simp only [hb,envK_eq,fNat_eq]
  cases ha : aexec T P N none c ⟨args.length + (fn.ntmps - args.length), env args 0 .nil, H, []⟩ with
  | none => rw [ha] at hw; exact hw.elim
  | some p =>
    obtain ⟨x, s, m⟩ := p
    have hfr := aexec_fr hT N _ _ _ _ _ _ ha
    simp only at hfr
    rw [ha] at hw
    obtain ⟨h1, h2⟩ := hw
    have key : ((∀ k ∈ s.ds, L ≤ k) ∧ L ≤ s.H.size ∧ ∃ H', atake s.ds s.H = some H' ∧ ∃ v, resV T s.n s.e H' rs = some v ∧ R v H') → (match aleave T fn H s m with
        | some (b, v, H', m) => L ≤ m ∧ Q b v H'
        | none => False) := by
      rintro ⟨k1, k4, H', k5, v, k2, k3⟩
      have hr' : ares T fn s.n s.e H' = some v := by rw [← hr] at k2; exact k2
      have hmin := le_minAl h1 k1
      have hsz := atake_size k5
      have hml := minAl_le m s.ds
      unfold aleave
      simp only [k5,hr',fV_eq,fNat_eq]
      unfold quietV
      cases hq2 : (Nat.ble H.size (min (minAl m s.ds) s.H.size) && gr v)
      · simp only [cond_false]
        exact ⟨by omega, hq _ _ k3⟩
      · simp only [cond_true]
        simp only [Bool.and_eq_true] at hq2
        have := Nat.le_of_ble_eq_true hq2.1
        refine ⟨hL, hq' _ _ k3 hq2.2 ⟨by rw [hsz]; exact hfr.size, fun k hk => ?_⟩⟩
        rw [atake_fr' (lo := H.size) k5 (fun q hq => by have := hml.2 q hq; omega) k hk]
        exact hfr.same k (by omega) hk
    cases x with
    | normal => exact key h2
    | ret => exact key h2
    | _ => exact h2.elim
theorem tm_sliceA {ty : TypeId} {x : Operand} : tmpsOf (Op.operands (.slice ty x none none none)).toList = tmpsOf [x] := by simp [Op.operands]
theorem FrX.putU {k j : Nat} (f : FrX k H H') (hj : H.size ≤ j) (b : ABlk) : FrX k H (H'.put j b) := ⟨by rw [size_put]; exact f.size, fun i h1 h2 => by rw [get_put_ne (by omega)]; exact f.same i h1 h2⟩
/-- A penny is paid. -/
def stepW (bef : Nat → Int → Nat → Int → Bool) (hs : List Hs) (ps : List Int) : List Int := ps.set (nxt bef hs ps) (ps.getD (nxt bef hs ps) 0 + 1)
def runW (bef : Nat → Int → Nat → Int → Bool) (hs : List Hs) (ps : List Int) : Nat → List Int
  | 0 => ps
  | k + 1 => stepW bef hs (runW bef hs ps k)
section
variable {p : Int} {a : Option Addr} {c g K ab bw lb : Nat} {hs : List Hs} {ps : List Int} {cp : List Value} {bef : Nat → Int → Nat → Int → Bool}
theorem runW_len (h : ps.length = 6) : ∀ k, (runW bef hs ps k).length = 6
  | 0 => h
  | k + 1 => by rw [runW, stepW, List.length_set, runW_len h k]
/-- What a bill at work is known to do for so many pennies. -/
structure Run (bef : Nat → Int → Nat → Int → Bool) (hs : List Hs) (ps : List Int) (K : Nat) : Prop where
  bd : ∀ k, k ≤ K → ∀ x ∈ runW bef hs ps k, 0 ≤ x ∧ x ≤ 1000
  can : ∀ k, k < K → ∃ j, canB hs (runW bef hs ps k) j = true
  nx : ∀ k, k < K → nxt bef hs (runW bef hs ps k) < hs.length
theorem Wk.run (h : Wk Hw a hs ps) (r : Run bef hs ps K) {k : Nat} (hk : k ≤ K) : Wk Hw a hs (runW bef hs ps k) := ⟨h.rw, h.len, runW_len h.six k, r.bd k hk, h.m⟩
theorem wk_rw (h6 : ps.length = 6) (hb : H.get bw = .rw (wkC p a hs.length c ps g cp) 119 false []) (hl : bw < H.size) : Rw intE H (some ⟨bw, 2, none⟩) ps := ⟨fun _ => ⟨bw, 2, wkC p a hs.length c ps g cp, rfl, hl, by rw [hb]; rfl, by
  rw [fl_int, show intE.z = 1 from rfl, Nat.mul_one, h6]
  show (tv ps ++ _).take 6 = _
  rw [← h6, ← tv_len, List.take_left]⟩⟩
set_option maxHeartbeats 8000000 in
theorem c129 {K₀ : Nat} (h : Wk Hw a hs ps) (hf : FO Hw g hs.length cp bef) (r : Run bef hs ps K) (f0 : Fr Hw H) (hab : Hw.size ≤ ab) (hab' : ab < H.size) (hne : bw ≠ ab) (hbw : H.get bw = .rw (wkC p a hs.length c ps g cp) 119 false []) (hga : H.get ab = .rw (tv ps) 116 false []) (hK : p - isum ps = (K : Nat)) (hK5 : K ≤ 500) (hL : L ≤ ab)
    (hy : ∀ M, K₀ ≤ M → ∀ k, k < K → ∀ H', FrX ab H H' → H'.get ab = .rw (tv (runW bef hs ps k)) 116 false [] → resK (ayield (aexec tabA Try.prog M) lb [.int .i64 (nxt bef hs (runW bef hs ps k) : Nat), .int .i64 ((runW bef hs ps k).getD (nxt bef hs (runW bef hs ps k)) 0 + 1)] H') L fun _ v H'' => v = .bool true ∧ FrX ab H' H'' ∧ H''.get ab = .rw (tv (runW bef hs ps (k + 1))) 116 false [])
    {M : Nat} (hM : K₀ + 2500 ≤ M) (hq : ∀ f H'', FrX ab H H'' → H''.get ab = .rw (tv (runW bef hs ps K)) 116 false [] → Q f (.tuple ⟨[]⟩) H'') :
    resK (acall tabA (aexec tabA Try.prog M) 129 [.func (.yield lb) ⟨[]⟩ ⟨[]⟩, .pointer (some ⟨bw, 0, none⟩)] H) L Q := by
  obtain ⟨N, rfl⟩ : ∃ N, M = N + K₀ + 2500 := ⟨M - (K₀ + 2500), by omega⟩
  have hbl : bw < H.size := lt_of_cells (c := wkC p a hs.length c ps g cp) (by rw [hbw]; rfl)
  refine call_keep tabA_fr (k := 33) (rs := []) (R := fun v H'' => v = .tuple ⟨[]⟩ ∧ FrX ab H H'' ∧ H''.get ab = .rw (tv (runW bef hs ps K)) 116 false []) rfl fn_129 rfl rfl rfl (by omega) ?_ (by rintro v H'' ⟨rfl, h1, h2⟩; exact hq _ _ h1 h2) (by rintro v H'' ⟨rfl, h1, h2⟩ _ fr; exact hq _ _ (FrX.refl _ _) (by rw [← fr.same _ hab']; exact h2))
  have h6 := h.six
  have hlen := h.len
  have h77 := fun (N : Nat) => c77 (N := N) (H := (H.alloc (.rw [.int .i64 0, .slice none 0 0, .int .i64 0, .int .i64 0, .int .i64 0, .int .i64 0, .int .i64 0, .int .i64 0, .nilFunc] 119 false [])).put H.size (.rw (wkC p a hs.length c ps g cp) 119 false [])) (a := some ⟨bw, 2, none⟩) (cap := 6) (t := ps) ((wk_rw h6 hbw hbl).fr (by (repeat (first | exact Fr.refl _ | assumption | refine Fr.allocd ?_ _ | refine Fr.kill ?_ (by first | assumption | omega) | refine Fr.put ?_ (by first | omega | (simp only [yz] <;> omega)) _)))) (by omega) fun x hx => by have := h.bd x hx; omega
  rw [h6] at h77
  have hsb := isum_le (l := ps) (m := 1000) h.bd
  have wK : w64 (p - isum ps) = ((K : Nat) : Int) := by rw [w64_of (by omega), hK]
  simp (disch := (first | (simp only [ne_eq,Nat.reduceEqDiff,not_false_eq_true,Nat.reduceLT]; done) | omega | (simp only [yz] <;> omega) | fail)) only [↓yp,yq0,yq1,yq2,yq3,yq4,yl,ys0,ys1,Nat.reduceAdd,Nat.reduceMul,Nat.reduceSub,Nat.reduceBEq,Nat.reduceEqDiff,Nat.reduceLT,Nat.reduceLeDiff,reduceIte,Int.reduceAdd,Int.reduceSub,Int.reduceMul,Int.reduceLT,Int.reduceLE,Int.reduceEq,Int.reduceToNat,Int.reduceNeg,fitB,newC,endD,endR,yrg,hbw,wk_all h6,wk_len h6,wk_one]
  refine W_draw [] rfl (by kernel_rfl) (by kernel_rfl) (by (first | omega | (simp only [yz] <;> omega))) ?_
  simp (disch := (first | (simp only [ne_eq,Nat.reduceEqDiff,not_false_eq_true,Nat.reduceLT]; done) | omega | (simp only [yz] <;> omega) | fail)) only [↓yp,yq0,yq1,yq2,yq3,yq4,yl,ys0,ys1,Nat.reduceAdd,Nat.reduceMul,Nat.reduceSub,Nat.reduceBEq,Nat.reduceEqDiff,Nat.reduceLT,Nat.reduceLeDiff,reduceIte,Int.reduceAdd,Int.reduceSub,Int.reduceMul,Int.reduceLT,Int.reduceLE,Int.reduceEq,Int.reduceToNat,Int.reduceNeg,fitB,newC,endD,endR,yrg,hbw,wk_0,A_all st_arS_116 (by unfold OPEN; omega) (by omega),tm_sliceA,h77,wK]
  refine W_while (n := 33) (K₀ + 1800) (fun q e H' => ∃ k : Nat, q = K - k ∧ k ≤ K ∧ gt 33 e 13 = .int .i64 (k : Nat) ∧ gt 33 e 12 = .int .i64 (K : Nat) ∧ gt 33 e 3 = .pointer (some ⟨H.size, 0, none⟩) ∧ gt 33 e 0 = .func (.yield lb) ⟨[]⟩ ⟨[]⟩ ∧ FrX ab H H' ∧ H.size < H'.size ∧ H'.get ab = .rw (tv (runW bef hs ps k)) 116 false [] ∧ H'.get H.size = .rw (wkC p a hs.length c (runW bef hs ps k) g cp) 119 false [])
    ?_ 500 K ⟨0, by omega, by omega, by simp (disch := (first | (simp only [ne_eq,Nat.reduceEqDiff,not_false_eq_true,Nat.reduceLT]; done) | omega | (simp only [yz] <;> omega) | fail)) only [yg,Nat.reduceAdd,Nat.reduceEqDiff,Nat.reduceLT]; rfl, by simp (disch := (first | (simp only [ne_eq,Nat.reduceEqDiff,not_false_eq_true,Nat.reduceLT]; done) | omega | (simp only [yz] <;> omega) | fail)) only [yg,Nat.reduceAdd,Nat.reduceEqDiff,Nat.reduceLT], by simp (disch := (first | (simp only [ne_eq,Nat.reduceEqDiff,not_false_eq_true,Nat.reduceLT]; done) | omega | (simp only [yz] <;> omega) | fail)) only [yg,Nat.reduceAdd,Nat.reduceEqDiff,Nat.reduceLT], by simp (disch := (first | (simp only [ne_eq,Nat.reduceEqDiff,not_false_eq_true,Nat.reduceLT]; done) | omega | (simp only [yz] <;> omega) | fail)) only [yg,Nat.reduceAdd,Nat.reduceEqDiff,Nat.reduceLT], FrX.of (by (repeat (first | exact Fr.refl _ | assumption | refine Fr.allocd ?_ _ | refine Fr.kill ?_ (by first | assumption | omega) | refine Fr.put ?_ (by first | omega | (simp only [yz] <;> omega)) _))), by (first | omega | (simp only [yz] <;> omega)), ?_, ?_⟩ (by omega) (by omega)
  rotate_left
  · rw [get_put_ne (by omega), get_alloc_lt hab']; exact hga
  · exact get_put_same (by (first | omega | (simp only [yz] <;> omega)))
  rintro M1 q e H1 ⟨k, rfl, hk, g13, g12, g3, g0, fx, hz, hga1, hw1⟩
  have hfw : Fr Hw H1 := fx.above f0 hab
  have hwk := h.run r hk
  have h6k := hwk.six
  obtain ⟨F, hF, hFK⟩ : ∃ F, M1 + (K₀ + 1800) = F + 1800 ∧ K₀ ≤ F := ⟨M1 + K₀, by omega, by omega⟩
  rw [hF]
  simp (disch := (first | (simp only [ne_eq,Nat.reduceEqDiff,not_false_eq_true,Nat.reduceLT]; done) | omega | (simp only [yz] <;> omega) | fail)) only [↓yp,yq0,yq1,yq2,yq3,yq4,yl,ys0,ys1,Nat.reduceAdd,Nat.reduceMul,Nat.reduceSub,Nat.reduceBEq,Nat.reduceEqDiff,Nat.reduceLT,Nat.reduceLeDiff,reduceIte,Int.reduceAdd,Int.reduceSub,Int.reduceMul,Int.reduceLT,Int.reduceLE,Int.reduceEq,Int.reduceToNat,Int.reduceNeg,fitB,newC,endD,endR,yrg,g13,g12]
  refine ⟨fun hA => ?_, fun hA => ?_⟩
  · have hlt : k < K := by have := of_decide_eq_true hA; omega
    have h130 := fun (N : Nat) => c130 (N := N) (p := p) (c := c) (hwk.fr hfw) (hf.fr hfw) (r.can k hlt)
    have hnx := r.nx k hlt
    obtain ⟨nn, hnn⟩ : ∃ nn, nxt bef hs (runW bef hs ps k) = nn := ⟨_, rfl⟩
    have hat := ps_at hwk (i := nn) (by omega)
    obtain ⟨x, hx⟩ : ∃ x, (runW bef hs ps k).getD nn 0 = x := ⟨_, rfl⟩
    have hyk := fun M hM H' f1 g1 => hy M hM k hlt H' f1 g1
    have hst : (runW bef hs ps k).set nn (x + 1) = runW bef hs ps (k + 1) := by show _ = stepW bef hs (runW bef hs ps k); unfold stepW; rw [hnn, hx]
    rw [hnn] at h130 hnx
    simp only [hnn,hx] at hyk hat
    have hb := hwk.bd x (List.mem_of_getElem? hat)
    have w1 : w64 (x + 1) = x + 1 := w64_of (by omega)
    have w2 : w64 ((k : Int) + 1) = ((k + 1 : Nat) : Int) := by rw [w64_of (by omega)]; omega
    have hset := wk_set (p := p) (a := a) (n := hs.length) (c := c) (g := g) (cp := cp) (x := x + 1) h6k (i := nn) (by omega)
    rw [hst] at hset
    have hfit : decide (2 + nn ≤ 8) = true := by simp; omega
    have hat' : (runW bef hs ps (k + 1))[nn]? = some (x + 1) := by rw [← hst, List.getElem?_set, if_pos rfl, if_pos (by omega)]
    have h6k' := runW_len (bef := bef) (hs := hs) h6 (k + 1)
    simp (disch := (first | (simp only [ne_eq,Nat.reduceEqDiff,not_false_eq_true,Nat.reduceLT]; done) | omega | (simp only [yz] <;> omega) | fail)) only [↓yp,yq0,yq1,yq2,yq3,yq4,yl,ys0,ys1,Nat.reduceAdd,Nat.reduceMul,Nat.reduceSub,Nat.reduceBEq,Nat.reduceEqDiff,Nat.reduceLT,Nat.reduceLeDiff,reduceIte,Int.reduceAdd,Int.reduceSub,Int.reduceMul,Int.reduceLT,Int.reduceLE,Int.reduceEq,Int.reduceToNat,Int.reduceNeg,fitB,newC,endD,endR,yrg,g3,g0,hw1,wk_all h6k,h130,A_indexArr st_arS_116,wk_i hat,wk_i hat',w1,wk_len h6k,hfit,hset,calK_yield]
    refine resK_mono (hyk _ (by omega) (H1.put H.size (.rw (wkC p a hs.length c (runW bef hs ps (k + 1)) g cp) 119 false [])) (fx.putU (Nat.le_refl _) _) (by rw [get_put_ne (by omega)]; exact hga1)) ?_
    rintro q v H2 ⟨rfl, fx2, hga2⟩
    have f2 := fx2.size
    rw [size_put] at f2
    have hw2 : H2.get H.size = .rw (wkC p a hs.length c (runW bef hs ps (k + 1)) g cp) 119 false [] := by
      rw [fx2.same _ (by rw [size_put]; omega) (by omega), get_put_same (by omega)]
    simp (disch := (first | (simp only [ne_eq,Nat.reduceEqDiff,not_false_eq_true,Nat.reduceLT]; done) | omega | (simp only [yz] <;> omega) | fail)) only [↓yp,yq0,yq1,yq2,yq3,yq4,yl,ys0,ys1,Nat.reduceAdd,Nat.reduceMul,Nat.reduceSub,Nat.reduceBEq,Nat.reduceEqDiff,Nat.reduceLT,Nat.reduceLeDiff,reduceIte,Int.reduceAdd,Int.reduceSub,Int.reduceMul,Int.reduceLT,Int.reduceLE,Int.reduceEq,Int.reduceToNat,Int.reduceNeg,fitB,newC,endD,endR,yrg,g13,w2]
    have fx3 : FrX ab H H2 := (fx.putU (Nat.le_refl _) _).trans fx2
    refine ⟨K - (k + 1), by omega, k + 1, rfl, by omega, ?_, ?_, ?_, ?_, fx3, by omega, hga2, hw2⟩
    · simp (disch := (first | (simp only [ne_eq,Nat.reduceEqDiff,not_false_eq_true,Nat.reduceLT]; done) | omega | (simp only [yz] <;> omega) | fail)) only [yg,Nat.reduceAdd,Nat.reduceEqDiff,Nat.reduceLT]
    · simp (disch := (first | (simp only [ne_eq,Nat.reduceEqDiff,not_false_eq_true,Nat.reduceLT]; done) | omega | (simp only [yz] <;> omega) | fail)) only [yg,Nat.reduceAdd,Nat.reduceEqDiff,Nat.reduceLT,g12]
    · simp (disch := (first | (simp only [ne_eq,Nat.reduceEqDiff,not_false_eq_true,Nat.reduceLT]; done) | omega | (simp only [yz] <;> omega) | fail)) only [yg,Nat.reduceAdd,Nat.reduceEqDiff,Nat.reduceLT,g3]
    · simp (disch := (first | (simp only [ne_eq,Nat.reduceEqDiff,not_false_eq_true,Nat.reduceLT]; done) | omega | (simp only [yz] <;> omega) | fail)) only [yg,Nat.reduceAdd,Nat.reduceEqDiff,Nat.reduceLT,g0]
  · have hke : k = K := by have := of_decide_eq_false hA; omega
    subst hke
    simp (disch := (first | (simp only [ne_eq,Nat.reduceEqDiff,not_false_eq_true,Nat.reduceLT]; done) | omega | (simp only [yz] <;> omega) | fail)) only [↓yp,yq0,yq1,yq2,yq3,yq4,yl,ys0,ys1,Nat.reduceAdd,Nat.reduceMul,Nat.reduceSub,Nat.reduceBEq,Nat.reduceEqDiff,Nat.reduceLT,Nat.reduceLeDiff,reduceIte,Int.reduceAdd,Int.reduceSub,Int.reduceMul,Int.reduceLT,Int.reduceLE,Int.reduceEq,Int.reduceToNat,Int.reduceNeg,fitB,newC,endD,endR,yrg]
    simp (disch := (first | (simp only [ne_eq,Nat.reduceEqDiff,not_false_eq_true,Nat.reduceLT]; done) | omega | (simp only [yz] <;> omega) | fail)) only [resV_none,optK_some,true_and]
    exact ⟨fx, hga1⟩
end
end Go.Am
/- Shares: what houses pay when all pennies are paid. -/
namespace Go.Am
open Go.Proofs
variable {T : Tab} {P : Program} {N L n : Nat} {e : VT} {H H' H'' : AHeap} {Q : Bool → Value → AHeap → Prop}
theorem gt_round2 {p q j : Nat} {v w : Value} : gt (zipSet (lst n e) [(p, v), (q, w)]).length (env (zipSet (lst n e) [(p, v), (q, w)]) 0 .nil) j = bif Nat.blt j n then (if j = q then w else if j = p then v else e.get j) else undef := by
  unfold gt
  rw [env_get]
  simp only [zipSet,List.length_set,lst_length,Nat.zero_le,if_true,Nat.sub_zero,VT.get]
  cases hj : Nat.blt j n
  · rfl
  · have hj' : j < n := lt_of_blt hj
    simp only [cond_true]
    rw [List.getElem?_set]
    by_cases h : q = j
    · subst h
      simp [hj']
    · rw [if_neg h, List.getElem?_set]
      by_cases h2 : p = j
      · subst h2
        simp [hj', Ne.symm h]
      · rw [if_neg h2, lst_get, if_pos hj']
        simp [Ne.symm h, Ne.symm h2]
theorem yield_run2 {l p q : Nat} {x y : Value} {assign body : Code} {d : Nat} {pe : Option Code} (hg : H.get l = .loop .ready pe (lst n e) #[p, q] assign body d) (hp : p < n) (hq : q < n) (hpq : p ≠ q) (hL : L ≤ l)
    (hw : ∀ e', gt n e' p = x → gt n e' q = y → (∀ j, j ≠ p → j ≠ q → gt n e' j = gt n e j) → W T P N (some l) assign L ⟨n, e', H, []⟩ (midY T P N l L body Q)) : resK (ayield (aexec T P N) l [x, y] H) L Q := by
  refine yield_run hg rfl hL ?_
  have hz : zipSet (lst n e) ((#[p, q] : Array Nat).toList.zip [x, y]) = zipSet (lst n e) [(p, x), (q, y)] := rfl
  have hlen : (zipSet (lst n e) [(p, x), (q, y)]).length = n := by rw [zipSet_length, lst_length]
  have hr := fun j => gt_round2 (n := n) (e := e) (p := p) (q := q) (j := j) (v := x) (w := y)
  rw [hz, hlen]
  simp only [hlen] at hr
  refine hw _ ?_ ?_ fun j h1 h2 => ?_
  · rw [hr, blt_true hp, cond_true, if_neg hpq, if_pos rfl]
  · rw [hr, blt_true hq, cond_true, if_pos rfl]
  · rw [hr, if_neg h2, if_neg h1]; rfl
theorem binV_nil_some {ty : TypeId} {x y : Operand} {l c z : Nat} {a : Addr} (h : esS T ty = some z) : binV T P .eql ty x y (.slice (some a) l c) (.slice none 0 0) = some (.bool false) := by
  unfold esS at h
  unfold binV nilV
  rw [show gr (.slice (some a) l c) = false from rfl]
  simp only [Bool.false_and,cond_false]
  cases hu : T.und ty with
  | none => rw [hu] at h; cases h
  | some d => cases d <;> first | rfl | (rw [hu] at h; cases h)
/-- Clone. -/
theorem c76 {a : Addr} {cap : Nat} {l : List Int} (hs : Rw intE H (some a) l) (hne : l ≠ []) (hl : l.length ≤ 65) (hL : L ≤ H.size) {M : Nat} (hM : 60 ≤ M)
    (hq : ∀ k H', Fr H H' → H.size ≤ k → k < H'.size → Rw intE H' (some ⟨k, 0, none⟩) l → Q false (.slice (some ⟨k, 0, none⟩) l.length (OPEN + 1)) H') : resK (acall tabA (aexec tabA Try.prog M) 76 [.slice (some a) l.length cap] H) L Q := by
  obtain ⟨N, rfl⟩ : ∃ N, M = N + 60 := ⟨M - 60, by omega⟩
  obtain ⟨b, o, c, e, -⟩ := hs.get hne
  cases e
  refine call_fls (R := fun v H' => ∃ k, v = .slice (some ⟨k, 0, none⟩) l.length (OPEN + 1) ∧ Fr H H' ∧ H.size ≤ k ∧ k < H'.size ∧ Rw intE H' (some ⟨k, 0, none⟩) l) (k := 8) (rs := [.tmp 2]) rfl fn_76 rfl rfl rfl hL ?_ ?_ ?_
  · have hpos : 0 < l.length := List.length_pos_iff.2 hne
    simp (disch := (first | (simp only [ne_eq,Nat.reduceEqDiff,not_false_eq_true,Nat.reduceLT]; done) | omega | (simp only [yz] <;> omega) | fail)) only [↓yp,yq0,yq1,yq2,yq3,yq4,yl,ys0,ys1,Nat.reduceAdd,Nat.reduceMul,Nat.reduceSub,Nat.reduceBEq,Nat.reduceEqDiff,Nat.reduceLT,Nat.reduceLeDiff,reduceIte,Int.reduceAdd,Int.reduceSub,Int.reduceMul,Int.reduceLT,Int.reduceLE,Int.reduceEq,Int.reduceToNat,Int.reduceNeg,fitB,newC,endD,endR,yrg,binV_nil_some st_esS_40,A_buildSlice st_brS_40_0]
    rw [apK_empty (H := _) (n := l.length) st_apS_40 ((hs.fr (Fr.alloc _ _)).src hne) hpos (by omega) (by omega) (one_fl l) (c₀ := []) (by simp (disch := (first | (simp only [ne_eq,Nat.reduceEqDiff,not_false_eq_true,Nat.reduceLT]; done) | omega | (simp only [yz] <;> omega) | fail)) only [yg,Nat.reduceAdd,Nat.reduceEqDiff,Nat.reduceLT])]
    simp (disch := (first | (simp only [ne_eq,Nat.reduceEqDiff,not_false_eq_true,Nat.reduceLT]; done) | omega | (simp only [yz] <;> omega) | fail)) only [↓yp,yq0,yq1,yq2,yq3,yq4,yl,ys0,ys1,Nat.reduceAdd,Nat.reduceMul,Nat.reduceSub,Nat.reduceBEq,Nat.reduceEqDiff,Nat.reduceLT,Nat.reduceLeDiff,reduceIte,Int.reduceAdd,Int.reduceSub,Int.reduceMul,Int.reduceLT,Int.reduceLE,Int.reduceEq,Int.reduceToNat,Int.reduceNeg,fitB,newC,endD,endR,yrg]
    exact ⟨_, rfl, by (repeat (first | exact Fr.refl _ | assumption | refine Fr.allocd ?_ _ | refine Fr.kill ?_ (by first | assumption | omega) | refine Fr.put ?_ (by first | omega | (simp only [yz] <;> omega)) _)), by (first | omega | (simp only [yz] <;> omega)), by (first | omega | (simp only [yz] <;> omega)), Rw.of (r := []) (by (first | omega | (simp only [yz] <;> omega))) (by simp (disch := (first | (simp only [ne_eq,Nat.reduceEqDiff,not_false_eq_true,Nat.reduceLT]; done) | omega | (simp only [yz] <;> omega) | fail)) only [yg,Nat.reduceAdd,Nat.reduceEqDiff,Nat.reduceLT]; rfl) (by rw [List.append_nil])⟩
  · rintro v H' ⟨k, rfl, -⟩; rfl
  · rintro v H' ⟨k, rfl, h1, h2, h3, h4⟩
    exact hq _ _ h1 h2 h3 h4
section
variable {p : Int} {a : Option Addr} {c g K : Nat} {hs : List Hs} {ps : List Int} {cp : List Value} {bef : Nat → Int → Nat → Int → Bool}
/-- pennies. -/
theorem c116 (hL : L ≤ H.size) {M : Nat} (hM : 30 ≤ M) (hq : Q false (.func (.func 129) ⟨[]⟩ ⟨[.pointer (some ⟨H.size, 0, none⟩)]⟩) (H.alloc (.rw (wkC p a n c ps g cp) 119 false []))) :
    resK (acall tabA (aexec tabA Try.prog M) 116 [.agg ⟨wkC p a n c ps g cp⟩] H) L Q := by
  obtain ⟨N, rfl⟩ : ∃ N, M = N + 30 := ⟨M - 30, by omega⟩
  refine call_fls (R := fun v H' => v = .func (.func 129) ⟨[]⟩ ⟨[.pointer (some ⟨H.size, 0, none⟩)]⟩ ∧ H' = H.alloc (.rw (wkC p a n c ps g cp) 119 false [])) (k := 4) (rs := [.tmp 2]) rfl fn_116 rfl rfl rfl hL ?_ ?_ ?_
  · simp (disch := (first | (simp only [ne_eq,Nat.reduceEqDiff,not_false_eq_true,Nat.reduceLT]; done) | omega | (simp only [yz] <;> omega) | fail)) only [↓yp,yq0,yq1,yq2,yq3,yq4,yl,ys0,ys1,Nat.reduceAdd,Nat.reduceMul,Nat.reduceSub,Nat.reduceBEq,Nat.reduceEqDiff,Nat.reduceLT,Nat.reduceLeDiff,reduceIte,Int.reduceAdd,Int.reduceSub,Int.reduceMul,Int.reduceLT,Int.reduceLE,Int.reduceEq,Int.reduceToNat,Int.reduceNeg,fitB,newC,endD,endR,yrg]
  · rintro v H' ⟨rfl, -⟩; rfl
  · rintro v H' ⟨rfl, rfl⟩
    exact hq
set_option maxHeartbeats 8000000 in
/-- shares. -/
theorem c81 (h : Wk H a hs ps) (hf : FO H g hs.length cp bef) (r : Run bef hs ps K) (hK : p - isum ps = (K : Nat)) (hK5 : K ≤ 500) (hL : L ≤ H.size) {M : Nat} (hM : 4000 ≤ M)
    (hq : ∀ b H', Fr H H' → H.size ≤ b → Rw intE H' (some ⟨b, 0, none⟩) ((runW bef hs ps K).take hs.length) → Q false (.slice (some ⟨b, 0, none⟩) hs.length (OPEN + 1)) H') :
    resK (acall tabA (aexec tabA Try.prog M) 81 [.agg ⟨wkC p a hs.length c ps g cp⟩] H) L Q := by
  obtain ⟨N, rfl⟩ : ∃ N, M = N + 4000 := ⟨M - 4000, by omega⟩
  refine call_keepD tabA_fr (k := 21) (rs := [.tmp 2]) (R := fun v H' => ∃ b, v = .slice (some ⟨b, 0, none⟩) hs.length (OPEN + 1) ∧ Fr H H' ∧ H.size ≤ b ∧ Rw intE H' (some ⟨b, 0, none⟩) ((runW bef hs ps K).take hs.length)) rfl fn_81 rfl rfl rfl hL ?_ ?_ ?_
  rotate_left
  · rintro v H' ⟨b, rfl, h1, h2, h3⟩; exact hq _ _ h1 h2 h3
  · rintro v H' ⟨b, rfl, -⟩ hg _; cases hg
  have h6 := h.six
  have hlen := h.len
  have ht6 : (tv ps).length = 6 := by rw [tv_len, h6]
  simp (disch := (first | (simp only [ne_eq,Nat.reduceEqDiff,not_false_eq_true,Nat.reduceLT]; done) | omega | (simp only [yz] <;> omega) | fail)) only [↓yp,yq0,yq1,yq2,yq3,yq4,yl,ys0,ys1,Nat.reduceAdd,Nat.reduceMul,Nat.reduceSub,Nat.reduceBEq,Nat.reduceEqDiff,Nat.reduceLT,Nat.reduceLeDiff,reduceIte,Int.reduceAdd,Int.reduceSub,Int.reduceMul,Int.reduceLT,Int.reduceLE,Int.reduceEq,Int.reduceToNat,Int.reduceNeg,fitB,newC,endD,endR,yrg,wk_arr h6,wk_all h6,ht6,one_tv]
  refine c116 (by (first | omega | (simp only [yz] <;> omega))) (by omega) ?_
  simp (disch := (first | (simp only [ne_eq,Nat.reduceEqDiff,not_false_eq_true,Nat.reduceLT]; done) | omega | (simp only [yz] <;> omega) | fail)) only [↓yp,yq0,yq1,yq2,yq3,yq4,yl,ys0,ys1,Nat.reduceAdd,Nat.reduceMul,Nat.reduceSub,Nat.reduceBEq,Nat.reduceEqDiff,Nat.reduceLT,Nat.reduceLeDiff,reduceIte,Int.reduceAdd,Int.reduceSub,Int.reduceMul,Int.reduceLT,Int.reduceLE,Int.reduceEq,Int.reduceToNat,Int.reduceNeg,fitB,newC,endD,endR,yrg]
  obtain ⟨G, hG⟩ : ∃ G, (((H.alloc (.rw (wkC p a hs.length c ps g cp) 119 false [])).alloc (.rw [.int .i64 0, .int .i64 0, .int .i64 0, .int .i64 0, .int .i64 0, .int .i64 0] 116 false [])).put (H.size + 1) (.rw (tv ps) 116 false [])).alloc (.rw (wkC p a hs.length c ps g cp) 119 false []) = G := ⟨_, rfl⟩
  have zG : G.size = H.size + 1 + 1 + 1 := by rw [← hG]; (first | omega | (simp only [yz] <;> omega))
  have G0 : G.get H.size = .rw (wkC p a hs.length c ps g cp) 119 false [] := by rw [← hG]; simp (disch := (first | (simp only [ne_eq,Nat.reduceEqDiff,not_false_eq_true,Nat.reduceLT]; done) | omega | (simp only [yz] <;> omega) | fail)) only [yg,Nat.reduceAdd,Nat.reduceEqDiff,Nat.reduceLT]
  have G1 : G.get (H.size + 1) = .rw (tv ps) 116 false [] := by rw [← hG]; simp (disch := (first | (simp only [ne_eq,Nat.reduceEqDiff,not_false_eq_true,Nat.reduceLT]; done) | omega | (simp only [yz] <;> omega) | fail)) only [yg,Nat.reduceAdd,Nat.reduceEqDiff,Nat.reduceLT]
  have G2 : G.get (H.size + 1 + 1) = .rw (wkC p a hs.length c ps g cp) 119 false [] := by rw [← hG]; simp (disch := (first | (simp only [ne_eq,Nat.reduceEqDiff,not_false_eq_true,Nat.reduceLT]; done) | omega | (simp only [yz] <;> omega) | fail)) only [yg,Nat.reduceAdd,Nat.reduceEqDiff,Nat.reduceLT]
  have fG : Fr H G := by rw [← hG]; (repeat (first | exact Fr.refl _ | assumption | refine Fr.allocd ?_ _ | refine Fr.kill ?_ (by first | assumption | omega) | refine Fr.put ?_ (by first | omega | (simp only [yz] <;> omega)) _))
  rw [hG]
  clear hG
  refine W_abs (F := fun e H' => gt 21 e 1 = .pointer (some ⟨H.size, 0, none⟩) ∧ gt 21 e 3 = .pointer (some ⟨H.size + 1, 0, none⟩) ∧ gt 21 e 9 = .func (.func 129) ⟨[]⟩ ⟨[.pointer (some ⟨H.size + 1 + 1, 0, none⟩)]⟩ ∧ H' = G) ⟨by simp (disch := (first | (simp only [ne_eq,Nat.reduceEqDiff,not_false_eq_true,Nat.reduceLT]; done) | omega | (simp only [yz] <;> omega) | fail)) only [yg,Nat.reduceAdd,Nat.reduceEqDiff,Nat.reduceLT], by simp (disch := (first | (simp only [ne_eq,Nat.reduceEqDiff,not_false_eq_true,Nat.reduceLT]; done) | omega | (simp only [yz] <;> omega) | fail)) only [yg,Nat.reduceAdd,Nat.reduceEqDiff,Nat.reduceLT], by simp (disch := (first | (simp only [ne_eq,Nat.reduceEqDiff,not_false_eq_true,Nat.reduceLT]; done) | omega | (simp only [yz] <;> omega) | fail)) only [yg,Nat.reduceAdd,Nat.reduceEqDiff,Nat.reduceLT], rfl⟩ ?_
  rintro e H1 ⟨g1, g3, g9, rfl⟩
  obtain ⟨asg, hasg⟩ : ∃ x, sub [true, true, false, true, false, false] (bodyOf Try.f81) = x := ⟨_, rfl⟩
  refine W_range (f := 129) (first := []) (cap := [.pointer (some ⟨H.size + 1 + 1, 0, none⟩)]) (by rw [aenv_tmp, g9]) (by omega) ?_
  have hG5 : ((H1.alloc .defer).alloc (.loop .ready none (lst 21 e) #[10, 11] .skip .skip H1.size)).size = H1.size + 2 := by (first | omega | (simp only [yz] <;> omega))
  refine c129 (K₀ := 200) (Hw := H) (ab := H.size + 1) (bw := H.size + 1 + 1) (lb := H1.size + 1) (p := p) (c := c) (K := K) h hf r ?_ (by omega) (by (first | omega | (simp only [yz] <;> omega))) (by omega) ?_ ?_ hK hK5 (by omega) ?_ (by omega) ?_
  · exact (fG.allocd _).allocd _
  · rw [get_alloc_lt (by (first | omega | (simp only [yz] <;> omega))), get_alloc_lt (by omega)]; exact G2
  · rw [get_alloc_lt (by (first | omega | (simp only [yz] <;> omega))), get_alloc_lt (by omega)]; exact G1
  · intro M hM k hk H' fx ga
    obtain ⟨nn, hnn⟩ : ∃ nn, nxt bef hs (runW bef hs ps k) = nn := ⟨_, rfl⟩
    have hnx := r.nx k hk
    have h6k := runW_len (bef := bef) (hs := hs) h6 k
    obtain ⟨x, hx⟩ : ∃ x, (runW bef hs ps k).getD nn 0 = x := ⟨_, rfl⟩
    have hst : (runW bef hs ps k).set nn (x + 1) = runW bef hs ps (k + 1) := by show _ = stepW bef hs (runW bef hs ps k); unfold stepW; rw [hnn, hx]
    rw [hnn] at hnx
    simp only [hnn,hx]
    have hgl := fx.same (H1.size + 1) (by (first | omega | (simp only [yz] <;> omega))) (by omega)
    rw [get_alloc_eq (by (first | omega | (simp only [yz] <;> omega)))] at hgl
    obtain ⟨F, rfl⟩ : ∃ F, M = F + 200 := ⟨M - 200, by omega⟩
    refine yield_run2 hgl (by omega) (by omega) (by omega) (by omega) ?_
    intro e' g10 g11 ho
    have g3' := (ho 3 (by omega) (by omega)).trans g3
    have hz' := fx.size
    simp only [size_alloc] at hz'
    have hset : List.take nn (tv (runW bef hs ps k)) ++ [.int .i64 (x + 1)] ++ List.drop (nn + 1) (tv (runW bef hs ps k)) = tv (runW bef hs ps (k + 1)) := by
      rw [← hst]
      exact newC_tv (by omega)
    have hlk : (tv (runW bef hs ps k)).length = 6 := by rw [tv_len, h6k]
    have hfit : decide (nn ≤ 5) = true := by simp; omega
    simp (disch := (first | (simp only [ne_eq,Nat.reduceEqDiff,not_false_eq_true,Nat.reduceLT]; done) | omega | (simp only [yz] <;> omega) | fail)) only [↓yp,yq0,yq1,yq2,yq3,yq4,yl,ys0,ys1,Nat.reduceAdd,Nat.reduceMul,Nat.reduceSub,Nat.reduceBEq,Nat.reduceEqDiff,Nat.reduceLT,Nat.reduceLeDiff,reduceIte,Int.reduceAdd,Int.reduceSub,Int.reduceMul,Int.reduceLT,Int.reduceLE,Int.reduceEq,Int.reduceToNat,Int.reduceNeg,fitB,newC,endD,endR,yrg,g10,g11]
    refine midY_gen hgl ?_
    intro bz hbz
    have hga' : (H'.put (H1.size + 1) bz).get (H.size + 1) = .rw (tv (runW bef hs ps k)) 116 false [] := by rw [get_put_ne (by omega)]; exact ga
    simp (disch := (first | (simp only [ne_eq,Nat.reduceEqDiff,not_false_eq_true,Nat.reduceLT]; done) | omega | (simp only [yz] <;> omega) | fail)) only [↓yp,yq0,yq1,yq2,yq3,yq4,yl,ys0,ys1,Nat.reduceAdd,Nat.reduceMul,Nat.reduceSub,Nat.reduceBEq,Nat.reduceEqDiff,Nat.reduceLT,Nat.reduceLeDiff,reduceIte,Int.reduceAdd,Int.reduceSub,Int.reduceMul,Int.reduceLT,Int.reduceLE,Int.reduceEq,Int.reduceToNat,Int.reduceNeg,fitB,newC,endD,endR,yrg,g3',A_indexArr st_arS_116,hga',hlk,hfit,hset]
    subst hbz
    refine endY_normal (by rw [get_put_ne (by omega)]; exact get_put_same (by omega)) ?_
    refine ⟨rfl, ⟨by simp only [size_put]; omega, fun j h1 h2 => ?_⟩, by rw [get_put_ne (by omega), get_put_same (by rw [size_put]; omega)]⟩
    by_cases hj : j = H1.size + 1
    · subst hj
      rw [get_put_same (by simp only [size_put]; omega), hgl]
    · rw [get_put_ne hj, get_put_ne h2, get_put_ne hj]
  · intro f H2 fx ga
    have hgl := fx.same (H1.size + 1) (by (first | omega | (simp only [yz] <;> omega))) (by omega)
    rw [get_alloc_eq (by (first | omega | (simp only [yz] <;> omega)))] at hgl
    have hz' := fx.size
    simp only [size_alloc] at hz'
    refine ⟨.ready, _, _, _, _, _, (fun h => by cases h), hgl, ?_⟩
    have k0 := fx.same H.size (by (first | omega | (simp only [yz] <;> omega))) (by omega)
    rw [get_alloc_lt (by (first | omega | (simp only [yz] <;> omega))), get_alloc_lt (by omega), G0] at k0
    have kd := fx.same H1.size (by (first | omega | (simp only [yz] <;> omega))) (by omega)
    rw [get_alloc_lt (by (first | omega | (simp only [yz] <;> omega))), get_alloc_eq rfl] at kd
    have kf : ∀ j, j < H.size → H2.get j = H.get j := fun j hj => by rw [fx.same j (by (first | omega | (simp only [yz] <;> omega))) (by omega), get_alloc_lt (by (first | omega | (simp only [yz] <;> omega))), get_alloc_lt (by omega)]; exact fG.same j hj
    generalize hH3 : H2.put (H1.size + 1) _ = H3
    have z3 : H3.size = H2.size := by rw [← hH3, size_put]
    have m : ∀ j, j ≠ H1.size + 1 → H3.get j = H2.get j := fun j hj => by rw [← hH3, get_put_ne hj]
    have k03 := (m _ (by omega)).trans k0
    have kd3 := (m _ (by omega)).trans kd
    have ga3 := (m _ (by omega)).trans ga
    clear hH3 hgl fx
    simp (disch := (first | (simp only [ne_eq,Nat.reduceEqDiff,not_false_eq_true,Nat.reduceLT]; done) | omega | (simp only [yz] <;> omega) | fail)) only [↓yp,yq0,yq1,yq2,yq3,yq4,yl,ys0,ys1,Nat.reduceAdd,Nat.reduceMul,Nat.reduceSub,Nat.reduceBEq,Nat.reduceEqDiff,Nat.reduceLT,Nat.reduceLeDiff,reduceIte,Int.reduceAdd,Int.reduceSub,Int.reduceMul,Int.reduceLT,Int.reduceLE,Int.reduceEq,Int.reduceToNat,Int.reduceNeg,fitB,newC,endD,endR,yrg,g1,g3,k03,wk_1,lenV_slice st_esS_37]
    refine A_cut_of (b := H.size + 1) (o := 0) (s := none) (i := (hs.length : Nat)) st_arS_116 (by simp (disch := (first | (simp only [ne_eq,Nat.reduceEqDiff,not_false_eq_true,Nat.reduceLT]; done) | omega | (simp only [yz] <;> omega) | fail)) only [↓yp,yq0,yq1,yq2,yq3,yq4,yl,ys0,ys1,Nat.reduceAdd,Nat.reduceMul,Nat.reduceSub,Nat.reduceBEq,Nat.reduceEqDiff,Nat.reduceLT,Nat.reduceLeDiff,reduceIte,Int.reduceAdd,Int.reduceSub,Int.reduceMul,Int.reduceLT,Int.reduceLE,Int.reduceEq,Int.reduceToNat,Int.reduceNeg,fitB,newC,endD,endR,yrg,g3]) (by simp (disch := (first | (simp only [ne_eq,Nat.reduceEqDiff,not_false_eq_true,Nat.reduceLT]; done) | omega | (simp only [yz] <;> omega) | fail)) only [↓yp,yq0,yq1,yq2,yq3,yq4,yl,ys0,ys1,Nat.reduceAdd,Nat.reduceMul,Nat.reduceSub,Nat.reduceBEq,Nat.reduceEqDiff,Nat.reduceLT,Nat.reduceLeDiff,reduceIte,Int.reduceAdd,Int.reduceSub,Int.reduceMul,Int.reduceLT,Int.reduceLE,Int.reduceEq,Int.reduceToNat,Int.reduceNeg,fitB,newC,endD,endR,yrg]) (by omega) (by unfold OPEN; omega) (by omega) (by omega) ?_
    rw [Int.toNat_natCast]
    have h6k := runW_len (bef := bef) (hs := hs) h6 K
    have htl : ((runW bef hs ps K).take hs.length).length = hs.length := by rw [List.length_take, h6k]; omega
    have hrw : Rw intE H3 (some ⟨H.size + 1, 0, none⟩) ((runW bef hs ps K).take hs.length) := Rw.of (r := tv ((runW bef hs ps K).drop hs.length)) (c := tv (runW bef hs ps K)) (by omega) (by rw [ga3]; rfl) (by rw [fl_int]; unfold tv; rw [← List.map_append, List.take_append_drop])
    simp (disch := (first | (simp only [ne_eq,Nat.reduceEqDiff,not_false_eq_true,Nat.reduceLT]; done) | omega | (simp only [yz] <;> omega) | fail)) only [↓yp,yq0,yq1,yq2,yq3,yq4,yl,ys0,ys1,Nat.reduceAdd,Nat.reduceMul,Nat.reduceSub,Nat.reduceBEq,Nat.reduceEqDiff,Nat.reduceLT,Nat.reduceLeDiff,reduceIte,Int.reduceAdd,Int.reduceSub,Int.reduceMul,Int.reduceLT,Int.reduceLE,Int.reduceEq,Int.reduceToNat,Int.reduceNeg,fitB,newC,endD,endR,yrg]
    have h76 := fun (Q : Bool → Value → AHeap → Prop) (F : Nat) (hF : 60 ≤ F) => c76 (cap := 6) (L := L) (Q := Q) (M := F) hrw (fun h0 => by rw [h0] at htl; simp at htl; omega) (by omega) (by omega) hF
    rw [htl] at h76
    refine h76 _ _ (by omega) ?_
    intro k H4 fr4 k1 k2 r4
    have f4 := fr4.size
    have kd4 := (fr4.same H1.size (by omega)).trans kd3
    simp (disch := (first | (simp only [ne_eq,Nat.reduceEqDiff,not_false_eq_true,Nat.reduceLT]; done) | omega | (simp only [yz] <;> omega) | fail)) only [↓yp,yq0,yq1,yq2,yq3,yq4,yl,ys0,ys1,Nat.reduceAdd,Nat.reduceMul,Nat.reduceSub,Nat.reduceBEq,Nat.reduceEqDiff,Nat.reduceLT,Nat.reduceLeDiff,reduceIte,Int.reduceAdd,Int.reduceSub,Int.reduceMul,Int.reduceLT,Int.reduceLE,Int.reduceEq,Int.reduceToNat,Int.reduceNeg,fitB,newC,endD,endR,yrg]
    refine ⟨fun q hq => ?_, (show L ≤ H4.size by omega), H4.put H1.size .dead, by rw [atake_cons kd4, atake_nil], .slice (some ⟨k, 0, none⟩) hs.length (OPEN + 1), ?_, k, rfl, ⟨by rw [size_put]; omega, fun q hq => ?_⟩, by omega, ?_⟩
    · simp only [List.mem_singleton] at hq
      subst hq
      omega
    · simp (disch := (first | (simp only [ne_eq,Nat.reduceEqDiff,not_false_eq_true,Nat.reduceLT]; done) | omega | (simp only [yz] <;> omega) | fail)) only [↓yp,yq0,yq1,yq2,yq3,yq4,yl,ys0,ys1,Nat.reduceAdd,Nat.reduceMul,Nat.reduceSub,Nat.reduceBEq,Nat.reduceEqDiff,Nat.reduceLT,Nat.reduceLeDiff,reduceIte,Int.reduceAdd,Int.reduceSub,Int.reduceMul,Int.reduceLT,Int.reduceLE,Int.reduceEq,Int.reduceToNat,Int.reduceNeg,fitB,newC,endD,endR,yrg]
    · rw [get_put_ne (by omega), fr4.same _ (by omega), m _ (by omega)]
      exact kf q hq
    · have hkne : k ≠ H1.size := by omega
      obtain ⟨b, o, cc, e1, e2, e3, e4⟩ := r4.get (fun h0 => by rw [h0] at htl; simp at htl; omega)
      cases e1
      exact ⟨fun _ => ⟨_, _, cc, rfl, by rw [size_put]; exact e2, by rw [get_put_ne hkne]; exact e3, e4⟩⟩
end
end Go.Am
