/- FeeMore: bounds that nothing reaches are made wider. -/
import Derived.Test.YtnibabkgeolenaaT40
set_option linter.unusedSimpArgs false
set_option linter.unusedVariables false
namespace Go.Am
open Go.Proofs
variable {T : Tab} {P : Program} {N L : Nat} {H H' H'' : AHeap} {Q : Bool → Value → AHeap → Prop}
theorem hs_setL : ∀ {l : List Hs} {i : Nat} {h : Hs} (v : Int), l[i]? = some h → (hsE.fl l).take (i * 3 + 1) ++ [Value.int .i64 v] ++ (hsE.fl l).drop (i * 3 + 1 + 1) = hsE.fl (l.set i ⟨h.v, v, h.m⟩)
  | [], i, h, v, e => by simp at e
  | x :: l, 0, h, v, e => by cases e; rfl
  | x :: l, i + 1, h, v, e => by
    have ih := hs_setL (l := l) (i := i) (h := h) v (by simpa using e)
    rw [show (i + 1) * 3 + 1 = i * 3 + 1 + 3 by omega, show i * 3 + 1 + 3 + 1 = i * 3 + 1 + 1 + 3 by omega]
    show Value.int .i64 x.v :: .int .i64 x.l :: .int .i64 x.m :: ((hsE.fl l).take (i * 3 + 1) ++ [Value.int .i64 v] ++ (hsE.fl l).drop (i * 3 + 1 + 1)) = Value.int .i64 x.v :: .int .i64 x.l :: .int .i64 x.m :: hsE.fl (l.set i ⟨h.v, v, h.m⟩)
    rw [ih]
theorem hs_setM : ∀ {l : List Hs} {i : Nat} {h : Hs} (v : Int), l[i]? = some h → (hsE.fl l).take (i * 3 + 2) ++ [Value.int .i64 v] ++ (hsE.fl l).drop (i * 3 + 2 + 1) = hsE.fl (l.set i ⟨h.v, h.l, v⟩)
  | [], i, h, v, e => by simp at e
  | x :: l, 0, h, v, e => by cases e; rfl
  | x :: l, i + 1, h, v, e => by
    have ih := hs_setM (l := l) (i := i) (h := h) v (by simpa using e)
    rw [show (i + 1) * 3 + 2 = i * 3 + 2 + 3 by omega, show i * 3 + 2 + 3 + 1 = i * 3 + 2 + 1 + 3 by omega]
    show Value.int .i64 x.v :: .int .i64 x.l :: .int .i64 x.m :: ((hsE.fl l).take (i * 3 + 2) ++ [Value.int .i64 v] ++ (hsE.fl l).drop (i * 3 + 2 + 1)) = Value.int .i64 x.v :: .int .i64 x.l :: .int .i64 x.m :: hsE.fl (l.set i ⟨h.v, h.l, v⟩)
    rw [ih]
def frL (h : Hs) (y : Int) : Int := if h.l < y then (if h.l - 3 > 0 then h.l - 3 else 0) else h.l
def frM (h : Hs) (y : Int) : Int := if y < h.m then (if h.m + 5 < 500 then h.m + 5 else 500) else h.m
theorem set_self {α : Type} {l : List α} {i : Nat} {x : α} (h : l[i]? = some x) : l.set i x = l := by
  refine List.ext_getElem? fun n => ?_
  rw [List.getElem?_set]
  split
  · rename_i e
    subst e
    rw [if_pos (List.getElem?_eq_some_iff.1 h).1, h]
  · rfl
section
variable {kb kf k : Nat} {hs : List Hs} {p : Int} {ad : Addr} {c b1 c1 : Nat} {q : List Int} {e : VT}
/-- While bounds are made wider. -/
structure FrI (hs : List Hs) (q : List Int) (i : Nat) (l : List Hs) : Prop where
  len : l.length = hs.length
  done : ∀ (j : Nat) (h : Hs) (y : Int), j < i → hs[j]? = some h → q[j]? = some y → l[j]? = some ⟨h.v, frL h y, frM h y⟩
  rest : ∀ (j : Nat), i ≤ j → l[j]? = hs[j]?
theorem FrI.next {i : Nat} {l : List Hs} {s : Hs} {y : Int} (I : FrI hs q i l) (hs' : hs[i]? = some s) (hy : q[i]? = some y) : FrI hs q (i + 1) (l.set i ⟨s.v, frL s y, frM s y⟩) where
  len := by rw [List.length_set]; exact I.len
  done j h y' hj h1 h2 := by
    have hi := (List.getElem?_eq_some_iff.1 hs').1
    rw [List.getElem?_set]
    split
    · rename_i e
      subst e
      rw [hs'] at h1; cases h1
      rw [hy] at h2; cases h2
      rw [if_pos (by rw [I.len]; exact hi)]
    · exact I.done j h y' (by omega) h1 h2
  rest j hj := by
    rw [List.getElem?_set_ne (by omega)]
    exact I.rest j (by omega)
set_option maxHeartbeats 4000000 in
theorem c8f {M : Nat} (bb : H'.get kb = .rw [.int .i64 p, .slice (some ad) hs.length c] 39 false []) (bf : H'.get kf = .rw [.int .i64 p, .slice (some ⟨k, 0, none⟩) hs.length (OPEN + 3)] 39 false []) (bk : H'.get k = .rw (hsE.fl hs) 72 true []) (hr : Rx k hsE H' (some ad) hs) (r1 : Rx k intE H' (some ⟨b1, 0, none⟩) q) (ok : BilOk p hs) (lq : q.length = hs.length)
    (hlt : kb < H'.size ∧ kf < H'.size ∧ k < H'.size) (hne : kb ≠ k ∧ kf ≠ k) (bq : ∀ x ∈ q, 0 ≤ x ∧ x ≤ 1000)
    (g7 : gt 256 e 7 = .pointer (some ⟨kb, 0, none⟩)) (g22 : gt 256 e 22 = .pointer (some ⟨kf, 0, none⟩)) (g9 : gt 256 e 9 = .slice (some ⟨b1, 0, none⟩) hs.length c1) (hM : 1000 ≤ M) (hL : L ≤ k) :
    W tabA Try.prog M none (sub [true, true, true, true, true, true, true, true, true, true, true, true, true, true, true, true, false] (bodyOf Try.f8)) L ⟨256, e, H', []⟩ (endK 256 [] fun e' G => Keep 256 [9, 22] e e' ∧ FrX k H' G ∧ ∃ l, G.get k = .rw (hsE.fl l) 72 true [] ∧ FrI hs q hs.length l) := by
  obtain ⟨N, rfl⟩ : ∃ N, M = N + 1000 := ⟨M - 1000, by omega⟩
  simp only [Try.f8,bodyOf,sub_nil,sub_seq0,sub_seq1,sub_block,sub_loop,sub_cond0,sub_cond1]
  have hlen := ok.len
  simp (disch := (first | (simp only [ne_eq,Nat.reduceEqDiff,not_false_eq_true,Nat.reduceLT]; done) | omega | (simp only [yz] <;> omega) | fail)) only [↓yp,yq0,yq1,yq2,yq3,yq4,yl,ys0,ys1,Nat.reduceAdd,Nat.reduceMul,Nat.reduceSub,Nat.reduceBEq,Nat.reduceEqDiff,Nat.reduceLT,Nat.reduceLeDiff,reduceIte,Int.reduceAdd,Int.reduceSub,Int.reduceMul,Int.reduceLT,Int.reduceLE,Int.reduceEq,Int.reduceToNat,Int.reduceNeg,fitB,newC,endD,endR,yrg,g7,bb,lenV_slice st_esS_37]
  refine W_while (n := 256) 200 (fun q' e' G => ∃ (i : Nat) (l : List Hs), q' = hs.length - i ∧ i ≤ hs.length ∧ gt 256 e' 203 = .int .i64 (i : Nat) ∧ gt 256 e' 202 = .int .i64 hs.length ∧ gt 256 e' 201 = .slice (some ad) hs.length c ∧ Keep 256 [9, 22] e e' ∧ FrX k H' G ∧ G.get k = .rw (hsE.fl l) 72 true [] ∧ FrI hs q i l)
    ?_ 8 hs.length ⟨0, hs, by omega, by omega, by simp (disch := (first | (simp only [ne_eq,Nat.reduceEqDiff,not_false_eq_true,Nat.reduceLT]; done) | omega | (simp only [yz] <;> omega) | fail)) only [yg,Nat.reduceAdd,Nat.reduceEqDiff,Nat.reduceLT]; rfl, by simp (disch := (first | (simp only [ne_eq,Nat.reduceEqDiff,not_false_eq_true,Nat.reduceLT]; done) | omega | (simp only [yz] <;> omega) | fail)) only [yg,Nat.reduceAdd,Nat.reduceEqDiff,Nat.reduceLT], by simp (disch := (first | (simp only [ne_eq,Nat.reduceEqDiff,not_false_eq_true,Nat.reduceLT]; done) | omega | (simp only [yz] <;> omega) | fail)) only [yg,Nat.reduceAdd,Nat.reduceEqDiff,Nat.reduceLT], by (with_reducible (repeat (first | refine Keep.put ?_ (by decide) | refine Keep.none ?_ | assumption | exact Keep.refl _ _ _))), FrX.refl _ _, bk, ⟨rfl, fun j h y hj => by omega, fun j _ => rfl⟩⟩ (by omega) (by omega)
  rintro M q' e' G ⟨i, l, rfl, hi, t203, t202, t201, kp, fr, gk, I⟩
  have fz := fr.size
  have k9 := (kp 9 (by decide)).trans g9
  have k22 := (kp 22 (by decide)).trans g22
  simp (disch := (first | (simp only [ne_eq,Nat.reduceEqDiff,not_false_eq_true,Nat.reduceLT]; done) | omega | (simp only [yz] <;> omega) | fail)) only [↓yp,yq0,yq1,yq2,yq3,yq4,yl,ys0,ys1,Nat.reduceAdd,Nat.reduceMul,Nat.reduceSub,Nat.reduceBEq,Nat.reduceEqDiff,Nat.reduceLT,Nat.reduceLeDiff,reduceIte,Int.reduceAdd,Int.reduceSub,Int.reduceMul,Int.reduceLT,Int.reduceLE,Int.reduceEq,Int.reduceToNat,Int.reduceNeg,fitB,newC,endD,endR,yrg,t203,t202]
  refine ⟨fun hA => ?_, fun hA => ?_⟩
  · have hi' : i < hs.length := by simpa using hA
    obtain ⟨s, hs'⟩ : ∃ s, hs[i]? = some s := ⟨_, List.getElem?_eq_getElem hi'⟩
    obtain ⟨y, hy⟩ : ∃ y, q[i]? = some y := ⟨_, List.getElem?_eq_getElem (by omega)⟩
    have li : l[i]? = some s := (I.rest i (Nat.le_refl _)).trans hs'
    obtain ⟨bl, o, cc, e1, hbl, hc, hqq⟩ := (hr.frx fr).rw.at_ hs'
    cases e1
    have q1 : part cc (o + i * 3) 4 = some (.agg ⟨s.enc⟩) := part_of hqq rfl
    simp only [Hs.enc] at q1
    have hmem := List.mem_of_getElem? hs'
    have hok := ok.ok s hmem
    have hm := hok.m
    have hl := hok.l
    have bqy := bq y (List.mem_of_getElem? hy)
    have hw2 : w64 ((i : Int) + 1) = ((i + 1 : Nat) : Int) := by rw [w64_of (by omega)]; omega
    have wl : w64 (s.l - 3) = s.l - 3 := w64_of (by omega)
    have wm : w64 (s.m + 5) = s.m + 5 := w64_of (by omega)
    have bfG := (fr.same kf hlt.2.1 hne.2).trans bf
    simp (disch := (first | (simp only [ne_eq,Nat.reduceEqDiff,not_false_eq_true,Nat.reduceLT]; done) | omega | (simp only [yz] <;> omega) | fail)) only [↓yp,yq0,yq1,yq2,yq3,yq4,yl,ys0,ys1,Nat.reduceAdd,Nat.reduceMul,Nat.reduceSub,Nat.reduceBEq,Nat.reduceEqDiff,Nat.reduceLT,Nat.reduceLeDiff,reduceIte,Int.reduceAdd,Int.reduceSub,Int.reduceMul,Int.reduceLT,Int.reduceLE,Int.reduceEq,Int.reduceToNat,Int.reduceNeg,fitB,newC,endD,endR,yrg,t203,t201,A_indexSlice st_esS_37,hc,q1]
    -- the house is in a block of its own
    refine W_abs (F := fun e2 G2 => Keep 256 [9, 22, 201, 202, 203] e' e2 ∧ gt 256 e2 23 = .int .i64 (i : Nat) ∧ gt 256 e2 24 = .pointer (some ⟨G.size, 0, none⟩) ∧ G2.get G.size = .rw [.int .i64 s.v, .int .i64 s.l, .int .i64 s.m] 72 false [] ∧ G2.size = G.size + 1 ∧ ∀ j, j < G.size → G2.get j = G.get j) ⟨by (with_reducible (repeat (first | refine Keep.put ?_ (by decide) | refine Keep.none ?_ | assumption | exact Keep.refl _ _ _))), by simp (disch := (first | (simp only [ne_eq,Nat.reduceEqDiff,not_false_eq_true,Nat.reduceLT]; done) | omega | (simp only [yz] <;> omega) | fail)) only [yg,Nat.reduceAdd,Nat.reduceEqDiff,Nat.reduceLT], by simp (disch := (first | (simp only [ne_eq,Nat.reduceEqDiff,not_false_eq_true,Nat.reduceLT]; done) | omega | (simp only [yz] <;> omega) | fail)) only [yg,Nat.reduceAdd,Nat.reduceEqDiff,Nat.reduceLT], by simp (disch := (first | (simp only [ne_eq,Nat.reduceEqDiff,not_false_eq_true,Nat.reduceLT]; done) | omega | (simp only [yz] <;> omega) | fail)) only [yg,Nat.reduceAdd,Nat.reduceEqDiff,Nat.reduceLT], by (first | omega | (simp only [yz] <;> omega)), fun j hj => by simp (disch := (first | (simp only [ne_eq,Nat.reduceEqDiff,not_false_eq_true,Nat.reduceLT]; done) | omega | (simp only [yz] <;> omega) | fail)) only [yg,Nat.reduceAdd,Nat.reduceEqDiff,Nat.reduceLT]⟩ ?_
    rintro e2 G2 ⟨kp2, t23, t24, b24, z2, s2⟩
    have m9 := (kp2 9 (by decide)).trans k9
    have m22 := (kp2 22 (by decide)).trans k22
    have frG2 : FrX k H' G2 := ⟨by omega, fun j h1 h2 => by rw [s2 j (by omega)]; exact fr.same j h1 h2⟩
    have bf2 := (s2 kf (by omega)).trans bfG
    have gk2 := (s2 k (by omega)).trans gk
    obtain ⟨blq, oq, ccq, eq1, hblq, hcq, hqq1⟩ := (r1.frx frG2).rw.at_ hy
    cases eq1
    have qq := cell_of hqq1
    rw [show i * intE.z = i * 1 from rfl, Nat.mul_one, Nat.zero_add] at qq
    have s203 := (kp2 203 (by decide)).trans t203
    have s202 := (kp2 202 (by decide)).trans t202
    have s201 := (kp2 201 (by decide)).trans t201
    obtain ⟨LL, hLL⟩ : ∃ x, (if s.l - 3 > 0 then s.l - 3 else 0) = x := ⟨_, rfl⟩
    obtain ⟨MM, hMM⟩ : ∃ x, (if s.m + 5 < 500 then s.m + 5 else 500) = x := ⟨_, rfl⟩
    have lln : (hsE.fl l).length = hs.length * 3 := by rw [fl_length, I.len]; rfl
    have fitL : decide (i * 3 + 1 + 1 ≤ (hsE.fl l).length) = true := decide_eq_true (by rw [lln]; omega)
    have nwL := hs_setL LL li
    have li2 : (l.set i ⟨s.v, LL, s.m⟩)[i]? = some ⟨s.v, LL, s.m⟩ := by rw [List.getElem?_set_self (by rw [I.len]; exact hi')]
    have fitM : decide (i * 3 + 2 + 1 ≤ (hsE.fl (l.set i ⟨s.v, LL, s.m⟩)).length) = true := decide_eq_true (by rw [fl_length, List.length_set, I.len]; show i * 3 + 2 + 1 ≤ hs.length * 3; omega)
    have nwM := hs_setM MM li2
    have fitM0 : decide (i * 3 + 2 + 1 ≤ (hsE.fl l).length) = true := decide_eq_true (by rw [lln]; omega)
    have nwM0 := hs_setM MM li
    have nx := I.next hs' hy
    have hb1k : b1 ≠ k := r1.ne (fun h => by rw [h] at hy; simp at hy) _ _ _ rfl
    have sub' : ∀ {l l' : List Nat} {e e' : VT}, (∀ j ∈ l', j ∈ l) → Keep 256 l e e' → Keep 256 l' e e' := fun h k j hj => k j (h j hj)
    have kp22 : Keep 256 [9, 22] e e2 := kp.trans (sub' (by decide) kp2)
    have hks : k < G2.size := by omega
    by_cases hP : s.l < y <;> by_cases hQ : y < s.m
    · have x1 : decide (s.l < y) = true := decide_eq_true hP
      have x2 : decide (y < s.m) = true := decide_eq_true hQ
      have eL : frL s y = LL := by unfold frL; rw [if_pos hP]; exact hLL
      have eM : frM s y = MM := by unfold frM; rw [if_pos hQ]; exact hMM
      refine W_draw [] rfl (by kernel_rfl) (by kernel_rfl) (by (first | omega | (simp only [yz] <;> omega))) ?_
      simp (disch := (first | (simp only [ne_eq,Nat.reduceEqDiff,not_false_eq_true,Nat.reduceLT]; done) | omega | (simp only [yz] <;> omega) | fail)) only [↓yp,yq0,yq1,yq2,yq3,yq4,yl,ys0,ys1,Nat.reduceAdd,Nat.reduceMul,Nat.reduceSub,Nat.reduceBEq,Nat.reduceEqDiff,Nat.reduceLT,Nat.reduceLeDiff,reduceIte,Int.reduceAdd,Int.reduceSub,Int.reduceMul,Int.reduceLT,Int.reduceLE,Int.reduceEq,Int.reduceToNat,Int.reduceNeg,fitB,newC,endD,endR,yrg,m9,t23,t24,b24,A_indexSlice st_esS_40,hcq,qq,x1,m22,bf2,gk2,A_indexSlice st_esS_37,A_max,mm_max,wl,hLL,fitL,nwL]
      refine W_draw [] rfl (by kernel_rfl) (by kernel_rfl) (by (first | omega | (simp only [yz] <;> omega))) ?_
      simp (disch := (first | (simp only [ne_eq,Nat.reduceEqDiff,not_false_eq_true,Nat.reduceLT]; done) | omega | (simp only [yz] <;> omega) | fail)) only [↓yp,yq0,yq1,yq2,yq3,yq4,yl,ys0,ys1,Nat.reduceAdd,Nat.reduceMul,Nat.reduceSub,Nat.reduceBEq,Nat.reduceEqDiff,Nat.reduceLT,Nat.reduceLeDiff,reduceIte,Int.reduceAdd,Int.reduceSub,Int.reduceMul,Int.reduceLT,Int.reduceLE,Int.reduceEq,Int.reduceToNat,Int.reduceNeg,fitB,newC,endD,endR,yrg,m9,t23,t24,b24,A_indexSlice st_esS_40,hcq,qq,x2,s203,hw2,m22,bf2,A_indexSlice st_esS_37,A_min,mm_min,wm,hMM,fitM,nwM]
      exact ⟨hs.length - (i + 1), by omega, i + 1, l.set i ⟨s.v, frL s y, frM s y⟩, rfl, by omega, by simp (disch := (first | (simp only [ne_eq,Nat.reduceEqDiff,not_false_eq_true,Nat.reduceLT]; done) | omega | (simp only [yz] <;> omega) | fail)) only [yg,Nat.reduceAdd,Nat.reduceEqDiff,Nat.reduceLT], by simp (disch := (first | (simp only [ne_eq,Nat.reduceEqDiff,not_false_eq_true,Nat.reduceLT]; done) | omega | (simp only [yz] <;> omega) | fail)) only [yg,Nat.reduceAdd,Nat.reduceEqDiff,Nat.reduceLT,s202], by simp (disch := (first | (simp only [ne_eq,Nat.reduceEqDiff,not_false_eq_true,Nat.reduceLT]; done) | omega | (simp only [yz] <;> omega) | fail)) only [yg,Nat.reduceAdd,Nat.reduceEqDiff,Nat.reduceLT,s201], by (with_reducible (repeat (first | refine Keep.put ?_ (by decide) | refine Keep.none ?_ | assumption | exact Keep.refl _ _ _))), (frG2.put _).put _, by rw [get_put_same (by rw [size_put]; exact hks), eL, eM, List.set_set], nx⟩
    · have x1 : decide (s.l < y) = true := decide_eq_true hP
      have x2 : decide (y < s.m) = false := decide_eq_false hQ
      have eL : frL s y = LL := by unfold frL; rw [if_pos hP]; exact hLL
      have eM : frM s y = s.m := by unfold frM; rw [if_neg hQ]
      refine W_draw [] rfl (by kernel_rfl) (by kernel_rfl) (by (first | omega | (simp only [yz] <;> omega))) ?_
      simp (disch := (first | (simp only [ne_eq,Nat.reduceEqDiff,not_false_eq_true,Nat.reduceLT]; done) | omega | (simp only [yz] <;> omega) | fail)) only [↓yp,yq0,yq1,yq2,yq3,yq4,yl,ys0,ys1,Nat.reduceAdd,Nat.reduceMul,Nat.reduceSub,Nat.reduceBEq,Nat.reduceEqDiff,Nat.reduceLT,Nat.reduceLeDiff,reduceIte,Int.reduceAdd,Int.reduceSub,Int.reduceMul,Int.reduceLT,Int.reduceLE,Int.reduceEq,Int.reduceToNat,Int.reduceNeg,fitB,newC,endD,endR,yrg,m9,t23,t24,b24,A_indexSlice st_esS_40,hcq,qq,x1,m22,bf2,gk2,A_indexSlice st_esS_37,A_max,mm_max,wl,hLL,fitL,nwL]
      refine W_draw [] rfl (by kernel_rfl) (by kernel_rfl) (by (first | omega | (simp only [yz] <;> omega))) ?_
      simp (disch := (first | (simp only [ne_eq,Nat.reduceEqDiff,not_false_eq_true,Nat.reduceLT]; done) | omega | (simp only [yz] <;> omega) | fail)) only [↓yp,yq0,yq1,yq2,yq3,yq4,yl,ys0,ys1,Nat.reduceAdd,Nat.reduceMul,Nat.reduceSub,Nat.reduceBEq,Nat.reduceEqDiff,Nat.reduceLT,Nat.reduceLeDiff,reduceIte,Int.reduceAdd,Int.reduceSub,Int.reduceMul,Int.reduceLT,Int.reduceLE,Int.reduceEq,Int.reduceToNat,Int.reduceNeg,fitB,newC,endD,endR,yrg,m9,t23,t24,b24,A_indexSlice st_esS_40,hcq,qq,x2,s203,hw2]
      exact ⟨hs.length - (i + 1), by omega, i + 1, l.set i ⟨s.v, frL s y, frM s y⟩, rfl, by omega, by simp (disch := (first | (simp only [ne_eq,Nat.reduceEqDiff,not_false_eq_true,Nat.reduceLT]; done) | omega | (simp only [yz] <;> omega) | fail)) only [yg,Nat.reduceAdd,Nat.reduceEqDiff,Nat.reduceLT], by simp (disch := (first | (simp only [ne_eq,Nat.reduceEqDiff,not_false_eq_true,Nat.reduceLT]; done) | omega | (simp only [yz] <;> omega) | fail)) only [yg,Nat.reduceAdd,Nat.reduceEqDiff,Nat.reduceLT,s202], by simp (disch := (first | (simp only [ne_eq,Nat.reduceEqDiff,not_false_eq_true,Nat.reduceLT]; done) | omega | (simp only [yz] <;> omega) | fail)) only [yg,Nat.reduceAdd,Nat.reduceEqDiff,Nat.reduceLT,s201], by (with_reducible (repeat (first | refine Keep.put ?_ (by decide) | refine Keep.none ?_ | assumption | exact Keep.refl _ _ _))), frG2.put _, by rw [get_put_same hks, eL, eM], nx⟩
    · have x1 : decide (s.l < y) = false := decide_eq_false hP
      have x2 : decide (y < s.m) = true := decide_eq_true hQ
      have eL : frL s y = s.l := by unfold frL; rw [if_neg hP]
      have eM : frM s y = MM := by unfold frM; rw [if_pos hQ]; exact hMM
      refine W_draw [] rfl (by kernel_rfl) (by kernel_rfl) (by (first | omega | (simp only [yz] <;> omega))) ?_
      simp (disch := (first | (simp only [ne_eq,Nat.reduceEqDiff,not_false_eq_true,Nat.reduceLT]; done) | omega | (simp only [yz] <;> omega) | fail)) only [↓yp,yq0,yq1,yq2,yq3,yq4,yl,ys0,ys1,Nat.reduceAdd,Nat.reduceMul,Nat.reduceSub,Nat.reduceBEq,Nat.reduceEqDiff,Nat.reduceLT,Nat.reduceLeDiff,reduceIte,Int.reduceAdd,Int.reduceSub,Int.reduceMul,Int.reduceLT,Int.reduceLE,Int.reduceEq,Int.reduceToNat,Int.reduceNeg,fitB,newC,endD,endR,yrg,m9,t23,t24,b24,A_indexSlice st_esS_40,hcq,qq,x1]
      refine W_draw [] rfl (by kernel_rfl) (by kernel_rfl) (by (first | omega | (simp only [yz] <;> omega))) ?_
      simp (disch := (first | (simp only [ne_eq,Nat.reduceEqDiff,not_false_eq_true,Nat.reduceLT]; done) | omega | (simp only [yz] <;> omega) | fail)) only [↓yp,yq0,yq1,yq2,yq3,yq4,yl,ys0,ys1,Nat.reduceAdd,Nat.reduceMul,Nat.reduceSub,Nat.reduceBEq,Nat.reduceEqDiff,Nat.reduceLT,Nat.reduceLeDiff,reduceIte,Int.reduceAdd,Int.reduceSub,Int.reduceMul,Int.reduceLT,Int.reduceLE,Int.reduceEq,Int.reduceToNat,Int.reduceNeg,fitB,newC,endD,endR,yrg,m9,t23,t24,b24,A_indexSlice st_esS_40,hcq,qq,x2,s203,hw2,m22,bf2,A_indexSlice st_esS_37,A_min,mm_min,wm,hMM,gk2,fitM0,nwM0]
      exact ⟨hs.length - (i + 1), by omega, i + 1, l.set i ⟨s.v, frL s y, frM s y⟩, rfl, by omega, by simp (disch := (first | (simp only [ne_eq,Nat.reduceEqDiff,not_false_eq_true,Nat.reduceLT]; done) | omega | (simp only [yz] <;> omega) | fail)) only [yg,Nat.reduceAdd,Nat.reduceEqDiff,Nat.reduceLT], by simp (disch := (first | (simp only [ne_eq,Nat.reduceEqDiff,not_false_eq_true,Nat.reduceLT]; done) | omega | (simp only [yz] <;> omega) | fail)) only [yg,Nat.reduceAdd,Nat.reduceEqDiff,Nat.reduceLT,s202], by simp (disch := (first | (simp only [ne_eq,Nat.reduceEqDiff,not_false_eq_true,Nat.reduceLT]; done) | omega | (simp only [yz] <;> omega) | fail)) only [yg,Nat.reduceAdd,Nat.reduceEqDiff,Nat.reduceLT,s201], by (with_reducible (repeat (first | refine Keep.put ?_ (by decide) | refine Keep.none ?_ | assumption | exact Keep.refl _ _ _))), frG2.put _, by rw [get_put_same hks, eL, eM], nx⟩
    · have x1 : decide (s.l < y) = false := decide_eq_false hP
      have x2 : decide (y < s.m) = false := decide_eq_false hQ
      have eL : frL s y = s.l := by unfold frL; rw [if_neg hP]
      have eM : frM s y = s.m := by unfold frM; rw [if_neg hQ]
      refine W_draw [] rfl (by kernel_rfl) (by kernel_rfl) (by (first | omega | (simp only [yz] <;> omega))) ?_
      simp (disch := (first | (simp only [ne_eq,Nat.reduceEqDiff,not_false_eq_true,Nat.reduceLT]; done) | omega | (simp only [yz] <;> omega) | fail)) only [↓yp,yq0,yq1,yq2,yq3,yq4,yl,ys0,ys1,Nat.reduceAdd,Nat.reduceMul,Nat.reduceSub,Nat.reduceBEq,Nat.reduceEqDiff,Nat.reduceLT,Nat.reduceLeDiff,reduceIte,Int.reduceAdd,Int.reduceSub,Int.reduceMul,Int.reduceLT,Int.reduceLE,Int.reduceEq,Int.reduceToNat,Int.reduceNeg,fitB,newC,endD,endR,yrg,m9,t23,t24,b24,A_indexSlice st_esS_40,hcq,qq,x1]
      refine W_draw [] rfl (by kernel_rfl) (by kernel_rfl) (by (first | omega | (simp only [yz] <;> omega))) ?_
      simp (disch := (first | (simp only [ne_eq,Nat.reduceEqDiff,not_false_eq_true,Nat.reduceLT]; done) | omega | (simp only [yz] <;> omega) | fail)) only [↓yp,yq0,yq1,yq2,yq3,yq4,yl,ys0,ys1,Nat.reduceAdd,Nat.reduceMul,Nat.reduceSub,Nat.reduceBEq,Nat.reduceEqDiff,Nat.reduceLT,Nat.reduceLeDiff,reduceIte,Int.reduceAdd,Int.reduceSub,Int.reduceMul,Int.reduceLT,Int.reduceLE,Int.reduceEq,Int.reduceToNat,Int.reduceNeg,fitB,newC,endD,endR,yrg,m9,t23,t24,b24,A_indexSlice st_esS_40,hcq,qq,x2,s203,hw2]
      exact ⟨hs.length - (i + 1), by omega, i + 1, l.set i ⟨s.v, frL s y, frM s y⟩, rfl, by omega, by simp (disch := (first | (simp only [ne_eq,Nat.reduceEqDiff,not_false_eq_true,Nat.reduceLT]; done) | omega | (simp only [yz] <;> omega) | fail)) only [yg,Nat.reduceAdd,Nat.reduceEqDiff,Nat.reduceLT], by simp (disch := (first | (simp only [ne_eq,Nat.reduceEqDiff,not_false_eq_true,Nat.reduceLT]; done) | omega | (simp only [yz] <;> omega) | fail)) only [yg,Nat.reduceAdd,Nat.reduceEqDiff,Nat.reduceLT,s202], by simp (disch := (first | (simp only [ne_eq,Nat.reduceEqDiff,not_false_eq_true,Nat.reduceLT]; done) | omega | (simp only [yz] <;> omega) | fail)) only [yg,Nat.reduceAdd,Nat.reduceEqDiff,Nat.reduceLT,s201], by (with_reducible (repeat (first | refine Keep.put ?_ (by decide) | refine Keep.none ?_ | assumption | exact Keep.refl _ _ _))), frG2, by rw [eL, eM, set_self li]; exact gk2, nx⟩
  · have hi' : i = hs.length := by have : ¬ ((i : Int) < hs.length) := by simpa using hA
                                   omega
    subst hi'
    simp (disch := (first | (simp only [ne_eq,Nat.reduceEqDiff,not_false_eq_true,Nat.reduceLT]; done) | omega | (simp only [yz] <;> omega) | fail)) only [↓yp,yq0,yq1,yq2,yq3,yq4,yl,ys0,ys1,Nat.reduceAdd,Nat.reduceMul,Nat.reduceSub,Nat.reduceBEq,Nat.reduceEqDiff,Nat.reduceLT,Nat.reduceLeDiff,reduceIte,Int.reduceAdd,Int.reduceSub,Int.reduceMul,Int.reduceLT,Int.reduceLE,Int.reduceEq,Int.reduceToNat,Int.reduceNeg,fitB,newC,endD,endR,yrg]
    exact ⟨by (with_reducible (repeat (first | refine Keep.put ?_ (by decide) | refine Keep.none ?_ | assumption | exact Keep.refl _ _ _))), fr, l, gk, I⟩
end
end Go.Am
/- FeeMore: from the appeal to the end. -/
namespace Go.Am
open Go.Proofs
variable {T : Tab} {P : Program} {N L : Nat} {H H' H'' : AHeap} {Q : Bool → Value → AHeap → Prop}
theorem bid_sum {hs : List Hs} {q : List Int} {k : Int} (I : BidI hs q k) : isum (hs.map Hs.l) ≤ isum q ∧ isum q ≤ isum (hs.map Hs.m) := by
  have h1 := isum_lin (r := List.replicate q.length 0) (p := q) (f := hs.map Hs.l) (c := 1) (by rw [List.length_replicate, List.length_map, I.len]) (by rw [List.length_map, I.len]) fun i x y z e1 e2 e3 => by
    rw [List.getElem?_replicate] at e1
    have hx : (0 : Int) = x := by split at e1 <;> simp_all
    rw [List.getElem?_map] at e3
    obtain ⟨h, hh, rfl⟩ := Option.map_eq_some_iff.1 e3
    have := I.bd i h y hh e2
    omega
  have h2 := isum_lin (r := List.replicate q.length 0) (p := hs.map Hs.m) (f := q) (c := 1) (by rw [List.length_replicate]) (by rw [List.length_map, I.len]) fun i x y z e1 e2 e3 => by
    rw [List.getElem?_replicate] at e1
    have hx : (0 : Int) = x := by split at e1 <;> simp_all
    rw [List.getElem?_map] at e2
    obtain ⟨h, hh, rfl⟩ := Option.map_eq_some_iff.1 e2
    have := I.bd i h z hh e3
    omega
  rw [isum_zero] at h1 h2
  omega
theorem fr_ok {h : Hs} {y : Int} (k : h.Ok) : Hs.Ok ⟨h.v, frL h y, frM h y⟩ where
  v := k.v
  m := by have := k.m; show 0 ≤ frM h y ∧ frM h y ≤ 500; unfold frM; split <;> (try split) <;> omega
  l := by
    have := k.m
    have := k.l
    show 0 ≤ frL h y ∧ frL h y ≤ frM h y
    unfold frL frM
    constructor
    · split <;> (try split) <;> omega
    · split <;> split <;> (try split) <;> (try split) <;> omega
theorem FrI.free {hs l : List Hs} {q : List Int} {k : Int} (F : FrI hs q hs.length l) (I : BidI hs q k) (ok : ∀ h ∈ hs, h.Ok) : BidI l q (isum q - isum (l.map Hs.l)) ∧ ∀ x ∈ l, x.Ok := by
  have at_ : ∀ {i : Nat} {x : Hs}, l[i]? = some x → ∃ h y, hs[i]? = some h ∧ q[i]? = some y ∧ x = ⟨h.v, frL h y, frM h y⟩ := fun {i x} h => by
    have hi := (List.getElem?_eq_some_iff.1 h).1
    rw [F.len] at hi
    have e1 : hs[i]? = some _ := List.getElem?_eq_getElem hi
    have e2 : q[i]? = some _ := List.getElem?_eq_getElem (by rw [I.len]; exact hi)
    have := F.done i _ _ hi e1 e2
    rw [h] at this
    exact ⟨_, _, e1, e2, Option.some.inj this⟩
  refine ⟨bid_free I F.len fun i a a' y h1 h2 h3 => ?_, fun x hx => ?_⟩
  · obtain ⟨g, z, e1, e2, rfl⟩ := at_ h2
    rw [h1] at e1; cases e1
    rw [h3] at e2; cases e2
    have k := ok a (List.mem_of_getElem? h1)
    have := k.m
    have := k.l
    refine ⟨rfl, ?_, ?_⟩
    · show frL a y = a.l ∨ frL a y ≤ a.l ∧ a.l < y
      unfold frL
      split
      · right; refine ⟨?_, by omega⟩; split <;> omega
      · left; rfl
    · show frM a y = a.m ∨ a.m ≤ frM a y ∧ y < a.m
      unfold frM
      split
      · right; refine ⟨?_, by omega⟩; split <;> omega
      · left; rfl
  · obtain ⟨i, hi⟩ := List.getElem?_of_mem hx
    obtain ⟨g, z, e1, e2, rfl⟩ := at_ hi
    exact fr_ok (ok g (List.mem_of_getElem? e1))
section
variable {kb h : Nat} {hs : List Hs} {p z : Int} {ad : Addr} {c b1 c1 : Nat} {q : List Int} {e : VT}
set_option maxHeartbeats 8000000 in
theorem c8z {M : Nat} (bb : H'.get kb = .rw [.int .i64 p, .slice (some ad) hs.length c] 39 false []) (hlt : kb < H'.size) (bil : Bil H' (some ad) hs p) (hw : isum (hs.map Hs.l) ≤ p ∧ p ≤ isum (hs.map Hs.m)) (r1 : Rw intE H' (some ⟨b1, 0, none⟩) q) (I : BidI hs q (p - isum (hs.map Hs.l))) (hh : h < hs.length)
    (g2 : gt 256 e 2 = .int .i64 z) (g7 : gt 256 e 7 = .pointer (some ⟨kb, 0, none⟩)) (g8 : gt 256 e 8 = .int .i64 (h : Nat)) (g9 : gt 256 e 9 = .slice (some ⟨b1, 0, none⟩) hs.length c1) (hM : 9000 ≤ M) (hL : L ≤ H'.size) :
    W tabA Try.prog M none (sub [true, true, true, true, true, true, true, true, true, true, true] (bodyOf Try.f8)) L ⟨256, e, H', []⟩ (retK tabA L [.tmp 6] fun u _ => u = .bool true) := by
  obtain ⟨N, rfl⟩ : ∃ N, M = N + 9000 := ⟨M - 9000, by omega⟩
  have haw := fun (N : Nat) (H : AHeap) => awake_known (ex := aexec tabA Try.prog N) (H := H)
  have ok := bil.ok
  have hlen := ok.len
  obtain ⟨s, hs'⟩ : ∃ s, hs[h]? = some s := ⟨_, List.getElem?_eq_getElem hh⟩
  have hsv := (ok.ok s (List.mem_of_getElem? hs')).v
  have h44 := fun (N : Nat) (H : AHeap) => c44 (N := N) (H := H) (v := z) (n := 60) (by omega)
  have hwr := wrapV_in (v := z) (n := 60) (by omega)
  obtain ⟨wz, hwz⟩ : ∃ x, wrapV z 60 = x := ⟨_, rfl⟩
  rw [hwz] at h44 hwr
  have w1 : w64 (s.v + wz) = s.v + wz := w64_of (by omega)
  obtain ⟨v, hv⟩ : ∃ x, (if s.v + wz < 1000 then s.v + wz else 1000) = x := ⟨_, rfl⟩
  have hv1 : s.v ≤ v ∧ v ≤ 1000 := by rw [← hv]; split <;> omega
  obtain ⟨bl, o, cc, e1, hbl, hc, hqq⟩ := bil.rw.at_ hs'
  cases e1
  have q0 : cc[o + h * 3]? = some (.int .i64 s.v) := cell0_of (z := 2) hqq
  obtain ⟨P4, hP4⟩ : ∃ c, sub [true, true, true, true, true, true, true, true, true, true, true, true, true, true, false] (bodyOf Try.f8) = c := ⟨_, rfl⟩
  obtain ⟨P6, hP6⟩ : ∃ c, sub [true, true, true, true, true, true, true, true, true, true, true, true, true, true, true, true, false] (bodyOf Try.f8) = c := ⟨_, rfl⟩
  have h8o := fun (G : AHeap) (b2 c2 : Nat) (q' : List Int) (e : VT) (M : Nat) (r1 : Rw intE G (some ⟨b1, 0, none⟩) q) (r2 : Rw intE G (some ⟨b2, 0, none⟩) q') (l2 : q'.length = hs.length) (g9 : gt 256 e 9 = .slice (some ⟨b1, 0, none⟩) hs.length c1) (g19 : gt 256 e 19 = .slice (some ⟨b2, 0, none⟩) hs.length c2) (g8 : gt 256 e 8 = .int .i64 (h : Nat)) hle (hM : 600 ≤ M) (hL : L ≤ G.size) => c8o r1 r2 I.len l2 hlen.2 g9 g19 g8 hle hM hL
  have h8f := fun (G : AHeap) (kf k : Nat) (e : VT) (M : Nat) bb bf bk hr r1 hlt hne bq g7 g22 g9 (hM : 1000 ≤ M) (hL : L ≤ k) => c8f (H' := G) (kb := kb) (kf := kf) (k := k) (hs := hs) (p := p) (ad := ⟨bl, o, none⟩) (c := c) (b1 := b1) (c1 := c1) (q := q) (e := e) (M := M) (L := L) bb bf bk hr r1 ok I.len hlt hne bq g7 g22 g9 hM hL
  rw [hP4] at h8o
  rw [hP6] at h8f
  simp only [Try.f8,bodyOf,sub_nil,sub_seq0,sub_seq1,sub_block,sub_loop,sub_cond0,sub_cond1] at hP4 hP6 ⊢
  rw [hP4, hP6]
  clear hP4 hP6
  simp (disch := (first | (simp only [ne_eq,Nat.reduceEqDiff,not_false_eq_true,Nat.reduceLT]; done) | omega | (simp only [yz] <;> omega) | fail)) only [↓yp,yq0,yq1,yq2,yq3,yq4,yl,ys0,ys1,Nat.reduceAdd,Nat.reduceMul,Nat.reduceSub,Nat.reduceBEq,Nat.reduceEqDiff,Nat.reduceLT,Nat.reduceLeDiff,reduceIte,Int.reduceAdd,Int.reduceSub,Int.reduceMul,Int.reduceLT,Int.reduceLE,Int.reduceEq,Int.reduceToNat,Int.reduceNeg,fitB,newC,endD,endR,yrg]
  refine W_draw [] rfl (by kernel_rfl) (by kernel_rfl) (by (first | omega | (simp only [yz] <;> omega))) ?_
  simp (disch := (first | (simp only [ne_eq,Nat.reduceEqDiff,not_false_eq_true,Nat.reduceLT]; done) | omega | (simp only [yz] <;> omega) | fail)) only [↓yp,yq0,yq1,yq2,yq3,yq4,yl,ys0,ys1,Nat.reduceAdd,Nat.reduceMul,Nat.reduceSub,Nat.reduceBEq,Nat.reduceEqDiff,Nat.reduceLT,Nat.reduceLeDiff,reduceIte,Int.reduceAdd,Int.reduceSub,Int.reduceMul,Int.reduceLT,Int.reduceLE,Int.reduceEq,Int.reduceToNat,Int.reduceNeg,fitB,newC,endD,endR,yrg,g2,g7,g8,bb,A_indexSlice st_esS_37,hc,q0,h44,w1,A_min,mm_min,hv]
  refine c31 bil hw hs' (by omega) (by omega) (by omega) ?_
  intro b2 q0' q' y y' H1 fr1 hb2 r2 I0 I' hy0 hy'
  have e0 := bid_unique ok.ok I I0
  subst e0
  have f1 := fr1.size
  have bb1 := (fr1.same kb hlt).trans bb
  have ok' := ok_set ok hs' (v := v) (by omega)
  have eln : (hs.set h ⟨v, s.l, s.m⟩).length = hs.length := List.length_set
  have l2 : q'.length = hs.length := by rw [I'.len, eln]
  have el : (hs.set h ⟨v, s.l, s.m⟩).map Hs.l = hs.map Hs.l := map_same hs' rfl
  have sq : isum q0' = p := by rw [I.sum]; omega
  have sq' : isum q' = p := by rw [I'.sum, el]; omega
  have hle : ∀ (i : Nat) (y y' : Int), i ≠ h → q0'[i]? = some y → q'[i]? = some y' → y' ≤ y := fun i y y' hi h1 h2 => bid_mono ok.ok ok'.ok I I' eln h (fun i a a' e1 e2 => by
    rw [List.getElem?_set] at e2
    split at e2
    · rename_i e
      subst e
      rw [hs'] at e1; cases e1
      cases e2
      exact ⟨rfl, rfl, hv1.1, fun h => absurd rfl h⟩
    · rw [e1] at e2; cases e2
      exact ⟨rfl, rfl, Int.le_refl _, fun _ => rfl⟩) (by rw [sq, sq']) hi h1 h2
  have hyy : y ≤ y' := by
    refine Classical.byContradiction fun hc => ?_
    obtain ⟨j, z1, z2, hj, e1, e2, hz⟩ := isum_less (by rw [I.len, l2]) (by rw [sq, sq']) hy' hy0 (by omega)
    have := hle j z2 z1 hj e2 e1
    omega
  have bnd : ∀ {hs : List Hs} {q : List Int} {k : Int}, (∀ h ∈ hs, h.Ok) → BidI hs q k → ∀ x ∈ q, 0 ≤ x ∧ x ≤ 1000 := fun {hs q k} ok I x hx => by
    obtain ⟨i, hi⟩ := List.getElem?_of_mem hx
    have hil := (List.getElem?_eq_some_iff.1 hi).1
    obtain ⟨g, hg⟩ : ∃ g, hs[i]? = some g := ⟨_, List.getElem?_eq_getElem (by rw [← I.len]; exact hil)⟩
    have b1 := I.bd i g x hg hi
    have b2 := (ok g (List.mem_of_getElem? hg)).l
    have b3 := (ok g (List.mem_of_getElem? hg)).m
    omega
  have bq := bnd ok.ok I
  have bq' := bnd ok'.ok I'
  have h40 := fun (N : Nat) => c40 (N := N) (cap := OPEN + 1) r2 (by omega) fun x hx => by have := bq' x hx; omega
  rw [sq', l2] at h40
  obtain ⟨bl1, o1, cc1, e1, hbl1, hc1, hqq1⟩ := (r1.fr fr1).at_ hy0
  cases e1
  obtain ⟨bl2, o2, cc2, e2, hbl2, hc2, hqq2⟩ := r2.at_ hy'
  cases e2
  have q1 := cell_of hqq1
  have q2 := cell_of hqq2
  rw [show h * intE.z = h * 1 from rfl, Nat.mul_one, Nat.zero_add] at q1 q2
  have by1 := bq y (List.mem_of_getElem? hy0)
  have by2 := bq' y' (List.mem_of_getElem? hy')
  have wy : w64 (y - y') = y - y' := w64_of (by omega)
  have x0 : ∀ z : Int, decide (z = z) = true := fun z => by simp
  have x1 : decide (0 < y - y') = false := by simp; omega
  simp (disch := (first | (simp only [ne_eq,Nat.reduceEqDiff,not_false_eq_true,Nat.reduceLT]; done) | omega | (simp only [yz] <;> omega) | fail)) only [↓yp,yq0,yq1,yq2,yq3,yq4,yl,ys0,ys1,Nat.reduceAdd,Nat.reduceMul,Nat.reduceSub,Nat.reduceBEq,Nat.reduceEqDiff,Nat.reduceLT,Nat.reduceLeDiff,reduceIte,Int.reduceAdd,Int.reduceSub,Int.reduceMul,Int.reduceLT,Int.reduceLE,Int.reduceEq,Int.reduceToNat,Int.reduceNeg,fitB,newC,endD,endR,yrg]
  refine W_draw [] rfl (by kernel_rfl) (by kernel_rfl) (by (first | omega | (simp only [yz] <;> omega))) ?_
  simp (disch := (first | (simp only [ne_eq,Nat.reduceEqDiff,not_false_eq_true,Nat.reduceLT]; done) | omega | (simp only [yz] <;> omega) | fail)) only [↓yp,yq0,yq1,yq2,yq3,yq4,yl,ys0,ys1,Nat.reduceAdd,Nat.reduceMul,Nat.reduceSub,Nat.reduceBEq,Nat.reduceEqDiff,Nat.reduceLT,Nat.reduceLeDiff,reduceIte,Int.reduceAdd,Int.reduceSub,Int.reduceMul,Int.reduceLT,Int.reduceLE,Int.reduceEq,Int.reduceToNat,Int.reduceNeg,fitB,newC,endD,endR,yrg,g7,g8,g9,bb1,x0,x1,lenV_slice st_esS_40,h40,A_indexSlice st_esS_40,hc1,hc2,q1,q2,wy]
  have sub' : ∀ {l l' : List Nat} {e e' : VT}, (∀ j ∈ l', j ∈ l) → Keep 256 l e e' → Keep 256 l' e e' := fun h k j hj => k j (h j hj)
  refine W_abs (F := fun e2 G2 => Keep 256 [7, 8, 9] e e2 ∧ gt 256 e2 19 = .slice (some ⟨b2, 0, none⟩) hs.length (OPEN + 1) ∧ G2 = H1) ⟨by (with_reducible (repeat (first | refine Keep.put ?_ (by decide) | refine Keep.none ?_ | assumption | exact Keep.refl _ _ _))), by simp (disch := (first | (simp only [ne_eq,Nat.reduceEqDiff,not_false_eq_true,Nat.reduceLT]; done) | omega | (simp only [yz] <;> omega) | fail)) only [yg,Nat.reduceAdd,Nat.reduceEqDiff,Nat.reduceLT], rfl⟩ ?_
  rintro e2 G2 ⟨kp2, t19, rfl⟩
  have m7 := (kp2 7 (by decide)).trans g7
  have m8 := (kp2 8 (by decide)).trans g8
  have m9 := (kp2 9 (by decide)).trans g9
  refine W_end (h8o G2 b2 (OPEN + 1) q' e2 _ (r1.fr fr1) r2 l2 m9 t19 m8 hle (by omega) (by omega)) ?_
  rintro e3 G3 ⟨kp3, rfl⟩
  have n7 := (kp3 7 (by decide)).trans m7
  have n9 := (kp3 9 (by decide)).trans m9
  simp (disch := (first | (simp only [ne_eq,Nat.reduceEqDiff,not_false_eq_true,Nat.reduceLT]; done) | omega | (simp only [yz] <;> omega) | fail)) only [↓yp,yq0,yq1,yq2,yq3,yq4,yl,ys0,ys1,Nat.reduceAdd,Nat.reduceMul,Nat.reduceSub,Nat.reduceBEq,Nat.reduceEqDiff,Nat.reduceLT,Nat.reduceLeDiff,reduceIte,Int.reduceAdd,Int.reduceSub,Int.reduceMul,Int.reduceLT,Int.reduceLE,Int.reduceEq,Int.reduceToNat,Int.reduceNeg,fitB,newC,endD,endR,yrg,n7,bb1]
  refine c22 (bil.fr fr1) (by omega) (by omega) ?_
  intro k H4 fr4 k1 k2 k3
  have f4 := fr4.size
  have bb4 := (fr4.same kb (by omega)).trans bb1
  simp (disch := (first | (simp only [ne_eq,Nat.reduceEqDiff,not_false_eq_true,Nat.reduceLT]; done) | omega | (simp only [yz] <;> omega) | fail)) only [↓yp,yq0,yq1,yq2,yq3,yq4,yl,ys0,ys1,Nat.reduceAdd,Nat.reduceMul,Nat.reduceSub,Nat.reduceBEq,Nat.reduceEqDiff,Nat.reduceLT,Nat.reduceLeDiff,reduceIte,Int.reduceAdd,Int.reduceSub,Int.reduceMul,Int.reduceLT,Int.reduceLE,Int.reduceEq,Int.reduceToNat,Int.reduceNeg,fitB,newC,endD,endR,yrg]
  refine W_abs (F := fun e4 G5 => Keep 256 [7, 9] e3 e4 ∧ gt 256 e4 22 = .pointer (some ⟨H4.size, 0, none⟩) ∧ Fr H4 G5 ∧ G5.size = H4.size + 1 ∧ G5.get H4.size = .rw [.int .i64 p, .slice (some ⟨k, 0, none⟩) hs.length (OPEN + 3)] 39 false []) ⟨by (with_reducible (repeat (first | refine Keep.put ?_ (by decide) | refine Keep.none ?_ | assumption | exact Keep.refl _ _ _))), by simp (disch := (first | (simp only [ne_eq,Nat.reduceEqDiff,not_false_eq_true,Nat.reduceLT]; done) | omega | (simp only [yz] <;> omega) | fail)) only [yg,Nat.reduceAdd,Nat.reduceEqDiff,Nat.reduceLT], by (repeat (first | exact Fr.refl _ | assumption | refine Fr.allocd ?_ _ | refine Fr.kill ?_ (by first | assumption | omega) | refine Fr.put ?_ (by first | omega | (simp only [yz] <;> omega)) _)), by (first | omega | (simp only [yz] <;> omega)), by simp (disch := (first | (simp only [ne_eq,Nat.reduceEqDiff,not_false_eq_true,Nat.reduceLT]; done) | omega | (simp only [yz] <;> omega) | fail)) only [yg,Nat.reduceAdd,Nat.reduceEqDiff,Nat.reduceLT]⟩ ?_
  rintro e4 G5 ⟨kp4, t22, fr5, z5, bf5⟩
  have bb5 := (fr5.same kb (by omega)).trans bb4
  have bk5 := (fr5.same k (by omega)).trans k3
  have u7 := (kp4 7 (by decide)).trans n7
  have u9 := (kp4 9 (by decide)).trans n9
  have frA : Fr H' G5 := (fr1.trans fr4).trans fr5
  refine W_end (h8f G5 H4.size k e4 _ bb5 bf5 bk5 ⟨bil.rw.fr frA, fun _ b' o' s' e' => by cases e'; omega⟩ ⟨r1.fr frA, fun _ b' o' s' e' => by cases e'; omega⟩ (by omega) (by omega) bq u7 t22 u9 (by omega) (by omega)) ?_
  rintro e5 G6 ⟨kp5, fx6, l, gk6, F⟩
  have f6 := fx6.size
  have bf6 := (fx6.same H4.size (by omega) (by omega)).trans bf5
  have v22 := (kp5 22 (by decide)).trans t22
  have v9 := (kp5 9 (by decide)).trans u9
  obtain ⟨If, okf⟩ := F.free I ok.ok
  have hsf := bid_sum If
  have lln := F.len
  have bilf : Bil G6 (some ⟨k, 0, none⟩) l p := ⟨Rw.of (r := []) (by omega) (by rw [gk6]; rfl) (by rw [List.append_nil]), ⟨ok.p, by omega, okf⟩⟩
  have h42 := fun (Q : Bool → Value → AHeap → Prop) (F : Nat) (hF : 6000 ≤ F) => c42 (L := L) (Q := Q) (M := F) (c := OPEN + 3) bilf (by omega) (by omega) hF
  rw [lln] at h42
  simp (disch := (first | (simp only [ne_eq,Nat.reduceEqDiff,not_false_eq_true,Nat.reduceLT]; done) | omega | (simp only [yz] <;> omega) | fail)) only [↓yp,yq0,yq1,yq2,yq3,yq4,yl,ys0,ys1,Nat.reduceAdd,Nat.reduceMul,Nat.reduceSub,Nat.reduceBEq,Nat.reduceEqDiff,Nat.reduceLT,Nat.reduceLeDiff,reduceIte,Int.reduceAdd,Int.reduceSub,Int.reduceMul,Int.reduceLT,Int.reduceLE,Int.reduceEq,Int.reduceToNat,Int.reduceNeg,fitB,newC,endD,endR,yrg,v22,bf6]
  refine h42 _ _ (by omega) ?_
  intro b9 q9 H7 fr7 hb9 r9 I9
  have e9 := bid_unique okf If (by rw [sq]; exact I9)
  subst e9
  have f7 := fr7.size
  have r17 : Rw intE H7 (some ⟨b1, 0, none⟩) q9 := (Rx.frx (k := k) ⟨r1.fr frA, fun _ b' o' s' e' => by cases e'; omega⟩ fx6).rw.fr fr7
  have h29 := fun (N : Nat) => c29 (N := N) (cap := OPEN + 1) (cap' := c1) r9 r17 (by rw [I.len]; omega)
  rw [I.len] at h29
  simp (disch := (first | (simp only [ne_eq,Nat.reduceEqDiff,not_false_eq_true,Nat.reduceLT]; done) | omega | (simp only [yz] <;> omega) | fail)) only [↓yp,yq0,yq1,yq2,yq3,yq4,yl,ys0,ys1,Nat.reduceAdd,Nat.reduceMul,Nat.reduceSub,Nat.reduceBEq,Nat.reduceEqDiff,Nat.reduceLT,Nat.reduceLeDiff,reduceIte,Int.reduceAdd,Int.reduceSub,Int.reduceMul,Int.reduceLT,Int.reduceLE,Int.reduceEq,Int.reduceToNat,Int.reduceNeg,fitB,newC,endD,endR,yrg,v9,x0,h29,haw]
end
end Go.Am
/- FeeMore: the law. -/
namespace Go.Am
open Go.Proofs
variable {T : Tab} {P : Program} {N L : Nat} {H H' H'' : AHeap} {Q : Bool → Value → AHeap → Prop}
section
variable {a : Option Addr} {cap : Nat} {bs : List Int} {x1 x2 : Int}
set_option maxHeartbeats 8000000 in
theorem c8 (hb : Bts H a bs) {F : Nat} (hF : 20000 ≤ F) :
    acall tabA (aexec tabA Try.prog F) 8 [.slice a bs.length cap, .int .i64 x1, .int .i64 x2] H = some (true, .bool true, H, H.size) := by
  obtain ⟨N, rfl⟩ : ∃ N, F = N + 20000 := ⟨F - 20000, by omega⟩
  refine call_quiet (k := 256) (rs := [.tmp 6]) rfl fn_8 rfl rfl rfl ?_ rfl
  have h8m := fun (G : AHeap) (kb : Nat) (hs : List Hs) (p : Int) (ad : Addr) (c : Nat) (e : VT) (M : Nat) (h1 : G.get kb = .rw [.int .i64 p, .slice (some ad) hs.length c] 39 false []) (h2 : Rw hsE G (some ad) hs) (h3 : BilOk p hs) (h4 : gt 256 e 7 = .pointer (some ⟨kb, 0, none⟩)) (h5 : gt 256 e 13 = .int .i64 0) (h6 : 600 ≤ M) (h7 : H.size ≤ G.size) => c8m h1 h2 h3 h4 h5 h6 h7
  have h8g := fun (G : AHeap) (n : Nat) (q q' : List Int) (b1 b2 c1 c2 : Nat) (e : VT) (M : Nat) (r1 : Rw intE G (some ⟨b1, 0, none⟩) q) (r2 : Rw intE G (some ⟨b2, 0, none⟩) q') (l1 : q.length = n) (l2 : q'.length = n) (hn : n ≤ 6) (g9 : gt 256 e 9 = .slice (some ⟨b1, 0, none⟩) n c1) (g12 : gt 256 e 12 = .slice (some ⟨b2, 0, none⟩) n c2) (g16 : gt 256 e 16 = .int .i64 0) bq hle (hM : 800 ≤ M) (hL : H.size ≤ G.size) => c8g r1 r2 l1 l2 hn g9 g12 g16 bq hle hM hL
  have h8z := fun (G : AHeap) (kb h : Nat) (hs : List Hs) (p : Int) (ad : Addr) (c b1 c1 : Nat) (q : List Int) (e : VT) (M : Nat) bb hlt bil hw r1 I hh (g2 : gt 256 e 2 = .int .i64 x2) g7 g8 g9 (hM : 9000 ≤ M) (hL : H.size ≤ G.size) => c8z (H' := G) (kb := kb) (h := h) (hs := hs) (p := p) (ad := ad) (c := c) (b1 := b1) (c1 := c1) (q := q) (e := e) (M := M) (L := H.size) bb hlt bil hw r1 I hh g2 g7 g8 g9 hM hL
  obtain ⟨P1, hP1⟩ : ∃ c, sub [true, true, true, true, true, true, true, true, true, false] (bodyOf Try.f8) = c := ⟨_, rfl⟩
  obtain ⟨P2, hP2⟩ : ∃ c, sub [true, true, true, true, true, true, true, true, true, true, false, true, true, true, true, false] (bodyOf Try.f8) = c := ⟨_, rfl⟩
  obtain ⟨P3, hP3⟩ : ∃ c, sub [true, true, true, true, true, true, true, true, true, true, true] (bodyOf Try.f8) = c := ⟨_, rfl⟩
  rw [hP1] at h8m
  rw [hP2] at h8g
  rw [hP3] at h8z
  simp only [Try.f8,bodyOf,sub_nil,sub_seq0,sub_seq1,sub_block,sub_loop,sub_cond0,sub_cond1] at hP1 hP2 hP3 ⊢
  rw [hP1, hP2, hP3]
  clear hP1 hP2 hP3
  simp (disch := (first | (simp only [ne_eq,Nat.reduceEqDiff,not_false_eq_true,Nat.reduceLT]; done) | omega | (simp only [yz] <;> omega) | fail)) only [↓yp,yq0,yq1,yq2,yq3,yq4,yl,ys0,ys1,Nat.reduceAdd,Nat.reduceMul,Nat.reduceSub,Nat.reduceBEq,Nat.reduceEqDiff,Nat.reduceLT,Nat.reduceLeDiff,reduceIte,Int.reduceAdd,Int.reduceSub,Int.reduceMul,Int.reduceLT,Int.reduceLE,Int.reduceEq,Int.reduceToNat,Int.reduceNeg,fitB,newC,endD,endR,yrg]
  refine c36 hb (Nat.le_refl _) (by omega) ?_
  intro H1 fr1 hs1 hc1
  simp (disch := (first | (simp only [ne_eq,Nat.reduceEqDiff,not_false_eq_true,Nat.reduceLT]; done) | omega | (simp only [yz] <;> omega) | fail)) only [↓yp,yq0,yq1,yq2,yq3,yq4,yl,ys0,ys1,Nat.reduceAdd,Nat.reduceMul,Nat.reduceSub,Nat.reduceBEq,Nat.reduceEqDiff,Nat.reduceLT,Nat.reduceLeDiff,reduceIte,Int.reduceAdd,Int.reduceSub,Int.reduceMul,Int.reduceLT,Int.reduceLE,Int.reduceEq,Int.reduceToNat,Int.reduceNeg,fitB,newC,endD,endR,yrg]
  refine c35 hc1 (by omega) (by omega) (by omega) (Nat.le_refl _) (by omega) ?_
  intro b c p hs H2 ok p1 p2 p3 p4 p5 rx b0 hc2 fx2
  have fr2 : Fr H H2 := fx2.above fr1 (Nat.le_refl _)
  have sz2 := fr2.size
  have hlen := ok.len
  clear hc2 fx2 hc1
  have h44 := fun (N : Nat) (H : AHeap) => c44 (N := N) (H := H) (v := x1) (n := (hs.length : Int)) (by omega)
  have hwr := wrapV_in (v := x1) (n := (hs.length : Int)) (by omega)
  obtain ⟨h, hwz⟩ : ∃ h : Nat, wrapV x1 hs.length = (h : Nat) := ⟨(wrapV x1 hs.length).toNat, by omega⟩
  rw [hwz] at h44 hwr
  simp (disch := (first | (simp only [ne_eq,Nat.reduceEqDiff,not_false_eq_true,Nat.reduceLT]; done) | omega | (simp only [yz] <;> omega) | fail)) only [↓yp,yq0,yq1,yq2,yq3,yq4,yl,ys0,ys1,Nat.reduceAdd,Nat.reduceMul,Nat.reduceSub,Nat.reduceBEq,Nat.reduceEqDiff,Nat.reduceLT,Nat.reduceLeDiff,reduceIte,Int.reduceAdd,Int.reduceSub,Int.reduceMul,Int.reduceLT,Int.reduceLE,Int.reduceEq,Int.reduceToNat,Int.reduceNeg,fitB,newC,endD,endR,yrg,lenV_slice st_esS_37,h44]
  have sub' : ∀ {l l' : List Nat} {e e' : VT}, (∀ j ∈ l', j ∈ l) → Keep 256 l e e' → Keep 256 l' e e' := fun h k j hj => k j (h j hj)
  obtain ⟨G, hG⟩ : ∃ G, (H2.alloc (.rw [.int .i64 0, .slice none 0 0] 39 false [])).put H2.size (.rw [.int .i64 p, .slice (some ⟨b, 0, none⟩) hs.length c] 39 false []) = G := ⟨_, rfl⟩
  have frG : Fr H2 G := by rw [← hG]; (repeat (first | exact Fr.refl _ | assumption | refine Fr.allocd ?_ _ | refine Fr.kill ?_ (by first | assumption | omega) | refine Fr.put ?_ (by first | omega | (simp only [yz] <;> omega)) _))
  have szG : G.size = H2.size + 1 := by rw [← hG]; (first | omega | (simp only [yz] <;> omega))
  have bb : G.get H2.size = .rw [.int .i64 p, .slice (some ⟨b, 0, none⟩) hs.length c] 39 false [] := by rw [← hG]; simp (disch := (first | (simp only [ne_eq,Nat.reduceEqDiff,not_false_eq_true,Nat.reduceLT]; done) | omega | (simp only [yz] <;> omega) | fail)) only [yg,Nat.reduceAdd,Nat.reduceEqDiff,Nat.reduceLT]
  rw [hG]
  clear hG
  have bil : Bil G (some ⟨b, 0, none⟩) hs p := ⟨rx.rw.fr frG, ok⟩
  refine c42 bil ⟨p2, p3⟩ (by omega) (by omega) ?_
  intro b1 q H3 fr3 hb1 r1 I
  have f3 := fr3.size
  have bb3 := (fr3.same H2.size (by omega)).trans bb
  have x0 : ∀ z : Int, decide (z = z) = true := fun z => by simp
  simp (disch := (first | (simp only [ne_eq,Nat.reduceEqDiff,not_false_eq_true,Nat.reduceLT]; done) | omega | (simp only [yz] <;> omega) | fail)) only [↓yp,yq0,yq1,yq2,yq3,yq4,yl,ys0,ys1,Nat.reduceAdd,Nat.reduceMul,Nat.reduceSub,Nat.reduceBEq,Nat.reduceEqDiff,Nat.reduceLT,Nat.reduceLeDiff,reduceIte,Int.reduceAdd,Int.reduceSub,Int.reduceMul,Int.reduceLT,Int.reduceLE,Int.reduceEq,Int.reduceToNat,Int.reduceNeg,fitB,newC,endD,endR,yrg,bb3,x0,lenV_slice st_esS_37,lenV_slice st_esS_40]
  refine c22 (bil.fr fr3) (by omega) (by omega) ?_
  intro kd H4 fr4 kd1 kd2 kd3
  have f4 := fr4.size
  have pp := ok.p
  have okp : BilOk (p + 1) hs := ⟨by omega, ok.len, ok.ok⟩
  have wp : w64 (p + 1) = p + 1 := w64_of (by omega)
  have bb4 := (fr4.same H2.size (by omega)).trans bb3
  simp (disch := (first | (simp only [ne_eq,Nat.reduceEqDiff,not_false_eq_true,Nat.reduceLT]; done) | omega | (simp only [yz] <;> omega) | fail)) only [↓yp,yq0,yq1,yq2,yq3,yq4,yl,ys0,ys1,Nat.reduceAdd,Nat.reduceMul,Nat.reduceSub,Nat.reduceBEq,Nat.reduceEqDiff,Nat.reduceLT,Nat.reduceLeDiff,reduceIte,Int.reduceAdd,Int.reduceSub,Int.reduceMul,Int.reduceLT,Int.reduceLE,Int.reduceEq,Int.reduceToNat,Int.reduceNeg,fitB,newC,endD,endR,yrg,wp]
  obtain ⟨G5, hG5⟩ : ∃ G5, ((H4.alloc (.rw [.int .i64 0, .slice none 0 0] 39 false [])).put H4.size (.rw [.int .i64 p, .slice (some ⟨kd, 0, none⟩) hs.length (OPEN + 3)] 39 false [])).put H4.size (.rw [.int .i64 (p + 1), .slice (some ⟨kd, 0, none⟩) hs.length (OPEN + 3)] 39 false []) = G5 := ⟨_, rfl⟩
  have fr5 : Fr H4 G5 := by rw [← hG5]; (repeat (first | exact Fr.refl _ | assumption | refine Fr.allocd ?_ _ | refine Fr.kill ?_ (by first | assumption | omega) | refine Fr.put ?_ (by first | omega | (simp only [yz] <;> omega)) _))
  have sz5 : G5.size = H4.size + 1 := by rw [← hG5]; (first | omega | (simp only [yz] <;> omega))
  rw [hG5]
  clear hG5
  have frA : Fr G G5 := (fr3.trans fr4).trans fr5
  have bb5 := (fr5.same H2.size (by omega)).trans bb4
  have kd5 := (fr5.same kd (by omega)).trans kd3
  have bil5 : Bil G5 (some ⟨kd, 0, none⟩) hs (p + 1) := ⟨Rw.of (r := []) (by omega) (by rw [kd5]; rfl) (by rw [List.append_nil]), okp⟩
  have bilA : Bil G5 (some ⟨b, 0, none⟩) hs p := bil.fr frA
  have r15 : Rw intE G5 (some ⟨b1, 0, none⟩) q := (r1.fr fr4).fr fr5
  have qsum : isum q = p := by rw [I.sum]; omega
  by_cases hm : isum (hs.map Hs.m) = p
  · have h42n := fun (N : Nat) => c42n (N := N) (c := OPEN + 3) bil5 (by unfold wi; simp; omega)
    simp (disch := (first | (simp only [ne_eq,Nat.reduceEqDiff,not_false_eq_true,Nat.reduceLT]; done) | omega | (simp only [yz] <;> omega) | fail)) only [↓yp,yq0,yq1,yq2,yq3,yq4,yl,ys0,ys1,Nat.reduceAdd,Nat.reduceMul,Nat.reduceSub,Nat.reduceBEq,Nat.reduceEqDiff,Nat.reduceLT,Nat.reduceLeDiff,reduceIte,Int.reduceAdd,Int.reduceSub,Int.reduceMul,Int.reduceLT,Int.reduceLE,Int.reduceEq,Int.reduceToNat,Int.reduceNeg,fitB,newC,endD,endR,yrg,h42n]
    refine W_abs (F := fun e G6 => gt 256 e 7 = .pointer (some ⟨H2.size, 0, none⟩) ∧ gt 256 e 8 = .int .i64 (h : Nat) ∧ gt 256 e 2 = .int .i64 x2 ∧ gt 256 e 9 = .slice (some ⟨b1, 0, none⟩) hs.length (OPEN + 1) ∧ gt 256 e 10 = .int .i64 1 ∧ gt 256 e 13 = .int .i64 0 ∧ G6 = G5) ⟨by simp (disch := (first | (simp only [ne_eq,Nat.reduceEqDiff,not_false_eq_true,Nat.reduceLT]; done) | omega | (simp only [yz] <;> omega) | fail)) only [yg,Nat.reduceAdd,Nat.reduceEqDiff,Nat.reduceLT], by simp (disch := (first | (simp only [ne_eq,Nat.reduceEqDiff,not_false_eq_true,Nat.reduceLT]; done) | omega | (simp only [yz] <;> omega) | fail)) only [yg,Nat.reduceAdd,Nat.reduceEqDiff,Nat.reduceLT], by simp (disch := (first | (simp only [ne_eq,Nat.reduceEqDiff,not_false_eq_true,Nat.reduceLT]; done) | omega | (simp only [yz] <;> omega) | fail)) only [yg,Nat.reduceAdd,Nat.reduceEqDiff,Nat.reduceLT], by simp (disch := (first | (simp only [ne_eq,Nat.reduceEqDiff,not_false_eq_true,Nat.reduceLT]; done) | omega | (simp only [yz] <;> omega) | fail)) only [yg,Nat.reduceAdd,Nat.reduceEqDiff,Nat.reduceLT], by simp (disch := (first | (simp only [ne_eq,Nat.reduceEqDiff,not_false_eq_true,Nat.reduceLT]; done) | omega | (simp only [yz] <;> omega) | fail)) only [yg,Nat.reduceAdd,Nat.reduceEqDiff,Nat.reduceLT], by simp (disch := (first | (simp only [ne_eq,Nat.reduceEqDiff,not_false_eq_true,Nat.reduceLT]; done) | omega | (simp only [yz] <;> omega) | fail)) only [yg,Nat.reduceAdd,Nat.reduceEqDiff,Nat.reduceLT], rfl⟩ ?_
    rintro e G6 ⟨g7, g8, g2, g9, g10, g13, rfl⟩
    refine W_end (h8m G6 H2.size hs p ⟨b, 0, none⟩ c e _ bb5 bilA.rw ok g7 g13 (by omega) (by omega)) ?_
    rintro e2 G7 ⟨kp2, fr7, t13⟩
    have t7 := (kp2 7 (by decide)).trans g7
    have t8 := (kp2 8 (by decide)).trans g8
    have t2 := (kp2 2 (by decide)).trans g2
    have t9 := (kp2 9 (by decide)).trans g9
    have bb7 := (fr7.same H2.size (by omega)).trans bb5
    have f7 := fr7.size
    rw [hm] at t13
    have t10 := (kp2 10 (by decide)).trans g10
    have f5 := frA.size
    simp (disch := (first | (simp only [ne_eq,Nat.reduceEqDiff,not_false_eq_true,Nat.reduceLT]; done) | omega | (simp only [yz] <;> omega) | fail)) only [↓yp,yq0,yq1,yq2,yq3,yq4,yl,ys0,ys1,Nat.reduceAdd,Nat.reduceMul,Nat.reduceSub,Nat.reduceBEq,Nat.reduceEqDiff,Nat.reduceLT,Nat.reduceLeDiff,reduceIte,Int.reduceAdd,Int.reduceSub,Int.reduceMul,Int.reduceLT,Int.reduceLE,Int.reduceEq,Int.reduceToNat,Int.reduceNeg,fitB,newC,endD,endR,yrg,t13,t7,bb7,t10,x0]
    exact h8z G7 H2.size h hs p ⟨b, 0, none⟩ c b1 (OPEN + 1) q _ _ bb7 (by omega) (bilA.fr fr7) ⟨p2, p3⟩ (r15.fr fr7) I (by omega) (by simp (disch := (first | (simp only [ne_eq,Nat.reduceEqDiff,not_false_eq_true,Nat.reduceLT]; done) | omega | (simp only [yz] <;> omega) | fail)) only [yg,Nat.reduceAdd,Nat.reduceEqDiff,Nat.reduceLT,t2]) (by simp (disch := (first | (simp only [ne_eq,Nat.reduceEqDiff,not_false_eq_true,Nat.reduceLT]; done) | omega | (simp only [yz] <;> omega) | fail)) only [yg,Nat.reduceAdd,Nat.reduceEqDiff,Nat.reduceLT,t7]) (by simp (disch := (first | (simp only [ne_eq,Nat.reduceEqDiff,not_false_eq_true,Nat.reduceLT]; done) | omega | (simp only [yz] <;> omega) | fail)) only [yg,Nat.reduceAdd,Nat.reduceEqDiff,Nat.reduceLT,t8]) (by simp (disch := (first | (simp only [ne_eq,Nat.reduceEqDiff,not_false_eq_true,Nat.reduceLT]; done) | omega | (simp only [yz] <;> omega) | fail)) only [yg,Nat.reduceAdd,Nat.reduceEqDiff,Nat.reduceLT,t9]) (by omega) (by omega)
  · refine c42 bil5 ⟨by omega, by omega⟩ (by omega) (by omega) ?_
    intro b2 q' H6 fr6 hb6 r6 I'
    have f6 := fr6.size
    obtain ⟨nn, y, hy, In⟩ := bid_step ok.ok I (by omega)
    have e9 : q' = q.set nn (y + 1) := bid_unique ok.ok (by rw [show p + 1 - isum (hs.map Hs.l) = p - isum (hs.map Hs.l) + 1 by omega] at I'; exact In) (by rw [show p + 1 - isum (hs.map Hs.l) = p - isum (hs.map Hs.l) + 1 by omega] at I'; exact I')
    have hle : ∀ (i : Nat) (z z' : Int), q[i]? = some z → q'[i]? = some z' → z' = z ∨ z' = z + 1 := fun i z z' h1 h2 => by
      rw [e9, List.getElem?_set] at h2
      split at h2
      · rename_i e
        subst e
        rw [hy] at h1; cases h1
        have : y + 1 = z' := by split at h2 <;> simp_all
        omega
      · rw [h1] at h2; cases h2
        exact .inl rfl
    have bq : ∀ x ∈ q, 0 ≤ x ∧ x ≤ 1000 := fun x hx => by
      obtain ⟨i, hi⟩ := List.getElem?_of_mem hx
      have hil := (List.getElem?_eq_some_iff.1 hi).1
      obtain ⟨g, hg⟩ : ∃ g, hs[i]? = some g := ⟨_, List.getElem?_eq_getElem (by rw [← I.len]; exact hil)⟩
      have b1 := I.bd i g x hg hi
      have b2 := (ok.ok g (List.mem_of_getElem? hg)).l
      have b3 := (ok.ok g (List.mem_of_getElem? hg)).m
      omega
    have dsum : isum q' - isum q = 1 := by rw [I'.sum, I.sum]; omega
    have bb6 := (fr6.same H2.size (by omega)).trans bb5
    simp (disch := (first | (simp only [ne_eq,Nat.reduceEqDiff,not_false_eq_true,Nat.reduceLT]; done) | omega | (simp only [yz] <;> omega) | fail)) only [↓yp,yq0,yq1,yq2,yq3,yq4,yl,ys0,ys1,Nat.reduceAdd,Nat.reduceMul,Nat.reduceSub,Nat.reduceBEq,Nat.reduceEqDiff,Nat.reduceLT,Nat.reduceLeDiff,reduceIte,Int.reduceAdd,Int.reduceSub,Int.reduceMul,Int.reduceLT,Int.reduceLE,Int.reduceEq,Int.reduceToNat,Int.reduceNeg,fitB,newC,endD,endR,yrg]
    refine W_abs (F := fun e G6 => gt 256 e 7 = .pointer (some ⟨H2.size, 0, none⟩) ∧ gt 256 e 8 = .int .i64 (h : Nat) ∧ gt 256 e 2 = .int .i64 x2 ∧ gt 256 e 9 = .slice (some ⟨b1, 0, none⟩) hs.length (OPEN + 1) ∧ gt 256 e 10 = .int .i64 0 ∧ gt 256 e 12 = .slice (some ⟨b2, 0, none⟩) hs.length (OPEN + 1) ∧ gt 256 e 13 = .int .i64 0 ∧ G6 = H6) ⟨by simp (disch := (first | (simp only [ne_eq,Nat.reduceEqDiff,not_false_eq_true,Nat.reduceLT]; done) | omega | (simp only [yz] <;> omega) | fail)) only [yg,Nat.reduceAdd,Nat.reduceEqDiff,Nat.reduceLT], by simp (disch := (first | (simp only [ne_eq,Nat.reduceEqDiff,not_false_eq_true,Nat.reduceLT]; done) | omega | (simp only [yz] <;> omega) | fail)) only [yg,Nat.reduceAdd,Nat.reduceEqDiff,Nat.reduceLT], by simp (disch := (first | (simp only [ne_eq,Nat.reduceEqDiff,not_false_eq_true,Nat.reduceLT]; done) | omega | (simp only [yz] <;> omega) | fail)) only [yg,Nat.reduceAdd,Nat.reduceEqDiff,Nat.reduceLT], by simp (disch := (first | (simp only [ne_eq,Nat.reduceEqDiff,not_false_eq_true,Nat.reduceLT]; done) | omega | (simp only [yz] <;> omega) | fail)) only [yg,Nat.reduceAdd,Nat.reduceEqDiff,Nat.reduceLT], by simp (disch := (first | (simp only [ne_eq,Nat.reduceEqDiff,not_false_eq_true,Nat.reduceLT]; done) | omega | (simp only [yz] <;> omega) | fail)) only [yg,Nat.reduceAdd,Nat.reduceEqDiff,Nat.reduceLT], by simp (disch := (first | (simp only [ne_eq,Nat.reduceEqDiff,not_false_eq_true,Nat.reduceLT]; done) | omega | (simp only [yz] <;> omega) | fail)) only [yg,Nat.reduceAdd,Nat.reduceEqDiff,Nat.reduceLT], by simp (disch := (first | (simp only [ne_eq,Nat.reduceEqDiff,not_false_eq_true,Nat.reduceLT]; done) | omega | (simp only [yz] <;> omega) | fail)) only [yg,Nat.reduceAdd,Nat.reduceEqDiff,Nat.reduceLT], rfl⟩ ?_
    rintro e G6 ⟨g7, g8, g2, g9, g10, g12, g13, rfl⟩
    refine W_end (h8m G6 H2.size hs p ⟨b, 0, none⟩ c e _ bb6 (bilA.fr fr6).rw ok g7 g13 (by omega) (by omega)) ?_
    rintro e2 G7 ⟨kp2, fr7, t13⟩
    have t7 := (kp2 7 (by decide)).trans g7
    have t8 := (kp2 8 (by decide)).trans g8
    have t2 := (kp2 2 (by decide)).trans g2
    have t9 := (kp2 9 (by decide)).trans g9
    have t10 := (kp2 10 (by decide)).trans g10
    have t12 := (kp2 12 (by decide)).trans g12
    have bb7 := (fr7.same H2.size (by omega)).trans bb6
    have f7 := fr7.size
    have m0 : decide (isum (hs.map Hs.m) = p) = false := decide_eq_false hm
    simp (disch := (first | (simp only [ne_eq,Nat.reduceEqDiff,not_false_eq_true,Nat.reduceLT]; done) | omega | (simp only [yz] <;> omega) | fail)) only [↓yp,yq0,yq1,yq2,yq3,yq4,yl,ys0,ys1,Nat.reduceAdd,Nat.reduceMul,Nat.reduceSub,Nat.reduceBEq,Nat.reduceEqDiff,Nat.reduceLT,Nat.reduceLeDiff,reduceIte,Int.reduceAdd,Int.reduceSub,Int.reduceMul,Int.reduceLT,Int.reduceLE,Int.reduceEq,Int.reduceToNat,Int.reduceNeg,fitB,newC,endD,endR,yrg,t13,t7,bb7,t9,t10,t12,x0,m0,lenV_slice st_esS_40]
    refine W_abs (F := fun e3 G8 => Keep 256 [2, 7, 8, 9, 12] e2 e3 ∧ gt 256 e3 16 = .int .i64 0 ∧ G8 = G7) ⟨by (with_reducible (repeat (first | refine Keep.put ?_ (by decide) | refine Keep.none ?_ | assumption | exact Keep.refl _ _ _))), by simp (disch := (first | (simp only [ne_eq,Nat.reduceEqDiff,not_false_eq_true,Nat.reduceLT]; done) | omega | (simp only [yz] <;> omega) | fail)) only [yg,Nat.reduceAdd,Nat.reduceEqDiff,Nat.reduceLT], rfl⟩ ?_
    rintro e3 G8 ⟨kp3, t16, rfl⟩
    have r17 := (r15.fr fr6).fr fr7
    refine W_end (h8g G8 hs.length q q' b1 b2 (OPEN + 1) (OPEN + 1) e3 _ r17 (r6.fr fr7) I.len I'.len hlen.2 ((kp3 9 (by decide)).trans t9) ((kp3 12 (by decide)).trans t12) t16 bq hle (by omega) (by omega)) ?_
    rintro e4 G9 ⟨kp4, rfl, t16'⟩
    rw [dsum] at t16'
    have s7 := ((kp4 7 (by decide)).trans (kp3 7 (by decide))).trans t7
    have s8 := ((kp4 8 (by decide)).trans (kp3 8 (by decide))).trans t8
    have s2 := ((kp4 2 (by decide)).trans (kp3 2 (by decide))).trans t2
    have s9 := ((kp4 9 (by decide)).trans (kp3 9 (by decide))).trans t9
    simp (disch := (first | (simp only [ne_eq,Nat.reduceEqDiff,not_false_eq_true,Nat.reduceLT]; done) | omega | (simp only [yz] <;> omega) | fail)) only [↓yp,yq0,yq1,yq2,yq3,yq4,yl,ys0,ys1,Nat.reduceAdd,Nat.reduceMul,Nat.reduceSub,Nat.reduceBEq,Nat.reduceEqDiff,Nat.reduceLT,Nat.reduceLeDiff,reduceIte,Int.reduceAdd,Int.reduceSub,Int.reduceMul,Int.reduceLT,Int.reduceLE,Int.reduceEq,Int.reduceToNat,Int.reduceNeg,fitB,newC,endD,endR,yrg,t16',x0]
    exact h8z G9 H2.size h hs p ⟨b, 0, none⟩ c b1 (OPEN + 1) q _ _ bb7 (by omega) ((bilA.fr fr6).fr fr7) ⟨p2, p3⟩ r17 I (by omega) (by simp (disch := (first | (simp only [ne_eq,Nat.reduceEqDiff,not_false_eq_true,Nat.reduceLT]; done) | omega | (simp only [yz] <;> omega) | fail)) only [yg,Nat.reduceAdd,Nat.reduceEqDiff,Nat.reduceLT,s2]) (by simp (disch := (first | (simp only [ne_eq,Nat.reduceEqDiff,not_false_eq_true,Nat.reduceLT]; done) | omega | (simp only [yz] <;> omega) | fail)) only [yg,Nat.reduceAdd,Nat.reduceEqDiff,Nat.reduceLT,s7]) (by simp (disch := (first | (simp only [ne_eq,Nat.reduceEqDiff,not_false_eq_true,Nat.reduceLT]; done) | omega | (simp only [yz] <;> omega) | fail)) only [yg,Nat.reduceAdd,Nat.reduceEqDiff,Nat.reduceLT,s8]) (by simp (disch := (first | (simp only [ne_eq,Nat.reduceEqDiff,not_false_eq_true,Nat.reduceLT]; done) | omega | (simp only [yz] <;> omega) | fail)) only [yg,Nat.reduceAdd,Nat.reduceEqDiff,Nat.reduceLT,s9]) (by omega) (by omega)
end
end Go.Am
