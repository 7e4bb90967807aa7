/- Shares by remainders. -/
import Derived.Test.YtnibabkgeolenaaT37
set_option linter.unusedSimpArgs false
set_option linter.unusedVariables false
namespace Go.Am
open Go.Proofs
variable {T : Tab} {P : Program} {N L : Nat} {H H' H'' : AHeap} {Q : Bool → Value → AHeap → Prop}
section
variable {p A : Int} {hs : List Hs} {K : Nat}
theorem pad6_at {q : List Int} {i : Nat} (h : i < q.length) : (pad6 q)[i]? = q[i]? := by unfold pad6; rw [List.getElem?_append_left h]
theorem pad6_set {q : List Int} {i : Nat} {x : Int} (h : i < q.length) : (pad6 q).set i x = pad6 (q.set i x) := by
  unfold pad6
  rw [List.set_append_left _ _ h, List.length_set]
theorem pad6_sum : ∀ q : List Int, isum (pad6 q) = isum q := fun q => by
  unfold pad6
  rw [isum_app]
  have : ∀ k, isum (List.replicate k 0) = 0 := fun k => by
    induction k with
    | zero => rfl
    | succ k ih => rw [List.replicate_succ]; show 0 + isum (List.replicate k 0) = 0; rw [ih]; rfl
  rw [this]; omega
end
section
variable {p A : Int} {ad : Addr} {c : Nat} {hs : List Hs}
end
end Go.Am
/- A bill that is made of numbers. -/
namespace Go.Am
open Go.Proofs
variable {T : Tab} {P : Program} {N L : Nat} {H H' H'' : AHeap} {Q : Bool → Value → AHeap → Prop}
/-- While houses are made. -/
structure MBi (H H' : AHeap) (k : Nat) (a : Option Addr) (bs : List Int) (cap q : Nat) (PP p nh : Int) (i : Nat) (l : List Hs) (S : Nat → Prop) (v : Value) (e : VT) : Prop where
  g20 : gt 81 e 20 = .int .i64 (i : Nat)
  g19 : gt 81 e 19 = .int .i64 nh
  g9 : gt 81 e 9 = .int .i64 (isum (l.map Hs.m))
  g8 : gt 81 e 8 = .int .i64 (isum (l.map Hs.l))
  g7 : gt 81 e 7 = .pointer (some ⟨H.size + 1, 0, none⟩)
  g6 : gt 81 e 6 = .pointer (some ⟨H.size, 0, none⟩)
  g1 : gt 81 e 1 = .int .i64 PP
  g0 : gt 81 e 0 = .pointer (some ⟨k, 0, none⟩)
  chu : Chu H' k a bs cap (q + 2 + 3 * i)
  fr : FrX k H H'
  sz : H.size + 1 < H'.size
  b7 : H'.get (H.size + 1) = .rw [.int .i64 p, v] 39 false []
  b6 : H'.get H.size = .rw [.int .i64 0, .slice none 0 0] 39 false []
  gw : Gw H' (H.size + 1) S v i (hsE.fl l) 72 3
  len : l.length = i
  ok : ∀ h ∈ l, (0 ≤ h.v ∧ h.v ≤ 39) ∧ (0 ≤ h.l ∧ h.l ≤ 5) ∧ h.l ≤ h.m ∧ h.m ≤ 405
  le : isum (l.map Hs.l) ≤ p
section
variable {k cap q : Nat} {a : Option Addr} {bs : List Int} {PP nh : Int}
set_option maxHeartbeats 16000000 in
theorem c35 (h : Chu H k a bs cap q) (hu : q ≤ 1000) (hPP : 1 ≤ PP ∧ PP ≤ 400) (hNH : 1 ≤ nh ∧ nh ≤ 6) (hL : L ≤ k) {F : Nat} (hF : 2500 ≤ F)
    (hq : ∀ b c p hs H', BilOk p hs → p ≤ PP → isum (hs.map Hs.l) ≤ p → p ≤ isum (hs.map Hs.m) → (hs.length : Int) ≤ nh → (∀ h ∈ hs, h.v ≤ 39) → Rx k hsE H' (some ⟨b, 0, none⟩) hs → H.size ≤ b → Chu H' k a bs cap (q + 20) → FrX k H H' → Q false (.agg ⟨[.int .i64 p, .slice (some ⟨b, 0, none⟩) hs.length c]⟩) H') :
    resK (acall tabA (aexec tabA Try.prog F) 35 [.pointer (some ⟨k, 0, none⟩), .int .i64 PP, .int .i64 nh] H) L Q := by
  obtain ⟨N, rfl⟩ : ∃ N, F = N + 2500 := ⟨F - 2500, by omega⟩
  have hlt := h.lt
  refine call_keep tabA_fr (k := 81) (rs := [.cell 6 39]) (R := fun v H' => ∃ b c p hs, v = .agg ⟨[.int .i64 p, .slice (some ⟨b, 0, none⟩) hs.length c]⟩ ∧ BilOk p hs ∧ p ≤ PP ∧ isum (hs.map Hs.l) ≤ p ∧ p ≤ isum (hs.map Hs.m) ∧ (hs.length : Int) ≤ nh ∧ (∀ h ∈ hs, h.v ≤ 39) ∧ Rx k hsE H' (some ⟨b, 0, none⟩) hs ∧ H.size ≤ b ∧ Chu H' k a bs cap (q + 20) ∧ FrX k H H') rfl fn_35 rfl rfl rfl (by omega) ?_ ?_ ?_
  rotate_left
  · rintro v H' ⟨b, c, p, hs, rfl, h1, h2, h3, h4, h5, h6, h7, h8, h9, h10⟩
    exact hq _ _ _ _ _ h1 h2 h3 h4 h5 h6 h7 h8 h9 h10
  · rintro v H' ⟨b, c, p, hs, rfl, -⟩ hg _; cases hg
  have w1 : w64 (PP + 1) = PP + 1 := w64_of (by omega)
  simp (disch := (first | (simp only [ne_eq,Nat.reduceEqDiff,not_false_eq_true,Nat.reduceLT]; done) | omega | (simp only [yz] <;> omega) | fail)) only [↓yp,yq0,yq1,yq2,yq3,yq4,yl,ys0,ys1,Nat.reduceAdd,Nat.reduceMul,Nat.reduceSub,Nat.reduceBEq,Nat.reduceEqDiff,Nat.reduceLT,Nat.reduceLeDiff,reduceIte,Int.reduceAdd,Int.reduceSub,Int.reduceMul,Int.reduceLT,Int.reduceLE,Int.reduceEq,Int.reduceToNat,Int.reduceNeg,fitB,newC,endD,endR,yrg,w1]
  refine c43g (h.fr (Fr.alloc _ _)) hL (by omega) (by omega) (by omega) ?_
  rintro f1 p H1 - ⟨p1, p2⟩ hc1 hx1 hs1
  simp only [size_alloc] at hs1
  have b61 := hx1.same H.size (by (first | omega | (simp only [yz] <;> omega))) (by omega)
  rw [get_alloc_eq rfl] at b61
  simp (disch := (first | (simp only [ne_eq,Nat.reduceEqDiff,not_false_eq_true,Nat.reduceLT]; done) | omega | (simp only [yz] <;> omega) | fail)) only [↓yp,yq0,yq1,yq2,yq3,yq4,yl,ys0,ys1,Nat.reduceAdd,Nat.reduceMul,Nat.reduceSub,Nat.reduceBEq,Nat.reduceEqDiff,Nat.reduceLT,Nat.reduceLeDiff,reduceIte,Int.reduceAdd,Int.reduceSub,Int.reduceMul,Int.reduceLT,Int.reduceLE,Int.reduceEq,Int.reduceToNat,Int.reduceNeg,fitB,newC,endD,endR,yrg,A_build st_bdS_39]
  have hx1' : FrX k H H1 := ⟨by omega, fun j h1 h2 => by rw [hx1.same j (by (first | omega | (simp only [yz] <;> omega))) h2, get_alloc_lt h1]⟩
  have e1 : H1.size = H.size + 1 := by omega
  simp only [e1]
  have hck1 : Chu ((H1.alloc (.rw [.int .i64 0, .slice none 0 0] 39 false [])).put (H.size + 1) (.rw [.int .i64 p, .slice none 0 0] 39 false [])) k a bs cap (q + 1) := by
    refine h.again ⟨by (first | omega | (simp only [yz] <;> omega)), fun j h1 h2 => by rw [get_put_ne (by omega), get_alloc_lt (by omega)]; exact hx1'.same j h1 h2⟩ ?_
    rw [get_put_ne (by omega), get_alloc_lt (by omega)]
    exact hc1.blk
  refine c87 hck1 hL (by omega) (by omega) ?_
  rintro f2 n H2 - n1 n2 hc2 hx2 hs2
  simp only [size_put,size_alloc] at hs2
  have b62 : H2.get H.size = .rw [.int .i64 0, .slice none 0 0] 39 false [] := by rw [hx2.same _ (by (first | omega | (simp only [yz] <;> omega))) (by omega), get_put_ne (by omega), get_alloc_lt (by omega)]; exact b61
  have b72 : H2.get (H.size + 1) = .rw [.int .i64 p, .slice none 0 0] 39 false [] := by rw [hx2.same _ (by (first | omega | (simp only [yz] <;> omega))) (by omega), get_put_same (by (first | omega | (simp only [yz] <;> omega)))]
  have hx2' : FrX k H H2 := ⟨by omega, fun j h1 h2 => by rw [hx2.same j (by (first | omega | (simp only [yz] <;> omega))) h2, get_put_ne (by omega), get_alloc_lt (by omega)]; exact hx1'.same j h1 h2⟩
  simp (disch := (first | (simp only [ne_eq,Nat.reduceEqDiff,not_false_eq_true,Nat.reduceLT]; done) | omega | (simp only [yz] <;> omega) | fail)) only [↓yp,yq0,yq1,yq2,yq3,yq4,yl,ys0,ys1,Nat.reduceAdd,Nat.reduceMul,Nat.reduceSub,Nat.reduceBEq,Nat.reduceEqDiff,Nat.reduceLT,Nat.reduceLeDiff,reduceIte,Int.reduceAdd,Int.reduceSub,Int.reduceMul,Int.reduceLT,Int.reduceLE,Int.reduceEq,Int.reduceToNat,Int.reduceNeg,fitB,newC,endD,endR,yrg]
  refine W_while (n := 81) 900 (fun q' e' H' => ∃ (i : Nat) (l : List Hs) (S : Nat → Prop) (v : Value), q' = (n - i).toNat ∧ (i : Int) ≤ n ∧ MBi H H' k a bs cap q PP p n i l S v e')
    ?_ 6 n.toNat ⟨0, [], fun _ => False, .slice none 0 0, by omega, by omega, ?_⟩ (by omega) (by omega)
  rotate_left
  · refine ⟨?_, ?_, ?_, ?_, ?_, ?_, ?_, ?_, hc2.mono (by omega), hx2', by omega, b72, b62, Gw.none, rfl, by simp, by show (0 : Int) ≤ p; omega⟩
    · simp (disch := (first | (simp only [ne_eq,Nat.reduceEqDiff,not_false_eq_true,Nat.reduceLT]; done) | omega | (simp only [yz] <;> omega) | fail)) only [yg,Nat.reduceAdd,Nat.reduceEqDiff,Nat.reduceLT]; rfl
    · simp (disch := (first | (simp only [ne_eq,Nat.reduceEqDiff,not_false_eq_true,Nat.reduceLT]; done) | omega | (simp only [yz] <;> omega) | fail)) only [yg,Nat.reduceAdd,Nat.reduceEqDiff,Nat.reduceLT]
    · simp (disch := (first | (simp only [ne_eq,Nat.reduceEqDiff,not_false_eq_true,Nat.reduceLT]; done) | omega | (simp only [yz] <;> omega) | fail)) only [yg,Nat.reduceAdd,Nat.reduceEqDiff,Nat.reduceLT]; rfl
    · simp (disch := (first | (simp only [ne_eq,Nat.reduceEqDiff,not_false_eq_true,Nat.reduceLT]; done) | omega | (simp only [yz] <;> omega) | fail)) only [yg,Nat.reduceAdd,Nat.reduceEqDiff,Nat.reduceLT]; rfl
    · simp (disch := (first | (simp only [ne_eq,Nat.reduceEqDiff,not_false_eq_true,Nat.reduceLT]; done) | omega | (simp only [yz] <;> omega) | fail)) only [yg,Nat.reduceAdd,Nat.reduceEqDiff,Nat.reduceLT,e1]
    · simp (disch := (first | (simp only [ne_eq,Nat.reduceEqDiff,not_false_eq_true,Nat.reduceLT]; done) | omega | (simp only [yz] <;> omega) | fail)) only [yg,Nat.reduceAdd,Nat.reduceEqDiff,Nat.reduceLT]
    · simp (disch := (first | (simp only [ne_eq,Nat.reduceEqDiff,not_false_eq_true,Nat.reduceLT]; done) | omega | (simp only [yz] <;> omega) | fail)) only [yg,Nat.reduceAdd,Nat.reduceEqDiff,Nat.reduceLT]
    · simp (disch := (first | (simp only [ne_eq,Nat.reduceEqDiff,not_false_eq_true,Nat.reduceLT]; done) | omega | (simp only [yz] <;> omega) | fail)) only [yg,Nat.reduceAdd,Nat.reduceEqDiff,Nat.reduceLT]
  clear hc1 hx1 hs1 hc2 hx2 hs2 hck1 b61 b62 b72 hx2' hx1' e1 H1 H2
  rintro M1 q' e H1 ⟨i, l, S, v, rfl, hi, I⟩
  have g20 := I.g20
  have g19 := I.g19
  have g9 := I.g9
  have g8 := I.g8
  have g7 := I.g7
  have g6 := I.g6
  have g1 := I.g1
  have g0 := I.g0
  have sz := I.sz
  have b7 := I.b7
  have b6 := I.b6
  have hle := I.le
  have hmb : 0 ≤ isum (l.map Hs.m) ∧ isum (l.map Hs.m) ≤ 405 * (l.map Hs.m).length := isum_le fun x hx => by
    obtain ⟨y, hy, rfl⟩ := List.mem_map.1 hx
    have := I.ok y hy; omega
  have hlb : 0 ≤ isum (l.map Hs.l) ∧ isum (l.map Hs.l) ≤ 405 * (l.map Hs.l).length := isum_le fun x hx => by
    obtain ⟨y, hy, rfl⟩ := List.mem_map.1 hx
    have := I.ok y hy; omega
  rw [List.length_map, I.len] at hmb hlb
  simp (disch := (first | (simp only [ne_eq,Nat.reduceEqDiff,not_false_eq_true,Nat.reduceLT]; done) | omega | (simp only [yz] <;> omega) | fail)) only [↓yp,yq0,yq1,yq2,yq3,yq4,yl,ys0,ys1,Nat.reduceAdd,Nat.reduceMul,Nat.reduceSub,Nat.reduceBEq,Nat.reduceEqDiff,Nat.reduceLT,Nat.reduceLeDiff,reduceIte,Int.reduceAdd,Int.reduceSub,Int.reduceMul,Int.reduceLT,Int.reduceLE,Int.reduceEq,Int.reduceToNat,Int.reduceNeg,fitB,newC,endD,endR,yrg,g20,g19]
  refine ⟨fun hA => ?_, fun hA => ?_⟩
  · have hlt' : (i : Int) < n := by simpa using hA
    have hw2 : w64 ((i : Int) + 1) = ((i + 1 : Nat) : Int) := by rw [w64_of (by omega)]; omega
    simp (disch := (first | (simp only [ne_eq,Nat.reduceEqDiff,not_false_eq_true,Nat.reduceLT]; done) | omega | (simp only [yz] <;> omega) | fail)) only [↓yp,yq0,yq1,yq2,yq3,yq4,yl,ys0,ys1,Nat.reduceAdd,Nat.reduceMul,Nat.reduceSub,Nat.reduceBEq,Nat.reduceEqDiff,Nat.reduceLT,Nat.reduceLeDiff,reduceIte,Int.reduceAdd,Int.reduceSub,Int.reduceMul,Int.reduceLT,Int.reduceLE,Int.reduceEq,Int.reduceToNat,Int.reduceNeg,fitB,newC,endD,endR,yrg,g0]
    refine c43 I.chu hL (by omega) (by omega) ?_
    rintro f2 hv H2 - ⟨r1, r2⟩ hc2 hx2 hs2
    simp (disch := (first | (simp only [ne_eq,Nat.reduceEqDiff,not_false_eq_true,Nat.reduceLT]; done) | omega | (simp only [yz] <;> omega) | fail)) only [↓yp,yq0,yq1,yq2,yq3,yq4,yl,ys0,ys1,Nat.reduceAdd,Nat.reduceMul,Nat.reduceSub,Nat.reduceBEq,Nat.reduceEqDiff,Nat.reduceLT,Nat.reduceLeDiff,reduceIte,Int.reduceAdd,Int.reduceSub,Int.reduceMul,Int.reduceLT,Int.reduceLE,Int.reduceEq,Int.reduceToNat,Int.reduceNeg,fitB,newC,endD,endR,yrg,g0]
    refine c43 hc2 hL (by omega) (by omega) ?_
    rintro f3 l0 H3 - ⟨r3, r4⟩ hc3 hx3 hs3
    have x13 := hx2.trans hx3
    have z3 : H3.size = H1.size := by omega
    have b73 := (x13.same (H.size + 1) sz (by omega)).trans b7
    obtain ⟨mx, hmx⟩ : ∃ mx, (if p - isum (l.map Hs.l) > 0 then p - isum (l.map Hs.l) else 0) = mx := ⟨_, rfl⟩
    obtain ⟨lo, hlo⟩ : ∃ lo, (if mx < l0 then mx else l0) = lo := ⟨_, rfl⟩
    have hmx' : mx = p - isum (l.map Hs.l) := by rw [← hmx]; split <;> omega
    have hlo' : 0 ≤ lo ∧ lo ≤ 5 ∧ lo ≤ p - isum (l.map Hs.l) := by rw [← hlo]; split <;> omega
    have wa : w64 (p - isum (l.map Hs.l)) = p - isum (l.map Hs.l) := w64_of (by omega)
    simp (disch := (first | (simp only [ne_eq,Nat.reduceEqDiff,not_false_eq_true,Nat.reduceLT]; done) | omega | (simp only [yz] <;> omega) | fail)) only [↓yp,yq0,yq1,yq2,yq3,yq4,yl,ys0,ys1,Nat.reduceAdd,Nat.reduceMul,Nat.reduceSub,Nat.reduceBEq,Nat.reduceEqDiff,Nat.reduceLT,Nat.reduceLeDiff,reduceIte,Int.reduceAdd,Int.reduceSub,Int.reduceMul,Int.reduceLT,Int.reduceLE,Int.reduceEq,Int.reduceToNat,Int.reduceNeg,fitB,newC,endD,endR,yrg,g7,g8,b73,A_build st_bdS_72,A_max,A_min,mm_max,mm_min,wa,hmx,hlo]
    refine W_abs (F := fun e' G => Keep 81 [0, 1, 6, 7, 8, 9, 19, 20] e e' ∧ gt 81 e' 10 = .pointer (some ⟨H3.size, 0, none⟩) ∧ G.get H3.size = .rw [.int .i64 hv, .int .i64 lo, .int .i64 0] 72 false [] ∧ G.size = H3.size + 1 ∧ ∀ j, j < H3.size → G.get j = H3.get j) ⟨by (with_reducible (repeat (first | refine Keep.put ?_ (by decide) | refine Keep.none ?_ | assumption | exact Keep.refl _ _ _))), by simp (disch := (first | (simp only [ne_eq,Nat.reduceEqDiff,not_false_eq_true,Nat.reduceLT]; done) | omega | (simp only [yz] <;> omega) | fail)) only [yg,Nat.reduceAdd,Nat.reduceEqDiff,Nat.reduceLT], by simp (disch := (first | (simp only [ne_eq,Nat.reduceEqDiff,not_false_eq_true,Nat.reduceLT]; done) | omega | (simp only [yz] <;> omega) | fail)) only [yg,Nat.reduceAdd,Nat.reduceEqDiff,Nat.reduceLT], by (first | omega | (simp only [yz] <;> omega)), fun j hj => by simp (disch := (first | (simp only [ne_eq,Nat.reduceEqDiff,not_false_eq_true,Nat.reduceLT]; done) | omega | (simp only [yz] <;> omega) | fail)) only [yg,Nat.reduceAdd,Nat.reduceEqDiff,Nat.reduceLT]⟩ ?_
    rintro e2 G ⟨kp, g10, bG, zG, sG⟩
    have k0 := (kp 0 (by decide)).trans g0
    have k1 := (kp 1 (by decide)).trans g1
    have k6 := (kp 6 (by decide)).trans g6
    have k7 := (kp 7 (by decide)).trans g7
    have k8 := (kp 8 (by decide)).trans g8
    have k9 := (kp 9 (by decide)).trans g9
    have k19 := (kp 19 (by decide)).trans g19
    have k20 := (kp 20 (by decide)).trans g20
    have hf1 := I.fr.size
    have hcG : Chu G k a bs cap (q + 2 + 3 * i + 1 + 1) := by
      refine h.again ⟨by omega, fun j h1 h2 => by rw [sG j (by omega), x13.same j (by omega) h2]; exact I.fr.same j h1 h2⟩ ?_
      rw [sG k (by omega)]; exact hc3.blk
    obtain ⟨f, v', G2, m, hres, hLm, u, rfl, hff, hu1, hu2, hcG2, xG, zG2⟩ := resK_elim (Q := fun f v H' => ∃ u, v = .int .i64 u ∧ (f = true → H' = G) ∧ 0 ≤ u ∧ u < PP ∧ Chu H' k a bs cap (q + 2 + 3 * i + 1 + 1 + 1) ∧ FrX k G H' ∧ H'.size = G.size) (c43g (M := M1 + 892) (n := PP) hcG hL (by omega) (by omega) (by omega) fun f v H' h1 h2 h3 h4 h5 => ⟨v, rfl, h1, h2.1, by have := h2.2; omega, h3, h4, h5⟩)
    have bG2 := (xG.same H3.size (by omega) (by omega)).trans bG
    have wm : w64 (lo + u) = lo + u := w64_of (by omega)
    -- the house is there with all of its numbers
    have key : W tabA Try.prog (M1 + 893) none (sub [true, true, true, false, true, false, false, true, true, false, false, true, true, false] (bodyOf Try.f35)) L ⟨81, e2, G, []⟩ (endK 81 [] fun e' G' => Keep 81 [0, 1, 6, 7, 8, 9, 10, 19, 20] e2 e' ∧ G' = G2.put H3.size (.rw [.int .i64 hv, .int .i64 lo, .int .i64 (lo + u)] 72 false [])) := by
      simp only [Try.f35,bodyOf,sub_nil,sub_seq0,sub_seq1,sub_block,sub_loop,sub_cond0,sub_cond1]
      cases f
      · refine W_drawR (pl := []) [4, 7] [] (planK_of rfl) (by kernel_rfl) (by kernel_rfl) (by kernel_rfl) (by (first | omega | (simp only [yz] <;> omega))) ?_
        simp (disch := (first | (simp only [ne_eq,Nat.reduceEqDiff,not_false_eq_true,Nat.reduceLT]; done) | omega | (simp only [yz] <;> omega) | fail)) only [↓yp,yq0,yq1,yq2,yq3,yq4,yl,ys0,ys1,Nat.reduceAdd,Nat.reduceMul,Nat.reduceSub,Nat.reduceBEq,Nat.reduceEqDiff,Nat.reduceLT,Nat.reduceLeDiff,reduceIte,Int.reduceAdd,Int.reduceSub,Int.reduceMul,Int.reduceLT,Int.reduceLE,Int.reduceEq,Int.reduceToNat,Int.reduceNeg,fitB,newC,endD,endR,yrg,k0,k1,g10,bG,bG2,hres,wm]
        exact ⟨by (with_reducible (repeat (first | refine Keep.put ?_ (by decide) | refine Keep.none ?_ | assumption | exact Keep.refl _ _ _))), rfl⟩
      · obtain rfl := hff rfl
        refine W_drawR (pl := []) [7] [(4, 1)] (planK_of rfl) (by kernel_rfl) (by kernel_rfl) (by kernel_rfl) (by (first | omega | (simp only [yz] <;> omega))) ?_
        simp (disch := (first | (simp only [ne_eq,Nat.reduceEqDiff,not_false_eq_true,Nat.reduceLT]; done) | omega | (simp only [yz] <;> omega) | fail)) only [↓yp,yq0,yq1,yq2,yq3,yq4,yl,ys0,ys1,Nat.reduceAdd,Nat.reduceMul,Nat.reduceSub,Nat.reduceBEq,Nat.reduceEqDiff,Nat.reduceLT,Nat.reduceLeDiff,reduceIte,Int.reduceAdd,Int.reduceSub,Int.reduceMul,Int.reduceLT,Int.reduceLE,Int.reduceEq,Int.reduceToNat,Int.reduceNeg,fitB,newC,endD,endR,yrg,k0,k1,g10,bG,bG2,hres,wm]
        exact ⟨by (with_reducible (repeat (first | refine Keep.put ?_ (by decide) | refine Keep.none ?_ | assumption | exact Keep.refl _ _ _))), rfl⟩
    simp only [Try.f35,bodyOf,sub_nil,sub_seq0,sub_seq1,sub_block,sub_loop,sub_cond0,sub_cond1] at key
    refine W_end key ?_
    rintro e3 G3 ⟨kp3, rfl⟩
    have t7 := (kp3 7 (by decide)).trans k7
    have t8 := (kp3 8 (by decide)).trans k8
    have t9 := (kp3 9 (by decide)).trans k9
    have t10 := (kp3 10 (by decide)).trans g10
    have t20 := (kp3 20 (by decide)).trans k20
    have x1G : FrX k H1 (G2.put H3.size (.rw [.int .i64 hv, .int .i64 lo, .int .i64 (lo + u)] 72 false [])) := ⟨by rw [size_put]; omega, fun j h1 h2 => by rw [get_put_ne (by omega), xG.same j (by omega) h2, sG j (by omega), x13.same j h1 h2]⟩
    obtain ⟨G3, hG3⟩ : ∃ G3, G2.put H3.size (.rw [.int .i64 hv, .int .i64 lo, .int .i64 (lo + u)] 72 false []) = G3 := ⟨_, rfl⟩
    have zG3 : G3.size = H1.size + 1 := by rw [← hG3, size_put]; omega
    have bG3 : G3.get H3.size = .rw [.int .i64 hv, .int .i64 lo, .int .i64 (lo + u)] 72 false [] := by rw [← hG3]; exact get_put_same (by omega)
    have ck3 : G3.get k = G2.get k := by rw [← hG3, get_put_ne (by omega)]
    rw [hG3] at x1G ⊢
    clear hG3
    have b73' := (x1G.same (H.size + 1) sz (by omega)).trans b7
    simp (disch := (first | (simp only [ne_eq,Nat.reduceEqDiff,not_false_eq_true,Nat.reduceLT]; done) | omega | (simp only [yz] <;> omega) | fail)) only [↓yp,yq0,yq1,yq2,yq3,yq4,yl,ys0,ys1,Nat.reduceAdd,Nat.reduceMul,Nat.reduceSub,Nat.reduceBEq,Nat.reduceEqDiff,Nat.reduceLT,Nat.reduceLeDiff,reduceIte,Int.reduceAdd,Int.reduceSub,Int.reduceMul,Int.reduceLT,Int.reduceLE,Int.reduceEq,Int.reduceToNat,Int.reduceNeg,fitB,newC,endD,endR,yrg,t7,t10,b73',bG3,A_buildSlice st_brS_37_1]
    have gw3 : Gw G3 (H.size + 1) S v i (hsE.fl l) 72 3 := I.gw.frx (fun hk => by have := (I.gw.own k hk).1; omega) x1G
    refine gw_append (i := i) (cs := hsE.fl l) (news := [.int .i64 hv, .int .i64 lo, .int .i64 (lo + u)]) st_apS_37 (gw3.fr (Fr.alloc _ _)) (by (first | omega | (simp only [yz] <;> omega))) (by rw [fl_length, I.len]; rfl) (by unfold srcCells; simp (disch := (first | (simp only [ne_eq,Nat.reduceEqDiff,not_false_eq_true,Nat.reduceLT]; done) | omega | (simp only [yz] <;> omega) | fail)) only [yg,Nat.reduceAdd,Nat.reduceEqDiff,Nat.reduceLT]; rfl) (by omega) (by omega) rfl (by omega) ?_
    intro a1 c1 H4 hs4 fs4 gw4
    simp only [size_alloc] at hs4 fs4
    rw [show hsE.fl l ++ [Value.int .i64 hv, Value.int .i64 lo, Value.int .i64 (lo + u)] = hsE.fl (l ++ [⟨hv, lo, lo + u⟩]) by rw [fl_app]; rfl] at gw4
    have old : ∀ j, j < G3.size → ¬ S j → H4.get j = G3.get j := fun j hj hS => by rw [fs4 j (by omega) hS, get_alloc_lt hj]
    have b74 : H4.get (H.size + 1) = .rw [.int .i64 p, v] 39 false [] := (old _ (by omega) (I.gw.low _ (Nat.le_refl _))).trans b73'
    have b14 : H4.get H3.size = .rw [.int .i64 hv, .int .i64 lo, .int .i64 (lo + u)] 72 false [] := (old _ (by omega) (fun hS => by have := (I.gw.own _ hS).2; omega)).trans bG3
    have es1 : isum ((l ++ [(⟨hv, lo, lo + u⟩ : Hs)]).map Hs.l) = isum (l.map Hs.l) + lo := by rw [List.map_append, isum_app]; show _ + (lo + 0) = _; omega
    have es2 : isum ((l ++ [(⟨hv, lo, lo + u⟩ : Hs)]).map Hs.m) = isum (l.map Hs.m) + (lo + u) := by rw [List.map_append, isum_app]; show _ + (lo + u + 0) = _; omega
    have wl : w64 (isum (l.map Hs.l) + lo) = isum (l.map Hs.l) + lo := w64_of (by omega)
    have wmm : w64 (isum (l.map Hs.m) + (lo + u)) = isum (l.map Hs.m) + (lo + u) := w64_of (by omega)
    simp (disch := (first | (simp only [ne_eq,Nat.reduceEqDiff,not_false_eq_true,Nat.reduceLT]; done) | omega | (simp only [yz] <;> omega) | fail)) only [↓yp,yq0,yq1,yq2,yq3,yq4,yl,ys0,ys1,Nat.reduceAdd,Nat.reduceMul,Nat.reduceSub,Nat.reduceBEq,Nat.reduceEqDiff,Nat.reduceLT,Nat.reduceLeDiff,reduceIte,Int.reduceAdd,Int.reduceSub,Int.reduceMul,Int.reduceLT,Int.reduceLE,Int.reduceEq,Int.reduceToNat,Int.reduceNeg,fitB,newC,endD,endR,yrg,t7,b74]
    refine W_draw [] rfl (by kernel_rfl) (by kernel_rfl) (by (first | omega | (simp only [yz] <;> omega))) ?_
    simp (disch := (first | (simp only [ne_eq,Nat.reduceEqDiff,not_false_eq_true,Nat.reduceLT]; done) | omega | (simp only [yz] <;> omega) | fail)) only [↓yp,yq0,yq1,yq2,yq3,yq4,yl,ys0,ys1,Nat.reduceAdd,Nat.reduceMul,Nat.reduceSub,Nat.reduceBEq,Nat.reduceEqDiff,Nat.reduceLT,Nat.reduceLeDiff,reduceIte,Int.reduceAdd,Int.reduceSub,Int.reduceMul,Int.reduceLT,Int.reduceLE,Int.reduceEq,Int.reduceToNat,Int.reduceNeg,fitB,newC,endD,endR,yrg,t8,t9,t10,t20,b14,wl,wmm,hw2]
    have t6 := (kp3 6 (by decide)).trans k6
    have t1 := (kp3 1 (by decide)).trans k1
    have t0 := (kp3 0 (by decide)).trans k0
    have t19 := (kp3 19 (by decide)).trans k19
    have nok : ¬ S k := I.gw.low k (by omega)
    have gw5 := gw4.put (j := H.size + 1) (by rintro (hS | hS); exact I.gw.low _ (by omega) hS; simp only [size_alloc] at hS; omega) (.rw [.int .i64 p, .slice a1 (i + 1) c1] 39 false [])
    refine ⟨(n - (i + 1 : Nat)).toNat, by omega, i + 1, l ++ [⟨hv, lo, lo + u⟩], _, .slice a1 (i + 1) c1, rfl, by omega, ?_, ?_, ?_, ?_, ?_, ?_, ?_, ?_, ?_, ?_, ?_, ?_, ?_, gw5, ?_, ?_, ?_⟩
    · simp (disch := (first | (simp only [ne_eq,Nat.reduceEqDiff,not_false_eq_true,Nat.reduceLT]; done) | omega | (simp only [yz] <;> omega) | fail)) only [yg,Nat.reduceAdd,Nat.reduceEqDiff,Nat.reduceLT]
    · simp (disch := (first | (simp only [ne_eq,Nat.reduceEqDiff,not_false_eq_true,Nat.reduceLT]; done) | omega | (simp only [yz] <;> omega) | fail)) only [yg,Nat.reduceAdd,Nat.reduceEqDiff,Nat.reduceLT,t19]
    · simp (disch := (first | (simp only [ne_eq,Nat.reduceEqDiff,not_false_eq_true,Nat.reduceLT]; done) | omega | (simp only [yz] <;> omega) | fail)) only [yg,Nat.reduceAdd,Nat.reduceEqDiff,Nat.reduceLT,es2]
    · simp (disch := (first | (simp only [ne_eq,Nat.reduceEqDiff,not_false_eq_true,Nat.reduceLT]; done) | omega | (simp only [yz] <;> omega) | fail)) only [yg,Nat.reduceAdd,Nat.reduceEqDiff,Nat.reduceLT,es1]
    · simp (disch := (first | (simp only [ne_eq,Nat.reduceEqDiff,not_false_eq_true,Nat.reduceLT]; done) | omega | (simp only [yz] <;> omega) | fail)) only [yg,Nat.reduceAdd,Nat.reduceEqDiff,Nat.reduceLT,t7]
    · simp (disch := (first | (simp only [ne_eq,Nat.reduceEqDiff,not_false_eq_true,Nat.reduceLT]; done) | omega | (simp only [yz] <;> omega) | fail)) only [yg,Nat.reduceAdd,Nat.reduceEqDiff,Nat.reduceLT,t6]
    · simp (disch := (first | (simp only [ne_eq,Nat.reduceEqDiff,not_false_eq_true,Nat.reduceLT]; done) | omega | (simp only [yz] <;> omega) | fail)) only [yg,Nat.reduceAdd,Nat.reduceEqDiff,Nat.reduceLT,t1]
    · simp (disch := (first | (simp only [ne_eq,Nat.reduceEqDiff,not_false_eq_true,Nat.reduceLT]; done) | omega | (simp only [yz] <;> omega) | fail)) only [yg,Nat.reduceAdd,Nat.reduceEqDiff,Nat.reduceLT,t0]
    · have : Chu (H4.put (H.size + 1) (.rw [.int .i64 p, .slice a1 (i + 1) c1] 39 false [])) k a bs cap (q + 2 + 3 * i + 1 + 1 + 1) := by
        refine h.again ⟨by rw [size_put]; omega, fun j h1 h2 => by rw [get_put_ne (by omega), old j (by omega) (I.gw.low j (by omega)), x1G.same j (by omega) h2]; exact I.fr.same j h1 h2⟩ ?_
        rw [get_put_ne (by omega), old k (by omega) nok, ck3]; exact hcG2.blk
      exact this.mono (by omega)
    · exact ⟨by rw [size_put]; omega, fun j h1 h2 => by rw [get_put_ne (by omega), old j (by omega) (I.gw.low j (by omega)), x1G.same j (by omega) h2]; exact I.fr.same j h1 h2⟩
    · rw [size_put]; omega
    · exact get_put_same (by omega)
    · rw [get_put_ne (by omega), old H.size (by omega) (I.gw.low _ (by omega)), x1G.same H.size (by omega) (by omega)]; exact b6
    · rw [List.length_append, I.len]; rfl
    · intro x hx
      rcases List.mem_append.1 hx with hx | hx
      · exact I.ok x hx
      · rw [List.mem_singleton.1 hx]
        exact ⟨by show 0 ≤ hv ∧ hv ≤ 39; omega, by show 0 ≤ lo ∧ lo ≤ 5; omega, by show lo ≤ lo + u; omega, by show lo + u ≤ 405; omega⟩
    · rw [es1]; omega
  · have hie : (i : Int) = n := by have : ¬ (i : Int) < n := by simpa using hA
                                   omega
    have hne : l ≠ [] := by rintro rfl; have := I.len; simp at this; omega
    have hlen := I.len
    -- what a list of houses in the row gives
    have fin : ∀ (b : Nat) (l' : List Hs) (H2 : AHeap), v = .slice (some ⟨b, 0, none⟩) i (OPEN + 3) → S b → l'.length = i → isum (l'.map Hs.l) ≤ p → p ≤ isum (l'.map Hs.m) → (∀ x ∈ l', (0 ≤ x.v ∧ x.v ≤ 39) ∧ 0 ≤ x.l ∧ x.l ≤ x.m ∧ x.m ≤ 500) → FrX k H H2 → H2.get k = H1.get k → Gw H2 (H.size + 1) S v i (hsE.fl l') 72 3 → ∃ b c p' hs, Value.agg ⟨[.int .i64 p, v]⟩ = .agg ⟨[.int .i64 p', .slice (some ⟨b, 0, none⟩) hs.length c]⟩ ∧ BilOk p' hs ∧ p' ≤ PP ∧ isum (hs.map Hs.l) ≤ p' ∧ p' ≤ isum (hs.map Hs.m) ∧ (hs.length : Int) ≤ nh ∧ (∀ h ∈ hs, h.v ≤ 39) ∧ Rx k hsE H2 (some ⟨b, 0, none⟩) hs ∧ H.size ≤ b ∧ Chu H2 k a bs cap (q + 20) ∧ FrX k H H2 := by
      rintro b l' H2 rfl sb hl1 hl2 hl3 hl4 fr2 hk2 gw2
      refine ⟨b, OPEN + 3, p, l', by rw [hl1], ⟨by omega, by omega, fun x hx => ⟨by have := hl4 x hx; omega, by have := hl4 x hx; omega, by have := hl4 x hx; omega⟩⟩, by omega, hl2, hl3, by omega, fun x hx => (hl4 x hx).1.2, ?_, by have := (I.gw.own b sb).1; omega, ?_, fr2⟩
      · refine Gw.rx (tb := H.size + 1) (c := OPEN + 3) (el := 72) (S := S) ?_ (I.gw.low k (by omega))
        rw [hl1]; exact gw2
      · have : Chu H2 k a bs cap (q + 2 + 3 * i) := by
          refine h.again fr2 ?_
          rw [hk2]; exact I.chu.blk
        exact this.mono (by omega)
    obtain ⟨b, al, ev, sb, bb, sal⟩ := I.gw.cons (by omega)
    simp (disch := (first | (simp only [ne_eq,Nat.reduceEqDiff,not_false_eq_true,Nat.reduceLT]; done) | omega | (simp only [yz] <;> omega) | fail)) only [↓yp,yq0,yq1,yq2,yq3,yq4,yl,ys0,ys1,Nat.reduceAdd,Nat.reduceMul,Nat.reduceSub,Nat.reduceBEq,Nat.reduceEqDiff,Nat.reduceLT,Nat.reduceLeDiff,reduceIte,Int.reduceAdd,Int.reduceSub,Int.reduceMul,Int.reduceLT,Int.reduceLE,Int.reduceEq,Int.reduceToNat,Int.reduceNeg,fitB,newC,endD,endR,yrg,g9,g7,b7,g6,b6]
    refine ⟨fun hB => ?_, fun hB => ?_⟩
    · obtain ⟨init, x, hlx⟩ : ∃ init x, l = init ++ [x] := ⟨l.dropLast, l.getLast hne, (List.dropLast_concat_getLast hne).symm⟩
      obtain ⟨m, rfl⟩ : ∃ m, i = m + 1 := ⟨i - 1, by omega⟩
      have ei : init.length = m := by rw [hlx, List.length_append] at hlen; simp at hlen; omega
      have hlt3 : isum (l.map Hs.m) < p := by simpa using hB
      have sm : isum (l.map Hs.m) = isum (init.map Hs.m) + x.m := by rw [hlx, List.map_append, isum_app]; show _ + (x.m + 0) = _; omega
      have sl : isum (l.map Hs.l) = isum (init.map Hs.l) + x.l := by rw [hlx, List.map_append, isum_app]; show _ + (x.l + 0) = _; omega
      have xok := I.ok x (by rw [hlx]; simp)
      have ib : 0 ≤ isum (init.map Hs.m) := (isum_le (m := 405) fun y hy => by
        obtain ⟨z, hz, rfl⟩ := List.mem_map.1 hy
        have := I.ok z (by rw [hlx]; simp [hz]); omega).1
      have wi1 : w64 (((m + 1 : Nat) : Int) - 1) = (m : Int) := by rw [w64_of (by omega)]; omega
      have wd : w64 (p - isum (l.map Hs.m)) = p - isum (l.map Hs.m) := w64_of (by omega)
      have wx : w64 (x.m + (p - isum (l.map Hs.m))) = x.m + (p - isum (l.map Hs.m)) := w64_of (by omega)
      have efl : hsE.fl l = hsE.fl init ++ [.int .i64 x.v, .int .i64 x.l, .int .i64 x.m] := by rw [hlx, fl_app]; rfl
      have il : (hsE.fl init).length = m * 3 := by rw [fl_length, ei]; rfl
      have rd : (hsE.fl l)[m * 3 + 2]? = some (.int .i64 x.m) := by rw [efl, List.getElem?_append_right (by omega), il, show m * 3 + 2 - m * 3 = 2 by omega]; rfl
      simp (disch := (first | (simp only [ne_eq,Nat.reduceEqDiff,not_false_eq_true,Nat.reduceLT]; done) | omega | (simp only [yz] <;> omega) | fail)) only [↓yp,yq0,yq1,yq2,yq3,yq4,yl,ys0,ys1,Nat.reduceAdd,Nat.reduceMul,Nat.reduceSub,Nat.reduceBEq,Nat.reduceEqDiff,Nat.reduceLT,Nat.reduceLeDiff,reduceIte,Int.reduceAdd,Int.reduceSub,Int.reduceMul,Int.reduceLT,Int.reduceLE,Int.reduceEq,Int.reduceToNat,Int.reduceNeg,fitB,newC,endD,endR,yrg,g9,g7,b7,ev,A_indexSlice st_esS_37,lenV_slice st_esS_37,wi1]
      refine W_drawR (pl := []) [11] [(3, 1)] (planK_of rfl) (by kernel_rfl) (by kernel_rfl) (by kernel_rfl) (by (first | omega | (simp only [yz] <;> omega))) ?_
      have fit : decide (m * 3 + 2 + 1 ≤ (hsE.fl l).length) = true := decide_eq_true (by rw [efl, List.length_append, il]; simp)
      have nw : (hsE.fl l).take (m * 3 + 2) ++ [Value.int .i64 (x.m + (p - isum (l.map Hs.m)))] ++ (hsE.fl l).drop (m * 3 + 2 + [Value.int .i64 (x.m + (p - isum (l.map Hs.m)))].length) = hsE.fl (init ++ [⟨x.v, x.l, x.m + (p - isum (l.map Hs.m))⟩]) := by
        have e2 : (hsE.fl l).drop (m * 3 + 2 + [Value.int .i64 (x.m + (p - isum (l.map Hs.m)))].length) = [] := List.drop_eq_nil_of_le (by rw [efl, List.length_append, il]; exact Nat.le_refl _)
        have e1 : (hsE.fl l).take (m * 3 + 2) = hsE.fl init ++ [.int .i64 x.v, .int .i64 x.l] := by
          rw [efl, List.take_append, il, List.take_of_length_le (by omega), show m * 3 + 2 - m * 3 = 2 by omega]; rfl
        rw [fl_app, e2, e1, List.append_nil, List.append_assoc]; rfl
      have one : oneCells [Value.slice (some ⟨b, 0, none⟩) (m + 1) (OPEN + 3)] = true := rfl
      have hmn : L ≤ minAl b al := le_minAl (by have := (I.gw.own b sb).1; omega) (fun j hj => by have := (I.gw.own j (sal j hj)).1; omega)
      have ob := I.gw.own b sb
      have gs : ∀ blk, ((H1.kill al).put b blk).get (H.size + 1) = .rw [.int .i64 p, v] 39 false [] := fun blk => by rw [get_put_ne (by omega), get_kill (fun hm => I.gw.low _ (Nat.le_refl _) (sal _ hm))]; exact b7
      have gs6 : ∀ blk, ((H1.kill al).put b blk).get H.size = .rw [.int .i64 0, .slice none 0 0] 39 false [] := fun blk => by rw [get_put_ne (by omega), get_kill (fun hm => I.gw.low _ (by omega) (sal _ hm))]; exact b6
      simp (disch := (first | (simp only [ne_eq,Nat.reduceEqDiff,not_false_eq_true,Nat.reduceLT]; done) | omega | (simp only [yz] <;> omega) | fail)) only [↓yp,yq0,yq1,yq2,yq3,yq4,yl,ys0,ys1,Nat.reduceAdd,Nat.reduceMul,Nat.reduceSub,Nat.reduceBEq,Nat.reduceEqDiff,Nat.reduceLT,Nat.reduceLeDiff,reduceIte,Int.reduceAdd,Int.reduceSub,Int.reduceMul,Int.reduceLT,Int.reduceLE,Int.reduceEq,Int.reduceToNat,Int.reduceNeg,fitB,newC,endD,endR,yrg,A_nilCheck,nilQ_ptr,g9,g7,b7,ev,bb,rd,wd,wx,wrB_al,fit,nw,one,gs,gs6,g6,show minAl H.size [] = H.size from rfl]
      rw [← ev]
      have zk : b < (H1.kill al).size := by simp only [size_kill]; omega
      have nS : ∀ j, j ≤ H.size + 1 → j ∉ al := fun j hj hm => I.gw.low j hj (sal j hm)
      refine fin b (init ++ [⟨x.v, x.l, x.m + (p - isum (l.map Hs.m))⟩]) _ ev sb (by rw [List.length_append, ei]; rfl) ?_ ?_ ?_ ⟨by simp only [size_put,size_kill]; omega, fun j h1 h2 => ?_⟩ ?_ ?_
      · rw [List.map_append, isum_app]; show _ + (x.l + 0) ≤ p; omega
      · rw [List.map_append, isum_app]; show p ≤ _ + (x.m + (p - isum (l.map Hs.m)) + 0); omega
      · intro y hy
        rcases List.mem_append.1 hy with hy | hy
        · have := I.ok y (by rw [hlx]; simp [hy]); omega
        · rw [List.mem_singleton.1 hy]
          exact ⟨xok.1, by show 0 ≤ x.l; omega, by show x.l ≤ x.m + (p - isum (l.map Hs.m)); omega, by show x.m + (p - isum (l.map Hs.m)) ≤ 500; omega⟩
      · rw [get_put_ne (by omega), get_kill (List.not_mem_nil), get_put_ne (by omega), get_kill (nS j (by omega))]; exact I.fr.same j h1 h2
      · rw [get_put_ne (by omega), get_kill (List.not_mem_nil), get_put_ne (by omega), get_kill (nS k (by omega))]
      · refine ⟨fun h => by omega, fun _ => ⟨b, [], ev, sb, ?_, by simp⟩, fun j hj => by simp only [size_put,size_kill]; exact I.gw.own j hj⟩
        rw [get_put_ne (by omega), get_kill (List.not_mem_nil)]; exact (get_put_same zk).trans (congrArg (fun c => ABlk.rw c 72 true []) nw)
    · have one : oneCells [Value.slice (some ⟨b, 0, none⟩) i (OPEN + 3)] = true := rfl
      simp (disch := (first | (simp only [ne_eq,Nat.reduceEqDiff,not_false_eq_true,Nat.reduceLT]; done) | omega | (simp only [yz] <;> omega) | fail)) only [↓yp,yq0,yq1,yq2,yq3,yq4,yl,ys0,ys1,Nat.reduceAdd,Nat.reduceMul,Nat.reduceSub,Nat.reduceBEq,Nat.reduceEqDiff,Nat.reduceLT,Nat.reduceLeDiff,reduceIte,Int.reduceAdd,Int.reduceSub,Int.reduceMul,Int.reduceLT,Int.reduceLE,Int.reduceEq,Int.reduceToNat,Int.reduceNeg,fitB,newC,endD,endR,yrg,g9,g7,b7,g6,b6,ev,one]
      rw [← ev]
      refine fin b l _ ev sb hlen hle (by have : ¬ isum (l.map Hs.m) < p := by simpa using hB
                                          omega) (fun x hx => ⟨(I.ok x hx).1, by have := I.ok x hx; omega⟩) ⟨by rw [size_put]; omega, fun j h1 h2 => by rw [get_put_ne (by omega)]; exact I.fr.same j h1 h2⟩ (get_put_ne (by omega)) (I.gw.put (I.gw.low _ (by omega)) _)
end
end Go.Am
