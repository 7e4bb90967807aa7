/- Tables that bound, plainly; copies of minutes; two chutes. -/
import Derived.Test.YthchcnbmegglcaaT38
set_option linter.unusedSimpArgs false
set_option linter.unusedVariables false
namespace Go.Am
open Go.Proofs
variable {T : Tab} {P : Program} {N L : Nat} {H : AHeap} {Q : Bool → Value → AHeap → Prop}
theorem mu_least {ld x y : Int} (hx : okM x) (hy : okM y) : (fwd ld).mu (least2 x y) ≤ (fwd ld).mu x ∧ (fwd ld).mu (least2 x y) ≤ (fwd ld).mu y := by
  unfold okM at hx hy
  unfold least2 fwd
  simp only
  repeat' split
  all_goals omega
theorem mu_le {ld x m : Int} (hm : 0 ≤ m ∧ m ≤ 240) : (fwd ld).mu x ≤ m ↔ x ≠ -1 ∧ x ≤ m := by
  unfold fwd
  simp only
  split <;> omega
section
variable {l : List Str} {C w ld : Int} {a : Option Addr} {cap : Nat}
/-- A table that bounds is nowhere later than a cart can be. -/
theorem bnds_can {fr m : Int} {t : List Int} (g : Good C l ld) (hfr : 0 ≤ fr ∧ fr < C) (hm : 0 ≤ m ∧ m ≤ 240) (htl : t.length = C.toNat) (hto : ∀ x ∈ t, okM x) (hb : bnds C l w ld fr m t = true) :
    ∀ k x, Can l w ld fr m k x → tg t x ≠ -1 ∧ tg t x ≤ k := by
  have hC := g.hC
  have h8 : t.length ≤ 8 := by omega
  have hp := pad_ok h8 hto
  have hl := mu_least (ld := ld) (x := tg (pad t) fr) (y := m) (hp.2 fr) ⟨by omega, by omega⟩
  have hb0 : okM (least2 (tg (pad t) fr) m) := least2_ok (hp.2 fr) ⟨by omega, by omega⟩
  have hbt : okT ((pad t).set fr.toNat (least2 (tg (pad t) fr) m)) := okT_set hp (by omega) hb0
  have he : (fwd ld).spread l w ld C.toNat ((pad t).set fr.toNat (least2 (tg (pad t) fr) m)) = pad t := of_decide_eq_true hb
  have hsp := (fwd_ok g).spread (w := w) (ld := ld) (k := C.toNat) hbt
  rw [he] at hsp
  have hset : ∀ x, 0 ≤ x → (fwd ld).mu (tg ((pad t).set fr.toNat (least2 (tg (pad t) fr) m)) x) ≤ (fwd ld).mu (tg (pad t) x) := fun x hx => by
    rw [tg_set hp.1 (by omega) hx]
    split
    · rename_i e; rw [e]; exact hl.1
    · exact Int.le_refl _
  have key : ∀ k x, Can l w ld fr m k x → (fwd ld).mu (tg (pad t) x) ≤ k := by
    intro k x h
    induction h with
    | start =>
      have h1 := hsp.2 fr hfr.1
      rw [tg_set hp.1 (by omega) hfr.1, if_pos rfl] at h1
      have h2 : (fwd ld).mu m ≤ m := (mu_le hm).2 ⟨by omega, Int.le_refl _⟩
      omega
    | wait _ _ ih => omega
    | @go k i s b h1 hi hmy hs ih =>
      have hk := h1.le hm.2 g
      have hmem := List.mem_of_getElem? hi
      have hn := g.near hmem b
      obtain ⟨q1, q2⟩ := (mu_le (ld := ld) (x := tg (pad t) (nearL s b)) (m := k) (by omega)).1 ih
      have leg := (fwd_ok g).spread_leg (w := w) (ld := ld) (k := C.toNat) hbt (b := b) hi hmy hn.1 (by omega)
      rw [he] at leg
      have hs0 := hset (nearL s b) hn.1
      have hok0 := hbt.2 (nearL s b)
      obtain ⟨q3, q4⟩ := (mu_le (ld := ld) (x := tg ((pad t).set fr.toNat (least2 (tg (pad t) fr) m)) (nearL s b)) (m := k) (by omega)).1 (by omega)
      have hst := starts_eq hs
      unfold okM at hok0
      obtain ⟨r1, r2⟩ := arr_le (b := b) (g.fit hmem) (n := tg ((pad t).set fr.toNat (least2 (tg (pad t) fr) m)) (nearL s b)) (by omega) q4 hs
      have hcr : (fwd ld).cross s b (tg ((pad t).set fr.toNat (least2 (tg (pad t) fr) m)) ((fwd ld).known s b)) = arriveL s b ld (tg ((pad t).set fr.toNat (least2 (tg (pad t) fr) m)) (nearL s b)) := by
        show arrL s b ld (tg _ (nearL s b)) = _
        unfold arrL
        rw [if_neg q3]
      rw [hcr] at leg
      have leg' : (fwd ld).mu (tg (pad t) (farL s b)) ≤ (fwd ld).mu (arriveL s b ld (tg ((pad t).set fr.toNat (least2 (tg (pad t) fr) m)) (nearL s b))) := leg
      have : (fwd ld).mu (arriveL s b ld (tg ((pad t).set fr.toNat (least2 (tg (pad t) fr) m)) (nearL s b))) ≤ startsL s b ld k := (mu_le (by have := (g.fit hmem).takes b; omega)).2 ⟨r1, r2⟩
      omega
  intro k x h
  have hk := h.le hm.2 g
  have := key k x h
  rw [tg_pad h8] at this
  exact (mu_le (by omega)).1 this
theorem bnds_le {fr m : Int} {t : List Int} (g : Good C l ld) (hfr : 0 ≤ fr ∧ fr < C) (hm : 0 ≤ m ∧ m ≤ 240) (htl : t.length = C.toNat) (hto : ∀ x ∈ t, okM x) (hb : bnds C l w ld fr m t = true) {x : Int} (hx : 0 ≤ x) (h : tg (earT C l w ld fr m) x ≠ -1) : tg t x ≠ -1 ∧ tg t x ≤ tg (earT C l w ld fr m) x :=
  bnds_can g hfr hm htl hto hb _ _ ((earT_is g hfr hm).can x hx h)
theorem c58 {b o cap : Nat} {t : List Int} (hs : Il H (some ⟨b, o, none⟩) t) (hb : b < H.size) (hne : t ≠ []) (hl : t.length ≤ 1000) (hL : L ≤ H.size) {M : Nat} (hM : 60 ≤ M)
    (hq : ∀ k cap' H', Fr H H' → H.size ≤ k → k < H'.size → H'.get k = .rw (tv t) 3 true [] → Q false (.slice (some ⟨k, 0, none⟩) t.length cap') H') : resK (acall tabA (aexec tabA Try.prog M) 58 [.slice (some ⟨b, o, none⟩) t.length cap] H) L Q := by
  obtain ⟨N, rfl⟩ : ∃ N, M = N + 60 := ⟨M - 60, by omega⟩
  refine call_fls (R := fun v H' => ∃ k cap', v = .slice (some ⟨k, 0, none⟩) t.length cap' ∧ Fr H H' ∧ H.size ≤ k ∧ k < H'.size ∧ H'.get k = .rw (tv t) 3 true []) (k := 9) (rs := [.tmp 2]) rfl fn_58 rfl rfl rfl hL ?_ ?_ ?_
  · have hpos : 0 < t.length := List.length_pos_iff.2 hne
    have h0 : decide ((t.length : Int) = 0) = false := by simp; omega
    simp (disch := (first | (simp only [ne_eq,Nat.reduceEqDiff,not_false_eq_true,Nat.reduceLT]; done) | omega | (simp only [yz] <;> omega) | fail)) only [↓yp,yq0,yq1,yq2,yq3,yq4,yl,ys0,ys1,Nat.reduceAdd,Nat.reduceMul,Nat.reduceSub,Nat.reduceBEq,Nat.reduceEqDiff,Nat.reduceLT,Nat.reduceLeDiff,reduceIte,Int.reduceAdd,Int.reduceSub,Int.reduceMul,Int.reduceLT,Int.reduceLE,Int.reduceEq,Int.reduceToNat,Int.reduceNeg,zed,zee,zfr,zhw,ysu,yrg,ysv,ysw,lenV_slice zir,h0,A_buildSlice st_brS_52_0]
    rw [apK_empty (H := _) (n := t.length) st_apS_52 ((hs.fr (Fr.alloc _ _)).src hne) hpos (by omega) (by omega) (one_tv t) (c₀ := []) (by simp (disch := (first | (simp only [ne_eq,Nat.reduceEqDiff,not_false_eq_true,Nat.reduceLT]; done) | omega | (simp only [yz] <;> omega) | fail)) only [yg,Nat.reduceAdd,Nat.reduceEqDiff,Nat.reduceLT])]
    simp (disch := (first | (simp only [ne_eq,Nat.reduceEqDiff,not_false_eq_true,Nat.reduceLT]; done) | omega | (simp only [yz] <;> omega) | fail)) only [↓yp,yq0,yq1,yq2,yq3,yq4,yl,ys0,ys1,Nat.reduceAdd,Nat.reduceMul,Nat.reduceSub,Nat.reduceBEq,Nat.reduceEqDiff,Nat.reduceLT,Nat.reduceLeDiff,reduceIte,Int.reduceAdd,Int.reduceSub,Int.reduceMul,Int.reduceLT,Int.reduceLE,Int.reduceEq,Int.reduceToNat,Int.reduceNeg,zed,zee,zfr,zhw,ysu,yrg,ysv,ysw]
    exact ⟨_, _, rfl, by (repeat (first | exact Fr.refl _ | assumption | refine Fr.allocd ?_ _ | refine Fr.kill ?_ (by first | assumption | omega) | refine Fr.put ?_ (by first | omega | (simp only [yz] <;> omega)) _)), by (first | omega | (simp only [yz] <;> omega)), by (first | omega | (simp only [yz] <;> omega)), by simp (disch := (first | (simp only [ne_eq,Nat.reduceEqDiff,not_false_eq_true,Nat.reduceLT]; done) | omega | (simp only [yz] <;> omega) | fail)) only [yg,Nat.reduceAdd,Nat.reduceEqDiff,Nat.reduceLT]⟩
  · rintro v H' ⟨k, cap', rfl, -⟩; rfl
  · rintro v H' ⟨k, cap', rfl, h1, h2, h3, h4⟩
    exact hq _ _ _ h1 h2 h3 h4
set_option maxHeartbeats 1000000 in
/-- Nowhere sooner. -/
theorem c60 {a a' : Option Addr} {cap cap' : Nat} {t t' : List Int} (hs : Il H a t) (hs' : Il H a' t') (hl : t.length ≤ 8) (hll : t'.length = t.length) (h : ∀ x : Int, 0 ≤ x → tg t x ≠ -1 → tg t' x ≠ -1 ∧ tg t' x ≤ tg t x) :
    acall tabA (aexec tabA Try.prog (N + 100)) 60 [.slice a t.length cap, .slice a' t'.length cap'] H = some (true, .bool true, H, H.size) := by
  refine call_quiet (k := 37) (rs := [.tmp 4]) rfl fn_60 rfl rfl rfl ?_ rfl
  have hcc : ∀ x : Int, decide (x = x) = true := fun x => by simp
  rw [hll]
  simp (disch := (first | (simp only [ne_eq,Nat.reduceEqDiff,not_false_eq_true,Nat.reduceLT]; done) | omega | (simp only [yz] <;> omega) | fail)) only [↓yp,yq0,yq1,yq2,yq3,yq4,yl,ys0,ys1,Nat.reduceAdd,Nat.reduceMul,Nat.reduceSub,Nat.reduceBEq,Nat.reduceEqDiff,Nat.reduceLT,Nat.reduceLeDiff,reduceIte,Int.reduceAdd,Int.reduceSub,Int.reduceMul,Int.reduceLT,Int.reduceLE,Int.reduceEq,Int.reduceToNat,Int.reduceNeg,zed,zee,zfr,zhw,ysu,yrg,ysv,ysw,lenV_slice zir,hcc]
  refine W_while (n := 37) 40 (fun k e H' => ∃ i : Nat, k = t.length - i ∧ i ≤ t.length ∧ gt 37 e 14 = .int .i64 (i : Nat) ∧ gt 37 e 13 = .int .i64 t.length ∧ gt 37 e 12 = .slice a t.length cap ∧ gt 37 e 1 = .slice a' t.length cap' ∧ H' = H)
    ?_ 8 t.length ⟨0, by omega, by omega, by simp (disch := (first | (simp only [ne_eq,Nat.reduceEqDiff,not_false_eq_true,Nat.reduceLT]; done) | omega | (simp only [yz] <;> omega) | fail)) only [yg,Nat.reduceAdd,Nat.reduceEqDiff,Nat.reduceLT]; rfl, by simp (disch := (first | (simp only [ne_eq,Nat.reduceEqDiff,not_false_eq_true,Nat.reduceLT]; done) | omega | (simp only [yz] <;> omega) | fail)) only [yg,Nat.reduceAdd,Nat.reduceEqDiff,Nat.reduceLT], by simp (disch := (first | (simp only [ne_eq,Nat.reduceEqDiff,not_false_eq_true,Nat.reduceLT]; done) | omega | (simp only [yz] <;> omega) | fail)) only [yg,Nat.reduceAdd,Nat.reduceEqDiff,Nat.reduceLT], by simp (disch := (first | (simp only [ne_eq,Nat.reduceEqDiff,not_false_eq_true,Nat.reduceLT]; done) | omega | (simp only [yz] <;> omega) | fail)) only [yg,Nat.reduceAdd,Nat.reduceEqDiff,Nat.reduceLT], rfl⟩ (by omega) (by omega)
  rintro M k e H' ⟨i, rfl, hi, g14, g13, g12, g1, rfl⟩
  simp (disch := (first | (simp only [ne_eq,Nat.reduceEqDiff,not_false_eq_true,Nat.reduceLT]; done) | omega | (simp only [yz] <;> omega) | fail)) only [↓yp,yq0,yq1,yq2,yq3,yq4,yl,ys0,ys1,Nat.reduceAdd,Nat.reduceMul,Nat.reduceSub,Nat.reduceBEq,Nat.reduceEqDiff,Nat.reduceLT,Nat.reduceLeDiff,reduceIte,Int.reduceAdd,Int.reduceSub,Int.reduceMul,Int.reduceLT,Int.reduceLE,Int.reduceEq,Int.reduceToNat,Int.reduceNeg,zed,zee,zfr,zhw,ysu,yrg,ysv,ysw,g14,g13]
  refine ⟨fun hA => ?_, fun hA => ?_⟩
  · have hi' : i < t.length := by simpa using hA
    have hne : t ≠ [] := fun h => by rw [h] at hi'; simp at hi'
    have hne' : t' ≠ [] := fun h => by rw [h] at hll; simp at hll; omega
    obtain ⟨b, o, c, rfl, hb, hc, hp⟩ := hs.get hne
    obtain ⟨b', o', c', rfl, hb', hc', hp'⟩ := hs'.get hne'
    obtain ⟨v, hv⟩ : ∃ v, t[i]? = some v := ⟨t[i], by simp [hi']⟩
    obtain ⟨v', hv'⟩ : ∃ v, t'[i]? = some v := ⟨t'[i]'(by omega), by simp [show i < t'.length by omega]⟩
    have q := hp i v hv
    have q' := hp' i v' hv'
    have e1 : tg t (i : Int) = v := by unfold tg; rw [List.getD_eq_getElem?_getD, Int.toNat_natCast, hv]; rfl
    have e2 : tg t' (i : Int) = v' := by unfold tg; rw [List.getD_eq_getElem?_getD, Int.toNat_natCast, hv']; rfl
    have hk := h (i : Int) (by omega)
    rw [e1, e2] at hk
    have hw2 : w64 ((i : Int) + 1) = ((i + 1 : Nat) : Int) := by rw [w64_of (by omega)]; omega
    have fin : ∀ e', gt 37 e' 14 = .int .i64 ((i + 1 : Nat) : Int) → gt 37 e' 13 = .int .i64 t.length → gt 37 e' 12 = .slice (some ⟨b, o, none⟩) t.length cap → gt 37 e' 1 = .slice (some ⟨b', o', none⟩) t.length cap' → ∃ k', k' < t.length - i ∧ ∃ i : Nat, k' = t.length - i ∧ i ≤ t.length ∧ gt 37 e' 14 = .int .i64 (i : Nat) ∧ gt 37 e' 13 = .int .i64 t.length ∧ gt 37 e' 12 = .slice (some ⟨b, o, none⟩) t.length cap ∧ gt 37 e' 1 = .slice (some ⟨b', o', none⟩) t.length cap' ∧ H' = H' := fun e' h1 h2 h3 h4 => ⟨t.length - (i + 1), by omega, i + 1, rfl, by omega, h1, h2, h3, h4, rfl⟩
    cases hn : decide (v = -1)
    · obtain ⟨k1, k2⟩ := hk (of_decide_eq_false hn)
      have d1 : decide (v' = -1) = false := by simpa using k1
      have d2 : decide (v < v') = false := by simp; omega
      simp (disch := (first | (simp only [ne_eq,Nat.reduceEqDiff,not_false_eq_true,Nat.reduceLT]; done) | omega | (simp only [yz] <;> omega) | fail)) only [↓yp,yq0,yq1,yq2,yq3,yq4,yl,ys0,ys1,Nat.reduceAdd,Nat.reduceMul,Nat.reduceSub,Nat.reduceBEq,Nat.reduceEqDiff,Nat.reduceLT,Nat.reduceLeDiff,reduceIte,Int.reduceAdd,Int.reduceSub,Int.reduceMul,Int.reduceLT,Int.reduceLE,Int.reduceEq,Int.reduceToNat,Int.reduceNeg,zed,zee,zfr,zhw,ysu,yrg,ysv,ysw,g14,g13,g12,g1,A_indexSlice zir,hc,hc',q,q',hn,d1,d2,hw2]
      exact fin _ (by simp (disch := (first | (simp only [ne_eq,Nat.reduceEqDiff,not_false_eq_true,Nat.reduceLT]; done) | omega | (simp only [yz] <;> omega) | fail)) only [yg,Nat.reduceAdd,Nat.reduceEqDiff,Nat.reduceLT]) (by simp (disch := (first | (simp only [ne_eq,Nat.reduceEqDiff,not_false_eq_true,Nat.reduceLT]; done) | omega | (simp only [yz] <;> omega) | fail)) only [yg,Nat.reduceAdd,Nat.reduceEqDiff,Nat.reduceLT,g13]) (by simp (disch := (first | (simp only [ne_eq,Nat.reduceEqDiff,not_false_eq_true,Nat.reduceLT]; done) | omega | (simp only [yz] <;> omega) | fail)) only [yg,Nat.reduceAdd,Nat.reduceEqDiff,Nat.reduceLT,g12]) (by simp (disch := (first | (simp only [ne_eq,Nat.reduceEqDiff,not_false_eq_true,Nat.reduceLT]; done) | omega | (simp only [yz] <;> omega) | fail)) only [yg,Nat.reduceAdd,Nat.reduceEqDiff,Nat.reduceLT,g1])
    · simp (disch := (first | (simp only [ne_eq,Nat.reduceEqDiff,not_false_eq_true,Nat.reduceLT]; done) | omega | (simp only [yz] <;> omega) | fail)) only [↓yp,yq0,yq1,yq2,yq3,yq4,yl,ys0,ys1,Nat.reduceAdd,Nat.reduceMul,Nat.reduceSub,Nat.reduceBEq,Nat.reduceEqDiff,Nat.reduceLT,Nat.reduceLeDiff,reduceIte,Int.reduceAdd,Int.reduceSub,Int.reduceMul,Int.reduceLT,Int.reduceLE,Int.reduceEq,Int.reduceToNat,Int.reduceNeg,zed,zee,zfr,zhw,ysu,yrg,ysv,ysw,g14,g13,g12,g1,A_indexSlice zir,hc,hc',q,q',hn,hw2]
      exact fin _ (by simp (disch := (first | (simp only [ne_eq,Nat.reduceEqDiff,not_false_eq_true,Nat.reduceLT]; done) | omega | (simp only [yz] <;> omega) | fail)) only [yg,Nat.reduceAdd,Nat.reduceEqDiff,Nat.reduceLT]) (by simp (disch := (first | (simp only [ne_eq,Nat.reduceEqDiff,not_false_eq_true,Nat.reduceLT]; done) | omega | (simp only [yz] <;> omega) | fail)) only [yg,Nat.reduceAdd,Nat.reduceEqDiff,Nat.reduceLT,g13]) (by simp (disch := (first | (simp only [ne_eq,Nat.reduceEqDiff,not_false_eq_true,Nat.reduceLT]; done) | omega | (simp only [yz] <;> omega) | fail)) only [yg,Nat.reduceAdd,Nat.reduceEqDiff,Nat.reduceLT,g12]) (by simp (disch := (first | (simp only [ne_eq,Nat.reduceEqDiff,not_false_eq_true,Nat.reduceLT]; done) | omega | (simp only [yz] <;> omega) | fail)) only [yg,Nat.reduceAdd,Nat.reduceEqDiff,Nat.reduceLT,g1])
  · simp (disch := (first | (simp only [ne_eq,Nat.reduceEqDiff,not_false_eq_true,Nat.reduceLT]; done) | omega | (simp only [yz] <;> omega) | fail)) only [↓yp,yq0,yq1,yq2,yq3,yq4,yl,ys0,ys1,Nat.reduceAdd,Nat.reduceMul,Nat.reduceSub,Nat.reduceBEq,Nat.reduceEqDiff,Nat.reduceLT,Nat.reduceLeDiff,reduceIte,Int.reduceAdd,Int.reduceSub,Int.reduceMul,Int.reduceLT,Int.reduceLE,Int.reduceEq,Int.reduceToNat,Int.reduceNeg,zed,zee,zfr,zhw,ysu,yrg,ysv,ysw]
theorem Chu.frx {k k' : Nat} {a a' : Option Addr} {bs bs' : List Int} {cap cap' : Nat} {H H' : AHeap} (h : Chu H k a bs cap) (h' : Chu H k' a' bs' cap') (hne : k ≠ k') (f : FrX k' H H') : Chu H' k a bs cap where
  lt := Nat.lt_of_lt_of_le h.lt f.size
  blk := by rw [f.same k h.lt hne]; exact h.blk
  row hn := by
    obtain ⟨b, o, c, h1, h2, h3, h4⟩ := h.row hn
    obtain ⟨u, s, h5, _⟩ := h'.blk
    exact ⟨b, o, c, h1, Nat.lt_of_lt_of_le h2 f.size, by rw [f.same b h2 (fun e => by subst e; rw [h5] at h3; cases h3)]; exact h3, h4⟩
  byte := h.byte
  len := h.len
/-- What laws that make their towns of numbers know: the town and the cart, in some temporaries. -/
structure LQ (n p q : Nat) (H : AHeap) (C w ld : Int) (l : List Str) (i8 i9 : Nat) (a' : Option Addr) (cap' : Nat) (e : VT) (H' : AHeap) : Prop where
  g8 : gt n e p = .pointer (some ⟨i8, 0, none⟩)
  g9 : gt n e q = .pointer (some ⟨i9, 0, none⟩)
  fr : Fr H H'
  l8 : i8 < H'.size
  l9 : i9 < H'.size
  b8 : H'.get i8 = .rw [.int .i64 C, .slice a' l.length cap'] 24 false []
  b9 : H'.get i9 = .rw [.int .i64 w, .int .i64 ld] 26 false []
  sl : Sl H' a' l
theorem LQ.next {n p q i8 i9 : Nat} {a' : Option Addr} {cap' : Nat} {e e' : VT} {H' H'' : AHeap} (I : LQ n p q H C w ld l i8 i9 a' cap' e H') (f : Fr H' H'') (h : Keep n [p, q] e e') : LQ n p q H C w ld l i8 i9 a' cap' e' H'' where
  g8 := (h p (by simp)).trans I.g8
  g9 := (h q (by simp)).trans I.g9
  fr := I.fr.trans f
  l8 := Nat.lt_of_lt_of_le I.l8 f.size
  l9 := Nat.lt_of_lt_of_le I.l9 f.size
  b8 := (f.same _ I.l8).trans I.b8
  b9 := (f.same _ I.l9).trans I.b9
  sl := I.sl.fr f
theorem LQ.frx {n p q k i8 i9 : Nat} {a' ab : Option Addr} {bs : List Int} {capb cap' : Nat} {e e' : VT} {H' H'' : AHeap} (I : LQ n p q H C w ld l i8 i9 a' cap' e H') (h8 : i8 ≠ k) (h9 : i9 ≠ k) (hk : H.size ≤ k) (hc : Chu H' k ab bs capb) (f : FrX k H' H'') (h : Keep n [p, q] e e') : LQ n p q H C w ld l i8 i9 a' cap' e' H'' where
  g8 := (h p (by simp)).trans I.g8
  g9 := (h q (by simp)).trans I.g9
  fr := f.above I.fr hk
  l8 := Nat.lt_of_lt_of_le I.l8 f.size
  l9 := Nat.lt_of_lt_of_le I.l9 f.size
  b8 := (f.same _ I.l8 h8).trans I.b8
  b9 := (f.same _ I.l9 h9).trans I.b9
  sl := I.sl.frx hc f
end
end Go.Am
/- The law StreetTables: one number of a table is changed. -/
namespace Go.Am
open Go.Proofs
variable {T : Tab} {P : Program} {N L : Nat} {H : AHeap} {Q : Bool → Value → AHeap → Prop}
section
variable {l : List Str} {C w ld fr wh wn : Int} {i8 i9 k16 c16 : Nat} {a' b2 : Option Addr} {cap' cap2 : Nat} {bs2 : List Int} {H' : AHeap} {e : VT}
/-- What the law knows after the tables are asked for. -/
structure TS (H : AHeap) (C w ld : Int) (l : List Str) (i8 i9 : Nat) (a' : Option Addr) (cap' : Nat) (b2 : Option Addr) (bs2 : List Int) (cap2 : Nat) (fr wh wn : Int) (k16 c16 : Nat) (e : VT) (H' : AHeap) : Prop where
  q : LQ 140 11 12 H C w ld l i8 i9 a' cap' e H'
  g10 : gt 140 e 10 = .pointer (some ⟨H.size + 1, 0, none⟩)
  g13 : gt 140 e 13 = .int .i64 fr
  g14 : gt 140 e 14 = .int .i64 wh
  g15 : gt 140 e 15 = .int .i64 wn
  g16 : gt 140 e 16 = .slice (some ⟨k16, 0, none⟩) C.toNat c16
  h8 : H.size + 1 < i8 ∧ i8 < k16
  h9 : H.size + 1 < i9 ∧ i9 < k16
  kk : H.size + 1 < k16
  l16 : k16 < H'.size
  b16 : H'.get k16 = .rw (tv ((earT C l w ld fr wn).take C.toNat)) 3 true []
  c2 : Chu H' (H.size + 1) b2 bs2 cap2
theorem TS.next {e' : VT} {H'' : AHeap} (I : TS H C w ld l i8 i9 a' cap' b2 bs2 cap2 fr wh wn k16 c16 e H') (f : Fr H' H'') (h : Keep 140 [10, 11, 12, 13, 14, 15, 16] e e') : TS H C w ld l i8 i9 a' cap' b2 bs2 cap2 fr wh wn k16 c16 e' H'' where
  q := I.q.next f (fun p hp => h p (by simp at hp ⊢; omega))
  g10 := (h 10 (by simp)).trans I.g10
  g13 := (h 13 (by simp)).trans I.g13
  g14 := (h 14 (by simp)).trans I.g14
  g15 := (h 15 (by simp)).trans I.g15
  g16 := (h 16 (by simp)).trans I.g16
  h8 := I.h8
  h9 := I.h9
  kk := I.kk
  l16 := Nat.lt_of_lt_of_le I.l16 f.size
  b16 := (f.same _ I.l16).trans I.b16
  c2 := I.c2.fr f
theorem TS.frx {e' : VT} {H'' : AHeap} (I : TS H C w ld l i8 i9 a' cap' b2 bs2 cap2 fr wh wn k16 c16 e H') (hc : Chu H'' (H.size + 1) b2 bs2 cap2) (f : FrX (H.size + 1) H' H'') (h : Keep 140 [10, 11, 12, 13, 14, 15, 16] e e') : TS H C w ld l i8 i9 a' cap' b2 bs2 cap2 fr wh wn k16 c16 e' H'' where
  q := I.q.frx (by have := I.h8; omega) (by have := I.h9; omega) (by omega) I.c2 f (fun p hp => h p (by simp at hp ⊢; omega))
  g10 := (h 10 (by simp)).trans I.g10
  g13 := (h 13 (by simp)).trans I.g13
  g14 := (h 14 (by simp)).trans I.g14
  g15 := (h 15 (by simp)).trans I.g15
  g16 := (h 16 (by simp)).trans I.g16
  h8 := I.h8
  h9 := I.h9
  kk := I.kk
  l16 := Nat.lt_of_lt_of_le I.l16 f.size
  b16 := (f.same _ I.l16 (by have := I.kk; omega)).trans I.b16
  c2 := hc
/-- A row of numbers that no town and no chute has is written anew. -/
theorem TS.put {e' : VT} {k : Nat} {c c' : List Value} (I : TS H C w ld l i8 i9 a' cap' b2 bs2 cap2 fr wh wn k16 c16 e H') (hk : k16 < k) (hb : H'.get k = .rw c 3 true []) (hd : c.length < 9) (h : Keep 140 [10, 11, 12, 13, 14, 15, 16] e e') : TS H C w ld l i8 i9 a' cap' b2 bs2 cap2 fr wh wn k16 c16 e' (H'.put k (.rw c' 3 true [])) where
  q := {
    g8 := (h 11 (by simp)).trans I.q.g8
    g9 := (h 12 (by simp)).trans I.q.g9
    fr := Fr.put I.q.fr (by have := I.kk; omega) _
    l8 := by rw [zdf]; exact I.q.l8
    l9 := by rw [zdf]; exact I.q.l9
    b8 := by rw [zdd (by have := I.h8; omega)]; exact I.q.b8
    b9 := by rw [zdd (by have := I.h9; omega)]; exact I.q.b9
    sl := Sl.put I.q.sl (c := c) (by rw [hb]; rfl) hd }
  g10 := (h 10 (by simp)).trans I.g10
  g13 := (h 13 (by simp)).trans I.g13
  g14 := (h 14 (by simp)).trans I.g14
  g15 := (h 15 (by simp)).trans I.g15
  g16 := (h 16 (by simp)).trans I.g16
  h8 := I.h8
  h9 := I.h9
  kk := I.kk
  l16 := by rw [zdf]; exact I.l16
  b16 := by rw [zdd (by omega)]; exact I.b16
  c2 := I.c2.other (by have := I.kk; omega) (fun c e => by rw [hb] at e; cases e)
theorem okM_set {t : List Int} {i : Nat} {v : Int} (h : ∀ x ∈ t, okM x) (hv : okM v) : ∀ x ∈ t.set i v, okM x := fun x hx => by
  rcases List.mem_or_eq_of_mem_set hx with h' | rfl
  · exact h x h'
  · exact hv
set_option maxHeartbeats 4000000 in
set_option maxRecDepth 10000 in
/-- One number of the copy is moved a little. -/
theorem c8p {k17 c17 : Nat} {t : List Int} (I : TS H C w ld l i8 i9 a' cap' b2 bs2 cap2 fr wh wn k16 c16 e H') (hC : 2 ≤ C ∧ C ≤ 8) (g17 : gt 140 e 17 = .slice (some ⟨k17, 0, none⟩) C.toNat c17) (hk : k16 < k17) (hl : k17 < H'.size) (hb : H'.get k17 = .rw (tv t) 3 true []) (ht : t.length = C.toNat) (hto : ∀ x ∈ t, okM x) :
    W tabA Try.prog (N + 700) none (sub [true, true, true, true, true, true, true, false, true, false, false, true, true, false, false, true, false, true, false, false, true, true, false, false] (bodyOf Try.f8)) H.size ⟨140, e, H', []⟩ (endK 140 [] fun e' H'' => ∃ t', TS H C w ld l i8 i9 a' cap' b2 bs2 cap2 fr wh wn k16 c16 e' H'' ∧ gt 140 e' 17 = .slice (some ⟨k17, 0, none⟩) C.toNat c17 ∧ gt 140 e' 53 = gt 140 e 53 ∧ gt 140 e' 58 = gt 140 e 58 ∧ gt 140 e' 59 = gt 140 e 59 ∧ k17 < H''.size ∧ H''.get k17 = .rw (tv t') 3 true [] ∧ t'.length = C.toNat ∧ (∀ x ∈ t', okM x)) := by
  have sz := I.q.fr.size
  have g10 := I.g10
  simp only [Try.f8,bodyOf,sub_nil,sub_seq0,sub_seq1,sub_block,sub_loop,sub_cond0,sub_cond1]
  have hCC : ((C.toNat : Nat) : Int) = C := by omega
  refine W_seqI (fun e' H'' => ∃ v : Int, TS H C w ld l i8 i9 a' cap' b2 bs2 cap2 fr wh wn k16 c16 e' H'' ∧ gt 140 e' 17 = .slice (some ⟨k17, 0, none⟩) C.toNat c17 ∧ gt 140 e' 53 = gt 140 e 53 ∧ gt 140 e' 58 = gt 140 e 58 ∧ gt 140 e' 59 = gt 140 e 59 ∧ gt 140 e' 18 = .int .i64 v ∧ (0 ≤ v ∧ v < C) ∧ k17 < H''.size ∧ H''.get k17 = .rw (tv t) 3 true []) ?_ ?_
  · simp (disch := (first | (simp only [ne_eq,Nat.reduceEqDiff,not_false_eq_true,Nat.reduceLT]; done) | omega | (simp only [yz] <;> omega) | fail)) only [↓yp,yq0,yq1,yq2,yq3,yq4,yl,ys0,ys1,Nat.reduceAdd,Nat.reduceMul,Nat.reduceSub,Nat.reduceBEq,Nat.reduceEqDiff,Nat.reduceLT,Nat.reduceLeDiff,reduceIte,Int.reduceAdd,Int.reduceSub,Int.reduceMul,Int.reduceLT,Int.reduceLE,Int.reduceEq,Int.reduceToNat,Int.reduceNeg,zed,zee,zfr,zhw,ysu,yrg,ysv,ysw,g10,g17,lenV_slice zir,hCC]
    refine c51 I.c2 (by omega) (by omega) (by omega) ?_
    rintro f v H1 - ⟨p1, p2⟩ hc1 hx1 hs1
    simp (disch := (first | (simp only [ne_eq,Nat.reduceEqDiff,not_false_eq_true,Nat.reduceLT]; done) | omega | (simp only [yz] <;> omega) | fail)) only [↓yp,yq0,yq1,yq2,yq3,yq4,yl,ys0,ys1,Nat.reduceAdd,Nat.reduceMul,Nat.reduceSub,Nat.reduceBEq,Nat.reduceEqDiff,Nat.reduceLT,Nat.reduceLeDiff,reduceIte,Int.reduceAdd,Int.reduceSub,Int.reduceMul,Int.reduceLT,Int.reduceLE,Int.reduceEq,Int.reduceToNat,Int.reduceNeg,zed,zee,zfr,zhw,ysu,yrg,ysv,ysw]
    refine ⟨v, I.frx hc1 hx1 (by (with_reducible (repeat (first | refine Keep.put ?_ (by decide) | refine Keep.none ?_ | assumption | exact Keep.refl _ _ _)))), ?_, ?_, ?_, ?_, ?_, by omega, by omega, by rw [hx1.same _ hl (by have := I.kk; omega)]; exact hb⟩
    · simp (disch := (first | (simp only [ne_eq,Nat.reduceEqDiff,not_false_eq_true,Nat.reduceLT]; done) | omega | (simp only [yz] <;> omega) | fail)) only [yg,Nat.reduceAdd,Nat.reduceEqDiff,Nat.reduceLT,g17]
    · simp (disch := (first | (simp only [ne_eq,Nat.reduceEqDiff,not_false_eq_true,Nat.reduceLT]; done) | omega | (simp only [yz] <;> omega) | fail)) only [yg,Nat.reduceAdd,Nat.reduceEqDiff,Nat.reduceLT]
    · simp (disch := (first | (simp only [ne_eq,Nat.reduceEqDiff,not_false_eq_true,Nat.reduceLT]; done) | omega | (simp only [yz] <;> omega) | fail)) only [yg,Nat.reduceAdd,Nat.reduceEqDiff,Nat.reduceLT]
    · simp (disch := (first | (simp only [ne_eq,Nat.reduceEqDiff,not_false_eq_true,Nat.reduceLT]; done) | omega | (simp only [yz] <;> omega) | fail)) only [yg,Nat.reduceAdd,Nat.reduceEqDiff,Nat.reduceLT]
    · simp (disch := (first | (simp only [ne_eq,Nat.reduceEqDiff,not_false_eq_true,Nat.reduceLT]; done) | omega | (simp only [yz] <;> omega) | fail)) only [yg,Nat.reduceAdd,Nat.reduceEqDiff,Nat.reduceLT]
  rintro e1 H1 ⟨v, I1, q17, q53, q58, q59, q18, hv, hl1, hb1⟩
  have sz1 := I1.q.fr.size
  have hk17 : H.size + 1 < k17 := by have := I.kk; omega
  have q10 := I1.g10
  obtain ⟨fl, z, H2, mm, hres, hLm, d, rfl, hd1, hd2, hff, hc2, hx2, hs2⟩ := resK_elim (Q := fun f z H'' => ∃ d : Int, z = .int .i64 d ∧ -5 ≤ d ∧ d ≤ 2 ∧ (f = true → H'' = H1) ∧ Chu H'' (H.size + 1) b2 bs2 cap2 ∧ FrX (H.size + 1) H1 H'' ∧ H''.size = H1.size) (c59 (lo := -5) (hi := 2) (L := H.size) (M := N + 698) I1.c2 (by omega) (by omega) (by omega) (fun f z H'' h1 h2 h3 h4 h5 h6 => ⟨z, rfl, h2, h3, h1, h4, h5, h6⟩))
  have hb2 : H2.get k17 = .rw (tv t) 3 true [] := by rw [hx2.same _ hl1 (by have := I.kk; omega)]; exact hb1
  obtain ⟨o, ho⟩ : ∃ o, t.getD v.toNat (-1) = o := ⟨_, rfl⟩
  have hat : (tv t)[v.toNat]? = some (.int .i64 o) := by rw [tv_get (by omega), ho]
  have hok : okM o := by
    rw [← ho, List.getD_eq_getElem?_getD, List.getElem?_eq_getElem (by omega)]
    exact hto _ (List.getElem_mem _)
  unfold okM at hok
  have w1 : w64 (o + d) = o + d := w64_of (by omega)
  obtain ⟨nx, hnx⟩ : ∃ nx, (if o + d > -1 then o + d else -1) = nx := ⟨_, rfl⟩
  obtain ⟨nv, hnv⟩ : ∃ nv, (if nx < 240 then nx else 240) = nv := ⟨_, rfl⟩
  have hnok : okM nv := by
    unfold okM
    rw [← hnv, ← hnx]
    split <;> split <;> omega
  have nset : List.take v.toNat (tv t) ++ [.int .i64 nv] ++ List.drop (v.toNat + 1) (tv t) = tv (t.set v.toNat nv) := newC_tv (by omega)
  have hfit : decide (v.toNat + 1 ≤ (tv t).length) = true := by rw [tv_len]; simp; omega
  have I2 : ∀ e', Keep 140 [10, 11, 12, 13, 14, 15, 16] e1 e' → TS H C w ld l i8 i9 a' cap' b2 bs2 cap2 fr wh wn k16 c16 e' (H2.put k17 (.rw (tv (t.set v.toNat nv)) 3 true [])) := fun e' hke => (I1.frx hc2 hx2 (Keep.refl _ _ _)).put hk hb2 (by rw [tv_len]; omega) hke
  cases fl
  · refine W_drawR (pl := []) [7, 12] [(5, 2)] (planB_of rfl (by decide) (by decide) rfl) (by kernel_rfl) (by kernel_rfl) (by kernel_rfl) (by (first | omega | (simp only [yz] <;> omega))) ?_
    simp (disch := (first | (simp only [ne_eq,Nat.reduceEqDiff,not_false_eq_true,Nat.reduceLT]; done) | omega | (simp only [yz] <;> omega) | fail)) only [↓yp,yq0,yq1,yq2,yq3,yq4,yl,ys0,ys1,Nat.reduceAdd,Nat.reduceMul,Nat.reduceSub,Nat.reduceBEq,Nat.reduceEqDiff,Nat.reduceLT,Nat.reduceLeDiff,reduceIte,Int.reduceAdd,Int.reduceSub,Int.reduceMul,Int.reduceLT,Int.reduceLE,Int.reduceEq,Int.reduceToNat,Int.reduceNeg,zed,zee,zfr,zhw,ysu,yrg,ysv,ysw,q10,q17,q18,hres,hb1,hb2,A_indexSlice zir,hat,A_min,A_max,mm_min,mm_max,w1,hnx,hnv,nset,hfit]
    refine ⟨_, I2 _ (by (with_reducible (repeat (first | refine Keep.put ?_ (by decide) | refine Keep.none ?_ | assumption | exact Keep.refl _ _ _)))), ?_, ?_, ?_, ?_, by (first | omega | (simp only [yz] <;> omega)), zdc (by (first | omega | (simp only [yz] <;> omega))), by rw [List.length_set]; exact ht, okM_set hto hnok⟩
    · simp (disch := (first | (simp only [ne_eq,Nat.reduceEqDiff,not_false_eq_true,Nat.reduceLT]; done) | omega | (simp only [yz] <;> omega) | fail)) only [yg,Nat.reduceAdd,Nat.reduceEqDiff,Nat.reduceLT,q17]
    · simp (disch := (first | (simp only [ne_eq,Nat.reduceEqDiff,not_false_eq_true,Nat.reduceLT]; done) | omega | (simp only [yz] <;> omega) | fail)) only [yg,Nat.reduceAdd,Nat.reduceEqDiff,Nat.reduceLT,q53]
    · simp (disch := (first | (simp only [ne_eq,Nat.reduceEqDiff,not_false_eq_true,Nat.reduceLT]; done) | omega | (simp only [yz] <;> omega) | fail)) only [yg,Nat.reduceAdd,Nat.reduceEqDiff,Nat.reduceLT,q58]
    · simp (disch := (first | (simp only [ne_eq,Nat.reduceEqDiff,not_false_eq_true,Nat.reduceLT]; done) | omega | (simp only [yz] <;> omega) | fail)) only [yg,Nat.reduceAdd,Nat.reduceEqDiff,Nat.reduceLT,q59]
  · obtain rfl := hff rfl
    refine W_drawR (pl := []) [12] [(7, 1), (5, 1)] (planB_of rfl (by decide) (by decide) rfl) (by kernel_rfl) (by kernel_rfl) (by kernel_rfl) (by (first | omega | (simp only [yz] <;> omega))) ?_
    simp (disch := (first | (simp only [ne_eq,Nat.reduceEqDiff,not_false_eq_true,Nat.reduceLT]; done) | omega | (simp only [yz] <;> omega) | fail)) only [↓yp,yq0,yq1,yq2,yq3,yq4,yl,ys0,ys1,Nat.reduceAdd,Nat.reduceMul,Nat.reduceSub,Nat.reduceBEq,Nat.reduceEqDiff,Nat.reduceLT,Nat.reduceLeDiff,reduceIte,Int.reduceAdd,Int.reduceSub,Int.reduceMul,Int.reduceLT,Int.reduceLE,Int.reduceEq,Int.reduceToNat,Int.reduceNeg,zed,zee,zfr,zhw,ysu,yrg,ysv,ysw,q10,q17,q18,hres,hb1,hb2,A_indexSlice zir,hat,A_min,A_max,mm_min,mm_max,w1,hnx,hnv,nset,hfit]
    refine ⟨_, I2 _ (by (with_reducible (repeat (first | refine Keep.put ?_ (by decide) | refine Keep.none ?_ | assumption | exact Keep.refl _ _ _)))), ?_, ?_, ?_, ?_, by (first | omega | (simp only [yz] <;> omega)), zdc (by (first | omega | (simp only [yz] <;> omega))), by rw [List.length_set]; exact ht, okM_set hto hnok⟩
    · simp (disch := (first | (simp only [ne_eq,Nat.reduceEqDiff,not_false_eq_true,Nat.reduceLT]; done) | omega | (simp only [yz] <;> omega) | fail)) only [yg,Nat.reduceAdd,Nat.reduceEqDiff,Nat.reduceLT,q17]
    · simp (disch := (first | (simp only [ne_eq,Nat.reduceEqDiff,not_false_eq_true,Nat.reduceLT]; done) | omega | (simp only [yz] <;> omega) | fail)) only [yg,Nat.reduceAdd,Nat.reduceEqDiff,Nat.reduceLT,q53]
    · simp (disch := (first | (simp only [ne_eq,Nat.reduceEqDiff,not_false_eq_true,Nat.reduceLT]; done) | omega | (simp only [yz] <;> omega) | fail)) only [yg,Nat.reduceAdd,Nat.reduceEqDiff,Nat.reduceLT,q58]
    · simp (disch := (first | (simp only [ne_eq,Nat.reduceEqDiff,not_false_eq_true,Nat.reduceLT]; done) | omega | (simp only [yz] <;> omega) | fail)) only [yg,Nat.reduceAdd,Nat.reduceEqDiff,Nat.reduceLT,q59]
end
end Go.Am
