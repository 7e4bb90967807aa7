/- The mirrored town. -/
import Derived.Test.YthchcnbmegglcaaT21
set_option linter.unusedSimpArgs false
set_option linter.unusedVariables false
namespace Go.Am
open Go.Proofs
variable {T : Tab} {P : Program} {N L : Nat} {H : AHeap} {Q : Bool → Value → AHeap → Prop}

def mir (s : Str) : Str := { s with fr := s.to, to := s.fr, lo := 239 - s.hi, hi := 239 - s.lo }
theorem bad2_span {s : Str} (h : bad2 s = false) : (0 ≤ s.lo ∧ s.lo ≤ 239) ∧ (0 ≤ s.hi ∧ s.hi ≤ 239) := by
  unfold bad2 at h
  simp only [Bool.or_eq_false_iff] at h
  exact ⟨off_iff.1 h.2.2.2.2.1, off_iff.1 h.2.2.2.2.2⟩
/-! ### Stores into a row of streets -/
theorem newC_app {j : Nat} {vs a b : List Value} : zee (a.length + j) vs (a ++ b) = a ++ zee j vs b := by
  unfold zee
  rw [List.take_length_add_append, show a.length + j + vs.length = a.length + (j + vs.length) by omega, List.drop_length_add_append]
  simp
theorem newC_pre {j : Nat} {vs a b : List Value} (h : j + vs.length ≤ a.length) : zee j vs (a ++ b) = zee j vs a ++ b := by
  unfold zee
  rw [List.take_append_of_le_length (by omega), List.drop_append_of_le_length h]
  simp
theorem set_flat {j : Nat} {vs : List Value} {s s' : Str} (hj : j + vs.length ≤ 9) (he : zee j vs s.enc = s'.enc) : ∀ (l : List Str) (i : Nat), l[i]? = some s → zee (i * 9 + j) vs (flat l) = flat (l.set i s')
  | [], i, h => by simp at h
  | t :: l, 0, h => by
    simp only [List.getElem?_cons_zero,Option.some.injEq] at h
    subst h
    simp only [Nat.zero_mul,Nat.zero_add,flat,List.set_cons_zero]
    rw [newC_pre (by rw [enc_len]; exact hj), he]
  | t :: l, i + 1, h => by
    simp only [flat,List.set_cons_succ]
    rw [show (i + 1) * 9 + j = t.enc.length + (i * 9 + j) by rw [enc_len]; omega, newC_app, set_flat hj he l i (by simpa using h)]
theorem wrB_flat {b j i ty : Nat} {vs : List Value} {op : Bool} {l : List Str} {s : Str} (s' : Str) {Q : Nat → AHeap → Prop} (hi : l[i]? = some s) (hj : j + vs.length ≤ 9) (he : zee j vs s.enc = s'.enc) (h1 : oneCells vs = true) :
    wrB (.rw (flat l) ty op []) H b (i * 9 + j) vs Q = Q b (H.put b (.rw (flat (l.set i s')) ty op [])) := by
  rw [zec]
  have hlt := (List.getElem?_eq_some_iff.1 hi).1
  have : zed (i * 9 + j) vs (flat l) = true := by
    unfold zed
    rw [h1, flat_length, Bool.and_true, decide_eq_true_eq]
    omega
  rw [this, zaz, zbb, zaz, set_flat hj he l i hi]

def half (l : List Str) (i : Nat) : List Str := (l.take i).map mir ++ l.drop i
theorem half_zero (l : List Str) : half l 0 = l := by simp [half]
theorem half_all (l : List Str) : half l l.length = l.map mir := by simp [half]
theorem half_get : ∀ (l : List Str) (i : Nat) (s : Str), l[i]? = some s → (half l i)[i]? = some s
  | [], i, s, h => by simp at h
  | t :: l, 0, s, h => h
  | t :: l, i + 1, s, h => by
    have := half_get l i s (by simpa using h)
    simp only [half,List.take_succ_cons,List.map_cons,List.drop_succ_cons,List.cons_append,List.getElem?_cons_succ]
    exact this
theorem half_set : ∀ (l : List Str) (i : Nat) (s : Str), l[i]? = some s → (half l i).set i (mir s) = half l (i + 1)
  | [], i, s, h => by simp at h
  | t :: l, 0, s, h => by
    simp only [List.getElem?_cons_zero,Option.some.injEq] at h
    subst h
    simp [half]
  | t :: l, i + 1, s, h => by
    have := half_set l i s (by simpa using h)
    simp only [half,List.take_succ_cons,List.map_cons,List.drop_succ_cons,List.cons_append,List.set_cons_succ] at this ⊢
    rw [this]
theorem chk_ok {C : Int} {l : List Str} (h : chk C l = 0) : off C 1 8 = false ∧ l.length ≤ 16 ∧ (∀ s ∈ l, bad1 C s = false) ∧ ∀ s ∈ l, bad2 s = false := by
  unfold chk at h
  split at h
  · cases h
  · split at h
    · cases h
    · split at h
      · cases h
      · split at h
        · cases h
        · rename_i h1 h2 h3 h4
          refine ⟨by simpa using h1, by omega, ?_, ?_⟩
          · intro s hs
            cases hb : bad1 C s with
            | false => rfl
            | true => exact absurd (List.any_eq_true.2 ⟨s, hs, hb⟩) h3
          · intro s hs
            cases hb : bad2 s with
            | false => rfl
            | true => exact absurd (List.any_eq_true.2 ⟨s, hs, hb⟩) h4
/-- What Mirror gives. -/
def MirR (H : AHeap) (C : Int) (l : List Str) (v : Value) (H' : AHeap) : Prop :=
  (chk C l ≠ 0 ∧ v = .tuple ⟨[.agg ⟨[.int .i64 0, .slice none 0 0]⟩, .int .i64 (chk C l)]⟩ ∧ Fr H H') ∨
  (chk C l = 0 ∧ ∃ a' cap', v = .tuple ⟨[.agg ⟨[.int .i64 C, .slice a' l.length cap']⟩, .int .i64 0]⟩ ∧ New H H' a' cap' (l.map mir))
set_option maxHeartbeats 400000 in
theorem c23w {a : Option Addr} {cap : Nat} {l : List Str} {C : Int} (hs : Sl H a l) (hl : l.length ≤ 18) (hn : a = none → cap = 0) (hL : L ≤ H.size) {M : Nat} (hM : 300 ≤ M)
    (hq : ∀ b v H', MirR H C l v H' → Q b v H') : resK (acall tabA (aexec tabA Try.prog M) 23 [.agg ⟨[.int .i64 C, .slice a l.length cap]⟩] H) L Q := by
  obtain ⟨N, rfl⟩ : ∃ N, M = N + 300 := ⟨M - 300, by omega⟩
  refine call_some (R := MirR H C l) (k := 55) (rs := [.cell 2 24, .tmp 3]) rfl fn_23 rfl rfl rfl hL ?_ (fun v H' h => hq _ _ _ h) ?_
  · simp (disch := (first | (simp only [ne_eq,Nat.reduceEqDiff,not_false_eq_true,Nat.reduceLT]; done) | omega | (simp only [yz] <;> omega) | fail)) only [↓yp,yq0,yq1,yq2,yq3,yq4,yl,ys0,ys1,Nat.reduceAdd,Nat.reduceMul,Nat.reduceSub,Nat.reduceBEq,Nat.reduceEqDiff,Nat.reduceLT,Nat.reduceLeDiff,reduceIte,Int.reduceAdd,Int.reduceSub,Int.reduceMul,Int.reduceLT,Int.reduceLE,Int.reduceEq,Int.reduceToNat,Int.reduceNeg,zed,zee,zfr,zhw]
    rw [c22 (hs.fr (by (repeat (first | exact Fr.refl _ | assumption | refine Fr.allocd ?_ _ | refine Fr.kill ?_ (by first | assumption | omega) | refine Fr.put ?_ (by first | omega | (simp only [yz] <;> omega)) _)))) hl]
    simp (disch := (first | (simp only [ne_eq,Nat.reduceEqDiff,not_false_eq_true,Nat.reduceLT]; done) | omega | (simp only [yz] <;> omega) | fail)) only [↓yp,yq0,yq1,yq2,yq3,yq4,yl,ys0,ys1,Nat.reduceAdd,Nat.reduceMul,Nat.reduceSub,Nat.reduceBEq,Nat.reduceEqDiff,Nat.reduceLT,Nat.reduceLeDiff,reduceIte,Int.reduceAdd,Int.reduceSub,Int.reduceMul,Int.reduceLT,Int.reduceLE,Int.reduceEq,Int.reduceToNat,Int.reduceNeg,zed,zee,zfr,zhw]
    by_cases hc : chk C l = 0
    · simp (disch := (first | (simp only [ne_eq,Nat.reduceEqDiff,not_false_eq_true,Nat.reduceLT]; done) | omega | (simp only [yz] <;> omega) | fail)) only [↓yp,yq0,yq1,yq2,yq3,yq4,yl,ys0,ys1,Nat.reduceAdd,Nat.reduceMul,Nat.reduceSub,Nat.reduceBEq,Nat.reduceEqDiff,Nat.reduceLT,Nat.reduceLeDiff,reduceIte,Int.reduceAdd,Int.reduceSub,Int.reduceMul,Int.reduceLT,Int.reduceLE,Int.reduceEq,Int.reduceToNat,Int.reduceNeg,zed,zee,zfr,zhw,hc]
      refine c81 (hs.fr (by (repeat (first | exact Fr.refl _ | assumption | refine Fr.allocd ?_ _ | refine Fr.kill ?_ (by first | assumption | omega) | refine Fr.put ?_ (by first | omega | (simp only [yz] <;> omega)) _)))) hl hn (by (first | omega | (simp only [yz] <;> omega))) (by omega) ?_
      intro _ a' cap' H₂ nw
      have n0 := nw.fr.size
      have ns := nw.fr.same
      simp only [zde] at n0
      simp (disch := (first | (simp only [ne_eq,Nat.reduceEqDiff,not_false_eq_true,Nat.reduceLT]; done) | omega | (simp only [yz] <;> omega) | fail)) only [↓yp,yq0,yq1,yq2,yq3,yq4,yl,ys0,ys1,Nat.reduceAdd,Nat.reduceMul,Nat.reduceSub,Nat.reduceBEq,Nat.reduceEqDiff,Nat.reduceLT,Nat.reduceLeDiff,reduceIte,Int.reduceAdd,Int.reduceSub,Int.reduceMul,Int.reduceLT,Int.reduceLE,Int.reduceEq,Int.reduceToNat,Int.reduceNeg,zed,zee,zfr,zhw,ns,lenV_slice zio]
      refine W_while (n := 55) 60 (fun k e H' => ∃ i, k = l.length - i ∧ i ≤ l.length ∧ gt 55 e 20 = .int .i64 (i : Nat) ∧ gt 55 e 19 = .int .i64 l.length ∧ gt 55 e 18 = .slice a l.length cap ∧ gt 55 e 5 = .slice a' l.length cap' ∧ gt 55 e 1 = .pointer (some ⟨H.size, 0, none⟩) ∧ gt 55 e 2 = .pointer (some ⟨H.size + 1, 0, none⟩) ∧
        Fr ((H.alloc (.rw [.int .i64 C, .slice a l.length cap] 24 false [])).alloc (.rw [.int .i64 0, .slice none 0 0] 24 false [])) H' ∧ (l ≠ [] → ∃ kb, a' = some ⟨kb, 0, none⟩ ∧ H.size + 2 ≤ kb ∧ kb < H'.size ∧ H'.get kb = .rw (flat (half l i)) 45 true []))
        ?_ 18 l.length ⟨0, by omega, by omega, by simp (disch := (first | (simp only [ne_eq,Nat.reduceEqDiff,not_false_eq_true,Nat.reduceLT]; done) | omega | (simp only [yz] <;> omega) | fail)) only [yg,Nat.reduceAdd,Nat.reduceEqDiff,Nat.reduceLT]; rfl, by simp (disch := (first | (simp only [ne_eq,Nat.reduceEqDiff,not_false_eq_true,Nat.reduceLT]; done) | omega | (simp only [yz] <;> omega) | fail)) only [yg,Nat.reduceAdd,Nat.reduceEqDiff,Nat.reduceLT], by simp (disch := (first | (simp only [ne_eq,Nat.reduceEqDiff,not_false_eq_true,Nat.reduceLT]; done) | omega | (simp only [yz] <;> omega) | fail)) only [yg,Nat.reduceAdd,Nat.reduceEqDiff,Nat.reduceLT], by simp (disch := (first | (simp only [ne_eq,Nat.reduceEqDiff,not_false_eq_true,Nat.reduceLT]; done) | omega | (simp only [yz] <;> omega) | fail)) only [yg,Nat.reduceAdd,Nat.reduceEqDiff,Nat.reduceLT], by simp (disch := (first | (simp only [ne_eq,Nat.reduceEqDiff,not_false_eq_true,Nat.reduceLT]; done) | omega | (simp only [yz] <;> omega) | fail)) only [yg,Nat.reduceAdd,Nat.reduceEqDiff,Nat.reduceLT], by simp (disch := (first | (simp only [ne_eq,Nat.reduceEqDiff,not_false_eq_true,Nat.reduceLT]; done) | omega | (simp only [yz] <;> omega) | fail)) only [yg,Nat.reduceAdd,Nat.reduceEqDiff,Nat.reduceLT], nw.fr, fun hne => by rw [half_zero]; have := nw.blk hne; simpa only [zde] using this⟩ (by omega) (by omega)
      rintro M k e H' ⟨i, rfl, hi, g20, g19, g18, g5, g1, g2, fr, hk⟩
      have f0 := fr.size
      simp only [zde] at f0
      have fs := fr.same
      simp (disch := (first | (simp only [ne_eq,Nat.reduceEqDiff,not_false_eq_true,Nat.reduceLT]; done) | omega | (simp only [yz] <;> omega) | fail)) only [↓yp,yq0,yq1,yq2,yq3,yq4,yl,ys0,ys1,Nat.reduceAdd,Nat.reduceMul,Nat.reduceSub,Nat.reduceBEq,Nat.reduceEqDiff,Nat.reduceLT,Nat.reduceLeDiff,reduceIte,Int.reduceAdd,Int.reduceSub,Int.reduceMul,Int.reduceLT,Int.reduceLE,Int.reduceEq,Int.reduceToNat,Int.reduceNeg,zed,zee,zfr,zhw,g20,g19,g18]
      refine ⟨fun hlt => ?_, fun hlt => ?_⟩
      · have hi' : i < l.length := by simpa using hlt
        have hne : l ≠ [] := fun h => by subst h; simp at hi'
        obtain ⟨b, o, c, rfl, hb, hcc, hp⟩ := hs.get hne
        obtain ⟨s, his⟩ : ∃ s, l[i]? = some s := ⟨l[i], by simp [hi']⟩
        have hpi := hp i s his
        obtain ⟨kb, rfl, k1, k2, k3⟩ := hk hne
        have hsp := bad2_span ((chk_ok hc).2.2.2 s (List.mem_of_getElem? his))
        have hw2 : w64 ((i : Int) + 1) = ((i + 1 : Nat) : Int) := by rw [w64_of (by omega)]; omega
        have hw3 : w64 (239 - s.hi) = 239 - s.hi := w64_of (by omega)
        have hw4 : w64 (239 - s.lo) = 239 - s.lo := w64_of (by omega)
        simp (disch := (first | (simp only [ne_eq,Nat.reduceEqDiff,not_false_eq_true,Nat.reduceLT]; done) | omega | (simp only [yz] <;> omega) | fail)) only [↓yp,yq0,yq1,yq2,yq3,yq4,yl,ys0,ys1,Nat.reduceAdd,Nat.reduceMul,Nat.reduceSub,Nat.reduceBEq,Nat.reduceEqDiff,Nat.reduceLT,Nat.reduceLeDiff,reduceIte,Int.reduceAdd,Int.reduceSub,Int.reduceMul,Int.reduceLT,Int.reduceLE,Int.reduceEq,Int.reduceToNat,Int.reduceNeg,zed,zee,zfr,zhw,g20,g19,g18,g5,g1,g2,fs,A_indexSlice zio,hcc,hpi,Str.enc]
        refine W_draw [10, 13] rfl (by kernel_rfl) (by kernel_rfl) (by (first | omega | (simp only [yz] <;> omega))) ?_
        have hh := half_get l i s his
        have e1 : ∀ (H : AHeap) (Q : Nat → AHeap → Prop), wrB (.rw (flat (half l i)) 45 true []) H kb (i * 9) [.int .i64 s.to] Q = Q kb (H.put kb (.rw (flat ((half l i).set i { s with fr := s.to })) 45 true [])) := fun H Q => wrB_flat (j := 0) { s with fr := s.to } hh (by simp) rfl rfl
        have hh1 : ((half l i).set i { s with fr := s.to })[i]? = some { s with fr := s.to } := by
          rw [List.getElem?_set_self (List.getElem?_eq_some_iff.1 hh).1]
        have e2 : ∀ (H : AHeap) (Q : Nat → AHeap → Prop), wrB (.rw (flat ((half l i).set i { s with fr := s.to })) 45 true []) H kb (i * 9 + 1) [.int .i64 s.fr] Q = Q kb (H.put kb (.rw (flat (((half l i).set i { s with fr := s.to }).set i { s with fr := s.to, to := s.fr })) 45 true [])) := fun H Q => wrB_flat (j := 1) { s with fr := s.to, to := s.fr } hh1 (by simp) rfl rfl
        rw [List.set_set] at e2
        have hh2 : ((half l i).set i { s with fr := s.to, to := s.fr })[i]? = some { s with fr := s.to, to := s.fr } := by
          rw [List.getElem?_set_self (List.getElem?_eq_some_iff.1 hh).1]
        have e3 : ∀ (H : AHeap) (Q : Nat → AHeap → Prop), wrB (.rw (flat ((half l i).set i { s with fr := s.to, to := s.fr })) 45 true []) H kb (i * 9 + 7) [.int .i64 (239 - s.hi), .int .i64 (239 - s.lo)] Q = Q kb (H.put kb (.rw (flat (((half l i).set i { s with fr := s.to, to := s.fr }).set i (mir s))) 45 true [])) := fun H Q => wrB_flat (j := 7) (mir s) hh2 (by simp) rfl rfl
        rw [List.set_set, half_set l i s his] at e3
        simp (disch := (first | (simp only [ne_eq,Nat.reduceEqDiff,not_false_eq_true,Nat.reduceLT]; done) | omega | (simp only [yz] <;> omega) | fail)) only [↓yp,yq0,yq1,yq2,yq3,yq4,yl,ys0,ys1,Nat.reduceAdd,Nat.reduceMul,Nat.reduceSub,Nat.reduceBEq,Nat.reduceEqDiff,Nat.reduceLT,Nat.reduceLeDiff,reduceIte,Int.reduceAdd,Int.reduceSub,Int.reduceMul,Int.reduceLT,Int.reduceLE,Int.reduceEq,Int.reduceToNat,Int.reduceNeg,zed,zee,zfr,zhw,g20,g19,g18,g5,g1,g2,A_indexSlice zio,k3,e1,e2,e3,A_build zin,hw3,hw4,hw2]
        refine ⟨l.length - (i + 1), by omega, i + 1, rfl, by omega, ?_, ?_, ?_, ?_, ?_, ?_, ?_, ?_⟩
        · simp (disch := (first | (simp only [ne_eq,Nat.reduceEqDiff,not_false_eq_true,Nat.reduceLT]; done) | omega | (simp only [yz] <;> omega) | fail)) only [yg,Nat.reduceAdd,Nat.reduceEqDiff,Nat.reduceLT]
        · simp (disch := (first | (simp only [ne_eq,Nat.reduceEqDiff,not_false_eq_true,Nat.reduceLT]; done) | omega | (simp only [yz] <;> omega) | fail)) only [yg,Nat.reduceAdd,Nat.reduceEqDiff,Nat.reduceLT,g19]
        · simp (disch := (first | (simp only [ne_eq,Nat.reduceEqDiff,not_false_eq_true,Nat.reduceLT]; done) | omega | (simp only [yz] <;> omega) | fail)) only [yg,Nat.reduceAdd,Nat.reduceEqDiff,Nat.reduceLT,g18]
        · simp (disch := (first | (simp only [ne_eq,Nat.reduceEqDiff,not_false_eq_true,Nat.reduceLT]; done) | omega | (simp only [yz] <;> omega) | fail)) only [yg,Nat.reduceAdd,Nat.reduceEqDiff,Nat.reduceLT,g5]
        · simp (disch := (first | (simp only [ne_eq,Nat.reduceEqDiff,not_false_eq_true,Nat.reduceLT]; done) | omega | (simp only [yz] <;> omega) | fail)) only [yg,Nat.reduceAdd,Nat.reduceEqDiff,Nat.reduceLT,g1]
        · simp (disch := (first | (simp only [ne_eq,Nat.reduceEqDiff,not_false_eq_true,Nat.reduceLT]; done) | omega | (simp only [yz] <;> omega) | fail)) only [yg,Nat.reduceAdd,Nat.reduceEqDiff,Nat.reduceLT,g2]
        · have : (((H.alloc (.rw [.int .i64 C, .slice (some ⟨b, o, none⟩) l.length cap] 24 false [])).alloc (.rw [.int .i64 0, .slice none 0 0] 24 false [])) : AHeap).size ≤ kb := by (first | omega | (simp only [yz] <;> omega))
          refine Fr.put (Fr.put (Fr.put ?_ this _) this _) this _
          refine Fr.put (Fr.allocd fr _) (by (first | omega | (simp only [yz] <;> omega))) _
        · exact fun _ => ⟨kb, rfl, k1, by (first | omega | (simp only [yz] <;> omega)), by simp (disch := (first | (simp only [ne_eq,Nat.reduceEqDiff,not_false_eq_true,Nat.reduceLT]; done) | omega | (simp only [yz] <;> omega) | fail)) only [yg,Nat.reduceAdd,Nat.reduceEqDiff,Nat.reduceLT]⟩
      · have hi' : ¬ i < l.length := by simpa using hlt
        have hil : i = l.length := by omega
        subst hil
        simp (disch := (first | (simp only [ne_eq,Nat.reduceEqDiff,not_false_eq_true,Nat.reduceLT]; done) | omega | (simp only [yz] <;> omega) | fail)) only [↓yp,yq0,yq1,yq2,yq3,yq4,yl,ys0,ys1,Nat.reduceAdd,Nat.reduceMul,Nat.reduceSub,Nat.reduceBEq,Nat.reduceEqDiff,Nat.reduceLT,Nat.reduceLeDiff,reduceIte,Int.reduceAdd,Int.reduceSub,Int.reduceMul,Int.reduceLT,Int.reduceLE,Int.reduceEq,Int.reduceToNat,Int.reduceNeg,zed,zee,zfr,zhw,g20,g19,g18,g5,g1,g2,fs,A_build zil]
        refine .inr ⟨hc, a', cap', rfl, ?_⟩
        have ff : Fr H (H'.put (H.size + 1) (.rw [.int .i64 C, .slice a' l.length cap'] 24 false [])) := Fr.put (Fr.trans (by (repeat (first | exact Fr.refl _ | assumption | refine Fr.allocd ?_ _ | refine Fr.kill ?_ (by first | assumption | omega) | refine Fr.put ?_ (by first | omega | (simp only [yz] <;> omega)) _))) fr) (by omega) _
        by_cases hne : l = []
        · subst hne; exact New.nil ff nw.nl
        · obtain ⟨kb, rfl, k1, k2, k3⟩ := hk hne
          rw [half_all] at k3
          exact New.one ff (by omega) (by (first | omega | (simp only [yz] <;> omega))) (by rw [zdd (by omega)]; exact k3)
    · have hc' : decide (chk C l = 0) = false := by simpa using hc
      simp (disch := (first | (simp only [ne_eq,Nat.reduceEqDiff,not_false_eq_true,Nat.reduceLT]; done) | omega | (simp only [yz] <;> omega) | fail)) only [↓yp,yq0,yq1,yq2,yq3,yq4,yl,ys0,ys1,Nat.reduceAdd,Nat.reduceMul,Nat.reduceSub,Nat.reduceBEq,Nat.reduceEqDiff,Nat.reduceLT,Nat.reduceLeDiff,reduceIte,Int.reduceAdd,Int.reduceSub,Int.reduceMul,Int.reduceLT,Int.reduceLE,Int.reduceEq,Int.reduceToNat,Int.reduceNeg,zed,zee,zfr,zhw,hc',A_build zil]
      exact .inl ⟨hc, rfl, by (repeat (first | exact Fr.refl _ | assumption | refine Fr.allocd ?_ _ | refine Fr.kill ?_ (by first | assumption | omega) | refine Fr.put ?_ (by first | omega | (simp only [yz] <;> omega)) _))⟩
  · rintro v H' h hg
    rcases h with ⟨h1, rfl, h3⟩ | ⟨h1, a', cap', rfl, h3⟩
    · exact hq _ _ _ (.inl ⟨h1, rfl, Fr.refl H⟩)
    · refine hq _ _ _ (.inr ⟨h1, a', cap', rfl, h3.ground ?_⟩)
      cases a' with
      | none => rfl
      | some a' => simp [gr, ground] at hg
end Go.Am
/- Rows of streets that are compared. -/
namespace Go.Am
open Go.Proofs
variable {T : Tab} {P : Program} {N L : Nat} {H : AHeap} {Q : Bool → Value → AHeap → Prop}

def okI (n : Int) : Prop := (Lit.int .i64 n).wf = true
structure Str.Ok (s : Str) : Prop where
  fr : okI s.fr
  to : okI s.to
  mi : okI s.mi
  up : okI s.up
  wi : okI s.wi
  be : okI s.be
  lo : okI s.lo
  hi : okI s.hi
def Str.lits (s : Str) : List Lit := [.int .i64 s.fr, .int .i64 s.to, .int .i64 s.mi, .int .i64 s.up, .int .i64 s.wi, .int .i64 s.be, .bool s.bk, .int .i64 s.lo, .int .i64 s.hi]
theorem cellsOf3 : Try.prog.cellsOf 3 = 1 := by kernel_rfl
theorem cellsOf4 : Try.prog.cellsOf 4 = 1 := by kernel_rfl
theorem cellsOf43 : Try.prog.cellsOf 43 = 2 := by kernel_rfl
theorem cellsOf45 : Try.prog.cellsOf 45 = 9 := by kernel_rfl
theorem lit_int {d : Nat} {n : Int} (h : okI n) : Try.prog.keyLits (d + 1) 3 [.int .i64 n] = some [.int .i64 n] := by
  unfold Program.keyLits
  rw [Try.underlying3]
  simp only
  rw [if_pos ⟨trivial, h⟩]
theorem lit_bool {d : Nat} {b : Bool} : Try.prog.keyLits (d + 1) 4 [.bool b] = some [.bool b] := by
  unfold Program.keyLits
  rw [Try.underlying4]
theorem lit_span {d : Nat} {a b : Int} (h : okI a) (h' : okI b) : Try.prog.keyLits (d + 2) 43 [.int .i64 a, .int .i64 b] = some [.int .i64 a, .int .i64 b] := by
  unfold Program.keyLits
  rw [Try.underlying43]
  simp only
  rw [if_pos ⟨by rw [cellsOf43]; rfl, by decide +kernel⟩]
  simp [cellsOf3, lit_int h, lit_int h']
theorem lit_str45 {s : Str} (h : s.Ok) : Try.prog.keyLits 9 45 s.enc = some s.lits := by
  unfold Program.keyLits
  rw [Try.underlying45]
  simp only
  rw [if_pos ⟨by rw [cellsOf45]; rfl, by decide +kernel⟩]
  simp [cellsOf3, cellsOf4, cellsOf43, Str.enc, lit_int h.fr, lit_int h.to, lit_int h.mi, lit_int h.up, lit_int h.wi, lit_int h.be, lit_bool, lit_span h.lo h.hi, Str.lits]
theorem eqLits_self : ∀ (l : List Lit), l.all plainLit = true → eqLits l l = some true
  | [], _ => rfl
  | a :: l, h => by
    simp only [List.all_cons,Bool.and_eq_true] at h
    simp only [eqLits,eqLits_self l h.2,(eqLit_iff h.1).2 rfl,Bool.and_self]
theorem keyT45 : (Try.prog.keyTypeAt 9 45 && !Try.prog.eqGuardType Try.prog.depth 45) = true := by kernel_rfl
theorem formed45 {s : Str} : (Value.agg ⟨s.enc⟩).formed Try.prog 45 = true := by
  simp only [Value.formed,Try.underlying45,cellsOf45]; rfl
theorem gr_enc {s : Str} : gr (.agg ⟨s.enc⟩) = true := rfl
theorem same45 {s : Str} (h : s.Ok) : aEqD Try.prog 45 (.agg ⟨s.enc⟩) (.agg ⟨s.enc⟩) = some true := by
  unfold aEqD
  simp only [keyT45,formed45,gr_enc,Bool.and_self,cond_true,lit_str45 h]
  rw [show s.lits.all plainLit = true from rfl, cond_true, eqLits_self _ rfl]
theorem binV_neq_same {ty : TypeId} {x y : Operand} {a : Value} (h : aEqD P ty a a = some true) : binV T P .neq ty x y a a = some (.bool false) := by
  have e : aEqV P .neq ty (some a) (some a) = some (.bool false) := by
    show (aEqD P ty a a).map (fun r => Value.bool !r) = _
    rw [h]; rfl
  unfold binV
  rw [e]

/-- Two rows of the same streets are alike. -/
theorem c86 {a a' : Option Addr} {cap cap' : Nat} {l : List Str} (hs : Sl H a l) (hs' : Sl H a' l) (hl : l.length ≤ 18) (hok : ∀ s ∈ l, s.Ok) : acall tabA (aexec tabA Try.prog (N + 120)) 86 [.slice a l.length cap, .slice a' l.length cap'] H = some (true, .bool true, H, H.size) := by
  refine call_quiet (k := 26) (rs := [.tmp 4]) rfl fn_86 rfl rfl rfl ?_ rfl
  have hll : decide ((l.length : Int) = (l.length : Int)) = true := by simp
  simp (disch := (first | (simp only [ne_eq,Nat.reduceEqDiff,not_false_eq_true,Nat.reduceLT]; done) | omega | (simp only [yz] <;> omega) | fail)) only [↓yp,yq0,yq1,yq2,yq3,yq4,yl,ys0,ys1,Nat.reduceAdd,Nat.reduceMul,Nat.reduceSub,Nat.reduceBEq,Nat.reduceEqDiff,Nat.reduceLT,Nat.reduceLeDiff,reduceIte,Int.reduceAdd,Int.reduceSub,Int.reduceMul,Int.reduceLT,Int.reduceLE,Int.reduceEq,Int.reduceToNat,Int.reduceNeg,zed,zee,zfr,zhw,lenV_slice zio,hll]
  refine W_while (n := 26) 70 (fun k e H' => ∃ i, k = l.length - i ∧ i ≤ l.length ∧ gt 26 e 14 = .int .i64 (i : Nat) ∧ gt 26 e 13 = .int .i64 l.length ∧ gt 26 e 12 = .slice a l.length cap ∧ gt 26 e 1 = .slice a' l.length cap' ∧ Fr H H')
    ?_ 18 l.length ⟨0, by omega, by omega, by simp (disch := (first | (simp only [ne_eq,Nat.reduceEqDiff,not_false_eq_true,Nat.reduceLT]; done) | omega | (simp only [yz] <;> omega) | fail)) only [yg,Nat.reduceAdd,Nat.reduceEqDiff,Nat.reduceLT]; rfl, by simp (disch := (first | (simp only [ne_eq,Nat.reduceEqDiff,not_false_eq_true,Nat.reduceLT]; done) | omega | (simp only [yz] <;> omega) | fail)) only [yg,Nat.reduceAdd,Nat.reduceEqDiff,Nat.reduceLT], by simp (disch := (first | (simp only [ne_eq,Nat.reduceEqDiff,not_false_eq_true,Nat.reduceLT]; done) | omega | (simp only [yz] <;> omega) | fail)) only [yg,Nat.reduceAdd,Nat.reduceEqDiff,Nat.reduceLT], by simp (disch := (first | (simp only [ne_eq,Nat.reduceEqDiff,not_false_eq_true,Nat.reduceLT]; done) | omega | (simp only [yz] <;> omega) | fail)) only [yg,Nat.reduceAdd,Nat.reduceEqDiff,Nat.reduceLT], Fr.refl _⟩ (by omega) (by omega)
  rintro M k e H' ⟨i, rfl, hi, g14, g13, g12, g1, fr⟩
  have f0 := fr.size
  have fs := fr.same
  simp (disch := (first | (simp only [ne_eq,Nat.reduceEqDiff,not_false_eq_true,Nat.reduceLT]; done) | omega | (simp only [yz] <;> omega) | fail)) only [↓yp,yq0,yq1,yq2,yq3,yq4,yl,ys0,ys1,Nat.reduceAdd,Nat.reduceMul,Nat.reduceSub,Nat.reduceBEq,Nat.reduceEqDiff,Nat.reduceLT,Nat.reduceLeDiff,reduceIte,Int.reduceAdd,Int.reduceSub,Int.reduceMul,Int.reduceLT,Int.reduceLE,Int.reduceEq,Int.reduceToNat,Int.reduceNeg,zed,zee,zfr,zhw,g14,g13,g12,g1]
  refine ⟨fun hlt => ?_, fun hlt => ?_⟩
  · have hi' : i < l.length := by simpa using hlt
    have hne : l ≠ [] := fun h => by subst h; simp at hi'
    obtain ⟨b, o, c, rfl, hb, hc, hp⟩ := hs.get hne
    obtain ⟨b', o', c', rfl, hb', hc', hp'⟩ := hs'.get hne
    obtain ⟨s, his⟩ : ∃ s, l[i]? = some s := ⟨l[i], by simp [hi']⟩
    have hpi := hp i s his
    have hpi' := hp' i s his
    have hw2 : w64 ((i : Int) + 1) = ((i + 1 : Nat) : Int) := by rw [w64_of (by omega)]; omega
    have hsm := same45 (hok s (List.mem_of_getElem? his))
    have hbv := fun (x y : Operand) => binV_neq_same (T := tabA) (x := x) (y := y) hsm
    simp only [Str.enc] at hbv
    simp (disch := (first | (simp only [ne_eq,Nat.reduceEqDiff,not_false_eq_true,Nat.reduceLT]; done) | omega | (simp only [yz] <;> omega) | fail)) only [↓yp,yq0,yq1,yq2,yq3,yq4,yl,ys0,ys1,Nat.reduceAdd,Nat.reduceMul,Nat.reduceSub,Nat.reduceBEq,Nat.reduceEqDiff,Nat.reduceLT,Nat.reduceLeDiff,reduceIte,Int.reduceAdd,Int.reduceSub,Int.reduceMul,Int.reduceLT,Int.reduceLE,Int.reduceEq,Int.reduceToNat,Int.reduceNeg,zed,zee,zfr,zhw,g14,g13,g12,g1,fs,A_indexSlice zio,hc,hpi,Str.enc]
    refine W_draw [] rfl (by kernel_rfl) (by kernel_rfl) (by (first | omega | (simp only [yz] <;> omega))) ?_
    simp (disch := (first | (simp only [ne_eq,Nat.reduceEqDiff,not_false_eq_true,Nat.reduceLT]; done) | omega | (simp only [yz] <;> omega) | fail)) only [↓yp,yq0,yq1,yq2,yq3,yq4,yl,ys0,ys1,Nat.reduceAdd,Nat.reduceMul,Nat.reduceSub,Nat.reduceBEq,Nat.reduceEqDiff,Nat.reduceLT,Nat.reduceLeDiff,reduceIte,Int.reduceAdd,Int.reduceSub,Int.reduceMul,Int.reduceLT,Int.reduceLE,Int.reduceEq,Int.reduceToNat,Int.reduceNeg,zed,zee,zfr,zhw,g14,g13,g12,g1,fs,A_indexSlice zio,hc,hpi,hc',hpi',Str.enc,hbv,hw2]
    refine ⟨l.length - (i + 1), by omega, i + 1, rfl, by omega, ?_, ?_, ?_, ?_, ?_⟩
    · simp (disch := (first | (simp only [ne_eq,Nat.reduceEqDiff,not_false_eq_true,Nat.reduceLT]; done) | omega | (simp only [yz] <;> omega) | fail)) only [yg,Nat.reduceAdd,Nat.reduceEqDiff,Nat.reduceLT]
    · simp (disch := (first | (simp only [ne_eq,Nat.reduceEqDiff,not_false_eq_true,Nat.reduceLT]; done) | omega | (simp only [yz] <;> omega) | fail)) only [yg,Nat.reduceAdd,Nat.reduceEqDiff,Nat.reduceLT,g13]
    · simp (disch := (first | (simp only [ne_eq,Nat.reduceEqDiff,not_false_eq_true,Nat.reduceLT]; done) | omega | (simp only [yz] <;> omega) | fail)) only [yg,Nat.reduceAdd,Nat.reduceEqDiff,Nat.reduceLT,g12]
    · simp (disch := (first | (simp only [ne_eq,Nat.reduceEqDiff,not_false_eq_true,Nat.reduceLT]; done) | omega | (simp only [yz] <;> omega) | fail)) only [yg,Nat.reduceAdd,Nat.reduceEqDiff,Nat.reduceLT,g1]
    · exact (fr.allocd _).put (by omega) _
  · simp (disch := (first | (simp only [ne_eq,Nat.reduceEqDiff,not_false_eq_true,Nat.reduceLT]; done) | omega | (simp only [yz] <;> omega) | fail)) only [↓yp,yq0,yq1,yq2,yq3,yq4,yl,ys0,ys1,Nat.reduceAdd,Nat.reduceMul,Nat.reduceSub,Nat.reduceBEq,Nat.reduceEqDiff,Nat.reduceLT,Nat.reduceLeDiff,reduceIte,Int.reduceAdd,Int.reduceSub,Int.reduceMul,Int.reduceLT,Int.reduceLE,Int.reduceEq,Int.reduceToNat,Int.reduceNeg,zed,zee,zfr,zhw]
theorem c30 {a a' : Option Addr} {cap cap' : Nat} {l : List Str} {C : Int} (hs : Sl H a l) (hs' : Sl H a' l) (hl : l.length ≤ 18) (hok : ∀ s ∈ l, s.Ok) :
    acall tabA (aexec tabA Try.prog (N + 160)) 30 [.agg ⟨[.int .i64 C, .slice a l.length cap]⟩, .agg ⟨[.int .i64 C, .slice a' l.length cap']⟩] H = some (true, .bool true, H, H.size) := by
  refine call_quiet (k := 17) (rs := [.tmp 4]) rfl fn_30 rfl rfl rfl ?_ rfl
  have hcc : decide (C = C) = true := by simp
  simp (disch := (first | (simp only [ne_eq,Nat.reduceEqDiff,not_false_eq_true,Nat.reduceLT]; done) | omega | (simp only [yz] <;> omega) | fail)) only [↓yp,yq0,yq1,yq2,yq3,yq4,yl,ys0,ys1,Nat.reduceAdd,Nat.reduceMul,Nat.reduceSub,Nat.reduceBEq,Nat.reduceEqDiff,Nat.reduceLT,Nat.reduceLeDiff,reduceIte,Int.reduceAdd,Int.reduceSub,Int.reduceMul,Int.reduceLT,Int.reduceLE,Int.reduceEq,Int.reduceToNat,Int.reduceNeg,zed,zee,zfr,zhw,hcc]
  rw [c86 (hs.fr (by (repeat (first | exact Fr.refl _ | assumption | refine Fr.allocd ?_ _ | refine Fr.kill ?_ (by first | assumption | omega) | refine Fr.put ?_ (by first | omega | (simp only [yz] <;> omega)) _)))) (hs'.fr (by (repeat (first | exact Fr.refl _ | assumption | refine Fr.allocd ?_ _ | refine Fr.kill ?_ (by first | assumption | omega) | refine Fr.put ?_ (by first | omega | (simp only [yz] <;> omega)) _)))) hl hok]
  simp (disch := (first | (simp only [ne_eq,Nat.reduceEqDiff,not_false_eq_true,Nat.reduceLT]; done) | omega | (simp only [yz] <;> omega) | fail)) only [↓yp,yq0,yq1,yq2,yq3,yq4,yl,ys0,ys1,Nat.reduceAdd,Nat.reduceMul,Nat.reduceSub,Nat.reduceBEq,Nat.reduceEqDiff,Nat.reduceLT,Nat.reduceLeDiff,reduceIte,Int.reduceAdd,Int.reduceSub,Int.reduceMul,Int.reduceLT,Int.reduceLE,Int.reduceEq,Int.reduceToNat,Int.reduceNeg,zed,zee,zfr,zhw]
end Go.Am
