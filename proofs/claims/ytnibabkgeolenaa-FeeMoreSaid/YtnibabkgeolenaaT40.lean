/- Bills that are copied. -/
import Derived.Test.YtnibabkgeolenaaT39
set_option linter.unusedSimpArgs false
set_option linter.unusedVariables false
namespace Go.Am
open Go.Proofs
variable {T : Tab} {P : Program} {N L : Nat} {H H' H'' : AHeap} {Q : Bool → Value → AHeap → Prop}
/-- Clone of houses: a block of its own that can be written. -/
theorem c117 {a : Addr} {cap : Nat} {l : List Hs} (hs : Rw hsE H (some a) l) (hne : l ≠ []) (hl : l.length ≤ 65) (hL : L ≤ H.size) {M : Nat} (hM : 60 ≤ M)
    (hq : ∀ k H', Fr H H' → H.size ≤ k → k < H'.size → H'.get k = .rw (hsE.fl l) 72 true [] → Q false (.slice (some ⟨k, 0, none⟩) l.length (OPEN + 3)) H') : resK (acall tabA (aexec tabA Try.prog M) 117 [.slice (some a) l.length cap] H) L Q := by
  obtain ⟨N, rfl⟩ : ∃ N, M = N + 60 := ⟨M - 60, by omega⟩
  obtain ⟨b, o, c, e, -⟩ := hs.get hne
  cases e
  refine call_fls (R := fun v H' => ∃ k, v = .slice (some ⟨k, 0, none⟩) l.length (OPEN + 3) ∧ Fr H H' ∧ H.size ≤ k ∧ k < H'.size ∧ H'.get k = .rw (hsE.fl l) 72 true []) (k := 8) (rs := [.tmp 2]) rfl fn_117 rfl rfl rfl hL ?_ ?_ ?_
  · have hpos : 0 < l.length := List.length_pos_iff.2 hne
    simp (disch := (first | (simp only [ne_eq,Nat.reduceEqDiff,not_false_eq_true,Nat.reduceLT]; done) | omega | (simp only [yz] <;> omega) | fail)) only [↓yp,yq0,yq1,yq2,yq3,yq4,yl,ys0,ys1,Nat.reduceAdd,Nat.reduceMul,Nat.reduceSub,Nat.reduceBEq,Nat.reduceEqDiff,Nat.reduceLT,Nat.reduceLeDiff,reduceIte,Int.reduceAdd,Int.reduceSub,Int.reduceMul,Int.reduceLT,Int.reduceLE,Int.reduceEq,Int.reduceToNat,Int.reduceNeg,fitB,newC,endD,endR,yrg,binV_nil_some st_esS_37,A_buildSlice st_brS_37_0]
    rw [apK_empty (H := _) (n := l.length) st_apS_37 ((hs.fr (Fr.alloc _ _)).src hne) hpos (by omega) (by omega) (one_fl l) (c₀ := []) (by simp (disch := (first | (simp only [ne_eq,Nat.reduceEqDiff,not_false_eq_true,Nat.reduceLT]; done) | omega | (simp only [yz] <;> omega) | fail)) only [yg,Nat.reduceAdd,Nat.reduceEqDiff,Nat.reduceLT])]
    simp (disch := (first | (simp only [ne_eq,Nat.reduceEqDiff,not_false_eq_true,Nat.reduceLT]; done) | omega | (simp only [yz] <;> omega) | fail)) only [↓yp,yq0,yq1,yq2,yq3,yq4,yl,ys0,ys1,Nat.reduceAdd,Nat.reduceMul,Nat.reduceSub,Nat.reduceBEq,Nat.reduceEqDiff,Nat.reduceLT,Nat.reduceLeDiff,reduceIte,Int.reduceAdd,Int.reduceSub,Int.reduceMul,Int.reduceLT,Int.reduceLE,Int.reduceEq,Int.reduceToNat,Int.reduceNeg,fitB,newC,endD,endR,yrg]
    exact ⟨_, rfl, by (repeat (first | exact Fr.refl _ | assumption | refine Fr.allocd ?_ _ | refine Fr.kill ?_ (by first | assumption | omega) | refine Fr.put ?_ (by first | omega | (simp only [yz] <;> omega)) _)), by (first | omega | (simp only [yz] <;> omega)), by (first | omega | (simp only [yz] <;> omega)), by simp (disch := (first | (simp only [ne_eq,Nat.reduceEqDiff,not_false_eq_true,Nat.reduceLT]; done) | omega | (simp only [yz] <;> omega) | fail)) only [yg,Nat.reduceAdd,Nat.reduceEqDiff,Nat.reduceLT]⟩
  · rintro v H' ⟨k, rfl, -⟩; rfl
  · rintro v H' ⟨k, rfl, h1, h2, h3, h4⟩
    exact hq _ _ h1 h2 h3 h4
/-- Copy of houses. -/
theorem c66 {a : Addr} {cap : Nat} {l : List Hs} (hs : Rw hsE H (some a) l) (hne : l ≠ []) (hl : l.length ≤ 65) (hL : L ≤ H.size) {M : Nat} (hM : 60 ≤ M)
    (hq : ∀ k H', Fr H H' → H.size ≤ k → k < H'.size → H'.get k = .rw (hsE.fl l) 72 true [] → Q false (.slice (some ⟨k, 0, none⟩) l.length (OPEN + 3)) H') : resK (acall tabA (aexec tabA Try.prog M) 66 [.slice (some a) l.length cap] H) L Q := by
  obtain ⟨N, rfl⟩ : ∃ N, M = N + 60 := ⟨M - 60, by omega⟩
  obtain ⟨b, o, c, e, -⟩ := hs.get hne
  cases e
  refine call_fls (R := fun v H' => ∃ k, v = .slice (some ⟨k, 0, none⟩) l.length (OPEN + 3) ∧ Fr H H' ∧ H.size ≤ k ∧ k < H'.size ∧ H'.get k = .rw (hsE.fl l) 72 true []) (k := 9) (rs := [.tmp 2]) rfl fn_66 rfl rfl rfl hL ?_ ?_ ?_
  · have hpos : 0 < l.length := List.length_pos_iff.2 hne
    have hz : decide ((l.length : Int) = 0) = false := by simp; omega
    simp (disch := (first | (simp only [ne_eq,Nat.reduceEqDiff,not_false_eq_true,Nat.reduceLT]; done) | omega | (simp only [yz] <;> omega) | fail)) only [↓yp,yq0,yq1,yq2,yq3,yq4,yl,ys0,ys1,Nat.reduceAdd,Nat.reduceMul,Nat.reduceSub,Nat.reduceBEq,Nat.reduceEqDiff,Nat.reduceLT,Nat.reduceLeDiff,reduceIte,Int.reduceAdd,Int.reduceSub,Int.reduceMul,Int.reduceLT,Int.reduceLE,Int.reduceEq,Int.reduceToNat,Int.reduceNeg,fitB,newC,endD,endR,yrg,lenV_slice st_esS_37,hz,A_buildSlice st_brS_37_0]
    rw [apK_empty (H := _) (n := l.length) st_apS_37 ((hs.fr (Fr.alloc _ _)).src hne) hpos (by omega) (by omega) (one_fl l) (c₀ := []) (by simp (disch := (first | (simp only [ne_eq,Nat.reduceEqDiff,not_false_eq_true,Nat.reduceLT]; done) | omega | (simp only [yz] <;> omega) | fail)) only [yg,Nat.reduceAdd,Nat.reduceEqDiff,Nat.reduceLT])]
    simp (disch := (first | (simp only [ne_eq,Nat.reduceEqDiff,not_false_eq_true,Nat.reduceLT]; done) | omega | (simp only [yz] <;> omega) | fail)) only [↓yp,yq0,yq1,yq2,yq3,yq4,yl,ys0,ys1,Nat.reduceAdd,Nat.reduceMul,Nat.reduceSub,Nat.reduceBEq,Nat.reduceEqDiff,Nat.reduceLT,Nat.reduceLeDiff,reduceIte,Int.reduceAdd,Int.reduceSub,Int.reduceMul,Int.reduceLT,Int.reduceLE,Int.reduceEq,Int.reduceToNat,Int.reduceNeg,fitB,newC,endD,endR,yrg]
    exact ⟨_, rfl, by (repeat (first | exact Fr.refl _ | assumption | refine Fr.allocd ?_ _ | refine Fr.kill ?_ (by first | assumption | omega) | refine Fr.put ?_ (by first | omega | (simp only [yz] <;> omega)) _)), by (first | omega | (simp only [yz] <;> omega)), by (first | omega | (simp only [yz] <;> omega)), by simp (disch := (first | (simp only [ne_eq,Nat.reduceEqDiff,not_false_eq_true,Nat.reduceLT]; done) | omega | (simp only [yz] <;> omega) | fail)) only [yg,Nat.reduceAdd,Nat.reduceEqDiff,Nat.reduceLT]⟩
  · rintro v H' ⟨k, rfl, -⟩; rfl
  · rintro v H' ⟨k, rfl, h1, h2, h3, h4⟩
    exact hq _ _ h1 h2 h3 h4
section
variable {p : Int} {a : Option Addr} {c : Nat} {hs : List Hs}
/-- askHouse, of a house that is there. -/
theorem c79 (h : Bil H a hs p) {i : Nat} (hi : i < hs.length) : acall tabA (aexec tabA Try.prog (N + 400)) 79 [.agg ⟨[.int .i64 p, .slice a hs.length c]⟩, .int .i64 (i : Nat)] H = some (true, .int .i64 0, H, H.size) := by
  refine call_quiet (k := 18) (rs := [.tmp 4]) rfl fn_79 rfl rfl rfl ?_ rfl
  have hl := h.ok.len
  have h39 := fun (N : Nat) => c39 (N := N) (H := H.alloc (.rw [.int .i64 p, .slice a hs.length c] 39 false [])) (p := p) (cap := c) (h.rw.fr (by (repeat (first | exact Fr.refl _ | assumption | refine Fr.allocd ?_ _ | refine Fr.kill ?_ (by first | assumption | omega) | refine Fr.put ?_ (by first | omega | (simp only [yz] <;> omega)) _)))) (by omega)
  rw [h.ok.chk] at h39
  have h57 := fun (N : Nat) (H : AHeap) (n lo hi : Int) => c57 (N := N) (H := H) (n := n) (lo := lo) (hi := hi)
  have b0 : decide ((0 : Int) = 0) = true := by simp
  have w1 : w64 ((hs.length : Int) - 1) = (hs.length : Int) - 1 := w64_of (by omega)
  have hw : wi (i : Nat) 0 ((hs.length : Int) - 1) = true := by unfold wi; simp; omega
  simp (disch := (first | (simp only [ne_eq,Nat.reduceEqDiff,not_false_eq_true,Nat.reduceLT]; done) | omega | (simp only [yz] <;> omega) | fail)) only [↓yp,yq0,yq1,yq2,yq3,yq4,yl,ys0,ys1,Nat.reduceAdd,Nat.reduceMul,Nat.reduceSub,Nat.reduceBEq,Nat.reduceEqDiff,Nat.reduceLT,Nat.reduceLeDiff,reduceIte,Int.reduceAdd,Int.reduceSub,Int.reduceMul,Int.reduceLT,Int.reduceLE,Int.reduceEq,Int.reduceToNat,Int.reduceNeg,fitB,newC,endD,endR,yrg,h39,b0,lenV_slice st_esS_37,w1,h57,hw]
end
/-- Two rows of numbers are alike. -/
theorem c29 {a a' : Option Addr} {cap cap' : Nat} {l : List Int} (hs : Rw intE H a l) (hs' : Rw intE H a' l) (hl : l.length ≤ 65) : acall tabA (aexec tabA Try.prog (N + 150)) 29 [.slice a l.length cap, .slice a' l.length cap'] H = some (true, .bool true, H, H.size) := by
  refine call_quiet (k := 26) (rs := [.tmp 4]) rfl fn_29 rfl rfl rfl ?_ rfl
  have hll : decide ((l.length : Int) = (l.length : Int)) = true := by simp
  simp (disch := (first | (simp only [ne_eq,Nat.reduceEqDiff,not_false_eq_true,Nat.reduceLT]; done) | omega | (simp only [yz] <;> omega) | fail)) only [↓yp,yq0,yq1,yq2,yq3,yq4,yl,ys0,ys1,Nat.reduceAdd,Nat.reduceMul,Nat.reduceSub,Nat.reduceBEq,Nat.reduceEqDiff,Nat.reduceLT,Nat.reduceLeDiff,reduceIte,Int.reduceAdd,Int.reduceSub,Int.reduceMul,Int.reduceLT,Int.reduceLE,Int.reduceEq,Int.reduceToNat,Int.reduceNeg,fitB,newC,endD,endR,yrg,lenV_slice st_esS_40,hll]
  refine W_while (n := 26) 70 (fun k e H' => ∃ i, k = l.length - i ∧ i ≤ l.length ∧ gt 26 e 14 = .int .i64 (i : Nat) ∧ gt 26 e 13 = .int .i64 l.length ∧ gt 26 e 12 = .slice a l.length cap ∧ gt 26 e 1 = .slice a' l.length cap' ∧ H' = H)
    ?_ 65 l.length ⟨0, by omega, by omega, by simp (disch := (first | (simp only [ne_eq,Nat.reduceEqDiff,not_false_eq_true,Nat.reduceLT]; done) | omega | (simp only [yz] <;> omega) | fail)) only [yg,Nat.reduceAdd,Nat.reduceEqDiff,Nat.reduceLT]; rfl, by simp (disch := (first | (simp only [ne_eq,Nat.reduceEqDiff,not_false_eq_true,Nat.reduceLT]; done) | omega | (simp only [yz] <;> omega) | fail)) only [yg,Nat.reduceAdd,Nat.reduceEqDiff,Nat.reduceLT], by simp (disch := (first | (simp only [ne_eq,Nat.reduceEqDiff,not_false_eq_true,Nat.reduceLT]; done) | omega | (simp only [yz] <;> omega) | fail)) only [yg,Nat.reduceAdd,Nat.reduceEqDiff,Nat.reduceLT], by simp (disch := (first | (simp only [ne_eq,Nat.reduceEqDiff,not_false_eq_true,Nat.reduceLT]; done) | omega | (simp only [yz] <;> omega) | fail)) only [yg,Nat.reduceAdd,Nat.reduceEqDiff,Nat.reduceLT], rfl⟩ (by omega) (by omega)
  rintro M k e H' ⟨i, rfl, hi, g14, g13, g12, g1, rfl⟩
  simp (disch := (first | (simp only [ne_eq,Nat.reduceEqDiff,not_false_eq_true,Nat.reduceLT]; done) | omega | (simp only [yz] <;> omega) | fail)) only [↓yp,yq0,yq1,yq2,yq3,yq4,yl,ys0,ys1,Nat.reduceAdd,Nat.reduceMul,Nat.reduceSub,Nat.reduceBEq,Nat.reduceEqDiff,Nat.reduceLT,Nat.reduceLeDiff,reduceIte,Int.reduceAdd,Int.reduceSub,Int.reduceMul,Int.reduceLT,Int.reduceLE,Int.reduceEq,Int.reduceToNat,Int.reduceNeg,fitB,newC,endD,endR,yrg,g14,g13,g12,g1]
  refine ⟨fun hlt => ?_, fun hlt => ?_⟩
  · have hi' : i < l.length := by simpa using hlt
    obtain ⟨x, hx⟩ : ∃ x, l[i]? = some x := ⟨l[i], by simp [hi']⟩
    obtain ⟨b, o, c, rfl, hb, hc, hp⟩ := hs.at_ hx
    obtain ⟨b', o', c', rfl, hb', hc', hp'⟩ := hs'.at_ hx
    have q := cell_of hp
    have q' := cell_of hp'
    rw [show i * intE.z = i * 1 from rfl, Nat.mul_one] at q q'
    have hw2 : w64 ((i : Int) + 1) = ((i + 1 : Nat) : Int) := by rw [w64_of (by omega)]; omega
    have hxx : decide (x = x) = true := by simp
    simp (disch := (first | (simp only [ne_eq,Nat.reduceEqDiff,not_false_eq_true,Nat.reduceLT]; done) | omega | (simp only [yz] <;> omega) | fail)) only [↓yp,yq0,yq1,yq2,yq3,yq4,yl,ys0,ys1,Nat.reduceAdd,Nat.reduceMul,Nat.reduceSub,Nat.reduceBEq,Nat.reduceEqDiff,Nat.reduceLT,Nat.reduceLeDiff,reduceIte,Int.reduceAdd,Int.reduceSub,Int.reduceMul,Int.reduceLT,Int.reduceLE,Int.reduceEq,Int.reduceToNat,Int.reduceNeg,fitB,newC,endD,endR,yrg,g14,g13,g12,g1,A_indexSlice st_esS_40,hc,q,hc',q',hxx,hw2]
    exact ⟨l.length - (i + 1), by omega, i + 1, rfl, by omega, by simp (disch := (first | (simp only [ne_eq,Nat.reduceEqDiff,not_false_eq_true,Nat.reduceLT]; done) | omega | (simp only [yz] <;> omega) | fail)) only [yg,Nat.reduceAdd,Nat.reduceEqDiff,Nat.reduceLT], by simp (disch := (first | (simp only [ne_eq,Nat.reduceEqDiff,not_false_eq_true,Nat.reduceLT]; done) | omega | (simp only [yz] <;> omega) | fail)) only [yg,Nat.reduceAdd,Nat.reduceEqDiff,Nat.reduceLT,g13], by simp (disch := (first | (simp only [ne_eq,Nat.reduceEqDiff,not_false_eq_true,Nat.reduceLT]; done) | omega | (simp only [yz] <;> omega) | fail)) only [yg,Nat.reduceAdd,Nat.reduceEqDiff,Nat.reduceLT,g12], by simp (disch := (first | (simp only [ne_eq,Nat.reduceEqDiff,not_false_eq_true,Nat.reduceLT]; done) | omega | (simp only [yz] <;> omega) | fail)) only [yg,Nat.reduceAdd,Nat.reduceEqDiff,Nat.reduceLT,g1], rfl⟩
  · simp (disch := (first | (simp only [ne_eq,Nat.reduceEqDiff,not_false_eq_true,Nat.reduceLT]; done) | omega | (simp only [yz] <;> omega) | fail)) only [↓yp,yq0,yq1,yq2,yq3,yq4,yl,ys0,ys1,Nat.reduceAdd,Nat.reduceMul,Nat.reduceSub,Nat.reduceBEq,Nat.reduceEqDiff,Nat.reduceLT,Nat.reduceLeDiff,reduceIte,Int.reduceAdd,Int.reduceSub,Int.reduceMul,Int.reduceLT,Int.reduceLE,Int.reduceEq,Int.reduceToNat,Int.reduceNeg,fitB,newC,endD,endR,yrg]
end Go.Am
/- A bill of which a house has another value. -/
namespace Go.Am
open Go.Proofs
variable {T : Tab} {P : Program} {N L : Nat} {H H' H'' : AHeap} {Q : Bool → Value → AHeap → Prop}
theorem hs_set : ∀ {l : List Hs} {i : Nat} {h : Hs} (v : Int), l[i]? = some h → (hsE.fl l).take (i * 3) ++ [Value.int .i64 v] ++ (hsE.fl l).drop (i * 3 + 1) = hsE.fl (l.set i ⟨v, h.l, h.m⟩)
  | [], i, h, v, e => by simp at e
  | x :: l, 0, h, v, e => by cases e; rfl
  | x :: l, i + 1, h, v, e => by
    have ih := hs_set (l := l) (i := i) (h := h) v (by simpa using e)
    rw [show (i + 1) * 3 = i * 3 + 3 by omega, show i * 3 + 3 + 1 = i * 3 + 1 + 3 by omega]
    show Value.int .i64 x.v :: .int .i64 x.l :: .int .i64 x.m :: ((hsE.fl l).take (i * 3) ++ [Value.int .i64 v] ++ (hsE.fl l).drop (i * 3 + 1)) = Value.int .i64 x.v :: .int .i64 x.l :: .int .i64 x.m :: hsE.fl (l.set i ⟨v, h.l, h.m⟩)
    rw [ih]
section
variable {p : Int} {a : Addr} {c : Nat} {hs : List Hs}
/-- Own. -/
theorem c22 (h : Bil H (some a) hs p) (hL : L ≤ H.size) {M : Nat} (hM : 100 ≤ M)
    (hq : ∀ k H', Fr H H' → H.size ≤ k → k < H'.size → H'.get k = .rw (hsE.fl hs) 72 true [] → Q false (.agg ⟨[.int .i64 p, .slice (some ⟨k, 0, none⟩) hs.length (OPEN + 3)]⟩) H') : resK (acall tabA (aexec tabA Try.prog M) 22 [.agg ⟨[.int .i64 p, .slice (some a) hs.length c]⟩] H) L Q := by
  obtain ⟨N, rfl⟩ : ∃ N, M = N + 100 := ⟨M - 100, by omega⟩
  refine call_fls (R := fun v H' => ∃ k, v = .agg ⟨[.int .i64 p, .slice (some ⟨k, 0, none⟩) hs.length (OPEN + 3)]⟩ ∧ Fr H H' ∧ H.size ≤ k ∧ k < H'.size ∧ H'.get k = .rw (hsE.fl hs) 72 true []) (k := 8) (rs := [.cell 2 39]) rfl fn_22 rfl rfl rfl hL ?_ ?_ ?_
  rotate_left
  · rintro v H' ⟨k, rfl, -⟩; rfl
  · rintro v H' ⟨k, rfl, h1, h2, h3, h4⟩
    exact hq _ _ h1 h2 h3 h4
  have hl := h.ok.len
  simp (disch := (first | (simp only [ne_eq,Nat.reduceEqDiff,not_false_eq_true,Nat.reduceLT]; done) | omega | (simp only [yz] <;> omega) | fail)) only [↓yp,yq0,yq1,yq2,yq3,yq4,yl,ys0,ys1,Nat.reduceAdd,Nat.reduceMul,Nat.reduceSub,Nat.reduceBEq,Nat.reduceEqDiff,Nat.reduceLT,Nat.reduceLeDiff,reduceIte,Int.reduceAdd,Int.reduceSub,Int.reduceMul,Int.reduceLT,Int.reduceLE,Int.reduceEq,Int.reduceToNat,Int.reduceNeg,fitB,newC,endD,endR,yrg]
  refine c66 (h.rw.fr (by (repeat (first | exact Fr.refl _ | assumption | refine Fr.allocd ?_ _ | refine Fr.kill ?_ (by first | assumption | omega) | refine Fr.put ?_ (by first | omega | (simp only [yz] <;> omega)) _)))) (fun h0 => by rw [h0] at hl; simp at hl) (by omega) (by (first | omega | (simp only [yz] <;> omega))) (by omega) ?_
  intro k H1 fr1 k1 k2 k3
  have f1 := fr1.size
  simp only [size_alloc] at f1 k1
  have b1 := fr1.same H.size (by (first | omega | (simp only [yz] <;> omega)))
  have b2 := fr1.same (H.size + 1) (by (first | omega | (simp only [yz] <;> omega)))
  rw [get_alloc_lt (by (first | omega | (simp only [yz] <;> omega))), get_alloc_eq rfl] at b1
  rw [get_alloc_eq (by (first | omega | (simp only [yz] <;> omega)))] at b2
  simp (disch := (first | (simp only [ne_eq,Nat.reduceEqDiff,not_false_eq_true,Nat.reduceLT]; done) | omega | (simp only [yz] <;> omega) | fail)) only [↓yp,yq0,yq1,yq2,yq3,yq4,yl,ys0,ys1,Nat.reduceAdd,Nat.reduceMul,Nat.reduceSub,Nat.reduceBEq,Nat.reduceEqDiff,Nat.reduceLT,Nat.reduceLeDiff,reduceIte,Int.reduceAdd,Int.reduceSub,Int.reduceMul,Int.reduceLT,Int.reduceLE,Int.reduceEq,Int.reduceToNat,Int.reduceNeg,fitB,newC,endD,endR,yrg,b1,b2]
  refine ⟨k, rfl, ⟨by simp only [size_put]; omega, fun j hj => by rw [get_put_ne (by omega), get_put_ne (by omega), fr1.same _ (by (first | omega | (simp only [yz] <;> omega))), get_alloc_lt (by (first | omega | (simp only [yz] <;> omega))), get_alloc_lt (by omega)]⟩, by omega, k2, by rw [get_put_ne (by omega), get_put_ne (by omega)]; exact k3⟩
/-- with. -/
theorem c82 (h : Bil H (some a) hs p) {i : Nat} {s : Hs} {v : Int} (hs' : hs[i]? = some s) (hL : L ≤ H.size) {M : Nat} (hM : 100 ≤ M)
    (hq : ∀ k H', Fr H H' → H.size ≤ k → k < H'.size → H'.get k = .rw (hsE.fl (hs.set i ⟨v, s.l, s.m⟩)) 72 true [] → Q false (.agg ⟨[.int .i64 p, .slice (some ⟨k, 0, none⟩) hs.length (OPEN + 3)]⟩) H') : resK (acall tabA (aexec tabA Try.prog M) 82 [.agg ⟨[.int .i64 p, .slice (some a) hs.length c]⟩, .int .i64 (i : Nat), .int .i64 v] H) L Q := by
  obtain ⟨N, rfl⟩ : ∃ N, M = N + 100 := ⟨M - 100, by omega⟩
  refine call_fls (R := fun w H' => ∃ k, w = .agg ⟨[.int .i64 p, .slice (some ⟨k, 0, none⟩) hs.length (OPEN + 3)]⟩ ∧ Fr H H' ∧ H.size ≤ k ∧ k < H'.size ∧ H'.get k = .rw (hsE.fl (hs.set i ⟨v, s.l, s.m⟩)) 72 true []) (k := 18) (rs := [.cell 6 39]) rfl fn_82 rfl rfl rfl hL ?_ ?_ ?_
  rotate_left
  · rintro v H' ⟨k, rfl, -⟩; rfl
  · rintro v H' ⟨k, rfl, h1, h2, h3, h4⟩
    exact hq _ _ h1 h2 h3 h4
  have hl := h.ok.len
  have hi := (List.getElem?_eq_some_iff.1 hs').1
  simp (disch := (first | (simp only [ne_eq,Nat.reduceEqDiff,not_false_eq_true,Nat.reduceLT]; done) | omega | (simp only [yz] <;> omega) | fail)) only [↓yp,yq0,yq1,yq2,yq3,yq4,yl,ys0,ys1,Nat.reduceAdd,Nat.reduceMul,Nat.reduceSub,Nat.reduceBEq,Nat.reduceEqDiff,Nat.reduceLT,Nat.reduceLeDiff,reduceIte,Int.reduceAdd,Int.reduceSub,Int.reduceMul,Int.reduceLT,Int.reduceLE,Int.reduceEq,Int.reduceToNat,Int.reduceNeg,fitB,newC,endD,endR,yrg]
  refine c117 (h.rw.fr (by (repeat (first | exact Fr.refl _ | assumption | refine Fr.allocd ?_ _ | refine Fr.kill ?_ (by first | assumption | omega) | refine Fr.put ?_ (by first | omega | (simp only [yz] <;> omega)) _)))) (fun h0 => by rw [h0] at hl; simp at hl) (by omega) (by (first | omega | (simp only [yz] <;> omega))) (by omega) ?_
  intro k H1 fr1 k1 k2 k3
  have f1 := fr1.size
  simp only [size_alloc] at f1 k1
  have b1 := fr1.same H.size (by (first | omega | (simp only [yz] <;> omega)))
  have b2 := fr1.same (H.size + 1) (by (first | omega | (simp only [yz] <;> omega)))
  rw [get_alloc_lt (by (first | omega | (simp only [yz] <;> omega))), get_alloc_eq rfl] at b1
  rw [get_alloc_eq (by (first | omega | (simp only [yz] <;> omega)))] at b2
  have fit : decide (i * 3 + 1 ≤ (hsE.fl hs).length) = true := decide_eq_true (by rw [fl_length]; show i * 3 + 1 ≤ hs.length * 3; omega)
  have nw := hs_set v hs'
  simp (disch := (first | (simp only [ne_eq,Nat.reduceEqDiff,not_false_eq_true,Nat.reduceLT]; done) | omega | (simp only [yz] <;> omega) | fail)) only [↓yp,yq0,yq1,yq2,yq3,yq4,yl,ys0,ys1,Nat.reduceAdd,Nat.reduceMul,Nat.reduceSub,Nat.reduceBEq,Nat.reduceEqDiff,Nat.reduceLT,Nat.reduceLeDiff,reduceIte,Int.reduceAdd,Int.reduceSub,Int.reduceMul,Int.reduceLT,Int.reduceLE,Int.reduceEq,Int.reduceToNat,Int.reduceNeg,fitB,newC,endD,endR,yrg,b1,b2,A_indexSlice st_esS_37,k3,fit,nw]
  exact ⟨k, rfl, ⟨by simp only [size_put]; omega, fun j hj => by rw [get_put_ne (by omega), get_put_ne (by omega), get_put_ne (by omega), fr1.same _ (by (first | omega | (simp only [yz] <;> omega))), get_alloc_lt (by (first | omega | (simp only [yz] <;> omega))), get_alloc_lt (by omega)]⟩, by omega, k2, by rw [get_put_ne (by omega), get_put_same (by simp only [size_put]; omega)]⟩
end
end Go.Am
/- Appeals. -/
namespace Go.Am
open Go.Proofs
variable {T : Tab} {P : Program} {N L : Nat} {H H' H'' : AHeap} {Q : Bool → Value → AHeap → Prop}
theorem map_same {α β : Type} {f : α → β} {l : List α} {i : Nat} {x y : α} (h : l[i]? = some x) (e : f y = f x) : (l.set i y).map f = l.map f := by
  refine List.ext_getElem? fun n => ?_
  rw [List.getElem?_map, List.getElem?_map, List.getElem?_set]
  split
  · rename_i hn
    subst hn
    have hi := (List.getElem?_eq_some_iff.1 h).1
    rw [if_pos hi, h]
    show some _ = some _
    rw [e]
  · rfl
section
variable {p : Int} {a : Addr} {c : Nat} {hs : List Hs}
theorem ok_set (h : BilOk p hs) {i : Nat} {s : Hs} {v : Int} (hs' : hs[i]? = some s) (hv : 0 ≤ v ∧ v ≤ 1000) : BilOk p (hs.set i ⟨v, s.l, s.m⟩) where
  p := h.p
  len := by rw [List.length_set]; exact h.len
  ok x hx := by
    rcases List.mem_or_eq_of_mem_set hx with hx | rfl
    · exact h.ok x hx
    · have := h.ok s (List.mem_of_getElem? hs')
      exact ⟨hv, this.m, this.l⟩
/-- The bids of a bill that can be paid. -/
theorem bid_ex (h : BilOk p hs) (hw : isum (hs.map Hs.l) ≤ p ∧ p ≤ isum (hs.map Hs.m)) : ∃ (K : Nat) (q : List Int), p - isum (hs.map Hs.l) = (K : Nat) ∧ K ≤ 500 ∧ Run (befB (hs.map Hs.v)) hs (pad6 (hs.map Hs.l)) K ∧ runW (befB (hs.map Hs.v)) hs (pad6 (hs.map Hs.l)) K = pad6 q ∧ BidI hs q (p - isum (hs.map Hs.l)) := by
  have hp := h.p
  have hl0 : 0 ≤ isum (hs.map Hs.l) := (isum_le (m := 500) fun x hx => by
    obtain ⟨y, hy, rfl⟩ := List.mem_map.1 hx
    have h1 := (h.ok y hy).l
    have h2 := (h.ok y hy).m
    omega).1
  obtain ⟨K, k1⟩ : ∃ K : Nat, p - isum (hs.map Hs.l) = (K : Nat) := ⟨(p - isum (hs.map Hs.l)).toNat, by omega⟩
  obtain ⟨q, e, I, -⟩ := run_bid h.ok (K := K) (by omega) (Nat.le_refl K)
  exact ⟨K, q, k1, by omega, bid_run h.ok (K := K) (by omega), e, by rw [k1]; exact I⟩
set_option maxHeartbeats 4000000 in
/-- Appeal, of a bill that can be paid. -/
theorem c31 (h : Bil H (some a) hs p) (hw : isum (hs.map Hs.l) ≤ p ∧ p ≤ isum (hs.map Hs.m)) {i : Nat} {s : Hs} {v : Int} (hs' : hs[i]? = some s) (hv : 0 ≤ v ∧ v ≤ 1000) (hL : L ≤ H.size) {M : Nat} (hM : 6000 ≤ M)
    (hq : ∀ b q q' y y' H', Fr H H' → H.size ≤ b → Rw intE H' (some ⟨b, 0, none⟩) q' → BidI hs q (p - isum (hs.map Hs.l)) → BidI (hs.set i ⟨v, s.l, s.m⟩) q' (p - isum (hs.map Hs.l)) → q[i]? = some y → q'[i]? = some y' → Q false (.tuple ⟨[.slice (some ⟨b, 0, none⟩) hs.length (OPEN + 1), .int .i64 (y - y'), .int .i64 0]⟩) H') :
    resK (acall tabA (aexec tabA Try.prog M) 31 [.agg ⟨[.int .i64 p, .slice (some a) hs.length c]⟩, .int .i64 (i : Nat), .int .i64 v] H) L Q := by
  obtain ⟨N, rfl⟩ : ∃ N, M = N + 6000 := ⟨M - 6000, by omega⟩
  refine call_fls (R := fun w H' => ∃ b q q' y y', w = .tuple ⟨[.slice (some ⟨b, 0, none⟩) hs.length (OPEN + 1), .int .i64 (y - y'), .int .i64 0]⟩ ∧ Fr H H' ∧ H.size ≤ b ∧ Rw intE H' (some ⟨b, 0, none⟩) q' ∧ BidI hs q (p - isum (hs.map Hs.l)) ∧ BidI (hs.set i ⟨v, s.l, s.m⟩) q' (p - isum (hs.map Hs.l)) ∧ q[i]? = some y ∧ q'[i]? = some y') (k := 45) (rs := [.tmp 6, .tmp 7, .tmp 8]) rfl fn_31 rfl rfl rfl hL ?_ ?_ ?_
  rotate_left
  · rintro w H' ⟨b, q, q', y, y', rfl, -⟩; rfl
  · rintro w H' ⟨b, q, q', y, y', rfl, h1, h2, h3, h4, h5, h6, h7⟩
    exact hq _ _ _ _ _ _ h1 h2 h3 h4 h5 h6 h7
  have hl := h.ok.len
  have hi := (List.getElem?_eq_some_iff.1 hs').1
  have h79 := fun (N : Nat) => c79 (N := N) (H := H.alloc (.rw [.int .i64 p, .slice (some a) hs.length c] 39 false [])) (c := c) (h.fr (by (repeat (first | exact Fr.refl _ | assumption | refine Fr.allocd ?_ _ | refine Fr.kill ?_ (by first | assumption | omega) | refine Fr.put ?_ (by first | omega | (simp only [yz] <;> omega)) _)))) hi
  have h80 := fun (N : Nat) => c80 (N := N) (H := H.alloc (.rw [.int .i64 p, .slice (some a) hs.length c] 39 false [])) (c := c) (h.fr (by (repeat (first | exact Fr.refl _ | assumption | refine Fr.allocd ?_ _ | refine Fr.kill ?_ (by first | assumption | omega) | refine Fr.put ?_ (by first | omega | (simp only [yz] <;> omega)) _))))
  rw [show wi p (isum (hs.map Hs.l)) (isum (hs.map Hs.m)) = true by unfold wi; simp; omega] at h80
  have h57 := fun (N : Nat) (H : AHeap) (n lo hi : Int) => c57 (N := N) (H := H) (n := n) (lo := lo) (hi := hi)
  have hwv : wi v 0 1000 = true := by unfold wi; simp; omega
  have b0 : decide ((0 : Int) = 0) = true := by simp
  obtain ⟨K, q, k1, k5, hrun, e, I⟩ := bid_ex h.ok hw
  have ok' := ok_set h.ok hs' hv
  have el : (hs.set i ⟨v, s.l, s.m⟩).map Hs.l = hs.map Hs.l := map_same hs' rfl
  have em : (hs.set i ⟨v, s.l, s.m⟩).map Hs.m = hs.map Hs.m := map_same hs' rfl
  have eln : (hs.set i ⟨v, s.l, s.m⟩).length = hs.length := List.length_set
  obtain ⟨hs2, hh2⟩ : ∃ x, hs.set i ⟨v, s.l, s.m⟩ = x := ⟨_, rfl⟩
  have h82 := fun (H0 : Nat) (H : AHeap) (h : Bil H (some a) hs p) (Q : Bool → Value → AHeap → Prop) (M : Nat) => c82 (L := H0) (Q := Q) (M := M) (c := c) h (v := v) hs'
  rw [hh2] at ok' el em eln h82 ⊢
  obtain ⟨K', q', k1', k5', hrun', e', I'⟩ := bid_ex ok' (by rw [el, em]; exact hw)
  simp (disch := (first | (simp only [ne_eq,Nat.reduceEqDiff,not_false_eq_true,Nat.reduceLT]; done) | omega | (simp only [yz] <;> omega) | fail)) only [↓yp,yq0,yq1,yq2,yq3,yq4,yl,ys0,ys1,Nat.reduceAdd,Nat.reduceMul,Nat.reduceSub,Nat.reduceBEq,Nat.reduceEqDiff,Nat.reduceLT,Nat.reduceLeDiff,reduceIte,Int.reduceAdd,Int.reduceSub,Int.reduceMul,Int.reduceLT,Int.reduceLE,Int.reduceEq,Int.reduceToNat,Int.reduceNeg,fitB,newC,endD,endR,yrg,h79,h80,h57,hwv,b0]
  refine W_draw [1, 2, 6, 7, 8] rfl (by kernel_rfl) (by kernel_rfl) (by (first | omega | (simp only [yz] <;> omega))) ?_
  simp (disch := (first | (simp only [ne_eq,Nat.reduceEqDiff,not_false_eq_true,Nat.reduceLT]; done) | omega | (simp only [yz] <;> omega) | fail)) only [↓yp,yq0,yq1,yq2,yq3,yq4,yl,ys0,ys1,Nat.reduceAdd,Nat.reduceMul,Nat.reduceSub,Nat.reduceBEq,Nat.reduceEqDiff,Nat.reduceLT,Nat.reduceLeDiff,reduceIte,Int.reduceAdd,Int.reduceSub,Int.reduceMul,Int.reduceLT,Int.reduceLE,Int.reduceEq,Int.reduceToNat,Int.reduceNeg,fitB,newC,endD,endR,yrg]
  refine c69 (h.fr (by (repeat (first | exact Fr.refl _ | assumption | refine Fr.allocd ?_ _ | refine Fr.kill ?_ (by first | assumption | omega) | refine Fr.put ?_ (by first | omega | (simp only [yz] <;> omega)) _)))) (by (first | omega | (simp only [yz] <;> omega))) (by omega) ?_
  intro ck H1 fr1 wk fo
  have f1 := fr1.size
  simp only [size_alloc] at f1
  simp (disch := (first | (simp only [ne_eq,Nat.reduceEqDiff,not_false_eq_true,Nat.reduceLT]; done) | omega | (simp only [yz] <;> omega) | fail)) only [↓yp,yq0,yq1,yq2,yq3,yq4,yl,ys0,ys1,Nat.reduceAdd,Nat.reduceMul,Nat.reduceSub,Nat.reduceBEq,Nat.reduceEqDiff,Nat.reduceLT,Nat.reduceLeDiff,reduceIte,Int.reduceAdd,Int.reduceSub,Int.reduceMul,Int.reduceLT,Int.reduceLE,Int.reduceEq,Int.reduceToNat,Int.reduceNeg,fitB,newC,endD,endR,yrg]
  have h81 := fun (Q : Bool → Value → AHeap → Prop) (F : Nat) (hF : 4000 ≤ F) => c81 (p := p) (c := c) (K := K) (L := H.size) (Q := Q) (M := F) wk fo hrun (by rw [pad6_sum]; exact k1) k5 (by omega) hF
  rw [e] at h81
  refine h81 _ _ (by omega) ?_
  intro b1 H2 fr2 hb1 r1
  have f2 := fr2.size
  have bb := fr1.same H.size (by (first | omega | (simp only [yz] <;> omega)))
  rw [get_alloc_eq rfl] at bb
  have bb2 := (fr2.same H.size (by omega)).trans bb
  have hq1 : (pad6 q).take hs.length = q := by unfold pad6; rw [← I.len, List.take_left]
  rw [hq1] at r1
  have bil2 : Bil H2 (some a) hs p := h.fr (((Fr.alloc _ _).trans fr1).trans fr2)
  simp (disch := (first | (simp only [ne_eq,Nat.reduceEqDiff,not_false_eq_true,Nat.reduceLT]; done) | omega | (simp only [yz] <;> omega) | fail)) only [↓yp,yq0,yq1,yq2,yq3,yq4,yl,ys0,ys1,Nat.reduceAdd,Nat.reduceMul,Nat.reduceSub,Nat.reduceBEq,Nat.reduceEqDiff,Nat.reduceLT,Nat.reduceLeDiff,reduceIte,Int.reduceAdd,Int.reduceSub,Int.reduceMul,Int.reduceLT,Int.reduceLE,Int.reduceEq,Int.reduceToNat,Int.reduceNeg,fitB,newC,endD,endR,yrg,bb2]
  refine h82 H.size H2 bil2 _ _ (by omega) (by omega) ?_
  intro k3 H3 fr3 hk3 hk3' g3
  have f3 := fr3.size
  have bil3 : Bil H3 (some ⟨k3, 0, none⟩) hs2 p := ⟨Rw.of (r := []) hk3' (by rw [g3]; rfl) (by rw [List.append_nil]), ok'⟩
  simp (disch := (first | (simp only [ne_eq,Nat.reduceEqDiff,not_false_eq_true,Nat.reduceLT]; done) | omega | (simp only [yz] <;> omega) | fail)) only [↓yp,yq0,yq1,yq2,yq3,yq4,yl,ys0,ys1,Nat.reduceAdd,Nat.reduceMul,Nat.reduceSub,Nat.reduceBEq,Nat.reduceEqDiff,Nat.reduceLT,Nat.reduceLeDiff,reduceIte,Int.reduceAdd,Int.reduceSub,Int.reduceMul,Int.reduceLT,Int.reduceLE,Int.reduceEq,Int.reduceToNat,Int.reduceNeg,fitB,newC,endD,endR,yrg]
  have h69 := fun (Q : Bool → Value → AHeap → Prop) (F : Nat) (hF : 800 ≤ F) => c69 (L := H.size) (Q := Q) (M := F) (c := OPEN + 3) bil3 (by omega) hF
  rw [eln] at h69
  refine h69 _ _ (by omega) ?_
  intro ck' H4 fr4 wk' fo'
  have f4 := fr4.size
  simp (disch := (first | (simp only [ne_eq,Nat.reduceEqDiff,not_false_eq_true,Nat.reduceLT]; done) | omega | (simp only [yz] <;> omega) | fail)) only [↓yp,yq0,yq1,yq2,yq3,yq4,yl,ys0,ys1,Nat.reduceAdd,Nat.reduceMul,Nat.reduceSub,Nat.reduceBEq,Nat.reduceEqDiff,Nat.reduceLT,Nat.reduceLeDiff,reduceIte,Int.reduceAdd,Int.reduceSub,Int.reduceMul,Int.reduceLT,Int.reduceLE,Int.reduceEq,Int.reduceToNat,Int.reduceNeg,fitB,newC,endD,endR,yrg]
  have h81' := fun (Q : Bool → Value → AHeap → Prop) (F : Nat) (hF : 4000 ≤ F) => c81 (p := p) (c := OPEN + 3) (K := K') (L := H.size) (Q := Q) (M := F) wk' (by rw [eln]; exact fo') hrun' (by rw [pad6_sum]; exact k1') k5' (by omega) hF
  rw [e', eln] at h81'
  refine h81' _ _ (by omega) ?_
  intro b4 H5 fr5 hb4 r4
  have f5 := fr5.size
  have hq4 : (pad6 q').take hs.length = q' := by unfold pad6; rw [← eln, ← I'.len, List.take_left]
  rw [hq4] at r4
  have bb3 := (fr3.same H.size (by omega)).trans bb2
  have bb4 := (fr4.same H.size (by omega)).trans bb3
  have bb5 := (fr5.same H.size (by omega)).trans bb4
  have sv : sameV 6 (.agg ⟨[.int .i64 p, .slice (some a) hs.length c]⟩) (.agg ⟨[.int .i64 p, .slice (some a) hs.length c]⟩) = true := by rw [sv_agg]; simp [sameL, sv_int, sv_slice]
  simp (disch := (first | (simp only [ne_eq,Nat.reduceEqDiff,not_false_eq_true,Nat.reduceLT]; done) | omega | (simp only [yz] <;> omega) | fail)) only [↓yp,yq0,yq1,yq2,yq3,yq4,yl,ys0,ys1,Nat.reduceAdd,Nat.reduceMul,Nat.reduceSub,Nat.reduceBEq,Nat.reduceEqDiff,Nat.reduceLT,Nat.reduceLeDiff,reduceIte,Int.reduceAdd,Int.reduceSub,Int.reduceMul,Int.reduceLT,Int.reduceLE,Int.reduceEq,Int.reduceToNat,Int.reduceNeg,fitB,newC,endD,endR,yrg,bb,bb2,bb3,bb4,bb5,sv]
  obtain ⟨y, hy⟩ : ∃ y, q[i]? = some y := ⟨_, List.getElem?_eq_getElem (by rw [I.len]; exact hi)⟩
  obtain ⟨y', hy'⟩ : ∃ y, q'[i]? = some y := ⟨_, List.getElem?_eq_getElem (by rw [I'.len, eln]; exact hi)⟩
  have r5 : Rw intE H5 (some ⟨b1, 0, none⟩) q := ((r1.fr fr3).fr fr4).fr fr5
  obtain ⟨bl, o, cc, e1, hbl, hc, hqq⟩ := r5.at_ hy
  cases e1
  obtain ⟨bl2, o2, cc2, e2, hbl2, hc2, hqq2⟩ := r4.at_ hy'
  cases e2
  have q1 := cell_of hqq
  have q2 := cell_of hqq2
  rw [show i * intE.z = i * 1 from rfl, Nat.mul_one, Nat.zero_add] at q1 q2
  have by1 : 0 ≤ y ∧ y ≤ 500 := by
    have b1 := I.bd i s y hs' hy
    have b2 := h.ok.ok s (List.mem_of_getElem? hs')
    have := b2.l
    have := b2.m
    omega
  have by2 : 0 ≤ y' ∧ y' ≤ 500 := by
    obtain ⟨s2, e2⟩ : ∃ s2, hs2[i]? = some s2 := ⟨_, List.getElem?_eq_getElem (by rw [eln]; exact hi)⟩
    have b1 := I'.bd i s2 y' e2 hy'
    have b2 := ok'.ok s2 (List.mem_of_getElem? e2)
    have := b2.l
    have := b2.m
    omega
  have wy : w64 (y - y') = y - y' := w64_of (by omega)
  refine W_draw [] rfl (by kernel_rfl) (by kernel_rfl) (by (first | omega | (simp only [yz] <;> omega))) ?_
  simp (disch := (first | (simp only [ne_eq,Nat.reduceEqDiff,not_false_eq_true,Nat.reduceLT]; done) | omega | (simp only [yz] <;> omega) | fail)) only [↓yp,yq0,yq1,yq2,yq3,yq4,yl,ys0,ys1,Nat.reduceAdd,Nat.reduceMul,Nat.reduceSub,Nat.reduceBEq,Nat.reduceEqDiff,Nat.reduceLT,Nat.reduceLeDiff,reduceIte,Int.reduceAdd,Int.reduceSub,Int.reduceMul,Int.reduceLT,Int.reduceLE,Int.reduceEq,Int.reduceToNat,Int.reduceNeg,fitB,newC,endD,endR,yrg,A_indexSlice st_esS_40,hc,hc2,q1,q2,wy]
  rw [el] at I'
  exact ⟨b4, q, q', y, y', rfl, (((((Fr.alloc _ _).trans fr1).trans fr2).trans fr3).trans fr4).trans fr5, by omega, r4, I, I', hy, hy'⟩
end
end Go.Am
/- FeeMore: all pay at most, added up; with a greater value no other house pays more. -/
namespace Go.Am
open Go.Proofs
variable {T : Tab} {P : Program} {N L : Nat} {H H' H'' : AHeap} {Q : Bool → Value → AHeap → Prop}
section
variable {kb : Nat} {hs : List Hs} {p : Int} {ad : Addr} {c : Nat} {e : VT}
theorem c8m {M : Nat} (bb : H'.get kb = .rw [.int .i64 p, .slice (some ad) hs.length c] 39 false []) (hr : Rw hsE H' (some ad) hs) (ok : BilOk p hs)
    (g7 : gt 256 e 7 = .pointer (some ⟨kb, 0, none⟩)) (g13 : gt 256 e 13 = .int .i64 0) (hM : 600 ≤ M) (hL : L ≤ H'.size) :
    W tabA Try.prog M none (sub [true, true, true, true, true, true, true, true, true, false] (bodyOf Try.f8)) L ⟨256, e, H', []⟩ (endK 256 [] fun e' G => Keep 256 [1, 2, 7, 8, 9, 10, 11, 12] e e' ∧ Fr H' G ∧ gt 256 e' 13 = .int .i64 (isum (hs.map Hs.m))) := by
  obtain ⟨N, rfl⟩ : ∃ N, M = N + 600 := ⟨M - 600, by omega⟩
  simp only [Try.f8,bodyOf,sub_nil,sub_seq0,sub_seq1,sub_block,sub_loop,sub_cond0,sub_cond1]
  have hlen := ok.len
  simp (disch := (first | (simp only [ne_eq,Nat.reduceEqDiff,not_false_eq_true,Nat.reduceLT]; done) | omega | (simp only [yz] <;> omega) | fail)) only [↓yp,yq0,yq1,yq2,yq3,yq4,yl,ys0,ys1,Nat.reduceAdd,Nat.reduceMul,Nat.reduceSub,Nat.reduceBEq,Nat.reduceEqDiff,Nat.reduceLT,Nat.reduceLeDiff,reduceIte,Int.reduceAdd,Int.reduceSub,Int.reduceMul,Int.reduceLT,Int.reduceLE,Int.reduceEq,Int.reduceToNat,Int.reduceNeg,fitB,newC,endD,endR,yrg,g7,bb,lenV_slice st_esS_37]
  refine W_while (n := 256) 60 (fun q' e' G => ∃ i : Nat, q' = hs.length - i ∧ i ≤ hs.length ∧ gt 256 e' 63 = .int .i64 (i : Nat) ∧ gt 256 e' 62 = .int .i64 hs.length ∧ gt 256 e' 61 = .slice (some ad) hs.length c ∧ Keep 256 [1, 2, 7, 8, 9, 10, 11, 12] e e' ∧ Fr H' G ∧ gt 256 e' 13 = .int .i64 (isum ((hs.take i).map Hs.m)))
    ?_ 8 hs.length ⟨0, by omega, by omega, by simp (disch := (first | (simp only [ne_eq,Nat.reduceEqDiff,not_false_eq_true,Nat.reduceLT]; done) | omega | (simp only [yz] <;> omega) | fail)) only [yg,Nat.reduceAdd,Nat.reduceEqDiff,Nat.reduceLT]; rfl, by simp (disch := (first | (simp only [ne_eq,Nat.reduceEqDiff,not_false_eq_true,Nat.reduceLT]; done) | omega | (simp only [yz] <;> omega) | fail)) only [yg,Nat.reduceAdd,Nat.reduceEqDiff,Nat.reduceLT], by simp (disch := (first | (simp only [ne_eq,Nat.reduceEqDiff,not_false_eq_true,Nat.reduceLT]; done) | omega | (simp only [yz] <;> omega) | fail)) only [yg,Nat.reduceAdd,Nat.reduceEqDiff,Nat.reduceLT], by (with_reducible (repeat (first | refine Keep.put ?_ (by decide) | refine Keep.none ?_ | assumption | exact Keep.refl _ _ _))), Fr.refl _, by simp (disch := (first | (simp only [ne_eq,Nat.reduceEqDiff,not_false_eq_true,Nat.reduceLT]; done) | omega | (simp only [yz] <;> omega) | fail)) only [yg,Nat.reduceAdd,Nat.reduceEqDiff,Nat.reduceLT,g13]; rfl⟩ (by omega) (by omega)
  rintro M q' e' G ⟨i, rfl, hi, t63, t62, t61, kp, fr, t13⟩
  have fz := fr.size
  simp (disch := (first | (simp only [ne_eq,Nat.reduceEqDiff,not_false_eq_true,Nat.reduceLT]; done) | omega | (simp only [yz] <;> omega) | fail)) only [↓yp,yq0,yq1,yq2,yq3,yq4,yl,ys0,ys1,Nat.reduceAdd,Nat.reduceMul,Nat.reduceSub,Nat.reduceBEq,Nat.reduceEqDiff,Nat.reduceLT,Nat.reduceLeDiff,reduceIte,Int.reduceAdd,Int.reduceSub,Int.reduceMul,Int.reduceLT,Int.reduceLE,Int.reduceEq,Int.reduceToNat,Int.reduceNeg,fitB,newC,endD,endR,yrg,t63,t62]
  refine ⟨fun hA => ?_, fun hA => ?_⟩
  · have hi' : i < hs.length := by simpa using hA
    obtain ⟨s, hs'⟩ : ∃ s, hs[i]? = some s := ⟨_, List.getElem?_eq_getElem hi'⟩
    obtain ⟨bl, o, cc, e1, hbl, hc, hqq⟩ := (hr.fr fr).at_ hs'
    cases e1
    have q1 : part cc (o + i * 3) 4 = some (.agg ⟨s.enc⟩) := part_of hqq rfl
    simp only [Hs.enc] at q1
    have hmem := List.mem_of_getElem? hs'
    have hv := (ok.ok s hmem).m
    have hw2 : w64 ((i : Int) + 1) = ((i + 1 : Nat) : Int) := by rw [w64_of (by omega)]; omega
    have hs1 := isum_le (l := (hs.take i).map Hs.m) (m := 500) (map_in fun y hy => (ok.ok y (List.mem_of_mem_take hy)).m)
    have hl1 : ((hs.take i).map Hs.m).length ≤ 6 := by rw [List.length_map, List.length_take]; omega
    have e1 : isum ((hs.take i).map Hs.m) + s.m = isum ((hs.take (i + 1)).map Hs.m) := by
      rw [List.take_add_one, hs', List.map_append, isum_app]; show _ = _ + (s.m + 0); omega
    have hw : w64 (isum ((hs.take i).map Hs.m) + s.m) = isum ((hs.take (i + 1)).map Hs.m) := by rw [w64_of (by omega), e1]
    simp (disch := (first | (simp only [ne_eq,Nat.reduceEqDiff,not_false_eq_true,Nat.reduceLT]; done) | omega | (simp only [yz] <;> omega) | fail)) only [↓yp,yq0,yq1,yq2,yq3,yq4,yl,ys0,ys1,Nat.reduceAdd,Nat.reduceMul,Nat.reduceSub,Nat.reduceBEq,Nat.reduceEqDiff,Nat.reduceLT,Nat.reduceLeDiff,reduceIte,Int.reduceAdd,Int.reduceSub,Int.reduceMul,Int.reduceLT,Int.reduceLE,Int.reduceEq,Int.reduceToNat,Int.reduceNeg,fitB,newC,endD,endR,yrg,t63,t61,t13,A_indexSlice st_esS_37,hc,q1,hw,hw2]
    exact ⟨hs.length - (i + 1), by omega, i + 1, rfl, by omega, by simp (disch := (first | (simp only [ne_eq,Nat.reduceEqDiff,not_false_eq_true,Nat.reduceLT]; done) | omega | (simp only [yz] <;> omega) | fail)) only [yg,Nat.reduceAdd,Nat.reduceEqDiff,Nat.reduceLT], by simp (disch := (first | (simp only [ne_eq,Nat.reduceEqDiff,not_false_eq_true,Nat.reduceLT]; done) | omega | (simp only [yz] <;> omega) | fail)) only [yg,Nat.reduceAdd,Nat.reduceEqDiff,Nat.reduceLT,t62], by simp (disch := (first | (simp only [ne_eq,Nat.reduceEqDiff,not_false_eq_true,Nat.reduceLT]; done) | omega | (simp only [yz] <;> omega) | fail)) only [yg,Nat.reduceAdd,Nat.reduceEqDiff,Nat.reduceLT,t61], by (with_reducible (repeat (first | refine Keep.put ?_ (by decide) | refine Keep.none ?_ | assumption | exact Keep.refl _ _ _))), by (repeat (first | exact Fr.refl _ | assumption | refine Fr.allocd ?_ _ | refine Fr.kill ?_ (by first | assumption | omega) | refine Fr.put ?_ (by first | omega | (simp only [yz] <;> omega)) _)), by simp (disch := (first | (simp only [ne_eq,Nat.reduceEqDiff,not_false_eq_true,Nat.reduceLT]; done) | omega | (simp only [yz] <;> omega) | fail)) only [yg,Nat.reduceAdd,Nat.reduceEqDiff,Nat.reduceLT]⟩
  · have hi' : i = hs.length := by have : ¬ ((i : Int) < hs.length) := by simpa using hA
                                   omega
    subst hi'
    rw [List.take_length] at t13
    simp (disch := (first | (simp only [ne_eq,Nat.reduceEqDiff,not_false_eq_true,Nat.reduceLT]; done) | omega | (simp only [yz] <;> omega) | fail)) only [↓yp,yq0,yq1,yq2,yq3,yq4,yl,ys0,ys1,Nat.reduceAdd,Nat.reduceMul,Nat.reduceSub,Nat.reduceBEq,Nat.reduceEqDiff,Nat.reduceLT,Nat.reduceLeDiff,reduceIte,Int.reduceAdd,Int.reduceSub,Int.reduceMul,Int.reduceLT,Int.reduceLE,Int.reduceEq,Int.reduceToNat,Int.reduceNeg,fitB,newC,endD,endR,yrg]
    exact ⟨by (with_reducible (repeat (first | refine Keep.put ?_ (by decide) | refine Keep.none ?_ | assumption | exact Keep.refl _ _ _))), fr, by simp (disch := (first | (simp only [ne_eq,Nat.reduceEqDiff,not_false_eq_true,Nat.reduceLT]; done) | omega | (simp only [yz] <;> omega) | fail)) only [yg,Nat.reduceAdd,Nat.reduceEqDiff,Nat.reduceLT,t13]⟩
end
section
variable {n h : Nat} {q q' : List Int} {b1 b2 c1 c2 : Nat} {e : VT}
theorem c8o {M : Nat} (r1 : Rw intE H' (some ⟨b1, 0, none⟩) q) (r2 : Rw intE H' (some ⟨b2, 0, none⟩) q') (l1 : q.length = n) (l2 : q'.length = n) (hn : n ≤ 6) (g9 : gt 256 e 9 = .slice (some ⟨b1, 0, none⟩) n c1) (g19 : gt 256 e 19 = .slice (some ⟨b2, 0, none⟩) n c2) (g8 : gt 256 e 8 = .int .i64 (h : Nat))
    (hle : ∀ (i : Nat) (y y' : Int), i ≠ h → q[i]? = some y → q'[i]? = some y' → y' ≤ y) (hM : 600 ≤ M) (hL : L ≤ H'.size) :
    W tabA Try.prog M none (sub [true, true, true, true, true, true, true, true, true, true, true, true, true, true, false] (bodyOf Try.f8)) L ⟨256, e, H', []⟩ (endK 256 [] fun e' G => Keep 256 [7, 9] e e' ∧ G = H') := by
  obtain ⟨N, rfl⟩ : ∃ N, M = N + 600 := ⟨M - 600, by omega⟩
  simp only [Try.f8,bodyOf,sub_nil,sub_seq0,sub_seq1,sub_block,sub_loop,sub_cond0,sub_cond1]
  simp (disch := (first | (simp only [ne_eq,Nat.reduceEqDiff,not_false_eq_true,Nat.reduceLT]; done) | omega | (simp only [yz] <;> omega) | fail)) only [↓yp,yq0,yq1,yq2,yq3,yq4,yl,ys0,ys1,Nat.reduceAdd,Nat.reduceMul,Nat.reduceSub,Nat.reduceBEq,Nat.reduceEqDiff,Nat.reduceLT,Nat.reduceLeDiff,reduceIte,Int.reduceAdd,Int.reduceSub,Int.reduceMul,Int.reduceLT,Int.reduceLE,Int.reduceEq,Int.reduceToNat,Int.reduceNeg,fitB,newC,endD,endR,yrg,g19,lenV_slice st_esS_40]
  refine W_while (n := 256) 100 (fun k e' G => ∃ i : Nat, k = n - i ∧ i ≤ n ∧ gt 256 e' 180 = .int .i64 (i : Nat) ∧ gt 256 e' 179 = .int .i64 n ∧ Keep 256 [7, 8, 9, 19] e e' ∧ G = H')
    ?_ 8 n ⟨0, by omega, by omega, by simp (disch := (first | (simp only [ne_eq,Nat.reduceEqDiff,not_false_eq_true,Nat.reduceLT]; done) | omega | (simp only [yz] <;> omega) | fail)) only [yg,Nat.reduceAdd,Nat.reduceEqDiff,Nat.reduceLT]; rfl, by simp (disch := (first | (simp only [ne_eq,Nat.reduceEqDiff,not_false_eq_true,Nat.reduceLT]; done) | omega | (simp only [yz] <;> omega) | fail)) only [yg,Nat.reduceAdd,Nat.reduceEqDiff,Nat.reduceLT], by (with_reducible (repeat (first | refine Keep.put ?_ (by decide) | refine Keep.none ?_ | assumption | exact Keep.refl _ _ _))), rfl⟩ (by omega) (by omega)
  rintro M k e' G ⟨i, rfl, hi, t180, t179, kp, rfl⟩
  have k8 := (kp 8 (by decide)).trans g8
  have k9 := (kp 9 (by decide)).trans g9
  have k19 := (kp 19 (by decide)).trans g19
  simp (disch := (first | (simp only [ne_eq,Nat.reduceEqDiff,not_false_eq_true,Nat.reduceLT]; done) | omega | (simp only [yz] <;> omega) | fail)) only [↓yp,yq0,yq1,yq2,yq3,yq4,yl,ys0,ys1,Nat.reduceAdd,Nat.reduceMul,Nat.reduceSub,Nat.reduceBEq,Nat.reduceEqDiff,Nat.reduceLT,Nat.reduceLeDiff,reduceIte,Int.reduceAdd,Int.reduceSub,Int.reduceMul,Int.reduceLT,Int.reduceLE,Int.reduceEq,Int.reduceToNat,Int.reduceNeg,fitB,newC,endD,endR,yrg,t180,t179]
  refine ⟨fun hA => ?_, fun hA => ?_⟩
  · have hi' : i < n := by simpa using hA
    obtain ⟨y, hy⟩ : ∃ y, q[i]? = some y := ⟨_, List.getElem?_eq_getElem (by omega)⟩
    obtain ⟨y', hy'⟩ : ∃ y, q'[i]? = some y := ⟨_, List.getElem?_eq_getElem (by omega)⟩
    obtain ⟨bl, o, cc, e1, hbl, hc, hqq⟩ := r1.at_ hy
    cases e1
    obtain ⟨bl2, o2, cc2, e2, hbl2, hc2, hqq2⟩ := r2.at_ hy'
    cases e2
    have q1 := cell_of hqq
    have q2 := cell_of hqq2
    rw [show i * intE.z = i * 1 from rfl, Nat.mul_one, Nat.zero_add] at q1 q2
    have hw2 : w64 ((i : Int) + 1) = ((i + 1 : Nat) : Int) := by rw [w64_of (by omega)]; omega
    simp (disch := (first | (simp only [ne_eq,Nat.reduceEqDiff,not_false_eq_true,Nat.reduceLT]; done) | omega | (simp only [yz] <;> omega) | fail)) only [↓yp,yq0,yq1,yq2,yq3,yq4,yl,ys0,ys1,Nat.reduceAdd,Nat.reduceMul,Nat.reduceSub,Nat.reduceBEq,Nat.reduceEqDiff,Nat.reduceLT,Nat.reduceLeDiff,reduceIte,Int.reduceAdd,Int.reduceSub,Int.reduceMul,Int.reduceLT,Int.reduceLE,Int.reduceEq,Int.reduceToNat,Int.reduceNeg,fitB,newC,endD,endR,yrg,t180]
    refine W_draw [] rfl (by kernel_rfl) (by kernel_rfl) (by (first | omega | (simp only [yz] <;> omega))) ?_
    by_cases hh : i = h
    · subst hh
      have x1 : decide ((i : Int) = (i : Int)) = true := by simp
      simp (disch := (first | (simp only [ne_eq,Nat.reduceEqDiff,not_false_eq_true,Nat.reduceLT]; done) | omega | (simp only [yz] <;> omega) | fail)) only [↓yp,yq0,yq1,yq2,yq3,yq4,yl,ys0,ys1,Nat.reduceAdd,Nat.reduceMul,Nat.reduceSub,Nat.reduceBEq,Nat.reduceEqDiff,Nat.reduceLT,Nat.reduceLeDiff,reduceIte,Int.reduceAdd,Int.reduceSub,Int.reduceMul,Int.reduceLT,Int.reduceLE,Int.reduceEq,Int.reduceToNat,Int.reduceNeg,fitB,newC,endD,endR,yrg,k8,x1,hw2,t180]
      exact ⟨n - (i + 1), by omega, i + 1, rfl, by omega, by simp (disch := (first | (simp only [ne_eq,Nat.reduceEqDiff,not_false_eq_true,Nat.reduceLT]; done) | omega | (simp only [yz] <;> omega) | fail)) only [yg,Nat.reduceAdd,Nat.reduceEqDiff,Nat.reduceLT], by simp (disch := (first | (simp only [ne_eq,Nat.reduceEqDiff,not_false_eq_true,Nat.reduceLT]; done) | omega | (simp only [yz] <;> omega) | fail)) only [yg,Nat.reduceAdd,Nat.reduceEqDiff,Nat.reduceLT,t179], by (with_reducible (repeat (first | refine Keep.put ?_ (by decide) | refine Keep.none ?_ | assumption | exact Keep.refl _ _ _))), rfl⟩
    · have x1 : decide ((i : Int) = (h : Int)) = false := by simp; omega
      have hlt := hle i y y' hh hy hy'
      have x2 : decide (y < y') = false := by simp; omega
      simp (disch := (first | (simp only [ne_eq,Nat.reduceEqDiff,not_false_eq_true,Nat.reduceLT]; done) | omega | (simp only [yz] <;> omega) | fail)) only [↓yp,yq0,yq1,yq2,yq3,yq4,yl,ys0,ys1,Nat.reduceAdd,Nat.reduceMul,Nat.reduceSub,Nat.reduceBEq,Nat.reduceEqDiff,Nat.reduceLT,Nat.reduceLeDiff,reduceIte,Int.reduceAdd,Int.reduceSub,Int.reduceMul,Int.reduceLT,Int.reduceLE,Int.reduceEq,Int.reduceToNat,Int.reduceNeg,fitB,newC,endD,endR,yrg,k8,k9,k19,x1,x2,hw2,t180,A_indexSlice st_esS_40,hc,hc2,q1,q2]
      exact ⟨n - (i + 1), by omega, i + 1, rfl, by omega, by simp (disch := (first | (simp only [ne_eq,Nat.reduceEqDiff,not_false_eq_true,Nat.reduceLT]; done) | omega | (simp only [yz] <;> omega) | fail)) only [yg,Nat.reduceAdd,Nat.reduceEqDiff,Nat.reduceLT], by simp (disch := (first | (simp only [ne_eq,Nat.reduceEqDiff,not_false_eq_true,Nat.reduceLT]; done) | omega | (simp only [yz] <;> omega) | fail)) only [yg,Nat.reduceAdd,Nat.reduceEqDiff,Nat.reduceLT,t179], by (with_reducible (repeat (first | refine Keep.put ?_ (by decide) | refine Keep.none ?_ | assumption | exact Keep.refl _ _ _))), rfl⟩
  · simp (disch := (first | (simp only [ne_eq,Nat.reduceEqDiff,not_false_eq_true,Nat.reduceLT]; done) | omega | (simp only [yz] <;> omega) | fail)) only [↓yp,yq0,yq1,yq2,yq3,yq4,yl,ys0,ys1,Nat.reduceAdd,Nat.reduceMul,Nat.reduceSub,Nat.reduceBEq,Nat.reduceEqDiff,Nat.reduceLT,Nat.reduceLeDiff,reduceIte,Int.reduceAdd,Int.reduceSub,Int.reduceMul,Int.reduceLT,Int.reduceLE,Int.reduceEq,Int.reduceToNat,Int.reduceNeg,fitB,newC,endD,endR,yrg]
    have sub' : ∀ {l l' : List Nat} {e e' : VT}, (∀ j ∈ l', j ∈ l) → Keep 256 l e e' → Keep 256 l' e e' := fun h k j hj => k j (h j hj)
    exact ⟨Keep.put (sub' (by decide) kp) (by decide), rfl⟩
end
end Go.Am
/- FeeMore: one penny more is paid by one house. -/
namespace Go.Am
open Go.Proofs
variable {T : Tab} {P : Program} {N L : Nat} {H H' H'' : AHeap} {Q : Bool → Value → AHeap → Prop}
theorem bid_step {hs : List Hs} {q : List Int} {k : Int} (ok : ∀ h ∈ hs, h.Ok) (I : BidI hs q k) (hlt : isum q < isum (hs.map Hs.m)) : ∃ (n : Nat) (y : Int), q[n]? = some y ∧ BidI hs (q.set n (y + 1)) (k + 1) := by
  have hv : ∀ v ∈ hs.map Hs.v, 0 ≤ v := fun v hx => by
    obtain ⟨y, hy, rfl⟩ := List.mem_map.1 hx
    exact (ok y hy).v.1
  have at_ : ∀ {q : List Int} {i : Nat} {y : Int}, q[i]? = some y → (pad6 q).getD i 0 = y := fun {q i y} h => by
    rw [List.getD_eq_getElem?_getD, pad6_at (List.getElem?_eq_some_iff.1 h).1, h]; rfl
  have pos : ∀ i, canB hs (pad6 q) i = true → 1 ≤ (pad6 q).getD i 0 + 1 := fun i hi => by
    obtain ⟨h, y, h1, h2, h3⟩ := (can_bid I.len).1 hi
    have b1 := I.bd i h y h1 h2
    have b2 := (ok h (List.mem_of_getElem? h1)).l
    rw [at_ h2]; omega
  obtain ⟨h2, h3⟩ := nxt_ok (bef := befB (hs.map Hs.v)) (fun i j k hi hj hk h1 h2 => befB_tr (pos i hi) (pos j hj) (pos k hk) h1 h2) (fun i j hi hj hne => befB_tot hne) (I.free hlt)
  generalize nxt (befB (hs.map Hs.v)) hs (pad6 q) = nn at h2 h3
  obtain ⟨h, y, z1, z2, z3⟩ := (can_bid I.len).1 h2
  exact ⟨nn, y, z2, I.next hv z1 z2 z3 fun j h' y' hne e1 e2 e3 => by
    have := h3 j ((can_bid I.len).2 ⟨h', y', e1, e2, e3⟩) hne
    unfold relB at this
    rw [at_ z2, at_ e2] at this
    exact this⟩
section
variable {n : Nat} {q q' : List Int} {b1 b2 c1 c2 : Nat} {e : VT}
theorem c8g {M : Nat} (r1 : Rw intE H' (some ⟨b1, 0, none⟩) q) (r2 : Rw intE H' (some ⟨b2, 0, none⟩) q') (l1 : q.length = n) (l2 : q'.length = n) (hn : n ≤ 6) (g9 : gt 256 e 9 = .slice (some ⟨b1, 0, none⟩) n c1) (g12 : gt 256 e 12 = .slice (some ⟨b2, 0, none⟩) n c2) (g16 : gt 256 e 16 = .int .i64 0)
    (bq : ∀ x ∈ q, 0 ≤ x ∧ x ≤ 1000) (hle : ∀ (i : Nat) (y y' : Int), q[i]? = some y → q'[i]? = some y' → y' = y ∨ y' = y + 1) (hM : 800 ≤ M) (hL : L ≤ H'.size) :
    W tabA Try.prog M none (sub [true, true, true, true, true, true, true, true, true, true, false, true, true, true, true, false] (bodyOf Try.f8)) L ⟨256, e, H', []⟩ (endK 256 [] fun e' G => Keep 256 [1, 2, 7, 8, 9] e e' ∧ G = H' ∧ gt 256 e' 16 = .int .i64 (isum q' - isum q)) := by
  obtain ⟨N, rfl⟩ : ∃ N, M = N + 800 := ⟨M - 800, by omega⟩
  simp only [Try.f8,bodyOf,sub_nil,sub_seq0,sub_seq1,sub_block,sub_loop,sub_cond0,sub_cond1]
  simp (disch := (first | (simp only [ne_eq,Nat.reduceEqDiff,not_false_eq_true,Nat.reduceLT]; done) | omega | (simp only [yz] <;> omega) | fail)) only [↓yp,yq0,yq1,yq2,yq3,yq4,yl,ys0,ys1,Nat.reduceAdd,Nat.reduceMul,Nat.reduceSub,Nat.reduceBEq,Nat.reduceEqDiff,Nat.reduceLT,Nat.reduceLeDiff,reduceIte,Int.reduceAdd,Int.reduceSub,Int.reduceMul,Int.reduceLT,Int.reduceLE,Int.reduceEq,Int.reduceToNat,Int.reduceNeg,fitB,newC,endD,endR,yrg,g12,lenV_slice st_esS_40]
  refine W_while (n := 256) 200 (fun k e' G => ∃ i : Nat, k = n - i ∧ i ≤ n ∧ gt 256 e' 89 = .int .i64 (i : Nat) ∧ gt 256 e' 88 = .int .i64 n ∧ Keep 256 [1, 2, 7, 8, 9, 12] e e' ∧ G = H' ∧ gt 256 e' 16 = .int .i64 (isum (q'.take i) - isum (q.take i)) ∧ 0 ≤ isum (q'.take i) - isum (q.take i) ∧ isum (q'.take i) - isum (q.take i) ≤ i)
    ?_ 8 n ⟨0, by omega, by omega, by simp (disch := (first | (simp only [ne_eq,Nat.reduceEqDiff,not_false_eq_true,Nat.reduceLT]; done) | omega | (simp only [yz] <;> omega) | fail)) only [yg,Nat.reduceAdd,Nat.reduceEqDiff,Nat.reduceLT]; rfl, by simp (disch := (first | (simp only [ne_eq,Nat.reduceEqDiff,not_false_eq_true,Nat.reduceLT]; done) | omega | (simp only [yz] <;> omega) | fail)) only [yg,Nat.reduceAdd,Nat.reduceEqDiff,Nat.reduceLT], by (with_reducible (repeat (first | refine Keep.put ?_ (by decide) | refine Keep.none ?_ | assumption | exact Keep.refl _ _ _))), rfl, by simp (disch := (first | (simp only [ne_eq,Nat.reduceEqDiff,not_false_eq_true,Nat.reduceLT]; done) | omega | (simp only [yz] <;> omega) | fail)) only [yg,Nat.reduceAdd,Nat.reduceEqDiff,Nat.reduceLT,g16]; rfl, by simp, by simp⟩ (by omega) (by omega)
  rintro M k e' G ⟨i, rfl, hi, t89, t88, kp, rfl, t16, d1, d2⟩
  have k9 := (kp 9 (by decide)).trans g9
  have k12 := (kp 12 (by decide)).trans g12
  simp (disch := (first | (simp only [ne_eq,Nat.reduceEqDiff,not_false_eq_true,Nat.reduceLT]; done) | omega | (simp only [yz] <;> omega) | fail)) only [↓yp,yq0,yq1,yq2,yq3,yq4,yl,ys0,ys1,Nat.reduceAdd,Nat.reduceMul,Nat.reduceSub,Nat.reduceBEq,Nat.reduceEqDiff,Nat.reduceLT,Nat.reduceLeDiff,reduceIte,Int.reduceAdd,Int.reduceSub,Int.reduceMul,Int.reduceLT,Int.reduceLE,Int.reduceEq,Int.reduceToNat,Int.reduceNeg,fitB,newC,endD,endR,yrg,t89,t88]
  refine ⟨fun hA => ?_, fun hA => ?_⟩
  · have hi' : i < n := by simpa using hA
    obtain ⟨y, hy⟩ : ∃ y, q[i]? = some y := ⟨_, List.getElem?_eq_getElem (by omega)⟩
    obtain ⟨y', hy'⟩ : ∃ y, q'[i]? = some y := ⟨_, List.getElem?_eq_getElem (by omega)⟩
    obtain ⟨bl, o, cc, e1, hbl, hc, hqq⟩ := r1.at_ hy
    cases e1
    obtain ⟨bl2, o2, cc2, e2, hbl2, hc2, hqq2⟩ := r2.at_ hy'
    cases e2
    have q1 := cell_of hqq
    have q2 := cell_of hqq2
    rw [show i * intE.z = i * 1 from rfl, Nat.mul_one, Nat.zero_add] at q1 q2
    have hw2 : w64 ((i : Int) + 1) = ((i + 1 : Nat) : Int) := by rw [w64_of (by omega)]; omega
    have bqy := bq y (List.mem_of_getElem? hy)
    have hyy := hle i y y' hy hy'
    have s1 : isum (q.take (i + 1)) = isum (q.take i) + y := by rw [List.take_add_one, hy, isum_app]; show _ + (y + 0) = _; omega
    have s2 : isum (q'.take (i + 1)) = isum (q'.take i) + y' := by rw [List.take_add_one, hy', isum_app]; show _ + (y' + 0) = _; omega
    obtain ⟨D, hD⟩ : ∃ D, isum (q'.take i) - isum (q.take i) = D := ⟨_, rfl⟩
    rw [hD] at t16 d1 d2
    have wy : w64 (y + 1) = y + 1 := w64_of (by omega)
    have wd : w64 (y' - y) = y' - y := w64_of (by omega)
    have wD : w64 (D + (y' - y)) = D + (y' - y) := w64_of (by omega)
    have x1 : decide (y' < y) = false := by simp; omega
    have x2 : decide (y + 1 < y') = false := by simp; omega
    simp (disch := (first | (simp only [ne_eq,Nat.reduceEqDiff,not_false_eq_true,Nat.reduceLT]; done) | omega | (simp only [yz] <;> omega) | fail)) only [↓yp,yq0,yq1,yq2,yq3,yq4,yl,ys0,ys1,Nat.reduceAdd,Nat.reduceMul,Nat.reduceSub,Nat.reduceBEq,Nat.reduceEqDiff,Nat.reduceLT,Nat.reduceLeDiff,reduceIte,Int.reduceAdd,Int.reduceSub,Int.reduceMul,Int.reduceLT,Int.reduceLE,Int.reduceEq,Int.reduceToNat,Int.reduceNeg,fitB,newC,endD,endR,yrg,t89]
    refine W_draw [] rfl (by kernel_rfl) (by kernel_rfl) (by (first | omega | (simp only [yz] <;> omega))) ?_
    simp (disch := (first | (simp only [ne_eq,Nat.reduceEqDiff,not_false_eq_true,Nat.reduceLT]; done) | omega | (simp only [yz] <;> omega) | fail)) only [↓yp,yq0,yq1,yq2,yq3,yq4,yl,ys0,ys1,Nat.reduceAdd,Nat.reduceMul,Nat.reduceSub,Nat.reduceBEq,Nat.reduceEqDiff,Nat.reduceLT,Nat.reduceLeDiff,reduceIte,Int.reduceAdd,Int.reduceSub,Int.reduceMul,Int.reduceLT,Int.reduceLE,Int.reduceEq,Int.reduceToNat,Int.reduceNeg,fitB,newC,endD,endR,yrg,k9,k12,x1,x2,wy,A_indexSlice st_esS_40,hc,hc2,q1,q2]
    refine W_draw [] rfl (by kernel_rfl) (by kernel_rfl) (by (first | omega | (simp only [yz] <;> omega))) ?_
    simp (disch := (first | (simp only [ne_eq,Nat.reduceEqDiff,not_false_eq_true,Nat.reduceLT]; done) | omega | (simp only [yz] <;> omega) | fail)) only [↓yp,yq0,yq1,yq2,yq3,yq4,yl,ys0,ys1,Nat.reduceAdd,Nat.reduceMul,Nat.reduceSub,Nat.reduceBEq,Nat.reduceEqDiff,Nat.reduceLT,Nat.reduceLeDiff,reduceIte,Int.reduceAdd,Int.reduceSub,Int.reduceMul,Int.reduceLT,Int.reduceLE,Int.reduceEq,Int.reduceToNat,Int.reduceNeg,fitB,newC,endD,endR,yrg,k9,k12,t16,wd,wD,A_indexSlice st_esS_40,hc,hc2,q1,q2,t89,hw2]
    exact ⟨n - (i + 1), by omega, i + 1, rfl, by omega, by simp (disch := (first | (simp only [ne_eq,Nat.reduceEqDiff,not_false_eq_true,Nat.reduceLT]; done) | omega | (simp only [yz] <;> omega) | fail)) only [yg,Nat.reduceAdd,Nat.reduceEqDiff,Nat.reduceLT], by simp (disch := (first | (simp only [ne_eq,Nat.reduceEqDiff,not_false_eq_true,Nat.reduceLT]; done) | omega | (simp only [yz] <;> omega) | fail)) only [yg,Nat.reduceAdd,Nat.reduceEqDiff,Nat.reduceLT,t88], by (with_reducible (repeat (first | refine Keep.put ?_ (by decide) | refine Keep.none ?_ | assumption | exact Keep.refl _ _ _))), rfl, by rw [s1, s2, show isum (q'.take i) + y' - (isum (q.take i) + y) = D + (y' - y) by omega]; simp (disch := (first | (simp only [ne_eq,Nat.reduceEqDiff,not_false_eq_true,Nat.reduceLT]; done) | omega | (simp only [yz] <;> omega) | fail)) only [yg,Nat.reduceAdd,Nat.reduceEqDiff,Nat.reduceLT], by omega, by omega⟩
  · have hi' : i = n := by have : ¬ ((i : Int) < n) := by simpa using hA
                           omega
    subst hi'
    rw [List.take_of_length_le (by omega), List.take_of_length_le (by omega)] at t16
    simp (disch := (first | (simp only [ne_eq,Nat.reduceEqDiff,not_false_eq_true,Nat.reduceLT]; done) | omega | (simp only [yz] <;> omega) | fail)) only [↓yp,yq0,yq1,yq2,yq3,yq4,yl,ys0,ys1,Nat.reduceAdd,Nat.reduceMul,Nat.reduceSub,Nat.reduceBEq,Nat.reduceEqDiff,Nat.reduceLT,Nat.reduceLeDiff,reduceIte,Int.reduceAdd,Int.reduceSub,Int.reduceMul,Int.reduceLT,Int.reduceLE,Int.reduceEq,Int.reduceToNat,Int.reduceNeg,fitB,newC,endD,endR,yrg]
    have sub' : ∀ {l l' : List Nat} {e e' : VT}, (∀ j ∈ l', j ∈ l) → Keep 256 l e e' → Keep 256 l' e e' := fun h k j hj => k j (h j hj)
    exact ⟨Keep.put (sub' (by decide) kp) (by decide), rfl, by simp (disch := (first | (simp only [ne_eq,Nat.reduceEqDiff,not_false_eq_true,Nat.reduceLT]; done) | omega | (simp only [yz] <;> omega) | fail)) only [yg,Nat.reduceAdd,Nat.reduceEqDiff,Nat.reduceLT,t16]⟩
end
end Go.Am
