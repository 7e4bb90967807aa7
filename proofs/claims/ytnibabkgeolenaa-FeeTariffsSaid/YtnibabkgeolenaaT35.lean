/- What pounds cost, by the reference; the law FeeTariffs. -/
import Derived.Test.YtnibabkgeolenaaT34
import Derived.Test.YtnibabkgeolenaaT31
set_option linter.unusedSimpArgs false
set_option linter.unusedVariables false
namespace Go.Am
open Go.Proofs
variable {T : Tab} {P : Program} {N L : Nat} {H H' H'' : AHeap} {Q : Bool → Value → AHeap → Prop}
theorem st_apS_27 : apS tabA 27 = some (105, 2, 16) := by kernel_rfl
section
variable {a a' : Option Addr} {cap cap' : Nat} {t : List Stp} {n p : Int}
/-- stepped. -/
theorem c14n : acall tabA (aexec tabA Try.prog (N + 100)) 14 [.slice a 0 cap] H = some (true, .slice none 0 0, H, H.size) := by
  refine call_quiet (k := 18) (rs := [.tmp 2]) rfl fn_14 rfl rfl rfl ?_ rfl
  have hlt : decide ((0 : Int) < 0) = false := by simp
  simp (disch := (first | (simp only [ne_eq,Nat.reduceEqDiff,not_false_eq_true,Nat.reduceLT]; done) | omega | (simp only [yz] <;> omega) | fail)) only [↓yp,yq0,yq1,yq2,yq3,yq4,yl,ys0,ys1,Nat.reduceAdd,Nat.reduceMul,Nat.reduceSub,Nat.reduceBEq,Nat.reduceEqDiff,Nat.reduceLT,Nat.reduceLeDiff,reduceIte,Int.reduceAdd,Int.reduceSub,Int.reduceMul,Int.reduceLT,Int.reduceLE,Int.reduceEq,Int.reduceToNat,Int.reduceNeg,fitB,newC,endD,endR,yrg,lenV_slice st_esS_22,Int.natCast_zero]
  refine W_while (n := 18) 30 (fun k e H' => gt 18 e 8 = .int .i64 0 ∧ gt 18 e 7 = .int .i64 0 ∧ gt 18 e 3 = .slice none 0 0 ∧ H' = H)
    ?_ 0 0 ⟨by simp (disch := (first | (simp only [ne_eq,Nat.reduceEqDiff,not_false_eq_true,Nat.reduceLT]; done) | omega | (simp only [yz] <;> omega) | fail)) only [yg,Nat.reduceAdd,Nat.reduceEqDiff,Nat.reduceLT], by simp (disch := (first | (simp only [ne_eq,Nat.reduceEqDiff,not_false_eq_true,Nat.reduceLT]; done) | omega | (simp only [yz] <;> omega) | fail)) only [yg,Nat.reduceAdd,Nat.reduceEqDiff,Nat.reduceLT], by simp (disch := (first | (simp only [ne_eq,Nat.reduceEqDiff,not_false_eq_true,Nat.reduceLT]; done) | omega | (simp only [yz] <;> omega) | fail)) only [yg,Nat.reduceAdd,Nat.reduceEqDiff,Nat.reduceLT], rfl⟩ (by omega) (by omega)
  rintro M1 k e H1 ⟨g8, g7, g3, rfl⟩
  simp (disch := (first | (simp only [ne_eq,Nat.reduceEqDiff,not_false_eq_true,Nat.reduceLT]; done) | omega | (simp only [yz] <;> omega) | fail)) only [↓yp,yq0,yq1,yq2,yq3,yq4,yl,ys0,ys1,Nat.reduceAdd,Nat.reduceMul,Nat.reduceSub,Nat.reduceBEq,Nat.reduceEqDiff,Nat.reduceLT,Nat.reduceLeDiff,reduceIte,Int.reduceAdd,Int.reduceSub,Int.reduceMul,Int.reduceLT,Int.reduceLE,Int.reduceEq,Int.reduceToNat,Int.reduceNeg,fitB,newC,endD,endR,yrg,g8,g7,g3,hlt]
set_option maxHeartbeats 2000000 in
theorem c14 (hs : Rw stE H a t) (hne : t ≠ []) (hl : t.length ≤ 16) (hL : L ≤ H.size) {M : Nat} (hM : 300 ≤ M)
    (hq : ∀ b c H', Fr H H' → Rw stE H' (some ⟨b, 0, none⟩) t → Q false (.slice (some ⟨b, 0, none⟩) t.length c) H') : resK (acall tabA (aexec tabA Try.prog M) 14 [.slice a t.length cap] H) L Q := by
  obtain ⟨N, rfl⟩ : ∃ N, M = N + 300 := ⟨M - 300, by omega⟩
  refine call_fls (R := fun v H' => ∃ b c, v = .slice (some ⟨b, 0, none⟩) t.length c ∧ Fr H H' ∧ Rw stE H' (some ⟨b, 0, none⟩) t) (k := 18) (rs := [.tmp 2]) rfl fn_14 rfl rfl rfl hL ?_ ?_ ?_
  rotate_left
  · rintro v H' ⟨b, c, rfl, -⟩; rfl
  · rintro v H' ⟨b, c, rfl, h1, h2⟩
    exact hq _ _ _ h1 h2
  have hpos : 0 < t.length := List.length_pos_iff.2 hne
  simp (disch := (first | (simp only [ne_eq,Nat.reduceEqDiff,not_false_eq_true,Nat.reduceLT]; done) | omega | (simp only [yz] <;> omega) | fail)) only [↓yp,yq0,yq1,yq2,yq3,yq4,yl,ys0,ys1,Nat.reduceAdd,Nat.reduceMul,Nat.reduceSub,Nat.reduceBEq,Nat.reduceEqDiff,Nat.reduceLT,Nat.reduceLeDiff,reduceIte,Int.reduceAdd,Int.reduceSub,Int.reduceMul,Int.reduceLT,Int.reduceLE,Int.reduceEq,Int.reduceToNat,Int.reduceNeg,fitB,newC,endD,endR,yrg,lenV_slice st_esS_22]
  refine W_while (n := 18) 100 (fun k e H' => ∃ (i : Nat) (v : Value) (S : Nat → Prop), k = t.length - i ∧ i ≤ t.length ∧ gt 18 e 8 = .int .i64 (i : Nat) ∧ gt 18 e 7 = .int .i64 t.length ∧ gt 18 e 6 = .slice a t.length cap ∧ gt 18 e 3 = v ∧ Fr H H' ∧ Gw H' H.size S v i (stE.fl (t.take i)) 105 2)
    ?_ 16 t.length ⟨0, _, _, by omega, by omega, by simp (disch := (first | (simp only [ne_eq,Nat.reduceEqDiff,not_false_eq_true,Nat.reduceLT]; done) | omega | (simp only [yz] <;> omega) | fail)) only [yg,Nat.reduceAdd,Nat.reduceEqDiff,Nat.reduceLT]; rfl, by simp (disch := (first | (simp only [ne_eq,Nat.reduceEqDiff,not_false_eq_true,Nat.reduceLT]; done) | omega | (simp only [yz] <;> omega) | fail)) only [yg,Nat.reduceAdd,Nat.reduceEqDiff,Nat.reduceLT], by simp (disch := (first | (simp only [ne_eq,Nat.reduceEqDiff,not_false_eq_true,Nat.reduceLT]; done) | omega | (simp only [yz] <;> omega) | fail)) only [yg,Nat.reduceAdd,Nat.reduceEqDiff,Nat.reduceLT], by simp (disch := (first | (simp only [ne_eq,Nat.reduceEqDiff,not_false_eq_true,Nat.reduceLT]; done) | omega | (simp only [yz] <;> omega) | fail)) only [yg,Nat.reduceAdd,Nat.reduceEqDiff,Nat.reduceLT], Fr.refl _, Gw.none⟩ (by omega) (by omega)
  rintro M1 k e H1 ⟨i, v, S, rfl, hi, g8, g7, g6, g3, fr, gw⟩
  have f0 := fr.size
  simp (disch := (first | (simp only [ne_eq,Nat.reduceEqDiff,not_false_eq_true,Nat.reduceLT]; done) | omega | (simp only [yz] <;> omega) | fail)) only [↓yp,yq0,yq1,yq2,yq3,yq4,yl,ys0,ys1,Nat.reduceAdd,Nat.reduceMul,Nat.reduceSub,Nat.reduceBEq,Nat.reduceEqDiff,Nat.reduceLT,Nat.reduceLeDiff,reduceIte,Int.reduceAdd,Int.reduceSub,Int.reduceMul,Int.reduceLT,Int.reduceLE,Int.reduceEq,Int.reduceToNat,Int.reduceNeg,fitB,newC,endD,endR,yrg,g8,g7]
  refine ⟨fun hT => ?_, fun hT => ?_⟩
  · have hlt : i < t.length := by simpa using hT
    obtain ⟨s, hp⟩ : ∃ s, t[i]? = some s := ⟨t[i], by simp [hlt]⟩
    obtain ⟨bl, o, c, eb, hbl, hc, hqq⟩ := (hs.fr fr).at_ hp
    have q : part c (o + i * 2) 3 = some (.agg ⟨s.enc⟩) := part_of hqq rfl
    have hw2 : w64 ((i : Int) + 1) = ((i + 1 : Nat) : Int) := by rw [w64_of (by omega)]; omega
    simp only [Stp.enc] at q
    subst eb
    simp (disch := (first | (simp only [ne_eq,Nat.reduceEqDiff,not_false_eq_true,Nat.reduceLT]; done) | omega | (simp only [yz] <;> omega) | fail)) only [↓yp,yq0,yq1,yq2,yq3,yq4,yl,ys0,ys1,Nat.reduceAdd,Nat.reduceMul,Nat.reduceSub,Nat.reduceBEq,Nat.reduceEqDiff,Nat.reduceLT,Nat.reduceLeDiff,reduceIte,Int.reduceAdd,Int.reduceSub,Int.reduceMul,Int.reduceLT,Int.reduceLE,Int.reduceEq,Int.reduceToNat,Int.reduceNeg,fitB,newC,endD,endR,yrg,g8,g6,g3,A_indexSlice st_esS_22,hc,q,A_buildSlice st_brS_27_1]
    refine gw_append (i := i) (cs := stE.fl (t.take i)) (news := s.enc) st_apS_27 (gw.fr (by (repeat (first | exact Fr.refl _ | assumption | refine Fr.allocd ?_ _ | refine Fr.kill ?_ (by first | assumption | omega) | refine Fr.put ?_ (by first | omega | (simp only [yz] <;> omega)) _)))) (by (first | omega | (simp only [yz] <;> omega))) (by rw [fl_length, List.length_take_of_le (by omega)]; rfl) (by unfold srcCells; simp (disch := (first | (simp only [ne_eq,Nat.reduceEqDiff,not_false_eq_true,Nat.reduceLT]; done) | omega | (simp only [yz] <;> omega) | fail)) only [yg,Nat.reduceAdd,Nat.reduceEqDiff,Nat.reduceLT]; rfl) (by omega) (by omega) rfl (by omega) ?_
    intro a1 c1 H2 hs2 fs2 gw1
    simp only [size_alloc,size_put] at hs2 fs2
    rw [show stE.fl (t.take i) ++ s.enc = stE.fl (t.take (i + 1)) from take_fl (E := stE) hp] at gw1
    simp (disch := (first | (simp only [ne_eq,Nat.reduceEqDiff,not_false_eq_true,Nat.reduceLT]; done) | omega | (simp only [yz] <;> omega) | fail)) only [↓yp,yq0,yq1,yq2,yq3,yq4,yl,ys0,ys1,Nat.reduceAdd,Nat.reduceMul,Nat.reduceSub,Nat.reduceBEq,Nat.reduceEqDiff,Nat.reduceLT,Nat.reduceLeDiff,reduceIte,Int.reduceAdd,Int.reduceSub,Int.reduceMul,Int.reduceLT,Int.reduceLE,Int.reduceEq,Int.reduceToNat,Int.reduceNeg,fitB,newC,endD,endR,yrg,g8,hw2]
    refine ⟨t.length - (i + 1), by omega, i + 1, _, _, rfl, by omega, ?_, ?_, ?_, ?_, ?_, gw1⟩
    · simp (disch := (first | (simp only [ne_eq,Nat.reduceEqDiff,not_false_eq_true,Nat.reduceLT]; done) | omega | (simp only [yz] <;> omega) | fail)) only [yg,Nat.reduceAdd,Nat.reduceEqDiff,Nat.reduceLT]
    · simp (disch := (first | (simp only [ne_eq,Nat.reduceEqDiff,not_false_eq_true,Nat.reduceLT]; done) | omega | (simp only [yz] <;> omega) | fail)) only [yg,Nat.reduceAdd,Nat.reduceEqDiff,Nat.reduceLT,g7]
    · simp (disch := (first | (simp only [ne_eq,Nat.reduceEqDiff,not_false_eq_true,Nat.reduceLT]; done) | omega | (simp only [yz] <;> omega) | fail)) only [yg,Nat.reduceAdd,Nat.reduceEqDiff,Nat.reduceLT,g6]
    · simp (disch := (first | (simp only [ne_eq,Nat.reduceEqDiff,not_false_eq_true,Nat.reduceLT]; done) | omega | (simp only [yz] <;> omega) | fail)) only [yg,Nat.reduceAdd,Nat.reduceEqDiff,Nat.reduceLT]
    · exact ⟨by omega, fun q hq => by rw [fs2 q (by omega) (gw.low q (by omega)), get_alloc_lt (by (first | omega | (simp only [yz] <;> omega))), get_put_ne (by omega), get_alloc_lt (by omega)]; exact fr.same q hq⟩
  have hie : i = t.length := by have := of_decide_eq_false hT; omega
  subst hie
  rw [List.take_of_length_le (Nat.le_refl _)] at gw
  obtain ⟨bv, al, ev, -⟩ := gw.cons (by omega)
  subst ev
  simp (disch := (first | (simp only [ne_eq,Nat.reduceEqDiff,not_false_eq_true,Nat.reduceLT]; done) | omega | (simp only [yz] <;> omega) | fail)) only [↓yp,yq0,yq1,yq2,yq3,yq4,yl,ys0,ys1,Nat.reduceAdd,Nat.reduceMul,Nat.reduceSub,Nat.reduceBEq,Nat.reduceEqDiff,Nat.reduceLT,Nat.reduceLeDiff,reduceIte,Int.reduceAdd,Int.reduceSub,Int.reduceMul,Int.reduceLT,Int.reduceLE,Int.reduceEq,Int.reduceToNat,Int.reduceNeg,fitB,newC,endD,endR,yrg,g3]
  exact ⟨bv, _, rfl, fr, (Gw.rx (k := 0) (E := stE) gw (fun h => by have := (gw.own 0 h).1; omega)).rw⟩
theorem c18e (hs : Rw stE H a t) (hl : t.length ≤ 16) (h : chkT t ≠ 0) {F : Nat} (hF : 500 ≤ F) : acall tabA (aexec tabA Try.prog F) 18 [.slice a t.length cap, .int .i64 n] H = some (true, .tuple ⟨[.int .i64 0, .int .i64 (chkT t)]⟩, H, H.size) := by
  obtain ⟨N, rfl⟩ : ∃ N, F = N + 500 := ⟨F - 500, by omega⟩
  refine call_quiet (k := 28) (rs := [.tmp 4, .tmp 5]) rfl fn_18 rfl rfl rfl ?_ rfl
  have h16 := fun (N : Nat) => c16 (N := N) (cap := cap) hs hl
  have hne : decide (chkT t = 0) = false := by simpa using h
  simp (disch := (first | (simp only [ne_eq,Nat.reduceEqDiff,not_false_eq_true,Nat.reduceLT]; done) | omega | (simp only [yz] <;> omega) | fail)) only [↓yp,yq0,yq1,yq2,yq3,yq4,yl,ys0,ys1,Nat.reduceAdd,Nat.reduceMul,Nat.reduceSub,Nat.reduceBEq,Nat.reduceEqDiff,Nat.reduceLT,Nat.reduceLeDiff,reduceIte,Int.reduceAdd,Int.reduceSub,Int.reduceMul,Int.reduceLT,Int.reduceLE,Int.reduceEq,Int.reduceToNat,Int.reduceNeg,fitB,newC,endD,endR,yrg,h16,hne]
theorem c18r (hs : Rw stE H a t) (ht : TarOk t) (hn : wi n 0 20000 = false) {F : Nat} (hF : 500 ≤ F) : acall tabA (aexec tabA Try.prog F) 18 [.slice a t.length cap, .int .i64 n] H = some (true, .tuple ⟨[.int .i64 0, .int .i64 4]⟩, H, H.size) := by
  obtain ⟨N, rfl⟩ : ∃ N, F = N + 500 := ⟨F - 500, by omega⟩
  refine call_quiet (k := 28) (rs := [.tmp 4, .tmp 5]) rfl fn_18 rfl rfl rfl ?_ rfl
  have h16 := fun (N : Nat) => c16 (N := N) (cap := cap) hs (by have := ht.len; omega)
  rw [ht.chk] at h16
  have h61 := fun (N : Nat) (H : AHeap) => c61 (N := N) (H := H) (n := n) (lo := 0) (hi := 20000)
  rw [off_wi, hn] at h61
  have hne : decide ((0 : Int) = 0) = true := by simp
  simp (disch := (first | (simp only [ne_eq,Nat.reduceEqDiff,not_false_eq_true,Nat.reduceLT]; done) | omega | (simp only [yz] <;> omega) | fail)) only [↓yp,yq0,yq1,yq2,yq3,yq4,yl,ys0,ys1,Nat.reduceAdd,Nat.reduceMul,Nat.reduceSub,Nat.reduceBEq,Nat.reduceEqDiff,Nat.reduceLT,Nat.reduceLeDiff,reduceIte,Int.reduceAdd,Int.reduceSub,Int.reduceMul,Int.reduceLT,Int.reduceLE,Int.reduceEq,Int.reduceToNat,Int.reduceNeg,fitB,newC,endD,endR,yrg,h16,h61,hne]
theorem cts_bd (ht : TarOk t) {n : Nat} (hn : n ≤ 20001) : 0 ≤ cts t n ∧ cts t n ≤ 20000000 := by have := cts_le ht n; omega
theorem c18 (hs : Rw stE H a t) (ht : TarOk t) (hn : 0 ≤ n ∧ n ≤ 20000) {F : Nat} (hF : 30000 ≤ F) : acall tabA (aexec tabA Try.prog F) 18 [.slice a t.length cap, .int .i64 n] H = some (true, .tuple ⟨[.int .i64 (whl (cts t n)), .int .i64 0]⟩, H, H.size) := by
  obtain ⟨N, rfl⟩ : ∃ N, F = N + 30000 := ⟨F - 30000, by omega⟩
  refine call_quiet (k := 28) (rs := [.tmp 4, .tmp 5]) rfl fn_18 rfl rfl rfl ?_ rfl
  have h16 := fun (N : Nat) => c16 (N := N) (cap := cap) hs (by have := ht.len; omega)
  rw [ht.chk] at h16
  have h61 := fun (N : Nat) (H : AHeap) => c61 (N := N) (H := H) (n := n) (lo := 0) (hi := 20000)
  rw [off_wi, show wi n 0 20000 = true by unfold wi; simp; omega] at h61
  have hne : decide ((0 : Int) = 0) = true := by simp
  obtain ⟨m, rfl⟩ : ∃ m : Nat, n = m := ⟨n.toNat, by omega⟩
  have h64 := fun (N : Nat) (H : AHeap) => c64 (N := N) (H := H) (n := cts t m) (by have := cts_bd ht (n := m) (by omega); omega)
  simp (disch := (first | (simp only [ne_eq,Nat.reduceEqDiff,not_false_eq_true,Nat.reduceLT]; done) | omega | (simp only [yz] <;> omega) | fail)) only [↓yp,yq0,yq1,yq2,yq3,yq4,yl,ys0,ys1,Nat.reduceAdd,Nat.reduceMul,Nat.reduceSub,Nat.reduceBEq,Nat.reduceEqDiff,Nat.reduceLT,Nat.reduceLeDiff,reduceIte,Int.reduceAdd,Int.reduceSub,Int.reduceMul,Int.reduceLT,Int.reduceLE,Int.reduceEq,Int.reduceToNat,Int.reduceNeg,fitB,newC,endD,endR,yrg,h16,h61,hne]
  refine W_while (n := 28) 300 (fun k e H' => ∃ i : Nat, k = m - i ∧ i ≤ m ∧ gt 28 e 8 = .int .i64 ((i + 1 : Nat) : Int) ∧ gt 28 e 7 = .int .i64 (cts t i) ∧ gt 28 e 0 = .slice a t.length cap ∧ gt 28 e 1 = .int .i64 (m : Nat) ∧ H' = H)
    ?_ 20000 m ⟨0, by omega, by omega, by simp (disch := (first | (simp only [ne_eq,Nat.reduceEqDiff,not_false_eq_true,Nat.reduceLT]; done) | omega | (simp only [yz] <;> omega) | fail)) only [yg,Nat.reduceAdd,Nat.reduceEqDiff,Nat.reduceLT]; rfl, by simp (disch := (first | (simp only [ne_eq,Nat.reduceEqDiff,not_false_eq_true,Nat.reduceLT]; done) | omega | (simp only [yz] <;> omega) | fail)) only [yg,Nat.reduceAdd,Nat.reduceEqDiff,Nat.reduceLT]; rw [show ((0 : Nat) : Int) = 0 from rfl, cts_zero ht], by simp (disch := (first | (simp only [ne_eq,Nat.reduceEqDiff,not_false_eq_true,Nat.reduceLT]; done) | omega | (simp only [yz] <;> omega) | fail)) only [yg,Nat.reduceAdd,Nat.reduceEqDiff,Nat.reduceLT], by simp (disch := (first | (simp only [ne_eq,Nat.reduceEqDiff,not_false_eq_true,Nat.reduceLT]; done) | omega | (simp only [yz] <;> omega) | fail)) only [yg,Nat.reduceAdd,Nat.reduceEqDiff,Nat.reduceLT], rfl⟩ (by omega) (by omega)
  rintro M1 k e H1 ⟨i, rfl, hi, g8, g7, g0, g1, rfl⟩
  simp (disch := (first | (simp only [ne_eq,Nat.reduceEqDiff,not_false_eq_true,Nat.reduceLT]; done) | omega | (simp only [yz] <;> omega) | fail)) only [↓yp,yq0,yq1,yq2,yq3,yq4,yl,ys0,ys1,Nat.reduceAdd,Nat.reduceMul,Nat.reduceSub,Nat.reduceBEq,Nat.reduceEqDiff,Nat.reduceLT,Nat.reduceLeDiff,reduceIte,Int.reduceAdd,Int.reduceSub,Int.reduceMul,Int.reduceLT,Int.reduceLE,Int.reduceEq,Int.reduceToNat,Int.reduceNeg,fitB,newC,endD,endR,yrg,g8,g7,g0,g1]
  refine ⟨fun hA => ?_, fun hA => ?_⟩
  · have hlt := of_decide_eq_true hA
    have h63 := fun (N : Nat) => c63 (N := N) (cap := cap) (m := ((i + 1 : Nat) : Int)) hs ht.len.1 (by have := ht.len; omega)
    have hb := cts_bd ht (n := i) (by omega)
    have hr := rate_le ((i + 1 : Nat) : Int) ht.ok
    have e1 : cts t i + rate t ((i + 1 : Nat) : Int) = cts t ((i + 1 : Nat) : Int) := by
      rw [show ((i + 1 : Nat) : Int) = (i : Int) + 1 by omega, cts_succ ht (by omega)]
    have w1 : w64 (cts t i + rate t ((i + 1 : Nat) : Int)) = cts t ((i + 1 : Nat) : Int) := by rw [w64_of (by omega), e1]
    have w2 : w64 (((i + 1 : Nat) : Int) + 1) = ((i + 1 + 1 : Nat) : Int) := by rw [w64_of (by omega)]; omega
    simp (disch := (first | (simp only [ne_eq,Nat.reduceEqDiff,not_false_eq_true,Nat.reduceLT]; done) | omega | (simp only [yz] <;> omega) | fail)) only [↓yp,yq0,yq1,yq2,yq3,yq4,yl,ys0,ys1,Nat.reduceAdd,Nat.reduceMul,Nat.reduceSub,Nat.reduceBEq,Nat.reduceEqDiff,Nat.reduceLT,Nat.reduceLeDiff,reduceIte,Int.reduceAdd,Int.reduceSub,Int.reduceMul,Int.reduceLT,Int.reduceLE,Int.reduceEq,Int.reduceToNat,Int.reduceNeg,fitB,newC,endD,endR,yrg,g8,g7,g0,g1,h63,w1,w2]
    refine ⟨m - (i + 1), by omega, i + 1, rfl, by omega, ?_, ?_, ?_, ?_, rfl⟩
    · simp (disch := (first | (simp only [ne_eq,Nat.reduceEqDiff,not_false_eq_true,Nat.reduceLT]; done) | omega | (simp only [yz] <;> omega) | fail)) only [yg,Nat.reduceAdd,Nat.reduceEqDiff,Nat.reduceLT]
    · simp (disch := (first | (simp only [ne_eq,Nat.reduceEqDiff,not_false_eq_true,Nat.reduceLT]; done) | omega | (simp only [yz] <;> omega) | fail)) only [yg,Nat.reduceAdd,Nat.reduceEqDiff,Nat.reduceLT]
    · simp (disch := (first | (simp only [ne_eq,Nat.reduceEqDiff,not_false_eq_true,Nat.reduceLT]; done) | omega | (simp only [yz] <;> omega) | fail)) only [yg,Nat.reduceAdd,Nat.reduceEqDiff,Nat.reduceLT,g0]
    · simp (disch := (first | (simp only [ne_eq,Nat.reduceEqDiff,not_false_eq_true,Nat.reduceLT]; done) | omega | (simp only [yz] <;> omega) | fail)) only [yg,Nat.reduceAdd,Nat.reduceEqDiff,Nat.reduceLT,g1]
  · have hie : i = m := by have := of_decide_eq_false hA; omega
    subst hie
    simp (disch := (first | (simp only [ne_eq,Nat.reduceEqDiff,not_false_eq_true,Nat.reduceLT]; done) | omega | (simp only [yz] <;> omega) | fail)) only [↓yp,yq0,yq1,yq2,yq3,yq4,yl,ys0,ys1,Nat.reduceAdd,Nat.reduceMul,Nat.reduceSub,Nat.reduceBEq,Nat.reduceEqDiff,Nat.reduceLT,Nat.reduceLeDiff,reduceIte,Int.reduceAdd,Int.reduceSub,Int.reduceMul,Int.reduceLT,Int.reduceLE,Int.reduceEq,Int.reduceToNat,Int.reduceNeg,fitB,newC,endD,endR,yrg,g7,h64]
theorem c20e (hs : Rw stE H a t) (hl : t.length ≤ 16) (h : chkT t ≠ 0) {F : Nat} (hF : 500 ≤ F) : acall tabA (aexec tabA Try.prog F) 20 [.slice a t.length cap, .int .i64 p] H = some (true, .tuple ⟨[.int .i64 0, .int .i64 (chkT t)]⟩, H, H.size) := by
  obtain ⟨N, rfl⟩ : ∃ N, F = N + 500 := ⟨F - 500, by omega⟩
  refine call_quiet (k := 31) (rs := [.tmp 4, .tmp 5]) rfl fn_20 rfl rfl rfl ?_ rfl
  have h16 := fun (N : Nat) => c16 (N := N) (cap := cap) hs hl
  have hne : decide (chkT t = 0) = false := by simpa using h
  simp (disch := (first | (simp only [ne_eq,Nat.reduceEqDiff,not_false_eq_true,Nat.reduceLT]; done) | omega | (simp only [yz] <;> omega) | fail)) only [↓yp,yq0,yq1,yq2,yq3,yq4,yl,ys0,ys1,Nat.reduceAdd,Nat.reduceMul,Nat.reduceSub,Nat.reduceBEq,Nat.reduceEqDiff,Nat.reduceLT,Nat.reduceLeDiff,reduceIte,Int.reduceAdd,Int.reduceSub,Int.reduceMul,Int.reduceLT,Int.reduceLE,Int.reduceEq,Int.reduceToNat,Int.reduceNeg,fitB,newC,endD,endR,yrg,h16,hne]
theorem c20r (hs : Rw stE H a t) (ht : TarOk t) (hn : p < 0) {F : Nat} (hF : 500 ≤ F) : acall tabA (aexec tabA Try.prog F) 20 [.slice a t.length cap, .int .i64 p] H = some (true, .tuple ⟨[.int .i64 0, .int .i64 4]⟩, H, H.size) := by
  obtain ⟨N, rfl⟩ : ∃ N, F = N + 500 := ⟨F - 500, by omega⟩
  refine call_quiet (k := 31) (rs := [.tmp 4, .tmp 5]) rfl fn_20 rfl rfl rfl ?_ rfl
  have h16 := fun (N : Nat) => c16 (N := N) (cap := cap) hs (by have := ht.len; omega)
  rw [ht.chk] at h16
  have hne : decide ((0 : Int) = 0) = true := by simp
  have hlt : decide (p < 0) = true := by simpa using hn
  simp (disch := (first | (simp only [ne_eq,Nat.reduceEqDiff,not_false_eq_true,Nat.reduceLT]; done) | omega | (simp only [yz] <;> omega) | fail)) only [↓yp,yq0,yq1,yq2,yq3,yq4,yl,ys0,ys1,Nat.reduceAdd,Nat.reduceMul,Nat.reduceSub,Nat.reduceBEq,Nat.reduceEqDiff,Nat.reduceLT,Nat.reduceLeDiff,reduceIte,Int.reduceAdd,Int.reduceSub,Int.reduceMul,Int.reduceLT,Int.reduceLE,Int.reduceEq,Int.reduceToNat,Int.reduceNeg,fitB,newC,endD,endR,yrg,h16,hne,hlt]
theorem c20 (hs : Rw stE H a t) (ht : TarOk t) (hp : 0 ≤ p) {k : Nat} (hk : PdR t p k) {F : Nat} (hF : 30000 ≤ F) : acall tabA (aexec tabA Try.prog F) 20 [.slice a t.length cap, .int .i64 p] H = some (true, .tuple ⟨[.int .i64 (k : Nat), .int .i64 0]⟩, H, H.size) := by
  obtain ⟨N, rfl⟩ : ∃ N, F = N + 30000 := ⟨F - 30000, by omega⟩
  refine call_quiet (k := 31) (rs := [.tmp 4, .tmp 5]) rfl fn_20 rfl rfl rfl ?_ rfl
  have h16 := fun (N : Nat) => c16 (N := N) (cap := cap) hs (by have := ht.len; omega)
  rw [ht.chk] at h16
  have hne : decide ((0 : Int) = 0) = true := by simp
  have hlt : decide (p < 0) = false := by simp; omega
  simp (disch := (first | (simp only [ne_eq,Nat.reduceEqDiff,not_false_eq_true,Nat.reduceLT]; done) | omega | (simp only [yz] <;> omega) | fail)) only [↓yp,yq0,yq1,yq2,yq3,yq4,yl,ys0,ys1,Nat.reduceAdd,Nat.reduceMul,Nat.reduceSub,Nat.reduceBEq,Nat.reduceEqDiff,Nat.reduceLT,Nat.reduceLeDiff,reduceIte,Int.reduceAdd,Int.reduceSub,Int.reduceMul,Int.reduceLT,Int.reduceLE,Int.reduceEq,Int.reduceToNat,Int.reduceNeg,fitB,newC,endD,endR,yrg,h16,hne,hlt]
  refine W_while (n := 31) 300 (fun q e H' => ∃ i : Nat, q = 20000 - i ∧ i ≤ 20000 ∧ gt 31 e 8 = .int .i64 ((i + 1 : Nat) : Int) ∧ gt 31 e 7 = .int .i64 (cts t i) ∧ gt 31 e 0 = .slice a t.length cap ∧ gt 31 e 1 = .int .i64 p ∧ H' = H ∧ i ≤ k)
    ?_ 20000 20000 ⟨0, by omega, by omega, by simp (disch := (first | (simp only [ne_eq,Nat.reduceEqDiff,not_false_eq_true,Nat.reduceLT]; done) | omega | (simp only [yz] <;> omega) | fail)) only [yg,Nat.reduceAdd,Nat.reduceEqDiff,Nat.reduceLT]; rfl, by simp (disch := (first | (simp only [ne_eq,Nat.reduceEqDiff,not_false_eq_true,Nat.reduceLT]; done) | omega | (simp only [yz] <;> omega) | fail)) only [yg,Nat.reduceAdd,Nat.reduceEqDiff,Nat.reduceLT]; rw [show ((0 : Nat) : Int) = 0 from rfl, cts_zero ht], by simp (disch := (first | (simp only [ne_eq,Nat.reduceEqDiff,not_false_eq_true,Nat.reduceLT]; done) | omega | (simp only [yz] <;> omega) | fail)) only [yg,Nat.reduceAdd,Nat.reduceEqDiff,Nat.reduceLT], by simp (disch := (first | (simp only [ne_eq,Nat.reduceEqDiff,not_false_eq_true,Nat.reduceLT]; done) | omega | (simp only [yz] <;> omega) | fail)) only [yg,Nat.reduceAdd,Nat.reduceEqDiff,Nat.reduceLT], rfl, by omega⟩ (by omega) (by omega)
  rintro M1 q e H1 ⟨i, rfl, hi, g8, g7, g0, g1, rfl, hik⟩
  simp (disch := (first | (simp only [ne_eq,Nat.reduceEqDiff,not_false_eq_true,Nat.reduceLT]; done) | omega | (simp only [yz] <;> omega) | fail)) only [↓yp,yq0,yq1,yq2,yq3,yq4,yl,ys0,ys1,Nat.reduceAdd,Nat.reduceMul,Nat.reduceSub,Nat.reduceBEq,Nat.reduceEqDiff,Nat.reduceLT,Nat.reduceLeDiff,reduceIte,Int.reduceAdd,Int.reduceSub,Int.reduceMul,Int.reduceLT,Int.reduceLE,Int.reduceEq,Int.reduceToNat,Int.reduceNeg,fitB,newC,endD,endR,yrg,g8,g7,g0,g1]
  refine ⟨fun hA => ?_, fun hA => ?_⟩
  · have hlt := of_decide_eq_true hA
    have h63 := fun (N : Nat) => c63 (N := N) (cap := cap) (m := ((i + 1 : Nat) : Int)) hs ht.len.1 (by have := ht.len; omega)
    have hb := cts_bd ht (n := i) (by omega)
    have hb1 := cts_bd ht (n := i + 1) (by omega)
    have hr := rate_le ((i + 1 : Nat) : Int) ht.ok
    have e1 : cts t i + rate t ((i + 1 : Nat) : Int) = cts t ((i + 1 : Nat) : Int) := by
      rw [show ((i + 1 : Nat) : Int) = (i : Int) + 1 by omega, cts_succ ht (by omega)]
    have w1 : w64 (cts t i + rate t ((i + 1 : Nat) : Int)) = cts t ((i + 1 : Nat) : Int) := by rw [w64_of (by omega), e1]
    have w2 : w64 (((i + 1 : Nat) : Int) + 1) = ((i + 1 + 1 : Nat) : Int) := by rw [w64_of (by omega)]; omega
    have w3 : w64 (((i + 1 : Nat) : Int) - 1) = (i : Int) := by rw [w64_of (by omega)]; omega
    have h64 := fun (N : Nat) (H : AHeap) => c64 (N := N) (H := H) (n := cts t ((i + 1 : Nat) : Int)) (by omega)
    have hif := hk.iff ht hp (n := i + 1) (by omega)
    cases hB : decide (p < whl (cts t ((i + 1 : Nat) : Int)))
    · have hB' := of_decide_eq_false hB
      have hle := hif.2 (by omega)
      simp (disch := (first | (simp only [ne_eq,Nat.reduceEqDiff,not_false_eq_true,Nat.reduceLT]; done) | omega | (simp only [yz] <;> omega) | fail)) only [↓yp,yq0,yq1,yq2,yq3,yq4,yl,ys0,ys1,Nat.reduceAdd,Nat.reduceMul,Nat.reduceSub,Nat.reduceBEq,Nat.reduceEqDiff,Nat.reduceLT,Nat.reduceLeDiff,reduceIte,Int.reduceAdd,Int.reduceSub,Int.reduceMul,Int.reduceLT,Int.reduceLE,Int.reduceEq,Int.reduceToNat,Int.reduceNeg,fitB,newC,endD,endR,yrg,g8,g7,g0,g1,h63,h64,w1,w2,hB]
      refine ⟨20000 - (i + 1), by omega, i + 1, rfl, by omega, ?_, ?_, ?_, ?_, rfl, hle⟩
      · simp (disch := (first | (simp only [ne_eq,Nat.reduceEqDiff,not_false_eq_true,Nat.reduceLT]; done) | omega | (simp only [yz] <;> omega) | fail)) only [yg,Nat.reduceAdd,Nat.reduceEqDiff,Nat.reduceLT]
      · simp (disch := (first | (simp only [ne_eq,Nat.reduceEqDiff,not_false_eq_true,Nat.reduceLT]; done) | omega | (simp only [yz] <;> omega) | fail)) only [yg,Nat.reduceAdd,Nat.reduceEqDiff,Nat.reduceLT]
      · simp (disch := (first | (simp only [ne_eq,Nat.reduceEqDiff,not_false_eq_true,Nat.reduceLT]; done) | omega | (simp only [yz] <;> omega) | fail)) only [yg,Nat.reduceAdd,Nat.reduceEqDiff,Nat.reduceLT,g0]
      · simp (disch := (first | (simp only [ne_eq,Nat.reduceEqDiff,not_false_eq_true,Nat.reduceLT]; done) | omega | (simp only [yz] <;> omega) | fail)) only [yg,Nat.reduceAdd,Nat.reduceEqDiff,Nat.reduceLT,g1]
    · have hB' := of_decide_eq_true hB
      have hie : i = k := by
        refine Decidable.byContradiction fun hc => ?_
        have := hif.1 (by omega)
        omega
      subst hie
      simp (disch := (first | (simp only [ne_eq,Nat.reduceEqDiff,not_false_eq_true,Nat.reduceLT]; done) | omega | (simp only [yz] <;> omega) | fail)) only [↓yp,yq0,yq1,yq2,yq3,yq4,yl,ys0,ys1,Nat.reduceAdd,Nat.reduceMul,Nat.reduceSub,Nat.reduceBEq,Nat.reduceEqDiff,Nat.reduceLT,Nat.reduceLeDiff,reduceIte,Int.reduceAdd,Int.reduceSub,Int.reduceMul,Int.reduceLT,Int.reduceLE,Int.reduceEq,Int.reduceToNat,Int.reduceNeg,fitB,newC,endD,endR,yrg,g8,g7,g0,g1,h63,h64,w1,w3,hB]
  · have hle := hk.le
    have hie : i = 20000 := by have := of_decide_eq_false hA; omega
    have hke : k = 20000 := by omega
    subst hke
    simp (disch := (first | (simp only [ne_eq,Nat.reduceEqDiff,not_false_eq_true,Nat.reduceLT]; done) | omega | (simp only [yz] <;> omega) | fail)) only [↓yp,yq0,yq1,yq2,yq3,yq4,yl,ys0,ys1,Nat.reduceAdd,Nat.reduceMul,Nat.reduceSub,Nat.reduceBEq,Nat.reduceEqDiff,Nat.reduceLT,Nat.reduceLeDiff,reduceIte,Int.reduceAdd,Int.reduceSub,Int.reduceMul,Int.reduceLT,Int.reduceLE,Int.reduceEq,Int.reduceToNat,Int.reduceNeg,fitB,newC,endD,endR,yrg,show ((20000 : Nat) : Int) = 20000 from rfl]
/-- What the law FeeTariffs knows when it has its own rows. -/
structure I3 (H H' : AHeap) (a o x : Option Addr) (cap co cx : Nat) (t : List Stp) (n p : Int) (e : VT) : Prop where
  r0 : Rw stE H' a t
  r1 : Rw stE H' o t
  r2 : Rw stE H' x t
  fr : Fr H H'
  g0 : gt 74 e 0 = .slice a t.length cap
  g1 : gt 74 e 1 = .int .i64 n
  g2 : gt 74 e 2 = .int .i64 p
  g7 : gt 74 e 7 = .slice o t.length co
  g8 : gt 74 e 8 = .slice x t.length cx
set_option maxHeartbeats 4000000 in
theorem c3b {o x : Option Addr} {co cx : Nat} {e : VT} (I : I3 H H' a o x cap co cx t n p e) (hl : t.length ≤ 6) {F : Nat} (hF : 38000 ≤ F) :
    W tabA Try.prog F none (sub [true, true, true] (bodyOf Try.f3)) H.size ⟨74, e, H', []⟩ (retK tabA H.size [.tmp 6] fun u _ => u = .bool true) := by
  obtain ⟨N, rfl⟩ : ∃ N, F = N + 38000 := ⟨F - 38000, by omega⟩
  have haw := fun (N : Nat) (H : AHeap) => awake_known (ex := aexec tabA Try.prog N) (H := H)
  have sz := I.fr.size
  have g0 := I.g0
  have g1 := I.g1
  have g2 := I.g2
  have g7 := I.g7
  have g8 := I.g8
  have h15 := fun (N : Nat) => c15 (N := N) (cap := co) I.r1 (by omega)
  have h16 := fun (N : Nat) => c16 (N := N) (cap := cx) I.r2 (by omega)
  have h21 := fun (N : Nat) => c21 (N := N) (cap := co) (cap' := cap) I.r1 I.r0 (by omega)
  have b0 : ∀ z : Int, decide (z = z) = true := fun z => by simp
  simp only [Try.f3,bodyOf,sub_nil,sub_seq0,sub_seq1,sub_block,sub_loop,sub_cond0,sub_cond1]
  by_cases hc : chkT t = 0
  rotate_left
  · have h17 := fun (N : Nat) => c17e (N := N) (n := n) (cap := co) I.r1 (by omega) hc
    have h18 : ∀ F, 500 ≤ F → _ := fun (F : Nat) hF => c18e (F := F) (n := n) (cap := cx) I.r2 (by omega) hc hF
    have h19 := fun (N : Nat) => c19e (N := N) (p := p) (cap := co) I.r1 (by omega) hc
    have h20 : ∀ F, 500 ≤ F → _ := fun (F : Nat) hF => c20e (F := F) (p := p) (cap := cx) I.r2 (by omega) hc hF
    simp (disch := (first | (simp only [ne_eq,Nat.reduceEqDiff,not_false_eq_true,Nat.reduceLT]; done) | omega | (simp only [yz] <;> omega) | fail)) only [↓yp,yq0,yq1,yq2,yq3,yq4,yl,ys0,ys1,Nat.reduceAdd,Nat.reduceMul,Nat.reduceSub,Nat.reduceBEq,Nat.reduceEqDiff,Nat.reduceLT,Nat.reduceLeDiff,reduceIte,Int.reduceAdd,Int.reduceSub,Int.reduceMul,Int.reduceLT,Int.reduceLE,Int.reduceEq,Int.reduceToNat,Int.reduceNeg,fitB,newC,endD,endR,yrg,g0,g1,g2,g7,g8,h15,h16,h17,h18,h19,h20,h21,b0,haw]
  have ht := chkT_ok hc
  rw [hc] at h15 h16
  obtain ⟨A, E, h17, h18⟩ : ∃ A E : Int, (∀ N, acall tabA (aexec tabA Try.prog (N + 500)) 17 [.slice o t.length co, .int .i64 n] H' = some (true, .tuple ⟨[.int .i64 A, .int .i64 E]⟩, H', H'.size)) ∧ ∀ F, 30000 ≤ F → acall tabA (aexec tabA Try.prog F) 18 [.slice x t.length cx, .int .i64 n] H' = some (true, .tuple ⟨[.int .i64 A, .int .i64 E]⟩, H', H'.size) := by
    cases hn : wi n 0 20000
    · exact ⟨0, 4, fun N => c17r I.r1 ht hn, fun F hF => c18r I.r2 ht hn (by omega)⟩
    · have hn' : 0 ≤ n ∧ n ≤ 20000 := by unfold wi at hn; simpa using hn
      exact ⟨_, 0, fun N => c17 I.r1 ht hn', fun F hF => c18 I.r2 ht hn' hF⟩
  obtain ⟨A', E', h19, h20⟩ : ∃ A E : Int, (∀ N, acall tabA (aexec tabA Try.prog (N + 3500)) 19 [.slice o t.length co, .int .i64 p] H' = some (true, .tuple ⟨[.int .i64 A, .int .i64 E]⟩, H', H'.size)) ∧ ∀ F, 30000 ≤ F → acall tabA (aexec tabA Try.prog F) 20 [.slice x t.length cx, .int .i64 p] H' = some (true, .tuple ⟨[.int .i64 A, .int .i64 E]⟩, H', H'.size) := by
    by_cases hp : 0 ≤ p
    · obtain ⟨k, hk, h19⟩ := c19 (cap := co) I.r1 ht hp
      exact ⟨_, 0, h19, fun F hF => c20 I.r2 ht hp hk hF⟩
    · exact ⟨0, 4, fun N => c19r I.r1 ht (by omega), fun F hF => c20r I.r2 ht (by omega) (by omega)⟩
  simp (disch := (first | (simp only [ne_eq,Nat.reduceEqDiff,not_false_eq_true,Nat.reduceLT]; done) | omega | (simp only [yz] <;> omega) | fail)) only [↓yp,yq0,yq1,yq2,yq3,yq4,yl,ys0,ys1,Nat.reduceAdd,Nat.reduceMul,Nat.reduceSub,Nat.reduceBEq,Nat.reduceEqDiff,Nat.reduceLT,Nat.reduceLeDiff,reduceIte,Int.reduceAdd,Int.reduceSub,Int.reduceMul,Int.reduceLT,Int.reduceLE,Int.reduceEq,Int.reduceToNat,Int.reduceNeg,fitB,newC,endD,endR,yrg,g0,g1,g2,g7,g8,h15,h16,h17,h18,h19,h20,h21,b0,haw]
set_option maxHeartbeats 4000000 in
theorem c3 (hs : Rw stE H a t) {F : Nat} (hF : 40000 ≤ F) :
    acall tabA (aexec tabA Try.prog F) 3 [.slice a t.length cap, .int .i64 n, .int .i64 p] H = some (true, .bool true, H, H.size) := by
  obtain ⟨N, rfl⟩ : ∃ N, F = N + 40000 := ⟨F - 40000, by omega⟩
  refine call_quiet (k := 74) (rs := [.tmp 6]) rfl fn_3 rfl rfl rfl ?_ rfl
  have haw := fun (N : Nat) (H : AHeap) => awake_known (ex := aexec tabA Try.prog N) (H := H)
  cases hlong : decide (6 < (t.length : Int))
  rotate_left
  · simp (disch := (first | (simp only [ne_eq,Nat.reduceEqDiff,not_false_eq_true,Nat.reduceLT]; done) | omega | (simp only [yz] <;> omega) | fail)) only [↓yp,yq0,yq1,yq2,yq3,yq4,yl,ys0,ys1,Nat.reduceAdd,Nat.reduceMul,Nat.reduceSub,Nat.reduceBEq,Nat.reduceEqDiff,Nat.reduceLT,Nat.reduceLeDiff,reduceIte,Int.reduceAdd,Int.reduceSub,Int.reduceMul,Int.reduceLT,Int.reduceLE,Int.reduceEq,Int.reduceToNat,Int.reduceNeg,fitB,newC,endD,endR,yrg,lenV_slice st_esS_22,hlong,haw]
  have hl : t.length ≤ 6 := by have := of_decide_eq_false hlong; omega
  obtain ⟨TL, hTL⟩ : ∃ c, sub [true, true, true] (bodyOf Try.f3) = c := ⟨_, rfl⟩
  have hend := fun (H' : AHeap) (o x : Option Addr) (co cx : Nat) (e : VT) (I : I3 H H' a o x cap co cx t n p e) => c3b (F := N + 39997) I hl (by omega)
  rw [hTL] at hend
  simp only [Try.f3,bodyOf,sub_nil,sub_seq0,sub_seq1,sub_block,sub_loop,sub_cond0,sub_cond1] at hTL
  rw [hTL]
  clear hTL
  by_cases hne : t = []
  · subst hne
    have h13 := fun (N : Nat) (H : AHeap) => c13n (N := N) (H := H) (a := a) (cap := cap)
    have h14 := fun (N : Nat) (H : AHeap) => c14n (N := N) (H := H) (a := a) (cap := cap)
    simp only [List.length_nil] at hend hlong ⊢
    simp (disch := (first | (simp only [ne_eq,Nat.reduceEqDiff,not_false_eq_true,Nat.reduceLT]; done) | omega | (simp only [yz] <;> omega) | fail)) only [↓yp,yq0,yq1,yq2,yq3,yq4,yl,ys0,ys1,Nat.reduceAdd,Nat.reduceMul,Nat.reduceSub,Nat.reduceBEq,Nat.reduceEqDiff,Nat.reduceLT,Nat.reduceLeDiff,reduceIte,Int.reduceAdd,Int.reduceSub,Int.reduceMul,Int.reduceLT,Int.reduceLE,Int.reduceEq,Int.reduceToNat,Int.reduceNeg,fitB,newC,endD,endR,yrg,lenV_slice st_esS_22,hlong,h13,h14]
    refine hend H none none 0 0 _ ⟨Rw.nil, Rw.nil, Rw.nil, Fr.refl _, ?_, ?_, ?_, ?_, ?_⟩
    all_goals simp (disch := (first | (simp only [ne_eq,Nat.reduceEqDiff,not_false_eq_true,Nat.reduceLT]; done) | omega | (simp only [yz] <;> omega) | fail)) only [yg,Nat.reduceAdd,Nat.reduceEqDiff,Nat.reduceLT,List.length_nil]
  simp (disch := (first | (simp only [ne_eq,Nat.reduceEqDiff,not_false_eq_true,Nat.reduceLT]; done) | omega | (simp only [yz] <;> omega) | fail)) only [↓yp,yq0,yq1,yq2,yq3,yq4,yl,ys0,ys1,Nat.reduceAdd,Nat.reduceMul,Nat.reduceSub,Nat.reduceBEq,Nat.reduceEqDiff,Nat.reduceLT,Nat.reduceLeDiff,reduceIte,Int.reduceAdd,Int.reduceSub,Int.reduceMul,Int.reduceLT,Int.reduceLE,Int.reduceEq,Int.reduceToNat,Int.reduceNeg,fitB,newC,endD,endR,yrg,lenV_slice st_esS_22,hlong]
  refine c13 hs hne (by omega) (by (first | omega | (simp only [yz] <;> omega))) (by omega) ?_
  intro k H1 fr1 k1 k2 k3
  have f1 := fr1.size
  simp (disch := (first | (simp only [ne_eq,Nat.reduceEqDiff,not_false_eq_true,Nat.reduceLT]; done) | omega | (simp only [yz] <;> omega) | fail)) only [↓yp,yq0,yq1,yq2,yq3,yq4,yl,ys0,ys1,Nat.reduceAdd,Nat.reduceMul,Nat.reduceSub,Nat.reduceBEq,Nat.reduceEqDiff,Nat.reduceLT,Nat.reduceLeDiff,reduceIte,Int.reduceAdd,Int.reduceSub,Int.reduceMul,Int.reduceLT,Int.reduceLE,Int.reduceEq,Int.reduceToNat,Int.reduceNeg,fitB,newC,endD,endR,yrg]
  refine c14 (hs.fr fr1) hne (by omega) fr1.size (by omega) ?_
  intro b c H2 fr2 r2
  have f2 := fr2.size
  simp (disch := (first | (simp only [ne_eq,Nat.reduceEqDiff,not_false_eq_true,Nat.reduceLT]; done) | omega | (simp only [yz] <;> omega) | fail)) only [↓yp,yq0,yq1,yq2,yq3,yq4,yl,ys0,ys1,Nat.reduceAdd,Nat.reduceMul,Nat.reduceSub,Nat.reduceBEq,Nat.reduceEqDiff,Nat.reduceLT,Nat.reduceLeDiff,reduceIte,Int.reduceAdd,Int.reduceSub,Int.reduceMul,Int.reduceLT,Int.reduceLE,Int.reduceEq,Int.reduceToNat,Int.reduceNeg,fitB,newC,endD,endR,yrg]
  refine hend H2 (some ⟨k, 0, none⟩) (some ⟨b, 0, none⟩) (OPEN + 2) c _ ⟨(hs.fr fr1).fr fr2, (Rw.of (r := []) k2 (by rw [k3]; rfl) (by rw [List.append_nil])).fr fr2, r2, fr1.trans fr2, ?_, ?_, ?_, ?_, ?_⟩
  all_goals simp (disch := (first | (simp only [ne_eq,Nat.reduceEqDiff,not_false_eq_true,Nat.reduceLT]; done) | omega | (simp only [yz] <;> omega) | fail)) only [yg,Nat.reduceAdd,Nat.reduceEqDiff,Nat.reduceLT]
end
end Go.Am
/- Rows as they read as data, and the heap that they make. -/
namespace Go.Am
open Go.Proofs Go.Deep Go.RowKit Go.ChangeShapes Go.WideShapes Go.ChangeAt
variable {X : Type} {enc : TypeId × Value → X} {w : World} {W : World} {base : Nat} {sp : Nat → Bool} {held : Bool} {n : Nat} {cs : List Value} {x : DataW X × List MemPlace}
theorem field_of {P : Program} {fs : Array Field} {xs : List (DataW X × List MemPlace)} (hlen : xs.length = fs.size) (hf : ∀ (i : Nat) (f : Field), fs[i]? = some f → DataW.trod enc P w base sp held n f.type ((cs.drop f.offset).take (P.cellsOf f.type)) = xs[i]?) (i : Nat) {f : Field} (hi : fs[i]? = some f) :
    ∃ y, DataW.trod enc P w base sp held n f.type ((cs.drop f.offset).take (P.cellsOf f.type)) = some y := by
  have hlt : i < fs.size := by
    rw [Array.getElem?_eq_some_iff] at hi
    exact hi.1
  exact ⟨xs[i]'(by omega), by rw [hf i f hi]; simp⟩
theorem cellsOf3 : Try.prog.cellsOf 3 = 1 := by kernel_rfl
theorem cellsOf26 : Try.prog.cellsOf 26 = 2 := by kernel_rfl
theorem read_int {c : Value} {y : DataW X × List MemPlace} (h : DataW.trod enc Try.prog w base sp held n 3 [c] = some y) : ∃ i, c = .int .i64 i := by
  obtain ⟨i, h1, _, h3⟩ := DataW.trod_int Try.underlying3 h
  exact ⟨i, by simpa using h1⟩
set_option maxRecDepth 10000 in
theorem read_st (h : DataW.trod enc Try.prog w base sp held n 26 cs = some x) : ∃ g : Stp, cs = g.enc := by
  obtain ⟨xs, n, _, rfl, hl, hlen, hf⟩ := DataW.trod_struct Try.underlying26 h
  rw [cellsOf26] at hl
  match cs, hl with
  | [c0, c1], _ =>
    obtain ⟨y0, h0⟩ := field_of hlen hf 0 rfl
    obtain ⟨y1, h1⟩ := field_of hlen hf 1 rfl
    obtain ⟨i0, rfl⟩ := read_int (c := c0) (by simpa [cellsOf3] using h0)
    obtain ⟨i1, rfl⟩ := read_int (c := c1) (by simpa [cellsOf3] using h1)
    exact ⟨⟨i0, i1⟩, rfl⟩
theorem gr_st (g : Stp) : ∀ v ∈ g.enc, gr v = true := by
  intro v hv
  simp only [Stp.enc,List.mem_cons,List.not_mem_nil,or_false] at hv
  rcases hv with rfl | rfl <;> rfl
theorem fl_get {α : Type} {E : Enc α} (hz : 0 < E.z) : ∀ (l : List α) (i : Nat) (v : Value), (E.fl l)[i]? = some v → ∃ s, l[i / E.z]? = some s ∧ (E.f s)[i % E.z]? = some v
  | [], i, v, h => by
    have : (E.fl ([] : List α)) = [] := rfl
    rw [this] at h; simp at h
  | t :: l, i, v, h => by
    have e : E.fl (t :: l) = E.f t ++ E.fl l := rfl
    rw [e] at h
    by_cases hi : i < E.z
    · refine ⟨t, by rw [Nat.div_eq_of_lt hi]; rfl, ?_⟩
      rw [Nat.mod_eq_of_lt hi]
      rwa [List.getElem?_append_left (by rw [E.len]; exact hi)] at h
    · rw [List.getElem?_append_right (by rw [E.len]; omega), E.len] at h
      obtain ⟨s, h1, h2⟩ := fl_get hz l (i - E.z) v h
      refine ⟨s, ?_, ?_⟩
      · rw [Nat.div_eq_sub_div hz (by omega)]
        simpa using h1
      · rw [Nat.mod_eq_sub_mod (by omega)]; exact h2
/-- Rows that came in: none, or elements that lie one behind another. -/
structure RowsIn {α : Type} (E : Enc α) (W : World) (a : Option Addr) (len cap : Nat) (l : List α) : Prop where
  hlen : len = l.length
  hcap : cap < OPEN
  nl : a = none → cap = 0 ∧ l = []
  row : ∀ ad, a = some ad → ad.spot = none ∧ ad.block < W.heap.size ∧ ∀ i v, (E.fl l)[i]? = some v → gr v = true ∧ W.cell? ⟨ad.block, ad.off + i, none⟩ = some v
set_option maxRecDepth 100000 in
theorem rows_read {α : Type} [Inhabited α] {E : Enc α} {ty et : TypeId} {W : World} {v1 : Value} {y : DataW X × List MemPlace} (hu : Try.prog.underlying ty = some (.slice et)) (hz : Try.prog.cellsOf et = E.z) (hz0 : 0 < E.z)
    (hread : ∀ {n : Nat} {cs : List Value} {y : DataW X × List MemPlace}, DataW.trod enc Try.prog W 0 (fun _ => true) true n et cs = some y → ∃ s : α, cs = E.f s) (hgr : ∀ s : α, ∀ v ∈ E.f s, gr v = true)
    (hcell : Cell.okWide Try.prog W .any base ty v1) (h1 : DataW.trod enc Try.prog W 0 (fun _ => true) true n ty [v1] = some y) :
    ∃ (a : Option Addr) (len cap : Nat) (l : List α), v1 = .slice a len cap ∧ RowsIn E W a len cap l := by
  rcases open_slice hu h1 with ⟨hn, _⟩ | ⟨a, len, cap, m, n', D, Pl, hn, _, hle, hcap, hm, _, hx⟩
  · obtain rfl : v1 = .slice none 0 0 := by simpa using hn
    exact ⟨none, 0, 0, [], rfl, rfl, by unfold OPEN; omega, fun _ => ⟨rfl, rfl⟩, fun ad h => by cases h⟩
  · obtain rfl : v1 = .slice (some a) len cap := by simpa using hn
    unfold Cell.okWide at hcell
    rw [hu] at hcell
    simp only [Cell.ok,hu] at hcell
    obtain ⟨_, _, _, hsp, ⟨row, cells, hsh, _⟩⟩ := hcell
    have hb := shape_lt hsh
    have hm' : m = cap := by rw [hm]; rfl
    obtain ⟨S, hS⟩ := choose_lt (α := α) (p := fun i s => W.cells? 0 (a.add (i * E.z)) E.z = some (E.f s)) (n := len) (fun i hi => by
      obtain ⟨cs', k1, k2⟩ := hx i (by omega)
      rw [hz] at k1
      obtain ⟨s, rfl⟩ := hread k2
      exact ⟨s, k1⟩)
    have hget : ∀ i s, ((List.range len).map S)[i]? = some s → i < len ∧ s = S i := fun i s h => by
      rw [List.getElem?_map, Option.map_eq_some_iff] at h
      obtain ⟨j, hj, rfl⟩ := h
      have := List.getElem?_eq_some_iff.1 hj
      obtain ⟨q1, q2⟩ := this
      rw [List.getElem_range] at q2
      subst q2
      exact ⟨by simpa using q1, rfl⟩
    refine ⟨some a, len, cap, (List.range len).map S, rfl, by simp, ?_, (fun h => by cases h), ?_⟩
    · unfold maxLen at hcap
      unfold OPEN
      omega
    · intro ad had
      cases had
      refine ⟨hsp, hb, fun i v hi => ?_⟩
      obtain ⟨s, h1, h2⟩ := fl_get hz0 _ i v hi
      refine ⟨hgr s v (List.mem_of_getElem? h2), ?_⟩
      obtain ⟨k1, rfl⟩ := hget _ s h1
      obtain ⟨_, _, hc⟩ := World.cells?_some (hS _ k1)
      have := hc (i % E.z) (Nat.mod_lt _ hz0)
      rw [h2, add_add, add_off hsp] at this
      rw [← this]
      congr 2
      have := Nat.div_add_mod i E.z
      rw [Nat.mul_comm] at this
      omega
instance : Inhabited Stp := ⟨⟨0, 0⟩⟩
theorem RowsIn.rw {α : Type} {E : Enc α} {W : World} {a : Option Addr} {len cap : Nat} {l : List α} (t : RowsIn E W a len cap l) {H : AHeap} {k : Nat} (hk : k < H.size) (hg : H.get k = .ro (E.fl l)) : Rw E H (atK k a) l := by
  cases a with
  | none =>
    obtain ⟨_, rfl⟩ := t.nl rfl
    exact Rw.nil
  | some ad => exact Rw.of (r := []) hk (by rw [hg]; rfl) (by rw [List.append_nil])
theorem RowsIn.cells {α : Type} {E : Enc α} {W : World} {a : Option Addr} {len cap : Nat} {l : List α} (t : RowsIn E W a len cap l) : ∀ ad, a = some ad → ad.block < W.heap.size ∧ ∀ (i : Nat) (v : Value), (E.fl l)[i]? = some v → gr v = true ∧ W.cell? ⟨ad.block, ad.off + i, none⟩ = some v := fun ad h => (t.row ad h).2
theorem RowsIn.okv {α : Type} {E : Enc α} {W : World} {a : Option Addr} {len cap : Nat} {l : List α} (t : RowsIn E W a len cap l) {σ : Place} {k : Nat} (h : σ.at_ k = a.map fun ad => (ad.block, ad.off)) : Go.Am.okv σ (.slice (atK k a) l.length cap) := by
  cases a with
  | none =>
    have := t.hcap
    simpa [Go.Am.okv, atK] using this
  | some ad =>
    simp only [atK,Option.map_some,Go.Am.okv]
    exact ⟨trivial, by rw [h]; rfl, fun hc => absurd t.hcap (by omega)⟩
theorem RowsIn.ren {α : Type} {E : Enc α} {W : World} {a : Option Addr} {len cap : Nat} {l : List α} (t : RowsIn E W a len cap l) {σ : Place} {k : Nat} (h : σ.at_ k = a.map fun ad => (ad.block, ad.off)) : Go.Am.ren σ (.slice (atK k a) l.length cap) = .slice a l.length cap := by
  cases a with
  | none =>
    obtain ⟨rfl, rfl⟩ := t.nl rfl
    exact (gr_ok σ (v := .slice none 0 0) rfl).2
  | some ad =>
    obtain ⟨b, o, s⟩ := ad
    obtain ⟨hs, _, _⟩ := t.row _ rfl
    simp only at hs
    subst hs
    simp [Go.Am.ren, atK, Place.cap, t.hcap, Place.addr, h]
/-- A row: where it lies, and what is in it. -/
def nHeap : List (Option Addr × List Value) → AHeap
  | [] => ⟨0, .nil⟩
  | r :: rs => (nHeap rs).alloc (.ro r.2)
/-- Places of rows, the last one first. -/
def nPlace (rs : List (Option Addr × List Value)) : Place := ⟨fun k => (rs.reverse[k]?).bind fun r => r.1.map fun a => (a.block, a.off), fun _ => 0⟩
theorem nHeap_size : ∀ {rs : List (Option Addr × List Value)}, (nHeap rs).size = rs.length
  | [] => rfl
  | r :: rs => by
    show ((nHeap rs).alloc _).size = _
    rw [size_alloc, nHeap_size, List.length_cons]
theorem nHeap_get : ∀ {rs : List (Option Addr × List Value)} {k : Nat} {r : Option Addr × List Value}, rs.reverse[k]? = some r → (nHeap rs).get k = .ro r.2
  | [], k, r, h => by simp at h
  | s :: rs, k, r, h => by
    rw [List.reverse_cons] at h
    show ((nHeap rs).alloc _).get k = _
    by_cases hk : k < rs.length
    · rw [List.getElem?_append_left (by rw [List.length_reverse]; exact hk)] at h
      rw [get_alloc_lt (by rw [nHeap_size]; exact hk)]
      exact nHeap_get h
    · have hlt := (List.getElem?_eq_some_iff.1 h).1
      rw [List.length_append, List.length_reverse] at hlt
      simp only [List.length_cons,List.length_nil] at hlt
      have : k = rs.length := by omega
      subst this
      rw [List.getElem?_append_right (by rw [List.length_reverse]; exact Nat.le_refl _), List.length_reverse, Nat.sub_self] at h
      simp only [List.getElem?_cons_zero,Option.some.injEq] at h
      subst h
      exact get_alloc_eq (by rw [nHeap_size])
theorem nRel {rs : List (Option Addr × List Value)} (hr : ∀ r ∈ rs, ∀ a, r.1 = some a → a.block < W.heap.size ∧ ∀ (i : Nat) (v : Value), r.2[i]? = some v → gr v = true ∧ W.cell? ⟨a.block, a.off + i, none⟩ = some v) : Rel (nPlace rs) (nHeap rs) W where
  lt k b' s h := by
    obtain ⟨r, h1, h2⟩ := Option.bind_eq_some_iff.1 h
    obtain ⟨a, ha, he⟩ := Option.map_eq_some_iff.1 h2
    cases he
    have hlt := (List.getElem?_eq_some_iff.1 h1).1
    rw [List.length_reverse] at hlt
    exact ⟨by rw [nHeap_size]; exact hlt, (hr r (List.mem_reverse.1 (List.mem_of_getElem? h1)) a ha).1⟩
  holds k b' s h := by
    obtain ⟨r, h1, h2⟩ := Option.bind_eq_some_iff.1 h
    obtain ⟨a, ha, he⟩ := Option.map_eq_some_iff.1 h2
    cases he
    rw [nHeap_get h1]
    intro i v hi
    obtain ⟨g1, g2⟩ := (hr r (List.mem_reverse.1 (List.mem_of_getElem? h1)) a ha).2 i v hi
    exact ⟨(gr_ok _ g1).1, by rw [(gr_ok _ g1).2]; exact g2⟩
  excl k k' b' s s' h h' hne al hal := by
    obtain ⟨r, h1, h2⟩ := Option.bind_eq_some_iff.1 h
    rw [nHeap_get h1] at hal
    cases hal
set_option maxRecDepth 100000 in
/-- A row of steps. -/
theorem steps_read {v : Value} {d : DataW X} {p : List MemPlace} (hv : Value.okWide Try.prog W .any base 22 v) (h : DataW.Trod enc Try.prog W 0 (fun _ => true) true 22 v d p) :
    ∃ (a : Option Addr) (len cap : Nat) (l : List Stp), v = .slice a len cap ∧ RowsIn stE W a len cap l := by
  obtain ⟨fuel, h⟩ := h
  have key : ∀ a len cap, v = .slice a len cap → ∃ (a : Option Addr) (len cap : Nat) (l : List Stp), v = .slice a len cap ∧ RowsIn stE W a len cap l := by
    rintro a₀ len₀ cap₀ rfl
    refine rows_read (enc := enc) (base := base) (n := fuel) (y := (d, p)) (v1 := .slice a₀ len₀ cap₀) (E := stE) (ty := 22) (et := 26) Try.underlying22 cellsOf26 (by decide) read_st gr_st ?_ h
    unfold Value.okWide at hv
    rw [Try.underlying22] at hv
    exact hv
  cases v with
  | slice a len cap => exact key _ _ _ rfl
  | _ =>
    exfalso
    unfold Value.okWide at hv
    rw [Try.underlying22] at hv
    simp [Cell.okWide, Cell.ok, Try.underlying22] at hv
theorem row_calls {α : Type} {E : Enc α} {a : Option Addr} {len cap : Nat} {l : List α} (t : RowsIn E W a len cap l) {f : FuncId} {rest : List Value} (hr : allGrV rest = true) {n : Nat}
    (h : ∀ (H : AHeap) (x : Option Addr), Rw E H x l → acall tabA (aexec tabA Try.prog n) f (.slice x l.length cap :: rest) H = some (true, .bool true, H, H.size)) :
    Calls Try.prog f (.slice a len cap :: rest).toArray W fun e w' => e = .returned (.bool true) ∧ Below W.heap.size W w' := by
  obtain rfl := t.hlen
  obtain ⟨rs, hrs⟩ : ∃ rs : List (Option Addr × List Value), [(a, E.fl l)] = rs := ⟨_, rfl⟩
  have hz : (nHeap rs).size = 1 := by rw [nHeap_size, ← hrs]; rfl
  have g0 : (nHeap rs).get 0 = .ro (E.fl l) := nHeap_get (r := (a, E.fl l)) (by rw [← hrs]; rfl)
  have e0 : (nPlace rs).at_ 0 = a.map fun ad => (ad.block, ad.off) := by rw [← hrs]; rfl
  have hR : Rel (nPlace rs) (nHeap rs) W := nRel fun r hm => by
    rw [← hrs] at hm
    simp only [List.mem_cons,List.not_mem_nil,or_false] at hm
    subst hm
    exact t.cells
  have h1 := call_ok tabA_fits (h (nHeap rs) (atK 0 a) (t.rw (by rw [hz]; omega) g0))
  have h2 := calls_below h1 rfl hR fun x hx => by
    rcases List.mem_cons.1 hx with rfl | hx
    · exact t.okv e0
    · exact (gr_ok _ (allGrV_mem hr x hx)).1
  have e : (Value.slice (atK 0 a) l.length cap :: rest).map (ren (nPlace rs)) = Value.slice a l.length cap :: rest := by
    rw [List.map_cons, allGrV_ren hr, t.ren e0]
  rw [e] at h2
  exact h2
end Go.Am
