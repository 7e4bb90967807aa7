/- The reference's tariffs: their error, rates; rows of steps: alike, and turned into those of the reference. -/
import Derived.Test.YtnibabkgeolenaaT33
set_option linter.unusedSimpArgs false
set_option linter.unusedVariables false
namespace Go.Am
open Go.Proofs
variable {T : Tab} {P : Program} {N L : Nat} {H H' H'' : AHeap} {Q : Bool → Value → AHeap → Prop}
theorem pureRun_bind {α β : Type} (P : Program) (s : Sem α) (f : α → Sem β) : pureRun P (s >>= f) = (pureRun P s).bind fun a => pureRun P (f a) := by
  show pureRun P (Sem.bind s f) = _
  induction s with
  | pure a => rfl
  | program k ih => simp only [Sem.bind,pureRun]; exact ih P
  | _ => rfl
theorem prI {n : Nat} {a b : Int} : pureRun Try.prog (Op.equalIn (n + 1) 3 (.int .i64 a) (.int .i64 b)) = some (a == b) := by kernel_rfl
theorem prG : pureRun Try.prog program = some Try.prog := rfl
theorem prPure {α : Type} {P : Program} (a : α) : pureRun P (pure a : Sem α) = some a := rfl
theorem prF26_0 {a b : Int} : pureRun Try.prog (Go.part 3 ⟨[.int .i64 a, .int .i64 b]⟩ 0) = some (.int .i64 a) := by kernel_rfl
theorem prF26_1 {a b : Int} : pureRun Try.prog (Go.part 3 ⟨[.int .i64 a, .int .i64 b]⟩ 1) = some (.int .i64 b) := by kernel_rfl
theorem prS26 : Try.prog.stoodInHeld 26 = false := by kernel_rfl
theorem prH26 : pureRun Try.prog (underlying 26) = some (.struct #[{ name := "Upto", type := 3, offset := 0, embedded := false, tag := "", pkgPath := "", byteOffset := 0 }, { name := "Pence", type := 3, offset := 1, embedded := false, tag := "", pkgPath := "", byteOffset := 8 }]) := by kernel_rfl
theorem eq26 {a b : Int} : pureRun Try.prog (Op.equal 26 (.agg ⟨[.int .i64 a, .int .i64 b]⟩) (.agg ⟨[.int .i64 a, .int .i64 b]⟩)) = some true := by
  show pureRun Try.prog (Op.equalIn (9998 + 1 + 1) 26 _ _) = _
  unfold Op.equalIn
  rw [pureRun_bind, prH26]
  simp only [Option.bind_some,pureRun_bind,prG,prS26,Bool.false_eq_true,if_false,List.forIn_toArray,List.forIn_cons,List.forIn_nil,ne_eq,prI,prF26_0,prF26_1,show ("Upto" = "_") = False by simp,show ("Pence" = "_") = False by simp,not_false_eq_true,if_true,beq_self_eq_true,Bool.not_true,prPure]
theorem eqb26 {x y : Operand} {a b : Int} : pureRun Try.prog (do eqGuard .neq 26 x y (.agg ⟨[.int .i64 a, .int .i64 b]⟩) (.agg ⟨[.int .i64 a, .int .i64 b]⟩); binOp .neq 26 (.agg ⟨[.int .i64 a, .int .i64 b]⟩) (.agg ⟨[.int .i64 a, .int .i64 b]⟩)) = some (.bool false) := by
  rw [pureRun_bind]
  rw [show pureRun Try.prog (eqGuard .neq 26 x y (.agg ⟨[.int .i64 a, .int .i64 b]⟩) (.agg ⟨[.int .i64 a, .int .i64 b]⟩)) = some () by kernel_rfl]
  rw [Option.bind_some, show binOp .neq 26 (.agg ⟨[.int .i64 a, .int .i64 b]⟩) (.agg ⟨[.int .i64 a, .int .i64 b]⟩) = (Op.equal 26 (.agg ⟨[.int .i64 a, .int .i64 b]⟩) (.agg ⟨[.int .i64 a, .int .i64 b]⟩) >>= fun b => pure (.bool !b)) by simp only [binOp], pureRun_bind, eq26]
  rfl
theorem neq26 {x y : Operand} {a b : Int} : binV tabA Try.prog .neq 26 x y (.agg ⟨[.int .i64 a, .int .i64 b]⟩) (.agg ⟨[.int .i64 a, .int .i64 b]⟩) = some (.bool false) := by
  unfold binV
  cases h : aEqV Try.prog .neq 26 (some (.agg ⟨[.int .i64 a, .int .i64 b]⟩)) (some (.agg ⟨[.int .i64 a, .int .i64 b]⟩)) with
  | none =>
    rw [show gr (.agg ⟨[.int .i64 a, .int .i64 b]⟩) = true from rfl, Bool.and_self, cond_true, eqb26]
    rfl
  | some v =>
    simp only [aEqV] at h
    cases h' : aEqD Try.prog 26 (.agg ⟨[.int .i64 a, .int .i64 b]⟩) (.agg ⟨[.int .i64 a, .int .i64 b]⟩) with
    | none => rw [h'] at h; cases h
    | some r =>
      rw [h'] at h
      cases h
      have h1 := (aEqD_run h' default).1
      have h2 := pureRun_run (eq26 (a := a) (b := b)) default
      rw [h2] at h1
      cases h1
      rfl
section
variable {a a' : Option Addr} {cap cap' : Nat} {ps : List Stp}
/-- Alike, of pickings that are. -/
theorem c21 (hs : Rw stE H a ps) (hs' : Rw stE H a' ps) (hl : ps.length ≤ 65) : acall tabA (aexec tabA Try.prog (N + 150)) 21 [.slice a ps.length cap, .slice a' ps.length cap'] H = some (true, .bool true, H, H.size) := by
  refine call_quiet (k := 26) (rs := [.tmp 4]) rfl fn_21 rfl rfl rfl ?_ rfl
  have hll : decide ((ps.length : Int) = (ps.length : Int)) = true := by simp
  simp (disch := (first | (simp only [ne_eq,Nat.reduceEqDiff,not_false_eq_true,Nat.reduceLT]; done) | omega | (simp only [yz] <;> omega) | fail)) only [↓yp,yq0,yq1,yq2,yq3,yq4,yl,ys0,ys1,Nat.reduceAdd,Nat.reduceMul,Nat.reduceSub,Nat.reduceBEq,Nat.reduceEqDiff,Nat.reduceLT,Nat.reduceLeDiff,reduceIte,Int.reduceAdd,Int.reduceSub,Int.reduceMul,Int.reduceLT,Int.reduceLE,Int.reduceEq,Int.reduceToNat,Int.reduceNeg,fitB,newC,endD,endR,yrg,lenV_slice st_esS_22,hll]
  refine W_while (n := 26) 70 (fun k e H' => ∃ i, k = ps.length - i ∧ i ≤ ps.length ∧ gt 26 e 14 = .int .i64 (i : Nat) ∧ gt 26 e 13 = .int .i64 ps.length ∧ gt 26 e 12 = .slice a ps.length cap ∧ gt 26 e 1 = .slice a' ps.length cap' ∧ Fr H H')
    ?_ 65 ps.length ⟨0, by omega, by omega, by simp (disch := (first | (simp only [ne_eq,Nat.reduceEqDiff,not_false_eq_true,Nat.reduceLT]; done) | omega | (simp only [yz] <;> omega) | fail)) only [yg,Nat.reduceAdd,Nat.reduceEqDiff,Nat.reduceLT]; rfl, by simp (disch := (first | (simp only [ne_eq,Nat.reduceEqDiff,not_false_eq_true,Nat.reduceLT]; done) | omega | (simp only [yz] <;> omega) | fail)) only [yg,Nat.reduceAdd,Nat.reduceEqDiff,Nat.reduceLT], by simp (disch := (first | (simp only [ne_eq,Nat.reduceEqDiff,not_false_eq_true,Nat.reduceLT]; done) | omega | (simp only [yz] <;> omega) | fail)) only [yg,Nat.reduceAdd,Nat.reduceEqDiff,Nat.reduceLT], by simp (disch := (first | (simp only [ne_eq,Nat.reduceEqDiff,not_false_eq_true,Nat.reduceLT]; done) | omega | (simp only [yz] <;> omega) | fail)) only [yg,Nat.reduceAdd,Nat.reduceEqDiff,Nat.reduceLT], Fr.refl _⟩ (by omega) (by omega)
  rintro M k e H' ⟨i, rfl, hi, g14, g13, g12, g1, fr⟩
  have f0 := fr.size
  have fs := fr.same
  simp (disch := (first | (simp only [ne_eq,Nat.reduceEqDiff,not_false_eq_true,Nat.reduceLT]; done) | omega | (simp only [yz] <;> omega) | fail)) only [↓yp,yq0,yq1,yq2,yq3,yq4,yl,ys0,ys1,Nat.reduceAdd,Nat.reduceMul,Nat.reduceSub,Nat.reduceBEq,Nat.reduceEqDiff,Nat.reduceLT,Nat.reduceLeDiff,reduceIte,Int.reduceAdd,Int.reduceSub,Int.reduceMul,Int.reduceLT,Int.reduceLE,Int.reduceEq,Int.reduceToNat,Int.reduceNeg,fitB,newC,endD,endR,yrg,g14,g13,g12,g1]
  refine ⟨fun hlt => ?_, fun hlt => ?_⟩
  · have hi' : i < ps.length := by simpa using hlt
    obtain ⟨x, hx⟩ : ∃ x, ps[i]? = some x := ⟨ps[i], by simp [hi']⟩
    obtain ⟨b, o, c, rfl, hb, hc, hp⟩ := hs.at_ hx
    obtain ⟨b', o', c', rfl, hb', hc', hp'⟩ := hs'.at_ hx
    have q : part c (o + i * 2) (2 + 1) = some (.agg ⟨x.enc⟩) := part_of hp rfl
    have q' : part c' (o' + i * 2) (2 + 1) = some (.agg ⟨x.enc⟩) := part_of hp' rfl
    simp only [Stp.enc,Nat.reduceAdd] at q q'
    have hw2 : w64 ((i : Int) + 1) = ((i + 1 : Nat) : Int) := by rw [w64_of (by omega)]; omega
    simp (disch := (first | (simp only [ne_eq,Nat.reduceEqDiff,not_false_eq_true,Nat.reduceLT]; done) | omega | (simp only [yz] <;> omega) | fail)) only [↓yp,yq0,yq1,yq2,yq3,yq4,yl,ys0,ys1,Nat.reduceAdd,Nat.reduceMul,Nat.reduceSub,Nat.reduceBEq,Nat.reduceEqDiff,Nat.reduceLT,Nat.reduceLeDiff,reduceIte,Int.reduceAdd,Int.reduceSub,Int.reduceMul,Int.reduceLT,Int.reduceLE,Int.reduceEq,Int.reduceToNat,Int.reduceNeg,fitB,newC,endD,endR,yrg,g14,g13,g12,g1,fs,A_indexSlice st_esS_22,hc,q]
    refine W_draw [] rfl (by kernel_rfl) (by kernel_rfl) (by (first | omega | (simp only [yz] <;> omega))) ?_
    simp (disch := (first | (simp only [ne_eq,Nat.reduceEqDiff,not_false_eq_true,Nat.reduceLT]; done) | omega | (simp only [yz] <;> omega) | fail)) only [↓yp,yq0,yq1,yq2,yq3,yq4,yl,ys0,ys1,Nat.reduceAdd,Nat.reduceMul,Nat.reduceSub,Nat.reduceBEq,Nat.reduceEqDiff,Nat.reduceLT,Nat.reduceLeDiff,reduceIte,Int.reduceAdd,Int.reduceSub,Int.reduceMul,Int.reduceLT,Int.reduceLE,Int.reduceEq,Int.reduceToNat,Int.reduceNeg,fitB,newC,endD,endR,yrg,g14,g13,g12,g1,fs,A_indexSlice st_esS_22,hc,q,hc',q',neq26,hw2]
    refine ⟨ps.length - (i + 1), by omega, i + 1, rfl, by omega, ?_, ?_, ?_, ?_, ?_⟩
    · simp (disch := (first | (simp only [ne_eq,Nat.reduceEqDiff,not_false_eq_true,Nat.reduceLT]; done) | omega | (simp only [yz] <;> omega) | fail)) only [yg,Nat.reduceAdd,Nat.reduceEqDiff,Nat.reduceLT]
    · simp (disch := (first | (simp only [ne_eq,Nat.reduceEqDiff,not_false_eq_true,Nat.reduceLT]; done) | omega | (simp only [yz] <;> omega) | fail)) only [yg,Nat.reduceAdd,Nat.reduceEqDiff,Nat.reduceLT,g13]
    · simp (disch := (first | (simp only [ne_eq,Nat.reduceEqDiff,not_false_eq_true,Nat.reduceLT]; done) | omega | (simp only [yz] <;> omega) | fail)) only [yg,Nat.reduceAdd,Nat.reduceEqDiff,Nat.reduceLT,g12]
    · simp (disch := (first | (simp only [ne_eq,Nat.reduceEqDiff,not_false_eq_true,Nat.reduceLT]; done) | omega | (simp only [yz] <;> omega) | fail)) only [yg,Nat.reduceAdd,Nat.reduceEqDiff,Nat.reduceLT,g1]
    · exact (fr.allocd _).put (by omega) _
  · simp (disch := (first | (simp only [ne_eq,Nat.reduceEqDiff,not_false_eq_true,Nat.reduceLT]; done) | omega | (simp only [yz] <;> omega) | fail)) only [↓yp,yq0,yq1,yq2,yq3,yq4,yl,ys0,ys1,Nat.reduceAdd,Nat.reduceMul,Nat.reduceSub,Nat.reduceBEq,Nat.reduceEqDiff,Nat.reduceLT,Nat.reduceLeDiff,reduceIte,Int.reduceAdd,Int.reduceSub,Int.reduceMul,Int.reduceLT,Int.reduceLE,Int.reduceEq,Int.reduceToNat,Int.reduceNeg,fitB,newC,endD,endR,yrg]
end
theorem c61 {n lo hi : Int} : acall tabA (aexec tabA Try.prog (N + 20)) 61 [.int .i64 n, .int .i64 lo, .int .i64 hi] H = some (true, .bool (off n lo hi), H, H.size) := by
  refine call_quiet (k := 15) (rs := [.tmp 6]) rfl fn_61 rfl rfl rfl ?_ rfl
  unfold off
  cases hA : decide (n < lo)
  · simp (disch := (first | (simp only [ne_eq,Nat.reduceEqDiff,not_false_eq_true,Nat.reduceLT]; done) | omega | (simp only [yz] <;> omega) | fail)) only [↓yp,yq0,yq1,yq2,yq3,yq4,yl,ys0,ys1,Nat.reduceAdd,Nat.reduceMul,Nat.reduceSub,Nat.reduceBEq,Nat.reduceEqDiff,Nat.reduceLT,Nat.reduceLeDiff,reduceIte,Int.reduceAdd,Int.reduceSub,Int.reduceMul,Int.reduceLT,Int.reduceLE,Int.reduceEq,Int.reduceToNat,Int.reduceNeg,fitB,newC,endD,endR,yrg,hA]
  · simp (disch := (first | (simp only [ne_eq,Nat.reduceEqDiff,not_false_eq_true,Nat.reduceLT]; done) | omega | (simp only [yz] <;> omega) | fail)) only [↓yp,yq0,yq1,yq2,yq3,yq4,yl,ys0,ys1,Nat.reduceAdd,Nat.reduceMul,Nat.reduceSub,Nat.reduceBEq,Nat.reduceEqDiff,Nat.reduceLT,Nat.reduceLeDiff,reduceIte,Int.reduceAdd,Int.reduceSub,Int.reduceMul,Int.reduceLT,Int.reduceLE,Int.reduceEq,Int.reduceToNat,Int.reduceNeg,fitB,newC,endD,endR,yrg,hA]
theorem off_wi {n lo hi : Int} : off n lo hi = !wi n lo hi := by rw [wi_off, Bool.not_not]
set_option maxHeartbeats 2000000 in
/-- CheckTariff of the reference. -/
theorem c16 {a : Option Addr} {cap : Nat} {t : List Stp} (hs : Rw stE H a t) (hl : t.length ≤ 16) : acall tabA (aexec tabA Try.prog (N + 300)) 16 [.slice a t.length cap] H = some (true, .int .i64 (chkT t), H, H.size) := by
  refine call_quiet (k := 46) (rs := [.tmp 2]) rfl fn_16 rfl rfl rfl ?_ rfl
  have h61 := fun (N : Nat) (H : AHeap) (n lo hi : Int) => c61 (N := N) (H := H) (n := n) (lo := lo) (hi := hi)
  unfold chkT
  cases hA : wi t.length 1 4
  · simp (disch := (first | (simp only [ne_eq,Nat.reduceEqDiff,not_false_eq_true,Nat.reduceLT]; done) | omega | (simp only [yz] <;> omega) | fail)) only [↓yp,yq0,yq1,yq2,yq3,yq4,yl,ys0,ys1,Nat.reduceAdd,Nat.reduceMul,Nat.reduceSub,Nat.reduceBEq,Nat.reduceEqDiff,Nat.reduceLT,Nat.reduceLeDiff,reduceIte,Int.reduceAdd,Int.reduceSub,Int.reduceMul,Int.reduceLT,Int.reduceLE,Int.reduceEq,Int.reduceToNat,Int.reduceNeg,fitB,newC,endD,endR,yrg,lenV_slice st_esS_27,h61,off_wi,hA]
  simp (disch := (first | (simp only [ne_eq,Nat.reduceEqDiff,not_false_eq_true,Nat.reduceLT]; done) | omega | (simp only [yz] <;> omega) | fail)) only [↓yp,yq0,yq1,yq2,yq3,yq4,yl,ys0,ys1,Nat.reduceAdd,Nat.reduceMul,Nat.reduceSub,Nat.reduceBEq,Nat.reduceEqDiff,Nat.reduceLT,Nat.reduceLeDiff,reduceIte,Int.reduceAdd,Int.reduceSub,Int.reduceMul,Int.reduceLT,Int.reduceLE,Int.reduceEq,Int.reduceToNat,Int.reduceNeg,fitB,newC,endD,endR,yrg,lenV_slice st_esS_27,h61,off_wi,hA]
  refine W_while (n := 46) 70 (fun k e H' => ∃ i : Nat, k = t.length - i ∧ i ≤ t.length ∧ gt 46 e 3 = .int .i64 (i : Nat) ∧ gt 46 e 0 = .slice a t.length cap ∧ H' = H ∧ ∀ j s, j < i → t[j]? = some s → s.isB = true)
    ?_ 16 t.length ⟨0, by omega, by omega, by simp (disch := (first | (simp only [ne_eq,Nat.reduceEqDiff,not_false_eq_true,Nat.reduceLT]; done) | omega | (simp only [yz] <;> omega) | fail)) only [yg,Nat.reduceAdd,Nat.reduceEqDiff,Nat.reduceLT]; rfl, by simp (disch := (first | (simp only [ne_eq,Nat.reduceEqDiff,not_false_eq_true,Nat.reduceLT]; done) | omega | (simp only [yz] <;> omega) | fail)) only [yg,Nat.reduceAdd,Nat.reduceEqDiff,Nat.reduceLT], rfl, fun j s hj => by omega⟩ (by omega) (by omega)
  rintro M k e H' ⟨i, rfl, hi, g3, g0, rfl, hj⟩
  simp (disch := (first | (simp only [ne_eq,Nat.reduceEqDiff,not_false_eq_true,Nat.reduceLT]; done) | omega | (simp only [yz] <;> omega) | fail)) only [↓yp,yq0,yq1,yq2,yq3,yq4,yl,ys0,ys1,Nat.reduceAdd,Nat.reduceMul,Nat.reduceSub,Nat.reduceBEq,Nat.reduceEqDiff,Nat.reduceLT,Nat.reduceLeDiff,reduceIte,Int.reduceAdd,Int.reduceSub,Int.reduceMul,Int.reduceLT,Int.reduceLE,Int.reduceEq,Int.reduceToNat,Int.reduceNeg,fitB,newC,endD,endR,yrg,g3,g0,lenV_slice st_esS_27]
  refine ⟨fun hlt => ?_, fun hlt => ?_⟩
  · have hi' : i < t.length := by simpa using hlt
    obtain ⟨x, hx⟩ : ∃ x, t[i]? = some x := ⟨t[i], by simp [hi']⟩
    obtain ⟨b, o, c, rfl, hb, hc, hq⟩ := hs.at_ hx
    obtain ⟨x0, x1⟩ := two_cells (u := .int .i64 x.u) (v := .int .i64 x.p) hq
    rw [show stE.z = 2 from rfl] at x0 x1
    have no : x.isB = false → t.all Stp.isB = false := fun h => List.all_eq_false.2 ⟨x, List.mem_of_getElem? hx, by rw [h]; simp⟩
    cases hB : wi x.u 1 20000
    · have hn := no (by unfold Stp.isB; rw [hB]; rfl)
      simp (disch := (first | (simp only [ne_eq,Nat.reduceEqDiff,not_false_eq_true,Nat.reduceLT]; done) | omega | (simp only [yz] <;> omega) | fail)) only [↓yp,yq0,yq1,yq2,yq3,yq4,yl,ys0,ys1,Nat.reduceAdd,Nat.reduceMul,Nat.reduceSub,Nat.reduceBEq,Nat.reduceEqDiff,Nat.reduceLT,Nat.reduceLeDiff,reduceIte,Int.reduceAdd,Int.reduceSub,Int.reduceMul,Int.reduceLT,Int.reduceLE,Int.reduceEq,Int.reduceToNat,Int.reduceNeg,fitB,newC,endD,endR,yrg,g3,g0,A_indexSlice st_esS_27,hc,x0,x1,h61,off_wi,hB,hn]
    cases hC : wi x.p 0 500
    · have hn := no (by unfold Stp.isB; rw [hB, hC]; rfl)
      simp (disch := (first | (simp only [ne_eq,Nat.reduceEqDiff,not_false_eq_true,Nat.reduceLT]; done) | omega | (simp only [yz] <;> omega) | fail)) only [↓yp,yq0,yq1,yq2,yq3,yq4,yl,ys0,ys1,Nat.reduceAdd,Nat.reduceMul,Nat.reduceSub,Nat.reduceBEq,Nat.reduceEqDiff,Nat.reduceLT,Nat.reduceLeDiff,reduceIte,Int.reduceAdd,Int.reduceSub,Int.reduceMul,Int.reduceLT,Int.reduceLE,Int.reduceEq,Int.reduceToNat,Int.reduceNeg,fitB,newC,endD,endR,yrg,g3,g0,A_indexSlice st_esS_27,hc,x0,x1,h61,off_wi,hB,hC,hn]
    have hw2 : w64 ((i : Int) + 1) = ((i + 1 : Nat) : Int) := by rw [w64_of (by omega)]; omega
    simp (disch := (first | (simp only [ne_eq,Nat.reduceEqDiff,not_false_eq_true,Nat.reduceLT]; done) | omega | (simp only [yz] <;> omega) | fail)) only [↓yp,yq0,yq1,yq2,yq3,yq4,yl,ys0,ys1,Nat.reduceAdd,Nat.reduceMul,Nat.reduceSub,Nat.reduceBEq,Nat.reduceEqDiff,Nat.reduceLT,Nat.reduceLeDiff,reduceIte,Int.reduceAdd,Int.reduceSub,Int.reduceMul,Int.reduceLT,Int.reduceLE,Int.reduceEq,Int.reduceToNat,Int.reduceNeg,fitB,newC,endD,endR,yrg,g3,g0,A_indexSlice st_esS_27,hc,x0,x1,h61,off_wi,hB,hC,hw2]
    refine ⟨t.length - (i + 1), by omega, i + 1, rfl, by omega, ?_, ?_, rfl, ?_⟩
    · simp (disch := (first | (simp only [ne_eq,Nat.reduceEqDiff,not_false_eq_true,Nat.reduceLT]; done) | omega | (simp only [yz] <;> omega) | fail)) only [yg,Nat.reduceAdd,Nat.reduceEqDiff,Nat.reduceLT]
    · simp (disch := (first | (simp only [ne_eq,Nat.reduceEqDiff,not_false_eq_true,Nat.reduceLT]; done) | omega | (simp only [yz] <;> omega) | fail)) only [yg,Nat.reduceAdd,Nat.reduceEqDiff,Nat.reduceLT,g0]
    · intro j y hj' hy
      by_cases e : j = i
      · subst e; rw [hx] at hy; cases hy; unfold Stp.isB; rw [hB, hC]; rfl
      · exact hj j y (by omega) hy
  have hi' : ¬ i < t.length := by simpa using hlt
  have hall : t.all Stp.isB = true := by
    rw [List.all_eq_true]
    intro s hs'
    obtain ⟨j, hj'⟩ := List.getElem?_of_mem hs'
    have := (List.getElem?_eq_some_iff.1 hj').1
    exact hj j s (by omega) hj'
  simp (disch := (first | (simp only [ne_eq,Nat.reduceEqDiff,not_false_eq_true,Nat.reduceLT]; done) | omega | (simp only [yz] <;> omega) | fail)) only [↓yp,yq0,yq1,yq2,yq3,yq4,yl,ys0,ys1,Nat.reduceAdd,Nat.reduceMul,Nat.reduceSub,Nat.reduceBEq,Nat.reduceEqDiff,Nat.reduceLT,Nat.reduceLeDiff,reduceIte,Int.reduceAdd,Int.reduceSub,Int.reduceMul,Int.reduceLT,Int.reduceLE,Int.reduceEq,Int.reduceToNat,Int.reduceNeg,fitB,newC,endD,endR,yrg,hall]
  refine W_while (n := 46) 70 (fun k e H'' => ∃ i : Nat, k = t.length + 1 - i ∧ 1 ≤ i ∧ i ≤ t.length + 1 ∧ gt 46 e 4 = .int .i64 (i : Nat) ∧ gt 46 e 0 = .slice a t.length cap ∧ H'' = H' ∧ ∀ j x y, j + 1 < i → t[j]? = some x → t[j + 1]? = some y → x.u < y.u)
    ?_ 17 t.length ⟨1, by omega, by omega, by omega, by simp (disch := (first | (simp only [ne_eq,Nat.reduceEqDiff,not_false_eq_true,Nat.reduceLT]; done) | omega | (simp only [yz] <;> omega) | fail)) only [yg,Nat.reduceAdd,Nat.reduceEqDiff,Nat.reduceLT]; rfl, by simp (disch := (first | (simp only [ne_eq,Nat.reduceEqDiff,not_false_eq_true,Nat.reduceLT]; done) | omega | (simp only [yz] <;> omega) | fail)) only [yg,Nat.reduceAdd,Nat.reduceEqDiff,Nat.reduceLT,g0], rfl, fun j x y hj => by omega⟩ (by omega) (by omega)
  clear hj g3 g0
  rintro M k e H'' ⟨i, rfl, h1i, hi, g4, g0, rfl, hj⟩
  simp (disch := (first | (simp only [ne_eq,Nat.reduceEqDiff,not_false_eq_true,Nat.reduceLT]; done) | omega | (simp only [yz] <;> omega) | fail)) only [↓yp,yq0,yq1,yq2,yq3,yq4,yl,ys0,ys1,Nat.reduceAdd,Nat.reduceMul,Nat.reduceSub,Nat.reduceBEq,Nat.reduceEqDiff,Nat.reduceLT,Nat.reduceLeDiff,reduceIte,Int.reduceAdd,Int.reduceSub,Int.reduceMul,Int.reduceLT,Int.reduceLE,Int.reduceEq,Int.reduceToNat,Int.reduceNeg,fitB,newC,endD,endR,yrg,g4,g0,lenV_slice st_esS_27]
  refine ⟨fun hT => ?_, fun hT => ?_⟩
  · have hi' : i < t.length := by simpa using hT
    obtain ⟨j, rfl⟩ : ∃ j, i = j + 1 := ⟨i - 1, by omega⟩
    obtain ⟨x, hx⟩ : ∃ x, t[j]? = some x := ⟨t[j], by simp [show j < t.length by omega]⟩
    obtain ⟨y, hy⟩ : ∃ y, t[j + 1]? = some y := ⟨t[j + 1], by simp [hi']⟩
    obtain ⟨b, o, c, rfl, hb, hc, hq⟩ := hs.get (fun h => by rw [h] at hx; simp at hx)
    obtain ⟨b1, o1, c1, e1, -, hc1, hq1⟩ := hs.at_ hx
    cases e1
    obtain ⟨b2, o2, c2, e2, -, hc2, hq2⟩ := hs.at_ hy
    cases e2
    rw [hc] at hc1 hc2
    cases hc1
    cases hc2
    obtain ⟨x0, x1⟩ := two_cells (u := .int .i64 x.u) (v := .int .i64 x.p) hq1
    obtain ⟨y0, y1⟩ := two_cells (u := .int .i64 y.u) (v := .int .i64 y.p) hq2
    rw [show stE.z = 2 from rfl] at x0 x1 y0 y1
    have w1 : w64 (((j + 1 : Nat) : Int) - 1) = (j : Int) := by rw [w64_of (by omega)]; omega
    have w2 : w64 (((j + 1 : Nat) : Int) + 1) = ((j + 1 + 1 : Nat) : Int) := by rw [w64_of (by omega)]; omega
    simp (disch := (first | (simp only [ne_eq,Nat.reduceEqDiff,not_false_eq_true,Nat.reduceLT]; done) | omega | (simp only [yz] <;> omega) | fail)) only [↓yp,yq0,yq1,yq2,yq3,yq4,yl,ys0,ys1,Nat.reduceAdd,Nat.reduceMul,Nat.reduceSub,Nat.reduceBEq,Nat.reduceEqDiff,Nat.reduceLT,Nat.reduceLeDiff,reduceIte,Int.reduceAdd,Int.reduceSub,Int.reduceMul,Int.reduceLT,Int.reduceLE,Int.reduceEq,Int.reduceToNat,Int.reduceNeg,fitB,newC,endD,endR,yrg,g4,g0]
    refine W_draw [] rfl (by kernel_rfl) (by kernel_rfl) (by (first | omega | (simp only [yz] <;> omega))) ?_
    cases hB : decide (y.u ≤ x.u)
    · have h1 := of_decide_eq_false hB
      simp (disch := (first | (simp only [ne_eq,Nat.reduceEqDiff,not_false_eq_true,Nat.reduceLT]; done) | omega | (simp only [yz] <;> omega) | fail)) only [↓yp,yq0,yq1,yq2,yq3,yq4,yl,ys0,ys1,Nat.reduceAdd,Nat.reduceMul,Nat.reduceSub,Nat.reduceBEq,Nat.reduceEqDiff,Nat.reduceLT,Nat.reduceLeDiff,reduceIte,Int.reduceAdd,Int.reduceSub,Int.reduceMul,Int.reduceLT,Int.reduceLE,Int.reduceEq,Int.reduceToNat,Int.reduceNeg,fitB,newC,endD,endR,yrg,g4,g0,A_indexSlice st_esS_27,hc,x0,x1,y0,y1,w1,w2,hB]
      refine ⟨t.length + 1 - (j + 1 + 1), by omega, j + 1 + 1, rfl, by omega, by omega, ?_, ?_, rfl, ?_⟩
      · simp (disch := (first | (simp only [ne_eq,Nat.reduceEqDiff,not_false_eq_true,Nat.reduceLT]; done) | omega | (simp only [yz] <;> omega) | fail)) only [yg,Nat.reduceAdd,Nat.reduceEqDiff,Nat.reduceLT]
      · simp (disch := (first | (simp only [ne_eq,Nat.reduceEqDiff,not_false_eq_true,Nat.reduceLT]; done) | omega | (simp only [yz] <;> omega) | fail)) only [yg,Nat.reduceAdd,Nat.reduceEqDiff,Nat.reduceLT,g0]
      · intro j' x' y' hj' hx' hy'
        by_cases e : j' = j
        · subst e; rw [hx] at hx'; rw [hy] at hy'; cases hx'; cases hy'; omega
        · exact hj j' x' y' (by omega) hx' hy'
    · have h2 := of_decide_eq_true hB
      have hn : riseB t = false := by
        cases ho : riseB t with
        | false => rfl
        | true => have := riseB_at.1 ho j x y hx hy; omega
      simp (disch := (first | (simp only [ne_eq,Nat.reduceEqDiff,not_false_eq_true,Nat.reduceLT]; done) | omega | (simp only [yz] <;> omega) | fail)) only [↓yp,yq0,yq1,yq2,yq3,yq4,yl,ys0,ys1,Nat.reduceAdd,Nat.reduceMul,Nat.reduceSub,Nat.reduceBEq,Nat.reduceEqDiff,Nat.reduceLT,Nat.reduceLeDiff,reduceIte,Int.reduceAdd,Int.reduceSub,Int.reduceMul,Int.reduceLT,Int.reduceLE,Int.reduceEq,Int.reduceToNat,Int.reduceNeg,fitB,newC,endD,endR,yrg,g4,g0,A_indexSlice st_esS_27,hc,x0,x1,y0,y1,w1,w2,hB,hn,hA,hall]
  · have hi' : ¬ i < t.length := by simpa using hT
    have : riseB t = true := riseB_at.2 fun j x y hx hy => hj j x y (by have := (List.getElem?_eq_some_iff.1 hy).1; omega) hx hy
    simp (disch := (first | (simp only [ne_eq,Nat.reduceEqDiff,not_false_eq_true,Nat.reduceLT]; done) | omega | (simp only [yz] <;> omega) | fail)) only [↓yp,yq0,yq1,yq2,yq3,yq4,yl,ys0,ys1,Nat.reduceAdd,Nat.reduceMul,Nat.reduceSub,Nat.reduceBEq,Nat.reduceEqDiff,Nat.reduceLT,Nat.reduceLeDiff,reduceIte,Int.reduceAdd,Int.reduceSub,Int.reduceMul,Int.reduceLT,Int.reduceLE,Int.reduceEq,Int.reduceToNat,Int.reduceNeg,fitB,newC,endD,endR,yrg,this,hA,hall]
theorem rate_at : ∀ {t : List Stp} {i : Nat} {s : Stp} {m : Int}, t[i]? = some s → m ≤ s.u → (∀ j x, j < i → t[j]? = some x → x.u < m) → rate t m = s.p
  | [], i, s, m, h, _, _ => by simp at h
  | [x], 0, s, m, h, _, _ => by simp at h; subst h; rfl
  | [x], i + 1, s, m, h, _, _ => by simp at h
  | x :: y :: t, 0, s, m, h, hm, _ => by
    simp at h
    subst h
    show (if m ≤ x.u then x.p else rate (y :: t) m) = x.p
    rw [if_pos hm]
  | x :: y :: t, i + 1, s, m, h, hm, hj => by
    show (if m ≤ x.u then x.p else rate (y :: t) m) = s.p
    have := hj 0 x (by omega) rfl
    rw [if_neg (by omega)]
    exact rate_at (by simpa using h) hm fun j z hz hj' => hj (j + 1) z (by omega) (by simpa using hj')
theorem rate_end : ∀ {t : List Stp} {l : Stp} {m : Int}, t[t.length - 1]? = some l → (∀ x ∈ t, x.u < m) → rate t m = l.p
  | [], l, m, h, _ => by simp at h
  | [x], l, m, h, _ => by simp at h; subst h; rfl
  | x :: y :: t, l, m, h, hj => by
    show (if m ≤ x.u then x.p else rate (y :: t) m) = l.p
    have := hj x (by simp)
    rw [if_neg (by omega)]
    exact rate_end (by simpa using h) fun z hz => hj z (List.mem_cons_of_mem _ hz)
/-- rate. -/
theorem c63 {a : Option Addr} {cap : Nat} {t : List Stp} {m : Int} (hs : Rw stE H a t) (h0 : 1 ≤ t.length) (hl : t.length ≤ 16) : acall tabA (aexec tabA Try.prog (N + 150)) 63 [.slice a t.length cap, .int .i64 m] H = some (true, .int .i64 (rate t m), H, H.size) := by
  refine call_quiet (k := 31) (rs := [.tmp 4]) rfl fn_63 rfl rfl rfl ?_ rfl
  simp (disch := (first | (simp only [ne_eq,Nat.reduceEqDiff,not_false_eq_true,Nat.reduceLT]; done) | omega | (simp only [yz] <;> omega) | fail)) only [↓yp,yq0,yq1,yq2,yq3,yq4,yl,ys0,ys1,Nat.reduceAdd,Nat.reduceMul,Nat.reduceSub,Nat.reduceBEq,Nat.reduceEqDiff,Nat.reduceLT,Nat.reduceLeDiff,reduceIte,Int.reduceAdd,Int.reduceSub,Int.reduceMul,Int.reduceLT,Int.reduceLE,Int.reduceEq,Int.reduceToNat,Int.reduceNeg,fitB,newC,endD,endR,yrg,lenV_slice st_esS_27]
  refine W_while (n := 31) 70 (fun k e H' => ∃ i : Nat, k = t.length - i ∧ i ≤ t.length ∧ gt 31 e 5 = .int .i64 (i : Nat) ∧ gt 31 e 0 = .slice a t.length cap ∧ gt 31 e 1 = .int .i64 m ∧ H' = H ∧ ∀ j x, j < i → t[j]? = some x → x.u < m)
    ?_ 16 t.length ⟨0, by omega, by omega, by simp (disch := (first | (simp only [ne_eq,Nat.reduceEqDiff,not_false_eq_true,Nat.reduceLT]; done) | omega | (simp only [yz] <;> omega) | fail)) only [yg,Nat.reduceAdd,Nat.reduceEqDiff,Nat.reduceLT]; rfl, by simp (disch := (first | (simp only [ne_eq,Nat.reduceEqDiff,not_false_eq_true,Nat.reduceLT]; done) | omega | (simp only [yz] <;> omega) | fail)) only [yg,Nat.reduceAdd,Nat.reduceEqDiff,Nat.reduceLT], by simp (disch := (first | (simp only [ne_eq,Nat.reduceEqDiff,not_false_eq_true,Nat.reduceLT]; done) | omega | (simp only [yz] <;> omega) | fail)) only [yg,Nat.reduceAdd,Nat.reduceEqDiff,Nat.reduceLT], rfl, fun j s hj => by omega⟩ (by omega) (by omega)
  rintro M k e H' ⟨i, rfl, hi, g5, g0, g1, rfl, hj⟩
  simp (disch := (first | (simp only [ne_eq,Nat.reduceEqDiff,not_false_eq_true,Nat.reduceLT]; done) | omega | (simp only [yz] <;> omega) | fail)) only [↓yp,yq0,yq1,yq2,yq3,yq4,yl,ys0,ys1,Nat.reduceAdd,Nat.reduceMul,Nat.reduceSub,Nat.reduceBEq,Nat.reduceEqDiff,Nat.reduceLT,Nat.reduceLeDiff,reduceIte,Int.reduceAdd,Int.reduceSub,Int.reduceMul,Int.reduceLT,Int.reduceLE,Int.reduceEq,Int.reduceToNat,Int.reduceNeg,fitB,newC,endD,endR,yrg,g5,g0,g1,lenV_slice st_esS_27]
  refine ⟨fun hlt => ?_, fun hlt => ?_⟩
  · have hi' : i < t.length := by simpa using hlt
    obtain ⟨x, hx⟩ : ∃ x, t[i]? = some x := ⟨t[i], by simp [hi']⟩
    obtain ⟨b, o, c, rfl, hb, hc, hq⟩ := hs.at_ hx
    obtain ⟨x0, x1⟩ := two_cells (u := .int .i64 x.u) (v := .int .i64 x.p) hq
    rw [show stE.z = 2 from rfl] at x0 x1
    cases hB : decide (m ≤ x.u)
    · have h1 := of_decide_eq_false hB
      have hw2 : w64 ((i : Int) + 1) = ((i + 1 : Nat) : Int) := by rw [w64_of (by omega)]; omega
      simp (disch := (first | (simp only [ne_eq,Nat.reduceEqDiff,not_false_eq_true,Nat.reduceLT]; done) | omega | (simp only [yz] <;> omega) | fail)) only [↓yp,yq0,yq1,yq2,yq3,yq4,yl,ys0,ys1,Nat.reduceAdd,Nat.reduceMul,Nat.reduceSub,Nat.reduceBEq,Nat.reduceEqDiff,Nat.reduceLT,Nat.reduceLeDiff,reduceIte,Int.reduceAdd,Int.reduceSub,Int.reduceMul,Int.reduceLT,Int.reduceLE,Int.reduceEq,Int.reduceToNat,Int.reduceNeg,fitB,newC,endD,endR,yrg,g5,g0,g1,A_indexSlice st_esS_27,hc,x0,x1,hB,hw2]
      refine ⟨t.length - (i + 1), by omega, i + 1, rfl, by omega, ?_, ?_, ?_, rfl, ?_⟩
      · simp (disch := (first | (simp only [ne_eq,Nat.reduceEqDiff,not_false_eq_true,Nat.reduceLT]; done) | omega | (simp only [yz] <;> omega) | fail)) only [yg,Nat.reduceAdd,Nat.reduceEqDiff,Nat.reduceLT]
      · simp (disch := (first | (simp only [ne_eq,Nat.reduceEqDiff,not_false_eq_true,Nat.reduceLT]; done) | omega | (simp only [yz] <;> omega) | fail)) only [yg,Nat.reduceAdd,Nat.reduceEqDiff,Nat.reduceLT,g0]
      · simp (disch := (first | (simp only [ne_eq,Nat.reduceEqDiff,not_false_eq_true,Nat.reduceLT]; done) | omega | (simp only [yz] <;> omega) | fail)) only [yg,Nat.reduceAdd,Nat.reduceEqDiff,Nat.reduceLT,g1]
      · intro j y hj' hy
        by_cases e : j = i
        · subst e; rw [hx] at hy; cases hy; omega
        · exact hj j y (by omega) hy
    · have hr := rate_at hx (of_decide_eq_true hB) hj
      simp (disch := (first | (simp only [ne_eq,Nat.reduceEqDiff,not_false_eq_true,Nat.reduceLT]; done) | omega | (simp only [yz] <;> omega) | fail)) only [↓yp,yq0,yq1,yq2,yq3,yq4,yl,ys0,ys1,Nat.reduceAdd,Nat.reduceMul,Nat.reduceSub,Nat.reduceBEq,Nat.reduceEqDiff,Nat.reduceLT,Nat.reduceLeDiff,reduceIte,Int.reduceAdd,Int.reduceSub,Int.reduceMul,Int.reduceLT,Int.reduceLE,Int.reduceEq,Int.reduceToNat,Int.reduceNeg,fitB,newC,endD,endR,yrg,g5,g0,g1,A_indexSlice st_esS_27,hc,x0,x1,hB,hr]
  · have hie : i = t.length := by have := of_decide_eq_false hlt; omega
    subst hie
    obtain ⟨l, hlast⟩ : ∃ s, t[t.length - 1]? = some s := ⟨t[t.length - 1]'(by omega), by simp⟩
    obtain ⟨b, o, c, rfl, hb, hc, hq⟩ := hs.at_ hlast
    obtain ⟨x0, x1⟩ := two_cells (u := .int .i64 l.u) (v := .int .i64 l.p) hq
    rw [show stE.z = 2 from rfl] at x0 x1
    have w7 : w64 ((t.length : Int) - 1) = ((t.length - 1 : Nat) : Int) := by rw [w64_of (by omega)]; omega
    have hr := rate_end hlast fun x hx => by
      obtain ⟨j, hj'⟩ := List.getElem?_of_mem hx
      exact hj j x (List.getElem?_eq_some_iff.1 hj').1 hj'
    simp (disch := (first | (simp only [ne_eq,Nat.reduceEqDiff,not_false_eq_true,Nat.reduceLT]; done) | omega | (simp only [yz] <;> omega) | fail)) only [↓yp,yq0,yq1,yq2,yq3,yq4,yl,ys0,ys1,Nat.reduceAdd,Nat.reduceMul,Nat.reduceSub,Nat.reduceBEq,Nat.reduceEqDiff,Nat.reduceLT,Nat.reduceLeDiff,reduceIte,Int.reduceAdd,Int.reduceSub,Int.reduceMul,Int.reduceLT,Int.reduceLE,Int.reduceEq,Int.reduceToNat,Int.reduceNeg,fitB,newC,endD,endR,yrg,g0,lenV_slice st_esS_27,w7,A_indexSlice st_esS_27,hc,x0,x1,hr]
/-- up. -/
theorem c64 {n : Int} (hn : 0 ≤ n ∧ n ≤ 100000000000000) : acall tabA (aexec tabA Try.prog (N + 30)) 64 [.int .i64 n] H = some (true, .int .i64 (whl n), H, H.size) := by
  refine call_quiet (k := 11) (rs := [.tmp 2]) rfl fn_64 rfl rfl rfl ?_ rfl
  have hrem := fun (x y : Operand) => i64_rem (T := tabA) (P := Try.prog) (ty := 3) (x := x) (y := y) (a := n) (b := 100) (by omega)
  have e1 : n.tmod 100 = n % 100 := Int.tmod_eq_emod_of_nonneg hn.1
  have e2 : n.tdiv 100 = n / 100 := Int.tdiv_eq_ediv_of_nonneg hn.1
  have w1 : w64 (n / 100) = n / 100 := w64_of (by omega)
  have w2 : w64 (n / 100 + 1) = n / 100 + 1 := w64_of (by omega)
  rw [whl_eq hn.1]
  cases hA : decide (n % 100 = 0)
  · have hA' := of_decide_eq_false hA
    have e3 : (n + 99) / 100 = n / 100 + 1 := by omega
    simp (disch := (first | (simp only [ne_eq,Nat.reduceEqDiff,not_false_eq_true,Nat.reduceLT]; done) | omega | (simp only [yz] <;> omega) | fail)) only [↓yp,yq0,yq1,yq2,yq3,yq4,yl,ys0,ys1,Nat.reduceAdd,Nat.reduceMul,Nat.reduceSub,Nat.reduceBEq,Nat.reduceEqDiff,Nat.reduceLT,Nat.reduceLeDiff,reduceIte,Int.reduceAdd,Int.reduceSub,Int.reduceMul,Int.reduceLT,Int.reduceLE,Int.reduceEq,Int.reduceToNat,Int.reduceNeg,fitB,newC,endD,endR,yrg,hrem,e1,e2,hA,i64_quo (b := 100) (by omega),w1,w2,e3]
  · have hA' := of_decide_eq_true hA
    have e3 : (n + 99) / 100 = n / 100 := by omega
    simp (disch := (first | (simp only [ne_eq,Nat.reduceEqDiff,not_false_eq_true,Nat.reduceLT]; done) | omega | (simp only [yz] <;> omega) | fail)) only [↓yp,yq0,yq1,yq2,yq3,yq4,yl,ys0,ys1,Nat.reduceAdd,Nat.reduceMul,Nat.reduceSub,Nat.reduceBEq,Nat.reduceEqDiff,Nat.reduceLT,Nat.reduceLeDiff,reduceIte,Int.reduceAdd,Int.reduceSub,Int.reduceMul,Int.reduceLT,Int.reduceLE,Int.reduceEq,Int.reduceToNat,Int.reduceNeg,fitB,newC,endD,endR,yrg,hrem,e1,e2,hA,i64_quo (b := 100) (by omega),w1,e3]
end Go.Am
