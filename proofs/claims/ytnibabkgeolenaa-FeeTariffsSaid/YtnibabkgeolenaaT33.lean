/- Cost, Pounds. -/
import Derived.Test.YtnibabkgeolenaaT32
set_option linter.unusedSimpArgs false
set_option linter.unusedVariables false
namespace Go.Am
open Go.Proofs
variable {T : Tab} {P : Program} {N L : Nat} {H H' H'' : AHeap} {Q : Bool → Value → AHeap → Prop}
section
variable {a : Option Addr} {cap : Nat} {t : List Stp} {n p : Int}
theorem c17e (hs : Rw stE H a t) (hl : t.length ≤ 16) (h : chkT t ≠ 0) : acall tabA (aexec tabA Try.prog (N + 500)) 17 [.slice a t.length cap, .int .i64 n] H = some (true, .tuple ⟨[.int .i64 0, .int .i64 (chkT t)]⟩, H, H.size) := by
  refine call_quiet (k := 18) (rs := [.tmp 4, .tmp 5]) rfl fn_17 rfl rfl rfl ?_ rfl
  have h15 := fun (N : Nat) => c15 (N := N) (cap := cap) hs hl
  have hne : decide (chkT t = 0) = false := by simpa using h
  simp (disch := (first | (simp only [ne_eq,Nat.reduceEqDiff,not_false_eq_true,Nat.reduceLT]; done) | omega | (simp only [yz] <;> omega) | fail)) only [↓yp,yq0,yq1,yq2,yq3,yq4,yl,ys0,ys1,Nat.reduceAdd,Nat.reduceMul,Nat.reduceSub,Nat.reduceBEq,Nat.reduceEqDiff,Nat.reduceLT,Nat.reduceLeDiff,reduceIte,Int.reduceAdd,Int.reduceSub,Int.reduceMul,Int.reduceLT,Int.reduceLE,Int.reduceEq,Int.reduceToNat,Int.reduceNeg,fitB,newC,endD,endR,yrg,h15,hne]
theorem c17r (hs : Rw stE H a t) (ht : TarOk t) (hn : wi n 0 20000 = false) : acall tabA (aexec tabA Try.prog (N + 500)) 17 [.slice a t.length cap, .int .i64 n] H = some (true, .tuple ⟨[.int .i64 0, .int .i64 4]⟩, H, H.size) := by
  refine call_quiet (k := 18) (rs := [.tmp 4, .tmp 5]) rfl fn_17 rfl rfl rfl ?_ rfl
  have h15 := fun (N : Nat) => c15 (N := N) (cap := cap) hs (by have := ht.len; omega)
  rw [ht.chk] at h15
  have h57 := fun (N : Nat) (H : AHeap) => c57 (N := N) (H := H) (n := n) (lo := 0) (hi := 20000)
  rw [hn] at h57
  have hne : decide ((0 : Int) = 0) = true := by simp
  simp (disch := (first | (simp only [ne_eq,Nat.reduceEqDiff,not_false_eq_true,Nat.reduceLT]; done) | omega | (simp only [yz] <;> omega) | fail)) only [↓yp,yq0,yq1,yq2,yq3,yq4,yl,ys0,ys1,Nat.reduceAdd,Nat.reduceMul,Nat.reduceSub,Nat.reduceBEq,Nat.reduceEqDiff,Nat.reduceLT,Nat.reduceLeDiff,reduceIte,Int.reduceAdd,Int.reduceSub,Int.reduceMul,Int.reduceLT,Int.reduceLE,Int.reduceEq,Int.reduceToNat,Int.reduceNeg,fitB,newC,endD,endR,yrg,h15,h57,hne]
theorem c17 (hs : Rw stE H a t) (ht : TarOk t) (hn : 0 ≤ n ∧ n ≤ 20000) : acall tabA (aexec tabA Try.prog (N + 500)) 17 [.slice a t.length cap, .int .i64 n] H = some (true, .tuple ⟨[.int .i64 (whl (cts t n)), .int .i64 0]⟩, H, H.size) := by
  refine call_quiet (k := 18) (rs := [.tmp 4, .tmp 5]) rfl fn_17 rfl rfl rfl ?_ rfl
  have h15 := fun (N : Nat) => c15 (N := N) (cap := cap) hs (by have := ht.len; omega)
  rw [ht.chk] at h15
  have h57 := fun (N : Nat) (H : AHeap) => c57 (N := N) (H := H) (n := n) (lo := 0) (hi := 20000)
  rw [show wi n 0 20000 = true by unfold wi; simp; omega] at h57
  have h62 := fun (N : Nat) => c62 (N := N) (cap := cap) (n := n) hs ht (by omega)
  have hne : decide ((0 : Int) = 0) = true := by simp
  simp (disch := (first | (simp only [ne_eq,Nat.reduceEqDiff,not_false_eq_true,Nat.reduceLT]; done) | omega | (simp only [yz] <;> omega) | fail)) only [↓yp,yq0,yq1,yq2,yq3,yq4,yl,ys0,ys1,Nat.reduceAdd,Nat.reduceMul,Nat.reduceSub,Nat.reduceBEq,Nat.reduceEqDiff,Nat.reduceLT,Nat.reduceLeDiff,reduceIte,Int.reduceAdd,Int.reduceSub,Int.reduceMul,Int.reduceLT,Int.reduceLE,Int.reduceEq,Int.reduceToNat,Int.reduceNeg,fitB,newC,endD,endR,yrg,h15,h57,h62,hne]
theorem c106 {b2 b3 : Nat} (hs : Rw stE H a t) (ht : TarOk t) (hn : 0 ≤ n ∧ n ≤ 20000) (h2 : H.get b2 = .rw [.slice a t.length cap] 22 false []) (h3 : H.get b3 = .rw [.int .i64 p] 3 false []) :
    acall tabA (aexec tabA Try.prog (N + 500)) 106 [.int .i64 n, .pointer (some ⟨b2, 0, none⟩), .pointer (some ⟨b3, 0, none⟩)] H = some (true, .bool (decide (p < whl (cts t (n + 1)))), H, H.size) := by
  refine call_quiet (k := 11) (rs := [.tmp 4]) rfl fn_106 rfl rfl rfl ?_ rfl
  have h62 := fun (N : Nat) => c62 (N := N) (cap := cap) (n := n + 1) hs ht (by omega)
  have w1 : w64 (n + 1) = n + 1 := w64_of (by omega)
  simp (disch := (first | (simp only [ne_eq,Nat.reduceEqDiff,not_false_eq_true,Nat.reduceLT]; done) | omega | (simp only [yz] <;> omega) | fail)) only [↓yp,yq0,yq1,yq2,yq3,yq4,yl,ys0,ys1,Nat.reduceAdd,Nat.reduceMul,Nat.reduceSub,Nat.reduceBEq,Nat.reduceEqDiff,Nat.reduceLT,Nat.reduceLeDiff,reduceIte,Int.reduceAdd,Int.reduceSub,Int.reduceMul,Int.reduceLT,Int.reduceLE,Int.reduceEq,Int.reduceToNat,Int.reduceNeg,fitB,newC,endD,endR,yrg]
  refine W_draw [] rfl (by kernel_rfl) (by kernel_rfl) (by (first | omega | (simp only [yz] <;> omega))) ?_
  simp (disch := (first | (simp only [ne_eq,Nat.reduceEqDiff,not_false_eq_true,Nat.reduceLT]; done) | omega | (simp only [yz] <;> omega) | fail)) only [↓yp,yq0,yq1,yq2,yq3,yq4,yl,ys0,ys1,Nat.reduceAdd,Nat.reduceMul,Nat.reduceSub,Nat.reduceBEq,Nat.reduceEqDiff,Nat.reduceLT,Nat.reduceLeDiff,reduceIte,Int.reduceAdd,Int.reduceSub,Int.reduceMul,Int.reduceLT,Int.reduceLE,Int.reduceEq,Int.reduceToNat,Int.reduceNeg,fitB,newC,endD,endR,yrg,h2,h3,w1,h62]
theorem u64_shr1 {ty : TypeId} {x y : Operand} {a : Int} : binV T P .shr ty x y (.int .u64 a) (.int .u64 1) = some (.int .u64 (a.fdiv 2)) := nr rfl
theorem st_cvS_3_144 : cvS tabA 3 144 = some .u64 := by kernel_rfl
theorem st_cvS_144_3 : cvS tabA 144 3 = some .i64 := by kernel_rfl
theorem cv_3_144 {k' : IntKind} {n : Int} : cvV tabA P H 3 144 (.int k' n) = some (.int .u64 (u64w n)) := cvV_int st_cvS_3_144
theorem cv_144_3 {k' : IntKind} {n : Int} : cvV tabA P H 144 3 (.int k' n) = some (.int .i64 (w64 n)) := cvV_int st_cvS_144_3
/-- Search, plainly. -/
def srN (p : Nat → Bool) : Nat → Nat → Nat → Nat
  | 0, i, _ => i
  | f + 1, i, j => if i < j then (if p ((i + j) / 2) then srN p f i ((i + j) / 2) else srN p f ((i + j) / 2 + 1) j) else i
theorem srN_ge {p : Nat → Bool} {f i j : Nat} (h : j ≤ i) : srN p f i j = i := by
  cases f with
  | zero => rfl
  | succ f => rw [srN, if_neg (by omega)]
theorem srN_ok {p : Nat → Bool} {n : Nat} : ∀ {f i j : Nat}, i ≤ j → j ≤ n → j ≤ i + f → (0 < i → p (i - 1) = false) → (j < n → p j = true) → srN p f i j ≤ n ∧ (0 < srN p f i j → p (srN p f i j - 1) = false) ∧ (srN p f i j < n → p (srN p f i j) = true)
  | 0, i, j, h1, h2, h3, h4, h5 => by
    have : i = j := by omega
    subst this
    exact ⟨h2, h4, h5⟩
  | f + 1, i, j, h1, h2, h3, h4, h5 => by
    rw [srN]
    split
    · split
      · rename_i hp
        exact srN_ok (by omega) (by omega) (by omega) h4 fun _ => hp
      · rename_i hp
        exact srN_ok (by omega) h2 (by omega) (fun _ => by simpa using hp) h5
    · have : i = j := by omega
      subst this
      exact ⟨h2, h4, h5⟩
/-- Search, for a function that changes nothing. -/
theorem c105 {g M0 : Nat} {cp : List Value} {p : Nat → Bool} {n : Nat} (hn : n ≤ 30000) (hM : M0 ≤ 2000) (hp : ∀ (N : Nat) (x : Nat), x < n → acall tabA (aexec tabA Try.prog (N + M0)) g (.int .i64 (x : Nat) :: cp) H = some (true, .bool (p x), H, H.size)) :
    acall tabA (aexec tabA Try.prog (N + 2500)) 105 [.int .i64 (n : Nat), .func (.func g) ⟨[]⟩ ⟨cp⟩] H = some (true, .int .i64 (srN p n 0 n : Nat), H, H.size) := by
  refine call_quiet (k := 26) (rs := [.tmp 4]) rfl fn_105 rfl rfl rfl ?_ rfl
  simp (disch := (first | (simp only [ne_eq,Nat.reduceEqDiff,not_false_eq_true,Nat.reduceLT]; done) | omega | (simp only [yz] <;> omega) | fail)) only [↓yp,yq0,yq1,yq2,yq3,yq4,yl,ys0,ys1,Nat.reduceAdd,Nat.reduceMul,Nat.reduceSub,Nat.reduceBEq,Nat.reduceEqDiff,Nat.reduceLT,Nat.reduceLeDiff,reduceIte,Int.reduceAdd,Int.reduceSub,Int.reduceMul,Int.reduceLT,Int.reduceLE,Int.reduceEq,Int.reduceToNat,Int.reduceNeg,fitB,newC,endD,endR,yrg]
  refine W_while (n := 26) 2100 (fun k e H' => ∃ i j f : Nat, j - i < 2 ^ k ∧ i ≤ j ∧ j ≤ n ∧ j ≤ i + f ∧ srN p f i j = srN p n 0 n ∧ gt 26 e 5 = .int .i64 (i : Nat) ∧ gt 26 e 6 = .int .i64 (j : Nat) ∧ gt 26 e 1 = .func (.func g) ⟨[]⟩ ⟨cp⟩ ∧ H' = H)
    ?_ 15 15 ⟨0, n, n, by omega, by omega, by omega, by omega, rfl, by simp (disch := (first | (simp only [ne_eq,Nat.reduceEqDiff,not_false_eq_true,Nat.reduceLT]; done) | omega | (simp only [yz] <;> omega) | fail)) only [yg,Nat.reduceAdd,Nat.reduceEqDiff,Nat.reduceLT]; rfl, by simp (disch := (first | (simp only [ne_eq,Nat.reduceEqDiff,not_false_eq_true,Nat.reduceLT]; done) | omega | (simp only [yz] <;> omega) | fail)) only [yg,Nat.reduceAdd,Nat.reduceEqDiff,Nat.reduceLT], by simp (disch := (first | (simp only [ne_eq,Nat.reduceEqDiff,not_false_eq_true,Nat.reduceLT]; done) | omega | (simp only [yz] <;> omega) | fail)) only [yg,Nat.reduceAdd,Nat.reduceEqDiff,Nat.reduceLT], rfl⟩ (by omega) (by omega)
  rintro M k e H' ⟨i, j, f, hk, hij, hjn, hf, hsr, g5, g6, g1, rfl⟩
  simp (disch := (first | (simp only [ne_eq,Nat.reduceEqDiff,not_false_eq_true,Nat.reduceLT]; done) | omega | (simp only [yz] <;> omega) | fail)) only [↓yp,yq0,yq1,yq2,yq3,yq4,yl,ys0,ys1,Nat.reduceAdd,Nat.reduceMul,Nat.reduceSub,Nat.reduceBEq,Nat.reduceEqDiff,Nat.reduceLT,Nat.reduceLeDiff,reduceIte,Int.reduceAdd,Int.reduceSub,Int.reduceMul,Int.reduceLT,Int.reduceLE,Int.reduceEq,Int.reduceToNat,Int.reduceNeg,fitB,newC,endD,endR,yrg,g5,g6]
  refine ⟨fun hA => ?_, fun hA => ?_⟩
  · have hlt : i < j := by simpa using hA
    obtain ⟨f, rfl⟩ : ∃ f', f = f' + 1 := ⟨f - 1, by omega⟩
    obtain ⟨k, rfl⟩ : ∃ k', k = k' + 1 := ⟨k - 1, by cases k with | zero => simp at hk; omega | succ k => omega⟩
    rw [Nat.pow_succ] at hk
    rw [srN, if_pos hlt] at hsr
    have w1 : w64 ((i : Int) + (j : Int)) = ((i + j : Nat) : Int) := by rw [w64_of (by omega)]; omega
    have w2 : u64w ((i + j : Nat) : Int) = ((i + j : Nat) : Int) := u64w_of (by omega)
    have w3 : ((i + j : Nat) : Int).fdiv 2 = (((i + j) / 2 : Nat) : Int) := by rw [Int.fdiv_eq_ediv_of_nonneg _ (by omega)]; omega
    have w4 : w64 (((i + j) / 2 : Nat) : Int) = (((i + j) / 2 : Nat) : Int) := w64_of (by omega)
    have w5 : w64 ((((i + j) / 2 : Nat) : Int) + 1) = (((i + j) / 2 + 1 : Nat) : Int) := by rw [w64_of (by omega)]; omega
    have hps : ∀ N, M0 ≤ N → acall tabA (aexec tabA Try.prog N) g (.int .i64 (((i + j) / 2 : Nat) : Int) :: cp) H' = some (true, .bool (p ((i + j) / 2)), H', H'.size) := fun N hN => by
      obtain ⟨q, rfl⟩ : ∃ q, N = q + M0 := ⟨N - M0, by omega⟩
      exact hp q ((i + j) / 2) (by omega)
    cases hB : p ((i + j) / 2)
    · rw [hB] at hps hsr
      simp only [Bool.false_eq_true,if_false] at hsr
      simp (disch := (first | (simp only [ne_eq,Nat.reduceEqDiff,not_false_eq_true,Nat.reduceLT]; done) | omega | (simp only [yz] <;> omega) | fail)) only [↓yp,yq0,yq1,yq2,yq3,yq4,yl,ys0,ys1,Nat.reduceAdd,Nat.reduceMul,Nat.reduceSub,Nat.reduceBEq,Nat.reduceEqDiff,Nat.reduceLT,Nat.reduceLeDiff,reduceIte,Int.reduceAdd,Int.reduceSub,Int.reduceMul,Int.reduceLT,Int.reduceLE,Int.reduceEq,Int.reduceToNat,Int.reduceNeg,fitB,newC,endD,endR,yrg,g5,g6,g1,A_conv,cv_3_144,cv_144_3,u64_shr1,w1,w2,w3,w4,w5,hps]
      refine ⟨k, by omega, (i + j) / 2 + 1, j, f, by omega, by omega, by omega, by omega, hsr, ?_, ?_, ?_, rfl⟩
      · simp (disch := (first | (simp only [ne_eq,Nat.reduceEqDiff,not_false_eq_true,Nat.reduceLT]; done) | omega | (simp only [yz] <;> omega) | fail)) only [yg,Nat.reduceAdd,Nat.reduceEqDiff,Nat.reduceLT]
      · simp (disch := (first | (simp only [ne_eq,Nat.reduceEqDiff,not_false_eq_true,Nat.reduceLT]; done) | omega | (simp only [yz] <;> omega) | fail)) only [yg,Nat.reduceAdd,Nat.reduceEqDiff,Nat.reduceLT,g6]
      · simp (disch := (first | (simp only [ne_eq,Nat.reduceEqDiff,not_false_eq_true,Nat.reduceLT]; done) | omega | (simp only [yz] <;> omega) | fail)) only [yg,Nat.reduceAdd,Nat.reduceEqDiff,Nat.reduceLT,g1]
    · rw [hB] at hps hsr
      simp only [if_true] at hsr
      simp (disch := (first | (simp only [ne_eq,Nat.reduceEqDiff,not_false_eq_true,Nat.reduceLT]; done) | omega | (simp only [yz] <;> omega) | fail)) only [↓yp,yq0,yq1,yq2,yq3,yq4,yl,ys0,ys1,Nat.reduceAdd,Nat.reduceMul,Nat.reduceSub,Nat.reduceBEq,Nat.reduceEqDiff,Nat.reduceLT,Nat.reduceLeDiff,reduceIte,Int.reduceAdd,Int.reduceSub,Int.reduceMul,Int.reduceLT,Int.reduceLE,Int.reduceEq,Int.reduceToNat,Int.reduceNeg,fitB,newC,endD,endR,yrg,g5,g6,g1,A_conv,cv_3_144,cv_144_3,u64_shr1,w1,w2,w3,w4,hps]
      refine ⟨k, by omega, i, (i + j) / 2, f, by omega, by omega, by omega, by omega, hsr, ?_, ?_, ?_, rfl⟩
      · simp (disch := (first | (simp only [ne_eq,Nat.reduceEqDiff,not_false_eq_true,Nat.reduceLT]; done) | omega | (simp only [yz] <;> omega) | fail)) only [yg,Nat.reduceAdd,Nat.reduceEqDiff,Nat.reduceLT,g5]
      · simp (disch := (first | (simp only [ne_eq,Nat.reduceEqDiff,not_false_eq_true,Nat.reduceLT]; done) | omega | (simp only [yz] <;> omega) | fail)) only [yg,Nat.reduceAdd,Nat.reduceEqDiff,Nat.reduceLT]
      · simp (disch := (first | (simp only [ne_eq,Nat.reduceEqDiff,not_false_eq_true,Nat.reduceLT]; done) | omega | (simp only [yz] <;> omega) | fail)) only [yg,Nat.reduceAdd,Nat.reduceEqDiff,Nat.reduceLT,g1]
  · have hie : i = j := by have := of_decide_eq_false hA; omega
    subst hie
    rw [srN_ge (Nat.le_refl _)] at hsr
    rw [← hsr]
    simp (disch := (first | (simp only [ne_eq,Nat.reduceEqDiff,not_false_eq_true,Nat.reduceLT]; done) | omega | (simp only [yz] <;> omega) | fail)) only [↓yp,yq0,yq1,yq2,yq3,yq4,yl,ys0,ys1,Nat.reduceAdd,Nat.reduceMul,Nat.reduceSub,Nat.reduceBEq,Nat.reduceEqDiff,Nat.reduceLT,Nat.reduceLeDiff,reduceIte,Int.reduceAdd,Int.reduceSub,Int.reduceMul,Int.reduceLT,Int.reduceLE,Int.reduceEq,Int.reduceToNat,Int.reduceNeg,fitB,newC,endD,endR,yrg,g5]
theorem c65 (hs : Rw stE H a t) (ht : TarOk t) : ∃ k : Nat, PdR t p k ∧ ∀ N, acall tabA (aexec tabA Try.prog (N + 3000)) 65 [.slice a t.length cap, .int .i64 p] H = some (true, .int .i64 (k : Nat), H, H.size) := by
  refine ⟨srN (fun k => decide (p < whl (cts t (k + 1)))) 20000 0 20000, ?_, fun N => ?_⟩
  · obtain ⟨h1, h2, h3⟩ := srN_ok (p := fun k => decide (p < whl (cts t (k + 1)))) (n := 20000) (f := 20000) (i := 0) (j := 20000) (by omega) (by omega) (by omega) (fun h => by omega) (fun h => by omega)
    refine ⟨h1, fun h => ?_, fun h => ?_⟩
    · have := h2 h
      simp only [decide_eq_false_iff_not] at this
      have e : (((srN (fun k => decide (p < whl (cts t (k + 1)))) 20000 0 20000 - 1 : Nat) : Int) + 1) = ((srN (fun k => decide (p < whl (cts t (k + 1)))) 20000 0 20000 : Nat) : Int) := by omega
      rw [e] at this
      omega
    · have := h3 h
      simp only [decide_eq_true_eq] at this
      exact this
  · refine call_quiet (k := 7) (rs := [.tmp 4]) rfl fn_65 rfl rfl rfl ?_ rfl
    have h105 := fun (N : Nat) => c105 (N := N) (H := (H.alloc (.rw [.slice a t.length cap] 22 false [])).alloc (.rw [.int .i64 p] 3 false [])) (g := 106) (M0 := 500) (cp := [.pointer (some ⟨H.size, 0, none⟩), .pointer (some ⟨H.size + 1, 0, none⟩)]) (p := fun k => decide (p < whl (cts t (k + 1)))) (n := 20000) (by omega) (by omega) fun N x hx => c106 (N := N) (cap := cap) (n := x) (hs.fr (by (repeat (first | exact Fr.refl _ | assumption | refine Fr.allocd ?_ _ | refine Fr.kill ?_ (by first | assumption | omega) | refine Fr.put ?_ (by first | omega | (simp only [yz] <;> omega)) _)))) ht (by omega) (by simp (disch := (first | (simp only [ne_eq,Nat.reduceEqDiff,not_false_eq_true,Nat.reduceLT]; done) | omega | (simp only [yz] <;> omega) | fail)) only [yg,Nat.reduceAdd,Nat.reduceEqDiff,Nat.reduceLT]) (by simp (disch := (first | (simp only [ne_eq,Nat.reduceEqDiff,not_false_eq_true,Nat.reduceLT]; done) | omega | (simp only [yz] <;> omega) | fail)) only [yg,Nat.reduceAdd,Nat.reduceEqDiff,Nat.reduceLT])
    rw [show ((20000 : Nat) : Int) = 20000 from rfl] at h105
    simp (disch := (first | (simp only [ne_eq,Nat.reduceEqDiff,not_false_eq_true,Nat.reduceLT]; done) | omega | (simp only [yz] <;> omega) | fail)) only [↓yp,yq0,yq1,yq2,yq3,yq4,yl,ys0,ys1,Nat.reduceAdd,Nat.reduceMul,Nat.reduceSub,Nat.reduceBEq,Nat.reduceEqDiff,Nat.reduceLT,Nat.reduceLeDiff,reduceIte,Int.reduceAdd,Int.reduceSub,Int.reduceMul,Int.reduceLT,Int.reduceLE,Int.reduceEq,Int.reduceToNat,Int.reduceNeg,fitB,newC,endD,endR,yrg,h105]
theorem c19e (hs : Rw stE H a t) (hl : t.length ≤ 16) (h : chkT t ≠ 0) : acall tabA (aexec tabA Try.prog (N + 3500)) 19 [.slice a t.length cap, .int .i64 p] H = some (true, .tuple ⟨[.int .i64 0, .int .i64 (chkT t)]⟩, H, H.size) := by
  refine call_quiet (k := 17) (rs := [.tmp 4, .tmp 5]) rfl fn_19 rfl rfl rfl ?_ rfl
  have h15 := fun (N : Nat) => c15 (N := N) (cap := cap) hs hl
  have hne : decide (chkT t = 0) = false := by simpa using h
  simp (disch := (first | (simp only [ne_eq,Nat.reduceEqDiff,not_false_eq_true,Nat.reduceLT]; done) | omega | (simp only [yz] <;> omega) | fail)) only [↓yp,yq0,yq1,yq2,yq3,yq4,yl,ys0,ys1,Nat.reduceAdd,Nat.reduceMul,Nat.reduceSub,Nat.reduceBEq,Nat.reduceEqDiff,Nat.reduceLT,Nat.reduceLeDiff,reduceIte,Int.reduceAdd,Int.reduceSub,Int.reduceMul,Int.reduceLT,Int.reduceLE,Int.reduceEq,Int.reduceToNat,Int.reduceNeg,fitB,newC,endD,endR,yrg,h15,hne]
theorem c19r (hs : Rw stE H a t) (ht : TarOk t) (hn : p < 0) : acall tabA (aexec tabA Try.prog (N + 3500)) 19 [.slice a t.length cap, .int .i64 p] H = some (true, .tuple ⟨[.int .i64 0, .int .i64 4]⟩, H, H.size) := by
  refine call_quiet (k := 17) (rs := [.tmp 4, .tmp 5]) rfl fn_19 rfl rfl rfl ?_ rfl
  have h15 := fun (N : Nat) => c15 (N := N) (cap := cap) hs (by have := ht.len; omega)
  rw [ht.chk] at h15
  have hne : decide ((0 : Int) = 0) = true := by simp
  have hlt : decide (p < 0) = true := by simpa using hn
  simp (disch := (first | (simp only [ne_eq,Nat.reduceEqDiff,not_false_eq_true,Nat.reduceLT]; done) | omega | (simp only [yz] <;> omega) | fail)) only [↓yp,yq0,yq1,yq2,yq3,yq4,yl,ys0,ys1,Nat.reduceAdd,Nat.reduceMul,Nat.reduceSub,Nat.reduceBEq,Nat.reduceEqDiff,Nat.reduceLT,Nat.reduceLeDiff,reduceIte,Int.reduceAdd,Int.reduceSub,Int.reduceMul,Int.reduceLT,Int.reduceLE,Int.reduceEq,Int.reduceToNat,Int.reduceNeg,fitB,newC,endD,endR,yrg,h15,hne,hlt]
theorem c19 (hs : Rw stE H a t) (ht : TarOk t) (hn : 0 ≤ p) : ∃ k : Nat, PdR t p k ∧ ∀ N, acall tabA (aexec tabA Try.prog (N + 3500)) 19 [.slice a t.length cap, .int .i64 p] H = some (true, .tuple ⟨[.int .i64 (k : Nat), .int .i64 0]⟩, H, H.size) := by
  obtain ⟨k, hk, h65⟩ := c65 (cap := cap) (p := p) hs ht
  refine ⟨k, hk, fun N => ?_⟩
  refine call_quiet (k := 17) (rs := [.tmp 4, .tmp 5]) rfl fn_19 rfl rfl rfl ?_ rfl
  have h15 := fun (N : Nat) => c15 (N := N) (cap := cap) hs (by have := ht.len; omega)
  rw [ht.chk] at h15
  have hne : decide ((0 : Int) = 0) = true := by simp
  have hlt : decide (p < 0) = false := by simp; omega
  simp (disch := (first | (simp only [ne_eq,Nat.reduceEqDiff,not_false_eq_true,Nat.reduceLT]; done) | omega | (simp only [yz] <;> omega) | fail)) only [↓yp,yq0,yq1,yq2,yq3,yq4,yl,ys0,ys1,Nat.reduceAdd,Nat.reduceMul,Nat.reduceSub,Nat.reduceBEq,Nat.reduceEqDiff,Nat.reduceLT,Nat.reduceLeDiff,reduceIte,Int.reduceAdd,Int.reduceSub,Int.reduceMul,Int.reduceLT,Int.reduceLE,Int.reduceEq,Int.reduceToNat,Int.reduceNeg,fitB,newC,endD,endR,yrg,h15,h65,hne,hlt]
end
end Go.Am
/- A tariff that is made of numbers. -/
namespace Go.Am
open Go.Proofs
variable {T : Tab} {P : Program} {N L : Nat} {H H' H'' : AHeap} {Q : Bool → Value → AHeap → Prop}
/-- A chute after changes of other blocks. -/
theorem Chu.again {k cap q q' : Nat} {a : Option Addr} {bs : List Int} (h : Chu H k a bs cap q) (f : FrX k H H'') (hb : ∃ u s : Int, H''.get k = .rw [.slice a bs.length cap, .int .i64 u, .int .u64 s] 138 false [] ∧ (0 ≤ u ∧ u ≤ 2 * q') ∧ u ≤ bs.length ∧ 0 ≤ s ∧ s < 18446744073709551616) : Chu H'' k a bs cap q' where
  lt := Nat.lt_of_lt_of_le h.lt f.size
  blk := hb
  row hne := by
    obtain ⟨b, o, c, h1, h2, h3, h4⟩ := h.row hne
    obtain ⟨u, s, h5, _⟩ := h.blk
    exact ⟨b, o, c, h1, Nat.lt_of_lt_of_le h2 f.size, by rw [f.same b h2 (fun e => by subst e; rw [h5] at h3; cases h3)]; exact h3, h4⟩
  byte := h.byte
  len := h.len
section
variable {k cap q i : Nat} {a : Option Addr} {bs : List Int} {n u : Int} {l : List Stp} {S : Nat → Prop} {v : Value} {e e' : VT}
end
end Go.Am
/- Wrap, Copy of steps; the law FeeCosts. -/
namespace Go.Am
open Go.Proofs
variable {T : Tab} {P : Program} {N L : Nat} {H H' H'' : AHeap} {Q : Bool → Value → AHeap → Prop}
section
variable {a a' : Option Addr} {cap cap' : Nat} {ps : List Stp}
/-- Copy, of pickings. -/
theorem c13n : acall tabA (aexec tabA Try.prog (N + 60)) 13 [.slice a 0 cap] H = some (true, .slice none 0 0, H, H.size) := by
  refine call_quiet (k := 9) (rs := [.tmp 2]) rfl fn_13 rfl rfl rfl ?_ rfl
  simp (disch := (first | (simp only [ne_eq,Nat.reduceEqDiff,not_false_eq_true,Nat.reduceLT]; done) | omega | (simp only [yz] <;> omega) | fail)) only [↓yp,yq0,yq1,yq2,yq3,yq4,yl,ys0,ys1,Nat.reduceAdd,Nat.reduceMul,Nat.reduceSub,Nat.reduceBEq,Nat.reduceEqDiff,Nat.reduceLT,Nat.reduceLeDiff,reduceIte,Int.reduceAdd,Int.reduceSub,Int.reduceMul,Int.reduceLT,Int.reduceLE,Int.reduceEq,Int.reduceToNat,Int.reduceNeg,fitB,newC,endD,endR,yrg,lenV_slice st_esS_22,Int.natCast_zero]
theorem c13 (hs : Rw stE H a ps) (hne : ps ≠ []) (hl : ps.length ≤ 65) (hL : L ≤ H.size) {M : Nat} (hM : 60 ≤ M)
    (hq : ∀ k H', Fr H H' → H.size ≤ k → k < H'.size → H'.get k = .rw (stE.fl ps) 26 true [] → Q false (.slice (some ⟨k, 0, none⟩) ps.length (OPEN + 2)) H') : resK (acall tabA (aexec tabA Try.prog M) 13 [.slice a ps.length cap] H) L Q := by
  obtain ⟨N, rfl⟩ : ∃ N, M = N + 60 := ⟨M - 60, by omega⟩
  obtain ⟨b, o, c, rfl, -⟩ := hs.get hne
  refine call_fls (R := fun v H' => ∃ k, v = .slice (some ⟨k, 0, none⟩) ps.length (OPEN + 2) ∧ Fr H H' ∧ H.size ≤ k ∧ k < H'.size ∧ H'.get k = .rw (stE.fl ps) 26 true []) (k := 9) (rs := [.tmp 2]) rfl fn_13 rfl rfl rfl hL ?_ ?_ ?_
  · have hpos : 0 < ps.length := List.length_pos_iff.2 hne
    have h0 : decide ((ps.length : Int) = 0) = false := by simp; omega
    simp (disch := (first | (simp only [ne_eq,Nat.reduceEqDiff,not_false_eq_true,Nat.reduceLT]; done) | omega | (simp only [yz] <;> omega) | fail)) only [↓yp,yq0,yq1,yq2,yq3,yq4,yl,ys0,ys1,Nat.reduceAdd,Nat.reduceMul,Nat.reduceSub,Nat.reduceBEq,Nat.reduceEqDiff,Nat.reduceLT,Nat.reduceLeDiff,reduceIte,Int.reduceAdd,Int.reduceSub,Int.reduceMul,Int.reduceLT,Int.reduceLE,Int.reduceEq,Int.reduceToNat,Int.reduceNeg,fitB,newC,endD,endR,yrg,lenV_slice st_esS_22,h0,A_buildSlice st_brS_22_0]
    rw [apK_empty (H := _) (n := ps.length) st_apS_22 ((hs.fr (Fr.alloc _ _)).src hne) hpos (by omega) (by omega) (one_fl ps) (c₀ := []) (by simp (disch := (first | (simp only [ne_eq,Nat.reduceEqDiff,not_false_eq_true,Nat.reduceLT]; done) | omega | (simp only [yz] <;> omega) | fail)) only [yg,Nat.reduceAdd,Nat.reduceEqDiff,Nat.reduceLT])]
    simp (disch := (first | (simp only [ne_eq,Nat.reduceEqDiff,not_false_eq_true,Nat.reduceLT]; done) | omega | (simp only [yz] <;> omega) | fail)) only [↓yp,yq0,yq1,yq2,yq3,yq4,yl,ys0,ys1,Nat.reduceAdd,Nat.reduceMul,Nat.reduceSub,Nat.reduceBEq,Nat.reduceEqDiff,Nat.reduceLT,Nat.reduceLeDiff,reduceIte,Int.reduceAdd,Int.reduceSub,Int.reduceMul,Int.reduceLT,Int.reduceLE,Int.reduceEq,Int.reduceToNat,Int.reduceNeg,fitB,newC,endD,endR,yrg]
    exact ⟨_, rfl, by (repeat (first | exact Fr.refl _ | assumption | refine Fr.allocd ?_ _ | refine Fr.kill ?_ (by first | assumption | omega) | refine Fr.put ?_ (by first | omega | (simp only [yz] <;> omega)) _)), by (first | omega | (simp only [yz] <;> omega)), by (first | omega | (simp only [yz] <;> omega)), by simp (disch := (first | (simp only [ne_eq,Nat.reduceEqDiff,not_false_eq_true,Nat.reduceLT]; done) | omega | (simp only [yz] <;> omega) | fail)) only [yg,Nat.reduceAdd,Nat.reduceEqDiff,Nat.reduceLT]⟩
  · rintro v H' ⟨k, rfl, -⟩; rfl
  · rintro v H' ⟨k, rfl, h1, h2, h3, h4⟩
    exact hq _ _ h1 h2 h3 h4
end
end Go.Am
/- The law FeeCosts. -/
namespace Go.Am
open Go.Proofs
variable {T : Tab} {P : Program} {N L : Nat} {H H' H'' : AHeap} {Q : Bool → Value → AHeap → Prop}
section
variable {b c n mo : Nat} {t : List Stp} {p : Int} {e : VT}
end
section
variable {a : Option Addr} {cap : Nat} {bs : List Int} {e : VT}
end
end Go.Am
