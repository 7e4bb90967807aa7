/- Cost, Pounds. -/
import Derived.Test.YtnibabkgeolenaaT32
set_option linter.unusedSimpArgs false
set_option linter.unusedVariables false
namespace Go.Am
open Go.Proofs
variable {T : Tab} {P : Program} {N L : Nat} {H H' H'' : AHeap} {Q : Bool → Value → AHeap → Prop}
section
variable {a : Option Addr} {cap : Nat} {t : List Stp} {n p : Int}
theorem c17 (hs : Rw stE H a t) (ht : TarOk t) (hn : 0 ≤ n ∧ n ≤ 20000) : acall tabA (aexec tabA Try.prog (N + 500)) 17 [.slice a t.length cap, .int .i64 n] H = some (true, .tuple ⟨[.int .i64 (whl (cts t n)), .int .i64 0]⟩, H, H.size) := by
  refine call_quiet (k := 18) (rs := [.tmp 4, .tmp 5]) rfl fn_17 rfl rfl rfl ?_ rfl
  have h15 := fun (N : Nat) => c15 (N := N) (cap := cap) hs (by have := ht.len; omega)
  rw [ht.chk] at h15
  have h57 := fun (N : Nat) (H : AHeap) => c57 (N := N) (H := H) (n := n) (lo := 0) (hi := 20000)
  rw [show wi n 0 20000 = true by unfold wi; simp; omega] at h57
  have h62 := fun (N : Nat) => c62 (N := N) (cap := cap) (n := n) hs ht (by omega)
  have hne : decide ((0 : Int) = 0) = true := by simp
  simp (disch := (first | (simp only [ne_eq,Nat.reduceEqDiff,not_false_eq_true,Nat.reduceLT]; done) | omega | (simp only [yz] <;> omega) | fail)) only [↓yp,yq0,yq1,yq2,yq3,yq4,yl,ys0,ys1,Nat.reduceAdd,Nat.reduceMul,Nat.reduceSub,Nat.reduceBEq,Nat.reduceEqDiff,Nat.reduceLT,Nat.reduceLeDiff,reduceIte,Int.reduceAdd,Int.reduceSub,Int.reduceMul,Int.reduceLT,Int.reduceLE,Int.reduceEq,Int.reduceToNat,Int.reduceNeg,fitB,newC,endD,endR,yrg,h15,h57,h62,hne]
theorem c106 {b2 b3 : Nat} (hs : Rw stE H a t) (ht : TarOk t) (hn : 0 ≤ n ∧ n ≤ 20000) (h2 : H.get b2 = .rw [.slice a t.length cap] 22 false []) (h3 : H.get b3 = .rw [.int .i64 p] 3 false []) :
    acall tabA (aexec tabA Try.prog (N + 500)) 106 [.int .i64 n, .pointer (some ⟨b2, 0, none⟩), .pointer (some ⟨b3, 0, none⟩)] H = some (true, .bool (decide (p < whl (cts t (n + 1)))), H, H.size) := by
  refine call_quiet (k := 11) (rs := [.tmp 4]) rfl fn_106 rfl rfl rfl ?_ rfl
  have h62 := fun (N : Nat) => c62 (N := N) (cap := cap) (n := n + 1) hs ht (by omega)
  have w1 : w64 (n + 1) = n + 1 := w64_of (by omega)
  simp (disch := (first | (simp only [ne_eq,Nat.reduceEqDiff,not_false_eq_true,Nat.reduceLT]; done) | omega | (simp only [yz] <;> omega) | fail)) only [↓yp,yq0,yq1,yq2,yq3,yq4,yl,ys0,ys1,Nat.reduceAdd,Nat.reduceMul,Nat.reduceSub,Nat.reduceBEq,Nat.reduceEqDiff,Nat.reduceLT,Nat.reduceLeDiff,reduceIte,Int.reduceAdd,Int.reduceSub,Int.reduceMul,Int.reduceLT,Int.reduceLE,Int.reduceEq,Int.reduceToNat,Int.reduceNeg,fitB,newC,endD,endR,yrg]
  refine W_draw [] rfl (by kernel_rfl) (by kernel_rfl) (by (first | omega | (simp only [yz] <;> omega))) ?_
  simp (disch := (first | (simp only [ne_eq,Nat.reduceEqDiff,not_false_eq_true,Nat.reduceLT]; done) | omega | (simp only [yz] <;> omega) | fail)) only [↓yp,yq0,yq1,yq2,yq3,yq4,yl,ys0,ys1,Nat.reduceAdd,Nat.reduceMul,Nat.reduceSub,Nat.reduceBEq,Nat.reduceEqDiff,Nat.reduceLT,Nat.reduceLeDiff,reduceIte,Int.reduceAdd,Int.reduceSub,Int.reduceMul,Int.reduceLT,Int.reduceLE,Int.reduceEq,Int.reduceToNat,Int.reduceNeg,fitB,newC,endD,endR,yrg,h2,h3,w1,h62]
theorem u64_shr1 {ty : TypeId} {x y : Operand} {a : Int} : binV T P .shr ty x y (.int .u64 a) (.int .u64 1) = some (.int .u64 (a.fdiv 2)) := nr rfl
theorem st_cvS_3_144 : cvS tabA 3 144 = some .u64 := by kernel_rfl
theorem st_cvS_144_3 : cvS tabA 144 3 = some .i64 := by kernel_rfl
theorem cv_3_144 {k' : IntKind} {n : Int} : cvV tabA P H 3 144 (.int k' n) = some (.int .u64 (u64w n)) := cvV_int st_cvS_3_144
theorem cv_144_3 {k' : IntKind} {n : Int} : cvV tabA P H 144 3 (.int k' n) = some (.int .i64 (w64 n)) := cvV_int st_cvS_144_3
/-- Search, plainly. -/
def srN (p : Nat → Bool) : Nat → Nat → Nat → Nat
  | 0, i, _ => i
  | f + 1, i, j => if i < j then (if p ((i + j) / 2) then srN p f i ((i + j) / 2) else srN p f ((i + j) / 2 + 1) j) else i
theorem srN_ge {p : Nat → Bool} {f i j : Nat} (h : j ≤ i) : srN p f i j = i := by
  cases f with
  | zero => rfl
  | succ f => rw [srN, if_neg (by omega)]
theorem srN_ok {p : Nat → Bool} {n : Nat} : ∀ {f i j : Nat}, i ≤ j → j ≤ n → j ≤ i + f → (0 < i → p (i - 1) = false) → (j < n → p j = true) → srN p f i j ≤ n ∧ (0 < srN p f i j → p (srN p f i j - 1) = false) ∧ (srN p f i j < n → p (srN p f i j) = true)
  | 0, i, j, h1, h2, h3, h4, h5 => by
    have : i = j := by omega
    subst this
    exact ⟨h2, h4, h5⟩
  | f + 1, i, j, h1, h2, h3, h4, h5 => by
    rw [srN]
    split
    · split
      · rename_i hp
        exact srN_ok (by omega) (by omega) (by omega) h4 fun _ => hp
      · rename_i hp
        exact srN_ok (by omega) h2 (by omega) (fun _ => by simpa using hp) h5
    · have : i = j := by omega
      subst this
      exact ⟨h2, h4, h5⟩
/-- Search, for a function that changes nothing. -/
theorem c105 {g M0 : Nat} {cp : List Value} {p : Nat → Bool} {n : Nat} (hn : n ≤ 30000) (hM : M0 ≤ 2000) (hp : ∀ (N : Nat) (x : Nat), x < n → acall tabA (aexec tabA Try.prog (N + M0)) g (.int .i64 (x : Nat) :: cp) H = some (true, .bool (p x), H, H.size)) :
    acall tabA (aexec tabA Try.prog (N + 2500)) 105 [.int .i64 (n : Nat), .func (.func g) ⟨[]⟩ ⟨cp⟩] H = some (true, .int .i64 (srN p n 0 n : Nat), H, H.size) := by
  refine call_quiet (k := 26) (rs := [.tmp 4]) rfl fn_105 rfl rfl rfl ?_ rfl
  simp (disch := (first | (simp only [ne_eq,Nat.reduceEqDiff,not_false_eq_true,Nat.reduceLT]; done) | omega | (simp only [yz] <;> omega) | fail)) only [↓yp,yq0,yq1,yq2,yq3,yq4,yl,ys0,ys1,Nat.reduceAdd,Nat.reduceMul,Nat.reduceSub,Nat.reduceBEq,Nat.reduceEqDiff,Nat.reduceLT,Nat.reduceLeDiff,reduceIte,Int.reduceAdd,Int.reduceSub,Int.reduceMul,Int.reduceLT,Int.reduceLE,Int.reduceEq,Int.reduceToNat,Int.reduceNeg,fitB,newC,endD,endR,yrg]
  refine W_while (n := 26) 2100 (fun k e H' => ∃ i j f : Nat, j - i < 2 ^ k ∧ i ≤ j ∧ j ≤ n ∧ j ≤ i + f ∧ srN p f i j = srN p n 0 n ∧ gt 26 e 5 = .int .i64 (i : Nat) ∧ gt 26 e 6 = .int .i64 (j : Nat) ∧ gt 26 e 1 = .func (.func g) ⟨[]⟩ ⟨cp⟩ ∧ H' = H)
    ?_ 15 15 ⟨0, n, n, by omega, by omega, by omega, by omega, rfl, by simp (disch := (first | (simp only [ne_eq,Nat.reduceEqDiff,not_false_eq_true,Nat.reduceLT]; done) | omega | (simp only [yz] <;> omega) | fail)) only [yg,Nat.reduceAdd,Nat.reduceEqDiff,Nat.reduceLT]; rfl, by simp (disch := (first | (simp only [ne_eq,Nat.reduceEqDiff,not_false_eq_true,Nat.reduceLT]; done) | omega | (simp only [yz] <;> omega) | fail)) only [yg,Nat.reduceAdd,Nat.reduceEqDiff,Nat.reduceLT], by simp (disch := (first | (simp only [ne_eq,Nat.reduceEqDiff,not_false_eq_true,Nat.reduceLT]; done) | omega | (simp only [yz] <;> omega) | fail)) only [yg,Nat.reduceAdd,Nat.reduceEqDiff,Nat.reduceLT], rfl⟩ (by omega) (by omega)
  rintro M k e H' ⟨i, j, f, hk, hij, hjn, hf, hsr, g5, g6, g1, rfl⟩
  simp (disch := (first | (simp only [ne_eq,Nat.reduceEqDiff,not_false_eq_true,Nat.reduceLT]; done) | omega | (simp only [yz] <;> omega) | fail)) only [↓yp,yq0,yq1,yq2,yq3,yq4,yl,ys0,ys1,Nat.reduceAdd,Nat.reduceMul,Nat.reduceSub,Nat.reduceBEq,Nat.reduceEqDiff,Nat.reduceLT,Nat.reduceLeDiff,reduceIte,Int.reduceAdd,Int.reduceSub,Int.reduceMul,Int.reduceLT,Int.reduceLE,Int.reduceEq,Int.reduceToNat,Int.reduceNeg,fitB,newC,endD,endR,yrg,g5,g6]
  refine ⟨fun hA => ?_, fun hA => ?_⟩
  · have hlt : i < j := by simpa using hA
    obtain ⟨f, rfl⟩ : ∃ f', f = f' + 1 := ⟨f - 1, by omega⟩
    obtain ⟨k, rfl⟩ : ∃ k', k = k' + 1 := ⟨k - 1, by cases k with | zero => simp at hk; omega | succ k => omega⟩
    rw [Nat.pow_succ] at hk
    rw [srN, if_pos hlt] at hsr
    have w1 : w64 ((i : Int) + (j : Int)) = ((i + j : Nat) : Int) := by rw [w64_of (by omega)]; omega
    have w2 : u64w ((i + j : Nat) : Int) = ((i + j : Nat) : Int) := u64w_of (by omega)
    have w3 : ((i + j : Nat) : Int).fdiv 2 = (((i + j) / 2 : Nat) : Int) := by rw [Int.fdiv_eq_ediv_of_nonneg _ (by omega)]; omega
    have w4 : w64 (((i + j) / 2 : Nat) : Int) = (((i + j) / 2 : Nat) : Int) := w64_of (by omega)
    have w5 : w64 ((((i + j) / 2 : Nat) : Int) + 1) = (((i + j) / 2 + 1 : Nat) : Int) := by rw [w64_of (by omega)]; omega
    have hps : ∀ N, M0 ≤ N → acall tabA (aexec tabA Try.prog N) g (.int .i64 (((i + j) / 2 : Nat) : Int) :: cp) H' = some (true, .bool (p ((i + j) / 2)), H', H'.size) := fun N hN => by
      obtain ⟨q, rfl⟩ : ∃ q, N = q + M0 := ⟨N - M0, by omega⟩
      exact hp q ((i + j) / 2) (by omega)
    cases hB : p ((i + j) / 2)
    · rw [hB] at hps hsr
      simp only [Bool.false_eq_true,if_false] at hsr
      simp (disch := (first | (simp only [ne_eq,Nat.reduceEqDiff,not_false_eq_true,Nat.reduceLT]; done) | omega | (simp only [yz] <;> omega) | fail)) only [↓yp,yq0,yq1,yq2,yq3,yq4,yl,ys0,ys1,Nat.reduceAdd,Nat.reduceMul,Nat.reduceSub,Nat.reduceBEq,Nat.reduceEqDiff,Nat.reduceLT,Nat.reduceLeDiff,reduceIte,Int.reduceAdd,Int.reduceSub,Int.reduceMul,Int.reduceLT,Int.reduceLE,Int.reduceEq,Int.reduceToNat,Int.reduceNeg,fitB,newC,endD,endR,yrg,g5,g6,g1,A_conv,cv_3_144,cv_144_3,u64_shr1,w1,w2,w3,w4,w5,hps]
      refine ⟨k, by omega, (i + j) / 2 + 1, j, f, by omega, by omega, by omega, by omega, hsr, ?_, ?_, ?_, rfl⟩
      · simp (disch := (first | (simp only [ne_eq,Nat.reduceEqDiff,not_false_eq_true,Nat.reduceLT]; done) | omega | (simp only [yz] <;> omega) | fail)) only [yg,Nat.reduceAdd,Nat.reduceEqDiff,Nat.reduceLT]
      · simp (disch := (first | (simp only [ne_eq,Nat.reduceEqDiff,not_false_eq_true,Nat.reduceLT]; done) | omega | (simp only [yz] <;> omega) | fail)) only [yg,Nat.reduceAdd,Nat.reduceEqDiff,Nat.reduceLT,g6]
      · simp (disch := (first | (simp only [ne_eq,Nat.reduceEqDiff,not_false_eq_true,Nat.reduceLT]; done) | omega | (simp only [yz] <;> omega) | fail)) only [yg,Nat.reduceAdd,Nat.reduceEqDiff,Nat.reduceLT,g1]
    · rw [hB] at hps hsr
      simp only [if_true] at hsr
      simp (disch := (first | (simp only [ne_eq,Nat.reduceEqDiff,not_false_eq_true,Nat.reduceLT]; done) | omega | (simp only [yz] <;> omega) | fail)) only [↓yp,yq0,yq1,yq2,yq3,yq4,yl,ys0,ys1,Nat.reduceAdd,Nat.reduceMul,Nat.reduceSub,Nat.reduceBEq,Nat.reduceEqDiff,Nat.reduceLT,Nat.reduceLeDiff,reduceIte,Int.reduceAdd,Int.reduceSub,Int.reduceMul,Int.reduceLT,Int.reduceLE,Int.reduceEq,Int.reduceToNat,Int.reduceNeg,fitB,newC,endD,endR,yrg,g5,g6,g1,A_conv,cv_3_144,cv_144_3,u64_shr1,w1,w2,w3,w4,hps]
      refine ⟨k, by omega, i, (i + j) / 2, f, by omega, by omega, by omega, by omega, hsr, ?_, ?_, ?_, rfl⟩
      · simp (disch := (first | (simp only [ne_eq,Nat.reduceEqDiff,not_false_eq_true,Nat.reduceLT]; done) | omega | (simp only [yz] <;> omega) | fail)) only [yg,Nat.reduceAdd,Nat.reduceEqDiff,Nat.reduceLT,g5]
      · simp (disch := (first | (simp only [ne_eq,Nat.reduceEqDiff,not_false_eq_true,Nat.reduceLT]; done) | omega | (simp only [yz] <;> omega) | fail)) only [yg,Nat.reduceAdd,Nat.reduceEqDiff,Nat.reduceLT]
      · simp (disch := (first | (simp only [ne_eq,Nat.reduceEqDiff,not_false_eq_true,Nat.reduceLT]; done) | omega | (simp only [yz] <;> omega) | fail)) only [yg,Nat.reduceAdd,Nat.reduceEqDiff,Nat.reduceLT,g1]
  · have hie : i = j := by have := of_decide_eq_false hA; omega
    subst hie
    rw [srN_ge (Nat.le_refl _)] at hsr
    rw [← hsr]
    simp (disch := (first | (simp only [ne_eq,Nat.reduceEqDiff,not_false_eq_true,Nat.reduceLT]; done) | omega | (simp only [yz] <;> omega) | fail)) only [↓yp,yq0,yq1,yq2,yq3,yq4,yl,ys0,ys1,Nat.reduceAdd,Nat.reduceMul,Nat.reduceSub,Nat.reduceBEq,Nat.reduceEqDiff,Nat.reduceLT,Nat.reduceLeDiff,reduceIte,Int.reduceAdd,Int.reduceSub,Int.reduceMul,Int.reduceLT,Int.reduceLE,Int.reduceEq,Int.reduceToNat,Int.reduceNeg,fitB,newC,endD,endR,yrg,g5]
theorem c65 (hs : Rw stE H a t) (ht : TarOk t) : ∃ k : Nat, PdR t p k ∧ ∀ N, acall tabA (aexec tabA Try.prog (N + 3000)) 65 [.slice a t.length cap, .int .i64 p] H = some (true, .int .i64 (k : Nat), H, H.size) := by
  refine ⟨srN (fun k => decide (p < whl (cts t (k + 1)))) 20000 0 20000, ?_, fun N => ?_⟩
  · obtain ⟨h1, h2, h3⟩ := srN_ok (p := fun k => decide (p < whl (cts t (k + 1)))) (n := 20000) (f := 20000) (i := 0) (j := 20000) (by omega) (by omega) (by omega) (fun h => by omega) (fun h => by omega)
    refine ⟨h1, fun h => ?_, fun h => ?_⟩
    · have := h2 h
      simp only [decide_eq_false_iff_not] at this
      have e : (((srN (fun k => decide (p < whl (cts t (k + 1)))) 20000 0 20000 - 1 : Nat) : Int) + 1) = ((srN (fun k => decide (p < whl (cts t (k + 1)))) 20000 0 20000 : Nat) : Int) := by omega
      rw [e] at this
      omega
    · have := h3 h
      simp only [decide_eq_true_eq] at this
      exact this
  · refine call_quiet (k := 7) (rs := [.tmp 4]) rfl fn_65 rfl rfl rfl ?_ rfl
    have h105 := fun (N : Nat) => c105 (N := N) (H := (H.alloc (.rw [.slice a t.length cap] 22 false [])).alloc (.rw [.int .i64 p] 3 false [])) (g := 106) (M0 := 500) (cp := [.pointer (some ⟨H.size, 0, none⟩), .pointer (some ⟨H.size + 1, 0, none⟩)]) (p := fun k => decide (p < whl (cts t (k + 1)))) (n := 20000) (by omega) (by omega) fun N x hx => c106 (N := N) (cap := cap) (n := x) (hs.fr (by (repeat (first | exact Fr.refl _ | assumption | refine Fr.allocd ?_ _ | refine Fr.kill ?_ (by first | assumption | omega) | refine Fr.put ?_ (by first | omega | (simp only [yz] <;> omega)) _)))) ht (by omega) (by simp (disch := (first | (simp only [ne_eq,Nat.reduceEqDiff,not_false_eq_true,Nat.reduceLT]; done) | omega | (simp only [yz] <;> omega) | fail)) only [yg,Nat.reduceAdd,Nat.reduceEqDiff,Nat.reduceLT]) (by simp (disch := (first | (simp only [ne_eq,Nat.reduceEqDiff,not_false_eq_true,Nat.reduceLT]; done) | omega | (simp only [yz] <;> omega) | fail)) only [yg,Nat.reduceAdd,Nat.reduceEqDiff,Nat.reduceLT])
    rw [show ((20000 : Nat) : Int) = 20000 from rfl] at h105
    simp (disch := (first | (simp only [ne_eq,Nat.reduceEqDiff,not_false_eq_true,Nat.reduceLT]; done) | omega | (simp only [yz] <;> omega) | fail)) only [↓yp,yq0,yq1,yq2,yq3,yq4,yl,ys0,ys1,Nat.reduceAdd,Nat.reduceMul,Nat.reduceSub,Nat.reduceBEq,Nat.reduceEqDiff,Nat.reduceLT,Nat.reduceLeDiff,reduceIte,Int.reduceAdd,Int.reduceSub,Int.reduceMul,Int.reduceLT,Int.reduceLE,Int.reduceEq,Int.reduceToNat,Int.reduceNeg,fitB,newC,endD,endR,yrg,h105]
theorem c19 (hs : Rw stE H a t) (ht : TarOk t) (hn : 0 ≤ p) : ∃ k : Nat, PdR t p k ∧ ∀ N, acall tabA (aexec tabA Try.prog (N + 3500)) 19 [.slice a t.length cap, .int .i64 p] H = some (true, .tuple ⟨[.int .i64 (k : Nat), .int .i64 0]⟩, H, H.size) := by
  obtain ⟨k, hk, h65⟩ := c65 (cap := cap) (p := p) hs ht
  refine ⟨k, hk, fun N => ?_⟩
  refine call_quiet (k := 17) (rs := [.tmp 4, .tmp 5]) rfl fn_19 rfl rfl rfl ?_ rfl
  have h15 := fun (N : Nat) => c15 (N := N) (cap := cap) hs (by have := ht.len; omega)
  rw [ht.chk] at h15
  have hne : decide ((0 : Int) = 0) = true := by simp
  have hlt : decide (p < 0) = false := by simp; omega
  simp (disch := (first | (simp only [ne_eq,Nat.reduceEqDiff,not_false_eq_true,Nat.reduceLT]; done) | omega | (simp only [yz] <;> omega) | fail)) only [↓yp,yq0,yq1,yq2,yq3,yq4,yl,ys0,ys1,Nat.reduceAdd,Nat.reduceMul,Nat.reduceSub,Nat.reduceBEq,Nat.reduceEqDiff,Nat.reduceLT,Nat.reduceLeDiff,reduceIte,Int.reduceAdd,Int.reduceSub,Int.reduceMul,Int.reduceLT,Int.reduceLE,Int.reduceEq,Int.reduceToNat,Int.reduceNeg,fitB,newC,endD,endR,yrg,h15,h65,hne,hlt]
end
end Go.Am
/- A tariff that is made of numbers. -/
namespace Go.Am
open Go.Proofs
variable {T : Tab} {P : Program} {N L : Nat} {H H' H'' : AHeap} {Q : Bool → Value → AHeap → Prop}
/-- A chute after changes of other blocks. -/
theorem Chu.again {k cap q q' : Nat} {a : Option Addr} {bs : List Int} (h : Chu H k a bs cap q) (f : FrX k H H'') (hb : ∃ u s : Int, H''.get k = .rw [.slice a bs.length cap, .int .i64 u, .int .u64 s] 138 false [] ∧ (0 ≤ u ∧ u ≤ 2 * q') ∧ u ≤ bs.length ∧ 0 ≤ s ∧ s < 18446744073709551616) : Chu H'' k a bs cap q' where
  lt := Nat.lt_of_lt_of_le h.lt f.size
  blk := hb
  row hne := by
    obtain ⟨b, o, c, h1, h2, h3, h4⟩ := h.row hne
    obtain ⟨u, s, h5, _⟩ := h.blk
    exact ⟨b, o, c, h1, Nat.lt_of_lt_of_le h2 f.size, by rw [f.same b h2 (fun e => by subst e; rw [h5] at h3; cases h3)]; exact h3, h4⟩
  byte := h.byte
  len := h.len
theorem rise_app {m : Int} {s : Stp} : ∀ {l : List Stp} {b : Int}, rise b l → (∀ x ∈ l, x.u ≤ m) → b ≤ m → m < s.u → rise b (l ++ [s])
  | [], b, _, _, h1, h2 => ⟨by omega, trivial⟩
  | x :: l, b, h, hm, h1, h2 => ⟨h.1, rise_app (l := l) h.2 (fun y hy => hm y (by simp [hy])) (hm x (by simp)) h2⟩
/-- While steps are made. -/
structure MT (H H' : AHeap) (k : Nat) (a : Option Addr) (bs : List Int) (cap q : Nat) (n : Int) (i : Nat) (u : Int) (l : List Stp) (S : Nat → Prop) (v : Value) (e : VT) : Prop where
  g7 : gt 22 e 7 = .int .i64 (i : Nat)
  g6 : gt 22 e 6 = .int .i64 n
  g4 : gt 22 e 4 = .int .i64 u
  g3 : gt 22 e 3 = v
  g0 : gt 22 e 0 = .pointer (some ⟨k, 0, none⟩)
  chu : Chu H' k a bs cap (q + 1 + 2 * i)
  fr : FrX k H H'
  gw : Gw H' k S v i (stE.fl l) 26 2
  old : ∀ j, S j → H.size ≤ j
  len : l.length = i
  ub : 0 ≤ u ∧ u ≤ 900 * i
  ok : ∀ s ∈ l, s.Ok ∧ s.u ≤ u
  up : rise 0 l
section
variable {k cap q i : Nat} {a : Option Addr} {bs : List Int} {n u : Int} {l : List Stp} {S : Nat → Prop} {v : Value} {e e' : VT}
set_option maxHeartbeats 2000000 in
theorem c45 (h : Chu H k a bs cap q) (hu : q ≤ 1000) (hL : L ≤ k) {F : Nat} (hF : 1500 ≤ F)
    (hq : ∀ b c t H', TarOk t → (∀ s ∈ t, s.u ≤ 3600) → Rx k stE H' (some ⟨b, 0, none⟩) t → H.size ≤ b → Chu H' k a bs cap (q + 9) → FrX k H H' → Q false (.slice (some ⟨b, 0, none⟩) t.length c) H') :
    resK (acall tabA (aexec tabA Try.prog F) 45 [.pointer (some ⟨k, 0, none⟩)] H) L Q := by
  obtain ⟨N, rfl⟩ : ∃ N, F = N + 1500 := ⟨F - 1500, by omega⟩
  have hlt := h.lt
  refine call_keep tabA_fr (k := 22) (rs := [.tmp 2]) (R := fun v H' => ∃ b c t, v = .slice (some ⟨b, 0, none⟩) t.length c ∧ TarOk t ∧ (∀ s ∈ t, s.u ≤ 3600) ∧ Rx k stE H' (some ⟨b, 0, none⟩) t ∧ H.size ≤ b ∧ Chu H' k a bs cap (q + 9) ∧ FrX k H H') rfl fn_45 rfl rfl rfl (by omega) ?_ ?_ ?_
  rotate_left
  · rintro v H' ⟨b, c, t, rfl, h1, h2, h3, h4, h5, h6⟩
    exact hq _ _ _ _ h1 h2 h3 h4 h5 h6
  · rintro v H' ⟨b, c, t, rfl, -⟩ hg _; cases hg
  simp (disch := (first | (simp only [ne_eq,Nat.reduceEqDiff,not_false_eq_true,Nat.reduceLT]; done) | omega | (simp only [yz] <;> omega) | fail)) only [↓yp,yq0,yq1,yq2,yq3,yq4,yl,ys0,ys1,Nat.reduceAdd,Nat.reduceMul,Nat.reduceSub,Nat.reduceBEq,Nat.reduceEqDiff,Nat.reduceLT,Nat.reduceLeDiff,reduceIte,Int.reduceAdd,Int.reduceSub,Int.reduceMul,Int.reduceLT,Int.reduceLE,Int.reduceEq,Int.reduceToNat,Int.reduceNeg,fitB,newC,endD,endR,yrg]
  refine c87 h hL (by omega) (by omega) ?_
  rintro f1 n H1 - p1 p2 hc1 hx1 hs1
  simp (disch := (first | (simp only [ne_eq,Nat.reduceEqDiff,not_false_eq_true,Nat.reduceLT]; done) | omega | (simp only [yz] <;> omega) | fail)) only [↓yp,yq0,yq1,yq2,yq3,yq4,yl,ys0,ys1,Nat.reduceAdd,Nat.reduceMul,Nat.reduceSub,Nat.reduceBEq,Nat.reduceEqDiff,Nat.reduceLT,Nat.reduceLeDiff,reduceIte,Int.reduceAdd,Int.reduceSub,Int.reduceMul,Int.reduceLT,Int.reduceLE,Int.reduceEq,Int.reduceToNat,Int.reduceNeg,fitB,newC,endD,endR,yrg]
  refine W_while (n := 22) 600 (fun q' e' H' => ∃ (i : Nat) (u : Int) (l : List Stp) (S : Nat → Prop) (v : Value), q' = (n - i).toNat ∧ (i : Int) ≤ n ∧ MT H H' k a bs cap q n i u l S v e')
    ?_ 4 n.toNat ⟨0, 0, [], fun _ => False, .slice none 0 0, by omega, by omega, ?_⟩ (by omega) (by omega)
  rotate_left
  · refine ⟨?_, ?_, ?_, ?_, ?_, hc1, hx1, Gw.none, fun _ h => h.elim, rfl, by omega, by simp, trivial⟩
    · simp (disch := (first | (simp only [ne_eq,Nat.reduceEqDiff,not_false_eq_true,Nat.reduceLT]; done) | omega | (simp only [yz] <;> omega) | fail)) only [yg,Nat.reduceAdd,Nat.reduceEqDiff,Nat.reduceLT]; rfl
    · simp (disch := (first | (simp only [ne_eq,Nat.reduceEqDiff,not_false_eq_true,Nat.reduceLT]; done) | omega | (simp only [yz] <;> omega) | fail)) only [yg,Nat.reduceAdd,Nat.reduceEqDiff,Nat.reduceLT]
    · simp (disch := (first | (simp only [ne_eq,Nat.reduceEqDiff,not_false_eq_true,Nat.reduceLT]; done) | omega | (simp only [yz] <;> omega) | fail)) only [yg,Nat.reduceAdd,Nat.reduceEqDiff,Nat.reduceLT]
    · simp (disch := (first | (simp only [ne_eq,Nat.reduceEqDiff,not_false_eq_true,Nat.reduceLT]; done) | omega | (simp only [yz] <;> omega) | fail)) only [yg,Nat.reduceAdd,Nat.reduceEqDiff,Nat.reduceLT]
    · simp (disch := (first | (simp only [ne_eq,Nat.reduceEqDiff,not_false_eq_true,Nat.reduceLT]; done) | omega | (simp only [yz] <;> omega) | fail)) only [yg,Nat.reduceAdd,Nat.reduceEqDiff,Nat.reduceLT]
  clear hc1 hx1 hs1 H1
  rintro M1 q' e H1 ⟨i, u, l, S, v, rfl, hi, I⟩
  have g7 := I.g7
  have g6 := I.g6
  have g4 := I.g4
  have g3 := I.g3
  have g0 := I.g0
  have f0 := I.fr.size
  have hu2 := I.ub
  simp (disch := (first | (simp only [ne_eq,Nat.reduceEqDiff,not_false_eq_true,Nat.reduceLT]; done) | omega | (simp only [yz] <;> omega) | fail)) only [↓yp,yq0,yq1,yq2,yq3,yq4,yl,ys0,ys1,Nat.reduceAdd,Nat.reduceMul,Nat.reduceSub,Nat.reduceBEq,Nat.reduceEqDiff,Nat.reduceLT,Nat.reduceLeDiff,reduceIte,Int.reduceAdd,Int.reduceSub,Int.reduceMul,Int.reduceLT,Int.reduceLE,Int.reduceEq,Int.reduceToNat,Int.reduceNeg,fitB,newC,endD,endR,yrg,g7,g6]
  refine ⟨fun hA => ?_, fun hA => ?_⟩
  · have hlt' : (i : Int) < n := by simpa using hA
    have hw2 : w64 ((i : Int) + 1) = ((i + 1 : Nat) : Int) := by rw [w64_of (by omega)]; omega
    simp (disch := (first | (simp only [ne_eq,Nat.reduceEqDiff,not_false_eq_true,Nat.reduceLT]; done) | omega | (simp only [yz] <;> omega) | fail)) only [↓yp,yq0,yq1,yq2,yq3,yq4,yl,ys0,ys1,Nat.reduceAdd,Nat.reduceMul,Nat.reduceSub,Nat.reduceBEq,Nat.reduceEqDiff,Nat.reduceLT,Nat.reduceLeDiff,reduceIte,Int.reduceAdd,Int.reduceSub,Int.reduceMul,Int.reduceLT,Int.reduceLE,Int.reduceEq,Int.reduceToNat,Int.reduceNeg,fitB,newC,endD,endR,yrg,g0,g4]
    refine c87g I.chu hL (by omega) (by omega) (by omega) ?_
    rintro f2 w H2 - r1 r2 hc2 hx2 hs2
    have wu : w64 (u + w) = u + w := w64_of (by omega)
    simp (disch := (first | (simp only [ne_eq,Nat.reduceEqDiff,not_false_eq_true,Nat.reduceLT]; done) | omega | (simp only [yz] <;> omega) | fail)) only [↓yp,yq0,yq1,yq2,yq3,yq4,yl,ys0,ys1,Nat.reduceAdd,Nat.reduceMul,Nat.reduceSub,Nat.reduceBEq,Nat.reduceEqDiff,Nat.reduceLT,Nat.reduceLeDiff,reduceIte,Int.reduceAdd,Int.reduceSub,Int.reduceMul,Int.reduceLT,Int.reduceLE,Int.reduceEq,Int.reduceToNat,Int.reduceNeg,fitB,newC,endD,endR,yrg,g0,g3,wu]
    refine c43 hc2 hL (by omega) (by omega) ?_
    rintro f3 p H3 - ⟨r3, r4⟩ hc3 hx3 hs3
    have f32 := hx2.trans hx3
    have sz3 : H3.size = H1.size := by omega
    simp (disch := (first | (simp only [ne_eq,Nat.reduceEqDiff,not_false_eq_true,Nat.reduceLT]; done) | omega | (simp only [yz] <;> omega) | fail)) only [↓yp,yq0,yq1,yq2,yq3,yq4,yl,ys0,ys1,Nat.reduceAdd,Nat.reduceMul,Nat.reduceSub,Nat.reduceBEq,Nat.reduceEqDiff,Nat.reduceLT,Nat.reduceLeDiff,reduceIte,Int.reduceAdd,Int.reduceSub,Int.reduceMul,Int.reduceLT,Int.reduceLE,Int.reduceEq,Int.reduceToNat,Int.reduceNeg,fitB,newC,endD,endR,yrg,g3,A_build st_bdS_26,A_buildSlice st_brS_22_1]
    have gw3 : Gw H3 k S v i (stE.fl l) 26 2 := I.gw.frx (fun hk => by have := (I.gw.own k hk).1; omega) f32
    refine gw_append (i := i) (cs := stE.fl l) (news := [.int .i64 (u + w), .int .i64 p]) st_apS_22 (gw3.fr (Fr.alloc _ _)) (by (first | omega | (simp only [yz] <;> omega))) (by rw [fl_length, I.len]; rfl) (by unfold srcCells; simp (disch := (first | (simp only [ne_eq,Nat.reduceEqDiff,not_false_eq_true,Nat.reduceLT]; done) | omega | (simp only [yz] <;> omega) | fail)) only [yg,Nat.reduceAdd,Nat.reduceEqDiff,Nat.reduceLT]; rfl) (by omega) (by omega) rfl (by omega) ?_
    intro a1 c1 H4 hs4 fs4 gw4
    simp only [size_alloc] at hs4 fs4
    rw [show stE.fl l ++ [Value.int .i64 (u + w), Value.int .i64 p] = stE.fl (l ++ [⟨u + w, p⟩]) by rw [fl_app]; rfl] at gw4
    simp (disch := (first | (simp only [ne_eq,Nat.reduceEqDiff,not_false_eq_true,Nat.reduceLT]; done) | omega | (simp only [yz] <;> omega) | fail)) only [↓yp,yq0,yq1,yq2,yq3,yq4,yl,ys0,ys1,Nat.reduceAdd,Nat.reduceMul,Nat.reduceSub,Nat.reduceBEq,Nat.reduceEqDiff,Nat.reduceLT,Nat.reduceLeDiff,reduceIte,Int.reduceAdd,Int.reduceSub,Int.reduceMul,Int.reduceLT,Int.reduceLE,Int.reduceEq,Int.reduceToNat,Int.reduceNeg,fitB,newC,endD,endR,yrg,g7,hw2]
    have fx4 : FrX k H H4 := ⟨by omega, fun j h1 h2 => by
      rw [fs4 j (by omega) (fun hS => by have := I.old j hS; omega), get_alloc_lt (by omega), f32.same j (by omega) h2]
      exact I.fr.same j h1 h2⟩
    have hck : Chu H4 k a bs cap (q + 1 + 2 * i + 1 + 1) := by
      refine h.again fx4 ?_
      rw [fs4 k (by omega) (fun hS => by have := (I.gw.own k hS).1; omega), get_alloc_lt (by omega)]
      exact hc3.blk
    refine ⟨(n - (i + 1 : Nat)).toNat, by omega, i + 1, u + w, l ++ [⟨u + w, p⟩], _, _, rfl, by omega, ?_, ?_, ?_, ?_, ?_, hck.mono (by omega), fx4, gw4, ?_, by simp [I.len], by omega, ?_, ?_⟩
    · simp (disch := (first | (simp only [ne_eq,Nat.reduceEqDiff,not_false_eq_true,Nat.reduceLT]; done) | omega | (simp only [yz] <;> omega) | fail)) only [yg,Nat.reduceAdd,Nat.reduceEqDiff,Nat.reduceLT]
    · simp (disch := (first | (simp only [ne_eq,Nat.reduceEqDiff,not_false_eq_true,Nat.reduceLT]; done) | omega | (simp only [yz] <;> omega) | fail)) only [yg,Nat.reduceAdd,Nat.reduceEqDiff,Nat.reduceLT,g6]
    · simp (disch := (first | (simp only [ne_eq,Nat.reduceEqDiff,not_false_eq_true,Nat.reduceLT]; done) | omega | (simp only [yz] <;> omega) | fail)) only [yg,Nat.reduceAdd,Nat.reduceEqDiff,Nat.reduceLT]
    · simp (disch := (first | (simp only [ne_eq,Nat.reduceEqDiff,not_false_eq_true,Nat.reduceLT]; done) | omega | (simp only [yz] <;> omega) | fail)) only [yg,Nat.reduceAdd,Nat.reduceEqDiff,Nat.reduceLT]
    · simp (disch := (first | (simp only [ne_eq,Nat.reduceEqDiff,not_false_eq_true,Nat.reduceLT]; done) | omega | (simp only [yz] <;> omega) | fail)) only [yg,Nat.reduceAdd,Nat.reduceEqDiff,Nat.reduceLT,g0]
    · rintro j (hj | rfl)
      · exact I.old j hj
      · simp only [size_alloc]; omega
    · intro s hs
      rcases List.mem_append.1 hs with hs | hs
      · exact ⟨(I.ok s hs).1, by have := (I.ok s hs).2; omega⟩
      · simp only [List.mem_singleton] at hs
        subst hs
        exact ⟨⟨by show 1 ≤ u + w ∧ u + w ≤ 20000; omega, by show 0 ≤ p ∧ p ≤ 500; omega⟩, by show u + w ≤ u + w; omega⟩
    · exact rise_app I.up (fun x hx => (I.ok x hx).2) hu2.1 (by show u < u + w; omega)
  · have hie : (i : Int) = n := by have := of_decide_eq_false hA; omega
    obtain ⟨b, al, ev, hb, -⟩ := I.gw.cons (by omega)
    subst ev
    simp (disch := (first | (simp only [ne_eq,Nat.reduceEqDiff,not_false_eq_true,Nat.reduceLT]; done) | omega | (simp only [yz] <;> omega) | fail)) only [↓yp,yq0,yq1,yq2,yq3,yq4,yl,ys0,ys1,Nat.reduceAdd,Nat.reduceMul,Nat.reduceSub,Nat.reduceBEq,Nat.reduceEqDiff,Nat.reduceLT,Nat.reduceLeDiff,reduceIte,Int.reduceAdd,Int.reduceSub,Int.reduceMul,Int.reduceLT,Int.reduceLE,Int.reduceEq,Int.reduceToNat,Int.reduceNeg,fitB,newC,endD,endR,yrg,g3]
    have gw := I.gw
    have hl := I.len
    subst hl
    refine ⟨b, _, l, rfl, ⟨by omega, fun s hs => (I.ok s hs).1, I.up⟩, fun s hs => by have := (I.ok s hs).2; omega, Gw.rx (E := stE) gw (fun hS => by have := (gw.own k hS).1; omega), I.old b hb, I.chu.mono (by omega), I.fr⟩
end
end Go.Am
/- Wrap, Copy of steps; the law FeeCosts. -/
namespace Go.Am
open Go.Proofs
variable {T : Tab} {P : Program} {N L : Nat} {H H' H'' : AHeap} {Q : Bool → Value → AHeap → Prop}
def wrapV (v n : Int) : Int := if v.tmod n < 0 then v.tmod n + n else v.tmod n
theorem wrapV_in {v n : Int} (hn : 1 ≤ n) : 0 ≤ wrapV v n ∧ wrapV v n < n := by
  have h1 := Int.tmod_lt_of_pos v (show 0 < n by omega)
  have h2 : -n < v.tmod n := by
    have := Int.tmod_lt_of_pos (-v) (show 0 < n by omega)
    rw [Int.neg_tmod] at this
    omega
  unfold wrapV
  split <;> omega
theorem c44 {v n : Int} (hn : 1 ≤ n ∧ n ≤ 1000000) : acall tabA (aexec tabA Try.prog (N + 40)) 44 [.int .i64 v, .int .i64 n] H = some (true, .int .i64 (wrapV v n), H, H.size) := by
  refine call_quiet (k := 16) (rs := [.tmp 4]) rfl fn_44 rfl rfl rfl ?_ rfl
  have h1 : decide (n < 1) = false := by simp; omega
  have hrem := fun (x y : Operand) => i64_rem (T := tabA) (P := Try.prog) (ty := 3) (x := x) (y := y) (a := v) (b := n) (by omega)
  have h2 := Int.tmod_lt_of_pos v (show 0 < n by omega)
  have h3 : -n < v.tmod n := by
    have := Int.tmod_lt_of_pos (-v) (show 0 < n by omega)
    rw [Int.neg_tmod] at this
    omega
  have w1 : w64 (v.tmod n + n) = v.tmod n + n := w64_of (by omega)
  unfold wrapV
  cases hA : decide (v.tmod n < 0)
  · have hA' := of_decide_eq_false hA
    rw [if_neg hA']
    simp (disch := (first | (simp only [ne_eq,Nat.reduceEqDiff,not_false_eq_true,Nat.reduceLT]; done) | omega | (simp only [yz] <;> omega) | fail)) only [↓yp,yq0,yq1,yq2,yq3,yq4,yl,ys0,ys1,Nat.reduceAdd,Nat.reduceMul,Nat.reduceSub,Nat.reduceBEq,Nat.reduceEqDiff,Nat.reduceLT,Nat.reduceLeDiff,reduceIte,Int.reduceAdd,Int.reduceSub,Int.reduceMul,Int.reduceLT,Int.reduceLE,Int.reduceEq,Int.reduceToNat,Int.reduceNeg,fitB,newC,endD,endR,yrg,h1,hrem,hA]
  · have hA' := of_decide_eq_true hA
    rw [if_pos hA']
    simp (disch := (first | (simp only [ne_eq,Nat.reduceEqDiff,not_false_eq_true,Nat.reduceLT]; done) | omega | (simp only [yz] <;> omega) | fail)) only [↓yp,yq0,yq1,yq2,yq3,yq4,yl,ys0,ys1,Nat.reduceAdd,Nat.reduceMul,Nat.reduceSub,Nat.reduceBEq,Nat.reduceEqDiff,Nat.reduceLT,Nat.reduceLeDiff,reduceIte,Int.reduceAdd,Int.reduceSub,Int.reduceMul,Int.reduceLT,Int.reduceLE,Int.reduceEq,Int.reduceToNat,Int.reduceNeg,fitB,newC,endD,endR,yrg,h1,hrem,hA,w1]
section
variable {a a' : Option Addr} {cap cap' : Nat} {ps : List Stp}
theorem c13 (hs : Rw stE H a ps) (hne : ps ≠ []) (hl : ps.length ≤ 65) (hL : L ≤ H.size) {M : Nat} (hM : 60 ≤ M)
    (hq : ∀ k H', Fr H H' → H.size ≤ k → k < H'.size → H'.get k = .rw (stE.fl ps) 26 true [] → Q false (.slice (some ⟨k, 0, none⟩) ps.length (OPEN + 2)) H') : resK (acall tabA (aexec tabA Try.prog M) 13 [.slice a ps.length cap] H) L Q := by
  obtain ⟨N, rfl⟩ : ∃ N, M = N + 60 := ⟨M - 60, by omega⟩
  obtain ⟨b, o, c, rfl, -⟩ := hs.get hne
  refine call_fls (R := fun v H' => ∃ k, v = .slice (some ⟨k, 0, none⟩) ps.length (OPEN + 2) ∧ Fr H H' ∧ H.size ≤ k ∧ k < H'.size ∧ H'.get k = .rw (stE.fl ps) 26 true []) (k := 9) (rs := [.tmp 2]) rfl fn_13 rfl rfl rfl hL ?_ ?_ ?_
  · have hpos : 0 < ps.length := List.length_pos_iff.2 hne
    have h0 : decide ((ps.length : Int) = 0) = false := by simp; omega
    simp (disch := (first | (simp only [ne_eq,Nat.reduceEqDiff,not_false_eq_true,Nat.reduceLT]; done) | omega | (simp only [yz] <;> omega) | fail)) only [↓yp,yq0,yq1,yq2,yq3,yq4,yl,ys0,ys1,Nat.reduceAdd,Nat.reduceMul,Nat.reduceSub,Nat.reduceBEq,Nat.reduceEqDiff,Nat.reduceLT,Nat.reduceLeDiff,reduceIte,Int.reduceAdd,Int.reduceSub,Int.reduceMul,Int.reduceLT,Int.reduceLE,Int.reduceEq,Int.reduceToNat,Int.reduceNeg,fitB,newC,endD,endR,yrg,lenV_slice st_esS_22,h0,A_buildSlice st_brS_22_0]
    rw [apK_empty (H := _) (n := ps.length) st_apS_22 ((hs.fr (Fr.alloc _ _)).src hne) hpos (by omega) (by omega) (one_fl ps) (c₀ := []) (by simp (disch := (first | (simp only [ne_eq,Nat.reduceEqDiff,not_false_eq_true,Nat.reduceLT]; done) | omega | (simp only [yz] <;> omega) | fail)) only [yg,Nat.reduceAdd,Nat.reduceEqDiff,Nat.reduceLT])]
    simp (disch := (first | (simp only [ne_eq,Nat.reduceEqDiff,not_false_eq_true,Nat.reduceLT]; done) | omega | (simp only [yz] <;> omega) | fail)) only [↓yp,yq0,yq1,yq2,yq3,yq4,yl,ys0,ys1,Nat.reduceAdd,Nat.reduceMul,Nat.reduceSub,Nat.reduceBEq,Nat.reduceEqDiff,Nat.reduceLT,Nat.reduceLeDiff,reduceIte,Int.reduceAdd,Int.reduceSub,Int.reduceMul,Int.reduceLT,Int.reduceLE,Int.reduceEq,Int.reduceToNat,Int.reduceNeg,fitB,newC,endD,endR,yrg]
    exact ⟨_, rfl, by (repeat (first | exact Fr.refl _ | assumption | refine Fr.allocd ?_ _ | refine Fr.kill ?_ (by first | assumption | omega) | refine Fr.put ?_ (by first | omega | (simp only [yz] <;> omega)) _)), by (first | omega | (simp only [yz] <;> omega)), by (first | omega | (simp only [yz] <;> omega)), by simp (disch := (first | (simp only [ne_eq,Nat.reduceEqDiff,not_false_eq_true,Nat.reduceLT]; done) | omega | (simp only [yz] <;> omega) | fail)) only [yg,Nat.reduceAdd,Nat.reduceEqDiff,Nat.reduceLT]⟩
  · rintro v H' ⟨k, rfl, -⟩; rfl
  · rintro v H' ⟨k, rfl, h1, h2, h3, h4⟩
    exact hq _ _ h1 h2 h3 h4
end
theorem neB {x y : Operand} {b : Bool} : binV tabA Try.prog .neq 4 x y (.bool b) (.bool b) = some (.bool false) := by cases b <;> kernel_rfl
end Go.Am
/- The law FeeCosts. -/
namespace Go.Am
open Go.Proofs
variable {T : Tab} {P : Program} {N L : Nat} {H H' H'' : AHeap} {Q : Bool → Value → AHeap → Prop}
theorem rise_last : ∀ {t : List Stp} {b : Int} {l y : Stp}, rise b t → t[t.length - 1]? = some l → y ∈ t → y.u ≤ l.u
  | [], b, l, y, _, h, _ => by simp at h
  | [x], b, l, y, _, h, hy => by
    simp at h hy
    subst h hy
    exact Int.le_refl _
  | x :: x' :: t, b, l, y, h, hl, hy => by
    have hl' : (x' :: t)[(x' :: t).length - 1]? = some l := by simpa using hl
    rcases List.mem_cons.1 hy with rfl | hy
    · have := rise_last h.2 hl' (y := x') (by simp)
      have := h.2.1
      omega
    · exact rise_last h.2 hl' hy
theorem plan10 {ops : List Oper} {env : Nat → Value} {blk : Nat} {u : Int} {v : Value} (hd : ops.map (·.dst) = [some 198, some 199, some 200, some 201, some 202, some 203, some 204, some 205, some 206, some 207, some 197, some 208, some 209, some 26, some 27]) (h25 : env 25 = .pointer (some ⟨blk, 0, none⟩)) (hb : cellsOf (H.get blk) = some [.int .i64 u, v]) : tabA.plan ops env H = some [(6, .rw [.int .i64 (w64 (u + 7)), .int .i64 500] 26 false [])] := by
  show planK ops env H = _
  unfold planK
  rw [hd, if_neg (by decide), if_neg (by decide), if_pos rfl, h25]
  simp only [hb]
/-- What the law knows when it has seen the pounds. -/
structure I10 (H H2 : AHeap) (b c : Nat) (t : List Stp) (n mo : Nat) (p : Int) (e : VT) : Prop where
  rt : Rw stE H2 (some ⟨b, 0, none⟩) t
  tok : TarOk t
  hu : ∀ s ∈ t, s.u ≤ 3600
  fr : Fr H H2
  hn : n < 6000
  hp : 0 ≤ p
  hmo : PdR t p mo
  g7 : gt 221 e 7 = .slice (some ⟨b, 0, none⟩) t.length c
  g8 : gt 221 e 8 = .int .i64 (n : Nat)
  g9 : gt 221 e 9 = .int .i64 p
  g10 : gt 221 e 10 = .int .i64 (whl (cts t n))
  g14 : gt 221 e 14 = .int .i64 (mo : Nat)
section
variable {b c n mo : Nat} {t : List Stp} {p : Int} {e : VT}
set_option maxHeartbeats 8000000 in
set_option maxRecDepth 10000 in
theorem c10b (I : I10 H H' b c t n mo p e) :
    W tabA Try.prog (N + 7900) none (sub [true, true, true, true, true, true, true, true, true, true, true] (bodyOf Try.f10)) H.size ⟨221, e, H', []⟩ (retK tabA H.size [.tmp 6] fun u _ => u = .bool true) := by
  have haw := fun (N : Nat) (H : AHeap) => awake_known (ex := aexec tabA Try.prog N) (H := H)
  have sz := I.fr.size
  have g7 := I.g7
  have g8 := I.g8
  have g9 := I.g9
  have g10 := I.g10
  have g14 := I.g14
  have hn := I.hn
  have tok := I.tok
  have hl := tok.len
  have hif : decide ((n : Int) ≤ (mo : Int)) = decide (whl (cts t n) ≤ p) := by
    rw [decide_eq_decide, ← I.hmo.iff tok I.hp (by omega)]; omega
  obtain ⟨bf, hbf⟩ : ∃ bf, decide (whl (cts t n) ≤ p) = bf := ⟨_, rfl⟩
  rw [hbf] at hif
  obtain ⟨s0, h0⟩ : ∃ s, t[0]? = some s := ⟨t[0]'(by omega), by simp⟩
  obtain ⟨l, hlast⟩ : ∃ s, t[t.length - 1]? = some s := ⟨t[t.length - 1]'(by omega), by simp⟩
  obtain ⟨b0, o0, cc, eb, hb0, hcc, hq0⟩ := I.rt.at_ h0
  cases eb
  obtain ⟨b1, o1, cc1, eb, hb1, hcc1, hq1⟩ := I.rt.at_ hlast
  cases eb
  rw [hcc] at hcc1
  cases hcc1
  have q0 : part cc (0 + 0 * 2) 3 = some (.agg ⟨s0.enc⟩) := part_of hq0 rfl
  have q1 : part cc (0 + (t.length - 1) * 2) 3 = some (.agg ⟨l.enc⟩) := part_of hq1 rfl
  have ok0 := tok.ok s0 (List.mem_of_getElem? h0)
  have okl := tok.ok l (List.mem_of_getElem? hlast)
  have hul := I.hu l (List.mem_of_getElem? hlast)
  simp only [Stp.enc] at q0 q1
  rw [Nat.zero_add] at q1
  have e1 : TarOk [s0] := ⟨by simp, by simpa using ok0, ⟨by have := ok0.u; omega, trivial⟩⟩
  have h17f := fun (N : Nat) (m : Int) (hm : 0 ≤ m ∧ m ≤ 20000) => c17 (N := N) (H := H'.alloc (.rw [.int .i64 s0.u, .int .i64 s0.p] 26 false [])) (a := some ⟨H'.size, 0, none⟩) (cap := 1) (n := m) (t := [s0]) (Rw.of (r := []) (by (first | omega | (simp only [yz] <;> omega))) (by simp (disch := (first | (simp only [ne_eq,Nat.reduceEqDiff,not_false_eq_true,Nat.reduceLT]; done) | omega | (simp only [yz] <;> omega) | fail)) only [yg,Nat.reduceAdd,Nat.reduceEqDiff,Nat.reduceLT]; rfl) rfl) e1 hm
  rw [show [s0].length = 1 from rfl] at h17f
  have t3 : (n : Int).tdiv 3 = ((n / 3 : Nat) : Int) := by rw [Int.tdiv_eq_ediv_of_nonneg (by omega)]; omega
  have w3 : w64 ((n / 3 : Nat) : Int) = ((n / 3 : Nat) : Int) := w64_of (by omega)
  have w4 : w64 ((n : Int) - ((n / 3 : Nat) : Int)) = ((n - n / 3 : Nat) : Int) := by rw [w64_of (by omega)]; omega
  have hpa := cts_parts (p := s0.p) (x := ((n / 3 : Nat) : Int)) (y := ((n - n / 3 : Nat) : Int)) (by omega) (by omega) ok0.p.1
  rw [show ((n / 3 : Nat) : Int) + ((n - n / 3 : Nat) : Int) = (n : Int) by omega] at hpa
  rw [← cts_one, ← cts_one, ← cts_one] at hpa
  have bd : ∀ m : Nat, m ≤ 6000 → 0 ≤ whl (cts [s0] m) ∧ whl (cts [s0] m) ≤ 100000 := fun m hm => by
    have := cts_le e1 m
    rw [whl_eq this.1]; omega
  have bd1 := bd (n / 3) (by omega)
  have bd2 := bd (n - n / 3) (by omega)
  have bd3 := bd n (by omega)
  obtain ⟨X, hX⟩ : ∃ X, whl (cts [s0] ((n / 3 : Nat) : Int)) = X := ⟨_, rfl⟩
  obtain ⟨Y, hY⟩ : ∃ Y, whl (cts [s0] ((n - n / 3 : Nat) : Int)) = Y := ⟨_, rfl⟩
  obtain ⟨Z, hZ⟩ : ∃ Z, whl (cts [s0] (n : Int)) = Z := ⟨_, rfl⟩
  rw [hX, hY, hZ] at hpa
  rw [hX] at bd1
  rw [hY] at bd2
  rw [hZ] at bd3
  have w5 : w64 (X + Y) = X + Y := w64_of (by omega)
  have w6 : w64 (Z + 1) = Z + 1 := w64_of (by omega)
  have c1 : decide (X + Y < Z) = false := by simp; omega
  have c2 : decide (Z + 1 < X + Y) = false := by simp; omega
  have w7 : w64 ((t.length : Int) - 1) = ((t.length - 1 : Nat) : Int) := by rw [w64_of (by omega)]; omega
  have b0' : decide ((0 : Int) = 0) = true := by simp
  simp only [Try.f10,bodyOf,sub_nil,sub_seq0,sub_seq1,sub_block,sub_loop,sub_cond0,sub_cond1]
  cases hF : decide ((t.length : Int) < 4)
  · simp (disch := (first | (simp only [ne_eq,Nat.reduceEqDiff,not_false_eq_true,Nat.reduceLT]; done) | omega | (simp only [yz] <;> omega) | fail)) only [↓yp,yq0,yq1,yq2,yq3,yq4,yl,ys0,ys1,Nat.reduceAdd,Nat.reduceMul,Nat.reduceSub,Nat.reduceBEq,Nat.reduceEqDiff,Nat.reduceLT,Nat.reduceLeDiff,reduceIte,Int.reduceAdd,Int.reduceSub,Int.reduceMul,Int.reduceLT,Int.reduceLE,Int.reduceEq,Int.reduceToNat,Int.reduceNeg,fitB,newC,endD,endR,yrg,haw,g7,g8,g9,g10,g14,hif,hbf,neB,A_indexSlice st_esS_22,hcc,q0,q1,A_buildSlice st_brS_22_1,i64_quo,t3,w3,w4,h17f,hX,hY,hZ,w5,w6,c1,c2,lenV_slice st_esS_22,w7,b0',hF]
  cases hG : decide ((n : Int) ≤ l.u)
  · simp (disch := (first | (simp only [ne_eq,Nat.reduceEqDiff,not_false_eq_true,Nat.reduceLT]; done) | omega | (simp only [yz] <;> omega) | fail)) only [↓yp,yq0,yq1,yq2,yq3,yq4,yl,ys0,ys1,Nat.reduceAdd,Nat.reduceMul,Nat.reduceSub,Nat.reduceBEq,Nat.reduceEqDiff,Nat.reduceLT,Nat.reduceLeDiff,reduceIte,Int.reduceAdd,Int.reduceSub,Int.reduceMul,Int.reduceLT,Int.reduceLE,Int.reduceEq,Int.reduceToNat,Int.reduceNeg,fitB,newC,endD,endR,yrg,haw,g7,g8,g9,g10,g14,hif,hbf,neB,A_indexSlice st_esS_22,hcc,q0,q1,A_buildSlice st_brS_22_1,i64_quo,t3,w3,w4,h17f,hX,hY,hZ,w5,w6,c1,c2,lenV_slice st_esS_22,w7,b0',hF,hG]
  simp (disch := (first | (simp only [ne_eq,Nat.reduceEqDiff,not_false_eq_true,Nat.reduceLT]; done) | omega | (simp only [yz] <;> omega) | fail)) only [↓yp,yq0,yq1,yq2,yq3,yq4,yl,ys0,ys1,Nat.reduceAdd,Nat.reduceMul,Nat.reduceSub,Nat.reduceBEq,Nat.reduceEqDiff,Nat.reduceLT,Nat.reduceLeDiff,reduceIte,Int.reduceAdd,Int.reduceSub,Int.reduceMul,Int.reduceLT,Int.reduceLE,Int.reduceEq,Int.reduceToNat,Int.reduceNeg,fitB,newC,endD,endR,yrg,haw,g7,g8,g9,g10,g14,hif,hbf,neB,A_indexSlice st_esS_22,hcc,q0,q1,A_buildSlice st_brS_22_1,i64_quo,t3,w3,w4,h17f,hX,hY,hZ,w5,w6,c1,c2,lenV_slice st_esS_22,w7,b0',hF,hG]
  refine W_drawR (pl := [(6, .rw [.int .i64 (w64 (l.u + 7)), .int .i64 500] 26 false [])]) [1, 7] [(9, 0), (9, 1)] (plan10 (blk := H'.size + 1) (u := l.u) (v := .int .i64 l.p) rfl (by simp (disch := (first | (simp only [ne_eq,Nat.reduceEqDiff,not_false_eq_true,Nat.reduceLT]; done) | omega | (simp only [yz] <;> omega) | fail)) only [yg,Nat.reduceAdd,Nat.reduceEqDiff,Nat.reduceLT]) (by simp (disch := (first | (simp only [ne_eq,Nat.reduceEqDiff,not_false_eq_true,Nat.reduceLT]; done) | omega | (simp only [yz] <;> omega) | fail)) only [yg,Nat.reduceAdd,Nat.reduceEqDiff,Nat.reduceLT])) (by kernel_rfl) (by kernel_rfl) (by kernel_rfl) (by (first | omega | (simp only [yz] <;> omega))) ?_
  simp (disch := (first | (simp only [ne_eq,Nat.reduceEqDiff,not_false_eq_true,Nat.reduceLT]; done) | omega | (simp only [yz] <;> omega) | fail)) only [↓yp,yq0,yq1,yq2,yq3,yq4,yl,ys0,ys1,Nat.reduceAdd,Nat.reduceMul,Nat.reduceSub,Nat.reduceBEq,Nat.reduceEqDiff,Nat.reduceLT,Nat.reduceLeDiff,reduceIte,Int.reduceAdd,Int.reduceSub,Int.reduceMul,Int.reduceLT,Int.reduceLE,Int.reduceEq,Int.reduceToNat,Int.reduceNeg,fitB,newC,endD,endR,yrg,g7]
  refine c13 (I.rt.fr (by (repeat (first | exact Fr.refl _ | assumption | refine Fr.allocd ?_ _ | refine Fr.kill ?_ (by first | assumption | omega) | refine Fr.put ?_ (by first | omega | (simp only [yz] <;> omega)) _)))) (fun h => by rw [h] at hl; simp at hl) (by omega) (by (first | omega | (simp only [yz] <;> omega))) (by omega) ?_
  intro kk H3 fr3 k1 k2 k3
  have s3 := fr3.same
  have f3 := fr3.size
  simp only [size_alloc,size_put,allocs] at s3 f3 k1
  have hxs : srcCells H3 ⟨H'.size + 1 + 1, 0, none⟩ (1 * 2) = some [.int .i64 (w64 (l.u + 7)), .int .i64 500] := by
    unfold srcCells
    rw [s3 (H'.size + 1 + 1) (by omega)]
    simp (disch := (first | (simp only [ne_eq,Nat.reduceEqDiff,not_false_eq_true,Nat.reduceLT]; done) | omega | (simp only [yz] <;> omega) | fail)) only [yg,Nat.reduceAdd,Nat.reduceEqDiff,Nat.reduceLT]; rfl
  have hmin : H.size ≤ minAl kk [] := by show H.size ≤ kk; omega
  obtain ⟨H5, hH5⟩ : ∃ H5, ((H3.kill []).put kk (.ro (stE.fl t))).alloc (.rw (stE.fl t ++ [.int .i64 (w64 (l.u + 7)), .int .i64 500]) 26 true [kk]) = H5 := ⟨_, rfl⟩
  have hap : ∀ Q : Bool → Value → AHeap → Prop, apK tabA H3 22 (.slice (some ⟨kk, 0, none⟩) t.length (OPEN + 2)) (.slice (some ⟨H'.size + 1 + 1, 0, none⟩) 1 1) H.size Q = andK (H.size ≤ minAl kk []) (Q false (.slice (some ⟨H3.size, 0, none⟩) (t.length + 1) (OPEN + 2)) H5) := fun Q => by
    rw [← hH5]
    exact apK_more (n := 1) (l := t.length) (L := H.size) (Q := Q) (cap := 1) st_apS_22 hxs (by omega) (by omega) (by omega) rfl k3 (by rw [fl_length]; rfl) (k := OPEN + 2) (s₀ := none) rfl
  have hlu := okl.u
  have wl : w64 (l.u + 7) = l.u + 7 := w64_of (by omega)
  have tok5 : TarOk (t ++ [⟨w64 (l.u + 7), 500⟩]) := by
    refine ⟨by rw [List.length_append, List.length_singleton]; have := of_decide_eq_true hF; omega, fun s hs => ?_, ?_⟩
    · rcases List.mem_append.1 hs with h | h
      · exact tok.ok s h
      · simp only [List.mem_singleton] at h
        subst h
        exact ⟨by show 1 ≤ w64 (l.u + 7) ∧ w64 (l.u + 7) ≤ 20000; rw [wl]; omega, by show (0 : Int) ≤ 500 ∧ (500 : Int) ≤ 500; omega⟩
    · refine rise_app tok.up (m := l.u) (fun y hy => ?_) (by omega) (by show l.u < w64 (l.u + 7); rw [wl]; omega)
      exact rise_last tok.up hlast hy
  have hG' := of_decide_eq_true hG
  have hsame : cts (t ++ [⟨w64 (l.u + 7), 500⟩]) n = cts t n := cts_app tok tok5 (by rw [List.getLast?_eq_getElem?]; exact hlast) hG'
  have r5 : Rw stE H5 (some ⟨H3.size, 0, none⟩) (t ++ [⟨w64 (l.u + 7), 500⟩]) := by
    refine Rw.of (r := []) (by rw [← hH5]; (first | omega | (simp only [yz] <;> omega))) (by rw [← hH5]; simp (disch := (first | (simp only [ne_eq,Nat.reduceEqDiff,not_false_eq_true,Nat.reduceLT]; done) | omega | (simp only [yz] <;> omega) | fail)) only [yg,Nat.reduceAdd,Nat.reduceEqDiff,Nat.reduceLT]; rfl) ?_
    rw [fl_app, List.append_nil]; rfl
  have h17x := fun (N : Nat) => c17 (N := N) (H := H5) (cap := OPEN + 2) (n := n) r5 tok5 (by omega)
  rw [hsame, List.length_append, List.length_singleton] at h17x
  have s5 : ∀ q, q < H'.size + 1 + 1 + 1 → H5.get q = H3.get q := fun q hq => by
    rw [← hH5, get_alloc_lt (by (first | omega | (simp only [yz] <;> omega))), get_put_ne (by omega), get_kill (by simp)]
  have z5 : H5.size = H3.size + 1 := by rw [← hH5]; (first | omega | (simp only [yz] <;> omega))
  simp (disch := (first | (simp only [ne_eq,Nat.reduceEqDiff,not_false_eq_true,Nat.reduceLT]; done) | omega | (simp only [yz] <;> omega) | fail)) only [↓yp,yq0,yq1,yq2,yq3,yq4,yl,ys0,ys1,Nat.reduceAdd,Nat.reduceMul,Nat.reduceSub,Nat.reduceBEq,Nat.reduceEqDiff,Nat.reduceLT,Nat.reduceLeDiff,reduceIte,Int.reduceAdd,Int.reduceSub,Int.reduceMul,Int.reduceLT,Int.reduceLE,Int.reduceEq,Int.reduceToNat,Int.reduceNeg,fitB,newC,endD,endR,yrg,s3,A_build st_bdS_26,newK_row st_brS_22_1,hap,hmin,g7,g8,g10,h17x,s5,z5,haw,b0']
end
section
variable {a : Option Addr} {cap : Nat} {bs : List Int} {e : VT}
set_option maxHeartbeats 8000000 in
set_option maxRecDepth 10000 in
theorem c10 {y z : Int} (hb : Bts H a bs) :
    acall tabA (aexec tabA Try.prog (N + 8000)) 10 [.slice a bs.length cap, .int .i64 y, .int .i64 z] H = some (true, .bool true, H, H.size) := by
  refine call_quiet (k := 221) (rs := [.tmp 6]) rfl fn_10 rfl rfl rfl ?_ rfl
  obtain ⟨TL, hTL⟩ : ∃ c, sub [true, true, true, true, true, true, true, true, true, true, true] (bodyOf Try.f10) = c := ⟨_, rfl⟩
  have hend := fun (H' : AHeap) (b c n mo : Nat) (t : List Stp) (p : Int) (e : VT) (I : I10 H H' b c t n mo p e) => c10b (N := N + 89) I
  rw [hTL] at hend
  simp only [Try.f10,bodyOf,sub_nil,sub_seq0,sub_seq1,sub_block,sub_loop,sub_cond0,sub_cond1] at hTL
  rw [hTL]
  clear hTL
  simp (disch := (first | (simp only [ne_eq,Nat.reduceEqDiff,not_false_eq_true,Nat.reduceLT]; done) | omega | (simp only [yz] <;> omega) | fail)) only [↓yp,yq0,yq1,yq2,yq3,yq4,yl,ys0,ys1,Nat.reduceAdd,Nat.reduceMul,Nat.reduceSub,Nat.reduceBEq,Nat.reduceEqDiff,Nat.reduceLT,Nat.reduceLeDiff,reduceIte,Int.reduceAdd,Int.reduceSub,Int.reduceMul,Int.reduceLT,Int.reduceLE,Int.reduceEq,Int.reduceToNat,Int.reduceNeg,fitB,newC,endD,endR,yrg]
  refine c36 hb (Nat.le_refl _) (by omega) ?_
  intro H1 fr1 hs1 hc1
  simp (disch := (first | (simp only [ne_eq,Nat.reduceEqDiff,not_false_eq_true,Nat.reduceLT]; done) | omega | (simp only [yz] <;> omega) | fail)) only [↓yp,yq0,yq1,yq2,yq3,yq4,yl,ys0,ys1,Nat.reduceAdd,Nat.reduceMul,Nat.reduceSub,Nat.reduceBEq,Nat.reduceEqDiff,Nat.reduceLT,Nat.reduceLeDiff,reduceIte,Int.reduceAdd,Int.reduceSub,Int.reduceMul,Int.reduceLT,Int.reduceLE,Int.reduceEq,Int.reduceToNat,Int.reduceNeg,fitB,newC,endD,endR,yrg]
  refine c45 hc1 (by omega) (Nat.le_refl _) (by omega) ?_
  intro b c t H2 tok hu rw2 hb2 hc2 hx2
  have sz2 := hx2.size
  have rt := rw2.rw
  have hl := tok.len
  have h44 := fun (N : Nat) (H : AHeap) => c44 (N := N) (H := H) (v := y) (n := 6000) (by omega)
  have h44' := fun (N : Nat) (H : AHeap) => c44 (N := N) (H := H) (v := z) (n := 4000) (by omega)
  have hny := wrapV_in (v := y) (n := 6000) (by omega)
  have hpz := wrapV_in (v := z) (n := 4000) (by omega)
  obtain ⟨n, hn⟩ : ∃ n : Nat, wrapV y 6000 = n := ⟨(wrapV y 6000).toNat, by omega⟩
  obtain ⟨p, hp⟩ : ∃ p, wrapV z 4000 = p := ⟨_, rfl⟩
  rw [hn] at h44 hny
  rw [hp] at h44' hpz
  have fr2 : Fr H H2 := hx2.above fr1 (Nat.le_refl _)
  clear hc2 hx2 hc1 hn hp
  have h17 := fun (N : Nat) (n : Int) (hn : 0 ≤ n ∧ n ≤ 20000) => c17 (N := N) (H := H2) (cap := c) (n := n) rt tok hn
  obtain ⟨mo, hmo, h19⟩ := c19 (cap := c) (p := p) rt tok hpz.1
  have h15 := fun (N : Nat) => c15 (N := N) (H := H2) (cap := c) rt (by omega)
  rw [tok.chk] at h15
  have w1 : w64 ((n : Int) + 1) = (n : Int) + 1 := w64_of (by omega)
  have hmle := hmo.le
  have w2 : w64 ((mo : Int) + 1) = (mo : Int) + 1 := w64_of (by omega)
  have e0 : whl (cts t 0) = 0 := by rw [cts_zero tok]; rfl
  obtain ⟨C0, hC0⟩ : ∃ C0, whl (cts t n) = C0 := ⟨_, rfl⟩
  obtain ⟨C1, hC1⟩ : ∃ C1, whl (cts t ((n : Int) + 1)) = C1 := ⟨_, rfl⟩
  have hC01 : C0 ≤ C1 := by
    rw [← hC0, ← hC1]
    exact whl_mono (cts_le tok n).1 (cts_mono tok (m := n + 1) (by omega))
  have hlt1 : decide (C1 < C0) = false := by simp; omega
  have hm0 : decide ((mo : Int) < 0) = false := by simp
  have hm1 : decide (20000 < (mo : Int)) = false := by simp; omega
  obtain ⟨A, hA⟩ : ∃ A, whl (cts t mo) = A := ⟨_, rfl⟩
  have hAp : A ≤ p := by rw [← hA]; exact (hmo.iff tok hpz.1 hmle).1 (Nat.le_refl _)
  have hAp' : decide (p < A) = false := by simp; omega
  have hif : decide ((n : Int) ≤ (mo : Int)) = decide (C0 ≤ p) := by
    have := hmo.iff tok hpz.1 (n := n) (by omega)
    rw [hC0] at this
    rw [decide_eq_decide, ← this, Int.ofNat_le]
  have b0 : decide ((0 : Int) = 0) = true := by simp
  cases hM : decide ((mo : Int) < 20000)
  · simp (disch := (first | (simp only [ne_eq,Nat.reduceEqDiff,not_false_eq_true,Nat.reduceLT]; done) | omega | (simp only [yz] <;> omega) | fail)) only [↓yp,yq0,yq1,yq2,yq3,yq4,yl,ys0,ys1,Nat.reduceAdd,Nat.reduceMul,Nat.reduceSub,Nat.reduceBEq,Nat.reduceEqDiff,Nat.reduceLT,Nat.reduceLeDiff,reduceIte,Int.reduceAdd,Int.reduceSub,Int.reduceMul,Int.reduceLT,Int.reduceLE,Int.reduceEq,Int.reduceToNat,Int.reduceNeg,fitB,newC,endD,endR,yrg,h44,h44',h17,h19,h15,w1,hC0,hC1,e0,hlt1,hm0,hm1,hA,hAp',b0,hM]
    refine hend H2 b c n mo t p _ ⟨rt, tok, hu, fr2, by omega, hpz.1, hmo, ?_, ?_, ?_, ?_, ?_⟩
    all_goals simp (disch := (first | (simp only [ne_eq,Nat.reduceEqDiff,not_false_eq_true,Nat.reduceLT]; done) | omega | (simp only [yz] <;> omega) | fail)) only [yg,Nat.reduceAdd,Nat.reduceEqDiff,Nat.reduceLT,hC0]
  · have hM' := of_decide_eq_true hM
    obtain ⟨B, hB⟩ : ∃ B, whl (cts t ((mo : Int) + 1)) = B := ⟨_, rfl⟩
    have hBp : p < B := by rw [← hB]; exact hmo.hi (by omega)
    have hBp' : decide (B ≤ p) = false := by simp; omega
    simp (disch := (first | (simp only [ne_eq,Nat.reduceEqDiff,not_false_eq_true,Nat.reduceLT]; done) | omega | (simp only [yz] <;> omega) | fail)) only [↓yp,yq0,yq1,yq2,yq3,yq4,yl,ys0,ys1,Nat.reduceAdd,Nat.reduceMul,Nat.reduceSub,Nat.reduceBEq,Nat.reduceEqDiff,Nat.reduceLT,Nat.reduceLeDiff,reduceIte,Int.reduceAdd,Int.reduceSub,Int.reduceMul,Int.reduceLT,Int.reduceLE,Int.reduceEq,Int.reduceToNat,Int.reduceNeg,fitB,newC,endD,endR,yrg,h44,h44',h17,h19,h15,w1,w2,hC0,hC1,e0,hlt1,hm0,hm1,hA,hAp',b0,hM,hB,hBp']
    refine hend H2 b c n mo t p _ ⟨rt, tok, hu, fr2, by omega, hpz.1, hmo, ?_, ?_, ?_, ?_, ?_⟩
    all_goals simp (disch := (first | (simp only [ne_eq,Nat.reduceEqDiff,not_false_eq_true,Nat.reduceLT]; done) | omega | (simp only [yz] <;> omega) | fail)) only [yg,Nat.reduceAdd,Nat.reduceEqDiff,Nat.reduceLT,hC0]
end
end Go.Am
