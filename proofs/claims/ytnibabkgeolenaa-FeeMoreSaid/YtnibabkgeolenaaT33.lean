/- Cost, Pounds. -/
import Derived.Test.YtnibabkgeolenaaT32
set_option linter.unusedSimpArgs false
set_option linter.unusedVariables false
namespace Go.Am
open Go.Proofs
variable {T : Tab} {P : Program} {N L : Nat} {H H' H'' : AHeap} {Q : Bool → Value → AHeap → Prop}
section
variable {a : Option Addr} {cap : Nat} {t : List Stp} {n p : Int}
end
end Go.Am
/- A tariff that is made of numbers. -/
namespace Go.Am
open Go.Proofs
variable {T : Tab} {P : Program} {N L : Nat} {H H' H'' : AHeap} {Q : Bool → Value → AHeap → Prop}
/-- A chute after changes of other blocks. -/
theorem Chu.again {k cap q q' : Nat} {a : Option Addr} {bs : List Int} (h : Chu H k a bs cap q) (f : FrX k H H'') (hb : ∃ u s : Int, H''.get k = .rw [.slice a bs.length cap, .int .i64 u, .int .u64 s] 138 false [] ∧ (0 ≤ u ∧ u ≤ 2 * q') ∧ u ≤ bs.length ∧ 0 ≤ s ∧ s < 18446744073709551616) : Chu H'' k a bs cap q' where
  lt := Nat.lt_of_lt_of_le h.lt f.size
  blk := hb
  row hne := by
    obtain ⟨b, o, c, h1, h2, h3, h4⟩ := h.row hne
    obtain ⟨u, s, h5, _⟩ := h.blk
    exact ⟨b, o, c, h1, Nat.lt_of_lt_of_le h2 f.size, by rw [f.same b h2 (fun e => by subst e; rw [h5] at h3; cases h3)]; exact h3, h4⟩
  byte := h.byte
  len := h.len
section
variable {k cap q i : Nat} {a : Option Addr} {bs : List Int} {n u : Int} {l : List Stp} {S : Nat → Prop} {v : Value} {e e' : VT}
end
end Go.Am
/- Wrap, Copy of steps; the law FeeCosts. -/
namespace Go.Am
open Go.Proofs
variable {T : Tab} {P : Program} {N L : Nat} {H H' H'' : AHeap} {Q : Bool → Value → AHeap → Prop}
def wrapV (v n : Int) : Int := if v.tmod n < 0 then v.tmod n + n else v.tmod n
theorem wrapV_in {v n : Int} (hn : 1 ≤ n) : 0 ≤ wrapV v n ∧ wrapV v n < n := by
  have h1 := Int.tmod_lt_of_pos v (show 0 < n by omega)
  have h2 : -n < v.tmod n := by
    have := Int.tmod_lt_of_pos (-v) (show 0 < n by omega)
    rw [Int.neg_tmod] at this
    omega
  unfold wrapV
  split <;> omega
theorem c44 {v n : Int} (hn : 1 ≤ n ∧ n ≤ 1000000) : acall tabA (aexec tabA Try.prog (N + 40)) 44 [.int .i64 v, .int .i64 n] H = some (true, .int .i64 (wrapV v n), H, H.size) := by
  refine call_quiet (k := 16) (rs := [.tmp 4]) rfl fn_44 rfl rfl rfl ?_ rfl
  have h1 : decide (n < 1) = false := by simp; omega
  have hrem := fun (x y : Operand) => i64_rem (T := tabA) (P := Try.prog) (ty := 3) (x := x) (y := y) (a := v) (b := n) (by omega)
  have h2 := Int.tmod_lt_of_pos v (show 0 < n by omega)
  have h3 : -n < v.tmod n := by
    have := Int.tmod_lt_of_pos (-v) (show 0 < n by omega)
    rw [Int.neg_tmod] at this
    omega
  have w1 : w64 (v.tmod n + n) = v.tmod n + n := w64_of (by omega)
  unfold wrapV
  cases hA : decide (v.tmod n < 0)
  · have hA' := of_decide_eq_false hA
    rw [if_neg hA']
    simp (disch := (first | (simp only [ne_eq,Nat.reduceEqDiff,not_false_eq_true,Nat.reduceLT]; done) | omega | (simp only [yz] <;> omega) | fail)) only [↓yp,yq0,yq1,yq2,yq3,yq4,yl,ys0,ys1,Nat.reduceAdd,Nat.reduceMul,Nat.reduceSub,Nat.reduceBEq,Nat.reduceEqDiff,Nat.reduceLT,Nat.reduceLeDiff,reduceIte,Int.reduceAdd,Int.reduceSub,Int.reduceMul,Int.reduceLT,Int.reduceLE,Int.reduceEq,Int.reduceToNat,Int.reduceNeg,fitB,newC,endD,endR,yrg,h1,hrem,hA]
  · have hA' := of_decide_eq_true hA
    rw [if_pos hA']
    simp (disch := (first | (simp only [ne_eq,Nat.reduceEqDiff,not_false_eq_true,Nat.reduceLT]; done) | omega | (simp only [yz] <;> omega) | fail)) only [↓yp,yq0,yq1,yq2,yq3,yq4,yl,ys0,ys1,Nat.reduceAdd,Nat.reduceMul,Nat.reduceSub,Nat.reduceBEq,Nat.reduceEqDiff,Nat.reduceLT,Nat.reduceLeDiff,reduceIte,Int.reduceAdd,Int.reduceSub,Int.reduceMul,Int.reduceLT,Int.reduceLE,Int.reduceEq,Int.reduceToNat,Int.reduceNeg,fitB,newC,endD,endR,yrg,h1,hrem,hA,w1]
section
variable {a a' : Option Addr} {cap cap' : Nat} {ps : List Stp}
end
end Go.Am
