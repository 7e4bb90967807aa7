/- Heaviest of the program. -/
import Derived.Test.YtbbifibhpbjknaaT37
import Derived.Test.YtbbifibhpbjknaaT35
set_option linter.unusedSimpArgs false
set_option linter.unusedVariables false
namespace Go.Am
open Go.Proofs
variable {T : Tab} {P : Program} {N L : Nat} {H : AHeap} {Q : Bool → Value → AHeap → Prop}
/-- The greatest number below k that suits. -/
def down (p : Nat → Bool) : Nat → Option Nat
  | 0 => none
  | k + 1 => if p k then some k else down p k
/-- A load with which the cart is in time. -/
def fits (C : Int) (l : List Str) (w fr to m bm : Int) (ld : Nat) : Bool := !decide (tg (earT C l w ld fr m) to = -1) && decide (tg (earT C l w ld fr m) to ≤ bm)
section
variable {l : List Str} {C w : Int} {a : Option Addr} {cap : Nat}
end
end Go.Am
/- The law StreetLoaded. -/
namespace Go.Am
open Go.Proofs
variable {T : Tab} {P : Program} {N L : Nat} {H : AHeap} {Q : Bool → Value → AHeap → Prop}
section
variable {a : Option Addr} {cap : Nat} {bs : List Int}
end
end Go.Am
/- Bounds of the program; copies of rows of minutes. -/
namespace Go.Am
open Go.Proofs
variable {T : Tab} {P : Program} {N L : Nat} {H : AHeap} {Q : Bool → Value → AHeap → Prop}
section
variable {ex : Exec} {t : Operand → Option Value}
end
section
variable {l : List Str} {C w ld : Int} {a : Option Addr} {cap : Nat}
theorem c83s {ad : Addr} {n : Nat} (hL : L ≤ H.size) : resK (acall tabA (aexec tabA Try.prog (N + 30)) 83 [.agg ⟨[.int .i64 C, .slice (some ad) n cap]⟩, .agg ⟨[.int .i64 w, .int .i64 ld]⟩] H) L Q =
    Q false (jobV C (some ad) n cap w ld) ((((H.alloc (.rw [.int .i64 C, .slice (some ad) n cap] 24 false [])).alloc (.rw [.int .i64 w, .int .i64 ld] 26 false [])).alloc (.rw [.int .i64 0, .slice none 0 0, .int .i64 0, .int .i64 0, .int .i64 0] 124 false [])).put (H.size + 1 + 1) (.rw [.int .i64 C, .slice (some ad) n cap, .int .i64 w, .int .i64 ld, .int .i64 (-1)] 124 false [])) := by
  refine call_res (k := 8) (rs := [.cell 4 124]) rfl fn_83 rfl rfl rfl ?_ rfl hL
  simp (disch := (first | (simp only [ne_eq,Nat.reduceEqDiff,not_false_eq_true,Nat.reduceLT]; done) | omega | (simp only [yz] <;> omega) | fail)) only [↓yp,yq0,yq1,yq2,yq3,yq4,yl,ys0,ys1,Nat.reduceAdd,Nat.reduceMul,Nat.reduceSub,Nat.reduceBEq,Nat.reduceEqDiff,Nat.reduceLT,Nat.reduceLeDiff,reduceIte,Int.reduceAdd,Int.reduceSub,Int.reduceMul,Int.reduceLT,Int.reduceLE,Int.reduceEq,Int.reduceToNat,Int.reduceNeg,zed,zee,zfr,zhw,ysu,yrg,ysv,ysw,A_build zik]
  rfl
end
end Go.Am
