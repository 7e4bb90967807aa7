import Derived.Test.YtaieoelbpnjoiaaT29
import Derived.Test.YtaieoelbpnjoiaaT25
set_option linter.unusedSimpArgs false
set_option linter.unusedVariables false
namespace Go.Am
open Go.Proofs
variable {T : Tab} {P : Program} {N L : Nat} {H : AHeap} {Q : Bool → Value → AHeap → Prop}

structure DirC (H : AHeap) (d : Dir) (l : List Str) (jv : Value) (w ld : Int) (fb fc fs : FuncId) (sa sb : List Value) : Prop where
  ends : ∀ N H' (i : Nat) s b, Fr H H' → l[i]? = some s → acall tabA (aexec tabA Try.prog (N + 40)) 94 [jv, legV i b] H' = some (true, .tuple ⟨[.int .i64 (nearL s b), .int .i64 (farL s b)]⟩, H', H'.size)
  may : ∀ N H' (i : Nat) s b, Fr H H' → l[i]? = some s → acall tabA (aexec tabA Try.prog (N + 40)) 107 [jv, legV i b] H' = some (true, .bool (mayL s b w ld), H', H'.size)
  sides : ∀ N H' (i : Nat) s b, Fr H H' → l[i]? = some s → acall tabA (aexec tabA Try.prog (N + 100)) fs (sa ++ [legV i b] ++ sb) H' = some (true, .tuple ⟨[.int .i64 (d.known s b), .int .i64 (d.other s b)]⟩, H', H'.size)
  cross : ∀ N H' (i : Nat) s b m, Fr H H' → l[i]? = some s → okM m → acall tabA (aexec tabA Try.prog (N + 200)) fc [jv, legV i b, .int .i64 m] H' = some (true, .int .i64 (d.cross s b m), H', H'.size)
  better : ∀ N H' m o, okM m → okM o → acall tabA (aexec tabA Try.prog (N + 200)) fb [.int .i64 m, .int .i64 o] H' = some (true, .bool (decide (d.mu m < d.mu o)), H', H'.size)
theorem DirC.fr {H H₁ : AHeap} {d : Dir} {l : List Str} {jv : Value} {w ld : Int} {fb fc fs : FuncId} {sa sb : List Value} (h : DirC H d l jv w ld fb fc fs sa sb) (f : Fr H H₁) : DirC H₁ d l jv w ld fb fc fs sa sb where
  ends N H' i s b fr hi := h.ends N H' i s b (f.trans fr) hi
  may N H' i s b fr hi := h.may N H' i s b (f.trans fr) hi
  sides N H' i s b fr hi := h.sides N H' i s b (f.trans fr) hi
  cross N H' i s b m fr hi hm := h.cross N H' i s b m (f.trans fr) hi hm
  better := h.better
section
variable {d : Dir} {l : List Str} {C w ld lf : Int} {a : Option Addr} {cap : Nat} {fb fc fs : FuncId} {sa sb : List Value} {t : List Int}
end
end Go.Am
namespace Go.Am
open Go.Proofs
variable {T : Tab} {P : Program} {N L : Nat} {H : AHeap} {Q : Bool → Value → AHeap → Prop}

section
variable {d : Dir} {l : List Str} {C w ld lf : Int} {a : Option Addr} {cap : Nat} {fb fc fs : FuncId} {sa sb : List Value} {t : List Int}
end
end Go.Am
namespace Go.Am
open Go.Proofs
variable {T : Tab} {P : Program} {N L : Nat} {H : AHeap} {Q : Bool → Value → AHeap → Prop}

section
variable {l : List Str} {C w ld lf : Int} {a : Option Addr} {cap : Nat}
theorem Good.known (g : Good C l ld) : ∀ s ∈ l, ∀ b, 0 ≤ nearL s b ∧ nearL s b ≤ 7 := fun s h b => by
  have := g.near h b
  have := g.hC
  omega
end
end Go.Am
