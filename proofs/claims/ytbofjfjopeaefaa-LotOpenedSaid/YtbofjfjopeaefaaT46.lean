import Derived.Test.YtbofjfjopeaefaaT45
import Derived.Test.YtbofjfjopeaefaaT40
import Derived.Test.YtbofjfjopeaefaaT41
set_option linter.unusedSimpArgs false
set_option linter.unusedVariables false
namespace Go.Am.K
open Go.Proofs
variable {T : Tab} {P : Program} {N L : Nat} {H H' H'' : AHeap} {Q : Bool → Value → AHeap → Prop}
section
variable {a a' al : Option Addr} {cap cap' cl : Nat} {ps : List Pk} {gs : List Gd} {lots : Int} {l : List Int} {op fd : Int}
def toldV (ps : List Pk) (l : List Int) (op fd : Int) (j : Nat) (p : Pk) : Int × Int := tellF (nonE ps l op fd j p) p.f p.hi (p.hi - p.f + 1).toNat
structure Td (ps : List Pk) (l : List Int) (op fd : Int) (i : Nat) (tl : List (Int × Int)) : Prop where
 len : tl.length = ps.length
 at_ : ∀ (j : Nat) (p : Pk), j < i → ps[j]? = some p → tl[j]? = some (toldV ps l op fd j p)
theorem Td.next {i : Nat} {tl : List (Int × Int)} {p : Pk} (h : Td ps l op fd i tl) (hp : ps[i]? = some p) : Td ps l op fd (i + 1) (tl.set i (toldV ps l op fd i p)) := by
 have hlt := (List.getElem?_eq_some_iff.1 hp).1
 refine ⟨by rw [List.length_set]; exact h.len, fun j q hj hq => ?_⟩
 by_cases e : i = j
 ·subst e
  rw [hp] at hq
  cases hq
  rw [List.getElem?_set_self (by rw [h.len]; exact hlt)]
 ·rw [List.getElem?_set_ne e]
  exact h.at_ j q (by omega) hq
end
end Go.Am.K
namespace Go.Am.K
open Go.Proofs
variable {T : Tab} {P : Program} {N L : Nat} {H H' H'' : AHeap} {Q : Bool → Value → AHeap → Prop}
theorem isum_set : ∀ {a : List Int} {i : Nat} {x v : Int}, a[i]? = some x → isum (a.set i v) = isum a - x + v
 | [], i, x, v, h => by simp at h
 | y :: a, 0, x, v, h => by
  simp at h
  subst h
  simp only [List.set_cons_zero,isum]
  omega
 | y :: a, i + 1, x, v, h => by
  have ih := isum_set (a := a) (i := i) (x := x) (v := v) (by simpa using h)
  simp only [List.set_cons_succ,isum]
  omega
theorem fo_set {s : Bool} : ∀ {ps : List Pk} {l : List Int} {i : Nat} {q : Pk} {m : Int}, l[i]? = some m → i < ps.length → fo s (ps.set i q) l = (fo s ps l).set i (q.sel s m)
 | [], l, i, q, m, _, h => by simp at h
 | p :: ps, [], i, q, m, h, _ => by simp at h
 | p :: ps, n :: l, 0, q, m, h, _ => by
  simp at h
  subst h
  rfl
 | p :: ps, n :: l, i + 1, q, m, h, h' => by
  simp only [List.set_cons_succ,fo]
  rw [fo_set (by simpa using h) (by simpa using h')]
section
variable {ps : List Pk} {gs : List Gd} {l il rs : List Int} {lots op fd n m : Int} {i : Nat} {p : Pk}
def oth (s : Bool) (ps : List Pk) (l : List Int) (i : Nat) : Int := isum ((fo s ps l).set i 0)
theorem fo_oth {s : Bool} (hi : ps[i]? = some p) (hm : l[i]? = some m) : isum (fo s ps l) = oth s ps l i + p.sel s m := by
 unfold oth
 rw [isum_set (fo_get hi hm)]
 omega
theorem fo_kn {s : Bool} {q : Pk} (hi : ps[i]? = some p) (hm : l[i]? = some m) : isum (fo s (ps.set i q) l) = oth s ps l i + q.sel s m := by
 have hlt := (List.getElem?_eq_some_iff.1 hi).1
 rw [fo_set hm hlt, isum_set (fo_get hi hm), fo_oth (s := s) hi hm]
 omega
end
end Go.Am.K
namespace Go.Am.K
open Go.Proofs
variable {T : Tab} {P : Program} {N L : Nat} {H H' H'' : AHeap} {Q : Bool → Value → AHeap → Prop}
section
variable {p : Pk}
end
end Go.Am.K
