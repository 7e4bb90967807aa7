/- The reference's search, minute by minute. -/
import Derived.Test.YtdjklljbninmgaaT32
import Derived.Test.YtdjklljbninmgaaT27
set_option linter.unusedSimpArgs false
set_option linter.unusedVariables false
namespace Go.Am
open Go.Proofs
variable {T : Tab} {P : Program} {N L : Nat} {H : AHeap} {Q : Bool → Value → AHeap → Prop}

section
variable {H₀ : AHeap} {l : List Str} {C w ld fr a₀ : Int} {a : Option Addr} {cap ob oc : Nat} {al : List Nat}
end
end Go.Am
/- The reference's Minutes. -/
namespace Go.Am
open Go.Proofs
variable {T : Tab} {P : Program} {N L : Nat} {H : AHeap} {Q : Bool → Value → AHeap → Prop}

section
variable {l : List Str} {C w ld fr a₀ : Int} {a : Option Addr} {cap : Nat}
end
end Go.Am
/- The reference's Latest. -/
namespace Go.Am
open Go.Proofs
variable {T : Tab} {P : Program} {N L : Nat} {H : AHeap} {Q : Bool → Value → AHeap → Prop}

section
variable {H H' H'' : AHeap} {a : Option Addr} {n cap tb ob : Nat} {C w ld : Int} {al al' : List Nat} {it : List Bool} {out : List Int}
end
section
variable {l : List Str} {C w ld to bm : Int} {a : Option Addr} {cap : Nat}
end
end Go.Am
/- Rows of numbers that are alike; what the law StreetMinutes lays. -/
namespace Go.Am
open Go.Proofs
variable {T : Tab} {P : Program} {N L : Nat} {H : AHeap} {Q : Bool → Value → AHeap → Prop}

theorem asked_of {C w ld : Int} {l : List Str} {cs ss ms : List Int} (hc : chk C l = 0) (hw : off w 1 9 = false) (hd : off ld 0 9 = false) (h1 : ∀ n ∈ cs, 0 ≤ n ∧ n ≤ C - 1) (h2 : ∀ n ∈ ss, 0 ≤ n ∧ n ≤ (l.length : Int) - 1) (h3 : ∀ n ∈ ms, 0 ≤ n ∧ n ≤ 240) : asked C l w ld cs ss ms = 0 := by
  have key : ∀ {l : List Int} {x y : Int}, (∀ n ∈ l, x ≤ n ∧ n ≤ y) → (l.any fun n => off n x y) = false := fun {l x y} h => by
    rw [List.any_eq_false]
    intro n hn
    rw [off_iff.2 (h n hn)]; simp
  unfold asked
  rw [if_neg (by simpa using hc), hw, hd, key h1, key h2, key h3]
  simp
section
variable {a a1 a2 : Option Addr} {cap cap1 cap2 : Nat} {l : List Str} {C w ld fr to m bm : Int} {e e' : VT} {H' H'' : AHeap}
theorem planB_hit {d : List (Option Nat)} {ops : List Oper} {env : Nat → Value} {H : AHeap} (hd : ops.map (·.dst) = d) (h1 : d ≠ [some 22, some 23, some 24, some 25, some 9, some 10, none, none]) (h2 : d ≠ [some 87, some 88, some 89, some 90, some 91, some 92, some 93, some 94, some 95, some 11]) : tabA.plan ops env H = planB d env := by
  show planA ops env H = _
  unfold planA
  rw [hd, if_neg h1, if_neg h2]
end
end Go.Am
