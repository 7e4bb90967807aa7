/- Loops over functions, and their rounds. -/
import Derived.Test.YtnibabkgeolenaaT11
import Derived.Test.YtnibabkgeolenaaT10
set_option linter.unusedSimpArgs false
set_option linter.unusedVariables false
namespace Go.Am
variable {α : Type} {T : Tab} {P : Program} {N n L : Nat} {r : Option Nat} {e : VT} {H : AHeap} {ds : List Nat}

/-! ### Ends with deferred blocks -/
/-! ### Loops in which deferred blocks come up, over code that wants some fuel -/
def loopKD (n : Nat) (I : Nat → VT → AHeap → List Nat → Prop) (k : Nat) (Q : Exit → ES → Prop) (x : Exit) (s : ES) : Prop := match x with
  | .normal => s.n = n ∧ ∃ k', k' < k ∧ I k' s.e s.H s.ds
  | x => Q x s
def nextKD (I : Nat → VT → AHeap → List Nat → Prop) (k : Nat) (e : VT) (H : AHeap) (ds : List Nat) (_ : Tag I := .mk) : Prop := ∃ k', k' < k ∧ I k' e H ds
theorem loopKD_normal {I : Nat → VT → AHeap → List Nat → Prop} {k : Nat} {Q : Exit → ES → Prop} : loopKD n I k Q .normal ⟨n, e, H, ds⟩ = nextKD I k e H ds := by simp [loopKD, nextKD]
theorem loopKD_ret {I : Nat → VT → AHeap → List Nat → Prop} {k : Nat} {Q : Exit → ES → Prop} {s : ES} : loopKD n I k Q .ret s = Q .ret s := nr rfl
theorem loopKD_exit {I : Nat → VT → AHeap → List Nat → Prop} {k i : Nat} {Q : Exit → ES → Prop} {s : ES} : loopKD n I k Q (.exit i) s = Q (.exit i) s := nr rfl
end Go.Am
/- What a run leaves as it was: all blocks below the least one that it says to change. -/
namespace Go.Am
variable {T : Tab} {P : Program} {t : Operand → Option Value}

structure Fra (H H' : AHeap) (m : Nat) : Prop where
  size : H.size ≤ H'.size
  same : ∀ k, k < m → k < H.size → H'.get k = H.get k
theorem Fra.refl (H : AHeap) (m : Nat) : Fra H H m := ⟨Nat.le_refl _, fun _ _ _ => rfl⟩
theorem Fra.trans {H H₁ H₂ : AHeap} {m : Nat} (a : Fra H H₁ m) (b : Fra H₁ H₂ m) : Fra H H₂ m := ⟨Nat.le_trans a.size b.size, fun k h1 h2 => (b.same k h1 (Nat.lt_of_lt_of_le h2 a.size)).trans (a.same k h1 h2)⟩
theorem Fra.less {H H' : AHeap} {m m' : Nat} (a : Fra H H' m) (h : m' ≤ m) : Fra H H' m' := ⟨a.size, fun k h1 h2 => a.same k (by omega) h2⟩
theorem Fra.alloc (H : AHeap) (b : ABlk) (m : Nat) : Fra H (H.alloc b) m := ⟨by rw [AHeap.size_alloc]; omega, fun k _ h2 => AHeap.get_alloc_other H b (by omega)⟩
theorem Fra.put {H : AHeap} {k m : Nat} (b : ABlk) (h : m ≤ k) : Fra H (H.put k b) m := ⟨by rw [AHeap.size_put]; omega, fun j h1 _ => AHeap.get_put_other H b (by omega)⟩
theorem Fra.kill {H : AHeap} {l : List Nat} {m : Nat} (h : ∀ j ∈ l, m ≤ j) : Fra H (H.kill l) m := ⟨by rw [AHeap.size_kill]; omega, fun j h1 _ => by
  rw [AHeap.get_kill, if_neg]
  intro hj
  have := h j hj
  omega⟩
end Go.Am
