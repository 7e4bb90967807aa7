/- The mirrored town. -/
import Derived.Test.YtbbifibhpbjknaaT21
set_option linter.unusedSimpArgs false
set_option linter.unusedVariables false
namespace Go.Am
open Go.Proofs
variable {T : Tab} {P : Program} {N L : Nat} {H : AHeap} {Q : Bool → Value → AHeap → Prop}

theorem bad2_span {s : Str} (h : bad2 s = false) : (0 ≤ s.lo ∧ s.lo ≤ 239) ∧ (0 ≤ s.hi ∧ s.hi ≤ 239) := by
  unfold bad2 at h
  simp only [Bool.or_eq_false_iff] at h
  exact ⟨off_iff.1 h.2.2.2.2.1, off_iff.1 h.2.2.2.2.2⟩
/-! ### Stores into a row of streets -/
theorem newC_app {j : Nat} {vs a b : List Value} : zee (a.length + j) vs (a ++ b) = a ++ zee j vs b := by
  unfold zee
  rw [List.take_length_add_append, show a.length + j + vs.length = a.length + (j + vs.length) by omega, List.drop_length_add_append]
  simp
theorem newC_pre {j : Nat} {vs a b : List Value} (h : j + vs.length ≤ a.length) : zee j vs (a ++ b) = zee j vs a ++ b := by
  unfold zee
  rw [List.take_append_of_le_length (by omega), List.drop_append_of_le_length h]
  simp
theorem set_flat {j : Nat} {vs : List Value} {s s' : Str} (hj : j + vs.length ≤ 9) (he : zee j vs s.enc = s'.enc) : ∀ (l : List Str) (i : Nat), l[i]? = some s → zee (i * 9 + j) vs (flat l) = flat (l.set i s')
  | [], i, h => by simp at h
  | t :: l, 0, h => by
    simp only [List.getElem?_cons_zero,Option.some.injEq] at h
    subst h
    simp only [Nat.zero_mul,Nat.zero_add,flat,List.set_cons_zero]
    rw [newC_pre (by rw [enc_len]; exact hj), he]
  | t :: l, i + 1, h => by
    simp only [flat,List.set_cons_succ]
    rw [show (i + 1) * 9 + j = t.enc.length + (i * 9 + j) by rw [enc_len]; omega, newC_app, set_flat hj he l i (by simpa using h)]
theorem wrB_flat {b j i ty : Nat} {vs : List Value} {op : Bool} {l : List Str} {s : Str} (s' : Str) {Q : Nat → AHeap → Prop} (hi : l[i]? = some s) (hj : j + vs.length ≤ 9) (he : zee j vs s.enc = s'.enc) (h1 : oneCells vs = true) :
    wrB (.rw (flat l) ty op []) H b (i * 9 + j) vs Q = Q b (H.put b (.rw (flat (l.set i s')) ty op [])) := by
  rw [zec]
  have hlt := (List.getElem?_eq_some_iff.1 hi).1
  have : zed (i * 9 + j) vs (flat l) = true := by
    unfold zed
    rw [h1, flat_length, Bool.and_true, decide_eq_true_eq]
    omega
  rw [this, zaz, zbb, zaz, set_flat hj he l i hi]

theorem chk_ok {C : Int} {l : List Str} (h : chk C l = 0) : off C 1 8 = false ∧ l.length ≤ 16 ∧ (∀ s ∈ l, bad1 C s = false) ∧ ∀ s ∈ l, bad2 s = false := by
  unfold chk at h
  split at h
  · cases h
  · split at h
    · cases h
    · split at h
      · cases h
      · split at h
        · cases h
        · rename_i h1 h2 h3 h4
          refine ⟨by simpa using h1, by omega, ?_, ?_⟩
          · intro s hs
            cases hb : bad1 C s with
            | false => rfl
            | true => exact absurd (List.any_eq_true.2 ⟨s, hs, hb⟩) h3
          · intro s hs
            cases hb : bad2 s with
            | false => rfl
            | true => exact absurd (List.any_eq_true.2 ⟨s, hs, hb⟩) h4
end Go.Am
/- Rows of streets that are compared. -/
namespace Go.Am
open Go.Proofs
variable {T : Tab} {P : Program} {N L : Nat} {H : AHeap} {Q : Bool → Value → AHeap → Prop}

def okI (n : Int) : Prop := (Lit.int .i64 n).wf = true
structure Str.Ok (s : Str) : Prop where
  fr : okI s.fr
  to : okI s.to
  mi : okI s.mi
  up : okI s.up
  wi : okI s.wi
  be : okI s.be
  lo : okI s.lo
  hi : okI s.hi
theorem cellsOf3 : Try.prog.cellsOf 3 = 1 := by kernel_rfl
theorem lit_int {d : Nat} {n : Int} (h : okI n) : Try.prog.keyLits (d + 1) 3 [.int .i64 n] = some [.int .i64 n] := by
  unfold Program.keyLits
  rw [Try.underlying3]
  simp only
  rw [if_pos ⟨trivial, h⟩]
end Go.Am
