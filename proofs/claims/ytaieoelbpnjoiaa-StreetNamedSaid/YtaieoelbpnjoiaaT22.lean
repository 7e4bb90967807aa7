import Derived.Test.YtaieoelbpnjoiaaT21
set_option linter.unusedSimpArgs false
set_option linter.unusedVariables false
namespace Go.Am
open Go.Proofs
variable {T : Tab} {P : Program} {N L : Nat} {H : AHeap} {Q : Bool → Value → AHeap → Prop}
theorem bad2_span {s : Str} (h : bad2 s = false) : (0 ≤ s.lo ∧ s.lo ≤ 239) ∧ (0 ≤ s.hi ∧ s.hi ≤ 239) := by
 unfold bad2 at h
 simp only [Bool.or_eq_false_iff] at h
 exact ⟨off_iff.1 h.2.2.2.2.1, off_iff.1 h.2.2.2.2.2⟩
theorem newC_app {j : Nat} {vs a b : List Value} : zee (a.length + j) vs (a ++ b) = a ++ zee j vs b := by
 unfold zee
 rw [List.take_length_add_append, show a.length + j + vs.length = a.length + (j + vs.length) by omega, List.drop_length_add_append]
 simp
theorem newC_pre {j : Nat} {vs a b : List Value} (h : j + vs.length ≤ a.length) : zee j vs (a ++ b) = zee j vs a ++ b := by
 unfold zee
 rw [List.take_append_of_le_length (by omega), List.drop_append_of_le_length h]
 simp
theorem chk_ok {C : Int} {l : List Str} (h : chk C l = 0) : off C 1 8 = false ∧ l.length ≤ 16 ∧ (∀ s ∈ l, bad1 C s = false) ∧ ∀ s ∈ l, bad2 s = false := by
 unfold chk at h
 split at h
 ·cases h
 ·split at h
  ·cases h
  ·split at h
   ·cases h
   ·split at h
    ·cases h
    ·rename_i h1 h2 h3 h4
     refine ⟨by simpa using h1, by omega, ?_, ?_⟩
     ·intro s hs
      cases hb : bad1 C s with
      | false => rfl
      | true => exact absurd (List.any_eq_true.2 ⟨s, hs, hb⟩) h3
     ·intro s hs
      cases hb : bad2 s with
      | false => rfl
      | true => exact absurd (List.any_eq_true.2 ⟨s, hs, hb⟩) h4
end Go.Am
namespace Go.Am
open Go.Proofs
variable {T : Tab} {P : Program} {N L : Nat} {H : AHeap} {Q : Bool → Value → AHeap → Prop}
def okI (n : Int) : Prop := (Lit.int .i64 n).wf = true
structure Str.Ok (s : Str) : Prop where
 fr : okI s.fr
 to : okI s.to
 mi : okI s.mi
 up : okI s.up
 wi : okI s.wi
 be : okI s.be
 lo : okI s.lo
 hi : okI s.hi
theorem cellsOf3 : Try.prog.cellsOf 3 = 1 := by kernel_rfl
theorem lit_int {d : Nat} {n : Int} (h : okI n) : Try.prog.keyLits (d + 1) 3 [.int .i64 n] = some [.int .i64 n] := by
 unfold Program.keyLits
 rw [Try.underlying3]
 simp only
 rw [if_pos ⟨trivial, h⟩]
end Go.Am
