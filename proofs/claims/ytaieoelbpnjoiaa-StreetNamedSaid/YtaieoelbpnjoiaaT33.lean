import Derived.Test.YtaieoelbpnjoiaaT28
set_option linter.unusedSimpArgs false
set_option linter.unusedVariables false
namespace Go.Am
open Go.Proofs
section
variable {l l' : List Str} {C w w' ld ld' fr to a₀ bm m x : Int}
theorem Can.late (h : Late l w ld to bm m x) (hc : Can l w ld fr a₀ m x) (g : Good C l ld) (hb : bm ≤ 240) (h0 : 0 ≤ bm) : Can l w ld fr a₀ bm to := by
 induction h with
 | stop => exact hc
 | @wait m x h1 _ ih => exact ih (hc.wait (by have := h1.ge h0 g; omega))
 | go h1 hi hm hs _ ih => exact ih (hc.go hi hm hs)
theorem Can.toLate (h : Can l w ld fr a₀ m x) (h0 : 0 ≤ a₀) (ha : a₀ ≤ 240) (g : Good C l ld) : ∀ {bm to : Int}, Late l w ld to bm m x → Late l w ld to bm a₀ fr := by
 induction h with
 | start => exact fun h => h
 | @wait m x h1 _ ih => exact fun h => ih (h.wait (by have := h1.le ha g; omega))
 | @go m i s b h1 hi hm hs ih => exact fun h => ih (h.go hi hm hs (by have := h1.le ha g; omega))
theorem both (g : Good C l ld) (ha : 0 ≤ a₀ ∧ a₀ ≤ 240) (hb : 0 ≤ bm ∧ bm ≤ 240) (hfr : 0 ≤ fr ∧ fr < C) (hto : 0 ≤ to ∧ to < C) :
  (tg (earT C l w ld fr a₀) to ≠ -1 ∧ tg (earT C l w ld fr a₀) to ≤ bm) ↔ (tg (latT C l w ld to bm) fr ≠ -1 ∧ a₀ ≤ tg (latT C l w ld to bm) fr) := by
 have hE := earT_is (w := w) g hfr ha
 have hL := latT_is (w := w) g hto hb
 constructor
 ·rintro ⟨h1, h2⟩
  have hc := (hE.can to hto.1 h1).later h2 hb.2
  exact hL.ge _ fr hfr.1 (hc.toLate ha.1 ha.2 g .stop)
 ·rintro ⟨h1, h2⟩
  have hl := (hL.can fr hfr.1 h1).sooner h2 ha.1
  exact hE.le _ to hto.1 (Can.late hl .start g hb.2 hb.1)
def NoBetter (l l' : List Str) (w w' ld ld' : Int) : Prop :=
 ∀ (i : Nat) s b, l'[i]? = some s → mayL s b w' ld' = true → ∃ (j : Nat) (t : Str), l[j]? = some t ∧ nearL t b = nearL s b ∧ farL t b = farL s b ∧ mayL t b w ld = true ∧ ∀ m, 0 ≤ m → startsL s b ld' m ≠ -1 → startsL t b ld m ≠ -1 ∧ startsL t b ld m ≤ startsL s b ld' m
theorem Can.better (hn : NoBetter l l' w w' ld ld') (g' : Good C l' ld') (h0 : 0 ≤ a₀) (ha : a₀ ≤ 240) (h : Can l' w' ld' fr a₀ m x) : Can l w ld fr a₀ m x := by
 induction h with
 | start => exact .start
 | wait _ hm ih => exact ih.wait hm
 | @go m i s b h1 hi hm hs ih =>
  obtain ⟨j, t, h2, h3, h4, h5, h6⟩ := hn i s b hi hm
  obtain ⟨h7, h8⟩ := h6 m (by have := h1.le ha g'; omega) hs
  rw [← h3] at ih
  rw [← h4]
  exact (ih.go h2 h5 h7).later h8 (by have := starts_eq hs; omega)
end
section
variable {l : List Str} {C w ld to bm m x : Int}
end
end Go.Am
