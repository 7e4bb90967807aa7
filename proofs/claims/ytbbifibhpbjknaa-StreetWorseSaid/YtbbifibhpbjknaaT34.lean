/- What follows of earliest and latest minutes: drives from both ends, towns and carts that are worse, towns that are mirrored. -/
import Derived.Test.YtbbifibhpbjknaaT29
set_option linter.unusedSimpArgs false
set_option linter.unusedVariables false
namespace Go.Am
open Go.Proofs

section
variable {l l' : List Str} {C w w' ld ld' fr to a₀ bm m x : Int}
/-- Where the cart can be, and can be in time from there: it can be in time. -/
theorem Can.late (h : Late l w ld to bm m x) (hc : Can l w ld fr a₀ m x) (g : Good C l ld) (hb : bm ≤ 240) (h0 : 0 ≤ bm) : Can l w ld fr a₀ bm to := by
  induction h with
  | stop => exact hc
  | @wait m x h1 _ ih => exact ih (hc.wait (by have := h1.ge h0 g; omega))
  | go h1 hi hm hs _ ih => exact ih (hc.go hi hm hs)
theorem Can.toLate (h : Can l w ld fr a₀ m x) (h0 : 0 ≤ a₀) (ha : a₀ ≤ 240) (g : Good C l ld) : ∀ {bm to : Int}, Late l w ld to bm m x → Late l w ld to bm a₀ fr := by
  induction h with
  | start => exact fun h => h
  | @wait m x h1 _ ih => exact fun h => ih (h.wait (by have := h1.le ha g; omega))
  | @go m i s b h1 hi hm hs ih => exact fun h => ih (h.go hi hm hs (by have := h1.le ha g; omega))
/-- In time is in time, from either end. -/
theorem both (g : Good C l ld) (ha : 0 ≤ a₀ ∧ a₀ ≤ 240) (hb : 0 ≤ bm ∧ bm ≤ 240) (hfr : 0 ≤ fr ∧ fr < C) (hto : 0 ≤ to ∧ to < C) :
    (tg (earT C l w ld fr a₀) to ≠ -1 ∧ tg (earT C l w ld fr a₀) to ≤ bm) ↔ (tg (latT C l w ld to bm) fr ≠ -1 ∧ a₀ ≤ tg (latT C l w ld to bm) fr) := by
  have hE := earT_is (w := w) g hfr ha
  have hL := latT_is (w := w) g hto hb
  constructor
  · rintro ⟨h1, h2⟩
    have hc := (hE.can to hto.1 h1).later h2 hb.2
    exact hL.ge _ fr hfr.1 (hc.toLate ha.1 ha.2 g .stop)
  · rintro ⟨h1, h2⟩
    have hl := (hL.can fr hfr.1 h1).sooner h2 ha.1
    exact hE.le _ to hto.1 (Can.late hl .start g hb.2 hb.1)
/-- A town and a cart that are no better: what these can the others can. -/
def NoBetter (l l' : List Str) (w w' ld ld' : Int) : Prop :=
  ∀ (i : Nat) s b, l'[i]? = some s → mayL s b w' ld' = true → ∃ (j : Nat) (t : Str), l[j]? = some t ∧ nearL t b = nearL s b ∧ farL t b = farL s b ∧ mayL t b w ld = true ∧ ∀ m, 0 ≤ m → startsL s b ld' m ≠ -1 → startsL t b ld m ≠ -1 ∧ startsL t b ld m ≤ startsL s b ld' m
theorem Can.better (hn : NoBetter l l' w w' ld ld') (g' : Good C l' ld') (h0 : 0 ≤ a₀) (ha : a₀ ≤ 240) (h : Can l' w' ld' fr a₀ m x) : Can l w ld fr a₀ m x := by
  induction h with
  | start => exact .start
  | wait _ hm ih => exact ih.wait hm
  | @go m i s b h1 hi hm hs ih =>
    obtain ⟨j, t, h2, h3, h4, h5, h6⟩ := hn i s b hi hm
    obtain ⟨h7, h8⟩ := h6 m (by have := h1.le ha g'; omega) hs
    rw [← h3] at ih
    rw [← h4]
    exact (ih.go h2 h5 h7).later h8 (by have := starts_eq hs; omega)
/-- Nowhere sooner: a minute of the first is one of the second, and no less. -/
def Sooner (t t' : List Int) (k : Nat) : Prop := ∀ x : Int, 0 ≤ x → x < k → tg t x ≠ -1 → tg t' x ≠ -1 ∧ tg t' x ≤ tg t x
theorem notSooner_of {a' : Int} (g : Good C l ld) (g' : Good C l' ld') (hfr : 0 ≤ fr ∧ fr < C) (ha : 0 ≤ a₀ ∧ a₀ ≤ 240) (ha' : 0 ≤ a' ∧ a' ≤ 240) (hc : ∀ m x, Can l' w' ld' fr a' m x → Can l w ld fr a₀ m x) : Sooner (earT C l' w' ld' fr a') (earT C l w ld fr a₀) 8 := fun x hx _ h =>
  (earT_is g hfr ha).le _ x hx (hc _ _ ((earT_is g' hfr ha').can x hx h))
theorem Can.begLater {a' : Int} (h : Can l w ld fr a' m x) (ha : a₀ ≤ a') (ha' : a' ≤ 240) : Can l w ld fr a₀ m x := by
  induction h with
  | start => exact Can.start.later ha ha'
  | wait _ hm ih => exact ih.wait hm
  | go _ hi hm hs ih => exact ih.go hi hm hs
/-- Less time in a street that is shut no longer. -/
theorem starts_less {s t : Str} {b : Bool} (ht : takes t b ld ≤ takes s b ld') (hsh : t.hi < t.lo ∨ (s.lo ≤ t.lo ∧ t.hi ≤ s.hi ∧ s.lo ≤ s.hi)) (h : startsL s b ld' m ≠ -1) (h0 : 0 ≤ m) (h1 : 0 ≤ takes t b ld) : startsL t b ld m ≠ -1 ∧ startsL t b ld m ≤ startsL s b ld' m := by
  obtain ⟨q1, q2, q3⟩ := starts_eq h
  have hm : meetsL t b ld m = false := by
    unfold meetsL at q3 ⊢
    simp only [Bool.and_eq_false_iff,Bool.not_eq_false',decide_eq_true_eq,decide_eq_false_iff_not] at q3 ⊢
    omega
  have := starts_of (s := t) (b := b) (ld := ld) (m := m) (by omega) hm
  omega
end

/-! ### Mirrored towns -/
section
variable {l : List Str} {C w ld to bm m x : Int}
end
end Go.Am
