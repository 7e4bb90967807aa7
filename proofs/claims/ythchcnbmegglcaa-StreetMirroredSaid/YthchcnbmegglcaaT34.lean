/- What follows of earliest and latest minutes: drives from both ends, towns and carts that are worse, towns that are mirrored. -/
import Derived.Test.YthchcnbmegglcaaT29
set_option linter.unusedSimpArgs false
set_option linter.unusedVariables false
namespace Go.Am
open Go.Proofs

section
variable {l l' : List Str} {C w w' ld ld' fr to a₀ bm m x : Int}
/-- Where the cart can be, and can be in time from there: it can be in time. -/
theorem Can.late (h : Late l w ld to bm m x) (hc : Can l w ld fr a₀ m x) (g : Good C l ld) (hb : bm ≤ 240) (h0 : 0 ≤ bm) : Can l w ld fr a₀ bm to := by
  induction h with
  | stop => exact hc
  | @wait m x h1 _ ih => exact ih (hc.wait (by have := h1.ge h0 g; omega))
  | go h1 hi hm hs _ ih => exact ih (hc.go hi hm hs)
theorem Can.toLate (h : Can l w ld fr a₀ m x) (h0 : 0 ≤ a₀) (ha : a₀ ≤ 240) (g : Good C l ld) : ∀ {bm to : Int}, Late l w ld to bm m x → Late l w ld to bm a₀ fr := by
  induction h with
  | start => exact fun h => h
  | @wait m x h1 _ ih => exact fun h => ih (h.wait (by have := h1.le ha g; omega))
  | @go m i s b h1 hi hm hs ih => exact fun h => ih (h.go hi hm hs (by have := h1.le ha g; omega))
/-- In time is in time, from either end. -/
theorem both (g : Good C l ld) (ha : 0 ≤ a₀ ∧ a₀ ≤ 240) (hb : 0 ≤ bm ∧ bm ≤ 240) (hfr : 0 ≤ fr ∧ fr < C) (hto : 0 ≤ to ∧ to < C) :
    (tg (earT C l w ld fr a₀) to ≠ -1 ∧ tg (earT C l w ld fr a₀) to ≤ bm) ↔ (tg (latT C l w ld to bm) fr ≠ -1 ∧ a₀ ≤ tg (latT C l w ld to bm) fr) := by
  have hE := earT_is (w := w) g hfr ha
  have hL := latT_is (w := w) g hto hb
  constructor
  · rintro ⟨h1, h2⟩
    have hc := (hE.can to hto.1 h1).later h2 hb.2
    exact hL.ge _ fr hfr.1 (hc.toLate ha.1 ha.2 g .stop)
  · rintro ⟨h1, h2⟩
    have hl := (hL.can fr hfr.1 h1).sooner h2 ha.1
    exact hE.le _ to hto.1 (Can.late hl .start g hb.2 hb.1)
/-- A town and a cart that are no better: what these can the others can. -/
def NoBetter (l l' : List Str) (w w' ld ld' : Int) : Prop :=
  ∀ (i : Nat) s b, l'[i]? = some s → mayL s b w' ld' = true → ∃ (j : Nat) (t : Str), l[j]? = some t ∧ nearL t b = nearL s b ∧ farL t b = farL s b ∧ mayL t b w ld = true ∧ ∀ m, 0 ≤ m → startsL s b ld' m ≠ -1 → startsL t b ld m ≠ -1 ∧ startsL t b ld m ≤ startsL s b ld' m
theorem Can.better (hn : NoBetter l l' w w' ld ld') (g' : Good C l' ld') (h0 : 0 ≤ a₀) (ha : a₀ ≤ 240) (h : Can l' w' ld' fr a₀ m x) : Can l w ld fr a₀ m x := by
  induction h with
  | start => exact .start
  | wait _ hm ih => exact ih.wait hm
  | @go m i s b h1 hi hm hs ih =>
    obtain ⟨j, t, h2, h3, h4, h5, h6⟩ := hn i s b hi hm
    obtain ⟨h7, h8⟩ := h6 m (by have := h1.le ha g'; omega) hs
    rw [← h3] at ih
    rw [← h4]
    exact (ih.go h2 h5 h7).later h8 (by have := starts_eq hs; omega)
end

/-! ### Mirrored towns -/
def mirS (s : Str) : Str := ⟨s.to, s.fr, s.mi, s.up, s.wi, s.be, s.bk, 239 - s.hi, 239 - s.lo⟩
section
variable {l : List Str} {C w ld to bm m x : Int}
theorem mir_takes (s : Str) (b : Bool) : takes (mirS s) b ld = takes s b ld := rfl
theorem mir_mir (s : Str) : mirS (mirS s) = s := by
  cases s
  simp only [mirS]
  congr 1 <;> omega
theorem mir_starts {s : Str} {b : Bool} (hf : Fit s ld) (h0 : 0 ≤ m) (h : startsL s b ld m ≠ -1) : startsL (mirS s) b ld (240 - startsL s b ld m) = 240 - m ∧ 240 - m ≠ -1 := by
  obtain ⟨q1, q2, q3⟩ := starts_eq h
  have ht := hf.takes b
  have hm : meetsL (mirS s) b ld (240 - startsL s b ld m) = false := by
    unfold meetsL at q3 ⊢
    rw [mir_takes]
    have l1 : (mirS s).lo = 239 - s.hi := rfl
    have l2 : (mirS s).hi = 239 - s.lo := rfl
    rw [l1, l2]
    simp only [Bool.and_eq_false_iff,Bool.not_eq_false',decide_eq_true_eq,decide_eq_false_iff_not] at q3 ⊢
    omega
  have := starts_of (s := mirS s) (b := b) (ld := ld) (m := 240 - startsL s b ld m) (by rw [mir_takes]; omega) hm
  rw [mir_takes] at this
  omega
theorem Good.mir (g : Good C l ld) : Good C (l.map mirS) ld where
  hC := g.hC
  st s hs := by
    obtain ⟨t, ht, rfl⟩ := List.mem_map.1 hs
    obtain ⟨h1, h2, h3⟩ := g.st t ht
    exact ⟨h2, h1, h3.mi, h3.ul, by show 0 ≤ 239 - t.hi ∧ 239 - t.hi ≤ 239; have := h3.hi; omega, by show 0 ≤ 239 - t.lo ∧ 239 - t.lo ≤ 239; have := h3.lo; omega⟩
theorem Late.mir (g : Good C l ld) (hb : 0 ≤ bm ∧ bm ≤ 240) (h : Late l w ld to bm m x) : Can (l.map mirS) w ld to (240 - bm) (240 - m) x := by
  induction h with
  | stop => exact .start
  | @wait m x h1 h2 ih =>
    have := ih.wait (by have := h1.ge hb.1 g; omega)
    rwa [show 240 - (m + 1) + 1 = 240 - m by omega] at this
  | @go m i s b h1 hi hm hs h0 ih =>
    obtain ⟨q1, q2⟩ := mir_starts (b := b) (g.fit (List.mem_of_getElem? hi)) h0 hs
    have hi' : (l.map mirS)[i]? = some (mirS s) := by rw [List.getElem?_map, hi]; rfl
    have := Can.go (b := b) (s := mirS s) ih hi' hm (by rw [q1]; exact q2)
    rwa [q1] at this
theorem Can.mir (g : Good C l ld) (hb : 0 ≤ bm ∧ bm ≤ 240) (h : Can (l.map mirS) w ld to (240 - bm) m x) : Late l w ld to bm (240 - m) x := by
  induction h with
  | start => rw [show 240 - (240 - bm) = bm by omega]; exact .stop
  | @wait m x h1 h2 ih =>
    rw [show 240 - m = 240 - (m + 1) + 1 by omega] at ih
    exact ih.wait (by omega)
  | @go m i s b h1 hi hm hs ih =>
    have := h1.le (by omega) g.mir
    have hq := starts_eq hs
    rw [List.getElem?_map, Option.map_eq_some_iff] at hi
    obtain ⟨t, hi, rfl⟩ := hi
    obtain ⟨q1, q2⟩ := mir_starts (b := b) (g.mir.fit (List.mem_map_of_mem (List.mem_of_getElem? hi))) (by omega) hs
    rw [mir_mir] at q1
    have hl := Late.go (l := l) (w := w) (ld := ld) (to := to) (bm := bm) (m := 240 - startsL (mirS t) b ld m) (i := i) (s := t) (b := b) (by rw [q1]; exact ih) hi hm (by omega) (by have := g.mir.fit (List.mem_map_of_mem (List.mem_of_getElem? hi)); omega)
    exact hl
theorem lat_mir (g : Good C l ld) (hb : 0 ≤ bm ∧ bm ≤ 240) (hto : 0 ≤ to ∧ to < C) (hx : 0 ≤ x) :
    (tg (earT C (l.map mirS) w ld to (240 - bm)) x = -1 ↔ tg (latT C l w ld to bm) x = -1) ∧ (tg (earT C (l.map mirS) w ld to (240 - bm)) x ≠ -1 → tg (latT C l w ld to bm) x = 240 - tg (earT C (l.map mirS) w ld to (240 - bm)) x) := by
  have hE := earT_is (w := w) (a₀ := 240 - bm) g.mir hto (by omega)
  have hL := latT_is (w := w) g hto hb
  have h1 : tg (earT C (l.map mirS) w ld to (240 - bm)) x ≠ -1 → tg (latT C l w ld to bm) x ≠ -1 ∧ 240 - tg (earT C (l.map mirS) w ld to (240 - bm)) x ≤ tg (latT C l w ld to bm) x := fun h => hL.ge _ x hx ((hE.can x hx h).mir g hb)
  have h2 : tg (latT C l w ld to bm) x ≠ -1 → tg (earT C (l.map mirS) w ld to (240 - bm)) x ≠ -1 ∧ tg (earT C (l.map mirS) w ld to (240 - bm)) x ≤ 240 - tg (latT C l w ld to bm) x := fun h => hE.le _ x hx ((hL.can x hx h).mir g hb)
  refine ⟨⟨fun h => Classical.byContradiction fun h' => (h2 h').1 h, fun h => Classical.byContradiction fun h' => (h1 h').1 h⟩, fun h => ?_⟩
  have a := h1 h
  have b := h2 a.1
  omega
end
end Go.Am
