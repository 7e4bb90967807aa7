import Derived.Test.YtaieoelbpnjoiaaT25
set_option linter.unusedSimpArgs false
set_option linter.unusedVariables false
namespace Go.Am
open Go.Proofs
def nearL (s : Str) (b : Bool) : Int := bif b then s.to else s.fr
def farL (s : Str) (b : Bool) : Int := bif b then s.fr else s.to
def arrL (s : Str) (b : Bool) (ld m : Int) : Int := if m = -1 then -1 else arriveL s b ld m
def leaveL (s : Str) (b : Bool) (ld m : Int) : Int := bif meetsL s b ld (m - takes s b ld) then (if s.lo - takes s b ld < 0 then -1 else s.lo - takes s b ld) else (if m - takes s b ld < 0 then -1 else m - takes s b ld)
def levL (s : Str) (b : Bool) (ld m : Int) : Int := if m = -1 then -1 else leaveL s b ld m
section
variable {σ : Type} (f : σ → Nat → Str → Bool → σ) (w ld : Int)
def visit (x : Int) (i : Nat) (s : Str) (b : Bool) (st : σ) : σ := bif decide (nearL s b = x) && mayL s b w ld then f st i s b else st
def visits (x : Int) : List Str → Nat → σ → σ
 | [], _, st => st
 | s :: l, i, st => visits x l (i + 1) (visit f w ld x i s true (visit f w ld x i s false st))
def sweepTo (l : List Str) : Nat → σ → σ
 | 0, st => st
 | k + 1, st => visits f w ld k l 0 (sweepTo l k st)
end
section
variable {σ : Type} {f : σ → Nat → Str → Bool → σ} {w ld : Int}
theorem visits_snoc {x : Int} {s : Str} : ∀ (l : List Str) (i : Nat) (st : σ), visits f w ld x (l ++ [s]) i st = visit f w ld x (i + l.length) s true (visit f w ld x (i + l.length) s false (visits f w ld x l i st))
 | [], i, st => rfl
 | t :: l, i, st => by
  simp only [List.cons_append,visits,List.length_cons]
  rw [visits_snoc l (i + 1)]
  rw [show i + 1 + l.length = i + (l.length + 1) by omega]
theorem take_snoc {α : Type} : ∀ (l : List α) (i : Nat) (s : α), l[i]? = some s → l.take (i + 1) = l.take i ++ [s]
 | [], i, s, h => by simp at h
 | t :: l, 0, s, h => by simp at h; simp [h]
 | t :: l, i + 1, s, h => by
  simp only [List.take_succ_cons,List.cons_append]
  rw [take_snoc l i s (by simpa using h)]
theorem visits_take {x : Int} {l : List Str} {i : Nat} {s : Str} {st : σ} (h : l[i]? = some s) : visits f w ld x (l.take (i + 1)) 0 st = visit f w ld x i s true (visit f w ld x i s false (visits f w ld x (l.take i) 0 st)) := by
 have hi := (List.getElem?_eq_some_iff.1 h).1
 rw [take_snoc l i s h, visits_snoc, List.length_take, Nat.min_eq_left (by omega), Nat.zero_add]
theorem visits_all {x : Int} {l : List Str} {st : σ} : visits f w ld x (l.take l.length) 0 st = visits f w ld x l 0 st := by rw [List.take_length]
theorem visits_ind {P : σ → Prop} {x : Int} (L : List Str) (hf : ∀ st i s b, P st → L[i]? = some s → mayL s b w ld = true → nearL s b = x → P (f st i s b)) : ∀ (l : List Str) (i : Nat) (st : σ), (∀ j s, l[j]? = some s → L[i + j]? = some s) → P st → P (visits f w ld x l i st)
 | [], i, st, _, h => h
 | s :: l, i, st, hL, h => by
  have h0 : L[i]? = some s := by have := hL 0 s rfl; simpa using this
  have one : ∀ b st, P st → P (visit f w ld x i s b st) := fun b st h => by
   unfold visit
   cases hc : decide (nearL s b = x) && mayL s b w ld
   ·exact h
   ·simp only [Bool.and_eq_true,decide_eq_true_eq] at hc
    exact hf st i s b h h0 hc.2 hc.1
  refine visits_ind L hf l (i + 1) _ (fun j s' hj => ?_) (one true _ (one false _ h))
  have := hL (j + 1) s' (by simpa using hj)
  rwa [show i + 1 + j = i + (j + 1) by omega]
theorem sweep_ind {P : σ → Prop} {l : List Str} (hf : ∀ st i s b, P st → l[i]? = some s → mayL s b w ld = true → 0 ≤ nearL s b → P (f st i s b)) : ∀ (k : Nat) (st : σ), P st → P (sweepTo f w ld l k st)
 | 0, st, h => h
 | k + 1, st, h => visits_ind l (fun st i s b hp hi hm hn => hf st i s b hp hi hm (by omega)) l 0 _ (fun j s hj => by simpa using hj) (sweep_ind hf k st h)
theorem visits_each {P R : σ → Prop} {x : Int} {i₀ : Nat} {s₀ : Str} {b₀ : Bool} (L : List Str) (hf : ∀ st i s b, P st → L[i]? = some s → mayL s b w ld = true → nearL s b = x → P (f st i s b))
  (hk : ∀ st i s b, P st → R st → L[i]? = some s → mayL s b w ld = true → nearL s b = x → R (f st i s b)) (he : ∀ st, P st → R (f st i₀ s₀ b₀)) (hm : mayL s₀ b₀ w ld = true) (hn : nearL s₀ b₀ = x) :
  ∀ (l : List Str) (i : Nat) (st : σ), (∀ j s, l[j]? = some s → L[i + j]? = some s) → i ≤ i₀ → l[i₀ - i]? = some s₀ → P st → R (visits f w ld x l i st)
 | [], i, st, _, _, h, _ => by simp at h
 | s :: l, i, st, hL, hi, hg, h => by
  have h0 : L[i]? = some s := by have := hL 0 s rfl; simpa using this
  have hL' : ∀ j s', l[j]? = some s' → L[i + 1 + j]? = some s' := fun j s' hj => by
   have := hL (j + 1) s' (by simpa using hj)
   rwa [show i + 1 + j = i + (j + 1) by omega]
  have one : ∀ b st, P st → P (visit f w ld x i s b st) := fun b st h => by
   unfold visit
   cases hc : decide (nearL s b = x) && mayL s b w ld
   ·exact h
   ·simp only [Bool.and_eq_true,decide_eq_true_eq] at hc
    exact hf st i s b h h0 hc.2 hc.1
  have oneR : ∀ b st, P st → R st → R (visit f w ld x i s b st) := fun b st h hr => by
   unfold visit
   cases hc : decide (nearL s b = x) && mayL s b w ld
   ·exact hr
   ·simp only [Bool.and_eq_true,decide_eq_true_eq] at hc
    exact hk st i s b h hr h0 hc.2 hc.1
  simp only [visits]
  by_cases e : i₀ = i
  ·subst e
   have hs : s = s₀ := by simpa using hg
   subst hs
   have hit : ∀ st, P st → R (visit f w ld x i₀ s b₀ st) := fun st h => by
    unfold visit
    rw [hm, hn]
    simp only [decide_true,Bool.and_self,cond_true]
    exact he st h
   have key : P (visit f w ld x i₀ s true (visit f w ld x i₀ s false st)) ∧ R (visit f w ld x i₀ s true (visit f w ld x i₀ s false st)) := by
    refine ⟨one _ _ (one _ _ h), ?_⟩
    cases b₀ with
    | false => exact oneR _ _ (one _ _ h) (hit st h)
    | true => exact hit _ (one _ _ h)
   exact (visits_ind (P := fun st => P st ∧ R st) L (fun st i s b hp h1 h2 h3 => ⟨hf st i s b hp.1 h1 h2 h3, hk st i s b hp.1 hp.2 h1 h2 h3⟩) l (i₀ + 1) _ hL' key).2
  ·refine visits_each L hf hk he hm hn l (i + 1) _ hL' (by omega) ?_ (one _ _ (one _ _ h))
   rw [show i₀ - i = (i₀ - (i + 1)) + 1 by omega, List.getElem?_cons_succ] at hg
   exact hg
theorem sweep_each {P R : σ → Prop} {l : List Str} {i₀ : Nat} {s₀ : Str} {b₀ : Bool} (hf : ∀ st i s b, P st → l[i]? = some s → mayL s b w ld = true → 0 ≤ nearL s b → P (f st i s b))
  (hk : ∀ st i s b, P st → R st → l[i]? = some s → mayL s b w ld = true → 0 ≤ nearL s b → R (f st i s b)) (he : ∀ st, P st → R (f st i₀ s₀ b₀)) (h₀ : l[i₀]? = some s₀) (hm : mayL s₀ b₀ w ld = true) (hn : 0 ≤ nearL s₀ b₀) :
  ∀ (k : Nat) (st : σ), nearL s₀ b₀ < k → P st → R (sweepTo f w ld l k st)
 | 0, st, h, _ => by omega
 | k + 1, st, h, hp => by
  have hP := sweep_ind hf k st hp
  by_cases e : nearL s₀ b₀ = (k : Int)
  ·exact visits_each l (fun st i s b hp hi hm hn => hf st i s b hp hi hm (by omega)) (fun st i s b hp hr hi hm hn => hk st i s b hp hr hi hm (by omega)) he hm e l 0 _ (fun j s hj => by simpa using hj) (Nat.zero_le _) (by simpa using h₀) hP
  ·have hR := sweep_each hf hk he h₀ hm hn k st (by omega) hp
   exact (visits_ind (P := fun st => P st ∧ R st) l (fun st i s b hp h1 h2 h3 => ⟨hf st i s b hp.1 h1 h2 (by omega), hk st i s b hp.1 hp.2 h1 h2 (by omega)⟩) l 0 _ (fun j s hj => by simpa using hj) ⟨hP, hR⟩).2
end
def tg (t : List Int) (x : Int) : Int := t.getD x.toNat (-1)
structure Dir where
 cross : Str → Bool → Int → Int
 mu : Int → Int
 known : Str → Bool → Int
 other : Str → Bool → Int
def Dir.step (d : Dir) (t₀ t : List Int) (_ : Nat) (s : Str) (b : Bool) : List Int :=
 bif decide (d.mu (d.cross s b (tg t₀ (d.known s b))) < d.mu (tg t (d.other s b))) then t.set (d.other s b).toNat (d.cross s b (tg t₀ (d.known s b))) else t
def Dir.spread (d : Dir) (l : List Str) (w ld : Int) (k : Nat) (t : List Int) : List Int := sweepTo (d.step t) w ld l k t
def Dir.iter (d : Dir) (l : List Str) (w ld : Int) (k : Nat) : Nat → List Int → List Int
 | 0, t => t
 | n + 1, t => d.spread l w ld k (Dir.iter d l w ld k n t)
def fwd (ld : Int) : Dir := ⟨fun s b m => arrL s b ld m, fun v => if v = -1 then 241 else v, nearL, farL⟩
def bwd (ld : Int) : Dir := ⟨fun s b m => levL s b ld m, fun v => 240 - v, farL, nearL⟩
def okM (v : Int) : Prop := -1 ≤ v ∧ v ≤ 240
def okT (t : List Int) : Prop := t.length = 8 ∧ ∀ x, okM (tg t x)
structure Dir.Ok (d : Dir) (l : List Str) : Prop where
 cross : ∀ s ∈ l, ∀ b m, okM m → okM (d.cross s b m)
 mu : ∀ v, okM v → 0 ≤ d.mu v ∧ d.mu v ≤ 241
 inj : ∀ v v', okM v → okM v' → d.mu v = d.mu v' → v = v'
 other : ∀ s ∈ l, ∀ b, 0 ≤ d.other s b ∧ d.other s b ≤ 7
theorem tg_set {t : List Int} {x y v : Int} (ht : t.length = 8) (hx : 0 ≤ x ∧ x ≤ 7) (hy : 0 ≤ y) : tg (t.set x.toNat v) y = if y = x then v else tg t y := by
 unfold tg
 simp only [List.getD_eq_getElem?_getD,List.getElem?_set]
 by_cases e : y = x
 ·subst e
  rw [if_pos rfl, if_pos rfl, if_pos (by omega)]; rfl
 ·rw [if_neg e, if_neg (by omega)]
theorem tg_neg {t : List Int} {x : Int} (h : x < 0) : tg t x = tg t 0 := by unfold tg; rw [Int.toNat_of_nonpos (by omega)]; rfl
theorem okT_set {t : List Int} {x v : Int} (ht : okT t) (hx : 0 ≤ x ∧ x ≤ 7) (hv : okM v) : okT (t.set x.toNat v) := by
 refine ⟨by rw [List.length_set]; exact ht.1, fun y => ?_⟩
 by_cases hy : 0 ≤ y
 ·rw [tg_set ht.1 hx hy]
  split
  ·exact hv
  ·exact ht.2 y
 ·rw [tg_neg (by omega), tg_set ht.1 hx (by omega)]
  split
  ·exact hv
  ·exact ht.2 0
section
variable {d : Dir} {l : List Str} {w ld : Int} {k : Nat} {t₀ t : List Int}
theorem Dir.Ok.step (hd : d.Ok l) (h₀ : okT t₀) (ht : okT t) {i : Nat} {s : Str} {b : Bool} (hs : s ∈ l) : okT (d.step t₀ t i s b) ∧ (∀ x, 0 ≤ x → d.mu (tg (d.step t₀ t i s b) x) ≤ d.mu (tg t x)) ∧ d.mu (tg (d.step t₀ t i s b) (d.other s b)) ≤ d.mu (d.cross s b (tg t₀ (d.known s b))) := by
 have hc := hd.cross s hs b _ (h₀.2 (d.known s b))
 have ho := hd.other s hs b
 unfold Dir.step
 cases hb : decide (d.mu (d.cross s b (tg t₀ (d.known s b))) < d.mu (tg t (d.other s b)))
 ·simp only [decide_eq_false_iff_not,Int.not_lt] at hb
  exact ⟨ht, fun x _ => Int.le_refl _, hb⟩
 ·simp only [decide_eq_true_eq] at hb
  refine ⟨okT_set ht ho hc, fun x hx => ?_, ?_⟩
  ·simp only [cond_true]
   rw [tg_set ht.1 ho hx]
   split
   ·rename_i e; subst e; exact Int.le_of_lt hb
   ·exact Int.le_refl _
  ·simp only [cond_true]
   rw [tg_set ht.1 ho ho.1, if_pos rfl]; exact Int.le_refl _
theorem Dir.Ok.spread (hd : d.Ok l) (ht : okT t) : okT (d.spread l w ld k t) ∧ ∀ x, 0 ≤ x → d.mu (tg (d.spread l w ld k t) x) ≤ d.mu (tg t x) :=
 sweep_ind (P := fun t' => okT t' ∧ ∀ x, 0 ≤ x → d.mu (tg t' x) ≤ d.mu (tg t x)) (fun st i s b hp hi _ _ => by
  have := hd.step ht hp.1 (i := i) (b := b) (List.mem_of_getElem? hi)
  exact ⟨this.1, fun x hx => Int.le_trans (this.2.1 x hx) (hp.2 x hx)⟩) k t ⟨ht, fun x _ => Int.le_refl _⟩
theorem Dir.Ok.spread_leg (hd : d.Ok l) (ht : okT t) {i : Nat} {s : Str} {b : Bool} (hi : l[i]? = some s) (hm : mayL s b w ld = true) (hn : 0 ≤ nearL s b) (hk : nearL s b < k) : d.mu (tg (d.spread l w ld k t) (d.other s b)) ≤ d.mu (d.cross s b (tg t (d.known s b))) :=
 sweep_each (P := okT) (R := fun t' => d.mu (tg t' (d.other s b)) ≤ d.mu (d.cross s b (tg t (d.known s b))))
  (fun st i s b hp hi _ _ => (hd.step ht hp (i := i) (b := b) (List.mem_of_getElem? hi)).1)
  (fun st i' s' b' hp hr hi' _ _ => Int.le_trans ((hd.step ht hp (i := i') (b := b') (List.mem_of_getElem? hi')).2.1 _ (hd.other s (List.mem_of_getElem? hi) b).1) hr)
  (fun st hp => (hd.step ht hp (i := i) (b := b) (List.mem_of_getElem? hi)).2.2) hi hm hn k t hk ht
theorem table_ext {t t' : List Int} (h : t.length = 8) (h' : t'.length = 8) (he : ∀ x : Int, 0 ≤ x → tg t x = tg t' x) : t = t' := by
 apply List.ext_getElem?
 intro i
 by_cases hi : i < 8
 ·have := he i (by omega)
  unfold tg at this
  simp only [List.getD_eq_getElem?_getD,Int.toNat_natCast] at this
  rw [List.getElem?_eq_getElem (by omega : i < t.length), List.getElem?_eq_getElem (by omega : i < t'.length)] at this ⊢
  simpa using this
 ·rw [List.getElem?_eq_none (by omega), List.getElem?_eq_none (by omega)]
def Dir.sum (d : Dir) (t : List Int) : Int := d.mu (tg t 0) + d.mu (tg t 1) + d.mu (tg t 2) + d.mu (tg t 3) + d.mu (tg t 4) + d.mu (tg t 5) + d.mu (tg t 6) + d.mu (tg t 7)
theorem tg_over {t : List Int} {x : Int} (ht : t.length = 8) (h : 7 < x) : tg t x = -1 := by
 unfold tg
 rw [List.getD_eq_getElem?_getD, List.getElem?_eq_none (by omega)]; rfl
theorem Dir.Ok.less (hd : d.Ok l) (ht : okT t) (hne : d.spread l w ld k t ≠ t) : d.sum (d.spread l w ld k t) < d.sum t := by
 obtain ⟨h1, h2⟩ := hd.spread (w := w) (ld := ld) (k := k) ht
 have a0 := h2 0 (by omega); have a1 := h2 1 (by omega); have a2 := h2 2 (by omega); have a3 := h2 3 (by omega)
 have a4 := h2 4 (by omega); have a5 := h2 5 (by omega); have a6 := h2 6 (by omega); have a7 := h2 7 (by omega)
 refine Classical.byContradiction fun hn => hne (table_ext h1.1 ht.1 fun x hx => hd.inj _ _ (h1.2 x) (ht.2 x) ?_)
 unfold Dir.sum at hn
 by_cases hx7 : 7 < x
 ·rw [tg_over h1.1 hx7, tg_over ht.1 hx7]
 ·have : x = 0 ∨ x = 1 ∨ x = 2 ∨ x = 3 ∨ x = 4 ∨ x = 5 ∨ x = 6 ∨ x = 7 := by omega
  rcases this with rfl | rfl | rfl | rfl | rfl | rfl | rfl | rfl <;> omega
theorem Dir.Ok.sum (hd : d.Ok l) (ht : okT t) : 0 ≤ d.sum t ∧ d.sum t ≤ 1928 := by
 unfold Dir.sum
 have a0 := hd.mu _ (ht.2 0); have a1 := hd.mu _ (ht.2 1); have a2 := hd.mu _ (ht.2 2); have a3 := hd.mu _ (ht.2 3)
 have a4 := hd.mu _ (ht.2 4); have a5 := hd.mu _ (ht.2 5); have a6 := hd.mu _ (ht.2 6); have a7 := hd.mu _ (ht.2 7)
 omega
theorem Dir.Ok.iter (hd : d.Ok l) (ht : okT t) : ∀ n, okT (d.iter l w ld k n t)
 | 0 => ht
 | n + 1 => (hd.spread (Dir.Ok.iter hd ht n)).1
theorem iter_stay {n : Nat} (h : d.spread l w ld k (d.iter l w ld k n t) = d.iter l w ld k n t) : ∀ m, n ≤ m → d.iter l w ld k m t = d.iter l w ld k n t
 | 0, hm => by rw [show n = 0 by omega]
 | m + 1, hm => by
  by_cases e : n = m + 1
  ·rw [e]
  ·show d.spread l w ld k (d.iter l w ld k m t) = _
   rw [iter_stay h m (by omega), h]
theorem Dir.Ok.moves (hd : d.Ok l) (ht : okT t) : ∀ n : Nat, (∀ j, j < n → d.spread l w ld k (d.iter l w ld k j t) ≠ d.iter l w ld k j t) → d.sum (d.iter l w ld k n t) + n ≤ d.sum t
 | 0, _ => by simp [Dir.iter]
 | n + 1, h => by
  have h1 := Dir.Ok.moves hd ht n fun j hj => h j (by omega)
  have h2 := hd.less (w := w) (ld := ld) (k := k) (hd.iter ht n) (h n (by omega))
  show d.sum (d.spread l w ld k (d.iter l w ld k n t)) + (n + 1 : Nat) ≤ _
  omega
theorem Dir.Ok.stops (hd : d.Ok l) (ht : okT t) : ∃ n, n ≤ 1929 ∧ d.spread l w ld k (d.iter l w ld k n t) = d.iter l w ld k n t := by
 refine Classical.byContradiction fun hn => ?_
 have h := hd.moves (w := w) (ld := ld) (k := k) ht 1930 fun j hj he => hn ⟨j, by omega, he⟩
 have h1 := hd.sum ht
 have h2 := hd.sum (hd.iter (w := w) (ld := ld) (k := k) ht 1930)
 omega
theorem Dir.Ok.stable (hd : d.Ok l) (ht : okT t) : d.spread l w ld k (d.iter l w ld k 2000 t) = d.iter l w ld k 2000 t := by
 obtain ⟨n, h1, h2⟩ := hd.stops (w := w) (ld := ld) (k := k) ht
 rw [iter_stay h2 2000 (by omega), h2]
end
end Go.Am
namespace Go.Am
open Go.Proofs
inductive Can (l : List Str) (w ld fr a₀ : Int) : Int → Int → Prop where
 | start : Can l w ld fr a₀ a₀ fr
 | wait {m x : Int} (h : Can l w ld fr a₀ m x) (hm : m < 240) : Can l w ld fr a₀ (m + 1) x
 | go {m : Int} {i : Nat} {s : Str} {b : Bool} (h : Can l w ld fr a₀ m (nearL s b)) (hi : l[i]? = some s) (hm : mayL s b w ld = true) (hs : startsL s b ld m ≠ -1) : Can l w ld fr a₀ (startsL s b ld m) (farL s b)
inductive Late (l : List Str) (w ld to bm : Int) : Int → Int → Prop where
 | stop : Late l w ld to bm bm to
 | wait {m x : Int} (h : Late l w ld to bm (m + 1) x) (hm : 0 ≤ m) : Late l w ld to bm m x
 | go {m : Int} {i : Nat} {s : Str} {b : Bool} (h : Late l w ld to bm (startsL s b ld m) (farL s b)) (hi : l[i]? = some s) (hm : mayL s b w ld = true) (hs : startsL s b ld m ≠ -1) (h0 : 0 ≤ m) : Late l w ld to bm m (nearL s b)
structure Good (C : Int) (l : List Str) (ld : Int) : Prop where
 hC : 1 ≤ C ∧ C ≤ 8
 st : ∀ s ∈ l, (0 ≤ s.fr ∧ s.fr < C) ∧ (0 ≤ s.to ∧ s.to < C) ∧ Fit s ld
section
variable {s : Str} {b : Bool} {ld m n : Int}
theorem starts_eq (h : startsL s b ld m ≠ -1) : startsL s b ld m = m + takes s b ld ∧ m + takes s b ld ≤ 240 ∧ meetsL s b ld m = false := by
 have hl : ¬ 240 < m + takes s b ld := fun h' => h (starts_late h')
 have hm : meetsL s b ld m = false := by
  cases h' : meetsL s b ld m with
  | false => rfl
  | true => exact absurd (starts_meets h') h
 refine ⟨?_, by omega, hm⟩
 unfold startsL
 rw [if_neg hl, hm]; rfl
theorem starts_of (h : m + takes s b ld ≤ 240) (hm : meetsL s b ld m = false) : startsL s b ld m = m + takes s b ld := by
 unfold startsL
 rw [if_neg (by omega), hm]; rfl
theorem arr_starts (hf : Fit s ld) (h0 : 0 ≤ m) (h : arriveL s b ld m ≠ -1) : ∃ k, m ≤ k ∧ startsL s b ld k = arriveL s b ld m ∧ startsL s b ld k ≠ -1 := by
 have ht := hf.takes b
 unfold arriveL at h ⊢
 cases hm : meetsL s b ld m
 ·rw [hm] at h
  simp only [cond_false] at h ⊢
  split at h
  ·exact absurd rfl h
  ·rename_i h1
   rw [if_neg h1]
   have := starts_of (by omega) hm
   exact ⟨m, Int.le_refl _, this, by omega⟩
 ·rw [hm] at h
  simp only [cond_true] at h ⊢
  have hi := meets_iff.1 hm
  split at h
  ·exact absurd rfl h
  ·rename_i h1
   rw [if_neg h1]
   have hn : meetsL s b ld (s.hi + 1) = false := meets_not.2 (by omega)
   have := starts_of (by omega) hn
   exact ⟨s.hi + 1, by omega, this, by omega⟩
theorem arr_le (hf : Fit s ld) (h0 : 0 ≤ n) (hnm : n ≤ m) (h : startsL s b ld m ≠ -1) : arriveL s b ld n ≠ -1 ∧ arriveL s b ld n ≤ startsL s b ld m := by
 have ht := hf.takes b
 have hh := hf.hi
 obtain ⟨h1, h2, h3⟩ := starts_eq h
 have h4 := meets_not.1 h3
 rw [h1]
 unfold arriveL
 cases hm : meetsL s b ld n
 ·simp only [cond_false]
  rw [if_neg (by omega)]
  omega
 ·simp only [cond_true]
  have hi := meets_iff.1 hm
  rw [if_neg (by omega)]
  omega
theorem arr_ok (hf : Fit s ld) (h : okM m) : okM (arrL s b ld m) := by
 unfold arrL
 split
 ·exact ⟨by omega, by omega⟩
 ·have h0 : 0 ≤ m := by have := h.1; omega
  by_cases e : arriveL s b ld m = -1
  ·rw [e]; exact ⟨by omega, by omega⟩
  ·obtain ⟨k, h1, h2, h3⟩ := arr_starts hf h0 e
   obtain ⟨h4, h5, -⟩ := starts_eq h3
   have ht := hf.takes b
   rw [← h2]
   exact ⟨by omega, by omega⟩
theorem lev_starts (hf : Fit s ld) (h1 : m ≤ 240) (h : leaveL s b ld m ≠ -1) : 0 ≤ leaveL s b ld m ∧ startsL s b ld (leaveL s b ld m) ≠ -1 ∧ startsL s b ld (leaveL s b ld m) ≤ m := by
 have ht := hf.takes b
 have hl := hf.lo
 unfold leaveL at h ⊢
 cases hm : meetsL s b ld (m - takes s b ld)
 ·rw [hm] at h
  simp only [cond_false] at h ⊢
  split at h
  ·exact absurd rfl h
  ·rename_i h2
   rw [if_neg h2, starts_of (by omega) hm]
   omega
 ·rw [hm] at h
  simp only [cond_true] at h ⊢
  have hi := meets_iff.1 hm
  split at h
  ·exact absurd rfl h
  ·rename_i h2
   have hn : meetsL s b ld (s.lo - takes s b ld) = false := meets_not.2 (by omega)
   rw [if_neg h2, starts_of (by omega) hn]
   omega
theorem lev_ge (hf : Fit s ld) (h0 : 0 ≤ m) (hn : startsL s b ld m ≤ n) (h : startsL s b ld m ≠ -1) : leaveL s b ld n ≠ -1 ∧ m ≤ leaveL s b ld n := by
 have ht := hf.takes b
 obtain ⟨h1, h2, h3⟩ := starts_eq h
 have h4 := meets_not.1 h3
 unfold leaveL
 cases hm : meetsL s b ld (n - takes s b ld)
 ·simp only [cond_false]
  rw [if_neg (by omega)]
  omega
 ·simp only [cond_true]
  have hi := meets_iff.1 hm
  rw [if_neg (by omega)]
  omega
theorem lev_ok (hf : Fit s ld) (h : okM m) : okM (levL s b ld m) := by
 unfold levL
 split
 ·exact ⟨by omega, by omega⟩
 ·by_cases e : leaveL s b ld m = -1
  ·rw [e]; exact ⟨by omega, by omega⟩
  ·obtain ⟨h1, h2, h3⟩ := lev_starts hf h.2 e
   have ht := hf.takes b
   have := (starts_eq h2).1
   have := h.2
   exact ⟨by omega, by omega⟩
end
section
variable {C w ld fr a₀ to bm m m' x : Int} {l : List Str}
theorem Good.far (g : Good C l ld) {s : Str} (h : s ∈ l) (b : Bool) : 0 ≤ farL s b ∧ farL s b < C := by
 have := g.st s h
 cases b <;> simp only [farL,cond_true,cond_false] <;> omega
theorem Good.near (g : Good C l ld) {s : Str} (h : s ∈ l) (b : Bool) : 0 ≤ nearL s b ∧ nearL s b < C := by
 have := g.st s h
 cases b <;> simp only [nearL,cond_true,cond_false] <;> omega
theorem Good.fit (g : Good C l ld) {s : Str} (h : s ∈ l) : Fit s ld := (g.st s h).2.2
theorem fwd_ok (g : Good C l ld) : (fwd ld).Ok l where
 cross s h b m hm := arr_ok (g.fit h) hm
 mu v hv := by
  have := hv.1; have := hv.2
  simp only [fwd]; split <;> omega
 inj v v' hv hv' he := by
  have := hv.1; have := hv.2; have := hv'.1; have := hv'.2
  simp only [fwd] at he
  split at he <;> split at he <;> omega
 other s h b := by have := g.far h b; have := g.hC; simp only [fwd]; omega
theorem bwd_ok (g : Good C l ld) : (bwd ld).Ok l where
 cross s h b m hm := lev_ok (g.fit h) hm
 mu v hv := by have := hv.1; have := hv.2; simp only [bwd]; omega
 inj v v' hv hv' he := by simp only [bwd] at he; omega
 other s h b := by have := g.near h b; have := g.hC; simp only [bwd]; omega
theorem Can.le (h0 : a₀ ≤ 240) (h : Can l w ld fr a₀ m x) (g : Good C l ld) : a₀ ≤ m ∧ m ≤ 240 := by
 induction h with
 | start => omega
 | wait _ hm ih => omega
 | @go m i s b _ hi _ hs ih =>
  have := starts_eq hs
  have := (g.fit (List.mem_of_getElem? hi)).takes b
  omega
theorem Can.corner (hfr : 0 ≤ fr ∧ fr < C) (h : Can l w ld fr a₀ m x) (g : Good C l ld) : 0 ≤ x ∧ x < C := by
 induction h with
 | start => exact hfr
 | wait _ _ ih => exact ih
 | go _ hi _ _ _ => exact g.far (List.mem_of_getElem? hi) _
theorem Can.later (h : Can l w ld fr a₀ m x) (hm : m ≤ m') (h1 : m' ≤ 240) : Can l w ld fr a₀ m' x := by
 have key : ∀ k : Nat, m + k ≤ 240 → Can l w ld fr a₀ (m + k) x := by
  intro k
  induction k with
  | zero => intro _; simpa using h
  | succ k ih =>
   intro hk
   have := Can.wait (ih (by omega)) (by omega)
   rwa [show m + ((k + 1 : Nat) : Int) = m + k + 1 by omega]
 have := key (m' - m).toNat (by omega)
 rwa [show m + ((m' - m).toNat : Int) = m' by omega] at this
theorem Late.ge (h0 : 0 ≤ bm) (h : Late l w ld to bm m x) (g : Good C l ld) : 0 ≤ m ∧ m ≤ bm := by
 induction h with
 | stop => omega
 | wait _ hm ih => omega
 | @go m i s b _ hi _ hs h0 ih =>
  have := starts_eq hs
  have := (g.fit (List.mem_of_getElem? hi)).takes b
  omega
theorem Late.corner (hto : 0 ≤ to ∧ to < C) (h : Late l w ld to bm m x) (g : Good C l ld) : 0 ≤ x ∧ x < C := by
 induction h with
 | stop => exact hto
 | wait _ _ ih => exact ih
 | go _ hi _ _ _ _ => exact g.near (List.mem_of_getElem? hi) _
theorem Late.sooner (h : Late l w ld to bm m x) (hm : m' ≤ m) (h0 : 0 ≤ m') : Late l w ld to bm m' x := by
 have key : ∀ k : Nat, 0 ≤ m - k → Late l w ld to bm (m - k) x := by
  intro k
  induction k with
  | zero => intro _; simpa using h
  | succ k ih =>
   intro hk
   have h1 := ih (by omega)
   rw [show m - (k : Int) = m - ((k + 1 : Nat) : Int) + 1 by omega] at h1
   exact Late.wait h1 (by omega)
 have := key (m - m').toNat (by omega)
 rwa [show m - ((m - m').toNat : Int) = m' by omega] at this
def begT (x m : Int) : List Int := (List.replicate 8 (-1)).set x.toNat m
def earT (C : Int) (l : List Str) (w ld fr a₀ : Int) : List Int := (fwd ld).iter l w ld C.toNat 2000 (begT fr a₀)
def latT (C : Int) (l : List Str) (w ld to bm : Int) : List Int := (bwd ld).iter l w ld C.toNat 2000 (begT to bm)
theorem tg_none {y : Int} : tg (List.replicate 8 (-1)) y = -1 := by
 unfold tg
 rw [List.getD_eq_getElem?_getD, List.getElem?_replicate]
 split <;> rfl
theorem tg_beg {y : Int} (hx : 0 ≤ x ∧ x ≤ 7) (hy : 0 ≤ y) : tg (begT x m) y = if y = x then m else -1 := by
 unfold begT
 rw [tg_set List.length_replicate hx hy, tg_none]
theorem begT_ok (hx : 0 ≤ x ∧ x ≤ 7) (hm : okM m) : okT (begT x m) := okT_set ⟨List.length_replicate, fun y => by rw [tg_none]; exact ⟨by omega, by omega⟩⟩ hx hm
theorem iter_ind {d : Dir} {k : Nat} {P : List Int → Prop} (hs : ∀ t, P t → P (d.spread l w ld k t)) {t : List Int} (h : P t) : ∀ n, P (d.iter l w ld k n t)
 | 0 => h
 | n + 1 => hs _ (iter_ind hs h n)
structure IsE (l : List Str) (w ld fr a₀ : Int) (t : List Int) : Prop where
 can : ∀ x, 0 ≤ x → tg t x ≠ -1 → Can l w ld fr a₀ (tg t x) x
 le : ∀ m x, 0 ≤ x → Can l w ld fr a₀ m x → tg t x ≠ -1 ∧ tg t x ≤ m
structure IsL (l : List Str) (w ld to bm : Int) (t : List Int) : Prop where
 can : ∀ x, 0 ≤ x → tg t x ≠ -1 → Late l w ld to bm (tg t x) x
 ge : ∀ m x, 0 ≤ x → Late l w ld to bm m x → tg t x ≠ -1 ∧ m ≤ tg t x
theorem earT_ok (g : Good C l ld) (hfr : 0 ≤ fr ∧ fr < C) (ha : 0 ≤ a₀ ∧ a₀ ≤ 240) : okT (earT C l w ld fr a₀) :=
 (fwd_ok g).iter (begT_ok (by have := g.hC; omega) ⟨by omega, by omega⟩) _
theorem earT_is (g : Good C l ld) (hfr : 0 ≤ fr ∧ fr < C) (ha : 0 ≤ a₀ ∧ a₀ ≤ 240) : IsE l w ld fr a₀ (earT C l w ld fr a₀) := by
 have hC := g.hC
 have hok := fwd_ok g
 have hb := begT_ok (x := fr) (m := a₀) (by omega) ⟨by omega, by omega⟩
 have sound : okT (earT C l w ld fr a₀) ∧ (∀ x, 0 ≤ x → tg (earT C l w ld fr a₀) x ≠ -1 → Can l w ld fr a₀ (tg (earT C l w ld fr a₀) x) x) ∧ ∀ x, 0 ≤ x → (fwd ld).mu (tg (earT C l w ld fr a₀) x) ≤ (fwd ld).mu (tg (begT fr a₀) x) := by
  refine iter_ind (P := fun t => okT t ∧ (∀ x, 0 ≤ x → tg t x ≠ -1 → Can l w ld fr a₀ (tg t x) x) ∧ ∀ x, 0 ≤ x → (fwd ld).mu (tg t x) ≤ (fwd ld).mu (tg (begT fr a₀) x)) ?_ ⟨hb, ?_, fun x _ => Int.le_refl _⟩ _
  ·rintro t ⟨h1, h2, h3⟩
   have hs := hok.spread (w := w) (ld := ld) (k := C.toNat) h1
   refine ⟨hs.1, ?_, fun x hx => Int.le_trans (hs.2 x hx) (h3 x hx)⟩
   refine (sweep_ind (P := fun t' => okT t' ∧ ∀ x, 0 ≤ x → tg t' x ≠ -1 → Can l w ld fr a₀ (tg t' x) x) ?_ C.toNat t ⟨h1, h2⟩).2
   rintro t' i s b ⟨h4, h5⟩ hi hm hn
   have hmem := List.mem_of_getElem? hi
   refine ⟨(hok.step h1 h4 (i := i) (b := b) hmem).1, fun x hx => ?_⟩
   unfold Dir.step
   cases hbt : decide ((fwd ld).mu ((fwd ld).cross s b (tg t ((fwd ld).known s b))) < (fwd ld).mu (tg t' ((fwd ld).other s b)))
   ·exact h5 x hx
   ·simp only [cond_true]
    rw [tg_set h4.1 (hok.other s hmem b) hx]
    split
    ·rename_i e
     subst e
     intro hne
     simp only [fwd] at hne ⊢
     have hk : tg t (nearL s b) ≠ -1 := fun h => hne (by unfold arrL; rw [if_pos h])
     have hk0 := (h1.2 (nearL s b)).1
     have hk1 := (h1.2 (nearL s b)).2
     have harr : arrL s b ld (tg t (nearL s b)) = arriveL s b ld (tg t (nearL s b)) := by unfold arrL; rw [if_neg hk]
     rw [harr] at hne ⊢
     obtain ⟨k, q1, q2, q3⟩ := arr_starts (g.fit hmem) (by omega) hne
     have q4 := starts_eq q3
     have q5 := (g.fit hmem).takes b
     rw [← q2]
     exact Can.go ((h2 _ (g.near hmem b).1 hk).later q1 (by omega)) hi hm q3
    ·exact h5 x hx
  ·intro x hx hne
   rw [tg_beg (by omega) hx] at hne ⊢
   split at hne
   ·rename_i e
    subst e
    rw [if_pos rfl]
    exact Can.start
   ·exact absurd rfl hne
 obtain ⟨h1, h2, h3⟩ := sound
 refine ⟨h2, fun m x hx hc => ?_⟩
 have mu_le : ∀ v n, okM v → 0 ≤ n → n ≤ 240 → (fwd ld).mu v ≤ n → v ≠ -1 ∧ v ≤ n := by
  intro v n _ _ _ h
  simp only [fwd] at h
  split at h <;> omega
 induction hc with
 | start =>
  have := h3 fr hfr.1
  rw [tg_beg (by omega) hfr.1, if_pos rfl] at this
  refine mu_le _ _ (h1.2 fr) ha.1 ha.2 ?_
  simp only [fwd] at this ⊢
  split at this <;> split at this <;> omega
 | wait h hm ih => have := ih hx; omega
 | @go m i s b h hi hm hs ih =>
  have hmem := List.mem_of_getElem? hi
  have hn := g.near hmem b
  obtain ⟨j1, j2⟩ := ih hn.1
  have hk0 := (h1.2 (nearL s b)).1
  have hmle := (h.le ha.2 g)
  have e := hok.spread_leg (w := w) (ld := ld) (k := C.toNat) h1 hi hm hn.1 (by omega)
  rw [show (fwd ld).spread l w ld C.toNat (earT C l w ld fr a₀) = earT C l w ld fr a₀ from hok.stable hb] at e
  obtain ⟨a1, a2⟩ := arr_le (b := b) (g.fit hmem) (by omega : 0 ≤ tg (earT C l w ld fr a₀) (nearL s b)) j2 hs
  have e2 : (fwd ld).mu (tg (earT C l w ld fr a₀) (farL s b)) ≤ startsL s b ld m := by
   refine Int.le_trans e ?_
   simp only [fwd]
   unfold arrL
   rw [if_neg j1, if_neg a1]
   exact a2
  have q := starts_eq hs
  have q5 := (g.fit hmem).takes b
  exact mu_le _ _ (h1.2 _) (by omega) (by omega) e2
theorem latT_is (g : Good C l ld) (hto : 0 ≤ to ∧ to < C) (hb0 : 0 ≤ bm ∧ bm ≤ 240) : IsL l w ld to bm (latT C l w ld to bm) := by
 have hC := g.hC
 have hok := bwd_ok g
 have hb := begT_ok (x := to) (m := bm) (by omega) ⟨by omega, by omega⟩
 have sound : okT (latT C l w ld to bm) ∧ (∀ x, 0 ≤ x → tg (latT C l w ld to bm) x ≠ -1 → Late l w ld to bm (tg (latT C l w ld to bm) x) x) ∧ ∀ x, 0 ≤ x → (bwd ld).mu (tg (latT C l w ld to bm) x) ≤ (bwd ld).mu (tg (begT to bm) x) := by
  refine iter_ind (P := fun t => okT t ∧ (∀ x, 0 ≤ x → tg t x ≠ -1 → Late l w ld to bm (tg t x) x) ∧ ∀ x, 0 ≤ x → (bwd ld).mu (tg t x) ≤ (bwd ld).mu (tg (begT to bm) x)) ?_ ⟨hb, ?_, fun x _ => Int.le_refl _⟩ _
  ·rintro t ⟨h1, h2, h3⟩
   have hs := hok.spread (w := w) (ld := ld) (k := C.toNat) h1
   refine ⟨hs.1, ?_, fun x hx => Int.le_trans (hs.2 x hx) (h3 x hx)⟩
   refine (sweep_ind (P := fun t' => okT t' ∧ ∀ x, 0 ≤ x → tg t' x ≠ -1 → Late l w ld to bm (tg t' x) x) ?_ C.toNat t ⟨h1, h2⟩).2
   rintro t' i s b ⟨h4, h5⟩ hi hm hn
   have hmem := List.mem_of_getElem? hi
   refine ⟨(hok.step h1 h4 (i := i) (b := b) hmem).1, fun x hx => ?_⟩
   unfold Dir.step
   cases hbt : decide ((bwd ld).mu ((bwd ld).cross s b (tg t ((bwd ld).known s b))) < (bwd ld).mu (tg t' ((bwd ld).other s b)))
   ·exact h5 x hx
   ·simp only [cond_true]
    rw [tg_set h4.1 (hok.other s hmem b) hx]
    split
    ·rename_i e
     subst e
     intro hne
     simp only [bwd] at hne ⊢
     have hk : tg t (farL s b) ≠ -1 := fun h => hne (by unfold levL; rw [if_pos h])
     have hk1 := (h1.2 (farL s b)).2
     have harr : levL s b ld (tg t (farL s b)) = leaveL s b ld (tg t (farL s b)) := by unfold levL; rw [if_neg hk]
     rw [harr] at hne ⊢
     obtain ⟨q1, q2, q3⟩ := lev_starts (g.fit hmem) hk1 hne
     have q4 := starts_eq q2
     have q5 := (g.fit hmem).takes b
     exact Late.go ((h2 _ (g.far hmem b).1 hk).sooner q3 (by omega)) hi hm q2 q1
    ·exact h5 x hx
  ·intro x hx hne
   rw [tg_beg (by omega) hx] at hne ⊢
   split at hne
   ·rename_i e
    subst e
    rw [if_pos rfl]
    exact Late.stop
   ·exact absurd rfl hne
 obtain ⟨h1, h2, h3⟩ := sound
 refine ⟨h2, fun m x hx hc => ?_⟩
 have mu_le : ∀ v n, 0 ≤ n → (bwd ld).mu v ≤ 240 - n → v ≠ -1 ∧ n ≤ v := by
  intro v n _ h
  simp only [bwd] at h
  omega
 induction hc with
 | stop =>
  have := h3 to hto.1
  rw [tg_beg (by omega) hto.1, if_pos rfl] at this
  exact mu_le _ _ hb0.1 this
 | wait h hm ih => have := ih hx; omega
 | @go m i s b h hi hm hs h0 ih =>
  have hmem := List.mem_of_getElem? hi
  have hn := g.near hmem b
  obtain ⟨j1, j2⟩ := ih (g.far hmem b).1
  have e := hok.spread_leg (w := w) (ld := ld) (k := C.toNat) h1 hi hm hn.1 (by omega)
  rw [show (bwd ld).spread l w ld C.toNat (latT C l w ld to bm) = latT C l w ld to bm from hok.stable hb] at e
  obtain ⟨a1, a2⟩ := lev_ge (b := b) (g.fit hmem) h0 j2 hs
  refine mu_le _ _ h0 (Int.le_trans e ?_)
  simp only [bwd]
  unfold levL
  rw [if_neg j1]
  omega
end
end Go.Am
