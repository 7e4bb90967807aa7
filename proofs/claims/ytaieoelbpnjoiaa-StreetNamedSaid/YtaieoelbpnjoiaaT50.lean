import Derived.Test.YtaieoelbpnjoiaaT49
import Derived.Test.YtaieoelbpnjoiaaT48
import Derived.Test.YtaieoelbpnjoiaaT46
set_option linter.unusedSimpArgs false
set_option linter.unusedVariables false
namespace Go.Am
open Go.Proofs
variable {T : Tab} {P : Program} {N L : Nat} {H : AHeap} {Q : Bool → Value → AHeap → Prop}
def TourS (l : List Str) (w ld fr a₀ : Int) (t : List Int) (m : Int) : Prop := CanS l w ld (nxt (dnT t)) (fr, 0) a₀ m (fr, ((2 ^ t.length - 1 : Nat) : Int))
def Told (l : List Str) (w ld fr a₀ : Int) (t : List Int) (n e : Int) : Prop :=
 (e = 1 ∧ n = 0 ∧ ∀ m', ¬ TourS l w ld fr a₀ t m') ∨ (e = 0 ∧ TourS l w ld fr a₀ t n ∧ ∀ m', TourS l w ld fr a₀ t m' → n ≤ m')
section
variable {l : List Str} {C w ld fr a₀ n e n' e' m : Int} {t t' : List Int}
theorem Told.same (h : Told l w ld fr a₀ t n e) (h' : Told l w ld fr a₀ t' n' e') (hnd : t.Nodup) (hnd' : t'.Nodup) (h1 : ∀ s ∈ t', s ∈ t) (h2 : ∀ s ∈ t, s ∈ t') : n' = n ∧ e' = e := by
 have k1 : ∀ m, TourS l w ld fr a₀ t m → TourS l w ld fr a₀ t' m := fun m h => tour_less h hnd hnd' h1
 have k2 : ∀ m, TourS l w ld fr a₀ t' m → TourS l w ld fr a₀ t m := fun m h => tour_less h hnd' hnd h2
 rcases h with ⟨rfl, rfl, h3⟩ | ⟨rfl, h3, h4⟩ <;> rcases h' with ⟨rfl, rfl, h5⟩ | ⟨rfl, h5, h6⟩
 ·exact ⟨rfl, rfl⟩
 ·exact absurd (k2 _ h5) (h3 _)
 ·exact absurd (k1 _ h3) (h5 _)
 ·have := h4 _ (k2 _ h5)
  have := h6 _ (k1 _ h3)
  exact ⟨by omega, rfl⟩
theorem Told.ge (h : Told l w ld fr a₀ t n 0) (ha : a₀ ≤ 240) (g : Good C l ld) : a₀ ≤ n := by
 rcases h with ⟨h, _⟩ | ⟨_, h, _⟩
 ·cases h
 ·exact (h.le ha g).1
theorem Told.none (h : Told l w ld fr a₀ [] n e) (ha : a₀ ≤ 240) (g : Good C l ld) : n = a₀ ∧ e = 0 := by
 rcases h with ⟨_, _, h⟩ | ⟨rfl, h1, h2⟩
 ·exact absurd .start (h a₀)
 ·have := h2 a₀ .start
  have := (CanS.le h1 ha g).1
  exact ⟨by omega, rfl⟩
theorem Told.less (h : Told l w ld fr a₀ t n e) (h' : Told l w ld fr a₀ t' n' e') (hnd : t.Nodup) (hnd' : t'.Nodup) (h1 : ∀ s ∈ t', s ∈ t) : e = 0 → e' = 0 ∧ n' ≤ n := by
 intro he
 rcases h with ⟨rfl, _⟩ | ⟨_, h3, _⟩
 ·cases he
 ·have k := tour_less h3 hnd hnd' h1
  rcases h' with ⟨rfl, rfl, h5⟩ | ⟨rfl, h5, h6⟩
  ·exact absurd k (h5 _)
  ·exact ⟨rfl, h6 _ k⟩
end
theorem known_off {b o n m : Nat} {c : List Value} {ty : TypeId} {op : Bool} {al : List Nat} (hg : H.get b = .rw c ty op al) (hc : c.length = m + o) (hn : n ≤ m) : known H ⟨b, o, none⟩ n 1 (OPEN + 1) = m := by
 unfold known
 have h1 : Nat.beq (OPEN + 1) (OPEN + 1) = true := Nat.beq_refl _
 simp only [hg,h1,cond_true,hc,Nat.add_sub_cancel,Nat.div_one]
 cases h : Nat.blt n m
 ·simp only [cond_false]
  have h2 : ¬ n < m := fun hlt => by
   have : Nat.blt n m = true := Nat.ble_eq_true_of_le hlt
   rw [this] at h; cases h
  omega
 ·rfl
def Cu (H : AHeap) (v : Value) (ts : List Int) (k : Nat) : Prop := (v = .slice none 0 0 ∧ ts = []) ∨ ∃ b r al, v = .slice (some ⟨b, 0, none⟩) ts.length (OPEN + 1) ∧ k < b ∧ b < H.size ∧ H.get b = .rw (tv (ts ++ r)) 3 true al
section
variable {k : Nat} {v : Value} {ts : List Int} {H' : AHeap}
theorem Cu.frx (h : Cu H v ts k) (f : FrX k H H') : Cu H' v ts k := by
 rcases h with h | ⟨b, r, al, h1, h2, h3, h4⟩
 ·exact .inl h
 ·exact .inr ⟨b, r, al, h1, h2, Nat.lt_of_lt_of_le h3 f.size, by rw [f.same _ h3 (by omega)]; exact h4⟩
theorem Cu.fr (h : Cu H v ts k) (f : Fr H H') : Cu H' v ts k := h.frx (FrX.of f)
theorem tvAt {t : List Int} {i : Nat} {x : Int} (h : t[i]? = some x) : (tv t)[i]? = some (.int .i64 x) := by
 unfold tv
 rw [List.getElem?_map, h]; rfl
theorem Cu.op (h : Cu H v ts k) : ∃ a cap, v = .slice a ts.length cap ∧ Op H a cap ts := by
 rcases h with ⟨rfl, rfl⟩ | ⟨b, r, al, rfl, h2, h3, h4⟩
 ·exact ⟨none, 0, rfl, Op.none⟩
 ·refine ⟨some ⟨b, 0, none⟩, OPEN + 1, rfl, ⟨fun hne => ⟨b, 0, tv (ts ++ r), rfl, h3, by rw [h4]; rfl, fun i n hi => ?_⟩⟩, fun hne => .inl ⟨b, 0, (ts ++ r).length, rfl, rfl, ?_, by simp⟩⟩
  ·rw [Nat.zero_add]
   exact tvAt (by rw [List.getElem?_append_left (List.getElem?_eq_some_iff.1 hi).1]; exact hi)
  ·exact known_off (m := (ts ++ r).length) h4 (by rw [tv_len]; rfl) (by simp)
theorem Cu.tail {s : Int} (h : Cu H v (s :: ts) k) : ∃ b al r, v = .slice (some ⟨b, 0, none⟩) (ts.length + 1) (OPEN + 1) ∧ b < H.size ∧ H.get b = .rw (tv (s :: ts ++ r)) 3 true al := by
 rcases h with ⟨_, h⟩ | ⟨b, r, al, h1, h2, h3, h4⟩
 ·cases h
 ·exact ⟨b, al, r, h1, h3, h4⟩
theorem idx_nodup {n : Nat} : (idx n).Nodup := by
 unfold idx
 exact List.Pairwise.map _ (fun a b h e => h (by omega)) List.nodup_range
theorem idx_mem {n : Nat} {x : Int} (h : x ∈ idx n) : 0 ≤ x ∧ x < n := by
 unfold idx at h
 obtain ⟨i, hi, rfl⟩ := List.mem_map.1 h
 have := List.mem_range.1 hi
 omega
end
theorem Cu.of {v : Value} {t : List Int} {base top k : Nat} (R : RowN H v t base top) (ht : top ≤ H.size) (hk : k < base) : Cu H v t k := by
 by_cases hne : t = []
 ·exact .inl ⟨R.nil hne, hne⟩
 ·obtain ⟨b, al, h1, h2, h3, h4, h5⟩ := R.cons hne
  exact .inr ⟨b, [], al, h1, by omega, by omega, by rw [List.append_nil]; exact h5⟩
theorem RowN.len {v : Value} {t : List Int} {base top : Nat} (R : RowN H v t base top) : ∃ a c, v = .slice a t.length c := by
 by_cases hne : t = []
 ·exact ⟨none, 0, by rw [R.nil hne, hne]; rfl⟩
 ·obtain ⟨b, al, h1, h2⟩ := R.cons hne
  exact ⟨_, _, h1⟩
theorem aSlice_nilF {ty : TypeId} {t : Operand → Option Value} {x : Operand} {hi : Option Operand} {z : Nat} (hz : esS T ty = some z) (hx : t x = some (.slice none 0 0)) (hh : abound t hi = some (some 0)) : aSlice T t H ty x none hi none = some (.slice none 0 0, H, H.size) := by
 obtain ⟨e, i, hu, hi', rfl⟩ := esS_split hz
 have h0 : Nat.blt 0 OPEN = true := by unfold OPEN; rfl
 have hab : abounds 0 0 none (some 0) none = some (0, 0, 0) := rfl
 unfold aSlice
 simp only [hx,hu,hh,show abound t none = some none from rfl,hi',h0,cond_true,hab,Nat.sub_self]
end Go.Am
namespace Go.Am
open Go.Proofs
def renS (co : List Int) (s : Str) : Str := { s with fr := tg co s.fr, to := tg co s.to }
structure Ren (C : Int) (l l' : List Str) (co pl : List Int) : Prop where
 cp : co.Perm (idx C.toNat)
 pp : pl.Perm (idx l.length)
 len : l'.length = l.length
 at_ : ∀ (i : Nat) (s : Str), l[i]? = some s → l'[(tg pl (i : Int)).toNat]? = some (renS co s)
section
variable {co pl : List Int} {n : Nat} {x y : Int}
theorem idx_len {n : Nat} : (idx n).length = n := by unfold idx; simp
theorem tg_at (h : co.Perm (idx n)) (hx : 0 ≤ x ∧ x < n) : ∃ h' : x.toNat < co.length, tg co x = co[x.toNat] := by
 have hl : co.length = n := by rw [h.length_eq, idx_len]
 refine ⟨by omega, ?_⟩
 unfold tg
 rw [List.getD_eq_getElem?_getD, List.getElem?_eq_getElem (by omega)]
 rfl
theorem tg_range (h : co.Perm (idx n)) (hx : 0 ≤ x ∧ x < n) : 0 ≤ tg co x ∧ tg co x < n := by
 obtain ⟨h', e⟩ := tg_at h hx
 rw [e]
 exact idx_mem (h.mem_iff.1 (List.getElem_mem h'))
theorem tg_inj (h : co.Perm (idx n)) (hx : 0 ≤ x ∧ x < n) (hy : 0 ≤ y ∧ y < n) (e : tg co x = tg co y) : x = y := by
 obtain ⟨h1, e1⟩ := tg_at h hx
 obtain ⟨h2, e2⟩ := tg_at h hy
 rw [e1, e2] at e
 have hnd : co.Nodup := h.nodup_iff.2 idx_nodup
 have hp := List.pairwise_iff_getElem.1 hnd
 rcases Nat.lt_trichotomy x.toNat y.toNat with h3 | h3 | h3
 ·exact absurd e (hp _ _ h1 h2 h3)
 ·omega
 ·exact absurd e.symm (hp _ _ h2 h1 h3)
theorem tg_sur (h : co.Perm (idx n)) (hy : 0 ≤ y ∧ y < n) : ∃ i : Nat, i < n ∧ tg co (i : Int) = y := by
 have hm : y ∈ co := h.mem_iff.2 (List.mem_map.2 ⟨y.toNat, List.mem_range.2 (by omega), by omega⟩)
 obtain ⟨i, hi, e⟩ := List.mem_iff_getElem.1 hm
 have hl : co.length = n := by rw [h.length_eq, idx_len]
 obtain ⟨h1, e1⟩ := tg_at (x := (i : Int)) h (by omega)
 refine ⟨i, by omega, ?_⟩
 rw [e1]
 simp only [Int.toNat_natCast]
 exact e
theorem near_ren {s : Str} {b : Bool} : nearL (renS co s) b = tg co (nearL s b) := by cases b <;> rfl
theorem far_ren {s : Str} {b : Bool} : farL (renS co s) b = tg co (farL s b) := by cases b <;> rfl
theorem lift_ren {s : Str} {k : Int} : lift k (renS co s) = renS co (lift k s) := by
 unfold lift renS
 repeat' split
 all_goals rfl
theorem plc_map {t : List Int} {f : Int → Int} {x : Int} (h : ∀ y ∈ t, f x = f y → x = y) : plc (t.map f) (f x) = plc t x := by
 unfold plc
 induction t with
 | nil => rfl
 | cons z t ih =>
  rw [List.map_cons, List.findIdx?_cons, List.findIdx?_cons, ih (fun y hy => h y (List.mem_cons_of_mem _ hy))]
  have hd : decide (f x = f z) = decide (x = z) := by
   by_cases e : x = z
   ·rw [e]; simp
   ·rw [decide_eq_false e, decide_eq_false (fun e' => e (h z (by simp) e'))]
  rw [hd]
theorem bitN_map {t : List Int} {f : Int → Int} {x : Int} (h : ∀ y ∈ t, f x = f y → x = y) : bitN (t.map f) (f x) = bitN t x := by
 unfold bitN
 rw [plc_map h]
end
section
variable {C w ld fr a₀ m n e n' e' : Int} {l l' : List Str} {co pl t : List Int}
theorem Ren.back (R : Ren C l l' co pl) {j : Nat} {s' : Str} (h : l'[j]? = some s') : ∃ (i : Nat) (s : Str), l[i]? = some s ∧ s' = renS co s ∧ tg pl (i : Int) = (j : Int) := by
 have hj := (List.getElem?_eq_some_iff.1 h).1
 rw [R.len] at hj
 obtain ⟨i, hi, e⟩ := tg_sur R.pp (y := (j : Int)) (by omega)
 obtain ⟨s, hs⟩ : ∃ s, l[i]? = some s := ⟨l[i], by simp [hi]⟩
 have := R.at_ i s hs
 rw [e, Int.toNat_natCast, h] at this
 exact ⟨i, s, hs, Option.some.inj this, e⟩
theorem Ren.lifted (R : Ren C l l' co pl) (k : Int) : Ren C (l.map (lift k)) (l'.map (lift k)) co pl where
 cp := R.cp
 pp := by rw [List.length_map]; exact R.pp
 len := by rw [List.length_map, List.length_map]; exact R.len
 at_ i s h := by
  rw [List.getElem?_map] at h
  cases hi : l[i]? with
  | none => rw [hi] at h; cases h
  | some r =>
   rw [hi] at h
   cases h
   rw [List.getElem?_map, R.at_ i r hi]
   exact congrArg some lift_ren
theorem Good.nearR (g : Good C l ld) {i : Nat} {s : Str} (h : l[i]? = some s) (b : Bool) : (0 ≤ nearL s b ∧ nearL s b < (C.toNat : Int)) ∧ 0 ≤ farL s b ∧ farL s b < (C.toNat : Int) := by
 have h1 := g.st s (List.mem_of_getElem? h)
 have hC := g.hC
 unfold nearL farL
 cases b <;> simp only [cond_true,cond_false] <;> omega
theorem Ren.can (R : Ren C l l' co pl) {x : Int} (h : Can l w ld fr a₀ m x) : Can l' w ld (tg co fr) a₀ m (tg co x) := by
 induction h with
 | start => exact .start
 | wait _ hm ih => exact ih.wait hm
 | @go m i s b _ hi hm hs ih =>
  have h1 := R.at_ i s hi
  rw [← near_ren] at ih
  rw [← far_ren]
  exact Can.go (s := renS co s) (b := b) ih h1 hm hs
theorem Ren.nac (R : Ren C l l' co pl) (g : Good C l ld) (hfr : 0 ≤ fr ∧ fr < C) {y : Int} (h : Can l' w ld (tg co fr) a₀ m y) : ∃ x, y = tg co x ∧ (0 ≤ x ∧ x < (C.toNat : Int)) ∧ Can l w ld fr a₀ m x := by
 induction h with
 | start => exact ⟨fr, rfl, by omega, .start⟩
 | wait _ hm ih =>
  obtain ⟨x, h1, h2, h3⟩ := ih
  exact ⟨x, h1, h2, h3.wait hm⟩
 | @go m j s' b _ hj hm hs ih =>
  obtain ⟨x, h1, h2, h3⟩ := ih
  obtain ⟨i, s, hi, rfl, -⟩ := R.back hj
  rw [near_ren] at h1
  have hn := g.nearR hi b
  have := tg_inj R.cp hn.1 h2 h1
  rw [← this] at h3
  exact ⟨farL s b, far_ren, hn.2, h3.go hi hm hs⟩
theorem Ren.good (R : Ren C l l' co pl) (g : Good C l ld) : Good C l' ld where
 hC := g.hC
 st s' hs' := by
  obtain ⟨j, hj⟩ := List.getElem?_of_mem hs'
  obtain ⟨i, s, hi, rfl, -⟩ := R.back hj
  have h := g.st s (List.mem_of_getElem? hi)
  have h1 := tg_range R.cp (x := s.fr) (by omega)
  have h2 := tg_range R.cp (x := s.to) (by omega)
  have hC := g.hC
  have hf := h.2.2
  refine ⟨?_, ?_, ?_⟩
  ·show 0 ≤ tg co s.fr ∧ tg co s.fr < C; omega
  ·show 0 ≤ tg co s.to ∧ tg co s.to < C; omega
  ·exact ⟨hf.mi, hf.ul, hf.lo, hf.hi⟩
theorem Ren.ear (R : Ren C l l' co pl) (g : Good C l ld) (hfr : 0 ≤ fr ∧ fr < C) (ha : 0 ≤ a₀ ∧ a₀ ≤ 240) {x : Int} (hx : 0 ≤ x ∧ x < C) : tg (earT C l' w ld (tg co fr) a₀) (tg co x) = tg (earT C l w ld fr a₀) x := by
 have hC := g.hC
 have hf' := tg_range R.cp (x := fr) (by omega)
 have hx' := tg_range R.cp (x := x) (by omega)
 have E := earT_is (w := w) g hfr ha
 have E' := earT_is (w := w) (R.good g) (fr := tg co fr) (by omega) ha
 by_cases h : tg (earT C l w ld fr a₀) x = -1
 ·rw [h]
  apply Classical.byContradiction
  intro h1
  obtain ⟨z, h2, h3, h4⟩ := R.nac g hfr (E'.can _ hx'.1 h1)
  have := tg_inj R.cp (x := x) (by omega) h3 h2
  subst this
  exact (E.le _ _ hx.1 h4).1 h
 ·have h1 := E'.le _ _ hx'.1 (R.can (E.can _ hx.1 h))
  obtain ⟨z, h2, h3, h4⟩ := R.nac g hfr (E'.can _ hx'.1 h1.1)
  have := tg_inj R.cp (x := x) (by omega) h3 h2
  subst this
  have := E.le _ _ hx.1 h4
  omega
theorem Ren.dn (R : Ren C l l' co pl) (ht : ∀ s ∈ t, 0 ≤ s ∧ s < l.length) {i : Nat} (hi : i < l.length) {d : Int} : dnT (t.map (tg pl)) d (tg pl (i : Int)).toNat = dnT t d i := by
 have h1 := tg_range R.pp (x := (i : Int)) (by omega)
 unfold dnT
 rw [Int.toNat_of_nonneg h1.1, bitN_map fun y hy e => tg_inj R.pp (by omega) (ht y hy) e]
theorem Ren.canS (R : Ren C l l' co pl) (ht : ∀ s ∈ t, 0 ≤ s ∧ s < l.length) {x : Stt} (h : CanS l w ld (nxt (dnT t)) (fr, 0) a₀ m x) : CanS l' w ld (nxt (dnT (t.map (tg pl)))) (tg co fr, 0) a₀ m (tg co x.1, x.2) := by
 induction h with
 | start => exact .start
 | wait _ hm ih => exact ih.wait hm
 | @go m x i s b _ hx hi hm hs ih =>
  have h1 := R.at_ i s hi
  have h2 := ih.go (s := renS co s) (b := b) (by rw [near_ren, hx]) h1 hm hs
  have e : nxt (dnT (t.map (tg pl))) (tg co x.1, x.2) (tg pl (i : Int)).toNat (renS co s) b = (tg co (nxt (dnT t) x i s b).1, (nxt (dnT t) x i s b).2) := by
   unfold nxt
   rw [far_ren, R.dn ht (List.getElem?_eq_some_iff.1 hi).1]
  rw [e] at h2
  exact h2
theorem Ren.nacS (R : Ren C l l' co pl) (g : Good C l ld) (hfr : 0 ≤ fr ∧ fr < C) (ht : ∀ s ∈ t, 0 ≤ s ∧ s < l.length) {y : Stt} (h : CanS l' w ld (nxt (dnT (t.map (tg pl)))) (tg co fr, 0) a₀ m y) : ∃ x, y.1 = tg co x ∧ (0 ≤ x ∧ x < (C.toNat : Int)) ∧ CanS l w ld (nxt (dnT t)) (fr, 0) a₀ m (x, y.2) := by
 induction h with
 | start => exact ⟨fr, rfl, by omega, .start⟩
 | wait _ hm ih =>
  obtain ⟨x, h1, h2, h3⟩ := ih
  exact ⟨x, h1, h2, h3.wait hm⟩
 | @go m y j s' b _ hy hj hm hs ih =>
  obtain ⟨x, h1, h2, h3⟩ := ih
  obtain ⟨i, s, hi, rfl, hij⟩ := R.back hj
  rw [near_ren, h1] at hy
  have hn := g.nearR hi b
  have hxe := tg_inj R.cp hn.1 h2 hy
  have h4 := h3.go (b := b) hxe hi hm hs
  have e : nxt (dnT t) (x, y.2) i s b = (farL s b, (nxt (dnT (t.map (tg pl))) y j (renS co s) b).2) := by
   unfold nxt
   have := R.dn ht (i := i) (List.getElem?_eq_some_iff.1 hi).1 (d := y.2)
   rw [hij, Int.toNat_natCast] at this
   rw [this]
  rw [e] at h4
  exact ⟨farL s b, far_ren, hn.2, h4⟩
theorem Ren.told (R : Ren C l l' co pl) (g : Good C l ld) (hfr : 0 ≤ fr ∧ fr < C) (ht : ∀ s ∈ t, 0 ≤ s ∧ s < l.length) (h : Told l w ld fr a₀ t n e) (h' : Told l' w ld (tg co fr) a₀ (t.map (tg pl)) n' e') : n' = n ∧ e' = e := by
 have k1 : ∀ m, TourS l w ld fr a₀ t m → TourS l' w ld (tg co fr) a₀ (t.map (tg pl)) m := fun m h => by
  have := R.canS ht h
  unfold TourS
  rw [List.length_map]
  exact this
 have k2 : ∀ m, TourS l' w ld (tg co fr) a₀ (t.map (tg pl)) m → TourS l w ld fr a₀ t m := fun m h => by
  unfold TourS at h
  rw [List.length_map] at h
  obtain ⟨x, h1, h2, h3⟩ := R.nacS g hfr ht h
  have := tg_inj R.cp (x := fr) (by omega) h2 h1
  subst this
  exact h3
 rcases h with ⟨rfl, rfl, h3⟩ | ⟨rfl, h3, h4⟩ <;> rcases h' with ⟨rfl, rfl, h5⟩ | ⟨rfl, h5, h6⟩
 ·exact ⟨rfl, rfl⟩
 ·exact absurd (k2 _ h5) (h3 _)
 ·exact absurd (k1 _ h3) (h5 _)
 ·have := h4 _ (k2 _ h5)
  have := h6 _ (k1 _ h3)
  exact ⟨by omega, rfl⟩
end
end Go.Am
