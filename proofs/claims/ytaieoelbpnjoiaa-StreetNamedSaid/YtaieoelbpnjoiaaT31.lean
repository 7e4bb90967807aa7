import Derived.Test.YtaieoelbpnjoiaaT30
set_option linter.unusedSimpArgs false
set_option linter.unusedVariables false
namespace Go.Am
open Go.Proofs
variable {T : Tab} {P : Program} {N L : Nat} {H : AHeap} {Q : Bool → Value → AHeap → Prop}
theorem Il.of {k : Nat} {l : List Int} (hk : k < H.size) (h : cellsOf (H.get k) = some (tv l)) : Il H (some ⟨k, 0, none⟩) l := ⟨fun _ => ⟨k, 0, tv l, rfl, hk, h, fun i n hi => by
 unfold tv
 rw [Nat.zero_add, List.getElem?_map, hi]; rfl⟩⟩
theorem Il.two {k : Nat} {n m : Int} (hk : k < H.size) (h : cellsOf (H.get k) = some [.int .i64 n, .int .i64 m]) : Il H (some ⟨k, 0, none⟩) [n, m] := Il.of hk h
theorem Il.pre {k n : Nat} {l : List Int} (hk : k < H.size) (h : cellsOf (H.get k) = some (tv l)) : Il H (some ⟨k, 0, none⟩) (l.take n) := ⟨fun _ => ⟨k, 0, tv l, rfl, hk, h, fun i m hi => by
 unfold tv
 rw [List.getElem?_take] at hi
 split at hi
 ·rw [Nat.zero_add, List.getElem?_map, hi]; rfl
 ·cases hi⟩⟩
theorem Il.src {b o : Nat} {s : Option Nat} {l : List Int} (h : Il H (some ⟨b, o, s⟩) l) (hl : l ≠ []) : srcCells H ⟨b, o, s⟩ (l.length * 1) = some (tv l) := by
 obtain ⟨b', o', c', h1, h2, h3, h4⟩ := h.get hl
 cases h1
 have e : (c'.drop o).take l.length = tv l := by
  apply List.ext_getElem?
  intro i
  rw [List.getElem?_take]
  by_cases hi : i < l.length
  ·rw [if_pos hi, List.getElem?_drop, h4 i l[i] (by simp [hi])]
   unfold tv
   rw [List.getElem?_map, List.getElem?_eq_getElem hi]; rfl
  ·rw [if_neg hi, List.getElem?_eq_none (by rw [tv_len]; omega)]
 unfold srcCells
 rw [h3]
 simp only [Nat.mul_one,e,tv_len,show Nat.beq l.length l.length = true by simp,cond_true]
theorem c89 {b o cap : Nat} {l : List Int} (hs : Il H (some ⟨b, o, none⟩) l) (hb : b < H.size) (hne : l ≠ []) (hl : l.length ≤ 1000) (hL : L ≤ H.size) {M : Nat} (hM : 60 ≤ M)
  (hq : ∀ k cap' H', Fr H H' → H.size ≤ k → k < H'.size → H'.get k = .rw (tv l) 3 true [] → Q false (.slice (some ⟨k, 0, none⟩) l.length cap') H') : resK (acall tabA (aexec tabA Try.prog M) 89 [.slice (some ⟨b, o, none⟩) l.length cap] H) L Q := by
 obtain ⟨N, rfl⟩ : ∃ N, M = N + 60 := ⟨M - 60, by omega⟩
 refine call_fls (R := fun v H' => ∃ k cap', v = .slice (some ⟨k, 0, none⟩) l.length cap' ∧ Fr H H' ∧ H.size ≤ k ∧ k < H'.size ∧ H'.get k = .rw (tv l) 3 true []) (k := 8) (rs := [.tmp 2]) rfl fn_89 rfl rfl rfl hL ?_ ?_ ?_
 ·simp (disch:=first|(simp only [yk,seval];done)|omega|(simp only [yz]<;>omega)|fail) only [↓yp,yq0,yq1,yq2,yq3,yq4,yl,ys0,ys1,seval,zed,zee,zfr,zhw,ysu,yrg,binV_nil_some zir,A_buildSlice st_brS_52_0]
  have hpos : 0 < l.length := List.length_pos_iff.2 hne
  rw [apK_empty (H := _) (n := l.length) st_apS_52 ((hs.fr (Fr.alloc _ _)).src hne) hpos (by omega) (by omega) (one_tv l) (c₀ := []) (by simp (disch:=first|(simp only [yk,seval];done)|omega|(simp only [yz]<;>omega)|fail) only [yg,seval])]
  simp (disch:=first|(simp only [yk,seval];done)|omega|(simp only [yz]<;>omega)|fail) only [↓yp,yq0,yq1,yq2,yq3,yq4,yl,ys0,ys1,seval,zed,zee,zfr,zhw,ysu,yrg]
  exact ⟨_, _, rfl, by (repeat (first | exact Fr.refl _ | assumption | refine Fr.allocd ?_ _ | refine Fr.put ?_ (by first | omega | (simp only [yz] <;> omega)) _)), by (first | omega | (simp only [yz] <;> omega)), by (first | omega | (simp only [yz] <;> omega)), by simp (disch:=first|(simp only [yk,seval];done)|omega|(simp only [yz]<;>omega)|fail) only [yg,seval]⟩
 ·rintro v H' ⟨k, cap', rfl, -⟩; rfl
 ·rintro v H' ⟨k, cap', rfl, h1, h2, h3, h4⟩
  exact hq _ _ _ h1 h2 h3 h4
theorem c83q {a : Option Addr} {n cap : Nat} {C w ld : Int} (hc : a = none → n = 0) (hL : L ≤ H.size) {M : Nat} (hM : 30 ≤ M) (hq : ∀ b H', Fr H H' → Q b (jobV C a n cap w ld) H') :
  resK (acall tabA (aexec tabA Try.prog M) 83 [.agg ⟨[.int .i64 C, .slice a n cap]⟩, .agg ⟨[.int .i64 w, .int .i64 ld]⟩] H) L Q := by
 obtain ⟨N, rfl⟩ : ∃ N, M = N + 30 := ⟨M - 30, by omega⟩
 refine call_keep tabA_fr (R := fun v H' => v = jobV C a n cap w ld ∧ Fr H H') (k := 8) (rs := [.cell 4 124]) rfl fn_83 rfl rfl rfl hL ?_ ?_ ?_
 ·simp (disch:=first|(simp only [yk,seval];done)|omega|(simp only [yz]<;>omega)|fail) only [↓yp,yq0,yq1,yq2,yq3,yq4,yl,ys0,ys1,seval,zed,zee,zfr,zhw,ysu,yrg,A_build zik]
  exact ⟨rfl, by (repeat (first | exact Fr.refl _ | assumption | refine Fr.allocd ?_ _ | refine Fr.put ?_ (by first | omega | (simp only [yz] <;> omega)) _))⟩
 ·rintro v H' ⟨rfl, h⟩
  exact hq _ _ h
 ·rintro v H' ⟨rfl, h⟩ _ _
  exact hq _ _ (Fr.refl _)
section
variable {l : List Str} {C w ld : Int} {a : Option Addr} {cap : Nat}
theorem good_of (h : chk C l = 0) (hd : off ld 0 9 = false) : Good C l ld where
 hC := by have := off_iff.1 (chk_ok h).1; omega
 st s hs := by
  have h1 := (chk_ok h).2.2.1 s hs
  unfold bad1 at h1
  simp only [Bool.or_eq_false_iff] at h1
  have h2 := off_iff.1 h1.1
  have h3 := off_iff.1 h1.2.1
  exact ⟨by omega, by omega, fit_of h hs hd⟩
theorem c82e {k₁ k₂ : Nat} {x m : Int} (hs : Sl H a l) (hl : l.length ≤ 18) (h₁ : cellsOf (H.get k₁) = some [.int .i64 x]) (h₂ : cellsOf (H.get k₂) = some [.int .i64 m]) :
  acall tabA (aexec tabA Try.prog (N + 400)) 82 [.agg ⟨[.int .i64 C, .slice a l.length cap]⟩, .agg ⟨[.int .i64 w, .int .i64 ld]⟩, .slice (some ⟨k₁, 0, none⟩) 1 1, .slice none 0 0, .slice (some ⟨k₂, 0, none⟩) 1 1] H = some (true, .int .i64 (asked C l w ld [x] [] [m]), H, H.size) :=
 c82 (cs := [x]) (ss := []) (ms := [m]) (as' := none) (ks := 0) hs hl (Il.one (lt_of_cells h₁) h₁) (by simp) Il.nil (by simp) (Il.one (lt_of_cells h₂) h₂) (by simp)
theorem Sl.none_len (hs : Sl H a l) (h : a = none) : l.length = 0 := by
 subst h
 refine List.length_eq_zero_iff.2 (Classical.byContradiction fun hne => ?_)
 obtain ⟨_, _, _, h, _⟩ := hs.get hne
 cases h
set_option maxHeartbeats 1000000 in
theorem c32k {fr m : Int} (hs : Sl H a l) (hl : l.length ≤ 18) (h0 : asked C l w ld [fr] [] [m] = 0) (hL : L ≤ H.size) {M : Nat} (hM : 5000 ≤ M)
  (hq : ∀ k cap' H', Fr H H' → H.size ≤ k → k < H'.size → H'.get k = .rw (tv ((earT C l w ld fr m).take C.toNat)) 3 true [] → Q false (.tuple ⟨[.slice (some ⟨k, 0, none⟩) C.toNat cap', .int .i64 0]⟩) H') :
  resK (acall tabA (aexec tabA Try.prog M) 32 [.agg ⟨[.int .i64 C, .slice a l.length cap]⟩, .agg ⟨[.int .i64 w, .int .i64 ld]⟩, .int .i64 fr, .int .i64 m] H) L Q := by
 obtain ⟨N, rfl⟩ : ∃ N, M = N + 5000 := ⟨M - 5000, by omega⟩
 refine call_fls (R := fun v H' => ∃ k cap', v = .tuple ⟨[.slice (some ⟨k, 0, none⟩) C.toNat cap', .int .i64 0]⟩ ∧ Fr H H' ∧ H.size ≤ k ∧ k < H'.size ∧ H'.get k = .rw (tv ((earT C l w ld fr m).take C.toNat)) 3 true []) (k := 32) (rs := [.tmp 8, .tmp 9]) rfl fn_32 rfl rfl rfl hL ?_ ?_ ?_
 rotate_left
 ·rintro v H' ⟨k, cap', rfl, -⟩; rfl
 ·rintro v H' ⟨k, cap', rfl, h1, h2, h3, h4⟩
  exact hq _ _ _ h1 h2 h3 h4
 obtain ⟨hc, hw, hd, hcs, -, hms⟩ := asked_ok h0
 have g := good_of hc hd
 have hC := g.hC
 have hfr := hcs fr (by simp)
 have hm := hms m (by simp)
 have t8 := earT_len (w := w) g (fr := fr) (a₀ := m) (by omega) hm
 have ptv := part_tv t8
 have h0' : decide (asked C l w ld [fr] [] [m] = 0) = true := by simpa using h0
 simp (disch:=first|(simp only [yk,seval];done)|omega|(simp only [yz]<;>omega)|fail) only [↓yp,yq0,yq1,yq2,yq3,yq4,yl,ys0,ys1,seval,zed,zee,zfr,zhw,ysu,yrg,A_buildSlice st_brS_52_1]
 rw [c82e (x := fr) (m := m) (hs.fr (by repeat first|exact Fr.refl _|assumption|refine Fr.allocd ?_ _|refine Fr.put ?_ (by first|omega|(simp only [yz]<;>omega)) _)) hl (by simp (disch:=first|(simp only [yk,seval];done)|omega|(simp only [yz]<;>omega)|fail) only [yg,seval]) (by simp (disch:=first|(simp only [yk,seval];done)|omega|(simp only [yz]<;>omega)|fail) only [yg,seval])]
 simp (disch:=first|(simp only [yk,seval];done)|omega|(simp only [yz]<;>omega)|fail) only [↓yp,yq0,yq1,yq2,yq3,yq4,yl,ys0,ys1,seval,zed,zee,zfr,zhw,ysu,yrg,h0']
 refine c83q (hs.fr (by repeat first|exact Fr.refl _|assumption|refine Fr.allocd ?_ _|refine Fr.put ?_ (by first|omega|(simp only [yz]<;>omega)) _)).none_len (by first|omega|(simp only [yz]<;>omega)) (by omega) ?_
 intro b3 H3 fr3
 have f3 := fr3.size
 have s3 := fr3.same
 simp only [zde] at f3
 have h88 := fun (H' : AHeap) (f : Fr H H') (N : Nat) => c88 (N := N) (C := C) (w := w) (cap := cap) (fr := fr) (a₀ := m) g (hs.fr f) hl (by omega) hm
 simp only [jobG] at h88
 simp (disch:=first|(simp only [yk,seval];done)|omega|(simp only [yz]<;>omega)|fail) only [↓yp,yq0,yq1,yq2,yq3,yq4,yl,ys0,ys1,seval,zed,zee,zfr,zhw,ysu,yrg,jobV]
 rw [h88 _ (Fr.trans (by repeat first|exact Fr.refl _|assumption|refine Fr.allocd ?_ _|refine Fr.put ?_ (by first|omega|(simp only [yz]<;>omega)) _) fr3)]
 simp (disch:=first|(simp only [yk,seval];done)|omega|(simp only [yz]<;>omega)|fail) only [↓yp,yq0,yq1,yq2,yq3,yq4,yl,ys0,ys1,seval,zed,zee,zfr,zhw,ysu,yrg,tv_len,t8,one_tv,s3]
 refine A_cut_of (b := H3.size) (o := 0) (s := none) (i := C) st_arS_130 (by simp (disch:=first|(simp only [yk,seval];done)|omega|(simp only [yz]<;>omega)|fail) only [↓yp,yq0,yq1,yq2,yq3,yq4,yl,ys0,ys1,seval,zed,zee,zfr,zhw,ysu,yrg]) (by simp (disch:=first|(simp only [yk,seval];done)|omega|(simp only [yz]<;>omega)|fail) only [↓yp,yq0,yq1,yq2,yq3,yq4,yl,ys0,ys1,seval,zed,zee,zfr,zhw,ysu,yrg]) ⟨by omega, by omega⟩ (by unfold OPEN; omega) (by omega) (by first|omega|(simp only [yz]<;>omega)) ?_
 simp (disch:=first|(simp only [yk,seval];done)|omega|(simp only [yz]<;>omega)|fail) only [↓yp,yq0,yq1,yq2,yq3,yq4,yl,ys0,ys1,seval,zed,zee,zfr,zhw,ysu,yrg]
 have hlen : ((earT C l w ld fr m).take C.toNat).length = C.toNat := by rw [List.length_take, t8]; omega
 rw [← hlen]
 refine c89 (Il.pre (by first|omega|(simp only [yz]<;>omega)) (by simp (disch:=first|(simp only [yk,seval];done)|omega|(simp only [yz]<;>omega)|fail) only [yg,seval])) (by first|omega|(simp only [yz]<;>omega)) (fun h => by rw [h] at hlen; simp at hlen; omega) (by omega) (by first|omega|(simp only [yz]<;>omega)) (by omega) ?_
 intro k cap' H' fr' hk1 hk2 hk3
 have f' := fr'.size
 simp only [zde,zdf] at f' hk1
 rw [hlen]
 simp (disch:=first|(simp only [yk,seval];done)|omega|(simp only [yz]<;>omega)|fail) only [↓yp,yq0,yq1,yq2,yq3,yq4,yl,ys0,ys1,seval,zed,zee,zfr,zhw,ysu,yrg]
 refine ⟨k, cap', rfl, ?_, ?_, hk2, hk3⟩
 ·exact Fr.trans (Fr.put (Fr.allocd (Fr.trans (by repeat first|exact Fr.refl _|assumption|refine Fr.allocd ?_ _|refine Fr.put ?_ (by first|omega|(simp only [yz]<;>omega)) _) fr3) _) (by first|omega|(simp only [yz]<;>omega)) _) fr'
 ·omega
end
end Go.Am
namespace Go.Am
open Go.Proofs
def bv (t : List Bool) : List Value := t.map fun b => .bool b
def ix (C k y : Int) : Nat := (k * C + y).toNat
def Tm (C : Int) (th : List Bool) (k y : Int) : Prop := th.getD (ix C k y) false = true
section
variable {C k y k' y' : Int}
theorem ix_lt (hC : 1 ≤ C ∧ C ≤ 8) (hk : 0 ≤ k ∧ k ≤ 240) (hy : 0 ≤ y ∧ y < C) : 0 ≤ k * C + y ∧ k * C + y < 241 * C ∧ 0 ≤ k * C ∧ k * C ≤ 1920 := by
 have : C = 1 ∨ C = 2 ∨ C = 3 ∨ C = 4 ∨ C = 5 ∨ C = 6 ∨ C = 7 ∨ C = 8 := by omega
 rcases this with rfl | rfl | rfl | rfl | rfl | rfl | rfl | rfl <;> omega
theorem ix_inj (hC : 1 ≤ C ∧ C ≤ 8) (hk : 0 ≤ k ∧ k ≤ 240) (hy : 0 ≤ y ∧ y < C) (hk' : 0 ≤ k' ∧ k' ≤ 240) (hy' : 0 ≤ y' ∧ y' < C) (h : ix C k y = ix C k' y') : k = k' ∧ y = y' := by
 unfold ix at h
 have : C = 1 ∨ C = 2 ∨ C = 3 ∨ C = 4 ∨ C = 5 ∨ C = 6 ∨ C = 7 ∨ C = 8 := by omega
 rcases this with rfl | rfl | rfl | rfl | rfl | rfl | rfl | rfl <;> omega
theorem ix_lt' (hC : 1 ≤ C ∧ C ≤ 8) (hk : 0 ≤ k ∧ k ≤ 240) (hy : 0 ≤ y ∧ y < C) : ix C k y < (241 * C).toNat := by
 have := ix_lt hC hk hy
 unfold ix
 omega
theorem Tm_set {th : List Bool} (hl : th.length = (241 * C).toNat) (hC : 1 ≤ C ∧ C ≤ 8) (hk : 0 ≤ k ∧ k ≤ 240) (hy : 0 ≤ y ∧ y < C) (hk' : 0 ≤ k' ∧ k' ≤ 240) (hy' : 0 ≤ y' ∧ y' < C) :
  Tm C (th.set (ix C k y) true) k' y' ↔ (k' = k ∧ y' = y) ∨ Tm C th k' y' := by
 unfold Tm
 simp only [List.getD_eq_getElem?_getD,List.getElem?_set]
 have h1 := ix_lt' hC hk hy
 by_cases e : ix C k y = ix C k' y'
 ·have := ix_inj hC hk hy hk' hy' e
  rw [if_pos e, if_pos (by omega)]
  simp [this.1, this.2]
 ·rw [if_neg e]
  constructor
  ·exact .inr
  ·rintro (⟨rfl, rfl⟩ | h)
   ·exact absurd rfl e
   ·exact h
end
section
variable {l : List Str} {C w ld fr a₀ m x : Int} {th th' : List Bool} {out : List Int}
structure RS (l : List Str) (C w ld fr a₀ m x : Int) (th : List Bool) (out : List Int) : Prop where
 len : th.length = (241 * C).toNat
 olen : out.length = C.toNat
 snd : ∀ k y, 0 ≤ k ∧ k ≤ 240 → 0 ≤ y ∧ y < C → Tm C th k y → Can l w ld fr a₀ k y
 beg : Tm C th a₀ fr
 wt : ∀ k y, a₀ ≤ k → (k < m ∨ k = m ∧ y < x) → 0 ≤ y ∧ y < C → k < 240 → Tm C th k y → Tm C th (k + 1) y
 lg : ∀ k y (i : Nat) s b, a₀ ≤ k → (k < m ∨ k = m ∧ y < x) → k ≤ 240 → Tm C th k y → l[i]? = some s → nearL s b = y → mayL s b w ld = true → startsL s b ld k ≠ -1 → Tm C th (startsL s b ld k) (farL s b)
 o1 : ∀ y, 0 ≤ y ∧ y < C → tg out y = -1 ∨ (a₀ ≤ tg out y ∧ tg out y ≤ 240 ∧ (tg out y < m ∨ tg out y = m ∧ y < x) ∧ Tm C th (tg out y) y)
 o2 : ∀ k y, 0 ≤ y ∧ y < C → a₀ ≤ k → (k < m ∨ k = m ∧ y < x) → k ≤ 240 → Tm C th k y → tg out y ≠ -1 ∧ tg out y ≤ k
theorem tg_setN {t : List Int} {x y v : Int} {n : Nat} (ht : t.length = n) (hx : 0 ≤ x ∧ x < n) (hy : 0 ≤ y) : tg (t.set x.toNat v) y = if y = x then v else tg t y := by
 unfold tg
 simp only [List.getD_eq_getElem?_getD,List.getElem?_set]
 by_cases e : y = x
 ·subst e
  rw [if_pos rfl, if_pos rfl, if_pos (by omega)]; rfl
 ·rw [if_neg e, if_neg (by omega)]
theorem RS.skip (h : RS l C w ld fr a₀ m x th out) (hn : ¬ Tm C th m x) : RS l C w ld fr a₀ m (x + 1) th out where
 len := h.len
 olen := h.olen
 snd := h.snd
 beg := h.beg
 wt k y h1 h2 h3 h4 h5 := by
  by_cases e : k = m ∧ y = x
  ·obtain ⟨rfl, rfl⟩ := e; exact absurd h5 hn
  ·exact h.wt k y h1 (by omega) h3 h4 h5
 lg k y i s b h1 h2 h3 h4 h5 h6 h7 h8 := by
  by_cases e : k = m ∧ y = x
  ·obtain ⟨rfl, rfl⟩ := e; exact absurd h4 hn
  ·exact h.lg k y i s b h1 (by omega) h3 h4 h5 h6 h7 h8
 o1 y hy := by
  rcases h.o1 y hy with h1 | ⟨h1, h2, h3, h4⟩
  ·exact .inl h1
  ·exact .inr ⟨h1, h2, by omega, h4⟩
 o2 k y h1 h2 h3 h4 h5 := by
  by_cases e : k = m ∧ y = x
  ·obtain ⟨rfl, rfl⟩ := e; exact absurd h5 hn
  ·exact h.o2 k y h1 h2 (by omega) h4 h5
theorem RS.row (g : Good C l ld) (h : RS l C w ld fr a₀ m C th out) : RS l C w ld fr a₀ (m + 1) 0 th out where
 len := h.len
 olen := h.olen
 snd := h.snd
 beg := h.beg
 wt k y h1 h2 h3 h4 h5 := h.wt k y h1 (by omega) h3 h4 h5
 lg k y i s b h1 h2 h3 h4 h5 h6 h7 h8 := by
  have := g.near (List.mem_of_getElem? h5) b
  exact h.lg k y i s b h1 (by omega) h3 h4 h5 h6 h7 h8
 o1 y hy := by
  rcases h.o1 y hy with h1 | ⟨h1, h2, h3, h4⟩
  ·exact .inl h1
  ·exact .inr ⟨h1, h2, by omega, h4⟩
 o2 k y h1 h2 h3 h4 h5 := h.o2 k y h1 h2 (by omega) h4 h5
structure LS (l : List Str) (C w ld fr a₀ m x : Int) (th₀ : List Bool) (j : Nat) (th : List Bool) : Prop where
 len : th.length = (241 * C).toNat
 mono : ∀ k y, 0 ≤ k ∧ k ≤ 240 → 0 ≤ y ∧ y < C → Tm C th₀ k y → Tm C th k y
 low : ∀ k y, 0 ≤ k ∧ k ≤ m → 0 ≤ y ∧ y < C → Tm C th k y → Tm C th₀ k y
 snd : ∀ k y, 0 ≤ k ∧ k ≤ 240 → 0 ≤ y ∧ y < C → Tm C th k y → Can l w ld fr a₀ k y
 done : ∀ (i : Nat) s b, 2 * i + b.toNat < j → l[i]? = some s → nearL s b = x → mayL s b w ld = true → startsL s b ld m ≠ -1 → Tm C th (startsL s b ld m) (farL s b)
def legT (C w ld m x : Int) (th : List Bool) (s : Str) (b : Bool) : List Bool :=
 bif decide (nearL s b = x) && (mayL s b w ld && decide (0 ≤ startsL s b ld m)) then th.set (ix C (startsL s b ld m) (farL s b)) true else th
theorem starts_in (g : Good C l ld) {s : Str} (hs : s ∈ l) {b : Bool} (hm : 0 ≤ m ∧ m ≤ 240) (h : 0 ≤ startsL s b ld m) : m < startsL s b ld m ∧ startsL s b ld m ≤ 240 ∧ startsL s b ld m ≠ -1 := by
 have h1 := starts_eq (s := s) (b := b) (ld := ld) (m := m) (by omega)
 have h2 := (g.fit hs).takes b
 omega
theorem LS.step {th₀ : List Bool} {j i : Nat} {s : Str} {b : Bool} (g : Good C l ld) (hm : 0 ≤ m ∧ m ≤ 240) (h : LS l C w ld fr a₀ m x th₀ j th) (hc : Can l w ld fr a₀ m x) (hi : l[i]? = some s) (hj : j = 2 * i + b.toNat) : LS l C w ld fr a₀ m x th₀ (j + 1) (legT C w ld m x th s b) := by
 have hmem := List.mem_of_getElem? hi
 have hfar := g.far hmem b
 have old : ∀ (i' : Nat) s' b', 2 * i' + b'.toNat < j + 1 → l[i']? = some s' → ¬ (2 * i' + b'.toNat < j) → s' = s ∧ b' = b := fun i' s' b' h1 h2 h3 => by
  have q1 : b.toNat ≤ 1 := by cases b <;> simp
  have q2 : b'.toNat ≤ 1 := by cases b' <;> simp
  obtain ⟨rfl, q3⟩ : i' = i ∧ b'.toNat = b.toNat := by omega
  obtain rfl : b' = b := by
   cases b <;> cases b' <;> first | rfl | (simp at q3)
  rw [hi] at h2
  exact ⟨by simpa using h2.symm, rfl⟩
 unfold legT
 cases hb : decide (nearL s b = x) && (mayL s b w ld && decide (0 ≤ startsL s b ld m))
 ·simp only [cond_false]
  refine ⟨h.len, h.mono, h.low, h.snd, fun i' s' b' h1 h2 h3 h4 h5 => ?_⟩
  by_cases e : 2 * i' + b'.toNat < j
  ·exact h.done i' s' b' e h2 h3 h4 h5
  ·obtain ⟨rfl, rfl⟩ := old i' s' b' h1 h2 e
   have h6 := starts_ge hm.1 ((g.fit hmem).takes b').1 h5
   rw [h4, decide_eq_true h3, decide_eq_true h6] at hb
   cases hb
 ·simp only [cond_true]
  simp only [Bool.and_eq_true,decide_eq_true_eq] at hb
  obtain ⟨b1, b2, b3⟩ := hb
  obtain ⟨s1, s2, s3⟩ := starts_in g hmem hm b3
  have hst : ∀ k y, 0 ≤ k ∧ k ≤ 240 → 0 ≤ y ∧ y < C → (Tm C (th.set (ix C (startsL s b ld m) (farL s b)) true) k y ↔ (k = startsL s b ld m ∧ y = farL s b) ∨ Tm C th k y) := fun k y hk hy => Tm_set h.len g.hC ⟨by omega, s2⟩ hfar hk hy
  refine ⟨by rw [List.length_set]; exact h.len, fun k y hk hy hT => (hst k y hk hy).2 (.inr (h.mono k y hk hy hT)), fun k y hk hy hT => ?_, fun k y hk hy hT => ?_, fun i' s' b' h1 h2 h3 h4 h5 => ?_⟩
  ·rcases (hst k y ⟨hk.1, by omega⟩ hy).1 hT with ⟨rfl, -⟩ | hT
   ·omega
   ·exact h.low k y hk hy hT
  ·rcases (hst k y hk hy).1 hT with ⟨rfl, rfl⟩ | hT
   ·exact Can.go (b1 ▸ hc) hi b2 s3
   ·exact h.snd k y hk hy hT
  ·have q := starts_eq h5
   have q2 := (g.fit (List.mem_of_getElem? h2)).takes b'
   refine (hst _ _ ⟨by omega, by omega⟩ (g.far (List.mem_of_getElem? h2) b')).2 ?_
   by_cases e : 2 * i' + b'.toNat < j
   ·exact .inr (h.done i' s' b' e h2 h3 h4 h5)
   ·obtain ⟨rfl, rfl⟩ := old i' s' b' h1 h2 e
    exact .inl ⟨rfl, rfl⟩
def waitT (C m x : Int) (th : List Bool) : List Bool := bif decide (m < 240) then th.set (ix C (m + 1) x) true else th
def outT (m x : Int) (out : List Int) : List Int := bif decide (tg out x < 0) then out.set x.toNat m else out
theorem RS.next (g : Good C l ld) (ha : 0 ≤ a₀) (hm : a₀ ≤ m ∧ 0 ≤ m ∧ m ≤ 240) (hx : 0 ≤ x ∧ x < C) (h : RS l C w ld fr a₀ m x th out) (hT : Tm C th m x) (hL : LS l C w ld fr a₀ m x (waitT C m x th) (2 * l.length) th') (hfr : 0 ≤ fr ∧ fr < C) (ha1 : a₀ ≤ 240) :
  RS l C w ld fr a₀ m (x + 1) th' (outT m x out) := by
 have hC := g.hC
 have wset : m < 240 → ∀ k y, 0 ≤ k ∧ k ≤ 240 → 0 ≤ y ∧ y < C → (Tm C (waitT C m x th) k y ↔ (k = m + 1 ∧ y = x) ∨ Tm C th k y) := fun hlt k y hk hy => by
  unfold waitT
  rw [decide_eq_true hlt, cond_true]
  exact Tm_set h.len hC ⟨by omega, by omega⟩ hx hk hy
 have wno : ¬ m < 240 → waitT C m x th = th := fun hlt => by unfold waitT; rw [decide_eq_false hlt]; rfl
 have up : ∀ k y, 0 ≤ k ∧ k ≤ 240 → 0 ≤ y ∧ y < C → Tm C th k y → Tm C th' k y := fun k y hk hy hh => hL.mono k y hk hy (by
  by_cases hlt : m < 240
  ·exact (wset hlt k y hk hy).2 (.inr hh)
  ·rw [wno hlt]; exact hh)
 have dn : ∀ k y, 0 ≤ k ∧ k ≤ m → 0 ≤ y ∧ y < C → Tm C th' k y → Tm C th k y := fun k y hk hy hh => by
  have := hL.low k y hk hy hh
  by_cases hlt : m < 240
  ·rcases (wset hlt k y ⟨hk.1, by omega⟩ hy).1 this with ⟨rfl, -⟩ | h1
   ·omega
   ·exact h1
  ·rw [wno hlt] at this; exact this
 have tgo : ∀ y, 0 ≤ y ∧ y < C → tg (outT m x out) y = if y = x ∧ tg out x < 0 then m else tg out y := fun y hy => by
  unfold outT
  cases hd : decide (tg out x < 0)
  ·have := of_decide_eq_false hd
   rw [if_neg (fun hh => this hh.2)]; rfl
  ·have := of_decide_eq_true hd
   rw [cond_true, tg_setN h.olen ⟨hx.1, by omega⟩ hy.1]
   by_cases e : y = x
   ·rw [if_pos e, if_pos ⟨e, this⟩]
   ·rw [if_neg e, if_neg (fun hh => e hh.1)]
 refine ⟨hL.len, ?_, hL.snd, up _ _ ⟨ha, ha1⟩ hfr h.beg, ?_, ?_, ?_, ?_⟩
 ·unfold outT
  cases decide (tg out x < 0)
  ·exact h.olen
  ·rw [cond_true, List.length_set]; exact h.olen
 ·intro k y h1 h2 h3 h4 h5
  by_cases e : k = m ∧ y = x
  ·obtain ⟨rfl, rfl⟩ := e
   exact hL.mono _ _ ⟨by omega, by omega⟩ h3 ((wset h4 _ _ ⟨by omega, by omega⟩ h3).2 (.inl ⟨rfl, rfl⟩))
  ·exact up _ _ ⟨by omega, by omega⟩ h3 (h.wt k y h1 (by omega) h3 h4 (dn k y ⟨by omega, by omega⟩ h3 h5))
 ·intro k y i s b h1 h2 h3 h4 h5 h6 h7 h8
  have hmem := List.mem_of_getElem? h5
  have hnear := g.near hmem b
  have q := starts_eq h8
  have q2 := (g.fit hmem).takes b
  by_cases e : k = m ∧ y = x
  ·obtain ⟨rfl, rfl⟩ := e
   have hi := (List.getElem?_eq_some_iff.1 h5).1
   exact hL.done i s b (by
    have : b.toNat ≤ 1 := by cases b <;> simp
    omega) h5 h6 h7 h8
  ·exact up _ _ ⟨by omega, by omega⟩ (g.far hmem b) (h.lg k y i s b h1 (by omega) h3 (dn k y ⟨by omega, by omega⟩ (by omega) h4) h5 h6 h7 h8)
 ·intro y hy
  rw [tgo y hy]
  split
  ·rename_i e
   obtain ⟨rfl, e2⟩ := e
   exact .inr ⟨hm.1, hm.2.2, .inr ⟨rfl, by omega⟩, up _ _ ⟨hm.2.1, hm.2.2⟩ hy hT⟩
  ·rcases h.o1 y hy with h1 | ⟨h1, h2, h3, h4⟩
   ·exact .inl h1
   ·exact .inr ⟨h1, h2, by omega, up _ _ ⟨by omega, h2⟩ hy h4⟩
 ·intro k y hy h1 h2 h3 h4
  rw [tgo y hy]
  have h4' := dn k y ⟨by omega, by omega⟩ hy h4
  by_cases e : k = m ∧ y = x
  ·obtain ⟨rfl, rfl⟩ := e
   split
   ·exact ⟨by omega, Int.le_refl _⟩
   ·rename_i e
    rcases h.o1 y hy with h5 | ⟨h5, h6, h7, h8⟩
    ·exact absurd ⟨rfl, by omega⟩ e
    ·exact ⟨by omega, by omega⟩
  ·obtain ⟨h5, h6⟩ := h.o2 k y hy h1 (by omega) h3 h4'
   split
   ·rename_i e2
    obtain ⟨rfl, e2⟩ := e2
    rcases h.o1 y hy with h7 | ⟨h7, h8, h9, h10⟩
    ·exact absurd h7 h5
    ·omega
   ·exact ⟨h5, h6⟩
end
end Go.Am
namespace Go.Am
open Go.Proofs
section
variable {C k y k' y' : Int} {M : Int}
theorem ixM_lt (hC : 1 ≤ C ∧ C ≤ 8) (hM : 1 ≤ M ∧ M ≤ 241) (hk : 0 ≤ k ∧ k < M) (hy : 0 ≤ y ∧ y < C) : 0 ≤ k * C + y ∧ k * C + y < M * C ∧ 0 ≤ k * C ∧ k * C ≤ 1920 ∧ M * C ≤ 1928 ∧ 1 ≤ M * C := by
 have : C = 1 ∨ C = 2 ∨ C = 3 ∨ C = 4 ∨ C = 5 ∨ C = 6 ∨ C = 7 ∨ C = 8 := by omega
 rcases this with rfl | rfl | rfl | rfl | rfl | rfl | rfl | rfl <;> omega
theorem Tm_setB {th : List Bool} {b : Bool} (hl : th.length = (M * C).toNat) (hC : 1 ≤ C ∧ C ≤ 8) (hM : 1 ≤ M ∧ M ≤ 241) (hk : 0 ≤ k ∧ k < M) (hy : 0 ≤ y ∧ y < C) (hk' : 0 ≤ k' ∧ k' < M) (hy' : 0 ≤ y' ∧ y' < C) :
  Tm C (th.set (ix C k y) b) k' y' ↔ if k' = k ∧ y' = y then b = true else Tm C th k' y' := by
 unfold Tm
 simp only [List.getD_eq_getElem?_getD,List.getElem?_set]
 have h1 := ixM_lt hC hM hk hy
 by_cases e : ix C k y = ix C k' y'
 ·have := ix_inj hC ⟨hk.1, by omega⟩ hy ⟨hk'.1, by omega⟩ hy' e
  have h2 : ix C k y < th.length := by unfold ix; omega
  rw [if_pos e, if_pos h2, if_pos (by omega)]; simp
 ·rw [if_neg e, if_neg]
  rintro ⟨rfl, rfl⟩
  exact e rfl
end
section
variable {l : List Str} {C w ld to bm m x : Int} {it : List Bool} {out : List Int}
structure LR (l : List Str) (C w ld to bm m x : Int) (it : List Bool) (out : List Int) : Prop where
 len : it.length = ((bm + 1) * C).toNat
 olen : out.length = C.toNat
 is : ∀ k y, (m < k ∨ k = m ∧ y < x) → 0 ≤ k ∧ k ≤ bm → 0 ≤ y ∧ y < C → (Tm C it k y ↔ Late l w ld to bm k y)
 o1 : ∀ y, 0 ≤ y ∧ y < C → tg out y = -1 ∨ (0 ≤ tg out y ∧ (m < tg out y ∨ tg out y = m ∧ y < x) ∧ Late l w ld to bm (tg out y) y)
 o2 : ∀ k y, 0 ≤ y ∧ y < C → 0 ≤ k → (m < k ∨ k = m ∧ y < x) → Late l w ld to bm k y → tg out y ≠ -1 ∧ k ≤ tg out y
def canB (C w ld to bm m x : Int) (it : List Bool) : Bool := decide (x = to) || (decide (m < bm) && it.getD (ix C (m + 1) x) false)
def canS (C w ld bm m x : Int) (it : List Bool) (s : Str) (b : Bool) (c : Bool) : Bool :=
 bif decide (nearL s b = x) && (mayL s b w ld && (decide (0 ≤ startsL s b ld m) && (decide (startsL s b ld m ≤ bm) && it.getD (ix C (startsL s b ld m) (farL s b)) false))) then true else c
structure CS (l : List Str) (C w ld to bm m x : Int) (it : List Bool) (j : Nat) (c : Bool) : Prop where
 snd : c = true → Late l w ld to bm m x
 beg : canB C w ld to bm m x it = true → c = true
 done : ∀ (i : Nat) s b, 2 * i + b.toNat < j → l[i]? = some s → nearL s b = x → mayL s b w ld = true → startsL s b ld m ≠ -1 → Late l w ld to bm (startsL s b ld m) (farL s b) → c = true
theorem LR.row (h : LR l C w ld to bm m C it out) : LR l C w ld to bm (m - 1) 0 it out where
 len := h.len
 olen := h.olen
 is k y h1 h2 h3 := h.is k y (by omega) h2 h3
 o1 y hy := by
  rcases h.o1 y hy with h1 | ⟨h1, h2, h3⟩
  ·exact .inl h1
  ·exact .inr ⟨h1, by omega, h3⟩
 o2 k y h1 h2 h3 h4 := h.o2 k y h1 h2 (by omega) h4
theorem CS.step {i j : Nat} {s : Str} {b c : Bool} (g : Good C l ld) (hm : 0 ≤ m ∧ m ≤ bm) (hb : bm ≤ 240) (h : LR l C w ld to bm m x it out) (hc : CS l C w ld to bm m x it j c) (hi : l[i]? = some s) (hj : j = 2 * i + b.toNat) : CS l C w ld to bm m x it (j + 1) (canS C w ld bm m x it s b c) := by
 have hmem := List.mem_of_getElem? hi
 have hfar := g.far hmem b
 have tk := (g.fit hmem).takes b
 have old : ∀ (i' : Nat) s' b', 2 * i' + b'.toNat < j + 1 → l[i']? = some s' → ¬ (2 * i' + b'.toNat < j) → s' = s ∧ b' = b := fun i' s' b' h1 h2 h3 => by
  have q1 : b.toNat ≤ 1 := by cases b <;> simp
  have q2 : b'.toNat ≤ 1 := by cases b' <;> simp
  obtain ⟨rfl, q3⟩ : i' = i ∧ b'.toNat = b.toNat := by omega
  obtain rfl : b' = b := by
   cases b <;> cases b' <;> first | rfl | (simp at q3)
  rw [hi] at h2
  exact ⟨by simpa using h2.symm, rfl⟩
 have isT : 0 ≤ startsL s b ld m → startsL s b ld m ≤ bm → (Tm C it (startsL s b ld m) (farL s b) ↔ Late l w ld to bm (startsL s b ld m) (farL s b)) := fun h1 h2 => by
  have q := starts_eq (s := s) (b := b) (ld := ld) (m := m) (by omega)
  exact h.is _ _ (by omega) ⟨h1, h2⟩ hfar
 unfold canS
 cases hb' : decide (nearL s b = x) && (mayL s b w ld && (decide (0 ≤ startsL s b ld m) && (decide (startsL s b ld m ≤ bm) && it.getD (ix C (startsL s b ld m) (farL s b)) false)))
 ·rw [cond_false]
  refine ⟨hc.snd, hc.beg, fun i' s' b' h1 h2 h3 h4 h5 h6 => ?_⟩
  by_cases e : 2 * i' + b'.toNat < j
  ·exact hc.done i' s' b' e h2 h3 h4 h5 h6
  ·obtain ⟨rfl, rfl⟩ := old i' s' b' h1 h2 e
   have h7 := starts_ge hm.1 tk.1 h5
   have h8 := h6.ge (by omega) g
   have h9 : it.getD (ix C (startsL s' b' ld m) (farL s' b')) false = true := (isT h7 h8.2).2 h6
   rw [h4, decide_eq_true h3, decide_eq_true h7, decide_eq_true h8.2, h9] at hb'
   cases hb'
 ·rw [cond_true]
  simp only [Bool.and_eq_true,decide_eq_true_eq] at hb'
  obtain ⟨b1, b2, b3, b4, b5⟩ := hb'
  refine ⟨fun _ => ?_, fun _ => rfl, fun _ _ _ _ _ _ _ _ _ => rfl⟩
  rw [← b1]
  exact .go ((isT b3 b4).1 b5) hi b2 (by omega) hm.1
def outL (m x : Int) (c : Bool) (out : List Int) : List Int := bif c && decide (tg out x < 0) then out.set x.toNat m else out
theorem LR.next {c : Bool} (g : Good C l ld) (hm : 0 ≤ m ∧ m ≤ bm) (hb : bm ≤ 240) (hx : 0 ≤ x ∧ x < C) (h : LR l C w ld to bm m x it out) (hc : c = true ↔ Late l w ld to bm m x) :
  LR l C w ld to bm m (x + 1) (it.set (ix C m x) c) (outL m x c out) := by
 have hC := g.hC
 have tgo : ∀ y, 0 ≤ y ∧ y < C → tg (outL m x c out) y = if y = x ∧ c = true ∧ tg out x < 0 then m else tg out y := fun y hy => by
  unfold outL
  cases hcc : c && decide (tg out x < 0)
  ·rw [cond_false, if_neg]
   rintro ⟨-, h2, h3⟩
   rw [h2, decide_eq_true h3] at hcc
   cases hcc
  ·rw [cond_true, tg_setN (n := C.toNat) h.olen (by omega) hy.1]
   simp only [Bool.and_eq_true,decide_eq_true_eq] at hcc
   by_cases e : y = x
   ·rw [if_pos e, if_pos ⟨e, hcc⟩]
   ·rw [if_neg e, if_neg (fun q => e q.1)]
 refine ⟨by rw [List.length_set]; exact h.len, ?_, ?_, ?_, ?_⟩
 ·unfold outL
  cases c && decide (tg out x < 0)
  ·exact h.olen
  ·rw [cond_true, List.length_set]; exact h.olen
 ·intro k y h1 h2 h3
  rw [Tm_setB (M := bm + 1) h.len hC (by omega) (by omega) hx (by omega) h3]
  by_cases e : k = m ∧ y = x
  ·rw [if_pos e, hc, e.1, e.2]
  ·rw [if_neg e]; exact h.is k y (by omega) h2 h3
 ·intro y hy
  rw [tgo y hy]
  by_cases e : y = x ∧ c = true ∧ tg out x < 0
  ·rw [if_pos e]
   exact .inr ⟨hm.1, .inr ⟨rfl, by omega⟩, by rw [e.1]; exact hc.1 e.2.1⟩
  ·rw [if_neg e]
   rcases h.o1 y hy with h1 | ⟨h1, h2, h3⟩
   ·exact .inl h1
   ·exact .inr ⟨h1, by omega, h3⟩
 ·intro k y hy h1 h2 h3
  rw [tgo y hy]
  by_cases e : k = m ∧ y = x
  ·obtain ⟨rfl, rfl⟩ := e
   by_cases e : tg out y < 0
   ·rw [if_pos ⟨rfl, hc.2 h3, e⟩]; omega
   ·rw [if_neg (fun q => e q.2.2)]
    rcases h.o1 y hy with h5 | ⟨h5, h6, h7⟩
    ·omega
    ·omega
  ·have h4 := h.o2 k y hy h1 (by omega) h3
   by_cases e2 : y = x ∧ c = true ∧ tg out x < 0
   ·obtain ⟨rfl, -, e3⟩ := e2
    omega
   ·rw [if_neg e2]; exact h4
end
end Go.Am
