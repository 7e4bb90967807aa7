/- Earliest, Latest and Spare of the program. -/
import Derived.Test.YtdjklljbninmgaaT31
set_option linter.unusedSimpArgs false
set_option linter.unusedVariables false
namespace Go.Am
open Go.Proofs
variable {T : Tab} {P : Program} {N L : Nat} {H : AHeap} {Q : Bool → Value → AHeap → Prop}

/-! ### Rows of numbers that are copied, or compared -/
theorem Il.of {k : Nat} {l : List Int} (hk : k < H.size) (h : cellsOf (H.get k) = some (tv l)) : Il H (some ⟨k, 0, none⟩) l := ⟨fun _ => ⟨k, 0, tv l, rfl, hk, h, fun i n hi => by
  unfold tv
  rw [Nat.zero_add, List.getElem?_map, hi]; rfl⟩⟩
theorem Il.two {k : Nat} {n m : Int} (hk : k < H.size) (h : cellsOf (H.get k) = some [.int .i64 n, .int .i64 m]) : Il H (some ⟨k, 0, none⟩) [n, m] := Il.of hk h
theorem Il.pre {k n : Nat} {l : List Int} (hk : k < H.size) (h : cellsOf (H.get k) = some (tv l)) : Il H (some ⟨k, 0, none⟩) (l.take n) := ⟨fun _ => ⟨k, 0, tv l, rfl, hk, h, fun i m hi => by
  unfold tv
  rw [List.getElem?_take] at hi
  split at hi
  · rw [Nat.zero_add, List.getElem?_map, hi]; rfl
  · cases hi⟩⟩
theorem Il.src {b o : Nat} {s : Option Nat} {l : List Int} (h : Il H (some ⟨b, o, s⟩) l) (hl : l ≠ []) : srcCells H ⟨b, o, s⟩ (l.length * 1) = some (tv l) := by
  obtain ⟨b', o', c', h1, h2, h3, h4⟩ := h.get hl
  cases h1
  have e : (c'.drop o).take l.length = tv l := by
    apply List.ext_getElem?
    intro i
    rw [List.getElem?_take]
    by_cases hi : i < l.length
    · rw [if_pos hi, List.getElem?_drop, h4 i l[i] (by simp [hi])]
      unfold tv
      rw [List.getElem?_map, List.getElem?_eq_getElem hi]; rfl
    · rw [if_neg hi, List.getElem?_eq_none (by rw [tv_len]; omega)]
  unfold srcCells
  rw [h3]
  simp only [Nat.mul_one,e,tv_len,show Nat.beq l.length l.length = true by simp,cond_true]
theorem c89 {b o cap : Nat} {l : List Int} (hs : Il H (some ⟨b, o, none⟩) l) (hb : b < H.size) (hne : l ≠ []) (hl : l.length ≤ 1000) (hL : L ≤ H.size) {M : Nat} (hM : 60 ≤ M)
    (hq : ∀ k cap' H', Fr H H' → H.size ≤ k → k < H'.size → H'.get k = .rw (tv l) 3 true [] → Q false (.slice (some ⟨k, 0, none⟩) l.length cap') H') : resK (acall tabA (aexec tabA Try.prog M) 89 [.slice (some ⟨b, o, none⟩) l.length cap] H) L Q := by
  obtain ⟨N, rfl⟩ : ∃ N, M = N + 60 := ⟨M - 60, by omega⟩
  refine call_fls (R := fun v H' => ∃ k cap', v = .slice (some ⟨k, 0, none⟩) l.length cap' ∧ Fr H H' ∧ H.size ≤ k ∧ k < H'.size ∧ H'.get k = .rw (tv l) 3 true []) (k := 8) (rs := [.tmp 2]) rfl fn_89 rfl rfl rfl hL ?_ ?_ ?_
  · simp (disch := (first | (simp only [yk,seval]; done) | omega | (simp only [yz] <;> omega) | fail)) only [↓yp,yq0,yq1,yq2,yq3,yq4,yl,ys0,ys1,seval,zed,zee,zfr,zhw,ysu,yrg,binV_nil_some zir,A_buildSlice st_brS_52_0]
    have hpos : 0 < l.length := List.length_pos_iff.2 hne
    rw [apK_empty (H := _) (n := l.length) st_apS_52 ((hs.fr (Fr.alloc _ _)).src hne) hpos (by omega) (by omega) (one_tv l) (c₀ := []) (by simp (disch := (first | (simp only [yk,seval]; done) | omega | (simp only [yz] <;> omega) | fail)) only [yg,Nat.reduceAdd,Nat.reduceEqDiff,Nat.reduceLT])]
    simp (disch := (first | (simp only [yk,seval]; done) | omega | (simp only [yz] <;> omega) | fail)) only [↓yp,yq0,yq1,yq2,yq3,yq4,yl,ys0,ys1,seval,zed,zee,zfr,zhw,ysu,yrg]
    exact ⟨_, _, rfl, by (repeat (first | exact Fr.refl _ | assumption | refine Fr.allocd ?_ _ | refine Fr.kill ?_ (by first | assumption | omega) | refine Fr.put ?_ (by first | omega | (simp only [yz] <;> omega)) _)), by (first | omega | (simp only [yz] <;> omega)), by (first | omega | (simp only [yz] <;> omega)), by simp (disch := (first | (simp only [yk,seval]; done) | omega | (simp only [yz] <;> omega) | fail)) only [yg,Nat.reduceAdd,Nat.reduceEqDiff,Nat.reduceLT]⟩
  · rintro v H' ⟨k, cap', rfl, -⟩; rfl
  · rintro v H' ⟨k, cap', rfl, h1, h2, h3, h4⟩
    exact hq _ _ _ h1 h2 h3 h4
/-- begin, whatever streets there are. -/
theorem c83q {a : Option Addr} {n cap : Nat} {C w ld : Int} (hc : a = none → n = 0) (hL : L ≤ H.size) {M : Nat} (hM : 30 ≤ M) (hq : ∀ b H', Fr H H' → Q b (jobV C a n cap w ld) H') :
    resK (acall tabA (aexec tabA Try.prog M) 83 [.agg ⟨[.int .i64 C, .slice a n cap]⟩, .agg ⟨[.int .i64 w, .int .i64 ld]⟩] H) L Q := by
  obtain ⟨N, rfl⟩ : ∃ N, M = N + 30 := ⟨M - 30, by omega⟩
  refine call_keep tabA_fr (R := fun v H' => v = jobV C a n cap w ld ∧ Fr H H') (k := 8) (rs := [.cell 4 124]) rfl fn_83 rfl rfl rfl hL ?_ ?_ ?_
  · simp (disch := (first | (simp only [yk,seval]; done) | omega | (simp only [yz] <;> omega) | fail)) only [↓yp,yq0,yq1,yq2,yq3,yq4,yl,ys0,ys1,seval,zed,zee,zfr,zhw,ysu,yrg,A_build zik]
    exact ⟨rfl, by (repeat (first | exact Fr.refl _ | assumption | refine Fr.allocd ?_ _ | refine Fr.kill ?_ (by first | assumption | omega) | refine Fr.put ?_ (by first | omega | (simp only [yz] <;> omega)) _))⟩
  · rintro v H' ⟨rfl, h⟩
    exact hq _ _ h
  · rintro v H' ⟨rfl, h⟩ _ _
    exact hq _ _ (Fr.refl _)

section
variable {l : List Str} {C w ld : Int} {a : Option Addr} {cap : Nat}
theorem good_of (h : chk C l = 0) (hd : off ld 0 9 = false) : Good C l ld where
  hC := by have := off_iff.1 (chk_ok h).1; omega
  st s hs := by
    have h1 := (chk_ok h).2.2.1 s hs
    unfold bad1 at h1
    simp only [Bool.or_eq_false_iff] at h1
    have h2 := off_iff.1 h1.1
    have h3 := off_iff.1 h1.2.1
    exact ⟨by omega, by omega, fit_of h hs hd⟩
/-- A question of one corner and one minute. -/
theorem c82e {k₁ k₂ : Nat} {x m : Int} (hs : Sl H a l) (hl : l.length ≤ 18) (h₁ : cellsOf (H.get k₁) = some [.int .i64 x]) (h₂ : cellsOf (H.get k₂) = some [.int .i64 m]) :
    acall tabA (aexec tabA Try.prog (N + 400)) 82 [.agg ⟨[.int .i64 C, .slice a l.length cap]⟩, .agg ⟨[.int .i64 w, .int .i64 ld]⟩, .slice (some ⟨k₁, 0, none⟩) 1 1, .slice none 0 0, .slice (some ⟨k₂, 0, none⟩) 1 1] H = some (true, .int .i64 (asked C l w ld [x] [] [m]), H, H.size) :=
  c82 (cs := [x]) (ss := []) (ms := [m]) (as' := none) (ks := 0) hs hl (Il.one (lt_of_cells h₁) h₁) (by simp) Il.nil (by simp) (Il.one (lt_of_cells h₂) h₂) (by simp)
theorem Sl.none_len (hs : Sl H a l) (h : a = none) : l.length = 0 := by
  subst h
  refine List.length_eq_zero_iff.2 (Classical.byContradiction fun hne => ?_)
  obtain ⟨_, _, _, h, _⟩ := hs.get hne
  cases h
set_option maxHeartbeats 1000000 in
/-- Earliest, where it tells minutes. -/
theorem c32k {fr m : Int} (hs : Sl H a l) (hl : l.length ≤ 18) (h0 : asked C l w ld [fr] [] [m] = 0) (hL : L ≤ H.size) {M : Nat} (hM : 5000 ≤ M)
    (hq : ∀ k cap' H', Fr H H' → H.size ≤ k → k < H'.size → H'.get k = .rw (tv ((earT C l w ld fr m).take C.toNat)) 3 true [] → Q false (.tuple ⟨[.slice (some ⟨k, 0, none⟩) C.toNat cap', .int .i64 0]⟩) H') :
    resK (acall tabA (aexec tabA Try.prog M) 32 [.agg ⟨[.int .i64 C, .slice a l.length cap]⟩, .agg ⟨[.int .i64 w, .int .i64 ld]⟩, .int .i64 fr, .int .i64 m] H) L Q := by
  obtain ⟨N, rfl⟩ : ∃ N, M = N + 5000 := ⟨M - 5000, by omega⟩
  refine call_fls (R := fun v H' => ∃ k cap', v = .tuple ⟨[.slice (some ⟨k, 0, none⟩) C.toNat cap', .int .i64 0]⟩ ∧ Fr H H' ∧ H.size ≤ k ∧ k < H'.size ∧ H'.get k = .rw (tv ((earT C l w ld fr m).take C.toNat)) 3 true []) (k := 32) (rs := [.tmp 8, .tmp 9]) rfl fn_32 rfl rfl rfl hL ?_ ?_ ?_
  rotate_left
  · rintro v H' ⟨k, cap', rfl, -⟩; rfl
  · rintro v H' ⟨k, cap', rfl, h1, h2, h3, h4⟩
    exact hq _ _ _ h1 h2 h3 h4
  obtain ⟨hc, hw, hd, hcs, -, hms⟩ := asked_ok h0
  have g := good_of hc hd
  have hC := g.hC
  have hfr := hcs fr (by simp)
  have hm := hms m (by simp)
  have t8 := earT_len (w := w) g (fr := fr) (a₀ := m) (by omega) hm
  have ptv := part_tv t8
  have h0' : decide (asked C l w ld [fr] [] [m] = 0) = true := by simpa using h0
  simp (disch := (first | (simp only [yk,seval]; done) | omega | (simp only [yz] <;> omega) | fail)) only [↓yp,yq0,yq1,yq2,yq3,yq4,yl,ys0,ys1,seval,zed,zee,zfr,zhw,ysu,yrg,A_buildSlice st_brS_52_1]
  rw [c82e (x := fr) (m := m) (hs.fr (by (repeat (first | exact Fr.refl _ | assumption | refine Fr.allocd ?_ _ | refine Fr.kill ?_ (by first | assumption | omega) | refine Fr.put ?_ (by first | omega | (simp only [yz] <;> omega)) _)))) hl (by simp (disch := (first | (simp only [yk,seval]; done) | omega | (simp only [yz] <;> omega) | fail)) only [yg,Nat.reduceAdd,Nat.reduceEqDiff,Nat.reduceLT]) (by simp (disch := (first | (simp only [yk,seval]; done) | omega | (simp only [yz] <;> omega) | fail)) only [yg,Nat.reduceAdd,Nat.reduceEqDiff,Nat.reduceLT])]
  simp (disch := (first | (simp only [yk,seval]; done) | omega | (simp only [yz] <;> omega) | fail)) only [↓yp,yq0,yq1,yq2,yq3,yq4,yl,ys0,ys1,seval,zed,zee,zfr,zhw,ysu,yrg,h0']
  refine c83q (hs.fr (by (repeat (first | exact Fr.refl _ | assumption | refine Fr.allocd ?_ _ | refine Fr.kill ?_ (by first | assumption | omega) | refine Fr.put ?_ (by first | omega | (simp only [yz] <;> omega)) _)))).none_len (by (first | omega | (simp only [yz] <;> omega))) (by omega) ?_
  intro b3 H3 fr3
  have f3 := fr3.size
  have s3 := fr3.same
  simp only [zde] at f3
  have h88 := fun (H' : AHeap) (f : Fr H H') (N : Nat) => c88 (N := N) (C := C) (w := w) (cap := cap) (fr := fr) (a₀ := m) g (hs.fr f) hl (by omega) hm
  simp only [jobG] at h88
  simp (disch := (first | (simp only [yk,seval]; done) | omega | (simp only [yz] <;> omega) | fail)) only [↓yp,yq0,yq1,yq2,yq3,yq4,yl,ys0,ys1,seval,zed,zee,zfr,zhw,ysu,yrg,jobV]
  rw [h88 _ (Fr.trans (by (repeat (first | exact Fr.refl _ | assumption | refine Fr.allocd ?_ _ | refine Fr.kill ?_ (by first | assumption | omega) | refine Fr.put ?_ (by first | omega | (simp only [yz] <;> omega)) _))) fr3)]
  simp (disch := (first | (simp only [yk,seval]; done) | omega | (simp only [yz] <;> omega) | fail)) only [↓yp,yq0,yq1,yq2,yq3,yq4,yl,ys0,ys1,seval,zed,zee,zfr,zhw,ysu,yrg,tv_len,t8,one_tv,s3]
  refine A_cut_of (b := H3.size) (o := 0) (s := none) (i := C) st_arS_130 (by simp (disch := (first | (simp only [yk,seval]; done) | omega | (simp only [yz] <;> omega) | fail)) only [↓yp,yq0,yq1,yq2,yq3,yq4,yl,ys0,ys1,seval,zed,zee,zfr,zhw,ysu,yrg]) (by simp (disch := (first | (simp only [yk,seval]; done) | omega | (simp only [yz] <;> omega) | fail)) only [↓yp,yq0,yq1,yq2,yq3,yq4,yl,ys0,ys1,seval,zed,zee,zfr,zhw,ysu,yrg]) ⟨by omega, by omega⟩ (by unfold OPEN; omega) (by omega) (by (first | omega | (simp only [yz] <;> omega))) ?_
  simp (disch := (first | (simp only [yk,seval]; done) | omega | (simp only [yz] <;> omega) | fail)) only [↓yp,yq0,yq1,yq2,yq3,yq4,yl,ys0,ys1,seval,zed,zee,zfr,zhw,ysu,yrg]
  have hlen : ((earT C l w ld fr m).take C.toNat).length = C.toNat := by rw [List.length_take, t8]; omega
  rw [← hlen]
  refine c89 (Il.pre (by (first | omega | (simp only [yz] <;> omega))) (by simp (disch := (first | (simp only [yk,seval]; done) | omega | (simp only [yz] <;> omega) | fail)) only [yg,Nat.reduceAdd,Nat.reduceEqDiff,Nat.reduceLT])) (by (first | omega | (simp only [yz] <;> omega))) (fun h => by rw [h] at hlen; simp at hlen; omega) (by omega) (by (first | omega | (simp only [yz] <;> omega))) (by omega) ?_
  intro k cap' H' fr' hk1 hk2 hk3
  have f' := fr'.size
  simp only [zde,zdf] at f' hk1
  rw [hlen]
  simp (disch := (first | (simp only [yk,seval]; done) | omega | (simp only [yz] <;> omega) | fail)) only [↓yp,yq0,yq1,yq2,yq3,yq4,yl,ys0,ys1,seval,zed,zee,zfr,zhw,ysu,yrg]
  refine ⟨k, cap', rfl, ?_, ?_, hk2, hk3⟩
  · exact Fr.trans (Fr.put (Fr.allocd (Fr.trans (by (repeat (first | exact Fr.refl _ | assumption | refine Fr.allocd ?_ _ | refine Fr.kill ?_ (by first | assumption | omega) | refine Fr.put ?_ (by first | omega | (simp only [yz] <;> omega)) _))) fr3) _) (by (first | omega | (simp only [yz] <;> omega))) _) fr'
  · omega
end
end Go.Am
/- Minute by minute: what a search leaves, plainly. -/
namespace Go.Am
open Go.Proofs

def bv (t : List Bool) : List Value := t.map fun b => .bool b
theorem bv_len (t : List Bool) : (bv t).length = t.length := List.length_map ..
theorem newC_bv {t : List Bool} {i : Nat} {v : Bool} (h : i < t.length) : zee i [.bool v] (bv t) = bv (t.set i v) := by
  unfold zee bv
  rw [← List.map_take, ← List.map_drop, List.map_set]
  simp only [List.length_cons,List.length_nil,Nat.zero_add]
  rw [List.set_eq_take_append_cons_drop, List.length_map, if_pos h, List.map_take, List.map_drop]
  simp
theorem bv_get {t : List Bool} {i : Nat} (h : i < t.length) : (bv t)[i]? = some (.bool (t.getD i false)) := by
  unfold bv
  rw [List.getElem?_map, List.getElem?_eq_getElem h, List.getD_eq_getElem?_getD, List.getElem?_eq_getElem h]; rfl

/-- A place in a table of minutes and corners. -/
def ix (C k y : Int) : Nat := (k * C + y).toNat
def Tm (C : Int) (th : List Bool) (k y : Int) : Prop := th.getD (ix C k y) false = true
section
variable {C k y k' y' : Int}
end
section
variable {l : List Str} {C w ld fr a₀ m x : Int} {th th' : List Bool} {out : List Int}
end
end Go.Am
/- Minute by minute, from the last one back: the latest minutes, plainly. -/
namespace Go.Am
open Go.Proofs

section
variable {C k y k' y' : Int} {M : Int}
end
section
variable {l : List Str} {C w ld to bm m x : Int} {it : List Bool} {out : List Int}
end
end Go.Am
