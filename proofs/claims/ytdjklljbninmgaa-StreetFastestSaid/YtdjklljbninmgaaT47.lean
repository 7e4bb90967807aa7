import Derived.Test.YtdjklljbninmgaaT41
import Derived.Test.YtdjklljbninmgaaT46
set_option linter.unusedSimpArgs false
set_option linter.unusedVariables false
namespace Go.Am
open Go.Proofs
variable {T : Tab} {P : Program} {N L : Nat} {H : AHeap} {Q : Bool → Value → AHeap → Prop}
section
variable {a : Option Addr} {cap i : Nat} {l : List Str} {C w ld m lf : Int} {b : Bool} {s : Str}
end
end Go.Am
namespace Go.Am
open Go.Proofs
variable {T : Tab} {P : Program} {N L : Nat} {H : AHeap} {Q : Bool → Value → AHeap → Prop}
def barsL (p : Nat → Bool) : Nat → List Int
  | 0 => []
  | k + 1 => barsL p k ++ (if p k then [(k : Int)] else [])
theorem barsL_le {p : Nat → Bool} : ∀ k, (barsL p k).length ≤ k
  | 0 => by simp [barsL]
  | k + 1 => by
    have := barsL_le (p := p) k
    unfold barsL
    rw [List.length_append]
    split <;> simp <;> omega
section
variable {a : Option Addr} {cap : Nat} {l : List Str} {C w ld : Int}
theorem c82i {k₁ k₂ : Nat} {x y m : Int} (hs : Sl H a l) (hl : l.length ≤ 18) (h₁ : cellsOf (H.get k₁) = some [.int .i64 x, .int .i64 y]) (h₂ : cellsOf (H.get k₂) = some [.int .i64 m]) :
    acall tabA (aexec tabA Try.prog (N + 400)) 82 [.agg ⟨[.int .i64 C, .slice a l.length cap]⟩, .agg ⟨[.int .i64 w, .int .i64 ld]⟩, .slice (some ⟨k₁, 0, none⟩) 2 2, .slice none 0 0, .slice (some ⟨k₂, 0, none⟩) 1 1] H = some (true, .int .i64 (asked C l w ld [x, y] [] [m]), H, H.size) :=
  c82 (cs := [x, y]) (ss := []) (ms := [m]) (as' := none) (ks := 0) hs hl (Il.two (lt_of_cells h₁) h₁) (by simp) Il.nil (by simp) (Il.one (lt_of_cells h₂) h₂) (by simp)
theorem Grow.il {tb n c el : Nat} {a : Option Addr} {t : List Int} (g : Grow H tb (.slice a n c) n (tv t) el 1) (hn : t.length = n) : Il H a t := by
  by_cases h : n = 0
  · have : t = [] := List.length_eq_zero_iff.1 (by omega)
    subst this
    have e := g.nil h
    cases e
    exact Il.nil
  · obtain ⟨b, al, h1, h2, h3, h4, h5⟩ := g.cons h
    cases h1
    exact Il.of h3 (by rw [h4]; rfl)
end
end Go.Am
namespace Go.Am
open Go.Proofs
variable {T : Tab} {P : Program} {N L : Nat} {H : AHeap} {Q : Bool → Value → AHeap → Prop}
section
variable {l : List Str} {C w ld fr a₀ m to : Int} {x : Stt}
theorem canS_can (h : CanS l w ld (nxt dn0) (fr, 0) a₀ m x) : x.2 = 0 ∧ Can l w ld fr a₀ m x.1 := by
  induction h with
  | start => exact ⟨rfl, .start⟩
  | wait _ hm ih => exact ⟨ih.1, ih.2.wait hm⟩
  | go h hx hi hm hs ih =>
    refine ⟨ih.1, ?_⟩
    have h2 := ih.2
    rw [← hx] at h2
    exact h2.go hi hm hs
theorem can_canS {y : Int} (h : Can l w ld fr a₀ m y) : CanS l w ld (nxt dn0) (fr, 0) a₀ m (y, 0) := by
  induction h with
  | start => exact .start
  | wait _ hm ih => exact ih.wait hm
  | @go m i s b h hi hm hs ih =>
    exact ih.go (b := b) rfl hi hm hs
theorem least_ear (g : Good C l ld) (hfr : 0 ≤ fr ∧ fr < C) (ha : 0 ≤ a₀ ∧ a₀ ≤ 240) (hto : 0 ≤ to) (h : CanS l w ld (nxt dn0) (fr, 0) a₀ m (to, 0)) (hle : ∀ m', CanS l w ld (nxt dn0) (fr, 0) a₀ m' (to, 0) → m ≤ m') : tg (earT C l w ld fr a₀) to = m := by
  have E := earT_is (w := w) g hfr ha
  obtain ⟨h1, h2⟩ := E.le _ _ hto (canS_can h).2
  have h3 := hle _ (can_canS (E.can _ hto h1))
  omega
theorem none_ear (g : Good C l ld) (hfr : 0 ≤ fr ∧ fr < C) (ha : 0 ≤ a₀ ∧ a₀ ≤ 240) (hto : 0 ≤ to) (h : ∀ m, ¬ CanS l w ld (nxt dn0) (fr, 0) a₀ m (to, 0)) : tg (earT C l w ld fr a₀) to = -1 := by
  have E := earT_is (w := w) g hfr ha
  apply Classical.byContradiction
  intro h1
  exact h _ (can_canS (E.can _ hto h1))
end
section
variable {l : List Str} {C w ld fr to m : Int} {a : Option Addr} {cap : Nat}
set_option maxHeartbeats 4000000 in
theorem c38 (hs : Sl H a l) (hl : l.length ≤ 18) (hL : L ≤ H.size) {M : Nat} (hM : 21000 ≤ M)
    (he : asked C l w ld [fr, to] [] [m] ≠ 0 → ∀ q H', Fr H H' → Q q (.tuple ⟨[.slice none 0 0, .int .i64 0, .int .i64 (asked C l w ld [fr, to] [] [m])]⟩) H')
    (hn : asked C l w ld [fr, to] [] [m] = 0 → tg (earT C l w ld fr m) to = -1 → ∀ q H', Fr H H' → Q q (.tuple ⟨[.slice none 0 0, .int .i64 0, .int .i64 1]⟩) H')
    (hq : asked C l w ld [fr, to] [] [m] = 0 → tg (earT C l w ld fr m) to ≠ -1 → ∀ q v ls H', Fr H H' → RowL H' v ls H.size → Run l w ld (nxt dn0) (fr, 0) m ls (to, 0) (tg (earT C l w ld fr m) to) → ls.length ≤ 7 → Q q (.tuple ⟨[v, .int .i64 (tg (earT C l w ld fr m) to), .int .i64 0]⟩) H') :
    resK (acall tabA (aexec tabA Try.prog M) 38 [.agg ⟨[.int .i64 C, .slice a l.length cap]⟩, .agg ⟨[.int .i64 w, .int .i64 ld]⟩, .int .i64 fr, .int .i64 to, .int .i64 m] H) L Q := by
  obtain ⟨N, rfl⟩ : ∃ N, M = N + 21000 := ⟨M - 21000, by omega⟩
  refine call_some (R := fun v H' => Fr H H' ∧ ((asked C l w ld [fr, to] [] [m] ≠ 0 ∧ v = .tuple ⟨[.slice none 0 0, .int .i64 0, .int .i64 (asked C l w ld [fr, to] [] [m])]⟩) ∨ (asked C l w ld [fr, to] [] [m] = 0 ∧ tg (earT C l w ld fr m) to = -1 ∧ v = .tuple ⟨[.slice none 0 0, .int .i64 0, .int .i64 1]⟩) ∨
      (asked C l w ld [fr, to] [] [m] = 0 ∧ tg (earT C l w ld fr m) to ≠ -1 ∧ ∃ u ls, v = .tuple ⟨[u, .int .i64 (tg (earT C l w ld fr m) to), .int .i64 0]⟩ ∧ RowL H' u ls H.size ∧ Run l w ld (nxt dn0) (fr, 0) m ls (to, 0) (tg (earT C l w ld fr m) to) ∧ ls.length ≤ 7)))
    (k := 35) (rs := [.tmp 10, .tmp 11, .tmp 12]) rfl fn_38 rfl rfl rfl hL ?_ ?_ ?_
  · simp (disch := (first | (simp only [yk,seval]; done) | omega | (simp only [yz] <;> omega) | fail)) only [↓yp,yq0,yq1,yq2,yq3,yq4,yl,ys0,ys1,seval,zed,zee,zfr,zhw,ysu,yrg,ysv,ysw,ysx,ysz,A_buildSlice st_brS_52_2,A_buildSlice st_brS_52_1]
    rw [c82i (x := fr) (y := to) (m := m) (hs.fr (by (repeat (first | exact Fr.refl _ | assumption | refine Fr.allocd ?_ _ | refine Fr.put ?_ (by first | omega | (simp only [yz] <;> omega)) _)))) hl (by simp (disch := (first | (simp only [yk,seval]; done) | omega | (simp only [yz] <;> omega) | fail)) only [yg,seval]) (by simp (disch := (first | (simp only [yk,seval]; done) | omega | (simp only [yz] <;> omega) | fail)) only [yg,seval])]
    by_cases h0 : asked C l w ld [fr, to] [] [m] = 0
    rotate_left
    · have h0' : decide (asked C l w ld [fr, to] [] [m] = 0) = false := by simpa using h0
      simp (disch := (first | (simp only [yk,seval]; done) | omega | (simp only [yz] <;> omega) | fail)) only [↓yp,yq0,yq1,yq2,yq3,yq4,yl,ys0,ys1,seval,zed,zee,zfr,zhw,ysu,yrg,ysv,ysw,ysx,ysz,h0']
      exact ⟨by (repeat (first | exact Fr.refl _ | assumption | refine Fr.allocd ?_ _ | refine Fr.put ?_ (by first | omega | (simp only [yz] <;> omega)) _)), .inl h0⟩
    have h0' : decide (asked C l w ld [fr, to] [] [m] = 0) = true := by simpa using h0
    obtain ⟨hc, hw, hd, hcs, hss, hms⟩ := asked_ok h0
    have g := good_of hc hd
    have hC := g.hC
    have hfr := hcs fr (by simp)
    have hto := hcs to (by simp)
    have hm := hms m (by simp)
    simp (disch := (first | (simp only [yk,seval]; done) | omega | (simp only [yz] <;> omega) | fail)) only [↓yp,yq0,yq1,yq2,yq3,yq4,yl,ys0,ys1,seval,zed,zee,zfr,zhw,ysu,yrg,ysv,ysw,ysx,ysz,h0']
    refine c83q (hs.fr (by (repeat (first | exact Fr.refl _ | assumption | refine Fr.allocd ?_ _ | refine Fr.put ?_ (by first | omega | (simp only [yz] <;> omega)) _)))).none_len (by (first | omega | (simp only [yz] <;> omega))) (by omega) ?_
    intro b3 H3 fr3
    have f3 := fr3.size
    simp only [zde] at f3
    have fH : Fr H H3 := Fr.trans (by (repeat (first | exact Fr.refl _ | assumption | refine Fr.allocd ?_ _ | refine Fr.put ?_ (by first | omega | (simp only [yz] <;> omega)) _))) fr3
    simp (disch := (first | (simp only [yk,seval]; done) | omega | (simp only [yz] <;> omega) | fail)) only [↓yp,yq0,yq1,yq2,yq3,yq4,yl,ys0,ys1,seval,zed,zee,zfr,zhw,ysu,yrg,ysv,ysw,ysx,ysz]
    refine c92n (hs.fr fH) g hl hm (by omega) (by omega) (by omega) ?_ ?_
    · intro H4 f4 hno q
      have sz4 := f4.size
      simp (disch := (first | (simp only [yk,seval]; done) | omega | (simp only [yz] <;> omega) | fail)) only [↓yp,yq0,yq1,yq2,yq3,yq4,yl,ys0,ys1,seval,zed,zee,zfr,zhw,ysu,yrg,ysv,ysw,ysx,ysz]
      exact ⟨fH.trans f4, .inr (.inl ⟨h0, none_ear g (by omega) hm hto.1 hno⟩)⟩
    · intro q v ls H4 mm f4 hr hrun h7 hcan hle
      have sz4 := f4.size
      simp (disch := (first | (simp only [yk,seval]; done) | omega | (simp only [yz] <;> omega) | fail)) only [↓yp,yq0,yq1,yq2,yq3,yq4,yl,ys0,ys1,seval,zed,zee,zfr,zhw,ysu,yrg,ysv,ysw,ysx,ysz]
      have hmm := least_ear g (by omega) hm hto.1 hcan hle
      have hge := (hcan.le hm.2 g).1
      exact ⟨fH.trans f4, .inr (.inr ⟨h0, by omega, v, ls, by rw [hmm], hr.low (by omega), by rw [hmm]; exact hrun, h7⟩)⟩
  · rintro v H' ⟨f, ⟨h0, rfl⟩ | ⟨h0, h1, rfl⟩ | ⟨h0, h1, u, ls, rfl, h2, h3, h4⟩⟩
    · exact he h0 _ _ f
    · exact hn h0 h1 _ _ f
    · exact hq h0 h1 _ _ _ _ f h2 h3 h4
  · rintro v H' ⟨f, ⟨h0, rfl⟩ | ⟨h0, h1, rfl⟩ | ⟨h0, h1, u, ls, rfl, h2, h3, h4⟩⟩ hg
    · exact he h0 _ _ (Fr.refl H)
    · exact hn h0 h1 _ _ (Fr.refl H)
    · refine hq h0 h1 _ _ _ _ (Fr.refl H) ⟨h2.nil, fun hne => ?_⟩ h3 h4
      obtain ⟨b, al, rfl, -⟩ := h2.cons hne
      cases hg
end
end Go.Am
namespace Go.Am
open Go.Proofs
variable {T : Tab} {P : Program} {N L : Nat} {H : AHeap} {Q : Bool → Value → AHeap → Prop}
theorem lgs_part : ∀ {l : List (Int × Bool)} {i : Nat} {p : Int × Bool}, l[i]? = some p → part (lgs l) (i * 2) 3 = some (.agg ⟨[.int .i64 p.1, .bool p.2]⟩)
  | [], i, s, h => by simp at h
  | t :: l, 0, s, h => by
    simp only [List.getElem?_cons_zero,Option.some.injEq] at h
    subst h
    rfl
  | t :: l, i + 1, s, h => by
    have := lgs_part (l := l) (i := i) (p := s) (by simpa using h)
    rw [← this]
    unfold part
    simp only [lgs,show (i + 1) * 2 = i * 2 + 1 + 1 by omega,List.drop_succ_cons]
section
variable {k13 base : Nat} {v : Value} {ls : List (Int × Bool)} {k : Int}
end
end Go.Am
namespace Go.Am
open Go.Proofs
def bg (R : List Bool) (x : Int) : Bool := R.getD x.toNat false
def visitR (l : List Str) (w ld : Int) : Nat → List Bool → Int → List Bool
  | 0, R, _ => R
  | n + 1, R, x => visits (fun R _ s b => bif bg R (farL s b) then R else visitR l w ld n R (farL s b)) w ld x l 0 (R.set x.toNat true)
theorem bg_set_same {R : List Bool} {x : Int} (h : x.toNat < R.length) : bg (R.set x.toNat true) x = true := by
  unfold bg
  rw [List.getD_eq_getElem?_getD, List.getElem?_set_self h]; rfl
theorem bg_set {R : List Bool} {x y : Int} (h : bg R y = true) : bg (R.set x.toNat true) y = true := by
  unfold bg at h ⊢
  rw [List.getD_eq_getElem?_getD] at h ⊢
  rw [List.getElem?_set]
  split
  · rename_i e
    split
    · rfl
    · rename_i h1
      rw [← e, List.getElem?_eq_none (by omega)] at h
      simp at h
  · exact h
theorem bg_of_set {R : List Bool} {x y : Int} (hx : 0 ≤ x) (hy : 0 ≤ y) (h : bg (R.set x.toNat true) y = true) : y = x ∨ bg R y = true := by
  by_cases e : x.toNat = y.toNat
  · exact .inl (by omega)
  · right
    unfold bg at h ⊢
    rw [List.getD_eq_getElem?_getD] at h ⊢
    rw [List.getElem?_set_ne e] at h
    exact h
theorem count_mono : ∀ {R R' : List Bool}, R.length = R'.length → (∀ k : Nat, R.getD k false = true → R'.getD k false = true) → R'.count false ≤ R.count false
  | [], [], _, _ => Nat.le_refl _
  | a :: R, b :: R', hl, h => by
    have ih := count_mono (R := R) (R' := R') (by simpa using hl) fun k hk => by
      have := h (k + 1) (by simpa [List.getD_eq_getElem?_getD] using hk)
      simpa [List.getD_eq_getElem?_getD] using this
    have h0 := h 0
    simp only [List.getD_eq_getElem?_getD,List.getElem?_cons_zero,Option.getD_some] at h0
    cases a <;> cases b
    · simp only [List.count_cons_self]; omega
    · simp only [List.count_cons_self]
      rw [List.count_cons_of_ne (by decide)]; omega
    · simp at h0
    · rw [List.count_cons_of_ne (by decide), List.count_cons_of_ne (by decide)]; exact ih
theorem count_set : ∀ {R : List Bool} {k : Nat}, k < R.length → R.getD k false = false → (R.set k true).count false + 1 = R.count false
  | [], k, h, _ => by simp at h
  | a :: R, 0, _, h => by
    simp only [List.getD_eq_getElem?_getD,List.getElem?_cons_zero,Option.getD_some] at h
    subst h
    rw [List.set_cons_zero, List.count_cons_self, List.count_cons_of_ne (by decide)]
  | a :: R, k + 1, hk, h => by
    have ih := count_set (R := R) (k := k) (by simpa using hk) (by simpa [List.getD_eq_getElem?_getD] using h)
    rw [List.set_cons_succ]
    cases a
    · simp only [List.count_cons_self]; omega
    · rw [List.count_cons_of_ne (by decide), List.count_cons_of_ne (by decide)]; exact ih
def Cl1 (l : List Str) (w ld : Int) (R : List Bool) (y : Int) : Prop := ∀ (i : Nat) (s : Str) (b : Bool), l[i]? = some s → mayL s b w ld = true → nearL s b = y → bg R (farL s b) = true
section
variable {l : List Str} {C w ld : Int}
theorem Cl1.mono {R R' : List Bool} {y : Int} (h : Cl1 l w ld R y) (hm : ∀ y, bg R y = true → bg R' y = true) : Cl1 l w ld R' y := fun i s b h1 h2 h3 => hm _ (h i s b h1 h2 h3)
theorem far_range (g : Good C l ld) {i : Nat} {s : Str} {b : Bool} (hi : l[i]? = some s) : 0 ≤ farL s b ∧ farL s b < C := by
  have := g.st s (List.mem_of_getElem? hi)
  unfold farL
  cases b
  · exact this.2.1
  · exact this.1
structure VisR (l : List Str) (w ld : Int) (R R' : List Bool) : Prop where
  len : R'.length = R.length
  mono : ∀ y, bg R y = true → bg R' y = true
  new : ∀ y, 0 ≤ y → bg R' y = true → bg R y = false → Cl1 l w ld R' y
theorem visitR_ok (g : Good C l ld) : ∀ (n : Nat) (R : List Bool) (x : Int), R.length = 8 → (0 ≤ x ∧ x < 8) → bg R x = false → R.count false ≤ n → VisR l w ld R (visitR l w ld n R x) ∧ bg (visitR l w ld n R x) x = true
  | 0, R, x, hl, hx, hb, hn => by
    have := count_set (R := R) (k := x.toNat) (by omega) hb
    omega
  | n + 1, R, x, hl, hx, hb, hn => by
    have hcs := count_set (R := R) (k := x.toNat) (by omega) hb
    have hC := g.hC
    have hx0 : bg (R.set x.toNat true) x = true := bg_set_same (by omega)
    have hf : ∀ (st : List Bool) (i : Nat) (s : Str) (b : Bool), VisR l w ld (R.set x.toNat true) st → l[i]? = some s → mayL s b w ld = true → nearL s b = x → VisR l w ld (R.set x.toNat true) (bif bg st (farL s b) then st else visitR l w ld n st (farL s b)) ∧ (∀ y, bg st y = true → bg (bif bg st (farL s b) then st else visitR l w ld n st (farL s b)) y = true) ∧ bg (bif bg st (farL s b) then st else visitR l w ld n st (farL s b)) (farL s b) = true := by
      intro st i s b V hi hm hnr
      cases hg : bg st (farL s b)
      · simp only [cond_false]
        have hr := far_range (b := b) g hi
        have hl2 := V.len
        rw [List.length_set] at hl2
        have hc := count_mono (R := R.set x.toNat true) (R' := st) V.len.symm (fun k hk => by
          have := V.mono (k : Int) (by unfold bg; rw [Int.toNat_natCast]; exact hk)
          unfold bg at this
          rw [Int.toNat_natCast] at this
          exact this)
        obtain ⟨V', h'⟩ := visitR_ok g n st (farL s b) (by omega) (by omega) hg (by omega)
        refine ⟨⟨V'.len.trans V.len, fun y hy => V'.mono _ (V.mono _ hy), fun y h0 hy hn => ?_⟩, V'.mono, h'⟩
        cases hs : bg st y
        · exact V'.new y h0 hy hs
        · exact (V.new y h0 hs hn).mono V'.mono
      · simp only [cond_true]
        exact ⟨V, fun _ h => h, hg⟩
    have V0 : VisR l w ld (R.set x.toNat true) (R.set x.toNat true) := ⟨rfl, fun _ h => h, fun y h0 h1 h2 => by rw [h1] at h2; cases h2⟩
    have VA : VisR l w ld (R.set x.toNat true) (visitR l w ld (n + 1) R x) := by
      unfold visitR
      exact visits_ind (P := VisR l w ld (R.set x.toNat true)) l (fun st i s b h hi hm hnr => (hf st i s b h hi hm hnr).1) l 0 _ (fun j s hj => by simpa using hj) V0
    have hxc : Cl1 l w ld (visitR l w ld (n + 1) R x) x := by
      intro i s b hi hm hnr
      unfold visitR
      exact visits_each (P := VisR l w ld (R.set x.toNat true)) (R := fun st => bg st (farL s b) = true) l (fun st i s b h hi hm hnr => (hf st i s b h hi hm hnr).1)
        (fun st i' s' b' h hr hi' hm' hn' => (hf st i' s' b' h hi' hm' hn').2.1 _ hr) (fun st h => (hf st i s b h hi hm hnr).2.2) hm hnr l 0 _ (fun j s hj => by simpa using hj) (Nat.zero_le _) (by simpa using hi) V0
    refine ⟨⟨by rw [VA.len, List.length_set], fun y hy => VA.mono _ (bg_set hy), fun y h0 hy hn => ?_⟩, VA.mono _ hx0⟩
    cases hs : bg (R.set x.toNat true) y
    · exact VA.new y h0 hy hs
    · rcases bg_of_set hx.1 h0 hs with rfl | h
      · exact hxc
      · rw [h] at hn; cases hn
def noR : List Bool := List.replicate 8 false
theorem noR_bg {y : Int} : bg noR y = false := by
  unfold bg noR
  rw [List.getD_eq_getElem?_getD, List.getElem?_replicate]
  split <;> rfl
theorem reach_closed (g : Good C l ld) {x y : Int} (hx : 0 ≤ x ∧ x < 8) (h0 : 0 ≤ y) (hy : bg (visitR l w ld 8 noR x) y = true) : Cl1 l w ld (visitR l w ld 8 noR x) y :=
  (visitR_ok g 8 noR x rfl hx noR_bg (by decide)).1.new y h0 hy noR_bg
theorem reach_beg (g : Good C l ld) {x : Int} (hx : 0 ≤ x ∧ x < 8) : bg (visitR l w ld 8 noR x) x = true :=
  (visitR_ok g 8 noR x rfl hx noR_bg (by decide)).2
theorem reach_len (g : Good C l ld) {x : Int} (hx : 0 ≤ x ∧ x < 8) : (visitR l w ld 8 noR x).length = 8 :=
  (visitR_ok g 8 noR x rfl hx noR_bg (by decide)).1.len
end
end Go.Am
