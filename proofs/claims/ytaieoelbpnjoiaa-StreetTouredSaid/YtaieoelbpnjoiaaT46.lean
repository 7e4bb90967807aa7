import Derived.Test.YtaieoelbpnjoiaaT40
import Derived.Test.YtaieoelbpnjoiaaT45
import Derived.Test.YtaieoelbpnjoiaaT27
import Derived.Test.YtaieoelbpnjoiaaT38
import Derived.Test.YtaieoelbpnjoiaaT37
set_option linter.unusedSimpArgs false
set_option linter.unusedVariables false
namespace Go.Am
open Go.Proofs
variable {T : Tab} {P : Program} {N L : Nat} {H : AHeap} {Q : Bool → Value → AHeap → Prop}
section
variable {a : Option Addr} {cap i : Nat} {l : List Str} {C w ld m lf : Int} {b : Bool} {s : Str}
end
end Go.Am
namespace Go.Am
open Go.Proofs
variable {T : Tab} {P : Program} {N L : Nat} {H : AHeap} {Q : Bool → Value → AHeap → Prop}
section
variable {a : Option Addr} {cap : Nat} {l : List Str} {C w ld : Int}
theorem c82i {k₁ k₂ : Nat} {x y m : Int} (hs : Sl H a l) (hl : l.length ≤ 18) (h₁ : cellsOf (H.get k₁) = some [.int .i64 x, .int .i64 y]) (h₂ : cellsOf (H.get k₂) = some [.int .i64 m]) :
    acall tabA (aexec tabA Try.prog (N + 400)) 82 [.agg ⟨[.int .i64 C, .slice a l.length cap]⟩, .agg ⟨[.int .i64 w, .int .i64 ld]⟩, .slice (some ⟨k₁, 0, none⟩) 2 2, .slice none 0 0, .slice (some ⟨k₂, 0, none⟩) 1 1] H = some (true, .int .i64 (asked C l w ld [x, y] [] [m]), H, H.size) :=
  c82 (cs := [x, y]) (ss := []) (ms := [m]) (as' := none) (ks := 0) hs hl (Il.two (lt_of_cells h₁) h₁) (by simp) Il.nil (by simp) (Il.one (lt_of_cells h₂) h₂) (by simp)
theorem Grow.il {tb n c el : Nat} {a : Option Addr} {t : List Int} (g : Grow H tb (.slice a n c) n (tv t) el 1) (hn : t.length = n) : Il H a t := by
  by_cases h : n = 0
  · have : t = [] := List.length_eq_zero_iff.1 (by omega)
    subst this
    have e := g.nil h
    cases e
    exact Il.nil
  · obtain ⟨b, al, h1, h2, h3, h4, h5⟩ := g.cons h
    cases h1
    exact Il.of h3 (by rw [h4]; rfl)
end
end Go.Am
namespace Go.Am
open Go.Proofs
variable {T : Tab} {P : Program} {N L : Nat} {H : AHeap} {Q : Bool → Value → AHeap → Prop}
section
variable {l : List Str} {C w ld fr a₀ m to : Int} {x : Stt}
theorem canS_can (h : CanS l w ld (nxt dn0) (fr, 0) a₀ m x) : x.2 = 0 ∧ Can l w ld fr a₀ m x.1 := by
  induction h with
  | start => exact ⟨rfl, .start⟩
  | wait _ hm ih => exact ⟨ih.1, ih.2.wait hm⟩
  | go h hx hi hm hs ih =>
    refine ⟨ih.1, ?_⟩
    have h2 := ih.2
    rw [← hx] at h2
    exact h2.go hi hm hs
theorem can_canS {y : Int} (h : Can l w ld fr a₀ m y) : CanS l w ld (nxt dn0) (fr, 0) a₀ m (y, 0) := by
  induction h with
  | start => exact .start
  | wait _ hm ih => exact ih.wait hm
  | @go m i s b h hi hm hs ih =>
    exact ih.go (b := b) rfl hi hm hs
theorem least_ear (g : Good C l ld) (hfr : 0 ≤ fr ∧ fr < C) (ha : 0 ≤ a₀ ∧ a₀ ≤ 240) (hto : 0 ≤ to) (h : CanS l w ld (nxt dn0) (fr, 0) a₀ m (to, 0)) (hle : ∀ m', CanS l w ld (nxt dn0) (fr, 0) a₀ m' (to, 0) → m ≤ m') : tg (earT C l w ld fr a₀) to = m := by
  have E := earT_is (w := w) g hfr ha
  obtain ⟨h1, h2⟩ := E.le _ _ hto (canS_can h).2
  have h3 := hle _ (can_canS (E.can _ hto h1))
  omega
theorem none_ear (g : Good C l ld) (hfr : 0 ≤ fr ∧ fr < C) (ha : 0 ≤ a₀ ∧ a₀ ≤ 240) (hto : 0 ≤ to) (h : ∀ m, ¬ CanS l w ld (nxt dn0) (fr, 0) a₀ m (to, 0)) : tg (earT C l w ld fr a₀) to = -1 := by
  have E := earT_is (w := w) g hfr ha
  apply Classical.byContradiction
  intro h1
  exact h _ (can_canS (E.can _ hto h1))
end
section
variable {l : List Str} {C w ld fr to m : Int} {a : Option Addr} {cap : Nat}
set_option maxHeartbeats 4000000 in
theorem c38 (hs : Sl H a l) (hl : l.length ≤ 18) (hL : L ≤ H.size) {M : Nat} (hM : 21000 ≤ M)
    (he : asked C l w ld [fr, to] [] [m] ≠ 0 → ∀ q H', Fr H H' → Q q (.tuple ⟨[.slice none 0 0, .int .i64 0, .int .i64 (asked C l w ld [fr, to] [] [m])]⟩) H')
    (hn : asked C l w ld [fr, to] [] [m] = 0 → tg (earT C l w ld fr m) to = -1 → ∀ q H', Fr H H' → Q q (.tuple ⟨[.slice none 0 0, .int .i64 0, .int .i64 1]⟩) H')
    (hq : asked C l w ld [fr, to] [] [m] = 0 → tg (earT C l w ld fr m) to ≠ -1 → ∀ q v ls H', Fr H H' → RowL H' v ls H.size → Run l w ld (nxt dn0) (fr, 0) m ls (to, 0) (tg (earT C l w ld fr m) to) → ls.length ≤ 7 → Q q (.tuple ⟨[v, .int .i64 (tg (earT C l w ld fr m) to), .int .i64 0]⟩) H') :
    resK (acall tabA (aexec tabA Try.prog M) 38 [.agg ⟨[.int .i64 C, .slice a l.length cap]⟩, .agg ⟨[.int .i64 w, .int .i64 ld]⟩, .int .i64 fr, .int .i64 to, .int .i64 m] H) L Q := by
  obtain ⟨N, rfl⟩ : ∃ N, M = N + 21000 := ⟨M - 21000, by omega⟩
  refine call_some (R := fun v H' => Fr H H' ∧ ((asked C l w ld [fr, to] [] [m] ≠ 0 ∧ v = .tuple ⟨[.slice none 0 0, .int .i64 0, .int .i64 (asked C l w ld [fr, to] [] [m])]⟩) ∨ (asked C l w ld [fr, to] [] [m] = 0 ∧ tg (earT C l w ld fr m) to = -1 ∧ v = .tuple ⟨[.slice none 0 0, .int .i64 0, .int .i64 1]⟩) ∨
      (asked C l w ld [fr, to] [] [m] = 0 ∧ tg (earT C l w ld fr m) to ≠ -1 ∧ ∃ u ls, v = .tuple ⟨[u, .int .i64 (tg (earT C l w ld fr m) to), .int .i64 0]⟩ ∧ RowL H' u ls H.size ∧ Run l w ld (nxt dn0) (fr, 0) m ls (to, 0) (tg (earT C l w ld fr m) to) ∧ ls.length ≤ 7)))
    (k := 35) (rs := [.tmp 10, .tmp 11, .tmp 12]) rfl fn_38 rfl rfl rfl hL ?_ ?_ ?_
  · simp (disch := (first | (simp only [yk,seval]; done) | omega | (simp only [yz] <;> omega) | fail)) only [↓yp,yq0,yq1,yq2,yq3,yq4,yl,ys0,ys1,seval,zed,zee,zfr,zhw,ysu,yrg,ysv,ysw,ysx,ysz,A_buildSlice st_brS_52_2,A_buildSlice st_brS_52_1]
    rw [c82i (x := fr) (y := to) (m := m) (hs.fr (by (repeat (first | exact Fr.refl _ | assumption | refine Fr.allocd ?_ _ | refine Fr.put ?_ (by first | omega | (simp only [yz] <;> omega)) _)))) hl (by simp (disch := (first | (simp only [yk,seval]; done) | omega | (simp only [yz] <;> omega) | fail)) only [yg,seval]) (by simp (disch := (first | (simp only [yk,seval]; done) | omega | (simp only [yz] <;> omega) | fail)) only [yg,seval])]
    by_cases h0 : asked C l w ld [fr, to] [] [m] = 0
    rotate_left
    · have h0' : decide (asked C l w ld [fr, to] [] [m] = 0) = false := by simpa using h0
      simp (disch := (first | (simp only [yk,seval]; done) | omega | (simp only [yz] <;> omega) | fail)) only [↓yp,yq0,yq1,yq2,yq3,yq4,yl,ys0,ys1,seval,zed,zee,zfr,zhw,ysu,yrg,ysv,ysw,ysx,ysz,h0']
      exact ⟨by (repeat (first | exact Fr.refl _ | assumption | refine Fr.allocd ?_ _ | refine Fr.put ?_ (by first | omega | (simp only [yz] <;> omega)) _)), .inl h0⟩
    have h0' : decide (asked C l w ld [fr, to] [] [m] = 0) = true := by simpa using h0
    obtain ⟨hc, hw, hd, hcs, hss, hms⟩ := asked_ok h0
    have g := good_of hc hd
    have hC := g.hC
    have hfr := hcs fr (by simp)
    have hto := hcs to (by simp)
    have hm := hms m (by simp)
    simp (disch := (first | (simp only [yk,seval]; done) | omega | (simp only [yz] <;> omega) | fail)) only [↓yp,yq0,yq1,yq2,yq3,yq4,yl,ys0,ys1,seval,zed,zee,zfr,zhw,ysu,yrg,ysv,ysw,ysx,ysz,h0']
    refine c83q (hs.fr (by (repeat (first | exact Fr.refl _ | assumption | refine Fr.allocd ?_ _ | refine Fr.put ?_ (by first | omega | (simp only [yz] <;> omega)) _)))).none_len (by (first | omega | (simp only [yz] <;> omega))) (by omega) ?_
    intro b3 H3 fr3
    have f3 := fr3.size
    simp only [zde] at f3
    have fH : Fr H H3 := Fr.trans (by (repeat (first | exact Fr.refl _ | assumption | refine Fr.allocd ?_ _ | refine Fr.put ?_ (by first | omega | (simp only [yz] <;> omega)) _))) fr3
    simp (disch := (first | (simp only [yk,seval]; done) | omega | (simp only [yz] <;> omega) | fail)) only [↓yp,yq0,yq1,yq2,yq3,yq4,yl,ys0,ys1,seval,zed,zee,zfr,zhw,ysu,yrg,ysv,ysw,ysx,ysz]
    refine c92n (hs.fr fH) g hl hm (by omega) (by omega) (by omega) ?_ ?_
    · intro H4 f4 hno q
      have sz4 := f4.size
      simp (disch := (first | (simp only [yk,seval]; done) | omega | (simp only [yz] <;> omega) | fail)) only [↓yp,yq0,yq1,yq2,yq3,yq4,yl,ys0,ys1,seval,zed,zee,zfr,zhw,ysu,yrg,ysv,ysw,ysx,ysz]
      exact ⟨fH.trans f4, .inr (.inl ⟨h0, none_ear g (by omega) hm hto.1 hno⟩)⟩
    · intro q v ls H4 mm f4 hr hrun h7 hcan hle
      have sz4 := f4.size
      simp (disch := (first | (simp only [yk,seval]; done) | omega | (simp only [yz] <;> omega) | fail)) only [↓yp,yq0,yq1,yq2,yq3,yq4,yl,ys0,ys1,seval,zed,zee,zfr,zhw,ysu,yrg,ysv,ysw,ysx,ysz]
      have hmm := least_ear g (by omega) hm hto.1 hcan hle
      have hge := (hcan.le hm.2 g).1
      exact ⟨fH.trans f4, .inr (.inr ⟨h0, by omega, v, ls, by rw [hmm], hr.low (by omega), by rw [hmm]; exact hrun, h7⟩)⟩
  · rintro v H' ⟨f, ⟨h0, rfl⟩ | ⟨h0, h1, rfl⟩ | ⟨h0, h1, u, ls, rfl, h2, h3, h4⟩⟩
    · exact he h0 _ _ f
    · exact hn h0 h1 _ _ f
    · exact hq h0 h1 _ _ _ _ f h2 h3 h4
  · rintro v H' ⟨f, ⟨h0, rfl⟩ | ⟨h0, h1, rfl⟩ | ⟨h0, h1, u, ls, rfl, h2, h3, h4⟩⟩ hg
    · exact he h0 _ _ (Fr.refl H)
    · exact hn h0 h1 _ _ (Fr.refl H)
    · refine hq h0 h1 _ _ _ _ (Fr.refl H) ⟨h2.nil, fun hne => ?_⟩ h3 h4
      obtain ⟨b, al, rfl, -⟩ := h2.cons hne
      cases hg
end
end Go.Am
namespace Go.Am
open Go.Proofs
variable {T : Tab} {P : Program} {N L : Nat} {H : AHeap} {Q : Bool → Value → AHeap → Prop}
theorem lgs_part : ∀ {l : List (Int × Bool)} {i : Nat} {p : Int × Bool}, l[i]? = some p → part (lgs l) (i * 2) 3 = some (.agg ⟨[.int .i64 p.1, .bool p.2]⟩)
  | [], i, s, h => by simp at h
  | t :: l, 0, s, h => by
    simp only [List.getElem?_cons_zero,Option.some.injEq] at h
    subst h
    rfl
  | t :: l, i + 1, s, h => by
    have := lgs_part (l := l) (i := i) (p := s) (by simpa using h)
    rw [← this]
    unfold part
    simp only [lgs,show (i + 1) * 2 = i * 2 + 1 + 1 by omega,List.drop_succ_cons]
section
variable {k13 base : Nat} {v : Value} {ls : List (Int × Bool)} {k : Int}
end
end Go.Am
namespace Go.Am
open Go.Proofs
def bg (R : List Bool) (x : Int) : Bool := R.getD x.toNat false
def Cl1 (l : List Str) (w ld : Int) (R : List Bool) (y : Int) : Prop := ∀ (i : Nat) (s : Str) (b : Bool), l[i]? = some s → mayL s b w ld = true → nearL s b = y → bg R (farL s b) = true
section
variable {l : List Str} {C w ld : Int}
theorem Cl1.mono {R R' : List Bool} {y : Int} (h : Cl1 l w ld R y) (hm : ∀ y, bg R y = true → bg R' y = true) : Cl1 l w ld R' y := fun i s b h1 h2 h3 => hm _ (h i s b h1 h2 h3)
end
end Go.Am
set_option linter.defProp false
namespace Go.Am
open Go.Proofs
theorem st_apS_72 : apS tabA 72 = some (54, 2, 16) := by kernel_rfl
theorem st_brS_65_0 : brS tabA 65 0 = some (2, 28, []) := by kernel_rfl
theorem st_brS_72_1 : brS tabA 72 1 = some (2, 54, [(.int IntKind.i64 0), (.bool false)]) := by kernel_rfl
theorem st_esS_72 : esS tabA 72 = some 2 := by kernel_rfl
def ysa := (And.intro (And.intro @st_apS_72 @st_brS_65_0) (And.intro @st_brS_72_1 @st_esS_72))
end Go.Am
namespace Go.Am
open Go.Proofs
variable {T : Tab} {P : Program} {N L : Nat} {H : AHeap} {Q : Bool → Value → AHeap → Prop}
section
variable {l : List Str} {C w ld fr wh wn : Int} {i8 i9 k16 c16 : Nat} {a' b2 : Option Addr} {cap' cap2 : Nat} {bs2 : List Int} {H' : AHeap} {e : VT}
end
end Go.Am
namespace Go.Am
open Go.Proofs
variable {T : Tab} {P : Program} {N L : Nat} {H : AHeap} {Q : Bool → Value → AHeap → Prop}
section
variable {l : List Str} {C w ld fr wh wn : Int} {i8 i9 k16 c16 : Nat} {a' b2 : Option Addr} {cap' cap2 : Nat} {bs2 : List Int} {H' : AHeap} {e : VT}
structure Tw (C w ld : Int) (l : List Str) (a' : Option Addr) (cap' : Nat) (fr wh wn : Int) : Prop where
  hC : 2 ≤ C ∧ C ≤ 8
  hl : l.length ≤ 16
  ho : ∀ s ∈ l, OkS C s
  hn : a' = none → cap' = 0
  hw : 1 ≤ w ∧ w ≤ 9
  hd : 0 ≤ ld ∧ ld ≤ 9
  hfr : 0 ≤ fr ∧ fr < C
  hwh : 0 ≤ wh ∧ wh < C
  hwn : 0 ≤ wn ∧ wn ≤ 59
theorem Tw.good (X : Tw C w ld l a' cap' fr wh wn) : Good C l ld := by
  have := X.hC
  have := X.hd
  exact good_of (chk_of (by omega) X.hl X.ho) (off_iff.2 (by omega))
end
end Go.Am
namespace Go.Am
open Go.Proofs
variable {T : Tab} {P : Program} {N L : Nat} {H : AHeap} {Q : Bool → Value → AHeap → Prop}
section
variable {l : List Str} {C w ld fr wh wn : Int} {i8 i9 k16 c16 : Nat} {a' b2 : Option Addr} {cap' cap2 : Nat} {bs2 : List Int} {H' : AHeap} {e : VT}
end
end Go.Am
namespace Go.Am
open Go.Proofs
variable {T : Tab} {P : Program} {N L : Nat} {H : AHeap} {Q : Bool → Value → AHeap → Prop}
section
variable {a b2 : Option Addr} {cap cap2 : Nat} {bs bs2 : List Int}
theorem Bts.fr {H' : AHeap} (h : Bts H a bs) (f : Fr H H') : Bts H' a bs := ⟨fun hn => by
  obtain ⟨b, o, c, h1, h2, h3, h4⟩ := h.row hn
  exact ⟨b, o, c, h1, Nat.lt_of_lt_of_le h2 f.size, by rw [f.same b h2]; exact h3, h4⟩, h.byte, h.len⟩
end
end Go.Am
