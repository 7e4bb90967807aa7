/- Drive: a fastest drive, or none. -/
import Derived.Test.YtbbifibhpbjknaaT46
import Derived.Test.YtbbifibhpbjknaaT47
import Derived.Test.YtbbifibhpbjknaaT41
import Derived.Test.YtbbifibhpbjknaaT40
import Derived.Test.YtbbifibhpbjknaaT38
set_option linter.unusedSimpArgs false
set_option linter.unusedVariables false
namespace Go.Am
open Go.Proofs
variable {T : Tab} {P : Program} {N L : Nat} {H : AHeap} {Q : Bool → Value → AHeap → Prop}
section
variable {l : List Str} {C w ld fr a₀ m to : Int} {x : Stt}
theorem canS_can (h : CanS l w ld (nxt dn0) (fr, 0) a₀ m x) : x.2 = 0 ∧ Can l w ld fr a₀ m x.1 := by
  induction h with
  | start => exact ⟨rfl, .start⟩
  | wait _ hm ih => exact ⟨ih.1, ih.2.wait hm⟩
  | go h hx hi hm hs ih =>
    refine ⟨ih.1, ?_⟩
    have h2 := ih.2
    rw [← hx] at h2
    exact h2.go hi hm hs
theorem can_canS {y : Int} (h : Can l w ld fr a₀ m y) : CanS l w ld (nxt dn0) (fr, 0) a₀ m (y, 0) := by
  induction h with
  | start => exact .start
  | wait _ hm ih => exact ih.wait hm
  | @go m i s b h hi hm hs ih =>
    exact ih.go (b := b) rfl hi hm hs
/-- The least minute is that of the table. -/
theorem least_ear (g : Good C l ld) (hfr : 0 ≤ fr ∧ fr < C) (ha : 0 ≤ a₀ ∧ a₀ ≤ 240) (hto : 0 ≤ to) (h : CanS l w ld (nxt dn0) (fr, 0) a₀ m (to, 0)) (hle : ∀ m', CanS l w ld (nxt dn0) (fr, 0) a₀ m' (to, 0) → m ≤ m') : tg (earT C l w ld fr a₀) to = m := by
  have E := earT_is (w := w) g hfr ha
  obtain ⟨h1, h2⟩ := E.le _ _ hto (canS_can h).2
  have h3 := hle _ (can_canS (E.can _ hto h1))
  omega
theorem none_ear (g : Good C l ld) (hfr : 0 ≤ fr ∧ fr < C) (ha : 0 ≤ a₀ ∧ a₀ ≤ 240) (hto : 0 ≤ to) (h : ∀ m, ¬ CanS l w ld (nxt dn0) (fr, 0) a₀ m (to, 0)) : tg (earT C l w ld fr a₀) to = -1 := by
  have E := earT_is (w := w) g hfr ha
  apply Classical.byContradiction
  intro h1
  exact h _ (can_canS (E.can _ hto h1))
end
section
variable {l : List Str} {C w ld fr to m : Int} {a : Option Addr} {cap : Nat}
set_option maxHeartbeats 4000000 in
theorem c38 (hs : Sl H a l) (hl : l.length ≤ 18) (hL : L ≤ H.size) {M : Nat} (hM : 21000 ≤ M)
    (he : asked C l w ld [fr, to] [] [m] ≠ 0 → ∀ q H', Fr H H' → Q q (.tuple ⟨[.slice none 0 0, .int .i64 0, .int .i64 (asked C l w ld [fr, to] [] [m])]⟩) H')
    (hn : asked C l w ld [fr, to] [] [m] = 0 → tg (earT C l w ld fr m) to = -1 → ∀ q H', Fr H H' → Q q (.tuple ⟨[.slice none 0 0, .int .i64 0, .int .i64 1]⟩) H')
    (hq : asked C l w ld [fr, to] [] [m] = 0 → tg (earT C l w ld fr m) to ≠ -1 → ∀ q v ls H', Fr H H' → RowL H' v ls H.size → Run l w ld (nxt dn0) (fr, 0) m ls (to, 0) (tg (earT C l w ld fr m) to) → Q q (.tuple ⟨[v, .int .i64 (tg (earT C l w ld fr m) to), .int .i64 0]⟩) H') :
    resK (acall tabA (aexec tabA Try.prog M) 38 [.agg ⟨[.int .i64 C, .slice a l.length cap]⟩, .agg ⟨[.int .i64 w, .int .i64 ld]⟩, .int .i64 fr, .int .i64 to, .int .i64 m] H) L Q := by
  obtain ⟨N, rfl⟩ : ∃ N, M = N + 21000 := ⟨M - 21000, by omega⟩
  refine call_some (R := fun v H' => Fr H H' ∧ ((asked C l w ld [fr, to] [] [m] ≠ 0 ∧ v = .tuple ⟨[.slice none 0 0, .int .i64 0, .int .i64 (asked C l w ld [fr, to] [] [m])]⟩) ∨ (asked C l w ld [fr, to] [] [m] = 0 ∧ tg (earT C l w ld fr m) to = -1 ∧ v = .tuple ⟨[.slice none 0 0, .int .i64 0, .int .i64 1]⟩) ∨
      (asked C l w ld [fr, to] [] [m] = 0 ∧ tg (earT C l w ld fr m) to ≠ -1 ∧ ∃ u ls, v = .tuple ⟨[u, .int .i64 (tg (earT C l w ld fr m) to), .int .i64 0]⟩ ∧ RowL H' u ls H.size ∧ Run l w ld (nxt dn0) (fr, 0) m ls (to, 0) (tg (earT C l w ld fr m) to))))
    (k := 35) (rs := [.tmp 10, .tmp 11, .tmp 12]) rfl fn_38 rfl rfl rfl hL ?_ ?_ ?_
  · simp (disch := (first | (simp only [ne_eq,Nat.reduceEqDiff,not_false_eq_true,Nat.reduceLT]; done) | omega | (simp only [yz] <;> omega) | fail)) only [↓yp,yq0,yq1,yq2,yq3,yq4,yl,ys0,ys1,Nat.reduceAdd,Nat.reduceMul,Nat.reduceSub,Nat.reduceBEq,Nat.reduceEqDiff,Nat.reduceLT,Nat.reduceLeDiff,reduceIte,Int.reduceAdd,Int.reduceSub,Int.reduceMul,Int.reduceLT,Int.reduceLE,Int.reduceEq,Int.reduceToNat,Int.reduceNeg,zed,zee,zfr,zhw,ysu,yrg,ysv,ysw,ysx,ysz,A_buildSlice st_brS_52_2,A_buildSlice st_brS_52_1]
    rw [c82i (x := fr) (y := to) (m := m) (hs.fr (by (repeat (first | exact Fr.refl _ | assumption | refine Fr.allocd ?_ _ | refine Fr.kill ?_ (by first | assumption | omega) | refine Fr.put ?_ (by first | omega | (simp only [yz] <;> omega)) _)))) hl (by simp (disch := (first | (simp only [ne_eq,Nat.reduceEqDiff,not_false_eq_true,Nat.reduceLT]; done) | omega | (simp only [yz] <;> omega) | fail)) only [yg,Nat.reduceAdd,Nat.reduceEqDiff,Nat.reduceLT]) (by simp (disch := (first | (simp only [ne_eq,Nat.reduceEqDiff,not_false_eq_true,Nat.reduceLT]; done) | omega | (simp only [yz] <;> omega) | fail)) only [yg,Nat.reduceAdd,Nat.reduceEqDiff,Nat.reduceLT])]
    by_cases h0 : asked C l w ld [fr, to] [] [m] = 0
    rotate_left
    · have h0' : decide (asked C l w ld [fr, to] [] [m] = 0) = false := by simpa using h0
      simp (disch := (first | (simp only [ne_eq,Nat.reduceEqDiff,not_false_eq_true,Nat.reduceLT]; done) | omega | (simp only [yz] <;> omega) | fail)) only [↓yp,yq0,yq1,yq2,yq3,yq4,yl,ys0,ys1,Nat.reduceAdd,Nat.reduceMul,Nat.reduceSub,Nat.reduceBEq,Nat.reduceEqDiff,Nat.reduceLT,Nat.reduceLeDiff,reduceIte,Int.reduceAdd,Int.reduceSub,Int.reduceMul,Int.reduceLT,Int.reduceLE,Int.reduceEq,Int.reduceToNat,Int.reduceNeg,zed,zee,zfr,zhw,ysu,yrg,ysv,ysw,ysx,ysz,h0']
      exact ⟨by (repeat (first | exact Fr.refl _ | assumption | refine Fr.allocd ?_ _ | refine Fr.kill ?_ (by first | assumption | omega) | refine Fr.put ?_ (by first | omega | (simp only [yz] <;> omega)) _)), .inl h0⟩
    have h0' : decide (asked C l w ld [fr, to] [] [m] = 0) = true := by simpa using h0
    obtain ⟨hc, hw, hd, hcs, hss, hms⟩ := asked_ok h0
    have g := good_of hc hd
    have hC := g.hC
    have hfr := hcs fr (by simp)
    have hto := hcs to (by simp)
    have hm := hms m (by simp)
    simp (disch := (first | (simp only [ne_eq,Nat.reduceEqDiff,not_false_eq_true,Nat.reduceLT]; done) | omega | (simp only [yz] <;> omega) | fail)) only [↓yp,yq0,yq1,yq2,yq3,yq4,yl,ys0,ys1,Nat.reduceAdd,Nat.reduceMul,Nat.reduceSub,Nat.reduceBEq,Nat.reduceEqDiff,Nat.reduceLT,Nat.reduceLeDiff,reduceIte,Int.reduceAdd,Int.reduceSub,Int.reduceMul,Int.reduceLT,Int.reduceLE,Int.reduceEq,Int.reduceToNat,Int.reduceNeg,zed,zee,zfr,zhw,ysu,yrg,ysv,ysw,ysx,ysz,h0']
    refine c83q (hs.fr (by (repeat (first | exact Fr.refl _ | assumption | refine Fr.allocd ?_ _ | refine Fr.kill ?_ (by first | assumption | omega) | refine Fr.put ?_ (by first | omega | (simp only [yz] <;> omega)) _)))).none_len (by (first | omega | (simp only [yz] <;> omega))) (by omega) ?_
    intro b3 H3 fr3
    have f3 := fr3.size
    simp only [zde] at f3
    have fH : Fr H H3 := Fr.trans (by (repeat (first | exact Fr.refl _ | assumption | refine Fr.allocd ?_ _ | refine Fr.kill ?_ (by first | assumption | omega) | refine Fr.put ?_ (by first | omega | (simp only [yz] <;> omega)) _))) fr3
    simp (disch := (first | (simp only [ne_eq,Nat.reduceEqDiff,not_false_eq_true,Nat.reduceLT]; done) | omega | (simp only [yz] <;> omega) | fail)) only [↓yp,yq0,yq1,yq2,yq3,yq4,yl,ys0,ys1,Nat.reduceAdd,Nat.reduceMul,Nat.reduceSub,Nat.reduceBEq,Nat.reduceEqDiff,Nat.reduceLT,Nat.reduceLeDiff,reduceIte,Int.reduceAdd,Int.reduceSub,Int.reduceMul,Int.reduceLT,Int.reduceLE,Int.reduceEq,Int.reduceToNat,Int.reduceNeg,zed,zee,zfr,zhw,ysu,yrg,ysv,ysw,ysx,ysz]
    refine c92n (hs.fr fH) g hl hm (by omega) (by omega) (by omega) ?_ ?_
    · intro H4 f4 hno q
      have sz4 := f4.size
      simp (disch := (first | (simp only [ne_eq,Nat.reduceEqDiff,not_false_eq_true,Nat.reduceLT]; done) | omega | (simp only [yz] <;> omega) | fail)) only [↓yp,yq0,yq1,yq2,yq3,yq4,yl,ys0,ys1,Nat.reduceAdd,Nat.reduceMul,Nat.reduceSub,Nat.reduceBEq,Nat.reduceEqDiff,Nat.reduceLT,Nat.reduceLeDiff,reduceIte,Int.reduceAdd,Int.reduceSub,Int.reduceMul,Int.reduceLT,Int.reduceLE,Int.reduceEq,Int.reduceToNat,Int.reduceNeg,zed,zee,zfr,zhw,ysu,yrg,ysv,ysw,ysx,ysz]
      exact ⟨fH.trans f4, .inr (.inl ⟨h0, none_ear g (by omega) hm hto.1 hno⟩)⟩
    · intro q v ls H4 mm f4 hr hrun hcan hle
      have sz4 := f4.size
      simp (disch := (first | (simp only [ne_eq,Nat.reduceEqDiff,not_false_eq_true,Nat.reduceLT]; done) | omega | (simp only [yz] <;> omega) | fail)) only [↓yp,yq0,yq1,yq2,yq3,yq4,yl,ys0,ys1,Nat.reduceAdd,Nat.reduceMul,Nat.reduceSub,Nat.reduceBEq,Nat.reduceEqDiff,Nat.reduceLT,Nat.reduceLeDiff,reduceIte,Int.reduceAdd,Int.reduceSub,Int.reduceMul,Int.reduceLT,Int.reduceLE,Int.reduceEq,Int.reduceToNat,Int.reduceNeg,zed,zee,zfr,zhw,ysu,yrg,ysv,ysw,ysx,ysz]
      have hmm := least_ear g (by omega) hm hto.1 hcan hle
      have hge := (hcan.le hm.2 g).1
      exact ⟨fH.trans f4, .inr (.inr ⟨h0, by omega, v, ls, by rw [hmm], hr.low (by omega), by rw [hmm]; exact hrun⟩)⟩
  · rintro v H' ⟨f, ⟨h0, rfl⟩ | ⟨h0, h1, rfl⟩ | ⟨h0, h1, u, ls, rfl, h2, h3⟩⟩
    · exact he h0 _ _ f
    · exact hn h0 h1 _ _ f
    · exact hq h0 h1 _ _ _ _ f h2 h3
  · rintro v H' ⟨f, ⟨h0, rfl⟩ | ⟨h0, h1, rfl⟩ | ⟨h0, h1, u, ls, rfl, h2, h3⟩⟩ hg
    · exact he h0 _ _ (Fr.refl H)
    · exact hn h0 h1 _ _ (Fr.refl H)
    · refine hq h0 h1 _ _ _ _ (Fr.refl H) ⟨h2.nil, fun hne => ?_⟩ h3
      obtain ⟨b, al, rfl, -⟩ := h2.cons hne
      cases hg
end
end Go.Am
/- Whether a drive takes a street. -/
namespace Go.Am
open Go.Proofs
variable {T : Tab} {P : Program} {N L : Nat} {H : AHeap} {Q : Bool → Value → AHeap → Prop}
theorem lgs_part : ∀ {l : List (Int × Bool)} {i : Nat} {p : Int × Bool}, l[i]? = some p → part (lgs l) (i * 2) 3 = some (.agg ⟨[.int .i64 p.1, .bool p.2]⟩)
  | [], i, s, h => by simp at h
  | t :: l, 0, s, h => by
    simp only [List.getElem?_cons_zero,Option.some.injEq] at h
    subst h
    rfl
  | t :: l, i + 1, s, h => by
    have := lgs_part (l := l) (i := i) (p := s) (by simpa using h)
    rw [← this]
    unfold part
    simp only [lgs,show (i + 1) * 2 = i * 2 + 1 + 1 by omega,List.drop_succ_cons]
section
variable {k13 base : Nat} {v : Value} {ls : List (Int × Bool)} {k : Int}
theorem c71 {i : Int} {b : Bool} (b13 : H.get k13 = .rw [.int .i64 k] 3 false []) (hk : k13 < H.size) :
    acall tabA (aexec tabA Try.prog (N + 40)) 71 [.agg ⟨[.int .i64 i, .bool b]⟩, .pointer (some ⟨k13, 0, none⟩)] H = some (true, .bool (decide (i = k)), H, H.size) := by
  refine call_quiet (k := 8) (rs := [.tmp 3]) rfl fn_71 rfl rfl rfl ?_ rfl
  simp (disch := (first | (simp only [ne_eq,Nat.reduceEqDiff,not_false_eq_true,Nat.reduceLT]; done) | omega | (simp only [yz] <;> omega) | fail)) only [↓yp,yq0,yq1,yq2,yq3,yq4,yl,ys0,ys1,Nat.reduceAdd,Nat.reduceMul,Nat.reduceSub,Nat.reduceBEq,Nat.reduceEqDiff,Nat.reduceLT,Nat.reduceLeDiff,reduceIte,Int.reduceAdd,Int.reduceSub,Int.reduceMul,Int.reduceLT,Int.reduceLE,Int.reduceEq,Int.reduceToNat,Int.reduceNeg,zed,zee,zfr,zhw,ysu,yrg,ysv,ysw,ysx,ysz,b13]
theorem c115 (hr : RowL H v ls base) (hl : ls.length ≤ 300) (b13 : H.get k13 = .rw [.int .i64 k] 3 false []) (hk : k13 < H.size) :
    ∃ r : Int, decide (r ≥ 0) = ls.any (fun p => decide (p.1 = k)) ∧ acall tabA (aexec tabA Try.prog (N + 600)) 115 [v, .func (.func 71) ⟨[]⟩ ⟨[.pointer (some ⟨k13, 0, none⟩)]⟩] H = some (true, .int .i64 r, H, H.size) := by
  obtain ⟨av, cp, rfl, hrow⟩ : ∃ av cp, v = .slice av ls.length cp ∧ (ls ≠ [] → ∃ b, av = some ⟨b, 0, none⟩ ∧ cellsOf (H.get b) = some (lgs ls)) := by
    by_cases hne : ls = []
    · exact ⟨none, 0, by rw [hr.nil hne, hne]; rfl, fun h => absurd hne h⟩
    · obtain ⟨b, al, h1, -, -, -, h5⟩ := hr.cons hne
      exact ⟨_, _, h1, fun _ => ⟨b, rfl, by rw [h5]; rfl⟩⟩
  obtain ⟨r, hr'⟩ : ∃ r : Int, r = (match ls.findIdx? (fun p => decide (p.1 = k)) with | some i => (i : Int) | none => -1) := ⟨_, rfl⟩
  refine ⟨r, ?_, ?_⟩
  · cases h : ls.findIdx? (fun p => decide (p.1 = k)) with
    | none =>
      rw [h] at hr'
      subst hr'
      have h1 := List.findIdx?_eq_none_iff.1 h
      have : ls.any (fun p => decide (p.1 = k)) = false := by
        rw [List.any_eq_false]
        intro x hx
        rw [h1 x hx]
        simp
      rw [this]
      rfl
    | some i =>
      rw [h] at hr'
      subst hr'
      obtain ⟨h1, h2, -⟩ := List.findIdx?_eq_some_iff_getElem.1 h
      have : ls.any (fun p => decide (p.1 = k)) = true := List.any_eq_true.2 ⟨ls[i], List.getElem_mem _, h2⟩
      rw [this]
      simp
  refine call_quiet (k := 19) (rs := [.tmp 4]) rfl fn_115 rfl rfl rfl ?_ rfl
  simp (disch := (first | (simp only [ne_eq,Nat.reduceEqDiff,not_false_eq_true,Nat.reduceLT]; done) | omega | (simp only [yz] <;> omega) | fail)) only [↓yp,yq0,yq1,yq2,yq3,yq4,yl,ys0,ys1,Nat.reduceAdd,Nat.reduceMul,Nat.reduceSub,Nat.reduceBEq,Nat.reduceEqDiff,Nat.reduceLT,Nat.reduceLeDiff,reduceIte,Int.reduceAdd,Int.reduceSub,Int.reduceMul,Int.reduceLT,Int.reduceLE,Int.reduceEq,Int.reduceToNat,Int.reduceNeg,zed,zee,zfr,zhw,ysu,yrg,ysv,ysw,ysx,ysz,lenV_slice st_esS_65]
  refine W_while (n := 19) 120 (fun q e H' => ∃ i : Nat, q = ls.length - i ∧ i ≤ ls.length ∧ gt 19 e 8 = .int .i64 (i : Nat) ∧ gt 19 e 7 = .int .i64 ls.length ∧ gt 19 e 0 = .slice av ls.length cp ∧ gt 19 e 1 = .func (.func 71) ⟨[]⟩ ⟨[.pointer (some ⟨k13, 0, none⟩)]⟩ ∧ H' = H ∧ ∀ j x, j < i → ls[j]? = some x → x.1 ≠ k)
    ?_ 300 ls.length ⟨0, by omega, by omega, by simp (disch := (first | (simp only [ne_eq,Nat.reduceEqDiff,not_false_eq_true,Nat.reduceLT]; done) | omega | (simp only [yz] <;> omega) | fail)) only [yg,Nat.reduceAdd,Nat.reduceEqDiff,Nat.reduceLT]; rfl, by simp (disch := (first | (simp only [ne_eq,Nat.reduceEqDiff,not_false_eq_true,Nat.reduceLT]; done) | omega | (simp only [yz] <;> omega) | fail)) only [yg,Nat.reduceAdd,Nat.reduceEqDiff,Nat.reduceLT], by simp (disch := (first | (simp only [ne_eq,Nat.reduceEqDiff,not_false_eq_true,Nat.reduceLT]; done) | omega | (simp only [yz] <;> omega) | fail)) only [yg,Nat.reduceAdd,Nat.reduceEqDiff,Nat.reduceLT], by simp (disch := (first | (simp only [ne_eq,Nat.reduceEqDiff,not_false_eq_true,Nat.reduceLT]; done) | omega | (simp only [yz] <;> omega) | fail)) only [yg,Nat.reduceAdd,Nat.reduceEqDiff,Nat.reduceLT], rfl, fun j x h => by omega⟩ (by omega) (by omega)
  rintro M q e H' ⟨i, rfl, hi, g8, g7, g0, g1, rfl, hno⟩
  simp (disch := (first | (simp only [ne_eq,Nat.reduceEqDiff,not_false_eq_true,Nat.reduceLT]; done) | omega | (simp only [yz] <;> omega) | fail)) only [↓yp,yq0,yq1,yq2,yq3,yq4,yl,ys0,ys1,Nat.reduceAdd,Nat.reduceMul,Nat.reduceSub,Nat.reduceBEq,Nat.reduceEqDiff,Nat.reduceLT,Nat.reduceLeDiff,reduceIte,Int.reduceAdd,Int.reduceSub,Int.reduceMul,Int.reduceLT,Int.reduceLE,Int.reduceEq,Int.reduceToNat,Int.reduceNeg,zed,zee,zfr,zhw,ysu,yrg,ysv,ysw,ysx,ysz,g8,g7]
  refine ⟨fun hA => ?_, fun hA => ?_⟩
  · have hi' : i < ls.length := by have := of_decide_eq_true hA; omega
    have hne : ls ≠ [] := fun h => by rw [h] at hi'; simp at hi'
    obtain ⟨b, rfl, hc⟩ := hrow hne
    obtain ⟨x, hx⟩ : ∃ x, ls[i]? = some x := ⟨ls[i], by simp [hi']⟩
    have q := lgs_part hx
    have hw2 : w64 ((i : Int) + 1) = ((i + 1 : Nat) : Int) := by rw [w64_of (by omega)]; omega
    cases hD : decide (x.1 = k)
    · simp (disch := (first | (simp only [ne_eq,Nat.reduceEqDiff,not_false_eq_true,Nat.reduceLT]; done) | omega | (simp only [yz] <;> omega) | fail)) only [↓yp,yq0,yq1,yq2,yq3,yq4,yl,ys0,ys1,Nat.reduceAdd,Nat.reduceMul,Nat.reduceSub,Nat.reduceBEq,Nat.reduceEqDiff,Nat.reduceLT,Nat.reduceLeDiff,reduceIte,Int.reduceAdd,Int.reduceSub,Int.reduceMul,Int.reduceLT,Int.reduceLE,Int.reduceEq,Int.reduceToNat,Int.reduceNeg,zed,zee,zfr,zhw,ysu,yrg,ysv,ysw,ysx,ysz,g8,g7,g0,g1,A_indexSlice st_esS_65,hc,q,hw2,zcn,c71 b13 hk,hD]
      refine ⟨ls.length - (i + 1), by omega, i + 1, rfl, by omega, ?_, ?_, ?_, ?_, rfl, fun j y hj hy => ?_⟩
      · simp (disch := (first | (simp only [ne_eq,Nat.reduceEqDiff,not_false_eq_true,Nat.reduceLT]; done) | omega | (simp only [yz] <;> omega) | fail)) only [yg,Nat.reduceAdd,Nat.reduceEqDiff,Nat.reduceLT]
      · simp (disch := (first | (simp only [ne_eq,Nat.reduceEqDiff,not_false_eq_true,Nat.reduceLT]; done) | omega | (simp only [yz] <;> omega) | fail)) only [yg,Nat.reduceAdd,Nat.reduceEqDiff,Nat.reduceLT,g7]
      · simp (disch := (first | (simp only [ne_eq,Nat.reduceEqDiff,not_false_eq_true,Nat.reduceLT]; done) | omega | (simp only [yz] <;> omega) | fail)) only [yg,Nat.reduceAdd,Nat.reduceEqDiff,Nat.reduceLT,g0]
      · simp (disch := (first | (simp only [ne_eq,Nat.reduceEqDiff,not_false_eq_true,Nat.reduceLT]; done) | omega | (simp only [yz] <;> omega) | fail)) only [yg,Nat.reduceAdd,Nat.reduceEqDiff,Nat.reduceLT,g1]
      · by_cases e : j = i
        · subst e
          rw [hx] at hy
          cases hy
          exact of_decide_eq_false hD
        · exact hno j y (by omega) hy
    · have hf : ls.findIdx? (fun p => decide (p.1 = k)) = some i := by
        refine List.findIdx?_eq_some_iff_getElem.2 ⟨hi', ?_, fun j hj => ?_⟩
        · have : ls[i] = x := by rw [List.getElem?_eq_getElem hi'] at hx; exact Option.some.inj hx
          rw [this]; exact hD
        · have := hno j ls[j] hj (by simp [show j < ls.length by omega])
          simpa using this
      rw [hf] at hr'
      subst hr'
      simp (disch := (first | (simp only [ne_eq,Nat.reduceEqDiff,not_false_eq_true,Nat.reduceLT]; done) | omega | (simp only [yz] <;> omega) | fail)) only [↓yp,yq0,yq1,yq2,yq3,yq4,yl,ys0,ys1,Nat.reduceAdd,Nat.reduceMul,Nat.reduceSub,Nat.reduceBEq,Nat.reduceEqDiff,Nat.reduceLT,Nat.reduceLeDiff,reduceIte,Int.reduceAdd,Int.reduceSub,Int.reduceMul,Int.reduceLT,Int.reduceLE,Int.reduceEq,Int.reduceToNat,Int.reduceNeg,zed,zee,zfr,zhw,ysu,yrg,ysv,ysw,ysx,ysz,g8,g7,g0,g1,A_indexSlice st_esS_65,hc,q,zcn,c71 b13 hk,hD]
  · have hi' : i = ls.length := by have := of_decide_eq_false hA; omega
    have hf : ls.findIdx? (fun p => decide (p.1 = k)) = none := by
      refine List.findIdx?_eq_none_iff.2 fun x hx => ?_
      obtain ⟨j, hj⟩ := List.getElem?_of_mem hx
      have := hno j x (by have := (List.getElem?_eq_some_iff.1 hj).1; omega) hj
      simpa using this
    rw [hf] at hr'
    subst hr'
    simp (disch := (first | (simp only [ne_eq,Nat.reduceEqDiff,not_false_eq_true,Nat.reduceLT]; done) | omega | (simp only [yz] <;> omega) | fail)) only [↓yp,yq0,yq1,yq2,yq3,yq4,yl,ys0,ys1,Nat.reduceAdd,Nat.reduceMul,Nat.reduceSub,Nat.reduceBEq,Nat.reduceEqDiff,Nat.reduceLT,Nat.reduceLeDiff,reduceIte,Int.reduceAdd,Int.reduceSub,Int.reduceMul,Int.reduceLT,Int.reduceLE,Int.reduceEq,Int.reduceToNat,Int.reduceNeg,zed,zee,zfr,zhw,ysu,yrg,ysv,ysw,ysx,ysz]
theorem c70 (hr : RowL H v ls base) (hl : ls.length ≤ 300) (b13 : H.get k13 = .rw [.int .i64 k] 3 false []) (hk : k13 < H.size) :
    acall tabA (aexec tabA Try.prog (N + 700)) 70 [v, .func (.func 71) ⟨[]⟩ ⟨[.pointer (some ⟨k13, 0, none⟩)]⟩] H = some (true, .bool (ls.any fun p => decide (p.1 = k)), H, H.size) := by
  refine call_quiet (k := 9) (rs := [.tmp 4]) rfl fn_70 rfl rfl rfl ?_ rfl
  obtain ⟨r, hr', h115⟩ := c115 (N := N + 97) hr hl b13 hk
  rw [show N + 97 + 600 = N + 697 from rfl] at h115
  rw [← hr']
  simp (disch := (first | (simp only [ne_eq,Nat.reduceEqDiff,not_false_eq_true,Nat.reduceLT]; done) | omega | (simp only [yz] <;> omega) | fail)) only [↓yp,yq0,yq1,yq2,yq3,yq4,yl,ys0,ys1,Nat.reduceAdd,Nat.reduceMul,Nat.reduceSub,Nat.reduceBEq,Nat.reduceEqDiff,Nat.reduceLT,Nat.reduceLeDiff,reduceIte,Int.reduceAdd,Int.reduceSub,Int.reduceMul,Int.reduceLT,Int.reduceLE,Int.reduceEq,Int.reduceToNat,Int.reduceNeg,zed,zee,zfr,zhw,ysu,yrg,ysv,ysw,ysx,ysz,h115]
end
end Go.Am
/- A street that a drive does not take may as well be missing. -/
namespace Go.Am
open Go.Proofs
section
variable {l : List Str} {C w ld fr a₀ m to : Int} {k : Nat}
theorem erase_at {i : Nat} {r : Str} (h : l[i]? = some r) (hi : i ≠ k) : ∃ j : Nat, (l.eraseIdx k)[j]? = some r := by
  by_cases hlt : i < k
  · exact ⟨i, by rw [List.getElem?_eraseIdx, if_pos hlt]; exact h⟩
  · exact ⟨i - 1, by rw [List.getElem?_eraseIdx, if_neg (by omega), show i - 1 + 1 = i by omega]; exact h⟩
theorem at_erase {j : Nat} {r : Str} (h : (l.eraseIdx k)[j]? = some r) : ∃ i : Nat, l[i]? = some r := by
  rw [List.getElem?_eraseIdx] at h
  split at h
  · exact ⟨_, h⟩
  · exact ⟨_, h⟩
theorem run_erase (g : Good C (l.eraseIdx k) ld) (h0 : 0 ≤ a₀ ∧ a₀ ≤ 240) {ls : List (Int × Bool)} {x : Stt} (h : Run l w ld (nxt dn0) (fr, 0) a₀ ls x m) (hk : ls.any (fun p => decide (p.1 = (k : Int))) = false) : CanS (l.eraseIdx k) w ld (nxt dn0) (fr, 0) a₀ m x := by
  induction h with
  | nil => exact .start
  | @snoc ls x m i r b hr hi hm hn ha hlt ih =>
    rw [List.any_append, Bool.or_eq_false_iff] at hk
    have h1 := ih hk.1
    have h2 : i ≠ k := by
      intro e
      have := hk.2
      simp [e] at this
    obtain ⟨j, hj⟩ := erase_at (k := k) hi h2
    have := h1.arr (i := j) (s := r) (b := b) g h0.1 h0.2 hn hj hm ha
    exact this
theorem can_erase {y : Int} (h : Can (l.eraseIdx k) w ld fr a₀ m y) : Can l w ld fr a₀ m y := by
  induction h with
  | start => exact .start
  | wait _ hm ih => exact ih.wait hm
  | go h hi hm hs ih =>
    obtain ⟨i, hi'⟩ := at_erase hi
    exact ih.go hi' hm hs
/-- Without the street it is no sooner. -/
theorem ear_erase (g : Good C l ld) (g' : Good C (l.eraseIdx k) ld) (hfr : 0 ≤ fr ∧ fr < C) (ha : 0 ≤ a₀ ∧ a₀ ≤ 240) (hto : 0 ≤ to) (h : tg (earT C (l.eraseIdx k) w ld fr a₀) to ≠ -1) :
    tg (earT C l w ld fr a₀) to ≠ -1 ∧ tg (earT C l w ld fr a₀) to ≤ tg (earT C (l.eraseIdx k) w ld fr a₀) to :=
  (earT_is g hfr ha).le _ _ hto (can_erase ((earT_is g' hfr ha).can _ hto h))
/-- A drive that does not take the street is as fast without it. -/
theorem ear_missed (g' : Good C (l.eraseIdx k) ld) (hfr : 0 ≤ fr ∧ fr < C) (ha : 0 ≤ a₀ ∧ a₀ ≤ 240) (hto : 0 ≤ to) {ls : List (Int × Bool)} (h : Run l w ld (nxt dn0) (fr, 0) a₀ ls (to, 0) m) (hk : ls.any (fun p => decide (p.1 = (k : Int))) = false) :
    tg (earT C (l.eraseIdx k) w ld fr a₀) to ≤ m :=
  ((earT_is g' hfr ha).le _ _ hto (canS_can (run_erase g' ha h hk)).2).2
end
end Go.Am
/- The law StreetWorse: a town that is worse. -/
namespace Go.Am
open Go.Proofs
variable {T : Tab} {P : Program} {N L : Nat} {H : AHeap} {Q : Bool → Value → AHeap → Prop}
section
variable {l : List Str} {C w ld fr m : Int} {i8 i9 k12 c12 k : Nat} {a' : Option Addr} {cap' : Nat} {H' : AHeap} {e : VT}
/-- What the law knows after the minutes are asked for. -/
structure WS (H : AHeap) (C w ld : Int) (l : List Str) (i8 i9 : Nat) (a' : Option Addr) (cap' : Nat) (fr m : Int) (k12 c12 : Nat) (e : VT) (H' : AHeap) : Prop where
  p : LP 183 H C w ld l i8 i9 a' cap' e H'
  g10 : gt 183 e 10 = .int .i64 fr
  g11 : gt 183 e 11 = .int .i64 m
  g12 : gt 183 e 12 = .slice (some ⟨k12, 0, none⟩) C.toNat c12
  l12 : k12 < H'.size
  b12 : H'.get k12 = .rw (tv ((earT C l w ld fr m).take C.toNat)) 3 true []
theorem WS.next {e' : VT} {H'' : AHeap} (I : WS H C w ld l i8 i9 a' cap' fr m k12 c12 e H') (f : Fr H' H'') (h : Keep 183 [8, 9, 10, 11, 12] e e') : WS H C w ld l i8 i9 a' cap' fr m k12 c12 e' H'' where
  p := I.p.next f (fun p hp => h p (by simp at hp ⊢; omega))
  g10 := (h 10 (by simp)).trans I.g10
  g11 := (h 11 (by simp)).trans I.g11
  g12 := (h 12 (by simp)).trans I.g12
  l12 := Nat.lt_of_lt_of_le I.l12 f.size
  b12 := (f.same _ I.l12).trans I.b12
/-- The town that the law made, and what it asks. -/
structure WX (C w ld : Int) (l : List Str) (fr m : Int) : Prop where
  hC : 2 ≤ C ∧ C ≤ 8
  hl : l.length ≤ 16
  ho : ∀ s ∈ l, OkS C s
  hw : 1 ≤ w ∧ w ≤ 5
  hd : 0 ≤ ld ∧ ld ≤ 5
  hfr : 0 ≤ fr ∧ fr < C
  hm : 0 ≤ m ∧ m ≤ 59
theorem WX.good (X : WX C w ld l fr m) : Good C l ld := by
  have := X.hC
  have := X.hd
  exact good_of (chk_of (by omega) X.hl X.ho) (off_iff.2 (by omega))
theorem WX.len (X : WX C w ld l fr m) : ((earT C l w ld fr m).take C.toNat).length = C.toNat := by
  have h1 := X.hC
  have h2 := X.hm
  rw [List.length_take, earT_len X.good X.hfr (by omega)]
  omega
end
end Go.Am
/- The law StreetWorse: one round of the towns that are worse. -/
namespace Go.Am
open Go.Proofs
variable {T : Tab} {P : Program} {N L : Nat} {H : AHeap} {Q : Bool → Value → AHeap → Prop}
section
variable {l : List Str} {C w ld fr m : Int} {i8 i9 k12 c12 k : Nat} {a' : Option Addr} {cap' : Nat} {H' : AHeap} {e : VT}
end
end Go.Am
/- A town without a street, and what Heaviest and Later of the program tell. -/
namespace Go.Am
open Go.Proofs
variable {T : Tab} {P : Program} {N L : Nat} {H : AHeap} {Q : Bool → Value → AHeap → Prop}
section
variable {a : Option Addr} {cap : Nat} {l : List Str} {C w ld : Int}
theorem ok_of_chk (h : chk C l = 0) : ∀ s ∈ l, OkS C s := fun s hs => ⟨(chk_ok h).2.2.1 s hs, (chk_ok h).2.2.2 s hs⟩
theorem chk_erase {i : Nat} (h : chk C l = 0) : chk C (l.eraseIdx i) = 0 := by
  have h1 := off_iff.1 (chk_ok h).1
  have h2 := (chk_ok h).2.1
  have h3 : (l.eraseIdx i).length ≤ l.length := List.length_eraseIdx_le l i
  exact chk_of h1 (by omega) fun s hs => ok_of_chk h s (List.mem_of_mem_eraseIdx hs)
theorem c81g (hs : Sl H a l) (hl : l.length ≤ 18) (hne : l ≠ []) (hL : L ≤ H.size) {M : Nat} (hM : 60 ≤ M)
    (hq : ∀ k H', Fr H H' → H.size ≤ k → k < H'.size → H'.get k = .rw (flat l) 45 true [] → Q false (.slice (some ⟨k, 0, none⟩) l.length (OPEN + 9)) H') : resK (acall tabA (aexec tabA Try.prog M) 81 [.slice a l.length cap] H) L Q := by
  obtain ⟨N, rfl⟩ : ∃ N, M = N + 60 := ⟨M - 60, by omega⟩
  refine call_fls (R := fun v H' => ∃ k, v = .slice (some ⟨k, 0, none⟩) l.length (OPEN + 9) ∧ Fr H H' ∧ H.size ≤ k ∧ k < H'.size ∧ H'.get k = .rw (flat l) 45 true []) (k := 8) (rs := [.tmp 2]) rfl fn_81 rfl rfl rfl hL ?_ ?_ ?_
  · have hpos : 0 < l.length := List.length_pos_iff.2 hne
    obtain ⟨b, o, c, rfl, hb, hc, _⟩ := hs.get hne
    simp (disch := (first | (simp only [ne_eq,Nat.reduceEqDiff,not_false_eq_true,Nat.reduceLT]; done) | omega | (simp only [yz] <;> omega) | fail)) only [↓yp,yq0,yq1,yq2,yq3,yq4,yl,ys0,ys1,Nat.reduceAdd,Nat.reduceMul,Nat.reduceSub,Nat.reduceBEq,Nat.reduceEqDiff,Nat.reduceLT,Nat.reduceLeDiff,reduceIte,Int.reduceAdd,Int.reduceSub,Int.reduceMul,Int.reduceLT,Int.reduceLE,Int.reduceEq,Int.reduceToNat,Int.reduceNeg,zed,zee,zfr,zhw,ysu,yrg,ysv,ysw,ysx,binV_nil_some zio,A_buildSlice st_brS_22_0]
    rw [apK_empty (H := _) (n := l.length) st_apS_22 ((hs.fr (Fr.alloc _ _)).src hne) (by omega) (by omega) (by omega) (one_flat l) (c₀ := []) (by simp (disch := (first | (simp only [ne_eq,Nat.reduceEqDiff,not_false_eq_true,Nat.reduceLT]; done) | omega | (simp only [yz] <;> omega) | fail)) only [yg,Nat.reduceAdd,Nat.reduceEqDiff,Nat.reduceLT])]
    simp (disch := (first | (simp only [ne_eq,Nat.reduceEqDiff,not_false_eq_true,Nat.reduceLT]; done) | omega | (simp only [yz] <;> omega) | fail)) only [↓yp,yq0,yq1,yq2,yq3,yq4,yl,ys0,ys1,Nat.reduceAdd,Nat.reduceMul,Nat.reduceSub,Nat.reduceBEq,Nat.reduceEqDiff,Nat.reduceLT,Nat.reduceLeDiff,reduceIte,Int.reduceAdd,Int.reduceSub,Int.reduceMul,Int.reduceLT,Int.reduceLE,Int.reduceEq,Int.reduceToNat,Int.reduceNeg,zed,zee,zfr,zhw,ysu,yrg,ysv,ysw,ysx]
    exact ⟨_, rfl, by (repeat (first | exact Fr.refl _ | assumption | refine Fr.allocd ?_ _ | refine Fr.kill ?_ (by first | assumption | omega) | refine Fr.put ?_ (by first | omega | (simp only [yz] <;> omega)) _)), by (first | omega | (simp only [yz] <;> omega)), by (first | omega | (simp only [yz] <;> omega)), by simp (disch := (first | (simp only [ne_eq,Nat.reduceEqDiff,not_false_eq_true,Nat.reduceLT]; done) | omega | (simp only [yz] <;> omega) | fail)) only [yg,Nat.reduceAdd,Nat.reduceEqDiff,Nat.reduceLT]⟩
  · rintro v H' ⟨k, rfl, -⟩; rfl
  · rintro v H' ⟨k, rfl, h1, h2, h3, h4⟩
    exact hq _ _ h1 h2 h3 h4
set_option maxHeartbeats 1000000 in
/-- A town without a street. -/
theorem c95 {i : Nat} (hs : Sl H a l) (hl : l.length ≤ 18) (hi : i < l.length) (hL : L ≤ H.size) {M : Nat} (hM : 200 ≤ M)
    (hq : ∀ k H', Fr H H' → H.size ≤ k → k < H'.size → Sl H' (some ⟨k, 0, none⟩) (l.eraseIdx i) → Q false (.agg ⟨[.int .i64 C, .slice (some ⟨k, 0, none⟩) (l.eraseIdx i).length (OPEN + 9)]⟩) H') :
    resK (acall tabA (aexec tabA Try.prog M) 95 [.agg ⟨[.int .i64 C, .slice a l.length cap]⟩, .int .i64 i] H) L Q := by
  obtain ⟨N, rfl⟩ : ∃ N, M = N + 200 := ⟨M - 200, by omega⟩
  have hne : l ≠ [] := fun h => by rw [h] at hi; simp at hi
  have hel : (l.eraseIdx i).length = l.length - 1 := List.length_eraseIdx_of_lt hi
  refine call_fls (R := fun v H' => ∃ k, v = .agg ⟨[.int .i64 C, .slice (some ⟨k, 0, none⟩) (l.eraseIdx i).length (OPEN + 9)]⟩ ∧ Fr H H' ∧ H.size ≤ k ∧ k < H'.size ∧ Sl H' (some ⟨k, 0, none⟩) (l.eraseIdx i)) (k := 17) (rs := [.cell 4 24]) rfl fn_95 rfl rfl rfl hL ?_ ?_ ?_
  · simp (disch := (first | (simp only [ne_eq,Nat.reduceEqDiff,not_false_eq_true,Nat.reduceLT]; done) | omega | (simp only [yz] <;> omega) | fail)) only [↓yp,yq0,yq1,yq2,yq3,yq4,yl,ys0,ys1,Nat.reduceAdd,Nat.reduceMul,Nat.reduceSub,Nat.reduceBEq,Nat.reduceEqDiff,Nat.reduceLT,Nat.reduceLeDiff,reduceIte,Int.reduceAdd,Int.reduceSub,Int.reduceMul,Int.reduceLT,Int.reduceLE,Int.reduceEq,Int.reduceToNat,Int.reduceNeg,zed,zee,zfr,zhw,ysu,yrg,ysv,ysw,ysx]
    refine c81g (hs.fr (by (repeat (first | exact Fr.refl _ | assumption | refine Fr.allocd ?_ _ | refine Fr.kill ?_ (by first | assumption | omega) | refine Fr.put ?_ (by first | omega | (simp only [yz] <;> omega)) _)))) hl hne (by (first | omega | (simp only [yz] <;> omega))) (by omega) ?_
    intro k H1 f1 k1 k2 k3
    have n0 := f1.size
    have ns := f1.same
    simp only [zde] at n0 k1
    have hw : w64 ((i : Int) + 1) = ((i + 1 : Nat) : Int) := by rw [w64_of (by omega)]; omega
    simp (disch := (first | (simp only [ne_eq,Nat.reduceEqDiff,not_false_eq_true,Nat.reduceLT]; done) | omega | (simp only [yz] <;> omega) | fail)) only [↓yp,yq0,yq1,yq2,yq3,yq4,yl,ys0,ys1,Nat.reduceAdd,Nat.reduceMul,Nat.reduceSub,Nat.reduceBEq,Nat.reduceEqDiff,Nat.reduceLT,Nat.reduceLeDiff,reduceIte,Int.reduceAdd,Int.reduceSub,Int.reduceMul,Int.reduceLT,Int.reduceLE,Int.reduceEq,Int.reduceToNat,Int.reduceNeg,zed,zee,zfr,zhw,ysu,yrg,ysv,ysw,ysx,ns]
    refine W_draw [6, 8] rfl (by kernel_rfl) (by kernel_rfl) (by (first | omega | (simp only [yz] <;> omega))) ?_
    simp (disch := (first | (simp only [ne_eq,Nat.reduceEqDiff,not_false_eq_true,Nat.reduceLT]; done) | omega | (simp only [yz] <;> omega) | fail)) only [↓yp,yq0,yq1,yq2,yq3,yq4,yl,ys0,ys1,Nat.reduceAdd,Nat.reduceMul,Nat.reduceSub,Nat.reduceBEq,Nat.reduceEqDiff,Nat.reduceLT,Nat.reduceLeDiff,reduceIte,Int.reduceAdd,Int.reduceSub,Int.reduceMul,Int.reduceLT,Int.reduceLE,Int.reduceEq,Int.reduceToNat,Int.reduceNeg,zed,zee,zfr,zhw,ysu,yrg,ysv,ysw,ysx,ns,hw]
    refine c61 k3 k2 (by omega) hi hl (by omega) ?_
    intro c H2 hc1 hc2 hx hs2 hbk
    have b2 : H2.get H.size = .rw [.int .i64 C, .slice a l.length cap] 24 false [] := by rw [hx.same _ (by omega) (by omega), ns _ (by (first | omega | (simp only [yz] <;> omega)))]; simp (disch := (first | (simp only [ne_eq,Nat.reduceEqDiff,not_false_eq_true,Nat.reduceLT]; done) | omega | (simp only [yz] <;> omega) | fail)) only [yg,Nat.reduceAdd,Nat.reduceEqDiff,Nat.reduceLT]
    have b4 : H2.get (H.size + 1) = .rw [.int .i64 0, .slice none 0 0] 24 false [] := by rw [hx.same _ (by omega) (by omega), ns _ (by (first | omega | (simp only [yz] <;> omega)))]; simp (disch := (first | (simp only [ne_eq,Nat.reduceEqDiff,not_false_eq_true,Nat.reduceLT]; done) | omega | (simp only [yz] <;> omega) | fail)) only [yg,Nat.reduceAdd,Nat.reduceEqDiff,Nat.reduceLT]
    simp (disch := (first | (simp only [ne_eq,Nat.reduceEqDiff,not_false_eq_true,Nat.reduceLT]; done) | omega | (simp only [yz] <;> omega) | fail)) only [↓yp,yq0,yq1,yq2,yq3,yq4,yl,ys0,ys1,Nat.reduceAdd,Nat.reduceMul,Nat.reduceSub,Nat.reduceBEq,Nat.reduceEqDiff,Nat.reduceLT,Nat.reduceLeDiff,reduceIte,Int.reduceAdd,Int.reduceSub,Int.reduceMul,Int.reduceLT,Int.reduceLE,Int.reduceEq,Int.reduceToNat,Int.reduceNeg,zed,zee,zfr,zhw,ysu,yrg,ysv,ysw,ysx,ns,b2,b4,hw,A_build zil]
    have fH : Fr H H2 := hx.above (Fr.trans (by (repeat (first | exact Fr.refl _ | assumption | refine Fr.allocd ?_ _ | refine Fr.kill ?_ (by first | assumption | omega) | refine Fr.put ?_ (by first | omega | (simp only [yz] <;> omega)) _))) f1) (by omega)
    refine ⟨k, by rw [hel], Fr.put fH (by omega) _, by omega, by (first | omega | (simp only [yz] <;> omega)), sl_cut (by (first | omega | (simp only [yz] <;> omega))) (by rw [zdd (by omega), hbk]; rfl) (by rw [hel]; exact hc2)⟩
  · rintro v H' ⟨k, rfl, -⟩; rfl
  · rintro v H' ⟨k, rfl, h1, h2, h3, h4⟩
    exact hq _ _ h1 h2 h3 h4
/-- A question of two corners, a street and a minute. -/
theorem c82h {k₁ k₂ k₃ : Nat} {x y st m : Int} (hs : Sl H a l) (hl : l.length ≤ 18) (h₁ : cellsOf (H.get k₁) = some [.int .i64 x, .int .i64 y]) (h₂ : cellsOf (H.get k₂) = some [.int .i64 st]) (h₃ : cellsOf (H.get k₃) = some [.int .i64 m]) :
    acall tabA (aexec tabA Try.prog (N + 400)) 82 [.agg ⟨[.int .i64 C, .slice a l.length cap]⟩, .agg ⟨[.int .i64 w, .int .i64 ld]⟩, .slice (some ⟨k₁, 0, none⟩) 2 2, .slice (some ⟨k₂, 0, none⟩) 1 1, .slice (some ⟨k₃, 0, none⟩) 1 1] H = some (true, .int .i64 (asked C l w ld [x, y] [st] [m]), H, H.size) :=
  c82 (cs := [x, y]) (ss := [st]) (ms := [m]) hs hl (Il.two (lt_of_cells h₁) h₁) (by simp) (Il.one (lt_of_cells h₂) h₂) (by simp) (Il.one (lt_of_cells h₃) h₃) (by simp)
/-- What Later tells. -/
def lateA (C : Int) (l : List Str) (w ld fr to m st : Int) : Int × Int :=
  if tg (earT C l w ld fr m) to = -1 then (0, 1) else if tg (earT C (l.eraseIdx st.toNat) w ld fr m) to = -1 then (0, 9) else (tg (earT C (l.eraseIdx st.toNat) w ld fr m) to - tg (earT C l w ld fr m) to, 0)
def lateG (C : Int) (l : List Str) (w ld fr to m st : Int) : Int × Int :=
  if asked C l w ld [fr, to] [st] [m] ≠ 0 then (0, asked C l w ld [fr, to] [st] [m]) else lateA C l w ld fr to m st
set_option maxHeartbeats 2000000 in
theorem c46 {fr to m st : Int} (hs : Sl H a l) (hl : l.length ≤ 18) :
    acall tabA (aexec tabA Try.prog (N + 5500)) 46 [.agg ⟨[.int .i64 C, .slice a l.length cap]⟩, .agg ⟨[.int .i64 w, .int .i64 ld]⟩, .int .i64 fr, .int .i64 to, .int .i64 m, .int .i64 st] H = some (true, .tuple ⟨[.int .i64 (lateG C l w ld fr to m st).1, .int .i64 (lateG C l w ld fr to m st).2]⟩, H, H.size) := by
  refine call_quiet (k := 55) (rs := [.tmp 12, .tmp 13]) rfl fn_46 rfl rfl rfl ?_ rfl
  simp (disch := (first | (simp only [ne_eq,Nat.reduceEqDiff,not_false_eq_true,Nat.reduceLT]; done) | omega | (simp only [yz] <;> omega) | fail)) only [↓yp,yq0,yq1,yq2,yq3,yq4,yl,ys0,ys1,Nat.reduceAdd,Nat.reduceMul,Nat.reduceSub,Nat.reduceBEq,Nat.reduceEqDiff,Nat.reduceLT,Nat.reduceLeDiff,reduceIte,Int.reduceAdd,Int.reduceSub,Int.reduceMul,Int.reduceLT,Int.reduceLE,Int.reduceEq,Int.reduceToNat,Int.reduceNeg,zed,zee,zfr,zhw,ysu,yrg,ysv,ysw,ysx,A_buildSlice st_brS_52_2,A_buildSlice st_brS_52_1]
  rw [c82h (x := fr) (y := to) (m := m) (st := st) (hs.fr (by (repeat (first | exact Fr.refl _ | assumption | refine Fr.allocd ?_ _ | refine Fr.kill ?_ (by first | assumption | omega) | refine Fr.put ?_ (by first | omega | (simp only [yz] <;> omega)) _)))) hl (by simp (disch := (first | (simp only [ne_eq,Nat.reduceEqDiff,not_false_eq_true,Nat.reduceLT]; done) | omega | (simp only [yz] <;> omega) | fail)) only [yg,Nat.reduceAdd,Nat.reduceEqDiff,Nat.reduceLT]) (by simp (disch := (first | (simp only [ne_eq,Nat.reduceEqDiff,not_false_eq_true,Nat.reduceLT]; done) | omega | (simp only [yz] <;> omega) | fail)) only [yg,Nat.reduceAdd,Nat.reduceEqDiff,Nat.reduceLT]) (by simp (disch := (first | (simp only [ne_eq,Nat.reduceEqDiff,not_false_eq_true,Nat.reduceLT]; done) | omega | (simp only [yz] <;> omega) | fail)) only [yg,Nat.reduceAdd,Nat.reduceEqDiff,Nat.reduceLT])]
  by_cases h0 : asked C l w ld [fr, to] [st] [m] = 0
  rotate_left
  · have h0' : decide (asked C l w ld [fr, to] [st] [m] = 0) = false := by simpa using h0
    simp (disch := (first | (simp only [ne_eq,Nat.reduceEqDiff,not_false_eq_true,Nat.reduceLT]; done) | omega | (simp only [yz] <;> omega) | fail)) only [↓yp,yq0,yq1,yq2,yq3,yq4,yl,ys0,ys1,Nat.reduceAdd,Nat.reduceMul,Nat.reduceSub,Nat.reduceBEq,Nat.reduceEqDiff,Nat.reduceLT,Nat.reduceLeDiff,reduceIte,Int.reduceAdd,Int.reduceSub,Int.reduceMul,Int.reduceLT,Int.reduceLE,Int.reduceEq,Int.reduceToNat,Int.reduceNeg,zed,zee,zfr,zhw,ysu,yrg,ysv,ysw,ysx,h0',lateG]
    simp [h0]
  have h0' : decide (asked C l w ld [fr, to] [st] [m] = 0) = true := by simpa using h0
  have hv : lateG C l w ld fr to m st = lateA C l w ld fr to m st := by
    unfold lateG
    rw [if_neg (by simpa using h0)]
  rw [hv]
  clear hv
  obtain ⟨hc, hw, hd, hcs, hss, hms⟩ := asked_ok h0
  have g := good_of hc hd
  have hC := g.hC
  have hfr := hcs fr (by simp)
  have hto := hcs to (by simp)
  have hm := hms m (by simp)
  have hst := hss st (by simp)
  obtain ⟨i, rfl⟩ : ∃ i : Nat, st = i := ⟨st.toNat, by omega⟩
  have hi : i < l.length := by omega
  have hc' := chk_erase (i := i) hc
  have g' := good_of hc' hd
  have e8 := earT_ok (w := w) g (fr := fr) (a₀ := m) (by omega) hm
  have hat := tv_at e8.1 (x := to) (by omega)
  have e8' := earT_ok (w := w) g' (fr := fr) (a₀ := m) (by omega) hm
  have hat' := tv_at e8'.1 (x := to) (by omega)
  have hok := e8.2 to
  have hok' := e8'.2 to
  unfold okM at hok hok'
  have h88 := fun (l' : List Str) (a : Option Addr) (cap N : Nat) (H' : AHeap) (g : Good C l' ld) (hs : Sl H' a l') (hl : l'.length ≤ 18) => c88 (N := N) (C := C) (w := w) (cap := cap) (fr := fr) (a₀ := m) g hs hl (by omega) hm
  simp only [jobG] at h88
  simp (disch := (first | (simp only [ne_eq,Nat.reduceEqDiff,not_false_eq_true,Nat.reduceLT]; done) | omega | (simp only [yz] <;> omega) | fail)) only [↓yp,yq0,yq1,yq2,yq3,yq4,yl,ys0,ys1,Nat.reduceAdd,Nat.reduceMul,Nat.reduceSub,Nat.reduceBEq,Nat.reduceEqDiff,Nat.reduceLT,Nat.reduceLeDiff,reduceIte,Int.reduceAdd,Int.reduceSub,Int.reduceMul,Int.reduceLT,Int.reduceLE,Int.reduceEq,Int.reduceToNat,Int.reduceNeg,zed,zee,zfr,zhw,ysu,yrg,ysv,ysw,ysx,h0']
  refine c83q (hs.fr (by (repeat (first | exact Fr.refl _ | assumption | refine Fr.allocd ?_ _ | refine Fr.kill ?_ (by first | assumption | omega) | refine Fr.put ?_ (by first | omega | (simp only [yz] <;> omega)) _)))).none_len (by (first | omega | (simp only [yz] <;> omega))) (by omega) ?_
  intro b3 H3 fr3
  have f3 := fr3.size
  have s3 := fr3.same
  simp only [zde] at f3
  have fH : Fr H H3 := Fr.trans (by (repeat (first | exact Fr.refl _ | assumption | refine Fr.allocd ?_ _ | refine Fr.kill ?_ (by first | assumption | omega) | refine Fr.put ?_ (by first | omega | (simp only [yz] <;> omega)) _))) fr3
  simp (disch := (first | (simp only [ne_eq,Nat.reduceEqDiff,not_false_eq_true,Nat.reduceLT]; done) | omega | (simp only [yz] <;> omega) | fail)) only [↓yp,yq0,yq1,yq2,yq3,yq4,yl,ys0,ys1,Nat.reduceAdd,Nat.reduceMul,Nat.reduceSub,Nat.reduceBEq,Nat.reduceEqDiff,Nat.reduceLT,Nat.reduceLeDiff,reduceIte,Int.reduceAdd,Int.reduceSub,Int.reduceMul,Int.reduceLT,Int.reduceLE,Int.reduceEq,Int.reduceToNat,Int.reduceNeg,zed,zee,zfr,zhw,ysu,yrg,ysv,ysw,ysx,jobV]
  rw [h88 _ _ _ _ _ g (hs.fr fH) hl]
  simp (disch := (first | (simp only [ne_eq,Nat.reduceEqDiff,not_false_eq_true,Nat.reduceLT]; done) | omega | (simp only [yz] <;> omega) | fail)) only [↓yp,yq0,yq1,yq2,yq3,yq4,yl,ys0,ys1,Nat.reduceAdd,Nat.reduceMul,Nat.reduceSub,Nat.reduceBEq,Nat.reduceEqDiff,Nat.reduceLT,Nat.reduceLeDiff,reduceIte,Int.reduceAdd,Int.reduceSub,Int.reduceMul,Int.reduceLT,Int.reduceLE,Int.reduceEq,Int.reduceToNat,Int.reduceNeg,zed,zee,zfr,zhw,ysu,yrg,ysv,ysw,ysx]
  refine A_index_of (k := .i64) (i := to) (cs := tv (earT C l w ld fr m)) (v := .int .i64 (tg (earT C l w ld fr m) to)) st_ixV_130 (by simp (disch := (first | (simp only [ne_eq,Nat.reduceEqDiff,not_false_eq_true,Nat.reduceLT]; done) | omega | (simp only [yz] <;> omega) | fail)) only [↓yp,yq0,yq1,yq2,yq3,yq4,yl,ys0,ys1,Nat.reduceAdd,Nat.reduceMul,Nat.reduceSub,Nat.reduceBEq,Nat.reduceEqDiff,Nat.reduceLT,Nat.reduceLeDiff,reduceIte,Int.reduceAdd,Int.reduceSub,Int.reduceMul,Int.reduceLT,Int.reduceLE,Int.reduceEq,Int.reduceToNat,Int.reduceNeg,zed,zee,zfr,zhw,ysu,yrg,ysv,ysw,ysx]) (by simp (disch := (first | (simp only [ne_eq,Nat.reduceEqDiff,not_false_eq_true,Nat.reduceLT]; done) | omega | (simp only [yz] <;> omega) | fail)) only [↓yp,yq0,yq1,yq2,yq3,yq4,yl,ys0,ys1,Nat.reduceAdd,Nat.reduceMul,Nat.reduceSub,Nat.reduceBEq,Nat.reduceEqDiff,Nat.reduceLT,Nat.reduceLeDiff,reduceIte,Int.reduceAdd,Int.reduceSub,Int.reduceMul,Int.reduceLT,Int.reduceLE,Int.reduceEq,Int.reduceToNat,Int.reduceNeg,zed,zee,zfr,zhw,ysu,yrg,ysv,ysw,ysx]) ⟨by omega, by omega⟩ (by rw [zdj, Nat.mul_one]; exact hat) (by omega) ?_
  simp (disch := (first | (simp only [ne_eq,Nat.reduceEqDiff,not_false_eq_true,Nat.reduceLT]; done) | omega | (simp only [yz] <;> omega) | fail)) only [↓yp,yq0,yq1,yq2,yq3,yq4,yl,ys0,ys1,Nat.reduceAdd,Nat.reduceMul,Nat.reduceSub,Nat.reduceBEq,Nat.reduceEqDiff,Nat.reduceLT,Nat.reduceLeDiff,reduceIte,Int.reduceAdd,Int.reduceSub,Int.reduceMul,Int.reduceLT,Int.reduceLE,Int.reduceEq,Int.reduceToNat,Int.reduceNeg,zed,zee,zfr,zhw,ysu,yrg,ysv,ysw,ysx]
  refine ⟨fun hA => ?_, fun hA => ?_⟩
  · have hA' := of_decide_eq_true hA
    simp (disch := (first | (simp only [ne_eq,Nat.reduceEqDiff,not_false_eq_true,Nat.reduceLT]; done) | omega | (simp only [yz] <;> omega) | fail)) only [↓yp,yq0,yq1,yq2,yq3,yq4,yl,ys0,ys1,Nat.reduceAdd,Nat.reduceMul,Nat.reduceSub,Nat.reduceBEq,Nat.reduceEqDiff,Nat.reduceLT,Nat.reduceLeDiff,reduceIte,Int.reduceAdd,Int.reduceSub,Int.reduceMul,Int.reduceLT,Int.reduceLE,Int.reduceEq,Int.reduceToNat,Int.reduceNeg,zed,zee,zfr,zhw,ysu,yrg,ysv,ysw,ysx,lateA,hA',if_true]
  have hA' := of_decide_eq_false hA
  simp (disch := (first | (simp only [ne_eq,Nat.reduceEqDiff,not_false_eq_true,Nat.reduceLT]; done) | omega | (simp only [yz] <;> omega) | fail)) only [↓yp,yq0,yq1,yq2,yq3,yq4,yl,ys0,ys1,Nat.reduceAdd,Nat.reduceMul,Nat.reduceSub,Nat.reduceBEq,Nat.reduceEqDiff,Nat.reduceLT,Nat.reduceLeDiff,reduceIte,Int.reduceAdd,Int.reduceSub,Int.reduceMul,Int.reduceLT,Int.reduceLE,Int.reduceEq,Int.reduceToNat,Int.reduceNeg,zed,zee,zfr,zhw,ysu,yrg,ysv,ysw,ysx]
  refine W_drawR (pl := []) [2, 4] [(7, 0), (7, 1), (9, 0), (9, 1)] (planB_of rfl (by decide) (by decide) rfl) (by kernel_rfl) (by kernel_rfl) (by kernel_rfl) (by (first | omega | (simp only [yz] <;> omega))) ?_
  simp (disch := (first | (simp only [ne_eq,Nat.reduceEqDiff,not_false_eq_true,Nat.reduceLT]; done) | omega | (simp only [yz] <;> omega) | fail)) only [↓yp,yq0,yq1,yq2,yq3,yq4,yl,ys0,ys1,Nat.reduceAdd,Nat.reduceMul,Nat.reduceSub,Nat.reduceBEq,Nat.reduceEqDiff,Nat.reduceLT,Nat.reduceLeDiff,reduceIte,Int.reduceAdd,Int.reduceSub,Int.reduceMul,Int.reduceLT,Int.reduceLE,Int.reduceEq,Int.reduceToNat,Int.reduceNeg,zed,zee,zfr,zhw,ysu,yrg,ysv,ysw,ysx,s3]
  refine c95 (hs.fr fH) hl hi (by (first | omega | (simp only [yz] <;> omega))) (by omega) ?_
  intro k H4 f4 k1 k2 sl4
  have n4 := f4.size
  have s4 := f4.same
  simp (disch := (first | (simp only [ne_eq,Nat.reduceEqDiff,not_false_eq_true,Nat.reduceLT]; done) | omega | (simp only [yz] <;> omega) | fail)) only [↓yp,yq0,yq1,yq2,yq3,yq4,yl,ys0,ys1,Nat.reduceAdd,Nat.reduceMul,Nat.reduceSub,Nat.reduceBEq,Nat.reduceEqDiff,Nat.reduceLT,Nat.reduceLeDiff,reduceIte,Int.reduceAdd,Int.reduceSub,Int.reduceMul,Int.reduceLT,Int.reduceLE,Int.reduceEq,Int.reduceToNat,Int.reduceNeg,zed,zee,zfr,zhw,ysu,yrg,ysv,ysw,ysx,s3,s4,c83s,jobV]
  rw [h88 _ _ _ _ _ g' (sl4.fr (by (repeat (first | exact Fr.refl _ | assumption | refine Fr.allocd ?_ _ | refine Fr.kill ?_ (by first | assumption | omega) | refine Fr.put ?_ (by first | omega | (simp only [yz] <;> omega)) _)))) (by have := List.length_eraseIdx_le l i; omega)]
  simp (disch := (first | (simp only [ne_eq,Nat.reduceEqDiff,not_false_eq_true,Nat.reduceLT]; done) | omega | (simp only [yz] <;> omega) | fail)) only [↓yp,yq0,yq1,yq2,yq3,yq4,yl,ys0,ys1,Nat.reduceAdd,Nat.reduceMul,Nat.reduceSub,Nat.reduceBEq,Nat.reduceEqDiff,Nat.reduceLT,Nat.reduceLeDiff,reduceIte,Int.reduceAdd,Int.reduceSub,Int.reduceMul,Int.reduceLT,Int.reduceLE,Int.reduceEq,Int.reduceToNat,Int.reduceNeg,zed,zee,zfr,zhw,ysu,yrg,ysv,ysw,ysx]
  refine A_index_of (k := .i64) (i := to) (cs := tv (earT C (l.eraseIdx i) w ld fr m)) (v := .int .i64 (tg (earT C (l.eraseIdx i) w ld fr m) to)) st_ixV_130 (by simp (disch := (first | (simp only [ne_eq,Nat.reduceEqDiff,not_false_eq_true,Nat.reduceLT]; done) | omega | (simp only [yz] <;> omega) | fail)) only [↓yp,yq0,yq1,yq2,yq3,yq4,yl,ys0,ys1,Nat.reduceAdd,Nat.reduceMul,Nat.reduceSub,Nat.reduceBEq,Nat.reduceEqDiff,Nat.reduceLT,Nat.reduceLeDiff,reduceIte,Int.reduceAdd,Int.reduceSub,Int.reduceMul,Int.reduceLT,Int.reduceLE,Int.reduceEq,Int.reduceToNat,Int.reduceNeg,zed,zee,zfr,zhw,ysu,yrg,ysv,ysw,ysx]) (by simp (disch := (first | (simp only [ne_eq,Nat.reduceEqDiff,not_false_eq_true,Nat.reduceLT]; done) | omega | (simp only [yz] <;> omega) | fail)) only [↓yp,yq0,yq1,yq2,yq3,yq4,yl,ys0,ys1,Nat.reduceAdd,Nat.reduceMul,Nat.reduceSub,Nat.reduceBEq,Nat.reduceEqDiff,Nat.reduceLT,Nat.reduceLeDiff,reduceIte,Int.reduceAdd,Int.reduceSub,Int.reduceMul,Int.reduceLT,Int.reduceLE,Int.reduceEq,Int.reduceToNat,Int.reduceNeg,zed,zee,zfr,zhw,ysu,yrg,ysv,ysw,ysx]) ⟨by omega, by omega⟩ (by rw [zdj, Nat.mul_one]; exact hat') (by (first | omega | (simp only [yz] <;> omega))) ?_
  simp (disch := (first | (simp only [ne_eq,Nat.reduceEqDiff,not_false_eq_true,Nat.reduceLT]; done) | omega | (simp only [yz] <;> omega) | fail)) only [↓yp,yq0,yq1,yq2,yq3,yq4,yl,ys0,ys1,Nat.reduceAdd,Nat.reduceMul,Nat.reduceSub,Nat.reduceBEq,Nat.reduceEqDiff,Nat.reduceLT,Nat.reduceLeDiff,reduceIte,Int.reduceAdd,Int.reduceSub,Int.reduceMul,Int.reduceLT,Int.reduceLE,Int.reduceEq,Int.reduceToNat,Int.reduceNeg,zed,zee,zfr,zhw,ysu,yrg,ysv,ysw,ysx,s3,s4]
  rw [h88 _ _ _ _ _ g' (sl4.fr (by (repeat (first | exact Fr.refl _ | assumption | refine Fr.allocd ?_ _ | refine Fr.kill ?_ (by first | assumption | omega) | refine Fr.put ?_ (by first | omega | (simp only [yz] <;> omega)) _)))) (by have := List.length_eraseIdx_le l i; omega)]
  simp (disch := (first | (simp only [ne_eq,Nat.reduceEqDiff,not_false_eq_true,Nat.reduceLT]; done) | omega | (simp only [yz] <;> omega) | fail)) only [↓yp,yq0,yq1,yq2,yq3,yq4,yl,ys0,ys1,Nat.reduceAdd,Nat.reduceMul,Nat.reduceSub,Nat.reduceBEq,Nat.reduceEqDiff,Nat.reduceLT,Nat.reduceLeDiff,reduceIte,Int.reduceAdd,Int.reduceSub,Int.reduceMul,Int.reduceLT,Int.reduceLE,Int.reduceEq,Int.reduceToNat,Int.reduceNeg,zed,zee,zfr,zhw,ysu,yrg,ysv,ysw,ysx]
  refine ⟨A_index_of (k := .i64) (i := to) (cs := tv (earT C (l.eraseIdx i) w ld fr m)) (v := .int .i64 (tg (earT C (l.eraseIdx i) w ld fr m) to)) st_ixV_130 (by simp (disch := (first | (simp only [ne_eq,Nat.reduceEqDiff,not_false_eq_true,Nat.reduceLT]; done) | omega | (simp only [yz] <;> omega) | fail)) only [↓yp,yq0,yq1,yq2,yq3,yq4,yl,ys0,ys1,Nat.reduceAdd,Nat.reduceMul,Nat.reduceSub,Nat.reduceBEq,Nat.reduceEqDiff,Nat.reduceLT,Nat.reduceLeDiff,reduceIte,Int.reduceAdd,Int.reduceSub,Int.reduceMul,Int.reduceLT,Int.reduceLE,Int.reduceEq,Int.reduceToNat,Int.reduceNeg,zed,zee,zfr,zhw,ysu,yrg,ysv,ysw,ysx]) (by simp (disch := (first | (simp only [ne_eq,Nat.reduceEqDiff,not_false_eq_true,Nat.reduceLT]; done) | omega | (simp only [yz] <;> omega) | fail)) only [↓yp,yq0,yq1,yq2,yq3,yq4,yl,ys0,ys1,Nat.reduceAdd,Nat.reduceMul,Nat.reduceSub,Nat.reduceBEq,Nat.reduceEqDiff,Nat.reduceLT,Nat.reduceLeDiff,reduceIte,Int.reduceAdd,Int.reduceSub,Int.reduceMul,Int.reduceLT,Int.reduceLE,Int.reduceEq,Int.reduceToNat,Int.reduceNeg,zed,zee,zfr,zhw,ysu,yrg,ysv,ysw,ysx]) ⟨by omega, by omega⟩ (by rw [zdj, Nat.mul_one]; exact hat') (by omega) ?_, ?_⟩
  · exact ⟨rfl, rfl⟩
  · have hw3 : w64 (tg (earT C (l.eraseIdx i) w ld fr m) to - tg (earT C l w ld fr m) to) = tg (earT C (l.eraseIdx i) w ld fr m) to - tg (earT C l w ld fr m) to := w64_of (by omega)
    have hla : lateA C l w ld fr to m i = if tg (earT C (l.eraseIdx i) w ld fr m) to = -1 then (0, 9) else (tg (earT C (l.eraseIdx i) w ld fr m) to - tg (earT C l w ld fr m) to, 0) := by
      unfold lateA
      rw [Int.toNat_natCast, if_neg hA']
    rw [hla]
    refine ⟨fun hB => ?_, fun hB => ?_⟩
    · rw [if_pos (of_decide_eq_true hB)]
      simp (disch := (first | (simp only [ne_eq,Nat.reduceEqDiff,not_false_eq_true,Nat.reduceLT]; done) | omega | (simp only [yz] <;> omega) | fail)) only [↓yp,yq0,yq1,yq2,yq3,yq4,yl,ys0,ys1,Nat.reduceAdd,Nat.reduceMul,Nat.reduceSub,Nat.reduceBEq,Nat.reduceEqDiff,Nat.reduceLT,Nat.reduceLeDiff,reduceIte,Int.reduceAdd,Int.reduceSub,Int.reduceMul,Int.reduceLT,Int.reduceLE,Int.reduceEq,Int.reduceToNat,Int.reduceNeg,zed,zee,zfr,zhw,ysu,yrg,ysv,ysw,ysx]
    · rw [if_neg (of_decide_eq_false hB)]
      simp (disch := (first | (simp only [ne_eq,Nat.reduceEqDiff,not_false_eq_true,Nat.reduceLT]; done) | omega | (simp only [yz] <;> omega) | fail)) only [↓yp,yq0,yq1,yq2,yq3,yq4,yl,ys0,ys1,Nat.reduceAdd,Nat.reduceMul,Nat.reduceSub,Nat.reduceBEq,Nat.reduceEqDiff,Nat.reduceLT,Nat.reduceLeDiff,reduceIte,Int.reduceAdd,Int.reduceSub,Int.reduceMul,Int.reduceLT,Int.reduceLE,Int.reduceEq,Int.reduceToNat,Int.reduceNeg,zed,zee,zfr,zhw,ysu,yrg,ysv,ysw,ysx,hw3]
end
end Go.Am
