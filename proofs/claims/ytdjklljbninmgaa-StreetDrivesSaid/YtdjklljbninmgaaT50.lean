/- Rows of legs: copied, compared, and made those of the reference. -/
import Derived.Test.YtdjklljbninmgaaT48
import Derived.Test.YtdjklljbninmgaaT44
import Derived.Test.YtdjklljbninmgaaT32
set_option linter.unusedSimpArgs false
set_option linter.unusedVariables false
namespace Go.Am
open Go.Proofs
variable {T : Tab} {P : Program} {N L : Nat} {H : AHeap} {Q : Bool → Value → AHeap → Prop}
theorem lg_row : ∀ {ls : List (Int × Bool)} {c : List Value} {o : Nat}, (∀ i p, ls[i]? = some p → part c (o + i * 2) 3 = some (.agg ⟨[.int .i64 p.1, .bool p.2]⟩)) → (c.drop o).take (ls.length * 2) = lgs ls
  | [], c, o, _ => by simp [lgs]
  | p :: ls, c, o, h => by
    have h0 := (part_row (h 0 p rfl)).1
    simp only [Nat.zero_mul,Nat.add_zero] at h0
    have ih := lg_row (ls := ls) (c := c) (o := o + 2) fun i q hi => by
      have := h (i + 1) q (by simpa using hi)
      rwa [show o + (i + 1) * 2 = o + 2 + i * 2 by omega] at this
    rw [List.length_cons, show (ls.length + 1) * 2 = 2 + ls.length * 2 by omega, List.take_add, h0, List.drop_drop, ih]
    rfl
theorem Lg.src {ls : List (Int × Bool)} {b o : Nat} (h : Lg H (some ⟨b, o, none⟩) ls) (hne : ls ≠ []) : srcCells H ⟨b, o, none⟩ (ls.length * 2) = some (lgs ls) := by
  obtain ⟨b', o', c', h1, h2, h3, h4⟩ := h.get hne
  cases h1
  unfold srcCells
  rw [h3]
  simp only [lg_row h4,lgs_len,show Nat.beq (ls.length * 2) (ls.length * 2) = true by simp,cond_true]
theorem one_lgs : ∀ l, oneCells (lgs l) = true
  | [] => rfl
  | p :: l => by
    have := one_lgs l
    simp only [lgs]
    exact this
section
variable {a a' : Option Addr} {cap cap' : Nat} {ls : List (Int × Bool)}
/-- Copy, of legs. -/
theorem c37n : acall tabA (aexec tabA Try.prog (N + 60)) 37 [.slice a 0 cap] H = some (true, .slice none 0 0, H, H.size) := by
  refine call_quiet (k := 9) (rs := [.tmp 2]) rfl fn_37 rfl rfl rfl ?_ rfl
  simp (disch := (first | (simp only [yk,seval]; done) | omega | (simp only [yz] <;> omega) | fail)) only [↓yp,yq0,yq1,yq2,yq3,yq4,yl,ys0,ys1,seval,zed,zee,zfr,zhw,ysu,yrg,ysv,ysw,ysx,ysz,ysa,lenV_slice st_esS_65,Int.natCast_zero]
theorem c37 (hs : Lg H a ls) (hne : ls ≠ []) (hl : ls.length ≤ 65) (hL : L ≤ H.size) {M : Nat} (hM : 60 ≤ M)
    (hq : ∀ k cap' H', Fr H H' → H.size ≤ k → k < H'.size → H'.get k = .rw (lgs ls) 28 true [] → Q false (.slice (some ⟨k, 0, none⟩) ls.length cap') H') : resK (acall tabA (aexec tabA Try.prog M) 37 [.slice a ls.length cap] H) L Q := by
  obtain ⟨N, rfl⟩ : ∃ N, M = N + 60 := ⟨M - 60, by omega⟩
  obtain ⟨b, o, c, rfl, -⟩ := hs.get hne
  refine call_fls (R := fun v H' => ∃ k cap', v = .slice (some ⟨k, 0, none⟩) ls.length cap' ∧ Fr H H' ∧ H.size ≤ k ∧ k < H'.size ∧ H'.get k = .rw (lgs ls) 28 true []) (k := 9) (rs := [.tmp 2]) rfl fn_37 rfl rfl rfl hL ?_ ?_ ?_
  · have hpos : 0 < ls.length := List.length_pos_iff.2 hne
    have h0 : decide ((ls.length : Int) = 0) = false := by simp; omega
    simp (disch := (first | (simp only [yk,seval]; done) | omega | (simp only [yz] <;> omega) | fail)) only [↓yp,yq0,yq1,yq2,yq3,yq4,yl,ys0,ys1,seval,zed,zee,zfr,zhw,ysu,yrg,ysv,ysw,ysx,ysz,ysa,lenV_slice st_esS_65,h0,A_buildSlice st_brS_65_0]
    rw [apK_empty (H := _) (n := ls.length) st_apS_65 ((hs.fr (Fr.alloc _ _)).src hne) hpos (by omega) (by omega) (one_lgs ls) (c₀ := []) (by simp (disch := (first | (simp only [yk,seval]; done) | omega | (simp only [yz] <;> omega) | fail)) only [yg,Nat.reduceAdd,Nat.reduceEqDiff,Nat.reduceLT])]
    simp (disch := (first | (simp only [yk,seval]; done) | omega | (simp only [yz] <;> omega) | fail)) only [↓yp,yq0,yq1,yq2,yq3,yq4,yl,ys0,ys1,seval,zed,zee,zfr,zhw,ysu,yrg,ysv,ysw,ysx,ysz,ysa]
    exact ⟨_, _, rfl, by (repeat (first | exact Fr.refl _ | assumption | refine Fr.allocd ?_ _ | refine Fr.kill ?_ (by first | assumption | omega) | refine Fr.put ?_ (by first | omega | (simp only [yz] <;> omega)) _)), by (first | omega | (simp only [yz] <;> omega)), by (first | omega | (simp only [yz] <;> omega)), by simp (disch := (first | (simp only [yk,seval]; done) | omega | (simp only [yz] <;> omega) | fail)) only [yg,Nat.reduceAdd,Nat.reduceEqDiff,Nat.reduceLT]⟩
  · rintro v H' ⟨k, cap', rfl, -⟩; rfl
  · rintro v H' ⟨k, cap', rfl, h1, h2, h3, h4⟩
    exact hq _ _ _ h1 h2 h3 h4
theorem prB {n : Nat} {a b : Bool} : pureRun Try.prog (Op.equalIn (n + 1) 4 (.bool a) (.bool b)) = some (a == b) := by cases a <;> cases b <;> kernel_rfl
theorem prP28 {c : Int} {d : Bool} : pureRun Try.prog (Go.part 3 ⟨[.int .i64 c, .bool d]⟩ 0) = some (.int .i64 c) := by kernel_rfl
theorem prQ28 {c : Int} {d : Bool} : pureRun Try.prog (Go.part 4 ⟨[.int .i64 c, .bool d]⟩ 1) = some (.bool d) := by kernel_rfl
theorem prS28 : Try.prog.stoodInHeld 28 = false := by kernel_rfl
theorem prH28 : pureRun Try.prog (underlying 28) = some (.struct #[{ name := "Street", type := 3, offset := 0, embedded := false, tag := "", pkgPath := "", byteOffset := 0 }, { name := "Back", type := 4, offset := 1, embedded := false, tag := "", pkgPath := "", byteOffset := 8 }]) := by kernel_rfl
theorem eq28 {c : Int} {d : Bool} : pureRun Try.prog (Op.equal 28 (.agg ⟨[.int .i64 c, .bool d]⟩) (.agg ⟨[.int .i64 c, .bool d]⟩)) = some true := by
  show pureRun Try.prog (Op.equalIn (9998 + 1 + 1) 28 _ _) = _
  unfold Op.equalIn
  rw [pureRun_bind, prH28]
  simp only [Option.bind_some,pureRun_bind,prG,prS28,Bool.false_eq_true,if_false,List.forIn_toArray,List.forIn_cons,List.forIn_nil,ne_eq,prP28,prI,show ("Street" = "_") = False by simp,show ("Back" = "_") = False by simp,not_false_eq_true,if_true,beq_self_eq_true,Bool.not_true,prPure,prQ28,prB]
theorem eqb28 {x y : Operand} {c : Int} {d : Bool} : pureRun Try.prog (do eqGuard .neq 28 x y (.agg ⟨[.int .i64 c, .bool d]⟩) (.agg ⟨[.int .i64 c, .bool d]⟩); binOp .neq 28 (.agg ⟨[.int .i64 c, .bool d]⟩) (.agg ⟨[.int .i64 c, .bool d]⟩)) = some (.bool false) := by
  rw [pureRun_bind]
  rw [show pureRun Try.prog (eqGuard .neq 28 x y (.agg ⟨[.int .i64 c, .bool d]⟩) (.agg ⟨[.int .i64 c, .bool d]⟩)) = some () by kernel_rfl]
  rw [Option.bind_some, show binOp .neq 28 (.agg ⟨[.int .i64 c, .bool d]⟩) (.agg ⟨[.int .i64 c, .bool d]⟩) = (Op.equal 28 (.agg ⟨[.int .i64 c, .bool d]⟩) (.agg ⟨[.int .i64 c, .bool d]⟩) >>= fun b => pure (.bool !b)) by simp only [binOp], pureRun_bind, eq28]
  rfl
theorem neqL {x y : Operand} {i : Int} {b : Bool} : binV tabA Try.prog .neq 28 x y (.agg ⟨[.int .i64 i, .bool b]⟩) (.agg ⟨[.int .i64 i, .bool b]⟩) = some (.bool false) := by
  unfold binV
  cases h : aEqV Try.prog .neq 28 (some (.agg ⟨[.int .i64 i, .bool b]⟩)) (some (.agg ⟨[.int .i64 i, .bool b]⟩)) with
  | none =>
    rw [show gr (.agg ⟨[.int .i64 i, .bool b]⟩) = true from rfl, Bool.and_self, cond_true, eqb28]
    rfl
  | some v =>
    simp only [aEqV] at h
    cases h' : aEqD Try.prog 28 (.agg ⟨[.int .i64 i, .bool b]⟩) (.agg ⟨[.int .i64 i, .bool b]⟩) with
    | none => rw [h'] at h; cases h
    | some r =>
      rw [h'] at h
      cases h
      have h1 := (aEqD_run h' default).1
      have h2 := pureRun_run (eq28 (c := i) (d := b)) default
      rw [h2] at h1
      cases h1
      rfl
/-- Alike, of legs that are. -/
theorem c43 (hs : Lg H a ls) (hs' : Lg H a' ls) (hl : ls.length ≤ 65) : acall tabA (aexec tabA Try.prog (N + 150)) 43 [.slice a ls.length cap, .slice a' ls.length cap'] H = some (true, .bool true, H, H.size) := by
  refine call_quiet (k := 26) (rs := [.tmp 4]) rfl fn_43 rfl rfl rfl ?_ rfl
  have hll : decide ((ls.length : Int) = (ls.length : Int)) = true := by simp
  simp (disch := (first | (simp only [yk,seval]; done) | omega | (simp only [yz] <;> omega) | fail)) only [↓yp,yq0,yq1,yq2,yq3,yq4,yl,ys0,ys1,seval,zed,zee,zfr,zhw,ysu,yrg,ysv,ysw,ysx,ysz,ysa,lenV_slice st_esS_65,hll]
  refine W_while (n := 26) 70 (fun k e H' => ∃ i, k = ls.length - i ∧ i ≤ ls.length ∧ gt 26 e 14 = .int .i64 (i : Nat) ∧ gt 26 e 13 = .int .i64 ls.length ∧ gt 26 e 12 = .slice a ls.length cap ∧ gt 26 e 1 = .slice a' ls.length cap' ∧ Fr H H')
    ?_ 65 ls.length ⟨0, by omega, by omega, by simp (disch := (first | (simp only [yk,seval]; done) | omega | (simp only [yz] <;> omega) | fail)) only [yg,Nat.reduceAdd,Nat.reduceEqDiff,Nat.reduceLT]; rfl, by simp (disch := (first | (simp only [yk,seval]; done) | omega | (simp only [yz] <;> omega) | fail)) only [yg,Nat.reduceAdd,Nat.reduceEqDiff,Nat.reduceLT], by simp (disch := (first | (simp only [yk,seval]; done) | omega | (simp only [yz] <;> omega) | fail)) only [yg,Nat.reduceAdd,Nat.reduceEqDiff,Nat.reduceLT], by simp (disch := (first | (simp only [yk,seval]; done) | omega | (simp only [yz] <;> omega) | fail)) only [yg,Nat.reduceAdd,Nat.reduceEqDiff,Nat.reduceLT], Fr.refl _⟩ (by omega) (by omega)
  rintro M k e H' ⟨i, rfl, hi, g14, g13, g12, g1, fr⟩
  have f0 := fr.size
  have fs := fr.same
  simp (disch := (first | (simp only [yk,seval]; done) | omega | (simp only [yz] <;> omega) | fail)) only [↓yp,yq0,yq1,yq2,yq3,yq4,yl,ys0,ys1,seval,zed,zee,zfr,zhw,ysu,yrg,ysv,ysw,ysx,ysz,ysa,g14,g13,g12,g1]
  refine ⟨fun hlt => ?_, fun hlt => ?_⟩
  · have hi' : i < ls.length := by simpa using hlt
    have hne : ls ≠ [] := fun h => by subst h; simp at hi'
    obtain ⟨b, o, c, rfl, hb, hc, hp⟩ := hs.get hne
    obtain ⟨b', o', c', rfl, hb', hc', hp'⟩ := hs'.get hne
    obtain ⟨s, his⟩ : ∃ s, ls[i]? = some s := ⟨ls[i], by simp [hi']⟩
    have hpi := hp i s his
    have hpi' := hp' i s his
    have hw2 : w64 ((i : Int) + 1) = ((i + 1 : Nat) : Int) := by rw [w64_of (by omega)]; omega
    simp (disch := (first | (simp only [yk,seval]; done) | omega | (simp only [yz] <;> omega) | fail)) only [↓yp,yq0,yq1,yq2,yq3,yq4,yl,ys0,ys1,seval,zed,zee,zfr,zhw,ysu,yrg,ysv,ysw,ysx,ysz,ysa,g14,g13,g12,g1,fs,A_indexSlice st_esS_65,hc,hpi]
    refine W_draw [] rfl (by kernel_rfl) (by kernel_rfl) (by (first | omega | (simp only [yz] <;> omega))) ?_
    simp (disch := (first | (simp only [yk,seval]; done) | omega | (simp only [yz] <;> omega) | fail)) only [↓yp,yq0,yq1,yq2,yq3,yq4,yl,ys0,ys1,seval,zed,zee,zfr,zhw,ysu,yrg,ysv,ysw,ysx,ysz,ysa,g14,g13,g12,g1,fs,A_indexSlice st_esS_65,hc,hpi,hc',hpi',neqL,hw2]
    refine ⟨ls.length - (i + 1), by omega, i + 1, rfl, by omega, ?_, ?_, ?_, ?_, ?_⟩
    · simp (disch := (first | (simp only [yk,seval]; done) | omega | (simp only [yz] <;> omega) | fail)) only [yg,Nat.reduceAdd,Nat.reduceEqDiff,Nat.reduceLT]
    · simp (disch := (first | (simp only [yk,seval]; done) | omega | (simp only [yz] <;> omega) | fail)) only [yg,Nat.reduceAdd,Nat.reduceEqDiff,Nat.reduceLT,g13]
    · simp (disch := (first | (simp only [yk,seval]; done) | omega | (simp only [yz] <;> omega) | fail)) only [yg,Nat.reduceAdd,Nat.reduceEqDiff,Nat.reduceLT,g12]
    · simp (disch := (first | (simp only [yk,seval]; done) | omega | (simp only [yz] <;> omega) | fail)) only [yg,Nat.reduceAdd,Nat.reduceEqDiff,Nat.reduceLT,g1]
    · exact (fr.allocd _).put (by omega) _
  · simp (disch := (first | (simp only [yk,seval]; done) | omega | (simp only [yz] <;> omega) | fail)) only [↓yp,yq0,yq1,yq2,yq3,yq4,yl,ys0,ys1,seval,zed,zee,zfr,zhw,ysu,yrg,ysv,ysw,ysx,ysz,ysa]
theorem Grow.lg {tb n c el : Nat} {a : Option Addr} {ls : List (Int × Bool)} (g : Grow H tb (.slice a n c) n (lgs ls) el 2) (hn : ls.length = n) : Lg H a ls := ⟨fun hne => by
  obtain ⟨b, al, h1, h2, h3, h4, h5⟩ := g.cons (by have := List.length_pos_iff.2 hne; omega)
  cases h1
  refine ⟨b, 0, lgs ls, rfl, h3, by rw [h4]; rfl, fun i p hi => ?_⟩
  rw [Nat.zero_add]
  exact lgs_part hi⟩
/-- The streets of legs, as the law makes them. -/
theorem c39n : acall tabA (aexec tabA Try.prog (N + 60)) 39 [.slice a 0 cap] H = some (true, .slice none 0 0, H, H.size) := by
  refine call_quiet (k := 19) (rs := [.tmp 2]) rfl fn_39 rfl rfl rfl ?_ rfl
  simp (disch := (first | (simp only [yk,seval]; done) | omega | (simp only [yz] <;> omega) | fail)) only [↓yp,yq0,yq1,yq2,yq3,yq4,yl,ys0,ys1,seval,zed,zee,zfr,zhw,ysu,yrg,ysv,ysw,ysx,ysz,ysa,lenV_slice st_esS_65,Int.natCast_zero]
  refine W_while (n := 19) 40 (fun q e H' => gt 19 e 8 = .int .i64 0 ∧ gt 19 e 7 = .int .i64 0 ∧ gt 19 e 3 = .slice none 0 0 ∧ H' = H) ?_ 1 0 ⟨by simp (disch := (first | (simp only [yk,seval]; done) | omega | (simp only [yz] <;> omega) | fail)) only [yg,Nat.reduceAdd,Nat.reduceEqDiff,Nat.reduceLT], by simp (disch := (first | (simp only [yk,seval]; done) | omega | (simp only [yz] <;> omega) | fail)) only [yg,Nat.reduceAdd,Nat.reduceEqDiff,Nat.reduceLT], by simp (disch := (first | (simp only [yk,seval]; done) | omega | (simp only [yz] <;> omega) | fail)) only [yg,Nat.reduceAdd,Nat.reduceEqDiff,Nat.reduceLT], rfl⟩ (by omega) (by omega)
  rintro M q e H' ⟨g8, g7, g3, rfl⟩
  simp (disch := (first | (simp only [yk,seval]; done) | omega | (simp only [yz] <;> omega) | fail)) only [↓yp,yq0,yq1,yq2,yq3,yq4,yl,ys0,ys1,seval,zed,zee,zfr,zhw,ysu,yrg,ysv,ysw,ysx,ysz,ysa,g8,g7,g3]
set_option maxHeartbeats 1000000 in
theorem c39 (hs : Lg H a ls) (hne : ls ≠ []) (hl : ls.length ≤ 65) (hL : L ≤ H.size) {M : Nat} (hM : 200 ≤ M)
    (hq : ∀ a' c H', Fr H H' → Il H' a' (ls.map (·.1)) → Q false (.slice a' ls.length c) H') :
    resK (acall tabA (aexec tabA Try.prog M) 39 [.slice a ls.length cap] H) L Q := by
  obtain ⟨N, rfl⟩ : ∃ N, M = N + 200 := ⟨M - 200, by omega⟩
  have hpos : 0 < ls.length := List.length_pos_iff.2 hne
  obtain ⟨b, o, c, rfl, hb1, hcc, hp⟩ := hs.get hne
  refine call_fls (R := fun v H' => ∃ ga gc, v = .slice ga ls.length gc ∧ Fr H H' ∧ Grow H' H.size (.slice ga ls.length gc) ls.length (tv (ls.map (·.1))) 3 1) (k := 19) (rs := [.tmp 2]) rfl fn_39 rfl rfl rfl hL ?_ ?_ ?_
  rotate_left
  · rintro v H' ⟨ga, gc, rfl, -, gw⟩
    obtain ⟨b', al, h1, -⟩ := gw.cons (by omega)
    cases h1
    rfl
  · rintro v H' ⟨ga, gc, rfl, f, gw⟩
    exact hq _ _ _ f (gw.il (by rw [List.length_map]))
  simp (disch := (first | (simp only [yk,seval]; done) | omega | (simp only [yz] <;> omega) | fail)) only [↓yp,yq0,yq1,yq2,yq3,yq4,yl,ys0,ys1,seval,zed,zee,zfr,zhw,ysu,yrg,ysv,ysw,ysx,ysz,ysa,lenV_slice st_esS_65]
  refine W_while (n := 19) 100 (fun q e H' => ∃ (i : Nat) (ga : Option Addr) (gc : Nat), q = ls.length - i ∧ i ≤ ls.length ∧ gt 19 e 8 = .int .i64 (i : Nat) ∧ gt 19 e 7 = .int .i64 ls.length ∧ gt 19 e 6 = .slice (some ⟨b, o, none⟩) ls.length cap ∧ gt 19 e 3 = .slice ga i gc ∧ Fr H H' ∧ Grow H' H.size (.slice ga i gc) i (tv ((ls.take i).map (·.1))) 3 1)
    ?_ 65 ls.length ⟨0, none, 0, by omega, by omega, by simp (disch := (first | (simp only [yk,seval]; done) | omega | (simp only [yz] <;> omega) | fail)) only [yg,Nat.reduceAdd,Nat.reduceEqDiff,Nat.reduceLT]; rfl, by simp (disch := (first | (simp only [yk,seval]; done) | omega | (simp only [yz] <;> omega) | fail)) only [yg,Nat.reduceAdd,Nat.reduceEqDiff,Nat.reduceLT], by simp (disch := (first | (simp only [yk,seval]; done) | omega | (simp only [yz] <;> omega) | fail)) only [yg,Nat.reduceAdd,Nat.reduceEqDiff,Nat.reduceLT], by simp (disch := (first | (simp only [yk,seval]; done) | omega | (simp only [yz] <;> omega) | fail)) only [yg,Nat.reduceAdd,Nat.reduceEqDiff,Nat.reduceLT], Fr.refl _, ⟨fun _ => rfl, fun h => absurd rfl h⟩⟩ (by omega) (by omega)
  rintro M q e H' ⟨i, ga, gc, rfl, hi, g8, g7, g6, g3, fr, gw⟩
  have f0 := fr.size
  simp (disch := (first | (simp only [yk,seval]; done) | omega | (simp only [yz] <;> omega) | fail)) only [↓yp,yq0,yq1,yq2,yq3,yq4,yl,ys0,ys1,seval,zed,zee,zfr,zhw,ysu,yrg,ysv,ysw,ysx,ysz,ysa,g8,g7]
  refine ⟨fun hA => ?_, fun hA => ?_⟩
  · have hi' : i < ls.length := by simpa using hA
    obtain ⟨p, hpi⟩ : ∃ p, ls[i]? = some p := ⟨ls[i], by simp [hi']⟩
    have hrow := hp i p hpi
    have hc' : cellsOf (H'.get b) = some c := by rw [fr.same b hb1]; exact hcc
    have hw2 : w64 ((i : Int) + 1) = ((i + 1 : Nat) : Int) := by rw [w64_of (by omega)]; omega
    have hnx : tv ((ls.take (i + 1)).map (·.1)) = tv ((ls.take i).map (·.1)) ++ [.int .i64 p.1] := by rw [take_snoc ls i p hpi]; rw [List.map_append]; unfold tv; rw [List.map_append]; rfl
    simp (disch := (first | (simp only [yk,seval]; done) | omega | (simp only [yz] <;> omega) | fail)) only [↓yp,yq0,yq1,yq2,yq3,yq4,yl,ys0,ys1,seval,zed,zee,zfr,zhw,ysu,yrg,ysv,ysw,ysx,ysz,ysa,g8,g6,A_indexSlice st_esS_65,hc',hrow]
    simp (disch := (first | (simp only [yk,seval]; done) | omega | (simp only [yz] <;> omega) | fail)) only [↓yp,yq0,yq1,yq2,yq3,yq4,yl,ys0,ys1,seval,zed,zee,zfr,zhw,ysu,yrg,ysv,ysw,ysx,ysz,ysa,g3,A_buildSlice st_brS_52_1]
    refine grow_append (i := i) (cs := tv ((ls.take i).map (·.1))) (news := [.int .i64 p.1]) st_apS_52 (gw.fr (by (repeat (first | exact Fr.refl _ | assumption | refine Fr.allocd ?_ _ | refine Fr.kill ?_ (by first | assumption | omega) | refine Fr.put ?_ (by first | omega | (simp only [yz] <;> omega)) _)))) (by (first | omega | (simp only [yz] <;> omega))) (by rw [tv_len, List.length_map, List.length_take]; omega) (by unfold srcCells; simp (disch := (first | (simp only [yk,seval]; done) | omega | (simp only [yz] <;> omega) | fail)) only [yg,Nat.reduceAdd,Nat.reduceEqDiff,Nat.reduceLT,zda]; rfl) (by omega) (by omega) rfl (by omega) ?_
    intro a' c' H₂ fu gw'
    have u0 := fu.size
    simp only [zde,zdf] at u0
    simp (disch := (first | (simp only [yk,seval]; done) | omega | (simp only [yz] <;> omega) | fail)) only [↓yp,yq0,yq1,yq2,yq3,yq4,yl,ys0,ys1,seval,zed,zee,zfr,zhw,ysu,yrg,ysv,ysw,ysx,ysz,ysa,g8,hw2]
    refine ⟨ls.length - (i + 1), by omega, i + 1, a', c', rfl, by omega, ?_, ?_, ?_, ?_, ?_, ?_⟩
    · simp (disch := (first | (simp only [yk,seval]; done) | omega | (simp only [yz] <;> omega) | fail)) only [yg,Nat.reduceAdd,Nat.reduceEqDiff,Nat.reduceLT]
    · simp (disch := (first | (simp only [yk,seval]; done) | omega | (simp only [yz] <;> omega) | fail)) only [yg,Nat.reduceAdd,Nat.reduceEqDiff,Nat.reduceLT,g7]
    · simp (disch := (first | (simp only [yk,seval]; done) | omega | (simp only [yz] <;> omega) | fail)) only [yg,Nat.reduceAdd,Nat.reduceEqDiff,Nat.reduceLT,g6]
    · simp (disch := (first | (simp only [yk,seval]; done) | omega | (simp only [yz] <;> omega) | fail)) only [yg,Nat.reduceAdd,Nat.reduceEqDiff,Nat.reduceLT]
    · exact Fr.part (H₁ := _) (Fr.allocd (Fr.put (Fr.allocd fr _) (by omega) _) _) fu (by omega)
    · rw [hnx]; exact gw'
  · have hi' : i = ls.length := by have := of_decide_eq_false hA; omega
    subst hi'
    rw [List.take_length] at gw
    simp (disch := (first | (simp only [yk,seval]; done) | omega | (simp only [yz] <;> omega) | fail)) only [↓yp,yq0,yq1,yq2,yq3,yq4,yl,ys0,ys1,seval,zed,zee,zfr,zhw,ysu,yrg,ysv,ysw,ysx,ysz,ysa,g3]
    exact ⟨ga, gc, rfl, fr, gw⟩
/-- The legs of the reference. -/
theorem c41n : acall tabA (aexec tabA Try.prog (N + 60)) 41 [.slice a 0 cap] H = some (true, .slice none 0 0, H, H.size) := by
  refine call_quiet (k := 18) (rs := [.tmp 2]) rfl fn_41 rfl rfl rfl ?_ rfl
  simp (disch := (first | (simp only [yk,seval]; done) | omega | (simp only [yz] <;> omega) | fail)) only [↓yp,yq0,yq1,yq2,yq3,yq4,yl,ys0,ys1,seval,zed,zee,zfr,zhw,ysu,yrg,ysv,ysw,ysx,ysz,ysa,lenV_slice st_esS_65,Int.natCast_zero]
  refine W_while (n := 18) 40 (fun q e H' => gt 18 e 8 = .int .i64 0 ∧ gt 18 e 7 = .int .i64 0 ∧ gt 18 e 3 = .slice none 0 0 ∧ H' = H) ?_ 1 0 ⟨by simp (disch := (first | (simp only [yk,seval]; done) | omega | (simp only [yz] <;> omega) | fail)) only [yg,Nat.reduceAdd,Nat.reduceEqDiff,Nat.reduceLT], by simp (disch := (first | (simp only [yk,seval]; done) | omega | (simp only [yz] <;> omega) | fail)) only [yg,Nat.reduceAdd,Nat.reduceEqDiff,Nat.reduceLT], by simp (disch := (first | (simp only [yk,seval]; done) | omega | (simp only [yz] <;> omega) | fail)) only [yg,Nat.reduceAdd,Nat.reduceEqDiff,Nat.reduceLT], rfl⟩ (by omega) (by omega)
  rintro M q e H' ⟨g8, g7, g3, rfl⟩
  simp (disch := (first | (simp only [yk,seval]; done) | omega | (simp only [yz] <;> omega) | fail)) only [↓yp,yq0,yq1,yq2,yq3,yq4,yl,ys0,ys1,seval,zed,zee,zfr,zhw,ysu,yrg,ysv,ysw,ysx,ysz,ysa,g8,g7,g3]
set_option maxHeartbeats 1000000 in
theorem c41 (hs : Lg H a ls) (hne : ls ≠ []) (hl : ls.length ≤ 65) (hL : L ≤ H.size) {M : Nat} (hM : 200 ≤ M)
    (hq : ∀ a' c H', Fr H H' → Lg H' a' ls → Q false (.slice a' ls.length c) H') :
    resK (acall tabA (aexec tabA Try.prog M) 41 [.slice a ls.length cap] H) L Q := by
  obtain ⟨N, rfl⟩ : ∃ N, M = N + 200 := ⟨M - 200, by omega⟩
  have hpos : 0 < ls.length := List.length_pos_iff.2 hne
  obtain ⟨b, o, c, rfl, hb1, hcc, hp⟩ := hs.get hne
  refine call_fls (R := fun v H' => ∃ ga gc, v = .slice ga ls.length gc ∧ Fr H H' ∧ Grow H' H.size (.slice ga ls.length gc) ls.length (lgs ls) 54 2) (k := 18) (rs := [.tmp 2]) rfl fn_41 rfl rfl rfl hL ?_ ?_ ?_
  rotate_left
  · rintro v H' ⟨ga, gc, rfl, -, gw⟩
    obtain ⟨b', al, h1, -⟩ := gw.cons (by omega)
    cases h1
    rfl
  · rintro v H' ⟨ga, gc, rfl, f, gw⟩
    exact hq _ _ _ f (gw.lg rfl)
  simp (disch := (first | (simp only [yk,seval]; done) | omega | (simp only [yz] <;> omega) | fail)) only [↓yp,yq0,yq1,yq2,yq3,yq4,yl,ys0,ys1,seval,zed,zee,zfr,zhw,ysu,yrg,ysv,ysw,ysx,ysz,ysa,lenV_slice st_esS_65]
  refine W_while (n := 18) 100 (fun q e H' => ∃ (i : Nat) (ga : Option Addr) (gc : Nat), q = ls.length - i ∧ i ≤ ls.length ∧ gt 18 e 8 = .int .i64 (i : Nat) ∧ gt 18 e 7 = .int .i64 ls.length ∧ gt 18 e 6 = .slice (some ⟨b, o, none⟩) ls.length cap ∧ gt 18 e 3 = .slice ga i gc ∧ Fr H H' ∧ Grow H' H.size (.slice ga i gc) i (lgs (ls.take i)) 54 2)
    ?_ 65 ls.length ⟨0, none, 0, by omega, by omega, by simp (disch := (first | (simp only [yk,seval]; done) | omega | (simp only [yz] <;> omega) | fail)) only [yg,Nat.reduceAdd,Nat.reduceEqDiff,Nat.reduceLT]; rfl, by simp (disch := (first | (simp only [yk,seval]; done) | omega | (simp only [yz] <;> omega) | fail)) only [yg,Nat.reduceAdd,Nat.reduceEqDiff,Nat.reduceLT], by simp (disch := (first | (simp only [yk,seval]; done) | omega | (simp only [yz] <;> omega) | fail)) only [yg,Nat.reduceAdd,Nat.reduceEqDiff,Nat.reduceLT], by simp (disch := (first | (simp only [yk,seval]; done) | omega | (simp only [yz] <;> omega) | fail)) only [yg,Nat.reduceAdd,Nat.reduceEqDiff,Nat.reduceLT], Fr.refl _, ⟨fun _ => rfl, fun h => absurd rfl h⟩⟩ (by omega) (by omega)
  rintro M q e H' ⟨i, ga, gc, rfl, hi, g8, g7, g6, g3, fr, gw⟩
  have f0 := fr.size
  simp (disch := (first | (simp only [yk,seval]; done) | omega | (simp only [yz] <;> omega) | fail)) only [↓yp,yq0,yq1,yq2,yq3,yq4,yl,ys0,ys1,seval,zed,zee,zfr,zhw,ysu,yrg,ysv,ysw,ysx,ysz,ysa,g8,g7]
  refine ⟨fun hA => ?_, fun hA => ?_⟩
  · have hi' : i < ls.length := by simpa using hA
    obtain ⟨p, hpi⟩ : ∃ p, ls[i]? = some p := ⟨ls[i], by simp [hi']⟩
    have hrow := hp i p hpi
    have hc' : cellsOf (H'.get b) = some c := by rw [fr.same b hb1]; exact hcc
    have hw2 : w64 ((i : Int) + 1) = ((i + 1 : Nat) : Int) := by rw [w64_of (by omega)]; omega
    have hnx : lgs (ls.take (i + 1)) = lgs (ls.take i) ++ [.int .i64 p.1, .bool p.2] := by rw [take_snoc ls i p hpi]; rw [lgs_app]; rfl
    simp (disch := (first | (simp only [yk,seval]; done) | omega | (simp only [yz] <;> omega) | fail)) only [↓yp,yq0,yq1,yq2,yq3,yq4,yl,ys0,ys1,seval,zed,zee,zfr,zhw,ysu,yrg,ysv,ysw,ysx,ysz,ysa,g8,g6,A_indexSlice st_esS_65,hc',hrow]
    simp (disch := (first | (simp only [yk,seval]; done) | omega | (simp only [yz] <;> omega) | fail)) only [↓yp,yq0,yq1,yq2,yq3,yq4,yl,ys0,ys1,seval,zed,zee,zfr,zhw,ysu,yrg,ysv,ysw,ysx,ysz,ysa,g3,A_buildSlice st_brS_72_1]
    refine grow_append (i := i) (cs := lgs (ls.take i)) (news := [.int .i64 p.1, .bool p.2]) st_apS_72 (gw.fr (by (repeat (first | exact Fr.refl _ | assumption | refine Fr.allocd ?_ _ | refine Fr.kill ?_ (by first | assumption | omega) | refine Fr.put ?_ (by first | omega | (simp only [yz] <;> omega)) _)))) (by (first | omega | (simp only [yz] <;> omega))) (by rw [lgs_len, List.length_take]; omega) (by unfold srcCells; simp (disch := (first | (simp only [yk,seval]; done) | omega | (simp only [yz] <;> omega) | fail)) only [yg,Nat.reduceAdd,Nat.reduceEqDiff,Nat.reduceLT,zda]; rfl) (by omega) (by omega) rfl (by omega) ?_
    intro a' c' H₂ fu gw'
    have u0 := fu.size
    simp only [zde,zdf] at u0
    simp (disch := (first | (simp only [yk,seval]; done) | omega | (simp only [yz] <;> omega) | fail)) only [↓yp,yq0,yq1,yq2,yq3,yq4,yl,ys0,ys1,seval,zed,zee,zfr,zhw,ysu,yrg,ysv,ysw,ysx,ysz,ysa,g8,hw2]
    refine ⟨ls.length - (i + 1), by omega, i + 1, a', c', rfl, by omega, ?_, ?_, ?_, ?_, ?_, ?_⟩
    · simp (disch := (first | (simp only [yk,seval]; done) | omega | (simp only [yz] <;> omega) | fail)) only [yg,Nat.reduceAdd,Nat.reduceEqDiff,Nat.reduceLT]
    · simp (disch := (first | (simp only [yk,seval]; done) | omega | (simp only [yz] <;> omega) | fail)) only [yg,Nat.reduceAdd,Nat.reduceEqDiff,Nat.reduceLT,g7]
    · simp (disch := (first | (simp only [yk,seval]; done) | omega | (simp only [yz] <;> omega) | fail)) only [yg,Nat.reduceAdd,Nat.reduceEqDiff,Nat.reduceLT,g6]
    · simp (disch := (first | (simp only [yk,seval]; done) | omega | (simp only [yz] <;> omega) | fail)) only [yg,Nat.reduceAdd,Nat.reduceEqDiff,Nat.reduceLT]
    · exact Fr.part (H₁ := _) (Fr.allocd (Fr.put (Fr.allocd fr _) (by omega) _) _) fu (by omega)
    · rw [hnx]; exact gw'
  · have hi' : i = ls.length := by have := of_decide_eq_false hA; omega
    subst hi'
    rw [List.take_length] at gw
    simp (disch := (first | (simp only [yk,seval]; done) | omega | (simp only [yz] <;> omega) | fail)) only [↓yp,yq0,yq1,yq2,yq3,yq4,yl,ys0,ys1,seval,zed,zee,zfr,zhw,ysu,yrg,ysv,ysw,ysx,ysz,ysa,g3]
    exact ⟨ga, gc, rfl, fr, gw⟩
end
end Go.Am
/- The reference's Asked about many streets, and its Follow. -/
namespace Go.Am
open Go.Proofs
variable {T : Tab} {P : Program} {N L : Nat} {H : AHeap} {Q : Bool → Value → AHeap → Prop}
set_option maxHeartbeats 1000000 in
theorem c26w {a ac as' am : Option Addr} {cap kc ks km : Nat} {l : List Str} {cs ss ms : List Int} {C w ld : Int} (hs : Sl H a l) (hl : l.length ≤ 18) (hc : Il H ac cs) (hcl : cs.length ≤ 18) (hss : Il H as' ss) (hsl : ss.length ≤ 65) (hm : Il H am ms) (hml : ms.length ≤ 18) :
    acall tabA (aexec tabA Try.prog (N + 460)) 26 [.agg ⟨[.int .i64 C, .slice a l.length cap]⟩, .agg ⟨[.int .i64 w, .int .i64 ld]⟩, .slice ac cs.length kc, .slice as' ss.length ks, .slice am ms.length km] H = some (true, .int .i64 (asked C l w ld cs ss ms), H, H.size) := by
  refine call_quiet (k := 68) (rs := [.tmp 10]) rfl fn_26 rfl rfl rfl ?_ rfl
  simp (disch := (first | (simp only [yk,seval]; done) | omega | (simp only [yz] <;> omega) | fail)) only [↓yp,yq0,yq1,yq2,yq3,yq4,yl,ys0,ys1,seval,zed,zee,zfr,zhw,ysu,yrg,ysv,ysw,ysx,ysz,ysa]
  rw [c21 (hs.fr (by (repeat (first | exact Fr.refl _ | assumption | refine Fr.allocd ?_ _ | refine Fr.kill ?_ (by first | assumption | omega) | refine Fr.put ?_ (by first | omega | (simp only [yz] <;> omega)) _))))]
  simp (disch := (first | (simp only [yk,seval]; done) | omega | (simp only [yz] <;> omega) | fail)) only [↓yp,yq0,yq1,yq2,yq3,yq4,yl,ys0,ys1,seval,zed,zee,zfr,zhw,ysu,yrg,ysv,ysw,ysx,ysz,ysa]
  by_cases h0 : chk C l = 0
  rotate_left
  · have h0' : decide (chk C l = 0) = false := by simpa using h0
    simp (disch := (first | (simp only [yk,seval]; done) | omega | (simp only [yz] <;> omega) | fail)) only [↓yp,yq0,yq1,yq2,yq3,yq4,yl,ys0,ys1,seval,zed,zee,zfr,zhw,ysu,yrg,ysv,ysw,ysx,ysz,ysa,h0',asked,h0,ne_eq,not_false_eq_true]
  have h0' : decide (chk C l = 0) = true := by simpa using h0
  have hC := off_iff.1 (chk_ok h0).1
  have hwC : w64 (C - 1) = C - 1 := w64_of (by omega)
  have hwl : w64 ((l.length : Int) - 1) = (l.length : Int) - 1 := w64_of (by omega)
  simp (disch := (first | (simp only [yk,seval]; done) | omega | (simp only [yz] <;> omega) | fail)) only [↓yp,yq0,yq1,yq2,yq3,yq4,yl,ys0,ys1,seval,zed,zee,zfr,zhw,ysu,yrg,ysv,ysw,ysx,ysz,ysa,h0',c75]
  refine ⟨fun hA => ?_, fun hA => ?_⟩
  · simp (disch := (first | (simp only [yk,seval]; done) | omega | (simp only [yz] <;> omega) | fail)) only [↓yp,yq0,yq1,yq2,yq3,yq4,yl,ys0,ys1,seval,zed,zee,zfr,zhw,ysu,yrg,ysv,ysw,ysx,ysz,ysa,hA,asked,h0,ne_eq,not_true_eq_false]
  simp (disch := (first | (simp only [yk,seval]; done) | omega | (simp only [yz] <;> omega) | fail)) only [↓yp,yq0,yq1,yq2,yq3,yq4,yl,ys0,ys1,seval,zed,zee,zfr,zhw,ysu,yrg,ysv,ysw,ysx,ysz,ysa,hA,c75]
  refine ⟨fun hB => ?_, fun hB => ?_⟩
  · simp (disch := (first | (simp only [yk,seval]; done) | omega | (simp only [yz] <;> omega) | fail)) only [↓yp,yq0,yq1,yq2,yq3,yq4,yl,ys0,ys1,seval,zed,zee,zfr,zhw,ysu,yrg,ysv,ysw,ysx,ysz,ysa,hA,hB,asked,h0,ne_eq,not_true_eq_false]
  have hnn : ¬ (off w 1 9 || off ld 0 9) = true := by rw [hA, hB]; simp
  simp (disch := (first | (simp only [yk,seval]; done) | omega | (simp only [yz] <;> omega) | fail)) only [↓yp,yq0,yq1,yq2,yq3,yq4,yl,ys0,ys1,seval,zed,zee,zfr,zhw,ysu,yrg,ysv,ysw,ysx,ysz,ysa,hA,hB]
  refine W_while (n := 68) 60 (fun k e H' => ∃ i, k = cs.length - i ∧ i ≤ cs.length ∧ gt 68 e 12 = .int .i64 (i : Nat) ∧ gt 68 e 2 = .slice ac cs.length kc ∧ gt 68 e 3 = .slice as' ss.length ks ∧ gt 68 e 4 = .slice am ms.length km ∧ gt 68 e 5 = .pointer (some ⟨H.size, 0, none⟩) ∧ gt 68 e 10 = .int .i64 0 ∧ Fr ((H.alloc (.rw [.int .i64 C, .slice a l.length cap] 34 false [])).alloc (.rw [.int .i64 w, .int .i64 ld] 50 false [])) H' ∧ ∀ j n, j < i → cs[j]? = some n → off n 0 (C - 1) = false)
    ?_ 18 cs.length ⟨0, by omega, by omega, by simp (disch := (first | (simp only [yk,seval]; done) | omega | (simp only [yz] <;> omega) | fail)) only [yg,Nat.reduceAdd,Nat.reduceEqDiff,Nat.reduceLT]; rfl, by simp (disch := (first | (simp only [yk,seval]; done) | omega | (simp only [yz] <;> omega) | fail)) only [yg,Nat.reduceAdd,Nat.reduceEqDiff,Nat.reduceLT], by simp (disch := (first | (simp only [yk,seval]; done) | omega | (simp only [yz] <;> omega) | fail)) only [yg,Nat.reduceAdd,Nat.reduceEqDiff,Nat.reduceLT], by simp (disch := (first | (simp only [yk,seval]; done) | omega | (simp only [yz] <;> omega) | fail)) only [yg,Nat.reduceAdd,Nat.reduceEqDiff,Nat.reduceLT], by simp (disch := (first | (simp only [yk,seval]; done) | omega | (simp only [yz] <;> omega) | fail)) only [yg,Nat.reduceAdd,Nat.reduceEqDiff,Nat.reduceLT], by simp (disch := (first | (simp only [yk,seval]; done) | omega | (simp only [yz] <;> omega) | fail)) only [yg,Nat.reduceAdd,Nat.reduceEqDiff,Nat.reduceLT], Fr.refl _, fun j s hj => by omega⟩ (by omega) (by omega)
  rintro M k e H' ⟨i, rfl, hi, g12, g2, g3, g4, g5, g10, fr, hj⟩
  have f0 := fr.size
  simp only [zde] at f0
  have fs := fr.same
  simp (disch := (first | (simp only [yk,seval]; done) | omega | (simp only [yz] <;> omega) | fail)) only [↓yp,yq0,yq1,yq2,yq3,yq4,yl,ys0,ys1,seval,zed,zee,zfr,zhw,ysu,yrg,ysv,ysw,ysx,ysz,ysa,g12,g2,lenV_slice zir]
  refine ⟨fun hlt => ?_, fun hlt => ?_⟩
  · have hi' : i < cs.length := by simpa using hlt
    obtain ⟨b, o, c, rfl, hb, hcc, hq⟩ := hc.get (by intro h; subst h; simp at hi')
    obtain ⟨n, his⟩ : ∃ s, cs[i]? = some s := ⟨cs[i], by simp [hi']⟩
    have hpi := hq i n his
    simp (disch := (first | (simp only [yk,seval]; done) | omega | (simp only [yz] <;> omega) | fail)) only [↓yp,yq0,yq1,yq2,yq3,yq4,yl,ys0,ys1,seval,zed,zee,zfr,zhw,ysu,yrg,ysv,ysw,ysx,ysz,ysa,g12,g2,g3,g4,g5]
    refine W_draw [] rfl (by kernel_rfl) (by kernel_rfl) (by (first | omega | (simp only [yz] <;> omega))) ?_
    simp (disch := (first | (simp only [yk,seval]; done) | omega | (simp only [yz] <;> omega) | fail)) only [↓yp,yq0,yq1,yq2,yq3,yq4,yl,ys0,ys1,seval,zed,zee,zfr,zhw,ysu,yrg,ysv,ysw,ysx,ysz,ysa,g12,g2,g3,g4,g5,fs,A_indexSlice zir,hcc,hpi,c75,hwC]
    refine ⟨fun hD => ?_, fun hD => ?_⟩
    · simp (disch := (first | (simp only [yk,seval]; done) | omega | (simp only [yz] <;> omega) | fail)) only [↓yp,yq0,yq1,yq2,yq3,yq4,yl,ys0,ys1,seval,zed,zee,zfr,zhw,ysu,yrg,ysv,ysw,ysx,ysz,ysa,hD]
      unfold asked
      rw [if_neg (by simpa using h0), if_neg hnn, if_pos (any_at his hD)]
    have hw2 : w64 ((i : Int) + 1) = ((i + 1 : Nat) : Int) := by rw [w64_of (by omega)]; omega
    simp (disch := (first | (simp only [yk,seval]; done) | omega | (simp only [yz] <;> omega) | fail)) only [↓yp,yq0,yq1,yq2,yq3,yq4,yl,ys0,ys1,seval,zed,zee,zfr,zhw,ysu,yrg,ysv,ysw,ysx,ysz,ysa,hD,g12,g2,g3,g4,g5,hw2]
    refine ⟨cs.length - (i + 1), by omega, i + 1, rfl, by omega, ?_, ?_, ?_, ?_, ?_, ?_, fr, ?_⟩
    · simp (disch := (first | (simp only [yk,seval]; done) | omega | (simp only [yz] <;> omega) | fail)) only [yg,Nat.reduceAdd,Nat.reduceEqDiff,Nat.reduceLT]
    · simp (disch := (first | (simp only [yk,seval]; done) | omega | (simp only [yz] <;> omega) | fail)) only [yg,Nat.reduceAdd,Nat.reduceEqDiff,Nat.reduceLT,g2]
    · simp (disch := (first | (simp only [yk,seval]; done) | omega | (simp only [yz] <;> omega) | fail)) only [yg,Nat.reduceAdd,Nat.reduceEqDiff,Nat.reduceLT,g3]
    · simp (disch := (first | (simp only [yk,seval]; done) | omega | (simp only [yz] <;> omega) | fail)) only [yg,Nat.reduceAdd,Nat.reduceEqDiff,Nat.reduceLT,g4]
    · simp (disch := (first | (simp only [yk,seval]; done) | omega | (simp only [yz] <;> omega) | fail)) only [yg,Nat.reduceAdd,Nat.reduceEqDiff,Nat.reduceLT,g5]
    · simp (disch := (first | (simp only [yk,seval]; done) | omega | (simp only [yz] <;> omega) | fail)) only [yg,Nat.reduceAdd,Nat.reduceEqDiff,Nat.reduceLT,g10]
    · intro j t hj' ht
      by_cases e : j = i
      · subst e; rw [his] at ht; cases ht; exact hD
      · exact hj j t (by omega) ht
  have any1 : ¬ (cs.any fun n => off n 0 (C - 1)) = true := by
    rw [any_false fun j s hj' hs' => hj j s (by have : ¬ i < cs.length := (by simpa using hlt); omega) hs']; simp
  simp (disch := (first | (simp only [yk,seval]; done) | omega | (simp only [yz] <;> omega) | fail)) only [↓yp,yq0,yq1,yq2,yq3,yq4,yl,ys0,ys1,seval,zed,zee,zfr,zhw,ysu,yrg,ysv,ysw,ysx,ysz,ysa,g3]
  refine W_while (n := 68) 60 (fun k e H' => ∃ i, k = ss.length - i ∧ i ≤ ss.length ∧ gt 68 e 13 = .int .i64 (i : Nat) ∧ gt 68 e 3 = .slice as' ss.length ks ∧ gt 68 e 4 = .slice am ms.length km ∧ gt 68 e 5 = .pointer (some ⟨H.size, 0, none⟩) ∧ gt 68 e 10 = .int .i64 0 ∧ Fr ((H.alloc (.rw [.int .i64 C, .slice a l.length cap] 34 false [])).alloc (.rw [.int .i64 w, .int .i64 ld] 50 false [])) H' ∧ ∀ j n, j < i → ss[j]? = some n → off n 0 ((l.length : Int) - 1) = false)
    ?_ 65 ss.length ⟨0, by omega, by omega, by simp (disch := (first | (simp only [yk,seval]; done) | omega | (simp only [yz] <;> omega) | fail)) only [yg,Nat.reduceAdd,Nat.reduceEqDiff,Nat.reduceLT]; rfl, by simp (disch := (first | (simp only [yk,seval]; done) | omega | (simp only [yz] <;> omega) | fail)) only [yg,Nat.reduceAdd,Nat.reduceEqDiff,Nat.reduceLT,g3], by simp (disch := (first | (simp only [yk,seval]; done) | omega | (simp only [yz] <;> omega) | fail)) only [yg,Nat.reduceAdd,Nat.reduceEqDiff,Nat.reduceLT,g4], by simp (disch := (first | (simp only [yk,seval]; done) | omega | (simp only [yz] <;> omega) | fail)) only [yg,Nat.reduceAdd,Nat.reduceEqDiff,Nat.reduceLT,g5], by simp (disch := (first | (simp only [yk,seval]; done) | omega | (simp only [yz] <;> omega) | fail)) only [yg,Nat.reduceAdd,Nat.reduceEqDiff,Nat.reduceLT,g10], fr, fun j s hj => by omega⟩ (by omega) (by omega)
  clear hlt hj hi g12 g2 g3 g4 g5 g10 fs f0 fr i
  clear e H'
  rintro M' k e H' ⟨i, rfl, hi, g13, g3, g4, g5, g10, fr, hj⟩
  have f0 := fr.size
  simp only [zde] at f0
  have fs := fr.same
  simp (disch := (first | (simp only [yk,seval]; done) | omega | (simp only [yz] <;> omega) | fail)) only [↓yp,yq0,yq1,yq2,yq3,yq4,yl,ys0,ys1,seval,zed,zee,zfr,zhw,ysu,yrg,ysv,ysw,ysx,ysz,ysa,g13,g3,lenV_slice zir]
  refine ⟨fun hlt => ?_, fun hlt => ?_⟩
  · have hi' : i < ss.length := by simpa using hlt
    obtain ⟨b, o, c, rfl, hb, hcc, hq⟩ := hss.get (by intro h; subst h; simp at hi')
    obtain ⟨n, his⟩ : ∃ s, ss[i]? = some s := ⟨ss[i], by simp [hi']⟩
    have hpi := hq i n his
    simp (disch := (first | (simp only [yk,seval]; done) | omega | (simp only [yz] <;> omega) | fail)) only [↓yp,yq0,yq1,yq2,yq3,yq4,yl,ys0,ys1,seval,zed,zee,zfr,zhw,ysu,yrg,ysv,ysw,ysx,ysz,ysa,g13,g3,g4,g5]
    refine W_draw [] rfl (by kernel_rfl) (by kernel_rfl) (by (first | omega | (simp only [yz] <;> omega))) ?_
    simp (disch := (first | (simp only [yk,seval]; done) | omega | (simp only [yz] <;> omega) | fail)) only [↓yp,yq0,yq1,yq2,yq3,yq4,yl,ys0,ys1,seval,zed,zee,zfr,zhw,ysu,yrg,ysv,ysw,ysx,ysz,ysa,g13,g3,g4,g5,fs,A_indexSlice zir,hcc,hpi,c75,hwl,lenV_slice ziq]
    refine ⟨fun hD => ?_, fun hD => ?_⟩
    · simp (disch := (first | (simp only [yk,seval]; done) | omega | (simp only [yz] <;> omega) | fail)) only [↓yp,yq0,yq1,yq2,yq3,yq4,yl,ys0,ys1,seval,zed,zee,zfr,zhw,ysu,yrg,ysv,ysw,ysx,ysz,ysa,hD]
      unfold asked
      rw [if_neg (by simpa using h0), if_neg hnn, if_neg any1, if_pos (any_at his hD)]
    have hw2 : w64 ((i : Int) + 1) = ((i + 1 : Nat) : Int) := by rw [w64_of (by omega)]; omega
    simp (disch := (first | (simp only [yk,seval]; done) | omega | (simp only [yz] <;> omega) | fail)) only [↓yp,yq0,yq1,yq2,yq3,yq4,yl,ys0,ys1,seval,zed,zee,zfr,zhw,ysu,yrg,ysv,ysw,ysx,ysz,ysa,hD,g13,g3,g4,g5,hw2]
    refine ⟨ss.length - (i + 1), by omega, i + 1, rfl, by omega, ?_, ?_, ?_, ?_, ?_, fr, ?_⟩
    · simp (disch := (first | (simp only [yk,seval]; done) | omega | (simp only [yz] <;> omega) | fail)) only [yg,Nat.reduceAdd,Nat.reduceEqDiff,Nat.reduceLT]
    · simp (disch := (first | (simp only [yk,seval]; done) | omega | (simp only [yz] <;> omega) | fail)) only [yg,Nat.reduceAdd,Nat.reduceEqDiff,Nat.reduceLT,g3]
    · simp (disch := (first | (simp only [yk,seval]; done) | omega | (simp only [yz] <;> omega) | fail)) only [yg,Nat.reduceAdd,Nat.reduceEqDiff,Nat.reduceLT,g4]
    · simp (disch := (first | (simp only [yk,seval]; done) | omega | (simp only [yz] <;> omega) | fail)) only [yg,Nat.reduceAdd,Nat.reduceEqDiff,Nat.reduceLT,g5]
    · simp (disch := (first | (simp only [yk,seval]; done) | omega | (simp only [yz] <;> omega) | fail)) only [yg,Nat.reduceAdd,Nat.reduceEqDiff,Nat.reduceLT,g10]
    · intro j t hj' ht
      by_cases e : j = i
      · subst e; rw [his] at ht; cases ht; exact hD
      · exact hj j t (by omega) ht
  have any2 : ¬ (ss.any fun n => off n 0 ((l.length : Int) - 1)) = true := by
    rw [any_false fun j s hj' hs' => hj j s (by have : ¬ i < ss.length := (by simpa using hlt); omega) hs']; simp
  simp (disch := (first | (simp only [yk,seval]; done) | omega | (simp only [yz] <;> omega) | fail)) only [↓yp,yq0,yq1,yq2,yq3,yq4,yl,ys0,ys1,seval,zed,zee,zfr,zhw,ysu,yrg,ysv,ysw,ysx,ysz,ysa,g4]
  refine W_while (n := 68) 60 (fun k e H' => ∃ i, k = ms.length - i ∧ i ≤ ms.length ∧ gt 68 e 14 = .int .i64 (i : Nat) ∧ gt 68 e 4 = .slice am ms.length km ∧ gt 68 e 10 = .int .i64 0 ∧ Fr ((H.alloc (.rw [.int .i64 C, .slice a l.length cap] 34 false [])).alloc (.rw [.int .i64 w, .int .i64 ld] 50 false [])) H' ∧ ∀ j n, j < i → ms[j]? = some n → off n 0 240 = false)
    ?_ 18 ms.length ⟨0, by omega, by omega, by simp (disch := (first | (simp only [yk,seval]; done) | omega | (simp only [yz] <;> omega) | fail)) only [yg,Nat.reduceAdd,Nat.reduceEqDiff,Nat.reduceLT]; rfl, by simp (disch := (first | (simp only [yk,seval]; done) | omega | (simp only [yz] <;> omega) | fail)) only [yg,Nat.reduceAdd,Nat.reduceEqDiff,Nat.reduceLT,g4], by simp (disch := (first | (simp only [yk,seval]; done) | omega | (simp only [yz] <;> omega) | fail)) only [yg,Nat.reduceAdd,Nat.reduceEqDiff,Nat.reduceLT,g10], fr, fun j s hj => by omega⟩ (by omega) (by omega)
  clear hlt hj hi g13 g3 g4 g5 g10 fs f0 fr i
  clear e H'
  rintro M'' k e H' ⟨i, rfl, hi, g14, g4, g10, fr, hj⟩
  have f0 := fr.size
  simp only [zde] at f0
  have fs := fr.same
  simp (disch := (first | (simp only [yk,seval]; done) | omega | (simp only [yz] <;> omega) | fail)) only [↓yp,yq0,yq1,yq2,yq3,yq4,yl,ys0,ys1,seval,zed,zee,zfr,zhw,ysu,yrg,ysv,ysw,ysx,ysz,ysa,g14,g4,lenV_slice zir]
  refine ⟨fun hlt => ?_, fun hlt => ?_⟩
  · have hi' : i < ms.length := by simpa using hlt
    obtain ⟨b, o, c, rfl, hb, hcc, hq⟩ := hm.get (by intro h; subst h; simp at hi')
    obtain ⟨n, his⟩ : ∃ s, ms[i]? = some s := ⟨ms[i], by simp [hi']⟩
    have hpi := hq i n his
    simp (disch := (first | (simp only [yk,seval]; done) | omega | (simp only [yz] <;> omega) | fail)) only [↓yp,yq0,yq1,yq2,yq3,yq4,yl,ys0,ys1,seval,zed,zee,zfr,zhw,ysu,yrg,ysv,ysw,ysx,ysz,ysa,g14,g4,fs,A_indexSlice zir,hcc,hpi,c75]
    refine ⟨fun hD => ?_, fun hD => ?_⟩
    · simp (disch := (first | (simp only [yk,seval]; done) | omega | (simp only [yz] <;> omega) | fail)) only [↓yp,yq0,yq1,yq2,yq3,yq4,yl,ys0,ys1,seval,zed,zee,zfr,zhw,ysu,yrg,ysv,ysw,ysx,ysz,ysa,hD]
      unfold asked
      rw [if_neg (by simpa using h0), if_neg hnn, if_neg any1, if_neg any2, if_pos (any_at his hD)]
    have hw2 : w64 ((i : Int) + 1) = ((i + 1 : Nat) : Int) := by rw [w64_of (by omega)]; omega
    simp (disch := (first | (simp only [yk,seval]; done) | omega | (simp only [yz] <;> omega) | fail)) only [↓yp,yq0,yq1,yq2,yq3,yq4,yl,ys0,ys1,seval,zed,zee,zfr,zhw,ysu,yrg,ysv,ysw,ysx,ysz,ysa,hD,g14,g4,hw2]
    refine ⟨ms.length - (i + 1), by omega, i + 1, rfl, by omega, ?_, ?_, ?_, fr, ?_⟩
    · simp (disch := (first | (simp only [yk,seval]; done) | omega | (simp only [yz] <;> omega) | fail)) only [yg,Nat.reduceAdd,Nat.reduceEqDiff,Nat.reduceLT]
    · simp (disch := (first | (simp only [yk,seval]; done) | omega | (simp only [yz] <;> omega) | fail)) only [yg,Nat.reduceAdd,Nat.reduceEqDiff,Nat.reduceLT,g4]
    · simp (disch := (first | (simp only [yk,seval]; done) | omega | (simp only [yz] <;> omega) | fail)) only [yg,Nat.reduceAdd,Nat.reduceEqDiff,Nat.reduceLT,g10]
    · intro j t hj' ht
      by_cases e : j = i
      · subst e; rw [his] at ht; cases ht; exact hD
      · exact hj j t (by omega) ht
  have any3 : ¬ (ms.any fun n => off n 0 240) = true := by
    rw [any_false fun j s hj' hs' => hj j s (by have : ¬ i < ms.length := (by simpa using hlt); omega) hs']; simp
  simp (disch := (first | (simp only [yk,seval]; done) | omega | (simp only [yz] <;> omega) | fail)) only [↓yp,yq0,yq1,yq2,yq3,yq4,yl,ys0,ys1,seval,zed,zee,zfr,zhw,ysu,yrg,ysv,ysw,ysx,ysz,ysa,g10]
  unfold asked
  rw [if_neg (by simpa using h0), if_neg hnn, if_neg any1, if_neg any2, if_neg any3]
set_option maxHeartbeats 4000000 in
set_option maxRecDepth 10000 in
/-- The reference's Follow. -/
theorem c40 {a b : Option Addr} {cap cb : Nat} {l : List Str} {C w ld fr m : Int} {ls : List (Int × Bool)} (hs : Sl H a l) (hl : l.length ≤ 18) (hb : Lg H b ls) (hll : ls.length ≤ 65) (gd : Good C l ld) (hix : ∀ p ∈ ls, 0 ≤ p.1 ∧ p.1 < l.length) (hm : 0 ≤ m ∧ m ≤ 240) :
    acall tabA (aexec tabA Try.prog (N + 900)) 40 [.agg ⟨[.int .i64 C, .slice a l.length cap]⟩, .agg ⟨[.int .i64 w, .int .i64 ld]⟩, .int .i64 fr, .int .i64 m, .slice b ls.length cb] H = some (true, .tuple ⟨[.int .i64 (folL l w ld fr m ls).1, .int .i64 (folL l w ld fr m ls).2.1, .int .i64 (folL l w ld fr m ls).2.2]⟩, H, H.size) := by
  refine call_quiet (k := 57) (rs := [.tmp 10, .tmp 11, .tmp 12]) rfl fn_40 rfl rfl rfl ?_ rfl
  simp (disch := (first | (simp only [yk,seval]; done) | omega | (simp only [yz] <;> omega) | fail)) only [↓yp,yq0,yq1,yq2,yq3,yq4,yl,ys0,ys1,seval,zed,zee,zfr,zhw,ysu,yrg,ysv,ysw,ysx,ysz,ysa]
  refine W_while (n := 57) 750 (fun k e H' => ∃ (i : Nat) (x m' : Int), k = ls.length - i ∧ i ≤ ls.length ∧ gt 57 e 13 = .int .i64 (i : Nat) ∧ gt 57 e 4 = .slice b ls.length cb ∧ gt 57 e 5 = .pointer (some ⟨H.size, 0, none⟩) ∧ gt 57 e 6 = .pointer (some ⟨H.size + 1, 0, none⟩) ∧ gt 57 e 2 = .int .i64 x ∧ gt 57 e 3 = .int .i64 m' ∧ (0 ≤ m' ∧ m' ≤ 240) ∧ Fr H H' ∧ H.size + 2 ≤ H'.size ∧ H'.get H.size = .rw [.int .i64 C, .slice a l.length cap] 34 false [] ∧ H'.get (H.size + 1) = .rw [.int .i64 w, .int .i64 ld] 50 false [] ∧ folL l w ld x m' (ls.drop i) = folL l w ld fr m ls)
    ?_ 65 ls.length ⟨0, fr, m, by omega, by omega, by simp (disch := (first | (simp only [yk,seval]; done) | omega | (simp only [yz] <;> omega) | fail)) only [yg,Nat.reduceAdd,Nat.reduceEqDiff,Nat.reduceLT]; rfl, by simp (disch := (first | (simp only [yk,seval]; done) | omega | (simp only [yz] <;> omega) | fail)) only [yg,Nat.reduceAdd,Nat.reduceEqDiff,Nat.reduceLT], by simp (disch := (first | (simp only [yk,seval]; done) | omega | (simp only [yz] <;> omega) | fail)) only [yg,Nat.reduceAdd,Nat.reduceEqDiff,Nat.reduceLT], by simp (disch := (first | (simp only [yk,seval]; done) | omega | (simp only [yz] <;> omega) | fail)) only [yg,Nat.reduceAdd,Nat.reduceEqDiff,Nat.reduceLT], by simp (disch := (first | (simp only [yk,seval]; done) | omega | (simp only [yz] <;> omega) | fail)) only [yg,Nat.reduceAdd,Nat.reduceEqDiff,Nat.reduceLT], by simp (disch := (first | (simp only [yk,seval]; done) | omega | (simp only [yz] <;> omega) | fail)) only [yg,Nat.reduceAdd,Nat.reduceEqDiff,Nat.reduceLT], hm, by (repeat (first | exact Fr.refl _ | assumption | refine Fr.allocd ?_ _ | refine Fr.kill ?_ (by first | assumption | omega) | refine Fr.put ?_ (by first | omega | (simp only [yz] <;> omega)) _)), by (first | omega | (simp only [yz] <;> omega)), by simp (disch := (first | (simp only [yk,seval]; done) | omega | (simp only [yz] <;> omega) | fail)) only [yg,Nat.reduceAdd,Nat.reduceEqDiff,Nat.reduceLT], by simp (disch := (first | (simp only [yk,seval]; done) | omega | (simp only [yz] <;> omega) | fail)) only [yg,Nat.reduceAdd,Nat.reduceEqDiff,Nat.reduceLT], by simp⟩ (by omega) (by omega)
  rintro M k e H' ⟨i, x, m', rfl, hi, g13, g4, g5, g6, g2, g3, hm', fr', hlt, b5, b6, hfol⟩
  have szf := fr'.size
  simp (disch := (first | (simp only [yk,seval]; done) | omega | (simp only [yz] <;> omega) | fail)) only [↓yp,yq0,yq1,yq2,yq3,yq4,yl,ys0,ys1,seval,zed,zee,zfr,zhw,ysu,yrg,ysv,ysw,ysx,ysz,ysa,g13,g4,lenV_slice st_esS_72]
  refine ⟨fun hA => ?_, fun hA => ?_⟩
  rotate_left
  · have hi' : i = ls.length := by have := of_decide_eq_false hA; omega
    subst hi'
    rw [List.drop_length] at hfol
    simp only [folL] at hfol
    simp (disch := (first | (simp only [yk,seval]; done) | omega | (simp only [yz] <;> omega) | fail)) only [↓yp,yq0,yq1,yq2,yq3,yq4,yl,ys0,ys1,seval,zed,zee,zfr,zhw,ysu,yrg,ysv,ysw,ysx,ysz,ysa,g2,g3]
    rw [← hfol]
  have hi' : i < ls.length := by simpa using hA
  have hne : ls ≠ [] := fun h => by rw [h] at hi'; simp at hi'
  obtain ⟨bb, o, c, rfl, hb1, hcl, hp⟩ := hb.get hne
  obtain ⟨p, hpi⟩ : ∃ p, ls[i]? = some p := ⟨ls[i], by simp [hi']⟩
  have hrow := hp i p hpi
  have hcl' : cellsOf (H'.get bb) = some c := by rw [fr'.same bb hb1]; exact hcl
  have hw2 : w64 ((i : Int) + 1) = ((i + 1 : Nat) : Int) := by rw [w64_of (by omega)]; omega
  have hpr := hix p (List.mem_of_getElem? hpi)
  obtain ⟨q, hq⟩ : ∃ q : Nat, p.1 = q := ⟨p.1.toNat, by omega⟩
  obtain ⟨s, hsq⟩ : ∃ s, l[q]? = some s := ⟨l[q]'(by omega), by simp [show q < l.length by omega]⟩
  have hdr : ls.drop i = p :: ls.drop (i + 1) := by
    rw [List.drop_eq_getElem_cons hi']
    rw [(List.getElem?_eq_some_iff.1 hpi).2]
  rw [hdr] at hfol
  simp only [folL,hq,Int.toNat_natCast,hsq] at hfol
  have hf := gd.fit (List.mem_of_getElem? hsq)
  have h90 := fun (N : Nat) => c90 (N := N) (C := C) (cap := cap) (b := p.2) (hs.fr fr') hsq
  have h29 := fun (N : Nat) => c29 (N := N) (C := C) (w := w) (ld := ld) (cap := cap) (b := p.2) (hs.fr fr') hsq
  have h28 := fun (N : Nat) => c28 (N := N) (C := C) (w := w) (cap := cap) (b := p.2) (hs.fr fr') hsq hf hm'.1 hm'.2
  simp only [legV] at h90 h29 h28
  rw [hq] at hrow
  simp (disch := (first | (simp only [yk,seval]; done) | omega | (simp only [yz] <;> omega) | fail)) only [↓yp,yq0,yq1,yq2,yq3,yq4,yl,ys0,ys1,seval,zed,zee,zfr,zhw,ysu,yrg,ysv,ysw,ysx,ysz,ysa]
  refine W_draw [] rfl (by kernel_rfl) (by kernel_rfl) (by (first | omega | (simp only [yz] <;> omega))) ?_
  simp (disch := (first | (simp only [yk,seval]; done) | omega | (simp only [yz] <;> omega) | fail)) only [↓yp,yq0,yq1,yq2,yq3,yq4,yl,ys0,ys1,seval,zed,zee,zfr,zhw,ysu,yrg,ysv,ysw,ysx,ysz,ysa,g13,g4,g5,b5,A_indexSlice st_esS_72,hcl',hrow,h90]
  simp (disch := (first | (simp only [yk,seval]; done) | omega | (simp only [yz] <;> omega) | fail)) only [↓yp,yq0,yq1,yq2,yq3,yq4,yl,ys0,ys1,seval,zed,zee,zfr,zhw,ysu,yrg,ysv,ysw,ysx,ysz,ysa,g2]
  refine ⟨fun hB => ?_, fun hB => ?_⟩
  rotate_left
  · have hB' : nearL s p.2 ≠ x := by simpa using hB
    rw [if_neg hB'] at hfol
    simp (disch := (first | (simp only [yk,seval]; done) | omega | (simp only [yz] <;> omega) | fail)) only [↓yp,yq0,yq1,yq2,yq3,yq4,yl,ys0,ys1,seval,zed,zee,zfr,zhw,ysu,yrg,ysv,ysw,ysx,ysz,ysa]
    rw [← hfol]
  have hB' : nearL s p.2 = x := by simpa using hB
  rw [if_pos hB'] at hfol
  simp (disch := (first | (simp only [yk,seval]; done) | omega | (simp only [yz] <;> omega) | fail)) only [↓yp,yq0,yq1,yq2,yq3,yq4,yl,ys0,ys1,seval,zed,zee,zfr,zhw,ysu,yrg,ysv,ysw,ysx,ysz,ysa]
  refine W_draw [] rfl (by kernel_rfl) (by kernel_rfl) (by (first | omega | (simp only [yz] <;> omega))) ?_
  simp (disch := (first | (simp only [yk,seval]; done) | omega | (simp only [yz] <;> omega) | fail)) only [↓yp,yq0,yq1,yq2,yq3,yq4,yl,ys0,ys1,seval,zed,zee,zfr,zhw,ysu,yrg,ysv,ysw,ysx,ysz,ysa,g13,g4,g5,g6,b5,b6,A_indexSlice st_esS_72,hcl',hrow,h29]
  refine ⟨fun hC => ?_, fun hC => ?_⟩
  rotate_left
  · have hp : pasL s p.2 w ld m' = -1 := by unfold pasL; rw [hC]; rfl
    rw [if_pos hp] at hfol
    simp (disch := (first | (simp only [yk,seval]; done) | omega | (simp only [yz] <;> omega) | fail)) only [↓yp,yq0,yq1,yq2,yq3,yq4,yl,ys0,ys1,seval,zed,zee,zfr,zhw,ysu,yrg,ysv,ysw,ysx,ysz,ysa]
    rw [← hfol]
  have hpe : pasL s p.2 w ld m' = arriveL s p.2 ld m' := by unfold pasL; rw [hC]; rfl
  rw [hpe] at hfol
  simp (disch := (first | (simp only [yk,seval]; done) | omega | (simp only [yz] <;> omega) | fail)) only [↓yp,yq0,yq1,yq2,yq3,yq4,yl,ys0,ys1,seval,zed,zee,zfr,zhw,ysu,yrg,ysv,ysw,ysx,ysz,ysa]
  refine W_draw [] rfl (by kernel_rfl) (by kernel_rfl) (by (first | omega | (simp only [yz] <;> omega))) ?_
  simp (disch := (first | (simp only [yk,seval]; done) | omega | (simp only [yz] <;> omega) | fail)) only [↓yp,yq0,yq1,yq2,yq3,yq4,yl,ys0,ys1,seval,zed,zee,zfr,zhw,ysu,yrg,ysv,ysw,ysx,ysz,ysa,g13,g4,g3,g5,g6,b5,b6,A_indexSlice st_esS_72,hcl',hrow,h28]
  have hok := arr_ok (b := p.2) hf (m := m') ⟨by omega, by omega⟩
  simp only [arrL] at hok
  rw [if_neg (by omega)] at hok
  by_cases hD : arriveL s p.2 ld m' = -1
  · rw [if_pos hD] at hfol
    have hd : decide (arriveL s p.2 ld m' < 0) = true := decide_eq_true (by omega)
    simp (disch := (first | (simp only [yk,seval]; done) | omega | (simp only [yz] <;> omega) | fail)) only [↓yp,yq0,yq1,yq2,yq3,yq4,yl,ys0,ys1,seval,zed,zee,zfr,zhw,ysu,yrg,ysv,ysw,ysx,ysz,ysa,hd]
    rw [← hfol]
  · rw [if_neg hD] at hfol
    have hpo := arr_gt hf hm'.1 hD
    have hd : decide (arriveL s p.2 ld m' < 0) = false := decide_eq_false (by omega)
    simp (disch := (first | (simp only [yk,seval]; done) | omega | (simp only [yz] <;> omega) | fail)) only [↓yp,yq0,yq1,yq2,yq3,yq4,yl,ys0,ys1,seval,zed,zee,zfr,zhw,ysu,yrg,ysv,ysw,ysx,ysz,ysa,hd]
    simp (disch := (first | (simp only [yk,seval]; done) | omega | (simp only [yz] <;> omega) | fail)) only [↓yp,yq0,yq1,yq2,yq3,yq4,yl,ys0,ys1,seval,zed,zee,zfr,zhw,ysu,yrg,ysv,ysw,ysx,ysz,ysa,g13,hw2]
    refine ⟨ls.length - (i + 1), by omega, i + 1, farL s p.2, arriveL s p.2 ld m', rfl, by omega, ?_, ?_, ?_, ?_, ?_, ?_, by omega, fr', hlt, b5, b6, hfol⟩
    · simp (disch := (first | (simp only [yk,seval]; done) | omega | (simp only [yz] <;> omega) | fail)) only [yg,Nat.reduceAdd,Nat.reduceEqDiff,Nat.reduceLT]
    · simp (disch := (first | (simp only [yk,seval]; done) | omega | (simp only [yz] <;> omega) | fail)) only [yg,Nat.reduceAdd,Nat.reduceEqDiff,Nat.reduceLT,g4]
    · simp (disch := (first | (simp only [yk,seval]; done) | omega | (simp only [yz] <;> omega) | fail)) only [yg,Nat.reduceAdd,Nat.reduceEqDiff,Nat.reduceLT,g5]
    · simp (disch := (first | (simp only [yk,seval]; done) | omega | (simp only [yz] <;> omega) | fail)) only [yg,Nat.reduceAdd,Nat.reduceEqDiff,Nat.reduceLT,g6]
    · simp (disch := (first | (simp only [yk,seval]; done) | omega | (simp only [yz] <;> omega) | fail)) only [yg,Nat.reduceAdd,Nat.reduceEqDiff,Nat.reduceLT]
    · simp (disch := (first | (simp only [yk,seval]; done) | omega | (simp only [yz] <;> omega) | fail)) only [yg,Nat.reduceAdd,Nat.reduceEqDiff,Nat.reduceLT]
end Go.Am
