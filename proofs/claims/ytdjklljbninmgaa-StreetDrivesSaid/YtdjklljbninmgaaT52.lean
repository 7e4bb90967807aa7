/- The law StreetDrives: its own drive. -/
import Derived.Test.YtdjklljbninmgaaT51
import Derived.Test.YtdjklljbninmgaaT49
set_option linter.unusedSimpArgs false
set_option linter.unusedVariables false
namespace Go.Am
open Go.Proofs
variable {T : Tab} {P : Program} {N L : Nat} {H : AHeap} {Q : Bool → Value → AHeap → Prop}
/-- The minute of the drive, and the error. -/
def drvV (C : Int) (l : List Str) (w ld fr to m : Int) : Int × Int :=
  if asked C l w ld [fr, to] [] [m] ≠ 0 then (0, asked C l w ld [fr, to] [] [m]) else if tg (earT C l w ld fr m) to = -1 then (0, 1) else (tg (earT C l w ld fr m) to, 0)
/-- What the law knows of the drive that is told. -/
structure DD (C w ld : Int) (l : List Str) (fr to m : Int) (e : VT) (H' : AHeap) : Prop where
  g17 : gt 196 e 17 = .int .i64 (drvV C l w ld fr to m).1
  g18 : gt 196 e 18 = .int .i64 (drvV C l w ld fr to m).2
  dn : (drvV C l w ld fr to m).2 ≠ 0 → gt 196 e 16 = .slice none 0 0
  dr : (drvV C l w ld fr to m).2 = 0 → ∃ ad cd ls, gt 196 e 16 = .slice ad ls.length cd ∧ Lg H' ad ls ∧ Run l w ld (nxt dn0) (fr, 0) m ls (to, 0) (tg (earT C l w ld fr m) to) ∧ ls.length ≤ 7
section
variable {a a1 a2 al am : Option Addr} {cap cap1 cap2 cl cm : Nat} {l : List Str} {C w ld fr to m : Int} {ls : List (Int × Bool)} {e e' : VT} {H' H'' : AHeap}
theorem DD.next (D : DD C w ld l fr to m e H') (f : Fr H' H'') (k : Keep 196 [16, 17, 18] e e') : DD C w ld l fr to m e' H'' where
  g17 := (k 17 (by simp)).trans D.g17
  g18 := (k 18 (by simp)).trans D.g18
  dn h := (k 16 (by simp)).trans (D.dn h)
  dr h := by
    obtain ⟨ad, cd, ls, h1, h2, h3⟩ := D.dr h
    exact ⟨ad, cd, ls, (k 16 (by simp)).trans h1, h2.fr f, h3⟩
theorem drv_zero (h : (drvV C l w ld fr to m).2 = 0) : asked C l w ld [fr, to] [] [m] = 0 ∧ tg (earT C l w ld fr m) to ≠ -1 ∧ drvV C l w ld fr to m = (tg (earT C l w ld fr m) to, 0) := by
  unfold drvV at *
  split at h
  · rename_i h1; exact absurd h h1
  · rename_i h1
    rw [if_neg h1]
    split at h
    · simp at h
    · rename_i h2
      rw [if_neg h2]
      exact ⟨by simpa using h1, h2, rfl⟩
theorem plan5a {ops : List Oper} {env : Nat → Value} {H : AHeap} {x y z : Value} (hd : ops.map (·.dst) = [some 52, some 53, some 54, some 55, some 56, some 57, some 58, some 59, some 60, some 19]) (hx : env 2 = x) (hy : env 3 = y) (hz : env 4 = z) : tabA.plan ops env H = some [(5, .rw [x, y] 3 false []), (7, .rw [z] 3 false [])] := by
  rw [planB_hit hd (by decide) (by decide)]
  subst hx hy hz
  rfl
theorem plan5b {ops : List Oper} {env : Nat → Value} {H : AHeap} {x y : Value} (hd : ops.map (·.dst) = [some 139, some 140, some 141, some 142, some 143, some 144, some 145, some 146, some 147, some 148, some 19]) (hx : env 2 = x) (hy : env 4 = y) : tabA.plan ops env H = some [(4, .rw [x] 3 false []), (8, .rw [y] 3 false [])] := by
  rw [planB_hit hd (by decide) (by decide)]
  subst hx hy
  rfl
set_option maxHeartbeats 4000000 in
set_option maxRecDepth 10000 in
/-- The drive, and what the reference says of it. -/
theorem c5b {c : Code} {Q : Exit → ES → Prop} (I : LaidD H a cap l C w ld fr to m al cl ls e H' a1 cap1 a2 cap2 am cm) (hl : l.length ≤ 18)
    (hc : ∀ e' H'', LaidD H a cap l C w ld fr to m al cl ls e' H'' a1 cap1 a2 cap2 am cm → DD C w ld l fr to m e' H'' → gt 196 e' 19 = .int .i64 (drvV C l w ld fr to m).2 → gt 196 e' 20 = .int .i64 (drvV C l w ld fr to m).1 → W tabA Try.prog (N + 23993) none (sub [true, true, true, true, true, true, true] (bodyOf Try.f5)) H.size ⟨196, e', H'', []⟩ Q) (hcc : c = sub [true, true, true] (bodyOf Try.f5)) :
    W tabA Try.prog (N + 23997) none c H.size ⟨196, e, H', []⟩ Q := by
  subst hcc
  simp only [Try.f5,bodyOf,sub_nil,sub_seq0,sub_seq1,sub_block,sub_loop,sub_cond0,sub_cond1] at hc ⊢
  refine W_seqI (fun e' H'' => LaidD H a cap l C w ld fr to m al cl ls e' H'' a1 cap1 a2 cap2 am cm ∧ DD C w ld l fr to m e' H'') ?_ ?_
  · have sz := I.sz
    have g2 := I.g2
    have g3 := I.g3
    have g4 := I.g4
    have g7 := I.g7
    have g13 := I.g13
    have b7 := I.b7
    have b13 := I.b13
    simp (disch := (first | (simp only [yk,seval]; done) | omega | (simp only [yz] <;> omega) | fail)) only [↓yp,yq0,yq1,yq2,yq3,yq4,yl,ys0,ys1,seval,zed,zee,zfr,zhw,ysu,yrg,ysv,ysw,ysx,ysz,ysa,g2,g3,g4,g7,g13,b7,b13]
    refine c38 I.s1 hl (by omega) (by omega) ?_ ?_ ?_
    · intro h q H3 f3
      have z3 := f3.size
      have hv : drvV C l w ld fr to m = (0, asked C l w ld [fr, to] [] [m]) := by unfold drvV; rw [if_pos h]
      simp (disch := (first | (simp only [yk,seval]; done) | omega | (simp only [yz] <;> omega) | fail)) only [↓yp,yq0,yq1,yq2,yq3,yq4,yl,ys0,ys1,seval,zed,zee,zfr,zhw,ysu,yrg,ysv,ysw,ysx,ysz,ysa]
      refine ⟨I.next f3 (by (with_reducible (repeat (first | refine Keep.put ?_ (by decide) | refine Keep.none ?_ | assumption | exact Keep.refl _ _ _)))), ⟨?_, ?_, fun _ => ?_, fun h' => ?_⟩⟩
      · rw [hv]; simp (disch := (first | (simp only [yk,seval]; done) | omega | (simp only [yz] <;> omega) | fail)) only [yg,Nat.reduceAdd,Nat.reduceEqDiff,Nat.reduceLT]
      · rw [hv]; simp (disch := (first | (simp only [yk,seval]; done) | omega | (simp only [yz] <;> omega) | fail)) only [yg,Nat.reduceAdd,Nat.reduceEqDiff,Nat.reduceLT]
      · simp (disch := (first | (simp only [yk,seval]; done) | omega | (simp only [yz] <;> omega) | fail)) only [yg,Nat.reduceAdd,Nat.reduceEqDiff,Nat.reduceLT]
      · rw [hv] at h'; exact absurd h' h
    · intro h hz q H3 f3
      have z3 := f3.size
      have hv : drvV C l w ld fr to m = (0, 1) := by unfold drvV; rw [if_neg (by simpa using h), if_pos hz]
      simp (disch := (first | (simp only [yk,seval]; done) | omega | (simp only [yz] <;> omega) | fail)) only [↓yp,yq0,yq1,yq2,yq3,yq4,yl,ys0,ys1,seval,zed,zee,zfr,zhw,ysu,yrg,ysv,ysw,ysx,ysz,ysa]
      refine ⟨I.next f3 (by (with_reducible (repeat (first | refine Keep.put ?_ (by decide) | refine Keep.none ?_ | assumption | exact Keep.refl _ _ _)))), ⟨?_, ?_, fun _ => ?_, fun h' => ?_⟩⟩
      · rw [hv]; simp (disch := (first | (simp only [yk,seval]; done) | omega | (simp only [yz] <;> omega) | fail)) only [yg,Nat.reduceAdd,Nat.reduceEqDiff,Nat.reduceLT]
      · rw [hv]; simp (disch := (first | (simp only [yk,seval]; done) | omega | (simp only [yz] <;> omega) | fail)) only [yg,Nat.reduceAdd,Nat.reduceEqDiff,Nat.reduceLT]
      · simp (disch := (first | (simp only [yk,seval]; done) | omega | (simp only [yz] <;> omega) | fail)) only [yg,Nat.reduceAdd,Nat.reduceEqDiff,Nat.reduceLT]
      · rw [hv] at h'; simp at h'
    · intro h hz q v lsd H3 f3 hr hrun h7
      have z3 := f3.size
      have hv : drvV C l w ld fr to m = (tg (earT C l w ld fr m) to, 0) := by unfold drvV; rw [if_neg (by simpa using h), if_neg hz]
      obtain ⟨ad, cd, rfl, lg⟩ := hr.lg
      simp (disch := (first | (simp only [yk,seval]; done) | omega | (simp only [yz] <;> omega) | fail)) only [↓yp,yq0,yq1,yq2,yq3,yq4,yl,ys0,ys1,seval,zed,zee,zfr,zhw,ysu,yrg,ysv,ysw,ysx,ysz,ysa]
      refine ⟨I.next f3 (by (with_reducible (repeat (first | refine Keep.put ?_ (by decide) | refine Keep.none ?_ | assumption | exact Keep.refl _ _ _)))), ⟨?_, ?_, fun h' => ?_, fun _ => ⟨ad, cd, lsd, ?_, lg, hrun, h7⟩⟩⟩
      · rw [hv]; simp (disch := (first | (simp only [yk,seval]; done) | omega | (simp only [yz] <;> omega) | fail)) only [yg,Nat.reduceAdd,Nat.reduceEqDiff,Nat.reduceLT]
      · rw [hv]; simp (disch := (first | (simp only [yk,seval]; done) | omega | (simp only [yz] <;> omega) | fail)) only [yg,Nat.reduceAdd,Nat.reduceEqDiff,Nat.reduceLT]
      · rw [hv] at h'; exact absurd rfl h'
      · simp (disch := (first | (simp only [yk,seval]; done) | omega | (simp only [yz] <;> omega) | fail)) only [yg,Nat.reduceAdd,Nat.reduceEqDiff,Nat.reduceLT]
  clear I
  rintro e1 H1 ⟨I, D⟩
  refine W_seqI (fun e' H'' => LaidD H a cap l C w ld fr to m al cl ls e' H'' a1 cap1 a2 cap2 am cm ∧ DD C w ld l fr to m e' H'' ∧ gt 196 e' 19 = .int .i64 (asked C l w ld [fr, to] [] [m])) ?_ ?_
  · have sz := I.sz
    have g2 := I.g2
    have g3 := I.g3
    have g4 := I.g4
    have g7 := I.g7
    have g15 := I.g15
    have b7 := I.b7
    have b15 := I.b15
    refine W_drawR (pl := [(5, .rw [.int .i64 fr, .int .i64 to] 3 false []), (7, .rw [.int .i64 m] 3 false [])]) [] [] (plan5a rfl g2 g3 g4) (by kernel_rfl) (by kernel_rfl) (by kernel_rfl) (by (first | omega | (simp only [yz] <;> omega))) ?_
    have h26 := fun (H'' : AHeap) (f : Fr H1 H'') (N b₁ b₂ : Nat) (h₁ : cellsOf (H''.get b₁) = some [.int .i64 fr, .int .i64 to]) (h₂ : cellsOf (H''.get b₂) = some [.int .i64 m]) => c26 (N := N) (C := C) (w := w) (ld := ld) (cap := cap2) (kc := 2) (ks := 0) (km := 1) (cs := [fr, to]) (ss := []) (ms := [m]) (as' := none) (I.s2.fr f) hl (Il.two (lt_of_cells h₁) h₁) (by simp) Il.nil (by simp) (Il.one (lt_of_cells h₂) h₂) (by simp)
    simp only [List.length_cons,List.length_nil,Nat.zero_add,Nat.reduceAdd] at h26
    simp (disch := (first | (simp only [yk,seval]; done) | omega | (simp only [yz] <;> omega) | fail)) only [↓yp,yq0,yq1,yq2,yq3,yq4,yl,ys0,ys1,seval,zed,zee,zfr,zhw,ysu,yrg,ysv,ysw,ysx,ysz,ysa,g2,g3,g4,g7,g15,b7,b15,c27,newK_row st_brS_52_2,newK_row st_brS_52_1,maskE_nilSlice]
    rw [h26 _ (by (repeat (first | exact Fr.refl _ | assumption | refine Fr.allocd ?_ _ | refine Fr.kill ?_ (by first | assumption | omega) | refine Fr.put ?_ (by first | omega | (simp only [yz] <;> omega)) _))) _ _ _ (by simp (disch := (first | (simp only [yk,seval]; done) | omega | (simp only [yz] <;> omega) | fail)) only [yg,Nat.reduceAdd,Nat.reduceEqDiff,Nat.reduceLT]) (by simp (disch := (first | (simp only [yk,seval]; done) | omega | (simp only [yz] <;> omega) | fail)) only [yg,Nat.reduceAdd,Nat.reduceEqDiff,Nat.reduceLT])]
    simp (disch := (first | (simp only [yk,seval]; done) | omega | (simp only [yz] <;> omega) | fail)) only [↓yp,yq0,yq1,yq2,yq3,yq4,yl,ys0,ys1,seval,zed,zee,zfr,zhw,ysu,yrg,ysv,ysw,ysx,ysz,ysa,g2,g3,g4,g7,g15,b7,b15,c27,newK_row st_brS_52_2,newK_row st_brS_52_1,maskE_nilSlice]
    rw [h26 _ (by (repeat (first | exact Fr.refl _ | assumption | refine Fr.allocd ?_ _ | refine Fr.kill ?_ (by first | assumption | omega) | refine Fr.put ?_ (by first | omega | (simp only [yz] <;> omega)) _))) _ _ _ (by simp (disch := (first | (simp only [yk,seval]; done) | omega | (simp only [yz] <;> omega) | fail)) only [yg,Nat.reduceAdd,Nat.reduceEqDiff,Nat.reduceLT]) (by simp (disch := (first | (simp only [yk,seval]; done) | omega | (simp only [yz] <;> omega) | fail)) only [yg,Nat.reduceAdd,Nat.reduceEqDiff,Nat.reduceLT])]
    simp (disch := (first | (simp only [yk,seval]; done) | omega | (simp only [yz] <;> omega) | fail)) only [↓yp,yq0,yq1,yq2,yq3,yq4,yl,ys0,ys1,seval,zed,zee,zfr,zhw,ysu,yrg,ysv,ysw,ysx,ysz,ysa]
    refine ⟨I.next (by (repeat (first | exact Fr.refl _ | assumption | refine Fr.allocd ?_ _ | refine Fr.kill ?_ (by first | assumption | omega) | refine Fr.put ?_ (by first | omega | (simp only [yz] <;> omega)) _))) (by (with_reducible (repeat (first | refine Keep.put ?_ (by decide) | refine Keep.none ?_ | assumption | exact Keep.refl _ _ _)))), D.next (by (repeat (first | exact Fr.refl _ | assumption | refine Fr.allocd ?_ _ | refine Fr.kill ?_ (by first | assumption | omega) | refine Fr.put ?_ (by first | omega | (simp only [yz] <;> omega)) _))) (by (with_reducible (repeat (first | refine Keep.put ?_ (by decide) | refine Keep.none ?_ | assumption | exact Keep.refl _ _ _)))), ?_⟩
    simp (disch := (first | (simp only [yk,seval]; done) | omega | (simp only [yz] <;> omega) | fail)) only [yg,Nat.reduceAdd,Nat.reduceEqDiff,Nat.reduceLT]
  clear I D
  rintro e2 H2 ⟨I, D, g19⟩
  refine W_seqI (fun e' H'' => LaidD H a cap l C w ld fr to m al cl ls e' H'' a1 cap1 a2 cap2 am cm ∧ DD C w ld l fr to m e' H'' ∧ gt 196 e' 19 = .int .i64 (asked C l w ld [fr, to] [] [m]) ∧ gt 196 e' 20 = .int .i64 0) ?_ ?_
  · have sz := I.sz
    simp (disch := (first | (simp only [yk,seval]; done) | omega | (simp only [yz] <;> omega) | fail)) only [↓yp,yq0,yq1,yq2,yq3,yq4,yl,ys0,ys1,seval,zed,zee,zfr,zhw,ysu,yrg,ysv,ysw,ysx,ysz,ysa]
    refine ⟨I.next (Fr.refl _) (by (with_reducible (repeat (first | refine Keep.put ?_ (by decide) | refine Keep.none ?_ | assumption | exact Keep.refl _ _ _)))), D.next (Fr.refl _) (by (with_reducible (repeat (first | refine Keep.put ?_ (by decide) | refine Keep.none ?_ | assumption | exact Keep.refl _ _ _)))), ?_, ?_⟩
    · simp (disch := (first | (simp only [yk,seval]; done) | omega | (simp only [yz] <;> omega) | fail)) only [yg,Nat.reduceAdd,Nat.reduceEqDiff,Nat.reduceLT,g19]
    · simp (disch := (first | (simp only [yk,seval]; done) | omega | (simp only [yz] <;> omega) | fail)) only [yg,Nat.reduceAdd,Nat.reduceEqDiff,Nat.reduceLT]
  clear I D g19
  rintro e3 H3 ⟨I, D, g19, g20⟩
  refine W_seqI (fun e' H'' => LaidD H a cap l C w ld fr to m al cl ls e' H'' a1 cap1 a2 cap2 am cm ∧ DD C w ld l fr to m e' H'' ∧ gt 196 e' 19 = .int .i64 (drvV C l w ld fr to m).2 ∧ gt 196 e' 20 = .int .i64 (drvV C l w ld fr to m).1) ?_ (fun e' H'' h => hc e' H'' h.1 h.2.1 h.2.2.1 h.2.2.2)
  have sz := I.sz
  have g2 := I.g2
  have g3 := I.g3
  have g4 := I.g4
  have g7 := I.g7
  have g15 := I.g15
  have b7 := I.b7
  have b15 := I.b15
  by_cases h0 : asked C l w ld [fr, to] [] [m] = 0
  rotate_left
  · have hv : drvV C l w ld fr to m = (0, asked C l w ld [fr, to] [] [m]) := by unfold drvV; rw [if_pos h0]
    have hd0 : decide (asked C l w ld [fr, to] [] [m] = 0) = false := decide_eq_false h0
    simp (disch := (first | (simp only [yk,seval]; done) | omega | (simp only [yz] <;> omega) | fail)) only [↓yp,yq0,yq1,yq2,yq3,yq4,yl,ys0,ys1,seval,zed,zee,zfr,zhw,ysu,yrg,ysv,ysw,ysx,ysz,ysa,g19,hd0]
    rw [hv]
    refine ⟨I.next (Fr.refl _) (by (with_reducible (repeat (first | refine Keep.put ?_ (by decide) | refine Keep.none ?_ | assumption | exact Keep.refl _ _ _)))), D.next (Fr.refl _) (by (with_reducible (repeat (first | refine Keep.put ?_ (by decide) | refine Keep.none ?_ | assumption | exact Keep.refl _ _ _)))), ?_, ?_⟩
    · simp (disch := (first | (simp only [yk,seval]; done) | omega | (simp only [yz] <;> omega) | fail)) only [yg,Nat.reduceAdd,Nat.reduceEqDiff,Nat.reduceLT,g19]
    · simp (disch := (first | (simp only [yk,seval]; done) | omega | (simp only [yz] <;> omega) | fail)) only [yg,Nat.reduceAdd,Nat.reduceEqDiff,Nat.reduceLT,g20]
  obtain ⟨hck, hw, hd, hcs, -, hms⟩ := asked_ok h0
  have g := good_of hck hd
  have hC := g.hC
  have hfr := hcs fr (by simp)
  have hto := hcs to (by simp)
  have hm := hms m (by simp)
  have hlen := earT_len (w := w) g (fr := fr) (a₀ := m) (by omega) hm
  have hat := take_at hlen (by omega) (x := to) (by omega)
  have hok := (earT_ok (w := w) g (fr := fr) (a₀ := m) (by omega) hm).2 to
  unfold okM at hok
  rw [h0] at g19
  simp (disch := (first | (simp only [yk,seval]; done) | omega | (simp only [yz] <;> omega) | fail)) only [↓yp,yq0,yq1,yq2,yq3,yq4,yl,ys0,ys1,seval,zed,zee,zfr,zhw,ysu,yrg,ysv,ysw,ysx,ysz,ysa,g19]
  refine W_drawR (pl := []) [5] [(8, 0)] (planB_of rfl (by decide) (by decide) rfl) (by kernel_rfl) (by kernel_rfl) (by kernel_rfl) (by (first | omega | (simp only [yz] <;> omega))) ?_
  simp (disch := (first | (simp only [yk,seval]; done) | omega | (simp only [yz] <;> omega) | fail)) only [↓yp,yq0,yq1,yq2,yq3,yq4,yl,ys0,ys1,seval,zed,zee,zfr,zhw,ysu,yrg,ysv,ysw,ysx,ysz,ysa,g2,g3,g4,g7,g15,b7,b15,c27]
  refine c31 I.s2 hl g ⟨by omega, by omega⟩ hm (by (first | omega | (simp only [yz] <;> omega))) (by omega) ?_
  intro k cap' H4 fr4 hk1 hk2 hx
  have s4 := fr4.same
  have f4 := fr4.size
  obtain ⟨al', hx⟩ := hx
  by_cases hz : tg (earT C l w ld fr m) to = -1
  · have hv : drvV C l w ld fr to m = (0, 1) := by unfold drvV; rw [if_neg (by simpa using h0), if_pos hz]
    rw [hz] at hat
    simp (disch := (first | (simp only [yk,seval]; done) | omega | (simp only [yz] <;> omega) | fail)) only [↓yp,yq0,yq1,yq2,yq3,yq4,yl,ys0,ys1,seval,zed,zee,zfr,zhw,ysu,yrg,ysv,ysw,ysx,ysz,ysa,g2,g3,g4,g7,g15,b7,b15,c27,s4,A_indexSlice zir,hx,hat,zdh]
    rw [hv]
    refine ⟨I.next fr4 (by (with_reducible (repeat (first | refine Keep.put ?_ (by decide) | refine Keep.none ?_ | assumption | exact Keep.refl _ _ _)))), D.next fr4 (by (with_reducible (repeat (first | refine Keep.put ?_ (by decide) | refine Keep.none ?_ | assumption | exact Keep.refl _ _ _)))), ?_, ?_⟩
    · simp (disch := (first | (simp only [yk,seval]; done) | omega | (simp only [yz] <;> omega) | fail)) only [yg,Nat.reduceAdd,Nat.reduceEqDiff,Nat.reduceLT]
    · simp (disch := (first | (simp only [yk,seval]; done) | omega | (simp only [yz] <;> omega) | fail)) only [yg,Nat.reduceAdd,Nat.reduceEqDiff,Nat.reduceLT]
  · have hv : drvV C l w ld fr to m = (tg (earT C l w ld fr m) to, 0) := by unfold drvV; rw [if_neg (by simpa using h0), if_neg hz]
    have hd1 : decide (tg (earT C l w ld fr m) to < 0) = false := decide_eq_false (by omega)
    simp (disch := (first | (simp only [yk,seval]; done) | omega | (simp only [yz] <;> omega) | fail)) only [↓yp,yq0,yq1,yq2,yq3,yq4,yl,ys0,ys1,seval,zed,zee,zfr,zhw,ysu,yrg,ysv,ysw,ysx,ysz,ysa,g2,g3,g4,g7,g15,b7,b15,c27,s4,A_indexSlice zir,hx,hat,zdh,hd1]
    rw [hv]
    refine ⟨I.next fr4 (by (with_reducible (repeat (first | refine Keep.put ?_ (by decide) | refine Keep.none ?_ | assumption | exact Keep.refl _ _ _)))), D.next fr4 (by (with_reducible (repeat (first | refine Keep.put ?_ (by decide) | refine Keep.none ?_ | assumption | exact Keep.refl _ _ _)))), ?_, ?_⟩
    · simp (disch := (first | (simp only [yk,seval]; done) | omega | (simp only [yz] <;> omega) | fail)) only [yg,Nat.reduceAdd,Nat.reduceEqDiff,Nat.reduceLT,g19]
    · simp (disch := (first | (simp only [yk,seval]; done) | omega | (simp only [yz] <;> omega) | fail)) only [yg,Nat.reduceAdd,Nat.reduceEqDiff,Nat.reduceLT]
end
end Go.Am
