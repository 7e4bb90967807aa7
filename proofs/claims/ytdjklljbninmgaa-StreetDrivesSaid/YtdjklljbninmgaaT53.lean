/- The law StreetDrives: the drive is one, and ends where and when it is said. -/
import Derived.Test.YtdjklljbninmgaaT52
set_option linter.unusedSimpArgs false
set_option linter.unusedVariables false
namespace Go.Am
open Go.Proofs
variable {T : Tab} {P : Program} {N L : Nat} {H : AHeap} {Q : Bool → Value → AHeap → Prop}
section
variable {a a1 a2 al am : Option Addr} {cap cap1 cap2 cl cm : Nat} {l : List Str} {C w ld fr to m : Int} {ls : List (Int × Bool)} {e e' : VT} {H' H'' : AHeap}
theorem len0 : lenV tabA H 65 (.slice none 0 0) = some (.int .i64 0) := by rw [lenV_slice st_esS_65]; rfl
set_option maxHeartbeats 4000000 in
set_option maxRecDepth 10000 in
theorem c5c {c : Code} {Q : Exit → ES → Prop} (I : LaidD H a cap l C w ld fr to m al cl ls e H' a1 cap1 a2 cap2 am cm) (D : DD C w ld l fr to m e H') (g19 : gt 196 e 19 = .int .i64 (drvV C l w ld fr to m).2) (g20 : gt 196 e 20 = .int .i64 (drvV C l w ld fr to m).1) (hl : l.length ≤ 18)
    (hc : ∀ e' H'', LaidD H a cap l C w ld fr to m al cl ls e' H'' a1 cap1 a2 cap2 am cm → W tabA Try.prog (N + 23991) none (sub [true, true, true, true, true, true, true, true, true] (bodyOf Try.f5)) H.size ⟨196, e', H'', []⟩ Q) (hcc : c = sub [true, true, true, true, true, true, true] (bodyOf Try.f5)) :
    W tabA Try.prog (N + 23993) none c H.size ⟨196, e, H', []⟩ Q := by
  subst hcc
  simp only [Try.f5,bodyOf,sub_nil,sub_seq0,sub_seq1,sub_block,sub_loop,sub_cond0,sub_cond1] at hc ⊢
  refine W_seqI (fun e' H'' => LaidD H a cap l C w ld fr to m al cl ls e' H'' a1 cap1 a2 cap2 am cm ∧ DD C w ld l fr to m e' H'') ?_ ?_
  · have sz := I.sz
    have g17 := D.g17
    have g18 := D.g18
    by_cases hz : (drvV C l w ld fr to m).2 = 0
    · rw [hz] at g18 g19
      simp (disch := (first | (simp only [yk,seval]; done) | omega | (simp only [yz] <;> omega) | fail)) only [↓yp,yq0,yq1,yq2,yq3,yq4,yl,ys0,ys1,seval,zed,zee,zfr,zhw,ysu,yrg,ysv,ysw,ysx,ysz,ysa,g17,g18,g19,g20,hcd]
      exact ⟨I.next (Fr.refl _) (by (with_reducible (repeat (first | refine Keep.put ?_ (by decide) | refine Keep.none ?_ | assumption | exact Keep.refl _ _ _)))), D.next (Fr.refl _) (by (with_reducible (repeat (first | refine Keep.put ?_ (by decide) | refine Keep.none ?_ | assumption | exact Keep.refl _ _ _))))⟩
    · have g16 := D.dn hz
      have hd0 : decide ((drvV C l w ld fr to m).2 = 0) = false := decide_eq_false hz
      simp (disch := (first | (simp only [yk,seval]; done) | omega | (simp only [yz] <;> omega) | fail)) only [↓yp,yq0,yq1,yq2,yq3,yq4,yl,ys0,ys1,seval,zed,zee,zfr,zhw,ysu,yrg,ysv,ysw,ysx,ysz,ysa,g16,g17,g18,g19,g20,hcd,hd0,len0]
      exact ⟨I.next (Fr.refl _) (by (with_reducible (repeat (first | refine Keep.put ?_ (by decide) | refine Keep.none ?_ | assumption | exact Keep.refl _ _ _)))), D.next (Fr.refl _) (by (with_reducible (repeat (first | refine Keep.put ?_ (by decide) | refine Keep.none ?_ | assumption | exact Keep.refl _ _ _))))⟩
  clear I D g19 g20
  rintro e1 H1 ⟨I, D⟩
  refine W_seqI (fun e' H'' => LaidD H a cap l C w ld fr to m al cl ls e' H'' a1 cap1 a2 cap2 am cm) ?_ hc
  clear hc
  have sz := I.sz
  have g17 := D.g17
  have g18 := D.g18
  by_cases hz : (drvV C l w ld fr to m).2 = 0
  rotate_left
  · have hd0 : decide ((drvV C l w ld fr to m).2 = 0) = false := decide_eq_false hz
    simp (disch := (first | (simp only [yk,seval]; done) | omega | (simp only [yz] <;> omega) | fail)) only [↓yp,yq0,yq1,yq2,yq3,yq4,yl,ys0,ys1,seval,zed,zee,zfr,zhw,ysu,yrg,ysv,ysw,ysx,ysz,ysa,g18,hd0]
    exact I.next (Fr.refl _) (by (with_reducible (repeat (first | refine Keep.put ?_ (by decide) | refine Keep.none ?_ | assumption | exact Keep.refl _ _ _))))
  obtain ⟨h0, hne, hv⟩ := drv_zero hz
  obtain ⟨ad, cd, lsd, g16, lg, hrun, h7⟩ := D.dr hz
  simp only [hv] at g17 g18
  obtain ⟨hck, hw, hd, hcs, -, hms⟩ := asked_ok h0
  have g := good_of hck hd
  have hfr := hcs fr (by simp)
  have hm := hms m (by simp)
  obtain ⟨hfol, hidx⟩ := run_fol hrun
  have hix : ∀ p ∈ lsd, 0 ≤ p.1 ∧ p.1 < l.length := fun p hp => by
    obtain ⟨q1, q2⟩ := hidx p hp
    refine ⟨q1, ?_⟩
    apply Classical.byContradiction
    intro hge
    exact q2 (List.getElem?_eq_none (by omega))
  have h01 : asked C l w ld [] (lsd.map (·.1)) [] = 0 := asked_of hck hw hd (by simp) (by
    intro n hn
    obtain ⟨p, hp, rfl⟩ := List.mem_map.1 hn
    have := hix p hp
    omega) (by simp)
  simp (disch := (first | (simp only [yk,seval]; done) | omega | (simp only [yz] <;> omega) | fail)) only [↓yp,yq0,yq1,yq2,yq3,yq4,yl,ys0,ys1,seval,zed,zee,zfr,zhw,ysu,yrg,ysv,ysw,ysx,ysz,ysa,g18]
  have g2 := I.g2
  have g3 := I.g3
  have g4 := I.g4
  have g7 := I.g7
  have g15 := I.g15
  have b7 := I.b7
  have b15 := I.b15
  have hd60 : decide ((60 : Int) < lsd.length) = false := decide_eq_false (by omega)
  have h26 := fun (N : Nat) (H'' : AHeap) (f : Fr H1 H'') (as' : Option Addr) (ks : Nat) (hi : Il H'' as' (lsd.map (·.1))) => c26w (N := N) (C := C) (w := w) (ld := ld) (cap := cap2) (kc := 0) (ks := ks) (km := 0) (cs := []) (ss := lsd.map (·.1)) (ms := []) (ac := none) (as' := as') (am := none) (I.s2.fr f) hl Il.nil (by simp) hi (by rw [List.length_map]; omega) Il.nil (by simp)
  simp only [List.length_nil,List.length_map,h01] at h26
  have h40 := fun (N : Nat) (H'' : AHeap) (f : Fr H1 H'') (b : Option Addr) (cb : Nat) (hi : Lg H'' b lsd) => c40 (N := N) (C := C) (w := w) (ld := ld) (fr := fr) (m := m) (cap := cap2) (cb := cb) (I.s2.fr f) hl hi (by omega) g hix hm
  simp only [hfol] at h40
  by_cases hn : lsd = []
  · subst hn
    simp only [List.length_nil] at h26 h40 g16
    have h26' := fun (N : Nat) => h26 N H1 (Fr.refl _) none 0 Il.nil
    have h40' := fun (N : Nat) => h40 N H1 (Fr.refl _) none 0 Lg.nil
    refine W_drawR (pl := []) [] [] (planB_of rfl (by decide) (by decide) rfl) (by kernel_rfl) (by kernel_rfl) (by kernel_rfl) (by (first | omega | (simp only [yz] <;> omega))) ?_
    simp (disch := (first | (simp only [yk,seval]; done) | omega | (simp only [yz] <;> omega) | fail)) only [↓yp,yq0,yq1,yq2,yq3,yq4,yl,ys0,ys1,seval,zed,zee,zfr,zhw,ysu,yrg,ysv,ysw,ysx,ysz,ysa,g7,g15,g16,b7,b15,c27,c39n,h26',maskE_nilSlice,lenV_slice st_esS_65,Int.natCast_zero]
    refine W_drawR (pl := []) [] [] (planB_of rfl (by decide) (by decide) rfl) (by kernel_rfl) (by kernel_rfl) (by kernel_rfl) (by (first | omega | (simp only [yz] <;> omega))) ?_
    simp (disch := (first | (simp only [yk,seval]; done) | omega | (simp only [yz] <;> omega) | fail)) only [↓yp,yq0,yq1,yq2,yq3,yq4,yl,ys0,ys1,seval,zed,zee,zfr,zhw,ysu,yrg,ysv,ysw,ysx,ysz,ysa,g2,g4,g7,g15,g16,b7,b15,c27,c41n,h40']
    simp (disch := (first | (simp only [yk,seval]; done) | omega | (simp only [yz] <;> omega) | fail)) only [↓yp,yq0,yq1,yq2,yq3,yq4,yl,ys0,ys1,seval,zed,zee,zfr,zhw,ysu,yrg,ysv,ysw,ysx,ysz,ysa,g3,g17,hcd]
    exact I.next (Fr.refl _) (by (with_reducible (repeat (first | refine Keep.put ?_ (by decide) | refine Keep.none ?_ | assumption | exact Keep.refl _ _ _))))
  · refine W_drawR (pl := []) [8] [(9, 0)] (planB_of rfl (by decide) (by decide) rfl) (by kernel_rfl) (by kernel_rfl) (by kernel_rfl) (by (first | omega | (simp only [yz] <;> omega))) ?_
    simp (disch := (first | (simp only [yk,seval]; done) | omega | (simp only [yz] <;> omega) | fail)) only [↓yp,yq0,yq1,yq2,yq3,yq4,yl,ys0,ys1,seval,zed,zee,zfr,zhw,ysu,yrg,ysv,ysw,ysx,ysz,ysa,g7,g15,g16,b7,b15,c27,maskE_nilSlice,lenV_slice st_esS_65,hd60]
    refine c39 lg hn (by omega) (by (first | omega | (simp only [yz] <;> omega))) (by omega) ?_
    intro k cs H2 f2 hil
    have z2 := f2.size
    have s2 := f2.same
    have h26' := fun (N : Nat) => h26 N H2 f2 k cs hil
    simp (disch := (first | (simp only [yk,seval]; done) | omega | (simp only [yz] <;> omega) | fail)) only [↓yp,yq0,yq1,yq2,yq3,yq4,yl,ys0,ys1,seval,zed,zee,zfr,zhw,ysu,yrg,ysv,ysw,ysx,ysz,ysa,g7,g15,g16,b7,b15,c27,lenV_slice st_esS_65,hd60,s2,h26',maskE_nilSlice]
    refine W_drawR (pl := []) [6] [(7, 0)] (planB_of rfl (by decide) (by decide) rfl) (by kernel_rfl) (by kernel_rfl) (by kernel_rfl) (by (first | omega | (simp only [yz] <;> omega))) ?_
    have x7 := (s2 (H.size + 1) (by omega)).trans b7
    have x15 := (s2 (H.size + 2 + 1) (by omega)).trans b15
    simp (disch := (first | (simp only [yk,seval]; done) | omega | (simp only [yz] <;> omega) | fail)) only [↓yp,yq0,yq1,yq2,yq3,yq4,yl,ys0,ys1,seval,zed,zee,zfr,zhw,ysu,yrg,ysv,ysw,ysx,ysz,ysa,g2,g4,g7,g15,g16,x7,x15,c27]
    refine c41 (lg.fr f2) hn (by omega) (by (first | omega | (simp only [yz] <;> omega))) (by omega) ?_
    intro k3 c3 H3 f3 lg3
    have z3 := f3.size
    have s3 := f3.same
    have h40' := fun (N : Nat) => h40 N H3 (f2.trans f3) k3 c3 lg3
    simp (disch := (first | (simp only [yk,seval]; done) | omega | (simp only [yz] <;> omega) | fail)) only [↓yp,yq0,yq1,yq2,yq3,yq4,yl,ys0,ys1,seval,zed,zee,zfr,zhw,ysu,yrg,ysv,ysw,ysx,ysz,ysa,g2,g4,g7,g15,g16,x7,x15,c27,s3,h40']
    simp (disch := (first | (simp only [yk,seval]; done) | omega | (simp only [yz] <;> omega) | fail)) only [↓yp,yq0,yq1,yq2,yq3,yq4,yl,ys0,ys1,seval,zed,zee,zfr,zhw,ysu,yrg,ysv,ysw,ysx,ysz,ysa,g3,g17,hcd]
    exact I.next (f2.trans f3) (by (with_reducible (repeat (first | refine Keep.put ?_ (by decide) | refine Keep.none ?_ | assumption | exact Keep.refl _ _ _))))
end
end Go.Am
/- The law StreetDrives. -/
namespace Go.Am
open Go.Proofs
variable {T : Tab} {P : Program} {N L : Nat} {H : AHeap} {Q : Bool → Value → AHeap → Prop}
section
variable {a a1 a2 al am : Option Addr} {cap cap1 cap2 cl cm : Nat} {l : List Str} {C w ld fr to m : Int} {ls : List (Int × Bool)} {e e' : VT} {H' H'' : AHeap}
set_option maxHeartbeats 4000000 in
set_option maxRecDepth 10000 in
theorem c5d {c : Code} (I : LaidD H a cap l C w ld fr to m al cl ls e H' a1 cap1 a2 cap2 am cm) (hl : l.length ≤ 18) (hs : Sl H a l) (hb : Lg H al ls) (hll : ls.length ≤ 65) (hok : ∀ s ∈ l, s.Ok) (hcc : c = sub [true, true, true, true, true, true, true, true, true] (bodyOf Try.f5)) :
    W tabA Try.prog (N + 23991) none c H.size ⟨196, e, H', []⟩ (retK tabA H.size [.tmp 12] fun v _ => v = .bool true) := by
  subst hcc
  simp only [Try.f5,bodyOf,sub_nil,sub_seq0,sub_seq1,sub_block,sub_loop,sub_cond0,sub_cond1]
  obtain ⟨F, hF⟩ : ∃ F, folG C l w ld fr m ls = F := ⟨_, rfl⟩
  refine W_seqI (fun e' H'' => LaidD H a cap l C w ld fr to m al cl ls e' H'' a1 cap1 a2 cap2 am cm ∧ gt 196 e' 24 = .int .i64 F.1 ∧ gt 196 e' 25 = .int .i64 F.2.1 ∧ gt 196 e' 18 = .int .i64 F.2.2) ?_ ?_
  · have sz := I.sz
    have g2 := I.g2
    have g4 := I.g4
    have g7 := I.g7
    have g13 := I.g13
    have g14 := I.g14
    have b7 := I.b7
    have b13 := I.b13
    have h42 := fun (N : Nat) => c42 (N := N) (C := C) (w := w) (ld := ld) (fr := fr) (m := m) (cap := cap1) (cb := cm) I.s1 hl I.m1 hll
    rw [hF] at h42
    simp (disch := (first | (simp only [yk,seval]; done) | omega | (simp only [yz] <;> omega) | fail)) only [↓yp,yq0,yq1,yq2,yq3,yq4,yl,ys0,ys1,seval,zed,zee,zfr,zhw,ysu,yrg,ysv,ysw,ysx,ysz,ysa,g2,g4,g7,g13,g14,b7,b13,h42]
    refine ⟨I.next (Fr.refl _) (by (with_reducible (repeat (first | refine Keep.put ?_ (by decide) | refine Keep.none ?_ | assumption | exact Keep.refl _ _ _)))), ?_, ?_, ?_⟩ <;> simp (disch := (first | (simp only [yk,seval]; done) | omega | (simp only [yz] <;> omega) | fail)) only [yg,Nat.reduceAdd,Nat.reduceEqDiff,Nat.reduceLT]
  clear I
  rintro e1 H1 ⟨I, g24, g25, g18⟩
  refine W_seqI (fun e' H'' => LaidD H a cap l C w ld fr to m al cl ls e' H'' a1 cap1 a2 cap2 am cm ∧ Keep 196 [24, 25, 18] e1 e' ∧ gt 196 e' 26 = .int .i64 0 ∧ gt 196 e' 27 = .int .i64 0) ?_ ?_
  · have sz := I.sz
    simp (disch := (first | (simp only [yk,seval]; done) | omega | (simp only [yz] <;> omega) | fail)) only [↓yp,yq0,yq1,yq2,yq3,yq4,yl,ys0,ys1,seval,zed,zee,zfr,zhw,ysu,yrg,ysv,ysw,ysx,ysz,ysa]
    refine ⟨I.next (Fr.refl _) (by (with_reducible (repeat (first | refine Keep.put ?_ (by decide) | refine Keep.none ?_ | assumption | exact Keep.refl _ _ _)))), by (with_reducible (repeat (first | refine Keep.put ?_ (by decide) | refine Keep.none ?_ | assumption | exact Keep.refl _ _ _))), ?_, ?_⟩ <;> simp (disch := (first | (simp only [yk,seval]; done) | omega | (simp only [yz] <;> omega) | fail)) only [yg,Nat.reduceAdd,Nat.reduceEqDiff,Nat.reduceLT]
  clear I
  rintro e2 H2 ⟨I, k2, g26, g27⟩
  obtain ⟨q, hq⟩ : ∃ q, asked C l w ld [fr] (ls.map (·.1)) [m] = q := ⟨_, rfl⟩
  refine W_seqI (fun e' H'' => LaidD H a cap l C w ld fr to m al cl ls e' H'' a1 cap1 a2 cap2 am cm ∧ Keep 196 [24, 25, 18, 26, 27] e2 e' ∧ gt 196 e' 19 = .int .i64 (if q = 0 ∧ 60 < ls.length then 3 else q)) ?_ ?_
  · refine W_seqI (fun e' H'' => LaidD H a cap l C w ld fr to m al cl ls e' H'' a1 cap1 a2 cap2 am cm ∧ Keep 196 [24, 25, 18, 26, 27] e2 e' ∧ gt 196 e' 19 = .int .i64 q) ?_ ?_
    · have sz := I.sz
      have g2 := I.g2
      have g4 := I.g4
      have g5 := I.g5
      have g7 := I.g7
      have g15 := I.g15
      have b7 := I.b7
      have b15 := I.b15
      have h26 := fun (N : Nat) (H'' : AHeap) (f : Fr H2 H'') (as' : Option Addr) (b₁ b₂ ks : Nat) (h₁ : cellsOf (H''.get b₁) = some [.int .i64 fr]) (h₂ : cellsOf (H''.get b₂) = some [.int .i64 m]) (hi : Il H'' as' (ls.map (·.1))) => c26w (N := N) (C := C) (w := w) (ld := ld) (cap := cap2) (kc := 1) (ks := ks) (km := 1) (cs := [fr]) (ss := ls.map (·.1)) (ms := [m]) (as' := as') (I.s2.fr f) hl (Il.one (lt_of_cells h₁) h₁) (by simp) hi (by rw [List.length_map]; omega) (Il.one (lt_of_cells h₂) h₂) (by simp)
      simp only [List.length_cons,List.length_nil,Nat.zero_add,List.length_map,hq] at h26
      by_cases hn : ls = []
      · subst hn
        simp only [List.length_nil] at h26 g5
        refine W_drawR (pl := [(4, .rw [.int .i64 fr] 3 false []), (8, .rw [.int .i64 m] 3 false [])]) [] [] (plan5b rfl g2 g4) (by kernel_rfl) (by kernel_rfl) (by kernel_rfl) (by (first | omega | (simp only [yz] <;> omega))) ?_
        have y7 : ((H2.alloc (.rw [.int .i64 fr] 3 false [])).alloc (.rw [.int .i64 m] 3 false [])).get H2.size = .rw [.int .i64 fr] 3 false [] := by rw [zdb (by (first | omega | (simp only [yz] <;> omega))), zda rfl]
        have y8 : ((H2.alloc (.rw [.int .i64 fr] 3 false [])).alloc (.rw [.int .i64 m] 3 false [])).get (H2.size + 1) = .rw [.int .i64 m] 3 false [] := by rw [zda (by (first | omega | (simp only [yz] <;> omega)))]
        have h26' := fun (N : Nat) => h26 N ((H2.alloc (.rw [.int .i64 fr] 3 false [])).alloc (.rw [.int .i64 m] 3 false [])) (by (repeat (first | exact Fr.refl _ | assumption | refine Fr.allocd ?_ _ | refine Fr.kill ?_ (by first | assumption | omega) | refine Fr.put ?_ (by first | omega | (simp only [yz] <;> omega)) _))) none H2.size (H2.size + 1) 0 (by rw [y7]; rfl) (by rw [y8]; rfl) Il.nil
        simp (disch := (first | (simp only [yk,seval]; done) | omega | (simp only [yz] <;> omega) | fail)) only [↓yp,yq0,yq1,yq2,yq3,yq4,yl,ys0,ys1,seval,zed,zee,zfr,zhw,ysu,yrg,ysv,ysw,ysx,ysz,ysa,g2,g4,g5,g7,g15,b7,b15,c27,c39n,newK_row st_brS_52_1,h26',maskE_nilSlice]
        refine ⟨I.next (by (repeat (first | exact Fr.refl _ | assumption | refine Fr.allocd ?_ _ | refine Fr.kill ?_ (by first | assumption | omega) | refine Fr.put ?_ (by first | omega | (simp only [yz] <;> omega)) _))) (by (with_reducible (repeat (first | refine Keep.put ?_ (by decide) | refine Keep.none ?_ | assumption | exact Keep.refl _ _ _)))), by (with_reducible (repeat (first | refine Keep.put ?_ (by decide) | refine Keep.none ?_ | assumption | exact Keep.refl _ _ _))), ?_⟩
        simp (disch := (first | (simp only [yk,seval]; done) | omega | (simp only [yz] <;> omega) | fail)) only [yg,Nat.reduceAdd,Nat.reduceEqDiff,Nat.reduceLT]
      · refine W_drawR (pl := [(4, .rw [.int .i64 fr] 3 false []), (8, .rw [.int .i64 m] 3 false [])]) [6] [(9, 0)] (plan5b rfl g2 g4) (by kernel_rfl) (by kernel_rfl) (by kernel_rfl) (by (first | omega | (simp only [yz] <;> omega))) ?_
        simp (disch := (first | (simp only [yk,seval]; done) | omega | (simp only [yz] <;> omega) | fail)) only [↓yp,yq0,yq1,yq2,yq3,yq4,yl,ys0,ys1,seval,zed,zee,zfr,zhw,ysu,yrg,ysv,ysw,ysx,ysz,ysa,g2,g4,g5,g7,g15,b7,b15,c27,newK_row st_brS_52_1,maskE_nilSlice]
        refine c39 (hb.fr (I.fr.trans (by (repeat (first | exact Fr.refl _ | assumption | refine Fr.allocd ?_ _ | refine Fr.kill ?_ (by first | assumption | omega) | refine Fr.put ?_ (by first | omega | (simp only [yz] <;> omega)) _))))) hn hll (by (first | omega | (simp only [yz] <;> omega))) (by omega) ?_
        intro k cs H3 f3 hil
        have z3 := f3.size
        have s3 := f3.same
        simp only [zde] at z3
        have y7 : H3.get H2.size = .rw [.int .i64 fr] 3 false [] := by rw [s3 _ (by (first | omega | (simp only [yz] <;> omega))), zdb (by (first | omega | (simp only [yz] <;> omega))), zda rfl]
        have y8 : H3.get (H2.size + 1) = .rw [.int .i64 m] 3 false [] := by rw [s3 _ (by (first | omega | (simp only [yz] <;> omega))), zda (by (first | omega | (simp only [yz] <;> omega)))]
        have x7 : H3.get (H.size + 1) = .rw [.int .i64 w, .int .i64 ld] 26 false [] := by rw [s3 _ (by (first | omega | (simp only [yz] <;> omega))), zdb (by (first | omega | (simp only [yz] <;> omega))), zdb (by omega)]; exact b7
        have x15 : H3.get (H.size + 2 + 1) = .rw [.int .i64 C, .slice a2 l.length cap2] 34 false [] := by rw [s3 _ (by (first | omega | (simp only [yz] <;> omega))), zdb (by (first | omega | (simp only [yz] <;> omega))), zdb (by omega)]; exact b15
        have h26' := fun (N : Nat) => h26 N H3 (Fr.trans (by (repeat (first | exact Fr.refl _ | assumption | refine Fr.allocd ?_ _ | refine Fr.kill ?_ (by first | assumption | omega) | refine Fr.put ?_ (by first | omega | (simp only [yz] <;> omega)) _))) f3) k H2.size (H2.size + 1) cs (by rw [y7]; rfl) (by rw [y8]; rfl) hil
        simp (disch := (first | (simp only [yk,seval]; done) | omega | (simp only [yz] <;> omega) | fail)) only [↓yp,yq0,yq1,yq2,yq3,yq4,yl,ys0,ys1,seval,zed,zee,zfr,zhw,ysu,yrg,ysv,ysw,ysx,ysz,ysa,g2,g4,g5,g7,g15,x7,x15,b7,b15,c27,newK_row st_brS_52_1,maskE_nilSlice,y7,y8,h26']
        refine ⟨I.next (Fr.trans (by (repeat (first | exact Fr.refl _ | assumption | refine Fr.allocd ?_ _ | refine Fr.kill ?_ (by first | assumption | omega) | refine Fr.put ?_ (by first | omega | (simp only [yz] <;> omega)) _))) f3) (by (with_reducible (repeat (first | refine Keep.put ?_ (by decide) | refine Keep.none ?_ | assumption | exact Keep.refl _ _ _)))), by (with_reducible (repeat (first | refine Keep.put ?_ (by decide) | refine Keep.none ?_ | assumption | exact Keep.refl _ _ _))), ?_⟩
        simp (disch := (first | (simp only [yk,seval]; done) | omega | (simp only [yz] <;> omega) | fail)) only [yg,Nat.reduceAdd,Nat.reduceEqDiff,Nat.reduceLT]
    clear I
    rintro e3 H3 ⟨I, k3, g19⟩
    have sz := I.sz
    have g5 := I.g5
    by_cases h0 : q = 0
    · subst h0
      by_cases h60 : 60 < ls.length
      · have hd : decide ((60 : Int) < ls.length) = true := decide_eq_true (by omega)
        rw [if_pos ⟨rfl, h60⟩]
        simp (disch := (first | (simp only [yk,seval]; done) | omega | (simp only [yz] <;> omega) | fail)) only [↓yp,yq0,yq1,yq2,yq3,yq4,yl,ys0,ys1,seval,zed,zee,zfr,zhw,ysu,yrg,ysv,ysw,ysx,ysz,ysa,g5,g19,lenV_slice st_esS_65,hd]
        refine ⟨I.next (Fr.refl _) (by (with_reducible (repeat (first | refine Keep.put ?_ (by decide) | refine Keep.none ?_ | assumption | exact Keep.refl _ _ _)))), by (with_reducible (repeat (first | refine Keep.put ?_ (by decide) | refine Keep.none ?_ | assumption | exact Keep.refl _ _ _))), ?_⟩
        simp (disch := (first | (simp only [yk,seval]; done) | omega | (simp only [yz] <;> omega) | fail)) only [yg,Nat.reduceAdd,Nat.reduceEqDiff,Nat.reduceLT]
      · have hd : decide ((60 : Int) < ls.length) = false := decide_eq_false (by omega)
        rw [if_neg (fun h => h60 h.2)]
        simp (disch := (first | (simp only [yk,seval]; done) | omega | (simp only [yz] <;> omega) | fail)) only [↓yp,yq0,yq1,yq2,yq3,yq4,yl,ys0,ys1,seval,zed,zee,zfr,zhw,ysu,yrg,ysv,ysw,ysx,ysz,ysa,g5,g19,lenV_slice st_esS_65,hd]
        refine ⟨I.next (Fr.refl _) (by (with_reducible (repeat (first | refine Keep.put ?_ (by decide) | refine Keep.none ?_ | assumption | exact Keep.refl _ _ _)))), by (with_reducible (repeat (first | refine Keep.put ?_ (by decide) | refine Keep.none ?_ | assumption | exact Keep.refl _ _ _))), ?_⟩
        simp (disch := (first | (simp only [yk,seval]; done) | omega | (simp only [yz] <;> omega) | fail)) only [yg,Nat.reduceAdd,Nat.reduceEqDiff,Nat.reduceLT,g19]
    · have hd0 : decide (q = 0) = false := decide_eq_false h0
      rw [if_neg (fun h => h0 h.1)]
      simp (disch := (first | (simp only [yk,seval]; done) | omega | (simp only [yz] <;> omega) | fail)) only [↓yp,yq0,yq1,yq2,yq3,yq4,yl,ys0,ys1,seval,zed,zee,zfr,zhw,ysu,yrg,ysv,ysw,ysx,ysz,ysa,g19,hd0]
      refine ⟨I.next (Fr.refl _) (by (with_reducible (repeat (first | refine Keep.put ?_ (by decide) | refine Keep.none ?_ | assumption | exact Keep.refl _ _ _)))), by (with_reducible (repeat (first | refine Keep.put ?_ (by decide) | refine Keep.none ?_ | assumption | exact Keep.refl _ _ _))), ?_⟩
      simp (disch := (first | (simp only [yk,seval]; done) | omega | (simp only [yz] <;> omega) | fail)) only [yg,Nat.reduceAdd,Nat.reduceEqDiff,Nat.reduceLT,g19]
  clear I
  rintro e3 H3 ⟨I, k3, g19⟩
  refine W_seqI (fun e' H'' => LaidD H a cap l C w ld fr to m al cl ls e' H'' a1 cap1 a2 cap2 am cm ∧ Keep 196 [24, 25, 18] e1 e' ∧ gt 196 e' 26 = .int .i64 F.1 ∧ gt 196 e' 27 = .int .i64 F.2.1 ∧ gt 196 e' 19 = .int .i64 F.2.2) ?_ ?_
  · have sz := I.sz
    have g2 := I.g2
    have g4 := I.g4
    have g5 := I.g5
    have g7 := I.g7
    have g15 := I.g15
    have b7 := I.b7
    have b15 := I.b15
    have q26 := (k3 26 (by simp)).trans g26
    have q27 := (k3 27 (by simp)).trans g27
    have k13 : Keep 196 [24, 25, 18] e1 e3 := fun p hp => (k3 p (by simp at hp ⊢; omega)).trans (k2 p hp)
    by_cases h0 : q = 0
    rotate_left
    · have hd0 : decide (q = 0) = false := decide_eq_false h0
      have hFe : F = (0, 0, q) := by rw [← hF]; unfold folG; rw [hq, if_pos h0]
      rw [if_neg (fun h => h0 h.1)] at g19
      simp (disch := (first | (simp only [yk,seval]; done) | omega | (simp only [yz] <;> omega) | fail)) only [↓yp,yq0,yq1,yq2,yq3,yq4,yl,ys0,ys1,seval,zed,zee,zfr,zhw,ysu,yrg,ysv,ysw,ysx,ysz,ysa,g19,hd0]
      rw [hFe]
      refine ⟨I.next (Fr.refl _) (by (with_reducible (repeat (first | refine Keep.put ?_ (by decide) | refine Keep.none ?_ | assumption | exact Keep.refl _ _ _)))), by (with_reducible (repeat (first | refine Keep.put ?_ (by decide) | refine Keep.none ?_ | assumption | exact Keep.refl _ _ _))), ?_, ?_, ?_⟩
      · simp (disch := (first | (simp only [yk,seval]; done) | omega | (simp only [yz] <;> omega) | fail)) only [yg,Nat.reduceAdd,Nat.reduceEqDiff,Nat.reduceLT,q26]
      · simp (disch := (first | (simp only [yk,seval]; done) | omega | (simp only [yz] <;> omega) | fail)) only [yg,Nat.reduceAdd,Nat.reduceEqDiff,Nat.reduceLT,q27]
      · simp (disch := (first | (simp only [yk,seval]; done) | omega | (simp only [yz] <;> omega) | fail)) only [yg,Nat.reduceAdd,Nat.reduceEqDiff,Nat.reduceLT,g19]
    subst h0
    by_cases h60 : 60 < ls.length
    · have hFe : F = (0, 0, 3) := by rw [← hF]; unfold folG; rw [hq, if_neg (by simp), if_pos h60]
      rw [if_pos ⟨rfl, h60⟩] at g19
      simp (disch := (first | (simp only [yk,seval]; done) | omega | (simp only [yz] <;> omega) | fail)) only [↓yp,yq0,yq1,yq2,yq3,yq4,yl,ys0,ys1,seval,zed,zee,zfr,zhw,ysu,yrg,ysv,ysw,ysx,ysz,ysa,g19]
      rw [hFe]
      refine ⟨I.next (Fr.refl _) (by (with_reducible (repeat (first | refine Keep.put ?_ (by decide) | refine Keep.none ?_ | assumption | exact Keep.refl _ _ _)))), by (with_reducible (repeat (first | refine Keep.put ?_ (by decide) | refine Keep.none ?_ | assumption | exact Keep.refl _ _ _))), ?_, ?_, ?_⟩
      · simp (disch := (first | (simp only [yk,seval]; done) | omega | (simp only [yz] <;> omega) | fail)) only [yg,Nat.reduceAdd,Nat.reduceEqDiff,Nat.reduceLT,q26]
      · simp (disch := (first | (simp only [yk,seval]; done) | omega | (simp only [yz] <;> omega) | fail)) only [yg,Nat.reduceAdd,Nat.reduceEqDiff,Nat.reduceLT,q27]
      · simp (disch := (first | (simp only [yk,seval]; done) | omega | (simp only [yz] <;> omega) | fail)) only [yg,Nat.reduceAdd,Nat.reduceEqDiff,Nat.reduceLT,g19]
    have hFe : F = folL l w ld fr m ls := by rw [← hF]; unfold folG; rw [hq, if_neg (by simp), if_neg h60]
    rw [if_neg (fun h => h60 h.2)] at g19
    obtain ⟨hck, hw, hd, hcs, hss, hms⟩ := asked_ok hq
    have g := good_of hck hd
    have hm := hms m (by simp)
    have hix : ∀ p ∈ ls, 0 ≤ p.1 ∧ p.1 < l.length := fun p hp => by
      have := hss p.1 (List.mem_map.2 ⟨p, hp, rfl⟩)
      omega
    have h40 := fun (N : Nat) (H'' : AHeap) (f : Fr H3 H'') (b : Option Addr) (cb : Nat) (hi : Lg H'' b ls) => c40 (N := N) (C := C) (w := w) (ld := ld) (fr := fr) (m := m) (cap := cap2) (cb := cb) (I.s2.fr f) hl hi hll g hix hm
    simp only [← hFe] at h40
    simp (disch := (first | (simp only [yk,seval]; done) | omega | (simp only [yz] <;> omega) | fail)) only [↓yp,yq0,yq1,yq2,yq3,yq4,yl,ys0,ys1,seval,zed,zee,zfr,zhw,ysu,yrg,ysv,ysw,ysx,ysz,ysa,g19]
    by_cases hn : ls = []
    · subst hn
      simp only [List.length_nil] at h40 g5
      have h40' := fun (N : Nat) => h40 N H3 (Fr.refl _) none 0 Lg.nil
      refine W_drawR (pl := []) [] [] (planB_of rfl (by decide) (by decide) rfl) (by kernel_rfl) (by kernel_rfl) (by kernel_rfl) (by (first | omega | (simp only [yz] <;> omega))) ?_
      simp (disch := (first | (simp only [yk,seval]; done) | omega | (simp only [yz] <;> omega) | fail)) only [↓yp,yq0,yq1,yq2,yq3,yq4,yl,ys0,ys1,seval,zed,zee,zfr,zhw,ysu,yrg,ysv,ysw,ysx,ysz,ysa,g2,g4,g5,g7,g15,b7,b15,c27,c41n,h40',maskE_nilSlice]
      refine ⟨I.next (Fr.refl _) (by (with_reducible (repeat (first | refine Keep.put ?_ (by decide) | refine Keep.none ?_ | assumption | exact Keep.refl _ _ _)))), by (with_reducible (repeat (first | refine Keep.put ?_ (by decide) | refine Keep.none ?_ | assumption | exact Keep.refl _ _ _))), ?_, ?_, ?_⟩ <;> simp (disch := (first | (simp only [yk,seval]; done) | omega | (simp only [yz] <;> omega) | fail)) only [yg,Nat.reduceAdd,Nat.reduceEqDiff,Nat.reduceLT]
    · refine W_drawR (pl := []) [6] [(7, 0)] (planB_of rfl (by decide) (by decide) rfl) (by kernel_rfl) (by kernel_rfl) (by kernel_rfl) (by (first | omega | (simp only [yz] <;> omega))) ?_
      simp (disch := (first | (simp only [yk,seval]; done) | omega | (simp only [yz] <;> omega) | fail)) only [↓yp,yq0,yq1,yq2,yq3,yq4,yl,ys0,ys1,seval,zed,zee,zfr,zhw,ysu,yrg,ysv,ysw,ysx,ysz,ysa,g2,g4,g5,g7,g15,b7,b15,c27]
      refine c41 (hb.fr I.fr) hn hll (by (first | omega | (simp only [yz] <;> omega))) (by omega) ?_
      intro k cs H4 f4 lg4
      have z4 := f4.size
      have s4 := f4.same
      have h40' := fun (N : Nat) => h40 N H4 f4 k cs lg4
      simp (disch := (first | (simp only [yk,seval]; done) | omega | (simp only [yz] <;> omega) | fail)) only [↓yp,yq0,yq1,yq2,yq3,yq4,yl,ys0,ys1,seval,zed,zee,zfr,zhw,ysu,yrg,ysv,ysw,ysx,ysz,ysa,g2,g4,g5,g7,g15,b7,b15,c27,s4,h40']
      refine ⟨I.next f4 (by (with_reducible (repeat (first | refine Keep.put ?_ (by decide) | refine Keep.none ?_ | assumption | exact Keep.refl _ _ _)))), by (with_reducible (repeat (first | refine Keep.put ?_ (by decide) | refine Keep.none ?_ | assumption | exact Keep.refl _ _ _))), ?_, ?_, ?_⟩ <;> simp (disch := (first | (simp only [yk,seval]; done) | omega | (simp only [yz] <;> omega) | fail)) only [yg,Nat.reduceAdd,Nat.reduceEqDiff,Nat.reduceLT]
  clear I
  rintro e4 H4 ⟨I, k4, g26, g27, g19⟩
  have sz := I.sz
  have g5 := I.g5
  have g6 := I.g6
  have g13 := I.g13
  have g14 := I.g14
  have b6 := I.b6
  have b13 := I.b13
  have q24 := (k4 24 (by simp)).trans g24
  have q25 := (k4 25 (by simp)).trans g25
  have q18 := (k4 18 (by simp)).trans g18
  have h30 := fun (N : Nat) => c30 (N := N) (C := C) (cap := cap1) (cap' := cap) I.s1 (hs.fr I.fr) hl hok
  have h43 := fun (N : Nat) => c43 (N := N) (cap := cm) (cap' := cl) I.m1 (hb.fr I.fr) hll
  simp (disch := (first | (simp only [yk,seval]; done) | omega | (simp only [yz] <;> omega) | fail)) only [↓yp,yq0,yq1,yq2,yq3,yq4,yl,ys0,ys1,seval,zed,zee,zfr,zhw,ysu,yrg,ysv,ysw,ysx,ysz,ysa,q24,q25,q18,g5,g6,g13,g14,g26,g27,g19,b6,b13,hcd,h30,h43,awake_r]
set_option maxHeartbeats 4000000 in
set_option maxRecDepth 10000 in
theorem c5 (hs : Sl H a l) (hn : a = none → cap = 0) (hok : ∀ s ∈ l, s.Ok) (hb : Lg H al ls) :
    acall tabA (aexec tabA Try.prog (N + 24000)) 5 [.agg ⟨[.int .i64 C, .slice a l.length cap]⟩, .agg ⟨[.int .i64 w, .int .i64 ld]⟩, .int .i64 fr, .int .i64 to, .int .i64 m, .slice al ls.length cl] H = some (true, .bool true, H, H.size) := by
  refine call_quiet (k := 196) (rs := [.tmp 12]) rfl fn_5 rfl rfl rfl ?_ rfl
  refine W_seqI (fun e' H'' => gt 196 e' 2 = .int .i64 fr ∧ gt 196 e' 3 = .int .i64 to ∧ gt 196 e' 4 = .int .i64 m ∧ gt 196 e' 5 = .slice al ls.length cl ∧ gt 196 e' 6 = .pointer (some ⟨H.size, 0, none⟩) ∧ gt 196 e' 7 = .pointer (some ⟨H.size + 1, 0, none⟩) ∧ Fr H H'' ∧ H''.size = H.size + 2 ∧ H''.get H.size = .rw [.int .i64 C, .slice a l.length cap] 24 false [] ∧ H''.get (H.size + 1) = .rw [.int .i64 w, .int .i64 ld] 26 false []) ?_ ?_
  · simp (disch := (first | (simp only [yk,seval]; done) | omega | (simp only [yz] <;> omega) | fail)) only [↓yp,yq0,yq1,yq2,yq3,yq4,yl,ys0,ys1,seval,zed,zee,zfr,zhw,ysu,yrg,ysv,ysw,ysx,ysz,ysa]
    refine ⟨?_, ?_, ?_, ?_, ?_, ?_, by (repeat (first | exact Fr.refl _ | assumption | refine Fr.allocd ?_ _ | refine Fr.kill ?_ (by first | assumption | omega) | refine Fr.put ?_ (by first | omega | (simp only [yz] <;> omega)) _)), by (first | omega | (simp only [yz] <;> omega)), ?_, ?_⟩ <;> simp (disch := (first | (simp only [yk,seval]; done) | omega | (simp only [yz] <;> omega) | fail)) only [yg,Nat.reduceAdd,Nat.reduceEqDiff,Nat.reduceLT]
  rintro e1 H1 ⟨g2, g3, g4, g5, g6, g7, f1, sz1, b6, b7⟩
  refine W_seqI (fun e' H'' => (l.length ≤ 18 ∧ ls.length ≤ 65) ∧ Keep 196 [2, 3, 4, 5, 6, 7] e1 e' ∧ H1 = H'') ?_ ?_
  · simp (disch := (first | (simp only [yk,seval]; done) | omega | (simp only [yz] <;> omega) | fail)) only [↓yp,yq0,yq1,yq2,yq3,yq4,yl,ys0,ys1,seval,zed,zee,zfr,zhw,ysu,yrg,ysv,ysw,ysx,ysz,ysa,g6,b6,c17]
    refine ⟨fun hA => ?_, fun hA => ?_⟩
    · simp (disch := (first | (simp only [yk,seval]; done) | omega | (simp only [yz] <;> omega) | fail)) only [↓yp,yq0,yq1,yq2,yq3,yq4,yl,ys0,ys1,seval,zed,zee,zfr,zhw,ysu,yrg,ysv,ysw,ysx,ysz,ysa,hA,awake_r]
    have hl : l.length ≤ 18 := by simp at hA; omega
    simp (disch := (first | (simp only [yk,seval]; done) | omega | (simp only [yz] <;> omega) | fail)) only [↓yp,yq0,yq1,yq2,yq3,yq4,yl,ys0,ys1,seval,zed,zee,zfr,zhw,ysu,yrg,ysv,ysw,ysx,ysz,ysa,hA,g5,lenV_slice st_esS_65]
    refine ⟨fun hB => ?_, fun hB => ?_⟩
    · simp (disch := (first | (simp only [yk,seval]; done) | omega | (simp only [yz] <;> omega) | fail)) only [↓yp,yq0,yq1,yq2,yq3,yq4,yl,ys0,ys1,seval,zed,zee,zfr,zhw,ysu,yrg,ysv,ysw,ysx,ysz,ysa,awake_r]
    have hll : ls.length ≤ 65 := by have := of_decide_eq_false hB; omega
    simp (disch := (first | (simp only [yk,seval]; done) | omega | (simp only [yz] <;> omega) | fail)) only [↓yp,yq0,yq1,yq2,yq3,yq4,yl,ys0,ys1,seval,zed,zee,zfr,zhw,ysu,yrg,ysv,ysw,ysx,ysz,ysa]
    exact ⟨⟨hl, hll⟩, by (with_reducible (repeat (first | refine Keep.put ?_ (by decide) | refine Keep.none ?_ | assumption | exact Keep.refl _ _ _))), rfl⟩
  rintro e2 _ ⟨⟨hl, hll⟩, k2, rfl⟩
  rw [zag]
  refine W_end (c5a hs hl hb hll ((k2 2 (by simp)).trans g2) ((k2 3 (by simp)).trans g3) ((k2 4 (by simp)).trans g4) ((k2 5 (by simp)).trans g5) ((k2 6 (by simp)).trans g6) ((k2 7 (by simp)).trans g7) f1 sz1 b6 b7 rfl) ?_
  rintro e3 H3 ⟨a1, cap1, a2, cap2, am, cm, I⟩
  refine c5b I hl (fun e4 H4 I4 D4 g19 g20 => ?_) rfl
  refine c5c I4 D4 g19 g20 hl (fun e5 H5 I5 => ?_) rfl
  exact c5d I5 hl hs hb hll hok rfl
end
end Go.Am
