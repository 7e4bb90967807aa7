import Derived.Test.YtaieoelbpnjoiaaT52
set_option linter.unusedSimpArgs false
set_option linter.unusedVariables false
namespace Go.Am
open Go.Proofs
variable {T : Tab} {P : Program} {N L : Nat} {H : AHeap} {Q : Bool → Value → AHeap → Prop}
structure TD (B : Nat) (C w ld : Int) (l : List Str) (fr wn : Int) (ts : List Int) (n er : Int) (e : VT) (H' : AHeap) : Prop where
  told : Told l w ld fr wn ts n er
  g13 : gt 255 e 13 = .int .i64 n
  g14 : gt 255 e 14 = .int .i64 er
  no : er = 1 → gt 255 e 12 = .slice none 0 0
  dr : er = 0 → ∃ v ls base, gt 255 e 12 = v ∧ B < base ∧ RowL H' v ls base ∧ Run l w ld (nxt (dnT ts)) (fr, 0) wn ls (fr, ((2 ^ ts.length - 1 : Nat) : Int)) n ∧ ls.length ≤ 55
section
variable {C w ld fr wn n er : Int} {l : List Str} {i8 i9 cap' cap2 B : Nat} {a' b2 : Option Addr} {bs2 ts : List Int} {v11 : Value} {e e' : VT} {H' H'' : AHeap}
theorem TD.frx (D : TD B C w ld l fr wn ts n er e H') (f : FrX B H' H'') (k : Keep 255 [12, 13, 14] e e') : TD B C w ld l fr wn ts n er e' H'' where
  told := D.told
  g13 := (k 13 (by simp)).trans D.g13
  g14 := (k 14 (by simp)).trans D.g14
  no h := (k 12 (by simp)).trans (D.no h)
  dr h := by
    obtain ⟨v, ls, base, h1, h2, h3, h4⟩ := D.dr h
    exact ⟨v, ls, base, (k 12 (by simp)).trans h1, h2, h3.frx f h2, h4⟩
theorem TD.next (D : TD B C w ld l fr wn ts n er e H') (f : Fr H' H'') (k : Keep 255 [12, 13, 14] e e') : TD B C w ld l fr wn ts n er e' H'' := D.frx (FrX.of f) k
end
section
variable {b2 : Option Addr} {cap2 : Nat} {bs2 : List Int} {R : Exit → ES → Prop} {c c' : Code} {C w ld fr wn : Int} {l : List Str} {i8 i9 cap' : Nat} {a' : Option Addr} {ts : List Int} {v11 : Value} {e : VT} {H' : AHeap}
set_option maxHeartbeats 4000000 in
set_option maxRecDepth 10000 in
theorem c13b (X : Tx C w ld l a' cap' fr wn ts) (I : TU H C w ld l i8 i9 a' cap' b2 bs2 cap2 fr wn ts v11 e H') (hc : c = sub [true, true, true, true, true, true, true, true, true] (bodyOf Try.f13)) (hc' : c' = sub [true, true, true, true, true, true, true] (bodyOf Try.f13))
    (hr : ∀ e H'' n er, TU H C w ld l i8 i9 a' cap' b2 bs2 cap2 fr wn ts v11 e H'' → TD (H.size + 1) C w ld l fr wn ts n er e H'' → gt 255 e 16 = .int .i64 wn → gt 255 e 17 = .int .i64 0 → W tabA Try.prog (N + 23991) none c H.size ⟨255, e, H'', []⟩ R) :
    W tabA Try.prog (N + 23993) none c' H.size ⟨255, e, H', []⟩ R := by
  subst hc hc'
  simp only [Try.f13,bodyOf,sub_nil,sub_seq0,sub_seq1,sub_block,sub_loop,sub_cond0,sub_cond1] at hr ⊢
  have hl18 : l.length ≤ 18 := by have := X.hl; omega
  have hlen := X.len
  have g := X.good
  have hwn := X.hwn
  refine W_seqI (fun e' H'' => ∃ n er, TU H C w ld l i8 i9 a' cap' b2 bs2 cap2 fr wn ts v11 e' H'' ∧ TD (H.size + 1) C w ld l fr wn ts n er e' H'') ?_ ?_
  · have sz := I.q.fr.size
    have hlt := I.c2.lt
    have g7 := I.q.g8
    have g8 := I.q.g9
    have b7 := I.q.b8
    have b8 := I.q.b9
    have g9 := I.g9
    have g10 := I.g10
    have g11 := I.g11
    obtain ⟨a11, c11, hv, op⟩ := I.cu.op
    simp (disch := (first | (simp only [yk,seval]; done) | omega | (simp only [yz] <;> omega) | fail)) only [↓yp,yq0,yq1,yq2,yq3,yq4,yl,ys0,ys1,seval,zed,zee,zfr,zhw,ysu,yrg,ysv,ysw,ysx,ysz,ysa,g7,g8,b7,b8,g9,g10,g11,hv]
    refine c68 I.q.sl hl18 op (by omega) X.nd X.asked (by omega) (by omega) ?_ ?_
    · intro q H3 _ f3 hno
      have sz3 := f3.size
      simp (disch := (first | (simp only [yk,seval]; done) | omega | (simp only [yz] <;> omega) | fail)) only [↓yp,yq0,yq1,yq2,yq3,yq4,yl,ys0,ys1,seval,zed,zee,zfr,zhw,ysu,yrg,ysv,ysw,ysx,ysz,ysa]
      refine ⟨0, 1, I.next f3 (by (with_reducible (repeat (first | refine Keep.put ?_ (by decide) | refine Keep.none ?_ | assumption | exact Keep.refl _ _ _)))), ⟨.inl ⟨rfl, rfl, hno⟩, ?_, ?_, fun _ => ?_, fun h => by cases h⟩⟩
      · simp (disch := (first | (simp only [yk,seval]; done) | omega | (simp only [yz] <;> omega) | fail)) only [yg,seval]
      · simp (disch := (first | (simp only [yk,seval]; done) | omega | (simp only [yz] <;> omega) | fail)) only [yg,seval]
      · simp (disch := (first | (simp only [yk,seval]; done) | omega | (simp only [yz] <;> omega) | fail)) only [yg,seval]
    · intro q v ls H3 mm _ f3 hrow hrun h55 hcan hle
      have sz3 := f3.size
      simp (disch := (first | (simp only [yk,seval]; done) | omega | (simp only [yz] <;> omega) | fail)) only [↓yp,yq0,yq1,yq2,yq3,yq4,yl,ys0,ys1,seval,zed,zee,zfr,zhw,ysu,yrg,ysv,ysw,ysx,ysz,ysa]
      refine ⟨mm, 0, I.next f3 (by (with_reducible (repeat (first | refine Keep.put ?_ (by decide) | refine Keep.none ?_ | assumption | exact Keep.refl _ _ _)))), ⟨.inr ⟨rfl, hcan, hle⟩, ?_, ?_, fun h => (by cases h), fun _ => ⟨v, ls, _, ?_, ?_, hrow, hrun, h55⟩⟩⟩
      · simp (disch := (first | (simp only [yk,seval]; done) | omega | (simp only [yz] <;> omega) | fail)) only [yg,seval]
      · simp (disch := (first | (simp only [yk,seval]; done) | omega | (simp only [yz] <;> omega) | fail)) only [yg,seval]
      · simp (disch := (first | (simp only [yk,seval]; done) | omega | (simp only [yz] <;> omega) | fail)) only [yg,seval]
      · omega
  clear I
  rintro e H' ⟨n, er, I, D⟩
  refine W_seqI (fun e' H'' => TU H C w ld l i8 i9 a' cap' b2 bs2 cap2 fr wn ts v11 e' H'' ∧ TD (H.size + 1) C w ld l fr wn ts n er e' H'' ∧ gt 255 e' 16 = .int .i64 wn ∧ gt 255 e' 17 = .int .i64 0) ?_ ?_
  · have sz := I.q.fr.size
    have hlt := I.c2.lt
    have g7 := I.q.g8
    have g8 := I.q.g9
    have b7 := I.q.b8
    have b8 := I.q.b9
    have g9 := I.g9
    have g10 := I.g10
    have X0 : Tx C w ld l a' cap' fr wn [] := ⟨X.hC, X.hl, X.ho, X.hn, X.hw, X.hd, X.hfr, X.hwn, List.nodup_nil, fun s hs => by simp at hs, by simp⟩
    simp (disch := (first | (simp only [yk,seval]; done) | omega | (simp only [yz] <;> omega) | fail)) only [↓yp,yq0,yq1,yq2,yq3,yq4,yl,ys0,ys1,seval,zed,zee,zfr,zhw,ysu,yrg,ysv,ysw,ysx,ysz,ysa,g7,g8,b7,b8,g9,g10]
    refine c68 (t := []) I.q.sl hl18 Op.none (by simp) List.nodup_nil X0.asked (by omega) (by omega) ?_ ?_
    · intro q H3 _ f3 hno
      exact absurd .start (hno wn)
    · intro q v ls H3 mm _ f3 hrow hrun h55 hcan hle
      have sz3 := f3.size
      have hmm : mm = wn := (Told.none (.inr ⟨rfl, hcan, hle⟩) (by omega) g).1
      subst hmm
      simp (disch := (first | (simp only [yk,seval]; done) | omega | (simp only [yz] <;> omega) | fail)) only [↓yp,yq0,yq1,yq2,yq3,yq4,yl,ys0,ys1,seval,zed,zee,zfr,zhw,ysu,yrg,ysv,ysw,ysx,ysz,ysa]
      refine ⟨I.next f3 (by (with_reducible (repeat (first | refine Keep.put ?_ (by decide) | refine Keep.none ?_ | assumption | exact Keep.refl _ _ _)))), D.next f3 (by (with_reducible (repeat (first | refine Keep.put ?_ (by decide) | refine Keep.none ?_ | assumption | exact Keep.refl _ _ _)))), ?_, ?_⟩
      · simp (disch := (first | (simp only [yk,seval]; done) | omega | (simp only [yz] <;> omega) | fail)) only [yg,seval]
      · simp (disch := (first | (simp only [yk,seval]; done) | omega | (simp only [yz] <;> omega) | fail)) only [yg,seval]
  clear I D
  rintro e H' ⟨I, D, g16, g17⟩
  exact hr _ _ _ _ I D g16 g17
end
end Go.Am
namespace Go.Am
open Go.Proofs
variable {T : Tab} {P : Program} {N L : Nat} {H : AHeap} {Q : Bool → Value → AHeap → Prop}
theorem Cu.of {v : Value} {t : List Int} {base top k : Nat} (R : RowN H v t base top) (ht : top ≤ H.size) (hk : k < base) : Cu H v t k := by
  by_cases hne : t = []
  · exact .inl ⟨R.nil hne, hne⟩
  · obtain ⟨b, al, h1, h2, h3, h4, h5⟩ := R.cons hne
    exact .inr ⟨b, [], al, h1, by omega, by omega, by rw [List.append_nil]; exact h5⟩
theorem RowN.len {v : Value} {t : List Int} {base top : Nat} (R : RowN H v t base top) : ∃ a c, v = .slice a t.length c := by
  by_cases hne : t = []
  · exact ⟨none, 0, by rw [R.nil hne, hne]; rfl⟩
  · obtain ⟨b, al, h1, h2⟩ := R.cons hne
    exact ⟨_, _, h1⟩
def byP (ts q : List Int) : List Int := q.map fun i => ts.getD i.toNat 0
theorem byP_idx (ts : List Int) : byP ts (idx ts.length) = ts := by
  unfold byP idx
  apply List.ext_getElem
  · simp
  · intro i h1 h2
    simp [h2]
theorem byP_perm {ts q : List Int} (h : q.Perm (idx ts.length)) : (byP ts q).Perm ts := by
  have := h.map (fun i => ts.getD i.toNat 0)
  rw [show (idx ts.length).map (fun i => ts.getD i.toNat 0) = ts from byP_idx ts] at this
  exact this
theorem byP_take {ts q : List Int} {i : Nat} {x y : Int} (h : q[i]? = some x) (hy : ts[x.toNat]? = some y) : byP ts (q.take (i + 1)) = byP ts (q.take i) ++ [y] := by
  obtain ⟨hi, rfl⟩ := List.getElem?_eq_some_iff.1 h
  unfold byP
  rw [List.take_succ_eq_append_getElem hi, List.map_append, List.map_cons, List.map_nil, List.getD_eq_getElem?_getD, hy]
  rfl
section
variable {b2 : Option Addr} {cap2 : Nat} {bs2 : List Int} {R : Exit → ES → Prop} {c c' : Code} {C w ld fr wn n er : Int} {l : List Str} {i8 i9 cap' : Nat} {a' : Option Addr} {ts : List Int} {v11 : Value} {e : VT} {H' : AHeap}
set_option maxHeartbeats 4000000 in
set_option maxRecDepth 10000 in
theorem c13c (X : Tx C w ld l a' cap' fr wn ts) (I : TU H C w ld l i8 i9 a' cap' b2 bs2 cap2 fr wn ts v11 e H') (D : TD (H.size + 1) C w ld l fr wn ts n er e H') (g16 : gt 255 e 16 = .int .i64 wn) (g17 : gt 255 e 17 = .int .i64 0)
    (hc : c = sub [true, true, true, true, true, true, true, true, true, true, true, true] (bodyOf Try.f13)) (hc' : c' = sub [true, true, true, true, true, true, true, true, true] (bodyOf Try.f13))
    (hr : ∀ e H'', TU H C w ld l i8 i9 a' cap' b2 bs2 cap2 fr wn ts v11 e H'' → TD (H.size + 1) C w ld l fr wn ts n er e H'' → gt 255 e 16 = .int .i64 wn → gt 255 e 17 = .int .i64 0 → gt 255 e 22 = .int .i64 n → gt 255 e 23 = .int .i64 er → W tabA Try.prog (N + 23988) none c H.size ⟨255, e, H'', []⟩ R) :
    W tabA Try.prog (N + 23991) none c' H.size ⟨255, e, H', []⟩ R := by
  subst hc hc'
  simp only [Try.f13,bodyOf,sub_nil,sub_seq0,sub_seq1,sub_block,sub_loop,sub_cond0,sub_cond1] at hr ⊢
  have hl18 : l.length ≤ 18 := by have := X.hl; omega
  have hlen := X.len
  have g := X.good
  have hwn := X.hwn
  refine W_seqI (fun e' H'' => TU H C w ld l i8 i9 a' cap' b2 bs2 cap2 fr wn ts v11 e' H'' ∧ TD (H.size + 1) C w ld l fr wn ts n er e' H'' ∧ gt 255 e' 16 = .int .i64 wn ∧ gt 255 e' 17 = .int .i64 0 ∧ gt 255 e' 18 = .slice none 0 0) ?_ ?_
  · have sz := I.q.fr.size
    simp (disch := (first | (simp only [yk,seval]; done) | omega | (simp only [yz] <;> omega) | fail)) only [↓yp,yq0,yq1,yq2,yq3,yq4,yl,ys0,ys1,seval,zed,zee,zfr,zhw,ysu,yrg,ysv,ysw,ysx,ysz,ysa]
    refine ⟨I.next (Fr.refl _) (by (with_reducible (repeat (first | refine Keep.put ?_ (by decide) | refine Keep.none ?_ | assumption | exact Keep.refl _ _ _)))), D.next (Fr.refl _) (by (with_reducible (repeat (first | refine Keep.put ?_ (by decide) | refine Keep.none ?_ | assumption | exact Keep.refl _ _ _)))), ?_, ?_, ?_⟩
    · simp (disch := (first | (simp only [yk,seval]; done) | omega | (simp only [yz] <;> omega) | fail)) only [yg,seval,g16]
    · simp (disch := (first | (simp only [yk,seval]; done) | omega | (simp only [yz] <;> omega) | fail)) only [yg,seval,g17]
    · simp (disch := (first | (simp only [yk,seval]; done) | omega | (simp only [yz] <;> omega) | fail)) only [yg,seval]
  clear I D g16 g17
  rintro e H' ⟨I, D, g16, g17, g18⟩
  refine W_seqI (fun e' H'' => ∃ v18 t' B, TU H C w ld l i8 i9 a' cap' b2 bs2 cap2 fr wn ts v11 e' H'' ∧ TD (H.size + 1) C w ld l fr wn ts n er e' H'' ∧ gt 255 e' 16 = .int .i64 wn ∧ gt 255 e' 17 = .int .i64 0 ∧ gt 255 e' 18 = v18 ∧ t'.Perm ts ∧ H.size + 1 < B ∧ RowN H'' v18 t' B H''.size) ?_ ?_
  · refine W_seqI (fun e' H'' => ∃ vq t, TU H C w ld l i8 i9 a' cap' b2 bs2 cap2 fr wn ts v11 e' H'' ∧ TD (H.size + 1) C w ld l fr wn ts n er e' H'' ∧ gt 255 e' 16 = .int .i64 wn ∧ gt 255 e' 17 = .int .i64 0 ∧ gt 255 e' 18 = .slice none 0 0 ∧ t.Perm (idx ts.length) ∧ gt 255 e' 84 = vq ∧ gt 255 e' 85 = .int .i64 t.length ∧ gt 255 e' 86 = .int .i64 0 ∧ RowN H'' vq t (H.size + 2) H''.size) ?_ ?_
    · have sz := I.q.fr.size
      have hlt := I.c2.lt
      have g6 := I.g6
      have g11 := I.g11
      obtain ⟨a11, c11, hv, op⟩ := I.cu.op
      simp (disch := (first | (simp only [yk,seval]; done) | omega | (simp only [yz] <;> omega) | fail)) only [↓yp,yq0,yq1,yq2,yq3,yq4,yl,ys0,ys1,seval,zed,zee,zfr,zhw,ysu,yrg,ysv,ysw,ysx,ysz,ysa,g6,g11,hv,lenV_slice zir]
      refine c67 I.c2 (by omega) (by omega) (by omega) ?_
      intro f v t H1 hpm hrow hc1 hx1
      have hx1s := hx1.size
      obtain ⟨aq, cq, hvq⟩ := hrow.len
      simp (disch := (first | (simp only [yk,seval]; done) | omega | (simp only [yz] <;> omega) | fail)) only [↓yp,yq0,yq1,yq2,yq3,yq4,yl,ys0,ys1,seval,zed,zee,zfr,zhw,ysu,yrg,ysv,ysw,ysx,ysz,ysa,hvq,lenV_slice zir]
      refine ⟨.slice aq t.length cq, t, I.frx hc1 hx1 (by (with_reducible (repeat (first | refine Keep.put ?_ (by decide) | refine Keep.none ?_ | assumption | exact Keep.refl _ _ _)))), D.frx hx1 (by (with_reducible (repeat (first | refine Keep.put ?_ (by decide) | refine Keep.none ?_ | assumption | exact Keep.refl _ _ _)))), ?_, ?_, ?_, hpm, ?_, ?_, ?_, ?_⟩
      · simp (disch := (first | (simp only [yk,seval]; done) | omega | (simp only [yz] <;> omega) | fail)) only [yg,seval,g16]
      · simp (disch := (first | (simp only [yk,seval]; done) | omega | (simp only [yz] <;> omega) | fail)) only [yg,seval,g17]
      · simp (disch := (first | (simp only [yk,seval]; done) | omega | (simp only [yz] <;> omega) | fail)) only [yg,seval,g18]
      · simp (disch := (first | (simp only [yk,seval]; done) | omega | (simp only [yz] <;> omega) | fail)) only [yg,seval]
      · simp (disch := (first | (simp only [yk,seval]; done) | omega | (simp only [yz] <;> omega) | fail)) only [yg,seval]
      · simp (disch := (first | (simp only [yk,seval]; done) | omega | (simp only [yz] <;> omega) | fail)) only [yg,seval]
      · rw [← hvq]
        refine ⟨hrow.nil, fun h => ?_⟩
        obtain ⟨b, al, h1, h2, h3, h4, h5⟩ := hrow.cons h
        exact ⟨b, al, h1, by omega, h3, fun j hj => by have := h4 j hj; omega, h5⟩
    clear I D g16 g17 g18
    rintro e1 H1 ⟨vq, t, I, D, g16, g17, g18, hpm, g84, g85, g86, hrow⟩
    have sz1 := I.q.fr.size
    have hlt1 := I.c2.lt
    have htl : t.length = ts.length := by rw [hpm.length_eq]; unfold idx; simp
    simp (disch := (first | (simp only [yk,seval]; done) | omega | (simp only [yz] <;> omega) | fail)) only [↓yp,yq0,yq1,yq2,yq3,yq4,yl,ys0,ys1,seval,zed,zee,zfr,zhw,ysu,yrg,ysv,ysw,ysx,ysz,ysa]
    refine W_while (n := 255) 200 (fun k e' H'' => ∃ (j : Nat) (v18 : Value), k = t.length - j ∧ j ≤ t.length ∧ gt 255 e' 86 = .int .i64 (j : Nat) ∧ gt 255 e' 85 = .int .i64 t.length ∧ gt 255 e' 84 = vq ∧ gt 255 e' 18 = v18 ∧ Keep 255 [6, 7, 8, 9, 10, 11, 12, 13, 14, 16, 17] e1 e' ∧ Fr H1 H'' ∧ RowN H'' v18 (byP ts (t.take j)) H1.size H''.size)
      ?_ 5 t.length ⟨0, .slice none 0 0, by omega, by omega, by simp (disch := (first | (simp only [yk,seval]; done) | omega | (simp only [yz] <;> omega) | fail)) only [yg,seval,g86] <;> rfl, by simp (disch := (first | (simp only [yk,seval]; done) | omega | (simp only [yz] <;> omega) | fail)) only [yg,seval,g85], by simp (disch := (first | (simp only [yk,seval]; done) | omega | (simp only [yz] <;> omega) | fail)) only [yg,seval,g84], by simp (disch := (first | (simp only [yk,seval]; done) | omega | (simp only [yz] <;> omega) | fail)) only [yg,seval,g18], by (with_reducible (repeat (first | refine Keep.put ?_ (by decide) | refine Keep.none ?_ | assumption | exact Keep.refl _ _ _))), Fr.refl _, ⟨fun _ => rfl, fun h => absurd rfl h⟩⟩ (by omega) (by omega)
    rintro M1 k1 e2 H2 ⟨j, v18, rfl, hj, g86, g85, g84, g18, hk, f2, hoth⟩
    have f2s := f2.size
    have g16' := (hk 16 (by simp)).trans g16
    have g17' := (hk 17 (by simp)).trans g17
    have J := I.next f2 (fun p hp => hk p (by simp at hp ⊢; omega))
    have E := D.next f2 (fun p hp => hk p (by simp at hp ⊢; omega))
    have g11 := J.g11
    simp (disch := (first | (simp only [yk,seval]; done) | omega | (simp only [yz] <;> omega) | fail)) only [↓yp,yq0,yq1,yq2,yq3,yq4,yl,ys0,ys1,seval,zed,zee,zfr,zhw,ysu,yrg,ysv,ysw,ysx,ysz,ysa,g86,g85]
    refine ⟨fun hA => ?_, fun hA => ?_⟩
    rotate_left
    · have hj' : j = t.length := by have := of_decide_eq_false hA; omega
      subst hj'
      rw [List.take_length] at hoth
      simp (disch := (first | (simp only [yk,seval]; done) | omega | (simp only [yz] <;> omega) | fail)) only [↓yp,yq0,yq1,yq2,yq3,yq4,yl,ys0,ys1,seval,zed,zee,zfr,zhw,ysu,yrg,ysv,ysw,ysx,ysz,ysa]
      exact ⟨v18, byP ts t, H1.size, J.next (Fr.refl _) (by (with_reducible (repeat (first | refine Keep.put ?_ (by decide) | refine Keep.none ?_ | assumption | exact Keep.refl _ _ _)))), E.next (Fr.refl _) (by (with_reducible (repeat (first | refine Keep.put ?_ (by decide) | refine Keep.none ?_ | assumption | exact Keep.refl _ _ _)))), by simp (disch := (first | (simp only [yk,seval]; done) | omega | (simp only [yz] <;> omega) | fail)) only [yg,seval,g16'], by simp (disch := (first | (simp only [yk,seval]; done) | omega | (simp only [yz] <;> omega) | fail)) only [yg,seval,g17'], by simp (disch := (first | (simp only [yk,seval]; done) | omega | (simp only [yz] <;> omega) | fail)) only [yg,seval,g18], byP_perm hpm, by omega, hoth⟩
    have hj' : j < t.length := by have := of_decide_eq_true hA; omega
    have hne : t ≠ [] := fun h => by rw [h] at hj'; simp at hj'
    have hw2 : w64 ((j : Int) + 1) = ((j + 1 : Nat) : Int) := by rw [w64_of (by omega)]; omega
    obtain ⟨bq, alq, hvq, r1, r2, r3, r4⟩ := hrow.cons hne
    have r4' : H2.get bq = .rw (tv t) 3 true alq := by rw [f2.same _ r2]; exact r4
    obtain ⟨x, hx⟩ : ∃ x, t[j]? = some x := ⟨t[j], by simp [hj']⟩
    have hxr : 0 ≤ x ∧ x < ts.length := idx_mem (hpm.mem_iff.1 (List.mem_of_getElem? hx))
    obtain ⟨xn, rfl⟩ : ∃ xn : Nat, x = xn := ⟨x.toNat, by omega⟩
    obtain ⟨y, hy⟩ : ∃ y, ts[xn]? = some y := ⟨ts[xn]'(by omega), by simp⟩
    have htsne : ts ≠ [] := fun h => by rw [h] at htl; simp at htl; exact hne htl
    rcases J.cu with ⟨_, h0⟩ | ⟨b11, r11, al11, hv11, s1, s2, s3⟩
    · exact absurd h0 htsne
    have e1' : (tv t)[j]? = some (.int .i64 (xn : Int)) := tvAt hx
    have e2' : (tv (ts ++ r11))[xn]? = some (.int .i64 y) := tvAt (by rw [List.getElem?_append_left (by omega)]; exact hy)
    rw [hvq] at g84
    rw [hv11] at g11
    simp (disch := (first | (simp only [yk,seval]; done) | omega | (simp only [yz] <;> omega) | fail)) only [↓yp,yq0,yq1,yq2,yq3,yq4,yl,ys0,ys1,seval,zed,zee,zfr,zhw,ysu,yrg,ysv,ysw,ysx,ysz,ysa,g84,g86,g11,g18,A_indexSlice zir,r4',e1',s3,e2',Nat.zero_add,Nat.mul_one,A_buildSlice st_brS_52_1]
    have f3 : Fr H2 (H2.alloc (.rw [.int .i64 y] 3 false [])) := Fr.alloc _ _
    refine num_appendT (x := y) (top := H2.size) (hoth.fr fun j _ hj => f3.same j hj) (by omega) (by (first | omega | (simp only [yz] <;> omega))) (by (first | omega | (simp only [yz] <;> omega))) (by unfold srcCells; simp (disch := (first | (simp only [yk,seval]; done) | omega | (simp only [yz] <;> omega) | fail)) only [yg,seval,zda] <;> rfl) (by unfold byP; rw [List.length_map, List.length_take]; omega) ?_
    intro b al H9 hb0 hb1 hal hb9 sz9 old9
    simp only [zde] at sz9 old9
    have f9 : Fr H1 H9 := ⟨by omega, fun j hj => by rw [old9 j (by omega) (by omega), f3.same j (by omega)]; exact f2.same j hj⟩
    simp (disch := (first | (simp only [yk,seval]; done) | omega | (simp only [yz] <;> omega) | fail)) only [↓yp,yq0,yq1,yq2,yq3,yq4,yl,ys0,ys1,seval,zed,zee,zfr,zhw,ysu,yrg,ysv,ysw,ysx,ysz,ysa,g86,hw2]
    refine ⟨t.length - (j + 1), by omega, j + 1, .slice (some ⟨b, 0, none⟩) ((byP ts (t.take j)).length + 1) (OPEN + 1), rfl, by omega, ?_, ?_, ?_, ?_, by (with_reducible (repeat (first | refine Keep.put ?_ (by decide) | refine Keep.none ?_ | assumption | exact Keep.refl _ _ _))), f9, ?_⟩
    · simp (disch := (first | (simp only [yk,seval]; done) | omega | (simp only [yz] <;> omega) | fail)) only [yg,seval]
    · simp (disch := (first | (simp only [yk,seval]; done) | omega | (simp only [yz] <;> omega) | fail)) only [yg,seval,g85]
    · simp (disch := (first | (simp only [yk,seval]; done) | omega | (simp only [yz] <;> omega) | fail)) only [yg,seval,g84,hvq]
    · simp (disch := (first | (simp only [yk,seval]; done) | omega | (simp only [yz] <;> omega) | fail)) only [yg,seval]
    · rw [byP_take hx (by rw [Int.toNat_natCast]; exact hy)]
      refine ⟨fun h => by simp at h, fun _ => ⟨b, al, by rw [List.length_append]; rfl, hb0, hb1, fun q hq => by have := hal q hq; omega, hb9⟩⟩
  clear I D g16 g17 g18
  rintro e H' ⟨v18, t', B, I, D, g16, g17, g18, hpm, hB, hrow⟩
  have htl : t'.length = ts.length := hpm.length_eq
  have hnd' : t'.Nodup := hpm.nodup_iff.2 X.nd
  have X' : Tx C w ld l a' cap' fr wn t' := ⟨X.hC, X.hl, X.ho, X.hn, X.hw, X.hd, X.hfr, X.hwn, hnd', fun s hs => X.mem s (hpm.mem_iff.1 hs), by omega⟩
  have sub1 : ∀ s ∈ t', s ∈ ts := fun s hs => hpm.mem_iff.1 hs
  have sub2 : ∀ s ∈ ts, s ∈ t' := fun s hs => hpm.mem_iff.2 hs
  refine W_seqI (fun e' H'' => TU H C w ld l i8 i9 a' cap' b2 bs2 cap2 fr wn ts v11 e' H'' ∧ TD (H.size + 1) C w ld l fr wn ts n er e' H'' ∧ gt 255 e' 16 = .int .i64 wn ∧ gt 255 e' 17 = .int .i64 0 ∧ gt 255 e' 22 = .int .i64 n ∧ gt 255 e' 23 = .int .i64 er) ?_ ?_
  rotate_left
  · rintro e H' ⟨I, D, g16, g17, g22, g23⟩
    exact hr _ _ I D g16 g17 g22 g23
  have sz := I.q.fr.size
  have hlt := I.c2.lt
  have g7 := I.q.g8
  have g8 := I.q.g9
  have b7 := I.q.b8
  have b8 := I.q.b9
  have g9 := I.g9
  have g10 := I.g10
  have hcu : Cu H' v18 t' (H.size + 1) := Cu.of hrow (Nat.le_refl _) hB
  obtain ⟨a18, c18, hv, op⟩ := hcu.op
  simp (disch := (first | (simp only [yk,seval]; done) | omega | (simp only [yz] <;> omega) | fail)) only [↓yp,yq0,yq1,yq2,yq3,yq4,yl,ys0,ys1,seval,zed,zee,zfr,zhw,ysu,yrg,ysv,ysw,ysx,ysz,ysa,g7,g8,b7,b8,g9,g10,g18,hv]
  refine c68 I.q.sl hl18 op (by omega) hnd' X'.asked (by omega) (by omega) ?_ ?_
  · intro q H3 _ f3 hno
    have sz3 := f3.size
    obtain ⟨q1, q2⟩ := Told.same D.told (.inl ⟨rfl, rfl, hno⟩) X.nd hnd' sub1 sub2
    subst q1 q2
    simp (disch := (first | (simp only [yk,seval]; done) | omega | (simp only [yz] <;> omega) | fail)) only [↓yp,yq0,yq1,yq2,yq3,yq4,yl,ys0,ys1,seval,zed,zee,zfr,zhw,ysu,yrg,ysv,ysw,ysx,ysz,ysa]
    refine ⟨I.next f3 (by (with_reducible (repeat (first | refine Keep.put ?_ (by decide) | refine Keep.none ?_ | assumption | exact Keep.refl _ _ _)))), D.next f3 (by (with_reducible (repeat (first | refine Keep.put ?_ (by decide) | refine Keep.none ?_ | assumption | exact Keep.refl _ _ _)))), ?_, ?_, ?_, ?_⟩
    · simp (disch := (first | (simp only [yk,seval]; done) | omega | (simp only [yz] <;> omega) | fail)) only [yg,seval,g16]
    · simp (disch := (first | (simp only [yk,seval]; done) | omega | (simp only [yz] <;> omega) | fail)) only [yg,seval,g17]
    · simp (disch := (first | (simp only [yk,seval]; done) | omega | (simp only [yz] <;> omega) | fail)) only [yg,seval]
    · simp (disch := (first | (simp only [yk,seval]; done) | omega | (simp only [yz] <;> omega) | fail)) only [yg,seval]
  · intro q v ls H3 mm _ f3 hrow hrun h55 hcan hle
    have sz3 := f3.size
    obtain ⟨q1, q2⟩ := Told.same D.told (.inr ⟨rfl, hcan, hle⟩) X.nd hnd' sub1 sub2
    subst q1 q2
    simp (disch := (first | (simp only [yk,seval]; done) | omega | (simp only [yz] <;> omega) | fail)) only [↓yp,yq0,yq1,yq2,yq3,yq4,yl,ys0,ys1,seval,zed,zee,zfr,zhw,ysu,yrg,ysv,ysw,ysx,ysz,ysa]
    refine ⟨I.next f3 (by (with_reducible (repeat (first | refine Keep.put ?_ (by decide) | refine Keep.none ?_ | assumption | exact Keep.refl _ _ _)))), D.next f3 (by (with_reducible (repeat (first | refine Keep.put ?_ (by decide) | refine Keep.none ?_ | assumption | exact Keep.refl _ _ _)))), ?_, ?_, ?_, ?_⟩
    · simp (disch := (first | (simp only [yk,seval]; done) | omega | (simp only [yz] <;> omega) | fail)) only [yg,seval,g16]
    · simp (disch := (first | (simp only [yk,seval]; done) | omega | (simp only [yz] <;> omega) | fail)) only [yg,seval,g17]
    · simp (disch := (first | (simp only [yk,seval]; done) | omega | (simp only [yz] <;> omega) | fail)) only [yg,seval]
    · simp (disch := (first | (simp only [yk,seval]; done) | omega | (simp only [yz] <;> omega) | fail)) only [yg,seval]
end
end Go.Am
