import Derived.Test.YtaieoelbpnjoiaaT53
set_option linter.unusedSimpArgs false
set_option linter.unusedVariables false
namespace Go.Am
open Go.Proofs
variable {T : Tab} {P : Program} {N L : Nat} {H : AHeap} {Q : Bool → Value → AHeap → Prop}
theorem RowT.rowl {H : AHeap} {v : Value} {ls : List (Int × Bool)} {base top : Nat} (R : RowT H v ls base top) (ht : top ≤ H.size) : RowL H v ls base := ⟨R.nil, fun h => by
  obtain ⟨b, al, h1, h2, h3, h4, h5⟩ := R.cons h
  exact ⟨b, al, h1, h2, by omega, fun j hj => (h4 j hj).1, h5⟩⟩
section
variable {b2 : Option Addr} {cap2 : Nat} {bs2 : List Int} {R : Exit → ES → Prop} {c c' : Code} {C w ld fr wn n er : Int} {l : List Str} {i8 i9 cap' : Nat} {a' : Option Addr} {ts : List Int} {v11 : Value} {e : VT} {H' : AHeap}
set_option maxHeartbeats 4000000 in
set_option maxRecDepth 10000 in
theorem c13d (X : Tx C w ld l a' cap' fr wn ts) (I : TU H C w ld l i8 i9 a' cap' b2 bs2 cap2 fr wn ts v11 e H') (D : TD (H.size + 1) C w ld l fr wn ts n er e H') (g16 : gt 255 e 16 = .int .i64 wn) (g17 : gt 255 e 17 = .int .i64 0) (g22 : gt 255 e 22 = .int .i64 n) (g23 : gt 255 e 23 = .int .i64 er)
    (hc : c = sub [true, true, true, true, true, true, true, true, true, true, true, true, true, true] (bodyOf Try.f13)) (hc' : c' = sub [true, true, true, true, true, true, true, true, true, true, true, true] (bodyOf Try.f13))
    (hr : ∀ e H'', TU H C w ld l i8 i9 a' cap' b2 bs2 cap2 fr wn ts v11 e H'' → TD (H.size + 1) C w ld l fr wn ts n er e H'' → W tabA Try.prog (N + 23986) none c H.size ⟨255, e, H'', []⟩ R) :
    W tabA Try.prog (N + 23988) none c' H.size ⟨255, e, H', []⟩ R := by
  subst hc hc'
  simp only [Try.f13,bodyOf,sub_nil,sub_seq0,sub_seq1,sub_block,sub_loop,sub_cond0,sub_cond1] at hr ⊢
  have hl18 : l.length ≤ 18 := by have := X.hl; omega
  have hlen := X.len
  have g := X.good
  have hwn := X.hwn
  have hC := X.hC
  have hw := X.hw
  have hd := X.hd
  have hfr := X.hfr
  have her := D.told.err
  refine W_seqI (fun e' H'' => TU H C w ld l i8 i9 a' cap' b2 bs2 cap2 fr wn ts v11 e' H'' ∧ TD (H.size + 1) C w ld l fr wn ts n er e' H'') ?_ ?_
  · have sz := I.q.fr.size
    have g10 := I.g10
    have g13 := D.g13
    have g14 := D.g14
    have hd1 : ∀ x : Int, decide (x = x) = true := fun x => by simp
    rcases her with rfl | rfl
    · simp (disch := (first | (simp only [yk,seval]; done) | omega | (simp only [yz] <;> omega) | fail)) only [↓yp,yq0,yq1,yq2,yq3,yq4,yl,ys0,ys1,seval,zed,zee,zfr,zhw,ysu,yrg,ysv,ysw,ysx,ysz,ysa,g10,g13,g14,g16,g17,g22,g23,hd1]
      exact ⟨I.next (Fr.refl _) (by (with_reducible (repeat (first | refine Keep.put ?_ (by decide) | refine Keep.none ?_ | assumption | exact Keep.refl _ _ _)))), D.next (Fr.refl _) (by (with_reducible (repeat (first | refine Keep.put ?_ (by decide) | refine Keep.none ?_ | assumption | exact Keep.refl _ _ _))))⟩
    · simp (disch := (first | (simp only [yk,seval]; done) | omega | (simp only [yz] <;> omega) | fail)) only [↓yp,yq0,yq1,yq2,yq3,yq4,yl,ys0,ys1,seval,zed,zee,zfr,zhw,ysu,yrg,ysv,ysw,ysx,ysz,ysa,g10,g13,g14,g16,g17,g22,g23,hd1]
      exact ⟨I.next (Fr.refl _) (by (with_reducible (repeat (first | refine Keep.put ?_ (by decide) | refine Keep.none ?_ | assumption | exact Keep.refl _ _ _)))), D.next (Fr.refl _) (by (with_reducible (repeat (first | refine Keep.put ?_ (by decide) | refine Keep.none ?_ | assumption | exact Keep.refl _ _ _))))⟩
  clear I D g16 g17 g22 g23
  rintro e H' ⟨I, D⟩
  refine W_seqI (fun e' H'' => TU H C w ld l i8 i9 a' cap' b2 bs2 cap2 fr wn ts v11 e' H'' ∧ TD (H.size + 1) C w ld l fr wn ts n er e' H'') ?_ ?_
  · have sz := I.q.fr.size
    simp (disch := (first | (simp only [yk,seval]; done) | omega | (simp only [yz] <;> omega) | fail)) only [↓yp,yq0,yq1,yq2,yq3,yq4,yl,ys0,ys1,seval,zed,zee,zfr,zhw,ysu,yrg,ysv,ysw,ysx,ysz,ysa]
    refine W_while (n := 255) 3000 (fun k e' H'' => ∃ j : Nat, k = 6 - j ∧ j ≤ 6 ∧ gt 255 e' 133 = .int .i64 (j : Nat) ∧ TU H C w ld l i8 i9 a' cap' b2 bs2 cap2 fr wn ts v11 e' H'' ∧ TD (H.size + 1) C w ld l fr wn ts n er e' H'')
      ?_ 6 6 ⟨0, by omega, by omega, by simp (disch := (first | (simp only [yk,seval]; done) | omega | (simp only [yz] <;> omega) | fail)) only [yg,seval] <;> rfl, I.next (Fr.refl _) (by (with_reducible (repeat (first | refine Keep.put ?_ (by decide) | refine Keep.none ?_ | assumption | exact Keep.refl _ _ _)))), D.next (Fr.refl _) (by (with_reducible (repeat (first | refine Keep.put ?_ (by decide) | refine Keep.none ?_ | assumption | exact Keep.refl _ _ _))))⟩ (by omega) (by omega)
    clear sz I D
    rintro M1 k1 e H' ⟨j, rfl, hj, g133, I, D⟩
    have sz := I.q.fr.size
    have g7 := I.q.g8
    have g8 := I.q.g9
    have b7 := I.q.b8
    have b8 := I.q.b9
    have g6 := I.g6
    have g9 := I.g9
    have g10 := I.g10
    have hlt2 := I.c2.lt
    simp (disch := (first | (simp only [yk,seval]; done) | omega | (simp only [yz] <;> omega) | fail)) only [↓yp,yq0,yq1,yq2,yq3,yq4,yl,ys0,ys1,seval,zed,zee,zfr,zhw,ysu,yrg,ysv,ysw,ysx,ysz,ysa,g133]
    refine ⟨fun hA => ?_, fun hA => ?_⟩
    rotate_left
    · simp (disch := (first | (simp only [yk,seval]; done) | omega | (simp only [yz] <;> omega) | fail)) only [↓yp,yq0,yq1,yq2,yq3,yq4,yl,ys0,ys1,seval,zed,zee,zfr,zhw,ysu,yrg,ysv,ysw,ysx,ysz,ysa]
      exact ⟨I.next (Fr.refl _) (by (with_reducible (repeat (first | refine Keep.put ?_ (by decide) | refine Keep.none ?_ | assumption | exact Keep.refl _ _ _)))), D.next (Fr.refl _) (by (with_reducible (repeat (first | refine Keep.put ?_ (by decide) | refine Keep.none ?_ | assumption | exact Keep.refl _ _ _))))⟩
    have hj6 : j ≤ 5 := by have := of_decide_eq_true hA; omega
    have hw2' : w64 ((j : Int) + 1) = ((j + 1 : Nat) : Int) := by rw [w64_of (by omega)]; omega
    simp (disch := (first | (simp only [yk,seval]; done) | omega | (simp only [yz] <;> omega) | fail)) only [↓yp,yq0,yq1,yq2,yq3,yq4,yl,ys0,ys1,seval,zed,zee,zfr,zhw,ysu,yrg,ysv,ysw,ysx,ysz,ysa,g6,g7,g8,b7,b8,g9,g10]
    refine c54w I.c2 I.q.sl (by omega) (by omega) X.hl X.ho hw hd (by omega) (by omega) ?_
    intro f v ls x m H3 hwlk hrow h28 hc3 hx3
    have sz3 := hx3.size
    obtain ⟨av, cv, hv, lg⟩ := (hrow.rowl (Nat.le_refl _)).lg
    have J : TU H C w ld l i8 i9 a' cap' b2 bs2 cap2 fr wn ts v11 e H3 := I.frx hc3 hx3 (Keep.refl _ _ _)
    have E : TD (H.size + 1) C w ld l fr wn ts n er e H3 := D.frx hx3 (Keep.refl _ _ _)
    have g11 := J.g11
    have g13 := E.g13
    have g14 := E.g14
    obtain ⟨a11, c11, hv11, op⟩ := J.cu.op
    have h69 := fun (N : Nat) => c69 (N := N) (cap := cv) (tc := c11) lg (by omega) op.il (by omega)
    rw [hv11] at g11
    have hmain : (lckB ls ts = false ∧ x = fr) → er = 0 ∧ n ≤ m := fun ⟨h1, h2⟩ => by
      subst h2
      exact D.told.wlk hwlk g hwn.1 (by omega) X.nd h1
    have g9' := J.g9
    cases hlk : lckB ls ts
    · by_cases hx : x = fr
      · obtain ⟨hr0, hnm⟩ := hmain ⟨hlk, hx⟩
        subst hr0 hx
        have hd1 : ∀ x : Int, decide (x = x) = true := fun x => by simp
        have hd2 : decide (m < n) = false := decide_eq_false (by omega)
        simp (disch := (first | (simp only [yk,seval]; done) | omega | (simp only [yz] <;> omega) | fail)) only [↓yp,yq0,yq1,yq2,yq3,yq4,yl,ys0,ys1,seval,zed,zee,zfr,zhw,ysu,yrg,ysv,ysw,ysx,ysz,ysa,hv,g9,g11,g13,g14,h69,hlk,hd1,hd2,Bool.not_false]
        simp (disch := (first | (simp only [yk,seval]; done) | omega | (simp only [yz] <;> omega) | fail)) only [↓yp,yq0,yq1,yq2,yq3,yq4,yl,ys0,ys1,seval,zed,zee,zfr,zhw,ysu,yrg,ysv,ysw,ysx,ysz,ysa,g133,hw2']
        refine ⟨6 - (j + 1), by omega, j + 1, rfl, by omega, ?_, J.next (Fr.refl _) (by (with_reducible (repeat (first | refine Keep.put ?_ (by decide) | refine Keep.none ?_ | assumption | exact Keep.refl _ _ _)))), E.next (Fr.refl _) (by (with_reducible (repeat (first | refine Keep.put ?_ (by decide) | refine Keep.none ?_ | assumption | exact Keep.refl _ _ _))))⟩
        simp (disch := (first | (simp only [yk,seval]; done) | omega | (simp only [yz] <;> omega) | fail)) only [yg,seval]
      · have hd1 : decide (x = fr) = false := decide_eq_false hx
        simp (disch := (first | (simp only [yk,seval]; done) | omega | (simp only [yz] <;> omega) | fail)) only [↓yp,yq0,yq1,yq2,yq3,yq4,yl,ys0,ys1,seval,zed,zee,zfr,zhw,ysu,yrg,ysv,ysw,ysx,ysz,ysa,hv,g9,g11,g13,g14,h69,hlk,hd1,Bool.not_false]
        simp (disch := (first | (simp only [yk,seval]; done) | omega | (simp only [yz] <;> omega) | fail)) only [↓yp,yq0,yq1,yq2,yq3,yq4,yl,ys0,ys1,seval,zed,zee,zfr,zhw,ysu,yrg,ysv,ysw,ysx,ysz,ysa,g133,hw2']
        refine ⟨6 - (j + 1), by omega, j + 1, rfl, by omega, ?_, J.next (Fr.refl _) (by (with_reducible (repeat (first | refine Keep.put ?_ (by decide) | refine Keep.none ?_ | assumption | exact Keep.refl _ _ _)))), E.next (Fr.refl _) (by (with_reducible (repeat (first | refine Keep.put ?_ (by decide) | refine Keep.none ?_ | assumption | exact Keep.refl _ _ _))))⟩
        simp (disch := (first | (simp only [yk,seval]; done) | omega | (simp only [yz] <;> omega) | fail)) only [yg,seval]
    · simp (disch := (first | (simp only [yk,seval]; done) | omega | (simp only [yz] <;> omega) | fail)) only [↓yp,yq0,yq1,yq2,yq3,yq4,yl,ys0,ys1,seval,zed,zee,zfr,zhw,ysu,yrg,ysv,ysw,ysx,ysz,ysa,hv,g9,g11,g13,g14,h69,hlk,Bool.not_true]
      simp (disch := (first | (simp only [yk,seval]; done) | omega | (simp only [yz] <;> omega) | fail)) only [↓yp,yq0,yq1,yq2,yq3,yq4,yl,ys0,ys1,seval,zed,zee,zfr,zhw,ysu,yrg,ysv,ysw,ysx,ysz,ysa,g133,hw2']
      refine ⟨6 - (j + 1), by omega, j + 1, rfl, by omega, ?_, J.next (Fr.refl _) (by (with_reducible (repeat (first | refine Keep.put ?_ (by decide) | refine Keep.none ?_ | assumption | exact Keep.refl _ _ _)))), E.next (Fr.refl _) (by (with_reducible (repeat (first | refine Keep.put ?_ (by decide) | refine Keep.none ?_ | assumption | exact Keep.refl _ _ _))))⟩
      simp (disch := (first | (simp only [yk,seval]; done) | omega | (simp only [yz] <;> omega) | fail)) only [yg,seval]
  clear I D
  rintro e H' ⟨I, D⟩
  exact hr _ _ I D
end
end Go.Am
namespace Go.Am
open Go.Proofs
variable {T : Tab} {P : Program} {N L : Nat} {H : AHeap} {Q : Bool → Value → AHeap → Prop}
section
variable {b2 : Option Addr} {cap2 : Nat} {bs2 : List Int} {R : Exit → ES → Prop} {c c' : Code} {C w ld fr wn n er : Int} {l : List Str} {i8 i9 cap' : Nat} {a' : Option Addr} {ts : List Int} {v11 : Value} {e : VT} {H' : AHeap}
theorem RowL.sameV5 {H : AHeap} {v : Value} {ls : List (Int × Bool)} {base : Nat} (R : RowL H v ls base) : sameV 5 v v = true := by
  obtain ⟨a, c, rfl, -⟩ := R.lg
  simp [sameV]
theorem c68t {s : Int} {v : Value} {B M : Nat} (X : Tx C w ld l a' cap' fr wn (s :: ts)) (hs : Sl H' a' l) (hcu : Cu H' v (s :: ts) B) (D : Told l w ld fr wn (s :: ts) n er) (hM : 21000 ≤ M) :
    ∃ v', (∀ (L : Nat) (Q : Bool → Value → AHeap → Prop) (H'' : AHeap), Fr H' H'' → L ≤ H''.size → slRK tabA 52 v (.int .i64 1) H'' L Q = andK (L ≤ H''.size) (Q true v' H'')) ∧ sameV 6 v' v' = true ∧
      ∃ f vv n' er' H3 mm, acall tabA (aexec tabA Try.prog M) 68 [.agg ⟨[.int .i64 C, .slice a' l.length cap']⟩, .agg ⟨[.int .i64 w, .int .i64 ld]⟩, .int .i64 fr, .int .i64 wn, v'] H' = some (f, .tuple ⟨[vv, .int .i64 n', .int .i64 er']⟩, H3, mm) ∧ H'.size ≤ mm ∧ Fr H' H3 ∧ (f = true → H3 = H') ∧ (sameV 6 vv vv = true ∧ sameV 5 vv vv = true) ∧ Told l w ld fr wn ts n' er' := by
  have hlen := X.len
  simp only [List.length_cons] at hlen
  have X' : Tx C w ld l a' cap' fr wn ts := ⟨X.hC, X.hl, X.ho, X.hn, X.hw, X.hd, X.hfr, X.hwn, (List.nodup_cons.1 X.nd).2, fun s hs => X.mem s (List.mem_cons_of_mem _ hs), by omega⟩
  have hl18 : l.length ≤ 18 := by have := X.hl; omega
  obtain ⟨b, al, r, rfl, hb, hg⟩ := hcu.tail
  have hgH : ∀ H'', Fr H' H'' → H''.get b = .rw (tv (s :: ts ++ r)) 3 true al := fun H'' f => (f.same b hb).trans hg
  have hkn : ∀ H'', Fr H' H'' → known H'' ⟨b, 0, none⟩ (ts.length + 1) 1 (OPEN + 1) = ts.length + 1 + r.length := fun H'' f => known_off (m := ts.length + 1 + r.length) (hgH H'' f) (by rw [tv_len]; simp; omega) (by omega)
  by_cases h0 : ts.length + r.length = 0
  · have ht : ts = [] := List.eq_nil_of_length_eq_zero (by omega)
    have hr : r = [] := List.eq_nil_of_length_eq_zero (by omega)
    subst ht hr
    refine ⟨_, fun L Q H'' f hL => slRK_tail (T := tabA) (ty := 52) (L := L) (Q := Q) (i := 1) (n := 1) zir (hkn H'' f) rfl (by unfold OPEN; omega) (by unfold OPEN; omega) (by unfold OPEN; omega) (by omega), sv_chan, ?_⟩
    obtain ⟨f, v, H3, mm, h1, h2, vv, n', er', rfl, h3, h4, h5, h6⟩ := resK_elim (Q := fun f v H3 => ∃ vv n' er', v = .tuple ⟨[vv, .int .i64 n', .int .i64 er']⟩ ∧ Fr H' H3 ∧ (f = true → H3 = H') ∧ (sameV 6 vv vv = true ∧ sameV 5 vv vv = true) ∧ Told l w ld fr wn [] n' er') (c68c (r := some (tailZ b 0 1 1)) (cap := cap') (L := H'.size) (M := M) hs hl18 X'.asked (Nat.le_refl _) hM
      (fun q H3 hqq f hno => ⟨_, _, _, rfl, f, hqq, ⟨by simp [sameV], by simp [sameV]⟩, .inl ⟨rfl, rfl, hno⟩⟩) (fun q v ls H3 mm hqq f hrow hrun h55 hcan hle => ⟨_, _, _, rfl, f, hqq, ⟨hrow.sameV6, hrow.sameV5⟩, .inr ⟨rfl, hcan, hle⟩⟩))
    exact ⟨f, vv, n', er', H3, mm, h1, h2, h3, h4, h5, h6⟩
  · have hsl : ∀ (L : Nat) (Q : Bool → Value → AHeap → Prop) (H'' : AHeap), Fr H' H'' → L ≤ H''.size → slRK tabA 52 (.slice (some ⟨b, 0, none⟩) (ts.length + 1) (OPEN + 1)) (.int .i64 1) H'' L Q = andK (L ≤ H''.size) (Q true (.slice (some ⟨b, 1, none⟩) ts.length (OPEN + 1)) H'') := fun L Q H'' f hL => by
      have := slRK_open (T := tabA) (ty := 52) (L := L) (Q := Q) (i := 1) zir (hkn H'' f) (by omega) (by omega)
      rw [Nat.zero_add, Nat.mul_one, Nat.add_sub_cancel] at this
      exact this
    refine ⟨_, hsl, by simp [sameV], ?_⟩
    have op : Op H' (some ⟨b, 1, none⟩) (OPEN + 1) ts := tail_op hb hg
    obtain ⟨f, v, H3, mm, h1, h2, vv, n', er', rfl, h3, h4, h5, h6⟩ := resK_elim (Q := fun f v H3 => ∃ vv n' er', v = .tuple ⟨[vv, .int .i64 n', .int .i64 er']⟩ ∧ Fr H' H3 ∧ (f = true → H3 = H') ∧ (sameV 6 vv vv = true ∧ sameV 5 vv vv = true) ∧ Told l w ld fr wn ts n' er') (c68 (cap := cap') (L := H'.size) (M := M) hs hl18 op (by omega) X'.nd X'.asked (Nat.le_refl _) hM
      (fun q H3 hqq f hno => ⟨_, _, _, rfl, f, hqq, ⟨by simp [sameV], by simp [sameV]⟩, .inl ⟨rfl, rfl, hno⟩⟩) (fun q v ls H3 mm hqq f hrow hrun h55 hcan hle => ⟨_, _, _, rfl, f, hqq, ⟨hrow.sameV6, hrow.sameV5⟩, .inr ⟨rfl, hcan, hle⟩⟩))
    exact ⟨f, vv, n', er', H3, mm, h1, h2, h3, h4, h5, h6⟩
set_option maxHeartbeats 4000000 in
set_option maxRecDepth 10000 in
theorem c13e (X : Tx C w ld l a' cap' fr wn ts) (I : TU H C w ld l i8 i9 a' cap' b2 bs2 cap2 fr wn ts v11 e H') (D : TD (H.size + 1) C w ld l fr wn ts n er e H')
    (hc : c = sub [true, true, true, true, true, true, true, true, true, true, true, true, true, true, true] (bodyOf Try.f13)) (hc' : c' = sub [true, true, true, true, true, true, true, true, true, true, true, true, true, true] (bodyOf Try.f13))
    (hr : ∀ e H'', TU H C w ld l i8 i9 a' cap' b2 bs2 cap2 fr wn ts v11 e H'' → TD (H.size + 1) C w ld l fr wn ts n er e H'' → W tabA Try.prog (N + 23985) none c H.size ⟨255, e, H'', []⟩ R) :
    W tabA Try.prog (N + 23986) none c' H.size ⟨255, e, H', []⟩ R := by
  subst hc hc'
  simp only [Try.f13,bodyOf,sub_nil,sub_seq0,sub_seq1,sub_block,sub_loop,sub_cond0,sub_cond1] at hr ⊢
  refine W_seqI (fun e' H'' => TU H C w ld l i8 i9 a' cap' b2 bs2 cap2 fr wn ts v11 e' H'' ∧ TD (H.size + 1) C w ld l fr wn ts n er e' H'') ?_ ?_
  rotate_left
  · rintro e H' ⟨I, D⟩
    exact hr _ _ I D
  have sz := I.q.fr.size
  have g7 := I.q.g8
  have g8 := I.q.g9
  have b7 := I.q.b8
  have b8 := I.q.b9
  have g9 := I.g9
  have g10 := I.g10
  have g11 := I.g11
  have g13 := D.g13
  have g14 := D.g14
  obtain ⟨a11, c11, hv, op⟩ := I.cu.op
  have g11' := g11.trans hv
  cases hts : ts with
  | nil =>
    subst hts
    have hd0 : decide ((0 : Int) < ((0 : Nat) : Int)) = false := rfl
    simp (disch := (first | (simp only [yk,seval]; done) | omega | (simp only [yz] <;> omega) | fail)) only [↓yp,yq0,yq1,yq2,yq3,yq4,yl,ys0,ys1,seval,zed,zee,zfr,zhw,ysu,yrg,ysv,ysw,ysx,ysz,ysa,g11',lenV_slice zir,List.length_nil,hd0]
    exact ⟨I.next (Fr.refl _) (by (with_reducible (repeat (first | refine Keep.put ?_ (by decide) | refine Keep.none ?_ | assumption | exact Keep.refl _ _ _)))), D.next (Fr.refl _) (by (with_reducible (repeat (first | refine Keep.put ?_ (by decide) | refine Keep.none ?_ | assumption | exact Keep.refl _ _ _))))⟩
  | cons s tt =>
    subst hts
    have hpos : decide (0 < ((tt.length + 1 : Nat) : Int)) = true := decide_eq_true (by omega)
    rw [List.length_cons] at hv g11'
    obtain ⟨v', hsl, hsv, f, vv, n', er', H3, mm, hres, hmm, f3, hff, ⟨hvv, hvv5⟩, told⟩ := c68t (M := N + 23981) X I.q.sl I.cu D.told (by omega)
    have f3s := f3.size
    have c7' := (f3.same i8 I.q.l8).trans b7
    have c8' := (f3.same i9 I.q.l9).trans b8
    have hslA := fun (L : Nat) (Q : Bool → Value → AHeap → Prop) (hL : L ≤ H'.size) => hsl L Q H' (Fr.refl _) hL
    have hslB := fun (L : Nat) (Q : Bool → Value → AHeap → Prop) (hL : L ≤ H3.size) => hsl L Q H3 f3 hL
    rw [hv] at hslA hslB
    simp (disch := (first | (simp only [yk,seval]; done) | omega | (simp only [yz] <;> omega) | fail)) only [↓yp,yq0,yq1,yq2,yq3,yq4,yl,ys0,ys1,seval,zed,zee,zfr,zhw,ysu,yrg,ysv,ysw,ysx,ysz,ysa,g11',lenV_slice zir,hpos]
    have hless := Told.less D.told told X.nd (List.nodup_cons.1 X.nd).2 (fun x hx => List.mem_cons_of_mem _ hx)
    have hcase : (er = 0 ∧ er' = 0 ∧ n' ≤ n) ∨ (er = 1 ∧ er' = 0) ∨ (er = 1 ∧ er' = 1) := by
      rcases D.told.err with h | h <;> rcases told.err with h' | h'
      · have := hless h; exact .inl ⟨h, h', this.2⟩
      · have := hless h; omega
      · exact .inr (.inl ⟨h, h'⟩)
      · exact .inr (.inr ⟨h, h'⟩)
    have I3 : TU H C w ld l i8 i9 a' cap' b2 bs2 cap2 fr wn (s :: tt) v11 e H3 := I.next f3 (Keep.refl _ _ _)
    have D3 : TD (H.size + 1) C w ld l fr wn (s :: tt) n er e H3 := D.next f3 (Keep.refl _ _ _)
    have hd1 : n' ≤ n → decide (n < n') = false := fun h => decide_eq_false (by omega)
    rcases hcase with ⟨rfl, rfl, hle⟩ | ⟨rfl, rfl⟩ | ⟨rfl, rfl⟩
    · have hd2 := hd1 hle
      cases f with
      | true =>
        obtain rfl := hff rfl
        refine W_draw [] rfl (by kernel_rfl) (by kernel_rfl) (by (first | omega | (simp only [yz] <;> omega))) ?_
        simp (disch := (first | (simp only [yk,seval]; done) | omega | (simp only [yz] <;> omega) | fail)) only [↓yp,yq0,yq1,yq2,yq3,yq4,yl,ys0,ys1,seval,zed,zee,zfr,zhw,ysu,yrg,ysv,ysw,ysx,ysz,ysa,g7,g8,b7,b8,g9,g10,g11',g13,g14,tm_slR,A_slR,hslA,hres,hsv,hvv,hvv5,hd2]
        exact ⟨I3.next (Fr.refl _) (by (with_reducible (repeat (first | refine Keep.put ?_ (by decide) | refine Keep.none ?_ | assumption | exact Keep.refl _ _ _)))), D3.next (Fr.refl _) (by (with_reducible (repeat (first | refine Keep.put ?_ (by decide) | refine Keep.none ?_ | assumption | exact Keep.refl _ _ _))))⟩
      | false =>
        refine W_draw [6] rfl (by kernel_rfl) (by kernel_rfl) (by (first | omega | (simp only [yz] <;> omega))) ?_
        simp (disch := (first | (simp only [yk,seval]; done) | omega | (simp only [yz] <;> omega) | fail)) only [↓yp,yq0,yq1,yq2,yq3,yq4,yl,ys0,ys1,seval,zed,zee,zfr,zhw,ysu,yrg,ysv,ysw,ysx,ysz,ysa,g7,g8,b7,b8,c7',c8',g9,g10,g11',g13,g14,tm_slR,A_slR,hslA,hslB,hres,hsv,hvv,hvv5,hd2]
        exact ⟨I3.next (Fr.refl _) (by (with_reducible (repeat (first | refine Keep.put ?_ (by decide) | refine Keep.none ?_ | assumption | exact Keep.refl _ _ _)))), D3.next (Fr.refl _) (by (with_reducible (repeat (first | refine Keep.put ?_ (by decide) | refine Keep.none ?_ | assumption | exact Keep.refl _ _ _))))⟩
    · cases f with
      | true =>
        obtain rfl := hff rfl
        refine W_draw [] rfl (by kernel_rfl) (by kernel_rfl) (by (first | omega | (simp only [yz] <;> omega))) ?_
        simp (disch := (first | (simp only [yk,seval]; done) | omega | (simp only [yz] <;> omega) | fail)) only [↓yp,yq0,yq1,yq2,yq3,yq4,yl,ys0,ys1,seval,zed,zee,zfr,zhw,ysu,yrg,ysv,ysw,ysx,ysz,ysa,g7,g8,b7,b8,g9,g10,g11',g13,g14,tm_slR,A_slR,hslA,hres,hsv,hvv,hvv5]
        exact ⟨I3.next (Fr.refl _) (by (with_reducible (repeat (first | refine Keep.put ?_ (by decide) | refine Keep.none ?_ | assumption | exact Keep.refl _ _ _)))), D3.next (Fr.refl _) (by (with_reducible (repeat (first | refine Keep.put ?_ (by decide) | refine Keep.none ?_ | assumption | exact Keep.refl _ _ _))))⟩
      | false =>
        refine W_draw [6] rfl (by kernel_rfl) (by kernel_rfl) (by (first | omega | (simp only [yz] <;> omega))) ?_
        simp (disch := (first | (simp only [yk,seval]; done) | omega | (simp only [yz] <;> omega) | fail)) only [↓yp,yq0,yq1,yq2,yq3,yq4,yl,ys0,ys1,seval,zed,zee,zfr,zhw,ysu,yrg,ysv,ysw,ysx,ysz,ysa,g7,g8,b7,b8,c7',c8',g9,g10,g11',g13,g14,tm_slR,A_slR,hslA,hslB,hres,hsv,hvv,hvv5]
        exact ⟨I3.next (Fr.refl _) (by (with_reducible (repeat (first | refine Keep.put ?_ (by decide) | refine Keep.none ?_ | assumption | exact Keep.refl _ _ _)))), D3.next (Fr.refl _) (by (with_reducible (repeat (first | refine Keep.put ?_ (by decide) | refine Keep.none ?_ | assumption | exact Keep.refl _ _ _))))⟩
    · cases f with
      | true =>
        obtain rfl := hff rfl
        refine W_draw [] rfl (by kernel_rfl) (by kernel_rfl) (by (first | omega | (simp only [yz] <;> omega))) ?_
        simp (disch := (first | (simp only [yk,seval]; done) | omega | (simp only [yz] <;> omega) | fail)) only [↓yp,yq0,yq1,yq2,yq3,yq4,yl,ys0,ys1,seval,zed,zee,zfr,zhw,ysu,yrg,ysv,ysw,ysx,ysz,ysa,g7,g8,b7,b8,g9,g10,g11',g13,g14,tm_slR,A_slR,hslA,hres,hsv,hvv,hvv5]
        exact ⟨I3.next (Fr.refl _) (by (with_reducible (repeat (first | refine Keep.put ?_ (by decide) | refine Keep.none ?_ | assumption | exact Keep.refl _ _ _)))), D3.next (Fr.refl _) (by (with_reducible (repeat (first | refine Keep.put ?_ (by decide) | refine Keep.none ?_ | assumption | exact Keep.refl _ _ _))))⟩
      | false =>
        refine W_draw [6] rfl (by kernel_rfl) (by kernel_rfl) (by (first | omega | (simp only [yz] <;> omega))) ?_
        simp (disch := (first | (simp only [yk,seval]; done) | omega | (simp only [yz] <;> omega) | fail)) only [↓yp,yq0,yq1,yq2,yq3,yq4,yl,ys0,ys1,seval,zed,zee,zfr,zhw,ysu,yrg,ysv,ysw,ysx,ysz,ysa,g7,g8,b7,b8,c7',c8',g9,g10,g11',g13,g14,tm_slR,A_slR,hslA,hslB,hres,hsv,hvv,hvv5]
        exact ⟨I3.next (Fr.refl _) (by (with_reducible (repeat (first | refine Keep.put ?_ (by decide) | refine Keep.none ?_ | assumption | exact Keep.refl _ _ _)))), D3.next (Fr.refl _) (by (with_reducible (repeat (first | refine Keep.put ?_ (by decide) | refine Keep.none ?_ | assumption | exact Keep.refl _ _ _))))⟩
end
end Go.Am
namespace Go.Am
open Go.Proofs
variable {T : Tab} {P : Program} {N L : Nat} {H : AHeap} {Q : Bool → Value → AHeap → Prop}
theorem run_folW {l : List Str} {C w ld fr a₀ : Int} {x : Int} {m : Int} {ls : List (Int × Bool)} (hC : 1 ≤ C ∧ C ≤ 8) (hl : l.length ≤ 16) (ho : ∀ s ∈ l, OkS C s) (hw : 1 ≤ w ∧ w ≤ 9) (hd : 0 ≤ ld ∧ ld ≤ 9) (hfr : 0 ≤ fr ∧ fr < C) (ha : 0 ≤ a₀ ∧ a₀ ≤ 240) (h : Run l w ld (nxt dn0) (fr, 0) a₀ ls (x, 0) m) (h7 : ls.length ≤ 60) : folG C l w ld fr a₀ ls = (x, m, 0) := by
  obtain ⟨h1, h2⟩ := run_fol h
  have h0 : asked C l w ld [fr] (ls.map (·.1)) [a₀] = 0 := asked_of (chk_of hC hl ho) (off_iff.2 hw) (off_iff.2 hd) (by simp; omega) (by
    intro n hn
    obtain ⟨p, hp, rfl⟩ := List.mem_map.1 hn
    obtain ⟨q1, q2⟩ := h2 p hp
    have : p.1.toNat < l.length := by
      apply Classical.byContradiction
      intro hge
      exact q2 (List.getElem?_eq_none (by omega))
    omega) (by simp; omega)
  unfold folG
  rw [if_neg (by simpa using h0), if_neg (by omega), h1]
section
variable {a b2 : Option Addr} {cap cap2 : Nat} {bs bs2 : List Int}
set_option maxHeartbeats 4000000 in
set_option maxRecDepth 10000 in
theorem c13 (hb : Bts H a bs) (hb2 : Bts H b2 bs2) :
    acall tabA (aexec tabA Try.prog (N + 24000)) 13 [.slice a bs.length cap, .slice b2 bs2.length cap2] H = some (true, .bool true, H, H.size) := by
  refine call_quiet (k := 255) (rs := [.tmp 4]) rfl fn_13 rfl rfl rfl ?_ rfl
  refine c13a hb hb2 rfl ?_ _ rfl rfl
  intro e H' C w ld l i8 i9 a' cap' fr wn ts v11 X I
  refine c13b X I rfl rfl ?_
  clear I
  intro e H' n er I D g16 g17
  refine c13c X I D g16 g17 rfl rfl ?_
  clear I D g16 g17
  intro e H' I D g16 g17 g22 g23
  refine c13d X I D g16 g17 g22 g23 rfl rfl ?_
  clear I D g16 g17 g22 g23
  intro e H' I D
  refine c13e X I D rfl rfl ?_
  clear I D
  intro e H' I D
  simp only [Try.f13,bodyOf,sub_nil,sub_seq0,sub_seq1,sub_block,sub_loop,sub_cond0,sub_cond1]
  have hl18 : l.length ≤ 18 := by have := X.hl; omega
  have hlen := X.len
  have g := X.good
  have hwn := X.hwn
  have hC := X.hC
  have sz := I.q.fr.size
  have g7 := I.q.g8
  have g8 := I.q.g9
  have b7 := I.q.b8
  have b8 := I.q.b9
  have g9 := I.g9
  have g10 := I.g10
  have g11 := I.g11
  have g13 := D.g13
  have g14 := D.g14
  obtain ⟨a11, c11, hv11, op⟩ := I.cu.op
  have g11' := g11.trans hv11
  rcases D.told.err with rfl | rfl
  · obtain ⟨v, ls, base, g12, hbase, hrow, hrun, h55⟩ := D.dr rfl
    have hge := D.told.ge (by omega) g
    obtain ⟨av, cv, rfl, lg⟩ := hrow.lg
    have h42 := fun (N : Nat) => c42 (N := N) (C := C) (w := w) (ld := ld) (fr := fr) (m := wn) (cap := cap') (cb := cv) I.q.sl hl18 lg (by omega)
    rw [run_folW (by omega) X.hl X.ho X.hw X.hd X.hfr (by omega) (run_dn hrun) (by omega)] at h42
    have h69 := fun (N : Nat) => c69 (N := N) (cap := cv) (tc := c11) lg (by omega) op.il (by omega)
    rw [run_through hrun X.nd] at h69
    have hd1 : ∀ x : Int, decide (x = x) = true := fun x => by simp
    have hd2 : decide (wn ≤ n) = true := decide_eq_true hge
    simp (disch := (first | (simp only [yk,seval]; done) | omega | (simp only [yz] <;> omega) | fail)) only [↓yp,yq0,yq1,yq2,yq3,yq4,yl,ys0,ys1,seval,zed,zee,zfr,zhw,ysu,yrg,ysv,ysw,ysx,ysz,ysa,g7,g8,b7,b8,g9,g10,g11',g12,g13,g14,h42,h69,hd1,hd2,Bool.not_false,awake_r]
  · have g12 := D.no rfl
    have hd1 : ∀ x : Int, decide (x = x) = true := fun x => by simp
    simp (disch := (first | (simp only [yk,seval]; done) | omega | (simp only [yz] <;> omega) | fail)) only [↓yp,yq0,yq1,yq2,yq3,yq4,yl,ys0,ys1,seval,zed,zee,zfr,zhw,ysu,yrg,ysv,ysw,ysx,ysz,ysa,g12,g14,lenV_slice st_esS_65,hd1,Int.natCast_zero,awake_r]
end
end Go.Am
