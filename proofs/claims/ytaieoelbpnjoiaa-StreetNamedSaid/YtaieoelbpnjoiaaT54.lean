import Derived.Test.YtaieoelbpnjoiaaT53
set_option linter.unusedSimpArgs false
set_option linter.unusedVariables false
namespace Go.Am
open Go.Proofs
variable {T : Tab} {P : Program} {N L : Nat} {H : AHeap} {Q : Bool → Value → AHeap → Prop}
def Cv (H : AHeap) (v : Value) (t : List Int) : Prop := ∃ a cap, v = .slice a t.length cap ∧ ((t = [] ∧ a = none ∧ cap = 0) ∨ (∃ b al, a = some ⟨b, 0, none⟩ ∧ b < H.size ∧ H.get b = .rw (tv t) 3 true al ∧ cap = OPEN + 1) ∨ (∃ b, a = some ⟨b, 0, none⟩ ∧ b < H.size ∧ H.get b = .rw (tv t) 3 false [] ∧ cap = t.length ∧ t.length < OPEN))
theorem Cv.fr {H' : AHeap} {v : Value} {t : List Int} (h : Cv H v t) (f : Fr H H') : Cv H' v t := by
 obtain ⟨a, cap, h1, h2⟩ := h
 refine ⟨a, cap, h1, ?_⟩
 have fs := f.size
 rcases h2 with h | ⟨b, al, h3, h4, h5, h6⟩ | ⟨b, h3, h4, h5, h6⟩
 ·exact .inl h
 ·exact .inr (.inl ⟨b, al, h3, by omega, (f.same _ h4).trans h5, h6⟩)
 ·exact .inr (.inr ⟨b, h3, by omega, (f.same _ h4).trans h5, h6⟩)
theorem tail_il {b : Nat} {t r : List Int} {c : List Value} (hb : b < H.size) (h : cellsOf (H.get b) = some c) (hc : c = tv (t ++ r)) : Il H (some ⟨b, 0, none⟩) t := ⟨fun _ => ⟨b, 0, c, rfl, hb, h, fun i n hi => by
 rw [Nat.zero_add, hc]
 exact tvAt (by rw [List.getElem?_append_left (List.getElem?_eq_some_iff.1 hi).1]; exact hi)⟩⟩
theorem Cv.cut {v : Value} {t : List Int} {k : Nat} (h : Cv H v t) (hk : k ≤ t.length) : ∃ a cap, (∀ (L : Nat) (Q : Bool → Value → AHeap → Prop) (H'' : AHeap), Fr H H'' → slFK tabA 52 v (.int .i64 (k : Nat)) H'' L Q = andK (L ≤ H''.size) (Q true (.slice a k cap) H'')) ∧ Op H a cap (t.take k) ∧ (t.take k).length = k := by
 have hkl : (t.take k).length = k := by rw [List.length_take]; omega
 obtain ⟨a, cap, rfl, ⟨rfl, rfl, rfl⟩ | ⟨b, al, rfl, h4, h5, rfl⟩ | ⟨b, rfl, h4, h5, rfl, h6⟩⟩ := h
 ·have hk0 : k = 0 := by simpa using hk
  subst hk0
  refine ⟨none, 0, fun L Q H'' f => ?_, Op.none, hkl⟩
  unfold slFK
  rw [aSlice_nilF (H := H'') zir rfl (abound_int (k := .i64) rfl)]
  rfl
 ·refine ⟨some ⟨b, 0, none⟩, OPEN + 1, fun L Q H'' f => slFK_open zir (known_off (m := t.length) ((f.same _ h4).trans h5) (by rw [tv_len]; rfl) (Nat.le_refl _)) hk, ⟨tail_il (r := t.drop k) h4 (by rw [h5]; rfl) (by rw [List.take_append_drop]), fun _ => .inl ⟨b, 0, t.length, rfl, rfl, known_off (m := t.length) h5 (by rw [tv_len]; rfl) (by omega), by omega⟩⟩, hkl⟩
 ·refine ⟨some ⟨b, 0, none⟩, t.length, fun L Q H'' f => ?_, ⟨tail_il (r := t.drop k) h4 (by rw [h5]; rfl) (by rw [List.take_append_drop]), fun _ => .inr ⟨b, 0, rfl, h6, by omega⟩⟩, hkl⟩
  unfold slFK
  rw [aSlice_shut (H := H'') (j := k) zir rfl (abound_int (k := .i64) rfl) h6 hk]
  rfl
theorem c58o {b o cap : Nat} {t : List Int} (hs : Il H (some ⟨b, o, none⟩) t) (hb : b < H.size) (hne : t ≠ []) (hl : t.length ≤ 1000) (hL : L ≤ H.size) {M : Nat} (hM : 60 ≤ M)
  (hq : ∀ k H', Fr H H' → H.size ≤ k → k < H'.size → H'.get k = .rw (tv t) 3 true [] → Q false (.slice (some ⟨k, 0, none⟩) t.length (OPEN + 1)) H') : resK (acall tabA (aexec tabA Try.prog M) 58 [.slice (some ⟨b, o, none⟩) t.length cap] H) L Q := by
 obtain ⟨N, rfl⟩ : ∃ N, M = N + 60 := ⟨M - 60, by omega⟩
 refine call_fls (R := fun v H' => ∃ k, v = .slice (some ⟨k, 0, none⟩) t.length (OPEN + 1) ∧ Fr H H' ∧ H.size ≤ k ∧ k < H'.size ∧ H'.get k = .rw (tv t) 3 true []) (k := 9) (rs := [.tmp 2]) rfl fn_58 rfl rfl rfl hL ?_ ?_ ?_
 ·have hpos : 0 < t.length := List.length_pos_iff.2 hne
  have h0 : decide ((t.length : Int) = 0) = false := by simp; omega
  simp (disch:=first|(simp only [yk,seval];done)|omega|(simp only [yz]<;>omega)|fail) only [↓yp,yq0,yq1,yq2,yq3,yq4,yl,ys0,ys1,seval,zed,zee,zfr,zhw,ysu,yrg,ysv,ysw,ysx,ysz,ysa,lenV_slice zir,h0,A_buildSlice st_brS_52_0]
  rw [apK_empty (H := _) (n := t.length) st_apS_52 ((hs.fr (Fr.alloc _ _)).src hne) hpos (by omega) (by omega) (one_tv t) (c₀ := []) (by simp (disch:=first|(simp only [yk,seval];done)|omega|(simp only [yz]<;>omega)|fail) only [yg,seval])]
  simp (disch:=first|(simp only [yk,seval];done)|omega|(simp only [yz]<;>omega)|fail) only [↓yp,yq0,yq1,yq2,yq3,yq4,yl,ys0,ys1,seval,zed,zee,zfr,zhw,ysu,yrg,ysv,ysw,ysx,ysz,ysa]
  exact ⟨_, rfl, by (repeat (first | exact Fr.refl _ | assumption | refine Fr.allocd ?_ _ | refine Fr.put ?_ (by first | omega | (simp only [yz] <;> omega)) _)), by (first | omega | (simp only [yz] <;> omega)), by (first | omega | (simp only [yz] <;> omega)), by simp (disch:=first|(simp only [yk,seval];done)|omega|(simp only [yz]<;>omega)|fail) only [yg,seval]⟩
 ·rintro v H' ⟨k, rfl, -⟩; rfl
 ·rintro v H' ⟨k, rfl, h1, h2, h3, h4⟩
  exact hq _ _ h1 h2 h3 h4
structure TL (n m : Nat) (pl : List Int) (v25 v26 : Value) (e : VT) (H' : AHeap) : Prop where
 g25 : gt 224 e 25 = v25
 g26 : gt 224 e 26 = v26
 g28 : gt 224 e 28 = .int .i64 (m : Nat)
 l25 : Cv H' v25 pl
 l26 : Cv H' v26 (idx n)
theorem TL.next {n m : Nat} {pl : List Int} {v25 v26 : Value} {e e' : VT} {H' H'' : AHeap} (I : TL n m pl v25 v26 e H') (f : Fr H' H'') (h : Keep 224 [25, 26, 28] e e') : TL n m pl v25 v26 e' H'' where
 g25 := (h 25 (by simp)).trans I.g25
 g26 := (h 26 (by simp)).trans I.g26
 g28 := (h 28 (by simp)).trans I.g28
 l25 := I.l25.fr f
 l26 := I.l26.fr f
theorem fil_idx {n j : Nat} (hj : j < n) : (fil (idx n) j).set j (j : Int) = fil (idx n) (j + 1) := by
 have h1 : (idx n)[j]? = some (j : Int) := by unfold idx; rw [List.getElem?_map, List.getElem?_range hj]; rfl
 have hl : (idx n).length = n := idx_len
 unfold fil
 rw [hl]
 have ht : ((idx n).take j).length = j := by rw [List.length_take]; omega
 rw [List.set_append_right _ _ (by omega), ht, Nat.sub_self]
 obtain ⟨d, hd⟩ : ∃ d, n - j = d + 1 := ⟨n - j - 1, by omega⟩
 rw [hd, List.replicate_succ, List.set_cons_zero, show n - (j + 1) = d by omega, List.take_succ_eq_append_getElem (by omega)]
 have : (idx n)[j]'(by omega) = (j : Int) := by
  have := List.getElem?_eq_some_iff.1 h1
  exact this.2
 rw [this]
 simp
section
variable {R : Exit → ES → Prop} {c c' : Code} {C w ld fr to wn : Int} {l lst : List Str} {i8 i9 cap' i14 ks : Nat} {a' : Option Addr} {co pl : List Int} {v12 v13 : Value} {e : VT} {H' : AHeap} {bl : List Int} {er : Int} {a1 a2 : Option Addr} {c1 c2 : Nat}
set_option maxHeartbeats 4000000 in
set_option maxRecDepth 10000 in
theorem c16e (X : Nx C w ld l a' cap' fr to wn co pl) (I : TN H C w ld l i8 i9 a' cap' fr to wn co pl v12 v13 e H') (O : TO C l.length lst i14 ks e H') (B : TB bl er a1 c1 a2 c2 e H')
  (hc : c = sub [true, true, true, true, true, true, true, true, true, true, true, true, true, true, true, true, true] (bodyOf Try.f16)) (hc' : c' = sub [true, true, true, true, true, true, true, true, true, true, true, true, true] (bodyOf Try.f16))
  (hr : ∀ e H'' m v25 v26, TN H C w ld l i8 i9 a' cap' fr to wn co pl v12 v13 e H'' → TO C l.length lst i14 ks e H'' → TB bl er a1 c1 a2 c2 e H'' → TL l.length m pl v25 v26 e H'' → m ≤ 3 → m ≤ l.length → W tabA Try.prog (N + 23983) none c H.size ⟨224, e, H'', []⟩ R) :
  W tabA Try.prog (N + 23987) none c' H.size ⟨224, e, H', []⟩ R := by
 subst hc hc'
 simp only [Try.f16,bodyOf,sub_nil,sub_seq0,sub_seq1,sub_block,sub_loop,sub_cond0,sub_cond1] at hr ⊢
 have hl16 := X.hl
 have hpl : pl.length = l.length := by rw [X.hpl.length_eq, idx_len]
 refine W_seqI (fun e' H'' => ∃ v25, TN H C w ld l i8 i9 a' cap' fr to wn co pl v12 v13 e' H'' ∧ TO C l.length lst i14 ks e' H'' ∧ TB bl er a1 c1 a2 c2 e' H'' ∧ gt 224 e' 25 = v25 ∧ Cv H'' v25 pl) ?_ ?_
 ·have sz := I.q.fr.size
  obtain ⟨a13, c13, hv13, op⟩ := I.cp.op
  have g13 := I.g13.trans hv13
  by_cases hne : pl = []
  ·have h0 : decide ((0 : Int) = 0) = true := rfl
   subst hne
   have h58 : ∀ N, acall tabA (aexec tabA Try.prog (N + 60)) 58 [.slice a13 ([] : List Int).length c13] H' = some (true, .slice none 0 0, H', H'.size) := fun N => by
    refine call_quiet (k := 9) (rs := [.tmp 2]) rfl fn_58 rfl rfl rfl ?_ rfl
    simp (disch:=first|(simp only [yk,seval];done)|omega|(simp only [yz]<;>omega)|fail) only [↓yp,yq0,yq1,yq2,yq3,yq4,yl,ys0,ys1,seval,zed,zee,zfr,zhw,ysu,yrg,ysv,ysw,ysx,ysz,ysa,lenV_slice zir,List.length_nil,Int.natCast_zero]
   simp only [List.length_nil] at h58 g13
   simp (disch:=first|(simp only [yk,seval];done)|omega|(simp only [yz]<;>omega)|fail) only [↓yp,yq0,yq1,yq2,yq3,yq4,yl,ys0,ys1,seval,zed,zee,zfr,zhw,ysu,yrg,ysv,ysw,ysx,ysz,ysa,g13,h58]
   refine ⟨_, I.next (Fr.refl _) (by (with_reducible repeat first|refine Keep.put ?_ (by decide)|refine Keep.none ?_|assumption|exact Keep.refl _ _ _)), O.next (Fr.refl _) (by (with_reducible repeat first|refine Keep.put ?_ (by decide)|refine Keep.none ?_|assumption|exact Keep.refl _ _ _)), B.next (Fr.refl _) (by (with_reducible repeat first|refine Keep.put ?_ (by decide)|refine Keep.none ?_|assumption|exact Keep.refl _ _ _)), rfl, ?_⟩
   simp (disch:=first|(simp only [yk,seval];done)|omega|(simp only [yz]<;>omega)|fail) only [yg,seval]
   exact ⟨none, 0, rfl, .inl ⟨rfl, rfl, rfl⟩⟩
  ·obtain ⟨b, o, cc, rfl, hb, hcc, hpp⟩ := op.il.get hne
   simp (disch:=first|(simp only [yk,seval];done)|omega|(simp only [yz]<;>omega)|fail) only [↓yp,yq0,yq1,yq2,yq3,yq4,yl,ys0,ys1,seval,zed,zee,zfr,zhw,ysu,yrg,ysv,ysw,ysx,ysz,ysa,g13]
   refine c58o op.il hb hne (by omega) (by omega) (by omega) ?_
   intro k H2 f2 d1 d2 d3
   have f2s := f2.size
   simp (disch:=first|(simp only [yk,seval];done)|omega|(simp only [yz]<;>omega)|fail) only [↓yp,yq0,yq1,yq2,yq3,yq4,yl,ys0,ys1,seval,zed,zee,zfr,zhw,ysu,yrg,ysv,ysw,ysx,ysz,ysa]
   refine ⟨_, I.next f2 (by (with_reducible repeat first|refine Keep.put ?_ (by decide)|refine Keep.none ?_|assumption|exact Keep.refl _ _ _)), O.next f2 (by (with_reducible repeat first|refine Keep.put ?_ (by decide)|refine Keep.none ?_|assumption|exact Keep.refl _ _ _)), B.next f2 (by (with_reducible repeat first|refine Keep.put ?_ (by decide)|refine Keep.none ?_|assumption|exact Keep.refl _ _ _)), rfl, ?_⟩
   simp (disch:=first|(simp only [yk,seval];done)|omega|(simp only [yz]<;>omega)|fail) only [yg,seval]
   exact ⟨_, _, rfl, .inr (.inl ⟨k, [], rfl, d2, d3, rfl⟩)⟩
 clear I O B
 rintro e H' ⟨v25, I, O, B, g25, l25⟩
 obtain ⟨a25, c25, hv25, hcv⟩ := l25
 have l25 : Cv H' v25 pl := ⟨a25, c25, hv25, hcv⟩
 rw [hpl] at hv25
 refine W_seqI (fun e' H'' => TN H C w ld l i8 i9 a' cap' fr to wn co pl v12 v13 e' H' ∧ TO C l.length lst i14 ks e' H' ∧ TB bl er a1 c1 a2 c2 e' H' ∧ gt 224 e' 25 = v25 ∧ Fr H' H'' ∧ H'.size < H''.size ∧ gt 224 e' 26 = .slice (some ⟨H'.size, 0, none⟩) l.length l.length ∧ H''.get H'.size = .rw (tv (List.replicate l.length 0)) 3 false []) ?_ ?_
 ·have sz := I.q.fr.size
  have g25' := g25.trans hv25
  simp (disch:=first|(simp only [yk,seval];done)|omega|(simp only [yz]<;>omega)|fail) only [↓yp,yq0,yq1,yq2,yq3,yq4,yl,ys0,ys1,seval,zed,zee,zfr,zhw,ysu,yrg,ysv,ysw,ysx,ysz,ysa,g25',lenV_slice zir]
  refine A_make_of (m := (l.length : Int)) st_mkS_52 (by simp (disch:=first|(simp only [yk,seval];done)|omega|(simp only [yz]<;>omega)|fail) only [↓yp,yq0,yq1,yq2,yq3,yq4,yl,ys0,ys1,seval,zed,zee,zfr,zhw,ysu,yrg,ysv,ysw,ysx,ysz,ysa]) (by omega) (by omega) (by omega) (by rw [made_zero]; exact grs_tv _) (by first|omega|(simp only [yz]<;>omega)) ?_
  rw [made_zero]
  simp (disch:=first|(simp only [yk,seval];done)|omega|(simp only [yz]<;>omega)|fail) only [↓yp,yq0,yq1,yq2,yq3,yq4,yl,ys0,ys1,seval,zed,zee,zfr,zhw,ysu,yrg,ysv,ysw,ysx,ysz,ysa,Int.toNat_natCast]
  refine ⟨I.next (Fr.refl _) (by (with_reducible repeat first|refine Keep.put ?_ (by decide)|refine Keep.none ?_|assumption|exact Keep.refl _ _ _)), O.next (Fr.refl _) (by (with_reducible repeat first|refine Keep.put ?_ (by decide)|refine Keep.none ?_|assumption|exact Keep.refl _ _ _)), B.next (Fr.refl _) (by (with_reducible repeat first|refine Keep.put ?_ (by decide)|refine Keep.none ?_|assumption|exact Keep.refl _ _ _)), ?_, Fr.alloc _ _, by (first | omega | (simp only [yz] <;> omega)), ?_, ?_⟩
  ·simp (disch:=first|(simp only [yk,seval];done)|omega|(simp only [yz]<;>omega)|fail) only [yg,seval,g25]
  ·simp (disch:=first|(simp only [yk,seval];done)|omega|(simp only [yz]<;>omega)|fail) only [yg,seval]
  ·rw [zda rfl]
 clear I O B g25
 rintro e1 H1 ⟨I, O, B, g25, f1, sz1, g26, bkf⟩
 refine W_seqI (fun e' H'' => TN H C w ld l i8 i9 a' cap' fr to wn co pl v12 v13 e' H'' ∧ TO C l.length lst i14 ks e' H'' ∧ TB bl er a1 c1 a2 c2 e' H'' ∧ gt 224 e' 25 = v25 ∧ Cv H'' v25 pl ∧ gt 224 e' 26 = .slice (some ⟨H'.size, 0, none⟩) l.length l.length ∧ Cv H'' (.slice (some ⟨H'.size, 0, none⟩) l.length l.length) (idx l.length)) ?_ ?_
 ·have sz := I.q.fr.size
  have f1s := f1.size
  simp (disch:=first|(simp only [yk,seval];done)|omega|(simp only [yz]<;>omega)|fail) only [↓yp,yq0,yq1,yq2,yq3,yq4,yl,ys0,ys1,seval,zed,zee,zfr,zhw,ysu,yrg,ysv,ysw,ysx,ysz,ysa,g26,lenV_slice zir]
  refine W_while (n := 224) 200 (fun k e' H'' => ∃ (j : Nat), k = l.length - j ∧ j ≤ l.length ∧ gt 224 e' 165 = .int .i64 (j : Nat) ∧ gt 224 e' 164 = .int .i64 l.length ∧ gt 224 e' 26 = .slice (some ⟨H'.size, 0, none⟩) l.length l.length ∧ Keep 224 [7, 8, 9, 10, 11, 12, 13, 14, 21, 22, 23, 24, 25] e1 e' ∧ Fr H' H'' ∧ H'.size < H''.size ∧ H''.get H'.size = .rw (tv (fil (idx l.length) j)) 3 false [])
   ?_ 16 l.length ⟨0, by omega, by omega, by simp (disch:=first|(simp only [yk,seval];done)|omega|(simp only [yz]<;>omega)|fail) only [yg,seval] <;> rfl, by simp (disch:=first|(simp only [yk,seval];done)|omega|(simp only [yz]<;>omega)|fail) only [yg,seval], by simp (disch:=first|(simp only [yk,seval];done)|omega|(simp only [yz]<;>omega)|fail) only [yg,seval,g26], by (with_reducible repeat first|refine Keep.put ?_ (by decide)|refine Keep.none ?_|assumption|exact Keep.refl _ _ _), f1, sz1, by rw [fil_zero, idx_len]; exact bkf⟩ (by omega) (by omega)
  rintro M1 k1 e2 H2 ⟨j, rfl, hj, g165, g164, g26, hk, f2, sz2, b2⟩
  have k7 : Keep 224 [7, 8, 9, 10, 11, 12, 13] e1 e2 := fun p hp => hk p (by simp at hp ⊢; omega)
  have k14 : Keep 224 [14] e1 e2 := fun p hp => hk p (by simp at hp ⊢; omega)
  have k21 : Keep 224 [21, 22, 23, 24] e1 e2 := fun p hp => hk p (by simp at hp ⊢; omega)
  have g25' := (hk 25 (by simp)).trans g25
  simp (disch:=first|(simp only [yk,seval];done)|omega|(simp only [yz]<;>omega)|fail) only [↓yp,yq0,yq1,yq2,yq3,yq4,yl,ys0,ys1,seval,zed,zee,zfr,zhw,ysu,yrg,ysv,ysw,ysx,ysz,ysa,g165,g164]
  refine ⟨fun hA => ?_, fun hA => ?_⟩
  rotate_left
  ·have hj' : j = l.length := by have := of_decide_eq_false hA; omega
   subst hj'
   simp (disch:=first|(simp only [yk,seval];done)|omega|(simp only [yz]<;>omega)|fail) only [↓yp,yq0,yq1,yq2,yq3,yq4,yl,ys0,ys1,seval,zed,zee,zfr,zhw,ysu,yrg,ysv,ysw,ysx,ysz,ysa]
   refine ⟨I.next f2 (by (with_reducible repeat first|refine Keep.put ?_ (by decide)|refine Keep.none ?_|assumption|exact Keep.refl _ _ _)), O.next f2 (by (with_reducible repeat first|refine Keep.put ?_ (by decide)|refine Keep.none ?_|assumption|exact Keep.refl _ _ _)), B.next f2 (by (with_reducible repeat first|refine Keep.put ?_ (by decide)|refine Keep.none ?_|assumption|exact Keep.refl _ _ _)), ?_, l25.fr f2, ?_, ⟨_, _, by rw [idx_len], .inr (.inr ⟨H'.size, rfl, sz2, ?_, by rw [idx_len], by rw [idx_len]; unfold OPEN; omega⟩)⟩⟩
   ·simp (disch:=first|(simp only [yk,seval];done)|omega|(simp only [yz]<;>omega)|fail) only [yg,seval,g25']
   ·simp (disch:=first|(simp only [yk,seval];done)|omega|(simp only [yz]<;>omega)|fail) only [yg,seval,g26]
   ·have := fil_all (t := idx l.length)
    rw [idx_len] at this
    rw [b2, this]
  have hj' : j < l.length := by have := of_decide_eq_true hA; omega
  have hw2 : w64 ((j : Int) + 1) = ((j + 1 : Nat) : Int) := by rw [w64_of (by omega)]; omega
  have hfl : (fil (idx l.length) j).length = l.length := by unfold fil; rw [List.length_append, List.length_take, List.length_replicate, idx_len]; omega
  have hN : zee j [.int .i64 (j : Nat)] (tv (fil (idx l.length) j)) = tv (fil (idx l.length) (j + 1)) := by
   rw [newC_tv (by omega), fil_idx hj']
  have hN' := hN
  simp only [zee,List.length_cons,List.length_nil,Nat.reduceAdd,Nat.zero_add] at hN'
  have hfit : decide (j + 1 ≤ (tv (fil (idx l.length) j)).length) = true := decide_eq_true (by rw [tv_len]; omega)
  simp (disch:=first|(simp only [yk,seval];done)|omega|(simp only [yz]<;>omega)|fail) only [↓yp,yq0,yq1,yq2,yq3,yq4,yl,ys0,ys1,seval,zed,zee,zfr,zhw,ysu,yrg,ysv,ysw,ysx,ysz,ysa,g165,g26,A_indexSlice zir,b2,Nat.mul_one,Nat.zero_add,hfit,hN,hN',hw2]
  refine ⟨l.length - (j + 1), by omega, j + 1, rfl, by omega, ?_, ?_, ?_, by (with_reducible repeat first|refine Keep.put ?_ (by decide)|refine Keep.none ?_|assumption|exact Keep.refl _ _ _), Fr.put f2 (Nat.le_refl _) _, by (first | omega | (simp only [yz] <;> omega)), ?_⟩
  ·simp (disch:=first|(simp only [yk,seval];done)|omega|(simp only [yz]<;>omega)|fail) only [yg,seval]
  ·simp (disch:=first|(simp only [yk,seval];done)|omega|(simp only [yz]<;>omega)|fail) only [yg,seval,g164]
  ·simp (disch:=first|(simp only [yk,seval];done)|omega|(simp only [yz]<;>omega)|fail) only [yg,seval,g26]
  ·rw [zdc sz2]
 clear I O B g25 g26
 rintro e2 H2 ⟨I, O, B, g25, l25', g26, l26⟩
 refine W_seqI (fun e' H'' => TN H C w ld l i8 i9 a' cap' fr to wn co pl v12 v13 e' H'' ∧ TO C l.length lst i14 ks e' H'' ∧ TB bl er a1 c1 a2 c2 e' H'' ∧ TL l.length (min l.length 3) pl v25 (.slice (some ⟨H'.size, 0, none⟩) l.length l.length) e' H'') ?_ ?_
 rotate_left
 ·rintro e H' ⟨I, O, B, L⟩
  exact hr _ _ _ _ _ I O B L (by omega) (by omega)
 have sz := I.q.fr.size
 have g25' := g25.trans hv25
 have hmn : (if (3 : Int) < (l.length : Int) then 3 else (l.length : Int)) = ((min l.length 3 : Nat) : Int) := by split <;> omega
 simp (disch:=first|(simp only [yk,seval];done)|omega|(simp only [yz]<;>omega)|fail) only [↓yp,yq0,yq1,yq2,yq3,yq4,yl,ys0,ys1,seval,zed,zee,zfr,zhw,ysu,yrg,ysv,ysw,ysx,ysz,ysa,g25',lenV_slice zir,A_min,mm_min,hmn]
 refine ⟨I.next (Fr.refl _) (by (with_reducible repeat first|refine Keep.put ?_ (by decide)|refine Keep.none ?_|assumption|exact Keep.refl _ _ _)), O.next (Fr.refl _) (by (with_reducible repeat first|refine Keep.put ?_ (by decide)|refine Keep.none ?_|assumption|exact Keep.refl _ _ _)), B.next (Fr.refl _) (by (with_reducible repeat first|refine Keep.put ?_ (by decide)|refine Keep.none ?_|assumption|exact Keep.refl _ _ _)), ⟨?_, ?_, ?_, l25', l26⟩⟩
 ·simp (disch:=first|(simp only [yk,seval];done)|omega|(simp only [yz]<;>omega)|fail) only [yg,seval,g25]
 ·simp (disch:=first|(simp only [yk,seval];done)|omega|(simp only [yz]<;>omega)|fail) only [yg,seval,g26]
 ·simp (disch:=first|(simp only [yk,seval];done)|omega|(simp only [yz]<;>omega)|fail) only [yg,seval]
end
end Go.Am
namespace Go.Am
open Go.Proofs
variable {T : Tab} {P : Program} {N L : Nat} {H : AHeap} {Q : Bool → Value → AHeap → Prop}
theorem RowL.same5 {H : AHeap} {v : Value} {ls : List (Int × Bool)} {base : Nat} (R : RowL H v ls base) : sameV 5 v v = true := by
 obtain ⟨a, c, rfl, -⟩ := R.lg
 simp [sameV]
theorem c68n {l : List Str} {C w ld fr wn : Int} {a ta : Option Addr} {cap tc M : Nat} {t : List Int} (hs : Sl H a l) (hl : l.length ≤ 18) (ho : Op H ta tc t) (htl : t.length ≤ 6) (hnd : t.Nodup) (h0 : asked C l w ld [fr] t [wn] = 0) (hM : 21000 ≤ M) :
  ∃ f vv n er H3 mm, acall tabA (aexec tabA Try.prog M) 68 [.agg ⟨[.int .i64 C, .slice a l.length cap]⟩, .agg ⟨[.int .i64 w, .int .i64 ld]⟩, .int .i64 fr, .int .i64 wn, .slice ta t.length tc] H = some (f, .tuple ⟨[vv, .int .i64 n, .int .i64 er]⟩, H3, mm) ∧ H.size ≤ mm ∧ Fr H H3 ∧ (sameV 6 vv vv = true ∧ sameV 5 vv vv = true) ∧ Told l w ld fr wn t n er := by
 obtain ⟨f, v, H3, mm, h1, h2, vv, n', er', rfl, h3, h5, h6⟩ := resK_elim (Q := fun f v H3 => ∃ vv n' er', v = .tuple ⟨[vv, .int .i64 n', .int .i64 er']⟩ ∧ Fr H H3 ∧ (sameV 6 vv vv = true ∧ sameV 5 vv vv = true) ∧ Told l w ld fr wn t n' er') (c68 (cap := cap) (L := H.size) (M := M) hs hl ho htl hnd h0 (Nat.le_refl _) hM
   (fun q H3 hqq f hno => ⟨_, _, _, rfl, f, ⟨by simp [sameV], by simp [sameV]⟩, .inl ⟨rfl, rfl, hno⟩⟩) (fun q v ls H3 mm hqq f hrow hrun h55 hcan hle => ⟨_, _, _, rfl, f, ⟨hrow.sameV6, hrow.same5⟩, .inr ⟨rfl, hcan, hle⟩⟩))
 exact ⟨f, vv, n', er', H3, mm, h1, h2, h3, h5, h6⟩
theorem pl_map {pl : List Int} {n : Nat} (h : pl.Perm (idx n)) : (idx n).map (tg pl) = pl := by
 have hl : pl.length = n := by rw [h.length_eq, idx_len]
 apply List.ext_getElem
 ·simp [idx_len, hl]
 ·intro i h1 h2
  have e : (idx n)[i]'(by simpa using h1) = (i : Int) := by unfold idx; simp
  rw [List.getElem_map, e]
  obtain ⟨h3, h4⟩ := tg_at h (x := (i : Int)) (by omega)
  rw [h4]
  simp
section
variable {R : Exit → ES → Prop} {c c' : Code} {C w ld fr to wn : Int} {l lst : List Str} {i8 i9 cap' i14 ks : Nat} {a' : Option Addr} {co pl : List Int} {v12 v13 : Value} {e : VT} {H' : AHeap} {bl : List Int} {er : Int} {a1 a2 : Option Addr} {c1 c2 : Nat} {m : Nat} {v25 v26 : Value}
set_option maxHeartbeats 4000000 in
set_option maxRecDepth 10000 in
theorem c16f (X : Nx C w ld l a' cap' fr to wn co pl) (I : TN H C w ld l i8 i9 a' cap' fr to wn co pl v12 v13 e H') (O : TO C l.length lst i14 ks e H') (S : Ren C l lst co pl) (B : TB bl er a1 c1 a2 c2 e H') (Z : TL l.length m pl v25 v26 e H') (hm3 : m ≤ 3) (hml : m ≤ l.length)
  (hc' : c' = sub [true, true, true, true, true, true, true, true, true, true, true, true, true, true, true, true, true] (bodyOf Try.f16)) :
  W tabA Try.prog (N + 23983) none c' H.size ⟨224, e, H', []⟩ (retK tabA H.size [.tmp 4] fun v _ => v = .bool true) := by
 subst hc'
 simp only [Try.f16,bodyOf,sub_nil,sub_seq0,sub_seq1,sub_block,sub_loop,sub_cond0,sub_cond1]
 have hl16 := X.hl
 have hC := X.hC
 have hwn := X.hwn
 have hfr := X.hfr
 have hw := X.hw
 have hd := X.hd
 have g := X.good
 have hpl : pl.length = l.length := by rw [X.hpl.length_eq, idx_len]
 have hcl : co.length = C.toNat := by rw [X.hco.length_eq, idx_len]
 obtain ⟨o1, o2, o3, o4⟩ := X.other S
 have ht1 : ∀ s ∈ (idx l.length).take m, 0 ≤ s ∧ s < l.length := fun s hs => idx_mem (List.mem_of_mem_take hs)
 have ht2 : ∀ s ∈ pl.take m, 0 ≤ s ∧ s < l.length := fun s hs => idx_mem (X.hpl.mem_iff.1 (List.mem_of_mem_take hs))
 have hmap : ((idx l.length).take m).map (tg pl) = pl.take m := by rw [List.map_take, pl_map X.hpl]
 refine W_seqI (fun e' H'' => ∃ n er1, TN H C w ld l i8 i9 a' cap' fr to wn co pl v12 v13 e' H'' ∧ TO C l.length lst i14 ks e' H'' ∧ TB bl er a1 c1 a2 c2 e' H'' ∧ TL l.length m pl v25 v26 e' H'' ∧ Told l w ld fr wn ((idx l.length).take m) n er1 ∧ gt 224 e' 30 = .int .i64 n ∧ gt 224 e' 31 = .int .i64 er1) ?_ ?_
 ·have sz := I.q.fr.size
  have g7 := I.q.g8
  have g8 := I.q.g9
  have b7 := I.q.b8
  have b8 := I.q.b9
  have l8 := I.q.l8
  have l9 := I.q.l9
  have g9 := I.g9
  have g11 := I.g11
  have g26 := Z.g26
  have g28 := Z.g28
  obtain ⟨at1, cp1, hsl, op1, hlen1⟩ := Z.l26.cut (k := m) (by rw [idx_len]; exact hml)
  obtain ⟨f, vv, n, er1, H3, mm, hres, hmm, f3, ⟨hv6, hv5⟩, told⟩ := c68n (M := N + 23981) (cap := cap') (C := C) (w := w) (ld := ld) (fr := fr) (wn := wn) I.q.sl (by omega) op1 (by omega) (idx_nodup.sublist (List.take_sublist _ _)) (asked_of (chk_of (by omega) hl16 X.ho) (off_iff.2 hw) (off_iff.2 hd) (by simp; omega) (fun s hs => by have := ht1 s hs; omega) (by simp; omega)) (by omega)
  rw [hlen1] at hres
  have f3s := f3.size
  have b73 := (f3.same _ l8).trans b7
  have b83 := (f3.same _ l9).trans b8
  have hs1 := fun (L : Nat) (Q : Bool → Value → AHeap → Prop) => hsl L Q H' (Fr.refl _)
  have hs3 := fun (L : Nat) (Q : Bool → Value → AHeap → Prop) => hsl L Q H3 f3
  have sv : sameV 6 (.slice at1 m cp1) (.slice at1 m cp1) = true := by simp [sameV]
  have svz : sameV 6 v26 v26 = true := by obtain ⟨_, _, h, _⟩ := Z.l26; rw [h]; simp [sameV]
  cases f with
  | true =>
   obtain rfl := acall_still hres
   refine W_draw [] rfl (by kernel_rfl) (by kernel_rfl) (by first|omega|(simp only [yz]<;>omega)) ?_
   simp (disch:=first|(simp only [yk,seval];done)|omega|(simp only [yz]<;>omega)|fail) only [↓yp,yq0,yq1,yq2,yq3,yq4,yl,ys0,ys1,seval,zed,zee,zfr,zhw,ysu,yrg,ysv,ysw,ysx,ysz,ysa,g7,g8,b7,b8,g9,g11,g26,g28,tm_slF,A_slF,hs1,hres,sv,svz,hv6,hv5]
   refine ⟨n, er1, I.next f3 (by (with_reducible repeat first|refine Keep.put ?_ (by decide)|refine Keep.none ?_|assumption|exact Keep.refl _ _ _)), O.next f3 (by (with_reducible repeat first|refine Keep.put ?_ (by decide)|refine Keep.none ?_|assumption|exact Keep.refl _ _ _)), B.next f3 (by (with_reducible repeat first|refine Keep.put ?_ (by decide)|refine Keep.none ?_|assumption|exact Keep.refl _ _ _)), Z.next f3 (by (with_reducible repeat first|refine Keep.put ?_ (by decide)|refine Keep.none ?_|assumption|exact Keep.refl _ _ _)), told, ?_, ?_⟩
   ·simp (disch:=first|(simp only [yk,seval];done)|omega|(simp only [yz]<;>omega)|fail) only [yg,seval]
   ·simp (disch:=first|(simp only [yk,seval];done)|omega|(simp only [yz]<;>omega)|fail) only [yg,seval]
  | false =>
   refine W_draw [7] rfl (by kernel_rfl) (by kernel_rfl) (by first|omega|(simp only [yz]<;>omega)) ?_
   simp (disch:=first|(simp only [yk,seval];done)|omega|(simp only [yz]<;>omega)|fail) only [↓yp,yq0,yq1,yq2,yq3,yq4,yl,ys0,ys1,seval,zed,zee,zfr,zhw,ysu,yrg,ysv,ysw,ysx,ysz,ysa,g7,g8,b7,b8,b73,b83,g9,g11,g26,g28,tm_slF,A_slF,hs1,hs3,hres,sv,svz,hv6,hv5]
   refine ⟨n, er1, I.next f3 (by (with_reducible repeat first|refine Keep.put ?_ (by decide)|refine Keep.none ?_|assumption|exact Keep.refl _ _ _)), O.next f3 (by (with_reducible repeat first|refine Keep.put ?_ (by decide)|refine Keep.none ?_|assumption|exact Keep.refl _ _ _)), B.next f3 (by (with_reducible repeat first|refine Keep.put ?_ (by decide)|refine Keep.none ?_|assumption|exact Keep.refl _ _ _)), Z.next f3 (by (with_reducible repeat first|refine Keep.put ?_ (by decide)|refine Keep.none ?_|assumption|exact Keep.refl _ _ _)), told, ?_, ?_⟩
   ·simp (disch:=first|(simp only [yk,seval];done)|omega|(simp only [yz]<;>omega)|fail) only [yg,seval]
   ·simp (disch:=first|(simp only [yk,seval];done)|omega|(simp only [yz]<;>omega)|fail) only [yg,seval]
 clear I O B Z
 rintro e H' ⟨n, er1, I, O, B, Z, told, g30, g31⟩
 refine W_seqI (fun e' H'' => TN H C w ld l i8 i9 a' cap' fr to wn co pl v12 v13 e' H'' ∧ TB bl er a1 c1 a2 c2 e' H'' ∧ gt 224 e' 30 = .int .i64 n ∧ gt 224 e' 31 = .int .i64 er1 ∧ gt 224 e' 33 = .int .i64 n ∧ gt 224 e' 34 = .int .i64 er1) ?_ ?_
 ·have sz := I.q.fr.size
  have g8 := I.q.g9
  have b8 := I.q.b9
  have l9 := I.q.l9
  have g9 := I.g9
  have g11 := I.g11
  have g14 := O.g14
  have b14 := O.b14
  have l14 := O.l14
  have g25 := Z.g25
  have g28 := Z.g28
  obtain ⟨b12, r12, al12, hv12, s1, s2, s3, s4⟩ := I.cc.at_ hcl (by omega)
  have g12 := I.g12.trans hv12
  have q1 := s4 fr (by omega) (by omega)
  obtain ⟨at1, cp1, hsl, op1, hlen1⟩ := Z.l25.cut (k := m) (by omega)
  obtain ⟨f, vv, n2, er2, H3, mm, hres, hmm, f3, ⟨hv6, hv5⟩, told2⟩ := c68n (M := N + 23980) (cap := l.length) (C := C) (w := w) (ld := ld) (fr := tg co fr) (wn := wn) O.sl (by omega) op1 (by omega) ((X.hpl.nodup_iff.2 idx_nodup).sublist (List.take_sublist _ _)) (asked_of (chk_of (by omega) o1 o2) (off_iff.2 hw) (off_iff.2 hd) (by simp; omega) (fun s hs => by have := ht2 s hs; rw [S.len]; omega) (by simp; omega)) (by omega)
  rw [hlen1, S.len] at hres
  rw [← hmap] at told2
  obtain ⟨rfl, rfl⟩ := S.told g hfr ht1 told told2
  obtain ⟨fo, hfo⟩ : ∃ fo, tg co fr = fo := ⟨_, rfl⟩
  rw [hfo] at q1 hres
  have f3s := f3.size
  have b83 := (f3.same _ l9).trans b8
  have s33 := (f3.same _ s2).trans s3
  have b143 := (f3.same _ l14).trans b14
  have hs1 := fun (L : Nat) (Q : Bool → Value → AHeap → Prop) => hsl L Q H' (Fr.refl _)
  have hs3 := fun (L : Nat) (Q : Bool → Value → AHeap → Prop) => hsl L Q H3 f3
  have sv : sameV 6 (.slice at1 m cp1) (.slice at1 m cp1) = true := by simp [sameV]
  have svz : sameV 6 v25 v25 = true := by obtain ⟨_, _, h, _⟩ := Z.l25; rw [h]; simp [sameV]
  cases f with
  | true =>
   obtain rfl := acall_still hres
   refine W_draw [] rfl (by kernel_rfl) (by kernel_rfl) (by first|omega|(simp only [yz]<;>omega)) ?_
   simp (disch:=first|(simp only [yk,seval];done)|omega|(simp only [yz]<;>omega)|fail) only [↓yp,yq0,yq1,yq2,yq3,yq4,yl,ys0,ys1,seval,zed,zee,zfr,zhw,ysu,yrg,ysv,ysw,ysx,ysz,ysa,g8,b8,g9,g11,g12,g14,b14,s3,q1,g25,g28,A_indexSlice zir,tm_slF,A_slF,hs1,hres,sv,svz,hv6,hv5]
   refine ⟨I.next f3 (by (with_reducible repeat first|refine Keep.put ?_ (by decide)|refine Keep.none ?_|assumption|exact Keep.refl _ _ _)), B.next f3 (by (with_reducible repeat first|refine Keep.put ?_ (by decide)|refine Keep.none ?_|assumption|exact Keep.refl _ _ _)), ?_, ?_, ?_, ?_⟩
   ·simp (disch:=first|(simp only [yk,seval];done)|omega|(simp only [yz]<;>omega)|fail) only [yg,seval,g30]
   ·simp (disch:=first|(simp only [yk,seval];done)|omega|(simp only [yz]<;>omega)|fail) only [yg,seval,g31]
   ·simp (disch:=first|(simp only [yk,seval];done)|omega|(simp only [yz]<;>omega)|fail) only [yg,seval]
   ·simp (disch:=first|(simp only [yk,seval];done)|omega|(simp only [yz]<;>omega)|fail) only [yg,seval]
  | false =>
   refine W_draw [10] rfl (by kernel_rfl) (by kernel_rfl) (by first|omega|(simp only [yz]<;>omega)) ?_
   simp (disch:=first|(simp only [yk,seval];done)|omega|(simp only [yz]<;>omega)|fail) only [↓yp,yq0,yq1,yq2,yq3,yq4,yl,ys0,ys1,seval,zed,zee,zfr,zhw,ysu,yrg,ysv,ysw,ysx,ysz,ysa,g8,b8,b83,g9,g11,g12,g14,b14,b143,s3,s33,q1,g25,g28,A_indexSlice zir,tm_slF,A_slF,hs1,hs3,hres,sv,svz,hv6,hv5]
   refine ⟨I.next f3 (by (with_reducible repeat first|refine Keep.put ?_ (by decide)|refine Keep.none ?_|assumption|exact Keep.refl _ _ _)), B.next f3 (by (with_reducible repeat first|refine Keep.put ?_ (by decide)|refine Keep.none ?_|assumption|exact Keep.refl _ _ _)), ?_, ?_, ?_, ?_⟩
   ·simp (disch:=first|(simp only [yk,seval];done)|omega|(simp only [yz]<;>omega)|fail) only [yg,seval,g30]
   ·simp (disch:=first|(simp only [yk,seval];done)|omega|(simp only [yz]<;>omega)|fail) only [yg,seval,g31]
   ·simp (disch:=first|(simp only [yk,seval];done)|omega|(simp only [yz]<;>omega)|fail) only [yg,seval]
   ·simp (disch:=first|(simp only [yk,seval];done)|omega|(simp only [yz]<;>omega)|fail) only [yg,seval]
 clear I O B Z g30 g31
 rintro e H' ⟨I, B, g30, g31, g33, g34⟩
 have sz := I.q.fr.size
 have g21 := B.g21
 have g22 := B.g22
 have g23 := B.g23
 have g24 := B.g24
 have hd1 : ∀ x : Int, decide (x = x) = true := fun x => by simp
 have h72 := fun (N : Nat) => c72 (N := N) (cap := c1) (cap2 := c2) B.i1 B.i2 (by have := B.len; omega)
 simp (disch:=first|(simp only [yk,seval];done)|omega|(simp only [yz]<;>omega)|fail) only [↓yp,yq0,yq1,yq2,yq3,yq4,yl,ys0,ys1,seval,zed,zee,zfr,zhw,ysu,yrg,ysv,ysw,ysx,ysz,ysa,g21,g22,g23,g24,g30,g31,g33,g34,hd1,h72,awake_r]
end
section
variable {a b2 : Option Addr} {cap cap2 : Nat} {bs bs2 : List Int}
theorem c16 (hb : Bts H a bs) (hb2 : Bts H b2 bs2) :
  acall tabA (aexec tabA Try.prog (N + 24000)) 16 [.slice a bs.length cap, .slice b2 bs2.length cap2] H = some (true, .bool true, H, H.size) := by
 refine call_quiet (k := 224) (rs := [.tmp 4]) rfl fn_16 rfl rfl rfl ?_ rfl
 refine c16a hb hb2 rfl ?_ _ rfl rfl
 intro e H' C w ld l i8 i9 a' cap' fr to wn co pl v12 v13 X I
 refine c16b X I rfl rfl ?_
 intro e1 H1 i14 ks I1 f1 O1 hk
 refine c16l X I1 f1 O1 hk rfl rfl ?_
 clear I I1 O1
 intro e H' lst I O S
 refine c16c X I O S rfl rfl ?_
 clear I O
 intro e H' I O
 refine c16d X I O S rfl rfl ?_
 clear I O
 intro e H' bl er a1 c1 a2 c2 I O B
 refine c16e X I O B rfl rfl ?_
 clear I O B
 intro e H' m v25 v26 I O B Z h1 h2
 exact c16f X I O S B Z h1 h2 rfl
end
end Go.Am
