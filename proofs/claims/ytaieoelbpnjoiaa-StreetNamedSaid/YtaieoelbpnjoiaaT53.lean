import Derived.Test.YtaieoelbpnjoiaaT52
set_option linter.unusedSimpArgs false
set_option linter.unusedVariables false
namespace Go.Am
open Go.Proofs
variable {T : Tab} {P : Program} {N L : Nat} {H : AHeap} {Q : Bool → Value → AHeap → Prop}
theorem TO.sl {C : Int} {n : Nat} {lst : List Str} {i14 ks : Nat} {e : VT} {H' : AHeap} (O : TO C n lst i14 ks e H') : Sl H' (some ⟨ks, 0, none⟩) lst :=
 sl_cut O.lks (by rw [O.bks]; rfl) (by rw [List.take_of_length_le (by rw [flat_length]; omega)])
structure TE (C w ld : Int) (l lst : List Str) (fr fo wn : Int) (k1 c1 k2 c2 : Nat) (e : VT) (H' : AHeap) : Prop where
 g17 : gt 224 e 17 = .slice (some ⟨k1, 0, none⟩) C.toNat c1
 g18 : gt 224 e 18 = .slice (some ⟨k2, 0, none⟩) C.toNat c2
 l17 : k1 < H'.size
 l18 : k2 < H'.size
 b17 : H'.get k1 = .rw (tv ((earT C l w ld fr wn).take C.toNat)) 3 true []
 b18 : H'.get k2 = .rw (tv ((earT C lst w ld fo wn).take C.toNat)) 3 true []
section
variable {R : Exit → ES → Prop} {c c' : Code} {C w ld fr to wn : Int} {l lst : List Str} {i8 i9 cap' i14 ks : Nat} {a' : Option Addr} {co pl : List Int} {v12 v13 : Value} {e : VT} {H' : AHeap}
theorem Nx.other (X : Nx C w ld l a' cap' fr to wn co pl) (S : Ren C l lst co pl) : lst.length ≤ 16 ∧ (∀ s ∈ lst, OkS C s) ∧ (0 ≤ tg co fr ∧ tg co fr < C) ∧ (0 ≤ tg co to ∧ tg co to < C) := by
 have hfr := X.hfr
 have hto := X.hto
 have h1 := tg_range X.hco (x := fr) (by omega)
 have h2 := tg_range X.hco (x := to) (by omega)
 exact ⟨by rw [S.len]; exact X.hl, S.okl X.ho, by omega, by omega⟩
set_option maxHeartbeats 4000000 in
set_option maxRecDepth 10000 in
theorem c16c (X : Nx C w ld l a' cap' fr to wn co pl) (I : TN H C w ld l i8 i9 a' cap' fr to wn co pl v12 v13 e H') (O : TO C l.length lst i14 ks e H') (S : Ren C l lst co pl)
  (hc : c = sub [true, true, true, true, true, true, true, true, true, true, true] (bodyOf Try.f16)) (hc' : c' = sub [true, true, true, true, true, true, true, true] (bodyOf Try.f16))
  (hr : ∀ e H'', TN H C w ld l i8 i9 a' cap' fr to wn co pl v12 v13 e H'' → TO C l.length lst i14 ks e H'' → W tabA Try.prog (N + 23989) none c H.size ⟨224, e, H'', []⟩ R) :
  W tabA Try.prog (N + 23992) none c' H.size ⟨224, e, H', []⟩ R := by
 subst hc hc'
 simp only [Try.f16,bodyOf,sub_nil,sub_seq0,sub_seq1,sub_block,sub_loop,sub_cond0,sub_cond1] at hr ⊢
 have hl16 := X.hl
 have hC := X.hC
 have hwn := X.hwn
 have g := X.good
 have hcl : co.length = C.toNat := by rw [X.hco.length_eq, idx_len]
 obtain ⟨o1, o2, o3, o4⟩ := X.other S
 have g' : Good C lst ld := S.good g
 refine W_seqI (fun e' H'' => ∃ k1 c1 k2 c2, TN H C w ld l i8 i9 a' cap' fr to wn co pl v12 v13 e' H'' ∧ TO C l.length lst i14 ks e' H'' ∧ TE C w ld l lst fr (tg co fr) wn k1 c1 k2 c2 e' H'') ?_ ?_
 ·have sz := I.q.fr.size
  have g7 := I.q.g8
  have g8 := I.q.g9
  have b7 := I.q.b8
  have b8 := I.q.b9
  have l8 := I.q.l8
  have l9 := I.q.l9
  have g9 := I.g9
  have g11 := I.g11
  have g14 := O.g14
  have b14 := O.b14
  have l14 := O.l14
  obtain ⟨b12, r12, al12, hv12, s1, s2, s3, s4⟩ := I.cc.at_ hcl (by omega)
  have g12 := I.g12.trans hv12
  have hfr := X.hfr
  have q1 := s4 fr (by omega) (by omega)
  obtain ⟨f1, v1, H1, m1, hres1, hm1, rfl, k1, c1, rfl, fr1, d1, d2, d3⟩ := resK_elim (Q := fun f v H'' => f = false ∧ ∃ k cap', v = .slice (some ⟨k, 0, none⟩) C.toNat cap' ∧ Fr H' H'' ∧ H'.size ≤ k ∧ k < H''.size ∧ H''.get k = .rw (tv ((earT C l w ld fr wn).take C.toNat)) 3 true []) (c52 (L := H.size) (M := N + 23990) (cap := cap') I.q.sl (by omega) (asked_zero (cs := [fr]) (ms := [wn]) (C := C) (ld := ld) (w := w) (by omega) hl16 X.ho X.hw X.hd (by simp; omega) (by simp; omega)) (by omega) (by omega) (fun k cap' H'' h1 h2 h3 h4 => ⟨rfl, k, cap', rfl, h1, h2, h3, h4⟩))
  have fr1s := fr1.size
  have sl2 := O.sl.fr fr1
  obtain ⟨f2, v2, H2, m2, hres2, hm2, rfl, k2, c2, rfl, fr2, d4, d5, d6⟩ := resK_elim (Q := fun f v H'' => f = false ∧ ∃ k cap', v = .slice (some ⟨k, 0, none⟩) C.toNat cap' ∧ Fr H1 H'' ∧ H1.size ≤ k ∧ k < H''.size ∧ H''.get k = .rw (tv ((earT C lst w ld (tg co fr) wn).take C.toNat)) 3 true []) (c52 (L := H.size) (M := N + 23990) (cap := l.length) sl2 (by omega) (asked_zero (cs := [tg co fr]) (ms := [wn]) (C := C) (ld := ld) (w := w) (by omega) o1 o2 X.hw X.hd (by simp; omega) (by simp; omega)) (by omega) (by omega) (fun k cap' H'' h1 h2 h3 h4 => ⟨rfl, k, cap', rfl, h1, h2, h3, h4⟩))
  have fr2s := fr2.size
  rw [S.len] at hres2
  obtain ⟨fo, hfo⟩ : ∃ fo, tg co fr = fo := ⟨_, rfl⟩
  rw [hfo] at q1 hres2 d6 ⊢
  have b71 := (fr1.same _ l8).trans b7
  have b81 := (fr1.same _ l9).trans b8
  have b72 := (fr2.same _ (by omega)).trans b71
  have b82 := (fr2.same _ (by omega)).trans b81
  have s31 := (fr1.same _ s2).trans s3
  have s32 := (fr2.same _ (by omega)).trans s31
  have b141 := (fr1.same _ l14).trans b14
  have b142 := (fr2.same _ (by omega)).trans b141
  refine W_draw [4, 12] rfl (by kernel_rfl) (by kernel_rfl) (by first|omega|(simp only [yz]<;>omega)) ?_
  simp (disch:=first|(simp only [yk,seval];done)|omega|(simp only [yz]<;>omega)|fail) only [↓yp,yq0,yq1,yq2,yq3,yq4,yl,ys0,ys1,seval,zed,zee,zfr,zhw,ysu,yrg,ysv,ysw,ysx,ysz,ysa,g7,g8,b7,b8,g9,g11,g12,g14,b14,b71,b81,b72,b82,s3,s31,s32,b141,b142,q1,A_indexSlice zir,hres1,hres2]
  have f12 := fr1.trans fr2
  refine ⟨k1, c1, k2, c2, I.next f12 (by (with_reducible repeat first|refine Keep.put ?_ (by decide)|refine Keep.none ?_|assumption|exact Keep.refl _ _ _)), O.next f12 (by (with_reducible repeat first|refine Keep.put ?_ (by decide)|refine Keep.none ?_|assumption|exact Keep.refl _ _ _)), ⟨?_, ?_, by omega, by omega, (fr2.same _ d2).trans d3, d6⟩⟩
  ·simp (disch:=first|(simp only [yk,seval];done)|omega|(simp only [yz]<;>omega)|fail) only [yg,seval]
  ·simp (disch:=first|(simp only [yk,seval];done)|omega|(simp only [yz]<;>omega)|fail) only [yg,seval]
 clear I O
 rintro e H' ⟨k1, c1, k2, c2, I, O, E⟩
 refine W_seqI (fun e' H'' => TN H C w ld l i8 i9 a' cap' fr to wn co pl v12 v13 e' H'' ∧ TO C l.length lst i14 ks e' H'' ∧ TE C w ld l lst fr (tg co fr) wn k1 c1 k2 c2 e' H'') ?_ ?_
 ·have sz := I.q.fr.size
  have g17 := E.g17
  have g18 := E.g18
  simp (disch:=first|(simp only [yk,seval];done)|omega|(simp only [yz]<;>omega)|fail) only [↓yp,yq0,yq1,yq2,yq3,yq4,yl,ys0,ys1,seval,zed,zee,zfr,zhw,ysu,yrg,ysv,ysw,ysx,ysz,ysa,g17,g18,binV_nil_some zir,binV_nil_someN zir]
  refine ⟨I.next (Fr.refl _) (by (with_reducible repeat first|refine Keep.put ?_ (by decide)|refine Keep.none ?_|assumption|exact Keep.refl _ _ _)), O.next (Fr.refl _) (by (with_reducible repeat first|refine Keep.put ?_ (by decide)|refine Keep.none ?_|assumption|exact Keep.refl _ _ _)), ⟨?_, ?_, E.l17, E.l18, E.b17, E.b18⟩⟩
  ·simp (disch:=first|(simp only [yk,seval];done)|omega|(simp only [yz]<;>omega)|fail) only [yg,seval,g17]
  ·simp (disch:=first|(simp only [yk,seval];done)|omega|(simp only [yz]<;>omega)|fail) only [yg,seval,g18]
 clear I O E
 rintro e H' ⟨I, O, E⟩
 refine W_seqI (fun e' H'' => TN H C w ld l i8 i9 a' cap' fr to wn co pl v12 v13 e' H'' ∧ TO C l.length lst i14 ks e' H'') ?_ ?_
 rotate_left
 ·rintro e H' ⟨I, O⟩
  exact hr _ _ I O
 have sz := I.q.fr.size
 have g17 := E.g17
 have g18 := E.g18
 have b17 := E.b17
 have b18 := E.b18
 obtain ⟨b12, r12, al12, hv12, s1, s2, s3, s4⟩ := I.cc.at_ hcl (by omega)
 have g12 := I.g12.trans hv12
 have hcn : ((C.toNat : Nat) : Int) = C := by omega
 simp (disch:=first|(simp only [yk,seval];done)|omega|(simp only [yz]<;>omega)|fail) only [↓yp,yq0,yq1,yq2,yq3,yq4,yl,ys0,ys1,seval,zed,zee,zfr,zhw,ysu,yrg,ysv,ysw,ysx,ysz,ysa,g17,lenV_slice zir]
 refine W_while (n := 224) 300 (fun k e' H'' => ∃ (j : Nat), k = C.toNat - j ∧ j ≤ C.toNat ∧ gt 224 e' 119 = .int .i64 (j : Nat) ∧ gt 224 e' 118 = .int .i64 (C.toNat : Nat) ∧ gt 224 e' 117 = .slice (some ⟨k1, 0, none⟩) C.toNat c1 ∧ Keep 224 [7, 8, 9, 10, 11, 12, 13, 14, 18] e e' ∧ H' = H'')
  ?_ 8 C.toNat ⟨0, by omega, by omega, by simp (disch:=first|(simp only [yk,seval];done)|omega|(simp only [yz]<;>omega)|fail) only [yg,seval] <;> rfl, by simp (disch:=first|(simp only [yk,seval];done)|omega|(simp only [yz]<;>omega)|fail) only [yg,seval], by simp (disch:=first|(simp only [yk,seval];done)|omega|(simp only [yz]<;>omega)|fail) only [yg,seval], by (with_reducible repeat first|refine Keep.put ?_ (by decide)|refine Keep.none ?_|assumption|exact Keep.refl _ _ _), rfl⟩ (by omega) (by omega)
 rintro M1 k3 e2 _ ⟨j, rfl, hj, g119, g118, g117, hkp, rfl⟩
 have hk7 : Keep 224 [7, 8, 9, 10, 11, 12, 13] e e2 := fun p hp => hkp p (by simp at hp ⊢; omega)
 have hk14 : Keep 224 [14] e e2 := fun p hp => hkp p (by simp at hp ⊢; omega)
 simp (disch:=first|(simp only [yk,seval];done)|omega|(simp only [yz]<;>omega)|fail) only [↓yp,yq0,yq1,yq2,yq3,yq4,yl,ys0,ys1,seval,zed,zee,zfr,zhw,ysu,yrg,ysv,ysw,ysx,ysz,ysa,g119,g118]
 refine ⟨fun hA => ?_, fun hA => ?_⟩
 rotate_left
 ·simp (disch:=first|(simp only [yk,seval];done)|omega|(simp only [yz]<;>omega)|fail) only [↓yp,yq0,yq1,yq2,yq3,yq4,yl,ys0,ys1,seval,zed,zee,zfr,zhw,ysu,yrg,ysv,ysw,ysx,ysz,ysa]
  exact ⟨I.next (Fr.refl _) (by (with_reducible repeat first|refine Keep.put ?_ (by decide)|refine Keep.none ?_|assumption|exact Keep.refl _ _ _)), O.next (Fr.refl _) (by (with_reducible repeat first|refine Keep.put ?_ (by decide)|refine Keep.none ?_|assumption|exact Keep.refl _ _ _))⟩
 have hj' : j < C.toNat := by have := of_decide_eq_true hA; omega
 have hw2 : w64 ((j : Int) + 1) = ((j + 1 : Nat) : Int) := by rw [w64_of (by omega)]; omega
 have hat1 := take_at (C := C) (x := (j : Int)) (earT_len (w := w) g (fr := fr) (a₀ := wn) X.hfr (by omega)) (by omega) (by omega)
 have hpr := tg_range X.hco (x := (j : Int)) (by omega)
 have hat2 := take_at (C := C) (x := tg co (j : Int)) (earT_len (w := w) g' (fr := tg co fr) (a₀ := wn) o3 (by omega)) (by omega) (by omega)
 rw [S.ear g X.hfr (by omega) (by omega)] at hat2
 have q1 := s4 (j : Int) (by omega) (by omega)
 rw [Int.toNat_natCast] at hat1 q1
 obtain ⟨pn, hpn⟩ : ∃ pn : Nat, tg co (j : Int) = pn := ⟨(tg co (j : Int)).toNat, by omega⟩
 rw [hpn] at q1 hat2 hpr
 rw [Int.toNat_natCast] at hat2
 have g12' := (hkp 12 (by simp)).trans g12
 have g18' := (hkp 18 (by simp)).trans g18
 have hd : ∀ x : Int, decide (x = x) = true := fun x => by simp
 simp (disch:=first|(simp only [yk,seval];done)|omega|(simp only [yz]<;>omega)|fail) only [↓yp,yq0,yq1,yq2,yq3,yq4,yl,ys0,ys1,seval,zed,zee,zfr,zhw,ysu,yrg,ysv,ysw,ysx,ysz,ysa,g119,g117,g12',g18',b17,b18,s3,hat1,hat2,q1,A_indexSlice zir,hd,hw2]
 refine ⟨C.toNat - (j + 1), by omega, j + 1, rfl, by omega, ?_, ?_, ?_, by (with_reducible repeat first|refine Keep.put ?_ (by decide)|refine Keep.none ?_|assumption|exact Keep.refl _ _ _), rfl⟩
 ·simp (disch:=first|(simp only [yk,seval];done)|omega|(simp only [yz]<;>omega)|fail) only [yg,seval]
 ·simp (disch:=first|(simp only [yk,seval];done)|omega|(simp only [yz]<;>omega)|fail) only [yg,seval,g118]
 ·simp (disch:=first|(simp only [yk,seval];done)|omega|(simp only [yz]<;>omega)|fail) only [yg,seval,g117]
end
end Go.Am
namespace Go.Am
open Go.Proofs
variable {T : Tab} {P : Program} {N L : Nat} {H : AHeap} {Q : Bool → Value → AHeap → Prop}
set_option maxHeartbeats 1000000 in
theorem c72 {a a2 : Option Addr} {cap cap2 : Nat} {t : List Int} (hs : Il H a t) (hs2 : Il H a2 t) (hl : t.length ≤ 8) :
  acall tabA (aexec tabA Try.prog (N + 200)) 72 [.slice a t.length cap, .slice a2 t.length cap2] H = some (true, .bool true, H, H.size) := by
 refine call_quiet (k := 26) (rs := [.tmp 4]) rfl fn_72 rfl rfl rfl ?_ rfl
 have hd : ∀ x : Int, decide (x = x) = true := fun x => by simp
 simp (disch:=first|(simp only [yk,seval];done)|omega|(simp only [yz]<;>omega)|fail) only [↓yp,yq0,yq1,yq2,yq3,yq4,yl,ys0,ys1,seval,zed,zee,zfr,zhw,ysu,yrg,ysv,ysw,ysx,ysz,ysa,lenV_slice st_esS_101,hd]
 refine W_while (n := 26) 120 (fun k e H' => ∃ i : Nat, k = t.length - i ∧ i ≤ t.length ∧ gt 26 e 14 = .int .i64 (i : Nat) ∧ gt 26 e 13 = .int .i64 t.length ∧ gt 26 e 12 = .slice a t.length cap ∧ gt 26 e 1 = .slice a2 t.length cap2 ∧ H' = H)
  ?_ 8 t.length ⟨0, by omega, by omega, by simp (disch:=first|(simp only [yk,seval];done)|omega|(simp only [yz]<;>omega)|fail) only [yg,seval] <;> rfl, by simp (disch:=first|(simp only [yk,seval];done)|omega|(simp only [yz]<;>omega)|fail) only [yg,seval], by simp (disch:=first|(simp only [yk,seval];done)|omega|(simp only [yz]<;>omega)|fail) only [yg,seval], by simp (disch:=first|(simp only [yk,seval];done)|omega|(simp only [yz]<;>omega)|fail) only [yg,seval], rfl⟩ (by omega) (by omega)
 rintro M k e H' ⟨i, rfl, hi, g14, g13, g12, g1, rfl⟩
 simp (disch:=first|(simp only [yk,seval];done)|omega|(simp only [yz]<;>omega)|fail) only [↓yp,yq0,yq1,yq2,yq3,yq4,yl,ys0,ys1,seval,zed,zee,zfr,zhw,ysu,yrg,ysv,ysw,ysx,ysz,ysa,g14,g13]
 refine ⟨fun hA => ?_, fun hA => ?_⟩
 rotate_left
 ·simp (disch:=first|(simp only [yk,seval];done)|omega|(simp only [yz]<;>omega)|fail) only [↓yp,yq0,yq1,yq2,yq3,yq4,yl,ys0,ys1,seval,zed,zee,zfr,zhw,ysu,yrg,ysv,ysw,ysx,ysz,ysa]
 have hi' : i < t.length := by have := of_decide_eq_true hA; omega
 have hne : t ≠ [] := fun h => by rw [h] at hi'; simp at hi'
 obtain ⟨b, o, c, rfl, hc, hp⟩ := hs.c hne
 obtain ⟨b2, o2, c2, rfl, hc2, hp2⟩ := hs2.c hne
 obtain ⟨v, hv⟩ : ∃ v, t[i]? = some v := ⟨t[i], by simp [hi']⟩
 have q := hp i v hv
 have q2 := hp2 i v hv
 have hw2 : w64 ((i : Int) + 1) = ((i + 1 : Nat) : Int) := by rw [w64_of (by omega)]; omega
 simp (disch:=first|(simp only [yk,seval];done)|omega|(simp only [yz]<;>omega)|fail) only [↓yp,yq0,yq1,yq2,yq3,yq4,yl,ys0,ys1,seval,zed,zee,zfr,zhw,ysu,yrg,ysv,ysw,ysx,ysz,ysa,g14,g12,g1,A_indexSlice st_esS_101,hc,q,hc2,q2,hd,hw2,Nat.mul_one]
 refine ⟨t.length - (i + 1), by omega, i + 1, rfl, by omega, ?_, ?_, ?_, ?_, rfl⟩
 ·simp (disch:=first|(simp only [yk,seval];done)|omega|(simp only [yz]<;>omega)|fail) only [yg,seval]
 ·simp (disch:=first|(simp only [yk,seval];done)|omega|(simp only [yz]<;>omega)|fail) only [yg,seval,g13]
 ·simp (disch:=first|(simp only [yk,seval];done)|omega|(simp only [yz]<;>omega)|fail) only [yg,seval,g12]
 ·simp (disch:=first|(simp only [yk,seval];done)|omega|(simp only [yz]<;>omega)|fail) only [yg,seval,g1]
theorem Ren.free {C w ld fr to wn : Int} {l lst : List Str} {co pl : List Int} (S : Ren C l lst co pl) (hC : 1 ≤ C ∧ C ≤ 8) (hl : l.length ≤ 16) (ho : ∀ s ∈ l, OkS C s) (hd : 0 ≤ ld ∧ ld ≤ 9) (hfr : 0 ≤ fr ∧ fr < C) (hto : 0 ≤ to ∧ to < C) (hwn : 0 ≤ wn ∧ wn ≤ 240) : freeP C lst w ld (tg co fr) (tg co to) wn = freeP C l w ld fr to wn := by
 funext k
 unfold freeP
 rw [(S.lifted k).ear (goodL hC hl ho hd) hfr hwn hto]
structure TB (bl : List Int) (er : Int) (a1 : Option Addr) (c1 : Nat) (a2 : Option Addr) (c2 : Nat) (e : VT) (H' : AHeap) : Prop where
 g21 : gt 224 e 21 = .slice a1 bl.length c1
 g22 : gt 224 e 22 = .int .i64 er
 g23 : gt 224 e 23 = .slice a2 bl.length c2
 g24 : gt 224 e 24 = .int .i64 er
 i1 : Il H' a1 bl
 i2 : Il H' a2 bl
 len : bl.length ≤ 4
theorem TB.next {bl : List Int} {er : Int} {a1 : Option Addr} {c1 : Nat} {a2 : Option Addr} {c2 : Nat} {e e' : VT} {H' H'' : AHeap} (I : TB bl er a1 c1 a2 c2 e H') (f : Fr H' H'') (h : Keep 224 [21, 22, 23, 24] e e') : TB bl er a1 c1 a2 c2 e' H'' where
 g21 := (h 21 (by simp)).trans I.g21
 g22 := (h 22 (by simp)).trans I.g22
 g23 := (h 23 (by simp)).trans I.g23
 g24 := (h 24 (by simp)).trans I.g24
 i1 := I.i1.fr f
 i2 := I.i2.fr f
 len := I.len
section
variable {R : Exit → ES → Prop} {c c' : Code} {C w ld fr to wn : Int} {l lst : List Str} {i8 i9 cap' i14 ks : Nat} {a' : Option Addr} {co pl : List Int} {v12 v13 : Value} {e : VT} {H' : AHeap}
set_option maxHeartbeats 4000000 in
set_option maxRecDepth 10000 in
theorem c16d (X : Nx C w ld l a' cap' fr to wn co pl) (I : TN H C w ld l i8 i9 a' cap' fr to wn co pl v12 v13 e H') (O : TO C l.length lst i14 ks e H') (S : Ren C l lst co pl)
  (hc : c = sub [true, true, true, true, true, true, true, true, true, true, true, true, true] (bodyOf Try.f16)) (hc' : c' = sub [true, true, true, true, true, true, true, true, true, true, true] (bodyOf Try.f16))
  (hr : ∀ e H'' bl er a1 c1 a2 c2, TN H C w ld l i8 i9 a' cap' fr to wn co pl v12 v13 e H'' → TO C l.length lst i14 ks e H'' → TB bl er a1 c1 a2 c2 e H'' → W tabA Try.prog (N + 23987) none c H.size ⟨224, e, H'', []⟩ R) :
  W tabA Try.prog (N + 23989) none c' H.size ⟨224, e, H', []⟩ R := by
 subst hc hc'
 simp only [Try.f16,bodyOf,sub_nil,sub_seq0,sub_seq1,sub_block,sub_loop,sub_cond0,sub_cond1] at hr ⊢
 have hl16 := X.hl
 have hC := X.hC
 have hwn := X.hwn
 have hfr := X.hfr
 have hto := X.hto
 have g := X.good
 have hcl : co.length = C.toNat := by rw [X.hco.length_eq, idx_len]
 obtain ⟨o1, o2, o3, o4⟩ := X.other S
 have hfree := S.free (w := w) (by omega) hl16 X.ho X.hd hfr hto (by omega : 0 ≤ wn ∧ wn ≤ 240)
 have hear := S.ear (w := w) (a₀ := wn) g hfr (by omega) hto
 obtain ⟨p, hp⟩ : ∃ p, freeP C l w ld fr to wn = p := ⟨_, rfl⟩
 obtain ⟨z, hz⟩ : ∃ z, tg (earT C l w ld fr wn) to = z := ⟨_, rfl⟩
 rw [hp] at hfree
 rw [hz] at hear
 obtain ⟨bl, er, hbl⟩ : ∃ (bl : List Int) (er : Int), (z = -1 ∧ bl = barsL p 4 ∧ er = 0) ∨ (z ≠ -1 ∧ bl = [] ∧ er = 1) := by
  by_cases h : z = -1
  ·exact ⟨_, _, .inl ⟨h, rfl, rfl⟩⟩
  ·exact ⟨_, _, .inr ⟨h, rfl, rfl⟩⟩
 have hlen : bl.length ≤ 4 := by
  rcases hbl with ⟨_, h, _⟩ | ⟨_, h, _⟩
  ·rw [h]; exact barsL_le 4
  ·rw [h]; simp
 refine W_seqI (fun e' H'' => ∃ a1 c1, TN H C w ld l i8 i9 a' cap' fr to wn co pl v12 v13 e' H'' ∧ TO C l.length lst i14 ks e' H'' ∧ gt 224 e' 21 = .slice a1 bl.length c1 ∧ gt 224 e' 22 = .int .i64 er ∧ Il H'' a1 bl) ?_ ?_
 ·have sz := I.q.fr.size
  have g7 := I.q.g8
  have g8 := I.q.g9
  have b7 := I.q.b8
  have b8 := I.q.b9
  have g9 := I.g9
  have g10 := I.g10
  have g11 := I.g11
  simp (disch:=first|(simp only [yk,seval];done)|omega|(simp only [yz]<;>omega)|fail) only [↓yp,yq0,yq1,yq2,yq3,yq4,yl,ys0,ys1,seval,zed,zee,zfr,zhw,ysu,yrg,ysv,ysw,ysx,ysz,ysa,g7,g8,b7,b8,g9,g10,g11]
  refine c62 I.q.sl hl16 (by omega) X.ho X.hw X.hd hfr hto (by omega) (by omega) (by omega) ?_ ?_
  ·intro f ab cb H2 f2 h2 h3 h4
   rw [hz] at h4
   rw [hp] at h2 ⊢
   have sz2 := f2.size
   obtain ⟨rfl, rfl⟩ : bl = barsL p 4 ∧ er = 0 := by rcases hbl with ⟨_, h, h'⟩ | ⟨h, _⟩; exact ⟨h, h'⟩; exact absurd h4 h
   simp (disch:=first|(simp only [yk,seval];done)|omega|(simp only [yz]<;>omega)|fail) only [↓yp,yq0,yq1,yq2,yq3,yq4,yl,ys0,ys1,seval,zed,zee,zfr,zhw,ysu,yrg,ysv,ysw,ysx,ysz,ysa]
   refine ⟨ab, cb, I.next f2 (by (with_reducible repeat first|refine Keep.put ?_ (by decide)|refine Keep.none ?_|assumption|exact Keep.refl _ _ _)), O.next f2 (by (with_reducible repeat first|refine Keep.put ?_ (by decide)|refine Keep.none ?_|assumption|exact Keep.refl _ _ _)), ?_, ?_, h2⟩
   ·simp (disch:=first|(simp only [yk,seval];done)|omega|(simp only [yz]<;>omega)|fail) only [yg,seval]
   ·simp (disch:=first|(simp only [yk,seval];done)|omega|(simp only [yz]<;>omega)|fail) only [yg,seval]
  ·intro f H2 f2 h4
   rw [hz] at h4
   have sz2 := f2.size
   obtain ⟨rfl, rfl⟩ : bl = [] ∧ er = 1 := by rcases hbl with ⟨h, _⟩ | ⟨_, h, h'⟩; exact absurd h h4; exact ⟨h, h'⟩
   simp (disch:=first|(simp only [yk,seval];done)|omega|(simp only [yz]<;>omega)|fail) only [↓yp,yq0,yq1,yq2,yq3,yq4,yl,ys0,ys1,seval,zed,zee,zfr,zhw,ysu,yrg,ysv,ysw,ysx,ysz,ysa]
   refine ⟨none, 0, I.next f2 (by (with_reducible repeat first|refine Keep.put ?_ (by decide)|refine Keep.none ?_|assumption|exact Keep.refl _ _ _)), O.next f2 (by (with_reducible repeat first|refine Keep.put ?_ (by decide)|refine Keep.none ?_|assumption|exact Keep.refl _ _ _)), ?_, ?_, Il.nil⟩
   ·simp (disch:=first|(simp only [yk,seval];done)|omega|(simp only [yz]<;>omega)|fail) only [yg,seval]; try rfl
   ·simp (disch:=first|(simp only [yk,seval];done)|omega|(simp only [yz]<;>omega)|fail) only [yg,seval]
 clear I O
 rintro e H' ⟨a1, c1, I, O, g21, g22, i1⟩
 refine W_seqI (fun e' H'' => ∃ a2 c2, TN H C w ld l i8 i9 a' cap' fr to wn co pl v12 v13 e' H'' ∧ TO C l.length lst i14 ks e' H'' ∧ TB bl er a1 c1 a2 c2 e' H'') ?_ ?_
 rotate_left
 ·rintro e H' ⟨a2, c2, I, O, B⟩
  exact hr _ _ _ _ _ _ _ _ I O B
 have sz := I.q.fr.size
 have g7 := I.q.g8
 have g8 := I.q.g9
 have b8 := I.q.b9
 have l9 := I.q.l9
 have g9 := I.g9
 have g10 := I.g10
 have g11 := I.g11
 have g14 := O.g14
 have b14 := O.b14
 have l14 := O.l14
 obtain ⟨b12, r12, al12, hv12, s1, s2, s3, s4⟩ := I.cc.at_ hcl (by omega)
 have g12 := I.g12.trans hv12
 have q1 := s4 fr (by omega) (by omega)
 have q2 := s4 to (by omega) (by omega)
 obtain ⟨f, v, H1, m1, hres, hm1, fr1, a2, c2, hv, il⟩ := resK_elim (Q := fun f v H'' => Fr H' H'' ∧ ∃ a2 c2, v = .tuple ⟨[.slice a2 bl.length c2, .int .i64 er]⟩ ∧ Il H'' a2 bl) (c62 (L := H.size) (M := N + 23986) (cap := l.length) O.sl o1 (by omega) o2 X.hw X.hd o3 o4 (by omega : 0 ≤ wn ∧ wn ≤ 240) (by omega) (by omega)
  (fun f ab cb H2 f2 h2 h3 h4 => by
   rw [hear] at h4
   rw [hfree] at h2 ⊢
   obtain ⟨rfl, rfl⟩ : bl = barsL p 4 ∧ er = 0 := by rcases hbl with ⟨_, h, h'⟩ | ⟨h, _⟩; exact ⟨h, h'⟩; exact absurd h4 h
   exact ⟨f2, ab, cb, rfl, h2⟩)
  (fun f H2 f2 h4 => by
   rw [hear] at h4
   obtain ⟨rfl, rfl⟩ : bl = [] ∧ er = 1 := by rcases hbl with ⟨h, _⟩ | ⟨_, h, h'⟩; exact absurd h h4; exact ⟨h, h'⟩
   exact ⟨f2, none, 0, rfl, Il.nil⟩))
 subst hv
 rw [S.len] at hres
 obtain ⟨fo, hfo⟩ : ∃ fo, tg co fr = fo := ⟨_, rfl⟩
 obtain ⟨ft, hft⟩ : ∃ ft, tg co to = ft := ⟨_, rfl⟩
 rw [hfo] at q1 hres
 rw [hft] at q2 hres
 have fr1s := fr1.size
 have b81 := (fr1.same _ l9).trans b8
 have s31 := (fr1.same _ s2).trans s3
 have b141 := (fr1.same _ l14).trans b14
 have sv5 : sameV 5 (.slice a2 bl.length c2) (.slice a2 bl.length c2) = true := by simp [sameV]
 have sv6 : sameV 6 (.slice a2 bl.length c2) (.slice a2 bl.length c2) = true := by simp [sameV]
 cases f with
 | true =>
  obtain rfl := acall_still hres
  refine W_draw [] rfl (by kernel_rfl) (by kernel_rfl) (by first|omega|(simp only [yz]<;>omega)) ?_
  simp (disch:=first|(simp only [yk,seval];done)|omega|(simp only [yz]<;>omega)|fail) only [↓yp,yq0,yq1,yq2,yq3,yq4,yl,ys0,ys1,seval,zed,zee,zfr,zhw,ysu,yrg,ysv,ysw,ysx,ysz,ysa,g7,g8,b8,g9,g10,g11,g12,g14,b14,s3,q1,q2,A_indexSlice zir,hres,sv5,sv6]
  refine ⟨a2, c2, I.next fr1 (by (with_reducible repeat first|refine Keep.put ?_ (by decide)|refine Keep.none ?_|assumption|exact Keep.refl _ _ _)), O.next fr1 (by (with_reducible repeat first|refine Keep.put ?_ (by decide)|refine Keep.none ?_|assumption|exact Keep.refl _ _ _)), ⟨?_, ?_, ?_, ?_, i1.fr fr1, il, hlen⟩⟩
  ·simp (disch:=first|(simp only [yk,seval];done)|omega|(simp only [yz]<;>omega)|fail) only [yg,seval,g21]
  ·simp (disch:=first|(simp only [yk,seval];done)|omega|(simp only [yz]<;>omega)|fail) only [yg,seval,g22]
  ·simp (disch:=first|(simp only [yk,seval];done)|omega|(simp only [yz]<;>omega)|fail) only [yg,seval]
  ·simp (disch:=first|(simp only [yk,seval];done)|omega|(simp only [yz]<;>omega)|fail) only [yg,seval]
 | false =>
  refine W_draw [11] rfl (by kernel_rfl) (by kernel_rfl) (by first|omega|(simp only [yz]<;>omega)) ?_
  simp (disch:=first|(simp only [yk,seval];done)|omega|(simp only [yz]<;>omega)|fail) only [↓yp,yq0,yq1,yq2,yq3,yq4,yl,ys0,ys1,seval,zed,zee,zfr,zhw,ysu,yrg,ysv,ysw,ysx,ysz,ysa,g7,g8,b8,b81,g9,g10,g11,g12,g14,b14,b141,s3,s31,q1,q2,A_indexSlice zir,hres,sv5,sv6]
  refine ⟨a2, c2, I.next fr1 (by (with_reducible repeat first|refine Keep.put ?_ (by decide)|refine Keep.none ?_|assumption|exact Keep.refl _ _ _)), O.next fr1 (by (with_reducible repeat first|refine Keep.put ?_ (by decide)|refine Keep.none ?_|assumption|exact Keep.refl _ _ _)), ⟨?_, ?_, ?_, ?_, i1.fr fr1, il, hlen⟩⟩
  ·simp (disch:=first|(simp only [yk,seval];done)|omega|(simp only [yz]<;>omega)|fail) only [yg,seval,g21]
  ·simp (disch:=first|(simp only [yk,seval];done)|omega|(simp only [yz]<;>omega)|fail) only [yg,seval,g22]
  ·simp (disch:=first|(simp only [yk,seval];done)|omega|(simp only [yz]<;>omega)|fail) only [yg,seval]
  ·simp (disch:=first|(simp only [yk,seval];done)|omega|(simp only [yz]<;>omega)|fail) only [yg,seval]
end
end Go.Am
