import Derived.Test.YtaieoelbpnjoiaaT50
set_option linter.unusedSimpArgs false
set_option linter.unusedVariables false
namespace Go.Am
open Go.Proofs
variable {T : Tab} {P : Program} {N L : Nat} {H : AHeap} {Q : Bool → Value → AHeap → Prop}
theorem acall_still {M : Nat} {f : FuncId} {args : List Value} {v : Value} {H' : AHeap} {m : Nat} (h : acall tabA (aexec tabA Try.prog M) f args H = some (true, v, H', m)) : H' = H := ((acall_ok tabA_fits (aexec_ok tabA_fits M).1 h).2.2 rfl).1
structure TN (H : AHeap) (C w ld : Int) (l : List Str) (i8 i9 : Nat) (a' : Option Addr) (cap' : Nat) (fr to wn : Int) (co pl : List Int) (v12 v13 : Value) (e : VT) (H' : AHeap) : Prop where
 q : LQ 224 7 8 H C w ld l i8 i9 a' cap' e H'
 g9 : gt 224 e 9 = .int .i64 fr
 g10 : gt 224 e 10 = .int .i64 to
 g11 : gt 224 e 11 = .int .i64 wn
 g12 : gt 224 e 12 = v12
 g13 : gt 224 e 13 = v13
 cc : Cu H' v12 co (H.size + 1)
 cp : Cu H' v13 pl (H.size + 1)
structure Nx (C w ld : Int) (l : List Str) (a' : Option Addr) (cap' : Nat) (fr to wn : Int) (co pl : List Int) : Prop where
 hC : 2 ≤ C ∧ C ≤ 8
 hl : l.length ≤ 16
 ho : ∀ s ∈ l, OkS C s
 hn : a' = none → cap' = 0
 hw : 1 ≤ w ∧ w ≤ 9
 hd : 0 ≤ ld ∧ ld ≤ 9
 hfr : 0 ≤ fr ∧ fr < C
 hto : 0 ≤ to ∧ to < C
 hwn : 0 ≤ wn ∧ wn ≤ 59
 hco : co.Perm (idx C.toNat)
 hpl : pl.Perm (idx l.length)
section
variable {C w ld fr to wn : Int} {l : List Str} {i8 i9 cap' : Nat} {a' : Option Addr} {co pl : List Int} {v12 v13 : Value} {e e' : VT} {H' H'' : AHeap}
theorem Nx.good (X : Nx C w ld l a' cap' fr to wn co pl) : Good C l ld := by
 have := X.hC
 have := X.hd
 exact good_of (chk_of (by omega) X.hl X.ho) (off_iff.2 (by omega))
theorem TN.next (I : TN H C w ld l i8 i9 a' cap' fr to wn co pl v12 v13 e H') (f : Fr H' H'') (h : Keep 224 [7, 8, 9, 10, 11, 12, 13] e e') : TN H C w ld l i8 i9 a' cap' fr to wn co pl v12 v13 e' H'' where
 q := I.q.next f (fun p hp => h p (by simp at hp ⊢; omega))
 g9 := (h 9 (by simp)).trans I.g9
 g10 := (h 10 (by simp)).trans I.g10
 g11 := (h 11 (by simp)).trans I.g11
 g12 := (h 12 (by simp)).trans I.g12
 g13 := (h 13 (by simp)).trans I.g13
 cc := I.cc.fr f
 cp := I.cp.fr f
end
section
variable {a b2 : Option Addr} {cap cap2 : Nat} {bs bs2 : List Int} {R : Exit → ES → Prop} {c : Code}
set_option maxHeartbeats 4000000 in
set_option maxRecDepth 10000 in
theorem c16a (hb : Bts H a bs) (hb2 : Bts H b2 bs2) (hc : c = sub [true, true, true, true, true, true] (bodyOf Try.f16))
  (hr : ∀ e H' C w ld l i8 i9 a' cap' fr to wn co pl v12 v13, Nx C w ld l a' cap' fr to wn co pl → TN H C w ld l i8 i9 a' cap' fr to wn co pl v12 v13 e H' → W tabA Try.prog (N + 23994) none c H.size ⟨224, e, H', []⟩ R)
  (e : VT) (g0 : gt 224 e 0 = .slice a bs.length cap) (g1 : gt 224 e 1 = .slice b2 bs2.length cap2) :
  W tabA Try.prog (N + 24000) none (bodyOf Try.f16) H.size ⟨224, e, H, []⟩ R := by
 subst hc
 simp only [Try.f16,bodyOf,sub_nil,sub_seq0,sub_seq1,sub_block,sub_loop,sub_cond0,sub_cond1] at hr ⊢
 refine W_seqI (fun e' H'' => gt 224 e' 0 = .slice a bs.length cap ∧ gt 224 e' 1 = .slice b2 bs2.length cap2 ∧ H = H'') ?_ ?_
 ·simp (disch:=first|(simp only [yk,seval];done)|omega|(simp only [yz]<;>omega)|fail) only [↓yp,yq0,yq1,yq2,yq3,yq4,yl,ys0,ys1,seval,zed,zee,zfr,zhw,ysu,yrg,ysv,ysw,ysx,ysz,ysa]
  refine ⟨?_, ?_, rfl⟩
  ·simp (disch:=first|(simp only [yk,seval];done)|omega|(simp only [yz]<;>omega)|fail) only [yg,seval,g0]
  ·simp (disch:=first|(simp only [yk,seval];done)|omega|(simp only [yz]<;>omega)|fail) only [yg,seval,g1]
 clear g0 g1
 rintro e1 H1 ⟨g0, g1, rfl⟩
 refine W_seqI (fun e' H'' => gt 224 e' 5 = .pointer (some ⟨H.size, 0, none⟩) ∧ gt 224 e' 6 = .pointer (some ⟨H.size + 1, 0, none⟩) ∧ Fr H H'' ∧ H''.size = H.size + 2 ∧ Chu H'' H.size a bs cap ∧ Chu H'' (H.size + 1) b2 bs2 cap2) ?_ ?_
 ·simp (disch:=first|(simp only [yk,seval];done)|omega|(simp only [yz]<;>omega)|fail) only [↓yp,yq0,yq1,yq2,yq3,yq4,yl,ys0,ys1,seval,zed,zee,zfr,zhw,ysu,yrg,ysv,ysw,ysx,ysz,ysa,g0]
  refine c48 hb (Nat.le_refl _) (by omega) ?_
  intro H2 fr1 hs1 hc1
  simp (disch:=first|(simp only [yk,seval];done)|omega|(simp only [yz]<;>omega)|fail) only [↓yp,yq0,yq1,yq2,yq3,yq4,yl,ys0,ys1,seval,zed,zee,zfr,zhw,ysu,yrg,ysv,ysw,ysx,ysz,ysa,g1]
  refine c48 (hb2.fr fr1) (by omega) (by omega) ?_
  intro H3 fr2 hs2 hc2
  rw [hs1] at hc2 hs2 ⊢
  simp (disch:=first|(simp only [yk,seval];done)|omega|(simp only [yz]<;>omega)|fail) only [↓yp,yq0,yq1,yq2,yq3,yq4,yl,ys0,ys1,seval,zed,zee,zfr,zhw,ysu,yrg,ysv,ysw,ysx,ysz,ysa]
  refine ⟨?_, ?_, fr1.trans fr2, by omega, hc1.fr fr2, hc2⟩
  ·simp (disch:=first|(simp only [yk,seval];done)|omega|(simp only [yz]<;>omega)|fail) only [yg,seval]
  ·simp (disch:=first|(simp only [yk,seval];done)|omega|(simp only [yz]<;>omega)|fail) only [yg,seval]
 clear g0 g1
 rintro e2 H1 ⟨g9, g10, fr1, hs1, hc1, hd1⟩
 refine W_seqI (fun e' H'' => ∃ a' cap' C l i8, gt 224 e' 5 = .pointer (some ⟨H.size, 0, none⟩) ∧ gt 224 e' 6 = .pointer (some ⟨H.size + 1, 0, none⟩) ∧ gt 224 e' 7 = .pointer (some ⟨i8, 0, none⟩) ∧ (2 ≤ C ∧ C ≤ 8) ∧ (l.length : Int) ≤ 16 ∧ (∀ s ∈ l, OkS C s) ∧ (a' = none → cap' = 0) ∧ Sl H'' a' l ∧ H''.get i8 = .rw [.int .i64 C, .slice a' l.length cap'] 24 false [] ∧ H.size + 1 < i8 ∧ i8 < H''.size ∧ Fr H H'' ∧ Chu H'' H.size a bs cap ∧ Chu H'' (H.size + 1) b2 bs2 cap2) ?_ ?_
 ·simp (disch:=first|(simp only [yk,seval];done)|omega|(simp only [yz]<;>omega)|fail) only [↓yp,yq0,yq1,yq2,yq3,yq4,yl,ys0,ys1,seval,zed,zee,zfr,zhw,ysu,yrg,ysv,ysw,ysx,ysz,ysa,g9]
  refine c49 hc1 (by omega) (by omega) (Nat.le_refl _) (by omega) ?_
  intro f2 a' cap' C l H2 hC1 hC2 hl ho hn hsl hc2 hx2
  have sz2 := hx2.size
  have hd2 := hd1.frx hc1 (by omega) hx2
  simp (disch:=first|(simp only [yk,seval];done)|omega|(simp only [yz]<;>omega)|fail) only [↓yp,yq0,yq1,yq2,yq3,yq4,yl,ys0,ys1,seval,zed,zee,zfr,zhw,ysu,yrg,ysv,ysw,ysx,ysz,ysa]
  refine ⟨a', cap', C, l, H2.size, ?_, ?_, ?_, by omega, by omega, ho, hn, Sl.put (hsl.fr (Fr.alloc _ _)) (c := [.int .i64 0, .slice none 0 0]) (by rw [zda rfl]; rfl) (by simp), zdc (by first|omega|(simp only [yz]<;>omega)), by omega, by (first | omega | (simp only [yz] <;> omega)), Fr.put (Fr.allocd (hx2.above fr1 (Nat.le_refl _)) _) (by omega) _, (hc2.fr (Fr.alloc _ _)).other (by omega) (fun c e => by rw [zda rfl] at e; cases e), (hd2.fr (Fr.alloc _ _)).other (by omega) (fun c e => by rw [zda rfl] at e; cases e)⟩
  ·simp (disch:=first|(simp only [yk,seval];done)|omega|(simp only [yz]<;>omega)|fail) only [yg,seval,g9]
  ·simp (disch:=first|(simp only [yk,seval];done)|omega|(simp only [yz]<;>omega)|fail) only [yg,seval,g10]
  ·simp (disch:=first|(simp only [yk,seval];done)|omega|(simp only [yz]<;>omega)|fail) only [yg,seval]
 clear g9 g10 fr1 hs1 hc1 hd1
 rintro e3 H2 ⟨a', cap', C, l, i8, g9, g10, g11, hC28, hl, ho, hn, hsl, b8, k8, l8, fr2, hc2, hd2⟩
 refine W_seqI (fun e' H'' => ∃ w ld i9, LQ 224 7 8 H C w ld l i8 i9 a' cap' e' H'' ∧ gt 224 e' 5 = .pointer (some ⟨H.size, 0, none⟩) ∧ gt 224 e' 6 = .pointer (some ⟨H.size + 1, 0, none⟩) ∧ (1 ≤ w ∧ w ≤ 5) ∧ (0 ≤ ld ∧ ld ≤ 5) ∧ H.size + 1 < i9 ∧ Chu H'' H.size a bs cap ∧ Chu H'' (H.size + 1) b2 bs2 cap2) ?_ ?_
 ·have sz2 := fr2.size
  simp (disch:=first|(simp only [yk,seval];done)|omega|(simp only [yz]<;>omega)|fail) only [↓yp,yq0,yq1,yq2,yq3,yq4,yl,ys0,ys1,seval,zed,zee,zfr,zhw,ysu,yrg,ysv,ysw,ysx,ysz,ysa,g9]
  refine c50 hc2 (Nat.le_refl _) (by omega) ?_
  intro f3 w ld H3 hw1 hw2 hd1 hd3 hc3 hx3
  have sz3 := hx3.size
  have hd4 := hd2.frx hc2 (by omega) hx3
  simp (disch:=first|(simp only [yk,seval];done)|omega|(simp only [yz]<;>omega)|fail) only [↓yp,yq0,yq1,yq2,yq3,yq4,yl,ys0,ys1,seval,zed,zee,zfr,zhw,ysu,yrg,ysv,ysw,ysx,ysz,ysa]
  refine ⟨w, ld, H3.size, ⟨?_, ?_, Fr.put (Fr.allocd (hx3.above fr2 (Nat.le_refl _)) _) (by omega) _, by (first | omega | (simp only [yz] <;> omega)), by (first | omega | (simp only [yz] <;> omega)), ?_, zdc (by first|omega|(simp only [yz]<;>omega)), Sl.put ((hsl.frx hc2 hx3).fr (Fr.alloc _ _)) (c := [.int .i64 0, .int .i64 0]) (by rw [zda rfl]; rfl) (by simp)⟩, ?_, ?_, by omega, by omega, by omega, (hc3.fr (Fr.alloc _ _)).other (by omega) (fun c e => by rw [zda rfl] at e; cases e), (hd4.fr (Fr.alloc _ _)).other (by omega) (fun c e => by rw [zda rfl] at e; cases e)⟩
  ·simp (disch:=first|(simp only [yk,seval];done)|omega|(simp only [yz]<;>omega)|fail) only [yg,seval,g11]
  ·simp (disch:=first|(simp only [yk,seval];done)|omega|(simp only [yz]<;>omega)|fail) only [yg,seval]
  ·rw [zdd (by omega), zdb (by omega), hx3.same _ l8 (by omega)]; exact b8
  ·simp (disch:=first|(simp only [yk,seval];done)|omega|(simp only [yz]<;>omega)|fail) only [yg,seval,g9]
  ·simp (disch:=first|(simp only [yk,seval];done)|omega|(simp only [yz]<;>omega)|fail) only [yg,seval,g10]
 have hk8 : H.size + 1 < i8 := k8
 clear g9 g10 g11 hsl b8 l8 fr2 hc2 hd2 k8
 rintro e H' ⟨w, ld, i9, I, g5, g6, ⟨hw1, hw2⟩, ⟨hd1, hd2⟩, hk9, hc, hd⟩
 have hlt := hc.lt
 have sz := I.fr.size
 refine W_seqI (fun e' H'' => ∃ fr to wn, LQ 224 7 8 H C w ld l i8 i9 a' cap' e' H'' ∧ gt 224 e' 6 = .pointer (some ⟨H.size + 1, 0, none⟩) ∧ (0 ≤ fr ∧ fr < C) ∧ (0 ≤ to ∧ to < C) ∧ (0 ≤ wn ∧ wn ≤ 59) ∧ gt 224 e' 9 = .int .i64 fr ∧ gt 224 e' 10 = .int .i64 to ∧ gt 224 e' 11 = .int .i64 wn ∧ Chu H'' (H.size + 1) b2 bs2 cap2) ?_ ?_
 ·have l8 := I.l8
  have g8 := I.g8
  have b8 := I.b8
  obtain ⟨f1, _, H1, m1, hres1, hm1, fr, rfl, ⟨hf1, hf2⟩, hff1, hc1, hx1, hs1⟩ := resK_elim (Q := fun f v H'' => ∃ d : Int, v = .int .i64 d ∧ Pulled C d ∧ (f = true → H'' = H') ∧ Chu H'' H.size a bs cap ∧ FrX H.size H' H'' ∧ H''.size = H'.size) (c51 (n := C) (L := H.size) (M := N + 23994) hc (by omega) (by omega) (by omega) (fun f v H'' h1 h2 h3 h4 h5 => ⟨v, rfl, h2, h1, h3, h4, h5⟩))
  obtain ⟨f2, _, H2, m2, hres2, hm2, to, rfl, ⟨ht1, ht2⟩, hff2, hc2, hx2, hs2⟩ := resK_elim (Q := fun f v H'' => ∃ d : Int, v = .int .i64 d ∧ Pulled C d ∧ (f = true → H'' = H1) ∧ Chu H'' H.size a bs cap ∧ FrX H.size H1 H'' ∧ H''.size = H1.size) (c51 (n := C) (L := H.size) (M := N + 23994) hc1 (by omega) (by omega) (by omega) (fun f v H'' h1 h2 h3 h4 h5 => ⟨v, rfl, h2, h1, h3, h4, h5⟩))
  obtain ⟨f3, _, H3, m3, hres3, hm3, wn, rfl, ⟨hw3, hw4⟩, hff3, hc3, hx3, hs3⟩ := resK_elim (Q := fun f v H'' => ∃ d : Int, v = .int .i64 d ∧ Pulled 50 d ∧ (f = true → H'' = H2) ∧ Chu H'' H.size a bs cap ∧ FrX H.size H2 H'' ∧ H''.size = H2.size) (c51 (n := 50) (L := H.size) (M := N + 23994) hc2 (by omega) (by omega) (by omega) (fun f v H'' h1 h2 h3 h4 h5 => ⟨v, rfl, h2, h1, h3, h4, h5⟩))
  have b81 : H1.get i8 = .rw [.int .i64 C, .slice a' l.length cap'] 24 false [] := by rw [hx1.same _ l8 (by omega)]; exact b8
  have b82 : H2.get i8 = .rw [.int .i64 C, .slice a' l.length cap'] 24 false [] := by rw [hx2.same _ (by omega) (by omega)]; exact b81
  have b83 : H3.get i8 = .rw [.int .i64 C, .slice a' l.length cap'] 24 false [] := by rw [hx3.same _ (by omega) (by omega)]; exact b82
  have hd3 := ((hd.frx hc (by omega) hx1).frx hc1 (by omega) hx2).frx hc2 (by omega) hx3
  have fin : ∀ e', Keep 224 [6, 7, 8] e e' → gt 224 e' 9 = .int .i64 fr → gt 224 e' 10 = .int .i64 to → gt 224 e' 11 = .int .i64 wn → ∃ fr to wn, LQ 224 7 8 H C w ld l i8 i9 a' cap' e' H3 ∧ gt 224 e' 6 = .pointer (some ⟨H.size + 1, 0, none⟩) ∧ (0 ≤ fr ∧ fr < C) ∧ (0 ≤ to ∧ to < C) ∧ (0 ≤ wn ∧ wn ≤ 59) ∧ gt 224 e' 9 = .int .i64 fr ∧ gt 224 e' 10 = .int .i64 to ∧ gt 224 e' 11 = .int .i64 wn ∧ Chu H3 (H.size + 1) b2 bs2 cap2 := fun e' hk q9 q10 q11 =>
   ⟨fr, to, wn, I.frx (by omega) (by omega) (Nat.le_refl _) hc ((hx1.trans hx2).trans hx3) (fun p hp => hk p (by simp at hp ⊢; omega)), (hk 6 (by simp)).trans g6, by omega, by omega, by omega, q9, q10, q11, hd3⟩
  cases f1
  ·cases f2
   ·cases f3
    ·refine W_drawR (pl := []) [3, 7, 9] [] (planB_of rfl (by decide) (by decide) rfl) (by kernel_rfl) (by kernel_rfl) (by kernel_rfl) (by first|omega|(simp only [yz]<;>omega)) ?_
     simp (disch:=first|(simp only [yk,seval];done)|omega|(simp only [yz]<;>omega)|fail) only [↓yp,yq0,yq1,yq2,yq3,yq4,yl,ys0,ys1,seval,zed,zee,zfr,zhw,ysu,yrg,ysv,ysw,ysx,ysz,ysa,g5,g8,b8,b81,b82,b83,hres1,hres2,hres3]
     exact fin _ (by (with_reducible repeat first|refine Keep.put ?_ (by decide)|refine Keep.none ?_|assumption|exact Keep.refl _ _ _)) (by simp (disch:=first|(simp only [yk,seval];done)|omega|(simp only [yz]<;>omega)|fail) only [yg,seval]) (by simp (disch:=first|(simp only [yk,seval];done)|omega|(simp only [yz]<;>omega)|fail) only [yg,seval]) (by simp (disch:=first|(simp only [yk,seval];done)|omega|(simp only [yz]<;>omega)|fail) only [yg,seval])
    ·obtain rfl := hff3 rfl
     refine W_drawR (pl := []) [3, 7] [(9, 0), (9, 1)] (planB_of rfl (by decide) (by decide) rfl) (by kernel_rfl) (by kernel_rfl) (by kernel_rfl) (by first|omega|(simp only [yz]<;>omega)) ?_
     simp (disch:=first|(simp only [yk,seval];done)|omega|(simp only [yz]<;>omega)|fail) only [↓yp,yq0,yq1,yq2,yq3,yq4,yl,ys0,ys1,seval,zed,zee,zfr,zhw,ysu,yrg,ysv,ysw,ysx,ysz,ysa,g5,g8,b8,b81,b82,b83,hres1,hres2,hres3]
     exact fin _ (by (with_reducible repeat first|refine Keep.put ?_ (by decide)|refine Keep.none ?_|assumption|exact Keep.refl _ _ _)) (by simp (disch:=first|(simp only [yk,seval];done)|omega|(simp only [yz]<;>omega)|fail) only [yg,seval]) (by simp (disch:=first|(simp only [yk,seval];done)|omega|(simp only [yz]<;>omega)|fail) only [yg,seval]) (by simp (disch:=first|(simp only [yk,seval];done)|omega|(simp only [yz]<;>omega)|fail) only [yg,seval])
   ·obtain rfl := hff2 rfl
    cases f3
    ·refine W_drawR (pl := []) [3, 9] [(7, 0), (7, 2)] (planB_of rfl (by decide) (by decide) rfl) (by kernel_rfl) (by kernel_rfl) (by kernel_rfl) (by first|omega|(simp only [yz]<;>omega)) ?_
     simp (disch:=first|(simp only [yk,seval];done)|omega|(simp only [yz]<;>omega)|fail) only [↓yp,yq0,yq1,yq2,yq3,yq4,yl,ys0,ys1,seval,zed,zee,zfr,zhw,ysu,yrg,ysv,ysw,ysx,ysz,ysa,g5,g8,b8,b81,b82,b83,hres1,hres2,hres3]
     exact fin _ (by (with_reducible repeat first|refine Keep.put ?_ (by decide)|refine Keep.none ?_|assumption|exact Keep.refl _ _ _)) (by simp (disch:=first|(simp only [yk,seval];done)|omega|(simp only [yz]<;>omega)|fail) only [yg,seval]) (by simp (disch:=first|(simp only [yk,seval];done)|omega|(simp only [yz]<;>omega)|fail) only [yg,seval]) (by simp (disch:=first|(simp only [yk,seval];done)|omega|(simp only [yz]<;>omega)|fail) only [yg,seval])
    ·obtain rfl := hff3 rfl
     refine W_drawR (pl := []) [3] [(7, 0), (9, 0)] (planB_of rfl (by decide) (by decide) rfl) (by kernel_rfl) (by kernel_rfl) (by kernel_rfl) (by first|omega|(simp only [yz]<;>omega)) ?_
     simp (disch:=first|(simp only [yk,seval];done)|omega|(simp only [yz]<;>omega)|fail) only [↓yp,yq0,yq1,yq2,yq3,yq4,yl,ys0,ys1,seval,zed,zee,zfr,zhw,ysu,yrg,ysv,ysw,ysx,ysz,ysa,g5,g8,b8,b81,b82,b83,hres1,hres2,hres3]
     exact fin _ (by (with_reducible repeat first|refine Keep.put ?_ (by decide)|refine Keep.none ?_|assumption|exact Keep.refl _ _ _)) (by simp (disch:=first|(simp only [yk,seval];done)|omega|(simp only [yz]<;>omega)|fail) only [yg,seval]) (by simp (disch:=first|(simp only [yk,seval];done)|omega|(simp only [yz]<;>omega)|fail) only [yg,seval]) (by simp (disch:=first|(simp only [yk,seval];done)|omega|(simp only [yz]<;>omega)|fail) only [yg,seval])
  ·obtain rfl := hff1 rfl
   rw [hres1] at hres2
   simp only [Option.some.injEq,Prod.mk.injEq,Value.int.injEq,true_and] at hres2
   obtain ⟨rfl, rfl, rfl, rfl⟩ := hres2
   cases f3
   ·refine W_drawR (pl := []) [9] [(3, 1), (7, 1)] (planB_of rfl (by decide) (by decide) rfl) (by kernel_rfl) (by kernel_rfl) (by kernel_rfl) (by first|omega|(simp only [yz]<;>omega)) ?_
    simp (disch:=first|(simp only [yk,seval];done)|omega|(simp only [yz]<;>omega)|fail) only [↓yp,yq0,yq1,yq2,yq3,yq4,yl,ys0,ys1,seval,zed,zee,zfr,zhw,ysu,yrg,ysv,ysw,ysx,ysz,ysa,g5,g8,b8,b81,b82,b83,hres1,hres3]
    exact fin _ (by (with_reducible repeat first|refine Keep.put ?_ (by decide)|refine Keep.none ?_|assumption|exact Keep.refl _ _ _)) (by simp (disch:=first|(simp only [yk,seval];done)|omega|(simp only [yz]<;>omega)|fail) only [yg,seval]) (by simp (disch:=first|(simp only [yk,seval];done)|omega|(simp only [yz]<;>omega)|fail) only [yg,seval]) (by simp (disch:=first|(simp only [yk,seval];done)|omega|(simp only [yz]<;>omega)|fail) only [yg,seval])
   ·obtain rfl := hff3 rfl
    refine W_drawR (pl := []) [] [] (planB_of rfl (by decide) (by decide) rfl) (by kernel_rfl) (by kernel_rfl) (by kernel_rfl) (by first|omega|(simp only [yz]<;>omega)) ?_
    simp (disch:=first|(simp only [yk,seval];done)|omega|(simp only [yz]<;>omega)|fail) only [↓yp,yq0,yq1,yq2,yq3,yq4,yl,ys0,ys1,seval,zed,zee,zfr,zhw,ysu,yrg,ysv,ysw,ysx,ysz,ysa,g5,g8,b8,b81,b82,b83,hres1,hres3]
    exact fin _ (by (with_reducible repeat first|refine Keep.put ?_ (by decide)|refine Keep.none ?_|assumption|exact Keep.refl _ _ _)) (by simp (disch:=first|(simp only [yk,seval];done)|omega|(simp only [yz]<;>omega)|fail) only [yg,seval]) (by simp (disch:=first|(simp only [yk,seval];done)|omega|(simp only [yz]<;>omega)|fail) only [yg,seval]) (by simp (disch:=first|(simp only [yk,seval];done)|omega|(simp only [yz]<;>omega)|fail) only [yg,seval])
 clear hlt sz I g5 g6 hc hd
 rintro e H' ⟨fr, to, wn, I, g6, hfr, hto, hwn, g9, g10, g11, hd⟩
 have sz := I.fr.size
 have hlt := hd.lt
 refine W_seqI (fun e' H'' => ∃ co pl v12 v13, Nx C w ld l a' cap' fr to wn co pl ∧ TN H C w ld l i8 i9 a' cap' fr to wn co pl v12 v13 e' H'') ?_ ?_
 rotate_left
 ·rintro e H' ⟨co, pl, v12, v13, X, I⟩
  exact hr _ _ _ _ _ _ _ _ _ _ _ _ _ _ _ _ _ X I
 have l8 := I.l8
 have g7 := I.g8
 have b8 := I.b8
 obtain ⟨Cn, hCn⟩ : ∃ Cn : Nat, C = Cn := ⟨C.toNat, by omega⟩
 have hCt : C.toNat = Cn := by omega
 obtain ⟨f1, v1, H1, m1, hres1, hm1, co, hco, hrow1, hc1, hx1⟩ := resK_elim (Q := fun f v H'' => ∃ t : List Int, t.Perm (idx Cn) ∧ RowN H'' v t H'.size H''.size ∧ Chu H'' (H.size + 1) b2 bs2 cap2 ∧ FrX (H.size + 1) H' H'') (c67 (n := Cn) (L := H.size + 1) (M := N + 23993) hd (by omega) (by omega) (by omega) (fun f v t H'' h1 h2 h3 h4 => ⟨t, h1, h2, h3, h4⟩))
 rw [← hCn] at hres1
 obtain ⟨f2, v2, H2, m2, hres2, hm2, pl, hpl, hrow2, hc2, hx2⟩ := resK_elim (Q := fun f v H'' => ∃ t : List Int, t.Perm (idx l.length) ∧ RowN H'' v t H1.size H''.size ∧ Chu H'' (H.size + 1) b2 bs2 cap2 ∧ FrX (H.size + 1) H1 H'') (c67 (n := l.length) (L := H.size + 1) (M := N + 23993) hc1 (by omega) (by omega) (by omega) (fun f v t H'' h1 h2 h3 h4 => ⟨t, h1, h2, h3, h4⟩))
 have hx1s := hx1.size
 have hx2s := hx2.size
 have hcl : co.length = Cn := by rw [hco.length_eq, idx_len]
 have b81 : H1.get i8 = .rw [.int .i64 C, .slice a' l.length cap'] 24 false [] := by rw [hx1.same _ l8 (by omega)]; exact b8
 have b82 : H2.get i8 = .rw [.int .i64 C, .slice a' l.length cap'] 24 false [] := by rw [hx2.same _ (by omega) (by omega)]; exact b81
 obtain ⟨ac, cc, hv1⟩ := hrow1.len
 obtain ⟨ap, cp, hv2⟩ := hrow2.len
 have sv1 : ∀ k, sameV (k + 1) v1 v1 = true := fun k => by rw [hv1]; simp [sameV]
 have sv2 : ∀ k, sameV (k + 1) v2 v2 = true := fun k => by rw [hv2]; simp [sameV]
 have X : Nx C w ld l a' cap' fr to wn co pl := ⟨hC28, by omega, ho, hn, by omega, by omega, hfr, hto, hwn, by rw [hCt]; exact hco, hpl⟩
 have fin : ∀ e', Keep 224 [6, 7, 8, 9, 10, 11] e e' → gt 224 e' 12 = v1 → gt 224 e' 13 = v2 → ∃ co pl v12 v13, Nx C w ld l a' cap' fr to wn co pl ∧ TN H C w ld l i8 i9 a' cap' fr to wn co pl v12 v13 e' H2 := fun e' hk q12 q13 =>
  ⟨co, pl, v1, v2, X, I.frx (by omega) (by omega) (by omega) hd (hx1.trans hx2) (fun p hp => hk p (by simp at hp ⊢; omega)), (hk 9 (by simp)).trans g9, (hk 10 (by simp)).trans g10, (hk 11 (by simp)).trans g11, q12, q13, (Cu.of hrow1 (Nat.le_refl _) (by omega)).frx hx2, Cu.of hrow2 (Nat.le_refl _) (by omega)⟩
 cases f1
 rotate_left
 ·have hst := acall_still hres1
  obtain ⟨b, al, h1, h2, h3, h4⟩ := hrow1.cons (fun h => by rw [h] at hcl; simp at hcl; omega)
  rw [hst] at h3
  omega
 cases f2
 ·refine W_drawR (pl := []) [3, 8] [] (planB_of rfl (by decide) (by decide) rfl) (by kernel_rfl) (by kernel_rfl) (by kernel_rfl) (by first|omega|(simp only [yz]<;>omega)) ?_
  simp (disch:=first|(simp only [yk,seval];done)|omega|(simp only [yz]<;>omega)|fail) only [↓yp,yq0,yq1,yq2,yq3,yq4,yl,ys0,ys1,seval,zed,zee,zfr,zhw,ysu,yrg,ysv,ysw,ysx,ysz,ysa,g6,g7,b8,b81,b82,hres1,hres2,lenV_slice zio,sv1,sv2]
  exact fin _ (by (with_reducible repeat first|refine Keep.put ?_ (by decide)|refine Keep.none ?_|assumption|exact Keep.refl _ _ _)) (by simp (disch:=first|(simp only [yk,seval];done)|omega|(simp only [yz]<;>omega)|fail) only [yg,seval]) (by simp (disch:=first|(simp only [yk,seval];done)|omega|(simp only [yz]<;>omega)|fail) only [yg,seval])
 ·obtain rfl := acall_still hres2
  refine W_drawR (pl := []) [3] [(8, 0)] (planB_of rfl (by decide) (by decide) rfl) (by kernel_rfl) (by kernel_rfl) (by kernel_rfl) (by first|omega|(simp only [yz]<;>omega)) ?_
  simp (disch:=first|(simp only [yk,seval];done)|omega|(simp only [yz]<;>omega)|fail) only [↓yp,yq0,yq1,yq2,yq3,yq4,yl,ys0,ys1,seval,zed,zee,zfr,zhw,ysu,yrg,ysv,ysw,ysx,ysz,ysa,g6,g7,b8,b81,b82,hres1,hres2,lenV_slice zio,sv1,sv2]
  exact fin _ (by (with_reducible repeat first|refine Keep.put ?_ (by decide)|refine Keep.none ?_|assumption|exact Keep.refl _ _ _)) (by simp (disch:=first|(simp only [yk,seval];done)|omega|(simp only [yz]<;>omega)|fail) only [yg,seval]) (by simp (disch:=first|(simp only [yk,seval];done)|omega|(simp only [yz]<;>omega)|fail) only [yg,seval])
end
end Go.Am
