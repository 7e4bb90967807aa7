import Derived.Test.YtjpcaamfcfkmhaaT49
set_option linter.unusedSimpArgs false
set_option linter.unusedVariables false
namespace Go.Am.K
open Go.Proofs
variable {T : Tab} {P : Program} {N L : Nat} {H H' H'' : AHeap} {Q : Bool → Value → AHeap → Prop}
def Fits (ps : List Pk) (fl : List Int) (i : Nat) : Prop := ∀ (j : Nat) (p : Pk) (f : Int), j < i → ps[j]? = some p → fl[j]? = some f → p.f ≤ f ∧ f ≤ p.hi
theorem askP_zero {ps : List Pk} {gs : List Gd} {lots : Int} {i : Nat} (h : chkS ps gs lots = 0) (hi : i < ps.length) : askP ps gs lots i = 0 := by
 unfold askP wi
 rw [h]
 have : (decide (0 ≤ (i : Int)) && decide ((i : Int) ≤ (ps.length : Int) - 1)) = true := by simp; omega
 rw [this]; rfl
section
variable {kq cq i5 b1 c1 b2 c2 b3 c3 b4 c4 i10 : Nat} {aq : Option Addr} {bq rs l : List Int} {ps : List Pk} {gs : List Gd} {lots lo hi sv : Int} {e e' : VT}
set_option maxHeartbeats 2000000 in
theorem c5B {bf cf g47 : Nat} {fl : List Int} {x178 : Value} (hL : L ≤ H.size) (I : LS H H' 268 kq aq bq cq i5 b1 c1 b2 c2 b3 c3 ps gs rs lots e) (J : LL H' 268 kq b4 c4 i10 ps l lo hi sv e) (F : Nw H' kq bf fl) (g25 : gt 268 e 25 = .slice (some ⟨bf, 0, none⟩) fl.length cf) (hfl : fl.length = ps.length) (h47 : gt 268 e 47 = .int .i64 (g47 : Nat)) (h178 : gt 268 e 178 = x178) (g28 : gt 268 e 28 = .bool true) :
  W tabA Try.prog (N + 1000) none (sub ([true, true, true, true, false, true, false, false, true, true, false, false, true, true, true, true, true, true, true, true, true, true, true, true, true, false, false, true, true, false, false] ++ [true, true, true, false]) (bodyOf Try.f5)) L ⟨268, e, H', []⟩ (endK 268 [] fun e' H'' => ∃ b : Bool, gt 268 e' 28 = .bool b ∧ (b = true → Fits ps fl ps.length) ∧ LS H H'' 268 kq aq bq cq i5 b1 c1 b2 c2 b3 c3 ps gs rs lots e' ∧ LL H'' 268 kq b4 c4 i10 ps l lo hi sv e' ∧ Nw H'' kq bf fl ∧ gt 268 e' 25 = .slice (some ⟨bf, 0, none⟩) fl.length cf ∧ gt 268 e' 47 = .int .i64 (g47 : Nat) ∧ gt 268 e' 178 = x178) := by
 have ilt := I.lt
 have h4 := I.str.st.l4
 simp only [Try.f5,bodyOf,List.cons_append,List.nil_append,sub_nil,sub_seq0,sub_seq1,sub_block,sub_loop,sub_cond0,sub_cond1]
 simp (disch:=first|(simp only [yk,seval];done)|omega|(simp only [yz]<;>omega)|fail) only [↓yp,yq0,yq1,yq2,yq3,yq4,yl,ys0,ys1,seval,fitB,newC,endD,endR,yrg,g25,lenV_slice st_esS_49]
 refine W_while (n := 268) 700 (fun q e' H'' => ∃ (i : Nat) (b : Bool), q = fl.length - i ∧ i ≤ fl.length ∧ gt 268 e' 28 = .bool b ∧ (b = true → Fits ps fl i) ∧ LS H H'' 268 kq aq bq cq i5 b1 c1 b2 c2 b3 c3 ps gs rs lots e' ∧ LL H'' 268 kq b4 c4 i10 ps l lo hi sv e' ∧ Nw H'' kq bf fl ∧ gt 268 e' 25 = .slice (some ⟨bf, 0, none⟩) fl.length cf ∧ gt 268 e' 47 = .int .i64 (g47 : Nat) ∧ gt 268 e' 178 = x178 ∧ gt 268 e' 198 = .int .i64 (i : Nat) ∧ gt 268 e' 197 = .int .i64 fl.length ∧ gt 268 e' 196 = .slice (some ⟨bf, 0, none⟩) fl.length cf)
  ?_ 8 fl.length ⟨0, true, by omega, by omega, ?_, fun _ _ _ _ h => by omega, I.fr (Fr.refl _) (by (with_reducible repeat first|refine Keep.put ?_ (by decide)|refine Keep.none ?_|assumption|exact Keep.refl _ _ _)), J.next (FrX.refl _ _) (by (with_reducible repeat first|refine Keep.put ?_ (by decide)|refine Keep.none ?_|assumption|exact Keep.refl _ _ _)), F, ?_, ?_, ?_, ?_, ?_, ?_⟩ (by omega) (by omega)
 rotate_left
 ·simp (disch:=first|(simp only [yk,seval];done)|omega|(simp only [yz]<;>omega)|fail) only [yg,seval,g28]
 ·simp (disch:=first|(simp only [yk,seval];done)|omega|(simp only [yz]<;>omega)|fail) only [yg,seval,g25]
 ·simp (disch:=first|(simp only [yk,seval];done)|omega|(simp only [yz]<;>omega)|fail) only [yg,seval,h47]
 ·simp (disch:=first|(simp only [yk,seval];done)|omega|(simp only [yz]<;>omega)|fail) only [yg,seval,h178]
 ·simp (disch:=first|(simp only [yk,seval];done)|omega|(simp only [yz]<;>omega)|fail) only [yg,seval] <;> rfl
 ·simp (disch:=first|(simp only [yk,seval];done)|omega|(simp only [yz]<;>omega)|fail) only [yg,seval]
 ·simp (disch:=first|(simp only [yk,seval];done)|omega|(simp only [yz]<;>omega)|fail) only [yg,seval]
 clear ilt h178 h47 g25 F J I g28
 rintro M1 q e H' ⟨i, b, rfl, hi, g28, hfit, I, J, F, g25, h47, h178, g198, g197, g196⟩
 have ilt := I.lt
 have g5 := I.g5
 have b5 := I.b5
 have l5 := I.l5
 have hbf := F.get
 have lbf := F.lt
 simp (disch:=first|(simp only [yk,seval];done)|omega|(simp only [yz]<;>omega)|fail) only [↓yp,yq0,yq1,yq2,yq3,yq4,yl,ys0,ys1,seval,fitB,newC,endD,endR,yrg,g198,g197]
 refine ⟨fun hA => ?_, fun hA => ?_⟩
 ·have hi' : i < fl.length := by simpa using hA
  have hi2 : i < ps.length := by omega
  obtain ⟨p, hp⟩ : ∃ p, ps[i]? = some p := ⟨ps[i], by simp [hi2]⟩
  obtain ⟨f, hf⟩ : ∃ f, fl[i]? = some f := ⟨fl[i], by simp [hi']⟩
  have hq := fl_at (E := intE) hf
  have q1 : (intE.fl fl)[i]? = some (.int .i64 f) := by
   have := cell_of (c := intE.fl fl) (k := i * intE.z) (v := .int .i64 f) hq
   rwa [show i * intE.z = i * 1 from rfl, Nat.mul_one] at this
  have hpo := I.str.pk p (List.mem_of_getElem? hp)
  have h18 := fun (N : Nat) => c18 (N := N) (cap := c1) (cap' := c2) I.r1.rw I.r2.rw (by omega) (askP_zero I.ok hi2) hp hpo
  have hw2 : w64 ((i : Int) + 1) = ((i + 1 : Nat) : Int) := by rw [w64_of (by omega)]; omega
  have h43 := fun (N : Nat) (H : AHeap) => c43 (N := N) (H := H) (n := f) (lo := p.f) (hi := p.hi)
  have next : ∀ b' : Bool, (b' = true → b = true ∧ wi f p.f p.hi = true) → b' = true → Fits ps fl (i + 1) := fun b' hb' ht j p' f' hj h1 h2 => by
   obtain ⟨k1, k2⟩ := hb' ht
   by_cases e : j = i
   ·subst e
    rw [hp] at h1
    rw [hf] at h2
    cases h1
    cases h2
    unfold wi at k2
    simpa using k2
   ·exact hfit k1 j p' f' (by omega) h1 h2
  cases b
  ·simp (disch:=first|(simp only [yk,seval];done)|omega|(simp only [yz]<;>omega)|fail) only [↓yp,yq0,yq1,yq2,yq3,yq4,yl,ys0,ys1,seval,fitB,newC,endD,endR,yrg,g198,g196,A_indexSlice st_esS_49,hbf,q1,g5,b5,h18,g28,hw2]
   refine ⟨fl.length - (i + 1), by omega, i + 1, false, rfl, by omega, ?_, fun h => (by cases h), I.fr (by repeat first|exact Fr.refl _|assumption|refine Fr.allocd ?_ _|refine Fr.put ?_ (by first|omega|(simp only [yz]<;>omega)) _) (by (with_reducible repeat first|refine Keep.put ?_ (by decide)|refine Keep.none ?_|assumption|exact Keep.refl _ _ _)), J.next (FrX.of (by repeat first|exact Fr.refl _|assumption|refine Fr.allocd ?_ _|refine Fr.put ?_ (by first|omega|(simp only [yz]<;>omega)) _)) (by (with_reducible repeat first|refine Keep.put ?_ (by decide)|refine Keep.none ?_|assumption|exact Keep.refl _ _ _)), F.frx (FrX.of (by repeat first|exact Fr.refl _|assumption|refine Fr.allocd ?_ _|refine Fr.put ?_ (by first|omega|(simp only [yz]<;>omega)) _)), ?_, ?_, ?_, ?_, ?_, ?_⟩
   ·simp (disch:=first|(simp only [yk,seval];done)|omega|(simp only [yz]<;>omega)|fail) only [yg,seval]
   ·simp (disch:=first|(simp only [yk,seval];done)|omega|(simp only [yz]<;>omega)|fail) only [yg,seval,g25]
   ·simp (disch:=first|(simp only [yk,seval];done)|omega|(simp only [yz]<;>omega)|fail) only [yg,seval,h47]
   ·simp (disch:=first|(simp only [yk,seval];done)|omega|(simp only [yz]<;>omega)|fail) only [yg,seval,h178]
   ·simp (disch:=first|(simp only [yk,seval];done)|omega|(simp only [yz]<;>omega)|fail) only [yg,seval]
   ·simp (disch:=first|(simp only [yk,seval];done)|omega|(simp only [yz]<;>omega)|fail) only [yg,seval,g197]
   ·simp (disch:=first|(simp only [yk,seval];done)|omega|(simp only [yz]<;>omega)|fail) only [yg,seval,g196]
  ·simp (disch:=first|(simp only [yk,seval];done)|omega|(simp only [yz]<;>omega)|fail) only [↓yp,yq0,yq1,yq2,yq3,yq4,yl,ys0,ys1,seval,fitB,newC,endD,endR,yrg,g198,g196,A_indexSlice st_esS_49,hbf,q1,g5,b5,h18,g28,h43,hw2]
   refine ⟨fl.length - (i + 1), by omega, i + 1, wi f p.f p.hi, rfl, by omega, ?_, next _ (fun h => ⟨rfl, h⟩), I.fr (by repeat first|exact Fr.refl _|assumption|refine Fr.allocd ?_ _|refine Fr.put ?_ (by first|omega|(simp only [yz]<;>omega)) _) (by (with_reducible repeat first|refine Keep.put ?_ (by decide)|refine Keep.none ?_|assumption|exact Keep.refl _ _ _)), J.next (FrX.of (by repeat first|exact Fr.refl _|assumption|refine Fr.allocd ?_ _|refine Fr.put ?_ (by first|omega|(simp only [yz]<;>omega)) _)) (by (with_reducible repeat first|refine Keep.put ?_ (by decide)|refine Keep.none ?_|assumption|exact Keep.refl _ _ _)), F.frx (FrX.of (by repeat first|exact Fr.refl _|assumption|refine Fr.allocd ?_ _|refine Fr.put ?_ (by first|omega|(simp only [yz]<;>omega)) _)), ?_, ?_, ?_, ?_, ?_, ?_⟩
   ·simp (disch:=first|(simp only [yk,seval];done)|omega|(simp only [yz]<;>omega)|fail) only [yg,seval]
   ·simp (disch:=first|(simp only [yk,seval];done)|omega|(simp only [yz]<;>omega)|fail) only [yg,seval,g25]
   ·simp (disch:=first|(simp only [yk,seval];done)|omega|(simp only [yz]<;>omega)|fail) only [yg,seval,h47]
   ·simp (disch:=first|(simp only [yk,seval];done)|omega|(simp only [yz]<;>omega)|fail) only [yg,seval,h178]
   ·simp (disch:=first|(simp only [yk,seval];done)|omega|(simp only [yz]<;>omega)|fail) only [yg,seval]
   ·simp (disch:=first|(simp only [yk,seval];done)|omega|(simp only [yz]<;>omega)|fail) only [yg,seval,g197]
   ·simp (disch:=first|(simp only [yk,seval];done)|omega|(simp only [yz]<;>omega)|fail) only [yg,seval,g196]
 ·have hi' : i = ps.length := by have := of_decide_eq_false hA; omega
  rw [hi'] at hfit
  simp (disch:=first|(simp only [yk,seval];done)|omega|(simp only [yz]<;>omega)|fail) only [↓yp,yq0,yq1,yq2,yq3,yq4,yl,ys0,ys1,seval,fitB,newC,endD,endR,yrg]
  refine ⟨b, ?_, hfit, I.fr (Fr.refl _) (by (with_reducible repeat first|refine Keep.put ?_ (by decide)|refine Keep.none ?_|assumption|exact Keep.refl _ _ _)), J.next (FrX.refl _ _) (by (with_reducible repeat first|refine Keep.put ?_ (by decide)|refine Keep.none ?_|assumption|exact Keep.refl _ _ _)), F, ?_, ?_, ?_⟩
  ·simp (disch:=first|(simp only [yk,seval];done)|omega|(simp only [yz]<;>omega)|fail) only [yg,seval,g28]
  ·simp (disch:=first|(simp only [yk,seval];done)|omega|(simp only [yz]<;>omega)|fail) only [yg,seval,g25]
  ·simp (disch:=first|(simp only [yk,seval];done)|omega|(simp only [yz]<;>omega)|fail) only [yg,seval,h47]
  ·simp (disch:=first|(simp only [yk,seval];done)|omega|(simp only [yz]<;>omega)|fail) only [yg,seval,h178]
end
end Go.Am.K
namespace Go.Am.K
open Go.Proofs
variable {T : Tab} {P : Program} {N L : Nat} {H H' H'' : AHeap} {Q : Bool → Value → AHeap → Prop}
theorem isum_mono : ∀ {a b : List Int}, a.length = b.length → (∀ (j : Nat) (x y : Int), a[j]? = some x → b[j]? = some y → x ≤ y) → isum a ≤ isum b
 | [], [], _, _ => by simp [isum]
 | [], _ :: _, h, _ => by simp at h
 | _ :: _, [], h, _ => by simp at h
 | x :: a, y :: b, hl, h => by
  have h0 := h 0 x y rfl rfl
  have ih := isum_mono (a := a) (b := b) (by simpa using hl) fun j x y h1 h2 => h (j + 1) x y (by simpa using h1) (by simpa using h2)
  unfold isum
  omega
theorem tru_span {ps : List Pk} {l fl il : List Int} (hlo : LotOk ps l) (hfl : fl.length = ps.length) (hil : il.length = ps.length) (hf : Fits ps fl ps.length) (hi : ∀ (j : Nat) (p : Pk) (n f x : Int), ps[j]? = some p → l[j]? = some n → fl[j]? = some f → il[j]? = some x → InB p n f x) :
  isum (fo true ps l) ≤ isum il ∧ isum il ≤ isum (fo false ps l) := by
 have ll := hlo.len
 have e1 := fo_len (s := true) (ps := ps) (m := l) (by omega)
 have e2 := fo_len (s := false) (ps := ps) (m := l) (by omega)
 have all : ∀ (j : Nat), j < ps.length → ∃ p n f x, ps[j]? = some p ∧ l[j]? = some n ∧ fl[j]? = some f ∧ il[j]? = some x ∧ InB p n f x ∧ (p.f ≤ f ∧ f ≤ p.hi) := fun j hj => by
  have h1 : j < l.length := by omega
  have h2 : j < fl.length := by omega
  have h3 : j < il.length := by omega
  have a1 : ps[j]? = some ps[j] := by simp [hj]
  have a2 : l[j]? = some l[j] := by simp [h1]
  have a3 : fl[j]? = some fl[j] := by simp [h2]
  have a4 : il[j]? = some il[j] := by simp [h3]
  exact ⟨_, _, _, _, a1, a2, a3, a4, hi j _ _ _ _ a1 a2 a3 a4, hf j _ _ hj a1 a3⟩
 constructor
 ·refine isum_mono (by omega) fun j x y hx hy => ?_
  have hj := (List.getElem?_eq_some_iff.1 hy).1
  obtain ⟨p, n, f, z, a1, a2, a3, a4, hin, hff⟩ := all j (by omega)
  rw [fo_get a1 a2] at hx
  rw [a4] at hy
  cases hx
  cases hy
  show p.il n ≤ _
  unfold InB at hin
  unfold Pk.il
  split <;> omega
 ·refine isum_mono (by omega) fun j x y hx hy => ?_
  have hj := (List.getElem?_eq_some_iff.1 hx).1
  obtain ⟨p, n, f, z, a1, a2, a3, a4, hin, hff⟩ := all j (by omega)
  rw [fo_get a1 a2] at hy
  rw [a4] at hx
  cases hx
  cases hy
  show _ ≤ p.ih n
  unfold InB at hin
  unfold Pk.ih
  split <;> omega
theorem Mk.fits {k : Nat} {P M : Int} {ps : List Pk} {gs : List Gd} {rs : List Int} {lots : Int} (h : Mk k P M ps gs rs lots) : Fits ps rs ps.length := fun j p f _ hp hf => by
 have h1 := h.ok j p f hp hf
 exact ⟨h1.re.1, h1.sp.2⟩
section
variable {kq cq i5 b1 c1 b2 c2 b3 c3 b4 c4 i10 : Nat} {aq : Option Addr} {bq rs l : List Int} {ps : List Pk} {gs : List Gd} {lots lo hi sv : Int} {e e' : VT}
theorem LS.blocks (I : LS H H' 268 kq aq bq cq i5 b1 c1 b2 c2 b3 c3 ps gs rs lots e) (h1 : 1 ≤ ps.length) (h2 : 1 ≤ gs.length) (h3 : 1 ≤ rs.length) : b1 < H'.size ∧ b2 < H'.size ∧ b3 < H'.size := by
 obtain ⟨b, o, c, e1, l1, -⟩ := I.r1.rw.get (by rintro rfl; simp at h1)
 obtain ⟨b', o', c', e2, l2, -⟩ := I.r2.rw.get (by rintro rfl; simp at h2)
 obtain ⟨b'', o'', c'', e3, l3, -⟩ := I.r3.rw.get (by rintro rfl; simp at h3)
 cases e1
 cases e2
 cases e3
 exact ⟨l1, l2, l3⟩
set_option maxHeartbeats 4000000 in
theorem c5C {kk g47 : Nat} {Pn Mn : Int} {x178 : Value} (hL : L ≤ H.size) (mk : Mk kk Pn Mn ps gs rs lots) (I : LS H H' 268 kq aq bq cq i5 b1 c1 b2 c2 b3 c3 ps gs rs lots e) (J : LL H' 268 kq b4 c4 i10 ps l lo hi sv e) (hlo : lo = isum (fo true ps l)) (hhi : hi = isum (fo false ps l)) (hsv : sv = sureV ps gs l) (h47 : gt 268 e 47 = .int .i64 (g47 : Nat)) (h178 : gt 268 e 178 = x178) :
  W tabA Try.prog (N + 1200) none (sub [true, true, true, true, false, true, false, false, true, true, false, false, true, true, true, true, true, true, true, true, true, true, true, true, true, false, false, true, true, false, false] (bodyOf Try.f5)) L ⟨268, e, H', []⟩ (endK 268 [] fun e' H'' => LS H H'' 268 kq aq bq cq i5 b1 c1 b2 c2 b3 c3 ps gs rs lots e' ∧ LL H'' 268 kq b4 c4 i10 ps l lo hi sv e' ∧ gt 268 e' 47 = .int .i64 (g47 : Nat) ∧ gt 268 e' 178 = x178) := by
 have hst := I.str.st
 have hrl := mk.lr
 have m1 := mk.l1
 have hl4 := hst.l4
 have hpk := I.str.pk
 simp only [Try.f5,bodyOf,sub_nil,sub_seq0,sub_seq1,sub_block,sub_loop,sub_cond0,sub_cond1]
 -- a copy of what is really foul
 refine W_seqI (fun e' H'' => ∃ bf cf : Nat, LS H H'' 268 kq aq bq cq i5 b1 c1 b2 c2 b3 c3 ps gs rs lots e' ∧ LL H'' 268 kq b4 c4 i10 ps l lo hi sv e' ∧ Nw H'' kq bf rs ∧ gt 268 e' 25 = .slice (some ⟨bf, 0, none⟩) rs.length cf ∧ (bf ≠ i5 ∧ bf ≠ b1 ∧ bf ≠ b2 ∧ bf ≠ b3 ∧ bf ≠ b4 ∧ bf ≠ i10) ∧ H.size ≤ bf ∧ gt 268 e' 47 = .int .i64 (g47 : Nat) ∧ gt 268 e' 178 = x178) ?_ ?_
 ·have ilt := I.lt
  have g6 := I.g6
  obtain ⟨k1, k2, k3⟩ := I.blocks m1 mk.g1 (by omega)
  have k4 : b4 < H'.size := by
   obtain ⟨b, o, c, e1, l1, -⟩ := J.r4.rw.get (by rintro h; have := J.lk.len; rw [h] at this; simp at this; omega)
   cases e1
   exact l1
  have k5 := I.l5
  have k6 := J.l10
  have k7 := I.chu.lt
  simp (disch:=first|(simp only [yk,seval];done)|omega|(simp only [yz]<;>omega)|fail) only [↓yp,yq0,yq1,yq2,yq3,yq4,yl,ys0,ys1,seval,fitB,newC,endD,endR,yrg,g6]
  refine c24 I.r3.rw (by rintro h; rw [h] at hrl; simp at hrl; omega) (by omega) (by omega) (by omega) ?_
  intro bf cf H1 fr1 h1 h2 h3
  simp (disch:=first|(simp only [yk,seval];done)|omega|(simp only [yz]<;>omega)|fail) only [↓yp,yq0,yq1,yq2,yq3,yq4,yl,ys0,ys1,seval,fitB,newC,endD,endR,yrg]
  refine ⟨bf, cf, I.fr fr1 (by (with_reducible repeat first|refine Keep.put ?_ (by decide)|refine Keep.none ?_|assumption|exact Keep.refl _ _ _)), J.next (FrX.of fr1) (by (with_reducible repeat first|refine Keep.put ?_ (by decide)|refine Keep.none ?_|assumption|exact Keep.refl _ _ _)), ⟨h2, by omega, h3⟩, ?_, ⟨by omega, by omega, by omega, by omega, by omega, by omega⟩, by omega, ?_, ?_⟩
  ·simp (disch:=first|(simp only [yk,seval];done)|omega|(simp only [yz]<;>omega)|fail) only [yg,seval]
  ·simp (disch:=first|(simp only [yk,seval];done)|omega|(simp only [yz]<;>omega)|fail) only [yg,seval,h47]
  ·simp (disch:=first|(simp only [yk,seval];done)|omega|(simp only [yz]<;>omega)|fail) only [yg,seval,h178]
 clear h47 h178 I J
 rintro e H' ⟨bf, cf, I, J, F, g25, nn, hbf, h47, h178⟩
 refine W_seqI (fun e' H'' => ∃ fl' : List Int, fl'.length = rs.length ∧ LS H H'' 268 kq aq bq cq i5 b1 c1 b2 c2 b3 c3 ps gs rs lots e' ∧ LL H'' 268 kq b4 c4 i10 ps l lo hi sv e' ∧ Nw H'' kq bf fl' ∧ gt 268 e' 25 = .slice (some ⟨bf, 0, none⟩) fl'.length cf ∧ gt 268 e' 47 = .int .i64 (g47 : Nat) ∧ gt 268 e' 178 = x178) (W_end (c5A hL I J F g25 (by omega) hbf nn h47 h178) ?_) ?_
 ·rintro e' H'' h
  exact ⟨rfl, rfl, h⟩
 clear h47 h178 g25 F J I nn hbf
 rintro e H' ⟨fl, hfl, I, J, F, g25, h47, h178⟩
 refine W_seqI (fun e' H'' => LS H H'' 268 kq aq bq cq i5 b1 c1 b2 c2 b3 c3 ps gs rs lots e' ∧ LL H'' 268 kq b4 c4 i10 ps l lo hi sv e' ∧ Nw H'' kq bf fl ∧ gt 268 e' 25 = .slice (some ⟨bf, 0, none⟩) fl.length cf ∧ gt 268 e' 47 = .int .i64 (g47 : Nat) ∧ gt 268 e' 178 = x178 ∧ gt 268 e' 28 = .bool true) ?_ ?_
 ·have ilt := I.lt
  simp (disch:=first|(simp only [yk,seval];done)|omega|(simp only [yz]<;>omega)|fail) only [↓yp,yq0,yq1,yq2,yq3,yq4,yl,ys0,ys1,seval,fitB,newC,endD,endR,yrg]
  refine ⟨I.fr (Fr.refl _) (by (with_reducible repeat first|refine Keep.put ?_ (by decide)|refine Keep.none ?_|assumption|exact Keep.refl _ _ _)), J.next (FrX.refl _ _) (by (with_reducible repeat first|refine Keep.put ?_ (by decide)|refine Keep.none ?_|assumption|exact Keep.refl _ _ _)), F, ?_, ?_, ?_, ?_⟩
  ·simp (disch:=first|(simp only [yk,seval];done)|omega|(simp only [yz]<;>omega)|fail) only [yg,seval,g25]
  ·simp (disch:=first|(simp only [yk,seval];done)|omega|(simp only [yz]<;>omega)|fail) only [yg,seval,h47]
  ·simp (disch:=first|(simp only [yk,seval];done)|omega|(simp only [yz]<;>omega)|fail) only [yg,seval,h178]
  ·simp (disch:=first|(simp only [yk,seval];done)|omega|(simp only [yz]<;>omega)|fail) only [yg,seval]
 clear h47 h178 g25 F J I
 rintro e H' ⟨I, J, F, g25, h47, h178, g28⟩
 refine W_seqI (fun e' H'' => ∃ b : Bool, gt 268 e' 28 = .bool b ∧ (b = true → Fits ps fl ps.length) ∧ LS H H'' 268 kq aq bq cq i5 b1 c1 b2 c2 b3 c3 ps gs rs lots e' ∧ LL H'' 268 kq b4 c4 i10 ps l lo hi sv e' ∧ Nw H'' kq bf fl ∧ gt 268 e' 25 = .slice (some ⟨bf, 0, none⟩) fl.length cf ∧ gt 268 e' 47 = .int .i64 (g47 : Nat) ∧ gt 268 e' 178 = x178) (W_end (c5B hL I J F g25 (by omega) h47 h178 g28) ?_) ?_
 ·rintro e' H'' h
  exact ⟨rfl, rfl, h⟩
 clear h47 h178 g25 F J I g28
 rintro e H' ⟨b, g28, hb, I, J, F, g25, h47, h178⟩
 -- what is tried fits
 refine W_seqI (fun e' H'' => ∃ (bf cf : Nat) (fl : List Int), fl.length = ps.length ∧ Fits ps fl ps.length ∧ Rx kq intE H'' (some ⟨bf, 0, none⟩) fl ∧ LS H H'' 268 kq aq bq cq i5 b1 c1 b2 c2 b3 c3 ps gs rs lots e' ∧ LL H'' 268 kq b4 c4 i10 ps l lo hi sv e' ∧ gt 268 e' 25 = .slice (some ⟨bf, 0, none⟩) fl.length cf ∧ gt 268 e' 47 = .int .i64 (g47 : Nat) ∧ gt 268 e' 178 = x178) ?_ ?_
 ·have ilt := I.lt
  have g6 := I.g6
  cases b
  ·simp (disch:=first|(simp only [yk,seval];done)|omega|(simp only [yz]<;>omega)|fail) only [↓yp,yq0,yq1,yq2,yq3,yq4,yl,ys0,ys1,seval,fitB,newC,endD,endR,yrg,g28,g6]
   refine ⟨b3, c3, rs, hrl, mk.fits, I.r3, I.fr (Fr.refl _) (by (with_reducible repeat first|refine Keep.put ?_ (by decide)|refine Keep.none ?_|assumption|exact Keep.refl _ _ _)), J.next (FrX.refl _ _) (by (with_reducible repeat first|refine Keep.put ?_ (by decide)|refine Keep.none ?_|assumption|exact Keep.refl _ _ _)), ?_, ?_, ?_⟩
   ·simp (disch:=first|(simp only [yk,seval];done)|omega|(simp only [yz]<;>omega)|fail) only [yg,seval]
   ·simp (disch:=first|(simp only [yk,seval];done)|omega|(simp only [yz]<;>omega)|fail) only [yg,seval,h47]
   ·simp (disch:=first|(simp only [yk,seval];done)|omega|(simp only [yz]<;>omega)|fail) only [yg,seval,h178]
  ·simp (disch:=first|(simp only [yk,seval];done)|omega|(simp only [yz]<;>omega)|fail) only [↓yp,yq0,yq1,yq2,yq3,yq4,yl,ys0,ys1,seval,fitB,newC,endD,endR,yrg,g28,g6]
   refine ⟨bf, cf, fl, by omega, hb rfl, F.rx, I.fr (Fr.refl _) (by (with_reducible repeat first|refine Keep.put ?_ (by decide)|refine Keep.none ?_|assumption|exact Keep.refl _ _ _)), J.next (FrX.refl _ _) (by (with_reducible repeat first|refine Keep.put ?_ (by decide)|refine Keep.none ?_|assumption|exact Keep.refl _ _ _)), ?_, ?_, ?_⟩
   ·simp (disch:=first|(simp only [yk,seval];done)|omega|(simp only [yz]<;>omega)|fail) only [yg,seval,g25]
   ·simp (disch:=first|(simp only [yk,seval];done)|omega|(simp only [yz]<;>omega)|fail) only [yg,seval,h47]
   ·simp (disch:=first|(simp only [yk,seval];done)|omega|(simp only [yz]<;>omega)|fail) only [yg,seval,h178]
 clear h47 h178 g25 F J I g28 hb b hfl fl cf bf
 rintro e H' ⟨bf, cf, fl, hfl, hfit, rf, I, J, g25, h47, h178⟩
 -- a truth
 refine W_seqI (fun e' H'' => ∃ (bi ci : Nat) (il : List Int), il.length = ps.length ∧ (∀ (j : Nat) (p : Pk) (n f x : Int), ps[j]? = some p → l[j]? = some n → fl[j]? = some f → il[j]? = some x → InB p n f x) ∧ Rx kq intE H'' (some ⟨bi, 0, none⟩) il ∧ gt 268 e' 33 = .slice (some ⟨bi, 0, none⟩) il.length ci ∧ Rx kq intE H'' (some ⟨bf, 0, none⟩) fl ∧ LS H H'' 268 kq aq bq cq i5 b1 c1 b2 c2 b3 c3 ps gs rs lots e' ∧ LL H'' 268 kq b4 c4 i10 ps l lo hi sv e' ∧ gt 268 e' 25 = .slice (some ⟨bf, 0, none⟩) fl.length cf ∧ gt 268 e' 47 = .int .i64 (g47 : Nat) ∧ gt 268 e' 178 = x178) ?_ ?_
 ·have ilt := I.lt
  have g5 := I.g5
  have b5 := I.b5
  have g7 := I.g7
  have g8 := J.g8
  have hk := I.hk
  simp (disch:=first|(simp only [yk,seval];done)|omega|(simp only [yz]<;>omega)|fail) only [↓yp,yq0,yq1,yq2,yq3,yq4,yl,ys0,ys1,seval,fitB,newC,endD,endR,yrg,g5,b5,g7,g8,g25]
  refine c44 I.chu I.r1 m1 hl4 (fun p hp => (hpk p hp).s) J.r4 J.lk rf hfl (fun j p f hp hf => ?_) (by omega) (by omega) ?_
  ·have h1 := hfit j p f (List.getElem?_eq_some_iff.1 hp).1 hp hf
   obtain ⟨z1, z2, z3, z4⟩ := hpk p (List.mem_of_getElem? hp)
   have : p.hi ≤ p.s := by unfold Pk.hi; split <;> omega
   omega
  intro bi ci il H1 h1 h2 h3 h4 h5
  have hs1 := h5.size
  simp (disch:=first|(simp only [yk,seval];done)|omega|(simp only [yz]<;>omega)|fail) only [↓yp,yq0,yq1,yq2,yq3,yq4,yl,ys0,ys1,seval,fitB,newC,endD,endR,yrg]
  refine ⟨bi, ci, il, h1, h2, h3, ?_, rf.frx h5, I.next h4 h5 (by (with_reducible repeat first|refine Keep.put ?_ (by decide)|refine Keep.none ?_|assumption|exact Keep.refl _ _ _)), J.next h5 (by (with_reducible repeat first|refine Keep.put ?_ (by decide)|refine Keep.none ?_|assumption|exact Keep.refl _ _ _)), ?_, ?_, ?_⟩
  ·simp (disch:=first|(simp only [yk,seval];done)|omega|(simp only [yz]<;>omega)|fail) only [yg,seval]
  ·simp (disch:=first|(simp only [yk,seval];done)|omega|(simp only [yz]<;>omega)|fail) only [yg,seval,g25]
  ·simp (disch:=first|(simp only [yk,seval];done)|omega|(simp only [yz]<;>omega)|fail) only [yg,seval,h47]
  ·simp (disch:=first|(simp only [yk,seval];done)|omega|(simp only [yz]<;>omega)|fail) only [yg,seval,h178]
 clear h47 h178 g25 J I rf
 rintro e H' ⟨bi, ci, il, hil, hin, ri, g33, rf, I, J, g25, h47, h178⟩
 have tru : Tru ps l fl il := ⟨hfl, hil, fun j p n f x a1 a2 a3 a4 => by
  have q1 := hin j p n f x a1 a2 a3 a4
  have q2 := hfit j p f (List.getElem?_eq_some_iff.1 a1).1 a1 a3
  unfold InB at q1
  exact ⟨q2, ⟨q1.1, q1.2.2.1⟩, by omega⟩⟩
 refine W_seqI (fun e' H'' => gt 268 e' 34 = .bool true ∧ gt 268 e' 35 = .int .i64 0 ∧ Rx kq intE H'' (some ⟨bi, 0, none⟩) il ∧ gt 268 e' 33 = .slice (some ⟨bi, 0, none⟩) il.length ci ∧ LS H H'' 268 kq aq bq cq i5 b1 c1 b2 c2 b3 c3 ps gs rs lots e' ∧ LL H'' 268 kq b4 c4 i10 ps l lo hi sv e' ∧ gt 268 e' 47 = .int .i64 (g47 : Nat) ∧ gt 268 e' 178 = x178) ?_ ?_
 ·have ilt := I.lt
  have g5 := I.g5
  have b5 := I.b5
  have g8 := J.g8
  have h41 := fun (N : Nat) => c41 (N := N) (cap := c1) (cap' := c2) (cl := c4) (cf := cf) (ci := ci) (J.ltr I) rf.rw ri.rw tru
  simp (disch:=first|(simp only [yk,seval];done)|omega|(simp only [yz]<;>omega)|fail) only [↓yp,yq0,yq1,yq2,yq3,yq4,yl,ys0,ys1,seval,fitB,newC,endD,endR,yrg,g5,b5,g8,g25,g33,h41]
  refine ⟨?_, ?_, ri, ?_, I.fr (Fr.refl _) (by (with_reducible repeat first|refine Keep.put ?_ (by decide)|refine Keep.none ?_|assumption|exact Keep.refl _ _ _)), J.next (FrX.refl _ _) (by (with_reducible repeat first|refine Keep.put ?_ (by decide)|refine Keep.none ?_|assumption|exact Keep.refl _ _ _)), ?_, ?_⟩
  ·simp (disch:=first|(simp only [yk,seval];done)|omega|(simp only [yz]<;>omega)|fail) only [yg,seval]
  ·simp (disch:=first|(simp only [yk,seval];done)|omega|(simp only [yz]<;>omega)|fail) only [yg,seval]
  ·simp (disch:=first|(simp only [yk,seval];done)|omega|(simp only [yz]<;>omega)|fail) only [yg,seval,g33]
  ·simp (disch:=first|(simp only [yk,seval];done)|omega|(simp only [yz]<;>omega)|fail) only [yg,seval,h47]
  ·simp (disch:=first|(simp only [yk,seval];done)|omega|(simp only [yz]<;>omega)|fail) only [yg,seval,h178]
 clear h47 h178 g25 J I rf g33 ri
 rintro e H' ⟨g34, g35, ri, g33, I, J, h47, h178⟩
 obtain ⟨sp1, sp2⟩ := tru_span J.lk hfl hil hfit hin
 rw [← hlo] at sp1
 rw [← hhi] at sp2
 have ilt := I.lt
 have g5 := I.g5
 have b5 := I.b5
 have g9 := J.g9
 have g10 := J.g10
 have b10 := J.b10
 have g12 := J.g12
 have hno := fun x hx => J.lk.in hpk x hx
 have hib : ∀ x ∈ il, 0 ≤ x ∧ x ≤ 1000000 := fun x hx => by
  obtain ⟨j, hj⟩ := List.getElem?_of_mem hx
  have hlt := (List.getElem?_eq_some_iff.1 hj).1
  have h1 : j < ps.length := by omega
  have h2 : j < l.length := by have := J.lk.len; omega
  have h3 : j < fl.length := by omega
  have q1 := hin j ps[j] l[j] fl[j] x (by simp [h1]) (by simp [h2]) (by simp [h3]) hj
  have q2 := hno l[j] (List.getElem_mem h2)
  unfold InB at q1
  omega
 have hsum := isum_le (l := il) (m := 6) fun x hx => by
  obtain ⟨j, hj⟩ := List.getElem?_of_mem hx
  have hlt := (List.getElem?_eq_some_iff.1 hj).1
  have h1 : j < ps.length := by omega
  have h2 : j < l.length := by have := J.lk.len; omega
  have h3 : j < fl.length := by omega
  have q1 := hin j ps[j] l[j] fl[j] x (by simp [h1]) (by simp [h2]) (by simp [h3]) hj
  have q2 := hno l[j] (List.getElem_mem h2)
  unfold InB at q1
  omega
 have h36 := fun (N : Nat) => c36 (N := N) (cap := ci) ri.rw (by omega) hib
 have h43 := fun (N : Nat) (H : AHeap) => c43 (N := N) (H := H) (n := isum il) (lo := lo) (hi := hi)
 have hwi : wi (isum il) lo hi = true := by unfold wi; simp; omega
 rw [hwi] at h43
 have w1 : w64 (100 * isum il) = 100 * isum il := w64_of (by omega)
 have hsz := (J.ltr I).sum
 rw [W_seq]
 cases hS : decide (0 ≤ sv)
 ·refine W_draw [] rfl (by kernel_rfl) (by kernel_rfl) (by omega) ?_
  simp (disch:=first|(simp only [yk,seval];done)|omega|(simp only [yz]<;>omega)|fail) only [↓yp,yq0,yq1,yq2,yq3,yq4,yl,ys0,ys1,seval,fitB,newC,endD,endR,yrg,g34,g35,g33,g5,b5,g9,g10,b10,g12,h36,h43,hS]
  refine ⟨I.fr (Fr.refl _) (by (with_reducible repeat first|refine Keep.put ?_ (by decide)|refine Keep.none ?_|assumption|exact Keep.refl _ _ _)), J.next (FrX.refl _ _) (by (with_reducible repeat first|refine Keep.put ?_ (by decide)|refine Keep.none ?_|assumption|exact Keep.refl _ _ _)), ?_, ?_⟩
  ·simp (disch:=first|(simp only [yk,seval];done)|omega|(simp only [yz]<;>omega)|fail) only [yg,seval,h47]
  ·simp (disch:=first|(simp only [yk,seval];done)|omega|(simp only [yz]<;>omega)|fail) only [yg,seval,h178]
 ·have hS' := of_decide_eq_true hS
  rcases fstI_ge (p := hasG (isum l) (isum (fo false ps l))) (gs := gs) (k := 0) with hn | ⟨k, x, k1, k2, k3⟩
  ·have : sv = -1 := by rw [hsv]; exact hn
   omega
  have hsk : sv = (k : Nat) := by rw [hsv]; unfold sureV; rw [k1, Nat.zero_add]
  rw [hsk] at g12 hS
  unfold hasG at k3
  simp only [Bool.and_eq_true,decide_eq_true_eq] at k3
  obtain ⟨bg, og, cg, eg, lg, hcg, hqg⟩ := I.r2.rw.at_ k2
  cases eg
  obtain ⟨x0, x1⟩ := two_cells (u := .int .i64 x.fo) (v := .int .i64 x.pr) hqg
  rw [show gdE.z = 2 from rfl, Nat.zero_add] at x0
  have hgo := I.str.gd x (List.mem_of_getElem? k2)
  have hkl := (List.getElem?_eq_some_iff.1 k2).1
  have hm : 0 ≤ x.fo * isum l ∧ x.fo * isum l ≤ 10000 := ⟨Int.mul_nonneg hgo.f.1 (by omega), by have := Int.mul_le_mul hgo.f.2 hsz.2 hsz.1 (by omega : (0:Int) ≤ 100); omega⟩
  have w2 : w64 (x.fo * isum l) = x.fo * isum l := w64_of (by omega)
  have hcmp : decide (x.fo * isum l < 100 * isum il) = false := by simp; omega
  refine W_draw [] rfl (by kernel_rfl) (by kernel_rfl) (by omega) ?_
  simp (disch:=first|(simp only [yk,seval];done)|omega|(simp only [yz]<;>omega)|fail) only [↓yp,yq0,yq1,yq2,yq3,yq4,yl,ys0,ys1,seval,fitB,newC,endD,endR,yrg,g34,g35,g33,g5,b5,g9,g10,b10,g12,h36,h43,hS,w1,A_indexSlice st_esS_23,hcg,x0,w2,hcmp]
  refine ⟨I.fr (Fr.refl _) (by (with_reducible repeat first|refine Keep.put ?_ (by decide)|refine Keep.none ?_|assumption|exact Keep.refl _ _ _)), J.next (FrX.refl _ _) (by (with_reducible repeat first|refine Keep.put ?_ (by decide)|refine Keep.none ?_|assumption|exact Keep.refl _ _ _)), ?_, ?_⟩
  ·simp (disch:=first|(simp only [yk,seval];done)|omega|(simp only [yz]<;>omega)|fail) only [yg,seval,h47]
  ·simp (disch:=first|(simp only [yk,seval];done)|omega|(simp only [yz]<;>omega)|fail) only [yg,seval,h178]
end
end Go.Am.K
