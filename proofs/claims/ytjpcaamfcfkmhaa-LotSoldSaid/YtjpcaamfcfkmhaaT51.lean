import Derived.Test.YtjpcaamfcfkmhaaT50
set_option linter.unusedSimpArgs false
set_option linter.unusedVariables false
namespace Go.Am.K
open Go.Proofs
variable {T : Tab} {P : Program} {N L : Nat} {H H' H'' : AHeap} {Q : Bool → Value → AHeap → Prop}
theorem ordB_mono : ∀ {gs : List Gd} {i k : Nat} {x y : Gd}, ordB gs = true → i ≤ k → gs[i]? = some x → gs[k]? = some y → x.fo ≤ y.fo
 | [], i, k, x, y, _, _, hx, _ => by simp at hx
 | g :: gs, 0, 0, x, y, _, _, hx, hy => by rw [hx] at hy; cases hy; exact Int.le_refl _
 | g :: gs, 0, k + 1, x, y, ho, _, hx, hy => by
  have := (ordB_lt ho).2 y (List.mem_of_getElem? (by simpa using hy))
  simp at hx
  subst hx
  omega
 | g :: gs, i + 1, 0, x, y, _, h, _, _ => by omega
 | g :: gs, i + 1, k + 1, x, y, ho, h, hx, hy => ordB_mono (i := i) (k := k) (ordB_lt ho).1 (by omega) (by simpa using hx) (by simpa using hy)
theorem fstI_first {p : Gd → Bool} : ∀ {gs : List Gd} {k j : Nat} {x : Gd}, gs[j]? = some x → p x = true → ∃ i y, i ≤ j ∧ fstI p gs k = ((k + i : Nat) : Int) ∧ gs[i]? = some y ∧ p y = true
 | [], k, j, x, h, _ => by simp at h
 | g :: gs, k, j, x, h, hp => by
  unfold fstI
  cases hg : p g
  ·cases j with
   | zero => simp at h; subst h; rw [hp] at hg; cases hg
   | succ j =>
    obtain ⟨i, y, h1, h2, h3, h4⟩ := fstI_first (k := k + 1) (by simpa using h) hp
    exact ⟨i + 1, y, by omega, by rw [cond_false, h2]; omega, by simpa using h3, h4⟩
  ·exact ⟨0, g, by omega, rfl, rfl, hg⟩
theorem keepV {ps : List Pk} {gs : List Gd} {l : List Int} {k : Nat} {g : Gd} (ho : ordB gs = true) (hg : ∀ x ∈ gs, x.Ok) (hs : 0 ≤ isum l) (hk : gs[k]? = some g) :
  hasG (isum l) (isum (fo false ps l)) g = (decide (0 ≤ sureV ps gs l) && decide (sureV ps gs l ≤ (k : Int))) := by
 cases hA : hasG (isum l) (isum (fo false ps l)) g
 ·symm
  rw [Bool.and_eq_false_iff]
  rcases fstI_ge (p := hasG (isum l) (isum (fo false ps l))) (gs := gs) (k := 0) with h | ⟨i, x, h1, h2, h3⟩
  ·left
   show decide (0 ≤ fstI _ gs 0) = false
   rw [h]; rfl
  ·right
   show decide (fstI _ gs 0 ≤ (k : Int)) = false
   rw [h1]
   simp only [decide_eq_false_iff_not]
   intro hle
   have h4 := ordB_mono ho (by omega) h2 hk
   unfold hasG at h3 hA
   simp only [Bool.and_eq_true,decide_eq_true_eq] at h3
   have h5 : x.fo * isum l ≤ g.fo * isum l := Int.mul_le_mul_of_nonneg_right h4 hs
   have : (decide (0 < isum l) && decide (100 * isum (fo false ps l) ≤ g.fo * isum l)) = true := by
    simp only [Bool.and_eq_true,decide_eq_true_eq]; omega
   rw [this] at hA; cases hA
 ·symm
  obtain ⟨i, y, h1, h2, h3, h4⟩ := fstI_first (p := hasG (isum l) (isum (fo false ps l))) (k := 0) hk hA
  show (decide (0 ≤ fstI _ gs 0) && decide (fstI _ gs 0 ≤ (k : Int))) = true
  rw [h2]
  simp only [Bool.and_eq_true,decide_eq_true_eq]
  omega
theorem sureV_in {ps : List Pk} {gs : List Gd} {l : List Int} : -1 ≤ sureV ps gs l ∧ sureV ps gs l < gs.length := by
 rcases fstI_ge (p := hasG (isum l) (isum (fo false ps l))) (gs := gs) (k := 0) with h | ⟨i, x, h1, h2, h3⟩
 ·have : sureV ps gs l = -1 := h
  omega
 ·have : sureV ps gs l = ((0 + i : Nat) : Int) := h1
  have := (List.getElem?_eq_some_iff.1 h2).1
  omega
theorem brg_want {ps : List Pk} {gs : List Gd} {l : List Int} : (sureV ps gs l = -1 ∧ brgV ps gs l = 0) ∨ ∃ (i : Nat) (x : Gd), sureV ps gs l = i ∧ gs[i]? = some x ∧ brgV ps gs l = isum l * x.pr ∧ 0 < isum l := by
 unfold brgV sureV
 rcases fstI_find (p := hasG (isum l) (isum (fo false ps l))) (gs := gs) (k := 0) with ⟨h1, h2⟩ | ⟨i, x, h1, h2, h3⟩
 ·left
  rw [h2]
  refine ⟨h1, ?_⟩
  show isum l * 0 = 0
  omega
 ·right
  rw [h3]
  refine ⟨i, x, by rw [h1, Nat.zero_add], h2, rfl, ?_⟩
  have := List.find?_some h3
  unfold hasG at this
  simp only [Bool.and_eq_true,decide_eq_true_eq] at this
  exact this.1
theorem tru_bad {ps : List Pk} {l : List Int} (hlo : LotOk ps l) (hk : ∀ p ∈ ps, p.Ok) (hs : ∀ p ∈ ps, p.f ≤ p.hi) : Tru ps l (ps.map Pk.hi) (fo false ps l) := by
 refine ⟨by simp, fo_len (by rw [hlo.len]; exact Nat.le_refl _), fun j p n f i a1 a2 a3 a4 => ?_⟩
 rw [List.getElem?_map, a1] at a3
 rw [fo_get a1 a2] at a4
 cases a3
 cases a4
 have h1 := hlo.ok j n p a2 a1
 obtain ⟨z1, z2, z3, z4⟩ := hk p (List.mem_of_getElem? a1)
 have h2 := hs p (List.mem_of_getElem? a1)
 have h3 : p.hi ≤ p.s := by unfold Pk.hi; split <;> omega
 show (p.f ≤ p.hi ∧ p.hi ≤ p.hi) ∧ (0 ≤ p.ih n ∧ p.ih n ≤ n) ∧ (0 ≤ p.hi - p.ih n ∧ p.hi - p.ih n ≤ p.s - n)
 unfold Pk.ih
 split <;> omega
section
variable {kq cq i5 b1 c1 b2 c2 b3 c3 b4 c4 i10 : Nat} {aq : Option Addr} {bq rs l : List Int} {ps : List Pk} {gs : List Gd} {lots lo hi sv : Int} {e e' : VT}
set_option maxHeartbeats 4000000 in
theorem c5D {kk g47 : Nat} {Pn Mn : Int} (hL : L ≤ H.size) (mk : Mk kk Pn Mn ps gs rs lots) (I : LS H H' 268 kq aq bq cq i5 b1 c1 b2 c2 b3 c3 ps gs rs lots e) (J : LL H' 268 kq b4 c4 i10 ps l lo hi sv e) (hlo : lo = isum (fo true ps l)) (hhi : hi = isum (fo false ps l)) (hsv : sv = sureV ps gs l) (h47 : gt 268 e 47 = .int .i64 (g47 : Nat)) :
  W tabA Try.prog (N + 2000) none (sub [true, true, true, true, false, true, false, false, true, true, false, false, true, true, true, true, true, true, true, true, true, true, true] (bodyOf Try.f5)) L ⟨268, e, H', []⟩ (endK 268 [] fun e' H'' => LS H H'' 268 kq aq bq cq i5 b1 c1 b2 c2 b3 c3 ps gs rs lots e' ∧ gt 268 e' 47 = .int .i64 (g47 : Nat)) := by
 have hst := I.str.st
 have hg4 := hst.g4
 have hgd := I.str.gd
 have hsz := (J.ltr I).sum
 have hhr := (J.ltr I).fo (s := false)
 rw [← hhi] at hhr
 simp only [Try.f5,bodyOf,sub_nil,sub_seq0,sub_seq1,sub_block,sub_loop,sub_cond0,sub_cond1]
 refine W_seqI (fun e' H'' => LS H H'' 268 kq aq bq cq i5 b1 c1 b2 c2 b3 c3 ps gs rs lots e' ∧ LL H'' 268 kq b4 c4 i10 ps l lo hi sv e' ∧ gt 268 e' 47 = .int .i64 (g47 : Nat)) ?_ ?_
 ·have ilt := I.lt
  have g5 := I.g5
  have b5 := I.b5
  simp (disch:=first|(simp only [yk,seval];done)|omega|(simp only [yz]<;>omega)|fail) only [↓yp,yq0,yq1,yq2,yq3,yq4,yl,ys0,ys1,seval,fitB,newC,endD,endR,yrg,g5,b5,lenV_slice st_esS_23]
  refine W_while (n := 268) 300 (fun q e' H'' => ∃ i : Nat, q = gs.length - i ∧ i ≤ gs.length ∧ LS H H'' 268 kq aq bq cq i5 b1 c1 b2 c2 b3 c3 ps gs rs lots e' ∧ LL H'' 268 kq b4 c4 i10 ps l lo hi sv e' ∧ gt 268 e' 47 = .int .i64 (g47 : Nat) ∧ gt 268 e' 151 = .int .i64 (i : Nat) ∧ gt 268 e' 150 = .int .i64 gs.length ∧ gt 268 e' 149 = .slice (some ⟨b2, 0, none⟩) gs.length c2)
   ?_ 4 gs.length ⟨0, by omega, by omega, I.fr (Fr.refl _) (by (with_reducible repeat first|refine Keep.put ?_ (by decide)|refine Keep.none ?_|assumption|exact Keep.refl _ _ _)), J.next (FrX.refl _ _) (by (with_reducible repeat first|refine Keep.put ?_ (by decide)|refine Keep.none ?_|assumption|exact Keep.refl _ _ _)), ?_, ?_, ?_, ?_⟩ (by omega) (by omega)
  rotate_left
  ·simp (disch:=first|(simp only [yk,seval];done)|omega|(simp only [yz]<;>omega)|fail) only [yg,seval,h47]
  ·simp (disch:=first|(simp only [yk,seval];done)|omega|(simp only [yz]<;>omega)|fail) only [yg,seval] <;> rfl
  ·simp (disch:=first|(simp only [yk,seval];done)|omega|(simp only [yz]<;>omega)|fail) only [yg,seval]
  ·simp (disch:=first|(simp only [yk,seval];done)|omega|(simp only [yz]<;>omega)|fail) only [yg,seval]
  clear g5 b5 ilt h47 I J
  rintro M1 q e H' ⟨i, rfl, hi', I, J, h47, g151, g150, g149⟩
  have ilt := I.lt
  have g9 := J.g9
  have g10 := J.g10
  have b10 := J.b10
  have l10 := J.l10
  have g12 := J.g12
  simp (disch:=first|(simp only [yk,seval];done)|omega|(simp only [yz]<;>omega)|fail) only [↓yp,yq0,yq1,yq2,yq3,yq4,yl,ys0,ys1,seval,fitB,newC,endD,endR,yrg,g151,g150]
  refine ⟨fun hA => ?_, fun hA => ?_⟩
  ·have hlt : i < gs.length := by simpa using hA
   obtain ⟨x, hx⟩ : ∃ x, gs[i]? = some x := ⟨gs[i], by simp [hlt]⟩
   obtain ⟨bg, og, cg, eg, lg, hcg, hqg⟩ := I.r2.rw.at_ hx
   cases eg
   have q : part cg (0 + i * 2) 3 = some (.agg ⟨x.enc⟩) := part_of hqg rfl
   rw [Nat.zero_add] at q
   simp only [Gd.enc] at q
   have hgo := hgd x (List.mem_of_getElem? hx)
   have hm : 0 ≤ x.fo * isum l ∧ x.fo * isum l ≤ 10000 := ⟨Int.mul_nonneg hgo.f.1 (by omega), by have := Int.mul_le_mul hgo.f.2 hsz.2 hsz.1 (by omega : (0:Int) ≤ 100); omega⟩
   have w1 : w64 (100 * hi) = 100 * hi := w64_of (by omega)
   have w2 : w64 (x.fo * isum l) = x.fo * isum l := w64_of (by omega)
   have hw2 : w64 ((i : Int) + 1) = ((i + 1 : Nat) : Int) := by rw [w64_of (by omega)]; omega
   have kv := keepV (ps := ps) (l := l) hst.od hgd hsz.1 hx
   rw [← hsv, ← hhi] at kv
   unfold hasG at kv
   have fin : ∀ (e' : VT) (H'' : AHeap), Fr H' H'' → Keep 268 [5, 6, 7, 8, 9, 10, 12, 47, 149, 150] e e' → gt 268 e' 151 = .int .i64 ((i + 1 : Nat) : Int) → nextK (fun q e' H'' => ∃ i : Nat, q = gs.length - i ∧ i ≤ gs.length ∧ LS H H'' 268 kq aq bq cq i5 b1 c1 b2 c2 b3 c3 ps gs rs lots e' ∧ LL H'' 268 kq b4 c4 i10 ps l lo hi sv e' ∧ gt 268 e' 47 = .int .i64 (g47 : Nat) ∧ gt 268 e' 151 = .int .i64 (i : Nat) ∧ gt 268 e' 150 = .int .i64 gs.length ∧ gt 268 e' 149 = .slice (some ⟨b2, 0, none⟩) gs.length c2) (gs.length - i) e' H'' := fun e' H'' f kp k151 =>
    ⟨gs.length - (i + 1), by omega, i + 1, rfl, by omega, I.fr f (fun j hj => kp j (by revert hj; simp; omega)), J.next (FrX.of f) (fun j hj => kp j (by revert hj; simp; omega)), (kp 47 (by decide)).trans h47, k151, (kp 150 (by decide)).trans g150, (kp 149 (by decide)).trans g149⟩
   cases hZ : decide (0 < isum l)
   ·rw [hZ, Bool.false_and] at kv
    cases hX : decide (100 * hi ≤ x.fo * isum l) <;> cases hS : decide (0 ≤ sv)
    ·simp (disch:=first|(simp only [yk,seval];done)|omega|(simp only [yz]<;>omega)|fail) only [↓yp,yq0,yq1,yq2,yq3,yq4,yl,ys0,ys1,seval,fitB,newC,endD,endR,yrg,g151,g149,A_indexSlice st_esS_23,hcg,q,g10,b10,g9,g12,w1,w2,hX,hZ,hS,neB,hw2]
     exact fin _ _ (by repeat first|exact Fr.refl _|assumption|refine Fr.allocd ?_ _|refine Fr.put ?_ (by first|omega|(simp only [yz]<;>omega)) _) (by (with_reducible repeat first|refine Keep.put ?_ (by decide)|refine Keep.none ?_|assumption|exact Keep.refl _ _ _)) (by simp (disch:=first|(simp only [yk,seval];done)|omega|(simp only [yz]<;>omega)|fail) only [yg,seval])
    ·rw [hS, Bool.true_and] at kv
     simp (disch:=first|(simp only [yk,seval];done)|omega|(simp only [yz]<;>omega)|fail) only [↓yp,yq0,yq1,yq2,yq3,yq4,yl,ys0,ys1,seval,fitB,newC,endD,endR,yrg,g151,g149,A_indexSlice st_esS_23,hcg,q,g10,b10,g9,g12,w1,w2,hX,hZ,hS,← kv,neB,hw2]
     exact fin _ _ (by repeat first|exact Fr.refl _|assumption|refine Fr.allocd ?_ _|refine Fr.put ?_ (by first|omega|(simp only [yz]<;>omega)) _) (by (with_reducible repeat first|refine Keep.put ?_ (by decide)|refine Keep.none ?_|assumption|exact Keep.refl _ _ _)) (by simp (disch:=first|(simp only [yk,seval];done)|omega|(simp only [yz]<;>omega)|fail) only [yg,seval])
    ·simp (disch:=first|(simp only [yk,seval];done)|omega|(simp only [yz]<;>omega)|fail) only [↓yp,yq0,yq1,yq2,yq3,yq4,yl,ys0,ys1,seval,fitB,newC,endD,endR,yrg,g151,g149,A_indexSlice st_esS_23,hcg,q,g10,b10,g9,g12,w1,w2,hX,hZ,hS,neB,hw2]
     exact fin _ _ (by repeat first|exact Fr.refl _|assumption|refine Fr.allocd ?_ _|refine Fr.put ?_ (by first|omega|(simp only [yz]<;>omega)) _) (by (with_reducible repeat first|refine Keep.put ?_ (by decide)|refine Keep.none ?_|assumption|exact Keep.refl _ _ _)) (by simp (disch:=first|(simp only [yk,seval];done)|omega|(simp only [yz]<;>omega)|fail) only [yg,seval])
    ·rw [hS, Bool.true_and] at kv
     simp (disch:=first|(simp only [yk,seval];done)|omega|(simp only [yz]<;>omega)|fail) only [↓yp,yq0,yq1,yq2,yq3,yq4,yl,ys0,ys1,seval,fitB,newC,endD,endR,yrg,g151,g149,A_indexSlice st_esS_23,hcg,q,g10,b10,g9,g12,w1,w2,hX,hZ,hS,← kv,neB,hw2]
     exact fin _ _ (by repeat first|exact Fr.refl _|assumption|refine Fr.allocd ?_ _|refine Fr.put ?_ (by first|omega|(simp only [yz]<;>omega)) _) (by (with_reducible repeat first|refine Keep.put ?_ (by decide)|refine Keep.none ?_|assumption|exact Keep.refl _ _ _)) (by simp (disch:=first|(simp only [yk,seval];done)|omega|(simp only [yz]<;>omega)|fail) only [yg,seval])
   ·rw [hZ, Bool.true_and] at kv
    cases hS : decide (0 ≤ sv)
    ·rw [hS, Bool.false_and] at kv
     simp (disch:=first|(simp only [yk,seval];done)|omega|(simp only [yz]<;>omega)|fail) only [↓yp,yq0,yq1,yq2,yq3,yq4,yl,ys0,ys1,seval,fitB,newC,endD,endR,yrg,g151,g149,A_indexSlice st_esS_23,hcg,q,g10,b10,g9,g12,w1,w2,kv,hZ,hS,neB,hw2]
     exact fin _ _ (by repeat first|exact Fr.refl _|assumption|refine Fr.allocd ?_ _|refine Fr.put ?_ (by first|omega|(simp only [yz]<;>omega)) _) (by (with_reducible repeat first|refine Keep.put ?_ (by decide)|refine Keep.none ?_|assumption|exact Keep.refl _ _ _)) (by simp (disch:=first|(simp only [yk,seval];done)|omega|(simp only [yz]<;>omega)|fail) only [yg,seval])
    ·rw [hS, Bool.true_and] at kv
     cases hX : decide (100 * hi ≤ x.fo * isum l)
     ·rw [hX] at kv
      simp (disch:=first|(simp only [yk,seval];done)|omega|(simp only [yz]<;>omega)|fail) only [↓yp,yq0,yq1,yq2,yq3,yq4,yl,ys0,ys1,seval,fitB,newC,endD,endR,yrg,g151,g149,A_indexSlice st_esS_23,hcg,q,g10,b10,g9,g12,w1,w2,hX,hZ,hS,← kv,neB,hw2]
      exact fin _ _ (by repeat first|exact Fr.refl _|assumption|refine Fr.allocd ?_ _|refine Fr.put ?_ (by first|omega|(simp only [yz]<;>omega)) _) (by (with_reducible repeat first|refine Keep.put ?_ (by decide)|refine Keep.none ?_|assumption|exact Keep.refl _ _ _)) (by simp (disch:=first|(simp only [yk,seval];done)|omega|(simp only [yz]<;>omega)|fail) only [yg,seval])
     ·rw [hX] at kv
      simp (disch:=first|(simp only [yk,seval];done)|omega|(simp only [yz]<;>omega)|fail) only [↓yp,yq0,yq1,yq2,yq3,yq4,yl,ys0,ys1,seval,fitB,newC,endD,endR,yrg,g151,g149,A_indexSlice st_esS_23,hcg,q,g10,b10,g9,g12,w1,w2,hX,hZ,hS,← kv,neB,hw2]
      exact fin _ _ (by repeat first|exact Fr.refl _|assumption|refine Fr.allocd ?_ _|refine Fr.put ?_ (by first|omega|(simp only [yz]<;>omega)) _) (by (with_reducible repeat first|refine Keep.put ?_ (by decide)|refine Keep.none ?_|assumption|exact Keep.refl _ _ _)) (by simp (disch:=first|(simp only [yk,seval];done)|omega|(simp only [yz]<;>omega)|fail) only [yg,seval])
  ·simp (disch:=first|(simp only [yk,seval];done)|omega|(simp only [yz]<;>omega)|fail) only [↓yp,yq0,yq1,yq2,yq3,yq4,yl,ys0,ys1,seval,fitB,newC,endD,endR,yrg]
   refine ⟨I.fr (Fr.refl _) (by (with_reducible repeat first|refine Keep.put ?_ (by decide)|refine Keep.none ?_|assumption|exact Keep.refl _ _ _)), J.next (FrX.refl _ _) (by (with_reducible repeat first|refine Keep.put ?_ (by decide)|refine Keep.none ?_|assumption|exact Keep.refl _ _ _)), ?_⟩
   simp (disch:=first|(simp only [yk,seval];done)|omega|(simp only [yz]<;>omega)|fail) only [yg,seval,h47]
 clear h47 I J
 rintro e H' ⟨I, J, h47⟩
 have ilt := I.lt
 simp (disch:=first|(simp only [yk,seval];done)|omega|(simp only [yz]<;>omega)|fail) only [↓yp,yq0,yq1,yq2,yq3,yq4,yl,ys0,ys1,seval,fitB,newC,endD,endR,yrg]
 refine W_while (n := 268) 1300 (fun q e' H'' => ∃ i : Nat, q = 4 - i ∧ i ≤ 4 ∧ LS H H'' 268 kq aq bq cq i5 b1 c1 b2 c2 b3 c3 ps gs rs lots e' ∧ LL H'' 268 kq b4 c4 i10 ps l lo hi sv e' ∧ gt 268 e' 47 = .int .i64 (g47 : Nat) ∧ gt 268 e' 178 = .int .i64 (i : Nat))
  ?_ 4 4 ⟨0, by omega, by omega, I.fr (Fr.refl _) (by (with_reducible repeat first|refine Keep.put ?_ (by decide)|refine Keep.none ?_|assumption|exact Keep.refl _ _ _)), J.next (FrX.refl _ _) (by (with_reducible repeat first|refine Keep.put ?_ (by decide)|refine Keep.none ?_|assumption|exact Keep.refl _ _ _)), ?_, ?_⟩ (by omega) (by omega)
 rotate_left
 ·simp (disch:=first|(simp only [yk,seval];done)|omega|(simp only [yz]<;>omega)|fail) only [yg,seval,h47]
 ·simp (disch:=first|(simp only [yk,seval];done)|omega|(simp only [yz]<;>omega)|fail) only [yg,seval] <;> rfl
 clear ilt h47 I J
 rintro M1 q e H' ⟨i, rfl, hi', I, J, h47, g178⟩
 have ilt := I.lt
 simp (disch:=first|(simp only [yk,seval];done)|omega|(simp only [yz]<;>omega)|fail) only [↓yp,yq0,yq1,yq2,yq3,yq4,yl,ys0,ys1,seval,fitB,newC,endD,endR,yrg,g178]
 refine ⟨fun hA => ?_, fun hA => ?_⟩
 ·have hlt : (i : Int) < 4 := of_decide_eq_true hA
  have hw2 : w64 ((i : Int) + 1) = ((i + 1 : Nat) : Int) := by rw [w64_of (by omega)]; omega
  refine W_skipI (by omega) ?_
  rw [W_seq, W_block]
  refine W_end (c5C (g47 := g47) (x178 := .int .i64 (i : Nat)) hL mk (I.fr (Fr.refl _) (by (with_reducible repeat first|refine Keep.put ?_ (by decide)|refine Keep.none ?_|assumption|exact Keep.refl _ _ _))) (J.next (FrX.refl _ _) (by (with_reducible repeat first|refine Keep.put ?_ (by decide)|refine Keep.none ?_|assumption|exact Keep.refl _ _ _))) hlo hhi hsv (by simp (disch:=first|(simp only [yk,seval];done)|omega|(simp only [yz]<;>omega)|fail) only [yg,seval,h47]) (by simp (disch:=first|(simp only [yk,seval];done)|omega|(simp only [yz]<;>omega)|fail) only [yg,seval,g178])) ?_
  rintro e' H'' ⟨I', J', k47, k178⟩
  have ilt' := I'.lt
  simp (disch:=first|(simp only [yk,seval];done)|omega|(simp only [yz]<;>omega)|fail) only [↓yp,yq0,yq1,yq2,yq3,yq4,yl,ys0,ys1,seval,fitB,newC,endD,endR,yrg,k178,hw2]
  refine ⟨4 - (i + 1), by omega, i + 1, rfl, by omega, I'.fr (Fr.refl _) (by (with_reducible repeat first|refine Keep.put ?_ (by decide)|refine Keep.none ?_|assumption|exact Keep.refl _ _ _)), J'.next (FrX.refl _ _) (by (with_reducible repeat first|refine Keep.put ?_ (by decide)|refine Keep.none ?_|assumption|exact Keep.refl _ _ _)), ?_, ?_⟩
  ·simp (disch:=first|(simp only [yk,seval];done)|omega|(simp only [yz]<;>omega)|fail) only [yg,seval,k47]
  ·simp (disch:=first|(simp only [yk,seval];done)|omega|(simp only [yz]<;>omega)|fail) only [yg,seval]
 ·simp (disch:=first|(simp only [yk,seval];done)|omega|(simp only [yz]<;>omega)|fail) only [↓yp,yq0,yq1,yq2,yq3,yq4,yl,ys0,ys1,seval,fitB,newC,endD,endR,yrg]
  refine ⟨I.fr (Fr.refl _) (by (with_reducible repeat first|refine Keep.put ?_ (by decide)|refine Keep.none ?_|assumption|exact Keep.refl _ _ _)), ?_⟩
  simp (disch:=first|(simp only [yk,seval];done)|omega|(simp only [yz]<;>omega)|fail) only [yg,seval,h47]
end
end Go.Am.K
