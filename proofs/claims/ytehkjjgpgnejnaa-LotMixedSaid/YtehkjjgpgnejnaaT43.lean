import Derived.Test.YtehkjjgpgnejnaaT40
import Derived.Test.YtehkjjgpgnejnaaT42
set_option linter.unusedSimpArgs false
set_option linter.unusedVariables false
namespace Go.Am.K
open Go.Proofs
variable {T : Tab} {P : Program} {N L : Nat} {H H' H'' : AHeap} {Q : Bool → Value → AHeap → Prop}
theorem ordB_mono : ∀ {gs : List Gd} {i k : Nat} {x y : Gd}, ordB gs = true → i ≤ k → gs[i]? = some x → gs[k]? = some y → x.fo ≤ y.fo
 | [], i, k, x, y, _, _, hx, _ => by simp at hx
 | g :: gs, 0, 0, x, y, _, _, hx, hy => by rw [hx] at hy; cases hy; exact Int.le_refl _
 | g :: gs, 0, k + 1, x, y, ho, _, hx, hy => by
  have := (ordB_lt ho).2 y (List.mem_of_getElem? (by simpa using hy))
  simp at hx
  subst hx
  omega
 | g :: gs, i + 1, 0, x, y, _, h, _, _ => by omega
 | g :: gs, i + 1, k + 1, x, y, ho, h, hx, hy => ordB_mono (i := i) (k := k) (ordB_lt ho).1 (by omega) (by simpa using hx) (by simpa using hy)
theorem fstI_first {p : Gd → Bool} : ∀ {gs : List Gd} {k j : Nat} {x : Gd}, gs[j]? = some x → p x = true → ∃ i y, i ≤ j ∧ fstI p gs k = ((k + i : Nat) : Int) ∧ gs[i]? = some y ∧ p y = true
 | [], k, j, x, h, _ => by simp at h
 | g :: gs, k, j, x, h, hp => by
  unfold fstI
  cases hg : p g
  ·cases j with
   | zero => simp at h; subst h; rw [hp] at hg; cases hg
   | succ j =>
    obtain ⟨i, y, h1, h2, h3, h4⟩ := fstI_first (k := k + 1) (by simpa using h) hp
    exact ⟨i + 1, y, by omega, by rw [cond_false, h2]; omega, by simpa using h3, h4⟩
  ·exact ⟨0, g, by omega, rfl, rfl, hg⟩
theorem keepV {ps : List Pk} {gs : List Gd} {l : List Int} {k : Nat} {g : Gd} (ho : ordB gs = true) (hg : ∀ x ∈ gs, x.Ok) (hs : 0 ≤ isum l) (hk : gs[k]? = some g) :
  hasG (isum l) (isum (fo false ps l)) g = (decide (0 ≤ sureV ps gs l) && decide (sureV ps gs l ≤ (k : Int))) := by
 cases hA : hasG (isum l) (isum (fo false ps l)) g
 ·symm
  rw [Bool.and_eq_false_iff]
  rcases fstI_ge (p := hasG (isum l) (isum (fo false ps l))) (gs := gs) (k := 0) with h | ⟨i, x, h1, h2, h3⟩
  ·left
   show decide (0 ≤ fstI _ gs 0) = false
   rw [h]; rfl
  ·right
   show decide (fstI _ gs 0 ≤ (k : Int)) = false
   rw [h1]
   simp only [decide_eq_false_iff_not]
   intro hle
   have h4 := ordB_mono ho (by omega) h2 hk
   unfold hasG at h3 hA
   simp only [Bool.and_eq_true,decide_eq_true_eq] at h3
   have h5 : x.fo * isum l ≤ g.fo * isum l := Int.mul_le_mul_of_nonneg_right h4 hs
   have : (decide (0 < isum l) && decide (100 * isum (fo false ps l) ≤ g.fo * isum l)) = true := by
    simp only [Bool.and_eq_true,decide_eq_true_eq]; omega
   rw [this] at hA; cases hA
 ·symm
  obtain ⟨i, y, h1, h2, h3, h4⟩ := fstI_first (p := hasG (isum l) (isum (fo false ps l))) (k := 0) hk hA
  show (decide (0 ≤ fstI _ gs 0) && decide (fstI _ gs 0 ≤ (k : Int))) = true
  rw [h2]
  simp only [Bool.and_eq_true,decide_eq_true_eq]
  omega
section
variable {kq cq i5 b1 c1 b2 c2 b3 c3 b4 c4 i10 : Nat} {aq : Option Addr} {bq rs l : List Int} {ps : List Pk} {gs : List Gd} {lots lo hi sv : Int} {e e' : VT}
end
end Go.Am.K
namespace Go.Am.K
open Go.Proofs
variable {T : Tab} {P : Program} {N L : Nat} {H H' H'' : AHeap} {Q : Bool → Value → AHeap → Prop}
section
variable {i5 b1 c1 b2 c2 b4 c4 i k : Nat} {ps : List Pk} {gs : List Gd} {lots : Int} {l : List Int} {e : VT} {g : Gd} {p : Pk} {v sp er nv cnt : Int}
set_option maxHeartbeats 8000000 in
set_option maxRecDepth 10000 in
theorem c10M (hL : L ≤ H.size) (lt : LtR H (some ⟨b1, 0, none⟩) (some ⟨b2, 0, none⟩) (some ⟨b4, 0, none⟩) ps gs lots l) (g5 : gt 214 e 5 = .pointer (some ⟨i5, 0, none⟩)) (l5 : i5 < H.size)
  (b5 : H.get i5 = .rw [.slice (some ⟨b1, 0, none⟩) ps.length c1, .slice (some ⟨b2, 0, none⟩) gs.length c2, .int .i64 lots] 25 false []) (g15 : gt 214 e 15 = .slice (some ⟨b4, 0, none⟩) l.length c4) (g18 : gt 214 e 18 = .int .i64 (i : Nat)) (g9 : gt 214 e 9 = .int .i64 (k : Nat))
  (g19 : gt 214 e 19 = .int .i64 nv) (g20 : gt 214 e 20 = .int .i64 er) (g154 : gt 214 e 154 = .int .i64 cnt) (g155 : gt 214 e 155 = .int .i64 0) (hp : ps[i]? = some p) (hv : l[i]? = some v) (hg : gs[k]? = some g) (hcnt : p.s - v + 1 = cnt) (hsp : spF ps g l i v cnt.toNat = sp)
  (hn : (sp = -1 ∧ er = 1 ∧ nv = 0) ∨ (0 ≤ sp ∧ er = 0 ∧ nv = sp)) :
  W tabA Try.prog (N + 1400) none (sub ([true, true, true, true, false, true, false, false, true, true, false, false, true, true, true, true, true, true, true] ++ [false, false, true, true, false, false, true, true, true, true, true, true, true]) (bodyOf Try.f10)) L ⟨214, e, H, []⟩ (endK 214 [] fun e' H'' => Keep 214 [5, 6, 7, 8, 9, 12, 36, 37, 77] e e' ∧ Fr H H'') := by
 have hvp := lt.lo.ok i v p hv hp
 have hpk := lt.st.pk
 have hps := (hpk p (List.mem_of_getElem? hp)).s
 have hil := (List.getElem?_eq_some_iff.1 hv).1
 have hll := lt.lo.len
 have h4 := lt.st.st.l4
 have hspl := spF_le (ps := ps) (g := g) (l := l) (i := i) (v := v) cnt.toNat
 obtain ⟨sh1, sh2⟩ := spF_has (ps := ps) (g := g) (l := l) (i := i) (v := v) cnt.toNat
 rw [hsp] at hspl sh1 sh2
 simp only [Try.f10,bodyOf,List.cons_append,List.nil_append,sub_nil,sub_seq0,sub_seq1,sub_block,sub_loop,sub_cond0,sub_cond1]
 simp (disch:=first|(simp only [yk,seval];done)|omega|(simp only [yz]<;>omega)|fail) only [↓yp,yq0,yq1,yq2,yq3,yq4,yl,ys0,ys1,seval,fitB,newC,endD,endR,yrg]
 refine W_while (n := 214) 1300 (fun q e' H' => ∃ m : Nat, q = (cnt - m).toNat ∧ (m : Int) ≤ cnt ∧ Keep 214 [5, 6, 7, 8, 9, 12, 15, 18, 19, 20, 36, 37, 77, 154] e e' ∧ gt 214 e' 155 = .int .i64 (m : Nat) ∧ Fr H H')
  ?_ 8 cnt.toNat ⟨0, by omega, by omega, by (with_reducible repeat first|refine Keep.put ?_ (by decide)|refine Keep.none ?_|assumption|exact Keep.refl _ _ _), by simp (disch:=first|(simp only [yk,seval];done)|omega|(simp only [yz]<;>omega)|fail) only [yg,seval,g155] <;> rfl, Fr.refl _⟩ (by omega) (by omega)
 rintro M1 q e' H1 ⟨m, rfl, hmc, kp, k155, fr⟩
 have k5 := (kp 5 (by decide)).trans g5
 have k9 := (kp 9 (by decide)).trans g9
 have k15 := (kp 15 (by decide)).trans g15
 have k18 := (kp 18 (by decide)).trans g18
 have k19 := (kp 19 (by decide)).trans g19
 have k20 := (kp 20 (by decide)).trans g20
 have k154 := (kp 154 (by decide)).trans g154
 have f1 := fr.size
 simp (disch:=first|(simp only [yk,seval];done)|omega|(simp only [yz]<;>omega)|fail) only [↓yp,yq0,yq1,yq2,yq3,yq4,yl,ys0,ys1,seval,fitB,newC,endD,endR,yrg,k155,k154]
 refine ⟨fun hT => ?_, fun hT => ?_⟩
 rotate_left
 ·simp (disch:=first|(simp only [yk,seval];done)|omega|(simp only [yz]<;>omega)|fail) only [↓yp,yq0,yq1,yq2,yq3,yq4,yl,ys0,ys1,seval,fitB,newC,endD,endR,yrg]
  have kp2 : Keep 214 [5, 6, 7, 8, 9, 12, 36, 37, 77] e e' := fun j hj => kp j (by revert hj; simp; omega)
  exact ⟨Keep.trans kp2 (by (with_reducible repeat first|refine Keep.put ?_ (by decide)|refine Keep.none ?_|assumption|exact Keep.refl _ _ _)), fr⟩
 have hlt : (m : Int) < cnt := of_decide_eq_true hT
 have hw2 : w64 ((m : Int) + 1) = ((m + 1 : Nat) : Int) := by rw [w64_of (by omega)]; omega
 have hw3 : w64 (v + (m : Int)) = v + m := w64_of (by omega)
 simp (disch:=first|(simp only [yk,seval];done)|omega|(simp only [yz]<;>omega)|fail) only [↓yp,yq0,yq1,yq2,yq3,yq4,yl,ys0,ys1,seval,fitB,newC,endD,endR,yrg,k155,k15]
 refine c24 (lt.rl.fr fr) (by rintro rfl; simp at hil) (by omega) (by omega) (by omega) ?_
 intro b22 c22 H2 fr2 q1 q2 q3
 have f2 := fr2.size
 have hsat : (intE.fl l)[i]? = some (.int .i64 v) := by
  have := cell_of (k := i * 1) (fl_at (E := intE) hv)
  rwa [Nat.mul_one] at this
 have hfit : decide (i + 1 ≤ (intE.fl l).length) = true := by
  rw [fl_length]
  simp only [show intE.z = 1 from rfl,Nat.mul_one,decide_eq_true_eq]
  omega
 have hset : newC i [.int .i64 (v + m)] (intE.fl l) = intE.fl (l.set i (v + m)) := by
  have := newC_fl (E := intE) (s := v + (m : Int)) hil
  rw [show i * intE.z = i * 1 from rfl, Nat.mul_one] at this
  exact this
 have frB : ∀ blk, Fr H (H2.put b22 blk) := fun blk => Fr.put (fr.trans fr2) (by omega) _
 have hlo : LotOk ps (l.set i (v + m)) := lot_set lt.lo hp (by omega)
 have lt' : LtR (H2.put b22 (.rw (intE.fl (l.set i (v + m))) 3 true [])) (some ⟨b1, 0, none⟩) (some ⟨b2, 0, none⟩) (some ⟨b22, 0, none⟩) ps gs lots (l.set i (v + m)) := ⟨lt.st.fr (frB _), Rw.of (r := []) (by first|omega|(simp only [yz]<;>omega)) (by rw [get_put_same q2]; rfl) (by rw [List.append_nil]), hlo⟩
 have h38 := fun (N : Nat) => c38 (N := N) (cap := c1) (cap' := c2) (cl := c22) lt'
 simp only [List.length_set] at h38
 have b52 : H2.get i5 = .rw [.slice (some ⟨b1, 0, none⟩) ps.length c1, .slice (some ⟨b2, 0, none⟩) gs.length c2, .int .i64 lots] 25 false [] := ((fr.trans fr2).same _ l5).trans b5
 have n5 : i5 ≠ b22 := by omega
 have hkv : hasM ps g (l.set i (v + m)) = (decide (0 ≤ sureV ps gs (l.set i (v + m))) && decide (sureV ps gs (l.set i (v + m)) ≤ (k : Int))) := keepV lt.st.st.od lt.st.gd (lt'.sum).1 hg
 obtain ⟨sv, hsv⟩ : ∃ sv, sureV ps gs (l.set i (v + m)) = sv := ⟨_, rfl⟩
 rw [hsv] at h38 hkv
 obtain ⟨hb, hhb⟩ : ∃ hb, hasM ps g (l.set i (v + m)) = hb := ⟨_, rfl⟩
 rw [hhb] at hkv
 obtain ⟨fl, hfl⟩ : ∃ fl, intE.fl l = fl := ⟨_, rfl⟩
 obtain ⟨fl2, hfl2⟩ : ∃ fl2, intE.fl (l.set i (v + m)) = fl2 := ⟨_, rfl⟩
 rw [hfl] at q3 hsat hfit hset
 rw [hfl2] at hset h38
 have hset' : List.take i fl ++ [.int .i64 (v + (m : Int))] ++ List.drop (i + 1) fl = fl2 := hset
 have h00 : decide ((0 : Int) = 0) = true := rfl
 have h10 : decide ((1 : Int) = 0) = false := rfl
 have next : ∀ (e'' : VT) (H3 : AHeap), Keep 214 [5, 6, 7, 8, 9, 12, 15, 18, 19, 20, 36, 37, 77, 154] e' e'' → Fr H H3 → gt 214 e'' 155 = .int .i64 ((m + 1 : Nat) : Int) → ∃ k', k' < (cnt - (m : Nat)).toNat ∧ ∃ m' : Nat, k' = (cnt - m').toNat ∧ (m' : Int) ≤ cnt ∧ Keep 214 [5, 6, 7, 8, 9, 12, 15, 18, 19, 20, 36, 37, 77, 154] e e'' ∧ gt 214 e'' 155 = .int .i64 (m' : Nat) ∧ Fr H H3 := fun e'' H3 h1 h2 h3 => ⟨(cnt - (m + 1 : Nat)).toNat, by omega, m + 1, rfl, by omega, kp.trans h1, h3, h2⟩
 rcases hn with ⟨rfl, rfl, rfl⟩ | ⟨hsp0, rfl, rfl⟩
 ·have hno := sh1 m (by omega) (by omega)
  rw [hhb] at hno
  subst hno
  cases h1 : decide (0 ≤ sv)
  ·simp (disch:=first|(simp only [yk,seval];done)|omega|(simp only [yz]<;>omega)|fail) only [↓yp,yq0,yq1,yq2,yq3,yq4,yl,ys0,ys1,seval,fitB,newC,endD,endR,yrg,k5,k9,k15,k18,k19,k20,k155,A_indexSlice st_esS_49,q3,hsat,hfit,hset',hw3,hw2,b52,h38,h1,h00,h10]
   refine next _ _ (by (with_reducible repeat first|refine Keep.put ?_ (by decide)|refine Keep.none ?_|assumption|exact Keep.refl _ _ _)) (frB _) ?_
   simp (disch:=first|(simp only [yk,seval];done)|omega|(simp only [yz]<;>omega)|fail) only [yg,seval]
  ·rw [h1, Bool.true_and] at hkv
   have h2 := hkv.symm
   simp (disch:=first|(simp only [yk,seval];done)|omega|(simp only [yz]<;>omega)|fail) only [↓yp,yq0,yq1,yq2,yq3,yq4,yl,ys0,ys1,seval,fitB,newC,endD,endR,yrg,k5,k9,k15,k18,k19,k20,k155,A_indexSlice st_esS_49,q3,hsat,hfit,hset',hw3,hw2,b52,h38,h1,h2,h00,h10]
   refine next _ _ (by (with_reducible repeat first|refine Keep.put ?_ (by decide)|refine Keep.none ?_|assumption|exact Keep.refl _ _ _)) (frB _) ?_
   simp (disch:=first|(simp only [yk,seval];done)|omega|(simp only [yz]<;>omega)|fail) only [yg,seval]
 ·cases hm : decide ((m : Int) = nv)
  ·have hm' := of_decide_eq_false hm
   cases hg2 : decide (nv < (m : Int))
   ·cases h1 : decide (0 ≤ sv)
    ·rw [h1, Bool.false_and] at hkv
     simp (disch:=first|(simp only [yk,seval];done)|omega|(simp only [yz]<;>omega)|fail) only [↓yp,yq0,yq1,yq2,yq3,yq4,yl,ys0,ys1,seval,fitB,newC,endD,endR,yrg,k5,k9,k15,k18,k19,k20,k155,A_indexSlice st_esS_49,q3,hsat,hfit,hset',hw3,hw2,b52,h38,h1,h00,hm,hg2]
     refine next _ _ (by (with_reducible repeat first|refine Keep.put ?_ (by decide)|refine Keep.none ?_|assumption|exact Keep.refl _ _ _)) (frB _) ?_
     simp (disch:=first|(simp only [yk,seval];done)|omega|(simp only [yz]<;>omega)|fail) only [yg,seval]
    ·cases h2 : decide (sv ≤ (k : Int))
     ·simp (disch:=first|(simp only [yk,seval];done)|omega|(simp only [yz]<;>omega)|fail) only [↓yp,yq0,yq1,yq2,yq3,yq4,yl,ys0,ys1,seval,fitB,newC,endD,endR,yrg,k5,k9,k15,k18,k19,k20,k155,A_indexSlice st_esS_49,q3,hsat,hfit,hset',hw3,hw2,b52,h38,h1,h2,h00,hm,hg2]
      refine next _ _ (by (with_reducible repeat first|refine Keep.put ?_ (by decide)|refine Keep.none ?_|assumption|exact Keep.refl _ _ _)) (frB _) ?_
      simp (disch:=first|(simp only [yk,seval];done)|omega|(simp only [yz]<;>omega)|fail) only [yg,seval]
     ·simp (disch:=first|(simp only [yk,seval];done)|omega|(simp only [yz]<;>omega)|fail) only [↓yp,yq0,yq1,yq2,yq3,yq4,yl,ys0,ys1,seval,fitB,newC,endD,endR,yrg,k5,k9,k15,k18,k19,k20,k155,A_indexSlice st_esS_49,q3,hsat,hfit,hset',hw3,hw2,b52,h38,h1,h2,h00,hm,hg2]
      refine next _ _ (by (with_reducible repeat first|refine Keep.put ?_ (by decide)|refine Keep.none ?_|assumption|exact Keep.refl _ _ _)) (frB _) ?_
      simp (disch:=first|(simp only [yk,seval];done)|omega|(simp only [yz]<;>omega)|fail) only [yg,seval]
   ·have hno := sh1 m (by omega) (of_decide_eq_true hg2)
    rw [hhb] at hno
    subst hno
    cases h1 : decide (0 ≤ sv)
    ·simp (disch:=first|(simp only [yk,seval];done)|omega|(simp only [yz]<;>omega)|fail) only [↓yp,yq0,yq1,yq2,yq3,yq4,yl,ys0,ys1,seval,fitB,newC,endD,endR,yrg,k5,k9,k15,k18,k19,k20,k155,A_indexSlice st_esS_49,q3,hsat,hfit,hset',hw3,hw2,b52,h38,h1,h00,hm,hg2]
     refine next _ _ (by (with_reducible repeat first|refine Keep.put ?_ (by decide)|refine Keep.none ?_|assumption|exact Keep.refl _ _ _)) (frB _) ?_
     simp (disch:=first|(simp only [yk,seval];done)|omega|(simp only [yz]<;>omega)|fail) only [yg,seval]
    ·rw [h1, Bool.true_and] at hkv
     have h2 := hkv.symm
     simp (disch:=first|(simp only [yk,seval];done)|omega|(simp only [yz]<;>omega)|fail) only [↓yp,yq0,yq1,yq2,yq3,yq4,yl,ys0,ys1,seval,fitB,newC,endD,endR,yrg,k5,k9,k15,k18,k19,k20,k155,A_indexSlice st_esS_49,q3,hsat,hfit,hset',hw3,hw2,b52,h38,h1,h2,h00,hm,hg2]
     refine next _ _ (by (with_reducible repeat first|refine Keep.put ?_ (by decide)|refine Keep.none ?_|assumption|exact Keep.refl _ _ _)) (frB _) ?_
     simp (disch:=first|(simp only [yk,seval];done)|omega|(simp only [yz]<;>omega)|fail) only [yg,seval]
  ·have hm' := of_decide_eq_true hm
   have hyes := sh2 m hm'
   rw [hhb] at hyes
   subst hyes
   have hkv' := hkv.symm
   rw [Bool.and_eq_true] at hkv'
   have h1 := hkv'.1
   have h2 := hkv'.2
   have hg2 : decide (nv < (m : Int)) = false := by simp; omega
   simp (disch:=first|(simp only [yk,seval];done)|omega|(simp only [yz]<;>omega)|fail) only [↓yp,yq0,yq1,yq2,yq3,yq4,yl,ys0,ys1,seval,fitB,newC,endD,endR,yrg,k5,k9,k15,k18,k19,k20,k155,A_indexSlice st_esS_49,q3,hsat,hfit,hset',hw3,hw2,b52,h38,h1,h2,h00,hm,hg2]
   refine next _ _ (by (with_reducible repeat first|refine Keep.put ?_ (by decide)|refine Keep.none ?_|assumption|exact Keep.refl _ _ _)) (frB _) ?_
   simp (disch:=first|(simp only [yk,seval];done)|omega|(simp only [yz]<;>omega)|fail) only [yg,seval]
end
end Go.Am.K
namespace Go.Am.K
open Go.Proofs
variable {T : Tab} {P : Program} {N L : Nat} {H H' H'' : AHeap} {Q : Bool → Value → AHeap → Prop}
section
variable {kq cq i5 b1 c1 b2 c2 b3 c3 b4 c4 k : Nat} {aq : Option Addr} {bq rs l : List Int} {ps : List Pk} {gs : List Gd} {lots size : Int} {e : VT} {g : Gd}
set_option maxHeartbeats 8000000 in
set_option maxRecDepth 10000 in
theorem c10Y (hL : L ≤ H.size) (I : LS H H' 214 kq aq bq cq i5 b1 c1 b2 c2 b3 c3 ps gs rs lots e) (hst : StOk ps gs lots) (r4 : Rx kq intE H' (some ⟨b4, 0, none⟩) l) (lok : LotOk ps l) (g15 : gt 214 e 15 = .slice (some ⟨b4, 0, none⟩) l.length c4) (g9 : gt 214 e 9 = .int .i64 (k : Nat)) (hg : gs[k]? = some g) :
  W tabA Try.prog (N + 2000) none (sub ([true, true, true, true, false, true, false, false, true, true, false, false, true, true, true, true, true, true, true] ++ [false, false, true, true, false, false, true, true, true]) (bodyOf Try.f10)) L ⟨214, e, H', []⟩ (endK 214 [] fun e' H'' => LS H H'' 214 kq aq bq cq i5 b1 c1 b2 c2 b3 c3 ps gs rs lots e' ∧ Keep 214 [8, 9, 12, 36, 37, 77] e e') := by
 have ilt := I.lt
 have g5 := I.g5
 have b5 := I.b5
 have g7 := I.g7
 have hk := I.hk
 have kl := I.chu.lt
 have h1 := hst.l1
 have h4 := hst.l4
 have hpk := fun p hp => Pk.isB_ok (List.all_eq_true.1 hst.pb p hp)
 obtain ⟨TL, hTL⟩ : ∃ c, sub ([true, true, true, true, false, true, false, false, true, true, false, false, true, true, true, true, true, true, true] ++ [false, false, true, true, false, false, true, true, true, true, true, true, true]) (bodyOf Try.f10) = c := ⟨_, rfl⟩
 have hTL0 := hTL
 simp only [Try.f10,bodyOf,List.cons_append,List.nil_append,sub_nil,sub_seq0,sub_seq1,sub_block,sub_loop,sub_cond0,sub_cond1] at hTL ⊢
 rw [hTL]
 clear hTL
 simp (disch:=first|(simp only [yk,seval];done)|omega|(simp only [yz]<;>omega)|fail) only [↓yp,yq0,yq1,yq2,yq3,yq4,yl,ys0,ys1,seval,fitB,newC,endD,endR,yrg,g5,g7,b5,lenV_slice st_esS_22]
 refine c42 I.chu (by omega) (by omega) (by omega) ?_
 rintro f1 n1 H1 - ⟨p1, p2⟩ hc1 hx1 hs1
 have I1 := I.next hc1 hx1 (Keep.refl _ _ _)
 have lt1 : LtR H1 (some ⟨b1, 0, none⟩) (some ⟨b2, 0, none⟩) (some ⟨b4, 0, none⟩) ps gs lots l := ⟨I1.str, (r4.frx hx1).rw, lok⟩
 have b51 := I1.b5
 have l51 := I1.l5
 have kl1 := I1.chu.lt
 obtain ⟨i, rfl⟩ : ∃ i : Nat, n1 = i := ⟨n1.toNat, by omega⟩
 have hi : i < ps.length := by omega
 have hll := lok.len
 obtain ⟨p, hp⟩ : ∃ p, ps[i]? = some p := ⟨ps[i], by simp [hi]⟩
 obtain ⟨v, hv⟩ : ∃ v, l[i]? = some v := ⟨l[i]'(by omega), by simp [show i < l.length by omega]⟩
 have hvp := lok.ok i v p hv hp
 have hps := (hpk p (List.mem_of_getElem? hp)).s
 have h53 := fun (N : Nat) => c53 (N := N) (cap := c1) (cap' := c2) (cl := c4) lt1 hg hp hv
 obtain ⟨cnt, hcnt⟩ : ∃ cnt, p.s - v + 1 = cnt := ⟨_, rfl⟩
 rw [hcnt] at h53
 have hspl := spF_le (ps := ps) (g := g) (l := l) (i := i) (v := v) cnt.toNat
 obtain ⟨sp, hsp⟩ : ∃ sp, spF ps g l i v cnt.toNat = sp := ⟨_, rfl⟩
 rw [hsp] at h53 hspl
 obtain ⟨bb, oo, cc, eb, hbb, hcc, hqq⟩ := lt1.st.hs.at_ hp
 cases eb
 have q1 : cc[0 + i * 4]? = some (.int .i64 p.s) := by
  have h0 : ((cc.drop (0 + i * 4)).take 4)[0]? = some (.int .i64 p.s) := by
   have : (cc.drop (0 + i * 4)).take 4 = p.enc := hqq
   rw [this]; rfl
  rw [List.getElem?_take, if_pos (by omega), List.getElem?_drop] at h0
  exact h0
 obtain ⟨b2', o2', cl', e2', hb2, hcl, hq2⟩ := lt1.rl.at_ hv
 cases e2'
 have q2 := cell_of hq2
 rw [show i * intE.z = i * 1 from rfl, Nat.mul_one, Nat.zero_add] at q2
 rw [Nat.zero_add] at q1
 have w1 : w64 (p.s - v) = p.s - v := w64_of (by omega)
 have w2 : w64 (p.s - v + 1) = cnt := by rw [hcnt]; exact w64_of (by omega)
 have h00 : decide ((0 : Int) = 0) = true := rfl
 have h10 : decide ((1 : Int) = 0) = false := rfl
 have h11 : decide ((1 : Int) = 1) = true := rfl
 have h0n : decide ((0 : Int) < 0) = false := rfl
 have d2 : decide (p.s - v < 0) = false := by simp; omega
 have key : ∀ (N : Nat) (e' : VT) (er nv : Int), Keep 214 [5, 6, 7, 8, 9, 12, 36, 37, 77] e e' → gt 214 e' 15 = .slice (some ⟨b4, 0, none⟩) l.length c4 → gt 214 e' 18 = .int .i64 (i : Nat) → gt 214 e' 19 = .int .i64 nv → gt 214 e' 20 = .int .i64 er → gt 214 e' 154 = .int .i64 cnt → gt 214 e' 155 = .int .i64 0 → ((sp = -1 ∧ er = 1 ∧ nv = 0) ∨ (0 ≤ sp ∧ er = 0 ∧ nv = sp)) → W tabA Try.prog (N + 1400) none TL L ⟨214, e', H1, []⟩ (endK 214 [] fun e'' H'' => LS H H'' 214 kq aq bq cq i5 b1 c1 b2 c2 b3 c3 ps gs rs lots e'' ∧ Keep 214 [8, 9, 12, 36, 37, 77] e e'') := fun N e' er nv he k15 k18 k19 k20 k154 k155 hn => by
  rw [← hTL0]
  refine W_end (c10M (N := N) (cnt := cnt) (sp := sp) (by omega) lt1 ((he 5 (by decide)).trans g5) l51 b51 k15 k18 ((he 9 (by decide)).trans g9) k19 k20 k154 k155 hp hv hg hcnt hsp hn) ?_
  rintro e'' H'' ⟨kp, fr⟩
  exact ⟨rfl, rfl, I1.fr fr (fun j hj => (kp j (by revert hj; simp; omega)).trans (he j (by revert hj; simp; omega))), fun j hj => (kp j (by revert hj; simp; omega)).trans (he j (by revert hj; simp; omega))⟩
 cases hD : decide (sp = -1)
 ·rw [hD, cond_false] at h53
  have hD' := of_decide_eq_false hD
  have d1 : decide (sp < 0) = false := by simp; omega
  have d3 : decide (p.s - v < sp) = false := by simp; omega
  simp (disch:=first|(simp only [yk,seval];done)|omega|(simp only [yz]<;>omega)|fail) only [↓yp,yq0,yq1,yq2,yq3,yq4,yl,ys0,ys1,seval,fitB,newC,endD,endR,yrg,g5,b51,g15,g9,h53]
  refine W_draw [] rfl (by kernel_rfl) (by kernel_rfl) (by omega) ?_
  simp (disch:=first|(simp only [yk,seval];done)|omega|(simp only [yz]<;>omega)|fail) only [↓yp,yq0,yq1,yq2,yq3,yq4,yl,ys0,ys1,seval,fitB,newC,endD,endR,yrg,g5,b51,g15,A_indexSlice st_esS_22,A_indexSlice st_esS_49,hcc,hcl,q1,q2,w1,h00,d1,d3]
  refine W_draw [] rfl (by kernel_rfl) (by kernel_rfl) (by omega) ?_
  simp (disch:=first|(simp only [yk,seval];done)|omega|(simp only [yz]<;>omega)|fail) only [↓yp,yq0,yq1,yq2,yq3,yq4,yl,ys0,ys1,seval,fitB,newC,endD,endR,yrg,g5,b51,g15,A_indexSlice st_esS_22,A_indexSlice st_esS_49,hcc,hcl,q1,q2,w1,w2]
  refine key _ _ 0 sp (by (with_reducible repeat first|refine Keep.put ?_ (by decide)|refine Keep.none ?_|assumption|exact Keep.refl _ _ _)) ?_ ?_ ?_ ?_ ?_ ?_ (.inr ⟨by omega, rfl, rfl⟩)
  ·simp (disch:=first|(simp only [yk,seval];done)|omega|(simp only [yz]<;>omega)|fail) only [yg,seval,g15]
  ·simp (disch:=first|(simp only [yk,seval];done)|omega|(simp only [yz]<;>omega)|fail) only [yg,seval]
  ·simp (disch:=first|(simp only [yk,seval];done)|omega|(simp only [yz]<;>omega)|fail) only [yg,seval]
  ·simp (disch:=first|(simp only [yk,seval];done)|omega|(simp only [yz]<;>omega)|fail) only [yg,seval]
  ·simp (disch:=first|(simp only [yk,seval];done)|omega|(simp only [yz]<;>omega)|fail) only [yg,seval]
  ·simp (disch:=first|(simp only [yk,seval];done)|omega|(simp only [yz]<;>omega)|fail) only [yg,seval]
 ·rw [hD, cond_true] at h53
  have hD' := of_decide_eq_true hD
  simp (disch:=first|(simp only [yk,seval];done)|omega|(simp only [yz]<;>omega)|fail) only [↓yp,yq0,yq1,yq2,yq3,yq4,yl,ys0,ys1,seval,fitB,newC,endD,endR,yrg,g5,b51,g15,g9,h53]
  refine W_draw [] rfl (by kernel_rfl) (by kernel_rfl) (by omega) ?_
  simp (disch:=first|(simp only [yk,seval];done)|omega|(simp only [yz]<;>omega)|fail) only [↓yp,yq0,yq1,yq2,yq3,yq4,yl,ys0,ys1,seval,fitB,newC,endD,endR,yrg,g5,b51,g15,A_indexSlice st_esS_22,A_indexSlice st_esS_49,hcc,hcl,q1,q2,w1,h00,h10,h11,h0n,d2]
  refine W_draw [] rfl (by kernel_rfl) (by kernel_rfl) (by omega) ?_
  simp (disch:=first|(simp only [yk,seval];done)|omega|(simp only [yz]<;>omega)|fail) only [↓yp,yq0,yq1,yq2,yq3,yq4,yl,ys0,ys1,seval,fitB,newC,endD,endR,yrg,g5,b51,g15,A_indexSlice st_esS_22,A_indexSlice st_esS_49,hcc,hcl,q1,q2,w1,w2]
  refine key _ _ 1 0 (by (with_reducible repeat first|refine Keep.put ?_ (by decide)|refine Keep.none ?_|assumption|exact Keep.refl _ _ _)) ?_ ?_ ?_ ?_ ?_ ?_ (.inl ⟨hD', rfl, rfl⟩)
  ·simp (disch:=first|(simp only [yk,seval];done)|omega|(simp only [yz]<;>omega)|fail) only [yg,seval,g15]
  ·simp (disch:=first|(simp only [yk,seval];done)|omega|(simp only [yz]<;>omega)|fail) only [yg,seval]
  ·simp (disch:=first|(simp only [yk,seval];done)|omega|(simp only [yz]<;>omega)|fail) only [yg,seval]
  ·simp (disch:=first|(simp only [yk,seval];done)|omega|(simp only [yz]<;>omega)|fail) only [yg,seval]
  ·simp (disch:=first|(simp only [yk,seval];done)|omega|(simp only [yz]<;>omega)|fail) only [yg,seval]
  ·simp (disch:=first|(simp only [yk,seval];done)|omega|(simp only [yz]<;>omega)|fail) only [yg,seval]
set_option maxHeartbeats 8000000 in
set_option maxRecDepth 10000 in
theorem c10Z (hL : L ≤ H.size) (I : LS H H' 214 kq aq bq cq i5 b1 c1 b2 c2 b3 c3 ps gs rs lots e) (hst : StOk ps gs lots) (g9 : gt 214 e 9 = .int .i64 (k : Nat)) (g12 : gt 214 e 12 = .int .i64 size) (hg : gs[k]? = some g) (hsz : ∀ x, LotOk ps x → hasM ps g x = true → isum x ≤ size) :
  W tabA Try.prog (N + 2600) none (sub ([true, true, true, true, false, true, false, false, true, true, false, false, true, true, true, true, true, true, true] ++ [false, false, true, true, false, false]) (bodyOf Try.f10)) L ⟨214, e, H', []⟩ (endK 214 [] fun e' H'' => LS H H'' 214 kq aq bq cq i5 b1 c1 b2 c2 b3 c3 ps gs rs lots e' ∧ Keep 214 [8, 9, 12, 36, 37, 77] e e') := by
 have ilt := I.lt
 have g5 := I.g5
 have b5 := I.b5
 have g7 := I.g7
 have hk := I.hk
 have kl := I.chu.lt
 have h4 := hst.l4
 have hpk := fun p hp => Pk.isB_ok (List.all_eq_true.1 hst.pb p hp)
 obtain ⟨TL, hTL⟩ : ∃ c, sub ([true, true, true, true, false, true, false, false, true, true, false, false, true, true, true, true, true, true, true] ++ [false, false, true, true, false, false, true, true, true]) (bodyOf Try.f10) = c := ⟨_, rfl⟩
 have hTL0 := hTL
 simp only [Try.f10,bodyOf,List.cons_append,List.nil_append,sub_nil,sub_seq0,sub_seq1,sub_block,sub_loop,sub_cond0,sub_cond1] at hTL ⊢
 rw [hTL]
 clear hTL
 simp (disch:=first|(simp only [yk,seval];done)|omega|(simp only [yz]<;>omega)|fail) only [↓yp,yq0,yq1,yq2,yq3,yq4,yl,ys0,ys1,seval,fitB,newC,endD,endR,yrg,g5,b5,g7]
 refine c35 I.chu I.r1 hst.l1 hst.l4 (fun p hp => (hpk p hp).s) (by omega) (by omega) ?_
 intro b4 c4 l H1 lok r4 hc1 hx1
 have sz1 := hx1.size
 have I1 := I.next hc1 hx1 (Keep.refl _ _ _)
 have lt1 : LtR H1 (some ⟨b1, 0, none⟩) (some ⟨b2, 0, none⟩) (some ⟨b4, 0, none⟩) ps gs lots l := ⟨I1.str, r4.rw, lok⟩
 have hsum := lt1.sum
 have hl4 := lt1.l4
 have b51 := I1.b5
 have kl1 := I1.chu.lt
 have h36 := fun (N : Nat) => c36 (N := N) (cap := c4) lt1.rl (by omega) fun x hx => by have := lt1.lo.in lt1.st.pk x hx; omega
 have h38 := fun (N : Nat) => c38 (N := N) (cap := c1) (cap' := c2) (cl := c4) lt1
 have hkv : hasM ps g l = (decide (0 ≤ sureV ps gs l) && decide (sureV ps gs l ≤ (k : Int))) := keepV hst.od lt1.st.gd hsum.1 hg
 obtain ⟨sv, hsv⟩ : ∃ sv, sureV ps gs l = sv := ⟨_, rfl⟩
 rw [hsv] at h38 hkv
 have h00 : decide ((0 : Int) = 0) = true := rfl
 have key : ∀ (N : Nat) (e' : VT), Keep 214 [5, 6, 7, 8, 9, 12, 36, 37, 77] e e' → gt 214 e' 15 = .slice (some ⟨b4, 0, none⟩) l.length c4 → W tabA Try.prog (N + 2000) none TL L ⟨214, e', H1, []⟩ (endK 214 [] fun e'' H'' => LS H H'' 214 kq aq bq cq i5 b1 c1 b2 c2 b3 c3 ps gs rs lots e'' ∧ Keep 214 [8, 9, 12, 36, 37, 77] e e'') := fun N e' he k15 => by
  rw [← hTL0]
  refine W_end (c10Y (N := N) hL (I1.fr (Fr.refl _) (fun j hj => he j (by revert hj; simp; omega))) hst r4 lok k15 ((he 9 (by decide)).trans g9) hg) ?_
  rintro e'' H'' ⟨I'', kp⟩
  exact ⟨rfl, rfl, I'', fun j hj => (kp j hj).trans (he j (by revert hj; simp; omega))⟩
 cases h1 : decide (0 ≤ sv)
 ·simp (disch:=first|(simp only [yk,seval];done)|omega|(simp only [yz]<;>omega)|fail) only [↓yp,yq0,yq1,yq2,yq3,yq4,yl,ys0,ys1,seval,fitB,newC,endD,endR,yrg,g5,b51,h38,h00,h1]
  refine key _ _ (by (with_reducible repeat first|refine Keep.put ?_ (by decide)|refine Keep.none ?_|assumption|exact Keep.refl _ _ _)) ?_
  simp (disch:=first|(simp only [yk,seval];done)|omega|(simp only [yz]<;>omega)|fail) only [yg,seval]
 ·cases h2 : decide (sv ≤ (k : Int))
  ·simp (disch:=first|(simp only [yk,seval];done)|omega|(simp only [yz]<;>omega)|fail) only [↓yp,yq0,yq1,yq2,yq3,yq4,yl,ys0,ys1,seval,fitB,newC,endD,endR,yrg,g5,b51,g9,h38,h00,h1,h2]
   refine key _ _ (by (with_reducible repeat first|refine Keep.put ?_ (by decide)|refine Keep.none ?_|assumption|exact Keep.refl _ _ _)) ?_
   simp (disch:=first|(simp only [yk,seval];done)|omega|(simp only [yz]<;>omega)|fail) only [yg,seval]
  ·rw [h1, h2, Bool.true_and] at hkv
   have h3 := hsz l lok hkv
   have d3 : decide (size < isum l) = false := by simp; omega
   simp (disch:=first|(simp only [yk,seval];done)|omega|(simp only [yz]<;>omega)|fail) only [↓yp,yq0,yq1,yq2,yq3,yq4,yl,ys0,ys1,seval,fitB,newC,endD,endR,yrg,g5,b51,g9,g12,h38,h36,h00,h1,h2,d3]
   refine key _ _ (by (with_reducible repeat first|refine Keep.put ?_ (by decide)|refine Keep.none ?_|assumption|exact Keep.refl _ _ _)) ?_
   simp (disch:=first|(simp only [yk,seval];done)|omega|(simp only [yz]<;>omega)|fail) only [yg,seval]
end
end Go.Am.K
