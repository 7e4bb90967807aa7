import Derived.Test.YtjpcaamfcfkmhaaT51
set_option linter.unusedSimpArgs false
set_option linter.unusedVariables false
namespace Go.Am.K
open Go.Proofs
variable {T : Tab} {P : Program} {N L : Nat} {H H' H'' : AHeap} {Q : Bool → Value → AHeap → Prop}
section
variable {a a2 : Option Addr} {cap cap2 : Nat} {bs bs2 : List Int}
set_option maxHeartbeats 8000000 in
set_option maxRecDepth 10000 in
theorem c5 (hb : Bts H a bs) (hb2 : Bts H a2 bs2) :
  acall tabA (aexec tabA Try.prog (N + 8000)) 5 [.slice a bs.length cap, .slice a2 bs2.length cap2] H = some (true, .bool true, H, H.size) := by
 refine call_quiet (k := 268) (rs := [.tmp 4]) rfl fn_5 rfl rfl rfl ?_ rfl
 simp (disch:=first|(simp only [yk,seval];done)|omega|(simp only [yz]<;>omega)|fail) only [↓yp,yq0,yq1,yq2,yq3,yq4,yl,ys0,ys1,seval,fitB,newC,endD,endR,yrg]
 refine c34 hb (Nat.le_refl _) (by omega) ?_
 intro H1 fr1 hs1 hc1
 simp (disch:=first|(simp only [yk,seval];done)|omega|(simp only [yz]<;>omega)|fail) only [↓yp,yq0,yq1,yq2,yq3,yq4,yl,ys0,ys1,seval,fitB,newC,endD,endR,yrg]
 refine c33 hc1 (by omega) (by omega) (Nat.le_refl _) (by omega) ?_
 intro b1 c1 b2 c2 b3 c3 ps gs rs lots H2 mk r1 r2 r3 hc2 hx2
 have sz2 := hx2.size
 simp (disch:=first|(simp only [yk,seval];done)|omega|(simp only [yz]<;>omega)|fail) only [↓yp,yq0,yq1,yq2,yq3,yq4,yl,ys0,ys1,seval,fitB,newC,endD,endR,yrg]
 have fr2 : Fr H H2 := hx2.above fr1 (by omega)
 have hok := mk.chk (by omega) (by omega)
 have hst := chkS_ok hok
 have frm : Fr H2 ((H2.alloc (.rw [.slice none 0 0, .slice none 0 0, .int .i64 0] 25 false [])).put H2.size (.rw [.slice (some ⟨b1, 0, none⟩) ps.length c1, .slice (some ⟨b2, 0, none⟩) gs.length c2, .int .i64 lots] 25 false [])) := by (repeat (first | exact Fr.refl _ | assumption | refine Fr.allocd ?_ _ | refine Fr.put ?_ (by first | omega | (simp only [yz] <;> omega)) _))
 refine c34 (hb2.fr (Fr.trans fr2 frm)) (by first|omega|(simp only [yz]<;>omega)) (by omega) ?_
 intro H3 fr3 hs3 hc3
 simp only [size_put,size_alloc] at hs3 hc3
 have s3 := fr3.same
 simp only [size_put,size_alloc] at s3
 have b53 : H3.get H2.size = .rw [.slice (some ⟨b1, 0, none⟩) ps.length c1, .slice (some ⟨b2, 0, none⟩) gs.length c2, .int .i64 lots] 25 false [] := by
  rw [s3 _ (by omega)]; exact get_put_same (by first|omega|(simp only [yz]<;>omega))
 have fr23 : Fr H2 H3 := frm.trans fr3
 have bl1 : b1 < H2.size := by
  obtain ⟨b, o, c, e1, l1, -⟩ := r1.rw.get (by rintro rfl; have := mk.l1; simp at this)
  cases e1; exact l1
 have bl2 : b2 < H2.size := by
  obtain ⟨b, o, c, e1, l1, -⟩ := r2.rw.get (by rintro rfl; have := mk.g1; simp at this)
  cases e1; exact l1
 have bl3 : b3 < H2.size := by
  obtain ⟨b, o, c, e1, l1, -⟩ := r3.rw.get (by rintro rfl; have := mk.l1; have := mk.lr; simp at this; omega)
  cases e1; exact l1
 have h16 := fun (N : Nat) => c16 (N := N) (cap := c1) (cap' := c2) (lots := lots) (r1.rw.fr fr23) (r2.rw.fr fr23)
 rw [hok] at h16
 simp (disch:=first|(simp only [yk,seval];done)|omega|(simp only [yz]<;>omega)|fail) only [↓yp,yq0,yq1,yq2,yq3,yq4,yl,ys0,ys1,seval,fitB,newC,endD,endR,yrg,b53,h16]
 refine W_while (n := 268) 5000 (fun q e' H' => ∃ i : Nat, q = 5 - i ∧ i ≤ 5 ∧ LS H H' 268 (H2.size + 1) a2 bs2 cap2 H2.size b1 c1 b2 c2 b3 c3 ps gs rs lots e' ∧ gt 268 e' 47 = .int .i64 (i : Nat))
  ?_ 5 5 ⟨0, by omega, by omega, ⟨⟨r1.rw.fr fr23, fun _ b o s e => by cases e; omega⟩, ⟨r2.rw.fr fr23, fun _ b o s e => by cases e; omega⟩, ⟨r3.rw.fr fr23, fun _ b o s e => by cases e; omega⟩, hok, ?_, by omega, by omega, b53, ?_, ?_, hc3, by omega⟩, ?_⟩ (by omega) (by omega)
 rotate_left
 ·simp (disch:=first|(simp only [yk,seval];done)|omega|(simp only [yz]<;>omega)|fail) only [yg,seval]
 ·simp (disch:=first|(simp only [yk,seval];done)|omega|(simp only [yz]<;>omega)|fail) only [yg,seval]
 ·simp (disch:=first|(simp only [yk,seval];done)|omega|(simp only [yz]<;>omega)|fail) only [yg,seval]
 ·simp (disch:=first|(simp only [yk,seval];done)|omega|(simp only [yz]<;>omega)|fail) only [yg,seval] <;> rfl
 have hH2 : H.size ≤ H2.size := fr2.size
 clear h16 bl3 bl2 bl1 fr23 b53 s3 hc3 hs3 fr3 frm fr2 sz2 hx2 hc2 r3 r2 r1 hc1 hs1 fr1 H3 H1 hb hb2
 generalize H2.size + 1 = kq
 generalize H2.size = i5 at *
 have hpk := fun p hp => Pk.isB_ok (List.all_eq_true.1 hst.pb p hp)
 rintro M1 q e H' ⟨i, rfl, hi, I, g47⟩
 have ilt := I.lt
 have hi5 : decide ((i : Int) < 5) = decide (i < 5) := by rw [decide_eq_decide]; omega
 simp (disch:=first|(simp only [yk,seval];done)|omega|(simp only [yz]<;>omega)|fail) only [↓yp,yq0,yq1,yq2,yq3,yq4,yl,ys0,ys1,seval,fitB,newC,endD,endR,yrg,g47]
 refine ⟨fun hA => ?_, fun hA => ?_⟩
 ·have hlt : (i : Int) < 5 := of_decide_eq_true hA
  have hw2 : w64 ((i : Int) + 1) = ((i + 1 : Nat) : Int) := by rw [w64_of (by omega)]; omega
  have g5 := I.g5
  have b5 := I.b5
  have l5 := I.l5
  have n5 := I.n5
  have g7 := I.g7
  have hk := I.hk
  simp (disch:=first|(simp only [yk,seval];done)|omega|(simp only [yz]<;>omega)|fail) only [↓yp,yq0,yq1,yq2,yq3,yq4,yl,ys0,ys1,seval,fitB,newC,endD,endR,yrg,g5,b5,g7]
  refine c35 I.chu I.r1 hst.l1 hst.l4 (fun p hp => (hpk p hp).s) (by omega) (by omega) ?_
  intro b4 c4 l H1 lok r4 hc1 hx1
  have sz1 := hx1.size
  have I1 := I.next hc1 hx1 (Keep.refl _ _ _)
  have lt1 : LtR H1 (some ⟨b1, 0, none⟩) (some ⟨b2, 0, none⟩) (some ⟨b4, 0, none⟩) ps gs lots l := ⟨I1.str, r4.rw, lok⟩
  have hsum := lt1.sum
  have hl4 := lt1.l4
  have b51 := I1.b5
  have kl := I1.chu.lt
  have h36 := fun (N : Nat) => c36 (N := N) (cap := c4) lt1.rl (by omega) fun x hx => by have := lt1.lo.in lt1.st.pk x hx; omega
  have h37 := fun (N : Nat) => c37 (N := N) (cap := c1) (cap' := c2) (cl := c4) lt1
  obtain ⟨lo, hlo⟩ : ∃ lo, isum (fo true ps l) = lo := ⟨_, rfl⟩
  obtain ⟨hi, hhi⟩ : ∃ hi, isum (fo false ps l) = hi := ⟨_, rfl⟩
  have hhr := lt1.fo (s := false)
  rw [hhi] at hhr
  rw [hlo, hhi] at h37
  have fra : Fr H1 ((H1.alloc (.rw [.int .i64 0, .int .i64 0] 38 false [])).put H1.size (.rw [.int .i64 lo, .int .i64 hi] 38 false [])) := by (repeat (first | exact Fr.refl _ | assumption | refine Fr.allocd ?_ _ | refine Fr.put ?_ (by first | omega | (simp only [yz] <;> omega)) _))
  have lt2 := lt1.fr fra
  have h38 := fun (N : Nat) => c38 (N := N) (cap := c1) (cap' := c2) (cl := c4) lt2
  have h39 := fun (N : Nat) => c39 (N := N) (cap := c1) (cap' := c2) (cl := c4) lt2
  simp (disch:=first|(simp only [yk,seval];done)|omega|(simp only [yz]<;>omega)|fail) only [↓yp,yq0,yq1,yq2,yq3,yq4,yl,ys0,ys1,seval,fitB,newC,endD,endR,yrg,g5,b51,h36,h37,h38,h39]
  refine c40 (cap := c1) (cap' := c2) (cl := c4) lt2 (by first|omega|(simp only [yz]<;>omega)) (by omega) ?_
  intro b5' c5' b6 c6 H4 fr4 r5 r6
  have f4 := fr4.size
  have s4 := fr4.same
  simp only [size_put,size_alloc] at f4 s4
  have lt4 := lt2.fr fr4
  have hfl := fo_len (s := false) (ps := ps) (m := l) (by rw [lok.len]; exact Nat.le_refl _)
  have h41 := fun (N : Nat) => c41 (N := N) (cap := c1) (cap' := c2) (cl := c4) (cf := c5') (ci := c6) (fl := ps.map Pk.hi) (il := fo false ps l) lt4 r5 r6 (tru_bad lok hpk hst.sp)
  rw [List.length_map, hfl] at h41
  obtain ⟨sv, hsv⟩ : ∃ sv, sureV ps gs l = sv := ⟨_, rfl⟩
  obtain ⟨bv, hbv⟩ : ∃ bv, brgV ps gs l = bv := ⟨_, rfl⟩
  rw [hsv, hbv]
  have b54 : H4.get i5 = .rw [.slice (some ⟨b1, 0, none⟩) ps.length c1, .slice (some ⟨b2, 0, none⟩) gs.length c2, .int .i64 lots] 25 false [] := by
   rw [s4 _ (by omega), get_put_ne (by omega), get_alloc_lt (by omega)]; exact b51
  have fr14 : Fr H1 H4 := fra.trans fr4
  simp (disch:=first|(simp only [yk,seval];done)|omega|(simp only [yz]<;>omega)|fail) only [↓yp,yq0,yq1,yq2,yq3,yq4,yl,ys0,ys1,seval,fitB,newC,endD,endR,yrg,g5,b54,h41]
  refine W_gen (fun e' H' => LS H H' 268 kq a2 bs2 cap2 i5 b1 c1 b2 c2 b3 c3 ps gs rs lots e' ∧ LL H' 268 kq b4 c4 H1.size ps l lo hi sv e' ∧ gt 268 e' 47 = .int .i64 (i : Nat) ∧ Rw intE H' (some ⟨b6, 0, none⟩) (fo false ps l) ∧ gt 268 e' 17 = .slice (some ⟨b6, 0, none⟩) ps.length c6 ∧ gt 268 e' 14 = .int .i64 bv ∧ gt 268 e' 11 = .int .i64 0 ∧ gt 268 e' 13 = .int .i64 0 ∧ gt 268 e' 15 = .int .i64 0 ∧ gt 268 e' 18 = .int .i64 0 ∧ gt 268 e' 20 = .int .i64 0 ∧ gt 268 e' 19 = .bool true) ⟨I1.fr fr14 (by (with_reducible repeat first|refine Keep.put ?_ (by decide)|refine Keep.none ?_|assumption|exact Keep.refl _ _ _)), ⟨r4.fr fr14, lok, ?_, ?_, ?_, by omega, by omega, ?_, ?_⟩, ?_, r6, ?_, ?_, ?_, ?_, ?_, ?_, ?_, ?_⟩ ?_
  ·simp (disch:=first|(simp only [yk,seval];done)|omega|(simp only [yz]<;>omega)|fail) only [yg,seval]
  ·simp (disch:=first|(simp only [yk,seval];done)|omega|(simp only [yz]<;>omega)|fail) only [yg,seval]
  ·simp (disch:=first|(simp only [yk,seval];done)|omega|(simp only [yz]<;>omega)|fail) only [yg,seval]
  ·rw [s4 _ (by omega)]; exact get_put_same (by first|omega|(simp only [yz]<;>omega))
  ·simp (disch:=first|(simp only [yk,seval];done)|omega|(simp only [yz]<;>omega)|fail) only [yg,seval]
  ·simp (disch:=first|(simp only [yk,seval];done)|omega|(simp only [yz]<;>omega)|fail) only [yg,seval,g47]
  ·simp (disch:=first|(simp only [yk,seval];done)|omega|(simp only [yz]<;>omega)|fail) only [yg,seval]
  ·simp (disch:=first|(simp only [yk,seval];done)|omega|(simp only [yz]<;>omega)|fail) only [yg,seval]
  ·simp (disch:=first|(simp only [yk,seval];done)|omega|(simp only [yz]<;>omega)|fail) only [yg,seval]
  ·simp (disch:=first|(simp only [yk,seval];done)|omega|(simp only [yz]<;>omega)|fail) only [yg,seval]
  ·simp (disch:=first|(simp only [yk,seval];done)|omega|(simp only [yz]<;>omega)|fail) only [yg,seval]
  ·simp (disch:=first|(simp only [yk,seval];done)|omega|(simp only [yz]<;>omega)|fail) only [yg,seval]
  ·simp (disch:=first|(simp only [yk,seval];done)|omega|(simp only [yz]<;>omega)|fail) only [yg,seval]
  ·simp (disch:=first|(simp only [yk,seval];done)|omega|(simp only [yz]<;>omega)|fail) only [yg,seval]
  have hgd := I1.str.gd
  clear h41 fr14 b54 lt4 s4 f4 r6 r5 fr4 h39 h38 lt2 fra h37 h36 b51 lt1 I1 sz1 hx1 hc1 r4 g7 n5 l5 b5 g5 ilt I g47 kl hk
  generalize H1.size = i10 at *
  clear H1 H4
  rintro e H' ⟨I, J, g47, r6, g17, g14, g11, g13, g15, g18, g20, g19⟩
  have ilt := I.lt
  have g5 := I.g5
  have b5 := I.b5
  have g9 := J.g9
  have g10 := J.g10
  have b10 := J.b10
  have g12 := J.g12
  have h36 := fun (N : Nat) => c36 (N := N) (cap := c6) r6 (by rw [hfl]; have := hst.l4; omega) fun x hx => by have := fo_le6 hpk lok x hx; omega
  rw [hfl, hhi] at h36
  have hsvi := sureV_in (ps := ps) (gs := gs) (l := l)
  rw [hsv] at hsvi
  have d1 : decide (sv < -1) = false := by simp; omega
  have d2 : decide ((gs.length : Int) ≤ sv) = false := by simp; omega
  have hg4 := hst.g4
  -- what is asked up to the grades
  have tail := fun (N : Nat) (e' : VT) (he : Keep 268 [5, 6, 7, 8, 9, 10, 12, 47] e e') => c5D (N := N) (L := H.size) (g47 := i) (Nat.le_refl _) mk (I.fr (Fr.refl _) (fun j hj => he j (by revert hj; simp; omega))) (J.next (FrX.refl _ _) (fun j hj => he j (by revert hj; simp; omega))) hlo.symm hhi.symm hsv.symm ((he 47 (by decide)).trans g47)
  obtain ⟨TL, hTL⟩ : ∃ c, sub [true, true, true, true, false, true, false, false, true, true, false, false, true, true, true, true, true, true, true, true, true, true, true] (bodyOf Try.f5) = c := ⟨_, rfl⟩
  rw [hTL] at tail
  simp only [Try.f5,bodyOf,sub_nil,sub_seq0,sub_seq1,sub_block,sub_loop,sub_cond0,sub_cond1] at hTL
  rw [hTL]
  clear hTL
  refine W_draw [] rfl (by kernel_rfl) (by kernel_rfl) (by omega) ?_
  rcases brg_want (ps := ps) (gs := gs) (l := l) with ⟨k1, k2⟩ | ⟨ig, x, k1, k2, k3, k4⟩
  ·rw [hsv] at k1
   rw [hbv] at k2
   rw [k1] at g12 d1 d2
   rw [k2] at g14
   cases hZ : decide (isum l = 0)
   ·simp (disch:=first|(simp only [yk,seval];done)|omega|(simp only [yz]<;>omega)|fail) only [↓yp,yq0,yq1,yq2,yq3,yq4,yl,ys0,ys1,seval,fitB,newC,endD,endR,yrg,g5,b5,g9,g10,b10,g11,g12,g13,g14,g15,g17,g18,g19,g20,h36,d1,d2,hZ,lenV_slice st_esS_23]
    refine W_end (tail _ _ (by (with_reducible repeat first|refine Keep.put ?_ (by decide)|refine Keep.none ?_|assumption|exact Keep.refl _ _ _))) ?_
    rintro e' H'' ⟨I', k47⟩
    have ilt' := I'.lt
    simp (disch:=first|(simp only [yk,seval];done)|omega|(simp only [yz]<;>omega)|fail) only [↓yp,yq0,yq1,yq2,yq3,yq4,yl,ys0,ys1,seval,fitB,newC,endD,endR,yrg,k47,hw2]
    refine ⟨5 - (i + 1), by omega, i + 1, rfl, by omega, I'.fr (Fr.refl _) (by (with_reducible repeat first|refine Keep.put ?_ (by decide)|refine Keep.none ?_|assumption|exact Keep.refl _ _ _)), ?_⟩
    simp (disch:=first|(simp only [yk,seval];done)|omega|(simp only [yz]<;>omega)|fail) only [yg,seval]
   ·simp (disch:=first|(simp only [yk,seval];done)|omega|(simp only [yz]<;>omega)|fail) only [↓yp,yq0,yq1,yq2,yq3,yq4,yl,ys0,ys1,seval,fitB,newC,endD,endR,yrg,g5,b5,g9,g10,b10,g11,g12,g13,g14,g15,g17,g18,g19,g20,h36,d1,d2,hZ,lenV_slice st_esS_23]
    refine W_end (tail _ _ (by (with_reducible repeat first|refine Keep.put ?_ (by decide)|refine Keep.none ?_|assumption|exact Keep.refl _ _ _))) ?_
    rintro e' H'' ⟨I', k47⟩
    have ilt' := I'.lt
    simp (disch:=first|(simp only [yk,seval];done)|omega|(simp only [yz]<;>omega)|fail) only [↓yp,yq0,yq1,yq2,yq3,yq4,yl,ys0,ys1,seval,fitB,newC,endD,endR,yrg,k47,hw2]
    refine ⟨5 - (i + 1), by omega, i + 1, rfl, by omega, I'.fr (Fr.refl _) (by (with_reducible repeat first|refine Keep.put ?_ (by decide)|refine Keep.none ?_|assumption|exact Keep.refl _ _ _)), ?_⟩
    simp (disch:=first|(simp only [yk,seval];done)|omega|(simp only [yz]<;>omega)|fail) only [yg,seval]
  ·rw [hsv] at k1
   rw [hbv] at k3
   rw [k1] at g12 d1 d2
   rw [k3] at g14
   obtain ⟨bg, og, cg, eg, lg, hcg, hqg⟩ := I.r2.rw.at_ k2
   cases eg
   obtain ⟨x0, x1⟩ := two_cells (u := .int .i64 x.fo) (v := .int .i64 x.pr) hqg
   rw [show gdE.z = 2 from rfl, Nat.zero_add] at x1
   have hkl := (List.getElem?_eq_some_iff.1 k2).1
   have hgo := hgd x (List.mem_of_getElem? k2)
   have hm : 0 ≤ isum l * x.pr ∧ isum l * x.pr ≤ 2400 := ⟨Int.mul_nonneg hsum.1 hgo.p.1, by have := Int.mul_le_mul hsum.2 hgo.p.2 hgo.p.1 (by omega : (0:Int) ≤ 24); omega⟩
   have w2 : w64 (isum l * x.pr) = isum l * x.pr := w64_of (by omega)
   have d3 : decide (0 ≤ (ig : Int)) = true := by simp
   have hZ : decide (isum l = 0) = false := by simp; omega
   have hee : decide (isum l * x.pr = isum l * x.pr) = true := by simp
   simp (disch:=first|(simp only [yk,seval];done)|omega|(simp only [yz]<;>omega)|fail) only [↓yp,yq0,yq1,yq2,yq3,yq4,yl,ys0,ys1,seval,fitB,newC,endD,endR,yrg,g5,b5,g9,g10,b10,g11,g12,g13,g14,g15,g17,g18,g19,g20,h36,d1,d2,d3,hZ,lenV_slice st_esS_23,A_indexSlice st_esS_23,hcg,x1,w2,hee]
   refine W_end (tail _ _ (by (with_reducible repeat first|refine Keep.put ?_ (by decide)|refine Keep.none ?_|assumption|exact Keep.refl _ _ _))) ?_
   rintro e' H'' ⟨I', k47⟩
   have ilt' := I'.lt
   simp (disch:=first|(simp only [yk,seval];done)|omega|(simp only [yz]<;>omega)|fail) only [↓yp,yq0,yq1,yq2,yq3,yq4,yl,ys0,ys1,seval,fitB,newC,endD,endR,yrg,k47,hw2]
   refine ⟨5 - (i + 1), by omega, i + 1, rfl, by omega, I'.fr (Fr.refl _) (by (with_reducible repeat first|refine Keep.put ?_ (by decide)|refine Keep.none ?_|assumption|exact Keep.refl _ _ _)), ?_⟩
   simp (disch:=first|(simp only [yk,seval];done)|omega|(simp only [yz]<;>omega)|fail) only [yg,seval]
 ·have haw := fun (N : Nat) (H : AHeap) => awake_known (ex := aexec tabA Try.prog N) (H := H)
  simp (disch:=first|(simp only [yk,seval];done)|omega|(simp only [yz]<;>omega)|fail) only [↓yp,yq0,yq1,yq2,yq3,yq4,yl,ys0,ys1,seval,fitB,newC,endD,endR,yrg,haw]
end
end Go.Am.K
