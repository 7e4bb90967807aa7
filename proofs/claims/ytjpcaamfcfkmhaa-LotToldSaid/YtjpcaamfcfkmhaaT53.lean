import Derived.Test.YtjpcaamfcfkmhaaT52
set_option linter.unusedSimpArgs false
set_option linter.unusedVariables false
namespace Go.Am.K
open Go.Proofs
variable {T : Tab} {P : Program} {N L : Nat} {H H' H'' : AHeap} {Q : Bool → Value → AHeap → Prop}
structure LD (H H' : AHeap) (i6 b1 c1 b2 c2 b3 c3 b4 c4 i14 b16 c16 b18 c18 : Nat) (ps : List Pk) (gs : List Gd) (rs : List Int) (lots : Int) (l : List Int) (tl tl0 : List (Int × Int)) (X Y : Int) (e : VT) : Prop where
 lt : LtR H' (some ⟨b1, 0, none⟩) (some ⟨b2, 0, none⟩) (some ⟨b4, 0, none⟩) ps gs lots l
 rr : Rw intE H' (some ⟨b3, 0, none⟩) rs
 rt : Rw spE H' (some ⟨b16, 0, none⟩) tl
 r0 : Rw spE H' (some ⟨b18, 0, none⟩) tl0
 g6 : gt 259 e 6 = .pointer (some ⟨i6, 0, none⟩)
 l6 : i6 < H'.size
 b6 : H'.get i6 = .rw [.slice (some ⟨b1, 0, none⟩) ps.length c1, .slice (some ⟨b2, 0, none⟩) gs.length c2, .int .i64 lots] 25 false []
 g7 : gt 259 e 7 = .slice (some ⟨b3, 0, none⟩) rs.length c3
 g8 : gt 259 e 8 = .slice (some ⟨b4, 0, none⟩) l.length c4
 g14 : gt 259 e 14 = .pointer (some ⟨i14, 0, none⟩)
 l14 : i14 < H'.size
 b14 : H'.get i14 = .rw [.int .i64 X, .int .i64 Y] 38 false []
 g16 : gt 259 e 16 = .slice (some ⟨b16, 0, none⟩) ps.length c16
 g18 : gt 259 e 18 = .slice (some ⟨b18, 0, none⟩) ps.length c18
 fr : Fr H H'
section
variable {i6 b1 c1 b2 c2 b3 c3 b4 c4 i14 b16 c16 b18 c18 i : Nat} {ps : List Pk} {gs : List Gd} {rs l : List Int} {lots X Y : Int} {tl tl0 : List (Int × Int)} {e e' : VT}
theorem LD.next (I : LD H H' i6 b1 c1 b2 c2 b3 c3 b4 c4 i14 b16 c16 b18 c18 ps gs rs lots l tl tl0 X Y e) (f : Fr H' H'') (h : Keep 259 [6, 7, 8, 14, 16, 18] e e') : LD H H'' i6 b1 c1 b2 c2 b3 c3 b4 c4 i14 b16 c16 b18 c18 ps gs rs lots l tl tl0 X Y e' where
 lt := I.lt.fr f
 rr := I.rr.fr f
 rt := I.rt.fr f
 r0 := I.r0.fr f
 g6 := (h 6 (by decide)).trans I.g6
 l6 := Nat.lt_of_lt_of_le I.l6 f.size
 b6 := (f.same _ I.l6).trans I.b6
 g7 := (h 7 (by decide)).trans I.g7
 g8 := (h 8 (by decide)).trans I.g8
 g14 := (h 14 (by decide)).trans I.g14
 l14 := Nat.lt_of_lt_of_le I.l14 f.size
 b14 := (f.same _ I.l14).trans I.b14
 g16 := (h 16 (by decide)).trans I.g16
 g18 := (h 18 (by decide)).trans I.g18
 fr := I.fr.trans f
theorem take_set_sum {t : List Int} {i k : Nat} {x : Int} (hk : t[k]? = some x) : isum ((t.set i 0).take (k + 1)) = isum ((t.set i 0).take k) + (if i = k then 0 else x) := by
 have hlt := (List.getElem?_eq_some_iff.1 hk).1
 rw [List.take_add_one]
 by_cases e : i = k
 ·subst e
  rw [List.getElem?_set_self hlt, isum_app, if_pos rfl]; rfl
 ·rw [List.getElem?_set_ne e, hk, isum_app, if_neg e]
  show _ + (x + 0) = _
  omega
theorem part_sum {t : List Int} {m : Int} (h : ∀ x ∈ t, 0 ≤ x ∧ x ≤ m) (i k : Nat) (h4 : t.length ≤ 4) (hm : 0 ≤ m) : 0 ≤ isum ((t.set i 0).take k) ∧ isum ((t.set i 0).take k) ≤ m * 4 := by
 have h1 := isum_le (l := (t.set i 0).take k) (m := m) fun x hx => by
  rcases List.mem_or_eq_of_mem_set (List.mem_of_mem_take hx) with hx | rfl
  ·exact h x hx
  ·omega
 have h2 : ((t.set i 0).take k).length ≤ 4 := by rw [List.length_take, List.length_set]; omega
 refine ⟨h1.1, Int.le_trans h1.2 ?_⟩
 exact Int.mul_le_mul_of_nonneg_left (by omega) hm
set_option maxHeartbeats 4000000 in
theorem c9K (hL : L ≤ H.size) (I : LD H H' i6 b1 c1 b2 c2 b3 c3 b4 c4 i14 b16 c16 b18 c18 ps gs rs lots l tl tl0 X Y e) (g20 : gt 259 e 20 = .int .i64 (i : Nat)) (g25 : gt 259 e 25 = .int .i64 0) (g26 : gt 259 e 26 = .int .i64 0) (hi : i < ps.length) :
  W tabA Try.prog (N + 1000) none (sub ([true, true, true, true, true, true, true, true, true, true, true, true, false, true, false, false, true, true, false, false] ++ [true, true, true, true, true, false]) (bodyOf Try.f9)) L ⟨259, e, H', []⟩ (endK 259 [] fun e' H'' => Keep 259 [6, 7, 8, 14, 16, 18, 20, 21, 22, 24, 122, 123, 124] e e' ∧ Fr H' H'' ∧ gt 259 e' 25 = .int .i64 (oth true ps l i) ∧ gt 259 e' 26 = .int .i64 (oth false ps l i)) := by
 have hL' : L ≤ H'.size := Nat.le_trans hL I.fr.size
 have g6 := I.g6
 have b6 := I.b6
 have l6 := I.l6
 have hst := I.lt.st.st
 have hl4 := hst.l4
 have hll := I.lt.lo.len
 have f1 := fo_len (s := true) (ps := ps) (m := l) (by omega)
 have f2 := fo_len (s := false) (ps := ps) (m := l) (by omega)
 simp only [Try.f9,bodyOf,List.cons_append,List.nil_append,sub_nil,sub_seq0,sub_seq1,sub_block,sub_loop,sub_cond0,sub_cond1]
 simp (disch:=first|(simp only [yk,seval];done)|omega|(simp only [yz]<;>omega)|fail) only [↓yp,yq0,yq1,yq2,yq3,yq4,yl,ys0,ys1,seval,fitB,newC,endD,endR,yrg,g6,b6,lenV_slice st_esS_22]
 refine W_while (n := 259) 700 (fun q e' H'' => ∃ k : Nat, q = ps.length - k ∧ k ≤ ps.length ∧ Keep 259 [6, 7, 8, 14, 16, 18, 20, 21, 22, 24, 122, 123, 124] e e' ∧ Fr H' H'' ∧ gt 259 e' 176 = .int .i64 (k : Nat) ∧ gt 259 e' 175 = .int .i64 ps.length ∧ gt 259 e' 174 = .slice (some ⟨b1, 0, none⟩) ps.length c1 ∧ gt 259 e' 25 = .int .i64 (isum (((fo true ps l).set i 0).take k)) ∧ gt 259 e' 26 = .int .i64 (isum (((fo false ps l).set i 0).take k)))
  ?_ 4 ps.length ⟨0, by omega, by omega, by (with_reducible repeat first|refine Keep.put ?_ (by decide)|refine Keep.none ?_|assumption|exact Keep.refl _ _ _), Fr.refl _, ?_, ?_, ?_, ?_, ?_⟩ (by omega) (by omega)
 rotate_left
 ·simp (disch:=first|(simp only [yk,seval];done)|omega|(simp only [yz]<;>omega)|fail) only [yg,seval] <;> rfl
 ·simp (disch:=first|(simp only [yk,seval];done)|omega|(simp only [yz]<;>omega)|fail) only [yg,seval]
 ·simp (disch:=first|(simp only [yk,seval];done)|omega|(simp only [yz]<;>omega)|fail) only [yg,seval]
 ·simp (disch:=first|(simp only [yk,seval];done)|omega|(simp only [yz]<;>omega)|fail) only [yg,seval,g25] <;> rfl
 ·simp (disch:=first|(simp only [yk,seval];done)|omega|(simp only [yz]<;>omega)|fail) only [yg,seval,g26] <;> rfl
 rintro M1 q e' H2 ⟨k, rfl, hk, kp, fr, g176, g175, g174, k25, k26⟩
 have frs := fr.size
 have I2 := I.next fr (fun j hj => kp j (by revert hj; simp; omega))
 have k20 := (kp 20 (by decide)).trans g20
 have k6 := I2.g6
 have kb6 := I2.b6
 have k8 := I2.g8
 simp (disch:=first|(simp only [yk,seval];done)|omega|(simp only [yz]<;>omega)|fail) only [↓yp,yq0,yq1,yq2,yq3,yq4,yl,ys0,ys1,seval,fitB,newC,endD,endR,yrg,g176,g175]
 refine ⟨fun hA => ?_, fun hA => ?_⟩
 ·have hlt : k < ps.length := by simpa using hA
  have hll' : k < l.length := by omega
  obtain ⟨p, hp⟩ : ∃ p, ps[k]? = some p := ⟨ps[k], by simp [hlt]⟩
  obtain ⟨m, hm⟩ : ∃ m, l[k]? = some m := ⟨l[k], by simp [hll']⟩
  have hpo := I.lt.st.pk p (List.mem_of_getElem? hp)
  have hmm := I.lt.lo.ok k m p hm hp
  obtain ⟨b, o, c, eb, hb, hc, hqq⟩ := I2.lt.st.hs.at_ hp
  cases eb
  have q0 : part c (0 + k * 4) 5 = some (.agg ⟨p.enc⟩) := part_of hqq rfl
  rw [Nat.zero_add] at q0
  simp only [Pk.enc] at q0
  obtain ⟨b', o', c', eb', hb', hc', hqq'⟩ := I2.lt.rl.at_ hm
  cases eb'
  have q1 := cell_of hqq'
  rw [show k * intE.z = k * 1 from rfl, Nat.mul_one, Nat.zero_add] at q1
  have h18 := fun (N : Nat) (H'' : AHeap) (f : Fr H2 H'') => K.c18 (N := N) (cap := c1) (cap' := c2) (I2.lt.st.hs.fr f) (I2.lt.st.hg.fr f) (by omega) (askP_zero I.lt.st.ok hlt) hp hpo
  have hw2 : w64 ((k : Int) + 1) = ((k + 1 : Nat) : Int) := by rw [w64_of (by omega)]; omega
  simp (disch:=first|(simp only [yk,seval];done)|omega|(simp only [yz]<;>omega)|fail) only [↓yp,yq0,yq1,yq2,yq3,yq4,yl,ys0,ys1,seval,fitB,newC,endD,endR,yrg,g176,g174,k6,A_indexSlice st_esS_22,hc,q0]
  rw [show H2.get i6 = _ from kb6]
  simp (disch:=first|(simp only [yk,seval];done)|omega|(simp only [yz]<;>omega)|fail) only [↓yp,yq0,yq1,yq2,yq3,yq4,yl,ys0,ys1,seval,fitB,newC,endD,endR,yrg]
  rw [h18 _ _ (by repeat first|exact Fr.refl _|assumption|refine Fr.allocd ?_ _|refine Fr.put ?_ (by first|omega|(simp only [yz]<;>omega)) _)]
  have hpk : p.hi ≤ 6 ∧ 0 ≤ p.f ∧ p.f ≤ 6 := by
   obtain ⟨z1, z2, z3, z4⟩ := hpo
   unfold Pk.hi
   split <;> omega
  have hps := hpo.s
  have w1 : w64 (p.s - m) = p.s - m := w64_of (by omega)
  have w2 : w64 (p.f - (p.s - m)) = p.f - (p.s - m) := w64_of (by omega)
  have s1 := part_sum (t := fo true ps l) (m := 12) (fo_le6 I.lt.st.pk I.lt.lo) i k (by omega) (by omega)
  have s2 := part_sum (t := fo false ps l) (m := 12) (fo_le6 I.lt.st.pk I.lt.lo) i k (by omega) (by omega)
  have t1 := take_set_sum (i := i) (fo_get (s := true) hp hm)
  have t2 := take_set_sum (i := i) (fo_get (s := false) hp hm)
  have e1 : (if p.f - (p.s - m) > 0 then p.f - (p.s - m) else 0) = p.sel true m := by
   show _ = p.il m
   unfold Pk.il
   split <;> split <;> omega
  have e2 : (if p.hi < m then p.hi else m) = p.sel false m := by
   show _ = p.ih m
   unfold Pk.ih
   split <;> split <;> omega
  have z1 := sel_le (s := true) (n := m) hpo (by omega)
  have z2 := sel_le (s := false) (n := m) hpo (by omega)
  cases hE : decide ((k : Int) = (i : Int))
  ·have hE' : ¬ i = k := by have := of_decide_eq_false hE; omega
   rw [if_neg hE'] at t1 t2
   have w3 : w64 (isum (((fo true ps l).set i 0).take k) + p.sel true m) = isum (((fo true ps l).set i 0).take (k + 1)) := by rw [w64_of (by omega), t1]
   have w4 : w64 (isum (((fo false ps l).set i 0).take k) + p.sel false m) = isum (((fo false ps l).set i 0).take (k + 1)) := by rw [w64_of (by omega), t2]
   simp (disch:=first|(simp only [yk,seval];done)|omega|(simp only [yz]<;>omega)|fail) only [↓yp,yq0,yq1,yq2,yq3,yq4,yl,ys0,ys1,seval,fitB,newC,endD,endR,yrg,k20,hE]
   refine W_draw [] rfl (by kernel_rfl) (by kernel_rfl) (by first|omega|(simp only [yz]<;>omega)) ?_
   simp (disch:=first|(simp only [yk,seval];done)|omega|(simp only [yz]<;>omega)|fail) only [↓yp,yq0,yq1,yq2,yq3,yq4,yl,ys0,ys1,seval,fitB,newC,endD,endR,yrg,k8,k25,k26,A_indexSlice st_esS_49,hc',q1,w1,w2,A_max,A_min,mm_max,mm_min,e1,e2,w3,w4,g176,hw2]
   refine ⟨ps.length - (k + 1), by omega, k + 1, rfl, by omega, Keep.trans kp (by (with_reducible repeat first|refine Keep.put ?_ (by decide)|refine Keep.none ?_|assumption|exact Keep.refl _ _ _)), Fr.trans fr (by repeat first|exact Fr.refl _|assumption|refine Fr.allocd ?_ _|refine Fr.put ?_ (by first|omega|(simp only [yz]<;>omega)) _), ?_, ?_, ?_, ?_, ?_⟩
   ·simp (disch:=first|(simp only [yk,seval];done)|omega|(simp only [yz]<;>omega)|fail) only [yg,seval]
   ·simp (disch:=first|(simp only [yk,seval];done)|omega|(simp only [yz]<;>omega)|fail) only [yg,seval,g175]
   ·simp (disch:=first|(simp only [yk,seval];done)|omega|(simp only [yz]<;>omega)|fail) only [yg,seval,g174]
   ·simp (disch:=first|(simp only [yk,seval];done)|omega|(simp only [yz]<;>omega)|fail) only [yg,seval]
   ·simp (disch:=first|(simp only [yk,seval];done)|omega|(simp only [yz]<;>omega)|fail) only [yg,seval]
  ·have hE' : i = k := by have := of_decide_eq_true hE; omega
   rw [if_pos hE', Int.add_zero] at t1 t2
   simp (disch:=first|(simp only [yk,seval];done)|omega|(simp only [yz]<;>omega)|fail) only [↓yp,yq0,yq1,yq2,yq3,yq4,yl,ys0,ys1,seval,fitB,newC,endD,endR,yrg,k20,hE,g176,hw2]
   refine ⟨ps.length - (k + 1), by omega, k + 1, rfl, by omega, Keep.trans kp (by (with_reducible repeat first|refine Keep.put ?_ (by decide)|refine Keep.none ?_|assumption|exact Keep.refl _ _ _)), Fr.trans fr (by repeat first|exact Fr.refl _|assumption|refine Fr.allocd ?_ _|refine Fr.put ?_ (by first|omega|(simp only [yz]<;>omega)) _), ?_, ?_, ?_, ?_, ?_⟩
   ·simp (disch:=first|(simp only [yk,seval];done)|omega|(simp only [yz]<;>omega)|fail) only [yg,seval]
   ·simp (disch:=first|(simp only [yk,seval];done)|omega|(simp only [yz]<;>omega)|fail) only [yg,seval,g175]
   ·simp (disch:=first|(simp only [yk,seval];done)|omega|(simp only [yz]<;>omega)|fail) only [yg,seval,g174]
   ·simp (disch:=first|(simp only [yk,seval];done)|omega|(simp only [yz]<;>omega)|fail) only [yg,seval,k25,t1]
   ·simp (disch:=first|(simp only [yk,seval];done)|omega|(simp only [yz]<;>omega)|fail) only [yg,seval,k26,t2]
 ·have hke : k = ps.length := by have := of_decide_eq_false hA; omega
  subst hke
  have u1 : ((fo true ps l).set i 0).take ps.length = (fo true ps l).set i 0 := List.take_of_length_le (by rw [List.length_set]; omega)
  have u2 : ((fo false ps l).set i 0).take ps.length = (fo false ps l).set i 0 := List.take_of_length_le (by rw [List.length_set]; omega)
  rw [u1] at k25
  rw [u2] at k26
  simp (disch:=first|(simp only [yk,seval];done)|omega|(simp only [yz]<;>omega)|fail) only [↓yp,yq0,yq1,yq2,yq3,yq4,yl,ys0,ys1,seval,fitB,newC,endD,endR,yrg]
  refine ⟨Keep.trans kp (by (with_reducible repeat first|refine Keep.put ?_ (by decide)|refine Keep.none ?_|assumption|exact Keep.refl _ _ _)), fr, ?_, ?_⟩
  ·simp (disch:=first|(simp only [yk,seval];done)|omega|(simp only [yz]<;>omega)|fail) only [yg,seval,k25] <;> rfl
  ·simp (disch:=first|(simp only [yk,seval];done)|omega|(simp only [yz]<;>omega)|fail) only [yg,seval,k26] <;> rfl
end
end Go.Am.K
namespace Go.Am.K
open Go.Proofs
variable {T : Tab} {P : Program} {N L : Nat} {H H' H'' : AHeap} {Q : Bool → Value → AHeap → Prop}
section
variable {i6 b1 c1 b2 c2 b3 c3 b4 c4 i14 b16 c16 b18 c18 i : Nat} {ps : List Pk} {gs : List Gd} {rs l : List Int} {lots X Y : Int} {tl tl0 : List (Int × Int)} {e e' : VT}
set_option maxHeartbeats 4000000 in
theorem c9N {j21 j22 j24 : Nat} {p : Pk} {m A B t1 t2 : Int} (hL : L ≤ H.size) (I : LD H H' i6 b1 c1 b2 c2 b3 c3 b4 c4 i14 b16 c16 b18 c18 ps gs rs lots l tl tl0 X Y e) (g20 : gt 259 e 20 = .int .i64 (i : Nat)) (hm : l[i]? = some m) (hmm : 0 ≤ m ∧ m ≤ p.s) (hpo : p.Ok) (hsp : p.f ≤ p.hi)
  (g21 : gt 259 e 21 = .pointer (some ⟨j21, 0, none⟩)) (b21 : H'.get j21 = .rw [.int .i64 t1, .int .i64 t2] 38 false []) (l21 : j21 < H'.size)
  (g22 : gt 259 e 22 = .pointer (some ⟨j22, 0, none⟩)) (b22 : H'.get j22 = .rw [.int .i64 p.f, .int .i64 p.hi] 38 false []) (l22 : j22 < H'.size)
  (g24 : gt 259 e 24 = .pointer (some ⟨j24, 0, none⟩)) (b24 : H'.get j24 = .rw p.enc 87 false []) (l24 : j24 < H'.size)
  (g25 : gt 259 e 25 = .int .i64 A) (g26 : gt 259 e 26 = .int .i64 B) (hA : 0 ≤ A ∧ A ≤ 100) (hB : 0 ≤ B ∧ B ≤ 100) (g31 : gt 259 e 31 = .int .i64 p.f)
  (hchk : ∀ n, p.f ≤ n → n ≤ p.hi → (decide (A + max0 (n - (p.s - m)) ≤ Y) && decide (X ≤ B + min2 m n)) = wi n t1 t2) :
  W tabA Try.prog (N + 1000) none (sub ([true, true, true, true, true, true, true, true, true, true, true, true, false, true, false, false, true, true, false, false] ++ [true, true, true, true, true, true, true]) (bodyOf Try.f9)) L ⟨259, e, H', []⟩ (endK 259 [] fun e' H'' => Keep 259 [6, 7, 8, 14, 16, 18, 20, 122, 123, 124] e e' ∧ H'' = H') := by
 have hL' : L ≤ H'.size := Nat.le_trans hL I.fr.size
 have hil := (List.getElem?_eq_some_iff.1 hm).1
 have hpk : p.hi ≤ p.s := by unfold Pk.hi; obtain ⟨z1, z2, z3, z4⟩ := hpo; split <;> omega
 simp only [Try.f9,bodyOf,List.cons_append,List.nil_append,sub_nil,sub_seq0,sub_seq1,sub_block,sub_loop,sub_cond0,sub_cond1]
 simp only [Pk.enc] at b24
 rw [W_block]
 refine W_while (n := 259) 700 (fun q e' H'' => ∃ n : Int, q = (p.hi + 1 - n).toNat ∧ p.f ≤ n ∧ n ≤ p.hi + 1 ∧ Keep 259 [6, 7, 8, 14, 16, 18, 20, 21, 22, 24, 25, 26, 122, 123, 124] e e' ∧ H'' = H' ∧ gt 259 e' 31 = .int .i64 n)
  ?_ 14 (p.hi + 1 - p.f).toNat ⟨p.f, rfl, by omega, by omega, Keep.refl _ _ _, rfl, g31⟩ (by obtain ⟨z1, z2, z3, z4⟩ := hpo; omega) (by omega)
 rintro M1 q e' H2 ⟨n, rfl, hn1, hn2, kp, rfl, k31⟩
 have k21 := (kp 21 (by decide)).trans g21
 have k22 := (kp 22 (by decide)).trans g22
 have k24 := (kp 24 (by decide)).trans g24
 have k25 := (kp 25 (by decide)).trans g25
 have k26 := (kp 26 (by decide)).trans g26
 have k20 := (kp 20 (by decide)).trans g20
 have k8 := (kp 8 (by decide)).trans I.g8
 have k14 := (kp 14 (by decide)).trans I.g14
 have b14 := I.b14
 have l14 := I.l14
 cases hC : decide (n ≤ p.hi)
 ·simp (disch:=first|(simp only [yk,seval];done)|omega|(simp only [yz]<;>omega)|fail) only [↓yp,yq0,yq1,yq2,yq3,yq4,yl,ys0,ys1,seval,fitB,newC,endD,endR,yrg,k31,k22,b22,hC]
  exact ⟨Keep.trans (fun j hj => kp j (by revert hj; simp; omega)) (by (with_reducible repeat first|refine Keep.put ?_ (by decide)|refine Keep.none ?_|assumption|exact Keep.refl _ _ _)), rfl⟩
 have hC' := of_decide_eq_true hC
 obtain ⟨z1, z2, z3, z4⟩ := hpo
 obtain ⟨b', o', c', eb', hb', hc', hqq'⟩ := I.lt.rl.at_ hm
 cases eb'
 have q1 := cell_of hqq'
 rw [show i * intE.z = i * 1 from rfl, Nat.mul_one, Nat.zero_add] at q1
 have w1 : w64 (p.s - m) = p.s - m := w64_of (by omega)
 have w2 : w64 (n - (p.s - m)) = n - (p.s - m) := w64_of (by omega)
 have e1 : (if n - (p.s - m) > 0 then n - (p.s - m) else 0) = max0 (n - (p.s - m)) := rfl
 have e2 : (if n < m then n else m) = min2 m n := rfl
 have v1 : 0 ≤ max0 (n - (p.s - m)) ∧ max0 (n - (p.s - m)) ≤ 6 := by unfold max0; split <;> omega
 have v2 : 0 ≤ min2 m n ∧ min2 m n ≤ 6 := by unfold min2; split <;> omega
 have w3 : w64 (A + max0 (n - (p.s - m))) = A + max0 (n - (p.s - m)) := w64_of (by omega)
 have w4 : w64 (B + min2 m n) = B + min2 m n := w64_of (by omega)
 have w5 : w64 (n + 1) = n + 1 := w64_of (by omega)
 have hck := hchk n hn1 hC'
 have h43 := fun (N : Nat) (H : AHeap) => c43 (N := N) (H := H) (n := n) (lo := t1) (hi := t2)
 rw [← hck] at h43
 obtain ⟨a', ha'⟩ : ∃ a', A + max0 (n - (p.s - m)) = a' := ⟨_, rfl⟩
 obtain ⟨b', hb''⟩ : ∃ b', B + min2 m n = b' := ⟨_, rfl⟩
 rw [ha'] at w3 h43
 rw [hb''] at w4 h43
 simp (disch:=first|(simp only [yk,seval];done)|omega|(simp only [yz]<;>omega)|fail) only [↓yp,yq0,yq1,yq2,yq3,yq4,yl,ys0,ys1,seval,fitB,newC,endD,endR,yrg,k31,k22,b22,hC]
 refine W_draw [] rfl (by kernel_rfl) (by kernel_rfl) (by omega) ?_
 simp (disch:=first|(simp only [yk,seval];done)|omega|(simp only [yz]<;>omega)|fail) only [↓yp,yq0,yq1,yq2,yq3,yq4,yl,ys0,ys1,seval,fitB,newC,endD,endR,yrg,k25,k31,k24,b24,k8,k20,k26,A_indexSlice st_esS_49,hc',q1,w1,w2,A_max,A_min,mm_max,mm_min,e1,e2,ha',hb'',w3,w4]
 refine W_draw [] rfl (by kernel_rfl) (by kernel_rfl) (by omega) ?_
 cases hX : decide (a' ≤ Y)
 ·simp only [hX,Bool.false_and] at h43
  simp (disch:=first|(simp only [yk,seval];done)|omega|(simp only [yz]<;>omega)|fail) only [↓yp,yq0,yq1,yq2,yq3,yq4,yl,ys0,ys1,seval,fitB,newC,endD,endR,yrg,k14,b14,k31,k21,b21,hX,h43,neB,w5]
  refine ⟨(p.hi + 1 - (n + 1)).toNat, by omega, n + 1, rfl, by omega, by omega, Keep.trans kp (by (with_reducible repeat first|refine Keep.put ?_ (by decide)|refine Keep.none ?_|assumption|exact Keep.refl _ _ _)), rfl, ?_⟩
  simp (disch:=first|(simp only [yk,seval];done)|omega|(simp only [yz]<;>omega)|fail) only [yg,seval]
 ·simp only [hX,Bool.true_and] at h43
  simp (disch:=first|(simp only [yk,seval];done)|omega|(simp only [yz]<;>omega)|fail) only [↓yp,yq0,yq1,yq2,yq3,yq4,yl,ys0,ys1,seval,fitB,newC,endD,endR,yrg,k14,b14,k31,k21,b21,hX,h43,neB,w5]
  refine ⟨(p.hi + 1 - (n + 1)).toNat, by omega, n + 1, rfl, by omega, by omega, Keep.trans kp (by (with_reducible repeat first|refine Keep.put ?_ (by decide)|refine Keep.none ?_|assumption|exact Keep.refl _ _ _)), rfl, ?_⟩
  simp (disch:=first|(simp only [yk,seval];done)|omega|(simp only [yz]<;>omega)|fail) only [yg,seval]
set_option maxHeartbeats 2000000 in
theorem c9T {j21 j22 j24 : Nat} {p : Pk} {m t1 t2 : Int} (hL : L ≤ H.size) (I : LD H H' i6 b1 c1 b2 c2 b3 c3 b4 c4 i14 b16 c16 b18 c18 ps gs rs lots l tl tl0 X Y e) (g20 : gt 259 e 20 = .int .i64 (i : Nat)) (hi : ps[i]? = some p) (hm : l[i]? = some m)
  (g21 : gt 259 e 21 = .pointer (some ⟨j21, 0, none⟩)) (b21 : H'.get j21 = .rw [.int .i64 t1, .int .i64 t2] 38 false []) (l21 : j21 < H'.size)
  (g22 : gt 259 e 22 = .pointer (some ⟨j22, 0, none⟩)) (b22 : H'.get j22 = .rw [.int .i64 p.f, .int .i64 p.hi] 38 false []) (l22 : j22 < H'.size)
  (g24 : gt 259 e 24 = .pointer (some ⟨j24, 0, none⟩)) (b24 : H'.get j24 = .rw p.enc 87 false []) (l24 : j24 < H'.size)
  (g25 : gt 259 e 25 = .int .i64 0) (g26 : gt 259 e 26 = .int .i64 0)
  (hchk : ∀ n, p.f ≤ n → n ≤ p.hi → (decide (oth true ps l i + max0 (n - (p.s - m)) ≤ Y) && decide (X ≤ oth false ps l i + min2 m n)) = wi n t1 t2) :
  W tabA Try.prog (N + 1200) none (sub ([true, true, true, true, true, true, true, true, true, true, true, true, false, true, false, false, true, true, false, false] ++ [true, true, true, true, true]) (bodyOf Try.f9)) L ⟨259, e, H', []⟩ (endK 259 [] fun e' H'' => Keep 259 [6, 7, 8, 14, 16, 18, 20, 122, 123, 124] e e' ∧ Fr H' H'') := by
 have hlt := (List.getElem?_eq_some_iff.1 hi).1
 have hpo := I.lt.st.pk p (List.mem_of_getElem? hi)
 have hsp := I.lt.st.st.sp p (List.mem_of_getElem? hi)
 have hmm := I.lt.lo.ok i m p hm hi
 have hl4 := I.lt.st.st.l4
 have hll := I.lt.lo.len
 have f1 := fo_len (s := true) (ps := ps) (m := l) (by omega)
 have f2 := fo_len (s := false) (ps := ps) (m := l) (by omega)
 have s1 : 0 ≤ oth true ps l i ∧ oth true ps l i ≤ 12 * 4 := by
  have := part_sum (t := fo true ps l) (m := 12) (fo_le6 I.lt.st.pk I.lt.lo) i 4 (by omega) (by omega)
  rw [List.take_of_length_le (by rw [List.length_set]; omega)] at this
  exact this
 have s2 : 0 ≤ oth false ps l i ∧ oth false ps l i ≤ 12 * 4 := by
  have := part_sum (t := fo false ps l) (m := 12) (fo_le6 I.lt.st.pk I.lt.lo) i 4 (by omega) (by omega)
  rw [List.take_of_length_le (by rw [List.length_set]; omega)] at this
  exact this
 have hK := c9K (N := N + 199) hL I g20 g25 g26 hlt
 simp only [Try.f9,bodyOf,List.cons_append,List.nil_append,sub_nil,sub_seq0,sub_seq1,sub_block,sub_loop,sub_cond0,sub_cond1] at hK ⊢
 refine W_seqI (fun e' H'' => Keep 259 [6, 7, 8, 14, 16, 18, 20, 21, 22, 24, 122, 123, 124] e e' ∧ Fr H' H'' ∧ gt 259 e' 25 = .int .i64 (oth true ps l i) ∧ gt 259 e' 26 = .int .i64 (oth false ps l i)) (W_end hK ?_) ?_
 ·rintro e' H'' h
  exact ⟨rfl, rfl, h⟩
 rintro e' H2 ⟨kp, fr, k25, k26⟩
 have frs := fr.size
 have I2 := I.next fr (fun j hj => kp j (by revert hj; simp; omega))
 have hL2 : L ≤ H2.size := Nat.le_trans hL I2.fr.size
 have k22 := (kp 22 (by decide)).trans g22
 have b22' := (fr.same _ l22).trans b22
 have b21' := (fr.same _ l21).trans b21
 have b24' := (fr.same _ l24).trans b24
 refine W_seqI (fun e'' H'' => H'' = H2 ∧ Keep 259 [6, 7, 8, 14, 16, 18, 20, 21, 22, 24, 25, 26, 122, 123, 124] e' e'' ∧ gt 259 e'' 31 = .int .i64 p.f) ?_ ?_
 ·simp (disch:=first|(simp only [yk,seval];done)|omega|(simp only [yz]<;>omega)|fail) only [↓yp,yq0,yq1,yq2,yq3,yq4,yl,ys0,ys1,seval,fitB,newC,endD,endR,yrg,k22,b22']
  refine ⟨rfl, by (with_reducible repeat first|refine Keep.put ?_ (by decide)|refine Keep.none ?_|assumption|exact Keep.refl _ _ _), ?_⟩
  simp (disch:=first|(simp only [yk,seval];done)|omega|(simp only [yz]<;>omega)|fail) only [yg,seval]
 rintro e2 H3 ⟨rfl, kp2, k31⟩
 have hN := c9N (N := N + 198) (L := L) (t1 := t1) (t2 := t2) (A := oth true ps l i) (B := oth false ps l i) hL (I2.next (Fr.refl _) (fun j hj => kp2 j (by revert hj; simp; omega))) ((kp2 20 (by decide)).trans ((kp 20 (by decide)).trans g20)) hm hmm hpo hsp ((kp2 21 (by decide)).trans ((kp 21 (by decide)).trans g21)) b21' (by omega) ((kp2 22 (by decide)).trans k22) b22' (by omega) ((kp2 24 (by decide)).trans ((kp 24 (by decide)).trans g24)) b24' (by omega) ((kp2 25 (by decide)).trans k25) ((kp2 26 (by decide)).trans k26) (by omega) (by omega) k31 hchk
 simp only [Try.f9,bodyOf,List.cons_append,List.nil_append,sub_nil,sub_seq0,sub_seq1,sub_block,sub_loop,sub_cond0,sub_cond1] at hN
 refine W_end hN ?_
 rintro e3 H4 ⟨kp3, rfl⟩
 exact ⟨rfl, rfl, fun j hj => (kp3 j hj).trans ((kp2 j (by revert hj; simp; omega)).trans (kp j (by revert hj; simp; omega))), fr⟩
end
end Go.Am.K
