import Derived.Test.YtbofjfjopeaefaaGreatT48
set_option linter.unusedSimpArgs false
set_option linter.unusedVariables false
namespace Go.Am.K
open Go.Proofs
variable {T : Tab} {P : Program} {N L : Nat} {H H' H'' : AHeap} {Q : Bool → Value → AHeap → Prop}
theorem posB_tru {ps : List Pk} {l fl il : List Int} (h : Tru ps l fl il) (hl : l.length = ps.length) : ∀ (k i : Nat), ps.length - i = k → posB (ps.drop i) (l.drop i) (fl.drop i) (il.drop i) = true
 | 0, i, hk => by
  rw [List.drop_of_length_le (by omega : ps.length ≤ i)]
  rfl
 | k + 1, i, hk => by
  have h1 := h.l1
  have h2 := h.l2
  have i0 : i < ps.length := by omega
  have i1 : i < l.length := by omega
  have i2 : i < fl.length := by omega
  have i3 : i < il.length := by omega
  have e0 : ps[i]? = some ps[i] := by simp [i0]
  have e1 : l[i]? = some l[i] := by simp [i1]
  have e2 : fl[i]? = some fl[i] := by simp [i2]
  have e3 : il[i]? = some il[i] := by simp [i3]
  obtain ⟨t1, t2, t3⟩ := h.ok i _ _ _ _ e0 e1 e2 e3
  rw [posB_drop e0 e1 e2 e3, posB_tru h hl k (i + 1) (by omega)]
  have : truB ps[i] l[i] fl[i] il[i] = true := by unfold truB wi; simp only [Bool.and_eq_true,decide_eq_true_eq]; omega
  rw [this]; rfl
theorem isum_nx {z : List Int} {i : Nat} {v : Int} (h : z[i]? = some v) : isum (z.take (i + 1)) = isum (z.take i) + v := by
 rw [List.take_add_one, h, isum_app]
 show _ + (v + 0) = _
 omega
theorem isum_tk {z : List Int} (h : ∀ v ∈ z, 0 ≤ v ∧ v ≤ 12) (i : Nat) : 0 ≤ isum (z.take i) ∧ isum (z.take i) ≤ 12 * z.length := by
 have := isum_le (l := z.take i) (m := 12) fun v hv => h v (List.mem_of_mem_take hv)
 have hl : (z.take i).length ≤ z.length := by rw [List.length_take]; omega
 omega
section
variable {a a' al af ai x x' w u u' f2 i2 : Option Addr} {cap cap' cl cf ci c c' cw d d' cf2 ci2 : Nat} {ps : List Pk} {gs : List Gd} {lots : Int} {l fl il : List Int} {e e' : VT}
set_option maxHeartbeats 8000000 in
set_option maxRecDepth 10000 in
theorem c3m (I : FD H H' a cap a' cap' al cl x c x' c' w cw u d u' d' ps gs lots l af cf fl ai ci il e) (hl : ps.length ≤ 6) (hgl : gs.length ≤ 6) (hll : l.length ≤ 8) (hfl : fl.length ≤ 8) (hil : il.length ≤ 8)
  (hfr : Rw intE H af fl) (hir : Rw intE H ai il) :
  W tabA Tryz.prog (N + 9000) none (sub [true, true, true] (bodyOf Tryz.f3)) H.size ⟨218, e, H', []⟩ (retK tabA H.size [.tmp 8] fun u _ => u = .bool true) := by
 have sz := I.sz
 have g1 := I.g1
 have g9 := I.g9
 have g10 := I.g10
 have g11 := I.g11
 have b9 := I.b9
 have b11 := I.b11
 obtain ⟨TL, hTL⟩ : ∃ c, sub [true, true, true, true, true, true, true, true, true] (bodyOf Tryz.f3) = c := ⟨_, rfl⟩
 have hend := fun (N : Nat) (H2 : AHeap) (e2 : VT) (I2 : FD H H2 a cap a' cap' al cl x c x' c' w cw u d u' d' ps gs lots l af cf fl ai ci il e2) => c3y (N := N) I2 hl hgl hll hfl hil hfr hir
 rw [hTL] at hend
 simp only [Tryz.f3,bodyOf,sub_nil,sub_seq0,sub_seq1,sub_block,sub_loop,sub_cond0,sub_cond1] at hTL ⊢
 rw [hTL]
 clear hTL
 by_cases he : lotE ps gs lots l = 0
 ·obtain ⟨e1, e2, e3⟩ := lotE_ok he
  have h14 := fun (N : Nat) => c37 (N := N) (cap := c) (cap' := c') (cl := cw) (LtR.of I.o I.o' I.m he)
  have h15 := fun (N : Nat) (H2 : AHeap) (f : Fr H' H2) => z15 (N := N) (cap := d) (cap' := d') (cl := cl) (I.r.fr f) (I.r'.fr f) (I.t.fr f) hll he
  have hlen := e3.len
  have hfo : (Go.Am.fo false ps l).length = ps.length := fo_len (by omega)
  have hpk : ∀ p ∈ ps, p.Ok := fun p hp => Pk.isB_ok (List.all_eq_true.1 e1.pb p hp)
  have htr := tru_bad e3 hpk e1.sp
  have hpos := posB_tru htr hlen ps.length 0 (by omega)
  simp only [List.drop_zero] at hpos
  have hmem : ∀ v ∈ Go.Am.fo false ps l, 0 ≤ v ∧ v ≤ 12 := fun v hv => fo_mem hpk (lo_in e1 e3) hv
  obtain ⟨lo, hlo⟩ : ∃ lo, isum (Go.Am.fo true ps l) = lo := ⟨_, rfl⟩
  rw [hlo] at h14 h15
  obtain ⟨hi, hhi⟩ : ∃ hi, isum (Go.Am.fo false ps l) = hi := ⟨_, rfl⟩
  rw [hhi] at h14 h15
  simp (disch:=first|(simp only [yk,seval];done)|omega|(simp only [yz]<;>omega)|fail) only [↓yp,yA,ys0,ys1,seval,fitB,newC,endD,endR,yrg,g1,g9,g10,g11,b9,b11,h14]
  rw [h15 _ _ (by repeat first|exact Fr.refl _|assumption|refine Fr.allocd ?_ _|refine Fr.put ?_ (by first|omega|(simp only [yz]<;>omega)) _)]
  simp (disch:=first|(simp only [yk,seval];done)|omega|(simp only [yz]<;>omega)|fail) only [↓yp,yA,ys0,ys1,seval,fitB,newC,endD,endR,yrg,g1,g9,g10,g11,b9,b11,neq38]
  refine c40 (cap := c) (cap' := c') (cl := cw) ((LtR.of I.o I.o' I.m he).fr (by repeat first|exact Fr.refl _|assumption|refine Fr.allocd ?_ _|refine Fr.put ?_ (by first|omega|(simp only [yz]<;>omega)) _)) (by first|omega|(simp only [yz]<;>omega)) (by omega) ?_
  intro b1 c1 b2 c2 H3 fr3 r1 r2
  have f3 := fr3.size
  have s3 := fr3.same
  simp only [size_alloc,size_put] at f3 s3
  have frz : Fr H' H3 := Fr.trans (by repeat first|exact Fr.refl _|assumption|refine Fr.allocd ?_ _|refine Fr.put ?_ (by first|omega|(simp only [yz]<;>omega)) _) fr3
  have I3 := I.z frz (Keep.refl _ _ _)
  have b113 := I3.b11
  have h17 := fun (N : Nat) => z17 (N := N) (cap := d) (cap' := d') (cl := cl) (cf := c1) (ci := c2) I3.r I3.r' I3.t hll he r1 r2 (by rw [List.length_map]) hfo
  simp only [List.length_map,hfo,hpos] at h17
  simp (disch:=first|(simp only [yk,seval];done)|omega|(simp only [yz]<;>omega)|fail) only [↓yp,yA,ys0,ys1,seval,fitB,newC,endD,endR,yrg,g1,g9,g10,g11,b113,h17,lenV_slice st_esS_26]
  have b14 : H3.get (H'.size + 1) = .rw [.int .i64 lo, .int .i64 hi] 37 false [] := by rw [s3 _ (by omega)]; simp (disch:=first|(simp only [yk,seval];done)|omega|(simp only [yz]<;>omega)|fail) only [yg,seval]
  obtain ⟨z, hz⟩ : ∃ z, Go.Am.fo false ps l = z := ⟨_, rfl⟩
  rw [hz] at hmem hfo hhi r2
  refine W_while (n := 218) 100 (fun q e' Hx => ∃ j : Nat, q = ps.length - j ∧ j ≤ ps.length ∧ gt 218 e' 107 = .int .i64 (j : Nat) ∧ gt 218 e' 106 = .int .i64 ps.length ∧ gt 218 e' 105 = .slice (some ⟨b2, 0, none⟩) ps.length c2 ∧ gt 218 e' 20 = .int .i64 (isum (z.take j)) ∧ Keep 218 [1, 2, 3, 4, 9, 10, 11] e e' ∧ gt 218 e' 14 = .pointer (some ⟨H'.size + 1, 0, none⟩) ∧ gt 218 e' 18 = .bool true ∧ gt 218 e' 19 = .int .i64 0 ∧ Hx = H3)
   ?_ 20 ps.length ⟨0, by omega, by omega, by simp (disch:=first|(simp only [yk,seval];done)|omega|(simp only [yz]<;>omega)|fail) only [yg,seval] <;> rfl, by simp (disch:=first|(simp only [yk,seval];done)|omega|(simp only [yz]<;>omega)|fail) only [yg,seval], by simp (disch:=first|(simp only [yk,seval];done)|omega|(simp only [yz]<;>omega)|fail) only [yg,seval], by simp (disch:=first|(simp only [yk,seval];done)|omega|(simp only [yz]<;>omega)|fail) only [yg,seval] <;> rfl, by (with_reducible repeat first|refine Keep.put ?_ (by decide)|refine Keep.none ?_|assumption|exact Keep.refl _ _ _), by simp (disch:=first|(simp only [yk,seval];done)|omega|(simp only [yz]<;>omega)|fail) only [yg,seval], by simp (disch:=first|(simp only [yk,seval];done)|omega|(simp only [yz]<;>omega)|fail) only [yg,seval], by simp (disch:=first|(simp only [yk,seval];done)|omega|(simp only [yz]<;>omega)|fail) only [yg,seval], rfl⟩ (by omega) (by omega)
  rintro M q e4 Hx ⟨j, rfl, hj, g107, g106, g105, g20, kp, g14, g18, g19, rfl⟩
  simp (disch:=first|(simp only [yk,seval];done)|omega|(simp only [yz]<;>omega)|fail) only [↓yp,yA,ys0,ys1,seval,fitB,newC,endD,endR,yrg,g107,g106]
  refine ⟨fun hT => ?_, fun hT => ?_⟩
  ·have hlt : j < ps.length := by simpa using hT
   have hjz : j < z.length := by omega
   obtain ⟨v, hv⟩ : ∃ v, z[j]? = some v := ⟨z[j], by simp [hjz]⟩
   obtain ⟨b6, o6, c6, e6, hb6, hc6, hq6⟩ := r2.at_ hv
   cases e6
   have q6 := cell_of hq6
   rw [show j * intE.z = j * 1 from rfl, Nat.mul_one, Nat.zero_add] at q6
   have hw2 : w64 ((j : Int) + 1) = ((j + 1 : Nat) : Int) := by rw [w64_of (by omega)]; omega
   have t1 := isum_tk hmem j
   have t2 := hmem v (List.mem_of_getElem? hv)
   have hw3 : w64 (isum (z.take j) + v) = isum (z.take (j + 1)) := by rw [isum_nx hv, w64_of (by omega)]
   simp (disch:=first|(simp only [yk,seval];done)|omega|(simp only [yz]<;>omega)|fail) only [↓yp,yA,ys0,ys1,seval,fitB,newC,endD,endR,yrg,g107,g106,g105,g20,A_indexSlice st_esS_26,hc6,q6,hw2,hw3]
   refine ⟨ps.length - (j + 1), by omega, j + 1, rfl, by omega, ?_, ?_, ?_, ?_, kp.trans (by (with_reducible repeat first|refine Keep.put ?_ (by decide)|refine Keep.none ?_|assumption|exact Keep.refl _ _ _)), ?_, ?_, ?_, rfl⟩
   ·simp (disch:=first|(simp only [yk,seval];done)|omega|(simp only [yz]<;>omega)|fail) only [yg,seval]
   ·simp (disch:=first|(simp only [yk,seval];done)|omega|(simp only [yz]<;>omega)|fail) only [yg,seval,g106]
   ·simp (disch:=first|(simp only [yk,seval];done)|omega|(simp only [yz]<;>omega)|fail) only [yg,seval,g105]
   ·simp (disch:=first|(simp only [yk,seval];done)|omega|(simp only [yz]<;>omega)|fail) only [yg,seval]
   ·simp (disch:=first|(simp only [yk,seval];done)|omega|(simp only [yz]<;>omega)|fail) only [yg,seval,g14]
   ·simp (disch:=first|(simp only [yk,seval];done)|omega|(simp only [yz]<;>omega)|fail) only [yg,seval,g18]
   ·simp (disch:=first|(simp only [yk,seval];done)|omega|(simp only [yz]<;>omega)|fail) only [yg,seval,g19]
  ·have hje : j = ps.length := by have := of_decide_eq_false hT; omega
   subst hje
   rw [← hfo, List.take_length, hhi] at g20
   have hre : decide (hi = hi) = true := by simp
   simp (disch:=first|(simp only [yk,seval];done)|omega|(simp only [yz]<;>omega)|fail) only [↓yp,yA,ys0,ys1,seval,fitB,newC,endD,endR,yrg,g14,g18,g19,g20,b14,hre]
   exact hend _ _ _ (I3.z (Fr.refl _) (kp.trans (by (with_reducible repeat first|refine Keep.put ?_ (by decide)|refine Keep.none ?_|assumption|exact Keep.refl _ _ _))))
 ·have h14 := fun (N : Nat) => c37e (N := N) (cap := c) (cap' := c') (cl := cw) I.o I.o' I.m hll he
  have h15 := fun (N : Nat) (H2 : AHeap) (f : Fr H' H2) => z15e (N := N) (cap := d) (cap' := d') (cl := cl) (I.r.fr f) (I.r'.fr f) (I.t.fr f) hll he
  have h16 := fun (N : Nat) (H2 : AHeap) (f : Fr H' H2) => c40e (N := N) (cap := c) (cap' := c') (cl := cw) (I.o.fr f) (I.o'.fr f) (I.m.fr f) hll he
  obtain ⟨er, her⟩ : ∃ er, lotE ps gs lots l = er := ⟨_, rfl⟩
  rw [her] at h14 h15 h16
  have hre : decide (er = er) = true := by simp
  have hA : decide (er = 0) = false := by simp; omega
  simp (disch:=first|(simp only [yk,seval];done)|omega|(simp only [yz]<;>omega)|fail) only [↓yp,yA,ys0,ys1,seval,fitB,newC,endD,endR,yrg,g1,g9,g10,g11,b9,b11,h14]
  rw [h15 _ _ (by repeat first|exact Fr.refl _|assumption|refine Fr.allocd ?_ _|refine Fr.put ?_ (by first|omega|(simp only [yz]<;>omega)) _)]
  simp (disch:=first|(simp only [yk,seval];done)|omega|(simp only [yz]<;>omega)|fail) only [↓yp,yA,ys0,ys1,seval,fitB,newC,endD,endR,yrg,g1,g9,g10,g11,b9,b11,neq38,hre]
  rw [h16 _ _ (by repeat first|exact Fr.refl _|assumption|refine Fr.allocd ?_ _|refine Fr.put ?_ (by first|omega|(simp only [yz]<;>omega)) _)]
  have h0 : decide ((0 : Int) < w64 (((0 : Nat) : Int) + ((0 : Nat) : Int))) = false := by kernel_rfl
  have h0' : decide ((0 : Int) < w64 (0 + 0)) = false := by kernel_rfl
  have h0a : decide ((0 : Int) < w64 0) = false := by kernel_rfl
  simp (disch:=first|(simp only [yk,seval];done)|omega|(simp only [yz]<;>omega)|fail) only [↓yp,yA,ys0,ys1,seval,fitB,newC,endD,endR,yrg,g1,g9,g10,g11,b9,b11,hre,hA,lenV_slice st_esS_26,h0,h0',h0a]
  exact hend _ _ _ (I.z (by repeat first|exact Fr.refl _|assumption|refine Fr.allocd ?_ _|refine Fr.put ?_ (by first|omega|(simp only [yz]<;>omega)) _) (by (with_reducible repeat first|refine Keep.put ?_ (by decide)|refine Keep.none ?_|assumption|exact Keep.refl _ _ _)))
end
end Go.Am.K
namespace Go.Am.K
open Go.Proofs
variable {T : Tab} {P : Program} {N L : Nat} {H H' H'' : AHeap} {Q : Bool → Value → AHeap → Prop}
section
variable {a a' al af ai : Option Addr} {cap cap' cl cf ci : Nat} {ps : List Pk} {gs : List Gd} {lots : Int} {l fl il : List Int}
theorem c3Z (hs : Rw pkE H a ps) (hgs : Rw gdE H a' gs) (hlr : Rw intE H al l) (hfr : Rw intE H af fl) (hir : Rw intE H ai il) :
  acall tabA (aexec tabA Tryz.prog (N + 9100)) 3 [.agg ⟨[.slice a ps.length cap, .slice a' gs.length cap', .int .i64 lots]⟩, .slice al l.length cl, .slice af fl.length cf, .slice ai il.length ci] H = some (true, .bool true, H, H.size) :=
 c3z hs hgs hlr fun hl hgl hll hfl hil N H' e x c x' c' w cw u d u' d' I => c3m (N := N) I hl hgl hll hfl hil hfr hir
end
end Go.Am.K
