import Derived.Test.YtehkjjgpgnejnaaT39
set_option linter.unusedSimpArgs false
set_option linter.unusedVariables false
namespace Go.Am.K
open Go.Proofs
variable {T : Tab} {P : Program} {N L : Nat} {H H' H'' : AHeap} {Q : Bool → Value → AHeap → Prop}
def orX (p : Pk) (m fl : Int) (f g : Nat → Bool) : Nat → Nat → Bool
 | 0 => f
 | x + 1 => bif canB p m fl x then orM (orX p m fl f g x) g x 25 else orX p m fl f g x
set_option maxHeartbeats 2000000 in
theorem c87x {e : VT} {bx bn i4 bp op pn pc bl ol ll cl bf of fn cf i k : Nat} {w1' w2' : Value} {cp cq cr : List Value} {p : Pk} {m fl : Int} {f g : Nat → Bool} (hL : L ≤ bx)
  (g4 : gt 93 e 4 = .pointer (some ⟨i4, 0, none⟩)) (b4 : H'.get i4 = .rw [.slice (some ⟨bp, op, none⟩) pn pc, w1', w2'] 32 false []) (n4 : i4 ≠ bx) (l4 : i4 < H'.size)
  (g10 : gt 93 e 10 = .int .i64 (i : Nat)) (hcp : cellsOf (H'.get bp) = some cp) (qp : part cp (op + i * 4) 5 = some (.agg ⟨p.enc⟩)) (np : bp ≠ bx) (ip : i < pn) (in_ : i ≤ 1000)
  (g1 : gt 93 e 1 = .slice (some ⟨bl, ol, none⟩) ll cl) (hcl : cellsOf (H'.get bl) = some cq) (ql : cq[ol + i]? = some (.int .i64 m)) (nl : bl ≠ bx) (il : i < ll)
  (g12 : gt 93 e 12 = .slice (some ⟨bf, of, none⟩) fn cf) (g13 : gt 93 e 13 = .int .i64 (k : Nat)) (hcf : cellsOf (H'.get bf) = some cr) (qf : cr[of + k]? = some (.int .i64 fl)) (nf : bf ≠ bx) (kf : k < fn)
  (g11 : gt 93 e 11 = .slice (some ⟨bx, 0, none⟩) 25 25) (g9 : gt 93 e 9 = .slice (some ⟨bn, 0, none⟩) 25 25)
  (bx1 : H'.get bx = .rw (boE.fl (fB f)) 4 false []) (bx2 : bx < H'.size) (bn1 : H'.get bn = .rw (boE.fl (fB g)) 4 false []) (bn2 : bn < H'.size) (hne : bx ≠ bn)
  (hs : 0 ≤ p.s ∧ p.s ≤ 6) (hm : 0 ≤ m ∧ m ≤ 6) (hf : 0 ≤ fl ∧ fl ≤ 6) :
  W tabA Try.prog (N + 800) none (sub [true, true, true, false, true, false, false, true, false, false, true, true, false, true, false, false, true, false, false, true] (bodyOf Try.f87)) L ⟨93, e, H', []⟩ (endK 93 [] fun e' H'' => Keep 93 [1, 2, 3, 4, 9, 10, 11, 12, 13] e e' ∧ H''.size = H'.size ∧ (∀ j, j ≠ bx → H''.get j = H'.get j) ∧ H''.get bx = .rw (boE.fl (fB (orX p m fl f g 7))) 4 false []) := by
 simp only [Try.f87,bodyOf,sub_nil,sub_seq0,sub_seq1,sub_block,sub_loop,sub_cond0,sub_cond1]
 simp (disch:=first|(simp only [yk,seval];done)|omega|(simp only [yz]<;>omega)|fail) only [↓yp,yq0,yq1,yq2,yq3,yq4,yl,ys0,ys1,seval,fitB,newC,endD,endR,yrg]
 refine W_while (n := 93) 700 (fun q e' H'' => ∃ x : Nat, q = 7 - x ∧ x ≤ 7 ∧ Keep 93 [1, 2, 3, 4, 9, 10, 11, 12, 13] e e' ∧ gt 93 e' 14 = .int .i64 (x : Nat) ∧ H''.size = H'.size ∧ (∀ j, j ≠ bx → H''.get j = H'.get j) ∧ H''.get bx = .rw (boE.fl (fB (orX p m fl f g x))) 4 false [])
  ?_ 7 7 ⟨0, by omega, by omega, by (with_reducible repeat first|refine Keep.put ?_ (by decide)|refine Keep.none ?_|assumption|exact Keep.refl _ _ _), by simp (disch:=first|(simp only [yk,seval];done)|omega|(simp only [yz]<;>omega)|fail) only [yg,seval] <;> rfl, rfl, fun _ _ => rfl, bx1⟩ (by omega) (by omega)
 rintro M q e' H2 ⟨x, rfl, hx, kp, k14, hsz, hoth, hbx⟩
 have k4 := (kp 4 (by decide)).trans g4
 have k10 := (kp 10 (by decide)).trans g10
 have k1 := (kp 1 (by decide)).trans g1
 have k12 := (kp 12 (by decide)).trans g12
 have k13 := (kp 13 (by decide)).trans g13
 have k11 := (kp 11 (by decide)).trans g11
 have k9 := (kp 9 (by decide)).trans g9
 have b42 := (hoth i4 n4).trans b4
 have c1 : cellsOf (H2.get bp) = some cp := by rw [hoth bp np]; exact hcp
 have c2 : cellsOf (H2.get bl) = some cq := by rw [hoth bl nl]; exact hcl
 have c3 : cellsOf (H2.get bf) = some cr := by rw [hoth bf nf]; exact hcf
 have hbn := (hoth bn (Ne.symm hne)).trans bn1
 have w2 : w64 ((x : Int) + 1) = ((x + 1 : Nat) : Int) := by rw [w64_of (by omega)]; omega
 simp only [Pk.enc] at qp
 simp (disch:=first|(simp only [yk,seval];done)|omega|(simp only [yz]<;>omega)|fail) only [↓yp,yq0,yq1,yq2,yq3,yq4,yl,ys0,ys1,seval,fitB,newC,endD,endR,yrg,k14]
 refine ⟨fun hT => ?_, fun hT => ?_⟩
 ·have hlt : x ≤ 6 := by have := of_decide_eq_true hT; omega
  have h116 := fun (N : Nat) (H : AHeap) => c116 (N := N) (H := H) (p := p) (m := m) (f := fl) (x := (x : Nat)) hs hm hf (by omega)
  simp only [Pk.enc] at h116
  obtain ⟨TL, hTL⟩ : ∃ c, sub [true, true, true, false, true, false, false, true, false, false, true, true, false, true, false, false, true, false, false, true, true, false, false, true, false, false, true, false] (bodyOf Try.f87) = c := ⟨_, rfl⟩
  have tail := fun (N : Nat) (e'' : VT) (he : Keep 93 [1, 2, 3, 4, 9, 10, 11, 12, 13] e' e'') (h14 : gt 93 e'' 14 = .int .i64 (x : Nat)) => c87m (N := N) (L := L) hL hlt h14 ((he 11 (by decide)).trans k11) ((he 9 (by decide)).trans k9) hbx (by omega) hbn (by omega) hne
  rw [hTL] at tail
  simp only [Try.f87,bodyOf,sub_nil,sub_seq0,sub_seq1,sub_block,sub_loop,sub_cond0,sub_cond1] at hTL
  rw [hTL]
  simp (disch:=first|(simp only [yk,seval];done)|omega|(simp only [yz]<;>omega)|fail) only [↓yp,yq0,yq1,yq2,yq3,yq4,yl,ys0,ys1,seval,fitB,newC,endD,endR,yrg]
  refine W_draw [] rfl (by kernel_rfl) (by kernel_rfl) (by omega) ?_
  cases hC : canB p m fl x
  ·rw [hC] at h116
   have e1 : orX p m fl f g (x + 1) = orX p m fl f g x := by
    show (bif canB p m fl x then _ else _) = _
    rw [hC]; rfl
   simp (disch:=first|(simp only [yk,seval];done)|omega|(simp only [yz]<;>omega)|fail) only [↓yp,yq0,yq1,yq2,yq3,yq4,yl,ys0,ys1,seval,fitB,newC,endD,endR,yrg,k14,k4,k10,k1,k12,k13,b42,A_indexSlice st_esS_29,A_indexSlice st_esS_49,c1,c2,c3,qp,ql,qf,h116,w2]
   refine ⟨7 - (x + 1), by omega, x + 1, rfl, by omega, Keep.trans kp (by (with_reducible repeat first|refine Keep.put ?_ (by decide)|refine Keep.none ?_|assumption|exact Keep.refl _ _ _)), ?_, hsz, hoth, by rw [e1]; exact hbx⟩
   simp (disch:=first|(simp only [yk,seval];done)|omega|(simp only [yz]<;>omega)|fail) only [yg,seval]
  ·rw [hC] at h116
   have e1 : orX p m fl f g (x + 1) = orM (orX p m fl f g x) g x 25 := by
    show (bif canB p m fl x then _ else _) = _
    rw [hC]; rfl
   simp (disch:=first|(simp only [yk,seval];done)|omega|(simp only [yz]<;>omega)|fail) only [↓yp,yq0,yq1,yq2,yq3,yq4,yl,ys0,ys1,seval,fitB,newC,endD,endR,yrg,k14,k4,k10,k1,k12,k13,b42,A_indexSlice st_esS_29,A_indexSlice st_esS_49,c1,c2,c3,qp,ql,qf,h116]
   refine W_end (tail _ _ (by (with_reducible repeat first|refine Keep.put ?_ (by decide)|refine Keep.none ?_|assumption|exact Keep.refl _ _ _)) ?_) ?_
   ·simp (disch:=first|(simp only [yk,seval];done)|omega|(simp only [yz]<;>omega)|fail) only [yg,seval,k14]
   rintro e'' H3 ⟨kp3, hs3, ho3, hb3⟩
   have m14 := kp3 14 (by decide)
   simp (disch:=first|(simp only [yk,seval];done)|omega|(simp only [yz]<;>omega)|fail) only [yg,seval,k14] at m14
   simp (disch:=first|(simp only [yk,seval];done)|omega|(simp only [yz]<;>omega)|fail) only [↓yp,yq0,yq1,yq2,yq3,yq4,yl,ys0,ys1,seval,fitB,newC,endD,endR,yrg,m14,w2]
   have kp' : Keep 93 [1, 2, 3, 4, 9, 10, 11, 12, 13] _ e'' := fun j hj => kp3 j (by revert hj; simp; omega)
   refine ⟨7 - (x + 1), by omega, x + 1, rfl, by omega, Keep.trans kp (Keep.put (Keep.put (Keep.put (Keep.trans ?_ kp') (by decide)) (by decide)) (by decide)), ?_, by omega, fun j hj => (ho3 j hj).trans (hoth j hj), by rw [e1]; exact hb3⟩
   ·(with_reducible repeat first|refine Keep.put ?_ (by decide)|refine Keep.none ?_|assumption|exact Keep.refl _ _ _)
   ·simp (disch:=first|(simp only [yk,seval];done)|omega|(simp only [yz]<;>omega)|fail) only [yg,seval]
 ·have hx7 : x = 7 := by have := of_decide_eq_false hT; omega
  subst hx7
  simp (disch:=first|(simp only [yk,seval];done)|omega|(simp only [yz]<;>omega)|fail) only [↓yp,yq0,yq1,yq2,yq3,yq4,yl,ys0,ys1,seval,fitB,newC,endD,endR,yrg]
  exact ⟨Keep.trans kp (by (with_reducible repeat first|refine Keep.put ?_ (by decide)|refine Keep.none ?_|assumption|exact Keep.refl _ _ _)), hsz, hoth, hbx⟩
end Go.Am.K
namespace Go.Am.K
open Go.Proofs
variable {T : Tab} {P : Program} {N L : Nat} {H H' H'' : AHeap} {Q : Bool → Value → AHeap → Prop}
def orK (p : Pk) (m : Int) (i : Nat) (pk fo : Int) (fs : List Int) (f g : Nat → Bool) : Nat → Nat → Bool
 | 0 => f
 | k + 1 => match fs[k]? with
  | some fl => bif decide ((i : Int) = pk) && !decide (fl = fo) then orK p m i pk fo fs f g k else orX p m fl (orK p m i pk fo fs f g k) g 7
  | none => orK p m i pk fo fs f g k
set_option maxHeartbeats 2000000 in
theorem c87k {e : VT} {bx bn i4 bp op pn pc bl ol ll cl bf of cf i : Nat} {w1' w2' : Value} {cp cq : List Value} {p : Pk} {m pk fo : Int} {fs : List Int} {f g : Nat → Bool} (hL : L ≤ bx)
  (g4 : gt 93 e 4 = .pointer (some ⟨i4, 0, none⟩)) (b4 : H'.get i4 = .rw [.slice (some ⟨bp, op, none⟩) pn pc, w1', w2'] 32 false []) (n4 : i4 ≠ bx) (l4 : i4 < H'.size)
  (g10 : gt 93 e 10 = .int .i64 (i : Nat)) (hcp : cellsOf (H'.get bp) = some cp) (qp : part cp (op + i * 4) 5 = some (.agg ⟨p.enc⟩)) (np : bp ≠ bx) (ip : i < pn) (in_ : i ≤ 1000)
  (g1 : gt 93 e 1 = .slice (some ⟨bl, ol, none⟩) ll cl) (hcl : cellsOf (H'.get bl) = some cq) (ql : cq[ol + i]? = some (.int .i64 m)) (nl : bl ≠ bx) (il : i < ll)
  (g12 : gt 93 e 12 = .slice (some ⟨bf, of, none⟩) fs.length cf) (hfs : Rw intE H' (some ⟨bf, of, none⟩) fs) (nf : bf ≠ bx) (lf : fs.length ≤ 7) (g2 : gt 93 e 2 = .int .i64 pk) (g3 : gt 93 e 3 = .int .i64 fo)
  (g11 : gt 93 e 11 = .slice (some ⟨bx, 0, none⟩) 25 25) (g9 : gt 93 e 9 = .slice (some ⟨bn, 0, none⟩) 25 25)
  (bx1 : H'.get bx = .rw (boE.fl (fB f)) 4 false []) (bx2 : bx < H'.size) (bn1 : H'.get bn = .rw (boE.fl (fB g)) 4 false []) (bn2 : bn < H'.size) (hne : bx ≠ bn)
  (hs : 0 ≤ p.s ∧ p.s ≤ 6) (hm : 0 ≤ m ∧ m ≤ 6) (hf : ∀ x ∈ fs, 0 ≤ x ∧ x ≤ 6) :
  W tabA Try.prog (N + 1000) none (sub [true, true, true, false, true, false, false, true, false, false, true, true, false] (bodyOf Try.f87)) L ⟨93, e, H', []⟩ (endK 93 [] fun e' H'' => Keep 93 [1, 2, 3, 4, 9, 10, 11, 12] e e' ∧ H''.size = H'.size ∧ (∀ j, j ≠ bx → H''.get j = H'.get j) ∧ H''.get bx = .rw (boE.fl (fB (orK p m i pk fo fs f g fs.length))) 4 false []) := by
 simp only [Try.f87,bodyOf,sub_nil,sub_seq0,sub_seq1,sub_block,sub_loop,sub_cond0,sub_cond1]
 simp (disch:=first|(simp only [yk,seval];done)|omega|(simp only [yz]<;>omega)|fail) only [↓yp,yq0,yq1,yq2,yq3,yq4,yl,ys0,ys1,seval,fitB,newC,endD,endR,yrg]
 refine W_while (n := 93) 900 (fun q e' H'' => ∃ k : Nat, q = fs.length - k ∧ k ≤ fs.length ∧ Keep 93 [1, 2, 3, 4, 9, 10, 11, 12] e e' ∧ gt 93 e' 13 = .int .i64 (k : Nat) ∧ H''.size = H'.size ∧ (∀ j, j ≠ bx → H''.get j = H'.get j) ∧ H''.get bx = .rw (boE.fl (fB (orK p m i pk fo fs f g k))) 4 false [])
  ?_ 7 fs.length ⟨0, by omega, by omega, by (with_reducible repeat first|refine Keep.put ?_ (by decide)|refine Keep.none ?_|assumption|exact Keep.refl _ _ _), by simp (disch:=first|(simp only [yk,seval];done)|omega|(simp only [yz]<;>omega)|fail) only [yg,seval] <;> rfl, rfl, fun _ _ => rfl, bx1⟩ (by omega) (by omega)
 rintro M q e' H2 ⟨k, rfl, hk, kp, k13, hsz, hoth, hbx⟩
 have k4 := (kp 4 (by decide)).trans g4
 have k10 := (kp 10 (by decide)).trans g10
 have k1 := (kp 1 (by decide)).trans g1
 have k2 := (kp 2 (by decide)).trans g2
 have k3 := (kp 3 (by decide)).trans g3
 have k12 := (kp 12 (by decide)).trans g12
 have k11 := (kp 11 (by decide)).trans g11
 have k9 := (kp 9 (by decide)).trans g9
 have b42 := (hoth i4 n4).trans b4
 have c1 : cellsOf (H2.get bp) = some cp := by rw [hoth bp np]; exact hcp
 have c2 : cellsOf (H2.get bl) = some cq := by rw [hoth bl nl]; exact hcl
 have hbn := (hoth bn (Ne.symm hne)).trans bn1
 have w2 : w64 ((k : Int) + 1) = ((k + 1 : Nat) : Int) := by rw [w64_of (by omega)]; omega
 simp (disch:=first|(simp only [yk,seval];done)|omega|(simp only [yz]<;>omega)|fail) only [↓yp,yq0,yq1,yq2,yq3,yq4,yl,ys0,ys1,seval,fitB,newC,endD,endR,yrg,k13,k12,lenV_slice st_esS_49]
 refine ⟨fun hT => ?_, fun hT => ?_⟩
 ·have hlt : k < fs.length := by have := of_decide_eq_true hT; omega
  obtain ⟨fl, hfl⟩ : ∃ fl, fs[k]? = some fl := ⟨fs[k], by simp [hlt]⟩
  obtain ⟨b, o, cr, e1, hb, hc, hq⟩ := hfs.at_ hfl
  cases e1
  have qf := cell_of hq
  rw [show k * intE.z = k * 1 from rfl, Nat.mul_one] at qf
  have c3 : cellsOf (H2.get bf) = some cr := by rw [hoth bf nf]; exact hc
  have eK : orK p m i pk fo fs f g (k + 1) = bif decide ((i : Int) = pk) && !decide (fl = fo) then orK p m i pk fo fs f g k else orX p m fl (orK p m i pk fo fs f g k) g 7 := by
   show (match fs[k]? with | some fl => _ | none => _) = _
   rw [hfl]
  obtain ⟨TL, hTL⟩ : ∃ c, sub [true, true, true, false, true, false, false, true, false, false, true, true, false, true, false, false, true, false, false, true] (bodyOf Try.f87) = c := ⟨_, rfl⟩
  have tail := fun (N : Nat) (e'' : VT) (he : Keep 93 [1, 2, 3, 4, 9, 10, 11, 12] e' e'') (h13 : gt 93 e'' 13 = .int .i64 (k : Nat)) => c87x (N := N) (L := L) hL ((he 4 (by decide)).trans k4) b42 n4 (by omega) ((he 10 (by decide)).trans k10) c1 qp np ip in_ ((he 1 (by decide)).trans k1) c2 ql nl il ((he 12 (by decide)).trans k12) h13 c3 qf nf hlt ((he 11 (by decide)).trans k11) ((he 9 (by decide)).trans k9) hbx (by omega) hbn (by omega) hne hs hm (hf fl (List.mem_of_getElem? hfl))
  rw [hTL] at tail
  simp only [Try.f87,bodyOf,sub_nil,sub_seq0,sub_seq1,sub_block,sub_loop,sub_cond0,sub_cond1] at hTL
  rw [hTL]
  cases hI : decide ((i : Int) = pk)
  ·rw [hI, Bool.false_and, cond_false] at eK
   simp (disch:=first|(simp only [yk,seval];done)|omega|(simp only [yz]<;>omega)|fail) only [↓yp,yq0,yq1,yq2,yq3,yq4,yl,ys0,ys1,seval,fitB,newC,endD,endR,yrg,k13,k12,k10,k2,k3,hI]
   refine W_end (tail _ _ (by (with_reducible repeat first|refine Keep.put ?_ (by decide)|refine Keep.none ?_|assumption|exact Keep.refl _ _ _)) ?_) ?_
   ·simp (disch:=first|(simp only [yk,seval];done)|omega|(simp only [yz]<;>omega)|fail) only [yg,seval,k13]
   rintro e'' H3 ⟨kp3, hs3, ho3, hb3⟩
   have m13 := kp3 13 (by decide)
   simp (disch:=first|(simp only [yk,seval];done)|omega|(simp only [yz]<;>omega)|fail) only [yg,seval,k13] at m13
   simp (disch:=first|(simp only [yk,seval];done)|omega|(simp only [yz]<;>omega)|fail) only [↓yp,yq0,yq1,yq2,yq3,yq4,yl,ys0,ys1,seval,fitB,newC,endD,endR,yrg,m13,w2]
   have kp' : Keep 93 [1, 2, 3, 4, 9, 10, 11, 12] _ e'' := fun j hj => kp3 j (by revert hj; simp; omega)
   refine ⟨fs.length - (k + 1), by omega, k + 1, rfl, by omega, Keep.trans kp (Keep.put (Keep.put (Keep.put (Keep.trans ?_ kp') (by decide)) (by decide)) (by decide)), ?_, by omega, fun j hj => (ho3 j hj).trans (hoth j hj), by rw [eK]; exact hb3⟩
   ·(with_reducible repeat first|refine Keep.put ?_ (by decide)|refine Keep.none ?_|assumption|exact Keep.refl _ _ _)
   ·simp (disch:=first|(simp only [yk,seval];done)|omega|(simp only [yz]<;>omega)|fail) only [yg,seval]
  rw [hI, Bool.true_and] at eK
  cases hF : decide (fl = fo)
  ·rw [hF, Bool.not_false, cond_true] at eK
   simp (disch:=first|(simp only [yk,seval];done)|omega|(simp only [yz]<;>omega)|fail) only [↓yp,yq0,yq1,yq2,yq3,yq4,yl,ys0,ys1,seval,fitB,newC,endD,endR,yrg,k13,k12,k10,k2,k3,hI,A_indexSlice st_esS_49,c3,qf,hF,w2]
   refine ⟨fs.length - (k + 1), by omega, k + 1, rfl, by omega, Keep.trans kp (by (with_reducible repeat first|refine Keep.put ?_ (by decide)|refine Keep.none ?_|assumption|exact Keep.refl _ _ _)), ?_, hsz, hoth, by rw [eK]; exact hbx⟩
   simp (disch:=first|(simp only [yk,seval];done)|omega|(simp only [yz]<;>omega)|fail) only [yg,seval]
  ·rw [hF, Bool.not_true, cond_false] at eK
   simp (disch:=first|(simp only [yk,seval];done)|omega|(simp only [yz]<;>omega)|fail) only [↓yp,yq0,yq1,yq2,yq3,yq4,yl,ys0,ys1,seval,fitB,newC,endD,endR,yrg,k13,k12,k10,k2,k3,hI,A_indexSlice st_esS_49,c3,qf,hF]
   refine W_end (tail _ _ (by (with_reducible repeat first|refine Keep.put ?_ (by decide)|refine Keep.none ?_|assumption|exact Keep.refl _ _ _)) ?_) ?_
   ·simp (disch:=first|(simp only [yk,seval];done)|omega|(simp only [yz]<;>omega)|fail) only [yg,seval,k13]
   rintro e'' H3 ⟨kp3, hs3, ho3, hb3⟩
   have m13 := kp3 13 (by decide)
   simp (disch:=first|(simp only [yk,seval];done)|omega|(simp only [yz]<;>omega)|fail) only [yg,seval,k13] at m13
   simp (disch:=first|(simp only [yk,seval];done)|omega|(simp only [yz]<;>omega)|fail) only [↓yp,yq0,yq1,yq2,yq3,yq4,yl,ys0,ys1,seval,fitB,newC,endD,endR,yrg,m13,w2]
   have kp' : Keep 93 [1, 2, 3, 4, 9, 10, 11, 12] _ e'' := fun j hj => kp3 j (by revert hj; simp; omega)
   refine ⟨fs.length - (k + 1), by omega, k + 1, rfl, by omega, Keep.trans kp (Keep.put (Keep.put (Keep.put (Keep.trans ?_ kp') (by decide)) (by decide)) (by decide)), ?_, by omega, fun j hj => (ho3 j hj).trans (hoth j hj), by rw [eK]; exact hb3⟩
   ·(with_reducible repeat first|refine Keep.put ?_ (by decide)|refine Keep.none ?_|assumption|exact Keep.refl _ _ _)
   ·simp (disch:=first|(simp only [yk,seval];done)|omega|(simp only [yz]<;>omega)|fail) only [yg,seval]
 ·have hke : k = fs.length := by have := of_decide_eq_false hT; omega
  subst hke
  simp (disch:=first|(simp only [yk,seval];done)|omega|(simp only [yz]<;>omega)|fail) only [↓yp,yq0,yq1,yq2,yq3,yq4,yl,ys0,ys1,seval,fitB,newC,endD,endR,yrg]
  exact ⟨Keep.trans kp (by (with_reducible repeat first|refine Keep.put ?_ (by decide)|refine Keep.none ?_|assumption|exact Keep.refl _ _ _)), hsz, hoth, hbx⟩
end Go.Am.K
namespace Go.Am.K
open Go.Proofs
variable {T : Tab} {P : Program} {N L : Nat} {H H' H'' : AHeap} {Q : Bool → Value → AHeap → Prop}
def trF (ps : List Pk) (l : List Int) (pk fo : Int) : Nat → Nat → Bool
 | 0 => fun j => decide (j = 0)
 | i + 1 => match ps[i]?, l[i]? with
  | some p, some m => orK p m i pk fo (rng p.f (p.hi + 1 - p.f).toNat) (fun _ => false) (trF ps l pk fo i) (p.hi + 1 - p.f).toNat
  | _, _ => trF ps l pk fo i
theorem st_mkS_138 : mkS tabA 138 = some (4, .bool false, 1, 1) := by kernel_rfl
theorem made_bo : (madeCells (Value.bool false).cells (25 * 1)).toList = boE.fl (fB fun _ => false) ∧ allGrV (madeCells (Value.bool false).cells (25 * 1)).toList = true := ⟨by kernel_rfl, by kernel_rfl⟩
section
variable {a a' al : Option Addr} {cap cap' cl : Nat} {ps : List Pk} {gs : List Gd} {lots pk fo : Int} {l : List Int}
set_option maxHeartbeats 4000000 in
theorem c87 (hs : Rw pkE H a ps) (hl : Rw intE H al l) (hst : StOk ps gs lots) (ho : LotOk ps l) (hL : L ≤ H.size) {M : Nat} (hM : 1300 ≤ M)
  (hq : ∀ b H', Fr H H' → b < H'.size → H.size ≤ b → H'.get b = .rw (boE.fl (fB (trF ps l pk fo ps.length))) 4 false [] → Q false (.slice (some ⟨b, 0, none⟩) 25 25) H') :
  resK (acall tabA (aexec tabA Try.prog M) 87 [.agg ⟨[.slice a ps.length cap, .slice a' gs.length cap', .int .i64 lots]⟩, .slice al l.length cl, .int .i64 pk, .int .i64 fo] H) L Q := by
 obtain ⟨N, rfl⟩ : ∃ N, M = N + 1300 := ⟨M - 1300, by omega⟩
 refine call_fls (R := fun v H' => ∃ b, v = .slice (some ⟨b, 0, none⟩) 25 25 ∧ Fr H H' ∧ b < H'.size ∧ H.size ≤ b ∧ H'.get b = .rw (boE.fl (fB (trF ps l pk fo ps.length))) 4 false []) (k := 93) (rs := [.tmp 8]) rfl fn_87 rfl rfl rfl hL ?_ ?_ ?_
 rotate_left
 ·rintro v H' ⟨b, rfl, -⟩; rfl
 ·rintro v H' ⟨b, rfl, h1, h2, h3, h4⟩
  exact hq _ _ h1 h2 h3 h4
 obtain ⟨mb1, mb2⟩ := made_bo
 simp (disch:=first|(simp only [yk,seval];done)|omega|(simp only [yz]<;>omega)|fail) only [↓yp,yq0,yq1,yq2,yq3,yq4,yl,ys0,ys1,seval,fitB,newC,endD,endR,yrg]
 refine A_make_of (m := 25) st_mkS_138 (by simp (disch:=first|(simp only [yk,seval];done)|omega|(simp only [yz]<;>omega)|fail) only [↓yp,yq0,yq1,yq2,yq3,yq4,yl,ys0,ys1,seval,fitB,newC,endD,endR,yrg]) (by omega) (by omega) (by omega) mb2 (by first|omega|(simp only [yz]<;>omega)) ?_
 rw [show (25 : Int).toNat * 1 = 25 * 1 from rfl, show (25 : Int).toNat = 25 from rfl, mb1]
 simp (disch:=first|(simp only [yk,seval];done)|omega|(simp only [yz]<;>omega)|fail) only [↓yp,yq0,yq1,yq2,yq3,yq4,yl,ys0,ys1,seval,fitB,newC,endD,endR,yrg]
 have hfit : decide (0 * 1 + 1 ≤ (boE.fl (fB fun _ => false)).length) = true := by rw [fl_length, fB_len]; rfl
 have hfit' : decide (0 + 1 ≤ (boE.fl (fB fun _ => false)).length) = true := by rw [fl_length, fB_len]; rfl
 have h00 : ((0 : Nat) : Int) = 0 := rfl
 simp (disch:=first|(simp only [yk,seval];done)|omega|(simp only [yz]<;>omega)|fail) only [↓yp,yq0,yq1,yq2,yq3,yq4,yl,ys0,ys1,seval,fitB,newC,endD,endR,yrg,A_indexSlice st_esS_138,hfit,hfit']
 have hlen := ho.len
 have hp4 := hst.l4
 refine W_while (n := 93) 1200 (fun q e' H' => ∃ i bn : Nat, q = l.length - i ∧ i ≤ l.length ∧ gt 93 e' 10 = .int .i64 (i : Nat) ∧ gt 93 e' 9 = .slice (some ⟨bn, 0, none⟩) 25 25 ∧ gt 93 e' 1 = .slice al l.length cl ∧ gt 93 e' 2 = .int .i64 pk ∧ gt 93 e' 3 = .int .i64 fo ∧ gt 93 e' 4 = .pointer (some ⟨H.size, 0, none⟩) ∧ Fr H H' ∧ H.size < bn ∧ bn < H'.size ∧ H'.get H.size = .rw [.slice a ps.length cap, .slice a' gs.length cap', .int .i64 lots] 32 false [] ∧ H'.get bn = .rw (boE.fl (fB (trF ps l pk fo i))) 4 false [])
  ?_ 4 l.length ⟨0, H.size + 1, by omega, by omega, ?_, ?_, ?_, ?_, ?_, ?_, by (repeat (first | exact Fr.refl _ | assumption | refine Fr.allocd ?_ _ | refine Fr.put ?_ (by first | omega | (simp only [yz] <;> omega)) _)), by omega, by (first | omega | (simp only [yz] <;> omega)), ?_, ?_⟩ (by omega) (by omega)
 rotate_left
 ·simp (disch:=first|(simp only [yk,seval];done)|omega|(simp only [yz]<;>omega)|fail) only [yg,seval] <;> rfl
 ·simp (disch:=first|(simp only [yk,seval];done)|omega|(simp only [yz]<;>omega)|fail) only [yg,seval]
 ·simp (disch:=first|(simp only [yk,seval];done)|omega|(simp only [yz]<;>omega)|fail) only [yg,seval]
 ·simp (disch:=first|(simp only [yk,seval];done)|omega|(simp only [yz]<;>omega)|fail) only [yg,seval]
 ·simp (disch:=first|(simp only [yk,seval];done)|omega|(simp only [yz]<;>omega)|fail) only [yg,seval]
 ·simp (disch:=first|(simp only [yk,seval];done)|omega|(simp only [yz]<;>omega)|fail) only [yg,seval]
 ·simp (disch:=first|(simp only [yk,seval];done)|omega|(simp only [yz]<;>omega)|fail) only [yg,seval]
 ·rw [get_put_same (by first|omega|(simp only [yz]<;>omega))]
  congr 1
 rintro M1 q e H' ⟨i, bn, rfl, hi, g10, g9, g1, g2, g3, g4, fr, hb1, hb2, b4, bB⟩
 have f0 := fr.size
 simp (disch:=first|(simp only [yk,seval];done)|omega|(simp only [yz]<;>omega)|fail) only [↓yp,yq0,yq1,yq2,yq3,yq4,yl,ys0,ys1,seval,fitB,newC,endD,endR,yrg,g10,g1,lenV_slice st_esS_49]
 refine ⟨fun hT => ?_, fun hT => ?_⟩
 rotate_left
 ·have hie : i = l.length := by have := of_decide_eq_false hT; omega
  subst hie
  rw [hlen] at bB
  simp (disch:=first|(simp only [yk,seval];done)|omega|(simp only [yz]<;>omega)|fail) only [↓yp,yq0,yq1,yq2,yq3,yq4,yl,ys0,ys1,seval,fitB,newC,endD,endR,yrg,g9]
  exact ⟨bn, rfl, fr, hb2, by omega, bB⟩
 have hlt : i < l.length := by have := of_decide_eq_true hT; omega
 have hlt2 : i < ps.length := by omega
 obtain ⟨p, hp⟩ : ∃ p, ps[i]? = some p := ⟨ps[i], by simp [hlt2]⟩
 obtain ⟨m, hm⟩ : ∃ m, l[i]? = some m := ⟨l[i], by simp [hlt]⟩
 have hok : p.Ok := Pk.isB_ok (List.all_eq_true.1 hst.pb p (List.mem_of_getElem? hp))
 have hsp := hst.sp p (List.mem_of_getElem? hp)
 have hmp := ho.ok i m p hm hp
 have hw2 : w64 ((i : Int) + 1) = ((i + 1 : Nat) : Int) := by rw [w64_of (by omega)]; omega
 have eT : trF ps l pk fo (i + 1) = orK p m i pk fo (rng p.f (p.hi + 1 - p.f).toNat) (fun _ => false) (trF ps l pk fo i) (p.hi + 1 - p.f).toNat := by
  show (match ps[i]?, l[i]? with | some p, some m => _ | _, _ => _) = _
  rw [hp, hm]
 obtain ⟨b, o, c, eb, hb, hc, hqq⟩ := (hs.fr fr).at_ hp
 have qp : part c (o + i * 4) 5 = some (.agg ⟨p.enc⟩) := part_of hqq rfl
 obtain ⟨b2, o2, c2, eb2, hb2', hc2, hqq2⟩ := (hl.fr fr).at_ hm
 have ql := cell_of hqq2
 rw [show i * intE.z = i * 1 from rfl, Nat.mul_one] at ql
 subst eb eb2
 have qp' := qp
 simp only [Pk.enc] at qp'
 obtain ⟨TL, hTL⟩ : ∃ c, sub [true, true, true, false, true, false, false, true, false, false, true, true, false] (bodyOf Try.f87) = c := ⟨_, rfl⟩
 have hTL0 := hTL
 simp only [Try.f87,bodyOf,sub_nil,sub_seq0,sub_seq1,sub_block,sub_loop,sub_cond0,sub_cond1] at hTL
 rw [hTL]
 simp (disch:=first|(simp only [yk,seval];done)|omega|(simp only [yz]<;>omega)|fail) only [↓yp,yq0,yq1,yq2,yq3,yq4,yl,ys0,ys1,seval,fitB,newC,endD,endR,yrg]
 refine A_make_of (m := 25) st_mkS_138 (by simp (disch:=first|(simp only [yk,seval];done)|omega|(simp only [yz]<;>omega)|fail) only [↓yp,yq0,yq1,yq2,yq3,yq4,yl,ys0,ys1,seval,fitB,newC,endD,endR,yrg]) (by omega) (by omega) (by omega) mb2 (by first|omega|(simp only [yz]<;>omega)) ?_
 rw [show (25 : Int).toNat * 1 = 25 * 1 from rfl, show (25 : Int).toNat = 25 from rfl, mb1]
 simp (disch:=first|(simp only [yk,seval];done)|omega|(simp only [yz]<;>omega)|fail) only [↓yp,yq0,yq1,yq2,yq3,yq4,yl,ys0,ys1,seval,fitB,newC,endD,endR,yrg,g4,b4,g10,A_indexSlice st_esS_29,hc,qp']
 have h68 : ∀ {H : AHeap} {L M : Nat} {Q : Bool → Value → AHeap → Prop}, L ≤ H.size → 150 ≤ M → (∀ b c H', Fr H H' → H.size < b → Rw intE H' (some ⟨b, 0, none⟩) (rng p.f (p.hi + 1 - p.f).toNat) → Q false (.slice (some ⟨b, 0, none⟩) (p.hi + 1 - p.f).toNat c) H') → resK (acall tabA (aexec tabA Try.prog M) 68 [.agg ⟨[.int .i64 p.s, .int .i64 p.w, .int .i64 p.o, .int .i64 p.f]⟩] H) L Q := fun h1 h2 h3 => c68 (p := p) hok hsp h1 h2 h3
 refine h68 (by first|omega|(simp only [yz]<;>omega)) (by omega) ?_
 intro bf cf H2 fr2 hbf rf
 have f2 := fr2.size
 have s2 := fr2.same
 simp only [size_alloc] at f2 s2 hbf
 simp (disch:=first|(simp only [yk,seval];done)|omega|(simp only [yz]<;>omega)|fail) only [↓yp,yq0,yq1,yq2,yq3,yq4,yl,ys0,ys1,seval,fitB,newC,endD,endR,yrg]
 have rl : (rng p.f (p.hi + 1 - p.f).toNat).length = (p.hi + 1 - p.f).toNat := rng_len
 obtain ⟨z1, z2, z3, z4⟩ := hok
 have hhi : p.hi ≤ p.w := by unfold Pk.hi; split <;> omega
 have bx1 : H2.get H'.size = .rw (boE.fl (fB fun _ => false)) 4 false [] := by rw [s2 _ (by omega)]; exact get_alloc_same
 have o2' : ∀ j, j < H'.size → H2.get j = H'.get j := fun j hj => by rw [s2 _ (by omega), get_alloc_lt hj]
 rw [← hTL0]
 refine W_end (c87k (N := M1 + 194) (cl := cl) (cf := cf) (L := H.size) (bx := H'.size) (bn := bn) (i4 := H.size) (i := i) (m := m) (pk := pk) (fo := fo) (fs := rng p.f (p.hi + 1 - p.f).toNat) (f := fun _ => false) (g := trF ps l pk fo i) (by omega) ?k4 ((o2' _ (by omega)).trans b4) (by omega) (by omega) ?k10 (by rw [o2' _ hb]; exact hc) qp (by omega) hlt2 (by omega) ?k1 (by rw [o2' _ hb2']; exact hc2) ql (by omega) hlt ?k12 rf (by omega) (by rw [rl]; omega) ?k2 ?k3 ?k11 ?k9 bx1 (by omega) ((o2' _ hb2).trans bB) (by omega) (by omega) ⟨z1.1, z1.2⟩ ⟨hmp.1, by omega⟩ (fun x hx => ?kf)) ?fin
 case k4 => simp (disch:=first|(simp only [yk,seval];done)|omega|(simp only [yz]<;>omega)|fail) only [yg,seval,g4]
 case k10 => simp (disch:=first|(simp only [yk,seval];done)|omega|(simp only [yz]<;>omega)|fail) only [yg,seval,g10]
 case k1 => simp (disch:=first|(simp only [yk,seval];done)|omega|(simp only [yz]<;>omega)|fail) only [yg,seval,g1]
 case k2 => simp (disch:=first|(simp only [yk,seval];done)|omega|(simp only [yz]<;>omega)|fail) only [yg,seval,g2]
 case k3 => simp (disch:=first|(simp only [yk,seval];done)|omega|(simp only [yz]<;>omega)|fail) only [yg,seval,g3]
 case k9 => simp (disch:=first|(simp only [yk,seval];done)|omega|(simp only [yz]<;>omega)|fail) only [yg,seval,g9]
 case k11 => simp (disch:=first|(simp only [yk,seval];done)|omega|(simp only [yz]<;>omega)|fail) only [yg,seval]
 case k12 => rw [rl]; simp (disch:=first|(simp only [yk,seval];done)|omega|(simp only [yz]<;>omega)|fail) only [yg,seval]
 case kf =>
  unfold rng at hx
  obtain ⟨j, hj, rfl⟩ := List.mem_map.1 hx
  have := List.mem_range.1 hj
  omega
 case fin =>
  rintro e' H3 ⟨kp3, hs3, ho3, hb3⟩
  rw [rl, ← eT] at hb3
  have m1 := kp3 1 (by decide)
  have m2 := kp3 2 (by decide)
  have m3 := kp3 3 (by decide)
  have m4 := kp3 4 (by decide)
  have m10 := kp3 10 (by decide)
  have m11 := kp3 11 (by decide)
  simp (disch:=first|(simp only [yk,seval];done)|omega|(simp only [yz]<;>omega)|fail) only [yg,seval,g1] at m1
  simp (disch:=first|(simp only [yk,seval];done)|omega|(simp only [yz]<;>omega)|fail) only [yg,seval,g2] at m2
  simp (disch:=first|(simp only [yk,seval];done)|omega|(simp only [yz]<;>omega)|fail) only [yg,seval,g3] at m3
  simp (disch:=first|(simp only [yk,seval];done)|omega|(simp only [yz]<;>omega)|fail) only [yg,seval,g4] at m4
  simp (disch:=first|(simp only [yk,seval];done)|omega|(simp only [yz]<;>omega)|fail) only [yg,seval,g10] at m10
  simp (disch:=first|(simp only [yk,seval];done)|omega|(simp only [yz]<;>omega)|fail) only [yg,seval] at m11
  simp (disch:=first|(simp only [yk,seval];done)|omega|(simp only [yz]<;>omega)|fail) only [↓yp,yq0,yq1,yq2,yq3,yq4,yl,ys0,ys1,seval,fitB,newC,endD,endR,yrg,m11,m10,hw2]
  refine ⟨l.length - (i + 1), by omega, i + 1, H'.size, rfl, by omega, ?_, ?_, ?_, ?_, ?_, ?_, ⟨by omega, fun j hj => ?_⟩, by omega, by omega, ?_, hb3⟩
  ·simp (disch:=first|(simp only [yk,seval];done)|omega|(simp only [yz]<;>omega)|fail) only [yg,seval]
  ·simp (disch:=first|(simp only [yk,seval];done)|omega|(simp only [yz]<;>omega)|fail) only [yg,seval,m11]
  ·simp (disch:=first|(simp only [yk,seval];done)|omega|(simp only [yz]<;>omega)|fail) only [yg,seval,m1]
  ·simp (disch:=first|(simp only [yk,seval];done)|omega|(simp only [yz]<;>omega)|fail) only [yg,seval,m2]
  ·simp (disch:=first|(simp only [yk,seval];done)|omega|(simp only [yz]<;>omega)|fail) only [yg,seval,m3]
  ·simp (disch:=first|(simp only [yk,seval];done)|omega|(simp only [yz]<;>omega)|fail) only [yg,seval,m4]
  ·rw [ho3 _ (by omega), o2' _ (by omega)]; exact fr.same j hj
  ·rw [ho3 _ (by omega), o2' _ (by omega)]; exact b4
end
end Go.Am.K
