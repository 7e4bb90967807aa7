/- The law LotKept. -/
import Derived.Test.YtjpcaamfcfkmhaaT47
set_option linter.unusedSimpArgs false
set_option linter.unusedVariables false
namespace Go.Am.K
open Go.Proofs
variable {T : Tab} {P : Program} {N L : Nat} {H H' H'' : AHeap} {Q : Bool → Value → AHeap → Prop}
/-- What the law knows. -/
structure LK (H H' : AHeap) (i8 b1 c1 b2 c2 b4 c4 : Nat) (ps : List Pk) (gs : List Gd) (lots : Int) (l : List Int) (op mo : Int) (e : VT) : Prop where
  st : LtR H' (some ⟨b1, 0, none⟩) (some ⟨b2, 0, none⟩) (some ⟨b4, 0, none⟩) ps gs lots l
  g8 : gt 165 e 8 = .pointer (some ⟨i8, 0, none⟩)
  l8 : i8 < H'.size
  b8 : H'.get i8 = .rw [.slice (some ⟨b1, 0, none⟩) ps.length c1, .slice (some ⟨b2, 0, none⟩) gs.length c2, .int .i64 lots] 25 false []
  g10 : gt 165 e 10 = .slice (some ⟨b4, 0, none⟩) l.length c4
  g11 : gt 165 e 11 = .int .i64 (isum l)
  g12 : gt 165 e 12 = .int .i64 op
  g13 : gt 165 e 13 = .int .i64 mo
  fr : Fr H H'
section
variable {a : Option Addr} {cap i8 b1 c1 b2 c2 b4 c4 : Nat} {bs l : List Int} {ps : List Pk} {gs : List Gd} {lots op mo : Int} {e e' : VT}
theorem LK.next (I : LK H H' i8 b1 c1 b2 c2 b4 c4 ps gs lots l op mo e) (f : Fr H' H'') (h : Keep 165 [8, 10, 11, 12, 13] e e') : LK H H'' i8 b1 c1 b2 c2 b4 c4 ps gs lots l op mo e' where
  st := I.st.fr f
  g8 := (h 8 (by decide)).trans I.g8
  l8 := Nat.lt_of_lt_of_le I.l8 f.size
  b8 := (f.same _ I.l8).trans I.b8
  g10 := (h 10 (by decide)).trans I.g10
  g11 := (h 11 (by decide)).trans I.g11
  g12 := (h 12 (by decide)).trans I.g12
  g13 := (h 13 (by decide)).trans I.g13
  fr := I.fr.trans f
set_option maxHeartbeats 4000000 in
theorem c8 {y z : Int} (hb : Bts H a bs) :
    acall tabA (aexec tabA Try.prog (N + 8000)) 8 [.slice a bs.length cap, .int .i64 y, .int .i64 z] H = some (true, .bool true, H, H.size) := by
  refine call_quiet (k := 165) (rs := [.tmp 6]) rfl fn_8 rfl rfl rfl ?_ rfl
  simp (disch:=first|(simp only [yk,seval];done)|omega|(simp only [yz]<;>omega)|fail) only [↓yp,yq0,yq1,yq2,yq3,yq4,yl,ys0,ys1,seval,fitB,newC,endD,endR,yrg]
  refine c34 hb (Nat.le_refl _) (by omega) ?_
  intro H1 fr1 hs1 hc1
  simp (disch:=first|(simp only [yk,seval];done)|omega|(simp only [yz]<;>omega)|fail) only [↓yp,yq0,yq1,yq2,yq3,yq4,yl,ys0,ys1,seval,fitB,newC,endD,endR,yrg]
  refine c33 hc1 (by omega) (by omega) (Nat.le_refl _) (by omega) ?_
  intro b1 c1 b2 c2 b3 c3 ps gs rs lots H2 mk r1 r2 r3 hc2 hx2
  have sz2 := hx2.size
  simp (disch:=first|(simp only [yk,seval];done)|omega|(simp only [yz]<;>omega)|fail) only [↓yp,yq0,yq1,yq2,yq3,yq4,yl,ys0,ys1,seval,fitB,newC,endD,endR,yrg]
  have hok := mk.chk (by omega) (by omega)
  have hst := chkS_ok hok
  have hcm : Chu ((H2.alloc (.rw [.slice none 0 0, .slice none 0 0, .int .i64 0] 25 false [])).put H2.size (.rw [.slice (some ⟨b1, 0, none⟩) ps.length c1, .slice (some ⟨b2, 0, none⟩) gs.length c2, .int .i64 lots] 25 false [])) H.size a bs cap := (hc2.fr (Fr.alloc _ _)).other (by omega) (fun c e => by rw [get_alloc_eq rfl] at e; cases e)
  have frm : Fr H2 ((H2.alloc (.rw [.slice none 0 0, .slice none 0 0, .int .i64 0] 25 false [])).put H2.size (.rw [.slice (some ⟨b1, 0, none⟩) ps.length c1, .slice (some ⟨b2, 0, none⟩) gs.length c2, .int .i64 lots] 25 false [])) := by (repeat (first | exact Fr.refl _ | assumption | refine Fr.allocd ?_ _ | refine Fr.kill ?_ (by first | assumption | omega) | refine Fr.put ?_ (by first | omega | (simp only [yz] <;> omega)) _))
  refine c35 hcm (r1.fr frm) hst.l1 hst.l4 (fun p hp => (Pk.isB_ok (List.all_eq_true.1 hst.pb p hp)).s) (Nat.le_refl _) (by omega) ?_
  intro b4 c4 l H3 lok r4 hc3 hx3
  have sz3 := hx3.size
  simp only [size_put,size_alloc] at sz3
  have fr3 : Fr H H3 := hx3.above (Fr.put (Fr.allocd (hx2.above fr1 (by omega)) _) (by omega) _) (by omega)
  have lt3 : LtR H3 (some ⟨b1, 0, none⟩) (some ⟨b2, 0, none⟩) (some ⟨b4, 0, none⟩) ps gs lots l := ⟨⟨((r1.fr frm).frx hx3).rw, ((r2.fr frm).frx hx3).rw, hok⟩, r4.rw, lok⟩
  have b83 : H3.get H2.size = .rw [.slice (some ⟨b1, 0, none⟩) ps.length c1, .slice (some ⟨b2, 0, none⟩) gs.length c2, .int .i64 lots] 25 false [] := by
    rw [hx3.same _ (by first|omega|(simp only [yz]<;>omega)) (by omega)]; exact get_put_same (by first|omega|(simp only [yz]<;>omega))
  have hsum := lt3.sum
  have hl4 := lt3.l4
  have h36 := fun (N : Nat) => c36 (N := N) (cap := c4) lt3.rl (by omega) fun x hx => by have := lt3.lo.in lt3.st.pk x hx; omega
  have w1 : w64 (isum l + 1) = isum l + 1 := w64_of (by omega)
  have h48 := fun (N : Nat) (H : AHeap) => c48 (N := N) (H := H) (v := y) (n := isum l + 1) (by omega)
  have h48' := fun (N : Nat) (H : AHeap) => c48 (N := N) (H := H) (v := z) (n := 6) (by omega)
  have hop := wrapV_in (v := y) (n := isum l + 1) (by omega)
  have hmo := wrapV_in (v := z) (n := 6) (by omega)
  obtain ⟨op, hop'⟩ : ∃ op, wrapV y (isum l + 1) = op := ⟨_, rfl⟩
  obtain ⟨mo, hmo'⟩ : ∃ mo, wrapV z 6 = mo := ⟨_, rfl⟩
  rw [hop'] at h48 hop
  rw [hmo'] at h48' hmo
  have hop2 : 0 ≤ op ∧ op ≤ isum l := by omega
  have h25 := fun (N : Nat) => c25 (N := N) (cap := c1) (cap' := c2) (cl := c4) lt3 hop2 hmo.1
  obtain ⟨lo, hlo⟩ : ∃ lo, isum (fo true ps l) = lo := ⟨_, rfl⟩
  obtain ⟨hi, hhi⟩ : ∃ hi, isum (fo false ps l) = hi := ⟨_, rfl⟩
  have hhr := lt3.fo (s := false)
  rw [hhi] at hhr
  obtain ⟨mn, hmn⟩ : ∃ mn, (if hi < op then hi else op) = mn := ⟨_, rfl⟩
  rw [hhi] at h25
  rw [hmn] at h25
  simp (disch:=first|(simp only [yk,seval];done)|omega|(simp only [yz]<;>omega)|fail) only [↓yp,yq0,yq1,yq2,yq3,yq4,yl,ys0,ys1,seval,fitB,newC,endD,endR,yrg,h36,h48,h48',w1,b83,h25]
  refine c40 (cap := c1) (cap' := c2) (cl := c4) lt3 (by omega) (by omega) ?_
  intro b5 c5 b6 c6 H4 fr4 r5 r6
  have f4 := fr4.size
  have s4 := fr4.same
  have lt4 := lt3.fr fr4
  have h37 := fun (N : Nat) => c37 (N := N) (cap := c1) (cap' := c2) (cl := c4) lt4
  rw [hlo, hhi] at h37
  have hps4 := hst.l4
  have hfl := fo_len (s := false) (ps := ps) (m := l) (by rw [lok.len]; exact Nat.le_refl _)
  have h36' := fun (N : Nat) => c36 (N := N) (cap := c6) (r6.fr (H' := (H4.alloc (.rw [.int .i64 0, .int .i64 0] 38 false [])).put H4.size (.rw [.int .i64 lo, .int .i64 hi] 38 false [])) (by (repeat (first | exact Fr.refl _ | assumption | refine Fr.allocd ?_ _ | refine Fr.kill ?_ (by first | assumption | omega) | refine Fr.put ?_ (by first | omega | (simp only [yz] <;> omega)) _)))) (by rw [hfl]; omega) fun x hx => by have := fo_le6 lt3.st.pk lok x hx; omega
  rw [hfl, hhi] at h36'
  have w2 : w64 (op + 1) = op + 1 := w64_of (by omega)
  simp (disch:=first|(simp only [yk,seval];done)|omega|(simp only [yz]<;>omega)|fail) only [↓yp,yq0,yq1,yq2,yq3,yq4,yl,ys0,ys1,seval,fitB,newC,endD,endR,yrg,s4,b83,h37,h36',A_min,mm_min,hmn,neB,w2]
  refine W_while (n := 165) 1500 (fun q e' H' => ∃ i : Nat, q = (op + 1 - i).toNat ∧ (i : Int) ≤ op + 1 ∧ LK H H' H2.size b1 c1 b2 c2 b4 c4 ps gs lots l op mo e' ∧ gt 165 e' 89 = .int .i64 (i : Nat) ∧ gt 165 e' 88 = .int .i64 (op + 1) ∧ gt 165 e' 19 = .pointer (some ⟨H4.size, 0, none⟩) ∧ H4.size < H'.size ∧ H'.get H4.size = .rw [.int .i64 lo, .int .i64 hi] 38 false [])
    ?_ 25 (op + 1).toNat ⟨0, by omega, by omega, ⟨lt4.fr (by (repeat (first | exact Fr.refl _ | assumption | refine Fr.allocd ?_ _ | refine Fr.kill ?_ (by first | assumption | omega) | refine Fr.put ?_ (by first | omega | (simp only [yz] <;> omega)) _))), ?_, by (first | omega | (simp only [yz] <;> omega)), ?_, ?_, ?_, ?_, ?_, Fr.trans (Fr.trans fr3 fr4) (by (repeat (first | exact Fr.refl _ | assumption | refine Fr.allocd ?_ _ | refine Fr.kill ?_ (by first | assumption | omega) | refine Fr.put ?_ (by first | omega | (simp only [yz] <;> omega)) _)))⟩, ?_, ?_, ?_, by (first | omega | (simp only [yz] <;> omega)), get_put_same (by first|omega|(simp only [yz]<;>omega))⟩ (by omega) (by omega)
  rotate_left
  · simp (disch:=first|(simp only [yk,seval];done)|omega|(simp only [yz]<;>omega)|fail) only [yg,Nat.reduceAdd,Nat.reduceEqDiff,Nat.reduceLT]
  · rw [get_put_ne (by omega), get_alloc_lt (by omega), s4 _ (by omega)]; exact b83
  · simp (disch:=first|(simp only [yk,seval];done)|omega|(simp only [yz]<;>omega)|fail) only [yg,Nat.reduceAdd,Nat.reduceEqDiff,Nat.reduceLT]
  · simp (disch:=first|(simp only [yk,seval];done)|omega|(simp only [yz]<;>omega)|fail) only [yg,Nat.reduceAdd,Nat.reduceEqDiff,Nat.reduceLT]
  · simp (disch:=first|(simp only [yk,seval];done)|omega|(simp only [yz]<;>omega)|fail) only [yg,Nat.reduceAdd,Nat.reduceEqDiff,Nat.reduceLT]
  · simp (disch:=first|(simp only [yk,seval];done)|omega|(simp only [yz]<;>omega)|fail) only [yg,Nat.reduceAdd,Nat.reduceEqDiff,Nat.reduceLT]
  · simp (disch:=first|(simp only [yk,seval];done)|omega|(simp only [yz]<;>omega)|fail) only [yg,Nat.reduceAdd,Nat.reduceEqDiff,Nat.reduceLT]; rfl
  · simp (disch:=first|(simp only [yk,seval];done)|omega|(simp only [yz]<;>omega)|fail) only [yg,Nat.reduceAdd,Nat.reduceEqDiff,Nat.reduceLT]
  · simp (disch:=first|(simp only [yk,seval];done)|omega|(simp only [yz]<;>omega)|fail) only [yg,Nat.reduceAdd,Nat.reduceEqDiff,Nat.reduceLT]
  generalize H2.size = i8
  obtain ⟨i19, hi19⟩ : ∃ i19, H4.size = i19 := ⟨_, rfl⟩
  rw [hi19]
  have hsz : H.size ≤ i19 := by have := fr3.size; omega
  clear h36' h37 lt4 s4 f4 r6 r5 fr4 h25 h48 h48' h36 lt3 b83 fr3 sz3 hc3 hx3 r4 frm hcm r3 r2 r1 hx2 hc2 hc1 fr1 hi19 sz2 mk H4 H3
  rintro M1 q e H' ⟨i, rfl, hi', I, g89, g88, g19, l19, b19⟩
  have sz := I.fr.size
  have g8 := I.g8
  have l8 := I.l8
  have b8 := I.b8
  have g10 := I.g10
  have g11 := I.g11
  have g12 := I.g12
  have g13 := I.g13
  simp (disch:=first|(simp only [yk,seval];done)|omega|(simp only [yz]<;>omega)|fail) only [↓yp,yq0,yq1,yq2,yq3,yq4,yl,ys0,ys1,seval,fitB,newC,endD,endR,yrg,g89,g88]
  refine ⟨fun hA => ?_, fun hA => ?_⟩
  · have hlt : (i : Int) < op + 1 := by simpa using hA
    have hw2 : w64 ((i : Int) + 1) = ((i + 1 : Nat) : Int) := by rw [w64_of (by omega)]; omega
    have w3 : w64 (isum l - op) = isum l - op := w64_of (by omega)
    have w4 : w64 (isum l - op + (i : Int)) = isum l - (op - (i : Int)) := by rw [w64_of (by omega)]; omega
    have h27 := fun (N : Nat) => c27 (N := N) (cap := c1) (cap' := c2) (cl := c4) (fd := (i : Int)) I.st hop2 (by omega)
    have eX : (if (i : Int) > lo then (i : Int) else lo) = lfLo ps l i := by unfold lfLo; rw [hlo]
    have eY : (if isum l - (op - (i : Int)) < hi then isum l - (op - (i : Int)) else hi) = lfHi ps l op i := by unfold lfHi; rw [hhi]
    have h50 := fun (N : Nat) (H : AHeap) => c50 (N := N) (H := H) (x := lfLo ps l i) (y := lfHi ps l op i)
    cases hC : decide (lfHi ps l op i < lfLo ps l i)
    · simp only [hC,cond_false] at h27
      simp (disch:=first|(simp only [yk,seval];done)|omega|(simp only [yz]<;>omega)|fail) only [↓yp,yq0,yq1,yq2,yq3,yq4,yl,ys0,ys1,seval,fitB,newC,endD,endR,yrg,g8,b8,g10,g11,g12,g13,g89,g19,h27]
      refine W_draw [] rfl (by kernel_rfl) (by kernel_rfl) (by first|omega|(simp only [yz]<;>omega)) ?_
      simp (disch:=first|(simp only [yk,seval];done)|omega|(simp only [yz]<;>omega)|fail) only [↓yp,yq0,yq1,yq2,yq3,yq4,yl,ys0,ys1,seval,fitB,newC,endD,endR,yrg,g8,b8,b19,g10,g11,g12,g13,g89,g19,A_max,A_min,mm_max,mm_min,w3,w4,eX,eY,hC]
      refine W_draw [] rfl (by kernel_rfl) (by kernel_rfl) (by first|omega|(simp only [yz]<;>omega)) ?_
      simp (disch:=first|(simp only [yk,seval];done)|omega|(simp only [yz]<;>omega)|fail) only [↓yp,yq0,yq1,yq2,yq3,yq4,yl,ys0,ys1,seval,fitB,newC,endD,endR,yrg,g8,b8,b19,g10,g11,g12,g13,g89,g19,h50,neq38,hw2]
      refine ⟨(op + 1 - (i + 1 : Nat)).toNat, by omega, i + 1, rfl, by omega, I.next (by (repeat (first | exact Fr.refl _ | assumption | refine Fr.allocd ?_ _ | refine Fr.kill ?_ (by first | assumption | omega) | refine Fr.put ?_ (by first | omega | (simp only [yz] <;> omega)) _))) (by (with_reducible repeat first|refine Keep.put ?_ (by decide)|refine Keep.none ?_|assumption|exact Keep.refl _ _ _)), ?_, ?_, ?_, by (first | omega | (simp only [yz] <;> omega)), ?_⟩
      · simp (disch:=first|(simp only [yk,seval];done)|omega|(simp only [yz]<;>omega)|fail) only [yg,Nat.reduceAdd,Nat.reduceEqDiff,Nat.reduceLT]
      · simp (disch:=first|(simp only [yk,seval];done)|omega|(simp only [yz]<;>omega)|fail) only [yg,Nat.reduceAdd,Nat.reduceEqDiff,Nat.reduceLT,g88]
      · simp (disch:=first|(simp only [yk,seval];done)|omega|(simp only [yz]<;>omega)|fail) only [yg,Nat.reduceAdd,Nat.reduceEqDiff,Nat.reduceLT,g19]
      · simp (disch:=first|(simp only [yk,seval];done)|omega|(simp only [yz]<;>omega)|fail) only [yg,Nat.reduceAdd,Nat.reduceEqDiff,Nat.reduceLT,b19]
    · simp only [hC,cond_true] at h27
      simp (disch:=first|(simp only [yk,seval];done)|omega|(simp only [yz]<;>omega)|fail) only [↓yp,yq0,yq1,yq2,yq3,yq4,yl,ys0,ys1,seval,fitB,newC,endD,endR,yrg,g8,b8,g10,g11,g12,g13,g89,g19,h27]
      refine W_draw [] rfl (by kernel_rfl) (by kernel_rfl) (by first|omega|(simp only [yz]<;>omega)) ?_
      simp (disch:=first|(simp only [yk,seval];done)|omega|(simp only [yz]<;>omega)|fail) only [↓yp,yq0,yq1,yq2,yq3,yq4,yl,ys0,ys1,seval,fitB,newC,endD,endR,yrg,g8,b8,b19,g10,g11,g12,g13,g89,g19,A_max,A_min,mm_max,mm_min,w3,w4,eX,eY,hC,hw2]
      refine ⟨(op + 1 - (i + 1 : Nat)).toNat, by omega, i + 1, rfl, by omega, I.next (by (repeat (first | exact Fr.refl _ | assumption | refine Fr.allocd ?_ _ | refine Fr.kill ?_ (by first | assumption | omega) | refine Fr.put ?_ (by first | omega | (simp only [yz] <;> omega)) _))) (by (with_reducible repeat first|refine Keep.put ?_ (by decide)|refine Keep.none ?_|assumption|exact Keep.refl _ _ _)), ?_, ?_, ?_, by (first | omega | (simp only [yz] <;> omega)), ?_⟩
      · simp (disch:=first|(simp only [yk,seval];done)|omega|(simp only [yz]<;>omega)|fail) only [yg,Nat.reduceAdd,Nat.reduceEqDiff,Nat.reduceLT]
      · simp (disch:=first|(simp only [yk,seval];done)|omega|(simp only [yz]<;>omega)|fail) only [yg,Nat.reduceAdd,Nat.reduceEqDiff,Nat.reduceLT,g88]
      · simp (disch:=first|(simp only [yk,seval];done)|omega|(simp only [yz]<;>omega)|fail) only [yg,Nat.reduceAdd,Nat.reduceEqDiff,Nat.reduceLT,g19]
      · simp (disch:=first|(simp only [yk,seval];done)|omega|(simp only [yz]<;>omega)|fail) only [yg,Nat.reduceAdd,Nat.reduceEqDiff,Nat.reduceLT,b19]
  · have h25 := fun (N : Nat) => c25 (N := N) (cap := c1) (cap' := c2) (cl := c4) (z := 0) I.st hop2 (by omega)
    have h25' := fun (N : Nat) => c25 (N := N) (cap := c1) (cap' := c2) (cl := c4) (z := isum l) I.st hop2 (by omega)
    rw [hhi, hmn] at h25 h25'
    have hmn1 : mn = hi ∨ mn = op := by rw [← hmn]; split <;> omega
    have hmn2 : mn ≤ hi ∧ mn ≤ op := by rw [← hmn]; split <;> omega
    have e1 : decide (mn ≤ isum l) = true := by simp; omega
    rw [e1] at h25'
    have haw := fun (N : Nat) (H : AHeap) => awake_known (ex := aexec tabA Try.prog N) (H := H)
    cases hB : decide (op = 0)
    · have hB' := of_decide_eq_false hB
      have e2 : decide (mn ≤ 0) = decide (hi = 0) := by
        rw [decide_eq_decide]; omega
      rw [e2] at h25
      simp (disch:=first|(simp only [yk,seval];done)|omega|(simp only [yz]<;>omega)|fail) only [↓yp,yq0,yq1,yq2,yq3,yq4,yl,ys0,ys1,seval,fitB,newC,endD,endR,yrg,g8,b8,b19,g10,g11,g12,g19,h25,h25',hB,eqB,haw]
    · have hB' := of_decide_eq_true hB
      have e2 : decide (mn ≤ 0) = true := by simp; omega
      rw [e2] at h25
      simp (disch:=first|(simp only [yk,seval];done)|omega|(simp only [yz]<;>omega)|fail) only [↓yp,yq0,yq1,yq2,yq3,yq4,yl,ys0,ys1,seval,fitB,newC,endD,endR,yrg,g8,b8,b19,g10,g11,g12,g19,h25,h25',hB,eqB,haw]
end
end Go.Am.K
