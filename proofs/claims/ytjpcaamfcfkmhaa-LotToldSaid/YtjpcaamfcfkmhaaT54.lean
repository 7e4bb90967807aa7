import Derived.Test.YtjpcaamfcfkmhaaT53
set_option linter.unusedSimpArgs false
set_option linter.unusedVariables false
namespace Go.Am.K
open Go.Proofs
variable {T : Tab} {P : Program} {N L : Nat} {H H' H'' : AHeap} {Q : Bool → Value → AHeap → Prop}
theorem real_ask {ps : List Pk} {gs : List Gd} {lots op fd m r : Int} {l rs il : List Int} {i : Nat} {p : Pk} (hst : StOk ps gs lots) (hl : LotOk ps l) (hr : rs.length = ps.length) (hil : il.length = ps.length) (hf : Fits ps rs ps.length)
  (hin : ∀ (j : Nat) (p : Pk) (n f x : Int), ps[j]? = some p → l[j]? = some n → rs[j]? = some f → il[j]? = some x → InB p n f x) (hi : ps[i]? = some p) (hm : l[i]? = some m) (hri : rs[i]? = some r)
  (h1 : fd ≤ isum il) (h2 : isum il ≤ isum l - (op - fd)) : askN ps l op fd i p m r = true := by
 have ll := hl.len
 have hk : ∀ p ∈ ps, p.Ok := fun p hp => Pk.isB_ok (List.all_eq_true.1 hst.pb p hp)
 have hlt := (List.getElem?_eq_some_iff.1 hi).1
 obtain ⟨sp1, sp2⟩ := tru_span hl hr hil hf hin
 have e1 := fo_len (s := true) (ps := ps) (m := l) (by omega)
 have e2 := fo_len (s := false) (ps := ps) (m := l) (by omega)
 have a1 : oth true ps l i + max0 (r - (p.s - m)) ≤ isum il := by
  have e : oth true ps l i + max0 (r - (p.s - m)) = isum ((fo true ps l).set i (max0 (r - (p.s - m)))) := by
   unfold oth
   rw [isum_set (fo_get hi hm), isum_set (fo_get hi hm)]
   omega
  rw [e]
  refine isum_mono (by rw [List.length_set]; omega) fun j x y hx hy => ?_
  by_cases ej : i = j
  ·subst ej
   rw [List.getElem?_set_self (by omega)] at hx
   cases hx
   have := hin i p m r y hi hm hri hy
   unfold InB at this
   unfold max0
   split <;> omega
  ·rw [List.getElem?_set_ne ej] at hx
   have hj := (List.getElem?_eq_some_iff.1 hx).1
   have g1 : j < ps.length := by omega
   have g2 : j < l.length := by omega
   have g3 : j < rs.length := by omega
   rw [fo_get (p := ps[j]) (n := l[j]) (by simp [g1]) (by simp [g2])] at hx
   cases hx
   have q := hin j ps[j] l[j] rs[j] y (by simp [g1]) (by simp [g2]) (by simp [g3]) hy
   have q2 := hf j ps[j] rs[j] g1 (by simp [g1]) (by simp [g3])
   unfold InB at q
   show ps[j].il l[j] ≤ y
   unfold Pk.il
   split <;> omega
 have a2 : isum il ≤ oth false ps l i + min2 m r := by
  have e : oth false ps l i + min2 m r = isum ((fo false ps l).set i (min2 m r)) := by
   unfold oth
   rw [isum_set (fo_get hi hm), isum_set (fo_get hi hm)]
   omega
  rw [e]
  refine isum_mono (by rw [List.length_set]; omega) fun j x y hx hy => ?_
  by_cases ej : i = j
  ·subst ej
   rw [List.getElem?_set_self (by omega)] at hy
   cases hy
   have := hin i p m r x hi hm hri hx
   unfold InB at this
   unfold min2
   split <;> omega
  ·rw [List.getElem?_set_ne ej] at hy
   have hj := (List.getElem?_eq_some_iff.1 hy).1
   have g1 : j < ps.length := by omega
   have g2 : j < l.length := by omega
   have g3 : j < rs.length := by omega
   rw [fo_get (p := ps[j]) (n := l[j]) (by simp [g1]) (by simp [g2])] at hy
   cases hy
   have q := hin j ps[j] l[j] rs[j] x (by simp [g1]) (by simp [g2]) (by simp [g3]) hx
   have q2 := hf j ps[j] rs[j] g1 (by simp [g1]) (by simp [g3])
   unfold InB at q
   show x ≤ ps[j].ih l[j]
   unfold Pk.ih
   split <;> omega
 unfold askN lfHi lfLo
 simp only [Bool.and_eq_true,decide_eq_true_eq]
 split <;> split <;> omega
theorem all_ask {ps : List Pk} {gs : List Gd} {lots m n : Int} {l : List Int} {i : Nat} {p : Pk} (hst : StOk ps gs lots) (hl : LotOk ps l) (hi : ps[i]? = some p) (hm : l[i]? = some m) (hn : p.f ≤ n ∧ n ≤ p.hi) (hU : isum (fo false ps l) ≤ isum l) (hL : 0 ≤ isum (fo true ps l)) : askN ps l 0 0 i p m n = true := by
 have hk : ∀ p ∈ ps, p.Ok := fun p hp => Pk.isB_ok (List.all_eq_true.1 hst.pb p hp)
 have hpo := hk p (List.mem_of_getElem? hi)
 have hmm := hl.ok i m p hm hi
 have hA := oth_le (i := i) hk hst.sp hl
 have e3 := fo_oth (s := true) hi hm
 have e4 := fo_oth (s := false) hi hm
 rw [show p.sel true m = p.il m from rfl] at e3
 rw [show p.sel false m = p.ih m from rfl] at e4
 obtain ⟨z1, z2, z3, z4⟩ := hpo
 have h5 : p.hi ≤ p.s := by unfold Pk.hi; split <;> omega
 have b1 : max0 (n - (p.s - m)) ≤ p.ih m := by unfold max0 Pk.ih; split <;> split <;> omega
 have b2 : p.il m ≤ min2 m n := by unfold min2 Pk.il; split <;> split <;> omega
 unfold askN lfHi lfLo
 simp only [Bool.and_eq_true,decide_eq_true_eq]
 split <;> split <;> omega
section
variable {a : Option Addr} {cap : Nat} {bs : List Int}
set_option maxHeartbeats 8000000 in
set_option maxRecDepth 10000 in
theorem c9 {y : Int} (hb : Bts H a bs) :
  acall tabA (aexec tabA Try.prog (N + 12000)) 9 [.slice a bs.length cap, .int .i64 y] H = some (true, .bool true, H, H.size) := by
 refine call_quiet (k := 259) (rs := [.tmp 4]) rfl fn_9 rfl rfl rfl ?_ rfl
 simp (disch:=first|(simp only [yk,seval];done)|omega|(simp only [yz]<;>omega)|fail) only [↓yp,yq0,yq1,yq2,yq3,yq4,yl,ys0,ys1,seval,fitB,newC,endD,endR,yrg]
 refine c34 hb (Nat.le_refl _) (by omega) ?_
 intro H1 fr1 hs1 hc1
 simp (disch:=first|(simp only [yk,seval];done)|omega|(simp only [yz]<;>omega)|fail) only [↓yp,yq0,yq1,yq2,yq3,yq4,yl,ys0,ys1,seval,fitB,newC,endD,endR,yrg]
 refine c33 hc1 (by omega) (by omega) (Nat.le_refl _) (by omega) ?_
 intro b1 c1 b2 c2 b3 c3 ps gs rs lots H2 mk r1 r2 r3 hc2 hx2
 have sz2 := hx2.size
 simp (disch:=first|(simp only [yk,seval];done)|omega|(simp only [yz]<;>omega)|fail) only [↓yp,yq0,yq1,yq2,yq3,yq4,yl,ys0,ys1,seval,fitB,newC,endD,endR,yrg]
 have hok := mk.chk (by omega) (by omega)
 have hst := chkS_ok hok
 have hpk : ∀ p ∈ ps, p.Ok := fun p hp => Pk.isB_ok (List.all_eq_true.1 hst.pb p hp)
 have hcm : Chu ((H2.alloc (.rw [.slice none 0 0, .slice none 0 0, .int .i64 0] 25 false [])).put H2.size (.rw [.slice (some ⟨b1, 0, none⟩) ps.length c1, .slice (some ⟨b2, 0, none⟩) gs.length c2, .int .i64 lots] 25 false [])) H.size a bs cap := (hc2.fr (Fr.alloc _ _)).other (by omega) (fun c e => by rw [get_alloc_eq rfl] at e; cases e)
 have frm : Fr H2 ((H2.alloc (.rw [.slice none 0 0, .slice none 0 0, .int .i64 0] 25 false [])).put H2.size (.rw [.slice (some ⟨b1, 0, none⟩) ps.length c1, .slice (some ⟨b2, 0, none⟩) gs.length c2, .int .i64 lots] 25 false [])) := by (repeat (first | exact Fr.refl _ | assumption | refine Fr.allocd ?_ _ | refine Fr.put ?_ (by first | omega | (simp only [yz] <;> omega)) _))
 refine c35 hcm (r1.fr frm) hst.l1 hst.l4 (fun p hp => (hpk p hp).s) (Nat.le_refl _) (by omega) ?_
 intro b4 c4 l H3 lok r4 hc3 hx3
 have sz3 := hx3.size
 simp only [size_put,size_alloc] at sz3
 have b63 : H3.get H2.size = .rw [.slice (some ⟨b1, 0, none⟩) ps.length c1, .slice (some ⟨b2, 0, none⟩) gs.length c2, .int .i64 lots] 25 false [] := by
  rw [hx3.same _ (by first|omega|(simp only [yz]<;>omega)) (by omega)]; exact get_put_same (by first|omega|(simp only [yz]<;>omega))
 simp (disch:=first|(simp only [yk,seval];done)|omega|(simp only [yz]<;>omega)|fail) only [↓yp,yq0,yq1,yq2,yq3,yq4,yl,ys0,ys1,seval,fitB,newC,endD,endR,yrg,b63]
 have rr3 := (r3.fr frm).frx hx3
 refine c44 hc3 ((r1.fr frm).frx hx3) hst.l1 hst.l4 (fun p hp => (hpk p hp).s) r4 lok rr3 mk.lr (fun j p f hp hf => ?_) (Nat.le_refl _) (by omega) ?_
 ·have h1 := mk.fits j p f (List.getElem?_eq_some_iff.1 hp).1 hp hf
  obtain ⟨z1, z2, z3, z4⟩ := hpk p (List.mem_of_getElem? hp)
  have : p.hi ≤ p.s := by unfold Pk.hi; split <;> omega
  omega
 intro b9 c9' il H4 hil hin r9 hc4 hx4
 have sz4 := hx4.size
 have st4 : StR H4 (some ⟨b1, 0, none⟩) (some ⟨b2, 0, none⟩) ps gs lots := ⟨(((r1.fr frm).frx hx3).frx hx4).rw, (((r2.fr frm).frx hx3).frx hx4).rw, hok⟩
 have lt4 : LtR H4 (some ⟨b1, 0, none⟩) (some ⟨b2, 0, none⟩) (some ⟨b4, 0, none⟩) ps gs lots l := ⟨st4, (r4.frx hx4).rw, lok⟩
 have hsum := lt4.sum
 have hl4 := lt4.l4
 have b64 := (hx4.same _ (by omega) (by omega)).trans b63
 obtain ⟨sp1, sp2⟩ := tru_span lok mk.lr hil mk.fits hin
 have hll := lok.len
 have hbad : isum il ≤ isum l := isum_mono (by omega) fun j x y hx hy => by
  have hj := (List.getElem?_eq_some_iff.1 hx).1
  have g1 : j < ps.length := by omega
  have g3 : j < rs.length := by rw [mk.lr]; exact g1
  have := hin j ps[j] y rs[j] x (by simp [g1]) hy (by simp [g3]) hx
  unfold InB at this
  omega
 have hU := lt4.fo (s := false)
 have hLo := lt4.fo (s := true)
 have hU2 : isum (fo false ps l) ≤ isum l := by
  have e2 := fo_len (s := false) (ps := ps) (m := l) (by omega)
  refine isum_mono (by omega) fun j x y hx hy => ?_
  have hj := (List.getElem?_eq_some_iff.1 hx).1
  have g1 : j < ps.length := by omega
  rw [fo_get (p := ps[j]) (n := y) (by simp [g1]) hy] at hx
  cases hx
  show ps[j].ih y ≤ y
  unfold Pk.ih
  split <;> omega
 have h36 := fun (N : Nat) => c36 (N := N) (cap := c4) lt4.rl (by omega) fun x hx => by have := lt4.lo.in hpk x hx; omega
 have hib : ∀ x ∈ il, 0 ≤ x ∧ x ≤ 1000000 := fun x hx => by
  obtain ⟨j, hj⟩ := List.getElem?_of_mem hx
  have hlt := (List.getElem?_eq_some_iff.1 hj).1
  have g1 : j < ps.length := by omega
  have g2 : j < l.length := by omega
  have g3 : j < rs.length := by rw [mk.lr]; exact g1
  have q1 := hin j ps[j] l[j] rs[j] x (by simp [g1]) (by simp [g2]) (by simp [g3]) hj
  have q2 := lok.in hpk l[j] (List.getElem_mem g2)
  unfold InB at q1
  omega
 have h36' := fun (N : Nat) => c36 (N := N) (cap := c9') r9.rw (by rw [hil]; have := hst.l4; omega) hib
 obtain ⟨bad, hbd⟩ : ∃ bad, isum il = bad := ⟨_, rfl⟩
 rw [hbd] at h36' hbad sp1 sp2
 have w1 : w64 (isum l + 1) = isum l + 1 := w64_of (by omega)
 have h48 := fun (N : Nat) (H : AHeap) => c48 (N := N) (H := H) (v := y) (n := isum l + 1) (by omega)
 have hop := wrapV_in (v := y) (n := isum l + 1) (by omega)
 obtain ⟨op, hop'⟩ : ∃ op, wrapV y (isum l + 1) = op := ⟨_, rfl⟩
 rw [hop'] at h48 hop
 have w2 : w64 (isum l - bad) = isum l - bad := w64_of (by omega)
 have w3 : w64 (op - (isum l - bad)) = op - (isum l - bad) := w64_of (by omega)
 obtain ⟨f1, hf1⟩ : ∃ f1, (if op - (isum l - bad) > 0 then op - (isum l - bad) else 0) = f1 := ⟨_, rfl⟩
 obtain ⟨f2, hf2⟩ : ∃ f2, (if bad < op then bad else op) = f2 := ⟨_, rfl⟩
 have hf12 : 0 ≤ f1 ∧ op - (isum l - bad) ≤ f1 ∧ f2 ≤ bad ∧ f2 ≤ op ∧ f1 ≤ f2 := by
  rw [← hf1, ← hf2]; split <;> split <;> omega
 simp (disch:=first|(simp only [yk,seval];done)|omega|(simp only [yz]<;>omega)|fail) only [↓yp,yq0,yq1,yq2,yq3,yq4,yl,ys0,ys1,seval,fitB,newC,endD,endR,yrg,h36,h36',h48,w1,w2,w3,A_max,A_min,mm_max,mm_min,hf1,hf2]
 refine c51 hc4 (Nat.le_refl _) (by omega) (by omega) ?_
 rintro fg fd H5 - p1 p2 hc5 hx5 hs5
 have lt5 : LtR H5 (some ⟨b1, 0, none⟩) (some ⟨b2, 0, none⟩) (some ⟨b4, 0, none⟩) ps gs lots l := ⟨⟨((((r1.fr frm).frx hx3).frx hx4).frx hx5).rw, ((((r2.fr frm).frx hx3).frx hx4).frx hx5).rw, hok⟩, ((r4.frx hx4).frx hx5).rw, lok⟩
 have rr5 := ((rr3.frx hx4).frx hx5).rw
 have b65 := (hx5.same _ (by omega) (by omega)).trans b64
 have fr2 : Fr H H2 := hx2.above fr1 (by omega)
 have fr5 : Fr H H5 := hx5.above (hx4.above (hx3.above (fr2.trans frm) (Nat.le_refl _)) (Nat.le_refl _)) (Nat.le_refl _)
 have hgs : gs ≠ [] := by rintro rfl; have := mk.g1; simp at this
 have hop2 : 0 ≤ op ∧ op ≤ isum l := by omega
 have hfd : 0 ≤ fd ∧ fd ≤ op := by omega
 have hX1 : lfLo ps l fd ≤ bad := by unfold lfLo; split <;> omega
 have hY1 : bad ≤ lfHi ps l op fd := by unfold lfHi; split <;> omega
 have hne : decide (lfHi ps l op fd < lfLo ps l fd) = false := by simp; omega
 have hne0 : decide (lfHi ps l 0 0 < lfLo ps l 0) = false := by
  unfold lfHi lfLo
  simp only [decide_eq_false_iff_not]
  split <;> split <;> omega
 have h27 := fun (N : Nat) => c27 (N := N) (cap := c1) (cap' := c2) (cl := c4) lt5 hop2 hfd
 simp only [hne,cond_false] at h27
 obtain ⟨X, hX⟩ : ∃ X, lfLo ps l fd = X := ⟨_, rfl⟩
 obtain ⟨Y, hY⟩ : ∃ Y, lfHi ps l op fd = Y := ⟨_, rfl⟩
 rw [hX, hY] at h27
 simp (disch:=first|(simp only [yk,seval];done)|omega|(simp only [yz]<;>omega)|fail) only [↓yp,yq0,yq1,yq2,yq3,yq4,yl,ys0,ys1,seval,fitB,newC,endD,endR,yrg,b65,h27]
 have fra : Fr H5 ((H5.alloc (.rw [.int .i64 0, .int .i64 0] 38 false [])).put H5.size (.rw [.int .i64 X, .int .i64 Y] 38 false [])) := by (repeat (first | exact Fr.refl _ | assumption | refine Fr.allocd ?_ _ | refine Fr.put ?_ (by first | omega | (simp only [yz] <;> omega)) _))
 refine c29 (cap := c1) (cap' := c2) (cl := c4) (lt5.fr fra) hgs hop2 hfd hne (by first|omega|(simp only [yz]<;>omega)) (by omega) ?_
 intro b16 c16 tl H6 fr6 td rt
 have f6 := fr6.size
 have s6 := fr6.same
 simp only [size_put,size_alloc] at f6 s6
 have b66 : H6.get H2.size = .rw [.slice (some ⟨b1, 0, none⟩) ps.length c1, .slice (some ⟨b2, 0, none⟩) gs.length c2, .int .i64 lots] 25 false [] := by
  rw [s6 _ (by omega), get_put_ne (by omega), get_alloc_lt (by omega)]; exact b65
 simp (disch:=first|(simp only [yk,seval];done)|omega|(simp only [yz]<;>omega)|fail) only [↓yp,yq0,yq1,yq2,yq3,yq4,yl,ys0,ys1,seval,fitB,newC,endD,endR,yrg,b66]
 refine c29 (cap := c1) (cap' := c2) (cl := c4) (op := 0) (fd := 0) ((lt5.fr fra).fr fr6) hgs (by omega) (by omega) hne0 (by omega) (by omega) ?_
 intro b18 c18 tl0 H7 fr7 td0 rt0
 have f7 := fr7.size
 have s7 := fr7.same
 have b67 : H7.get H2.size = .rw [.slice (some ⟨b1, 0, none⟩) ps.length c1, .slice (some ⟨b2, 0, none⟩) gs.length c2, .int .i64 lots] 25 false [] := (s7 _ (by omega)).trans b66
 have b147 : H7.get H5.size = .rw [.int .i64 X, .int .i64 Y] 38 false [] := by
  rw [s7 _ (by omega), s6 _ (by omega)]; exact get_put_same (by first|omega|(simp only [yz]<;>omega))
 have h43 := fun (N : Nat) (H : AHeap) => c43 (N := N) (H := H) (n := bad) (lo := X) (hi := Y)
 have hwi : wi bad X Y = true := by unfold wi; simp; omega
 rw [hwi] at h43
 have hpp : decide ((ps.length : Int) = (ps.length : Int)) = true := by simp
 simp (disch:=first|(simp only [yk,seval];done)|omega|(simp only [yz]<;>omega)|fail) only [↓yp,yq0,yq1,yq2,yq3,yq4,yl,ys0,ys1,seval,fitB,newC,endD,endR,yrg,b67,b147,h43,lenV_slice st_esS_22,lenV_slice st_esS_56,hpp]
 refine W_while (n := 259) 2000 (fun q e' H' => ∃ i : Nat, q = ps.length - i ∧ i ≤ ps.length ∧ LD H H' H2.size b1 c1 b2 c2 b3 c3 b4 c4 H5.size b16 c16 b18 c18 ps gs rs lots l tl tl0 X Y e' ∧ gt 259 e' 124 = .int .i64 (i : Nat) ∧ gt 259 e' 123 = .int .i64 ps.length ∧ gt 259 e' 122 = .slice (some ⟨b16, 0, none⟩) ps.length c16)
  ?_ 4 ps.length ⟨0, by omega, by omega, ⟨((lt5.fr fra).fr fr6).fr fr7, ((rr5.fr fra).fr fr6).fr fr7, rt.fr fr7, rt0, ?_, by omega, b67, ?_, ?_, ?_, by omega, b147, ?_, ?_, fr5.trans ((fra.trans fr6).trans fr7)⟩, ?_, ?_, ?_⟩ (by omega) (by omega)
 rotate_left
 ·simp (disch:=first|(simp only [yk,seval];done)|omega|(simp only [yz]<;>omega)|fail) only [yg,seval]
 ·simp (disch:=first|(simp only [yk,seval];done)|omega|(simp only [yz]<;>omega)|fail) only [yg,seval]
 ·simp (disch:=first|(simp only [yk,seval];done)|omega|(simp only [yz]<;>omega)|fail) only [yg,seval]
 ·simp (disch:=first|(simp only [yk,seval];done)|omega|(simp only [yz]<;>omega)|fail) only [yg,seval]
 ·simp (disch:=first|(simp only [yk,seval];done)|omega|(simp only [yz]<;>omega)|fail) only [yg,seval]
 ·simp (disch:=first|(simp only [yk,seval];done)|omega|(simp only [yz]<;>omega)|fail) only [yg,seval]
 ·simp (disch:=first|(simp only [yk,seval];done)|omega|(simp only [yz]<;>omega)|fail) only [yg,seval] <;> rfl
 ·simp (disch:=first|(simp only [yk,seval];done)|omega|(simp only [yz]<;>omega)|fail) only [yg,seval]
 ·simp (disch:=first|(simp only [yk,seval];done)|omega|(simp only [yz]<;>omega)|fail) only [yg,seval]
 have hlr := mk.lr
 have hfits := mk.fits
 generalize H2.size = i6
 generalize H5.size = i14
 clear b147 b67 s7 f7 rt0 fr7 b66 s6 f6 rt fr6 fra h27 fr5 fr2 b65 rr5 lt5 hs5 hx5 hc5 h48 h36' h36 b64 lt4 st4 sz4 hx4 hc4 r9 rr3 b63 sz3 r4 hx3 hc3 frm hcm sz2 hx2 hc2 r3 r2 r1 hc1 hs1 fr1 H1 H2 H3 H4 H5 H6 H7
 rintro M1 q e H' ⟨i, rfl, hi, I, g124, g123, g122⟩
 have hL' := I.fr.size
 simp (disch:=first|(simp only [yk,seval];done)|omega|(simp only [yz]<;>omega)|fail) only [↓yp,yq0,yq1,yq2,yq3,yq4,yl,ys0,ys1,seval,fitB,newC,endD,endR,yrg,g124,g123]
 refine ⟨fun hA => ?_, fun hA => ?_⟩
 rotate_left
 ·have haw := fun (N : Nat) (H : AHeap) => awake_known (ex := aexec tabA Try.prog N) (H := H)
  simp (disch:=first|(simp only [yk,seval];done)|omega|(simp only [yz]<;>omega)|fail) only [↓yp,yq0,yq1,yq2,yq3,yq4,yl,ys0,ys1,seval,fitB,newC,endD,endR,yrg,haw]
 have hlt : i < ps.length := by simpa using hA
 have hlt2 : i < l.length := by omega
 have hlt3 : i < rs.length := by omega
 have hw2 : w64 ((i : Int) + 1) = ((i + 1 : Nat) : Int) := by rw [w64_of (by omega)]; omega
 obtain ⟨p, hp⟩ : ∃ p, ps[i]? = some p := ⟨ps[i], by simp [hlt]⟩
 obtain ⟨m, hm⟩ : ∃ m, l[i]? = some m := ⟨l[i], by simp [hlt2]⟩
 obtain ⟨r, hr⟩ : ∃ r, rs[i]? = some r := ⟨rs[i], by simp [hlt3]⟩
 have hpo := hpk p (List.mem_of_getElem? hp)
 have hrf := hfits i p r hlt hp hr
 have hask := real_ask hst lok hlr hil hfits hin hp hm hr (op := op) (fd := fd) (by rw [hbd]; omega) (by rw [hbd]; omega)
 obtain ⟨⟨u1, u2⟩, u3, u4⟩ := told_ok hst lok hp hm hop2 hfd hrf hask
 have u5 := told_none hst lok hp hm (fun n h1 h2 => all_ask hst lok hp hm ⟨h1, h2⟩ hU2 hLo.1) (by omega)
 have ht := td.at_ i p hlt hp
 have ht0 := td0.at_ i p hlt hp
 rw [u5] at ht0
 obtain ⟨t, ht'⟩ : ∃ t, toldV ps l op fd i p = t := ⟨_, rfl⟩
 rw [ht'] at ht u1 u2 u3 u4
 unfold askN at u4
 rw [hX, hY] at u4
 obtain ⟨ba, oa, ca, ea, hba, hca, hqa⟩ := I.rt.at_ ht
 cases ea
 have qa : part ca (0 + i * 2) 3 = some (.agg ⟨[.int .i64 t.1, .int .i64 t.2]⟩) := part_of hqa rfl
 obtain ⟨bb, ob, cb, eb, hbb, hcb, hqb⟩ := I.r0.at_ ht0
 cases eb
 have qb : part cb (0 + i * 2) 3 = some (.agg ⟨[.int .i64 p.f, .int .i64 p.hi]⟩) := part_of hqb rfl
 obtain ⟨bc, oc, cc, ec, hbc, hcc, hqc⟩ := I.rr.at_ hr
 cases ec
 have qc := cell_of hqc
 obtain ⟨bd, od, cd, ed, hbd', hcd, hqd⟩ := I.lt.st.hs.at_ hp
 cases ed
 have qd : part cd (0 + i * 4) 5 = some (.agg ⟨p.enc⟩) := part_of hqd rfl
 rw [show i * intE.z = i * 1 from rfl, Nat.mul_one, Nat.zero_add] at qc
 rw [Nat.zero_add] at qa qb qd
 simp only [Pk.enc] at qd
 have k6 := I.g6
 have kb6 := I.b6
 have kl6 := I.l6
 have k7 := I.g7
 have k18 := I.g18
 have h18 := fun (N : Nat) (H'' : AHeap) (f : Fr H' H'') => K.c18 (N := N) (cap := c1) (cap' := c2) (I.lt.st.hs.fr f) (I.lt.st.hg.fr f) (by omega) (askP_zero hok hlt) hp hpo
 have h43r := fun (N : Nat) (H : AHeap) => c43 (N := N) (H := H) (n := r) (lo := t.1) (hi := t.2)
 rw [u3] at h43r
 have d1 : decide (t.1 < p.f) = false := by simp; omega
 have d2 : decide (p.hi < t.2) = false := by simp; omega
 obtain ⟨TL, hTL⟩ : ∃ c, sub ([true, true, true, true, true, true, true, true, true, true, true, true, false, true, false, false, true, true, false, false] ++ [true, true, true, true, true]) (bodyOf Try.f9) = c := ⟨_, rfl⟩
 have tail := fun (N : Nat) (e' : VT) (H'' : AHeap) (f : Fr H' H'') (he : Keep 259 [6, 7, 8, 14, 16, 18] e e') (k20 : gt 259 e' 20 = .int .i64 (i : Nat)) (j21 j22 j24 : Nat) (k21 : gt 259 e' 21 = .pointer (some ⟨j21, 0, none⟩)) (b21 : H''.get j21 = .rw [.int .i64 t.1, .int .i64 t.2] 38 false []) (l21 : j21 < H''.size) (k22 : gt 259 e' 22 = .pointer (some ⟨j22, 0, none⟩)) (b22 : H''.get j22 = .rw [.int .i64 p.f, .int .i64 p.hi] 38 false []) (l22 : j22 < H''.size) (k24 : gt 259 e' 24 = .pointer (some ⟨j24, 0, none⟩)) (b24 : H''.get j24 = .rw p.enc 87 false []) (l24 : j24 < H''.size) (k25 : gt 259 e' 25 = .int .i64 0) (k26 : gt 259 e' 26 = .int .i64 0) =>
  c9T (N := N) (L := H.size) (Nat.le_refl _) (I.next f he) k20 hp hm k21 b21 l21 k22 b22 l22 k24 b24 l24 k25 k26 u4
 rw [hTL] at tail
 simp only [Try.f9,bodyOf,List.cons_append,List.nil_append,sub_nil,sub_seq0,sub_seq1,sub_block,sub_loop,sub_cond0,sub_cond1] at hTL
 rw [hTL]
 clear hTL
 simp (disch:=first|(simp only [yk,seval];done)|omega|(simp only [yz]<;>omega)|fail) only [↓yp,yq0,yq1,yq2,yq3,yq4,yl,ys0,ys1,seval,fitB,newC,endD,endR,yrg,g124,g122,A_indexSlice st_esS_56,hca,qa,k6]
 rw [show H'.get i6 = _ from kb6]
 simp (disch:=first|(simp only [yk,seval];done)|omega|(simp only [yz]<;>omega)|fail) only [↓yp,yq0,yq1,yq2,yq3,yq4,yl,ys0,ys1,seval,fitB,newC,endD,endR,yrg]
 rw [h18 _ _ (by repeat first|exact Fr.refl _|assumption|refine Fr.allocd ?_ _|refine Fr.put ?_ (by first|omega|(simp only [yz]<;>omega)) _)]
 simp (disch:=first|(simp only [yk,seval];done)|omega|(simp only [yz]<;>omega)|fail) only [↓yp,yq0,yq1,yq2,yq3,yq4,yl,ys0,ys1,seval,fitB,newC,endD,endR,yrg]
 refine W_draw [] rfl (by kernel_rfl) (by kernel_rfl) (by first|omega|(simp only [yz]<;>omega)) ?_
 simp (disch:=first|(simp only [yk,seval];done)|omega|(simp only [yz]<;>omega)|fail) only [↓yp,yq0,yq1,yq2,yq3,yq4,yl,ys0,ys1,seval,fitB,newC,endD,endR,yrg,k7,k18,A_indexSlice st_esS_56,A_indexSlice st_esS_49,A_indexSlice st_esS_22,hcb,qb,hcc,qc,neq38,d1,d2,h43r,k6,kb6,hcd,qd]
 refine W_end (tail _ _ _ (by repeat first|exact Fr.refl _|assumption|refine Fr.allocd ?_ _|refine Fr.put ?_ (by first|omega|(simp only [yz]<;>omega)) _) (by (with_reducible repeat first|refine Keep.put ?_ (by decide)|refine Keep.none ?_|assumption|exact Keep.refl _ _ _)) ?k20 H'.size (H'.size + 1) (H'.size + 1 + 1) ?k21 ?b21 (by first|omega|(simp only [yz]<;>omega)) ?k22 ?b22 (by first|omega|(simp only [yz]<;>omega)) ?k24 ?b24 (by first|omega|(simp only [yz]<;>omega)) ?k25 ?k26) ?tl
 case k20 => simp (disch:=first|(simp only [yk,seval];done)|omega|(simp only [yz]<;>omega)|fail) only [yg,seval]
 case k21 => simp (disch:=first|(simp only [yk,seval];done)|omega|(simp only [yz]<;>omega)|fail) only [yg,seval]
 case k22 => simp (disch:=first|(simp only [yk,seval];done)|omega|(simp only [yz]<;>omega)|fail) only [yg,seval]
 case k24 => simp (disch:=first|(simp only [yk,seval];done)|omega|(simp only [yz]<;>omega)|fail) only [yg,seval]
 case k25 => simp (disch:=first|(simp only [yk,seval];done)|omega|(simp only [yz]<;>omega)|fail) only [yg,seval]
 case k26 => simp (disch:=first|(simp only [yk,seval];done)|omega|(simp only [yz]<;>omega)|fail) only [yg,seval]
 case b21 => simp (disch:=first|(simp only [yk,seval];done)|omega|(simp only [yz]<;>omega)|fail) only [↓yp,yq0,yq1,yq2,yq3,yq4,yl,ys0,ys1,seval,fitB,newC,endD,endR,yrg]
 case b22 => simp (disch:=first|(simp only [yk,seval];done)|omega|(simp only [yz]<;>omega)|fail) only [↓yp,yq0,yq1,yq2,yq3,yq4,yl,ys0,ys1,seval,fitB,newC,endD,endR,yrg]
 case b24 => simp (disch:=first|(simp only [yk,seval];done)|omega|(simp only [yz]<;>omega)|fail) only [↓yp,yq0,yq1,yq2,yq3,yq4,yl,ys0,ys1,seval,fitB,newC,endD,endR,yrg]; rfl
 case tl =>
  rintro e' H'' ⟨kp, frx⟩
  have fxs := frx.size
  simp only [size_put,size_alloc] at fxs
  have m124 := kp 124 (by decide)
  have m123 := kp 123 (by decide)
  have m122 := kp 122 (by decide)
  simp (disch:=first|(simp only [yk,seval];done)|omega|(simp only [yz]<;>omega)|fail) only [yg,seval,g124] at m124
  simp (disch:=first|(simp only [yk,seval];done)|omega|(simp only [yz]<;>omega)|fail) only [yg,seval,g123] at m123
  simp (disch:=first|(simp only [yk,seval];done)|omega|(simp only [yz]<;>omega)|fail) only [yg,seval,g122] at m122
  have kp' : Keep 259 [6, 7, 8, 14, 16, 18] _ e' := fun j hj => kp j (by revert hj; simp; omega)
  simp (disch:=first|(simp only [yk,seval];done)|omega|(simp only [yz]<;>omega)|fail) only [↓yp,yq0,yq1,yq2,yq3,yq4,yl,ys0,ys1,seval,fitB,newC,endD,endR,yrg,m124,hw2]
  refine ⟨ps.length - (i + 1), by omega, i + 1, rfl, by omega, I.next (Fr.trans (by repeat first|exact Fr.refl _|assumption|refine Fr.allocd ?_ _|refine Fr.put ?_ (by first|omega|(simp only [yz]<;>omega)) _) frx) (Keep.put (Keep.put (Keep.trans ?_ kp') (by decide)) (by decide)), ?_, ?_, ?_⟩
  ·(with_reducible repeat first|refine Keep.put ?_ (by decide)|refine Keep.none ?_|assumption|exact Keep.refl _ _ _)
  ·simp (disch:=first|(simp only [yk,seval];done)|omega|(simp only [yz]<;>omega)|fail) only [yg,seval]
  ·simp (disch:=first|(simp only [yk,seval];done)|omega|(simp only [yz]<;>omega)|fail) only [yg,seval,m123]
  ·simp (disch:=first|(simp only [yk,seval];done)|omega|(simp only [yz]<;>omega)|fail) only [yg,seval,m122]
end
end Go.Am.K
