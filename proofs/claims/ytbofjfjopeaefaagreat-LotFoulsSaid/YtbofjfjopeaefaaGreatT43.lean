import Derived.Test.YtbofjfjopeaefaaGreatT42
set_option linter.unusedSimpArgs false
set_option linter.unusedVariables false
namespace Go.Am.K
open Go.Proofs
variable {T : Tab} {P : Program} {N L : Nat} {H H' H'' : AHeap} {Q : Bool → Value → AHeap → Prop}
def posB : List Pk → List Int → List Int → List Int → Bool
 | p :: ps, n :: l, f :: fl, x :: il => bif truB p n f x then posB ps l fl il else false
 | _, _, _, _ => true
theorem posB_drop {ps : List Pk} {l fl il : List Int} {j : Nat} {p : Pk} {n f x : Int} (h1 : ps[j]? = some p) (h2 : l[j]? = some n) (h3 : fl[j]? = some f) (h4 : il[j]? = some x) :
  posB (ps.drop j) (l.drop j) (fl.drop j) (il.drop j) = bif truB p n f x then posB (ps.drop (j + 1)) (l.drop (j + 1)) (fl.drop (j + 1)) (il.drop (j + 1)) else false := by
 obtain ⟨i1, e1⟩ := List.getElem?_eq_some_iff.1 h1
 obtain ⟨i2, e2⟩ := List.getElem?_eq_some_iff.1 h2
 obtain ⟨i3, e3⟩ := List.getElem?_eq_some_iff.1 h3
 obtain ⟨i4, e4⟩ := List.getElem?_eq_some_iff.1 h4
 rw [List.drop_eq_getElem_cons i1, List.drop_eq_getElem_cons i2, List.drop_eq_getElem_cons i3, List.drop_eq_getElem_cons i4, e1, e2, e3, e4]
 rfl
set_option maxHeartbeats 2000000 in
theorem c95g {p : Pk} {n f i : Int} (h : p.Ok) (hn : 0 ≤ n ∧ n ≤ 6) : acall tabA (aexec tabA Tryz.prog (N + 100)) 73 [.agg ⟨p.enc⟩, .int .i64 n, .int .i64 f, .int .i64 i] H = some (true, .bool (truB p n f i), H, H.size) := by
 cases hf : wi f p.f p.hi
 ·refine call_quiet (k := 35) (rs := [.tmp 8]) rfl fn_73 rfl rfl rfl ?_ rfl
  have h66 := fun (N : Nat) (H : AHeap) => c66 (N := N) (H := H) h
  have h58 := fun (N : Nat) (H : AHeap) (n lo hi : Int) => c58 (N := N) (H := H) (n := n) (lo := lo) (hi := hi)
  obtain ⟨h1, h2, h3, h4⟩ := h
  have w1 : w64 (p.s - n) = p.s - n := w64_of (by omega)
  unfold truB
  rw [hf]
  simp only [Pk.enc] at h66
  simp (disch:=first|(simp only [yk,seval];done)|omega|(simp only [yz]<;>omega)|fail) only [↓yp,yA,ys0,ys1,seval,fitB,newC,endD,endR,yrg,Pk.enc]
  refine W_draw [6, 7] rfl (by kernel_rfl) (by kernel_rfl) (by first|omega|(simp only [yz]<;>omega)) ?_
  simp (disch:=first|(simp only [yk,seval];done)|omega|(simp only [yz]<;>omega)|fail) only [↓yp,yA,ys0,ys1,seval,fitB,newC,endD,endR,yrg,h66,w1]
  simp (disch:=first|(simp only [yk,seval];done)|omega|(simp only [yz]<;>omega)|fail) only [↓yp,yA,ys0,ys1,seval,fitB,newC,endD,endR,yrg,h58,hf]
 ·cases hi : wi i 0 n
  ·refine call_quiet (k := 35) (rs := [.tmp 8]) rfl fn_73 rfl rfl rfl ?_ rfl
   have h66 := fun (N : Nat) (H : AHeap) => c66 (N := N) (H := H) h
   have h58 := fun (N : Nat) (H : AHeap) (n lo hi : Int) => c58 (N := N) (H := H) (n := n) (lo := lo) (hi := hi)
   obtain ⟨h1, h2, h3, h4⟩ := h
   have w1 : w64 (p.s - n) = p.s - n := w64_of (by omega)
   unfold truB
   rw [hf, hi]
   simp only [Pk.enc] at h66
   simp (disch:=first|(simp only [yk,seval];done)|omega|(simp only [yz]<;>omega)|fail) only [↓yp,yA,ys0,ys1,seval,fitB,newC,endD,endR,yrg,Pk.enc]
   refine W_draw [6, 7] rfl (by kernel_rfl) (by kernel_rfl) (by first|omega|(simp only [yz]<;>omega)) ?_
   simp (disch:=first|(simp only [yk,seval];done)|omega|(simp only [yz]<;>omega)|fail) only [↓yp,yA,ys0,ys1,seval,fitB,newC,endD,endR,yrg,h66,w1]
   simp (disch:=first|(simp only [yk,seval];done)|omega|(simp only [yz]<;>omega)|fail) only [↓yp,yA,ys0,ys1,seval,fitB,newC,endD,endR,yrg,h58,hf,hi]
  ·exact c95 h hn hf hi
section
variable {a a' al af ai : Option Addr} {cap cap' cl cf ci : Nat} {ps : List Pk} {gs : List Gd} {lots : Int} {l fl il : List Int}
set_option maxHeartbeats 2000000 in
theorem c41e (hs : Rw pkE H a ps) (hgs : Rw gdE H a' gs) (hl : Rw intE H al l) (hll : l.length ≤ 8) (he : lotE ps gs lots l ≠ 0) :
  acall tabA (aexec tabA Tryz.prog (N + 500)) 18 [.agg ⟨[.slice a ps.length cap, .slice a' gs.length cap', .int .i64 lots]⟩, .slice al l.length cl, .slice af fl.length cf, .slice ai il.length ci] H = some (true, .tuple ⟨[.bool false, .int .i64 (lotE ps gs lots l)]⟩, H, H.size) := by
 refine call_quiet (k := 57) (rs := [.tmp 8, .tmp 9]) rfl fn_18 rfl rfl rfl ?_ rfl
 have fr : Fr H (H.alloc (.rw [.slice a ps.length cap, .slice a' gs.length cap', .int .i64 lots] 25 false [])) := by (repeat (first | exact Fr.refl _ | assumption | refine Fr.allocd ?_ _ | refine Fr.put ?_ (by first | omega | (simp only [yz] <;> omega)) _))
 have hlo := fun (N : Nat) => c74g (N := N) (cap := cap) (cap' := cap') (cl := cl) (lots := lots) (hs.fr fr) (hgs.fr fr) (hl.fr fr) hll
 have hA : decide (lotE ps gs lots l = 0) = false := by simp [he]
 simp (disch:=first|(simp only [yk,seval];done)|omega|(simp only [yz]<;>omega)|fail) only [↓yp,yA,ys0,ys1,seval,fitB,newC,endD,endR,yrg,hlo,hA]
set_option maxHeartbeats 4000000 in
theorem c41n (h : LtR H a a' al ps gs lots l) (hn : ¬ (fl.length = ps.length ∧ il.length = ps.length)) :
  acall tabA (aexec tabA Tryz.prog (N + 800)) 18 [.agg ⟨[.slice a ps.length cap, .slice a' gs.length cap', .int .i64 lots]⟩, .slice al l.length cl, .slice af fl.length cf, .slice ai il.length ci] H = some (true, .tuple ⟨[.bool false, .int .i64 3]⟩, H, H.size) := by
 refine call_quiet (k := 57) (rs := [.tmp 8, .tmp 9]) rfl fn_18 rfl rfl rfl ?_ rfl
 have fr : Fr H (H.alloc (.rw [.slice a ps.length cap, .slice a' gs.length cap', .int .i64 lots] 25 false [])) := by (repeat (first | exact Fr.refl _ | assumption | refine Fr.allocd ?_ _ | refine Fr.put ?_ (by first | omega | (simp only [yz] <;> omega)) _))
 have h0 := h.fr fr
 have h74 := fun (N : Nat) => c74 (N := N) (cap := cap) (cap' := cap') (cl := cl) h0.st h0.rl h.lo
 cases e1 : decide ((fl.length : Int) = (ps.length : Int))
 ·simp (disch:=first|(simp only [yk,seval];done)|omega|(simp only [yz]<;>omega)|fail) only [↓yp,yA,ys0,ys1,seval,fitB,newC,endD,endR,yrg,h74,lenV_slice st_esS_22,lenV_slice st_esS_26,e1]
 have e2 : decide ((il.length : Int) = (ps.length : Int)) = false := by
  have := of_decide_eq_true e1
  simp
  omega
 simp (disch:=first|(simp only [yk,seval];done)|omega|(simp only [yz]<;>omega)|fail) only [↓yp,yA,ys0,ys1,seval,fitB,newC,endD,endR,yrg,h74,lenV_slice st_esS_22,lenV_slice st_esS_26,e1,e2]
set_option maxHeartbeats 4000000 in
theorem c41g (h : LtR H a a' al ps gs lots l) (hf : Rw intE H af fl) (hi : Rw intE H ai il) (n1 : fl.length = ps.length) (n2 : il.length = ps.length) :
  acall tabA (aexec tabA Tryz.prog (N + 800)) 18 [.agg ⟨[.slice a ps.length cap, .slice a' gs.length cap', .int .i64 lots]⟩, .slice al l.length cl, .slice af fl.length cf, .slice ai il.length ci] H = some (true, .tuple ⟨[.bool (posB ps l fl il), .int .i64 0]⟩, H, H.size) := by
 refine call_quiet (k := 57) (rs := [.tmp 8, .tmp 9]) rfl fn_18 rfl rfl rfl ?_ rfl
 have fr : Fr H (H.alloc (.rw [.slice a ps.length cap, .slice a' gs.length cap', .int .i64 lots] 25 false [])) := by (repeat (first | exact Fr.refl _ | assumption | refine Fr.allocd ?_ _ | refine Fr.put ?_ (by first | omega | (simp only [yz] <;> omega)) _))
 have h0 := h.fr fr
 have h74 := fun (N : Nat) => c74 (N := N) (cap := cap) (cap' := cap') (cl := cl) h0.st h0.rl h.lo
 have hl4 := h.st.st.l4
 have e1 : decide ((fl.length : Int) = (ps.length : Int)) = true := by rw [n1]; simp
 have e2 : decide ((il.length : Int) = (ps.length : Int)) = true := by rw [n2]; simp
 simp (disch:=first|(simp only [yk,seval];done)|omega|(simp only [yz]<;>omega)|fail) only [↓yp,yA,ys0,ys1,seval,fitB,newC,endD,endR,yrg,h74,lenV_slice st_esS_22,lenV_slice st_esS_26,e1,e2]
 refine W_while (n := 57) 200 (fun q e' H' => ∃ i : Nat, q = ps.length - i ∧ i ≤ ps.length ∧ gt 57 e' 36 = .int .i64 (i : Nat) ∧ gt 57 e' 35 = .int .i64 ps.length ∧ gt 57 e' 34 = .slice a ps.length cap ∧ gt 57 e' 1 = .slice al l.length cl ∧ gt 57 e' 2 = .slice af fl.length cf ∧ gt 57 e' 3 = .slice ai il.length ci ∧ Fr H H' ∧ posB ps l fl il = posB (ps.drop i) (l.drop i) (fl.drop i) (il.drop i))
  ?_ 4 ps.length ⟨0, by omega, by omega, by simp (disch:=first|(simp only [yk,seval];done)|omega|(simp only [yz]<;>omega)|fail) only [yg,seval] <;> rfl, by simp (disch:=first|(simp only [yk,seval];done)|omega|(simp only [yz]<;>omega)|fail) only [yg,seval], by simp (disch:=first|(simp only [yk,seval];done)|omega|(simp only [yz]<;>omega)|fail) only [yg,seval], by simp (disch:=first|(simp only [yk,seval];done)|omega|(simp only [yz]<;>omega)|fail) only [yg,seval], by simp (disch:=first|(simp only [yk,seval];done)|omega|(simp only [yz]<;>omega)|fail) only [yg,seval], by simp (disch:=first|(simp only [yk,seval];done)|omega|(simp only [yz]<;>omega)|fail) only [yg,seval], by (repeat (first | exact Fr.refl _ | assumption | refine Fr.allocd ?_ _ | refine Fr.put ?_ (by first | omega | (simp only [yz] <;> omega)) _)), by simp⟩ (by omega) (by omega)
 rintro M1 q e H' ⟨i, rfl, hi', g36, g35, g34, g1, g2, g3, frx, hj⟩
 have f0 := frx.size
 simp (disch:=first|(simp only [yk,seval];done)|omega|(simp only [yz]<;>omega)|fail) only [↓yp,yA,ys0,ys1,seval,fitB,newC,endD,endR,yrg,g36,g35]
 refine ⟨fun hA => ?_, fun hA => ?_⟩
 ·have hlt : i < ps.length := by simpa using hA
  have hl1 : i < l.length := by rw [h.lo.len]; exact hlt
  have hl2 : i < fl.length := by rw [n1]; exact hlt
  have hl3 : i < il.length := by rw [n2]; exact hlt
  obtain ⟨p, hp⟩ : ∃ p, ps[i]? = some p := ⟨ps[i], by simp [hlt]⟩
  obtain ⟨n, hn⟩ : ∃ n, l[i]? = some n := ⟨l[i], by simp [hl1]⟩
  obtain ⟨f, hff⟩ : ∃ f, fl[i]? = some f := ⟨fl[i], by simp [hl2]⟩
  obtain ⟨x, hx⟩ : ∃ x, il[i]? = some x := ⟨il[i], by simp [hl3]⟩
  rw [posB_drop hp hn hff hx] at hj
  obtain ⟨b, o, c, rfl, hb, hc, hq⟩ := (h.st.hs.fr frx).at_ hp
  have q0 : part c (o + i * 4) 5 = some (.agg ⟨p.enc⟩) := part_of hq rfl
  obtain ⟨b1, o1, c1, rfl, hb1, hc1, hq1⟩ := (h.rl.fr frx).at_ hn
  have q1 := cell_of hq1
  obtain ⟨b2, o2, c2, rfl, hb2, hc2, hq2⟩ := (hf.fr frx).at_ hff
  have q2 := cell_of hq2
  obtain ⟨b3, o3, c3, rfl, hb3, hc3, hq3⟩ := (hi.fr frx).at_ hx
  have q3 := cell_of hq3
  rw [show i * intE.z = i * 1 from rfl, Nat.mul_one] at q1 q2 q3
  have hno := h.lo.in h.st.pk n (List.mem_of_getElem? hn)
  have h95 := fun (N : Nat) (H : AHeap) => c95g (N := N) (H := H) (n := n) (f := f) (i := x) (h.st.pk p (List.mem_of_getElem? hp)) hno
  have hw2 : w64 ((i : Int) + 1) = ((i + 1 : Nat) : Int) := by rw [w64_of (by omega)]; omega
  simp only [Pk.enc] at q0 h95
  simp (disch:=first|(simp only [yk,seval];done)|omega|(simp only [yz]<;>omega)|fail) only [↓yp,yA,ys0,ys1,seval,fitB,newC,endD,endR,yrg,g36,g34,A_indexSlice st_esS_22,hc,q0]
  refine W_draw [] rfl (by kernel_rfl) (by kernel_rfl) (by first|omega|(simp only [yz]<;>omega)) ?_
  cases htb : truB p n f x
  ·rw [htb] at h95 hj
   simp (disch:=first|(simp only [yk,seval];done)|omega|(simp only [yz]<;>omega)|fail) only [↓yp,yA,ys0,ys1,seval,fitB,newC,endD,endR,yrg,g36,g35,g34,g1,g2,g3,A_indexSlice st_esS_26,hc1,hc2,hc3,q1,q2,q3,h95]
   rw [hj, cond_false]
  rw [htb] at h95 hj
  rw [cond_true] at hj
  simp (disch:=first|(simp only [yk,seval];done)|omega|(simp only [yz]<;>omega)|fail) only [↓yp,yA,ys0,ys1,seval,fitB,newC,endD,endR,yrg,g36,g35,g34,g1,g2,g3,A_indexSlice st_esS_26,hc1,hc2,hc3,q1,q2,q3,h95,hw2]
  refine ⟨ps.length - (i + 1), by omega, i + 1, rfl, by omega, ?_, ?_, ?_, ?_, ?_, ?_, by (repeat (first | exact Fr.refl _ | assumption | refine Fr.allocd ?_ _ | refine Fr.put ?_ (by first | omega | (simp only [yz] <;> omega)) _)), hj⟩
  ·simp (disch:=first|(simp only [yk,seval];done)|omega|(simp only [yz]<;>omega)|fail) only [yg,seval]
  ·simp (disch:=first|(simp only [yk,seval];done)|omega|(simp only [yz]<;>omega)|fail) only [yg,seval,g35]
  ·simp (disch:=first|(simp only [yk,seval];done)|omega|(simp only [yz]<;>omega)|fail) only [yg,seval,g34]
  ·simp (disch:=first|(simp only [yk,seval];done)|omega|(simp only [yz]<;>omega)|fail) only [yg,seval,g1]
  ·simp (disch:=first|(simp only [yk,seval];done)|omega|(simp only [yz]<;>omega)|fail) only [yg,seval,g2]
  ·simp (disch:=first|(simp only [yk,seval];done)|omega|(simp only [yz]<;>omega)|fail) only [yg,seval,g3]
 ·have hie : i = ps.length := by have := of_decide_eq_false hA; omega
  subst hie
  rw [List.drop_length] at hj
  have hj' : posB ps l fl il = true := by rw [hj]; rfl
  simp (disch:=first|(simp only [yk,seval];done)|omega|(simp only [yz]<;>omega)|fail) only [↓yp,yA,ys0,ys1,seval,fitB,newC,endD,endR,yrg,hj']
end
end Go.Am.K
namespace Go.Am.K
open Go.Proofs
variable {T : Tab} {P : Program} {N L : Nat} {H H' H'' : AHeap} {Q : Bool → Value → AHeap → Prop}
set_option maxHeartbeats 2000000 in
theorem z72 {p : Pk} {m f x : Int} (hs : 0 ≤ p.s ∧ p.s ≤ 6) (hm : 0 ≤ m ∧ m ≤ 6) (hf : 0 ≤ f ∧ f ≤ 6) : acall tabA (aexec tabA Tryz.prog (N + 40)) 72 [.agg ⟨p.enc⟩, .int .i64 m, .int .i64 f, .int .i64 x] H = some (true, .bool (canB p m f x), H, H.size) := by
 cases h0 : decide (0 ≤ x)
 ·refine call_quiet (k := 32) (rs := [.tmp 8]) rfl fn_72 rfl rfl rfl ?_ rfl
  unfold canB
  rw [h0]
  simp (disch:=first|(simp only [yk,seval];done)|omega|(simp only [yz]<;>omega)|fail) only [↓yp,yA,ys0,ys1,seval,fitB,newC,endD,endR,yrg,Pk.enc,h0]
 ·cases h1 : decide (x ≤ m)
  ·refine call_quiet (k := 32) (rs := [.tmp 8]) rfl fn_72 rfl rfl rfl ?_ rfl
   unfold canB
   rw [h0, h1]
   simp (disch:=first|(simp only [yk,seval];done)|omega|(simp only [yz]<;>omega)|fail) only [↓yp,yA,ys0,ys1,seval,fitB,newC,endD,endR,yrg,Pk.enc,h0,h1]
  ·have h0' := of_decide_eq_true h0
   have h1' := of_decide_eq_true h1
   exact c116 hs hm hf ⟨h0', by omega⟩
def acB (p : Pk) (n f x : Int) (j : Nat) : Bool := (decide (p.f ≤ f) && decide (f < p.f + (j : Int))) && canB p n f x
theorem acB_0 {p : Pk} {n f x : Int} : acB p n f x 0 = false := by
 unfold acB
 have : (decide (p.f ≤ f) && decide (f < p.f + ((0 : Nat) : Int))) = false := by
  rw [Bool.eq_false_iff]; simp only [ne_eq,Bool.and_eq_true,decide_eq_true_eq]; omega
 rw [this]; rfl
theorem acB_t {p : Pk} {n f x : Int} {j : Nat} (h : acB p n f x j = true) : acB p n f x (j + 1) = true := by
 unfold acB at *
 simp only [Bool.and_eq_true,decide_eq_true_eq] at *
 exact ⟨⟨h.1.1, by omega⟩, h.2⟩
theorem acB_e {p : Pk} {n f x : Int} {j : Nat} (hf : p.f + (j : Int) = f) : acB p n f x (j + 1) = canB p n f x := by
 unfold acB
 have : (decide (p.f ≤ f) && decide (f < p.f + ((j + 1 : Nat) : Int))) = true := by
  simp only [Bool.and_eq_true,decide_eq_true_eq]; omega
 rw [this, Bool.true_and]
theorem acB_n {p : Pk} {n f x : Int} {j : Nat} (hf : p.f + (j : Int) ≠ f) : acB p n f x (j + 1) = acB p n f x j := by
 unfold acB
 have : decide (f < p.f + ((j + 1 : Nat) : Int)) = decide (f < p.f + (j : Int)) := by
  rw [Bool.eq_iff_iff]; simp only [decide_eq_true_eq]; omega
 rw [this]
theorem acB_all {p : Pk} {n f x : Int} (h : p.f ≤ p.hi) : acB p n f x (p.hi + 1 - p.f).toNat = truB p n f x := by
 unfold acB canB truB wi
 rw [Bool.eq_iff_iff]
 simp only [Bool.and_eq_true,decide_eq_true_eq]
 omega
section
variable {a a' al af ai : Option Addr} {cap cap' cl cf ci : Nat} {ps : List Pk} {gs : List Gd} {lots : Int} {l fl il : List Int}
set_option maxHeartbeats 2000000 in
theorem z17e (hs : Rw pkE H a ps) (hgs : Rw gdE H a' gs) (hl : Rw intE H al l) (hll : l.length ≤ 8) (he : lotE ps gs lots l ≠ 0) :
  acall tabA (aexec tabA Tryz.prog (N + 700)) 17 [.agg ⟨[.slice a ps.length cap, .slice a' gs.length cap', .int .i64 lots]⟩, .slice al l.length cl, .slice af fl.length cf, .slice ai il.length ci] H = some (true, .tuple ⟨[.bool false, .int .i64 (lotE ps gs lots l)]⟩, H, H.size) := by
 refine call_quiet (k := 79) (rs := [.tmp 8, .tmp 9]) rfl fn_17 rfl rfl rfl ?_ rfl
 have fr : Fr H (H.alloc (.rw [.slice a ps.length cap, .slice a' gs.length cap', .int .i64 lots] 34 false [])) := by (repeat (first | exact Fr.refl _ | assumption | refine Fr.allocd ?_ _ | refine Fr.put ?_ (by first | omega | (simp only [yz] <;> omega)) _))
 have hlo := fun (N : Nat) => c80 (N := N) (cap := cap) (cap' := cap') (cl := cl) (lots := lots) (hs.fr fr) (hgs.fr fr) (hl.fr fr) hll
 have hA : decide (lotE ps gs lots l = 0) = false := by simp [he]
 simp (disch:=first|(simp only [yk,seval];done)|omega|(simp only [yz]<;>omega)|fail) only [↓yp,yA,ys0,ys1,seval,fitB,newC,endD,endR,yrg,hlo,hA]
set_option maxHeartbeats 4000000 in
theorem z17n (hs : Rw pkE H a ps) (hgs : Rw gdE H a' gs) (hl : Rw intE H al l) (hll : l.length ≤ 8) (he : lotE ps gs lots l = 0) (hn : ¬ (fl.length = ps.length ∧ il.length = ps.length)) :
  acall tabA (aexec tabA Tryz.prog (N + 700)) 17 [.agg ⟨[.slice a ps.length cap, .slice a' gs.length cap', .int .i64 lots]⟩, .slice al l.length cl, .slice af fl.length cf, .slice ai il.length ci] H = some (true, .tuple ⟨[.bool false, .int .i64 3]⟩, H, H.size) := by
 refine call_quiet (k := 79) (rs := [.tmp 8, .tmp 9]) rfl fn_17 rfl rfl rfl ?_ rfl
 have fr : Fr H (H.alloc (.rw [.slice a ps.length cap, .slice a' gs.length cap', .int .i64 lots] 34 false [])) := by (repeat (first | exact Fr.refl _ | assumption | refine Fr.allocd ?_ _ | refine Fr.put ?_ (by first | omega | (simp only [yz] <;> omega)) _))
 obtain ⟨-, -, e3⟩ := lotE_ok he
 have hlen := e3.len
 have hlo := fun (N : Nat) => c80 (N := N) (cap := cap) (cap' := cap') (cl := cl) (lots := lots) (hs.fr fr) (hgs.fr fr) (hl.fr fr) hll
 have hA : decide (lotE ps gs lots l = 0) = true := by simp [he]
 cases h1 : decide ((fl.length : Int) = (l.length : Int))
 ·simp (disch:=first|(simp only [yk,seval];done)|omega|(simp only [yz]<;>omega)|fail) only [↓yp,yA,ys0,ys1,seval,fitB,newC,endD,endR,yrg,hlo,hA,lenV_slice st_esS_26,h1]
 have h2 : decide ((il.length : Int) = (l.length : Int)) = false := by
  have := of_decide_eq_true h1
  simp
  omega
 simp (disch:=first|(simp only [yk,seval];done)|omega|(simp only [yz]<;>omega)|fail) only [↓yp,yA,ys0,ys1,seval,fitB,newC,endD,endR,yrg,hlo,hA,lenV_slice st_esS_26,h1,h2]
set_option maxHeartbeats 8000000 in
theorem z17 (hs : Rw pkE H a ps) (hgs : Rw gdE H a' gs) (hl : Rw intE H al l) (hll : l.length ≤ 8) (he : lotE ps gs lots l = 0) (hf : Rw intE H af fl) (hi : Rw intE H ai il) (n1 : fl.length = ps.length) (n2 : il.length = ps.length) :
  acall tabA (aexec tabA Tryz.prog (N + 6000)) 17 [.agg ⟨[.slice a ps.length cap, .slice a' gs.length cap', .int .i64 lots]⟩, .slice al l.length cl, .slice af fl.length cf, .slice ai il.length ci] H = some (true, .tuple ⟨[.bool (posB ps l fl il), .int .i64 0]⟩, H, H.size) := by
 refine call_quiet (k := 79) (rs := [.tmp 8, .tmp 9]) rfl fn_17 rfl rfl rfl ?_ rfl
 have fr : Fr H (H.alloc (.rw [.slice a ps.length cap, .slice a' gs.length cap', .int .i64 lots] 34 false [])) := by (repeat (first | exact Fr.refl _ | assumption | refine Fr.allocd ?_ _ | refine Fr.put ?_ (by first | omega | (simp only [yz] <;> omega)) _))
 obtain ⟨e1, e2, e3⟩ := lotE_ok he
 have hlen := e3.len
 have hl4 := e1.l4
 have hin := lo_in e1 e3
 have hlo := fun (N : Nat) => c80 (N := N) (cap := cap) (cap' := cap') (cl := cl) (lots := lots) (hs.fr fr) (hgs.fr fr) (hl.fr fr) hll
 have hA : decide (lotE ps gs lots l = 0) = true := by simp [he]
 have h1 : decide ((fl.length : Int) = (l.length : Int)) = true := by simp; omega
 have h2 : decide ((il.length : Int) = (l.length : Int)) = true := by simp; omega
 simp (disch:=first|(simp only [yk,seval];done)|omega|(simp only [yz]<;>omega)|fail) only [↓yp,yA,ys0,ys1,seval,fitB,newC,endD,endR,yrg,hlo,hA,lenV_slice st_esS_26,h1,h2]
 refine W_while (n := 79) 1200 (fun q e' H' => ∃ i : Nat, q = ps.length - i ∧ i ≤ ps.length ∧ gt 79 e' 11 = .int .i64 (i : Nat) ∧ gt 79 e' 4 = .pointer (some ⟨H.size, 0, none⟩) ∧ gt 79 e' 1 = .slice al l.length cl ∧ gt 79 e' 2 = .slice af fl.length cf ∧ gt 79 e' 3 = .slice ai il.length ci ∧ Fr (H.alloc (.rw [.slice a ps.length cap, .slice a' gs.length cap', .int .i64 lots] 34 false [])) H' ∧ posB ps l fl il = posB (ps.drop i) (l.drop i) (fl.drop i) (il.drop i))
  ?_ 4 ps.length ⟨0, by omega, by omega, by simp (disch:=first|(simp only [yk,seval];done)|omega|(simp only [yz]<;>omega)|fail) only [yg,seval] <;> rfl, by simp (disch:=first|(simp only [yk,seval];done)|omega|(simp only [yz]<;>omega)|fail) only [yg,seval], by simp (disch:=first|(simp only [yk,seval];done)|omega|(simp only [yz]<;>omega)|fail) only [yg,seval], by simp (disch:=first|(simp only [yk,seval];done)|omega|(simp only [yz]<;>omega)|fail) only [yg,seval], by simp (disch:=first|(simp only [yk,seval];done)|omega|(simp only [yz]<;>omega)|fail) only [yg,seval], Fr.refl _, by simp⟩ (by omega) (by omega)
 rintro M q e H' ⟨i, rfl, hi', g11, g4, g1, g2, g3, frx, hj⟩
 have f0 := frx.size
 simp only [size_alloc] at f0
 have b1 : H'.get H.size = (.rw [.slice a ps.length cap, .slice a' gs.length cap', .int .i64 lots] 34 false []) := by rw [frx.same _ (by first|omega|(simp only [yz]<;>omega))]; exact get_alloc_same
 simp (disch:=first|(simp only [yk,seval];done)|omega|(simp only [yz]<;>omega)|fail) only [↓yp,yA,ys0,ys1,seval,fitB,newC,endD,endR,yrg,g11,g1,lenV_slice st_esS_26]
 refine ⟨fun hT => ?_, fun hT => ?_⟩
 ·have hl1 : i < l.length := by simpa using hT
  have hlt : i < ps.length := by omega
  have hl2 : i < fl.length := by omega
  have hl3 : i < il.length := by omega
  obtain ⟨p, hp⟩ : ∃ p, ps[i]? = some p := ⟨ps[i], by simp [hlt]⟩
  obtain ⟨n, hn⟩ : ∃ n, l[i]? = some n := ⟨l[i], by simp [hl1]⟩
  obtain ⟨f, hff⟩ : ∃ f, fl[i]? = some f := ⟨fl[i], by simp [hl2]⟩
  obtain ⟨x, hx⟩ : ∃ x, il[i]? = some x := ⟨il[i], by simp [hl3]⟩
  rw [posB_drop hp hn hff hx] at hj
  have frH : Fr H H' := fr.trans frx
  have hpm := List.mem_of_getElem? hp
  have hpo : p.Ok := Pk.isB_ok (List.all_eq_true.1 e1.pb p hpm)
  have hsp := e1.sp p hpm
  have hno := hin n (List.mem_of_getElem? hn)
  obtain ⟨b, o, c, rfl, hb, hc, hq⟩ := (hs.fr frH).at_ hp
  have q0 : part c (o + i * 4) 5 = some (.agg ⟨p.enc⟩) := part_of hq rfl
  simp only [Pk.enc] at q0
  simp (disch:=first|(simp only [yk,seval];done)|omega|(simp only [yz]<;>omega)|fail) only [↓yp,yA,ys0,ys1,seval,fitB,newC,endD,endR,yrg,g11,g4,b1,A_indexSlice st_esS_31,hc,q0]
  have h68 := fun (M : Nat) (hM : 150 ≤ M) (Q : Bool → Value → AHeap → Prop) => c68 (Q := Q) (H := H') (L := H.size) (M := M) hpo hsp (by first|omega|(simp only [yz]<;>omega)) hM
  simp only [Pk.enc] at h68
  refine h68 _ (by omega) _ ?_
  intro bb cc H1 fr1 hbb hr
  have f1 := fr1.size
  obtain ⟨k, hk⟩ : ∃ k, (p.hi + 1 - p.f).toNat = k := ⟨_, rfl⟩
  have hk7 : k ≤ 7 ∧ p.f + (k : Int) = p.hi + 1 ∧ 0 ≤ p.f ∧ p.hi ≤ 6 := by
   obtain ⟨k1, k2, k3, k4⟩ := hpo
   have : p.hi ≤ 6 := by unfold Pk.hi; split <;> omega
   omega
  rw [hk] at hr
  have frx1 := frx.trans fr1
  simp (disch:=first|(simp only [yk,seval];done)|omega|(simp only [yz]<;>omega)|fail) only [↓yp,yA,ys0,ys1,seval,fitB,newC,endD,endR,yrg,lenV_slice st_esS_26,hk]
  refine W_while (n := 79) 100 (fun q e' H' => ∃ j : Nat, q = k - j ∧ j ≤ k ∧ gt 79 e' 46 = .int .i64 (j : Nat) ∧ gt 79 e' 45 = .int .i64 (k : Nat) ∧ gt 79 e' 44 = .slice (some ⟨bb, 0, none⟩) k cc ∧ gt 79 e' 12 = .bool (acB p n f x j) ∧ gt 79 e' 11 = .int .i64 (i : Nat) ∧ gt 79 e' 4 = .pointer (some ⟨H.size, 0, none⟩) ∧ gt 79 e' 1 = .slice al l.length cl ∧ gt 79 e' 2 = .slice af fl.length cf ∧ gt 79 e' 3 = .slice ai il.length ci ∧ Fr H1 H')
   ?_ 20 k ⟨0, by omega, by omega, by simp (disch:=first|(simp only [yk,seval];done)|omega|(simp only [yz]<;>omega)|fail) only [yg,seval] <;> rfl, by simp (disch:=first|(simp only [yk,seval];done)|omega|(simp only [yz]<;>omega)|fail) only [yg,seval], by simp (disch:=first|(simp only [yk,seval];done)|omega|(simp only [yz]<;>omega)|fail) only [yg,seval], by rw [acB_0]; simp (disch:=first|(simp only [yk,seval];done)|omega|(simp only [yz]<;>omega)|fail) only [yg,seval], by simp (disch:=first|(simp only [yk,seval];done)|omega|(simp only [yz]<;>omega)|fail) only [yg,seval,g11], by simp (disch:=first|(simp only [yk,seval];done)|omega|(simp only [yz]<;>omega)|fail) only [yg,seval,g4], by simp (disch:=first|(simp only [yk,seval];done)|omega|(simp only [yz]<;>omega)|fail) only [yg,seval,g1], by simp (disch:=first|(simp only [yk,seval];done)|omega|(simp only [yz]<;>omega)|fail) only [yg,seval,g2], by simp (disch:=first|(simp only [yk,seval];done)|omega|(simp only [yz]<;>omega)|fail) only [yg,seval,g3], Fr.refl _⟩ (by omega) (by omega)
  rintro M2 q e4 H2 ⟨j, rfl, hj2, g46, g45, g44, g12, g11, g4, g1, g2, g3, fr2⟩
  have f2 := fr2.size
  have fry := frx1.trans fr2
  have frH2 : Fr H H2 := fr.trans fry
  have b1 := ((fr1.trans fr2).same H.size (by omega)).trans b1
  simp (disch:=first|(simp only [yk,seval];done)|omega|(simp only [yz]<;>omega)|fail) only [↓yp,yA,ys0,ys1,seval,fitB,newC,endD,endR,yrg,g46,g45]
  refine ⟨fun hB => ?_, fun hB => ?_⟩
  ·have hjk : j < k := by simpa using hB
   obtain ⟨b6, o6, c6, e6, hb6, hc6, hq6⟩ := (hr.fr fr2).at_ (rng_at (f := p.f) hjk)
   cases e6
   have q6 := cell_of hq6
   obtain ⟨b3, o3, c3, rfl, hb3, hc3, hq3⟩ := (hl.fr frH2).at_ hn
   have q3 := cell_of hq3
   obtain ⟨b4, o4, c4, rfl, hb4, hc4, hq4⟩ := (hf.fr frH2).at_ hff
   have q4 := cell_of hq4
   obtain ⟨b5, o5, c5, rfl, hb5, hc5, hq5⟩ := (hi.fr frH2).at_ hx
   have q5 := cell_of hq5
   have hcH2 : cellsOf (H2.get b) = some c := by rw [(fr1.trans fr2).same _ hb]; exact hc
   rw [show i * intE.z = i * 1 from rfl, Nat.mul_one] at q3 q4 q5
   rw [show j * intE.z = j * 1 from rfl, Nat.mul_one, Nat.zero_add] at q6
   have h72 := fun (N : Nat) (H : AHeap) => z72 (N := N) (H := H) (p := p) (m := n) (f := p.f + (j : Nat)) (x := x) (by obtain ⟨k1, k2, k3, k4⟩ := hpo; omega) hno (by omega)
   simp only [Pk.enc] at h72
   have hw2 : w64 ((j : Int) + 1) = ((j + 1 : Nat) : Int) := by rw [w64_of (by omega)]; omega
   simp (disch:=first|(simp only [yk,seval];done)|omega|(simp only [yz]<;>omega)|fail) only [↓yp,yA,ys0,ys1,seval,fitB,newC,endD,endR,yrg,g46,g44,A_indexSlice st_esS_26,hc6,q6]
   refine W_draw [] rfl (by kernel_rfl) (by kernel_rfl) (by first|omega|(simp only [yz]<;>omega)) ?_
   have fin : ∀ (e5 : VT), Keep 79 [1, 2, 3, 4, 11, 44, 45] e4 e5 → gt 79 e5 46 = .int .i64 ((j + 1 : Nat) : Int) → gt 79 e5 12 = .bool (acB p n f x (j + 1)) →
     ∃ j' : Nat, k - (j + 1) = k - j' ∧ j' ≤ k ∧ gt 79 e5 46 = .int .i64 (j' : Nat) ∧ gt 79 e5 45 = .int .i64 (k : Nat) ∧ gt 79 e5 44 = .slice (some ⟨bb, 0, none⟩) k cc ∧ gt 79 e5 12 = .bool (acB p n f x j') ∧ gt 79 e5 11 = .int .i64 (i : Nat) ∧ gt 79 e5 4 = .pointer (some ⟨H.size, 0, none⟩) ∧ gt 79 e5 1 = .slice (some ⟨b3, o3, none⟩) l.length cl ∧ gt 79 e5 2 = .slice (some ⟨b4, o4, none⟩) fl.length cf ∧ gt 79 e5 3 = .slice (some ⟨b5, o5, none⟩) il.length ci ∧ Fr H1 H2 := by
    intro e5 kp h46 h12
    refine ⟨j + 1, rfl, by omega, h46, ?_, ?_, h12, ?_, ?_, ?_, ?_, ?_, fr2⟩
    ·rw [kp 45 (by simp), g45]
    ·rw [kp 44 (by simp), g44]
    ·rw [kp 11 (by simp), g11]
    ·rw [kp 4 (by simp), g4]
    ·rw [kp 1 (by simp), g1]
    ·rw [kp 2 (by simp), g2]
    ·rw [kp 3 (by simp), g3]
   cases hac : acB p n f x j
   ·rw [hac] at g12
    by_cases hfe : p.f + (j : Int) = f
    ·have hD : decide (p.f + (j : Int) = f) = true := by simp [hfe]
     rw [acB_e hfe] at fin
     simp (disch:=first|(simp only [yk,seval];done)|omega|(simp only [yz]<;>omega)|fail) only [↓yp,yA,ys0,ys1,seval,fitB,newC,endD,endR,yrg,g46,g45,g44,g12,g11,g4,g1,g2,g3,b1,A_indexSlice st_esS_26,A_indexSlice st_esS_31,hc3,hc4,hc5,hcH2,q0,q3,q4,q5,hD,h72,hw2]
     exact ⟨k - (j + 1), by omega, fin _ (by (with_reducible repeat first|refine Keep.put ?_ (by decide)|refine Keep.none ?_|assumption|exact Keep.refl _ _ _)) (by simp (disch:=first|(simp only [yk,seval];done)|omega|(simp only [yz]<;>omega)|fail) only [yg,seval]) (by simp (disch:=first|(simp only [yk,seval];done)|omega|(simp only [yz]<;>omega)|fail) only [yg,seval,hfe])⟩
    ·have hD : decide (p.f + (j : Int) = f) = false := by simp [hfe]
     rw [acB_n hfe, hac] at fin
     simp (disch:=first|(simp only [yk,seval];done)|omega|(simp only [yz]<;>omega)|fail) only [↓yp,yA,ys0,ys1,seval,fitB,newC,endD,endR,yrg,g46,g45,g44,g12,g11,g4,g1,g2,g3,b1,A_indexSlice st_esS_26,A_indexSlice st_esS_31,hc3,hc4,hc5,hcH2,q0,q3,q4,q5,hD,h72,hw2]
     exact ⟨k - (j + 1), by omega, fin _ (by (with_reducible repeat first|refine Keep.put ?_ (by decide)|refine Keep.none ?_|assumption|exact Keep.refl _ _ _)) (by simp (disch:=first|(simp only [yk,seval];done)|omega|(simp only [yz]<;>omega)|fail) only [yg,seval]) (by simp (disch:=first|(simp only [yk,seval];done)|omega|(simp only [yz]<;>omega)|fail) only [yg,seval])⟩
   ·rw [hac] at g12
    rw [acB_t hac] at fin
    simp (disch:=first|(simp only [yk,seval];done)|omega|(simp only [yz]<;>omega)|fail) only [↓yp,yA,ys0,ys1,seval,fitB,newC,endD,endR,yrg,g46,g45,g44,g12,g11,g4,g1,g2,g3,b1,A_indexSlice st_esS_26,A_indexSlice st_esS_31,hc3,hc4,hc5,hcH2,q0,q3,q4,q5,h72,hw2]
    exact ⟨k - (j + 1), by omega, fin _ (by (with_reducible repeat first|refine Keep.put ?_ (by decide)|refine Keep.none ?_|assumption|exact Keep.refl _ _ _)) (by simp (disch:=first|(simp only [yk,seval];done)|omega|(simp only [yz]<;>omega)|fail) only [yg,seval]) (by simp (disch:=first|(simp only [yk,seval];done)|omega|(simp only [yz]<;>omega)|fail) only [yg,seval])⟩
  ·have hje : j = k := by have := of_decide_eq_false hB; omega
   subst hje
   rw [← hk, acB_all hsp] at g12
   have hw2 : w64 ((i : Int) + 1) = ((i + 1 : Nat) : Int) := by rw [w64_of (by omega)]; omega
   cases htb : truB p n f x
   ·rw [htb] at g12 hj
    rw [cond_false] at hj
    simp (disch:=first|(simp only [yk,seval];done)|omega|(simp only [yz]<;>omega)|fail) only [↓yp,yA,ys0,ys1,seval,fitB,newC,endD,endR,yrg,g12]
    rw [hj]
   ·rw [htb] at g12 hj
    rw [cond_true] at hj
    simp (disch:=first|(simp only [yk,seval];done)|omega|(simp only [yz]<;>omega)|fail) only [↓yp,yA,ys0,ys1,seval,fitB,newC,endD,endR,yrg,g12,g11,hw2]
    refine ⟨ps.length - (i + 1), by omega, i + 1, rfl, by omega, ?_, ?_, ?_, ?_, ?_, fry, hj⟩
    ·simp (disch:=first|(simp only [yk,seval];done)|omega|(simp only [yz]<;>omega)|fail) only [yg,seval]
    ·simp (disch:=first|(simp only [yk,seval];done)|omega|(simp only [yz]<;>omega)|fail) only [yg,seval,g4]
    ·simp (disch:=first|(simp only [yk,seval];done)|omega|(simp only [yz]<;>omega)|fail) only [yg,seval,g1]
    ·simp (disch:=first|(simp only [yk,seval];done)|omega|(simp only [yz]<;>omega)|fail) only [yg,seval,g2]
    ·simp (disch:=first|(simp only [yk,seval];done)|omega|(simp only [yz]<;>omega)|fail) only [yg,seval,g3]
 ·have hie : i = ps.length := by have := of_decide_eq_false hT; omega
  subst hie
  rw [List.drop_length] at hj
  have hj' : posB ps l fl il = true := by rw [hj]; rfl
  simp (disch:=first|(simp only [yk,seval];done)|omega|(simp only [yz]<;>omega)|fail) only [↓yp,yA,ys0,ys1,seval,fitB,newC,endD,endR,yrg,hj']
end
end Go.Am.K
namespace Go.Am.K
open Go.Proofs
variable {T : Tab} {P : Program} {N L : Nat} {H H' H'' : AHeap} {Q : Bool → Value → AHeap → Prop}
section
variable {a a' al : Option Addr} {cap cap' cl : Nat} {ps : List Pk} {gs : List Gd} {lots y z : Int} {l : List Int}
end
end Go.Am.K
