import Derived.Test.YtehkjjgpgnejnaaT43
set_option linter.unusedSimpArgs false
set_option linter.unusedVariables false
namespace Go.Am.K
open Go.Proofs
variable {T : Tab} {P : Program} {N L : Nat} {H H' H'' : AHeap} {Q : Bool → Value → AHeap → Prop}
section
variable {a a' al : Option Addr} {cap cap' cl : Nat} {ps : List Pk} {gs : List Gd} {lots op fd y z : Int} {l : List Int}
set_option maxHeartbeats 2000000 in
theorem c25e (hs : Rw pkE H a ps) (hgs : Rw gdE H a' gs) (hl : Rw intE H al l) (hll : l.length ≤ 8) (he : lotE ps gs lots l ≠ 0) :
  acall tabA (aexec tabA Try.prog (N + 500)) 25 [.agg ⟨[.slice a ps.length cap, .slice a' gs.length cap', .int .i64 lots]⟩, .slice al l.length cl, .int .i64 y, .int .i64 z] H = some (true, .tuple ⟨[.bool false, .int .i64 (lotE ps gs lots l)]⟩, H, H.size) := by
 refine call_quiet (k := 38) (rs := [.tmp 8, .tmp 9]) rfl fn_25 rfl rfl rfl ?_ rfl
 have fr : Fr H (H.alloc (.rw [.slice a ps.length cap, .slice a' gs.length cap', .int .i64 lots] 25 false [])) := by (repeat (first | exact Fr.refl _ | assumption | refine Fr.allocd ?_ _ | refine Fr.put ?_ (by first | omega | (simp only [yz] <;> omega)) _))
 have h74 := fun (N : Nat) => c74g (N := N) (cap := cap) (cap' := cap') (cl := cl) (lots := lots) (hs.fr fr) (hgs.fr fr) (hl.fr fr) hll
 have hA : decide (lotE ps gs lots l = 0) = false := by simp [he]
 simp (disch:=first|(simp only [yk,seval];done)|omega|(simp only [yz]<;>omega)|fail) only [↓yp,yq0,yq1,yq2,yq3,yq4,yl,ys0,ys1,seval,fitB,newC,endD,endR,yrg,h74,hA]
set_option maxHeartbeats 2000000 in
theorem c25r (h : LtR H a a' al ps gs lots l) (hr : (wi y 0 (isum l) && decide (0 ≤ z)) = false) :
  acall tabA (aexec tabA Try.prog (N + 500)) 25 [.agg ⟨[.slice a ps.length cap, .slice a' gs.length cap', .int .i64 lots]⟩, .slice al l.length cl, .int .i64 y, .int .i64 z] H = some (true, .tuple ⟨[.bool false, .int .i64 4]⟩, H, H.size) := by
 refine call_quiet (k := 38) (rs := [.tmp 8, .tmp 9]) rfl fn_25 rfl rfl rfl ?_ rfl
 have fr : Fr H (H.alloc (.rw [.slice a ps.length cap, .slice a' gs.length cap', .int .i64 lots] 25 false [])) := by (repeat (first | exact Fr.refl _ | assumption | refine Fr.allocd ?_ _ | refine Fr.put ?_ (by first | omega | (simp only [yz] <;> omega)) _))
 have h74 := fun (N : Nat) => c74 (N := N) (cap := cap) (cap' := cap') (cl := cl) (h.st.fr fr) (h.rl.fr fr) h.lo
 have h75 := fun (N : Nat) => c75 (N := N) (cl := cl) (h.rl.fr fr) h.l1 h.l4
 have h76 := fun (N : Nat) (H' : AHeap) => h.c76 (N := N) (H' := H')
 have h58 := fun (N : Nat) (H : AHeap) => c58 (N := N) (H := H) (n := y) (lo := 0) (hi := isum l)
 have hmp : part (tv (mx l)) 0 5 = some (.agg ⟨tv (mx l)⟩) := part_tv h.mx4
 have h4 := h.mx4
 have hl4 : (tv (mx l)).length = 4 := by rw [tv_len, h4]
 have hc : newC 0 (tv (mx l)) [Value.int .i64 0, .int .i64 0, .int .i64 0, .int .i64 0] = tv (mx l) := by
  unfold newC
  rw [hl4]
  simp
 obtain ⟨t, ht⟩ : ∃ t, tv (mx l) = t := ⟨_, rfl⟩
 have ht1 : oneCells t = true := by rw [← ht]; exact one_tv _
 rw [ht] at h75 h76 hmp hl4 hc
 cases hW : wi y 0 (isum l)
 ·simp (disch:=first|(simp only [yk,seval];done)|omega|(simp only [yz]<;>omega)|fail) only [↓yp,yq0,yq1,yq2,yq3,yq4,yl,ys0,ys1,seval,fitB,newC,endD,endR,yrg,h74,h75,h76,h58,hW,hl4,hmp,hc,ht1]
 ·rw [hW, Bool.true_and] at hr
  have hz' : decide (z < 0) = true := by have := of_decide_eq_false hr; simp; omega
  simp (disch:=first|(simp only [yk,seval];done)|omega|(simp only [yz]<;>omega)|fail) only [↓yp,yq0,yq1,yq2,yq3,yq4,yl,ys0,ys1,seval,fitB,newC,endD,endR,yrg,h74,h75,h76,h58,hW,hz',hl4,hmp,hc,ht1]
theorem c83e (hs : Rw pkE H a ps) (hgs : Rw gdE H a' gs) (hl : Rw intE H al l) (hll : l.length ≤ 8) (he : lotE ps gs lots l ≠ 0) :
  acall tabA (aexec tabA Try.prog (N + 1000)) 83 [.agg ⟨[.slice a ps.length cap, .slice a' gs.length cap', .int .i64 lots]⟩, .slice al l.length cl, .int .i64 op, .int .i64 fd] H = some (true, .tuple ⟨[.agg ⟨by0⟩, .int .i64 (lotE ps gs lots l)]⟩, H, H.size) := by
 refine call_quiet (k := 46) (rs := [.cell 8 134, .tmp 9]) rfl fn_83 rfl rfl rfl ?_ rfl
 have fr : Fr H ((H.alloc (.rw [.slice a ps.length cap, .slice a' gs.length cap', .int .i64 lots] 25 false [])).alloc (.rw by0 134 false [])) := by (repeat (first | exact Fr.refl _ | assumption | refine Fr.allocd ?_ _ | refine Fr.put ?_ (by first | omega | (simp only [yz] <;> omega)) _))
 have h74 := fun (N : Nat) => c74g (N := N) (cap := cap) (cap' := cap') (cl := cl) (lots := lots) (hs.fr fr) (hgs.fr fr) (hl.fr fr) hll
 have hA : decide (lotE ps gs lots l = 0) = false := by simp [he]
 simp only [by0] at h74
 simp (disch:=first|(simp only [yk,seval];done)|omega|(simp only [yz]<;>omega)|fail) only [↓yp,yq0,yq1,yq2,yq3,yq4,yl,ys0,ys1,seval,fitB,newC,endD,endR,yrg,h74,hA,A_build st_bdS_134,one_map,one_map',cells_map',part_10,by0]
set_option maxHeartbeats 2000000 in
theorem c83r (h : LtR H a a' al ps gs lots l) (hr : (wi op 0 (isum l) && wi fd 0 op) = false) :
  acall tabA (aexec tabA Try.prog (N + 1000)) 83 [.agg ⟨[.slice a ps.length cap, .slice a' gs.length cap', .int .i64 lots]⟩, .slice al l.length cl, .int .i64 op, .int .i64 fd] H = some (true, .tuple ⟨[.agg ⟨by0⟩, .int .i64 4]⟩, H, H.size) := by
 refine call_quiet (k := 46) (rs := [.cell 8 134, .tmp 9]) rfl fn_83 rfl rfl rfl ?_ rfl
 have fr : Fr H ((H.alloc (.rw [.slice a ps.length cap, .slice a' gs.length cap', .int .i64 lots] 25 false [])).alloc (.rw by0 134 false [])) := by (repeat (first | exact Fr.refl _ | assumption | refine Fr.allocd ?_ _ | refine Fr.put ?_ (by first | omega | (simp only [yz] <;> omega)) _))
 have h74 := fun (N : Nat) => c74 (N := N) (cap := cap) (cap' := cap') (cl := cl) (h.st.fr fr) (h.rl.fr fr) h.lo
 simp only [by0] at h74
 simp (disch:=first|(simp only [yk,seval];done)|omega|(simp only [yz]<;>omega)|fail) only [↓yp,yq0,yq1,yq2,yq3,yq4,yl,ys0,ys1,seval,fitB,newC,endD,endR,yrg,h74]
 refine c77 (by first|omega|(simp only [yz]<;>omega)) (by omega) ?_
 intro mk H1 fr1 k1 k2 k3
 have f1 := fr1.size
 have s1 := fr1.same
 simp only [size_alloc] at f1 s1 k1
 have fra : Fr H H1 := Fr.trans (by repeat first|exact Fr.refl _|assumption|refine Fr.allocd ?_ _|refine Fr.put ?_ (by first|omega|(simp only [yz]<;>omega)) _) fr1
 have hh := h.fr fra
 have h75 := fun (N : Nat) => c75 (N := N) (cl := cl) hh.rl hh.l1 hh.l4
 have h76 := fun (N : Nat) (H' : AHeap) => h.c76 (N := N) (H' := H')
 have h58 := fun (N : Nat) (H : AHeap) => c58 (N := N) (H := H) (n := op) (lo := 0) (hi := isum l)
 have h58' := fun (N : Nat) (H : AHeap) => c58 (N := N) (H := H) (n := fd) (lo := 0) (hi := op)
 obtain ⟨p, q, r, s, hm⟩ := four h.mx4
 rw [hm] at h75 h76
 simp only [tv,List.map_cons,List.map_nil,List.cons_append,List.nil_append] at h75 h76
 cases hW : wi op 0 (isum l)
 ·simp (disch:=first|(simp only [yk,seval];done)|omega|(simp only [yz]<;>omega)|fail) only [↓yp,yq0,yq1,yq2,yq3,yq4,yl,ys0,ys1,seval,fitB,newC,endD,endR,yrg,h75,h76,h58,h58',hW,s1,A_build st_bdS_134,one_map,one_map',cells_map',part_10_4,part_10,by0]
 ·rw [hW, Bool.true_and] at hr
  simp (disch:=first|(simp only [yk,seval];done)|omega|(simp only [yz]<;>omega)|fail) only [↓yp,yq0,yq1,yq2,yq3,yq4,yl,ys0,ys1,seval,fitB,newC,endD,endR,yrg,h75,h76,h58,h58',hW,hr,s1,A_build st_bdS_134,one_map,one_map',cells_map',part_10_4,part_10,by0]
theorem LtR.of (hs : Rw pkE H a ps) (hgs : Rw gdE H a' gs) (hl : Rw intE H al l) (he : lotE ps gs lots l = 0) : LtR H a a' al ps gs lots l := ⟨⟨hs, hgs, (lotE_ok he).2.1⟩, hl, (lotE_ok he).2.2⟩
theorem c27g (hs : Rw pkE H a ps) (hgs : Rw gdE H a' gs) (hl : Rw intE H al l) (hll : l.length ≤ 8) :
  acall tabA (aexec tabA Try.prog (N + 1100)) 27 [.agg ⟨[.slice a ps.length cap, .slice a' gs.length cap', .int .i64 lots]⟩, .slice al l.length cl, .int .i64 op, .int .i64 fd] H = some (true, (bif decide (byE ps gs lots l op fd = 0) then .tuple ⟨[.agg ⟨[.int .i64 (lfLo ps l fd), .int .i64 (lfHi ps l op fd)]⟩, .int .i64 0]⟩ else .tuple ⟨[.agg ⟨[.int .i64 0, .int .i64 0]⟩, .int .i64 (byE ps gs lots l op fd)]⟩), H, H.size) := by
 have fr : Fr H ((H.alloc (.rw [.slice a ps.length cap, .slice a' gs.length cap', .int .i64 lots] 25 false [])).alloc (.rw [.int .i64 0, .int .i64 0] 38 false [])) := by (repeat (first | exact Fr.refl _ | assumption | refine Fr.allocd ?_ _ | refine Fr.put ?_ (by first | omega | (simp only [yz] <;> omega)) _))
 by_cases he : lotE ps gs lots l = 0
 ·have h := LtR.of hs hgs hl he
  rw [byE_good he]
  cases hr : wi op 0 (isum l) && wi fd 0 op
  ·have h83 := fun (N : Nat) => c83r (N := N) (cap := cap) (cap' := cap') (cl := cl) (h.fr fr) hr
   refine call_quiet (k := 26) (rs := [.cell 8 38, .tmp 9]) rfl fn_27 rfl rfl rfl ?_ rfl
   simp only [by0] at h83
   simp (disch:=first|(simp only [yk,seval];done)|omega|(simp only [yz]<;>omega)|fail) only [↓yp,yq0,yq1,yq2,yq3,yq4,yl,ys0,ys1,seval,fitB,newC,endD,endR,yrg,h83,one_map,A_build st_bdS_38]
  ·have hr' := hr
   unfold wi at hr'
   simp only [Bool.and_eq_true,decide_eq_true_eq] at hr'
   rw [c27 h hr'.1 hr'.2]
   cases decide (lfHi ps l op fd < lfLo ps l fd) <;> rfl
 ·have h83 := fun (N : Nat) => c83e (N := N) (op := op) (fd := fd) (cap := cap) (cap' := cap') (cl := cl) (hs.fr fr) (hgs.fr fr) (hl.fr fr) hll he
  rw [byE_bad he]
  have hA : decide (lotE ps gs lots l = 0) = false := by simp [he]
  rw [hA, cond_false]
  refine call_quiet (k := 26) (rs := [.cell 8 38, .tmp 9]) rfl fn_27 rfl rfl rfl ?_ rfl
  simp only [by0] at h83
  simp (disch:=first|(simp only [yk,seval];done)|omega|(simp only [yz]<;>omega)|fail) only [↓yp,yq0,yq1,yq2,yq3,yq4,yl,ys0,ys1,seval,fitB,newC,endD,endR,yrg,h83,hA,one_map,A_build st_bdS_38]
theorem c29e (hs : Rw pkE H a ps) (hgs : Rw gdE H a' gs) (hl : Rw intE H al l) (hll : l.length ≤ 8) (hb : byE ps gs lots l op fd ≠ 0) :
  acall tabA (aexec tabA Try.prog (N + 2500)) 29 [.agg ⟨[.slice a ps.length cap, .slice a' gs.length cap', .int .i64 lots]⟩, .slice al l.length cl, .int .i64 op, .int .i64 fd] H = some (true, .tuple ⟨[.slice none 0 0, .int .i64 (byE ps gs lots l op fd)]⟩, H, H.size) := by
 have fr : Fr H (H.alloc (.rw [.slice a ps.length cap, .slice a' gs.length cap', .int .i64 lots] 25 false [])) := by (repeat (first | exact Fr.refl _ | assumption | refine Fr.allocd ?_ _ | refine Fr.put ?_ (by first | omega | (simp only [yz] <;> omega)) _))
 refine call_quiet (k := 42) (rs := [.tmp 8, .tmp 9]) rfl fn_29 rfl rfl rfl ?_ rfl
 have hB : decide (byE ps gs lots l op fd = 0) = false := by simp [hb]
 by_cases he : lotE ps gs lots l = 0
 ·have h := LtR.of hs hgs hl he
  rw [byE_good he] at hB ⊢
  cases hr : wi op 0 (isum l) && wi fd 0 op
  ·have h83 := fun (N : Nat) => c83r (N := N) (cap := cap) (cap' := cap') (cl := cl) (h.fr fr) hr
   simp only [by0] at h83
   simp (disch:=first|(simp only [yk,seval];done)|omega|(simp only [yz]<;>omega)|fail) only [↓yp,yq0,yq1,yq2,yq3,yq4,yl,ys0,ys1,seval,fitB,newC,endD,endR,yrg,h83,one_map]
  ·rw [hr, cond_true] at hB
   have hr' := hr
   unfold wi at hr'
   simp only [Bool.and_eq_true,decide_eq_true_eq] at hr'
   cases hC : decide (lfHi ps l op fd < lfLo ps l fd)
   ·rw [hC] at hB; cases hB
   simp (disch:=first|(simp only [yk,seval];done)|omega|(simp only [yz]<;>omega)|fail) only [↓yp,yq0,yq1,yq2,yq3,yq4,yl,ys0,ys1,seval,fitB,newC,endD,endR,yrg]
   refine resK_low (Nat.le_refl _) (c83a (cap := cap) (cap' := cap') (cl := cl) (h.fr fr) hr'.1 hr'.2 (by omega) ?_) (by first|omega|(simp only [yz]<;>omega))
   intro f v H1 e1 e2 fr1
   obtain rfl := e1 hC
   have f1 := fr1.size
   simp only [size_alloc] at f1
   simp only [by0]
   simp (disch:=first|(simp only [yk,seval];done)|omega|(simp only [yz]<;>omega)|fail) only [↓yp,yq0,yq1,yq2,yq3,yq4,yl,ys0,ys1,seval,fitB,newC,endD,endR,yrg,one_map]
 ·have h83 := fun (N : Nat) => c83e (N := N) (op := op) (fd := fd) (cap := cap) (cap' := cap') (cl := cl) (hs.fr fr) (hgs.fr fr) (hl.fr fr) hll he
  rw [byE_bad he]
  have hA : decide (lotE ps gs lots l = 0) = false := by simp [he]
  simp only [by0] at h83
  simp (disch:=first|(simp only [yk,seval];done)|omega|(simp only [yz]<;>omega)|fail) only [↓yp,yq0,yq1,yq2,yq3,yq4,yl,ys0,ys1,seval,fitB,newC,endD,endR,yrg,h83,hA,one_map]
end
end Go.Am.K
namespace Go.Am.K
open Go.Proofs
section
variable {ps : List Pk} {gs : List Gd} {lots n m op fd : Int} {l : List Int} {i : Nat} {p : Pk}
theorem trF_kn (hi : ps[i]? = some p) (hpo : p.Ok) (hn : p.f ≤ n ∧ n ≤ p.hi) : ∀ (k : Nat), k ≤ ps.length → k ≤ l.length → ∀ j : Nat, j < 25 → (trF ps l i n k j = true ↔ trF (ps.set i (kn p n)) l (-1) 0 k j = true)
 | 0, _, _, j, _ => Iff.rfl
 | k + 1, h1, h2, j, hj => by
  have ih := trF_kn hi hpo hn k (by omega) (by omega)
  obtain ⟨q, hq⟩ : ∃ q, ps[k]? = some q := ⟨ps[k], by simp [show k < ps.length by omega]⟩
  obtain ⟨m, hm⟩ : ∃ m, l[k]? = some m := ⟨l[k], by simp [show k < l.length by omega]⟩
  have e1 : trF ps l i n (k + 1) = orK q m k i n (rng q.f (q.hi + 1 - q.f).toNat) (fun _ => false) (trF ps l i n k) (q.hi + 1 - q.f).toNat := by
   show (match ps[k]?, l[k]? with | some p, some m => _ | _, _ => _) = _
   rw [hq, hm]
  have hle : ∀ (q : Pk), (q.hi + 1 - q.f).toNat ≤ (rng q.f (q.hi + 1 - q.f).toNat).length := fun q => by rw [rng_len]; exact Nat.le_refl _
  have htk : ∀ (q : Pk), (rng q.f (q.hi + 1 - q.f).toNat).take (q.hi + 1 - q.f).toNat = rng q.f (q.hi + 1 - q.f).toNat := fun q => List.take_of_length_le (by rw [rng_len]; exact Nat.le_refl _)
  by_cases e : i = k
  ·subst e
   rw [hi] at hq
   cases hq
   have hk := kn_hi hpo hn
   have e2 : trF (ps.set i (kn p n)) l (-1) 0 (i + 1) = orK (kn p n) m i (-1) 0 (rng (kn p n).f ((kn p n).hi + 1 - (kn p n).f).toNat) (fun _ => false) (trF (ps.set i (kn p n)) l (-1) 0 i) ((kn p n).hi + 1 - (kn p n).f).toNat := by
    show (match (ps.set i (kn p n))[i]?, l[i]? with | some p, some m => _ | _, _ => _) = _
    rw [List.getElem?_set_self ((List.getElem?_eq_some_iff.1 hi).1), hm]
   rw [e1, e2, orK_iff hj _ (hle p), orK_iff hj _ (hle _), htk, htk]
   constructor
   ·rintro (h | ⟨fl, k1, k2, y, k3, k4, k5, k6⟩)
    ·cases h
    ·obtain rfl : fl = n := Decidable.byContradiction fun hne => k2 ⟨rfl, hne⟩
     refine .inr ⟨fl, ?_, fun h => by omega, y, k3, k4, k5, (ih _ (by omega)).1 k6⟩
     rw [rng_mem, hk]
     show fl ≤ fl ∧ fl < fl + ((fl + 1 - fl).toNat : Int)
     omega
   ·rintro (h | ⟨fl, k1, k2, y, k3, k4, k5, k6⟩)
    ·cases h
    ·rw [rng_mem, hk] at k1
     have k1' : n ≤ fl ∧ fl < n + ((n + 1 - n).toNat : Int) := k1
     obtain rfl : fl = n := by omega
     refine .inr ⟨fl, ?_, fun h => h.2 rfl, y, k3, k4, k5, (ih _ (by omega)).2 k6⟩
     rw [rng_mem]
     omega
  ·have e2 : trF (ps.set i (kn p n)) l (-1) 0 (k + 1) = orK q m k (-1) 0 (rng q.f (q.hi + 1 - q.f).toNat) (fun _ => false) (trF (ps.set i (kn p n)) l (-1) 0 k) (q.hi + 1 - q.f).toNat := by
    show (match (ps.set i (kn p n))[k]?, l[k]? with | some p, some m => _ | _, _ => _) = _
    rw [List.getElem?_set_ne e, hq, hm]
   rw [e1, e2, orK_iff hj _ (hle q), orK_iff hj _ (hle _), htk]
   constructor
   ·rintro (h | ⟨fl, k1, k2, y, k3, k4, k5, k6⟩)
    ·cases h
    ·exact .inr ⟨fl, k1, fun h => by omega, y, k3, k4, k5, (ih _ (by omega)).1 k6⟩
   ·rintro (h | ⟨fl, k1, k2, y, k3, k4, k5, k6⟩)
    ·cases h
    ·exact .inr ⟨fl, k1, fun h => by omega, y, k3, k4, k5, (ih _ (by omega)).2 k6⟩
theorem aft_kn (hst : StOk ps gs lots) (ho : LotOk ps l) (hi : ps[i]? = some p) (hn : p.f ≤ n ∧ n ≤ p.hi) : fB (aftF (trF ps l i n ps.length) (isum l) op fd) = ivB 25 (lfLo (ps.set i (kn p n)) l fd) (lfHi (ps.set i (kn p n)) l op fd) ∧ 0 ≤ lfLo (ps.set i (kn p n)) l fd ∧ lfHi (ps.set i (kn p n)) l op fd < 25 := by
 have hpo := Pk.isB_ok (List.all_eq_true.1 hst.pb p (List.mem_of_getElem? hi))
 have hst' := kn_ok hst hi hn
 have ho' : LotOk (ps.set i (kn p n)) l := kn_lot ho hi
 have hlen := ho.len
 have hl' : (ps.set i (kn p n)).length = ps.length := List.length_set
 obtain ⟨⟨t0, t1⟩, t2⟩ := trF_all (pk := -1) (fo := 0) hst' ho' (by omega) ps.length (by omega)
 have e1 := fo_len (s := true) (ps := ps.set i (kn p n)) (m := l) (by omega)
 have e2 := fo_len (s := false) (ps := ps.set i (kn p n)) (m := l) (by omega)
 rw [List.take_of_length_le (by omega)] at t0
 rw [List.take_of_length_le (by omega), List.take_of_length_le (by omega)] at t1 t2
 have hf := fo_24 hst' ho'
 refine ⟨aft_iv fun j hj => (trF_kn hi hpo hn ps.length (by omega) (by omega) j hj).trans (t2 j hj), ?_, ?_⟩
 ·unfold lfLo; split <;> omega
 ·unfold lfHi; split <;> omega
theorem ask_core {A B X Y s m f hi il ih : Int} (h : X ≤ Y) (x1 : A + il ≤ X) (i1 : f - (s - m) ≤ il) (i2 : 0 ≤ il) (y1 : Y ≤ B + ih) (j1 : ih ≤ hi) (j2 : ih ≤ m) (hAB : A ≤ B) (hm : 0 ≤ m ∧ m ≤ s) (hf : 0 ≤ f ∧ f ≤ hi ∧ hi ≤ s) : ∃ r, (f ≤ r ∧ r ≤ hi) ∧ A + max0 (r - (s - m)) ≤ Y ∧ X ≤ B + min2 m r := by
 by_cases hC : A + max0 (hi - (s - m)) ≤ Y
 ·refine ⟨hi, by omega, hC, ?_⟩
  unfold min2
  split <;> omega
 ·unfold max0 at hC
  have hv : Y - A < hi - (s - m) := by split at hC <;> omega
  refine ⟨Y - A + (s - m), by omega, ?_, ?_⟩
  ·unfold max0; split <;> omega
  ·unfold min2; split <;> omega
theorem ask_ex (hst : StOk ps gs lots) (ho : LotOk ps l) (hi : ps[i]? = some p) (hm : l[i]? = some m) (h : ¬ lfHi ps l op fd < lfLo ps l fd) : ∃ r, (p.f ≤ r ∧ r ≤ p.hi) ∧ askN ps l op fd i p m r = true := by
 have hk : ∀ p ∈ ps, p.Ok := fun p hp => Pk.isB_ok (List.all_eq_true.1 hst.pb p hp)
 have hpm := List.mem_of_getElem? hi
 have hsp := hst.sp p hpm
 obtain ⟨z1, z2, z3, z4⟩ := hk p hpm
 have hmm := ho.ok i m p hm hi
 have hA := oth_le (i := i) hk hst.sp ho
 have e3 := fo_oth (s := true) hi hm
 have e4 := fo_oth (s := false) hi hm
 rw [show p.sel true m = p.il m from rfl] at e3
 rw [show p.sel false m = p.ih m from rfl] at e4
 have h5 : p.hi ≤ p.s := by unfold Pk.hi; split <;> omega
 have b1 : isum (fo true ps l) ≤ lfLo ps l fd := by unfold lfLo; split <;> omega
 have b2 : lfHi ps l op fd ≤ isum (fo false ps l) := by unfold lfHi; split <;> omega
 have c1 : p.f - (p.s - m) ≤ p.il m ∧ 0 ≤ p.il m := by unfold Pk.il; split <;> omega
 have c2 : p.ih m ≤ p.hi ∧ p.ih m ≤ m := by unfold Pk.ih; split <;> omega
 obtain ⟨r, hr, k1, k2⟩ := ask_core (A := oth true ps l i) (B := oth false ps l i) (X := lfLo ps l fd) (Y := lfHi ps l op fd) (s := p.s) (m := m) (f := p.f) (hi := p.hi) (il := p.il m) (ih := p.ih m) (by omega) (by omega) c1.1 c1.2 (by omega) c2.1 c2.2 hA hmm (by omega)
 refine ⟨r, hr, ?_⟩
 unfold askN
 rw [decide_eq_true k1, decide_eq_true k2]; rfl
def tdB (P : Int → Bool) (f : Int) (K : Nat) : List Bool := (List.range 7).map fun (j : Nat) => (decide (f ≤ (j : Int)) && decide ((j : Int) < f + K)) && P j
theorem tdB_len {P : Int → Bool} {f : Int} {K : Nat} : (tdB P f K).length = 7 := by unfold tdB; rw [List.length_map, List.length_range]
theorem tdB_at {P : Int → Bool} {f : Int} {K j : Nat} (h : j < 7) : (tdB P f K)[j]? = some ((decide (f ≤ (j : Int)) && decide ((j : Int) < f + K)) && P j) := by unfold tdB; rw [List.getElem?_map, List.getElem?_range h]; rfl
theorem tdB_set {P : Int → Bool} {f : Int} {K k : Nat} (h : (k : Int) = f + K) (h7 : k < 7) : (tdB P f K).set k (P k) = tdB P f (K + 1) := by
 apply List.ext_getElem?
 intro j
 by_cases hj : j < 7
 ·rw [tdB_at hj, List.getElem?_set]
  by_cases e : k = j
  ·subst e
   rw [if_pos rfl, if_pos (by rw [tdB_len]; exact hj), decide_eq_true (show f ≤ (k : Int) by omega), decide_eq_true (show (k : Int) < f + ((K + 1 : Nat) : Int) by omega)]; rfl
  ·rw [if_neg e, tdB_at hj, show decide ((j : Int) < f + ((K + 1 : Nat) : Int)) = decide ((j : Int) < f + (K : Int)) by rw [decide_eq_decide]; omega]
 ·rw [List.getElem?_eq_none (by rw [List.length_set, tdB_len]; omega), List.getElem?_eq_none (by rw [tdB_len]; omega)]
theorem tdB_iv (hst : StOk ps gs lots) (ho : LotOk ps l) (hi : ps[i]? = some p) (hm : l[i]? = some m) (hop : 0 ≤ op ∧ op ≤ isum l) (hfd : 0 ≤ fd ∧ fd ≤ op) (h : ¬ lfHi ps l op fd < lfLo ps l fd) :
  endF (tdB (nonE ps l op fd i p) p.f (p.hi + 1 - p.f).toNat) 7 = toldV ps l op fd i p ∧ 0 ≤ (toldV ps l op fd i p).1 := by
 obtain ⟨r, hr, hask⟩ := ask_ex hst ho hi hm h
 obtain ⟨⟨u1, u2⟩, u3, u4⟩ := told_ok hst ho hi hm hop hfd hr hask
 have hpm := List.mem_of_getElem? hi
 have hsp := hst.sp p hpm
 obtain ⟨z1, z2, z3, z4⟩ := Pk.isB_ok (List.all_eq_true.1 hst.pb p hpm)
 have h5 : p.hi ≤ p.s := by unfold Pk.hi; split <;> omega
 obtain ⟨t, ht⟩ : ∃ t, toldV ps l op fd i p = t := ⟨_, rfl⟩
 rw [ht] at u1 u2 u3 u4 ⊢
 unfold wi at u3 u4
 simp only [Bool.and_eq_true,decide_eq_true_eq] at u3
 have e : tdB (nonE ps l op fd i p) p.f (p.hi + 1 - p.f).toNat = ivB 7 t.1 t.2 := by
  unfold tdB ivB
  refine List.map_congr_left fun j hj => ?_
  have := List.mem_range.1 hj
  by_cases hin : p.f ≤ (j : Int) ∧ (j : Int) ≤ p.hi
  ·rw [decide_eq_true (show p.f ≤ (j : Int) by omega), decide_eq_true (show (j : Int) < p.f + ((p.hi + 1 - p.f).toNat : Int) by omega), nonE_ask hst ho hi hm hop hfd hin, u4 j hin.1 hin.2]; rfl
  ·rw [show (decide (p.f ≤ (j : Int)) && decide ((j : Int) < p.f + ((p.hi + 1 - p.f).toNat : Int))) = false by
    cases hx : decide (p.f ≤ (j : Int)) && decide ((j : Int) < p.f + ((p.hi + 1 - p.f).toNat : Int)) with
    | false => rfl
    | true => simp only [Bool.and_eq_true,decide_eq_true_eq] at hx; omega]
   cases hx : decide (t.1 ≤ (j : Int)) && decide ((j : Int) ≤ t.2) with
   | false => rfl
   | true => simp only [Bool.and_eq_true,decide_eq_true_eq] at hx; omega
 refine ⟨?_, by omega⟩
 rw [e, ends_iv (by omega) (by omega), if_pos (by omega)]
end
end Go.Am.K
namespace Go.Am.K
open Go.Proofs
variable {T : Tab} {P : Program} {N L : Nat} {H H' H'' : AHeap} {Q : Bool → Value → AHeap → Prop}
theorem st_apS_56 : apS tabA 56 = some (38, 2, 16) := by kernel_rfl
theorem made_bo7 : (madeCells (Value.bool false).cells (7 * 1)).toList = boE.fl (List.replicate 7 false) ∧ allGrV (madeCells (Value.bool false).cells (7 * 1)).toList = true := ⟨by kernel_rfl, by kernel_rfl⟩
theorem tdB_zero {P : Int → Bool} {f : Int} : tdB P f 0 = List.replicate 7 false := by
 apply List.ext_getElem?
 intro j
 by_cases hj : j < 7
 ·rw [tdB_at hj, List.getElem?_replicate, if_pos hj, show (decide (f ≤ (j : Int)) && decide ((j : Int) < f + ((0 : Nat) : Int))) = false by
   cases hx : decide (f ≤ (j : Int)) && decide ((j : Int) < f + ((0 : Nat) : Int)) with
   | false => rfl
   | true => simp only [Bool.and_eq_true,decide_eq_true_eq] at hx; omega]
  rfl
 ·rw [List.getElem?_eq_none (by rw [tdB_len]; omega), List.getElem?_eq_none (by rw [List.length_replicate]; omega)]
section
variable {a a' al : Option Addr} {cap cap' cl : Nat} {ps : List Pk} {gs : List Gd} {lots op fd : Int} {l : List Int}
set_option maxHeartbeats 4000000 in
theorem c30i {e : VT} {bt bf cf i K : Nat} {p : Pk} (hs : Rw pkE H a ps) (hl : Rw intE H al l) (hst : StOk ps gs lots) (ho : LotOk ps l) (hp : ps[i]? = some p) (hop : 0 ≤ op ∧ op ≤ isum l) (hfd : 0 ≤ fd ∧ fd ≤ op) (fr : Fr H H')
  (g4 : gt 69 e 4 = .pointer (some ⟨H.size, 0, none⟩)) (b4 : H'.get H.size = .rw [.slice a ps.length cap, .slice a' gs.length cap', .int .i64 lots] 32 false []) (l4 : H.size < H'.size)
  (g13 : gt 69 e 13 = .int .i64 (i : Nat)) (g1 : gt 69 e 1 = .slice al l.length cl) (g2 : gt 69 e 2 = .int .i64 op) (g3 : gt 69 e 3 = .int .i64 fd)
  (g14 : gt 69 e 14 = .slice (some ⟨bt, 0, none⟩) 7 7) (hbt : H.size < bt) (ltb : bt < H'.size) (bT : H'.get bt = .rw (boE.fl (tdB (nonE ps l op fd i p) p.f 0)) 4 false [])
  (hK : K = (p.hi + 1 - p.f).toNat) (g40 : gt 69 e 40 = .slice (some ⟨bf, 0, none⟩) K cf) (rf : Rw intE H' (some ⟨bf, 0, none⟩) (rng p.f K)) (nf : bf ≠ bt) (lf : bf < H'.size) (g41 : gt 69 e 41 = .int .i64 (K : Nat)) (g42 : gt 69 e 42 = .int .i64 0) :
  W tabA Try.prog (N + 2000) none (sub [true, true, true, false, true, false, false, true, false, false, true, false, true] (bodyOf Try.f30)) H.size ⟨69, e, H', []⟩ (endK 69 [] fun e' H'' => Keep 69 [1, 2, 3, 4, 12, 13, 14] e e' ∧ Fr H H'' ∧ H'.size ≤ H''.size ∧ (∀ j, j < H'.size → j ≠ bt → H''.get j = H'.get j) ∧ H''.get bt = .rw (boE.fl (tdB (nonE ps l op fd i p) p.f K)) 4 false []) := by
 have hpm := List.mem_of_getElem? hp
 have hpo := Pk.isB_ok (List.all_eq_true.1 hst.pb p hpm)
 have hsp := hst.sp p hpm
 have hhi : p.hi ≤ 6 ∧ 0 ≤ p.f := by
  obtain ⟨z1, z2, z3, z4⟩ := hpo
  unfold Pk.hi
  split <;> omega
 have h24 := lot_24 hst ho
 have hlb : ∀ x ∈ l, 0 ≤ x ∧ x ≤ 1000000 := fun x hx => by have := lot_le hst ho x hx; omega
 have hlen := ho.len
 have hl4 := hst.l4
 obtain ⟨PP, hPP⟩ : ∃ PP, nonE ps l op fd i p = PP := ⟨_, rfl⟩
 rw [hPP] at bT ⊢
 simp only [Try.f30,bodyOf,sub_nil,sub_seq0,sub_seq1,sub_block,sub_loop,sub_cond0,sub_cond1]
 simp (disch:=first|(simp only [yk,seval];done)|omega|(simp only [yz]<;>omega)|fail) only [↓yp,yq0,yq1,yq2,yq3,yq4,yl,ys0,ys1,seval,fitB,newC,endD,endR,yrg]
 refine W_while (n := 69) 1700 (fun q e' H'' => ∃ k : Nat, q = K - k ∧ k ≤ K ∧ Keep 69 [1, 2, 3, 4, 12, 13, 14, 40, 41] e e' ∧ gt 69 e' 42 = .int .i64 (k : Nat) ∧ Fr H H'' ∧ H'.size ≤ H''.size ∧ (∀ j, j < H'.size → j ≠ bt → H''.get j = H'.get j) ∧ H''.get bt = .rw (boE.fl (tdB PP p.f k)) 4 false [])
  ?_ 7 K ⟨0, by omega, by omega, by (with_reducible repeat first|refine Keep.put ?_ (by decide)|refine Keep.none ?_|assumption|exact Keep.refl _ _ _), by simp (disch:=first|(simp only [yk,seval];done)|omega|(simp only [yz]<;>omega)|fail) only [yg,seval,g42] <;> rfl, fr, Nat.le_refl _, fun _ _ _ => rfl, bT⟩ (by omega) (by omega)
 rintro M1 q e' H2 ⟨k, rfl, hk, kp, k42, fr2, hsz, hoth, hbT⟩
 have k4 := (kp 4 (by decide)).trans g4
 have k13 := (kp 13 (by decide)).trans g13
 have k1 := (kp 1 (by decide)).trans g1
 have k2 := (kp 2 (by decide)).trans g2
 have k3 := (kp 3 (by decide)).trans g3
 have k14 := (kp 14 (by decide)).trans g14
 have k40 := (kp 40 (by decide)).trans g40
 have k41 := (kp 41 (by decide)).trans g41
 have b42 := (hoth _ l4 (by omega)).trans b4
 simp (disch:=first|(simp only [yk,seval];done)|omega|(simp only [yz]<;>omega)|fail) only [↓yp,yq0,yq1,yq2,yq3,yq4,yl,ys0,ys1,seval,fitB,newC,endD,endR,yrg,k42,k41]
 refine ⟨fun hT => ?_, fun hT => ?_⟩
 ·have hlt : k < K := by have := of_decide_eq_true hT; omega
  obtain ⟨kk, hkk⟩ : ∃ kk : Nat, p.f + (k : Int) = kk := ⟨(p.f + k).toNat, by omega⟩
  have hx : (rng p.f K)[k]? = some (kk : Int) := by unfold rng; rw [List.getElem?_map, List.getElem?_range hlt]; exact congrArg some hkk
  obtain ⟨b, o, c, e1, hb, hc, hq⟩ := rf.at_ hx
  cases e1
  have qf := cell_of hq
  rw [show k * intE.z = k * 1 from rfl, Nat.mul_one, Nat.zero_add] at qf
  have c3 : cellsOf (H2.get bf) = some c := by rw [hoth bf lf nf]; exact hc
  have w2 : w64 ((k : Int) + 1) = ((k + 1 : Nat) : Int) := by rw [w64_of (by omega)]; omega
  have hn : p.f ≤ (kk : Int) ∧ (kk : Int) ≤ p.hi := by omega
  simp (disch:=first|(simp only [yk,seval];done)|omega|(simp only [yz]<;>omega)|fail) only [↓yp,yq0,yq1,yq2,yq3,yq4,yl,ys0,ys1,seval,fitB,newC,endD,endR,yrg,k42,k40,k14,k13,k1,k2,k3,k4,A_indexSlice st_esS_49,c3,qf,b42]
  refine c87 (gs := gs) (hs.fr fr2) (hl.fr fr2) hst ho fr2.size (by omega) ?_
  intro b1 H3 fr3 hb1 hb12 bB
  have f3 := fr3.size
  have s3 := fr3.same
  have h81 := fun (N : Nat) => c81 (N := N) (cap := cl) (hl.fr (fr2.trans fr3)) (by omega) hlb
  have hr : Rw boE H3 (some ⟨b1, 0, none⟩) (fB (trF ps l i kk ps.length)) := Rw.of (r := []) hb1 (by rw [bB]; rfl) (by rw [List.append_nil])
  simp (disch:=first|(simp only [yk,seval];done)|omega|(simp only [yz]<;>omega)|fail) only [↓yp,yq0,yq1,yq2,yq3,yq4,yl,ys0,ys1,seval,fitB,newC,endD,endR,yrg,k42,k40,k14,k13,k1,k2,k3,k4,h81]
  refine c86 hr (by omega) (by omega) (by omega) (by have := fr2.size; omega) (by omega) ?_
  intro b2 H4 fr4 hb2 hb22 bB2
  have f4 := fr4.size
  have s4 := fr4.same
  obtain ⟨hF, hlo, hhi'⟩ := aft_kn (op := op) (fd := fd) hst ho hp hn
  rw [hF] at bB2
  have hPn : PP kk = !decide (lfHi (ps.set i (kn p kk)) l op fd < lfLo (ps.set i (kn p kk)) l fd) := by rw [← hPP]; rfl
  obtain ⟨X, hX⟩ : ∃ X, lfLo (ps.set i (kn p kk)) l fd = X := ⟨_, rfl⟩
  obtain ⟨Y, hY⟩ : ∃ Y, lfHi (ps.set i (kn p kk)) l op fd = Y := ⟨_, rfl⟩
  rw [hX, hY] at bB2 hPn
  rw [hX] at hlo
  rw [hY] at hhi'
  have hE := ends_iv (n := 25) (lo := X) (hi := Y) hlo hhi'
  have hr2 : Rw boE H4 (some ⟨b2, 0, none⟩) (ivB 25 X Y) := Rw.of (r := []) hb2 (by rw [bB2]; rfl) (by rw [List.append_nil])
  have h85 := fun (N : Nat) => c85 (N := N) (cap := 25) hr2 (by rw [ivB_len]; omega)
  simp only [ivB_len] at h85
  obtain ⟨u1, u2, hu, hu2⟩ : ∃ u1 u2 : Int, endF (ivB 25 X Y) 25 = (u1, u2) ∧ decide (u2 ≥ 0) = PP kk := by
   rw [hE, hPn]
   by_cases hC : X ≤ Y
   ·rw [if_pos hC]
    exact ⟨_, _, rfl, by rw [decide_eq_true (show Y ≥ 0 by omega), decide_eq_false (show ¬ Y < X by omega)]; rfl⟩
   ·rw [if_neg hC]
    exact ⟨_, _, rfl, by rw [decide_eq_true (show Y < X by omega)]; rfl⟩
  rw [hu] at h85
  have hbT4 : H4.get bt = .rw (boE.fl (tdB PP p.f k)) 4 false [] := by rw [s4 _ (by omega), s3 _ (by omega)]; exact hbT
  have hfit : decide (kk + 1 ≤ (boE.fl (tdB PP p.f k)).length) = true := by
   rw [fl_length, tdB_len]
   simp only [decide_eq_true_eq]
   show kk + 1 ≤ 7 * 1
   omega
  have hset : newC kk [.bool (PP kk)] (boE.fl (tdB PP p.f k)) = boE.fl (tdB PP p.f (k + 1)) := by
   have := newC_fl (E := boE) (l := tdB PP p.f k) (k := kk) (s := PP kk) (by rw [tdB_len]; omega)
   rw [show kk * boE.z = kk from Nat.mul_one _, tdB_set (by omega) (by omega)] at this
   exact this
  simp (disch:=first|(simp only [yk,seval];done)|omega|(simp only [yz]<;>omega)|fail) only [↓yp,yq0,yq1,yq2,yq3,yq4,yl,ys0,ys1,seval,fitB,newC,endD,endR,yrg,k42,k40,k14,k13,k1,k2,k3,k4,h85,A_fld1,flK1_of,hu2,A_indexSlice st_esS_138,hbT4,hfit,w2]
  refine ⟨K - (k + 1), by omega, k + 1, rfl, by omega, Keep.trans kp (by (with_reducible repeat first|refine Keep.put ?_ (by decide)|refine Keep.none ?_|assumption|exact Keep.refl _ _ _)), ?_, ?_, by (first | omega | (simp only [yz] <;> omega)), fun j hj hne => ?_, ?_⟩
  ·simp (disch:=first|(simp only [yk,seval];done)|omega|(simp only [yz]<;>omega)|fail) only [yg,seval]
  ·exact Fr.put ((fr2.trans fr3).trans fr4) (by omega) _
  ·rw [get_put_ne hne, s4 _ (by omega), s3 _ (by omega)]; exact hoth j hj hne
  ·rw [get_put_same (by omega)]
   exact congrArg (fun x => ABlk.rw x 4 false []) hset
 ·have hke : k = K := by have := of_decide_eq_false hT; omega
  subst hke
  simp (disch:=first|(simp only [yk,seval];done)|omega|(simp only [yz]<;>omega)|fail) only [↓yp,yq0,yq1,yq2,yq3,yq4,yl,ys0,ys1,seval,fitB,newC,endD,endR,yrg]
  have kp2 : Keep 69 [1, 2, 3, 4, 12, 13, 14] e e' := fun j hj => kp j (by revert hj; simp; omega)
  exact ⟨Keep.trans kp2 (by (with_reducible repeat first|refine Keep.put ?_ (by decide)|refine Keep.none ?_|assumption|exact Keep.refl _ _ _)), fr2, hsz, hoth, hbT⟩
end
end Go.Am.K
