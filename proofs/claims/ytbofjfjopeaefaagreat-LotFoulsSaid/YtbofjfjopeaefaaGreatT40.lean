import Derived.Test.YtbofjfjopeaefaaGreatT39
set_option linter.unusedSimpArgs false
set_option linter.unusedVariables false
namespace Go.Am.K
open Go.Proofs
variable {T : Tab} {P : Program} {N L : Nat} {H H' H'' : AHeap} {Q : Bool → Value → AHeap → Prop}
def lotB : List Pk → List Int → Bool
 | p :: ps, n :: l => wi n 0 p.s && lotB ps l
 | _, _ => true
theorem lotB_at : ∀ {ps : List Pk} {l : List Int}, lotB ps l = true ↔ ∀ (j : Nat) (n : Int) (p : Pk), l[j]? = some n → ps[j]? = some p → wi n 0 p.s = true
 | [], l => by simp [lotB]
 | p :: ps, [] => by simp [lotB]
 | p :: ps, n :: l => by
  unfold lotB
  rw [Bool.and_eq_true, lotB_at (ps := ps) (l := l)]
  constructor
  ·rintro ⟨h1, h2⟩ j m q hm hq
   cases j with
   | zero => simp at hm hq; subst hm hq; exact h1
   | succ j => exact h2 j m q (by simpa using hm) (by simpa using hq)
  ·intro h
   exact ⟨h 0 n p rfl rfl, fun j m q hm hq => h (j + 1) m q (by simpa using hm) (by simpa using hq)⟩
def lotE (ps : List Pk) (gs : List Gd) (lots : Int) (l : List Int) : Int := bif decide (chkS ps gs lots = 0) then bif decide ((l.length : Int) = (ps.length : Int)) then bif lotB ps l then 0 else 4 else 3 else chkS ps gs lots
theorem lotE_ok {ps : List Pk} {gs : List Gd} {lots : Int} {l : List Int} (h : lotE ps gs lots l = 0) : StOk ps gs lots ∧ chkS ps gs lots = 0 ∧ LotOk ps l := by
 unfold lotE at h
 cases hA : decide (chkS ps gs lots = 0)
 ·rw [hA] at h; exact absurd h (of_decide_eq_false hA)
 rw [hA, cond_true] at h
 cases hB : decide ((l.length : Int) = (ps.length : Int))
 ·rw [hB] at h; cases h
 rw [hB, cond_true] at h
 cases hC : lotB ps l
 ·rw [hC] at h; cases h
 have hB' := of_decide_eq_true hB
 exact ⟨chkS_ok (of_decide_eq_true hA), of_decide_eq_true hA, by omega, fun j n p hn hp => by
  have := lotB_at.1 hC j n p hn hp
  unfold wi at this
  simpa using this⟩
section
variable {a a' al : Option Addr} {cap cap' cl : Nat} {ps : List Pk} {gs : List Gd} {lots : Int} {l : List Int}
set_option maxHeartbeats 2000000 in
theorem c80 (hs : Rw pkE H a ps) (hgs : Rw gdE H a' gs) (hl : Rw intE H al l) (hll : l.length ≤ 8) :
  acall tabA (aexec tabA Tryz.prog (N + 600)) 66 [.agg ⟨[.slice a ps.length cap, .slice a' gs.length cap', .int .i64 lots]⟩, .slice al l.length cl] H = some (true, .int .i64 (lotE ps gs lots l), H, H.size) := by
 refine call_quiet (k := 35) (rs := [.tmp 4]) rfl fn_66 rfl rfl rfl ?_ rfl
 have fr : Fr H (H.alloc (.rw [.slice a ps.length cap, .slice a' gs.length cap', .int .i64 lots] 34 false [])) := by (repeat (first | exact Fr.refl _ | assumption | refine Fr.allocd ?_ _ | refine Fr.put ?_ (by first | omega | (simp only [yz] <;> omega)) _))
 have h17 := fun (N : Nat) => c17 (N := N) (cap := cap) (cap' := cap') (lots := lots) (hs.fr fr) (hgs.fr fr)
 have h67 := fun (N : Nat) (H : AHeap) (n lo hi : Int) => c67 (N := N) (H := H) (n := n) (lo := lo) (hi := hi)
 simp only [off_wi] at h67
 unfold lotE
 cases hA : decide (chkS ps gs lots = 0)
 ·simp (disch:=first|(simp only [yk,seval];done)|omega|(simp only [yz]<;>omega)|fail) only [↓yp,yA,ys0,ys1,seval,fitB,newC,endD,endR,yrg,h17,hA]
 cases hB : decide ((l.length : Int) = (ps.length : Int))
 ·simp (disch:=first|(simp only [yk,seval];done)|omega|(simp only [yz]<;>omega)|fail) only [↓yp,yA,ys0,ys1,seval,fitB,newC,endD,endR,yrg,h17,hA,lenV_slice st_esS_26,lenV_slice st_esS_31,hB]
 have hB' := of_decide_eq_true hB
 simp (disch:=first|(simp only [yk,seval];done)|omega|(simp only [yz]<;>omega)|fail) only [↓yp,yA,ys0,ys1,seval,fitB,newC,endD,endR,yrg,h17,hA,lenV_slice st_esS_26,lenV_slice st_esS_31,hB]
 refine W_while (n := 35) 70 (fun k e H' => ∃ i : Nat, k = l.length - i ∧ i ≤ l.length ∧ gt 35 e 6 = .int .i64 (i : Nat) ∧ gt 35 e 1 = .slice al l.length cl ∧ gt 35 e 2 = .pointer (some ⟨H.size, 0, none⟩) ∧ H' = H.alloc (.rw [.slice a ps.length cap, .slice a' gs.length cap', .int .i64 lots] 34 false []) ∧ ∀ j n p, j < i → l[j]? = some n → ps[j]? = some p → wi n 0 p.s = true)
  ?_ 8 l.length ⟨0, by omega, by omega, by simp (disch:=first|(simp only [yk,seval];done)|omega|(simp only [yz]<;>omega)|fail) only [yg,seval] <;> rfl, by simp (disch:=first|(simp only [yk,seval];done)|omega|(simp only [yz]<;>omega)|fail) only [yg,seval], by simp (disch:=first|(simp only [yk,seval];done)|omega|(simp only [yz]<;>omega)|fail) only [yg,seval], rfl, fun j n p hj => by omega⟩ (by omega) (by omega)
 rintro M k e H1 ⟨i, rfl, hi, g6, g1, g2, rfl, hj⟩
 simp (disch:=first|(simp only [yk,seval];done)|omega|(simp only [yz]<;>omega)|fail) only [↓yp,yA,ys0,ys1,seval,fitB,newC,endD,endR,yrg,g6,g1,lenV_slice st_esS_26]
 refine ⟨fun hT => ?_, fun hT => ?_⟩
 ·have hlt : i < l.length := by simpa using hT
  have hlt2 : i < ps.length := by omega
  obtain ⟨p, hp⟩ : ∃ p, ps[i]? = some p := ⟨ps[i], by simp [hlt2]⟩
  obtain ⟨n, hn⟩ : ∃ n, l[i]? = some n := ⟨l[i], by simp [hlt]⟩
  obtain ⟨b, o, c, eb, hb, hc, hq⟩ := (hs.fr fr).get (by rintro rfl; simp at hlt2)
  obtain ⟨b1, o1, c1, e1, -, hc1, hq1⟩ := (hs.fr fr).at_ hp
  subst eb
  cases e1
  rw [hc] at hc1
  cases hc1
  obtain ⟨b2, o2, c2, e2, hb2, hc2, hq2⟩ := (hl.fr fr).at_ hn
  subst e2
  have q2 := cell_of hq2
  rw [show i * intE.z = i * 1 from rfl, Nat.mul_one] at q2
  have q1 : c[o + i * 4]? = some (.int .i64 p.s) := by
   have h0 : ((c.drop (o + i * 4)).take 4)[0]? = some (.int .i64 p.s) := by
    have : (c.drop (o + i * 4)).take 4 = p.enc := hq1
    rw [this]; rfl
   rw [List.getElem?_take, if_pos (by omega), List.getElem?_drop] at h0
   exact h0
  have hw2 : w64 ((i : Int) + 1) = ((i + 1 : Nat) : Int) := by rw [w64_of (by omega)]; omega
  simp (disch:=first|(simp only [yk,seval];done)|omega|(simp only [yz]<;>omega)|fail) only [↓yp,yA,ys0,ys1,seval,fitB,newC,endD,endR,yrg,g6,g1,g2]
  refine W_draw [] rfl (by kernel_rfl) (by kernel_rfl) (by first|omega|(simp only [yz]<;>omega)) ?_
  cases hW : wi n 0 p.s
  ·have no : lotB ps l = false := by
    cases ho : lotB ps l with
    | false => rfl
    | true => have := lotB_at.1 ho i n p hn hp; rw [hW] at this; cases this
   simp (disch:=first|(simp only [yk,seval];done)|omega|(simp only [yz]<;>omega)|fail) only [↓yp,yA,ys0,ys1,seval,fitB,newC,endD,endR,yrg,g6,g1,g2,A_indexSlice st_esS_26,A_indexSlice st_esS_31,hc,hc2,q1,q2,h67,hW,no]
  ·simp (disch:=first|(simp only [yk,seval];done)|omega|(simp only [yz]<;>omega)|fail) only [↓yp,yA,ys0,ys1,seval,fitB,newC,endD,endR,yrg,g6,g1,g2,A_indexSlice st_esS_26,A_indexSlice st_esS_31,hc,hc2,q1,q2,h67,hW,hw2]
   refine ⟨l.length - (i + 1), by omega, i + 1, rfl, by omega, ?_, ?_, ?_, rfl, ?_⟩
   ·simp (disch:=first|(simp only [yk,seval];done)|omega|(simp only [yz]<;>omega)|fail) only [yg,seval]
   ·simp (disch:=first|(simp only [yk,seval];done)|omega|(simp only [yz]<;>omega)|fail) only [yg,seval,g1]
   ·simp (disch:=first|(simp only [yk,seval];done)|omega|(simp only [yz]<;>omega)|fail) only [yg,seval,g2]
   ·intro j n' p' hj' hn' hp'
    by_cases e : j = i
    ·subst e; rw [hn] at hn'; rw [hp] at hp'; cases hn'; cases hp'; exact hW
    ·exact hj j n' p' (by omega) hn' hp'
 have hie : i = l.length := by have := of_decide_eq_false hT; omega
 subst hie
 have ok : lotB ps l = true := lotB_at.2 fun j n p hn hp => hj j n p (List.getElem?_eq_some_iff.1 hn).1 hn hp
 simp (disch:=first|(simp only [yk,seval];done)|omega|(simp only [yz]<;>omega)|fail) only [↓yp,yA,ys0,ys1,seval,fitB,newC,endD,endR,yrg,ok]
set_option maxHeartbeats 2000000 in
theorem c99g {x y : Value} (hs : Rw pkE H a ps) (hl : Rw intE H al l) (h4 : ps.length ≤ 4) (hll : l.length ≤ 8) :
  acall tabA (aexec tabA Tryz.prog (N + 250)) 92 [.agg ⟨[.slice a ps.length cap, x, y]⟩, .slice al l.length cl] H = some (true, .int .i64 (bif decide ((l.length : Int) = (ps.length : Int)) then bif lotB ps l then 0 else 4 else 3), H, H.size) := by
 refine call_quiet (k := 30) (rs := [.tmp 4]) rfl fn_92 rfl rfl rfl ?_ rfl
 have h58 := fun (N : Nat) (H : AHeap) (n lo hi : Int) => c58 (N := N) (H := H) (n := n) (lo := lo) (hi := hi)
 cases hB : decide ((l.length : Int) = (ps.length : Int))
 ·simp (disch:=first|(simp only [yk,seval];done)|omega|(simp only [yz]<;>omega)|fail) only [↓yp,yA,ys0,ys1,seval,fitB,newC,endD,endR,yrg,lenV_slice st_esS_22,lenV_slice st_esS_26,hB]
 have hB' := of_decide_eq_true hB
 simp (disch:=first|(simp only [yk,seval];done)|omega|(simp only [yz]<;>omega)|fail) only [↓yp,yA,ys0,ys1,seval,fitB,newC,endD,endR,yrg,lenV_slice st_esS_22,lenV_slice st_esS_26,hB]
 refine W_while (n := 30) 100 (fun q e' H' => ∃ i : Nat, q = ps.length - i ∧ i ≤ ps.length ∧ gt 30 e' 16 = .int .i64 (i : Nat) ∧ gt 30 e' 15 = .int .i64 ps.length ∧ gt 30 e' 14 = .slice a ps.length cap ∧ gt 30 e' 1 = .slice al l.length cl ∧ Fr H H' ∧ ∀ j n p, j < i → l[j]? = some n → ps[j]? = some p → wi n 0 p.s = true)
  ?_ 4 ps.length ⟨0, by omega, by omega, by simp (disch:=first|(simp only [yk,seval];done)|omega|(simp only [yz]<;>omega)|fail) only [yg,seval] <;> rfl, by simp (disch:=first|(simp only [yk,seval];done)|omega|(simp only [yz]<;>omega)|fail) only [yg,seval], by simp (disch:=first|(simp only [yk,seval];done)|omega|(simp only [yz]<;>omega)|fail) only [yg,seval], by simp (disch:=first|(simp only [yk,seval];done)|omega|(simp only [yz]<;>omega)|fail) only [yg,seval], by (repeat (first | exact Fr.refl _ | assumption | refine Fr.allocd ?_ _ | refine Fr.put ?_ (by first | omega | (simp only [yz] <;> omega)) _)), fun j n p hj => by omega⟩ (by omega) (by omega)
 rintro M1 q e H' ⟨i, rfl, hi, g16, g15, g14, g1, fr, hj⟩
 have f0 := fr.size
 have fs := fr.same
 simp (disch:=first|(simp only [yk,seval];done)|omega|(simp only [yz]<;>omega)|fail) only [↓yp,yA,ys0,ys1,seval,fitB,newC,endD,endR,yrg,g16,g15]
 refine ⟨fun hA => ?_, fun hA => ?_⟩
 ·have hi' : i < ps.length := by simpa using hA
  have hil : i < l.length := by omega
  obtain ⟨p, hp⟩ : ∃ p, ps[i]? = some p := ⟨ps[i], by simp [hi']⟩
  obtain ⟨n, hn⟩ : ∃ n, l[i]? = some n := ⟨l[i], by simp [hil]⟩
  obtain ⟨b, o, c, rfl, hb, hc, hq⟩ := (hs.fr fr).at_ hp
  have q : part c (o + i * 4) 5 = some (.agg ⟨p.enc⟩) := part_of hq rfl
  obtain ⟨b2, o2, c2, rfl, hb2, hc2, hq2⟩ := (hl.fr fr).at_ hn
  have q2 := cell_of hq2
  rw [show i * intE.z = i * 1 from rfl, Nat.mul_one] at q2
  have hw2 : w64 ((i : Int) + 1) = ((i + 1 : Nat) : Int) := by rw [w64_of (by omega)]; omega
  simp only [Pk.enc] at q
  simp (disch:=first|(simp only [yk,seval];done)|omega|(simp only [yz]<;>omega)|fail) only [↓yp,yA,ys0,ys1,seval,fitB,newC,endD,endR,yrg,g16,g14,A_indexSlice st_esS_22,hc,q]
  refine W_draw [] rfl (by kernel_rfl) (by kernel_rfl) (by first|omega|(simp only [yz]<;>omega)) ?_
  cases hW : wi n 0 p.s
  ·have no : lotB ps l = false := by
    cases ho : lotB ps l with
    | false => rfl
    | true => have := lotB_at.1 ho i n p hn hp; rw [hW] at this; cases this
   simp (disch:=first|(simp only [yk,seval];done)|omega|(simp only [yz]<;>omega)|fail) only [↓yp,yA,ys0,ys1,seval,fitB,newC,endD,endR,yrg,g16,g15,g14,g1,A_indexSlice st_esS_26,hc2,q2,h58,hW,no]
  ·simp (disch:=first|(simp only [yk,seval];done)|omega|(simp only [yz]<;>omega)|fail) only [↓yp,yA,ys0,ys1,seval,fitB,newC,endD,endR,yrg,g16,g15,g14,g1,A_indexSlice st_esS_26,hc2,q2,h58,hW,hw2]
   refine ⟨ps.length - (i + 1), by omega, i + 1, rfl, by omega, ?_, ?_, ?_, ?_, by (repeat (first | exact Fr.refl _ | assumption | refine Fr.allocd ?_ _ | refine Fr.put ?_ (by first | omega | (simp only [yz] <;> omega)) _)), ?_⟩
   ·simp (disch:=first|(simp only [yk,seval];done)|omega|(simp only [yz]<;>omega)|fail) only [yg,seval]
   ·simp (disch:=first|(simp only [yk,seval];done)|omega|(simp only [yz]<;>omega)|fail) only [yg,seval,g15]
   ·simp (disch:=first|(simp only [yk,seval];done)|omega|(simp only [yz]<;>omega)|fail) only [yg,seval,g14]
   ·simp (disch:=first|(simp only [yk,seval];done)|omega|(simp only [yz]<;>omega)|fail) only [yg,seval,g1]
   ·intro j n' p' hj' hn' hp'
    by_cases e : j = i
    ·subst e; rw [hn] at hn'; rw [hp] at hp'; cases hn'; cases hp'; exact hW
    ·exact hj j n' p' (by omega) hn' hp'
 have hie : i = ps.length := by have := of_decide_eq_false hA; omega
 subst hie
 have ok : lotB ps l = true := lotB_at.2 fun j n p hn hp => hj j n p (List.getElem?_eq_some_iff.1 hp).1 hn hp
 simp (disch:=first|(simp only [yk,seval];done)|omega|(simp only [yz]<;>omega)|fail) only [↓yp,yA,ys0,ys1,seval,fitB,newC,endD,endR,yrg,ok]
theorem c74g (hs : Rw pkE H a ps) (hgs : Rw gdE H a' gs) (hl : Rw intE H al l) (hll : l.length ≤ 8) :
  acall tabA (aexec tabA Tryz.prog (N + 400)) 62 [.agg ⟨[.slice a ps.length cap, .slice a' gs.length cap', .int .i64 lots]⟩, .slice al l.length cl] H = some (true, .int .i64 (lotE ps gs lots l), H, H.size) := by
 refine call_quiet (k := 14) (rs := [.tmp 4]) rfl fn_62 rfl rfl rfl ?_ rfl
 have fr : Fr H (H.alloc (.rw [.slice a ps.length cap, .slice a' gs.length cap', .int .i64 lots] 25 false [])) := by (repeat (first | exact Fr.refl _ | assumption | refine Fr.allocd ?_ _ | refine Fr.put ?_ (by first | omega | (simp only [yz] <;> omega)) _))
 have h16 := fun (N : Nat) => c16 (N := N) (cap := cap) (cap' := cap') (lots := lots) (hs.fr fr) (hgs.fr fr)
 unfold lotE
 cases hA : decide (chkS ps gs lots = 0)
 ·simp (disch:=first|(simp only [yk,seval];done)|omega|(simp only [yz]<;>omega)|fail) only [↓yp,yA,ys0,ys1,seval,fitB,newC,endD,endR,yrg,h16,hA]
 ·have h99 := fun (N : Nat) => c99g (N := N) (cap := cap) (cl := cl) (x := .slice a' gs.length cap') (y := .int .i64 lots) (hs.fr fr) (hl.fr fr) (chkS_ok (of_decide_eq_true hA)).l4 hll
  simp (disch:=first|(simp only [yk,seval];done)|omega|(simp only [yz]<;>omega)|fail) only [↓yp,yA,ys0,ys1,seval,fitB,newC,endD,endR,yrg,h16,hA,h99]
end
end Go.Am.K
namespace Go.Am.K
open Go.Proofs
variable {T : Tab} {P : Program} {N L : Nat} {H H' H'' : AHeap} {Q : Bool → Value → AHeap → Prop}
def ivB (n : Nat) (lo hi : Int) : List Bool := (List.range n).map fun (j : Nat) => decide (lo ≤ (j : Int)) && decide ((j : Int) ≤ hi)
theorem ivB_len {n : Nat} {lo hi : Int} : (ivB n lo hi).length = n := by unfold ivB; rw [List.length_map, List.length_range]
theorem ivB_at {n j : Nat} {lo hi : Int} (h : j < n) : (ivB n lo hi)[j]? = some (decide (lo ≤ (j : Int)) && decide ((j : Int) ≤ hi)) := by unfold ivB; rw [List.getElem?_map, List.getElem?_range h]; rfl
theorem endF_iv {n : Nat} {lo hi : Int} (h0 : 0 ≤ lo) : ∀ i : Nat, i ≤ n → endF (ivB n lo hi) i = if lo < i ∧ lo ≤ hi then (lo, if hi < i then hi else (i : Int) - 1) else ((n : Int), -1)
 | 0, _ => by
  rw [if_neg (by omega)]
  unfold endF
  rw [ivB_len]
 | i + 1, hi' => by
  have ih := endF_iv (n := n) (hi := hi) h0 i (by omega)
  have e : endF (ivB n lo hi) (i + 1) = match (ivB n lo hi)[i]? with
   | some true => (if (i : Int) < (endF (ivB n lo hi) i).1 then (i : Int) else (endF (ivB n lo hi) i).1, (i : Int))
   | _ => endF (ivB n lo hi) i := rfl
  rw [e, ivB_at (j := i) (by omega)]
  by_cases hA : lo ≤ (i : Int) ∧ (i : Int) ≤ hi
  ·rw [show (decide (lo ≤ (i : Int)) && decide ((i : Int) ≤ hi)) = true by simp [hA]]
   simp only
   rw [ih]
   rw [if_pos (show lo < ((i + 1 : Nat) : Int) ∧ lo ≤ hi by omega)]
   by_cases hB : lo < (i : Int) ∧ lo ≤ hi
   ·rw [if_pos hB]
    simp only
    rw [if_neg (by omega)]
    refine Prod.ext rfl ?_
    show (i : Int) = _
    split <;> omega
   ·rw [if_neg hB]
    simp only
    rw [if_pos (by omega)]
    refine Prod.ext ?_ ?_
    ·show (i : Int) = lo; omega
    ·show (i : Int) = _
     split <;> omega
  ·rw [show (decide (lo ≤ (i : Int)) && decide ((i : Int) ≤ hi)) = false by
    cases h1 : decide (lo ≤ (i : Int))
    ·rfl
    ·have := of_decide_eq_true h1
     simp; omega]
   simp only
   rw [ih]
   by_cases hB : lo < (i : Int) ∧ lo ≤ hi
   ·rw [if_pos hB, if_pos (show lo < ((i + 1 : Nat) : Int) ∧ lo ≤ hi by omega)]
    refine Prod.ext rfl ?_
    show (if hi < (i : Int) then hi else (i : Int) - 1) = if hi < ((i + 1 : Nat) : Int) then hi else ((i + 1 : Nat) : Int) - 1
    split <;> split <;> omega
   ·rw [if_neg hB, if_neg (show ¬ (lo < ((i + 1 : Nat) : Int) ∧ lo ≤ hi) by omega)]
theorem ends_iv {n : Nat} {lo hi : Int} (h0 : 0 ≤ lo) (hn : hi < n) : endF (ivB n lo hi) n = if lo ≤ hi then (lo, hi) else ((n : Int), -1) := by
 rw [endF_iv h0 n (Nat.le_refl _)]
 by_cases h : lo ≤ hi
 ·rw [if_pos (by omega), if_pos h, if_pos hn]
 ·rw [if_neg (by omega), if_neg h]
theorem step_iv {a b lo hi j : Int} (hab : a ≤ b) (hlh : lo ≤ hi) : (lo + a ≤ j ∧ j ≤ hi + b) ↔ ∃ x, a ≤ x ∧ x ≤ b ∧ lo ≤ j - x ∧ j - x ≤ hi := by
 constructor
 ·rintro ⟨h1, h2⟩
  by_cases hx : j - lo ≤ b
  ·by_cases hy : a ≤ j - hi
   ·exact ⟨j - hi, by omega, by omega, by omega, by omega⟩
   ·exact ⟨a, by omega, by omega, by omega, by omega⟩
  ·exact ⟨b, by omega, by omega, by omega, by omega⟩
 ·rintro ⟨x, h1, h2, h3, h4⟩
  omega
end Go.Am.K
namespace Go.Am.K
open Go.Proofs
variable {T : Tab} {P : Program} {N L : Nat} {H H' H'' : AHeap} {Q : Bool → Value → AHeap → Prop}
def fB (f : Nat → Bool) : List Bool := (List.range 25).map f
theorem fB_len {f : Nat → Bool} : (fB f).length = 25 := by unfold fB; rw [List.length_map, List.length_range]
theorem fB_at {f : Nat → Bool} {j : Nat} (h : j < 25) : (fB f)[j]? = some (f j) := by unfold fB; rw [List.getElem?_map, List.getElem?_range h]; rfl
theorem fB_congr {f g : Nat → Bool} (h : ∀ j, j < 25 → f j = g j) : fB f = fB g := by
 unfold fB
 exact List.map_congr_left fun j hj => h j (List.mem_range.1 hj)
theorem fB_set {f : Nat → Bool} {k : Nat} {v : Bool} : (fB f).set k v = fB fun j => if j = k then v else f j := by
 apply List.ext_getElem?
 intro j
 by_cases hj : j < 25
 ·rw [fB_at hj, List.getElem?_set]
  by_cases e : k = j
  ·subst e
   rw [if_pos rfl, if_pos (by rw [fB_len]; exact hj), if_pos rfl]
  ·rw [if_neg e, fB_at hj, if_neg (Ne.symm e)]
 ·rw [List.getElem?_eq_none (by rw [List.length_set, fB_len]; omega), List.getElem?_eq_none (by rw [fB_len]; omega)]
def orM (f g : Nat → Bool) (x m : Nat) : Nat → Bool := fun j => f j || ((decide (x ≤ j) && decide (j < m + x)) && g (j - x))
set_option maxHeartbeats 2000000 in
theorem c87m {e : VT} {bx bn x : Nat} {f g : Nat → Bool} (hL : L ≤ bx) (hx : x ≤ 6) (g14 : gt 93 e 14 = .int .i64 (x : Nat)) (g11 : gt 93 e 11 = .slice (some ⟨bx, 0, none⟩) 25 25) (g9 : gt 93 e 9 = .slice (some ⟨bn, 0, none⟩) 25 25)
  (bx1 : H'.get bx = .rw (boE.fl (fB f)) 4 false []) (bx2 : bx < H'.size) (bn1 : H'.get bn = .rw (boE.fl (fB g)) 4 false []) (bn2 : bn < H'.size) (hne : bx ≠ bn) :
  W tabA Tryz.prog (N + 600) none (sub [true, true, true, false, true, false, false, true, false, false, true, true, false, true, false, false, true, false, false, true, true, false, false, true, false, false, true, false] (bodyOf Tryz.f139)) L ⟨93, e, H', []⟩ (endK 93 [] fun e' H'' => Keep 93 [1, 2, 3, 4, 9, 10, 11, 12, 13, 14] e e' ∧ H''.size = H'.size ∧ (∀ j, j ≠ bx → H''.get j = H'.get j) ∧ H''.get bx = .rw (boE.fl (fB (orM f g x 25))) 4 false []) := by
 simp only [Tryz.f139,bodyOf,sub_nil,sub_seq0,sub_seq1,sub_block,sub_loop,sub_cond0,sub_cond1]
 simp (disch:=first|(simp only [yk,seval];done)|omega|(simp only [yz]<;>omega)|fail) only [↓yp,yA,ys0,ys1,seval,fitB,newC,endD,endR,yrg]
 refine W_while (n := 93) 400 (fun q e' H'' => ∃ m : Nat, q = 25 - m ∧ m + x ≤ 25 ∧ Keep 93 [1, 2, 3, 4, 9, 10, 11, 12, 13, 14] e e' ∧ gt 93 e' 15 = .int .i64 (m : Nat) ∧ H''.size = H'.size ∧ (∀ j, j ≠ bx → H''.get j = H'.get j) ∧ H''.get bx = .rw (boE.fl (fB (orM f g x m))) 4 false [])
  ?_ 25 25 ⟨0, by omega, by omega, by (with_reducible repeat first|refine Keep.put ?_ (by decide)|refine Keep.none ?_|assumption|exact Keep.refl _ _ _), by simp (disch:=first|(simp only [yk,seval];done)|omega|(simp only [yz]<;>omega)|fail) only [yg,seval] <;> rfl, rfl, fun _ _ => rfl, ?_⟩ (by omega) (by omega)
 rotate_left
 ·rw [bx1]
  congr 2
  refine fB_congr fun j hj => ?_
  unfold orM
  cases hA : decide (x ≤ j)
  ·simp
  ·have := of_decide_eq_true hA
   rw [show decide (j < 0 + x) = false by simp; omega]
   simp
 rintro M q e' H2 ⟨m, rfl, hm, kp, k15, hs, hoth, hbx⟩
 have k14 := (kp 14 (by decide)).trans g14
 have k11 := (kp 11 (by decide)).trans g11
 have k9 := (kp 9 (by decide)).trans g9
 have hbn : H2.get bn = .rw (boE.fl (fB g)) 4 false [] := (hoth bn (Ne.symm hne)).trans bn1
 have w1 : w64 ((m : Int) + (x : Int)) = ((m + x : Nat) : Int) := by rw [w64_of (by omega)]; omega
 have w2 : w64 ((m : Int) + 1) = ((m + 1 : Nat) : Int) := by rw [w64_of (by omega)]; omega
 simp (disch:=first|(simp only [yk,seval];done)|omega|(simp only [yz]<;>omega)|fail) only [↓yp,yA,ys0,ys1,seval,fitB,newC,endD,endR,yrg,k15,k14,w1]
 refine ⟨fun hT => ?_, fun hT => ?_⟩
 ·have hlt : m + x < 25 := by have := of_decide_eq_true hT; omega
  have q1 : (boE.fl (fB (orM f g x m)))[m + x]? = some (.bool (f (m + x))) := by
   have := fl_at (E := boE) (fB_at (f := orM f g x m) hlt)
   have e1 : orM f g x m (m + x) = f (m + x) := by unfold orM; simp
   rw [e1] at this
   have := cell_of (k := (m + x) * 1) this
   rwa [Nat.mul_one] at this
  have q2 : (boE.fl (fB g))[m]? = some (.bool (g m)) := by
   have := cell_of (k := m * 1) (fl_at (E := boE) (fB_at (f := g) (show m < 25 by omega)))
   rwa [Nat.mul_one] at this
  have hset : ∀ v, newC (m + x) [.bool v] (boE.fl (fB (orM f g x m))) = boE.fl ((fB (orM f g x m)).set (m + x) v) := fun v => by
   have := newC_fl (E := boE) (l := fB (orM f g x m)) (k := m + x) (s := v) (by rw [fB_len]; omega)
   rwa [show (m + x) * boE.z = m + x from Nat.mul_one _] at this
  have hnx : (fB (orM f g x m)).set (m + x) (f (m + x) || g m) = fB (orM f g x (m + 1)) := by
   rw [fB_set]
   refine fB_congr fun j hj => ?_
   by_cases e : j = m + x
   ·subst e
    rw [if_pos rfl]
    unfold orM
    rw [show m + x - x = m by omega, show decide (x ≤ m + x) = true by simp, show decide (m + x < m + 1 + x) = true from decide_eq_true (by omega)]
    simp
   ·rw [if_neg e]
    unfold orM
    rw [show decide (j < m + 1 + x) = decide (j < m + x) by rw [decide_eq_decide]; omega]
  have hfit : decide (m + x + 1 ≤ (boE.fl (fB (orM f g x m))).length) = true := by
   rw [fl_length, fB_len]
   simp only [decide_eq_true_eq]
   show m + x + 1 ≤ 25 * 1
   omega
  cases hf : f (m + x)
  ·rw [hf] at q1 hnx
   simp (disch:=first|(simp only [yk,seval];done)|omega|(simp only [yz]<;>omega)|fail) only [↓yp,yA,ys0,ys1,seval,fitB,newC,endD,endR,yrg,k15,k14,k11,k9,w1,w2,A_indexSlice st_esS_198,hbx,hbn,q1,q2,hfit]
   refine ⟨25 - (m + 1), by omega, m + 1, rfl, by omega, Keep.trans kp (by (with_reducible repeat first|refine Keep.put ?_ (by decide)|refine Keep.none ?_|assumption|exact Keep.refl _ _ _)), ?_, by rw [size_put]; exact hs, fun j hj => (get_put_ne hj).trans (hoth j hj), ?_⟩
   ·simp (disch:=first|(simp only [yk,seval];done)|omega|(simp only [yz]<;>omega)|fail) only [yg,seval]
   ·rw [get_put_same (by omega), ← hnx, ← hset]; rfl
  ·rw [hf] at q1 hnx
   simp (disch:=first|(simp only [yk,seval];done)|omega|(simp only [yz]<;>omega)|fail) only [↓yp,yA,ys0,ys1,seval,fitB,newC,endD,endR,yrg,k15,k14,k11,k9,w1,w2,A_indexSlice st_esS_198,hbx,hbn,q1,q2,hfit]
   refine ⟨25 - (m + 1), by omega, m + 1, rfl, by omega, Keep.trans kp (by (with_reducible repeat first|refine Keep.put ?_ (by decide)|refine Keep.none ?_|assumption|exact Keep.refl _ _ _)), ?_, by rw [size_put]; exact hs, fun j hj => (get_put_ne hj).trans (hoth j hj), ?_⟩
   ·simp (disch:=first|(simp only [yk,seval];done)|omega|(simp only [yz]<;>omega)|fail) only [yg,seval]
   ·rw [get_put_same (by omega), ← hnx, ← hset]; rfl
 ·have hge : ¬ m + x < 25 := by have := of_decide_eq_false hT; omega
  simp (disch:=first|(simp only [yk,seval];done)|omega|(simp only [yz]<;>omega)|fail) only [↓yp,yA,ys0,ys1,seval,fitB,newC,endD,endR,yrg]
  refine ⟨Keep.trans kp (by (with_reducible repeat first|refine Keep.put ?_ (by decide)|refine Keep.none ?_|assumption|exact Keep.refl _ _ _)), hs, hoth, ?_⟩
  rw [hbx]
  congr 2
  refine fB_congr fun j hj => ?_
  unfold orM
  rw [show decide (j < m + x) = true from decide_eq_true (by omega), show decide (j < 25 + x) = true from decide_eq_true (by omega)]
end Go.Am.K
namespace Go.Am.K
open Go.Proofs
variable {T : Tab} {P : Program} {N L : Nat} {H H' H'' : AHeap} {Q : Bool → Value → AHeap → Prop}
def orX (p : Pk) (m fl : Int) (f g : Nat → Bool) : Nat → Nat → Bool
 | 0 => f
 | x + 1 => bif canB p m fl x then orM (orX p m fl f g x) g x 25 else orX p m fl f g x
set_option maxHeartbeats 2000000 in
theorem c87x {e : VT} {bx bn i4 bp op pn pc bl ol ll cl bf of fn cf i k : Nat} {w1' w2' : Value} {cp cq cr : List Value} {p : Pk} {m fl : Int} {f g : Nat → Bool} (hL : L ≤ bx)
  (g4 : gt 93 e 4 = .pointer (some ⟨i4, 0, none⟩)) (b4 : H'.get i4 = .rw [.slice (some ⟨bp, op, none⟩) pn pc, w1', w2'] 34 false []) (n4 : i4 ≠ bx) (l4 : i4 < H'.size)
  (g10 : gt 93 e 10 = .int .i64 (i : Nat)) (hcp : cellsOf (H'.get bp) = some cp) (qp : part cp (op + i * 4) 5 = some (.agg ⟨p.enc⟩)) (np : bp ≠ bx) (ip : i < pn) (in_ : i ≤ 1000)
  (g1 : gt 93 e 1 = .slice (some ⟨bl, ol, none⟩) ll cl) (hcl : cellsOf (H'.get bl) = some cq) (ql : cq[ol + i]? = some (.int .i64 m)) (nl : bl ≠ bx) (il : i < ll)
  (g12 : gt 93 e 12 = .slice (some ⟨bf, of, none⟩) fn cf) (g13 : gt 93 e 13 = .int .i64 (k : Nat)) (hcf : cellsOf (H'.get bf) = some cr) (qf : cr[of + k]? = some (.int .i64 fl)) (nf : bf ≠ bx) (kf : k < fn)
  (g11 : gt 93 e 11 = .slice (some ⟨bx, 0, none⟩) 25 25) (g9 : gt 93 e 9 = .slice (some ⟨bn, 0, none⟩) 25 25)
  (bx1 : H'.get bx = .rw (boE.fl (fB f)) 4 false []) (bx2 : bx < H'.size) (bn1 : H'.get bn = .rw (boE.fl (fB g)) 4 false []) (bn2 : bn < H'.size) (hne : bx ≠ bn)
  (hs : 0 ≤ p.s ∧ p.s ≤ 6) (hm : 0 ≤ m ∧ m ≤ 6) (hf : 0 ≤ fl ∧ fl ≤ 6) :
  W tabA Tryz.prog (N + 800) none (sub [true, true, true, false, true, false, false, true, false, false, true, true, false, true, false, false, true, false, false, true] (bodyOf Tryz.f139)) L ⟨93, e, H', []⟩ (endK 93 [] fun e' H'' => Keep 93 [1, 2, 3, 4, 9, 10, 11, 12, 13] e e' ∧ H''.size = H'.size ∧ (∀ j, j ≠ bx → H''.get j = H'.get j) ∧ H''.get bx = .rw (boE.fl (fB (orX p m fl f g 7))) 4 false []) := by
 simp only [Tryz.f139,bodyOf,sub_nil,sub_seq0,sub_seq1,sub_block,sub_loop,sub_cond0,sub_cond1]
 simp (disch:=first|(simp only [yk,seval];done)|omega|(simp only [yz]<;>omega)|fail) only [↓yp,yA,ys0,ys1,seval,fitB,newC,endD,endR,yrg]
 refine W_while (n := 93) 700 (fun q e' H'' => ∃ x : Nat, q = 7 - x ∧ x ≤ 7 ∧ Keep 93 [1, 2, 3, 4, 9, 10, 11, 12, 13] e e' ∧ gt 93 e' 14 = .int .i64 (x : Nat) ∧ H''.size = H'.size ∧ (∀ j, j ≠ bx → H''.get j = H'.get j) ∧ H''.get bx = .rw (boE.fl (fB (orX p m fl f g x))) 4 false [])
  ?_ 7 7 ⟨0, by omega, by omega, by (with_reducible repeat first|refine Keep.put ?_ (by decide)|refine Keep.none ?_|assumption|exact Keep.refl _ _ _), by simp (disch:=first|(simp only [yk,seval];done)|omega|(simp only [yz]<;>omega)|fail) only [yg,seval] <;> rfl, rfl, fun _ _ => rfl, bx1⟩ (by omega) (by omega)
 rintro M q e' H2 ⟨x, rfl, hx, kp, k14, hsz, hoth, hbx⟩
 have k4 := (kp 4 (by decide)).trans g4
 have k10 := (kp 10 (by decide)).trans g10
 have k1 := (kp 1 (by decide)).trans g1
 have k12 := (kp 12 (by decide)).trans g12
 have k13 := (kp 13 (by decide)).trans g13
 have k11 := (kp 11 (by decide)).trans g11
 have k9 := (kp 9 (by decide)).trans g9
 have b42 := (hoth i4 n4).trans b4
 have c1 : cellsOf (H2.get bp) = some cp := by rw [hoth bp np]; exact hcp
 have c2 : cellsOf (H2.get bl) = some cq := by rw [hoth bl nl]; exact hcl
 have c3 : cellsOf (H2.get bf) = some cr := by rw [hoth bf nf]; exact hcf
 have hbn := (hoth bn (Ne.symm hne)).trans bn1
 have w2 : w64 ((x : Int) + 1) = ((x + 1 : Nat) : Int) := by rw [w64_of (by omega)]; omega
 simp only [Pk.enc] at qp
 simp (disch:=first|(simp only [yk,seval];done)|omega|(simp only [yz]<;>omega)|fail) only [↓yp,yA,ys0,ys1,seval,fitB,newC,endD,endR,yrg,k14]
 refine ⟨fun hT => ?_, fun hT => ?_⟩
 ·have hlt : x ≤ 6 := by have := of_decide_eq_true hT; omega
  have h116 := fun (N : Nat) (H : AHeap) => c116 (N := N) (H := H) (p := p) (m := m) (f := fl) (x := (x : Nat)) hs hm hf (by omega)
  simp only [Pk.enc] at h116
  obtain ⟨TL, hTL⟩ : ∃ c, sub [true, true, true, false, true, false, false, true, false, false, true, true, false, true, false, false, true, false, false, true, true, false, false, true, false, false, true, false] (bodyOf Tryz.f139) = c := ⟨_, rfl⟩
  have tail := fun (N : Nat) (e'' : VT) (he : Keep 93 [1, 2, 3, 4, 9, 10, 11, 12, 13] e' e'') (h14 : gt 93 e'' 14 = .int .i64 (x : Nat)) => c87m (N := N) (L := L) hL hlt h14 ((he 11 (by decide)).trans k11) ((he 9 (by decide)).trans k9) hbx (by omega) hbn (by omega) hne
  rw [hTL] at tail
  simp only [Tryz.f139,bodyOf,sub_nil,sub_seq0,sub_seq1,sub_block,sub_loop,sub_cond0,sub_cond1] at hTL
  rw [hTL]
  simp (disch:=first|(simp only [yk,seval];done)|omega|(simp only [yz]<;>omega)|fail) only [↓yp,yA,ys0,ys1,seval,fitB,newC,endD,endR,yrg]
  refine W_draw [] rfl (by kernel_rfl) (by kernel_rfl) (by omega) ?_
  cases hC : canB p m fl x
  ·rw [hC] at h116
   have e1 : orX p m fl f g (x + 1) = orX p m fl f g x := by
    show (bif canB p m fl x then _ else _) = _
    rw [hC]; rfl
   simp (disch:=first|(simp only [yk,seval];done)|omega|(simp only [yz]<;>omega)|fail) only [↓yp,yA,ys0,ys1,seval,fitB,newC,endD,endR,yrg,k14,k4,k10,k1,k12,k13,b42,A_indexSlice st_esS_31,A_indexSlice st_esS_26,c1,c2,c3,qp,ql,qf,h116,w2]
   refine ⟨7 - (x + 1), by omega, x + 1, rfl, by omega, Keep.trans kp (by (with_reducible repeat first|refine Keep.put ?_ (by decide)|refine Keep.none ?_|assumption|exact Keep.refl _ _ _)), ?_, hsz, hoth, by rw [e1]; exact hbx⟩
   simp (disch:=first|(simp only [yk,seval];done)|omega|(simp only [yz]<;>omega)|fail) only [yg,seval]
  ·rw [hC] at h116
   have e1 : orX p m fl f g (x + 1) = orM (orX p m fl f g x) g x 25 := by
    show (bif canB p m fl x then _ else _) = _
    rw [hC]; rfl
   simp (disch:=first|(simp only [yk,seval];done)|omega|(simp only [yz]<;>omega)|fail) only [↓yp,yA,ys0,ys1,seval,fitB,newC,endD,endR,yrg,k14,k4,k10,k1,k12,k13,b42,A_indexSlice st_esS_31,A_indexSlice st_esS_26,c1,c2,c3,qp,ql,qf,h116]
   refine W_end (tail _ _ (by (with_reducible repeat first|refine Keep.put ?_ (by decide)|refine Keep.none ?_|assumption|exact Keep.refl _ _ _)) ?_) ?_
   ·simp (disch:=first|(simp only [yk,seval];done)|omega|(simp only [yz]<;>omega)|fail) only [yg,seval,k14]
   rintro e'' H3 ⟨kp3, hs3, ho3, hb3⟩
   have m14 := kp3 14 (by decide)
   simp (disch:=first|(simp only [yk,seval];done)|omega|(simp only [yz]<;>omega)|fail) only [yg,seval,k14] at m14
   simp (disch:=first|(simp only [yk,seval];done)|omega|(simp only [yz]<;>omega)|fail) only [↓yp,yA,ys0,ys1,seval,fitB,newC,endD,endR,yrg,m14,w2]
   have kp' : Keep 93 [1, 2, 3, 4, 9, 10, 11, 12, 13] _ e'' := fun j hj => kp3 j (by revert hj; simp; omega)
   refine ⟨7 - (x + 1), by omega, x + 1, rfl, by omega, Keep.trans kp (Keep.put (Keep.put (Keep.put (Keep.trans ?_ kp') (by decide)) (by decide)) (by decide)), ?_, by omega, fun j hj => (ho3 j hj).trans (hoth j hj), by rw [e1]; exact hb3⟩
   ·(with_reducible repeat first|refine Keep.put ?_ (by decide)|refine Keep.none ?_|assumption|exact Keep.refl _ _ _)
   ·simp (disch:=first|(simp only [yk,seval];done)|omega|(simp only [yz]<;>omega)|fail) only [yg,seval]
 ·have hx7 : x = 7 := by have := of_decide_eq_false hT; omega
  subst hx7
  simp (disch:=first|(simp only [yk,seval];done)|omega|(simp only [yz]<;>omega)|fail) only [↓yp,yA,ys0,ys1,seval,fitB,newC,endD,endR,yrg]
  exact ⟨Keep.trans kp (by (with_reducible repeat first|refine Keep.put ?_ (by decide)|refine Keep.none ?_|assumption|exact Keep.refl _ _ _)), hsz, hoth, hbx⟩
end Go.Am.K
namespace Go.Am.K
open Go.Proofs
variable {T : Tab} {P : Program} {N L : Nat} {H H' H'' : AHeap} {Q : Bool → Value → AHeap → Prop}
def orK (p : Pk) (m : Int) (i : Nat) (pk fo : Int) (fs : List Int) (f g : Nat → Bool) : Nat → Nat → Bool
 | 0 => f
 | k + 1 => match fs[k]? with
  | some fl => bif decide ((i : Int) = pk) && !decide (fl = fo) then orK p m i pk fo fs f g k else orX p m fl (orK p m i pk fo fs f g k) g 7
  | none => orK p m i pk fo fs f g k
set_option maxHeartbeats 2000000 in
theorem c87k {e : VT} {bx bn i4 bp op pn pc bl ol ll cl bf of cf i : Nat} {w1' w2' : Value} {cp cq : List Value} {p : Pk} {m pk fo : Int} {fs : List Int} {f g : Nat → Bool} (hL : L ≤ bx)
  (g4 : gt 93 e 4 = .pointer (some ⟨i4, 0, none⟩)) (b4 : H'.get i4 = .rw [.slice (some ⟨bp, op, none⟩) pn pc, w1', w2'] 34 false []) (n4 : i4 ≠ bx) (l4 : i4 < H'.size)
  (g10 : gt 93 e 10 = .int .i64 (i : Nat)) (hcp : cellsOf (H'.get bp) = some cp) (qp : part cp (op + i * 4) 5 = some (.agg ⟨p.enc⟩)) (np : bp ≠ bx) (ip : i < pn) (in_ : i ≤ 1000)
  (g1 : gt 93 e 1 = .slice (some ⟨bl, ol, none⟩) ll cl) (hcl : cellsOf (H'.get bl) = some cq) (ql : cq[ol + i]? = some (.int .i64 m)) (nl : bl ≠ bx) (il : i < ll)
  (g12 : gt 93 e 12 = .slice (some ⟨bf, of, none⟩) fs.length cf) (hfs : Rw intE H' (some ⟨bf, of, none⟩) fs) (nf : bf ≠ bx) (lf : fs.length ≤ 7) (g2 : gt 93 e 2 = .int .i64 pk) (g3 : gt 93 e 3 = .int .i64 fo)
  (g11 : gt 93 e 11 = .slice (some ⟨bx, 0, none⟩) 25 25) (g9 : gt 93 e 9 = .slice (some ⟨bn, 0, none⟩) 25 25)
  (bx1 : H'.get bx = .rw (boE.fl (fB f)) 4 false []) (bx2 : bx < H'.size) (bn1 : H'.get bn = .rw (boE.fl (fB g)) 4 false []) (bn2 : bn < H'.size) (hne : bx ≠ bn)
  (hs : 0 ≤ p.s ∧ p.s ≤ 6) (hm : 0 ≤ m ∧ m ≤ 6) (hf : ∀ x ∈ fs, 0 ≤ x ∧ x ≤ 6) :
  W tabA Tryz.prog (N + 1000) none (sub [true, true, true, false, true, false, false, true, false, false, true, true, false] (bodyOf Tryz.f139)) L ⟨93, e, H', []⟩ (endK 93 [] fun e' H'' => Keep 93 [1, 2, 3, 4, 9, 10, 11, 12] e e' ∧ H''.size = H'.size ∧ (∀ j, j ≠ bx → H''.get j = H'.get j) ∧ H''.get bx = .rw (boE.fl (fB (orK p m i pk fo fs f g fs.length))) 4 false []) := by
 simp only [Tryz.f139,bodyOf,sub_nil,sub_seq0,sub_seq1,sub_block,sub_loop,sub_cond0,sub_cond1]
 simp (disch:=first|(simp only [yk,seval];done)|omega|(simp only [yz]<;>omega)|fail) only [↓yp,yA,ys0,ys1,seval,fitB,newC,endD,endR,yrg]
 refine W_while (n := 93) 900 (fun q e' H'' => ∃ k : Nat, q = fs.length - k ∧ k ≤ fs.length ∧ Keep 93 [1, 2, 3, 4, 9, 10, 11, 12] e e' ∧ gt 93 e' 13 = .int .i64 (k : Nat) ∧ H''.size = H'.size ∧ (∀ j, j ≠ bx → H''.get j = H'.get j) ∧ H''.get bx = .rw (boE.fl (fB (orK p m i pk fo fs f g k))) 4 false [])
  ?_ 7 fs.length ⟨0, by omega, by omega, by (with_reducible repeat first|refine Keep.put ?_ (by decide)|refine Keep.none ?_|assumption|exact Keep.refl _ _ _), by simp (disch:=first|(simp only [yk,seval];done)|omega|(simp only [yz]<;>omega)|fail) only [yg,seval] <;> rfl, rfl, fun _ _ => rfl, bx1⟩ (by omega) (by omega)
 rintro M q e' H2 ⟨k, rfl, hk, kp, k13, hsz, hoth, hbx⟩
 have k4 := (kp 4 (by decide)).trans g4
 have k10 := (kp 10 (by decide)).trans g10
 have k1 := (kp 1 (by decide)).trans g1
 have k2 := (kp 2 (by decide)).trans g2
 have k3 := (kp 3 (by decide)).trans g3
 have k12 := (kp 12 (by decide)).trans g12
 have k11 := (kp 11 (by decide)).trans g11
 have k9 := (kp 9 (by decide)).trans g9
 have b42 := (hoth i4 n4).trans b4
 have c1 : cellsOf (H2.get bp) = some cp := by rw [hoth bp np]; exact hcp
 have c2 : cellsOf (H2.get bl) = some cq := by rw [hoth bl nl]; exact hcl
 have hbn := (hoth bn (Ne.symm hne)).trans bn1
 have w2 : w64 ((k : Int) + 1) = ((k + 1 : Nat) : Int) := by rw [w64_of (by omega)]; omega
 simp (disch:=first|(simp only [yk,seval];done)|omega|(simp only [yz]<;>omega)|fail) only [↓yp,yA,ys0,ys1,seval,fitB,newC,endD,endR,yrg,k13,k12,lenV_slice st_esS_26]
 refine ⟨fun hT => ?_, fun hT => ?_⟩
 ·have hlt : k < fs.length := by have := of_decide_eq_true hT; omega
  obtain ⟨fl, hfl⟩ : ∃ fl, fs[k]? = some fl := ⟨fs[k], by simp [hlt]⟩
  obtain ⟨b, o, cr, e1, hb, hc, hq⟩ := hfs.at_ hfl
  cases e1
  have qf := cell_of hq
  rw [show k * intE.z = k * 1 from rfl, Nat.mul_one] at qf
  have c3 : cellsOf (H2.get bf) = some cr := by rw [hoth bf nf]; exact hc
  have eK : orK p m i pk fo fs f g (k + 1) = bif decide ((i : Int) = pk) && !decide (fl = fo) then orK p m i pk fo fs f g k else orX p m fl (orK p m i pk fo fs f g k) g 7 := by
   show (match fs[k]? with | some fl => _ | none => _) = _
   rw [hfl]
  obtain ⟨TL, hTL⟩ : ∃ c, sub [true, true, true, false, true, false, false, true, false, false, true, true, false, true, false, false, true, false, false, true] (bodyOf Tryz.f139) = c := ⟨_, rfl⟩
  have tail := fun (N : Nat) (e'' : VT) (he : Keep 93 [1, 2, 3, 4, 9, 10, 11, 12] e' e'') (h13 : gt 93 e'' 13 = .int .i64 (k : Nat)) => c87x (N := N) (L := L) hL ((he 4 (by decide)).trans k4) b42 n4 (by omega) ((he 10 (by decide)).trans k10) c1 qp np ip in_ ((he 1 (by decide)).trans k1) c2 ql nl il ((he 12 (by decide)).trans k12) h13 c3 qf nf hlt ((he 11 (by decide)).trans k11) ((he 9 (by decide)).trans k9) hbx (by omega) hbn (by omega) hne hs hm (hf fl (List.mem_of_getElem? hfl))
  rw [hTL] at tail
  simp only [Tryz.f139,bodyOf,sub_nil,sub_seq0,sub_seq1,sub_block,sub_loop,sub_cond0,sub_cond1] at hTL
  rw [hTL]
  cases hI : decide ((i : Int) = pk)
  ·rw [hI, Bool.false_and, cond_false] at eK
   simp (disch:=first|(simp only [yk,seval];done)|omega|(simp only [yz]<;>omega)|fail) only [↓yp,yA,ys0,ys1,seval,fitB,newC,endD,endR,yrg,k13,k12,k10,k2,k3,hI]
   refine W_end (tail _ _ (by (with_reducible repeat first|refine Keep.put ?_ (by decide)|refine Keep.none ?_|assumption|exact Keep.refl _ _ _)) ?_) ?_
   ·simp (disch:=first|(simp only [yk,seval];done)|omega|(simp only [yz]<;>omega)|fail) only [yg,seval,k13]
   rintro e'' H3 ⟨kp3, hs3, ho3, hb3⟩
   have m13 := kp3 13 (by decide)
   simp (disch:=first|(simp only [yk,seval];done)|omega|(simp only [yz]<;>omega)|fail) only [yg,seval,k13] at m13
   simp (disch:=first|(simp only [yk,seval];done)|omega|(simp only [yz]<;>omega)|fail) only [↓yp,yA,ys0,ys1,seval,fitB,newC,endD,endR,yrg,m13,w2]
   have kp' : Keep 93 [1, 2, 3, 4, 9, 10, 11, 12] _ e'' := fun j hj => kp3 j (by revert hj; simp; omega)
   refine ⟨fs.length - (k + 1), by omega, k + 1, rfl, by omega, Keep.trans kp (Keep.put (Keep.put (Keep.put (Keep.trans ?_ kp') (by decide)) (by decide)) (by decide)), ?_, by omega, fun j hj => (ho3 j hj).trans (hoth j hj), by rw [eK]; exact hb3⟩
   ·(with_reducible repeat first|refine Keep.put ?_ (by decide)|refine Keep.none ?_|assumption|exact Keep.refl _ _ _)
   ·simp (disch:=first|(simp only [yk,seval];done)|omega|(simp only [yz]<;>omega)|fail) only [yg,seval]
  rw [hI, Bool.true_and] at eK
  cases hF : decide (fl = fo)
  ·rw [hF, Bool.not_false, cond_true] at eK
   simp (disch:=first|(simp only [yk,seval];done)|omega|(simp only [yz]<;>omega)|fail) only [↓yp,yA,ys0,ys1,seval,fitB,newC,endD,endR,yrg,k13,k12,k10,k2,k3,hI,A_indexSlice st_esS_26,c3,qf,hF,w2]
   refine ⟨fs.length - (k + 1), by omega, k + 1, rfl, by omega, Keep.trans kp (by (with_reducible repeat first|refine Keep.put ?_ (by decide)|refine Keep.none ?_|assumption|exact Keep.refl _ _ _)), ?_, hsz, hoth, by rw [eK]; exact hbx⟩
   simp (disch:=first|(simp only [yk,seval];done)|omega|(simp only [yz]<;>omega)|fail) only [yg,seval]
  ·rw [hF, Bool.not_true, cond_false] at eK
   simp (disch:=first|(simp only [yk,seval];done)|omega|(simp only [yz]<;>omega)|fail) only [↓yp,yA,ys0,ys1,seval,fitB,newC,endD,endR,yrg,k13,k12,k10,k2,k3,hI,A_indexSlice st_esS_26,c3,qf,hF]
   refine W_end (tail _ _ (by (with_reducible repeat first|refine Keep.put ?_ (by decide)|refine Keep.none ?_|assumption|exact Keep.refl _ _ _)) ?_) ?_
   ·simp (disch:=first|(simp only [yk,seval];done)|omega|(simp only [yz]<;>omega)|fail) only [yg,seval,k13]
   rintro e'' H3 ⟨kp3, hs3, ho3, hb3⟩
   have m13 := kp3 13 (by decide)
   simp (disch:=first|(simp only [yk,seval];done)|omega|(simp only [yz]<;>omega)|fail) only [yg,seval,k13] at m13
   simp (disch:=first|(simp only [yk,seval];done)|omega|(simp only [yz]<;>omega)|fail) only [↓yp,yA,ys0,ys1,seval,fitB,newC,endD,endR,yrg,m13,w2]
   have kp' : Keep 93 [1, 2, 3, 4, 9, 10, 11, 12] _ e'' := fun j hj => kp3 j (by revert hj; simp; omega)
   refine ⟨fs.length - (k + 1), by omega, k + 1, rfl, by omega, Keep.trans kp (Keep.put (Keep.put (Keep.put (Keep.trans ?_ kp') (by decide)) (by decide)) (by decide)), ?_, by omega, fun j hj => (ho3 j hj).trans (hoth j hj), by rw [eK]; exact hb3⟩
   ·(with_reducible repeat first|refine Keep.put ?_ (by decide)|refine Keep.none ?_|assumption|exact Keep.refl _ _ _)
   ·simp (disch:=first|(simp only [yk,seval];done)|omega|(simp only [yz]<;>omega)|fail) only [yg,seval]
 ·have hke : k = fs.length := by have := of_decide_eq_false hT; omega
  subst hke
  simp (disch:=first|(simp only [yk,seval];done)|omega|(simp only [yz]<;>omega)|fail) only [↓yp,yA,ys0,ys1,seval,fitB,newC,endD,endR,yrg]
  exact ⟨Keep.trans kp (by (with_reducible repeat first|refine Keep.put ?_ (by decide)|refine Keep.none ?_|assumption|exact Keep.refl _ _ _)), hsz, hoth, hbx⟩
end Go.Am.K
