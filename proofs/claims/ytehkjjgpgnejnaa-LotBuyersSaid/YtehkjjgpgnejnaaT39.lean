import Derived.Test.YtehkjjgpgnejnaaT38
set_option linter.unusedSimpArgs false
set_option linter.unusedVariables false
namespace Go.Am.K
open Go.Proofs
variable {T : Tab} {P : Program} {N L : Nat} {H H' H'' : AHeap} {Q : Bool → Value → AHeap → Prop}
def canB (p : Pk) (m f x : Int) : Bool := ((decide (0 ≤ x) && decide (x ≤ m)) && decide (0 ≤ f - x)) && decide (f - x ≤ p.s - m)
theorem c116 {p : Pk} {m f x : Int} (hs : 0 ≤ p.s ∧ p.s ≤ 6) (hm : 0 ≤ m ∧ m ≤ 6) (hf : 0 ≤ f ∧ f ≤ 6) (hx : 0 ≤ x ∧ x ≤ 6) : acall tabA (aexec tabA Try.prog (N + 40)) 116 [.agg ⟨p.enc⟩, .int .i64 m, .int .i64 f, .int .i64 x] H = some (true, .bool (canB p m f x), H, H.size) := by
 refine call_quiet (k := 32) (rs := [.tmp 8]) rfl fn_116 rfl rfl rfl ?_ rfl
 have w1 : w64 (f - x) = f - x := w64_of (by omega)
 have w2 : w64 (p.s - m) = p.s - m := w64_of (by omega)
 unfold canB
 cases h1 : decide (0 ≤ x)
 ·simp (disch:=first|(simp only [yk,seval];done)|omega|(simp only [yz]<;>omega)|fail) only [↓yp,yq0,yq1,yq2,yq3,yq4,yl,ys0,ys1,seval,fitB,newC,endD,endR,yrg,Pk.enc,w1,w2,h1]
 cases h2 : decide (x ≤ m)
 ·simp (disch:=first|(simp only [yk,seval];done)|omega|(simp only [yz]<;>omega)|fail) only [↓yp,yq0,yq1,yq2,yq3,yq4,yl,ys0,ys1,seval,fitB,newC,endD,endR,yrg,Pk.enc,w1,w2,h1,h2]
 cases h3 : decide (0 ≤ f - x)
 ·simp (disch:=first|(simp only [yk,seval];done)|omega|(simp only [yz]<;>omega)|fail) only [↓yp,yq0,yq1,yq2,yq3,yq4,yl,ys0,ys1,seval,fitB,newC,endD,endR,yrg,Pk.enc,w1,w2,h1,h2,h3]
 ·simp (disch:=first|(simp only [yk,seval];done)|omega|(simp only [yz]<;>omega)|fail) only [↓yp,yq0,yq1,yq2,yq3,yq4,yl,ys0,ys1,seval,fitB,newC,endD,endR,yrg,Pk.enc,w1,w2,h1,h2,h3]
def boE : Enc Bool := ⟨fun b => [.bool b], 1, fun _ => rfl, fun _ => rfl⟩
def endF (l : List Bool) : Nat → Int × Int
 | 0 => (l.length, -1)
 | i + 1 => match l[i]? with
  | some true => (if (i : Int) < (endF l i).1 then i else (endF l i).1, i)
  | _ => endF l i
set_option maxHeartbeats 1000000 in
theorem c85 {a : Option Addr} {cap : Nat} {l : List Bool} (hs : Rw boE H a l) (hl : l.length ≤ 65) :
  acall tabA (aexec tabA Try.prog (N + 150)) 85 [.slice a l.length cap] H = some (true, .agg ⟨[.int .i64 (endF l l.length).1, .int .i64 (endF l l.length).2]⟩, H, H.size) := by
 refine call_quiet (k := 27) (rs := [.cell 2 38]) rfl fn_85 rfl rfl rfl ?_ rfl
 simp (disch:=first|(simp only [yk,seval];done)|omega|(simp only [yz]<;>omega)|fail) only [↓yp,yq0,yq1,yq2,yq3,yq4,yl,ys0,ys1,seval,fitB,newC,endD,endR,yrg,lenV_slice st_esS_138,A_build st_bdS_38]
 refine W_while (n := 27) 70 (fun k e H' => ∃ i : Nat, k = l.length - i ∧ i ≤ l.length ∧ gt 27 e 4 = .int .i64 (i : Nat) ∧ gt 27 e 0 = .slice a l.length cap ∧ gt 27 e 2 = .pointer (some ⟨H.size, 0, none⟩) ∧ gt 27 e 3 = .pointer (some ⟨H.size + 1, 0, none⟩) ∧ H.size + 1 < H'.size ∧ Fr H H' ∧ H'.get H.size = .rw [.int .i64 0, .int .i64 0] 38 false [] ∧ H'.get (H.size + 1) = .rw [.int .i64 (endF l i).1, .int .i64 (endF l i).2] 38 false [])
  ?_ 65 l.length ⟨0, by omega, by omega, by simp (disch:=first|(simp only [yk,seval];done)|omega|(simp only [yz]<;>omega)|fail) only [yg,seval] <;> rfl, by simp (disch:=first|(simp only [yk,seval];done)|omega|(simp only [yz]<;>omega)|fail) only [yg,seval], by simp (disch:=first|(simp only [yk,seval];done)|omega|(simp only [yz]<;>omega)|fail) only [yg,seval], by simp (disch:=first|(simp only [yk,seval];done)|omega|(simp only [yz]<;>omega)|fail) only [yg,seval], by (first | omega | (simp only [yz] <;> omega)), by (repeat (first | exact Fr.refl _ | assumption | refine Fr.allocd ?_ _ | refine Fr.put ?_ (by first | omega | (simp only [yz] <;> omega)) _)), by simp (disch:=first|(simp only [yk,seval];done)|omega|(simp only [yz]<;>omega)|fail) only [yg,seval], by simp (disch:=first|(simp only [yk,seval];done)|omega|(simp only [yz]<;>omega)|fail) only [yg,seval] <;> rfl⟩ (by omega) (by omega)
 rintro M k e H1 ⟨i, rfl, hi, g4, g0, g2, g3, hs1, fr, b2, b3⟩
 simp (disch:=first|(simp only [yk,seval];done)|omega|(simp only [yz]<;>omega)|fail) only [↓yp,yq0,yq1,yq2,yq3,yq4,yl,ys0,ys1,seval,fitB,newC,endD,endR,yrg,g4,g0,lenV_slice st_esS_138]
 refine ⟨fun hT => ?_, fun hT => ?_⟩
 ·have hlt : i < l.length := by simpa using hT
  obtain ⟨v, hv⟩ : ∃ v, l[i]? = some v := ⟨l[i], by simp [hlt]⟩
  obtain ⟨b, o, c, eb, hb, hc, hq⟩ := (hs.fr fr).at_ hv
  have q := cell_of hq
  rw [show i * boE.z = i * 1 from rfl, Nat.mul_one] at q
  have hw2 : w64 ((i : Int) + 1) = ((i + 1 : Nat) : Int) := by rw [w64_of (by omega)]; omega
  subst eb
  cases v
  ·have e1 : endF l (i + 1) = endF l i := by unfold endF; rw [hv]; cases i <;> rfl
   simp (disch:=first|(simp only [yk,seval];done)|omega|(simp only [yz]<;>omega)|fail) only [↓yp,yq0,yq1,yq2,yq3,yq4,yl,ys0,ys1,seval,fitB,newC,endD,endR,yrg,g4,g0,g2,g3,A_indexSlice st_esS_138,hc,q,hw2]
   refine ⟨l.length - (i + 1), by omega, i + 1, rfl, by omega, ?_, ?_, ?_, ?_, hs1, fr, b2, by rw [e1]; exact b3⟩
   ·simp (disch:=first|(simp only [yk,seval];done)|omega|(simp only [yz]<;>omega)|fail) only [yg,seval]
   ·simp (disch:=first|(simp only [yk,seval];done)|omega|(simp only [yz]<;>omega)|fail) only [yg,seval,g0]
   ·simp (disch:=first|(simp only [yk,seval];done)|omega|(simp only [yz]<;>omega)|fail) only [yg,seval,g2]
   ·simp (disch:=first|(simp only [yk,seval];done)|omega|(simp only [yz]<;>omega)|fail) only [yg,seval,g3]
  ·have e1 : endF l (i + 1) = (if (i : Int) < (endF l i).1 then (i : Int) else (endF l i).1, (i : Int)) := by
    show (match l[i]? with | some true => _ | _ => _) = _
    rw [hv]
   simp (disch:=first|(simp only [yk,seval];done)|omega|(simp only [yz]<;>omega)|fail) only [↓yp,yq0,yq1,yq2,yq3,yq4,yl,ys0,ys1,seval,fitB,newC,endD,endR,yrg,g4,g0,g2,g3,A_indexSlice st_esS_138,hc,q,b3]
   cases hA : decide ((i : Int) < (endF l i).1)
   ·have hA' := of_decide_eq_false hA
    rw [if_neg hA'] at e1
    simp (disch:=first|(simp only [yk,seval];done)|omega|(simp only [yz]<;>omega)|fail) only [↓yp,yq0,yq1,yq2,yq3,yq4,yl,ys0,ys1,seval,fitB,newC,endD,endR,yrg,g4,g0,g2,g3,hA,hw2]
    refine ⟨l.length - (i + 1), by omega, i + 1, rfl, by omega, ?_, ?_, ?_, ?_, by (first | omega | (simp only [yz] <;> omega)), by (repeat (first | exact Fr.refl _ | assumption | refine Fr.allocd ?_ _ | refine Fr.put ?_ (by first | omega | (simp only [yz] <;> omega)) _)), ?_, ?_⟩
    ·simp (disch:=first|(simp only [yk,seval];done)|omega|(simp only [yz]<;>omega)|fail) only [yg,seval]
    ·simp (disch:=first|(simp only [yk,seval];done)|omega|(simp only [yz]<;>omega)|fail) only [yg,seval,g0]
    ·simp (disch:=first|(simp only [yk,seval];done)|omega|(simp only [yz]<;>omega)|fail) only [yg,seval,g2]
    ·simp (disch:=first|(simp only [yk,seval];done)|omega|(simp only [yz]<;>omega)|fail) only [yg,seval,g3]
    ·rw [get_put_ne (by omega)]; exact b2
    ·rw [get_put_same (by omega), e1]
   ·have hA' := of_decide_eq_true hA
    rw [if_pos hA'] at e1
    simp (disch:=first|(simp only [yk,seval];done)|omega|(simp only [yz]<;>omega)|fail) only [↓yp,yq0,yq1,yq2,yq3,yq4,yl,ys0,ys1,seval,fitB,newC,endD,endR,yrg,g4,g0,g2,g3,hA,hw2]
    refine ⟨l.length - (i + 1), by omega, i + 1, rfl, by omega, ?_, ?_, ?_, ?_, by (first | omega | (simp only [yz] <;> omega)), by (repeat (first | exact Fr.refl _ | assumption | refine Fr.allocd ?_ _ | refine Fr.put ?_ (by first | omega | (simp only [yz] <;> omega)) _)), ?_, ?_⟩
    ·simp (disch:=first|(simp only [yk,seval];done)|omega|(simp only [yz]<;>omega)|fail) only [yg,seval]
    ·simp (disch:=first|(simp only [yk,seval];done)|omega|(simp only [yz]<;>omega)|fail) only [yg,seval,g0]
    ·simp (disch:=first|(simp only [yk,seval];done)|omega|(simp only [yz]<;>omega)|fail) only [yg,seval,g2]
    ·simp (disch:=first|(simp only [yk,seval];done)|omega|(simp only [yz]<;>omega)|fail) only [yg,seval,g3]
    ·rw [get_put_ne (by omega), get_put_ne (by omega)]; exact b2
    ·rw [get_put_same (by first|omega|(simp only [yz]<;>omega)), e1]
 have hie : i = l.length := by have := of_decide_eq_false hT; omega
 subst hie
 simp (disch:=first|(simp only [yk,seval];done)|omega|(simp only [yz]<;>omega)|fail) only [↓yp,yq0,yq1,yq2,yq3,yq4,yl,ys0,ys1,seval,fitB,newC,endD,endR,yrg,g2,g3,b2,b3]
set_option maxHeartbeats 1000000 in
theorem c81 {a : Option Addr} {cap : Nat} {l : List Int} (hs : Rw intE H a l) (hl : l.length ≤ 8) (hb : ∀ x ∈ l, 0 ≤ x ∧ x ≤ 1000000) :
  acall tabA (aexec tabA Try.prog (N + 100)) 81 [.slice a l.length cap] H = some (true, .int .i64 (isum l), H, H.size) := by
 refine call_quiet (k := 18) (rs := [.tmp 2]) rfl fn_81 rfl rfl rfl ?_ rfl
 simp (disch:=first|(simp only [yk,seval];done)|omega|(simp only [yz]<;>omega)|fail) only [↓yp,yq0,yq1,yq2,yq3,yq4,yl,ys0,ys1,seval,fitB,newC,endD,endR,yrg]
 refine W_while (n := 18) 60 (fun k e H' => ∃ i : Nat, k = l.length - i ∧ i ≤ l.length ∧ gt 18 e 4 = .int .i64 (i : Nat) ∧ gt 18 e 3 = .int .i64 (isum (l.take i)) ∧ gt 18 e 0 = .slice a l.length cap ∧ H' = H)
  ?_ 8 l.length ⟨0, by omega, by omega, by simp (disch:=first|(simp only [yk,seval];done)|omega|(simp only [yz]<;>omega)|fail) only [yg,seval] <;> rfl, by simp (disch:=first|(simp only [yk,seval];done)|omega|(simp only [yz]<;>omega)|fail) only [yg,seval] <;> rfl, by simp (disch:=first|(simp only [yk,seval];done)|omega|(simp only [yz]<;>omega)|fail) only [yg,seval], rfl⟩ (by omega) (by omega)
 rintro M k e H1 ⟨i, rfl, hi, g4, g3, g0, rfl⟩
 simp (disch:=first|(simp only [yk,seval];done)|omega|(simp only [yz]<;>omega)|fail) only [↓yp,yq0,yq1,yq2,yq3,yq4,yl,ys0,ys1,seval,fitB,newC,endD,endR,yrg,g4,g3,g0,lenV_slice st_esS_49]
 refine ⟨fun hT => ?_, fun hT => ?_⟩
 ·have hlt : i < l.length := by simpa using hT
  obtain ⟨v, hv⟩ : ∃ v, l[i]? = some v := ⟨l[i], by simp [hlt]⟩
  obtain ⟨b, o, c, eb, hb', hc, hq⟩ := hs.at_ hv
  have q := cell_of hq
  rw [show i * intE.z = i * 1 from rfl, Nat.mul_one] at q
  have hvb := hb v (List.mem_of_getElem? hv)
  have hsum := isum_le (l := l.take i) (m := 1000000) fun x hx => hb x (List.mem_of_mem_take hx)
  have hlen : ((l.take i).length : Int) ≤ 8 := by rw [List.length_take]; omega
  have e1 : isum (l.take (i + 1)) = isum (l.take i) + v := by
   rw [List.take_add_one, hv, isum_app]
   show _ + (v + 0) = _
   omega
  have hsm : 0 ≤ isum (l.take i) ∧ isum (l.take i) ≤ 8000000 := ⟨hsum.1, Int.le_trans hsum.2 (by have := Int.mul_le_mul_of_nonneg_left hlen (show (0 : Int) ≤ 1000000 by omega); omega)⟩
  have w1 : w64 (isum (l.take i) + v) = isum (l.take (i + 1)) := by rw [w64_of (by omega), e1]
  have hw2 : w64 ((i : Int) + 1) = ((i + 1 : Nat) : Int) := by rw [w64_of (by omega)]; omega
  subst eb
  simp (disch:=first|(simp only [yk,seval];done)|omega|(simp only [yz]<;>omega)|fail) only [↓yp,yq0,yq1,yq2,yq3,yq4,yl,ys0,ys1,seval,fitB,newC,endD,endR,yrg,g4,g3,g0,A_indexSlice st_esS_49,hc,q,w1,hw2]
  refine ⟨l.length - (i + 1), by omega, i + 1, rfl, by omega, ?_, ?_, ?_, rfl⟩
  ·simp (disch:=first|(simp only [yk,seval];done)|omega|(simp only [yz]<;>omega)|fail) only [yg,seval]
  ·simp (disch:=first|(simp only [yk,seval];done)|omega|(simp only [yz]<;>omega)|fail) only [yg,seval]
  ·simp (disch:=first|(simp only [yk,seval];done)|omega|(simp only [yz]<;>omega)|fail) only [yg,seval,g0]
 have hie : i = l.length := by have := of_decide_eq_false hT; omega
 subst hie
 rw [List.take_of_length_le (Nat.le_refl _)] at g3
 simp (disch:=first|(simp only [yk,seval];done)|omega|(simp only [yz]<;>omega)|fail) only [↓yp,yq0,yq1,yq2,yq3,yq4,yl,ys0,ys1,seval,fitB,newC,endD,endR,yrg,g3]
end Go.Am.K
namespace Go.Am.K
open Go.Proofs
variable {T : Tab} {P : Program} {N L : Nat} {H H' H'' : AHeap} {Q : Bool → Value → AHeap → Prop}
def lotB : List Pk → List Int → Bool
 | p :: ps, n :: l => wi n 0 p.s && lotB ps l
 | _, _ => true
theorem lotB_at : ∀ {ps : List Pk} {l : List Int}, lotB ps l = true ↔ ∀ (j : Nat) (n : Int) (p : Pk), l[j]? = some n → ps[j]? = some p → wi n 0 p.s = true
 | [], l => by simp [lotB]
 | p :: ps, [] => by simp [lotB]
 | p :: ps, n :: l => by
  unfold lotB
  rw [Bool.and_eq_true, lotB_at (ps := ps) (l := l)]
  constructor
  ·rintro ⟨h1, h2⟩ j m q hm hq
   cases j with
   | zero => simp at hm hq; subst hm hq; exact h1
   | succ j => exact h2 j m q (by simpa using hm) (by simpa using hq)
  ·intro h
   exact ⟨h 0 n p rfl rfl, fun j m q hm hq => h (j + 1) m q (by simpa using hm) (by simpa using hq)⟩
def lotE (ps : List Pk) (gs : List Gd) (lots : Int) (l : List Int) : Int := bif decide (chkS ps gs lots = 0) then bif decide ((l.length : Int) = (ps.length : Int)) then bif lotB ps l then 0 else 4 else 3 else chkS ps gs lots
theorem lotE_ok {ps : List Pk} {gs : List Gd} {lots : Int} {l : List Int} (h : lotE ps gs lots l = 0) : StOk ps gs lots ∧ chkS ps gs lots = 0 ∧ LotOk ps l := by
 unfold lotE at h
 cases hA : decide (chkS ps gs lots = 0)
 ·rw [hA] at h; exact absurd h (of_decide_eq_false hA)
 rw [hA, cond_true] at h
 cases hB : decide ((l.length : Int) = (ps.length : Int))
 ·rw [hB] at h; cases h
 rw [hB, cond_true] at h
 cases hC : lotB ps l
 ·rw [hC] at h; cases h
 have hB' := of_decide_eq_true hB
 exact ⟨chkS_ok (of_decide_eq_true hA), of_decide_eq_true hA, by omega, fun j n p hn hp => by
  have := lotB_at.1 hC j n p hn hp
  unfold wi at this
  simpa using this⟩
section
variable {a a' al : Option Addr} {cap cap' cl : Nat} {ps : List Pk} {gs : List Gd} {lots : Int} {l : List Int}
set_option maxHeartbeats 2000000 in
theorem c80 (hs : Rw pkE H a ps) (hgs : Rw gdE H a' gs) (hl : Rw intE H al l) (hll : l.length ≤ 8) :
  acall tabA (aexec tabA Try.prog (N + 600)) 80 [.agg ⟨[.slice a ps.length cap, .slice a' gs.length cap', .int .i64 lots]⟩, .slice al l.length cl] H = some (true, .int .i64 (lotE ps gs lots l), H, H.size) := by
 refine call_quiet (k := 35) (rs := [.tmp 4]) rfl fn_80 rfl rfl rfl ?_ rfl
 have fr : Fr H (H.alloc (.rw [.slice a ps.length cap, .slice a' gs.length cap', .int .i64 lots] 32 false [])) := by (repeat (first | exact Fr.refl _ | assumption | refine Fr.allocd ?_ _ | refine Fr.put ?_ (by first | omega | (simp only [yz] <;> omega)) _))
 have h17 := fun (N : Nat) => c17 (N := N) (cap := cap) (cap' := cap') (lots := lots) (hs.fr fr) (hgs.fr fr)
 have h67 := fun (N : Nat) (H : AHeap) (n lo hi : Int) => c67 (N := N) (H := H) (n := n) (lo := lo) (hi := hi)
 simp only [off_wi] at h67
 unfold lotE
 cases hA : decide (chkS ps gs lots = 0)
 ·simp (disch:=first|(simp only [yk,seval];done)|omega|(simp only [yz]<;>omega)|fail) only [↓yp,yq0,yq1,yq2,yq3,yq4,yl,ys0,ys1,seval,fitB,newC,endD,endR,yrg,h17,hA]
 cases hB : decide ((l.length : Int) = (ps.length : Int))
 ·simp (disch:=first|(simp only [yk,seval];done)|omega|(simp only [yz]<;>omega)|fail) only [↓yp,yq0,yq1,yq2,yq3,yq4,yl,ys0,ys1,seval,fitB,newC,endD,endR,yrg,h17,hA,lenV_slice st_esS_49,lenV_slice st_esS_29,hB]
 have hB' := of_decide_eq_true hB
 simp (disch:=first|(simp only [yk,seval];done)|omega|(simp only [yz]<;>omega)|fail) only [↓yp,yq0,yq1,yq2,yq3,yq4,yl,ys0,ys1,seval,fitB,newC,endD,endR,yrg,h17,hA,lenV_slice st_esS_49,lenV_slice st_esS_29,hB]
 refine W_while (n := 35) 70 (fun k e H' => ∃ i : Nat, k = l.length - i ∧ i ≤ l.length ∧ gt 35 e 6 = .int .i64 (i : Nat) ∧ gt 35 e 1 = .slice al l.length cl ∧ gt 35 e 2 = .pointer (some ⟨H.size, 0, none⟩) ∧ H' = H.alloc (.rw [.slice a ps.length cap, .slice a' gs.length cap', .int .i64 lots] 32 false []) ∧ ∀ j n p, j < i → l[j]? = some n → ps[j]? = some p → wi n 0 p.s = true)
  ?_ 8 l.length ⟨0, by omega, by omega, by simp (disch:=first|(simp only [yk,seval];done)|omega|(simp only [yz]<;>omega)|fail) only [yg,seval] <;> rfl, by simp (disch:=first|(simp only [yk,seval];done)|omega|(simp only [yz]<;>omega)|fail) only [yg,seval], by simp (disch:=first|(simp only [yk,seval];done)|omega|(simp only [yz]<;>omega)|fail) only [yg,seval], rfl, fun j n p hj => by omega⟩ (by omega) (by omega)
 rintro M k e H1 ⟨i, rfl, hi, g6, g1, g2, rfl, hj⟩
 simp (disch:=first|(simp only [yk,seval];done)|omega|(simp only [yz]<;>omega)|fail) only [↓yp,yq0,yq1,yq2,yq3,yq4,yl,ys0,ys1,seval,fitB,newC,endD,endR,yrg,g6,g1,lenV_slice st_esS_49]
 refine ⟨fun hT => ?_, fun hT => ?_⟩
 ·have hlt : i < l.length := by simpa using hT
  have hlt2 : i < ps.length := by omega
  obtain ⟨p, hp⟩ : ∃ p, ps[i]? = some p := ⟨ps[i], by simp [hlt2]⟩
  obtain ⟨n, hn⟩ : ∃ n, l[i]? = some n := ⟨l[i], by simp [hlt]⟩
  obtain ⟨b, o, c, eb, hb, hc, hq⟩ := (hs.fr fr).get (by rintro rfl; simp at hlt2)
  obtain ⟨b1, o1, c1, e1, -, hc1, hq1⟩ := (hs.fr fr).at_ hp
  subst eb
  cases e1
  rw [hc] at hc1
  cases hc1
  obtain ⟨b2, o2, c2, e2, hb2, hc2, hq2⟩ := (hl.fr fr).at_ hn
  subst e2
  have q2 := cell_of hq2
  rw [show i * intE.z = i * 1 from rfl, Nat.mul_one] at q2
  have q1 : c[o + i * 4]? = some (.int .i64 p.s) := by
   have h0 : ((c.drop (o + i * 4)).take 4)[0]? = some (.int .i64 p.s) := by
    have : (c.drop (o + i * 4)).take 4 = p.enc := hq1
    rw [this]; rfl
   rw [List.getElem?_take, if_pos (by omega), List.getElem?_drop] at h0
   exact h0
  have hw2 : w64 ((i : Int) + 1) = ((i + 1 : Nat) : Int) := by rw [w64_of (by omega)]; omega
  simp (disch:=first|(simp only [yk,seval];done)|omega|(simp only [yz]<;>omega)|fail) only [↓yp,yq0,yq1,yq2,yq3,yq4,yl,ys0,ys1,seval,fitB,newC,endD,endR,yrg,g6,g1,g2]
  refine W_draw [] rfl (by kernel_rfl) (by kernel_rfl) (by first|omega|(simp only [yz]<;>omega)) ?_
  cases hW : wi n 0 p.s
  ·have no : lotB ps l = false := by
    cases ho : lotB ps l with
    | false => rfl
    | true => have := lotB_at.1 ho i n p hn hp; rw [hW] at this; cases this
   simp (disch:=first|(simp only [yk,seval];done)|omega|(simp only [yz]<;>omega)|fail) only [↓yp,yq0,yq1,yq2,yq3,yq4,yl,ys0,ys1,seval,fitB,newC,endD,endR,yrg,g6,g1,g2,A_indexSlice st_esS_49,A_indexSlice st_esS_29,hc,hc2,q1,q2,h67,hW,no]
  ·simp (disch:=first|(simp only [yk,seval];done)|omega|(simp only [yz]<;>omega)|fail) only [↓yp,yq0,yq1,yq2,yq3,yq4,yl,ys0,ys1,seval,fitB,newC,endD,endR,yrg,g6,g1,g2,A_indexSlice st_esS_49,A_indexSlice st_esS_29,hc,hc2,q1,q2,h67,hW,hw2]
   refine ⟨l.length - (i + 1), by omega, i + 1, rfl, by omega, ?_, ?_, ?_, rfl, ?_⟩
   ·simp (disch:=first|(simp only [yk,seval];done)|omega|(simp only [yz]<;>omega)|fail) only [yg,seval]
   ·simp (disch:=first|(simp only [yk,seval];done)|omega|(simp only [yz]<;>omega)|fail) only [yg,seval,g1]
   ·simp (disch:=first|(simp only [yk,seval];done)|omega|(simp only [yz]<;>omega)|fail) only [yg,seval,g2]
   ·intro j n' p' hj' hn' hp'
    by_cases e : j = i
    ·subst e; rw [hn] at hn'; rw [hp] at hp'; cases hn'; cases hp'; exact hW
    ·exact hj j n' p' (by omega) hn' hp'
 have hie : i = l.length := by have := of_decide_eq_false hT; omega
 subst hie
 have ok : lotB ps l = true := lotB_at.2 fun j n p hn hp => hj j n p (List.getElem?_eq_some_iff.1 hn).1 hn hp
 simp (disch:=first|(simp only [yk,seval];done)|omega|(simp only [yz]<;>omega)|fail) only [↓yp,yq0,yq1,yq2,yq3,yq4,yl,ys0,ys1,seval,fitB,newC,endD,endR,yrg,ok]
set_option maxHeartbeats 2000000 in
theorem c99g {x y : Value} (hs : Rw pkE H a ps) (hl : Rw intE H al l) (h4 : ps.length ≤ 4) (hll : l.length ≤ 8) :
  acall tabA (aexec tabA Try.prog (N + 250)) 99 [.agg ⟨[.slice a ps.length cap, x, y]⟩, .slice al l.length cl] H = some (true, .int .i64 (bif decide ((l.length : Int) = (ps.length : Int)) then bif lotB ps l then 0 else 4 else 3), H, H.size) := by
 refine call_quiet (k := 30) (rs := [.tmp 4]) rfl fn_99 rfl rfl rfl ?_ rfl
 have h58 := fun (N : Nat) (H : AHeap) (n lo hi : Int) => c58 (N := N) (H := H) (n := n) (lo := lo) (hi := hi)
 cases hB : decide ((l.length : Int) = (ps.length : Int))
 ·simp (disch:=first|(simp only [yk,seval];done)|omega|(simp only [yz]<;>omega)|fail) only [↓yp,yq0,yq1,yq2,yq3,yq4,yl,ys0,ys1,seval,fitB,newC,endD,endR,yrg,lenV_slice st_esS_22,lenV_slice st_esS_49,hB]
 have hB' := of_decide_eq_true hB
 simp (disch:=first|(simp only [yk,seval];done)|omega|(simp only [yz]<;>omega)|fail) only [↓yp,yq0,yq1,yq2,yq3,yq4,yl,ys0,ys1,seval,fitB,newC,endD,endR,yrg,lenV_slice st_esS_22,lenV_slice st_esS_49,hB]
 refine W_while (n := 30) 100 (fun q e' H' => ∃ i : Nat, q = ps.length - i ∧ i ≤ ps.length ∧ gt 30 e' 16 = .int .i64 (i : Nat) ∧ gt 30 e' 15 = .int .i64 ps.length ∧ gt 30 e' 14 = .slice a ps.length cap ∧ gt 30 e' 1 = .slice al l.length cl ∧ Fr H H' ∧ ∀ j n p, j < i → l[j]? = some n → ps[j]? = some p → wi n 0 p.s = true)
  ?_ 4 ps.length ⟨0, by omega, by omega, by simp (disch:=first|(simp only [yk,seval];done)|omega|(simp only [yz]<;>omega)|fail) only [yg,seval] <;> rfl, by simp (disch:=first|(simp only [yk,seval];done)|omega|(simp only [yz]<;>omega)|fail) only [yg,seval], by simp (disch:=first|(simp only [yk,seval];done)|omega|(simp only [yz]<;>omega)|fail) only [yg,seval], by simp (disch:=first|(simp only [yk,seval];done)|omega|(simp only [yz]<;>omega)|fail) only [yg,seval], by (repeat (first | exact Fr.refl _ | assumption | refine Fr.allocd ?_ _ | refine Fr.put ?_ (by first | omega | (simp only [yz] <;> omega)) _)), fun j n p hj => by omega⟩ (by omega) (by omega)
 rintro M1 q e H' ⟨i, rfl, hi, g16, g15, g14, g1, fr, hj⟩
 have f0 := fr.size
 have fs := fr.same
 simp (disch:=first|(simp only [yk,seval];done)|omega|(simp only [yz]<;>omega)|fail) only [↓yp,yq0,yq1,yq2,yq3,yq4,yl,ys0,ys1,seval,fitB,newC,endD,endR,yrg,g16,g15]
 refine ⟨fun hA => ?_, fun hA => ?_⟩
 ·have hi' : i < ps.length := by simpa using hA
  have hil : i < l.length := by omega
  obtain ⟨p, hp⟩ : ∃ p, ps[i]? = some p := ⟨ps[i], by simp [hi']⟩
  obtain ⟨n, hn⟩ : ∃ n, l[i]? = some n := ⟨l[i], by simp [hil]⟩
  obtain ⟨b, o, c, rfl, hb, hc, hq⟩ := (hs.fr fr).at_ hp
  have q : part c (o + i * 4) 5 = some (.agg ⟨p.enc⟩) := part_of hq rfl
  obtain ⟨b2, o2, c2, rfl, hb2, hc2, hq2⟩ := (hl.fr fr).at_ hn
  have q2 := cell_of hq2
  rw [show i * intE.z = i * 1 from rfl, Nat.mul_one] at q2
  have hw2 : w64 ((i : Int) + 1) = ((i + 1 : Nat) : Int) := by rw [w64_of (by omega)]; omega
  simp only [Pk.enc] at q
  simp (disch:=first|(simp only [yk,seval];done)|omega|(simp only [yz]<;>omega)|fail) only [↓yp,yq0,yq1,yq2,yq3,yq4,yl,ys0,ys1,seval,fitB,newC,endD,endR,yrg,g16,g14,A_indexSlice st_esS_22,hc,q]
  refine W_draw [] rfl (by kernel_rfl) (by kernel_rfl) (by first|omega|(simp only [yz]<;>omega)) ?_
  cases hW : wi n 0 p.s
  ·have no : lotB ps l = false := by
    cases ho : lotB ps l with
    | false => rfl
    | true => have := lotB_at.1 ho i n p hn hp; rw [hW] at this; cases this
   simp (disch:=first|(simp only [yk,seval];done)|omega|(simp only [yz]<;>omega)|fail) only [↓yp,yq0,yq1,yq2,yq3,yq4,yl,ys0,ys1,seval,fitB,newC,endD,endR,yrg,g16,g15,g14,g1,A_indexSlice st_esS_49,hc2,q2,h58,hW,no]
  ·simp (disch:=first|(simp only [yk,seval];done)|omega|(simp only [yz]<;>omega)|fail) only [↓yp,yq0,yq1,yq2,yq3,yq4,yl,ys0,ys1,seval,fitB,newC,endD,endR,yrg,g16,g15,g14,g1,A_indexSlice st_esS_49,hc2,q2,h58,hW,hw2]
   refine ⟨ps.length - (i + 1), by omega, i + 1, rfl, by omega, ?_, ?_, ?_, ?_, by (repeat (first | exact Fr.refl _ | assumption | refine Fr.allocd ?_ _ | refine Fr.put ?_ (by first | omega | (simp only [yz] <;> omega)) _)), ?_⟩
   ·simp (disch:=first|(simp only [yk,seval];done)|omega|(simp only [yz]<;>omega)|fail) only [yg,seval]
   ·simp (disch:=first|(simp only [yk,seval];done)|omega|(simp only [yz]<;>omega)|fail) only [yg,seval,g15]
   ·simp (disch:=first|(simp only [yk,seval];done)|omega|(simp only [yz]<;>omega)|fail) only [yg,seval,g14]
   ·simp (disch:=first|(simp only [yk,seval];done)|omega|(simp only [yz]<;>omega)|fail) only [yg,seval,g1]
   ·intro j n' p' hj' hn' hp'
    by_cases e : j = i
    ·subst e; rw [hn] at hn'; rw [hp] at hp'; cases hn'; cases hp'; exact hW
    ·exact hj j n' p' (by omega) hn' hp'
 have hie : i = ps.length := by have := of_decide_eq_false hA; omega
 subst hie
 have ok : lotB ps l = true := lotB_at.2 fun j n p hn hp => hj j n p (List.getElem?_eq_some_iff.1 hp).1 hn hp
 simp (disch:=first|(simp only [yk,seval];done)|omega|(simp only [yz]<;>omega)|fail) only [↓yp,yq0,yq1,yq2,yq3,yq4,yl,ys0,ys1,seval,fitB,newC,endD,endR,yrg,ok]
theorem c74g (hs : Rw pkE H a ps) (hgs : Rw gdE H a' gs) (hl : Rw intE H al l) (hll : l.length ≤ 8) :
  acall tabA (aexec tabA Try.prog (N + 400)) 74 [.agg ⟨[.slice a ps.length cap, .slice a' gs.length cap', .int .i64 lots]⟩, .slice al l.length cl] H = some (true, .int .i64 (lotE ps gs lots l), H, H.size) := by
 refine call_quiet (k := 14) (rs := [.tmp 4]) rfl fn_74 rfl rfl rfl ?_ rfl
 have fr : Fr H (H.alloc (.rw [.slice a ps.length cap, .slice a' gs.length cap', .int .i64 lots] 25 false [])) := by (repeat (first | exact Fr.refl _ | assumption | refine Fr.allocd ?_ _ | refine Fr.put ?_ (by first | omega | (simp only [yz] <;> omega)) _))
 have h16 := fun (N : Nat) => c16 (N := N) (cap := cap) (cap' := cap') (lots := lots) (hs.fr fr) (hgs.fr fr)
 unfold lotE
 cases hA : decide (chkS ps gs lots = 0)
 ·simp (disch:=first|(simp only [yk,seval];done)|omega|(simp only [yz]<;>omega)|fail) only [↓yp,yq0,yq1,yq2,yq3,yq4,yl,ys0,ys1,seval,fitB,newC,endD,endR,yrg,h16,hA]
 ·have h99 := fun (N : Nat) => c99g (N := N) (cap := cap) (cl := cl) (x := .slice a' gs.length cap') (y := .int .i64 lots) (hs.fr fr) (hl.fr fr) (chkS_ok (of_decide_eq_true hA)).l4 hll
  simp (disch:=first|(simp only [yk,seval];done)|omega|(simp only [yz]<;>omega)|fail) only [↓yp,yq0,yq1,yq2,yq3,yq4,yl,ys0,ys1,seval,fitB,newC,endD,endR,yrg,h16,hA,h99]
end
end Go.Am.K
namespace Go.Am.K
open Go.Proofs
variable {T : Tab} {P : Program} {N L : Nat} {H H' H'' : AHeap} {Q : Bool → Value → AHeap → Prop}
def ivB (n : Nat) (lo hi : Int) : List Bool := (List.range n).map fun (j : Nat) => decide (lo ≤ (j : Int)) && decide ((j : Int) ≤ hi)
theorem ivB_len {n : Nat} {lo hi : Int} : (ivB n lo hi).length = n := by unfold ivB; rw [List.length_map, List.length_range]
theorem ivB_at {n j : Nat} {lo hi : Int} (h : j < n) : (ivB n lo hi)[j]? = some (decide (lo ≤ (j : Int)) && decide ((j : Int) ≤ hi)) := by unfold ivB; rw [List.getElem?_map, List.getElem?_range h]; rfl
theorem endF_iv {n : Nat} {lo hi : Int} (h0 : 0 ≤ lo) : ∀ i : Nat, i ≤ n → endF (ivB n lo hi) i = if lo < i ∧ lo ≤ hi then (lo, if hi < i then hi else (i : Int) - 1) else ((n : Int), -1)
 | 0, _ => by
  rw [if_neg (by omega)]
  unfold endF
  rw [ivB_len]
 | i + 1, hi' => by
  have ih := endF_iv (n := n) (hi := hi) h0 i (by omega)
  have e : endF (ivB n lo hi) (i + 1) = match (ivB n lo hi)[i]? with
   | some true => (if (i : Int) < (endF (ivB n lo hi) i).1 then (i : Int) else (endF (ivB n lo hi) i).1, (i : Int))
   | _ => endF (ivB n lo hi) i := rfl
  rw [e, ivB_at (j := i) (by omega)]
  by_cases hA : lo ≤ (i : Int) ∧ (i : Int) ≤ hi
  ·rw [show (decide (lo ≤ (i : Int)) && decide ((i : Int) ≤ hi)) = true by simp [hA]]
   simp only
   rw [ih]
   rw [if_pos (show lo < ((i + 1 : Nat) : Int) ∧ lo ≤ hi by omega)]
   by_cases hB : lo < (i : Int) ∧ lo ≤ hi
   ·rw [if_pos hB]
    simp only
    rw [if_neg (by omega)]
    refine Prod.ext rfl ?_
    show (i : Int) = _
    split <;> omega
   ·rw [if_neg hB]
    simp only
    rw [if_pos (by omega)]
    refine Prod.ext ?_ ?_
    ·show (i : Int) = lo; omega
    ·show (i : Int) = _
     split <;> omega
  ·rw [show (decide (lo ≤ (i : Int)) && decide ((i : Int) ≤ hi)) = false by
    cases h1 : decide (lo ≤ (i : Int))
    ·rfl
    ·have := of_decide_eq_true h1
     simp; omega]
   simp only
   rw [ih]
   by_cases hB : lo < (i : Int) ∧ lo ≤ hi
   ·rw [if_pos hB, if_pos (show lo < ((i + 1 : Nat) : Int) ∧ lo ≤ hi by omega)]
    refine Prod.ext rfl ?_
    show (if hi < (i : Int) then hi else (i : Int) - 1) = if hi < ((i + 1 : Nat) : Int) then hi else ((i + 1 : Nat) : Int) - 1
    split <;> split <;> omega
   ·rw [if_neg hB, if_neg (show ¬ (lo < ((i + 1 : Nat) : Int) ∧ lo ≤ hi) by omega)]
theorem ends_iv {n : Nat} {lo hi : Int} (h0 : 0 ≤ lo) (hn : hi < n) : endF (ivB n lo hi) n = if lo ≤ hi then (lo, hi) else ((n : Int), -1) := by
 rw [endF_iv h0 n (Nat.le_refl _)]
 by_cases h : lo ≤ hi
 ·rw [if_pos (by omega), if_pos h, if_pos hn]
 ·rw [if_neg (by omega), if_neg h]
theorem step_iv {a b lo hi j : Int} (hab : a ≤ b) (hlh : lo ≤ hi) : (lo + a ≤ j ∧ j ≤ hi + b) ↔ ∃ x, a ≤ x ∧ x ≤ b ∧ lo ≤ j - x ∧ j - x ≤ hi := by
 constructor
 ·rintro ⟨h1, h2⟩
  by_cases hx : j - lo ≤ b
  ·by_cases hy : a ≤ j - hi
   ·exact ⟨j - hi, by omega, by omega, by omega, by omega⟩
   ·exact ⟨a, by omega, by omega, by omega, by omega⟩
  ·exact ⟨b, by omega, by omega, by omega, by omega⟩
 ·rintro ⟨x, h1, h2, h3, h4⟩
  omega
end Go.Am.K
namespace Go.Am.K
open Go.Proofs
variable {T : Tab} {P : Program} {N L : Nat} {H H' H'' : AHeap} {Q : Bool → Value → AHeap → Prop}
def fB (f : Nat → Bool) : List Bool := (List.range 25).map f
theorem fB_len {f : Nat → Bool} : (fB f).length = 25 := by unfold fB; rw [List.length_map, List.length_range]
theorem fB_at {f : Nat → Bool} {j : Nat} (h : j < 25) : (fB f)[j]? = some (f j) := by unfold fB; rw [List.getElem?_map, List.getElem?_range h]; rfl
theorem fB_congr {f g : Nat → Bool} (h : ∀ j, j < 25 → f j = g j) : fB f = fB g := by
 unfold fB
 exact List.map_congr_left fun j hj => h j (List.mem_range.1 hj)
theorem fB_set {f : Nat → Bool} {k : Nat} {v : Bool} : (fB f).set k v = fB fun j => if j = k then v else f j := by
 apply List.ext_getElem?
 intro j
 by_cases hj : j < 25
 ·rw [fB_at hj, List.getElem?_set]
  by_cases e : k = j
  ·subst e
   rw [if_pos rfl, if_pos (by rw [fB_len]; exact hj), if_pos rfl]
  ·rw [if_neg e, fB_at hj, if_neg (Ne.symm e)]
 ·rw [List.getElem?_eq_none (by rw [List.length_set, fB_len]; omega), List.getElem?_eq_none (by rw [fB_len]; omega)]
def orM (f g : Nat → Bool) (x m : Nat) : Nat → Bool := fun j => f j || ((decide (x ≤ j) && decide (j < m + x)) && g (j - x))
set_option maxHeartbeats 2000000 in
theorem c87m {e : VT} {bx bn x : Nat} {f g : Nat → Bool} (hL : L ≤ bx) (hx : x ≤ 6) (g14 : gt 93 e 14 = .int .i64 (x : Nat)) (g11 : gt 93 e 11 = .slice (some ⟨bx, 0, none⟩) 25 25) (g9 : gt 93 e 9 = .slice (some ⟨bn, 0, none⟩) 25 25)
  (bx1 : H'.get bx = .rw (boE.fl (fB f)) 4 false []) (bx2 : bx < H'.size) (bn1 : H'.get bn = .rw (boE.fl (fB g)) 4 false []) (bn2 : bn < H'.size) (hne : bx ≠ bn) :
  W tabA Try.prog (N + 600) none (sub [true, true, true, false, true, false, false, true, false, false, true, true, false, true, false, false, true, false, false, true, true, false, false, true, false, false, true, false] (bodyOf Try.f87)) L ⟨93, e, H', []⟩ (endK 93 [] fun e' H'' => Keep 93 [1, 2, 3, 4, 9, 10, 11, 12, 13, 14] e e' ∧ H''.size = H'.size ∧ (∀ j, j ≠ bx → H''.get j = H'.get j) ∧ H''.get bx = .rw (boE.fl (fB (orM f g x 25))) 4 false []) := by
 simp only [Try.f87,bodyOf,sub_nil,sub_seq0,sub_seq1,sub_block,sub_loop,sub_cond0,sub_cond1]
 simp (disch:=first|(simp only [yk,seval];done)|omega|(simp only [yz]<;>omega)|fail) only [↓yp,yq0,yq1,yq2,yq3,yq4,yl,ys0,ys1,seval,fitB,newC,endD,endR,yrg]
 refine W_while (n := 93) 400 (fun q e' H'' => ∃ m : Nat, q = 25 - m ∧ m + x ≤ 25 ∧ Keep 93 [1, 2, 3, 4, 9, 10, 11, 12, 13, 14] e e' ∧ gt 93 e' 15 = .int .i64 (m : Nat) ∧ H''.size = H'.size ∧ (∀ j, j ≠ bx → H''.get j = H'.get j) ∧ H''.get bx = .rw (boE.fl (fB (orM f g x m))) 4 false [])
  ?_ 25 25 ⟨0, by omega, by omega, by (with_reducible repeat first|refine Keep.put ?_ (by decide)|refine Keep.none ?_|assumption|exact Keep.refl _ _ _), by simp (disch:=first|(simp only [yk,seval];done)|omega|(simp only [yz]<;>omega)|fail) only [yg,seval] <;> rfl, rfl, fun _ _ => rfl, ?_⟩ (by omega) (by omega)
 rotate_left
 ·rw [bx1]
  congr 2
  refine fB_congr fun j hj => ?_
  unfold orM
  cases hA : decide (x ≤ j)
  ·simp
  ·have := of_decide_eq_true hA
   rw [show decide (j < 0 + x) = false by simp; omega]
   simp
 rintro M q e' H2 ⟨m, rfl, hm, kp, k15, hs, hoth, hbx⟩
 have k14 := (kp 14 (by decide)).trans g14
 have k11 := (kp 11 (by decide)).trans g11
 have k9 := (kp 9 (by decide)).trans g9
 have hbn : H2.get bn = .rw (boE.fl (fB g)) 4 false [] := (hoth bn (Ne.symm hne)).trans bn1
 have w1 : w64 ((m : Int) + (x : Int)) = ((m + x : Nat) : Int) := by rw [w64_of (by omega)]; omega
 have w2 : w64 ((m : Int) + 1) = ((m + 1 : Nat) : Int) := by rw [w64_of (by omega)]; omega
 simp (disch:=first|(simp only [yk,seval];done)|omega|(simp only [yz]<;>omega)|fail) only [↓yp,yq0,yq1,yq2,yq3,yq4,yl,ys0,ys1,seval,fitB,newC,endD,endR,yrg,k15,k14,w1]
 refine ⟨fun hT => ?_, fun hT => ?_⟩
 ·have hlt : m + x < 25 := by have := of_decide_eq_true hT; omega
  have q1 : (boE.fl (fB (orM f g x m)))[m + x]? = some (.bool (f (m + x))) := by
   have := fl_at (E := boE) (fB_at (f := orM f g x m) hlt)
   have e1 : orM f g x m (m + x) = f (m + x) := by unfold orM; simp
   rw [e1] at this
   have := cell_of (k := (m + x) * 1) this
   rwa [Nat.mul_one] at this
  have q2 : (boE.fl (fB g))[m]? = some (.bool (g m)) := by
   have := cell_of (k := m * 1) (fl_at (E := boE) (fB_at (f := g) (show m < 25 by omega)))
   rwa [Nat.mul_one] at this
  have hset : ∀ v, newC (m + x) [.bool v] (boE.fl (fB (orM f g x m))) = boE.fl ((fB (orM f g x m)).set (m + x) v) := fun v => by
   have := newC_fl (E := boE) (l := fB (orM f g x m)) (k := m + x) (s := v) (by rw [fB_len]; omega)
   rwa [show (m + x) * boE.z = m + x from Nat.mul_one _] at this
  have hnx : (fB (orM f g x m)).set (m + x) (f (m + x) || g m) = fB (orM f g x (m + 1)) := by
   rw [fB_set]
   refine fB_congr fun j hj => ?_
   by_cases e : j = m + x
   ·subst e
    rw [if_pos rfl]
    unfold orM
    rw [show m + x - x = m by omega, show decide (x ≤ m + x) = true by simp, show decide (m + x < m + 1 + x) = true from decide_eq_true (by omega)]
    simp
   ·rw [if_neg e]
    unfold orM
    rw [show decide (j < m + 1 + x) = decide (j < m + x) by rw [decide_eq_decide]; omega]
  have hfit : decide (m + x + 1 ≤ (boE.fl (fB (orM f g x m))).length) = true := by
   rw [fl_length, fB_len]
   simp only [decide_eq_true_eq]
   show m + x + 1 ≤ 25 * 1
   omega
  cases hf : f (m + x)
  ·rw [hf] at q1 hnx
   simp (disch:=first|(simp only [yk,seval];done)|omega|(simp only [yz]<;>omega)|fail) only [↓yp,yq0,yq1,yq2,yq3,yq4,yl,ys0,ys1,seval,fitB,newC,endD,endR,yrg,k15,k14,k11,k9,w1,w2,A_indexSlice st_esS_138,hbx,hbn,q1,q2,hfit]
   refine ⟨25 - (m + 1), by omega, m + 1, rfl, by omega, Keep.trans kp (by (with_reducible repeat first|refine Keep.put ?_ (by decide)|refine Keep.none ?_|assumption|exact Keep.refl _ _ _)), ?_, by rw [size_put]; exact hs, fun j hj => (get_put_ne hj).trans (hoth j hj), ?_⟩
   ·simp (disch:=first|(simp only [yk,seval];done)|omega|(simp only [yz]<;>omega)|fail) only [yg,seval]
   ·rw [get_put_same (by omega), ← hnx, ← hset]; rfl
  ·rw [hf] at q1 hnx
   simp (disch:=first|(simp only [yk,seval];done)|omega|(simp only [yz]<;>omega)|fail) only [↓yp,yq0,yq1,yq2,yq3,yq4,yl,ys0,ys1,seval,fitB,newC,endD,endR,yrg,k15,k14,k11,k9,w1,w2,A_indexSlice st_esS_138,hbx,hbn,q1,q2,hfit]
   refine ⟨25 - (m + 1), by omega, m + 1, rfl, by omega, Keep.trans kp (by (with_reducible repeat first|refine Keep.put ?_ (by decide)|refine Keep.none ?_|assumption|exact Keep.refl _ _ _)), ?_, by rw [size_put]; exact hs, fun j hj => (get_put_ne hj).trans (hoth j hj), ?_⟩
   ·simp (disch:=first|(simp only [yk,seval];done)|omega|(simp only [yz]<;>omega)|fail) only [yg,seval]
   ·rw [get_put_same (by omega), ← hnx, ← hset]; rfl
 ·have hge : ¬ m + x < 25 := by have := of_decide_eq_false hT; omega
  simp (disch:=first|(simp only [yk,seval];done)|omega|(simp only [yz]<;>omega)|fail) only [↓yp,yq0,yq1,yq2,yq3,yq4,yl,ys0,ys1,seval,fitB,newC,endD,endR,yrg]
  refine ⟨Keep.trans kp (by (with_reducible repeat first|refine Keep.put ?_ (by decide)|refine Keep.none ?_|assumption|exact Keep.refl _ _ _)), hs, hoth, ?_⟩
  rw [hbx]
  congr 2
  refine fB_congr fun j hj => ?_
  unfold orM
  rw [show decide (j < m + x) = true from decide_eq_true (by omega), show decide (j < 25 + x) = true from decide_eq_true (by omega)]
end Go.Am.K
