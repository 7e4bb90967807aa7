import Derived.Test.YtbofjfjopeaefaaT32
import Derived.Test.YtbofjfjopeaefaaT33
set_option linter.unusedSimpArgs false
set_option linter.unusedVariables false
namespace Go.Am.K
open Go.Proofs
variable {T : Tab} {P : Program} {N L : Nat} {H : AHeap} {Q : Bool → Value → AHeap → Prop}
set_option maxHeartbeats 1000000 in
theorem c16 {a a' : Option Addr} {cap cap' : Nat} {ps : List Pk} {gs : List Gd} {lots : Int} (hs : Rw pkE H a ps) (hgs : Rw gdE H a' gs) :
  acall tabA (aexec tabA Try.prog (N + 300)) 16 [.agg ⟨[.slice a ps.length cap, .slice a' gs.length cap', .int .i64 lots]⟩] H = some (true, .int .i64 (chkS ps gs lots), H, H.size) := by
 refine call_quiet (k := 42) (rs := [.tmp 2]) rfl fn_16 rfl rfl rfl ?_ rfl
 have h58 := fun (N : Nat) (H : AHeap) (n lo hi : Int) => c58 (N := N) (H := H) (n := n) (lo := lo) (hi := hi)
 have fr : Fr H (H.alloc (.rw [.slice a ps.length cap, .slice a' gs.length cap', .int .i64 lots] 25 false [])) := by (repeat (first | exact Fr.refl _ | assumption | refine Fr.allocd ?_ _ | refine Fr.put ?_ (by first | omega | (simp only [yz] <;> omega)) _))
 cases hA : wi (ps.length : Int) 1 4
 ·have e : chkS ps gs lots = 3 := by unfold chkS chk1; rw [hA]; rfl
  rw [e]
  simp (disch:=first|(simp only [yk,seval];done)|omega|(simp only [yz]<;>omega)|fail) only [↓yp,yA,ys0,ys1,seval,fitB,newC,endD,endR,lenV_slice st_esS_22,lenV_slice st_esS_23,h58,hA]
 cases hB : decide (4 < (gs.length : Int))
 rotate_left
 ·have e : chkS ps gs lots = 3 := by unfold chkS chk1; rw [hA, hB]; rfl
  rw [e]
  simp (disch:=first|(simp only [yk,seval];done)|omega|(simp only [yz]<;>omega)|fail) only [↓yp,yA,ys0,ys1,seval,fitB,newC,endD,endR,lenV_slice st_esS_22,lenV_slice st_esS_23,h58,hA,hB]
 have hl : ps.length ≤ 4 := by unfold wi at hA; simp at hA; omega
 have hgl : gs.length ≤ 4 := by simp at hB; omega
 have h59 := fun (N : Nat) => c59 (N := N) (cap := cap) (g := 60) (p := Pk.isB) (hs.fr fr) (by omega) fun N H' x _ => c60
 have h61 := fun (N : Nat) => c61 (N := N) (cap := cap') (g := 62) (p := Gd.isB) (hgs.fr fr) (by omega) fun N H' x _ => c62
 have h63 := fun (N : Nat) => c63 (N := N) (cap := cap') (hgs.fr fr) (by omega)
 have e0 : chkS ps gs lots = bif chk2 ps gs lots then 4 else bif ordB gs then bif ps.all fun p => !decide (p.hi < p.f) then 0 else 7 else 6 := by unfold chkS chk1; rw [hA, hB]; rfl
 rw [e0]
 cases hC : ps.all Pk.isB
 ·have e : chk2 ps gs lots = true := by unfold chk2; rw [hC]; rfl
  rw [e, cond_true]
  simp (disch:=first|(simp only [yk,seval];done)|omega|(simp only [yz]<;>omega)|fail) only [↓yp,yA,ys0,ys1,seval,fitB,newC,endD,endR,lenV_slice st_esS_22,lenV_slice st_esS_23,h58,h59,h61,hA,hB,hC]
 cases hD : gs.all Gd.isB
 ·have e : chk2 ps gs lots = true := by unfold chk2; rw [hC, hD]; rfl
  rw [e, cond_true]
  simp (disch:=first|(simp only [yk,seval];done)|omega|(simp only [yz]<;>omega)|fail) only [↓yp,yA,ys0,ys1,seval,fitB,newC,endD,endR,lenV_slice st_esS_22,lenV_slice st_esS_23,h58,h59,h61,hA,hB,hC,hD]
 cases hE : wi lots 0 3
 ·have e : chk2 ps gs lots = true := by unfold chk2; rw [hC, hD, hE]; rfl
  rw [e, cond_true]
  simp (disch:=first|(simp only [yk,seval];done)|omega|(simp only [yz]<;>omega)|fail) only [↓yp,yA,ys0,ys1,seval,fitB,newC,endD,endR,lenV_slice st_esS_22,lenV_slice st_esS_23,h58,h59,h61,hA,hB,hC,hD,hE]
 have e : chk2 ps gs lots = false := by unfold chk2; rw [hC, hD, hE]; rfl
 rw [e, cond_false]
 cases hF : ordB gs
 ·rw [cond_false]
  simp (disch:=first|(simp only [yk,seval];done)|omega|(simp only [yz]<;>omega)|fail) only [↓yp,yA,ys0,ys1,seval,fitB,newC,endD,endR,lenV_slice st_esS_22,lenV_slice st_esS_23,h58,h59,h61,h63,hA,hB,hC,hD,hE,hF]
 rw [cond_true]
 have h59' := fun (N : Nat) => c59 (N := N) (cap := cap) (g := 64) (p := fun p => !decide (p.hi < p.f)) (hs.fr fr) (by omega) fun N H' x hx => c64 (List.all_eq_true.1 hC x hx)
 cases hG : ps.all fun p => !decide (p.hi < p.f)
 ·rw [cond_false]
  simp (disch:=first|(simp only [yk,seval];done)|omega|(simp only [yz]<;>omega)|fail) only [↓yp,yA,ys0,ys1,seval,fitB,newC,endD,endR,lenV_slice st_esS_22,lenV_slice st_esS_23,h58,h59,h61,h63,h59',hA,hB,hC,hD,hE,hF,hG]
 ·rw [cond_true]
  simp (disch:=first|(simp only [yk,seval];done)|omega|(simp only [yz]<;>omega)|fail) only [↓yp,yA,ys0,ys1,seval,fitB,newC,endD,endR,lenV_slice st_esS_22,lenV_slice st_esS_23,h58,h59,h61,h63,h59',hA,hB,hC,hD,hE,hF,hG]
end Go.Am.K
namespace Go.Am.K
open Go.Proofs
variable {T : Tab} {P : Program} {N L : Nat} {H : AHeap} {Q : Bool → Value → AHeap → Prop}
theorem st_apS_22 : apS tabA 22 = some (87, 4, 32) := by kernel_rfl
theorem st_apS_23 : apS tabA 23 = some (77, 2, 16) := by kernel_rfl
section
variable {a a' : Option Addr} {cap cap' : Nat} {ps : List Pk} {gs : List Gd} {lo : Value}
theorem c56 (hs : Rw pkE H a ps) (hne : ps ≠ []) (hl : ps.length ≤ 65) (hL : L ≤ H.size) {M : Nat} (hM : 60 ≤ M)
  (hq : ∀ k cap' H', Fr H H' → H.size ≤ k → k < H'.size → H'.get k = .rw (pkE.fl ps) 87 true [] → Q false (.slice (some ⟨k, 0, none⟩) ps.length cap') H') : resK (acall tabA (aexec tabA Try.prog M) 56 [.slice a ps.length cap] H) L Q := by
 obtain ⟨N, rfl⟩ : ∃ N, M = N + 60 := ⟨M - 60, by omega⟩
 obtain ⟨b, o, c, rfl, -⟩ := hs.get hne
 refine call_fls (R := fun v H' => ∃ k cap', v = .slice (some ⟨k, 0, none⟩) ps.length cap' ∧ Fr H H' ∧ H.size ≤ k ∧ k < H'.size ∧ H'.get k = .rw (pkE.fl ps) 87 true []) (k := 9) (rs := [.tmp 2]) rfl fn_56 rfl rfl rfl hL ?_ ?_ ?_
 ·have hpos : 0 < ps.length := List.length_pos_iff.2 hne
  have h0 : decide ((ps.length : Int) = 0) = false := by simp; omega
  simp (disch:=first|(simp only [yk,seval];done)|omega|(simp only [yz]<;>omega)|fail) only [↓yp,yA,ys0,ys1,seval,fitB,newC,endD,endR,lenV_slice st_esS_22,h0,A_buildSlice st_brS_22_0]
  rw [apK_empty (H := _) (n := ps.length) st_apS_22 ((hs.fr (Fr.alloc _ _)).src hne) hpos (by omega) (by omega) (one_fl ps) (c₀ := []) (by simp (disch:=first|(simp only [yk,seval];done)|omega|(simp only [yz]<;>omega)|fail) only [yg,seval])]
  simp (disch:=first|(simp only [yk,seval];done)|omega|(simp only [yz]<;>omega)|fail) only [↓yp,yA,ys0,ys1,seval,fitB,newC,endD,endR]
  exact ⟨_, _, rfl, by (repeat (first | exact Fr.refl _ | assumption | refine Fr.allocd ?_ _ | refine Fr.put ?_ (by first | omega | (simp only [yz] <;> omega)) _)), by (first | omega | (simp only [yz] <;> omega)), by (first | omega | (simp only [yz] <;> omega)), by simp (disch:=first|(simp only [yk,seval];done)|omega|(simp only [yz]<;>omega)|fail) only [yg,seval]⟩
 ·rintro v H' ⟨k, cap', rfl, -⟩; rfl
 ·rintro v H' ⟨k, cap', rfl, h1, h2, h3, h4⟩
  exact hq _ _ _ h1 h2 h3 h4
theorem c57 (hs : Rw gdE H a gs) (hne : gs ≠ []) (hl : gs.length ≤ 65) (hL : L ≤ H.size) {M : Nat} (hM : 60 ≤ M)
  (hq : ∀ k cap' H', Fr H H' → H.size ≤ k → k < H'.size → H'.get k = .rw (gdE.fl gs) 77 true [] → Q false (.slice (some ⟨k, 0, none⟩) gs.length cap') H') : resK (acall tabA (aexec tabA Try.prog M) 57 [.slice a gs.length cap] H) L Q := by
 obtain ⟨N, rfl⟩ : ∃ N, M = N + 60 := ⟨M - 60, by omega⟩
 obtain ⟨b, o, c, rfl, -⟩ := hs.get hne
 refine call_fls (R := fun v H' => ∃ k cap', v = .slice (some ⟨k, 0, none⟩) gs.length cap' ∧ Fr H H' ∧ H.size ≤ k ∧ k < H'.size ∧ H'.get k = .rw (gdE.fl gs) 77 true []) (k := 9) (rs := [.tmp 2]) rfl fn_57 rfl rfl rfl hL ?_ ?_ ?_
 ·have hpos : 0 < gs.length := List.length_pos_iff.2 hne
  have h0 : decide ((gs.length : Int) = 0) = false := by simp; omega
  simp (disch:=first|(simp only [yk,seval];done)|omega|(simp only [yz]<;>omega)|fail) only [↓yp,yA,ys0,ys1,seval,fitB,newC,endD,endR,lenV_slice st_esS_23,h0,A_buildSlice st_brS_23_0]
  rw [apK_empty (H := _) (n := gs.length) st_apS_23 ((hs.fr (Fr.alloc _ _)).src hne) hpos (by omega) (by omega) (one_fl gs) (c₀ := []) (by simp (disch:=first|(simp only [yk,seval];done)|omega|(simp only [yz]<;>omega)|fail) only [yg,seval])]
  simp (disch:=first|(simp only [yk,seval];done)|omega|(simp only [yz]<;>omega)|fail) only [↓yp,yA,ys0,ys1,seval,fitB,newC,endD,endR]
  exact ⟨_, _, rfl, by (repeat (first | exact Fr.refl _ | assumption | refine Fr.allocd ?_ _ | refine Fr.put ?_ (by first | omega | (simp only [yz] <;> omega)) _)), by (first | omega | (simp only [yz] <;> omega)), by (first | omega | (simp only [yz] <;> omega)), by simp (disch:=first|(simp only [yk,seval];done)|omega|(simp only [yz]<;>omega)|fail) only [yg,seval]⟩
 ·rintro v H' ⟨k, cap', rfl, -⟩; rfl
 ·rintro v H' ⟨k, cap', rfl, h1, h2, h3, h4⟩
  exact hq _ _ _ h1 h2 h3 h4
end
end Go.Am.K
namespace Go.Am.K
open Go.Proofs
variable {T : Tab} {P : Program} {N L : Nat} {H : AHeap} {Q : Bool → Value → AHeap → Prop}
section
variable {a a' : Option Addr} {cap cap' : Nat} {ps : List Pk} {gs : List Gd}
end
end Go.Am.K
namespace Go.Am.K
open Go.Proofs
variable {T : Tab} {P : Program} {N L : Nat} {H : AHeap} {Q : Bool → Value → AHeap → Prop}
section
variable {a a' : Option Addr} {cap cap' : Nat} {ps : List Pk} {gs : List Gd} {lots n : Int}
structure StOk (ps : List Pk) (gs : List Gd) (lots : Int) : Prop where
 l1 : 1 ≤ ps.length
 l4 : ps.length ≤ 4
 g4 : gs.length ≤ 4
 pb : ps.all Pk.isB = true
 gb : gs.all Gd.isB = true
 lo : 0 ≤ lots ∧ lots ≤ 3
 od : ordB gs = true
 sp : ∀ p ∈ ps, p.f ≤ p.hi
theorem Pk.isB_ok {p : Pk} (h : p.isB = true) : p.Ok := by
 unfold Pk.isB wi at h
 simp only [Bool.and_eq_true,decide_eq_true_eq] at h
 exact ⟨h.1, h.2.1, h.2.2.1, h.2.2.2⟩
theorem chkS_ok (h : chkS ps gs lots = 0) : StOk ps gs lots := by
 unfold chkS at h
 cases h1 : chk1 ps gs
 ·cases h2 : chk2 ps gs lots
  ·cases h3 : ordB gs
   ·rw [h1, h2, h3] at h; cases h
   ·cases h4 : ps.all fun p => !decide (p.hi < p.f)
    ·rw [h1, h2, h3, h4] at h; cases h
    ·unfold chk1 wi at h1
     unfold chk2 wi at h2
     simp only [Bool.or_eq_false_iff,Bool.not_eq_false',Bool.and_eq_true,decide_eq_true_eq,decide_eq_false_iff_not] at h1 h2
     refine ⟨by omega, by omega, by omega, h2.1.1, h2.1.2, h2.2, h3, fun p hp => ?_⟩
     have := List.all_eq_true.1 h4 p hp
     simp at this
     exact this
  ·rw [h1, h2] at h; cases h
 ·rw [h1] at h; cases h
end
end Go.Am.K
namespace Go.Am.K
open Go.Proofs
variable {T : Tab} {P : Program} {N L : Nat} {H : AHeap} {Q : Bool → Value → AHeap → Prop}
section
variable {a a' : Option Addr} {cap cap' : Nat} {ps : List Pk} {gs : List Gd} {lots n y : Int}
end
end Go.Am.K
