import Derived.Test.YtehkjjgpgnejnaaT36
set_option linter.unusedSimpArgs false
set_option linter.unusedVariables false
namespace Go.Am.K
open Go.Proofs
variable {T : Tab} {P : Program} {N L : Nat} {H H' H'' : AHeap} {Q : Bool → Value → AHeap → Prop}
section
variable {a a' : Option Addr} {cap cap' : Nat} {t : List Int}
theorem c24 (hs : Rw intE H a t) (hne : t ≠ []) (hl : t.length ≤ 65) (hL : L ≤ H.size) {M : Nat} (hM : 60 ≤ M)
  (hq : ∀ k cap' H', Fr H H' → H.size ≤ k → k < H'.size → H'.get k = .rw (intE.fl t) 3 true [] → Q false (.slice (some ⟨k, 0, none⟩) t.length cap') H') : resK (acall tabA (aexec tabA Try.prog M) 24 [.slice a t.length cap] H) L Q := by
 obtain ⟨N, rfl⟩ : ∃ N, M = N + 60 := ⟨M - 60, by omega⟩
 obtain ⟨b, o, c, rfl, -⟩ := hs.get hne
 refine call_fls (R := fun v H' => ∃ k cap', v = .slice (some ⟨k, 0, none⟩) t.length cap' ∧ Fr H H' ∧ H.size ≤ k ∧ k < H'.size ∧ H'.get k = .rw (intE.fl t) 3 true []) (k := 9) (rs := [.tmp 2]) rfl fn_24 rfl rfl rfl hL ?_ ?_ ?_
 ·have hpos : 0 < t.length := List.length_pos_iff.2 hne
  have h0 : decide ((t.length : Int) = 0) = false := by simp; omega
  simp (disch:=first|(simp only [yk,seval];done)|omega|(simp only [yz]<;>omega)|fail) only [↓yp,yq0,yq1,yq2,yq3,yq4,yl,ys0,ys1,seval,fitB,newC,endD,endR,yrg,lenV_slice st_esS_49,h0,A_buildSlice st_brS_49_0]
  rw [apK_empty (H := _) (n := t.length) st_apS_49 ((hs.fr (Fr.alloc _ _)).src hne) hpos (by omega) (by omega) (one_fl t) (c₀ := []) (by simp (disch:=first|(simp only [yk,seval];done)|omega|(simp only [yz]<;>omega)|fail) only [yg,seval])]
  simp (disch:=first|(simp only [yk,seval];done)|omega|(simp only [yz]<;>omega)|fail) only [↓yp,yq0,yq1,yq2,yq3,yq4,yl,ys0,ys1,seval,fitB,newC,endD,endR,yrg]
  exact ⟨_, _, rfl, by (repeat (first | exact Fr.refl _ | assumption | refine Fr.allocd ?_ _ | refine Fr.put ?_ (by first | omega | (simp only [yz] <;> omega)) _)), by (first | omega | (simp only [yz] <;> omega)), by (first | omega | (simp only [yz] <;> omega)), by simp (disch:=first|(simp only [yk,seval];done)|omega|(simp only [yz]<;>omega)|fail) only [yg,seval]⟩
 ·rintro v H' ⟨k, cap', rfl, -⟩; rfl
 ·rintro v H' ⟨k, cap', rfl, h1, h2, h3, h4⟩
  exact hq _ _ _ h1 h2 h3 h4
end
section
variable {a a' al af ai : Option Addr} {cap cap' cl cf ci : Nat} {ps : List Pk} {gs : List Gd} {lots : Int} {l fl il : List Int}
end
end Go.Am.K
namespace Go.Am.K
open Go.Proofs
variable {T : Tab} {P : Program} {N L : Nat} {H H' H'' : AHeap} {Q : Bool → Value → AHeap → Prop}
section
variable {k cap pc cap' cl cf : Nat} {a pa pa' al af : Option Addr} {bs l fl : List Int} {ps : List Pk} {lots : Value}
end
end Go.Am.K
namespace Go.Am.K
open Go.Proofs
variable {T : Tab} {P : Program} {N L : Nat} {H H' H'' : AHeap} {Q : Bool → Value → AHeap → Prop}
theorem binV_nil_some {ty : TypeId} {x y : Operand} {l c z : Nat} {a : Addr} (h : esS T ty = some z) : binV T P .eql ty x y (.slice (some a) l c) (.slice none 0 0) = some (.bool false) := by
 unfold esS at h
 unfold binV nilV
 rw [show gr (.slice (some a) l c) = false from rfl]
 simp only [Bool.false_and,cond_false]
 cases hu : T.und ty with
 | none => rw [hu] at h; cases h
 | some d => cases d <;> first | rfl | (rw [hu] at h; cases h)
section
variable {a a' : Option Addr} {cap cap' : Nat} {ps : List Pk} {gs : List Gd} {lots : Int}
theorem c127 (hs : Rw pkE H a ps) (hne : ps ≠ []) (hl : ps.length ≤ 65) (hL : L ≤ H.size) {M : Nat} (hM : 60 ≤ M)
  (hq : ∀ k cap' H', Fr H H' → H.size ≤ k → k < H'.size → H'.get k = .rw (pkE.fl ps) 87 true [] → Q false (.slice (some ⟨k, 0, none⟩) ps.length cap') H') : resK (acall tabA (aexec tabA Try.prog M) 127 [.slice a ps.length cap] H) L Q := by
 obtain ⟨N, rfl⟩ : ∃ N, M = N + 60 := ⟨M - 60, by omega⟩
 obtain ⟨b, o, c, rfl, -⟩ := hs.get hne
 refine call_fls (R := fun v H' => ∃ k cap', v = .slice (some ⟨k, 0, none⟩) ps.length cap' ∧ Fr H H' ∧ H.size ≤ k ∧ k < H'.size ∧ H'.get k = .rw (pkE.fl ps) 87 true []) (k := 8) (rs := [.tmp 2]) rfl fn_127 rfl rfl rfl hL ?_ ?_ ?_
 ·have hpos : 0 < ps.length := List.length_pos_iff.2 hne
  simp (disch:=first|(simp only [yk,seval];done)|omega|(simp only [yz]<;>omega)|fail) only [↓yp,yq0,yq1,yq2,yq3,yq4,yl,ys0,ys1,seval,fitB,newC,endD,endR,yrg,binV_nil_some st_esS_22,A_buildSlice st_brS_22_0]
  rw [apK_empty (H := _) (n := ps.length) st_apS_22 ((hs.fr (Fr.alloc _ _)).src hne) hpos (by omega) (by omega) (one_fl ps) (c₀ := []) (by simp (disch:=first|(simp only [yk,seval];done)|omega|(simp only [yz]<;>omega)|fail) only [yg,seval])]
  simp (disch:=first|(simp only [yk,seval];done)|omega|(simp only [yz]<;>omega)|fail) only [↓yp,yq0,yq1,yq2,yq3,yq4,yl,ys0,ys1,seval,fitB,newC,endD,endR,yrg]
  exact ⟨_, _, rfl, by (repeat (first | exact Fr.refl _ | assumption | refine Fr.allocd ?_ _ | refine Fr.put ?_ (by first | omega | (simp only [yz] <;> omega)) _)), by (first | omega | (simp only [yz] <;> omega)), by (first | omega | (simp only [yz] <;> omega)), by simp (disch:=first|(simp only [yk,seval];done)|omega|(simp only [yz]<;>omega)|fail) only [yg,seval]⟩
 ·rintro v H' ⟨k, cap', rfl, -⟩; rfl
 ·rintro v H' ⟨k, cap', rfl, h1, h2, h3, h4⟩
  exact hq _ _ _ h1 h2 h3 h4
theorem c128 (hs : Rw gdE H a gs) (hne : gs ≠ []) (hl : gs.length ≤ 65) (hL : L ≤ H.size) {M : Nat} (hM : 60 ≤ M)
  (hq : ∀ k cap' H', Fr H H' → H.size ≤ k → k < H'.size → H'.get k = .rw (gdE.fl gs) 77 true [] → Q false (.slice (some ⟨k, 0, none⟩) gs.length cap') H') : resK (acall tabA (aexec tabA Try.prog M) 128 [.slice a gs.length cap] H) L Q := by
 obtain ⟨N, rfl⟩ : ∃ N, M = N + 60 := ⟨M - 60, by omega⟩
 obtain ⟨b, o, c, rfl, -⟩ := hs.get hne
 refine call_fls (R := fun v H' => ∃ k cap', v = .slice (some ⟨k, 0, none⟩) gs.length cap' ∧ Fr H H' ∧ H.size ≤ k ∧ k < H'.size ∧ H'.get k = .rw (gdE.fl gs) 77 true []) (k := 8) (rs := [.tmp 2]) rfl fn_128 rfl rfl rfl hL ?_ ?_ ?_
 ·have hpos : 0 < gs.length := List.length_pos_iff.2 hne
  simp (disch:=first|(simp only [yk,seval];done)|omega|(simp only [yz]<;>omega)|fail) only [↓yp,yq0,yq1,yq2,yq3,yq4,yl,ys0,ys1,seval,fitB,newC,endD,endR,yrg,binV_nil_some st_esS_23,A_buildSlice st_brS_23_0]
  rw [apK_empty (H := _) (n := gs.length) st_apS_23 ((hs.fr (Fr.alloc _ _)).src hne) hpos (by omega) (by omega) (one_fl gs) (c₀ := []) (by simp (disch:=first|(simp only [yk,seval];done)|omega|(simp only [yz]<;>omega)|fail) only [yg,seval])]
  simp (disch:=first|(simp only [yk,seval];done)|omega|(simp only [yz]<;>omega)|fail) only [↓yp,yq0,yq1,yq2,yq3,yq4,yl,ys0,ys1,seval,fitB,newC,endD,endR,yrg]
  exact ⟨_, _, rfl, by (repeat (first | exact Fr.refl _ | assumption | refine Fr.allocd ?_ _ | refine Fr.put ?_ (by first | omega | (simp only [yz] <;> omega)) _)), by (first | omega | (simp only [yz] <;> omega)), by (first | omega | (simp only [yz] <;> omega)), by simp (disch:=first|(simp only [yk,seval];done)|omega|(simp only [yz]<;>omega)|fail) only [yg,seval]⟩
 ·rintro v H' ⟨k, cap', rfl, -⟩; rfl
 ·rintro v H' ⟨k, cap', rfl, h1, h2, h3, h4⟩
  exact hq _ _ _ h1 h2 h3 h4
def kn (p : Pk) (n : Int) : Pk := ⟨p.s, p.s, p.s, n⟩
theorem c129 {p : Pk} {n : Int} : acall tabA (aexec tabA Try.prog (N + 30)) 129 [.agg ⟨p.enc⟩, .int .i64 n] H = some (true, .agg ⟨(kn p n).enc⟩, H, H.size) := by
 refine call_quiet (k := 13) (rs := [.cell 4 87]) rfl fn_129 rfl rfl rfl ?_ rfl
 simp (disch:=first|(simp only [yk,seval];done)|omega|(simp only [yz]<;>omega)|fail) only [↓yp,yq0,yq1,yq2,yq3,yq4,yl,ys0,ys1,seval,fitB,newC,endD,endR,yrg,Pk.enc,kn,A_build st_bdS_87]
end
end Go.Am.K
