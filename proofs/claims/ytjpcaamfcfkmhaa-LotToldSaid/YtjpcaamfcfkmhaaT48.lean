import Derived.Test.YtjpcaamfcfkmhaaT47
set_option linter.unusedSimpArgs false
set_option linter.unusedVariables false
namespace Go.Am.K
open Go.Proofs
variable {T : Tab} {P : Program} {N L : Nat} {H H' H'' : AHeap} {Q : Bool → Value → AHeap → Prop}
section
variable {a a' al : Option Addr} {cap cap' cl : Nat} {ps : List Pk} {gs : List Gd} {lots : Int} {l : List Int}
end
def orZ : Option Gd → Gd
 | some g => g
 | none => ⟨0, 0⟩
section
variable {a a' al : Option Addr} {cap cap' cl : Nat} {ps : List Pk} {gs : List Gd} {lots : Int} {l : List Int}
theorem grd_mx (h : l.length = ps.length) : grd ps gs (mx l) = orZ (gs.find? (hasG (isum l) (isum (fo false ps l)))) := by
 unfold grd
 rw [mx_sum, fo_pad h]
 unfold orZ
 rfl
theorem LtR.c92 (h : LtR H a a' al ps gs lots l) {mk : Nat} : acall tabA (aexec tabA Try.prog (N + 600)) 92 [.agg ⟨[.slice a ps.length cap, .slice a' gs.length cap', .int .i64 lots, .map (some mk)]⟩, .agg ⟨tv (mx l)⟩] H = some (true, .agg ⟨(orZ (gs.find? (hasG (isum l) (isum (Go.Am.fo false ps l))))).enc⟩, H, H.size) := by
 rw [← grd_mx h.lo.len]
 exact K.c92 (N := N) (cap := cap) (cap' := cap') (lo := .int .i64 lots) (mp := .map (some mk)) h.st.hs h.st.st.l4 h.st.pk h.st.hg h.st.st.g4 h.st.gd h.mx4 h.in_ sv_int sv_map
end
end Go.Am.K
namespace Go.Am.K
open Go.Proofs
variable {T : Tab} {P : Program} {N L : Nat} {H H' H'' : AHeap} {Q : Bool → Value → AHeap → Prop}
section
variable {a a' : Option Addr} {cap cap' : Nat} {t : List Int}
end
theorem c43 {n lo hi : Int} : acall tabA (aexec tabA Try.prog (N + 40)) 43 [.int .i64 n, .agg ⟨[.int .i64 lo, .int .i64 hi]⟩] H = some (true, .bool (wi n lo hi), H, H.size) := by
 refine call_quiet (k := 15) (rs := [.tmp 4]) rfl fn_43 rfl rfl rfl ?_ rfl
 unfold wi
 cases hA : decide (lo ≤ n)
 ·simp (disch:=first|(simp only [yk,seval];done)|omega|(simp only [yz]<;>omega)|fail) only [↓yp,yq0,yq1,yq2,yq3,yq4,yl,ys0,ys1,seval,fitB,newC,endD,endR,yrg,hA]
 ·simp (disch:=first|(simp only [yk,seval];done)|omega|(simp only [yz]<;>omega)|fail) only [↓yp,yq0,yq1,yq2,yq3,yq4,yl,ys0,ys1,seval,fitB,newC,endD,endR,yrg,hA]
section
variable {a a' al af ai : Option Addr} {cap cap' cl cf ci : Nat} {ps : List Pk} {gs : List Gd} {lots : Int} {l fl il : List Int}
end
end Go.Am.K
