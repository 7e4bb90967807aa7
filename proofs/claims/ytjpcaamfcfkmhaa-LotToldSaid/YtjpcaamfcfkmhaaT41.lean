import Derived.Test.YtjpcaamfcfkmhaaT40
set_option linter.unusedSimpArgs false
set_option linter.unusedVariables false
namespace Go.Am.K
open Go.Proofs
variable {T : Tab} {P : Program} {N L : Nat} {H : AHeap} {Q : Bool → Value → AHeap → Prop}
section
variable {a a' : Option Addr} {cap cap' : Nat} {ps : List Pk} {gs : List Gd}
end
end Go.Am.K
namespace Go.Am.K
open Go.Proofs
variable {T : Tab} {P : Program} {N L : Nat} {H : AHeap} {Q : Bool → Value → AHeap → Prop}
section
variable {a a' : Option Addr} {cap cap' : Nat} {ps : List Pk} {gs : List Gd} {lots n : Int}
theorem c112 (hl : ps.length ≤ 65) : acall tabA (aexec tabA Try.prog (N + 40)) 112 [.slice a ps.length cap, .int .i64 n] H = some (true, .bool (wi n 0 (ps.length - 1)), H, H.size) := by
 refine call_quiet (k := 10) (rs := [.tmp 4]) rfl fn_112 rfl rfl rfl ?_ rfl
 have h58 := fun (N : Nat) (H : AHeap) (n lo hi : Int) => c58 (N := N) (H := H) (n := n) (lo := lo) (hi := hi)
 have w1 : w64 ((ps.length : Int) - 1) = (ps.length : Int) - 1 := w64_of (by omega)
 simp (disch:=first|(simp only [yk,seval];done)|omega|(simp only [yz]<;>omega)|fail) only [↓yp,yq0,yq1,yq2,yq3,yq4,yl,ys0,ys1,seval,fitB,newC,endD,endR,lenV_slice st_esS_22,h58,w1]
def askP (ps : List Pk) (gs : List Gd) (lots n : Int) : Int := bif decide (chkS ps gs lots = 0) then bif wi n 0 (ps.length - 1) then 0 else 2 else chkS ps gs lots
theorem c69 (hs : Rw pkE H a ps) (hgs : Rw gdE H a' gs) (hl : ps.length ≤ 65) :
  acall tabA (aexec tabA Try.prog (N + 400)) 69 [.agg ⟨[.slice a ps.length cap, .slice a' gs.length cap', .int .i64 lots]⟩, .int .i64 n] H = some (true, .int .i64 (askP ps gs lots n), H, H.size) := by
 refine call_quiet (k := 16) (rs := [.tmp 4]) rfl fn_69 rfl rfl rfl ?_ rfl
 have fr : Fr H (H.alloc (.rw [.slice a ps.length cap, .slice a' gs.length cap', .int .i64 lots] 25 false [])) := by (repeat (first | exact Fr.refl _ | assumption | refine Fr.allocd ?_ _ | refine Fr.put ?_ (by first | omega | (simp only [yz] <;> omega)) _))
 have h16 := fun (N : Nat) => c16 (N := N) (cap := cap) (cap' := cap') (lots := lots) (hs.fr fr) (hgs.fr fr)
 have h112 := fun (N : Nat) (H : AHeap) => c112 (N := N) (H := H) (a := a) (cap := cap) (n := n) hl
 unfold askP
 cases hA : decide (chkS ps gs lots = 0)
 ·simp (disch:=first|(simp only [yk,seval];done)|omega|(simp only [yz]<;>omega)|fail) only [↓yp,yq0,yq1,yq2,yq3,yq4,yl,ys0,ys1,seval,fitB,newC,endD,endR,lenV_slice st_esS_22,h16,h112,hA]
 ·cases hB : wi n 0 ((ps.length : Int) - 1)
  ·simp (disch:=first|(simp only [yk,seval];done)|omega|(simp only [yz]<;>omega)|fail) only [↓yp,yq0,yq1,yq2,yq3,yq4,yl,ys0,ys1,seval,fitB,newC,endD,endR,lenV_slice st_esS_22,h16,h112,hA,hB]
  ·simp (disch:=first|(simp only [yk,seval];done)|omega|(simp only [yz]<;>omega)|fail) only [↓yp,yq0,yq1,yq2,yq3,yq4,yl,ys0,ys1,seval,fitB,newC,endD,endR,lenV_slice st_esS_22,h16,h112,hA,hB]
structure StOk (ps : List Pk) (gs : List Gd) (lots : Int) : Prop where
 l1 : 1 ≤ ps.length
 l4 : ps.length ≤ 4
 g4 : gs.length ≤ 4
 pb : ps.all Pk.isB = true
 gb : gs.all Gd.isB = true
 lo : 0 ≤ lots ∧ lots ≤ 3
 od : ordB gs = true
 sp : ∀ p ∈ ps, p.f ≤ p.hi
theorem Pk.isB_ok {p : Pk} (h : p.isB = true) : p.Ok := by
 unfold Pk.isB wi at h
 simp only [Bool.and_eq_true,decide_eq_true_eq] at h
 exact ⟨h.1, h.2.1, h.2.2.1, h.2.2.2⟩
theorem chkS_ok (h : chkS ps gs lots = 0) : StOk ps gs lots := by
 unfold chkS at h
 cases h1 : chk1 ps gs
 ·cases h2 : chk2 ps gs lots
  ·cases h3 : ordB gs
   ·rw [h1, h2, h3] at h; cases h
   ·cases h4 : ps.all fun p => !decide (p.hi < p.f)
    ·rw [h1, h2, h3, h4] at h; cases h
    ·unfold chk1 wi at h1
     unfold chk2 wi at h2
     simp only [Bool.or_eq_false_iff,Bool.not_eq_false',Bool.and_eq_true,decide_eq_true_eq,decide_eq_false_iff_not] at h1 h2
     refine ⟨by omega, by omega, by omega, h2.1.1, h2.1.2, h2.2, h3, fun p hp => ?_⟩
     have := List.all_eq_true.1 h4 p hp
     simp at this
     exact this
  ·rw [h1, h2] at h; cases h
 ·rw [h1] at h; cases h
theorem c18 {i : Nat} {p : Pk} (hs : Rw pkE H a ps) (hgs : Rw gdE H a' gs) (hl : ps.length ≤ 65) (he : askP ps gs lots i = 0) (hp : ps[i]? = some p) (hok : p.Ok) :
  acall tabA (aexec tabA Try.prog (N + 450)) 18 [.agg ⟨[.slice a ps.length cap, .slice a' gs.length cap', .int .i64 lots]⟩, .int .i64 (i : Nat)] H = some (true, .tuple ⟨[.agg ⟨[.int .i64 p.f, .int .i64 p.hi]⟩, .int .i64 0]⟩, H, H.size) := by
 refine call_quiet (k := 20) (rs := [.cell 4 38, .tmp 5]) rfl fn_18 rfl rfl rfl ?_ rfl
 have fr : Fr H ((H.alloc (.rw [.slice a ps.length cap, .slice a' gs.length cap', .int .i64 lots] 25 false [])).alloc (.rw [.int .i64 0, .int .i64 0] 38 false [])) := by (repeat (first | exact Fr.refl _ | assumption | refine Fr.allocd ?_ _ | refine Fr.put ?_ (by first | omega | (simp only [yz] <;> omega)) _))
 have h69 := fun (N : Nat) => c69 (N := N) (cap := cap) (cap' := cap') (lots := lots) (n := (i : Nat)) (hs.fr fr) (hgs.fr fr) hl
 have h66 := fun (N : Nat) (H : AHeap) => c66 (N := N) (H := H) hok
 have hi := (List.getElem?_eq_some_iff.1 hp).1
 obtain ⟨b, o, c, rfl, hb, hc, hq⟩ := hs.at_ hp
 have q : part c (o + i * 4) 5 = some (.agg ⟨p.enc⟩) := part_of hq rfl
 simp only [Pk.enc] at q h66
 have hA : decide (askP ps gs lots i = 0) = true := by simp [he]
 simp (disch:=first|(simp only [yk,seval];done)|omega|(simp only [yz]<;>omega)|fail) only [↓yp,yq0,yq1,yq2,yq3,yq4,yl,ys0,ys1,seval,fitB,newC,endD,endR,h69,hA,he,A_indexSlice st_esS_22,hc,q,h66]
end
end Go.Am.K
namespace Go.Am.K
open Go.Proofs
variable {T : Tab} {P : Program} {N L : Nat} {H : AHeap} {Q : Bool → Value → AHeap → Prop}
section
variable {a a' : Option Addr} {cap cap' : Nat} {ps : List Pk} {gs : List Gd} {lots n y : Int}
end
end Go.Am.K
