import Derived.Test.YtbofjfjopeaefaaT41
import Derived.Test.YtbofjfjopeaefaaT39
set_option linter.unusedSimpArgs false
set_option linter.unusedVariables false
namespace Go.Am.K
open Go.Proofs
variable {T : Tab} {P : Program} {N L : Nat} {H H' H'' : AHeap} {Q : Bool → Value → AHeap → Prop}
theorem A_cut4 {t : Operand → Option Value} {ex : Exec} {x y : Operand} {b o n : Nat} {sp : Option Nat} (hx : t x = some (.pointer (some ⟨b, o, sp⟩))) (hy : t y = some (.int .i64 (n : Nat))) (hn : n ≤ 4) (hL : L ≤ H.size) (hq : Q true (.slice (some ⟨b, o, none⟩) n 4) H) : A tabA Try.prog ex t H L (.slice 119 x none (some y) none) Q := by
 have h : aSlice tabA t H 119 x none (some y) none = some (.slice (some ⟨b, o, none⟩) n 4, H, H.size) := by
  unfold aSlice abound
  simp only [hx,hy]
  rcases (by omega : n = 0 ∨ n = 1 ∨ n = 2 ∨ n = 3 ∨ n = 4) with rfl | rfl | rfl | rfl | rfl
  all_goals rfl
 unfold A
 show (match still (aSlice tabA t H 119 x none (some y) none) with
  | some (b, v, H', m) => L ≤ m ∧ Q b v H'
  | none => False)
 rw [h]
 exact ⟨hL, hq⟩
section
variable {a a' : Option Addr} {cap cap' mk : Nat} {ps : List Pk} {gs : List Gd} {lots : Int} {g : Gd} {l : List Int} {k n : Nat}
theorem c125 {t : List Int} (hs : Rw intE H a t) (hne : t ≠ []) (hl : t.length ≤ 65) (hL : L ≤ H.size) {M : Nat} (hM : 60 ≤ M)
  (hq : ∀ k cap' H', Fr H H' → H.size ≤ k → k < H'.size → H'.get k = .rw (intE.fl t) 3 true [] → Q false (.slice (some ⟨k, 0, none⟩) t.length cap') H') : resK (acall tabA (aexec tabA Try.prog M) 125 [.slice a t.length cap] H) L Q := by
 obtain ⟨N, rfl⟩ : ∃ N, M = N + 60 := ⟨M - 60, by omega⟩
 obtain ⟨b, o, c, rfl, -⟩ := hs.get hne
 refine call_fls (R := fun v H' => ∃ k cap', v = .slice (some ⟨k, 0, none⟩) t.length cap' ∧ Fr H H' ∧ H.size ≤ k ∧ k < H'.size ∧ H'.get k = .rw (intE.fl t) 3 true []) (k := 8) (rs := [.tmp 2]) rfl fn_125 rfl rfl rfl hL ?_ ?_ ?_
 ·have hpos : 0 < t.length := List.length_pos_iff.2 hne
  simp (disch:=first|(simp only [yk,seval];done)|omega|(simp only [yz]<;>omega)|fail) only [↓yp,yA,ys0,ys1,seval,fitB,newC,endD,endR,yrg,binV_nil_some st_esS_49,A_buildSlice st_brS_49_0]
  rw [apK_empty (H := _) (n := t.length) st_apS_49 ((hs.fr (Fr.alloc _ _)).src hne) hpos (by omega) (by omega) (one_fl t) (c₀ := []) (by simp (disch:=first|(simp only [yk,seval];done)|omega|(simp only [yz]<;>omega)|fail) only [yg,seval])]
  simp (disch:=first|(simp only [yk,seval];done)|omega|(simp only [yz]<;>omega)|fail) only [↓yp,yA,ys0,ys1,seval,fitB,newC,endD,endR,yrg]
  exact ⟨_, _, rfl, by (repeat (first | exact Fr.refl _ | assumption | refine Fr.allocd ?_ _ | refine Fr.put ?_ (by first | omega | (simp only [yz] <;> omega)) _)), by (first | omega | (simp only [yz] <;> omega)), by (first | omega | (simp only [yz] <;> omega)), by simp (disch:=first|(simp only [yk,seval];done)|omega|(simp only [yz]<;>omega)|fail) only [yg,seval]⟩
 ·rintro v H' ⟨k, cap', rfl, -⟩; rfl
 ·rintro v H' ⟨k, cap', rfl, h1, h2, h3, h4⟩
  exact hq _ _ _ h1 h2 h3 h4
end
end Go.Am.K
namespace Go.Am.K
open Go.Proofs
variable {T : Tab} {P : Program} {N L : Nat} {H H' H'' : AHeap} {Q : Bool → Value → AHeap → Prop}
theorem st_ixV_119 : ixV tabA 119 = some (4, 1, 0) := by kernel_rfl
section
variable {m0 m1 m2 m3 l0 l1 l2 l3 : Int}
set_option maxHeartbeats 4000000 in
theorem c126 (h0 : 0 ≤ m0 ∧ m0 ≤ 100) (h1 : 0 ≤ m1 ∧ m1 ≤ 100) (h2 : 0 ≤ m2 ∧ m2 ≤ 100) (h3 : 0 ≤ m3 ∧ m3 ≤ 100) (k0 : 0 ≤ l0 ∧ l0 ≤ 100) (k1 : 0 ≤ l1 ∧ l1 ≤ 100) (k2 : 0 ≤ l2 ∧ l2 ≤ 100) (k3 : 0 ≤ l3 ∧ l3 ≤ 100) :
  acall tabA (aexec tabA Try.prog (N + 60)) 126 [.agg ⟨[.int .i64 m0, .int .i64 m1, .int .i64 m2, .int .i64 m3]⟩, .agg ⟨[.int .i64 l0, .int .i64 l1, .int .i64 l2, .int .i64 l3]⟩] H = some (true, .agg ⟨[.int .i64 (m0 - l0), .int .i64 (m1 - l1), .int .i64 (m2 - l2), .int .i64 (m3 - l3)]⟩, H, H.size) := by
 refine call_quiet (k := 20) (rs := [.cell 4 119]) rfl fn_126 rfl rfl rfl ?_ rfl
 have w0 : w64 (m0 - l0) = m0 - l0 := w64_of (by omega)
 have w1 : w64 (m1 - l1) = m1 - l1 := w64_of (by omega)
 have w2 : w64 (m2 - l2) = m2 - l2 := w64_of (by omega)
 have w3 : w64 (m3 - l3) = m3 - l3 := w64_of (by omega)
 have x1 : w64 1 = 1 := w64_of (by omega)
 have x2 : w64 2 = 2 := w64_of (by omega)
 have x3 : w64 3 = 3 := w64_of (by omega)
 have x4 : w64 4 = 4 := w64_of (by omega)
 clear h0 h1 h2 h3 k0 k1 k2 k3
 simp (disch:=first|(simp only [yk,seval];done)|omega|(simp only [yz]<;>omega)|fail) only [↓yp,yA,ys0,ys1,seval,fitB,newC,endD,endR,yrg]
 rw [W_loop]
 simp (disch:=first|(simp only [yk,seval];done)|omega|(simp only [yz]<;>omega)|fail) only [↓yp,yA,ys0,ys1,seval,fitB,newC,endD,endR,yrg]
 refine A_index_of (k := .i64) (cs := [.int .i64 l0, .int .i64 l1, .int .i64 l2, .int .i64 l3]) (i := 0) st_ixV_119 (by simp (disch:=first|(simp only [yk,seval];done)|omega|(simp only [yz]<;>omega)|fail) only [↓yp,yA,ys0,ys1,seval,fitB,newC,endD,endR,yrg]) (by simp (disch:=first|(simp only [yk,seval];done)|omega|(simp only [yz]<;>omega)|fail) only [↓yp,yA,ys0,ys1,seval,fitB,newC,endD,endR,yrg]) ⟨by omega, by omega⟩ rfl (by first|omega|(simp only [yz]<;>omega)) ?_
 simp (disch:=first|(simp only [yk,seval];done)|omega|(simp only [yz]<;>omega)|fail) only [↓yp,yA,ys0,ys1,seval,fitB,newC,endD,endR,yrg,A_indexArr st_arS_119,w0,x1]
 rw [W_loop]
 simp (disch:=first|(simp only [yk,seval];done)|omega|(simp only [yz]<;>omega)|fail) only [↓yp,yA,ys0,ys1,seval,fitB,newC,endD,endR,yrg]
 refine A_index_of (k := .i64) (cs := [.int .i64 l0, .int .i64 l1, .int .i64 l2, .int .i64 l3]) (i := 1) st_ixV_119 (by simp (disch:=first|(simp only [yk,seval];done)|omega|(simp only [yz]<;>omega)|fail) only [↓yp,yA,ys0,ys1,seval,fitB,newC,endD,endR,yrg]) (by simp (disch:=first|(simp only [yk,seval];done)|omega|(simp only [yz]<;>omega)|fail) only [↓yp,yA,ys0,ys1,seval,fitB,newC,endD,endR,yrg]) ⟨by omega, by omega⟩ rfl (by first|omega|(simp only [yz]<;>omega)) ?_
 simp (disch:=first|(simp only [yk,seval];done)|omega|(simp only [yz]<;>omega)|fail) only [↓yp,yA,ys0,ys1,seval,fitB,newC,endD,endR,yrg,A_indexArr st_arS_119,w1,x2]
 rw [W_loop]
 simp (disch:=first|(simp only [yk,seval];done)|omega|(simp only [yz]<;>omega)|fail) only [↓yp,yA,ys0,ys1,seval,fitB,newC,endD,endR,yrg]
 refine A_index_of (k := .i64) (cs := [.int .i64 l0, .int .i64 l1, .int .i64 l2, .int .i64 l3]) (i := 2) st_ixV_119 (by simp (disch:=first|(simp only [yk,seval];done)|omega|(simp only [yz]<;>omega)|fail) only [↓yp,yA,ys0,ys1,seval,fitB,newC,endD,endR,yrg]) (by simp (disch:=first|(simp only [yk,seval];done)|omega|(simp only [yz]<;>omega)|fail) only [↓yp,yA,ys0,ys1,seval,fitB,newC,endD,endR,yrg]) ⟨by omega, by omega⟩ rfl (by first|omega|(simp only [yz]<;>omega)) ?_
 simp (disch:=first|(simp only [yk,seval];done)|omega|(simp only [yz]<;>omega)|fail) only [↓yp,yA,ys0,ys1,seval,fitB,newC,endD,endR,yrg,A_indexArr st_arS_119,w2,x3]
 rw [W_loop]
 simp (disch:=first|(simp only [yk,seval];done)|omega|(simp only [yz]<;>omega)|fail) only [↓yp,yA,ys0,ys1,seval,fitB,newC,endD,endR,yrg]
 refine A_index_of (k := .i64) (cs := [.int .i64 l0, .int .i64 l1, .int .i64 l2, .int .i64 l3]) (i := 3) st_ixV_119 (by simp (disch:=first|(simp only [yk,seval];done)|omega|(simp only [yz]<;>omega)|fail) only [↓yp,yA,ys0,ys1,seval,fitB,newC,endD,endR,yrg]) (by simp (disch:=first|(simp only [yk,seval];done)|omega|(simp only [yz]<;>omega)|fail) only [↓yp,yA,ys0,ys1,seval,fitB,newC,endD,endR,yrg]) ⟨by omega, by omega⟩ rfl (by first|omega|(simp only [yz]<;>omega)) ?_
 simp (disch:=first|(simp only [yk,seval];done)|omega|(simp only [yz]<;>omega)|fail) only [↓yp,yA,ys0,ys1,seval,fitB,newC,endD,endR,yrg,A_indexArr st_arS_119,w3,x4]
 rw [W_loop]
 simp (disch:=first|(simp only [yk,seval];done)|omega|(simp only [yz]<;>omega)|fail) only [↓yp,yA,ys0,ys1,seval,fitB,newC,endD,endR,yrg]
end
section
variable {a a' al : Option Addr} {cap cap' cl mk : Nat} {ps : List Pk} {gs : List Gd} {lots : Int} {g : Gd} {l : List Int} {i k : Nat} {p : Pk} {v : Int}
end
end Go.Am.K
