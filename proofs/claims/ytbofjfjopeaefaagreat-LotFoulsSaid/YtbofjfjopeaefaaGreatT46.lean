import Derived.Test.YtbofjfjopeaefaaGreatT45
set_option linter.unusedSimpArgs false
set_option linter.unusedVariables false
namespace Go.Am.K
open Go.Proofs
variable {T : Tab} {P : Program} {N L : Nat} {H H' H'' : AHeap} {Q : Bool → Value → AHeap → Prop}
section
variable {a a' : Option Addr} {cap cap' : Nat} {ps : List Pk} {gs : List Gd} {lots : Int}
end
end Go.Am.K
namespace Go.Am.K
open Go.Proofs
variable {T : Tab} {P : Program} {N L : Nat} {H H' H'' : AHeap} {Q : Bool → Value → AHeap → Prop}
section
variable {a a' : Option Addr} {cap cap' : Nat} {ps : List Pk} {gs : List Gd} {lots : Int}
set_option maxHeartbeats 2000000 in
theorem c14n : acall tabA (aexec tabA Tryz.prog (N + 200)) 11 [.agg ⟨[.slice a 0 cap, .slice a' 0 cap', .int .i64 lots]⟩] H = some (true, .agg ⟨[.slice none 0 0, .slice none 0 0, .int .i64 lots]⟩, H, H.size) := by
 refine call_quiet (k := 12) (rs := [.cell 2 25]) rfl fn_11 rfl rfl rfl ?_ rfl
 have h56 := fun (N : Nat) (H : AHeap) => c56n (N := N) (H := H) (a := a) (cap := cap)
 have h57 := fun (N : Nat) (H : AHeap) => c57n (N := N) (H := H) (a := a') (cap := cap')
 simp (disch:=first|(simp only [yk,seval];done)|omega|(simp only [yz]<;>omega)|fail) only [↓yp,yA,ys0,ys1,seval,fitB,newC,endD,endR,yrg]
 refine W_drawR (pl := []) [7, 9] [(1, 1), (1, 2), (2, 1), (2, 2), (4, 2), (5, 2)] (planK_of rfl) (by kernel_rfl) (by kernel_rfl) (by kernel_rfl) (by first|omega|(simp only [yz]<;>omega)) ?_
 simp (disch:=first|(simp only [yk,seval];done)|omega|(simp only [yz]<;>omega)|fail) only [↓yp,yA,ys0,ys1,seval,fitB,newC,endD,endR,yrg,h56,h57]
set_option maxHeartbeats 4000000 in
theorem c14 (hs : Rw pkE H a ps) (hg : Rw gdE H a' gs) (hl : ps.length ≤ 6) (hgl : gs.length ≤ 6) (hne : ps ≠ [] ∨ gs ≠ []) (hL : L ≤ H.size) {M : Nat} (hM : 200 ≤ M)
  (hq : ∀ x c x' c' H', Fr H H' → (x ≠ none ∨ x' ≠ none) → (gs = [] → x' = none ∧ c' = 0) → Up H.size x → Up H.size x' → Rw pkE H' x ps → Rw gdE H' x' gs → Q false (.agg ⟨[.slice x ps.length c, .slice x' gs.length c', .int .i64 lots]⟩) H') :
  resK (acall tabA (aexec tabA Tryz.prog M) 11 [.agg ⟨[.slice a ps.length cap, .slice a' gs.length cap', .int .i64 lots]⟩] H) L Q := by
 obtain ⟨N, rfl⟩ : ∃ N, M = N + 200 := ⟨M - 200, by omega⟩
 refine call_fls (R := fun v H' => ∃ x c x' c', v = .agg ⟨[.slice x ps.length c, .slice x' gs.length c', .int .i64 lots]⟩ ∧ Fr H H' ∧ (x ≠ none ∨ x' ≠ none) ∧ (gs = [] → x' = none ∧ c' = 0) ∧ Up H.size x ∧ Up H.size x' ∧ Rw pkE H' x ps ∧ Rw gdE H' x' gs) (k := 12) (rs := [.cell 2 25]) rfl fn_11 rfl rfl rfl hL ?_ ?_ ?_
 rotate_left
 ·rintro v H' ⟨x, c, x', c', rfl, -, h, -⟩; exact gr_two h
 ·rintro v H' ⟨x, c, x', c', rfl, h1, h2, h3, h4, h5, h6, h7⟩
  exact hq _ _ _ _ _ h1 h2 h3 h4 h5 h6 h7
 have h56 := fun (N : Nat) (H : AHeap) => c56n (N := N) (H := H) (a := a) (cap := cap)
 have h57 := fun (N : Nat) (H : AHeap) => c57n (N := N) (H := H) (a := a') (cap := cap')
 have fr0 : Fr H ((H.alloc (.rw [.slice a ps.length cap, .slice a' gs.length cap', .int .i64 lots] 25 false [])).alloc (.rw [.slice none 0 0, .slice none 0 0, .int .i64 0] 25 false [])) := by (repeat (first | exact Fr.refl _ | assumption | refine Fr.allocd ?_ _ | refine Fr.put ?_ (by first | omega | (simp only [yz] <;> omega)) _))
 by_cases hp1 : ps = []
 ·have hg1 : gs ≠ [] := by
   rcases hne with h | h
   ·exact absurd hp1 h
   ·exact h
  subst hp1
  simp only [List.length_nil] at fr0 ⊢
  simp (disch:=first|(simp only [yk,seval];done)|omega|(simp only [yz]<;>omega)|fail) only [↓yp,yA,ys0,ys1,seval,fitB,newC,endD,endR,yrg]
  refine W_drawR (pl := []) [5, 7, 9] [(1, 2), (1, 3), (2, 2), (2, 3), (4, 1), (4, 2), (4, 3)] (planK_of rfl) (by kernel_rfl) (by kernel_rfl) (by kernel_rfl) (by first|omega|(simp only [yz]<;>omega)) ?_
  simp (disch:=first|(simp only [yk,seval];done)|omega|(simp only [yz]<;>omega)|fail) only [↓yp,yA,ys0,ys1,seval,fitB,newC,endD,endR,yrg,h56]
  refine c57 (hg.fr fr0) hg1 (by omega) (by first|omega|(simp only [yz]<;>omega)) (by omega) ?_
  intro k' cc' H2 fr2 k1' k2' k3'
  have f2 := fr2.size
  have s2 := fr2.same
  simp only [size_alloc] at f2 s2 k1'
  simp (disch:=first|(simp only [yk,seval];done)|omega|(simp only [yz]<;>omega)|fail) only [↓yp,yA,ys0,ys1,seval,fitB,newC,endD,endR,yrg,s2,h56]
  refine ⟨none, 0, some ⟨k', 0, none⟩, cc', rfl, ?_, .inr (by simp), fun h => absurd h hg1, Up.none, Up.some (by omega), Rw.nil, ?_⟩
  ·exact Fr.put (Fr.put (Fr.put (fr0.trans fr2) (by omega) _) (by omega) _) (by omega) _
  ·refine (Rw.of (r := []) (c := gdE.fl gs) (by first|omega|(simp only [yz]<;>omega)) ?_ (by rw [List.append_nil]))
   rw [get_put_ne (by omega), get_put_ne (by omega), get_put_ne (by omega), k3']
   rfl
 by_cases hg1 : gs = []
 ·subst hg1
  simp only [List.length_nil] at fr0 ⊢
  simp (disch:=first|(simp only [yk,seval];done)|omega|(simp only [yz]<;>omega)|fail) only [↓yp,yA,ys0,ys1,seval,fitB,newC,endD,endR,yrg]
  refine W_drawR (pl := []) [2, 7, 9] [(1, 1), (1, 2), (1, 3), (4, 3), (5, 3)] (planK_of rfl) (by kernel_rfl) (by kernel_rfl) (by kernel_rfl) (by first|omega|(simp only [yz]<;>omega)) ?_
  simp (disch:=first|(simp only [yk,seval];done)|omega|(simp only [yz]<;>omega)|fail) only [↓yp,yA,ys0,ys1,seval,fitB,newC,endD,endR,yrg]
  refine c56 (hs.fr fr0) hp1 (by omega) (by first|omega|(simp only [yz]<;>omega)) (by omega) ?_
  intro k cc H1 fr1 k1 k2 k3
  have f1 := fr1.size
  have s1 := fr1.same
  simp only [size_alloc] at f1 s1 k1
  simp (disch:=first|(simp only [yk,seval];done)|omega|(simp only [yz]<;>omega)|fail) only [↓yp,yA,ys0,ys1,seval,fitB,newC,endD,endR,yrg,s1,h57]
  refine ⟨some ⟨k, 0, none⟩, cc, none, 0, rfl, ?_, .inl (by simp), fun _ => ⟨rfl, rfl⟩, Up.some (by omega), Up.none, ?_, Rw.nil⟩
  ·exact Fr.put (Fr.put (Fr.put (fr0.trans fr1) (by omega) _) (by omega) _) (by omega) _
  ·refine (Rw.of (r := []) (c := pkE.fl ps) (by first|omega|(simp only [yz]<;>omega)) ?_ (by rw [List.append_nil]))
   rw [get_put_ne (by omega), get_put_ne (by omega), get_put_ne (by omega), k3]
   rfl
 simp (disch:=first|(simp only [yk,seval];done)|omega|(simp only [yz]<;>omega)|fail) only [↓yp,yA,ys0,ys1,seval,fitB,newC,endD,endR,yrg]
 refine W_drawR (pl := []) [2, 5, 7, 9] [(1, 1), (1, 2), (1, 3), (1, 4), (4, 2), (4, 3), (4, 4)] (planK_of rfl) (by kernel_rfl) (by kernel_rfl) (by kernel_rfl) (by first|omega|(simp only [yz]<;>omega)) ?_
 simp (disch:=first|(simp only [yk,seval];done)|omega|(simp only [yz]<;>omega)|fail) only [↓yp,yA,ys0,ys1,seval,fitB,newC,endD,endR,yrg]
 refine c56 (hs.fr fr0) hp1 (by omega) (by first|omega|(simp only [yz]<;>omega)) (by omega) ?_
 intro k cc H1 fr1 k1 k2 k3
 have f1 := fr1.size
 have s1 := fr1.same
 simp only [size_alloc] at f1 s1 k1
 simp (disch:=first|(simp only [yk,seval];done)|omega|(simp only [yz]<;>omega)|fail) only [↓yp,yA,ys0,ys1,seval,fitB,newC,endD,endR,yrg,s1]
 refine c57 (hg.fr (fr0.trans fr1)) hg1 (by omega) (by first|omega|(simp only [yz]<;>omega)) (by omega) ?_
 intro k' cc' H2 fr2 k1' k2' k3'
 have f2 := fr2.size
 have s2 := fr2.same
 simp (disch:=first|(simp only [yk,seval];done)|omega|(simp only [yz]<;>omega)|fail) only [↓yp,yA,ys0,ys1,seval,fitB,newC,endD,endR,yrg,s2,s1]
 refine ⟨some ⟨k, 0, none⟩, cc, some ⟨k', 0, none⟩, cc', rfl, ?_, .inl (by simp), fun h => absurd h hg1, Up.some (by omega), Up.some (by omega), ?_, ?_⟩
 ·exact Fr.put (Fr.put (Fr.put ((fr0.trans fr1).trans fr2) (by omega) _) (by omega) _) (by omega) _
 ·refine (Rw.of (r := []) (c := pkE.fl ps) (by first|omega|(simp only [yz]<;>omega)) ?_ (by rw [List.append_nil]))
  rw [get_put_ne (by omega), get_put_ne (by omega), get_put_ne (by omega), s2 _ k2, k3]
  rfl
 ·refine (Rw.of (r := []) (c := gdE.fl gs) (by first|omega|(simp only [yz]<;>omega)) ?_ (by rw [List.append_nil]))
  rw [get_put_ne (by omega), get_put_ne (by omega), get_put_ne (by omega), k3']
  rfl
end
end Go.Am.K
namespace Go.Am.K
open Go.Proofs
variable {T : Tab} {P : Program} {N L : Nat} {H H' H'' : AHeap} {Q : Bool → Value → AHeap → Prop}
section
variable {a a' al : Option Addr} {cap cap' cl : Nat} {ps : List Pk} {gs : List Gd} {lots op fd : Int} {l : List Int}
end
end Go.Am.K
