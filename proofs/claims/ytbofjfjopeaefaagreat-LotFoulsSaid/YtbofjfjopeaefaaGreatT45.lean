import Derived.Test.YtbofjfjopeaefaaGreatT44
import Derived.Test.YtbofjfjopeaefaaGreatT39
set_option linter.unusedSimpArgs false
set_option linter.unusedVariables false
namespace Go.Am.K
open Go.Proofs
variable {T : Tab} {P : Program} {N L : Nat} {H H' H'' : AHeap} {Q : Bool → Value → AHeap → Prop}
section
variable {a a' al : Option Addr} {cap cap' cl : Nat} {ps : List Pk} {gs : List Gd} {lots op fd : Int} {l : List Int}
end
end Go.Am.K
namespace Go.Am.K
open Go.Proofs
variable {T : Tab} {P : Program} {N L : Nat} {H H' H'' : AHeap} {Q : Bool → Value → AHeap → Prop}
theorem st_apS_31 : apS tabA 31 = some (111, 4, 32) := by kernel_rfl
theorem st_apS_32 : apS tabA 32 = some (112, 2, 16) := by kernel_rfl
theorem take_fl {α : Type} {E : Enc α} {l : List α} {x : α} {i : Nat} (h : l[i]? = some x) : E.fl (l.take i) ++ E.f x = E.fl (l.take (i + 1)) := by
 rw [List.take_add_one, h, fl_app]
 show _ = _ ++ (E.f x ++ [])
 rw [List.append_nil]
theorem Gw.low {tb i el z : Nat} {S : Nat → Prop} {v : Value} {cs : List Value} (g : Gw H tb S v i cs el z) : ∀ j, j ≤ tb → ¬ S j := fun j hj h => by have := (g.own j h).1; omega
def Up (tb : Nat) (x : Option Addr) : Prop := ∀ b o s, x = some ⟨b, o, s⟩ → tb ≤ b
theorem Up.none {tb : Nat} : Up tb none := fun _ _ _ h => by cases h
theorem Up.some {tb b o : Nat} {s : Option Nat} (h : tb ≤ b) : Up tb (some ⟨b, o, s⟩) := fun _ _ _ e => by cases e; exact h
theorem Rw.putU {α : Type} {E : Enc α} {tb j : Nat} {x : Option Addr} {l : List α} {blk : ABlk} (h : Rw E H x l) (hu : Up tb x) (hj : j < tb) : Rw E (H.put j blk) x l := ⟨fun hl => by
 obtain ⟨b, o, c, e1, h2, h3, h4⟩ := h.get hl
 have := hu _ _ _ e1
 exact ⟨b, o, c, e1, by rw [size_put]; exact h2, by rw [get_put_ne (by omega)]; exact h3, h4⟩⟩
theorem gr_two {x x' : Option Addr} {n n' c c' : Nat} {w : Int} (h : x ≠ none ∨ x' ≠ none) : gr (.agg ⟨[.slice x n c, .slice x' n' c', .int .i64 w]⟩) = false := by
 rcases x with _ | x
 ·rcases x' with _ | x'
  ·simp at h
  ·show (ground 5 (.slice none n c) && (ground 5 (.slice (some x') n' c') && (ground 5 (.int .i64 w) && true))) = false
   rw [show ground 5 (.slice (some x') n' c') = false from rfl, Bool.false_and, Bool.and_false]
 ·rfl
section
variable {a a' : Option Addr} {cap cap' : Nat} {ps : List Pk} {gs : List Gd} {lots : Int}
--BEGIN
set_option maxHeartbeats 2000000 in
theorem c15n : acall tabA (aexec tabA Tryz.prog (N + 100)) 13 [.agg ⟨[.slice a 0 cap, .slice a' 0 cap', .int .i64 lots]⟩] H = some (true, .agg ⟨[.slice none 0 0, .slice none 0 0, .int .i64 lots]⟩, H, H.size) := by
 refine call_quiet (k := 40) (rs := [.cell 2 34]) rfl fn_13 rfl rfl rfl ?_ rfl
 simp (disch:=first|(simp only [yk,seval];done)|omega|(simp only [yz]<;>omega)|fail) only [↓yp,yA,ys0,ys1,seval,fitB,newC,endD,endR,yrg,A_build st_bdS_34,lenV_slice st_esS_22,Int.natCast_zero]
 refine W_while (n := 40) 30 (fun k e H' => gt 40 e 14 = .int .i64 0 ∧ gt 40 e 13 = .int .i64 0 ∧ gt 40 e 1 = .pointer (some ⟨H.size, 0, none⟩) ∧ gt 40 e 2 = .pointer (some ⟨H.size + 1, 0, none⟩) ∧ gt 40 e 3 = .pointer (some ⟨H.size + 1 + 1, 0, none⟩) ∧ H.size + 1 + 1 < H'.size ∧ H'.get H.size = .rw [.slice a 0 cap, .slice a' 0 cap', .int .i64 lots] 25 false [] ∧ H'.get (H.size + 1) = .rw [.slice none 0 0, .slice none 0 0, .int .i64 0] 34 false [] ∧ H'.get (H.size + 1 + 1) = .rw [.slice none 0 0, .slice none 0 0, .int .i64 lots] 34 false [])
  ?_ 0 0 ⟨by simp (disch:=first|(simp only [yk,seval];done)|omega|(simp only [yz]<;>omega)|fail) only [yg,seval], by simp (disch:=first|(simp only [yk,seval];done)|omega|(simp only [yz]<;>omega)|fail) only [yg,seval], by simp (disch:=first|(simp only [yk,seval];done)|omega|(simp only [yz]<;>omega)|fail) only [yg,seval], by simp (disch:=first|(simp only [yk,seval];done)|omega|(simp only [yz]<;>omega)|fail) only [yg,seval], by simp (disch:=first|(simp only [yk,seval];done)|omega|(simp only [yz]<;>omega)|fail) only [yg,seval], by (first | omega | (simp only [yz] <;> omega)), by simp (disch:=first|(simp only [yk,seval];done)|omega|(simp only [yz]<;>omega)|fail) only [yg,seval], by simp (disch:=first|(simp only [yk,seval];done)|omega|(simp only [yz]<;>omega)|fail) only [yg,seval], by simp (disch:=first|(simp only [yk,seval];done)|omega|(simp only [yz]<;>omega)|fail) only [yg,seval]⟩ (by omega) (by omega)
 rintro M1 k e H1 ⟨g14, g13, g1, g2, g3, hs, b1, b2, b3⟩
 have hlt : decide ((0 : Int) < 0) = false := by simp
 simp (disch:=first|(simp only [yk,seval];done)|omega|(simp only [yz]<;>omega)|fail) only [↓yp,yA,ys0,ys1,seval,fitB,newC,endD,endR,yrg,g14,g13,g1,g3,b1,b3,lenV_slice st_esS_23,Int.natCast_zero,hlt]
 refine W_while (n := 40) 30 (fun k e H' => gt 40 e 28 = .int .i64 0 ∧ gt 40 e 27 = .int .i64 0 ∧ gt 40 e 2 = .pointer (some ⟨H.size + 1, 0, none⟩) ∧ gt 40 e 3 = .pointer (some ⟨H.size + 1 + 1, 0, none⟩) ∧ H.size + 1 + 1 < H'.size ∧ H'.get (H.size + 1) = .rw [.slice none 0 0, .slice none 0 0, .int .i64 0] 34 false [] ∧ H'.get (H.size + 1 + 1) = .rw [.slice none 0 0, .slice none 0 0, .int .i64 lots] 34 false [])
  ?_ 0 0 ⟨by simp (disch:=first|(simp only [yk,seval];done)|omega|(simp only [yz]<;>omega)|fail) only [yg,seval], by simp (disch:=first|(simp only [yk,seval];done)|omega|(simp only [yz]<;>omega)|fail) only [yg,seval], by simp (disch:=first|(simp only [yk,seval];done)|omega|(simp only [yz]<;>omega)|fail) only [yg,seval,g2], by simp (disch:=first|(simp only [yk,seval];done)|omega|(simp only [yz]<;>omega)|fail) only [yg,seval,g3], hs, b2, b3⟩ (by omega) (by omega)
 clear b1 b2 b3 hs g1 g2 g3 g13 g14
 rintro M2 k e H2 ⟨g28, g27, g2, g3, hs, b2, b3⟩
 simp (disch:=first|(simp only [yk,seval];done)|omega|(simp only [yz]<;>omega)|fail) only [↓yp,yA,ys0,ys1,seval,fitB,newC,endD,endR,yrg,g28,g27,g2,g3,b2,b3,hlt]
--MID
set_option maxHeartbeats 4000000 in
theorem c15 (hs : Rw pkE H a ps) (hgs : Rw gdE H a' gs) (hl : ps.length ≤ 6) (hgl : gs.length ≤ 6) (hne : ps ≠ [] ∨ gs ≠ []) (hL : L ≤ H.size) {M : Nat} (hM : 500 ≤ M)
  (hq : ∀ x c x' c' H', Fr H H' → (x ≠ none ∨ x' ≠ none) → Up H.size x → Up H.size x' → Rw pkE H' x ps → Rw gdE H' x' gs → Q false (.agg ⟨[.slice x ps.length c, .slice x' gs.length c', .int .i64 lots]⟩) H') :
  resK (acall tabA (aexec tabA Tryz.prog M) 13 [.agg ⟨[.slice a ps.length cap, .slice a' gs.length cap', .int .i64 lots]⟩] H) L Q := by
 obtain ⟨N, rfl⟩ : ∃ N, M = N + 500 := ⟨M - 500, by omega⟩
 refine call_fls (R := fun v H' => ∃ x c x' c', v = .agg ⟨[.slice x ps.length c, .slice x' gs.length c', .int .i64 lots]⟩ ∧ Fr H H' ∧ (x ≠ none ∨ x' ≠ none) ∧ Up H.size x ∧ Up H.size x' ∧ Rw pkE H' x ps ∧ Rw gdE H' x' gs) (k := 40) (rs := [.cell 2 34]) rfl fn_13 rfl rfl rfl hL ?_ ?_ ?_
 rotate_left
 ·rintro v H' ⟨x, c, x', c', rfl, -, h, -⟩; exact gr_two h
 ·rintro v H' ⟨x, c, x', c', rfl, h1, h2, h3, h4, h5, h6⟩
  exact hq _ _ _ _ _ h1 h2 h3 h4 h5 h6
 simp (disch:=first|(simp only [yk,seval];done)|omega|(simp only [yz]<;>omega)|fail) only [↓yp,yA,ys0,ys1,seval,fitB,newC,endD,endR,yrg,A_build st_bdS_34,lenV_slice st_esS_22]
 refine W_while (n := 40) 100 (fun k e H' => ∃ (i : Nat) (v : Value) (S : Nat → Prop), k = ps.length - i ∧ i ≤ ps.length ∧ gt 40 e 14 = .int .i64 (i : Nat) ∧ gt 40 e 13 = .int .i64 ps.length ∧ gt 40 e 12 = .slice a ps.length cap ∧ gt 40 e 1 = .pointer (some ⟨H.size, 0, none⟩) ∧ gt 40 e 2 = .pointer (some ⟨H.size + 1, 0, none⟩) ∧ gt 40 e 3 = .pointer (some ⟨H.size + 1 + 1, 0, none⟩) ∧ H.size + 1 + 1 < H'.size ∧ Fr H H' ∧ H'.get H.size = .rw [.slice a ps.length cap, .slice a' gs.length cap', .int .i64 lots] 25 false [] ∧ H'.get (H.size + 1) = .rw [.slice none 0 0, .slice none 0 0, .int .i64 0] 34 false [] ∧ H'.get (H.size + 1 + 1) = .rw [v, .slice none 0 0, .int .i64 lots] 34 false [] ∧ Gw H' (H.size + 1 + 1) S v i (pkE.fl (ps.take i)) 111 4)
  ?_ 6 ps.length ⟨0, _, _, by omega, by omega, by simp (disch:=first|(simp only [yk,seval];done)|omega|(simp only [yz]<;>omega)|fail) only [yg,seval] <;> rfl, by simp (disch:=first|(simp only [yk,seval];done)|omega|(simp only [yz]<;>omega)|fail) only [yg,seval], by simp (disch:=first|(simp only [yk,seval];done)|omega|(simp only [yz]<;>omega)|fail) only [yg,seval], by simp (disch:=first|(simp only [yk,seval];done)|omega|(simp only [yz]<;>omega)|fail) only [yg,seval], by simp (disch:=first|(simp only [yk,seval];done)|omega|(simp only [yz]<;>omega)|fail) only [yg,seval], by simp (disch:=first|(simp only [yk,seval];done)|omega|(simp only [yz]<;>omega)|fail) only [yg,seval], by (first | omega | (simp only [yz] <;> omega)), by (repeat (first | exact Fr.refl _ | assumption | refine Fr.allocd ?_ _ | refine Fr.put ?_ (by first | omega | (simp only [yz] <;> omega)) _)), by simp (disch:=first|(simp only [yk,seval];done)|omega|(simp only [yz]<;>omega)|fail) only [yg,seval], by simp (disch:=first|(simp only [yk,seval];done)|omega|(simp only [yz]<;>omega)|fail) only [yg,seval], by simp (disch:=first|(simp only [yk,seval];done)|omega|(simp only [yz]<;>omega)|fail) only [yg,seval], Gw.none⟩ (by omega) (by omega)
 rintro M1 k e H1 ⟨i, v, S, rfl, hi, g14, g13, g12, g1, g2, g3, hs1, fr, b1, b2, b3, gw⟩
 simp (disch:=first|(simp only [yk,seval];done)|omega|(simp only [yz]<;>omega)|fail) only [↓yp,yA,ys0,ys1,seval,fitB,newC,endD,endR,yrg,g14,g13]
 refine ⟨fun hT => ?_, fun hT => ?_⟩
 ·have hlt : i < ps.length := by simpa using hT
  obtain ⟨p, hp⟩ : ∃ p, ps[i]? = some p := ⟨ps[i], by simp [hlt]⟩
  obtain ⟨b, o, c, eb, hb, hc, hqq⟩ := (hs.fr fr).at_ hp
  have q : part c (o + i * 4) 5 = some (.agg ⟨p.enc⟩) := part_of hqq rfl
  have hw2 : w64 ((i : Int) + 1) = ((i + 1 : Nat) : Int) := by rw [w64_of (by omega)]; omega
  simp only [Pk.enc] at q
  subst eb
  simp (disch:=first|(simp only [yk,seval];done)|omega|(simp only [yz]<;>omega)|fail) only [↓yp,yA,ys0,ys1,seval,fitB,newC,endD,endR,yrg,g14,g12,g3,b3,A_indexSlice st_esS_22,hc,q,A_buildSlice st_brS_31_1]
  refine gw_append (i := i) (cs := pkE.fl (ps.take i)) (news := p.enc) st_apS_31 (gw.fr (by repeat first|exact Fr.refl _|assumption|refine Fr.allocd ?_ _|refine Fr.put ?_ (by first|omega|(simp only [yz]<;>omega)) _)) (by first|omega|(simp only [yz]<;>omega)) (by rw [fl_length, List.length_take_of_le (by omega)]; rfl) (by unfold srcCells; simp (disch:=first|(simp only [yk,seval];done)|omega|(simp only [yz]<;>omega)|fail) only [yg,seval] <;> rfl) (by omega) (by omega) rfl (by omega) ?_
  intro a1 c1 H2 hs2 fs2 gw1
  simp only [size_alloc,size_put] at hs2 fs2
  have hcs : pkE.fl (ps.take i) ++ p.enc = pkE.fl (ps.take (i + 1)) := take_fl (E := pkE) hp
  rw [hcs] at gw1
  have old : ∀ q, q ≤ H.size + 1 + 1 → H2.get q = H1.get q := fun q h1 => by
   rw [fs2 q (by omega) (gw.low q h1), get_alloc_lt (by first|omega|(simp only [yz]<;>omega)), get_put_ne (by omega), get_alloc_lt (by omega)]
  have b32 := (old _ (Nat.le_refl _)).trans b3
  simp (disch:=first|(simp only [yk,seval];done)|omega|(simp only [yz]<;>omega)|fail) only [↓yp,yA,ys0,ys1,seval,fitB,newC,endD,endR,yrg,g14,g3,b32,hw2]
  refine ⟨ps.length - (i + 1), by omega, i + 1, _, _, rfl, by omega, ?_, ?_, ?_, ?_, ?_, ?_, by (first | omega | (simp only [yz] <;> omega)), ?_, ?_, ?_, get_put_same (by omega), gw1.put (gw1.low _ (Nat.le_refl _)) _⟩
  ·simp (disch:=first|(simp only [yk,seval];done)|omega|(simp only [yz]<;>omega)|fail) only [yg,seval]
  ·simp (disch:=first|(simp only [yk,seval];done)|omega|(simp only [yz]<;>omega)|fail) only [yg,seval,g13]
  ·simp (disch:=first|(simp only [yk,seval];done)|omega|(simp only [yz]<;>omega)|fail) only [yg,seval,g12]
  ·simp (disch:=first|(simp only [yk,seval];done)|omega|(simp only [yz]<;>omega)|fail) only [yg,seval,g1]
  ·simp (disch:=first|(simp only [yk,seval];done)|omega|(simp only [yz]<;>omega)|fail) only [yg,seval,g2]
  ·simp (disch:=first|(simp only [yk,seval];done)|omega|(simp only [yz]<;>omega)|fail) only [yg,seval,g3]
  ·exact ⟨by (first | omega | (simp only [yz] <;> omega)), fun q hq => by rw [get_put_ne (by omega), old q (by omega)]; exact fr.same q hq⟩
  ·rw [get_put_ne (by omega), old _ (by omega)]; exact b1
  ·rw [get_put_ne (by omega), old _ (by omega)]; exact b2
 have hie : i = ps.length := by have := of_decide_eq_false hT; omega
 subst hie
 rw [List.take_of_length_le (Nat.le_refl _)] at gw
 clear hT hi g14 g13 g12
 simp (disch:=first|(simp only [yk,seval];done)|omega|(simp only [yz]<;>omega)|fail) only [↓yp,yA,ys0,ys1,seval,fitB,newC,endD,endR,yrg,g1,b1,lenV_slice st_esS_23]
 refine W_while (n := 40) 100 (fun k e H' => ∃ (i : Nat) (w : Value) (S' : Nat → Prop), k = gs.length - i ∧ i ≤ gs.length ∧ gt 40 e 28 = .int .i64 (i : Nat) ∧ gt 40 e 27 = .int .i64 gs.length ∧ gt 40 e 26 = .slice a' gs.length cap' ∧ gt 40 e 2 = .pointer (some ⟨H.size + 1, 0, none⟩) ∧ gt 40 e 3 = .pointer (some ⟨H.size + 1 + 1, 0, none⟩) ∧ H.size + 1 + 1 < H'.size ∧ Fr H H' ∧ H'.get (H.size + 1) = .rw [.slice none 0 0, .slice none 0 0, .int .i64 0] 34 false [] ∧ H'.get (H.size + 1 + 1) = .rw [v, w, .int .i64 lots] 34 false [] ∧ Gw H' (H.size + 1 + 1) S v ps.length (pkE.fl ps) 111 4 ∧ Gw H' (H.size + 1 + 1) S' w i (gdE.fl (gs.take i)) 112 2 ∧ ∀ j, S j → ¬ S' j)
  ?_ 6 gs.length ⟨0, _, _, by omega, by omega, by simp (disch:=first|(simp only [yk,seval];done)|omega|(simp only [yz]<;>omega)|fail) only [yg,seval] <;> rfl, by simp (disch:=first|(simp only [yk,seval];done)|omega|(simp only [yz]<;>omega)|fail) only [yg,seval], by simp (disch:=first|(simp only [yk,seval];done)|omega|(simp only [yz]<;>omega)|fail) only [yg,seval], by simp (disch:=first|(simp only [yk,seval];done)|omega|(simp only [yz]<;>omega)|fail) only [yg,seval,g2], by simp (disch:=first|(simp only [yk,seval];done)|omega|(simp only [yz]<;>omega)|fail) only [yg,seval,g3], hs1, fr, b2, b3, gw, Gw.none, fun j _ h => h⟩ (by omega) (by omega)
 clear b3 b2 b1 fr hs1 g1 g2 g3 gw e
 rintro M2 k e H1 ⟨i, w, S', rfl, hi, g28, g27, g26, g2, g3, hs1, fr, b2, b3, gw, gw', dj⟩
 simp (disch:=first|(simp only [yk,seval];done)|omega|(simp only [yz]<;>omega)|fail) only [↓yp,yA,ys0,ys1,seval,fitB,newC,endD,endR,yrg,g28,g27]
 refine ⟨fun hT => ?_, fun hT => ?_⟩
 ·have hlt : i < gs.length := by simpa using hT
  obtain ⟨p, hp⟩ : ∃ p, gs[i]? = some p := ⟨gs[i], by simp [hlt]⟩
  obtain ⟨b, o, c, eb, hb, hc, hqq⟩ := (hgs.fr fr).at_ hp
  have q : part c (o + i * 2) 3 = some (.agg ⟨p.enc⟩) := part_of hqq rfl
  have hw2 : w64 ((i : Int) + 1) = ((i + 1 : Nat) : Int) := by rw [w64_of (by omega)]; omega
  simp only [Gd.enc] at q
  subst eb
  simp (disch:=first|(simp only [yk,seval];done)|omega|(simp only [yz]<;>omega)|fail) only [↓yp,yA,ys0,ys1,seval,fitB,newC,endD,endR,yrg,g28,g26,g3,b3,A_indexSlice st_esS_23,hc,q,A_buildSlice st_brS_32_1]
  refine gw_append (i := i) (cs := gdE.fl (gs.take i)) (news := p.enc) st_apS_32 (gw'.fr (by repeat first|exact Fr.refl _|assumption|refine Fr.allocd ?_ _|refine Fr.put ?_ (by first|omega|(simp only [yz]<;>omega)) _)) (by first|omega|(simp only [yz]<;>omega)) (by rw [fl_length, List.length_take_of_le (by omega)]; rfl) (by unfold srcCells; simp (disch:=first|(simp only [yk,seval];done)|omega|(simp only [yz]<;>omega)|fail) only [yg,seval] <;> rfl) (by omega) (by omega) rfl (by omega) ?_
  intro a1 c1 H2 hs2 fs2 gw1
  simp only [size_alloc,size_put] at hs2 fs2
  have hcs : gdE.fl (gs.take i) ++ p.enc = gdE.fl (gs.take (i + 1)) := take_fl (E := gdE) hp
  rw [hcs] at gw1
  have old1 : ∀ q, q < H1.size → ¬ S' q → H2.get q = H1.get q := fun q h1 h2 => by
   rw [fs2 q (by omega) h2, get_alloc_lt (by first|omega|(simp only [yz]<;>omega)), get_put_ne (by omega), get_alloc_lt (by omega)]
  have old : ∀ q, q ≤ H.size + 1 + 1 → H2.get q = H1.get q := fun q h1 => old1 q (by omega) (gw'.low q h1)
  have b32 := (old _ (Nat.le_refl _)).trans b3
  simp (disch:=first|(simp only [yk,seval];done)|omega|(simp only [yz]<;>omega)|fail) only [↓yp,yA,ys0,ys1,seval,fitB,newC,endD,endR,yrg,g28,g3,b32,hw2]
  refine ⟨gs.length - (i + 1), by omega, i + 1, _, _, rfl, by omega, ?_, ?_, ?_, ?_, ?_, by (first | omega | (simp only [yz] <;> omega)), ?_, ?_, get_put_same (by omega), ?_, gw1.put (gw1.low _ (Nat.le_refl _)) _, ?_⟩
  ·simp (disch:=first|(simp only [yk,seval];done)|omega|(simp only [yz]<;>omega)|fail) only [yg,seval]
  ·simp (disch:=first|(simp only [yk,seval];done)|omega|(simp only [yz]<;>omega)|fail) only [yg,seval,g27]
  ·simp (disch:=first|(simp only [yk,seval];done)|omega|(simp only [yz]<;>omega)|fail) only [yg,seval,g26]
  ·simp (disch:=first|(simp only [yk,seval];done)|omega|(simp only [yz]<;>omega)|fail) only [yg,seval,g2]
  ·simp (disch:=first|(simp only [yk,seval];done)|omega|(simp only [yz]<;>omega)|fail) only [yg,seval,g3]
  ·exact ⟨by (first | omega | (simp only [yz] <;> omega)), fun q hq => by rw [get_put_ne (by omega), old q (by omega)]; exact fr.same q hq⟩
  ·rw [get_put_ne (by omega), old _ (by omega)]; exact b2
  ·exact (gw.same (H' := H2) (by omega) fun j hj => old1 j (gw.own j hj).2 (dj j hj)).put (gw.low _ (Nat.le_refl _)) _
  ·intro j hj h
   rcases h with h | h
   ·exact dj j hj h
   ·have := (gw.own j hj).2
    simp only [size_alloc,size_put] at h
    omega
 have hie : i = gs.length := by have := of_decide_eq_false hT; omega
 subst hie
 rw [List.take_of_length_le (Nat.le_refl _)] at gw'
 have k1 : ∃ x c, v = .slice x ps.length c ∧ (ps ≠ [] → x ≠ none) ∧ Up H.size x ∧ ∀ H2, (∀ j, S j → H2.get j = H1.get j) → H1.size ≤ H2.size → Rw pkE H2 x ps := by
  by_cases h : ps = []
  ·subst h
   exact ⟨none, 0, gw.nil rfl, fun h => absurd rfl h, Up.none, fun _ _ _ => Rw.nil⟩
  ·obtain ⟨b, al, e1, e2, e3, -⟩ := gw.cons (by simpa using h)
   exact ⟨_, _, e1, fun _ => by simp, Up.some (by have := (gw.own _ e2).1; omega), fun H2 h1 h2 => Rw.of (r := []) (Nat.lt_of_lt_of_le (gw.own _ e2).2 h2) (by rw [h1 _ e2, e3]; rfl) (by rw [List.append_nil])⟩
 have k2 : ∃ x c, w = .slice x gs.length c ∧ (gs ≠ [] → x ≠ none) ∧ Up H.size x ∧ ∀ H2, (∀ j, S' j → H2.get j = H1.get j) → H1.size ≤ H2.size → Rw gdE H2 x gs := by
  by_cases h : gs = []
  ·subst h
   exact ⟨none, 0, gw'.nil rfl, fun h => absurd rfl h, Up.none, fun _ _ _ => Rw.nil⟩
  ·obtain ⟨b, al, e1, e2, e3, -⟩ := gw'.cons (by simpa using h)
   exact ⟨_, _, e1, fun _ => by simp, Up.some (by have := (gw'.own _ e2).1; omega), fun H2 h1 h2 => Rw.of (r := []) (Nat.lt_of_lt_of_le (gw'.own _ e2).2 h2) (by rw [h1 _ e2, e3]; rfl) (by rw [List.append_nil])⟩
 obtain ⟨x, c, rfl, n1, u1, r1⟩ := k1
 obtain ⟨x', c', rfl, n2, u2, r2⟩ := k2
 have h1 : oneCells [.slice x ps.length c, .slice x' gs.length c', .int .i64 lots] = true := by cases x <;> cases x' <;> rfl
 simp (disch:=first|(simp only [yk,seval];done)|omega|(simp only [yz]<;>omega)|fail) only [↓yp,yA,ys0,ys1,seval,fitB,newC,endD,endR,yrg,g2,g3,b2,b3,h1]
 refine ⟨x, c, x', c', rfl, ?_, ?_, u1, u2, r1 _ (fun j hj => get_put_ne (fun h => gw.low j (by omega) hj)) (by first|omega|(simp only [yz]<;>omega)), r2 _ (fun j hj => get_put_ne (fun h => gw'.low j (by omega) hj)) (by first|omega|(simp only [yz]<;>omega))⟩
 ·exact fr.put (by omega) _
 ·rcases hne with h | h
  ·exact .inl (n1 h)
  ·exact .inr (n2 h)
--END
end
end Go.Am.K
