import Derived.Test.YtjpcaamfcfkmhaaT45
set_option linter.unusedSimpArgs false
set_option linter.unusedVariables false
namespace Go.Am.K
open Go.Proofs
variable {T : Tab} {P : Program} {N L : Nat} {H H' H'' : AHeap} {Q : Bool → Value → AHeap → Prop}
section
variable {a a' : Option Addr} {cap cap' : Nat} {ps : List Pk} {gs : List Gd} {lots : Int}
set_option maxHeartbeats 2000000 in
theorem c23n : acall tabA (aexec tabA Try.prog (N + 100)) 23 [.agg ⟨[.slice a 0 cap, .slice a' 0 cap', .int .i64 lots]⟩] H = some (true, .agg ⟨[.slice none 0 0, .slice none 0 0, .int .i64 lots]⟩, H, H.size) := by
 refine call_quiet (k := 40) (rs := [.cell 2 25]) rfl fn_23 rfl rfl rfl ?_ rfl
 simp (disch:=first|(simp only [yk,seval];done)|omega|(simp only [yz]<;>omega)|fail) only [↓yp,yq0,yq1,yq2,yq3,yq4,yl,ys0,ys1,seval,fitB,newC,endD,endR,yrg,A_build st_bdS_25,lenV_slice st_esS_29,Int.natCast_zero]
 refine W_while (n := 40) 30 (fun k e H' => gt 40 e 14 = .int .i64 0 ∧ gt 40 e 13 = .int .i64 0 ∧ gt 40 e 1 = .pointer (some ⟨H.size, 0, none⟩) ∧ gt 40 e 2 = .pointer (some ⟨H.size + 1, 0, none⟩) ∧ gt 40 e 3 = .pointer (some ⟨H.size + 1 + 1, 0, none⟩) ∧ H.size + 1 + 1 < H'.size ∧ H'.get H.size = .rw [.slice a 0 cap, .slice a' 0 cap', .int .i64 lots] 32 false [] ∧ H'.get (H.size + 1) = .rw [.slice none 0 0, .slice none 0 0, .int .i64 0] 25 false [] ∧ H'.get (H.size + 1 + 1) = .rw [.slice none 0 0, .slice none 0 0, .int .i64 lots] 25 false [])
  ?_ 0 0 ⟨by simp (disch:=first|(simp only [yk,seval];done)|omega|(simp only [yz]<;>omega)|fail) only [yg,seval], by simp (disch:=first|(simp only [yk,seval];done)|omega|(simp only [yz]<;>omega)|fail) only [yg,seval], by simp (disch:=first|(simp only [yk,seval];done)|omega|(simp only [yz]<;>omega)|fail) only [yg,seval], by simp (disch:=first|(simp only [yk,seval];done)|omega|(simp only [yz]<;>omega)|fail) only [yg,seval], by simp (disch:=first|(simp only [yk,seval];done)|omega|(simp only [yz]<;>omega)|fail) only [yg,seval], by (first | omega | (simp only [yz] <;> omega)), by simp (disch:=first|(simp only [yk,seval];done)|omega|(simp only [yz]<;>omega)|fail) only [yg,seval], by simp (disch:=first|(simp only [yk,seval];done)|omega|(simp only [yz]<;>omega)|fail) only [yg,seval], by simp (disch:=first|(simp only [yk,seval];done)|omega|(simp only [yz]<;>omega)|fail) only [yg,seval]⟩ (by omega) (by omega)
 rintro M1 k e H1 ⟨g14, g13, g1, g2, g3, hs, b1, b2, b3⟩
 have hlt : decide ((0 : Int) < 0) = false := by simp
 simp (disch:=first|(simp only [yk,seval];done)|omega|(simp only [yz]<;>omega)|fail) only [↓yp,yq0,yq1,yq2,yq3,yq4,yl,ys0,ys1,seval,fitB,newC,endD,endR,yrg,g14,g13,g1,g3,b1,b3,lenV_slice st_esS_30,Int.natCast_zero,hlt]
 refine W_while (n := 40) 30 (fun k e H' => gt 40 e 28 = .int .i64 0 ∧ gt 40 e 27 = .int .i64 0 ∧ gt 40 e 2 = .pointer (some ⟨H.size + 1, 0, none⟩) ∧ gt 40 e 3 = .pointer (some ⟨H.size + 1 + 1, 0, none⟩) ∧ H.size + 1 + 1 < H'.size ∧ H'.get (H.size + 1) = .rw [.slice none 0 0, .slice none 0 0, .int .i64 0] 25 false [] ∧ H'.get (H.size + 1 + 1) = .rw [.slice none 0 0, .slice none 0 0, .int .i64 lots] 25 false [])
  ?_ 0 0 ⟨by simp (disch:=first|(simp only [yk,seval];done)|omega|(simp only [yz]<;>omega)|fail) only [yg,seval], by simp (disch:=first|(simp only [yk,seval];done)|omega|(simp only [yz]<;>omega)|fail) only [yg,seval], by simp (disch:=first|(simp only [yk,seval];done)|omega|(simp only [yz]<;>omega)|fail) only [yg,seval,g2], by simp (disch:=first|(simp only [yk,seval];done)|omega|(simp only [yz]<;>omega)|fail) only [yg,seval,g3], hs, b2, b3⟩ (by omega) (by omega)
 clear b1 b2 b3 hs g1 g2 g3 g13 g14
 rintro M2 k e H2 ⟨g28, g27, g2, g3, hs, b2, b3⟩
 simp (disch:=first|(simp only [yk,seval];done)|omega|(simp only [yz]<;>omega)|fail) only [↓yp,yq0,yq1,yq2,yq3,yq4,yl,ys0,ys1,seval,fitB,newC,endD,endR,yrg,g28,g27,g2,g3,b2,b3,hlt]
set_option maxHeartbeats 4000000 in
theorem c23 (hs : Rw pkE H a ps) (hgs : Rw gdE H a' gs) (hl : ps.length ≤ 6) (hgl : gs.length ≤ 6) (hne : ps ≠ [] ∨ gs ≠ []) (hL : L ≤ H.size) {M : Nat} (hM : 500 ≤ M)
  (hq : ∀ x c x' c' H', Fr H H' → (x ≠ none ∨ x' ≠ none) → Up H.size x → Up H.size x' → Rw pkE H' x ps → Rw gdE H' x' gs → Q false (.agg ⟨[.slice x ps.length c, .slice x' gs.length c', .int .i64 lots]⟩) H') :
  resK (acall tabA (aexec tabA Try.prog M) 23 [.agg ⟨[.slice a ps.length cap, .slice a' gs.length cap', .int .i64 lots]⟩] H) L Q := by
 obtain ⟨N, rfl⟩ : ∃ N, M = N + 500 := ⟨M - 500, by omega⟩
 refine call_fls (R := fun v H' => ∃ x c x' c', v = .agg ⟨[.slice x ps.length c, .slice x' gs.length c', .int .i64 lots]⟩ ∧ Fr H H' ∧ (x ≠ none ∨ x' ≠ none) ∧ Up H.size x ∧ Up H.size x' ∧ Rw pkE H' x ps ∧ Rw gdE H' x' gs) (k := 40) (rs := [.cell 2 25]) rfl fn_23 rfl rfl rfl hL ?_ ?_ ?_
 rotate_left
 ·rintro v H' ⟨x, c, x', c', rfl, -, h, -⟩; exact gr_two h
 ·rintro v H' ⟨x, c, x', c', rfl, h1, h2, h3, h4, h5, h6⟩
  exact hq _ _ _ _ _ h1 h2 h3 h4 h5 h6
 simp (disch:=first|(simp only [yk,seval];done)|omega|(simp only [yz]<;>omega)|fail) only [↓yp,yq0,yq1,yq2,yq3,yq4,yl,ys0,ys1,seval,fitB,newC,endD,endR,yrg,A_build st_bdS_25,lenV_slice st_esS_29]
 refine W_while (n := 40) 100 (fun k e H' => ∃ (i : Nat) (v : Value) (S : Nat → Prop), k = ps.length - i ∧ i ≤ ps.length ∧ gt 40 e 14 = .int .i64 (i : Nat) ∧ gt 40 e 13 = .int .i64 ps.length ∧ gt 40 e 12 = .slice a ps.length cap ∧ gt 40 e 1 = .pointer (some ⟨H.size, 0, none⟩) ∧ gt 40 e 2 = .pointer (some ⟨H.size + 1, 0, none⟩) ∧ gt 40 e 3 = .pointer (some ⟨H.size + 1 + 1, 0, none⟩) ∧ H.size + 1 + 1 < H'.size ∧ Fr H H' ∧ H'.get H.size = .rw [.slice a ps.length cap, .slice a' gs.length cap', .int .i64 lots] 32 false [] ∧ H'.get (H.size + 1) = .rw [.slice none 0 0, .slice none 0 0, .int .i64 0] 25 false [] ∧ H'.get (H.size + 1 + 1) = .rw [v, .slice none 0 0, .int .i64 lots] 25 false [] ∧ Gw H' (H.size + 1 + 1) S v i (pkE.fl (ps.take i)) 87 4)
  ?_ 6 ps.length ⟨0, _, _, by omega, by omega, by simp (disch:=first|(simp only [yk,seval];done)|omega|(simp only [yz]<;>omega)|fail) only [yg,seval] <;> rfl, by simp (disch:=first|(simp only [yk,seval];done)|omega|(simp only [yz]<;>omega)|fail) only [yg,seval], by simp (disch:=first|(simp only [yk,seval];done)|omega|(simp only [yz]<;>omega)|fail) only [yg,seval], by simp (disch:=first|(simp only [yk,seval];done)|omega|(simp only [yz]<;>omega)|fail) only [yg,seval], by simp (disch:=first|(simp only [yk,seval];done)|omega|(simp only [yz]<;>omega)|fail) only [yg,seval], by simp (disch:=first|(simp only [yk,seval];done)|omega|(simp only [yz]<;>omega)|fail) only [yg,seval], by (first | omega | (simp only [yz] <;> omega)), by (repeat (first | exact Fr.refl _ | assumption | refine Fr.allocd ?_ _ | refine Fr.put ?_ (by first | omega | (simp only [yz] <;> omega)) _)), by simp (disch:=first|(simp only [yk,seval];done)|omega|(simp only [yz]<;>omega)|fail) only [yg,seval], by simp (disch:=first|(simp only [yk,seval];done)|omega|(simp only [yz]<;>omega)|fail) only [yg,seval], by simp (disch:=first|(simp only [yk,seval];done)|omega|(simp only [yz]<;>omega)|fail) only [yg,seval], Gw.none⟩ (by omega) (by omega)
 rintro M1 k e H1 ⟨i, v, S, rfl, hi, g14, g13, g12, g1, g2, g3, hs1, fr, b1, b2, b3, gw⟩
 simp (disch:=first|(simp only [yk,seval];done)|omega|(simp only [yz]<;>omega)|fail) only [↓yp,yq0,yq1,yq2,yq3,yq4,yl,ys0,ys1,seval,fitB,newC,endD,endR,yrg,g14,g13]
 refine ⟨fun hT => ?_, fun hT => ?_⟩
 ·have hlt : i < ps.length := by simpa using hT
  obtain ⟨p, hp⟩ : ∃ p, ps[i]? = some p := ⟨ps[i], by simp [hlt]⟩
  obtain ⟨b, o, c, eb, hb, hc, hqq⟩ := (hs.fr fr).at_ hp
  have q : part c (o + i * 4) 5 = some (.agg ⟨p.enc⟩) := part_of hqq rfl
  have hw2 : w64 ((i : Int) + 1) = ((i + 1 : Nat) : Int) := by rw [w64_of (by omega)]; omega
  simp only [Pk.enc] at q
  subst eb
  simp (disch:=first|(simp only [yk,seval];done)|omega|(simp only [yz]<;>omega)|fail) only [↓yp,yq0,yq1,yq2,yq3,yq4,yl,ys0,ys1,seval,fitB,newC,endD,endR,yrg,g14,g12,g3,b3,A_indexSlice st_esS_29,hc,q,A_buildSlice st_brS_22_1]
  refine gw_append (i := i) (cs := pkE.fl (ps.take i)) (news := p.enc) st_apS_22 (gw.fr (by repeat first|exact Fr.refl _|assumption|refine Fr.allocd ?_ _|refine Fr.put ?_ (by first|omega|(simp only [yz]<;>omega)) _)) (by first|omega|(simp only [yz]<;>omega)) (by rw [fl_length, List.length_take_of_le (by omega)]; rfl) (by unfold srcCells; simp (disch:=first|(simp only [yk,seval];done)|omega|(simp only [yz]<;>omega)|fail) only [yg,seval] <;> rfl) (by omega) (by omega) rfl (by omega) ?_
  intro a1 c1 H2 hs2 fs2 gw1
  simp only [size_alloc,size_put] at hs2 fs2
  have hcs : pkE.fl (ps.take i) ++ p.enc = pkE.fl (ps.take (i + 1)) := take_fl (E := pkE) hp
  rw [hcs] at gw1
  have old : ∀ q, q ≤ H.size + 1 + 1 → H2.get q = H1.get q := fun q h1 => by
   rw [fs2 q (by omega) (gw.low q h1), get_alloc_lt (by first|omega|(simp only [yz]<;>omega)), get_put_ne (by omega), get_alloc_lt (by omega)]
  have b32 := (old _ (Nat.le_refl _)).trans b3
  simp (disch:=first|(simp only [yk,seval];done)|omega|(simp only [yz]<;>omega)|fail) only [↓yp,yq0,yq1,yq2,yq3,yq4,yl,ys0,ys1,seval,fitB,newC,endD,endR,yrg,g14,g3,b32,hw2]
  refine ⟨ps.length - (i + 1), by omega, i + 1, _, _, rfl, by omega, ?_, ?_, ?_, ?_, ?_, ?_, by (first | omega | (simp only [yz] <;> omega)), ?_, ?_, ?_, get_put_same (by omega), gw1.put (gw1.low _ (Nat.le_refl _)) _⟩
  ·simp (disch:=first|(simp only [yk,seval];done)|omega|(simp only [yz]<;>omega)|fail) only [yg,seval]
  ·simp (disch:=first|(simp only [yk,seval];done)|omega|(simp only [yz]<;>omega)|fail) only [yg,seval,g13]
  ·simp (disch:=first|(simp only [yk,seval];done)|omega|(simp only [yz]<;>omega)|fail) only [yg,seval,g12]
  ·simp (disch:=first|(simp only [yk,seval];done)|omega|(simp only [yz]<;>omega)|fail) only [yg,seval,g1]
  ·simp (disch:=first|(simp only [yk,seval];done)|omega|(simp only [yz]<;>omega)|fail) only [yg,seval,g2]
  ·simp (disch:=first|(simp only [yk,seval];done)|omega|(simp only [yz]<;>omega)|fail) only [yg,seval,g3]
  ·exact ⟨by (first | omega | (simp only [yz] <;> omega)), fun q hq => by rw [get_put_ne (by omega), old q (by omega)]; exact fr.same q hq⟩
  ·rw [get_put_ne (by omega), old _ (by omega)]; exact b1
  ·rw [get_put_ne (by omega), old _ (by omega)]; exact b2
 have hie : i = ps.length := by have := of_decide_eq_false hT; omega
 subst hie
 rw [List.take_of_length_le (Nat.le_refl _)] at gw
 clear hT hi g14 g13 g12
 simp (disch:=first|(simp only [yk,seval];done)|omega|(simp only [yz]<;>omega)|fail) only [↓yp,yq0,yq1,yq2,yq3,yq4,yl,ys0,ys1,seval,fitB,newC,endD,endR,yrg,g1,b1,lenV_slice st_esS_30]
 refine W_while (n := 40) 100 (fun k e H' => ∃ (i : Nat) (w : Value) (S' : Nat → Prop), k = gs.length - i ∧ i ≤ gs.length ∧ gt 40 e 28 = .int .i64 (i : Nat) ∧ gt 40 e 27 = .int .i64 gs.length ∧ gt 40 e 26 = .slice a' gs.length cap' ∧ gt 40 e 2 = .pointer (some ⟨H.size + 1, 0, none⟩) ∧ gt 40 e 3 = .pointer (some ⟨H.size + 1 + 1, 0, none⟩) ∧ H.size + 1 + 1 < H'.size ∧ Fr H H' ∧ H'.get (H.size + 1) = .rw [.slice none 0 0, .slice none 0 0, .int .i64 0] 25 false [] ∧ H'.get (H.size + 1 + 1) = .rw [v, w, .int .i64 lots] 25 false [] ∧ Gw H' (H.size + 1 + 1) S v ps.length (pkE.fl ps) 87 4 ∧ Gw H' (H.size + 1 + 1) S' w i (gdE.fl (gs.take i)) 77 2 ∧ ∀ j, S j → ¬ S' j)
  ?_ 6 gs.length ⟨0, _, _, by omega, by omega, by simp (disch:=first|(simp only [yk,seval];done)|omega|(simp only [yz]<;>omega)|fail) only [yg,seval] <;> rfl, by simp (disch:=first|(simp only [yk,seval];done)|omega|(simp only [yz]<;>omega)|fail) only [yg,seval], by simp (disch:=first|(simp only [yk,seval];done)|omega|(simp only [yz]<;>omega)|fail) only [yg,seval], by simp (disch:=first|(simp only [yk,seval];done)|omega|(simp only [yz]<;>omega)|fail) only [yg,seval,g2], by simp (disch:=first|(simp only [yk,seval];done)|omega|(simp only [yz]<;>omega)|fail) only [yg,seval,g3], hs1, fr, b2, b3, gw, Gw.none, fun j _ h => h⟩ (by omega) (by omega)
 clear b3 b2 b1 fr hs1 g1 g2 g3 gw e
 rintro M2 k e H1 ⟨i, w, S', rfl, hi, g28, g27, g26, g2, g3, hs1, fr, b2, b3, gw, gw', dj⟩
 simp (disch:=first|(simp only [yk,seval];done)|omega|(simp only [yz]<;>omega)|fail) only [↓yp,yq0,yq1,yq2,yq3,yq4,yl,ys0,ys1,seval,fitB,newC,endD,endR,yrg,g28,g27]
 refine ⟨fun hT => ?_, fun hT => ?_⟩
 ·have hlt : i < gs.length := by simpa using hT
  obtain ⟨p, hp⟩ : ∃ p, gs[i]? = some p := ⟨gs[i], by simp [hlt]⟩
  obtain ⟨b, o, c, eb, hb, hc, hqq⟩ := (hgs.fr fr).at_ hp
  have q : part c (o + i * 2) 3 = some (.agg ⟨p.enc⟩) := part_of hqq rfl
  have hw2 : w64 ((i : Int) + 1) = ((i + 1 : Nat) : Int) := by rw [w64_of (by omega)]; omega
  simp only [Gd.enc] at q
  subst eb
  simp (disch:=first|(simp only [yk,seval];done)|omega|(simp only [yz]<;>omega)|fail) only [↓yp,yq0,yq1,yq2,yq3,yq4,yl,ys0,ys1,seval,fitB,newC,endD,endR,yrg,g28,g26,g3,b3,A_indexSlice st_esS_30,hc,q,A_buildSlice st_brS_23_1]
  refine gw_append (i := i) (cs := gdE.fl (gs.take i)) (news := p.enc) st_apS_23 (gw'.fr (by repeat first|exact Fr.refl _|assumption|refine Fr.allocd ?_ _|refine Fr.put ?_ (by first|omega|(simp only [yz]<;>omega)) _)) (by first|omega|(simp only [yz]<;>omega)) (by rw [fl_length, List.length_take_of_le (by omega)]; rfl) (by unfold srcCells; simp (disch:=first|(simp only [yk,seval];done)|omega|(simp only [yz]<;>omega)|fail) only [yg,seval] <;> rfl) (by omega) (by omega) rfl (by omega) ?_
  intro a1 c1 H2 hs2 fs2 gw1
  simp only [size_alloc,size_put] at hs2 fs2
  have hcs : gdE.fl (gs.take i) ++ p.enc = gdE.fl (gs.take (i + 1)) := take_fl (E := gdE) hp
  rw [hcs] at gw1
  have old1 : ∀ q, q < H1.size → ¬ S' q → H2.get q = H1.get q := fun q h1 h2 => by
   rw [fs2 q (by omega) h2, get_alloc_lt (by first|omega|(simp only [yz]<;>omega)), get_put_ne (by omega), get_alloc_lt (by omega)]
  have old : ∀ q, q ≤ H.size + 1 + 1 → H2.get q = H1.get q := fun q h1 => old1 q (by omega) (gw'.low q h1)
  have b32 := (old _ (Nat.le_refl _)).trans b3
  simp (disch:=first|(simp only [yk,seval];done)|omega|(simp only [yz]<;>omega)|fail) only [↓yp,yq0,yq1,yq2,yq3,yq4,yl,ys0,ys1,seval,fitB,newC,endD,endR,yrg,g28,g3,b32,hw2]
  refine ⟨gs.length - (i + 1), by omega, i + 1, _, _, rfl, by omega, ?_, ?_, ?_, ?_, ?_, by (first | omega | (simp only [yz] <;> omega)), ?_, ?_, get_put_same (by omega), ?_, gw1.put (gw1.low _ (Nat.le_refl _)) _, ?_⟩
  ·simp (disch:=first|(simp only [yk,seval];done)|omega|(simp only [yz]<;>omega)|fail) only [yg,seval]
  ·simp (disch:=first|(simp only [yk,seval];done)|omega|(simp only [yz]<;>omega)|fail) only [yg,seval,g27]
  ·simp (disch:=first|(simp only [yk,seval];done)|omega|(simp only [yz]<;>omega)|fail) only [yg,seval,g26]
  ·simp (disch:=first|(simp only [yk,seval];done)|omega|(simp only [yz]<;>omega)|fail) only [yg,seval,g2]
  ·simp (disch:=first|(simp only [yk,seval];done)|omega|(simp only [yz]<;>omega)|fail) only [yg,seval,g3]
  ·exact ⟨by (first | omega | (simp only [yz] <;> omega)), fun q hq => by rw [get_put_ne (by omega), old q (by omega)]; exact fr.same q hq⟩
  ·rw [get_put_ne (by omega), old _ (by omega)]; exact b2
  ·exact (gw.same (H' := H2) (by omega) fun j hj => old1 j (gw.own j hj).2 (dj j hj)).put (gw.low _ (Nat.le_refl _)) _
  ·intro j hj h
   rcases h with h | h
   ·exact dj j hj h
   ·have := (gw.own j hj).2
    simp only [size_alloc,size_put] at h
    omega
 have hie : i = gs.length := by have := of_decide_eq_false hT; omega
 subst hie
 rw [List.take_of_length_le (Nat.le_refl _)] at gw'
 have k1 : ∃ x c, v = .slice x ps.length c ∧ (ps ≠ [] → x ≠ none) ∧ Up H.size x ∧ ∀ H2, (∀ j, S j → H2.get j = H1.get j) → H1.size ≤ H2.size → Rw pkE H2 x ps := by
  by_cases h : ps = []
  ·subst h
   exact ⟨none, 0, gw.nil rfl, fun h => absurd rfl h, Up.none, fun _ _ _ => Rw.nil⟩
  ·obtain ⟨b, al, e1, e2, e3, -⟩ := gw.cons (by simpa using h)
   exact ⟨_, _, e1, fun _ => by simp, Up.some (by have := (gw.own _ e2).1; omega), fun H2 h1 h2 => Rw.of (r := []) (Nat.lt_of_lt_of_le (gw.own _ e2).2 h2) (by rw [h1 _ e2, e3]; rfl) (by rw [List.append_nil])⟩
 have k2 : ∃ x c, w = .slice x gs.length c ∧ (gs ≠ [] → x ≠ none) ∧ Up H.size x ∧ ∀ H2, (∀ j, S' j → H2.get j = H1.get j) → H1.size ≤ H2.size → Rw gdE H2 x gs := by
  by_cases h : gs = []
  ·subst h
   exact ⟨none, 0, gw'.nil rfl, fun h => absurd rfl h, Up.none, fun _ _ _ => Rw.nil⟩
  ·obtain ⟨b, al, e1, e2, e3, -⟩ := gw'.cons (by simpa using h)
   exact ⟨_, _, e1, fun _ => by simp, Up.some (by have := (gw'.own _ e2).1; omega), fun H2 h1 h2 => Rw.of (r := []) (Nat.lt_of_lt_of_le (gw'.own _ e2).2 h2) (by rw [h1 _ e2, e3]; rfl) (by rw [List.append_nil])⟩
 obtain ⟨x, c, rfl, n1, u1, r1⟩ := k1
 obtain ⟨x', c', rfl, n2, u2, r2⟩ := k2
 have h1 : oneCells [.slice x ps.length c, .slice x' gs.length c', .int .i64 lots] = true := by cases x <;> cases x' <;> rfl
 simp (disch:=first|(simp only [yk,seval];done)|omega|(simp only [yz]<;>omega)|fail) only [↓yp,yq0,yq1,yq2,yq3,yq4,yl,ys0,ys1,seval,fitB,newC,endD,endR,yrg,g2,g3,b2,b3,h1]
 refine ⟨x, c, x', c', rfl, ?_, ?_, u1, u2, r1 _ (fun j hj => get_put_ne (fun h => gw.low j (by omega) hj)) (by first|omega|(simp only [yz]<;>omega)), r2 _ (fun j hj => get_put_ne (fun h => gw'.low j (by omega) hj)) (by first|omega|(simp only [yz]<;>omega))⟩
 ·exact fr.put (by omega) _
 ·rcases hne with h | h
  ·exact .inl (n1 h)
  ·exact .inr (n2 h)
end
end Go.Am.K
namespace Go.Am.K
open Go.Proofs
variable {T : Tab} {P : Program} {N L : Nat} {H H' H'' : AHeap} {Q : Bool → Value → AHeap → Prop}
section
variable {a a' : Option Addr} {cap cap' : Nat} {ps : List Pk} {gs : List Gd} {lots : Int}
set_option maxHeartbeats 2000000 in
theorem c14n : acall tabA (aexec tabA Try.prog (N + 200)) 14 [.agg ⟨[.slice a 0 cap, .slice a' 0 cap', .int .i64 lots]⟩] H = some (true, .agg ⟨[.slice none 0 0, .slice none 0 0, .int .i64 lots]⟩, H, H.size) := by
 refine call_quiet (k := 12) (rs := [.cell 2 25]) rfl fn_14 rfl rfl rfl ?_ rfl
 have h56 := fun (N : Nat) (H : AHeap) => c56n (N := N) (H := H) (a := a) (cap := cap)
 have h57 := fun (N : Nat) (H : AHeap) => c57n (N := N) (H := H) (a := a') (cap := cap')
 simp (disch:=first|(simp only [yk,seval];done)|omega|(simp only [yz]<;>omega)|fail) only [↓yp,yq0,yq1,yq2,yq3,yq4,yl,ys0,ys1,seval,fitB,newC,endD,endR,yrg]
 refine W_drawR (pl := []) [7, 9] [(1, 1), (1, 2), (2, 1), (2, 2), (4, 2), (5, 2)] (planK_of rfl) (by kernel_rfl) (by kernel_rfl) (by kernel_rfl) (by first|omega|(simp only [yz]<;>omega)) ?_
 simp (disch:=first|(simp only [yk,seval];done)|omega|(simp only [yz]<;>omega)|fail) only [↓yp,yq0,yq1,yq2,yq3,yq4,yl,ys0,ys1,seval,fitB,newC,endD,endR,yrg,h56,h57]
set_option maxHeartbeats 4000000 in
theorem c14 (hs : Rw pkE H a ps) (hg : Rw gdE H a' gs) (hl : ps.length ≤ 6) (hgl : gs.length ≤ 6) (hne : ps ≠ [] ∨ gs ≠ []) (hL : L ≤ H.size) {M : Nat} (hM : 200 ≤ M)
  (hq : ∀ x c x' c' H', Fr H H' → (x ≠ none ∨ x' ≠ none) → (gs = [] → x' = none ∧ c' = 0) → Up H.size x → Up H.size x' → Rw pkE H' x ps → Rw gdE H' x' gs → Q false (.agg ⟨[.slice x ps.length c, .slice x' gs.length c', .int .i64 lots]⟩) H') :
  resK (acall tabA (aexec tabA Try.prog M) 14 [.agg ⟨[.slice a ps.length cap, .slice a' gs.length cap', .int .i64 lots]⟩] H) L Q := by
 obtain ⟨N, rfl⟩ : ∃ N, M = N + 200 := ⟨M - 200, by omega⟩
 refine call_fls (R := fun v H' => ∃ x c x' c', v = .agg ⟨[.slice x ps.length c, .slice x' gs.length c', .int .i64 lots]⟩ ∧ Fr H H' ∧ (x ≠ none ∨ x' ≠ none) ∧ (gs = [] → x' = none ∧ c' = 0) ∧ Up H.size x ∧ Up H.size x' ∧ Rw pkE H' x ps ∧ Rw gdE H' x' gs) (k := 12) (rs := [.cell 2 25]) rfl fn_14 rfl rfl rfl hL ?_ ?_ ?_
 rotate_left
 ·rintro v H' ⟨x, c, x', c', rfl, -, h, -⟩; exact gr_two h
 ·rintro v H' ⟨x, c, x', c', rfl, h1, h2, h3, h4, h5, h6, h7⟩
  exact hq _ _ _ _ _ h1 h2 h3 h4 h5 h6 h7
 have h56 := fun (N : Nat) (H : AHeap) => c56n (N := N) (H := H) (a := a) (cap := cap)
 have h57 := fun (N : Nat) (H : AHeap) => c57n (N := N) (H := H) (a := a') (cap := cap')
 have fr0 : Fr H ((H.alloc (.rw [.slice a ps.length cap, .slice a' gs.length cap', .int .i64 lots] 25 false [])).alloc (.rw [.slice none 0 0, .slice none 0 0, .int .i64 0] 25 false [])) := by (repeat (first | exact Fr.refl _ | assumption | refine Fr.allocd ?_ _ | refine Fr.put ?_ (by first | omega | (simp only [yz] <;> omega)) _))
 by_cases hp1 : ps = []
 ·have hg1 : gs ≠ [] := by
   rcases hne with h | h
   ·exact absurd hp1 h
   ·exact h
  subst hp1
  simp only [List.length_nil] at fr0 ⊢
  simp (disch:=first|(simp only [yk,seval];done)|omega|(simp only [yz]<;>omega)|fail) only [↓yp,yq0,yq1,yq2,yq3,yq4,yl,ys0,ys1,seval,fitB,newC,endD,endR,yrg]
  refine W_drawR (pl := []) [5, 7, 9] [(1, 2), (1, 3), (2, 2), (2, 3), (4, 1), (4, 2), (4, 3)] (planK_of rfl) (by kernel_rfl) (by kernel_rfl) (by kernel_rfl) (by first|omega|(simp only [yz]<;>omega)) ?_
  simp (disch:=first|(simp only [yk,seval];done)|omega|(simp only [yz]<;>omega)|fail) only [↓yp,yq0,yq1,yq2,yq3,yq4,yl,ys0,ys1,seval,fitB,newC,endD,endR,yrg,h56]
  refine c57 (hg.fr fr0) hg1 (by omega) (by first|omega|(simp only [yz]<;>omega)) (by omega) ?_
  intro k' cc' H2 fr2 k1' k2' k3'
  have f2 := fr2.size
  have s2 := fr2.same
  simp only [size_alloc] at f2 s2 k1'
  simp (disch:=first|(simp only [yk,seval];done)|omega|(simp only [yz]<;>omega)|fail) only [↓yp,yq0,yq1,yq2,yq3,yq4,yl,ys0,ys1,seval,fitB,newC,endD,endR,yrg,s2,h56]
  refine ⟨none, 0, some ⟨k', 0, none⟩, cc', rfl, ?_, .inr (by simp), fun h => absurd h hg1, Up.none, Up.some (by omega), Rw.nil, ?_⟩
  ·exact Fr.put (Fr.put (Fr.put (fr0.trans fr2) (by omega) _) (by omega) _) (by omega) _
  ·refine (Rw.of (r := []) (c := gdE.fl gs) (by first|omega|(simp only [yz]<;>omega)) ?_ (by rw [List.append_nil]))
   rw [get_put_ne (by omega), get_put_ne (by omega), get_put_ne (by omega), k3']
   rfl
 by_cases hg1 : gs = []
 ·subst hg1
  simp only [List.length_nil] at fr0 ⊢
  simp (disch:=first|(simp only [yk,seval];done)|omega|(simp only [yz]<;>omega)|fail) only [↓yp,yq0,yq1,yq2,yq3,yq4,yl,ys0,ys1,seval,fitB,newC,endD,endR,yrg]
  refine W_drawR (pl := []) [2, 7, 9] [(1, 1), (1, 2), (1, 3), (4, 3), (5, 3)] (planK_of rfl) (by kernel_rfl) (by kernel_rfl) (by kernel_rfl) (by first|omega|(simp only [yz]<;>omega)) ?_
  simp (disch:=first|(simp only [yk,seval];done)|omega|(simp only [yz]<;>omega)|fail) only [↓yp,yq0,yq1,yq2,yq3,yq4,yl,ys0,ys1,seval,fitB,newC,endD,endR,yrg]
  refine c56 (hs.fr fr0) hp1 (by omega) (by first|omega|(simp only [yz]<;>omega)) (by omega) ?_
  intro k cc H1 fr1 k1 k2 k3
  have f1 := fr1.size
  have s1 := fr1.same
  simp only [size_alloc] at f1 s1 k1
  simp (disch:=first|(simp only [yk,seval];done)|omega|(simp only [yz]<;>omega)|fail) only [↓yp,yq0,yq1,yq2,yq3,yq4,yl,ys0,ys1,seval,fitB,newC,endD,endR,yrg,s1,h57]
  refine ⟨some ⟨k, 0, none⟩, cc, none, 0, rfl, ?_, .inl (by simp), fun _ => ⟨rfl, rfl⟩, Up.some (by omega), Up.none, ?_, Rw.nil⟩
  ·exact Fr.put (Fr.put (Fr.put (fr0.trans fr1) (by omega) _) (by omega) _) (by omega) _
  ·refine (Rw.of (r := []) (c := pkE.fl ps) (by first|omega|(simp only [yz]<;>omega)) ?_ (by rw [List.append_nil]))
   rw [get_put_ne (by omega), get_put_ne (by omega), get_put_ne (by omega), k3]
   rfl
 simp (disch:=first|(simp only [yk,seval];done)|omega|(simp only [yz]<;>omega)|fail) only [↓yp,yq0,yq1,yq2,yq3,yq4,yl,ys0,ys1,seval,fitB,newC,endD,endR,yrg]
 refine W_drawR (pl := []) [2, 5, 7, 9] [(1, 1), (1, 2), (1, 3), (1, 4), (4, 2), (4, 3), (4, 4)] (planK_of rfl) (by kernel_rfl) (by kernel_rfl) (by kernel_rfl) (by first|omega|(simp only [yz]<;>omega)) ?_
 simp (disch:=first|(simp only [yk,seval];done)|omega|(simp only [yz]<;>omega)|fail) only [↓yp,yq0,yq1,yq2,yq3,yq4,yl,ys0,ys1,seval,fitB,newC,endD,endR,yrg]
 refine c56 (hs.fr fr0) hp1 (by omega) (by first|omega|(simp only [yz]<;>omega)) (by omega) ?_
 intro k cc H1 fr1 k1 k2 k3
 have f1 := fr1.size
 have s1 := fr1.same
 simp only [size_alloc] at f1 s1 k1
 simp (disch:=first|(simp only [yk,seval];done)|omega|(simp only [yz]<;>omega)|fail) only [↓yp,yq0,yq1,yq2,yq3,yq4,yl,ys0,ys1,seval,fitB,newC,endD,endR,yrg,s1]
 refine c57 (hg.fr (fr0.trans fr1)) hg1 (by omega) (by first|omega|(simp only [yz]<;>omega)) (by omega) ?_
 intro k' cc' H2 fr2 k1' k2' k3'
 have f2 := fr2.size
 have s2 := fr2.same
 simp (disch:=first|(simp only [yk,seval];done)|omega|(simp only [yz]<;>omega)|fail) only [↓yp,yq0,yq1,yq2,yq3,yq4,yl,ys0,ys1,seval,fitB,newC,endD,endR,yrg,s2,s1]
 refine ⟨some ⟨k, 0, none⟩, cc, some ⟨k', 0, none⟩, cc', rfl, ?_, .inl (by simp), fun h => absurd h hg1, Up.some (by omega), Up.some (by omega), ?_, ?_⟩
 ·exact Fr.put (Fr.put (Fr.put ((fr0.trans fr1).trans fr2) (by omega) _) (by omega) _) (by omega) _
 ·refine (Rw.of (r := []) (c := pkE.fl ps) (by first|omega|(simp only [yz]<;>omega)) ?_ (by rw [List.append_nil]))
  rw [get_put_ne (by omega), get_put_ne (by omega), get_put_ne (by omega), s2 _ k2, k3]
  rfl
 ·refine (Rw.of (r := []) (c := gdE.fl gs) (by first|omega|(simp only [yz]<;>omega)) ?_ (by rw [List.append_nil]))
  rw [get_put_ne (by omega), get_put_ne (by omega), get_put_ne (by omega), k3']
  rfl
end
end Go.Am.K
namespace Go.Am.K
open Go.Proofs
variable {T : Tab} {P : Program} {N L : Nat} {H H' H'' : AHeap} {Q : Bool → Value → AHeap → Prop}
section
variable {a a' : Option Addr} {cap cap' : Nat} {ps : List Pk} {gs : List Gd} {lots n : Int}
set_option maxHeartbeats 1000000 in
theorem c19e (hs : Rw pkE H a ps) (hgs : Rw gdE H a' gs) (hl : ps.length ≤ 65) (he : askP ps gs lots n ≠ 0) :
  acall tabA (aexec tabA Try.prog (N + 600)) 19 [.agg ⟨[.slice a ps.length cap, .slice a' gs.length cap', .int .i64 lots]⟩, .int .i64 n] H = some (true, .tuple ⟨[.agg ⟨[.int .i64 0, .int .i64 0]⟩, .int .i64 (askP ps gs lots n)]⟩, H, H.size) := by
 refine call_quiet (k := 37) (rs := [.cell 4 38, .tmp 5]) rfl fn_19 rfl rfl rfl ?_ rfl
 have fr : Fr H ((H.alloc (.rw [.slice a ps.length cap, .slice a' gs.length cap', .int .i64 lots] 32 false [])).alloc (.rw [.int .i64 0, .int .i64 0] 38 false [])) := by (repeat (first | exact Fr.refl _ | assumption | refine Fr.allocd ?_ _ | refine Fr.put ?_ (by first | omega | (simp only [yz] <;> omega)) _))
 have h17 := fun (N : Nat) => c17 (N := N) (cap := cap) (cap' := cap') (lots := lots) (hs.fr fr) (hgs.fr fr)
 have h67 := fun (N : Nat) (H : AHeap) (n lo hi : Int) => c67 (N := N) (H := H) (n := n) (lo := lo) (hi := hi)
 simp only [off_wi] at h67
 have w1 : w64 ((ps.length : Int) - 1) = (ps.length : Int) - 1 := w64_of (by omega)
 unfold askP at he ⊢
 cases hA : decide (chkS ps gs lots = 0)
 ·simp (disch:=first|(simp only [yk,seval];done)|omega|(simp only [yz]<;>omega)|fail) only [↓yp,yq0,yq1,yq2,yq3,yq4,yl,ys0,ys1,seval,fitB,newC,endD,endR,yrg,h17,hA,A_build st_bdS_38]
 ·rw [hA, cond_true] at he
  cases hB : wi n 0 ((ps.length : Int) - 1)
  ·simp (disch:=first|(simp only [yk,seval];done)|omega|(simp only [yz]<;>omega)|fail) only [↓yp,yq0,yq1,yq2,yq3,yq4,yl,ys0,ys1,seval,fitB,newC,endD,endR,yrg,h17,hA,lenV_slice st_esS_29,h67,w1,hB,A_build st_bdS_38]
  ·rw [hB] at he; exact absurd rfl he
set_option maxHeartbeats 1000000 in
theorem c19 {i : Nat} {p : Pk} (hs : Rw pkE H a ps) (hgs : Rw gdE H a' gs) (hl : ps.length ≤ 65) (he : askP ps gs lots i = 0) (hp : ps[i]? = some p) (hok : p.Ok) (hsp : p.f ≤ p.hi) :
  acall tabA (aexec tabA Try.prog (N + 600)) 19 [.agg ⟨[.slice a ps.length cap, .slice a' gs.length cap', .int .i64 lots]⟩, .int .i64 (i : Nat)] H = some (true, .tuple ⟨[.agg ⟨[.int .i64 p.f, .int .i64 p.hi]⟩, .int .i64 0]⟩, H, H.size) := by
 refine call_quiet (k := 37) (rs := [.cell 4 38, .tmp 5]) rfl fn_19 rfl rfl rfl ?_ rfl
 have fr : Fr H ((H.alloc (.rw [.slice a ps.length cap, .slice a' gs.length cap', .int .i64 lots] 32 false [])).alloc (.rw [.int .i64 0, .int .i64 0] 38 false [])) := by (repeat (first | exact Fr.refl _ | assumption | refine Fr.allocd ?_ _ | refine Fr.put ?_ (by first | omega | (simp only [yz] <;> omega)) _))
 have h17 := fun (N : Nat) => c17 (N := N) (cap := cap) (cap' := cap') (lots := lots) (hs.fr fr) (hgs.fr fr)
 have h67 := fun (N : Nat) (H : AHeap) (n lo hi : Int) => c67 (N := N) (H := H) (n := n) (lo := lo) (hi := hi)
 simp only [off_wi] at h67
 have w1 : w64 ((ps.length : Int) - 1) = (ps.length : Int) - 1 := w64_of (by omega)
 have hi := (List.getElem?_eq_some_iff.1 hp).1
 obtain ⟨b, o, c, rfl, hb, hc, hq⟩ := hs.at_ hp
 have q : part c (o + i * 4) 5 = some (.agg ⟨p.enc⟩) := part_of hq rfl
 simp only [Pk.enc] at q
 unfold askP at he
 cases hA : decide (chkS ps gs lots = 0)
 ·rw [hA] at he; exact absurd he (of_decide_eq_false hA)
 rw [hA, cond_true] at he
 cases hB : wi (i : Int) 0 ((ps.length : Int) - 1)
 ·rw [hB] at he; cases he
 have hB' := hB
 simp (disch:=first|(simp only [yk,seval];done)|omega|(simp only [yz]<;>omega)|fail) only [↓yp,yq0,yq1,yq2,yq3,yq4,yl,ys0,ys1,seval,fitB,newC,endD,endR,yrg,h17,hA,lenV_slice st_esS_29,h67,w1,hB,A_indexSlice st_esS_29,hc,q]
 obtain ⟨z1, z2, z3, z4⟩ := hok
 have hh : p.hi ≤ p.w := by unfold Pk.hi; split <;> omega
 have h68 : ∀ {H : AHeap} {L M : Nat} {Q : Bool → Value → AHeap → Prop}, L ≤ H.size → 150 ≤ M → (∀ b c H', Fr H H' → H.size < b → Rw intE H' (some ⟨b, 0, none⟩) (rng p.f (p.hi + 1 - p.f).toNat) → Q false (.slice (some ⟨b, 0, none⟩) (p.hi + 1 - p.f).toNat c) H') → resK (acall tabA (aexec tabA Try.prog M) 68 [.agg ⟨[.int .i64 p.s, .int .i64 p.w, .int .i64 p.o, .int .i64 p.f]⟩] H) L Q := fun h1 h2 h3 => c68 (p := p) ⟨z1, z2, z3, z4⟩ hsp h1 h2 h3
 refine h68 (by first|omega|(simp only [yz]<;>omega)) (by omega) ?_
 intro b2 c2 H2 fr2 hb2 r2
 simp only [size_alloc] at hb2
 have f2 := fr2.size
 have s2 := fr2.same
 simp only [size_alloc] at f2 s2
 have b4 : H2.get (H.size + 1) = .rw [.int .i64 0, .int .i64 0] 38 false [] := by rw [s2 _ (by omega)]; simp (disch:=first|(simp only [yk,seval];done)|omega|(simp only [yz]<;>omega)|fail) only [yg,seval]
 obtain ⟨m, hm⟩ : ∃ m : Nat, (p.hi + 1 - p.f).toNat = m + 1 := ⟨(p.hi - p.f).toNat, by omega⟩
 rw [hm] at r2 ⊢
 have w2 : w64 (((m + 1 : Nat) : Int) - 1) = (m : Int) := by rw [w64_of (by omega)]; omega
 obtain ⟨b', o', c', e1, hb', hc', hq'⟩ := r2.at_ (rng_at (f := p.f) (n := m + 1) (i := 0) (by omega))
 cases e1
 obtain ⟨b3, o3, c3, e3, -, hc3, hq3⟩ := r2.at_ (rng_at (f := p.f) (n := m + 1) (i := m) (by omega))
 cases e3
 rw [hc'] at hc3
 cases hc3
 have q0 := cell_of hq'
 have q1 := cell_of hq3
 rw [show 0 * intE.z = 0 from rfl, Nat.add_zero] at q0
 rw [show m * intE.z = m * 1 from rfl, Nat.mul_one, Nat.zero_add] at q1
 have e5 : p.f + (m : Int) = p.hi := by omega
 have e6 : p.f + ((0 : Nat) : Int) = p.f := by omega
 rw [e6] at q0
 rw [e5] at q1
 simp (disch:=first|(simp only [yk,seval];done)|omega|(simp only [yz]<;>omega)|fail) only [↓yp,yq0,yq1,yq2,yq3,yq4,yl,ys0,ys1,seval,fitB,newC,endD,endR,yrg]
 refine W_draw [10] rfl (by kernel_rfl) (by kernel_rfl) (by first|omega|(simp only [yz]<;>omega)) ?_
 simp (disch:=first|(simp only [yk,seval];done)|omega|(simp only [yz]<;>omega)|fail) only [↓yp,yq0,yq1,yq2,yq3,yq4,yl,ys0,ys1,seval,fitB,newC,endD,endR,yrg,A_indexSlice st_esS_49,hc',q0,q1,lenV_slice st_esS_49,w2,A_build st_bdS_38,b4]
end
end Go.Am.K
