import Derived.Test.YtehkjjgpgnejnaaT37
set_option linter.unusedSimpArgs false
set_option linter.unusedVariables false
namespace Go.Am.K
open Go.Proofs
variable {T : Tab} {P : Program} {N L : Nat} {H H' H'' : AHeap} {Q : Bool → Value → AHeap → Prop}
def rng (f : Int) (n : Nat) : List Int := (List.range n).map fun i => f + (i : Nat)
theorem rng_len {f : Int} {n : Nat} : (rng f n).length = n := by unfold rng; rw [List.length_map, List.length_range]
theorem rng_succ {f : Int} {n : Nat} : rng f (n + 1) = rng f n ++ [f + (n : Nat)] := by unfold rng; rw [List.range_succ, List.map_append]; rfl
section
variable {p : Pk}
set_option maxHeartbeats 1000000 in
theorem c68e (hp : p.Ok) (he : p.hi < p.f) : acall tabA (aexec tabA Try.prog (N + 150)) 68 [.agg ⟨p.enc⟩] H = some (true, .slice none 0 0, H, H.size) := by
 refine call_quiet (k := 28) (rs := [.tmp 2]) rfl fn_68 rfl rfl rfl ?_ rfl
 obtain ⟨h1, h2, h3, h4⟩ := hp
 have hh : p.s - p.o + p.f < p.f ∨ p.w < p.f := by unfold Pk.hi at he; split at he <;> omega
 have w1 : w64 (p.o - p.f) = p.o - p.f := w64_of (by omega)
 have w2 : w64 (p.s - (p.o - p.f)) = p.s - (p.o - p.f) := w64_of (by omega)
 simp (disch:=first|(simp only [yk,seval];done)|omega|(simp only [yz]<;>omega)|fail) only [↓yp,yq0,yq1,yq2,yq3,yq4,yl,ys0,ys1,seval,fitB,newC,endD,endR,yrg,Pk.enc]
 refine W_while (n := 28) 70 (fun k e H' => ∃ n : Int, k = (p.w + 1 - n).toNat ∧ p.f ≤ n ∧ gt 28 e 4 = .int .i64 n ∧ gt 28 e 3 = .slice none 0 0 ∧ gt 28 e 1 = .pointer (some ⟨H.size, 0, none⟩) ∧ H' = H.alloc (.rw [.int .i64 p.s, .int .i64 p.w, .int .i64 p.o, .int .i64 p.f] 101 false []))
  ?_ 8 (p.w + 1 - p.f).toNat ⟨p.f, rfl, by omega, by simp (disch:=first|(simp only [yk,seval];done)|omega|(simp only [yz]<;>omega)|fail) only [yg,seval], by simp (disch:=first|(simp only [yk,seval];done)|omega|(simp only [yz]<;>omega)|fail) only [yg,seval], by simp (disch:=first|(simp only [yk,seval];done)|omega|(simp only [yz]<;>omega)|fail) only [yg,seval], rfl⟩ (by omega) (by omega)
 rintro M k e H' ⟨n, rfl, hn, g4, g3, g1, rfl⟩
 simp (disch:=first|(simp only [yk,seval];done)|omega|(simp only [yz]<;>omega)|fail) only [↓yp,yq0,yq1,yq2,yq3,yq4,yl,ys0,ys1,seval,fitB,newC,endD,endR,yrg,g4,g3,g1]
 refine ⟨fun hA => ?_, fun hA => ?_⟩
 ·have hA' := of_decide_eq_true hA
  have hB : decide (n ≤ p.s - (p.o - p.f)) = false := by simp; omega
  have w3 : w64 (n + 1) = n + 1 := w64_of (by omega)
  simp (disch:=first|(simp only [yk,seval];done)|omega|(simp only [yz]<;>omega)|fail) only [↓yp,yq0,yq1,yq2,yq3,yq4,yl,ys0,ys1,seval,fitB,newC,endD,endR,yrg,g4,g3,g1,w1,w2,w3,hB]
  refine ⟨(p.w + 1 - (n + 1)).toNat, by omega, n + 1, rfl, by omega, ?_, ?_, ?_, rfl⟩
  ·simp (disch:=first|(simp only [yk,seval];done)|omega|(simp only [yz]<;>omega)|fail) only [yg,seval]
  ·simp (disch:=first|(simp only [yk,seval];done)|omega|(simp only [yz]<;>omega)|fail) only [yg,seval,g3]
  ·simp (disch:=first|(simp only [yk,seval];done)|omega|(simp only [yz]<;>omega)|fail) only [yg,seval,g1]
 ·simp (disch:=first|(simp only [yk,seval];done)|omega|(simp only [yz]<;>omega)|fail) only [↓yp,yq0,yq1,yq2,yq3,yq4,yl,ys0,ys1,seval,fitB,newC,endD,endR,yrg,g3]
set_option maxHeartbeats 1000000 in
theorem c68 (hp : p.Ok) (he : p.f ≤ p.hi) (hL : L ≤ H.size) {M : Nat} (hM : 150 ≤ M)
  (hq : ∀ b c H', Fr H H' → H.size < b → Rw intE H' (some ⟨b, 0, none⟩) (rng p.f (p.hi + 1 - p.f).toNat) → Q false (.slice (some ⟨b, 0, none⟩) (p.hi + 1 - p.f).toNat c) H') : resK (acall tabA (aexec tabA Try.prog M) 68 [.agg ⟨p.enc⟩] H) L Q := by
 obtain ⟨N, rfl⟩ : ∃ N, M = N + 150 := ⟨M - 150, by omega⟩
 refine call_fls (R := fun v H' => ∃ b c, v = .slice (some ⟨b, 0, none⟩) (p.hi + 1 - p.f).toNat c ∧ Fr H H' ∧ H.size < b ∧ Rw intE H' (some ⟨b, 0, none⟩) (rng p.f (p.hi + 1 - p.f).toNat)) (k := 28) (rs := [.tmp 2]) rfl fn_68 rfl rfl rfl hL ?_ ?_ ?_
 rotate_left
 ·rintro v H' ⟨k, c, rfl, -⟩; rfl
 ·rintro v H' ⟨k, c, rfl, h1, h2, h3⟩
  exact hq _ _ _ h1 h2 h3
 obtain ⟨h1, h2, h3, h4⟩ := hp
 obtain ⟨hi, hhi⟩ : ∃ hi, p.hi = hi := ⟨_, rfl⟩
 rw [hhi] at he ⊢
 have hh : hi ≤ p.w ∧ hi ≤ p.s - p.o + p.f ∧ (hi = p.w ∨ hi = p.s - p.o + p.f) := by rw [← hhi]; unfold Pk.hi; split <;> omega
 have w1 : w64 (p.o - p.f) = p.o - p.f := w64_of (by omega)
 have w2 : w64 (p.s - (p.o - p.f)) = p.s - (p.o - p.f) := w64_of (by omega)
 simp (disch:=first|(simp only [yk,seval];done)|omega|(simp only [yz]<;>omega)|fail) only [↓yp,yq0,yq1,yq2,yq3,yq4,yl,ys0,ys1,seval,fitB,newC,endD,endR,yrg,Pk.enc]
 refine W_while (n := 28) 70 (fun k e H' => ∃ (n : Int) (i : Nat) (v : Value) (S : Nat → Prop), k = (p.w + 1 - n).toNat ∧ p.f ≤ n ∧ n ≤ p.w + 1 ∧ (((i : Nat) : Int) = n - p.f ∧ n ≤ hi + 1 ∨ ((i : Nat) : Int) = hi + 1 - p.f ∧ hi + 1 ≤ n) ∧ gt 28 e 4 = .int .i64 n ∧ gt 28 e 3 = v ∧ gt 28 e 1 = .pointer (some ⟨H.size, 0, none⟩) ∧ Gw H' H.size S v i (intE.fl (rng p.f i)) 3 1 ∧ Fr (H.alloc (.rw [.int .i64 p.s, .int .i64 p.w, .int .i64 p.o, .int .i64 p.f] 101 false [])) H')
  ?_ 8 (p.w + 1 - p.f).toNat ⟨p.f, 0, _, _, rfl, by omega, by omega, .inl ⟨by omega, by omega⟩, by simp (disch:=first|(simp only [yk,seval];done)|omega|(simp only [yz]<;>omega)|fail) only [yg,seval], by simp (disch:=first|(simp only [yk,seval];done)|omega|(simp only [yz]<;>omega)|fail) only [yg,seval], by simp (disch:=first|(simp only [yk,seval];done)|omega|(simp only [yz]<;>omega)|fail) only [yg,seval], Gw.none, Fr.refl _⟩ (by omega) (by omega)
 rintro M k e H' ⟨n, i, v, S, rfl, hn, hn2, hi', g4, g3, g1, gw, fr⟩
 have f0 := fr.size
 simp only [size_alloc] at f0
 have b1 : H'.get H.size = .rw [.int .i64 p.s, .int .i64 p.w, .int .i64 p.o, .int .i64 p.f] 101 false [] := by rw [fr.same _ (by first|omega|(simp only [yz]<;>omega))]; exact get_alloc_same
 simp (disch:=first|(simp only [yk,seval];done)|omega|(simp only [yz]<;>omega)|fail) only [↓yp,yq0,yq1,yq2,yq3,yq4,yl,ys0,ys1,seval,fitB,newC,endD,endR,yrg,g4,g3,g1,b1]
 refine ⟨fun hA => ?_, fun hA => ?_⟩
 ·have hA' := of_decide_eq_true hA
  have w3 : w64 (n + 1) = n + 1 := w64_of (by omega)
  simp (disch:=first|(simp only [yk,seval];done)|omega|(simp only [yz]<;>omega)|fail) only [↓yp,yq0,yq1,yq2,yq3,yq4,yl,ys0,ys1,seval,fitB,newC,endD,endR,yrg,g4,g3,g1,b1,w1,w2,w3]
  refine ⟨fun hB => ?_, fun hB => ?_⟩
  ·have hB' := of_decide_eq_true hB
   have ei : n = p.f + (i : Nat) := by omega
   simp (disch:=first|(simp only [yk,seval];done)|omega|(simp only [yz]<;>omega)|fail) only [↓yp,yq0,yq1,yq2,yq3,yq4,yl,ys0,ys1,seval,fitB,newC,endD,endR,yrg,g4,g3,g1,b1,A_buildSlice st_brS_49_1]
   refine gw_append (i := i) (cs := intE.fl (rng p.f i)) (news := [.int .i64 n]) st_apS_49 (gw.fr (by repeat first|exact Fr.refl _|assumption|refine Fr.allocd ?_ _|refine Fr.put ?_ (by first|omega|(simp only [yz]<;>omega)) _)) (by first|omega|(simp only [yz]<;>omega)) (by rw [fl_length, rng_len]; rfl) (by unfold srcCells; simp (disch:=first|(simp only [yk,seval];done)|omega|(simp only [yz]<;>omega)|fail) only [yg,seval] <;> rfl) (by omega) (by omega) rfl (by omega) ?_
   intro a1 c1 H2 hs2 fs2 gw1
   simp only [size_alloc] at hs2 fs2
   have old2 : ∀ q, q ≤ H.size → H2.get q = H'.get q := fun q h1 => by
    rw [fs2 q (by omega) (fun h => by have := (gw.own q h).1; omega), get_alloc_lt (by omega)]
   simp (disch:=first|(simp only [yk,seval];done)|omega|(simp only [yz]<;>omega)|fail) only [↓yp,yq0,yq1,yq2,yq3,yq4,yl,ys0,ys1,seval,fitB,newC,endD,endR,yrg,g4,w3]
   have hcs : intE.fl (rng p.f i) ++ [.int .i64 n] = intE.fl (rng p.f (i + 1)) := by rw [rng_succ, fl_app, ← ei]; rfl
   rw [hcs] at gw1
   refine ⟨(p.w + 1 - (n + 1)).toNat, by omega, n + 1, i + 1, _, _, rfl, by omega, by omega, by omega, ?_, ?_, ?_, gw1, ?_⟩
   rotate_right 1
   ·exact ⟨by (first | omega | (simp only [yz] <;> omega)), fun q hq => by simp only [size_alloc] at hq; rw [old2 q (by omega)]; exact fr.same q (by first|omega|(simp only [yz]<;>omega))⟩
   ·simp (disch:=first|(simp only [yk,seval];done)|omega|(simp only [yz]<;>omega)|fail) only [yg,seval]
   ·simp (disch:=first|(simp only [yk,seval];done)|omega|(simp only [yz]<;>omega)|fail) only [yg,seval]
   ·simp (disch:=first|(simp only [yk,seval];done)|omega|(simp only [yz]<;>omega)|fail) only [yg,seval,g1]
  ·have hB' := of_decide_eq_false hB
   simp (disch:=first|(simp only [yk,seval];done)|omega|(simp only [yz]<;>omega)|fail) only [↓yp,yq0,yq1,yq2,yq3,yq4,yl,ys0,ys1,seval,fitB,newC,endD,endR,yrg,g4,w3]
   refine ⟨(p.w + 1 - (n + 1)).toNat, by omega, n + 1, i, v, S, rfl, by omega, by omega, by omega, ?_, ?_, ?_, gw, fr⟩
   ·simp (disch:=first|(simp only [yk,seval];done)|omega|(simp only [yz]<;>omega)|fail) only [yg,seval]
   ·simp (disch:=first|(simp only [yk,seval];done)|omega|(simp only [yz]<;>omega)|fail) only [yg,seval,g3]
   ·simp (disch:=first|(simp only [yk,seval];done)|omega|(simp only [yz]<;>omega)|fail) only [yg,seval,g1]
 ·have hA' := of_decide_eq_false hA
  have ei : i = (hi + 1 - p.f).toNat := by omega
  obtain ⟨b, al, rfl, e2, e3, -⟩ := gw.cons (by omega)
  subst ei
  simp (disch:=first|(simp only [yk,seval];done)|omega|(simp only [yz]<;>omega)|fail) only [↓yp,yq0,yq1,yq2,yq3,yq4,yl,ys0,ys1,seval,fitB,newC,endD,endR,yrg,g3]
  exact ⟨b, _, rfl, (Fr.alloc _ _).trans fr, (gw.own _ e2).1, Rw.of (r := []) (gw.own _ e2).2 (by rw [e3]; rfl) (by rw [List.append_nil])⟩
end
end Go.Am.K
namespace Go.Am.K
open Go.Proofs
variable {T : Tab} {P : Program} {N L : Nat} {H H' H'' : AHeap} {Q : Bool → Value → AHeap → Prop}
theorem off_wi {n lo hi : Int} : off n lo hi = !wi n lo hi := by
 unfold wi off
 rw [Bool.not_and, ← decide_not, ← decide_not]
 simp only [Int.not_le]
section
variable {a a' : Option Addr} {cap cap' : Nat} {ps : List Pk} {gs : List Gd} {lots : Int}
set_option maxHeartbeats 4000000 in
theorem c17 (hs : Rw pkE H a ps) (hgs : Rw gdE H a' gs) :
  acall tabA (aexec tabA Try.prog (N + 500)) 17 [.agg ⟨[.slice a ps.length cap, .slice a' gs.length cap', .int .i64 lots]⟩] H = some (true, .int .i64 (chkS ps gs lots), H, H.size) := by
 refine call_quiet (k := 132) (rs := [.tmp 2]) rfl fn_17 rfl rfl rfl ?_ rfl
 have h67 := fun (N : Nat) (H : AHeap) (n lo hi : Int) => c67 (N := N) (H := H) (n := n) (lo := lo) (hi := hi)
 simp only [off_wi] at h67
 cases hA : wi (ps.length : Int) 1 4
 ·have e : chkS ps gs lots = 3 := by unfold chkS chk1; rw [hA]; rfl
  rw [e]
  simp (disch:=first|(simp only [yk,seval];done)|omega|(simp only [yz]<;>omega)|fail) only [↓yp,yq0,yq1,yq2,yq3,yq4,yl,ys0,ys1,seval,fitB,newC,endD,endR,yrg,lenV_slice st_esS_29,lenV_slice st_esS_30,h67,hA]
 cases hB : decide (4 < (gs.length : Int))
 rotate_left
 ·have e : chkS ps gs lots = 3 := by unfold chkS chk1; rw [hA, hB]; rfl
  rw [e]
  simp (disch:=first|(simp only [yk,seval];done)|omega|(simp only [yz]<;>omega)|fail) only [↓yp,yq0,yq1,yq2,yq3,yq4,yl,ys0,ys1,seval,fitB,newC,endD,endR,yrg,lenV_slice st_esS_29,lenV_slice st_esS_30,h67,hA,hB]
 have hl : ps.length ≤ 4 := by unfold wi at hA; simp at hA; omega
 have hgl : gs.length ≤ 4 := by simp at hB; omega
 have e0 : chkS ps gs lots = bif chk2 ps gs lots then 4 else bif ordB gs then bif ps.all fun p => !decide (p.hi < p.f) then 0 else 7 else 6 := by unfold chkS chk1; rw [hA, hB]; rfl
 rw [e0]
 simp (disch:=first|(simp only [yk,seval];done)|omega|(simp only [yz]<;>omega)|fail) only [↓yp,yq0,yq1,yq2,yq3,yq4,yl,ys0,ys1,seval,fitB,newC,endD,endR,yrg,lenV_slice st_esS_29,lenV_slice st_esS_30,h67,hA,hB]
 -- the pickings
 refine W_while (n := 132) 100 (fun k e H' => ∃ i : Nat, k = ps.length - i ∧ i ≤ ps.length ∧ gt 132 e 3 = .int .i64 (i : Nat) ∧ gt 132 e 1 = .pointer (some ⟨H.size, 0, none⟩) ∧ Fr (H.alloc (.rw [.slice a ps.length cap, .slice a' gs.length cap', .int .i64 lots] 32 false [])) H' ∧ ∀ j p, j < i → ps[j]? = some p → p.isB = true)
  ?_ 4 ps.length ⟨0, by omega, by omega, by simp (disch:=first|(simp only [yk,seval];done)|omega|(simp only [yz]<;>omega)|fail) only [yg,seval] <;> rfl, by simp (disch:=first|(simp only [yk,seval];done)|omega|(simp only [yz]<;>omega)|fail) only [yg,seval], Fr.refl _, fun j p hj => by omega⟩ (by omega) (by omega)
 rintro M k e H1 ⟨i, rfl, hi, g3, g1, fr, hj⟩
 have f0 := fr.size
 simp only [size_alloc] at f0
 have b1 : H1.get H.size = .rw [.slice a ps.length cap, .slice a' gs.length cap', .int .i64 lots] 32 false [] := by rw [fr.same _ (by first|omega|(simp only [yz]<;>omega))]; exact get_alloc_same
 simp (disch:=first|(simp only [yk,seval];done)|omega|(simp only [yz]<;>omega)|fail) only [↓yp,yq0,yq1,yq2,yq3,yq4,yl,ys0,ys1,seval,fitB,newC,endD,endR,yrg,g3,g1,b1,lenV_slice st_esS_29]
 refine ⟨fun hT => ?_, fun hT => ?_⟩
 ·have hlt : i < ps.length := by simpa using hT
  obtain ⟨p, hp⟩ : ∃ p, ps[i]? = some p := ⟨ps[i], by simp [hlt]⟩
  obtain ⟨b, o, c, eb, hb, hc, hq⟩ := (hs.fr ((Fr.alloc _ _).trans fr)).at_ hp
  have q : part c (o + i * 4) 5 = some (.agg ⟨p.enc⟩) := part_of hq rfl
  simp only [Pk.enc] at q
  have hw2 : w64 ((i : Int) + 1) = ((i + 1 : Nat) : Int) := by rw [w64_of (by omega)]; omega
  have no : p.isB = false → chk2 ps gs lots = true := fun h => by
   have : ps.all Pk.isB = false := by rw [List.all_eq_false]; exact ⟨p, List.mem_of_getElem? hp, by rw [h]; simp⟩
   unfold chk2; rw [this]; rfl
  subst eb
  simp (disch:=first|(simp only [yk,seval];done)|omega|(simp only [yz]<;>omega)|fail) only [↓yp,yq0,yq1,yq2,yq3,yq4,yl,ys0,ys1,seval,fitB,newC,endD,endR,yrg,g3,g1,b1,A_indexSlice st_esS_29,hc,q]
  cases h1 : wi p.s 0 6
  ·have e : chk2 ps gs lots = true := no (by unfold Pk.isB; rw [h1]; rfl)
   simp (disch:=first|(simp only [yk,seval];done)|omega|(simp only [yz]<;>omega)|fail) only [↓yp,yq0,yq1,yq2,yq3,yq4,yl,ys0,ys1,seval,fitB,newC,endD,endR,yrg,h67,h1,e]
  cases h2 : wi p.w 0 p.s
  ·have e : chk2 ps gs lots = true := no (by unfold Pk.isB; rw [h1, h2]; rfl)
   simp (disch:=first|(simp only [yk,seval];done)|omega|(simp only [yz]<;>omega)|fail) only [↓yp,yq0,yq1,yq2,yq3,yq4,yl,ys0,ys1,seval,fitB,newC,endD,endR,yrg,h67,h1,h2,e]
  cases h3 : wi p.o 0 p.s
  ·have e : chk2 ps gs lots = true := no (by unfold Pk.isB; rw [h1, h2, h3]; rfl)
   simp (disch:=first|(simp only [yk,seval];done)|omega|(simp only [yz]<;>omega)|fail) only [↓yp,yq0,yq1,yq2,yq3,yq4,yl,ys0,ys1,seval,fitB,newC,endD,endR,yrg,h67,h1,h2,h3,e]
  cases h4 : wi p.f 0 p.o
  ·have e : chk2 ps gs lots = true := no (by unfold Pk.isB; rw [h1, h2, h3, h4]; rfl)
   simp (disch:=first|(simp only [yk,seval];done)|omega|(simp only [yz]<;>omega)|fail) only [↓yp,yq0,yq1,yq2,yq3,yq4,yl,ys0,ys1,seval,fitB,newC,endD,endR,yrg,h67,h1,h2,h3,h4,e]
  simp (disch:=first|(simp only [yk,seval];done)|omega|(simp only [yz]<;>omega)|fail) only [↓yp,yq0,yq1,yq2,yq3,yq4,yl,ys0,ys1,seval,fitB,newC,endD,endR,yrg,h67,h1,h2,h3,h4,g3,hw2]
  refine ⟨ps.length - (i + 1), by omega, i + 1, rfl, by omega, ?_, ?_, by (repeat (first | exact Fr.refl _ | assumption | refine Fr.allocd ?_ _ | refine Fr.put ?_ (by first | omega | (simp only [yz] <;> omega)) _)), ?_⟩
  ·simp (disch:=first|(simp only [yk,seval];done)|omega|(simp only [yz]<;>omega)|fail) only [yg,seval]
  ·simp (disch:=first|(simp only [yk,seval];done)|omega|(simp only [yz]<;>omega)|fail) only [yg,seval,g1]
  ·intro j t hj' ht
   by_cases e : j = i
   ·subst e; rw [hp] at ht; cases ht; unfold Pk.isB; rw [h1, h2, h3, h4]; rfl
   ·exact hj j t (by omega) ht
 have hie : i = ps.length := by have := of_decide_eq_false hT; omega
 subst hie
 have hC : ps.all Pk.isB = true := by
  rw [List.all_eq_true]
  intro s hs'
  obtain ⟨j, hj'⟩ := List.getElem?_of_mem hs'
  exact hj j s (List.getElem?_eq_some_iff.1 hj').1 hj'
 clear hj hi hT g3
 -- the grades
 simp (disch:=first|(simp only [yk,seval];done)|omega|(simp only [yz]<;>omega)|fail) only [↓yp,yq0,yq1,yq2,yq3,yq4,yl,ys0,ys1,seval,fitB,newC,endD,endR,yrg]
 refine W_while (n := 132) 100 (fun k e H' => ∃ i : Nat, k = gs.length - i ∧ i ≤ gs.length ∧ gt 132 e 5 = .int .i64 (i : Nat) ∧ gt 132 e 1 = .pointer (some ⟨H.size, 0, none⟩) ∧ H' = H1 ∧ ∀ j p, j < i → gs[j]? = some p → p.isB = true)
  ?_ 4 gs.length ⟨0, by omega, by omega, by simp (disch:=first|(simp only [yk,seval];done)|omega|(simp only [yz]<;>omega)|fail) only [yg,seval] <;> rfl, by simp (disch:=first|(simp only [yk,seval];done)|omega|(simp only [yz]<;>omega)|fail) only [yg,seval,g1], rfl, fun j p hj => by omega⟩ (by omega) (by omega)
 clear g1 e
 rintro M2 k e H1 ⟨i, rfl, hi, g5, g1, rfl, hj⟩
 simp (disch:=first|(simp only [yk,seval];done)|omega|(simp only [yz]<;>omega)|fail) only [↓yp,yq0,yq1,yq2,yq3,yq4,yl,ys0,ys1,seval,fitB,newC,endD,endR,yrg,g5,g1,b1,lenV_slice st_esS_30]
 refine ⟨fun hT => ?_, fun hT => ?_⟩
 ·have hlt : i < gs.length := by simpa using hT
  obtain ⟨g, hg⟩ : ∃ g, gs[i]? = some g := ⟨gs[i], by simp [hlt]⟩
  obtain ⟨b, o, c, eb, hb, hc, hq⟩ := (hgs.fr ((Fr.alloc _ _).trans fr)).at_ hg
  obtain ⟨x0, x1⟩ := two_cells (u := .int .i64 g.fo) (v := .int .i64 g.pr) hq
  rw [show gdE.z = 2 from rfl] at x0 x1
  have hw2 : w64 ((i : Int) + 1) = ((i + 1 : Nat) : Int) := by rw [w64_of (by omega)]; omega
  have no : g.isB = false → chk2 ps gs lots = true := fun h => by
   have : gs.all Gd.isB = false := by rw [List.all_eq_false]; exact ⟨g, List.mem_of_getElem? hg, by rw [h]; simp⟩
   unfold chk2; rw [this, hC]; rfl
  subst eb
  simp (disch:=first|(simp only [yk,seval];done)|omega|(simp only [yz]<;>omega)|fail) only [↓yp,yq0,yq1,yq2,yq3,yq4,yl,ys0,ys1,seval,fitB,newC,endD,endR,yrg,g5,g1,b1,A_indexSlice st_esS_30,hc,x0]
  cases h1 : wi g.fo 0 100
  ·have e : chk2 ps gs lots = true := no (by unfold Gd.isB; rw [h1]; rfl)
   simp (disch:=first|(simp only [yk,seval];done)|omega|(simp only [yz]<;>omega)|fail) only [↓yp,yq0,yq1,yq2,yq3,yq4,yl,ys0,ys1,seval,fitB,newC,endD,endR,yrg,h67,h1,e]
  simp (disch:=first|(simp only [yk,seval];done)|omega|(simp only [yz]<;>omega)|fail) only [↓yp,yq0,yq1,yq2,yq3,yq4,yl,ys0,ys1,seval,fitB,newC,endD,endR,yrg,h67,h1,g5,g1,b1,A_indexSlice st_esS_30,hc,x1]
  cases h2 : wi g.pr 1 100
  ·have e : chk2 ps gs lots = true := no (by unfold Gd.isB; rw [h1, h2]; rfl)
   simp (disch:=first|(simp only [yk,seval];done)|omega|(simp only [yz]<;>omega)|fail) only [↓yp,yq0,yq1,yq2,yq3,yq4,yl,ys0,ys1,seval,fitB,newC,endD,endR,yrg,h67,h1,h2,e]
  simp (disch:=first|(simp only [yk,seval];done)|omega|(simp only [yz]<;>omega)|fail) only [↓yp,yq0,yq1,yq2,yq3,yq4,yl,ys0,ys1,seval,fitB,newC,endD,endR,yrg,h67,h1,h2,g5,hw2]
  refine ⟨gs.length - (i + 1), by omega, i + 1, rfl, by omega, ?_, ?_, rfl, ?_⟩
  ·simp (disch:=first|(simp only [yk,seval];done)|omega|(simp only [yz]<;>omega)|fail) only [yg,seval]
  ·simp (disch:=first|(simp only [yk,seval];done)|omega|(simp only [yz]<;>omega)|fail) only [yg,seval,g1]
  ·intro j t hj' ht
   by_cases e : j = i
   ·subst e; rw [hg] at ht; cases ht; unfold Gd.isB; rw [h1, h2]; rfl
   ·exact hj j t (by omega) ht
 have hie : i = gs.length := by have := of_decide_eq_false hT; omega
 subst hie
 have hD : gs.all Gd.isB = true := by
  rw [List.all_eq_true]
  intro s hs'
  obtain ⟨j, hj'⟩ := List.getElem?_of_mem hs'
  exact hj j s (List.getElem?_eq_some_iff.1 hj').1 hj'
 clear hj hi hT g5
 -- the lots
 cases hE : wi lots 0 3
 ·have e : chk2 ps gs lots = true := by unfold chk2; rw [hC, hD, hE]; rfl
  simp (disch:=first|(simp only [yk,seval];done)|omega|(simp only [yz]<;>omega)|fail) only [↓yp,yq0,yq1,yq2,yq3,yq4,yl,ys0,ys1,seval,fitB,newC,endD,endR,yrg,g1,b1,h67,hE,e]
 have e : chk2 ps gs lots = false := by unfold chk2; rw [hC, hD, hE]; rfl
 rw [e, cond_false]
 simp (disch:=first|(simp only [yk,seval];done)|omega|(simp only [yz]<;>omega)|fail) only [↓yp,yq0,yq1,yq2,yq3,yq4,yl,ys0,ys1,seval,fitB,newC,endD,endR,yrg,g1,b1,h67,hE]
 -- the order
 refine W_while (n := 132) 100 (fun k e H' => ∃ i : Nat, k = gs.length + 1 - i ∧ 1 ≤ i ∧ i ≤ gs.length + 1 ∧ gt 132 e 6 = .int .i64 (i : Nat) ∧ gt 132 e 1 = .pointer (some ⟨H.size, 0, none⟩) ∧ H' = H1 ∧ ∀ j x y, j + 1 < i → gs[j]? = some x → gs[j + 1]? = some y → x.fo < y.fo ∧ y.pr < x.pr)
  ?_ 5 gs.length ⟨1, by omega, by omega, by omega, by simp (disch:=first|(simp only [yk,seval];done)|omega|(simp only [yz]<;>omega)|fail) only [yg,seval] <;> rfl, by simp (disch:=first|(simp only [yk,seval];done)|omega|(simp only [yz]<;>omega)|fail) only [yg,seval,g1], rfl, fun j x y hj => by omega⟩ (by omega) (by omega)
 clear g1
 rintro M3 k e H1 ⟨i, rfl, h1i, hi, g6, g1, rfl, hj⟩
 simp (disch:=first|(simp only [yk,seval];done)|omega|(simp only [yz]<;>omega)|fail) only [↓yp,yq0,yq1,yq2,yq3,yq4,yl,ys0,ys1,seval,fitB,newC,endD,endR,yrg,g6,g1,b1,lenV_slice st_esS_30]
 refine ⟨fun hT => ?_, fun hT => ?_⟩
 ·have hi' : i < gs.length := by simpa using hT
  obtain ⟨j, rfl⟩ : ∃ j, i = j + 1 := ⟨i - 1, by omega⟩
  obtain ⟨x, hx⟩ : ∃ x, gs[j]? = some x := ⟨gs[j], by simp [show j < gs.length by omega]⟩
  obtain ⟨y, hy⟩ : ∃ y, gs[j + 1]? = some y := ⟨gs[j + 1], by simp [hi']⟩
  have hg1 := hgs.fr ((Fr.alloc _ _).trans fr)
  obtain ⟨b, o, c, eb, hb, hc, hq⟩ := hg1.at_ hx
  obtain ⟨b2, o2, c2, e2, -, hc2, hq2⟩ := hg1.at_ hy
  subst eb
  cases e2
  rw [hc] at hc2
  cases hc2
  obtain ⟨x0, x1⟩ := two_cells (u := .int .i64 x.fo) (v := .int .i64 x.pr) hq
  obtain ⟨y0, y1⟩ := two_cells (u := .int .i64 y.fo) (v := .int .i64 y.pr) hq2
  rw [show gdE.z = 2 from rfl] at x0 x1 y0 y1
  have w1 : w64 (((j + 1 : Nat) : Int) - 1) = (j : Int) := by rw [w64_of (by omega)]; omega
  have w2 : w64 (((j + 1 : Nat) : Int) + 1) = ((j + 1 + 1 : Nat) : Int) := by rw [w64_of (by omega)]; omega
  have no : ¬ (x.fo < y.fo ∧ y.pr < x.pr) → ordB gs = false := fun h => by
   cases ho : ordB gs with
   | false => rfl
   | true => exact absurd (ordB_at.1 ho j x y hx hy) h
  simp (disch:=first|(simp only [yk,seval];done)|omega|(simp only [yz]<;>omega)|fail) only [↓yp,yq0,yq1,yq2,yq3,yq4,yl,ys0,ys1,seval,fitB,newC,endD,endR,yrg,g6,g1]
  refine W_draw [] rfl (by kernel_rfl) (by kernel_rfl) (by first|omega|(simp only [yz]<;>omega)) ?_
  cases hY : decide (y.fo ≤ x.fo)
  rotate_left
  ·have h1 := of_decide_eq_true hY
   have := no (by omega)
   simp (disch:=first|(simp only [yk,seval];done)|omega|(simp only [yz]<;>omega)|fail) only [↓yp,yq0,yq1,yq2,yq3,yq4,yl,ys0,ys1,seval,fitB,newC,endD,endR,yrg,g6,g1,b1,A_indexSlice st_esS_30,hc,x0,y0,w1,w2,hY,this]
  cases hZ : decide (x.pr ≤ y.pr)
  rotate_left
  ·have h1 := of_decide_eq_true hZ
   have := no (by omega)
   simp (disch:=first|(simp only [yk,seval];done)|omega|(simp only [yz]<;>omega)|fail) only [↓yp,yq0,yq1,yq2,yq3,yq4,yl,ys0,ys1,seval,fitB,newC,endD,endR,yrg,g6,g1,b1,A_indexSlice st_esS_30,hc,x0,x1,y0,y1,w1,w2,hY,hZ,this]
  have h1 := of_decide_eq_false hY
  have h2 := of_decide_eq_false hZ
  simp (disch:=first|(simp only [yk,seval];done)|omega|(simp only [yz]<;>omega)|fail) only [↓yp,yq0,yq1,yq2,yq3,yq4,yl,ys0,ys1,seval,fitB,newC,endD,endR,yrg,g6,g1,b1,A_indexSlice st_esS_30,hc,x0,x1,y0,y1,w1,w2,hY,hZ]
  refine ⟨gs.length + 1 - (j + 1 + 1), by omega, j + 1 + 1, rfl, by omega, by omega, ?_, ?_, rfl, ?_⟩
  ·simp (disch:=first|(simp only [yk,seval];done)|omega|(simp only [yz]<;>omega)|fail) only [yg,seval]
  ·simp (disch:=first|(simp only [yk,seval];done)|omega|(simp only [yz]<;>omega)|fail) only [yg,seval,g1]
  ·intro j' x' y' hj' hx' hy'
   by_cases e : j' = j
   ·subst e
    rw [hx] at hx'
    rw [hy] at hy'
    cases hx'
    cases hy'
    omega
   ·exact hj j' x' y' (by omega) hx' hy'
 have hF : ordB gs = true := ordB_at.2 fun j x y hx hy => hj j x y (by
  have := (List.getElem?_eq_some_iff.1 hy).1
  have := of_decide_eq_false hT
  omega) hx hy
 rw [hF, cond_true]
 clear hj hi hT g6
 -- what can be foul
 simp (disch:=first|(simp only [yk,seval];done)|omega|(simp only [yz]<;>omega)|fail) only [↓yp,yq0,yq1,yq2,yq3,yq4,yl,ys0,ys1,seval,fitB,newC,endD,endR,yrg]
 refine W_while (n := 132) 200 (fun k e H' => ∃ i : Nat, k = ps.length - i ∧ i ≤ ps.length ∧ gt 132 e 7 = .int .i64 (i : Nat) ∧ gt 132 e 1 = .pointer (some ⟨H.size, 0, none⟩) ∧ Fr H1 H' ∧ ∀ j p, j < i → ps[j]? = some p → p.f ≤ p.hi)
  ?_ 4 ps.length ⟨0, by omega, by omega, by simp (disch:=first|(simp only [yk,seval];done)|omega|(simp only [yz]<;>omega)|fail) only [yg,seval] <;> rfl, by simp (disch:=first|(simp only [yk,seval];done)|omega|(simp only [yz]<;>omega)|fail) only [yg,seval,g1], Fr.refl _, fun j p hj => by omega⟩ (by omega) (by omega)
 clear g1 e
 rintro M4 k e H2 ⟨i, rfl, hi, g7, g1, fr2, hj⟩
 have f2 := fr2.size
 have b2 : H2.get H.size = .rw [.slice a ps.length cap, .slice a' gs.length cap', .int .i64 lots] 32 false [] := by rw [fr2.same _ (by omega)]; exact b1
 simp (disch:=first|(simp only [yk,seval];done)|omega|(simp only [yz]<;>omega)|fail) only [↓yp,yq0,yq1,yq2,yq3,yq4,yl,ys0,ys1,seval,fitB,newC,endD,endR,yrg,g7,g1,b2,lenV_slice st_esS_29]
 refine ⟨fun hT => ?_, fun hT => ?_⟩
 ·have hlt : i < ps.length := by simpa using hT
  obtain ⟨p, hp⟩ : ∃ p, ps[i]? = some p := ⟨ps[i], by simp [hlt]⟩
  obtain ⟨b, o, c, eb, hb, hc, hq⟩ := (hs.fr (((Fr.alloc _ _).trans fr).trans fr2)).at_ hp
  have q : part c (o + i * 4) 5 = some (.agg ⟨p.enc⟩) := part_of hq rfl
  have hok : p.Ok := Pk.isB_ok (List.all_eq_true.1 hC p (List.mem_of_getElem? hp))
  have hw2 : w64 ((i : Int) + 1) = ((i + 1 : Nat) : Int) := by rw [w64_of (by omega)]; omega
  subst eb
  by_cases hh : p.hi < p.f
  ·have hG : (ps.all fun p => !decide (p.hi < p.f)) = false := by rw [List.all_eq_false]; exact ⟨p, List.mem_of_getElem? hp, by simp [hh]⟩
   have h68 := fun (N : Nat) (H : AHeap) => c68e (N := N) (H := H) hok hh
   simp only [Pk.enc] at q h68
   simp (disch:=first|(simp only [yk,seval];done)|omega|(simp only [yz]<;>omega)|fail) only [↓yp,yq0,yq1,yq2,yq3,yq4,yl,ys0,ys1,seval,fitB,newC,endD,endR,yrg,g7,g1,b2,A_indexSlice st_esS_29,hc,q,h68,lenV_slice st_esS_49,hG,Int.natCast_zero]
  ·simp only [Pk.enc] at q
   simp (disch:=first|(simp only [yk,seval];done)|omega|(simp only [yz]<;>omega)|fail) only [↓yp,yq0,yq1,yq2,yq3,yq4,yl,ys0,ys1,seval,fitB,newC,endD,endR,yrg,g7,g1,b2,A_indexSlice st_esS_29,hc,q]
   refine c68 hok (by omega) (by omega) (by omega) ?_
   rintro b' c' H3 fr3 - -
   have f3 := fr3.size
   have hne : decide ((((p.hi + 1 - p.f).toNat : Nat) : Int) = 0) = false := by simp; omega
   simp (disch:=first|(simp only [yk,seval];done)|omega|(simp only [yz]<;>omega)|fail) only [↓yp,yq0,yq1,yq2,yq3,yq4,yl,ys0,ys1,seval,fitB,newC,endD,endR,yrg,g7,lenV_slice st_esS_49,hne,hw2]
   refine ⟨ps.length - (i + 1), by omega, i + 1, rfl, by omega, ?_, ?_, fr2.trans fr3, ?_⟩
   ·simp (disch:=first|(simp only [yk,seval];done)|omega|(simp only [yz]<;>omega)|fail) only [yg,seval]
   ·simp (disch:=first|(simp only [yk,seval];done)|omega|(simp only [yz]<;>omega)|fail) only [yg,seval,g1]
   ·intro j t hj' ht
    by_cases e : j = i
    ·subst e; rw [hp] at ht; cases ht; omega
    ·exact hj j t (by omega) ht
 have hG : (ps.all fun p => !decide (p.hi < p.f)) = true := by
  rw [List.all_eq_true]
  intro s hs'
  obtain ⟨j, hj'⟩ := List.getElem?_of_mem hs'
  have := hj j s (by have := (List.getElem?_eq_some_iff.1 hj').1; have := of_decide_eq_false hT; omega) hj'
  simp; omega
 simp (disch:=first|(simp only [yk,seval];done)|omega|(simp only [yz]<;>omega)|fail) only [↓yp,yq0,yq1,yq2,yq3,yq4,yl,ys0,ys1,seval,fitB,newC,endD,endR,yrg,hG]
end
end Go.Am.K
