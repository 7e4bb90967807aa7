import Derived.Test.YtbofjfjopeaefaaGreatT37
set_option linter.unusedSimpArgs false
set_option linter.unusedVariables false
namespace Go.Am.K
open Go.Proofs
variable {T : Tab} {P : Program} {N L : Nat} {H H' H'' : AHeap} {Q : Bool → Value → AHeap → Prop}
section
variable {a a' : Option Addr} {cap cap' : Nat} {t : List Int}
theorem c24 (hs : Rw intE H a t) (hne : t ≠ []) (hl : t.length ≤ 65) (hL : L ≤ H.size) {M : Nat} (hM : 60 ≤ M)
  (hq : ∀ k cap' H', Fr H H' → H.size ≤ k → k < H'.size → H'.get k = .rw (intE.fl t) 3 true [] → Q false (.slice (some ⟨k, 0, none⟩) t.length cap') H') : resK (acall tabA (aexec tabA Tryz.prog M) 12 [.slice a t.length cap] H) L Q := by
 obtain ⟨N, rfl⟩ : ∃ N, M = N + 60 := ⟨M - 60, by omega⟩
 obtain ⟨b, o, c, rfl, -⟩ := hs.get hne
 refine call_fls (R := fun v H' => ∃ k cap', v = .slice (some ⟨k, 0, none⟩) t.length cap' ∧ Fr H H' ∧ H.size ≤ k ∧ k < H'.size ∧ H'.get k = .rw (intE.fl t) 3 true []) (k := 9) (rs := [.tmp 2]) rfl fn_12 rfl rfl rfl hL ?_ ?_ ?_
 ·have hpos : 0 < t.length := List.length_pos_iff.2 hne
  have h0 : decide ((t.length : Int) = 0) = false := by simp; omega
  simp (disch:=first|(simp only [yk,seval];done)|omega|(simp only [yz]<;>omega)|fail) only [↓yp,yA,ys0,ys1,seval,fitB,newC,endD,endR,yrg,lenV_slice st_esS_26,h0,A_buildSlice st_brS_26_0]
  rw [apK_empty (H := _) (n := t.length) st_apS_26 ((hs.fr (Fr.alloc _ _)).src hne) hpos (by omega) (by omega) (one_fl t) (c₀ := []) (by simp (disch:=first|(simp only [yk,seval];done)|omega|(simp only [yz]<;>omega)|fail) only [yg,seval])]
  simp (disch:=first|(simp only [yk,seval];done)|omega|(simp only [yz]<;>omega)|fail) only [↓yp,yA,ys0,ys1,seval,fitB,newC,endD,endR,yrg]
  exact ⟨_, _, rfl, by (repeat (first | exact Fr.refl _ | assumption | refine Fr.allocd ?_ _ | refine Fr.put ?_ (by first | omega | (simp only [yz] <;> omega)) _)), by (first | omega | (simp only [yz] <;> omega)), by (first | omega | (simp only [yz] <;> omega)), by simp (disch:=first|(simp only [yk,seval];done)|omega|(simp only [yz]<;>omega)|fail) only [yg,seval]⟩
 ·rintro v H' ⟨k, cap', rfl, -⟩; rfl
 ·rintro v H' ⟨k, cap', rfl, h1, h2, h3, h4⟩
  exact hq _ _ _ h1 h2 h3 h4
end
def truB (p : Pk) (n f i : Int) : Bool := wi f p.f p.hi && (wi i 0 n && wi (f - i) 0 (p.s - n))
set_option maxHeartbeats 1000000 in
theorem c95 {p : Pk} {n f i : Int} (h : p.Ok) (hn : 0 ≤ n ∧ n ≤ 6) (hf : wi f p.f p.hi = true) (hi : wi i 0 n = true) : acall tabA (aexec tabA Tryz.prog (N + 100)) 73 [.agg ⟨p.enc⟩, .int .i64 n, .int .i64 f, .int .i64 i] H = some (true, .bool (truB p n f i), H, H.size) := by
 refine call_quiet (k := 35) (rs := [.tmp 8]) rfl fn_73 rfl rfl rfl ?_ rfl
 have h66 := fun (N : Nat) (H : AHeap) => c66 (N := N) (H := H) h
 have h58 := fun (N : Nat) (H : AHeap) (n lo hi : Int) => c58 (N := N) (H := H) (n := n) (lo := lo) (hi := hi)
 have hf' := hf
 have hi' := hi
 unfold wi at hf' hi'
 simp only [Bool.and_eq_true,decide_eq_true_eq] at hf' hi'
 have hhi : p.hi ≤ 6 := by
  obtain ⟨h1, h2, h3, h4⟩ := h
  unfold Pk.hi
  split <;> omega
 obtain ⟨h1, h2, h3, h4⟩ := h
 have w1 : w64 (p.s - n) = p.s - n := w64_of (by omega)
 have w2 : w64 (f - i) = f - i := w64_of (by omega)
 unfold truB
 rw [hf, hi]
 simp only [Pk.enc] at h66
 simp (disch:=first|(simp only [yk,seval];done)|omega|(simp only [yz]<;>omega)|fail) only [↓yp,yA,ys0,ys1,seval,fitB,newC,endD,endR,yrg,Pk.enc]
 refine W_draw [6, 7] rfl (by kernel_rfl) (by kernel_rfl) (by first|omega|(simp only [yz]<;>omega)) ?_
 simp (disch:=first|(simp only [yk,seval];done)|omega|(simp only [yz]<;>omega)|fail) only [↓yp,yA,ys0,ys1,seval,fitB,newC,endD,endR,yrg,h66,w1]
 simp (disch:=first|(simp only [yk,seval];done)|omega|(simp only [yz]<;>omega)|fail) only [↓yp,yA,ys0,ys1,seval,fitB,newC,endD,endR,yrg,h58,hf,hi,w2]
structure Tru (ps : List Pk) (l fl il : List Int) : Prop where
 l1 : fl.length = ps.length
 l2 : il.length = ps.length
 ok : ∀ (j : Nat) (p : Pk) (n f i : Int), ps[j]? = some p → l[j]? = some n → fl[j]? = some f → il[j]? = some i → (p.f ≤ f ∧ f ≤ p.hi) ∧ (0 ≤ i ∧ i ≤ n) ∧ (0 ≤ f - i ∧ f - i ≤ p.s - n)
section
variable {a a' al af ai : Option Addr} {cap cap' cl cf ci : Nat} {ps : List Pk} {gs : List Gd} {lots : Int} {l fl il : List Int}
end
end Go.Am.K
namespace Go.Am.K
open Go.Proofs
variable {T : Tab} {P : Program} {N L : Nat} {H H' H'' : AHeap} {Q : Bool → Value → AHeap → Prop}
section
variable {k cap pc cap' cl cf : Nat} {a pa pa' al af : Option Addr} {bs l fl : List Int} {ps : List Pk} {lots : Value}
end
end Go.Am.K
namespace Go.Am.K
open Go.Proofs
variable {T : Tab} {P : Program} {N L : Nat} {H H' H'' : AHeap} {Q : Bool → Value → AHeap → Prop}
section
variable {a a' : Option Addr} {cap cap' : Nat} {ps : List Pk} {gs : List Gd} {lots : Int}
def kn (p : Pk) (n : Int) : Pk := ⟨p.s, p.s, p.s, n⟩
end
end Go.Am.K
namespace Go.Am.K
open Go.Proofs
variable {T : Tab} {P : Program} {N L : Nat} {H H' H'' : AHeap} {Q : Bool → Value → AHeap → Prop}
def rng (f : Int) (n : Nat) : List Int := (List.range n).map fun i => f + (i : Nat)
theorem rng_len {f : Int} {n : Nat} : (rng f n).length = n := by unfold rng; rw [List.length_map, List.length_range]
theorem rng_succ {f : Int} {n : Nat} : rng f (n + 1) = rng f n ++ [f + (n : Nat)] := by unfold rng; rw [List.range_succ, List.map_append]; rfl
theorem rng_at {f : Int} {n i : Nat} (h : i < n) : (rng f n)[i]? = some (f + (i : Nat)) := by unfold rng; rw [List.getElem?_map, List.getElem?_range h]; rfl
section
variable {p : Pk}
set_option maxHeartbeats 1000000 in
theorem c68e (hp : p.Ok) (he : p.hi < p.f) : acall tabA (aexec tabA Tryz.prog (N + 150)) 71 [.agg ⟨p.enc⟩] H = some (true, .slice none 0 0, H, H.size) := by
 refine call_quiet (k := 28) (rs := [.tmp 2]) rfl fn_71 rfl rfl rfl ?_ rfl
 obtain ⟨h1, h2, h3, h4⟩ := hp
 have hh : p.s - p.o + p.f < p.f ∨ p.w < p.f := by unfold Pk.hi at he; split at he <;> omega
 have w1 : w64 (p.o - p.f) = p.o - p.f := w64_of (by omega)
 have w2 : w64 (p.s - (p.o - p.f)) = p.s - (p.o - p.f) := w64_of (by omega)
 simp (disch:=first|(simp only [yk,seval];done)|omega|(simp only [yz]<;>omega)|fail) only [↓yp,yA,ys0,ys1,seval,fitB,newC,endD,endR,yrg,Pk.enc]
 refine W_while (n := 28) 70 (fun k e H' => ∃ n : Int, k = (p.w + 1 - n).toNat ∧ p.f ≤ n ∧ gt 28 e 4 = .int .i64 n ∧ gt 28 e 3 = .slice none 0 0 ∧ gt 28 e 1 = .pointer (some ⟨H.size, 0, none⟩) ∧ H' = H.alloc (.rw [.int .i64 p.s, .int .i64 p.w, .int .i64 p.o, .int .i64 p.f] 111 false []))
  ?_ 8 (p.w + 1 - p.f).toNat ⟨p.f, rfl, by omega, by simp (disch:=first|(simp only [yk,seval];done)|omega|(simp only [yz]<;>omega)|fail) only [yg,seval], by simp (disch:=first|(simp only [yk,seval];done)|omega|(simp only [yz]<;>omega)|fail) only [yg,seval], by simp (disch:=first|(simp only [yk,seval];done)|omega|(simp only [yz]<;>omega)|fail) only [yg,seval], rfl⟩ (by omega) (by omega)
 rintro M k e H' ⟨n, rfl, hn, g4, g3, g1, rfl⟩
 simp (disch:=first|(simp only [yk,seval];done)|omega|(simp only [yz]<;>omega)|fail) only [↓yp,yA,ys0,ys1,seval,fitB,newC,endD,endR,yrg,g4,g3,g1]
 refine ⟨fun hA => ?_, fun hA => ?_⟩
 ·have hA' := of_decide_eq_true hA
  have hB : decide (n ≤ p.s - (p.o - p.f)) = false := by simp; omega
  have w3 : w64 (n + 1) = n + 1 := w64_of (by omega)
  simp (disch:=first|(simp only [yk,seval];done)|omega|(simp only [yz]<;>omega)|fail) only [↓yp,yA,ys0,ys1,seval,fitB,newC,endD,endR,yrg,g4,g3,g1,w1,w2,w3,hB]
  refine ⟨(p.w + 1 - (n + 1)).toNat, by omega, n + 1, rfl, by omega, ?_, ?_, ?_, rfl⟩
  ·simp (disch:=first|(simp only [yk,seval];done)|omega|(simp only [yz]<;>omega)|fail) only [yg,seval]
  ·simp (disch:=first|(simp only [yk,seval];done)|omega|(simp only [yz]<;>omega)|fail) only [yg,seval,g3]
  ·simp (disch:=first|(simp only [yk,seval];done)|omega|(simp only [yz]<;>omega)|fail) only [yg,seval,g1]
 ·simp (disch:=first|(simp only [yk,seval];done)|omega|(simp only [yz]<;>omega)|fail) only [↓yp,yA,ys0,ys1,seval,fitB,newC,endD,endR,yrg,g3]
set_option maxHeartbeats 1000000 in
theorem c68 (hp : p.Ok) (he : p.f ≤ p.hi) (hL : L ≤ H.size) {M : Nat} (hM : 150 ≤ M)
  (hq : ∀ b c H', Fr H H' → H.size < b → Rw intE H' (some ⟨b, 0, none⟩) (rng p.f (p.hi + 1 - p.f).toNat) → Q false (.slice (some ⟨b, 0, none⟩) (p.hi + 1 - p.f).toNat c) H') : resK (acall tabA (aexec tabA Tryz.prog M) 71 [.agg ⟨p.enc⟩] H) L Q := by
 obtain ⟨N, rfl⟩ : ∃ N, M = N + 150 := ⟨M - 150, by omega⟩
 refine call_fls (R := fun v H' => ∃ b c, v = .slice (some ⟨b, 0, none⟩) (p.hi + 1 - p.f).toNat c ∧ Fr H H' ∧ H.size < b ∧ Rw intE H' (some ⟨b, 0, none⟩) (rng p.f (p.hi + 1 - p.f).toNat)) (k := 28) (rs := [.tmp 2]) rfl fn_71 rfl rfl rfl hL ?_ ?_ ?_
 rotate_left
 ·rintro v H' ⟨k, c, rfl, -⟩; rfl
 ·rintro v H' ⟨k, c, rfl, h1, h2, h3⟩
  exact hq _ _ _ h1 h2 h3
 obtain ⟨h1, h2, h3, h4⟩ := hp
 obtain ⟨hi, hhi⟩ : ∃ hi, p.hi = hi := ⟨_, rfl⟩
 rw [hhi] at he ⊢
 have hh : hi ≤ p.w ∧ hi ≤ p.s - p.o + p.f ∧ (hi = p.w ∨ hi = p.s - p.o + p.f) := by rw [← hhi]; unfold Pk.hi; split <;> omega
 have w1 : w64 (p.o - p.f) = p.o - p.f := w64_of (by omega)
 have w2 : w64 (p.s - (p.o - p.f)) = p.s - (p.o - p.f) := w64_of (by omega)
 simp (disch:=first|(simp only [yk,seval];done)|omega|(simp only [yz]<;>omega)|fail) only [↓yp,yA,ys0,ys1,seval,fitB,newC,endD,endR,yrg,Pk.enc]
 refine W_while (n := 28) 70 (fun k e H' => ∃ (n : Int) (i : Nat) (v : Value) (S : Nat → Prop), k = (p.w + 1 - n).toNat ∧ p.f ≤ n ∧ n ≤ p.w + 1 ∧ (((i : Nat) : Int) = n - p.f ∧ n ≤ hi + 1 ∨ ((i : Nat) : Int) = hi + 1 - p.f ∧ hi + 1 ≤ n) ∧ gt 28 e 4 = .int .i64 n ∧ gt 28 e 3 = v ∧ gt 28 e 1 = .pointer (some ⟨H.size, 0, none⟩) ∧ Gw H' H.size S v i (intE.fl (rng p.f i)) 3 1 ∧ Fr (H.alloc (.rw [.int .i64 p.s, .int .i64 p.w, .int .i64 p.o, .int .i64 p.f] 111 false [])) H')
  ?_ 8 (p.w + 1 - p.f).toNat ⟨p.f, 0, _, _, rfl, by omega, by omega, .inl ⟨by omega, by omega⟩, by simp (disch:=first|(simp only [yk,seval];done)|omega|(simp only [yz]<;>omega)|fail) only [yg,seval], by simp (disch:=first|(simp only [yk,seval];done)|omega|(simp only [yz]<;>omega)|fail) only [yg,seval], by simp (disch:=first|(simp only [yk,seval];done)|omega|(simp only [yz]<;>omega)|fail) only [yg,seval], Gw.none, Fr.refl _⟩ (by omega) (by omega)
 rintro M k e H' ⟨n, i, v, S, rfl, hn, hn2, hi', g4, g3, g1, gw, fr⟩
 have f0 := fr.size
 simp only [size_alloc] at f0
 have b1 : H'.get H.size = .rw [.int .i64 p.s, .int .i64 p.w, .int .i64 p.o, .int .i64 p.f] 111 false [] := by rw [fr.same _ (by first|omega|(simp only [yz]<;>omega))]; exact get_alloc_same
 simp (disch:=first|(simp only [yk,seval];done)|omega|(simp only [yz]<;>omega)|fail) only [↓yp,yA,ys0,ys1,seval,fitB,newC,endD,endR,yrg,g4,g3,g1,b1]
 refine ⟨fun hA => ?_, fun hA => ?_⟩
 ·have hA' := of_decide_eq_true hA
  have w3 : w64 (n + 1) = n + 1 := w64_of (by omega)
  simp (disch:=first|(simp only [yk,seval];done)|omega|(simp only [yz]<;>omega)|fail) only [↓yp,yA,ys0,ys1,seval,fitB,newC,endD,endR,yrg,g4,g3,g1,b1,w1,w2,w3]
  refine ⟨fun hB => ?_, fun hB => ?_⟩
  ·have hB' := of_decide_eq_true hB
   have ei : n = p.f + (i : Nat) := by omega
   simp (disch:=first|(simp only [yk,seval];done)|omega|(simp only [yz]<;>omega)|fail) only [↓yp,yA,ys0,ys1,seval,fitB,newC,endD,endR,yrg,g4,g3,g1,b1,A_buildSlice st_brS_26_1]
   refine gw_append (i := i) (cs := intE.fl (rng p.f i)) (news := [.int .i64 n]) st_apS_26 (gw.fr (by repeat first|exact Fr.refl _|assumption|refine Fr.allocd ?_ _|refine Fr.put ?_ (by first|omega|(simp only [yz]<;>omega)) _)) (by first|omega|(simp only [yz]<;>omega)) (by rw [fl_length, rng_len]; rfl) (by unfold srcCells; simp (disch:=first|(simp only [yk,seval];done)|omega|(simp only [yz]<;>omega)|fail) only [yg,seval] <;> rfl) (by omega) (by omega) rfl (by omega) ?_
   intro a1 c1 H2 hs2 fs2 gw1
   simp only [size_alloc] at hs2 fs2
   have old2 : ∀ q, q ≤ H.size → H2.get q = H'.get q := fun q h1 => by
    rw [fs2 q (by omega) (fun h => by have := (gw.own q h).1; omega), get_alloc_lt (by omega)]
   simp (disch:=first|(simp only [yk,seval];done)|omega|(simp only [yz]<;>omega)|fail) only [↓yp,yA,ys0,ys1,seval,fitB,newC,endD,endR,yrg,g4,w3]
   have hcs : intE.fl (rng p.f i) ++ [.int .i64 n] = intE.fl (rng p.f (i + 1)) := by rw [rng_succ, fl_app, ← ei]; rfl
   rw [hcs] at gw1
   refine ⟨(p.w + 1 - (n + 1)).toNat, by omega, n + 1, i + 1, _, _, rfl, by omega, by omega, by omega, ?_, ?_, ?_, gw1, ?_⟩
   rotate_right 1
   ·exact ⟨by (first | omega | (simp only [yz] <;> omega)), fun q hq => by simp only [size_alloc] at hq; rw [old2 q (by omega)]; exact fr.same q (by first|omega|(simp only [yz]<;>omega))⟩
   ·simp (disch:=first|(simp only [yk,seval];done)|omega|(simp only [yz]<;>omega)|fail) only [yg,seval]
   ·simp (disch:=first|(simp only [yk,seval];done)|omega|(simp only [yz]<;>omega)|fail) only [yg,seval]
   ·simp (disch:=first|(simp only [yk,seval];done)|omega|(simp only [yz]<;>omega)|fail) only [yg,seval,g1]
  ·have hB' := of_decide_eq_false hB
   simp (disch:=first|(simp only [yk,seval];done)|omega|(simp only [yz]<;>omega)|fail) only [↓yp,yA,ys0,ys1,seval,fitB,newC,endD,endR,yrg,g4,w3]
   refine ⟨(p.w + 1 - (n + 1)).toNat, by omega, n + 1, i, v, S, rfl, by omega, by omega, by omega, ?_, ?_, ?_, gw, fr⟩
   ·simp (disch:=first|(simp only [yk,seval];done)|omega|(simp only [yz]<;>omega)|fail) only [yg,seval]
   ·simp (disch:=first|(simp only [yk,seval];done)|omega|(simp only [yz]<;>omega)|fail) only [yg,seval,g3]
   ·simp (disch:=first|(simp only [yk,seval];done)|omega|(simp only [yz]<;>omega)|fail) only [yg,seval,g1]
 ·have hA' := of_decide_eq_false hA
  have ei : i = (hi + 1 - p.f).toNat := by omega
  obtain ⟨b, al, rfl, e2, e3, -⟩ := gw.cons (by omega)
  subst ei
  simp (disch:=first|(simp only [yk,seval];done)|omega|(simp only [yz]<;>omega)|fail) only [↓yp,yA,ys0,ys1,seval,fitB,newC,endD,endR,yrg,g3]
  exact ⟨b, _, rfl, (Fr.alloc _ _).trans fr, (gw.own _ e2).1, Rw.of (r := []) (gw.own _ e2).2 (by rw [e3]; rfl) (by rw [List.append_nil])⟩
end
end Go.Am.K
