import Derived.Test.YtehkjjgpgnejnaaT46
set_option linter.unusedSimpArgs false
set_option linter.unusedVariables false
namespace Go.Am.K
open Go.Proofs
variable {T : Tab} {P : Program} {N L : Nat} {H H' H'' : AHeap} {Q : Bool → Value → AHeap → Prop}
section
variable {a a' al : Option Addr} {cap cap' cl mk i : Nat} {ps : List Pk} {gs : List Gd} {lots : Int} {l : List Int} {op fd n : Int} {p : Pk}
set_option maxHeartbeats 2000000 in
theorem c117x (h : LtR H a a' al ps gs lots l) (hgn : gs = [] → a' = none ∧ cap' = 0) (hi : ps[i]? = some p) (hL : L ≤ H.size) {M : Nat} (hM : 300 ≤ M)
  (hq : ∀ k c k' c' mk' H', Fr H H' → Rw pkE H' (some ⟨k, 0, none⟩) (ps.set i (kn p n)) → Rw gdE H' k' gs → Q false (.agg ⟨byC (.slice (some ⟨k, 0, none⟩) ps.length c) (.slice k' gs.length c') lots mk' l op fd⟩) H') :
  resK (acall tabA (aexec tabA Try.prog M) 117 [.agg ⟨byC (.slice a ps.length cap) (.slice a' gs.length cap') lots mk l op fd⟩, .int .i64 (i : Nat), .int .i64 n] H) L Q := by
 obtain ⟨N, rfl⟩ : ∃ N, M = N + 300 := ⟨M - 300, by omega⟩
 refine call_fls (R := fun v H' => ∃ k c k' c' mk', v = .agg ⟨byC (.slice (some ⟨k, 0, none⟩) ps.length c) (.slice k' gs.length c') lots mk' l op fd⟩ ∧ Fr H H' ∧ Rw pkE H' (some ⟨k, 0, none⟩) (ps.set i (kn p n)) ∧ Rw gdE H' k' gs) (k := 24) (rs := [.cell 6 134]) rfl fn_117 rfl rfl rfl hL ?_ ?_ ?_
 rotate_left
 ·rintro v H' ⟨k, c, k', c', mk', rfl, -⟩
  simp [byC, gr, ground]
 ·rintro v H' ⟨k, c, k', c', mk', rfl, h1, h2, h3⟩
  exact hq _ _ _ _ _ _ h1 h2 h3
 have hlt := (List.getElem?_eq_some_iff.1 hi).1
 have hne : ps ≠ [] := by rintro rfl; simp at hlt
 have hl4 := h.st.st.l4
 have hg4 := h.st.st.g4
 obtain ⟨b, o, c, rfl, hb, hc, hqq⟩ := h.st.hs.at_ hi
 have q0 : part c (o + i * 4) 5 = some (.agg ⟨p.enc⟩) := part_of hqq rfl
 obtain ⟨m0, m1, m2, m3, hm⟩ := four h.mx4
 simp only [byC]
 rw [hm]
 simp only [tv,List.map_cons,List.map_nil,List.cons_append,List.nil_append]
 have h129 := fun (N : Nat) (H : AHeap) => c129 (N := N) (H := H) (p := p) (n := n)
 simp only [Pk.enc] at q0
 have h129' : ∀ (N : Nat) (H : AHeap), acall tabA (aexec tabA Try.prog (N + 30)) 129 [.agg ⟨[.int .i64 p.s, .int .i64 p.w, .int .i64 p.o, .int .i64 p.f]⟩, .int .i64 n] H = some (true, .agg ⟨(kn p n).enc⟩, H, H.size) := h129
 have frb : Fr H ((H.alloc (.rw [.slice (some ⟨b, o, none⟩) ps.length cap, .slice a' gs.length cap', .int .i64 lots, .map (some mk), .int .i64 m0, .int .i64 m1, .int .i64 m2, .int .i64 m3, .int .i64 op, .int .i64 fd] 134 false [])).alloc (.rw [.slice none 0 0, .slice none 0 0, .int .i64 0, .map none, .int .i64 0, .int .i64 0, .int .i64 0, .int .i64 0, .int .i64 0, .int .i64 0] 134 false [])) := by (repeat (first | exact Fr.refl _ | assumption | refine Fr.allocd ?_ _ | refine Fr.put ?_ (by first | omega | (simp only [yz] <;> omega)) _))
 simp (disch:=first|(simp only [yk,seval];done)|omega|(simp only [yz]<;>omega)|fail) only [↓yp,yq0,yq1,yq2,yq3,yq4,yl,ys0,ys1,seval,fitB,newC,endD,endR,yrg,one_map,one_map']
 refine W_drawR (pl := []) [13, 14, 16] [(2, 1), (2, 2), (2, 3), (7, 1), (7, 2), (7, 3), (10, 1), (10, 2), (10, 3)] (planK_of rfl) (by kernel_rfl) (by kernel_rfl) (by kernel_rfl) (by first|omega|(simp only [yz]<;>omega)) ?_
 simp (disch:=first|(simp only [yk,seval];done)|omega|(simp only [yz]<;>omega)|fail) only [↓yp,yq0,yq1,yq2,yq3,yq4,yl,ys0,ys1,seval,fitB,newC,endD,endR,yrg,part_10_3,A_indexSlice st_esS_22,hc,q0,h129']
 refine c114x (h.st.hs.fr frb) (h.st.hg.fr frb) hgn (by omega) (by omega) hlt (by first|omega|(simp only [yz]<;>omega)) (by omega) ?_
 intro k cc k' cc' H1 fr1 r1 r2
 have f1 := fr1.size
 have s1 := fr1.same
 simp only [size_alloc] at f1 s1 r1 r2
 simp (disch:=first|(simp only [yk,seval];done)|omega|(simp only [yz]<;>omega)|fail) only [↓yp,yq0,yq1,yq2,yq3,yq4,yl,ys0,ys1,seval,fitB,newC,endD,endR,yrg,s1]
 refine c77 (by first|omega|(simp only [yz]<;>omega)) (by omega) ?_
 intro mk' H2 fr2 k1 k2 k3
 have f2 := fr2.size
 have s2 := fr2.same
 simp (disch:=first|(simp only [yk,seval];done)|omega|(simp only [yz]<;>omega)|fail) only [↓yp,yq0,yq1,yq2,yq3,yq4,yl,ys0,ys1,seval,fitB,newC,endD,endR,yrg,s1,s2,part_10_3,A_indexSlice st_esS_22,hc,q0,h129',one_map,one_map',sv_map]
 simp (disch:=first|(simp only [yk,seval];done)|omega|(simp only [yz]<;>omega)|fail) only [↓yp,yq0,yq1,yq2,yq3,yq4,yl,ys0,ys1,seval,fitB,newC,endD,endR,yrg,s1,s2,one_map,one_map',part_10]
 have h12 : Fr H H2 := (frb.trans fr1).trans fr2
 exact ⟨k, cc, k', cc', mk', rfl, Fr.put (Fr.put h12 (by omega) _) (by omega) _, (((r1.fr fr2).put (by omega)).put (by omega)).rw, (((r2.fr fr2).put (by omega)).put (by omega)).rw⟩
set_option maxHeartbeats 2000000 in
theorem c88x (h : LtR H a a' al ps gs lots l) (hgn : gs = [] → a' = none ∧ cap' = 0) (hi : ps[i]? = some p) (ho : 0 ≤ op ∧ op ≤ isum l) (hf : 0 ≤ fd ∧ fd ≤ op) :
  acall tabA (aexec tabA Try.prog (N + 1500)) 88 [.agg ⟨byC (.slice a ps.length cap) (.slice a' gs.length cap') lots mk l op fd⟩, .int .i64 (i : Nat)] H = some (true, .agg ⟨[.int .i64 (tellF (nonE ps l op fd i p) p.f p.hi (p.hi - p.f + 1).toNat).1, .int .i64 (tellF (nonE ps l op fd i p) p.f p.hi (p.hi - p.f + 1).toNat).2]⟩, H, H.size) := by
 refine call_quiet (k := 53) (rs := [.cell 4 38]) rfl fn_88 rfl rfl rfl ?_ rfl
 have hlt := (List.getElem?_eq_some_iff.1 hi).1
 have hpo := h.st.pk p (List.mem_of_getElem? hi)
 have hsp := h.st.st.sp p (List.mem_of_getElem? hi)
 have hhi : p.hi ≤ 6 ∧ 0 ≤ p.f := by
  obtain ⟨z1, z2, z3, z4⟩ := hpo
  unfold Pk.hi
  split <;> omega
 obtain ⟨b, o, c, rfl, hb, hc, hqq⟩ := h.st.hs.at_ hi
 have q0 : part c (o + i * 4) 5 = some (.agg ⟨p.enc⟩) := part_of hqq rfl
 simp only [Pk.enc] at q0
 obtain ⟨m0, m1, m2, m3, hm⟩ := four h.mx4
 have h117 := fun (H' : AHeap) (f : Fr H H') (n : Int) (Q : Bool → Value → AHeap → Prop) (L M : Nat) (hL : L ≤ H'.size) (hM : 300 ≤ M) => c117x (Q := Q) (L := L) (cap := cap) (cap' := cap') (mk := mk) (op := op) (fd := fd) (n := n) (h.fr f) hgn hi hL hM
 simp only [byC,hm,tv,List.map_cons,List.map_nil,List.cons_append,List.nil_append] at h117
 have h66 := fun (N : Nat) (H : AHeap) => c66 (N := N) (H := H) hpo
 simp only [Pk.enc] at h66
 simp only [byC]
 rw [hm]
 simp only [tv,List.map_cons,List.map_nil,List.cons_append,List.nil_append]
 have w1 : w64 (p.hi - p.f) = p.hi - p.f := w64_of (by omega)
 have w2 : w64 (p.hi - p.f + 1) = p.hi - p.f + 1 := w64_of (by omega)
 simp (disch:=first|(simp only [yk,seval];done)|omega|(simp only [yz]<;>omega)|fail) only [↓yp,yq0,yq1,yq2,yq3,yq4,yl,ys0,ys1,seval,fitB,newC,endD,endR,yrg,one_map,one_map',A_indexSlice st_esS_22,hc,q0,h66,A_build st_bdS_38,w1,w2]
 obtain ⟨cnt, hcnt⟩ : ∃ cnt, p.hi - p.f + 1 = cnt := ⟨_, rfl⟩
 rw [hcnt]
 obtain ⟨PP, hPP⟩ : ∃ PP, nonE ps l op fd i p = PP := ⟨_, rfl⟩
 rw [hPP]
 refine W_while (n := 53) 1000 (fun q e' H' => ∃ k : Nat, q = (cnt - k).toNat ∧ (k : Int) ≤ cnt ∧ gt 53 e' 28 = .int .i64 (k : Nat) ∧ gt 53 e' 27 = .int .i64 cnt ∧ gt 53 e' 1 = .int .i64 (i : Nat) ∧ gt 53 e' 2 = .pointer (some ⟨H.size, 0, none⟩) ∧ gt 53 e' 4 = .pointer (some ⟨H.size + 1, 0, none⟩) ∧ gt 53 e' 5 = .pointer (some ⟨H.size + 2, 0, none⟩) ∧ gt 53 e' 6 = .pointer (some ⟨H.size + 3, 0, none⟩) ∧ Fr H H' ∧ H.size + 3 < H'.size ∧
   H'.get H.size = .rw [.slice (some ⟨b, o, none⟩) ps.length cap, .slice a' gs.length cap', .int .i64 lots, .map (some mk), .int .i64 m0, .int .i64 m1, .int .i64 m2, .int .i64 m3, .int .i64 op, .int .i64 fd] 134 false [] ∧ H'.get (H.size + 1) = .rw [.int .i64 0, .int .i64 0] 38 false [] ∧ H'.get (H.size + 2) = .rw [.int .i64 p.f, .int .i64 p.hi] 38 false [] ∧ H'.get (H.size + 3) = .rw [.int .i64 (tellF PP p.f p.hi k).1, .int .i64 (tellF PP p.f p.hi k).2] 38 false [])
  ?_ 7 cnt.toNat ⟨0, by omega, by omega, ?_, ?_, ?_, ?_, ?_, ?_, ?_, by (repeat (first | exact Fr.refl _ | assumption | refine Fr.allocd ?_ _ | refine Fr.put ?_ (by first | omega | (simp only [yz] <;> omega)) _)), by (first | omega | (simp only [yz] <;> omega)), ?_, ?_, ?_, ?_⟩ (by omega) (by omega)
 rotate_left
 ·simp (disch:=first|(simp only [yk,seval];done)|omega|(simp only [yz]<;>omega)|fail) only [yg,seval] <;> rfl
 ·simp (disch:=first|(simp only [yk,seval];done)|omega|(simp only [yz]<;>omega)|fail) only [yg,seval]
 ·simp (disch:=first|(simp only [yk,seval];done)|omega|(simp only [yz]<;>omega)|fail) only [yg,seval]
 ·simp (disch:=first|(simp only [yk,seval];done)|omega|(simp only [yz]<;>omega)|fail) only [yg,seval]
 ·simp (disch:=first|(simp only [yk,seval];done)|omega|(simp only [yz]<;>omega)|fail) only [yg,seval]
 ·simp (disch:=first|(simp only [yk,seval];done)|omega|(simp only [yz]<;>omega)|fail) only [yg,seval]
 ·simp (disch:=first|(simp only [yk,seval];done)|omega|(simp only [yz]<;>omega)|fail) only [yg,seval]
 ·simp (disch:=first|(simp only [yk,seval];done)|omega|(simp only [yz]<;>omega)|fail) only [yg,seval]
 ·simp (disch:=first|(simp only [yk,seval];done)|omega|(simp only [yz]<;>omega)|fail) only [yg,seval]
 ·simp (disch:=first|(simp only [yk,seval];done)|omega|(simp only [yz]<;>omega)|fail) only [yg,seval]
 ·simp (disch:=first|(simp only [yk,seval];done)|omega|(simp only [yz]<;>omega)|fail) only [yg,seval] <;> rfl
 rintro M1 q e H' ⟨k, rfl, hk, g28, g27, g1, g2, g4, g5, g6, fr, lt, b2, b4, b5, b6⟩
 simp (disch:=first|(simp only [yk,seval];done)|omega|(simp only [yz]<;>omega)|fail) only [↓yp,yq0,yq1,yq2,yq3,yq4,yl,ys0,ys1,seval,fitB,newC,endD,endR,yrg,g28,g27]
 refine ⟨fun hA => ?_, fun hA => ?_⟩
 ·have hlk : (k : Int) < cnt := of_decide_eq_true hA
  have hw2 : w64 ((k : Int) + 1) = ((k + 1 : Nat) : Int) := by rw [w64_of (by omega)]; omega
  have w3 : w64 (p.f + (k : Int)) = p.f + k := w64_of (by omega)
  simp (disch:=first|(simp only [yk,seval];done)|omega|(simp only [yz]<;>omega)|fail) only [↓yp,yq0,yq1,yq2,yq3,yq4,yl,ys0,ys1,seval,fitB,newC,endD,endR,yrg,g28,g1,g2,g5,b2,b5,w3,part_10]
  refine h117 _ fr _ _ _ _ (by omega) (by omega) ?_
  intro k1 cc k2 cc2 mk' H1 fr1 r1 r2
  have f1 := fr1.size
  have s1 := fr1.same
  have hn : p.f ≤ p.f + (k : Int) ∧ p.f + (k : Int) ≤ p.hi := by omega
  have lt' : LtR H1 (some ⟨k1, 0, none⟩) k2 al (ps.set i (kn p (p.f + k))) gs lots l := ⟨⟨r1, r2, (kn_ok h.st.st hi hn).chk⟩, h.rl.fr (fr.trans fr1), kn_lot h.lo hi⟩
  have h84 := fun (N : Nat) => c84 (N := N) (cap := cc) (cap' := cc2) (mk := mk') lt' ho hf
  simp only [List.length_set,hm,tv,List.map_cons,List.map_nil,List.cons_append,List.nil_append] at h84
  have h65 := fun (N : Nat) (H : AHeap) => c65 (N := N) (H := H) (a := lfLo (ps.set i (kn p (p.f + k))) l fd) (b := lfHi (ps.set i (kn p (p.f + k))) l op fd)
  have hst : tellF PP p.f p.hi (k + 1) = tellS PP (tellF PP p.f p.hi k) (p.f + k) := rfl
  have hpn : PP (p.f + k) = !decide (lfHi (ps.set i (kn p (p.f + k))) l op fd < lfLo (ps.set i (kn p (p.f + k))) l fd) := by rw [← hPP]; rfl
  cases hE : decide (lfHi (ps.set i (kn p (p.f + k))) l op fd < lfLo (ps.set i (kn p (p.f + k))) l fd)
  ·rw [hE] at hpn
   have e1 : tellF PP p.f p.hi (k + 1) = (if p.f + (k : Int) < (tellF PP p.f p.hi k).1 then p.f + k else (tellF PP p.f p.hi k).1, if p.f + (k : Int) > (tellF PP p.f p.hi k).2 then p.f + k else (tellF PP p.f p.hi k).2) := by
    rw [hst]; unfold tellS; rw [hpn]; rfl
   obtain ⟨t1, ht1⟩ : ∃ t1, (tellF PP p.f p.hi k).1 = t1 := ⟨_, rfl⟩
   obtain ⟨t2, ht2⟩ : ∃ t2, (tellF PP p.f p.hi k).2 = t2 := ⟨_, rfl⟩
   rw [ht1, ht2] at e1 b6
   simp (disch:=first|(simp only [yk,seval];done)|omega|(simp only [yz]<;>omega)|fail) only [↓yp,yq0,yq1,yq2,yq3,yq4,yl,ys0,ys1,seval,fitB,newC,endD,endR,yrg,h84,h65,hE,g28,g6,s1,b6,A_min,A_max,mm_min,mm_max,A_build st_bdS_38,hw2]
   refine ⟨(cnt - (k + 1 : Nat)).toNat, by omega, k + 1, rfl, by omega, ?_, ?_, ?_, ?_, ?_, ?_, ?_, Fr.put (fr.trans fr1) (by omega) _, by (first | omega | (simp only [yz] <;> omega)), ?_, ?_, ?_, ?_⟩
   ·simp (disch:=first|(simp only [yk,seval];done)|omega|(simp only [yz]<;>omega)|fail) only [yg,seval]
   ·simp (disch:=first|(simp only [yk,seval];done)|omega|(simp only [yz]<;>omega)|fail) only [yg,seval,g27]
   ·simp (disch:=first|(simp only [yk,seval];done)|omega|(simp only [yz]<;>omega)|fail) only [yg,seval,g1]
   ·simp (disch:=first|(simp only [yk,seval];done)|omega|(simp only [yz]<;>omega)|fail) only [yg,seval,g2]
   ·simp (disch:=first|(simp only [yk,seval];done)|omega|(simp only [yz]<;>omega)|fail) only [yg,seval,g4]
   ·simp (disch:=first|(simp only [yk,seval];done)|omega|(simp only [yz]<;>omega)|fail) only [yg,seval,g5]
   ·simp (disch:=first|(simp only [yk,seval];done)|omega|(simp only [yz]<;>omega)|fail) only [yg,seval,g6]
   ·rw [get_put_ne (by omega), s1 _ (by omega)]; exact b2
   ·rw [get_put_ne (by omega), s1 _ (by omega)]; exact b4
   ·rw [get_put_ne (by omega), s1 _ (by omega)]; exact b5
   ·rw [get_put_same (by omega), e1]
  ·rw [hE] at hpn
   have e1 : tellF PP p.f p.hi (k + 1) = tellF PP p.f p.hi k := by
    rw [hst]; unfold tellS; rw [hpn]; rfl
   simp (disch:=first|(simp only [yk,seval];done)|omega|(simp only [yz]<;>omega)|fail) only [↓yp,yq0,yq1,yq2,yq3,yq4,yl,ys0,ys1,seval,fitB,newC,endD,endR,yrg,h84,h65,hE,g28,hw2]
   refine ⟨(cnt - (k + 1 : Nat)).toNat, by omega, k + 1, rfl, by omega, ?_, ?_, ?_, ?_, ?_, ?_, ?_, fr.trans fr1, by omega, ?_, ?_, ?_, ?_⟩
   ·simp (disch:=first|(simp only [yk,seval];done)|omega|(simp only [yz]<;>omega)|fail) only [yg,seval]
   ·simp (disch:=first|(simp only [yk,seval];done)|omega|(simp only [yz]<;>omega)|fail) only [yg,seval,g27]
   ·simp (disch:=first|(simp only [yk,seval];done)|omega|(simp only [yz]<;>omega)|fail) only [yg,seval,g1]
   ·simp (disch:=first|(simp only [yk,seval];done)|omega|(simp only [yz]<;>omega)|fail) only [yg,seval,g2]
   ·simp (disch:=first|(simp only [yk,seval];done)|omega|(simp only [yz]<;>omega)|fail) only [yg,seval,g4]
   ·simp (disch:=first|(simp only [yk,seval];done)|omega|(simp only [yz]<;>omega)|fail) only [yg,seval,g5]
   ·simp (disch:=first|(simp only [yk,seval];done)|omega|(simp only [yz]<;>omega)|fail) only [yg,seval,g6]
   ·rw [s1 _ (by omega)]; exact b2
   ·rw [s1 _ (by omega)]; exact b4
   ·rw [s1 _ (by omega)]; exact b5
   ·rw [s1 _ (by omega), e1]; exact b6
 ·have hke : cnt.toNat = k := by have := of_decide_eq_false hA; omega
  rw [hke]
  simp (disch:=first|(simp only [yk,seval];done)|omega|(simp only [yz]<;>omega)|fail) only [↓yp,yq0,yq1,yq2,yq3,yq4,yl,ys0,ys1,seval,fitB,newC,endD,endR,yrg,g4,g6,b4,b6]
set_option maxHeartbeats 2000000 in
theorem c29x (h : LtR H a a' al ps gs lots l) (hgn : gs = [] → a' = none ∧ cap' = 0) (ho : 0 ≤ op ∧ op ≤ isum l) (hf : 0 ≤ fd ∧ fd ≤ op) (hne : decide (lfHi ps l op fd < lfLo ps l fd) = false) (hL : L ≤ H.size) {M : Nat} (hM : 2500 ≤ M)
  (hq : ∀ b c tl H', Fr H H' → Td ps l op fd ps.length tl → Rw spE H' (some ⟨b, 0, none⟩) tl → Q false (.tuple ⟨[.slice (some ⟨b, 0, none⟩) ps.length c, .int .i64 0]⟩) H') :
  resK (acall tabA (aexec tabA Try.prog M) 29 [.agg ⟨[.slice a ps.length cap, .slice a' gs.length cap', .int .i64 lots]⟩, .slice al l.length cl, .int .i64 op, .int .i64 fd] H) L Q := by
 obtain ⟨N, rfl⟩ : ∃ N, M = N + 2500 := ⟨M - 2500, by omega⟩
 refine call_fls (R := fun v H' => ∃ b c tl, v = .tuple ⟨[.slice (some ⟨b, 0, none⟩) ps.length c, .int .i64 0]⟩ ∧ Fr H H' ∧ Td ps l op fd ps.length tl ∧ Rw spE H' (some ⟨b, 0, none⟩) tl) (k := 42) (rs := [.tmp 8, .tmp 9]) rfl fn_29 rfl rfl rfl hL ?_ ?_ ?_
 rotate_left
 ·rintro v H' ⟨b, c, tl, rfl, -⟩; rfl
 ·rintro v H' ⟨b, c, tl, rfl, h1, h2, h3⟩
  exact hq _ _ _ _ h1 h2 h3
 have hl4 := h.st.st.l4
 have hl1 := h.st.st.l1
 simp (disch:=first|(simp only [yk,seval];done)|omega|(simp only [yz]<;>omega)|fail) only [↓yp,yq0,yq1,yq2,yq3,yq4,yl,ys0,ys1,seval,fitB,newC,endD,endR,yrg]
 refine resK_low (Nat.le_refl _) (c83a (cap := cap) (cap' := cap') (cl := cl) (h.fr (by repeat first|exact Fr.refl _|assumption|refine Fr.allocd ?_ _|refine Fr.put ?_ (by first|omega|(simp only [yz]<;>omega)) _)) ho hf (by omega) ?_) (by first|omega|(simp only [yz]<;>omega))
 intro f v H1 e1 e2 fr1
 obtain ⟨mk, rfl⟩ := e2 hne
 have f1 := fr1.size
 have s1 := fr1.same
 simp only [size_alloc] at f1 s1
 have fra : Fr H H1 := Fr.trans (by repeat first|exact Fr.refl _|assumption|refine Fr.allocd ?_ _|refine Fr.put ?_ (by first|omega|(simp only [yz]<;>omega)) _) fr1
 obtain ⟨m0, m1, m2, m3, hm⟩ := four h.mx4
 have h88 := fun (N : Nat) (H' : AHeap) (f : Fr H H') (i : Nat) (p : Pk) (hi : ps[i]? = some p) => c88x (N := N) (cap := cap) (cap' := cap') (mk := mk) (h.fr f) hgn hi ho hf
 simp only [byC,hm,tv,List.map_cons,List.map_nil,List.cons_append,List.nil_append] at h88 ⊢
 simp (disch:=first|(simp only [yk,seval];done)|omega|(simp only [yz]<;>omega)|fail) only [↓yp,yq0,yq1,yq2,yq3,yq4,yl,ys0,ys1,seval,fitB,newC,endD,endR,yrg,s1,one_map,one_map',lenV_slice st_esS_22]
 obtain ⟨ms1, ms2⟩ := made_sp hl4
 refine A_make_of (m := (ps.length : Int)) st_mkS_56 (by simp (disch:=first|(simp only [yk,seval];done)|omega|(simp only [yz]<;>omega)|fail) only [↓yp,yq0,yq1,yq2,yq3,yq4,yl,ys0,ys1,seval,fitB,newC,endD,endR,yrg]) (by omega) (by omega) (by omega) (by rw [Int.toNat_natCast]; exact ms2) (by first|omega|(simp only [yz]<;>omega)) ?_
 rw [Int.toNat_natCast, ms1]
 simp (disch:=first|(simp only [yk,seval];done)|omega|(simp only [yz]<;>omega)|fail) only [↓yp,yq0,yq1,yq2,yq3,yq4,yl,ys0,ys1,seval,fitB,newC,endD,endR,yrg,lenV_slice st_esS_56]
 refine W_while (n := 42) 1700 (fun q e' H' => ∃ (i : Nat) (tl : List (Int × Int)), q = ps.length - i ∧ i ≤ ps.length ∧ Td ps l op fd i tl ∧ gt 42 e' 31 = .int .i64 (i : Nat) ∧ gt 42 e' 30 = .int .i64 ps.length ∧ gt 42 e' 12 = .slice (some ⟨H1.size + 1, 0, none⟩) ps.length ps.length ∧ gt 42 e' 10 = .pointer (some ⟨H1.size, 0, none⟩) ∧ Fr H H' ∧ H1.size + 1 < H'.size ∧ H'.get H1.size = .rw [.slice a ps.length cap, .slice a' gs.length cap', .int .i64 lots, .map (some mk), .int .i64 m0, .int .i64 m1, .int .i64 m2, .int .i64 m3, .int .i64 op, .int .i64 fd] 134 false [] ∧ H'.get (H1.size + 1) = .rw (spE.fl tl) 38 false [])
  ?_ 4 ps.length ⟨0, List.replicate ps.length (0, 0), by omega, by omega, ⟨by simp, fun _ _ h => by omega⟩, ?_, ?_, ?_, ?_, by (repeat (first | exact Fr.refl _ | assumption | refine Fr.allocd ?_ _ | refine Fr.put ?_ (by first | omega | (simp only [yz] <;> omega)) _)), by (first | omega | (simp only [yz] <;> omega)), ?_, ?_⟩ (by omega) (by omega)
 rotate_left
 ·simp (disch:=first|(simp only [yk,seval];done)|omega|(simp only [yz]<;>omega)|fail) only [yg,seval] <;> rfl
 ·simp (disch:=first|(simp only [yk,seval];done)|omega|(simp only [yz]<;>omega)|fail) only [yg,seval]
 ·simp (disch:=first|(simp only [yk,seval];done)|omega|(simp only [yz]<;>omega)|fail) only [yg,seval]
 ·simp (disch:=first|(simp only [yk,seval];done)|omega|(simp only [yz]<;>omega)|fail) only [yg,seval]
 ·simp (disch:=first|(simp only [yk,seval];done)|omega|(simp only [yz]<;>omega)|fail) only [yg,seval]
 ·simp (disch:=first|(simp only [yk,seval];done)|omega|(simp only [yz]<;>omega)|fail) only [yg,seval]
 rintro M1 q e H' ⟨i, tl, rfl, hi, td, g31, g30, g12, g10, fr, lt, b10, bt⟩
 have frs := fr.size
 simp (disch:=first|(simp only [yk,seval];done)|omega|(simp only [yz]<;>omega)|fail) only [↓yp,yq0,yq1,yq2,yq3,yq4,yl,ys0,ys1,seval,fitB,newC,endD,endR,yrg,g31,g30]
 refine ⟨fun hA => ?_, fun hA => ?_⟩
 ·have hlt : i < ps.length := by simpa using hA
  obtain ⟨p, hp⟩ : ∃ p, ps[i]? = some p := ⟨ps[i], by simp [hlt]⟩
  have hw2 : w64 ((i : Int) + 1) = ((i + 1 : Nat) : Int) := by rw [w64_of (by omega)]; omega
  have h88' := fun (N : Nat) => h88 N H' fr i p hp
  have tdn := td.next hp
  have hset : newC (i * 2) [.int .i64 (toldV ps l op fd i p).1, .int .i64 (toldV ps l op fd i p).2] (spE.fl tl) = spE.fl (tl.set i (toldV ps l op fd i p)) := newC_fl (E := spE) (by rw [td.len]; exact hlt)
  have hfit : decide (i * 2 + 2 ≤ (spE.fl tl).length) = true := by
   rw [fl_length, td.len]
   simp only [decide_eq_true_eq]
   show i * 2 + 2 ≤ ps.length * 2
   omega
  have htv : tellF (nonE ps l op fd i p) p.f p.hi (p.hi - p.f + 1).toNat = toldV ps l op fd i p := rfl
  rw [htv] at h88'
  simp (disch:=first|(simp only [yk,seval];done)|omega|(simp only [yz]<;>omega)|fail) only [↓yp,yq0,yq1,yq2,yq3,yq4,yl,ys0,ys1,seval,fitB,newC,endD,endR,yrg,g31,g12,g10,b10,part_10,h88',A_indexSlice st_esS_56,bt,hset,hfit,hw2]
  refine ⟨ps.length - (i + 1), by omega, i + 1, tl.set i (toldV ps l op fd i p), rfl, by omega, tdn, ?_, ?_, ?_, ?_, Fr.put fr (by omega) _, by (first | omega | (simp only [yz] <;> omega)), ?_, ?_⟩
  ·simp (disch:=first|(simp only [yk,seval];done)|omega|(simp only [yz]<;>omega)|fail) only [yg,seval]
  ·simp (disch:=first|(simp only [yk,seval];done)|omega|(simp only [yz]<;>omega)|fail) only [yg,seval,g30]
  ·simp (disch:=first|(simp only [yk,seval];done)|omega|(simp only [yz]<;>omega)|fail) only [yg,seval,g12]
  ·simp (disch:=first|(simp only [yk,seval];done)|omega|(simp only [yz]<;>omega)|fail) only [yg,seval,g10]
  ·rw [get_put_ne (by omega)]; exact b10
  ·rw [get_put_same (by omega), ← hset]; rfl
 ·have hie : i = ps.length := by have := of_decide_eq_false hA; omega
  rw [hie] at td
  simp (disch:=first|(simp only [yk,seval];done)|omega|(simp only [yz]<;>omega)|fail) only [↓yp,yq0,yq1,yq2,yq3,yq4,yl,ys0,ys1,seval,fitB,newC,endD,endR,yrg,g12]
  exact ⟨H1.size + 1, _, tl, rfl, fr, td, Rw.of (r := []) lt (by rw [bt]; rfl) (by rw [List.append_nil])⟩
end
end Go.Am.K
namespace Go.Am.K
open Go.Proofs
variable {T : Tab} {P : Program} {N L : Nat} {H H' H'' : AHeap} {Q : Bool → Value → AHeap → Prop}
section
variable {a a' : Option Addr} {cap cap' : Nat} {l : List Int} {tl : List (Int × Int)}
theorem c24n : acall tabA (aexec tabA Try.prog (N + 60)) 24 [.slice a 0 cap] H = some (true, .slice none 0 0, H, H.size) := by
 refine call_quiet (k := 9) (rs := [.tmp 2]) rfl fn_24 rfl rfl rfl ?_ rfl
 simp (disch:=first|(simp only [yk,seval];done)|omega|(simp only [yz]<;>omega)|fail) only [↓yp,yq0,yq1,yq2,yq3,yq4,yl,ys0,ys1,seval,fitB,newC,endD,endR,yrg,lenV_slice st_esS_49,Int.natCast_zero]
theorem c32 (hs : Rw intE H a l) (hs' : Rw intE H a' l) (hl : l.length ≤ 65) : acall tabA (aexec tabA Try.prog (N + 150)) 32 [.slice a l.length cap, .slice a' l.length cap'] H = some (true, .bool true, H, H.size) := by
 refine call_quiet (k := 26) (rs := [.tmp 4]) rfl fn_32 rfl rfl rfl ?_ rfl
 have hll : decide ((l.length : Int) = (l.length : Int)) = true := by simp
 simp (disch:=first|(simp only [yk,seval];done)|omega|(simp only [yz]<;>omega)|fail) only [↓yp,yq0,yq1,yq2,yq3,yq4,yl,ys0,ys1,seval,fitB,newC,endD,endR,yrg,lenV_slice st_esS_49,hll]
 refine W_while (n := 26) 70 (fun k e H' => ∃ i, k = l.length - i ∧ i ≤ l.length ∧ gt 26 e 14 = .int .i64 (i : Nat) ∧ gt 26 e 13 = .int .i64 l.length ∧ gt 26 e 12 = .slice a l.length cap ∧ gt 26 e 1 = .slice a' l.length cap' ∧ H' = H)
  ?_ 65 l.length ⟨0, by omega, by omega, by simp (disch:=first|(simp only [yk,seval];done)|omega|(simp only [yz]<;>omega)|fail) only [yg,seval] <;> rfl, by simp (disch:=first|(simp only [yk,seval];done)|omega|(simp only [yz]<;>omega)|fail) only [yg,seval], by simp (disch:=first|(simp only [yk,seval];done)|omega|(simp only [yz]<;>omega)|fail) only [yg,seval], by simp (disch:=first|(simp only [yk,seval];done)|omega|(simp only [yz]<;>omega)|fail) only [yg,seval], rfl⟩ (by omega) (by omega)
 rintro M k e H' ⟨i, rfl, hi, g14, g13, g12, g1, rfl⟩
 simp (disch:=first|(simp only [yk,seval];done)|omega|(simp only [yz]<;>omega)|fail) only [↓yp,yq0,yq1,yq2,yq3,yq4,yl,ys0,ys1,seval,fitB,newC,endD,endR,yrg,g14,g13,g12,g1]
 refine ⟨fun hlt => ?_, fun hlt => ?_⟩
 ·have hi' : i < l.length := by simpa using hlt
  obtain ⟨x, hx⟩ : ∃ x, l[i]? = some x := ⟨l[i], by simp [hi']⟩
  obtain ⟨b, o, c, rfl, hb, hc, hp⟩ := hs.at_ hx
  obtain ⟨b', o', c', rfl, hb', hc', hp'⟩ := hs'.at_ hx
  have q := cell_of hp
  have q' := cell_of hp'
  rw [show i * intE.z = i * 1 from rfl, Nat.mul_one] at q q'
  have hw2 : w64 ((i : Int) + 1) = ((i + 1 : Nat) : Int) := by rw [w64_of (by omega)]; omega
  have hxx : decide (x = x) = true := by simp
  simp (disch:=first|(simp only [yk,seval];done)|omega|(simp only [yz]<;>omega)|fail) only [↓yp,yq0,yq1,yq2,yq3,yq4,yl,ys0,ys1,seval,fitB,newC,endD,endR,yrg,g14,g13,g12,g1,A_indexSlice st_esS_49,hc,q,hc',q',hxx,hw2]
  refine ⟨l.length - (i + 1), by omega, i + 1, rfl, by omega, ?_, ?_, ?_, ?_, rfl⟩
  ·simp (disch:=first|(simp only [yk,seval];done)|omega|(simp only [yz]<;>omega)|fail) only [yg,seval]
  ·simp (disch:=first|(simp only [yk,seval];done)|omega|(simp only [yz]<;>omega)|fail) only [yg,seval,g13]
  ·simp (disch:=first|(simp only [yk,seval];done)|omega|(simp only [yz]<;>omega)|fail) only [yg,seval,g12]
  ·simp (disch:=first|(simp only [yk,seval];done)|omega|(simp only [yz]<;>omega)|fail) only [yg,seval,g1]
 ·simp (disch:=first|(simp only [yk,seval];done)|omega|(simp only [yz]<;>omega)|fail) only [↓yp,yq0,yq1,yq2,yq3,yq4,yl,ys0,ys1,seval,fitB,newC,endD,endR,yrg]
theorem c31 (hs : Rw spE H a tl) (hs' : Rw spE H a' tl) (hl : tl.length ≤ 65) : acall tabA (aexec tabA Try.prog (N + 150)) 31 [.slice a tl.length cap, .slice a' tl.length cap'] H = some (true, .bool true, H, H.size) := by
 refine call_quiet (k := 26) (rs := [.tmp 4]) rfl fn_31 rfl rfl rfl ?_ rfl
 have hll : decide ((tl.length : Int) = (tl.length : Int)) = true := by simp
 simp (disch:=first|(simp only [yk,seval];done)|omega|(simp only [yz]<;>omega)|fail) only [↓yp,yq0,yq1,yq2,yq3,yq4,yl,ys0,ys1,seval,fitB,newC,endD,endR,yrg,lenV_slice st_esS_56,hll]
 refine W_while (n := 26) 70 (fun k e H' => ∃ i, k = tl.length - i ∧ i ≤ tl.length ∧ gt 26 e 14 = .int .i64 (i : Nat) ∧ gt 26 e 13 = .int .i64 tl.length ∧ gt 26 e 12 = .slice a tl.length cap ∧ gt 26 e 1 = .slice a' tl.length cap' ∧ Fr H H')
  ?_ 65 tl.length ⟨0, by omega, by omega, by simp (disch:=first|(simp only [yk,seval];done)|omega|(simp only [yz]<;>omega)|fail) only [yg,seval] <;> rfl, by simp (disch:=first|(simp only [yk,seval];done)|omega|(simp only [yz]<;>omega)|fail) only [yg,seval], by simp (disch:=first|(simp only [yk,seval];done)|omega|(simp only [yz]<;>omega)|fail) only [yg,seval], by simp (disch:=first|(simp only [yk,seval];done)|omega|(simp only [yz]<;>omega)|fail) only [yg,seval], Fr.refl _⟩ (by omega) (by omega)
 rintro M k e H' ⟨i, rfl, hi, g14, g13, g12, g1, fr⟩
 have f0 := fr.size
 have fs := fr.same
 simp (disch:=first|(simp only [yk,seval];done)|omega|(simp only [yz]<;>omega)|fail) only [↓yp,yq0,yq1,yq2,yq3,yq4,yl,ys0,ys1,seval,fitB,newC,endD,endR,yrg,g14,g13,g12,g1]
 refine ⟨fun hlt => ?_, fun hlt => ?_⟩
 ·have hi' : i < tl.length := by simpa using hlt
  obtain ⟨x, hx⟩ : ∃ x, tl[i]? = some x := ⟨tl[i], by simp [hi']⟩
  obtain ⟨b, o, c, rfl, hb, hc, hp⟩ := hs.at_ hx
  obtain ⟨b', o', c', rfl, hb', hc', hp'⟩ := hs'.at_ hx
  have q : part c (o + i * 2) (2 + 1) = some (.agg ⟨[.int .i64 x.1, .int .i64 x.2]⟩) := part_of hp rfl
  have q' : part c' (o' + i * 2) (2 + 1) = some (.agg ⟨[.int .i64 x.1, .int .i64 x.2]⟩) := part_of hp' rfl
  simp only [Nat.reduceAdd] at q q'
  have hw2 : w64 ((i : Int) + 1) = ((i + 1 : Nat) : Int) := by rw [w64_of (by omega)]; omega
  simp (disch:=first|(simp only [yk,seval];done)|omega|(simp only [yz]<;>omega)|fail) only [↓yp,yq0,yq1,yq2,yq3,yq4,yl,ys0,ys1,seval,fitB,newC,endD,endR,yrg,g14,g13,g12,g1,fs,A_indexSlice st_esS_56,hc,q]
  refine W_draw [] rfl (by kernel_rfl) (by kernel_rfl) (by first|omega|(simp only [yz]<;>omega)) ?_
  simp (disch:=first|(simp only [yk,seval];done)|omega|(simp only [yz]<;>omega)|fail) only [↓yp,yq0,yq1,yq2,yq3,yq4,yl,ys0,ys1,seval,fitB,newC,endD,endR,yrg,g14,g13,g12,g1,fs,A_indexSlice st_esS_56,hc,q,hc',q',neq38,hw2]
  refine ⟨tl.length - (i + 1), by omega, i + 1, rfl, by omega, ?_, ?_, ?_, ?_, ?_⟩
  ·simp (disch:=first|(simp only [yk,seval];done)|omega|(simp only [yz]<;>omega)|fail) only [yg,seval]
  ·simp (disch:=first|(simp only [yk,seval];done)|omega|(simp only [yz]<;>omega)|fail) only [yg,seval,g13]
  ·simp (disch:=first|(simp only [yk,seval];done)|omega|(simp only [yz]<;>omega)|fail) only [yg,seval,g12]
  ·simp (disch:=first|(simp only [yk,seval];done)|omega|(simp only [yz]<;>omega)|fail) only [yg,seval,g1]
  ·exact (fr.allocd _).put (by omega) _
 ·simp (disch:=first|(simp only [yk,seval];done)|omega|(simp only [yz]<;>omega)|fail) only [↓yp,yq0,yq1,yq2,yq3,yq4,yl,ys0,ys1,seval,fitB,newC,endD,endR,yrg]
end
end Go.Am.K
namespace Go.Am.K
open Go.Proofs
variable {T : Tab} {P : Program} {N L : Nat} {H H' H'' : AHeap} {Q : Bool → Value → AHeap → Prop}
structure BD (H H' : AHeap) (a : Option Addr) (cap : Nat) (a' : Option Addr) (cap' : Nat) (al : Option Addr) (cl : Nat) (x : Option Addr) (c : Nat) (x' : Option Addr) (c' : Nat) (w : Option Addr) (cw : Nat) (u : Option Addr) (d : Nat) (u' : Option Addr) (d' : Nat) (ps : List Pk) (gs : List Gd) (lots : Int) (l : List Int) (y z : Int) (e : VT) : Prop where
 s : Rw pkE H' a ps
 s' : Rw gdE H' a' gs
 t : Rw intE H' al l
 o : Rw pkE H' x ps
 o' : Rw gdE H' x' gs
 m : Rw intE H' w l
 r : Rw pkE H' u ps
 r' : Rw gdE H' u' gs
 on : gs = [] → x' = none ∧ c' = 0
 sz : H.size + 1 + 1 < H'.size
 b4 : H'.get H.size = .rw [.slice a ps.length cap, .slice a' gs.length cap', .int .i64 lots] 25 false []
 b9 : H'.get (H.size + 1) = .rw [.slice x ps.length c, .slice x' gs.length c', .int .i64 lots] 25 false []
 b11 : H'.get (H.size + 1 + 1) = .rw [.slice u ps.length d, .slice u' gs.length d', .int .i64 lots] 32 false []
 g1 : gt 119 e 1 = .slice al l.length cl
 g2 : gt 119 e 2 = .int .i64 y
 g3 : gt 119 e 3 = .int .i64 z
 g4 : gt 119 e 4 = .pointer (some ⟨H.size, 0, none⟩)
 g9 : gt 119 e 9 = .pointer (some ⟨H.size + 1, 0, none⟩)
 g10 : gt 119 e 10 = .slice w l.length cw
 g11 : gt 119 e 11 = .pointer (some ⟨H.size + 1 + 1, 0, none⟩)
section
variable {a a' al x x' w u u' : Option Addr} {cap cap' cl c c' cw d d' : Nat} {ps : List Pk} {gs : List Gd} {lots y z : Int} {l : List Int} {e e' : VT}
theorem BD.next (I : BD H H' a cap a' cap' al cl x c x' c' w cw u d u' d' ps gs lots l y z e) (f : Fr H' H'') (h : Keep 119 [1, 2, 3, 4, 9, 10, 11] e e') : BD H H'' a cap a' cap' al cl x c x' c' w cw u d u' d' ps gs lots l y z e' where
 s := I.s.fr f
 s' := I.s'.fr f
 t := I.t.fr f
 o := I.o.fr f
 o' := I.o'.fr f
 m := I.m.fr f
 r := I.r.fr f
 r' := I.r'.fr f
 on := I.on
 sz := Nat.lt_of_lt_of_le I.sz f.size
 b4 := (f.same _ (by have := I.sz; omega)).trans I.b4
 b9 := (f.same _ (by have := I.sz; omega)).trans I.b9
 b11 := (f.same _ I.sz).trans I.b11
 g1 := (h 1 (by decide)).trans I.g1
 g2 := (h 2 (by decide)).trans I.g2
 g3 := (h 3 (by decide)).trans I.g3
 g4 := (h 4 (by decide)).trans I.g4
 g9 := (h 9 (by decide)).trans I.g9
 g10 := (h 10 (by decide)).trans I.g10
 g11 := (h 11 (by decide)).trans I.g11
set_option maxHeartbeats 8000000 in
set_option maxRecDepth 10000 in
theorem c4e (I : BD H H' a cap a' cap' al cl x c x' c' w cw u d u' d' ps gs lots l y z e) (hl : ps.length ≤ 6) (hgl : gs.length ≤ 6) (hll : l.length ≤ 8) (he : byE ps gs lots l y z ≠ 0) :
  W tabA Try.prog (N + 4500) none (sub [true, true, true, true, true, true, true, true, true] (bodyOf Try.f4)) H.size ⟨119, e, H', []⟩ (retK tabA H.size [.tmp 8] fun u _ => u = .bool true) := by
 have sz := I.sz
 have g1 := I.g1
 have g2 := I.g2
 have g3 := I.g3
 have g4 := I.g4
 have g9 := I.g9
 have g10 := I.g10
 have g11 := I.g11
 have b4 := I.b4
 have b9 := I.b9
 have b11 := I.b11
 have h29 := fun (N : Nat) => c29e (N := N) (cap := c) (cap' := c') (cl := cw) I.o I.o' I.m hll he
 have h30 := fun (N : Nat) => c30e (N := N) (cap := d) (cap' := d') (cl := cl) I.r I.r' I.t hll he
 obtain ⟨er, her⟩ : ∃ er, byE ps gs lots l y z = er := ⟨_, rfl⟩
 rw [her] at h29 h30
 have hre : decide (er = er) = true := by simp
 have h31 : ∀ (N : Nat) (H : AHeap), acall tabA (aexec tabA Try.prog (N + 150)) 31 [.slice none 0 0, .slice none 0 0] H = some (true, .bool true, H, H.size) := fun N H => c31 (tl := []) Rw.nil Rw.nil (by simp)
 have h32 := fun (N : Nat) => c32 (N := N) (cap := cw) (cap' := cl) I.m I.t (by omega)
 have h22 := fun (N : Nat) => c22 (N := N) (cap := c) (cap' := cap) (c1 := c') (c2 := cap') (lots := lots) I.o I.s I.o' I.s' (by omega) (by omega)
 have haw := fun (N : Nat) (H : AHeap) => awake_known (ex := aexec tabA Try.prog N) (H := H)
 simp only [Try.f4,bodyOf,sub_nil,sub_seq0,sub_seq1,sub_block,sub_loop,sub_cond0,sub_cond1]
 simp (disch:=first|(simp only [yk,seval];done)|omega|(simp only [yz]<;>omega)|fail) only [↓yp,yq0,yq1,yq2,yq3,yq4,yl,ys0,ys1,seval,fitB,newC,endD,endR,yrg,g1,g2,g3,g9,g10,b9,h29]
 simp (disch:=first|(simp only [yk,seval];done)|omega|(simp only [yz]<;>omega)|fail) only [↓yp,yq0,yq1,yq2,yq3,yq4,yl,ys0,ys1,seval,fitB,newC,endD,endR,yrg,g1,g2,g3,g11,b11,h30]
 simp (disch:=first|(simp only [yk,seval];done)|omega|(simp only [yz]<;>omega)|fail) only [↓yp,yq0,yq1,yq2,yq3,yq4,yl,ys0,ys1,seval,fitB,newC,endD,endR,yrg,g1,g4,g9,g10,b4,b9,hre,h31,h32,h22,haw]
set_option maxHeartbeats 8000000 in
set_option maxRecDepth 10000 in
theorem c4o (I : BD H H' a cap a' cap' al cl x c x' c' w cw u d u' d' ps gs lots l y z e) (hl : ps.length ≤ 6) (hgl : gs.length ≤ 6) (hll : l.length ≤ 8) (he : byE ps gs lots l y z = 0) :
  W tabA Try.prog (N + 4500) none (sub [true, true, true, true, true, true, true, true, true] (bodyOf Try.f4)) H.size ⟨119, e, H', []⟩ (retK tabA H.size [.tmp 8] fun u _ => u = .bool true) := by
 have sz := I.sz
 have g1 := I.g1
 have g2 := I.g2
 have g3 := I.g3
 have g4 := I.g4
 have g9 := I.g9
 have g10 := I.g10
 have g11 := I.g11
 have b9 := I.b9
 have hre : decide ((0 : Int) = 0) = true := rfl
 have haw := fun (N : Nat) (H : AHeap) => awake_known (ex := aexec tabA Try.prog N) (H := H)
 obtain ⟨hlE, hop, hfd, hne⟩ := byE_ok he
 simp only [Try.f4,bodyOf,sub_nil,sub_seq0,sub_seq1,sub_block,sub_loop,sub_cond0,sub_cond1]
 simp (disch:=first|(simp only [yk,seval];done)|omega|(simp only [yz]<;>omega)|fail) only [↓yp,yq0,yq1,yq2,yq3,yq4,yl,ys0,ys1,seval,fitB,newC,endD,endR,yrg,g1,g2,g3,g9,g10,b9]
 refine c29x (cap := c) (cap' := c') (cl := cw) (LtR.of I.o I.o' I.m hlE) I.on hop hfd hne (by first|omega|(simp only [yz]<;>omega)) (by omega) ?_
 intro b1 c1 tl H2 fr2 td rt
 have f2 := fr2.size
 have I2 := I.next fr2 (Keep.refl _ _ _)
 have b112 := I2.b11
 simp (disch:=first|(simp only [yk,seval];done)|omega|(simp only [yz]<;>omega)|fail) only [↓yp,yq0,yq1,yq2,yq3,yq4,yl,ys0,ys1,seval,fitB,newC,endD,endR,yrg,g1,g2,g3,g11,b112]
 refine c30 (cap := d) (cap' := d') (cl := cl) I2.r I2.r' I2.t he (by first|omega|(simp only [yz]<;>omega)) (by omega) ?_
 intro b2 c2 tl' H3 fr3 td' rt'
 have f3 := fr3.size
 obtain rfl := td.eq td'
 have I3 := I2.next fr3 (Keep.refl _ _ _)
 have h31 := fun (N : Nat) => c31 (N := N) (cap := c1) (cap' := c2) (rt.fr fr3) rt' (by rw [td.len]; omega)
 simp only [td.len] at h31
 have h32 := fun (N : Nat) => c32 (N := N) (cap := cw) (cap' := cl) I3.m I3.t (by omega)
 have h22 := fun (N : Nat) => c22 (N := N) (cap := c) (cap' := cap) (c1 := c') (c2 := cap') (lots := lots) I3.o I3.s I3.o' I3.s' (by omega) (by omega)
 have b43 := I3.b4
 have b93 := I3.b9
 simp (disch:=first|(simp only [yk,seval];done)|omega|(simp only [yz]<;>omega)|fail) only [↓yp,yq0,yq1,yq2,yq3,yq4,yl,ys0,ys1,seval,fitB,newC,endD,endR,yrg,g1,g4,g9,g10,b43,b93,hre,h31,h32,h22,haw]
set_option maxHeartbeats 8000000 in
set_option maxRecDepth 10000 in
theorem c4b (I : BD H H' a cap a' cap' al cl x c x' c' w cw u d u' d' ps gs lots l y z e) (hl : ps.length ≤ 6) (hgl : gs.length ≤ 6) (hll : l.length ≤ 8) :
  W tabA Try.prog (N + 4600) none (sub [true, true, true] (bodyOf Try.f4)) H.size ⟨119, e, H', []⟩ (retK tabA H.size [.tmp 8] fun u _ => u = .bool true) := by
 have sz := I.sz
 have g1 := I.g1
 have g2 := I.g2
 have g3 := I.g3
 have g9 := I.g9
 have g10 := I.g10
 have g11 := I.g11
 have b9 := I.b9
 have b11 := I.b11
 obtain ⟨kb, er, h25, h26⟩ : ∃ (kb : Bool) (er : Int), (∀ N, acall tabA (aexec tabA Try.prog (N + 500)) 25 [.agg ⟨[.slice x ps.length c, .slice x' gs.length c', .int .i64 lots]⟩, .slice w l.length cw, .int .i64 y, .int .i64 z] H' = some (true, .tuple ⟨[.bool kb, .int .i64 er]⟩, H', H'.size)) ∧ ∀ N, acall tabA (aexec tabA Try.prog (N + 2000)) 26 [.agg ⟨[.slice u ps.length d, .slice u' gs.length d', .int .i64 lots]⟩, .slice al l.length cl, .int .i64 y, .int .i64 z] H' = some (true, .tuple ⟨[.bool kb, .int .i64 er]⟩, H', H'.size) := by
  by_cases he : lotE ps gs lots l = 0
  ·have h := LtR.of I.o I.o' I.m he
   have h26 := fun (N : Nat) => c26 (N := N) (cap := d) (cap' := d') (cl := cl) (y := y) (z := z) I.r I.r' I.t he
   cases hr : wi y 0 (isum l) && decide (0 ≤ z)
   ·simp only [hr,cond_false] at h26
    exact ⟨_, _, fun N => c25r h hr, h26⟩
   ·simp only [hr,cond_true] at h26
    unfold wi at hr
    simp only [Bool.and_eq_true,decide_eq_true_eq] at hr
    exact ⟨_, _, fun N => c25 h hr.1 hr.2, h26⟩
  ·exact ⟨_, _, fun N => c25e I.o I.o' I.m hll he, fun N => c26e I.r I.r' I.t hll he⟩
 have hre : decide (er = er) = true := by simp
 obtain ⟨lo, hi, er2, h27, h28⟩ : ∃ (lo hi er2 : Int), (∀ (N : Nat) (H2 : AHeap), Fr H' H2 → acall tabA (aexec tabA Try.prog (N + 1100)) 27 [.agg ⟨[.slice x ps.length c, .slice x' gs.length c', .int .i64 lots]⟩, .slice w l.length cw, .int .i64 y, .int .i64 z] H2 = some (true, .tuple ⟨[.agg ⟨[.int .i64 lo, .int .i64 hi]⟩, .int .i64 er2]⟩, H2, H2.size)) ∧ ∀ (N : Nat) (H2 : AHeap), Fr H' H2 → acall tabA (aexec tabA Try.prog (N + 3000)) 28 [.agg ⟨[.slice u ps.length d, .slice u' gs.length d', .int .i64 lots]⟩, .slice al l.length cl, .int .i64 y, .int .i64 z] H2 = some (true, .tuple ⟨[.agg ⟨[.int .i64 lo, .int .i64 hi]⟩, .int .i64 er2]⟩, H2, H2.size) := by
  have h27 := fun (N : Nat) (H2 : AHeap) (f : Fr H' H2) => c27g (N := N) (cap := c) (cap' := c') (cl := cw) (op := y) (fd := z) (lots := lots) (I.o.fr f) (I.o'.fr f) (I.m.fr f) hll
  by_cases he : lotE ps gs lots l = 0
  ·have h28 := fun (N : Nat) (H2 : AHeap) (f : Fr H' H2) => c28 (N := N) (cap := d) (cap' := d') (cl := cl) (op := y) (fd := z) (I.r.fr f) (I.r'.fr f) (I.t.fr f) he
   cases hb : decide (byE ps gs lots l y z = 0)
   ·simp only [hb,cond_false] at h27 h28
    exact ⟨_, _, _, h27, h28⟩
   ·simp only [hb,cond_true] at h27 h28
    exact ⟨_, _, _, h27, h28⟩
  ·simp only [byE_bad he,decide_eq_false he,cond_false] at h27
   exact ⟨_, _, _, h27, fun N H2 f => c28e (I.r.fr f) (I.r'.fr f) (I.t.fr f) hll he⟩
 have hre2 : decide (er2 = er2) = true := by simp
 obtain ⟨TL, hTL⟩ : ∃ c, sub [true, true, true, true, true, true, true, true, true] (bodyOf Try.f4) = c := ⟨_, rfl⟩
 have hend : ∀ (N : Nat) (H2 : AHeap) (e2 : VT), BD H H2 a cap a' cap' al cl x c x' c' w cw u d u' d' ps gs lots l y z e2 → W tabA Try.prog (N + 4500) none TL H.size ⟨119, e2, H2, []⟩ (retK tabA H.size [.tmp 8] fun u _ => u = .bool true) := fun N H2 e2 I2 => by
  rw [← hTL]
  by_cases he : byE ps gs lots l y z = 0
  ·exact c4o I2 hl hgl hll he
  ·exact c4e I2 hl hgl hll he
 simp only [Try.f4,bodyOf,sub_nil,sub_seq0,sub_seq1,sub_block,sub_loop,sub_cond0,sub_cond1] at hTL ⊢
 rw [hTL]
 clear hTL
 simp (disch:=first|(simp only [yk,seval];done)|omega|(simp only [yz]<;>omega)|fail) only [↓yp,yq0,yq1,yq2,yq3,yq4,yl,ys0,ys1,seval,fitB,newC,endD,endR,yrg,g1,g2,g3,g9,g10,g11,b9,b11,h25,h26,neB,hre]
 rw [h27 _ _ (by repeat first|exact Fr.refl _|assumption|refine Fr.allocd ?_ _|refine Fr.put ?_ (by first|omega|(simp only [yz]<;>omega)) _)]
 simp (disch:=first|(simp only [yk,seval];done)|omega|(simp only [yz]<;>omega)|fail) only [↓yp,yq0,yq1,yq2,yq3,yq4,yl,ys0,ys1,seval,fitB,newC,endD,endR,yrg,g1,g2,g3,g11,b11]
 rw [h28 _ _ (by repeat first|exact Fr.refl _|assumption|refine Fr.allocd ?_ _|refine Fr.put ?_ (by first|omega|(simp only [yz]<;>omega)) _)]
 simp (disch:=first|(simp only [yk,seval];done)|omega|(simp only [yz]<;>omega)|fail) only [↓yp,yq0,yq1,yq2,yq3,yq4,yl,ys0,ys1,seval,fitB,newC,endD,endR,yrg,neq38,hre2]
 exact hend _ _ _ (I.next (by repeat first|exact Fr.refl _|assumption|refine Fr.allocd ?_ _|refine Fr.put ?_ (by first|omega|(simp only [yz]<;>omega)) _) (by (with_reducible repeat first|refine Keep.put ?_ (by decide)|refine Keep.none ?_|assumption|exact Keep.refl _ _ _)))
end
end Go.Am.K
