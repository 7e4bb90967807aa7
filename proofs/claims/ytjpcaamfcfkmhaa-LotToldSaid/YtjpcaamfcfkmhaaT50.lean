import Derived.Test.YtjpcaamfcfkmhaaT49
set_option linter.unusedSimpArgs false
set_option linter.unusedVariables false
namespace Go.Am.K
open Go.Proofs
variable {T : Tab} {P : Program} {N L : Nat} {H H' H'' : AHeap} {Q : Bool → Value → AHeap → Prop}
theorem part_10_3 {a0 a1 a2 a3 a4 a5 a6 a7 a8 a9 : Value} : part [a0, a1, a2, a3, a4, a5, a6, a7, a8, a9] 0 4 = some (.agg ⟨[a0, a1, a2]⟩) := nr rfl
theorem StOk.chk {ps : List Pk} {gs : List Gd} {lots : Int} (h : StOk ps gs lots) : chkS ps gs lots = 0 := by
 have e1 : chk1 ps gs = false := by
  unfold chk1 wi
  simp only [Bool.or_eq_false_iff,Bool.not_eq_false',Bool.and_eq_true,decide_eq_true_eq,decide_eq_false_iff_not]
  have := h.l1
  have := h.l4
  have := h.g4
  omega
 have e4 : chk2 ps gs lots = false := by
  unfold chk2 wi
  rw [h.pb, h.gb]
  have := h.lo
  simp only [Bool.not_true,Bool.or_self,Bool.false_or,Bool.not_eq_false',Bool.and_eq_true,decide_eq_true_eq]
  omega
 have e5 : (ps.all fun p => !decide (p.hi < p.f)) = true := List.all_eq_true.2 fun p hp => by
  have := h.sp p hp
  simp only [Bool.not_eq_true',decide_eq_false_iff_not]
  omega
 unfold chkS
 rw [e1, e4, h.od, e5]; rfl
theorem kn_hi {p : Pk} {n : Int} (hp : p.Ok) (h : p.f ≤ n ∧ n ≤ p.hi) : (kn p n).hi = n := by
 obtain ⟨h1, h2, h3, h4⟩ := hp
 have h5 : p.hi ≤ p.s := by unfold Pk.hi; split <;> omega
 show (if p.s - p.s + n < p.s then p.s - p.s + n else p.s) = n
 split <;> omega
theorem kn_ok {ps : List Pk} {gs : List Gd} {lots n : Int} {i : Nat} {p : Pk} (h : StOk ps gs lots) (hi : ps[i]? = some p) (hn : p.f ≤ n ∧ n ≤ p.hi) : StOk (ps.set i (kn p n)) gs lots := by
 have hpm := List.mem_of_getElem? hi
 have hpo := Pk.isB_ok (List.all_eq_true.1 h.pb p hpm)
 have hk := kn_hi hpo hn
 obtain ⟨h1, h2, h3, h4⟩ := hpo
 have h5 : p.hi ≤ p.s := by unfold Pk.hi; split <;> omega
 have hb : (kn p n).isB = true := by
  unfold Pk.isB wi kn
  simp only [Bool.and_eq_true,decide_eq_true_eq]
  omega
 refine ⟨by rw [List.length_set]; exact h.l1, by rw [List.length_set]; exact h.l4, h.g4, List.all_eq_true.2 fun q hq => ?_, h.gb, h.lo, h.od, fun q hq => ?_⟩
 ·rcases List.mem_or_eq_of_mem_set hq with hq | rfl
  ·exact List.all_eq_true.1 h.pb q hq
  ·exact hb
 ·rcases List.mem_or_eq_of_mem_set hq with hq | rfl
  ·exact h.sp q hq
  ·rw [hk]; exact Int.le_refl _
theorem kn_lot {ps : List Pk} {l : List Int} {n : Int} {i : Nat} {p : Pk} (h : LotOk ps l) (hi : ps[i]? = some p) : LotOk (ps.set i (kn p n)) l := by
 refine ⟨by rw [List.length_set]; exact h.len, fun j m q hm hq => ?_⟩
 by_cases e : i = j
 ·subst e
  rw [List.getElem?_set_self ((List.getElem?_eq_some_iff.1 hi).1)] at hq
  cases hq
  exact h.ok i m p hm hi
 ·rw [List.getElem?_set_ne e] at hq
  exact h.ok j m q hm hq
section
variable {a a' al : Option Addr} {cap cap' cl mk i : Nat} {ps : List Pk} {gs : List Gd} {lots : Int} {l : List Int} {op fd n : Int} {p : Pk}
set_option maxHeartbeats 2000000 in
theorem c117 (h : LtR H a a' al ps gs lots l) (hg1 : gs ≠ []) (hi : ps[i]? = some p) (hL : L ≤ H.size) {M : Nat} (hM : 300 ≤ M)
  (hq : ∀ k c k' c' mk' H', Fr H H' → Rw pkE H' (some ⟨k, 0, none⟩) (ps.set i (kn p n)) → Rw gdE H' (some ⟨k', 0, none⟩) gs → Q false (.agg ⟨byC (.slice (some ⟨k, 0, none⟩) ps.length c) (.slice (some ⟨k', 0, none⟩) gs.length c') lots mk' l op fd⟩) H') :
  resK (acall tabA (aexec tabA Try.prog M) 117 [.agg ⟨byC (.slice a ps.length cap) (.slice a' gs.length cap') lots mk l op fd⟩, .int .i64 (i : Nat), .int .i64 n] H) L Q := by
 obtain ⟨N, rfl⟩ : ∃ N, M = N + 300 := ⟨M - 300, by omega⟩
 refine call_fls (R := fun v H' => ∃ k c k' c' mk', v = .agg ⟨byC (.slice (some ⟨k, 0, none⟩) ps.length c) (.slice (some ⟨k', 0, none⟩) gs.length c') lots mk' l op fd⟩ ∧ Fr H H' ∧ Rw pkE H' (some ⟨k, 0, none⟩) (ps.set i (kn p n)) ∧ Rw gdE H' (some ⟨k', 0, none⟩) gs) (k := 24) (rs := [.cell 6 134]) rfl fn_117 rfl rfl rfl hL ?_ ?_ ?_
 rotate_left
 ·rintro v H' ⟨k, c, k', c', mk', rfl, -⟩
  simp [byC, gr, ground]
 ·rintro v H' ⟨k, c, k', c', mk', rfl, h1, h2, h3⟩
  exact hq _ _ _ _ _ _ h1 h2 h3
 have hlt := (List.getElem?_eq_some_iff.1 hi).1
 have hne : ps ≠ [] := by rintro rfl; simp at hlt
 have hl4 := h.st.st.l4
 have hg4 := h.st.st.g4
 obtain ⟨b, o, c, rfl, hb, hc, hqq⟩ := h.st.hs.at_ hi
 have q0 : part c (o + i * 4) 5 = some (.agg ⟨p.enc⟩) := part_of hqq rfl
 obtain ⟨m0, m1, m2, m3, hm⟩ := four h.mx4
 simp only [byC]
 rw [hm]
 simp only [tv,List.map_cons,List.map_nil,List.cons_append,List.nil_append]
 have h129 := fun (N : Nat) (H : AHeap) => c129 (N := N) (H := H) (p := p) (n := n)
 simp only [Pk.enc] at q0
 have h129' : ∀ (N : Nat) (H : AHeap), acall tabA (aexec tabA Try.prog (N + 30)) 129 [.agg ⟨[.int .i64 p.s, .int .i64 p.w, .int .i64 p.o, .int .i64 p.f]⟩, .int .i64 n] H = some (true, .agg ⟨(kn p n).enc⟩, H, H.size) := h129
 have frb : Fr H ((H.alloc (.rw [.slice (some ⟨b, o, none⟩) ps.length cap, .slice a' gs.length cap', .int .i64 lots, .map (some mk), .int .i64 m0, .int .i64 m1, .int .i64 m2, .int .i64 m3, .int .i64 op, .int .i64 fd] 134 false [])).alloc (.rw [.slice none 0 0, .slice none 0 0, .int .i64 0, .map none, .int .i64 0, .int .i64 0, .int .i64 0, .int .i64 0, .int .i64 0, .int .i64 0] 134 false [])) := by (repeat (first | exact Fr.refl _ | assumption | refine Fr.allocd ?_ _ | refine Fr.put ?_ (by first | omega | (simp only [yz] <;> omega)) _))
 simp (disch:=first|(simp only [yk,seval];done)|omega|(simp only [yz]<;>omega)|fail) only [↓yp,yq0,yq1,yq2,yq3,yq4,yl,ys0,ys1,seval,fitB,newC,endD,endR,yrg,one_map,one_map']
 refine W_drawR (pl := []) [13, 14, 16] [(2, 1), (2, 2), (2, 3), (7, 1), (7, 2), (7, 3), (10, 1), (10, 2), (10, 3)] (planK_of rfl) (by kernel_rfl) (by kernel_rfl) (by kernel_rfl) (by first|omega|(simp only [yz]<;>omega)) ?_
 simp (disch:=first|(simp only [yk,seval];done)|omega|(simp only [yz]<;>omega)|fail) only [↓yp,yq0,yq1,yq2,yq3,yq4,yl,ys0,ys1,seval,fitB,newC,endD,endR,yrg,part_10_3,A_indexSlice st_esS_22,hc,q0,h129']
 refine c114 (h.st.hs.fr frb) (h.st.hg.fr frb) hne hg1 (by omega) (by omega) hlt (by first|omega|(simp only [yz]<;>omega)) (by omega) ?_
 intro k cc k' cc' H1 fr1 hk hk' r1 r2
 have f1 := fr1.size
 have s1 := fr1.same
 simp only [size_alloc] at f1 s1 hk hk'
 simp (disch:=first|(simp only [yk,seval];done)|omega|(simp only [yz]<;>omega)|fail) only [↓yp,yq0,yq1,yq2,yq3,yq4,yl,ys0,ys1,seval,fitB,newC,endD,endR,yrg,s1]
 refine c77 (by first|omega|(simp only [yz]<;>omega)) (by omega) ?_
 intro mk' H2 fr2 k1 k2 k3
 have f2 := fr2.size
 have s2 := fr2.same
 simp (disch:=first|(simp only [yk,seval];done)|omega|(simp only [yz]<;>omega)|fail) only [↓yp,yq0,yq1,yq2,yq3,yq4,yl,ys0,ys1,seval,fitB,newC,endD,endR,yrg,s1,s2,part_10_3,A_indexSlice st_esS_22,hc,q0,h129',one_map,one_map',sv_map]
 simp (disch:=first|(simp only [yk,seval];done)|omega|(simp only [yz]<;>omega)|fail) only [↓yp,yq0,yq1,yq2,yq3,yq4,yl,ys0,ys1,seval,fitB,newC,endD,endR,yrg,s1,s2,one_map,one_map',part_10]
 have h12 : Fr H H2 := (frb.trans fr1).trans fr2
 exact ⟨k, cc, k', cc', mk', rfl, Fr.put (Fr.put h12 (by omega) _) (by omega) _, Rw.put' (Rw.put' (r1.fr fr2) (by omega)) (by omega), Rw.put' (Rw.put' (r2.fr fr2) (by omega)) (by omega)⟩
def nonE (ps : List Pk) (l : List Int) (op fd : Int) (i : Nat) (p : Pk) (n : Int) : Bool := !decide (lfHi (ps.set i (kn p n)) l op fd < lfLo (ps.set i (kn p n)) l fd)
def tellS (P : Int → Bool) (x : Int × Int) (n : Int) : Int × Int := bif P n then (if n < x.1 then n else x.1, if n > x.2 then n else x.2) else x
def tellF (P : Int → Bool) (f b : Int) : Nat → Int × Int
 | 0 => (b, f)
 | k + 1 => tellS P (tellF P f b k) (f + k)
set_option maxHeartbeats 2000000 in
theorem c88 (h : LtR H a a' al ps gs lots l) (hg1 : gs ≠ []) (hi : ps[i]? = some p) (ho : 0 ≤ op ∧ op ≤ isum l) (hf : 0 ≤ fd ∧ fd ≤ op) :
  acall tabA (aexec tabA Try.prog (N + 1500)) 88 [.agg ⟨byC (.slice a ps.length cap) (.slice a' gs.length cap') lots mk l op fd⟩, .int .i64 (i : Nat)] H = some (true, .agg ⟨[.int .i64 (tellF (nonE ps l op fd i p) p.f p.hi (p.hi - p.f + 1).toNat).1, .int .i64 (tellF (nonE ps l op fd i p) p.f p.hi (p.hi - p.f + 1).toNat).2]⟩, H, H.size) := by
 refine call_quiet (k := 53) (rs := [.cell 4 38]) rfl fn_88 rfl rfl rfl ?_ rfl
 have hlt := (List.getElem?_eq_some_iff.1 hi).1
 have hpo := h.st.pk p (List.mem_of_getElem? hi)
 have hsp := h.st.st.sp p (List.mem_of_getElem? hi)
 have hhi : p.hi ≤ 6 ∧ 0 ≤ p.f := by
  obtain ⟨z1, z2, z3, z4⟩ := hpo
  unfold Pk.hi
  split <;> omega
 obtain ⟨b, o, c, rfl, hb, hc, hqq⟩ := h.st.hs.at_ hi
 have q0 : part c (o + i * 4) 5 = some (.agg ⟨p.enc⟩) := part_of hqq rfl
 simp only [Pk.enc] at q0
 obtain ⟨m0, m1, m2, m3, hm⟩ := four h.mx4
 have h117 := fun (H' : AHeap) (f : Fr H H') (n : Int) (Q : Bool → Value → AHeap → Prop) (L M : Nat) (hL : L ≤ H'.size) (hM : 300 ≤ M) => c117 (Q := Q) (L := L) (cap := cap) (cap' := cap') (mk := mk) (op := op) (fd := fd) (n := n) (h.fr f) hg1 hi hL hM
 simp only [byC,hm,tv,List.map_cons,List.map_nil,List.cons_append,List.nil_append] at h117
 have h66 := fun (N : Nat) (H : AHeap) => c66 (N := N) (H := H) hpo
 simp only [Pk.enc] at h66
 simp only [byC]
 rw [hm]
 simp only [tv,List.map_cons,List.map_nil,List.cons_append,List.nil_append]
 have w1 : w64 (p.hi - p.f) = p.hi - p.f := w64_of (by omega)
 have w2 : w64 (p.hi - p.f + 1) = p.hi - p.f + 1 := w64_of (by omega)
 simp (disch:=first|(simp only [yk,seval];done)|omega|(simp only [yz]<;>omega)|fail) only [↓yp,yq0,yq1,yq2,yq3,yq4,yl,ys0,ys1,seval,fitB,newC,endD,endR,yrg,one_map,one_map',A_indexSlice st_esS_22,hc,q0,h66,A_build st_bdS_38,w1,w2]
 obtain ⟨cnt, hcnt⟩ : ∃ cnt, p.hi - p.f + 1 = cnt := ⟨_, rfl⟩
 rw [hcnt]
 obtain ⟨PP, hPP⟩ : ∃ PP, nonE ps l op fd i p = PP := ⟨_, rfl⟩
 rw [hPP]
 refine W_while (n := 53) 1000 (fun q e' H' => ∃ k : Nat, q = (cnt - k).toNat ∧ (k : Int) ≤ cnt ∧ gt 53 e' 28 = .int .i64 (k : Nat) ∧ gt 53 e' 27 = .int .i64 cnt ∧ gt 53 e' 1 = .int .i64 (i : Nat) ∧ gt 53 e' 2 = .pointer (some ⟨H.size, 0, none⟩) ∧ gt 53 e' 4 = .pointer (some ⟨H.size + 1, 0, none⟩) ∧ gt 53 e' 5 = .pointer (some ⟨H.size + 2, 0, none⟩) ∧ gt 53 e' 6 = .pointer (some ⟨H.size + 3, 0, none⟩) ∧ Fr H H' ∧ H.size + 3 < H'.size ∧
   H'.get H.size = .rw [.slice (some ⟨b, o, none⟩) ps.length cap, .slice a' gs.length cap', .int .i64 lots, .map (some mk), .int .i64 m0, .int .i64 m1, .int .i64 m2, .int .i64 m3, .int .i64 op, .int .i64 fd] 134 false [] ∧ H'.get (H.size + 1) = .rw [.int .i64 0, .int .i64 0] 38 false [] ∧ H'.get (H.size + 2) = .rw [.int .i64 p.f, .int .i64 p.hi] 38 false [] ∧ H'.get (H.size + 3) = .rw [.int .i64 (tellF PP p.f p.hi k).1, .int .i64 (tellF PP p.f p.hi k).2] 38 false [])
  ?_ 7 cnt.toNat ⟨0, by omega, by omega, ?_, ?_, ?_, ?_, ?_, ?_, ?_, by (repeat (first | exact Fr.refl _ | assumption | refine Fr.allocd ?_ _ | refine Fr.put ?_ (by first | omega | (simp only [yz] <;> omega)) _)), by (first | omega | (simp only [yz] <;> omega)), ?_, ?_, ?_, ?_⟩ (by omega) (by omega)
 rotate_left
 ·simp (disch:=first|(simp only [yk,seval];done)|omega|(simp only [yz]<;>omega)|fail) only [yg,seval] <;> rfl
 ·simp (disch:=first|(simp only [yk,seval];done)|omega|(simp only [yz]<;>omega)|fail) only [yg,seval]
 ·simp (disch:=first|(simp only [yk,seval];done)|omega|(simp only [yz]<;>omega)|fail) only [yg,seval]
 ·simp (disch:=first|(simp only [yk,seval];done)|omega|(simp only [yz]<;>omega)|fail) only [yg,seval]
 ·simp (disch:=first|(simp only [yk,seval];done)|omega|(simp only [yz]<;>omega)|fail) only [yg,seval]
 ·simp (disch:=first|(simp only [yk,seval];done)|omega|(simp only [yz]<;>omega)|fail) only [yg,seval]
 ·simp (disch:=first|(simp only [yk,seval];done)|omega|(simp only [yz]<;>omega)|fail) only [yg,seval]
 ·simp (disch:=first|(simp only [yk,seval];done)|omega|(simp only [yz]<;>omega)|fail) only [yg,seval]
 ·simp (disch:=first|(simp only [yk,seval];done)|omega|(simp only [yz]<;>omega)|fail) only [yg,seval]
 ·simp (disch:=first|(simp only [yk,seval];done)|omega|(simp only [yz]<;>omega)|fail) only [yg,seval]
 ·simp (disch:=first|(simp only [yk,seval];done)|omega|(simp only [yz]<;>omega)|fail) only [yg,seval] <;> rfl
 rintro M1 q e H' ⟨k, rfl, hk, g28, g27, g1, g2, g4, g5, g6, fr, lt, b2, b4, b5, b6⟩
 simp (disch:=first|(simp only [yk,seval];done)|omega|(simp only [yz]<;>omega)|fail) only [↓yp,yq0,yq1,yq2,yq3,yq4,yl,ys0,ys1,seval,fitB,newC,endD,endR,yrg,g28,g27]
 refine ⟨fun hA => ?_, fun hA => ?_⟩
 ·have hlk : (k : Int) < cnt := of_decide_eq_true hA
  have hw2 : w64 ((k : Int) + 1) = ((k + 1 : Nat) : Int) := by rw [w64_of (by omega)]; omega
  have w3 : w64 (p.f + (k : Int)) = p.f + k := w64_of (by omega)
  simp (disch:=first|(simp only [yk,seval];done)|omega|(simp only [yz]<;>omega)|fail) only [↓yp,yq0,yq1,yq2,yq3,yq4,yl,ys0,ys1,seval,fitB,newC,endD,endR,yrg,g28,g1,g2,g5,b2,b5,w3,part_10]
  refine h117 _ fr _ _ _ _ (by omega) (by omega) ?_
  intro k1 cc k2 cc2 mk' H1 fr1 r1 r2
  have f1 := fr1.size
  have s1 := fr1.same
  have hn : p.f ≤ p.f + (k : Int) ∧ p.f + (k : Int) ≤ p.hi := by omega
  have lt' : LtR H1 (some ⟨k1, 0, none⟩) (some ⟨k2, 0, none⟩) al (ps.set i (kn p (p.f + k))) gs lots l := ⟨⟨r1, r2, (kn_ok h.st.st hi hn).chk⟩, h.rl.fr (fr.trans fr1), kn_lot h.lo hi⟩
  have h84 := fun (N : Nat) => c84 (N := N) (cap := cc) (cap' := cc2) (mk := mk') lt' ho hf
  simp only [List.length_set,hm,tv,List.map_cons,List.map_nil,List.cons_append,List.nil_append] at h84
  have h65 := fun (N : Nat) (H : AHeap) => c65 (N := N) (H := H) (a := lfLo (ps.set i (kn p (p.f + k))) l fd) (b := lfHi (ps.set i (kn p (p.f + k))) l op fd)
  have hst : tellF PP p.f p.hi (k + 1) = tellS PP (tellF PP p.f p.hi k) (p.f + k) := rfl
  have hpn : PP (p.f + k) = !decide (lfHi (ps.set i (kn p (p.f + k))) l op fd < lfLo (ps.set i (kn p (p.f + k))) l fd) := by rw [← hPP]; rfl
  cases hE : decide (lfHi (ps.set i (kn p (p.f + k))) l op fd < lfLo (ps.set i (kn p (p.f + k))) l fd)
  ·rw [hE] at hpn
   have e1 : tellF PP p.f p.hi (k + 1) = (if p.f + (k : Int) < (tellF PP p.f p.hi k).1 then p.f + k else (tellF PP p.f p.hi k).1, if p.f + (k : Int) > (tellF PP p.f p.hi k).2 then p.f + k else (tellF PP p.f p.hi k).2) := by
    rw [hst]; unfold tellS; rw [hpn]; rfl
   obtain ⟨t1, ht1⟩ : ∃ t1, (tellF PP p.f p.hi k).1 = t1 := ⟨_, rfl⟩
   obtain ⟨t2, ht2⟩ : ∃ t2, (tellF PP p.f p.hi k).2 = t2 := ⟨_, rfl⟩
   rw [ht1, ht2] at e1 b6
   simp (disch:=first|(simp only [yk,seval];done)|omega|(simp only [yz]<;>omega)|fail) only [↓yp,yq0,yq1,yq2,yq3,yq4,yl,ys0,ys1,seval,fitB,newC,endD,endR,yrg,h84,h65,hE,g28,g6,s1,b6,A_min,A_max,mm_min,mm_max,A_build st_bdS_38,hw2]
   refine ⟨(cnt - (k + 1 : Nat)).toNat, by omega, k + 1, rfl, by omega, ?_, ?_, ?_, ?_, ?_, ?_, ?_, Fr.put (fr.trans fr1) (by omega) _, by (first | omega | (simp only [yz] <;> omega)), ?_, ?_, ?_, ?_⟩
   ·simp (disch:=first|(simp only [yk,seval];done)|omega|(simp only [yz]<;>omega)|fail) only [yg,seval]
   ·simp (disch:=first|(simp only [yk,seval];done)|omega|(simp only [yz]<;>omega)|fail) only [yg,seval,g27]
   ·simp (disch:=first|(simp only [yk,seval];done)|omega|(simp only [yz]<;>omega)|fail) only [yg,seval,g1]
   ·simp (disch:=first|(simp only [yk,seval];done)|omega|(simp only [yz]<;>omega)|fail) only [yg,seval,g2]
   ·simp (disch:=first|(simp only [yk,seval];done)|omega|(simp only [yz]<;>omega)|fail) only [yg,seval,g4]
   ·simp (disch:=first|(simp only [yk,seval];done)|omega|(simp only [yz]<;>omega)|fail) only [yg,seval,g5]
   ·simp (disch:=first|(simp only [yk,seval];done)|omega|(simp only [yz]<;>omega)|fail) only [yg,seval,g6]
   ·rw [get_put_ne (by omega), s1 _ (by omega)]; exact b2
   ·rw [get_put_ne (by omega), s1 _ (by omega)]; exact b4
   ·rw [get_put_ne (by omega), s1 _ (by omega)]; exact b5
   ·rw [get_put_same (by omega), e1]
  ·rw [hE] at hpn
   have e1 : tellF PP p.f p.hi (k + 1) = tellF PP p.f p.hi k := by
    rw [hst]; unfold tellS; rw [hpn]; rfl
   simp (disch:=first|(simp only [yk,seval];done)|omega|(simp only [yz]<;>omega)|fail) only [↓yp,yq0,yq1,yq2,yq3,yq4,yl,ys0,ys1,seval,fitB,newC,endD,endR,yrg,h84,h65,hE,g28,hw2]
   refine ⟨(cnt - (k + 1 : Nat)).toNat, by omega, k + 1, rfl, by omega, ?_, ?_, ?_, ?_, ?_, ?_, ?_, fr.trans fr1, by omega, ?_, ?_, ?_, ?_⟩
   ·simp (disch:=first|(simp only [yk,seval];done)|omega|(simp only [yz]<;>omega)|fail) only [yg,seval]
   ·simp (disch:=first|(simp only [yk,seval];done)|omega|(simp only [yz]<;>omega)|fail) only [yg,seval,g27]
   ·simp (disch:=first|(simp only [yk,seval];done)|omega|(simp only [yz]<;>omega)|fail) only [yg,seval,g1]
   ·simp (disch:=first|(simp only [yk,seval];done)|omega|(simp only [yz]<;>omega)|fail) only [yg,seval,g2]
   ·simp (disch:=first|(simp only [yk,seval];done)|omega|(simp only [yz]<;>omega)|fail) only [yg,seval,g4]
   ·simp (disch:=first|(simp only [yk,seval];done)|omega|(simp only [yz]<;>omega)|fail) only [yg,seval,g5]
   ·simp (disch:=first|(simp only [yk,seval];done)|omega|(simp only [yz]<;>omega)|fail) only [yg,seval,g6]
   ·rw [s1 _ (by omega)]; exact b2
   ·rw [s1 _ (by omega)]; exact b4
   ·rw [s1 _ (by omega)]; exact b5
   ·rw [s1 _ (by omega), e1]; exact b6
 ·have hke : cnt.toNat = k := by have := of_decide_eq_false hA; omega
  rw [hke]
  simp (disch:=first|(simp only [yk,seval];done)|omega|(simp only [yz]<;>omega)|fail) only [↓yp,yq0,yq1,yq2,yq3,yq4,yl,ys0,ys1,seval,fitB,newC,endD,endR,yrg,g4,g6,b4,b6]
end
end Go.Am.K
namespace Go.Am.K
open Go.Proofs
variable {T : Tab} {P : Program} {N L : Nat} {H H' H'' : AHeap} {Q : Bool → Value → AHeap → Prop}
def spE : Enc (Int × Int) := ⟨fun s => [.int .i64 s.1, .int .i64 s.2], 2, fun _ => rfl, fun _ => rfl⟩
def z38 : Value := .agg ⟨[.int .i64 0, .int .i64 0]⟩
theorem st_mkS_56 : mkS tabA 56 = some (38, z38, 2, 16) := by kernel_rfl
theorem made_sp : ∀ {n : Nat}, n ≤ 4 → (madeCells z38.cells (n * 2)).toList = spE.fl (List.replicate n (0, 0)) ∧ allGrV (madeCells z38.cells (n * 2)).toList = true
 | 0, _ => by constructor <;> kernel_rfl
 | 1, _ => by constructor <;> kernel_rfl
 | 2, _ => by constructor <;> kernel_rfl
 | 3, _ => by constructor <;> kernel_rfl
 | 4, _ => by constructor <;> kernel_rfl
 | n + 5, h => by omega
section
variable {a a' al : Option Addr} {cap cap' cl : Nat} {ps : List Pk} {gs : List Gd} {lots : Int} {l : List Int} {op fd : Int}
def toldV (ps : List Pk) (l : List Int) (op fd : Int) (j : Nat) (p : Pk) : Int × Int := tellF (nonE ps l op fd j p) p.f p.hi (p.hi - p.f + 1).toNat
structure Td (ps : List Pk) (l : List Int) (op fd : Int) (i : Nat) (tl : List (Int × Int)) : Prop where
 len : tl.length = ps.length
 at_ : ∀ (j : Nat) (p : Pk), j < i → ps[j]? = some p → tl[j]? = some (toldV ps l op fd j p)
theorem Td.next {i : Nat} {tl : List (Int × Int)} {p : Pk} (h : Td ps l op fd i tl) (hp : ps[i]? = some p) : Td ps l op fd (i + 1) (tl.set i (toldV ps l op fd i p)) := by
 have hlt := (List.getElem?_eq_some_iff.1 hp).1
 refine ⟨by rw [List.length_set]; exact h.len, fun j q hj hq => ?_⟩
 by_cases e : i = j
 ·subst e
  rw [hp] at hq
  cases hq
  rw [List.getElem?_set_self (by rw [h.len]; exact hlt)]
 ·rw [List.getElem?_set_ne e]
  exact h.at_ j q (by omega) hq
set_option maxHeartbeats 2000000 in
theorem c29 (h : LtR H a a' al ps gs lots l) (hg1 : gs ≠ []) (ho : 0 ≤ op ∧ op ≤ isum l) (hf : 0 ≤ fd ∧ fd ≤ op) (hne : decide (lfHi ps l op fd < lfLo ps l fd) = false) (hL : L ≤ H.size) {M : Nat} (hM : 2500 ≤ M)
  (hq : ∀ b c tl H', Fr H H' → Td ps l op fd ps.length tl → Rw spE H' (some ⟨b, 0, none⟩) tl → Q false (.tuple ⟨[.slice (some ⟨b, 0, none⟩) ps.length c, .int .i64 0]⟩) H') :
  resK (acall tabA (aexec tabA Try.prog M) 29 [.agg ⟨[.slice a ps.length cap, .slice a' gs.length cap', .int .i64 lots]⟩, .slice al l.length cl, .int .i64 op, .int .i64 fd] H) L Q := by
 obtain ⟨N, rfl⟩ : ∃ N, M = N + 2500 := ⟨M - 2500, by omega⟩
 refine call_fls (R := fun v H' => ∃ b c tl, v = .tuple ⟨[.slice (some ⟨b, 0, none⟩) ps.length c, .int .i64 0]⟩ ∧ Fr H H' ∧ Td ps l op fd ps.length tl ∧ Rw spE H' (some ⟨b, 0, none⟩) tl) (k := 42) (rs := [.tmp 8, .tmp 9]) rfl fn_29 rfl rfl rfl hL ?_ ?_ ?_
 rotate_left
 ·rintro v H' ⟨b, c, tl, rfl, -⟩; rfl
 ·rintro v H' ⟨b, c, tl, rfl, h1, h2, h3⟩
  exact hq _ _ _ _ h1 h2 h3
 have hl4 := h.st.st.l4
 have hl1 := h.st.st.l1
 simp (disch:=first|(simp only [yk,seval];done)|omega|(simp only [yz]<;>omega)|fail) only [↓yp,yq0,yq1,yq2,yq3,yq4,yl,ys0,ys1,seval,fitB,newC,endD,endR,yrg]
 refine resK_low (Nat.le_refl _) (c83a (cap := cap) (cap' := cap') (cl := cl) (h.fr (by repeat first|exact Fr.refl _|assumption|refine Fr.allocd ?_ _|refine Fr.put ?_ (by first|omega|(simp only [yz]<;>omega)) _)) ho hf (by omega) ?_) (by first|omega|(simp only [yz]<;>omega))
 intro f v H1 e1 e2 fr1
 obtain ⟨mk, rfl⟩ := e2 hne
 have f1 := fr1.size
 have s1 := fr1.same
 simp only [size_alloc] at f1 s1
 have fra : Fr H H1 := Fr.trans (by repeat first|exact Fr.refl _|assumption|refine Fr.allocd ?_ _|refine Fr.put ?_ (by first|omega|(simp only [yz]<;>omega)) _) fr1
 obtain ⟨m0, m1, m2, m3, hm⟩ := four h.mx4
 have h88 := fun (N : Nat) (H' : AHeap) (f : Fr H H') (i : Nat) (p : Pk) (hi : ps[i]? = some p) => c88 (N := N) (cap := cap) (cap' := cap') (mk := mk) (h.fr f) hg1 hi ho hf
 simp only [byC,hm,tv,List.map_cons,List.map_nil,List.cons_append,List.nil_append] at h88 ⊢
 simp (disch:=first|(simp only [yk,seval];done)|omega|(simp only [yz]<;>omega)|fail) only [↓yp,yq0,yq1,yq2,yq3,yq4,yl,ys0,ys1,seval,fitB,newC,endD,endR,yrg,s1,one_map,one_map',lenV_slice st_esS_22]
 obtain ⟨ms1, ms2⟩ := made_sp hl4
 refine A_make_of (m := (ps.length : Int)) st_mkS_56 (by simp (disch:=first|(simp only [yk,seval];done)|omega|(simp only [yz]<;>omega)|fail) only [↓yp,yq0,yq1,yq2,yq3,yq4,yl,ys0,ys1,seval,fitB,newC,endD,endR,yrg]) (by omega) (by omega) (by omega) (by rw [Int.toNat_natCast]; exact ms2) (by first|omega|(simp only [yz]<;>omega)) ?_
 rw [Int.toNat_natCast, ms1]
 simp (disch:=first|(simp only [yk,seval];done)|omega|(simp only [yz]<;>omega)|fail) only [↓yp,yq0,yq1,yq2,yq3,yq4,yl,ys0,ys1,seval,fitB,newC,endD,endR,yrg,lenV_slice st_esS_56]
 refine W_while (n := 42) 1700 (fun q e' H' => ∃ (i : Nat) (tl : List (Int × Int)), q = ps.length - i ∧ i ≤ ps.length ∧ Td ps l op fd i tl ∧ gt 42 e' 31 = .int .i64 (i : Nat) ∧ gt 42 e' 30 = .int .i64 ps.length ∧ gt 42 e' 12 = .slice (some ⟨H1.size + 1, 0, none⟩) ps.length ps.length ∧ gt 42 e' 10 = .pointer (some ⟨H1.size, 0, none⟩) ∧ Fr H H' ∧ H1.size + 1 < H'.size ∧ H'.get H1.size = .rw [.slice a ps.length cap, .slice a' gs.length cap', .int .i64 lots, .map (some mk), .int .i64 m0, .int .i64 m1, .int .i64 m2, .int .i64 m3, .int .i64 op, .int .i64 fd] 134 false [] ∧ H'.get (H1.size + 1) = .rw (spE.fl tl) 38 false [])
  ?_ 4 ps.length ⟨0, List.replicate ps.length (0, 0), by omega, by omega, ⟨by simp, fun _ _ h => by omega⟩, ?_, ?_, ?_, ?_, by (repeat (first | exact Fr.refl _ | assumption | refine Fr.allocd ?_ _ | refine Fr.put ?_ (by first | omega | (simp only [yz] <;> omega)) _)), by (first | omega | (simp only [yz] <;> omega)), ?_, ?_⟩ (by omega) (by omega)
 rotate_left
 ·simp (disch:=first|(simp only [yk,seval];done)|omega|(simp only [yz]<;>omega)|fail) only [yg,seval] <;> rfl
 ·simp (disch:=first|(simp only [yk,seval];done)|omega|(simp only [yz]<;>omega)|fail) only [yg,seval]
 ·simp (disch:=first|(simp only [yk,seval];done)|omega|(simp only [yz]<;>omega)|fail) only [yg,seval]
 ·simp (disch:=first|(simp only [yk,seval];done)|omega|(simp only [yz]<;>omega)|fail) only [yg,seval]
 ·simp (disch:=first|(simp only [yk,seval];done)|omega|(simp only [yz]<;>omega)|fail) only [yg,seval]
 ·simp (disch:=first|(simp only [yk,seval];done)|omega|(simp only [yz]<;>omega)|fail) only [yg,seval]
 rintro M1 q e H' ⟨i, tl, rfl, hi, td, g31, g30, g12, g10, fr, lt, b10, bt⟩
 have frs := fr.size
 simp (disch:=first|(simp only [yk,seval];done)|omega|(simp only [yz]<;>omega)|fail) only [↓yp,yq0,yq1,yq2,yq3,yq4,yl,ys0,ys1,seval,fitB,newC,endD,endR,yrg,g31,g30]
 refine ⟨fun hA => ?_, fun hA => ?_⟩
 ·have hlt : i < ps.length := by simpa using hA
  obtain ⟨p, hp⟩ : ∃ p, ps[i]? = some p := ⟨ps[i], by simp [hlt]⟩
  have hw2 : w64 ((i : Int) + 1) = ((i + 1 : Nat) : Int) := by rw [w64_of (by omega)]; omega
  have h88' := fun (N : Nat) => h88 N H' fr i p hp
  have tdn := td.next hp
  have hset : newC (i * 2) [.int .i64 (toldV ps l op fd i p).1, .int .i64 (toldV ps l op fd i p).2] (spE.fl tl) = spE.fl (tl.set i (toldV ps l op fd i p)) := newC_fl (E := spE) (by rw [td.len]; exact hlt)
  have hfit : decide (i * 2 + 2 ≤ (spE.fl tl).length) = true := by
   rw [fl_length, td.len]
   simp only [decide_eq_true_eq]
   show i * 2 + 2 ≤ ps.length * 2
   omega
  have htv : tellF (nonE ps l op fd i p) p.f p.hi (p.hi - p.f + 1).toNat = toldV ps l op fd i p := rfl
  rw [htv] at h88'
  simp (disch:=first|(simp only [yk,seval];done)|omega|(simp only [yz]<;>omega)|fail) only [↓yp,yq0,yq1,yq2,yq3,yq4,yl,ys0,ys1,seval,fitB,newC,endD,endR,yrg,g31,g12,g10,b10,part_10,h88',A_indexSlice st_esS_56,bt,hset,hfit,hw2]
  refine ⟨ps.length - (i + 1), by omega, i + 1, tl.set i (toldV ps l op fd i p), rfl, by omega, tdn, ?_, ?_, ?_, ?_, Fr.put fr (by omega) _, by (first | omega | (simp only [yz] <;> omega)), ?_, ?_⟩
  ·simp (disch:=first|(simp only [yk,seval];done)|omega|(simp only [yz]<;>omega)|fail) only [yg,seval]
  ·simp (disch:=first|(simp only [yk,seval];done)|omega|(simp only [yz]<;>omega)|fail) only [yg,seval,g30]
  ·simp (disch:=first|(simp only [yk,seval];done)|omega|(simp only [yz]<;>omega)|fail) only [yg,seval,g12]
  ·simp (disch:=first|(simp only [yk,seval];done)|omega|(simp only [yz]<;>omega)|fail) only [yg,seval,g10]
  ·rw [get_put_ne (by omega)]; exact b10
  ·rw [get_put_same (by omega), ← hset]; rfl
 ·have hie : i = ps.length := by have := of_decide_eq_false hA; omega
  rw [hie] at td
  simp (disch:=first|(simp only [yk,seval];done)|omega|(simp only [yz]<;>omega)|fail) only [↓yp,yq0,yq1,yq2,yq3,yq4,yl,ys0,ys1,seval,fitB,newC,endD,endR,yrg,g12]
  exact ⟨H1.size + 1, _, tl, rfl, fr, td, Rw.of (r := []) lt (by rw [bt]; rfl) (by rw [List.append_nil])⟩
end
end Go.Am.K
