import Derived.Test.YtaieoelbpnjoiaaT40
set_option linter.unusedSimpArgs false
set_option linter.unusedVariables false
namespace Go.Am
open Go.Proofs
variable {T : Tab} {P : Program} {N L : Nat} {H : AHeap} {Q : Bool → Value → AHeap → Prop}
section
variable {σ : Type} {f : σ → Nat → Str → Bool → σ} {I : σ → AHeap → Prop} {l : List Str} {C w ld lf x : Int} {a : Option Addr} {cap b1 b2 b3 lb : Nat} {st₀ : σ} {K₀ base : Nat}
structure LegsD (I : σ → AHeap → Prop) (l : List Str) (C w ld lf x : Int) (a : Option Addr) (cap b1 b2 b3 base : Nat) : Prop where
 up : ∀ st H' H'', I st H' → Fr H' H'' → I st H''
 sz : ∀ st H', I st H' → base ≤ H'.size
 job : ∀ st H', I st H' → cellsOf (H'.get b1) = some [.int .i64 C, .slice a l.length cap, .int .i64 w, .int .i64 ld, .int .i64 lf]
 cor : ∀ st H', I st H' → cellsOf (H'.get b2) = some [.int .i64 x]
 suit : ∀ st H', I st H' → cellsOf (H'.get b3) = some [.func (.func 107) ⟨[jobG C a l.length cap w ld lf]⟩ ⟨[]⟩]
 ends : ∀ N st H' (i : Nat) s b, I st H' → l[i]? = some s → acall tabA (aexec tabA Try.prog (N + 40)) 94 [jobG C a l.length cap w ld lf, legV i b] H' = some (true, .tuple ⟨[.int .i64 (nearL s b), .int .i64 (farL s b)]⟩, H', H'.size)
 may : ∀ N st H' (i : Nat) s b, I st H' → l[i]? = some s → acall tabA (aexec tabA Try.prog (N + 40)) 107 [jobG C a l.length cap w ld lf, legV i b] H' = some (true, .bool (mayL s b w ld), H', H'.size)
set_option maxHeartbeats 2000000 in
theorem c123d (hc : LegsD I l C w ld lf x a cap b1 b2 b3 base) (hdn : ∀ st H'', I st H'' → Fr H H'' → I st H) (hl : l.length ≤ 18) (hL : L ≤ base) (hb : base ≤ H.size)
  (hy : ∀ M, K₀ ≤ M → ∀ st H' (i : Nat) s b, I st H' → l[i]? = some s → mayL s b w ld = true → nearL s b = x → resK (ayield (aexec tabA Try.prog M) lb [legV i b] H') L fun _ v H'' => v = .bool true ∧ I (f st i s b) H'')
  (h₀ : I st₀ H) {M : Nat} (hM : K₀ + 300 ≤ M) (hq : ∀ q v H'', I (visits f w ld x l 0 st₀) H'' → Q q v H'') :
  resK (acall tabA (aexec tabA Try.prog M) 123 [.func (.yield lb) ⟨[]⟩ ⟨[]⟩, .pointer (some ⟨b1, 0, none⟩), .pointer (some ⟨b2, 0, none⟩), .pointer (some ⟨b3, 0, none⟩)] H) L Q := by
 obtain ⟨N, rfl⟩ : ∃ N, M = N + K₀ + 300 := ⟨M - (K₀ + 300), by omega⟩
 refine call_keep tabA_fr (k := 47) (rs := []) (R := fun _ H'' => I (visits f w ld x l 0 st₀) H'') rfl fn_123 rfl rfl rfl (by omega) ?_ (fun v H'' h => hq _ _ _ h) (fun v H'' h _ fr => hq _ _ _ (hdn _ _ h fr))
 have hj0 := hc.job _ _ h₀
 have hends := hc.ends
 have hmay := hc.may
 simp only [jobG,legV] at hends hmay
 simp (disch:=first|(simp only [yk,seval];done)|omega|(simp only [yz]<;>omega)|fail) only [↓yp,yq0,yq1,yq2,yq3,yq4,yl,ys0,ys1,seval,zed,zee,zfr,zhw,ysu,yrg,ysv,ysw,ysx,ysz,hj0,lenV_slice zio]
 refine W_whileD K₀ 200 (fun k e H' ds => ∃ i : Nat, k = l.length - i ∧ i ≤ l.length ∧ ds = [] ∧ gt 47 e 14 = .int .i64 (i : Nat) ∧ gt 47 e 13 = .int .i64 l.length ∧ gt 47 e 0 = .func (.yield lb) ⟨[]⟩ ⟨[]⟩ ∧ gt 47 e 1 = .pointer (some ⟨b1, 0, none⟩) ∧ gt 47 e 2 = .pointer (some ⟨b2, 0, none⟩) ∧ gt 47 e 3 = .pointer (some ⟨b3, 0, none⟩) ∧ I (visits f w ld x (l.take i) 0 st₀) H')
  ?_ 18 l.length ⟨0, by omega, by omega, rfl, by simp (disch:=first|(simp only [yk,seval];done)|omega|(simp only [yz]<;>omega)|fail) only [yg,seval] <;> rfl, by simp (disch:=first|(simp only [yk,seval];done)|omega|(simp only [yz]<;>omega)|fail) only [yg,seval], by simp (disch:=first|(simp only [yk,seval];done)|omega|(simp only [yz]<;>omega)|fail) only [yg,seval], by simp (disch:=first|(simp only [yk,seval];done)|omega|(simp only [yz]<;>omega)|fail) only [yg,seval], by simp (disch:=first|(simp only [yk,seval];done)|omega|(simp only [yz]<;>omega)|fail) only [yg,seval], by simp (disch:=first|(simp only [yk,seval];done)|omega|(simp only [yz]<;>omega)|fail) only [yg,seval], h₀⟩ (by omega) (by omega)
 rintro M k e H' ds hM' ⟨i, rfl, hi, rfl, g14, g13, g0, g1, g2, g3, hI⟩
 have sz := hc.sz _ _ hI
 simp (disch:=first|(simp only [yk,seval];done)|omega|(simp only [yz]<;>omega)|fail) only [↓yp,yq0,yq1,yq2,yq3,yq4,yl,ys0,ys1,seval,zed,zee,zfr,zhw,ysu,yrg,ysv,ysw,ysx,ysz,g14,g13]
 refine ⟨fun hlt => ?_, fun hge => ?_⟩
 ·have hi' : i < l.length := by simpa using hlt
  obtain ⟨s, his⟩ : ∃ s, l[i]? = some s := ⟨l[i], by simp [hi']⟩
  simp (disch:=first|(simp only [yk,seval];done)|omega|(simp only [yz]<;>omega)|fail) only [↓yp,yq0,yq1,yq2,yq3,yq4,yl,ys0,ys1,seval,zed,zee,zfr,zhw,ysu,yrg,ysv,ysw,ysx,ysz,g14,A_build st_bdS_28,A_buildArr st_baS_171]
  refine W_whileD K₀ 140 (fun k e' H'' ds => ∃ j : Nat, k = 2 - j ∧ j ≤ 2 ∧ ds = [] ∧ gt 47 e' 22 = .int .i64 (j : Nat) ∧ gt 47 e' 21 = .agg ⟨[.int .i64 i, .bool false, .int .i64 i, .bool true]⟩ ∧ gt 47 e' 14 = .int .i64 (i : Nat) ∧ gt 47 e' 13 = .int .i64 l.length ∧ gt 47 e' 0 = .func (.yield lb) ⟨[]⟩ ⟨[]⟩ ∧ gt 47 e' 1 = .pointer (some ⟨b1, 0, none⟩) ∧ gt 47 e' 2 = .pointer (some ⟨b2, 0, none⟩) ∧ gt 47 e' 3 = .pointer (some ⟨b3, 0, none⟩) ∧ I (inn f w ld x i s (visits f w ld x (l.take i) 0 st₀) j) H'')
   ?_ 2 2 ⟨0, by omega, by omega, rfl, by simp (disch:=first|(simp only [yk,seval];done)|omega|(simp only [yz]<;>omega)|fail) only [yg,seval] <;> rfl, by simp (disch:=first|(simp only [yk,seval];done)|omega|(simp only [yz]<;>omega)|fail) only [yg,seval], by simp (disch:=first|(simp only [yk,seval];done)|omega|(simp only [yz]<;>omega)|fail) only [yg,seval,g14], by simp (disch:=first|(simp only [yk,seval];done)|omega|(simp only [yz]<;>omega)|fail) only [yg,seval,g13], by simp (disch:=first|(simp only [yk,seval];done)|omega|(simp only [yz]<;>omega)|fail) only [yg,seval,g0], by simp (disch:=first|(simp only [yk,seval];done)|omega|(simp only [yz]<;>omega)|fail) only [yg,seval,g1], by simp (disch:=first|(simp only [yk,seval];done)|omega|(simp only [yz]<;>omega)|fail) only [yg,seval,g2], by simp (disch:=first|(simp only [yk,seval];done)|omega|(simp only [yz]<;>omega)|fail) only [yg,seval,g3], hI⟩ (by omega) (by omega)
  clear hI g14 g13 g0 g1 g2 g3
  rintro M2 k2 e' H'' ds hM2 ⟨j, rfl, hj, rfl, g22, g21, g14, g13, g0, g1, g2, g3, hI⟩
  have sz2 := hc.sz _ _ hI
  have hjob := hc.job _ _ hI
  have hcor := hc.cor _ _ hI
  have hsuit := hc.suit _ _ hI
  have l1 := lt_of_cells hjob
  have l2 := lt_of_cells hcor
  have l3 := lt_of_cells hsuit
  simp only [jobG] at hsuit
  simp (disch:=first|(simp only [yk,seval];done)|omega|(simp only [yz]<;>omega)|fail) only [↓yp,yq0,yq1,yq2,yq3,yq4,yl,ys0,ys1,seval,zed,zee,zfr,zhw,ysu,yrg,ysv,ysw,ysx,ysz,g22]
  refine ⟨fun hA => ?_, fun hA => ?_⟩
  ·have hj2 : j < 2 := by simp at hA; omega
   have hw2 : w64 ((j : Int) + 1) = ((j + 1 : Nat) : Int) := by rw [w64_of (by omega)]; omega
   have nx := inn_next (f := f) (w := w) (ld := ld) (x := x) (i := i) (s := s) (st := visits f w ld x (l.take i) 0 st₀) hj2
   have hp := part_legs (i := (i : Int)) hj2
   generalize inn f w ld x i s (visits f w ld x (l.take i) 0 st₀) j = stj at hI nx
   generalize (j == 1) = b at nx hp
   simp (disch:=first|(simp only [yk,seval];done)|omega|(simp only [yz]<;>omega)|fail) only [↓yp,yq0,yq1,yq2,yq3,yq4,yl,ys0,ys1,seval,zed,zee,zfr,zhw,ysu,yrg,ysv,ysw,ysx,ysz]
   refine A_index_of (k := .i64) (i := j) st_ixV_171 (by simp (disch:=first|(simp only [yk,seval];done)|omega|(simp only [yz]<;>omega)|fail) only [↓yp,yq0,yq1,yq2,yq3,yq4,yl,ys0,ys1,seval,zed,zee,zfr,zhw,ysu,yrg,ysv,ysw,ysx,ysz,g21]) (by simp (disch:=first|(simp only [yk,seval];done)|omega|(simp only [yz]<;>omega)|fail) only [↓yp,yq0,yq1,yq2,yq3,yq4,yl,ys0,ys1,seval,zed,zee,zfr,zhw,ysu,yrg,ysv,ysw,ysx,ysz,g22]) ⟨by omega, by omega⟩ hp (by omega) ?_
   simp (disch:=first|(simp only [yk,seval];done)|omega|(simp only [yz]<;>omega)|fail) only [↓yp,yq0,yq1,yq2,yq3,yq4,yl,ys0,ys1,seval,zed,zee,zfr,zhw,ysu,yrg,ysv,ysw,ysx,ysz,g1,hjob]
   have hI2 : ∀ c : List Value, I stj ((H''.alloc (.rw [.int .i64 0, .bool false] 28 false [])).put H''.size (.rw c 28 false [])) := fun c => hc.up _ _ _ hI (Fr.put (Fr.alloc _ _) (Nat.le_refl _) _)
   rw [hends _ _ _ _ _ _ (hI2 _) his]
   cases hn : decide (nearL s b = x)
   ·simp (disch:=first|(simp only [yk,seval];done)|omega|(simp only [yz]<;>omega)|fail) only [↓yp,yq0,yq1,yq2,yq3,yq4,yl,ys0,ys1,seval,zed,zee,zfr,zhw,ysu,yrg,ysv,ysw,ysx,ysz,g1,g2,hjob,hcor,hn,g22,hw2]
    refine ⟨2 - (j + 1), by omega, j + 1, rfl, by omega, rfl, ?_, ?_, ?_, ?_, ?_, ?_, ?_, ?_, ?_⟩
    ·simp (disch:=first|(simp only [yk,seval];done)|omega|(simp only [yz]<;>omega)|fail) only [yg,seval]
    ·simp (disch:=first|(simp only [yk,seval];done)|omega|(simp only [yz]<;>omega)|fail) only [yg,seval,g21]
    ·simp (disch:=first|(simp only [yk,seval];done)|omega|(simp only [yz]<;>omega)|fail) only [yg,seval,g14]
    ·simp (disch:=first|(simp only [yk,seval];done)|omega|(simp only [yz]<;>omega)|fail) only [yg,seval,g13]
    ·simp (disch:=first|(simp only [yk,seval];done)|omega|(simp only [yz]<;>omega)|fail) only [yg,seval,g0]
    ·simp (disch:=first|(simp only [yk,seval];done)|omega|(simp only [yz]<;>omega)|fail) only [yg,seval,g1]
    ·simp (disch:=first|(simp only [yk,seval];done)|omega|(simp only [yz]<;>omega)|fail) only [yg,seval,g2]
    ·simp (disch:=first|(simp only [yk,seval];done)|omega|(simp only [yz]<;>omega)|fail) only [yg,seval,g3]
    ·rw [nx]; unfold visit; rw [hn]; exact hI2 _
   ·simp (disch:=first|(simp only [yk,seval];done)|omega|(simp only [yz]<;>omega)|fail) only [↓yp,yq0,yq1,yq2,yq3,yq4,yl,ys0,ys1,seval,zed,zee,zfr,zhw,ysu,yrg,ysv,ysw,ysx,ysz,g1,g2,g3,hjob,hcor,hsuit,hn]
    rw [hmay _ _ _ _ _ _ (hI2 _) his]
    cases hm : mayL s b w ld
    ·simp (disch:=first|(simp only [yk,seval];done)|omega|(simp only [yz]<;>omega)|fail) only [↓yp,yq0,yq1,yq2,yq3,yq4,yl,ys0,ys1,seval,zed,zee,zfr,zhw,ysu,yrg,ysv,ysw,ysx,ysz,g1,g2,g3,hjob,hcor,hsuit,hn,g22,hw2]
     refine ⟨2 - (j + 1), by omega, j + 1, rfl, by omega, rfl, ?_, ?_, ?_, ?_, ?_, ?_, ?_, ?_, ?_⟩
     ·simp (disch:=first|(simp only [yk,seval];done)|omega|(simp only [yz]<;>omega)|fail) only [yg,seval]
     ·simp (disch:=first|(simp only [yk,seval];done)|omega|(simp only [yz]<;>omega)|fail) only [yg,seval,g21]
     ·simp (disch:=first|(simp only [yk,seval];done)|omega|(simp only [yz]<;>omega)|fail) only [yg,seval,g14]
     ·simp (disch:=first|(simp only [yk,seval];done)|omega|(simp only [yz]<;>omega)|fail) only [yg,seval,g13]
     ·simp (disch:=first|(simp only [yk,seval];done)|omega|(simp only [yz]<;>omega)|fail) only [yg,seval,g0]
     ·simp (disch:=first|(simp only [yk,seval];done)|omega|(simp only [yz]<;>omega)|fail) only [yg,seval,g1]
     ·simp (disch:=first|(simp only [yk,seval];done)|omega|(simp only [yz]<;>omega)|fail) only [yg,seval,g2]
     ·simp (disch:=first|(simp only [yk,seval];done)|omega|(simp only [yz]<;>omega)|fail) only [yg,seval,g3]
     ·rw [nx]; unfold visit; rw [hn, hm]; exact hI2 _
    ·simp (disch:=first|(simp only [yk,seval];done)|omega|(simp only [yz]<;>omega)|fail) only [↓yp,yq0,yq1,yq2,yq3,yq4,yl,ys0,ys1,seval,zed,zee,zfr,zhw,ysu,yrg,ysv,ysw,ysx,ysz,hn,g0,calK_yield]
     refine resK_mono (hy _ (by omega) _ _ i s b (hI2 _) his hm (of_decide_eq_true hn)) ?_
     rintro q v H4 ⟨rfl, hI4⟩
     have sz4 := hc.sz _ _ hI4
     simp (disch:=first|(simp only [yk,seval];done)|omega|(simp only [yz]<;>omega)|fail) only [↓yp,yq0,yq1,yq2,yq3,yq4,yl,ys0,ys1,seval,zed,zee,zfr,zhw,ysu,yrg,ysv,ysw,ysx,ysz,g22,hw2]
     refine ⟨2 - (j + 1), by omega, j + 1, rfl, by omega, rfl, ?_, ?_, ?_, ?_, ?_, ?_, ?_, ?_, ?_⟩
     ·simp (disch:=first|(simp only [yk,seval];done)|omega|(simp only [yz]<;>omega)|fail) only [yg,seval]
     ·simp (disch:=first|(simp only [yk,seval];done)|omega|(simp only [yz]<;>omega)|fail) only [yg,seval,g21]
     ·simp (disch:=first|(simp only [yk,seval];done)|omega|(simp only [yz]<;>omega)|fail) only [yg,seval,g14]
     ·simp (disch:=first|(simp only [yk,seval];done)|omega|(simp only [yz]<;>omega)|fail) only [yg,seval,g13]
     ·simp (disch:=first|(simp only [yk,seval];done)|omega|(simp only [yz]<;>omega)|fail) only [yg,seval,g0]
     ·simp (disch:=first|(simp only [yk,seval];done)|omega|(simp only [yz]<;>omega)|fail) only [yg,seval,g1]
     ·simp (disch:=first|(simp only [yk,seval];done)|omega|(simp only [yz]<;>omega)|fail) only [yg,seval,g2]
     ·simp (disch:=first|(simp only [yk,seval];done)|omega|(simp only [yz]<;>omega)|fail) only [yg,seval,g3]
     ·rw [nx]; unfold visit; rw [hn, hm]; exact hI4
  ·have hj2 : j = 2 := by simp at hA; omega
   subst hj2
   have hw2 : w64 ((i : Int) + 1) = ((i + 1 : Nat) : Int) := by rw [w64_of (by omega)]; omega
   simp (disch:=first|(simp only [yk,seval];done)|omega|(simp only [yz]<;>omega)|fail) only [↓yp,yq0,yq1,yq2,yq3,yq4,yl,ys0,ys1,seval,zed,zee,zfr,zhw,ysu,yrg,ysv,ysw,ysx,ysz,g14,hw2]
   refine ⟨l.length - (i + 1), by omega, i + 1, rfl, by omega, rfl, ?_, ?_, ?_, ?_, ?_, ?_, ?_⟩
   ·simp (disch:=first|(simp only [yk,seval];done)|omega|(simp only [yz]<;>omega)|fail) only [yg,seval]
   ·simp (disch:=first|(simp only [yk,seval];done)|omega|(simp only [yz]<;>omega)|fail) only [yg,seval,g13]
   ·simp (disch:=first|(simp only [yk,seval];done)|omega|(simp only [yz]<;>omega)|fail) only [yg,seval,g0]
   ·simp (disch:=first|(simp only [yk,seval];done)|omega|(simp only [yz]<;>omega)|fail) only [yg,seval,g1]
   ·simp (disch:=first|(simp only [yk,seval];done)|omega|(simp only [yz]<;>omega)|fail) only [yg,seval,g2]
   ·simp (disch:=first|(simp only [yk,seval];done)|omega|(simp only [yz]<;>omega)|fail) only [yg,seval,g3]
   ·rw [visits_take his]; exact hI
 ·have hi' : i = l.length := by simp at hge; omega
  subst hi'
  rw [visits_all] at hI
  simp (disch:=first|(simp only [yk,seval];done)|omega|(simp only [yz]<;>omega)|fail) only [↓yp,yq0,yq1,yq2,yq3,yq4,yl,ys0,ys1,seval,zed,zee,zfr,zhw,ysu,yrg,ysv,ysw,ysx,ysz,resV_none]
  exact hI
theorem W_legsd {n g p : Nat} {e : VT} {ds : List Nat} {assign body : Code} {J : σ → AHeap → Prop} (st₀ : σ) (hc : LegsD J l C w ld lf x a cap b1 b2 b3 (H.size + 2)) (hdn : ∀ st Ha Hb, J st₀ Ha → J st Hb → Fr Ha Hb → J st Ha) (hput : ∀ st H' blk, J st H' → J st (H'.put (H.size + 1) blk)) (hl : l.length ≤ 18) (hL : L ≤ H.size) (hp : p < n)
  (hg : gt n e g = .func (.func 123) ⟨[]⟩ ⟨[.pointer (some ⟨b1, 0, none⟩), .pointer (some ⟨b2, 0, none⟩), .pointer (some ⟨b3, 0, none⟩)]⟩)
  (h₀ : ∀ blk, J st₀ ((H.alloc .defer).alloc blk))
  (hy : ∀ M, K₀ ≤ M → ∀ st H' (i : Nat) s b e', J st H' → l[i]? = some s → mayL s b w ld = true → nearL s b = x → H'.get (H.size + 1) = .loop .ready none (lst n e) #[p] assign body H.size → H'.get H.size = .defer → gt n e' p = legV i b → (∀ j, j ≠ p → gt n e' j = gt n e j) →
   W tabA Try.prog M (some (H.size + 1)) assign L ⟨n, e', H', []⟩ (midY tabA Try.prog M (H.size + 1) L body (roundQ H.size (.loop .ready none (lst n e) #[p] assign body H.size) J (f st i s b))))
  {M : Nat} (hM : K₀ + 301 ≤ M) {Q : Exit → ES → Prop} (hq : ∀ H'' blk, J (visits f w ld x l 0 st₀) H'' → H''.get H.size = .defer → Q .normal ⟨n, e, H''.put (H.size + 1) blk, H.size :: ds⟩) :
  W tabA Try.prog M none (.rangeFunc (.tmp g) #[p] assign body) L ⟨n, e, H, ds⟩ Q := by
 obtain ⟨M, rfl⟩ : ∃ M', M = M' + 1 := ⟨M - 1, by omega⟩
 refine W_range (f := 123) (first := []) (cap := [.pointer (some ⟨b1, 0, none⟩), .pointer (some ⟨b2, 0, none⟩), .pointer (some ⟨b3, 0, none⟩)]) (by rw [zbs, hg]) hL ?_
 have hsz : ((H.alloc .defer).alloc (.loop .ready none (lst n e) #[p] assign body H.size)).size = H.size + 2 := by rw [zde, zde]
 refine c123d (I := fun st H' => H'.get (H.size + 1) = .loop .ready none (lst n e) #[p] assign body H.size ∧ H'.get H.size = .defer ∧ J st H') (f := f) (st₀ := st₀) (base := H.size + 2) (K₀ := K₀) (lb := H.size + 1) (C := C) (w := w) (ld := ld) (lf := lf) (x := x) (a := a) (cap := cap) (b1 := b1) (b2 := b2) (b3 := b3)
  ⟨?_, fun st H' h => hc.sz _ _ h.2.2, fun st H' h => hc.job _ _ h.2.2, fun st H' h => hc.cor _ _ h.2.2, fun st H' h => hc.suit _ _ h.2.2, fun N st H' i s b h hi => hc.ends N _ _ i s b h.2.2 hi, fun N st H' i s b h hi => hc.may N _ _ i s b h.2.2 hi⟩ ?_ hl (by omega) (by omega) ?_ ?_ (by omega) ?_
 ·rintro st H' H'' ⟨h1, h2, h3⟩ fr
  have := hc.sz _ _ h3
  exact ⟨by rw [fr.same _ (by omega)]; exact h1, by rw [fr.same _ (by omega)]; exact h2, hc.up _ _ _ h3 fr⟩
 ·rintro st H'' ⟨h1, h2, h3⟩ fr
  exact ⟨by rw [← fr.same _ (by omega)]; exact h1, by rw [← fr.same _ (by omega)]; exact h2, hdn _ _ _ (h₀ _) h3 fr⟩
 ·rintro M' hM' st H' i s b ⟨h1, h2, h3⟩ hi hm hn
  refine resK_mono (yield_run1 (Q := roundQ H.size (.loop .ready none (lst n e) #[p] assign body H.size) J (f st i s b)) h1 hp (by omega) fun e' he he' => hy M' hM' st H' i s b e' h3 hi hm hn h1 h2 he he') ?_
  rintro q v H'' ⟨k1, k2, k3, k4⟩
  exact ⟨k1, k2, k3, k4⟩
 ·refine ⟨?_, ?_, h₀ _⟩
  ·rw [zda (by rw [zde])]
  ·rw [zdb (by rw [zde]; omega), zcz]
 ·rintro q v H'' ⟨h1, h2, h3⟩
  refine ⟨.ready, _, _, _, _, _, (fun h => by cases h), h1, hq _ _ h3 h2⟩
end
end Go.Am
namespace Go.Am
open Go.Proofs
section
variable {l : List Str} {C w ld a₀ : Int} {nx : Stt → Nat → Str → Bool → Stt} {s₀ : Stt}
inductive CanS (l : List Str) (w ld : Int) (nx : Stt → Nat → Str → Bool → Stt) (s₀ : Stt) (a₀ : Int) : Int → Stt → Prop where
 | start : CanS l w ld nx s₀ a₀ a₀ s₀
 | wait {m : Int} {x : Stt} (h : CanS l w ld nx s₀ a₀ m x) (hm : m < 240) : CanS l w ld nx s₀ a₀ (m + 1) x
 | go {m : Int} {x : Stt} {i : Nat} {s : Str} {b : Bool} (h : CanS l w ld nx s₀ a₀ m x) (hx : nearL s b = x.1) (hi : l[i]? = some s) (hm : mayL s b w ld = true) (hs : startsL s b ld m ≠ -1) : CanS l w ld nx s₀ a₀ (startsL s b ld m) (nx x i s b)
theorem CanS.le {m : Int} {x : Stt} (h : CanS l w ld nx s₀ a₀ m x) (ha : a₀ ≤ 240) (g : Good C l ld) : a₀ ≤ m ∧ m ≤ 240 := by
 induction h with
 | start => omega
 | wait _ _ ih => omega
 | @go m x i s b _ _ hi _ hs ih =>
  have := starts_eq hs
  have := (g.fit (List.mem_of_getElem? hi)).takes b
  omega
theorem CanS.later {m k : Int} {x : Stt} (h : CanS l w ld nx s₀ a₀ m x) (hk : m ≤ k) (h2 : k ≤ 240) : CanS l w ld nx s₀ a₀ k x := by
 obtain ⟨d, rfl⟩ : ∃ d : Nat, k = m + d := ⟨(k - m).toNat, by omega⟩
 clear hk
 induction d with
 | zero => simpa using h
 | succ d ih =>
  have := (ih (by omega)).wait (by omega)
  rw [show m + ((d + 1 : Nat) : Int) = m + (d : Int) + 1 by omega]
  exact this
theorem CanS.arr {m : Int} {x : Stt} {i : Nat} {s : Str} {b : Bool} (h : CanS l w ld nx s₀ a₀ m x) (g : Good C l ld) (h0 : 0 ≤ a₀) (ha : a₀ ≤ 240) (hx : nearL s b = x.1) (hi : l[i]? = some s) (hm : mayL s b w ld = true) (hs : arriveL s b ld m ≠ -1) : CanS l w ld nx s₀ a₀ (arriveL s b ld m) (nx x i s b) := by
 have hf := g.fit (List.mem_of_getElem? hi)
 have hl := h.le ha g
 obtain ⟨k, h1, h2, h3⟩ := arr_starts (b := b) hf (by omega) hs
 have := starts_eq h3
 have := hf.takes b
 rw [← h2]
 exact (h.later h1 (by omega)).go hx hi hm h3
theorem arr_gt {s : Str} {b : Bool} {m : Int} (hf : Fit s ld) (h0 : 0 ≤ m) (h : arriveL s b ld m ≠ -1) : m < arriveL s b ld m ∧ arriveL s b ld m ≤ 240 := by
 obtain ⟨k, h1, h2, h3⟩ := arr_starts (b := b) hf h0 h
 have := starts_eq h3
 have := hf.takes b
 omega
structure Ex where
 F : Fm
 D : Int → List Stt
def relax (ld : Int) (nx : Stt → Nat → Str → Bool → Stt) (here : Stt) (m : Int) (st : Ex) (i : Nat) (s : Str) (b : Bool) : Ex :=
 if arriveL s b ld m = -1 ∨ (∃ o, flk st.F (nx here i s b) = some o ∧ o.m ≤ arriveL s b ld m) then st
 else ⟨fup st.F (nx here i s b) ⟨arriveL s b ld m, i, b, here.1, here.2⟩, fun t => if t = arriveL s b ld m then st.D t ++ [nx here i s b] else st.D t⟩
def procHere (l : List Str) (w ld : Int) (nx : Stt → Nat → Str → Bool → Stt) (m : Int) (st : Ex) (here : Stt) : Ex :=
 if (orZero (flk st.F here)).m < m then st else visits (relax ld nx here m) w ld here.1 l 0 st
def procMin (l : List Str) (w ld : Int) (nx : Stt → Nat → Str → Bool → Stt) (st : Ex) (m : Int) : Ex := (st.D m).foldl (procHere l w ld nx m) st
def exTo (l : List Str) (w ld : Int) (nx : Stt → Nat → Str → Bool → Stt) (s₀ : Stt) (a₀ : Int) : Nat → Ex
 | 0 => ⟨[(s₀, ⟨a₀, 0, false, 0, 0⟩)], fun t => if t = a₀ then [s₀] else []⟩
 | k + 1 => procMin l w ld nx (exTo l w ld nx s₀ a₀ k) k
structure ExI (l : List Str) (w ld : Int) (nx : Stt → Nat → Str → Bool → Stt) (s₀ : Stt) (a₀ : Int) (S : List Stt) (k : Int) (st : Ex) : Prop where
 can : ∀ s a, flk st.F s = some a → CanS l w ld nx s₀ a₀ a.m s
 beg : flk st.F s₀ = some ⟨a₀, 0, false, 0, 0⟩
 bef : ∀ s a, flk st.F s = some a → s ≠ s₀ → ∃ (i : Nat) (r : Str) (p : Arv), a.i = i ∧ l[i]? = some r ∧ mayL r a.b w ld = true ∧ nearL r a.b = a.c ∧ s = nx (a.c, a.d) i r a.b ∧ flk st.F (a.c, a.d) = some p ∧ arriveL r a.b ld p.m = a.m ∧ p.m < a.m ∧ p.m ≤ k
 due : ∀ s a, flk st.F s = some a → s ∈ st.D a.m
 had : ∀ t s, s ∈ st.D t → ∃ a, flk st.F s = some a ∧ a.m ≤ t
 all : ∀ s a, flk st.F s = some a → a.m < k → ∀ (i : Nat) (r : Str) (b : Bool), l[i]? = some r → mayL r b w ld = true → nearL r b = s.1 → arriveL r b ld a.m ≠ -1 → ∃ a', flk st.F (nx s i r b) = some a' ∧ a'.m ≤ arriveL r b ld a.m
 nd : ∀ t, (st.D t).Nodup
 sub : ∀ s a, flk st.F s = some a → s ∈ S
structure StS (l : List Str) (nx : Stt → Nat → Str → Bool → Stt) (s₀ : Stt) (S : List Stt) : Prop where
 beg : s₀ ∈ S
 step : ∀ s ∈ S, ∀ (i : Nat) (r : Str) (b : Bool), l[i]? = some r → nearL r b = s.1 → nx s i r b ∈ S
variable {S : List Stt} {k : Int} {st : Ex} {here : Stt} {h : Arv}
theorem relax_D {i : Nat} {r : Str} {b : Bool} (g : Good C l ld) (hi : l[i]? = some r) (hk : 0 ≤ k) {t : Int} (ht : t ≤ k) : (relax ld nx here k st i r b).D t = st.D t := by
 unfold relax
 split
 ·rfl
 ·rename_i hn
  have hne : arriveL r b ld k ≠ -1 := fun e => hn (.inl e)
  have := arr_gt (g.fit (List.mem_of_getElem? hi)) hk hne
  simp only
  rw [if_neg (by omega)]
theorem relax_old {i : Nat} {r : Str} {b : Bool} (g : Good C l ld) (hi : l[i]? = some r) (hk : 0 ≤ k) {s : Stt} {a : Arv} (hs : flk st.F s = some a) (ha : a.m ≤ k) : flk (relax ld nx here k st i r b).F s = some a := by
 unfold relax
 split
 ·exact hs
 ·rename_i hn
  have hne : arriveL r b ld k ≠ -1 := fun e => hn (.inl e)
  have := arr_gt (g.fit (List.mem_of_getElem? hi)) hk hne
  simp only
  rw [flk_up, if_neg]
  ·exact hs
  ·rintro rfl
   exact hn (.inr ⟨a, hs, by omega⟩)
theorem relax_some {i : Nat} {r : Str} {b : Bool} {s : Stt} {a : Arv} (hs : flk st.F s = some a) : ∃ a', flk (relax ld nx here k st i r b).F s = some a' ∧ a'.m ≤ a.m := by
 unfold relax
 split
 ·exact ⟨a, hs, Int.le_refl _⟩
 ·rename_i hn
  simp only
  rw [flk_up]
  split
  ·rename_i e
   subst e
   refine ⟨_, rfl, ?_⟩
   show arriveL r b ld k ≤ a.m
   by_cases hle : a.m ≤ arriveL r b ld k
   ·exact absurd (.inr ⟨a, hs, hle⟩) hn
   ·omega
  ·exact ⟨a, hs, Int.le_refl _⟩
theorem relax_done {i : Nat} {r : Str} {b : Bool} (hne : arriveL r b ld k ≠ -1) : ∃ a', flk (relax ld nx here k st i r b).F (nx here i r b) = some a' ∧ a'.m ≤ arriveL r b ld k := by
 unfold relax
 split
 ·rename_i hn
  rcases hn with h | ⟨o, h1, h2⟩
  ·exact absurd h hne
  ·exact ⟨o, h1, h2⟩
 ·simp only
  rw [flk_up, if_pos rfl]
  exact ⟨_, rfl, Int.le_refl _⟩
theorem relax_ok {i : Nat} {r : Str} {b : Bool} (I : ExI l w ld nx s₀ a₀ S k st) (g : Good C l ld) (hS : StS l nx s₀ S) (h0 : 0 ≤ a₀ ∧ a₀ ≤ 240) (hk : 0 ≤ k) (hh : flk st.F here = some h) (hm : h.m = k) (hi : l[i]? = some r) (hmay : mayL r b w ld = true) (hn : nearL r b = here.1) : ExI l w ld nx s₀ a₀ S k (relax ld nx here k st i r b) := by
 have hf := g.fit (List.mem_of_getElem? hi)
 have old := fun {s : Stt} {a : Arv} (hs : flk st.F s = some a) (ha : a.m ≤ k) => relax_old (nx := nx) (here := here) (b := b) g hi hk hs ha
 have lee := fun {s : Stt} {a : Arv} (hs : flk st.F s = some a) => relax_some (ld := ld) (nx := nx) (here := here) (k := k) (i := i) (r := r) (b := b) hs
 by_cases hc : arriveL r b ld k = -1 ∨ (∃ o, flk st.F (nx here i r b) = some o ∧ o.m ≤ arriveL r b ld k)
 ·have : relax ld nx here k st i r b = st := by unfold relax; rw [if_pos hc]
  rw [this]; exact I
 have hne : arriveL r b ld k ≠ -1 := fun e => hc (.inl e)
 have hgt := arr_gt hf hk hne
 have e : relax ld nx here k st i r b = ⟨fup st.F (nx here i r b) ⟨arriveL r b ld k, i, b, here.1, here.2⟩, fun t => if t = arriveL r b ld k then st.D t ++ [nx here i r b] else st.D t⟩ := by unfold relax; rw [if_neg hc]
 have hbk : a₀ ≤ k := by
  have := (I.can _ _ hh).le h0.2 g
  omega
 rw [e] at old lee ⊢
 simp only at old lee
 refine ⟨fun s a hs => ?_, ?_, fun s a hs hs0 => ?_, fun s a hs => ?_, fun t s hs => ?_, fun s a hs ha j r' b' hj hm' hn' har => ?_, fun t => ?_, fun s a hs => ?_⟩
 ·simp only at hs
  rw [flk_up] at hs
  split at hs
  ·rename_i e'
   cases hs
   subst e'
   have := I.can _ _ hh
   rw [hm] at this
   exact this.arr g h0.1 h0.2 hn hi hmay hne
  ·exact I.can s a hs
 ·simp only
  exact old I.beg (by show a₀ ≤ k; exact hbk)
 ·simp only at hs ⊢
  rw [flk_up] at hs
  split at hs
  ·rename_i e'
   cases hs
   exact ⟨i, r, h, rfl, hi, hmay, hn, e', old hh (by omega), by rw [hm], by show h.m < arriveL r b ld k; omega, by omega⟩
  ·obtain ⟨j, r', p, q1, q2, q3, q4, q5, q6, q7, q8, q9⟩ := I.bef s a hs hs0
   exact ⟨j, r', p, q1, q2, q3, q4, q5, old q6 q9, q7, q8, q9⟩
 ·simp only at hs ⊢
  rw [flk_up] at hs
  split at hs
  ·rename_i e'
   cases hs
   simp only [if_true]
   exact List.mem_append_right _ (by simp [e'])
  ·have := I.due s a hs
   split
   ·exact List.mem_append_left _ this
   ·exact this
 ·simp only at hs ⊢
  have key : s ∈ st.D t → ∃ a, flk (fup st.F (nx here i r b) ⟨arriveL r b ld k, i, b, here.1, here.2⟩) s = some a ∧ a.m ≤ t := fun hm => by
   obtain ⟨a, h1, h2⟩ := I.had t s hm
   obtain ⟨a', h3, h4⟩ := lee h1
   exact ⟨a', h3, by omega⟩
  split at hs
  ·rename_i e'
   rcases List.mem_append.1 hs with hs | hs
   ·exact key hs
   ·simp only [List.mem_singleton] at hs
    subst hs
    rw [flk_up, if_pos rfl]
    exact ⟨_, rfl, by show arriveL r b ld k ≤ t; omega⟩
  ·exact key hs
 ·simp only at hs ⊢
  rw [flk_up] at hs
  split at hs
  ·cases hs
   simp only at ha
   omega
  ·obtain ⟨a', h1, h2⟩ := I.all s a hs ha j r' b' hj hm' hn' har
   obtain ⟨a'', h3, h4⟩ := lee h1
   exact ⟨a'', h3, by omega⟩
 ·simp only
  split
  ·rename_i e'
   refine List.nodup_append.2 ⟨I.nd t, by simp, fun x hx y hy => ?_⟩
   simp only [List.mem_singleton] at hy
   subst hy
   rintro rfl
   obtain ⟨a, h1, h2⟩ := I.had t _ hx
   exact hc (.inr ⟨a, h1, by omega⟩)
  ·exact I.nd t
 ·simp only at hs
  rw [flk_up] at hs
  split at hs
  ·rename_i e'
   rw [e']
   exact hS.step _ (I.sub _ _ hh) i r b hi hn
  ·exact I.sub s a hs
theorem here_ok (I : ExI l w ld nx s₀ a₀ S k st) (g : Good C l ld) (hS : StS l nx s₀ S) (h0 : 0 ≤ a₀ ∧ a₀ ≤ 240) (hk : 0 ≤ k) (hd : here ∈ st.D k) :
  ExI l w ld nx s₀ a₀ S k (procHere l w ld nx k st here) ∧ (∀ t ≤ k, (procHere l w ld nx k st here).D t = st.D t) ∧ (∀ s a, flk st.F s = some a → a.m ≤ k → flk (procHere l w ld nx k st here).F s = some a) ∧ (∀ s a, flk st.F s = some a → ∃ a', flk (procHere l w ld nx k st here).F s = some a' ∧ a'.m ≤ a.m) ∧
  (∀ a, flk st.F here = some a → a.m = k → ∀ (i : Nat) (r : Str) (b : Bool), l[i]? = some r → mayL r b w ld = true → nearL r b = here.1 → arriveL r b ld k ≠ -1 → ∃ a', flk (procHere l w ld nx k st here).F (nx here i r b) = some a' ∧ a'.m ≤ arriveL r b ld k) := by
 obtain ⟨h, hh, hle⟩ := I.had k here hd
 have ho : (orZero (flk st.F here)).m = h.m := by rw [hh]; rfl
 unfold procHere
 by_cases hlt : (orZero (flk st.F here)).m < k
 ·rw [if_pos hlt]
  exact ⟨I, fun t _ => rfl, fun s a hs _ => hs, fun s a hs => ⟨a, hs, Int.le_refl _⟩, fun a ha hm => by rw [hh] at ha; cases ha; omega⟩
 ·rw [if_neg hlt]
  have hm : h.m = k := by omega
  have ind := visits_ind (f := relax ld nx here k) (w := w) (ld := ld) (x := here.1) (P := fun st' => ExI l w ld nx s₀ a₀ S k st' ∧ flk st'.F here = some h ∧ (∀ t ≤ k, st'.D t = st.D t) ∧ (∀ s a, flk st.F s = some a → a.m ≤ k → flk st'.F s = some a) ∧ (∀ s a, flk st.F s = some a → ∃ a', flk st'.F s = some a' ∧ a'.m ≤ a.m)) l
   (fun st' i r b hp hi hmay hn => by
    obtain ⟨p1, p2, p3, p4, p5⟩ := hp
    refine ⟨relax_ok p1 g hS h0 hk p2 hm hi hmay hn, relax_old g hi hk p2 (by omega), fun t ht => by rw [relax_D g hi hk ht, p3 t ht], fun s a hs ha => relax_old g hi hk (p4 s a hs ha) ha, fun s a hs => ?_⟩
    obtain ⟨a', q1, q2⟩ := p5 s a hs
    obtain ⟨a'', q3, q4⟩ := relax_some (ld := ld) (nx := nx) (here := here) (k := k) (i := i) (r := r) (b := b) q1
    exact ⟨a'', q3, by omega⟩) l 0 st (fun j s hj => by simpa using hj) ⟨I, hh, fun t _ => rfl, fun s a hs _ => hs, fun s a hs => ⟨a, hs, Int.le_refl _⟩⟩
  obtain ⟨p1, p2, p3, p4, p5⟩ := ind
  refine ⟨p1, p3, p4, p5, fun a ha _ i₀ r₀ b₀ hi hmay hn hne => ?_⟩
  exact visits_each (f := relax ld nx here k) (w := w) (ld := ld) (x := here.1) (i₀ := i₀) (s₀ := r₀) (b₀ := b₀) (P := fun _ => True) (R := fun st' => ∃ a', flk st'.F (nx here i₀ r₀ b₀) = some a' ∧ a'.m ≤ arriveL r₀ b₀ ld k) l
   (fun _ _ _ _ _ _ _ _ => trivial)
   (fun st' i r b _ hr _ _ _ => by
    obtain ⟨a', q1, q2⟩ := hr
    obtain ⟨a'', q3, q4⟩ := relax_some (ld := ld) (nx := nx) (here := here) (k := k) (i := i) (r := r) (b := b) q1
    exact ⟨a'', q3, by omega⟩)
   (fun st' _ => relax_done hne) hmay hn l 0 st (fun j s hj => by simpa using hj) (Nat.zero_le _) (by simpa using hi) trivial
theorem min_ok (I : ExI l w ld nx s₀ a₀ S k st) (g : Good C l ld) (hS : StS l nx s₀ S) (h0 : 0 ≤ a₀ ∧ a₀ ≤ 240) (hk : 0 ≤ k) : ExI l w ld nx s₀ a₀ S (k + 1) (procMin l w ld nx st k) := by
 have fold : ∀ (L : List Stt) (st' : Ex), (∀ s ∈ L, s ∈ st.D k) → ExI l w ld nx s₀ a₀ S k st' → st'.D k = st.D k →
   (∀ s a, s ∈ st.D k → s ∉ L → flk st'.F s = some a → a.m = k → ∀ (i : Nat) (r : Str) (b : Bool), l[i]? = some r → mayL r b w ld = true → nearL r b = s.1 → arriveL r b ld k ≠ -1 → ∃ a', flk st'.F (nx s i r b) = some a' ∧ a'.m ≤ arriveL r b ld k) →
   ExI l w ld nx s₀ a₀ S (k + 1) (L.foldl (procHere l w ld nx k) st') := by
  intro L
  induction L with
  | nil =>
   intro st' _ I' hD hdone
   refine ⟨I'.can, I'.beg, fun s a hs hs0 => ?_, I'.due, I'.had, fun s a hs ha i r b hi hmay hn har => ?_, I'.nd, I'.sub⟩
   ·obtain ⟨j, r', p, q1, q2, q3, q4, q5, q6, q7, q8, q9⟩ := I'.bef s a hs hs0
    exact ⟨j, r', p, q1, q2, q3, q4, q5, q6, q7, q8, by omega⟩
   ·by_cases hlt : a.m < k
    ·exact I'.all s a hs hlt i r b hi hmay hn har
    ·have hm : a.m = k := by omega
     have hmem : s ∈ st.D k := by
      have := I'.due s a hs
      rw [hm, hD] at this
      exact this
     rw [hm] at har ⊢
     exact hdone s a hmem (by simp) hs hm i r b hi hmay hn har
  | cons here L ih =>
   intro st' hL I' hD hdone
   have hmem := hL here (by simp)
   obtain ⟨p1, p2, p3, p4, p5⟩ := here_ok I' g hS h0 hk (by rw [hD]; exact hmem)
   refine ih _ (fun s hs => hL s (List.mem_cons_of_mem _ hs)) p1 (by rw [p2 k (Int.le_refl _), hD]) (fun s a hs hnl hfl hm i r b hi hmay hn har => ?_)
   -- the entry was there before, as it is
   obtain ⟨a₁, h1, h2⟩ := I'.had k s (by rw [hD]; exact hs)
   have h3 := p3 s a₁ h1 h2
   rw [hfl] at h3
   cases h3
   by_cases e : s = here
   ·subst e
    exact p5 a h1 hm i r b hi hmay hn har
   ·obtain ⟨a', q1, q2⟩ := hdone s a hs (by simp [e, hnl]) h1 hm i r b hi hmay hn har
    obtain ⟨a'', q3, q4⟩ := p4 _ _ q1
    exact ⟨a'', q3, by omega⟩
 exact fold (st.D k) st (fun s h => h) I rfl (fun s a hs hn => absurd hs hn)
theorem exTo_ok (g : Good C l ld) (hS : StS l nx s₀ S) (h0 : 0 ≤ a₀ ∧ a₀ ≤ 240) : ∀ k : Nat, ExI l w ld nx s₀ a₀ S k (exTo l w ld nx s₀ a₀ k)
 | 0 => by
  have one : ∀ s a, flk (exTo l w ld nx s₀ a₀ 0).F s = some a → s = s₀ ∧ a = ⟨a₀, 0, false, 0, 0⟩ := fun s a hs => by
   simp only [exTo,flk] at hs
   split at hs
   ·cases hs; exact ⟨by assumption, rfl⟩
   ·cases hs
  refine ⟨fun s a hs => ?_, by simp [exTo, flk], fun s a hs hs0 => absurd (one s a hs).1 hs0, fun s a hs => ?_, fun t s hs => ?_, fun s a hs ha => ?_, fun t => ?_, fun s a hs => ?_⟩
  ·obtain ⟨rfl, rfl⟩ := one s a hs
   exact .start
  ·obtain ⟨rfl, rfl⟩ := one s a hs
   simp [exTo]
  ·simp only [exTo] at hs
   split at hs
   ·simp only [List.mem_singleton] at hs
    subst hs
    exact ⟨_, by simp [exTo, flk]; rfl, by simp; omega⟩
   ·simp at hs
  ·obtain ⟨rfl, rfl⟩ := one s a hs
   simp at ha
   omega
  ·simp only [exTo]
   split <;> simp
  ·obtain ⟨rfl, rfl⟩ := one s a hs
   exact hS.beg
 | k + 1 => by
  have := min_ok (exTo_ok g hS h0 k) g hS h0 (Int.natCast_nonneg k)
  exact this
theorem ex_least (g : Good C l ld) (hS : StS l nx s₀ S) (h0 : 0 ≤ a₀ ∧ a₀ ≤ 240) {m : Int} {x : Stt} (h : CanS l w ld nx s₀ a₀ m x) : ∃ a, flk (exTo l w ld nx s₀ a₀ 241).F x = some a ∧ a.m ≤ m := by
 have I := exTo_ok (w := w) g hS h0 241
 induction h with
 | start => exact ⟨_, I.beg, Int.le_refl _⟩
 | wait _ _ ih =>
  obtain ⟨a, h1, h2⟩ := ih
  exact ⟨a, h1, by omega⟩
 | @go m x i s b hc hx hi hm hs ih =>
  obtain ⟨a, h1, h2⟩ := ih
  have hl := (I.can _ _ h1).le h0.2 g
  have hf := g.fit (List.mem_of_getElem? hi)
  obtain ⟨h3, h4⟩ := arr_le (b := b) hf (by omega) h2 hs
  obtain ⟨a', h5, h6⟩ := I.all x a h1 (by have := hl.2; show a.m < ((241 : Nat) : Int); omega) i s b hi hm hx h3
  exact ⟨a', h5, by omega⟩
end
end Go.Am
