import Derived.Test.YtaieoelbpnjoiaaT28
import Derived.Test.YtaieoelbpnjoiaaT27
set_option linter.unusedSimpArgs false
set_option linter.unusedVariables false
namespace Go.Am
open Go.Proofs
variable {T : Tab} {P : Program} {N L : Nat} {H : AHeap} {Q : Bool → Value → AHeap → Prop}
theorem tabA_fr : tabA.MemoFr := by
 intro f args H b v H' m h
 simp only [tabA,Tab.sure] at h
 split at h
 ·cases h; exact Fra.refl _ _
 ·cases h
theorem c94 {a : Option Addr} {cap i : Nat} {l : List Str} {C w ld : Int} {b : Bool} {s : Str} (hs : Sl H a l) (hi : l[i]? = some s) :
  acall tabA (aexec tabA Try.prog (N + 40)) 94 [jobV C a l.length cap w ld, legV i b] H = some (true, .tuple ⟨[.int .i64 (nearL s b), .int .i64 (farL s b)]⟩, H, H.size) := by
 refine call_quiet (k := 24) (rs := [.tmp 4, .tmp 5]) rfl fn_94 rfl rfl rfl ?_ rfl
 have hlt := (List.getElem?_eq_some_iff.1 hi).1
 obtain ⟨b', o, c, rfl, hb, hc, hp⟩ := hs.get (fun h => by subst h; simp at hi)
 have hpi := hp i s hi
 cases b
 ·simp (disch:=first|(simp only [yk,seval];done)|omega|(simp only [yz]<;>omega)|fail) only [↓yp,yq0,yq1,yq2,yq3,yq4,yl,ys0,ys1,seval,zed,zee,zfr,zhw,ysu,yrg,jobV,legV,A_indexSlice zio,hc,hpi,Str.enc]
  refine W_draw [] rfl (by kernel_rfl) (by kernel_rfl) (by first|omega|(simp only [yz]<;>omega)) ?_
  simp (disch:=first|(simp only [yk,seval];done)|omega|(simp only [yz]<;>omega)|fail) only [↓yp,yq0,yq1,yq2,yq3,yq4,yl,ys0,ys1,seval,zed,zee,zfr,zhw,ysu,yrg,nearL,farL]
 ·simp (disch:=first|(simp only [yk,seval];done)|omega|(simp only [yz]<;>omega)|fail) only [↓yp,yq0,yq1,yq2,yq3,yq4,yl,ys0,ys1,seval,zed,zee,zfr,zhw,ysu,yrg,jobV,legV,A_indexSlice zio,hc,hpi,Str.enc]
  refine W_draw [] rfl (by kernel_rfl) (by kernel_rfl) (by first|omega|(simp only [yz]<;>omega)) ?_
  simp (disch:=first|(simp only [yk,seval];done)|omega|(simp only [yz]<;>omega)|fail) only [↓yp,yq0,yq1,yq2,yq3,yq4,yl,ys0,ys1,seval,zed,zee,zfr,zhw,ysu,yrg,nearL,farL]
theorem fit_w64 {s : Str} {ld : Int} (hf : Fit s ld) : w64 (s.up * ld) = s.up * ld ∧ w64 (s.mi + s.up * ld) = s.mi + s.up * ld ∧ w64 (s.hi + 1) = s.hi + 1 ∧ ∀ b, w64 (s.hi + 1 + takes s b ld) = s.hi + 1 + takes s b ld := by
 have h1 := hf.mi
 have h2 := hf.ul
 have h3 := hf.hi
 refine ⟨w64_of (by omega), w64_of (by omega), w64_of (by omega), fun b => w64_of ?_⟩
 have := hf.takes b
 omega
theorem c117m {a : Option Addr} {cap i : Nat} {l : List Str} {C w ld m : Int} {b : Bool} {s : Str} (hs : Sl H a l) (hi : l[i]? = some s) (hf : Fit s ld) (hm : okM m) :
  acall tabA (aexec tabA Try.prog (N + 160)) 117 [jobV C a l.length cap w ld, legV i b, .int .i64 m] H = some (true, .int .i64 (arrL s b ld m), H, H.size) := by
 have ht := hf.takes b
 have hm1 := hm.1
 have hm2 := hm.2
 unfold arrL
 split
 ·rename_i e
  subst e
  refine call_quiet (k := 36) (rs := [.tmp 6]) rfl fn_117 rfl rfl rfl ?_ rfl
  have e4 : decide ((-1 : Int) = -1) = true := by decide
  simp (disch:=first|(simp only [yk,seval];done)|omega|(simp only [yz]<;>omega)|fail) only [↓yp,yq0,yq1,yq2,yq3,yq4,yl,ys0,ys1,seval,zed,zee,zfr,zhw,ysu,yrg,jobV,legV,e4]
 ·rename_i e
  obtain ⟨w1, w2, w3, w4⟩ := fit_w64 hf
  exact c117 hs hi w1 w2 (w64_of (by omega)) w3 (w4 b) e
def least2 (m o : Int) : Int := if m = -1 then o else if o = -1 then m else if o < m then o else m
set_option maxHeartbeats 1000000 in
theorem c102 {m o : Int} {k : Nat} (hk : cellsOf (H.get k) = some [.int .i64 m, .int .i64 o]) (hlt : k < H.size) :
  acall tabA (aexec tabA Try.prog (N + 60)) 102 [.slice (some ⟨k, 0, none⟩) 2 2] H = some (true, .int .i64 (least2 m o), H, H.size) := by
 refine call_quiet (k := 26) (rs := [.tmp 2]) rfl fn_102 rfl rfl rfl ?_ rfl
 have d0 : decide (((0 : Nat) : Int) < ((2 : Nat) : Int)) = true := by decide
 have d1 : decide (((1 : Nat) : Int) < ((2 : Nat) : Int)) = true := by decide
 have d2 : decide (((2 : Nat) : Int) < ((2 : Nat) : Int)) = false := by decide
 have q0 : w64 1 = 1 := by kernel_rfl
 have q1 : w64 2 = 2 := by kernel_rfl
 have f0 : decide ((0 : Int) < ((2 : Nat) : Int)) = true := by decide
 have f1 : decide ((1 : Int) < ((2 : Nat) : Int)) = true := by decide
 have f2 : decide ((2 : Int) < ((2 : Nat) : Int)) = false := by decide
 have e1 : decide ((-1 : Int) = -1) = true := by decide
 cases hm : decide (m = -1) <;> cases ho : decide (o = -1) <;> cases hl : decide (o < m) <;>
  (
   simp (disch:=first|(simp only [yk,seval];done)|omega|(simp only [yz]<;>omega)|fail) only [↓yp,yq0,yq1,yq2,yq3,yq4,yl,ys0,ys1,seval,zed,zee,zfr,zhw,ysu,yrg,lenV_slice zir]
   rw [W_loop]
   simp (disch:=first|(simp only [yk,seval];done)|omega|(simp only [yz]<;>omega)|fail) only [↓yp,yq0,yq1,yq2,yq3,yq4,yl,ys0,ys1,seval,zed,zee,zfr,zhw,ysu,yrg,f0,A_indexSlice zir,hk,hm,e1,q0,Int.toNat_zero,Nat.zero_mul]
   rw [W_loop]
   simp (disch:=first|(simp only [yk,seval];done)|omega|(simp only [yz]<;>omega)|fail) only [↓yp,yq0,yq1,yq2,yq3,yq4,yl,ys0,ys1,seval,zed,zee,zfr,zhw,ysu,yrg,f1,A_indexSlice zir,hk,hm,ho,hl,e1,q1,Int.toNat_one]
   rw [W_loop]
   simp (disch:=first|(simp only [yk,seval];done)|omega|(simp only [yz]<;>omega)|fail) only [↓yp,yq0,yq1,yq2,yq3,yq4,yl,ys0,ys1,seval,zed,zee,zfr,zhw,ysu,yrg,f2,least2]
   simp only [decide_eq_true_eq,decide_eq_false_iff_not] at hm ho hl
   simp [hm, ho, hl])
theorem c122 {m o : Int} : acall tabA (aexec tabA Try.prog (N + 100)) 122 [.int .i64 m, .int .i64 o] H = some (true, .bool (!decide (m = o) && decide (least2 m o = m)), H, H.size) := by
 refine call_quiet (k := 16) (rs := [.tmp 4]) rfl fn_122 rfl rfl rfl ?_ rfl
 cases hm : decide (m = o)
 ·simp (disch:=first|(simp only [yk,seval];done)|omega|(simp only [yz]<;>omega)|fail) only [↓yp,yq0,yq1,yq2,yq3,yq4,yl,ys0,ys1,seval,zed,zee,zfr,zhw,ysu,yrg,hm,A_buildSlice st_brS_52_2]
  rw [c102 (m := m) (o := o) (by simp (disch:=first|(simp only [yk,seval];done)|omega|(simp only [yz]<;>omega)|fail) only [yg,seval]) (by first|omega|(simp only [yz]<;>omega))]
  simp (disch:=first|(simp only [yk,seval];done)|omega|(simp only [yz]<;>omega)|fail) only [↓yp,yq0,yq1,yq2,yq3,yq4,yl,ys0,ys1,seval,zed,zee,zfr,zhw,ysu,yrg,hm]
 ·simp (disch:=first|(simp only [yk,seval];done)|omega|(simp only [yz]<;>omega)|fail) only [↓yp,yq0,yq1,yq2,yq3,yq4,yl,ys0,ys1,seval,zed,zee,zfr,zhw,ysu,yrg,hm]
theorem fwd_better {ld m o : Int} (hm : okM m) (ho : okM o) : (!decide (m = o) && decide (least2 m o = m)) = decide ((fwd ld).mu m < (fwd ld).mu o) := by
 obtain ⟨a1, a2⟩ := hm
 obtain ⟨b1, b2⟩ := ho
 rw [Bool.eq_iff_iff]
 simp only [Bool.and_eq_true,Bool.not_eq_true',decide_eq_true_eq,decide_eq_false_iff_not]
 have m1 : ∀ v, v = -1 → (fwd ld).mu v = 241 := fun v h => if_pos h
 have m2 : ∀ v, v ≠ -1 → (fwd ld).mu v = v := fun v h => if_neg h
 by_cases e1 : m = -1
 ·have l : least2 m o = o := if_pos e1
  rw [l, m1 m e1]
  by_cases e2 : o = -1
  ·rw [m1 o e2]; omega
  ·rw [m2 o e2]; omega
 ·by_cases e2 : o = -1
  ·have l : least2 m o = m := by unfold least2; rw [if_neg e1, if_pos e2]
   rw [l, m2 m e1, m1 o e2]
   omega
  ·rw [m2 m e1, m2 o e2]
   by_cases e3 : o < m
   ·have l : least2 m o = o := by unfold least2; rw [if_neg e1, if_neg e2, if_pos e3]
    rw [l]; omega
   ·have l : least2 m o = m := by unfold least2; rw [if_neg e1, if_neg e2, if_neg e3]
    rw [l]; omega
end Go.Am
namespace Go.Am
open Go.Proofs
variable {T : Tab} {P : Program} {N L : Nat} {H : AHeap} {Q : Bool → Value → AHeap → Prop}
theorem st_baS_171 : baS tabA 171 = some ([.int .i64 0, .bool false, .int .i64 0, .bool false], 2) := by kernel_rfl
def jobG (C : Int) (a : Option Addr) (n cap : Nat) (w ld lf : Int) : Value := .agg ⟨[.int .i64 C, .slice a n cap, .int .i64 w, .int .i64 ld, .int .i64 lf]⟩
set_option maxHeartbeats 1000000 in
theorem c101 : acall tabA (aexec tabA Try.prog (N + 100)) 101 [] H = some (true, .agg ⟨tv (List.replicate 8 (-1))⟩, H, H.size) := by
 refine call_quiet (k := 10) (rs := [.cell 0 130]) rfl fn_101 rfl rfl rfl ?_ rfl
 simp (disch:=first|(simp only [yk,seval];done)|omega|(simp only [yz]<;>omega)|fail) only [↓yp,yq0,yq1,yq2,yq3,yq4,yl,ys0,ys1,seval,zed,zee,zfr,zhw,ysu,yrg,A_indexArr st_arS_130,w64_of]
 iterate 9
  rw [W_loop]
  simp (disch:=first|(simp only [yk,seval];done)|omega|(simp only [yz]<;>omega)|fail) only [↓yp,yq0,yq1,yq2,yq3,yq4,yl,ys0,ys1,seval,zed,zee,zfr,zhw,ysu,yrg,A_indexArr st_arS_130,w64_of]
 rfl
theorem c106 {C w ld lf x : Int} {a : Option Addr} {n cap : Nat} {u : Value} (hu : u.cells.toList = [u]) (hL : L ≤ H.size) : resK (acall tabA (aexec tabA Try.prog (N + 40)) 106 [jobG C a n cap w ld lf, .int .i64 x, u] H) L Q =
  Q false (.func (.func 123) ⟨[]⟩ ⟨[.pointer (some ⟨H.size, 0, none⟩), .pointer (some ⟨H.size + 1, 0, none⟩), .pointer (some ⟨H.size + 1 + 1, 0, none⟩)]⟩) (((H.alloc (.rw [.int .i64 C, .slice a n cap, .int .i64 w, .int .i64 ld, .int .i64 lf] 124 false [])).alloc (.rw [.int .i64 x] 3 false [])).alloc (.rw [u] 113 false [])) := by
 refine call_res (k := 8) (rs := [.tmp 6]) rfl fn_106 rfl rfl rfl ?_ rfl hL
 simp (disch:=first|(simp only [yk,seval];done)|omega|(simp only [yz]<;>omega)|fail) only [↓yp,yq0,yq1,yq2,yq3,yq4,yl,ys0,ys1,seval,zed,zee,zfr,zhw,ysu,yrg,jobG,hu]
section
variable {σ : Type} {f : σ → Nat → Str → Bool → σ} {I : σ → AHeap → Prop} {l : List Str} {C w ld lf x : Int} {a : Option Addr} {cap b1 b2 b3 lb : Nat} {st₀ : σ} {K₀ base : Nat}
structure LegsC (I : σ → AHeap → Prop) (l : List Str) (C w ld lf x : Int) (a : Option Addr) (cap b1 b2 b3 base : Nat) : Prop where
 up : ∀ st H' H'', I st H' → Fr H' H'' → I st H''
 down : ∀ st H' H'', I st H'' → Fr H' H'' → base ≤ H'.size → I st H'
 sz : ∀ st H', I st H' → base ≤ H'.size
 job : ∀ st H', I st H' → cellsOf (H'.get b1) = some [.int .i64 C, .slice a l.length cap, .int .i64 w, .int .i64 ld, .int .i64 lf]
 cor : ∀ st H', I st H' → cellsOf (H'.get b2) = some [.int .i64 x]
 suit : ∀ st H', I st H' → cellsOf (H'.get b3) = some [.func (.func 107) ⟨[jobG C a l.length cap w ld lf]⟩ ⟨[]⟩]
 ends : ∀ N st H' (i : Nat) s b, I st H' → l[i]? = some s → acall tabA (aexec tabA Try.prog (N + 40)) 94 [jobG C a l.length cap w ld lf, legV i b] H' = some (true, .tuple ⟨[.int .i64 (nearL s b), .int .i64 (farL s b)]⟩, H', H'.size)
 may : ∀ N st H' (i : Nat) s b, I st H' → l[i]? = some s → acall tabA (aexec tabA Try.prog (N + 40)) 107 [jobG C a l.length cap w ld lf, legV i b] H' = some (true, .bool (mayL s b w ld), H', H'.size)
def inn (f : σ → Nat → Str → Bool → σ) (w ld x : Int) (i : Nat) (s : Str) (st : σ) : Nat → σ
 | 0 => st
 | 1 => visit f w ld x i s false st
 | _ => visit f w ld x i s true (visit f w ld x i s false st)
theorem inn_next {i : Nat} {s : Str} {st : σ} {j : Nat} (hj : j < 2) : inn f w ld x i s st (j + 1) = visit f w ld x i s (j == 1) (inn f w ld x i s st j) := by
 have : j = 0 ∨ j = 1 := by omega
 rcases this with rfl | rfl <;> rfl
theorem part_legs {i : Int} {j : Nat} (hj : j < 2) : part [.int .i64 i, .bool false, .int .i64 i, .bool true] ((j : Int).toNat * 2) 3 = some (.agg ⟨[.int .i64 i, .bool (j == 1)]⟩) := by
 have : j = 0 ∨ j = 1 := by omega
 rcases this with rfl | rfl <;> rfl
set_option maxHeartbeats 2000000 in
theorem c123 (hc : LegsC I l C w ld lf x a cap b1 b2 b3 base) (hl : l.length ≤ 18) (hL : L ≤ base) (hb : base ≤ H.size)
  (hy : ∀ M, K₀ ≤ M → ∀ st H' (i : Nat) s b, I st H' → l[i]? = some s → mayL s b w ld = true → nearL s b = x → resK (ayield (aexec tabA Try.prog M) lb [legV i b] H') L fun _ v H'' => v = .bool true ∧ I (f st i s b) H'')
  (h₀ : I st₀ H) {M : Nat} (hM : K₀ + 300 ≤ M) (hq : ∀ q v H'', I (visits f w ld x l 0 st₀) H'' → Q q v H'') :
  resK (acall tabA (aexec tabA Try.prog M) 123 [.func (.yield lb) ⟨[]⟩ ⟨[]⟩, .pointer (some ⟨b1, 0, none⟩), .pointer (some ⟨b2, 0, none⟩), .pointer (some ⟨b3, 0, none⟩)] H) L Q := by
 obtain ⟨N, rfl⟩ : ∃ N, M = N + K₀ + 300 := ⟨M - (K₀ + 300), by omega⟩
 refine call_keep tabA_fr (k := 47) (rs := []) (R := fun _ H'' => I (visits f w ld x l 0 st₀) H'') rfl fn_123 rfl rfl rfl (by omega) ?_ (fun v H'' h => hq _ _ _ h) (fun v H'' h _ fr => hq _ _ _ (hc.down _ _ _ h fr hb))
 have hj0 := hc.job _ _ h₀
 have hends := hc.ends
 have hmay := hc.may
 simp only [jobG,legV] at hends hmay
 simp (disch:=first|(simp only [yk,seval];done)|omega|(simp only [yz]<;>omega)|fail) only [↓yp,yq0,yq1,yq2,yq3,yq4,yl,ys0,ys1,seval,zed,zee,zfr,zhw,ysu,yrg,hj0,lenV_slice zio]
 refine W_whileD K₀ 200 (fun k e H' ds => ∃ i : Nat, k = l.length - i ∧ i ≤ l.length ∧ ds = [] ∧ gt 47 e 14 = .int .i64 (i : Nat) ∧ gt 47 e 13 = .int .i64 l.length ∧ gt 47 e 0 = .func (.yield lb) ⟨[]⟩ ⟨[]⟩ ∧ gt 47 e 1 = .pointer (some ⟨b1, 0, none⟩) ∧ gt 47 e 2 = .pointer (some ⟨b2, 0, none⟩) ∧ gt 47 e 3 = .pointer (some ⟨b3, 0, none⟩) ∧ I (visits f w ld x (l.take i) 0 st₀) H')
  ?_ 18 l.length ⟨0, by omega, by omega, rfl, by simp (disch:=first|(simp only [yk,seval];done)|omega|(simp only [yz]<;>omega)|fail) only [yg,seval] <;> rfl, by simp (disch:=first|(simp only [yk,seval];done)|omega|(simp only [yz]<;>omega)|fail) only [yg,seval], by simp (disch:=first|(simp only [yk,seval];done)|omega|(simp only [yz]<;>omega)|fail) only [yg,seval], by simp (disch:=first|(simp only [yk,seval];done)|omega|(simp only [yz]<;>omega)|fail) only [yg,seval], by simp (disch:=first|(simp only [yk,seval];done)|omega|(simp only [yz]<;>omega)|fail) only [yg,seval], by simp (disch:=first|(simp only [yk,seval];done)|omega|(simp only [yz]<;>omega)|fail) only [yg,seval], h₀⟩ (by omega) (by omega)
 rintro M k e H' ds hM' ⟨i, rfl, hi, rfl, g14, g13, g0, g1, g2, g3, hI⟩
 have sz := hc.sz _ _ hI
 simp (disch:=first|(simp only [yk,seval];done)|omega|(simp only [yz]<;>omega)|fail) only [↓yp,yq0,yq1,yq2,yq3,yq4,yl,ys0,ys1,seval,zed,zee,zfr,zhw,ysu,yrg,g14,g13]
 refine ⟨fun hlt => ?_, fun hge => ?_⟩
 ·have hi' : i < l.length := by simpa using hlt
  obtain ⟨s, his⟩ : ∃ s, l[i]? = some s := ⟨l[i], by simp [hi']⟩
  simp (disch:=first|(simp only [yk,seval];done)|omega|(simp only [yz]<;>omega)|fail) only [↓yp,yq0,yq1,yq2,yq3,yq4,yl,ys0,ys1,seval,zed,zee,zfr,zhw,ysu,yrg,g14,A_build st_bdS_28,A_buildArr st_baS_171]
  refine W_whileD K₀ 140 (fun k e' H'' ds => ∃ j : Nat, k = 2 - j ∧ j ≤ 2 ∧ ds = [] ∧ gt 47 e' 22 = .int .i64 (j : Nat) ∧ gt 47 e' 21 = .agg ⟨[.int .i64 i, .bool false, .int .i64 i, .bool true]⟩ ∧ gt 47 e' 14 = .int .i64 (i : Nat) ∧ gt 47 e' 13 = .int .i64 l.length ∧ gt 47 e' 0 = .func (.yield lb) ⟨[]⟩ ⟨[]⟩ ∧ gt 47 e' 1 = .pointer (some ⟨b1, 0, none⟩) ∧ gt 47 e' 2 = .pointer (some ⟨b2, 0, none⟩) ∧ gt 47 e' 3 = .pointer (some ⟨b3, 0, none⟩) ∧ I (inn f w ld x i s (visits f w ld x (l.take i) 0 st₀) j) H'')
   ?_ 2 2 ⟨0, by omega, by omega, rfl, by simp (disch:=first|(simp only [yk,seval];done)|omega|(simp only [yz]<;>omega)|fail) only [yg,seval] <;> rfl, by simp (disch:=first|(simp only [yk,seval];done)|omega|(simp only [yz]<;>omega)|fail) only [yg,seval], by simp (disch:=first|(simp only [yk,seval];done)|omega|(simp only [yz]<;>omega)|fail) only [yg,seval,g14], by simp (disch:=first|(simp only [yk,seval];done)|omega|(simp only [yz]<;>omega)|fail) only [yg,seval,g13], by simp (disch:=first|(simp only [yk,seval];done)|omega|(simp only [yz]<;>omega)|fail) only [yg,seval,g0], by simp (disch:=first|(simp only [yk,seval];done)|omega|(simp only [yz]<;>omega)|fail) only [yg,seval,g1], by simp (disch:=first|(simp only [yk,seval];done)|omega|(simp only [yz]<;>omega)|fail) only [yg,seval,g2], by simp (disch:=first|(simp only [yk,seval];done)|omega|(simp only [yz]<;>omega)|fail) only [yg,seval,g3], hI⟩ (by omega) (by omega)
  clear hI g14 g13 g0 g1 g2 g3
  rintro M2 k2 e' H'' ds hM2 ⟨j, rfl, hj, rfl, g22, g21, g14, g13, g0, g1, g2, g3, hI⟩
  have sz2 := hc.sz _ _ hI
  have hjob := hc.job _ _ hI
  have hcor := hc.cor _ _ hI
  have hsuit := hc.suit _ _ hI
  have l1 := lt_of_cells hjob
  have l2 := lt_of_cells hcor
  have l3 := lt_of_cells hsuit
  simp only [jobG] at hsuit
  simp (disch:=first|(simp only [yk,seval];done)|omega|(simp only [yz]<;>omega)|fail) only [↓yp,yq0,yq1,yq2,yq3,yq4,yl,ys0,ys1,seval,zed,zee,zfr,zhw,ysu,yrg,g22]
  refine ⟨fun hA => ?_, fun hA => ?_⟩
  ·have hj2 : j < 2 := by simp at hA; omega
   have hw2 : w64 ((j : Int) + 1) = ((j + 1 : Nat) : Int) := by rw [w64_of (by omega)]; omega
   have nx := inn_next (f := f) (w := w) (ld := ld) (x := x) (i := i) (s := s) (st := visits f w ld x (l.take i) 0 st₀) hj2
   have hp := part_legs (i := (i : Int)) hj2
   generalize inn f w ld x i s (visits f w ld x (l.take i) 0 st₀) j = stj at hI nx
   generalize (j == 1) = b at nx hp
   simp (disch:=first|(simp only [yk,seval];done)|omega|(simp only [yz]<;>omega)|fail) only [↓yp,yq0,yq1,yq2,yq3,yq4,yl,ys0,ys1,seval,zed,zee,zfr,zhw,ysu,yrg]
   refine A_index_of (k := .i64) (i := j) st_ixV_171 (by simp (disch:=first|(simp only [yk,seval];done)|omega|(simp only [yz]<;>omega)|fail) only [↓yp,yq0,yq1,yq2,yq3,yq4,yl,ys0,ys1,seval,zed,zee,zfr,zhw,ysu,yrg,g21]) (by simp (disch:=first|(simp only [yk,seval];done)|omega|(simp only [yz]<;>omega)|fail) only [↓yp,yq0,yq1,yq2,yq3,yq4,yl,ys0,ys1,seval,zed,zee,zfr,zhw,ysu,yrg,g22]) ⟨by omega, by omega⟩ hp (by omega) ?_
   simp (disch:=first|(simp only [yk,seval];done)|omega|(simp only [yz]<;>omega)|fail) only [↓yp,yq0,yq1,yq2,yq3,yq4,yl,ys0,ys1,seval,zed,zee,zfr,zhw,ysu,yrg,g1,hjob]
   have hI2 : ∀ c : List Value, I stj ((H''.alloc (.rw [.int .i64 0, .bool false] 28 false [])).put H''.size (.rw c 28 false [])) := fun c => hc.up _ _ _ hI (Fr.put (Fr.alloc _ _) (Nat.le_refl _) _)
   rw [hends _ _ _ _ _ _ (hI2 _) his]
   cases hn : decide (nearL s b = x)
   ·simp (disch:=first|(simp only [yk,seval];done)|omega|(simp only [yz]<;>omega)|fail) only [↓yp,yq0,yq1,yq2,yq3,yq4,yl,ys0,ys1,seval,zed,zee,zfr,zhw,ysu,yrg,g1,g2,hjob,hcor,hn,g22,hw2]
    refine ⟨2 - (j + 1), by omega, j + 1, rfl, by omega, rfl, ?_, ?_, ?_, ?_, ?_, ?_, ?_, ?_, ?_⟩
    ·simp (disch:=first|(simp only [yk,seval];done)|omega|(simp only [yz]<;>omega)|fail) only [yg,seval]
    ·simp (disch:=first|(simp only [yk,seval];done)|omega|(simp only [yz]<;>omega)|fail) only [yg,seval,g21]
    ·simp (disch:=first|(simp only [yk,seval];done)|omega|(simp only [yz]<;>omega)|fail) only [yg,seval,g14]
    ·simp (disch:=first|(simp only [yk,seval];done)|omega|(simp only [yz]<;>omega)|fail) only [yg,seval,g13]
    ·simp (disch:=first|(simp only [yk,seval];done)|omega|(simp only [yz]<;>omega)|fail) only [yg,seval,g0]
    ·simp (disch:=first|(simp only [yk,seval];done)|omega|(simp only [yz]<;>omega)|fail) only [yg,seval,g1]
    ·simp (disch:=first|(simp only [yk,seval];done)|omega|(simp only [yz]<;>omega)|fail) only [yg,seval,g2]
    ·simp (disch:=first|(simp only [yk,seval];done)|omega|(simp only [yz]<;>omega)|fail) only [yg,seval,g3]
    ·rw [nx]; unfold visit; rw [hn]; exact hI2 _
   ·simp (disch:=first|(simp only [yk,seval];done)|omega|(simp only [yz]<;>omega)|fail) only [↓yp,yq0,yq1,yq2,yq3,yq4,yl,ys0,ys1,seval,zed,zee,zfr,zhw,ysu,yrg,g1,g2,g3,hjob,hcor,hsuit,hn]
    rw [hmay _ _ _ _ _ _ (hI2 _) his]
    cases hm : mayL s b w ld
    ·simp (disch:=first|(simp only [yk,seval];done)|omega|(simp only [yz]<;>omega)|fail) only [↓yp,yq0,yq1,yq2,yq3,yq4,yl,ys0,ys1,seval,zed,zee,zfr,zhw,ysu,yrg,g1,g2,g3,hjob,hcor,hsuit,hn,g22,hw2]
     refine ⟨2 - (j + 1), by omega, j + 1, rfl, by omega, rfl, ?_, ?_, ?_, ?_, ?_, ?_, ?_, ?_, ?_⟩
     ·simp (disch:=first|(simp only [yk,seval];done)|omega|(simp only [yz]<;>omega)|fail) only [yg,seval]
     ·simp (disch:=first|(simp only [yk,seval];done)|omega|(simp only [yz]<;>omega)|fail) only [yg,seval,g21]
     ·simp (disch:=first|(simp only [yk,seval];done)|omega|(simp only [yz]<;>omega)|fail) only [yg,seval,g14]
     ·simp (disch:=first|(simp only [yk,seval];done)|omega|(simp only [yz]<;>omega)|fail) only [yg,seval,g13]
     ·simp (disch:=first|(simp only [yk,seval];done)|omega|(simp only [yz]<;>omega)|fail) only [yg,seval,g0]
     ·simp (disch:=first|(simp only [yk,seval];done)|omega|(simp only [yz]<;>omega)|fail) only [yg,seval,g1]
     ·simp (disch:=first|(simp only [yk,seval];done)|omega|(simp only [yz]<;>omega)|fail) only [yg,seval,g2]
     ·simp (disch:=first|(simp only [yk,seval];done)|omega|(simp only [yz]<;>omega)|fail) only [yg,seval,g3]
     ·rw [nx]; unfold visit; rw [hn, hm]; exact hI2 _
    ·simp (disch:=first|(simp only [yk,seval];done)|omega|(simp only [yz]<;>omega)|fail) only [↓yp,yq0,yq1,yq2,yq3,yq4,yl,ys0,ys1,seval,zed,zee,zfr,zhw,ysu,yrg,hn,g0,calK_yield]
     refine resK_mono (hy _ (by omega) _ _ i s b (hI2 _) his hm (of_decide_eq_true hn)) ?_
     rintro q v H4 ⟨rfl, hI4⟩
     have sz4 := hc.sz _ _ hI4
     simp (disch:=first|(simp only [yk,seval];done)|omega|(simp only [yz]<;>omega)|fail) only [↓yp,yq0,yq1,yq2,yq3,yq4,yl,ys0,ys1,seval,zed,zee,zfr,zhw,ysu,yrg,g22,hw2]
     refine ⟨2 - (j + 1), by omega, j + 1, rfl, by omega, rfl, ?_, ?_, ?_, ?_, ?_, ?_, ?_, ?_, ?_⟩
     ·simp (disch:=first|(simp only [yk,seval];done)|omega|(simp only [yz]<;>omega)|fail) only [yg,seval]
     ·simp (disch:=first|(simp only [yk,seval];done)|omega|(simp only [yz]<;>omega)|fail) only [yg,seval,g21]
     ·simp (disch:=first|(simp only [yk,seval];done)|omega|(simp only [yz]<;>omega)|fail) only [yg,seval,g14]
     ·simp (disch:=first|(simp only [yk,seval];done)|omega|(simp only [yz]<;>omega)|fail) only [yg,seval,g13]
     ·simp (disch:=first|(simp only [yk,seval];done)|omega|(simp only [yz]<;>omega)|fail) only [yg,seval,g0]
     ·simp (disch:=first|(simp only [yk,seval];done)|omega|(simp only [yz]<;>omega)|fail) only [yg,seval,g1]
     ·simp (disch:=first|(simp only [yk,seval];done)|omega|(simp only [yz]<;>omega)|fail) only [yg,seval,g2]
     ·simp (disch:=first|(simp only [yk,seval];done)|omega|(simp only [yz]<;>omega)|fail) only [yg,seval,g3]
     ·rw [nx]; unfold visit; rw [hn, hm]; exact hI4
  ·have hj2 : j = 2 := by simp at hA; omega
   subst hj2
   have hw2 : w64 ((i : Int) + 1) = ((i + 1 : Nat) : Int) := by rw [w64_of (by omega)]; omega
   simp (disch:=first|(simp only [yk,seval];done)|omega|(simp only [yz]<;>omega)|fail) only [↓yp,yq0,yq1,yq2,yq3,yq4,yl,ys0,ys1,seval,zed,zee,zfr,zhw,ysu,yrg,g14,hw2]
   refine ⟨l.length - (i + 1), by omega, i + 1, rfl, by omega, rfl, ?_, ?_, ?_, ?_, ?_, ?_, ?_⟩
   ·simp (disch:=first|(simp only [yk,seval];done)|omega|(simp only [yz]<;>omega)|fail) only [yg,seval]
   ·simp (disch:=first|(simp only [yk,seval];done)|omega|(simp only [yz]<;>omega)|fail) only [yg,seval,g13]
   ·simp (disch:=first|(simp only [yk,seval];done)|omega|(simp only [yz]<;>omega)|fail) only [yg,seval,g0]
   ·simp (disch:=first|(simp only [yk,seval];done)|omega|(simp only [yz]<;>omega)|fail) only [yg,seval,g1]
   ·simp (disch:=first|(simp only [yk,seval];done)|omega|(simp only [yz]<;>omega)|fail) only [yg,seval,g2]
   ·simp (disch:=first|(simp only [yk,seval];done)|omega|(simp only [yz]<;>omega)|fail) only [yg,seval,g3]
   ·rw [visits_take his]; exact hI
 ·have hi' : i = l.length := by simp at hge; omega
  subst hi'
  rw [visits_all] at hI
  simp (disch:=first|(simp only [yk,seval];done)|omega|(simp only [yz]<;>omega)|fail) only [↓yp,yq0,yq1,yq2,yq3,yq4,yl,ys0,ys1,seval,zed,zee,zfr,zhw,ysu,yrg,resV_none]
  exact hI
def roundQ (lb : Nat) (blk : ABlk) (J : σ → AHeap → Prop) (st : σ) (_ : Bool) (v : Value) (H' : AHeap) : Prop := v = .bool true ∧ H'.get (lb + 1) = blk ∧ H'.get lb = .defer ∧ J st H'
theorem W_legs {n g p : Nat} {e : VT} {ds : List Nat} {assign body : Code} {J : σ → AHeap → Prop} (st₀ : σ) (hc : LegsC J l C w ld lf x a cap b1 b2 b3 (H.size + 2)) (hput : ∀ st H' blk, J st H' → J st (H'.put (H.size + 1) blk)) (hl : l.length ≤ 18) (hL : L ≤ H.size) (hp : p < n)
  (hg : gt n e g = .func (.func 123) ⟨[]⟩ ⟨[.pointer (some ⟨b1, 0, none⟩), .pointer (some ⟨b2, 0, none⟩), .pointer (some ⟨b3, 0, none⟩)]⟩)
  (h₀ : ∀ blk, J st₀ ((H.alloc .defer).alloc blk))
  (hy : ∀ M, K₀ ≤ M → ∀ st H' (i : Nat) s b e', J st H' → l[i]? = some s → mayL s b w ld = true → nearL s b = x → H'.get (H.size + 1) = .loop .ready none (lst n e) #[p] assign body H.size → H'.get H.size = .defer → gt n e' p = legV i b → (∀ j, j ≠ p → gt n e' j = gt n e j) →
   W tabA Try.prog M (some (H.size + 1)) assign L ⟨n, e', H', []⟩ (midY tabA Try.prog M (H.size + 1) L body (roundQ H.size (.loop .ready none (lst n e) #[p] assign body H.size) J (f st i s b))))
  {M : Nat} (hM : K₀ + 301 ≤ M) {Q : Exit → ES → Prop} (hq : ∀ H'' blk, J (visits f w ld x l 0 st₀) H'' → H''.get H.size = .defer → Q .normal ⟨n, e, H''.put (H.size + 1) blk, H.size :: ds⟩) :
  W tabA Try.prog M none (.rangeFunc (.tmp g) #[p] assign body) L ⟨n, e, H, ds⟩ Q := by
 obtain ⟨M, rfl⟩ : ∃ M', M = M' + 1 := ⟨M - 1, by omega⟩
 refine W_range (f := 123) (first := []) (cap := [.pointer (some ⟨b1, 0, none⟩), .pointer (some ⟨b2, 0, none⟩), .pointer (some ⟨b3, 0, none⟩)]) (by rw [zbs, hg]) hL ?_
 have hsz : ((H.alloc .defer).alloc (.loop .ready none (lst n e) #[p] assign body H.size)).size = H.size + 2 := by rw [zde, zde]
 refine c123 (I := fun st H' => H'.get (H.size + 1) = .loop .ready none (lst n e) #[p] assign body H.size ∧ H'.get H.size = .defer ∧ J st H') (f := f) (st₀ := st₀) (base := H.size + 2) (K₀ := K₀) (lb := H.size + 1) (C := C) (w := w) (ld := ld) (lf := lf) (x := x) (a := a) (cap := cap) (b1 := b1) (b2 := b2) (b3 := b3)
  ⟨?_, ?_, fun st H' h => hc.sz _ _ h.2.2, fun st H' h => hc.job _ _ h.2.2, fun st H' h => hc.cor _ _ h.2.2, fun st H' h => hc.suit _ _ h.2.2, fun N st H' i s b h hi => hc.ends N _ _ i s b h.2.2 hi, fun N st H' i s b h hi => hc.may N _ _ i s b h.2.2 hi⟩ hl (by omega) (by omega) ?_ ?_ (by omega) ?_
 ·rintro st H' H'' ⟨h1, h2, h3⟩ fr
  have := hc.sz _ _ h3
  exact ⟨by rw [fr.same _ (by omega)]; exact h1, by rw [fr.same _ (by omega)]; exact h2, hc.up _ _ _ h3 fr⟩
 ·rintro st H' H'' ⟨h1, h2, h3⟩ fr hb
  exact ⟨by rw [← fr.same _ (by omega)]; exact h1, by rw [← fr.same _ (by omega)]; exact h2, hc.down _ _ _ h3 fr hb⟩
 ·rintro M' hM' st H' i s b ⟨h1, h2, h3⟩ hi hm hn
  refine resK_mono (yield_run1 (Q := roundQ H.size (.loop .ready none (lst n e) #[p] assign body H.size) J (f st i s b)) h1 hp (by omega) fun e' he he' => hy M' hM' st H' i s b e' h3 hi hm hn h1 h2 he he') ?_
  rintro q v H'' ⟨k1, k2, k3, k4⟩
  exact ⟨k1, k2, k3, k4⟩
 ·refine ⟨?_, ?_, h₀ _⟩
  ·rw [zda (by rw [zde])]
  ·rw [zdb (by rw [zde]; omega), zcz]
 ·rintro q v H'' ⟨h1, h2, h3⟩
  refine ⟨.ready, _, _, _, _, _, (fun h => by cases h), h1, hq _ _ h3 h2⟩
end
end Go.Am
