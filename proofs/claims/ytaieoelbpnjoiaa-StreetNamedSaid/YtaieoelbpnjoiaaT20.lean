import Derived.Test.YtaieoelbpnjoiaaT19
set_option linter.unusedSimpArgs false
set_option linter.unusedVariables false
namespace Go.Am
open Go.Proofs
variable {N L : Nat} {H : AHeap} {Q : Bool → Value → AHeap → Prop}
def wi (a lo hi : Int) : Bool := decide (lo ≤ a) && decide (a ≤ hi)
theorem wi_off {a lo hi : Int} : wi a lo hi = !off a lo hi := by unfold wi off; rw [Bool.eq_iff_iff]; simp
theorem c78 (a lo hi : Int) : acall tabA (aexec tabA Try.prog (N + 20)) 78 [.int .i64 a, .int .i64 lo, .int .i64 hi] H = some (true, .bool (wi a lo hi), H, H.size) := by
 refine call_quiet (k := 15) (rs := [.tmp 6]) rfl fn_78 rfl rfl rfl ?_ rfl
 simp (disch:=first|(simp only [yk,seval];done)|omega|(simp only [yz]<;>omega)|fail) only [↓yp,yq0,yq1,yq2,yq3,yq4,yl,ys0,ys1,seval,zed,zee,zfr,zhw]
 refine ⟨fun h => ?_, fun h => ?_⟩ <;> simp (disch:=first|(simp only [yk,seval];done)|omega|(simp only [yz]<;>omega)|fail) only [↓yp,yq0,yq1,yq2,yq3,yq4,yl,ys0,ys1,seval,zed,zee,zfr,zhw,h,wi]
theorem c76 {a : Int} (hL : L ≤ H.size) : resK (acall tabA (aexec tabA Try.prog (N + 20)) 76 [.int .i64 a] H) L Q = Q false (.func (.func 116) ⟨[]⟩ ⟨[.pointer (some ⟨H.size, 0, none⟩)]⟩) (H.alloc (.rw [.int .i64 a] 3 false [])) := by
 refine call_res (k := 4) (rs := [.tmp 2]) rfl fn_76 rfl rfl rfl ?_ rfl hL
 simp (disch:=first|(simp only [yk,seval];done)|omega|(simp only [yz]<;>omega)|fail) only [↓yp,yq0,yq1,yq2,yq3,yq4,yl,ys0,ys1,seval,zed,zee,zfr,zhw]
 trace_state
theorem c116 {a C : Int} {b : Nat} (hb : cellsOf (H.get b) = some [.int .i64 C]) : acall tabA (aexec tabA Try.prog (N + 40)) 116 [.int .i64 a, .pointer (some ⟨b, 0, none⟩)] H = some (true, .bool (wi a 0 (w64 (C - 1))), H, H.size) := by
 refine call_quiet (k := 8) (rs := [.tmp 3]) rfl fn_116 rfl rfl rfl ?_ rfl
 simp (disch:=first|(simp only [yk,seval];done)|omega|(simp only [yz]<;>omega)|fail) only [↓yp,yq0,yq1,yq2,yq3,yq4,yl,ys0,ys1,seval,zed,zee,zfr,zhw,hb,c78]
def lea (C : Int) (s : Str) : Bool := wi s.fr 0 (w64 (C - 1)) && (wi s.to 0 (w64 (C - 1)) && !decide (s.fr = s.to))
theorem c77 {C : Int} {b b' : Nat} {s : Str} (hlt : b < H.size) (hlt' : b' < H.size) (hb : cellsOf (H.get b) = some [.func (.func 116) ⟨[]⟩ ⟨[.pointer (some ⟨b', 0, none⟩)]⟩]) (hb' : cellsOf (H.get b') = some [.int .i64 C]) :
  acall tabA (aexec tabA Try.prog (N + 60)) 77 [.agg ⟨s.enc⟩, .pointer (some ⟨b, 0, none⟩)] H = some (true, .bool (lea C s), H, H.size) := by
 refine call_quiet (k := 21) (rs := [.tmp 3]) rfl fn_77 rfl rfl rfl ?_ rfl
 have h116 := fun (N : Nat) (a : Int) (H' : AHeap) (h : cellsOf (H'.get b') = some [.int .i64 C]) => c116 (N := N) (a := a) h
 simp (disch := (first | (simp only [yk,seval]; done) | omega | (simp only [zde,zdf,zdg] <;> omega) | (simp (disch := (first | omega | (simp only [zde,zdf,zdg] <;> omega))) only [zcz,zda,zdb,zdc,zdd,zde,zdf,zdg,zdh, *]))) only [↓yp,yq0,yq1,yq2,yq3,yq4,yl,ys0,ys1,seval,zed,zee,zfr,zhw,hb,Str.enc,h116]
 refine ⟨fun hA => ?_, fun hA => ?_⟩
 ·simp (disch := (first | (simp only [yk,seval]; done) | omega | (simp only [zde,zdf,zdg] <;> omega) | (simp (disch := (first | omega | (simp only [zde,zdf,zdg] <;> omega))) only [zcz,zda,zdb,zdc,zdd,zde,zdf,zdg,zdh, *]))) only [↓yp,yq0,yq1,yq2,yq3,yq4,yl,ys0,ys1,seval,zed,zee,zfr,zhw,hb,h116,hA]
  refine ⟨fun hB => ?_, fun hB => ?_⟩ <;> simp (disch := (first | (simp only [yk,seval]; done) | omega | (simp only [zde,zdf,zdg] <;> omega) | (simp (disch := (first | omega | (simp only [zde,zdf,zdg] <;> omega))) only [zcz,zda,zdb,zdc,zdd,zde,zdf,zdg,zdh, *]))) only [↓yp,yq0,yq1,yq2,yq3,yq4,yl,ys0,ys1,seval,zed,zee,zfr,zhw,hA,hB,lea]
 ·simp (disch := (first | (simp only [yk,seval]; done) | omega | (simp only [zde,zdf,zdg] <;> omega) | (simp (disch := (first | omega | (simp only [zde,zdf,zdg] <;> omega))) only [zcz,zda,zdb,zdc,zdd,zde,zdf,zdg,zdh, *]))) only [↓yp,yq0,yq1,yq2,yq3,yq4,yl,ys0,ys1,seval,zed,zee,zfr,zhw,hA,lea]
def alw (s : Str) : Bool := wi s.mi 1 30 && (wi s.up 0 3 && (wi s.wi 1 9 && (wi s.be 0 9 && (wi s.lo 0 239 && wi s.hi 0 239))))
theorem c80 {s : Str} : acall tabA (aexec tabA Try.prog (N + 60)) 80 [.agg ⟨s.enc⟩] H = some (true, .bool (alw s), H, H.size) := by
 refine call_quiet (k := 33) (rs := [.tmp 2]) rfl fn_80 rfl rfl rfl ?_ rfl
 simp (disch:=first|(simp only [yk,seval];done)|omega|(simp only [yz]<;>omega)|fail) only [↓yp,yq0,yq1,yq2,yq3,yq4,yl,ys0,ys1,seval,zed,zee,zfr,zhw,Str.enc,c78]
 refine ⟨fun ha => ?_, fun ha => ?_⟩
 rotate_left
 ·simp (disch:=first|(simp only [yk,seval];done)|omega|(simp only [yz]<;>omega)|fail) only [↓yp,yq0,yq1,yq2,yq3,yq4,yl,ys0,ys1,seval,zed,zee,zfr,zhw,ha,alw]
 simp (disch:=first|(simp only [yk,seval];done)|omega|(simp only [yz]<;>omega)|fail) only [↓yp,yq0,yq1,yq2,yq3,yq4,yl,ys0,ys1,seval,zed,zee,zfr,zhw,ha,c78]
 refine ⟨fun hb => ?_, fun hb => ?_⟩
 rotate_left
 ·simp (disch:=first|(simp only [yk,seval];done)|omega|(simp only [yz]<;>omega)|fail) only [↓yp,yq0,yq1,yq2,yq3,yq4,yl,ys0,ys1,seval,zed,zee,zfr,zhw,ha,hb,alw]
 simp (disch:=first|(simp only [yk,seval];done)|omega|(simp only [yz]<;>omega)|fail) only [↓yp,yq0,yq1,yq2,yq3,yq4,yl,ys0,ys1,seval,zed,zee,zfr,zhw,ha,hb,c78]
 refine ⟨fun hc => ?_, fun hc => ?_⟩
 rotate_left
 ·simp (disch:=first|(simp only [yk,seval];done)|omega|(simp only [yz]<;>omega)|fail) only [↓yp,yq0,yq1,yq2,yq3,yq4,yl,ys0,ys1,seval,zed,zee,zfr,zhw,ha,hb,hc,alw]
 simp (disch:=first|(simp only [yk,seval];done)|omega|(simp only [yz]<;>omega)|fail) only [↓yp,yq0,yq1,yq2,yq3,yq4,yl,ys0,ys1,seval,zed,zee,zfr,zhw,ha,hb,hc,c78]
 refine ⟨fun hd => ?_, fun hd => ?_⟩
 rotate_left
 ·simp (disch:=first|(simp only [yk,seval];done)|omega|(simp only [yz]<;>omega)|fail) only [↓yp,yq0,yq1,yq2,yq3,yq4,yl,ys0,ys1,seval,zed,zee,zfr,zhw,ha,hb,hc,hd,alw]
 simp (disch:=first|(simp only [yk,seval];done)|omega|(simp only [yz]<;>omega)|fail) only [↓yp,yq0,yq1,yq2,yq3,yq4,yl,ys0,ys1,seval,zed,zee,zfr,zhw,ha,hb,hc,hd,c78]
 refine ⟨fun he => ?_, fun he => ?_⟩
 rotate_left
 ·simp (disch:=first|(simp only [yk,seval];done)|omega|(simp only [yz]<;>omega)|fail) only [↓yp,yq0,yq1,yq2,yq3,yq4,yl,ys0,ys1,seval,zed,zee,zfr,zhw,ha,hb,hc,hd,he,alw]
 simp (disch:=first|(simp only [yk,seval];done)|omega|(simp only [yz]<;>omega)|fail) only [↓yp,yq0,yq1,yq2,yq3,yq4,yl,ys0,ys1,seval,zed,zee,zfr,zhw,ha,hb,hc,hd,he,c78,alw]
theorem c79 {a : Option Addr} {cap g : Nat} {l : List Str} {caps : List Value} {p : Str → Bool} (hs : Sl H a l) (hl : l.length ≤ 18) (hp : ∀ (N : Nat) (H' : AHeap) (s : Str), Fr H H' → s ∈ l → acall tabA (aexec tabA Try.prog (N + 60)) g (.agg ⟨s.enc⟩ :: caps) H' = some (true, .bool (p s), H', H'.size)) :
  acall tabA (aexec tabA Try.prog (N + 120)) 79 [.slice a l.length cap, .func (.func g) ⟨[]⟩ ⟨caps⟩] H = some (true, .bool (l.all p), H, H.size) := by
 refine call_quiet (k := 18) (rs := [.tmp 4]) rfl fn_79 rfl rfl rfl ?_ rfl
 simp (disch:=first|(simp only [yk,seval];done)|omega|(simp only [yz]<;>omega)|fail) only [↓yp,yq0,yq1,yq2,yq3,yq4,yl,ys0,ys1,seval,zed,zee,zfr,zhw,lenV_slice zio]
 refine W_while (n := 18) 70 (fun k e H' => ∃ i, k = l.length - i ∧ i ≤ l.length ∧ gt 18 e 9 = .int .i64 (i : Nat) ∧ gt 18 e 8 = .int .i64 l.length ∧ gt 18 e 7 = .slice a l.length cap ∧ gt 18 e 1 = .func (.func g) ⟨[]⟩ ⟨caps⟩ ∧ Fr H H' ∧ ∀ j s, j < i → l[j]? = some s → p s = true)
  ?_ 18 l.length ⟨0, by omega, by omega, by simp (disch:=first|(simp only [yk,seval];done)|omega|(simp only [yz]<;>omega)|fail) only [yg,seval] <;> rfl, by simp (disch:=first|(simp only [yk,seval];done)|omega|(simp only [yz]<;>omega)|fail) only [yg,seval], by simp (disch:=first|(simp only [yk,seval];done)|omega|(simp only [yz]<;>omega)|fail) only [yg,seval], by simp (disch:=first|(simp only [yk,seval];done)|omega|(simp only [yz]<;>omega)|fail) only [yg,seval], Fr.refl _, fun j s hj => by omega⟩ (by omega) (by omega)
 rintro M k e H' ⟨i, rfl, hi, g9, g8, g7, g1, fr, hj⟩
 have f0 := fr.size
 have fs := fr.same
 simp (disch:=first|(simp only [yk,seval];done)|omega|(simp only [yz]<;>omega)|fail) only [↓yp,yq0,yq1,yq2,yq3,yq4,yl,ys0,ys1,seval,zed,zee,zfr,zhw,g9,g8,g7,g1]
 refine ⟨fun hlt => ?_, fun hlt => ?_⟩
 ·have hi' : i < l.length := by simpa using hlt
  obtain ⟨b, o, c, rfl, hb, hc, hq⟩ := hs.get (by intro h; subst h; simp at hi')
  obtain ⟨s, his⟩ : ∃ s, l[i]? = some s := ⟨l[i], by simp [hi']⟩
  have hpi := hq i s his
  have hps := fun (N : Nat) (H₂ : AHeap) (h : Fr H H₂) => hp N H₂ s h (List.mem_of_getElem? his)
  simp only [Str.enc] at hps
  simp (disch:=first|(simp only [yk,seval];done)|omega|(simp only [yz]<;>omega)|fail) only [↓yp,yq0,yq1,yq2,yq3,yq4,yl,ys0,ys1,seval,zed,zee,zfr,zhw,g9,g8,g7,g1,fs,A_indexSlice zio,hc,hpi,Str.enc]
  rw [hps _ _ ((fr.allocd _).put (by omega) _)]
  simp (disch:=first|(simp only [yk,seval];done)|omega|(simp only [yz]<;>omega)|fail) only [↓yp,yq0,yq1,yq2,yq3,yq4,yl,ys0,ys1,seval,zed,zee,zfr,zhw]
  refine ⟨fun hA => ?_, fun hA => ?_⟩
  rotate_left
  ·have : l.all p = false := by rw [List.all_eq_false]; exact ⟨s, List.mem_of_getElem? his, by rw [hA]; simp⟩
   simp (disch:=first|(simp only [yk,seval];done)|omega|(simp only [yz]<;>omega)|fail) only [↓yp,yq0,yq1,yq2,yq3,yq4,yl,ys0,ys1,seval,zed,zee,zfr,zhw,hA,this]
  have hw2 : w64 ((i : Int) + 1) = ((i + 1 : Nat) : Int) := by rw [w64_of (by omega)]; omega
  simp (disch:=first|(simp only [yk,seval];done)|omega|(simp only [yz]<;>omega)|fail) only [↓yp,yq0,yq1,yq2,yq3,yq4,yl,ys0,ys1,seval,zed,zee,zfr,zhw,hA,g9,g8,g7,g1,hw2]
  refine ⟨l.length - (i + 1), by omega, i + 1, rfl, by omega, ?_, ?_, ?_, ?_, ?_, ?_⟩
  ·simp (disch:=first|(simp only [yk,seval];done)|omega|(simp only [yz]<;>omega)|fail) only [yg,seval]
  ·simp (disch:=first|(simp only [yk,seval];done)|omega|(simp only [yz]<;>omega)|fail) only [yg,seval,g8]
  ·simp (disch:=first|(simp only [yk,seval];done)|omega|(simp only [yz]<;>omega)|fail) only [yg,seval,g7]
  ·simp (disch:=first|(simp only [yk,seval];done)|omega|(simp only [yz]<;>omega)|fail) only [yg,seval,g1]
  ·exact (fr.allocd _).put (by omega) _
  ·intro j t hj' ht
   by_cases e : j = i
   ·subst e; rw [his] at ht; cases ht; exact hA
   ·exact hj j t (by omega) ht
 ·have hi' : ¬ i < l.length := by simpa using hlt
  have : l.all p = true := by
   rw [List.all_eq_true]
   intro s hs'
   obtain ⟨j, hj'⟩ := List.getElem?_of_mem hs'
   have := (List.getElem?_eq_some_iff.1 hj').1
   exact hj j s (by omega) hj'
  simp (disch:=first|(simp only [yk,seval];done)|omega|(simp only [yz]<;>omega)|fail) only [↓yp,yq0,yq1,yq2,yq3,yq4,yl,ys0,ys1,seval,zed,zee,zfr,zhw,this]
theorem lea_bad {C : Int} {s : Str} (hC : off C 1 8 = false) : lea C s = !bad1 C s := by
 have h := off_iff.1 hC
 unfold lea bad1
 rw [w64_of (by omega), wi_off, wi_off]
 cases off s.fr 0 (C - 1) <;> cases off s.to 0 (C - 1) <;> cases decide (s.fr = s.to) <;> rfl
theorem alw_bad {s : Str} : alw s = !bad2 s := by
 unfold alw bad2
 simp only [wi_off]
 cases off s.mi 1 30 <;> cases off s.up 0 3 <;> cases off s.wi 1 9 <;> cases off s.be 0 9 <;> cases off s.lo 0 239 <;> cases off s.hi 0 239 <;> rfl
theorem all_any {α : Type} {p q : α → Bool} {l : List α} (h : ∀ s, p s = !q s) : l.all p = !l.any q := by
 induction l with
 | nil => rfl
 | cons x l ih => simp only [List.all_cons,List.any_cons,h,ih,Bool.not_or]
theorem c79r {a : Option Addr} {cap g : Nat} {l : List Str} {caps : List Value} (p : Str → Bool) (hs : Sl H a l) (hl : l.length ≤ 18) (hp : ∀ (N : Nat) (H' : AHeap) (s : Str), Fr H H' → s ∈ l → acall tabA (aexec tabA Try.prog (N + 60)) g (.agg ⟨s.enc⟩ :: caps) H' = some (true, .bool (p s), H', H'.size))
  {M : Nat} (hM : 120 ≤ M) (hq : andK (L ≤ H.size) (Q true (.bool (l.all p)) H)) : resK (acall tabA (aexec tabA Try.prog M) 79 [.slice a l.length cap, .func (.func g) ⟨[]⟩ ⟨caps⟩] H) L Q := by
 obtain ⟨N, rfl⟩ : ∃ N, M = N + 120 := ⟨M - 120, by omega⟩
 rw [c79 hs hl hp]; exact hq
theorem c22 {a : Option Addr} {cap : Nat} {l : List Str} {C : Int} (hs : Sl H a l) (hl : l.length ≤ 18) : acall tabA (aexec tabA Try.prog (N + 200)) 22 [.agg ⟨[.int .i64 C, .slice a l.length cap]⟩] H = some (true, .int .i64 (chk C l), H, H.size) := by
 refine call_quiet (k := 30) (rs := [.tmp 2]) rfl fn_22 rfl rfl rfl ?_ rfl
 simp (disch:=first|(simp only [yk,seval];done)|omega|(simp only [yz]<;>omega)|fail) only [↓yp,yq0,yq1,yq2,yq3,yq4,yl,ys0,ys1,seval,zed,zee,zfr,zhw,c76,c78,lenV_slice zio]
 refine ⟨fun hA => ?_, fun hA => ?_⟩
 rotate_left
 ·have hA' : off C 1 8 = true := by rw [wi_off] at hA; simpa using hA
  simp (disch:=first|(simp only [yk,seval];done)|omega|(simp only [yz]<;>omega)|fail) only [↓yp,yq0,yq1,yq2,yq3,yq4,yl,ys0,ys1,seval,zed,zee,zfr,zhw,chk,hA',if_true]
 have hA' : off C 1 8 = false := by rw [wi_off] at hA; simpa using hA
 simp (disch:=first|(simp only [yk,seval];done)|omega|(simp only [yz]<;>omega)|fail) only [↓yp,yq0,yq1,yq2,yq3,yq4,yl,ys0,ys1,seval,zed,zee,zfr,zhw,lenV_slice zio]
 refine ⟨fun hB => ?_, fun hB => ?_⟩
 ·have : 16 < l.length := by simp at hB; omega
  simp (disch:=first|(simp only [yk,seval];done)|omega|(simp only [yz]<;>omega)|fail) only [↓yp,yq0,yq1,yq2,yq3,yq4,yl,ys0,ys1,seval,zed,zee,zfr,zhw,chk,hA',this,if_true,if_false,Bool.false_eq_true]
 have hB' : ¬ 16 < l.length := by simp at hB; omega
 simp (disch:=first|(simp only [yk,seval];done)|omega|(simp only [yz]<;>omega)|fail) only [↓yp,yq0,yq1,yq2,yq3,yq4,yl,ys0,ys1,seval,zed,zee,zfr,zhw,lenV_slice zio]
 refine c79r (lea C) (hs.fr (by repeat first|exact Fr.refl _|assumption|refine Fr.allocd ?_ _|refine Fr.put ?_ (by first|omega|(simp only [yz]<;>omega)) _)) hl ?_ (by omega) ?_
 ·intro N' H' s hf _
  refine c77 (b' := H.size + 1) (Nat.lt_of_lt_of_le ?_ hf.size) (Nat.lt_of_lt_of_le ?_ hf.size) ?_ ?_
  ·(first | omega | (simp only [yz] <;> omega))
  ·(first | omega | (simp only [yz] <;> omega))
  ·rw [hf.same _ (by first|omega|(simp only [yz]<;>omega))]; simp (disch:=first|(simp only [yk,seval];done)|omega|(simp only [yz]<;>omega)|fail) only [↓yp,yq0,yq1,yq2,yq3,yq4,yl,ys0,ys1,seval,zed,zee,zfr,zhw]
  ·rw [hf.same _ (by first|omega|(simp only [yz]<;>omega))]; simp (disch:=first|(simp only [yk,seval];done)|omega|(simp only [yz]<;>omega)|fail) only [↓yp,yq0,yq1,yq2,yq3,yq4,yl,ys0,ys1,seval,zed,zee,zfr,zhw]
 rw [all_any (q := bad1 C) (fun s => lea_bad hA')]
 simp (disch:=first|(simp only [yk,seval];done)|omega|(simp only [yz]<;>omega)|fail) only [↓yp,yq0,yq1,yq2,yq3,yq4,yl,ys0,ys1,seval,zed,zee,zfr,zhw]
 refine ⟨fun hD => ?_, fun hD => ?_⟩
 ·simp (disch:=first|(simp only [yk,seval];done)|omega|(simp only [yz]<;>omega)|fail) only [↓yp,yq0,yq1,yq2,yq3,yq4,yl,ys0,ys1,seval,zed,zee,zfr,zhw,chk,hA',hB',hD,if_true,if_false,Bool.false_eq_true]
 simp (disch:=first|(simp only [yk,seval];done)|omega|(simp only [yz]<;>omega)|fail) only [↓yp,yq0,yq1,yq2,yq3,yq4,yl,ys0,ys1,seval,zed,zee,zfr,zhw]
 refine c79r alw (hs.fr (by repeat first|exact Fr.refl _|assumption|refine Fr.allocd ?_ _|refine Fr.put ?_ (by first|omega|(simp only [yz]<;>omega)) _)) hl (fun N' H' s _ _ => c80) (by omega) ?_
 rw [all_any (q := bad2) (fun s => alw_bad)]
 simp (disch:=first|(simp only [yk,seval];done)|omega|(simp only [yz]<;>omega)|fail) only [↓yp,yq0,yq1,yq2,yq3,yq4,yl,ys0,ys1,seval,zed,zee,zfr,zhw]
 refine ⟨fun hE => ?_, fun hE => ?_⟩
 ·simp (disch:=first|(simp only [yk,seval];done)|omega|(simp only [yz]<;>omega)|fail) only [↓yp,yq0,yq1,yq2,yq3,yq4,yl,ys0,ys1,seval,zed,zee,zfr,zhw,chk,hA',hB',hD,hE,if_true,if_false,Bool.false_eq_true]
 ·simp (disch:=first|(simp only [yk,seval];done)|omega|(simp only [yz]<;>omega)|fail) only [↓yp,yq0,yq1,yq2,yq3,yq4,yl,ys0,ys1,seval,zed,zee,zfr,zhw,chk,hA',hB',hD,hE,if_true,if_false,Bool.false_eq_true]
end Go.Am
