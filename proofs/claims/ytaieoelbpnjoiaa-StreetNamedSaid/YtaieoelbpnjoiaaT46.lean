import Derived.Test.YtaieoelbpnjoiaaT40
import Derived.Test.YtaieoelbpnjoiaaT45
import Derived.Test.YtaieoelbpnjoiaaT27
import Derived.Test.YtaieoelbpnjoiaaT38
import Derived.Test.YtaieoelbpnjoiaaT37
set_option linter.unusedSimpArgs false
set_option linter.unusedVariables false
namespace Go.Am
open Go.Proofs
variable {T : Tab} {P : Program} {N L : Nat} {H : AHeap} {Q : Bool → Value → AHeap → Prop}
def lift (lf : Int) (s : Str) : Str := if lf = 0 then { s with bk := true } else if lf = 1 then { s with wi := 9 } else if lf = 2 then { s with be := 9 } else if lf = 3 then { s with lo := 1, hi := 0 } else s
section
variable {a : Option Addr} {cap i : Nat} {l : List Str} {C w ld m lf : Int} {b : Bool} {s : Str}
theorem law_cases (h : 0 ≤ lf ∧ lf ≤ 3) : lf = 0 ∨ lf = 1 ∨ lf = 2 ∨ lf = 3 := by omega
theorem lift_near (s : Str) (b : Bool) : nearL (lift lf s) b = nearL s b := by
 unfold lift
 repeat' split
 all_goals rfl
theorem lift_far (s : Str) (b : Bool) : farL (lift lf s) b = farL s b := by
 unfold lift
 repeat' split
 all_goals rfl
theorem lift_takes (s : Str) (b : Bool) : takes (lift lf s) b ld = takes s b ld := by
 unfold lift
 repeat' split
 all_goals rfl
theorem lift_ok (h : OkS C s) : OkS C (lift lf s) := by
 have h' := OkS_iff.1 h
 obtain ⟨h1, h2, h3, h4, h5, h6, h7, h8, h9⟩ := h'
 unfold lift
 repeat' split
 ·exact OkS_iff.2 ⟨h1, h2, h3, h4, h5, h6, h7, h8, h9⟩
 ·exact OkS_iff.2 ⟨h1, h2, h3, h4, h5, by simp, h7, h8, h9⟩
 ·exact OkS_iff.2 ⟨h1, h2, h3, h4, h5, h6, by simp, h8, h9⟩
 ·exact OkS_iff.2 ⟨h1, h2, h3, h4, h5, h6, h7, by simp, by simp⟩
 ·exact h
theorem lift_okl (h : ∀ s ∈ l, OkS C s) : ∀ s ∈ l.map (lift lf), OkS C s := fun s hs => by
 obtain ⟨t, ht, rfl⟩ := List.mem_map.1 hs
 exact lift_ok (h t ht)
theorem goodL (hC : 1 ≤ C ∧ C ≤ 8) (hl : l.length ≤ 16) (ho : ∀ s ∈ l, OkS C s) (hd : 0 ≤ ld ∧ ld ≤ 9) : Good C (l.map (lift lf)) ld :=
 good_of (chk_of hC (by rw [List.length_map]; exact hl) (lift_okl ho)) (off_iff.2 hd)
theorem c94L (hs : Sl H a l) (hi : l[i]? = some s) :
  acall tabA (aexec tabA Try.prog (N + 40)) 94 [jobG C a l.length cap w ld lf, legV i b] H = some (true, .tuple ⟨[.int .i64 (nearL s b), .int .i64 (farL s b)]⟩, H, H.size) := by
 refine call_quiet (k := 24) (rs := [.tmp 4, .tmp 5]) rfl fn_94 rfl rfl rfl ?_ rfl
 have hlt := (List.getElem?_eq_some_iff.1 hi).1
 obtain ⟨b', o, c, rfl, hb, hc, hp⟩ := hs.get (fun h => by subst h; simp at hi)
 have hpi := hp i s hi
 cases b
 ·simp (disch:=first|(simp only [yk,seval];done)|omega|(simp only [yz]<;>omega)|fail) only [↓yp,yq0,yq1,yq2,yq3,yq4,yl,ys0,ys1,seval,zed,zee,zfr,zhw,ysu,yrg,ysv,ysw,ysx,jobG,legV,A_indexSlice zio,hc,hpi,Str.enc]
  refine W_draw [] rfl (by kernel_rfl) (by kernel_rfl) (by first|omega|(simp only [yz]<;>omega)) ?_
  simp (disch:=first|(simp only [yk,seval];done)|omega|(simp only [yz]<;>omega)|fail) only [↓yp,yq0,yq1,yq2,yq3,yq4,yl,ys0,ys1,seval,zed,zee,zfr,zhw,ysu,yrg,ysv,ysw,ysx,nearL,farL]
 ·simp (disch:=first|(simp only [yk,seval];done)|omega|(simp only [yz]<;>omega)|fail) only [↓yp,yq0,yq1,yq2,yq3,yq4,yl,ys0,ys1,seval,zed,zee,zfr,zhw,ysu,yrg,ysv,ysw,ysx,jobG,legV,A_indexSlice zio,hc,hpi,Str.enc]
  refine W_draw [] rfl (by kernel_rfl) (by kernel_rfl) (by first|omega|(simp only [yz]<;>omega)) ?_
  simp (disch:=first|(simp only [yk,seval];done)|omega|(simp only [yz]<;>omega)|fail) only [↓yp,yq0,yq1,yq2,yq3,yq4,yl,ys0,ys1,seval,zed,zee,zfr,zhw,ysu,yrg,ysv,ysw,ysx,nearL,farL]
theorem c128L (hs : Sl H a l) (hi : l[i]? = some s) (h1 : w64 (s.up * ld) = s.up * ld) (h2 : w64 (s.mi + s.up * ld) = s.mi + s.up * ld) :
  acall tabA (aexec tabA Try.prog (N + 40)) 128 [jobG C a l.length cap w ld lf, legV i b] H = some (true, .int .i64 (takes s b ld), H, H.size) := by
 refine call_quiet (k := 26) (rs := [.tmp 4]) rfl fn_128 rfl rfl rfl ?_ rfl
 have hlt := (List.getElem?_eq_some_iff.1 hi).1
 obtain ⟨b', o, c, rfl, hb, hc, hp⟩ := hs.get (fun h => by subst h; simp at hi)
 have hpi := hp i s hi
 simp (disch:=first|(simp only [yk,seval];done)|omega|(simp only [yz]<;>omega)|fail) only [↓yp,yq0,yq1,yq2,yq3,yq4,yl,ys0,ys1,seval,zed,zee,zfr,zhw,ysu,yrg,ysv,ysw,ysx,jobG,legV,A_indexSlice zio,hc,hpi,Str.enc]
 cases b <;> simp (disch:=first|(simp only [yk,seval];done)|omega|(simp only [yz]<;>omega)|fail) only [↓yp,yq0,yq1,yq2,yq3,yq4,yl,ys0,ys1,seval,zed,zee,zfr,zhw,ysu,yrg,ysv,ysw,ysx,h1,h2,takes]
set_option maxHeartbeats 1000000 in
theorem c107L (hs : Sl H a l) (hi : l[i]? = some s) (hlf : 0 ≤ lf ∧ lf ≤ 3) (hw9 : w ≤ 9) (hd9 : ld ≤ 9) :
  acall tabA (aexec tabA Try.prog (N + 40)) 107 [jobG C a l.length cap w ld lf, legV i b] H = some (true, .bool (mayL (lift lf s) b w ld), H, H.size) := by
 refine call_quiet (k := 51) (rs := [.tmp 4]) rfl fn_107 rfl rfl rfl ?_ rfl
 have hlt := (List.getElem?_eq_some_iff.1 hi).1
 obtain ⟨b', o, c, rfl, hb, hc, hp⟩ := hs.get (fun h => by subst h; simp at hi)
 have hpi := hp i s hi
 have k1 : decide (w ≤ 9) = true := by simpa using hw9
 have k2 : decide (ld ≤ 9) = true := by simpa using hd9
 rcases law_cases hlf with rfl | rfl | rfl | rfl
 ·have hm : mayL (lift 0 s) b w ld = (decide (w ≤ s.wi) && decide (ld ≤ s.be)) := rfl
  rw [hm]
  cases hbk : s.bk <;> cases b <;> cases hw : decide (w ≤ s.wi) <;> cases hd : decide (ld ≤ s.be) <;> simp (disch:=first|(simp only [yk,seval];done)|omega|(simp only [yz]<;>omega)|fail) only [↓yp,yq0,yq1,yq2,yq3,yq4,yl,ys0,ys1,seval,zed,zee,zfr,zhw,ysu,yrg,ysv,ysw,ysx,jobG,legV,A_indexSlice zio,hc,hpi,Str.enc,hbk,hw,hd]
 ·have hm : mayL (lift 1 s) b w ld = ((s.bk || !b) && (decide (w ≤ 9) && decide (ld ≤ s.be))) := rfl
  rw [hm, k1]
  cases hbk : s.bk <;> cases b <;> cases hw : decide (w ≤ s.wi) <;> cases hd : decide (ld ≤ s.be) <;> simp (disch:=first|(simp only [yk,seval];done)|omega|(simp only [yz]<;>omega)|fail) only [↓yp,yq0,yq1,yq2,yq3,yq4,yl,ys0,ys1,seval,zed,zee,zfr,zhw,ysu,yrg,ysv,ysw,ysx,jobG,legV,A_indexSlice zio,hc,hpi,Str.enc,hbk,hw,hd]
 ·have hm : mayL (lift 2 s) b w ld = ((s.bk || !b) && (decide (w ≤ s.wi) && decide (ld ≤ 9))) := rfl
  rw [hm, k2]
  cases hbk : s.bk <;> cases b <;> cases hw : decide (w ≤ s.wi) <;> cases hd : decide (ld ≤ s.be) <;> simp (disch:=first|(simp only [yk,seval];done)|omega|(simp only [yz]<;>omega)|fail) only [↓yp,yq0,yq1,yq2,yq3,yq4,yl,ys0,ys1,seval,zed,zee,zfr,zhw,ysu,yrg,ysv,ysw,ysx,jobG,legV,A_indexSlice zio,hc,hpi,Str.enc,hbk,hw,hd]
 ·have hm : mayL (lift 3 s) b w ld = ((s.bk || !b) && (decide (w ≤ s.wi) && decide (ld ≤ s.be))) := rfl
  rw [hm]
  cases hbk : s.bk <;> cases b <;> cases hw : decide (w ≤ s.wi) <;> cases hd : decide (ld ≤ s.be) <;> simp (disch:=first|(simp only [yk,seval];done)|omega|(simp only [yz]<;>omega)|fail) only [↓yp,yq0,yq1,yq2,yq3,yq4,yl,ys0,ys1,seval,zed,zee,zfr,zhw,ysu,yrg,ysv,ysw,ysx,jobG,legV,A_indexSlice zio,hc,hpi,Str.enc,hbk,hw,hd]
set_option maxHeartbeats 1000000 in
theorem c127L (hs : Sl H a l) (hi : l[i]? = some s) (hlf : 0 ≤ lf ∧ lf ≤ 3) (h1 : w64 (s.up * ld) = s.up * ld) (h2 : w64 (s.mi + s.up * ld) = s.mi + s.up * ld) (h3 : w64 (m + takes s b ld) = m + takes s b ld) :
  acall tabA (aexec tabA Try.prog (N + 80)) 127 [jobG C a l.length cap w ld lf, legV i b, .int .i64 m] H = some (true, .bool (meetsL (lift lf s) b ld m), H, H.size) := by
 refine call_quiet (k := 40) (rs := [.tmp 6]) rfl fn_127 rfl rfl rfl ?_ rfl
 have hlt := (List.getElem?_eq_some_iff.1 hi).1
 obtain ⟨b', o, c, rfl, hb, hc, hp⟩ := hs.get (fun h => by subst h; simp at hi)
 have hpi := hp i s hi
 have hsp : part c (o + i * 9 + 7) 3 = some (.agg ⟨[.int .i64 s.lo, .int .i64 s.hi]⟩) := part_in 7 2 hpi (by omega)
 have h128 := fun (H' : AHeap) (f : Fr H H') (N : Nat) => c128L (N := N) (C := C) (w := w) (lf := lf) (cap := cap) (b := b) (hs.fr f) hi h1 h2
 simp only [jobG,legV] at h128
 by_cases e : lf = 3
 ·subst e
  have hm : meetsL (lift 3 s) b ld m = false := rfl
  rw [hm]
  cases hlh : decide (s.hi < s.lo) <;> simp (disch:=first|(simp only [yk,seval];done)|omega|(simp only [yz]<;>omega)|fail) only [↓yp,yq0,yq1,yq2,yq3,yq4,yl,ys0,ys1,seval,zed,zee,zfr,zhw,ysu,yrg,ysv,ysw,ysx,jobG,legV,A_indexSlice zio,hc,hsp,hlh]
 have hm : meetsL (lift lf s) b ld m = meetsL s b ld m := by
  rcases law_cases hlf with rfl | rfl | rfl | rfl
  ·rfl
  ·rfl
  ·rfl
  ·exact absurd rfl e
 rw [hm]
 have e3 : decide (lf = 3) = false := by simpa using e
 cases hlh : decide (s.hi < s.lo)
 ·cases ha : decide (m ≤ s.hi)
  ·simp (disch:=first|(simp only [yk,seval];done)|omega|(simp only [yz]<;>omega)|fail) only [↓yp,yq0,yq1,yq2,yq3,yq4,yl,ys0,ys1,seval,zed,zee,zfr,zhw,ysu,yrg,ysv,ysw,ysx,jobG,legV,A_indexSlice zio,hc,hsp,e3,hlh]
   refine W_draw [] rfl (by kernel_rfl) (by kernel_rfl) (by first|omega|(simp only [yz]<;>omega)) ?_
   simp (disch:=first|(simp only [yk,seval];done)|omega|(simp only [yz]<;>omega)|fail) only [↓yp,yq0,yq1,yq2,yq3,yq4,yl,ys0,ys1,seval,zed,zee,zfr,zhw,ysu,yrg,ysv,ysw,ysx,ha,meetsL]
  ·simp (disch:=first|(simp only [yk,seval];done)|omega|(simp only [yz]<;>omega)|fail) only [↓yp,yq0,yq1,yq2,yq3,yq4,yl,ys0,ys1,seval,zed,zee,zfr,zhw,ysu,yrg,ysv,ysw,ysx,jobG,legV,A_indexSlice zio,hc,hsp,e3,hlh]
   refine W_draw [] rfl (by kernel_rfl) (by kernel_rfl) (by first|omega|(simp only [yz]<;>omega)) ?_
   simp (disch:=first|(simp only [yk,seval];done)|omega|(simp only [yz]<;>omega)|fail) only [↓yp,yq0,yq1,yq2,yq3,yq4,yl,ys0,ys1,seval,zed,zee,zfr,zhw,ysu,yrg,ysv,ysw,ysx,ha]
   rw [h128 _ (by repeat first|exact Fr.refl _|assumption|refine Fr.allocd ?_ _|refine Fr.put ?_ (by first|omega|(simp only [yz]<;>omega)) _)]
   simp (disch:=first|(simp only [yk,seval];done)|omega|(simp only [yz]<;>omega)|fail) only [↓yp,yq0,yq1,yq2,yq3,yq4,yl,ys0,ys1,seval,zed,zee,zfr,zhw,ysu,yrg,ysv,ysw,ysx,ha,h3]
   rw [h128 _ (by repeat first|exact Fr.refl _|assumption|refine Fr.allocd ?_ _|refine Fr.put ?_ (by first|omega|(simp only [yz]<;>omega)) _)]
   simp (disch:=first|(simp only [yk,seval];done)|omega|(simp only [yz]<;>omega)|fail) only [↓yp,yq0,yq1,yq2,yq3,yq4,yl,ys0,ys1,seval,zed,zee,zfr,zhw,ysu,yrg,ysv,ysw,ysx,ha,h3,meetsL,hlh]
 ·simp (disch:=first|(simp only [yk,seval];done)|omega|(simp only [yz]<;>omega)|fail) only [↓yp,yq0,yq1,yq2,yq3,yq4,yl,ys0,ys1,seval,zed,zee,zfr,zhw,ysu,yrg,ysv,ysw,ysx,jobG,legV,A_indexSlice zio,hc,hsp,e3,hlh,meetsL]
set_option maxHeartbeats 1000000 in
theorem c117L (hs : Sl H a l) (hi : l[i]? = some s) (hlf : 0 ≤ lf ∧ lf ≤ 3) (hf : Fit s ld) (hm : okM m) :
  acall tabA (aexec tabA Try.prog (N + 160)) 117 [jobG C a l.length cap w ld lf, legV i b, .int .i64 m] H = some (true, .int .i64 (arrL (lift lf s) b ld m), H, H.size) := by
 have ht := hf.takes b
 have hm1 := hm.1
 have hm2 := hm.2
 unfold arrL
 split
 ·rename_i e
  subst e
  refine call_quiet (k := 36) (rs := [.tmp 6]) rfl fn_117 rfl rfl rfl ?_ rfl
  have e4 : decide ((-1 : Int) = -1) = true := by decide
  simp (disch:=first|(simp only [yk,seval];done)|omega|(simp only [yz]<;>omega)|fail) only [↓yp,yq0,yq1,yq2,yq3,yq4,yl,ys0,ys1,seval,zed,zee,zfr,zhw,ysu,yrg,ysv,ysw,ysx,jobG,legV,e4]
 ·rename_i e
  obtain ⟨h1, h2, h4, h5⟩ := fit_w64 hf
  have h5 := h5 b
  have h3 : w64 (m + takes s b ld) = m + takes s b ld := w64_of (by omega)
  refine call_quiet (k := 36) (rs := [.tmp 6]) rfl fn_117 rfl rfl rfl ?_ rfl
  have hlt := (List.getElem?_eq_some_iff.1 hi).1
  obtain ⟨b', o, c, rfl, hb, hc, hp⟩ := hs.get (fun h => by subst h; simp at hi)
  have hpi := hp i s hi
  have hhi : c[o + i * 9 + 8]? = some (.int .i64 s.hi) := cell_in 8 hpi (by omega)
  have h127 := fun (H' : AHeap) (f : Fr H H') (N : Nat) => c127L (N := N) (C := C) (w := w) (cap := cap) (b := b) (hs.fr f) hi hlf h1 h2 h3
  have h128 := fun (H' : AHeap) (f : Fr H H') (N : Nat) => c128L (N := N) (C := C) (w := w) (lf := lf) (cap := cap) (b := b) (hs.fr f) hi h1 h2
  simp only [jobG,legV] at h127 h128
  have e4 : decide (m = -1) = false := by simpa using e
  have har : arriveL (lift lf s) b ld m = if 240 < (bif meetsL (lift lf s) b ld m then s.hi + 1 else m) + takes s b ld then -1 else (bif meetsL (lift lf s) b ld m then s.hi + 1 else m) + takes s b ld := by
   unfold arriveL
   rw [lift_takes]
   by_cases e3 : lf = 3
   ·subst e3
    have hmt : meetsL (lift 3 s) b ld m = false := rfl
    rw [hmt]
    rfl
   ·have hh : (lift lf s).hi = s.hi := by
     rcases law_cases hlf with rfl | rfl | rfl | rfl
     ·rfl
     ·rfl
     ·rfl
     ·exact absurd rfl e3
    rw [hh]
  rw [har]
  simp (disch:=first|(simp only [yk,seval];done)|omega|(simp only [yz]<;>omega)|fail) only [↓yp,yq0,yq1,yq2,yq3,yq4,yl,ys0,ys1,seval,zed,zee,zfr,zhw,ysu,yrg,ysv,ysw,ysx,jobG,legV,e4]
  rw [h127 _ (by repeat first|exact Fr.refl _|assumption|refine Fr.allocd ?_ _|refine Fr.put ?_ (by first|omega|(simp only [yz]<;>omega)) _)]
  simp (disch:=first|(simp only [yk,seval];done)|omega|(simp only [yz]<;>omega)|fail) only [↓yp,yq0,yq1,yq2,yq3,yq4,yl,ys0,ys1,seval,zed,zee,zfr,zhw,ysu,yrg,ysv,ysw,ysx]
  refine ⟨fun hA => ?_, fun hA => ?_⟩
  ·rw [hA]
   simp (disch:=first|(simp only [yk,seval];done)|omega|(simp only [yz]<;>omega)|fail) only [↓yp,yq0,yq1,yq2,yq3,yq4,yl,ys0,ys1,seval,zed,zee,zfr,zhw,ysu,yrg,ysv,ysw,ysx,hA,A_indexSlice zio,hc,hhi,h4]
   rw [h128 _ (by repeat first|exact Fr.refl _|assumption|refine Fr.allocd ?_ _|refine Fr.put ?_ (by first|omega|(simp only [yz]<;>omega)) _)]
   simp (disch:=first|(simp only [yk,seval];done)|omega|(simp only [yz]<;>omega)|fail) only [↓yp,yq0,yq1,yq2,yq3,yq4,yl,ys0,ys1,seval,zed,zee,zfr,zhw,ysu,yrg,ysv,ysw,ysx,hA,h4,h5]
   refine ⟨fun hB => ?_, fun hB => ?_⟩
   ·simp (disch:=first|(simp only [yk,seval];done)|omega|(simp only [yz]<;>omega)|fail) only [↓yp,yq0,yq1,yq2,yq3,yq4,yl,ys0,ys1,seval,zed,zee,zfr,zhw,ysu,yrg,ysv,ysw,ysx,hA,of_decide_eq_true hB]
   ·simp (disch:=first|(simp only [yk,seval];done)|omega|(simp only [yz]<;>omega)|fail) only [↓yp,yq0,yq1,yq2,yq3,yq4,yl,ys0,ys1,seval,zed,zee,zfr,zhw,ysu,yrg,ysv,ysw,ysx,hA,h4,h5]
    rw [h128 _ (by repeat first|exact Fr.refl _|assumption|refine Fr.allocd ?_ _|refine Fr.put ?_ (by first|omega|(simp only [yz]<;>omega)) _)]
    simp (disch:=first|(simp only [yk,seval];done)|omega|(simp only [yz]<;>omega)|fail) only [↓yp,yq0,yq1,yq2,yq3,yq4,yl,ys0,ys1,seval,zed,zee,zfr,zhw,ysu,yrg,ysv,ysw,ysx,hA,h5,of_decide_eq_false hB]
  ·rw [hA]
   simp (disch:=first|(simp only [yk,seval];done)|omega|(simp only [yz]<;>omega)|fail) only [↓yp,yq0,yq1,yq2,yq3,yq4,yl,ys0,ys1,seval,zed,zee,zfr,zhw,ysu,yrg,ysv,ysw,ysx,hA]
   rw [h128 _ (by repeat first|exact Fr.refl _|assumption|refine Fr.allocd ?_ _|refine Fr.put ?_ (by first|omega|(simp only [yz]<;>omega)) _)]
   simp (disch:=first|(simp only [yk,seval];done)|omega|(simp only [yz]<;>omega)|fail) only [↓yp,yq0,yq1,yq2,yq3,yq4,yl,ys0,ys1,seval,zed,zee,zfr,zhw,ysu,yrg,ysv,ysw,ysx,hA,h3]
   refine ⟨fun hB => ?_, fun hB => ?_⟩
   ·simp (disch:=first|(simp only [yk,seval];done)|omega|(simp only [yz]<;>omega)|fail) only [↓yp,yq0,yq1,yq2,yq3,yq4,yl,ys0,ys1,seval,zed,zee,zfr,zhw,ysu,yrg,ysv,ysw,ysx,hA,of_decide_eq_true hB]
   ·simp (disch:=first|(simp only [yk,seval];done)|omega|(simp only [yz]<;>omega)|fail) only [↓yp,yq0,yq1,yq2,yq3,yq4,yl,ys0,ys1,seval,zed,zee,zfr,zhw,ysu,yrg,ysv,ysw,ysx,hA,h3]
    rw [h128 _ (by repeat first|exact Fr.refl _|assumption|refine Fr.allocd ?_ _|refine Fr.put ?_ (by first|omega|(simp only [yz]<;>omega)) _)]
    simp (disch:=first|(simp only [yk,seval];done)|omega|(simp only [yz]<;>omega)|fail) only [↓yp,yq0,yq1,yq2,yq3,yq4,yl,ys0,ys1,seval,zed,zee,zfr,zhw,ysu,yrg,ysv,ysw,ysx,hA,h3,of_decide_eq_false hB]
theorem get_lift {i : Nat} {s' : Str} (h : (l.map (lift lf))[i]? = some s') : ∃ s, l[i]? = some s ∧ s' = lift lf s := by
 rw [List.getElem?_map, Option.map_eq_some_iff] at h
 obtain ⟨s, h1, rfl⟩ := h
 exact ⟨s, h1, rfl⟩
theorem dirL (g : Good C l ld) (hs : Sl H a l) (hlf : 0 ≤ lf ∧ lf ≤ 3) (hw9 : w ≤ 9) (hd9 : ld ≤ 9) : DirC H (fwd ld) (l.map (lift lf)) (jobG C a l.length cap w ld lf) w ld 122 117 94 [jobG C a l.length cap w ld lf] [] where
 ends N H' i s' b f hi := by
  obtain ⟨s, h1, rfl⟩ := get_lift hi
  rw [lift_near, lift_far]
  exact c94L (hs.fr f) h1
 may N H' i s' b f hi := by
  obtain ⟨s, h1, rfl⟩ := get_lift hi
  exact c107L (hs.fr f) h1 hlf hw9 hd9
 sides N H' i s' b f hi := by
  obtain ⟨s, h1, rfl⟩ := get_lift hi
  show acall tabA (aexec tabA Try.prog (N + 100)) 94 _ H' = some (true, .tuple ⟨[.int .i64 (nearL (lift lf s) b), .int .i64 (farL (lift lf s) b)]⟩, H', H'.size)
  rw [lift_near, lift_far]
  exact c94L (N := N + 60) (hs.fr f) h1
 cross N H' i s' b m f hi hm := by
  obtain ⟨s, h1, rfl⟩ := get_lift hi
  exact c117L (N := N + 40) (hs.fr f) h1 hlf (g.fit (List.mem_of_getElem? h1)) hm
 better N H' m o hm ho := by
  rw [← fwd_better hm ho]
  exact c122 (N := N + 100)
set_option maxHeartbeats 1000000 in
theorem c88L {fr a₀ : Int} (g : Good C l ld) (gL : Good C (l.map (lift lf)) ld) (hs : Sl H a l) (hl : l.length ≤ 18) (hlf : 0 ≤ lf ∧ lf ≤ 3) (hw9 : w ≤ 9) (hd9 : ld ≤ 9) (hfr : 0 ≤ fr ∧ fr < C) (ha : 0 ≤ a₀ ∧ a₀ ≤ 240) :
  acall tabA (aexec tabA Try.prog (N + 4200)) 88 [jobG C a l.length cap w ld lf, .int .i64 fr, .int .i64 a₀] H = some (true, .agg ⟨tv (earT C (l.map (lift lf)) w ld fr a₀)⟩, H, H.size) := by
 refine call_quiet (k := 12) (rs := [.cell 6 130]) rfl fn_88 rfl rfl rfl ?_ (gr_tv _)
 have hC := g.hC
 have t8 := earT_len (w := w) gL hfr ha
 have ptv := part_tv t8
 have hlen : (l.map (lift lf)).length = l.length := List.length_map ..
 have h103 := fun (N : Nat) (H₁ : AHeap) (Q : Bool → Value → AHeap → Prop) (hL : H.size ≤ H₁.size) => c103 (N := N) (H := H₁) (Q := Q) (L := H.size) (C := C) (w := w) (ld := ld) (lf := lf) (a := a) (n := l.length) (cap := cap) hL
 simp only [jobG] at h103
 simp (disch:=first|(simp only [yk,seval];done)|omega|(simp only [yz]<;>omega)|fail) only [↓yp,yq0,yq1,yq2,yq3,yq4,yl,ys0,ys1,seval,zed,zee,zfr,zhw,ysu,yrg,ysv,ysw,ysx,jobG]
 rw [h103 _ _ _ (by first|omega|(simp only [yz]<;>omega))]
 simp (disch:=first|(simp only [yk,seval];done)|omega|(simp only [yz]<;>omega)|fail) only [↓yp,yq0,yq1,yq2,yq3,yq4,yl,ys0,ys1,seval,zed,zee,zfr,zhw,ysu,yrg,ysv,ysw,ysx]
 have h118 := fun (H' : AHeap) (f : Fr H H') (N : Nat) => c118 (N := N) (l := l.map (lift lf)) (a := a) (d := fwd ld) (C := C) (m := a₀) (cap := cap) (lf := lf) (fwd_ok gL) gL.known hC (by rw [hlen]; exact hl) (by rw [hlen]; exact dirL (cap := cap) (w := w) g (hs.fr f) hlf hw9 hd9) (x := fr) (by omega) ⟨by omega, by omega⟩
 simp only [jobG,hlen] at h118
 rw [h118 _ (by repeat first|exact Fr.refl _|assumption|refine Fr.allocd ?_ _|refine Fr.put ?_ (by first|omega|(simp only [yz]<;>omega)) _)]
 rw [show (fwd ld).iter (l.map (lift lf)) w ld C.toNat 2000 (begT fr a₀) = earT C (l.map (lift lf)) w ld fr a₀ from rfl]
 simp (disch:=first|(simp only [yk,seval];done)|omega|(simp only [yz]<;>omega)|fail) only [↓yp,yq0,yq1,yq2,yq3,yq4,yl,ys0,ys1,seval,zed,zee,zfr,zhw,ysu,yrg,ysv,ysw,ysx,tv_len,t8,one_tv,ptv]
end
end Go.Am
namespace Go.Am
open Go.Proofs
variable {T : Tab} {P : Program} {N L : Nat} {H : AHeap} {Q : Bool → Value → AHeap → Prop}
def barsL (p : Nat → Bool) : Nat → List Int
 | 0 => []
 | k + 1 => barsL p k ++ (if p k then [(k : Int)] else [])
theorem barsL_le {p : Nat → Bool} : ∀ k, (barsL p k).length ≤ k
 | 0 => by simp [barsL]
 | k + 1 => by
  have := barsL_le (p := p) k
  unfold barsL
  rw [List.length_append]
  split <;> simp <;> omega
def freeP (C : Int) (l : List Str) (w ld fr to m : Int) (k : Nat) : Bool := !decide (tg (earT C (l.map (lift k)) w ld fr m) to = -1)
section
variable {a : Option Addr} {cap : Nat} {l : List Str} {C w ld : Int}
theorem c82i {k₁ k₂ : Nat} {x y m : Int} (hs : Sl H a l) (hl : l.length ≤ 18) (h₁ : cellsOf (H.get k₁) = some [.int .i64 x, .int .i64 y]) (h₂ : cellsOf (H.get k₂) = some [.int .i64 m]) :
  acall tabA (aexec tabA Try.prog (N + 400)) 82 [.agg ⟨[.int .i64 C, .slice a l.length cap]⟩, .agg ⟨[.int .i64 w, .int .i64 ld]⟩, .slice (some ⟨k₁, 0, none⟩) 2 2, .slice none 0 0, .slice (some ⟨k₂, 0, none⟩) 1 1] H = some (true, .int .i64 (asked C l w ld [x, y] [] [m]), H, H.size) :=
 c82 (cs := [x, y]) (ss := []) (ms := [m]) (as' := none) (ks := 0) hs hl (Il.two (lt_of_cells h₁) h₁) (by simp) Il.nil (by simp) (Il.one (lt_of_cells h₂) h₂) (by simp)
theorem Grow.il {tb n c el : Nat} {a : Option Addr} {t : List Int} (g : Grow H tb (.slice a n c) n (tv t) el 1) (hn : t.length = n) : Il H a t := by
 by_cases h : n = 0
 ·have : t = [] := List.length_eq_zero_iff.1 (by omega)
  subst this
  have e := g.nil h
  cases e
  exact Il.nil
 ·obtain ⟨b, al, h1, h2, h3, h4, h5⟩ := g.cons h
  cases h1
  exact Il.of h3 (by rw [h4]; rfl)
set_option maxHeartbeats 4000000 in
theorem c62 {fr to m : Int} (hs : Sl H a l) (hl : l.length ≤ 16) (hC : 1 ≤ C ∧ C ≤ 8) (ho : ∀ s ∈ l, OkS C s) (hw : 1 ≤ w ∧ w ≤ 9) (hd : 0 ≤ ld ∧ ld ≤ 9) (hfr : 0 ≤ fr ∧ fr < C) (hto : 0 ≤ to ∧ to < C) (hm : 0 ≤ m ∧ m ≤ 240) (hL : L ≤ H.size) {M : Nat} (hM : 5500 ≤ M)
  (hq : ∀ f a' c H', Fr H H' → Il H' a' (barsL (freeP C l w ld fr to m) 4) → (barsL (freeP C l w ld fr to m) 4 = [] → a' = none ∧ c = 0) → tg (earT C l w ld fr m) to = -1 → Q f (.tuple ⟨[.slice a' (barsL (freeP C l w ld fr to m) 4).length c, .int .i64 0]⟩) H')
  (hq1 : ∀ f H', Fr H H' → tg (earT C l w ld fr m) to ≠ -1 → Q f (.tuple ⟨[.slice none 0 0, .int .i64 1]⟩) H') :
  resK (acall tabA (aexec tabA Try.prog M) 62 [.agg ⟨[.int .i64 C, .slice a l.length cap]⟩, .agg ⟨[.int .i64 w, .int .i64 ld]⟩, .int .i64 fr, .int .i64 to, .int .i64 m] H) L Q := by
 obtain ⟨N, rfl⟩ : ∃ N, M = N + 5500 := ⟨M - 5500, by omega⟩
 have h0 : asked C l w ld [fr, to] [] [m] = 0 := asked_zero hC hl ho hw hd (by simp; omega) (by simp; omega)
 have g : Good C l ld := good_of (chk_of hC hl ho) (off_iff.2 hd)
 have e8 := earT_ok (w := w) g (fr := fr) (a₀ := m) hfr hm
 have hat := tv_at e8.1 (x := to) (by omega)
 obtain ⟨p, hp⟩ : ∃ p, freeP C l w ld fr to m = p := ⟨_, rfl⟩
 rw [hp] at hq
 refine call_some (R := fun v H' => (¬ tg (earT C l w ld fr m) to = -1 ∧ v = .tuple ⟨[.slice none 0 0, .int .i64 1]⟩ ∧ Fr H H') ∨ (tg (earT C l w ld fr m) to = -1 ∧ ∃ a' c, v = .tuple ⟨[.slice a' (barsL p 4).length c, .int .i64 0]⟩ ∧ Fr H H' ∧ Il H' a' (barsL p 4) ∧ (barsL p 4 = [] → a' = none ∧ c = 0))) (k := 55) (rs := [.tmp 10, .tmp 11]) rfl fn_62 rfl rfl rfl hL ?_ ?_ ?_
 ·simp (disch:=first|(simp only [yk,seval];done)|omega|(simp only [yz]<;>omega)|fail) only [↓yp,yq0,yq1,yq2,yq3,yq4,yl,ys0,ys1,seval,zed,zee,zfr,zhw,ysu,yrg,ysv,ysw,ysx,A_buildSlice st_brS_52_2,A_buildSlice st_brS_52_1]
  rw [c82i (x := fr) (y := to) (m := m) (hs.fr (by repeat first|exact Fr.refl _|assumption|refine Fr.allocd ?_ _|refine Fr.put ?_ (by first|omega|(simp only [yz]<;>omega)) _)) (by omega) (by simp (disch:=first|(simp only [yk,seval];done)|omega|(simp only [yz]<;>omega)|fail) only [yg,seval]) (by simp (disch:=first|(simp only [yk,seval];done)|omega|(simp only [yz]<;>omega)|fail) only [yg,seval]), h0]
  simp (disch:=first|(simp only [yk,seval];done)|omega|(simp only [yz]<;>omega)|fail) only [↓yp,yq0,yq1,yq2,yq3,yq4,yl,ys0,ys1,seval,zed,zee,zfr,zhw,ysu,yrg,ysv,ysw,ysx]
  refine c83q (hs.fr (by repeat first|exact Fr.refl _|assumption|refine Fr.allocd ?_ _|refine Fr.put ?_ (by first|omega|(simp only [yz]<;>omega)) _)).none_len (by first|omega|(simp only [yz]<;>omega)) (by omega) ?_
  intro b3 H3 fr3
  have f3 := fr3.size
  have s3 := fr3.same
  simp only [zde] at f3
  have fH : Fr H H3 := Fr.trans (by repeat first|exact Fr.refl _|assumption|refine Fr.allocd ?_ _|refine Fr.put ?_ (by first|omega|(simp only [yz]<;>omega)) _) fr3
  have h88 := fun (H' : AHeap) (f : Fr H H') (N : Nat) => c88 (N := N) (C := C) (w := w) (cap := cap) (fr := fr) (a₀ := m) g (hs.fr f) (by omega) hfr hm
  simp only [jobG] at h88
  simp (disch:=first|(simp only [yk,seval];done)|omega|(simp only [yz]<;>omega)|fail) only [↓yp,yq0,yq1,yq2,yq3,yq4,yl,ys0,ys1,seval,zed,zee,zfr,zhw,ysu,yrg,ysv,ysw,ysx,jobV]
  rw [h88 _ (by repeat first|exact Fr.refl _|assumption|refine Fr.allocd ?_ _|refine Fr.put ?_ (by first|omega|(simp only [yz]<;>omega)) _)]
  simp (disch:=first|(simp only [yk,seval];done)|omega|(simp only [yz]<;>omega)|fail) only [↓yp,yq0,yq1,yq2,yq3,yq4,yl,ys0,ys1,seval,zed,zee,zfr,zhw,ysu,yrg,ysv,ysw,ysx]
  refine A_index_of (k := .i64) (i := to) (cs := tv (earT C l w ld fr m)) (v := .int .i64 (tg (earT C l w ld fr m) to)) st_ixV_130 (by simp (disch:=first|(simp only [yk,seval];done)|omega|(simp only [yz]<;>omega)|fail) only [↓yp,yq0,yq1,yq2,yq3,yq4,yl,ys0,ys1,seval,zed,zee,zfr,zhw,ysu,yrg,ysv,ysw,ysx]) (by simp (disch:=first|(simp only [yk,seval];done)|omega|(simp only [yz]<;>omega)|fail) only [↓yp,yq0,yq1,yq2,yq3,yq4,yl,ys0,ys1,seval,zed,zee,zfr,zhw,ysu,yrg,ysv,ysw,ysx]) ⟨by omega, by omega⟩ (by rw [zdj, Nat.mul_one]; exact hat) (by first|omega|(simp only [yz]<;>omega)) ?_
  simp (disch:=first|(simp only [yk,seval];done)|omega|(simp only [yz]<;>omega)|fail) only [↓yp,yq0,yq1,yq2,yq3,yq4,yl,ys0,ys1,seval,zed,zee,zfr,zhw,ysu,yrg,ysv,ysw,ysx]
  refine ⟨fun hA => ?_, fun hA => ?_⟩
  rotate_left
  ·have hA' : tg (earT C l w ld fr m) to ≠ -1 := of_decide_eq_false hA
   simp (disch:=first|(simp only [yk,seval];done)|omega|(simp only [yz]<;>omega)|fail) only [↓yp,yq0,yq1,yq2,yq3,yq4,yl,ys0,ys1,seval,zed,zee,zfr,zhw,ysu,yrg,ysv,ysw,ysx]
   exact .inl ⟨hA', Fr.put (Fr.allocd fH _) (by omega) _⟩
  have hA' : tg (earT C l w ld fr m) to = -1 := of_decide_eq_true hA
  simp (disch:=first|(simp only [yk,seval];done)|omega|(simp only [yz]<;>omega)|fail) only [↓yp,yq0,yq1,yq2,yq3,yq4,yl,ys0,ys1,seval,zed,zee,zfr,zhw,ysu,yrg,ysv,ysw,ysx]
  refine W_while (n := 55) 5000 (fun k e H' => ∃ j ga gc, ∃ lf : Int, k = 4 - j ∧ j ≤ 4 ∧ gt 55 e 37 = .int .i64 (j : Nat) ∧ gt 55 e 13 = .pointer (some ⟨H3.size, 0, none⟩) ∧ gt 55 e 2 = .int .i64 fr ∧ gt 55 e 3 = .int .i64 to ∧ gt 55 e 4 = .int .i64 m ∧ gt 55 e 14 = .slice ga (barsL p j).length gc ∧ Fr H3 H' ∧ H3.size < H'.size ∧ H'.get H3.size = .rw [.int .i64 C, .slice a l.length cap, .int .i64 w, .int .i64 ld, .int .i64 lf] 124 false [] ∧ Grow H' H3.size (.slice ga (barsL p j).length gc) (barsL p j).length (tv (barsL p j)) 105 1)
   ?_ 4 4 ⟨0, none, 0, -1, by omega, by omega, by simp (disch:=first|(simp only [yk,seval];done)|omega|(simp only [yz]<;>omega)|fail) only [yg,seval] <;> rfl, by simp (disch:=first|(simp only [yk,seval];done)|omega|(simp only [yz]<;>omega)|fail) only [yg,seval], by simp (disch:=first|(simp only [yk,seval];done)|omega|(simp only [yz]<;>omega)|fail) only [yg,seval], by simp (disch:=first|(simp only [yk,seval];done)|omega|(simp only [yz]<;>omega)|fail) only [yg,seval], by simp (disch:=first|(simp only [yk,seval];done)|omega|(simp only [yz]<;>omega)|fail) only [yg,seval], by simp (disch:=first|(simp only [yk,seval];done)|omega|(simp only [yz]<;>omega)|fail) only [yg,seval] <;> rfl, by (repeat (first | exact Fr.refl _ | assumption | refine Fr.allocd ?_ _ | refine Fr.put ?_ (by first | omega | (simp only [yz] <;> omega)) _)), by (first | omega | (simp only [yz] <;> omega)), by simp (disch:=first|(simp only [yk,seval];done)|omega|(simp only [yz]<;>omega)|fail) only [yg,seval], ⟨fun _ => rfl, fun h => absurd rfl h⟩⟩ (by omega) (by omega)
  rintro M1 k1 e H' ⟨j, ga, gc, lf, rfl, hj, g37, g13, g2, g3, g4, g14, fr', htb, hgt, gw⟩
  have f0 := fr'.size
  simp (disch:=first|(simp only [yk,seval];done)|omega|(simp only [yz]<;>omega)|fail) only [↓yp,yq0,yq1,yq2,yq3,yq4,yl,ys0,ys1,seval,zed,zee,zfr,zhw,ysu,yrg,ysv,ysw,ysx,g37]
  refine ⟨fun hB => ?_, fun hB => ?_⟩
  ·have hj4 : j < 4 := by have := of_decide_eq_true hB; omega
   have hlf : 0 ≤ (j : Int) ∧ (j : Int) ≤ 3 := by omega
   have hw2 : w64 ((j : Int) + 1) = ((j + 1 : Nat) : Int) := by rw [w64_of (by omega)]; omega
   have gL : Good C (l.map (lift j)) ld := goodL hC hl ho hd
   have e8' := earT_ok (w := w) gL (fr := fr) (a₀ := m) hfr hm
   have hat' := tv_at e8'.1 (x := to) (by omega)
   have hpj : p j = !decide (tg (earT C (l.map (lift j)) w ld fr m) to = -1) := by rw [← hp]; rfl
   have h88 := fun (H' : AHeap) (f : Fr H H') (N : Nat) => c88L (N := N) (C := C) (w := w) (cap := cap) (fr := fr) (a₀ := m) (lf := (j : Int)) g gL (hs.fr f) (by omega) hlf (by omega) (by omega) hfr hm
   simp only [jobG] at h88
   have fHH : Fr H H' := fH.trans fr'
   simp (disch:=first|(simp only [yk,seval];done)|omega|(simp only [yz]<;>omega)|fail) only [↓yp,yq0,yq1,yq2,yq3,yq4,yl,ys0,ys1,seval,zed,zee,zfr,zhw,ysu,yrg,ysv,ysw,ysx,g37,g13,hgt]
   rw [g2, g4, h88 _ (Fr.put fHH (by omega) _)]
   simp (disch:=first|(simp only [yk,seval];done)|omega|(simp only [yz]<;>omega)|fail) only [↓yp,yq0,yq1,yq2,yq3,yq4,yl,ys0,ys1,seval,zed,zee,zfr,zhw,ysu,yrg,ysv,ysw,ysx]
   refine A_index_of (k := .i64) (i := to) (cs := tv (earT C (l.map (lift j)) w ld fr m)) (v := .int .i64 (tg (earT C (l.map (lift j)) w ld fr m) to)) st_ixV_130 (by simp (disch:=first|(simp only [yk,seval];done)|omega|(simp only [yz]<;>omega)|fail) only [↓yp,yq0,yq1,yq2,yq3,yq4,yl,ys0,ys1,seval,zed,zee,zfr,zhw,ysu,yrg,ysv,ysw,ysx]) (by simp (disch:=first|(simp only [yk,seval];done)|omega|(simp only [yz]<;>omega)|fail) only [↓yp,yq0,yq1,yq2,yq3,yq4,yl,ys0,ys1,seval,zed,zee,zfr,zhw,ysu,yrg,ysv,ysw,ysx,g3]) ⟨by omega, by omega⟩ (by rw [zdj, Nat.mul_one]; exact hat') (by first|omega|(simp only [yz]<;>omega)) ?_
   have hbe : barsL p (j + 1) = barsL p j ++ (if p j then [(j : Int)] else []) := rfl
   cases hD : decide (tg (earT C (l.map (lift j)) w ld fr m) to = -1)
   ·rw [hD] at hpj
    rw [hpj] at hbe
    simp only [Bool.not_false,if_true] at hbe
    have hln := barsL_le (p := p) j
    simp (disch:=first|(simp only [yk,seval];done)|omega|(simp only [yz]<;>omega)|fail) only [↓yp,yq0,yq1,yq2,yq3,yq4,yl,ys0,ys1,seval,zed,zee,zfr,zhw,ysu,yrg,ysv,ysw,ysx,g37,g14,hD,A_buildSlice st_brS_101_1]
    refine grow_append (i := (barsL p j).length) (cs := tv (barsL p j)) (news := [.int .i64 (j : Int)]) st_apS_101 ((gw.put (Nat.le_refl _)).fr (by repeat first|exact Fr.refl _|assumption|refine Fr.allocd ?_ _|refine Fr.put ?_ (by first|omega|(simp only [yz]<;>omega)) _)) (by first|omega|(simp only [yz]<;>omega)) (by rw [tv_len]; omega) (by unfold srcCells; simp (disch:=first|(simp only [yk,seval];done)|omega|(simp only [yz]<;>omega)|fail) only [yg,seval] <;> rfl) (by omega) (by omega) rfl (by omega) ?_
    intro a' c' H₂ fu gw'
    have u0 := fu.size
    have us := fu.same
    simp only [zde,zdf] at u0
    have e1 : (barsL p (j + 1)).length = (barsL p j).length + 1 := by rw [hbe, List.length_append]; rfl
    have etv : tv (barsL p (j + 1)) = tv (barsL p j) ++ [.int .i64 (j : Int)] := by rw [hbe]; unfold tv; rw [List.map_append]; rfl
    simp (disch:=first|(simp only [yk,seval];done)|omega|(simp only [yz]<;>omega)|fail) only [↓yp,yq0,yq1,yq2,yq3,yq4,yl,ys0,ys1,seval,zed,zee,zfr,zhw,ysu,yrg,ysv,ysw,ysx,g37,hw2]
    refine ⟨4 - (j + 1), by omega, j + 1, a', c', j, rfl, by omega, ?_, ?_, ?_, ?_, ?_, ?_, ?_, ?_, ?_, ?_⟩
    ·simp (disch:=first|(simp only [yk,seval];done)|omega|(simp only [yz]<;>omega)|fail) only [yg,seval]
    ·simp (disch:=first|(simp only [yk,seval];done)|omega|(simp only [yz]<;>omega)|fail) only [yg,seval,g13]
    ·simp (disch:=first|(simp only [yk,seval];done)|omega|(simp only [yz]<;>omega)|fail) only [yg,seval,g2]
    ·simp (disch:=first|(simp only [yk,seval];done)|omega|(simp only [yz]<;>omega)|fail) only [yg,seval,g3]
    ·simp (disch:=first|(simp only [yk,seval];done)|omega|(simp only [yz]<;>omega)|fail) only [yg,seval,g4]
    ·simp (disch:=first|(simp only [yk,seval];done)|omega|(simp only [yz]<;>omega)|fail) only [yg,seval,e1]
    ·refine Fr.part (H₁ := _) ?_ fu (by first|omega|(simp only [yz]<;>omega))
     exact Fr.allocd (Fr.put fr' (Nat.le_refl _) _) _
    ·(first | omega | (simp only [yz] <;> omega))
    ·rw [us _ (by omega), zdb (by first|omega|(simp only [yz]<;>omega)), zdc (by omega)]
    ·rw [e1, etv]; exact gw'
   ·rw [hD] at hpj
    rw [hpj] at hbe
    simp only [Bool.not_true,Bool.false_eq_true,if_false,List.append_nil] at hbe
    simp (disch:=first|(simp only [yk,seval];done)|omega|(simp only [yz]<;>omega)|fail) only [↓yp,yq0,yq1,yq2,yq3,yq4,yl,ys0,ys1,seval,zed,zee,zfr,zhw,ysu,yrg,ysv,ysw,ysx,g37,hD,hw2]
    refine ⟨4 - (j + 1), by omega, j + 1, ga, gc, j, rfl, by omega, ?_, ?_, ?_, ?_, ?_, ?_, ?_, ?_, ?_, ?_⟩
    ·simp (disch:=first|(simp only [yk,seval];done)|omega|(simp only [yz]<;>omega)|fail) only [yg,seval]
    ·simp (disch:=first|(simp only [yk,seval];done)|omega|(simp only [yz]<;>omega)|fail) only [yg,seval,g13]
    ·simp (disch:=first|(simp only [yk,seval];done)|omega|(simp only [yz]<;>omega)|fail) only [yg,seval,g2]
    ·simp (disch:=first|(simp only [yk,seval];done)|omega|(simp only [yz]<;>omega)|fail) only [yg,seval,g3]
    ·simp (disch:=first|(simp only [yk,seval];done)|omega|(simp only [yz]<;>omega)|fail) only [yg,seval,g4]
    ·simp (disch:=first|(simp only [yk,seval];done)|omega|(simp only [yz]<;>omega)|fail) only [yg,seval,g14,hbe]
    ·exact Fr.put fr' (Nat.le_refl _) _
    ·(first | omega | (simp only [yz] <;> omega))
    ·exact zdc (by omega)
    ·rw [hbe]; exact gw.put (Nat.le_refl _)
  ·have hj4 : j = 4 := by have := of_decide_eq_false hB; omega
   subst hj4
   simp (disch:=first|(simp only [yk,seval];done)|omega|(simp only [yz]<;>omega)|fail) only [↓yp,yq0,yq1,yq2,yq3,yq4,yl,ys0,ys1,seval,zed,zee,zfr,zhw,ysu,yrg,ysv,ysw,ysx,g14]
   exact .inr ⟨hA', ga, gc, rfl, fH.trans fr', gw.il rfl, fun he => by
    have := gw.nil (by rw [he]; rfl)
    simp only [Value.slice.injEq] at this
    exact ⟨this.1, this.2.2⟩⟩
 ·rintro v H' (⟨h1, rfl, h2⟩ | ⟨h1, a', c, rfl, h2, h3, h4⟩)
  ·exact hq1 _ _ h2 h1
  ·exact hq _ _ _ _ h2 h3 h4 h1
 ·rintro v H' (⟨h1, rfl, h2⟩ | ⟨h1, a', c, rfl, h2, h3, h4⟩) hg
  ·exact hq1 _ _ (Fr.refl H) h1
  ·have hnil : barsL p 4 = [] := Classical.byContradiction fun hne => by
    obtain ⟨b, o, c', rfl, _⟩ := h3.get hne
    simp [gr, ground] at hg
   rw [hnil] at hq h3 h4 ⊢
   exact hq _ _ _ _ (Fr.refl H) ⟨fun hne => absurd rfl hne⟩ h4 h1
end
end Go.Am
namespace Go.Am
open Go.Proofs
variable {T : Tab} {P : Program} {N L : Nat} {H : AHeap} {Q : Bool → Value → AHeap → Prop}
section
variable {l : List Str} {C w ld fr a₀ m to : Int} {x : Stt}
theorem canS_can (h : CanS l w ld (nxt dn0) (fr, 0) a₀ m x) : x.2 = 0 ∧ Can l w ld fr a₀ m x.1 := by
 induction h with
 | start => exact ⟨rfl, .start⟩
 | wait _ hm ih => exact ⟨ih.1, ih.2.wait hm⟩
 | go h hx hi hm hs ih =>
  refine ⟨ih.1, ?_⟩
  have h2 := ih.2
  rw [← hx] at h2
  exact h2.go hi hm hs
theorem can_canS {y : Int} (h : Can l w ld fr a₀ m y) : CanS l w ld (nxt dn0) (fr, 0) a₀ m (y, 0) := by
 induction h with
 | start => exact .start
 | wait _ hm ih => exact ih.wait hm
 | @go m i s b h hi hm hs ih =>
  exact ih.go (b := b) rfl hi hm hs
theorem least_ear (g : Good C l ld) (hfr : 0 ≤ fr ∧ fr < C) (ha : 0 ≤ a₀ ∧ a₀ ≤ 240) (hto : 0 ≤ to) (h : CanS l w ld (nxt dn0) (fr, 0) a₀ m (to, 0)) (hle : ∀ m', CanS l w ld (nxt dn0) (fr, 0) a₀ m' (to, 0) → m ≤ m') : tg (earT C l w ld fr a₀) to = m := by
 have E := earT_is (w := w) g hfr ha
 obtain ⟨h1, h2⟩ := E.le _ _ hto (canS_can h).2
 have h3 := hle _ (can_canS (E.can _ hto h1))
 omega
theorem none_ear (g : Good C l ld) (hfr : 0 ≤ fr ∧ fr < C) (ha : 0 ≤ a₀ ∧ a₀ ≤ 240) (hto : 0 ≤ to) (h : ∀ m, ¬ CanS l w ld (nxt dn0) (fr, 0) a₀ m (to, 0)) : tg (earT C l w ld fr a₀) to = -1 := by
 have E := earT_is (w := w) g hfr ha
 apply Classical.byContradiction
 intro h1
 exact h _ (can_canS (E.can _ hto h1))
end
section
variable {l : List Str} {C w ld fr to m : Int} {a : Option Addr} {cap : Nat}
set_option maxHeartbeats 4000000 in
theorem c38 (hs : Sl H a l) (hl : l.length ≤ 18) (hL : L ≤ H.size) {M : Nat} (hM : 21000 ≤ M)
  (he : asked C l w ld [fr, to] [] [m] ≠ 0 → ∀ q H', Fr H H' → Q q (.tuple ⟨[.slice none 0 0, .int .i64 0, .int .i64 (asked C l w ld [fr, to] [] [m])]⟩) H')
  (hn : asked C l w ld [fr, to] [] [m] = 0 → tg (earT C l w ld fr m) to = -1 → ∀ q H', Fr H H' → Q q (.tuple ⟨[.slice none 0 0, .int .i64 0, .int .i64 1]⟩) H')
  (hq : asked C l w ld [fr, to] [] [m] = 0 → tg (earT C l w ld fr m) to ≠ -1 → ∀ q v ls H', Fr H H' → RowL H' v ls H.size → Run l w ld (nxt dn0) (fr, 0) m ls (to, 0) (tg (earT C l w ld fr m) to) → ls.length ≤ 7 → Q q (.tuple ⟨[v, .int .i64 (tg (earT C l w ld fr m) to), .int .i64 0]⟩) H') :
  resK (acall tabA (aexec tabA Try.prog M) 38 [.agg ⟨[.int .i64 C, .slice a l.length cap]⟩, .agg ⟨[.int .i64 w, .int .i64 ld]⟩, .int .i64 fr, .int .i64 to, .int .i64 m] H) L Q := by
 obtain ⟨N, rfl⟩ : ∃ N, M = N + 21000 := ⟨M - 21000, by omega⟩
 refine call_some (R := fun v H' => Fr H H' ∧ ((asked C l w ld [fr, to] [] [m] ≠ 0 ∧ v = .tuple ⟨[.slice none 0 0, .int .i64 0, .int .i64 (asked C l w ld [fr, to] [] [m])]⟩) ∨ (asked C l w ld [fr, to] [] [m] = 0 ∧ tg (earT C l w ld fr m) to = -1 ∧ v = .tuple ⟨[.slice none 0 0, .int .i64 0, .int .i64 1]⟩) ∨
   (asked C l w ld [fr, to] [] [m] = 0 ∧ tg (earT C l w ld fr m) to ≠ -1 ∧ ∃ u ls, v = .tuple ⟨[u, .int .i64 (tg (earT C l w ld fr m) to), .int .i64 0]⟩ ∧ RowL H' u ls H.size ∧ Run l w ld (nxt dn0) (fr, 0) m ls (to, 0) (tg (earT C l w ld fr m) to) ∧ ls.length ≤ 7)))
  (k := 35) (rs := [.tmp 10, .tmp 11, .tmp 12]) rfl fn_38 rfl rfl rfl hL ?_ ?_ ?_
 ·simp (disch:=first|(simp only [yk,seval];done)|omega|(simp only [yz]<;>omega)|fail) only [↓yp,yq0,yq1,yq2,yq3,yq4,yl,ys0,ys1,seval,zed,zee,zfr,zhw,ysu,yrg,ysv,ysw,ysx,ysz,A_buildSlice st_brS_52_2,A_buildSlice st_brS_52_1]
  rw [c82i (x := fr) (y := to) (m := m) (hs.fr (by repeat first|exact Fr.refl _|assumption|refine Fr.allocd ?_ _|refine Fr.put ?_ (by first|omega|(simp only [yz]<;>omega)) _)) hl (by simp (disch:=first|(simp only [yk,seval];done)|omega|(simp only [yz]<;>omega)|fail) only [yg,seval]) (by simp (disch:=first|(simp only [yk,seval];done)|omega|(simp only [yz]<;>omega)|fail) only [yg,seval])]
  by_cases h0 : asked C l w ld [fr, to] [] [m] = 0
  rotate_left
  ·have h0' : decide (asked C l w ld [fr, to] [] [m] = 0) = false := by simpa using h0
   simp (disch:=first|(simp only [yk,seval];done)|omega|(simp only [yz]<;>omega)|fail) only [↓yp,yq0,yq1,yq2,yq3,yq4,yl,ys0,ys1,seval,zed,zee,zfr,zhw,ysu,yrg,ysv,ysw,ysx,ysz,h0']
   exact ⟨by (repeat (first | exact Fr.refl _ | assumption | refine Fr.allocd ?_ _ | refine Fr.put ?_ (by first | omega | (simp only [yz] <;> omega)) _)), .inl h0⟩
  have h0' : decide (asked C l w ld [fr, to] [] [m] = 0) = true := by simpa using h0
  obtain ⟨hc, hw, hd, hcs, hss, hms⟩ := asked_ok h0
  have g := good_of hc hd
  have hC := g.hC
  have hfr := hcs fr (by simp)
  have hto := hcs to (by simp)
  have hm := hms m (by simp)
  simp (disch:=first|(simp only [yk,seval];done)|omega|(simp only [yz]<;>omega)|fail) only [↓yp,yq0,yq1,yq2,yq3,yq4,yl,ys0,ys1,seval,zed,zee,zfr,zhw,ysu,yrg,ysv,ysw,ysx,ysz,h0']
  refine c83q (hs.fr (by repeat first|exact Fr.refl _|assumption|refine Fr.allocd ?_ _|refine Fr.put ?_ (by first|omega|(simp only [yz]<;>omega)) _)).none_len (by first|omega|(simp only [yz]<;>omega)) (by omega) ?_
  intro b3 H3 fr3
  have f3 := fr3.size
  simp only [zde] at f3
  have fH : Fr H H3 := Fr.trans (by repeat first|exact Fr.refl _|assumption|refine Fr.allocd ?_ _|refine Fr.put ?_ (by first|omega|(simp only [yz]<;>omega)) _) fr3
  simp (disch:=first|(simp only [yk,seval];done)|omega|(simp only [yz]<;>omega)|fail) only [↓yp,yq0,yq1,yq2,yq3,yq4,yl,ys0,ys1,seval,zed,zee,zfr,zhw,ysu,yrg,ysv,ysw,ysx,ysz]
  refine c92n (hs.fr fH) g hl hm (by omega) (by omega) (by omega) ?_ ?_
  ·intro H4 f4 hno q
   have sz4 := f4.size
   simp (disch:=first|(simp only [yk,seval];done)|omega|(simp only [yz]<;>omega)|fail) only [↓yp,yq0,yq1,yq2,yq3,yq4,yl,ys0,ys1,seval,zed,zee,zfr,zhw,ysu,yrg,ysv,ysw,ysx,ysz]
   exact ⟨fH.trans f4, .inr (.inl ⟨h0, none_ear g (by omega) hm hto.1 hno⟩)⟩
  ·intro q v ls H4 mm f4 hr hrun h7 hcan hle
   have sz4 := f4.size
   simp (disch:=first|(simp only [yk,seval];done)|omega|(simp only [yz]<;>omega)|fail) only [↓yp,yq0,yq1,yq2,yq3,yq4,yl,ys0,ys1,seval,zed,zee,zfr,zhw,ysu,yrg,ysv,ysw,ysx,ysz]
   have hmm := least_ear g (by omega) hm hto.1 hcan hle
   have hge := (hcan.le hm.2 g).1
   exact ⟨fH.trans f4, .inr (.inr ⟨h0, by omega, v, ls, by rw [hmm], hr.low (by omega), by rw [hmm]; exact hrun, h7⟩)⟩
 ·rintro v H' ⟨f, ⟨h0, rfl⟩ | ⟨h0, h1, rfl⟩ | ⟨h0, h1, u, ls, rfl, h2, h3, h4⟩⟩
  ·exact he h0 _ _ f
  ·exact hn h0 h1 _ _ f
  ·exact hq h0 h1 _ _ _ _ f h2 h3 h4
 ·rintro v H' ⟨f, ⟨h0, rfl⟩ | ⟨h0, h1, rfl⟩ | ⟨h0, h1, u, ls, rfl, h2, h3, h4⟩⟩ hg
  ·exact he h0 _ _ (Fr.refl H)
  ·exact hn h0 h1 _ _ (Fr.refl H)
  ·refine hq h0 h1 _ _ _ _ (Fr.refl H) ⟨h2.nil, fun hne => ?_⟩ h3 h4
   obtain ⟨b, al, rfl, -⟩ := h2.cons hne
   cases hg
end
end Go.Am
namespace Go.Am
open Go.Proofs
variable {T : Tab} {P : Program} {N L : Nat} {H : AHeap} {Q : Bool → Value → AHeap → Prop}
theorem lgs_part : ∀ {l : List (Int × Bool)} {i : Nat} {p : Int × Bool}, l[i]? = some p → part (lgs l) (i * 2) 3 = some (.agg ⟨[.int .i64 p.1, .bool p.2]⟩)
 | [], i, s, h => by simp at h
 | t :: l, 0, s, h => by
  simp only [List.getElem?_cons_zero,Option.some.injEq] at h
  subst h
  rfl
 | t :: l, i + 1, s, h => by
  have := lgs_part (l := l) (i := i) (p := s) (by simpa using h)
  rw [← this]
  unfold part
  simp only [lgs,show (i + 1) * 2 = i * 2 + 1 + 1 by omega,List.drop_succ_cons]
section
variable {k13 base : Nat} {v : Value} {ls : List (Int × Bool)} {k : Int}
end
end Go.Am
namespace Go.Am
open Go.Proofs
def bg (R : List Bool) (x : Int) : Bool := R.getD x.toNat false
def Cl1 (l : List Str) (w ld : Int) (R : List Bool) (y : Int) : Prop := ∀ (i : Nat) (s : Str) (b : Bool), l[i]? = some s → mayL s b w ld = true → nearL s b = y → bg R (farL s b) = true
section
variable {l : List Str} {C w ld : Int}
theorem Cl1.mono {R R' : List Bool} {y : Int} (h : Cl1 l w ld R y) (hm : ∀ y, bg R y = true → bg R' y = true) : Cl1 l w ld R' y := fun i s b h1 h2 h3 => hm _ (h i s b h1 h2 h3)
end
end Go.Am
set_option linter.defProp false
namespace Go.Am
open Go.Proofs
theorem st_apS_72 : apS tabA 72 = some (54, 2, 16) := by kernel_rfl
theorem st_brS_65_0 : brS tabA 65 0 = some (2, 28, []) := by kernel_rfl
theorem st_brS_72_1 : brS tabA 72 1 = some (2, 54, [(.int IntKind.i64 0), (.bool false)]) := by kernel_rfl
theorem st_esS_72 : esS tabA 72 = some 2 := by kernel_rfl
def ysa := (And.intro (And.intro @st_apS_72 @st_brS_65_0) (And.intro @st_brS_72_1 @st_esS_72))
end Go.Am
namespace Go.Am
open Go.Proofs
variable {T : Tab} {P : Program} {N L : Nat} {H : AHeap} {Q : Bool → Value → AHeap → Prop}
section
variable {l : List Str} {C w ld fr wh wn : Int} {i8 i9 k16 c16 : Nat} {a' b2 : Option Addr} {cap' cap2 : Nat} {bs2 : List Int} {H' : AHeap} {e : VT}
end
end Go.Am
namespace Go.Am
open Go.Proofs
variable {T : Tab} {P : Program} {N L : Nat} {H : AHeap} {Q : Bool → Value → AHeap → Prop}
section
variable {l : List Str} {C w ld fr wh wn : Int} {i8 i9 k16 c16 : Nat} {a' b2 : Option Addr} {cap' cap2 : Nat} {bs2 : List Int} {H' : AHeap} {e : VT}
structure Tw (C w ld : Int) (l : List Str) (a' : Option Addr) (cap' : Nat) (fr wh wn : Int) : Prop where
 hC : 2 ≤ C ∧ C ≤ 8
 hl : l.length ≤ 16
 ho : ∀ s ∈ l, OkS C s
 hn : a' = none → cap' = 0
 hw : 1 ≤ w ∧ w ≤ 9
 hd : 0 ≤ ld ∧ ld ≤ 9
 hfr : 0 ≤ fr ∧ fr < C
 hwh : 0 ≤ wh ∧ wh < C
 hwn : 0 ≤ wn ∧ wn ≤ 59
theorem Tw.good (X : Tw C w ld l a' cap' fr wh wn) : Good C l ld := by
 have := X.hC
 have := X.hd
 exact good_of (chk_of (by omega) X.hl X.ho) (off_iff.2 (by omega))
end
end Go.Am
namespace Go.Am
open Go.Proofs
variable {T : Tab} {P : Program} {N L : Nat} {H : AHeap} {Q : Bool → Value → AHeap → Prop}
section
variable {l : List Str} {C w ld fr wh wn : Int} {i8 i9 k16 c16 : Nat} {a' b2 : Option Addr} {cap' cap2 : Nat} {bs2 : List Int} {H' : AHeap} {e : VT}
end
end Go.Am
namespace Go.Am
open Go.Proofs
variable {T : Tab} {P : Program} {N L : Nat} {H : AHeap} {Q : Bool → Value → AHeap → Prop}
section
variable {a b2 : Option Addr} {cap cap2 : Nat} {bs bs2 : List Int}
theorem Bts.fr {H' : AHeap} (h : Bts H a bs) (f : Fr H H') : Bts H' a bs := ⟨fun hn => by
 obtain ⟨b, o, c, h1, h2, h3, h4⟩ := h.row hn
 exact ⟨b, o, c, h1, Nat.lt_of_lt_of_le h2 f.size, by rw [f.same b h2]; exact h3, h4⟩, h.byte, h.len⟩
end
end Go.Am
