import Derived.Test.YtaieoelbpnjoiaaT23
set_option linter.unusedSimpArgs false
set_option linter.unusedVariables false
namespace Go.Am
open Go.Proofs
variable {T : Tab} {P : Program} {N L : Nat} {H : AHeap} {Q : Bool → Value → AHeap → Prop}
def jobV (C : Int) (a : Option Addr) (n cap : Nat) (w ld : Int) : Value := .agg ⟨[.int .i64 C, .slice a n cap, .int .i64 w, .int .i64 ld, .int .i64 (-1)]⟩
def legV (i : Int) (b : Bool) : Value := .agg ⟨[.int .i64 i, .bool b]⟩
theorem c83 {b₀ o₀ n cap : Nat} {C w ld : Int} (hL : L ≤ H.size) : resK (acall tabA (aexec tabA Try.prog (N + 30)) 83 [.agg ⟨[.int .i64 C, .slice (some ⟨b₀, o₀, none⟩) n cap]⟩, .agg ⟨[.int .i64 w, .int .i64 ld]⟩] H) L Q =
  Q false (jobV C (some ⟨b₀, o₀, none⟩) n cap w ld) ((((H.alloc (.rw [.int .i64 C, .slice (some ⟨b₀, o₀, none⟩) n cap] 24 false [])).alloc (.rw [.int .i64 w, .int .i64 ld] 26 false [])).alloc (.rw [.int .i64 0, .slice none 0 0, .int .i64 0, .int .i64 0, .int .i64 0] 124 false [])).put (H.size + 1 + 1) (.rw [.int .i64 C, .slice (some ⟨b₀, o₀, none⟩) n cap, .int .i64 w, .int .i64 ld, .int .i64 (-1)] 124 false [])) := by
 refine call_res (k := 8) (rs := [.cell 4 124]) rfl fn_83 rfl rfl rfl ?_ rfl hL
 simp (disch:=first|(simp only [yk,seval];done)|omega|(simp only [yz]<;>omega)|fail) only [↓yp,yq0,yq1,yq2,yq3,yq4,yl,ys0,ys1,seval,zed,zee,zfr,zhw,A_build zik]
 rfl
def takes (s : Str) (b : Bool) (ld : Int) : Int := bif b then s.mi else s.mi + s.up * ld
theorem c128 {a : Option Addr} {cap i : Nat} {l : List Str} {C w ld : Int} {b : Bool} {s : Str} (hs : Sl H a l) (hi : l[i]? = some s) (h1 : w64 (s.up * ld) = s.up * ld) (h2 : w64 (s.mi + s.up * ld) = s.mi + s.up * ld) :
  acall tabA (aexec tabA Try.prog (N + 40)) 128 [jobV C a l.length cap w ld, legV i b] H = some (true, .int .i64 (takes s b ld), H, H.size) := by
 refine call_quiet (k := 26) (rs := [.tmp 4]) rfl fn_128 rfl rfl rfl ?_ rfl
 have hlt := (List.getElem?_eq_some_iff.1 hi).1
 obtain ⟨b', o, c, rfl, hb, hc, hp⟩ := hs.get (fun h => by subst h; simp at hi)
 have hpi := hp i s hi
 simp (disch:=first|(simp only [yk,seval];done)|omega|(simp only [yz]<;>omega)|fail) only [↓yp,yq0,yq1,yq2,yq3,yq4,yl,ys0,ys1,seval,zed,zee,zfr,zhw,jobV,legV,A_indexSlice zio,hc,hpi,Str.enc]
 cases b <;> simp (disch:=first|(simp only [yk,seval];done)|omega|(simp only [yz]<;>omega)|fail) only [↓yp,yq0,yq1,yq2,yq3,yq4,yl,ys0,ys1,seval,zed,zee,zfr,zhw,h1,h2,takes]
def mayL (s : Str) (b : Bool) (w ld : Int) : Bool := (s.bk || !b) && (decide (w ≤ s.wi) && decide (ld ≤ s.be))
theorem c107 {a : Option Addr} {cap i : Nat} {l : List Str} {C w ld : Int} {b : Bool} {s : Str} (hs : Sl H a l) (hi : l[i]? = some s) :
  acall tabA (aexec tabA Try.prog (N + 40)) 107 [jobV C a l.length cap w ld, legV i b] H = some (true, .bool (mayL s b w ld), H, H.size) := by
 refine call_quiet (k := 51) (rs := [.tmp 4]) rfl fn_107 rfl rfl rfl ?_ rfl
 have hlt := (List.getElem?_eq_some_iff.1 hi).1
 obtain ⟨b', o, c, rfl, hb, hc, hp⟩ := hs.get (fun h => by subst h; simp at hi)
 have hpi := hp i s hi
 have e0 : decide ((-1 : Int) = 0) = false := by decide
 have e1 : decide ((-1 : Int) = 1) = false := by decide
 have e2 : decide ((-1 : Int) = 2) = false := by decide
 cases hbk : s.bk <;> cases b <;> cases hw : decide (w ≤ s.wi) <;> cases hd : decide (ld ≤ s.be) <;> simp (disch := (first | (simp only [ne_eq,Nat.reduceEqDiff,not_false_eq_true,Nat.reduceLT]; done) | omega | (simp only [yz] <;> omega) | fail)) only [↓yp,yq0,yq1,yq2,yq3,yq4,yl,ys0,ys1,Nat.reduceAdd,Nat.reduceMul,Nat.reduceSub,Nat.reduceBEq,Nat.reduceEqDiff,Nat.reduceLT,Nat.reduceLeDiff,reduceIte,Int.reduceAdd,Int.reduceSub,Int.reduceMul,Int.reduceLT,Int.reduceLE,Int.reduceEq,Int.reduceToNat,Int.reduceNeg,zed,zee,zfr,zhw,jobV,legV,A_indexSlice zio,hc,hpi,Str.enc,e0,e1,e2,hbk,hw,hd,mayL]
end Go.Am
namespace Go.Am
open Go.Proofs
variable {T : Tab} {P : Program} {N L : Nat} {H : AHeap} {Q : Bool → Value → AHeap → Prop}
theorem part_row {c L : List Value} {k s : Nat} (h : part c k (s + 1) = some (.agg ⟨L⟩)) : (c.drop k).take s = L ∧ L.length = s := by
 unfold part at h
 simp only at h
 cases hb : Nat.beq ((c.drop k).take s).length s
 ·rw [hb] at h; cases h
 ·rw [hb] at h
  simp only [cond_true,Option.some.injEq,Value.agg.injEq,Array.mk.injEq] at h
  exact ⟨h, by rw [← h]; exact Nat.eq_of_beq_eq_true hb⟩
theorem part_in {c L : List Value} {k s : Nat} (j z : Nat) (h : part c k (s + 1) = some (.agg ⟨L⟩)) (hj : j + z ≤ s) : part c (k + j) (z + 1) = some (.agg ⟨(L.drop j).take z⟩) := by
 obtain ⟨h1, h2⟩ := part_row h
 have e : (c.drop (k + j)).take z = (L.drop j).take z := by
  rw [← h1, ← List.drop_drop, List.drop_take, List.take_take, Nat.min_eq_left (by omega)]
 unfold part
 simp only [e]
 rw [show Nat.beq ((L.drop j).take z).length z = true from by rw [List.length_take, List.length_drop, h2, Nat.min_eq_left (by omega)]; simp]
 rfl
theorem cell_in {c L : List Value} {k s : Nat} (j : Nat) (h : part c k (s + 1) = some (.agg ⟨L⟩)) (hj : j < s) : c[k + j]? = L[j]? := by
 obtain ⟨h1, h2⟩ := part_row h
 rw [← h1, List.getElem?_take, if_pos hj, List.getElem?_drop]
def meetsL (s : Str) (b : Bool) (ld m : Int) : Bool := !decide (s.hi < s.lo) && (decide (m ≤ s.hi) && decide (s.lo < m + takes s b ld))
set_option maxHeartbeats 1000000 in
theorem c127 {a : Option Addr} {cap i : Nat} {l : List Str} {C w ld m : Int} {b : Bool} {s : Str} (hs : Sl H a l) (hi : l[i]? = some s) (h1 : w64 (s.up * ld) = s.up * ld) (h2 : w64 (s.mi + s.up * ld) = s.mi + s.up * ld) (h3 : w64 (m + takes s b ld) = m + takes s b ld) :
  acall tabA (aexec tabA Try.prog (N + 80)) 127 [jobV C a l.length cap w ld, legV i b, .int .i64 m] H = some (true, .bool (meetsL s b ld m), H, H.size) := by
 refine call_quiet (k := 40) (rs := [.tmp 6]) rfl fn_127 rfl rfl rfl ?_ rfl
 have hlt := (List.getElem?_eq_some_iff.1 hi).1
 obtain ⟨b', o, c, rfl, hb, hc, hp⟩ := hs.get (fun h => by subst h; simp at hi)
 have hpi := hp i s hi
 have hsp : part c (o + i * 9 + 7) 3 = some (.agg ⟨[.int .i64 s.lo, .int .i64 s.hi]⟩) := part_in 7 2 hpi (by omega)
 have h128 := fun (H' : AHeap) (f : Fr H H') (N : Nat) => c128 (N := N) (C := C) (w := w) (cap := cap) (b := b) (hs.fr f) hi h1 h2
 simp only [jobV,legV] at h128
 have e3 : decide ((-1 : Int) = 3) = false := by decide
 cases hlh : decide (s.hi < s.lo)
 ·cases ha : decide (m ≤ s.hi)
  ·simp (disch:=first|(simp only [yk,seval];done)|omega|(simp only [yz]<;>omega)|fail) only [↓yp,yq0,yq1,yq2,yq3,yq4,yl,ys0,ys1,seval,zed,zee,zfr,zhw,jobV,legV,A_indexSlice zio,hc,hsp,e3,hlh]
   refine W_draw [] rfl (by kernel_rfl) (by kernel_rfl) (by first|omega|(simp only [yz]<;>omega)) ?_
   simp (disch:=first|(simp only [yk,seval];done)|omega|(simp only [yz]<;>omega)|fail) only [↓yp,yq0,yq1,yq2,yq3,yq4,yl,ys0,ys1,seval,zed,zee,zfr,zhw,ha,meetsL]
  ·simp (disch:=first|(simp only [yk,seval];done)|omega|(simp only [yz]<;>omega)|fail) only [↓yp,yq0,yq1,yq2,yq3,yq4,yl,ys0,ys1,seval,zed,zee,zfr,zhw,jobV,legV,A_indexSlice zio,hc,hsp,e3,hlh]
   refine W_draw [] rfl (by kernel_rfl) (by kernel_rfl) (by first|omega|(simp only [yz]<;>omega)) ?_
   simp (disch:=first|(simp only [yk,seval];done)|omega|(simp only [yz]<;>omega)|fail) only [↓yp,yq0,yq1,yq2,yq3,yq4,yl,ys0,ys1,seval,zed,zee,zfr,zhw,ha]
   rw [h128 _ (by repeat first|exact Fr.refl _|assumption|refine Fr.allocd ?_ _|refine Fr.put ?_ (by first|omega|(simp only [yz]<;>omega)) _)]
   simp (disch:=first|(simp only [yk,seval];done)|omega|(simp only [yz]<;>omega)|fail) only [↓yp,yq0,yq1,yq2,yq3,yq4,yl,ys0,ys1,seval,zed,zee,zfr,zhw,ha,h3]
   rw [h128 _ (by repeat first|exact Fr.refl _|assumption|refine Fr.allocd ?_ _|refine Fr.put ?_ (by first|omega|(simp only [yz]<;>omega)) _)]
   simp (disch:=first|(simp only [yk,seval];done)|omega|(simp only [yz]<;>omega)|fail) only [↓yp,yq0,yq1,yq2,yq3,yq4,yl,ys0,ys1,seval,zed,zee,zfr,zhw,ha,h3,meetsL,hlh]
 ·simp (disch:=first|(simp only [yk,seval];done)|omega|(simp only [yz]<;>omega)|fail) only [↓yp,yq0,yq1,yq2,yq3,yq4,yl,ys0,ys1,seval,zed,zee,zfr,zhw,jobV,legV,A_indexSlice zio,hc,hsp,e3,hlh,meetsL]
def arriveL (s : Str) (b : Bool) (ld m : Int) : Int :=
 let st := bif meetsL s b ld m then s.hi + 1 else m
 if 240 < st + takes s b ld then -1 else st + takes s b ld
theorem c84 {a : Option Addr} {cap i : Nat} {l : List Str} {C w ld m : Int} {b : Bool} {s : Str} (hs : Sl H a l) (hi : l[i]? = some s)
  (h117 : ∀ (N : Nat) (H' : AHeap), Fr H H' → acall tabA (aexec tabA Try.prog (N + 160)) 117 [jobV C a l.length cap w ld, legV i b, .int .i64 m] H' = some (true, .int .i64 (arriveL s b ld m), H', H'.size)) :
  acall tabA (aexec tabA Try.prog (N + 200)) 84 [jobV C a l.length cap w ld, legV i b, .int .i64 m] H = some (true, .int .i64 (bif mayL s b w ld then arriveL s b ld m else -1), H, H.size) := by
 refine call_quiet (k := 15) (rs := [.tmp 6]) rfl fn_84 rfl rfl rfl ?_ rfl
 have h107 := fun (H' : AHeap) (f : Fr H H') (N : Nat) => c107 (N := N) (C := C) (w := w) (ld := ld) (cap := cap) (b := b) (hs.fr f) hi
 simp only [jobV,legV] at h107 h117
 simp (disch:=first|(simp only [yk,seval];done)|omega|(simp only [yz]<;>omega)|fail) only [↓yp,yq0,yq1,yq2,yq3,yq4,yl,ys0,ys1,seval,zed,zee,zfr,zhw,jobV,legV]
 rw [h107 _ (by repeat first|exact Fr.refl _|assumption|refine Fr.allocd ?_ _|refine Fr.put ?_ (by first|omega|(simp only [yz]<;>omega)) _)]
 simp (disch:=first|(simp only [yk,seval];done)|omega|(simp only [yz]<;>omega)|fail) only [↓yp,yq0,yq1,yq2,yq3,yq4,yl,ys0,ys1,seval,zed,zee,zfr,zhw]
 refine ⟨fun hA => ?_, fun hA => ?_⟩
 ·simp (disch:=first|(simp only [yk,seval];done)|omega|(simp only [yz]<;>omega)|fail) only [↓yp,yq0,yq1,yq2,yq3,yq4,yl,ys0,ys1,seval,zed,zee,zfr,zhw,hA]
  rw [h117 _ _ (by repeat first|exact Fr.refl _|assumption|refine Fr.allocd ?_ _|refine Fr.put ?_ (by first|omega|(simp only [yz]<;>omega)) _)]
  simp (disch:=first|(simp only [yk,seval];done)|omega|(simp only [yz]<;>omega)|fail) only [↓yp,yq0,yq1,yq2,yq3,yq4,yl,ys0,ys1,seval,zed,zee,zfr,zhw,hA]
 ·simp (disch:=first|(simp only [yk,seval];done)|omega|(simp only [yz]<;>omega)|fail) only [↓yp,yq0,yq1,yq2,yq3,yq4,yl,ys0,ys1,seval,zed,zee,zfr,zhw,hA]
set_option maxHeartbeats 1000000 in
theorem c117 {a : Option Addr} {cap i : Nat} {l : List Str} {C w ld m : Int} {b : Bool} {s : Str} (hs : Sl H a l) (hi : l[i]? = some s) (h1 : w64 (s.up * ld) = s.up * ld) (h2 : w64 (s.mi + s.up * ld) = s.mi + s.up * ld) (h3 : w64 (m + takes s b ld) = m + takes s b ld)
  (h4 : w64 (s.hi + 1) = s.hi + 1) (h5 : w64 (s.hi + 1 + takes s b ld) = s.hi + 1 + takes s b ld) (hm : m ≠ -1) :
  acall tabA (aexec tabA Try.prog (N + 160)) 117 [jobV C a l.length cap w ld, legV i b, .int .i64 m] H = some (true, .int .i64 (arriveL s b ld m), H, H.size) := by
 refine call_quiet (k := 36) (rs := [.tmp 6]) rfl fn_117 rfl rfl rfl ?_ rfl
 have hlt := (List.getElem?_eq_some_iff.1 hi).1
 obtain ⟨b', o, c, rfl, hb, hc, hp⟩ := hs.get (fun h => by subst h; simp at hi)
 have hpi := hp i s hi
 have hhi : c[o + i * 9 + 8]? = some (.int .i64 s.hi) := cell_in 8 hpi (by omega)
 have h127 := fun (H' : AHeap) (f : Fr H H') (N : Nat) => c127 (N := N) (C := C) (w := w) (cap := cap) (b := b) (hs.fr f) hi h1 h2 h3
 have h128 := fun (H' : AHeap) (f : Fr H H') (N : Nat) => c128 (N := N) (C := C) (w := w) (cap := cap) (b := b) (hs.fr f) hi h1 h2
 simp only [jobV,legV] at h127 h128
 have e4 : decide (m = -1) = false := by simpa using hm
 simp (disch:=first|(simp only [yk,seval];done)|omega|(simp only [yz]<;>omega)|fail) only [↓yp,yq0,yq1,yq2,yq3,yq4,yl,ys0,ys1,seval,zed,zee,zfr,zhw,jobV,legV,e4]
 rw [h127 _ (by repeat first|exact Fr.refl _|assumption|refine Fr.allocd ?_ _|refine Fr.put ?_ (by first|omega|(simp only [yz]<;>omega)) _)]
 simp (disch:=first|(simp only [yk,seval];done)|omega|(simp only [yz]<;>omega)|fail) only [↓yp,yq0,yq1,yq2,yq3,yq4,yl,ys0,ys1,seval,zed,zee,zfr,zhw]
 refine ⟨fun hA => ?_, fun hA => ?_⟩
 ·simp (disch:=first|(simp only [yk,seval];done)|omega|(simp only [yz]<;>omega)|fail) only [↓yp,yq0,yq1,yq2,yq3,yq4,yl,ys0,ys1,seval,zed,zee,zfr,zhw,hA,A_indexSlice zio,hc,hhi,h4]
  rw [h128 _ (by repeat first|exact Fr.refl _|assumption|refine Fr.allocd ?_ _|refine Fr.put ?_ (by first|omega|(simp only [yz]<;>omega)) _)]
  simp (disch:=first|(simp only [yk,seval];done)|omega|(simp only [yz]<;>omega)|fail) only [↓yp,yq0,yq1,yq2,yq3,yq4,yl,ys0,ys1,seval,zed,zee,zfr,zhw,hA,h4,h5]
  refine ⟨fun hB => ?_, fun hB => ?_⟩
  ·simp (disch:=first|(simp only [yk,seval];done)|omega|(simp only [yz]<;>omega)|fail) only [↓yp,yq0,yq1,yq2,yq3,yq4,yl,ys0,ys1,seval,zed,zee,zfr,zhw,arriveL,hA,of_decide_eq_true hB]
  ·simp (disch:=first|(simp only [yk,seval];done)|omega|(simp only [yz]<;>omega)|fail) only [↓yp,yq0,yq1,yq2,yq3,yq4,yl,ys0,ys1,seval,zed,zee,zfr,zhw,hA,h4,h5]
   rw [h128 _ (by repeat first|exact Fr.refl _|assumption|refine Fr.allocd ?_ _|refine Fr.put ?_ (by first|omega|(simp only [yz]<;>omega)) _)]
   simp (disch:=first|(simp only [yk,seval];done)|omega|(simp only [yz]<;>omega)|fail) only [↓yp,yq0,yq1,yq2,yq3,yq4,yl,ys0,ys1,seval,zed,zee,zfr,zhw,arriveL,hA,h5,of_decide_eq_false hB]
 ·simp (disch:=first|(simp only [yk,seval];done)|omega|(simp only [yz]<;>omega)|fail) only [↓yp,yq0,yq1,yq2,yq3,yq4,yl,ys0,ys1,seval,zed,zee,zfr,zhw,hA]
  rw [h128 _ (by repeat first|exact Fr.refl _|assumption|refine Fr.allocd ?_ _|refine Fr.put ?_ (by first|omega|(simp only [yz]<;>omega)) _)]
  simp (disch:=first|(simp only [yk,seval];done)|omega|(simp only [yz]<;>omega)|fail) only [↓yp,yq0,yq1,yq2,yq3,yq4,yl,ys0,ys1,seval,zed,zee,zfr,zhw,hA,h3]
  refine ⟨fun hB => ?_, fun hB => ?_⟩
  ·simp (disch:=first|(simp only [yk,seval];done)|omega|(simp only [yz]<;>omega)|fail) only [↓yp,yq0,yq1,yq2,yq3,yq4,yl,ys0,ys1,seval,zed,zee,zfr,zhw,arriveL,hA,of_decide_eq_true hB]
  ·simp (disch:=first|(simp only [yk,seval];done)|omega|(simp only [yz]<;>omega)|fail) only [↓yp,yq0,yq1,yq2,yq3,yq4,yl,ys0,ys1,seval,zed,zee,zfr,zhw,hA,h3]
   rw [h128 _ (by repeat first|exact Fr.refl _|assumption|refine Fr.allocd ?_ _|refine Fr.put ?_ (by first|omega|(simp only [yz]<;>omega)) _)]
   simp (disch:=first|(simp only [yk,seval];done)|omega|(simp only [yz]<;>omega)|fail) only [↓yp,yq0,yq1,yq2,yq3,yq4,yl,ys0,ys1,seval,zed,zee,zfr,zhw,arriveL,hA,h3,of_decide_eq_false hB]
end Go.Am
namespace Go.Am
open Go.Proofs
variable {T : Tab} {P : Program} {N L : Nat} {H : AHeap} {Q : Bool → Value → AHeap → Prop}
theorem meets_iff {s : Str} {b : Bool} {ld m : Int} : meetsL s b ld m = true ↔ s.lo ≤ s.hi ∧ m ≤ s.hi ∧ s.lo < m + takes s b ld := by
 unfold meetsL
 simp only [Bool.and_eq_true,Bool.not_eq_true',decide_eq_true_eq,decide_eq_false_iff_not,Int.not_lt]
theorem meets_not {s : Str} {b : Bool} {ld m : Int} : meetsL s b ld m = false ↔ ¬ (s.lo ≤ s.hi ∧ m ≤ s.hi ∧ s.lo < m + takes s b ld) := by
 rw [← meets_iff]; simp
def startsL (s : Str) (b : Bool) (ld m : Int) : Int := if 240 < m + takes s b ld then -1 else bif meetsL s b ld m then -1 else m + takes s b ld
theorem starts_late {s : Str} {b : Bool} {ld m : Int} (h : 240 < m + takes s b ld) : startsL s b ld m = -1 := if_pos h
theorem starts_meets {s : Str} {b : Bool} {ld m : Int} (h : meetsL s b ld m = true) : startsL s b ld m = -1 := by
 unfold startsL
 rw [h]; simp
theorem starts_ge {s : Str} {b : Bool} {ld m : Int} (h0 : 0 ≤ m) (ht : 1 ≤ takes s b ld) (h : startsL s b ld m ≠ -1) : 0 ≤ startsL s b ld m := by
 unfold startsL at h ⊢
 split
 ·rename_i h'; rw [if_pos h'] at h; exact absurd rfl h
 ·rename_i h'
  rw [if_neg h'] at h
  cases hm : meetsL s b ld m
  ·simp only [cond_false]; omega
  ·rw [hm] at h; exact absurd rfl h
structure Fit (s : Str) (ld : Int) : Prop where
 mi : 1 ≤ s.mi ∧ s.mi ≤ 30
 ul : 0 ≤ s.up * ld ∧ s.up * ld ≤ 27
 lo : 0 ≤ s.lo ∧ s.lo ≤ 239
 hi : 0 ≤ s.hi ∧ s.hi ≤ 239
theorem Fit.takes {s : Str} {ld : Int} (h : Fit s ld) (b : Bool) : 1 ≤ takes s b ld ∧ takes s b ld ≤ 57 := by
 have h1 := h.mi
 have h2 := h.ul
 unfold Am.takes
 cases b <;> simp <;> omega
end Go.Am
