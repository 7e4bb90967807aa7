/- Carts, and what passes a street. -/
import Derived.Test.YtdjklljbninmgaaT23
set_option linter.unusedSimpArgs false
set_option linter.unusedVariables false
namespace Go.Am
open Go.Proofs
variable {T : Tab} {P : Program} {N L : Nat} {H : AHeap} {Q : Bool → Value → AHeap → Prop}

theorem c27 {w ld : Int} : acall tabA (aexec tabA Try.prog (N + 30)) 27 [.agg ⟨[.int .i64 w, .int .i64 ld]⟩] H = some (true, .agg ⟨[.int .i64 w, .int .i64 ld]⟩, H, H.size) := by
  refine call_quiet (k := 4) (rs := [.cell 2 50]) rfl fn_27 rfl rfl rfl ?_ rfl
  simp (disch := (first | (simp only [yk,seval]; done) | omega | (simp only [yz] <;> omega) | fail)) only [↓yp,yq0,yq1,yq2,yq3,yq4,yl,ys0,ys1,seval,zed,zee,zfr,zhw]
/-- A town at work, as begin lays it. -/
def jobV (C : Int) (a : Option Addr) (n cap : Nat) (w ld : Int) : Value := .agg ⟨[.int .i64 C, .slice a n cap, .int .i64 w, .int .i64 ld, .int .i64 (-1)]⟩
def legV (i : Int) (b : Bool) : Value := .agg ⟨[.int .i64 i, .bool b]⟩
def takes (s : Str) (b : Bool) (ld : Int) : Int := bif b then s.mi else s.mi + s.up * ld
theorem c128 {a : Option Addr} {cap i : Nat} {l : List Str} {C w ld : Int} {b : Bool} {s : Str} (hs : Sl H a l) (hi : l[i]? = some s) (h1 : w64 (s.up * ld) = s.up * ld) (h2 : w64 (s.mi + s.up * ld) = s.mi + s.up * ld) :
    acall tabA (aexec tabA Try.prog (N + 40)) 128 [jobV C a l.length cap w ld, legV i b] H = some (true, .int .i64 (takes s b ld), H, H.size) := by
  refine call_quiet (k := 26) (rs := [.tmp 4]) rfl fn_128 rfl rfl rfl ?_ rfl
  have hlt := (List.getElem?_eq_some_iff.1 hi).1
  obtain ⟨b', o, c, rfl, hb, hc, hp⟩ := hs.get (fun h => by subst h; simp at hi)
  have hpi := hp i s hi
  simp (disch := (first | (simp only [yk,seval]; done) | omega | (simp only [yz] <;> omega) | fail)) only [↓yp,yq0,yq1,yq2,yq3,yq4,yl,ys0,ys1,seval,zed,zee,zfr,zhw,jobV,legV,A_indexSlice zio,hc,hpi,Str.enc]
  cases b <;> simp (disch := (first | (simp only [yk,seval]; done) | omega | (simp only [yz] <;> omega) | fail)) only [↓yp,yq0,yq1,yq2,yq3,yq4,yl,ys0,ys1,seval,zed,zee,zfr,zhw,h1,h2,takes]
def mayL (s : Str) (b : Bool) (w ld : Int) : Bool := (s.bk || !b) && (decide (w ≤ s.wi) && decide (ld ≤ s.be))
theorem c107 {a : Option Addr} {cap i : Nat} {l : List Str} {C w ld : Int} {b : Bool} {s : Str} (hs : Sl H a l) (hi : l[i]? = some s) :
    acall tabA (aexec tabA Try.prog (N + 40)) 107 [jobV C a l.length cap w ld, legV i b] H = some (true, .bool (mayL s b w ld), H, H.size) := by
  refine call_quiet (k := 51) (rs := [.tmp 4]) rfl fn_107 rfl rfl rfl ?_ rfl
  have hlt := (List.getElem?_eq_some_iff.1 hi).1
  obtain ⟨b', o, c, rfl, hb, hc, hp⟩ := hs.get (fun h => by subst h; simp at hi)
  have hpi := hp i s hi
  have e0 : decide ((-1 : Int) = 0) = false := by decide
  have e1 : decide ((-1 : Int) = 1) = false := by decide
  have e2 : decide ((-1 : Int) = 2) = false := by decide
  cases hbk : s.bk <;> cases b <;> cases hw : decide (w ≤ s.wi) <;> cases hd : decide (ld ≤ s.be) <;> simp (disch := (first | (simp only [ne_eq,Nat.reduceEqDiff,not_false_eq_true,Nat.reduceLT]; done) | omega | (simp only [yz] <;> omega) | fail)) only [↓yp,yq0,yq1,yq2,yq3,yq4,yl,ys0,ys1,Nat.reduceAdd,Nat.reduceMul,Nat.reduceSub,Nat.reduceBEq,Nat.reduceEqDiff,Nat.reduceLT,Nat.reduceLeDiff,reduceIte,Int.reduceAdd,Int.reduceSub,Int.reduceMul,Int.reduceLT,Int.reduceLE,Int.reduceEq,Int.reduceToNat,Int.reduceNeg,zed,zee,zfr,zhw,jobV,legV,A_indexSlice zio,hc,hpi,Str.enc,e0,e1,e2,hbk,hw,hd,mayL]
theorem c29 {a : Option Addr} {cap i : Nat} {l : List Str} {C w ld : Int} {b : Bool} {s : Str} (hs : Sl H a l) (hi : l[i]? = some s) :
    acall tabA (aexec tabA Try.prog (N + 40)) 29 [.agg ⟨[.int .i64 C, .slice a l.length cap]⟩, .agg ⟨[.int .i64 w, .int .i64 ld]⟩, legV i b, .int .i64 (-1)] H = some (true, .bool (mayL s b w ld), H, H.size) := by
  refine call_quiet (k := 45) (rs := [.tmp 8]) rfl fn_29 rfl rfl rfl ?_ rfl
  have hlt := (List.getElem?_eq_some_iff.1 hi).1
  obtain ⟨b', o, c, rfl, hb, hc, hp⟩ := hs.get (fun h => by subst h; simp at hi)
  have hpi := hp i s hi
  have e0 : decide ((-1 : Int) = 0) = false := by decide
  have e1 : decide ((-1 : Int) = 1) = false := by decide
  have e2 : decide ((-1 : Int) = 2) = false := by decide
  have ew : decide (w ≤ s.wi) = !decide (s.wi < w) := by rw [Bool.eq_iff_iff]; simp
  cases hbk : s.bk <;> cases b <;> cases hw : decide (s.wi < w) <;> cases hd : decide (ld ≤ s.be) <;> simp (disch := (first | (simp only [yk,seval]; done) | omega | (simp only [yz] <;> omega) | fail)) only [↓yp,yq0,yq1,yq2,yq3,yq4,yl,ys0,ys1,seval,zed,zee,zfr,zhw,legV,A_indexSlice ziq,hc,hpi,Str.enc,e0,e1,e2,hbk,hw,hd,mayL,ew]
end Go.Am
/- How early a cart is behind a leg. -/
namespace Go.Am
open Go.Proofs
variable {T : Tab} {P : Program} {N L : Nat} {H : AHeap} {Q : Bool → Value → AHeap → Prop}

theorem part_row {c L : List Value} {k s : Nat} (h : part c k (s + 1) = some (.agg ⟨L⟩)) : (c.drop k).take s = L ∧ L.length = s := by
  unfold part at h
  simp only at h
  cases hb : Nat.beq ((c.drop k).take s).length s
  · rw [hb] at h; cases h
  · rw [hb] at h
    simp only [cond_true,Option.some.injEq,Value.agg.injEq,Array.mk.injEq] at h
    exact ⟨h, by rw [← h]; exact Nat.eq_of_beq_eq_true hb⟩
theorem part_in {c L : List Value} {k s : Nat} (j z : Nat) (h : part c k (s + 1) = some (.agg ⟨L⟩)) (hj : j + z ≤ s) : part c (k + j) (z + 1) = some (.agg ⟨(L.drop j).take z⟩) := by
  obtain ⟨h1, h2⟩ := part_row h
  have e : (c.drop (k + j)).take z = (L.drop j).take z := by
    rw [← h1, ← List.drop_drop, List.drop_take, List.take_take, Nat.min_eq_left (by omega)]
  unfold part
  simp only [e]
  rw [show Nat.beq ((L.drop j).take z).length z = true from by rw [List.length_take, List.length_drop, h2, Nat.min_eq_left (by omega)]; simp]
  rfl
theorem cell_in {c L : List Value} {k s : Nat} (j : Nat) (h : part c k (s + 1) = some (.agg ⟨L⟩)) (hj : j < s) : c[k + j]? = L[j]? := by
  obtain ⟨h1, h2⟩ := part_row h
  rw [← h1, List.getElem?_take, if_pos hj, List.getElem?_drop]
def meetsL (s : Str) (b : Bool) (ld m : Int) : Bool := !decide (s.hi < s.lo) && (decide (m ≤ s.hi) && decide (s.lo < m + takes s b ld))
set_option maxHeartbeats 1000000 in
theorem c127 {a : Option Addr} {cap i : Nat} {l : List Str} {C w ld m : Int} {b : Bool} {s : Str} (hs : Sl H a l) (hi : l[i]? = some s) (h1 : w64 (s.up * ld) = s.up * ld) (h2 : w64 (s.mi + s.up * ld) = s.mi + s.up * ld) (h3 : w64 (m + takes s b ld) = m + takes s b ld) :
    acall tabA (aexec tabA Try.prog (N + 80)) 127 [jobV C a l.length cap w ld, legV i b, .int .i64 m] H = some (true, .bool (meetsL s b ld m), H, H.size) := by
  refine call_quiet (k := 40) (rs := [.tmp 6]) rfl fn_127 rfl rfl rfl ?_ rfl
  have hlt := (List.getElem?_eq_some_iff.1 hi).1
  obtain ⟨b', o, c, rfl, hb, hc, hp⟩ := hs.get (fun h => by subst h; simp at hi)
  have hpi := hp i s hi
  have hsp : part c (o + i * 9 + 7) 3 = some (.agg ⟨[.int .i64 s.lo, .int .i64 s.hi]⟩) := part_in 7 2 hpi (by omega)
  have h128 := fun (H' : AHeap) (f : Fr H H') (N : Nat) => c128 (N := N) (C := C) (w := w) (cap := cap) (b := b) (hs.fr f) hi h1 h2
  simp only [jobV,legV] at h128
  have e3 : decide ((-1 : Int) = 3) = false := by decide
  cases hlh : decide (s.hi < s.lo)
  · cases ha : decide (m ≤ s.hi)
    · simp (disch := (first | (simp only [yk,seval]; done) | omega | (simp only [yz] <;> omega) | fail)) only [↓yp,yq0,yq1,yq2,yq3,yq4,yl,ys0,ys1,seval,zed,zee,zfr,zhw,jobV,legV,A_indexSlice zio,hc,hsp,e3,hlh]
      refine W_draw [] rfl (by kernel_rfl) (by kernel_rfl) (by (first | omega | (simp only [yz] <;> omega))) ?_
      simp (disch := (first | (simp only [yk,seval]; done) | omega | (simp only [yz] <;> omega) | fail)) only [↓yp,yq0,yq1,yq2,yq3,yq4,yl,ys0,ys1,seval,zed,zee,zfr,zhw,ha,meetsL]
    · simp (disch := (first | (simp only [yk,seval]; done) | omega | (simp only [yz] <;> omega) | fail)) only [↓yp,yq0,yq1,yq2,yq3,yq4,yl,ys0,ys1,seval,zed,zee,zfr,zhw,jobV,legV,A_indexSlice zio,hc,hsp,e3,hlh]
      refine W_draw [] rfl (by kernel_rfl) (by kernel_rfl) (by (first | omega | (simp only [yz] <;> omega))) ?_
      simp (disch := (first | (simp only [yk,seval]; done) | omega | (simp only [yz] <;> omega) | fail)) only [↓yp,yq0,yq1,yq2,yq3,yq4,yl,ys0,ys1,seval,zed,zee,zfr,zhw,ha]
      rw [h128 _ (by (repeat (first | exact Fr.refl _ | assumption | refine Fr.allocd ?_ _ | refine Fr.kill ?_ (by first | assumption | omega) | refine Fr.put ?_ (by first | omega | (simp only [yz] <;> omega)) _)))]
      simp (disch := (first | (simp only [yk,seval]; done) | omega | (simp only [yz] <;> omega) | fail)) only [↓yp,yq0,yq1,yq2,yq3,yq4,yl,ys0,ys1,seval,zed,zee,zfr,zhw,ha,h3]
      rw [h128 _ (by (repeat (first | exact Fr.refl _ | assumption | refine Fr.allocd ?_ _ | refine Fr.kill ?_ (by first | assumption | omega) | refine Fr.put ?_ (by first | omega | (simp only [yz] <;> omega)) _)))]
      simp (disch := (first | (simp only [yk,seval]; done) | omega | (simp only [yz] <;> omega) | fail)) only [↓yp,yq0,yq1,yq2,yq3,yq4,yl,ys0,ys1,seval,zed,zee,zfr,zhw,ha,h3,meetsL,hlh]
  · simp (disch := (first | (simp only [yk,seval]; done) | omega | (simp only [yz] <;> omega) | fail)) only [↓yp,yq0,yq1,yq2,yq3,yq4,yl,ys0,ys1,seval,zed,zee,zfr,zhw,jobV,legV,A_indexSlice zio,hc,hsp,e3,hlh,meetsL]
/-- None is -1. -/
def arriveL (s : Str) (b : Bool) (ld m : Int) : Int :=
  let st := bif meetsL s b ld m then s.hi + 1 else m
  if 240 < st + takes s b ld then -1 else st + takes s b ld
theorem c84 {a : Option Addr} {cap i : Nat} {l : List Str} {C w ld m : Int} {b : Bool} {s : Str} (hs : Sl H a l) (hi : l[i]? = some s)
    (h117 : ∀ (N : Nat) (H' : AHeap), Fr H H' → acall tabA (aexec tabA Try.prog (N + 160)) 117 [jobV C a l.length cap w ld, legV i b, .int .i64 m] H' = some (true, .int .i64 (arriveL s b ld m), H', H'.size)) :
    acall tabA (aexec tabA Try.prog (N + 200)) 84 [jobV C a l.length cap w ld, legV i b, .int .i64 m] H = some (true, .int .i64 (bif mayL s b w ld then arriveL s b ld m else -1), H, H.size) := by
  refine call_quiet (k := 15) (rs := [.tmp 6]) rfl fn_84 rfl rfl rfl ?_ rfl
  have h107 := fun (H' : AHeap) (f : Fr H H') (N : Nat) => c107 (N := N) (C := C) (w := w) (ld := ld) (cap := cap) (b := b) (hs.fr f) hi
  simp only [jobV,legV] at h107 h117
  simp (disch := (first | (simp only [yk,seval]; done) | omega | (simp only [yz] <;> omega) | fail)) only [↓yp,yq0,yq1,yq2,yq3,yq4,yl,ys0,ys1,seval,zed,zee,zfr,zhw,jobV,legV]
  rw [h107 _ (by (repeat (first | exact Fr.refl _ | assumption | refine Fr.allocd ?_ _ | refine Fr.kill ?_ (by first | assumption | omega) | refine Fr.put ?_ (by first | omega | (simp only [yz] <;> omega)) _)))]
  simp (disch := (first | (simp only [yk,seval]; done) | omega | (simp only [yz] <;> omega) | fail)) only [↓yp,yq0,yq1,yq2,yq3,yq4,yl,ys0,ys1,seval,zed,zee,zfr,zhw]
  refine ⟨fun hA => ?_, fun hA => ?_⟩
  · simp (disch := (first | (simp only [yk,seval]; done) | omega | (simp only [yz] <;> omega) | fail)) only [↓yp,yq0,yq1,yq2,yq3,yq4,yl,ys0,ys1,seval,zed,zee,zfr,zhw,hA]
    rw [h117 _ _ (by (repeat (first | exact Fr.refl _ | assumption | refine Fr.allocd ?_ _ | refine Fr.kill ?_ (by first | assumption | omega) | refine Fr.put ?_ (by first | omega | (simp only [yz] <;> omega)) _)))]
    simp (disch := (first | (simp only [yk,seval]; done) | omega | (simp only [yz] <;> omega) | fail)) only [↓yp,yq0,yq1,yq2,yq3,yq4,yl,ys0,ys1,seval,zed,zee,zfr,zhw,hA]
  · simp (disch := (first | (simp only [yk,seval]; done) | omega | (simp only [yz] <;> omega) | fail)) only [↓yp,yq0,yq1,yq2,yq3,yq4,yl,ys0,ys1,seval,zed,zee,zfr,zhw,hA]
set_option maxHeartbeats 1000000 in
theorem c117 {a : Option Addr} {cap i : Nat} {l : List Str} {C w ld m : Int} {b : Bool} {s : Str} (hs : Sl H a l) (hi : l[i]? = some s) (h1 : w64 (s.up * ld) = s.up * ld) (h2 : w64 (s.mi + s.up * ld) = s.mi + s.up * ld) (h3 : w64 (m + takes s b ld) = m + takes s b ld)
    (h4 : w64 (s.hi + 1) = s.hi + 1) (h5 : w64 (s.hi + 1 + takes s b ld) = s.hi + 1 + takes s b ld) (hm : m ≠ -1) :
    acall tabA (aexec tabA Try.prog (N + 160)) 117 [jobV C a l.length cap w ld, legV i b, .int .i64 m] H = some (true, .int .i64 (arriveL s b ld m), H, H.size) := by
  refine call_quiet (k := 36) (rs := [.tmp 6]) rfl fn_117 rfl rfl rfl ?_ rfl
  have hlt := (List.getElem?_eq_some_iff.1 hi).1
  obtain ⟨b', o, c, rfl, hb, hc, hp⟩ := hs.get (fun h => by subst h; simp at hi)
  have hpi := hp i s hi
  have hhi : c[o + i * 9 + 8]? = some (.int .i64 s.hi) := cell_in 8 hpi (by omega)
  have h127 := fun (H' : AHeap) (f : Fr H H') (N : Nat) => c127 (N := N) (C := C) (w := w) (cap := cap) (b := b) (hs.fr f) hi h1 h2 h3
  have h128 := fun (H' : AHeap) (f : Fr H H') (N : Nat) => c128 (N := N) (C := C) (w := w) (cap := cap) (b := b) (hs.fr f) hi h1 h2
  simp only [jobV,legV] at h127 h128
  have e4 : decide (m = -1) = false := by simpa using hm
  simp (disch := (first | (simp only [yk,seval]; done) | omega | (simp only [yz] <;> omega) | fail)) only [↓yp,yq0,yq1,yq2,yq3,yq4,yl,ys0,ys1,seval,zed,zee,zfr,zhw,jobV,legV,e4]
  rw [h127 _ (by (repeat (first | exact Fr.refl _ | assumption | refine Fr.allocd ?_ _ | refine Fr.kill ?_ (by first | assumption | omega) | refine Fr.put ?_ (by first | omega | (simp only [yz] <;> omega)) _)))]
  simp (disch := (first | (simp only [yk,seval]; done) | omega | (simp only [yz] <;> omega) | fail)) only [↓yp,yq0,yq1,yq2,yq3,yq4,yl,ys0,ys1,seval,zed,zee,zfr,zhw]
  refine ⟨fun hA => ?_, fun hA => ?_⟩
  · simp (disch := (first | (simp only [yk,seval]; done) | omega | (simp only [yz] <;> omega) | fail)) only [↓yp,yq0,yq1,yq2,yq3,yq4,yl,ys0,ys1,seval,zed,zee,zfr,zhw,hA,A_indexSlice zio,hc,hhi,h4]
    rw [h128 _ (by (repeat (first | exact Fr.refl _ | assumption | refine Fr.allocd ?_ _ | refine Fr.kill ?_ (by first | assumption | omega) | refine Fr.put ?_ (by first | omega | (simp only [yz] <;> omega)) _)))]
    simp (disch := (first | (simp only [yk,seval]; done) | omega | (simp only [yz] <;> omega) | fail)) only [↓yp,yq0,yq1,yq2,yq3,yq4,yl,ys0,ys1,seval,zed,zee,zfr,zhw,hA,h4,h5]
    refine ⟨fun hB => ?_, fun hB => ?_⟩
    · simp (disch := (first | (simp only [yk,seval]; done) | omega | (simp only [yz] <;> omega) | fail)) only [↓yp,yq0,yq1,yq2,yq3,yq4,yl,ys0,ys1,seval,zed,zee,zfr,zhw,arriveL,hA,of_decide_eq_true hB]
    · simp (disch := (first | (simp only [yk,seval]; done) | omega | (simp only [yz] <;> omega) | fail)) only [↓yp,yq0,yq1,yq2,yq3,yq4,yl,ys0,ys1,seval,zed,zee,zfr,zhw,hA,h4,h5]
      rw [h128 _ (by (repeat (first | exact Fr.refl _ | assumption | refine Fr.allocd ?_ _ | refine Fr.kill ?_ (by first | assumption | omega) | refine Fr.put ?_ (by first | omega | (simp only [yz] <;> omega)) _)))]
      simp (disch := (first | (simp only [yk,seval]; done) | omega | (simp only [yz] <;> omega) | fail)) only [↓yp,yq0,yq1,yq2,yq3,yq4,yl,ys0,ys1,seval,zed,zee,zfr,zhw,arriveL,hA,h5,of_decide_eq_false hB]
  · simp (disch := (first | (simp only [yk,seval]; done) | omega | (simp only [yz] <;> omega) | fail)) only [↓yp,yq0,yq1,yq2,yq3,yq4,yl,ys0,ys1,seval,zed,zee,zfr,zhw,hA]
    rw [h128 _ (by (repeat (first | exact Fr.refl _ | assumption | refine Fr.allocd ?_ _ | refine Fr.kill ?_ (by first | assumption | omega) | refine Fr.put ?_ (by first | omega | (simp only [yz] <;> omega)) _)))]
    simp (disch := (first | (simp only [yk,seval]; done) | omega | (simp only [yz] <;> omega) | fail)) only [↓yp,yq0,yq1,yq2,yq3,yq4,yl,ys0,ys1,seval,zed,zee,zfr,zhw,hA,h3]
    refine ⟨fun hB => ?_, fun hB => ?_⟩
    · simp (disch := (first | (simp only [yk,seval]; done) | omega | (simp only [yz] <;> omega) | fail)) only [↓yp,yq0,yq1,yq2,yq3,yq4,yl,ys0,ys1,seval,zed,zee,zfr,zhw,arriveL,hA,of_decide_eq_true hB]
    · simp (disch := (first | (simp only [yk,seval]; done) | omega | (simp only [yz] <;> omega) | fail)) only [↓yp,yq0,yq1,yq2,yq3,yq4,yl,ys0,ys1,seval,zed,zee,zfr,zhw,hA,h3]
      rw [h128 _ (by (repeat (first | exact Fr.refl _ | assumption | refine Fr.allocd ?_ _ | refine Fr.kill ?_ (by first | assumption | omega) | refine Fr.put ?_ (by first | omega | (simp only [yz] <;> omega)) _)))]
      simp (disch := (first | (simp only [yk,seval]; done) | omega | (simp only [yz] <;> omega) | fail)) only [↓yp,yq0,yq1,yq2,yq3,yq4,yl,ys0,ys1,seval,zed,zee,zfr,zhw,arriveL,hA,h3,of_decide_eq_false hB]
end Go.Am
/- When the reference starts. -/
namespace Go.Am
open Go.Proofs
variable {T : Tab} {P : Program} {N L : Nat} {H : AHeap} {Q : Bool → Value → AHeap → Prop}

theorem meets_iff {s : Str} {b : Bool} {ld m : Int} : meetsL s b ld m = true ↔ s.lo ≤ s.hi ∧ m ≤ s.hi ∧ s.lo < m + takes s b ld := by
  unfold meetsL
  simp only [Bool.and_eq_true,Bool.not_eq_true',decide_eq_true_eq,decide_eq_false_iff_not,Int.not_lt]
theorem meets_not {s : Str} {b : Bool} {ld m : Int} : meetsL s b ld m = false ↔ ¬ (s.lo ≤ s.hi ∧ m ≤ s.hi ∧ s.lo < m + takes s b ld) := by
  rw [← meets_iff]; simp
/-- The minute behind a leg that starts at just this minute; -1 if it cannot. -/
def startsL (s : Str) (b : Bool) (ld m : Int) : Int := if 240 < m + takes s b ld then -1 else bif meetsL s b ld m then -1 else m + takes s b ld
theorem starts_late {s : Str} {b : Bool} {ld m : Int} (h : 240 < m + takes s b ld) : startsL s b ld m = -1 := if_pos h
theorem starts_meets {s : Str} {b : Bool} {ld m : Int} (h : meetsL s b ld m = true) : startsL s b ld m = -1 := by
  unfold startsL
  rw [h]; simp
theorem starts_none {s : Str} {b : Bool} {ld m : Int} (h : startsL s b ld m = -1) (h0 : 0 ≤ m) (ht : 1 ≤ takes s b ld) (hm : meetsL s b ld m = false) : 240 < m + takes s b ld := by
  unfold startsL at h
  rw [hm] at h
  split at h
  · assumption
  · simp at h; omega
theorem starts_arrive {s : Str} {b : Bool} {ld a i : Int} (h0 : 0 ≤ a) (ht : 1 ≤ takes s b ld) (hai : a ≤ i) (hp : ∀ j, a ≤ j → j < i → startsL s b ld j = -1) (hi : startsL s b ld i ≠ -1) : startsL s b ld i = arriveL s b ld a := by
  have hl : ¬ 240 < i + takes s b ld := fun h => hi (starts_late h)
  have hm : meetsL s b ld i = false := by
    cases h : meetsL s b ld i with
    | false => rfl
    | true => exact absurd (starts_meets h) hi
  have e : startsL s b ld i = i + takes s b ld := by
    unfold startsL
    rw [if_neg hl, hm]; rfl
  unfold arriveL
  cases ha : meetsL s b ld a
  · by_cases hlt : a < i
    · have := starts_none (hp a (Int.le_refl _) hlt) h0 ht ha
      omega
    · have : i = a := by omega
      subst this
      rw [e]
      simp only [cond_false]
      rw [if_neg hl]
  · have h1 := meets_iff.1 ha
    have h2 := meets_not.1 hm
    have h3 : s.hi < i := by omega
    by_cases hlt : s.hi + 1 < i
    · have h4 : meetsL s b ld (s.hi + 1) = false := meets_not.2 (by omega)
      have := starts_none (hp (s.hi + 1) (by omega) hlt) (by omega) ht h4
      omega
    · have : i = s.hi + 1 := by omega
      rw [e, this]
      simp only [cond_true]
      rw [if_neg (by omega)]
theorem starts_never {s : Str} {b : Bool} {ld a : Int} (h0 : 0 ≤ a) (ha240 : a ≤ 240) (hhi : s.hi ≤ 239) (ht : 1 ≤ takes s b ld) (hp : ∀ j, a ≤ j → j < 241 → startsL s b ld j = -1) : arriveL s b ld a = -1 := by
  unfold arriveL
  cases ha : meetsL s b ld a
  · have := starts_none (hp a (Int.le_refl _) (by omega)) h0 ht ha
    simp only [cond_false]
    rw [if_pos this]
  · have h1 := meets_iff.1 ha
    have h4 : meetsL s b ld (s.hi + 1) = false := meets_not.2 (by omega)
    have := starts_none (hp (s.hi + 1) (by omega) (by omega)) (by omega) ht h4
    simp only [cond_true]
    rw [if_pos this]
theorem starts_ge {s : Str} {b : Bool} {ld m : Int} (h0 : 0 ≤ m) (ht : 1 ≤ takes s b ld) (h : startsL s b ld m ≠ -1) : 0 ≤ startsL s b ld m := by
  unfold startsL at h ⊢
  split
  · rename_i h'; rw [if_pos h'] at h; exact absurd rfl h
  · rename_i h'
    rw [if_neg h'] at h
    cases hm : meetsL s b ld m
    · simp only [cond_false]; omega
    · rw [hm] at h; exact absurd rfl h
/-- A street's numbers, with a load, are within their limits. -/
structure Fit (s : Str) (ld : Int) : Prop where
  mi : 1 ≤ s.mi ∧ s.mi ≤ 30
  ul : 0 ≤ s.up * ld ∧ s.up * ld ≤ 27
  lo : 0 ≤ s.lo ∧ s.lo ≤ 239
  hi : 0 ≤ s.hi ∧ s.hi ≤ 239
theorem Fit.takes {s : Str} {ld : Int} (h : Fit s ld) (b : Bool) : 1 ≤ takes s b ld ∧ takes s b ld ≤ 57 := by
  have h1 := h.mi
  have h2 := h.ul
  unfold Am.takes
  cases b <;> simp <;> omega
set_option maxHeartbeats 1000000 in
theorem c85 {a : Option Addr} {cap i : Nat} {l : List Str} {C w ld m : Int} {b : Bool} {s : Str} (hs : Sl H a l) (hi : l[i]? = some s) (hf : Fit s ld) (h0 : 0 ≤ m) (h1 : m ≤ 241) :
    acall tabA (aexec tabA Try.prog (N + 200)) 85 [.agg ⟨[.int .i64 C, .slice a l.length cap]⟩, .agg ⟨[.int .i64 w, .int .i64 ld]⟩, legV i b, .int .i64 m, .int .i64 (-1)] H = some (true, .int .i64 (startsL s b ld m), H, H.size) := by
  refine call_quiet (k := 64) (rs := [.tmp 10]) rfl fn_85 rfl rfl rfl ?_ rfl
  have hlt := (List.getElem?_eq_some_iff.1 hi).1
  obtain ⟨b', o, c, rfl, hb, hc, hp⟩ := hs.get (fun h => by subst h; simp at hi)
  have hpi := hp i s hi
  have k1 := hf.mi
  have k2 := hf.ul
  have e3 : decide ((-1 : Int) = 3) = false := by decide
  have w1 : w64 (s.up * ld) = s.up * ld := w64_of (by omega)
  have w2 : w64 (s.mi + s.up * ld) = s.mi + s.up * ld := w64_of (by omega)
  have ht := hf.takes b
  have w3 : w64 (m + takes s b ld) = m + takes s b ld := w64_of (by omega)
  have key : ∀ t, takes s b ld = t → (∀ k, 0 ≤ k → k < t → ¬ (s.lo ≤ m + k ∧ m + k ≤ s.hi)) → meetsL s b ld m = false := by
    intro t htt hk
    rw [meets_not, htt]
    rintro ⟨q1, q2, q3⟩
    by_cases hlm : s.lo ≤ m
    · exact hk 0 (by omega) (by omega) (by omega)
    · exact hk (s.lo - m) (by omega) (by omega) (by omega)
  cases b
  simp (disch := (first | (simp only [yk,seval]; done) | omega | (simp only [yz] <;> omega) | fail)) only [↓yp,yq0,yq1,yq2,yq3,yq4,yl,ys0,ys1,seval,zed,zee,zfr,zhw,legV,A_indexSlice ziq,hc,hpi,Str.enc,w1,w2]
  obtain ⟨t, htt⟩ : ∃ t, takes s false ld = t := ⟨_, rfl⟩
  rw [show s.mi + s.up * ld = t from htt]
  rotate_left
  simp (disch := (first | (simp only [yk,seval]; done) | omega | (simp only [yz] <;> omega) | fail)) only [↓yp,yq0,yq1,yq2,yq3,yq4,yl,ys0,ys1,seval,zed,zee,zfr,zhw,legV,A_indexSlice ziq,hc,hpi,Str.enc,w1,w2]
  obtain ⟨t, htt⟩ : ∃ t, takes s true ld = t := ⟨_, rfl⟩
  rw [show s.mi = t from htt]
  all_goals
    rw [htt] at ht w3
    simp only [w3]
    refine ⟨fun hA => ?_, fun hA => ?_⟩
    · have : 240 < m + t := by simpa using hA
      simp (disch := (first | (simp only [yk,seval]; done) | omega | (simp only [yz] <;> omega) | fail)) only [↓yp,yq0,yq1,yq2,yq3,yq4,yl,ys0,ys1,seval,zed,zee,zfr,zhw]
      rw [starts_late (by rw [htt]; exact this)]
    have hA' : ¬ 240 < m + t := by simpa using hA
    simp (disch := (first | (simp only [yk,seval]; done) | omega | (simp only [yz] <;> omega) | fail)) only [↓yp,yq0,yq1,yq2,yq3,yq4,yl,ys0,ys1,seval,zed,zee,zfr,zhw]
    refine W_while (n := 64) 80 (fun k e H' => ∃ i : Nat, k = 57 - i ∧ (i : Int) ≤ t ∧ gt 64 e 13 = .int .i64 (i : Nat) ∧ gt 64 e 12 = .int .i64 t ∧ gt 64 e 11 = .pointer (some ⟨H.size + 3, 0, none⟩) ∧ gt 64 e 4 = .int .i64 (-1) ∧ gt 64 e 3 = .int .i64 m ∧ Fr H H' ∧ H'.get (H.size + 3) = .rw s.enc 46 false [] ∧ ∀ k : Int, 0 ≤ k → k < i → ¬ (s.lo ≤ m + k ∧ m + k ≤ s.hi))
      ?_ 57 57 ⟨0, by omega, by omega, by simp (disch := (first | (simp only [yk,seval]; done) | omega | (simp only [yz] <;> omega) | fail)) only [yg,Nat.reduceAdd,Nat.reduceEqDiff,Nat.reduceLT]; rfl, by simp (disch := (first | (simp only [yk,seval]; done) | omega | (simp only [yz] <;> omega) | fail)) only [yg,Nat.reduceAdd,Nat.reduceEqDiff,Nat.reduceLT], by simp (disch := (first | (simp only [yk,seval]; done) | omega | (simp only [yz] <;> omega) | fail)) only [yg,Nat.reduceAdd,Nat.reduceEqDiff,Nat.reduceLT], by simp (disch := (first | (simp only [yk,seval]; done) | omega | (simp only [yz] <;> omega) | fail)) only [yg,Nat.reduceAdd,Nat.reduceEqDiff,Nat.reduceLT], by simp (disch := (first | (simp only [yk,seval]; done) | omega | (simp only [yz] <;> omega) | fail)) only [yg,Nat.reduceAdd,Nat.reduceEqDiff,Nat.reduceLT], by (repeat (first | exact Fr.refl _ | assumption | refine Fr.allocd ?_ _ | refine Fr.kill ?_ (by first | assumption | omega) | refine Fr.put ?_ (by first | omega | (simp only [yz] <;> omega)) _)), by simp (disch := (first | (simp only [yk,seval]; done) | omega | (simp only [yz] <;> omega) | fail)) only [yg,Nat.reduceAdd,Nat.reduceEqDiff,Nat.reduceLT,Str.enc] <;> rw [show s.mi = t from htt], fun k hk hk' => by omega⟩ (by omega) (by omega)
    rintro M k e H' ⟨j, rfl, hj, g13, g12, g11, g4, g3, fr, gb, hno⟩
    have f0 := fr.size
    simp (disch := (first | (simp only [yk,seval]; done) | omega | (simp only [yz] <;> omega) | fail)) only [↓yp,yq0,yq1,yq2,yq3,yq4,yl,ys0,ys1,seval,zed,zee,zfr,zhw,g13,g12]
    refine ⟨fun hB => ?_, fun hB => ?_⟩
    · have hB' : (j : Int) < t := by simpa using hB
      have hw1 : w64 (m + (j : Int)) = m + j := w64_of (by omega)
      have hw2 : w64 ((j : Int) + 1) = ((j + 1 : Nat) : Int) := by rw [w64_of (by omega)]; omega
      simp (disch := (first | (simp only [yk,seval]; done) | omega | (simp only [yz] <;> omega) | fail)) only [↓yp,yq0,yq1,yq2,yq3,yq4,yl,ys0,ys1,seval,zed,zee,zfr,zhw,g13,g12,g11,g4,g3,gb,Str.enc,e3,hw1]
      have next : ¬ (s.lo ≤ m + (j : Int) ∧ m + (j : Int) ≤ s.hi) → ∀ k : Int, 0 ≤ k → k < ((j + 1 : Nat) : Int) → ¬ (s.lo ≤ m + k ∧ m + k ≤ s.hi) := fun hn k hk hk' => by
        by_cases e : k = j
        · subst e; exact hn
        · exact hno k hk (by omega)
      cases hC : decide (s.lo ≤ m + (j : Int))
      · simp (disch := (first | (simp only [yk,seval]; done) | omega | (simp only [yz] <;> omega) | fail)) only [↓yp,yq0,yq1,yq2,yq3,yq4,yl,ys0,ys1,seval,zed,zee,zfr,zhw,g13,g12,g11,g4,g3,gb,Str.enc,e3,hw1,hw2,hC]
        exact ⟨57 - (j + 1), by omega, j + 1, rfl, by omega, by simp (disch := (first | (simp only [yk,seval]; done) | omega | (simp only [yz] <;> omega) | fail)) only [yg,Nat.reduceAdd,Nat.reduceEqDiff,Nat.reduceLT], by simp (disch := (first | (simp only [yk,seval]; done) | omega | (simp only [yz] <;> omega) | fail)) only [yg,Nat.reduceAdd,Nat.reduceEqDiff,Nat.reduceLT,g12], by simp (disch := (first | (simp only [yk,seval]; done) | omega | (simp only [yz] <;> omega) | fail)) only [yg,Nat.reduceAdd,Nat.reduceEqDiff,Nat.reduceLT,g11], by simp (disch := (first | (simp only [yk,seval]; done) | omega | (simp only [yz] <;> omega) | fail)) only [yg,Nat.reduceAdd,Nat.reduceEqDiff,Nat.reduceLT,g4], by simp (disch := (first | (simp only [yk,seval]; done) | omega | (simp only [yz] <;> omega) | fail)) only [yg,Nat.reduceAdd,Nat.reduceEqDiff,Nat.reduceLT,g3], fr, gb, next fun h => by simp at hC; omega⟩
      cases hD : decide (m + (j : Int) ≤ s.hi)
      · simp (disch := (first | (simp only [yk,seval]; done) | omega | (simp only [yz] <;> omega) | fail)) only [↓yp,yq0,yq1,yq2,yq3,yq4,yl,ys0,ys1,seval,zed,zee,zfr,zhw,g13,g12,g11,g4,g3,gb,Str.enc,e3,hw1,hw2,hC,hD]
        exact ⟨57 - (j + 1), by omega, j + 1, rfl, by omega, by simp (disch := (first | (simp only [yk,seval]; done) | omega | (simp only [yz] <;> omega) | fail)) only [yg,Nat.reduceAdd,Nat.reduceEqDiff,Nat.reduceLT], by simp (disch := (first | (simp only [yk,seval]; done) | omega | (simp only [yz] <;> omega) | fail)) only [yg,Nat.reduceAdd,Nat.reduceEqDiff,Nat.reduceLT,g12], by simp (disch := (first | (simp only [yk,seval]; done) | omega | (simp only [yz] <;> omega) | fail)) only [yg,Nat.reduceAdd,Nat.reduceEqDiff,Nat.reduceLT,g11], by simp (disch := (first | (simp only [yk,seval]; done) | omega | (simp only [yz] <;> omega) | fail)) only [yg,Nat.reduceAdd,Nat.reduceEqDiff,Nat.reduceLT,g4], by simp (disch := (first | (simp only [yk,seval]; done) | omega | (simp only [yz] <;> omega) | fail)) only [yg,Nat.reduceAdd,Nat.reduceEqDiff,Nat.reduceLT,g3], fr, gb, next fun h => by simp at hD; omega⟩
      · simp (disch := (first | (simp only [yk,seval]; done) | omega | (simp only [yz] <;> omega) | fail)) only [↓yp,yq0,yq1,yq2,yq3,yq4,yl,ys0,ys1,seval,zed,zee,zfr,zhw,g13,g12,g11,g4,g3,gb,Str.enc,e3,hw1,hw2,hC,hD]
        have q1 : s.lo ≤ m + (j : Int) := by simpa using hC
        have q2 : m + (j : Int) ≤ s.hi := by simpa using hD
        rw [starts_meets (meets_iff.2 ⟨by omega, by omega, by rw [htt]; omega⟩)]
    · have hB' : ¬ (j : Int) < t := by simpa using hB
      simp (disch := (first | (simp only [yk,seval]; done) | omega | (simp only [yz] <;> omega) | fail)) only [↓yp,yq0,yq1,yq2,yq3,yq4,yl,ys0,ys1,seval,zed,zee,zfr,zhw,g13,g12,g11,g4,g3,w3]
      unfold startsL
      rw [htt, if_neg hA', key t htt fun k hk hk' => hno k hk (by omega)]; rfl
set_option maxHeartbeats 1000000 in
theorem c28 {a : Option Addr} {cap i : Nat} {l : List Str} {C w ld m : Int} {b : Bool} {s : Str} (hs : Sl H a l) (hi : l[i]? = some s) (hf : Fit s ld) (h0 : 0 ≤ m) (h1 : m ≤ 240) :
    acall tabA (aexec tabA Try.prog (N + 600)) 28 [.agg ⟨[.int .i64 C, .slice a l.length cap]⟩, .agg ⟨[.int .i64 w, .int .i64 ld]⟩, legV i b, .int .i64 m, .int .i64 (-1)] H = some (true, .int .i64 (arriveL s b ld m), H, H.size) := by
  refine call_quiet (k := 27) (rs := [.tmp 10]) rfl fn_28 rfl rfl rfl ?_ rfl
  have ht := hf.takes b
  simp (disch := (first | (simp only [yk,seval]; done) | omega | (simp only [yz] <;> omega) | fail)) only [↓yp,yq0,yq1,yq2,yq3,yq4,yl,ys0,ys1,seval,zed,zee,zfr,zhw,legV]
  refine W_while (n := 27) 280 (fun k e H' => ∃ j : Int, m ≤ j ∧ j ≤ 241 ∧ k = (241 - j).toNat ∧ gt 27 e 11 = .int .i64 j ∧ gt 27 e 4 = .int .i64 (-1) ∧ gt 27 e 5 = .pointer (some ⟨H.size, 0, none⟩) ∧ gt 27 e 6 = .pointer (some ⟨H.size + 1, 0, none⟩) ∧ gt 27 e 7 = .pointer (some ⟨H.size + 2, 0, none⟩) ∧
      Fr (((H.alloc (.rw [.int .i64 C, .slice a l.length cap] 34 false [])).alloc (.rw [.int .i64 w, .int .i64 ld] 50 false [])).alloc (.rw [.int .i64 i, .bool b] 54 false [])) H' ∧ ∀ x, m ≤ x → x < j → startsL s b ld x = -1)
      ?_ 241 (241 - m).toNat ⟨m, by omega, by omega, rfl, by simp (disch := (first | (simp only [yk,seval]; done) | omega | (simp only [yz] <;> omega) | fail)) only [yg,Nat.reduceAdd,Nat.reduceEqDiff,Nat.reduceLT], by simp (disch := (first | (simp only [yk,seval]; done) | omega | (simp only [yz] <;> omega) | fail)) only [yg,Nat.reduceAdd,Nat.reduceEqDiff,Nat.reduceLT], by simp (disch := (first | (simp only [yk,seval]; done) | omega | (simp only [yz] <;> omega) | fail)) only [yg,Nat.reduceAdd,Nat.reduceEqDiff,Nat.reduceLT], by simp (disch := (first | (simp only [yk,seval]; done) | omega | (simp only [yz] <;> omega) | fail)) only [yg,Nat.reduceAdd,Nat.reduceEqDiff,Nat.reduceLT], by simp (disch := (first | (simp only [yk,seval]; done) | omega | (simp only [yz] <;> omega) | fail)) only [yg,Nat.reduceAdd,Nat.reduceEqDiff,Nat.reduceLT], Fr.refl _, fun x hx hx' => by omega⟩ (by omega) (by omega)
  rintro M k e H' ⟨j, hmj, hj, rfl, g11, g4, g5, g6, g7, fr, hno⟩
  have f0 := fr.size
  have fs := fr.same
  simp only [zde] at f0
  simp (disch := (first | (simp only [yk,seval]; done) | omega | (simp only [yz] <;> omega) | fail)) only [↓yp,yq0,yq1,yq2,yq3,yq4,yl,ys0,ys1,seval,zed,zee,zfr,zhw,g11]
  refine ⟨fun hA => ?_, fun hA => ?_⟩
  · have hA' : j ≤ 240 := by simpa using hA
    have hw1 : w64 (j + 1) = j + 1 := w64_of (by omega)
    have h85 := fun (N : Nat) => c85 (N := N) (C := C) (w := w) (cap := cap) (b := b) (m := j) ((hs.fr (by (repeat (first | exact Fr.refl _ | assumption | refine Fr.allocd ?_ _ | refine Fr.kill ?_ (by first | assumption | omega) | refine Fr.put ?_ (by first | omega | (simp only [yz] <;> omega)) _)) : Fr H (((H.alloc (.rw [.int .i64 C, .slice a l.length cap] 34 false [])).alloc (.rw [.int .i64 w, .int .i64 ld] 50 false [])).alloc (.rw [.int .i64 i, .bool b] 54 false [])))).fr fr) hi hf (by omega) (by omega)
    simp only [legV] at h85
    simp (disch := (first | (simp only [yk,seval]; done) | omega | (simp only [yz] <;> omega) | fail)) only [↓yp,yq0,yq1,yq2,yq3,yq4,yl,ys0,ys1,seval,zed,zee,zfr,zhw,g11,g4,g5,g6,g7,fs,h85]
    refine ⟨fun hB => ?_, fun hB => ?_⟩
    · have hB' : 0 ≤ startsL s b ld j := by simpa using hB
      simp (disch := (first | (simp only [yk,seval]; done) | omega | (simp only [yz] <;> omega) | fail)) only [↓yp,yq0,yq1,yq2,yq3,yq4,yl,ys0,ys1,seval,zed,zee,zfr,zhw]
      rw [starts_arrive h0 ht.1 hmj hno (by omega)]
    · have hB' : ¬ 0 ≤ startsL s b ld j := by simpa using hB
      have hz : startsL s b ld j = -1 := Classical.byContradiction fun h => hB' (starts_ge (by omega) ht.1 h)
      simp (disch := (first | (simp only [yk,seval]; done) | omega | (simp only [yz] <;> omega) | fail)) only [↓yp,yq0,yq1,yq2,yq3,yq4,yl,ys0,ys1,seval,zed,zee,zfr,zhw,g11,hw1]
      refine ⟨(241 - (j + 1)).toNat, by omega, j + 1, by omega, by omega, rfl, by simp (disch := (first | (simp only [yk,seval]; done) | omega | (simp only [yz] <;> omega) | fail)) only [yg,Nat.reduceAdd,Nat.reduceEqDiff,Nat.reduceLT], by simp (disch := (first | (simp only [yk,seval]; done) | omega | (simp only [yz] <;> omega) | fail)) only [yg,Nat.reduceAdd,Nat.reduceEqDiff,Nat.reduceLT,g4], by simp (disch := (first | (simp only [yk,seval]; done) | omega | (simp only [yz] <;> omega) | fail)) only [yg,Nat.reduceAdd,Nat.reduceEqDiff,Nat.reduceLT,g5], by simp (disch := (first | (simp only [yk,seval]; done) | omega | (simp only [yz] <;> omega) | fail)) only [yg,Nat.reduceAdd,Nat.reduceEqDiff,Nat.reduceLT,g6], by simp (disch := (first | (simp only [yk,seval]; done) | omega | (simp only [yz] <;> omega) | fail)) only [yg,Nat.reduceAdd,Nat.reduceEqDiff,Nat.reduceLT,g7], fr, fun x hx hx' => ?_⟩
      by_cases e : x = j
      · subst e; exact hz
      · exact hno x hx (by omega)
  · have hA' : ¬ j ≤ 240 := by simpa using hA
    have : j = 241 := by omega
    subst this
    simp (disch := (first | (simp only [yk,seval]; done) | omega | (simp only [yz] <;> omega) | fail)) only [↓yp,yq0,yq1,yq2,yq3,yq4,yl,ys0,ys1,seval,zed,zee,zfr,zhw]
    rw [starts_never h0 h1 hf.hi.2 ht.1 hno]
end Go.Am
