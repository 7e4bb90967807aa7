/- Bills: their error, the numbers of houses, exact shares. -/
import Derived.Test.YtnibabkgeolenaaT33
set_option linter.unusedSimpArgs false
set_option linter.unusedVariables false
namespace Go.Am
open Go.Proofs
variable {T : Tab} {P : Program} {N L : Nat} {H H' H'' : AHeap} {Q : Bool → Value → AHeap → Prop}
/-- A house: its value, what it pays at least and at most. -/
structure Hs where
  v : Int
  l : Int
  m : Int
def Hs.enc (h : Hs) : List Value := [.int .i64 h.v, .int .i64 h.l, .int .i64 h.m]
def hsE : Enc Hs := ⟨Hs.enc, 3, fun _ => rfl, fun _ => rfl⟩
def Hs.isB (h : Hs) : Bool := wi h.v 0 1000 && (wi h.m 0 500 && wi h.l 0 h.m)
structure Hs.Ok (h : Hs) : Prop where
  v : 0 ≤ h.v ∧ h.v ≤ 1000
  m : 0 ≤ h.m ∧ h.m ≤ 500
  l : 0 ≤ h.l ∧ h.l ≤ h.m
theorem Hs.Ok.is {h : Hs} (k : h.Ok) : h.isB = true := by
  unfold Hs.isB wi
  simp only [Bool.and_eq_true,decide_eq_true_eq]
  exact ⟨k.v, k.m, k.l⟩
/-- The error of a bill. -/
def chkB (p : Int) (hs : List Hs) : Int := bif wi p 0 500 then bif wi hs.length 1 6 then bif hs.all Hs.isB then 0 else 4 else 3 else 4
structure BilOk (p : Int) (hs : List Hs) : Prop where
  p : 0 ≤ p ∧ p ≤ 500
  len : 1 ≤ hs.length ∧ hs.length ≤ 6
  ok : ∀ h ∈ hs, h.Ok
theorem BilOk.chk {p : Int} {hs : List Hs} (h : BilOk p hs) : chkB p hs = 0 := by
  have h1 : wi p 0 500 = true := by unfold wi; have := h.p; simp; omega
  have h2 : wi hs.length 1 6 = true := by unfold wi; have := h.len; simp; omega
  have h3 : hs.all Hs.isB = true := List.all_eq_true.2 fun x hx => (h.ok x hx).is
  unfold chkB
  rw [h1, h2, h3]; rfl
theorem c93 {h : Hs} : acall tabA (aexec tabA Try.prog (N + 60)) 93 [.agg ⟨h.enc⟩] H = some (true, .bool h.isB, H, H.size) := by
  refine call_quiet (k := 18) (rs := [.tmp 2]) rfl fn_93 rfl rfl rfl ?_ rfl
  unfold Hs.isB
  have h57 := fun (N : Nat) (H : AHeap) (n lo hi : Int) => c57 (N := N) (H := H) (n := n) (lo := lo) (hi := hi)
  cases hA : wi h.v 0 1000
  · simp (disch := (first | (simp only [ne_eq,Nat.reduceEqDiff,not_false_eq_true,Nat.reduceLT]; done) | omega | (simp only [yz] <;> omega) | fail)) only [↓yp,yq0,yq1,yq2,yq3,yq4,yl,ys0,ys1,Nat.reduceAdd,Nat.reduceMul,Nat.reduceSub,Nat.reduceBEq,Nat.reduceEqDiff,Nat.reduceLT,Nat.reduceLeDiff,reduceIte,Int.reduceAdd,Int.reduceSub,Int.reduceMul,Int.reduceLT,Int.reduceLE,Int.reduceEq,Int.reduceToNat,Int.reduceNeg,fitB,newC,endD,endR,yrg,Hs.enc,h57,hA]
  cases hB : wi h.m 0 500
  · simp (disch := (first | (simp only [ne_eq,Nat.reduceEqDiff,not_false_eq_true,Nat.reduceLT]; done) | omega | (simp only [yz] <;> omega) | fail)) only [↓yp,yq0,yq1,yq2,yq3,yq4,yl,ys0,ys1,Nat.reduceAdd,Nat.reduceMul,Nat.reduceSub,Nat.reduceBEq,Nat.reduceEqDiff,Nat.reduceLT,Nat.reduceLeDiff,reduceIte,Int.reduceAdd,Int.reduceSub,Int.reduceMul,Int.reduceLT,Int.reduceLE,Int.reduceEq,Int.reduceToNat,Int.reduceNeg,fitB,newC,endD,endR,yrg,Hs.enc,h57,hA,hB]
  · simp (disch := (first | (simp only [ne_eq,Nat.reduceEqDiff,not_false_eq_true,Nat.reduceLT]; done) | omega | (simp only [yz] <;> omega) | fail)) only [↓yp,yq0,yq1,yq2,yq3,yq4,yl,ys0,ys1,Nat.reduceAdd,Nat.reduceMul,Nat.reduceSub,Nat.reduceBEq,Nat.reduceEqDiff,Nat.reduceLT,Nat.reduceLeDiff,reduceIte,Int.reduceAdd,Int.reduceSub,Int.reduceMul,Int.reduceLT,Int.reduceLE,Int.reduceEq,Int.reduceToNat,Int.reduceNeg,fitB,newC,endD,endR,yrg,Hs.enc,h57,hA,hB]
/-- Of all elements a function is asked. -/
theorem c92 {a : Option Addr} {cap g : Nat} {ps : List Hs} {p : Hs → Bool} (hs : Rw hsE H a ps) (hl : ps.length ≤ 16) (hp : ∀ (N : Nat) (H' : AHeap) (x : Hs), x ∈ ps → acall tabA (aexec tabA Try.prog (N + 90)) g [.agg ⟨x.enc⟩] H' = some (true, .bool (p x), H', H'.size)) :
    acall tabA (aexec tabA Try.prog (N + 170)) 92 [.slice a ps.length cap, .func (.func g) ⟨[]⟩ ⟨[]⟩] H = some (true, .bool (ps.all p), H, H.size) := by
  refine call_quiet (k := 18) (rs := [.tmp 4]) rfl fn_92 rfl rfl rfl ?_ rfl
  simp (disch := (first | (simp only [ne_eq,Nat.reduceEqDiff,not_false_eq_true,Nat.reduceLT]; done) | omega | (simp only [yz] <;> omega) | fail)) only [↓yp,yq0,yq1,yq2,yq3,yq4,yl,ys0,ys1,Nat.reduceAdd,Nat.reduceMul,Nat.reduceSub,Nat.reduceBEq,Nat.reduceEqDiff,Nat.reduceLT,Nat.reduceLeDiff,reduceIte,Int.reduceAdd,Int.reduceSub,Int.reduceMul,Int.reduceLT,Int.reduceLE,Int.reduceEq,Int.reduceToNat,Int.reduceNeg,fitB,newC,endD,endR,yrg,lenV_slice st_esS_37]
  refine W_while (n := 18) 100 (fun k e H' => ∃ i, k = ps.length - i ∧ i ≤ ps.length ∧ gt 18 e 9 = .int .i64 (i : Nat) ∧ gt 18 e 8 = .int .i64 ps.length ∧ gt 18 e 7 = .slice a ps.length cap ∧ gt 18 e 1 = .func (.func g) ⟨[]⟩ ⟨[]⟩ ∧ Fr H H' ∧ ∀ j s, j < i → ps[j]? = some s → p s = true)
    ?_ 16 ps.length ⟨0, by omega, by omega, by simp (disch := (first | (simp only [ne_eq,Nat.reduceEqDiff,not_false_eq_true,Nat.reduceLT]; done) | omega | (simp only [yz] <;> omega) | fail)) only [yg,Nat.reduceAdd,Nat.reduceEqDiff,Nat.reduceLT]; rfl, by simp (disch := (first | (simp only [ne_eq,Nat.reduceEqDiff,not_false_eq_true,Nat.reduceLT]; done) | omega | (simp only [yz] <;> omega) | fail)) only [yg,Nat.reduceAdd,Nat.reduceEqDiff,Nat.reduceLT], by simp (disch := (first | (simp only [ne_eq,Nat.reduceEqDiff,not_false_eq_true,Nat.reduceLT]; done) | omega | (simp only [yz] <;> omega) | fail)) only [yg,Nat.reduceAdd,Nat.reduceEqDiff,Nat.reduceLT], by simp (disch := (first | (simp only [ne_eq,Nat.reduceEqDiff,not_false_eq_true,Nat.reduceLT]; done) | omega | (simp only [yz] <;> omega) | fail)) only [yg,Nat.reduceAdd,Nat.reduceEqDiff,Nat.reduceLT], Fr.refl _, fun j s hj => by omega⟩ (by omega) (by omega)
  rintro M k e H' ⟨i, rfl, hi, g9, g8, g7, g1, fr, hj⟩
  have f0 := fr.size
  have fs := fr.same
  simp (disch := (first | (simp only [ne_eq,Nat.reduceEqDiff,not_false_eq_true,Nat.reduceLT]; done) | omega | (simp only [yz] <;> omega) | fail)) only [↓yp,yq0,yq1,yq2,yq3,yq4,yl,ys0,ys1,Nat.reduceAdd,Nat.reduceMul,Nat.reduceSub,Nat.reduceBEq,Nat.reduceEqDiff,Nat.reduceLT,Nat.reduceLeDiff,reduceIte,Int.reduceAdd,Int.reduceSub,Int.reduceMul,Int.reduceLT,Int.reduceLE,Int.reduceEq,Int.reduceToNat,Int.reduceNeg,fitB,newC,endD,endR,yrg,g9,g8,g7,g1]
  refine ⟨fun hlt => ?_, fun hlt => ?_⟩
  · have hi' : i < ps.length := by simpa using hlt
    obtain ⟨x, hx⟩ : ∃ x, ps[i]? = some x := ⟨ps[i], by simp [hi']⟩
    obtain ⟨b, o, c, rfl, hb, hc, hq⟩ := hs.at_ hx
    have q : part c (o + i * 3) 4 = some (.agg ⟨x.enc⟩) := part_of hq rfl
    have hc' : cellsOf (H'.get b) = some c := by rw [fs b hb]; exact hc
    have hps := fun (N : Nat) (H' : AHeap) => hp N H' x (List.mem_of_getElem? hx)
    simp only [Hs.enc] at q hps
    simp (disch := (first | (simp only [ne_eq,Nat.reduceEqDiff,not_false_eq_true,Nat.reduceLT]; done) | omega | (simp only [yz] <;> omega) | fail)) only [↓yp,yq0,yq1,yq2,yq3,yq4,yl,ys0,ys1,Nat.reduceAdd,Nat.reduceMul,Nat.reduceSub,Nat.reduceBEq,Nat.reduceEqDiff,Nat.reduceLT,Nat.reduceLeDiff,reduceIte,Int.reduceAdd,Int.reduceSub,Int.reduceMul,Int.reduceLT,Int.reduceLE,Int.reduceEq,Int.reduceToNat,Int.reduceNeg,fitB,newC,endD,endR,yrg,g9,g8,g7,g1,A_indexSlice st_esS_37,hc',q,hps]
    refine ⟨fun hA => ?_, fun hA => ?_⟩
    rotate_left
    · have : ps.all p = false := by rw [List.all_eq_false]; exact ⟨x, List.mem_of_getElem? hx, by rw [hA]; simp⟩
      simp (disch := (first | (simp only [ne_eq,Nat.reduceEqDiff,not_false_eq_true,Nat.reduceLT]; done) | omega | (simp only [yz] <;> omega) | fail)) only [↓yp,yq0,yq1,yq2,yq3,yq4,yl,ys0,ys1,Nat.reduceAdd,Nat.reduceMul,Nat.reduceSub,Nat.reduceBEq,Nat.reduceEqDiff,Nat.reduceLT,Nat.reduceLeDiff,reduceIte,Int.reduceAdd,Int.reduceSub,Int.reduceMul,Int.reduceLT,Int.reduceLE,Int.reduceEq,Int.reduceToNat,Int.reduceNeg,fitB,newC,endD,endR,yrg,hA,this]
    have hw2 : w64 ((i : Int) + 1) = ((i + 1 : Nat) : Int) := by rw [w64_of (by omega)]; omega
    simp (disch := (first | (simp only [ne_eq,Nat.reduceEqDiff,not_false_eq_true,Nat.reduceLT]; done) | omega | (simp only [yz] <;> omega) | fail)) only [↓yp,yq0,yq1,yq2,yq3,yq4,yl,ys0,ys1,Nat.reduceAdd,Nat.reduceMul,Nat.reduceSub,Nat.reduceBEq,Nat.reduceEqDiff,Nat.reduceLT,Nat.reduceLeDiff,reduceIte,Int.reduceAdd,Int.reduceSub,Int.reduceMul,Int.reduceLT,Int.reduceLE,Int.reduceEq,Int.reduceToNat,Int.reduceNeg,fitB,newC,endD,endR,yrg,hA,g9,g8,g7,g1,hw2]
    refine ⟨ps.length - (i + 1), by omega, i + 1, rfl, by omega, ?_, ?_, ?_, ?_, by (repeat (first | exact Fr.refl _ | assumption | refine Fr.allocd ?_ _ | refine Fr.kill ?_ (by first | assumption | omega) | refine Fr.put ?_ (by first | omega | (simp only [yz] <;> omega)) _)), ?_⟩
    · simp (disch := (first | (simp only [ne_eq,Nat.reduceEqDiff,not_false_eq_true,Nat.reduceLT]; done) | omega | (simp only [yz] <;> omega) | fail)) only [yg,Nat.reduceAdd,Nat.reduceEqDiff,Nat.reduceLT]
    · simp (disch := (first | (simp only [ne_eq,Nat.reduceEqDiff,not_false_eq_true,Nat.reduceLT]; done) | omega | (simp only [yz] <;> omega) | fail)) only [yg,Nat.reduceAdd,Nat.reduceEqDiff,Nat.reduceLT,g8]
    · simp (disch := (first | (simp only [ne_eq,Nat.reduceEqDiff,not_false_eq_true,Nat.reduceLT]; done) | omega | (simp only [yz] <;> omega) | fail)) only [yg,Nat.reduceAdd,Nat.reduceEqDiff,Nat.reduceLT,g7]
    · simp (disch := (first | (simp only [ne_eq,Nat.reduceEqDiff,not_false_eq_true,Nat.reduceLT]; done) | omega | (simp only [yz] <;> omega) | fail)) only [yg,Nat.reduceAdd,Nat.reduceEqDiff,Nat.reduceLT,g1]
    · intro j t hj' ht
      by_cases e : j = i
      · subst e; rw [hx] at ht; cases ht; exact hA
      · exact hj j t (by omega) ht
  · have hi' : ¬ i < ps.length := by simpa using hlt
    have : ps.all p = true := by
      rw [List.all_eq_true]
      intro s hs'
      obtain ⟨j, hj'⟩ := List.getElem?_of_mem hs'
      have := (List.getElem?_eq_some_iff.1 hj').1
      exact hj j s (by omega) hj'
    simp (disch := (first | (simp only [ne_eq,Nat.reduceEqDiff,not_false_eq_true,Nat.reduceLT]; done) | omega | (simp only [yz] <;> omega) | fail)) only [↓yp,yq0,yq1,yq2,yq3,yq4,yl,ys0,ys1,Nat.reduceAdd,Nat.reduceMul,Nat.reduceSub,Nat.reduceBEq,Nat.reduceEqDiff,Nat.reduceLT,Nat.reduceLeDiff,reduceIte,Int.reduceAdd,Int.reduceSub,Int.reduceMul,Int.reduceLT,Int.reduceLE,Int.reduceEq,Int.reduceToNat,Int.reduceNeg,fitB,newC,endD,endR,yrg,this]
theorem c114 {h : Hs} : acall tabA (aexec tabA Try.prog (N + 30)) 114 [.agg ⟨h.enc⟩] H = some (true, .int .i64 h.l, H, H.size) := by
  refine call_quiet (k := 5) (rs := [.tmp 2]) rfl fn_114 rfl rfl rfl ?_ rfl
  simp (disch := (first | (simp only [ne_eq,Nat.reduceEqDiff,not_false_eq_true,Nat.reduceLT]; done) | omega | (simp only [yz] <;> omega) | fail)) only [↓yp,yq0,yq1,yq2,yq3,yq4,yl,ys0,ys1,Nat.reduceAdd,Nat.reduceMul,Nat.reduceSub,Nat.reduceBEq,Nat.reduceEqDiff,Nat.reduceLT,Nat.reduceLeDiff,reduceIte,Int.reduceAdd,Int.reduceSub,Int.reduceMul,Int.reduceLT,Int.reduceLE,Int.reduceEq,Int.reduceToNat,Int.reduceNeg,fitB,newC,endD,endR,yrg,Hs.enc]
theorem c119 {h : Hs} : acall tabA (aexec tabA Try.prog (N + 30)) 119 [.agg ⟨h.enc⟩] H = some (true, .int .i64 h.v, H, H.size) := by
  refine call_quiet (k := 5) (rs := [.tmp 2]) rfl fn_119 rfl rfl rfl ?_ rfl
  simp (disch := (first | (simp only [ne_eq,Nat.reduceEqDiff,not_false_eq_true,Nat.reduceLT]; done) | omega | (simp only [yz] <;> omega) | fail)) only [↓yp,yq0,yq1,yq2,yq3,yq4,yl,ys0,ys1,Nat.reduceAdd,Nat.reduceMul,Nat.reduceSub,Nat.reduceBEq,Nat.reduceEqDiff,Nat.reduceLT,Nat.reduceLeDiff,reduceIte,Int.reduceAdd,Int.reduceSub,Int.reduceMul,Int.reduceLT,Int.reduceLE,Int.reduceEq,Int.reduceToNat,Int.reduceNeg,fitB,newC,endD,endR,yrg,Hs.enc]
/-- A bill that is given. -/
structure Bil (H : AHeap) (a : Option Addr) (hs : List Hs) (p : Int) : Prop where
  rw : Rw hsE H a hs
  ok : BilOk p hs
theorem Bil.fr {a : Option Addr} {hs : List Hs} {p : Int} (h : Bil H a hs p) (f : Fr H H') : Bil H' a hs p := ⟨h.rw.fr f, h.ok⟩
section
variable {a : Option Addr} {cap : Nat} {hs : List Hs} {p : Int}
/-- Check. -/
theorem c39 (hr : Rw hsE H a hs) (hl : hs.length ≤ 16) : acall tabA (aexec tabA Try.prog (N + 300)) 39 [.agg ⟨[.int .i64 p, .slice a hs.length cap]⟩] H = some (true, .int .i64 (chkB p hs), H, H.size) := by
  refine call_quiet (k := 19) (rs := [.tmp 2]) rfl fn_39 rfl rfl rfl ?_ rfl
  have h57 := fun (N : Nat) (H : AHeap) (n lo hi : Int) => c57 (N := N) (H := H) (n := n) (lo := lo) (hi := hi)
  have h92 := fun (N : Nat) => c92 (N := N) (H := H.alloc (.rw [.int .i64 p, .slice a hs.length cap] 39 false [])) (cap := cap) (g := 93) (p := Hs.isB) (hr.fr (by (repeat (first | exact Fr.refl _ | assumption | refine Fr.allocd ?_ _ | refine Fr.kill ?_ (by first | assumption | omega) | refine Fr.put ?_ (by first | omega | (simp only [yz] <;> omega)) _)))) hl fun N H' x _ => c93 (N := N + 30) (H := H') (h := x)
  unfold chkB
  cases hA : wi p 0 500
  · simp (disch := (first | (simp only [ne_eq,Nat.reduceEqDiff,not_false_eq_true,Nat.reduceLT]; done) | omega | (simp only [yz] <;> omega) | fail)) only [↓yp,yq0,yq1,yq2,yq3,yq4,yl,ys0,ys1,Nat.reduceAdd,Nat.reduceMul,Nat.reduceSub,Nat.reduceBEq,Nat.reduceEqDiff,Nat.reduceLT,Nat.reduceLeDiff,reduceIte,Int.reduceAdd,Int.reduceSub,Int.reduceMul,Int.reduceLT,Int.reduceLE,Int.reduceEq,Int.reduceToNat,Int.reduceNeg,fitB,newC,endD,endR,yrg,lenV_slice st_esS_37,h57,hA]
  cases hB : wi hs.length 1 6
  · simp (disch := (first | (simp only [ne_eq,Nat.reduceEqDiff,not_false_eq_true,Nat.reduceLT]; done) | omega | (simp only [yz] <;> omega) | fail)) only [↓yp,yq0,yq1,yq2,yq3,yq4,yl,ys0,ys1,Nat.reduceAdd,Nat.reduceMul,Nat.reduceSub,Nat.reduceBEq,Nat.reduceEqDiff,Nat.reduceLT,Nat.reduceLeDiff,reduceIte,Int.reduceAdd,Int.reduceSub,Int.reduceMul,Int.reduceLT,Int.reduceLE,Int.reduceEq,Int.reduceToNat,Int.reduceNeg,fitB,newC,endD,endR,yrg,lenV_slice st_esS_37,h57,hA,hB]
  cases hC : hs.all Hs.isB
  · simp (disch := (first | (simp only [ne_eq,Nat.reduceEqDiff,not_false_eq_true,Nat.reduceLT]; done) | omega | (simp only [yz] <;> omega) | fail)) only [↓yp,yq0,yq1,yq2,yq3,yq4,yl,ys0,ys1,Nat.reduceAdd,Nat.reduceMul,Nat.reduceSub,Nat.reduceBEq,Nat.reduceEqDiff,Nat.reduceLT,Nat.reduceLeDiff,reduceIte,Int.reduceAdd,Int.reduceSub,Int.reduceMul,Int.reduceLT,Int.reduceLE,Int.reduceEq,Int.reduceToNat,Int.reduceNeg,fitB,newC,endD,endR,yrg,lenV_slice st_esS_37,h57,h92,hA,hB,hC]
  · simp (disch := (first | (simp only [ne_eq,Nat.reduceEqDiff,not_false_eq_true,Nat.reduceLT]; done) | omega | (simp only [yz] <;> omega) | fail)) only [↓yp,yq0,yq1,yq2,yq3,yq4,yl,ys0,ys1,Nat.reduceAdd,Nat.reduceMul,Nat.reduceSub,Nat.reduceBEq,Nat.reduceEqDiff,Nat.reduceLT,Nat.reduceLeDiff,reduceIte,Int.reduceAdd,Int.reduceSub,Int.reduceMul,Int.reduceLT,Int.reduceLE,Int.reduceEq,Int.reduceToNat,Int.reduceNeg,fitB,newC,endD,endR,yrg,lenV_slice st_esS_37,h57,h92,hA,hB,hC]
set_option maxHeartbeats 2000000 in
/-- A number of each house. -/
theorem c113 {g : Nat} {f : Hs → Int} (hr : Rw hsE H a hs) (hne : hs ≠ []) (hl : hs.length ≤ 16) (hf : ∀ (N : Nat) (H' : AHeap) (x : Hs), acall tabA (aexec tabA Try.prog (N + 30)) g [.agg ⟨x.enc⟩] H' = some (true, .int .i64 (f x), H', H'.size)) (hL : L ≤ H.size) {M : Nat} (hM : 300 ≤ M)
    (hq : ∀ b c H', Fr H H' → H.size ≤ b → Rw intE H' (some ⟨b, 0, none⟩) (hs.map f) → Q false (.slice (some ⟨b, 0, none⟩) hs.length c) H') : resK (acall tabA (aexec tabA Try.prog M) 113 [.slice a hs.length cap, .func (.func g) ⟨[]⟩ ⟨[]⟩] H) L Q := by
  obtain ⟨N, rfl⟩ : ∃ N, M = N + 300 := ⟨M - 300, by omega⟩
  refine call_fls (R := fun v H' => ∃ b c, v = .slice (some ⟨b, 0, none⟩) hs.length c ∧ Fr H H' ∧ H.size ≤ b ∧ Rw intE H' (some ⟨b, 0, none⟩) (hs.map f)) (k := 22) (rs := [.tmp 4]) rfl fn_113 rfl rfl rfl hL ?_ ?_ ?_
  rotate_left
  · rintro v H' ⟨b, c, rfl, -⟩; rfl
  · rintro v H' ⟨b, c, rfl, h1, h2, h3⟩
    exact hq _ _ _ h1 h2 h3
  have hpos : 0 < hs.length := List.length_pos_iff.2 hne
  simp (disch := (first | (simp only [ne_eq,Nat.reduceEqDiff,not_false_eq_true,Nat.reduceLT]; done) | omega | (simp only [yz] <;> omega) | fail)) only [↓yp,yq0,yq1,yq2,yq3,yq4,yl,ys0,ys1,Nat.reduceAdd,Nat.reduceMul,Nat.reduceSub,Nat.reduceBEq,Nat.reduceEqDiff,Nat.reduceLT,Nat.reduceLeDiff,reduceIte,Int.reduceAdd,Int.reduceSub,Int.reduceMul,Int.reduceLT,Int.reduceLE,Int.reduceEq,Int.reduceToNat,Int.reduceNeg,fitB,newC,endD,endR,yrg,lenV_slice st_esS_37]
  refine W_while (n := 22) 100 (fun k e H' => ∃ (i : Nat) (v : Value) (S : Nat → Prop), k = hs.length - i ∧ i ≤ hs.length ∧ gt 22 e 10 = .int .i64 (i : Nat) ∧ gt 22 e 9 = .int .i64 hs.length ∧ gt 22 e 8 = .slice a hs.length cap ∧ gt 22 e 1 = .func (.func g) ⟨[]⟩ ⟨[]⟩ ∧ gt 22 e 5 = v ∧ Fr H H' ∧ Gw H' H.size S v i (intE.fl ((hs.map f).take i)) 3 1)
    ?_ 16 hs.length ⟨0, _, _, by omega, by omega, by simp (disch := (first | (simp only [ne_eq,Nat.reduceEqDiff,not_false_eq_true,Nat.reduceLT]; done) | omega | (simp only [yz] <;> omega) | fail)) only [yg,Nat.reduceAdd,Nat.reduceEqDiff,Nat.reduceLT]; rfl, by simp (disch := (first | (simp only [ne_eq,Nat.reduceEqDiff,not_false_eq_true,Nat.reduceLT]; done) | omega | (simp only [yz] <;> omega) | fail)) only [yg,Nat.reduceAdd,Nat.reduceEqDiff,Nat.reduceLT], by simp (disch := (first | (simp only [ne_eq,Nat.reduceEqDiff,not_false_eq_true,Nat.reduceLT]; done) | omega | (simp only [yz] <;> omega) | fail)) only [yg,Nat.reduceAdd,Nat.reduceEqDiff,Nat.reduceLT], by simp (disch := (first | (simp only [ne_eq,Nat.reduceEqDiff,not_false_eq_true,Nat.reduceLT]; done) | omega | (simp only [yz] <;> omega) | fail)) only [yg,Nat.reduceAdd,Nat.reduceEqDiff,Nat.reduceLT], by simp (disch := (first | (simp only [ne_eq,Nat.reduceEqDiff,not_false_eq_true,Nat.reduceLT]; done) | omega | (simp only [yz] <;> omega) | fail)) only [yg,Nat.reduceAdd,Nat.reduceEqDiff,Nat.reduceLT], Fr.refl _, Gw.none⟩ (by omega) (by omega)
  rintro M1 k e H1 ⟨i, v, S, rfl, hi, g10, g9, g8, g1, g5, fr, gw⟩
  have f0 := fr.size
  simp (disch := (first | (simp only [ne_eq,Nat.reduceEqDiff,not_false_eq_true,Nat.reduceLT]; done) | omega | (simp only [yz] <;> omega) | fail)) only [↓yp,yq0,yq1,yq2,yq3,yq4,yl,ys0,ys1,Nat.reduceAdd,Nat.reduceMul,Nat.reduceSub,Nat.reduceBEq,Nat.reduceEqDiff,Nat.reduceLT,Nat.reduceLeDiff,reduceIte,Int.reduceAdd,Int.reduceSub,Int.reduceMul,Int.reduceLT,Int.reduceLE,Int.reduceEq,Int.reduceToNat,Int.reduceNeg,fitB,newC,endD,endR,yrg,g10,g9]
  refine ⟨fun hT => ?_, fun hT => ?_⟩
  · have hlt : i < hs.length := by simpa using hT
    obtain ⟨s, hp⟩ : ∃ s, hs[i]? = some s := ⟨hs[i], by simp [hlt]⟩
    obtain ⟨bl, o, c, eb, hbl, hc, hqq⟩ := (hr.fr fr).at_ hp
    have q : part c (o + i * 3) 4 = some (.agg ⟨s.enc⟩) := part_of hqq rfl
    have hw2 : w64 ((i : Int) + 1) = ((i + 1 : Nat) : Int) := by rw [w64_of (by omega)]; omega
    have hff := fun (N : Nat) (H : AHeap) => hf N H s
    simp only [Hs.enc] at q hff
    subst eb
    have hp' : (hs.map f)[i]? = some (f s) := by rw [List.getElem?_map, hp]; rfl
    simp (disch := (first | (simp only [ne_eq,Nat.reduceEqDiff,not_false_eq_true,Nat.reduceLT]; done) | omega | (simp only [yz] <;> omega) | fail)) only [↓yp,yq0,yq1,yq2,yq3,yq4,yl,ys0,ys1,Nat.reduceAdd,Nat.reduceMul,Nat.reduceSub,Nat.reduceBEq,Nat.reduceEqDiff,Nat.reduceLT,Nat.reduceLeDiff,reduceIte,Int.reduceAdd,Int.reduceSub,Int.reduceMul,Int.reduceLT,Int.reduceLE,Int.reduceEq,Int.reduceToNat,Int.reduceNeg,fitB,newC,endD,endR,yrg,g10,g8,g1,g5,A_indexSlice st_esS_37,hc,q,hff,A_buildSlice st_brS_40_1]
    refine gw_append (i := i) (cs := intE.fl ((hs.map f).take i)) (news := [.int .i64 (f s)]) st_apS_40 (gw.fr (by (repeat (first | exact Fr.refl _ | assumption | refine Fr.allocd ?_ _ | refine Fr.kill ?_ (by first | assumption | omega) | refine Fr.put ?_ (by first | omega | (simp only [yz] <;> omega)) _)))) (by (first | omega | (simp only [yz] <;> omega))) (by rw [fl_length, List.length_take_of_le (by rw [List.length_map]; omega)]; rfl) (by unfold srcCells; simp (disch := (first | (simp only [ne_eq,Nat.reduceEqDiff,not_false_eq_true,Nat.reduceLT]; done) | omega | (simp only [yz] <;> omega) | fail)) only [yg,Nat.reduceAdd,Nat.reduceEqDiff,Nat.reduceLT]; rfl) (by omega) (by omega) rfl (by omega) ?_
    intro a1 c1 H2 hs2 fs2 gw1
    simp only [size_alloc,size_put] at hs2 fs2
    rw [show intE.fl ((hs.map f).take i) ++ [Value.int .i64 (f s)] = intE.fl ((hs.map f).take (i + 1)) from take_fl (E := intE) hp'] at gw1
    simp (disch := (first | (simp only [ne_eq,Nat.reduceEqDiff,not_false_eq_true,Nat.reduceLT]; done) | omega | (simp only [yz] <;> omega) | fail)) only [↓yp,yq0,yq1,yq2,yq3,yq4,yl,ys0,ys1,Nat.reduceAdd,Nat.reduceMul,Nat.reduceSub,Nat.reduceBEq,Nat.reduceEqDiff,Nat.reduceLT,Nat.reduceLeDiff,reduceIte,Int.reduceAdd,Int.reduceSub,Int.reduceMul,Int.reduceLT,Int.reduceLE,Int.reduceEq,Int.reduceToNat,Int.reduceNeg,fitB,newC,endD,endR,yrg,g10,hw2]
    refine ⟨hs.length - (i + 1), by omega, i + 1, _, _, rfl, by omega, ?_, ?_, ?_, ?_, ?_, ?_, gw1⟩
    · simp (disch := (first | (simp only [ne_eq,Nat.reduceEqDiff,not_false_eq_true,Nat.reduceLT]; done) | omega | (simp only [yz] <;> omega) | fail)) only [yg,Nat.reduceAdd,Nat.reduceEqDiff,Nat.reduceLT]
    · simp (disch := (first | (simp only [ne_eq,Nat.reduceEqDiff,not_false_eq_true,Nat.reduceLT]; done) | omega | (simp only [yz] <;> omega) | fail)) only [yg,Nat.reduceAdd,Nat.reduceEqDiff,Nat.reduceLT,g9]
    · simp (disch := (first | (simp only [ne_eq,Nat.reduceEqDiff,not_false_eq_true,Nat.reduceLT]; done) | omega | (simp only [yz] <;> omega) | fail)) only [yg,Nat.reduceAdd,Nat.reduceEqDiff,Nat.reduceLT,g8]
    · simp (disch := (first | (simp only [ne_eq,Nat.reduceEqDiff,not_false_eq_true,Nat.reduceLT]; done) | omega | (simp only [yz] <;> omega) | fail)) only [yg,Nat.reduceAdd,Nat.reduceEqDiff,Nat.reduceLT,g1]
    · simp (disch := (first | (simp only [ne_eq,Nat.reduceEqDiff,not_false_eq_true,Nat.reduceLT]; done) | omega | (simp only [yz] <;> omega) | fail)) only [yg,Nat.reduceAdd,Nat.reduceEqDiff,Nat.reduceLT]
    · exact ⟨by omega, fun q hq => by rw [fs2 q (by omega) (gw.low q (by omega)), get_alloc_lt (by (first | omega | (simp only [yz] <;> omega))), get_put_ne (by omega), get_alloc_lt (by omega)]; exact fr.same q hq⟩
  have hie : i = hs.length := by have := of_decide_eq_false hT; omega
  subst hie
  rw [List.take_of_length_le (by rw [List.length_map]; exact Nat.le_refl _)] at gw
  obtain ⟨bv, al, ev, hS, -⟩ := gw.cons (by omega)
  subst ev
  simp (disch := (first | (simp only [ne_eq,Nat.reduceEqDiff,not_false_eq_true,Nat.reduceLT]; done) | omega | (simp only [yz] <;> omega) | fail)) only [↓yp,yq0,yq1,yq2,yq3,yq4,yl,ys0,ys1,Nat.reduceAdd,Nat.reduceMul,Nat.reduceSub,Nat.reduceBEq,Nat.reduceEqDiff,Nat.reduceLT,Nat.reduceLeDiff,reduceIte,Int.reduceAdd,Int.reduceSub,Int.reduceMul,Int.reduceLT,Int.reduceLE,Int.reduceEq,Int.reduceToNat,Int.reduceNeg,fitB,newC,endD,endR,yrg,g5]
  refine ⟨bv, _, rfl, fr, by have := (gw.own _ hS).1; omega, (Gw.rx (k := 0) (E := intE) (l := hs.map f) (c := OPEN + 1) (el := 3) (tb := H.size) (S := S) ?_ (fun h => by have := (gw.own 0 h).1; omega)).rw⟩
  rw [List.length_map]
  exact gw
theorem map_in {f : Hs → Int} {m : Int} (h : ∀ x ∈ hs, 0 ≤ f x ∧ f x ≤ m) : ∀ x ∈ hs.map f, 0 ≤ x ∧ x ≤ m := fun x hx => by
  obtain ⟨y, hy, rfl⟩ := List.mem_map.1 hx
  exact h y hy
/-- values. -/
theorem c89 (h : Bil H a hs p) : acall tabA (aexec tabA Try.prog (N + 400)) 89 [.agg ⟨[.int .i64 p, .slice a hs.length cap]⟩] H = some (true, .int .i64 (isum (hs.map Hs.v)), H, H.size) := by
  refine call_quiet (k := 7) (rs := [.tmp 2]) rfl fn_89 rfl rfl rfl ?_ rfl
  have hl := h.ok.len
  simp (disch := (first | (simp only [ne_eq,Nat.reduceEqDiff,not_false_eq_true,Nat.reduceLT]; done) | omega | (simp only [yz] <;> omega) | fail)) only [↓yp,yq0,yq1,yq2,yq3,yq4,yl,ys0,ys1,Nat.reduceAdd,Nat.reduceMul,Nat.reduceSub,Nat.reduceBEq,Nat.reduceEqDiff,Nat.reduceLT,Nat.reduceLeDiff,reduceIte,Int.reduceAdd,Int.reduceSub,Int.reduceMul,Int.reduceLT,Int.reduceLE,Int.reduceEq,Int.reduceToNat,Int.reduceNeg,fitB,newC,endD,endR,yrg]
  refine c113 (g := 119) (f := Hs.v) (h.rw.fr (by (repeat (first | exact Fr.refl _ | assumption | refine Fr.allocd ?_ _ | refine Fr.kill ?_ (by first | assumption | omega) | refine Fr.put ?_ (by first | omega | (simp only [yz] <;> omega)) _)))) (fun h0 => by rw [h0] at hl; simp at hl) (by omega) (fun N H' x => c119) (by (first | omega | (simp only [yz] <;> omega))) (by omega) ?_
  intro b c H1 fr1 hb r1
  have f1 := fr1.size
  simp only [size_alloc] at f1
  have h77 := fun (N : Nat) => c77 (N := N) (cap := c) r1 (by rw [List.length_map]; omega) fun x hx => by have := map_in (fun y hy => (h.ok.ok y hy).v) x hx; omega
  rw [List.length_map] at h77
  simp (disch := (first | (simp only [ne_eq,Nat.reduceEqDiff,not_false_eq_true,Nat.reduceLT]; done) | omega | (simp only [yz] <;> omega) | fail)) only [↓yp,yq0,yq1,yq2,yq3,yq4,yl,ys0,ys1,Nat.reduceAdd,Nat.reduceMul,Nat.reduceSub,Nat.reduceBEq,Nat.reduceEqDiff,Nat.reduceLT,Nat.reduceLeDiff,reduceIte,Int.reduceAdd,Int.reduceSub,Int.reduceMul,Int.reduceLT,Int.reduceLE,Int.reduceEq,Int.reduceToNat,Int.reduceNeg,fitB,newC,endD,endR,yrg,h77]
theorem c88 (h : Bil H a hs p) : acall tabA (aexec tabA Try.prog (N + 500)) 88 [.agg ⟨[.int .i64 p, .slice a hs.length cap]⟩] H = some (true, .int .i64 (if isum (hs.map Hs.v) = 0 then 1 else 0), H, H.size) := by
  refine call_quiet (k := 12) (rs := [.tmp 2]) rfl fn_88 rfl rfl rfl ?_ rfl
  have hl := h.ok.len
  have h39 := fun (N : Nat) => c39 (N := N) (H := H.alloc (.rw [.int .i64 p, .slice a hs.length cap] 39 false [])) (p := p) (cap := cap) (h.rw.fr (by (repeat (first | exact Fr.refl _ | assumption | refine Fr.allocd ?_ _ | refine Fr.kill ?_ (by first | assumption | omega) | refine Fr.put ?_ (by first | omega | (simp only [yz] <;> omega)) _)))) (by omega)
  have h89 := fun (N : Nat) => c89 (N := N) (H := H.alloc (.rw [.int .i64 p, .slice a hs.length cap] 39 false [])) (cap := cap) (h.fr (by (repeat (first | exact Fr.refl _ | assumption | refine Fr.allocd ?_ _ | refine Fr.kill ?_ (by first | assumption | omega) | refine Fr.put ?_ (by first | omega | (simp only [yz] <;> omega)) _))))
  rw [h.ok.chk] at h39
  have b0 : decide ((0 : Int) = 0) = true := by simp
  cases hA : decide (isum (hs.map Hs.v) = 0)
  · rw [if_neg (of_decide_eq_false hA)]
    simp (disch := (first | (simp only [ne_eq,Nat.reduceEqDiff,not_false_eq_true,Nat.reduceLT]; done) | omega | (simp only [yz] <;> omega) | fail)) only [↓yp,yq0,yq1,yq2,yq3,yq4,yl,ys0,ys1,Nat.reduceAdd,Nat.reduceMul,Nat.reduceSub,Nat.reduceBEq,Nat.reduceEqDiff,Nat.reduceLT,Nat.reduceLeDiff,reduceIte,Int.reduceAdd,Int.reduceSub,Int.reduceMul,Int.reduceLT,Int.reduceLE,Int.reduceEq,Int.reduceToNat,Int.reduceNeg,fitB,newC,endD,endR,yrg,h39,h89,b0,hA]
  · rw [if_pos (of_decide_eq_true hA)]
    simp (disch := (first | (simp only [ne_eq,Nat.reduceEqDiff,not_false_eq_true,Nat.reduceLT]; done) | omega | (simp only [yz] <;> omega) | fail)) only [↓yp,yq0,yq1,yq2,yq3,yq4,yl,ys0,ys1,Nat.reduceAdd,Nat.reduceMul,Nat.reduceSub,Nat.reduceBEq,Nat.reduceEqDiff,Nat.reduceLT,Nat.reduceLeDiff,reduceIte,Int.reduceAdd,Int.reduceSub,Int.reduceMul,Int.reduceLT,Int.reduceLE,Int.reduceEq,Int.reduceToNat,Int.reduceNeg,fitB,newC,endD,endR,yrg,h39,h89,b0,hA]
end
end Go.Am
/- Exact shares in lowest terms. -/
namespace Go.Am
open Go.Proofs
variable {T : Tab} {P : Program} {N L : Nat} {H H' H'' : AHeap} {Q : Bool → Value → AHeap → Prop}
/-- A fraction in lowest terms. -/
def lowN (n A : Nat) : Int := ((n / Nat.gcd A n : Nat) : Int)
def lowD (n A : Nat) : Int := ((A / Nat.gcd A n : Nat) : Int)
theorem low_ok {n A : Nat} (hA : 0 < A) : 1 ≤ lowD n A ∧ lowD n A ≤ A ∧ lowN n A * A = n * lowD n A ∧ 0 ≤ lowN n A ∧ lowN n A ≤ n := by
  have hg : 0 < Nat.gcd A n := Nat.gcd_pos_of_pos_left n hA
  obtain ⟨x, hx⟩ := Nat.gcd_dvd_left A n
  obtain ⟨y, hy⟩ := Nat.gcd_dvd_right A n
  have e1 : A / Nat.gcd A n = x := by
    conv => lhs; lhs; rw [hx]
    exact Nat.mul_div_cancel_left x hg
  have e2 : n / Nat.gcd A n = y := by
    conv => lhs; lhs; rw [hy]
    exact Nat.mul_div_cancel_left y hg
  have hx1 : 1 ≤ x := by
    rcases Nat.eq_zero_or_pos x with h | h
    · subst h; simp at hx; omega
    · exact h
  unfold lowN lowD
  rw [e1, e2]
  refine ⟨by omega, ?_, ?_, by omega, ?_⟩
  · have : x ≤ A := by rw [hx]; exact Nat.le_mul_of_pos_left x hg
    omega
  · have : y * A = n * x := by
      conv => lhs; rw [hx]
      conv => rhs; lhs; rw [hy]
      rw [← Nat.mul_assoc, Nat.mul_comm y, Nat.mul_assoc]
    exact_mod_cast this
  · have : y ≤ n := by rw [hy]; exact Nat.le_mul_of_pos_left y hg
    omega
theorem mod_half {c r k : Nat} (h0 : 0 < r) (h1 : r < c) (h2 : c * r < 2 ^ (k + 1)) : r * (c % r) < 2 ^ k := by
  have e := Nat.div_add_mod c r
  have hq : 1 ≤ c / r := Nat.div_pos (Nat.le_of_lt h1) h0
  have hm : c % r < r := Nat.mod_lt _ h0
  have h3 : r ≤ r * (c / r) := Nat.le_mul_of_pos_right r hq
  have h4 : 2 * (c % r) ≤ c := by omega
  have h5 : r * (2 * (c % r)) ≤ r * c := Nat.mul_le_mul_left r h4
  rw [Nat.pow_succ] at h2
  rw [Nat.mul_left_comm, Nat.mul_comm r c] at h5
  omega
set_option maxHeartbeats 1000000 in
theorem c90 {n A : Nat} (hn : n ≤ 1000000) (hA : 0 < A ∧ A ≤ 100000) : acall tabA (aexec tabA Try.prog (N + 200)) 90 [.int .i64 (n : Nat), .int .i64 (A : Nat)] H = some (true, .agg ⟨[.int .i64 (lowN n A), .int .i64 (lowD n A)]⟩, H, H.size) := by
  refine call_quiet (k := 22) (rs := [.cell 4 82]) rfl fn_90 rfl rfl rfl ?_ rfl
  have hlow := low_ok (n := n) hA.1
  simp (disch := (first | (simp only [ne_eq,Nat.reduceEqDiff,not_false_eq_true,Nat.reduceLT]; done) | omega | (simp only [yz] <;> omega) | fail)) only [↓yp,yq0,yq1,yq2,yq3,yq4,yl,ys0,ys1,Nat.reduceAdd,Nat.reduceMul,Nat.reduceSub,Nat.reduceBEq,Nat.reduceEqDiff,Nat.reduceLT,Nat.reduceLeDiff,reduceIte,Int.reduceAdd,Int.reduceSub,Int.reduceMul,Int.reduceLT,Int.reduceLE,Int.reduceEq,Int.reduceToNat,Int.reduceNeg,fitB,newC,endD,endR,yrg]
  refine W_while (n := 22) 80 (fun k e H' => ∃ c r : Nat, 0 < c ∧ c ≤ 1000000 ∧ r ≤ 1000000 ∧ Nat.gcd c r = Nat.gcd A n ∧ (k = 41 ∧ c = A ∧ r = n ∨ k ≤ 40 ∧ r < c ∧ c * r < 2 ^ k) ∧ gt 22 e 5 = .int .i64 (c : Nat) ∧ gt 22 e 6 = .int .i64 (r : Nat) ∧ gt 22 e 0 = .int .i64 (n : Nat) ∧ gt 22 e 1 = .int .i64 (A : Nat) ∧ gt 22 e 4 = .pointer (some ⟨H.size, 0, none⟩) ∧ H' = H.alloc (.rw [.int .i64 0, .int .i64 0] 82 false []))
    ?_ 41 41 ⟨A, n, hA.1, by omega, by omega, rfl, .inl ⟨rfl, rfl, rfl⟩, by simp (disch := (first | (simp only [ne_eq,Nat.reduceEqDiff,not_false_eq_true,Nat.reduceLT]; done) | omega | (simp only [yz] <;> omega) | fail)) only [yg,Nat.reduceAdd,Nat.reduceEqDiff,Nat.reduceLT], by simp (disch := (first | (simp only [ne_eq,Nat.reduceEqDiff,not_false_eq_true,Nat.reduceLT]; done) | omega | (simp only [yz] <;> omega) | fail)) only [yg,Nat.reduceAdd,Nat.reduceEqDiff,Nat.reduceLT], by simp (disch := (first | (simp only [ne_eq,Nat.reduceEqDiff,not_false_eq_true,Nat.reduceLT]; done) | omega | (simp only [yz] <;> omega) | fail)) only [yg,Nat.reduceAdd,Nat.reduceEqDiff,Nat.reduceLT], by simp (disch := (first | (simp only [ne_eq,Nat.reduceEqDiff,not_false_eq_true,Nat.reduceLT]; done) | omega | (simp only [yz] <;> omega) | fail)) only [yg,Nat.reduceAdd,Nat.reduceEqDiff,Nat.reduceLT], by simp (disch := (first | (simp only [ne_eq,Nat.reduceEqDiff,not_false_eq_true,Nat.reduceLT]; done) | omega | (simp only [yz] <;> omega) | fail)) only [yg,Nat.reduceAdd,Nat.reduceEqDiff,Nat.reduceLT], rfl⟩ (by omega) (by omega)
  rintro M k e H' ⟨c, r, h0, hc, hr, hg, hk, g5, g6, g0, g1, g4, rfl⟩
  simp (disch := (first | (simp only [ne_eq,Nat.reduceEqDiff,not_false_eq_true,Nat.reduceLT]; done) | omega | (simp only [yz] <;> omega) | fail)) only [↓yp,yq0,yq1,yq2,yq3,yq4,yl,ys0,ys1,Nat.reduceAdd,Nat.reduceMul,Nat.reduceSub,Nat.reduceBEq,Nat.reduceEqDiff,Nat.reduceLT,Nat.reduceLeDiff,reduceIte,Int.reduceAdd,Int.reduceSub,Int.reduceMul,Int.reduceLT,Int.reduceLE,Int.reduceEq,Int.reduceToNat,Int.reduceNeg,fitB,newC,endD,endR,yrg,g5,g6]
  refine ⟨fun hB => ?_, fun hB => ?_⟩
  · have hr0 : 0 < r := by have := of_decide_eq_true hB; omega
    have hrem := fun (x y : Operand) => i64_rem (T := tabA) (P := Try.prog) (ty := 3) (x := x) (y := y) (a := (c : Int)) (b := (r : Int)) (by omega)
    have em : (c : Int).tmod (r : Int) = ((c % r : Nat) : Int) := by rw [Int.tmod_eq_emod_of_nonneg (by omega)]; rfl
    have hlt := Nat.mod_lt c hr0
    have hg2 : Nat.gcd r (c % r) = Nat.gcd A n := by rw [← hg, Nat.gcd_comm c r, Nat.gcd_rec r c, Nat.gcd_comm]
    have hk2 : ∃ k', k' < k ∧ k' ≤ 40 ∧ r * (c % r) < 2 ^ k' := by
      rcases hk with ⟨rfl, rfl, rfl⟩ | ⟨h1, h2, h3⟩
      · refine ⟨40, by omega, by omega, ?_⟩
        have : r * (c % r) ≤ 1000000 * 1000000 := Nat.mul_le_mul hr (by omega)
        exact Nat.lt_of_le_of_lt this (by decide)
      · cases k with
        | zero =>
          have : 1 ≤ c * r := Nat.mul_pos h0 hr0
          simp at h3; omega
        | succ k => exact ⟨k, by omega, by omega, mod_half hr0 h2 h3⟩
    obtain ⟨k', q1, q2, q3⟩ := hk2
    simp (disch := (first | (simp only [ne_eq,Nat.reduceEqDiff,not_false_eq_true,Nat.reduceLT]; done) | omega | (simp only [yz] <;> omega) | fail)) only [↓yp,yq0,yq1,yq2,yq3,yq4,yl,ys0,ys1,Nat.reduceAdd,Nat.reduceMul,Nat.reduceSub,Nat.reduceBEq,Nat.reduceEqDiff,Nat.reduceLT,Nat.reduceLeDiff,reduceIte,Int.reduceAdd,Int.reduceSub,Int.reduceMul,Int.reduceLT,Int.reduceLE,Int.reduceEq,Int.reduceToNat,Int.reduceNeg,fitB,newC,endD,endR,yrg,g5,g6]
    refine W_draw [] rfl (by kernel_rfl) (by kernel_rfl) (by (first | omega | (simp only [yz] <;> omega))) ?_
    simp (disch := (first | (simp only [ne_eq,Nat.reduceEqDiff,not_false_eq_true,Nat.reduceLT]; done) | omega | (simp only [yz] <;> omega) | fail)) only [↓yp,yq0,yq1,yq2,yq3,yq4,yl,ys0,ys1,Nat.reduceAdd,Nat.reduceMul,Nat.reduceSub,Nat.reduceBEq,Nat.reduceEqDiff,Nat.reduceLT,Nat.reduceLeDiff,reduceIte,Int.reduceAdd,Int.reduceSub,Int.reduceMul,Int.reduceLT,Int.reduceLE,Int.reduceEq,Int.reduceToNat,Int.reduceNeg,fitB,newC,endD,endR,yrg,g5,g6,hrem,em]
    refine ⟨k', q1, r, c % r, hr0, hr, by omega, hg2, .inr ⟨q2, hlt, q3⟩, ?_, ?_, ?_, ?_, ?_, rfl⟩
    · simp (disch := (first | (simp only [ne_eq,Nat.reduceEqDiff,not_false_eq_true,Nat.reduceLT]; done) | omega | (simp only [yz] <;> omega) | fail)) only [yg,Nat.reduceAdd,Nat.reduceEqDiff,Nat.reduceLT]
    · simp (disch := (first | (simp only [ne_eq,Nat.reduceEqDiff,not_false_eq_true,Nat.reduceLT]; done) | omega | (simp only [yz] <;> omega) | fail)) only [yg,Nat.reduceAdd,Nat.reduceEqDiff,Nat.reduceLT]
    · simp (disch := (first | (simp only [ne_eq,Nat.reduceEqDiff,not_false_eq_true,Nat.reduceLT]; done) | omega | (simp only [yz] <;> omega) | fail)) only [yg,Nat.reduceAdd,Nat.reduceEqDiff,Nat.reduceLT,g0]
    · simp (disch := (first | (simp only [ne_eq,Nat.reduceEqDiff,not_false_eq_true,Nat.reduceLT]; done) | omega | (simp only [yz] <;> omega) | fail)) only [yg,Nat.reduceAdd,Nat.reduceEqDiff,Nat.reduceLT,g1]
    · simp (disch := (first | (simp only [ne_eq,Nat.reduceEqDiff,not_false_eq_true,Nat.reduceLT]; done) | omega | (simp only [yz] <;> omega) | fail)) only [yg,Nat.reduceAdd,Nat.reduceEqDiff,Nat.reduceLT,g4]
  · have hr0 : r = 0 := by have := of_decide_eq_false hB; omega
    subst hr0
    rw [Nat.gcd_zero_right] at hg
    have eN : (n : Int).tdiv (c : Int) = lowN n A := by
      rw [Int.tdiv_eq_ediv_of_nonneg (by omega)]
      unfold lowN
      rw [← hg]; rfl
    have eD : (A : Int).tdiv (c : Int) = lowD n A := by
      rw [Int.tdiv_eq_ediv_of_nonneg (by omega)]
      unfold lowD
      rw [← hg]; rfl
    have w1 : w64 (lowN n A) = lowN n A := w64_of (by omega)
    have w2 : w64 (lowD n A) = lowD n A := w64_of (by omega)
    simp (disch := (first | (simp only [ne_eq,Nat.reduceEqDiff,not_false_eq_true,Nat.reduceLT]; done) | omega | (simp only [yz] <;> omega) | fail)) only [↓yp,yq0,yq1,yq2,yq3,yq4,yl,ys0,ys1,Nat.reduceAdd,Nat.reduceMul,Nat.reduceSub,Nat.reduceBEq,Nat.reduceEqDiff,Nat.reduceLT,Nat.reduceLeDiff,reduceIte,Int.reduceAdd,Int.reduceSub,Int.reduceMul,Int.reduceLT,Int.reduceLE,Int.reduceEq,Int.reduceToNat,Int.reduceNeg,fitB,newC,endD,endR,yrg]
    refine W_draw [7] rfl (by kernel_rfl) (by kernel_rfl) (by (first | omega | (simp only [yz] <;> omega))) ?_
    simp (disch := (first | (simp only [ne_eq,Nat.reduceEqDiff,not_false_eq_true,Nat.reduceLT]; done) | omega | (simp only [yz] <;> omega) | fail)) only [↓yp,yq0,yq1,yq2,yq3,yq4,yl,ys0,ys1,Nat.reduceAdd,Nat.reduceMul,Nat.reduceSub,Nat.reduceBEq,Nat.reduceEqDiff,Nat.reduceLT,Nat.reduceLeDiff,reduceIte,Int.reduceAdd,Int.reduceSub,Int.reduceMul,Int.reduceLT,Int.reduceLE,Int.reduceEq,Int.reduceToNat,Int.reduceNeg,fitB,newC,endD,endR,yrg,g5,g0,g1,g4,i64_quo (b := (c : Int)) (by omega),eN,eD,w1,w2,A_build st_bdS_82]
/-- A fraction. -/
def raE : Enc (Int × Int) := ⟨fun r => [.int .i64 r.1, .int .i64 r.2], 2, fun _ => rfl, fun _ => rfl⟩
theorem st_apS_73 : apS tabA 73 = some (82, 2, 16) := by kernel_rfl
/-- The exact share of a house. -/
def exR (p A : Int) (h : Hs) : Int × Int := (lowN (p * h.v).toNat A.toNat, lowD (p * h.v).toNat A.toNat)
section
variable {a : Option Addr} {cap : Nat} {hs : List Hs} {p : Int}
theorem vsum (h : BilOk p hs) : 0 ≤ isum (hs.map Hs.v) ∧ isum (hs.map Hs.v) ≤ 6000 := by
  have := isum_le (l := hs.map Hs.v) (m := 1000) (map_in fun y hy => (h.ok y hy).v)
  rw [List.length_map] at this
  have := h.len
  omega
theorem pv_bd (h : BilOk p hs) {x : Hs} (hx : x ∈ hs) : 0 ≤ p * x.v ∧ p * x.v ≤ 500000 := by
  have h1 := h.p
  have h2 := (h.ok x hx).v
  exact ⟨Int.mul_nonneg h1.1 h2.1, by have := Int.mul_le_mul h1.2 h2.2 h2.1 (by omega); omega⟩
theorem c37z (h : Bil H a hs p) (hz : isum (hs.map Hs.v) = 0) : acall tabA (aexec tabA Try.prog (N + 600)) 37 [.agg ⟨[.int .i64 p, .slice a hs.length cap]⟩] H = some (true, .tuple ⟨[.slice none 0 0, .int .i64 1]⟩, H, H.size) := by
  refine call_quiet (k := 35) (rs := [.tmp 2, .tmp 3]) rfl fn_37 rfl rfl rfl ?_ rfl
  have h88 := fun (N : Nat) => c88 (N := N) (H := H.alloc (.rw [.int .i64 p, .slice a hs.length cap] 39 false [])) (cap := cap) (h.fr (by (repeat (first | exact Fr.refl _ | assumption | refine Fr.allocd ?_ _ | refine Fr.kill ?_ (by first | assumption | omega) | refine Fr.put ?_ (by first | omega | (simp only [yz] <;> omega)) _))))
  rw [if_pos hz] at h88
  have b1 : decide ((1 : Int) = 0) = false := by simp
  simp (disch := (first | (simp only [ne_eq,Nat.reduceEqDiff,not_false_eq_true,Nat.reduceLT]; done) | omega | (simp only [yz] <;> omega) | fail)) only [↓yp,yq0,yq1,yq2,yq3,yq4,yl,ys0,ys1,Nat.reduceAdd,Nat.reduceMul,Nat.reduceSub,Nat.reduceBEq,Nat.reduceEqDiff,Nat.reduceLT,Nat.reduceLeDiff,reduceIte,Int.reduceAdd,Int.reduceSub,Int.reduceMul,Int.reduceLT,Int.reduceLE,Int.reduceEq,Int.reduceToNat,Int.reduceNeg,fitB,newC,endD,endR,yrg,h88,b1]
set_option maxHeartbeats 2000000 in
/-- Exact. -/
theorem c37 (h : Bil H a hs p) (hz : isum (hs.map Hs.v) ≠ 0) (hL : L ≤ H.size) {M : Nat} (hM : 1000 ≤ M)
    (hq : ∀ b c H', Fr H H' → H.size ≤ b → Rw raE H' (some ⟨b, 0, none⟩) (hs.map (exR p (isum (hs.map Hs.v)))) → Q false (.tuple ⟨[.slice (some ⟨b, 0, none⟩) hs.length c, .int .i64 0]⟩) H') : resK (acall tabA (aexec tabA Try.prog M) 37 [.agg ⟨[.int .i64 p, .slice a hs.length cap]⟩] H) L Q := by
  obtain ⟨N, rfl⟩ : ∃ N, M = N + 1000 := ⟨M - 1000, by omega⟩
  refine call_fls (R := fun v H' => ∃ b c, v = .tuple ⟨[.slice (some ⟨b, 0, none⟩) hs.length c, .int .i64 0]⟩ ∧ Fr H H' ∧ H.size ≤ b ∧ Rw raE H' (some ⟨b, 0, none⟩) (hs.map (exR p (isum (hs.map Hs.v))))) (k := 35) (rs := [.tmp 2, .tmp 3]) rfl fn_37 rfl rfl rfl hL ?_ ?_ ?_
  rotate_left
  · rintro v H' ⟨b, c, rfl, -⟩; rfl
  · rintro v H' ⟨b, c, rfl, h1, h2, h3⟩
    exact hq _ _ _ h1 h2 h3
  have hl := h.ok.len
  have hv := vsum h.ok
  obtain ⟨A, hA⟩ : ∃ A : Nat, isum (hs.map Hs.v) = A := ⟨(isum (hs.map Hs.v)).toNat, by omega⟩
  have h88 := fun (N : Nat) => c88 (N := N) (H := H.alloc (.rw [.int .i64 p, .slice a hs.length cap] 39 false [])) (cap := cap) (h.fr (by (repeat (first | exact Fr.refl _ | assumption | refine Fr.allocd ?_ _ | refine Fr.kill ?_ (by first | assumption | omega) | refine Fr.put ?_ (by first | omega | (simp only [yz] <;> omega)) _))))
  have h89 := fun (N : Nat) => c89 (N := N) (H := H.alloc (.rw [.int .i64 p, .slice a hs.length cap] 39 false [])) (cap := cap) (h.fr (by (repeat (first | exact Fr.refl _ | assumption | refine Fr.allocd ?_ _ | refine Fr.kill ?_ (by first | assumption | omega) | refine Fr.put ?_ (by first | omega | (simp only [yz] <;> omega)) _))))
  rw [if_neg hz] at h88
  rw [hA] at h89 hz hv ⊢
  have b0 : decide ((0 : Int) = 0) = true := by simp
  simp (disch := (first | (simp only [ne_eq,Nat.reduceEqDiff,not_false_eq_true,Nat.reduceLT]; done) | omega | (simp only [yz] <;> omega) | fail)) only [↓yp,yq0,yq1,yq2,yq3,yq4,yl,ys0,ys1,Nat.reduceAdd,Nat.reduceMul,Nat.reduceSub,Nat.reduceBEq,Nat.reduceEqDiff,Nat.reduceLT,Nat.reduceLeDiff,reduceIte,Int.reduceAdd,Int.reduceSub,Int.reduceMul,Int.reduceLT,Int.reduceLE,Int.reduceEq,Int.reduceToNat,Int.reduceNeg,fitB,newC,endD,endR,yrg,h88,h89,b0,lenV_slice st_esS_37]
  obtain ⟨f, hf⟩ : ∃ f, hs.map (exR p A) = f := ⟨_, rfl⟩
  have hfl : f.length = hs.length := by rw [← hf, List.length_map]
  rw [hf]
  refine W_while (n := 35) 300 (fun k e H' => ∃ (i : Nat) (v : Value) (S : Nat → Prop), k = hs.length - i ∧ i ≤ hs.length ∧ gt 35 e 19 = .int .i64 (i : Nat) ∧ gt 35 e 18 = .int .i64 hs.length ∧ gt 35 e 17 = .slice a hs.length cap ∧ gt 35 e 1 = .pointer (some ⟨H.size, 0, none⟩) ∧ gt 35 e 5 = .int .i64 (A : Nat) ∧ gt 35 e 6 = v ∧ Fr H H' ∧ H.size < H'.size ∧ H'.get H.size = .rw [.int .i64 p, .slice a hs.length cap] 39 false [] ∧ Gw H' H.size S v i (raE.fl (f.take i)) 82 2)
    ?_ 6 hs.length ⟨0, _, _, by omega, by omega, by simp (disch := (first | (simp only [ne_eq,Nat.reduceEqDiff,not_false_eq_true,Nat.reduceLT]; done) | omega | (simp only [yz] <;> omega) | fail)) only [yg,Nat.reduceAdd,Nat.reduceEqDiff,Nat.reduceLT]; rfl, by simp (disch := (first | (simp only [ne_eq,Nat.reduceEqDiff,not_false_eq_true,Nat.reduceLT]; done) | omega | (simp only [yz] <;> omega) | fail)) only [yg,Nat.reduceAdd,Nat.reduceEqDiff,Nat.reduceLT], by simp (disch := (first | (simp only [ne_eq,Nat.reduceEqDiff,not_false_eq_true,Nat.reduceLT]; done) | omega | (simp only [yz] <;> omega) | fail)) only [yg,Nat.reduceAdd,Nat.reduceEqDiff,Nat.reduceLT], by simp (disch := (first | (simp only [ne_eq,Nat.reduceEqDiff,not_false_eq_true,Nat.reduceLT]; done) | omega | (simp only [yz] <;> omega) | fail)) only [yg,Nat.reduceAdd,Nat.reduceEqDiff,Nat.reduceLT], by simp (disch := (first | (simp only [ne_eq,Nat.reduceEqDiff,not_false_eq_true,Nat.reduceLT]; done) | omega | (simp only [yz] <;> omega) | fail)) only [yg,Nat.reduceAdd,Nat.reduceEqDiff,Nat.reduceLT], by simp (disch := (first | (simp only [ne_eq,Nat.reduceEqDiff,not_false_eq_true,Nat.reduceLT]; done) | omega | (simp only [yz] <;> omega) | fail)) only [yg,Nat.reduceAdd,Nat.reduceEqDiff,Nat.reduceLT], by (repeat (first | exact Fr.refl _ | assumption | refine Fr.allocd ?_ _ | refine Fr.kill ?_ (by first | assumption | omega) | refine Fr.put ?_ (by first | omega | (simp only [yz] <;> omega)) _)), by (first | omega | (simp only [yz] <;> omega)), by simp (disch := (first | (simp only [ne_eq,Nat.reduceEqDiff,not_false_eq_true,Nat.reduceLT]; done) | omega | (simp only [yz] <;> omega) | fail)) only [yg,Nat.reduceAdd,Nat.reduceEqDiff,Nat.reduceLT], Gw.none⟩ (by omega) (by omega)
  rintro M1 k e H1 ⟨i, v, S, rfl, hi, g19, g18, g17, g1, g5, g6, fr, hsz, hb, gw⟩
  have f0 := fr.size
  simp (disch := (first | (simp only [ne_eq,Nat.reduceEqDiff,not_false_eq_true,Nat.reduceLT]; done) | omega | (simp only [yz] <;> omega) | fail)) only [↓yp,yq0,yq1,yq2,yq3,yq4,yl,ys0,ys1,Nat.reduceAdd,Nat.reduceMul,Nat.reduceSub,Nat.reduceBEq,Nat.reduceEqDiff,Nat.reduceLT,Nat.reduceLeDiff,reduceIte,Int.reduceAdd,Int.reduceSub,Int.reduceMul,Int.reduceLT,Int.reduceLE,Int.reduceEq,Int.reduceToNat,Int.reduceNeg,fitB,newC,endD,endR,yrg,g19,g18]
  refine ⟨fun hT => ?_, fun hT => ?_⟩
  · have hlt : i < hs.length := by simpa using hT
    obtain ⟨s, hp⟩ : ∃ s, hs[i]? = some s := ⟨hs[i], by simp [hlt]⟩
    obtain ⟨bl, o, c, eb, hbl, hc, hqq⟩ := (h.rw.fr fr).at_ hp
    have q : part c (o + i * 3) 4 = some (.agg ⟨s.enc⟩) := part_of hqq rfl
    have hw2 : w64 ((i : Int) + 1) = ((i + 1 : Nat) : Int) := by rw [w64_of (by omega)]; omega
    simp only [Hs.enc] at q
    subst eb
    have hpv := pv_bd h.ok (List.mem_of_getElem? hp)
    obtain ⟨n, hn⟩ : ∃ n : Nat, p * s.v = n := ⟨(p * s.v).toNat, by omega⟩
    rw [hn] at hpv
    have w1 : w64 (p * s.v) = (n : Int) := by rw [w64_of (by omega), hn]
    have hp' : f[i]? = some (lowN n A, lowD n A) := by rw [← hf, List.getElem?_map, hp]; show some (exR p A s) = _; unfold exR; rw [hn, Int.toNat_natCast, Int.toNat_natCast]
    have h90 := fun (N : Nat) (H : AHeap) => c90 (N := N) (H := H) (n := n) (A := A) (by omega) (by omega)
    simp (disch := (first | (simp only [ne_eq,Nat.reduceEqDiff,not_false_eq_true,Nat.reduceLT]; done) | omega | (simp only [yz] <;> omega) | fail)) only [↓yp,yq0,yq1,yq2,yq3,yq4,yl,ys0,ys1,Nat.reduceAdd,Nat.reduceMul,Nat.reduceSub,Nat.reduceBEq,Nat.reduceEqDiff,Nat.reduceLT,Nat.reduceLeDiff,reduceIte,Int.reduceAdd,Int.reduceSub,Int.reduceMul,Int.reduceLT,Int.reduceLE,Int.reduceEq,Int.reduceToNat,Int.reduceNeg,fitB,newC,endD,endR,yrg,g19,g17,g1,g5,g6,hb,A_indexSlice st_esS_37,hc,q,w1,h90,A_buildSlice st_brS_73_1]
    refine gw_append (i := i) (cs := raE.fl (f.take i)) (news := [.int .i64 (lowN n A), .int .i64 (lowD n A)]) st_apS_73 (gw.fr (by (repeat (first | exact Fr.refl _ | assumption | refine Fr.allocd ?_ _ | refine Fr.kill ?_ (by first | assumption | omega) | refine Fr.put ?_ (by first | omega | (simp only [yz] <;> omega)) _)))) (by (first | omega | (simp only [yz] <;> omega))) (by rw [fl_length, List.length_take_of_le (by omega)]; rfl) (by unfold srcCells; simp (disch := (first | (simp only [ne_eq,Nat.reduceEqDiff,not_false_eq_true,Nat.reduceLT]; done) | omega | (simp only [yz] <;> omega) | fail)) only [yg,Nat.reduceAdd,Nat.reduceEqDiff,Nat.reduceLT]; rfl) (by omega) (by omega) rfl (by omega) ?_
    intro a1 c1 H2 hs2 fs2 gw1
    simp only [size_alloc,size_put] at hs2 fs2
    rw [show raE.fl (f.take i) ++ [Value.int .i64 (lowN n A), Value.int .i64 (lowD n A)] = raE.fl (f.take (i + 1)) from take_fl (E := raE) hp'] at gw1
    have old : ∀ q, q ≤ H.size → H2.get q = H1.get q := fun q hq => by rw [fs2 q (by omega) (gw.low q (by omega)), get_alloc_lt (by (first | omega | (simp only [yz] <;> omega))), get_put_ne (by omega), get_alloc_lt (by omega)]
    simp (disch := (first | (simp only [ne_eq,Nat.reduceEqDiff,not_false_eq_true,Nat.reduceLT]; done) | omega | (simp only [yz] <;> omega) | fail)) only [↓yp,yq0,yq1,yq2,yq3,yq4,yl,ys0,ys1,Nat.reduceAdd,Nat.reduceMul,Nat.reduceSub,Nat.reduceBEq,Nat.reduceEqDiff,Nat.reduceLT,Nat.reduceLeDiff,reduceIte,Int.reduceAdd,Int.reduceSub,Int.reduceMul,Int.reduceLT,Int.reduceLE,Int.reduceEq,Int.reduceToNat,Int.reduceNeg,fitB,newC,endD,endR,yrg,g19,hw2]
    refine ⟨hs.length - (i + 1), by omega, i + 1, _, _, rfl, by omega, ?_, ?_, ?_, ?_, ?_, ?_, ?_, by omega, (old _ (Nat.le_refl _)).trans hb, gw1⟩
    · simp (disch := (first | (simp only [ne_eq,Nat.reduceEqDiff,not_false_eq_true,Nat.reduceLT]; done) | omega | (simp only [yz] <;> omega) | fail)) only [yg,Nat.reduceAdd,Nat.reduceEqDiff,Nat.reduceLT]
    · simp (disch := (first | (simp only [ne_eq,Nat.reduceEqDiff,not_false_eq_true,Nat.reduceLT]; done) | omega | (simp only [yz] <;> omega) | fail)) only [yg,Nat.reduceAdd,Nat.reduceEqDiff,Nat.reduceLT,g18]
    · simp (disch := (first | (simp only [ne_eq,Nat.reduceEqDiff,not_false_eq_true,Nat.reduceLT]; done) | omega | (simp only [yz] <;> omega) | fail)) only [yg,Nat.reduceAdd,Nat.reduceEqDiff,Nat.reduceLT,g17]
    · simp (disch := (first | (simp only [ne_eq,Nat.reduceEqDiff,not_false_eq_true,Nat.reduceLT]; done) | omega | (simp only [yz] <;> omega) | fail)) only [yg,Nat.reduceAdd,Nat.reduceEqDiff,Nat.reduceLT,g1]
    · simp (disch := (first | (simp only [ne_eq,Nat.reduceEqDiff,not_false_eq_true,Nat.reduceLT]; done) | omega | (simp only [yz] <;> omega) | fail)) only [yg,Nat.reduceAdd,Nat.reduceEqDiff,Nat.reduceLT,g5]
    · simp (disch := (first | (simp only [ne_eq,Nat.reduceEqDiff,not_false_eq_true,Nat.reduceLT]; done) | omega | (simp only [yz] <;> omega) | fail)) only [yg,Nat.reduceAdd,Nat.reduceEqDiff,Nat.reduceLT]
    · exact ⟨by omega, fun q hq => by rw [old q (by omega)]; exact fr.same q hq⟩
  have hie : i = hs.length := by have := of_decide_eq_false hT; omega
  subst hie
  rw [List.take_of_length_le (by omega)] at gw
  obtain ⟨bv, al, ev, hS, -⟩ := gw.cons (by omega)
  subst ev
  simp (disch := (first | (simp only [ne_eq,Nat.reduceEqDiff,not_false_eq_true,Nat.reduceLT]; done) | omega | (simp only [yz] <;> omega) | fail)) only [↓yp,yq0,yq1,yq2,yq3,yq4,yl,ys0,ys1,Nat.reduceAdd,Nat.reduceMul,Nat.reduceSub,Nat.reduceBEq,Nat.reduceEqDiff,Nat.reduceLT,Nat.reduceLeDiff,reduceIte,Int.reduceAdd,Int.reduceSub,Int.reduceMul,Int.reduceLT,Int.reduceLE,Int.reduceEq,Int.reduceToNat,Int.reduceNeg,fitB,newC,endD,endR,yrg,g6]
  refine ⟨bv, _, rfl, fr, by have := (gw.own _ hS).1; omega, (Gw.rx (k := 0) (E := raE) (l := f) (c := OPEN + 2) (el := 82) (tb := H.size) (S := S) ?_ (fun h => by have := (gw.own 0 h).1; omega)).rw⟩
  rw [hfl]
  exact gw
end
end Go.Am
