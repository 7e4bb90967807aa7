/- Bills: their error, the numbers of houses, exact shares. -/
import Derived.Test.YtnibabkgeolenaaT33
set_option linter.unusedSimpArgs false
set_option linter.unusedVariables false
namespace Go.Am
open Go.Proofs
variable {T : Tab} {P : Program} {N L : Nat} {H H' H'' : AHeap} {Q : Bool → Value → AHeap → Prop}
/-- A house: its value, what it pays at least and at most. -/
structure Hs where
  v : Int
  l : Int
  m : Int
def Hs.enc (h : Hs) : List Value := [.int .i64 h.v, .int .i64 h.l, .int .i64 h.m]
def hsE : Enc Hs := ⟨Hs.enc, 3, fun _ => rfl, fun _ => rfl⟩
def Hs.isB (h : Hs) : Bool := wi h.v 0 1000 && (wi h.m 0 500 && wi h.l 0 h.m)
structure Hs.Ok (h : Hs) : Prop where
  v : 0 ≤ h.v ∧ h.v ≤ 1000
  m : 0 ≤ h.m ∧ h.m ≤ 500
  l : 0 ≤ h.l ∧ h.l ≤ h.m
theorem Hs.Ok.is {h : Hs} (k : h.Ok) : h.isB = true := by
  unfold Hs.isB wi
  simp only [Bool.and_eq_true,decide_eq_true_eq]
  exact ⟨k.v, k.m, k.l⟩
/-- The error of a bill. -/
def chkB (p : Int) (hs : List Hs) : Int := bif wi p 0 500 then bif wi hs.length 1 6 then bif hs.all Hs.isB then 0 else 4 else 3 else 4
structure BilOk (p : Int) (hs : List Hs) : Prop where
  p : 0 ≤ p ∧ p ≤ 500
  len : 1 ≤ hs.length ∧ hs.length ≤ 6
  ok : ∀ h ∈ hs, h.Ok
theorem BilOk.chk {p : Int} {hs : List Hs} (h : BilOk p hs) : chkB p hs = 0 := by
  have h1 : wi p 0 500 = true := by unfold wi; have := h.p; simp; omega
  have h2 : wi hs.length 1 6 = true := by unfold wi; have := h.len; simp; omega
  have h3 : hs.all Hs.isB = true := List.all_eq_true.2 fun x hx => (h.ok x hx).is
  unfold chkB
  rw [h1, h2, h3]; rfl
theorem c93 {h : Hs} : acall tabA (aexec tabA Try.prog (N + 60)) 93 [.agg ⟨h.enc⟩] H = some (true, .bool h.isB, H, H.size) := by
  refine call_quiet (k := 18) (rs := [.tmp 2]) rfl fn_93 rfl rfl rfl ?_ rfl
  unfold Hs.isB
  have h57 := fun (N : Nat) (H : AHeap) (n lo hi : Int) => c57 (N := N) (H := H) (n := n) (lo := lo) (hi := hi)
  cases hA : wi h.v 0 1000
  · simp (disch := (first | (simp only [ne_eq,Nat.reduceEqDiff,not_false_eq_true,Nat.reduceLT]; done) | omega | (simp only [yz] <;> omega) | fail)) only [↓yp,yq0,yq1,yq2,yq3,yq4,yl,ys0,ys1,Nat.reduceAdd,Nat.reduceMul,Nat.reduceSub,Nat.reduceBEq,Nat.reduceEqDiff,Nat.reduceLT,Nat.reduceLeDiff,reduceIte,Int.reduceAdd,Int.reduceSub,Int.reduceMul,Int.reduceLT,Int.reduceLE,Int.reduceEq,Int.reduceToNat,Int.reduceNeg,fitB,newC,endD,endR,yrg,Hs.enc,h57,hA]
  cases hB : wi h.m 0 500
  · simp (disch := (first | (simp only [ne_eq,Nat.reduceEqDiff,not_false_eq_true,Nat.reduceLT]; done) | omega | (simp only [yz] <;> omega) | fail)) only [↓yp,yq0,yq1,yq2,yq3,yq4,yl,ys0,ys1,Nat.reduceAdd,Nat.reduceMul,Nat.reduceSub,Nat.reduceBEq,Nat.reduceEqDiff,Nat.reduceLT,Nat.reduceLeDiff,reduceIte,Int.reduceAdd,Int.reduceSub,Int.reduceMul,Int.reduceLT,Int.reduceLE,Int.reduceEq,Int.reduceToNat,Int.reduceNeg,fitB,newC,endD,endR,yrg,Hs.enc,h57,hA,hB]
  · simp (disch := (first | (simp only [ne_eq,Nat.reduceEqDiff,not_false_eq_true,Nat.reduceLT]; done) | omega | (simp only [yz] <;> omega) | fail)) only [↓yp,yq0,yq1,yq2,yq3,yq4,yl,ys0,ys1,Nat.reduceAdd,Nat.reduceMul,Nat.reduceSub,Nat.reduceBEq,Nat.reduceEqDiff,Nat.reduceLT,Nat.reduceLeDiff,reduceIte,Int.reduceAdd,Int.reduceSub,Int.reduceMul,Int.reduceLT,Int.reduceLE,Int.reduceEq,Int.reduceToNat,Int.reduceNeg,fitB,newC,endD,endR,yrg,Hs.enc,h57,hA,hB]
/-- Of all elements a function is asked. -/
theorem c92 {a : Option Addr} {cap g : Nat} {ps : List Hs} {p : Hs → Bool} (hs : Rw hsE H a ps) (hl : ps.length ≤ 16) (hp : ∀ (N : Nat) (H' : AHeap) (x : Hs), x ∈ ps → acall tabA (aexec tabA Try.prog (N + 90)) g [.agg ⟨x.enc⟩] H' = some (true, .bool (p x), H', H'.size)) :
    acall tabA (aexec tabA Try.prog (N + 170)) 92 [.slice a ps.length cap, .func (.func g) ⟨[]⟩ ⟨[]⟩] H = some (true, .bool (ps.all p), H, H.size) := by
  refine call_quiet (k := 18) (rs := [.tmp 4]) rfl fn_92 rfl rfl rfl ?_ rfl
  simp (disch := (first | (simp only [ne_eq,Nat.reduceEqDiff,not_false_eq_true,Nat.reduceLT]; done) | omega | (simp only [yz] <;> omega) | fail)) only [↓yp,yq0,yq1,yq2,yq3,yq4,yl,ys0,ys1,Nat.reduceAdd,Nat.reduceMul,Nat.reduceSub,Nat.reduceBEq,Nat.reduceEqDiff,Nat.reduceLT,Nat.reduceLeDiff,reduceIte,Int.reduceAdd,Int.reduceSub,Int.reduceMul,Int.reduceLT,Int.reduceLE,Int.reduceEq,Int.reduceToNat,Int.reduceNeg,fitB,newC,endD,endR,yrg,lenV_slice st_esS_37]
  refine W_while (n := 18) 100 (fun k e H' => ∃ i, k = ps.length - i ∧ i ≤ ps.length ∧ gt 18 e 9 = .int .i64 (i : Nat) ∧ gt 18 e 8 = .int .i64 ps.length ∧ gt 18 e 7 = .slice a ps.length cap ∧ gt 18 e 1 = .func (.func g) ⟨[]⟩ ⟨[]⟩ ∧ Fr H H' ∧ ∀ j s, j < i → ps[j]? = some s → p s = true)
    ?_ 16 ps.length ⟨0, by omega, by omega, by simp (disch := (first | (simp only [ne_eq,Nat.reduceEqDiff,not_false_eq_true,Nat.reduceLT]; done) | omega | (simp only [yz] <;> omega) | fail)) only [yg,Nat.reduceAdd,Nat.reduceEqDiff,Nat.reduceLT]; rfl, by simp (disch := (first | (simp only [ne_eq,Nat.reduceEqDiff,not_false_eq_true,Nat.reduceLT]; done) | omega | (simp only [yz] <;> omega) | fail)) only [yg,Nat.reduceAdd,Nat.reduceEqDiff,Nat.reduceLT], by simp (disch := (first | (simp only [ne_eq,Nat.reduceEqDiff,not_false_eq_true,Nat.reduceLT]; done) | omega | (simp only [yz] <;> omega) | fail)) only [yg,Nat.reduceAdd,Nat.reduceEqDiff,Nat.reduceLT], by simp (disch := (first | (simp only [ne_eq,Nat.reduceEqDiff,not_false_eq_true,Nat.reduceLT]; done) | omega | (simp only [yz] <;> omega) | fail)) only [yg,Nat.reduceAdd,Nat.reduceEqDiff,Nat.reduceLT], Fr.refl _, fun j s hj => by omega⟩ (by omega) (by omega)
  rintro M k e H' ⟨i, rfl, hi, g9, g8, g7, g1, fr, hj⟩
  have f0 := fr.size
  have fs := fr.same
  simp (disch := (first | (simp only [ne_eq,Nat.reduceEqDiff,not_false_eq_true,Nat.reduceLT]; done) | omega | (simp only [yz] <;> omega) | fail)) only [↓yp,yq0,yq1,yq2,yq3,yq4,yl,ys0,ys1,Nat.reduceAdd,Nat.reduceMul,Nat.reduceSub,Nat.reduceBEq,Nat.reduceEqDiff,Nat.reduceLT,Nat.reduceLeDiff,reduceIte,Int.reduceAdd,Int.reduceSub,Int.reduceMul,Int.reduceLT,Int.reduceLE,Int.reduceEq,Int.reduceToNat,Int.reduceNeg,fitB,newC,endD,endR,yrg,g9,g8,g7,g1]
  refine ⟨fun hlt => ?_, fun hlt => ?_⟩
  · have hi' : i < ps.length := by simpa using hlt
    obtain ⟨x, hx⟩ : ∃ x, ps[i]? = some x := ⟨ps[i], by simp [hi']⟩
    obtain ⟨b, o, c, rfl, hb, hc, hq⟩ := hs.at_ hx
    have q : part c (o + i * 3) 4 = some (.agg ⟨x.enc⟩) := part_of hq rfl
    have hc' : cellsOf (H'.get b) = some c := by rw [fs b hb]; exact hc
    have hps := fun (N : Nat) (H' : AHeap) => hp N H' x (List.mem_of_getElem? hx)
    simp only [Hs.enc] at q hps
    simp (disch := (first | (simp only [ne_eq,Nat.reduceEqDiff,not_false_eq_true,Nat.reduceLT]; done) | omega | (simp only [yz] <;> omega) | fail)) only [↓yp,yq0,yq1,yq2,yq3,yq4,yl,ys0,ys1,Nat.reduceAdd,Nat.reduceMul,Nat.reduceSub,Nat.reduceBEq,Nat.reduceEqDiff,Nat.reduceLT,Nat.reduceLeDiff,reduceIte,Int.reduceAdd,Int.reduceSub,Int.reduceMul,Int.reduceLT,Int.reduceLE,Int.reduceEq,Int.reduceToNat,Int.reduceNeg,fitB,newC,endD,endR,yrg,g9,g8,g7,g1,A_indexSlice st_esS_37,hc',q,hps]
    refine ⟨fun hA => ?_, fun hA => ?_⟩
    rotate_left
    · have : ps.all p = false := by rw [List.all_eq_false]; exact ⟨x, List.mem_of_getElem? hx, by rw [hA]; simp⟩
      simp (disch := (first | (simp only [ne_eq,Nat.reduceEqDiff,not_false_eq_true,Nat.reduceLT]; done) | omega | (simp only [yz] <;> omega) | fail)) only [↓yp,yq0,yq1,yq2,yq3,yq4,yl,ys0,ys1,Nat.reduceAdd,Nat.reduceMul,Nat.reduceSub,Nat.reduceBEq,Nat.reduceEqDiff,Nat.reduceLT,Nat.reduceLeDiff,reduceIte,Int.reduceAdd,Int.reduceSub,Int.reduceMul,Int.reduceLT,Int.reduceLE,Int.reduceEq,Int.reduceToNat,Int.reduceNeg,fitB,newC,endD,endR,yrg,hA,this]
    have hw2 : w64 ((i : Int) + 1) = ((i + 1 : Nat) : Int) := by rw [w64_of (by omega)]; omega
    simp (disch := (first | (simp only [ne_eq,Nat.reduceEqDiff,not_false_eq_true,Nat.reduceLT]; done) | omega | (simp only [yz] <;> omega) | fail)) only [↓yp,yq0,yq1,yq2,yq3,yq4,yl,ys0,ys1,Nat.reduceAdd,Nat.reduceMul,Nat.reduceSub,Nat.reduceBEq,Nat.reduceEqDiff,Nat.reduceLT,Nat.reduceLeDiff,reduceIte,Int.reduceAdd,Int.reduceSub,Int.reduceMul,Int.reduceLT,Int.reduceLE,Int.reduceEq,Int.reduceToNat,Int.reduceNeg,fitB,newC,endD,endR,yrg,hA,g9,g8,g7,g1,hw2]
    refine ⟨ps.length - (i + 1), by omega, i + 1, rfl, by omega, ?_, ?_, ?_, ?_, by (repeat (first | exact Fr.refl _ | assumption | refine Fr.allocd ?_ _ | refine Fr.kill ?_ (by first | assumption | omega) | refine Fr.put ?_ (by first | omega | (simp only [yz] <;> omega)) _)), ?_⟩
    · simp (disch := (first | (simp only [ne_eq,Nat.reduceEqDiff,not_false_eq_true,Nat.reduceLT]; done) | omega | (simp only [yz] <;> omega) | fail)) only [yg,Nat.reduceAdd,Nat.reduceEqDiff,Nat.reduceLT]
    · simp (disch := (first | (simp only [ne_eq,Nat.reduceEqDiff,not_false_eq_true,Nat.reduceLT]; done) | omega | (simp only [yz] <;> omega) | fail)) only [yg,Nat.reduceAdd,Nat.reduceEqDiff,Nat.reduceLT,g8]
    · simp (disch := (first | (simp only [ne_eq,Nat.reduceEqDiff,not_false_eq_true,Nat.reduceLT]; done) | omega | (simp only [yz] <;> omega) | fail)) only [yg,Nat.reduceAdd,Nat.reduceEqDiff,Nat.reduceLT,g7]
    · simp (disch := (first | (simp only [ne_eq,Nat.reduceEqDiff,not_false_eq_true,Nat.reduceLT]; done) | omega | (simp only [yz] <;> omega) | fail)) only [yg,Nat.reduceAdd,Nat.reduceEqDiff,Nat.reduceLT,g1]
    · intro j t hj' ht
      by_cases e : j = i
      · subst e; rw [hx] at ht; cases ht; exact hA
      · exact hj j t (by omega) ht
  · have hi' : ¬ i < ps.length := by simpa using hlt
    have : ps.all p = true := by
      rw [List.all_eq_true]
      intro s hs'
      obtain ⟨j, hj'⟩ := List.getElem?_of_mem hs'
      have := (List.getElem?_eq_some_iff.1 hj').1
      exact hj j s (by omega) hj'
    simp (disch := (first | (simp only [ne_eq,Nat.reduceEqDiff,not_false_eq_true,Nat.reduceLT]; done) | omega | (simp only [yz] <;> omega) | fail)) only [↓yp,yq0,yq1,yq2,yq3,yq4,yl,ys0,ys1,Nat.reduceAdd,Nat.reduceMul,Nat.reduceSub,Nat.reduceBEq,Nat.reduceEqDiff,Nat.reduceLT,Nat.reduceLeDiff,reduceIte,Int.reduceAdd,Int.reduceSub,Int.reduceMul,Int.reduceLT,Int.reduceLE,Int.reduceEq,Int.reduceToNat,Int.reduceNeg,fitB,newC,endD,endR,yrg,this]
theorem c114 {h : Hs} : acall tabA (aexec tabA Try.prog (N + 30)) 114 [.agg ⟨h.enc⟩] H = some (true, .int .i64 h.l, H, H.size) := by
  refine call_quiet (k := 5) (rs := [.tmp 2]) rfl fn_114 rfl rfl rfl ?_ rfl
  simp (disch := (first | (simp only [ne_eq,Nat.reduceEqDiff,not_false_eq_true,Nat.reduceLT]; done) | omega | (simp only [yz] <;> omega) | fail)) only [↓yp,yq0,yq1,yq2,yq3,yq4,yl,ys0,ys1,Nat.reduceAdd,Nat.reduceMul,Nat.reduceSub,Nat.reduceBEq,Nat.reduceEqDiff,Nat.reduceLT,Nat.reduceLeDiff,reduceIte,Int.reduceAdd,Int.reduceSub,Int.reduceMul,Int.reduceLT,Int.reduceLE,Int.reduceEq,Int.reduceToNat,Int.reduceNeg,fitB,newC,endD,endR,yrg,Hs.enc]
theorem c115 {h : Hs} : acall tabA (aexec tabA Try.prog (N + 30)) 115 [.agg ⟨h.enc⟩] H = some (true, .int .i64 h.m, H, H.size) := by
  refine call_quiet (k := 5) (rs := [.tmp 2]) rfl fn_115 rfl rfl rfl ?_ rfl
  simp (disch := (first | (simp only [ne_eq,Nat.reduceEqDiff,not_false_eq_true,Nat.reduceLT]; done) | omega | (simp only [yz] <;> omega) | fail)) only [↓yp,yq0,yq1,yq2,yq3,yq4,yl,ys0,ys1,Nat.reduceAdd,Nat.reduceMul,Nat.reduceSub,Nat.reduceBEq,Nat.reduceEqDiff,Nat.reduceLT,Nat.reduceLeDiff,reduceIte,Int.reduceAdd,Int.reduceSub,Int.reduceMul,Int.reduceLT,Int.reduceLE,Int.reduceEq,Int.reduceToNat,Int.reduceNeg,fitB,newC,endD,endR,yrg,Hs.enc]
/-- A bill that is given. -/
structure Bil (H : AHeap) (a : Option Addr) (hs : List Hs) (p : Int) : Prop where
  rw : Rw hsE H a hs
  ok : BilOk p hs
theorem Bil.fr {a : Option Addr} {hs : List Hs} {p : Int} (h : Bil H a hs p) (f : Fr H H') : Bil H' a hs p := ⟨h.rw.fr f, h.ok⟩
section
variable {a : Option Addr} {cap : Nat} {hs : List Hs} {p : Int}
/-- Check. -/
theorem c39 (hr : Rw hsE H a hs) (hl : hs.length ≤ 16) : acall tabA (aexec tabA Try.prog (N + 300)) 39 [.agg ⟨[.int .i64 p, .slice a hs.length cap]⟩] H = some (true, .int .i64 (chkB p hs), H, H.size) := by
  refine call_quiet (k := 19) (rs := [.tmp 2]) rfl fn_39 rfl rfl rfl ?_ rfl
  have h57 := fun (N : Nat) (H : AHeap) (n lo hi : Int) => c57 (N := N) (H := H) (n := n) (lo := lo) (hi := hi)
  have h92 := fun (N : Nat) => c92 (N := N) (H := H.alloc (.rw [.int .i64 p, .slice a hs.length cap] 39 false [])) (cap := cap) (g := 93) (p := Hs.isB) (hr.fr (by (repeat (first | exact Fr.refl _ | assumption | refine Fr.allocd ?_ _ | refine Fr.kill ?_ (by first | assumption | omega) | refine Fr.put ?_ (by first | omega | (simp only [yz] <;> omega)) _)))) hl fun N H' x _ => c93 (N := N + 30) (H := H') (h := x)
  unfold chkB
  cases hA : wi p 0 500
  · simp (disch := (first | (simp only [ne_eq,Nat.reduceEqDiff,not_false_eq_true,Nat.reduceLT]; done) | omega | (simp only [yz] <;> omega) | fail)) only [↓yp,yq0,yq1,yq2,yq3,yq4,yl,ys0,ys1,Nat.reduceAdd,Nat.reduceMul,Nat.reduceSub,Nat.reduceBEq,Nat.reduceEqDiff,Nat.reduceLT,Nat.reduceLeDiff,reduceIte,Int.reduceAdd,Int.reduceSub,Int.reduceMul,Int.reduceLT,Int.reduceLE,Int.reduceEq,Int.reduceToNat,Int.reduceNeg,fitB,newC,endD,endR,yrg,lenV_slice st_esS_37,h57,hA]
  cases hB : wi hs.length 1 6
  · simp (disch := (first | (simp only [ne_eq,Nat.reduceEqDiff,not_false_eq_true,Nat.reduceLT]; done) | omega | (simp only [yz] <;> omega) | fail)) only [↓yp,yq0,yq1,yq2,yq3,yq4,yl,ys0,ys1,Nat.reduceAdd,Nat.reduceMul,Nat.reduceSub,Nat.reduceBEq,Nat.reduceEqDiff,Nat.reduceLT,Nat.reduceLeDiff,reduceIte,Int.reduceAdd,Int.reduceSub,Int.reduceMul,Int.reduceLT,Int.reduceLE,Int.reduceEq,Int.reduceToNat,Int.reduceNeg,fitB,newC,endD,endR,yrg,lenV_slice st_esS_37,h57,hA,hB]
  cases hC : hs.all Hs.isB
  · simp (disch := (first | (simp only [ne_eq,Nat.reduceEqDiff,not_false_eq_true,Nat.reduceLT]; done) | omega | (simp only [yz] <;> omega) | fail)) only [↓yp,yq0,yq1,yq2,yq3,yq4,yl,ys0,ys1,Nat.reduceAdd,Nat.reduceMul,Nat.reduceSub,Nat.reduceBEq,Nat.reduceEqDiff,Nat.reduceLT,Nat.reduceLeDiff,reduceIte,Int.reduceAdd,Int.reduceSub,Int.reduceMul,Int.reduceLT,Int.reduceLE,Int.reduceEq,Int.reduceToNat,Int.reduceNeg,fitB,newC,endD,endR,yrg,lenV_slice st_esS_37,h57,h92,hA,hB,hC]
  · simp (disch := (first | (simp only [ne_eq,Nat.reduceEqDiff,not_false_eq_true,Nat.reduceLT]; done) | omega | (simp only [yz] <;> omega) | fail)) only [↓yp,yq0,yq1,yq2,yq3,yq4,yl,ys0,ys1,Nat.reduceAdd,Nat.reduceMul,Nat.reduceSub,Nat.reduceBEq,Nat.reduceEqDiff,Nat.reduceLT,Nat.reduceLeDiff,reduceIte,Int.reduceAdd,Int.reduceSub,Int.reduceMul,Int.reduceLT,Int.reduceLE,Int.reduceEq,Int.reduceToNat,Int.reduceNeg,fitB,newC,endD,endR,yrg,lenV_slice st_esS_37,h57,h92,hA,hB,hC]
set_option maxHeartbeats 2000000 in
/-- A number of each house. -/
theorem c113 {g : Nat} {f : Hs → Int} (hr : Rw hsE H a hs) (hne : hs ≠ []) (hl : hs.length ≤ 16) (hf : ∀ (N : Nat) (H' : AHeap) (x : Hs), acall tabA (aexec tabA Try.prog (N + 30)) g [.agg ⟨x.enc⟩] H' = some (true, .int .i64 (f x), H', H'.size)) (hL : L ≤ H.size) {M : Nat} (hM : 300 ≤ M)
    (hq : ∀ b c H', Fr H H' → H.size ≤ b → Rw intE H' (some ⟨b, 0, none⟩) (hs.map f) → Q false (.slice (some ⟨b, 0, none⟩) hs.length c) H') : resK (acall tabA (aexec tabA Try.prog M) 113 [.slice a hs.length cap, .func (.func g) ⟨[]⟩ ⟨[]⟩] H) L Q := by
  obtain ⟨N, rfl⟩ : ∃ N, M = N + 300 := ⟨M - 300, by omega⟩
  refine call_fls (R := fun v H' => ∃ b c, v = .slice (some ⟨b, 0, none⟩) hs.length c ∧ Fr H H' ∧ H.size ≤ b ∧ Rw intE H' (some ⟨b, 0, none⟩) (hs.map f)) (k := 22) (rs := [.tmp 4]) rfl fn_113 rfl rfl rfl hL ?_ ?_ ?_
  rotate_left
  · rintro v H' ⟨b, c, rfl, -⟩; rfl
  · rintro v H' ⟨b, c, rfl, h1, h2, h3⟩
    exact hq _ _ _ h1 h2 h3
  have hpos : 0 < hs.length := List.length_pos_iff.2 hne
  simp (disch := (first | (simp only [ne_eq,Nat.reduceEqDiff,not_false_eq_true,Nat.reduceLT]; done) | omega | (simp only [yz] <;> omega) | fail)) only [↓yp,yq0,yq1,yq2,yq3,yq4,yl,ys0,ys1,Nat.reduceAdd,Nat.reduceMul,Nat.reduceSub,Nat.reduceBEq,Nat.reduceEqDiff,Nat.reduceLT,Nat.reduceLeDiff,reduceIte,Int.reduceAdd,Int.reduceSub,Int.reduceMul,Int.reduceLT,Int.reduceLE,Int.reduceEq,Int.reduceToNat,Int.reduceNeg,fitB,newC,endD,endR,yrg,lenV_slice st_esS_37]
  refine W_while (n := 22) 100 (fun k e H' => ∃ (i : Nat) (v : Value) (S : Nat → Prop), k = hs.length - i ∧ i ≤ hs.length ∧ gt 22 e 10 = .int .i64 (i : Nat) ∧ gt 22 e 9 = .int .i64 hs.length ∧ gt 22 e 8 = .slice a hs.length cap ∧ gt 22 e 1 = .func (.func g) ⟨[]⟩ ⟨[]⟩ ∧ gt 22 e 5 = v ∧ Fr H H' ∧ Gw H' H.size S v i (intE.fl ((hs.map f).take i)) 3 1)
    ?_ 16 hs.length ⟨0, _, _, by omega, by omega, by simp (disch := (first | (simp only [ne_eq,Nat.reduceEqDiff,not_false_eq_true,Nat.reduceLT]; done) | omega | (simp only [yz] <;> omega) | fail)) only [yg,Nat.reduceAdd,Nat.reduceEqDiff,Nat.reduceLT]; rfl, by simp (disch := (first | (simp only [ne_eq,Nat.reduceEqDiff,not_false_eq_true,Nat.reduceLT]; done) | omega | (simp only [yz] <;> omega) | fail)) only [yg,Nat.reduceAdd,Nat.reduceEqDiff,Nat.reduceLT], by simp (disch := (first | (simp only [ne_eq,Nat.reduceEqDiff,not_false_eq_true,Nat.reduceLT]; done) | omega | (simp only [yz] <;> omega) | fail)) only [yg,Nat.reduceAdd,Nat.reduceEqDiff,Nat.reduceLT], by simp (disch := (first | (simp only [ne_eq,Nat.reduceEqDiff,not_false_eq_true,Nat.reduceLT]; done) | omega | (simp only [yz] <;> omega) | fail)) only [yg,Nat.reduceAdd,Nat.reduceEqDiff,Nat.reduceLT], by simp (disch := (first | (simp only [ne_eq,Nat.reduceEqDiff,not_false_eq_true,Nat.reduceLT]; done) | omega | (simp only [yz] <;> omega) | fail)) only [yg,Nat.reduceAdd,Nat.reduceEqDiff,Nat.reduceLT], Fr.refl _, Gw.none⟩ (by omega) (by omega)
  rintro M1 k e H1 ⟨i, v, S, rfl, hi, g10, g9, g8, g1, g5, fr, gw⟩
  have f0 := fr.size
  simp (disch := (first | (simp only [ne_eq,Nat.reduceEqDiff,not_false_eq_true,Nat.reduceLT]; done) | omega | (simp only [yz] <;> omega) | fail)) only [↓yp,yq0,yq1,yq2,yq3,yq4,yl,ys0,ys1,Nat.reduceAdd,Nat.reduceMul,Nat.reduceSub,Nat.reduceBEq,Nat.reduceEqDiff,Nat.reduceLT,Nat.reduceLeDiff,reduceIte,Int.reduceAdd,Int.reduceSub,Int.reduceMul,Int.reduceLT,Int.reduceLE,Int.reduceEq,Int.reduceToNat,Int.reduceNeg,fitB,newC,endD,endR,yrg,g10,g9]
  refine ⟨fun hT => ?_, fun hT => ?_⟩
  · have hlt : i < hs.length := by simpa using hT
    obtain ⟨s, hp⟩ : ∃ s, hs[i]? = some s := ⟨hs[i], by simp [hlt]⟩
    obtain ⟨bl, o, c, eb, hbl, hc, hqq⟩ := (hr.fr fr).at_ hp
    have q : part c (o + i * 3) 4 = some (.agg ⟨s.enc⟩) := part_of hqq rfl
    have hw2 : w64 ((i : Int) + 1) = ((i + 1 : Nat) : Int) := by rw [w64_of (by omega)]; omega
    have hff := fun (N : Nat) (H : AHeap) => hf N H s
    simp only [Hs.enc] at q hff
    subst eb
    have hp' : (hs.map f)[i]? = some (f s) := by rw [List.getElem?_map, hp]; rfl
    simp (disch := (first | (simp only [ne_eq,Nat.reduceEqDiff,not_false_eq_true,Nat.reduceLT]; done) | omega | (simp only [yz] <;> omega) | fail)) only [↓yp,yq0,yq1,yq2,yq3,yq4,yl,ys0,ys1,Nat.reduceAdd,Nat.reduceMul,Nat.reduceSub,Nat.reduceBEq,Nat.reduceEqDiff,Nat.reduceLT,Nat.reduceLeDiff,reduceIte,Int.reduceAdd,Int.reduceSub,Int.reduceMul,Int.reduceLT,Int.reduceLE,Int.reduceEq,Int.reduceToNat,Int.reduceNeg,fitB,newC,endD,endR,yrg,g10,g8,g1,g5,A_indexSlice st_esS_37,hc,q,hff,A_buildSlice st_brS_40_1]
    refine gw_append (i := i) (cs := intE.fl ((hs.map f).take i)) (news := [.int .i64 (f s)]) st_apS_40 (gw.fr (by (repeat (first | exact Fr.refl _ | assumption | refine Fr.allocd ?_ _ | refine Fr.kill ?_ (by first | assumption | omega) | refine Fr.put ?_ (by first | omega | (simp only [yz] <;> omega)) _)))) (by (first | omega | (simp only [yz] <;> omega))) (by rw [fl_length, List.length_take_of_le (by rw [List.length_map]; omega)]; rfl) (by unfold srcCells; simp (disch := (first | (simp only [ne_eq,Nat.reduceEqDiff,not_false_eq_true,Nat.reduceLT]; done) | omega | (simp only [yz] <;> omega) | fail)) only [yg,Nat.reduceAdd,Nat.reduceEqDiff,Nat.reduceLT]; rfl) (by omega) (by omega) rfl (by omega) ?_
    intro a1 c1 H2 hs2 fs2 gw1
    simp only [size_alloc,size_put] at hs2 fs2
    rw [show intE.fl ((hs.map f).take i) ++ [Value.int .i64 (f s)] = intE.fl ((hs.map f).take (i + 1)) from take_fl (E := intE) hp'] at gw1
    simp (disch := (first | (simp only [ne_eq,Nat.reduceEqDiff,not_false_eq_true,Nat.reduceLT]; done) | omega | (simp only [yz] <;> omega) | fail)) only [↓yp,yq0,yq1,yq2,yq3,yq4,yl,ys0,ys1,Nat.reduceAdd,Nat.reduceMul,Nat.reduceSub,Nat.reduceBEq,Nat.reduceEqDiff,Nat.reduceLT,Nat.reduceLeDiff,reduceIte,Int.reduceAdd,Int.reduceSub,Int.reduceMul,Int.reduceLT,Int.reduceLE,Int.reduceEq,Int.reduceToNat,Int.reduceNeg,fitB,newC,endD,endR,yrg,g10,hw2]
    refine ⟨hs.length - (i + 1), by omega, i + 1, _, _, rfl, by omega, ?_, ?_, ?_, ?_, ?_, ?_, gw1⟩
    · simp (disch := (first | (simp only [ne_eq,Nat.reduceEqDiff,not_false_eq_true,Nat.reduceLT]; done) | omega | (simp only [yz] <;> omega) | fail)) only [yg,Nat.reduceAdd,Nat.reduceEqDiff,Nat.reduceLT]
    · simp (disch := (first | (simp only [ne_eq,Nat.reduceEqDiff,not_false_eq_true,Nat.reduceLT]; done) | omega | (simp only [yz] <;> omega) | fail)) only [yg,Nat.reduceAdd,Nat.reduceEqDiff,Nat.reduceLT,g9]
    · simp (disch := (first | (simp only [ne_eq,Nat.reduceEqDiff,not_false_eq_true,Nat.reduceLT]; done) | omega | (simp only [yz] <;> omega) | fail)) only [yg,Nat.reduceAdd,Nat.reduceEqDiff,Nat.reduceLT,g8]
    · simp (disch := (first | (simp only [ne_eq,Nat.reduceEqDiff,not_false_eq_true,Nat.reduceLT]; done) | omega | (simp only [yz] <;> omega) | fail)) only [yg,Nat.reduceAdd,Nat.reduceEqDiff,Nat.reduceLT,g1]
    · simp (disch := (first | (simp only [ne_eq,Nat.reduceEqDiff,not_false_eq_true,Nat.reduceLT]; done) | omega | (simp only [yz] <;> omega) | fail)) only [yg,Nat.reduceAdd,Nat.reduceEqDiff,Nat.reduceLT]
    · exact ⟨by omega, fun q hq => by rw [fs2 q (by omega) (gw.low q (by omega)), get_alloc_lt (by (first | omega | (simp only [yz] <;> omega))), get_put_ne (by omega), get_alloc_lt (by omega)]; exact fr.same q hq⟩
  have hie : i = hs.length := by have := of_decide_eq_false hT; omega
  subst hie
  rw [List.take_of_length_le (by rw [List.length_map]; exact Nat.le_refl _)] at gw
  obtain ⟨bv, al, ev, hS, -⟩ := gw.cons (by omega)
  subst ev
  simp (disch := (first | (simp only [ne_eq,Nat.reduceEqDiff,not_false_eq_true,Nat.reduceLT]; done) | omega | (simp only [yz] <;> omega) | fail)) only [↓yp,yq0,yq1,yq2,yq3,yq4,yl,ys0,ys1,Nat.reduceAdd,Nat.reduceMul,Nat.reduceSub,Nat.reduceBEq,Nat.reduceEqDiff,Nat.reduceLT,Nat.reduceLeDiff,reduceIte,Int.reduceAdd,Int.reduceSub,Int.reduceMul,Int.reduceLT,Int.reduceLE,Int.reduceEq,Int.reduceToNat,Int.reduceNeg,fitB,newC,endD,endR,yrg,g5]
  refine ⟨bv, _, rfl, fr, by have := (gw.own _ hS).1; omega, (Gw.rx (k := 0) (E := intE) (l := hs.map f) (c := OPEN + 1) (el := 3) (tb := H.size) (S := S) ?_ (fun h => by have := (gw.own 0 h).1; omega)).rw⟩
  rw [List.length_map]
  exact gw
theorem map_in {f : Hs → Int} {m : Int} (h : ∀ x ∈ hs, 0 ≤ f x ∧ f x ≤ m) : ∀ x ∈ hs.map f, 0 ≤ x ∧ x ≤ m := fun x hx => by
  obtain ⟨y, hy, rfl⟩ := List.mem_map.1 hx
  exact h y hy
end
end Go.Am
/- Exact shares in lowest terms. -/
namespace Go.Am
open Go.Proofs
variable {T : Tab} {P : Program} {N L : Nat} {H H' H'' : AHeap} {Q : Bool → Value → AHeap → Prop}
section
variable {a : Option Addr} {cap : Nat} {hs : List Hs} {p : Int}
end
end Go.Am
