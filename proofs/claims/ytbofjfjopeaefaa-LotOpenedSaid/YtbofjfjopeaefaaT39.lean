import Derived.Test.YtbofjfjopeaefaaT38
set_option linter.unusedSimpArgs false
set_option linter.unusedVariables false
namespace Go.Am.K
open Go.Proofs
variable {T : Tab} {P : Program} {N L : Nat} {H H' H'' : AHeap} {Q : Bool → Value → AHeap → Prop}
theorem eq77g {a b c d : Int} : pureRun Try.prog (Op.equal 77 (.agg ⟨[.int .i64 a, .int .i64 b]⟩) (.agg ⟨[.int .i64 c, .int .i64 d]⟩)) = some (decide (a = c) && decide (b = d)) := by
 show pureRun Try.prog (Op.equalIn (9998 + 1 + 1) 77 _ _) = _
 unfold Op.equalIn
 rw [pureRun_bind, prH77]
 by_cases h0 : a = c
 ·subst h0
  by_cases h1 : b = d
  ·subst h1
   simp only [Option.bind_some,pureRun_bind,prG,prS77,Bool.false_eq_true,if_false,List.forIn_toArray,List.forIn_cons,List.forIn_nil,ne_eq,prI,prF77_0,prF77_1,show ("Foul" = "_") = False by simp,show ("Price" = "_") = False by simp,not_false_eq_true,if_true,beq_self_eq_true,Bool.not_true,prPure,decide_true,Bool.and_self]
  ·have hb : (b == d) = false := by simpa using h1
   simp only [Option.bind_some,pureRun_bind,prG,prS77,Bool.false_eq_true,if_false,List.forIn_toArray,List.forIn_cons,List.forIn_nil,ne_eq,prI,prF77_0,prF77_1,show ("Foul" = "_") = False by simp,show ("Price" = "_") = False by simp,not_false_eq_true,if_true,beq_self_eq_true,Bool.not_true,prPure,decide_true,hb,Bool.not_false,decide_eq_false h1,Bool.and_false]
 ·have ha : (a == c) = false := by simpa using h0
  simp only [Option.bind_some,pureRun_bind,prG,prS77,Bool.false_eq_true,if_false,List.forIn_toArray,List.forIn_cons,List.forIn_nil,ne_eq,prI,prF77_0,prF77_1,show ("Foul" = "_") = False by simp,show ("Price" = "_") = False by simp,not_false_eq_true,if_true,beq_self_eq_true,Bool.not_true,prPure,ha,Bool.not_false,decide_eq_false h0,Bool.false_and]
theorem eqv77 {x y : Operand} {a b c d : Int} : binV tabA Try.prog .eql 77 x y (.agg ⟨[.int .i64 a, .int .i64 b]⟩) (.agg ⟨[.int .i64 c, .int .i64 d]⟩) = some (.bool (decide (a = c) && decide (b = d))) := by
 have hb : pureRun Try.prog (do eqGuard .eql 77 x y (.agg ⟨[.int .i64 a, .int .i64 b]⟩) (.agg ⟨[.int .i64 c, .int .i64 d]⟩); binOp .eql 77 (.agg ⟨[.int .i64 a, .int .i64 b]⟩) (.agg ⟨[.int .i64 c, .int .i64 d]⟩)) = some (.bool (decide (a = c) && decide (b = d))) := by
  rw [pureRun_bind]
  rw [show pureRun Try.prog (eqGuard .eql 77 x y (.agg ⟨[.int .i64 a, .int .i64 b]⟩) (.agg ⟨[.int .i64 c, .int .i64 d]⟩)) = some () by kernel_rfl]
  rw [Option.bind_some, show binOp .eql 77 (.agg ⟨[.int .i64 a, .int .i64 b]⟩) (.agg ⟨[.int .i64 c, .int .i64 d]⟩) = (Op.equal 77 (.agg ⟨[.int .i64 a, .int .i64 b]⟩) (.agg ⟨[.int .i64 c, .int .i64 d]⟩) >>= fun b => pure (.bool b)) by simp only [binOp], pureRun_bind, eq77g]
  rfl
 unfold binV
 cases h : aEqV Try.prog .eql 77 (some (.agg ⟨[.int .i64 a, .int .i64 b]⟩)) (some (.agg ⟨[.int .i64 c, .int .i64 d]⟩)) with
 | none =>
  rw [show gr (.agg ⟨[.int .i64 a, .int .i64 b]⟩) = true from rfl, show gr (.agg ⟨[.int .i64 c, .int .i64 d]⟩) = true from rfl, Bool.and_self, cond_true, hb]
  rfl
 | some v =>
  simp only [aEqV] at h
  cases h' : aEqD Try.prog 77 (.agg ⟨[.int .i64 a, .int .i64 b]⟩) (.agg ⟨[.int .i64 c, .int .i64 d]⟩) with
  | none => rw [h'] at h; cases h
  | some r =>
   rw [h'] at h
   cases h
   have h1 := (aEqD_run h' default).1
   have h2 := pureRun_run (eq77g (a := a) (b := b) (c := c) (d := d)) default
   rw [h2] at h1
   cases h1
   rfl
def sameG (g x : Gd) : Bool := decide (g.fo = x.fo) && decide (g.pr = x.pr)
section
variable {a a' al : Option Addr} {cap cap' cl : Nat} {ps : List Pk} {gs : List Gd} {lots : Int} {l : List Int}
theorem c91 {g : Gd} (hs : Rw gdE H a gs) (hl : gs.length ≤ 8) : acall tabA (aexec tabA Try.prog (N + 200)) 91 [.slice a gs.length cap, .agg ⟨g.enc⟩] H = some (true, .int .i64 (fstI (sameG g) gs 0), H, H.size) := by
 refine call_quiet (k := 19) (rs := [.tmp 4]) rfl fn_91 rfl rfl rfl ?_ rfl
 simp (disch:=first|(simp only [yk,seval];done)|omega|(simp only [yz]<;>omega)|fail) only [↓yp,yq0,yq1,yq2,yq3,yq4,yl,ys0,ys1,seval,fitB,newC,endD,endR,yrg,Gd.enc,lenV_slice st_esS_23]
 refine W_while (n := 19) 90 (fun k e H' => ∃ i, k = gs.length - i ∧ i ≤ gs.length ∧ gt 19 e 8 = .int .i64 (i : Nat) ∧ gt 19 e 7 = .int .i64 gs.length ∧ gt 19 e 3 = .pointer (some ⟨H.size, 0, none⟩) ∧ gt 19 e 0 = .slice a gs.length cap ∧ Fr H H' ∧ H.size < H'.size ∧ H'.get H.size = .rw g.enc 77 false [] ∧ fstI (sameG g) gs 0 = fstI (sameG g) (gs.drop i) i)
  ?_ 8 gs.length ⟨0, by omega, by omega, by simp (disch:=first|(simp only [yk,seval];done)|omega|(simp only [yz]<;>omega)|fail) only [yg,seval] <;> rfl, by simp (disch:=first|(simp only [yk,seval];done)|omega|(simp only [yz]<;>omega)|fail) only [yg,seval], by simp (disch:=first|(simp only [yk,seval];done)|omega|(simp only [yz]<;>omega)|fail) only [yg,seval], by simp (disch:=first|(simp only [yk,seval];done)|omega|(simp only [yz]<;>omega)|fail) only [yg,seval], by (repeat (first | exact Fr.refl _ | assumption | refine Fr.allocd ?_ _ | refine Fr.put ?_ (by first | omega | (simp only [yz] <;> omega)) _)), by (first | omega | (simp only [yz] <;> omega)), by simp (disch:=first|(simp only [yk,seval];done)|omega|(simp only [yz]<;>omega)|fail) only [yg,seval] <;> rfl, by simp⟩ (by omega) (by omega)
 rintro M k e H' ⟨i, rfl, hi, g8, g7, g3, g0, fr, lt, b3, hj⟩
 have fs := fr.same
 simp only [Gd.enc] at b3
 simp (disch:=first|(simp only [yk,seval];done)|omega|(simp only [yz]<;>omega)|fail) only [↓yp,yq0,yq1,yq2,yq3,yq4,yl,ys0,ys1,seval,fitB,newC,endD,endR,yrg,g8,g7]
 refine ⟨fun hlt => ?_, fun hlt => ?_⟩
 ·have hi' : i < gs.length := by simpa using hlt
  obtain ⟨x, hx⟩ : ∃ x, gs[i]? = some x := ⟨gs[i], by simp [hi']⟩
  obtain ⟨b, o, c, rfl, hb, hc, hq⟩ := (hs.fr fr).at_ hx
  have q : part c (o + i * 2) 3 = some (.agg ⟨x.enc⟩) := part_of hq rfl
  simp only [Gd.enc] at q
  rw [fstI_drop hx] at hj
  simp (disch:=first|(simp only [yk,seval];done)|omega|(simp only [yz]<;>omega)|fail) only [↓yp,yq0,yq1,yq2,yq3,yq4,yl,ys0,ys1,seval,fitB,newC,endD,endR,yrg,g8,g7]
  refine W_draw [] rfl (by kernel_rfl) (by kernel_rfl) (by first|omega|(simp only [yz]<;>omega)) ?_
  simp (disch:=first|(simp only [yk,seval];done)|omega|(simp only [yz]<;>omega)|fail) only [↓yp,yq0,yq1,yq2,yq3,yq4,yl,ys0,ys1,seval,fitB,newC,endD,endR,yrg,g8,g7,g3,g0,b3,A_indexSlice st_esS_23,hc,q,eqv77]
  have hsg : (decide (g.fo = x.fo) && decide (g.pr = x.pr)) = sameG g x := rfl
  rw [hsg]
  cases hA : sameG g x
  ·rw [hA] at hj
   have hj' : fstI (sameG g) gs 0 = fstI (sameG g) (gs.drop (i + 1)) (i + 1) := hj
   have hw2 : w64 ((i : Int) + 1) = ((i + 1 : Nat) : Int) := by rw [w64_of (by omega)]; omega
   simp (disch:=first|(simp only [yk,seval];done)|omega|(simp only [yz]<;>omega)|fail) only [↓yp,yq0,yq1,yq2,yq3,yq4,yl,ys0,ys1,seval,fitB,newC,endD,endR,yrg,g8,g7,g3,g0,hw2]
   refine ⟨gs.length - (i + 1), by omega, i + 1, rfl, by omega, ?_, ?_, ?_, ?_, fr, lt, b3, hj'⟩
   ·simp (disch:=first|(simp only [yk,seval];done)|omega|(simp only [yz]<;>omega)|fail) only [yg,seval]
   ·simp (disch:=first|(simp only [yk,seval];done)|omega|(simp only [yz]<;>omega)|fail) only [yg,seval,g7]
   ·simp (disch:=first|(simp only [yk,seval];done)|omega|(simp only [yz]<;>omega)|fail) only [yg,seval,g3]
   ·simp (disch:=first|(simp only [yk,seval];done)|omega|(simp only [yz]<;>omega)|fail) only [yg,seval,g0]
  ·rw [hA] at hj
   have hj' : fstI (sameG g) gs 0 = (i : Int) := hj
   simp (disch:=first|(simp only [yk,seval];done)|omega|(simp only [yz]<;>omega)|fail) only [↓yp,yq0,yq1,yq2,yq3,yq4,yl,ys0,ys1,seval,fitB,newC,endD,endR,yrg,g8,hj']
 ·have hi' : i = gs.length := by
   have : ¬ ((i : Int) < gs.length) := by simpa using hlt
   omega
  subst hi'
  rw [List.drop_length] at hj
  simp (disch:=first|(simp only [yk,seval];done)|omega|(simp only [yz]<;>omega)|fail) only [↓yp,yq0,yq1,yq2,yq3,yq4,yl,ys0,ys1,seval,fitB,newC,endD,endR,yrg,hj,fstI]
end
theorem ordB_lt : ∀ {gs : List Gd} {g : Gd}, ordB (g :: gs) = true → ordB gs = true ∧ ∀ x ∈ gs, g.fo < x.fo
 | [], _, _ => ⟨rfl, fun _ h => by simp at h⟩
 | y :: gs, g, h => by
  have h' : ((decide (g.fo < y.fo) && decide (y.pr < g.pr)) && ordB (y :: gs)) = true := h
  simp only [Bool.and_eq_true,decide_eq_true_eq] at h'
  have ih := ordB_lt h'.2
  refine ⟨h'.2, fun x hx => ?_⟩
  rcases List.mem_cons.1 hx with rfl | hx
  ·exact h'.1.1
  ·have := ih.2 x hx; omega
def orZ : Option Gd → Gd
 | some g => g
 | none => ⟨0, 0⟩
theorem fst_same {p : Gd → Bool} : ∀ {gs : List Gd} {k : Nat}, ordB gs = true → (∀ g ∈ gs, 1 ≤ g.pr) → fstI (sameG (orZ (gs.find? p))) gs k = fstI p gs k
 | [], _, _, _ => rfl
 | g :: gs, k, ho, hp => by
  obtain ⟨h1, h2⟩ := ordB_lt ho
  have hg := hp g (by simp)
  cases hA : p g
  ·have hf : (g :: gs).find? p = gs.find? p := by simp [List.find?_cons, hA]
   rw [hf]
   have hne : sameG (orZ (gs.find? p)) g = false := by
    unfold sameG
    cases hx : gs.find? p with
    | none =>
     show (decide ((0 : Int) = g.fo) && decide ((0 : Int) = g.pr)) = false
     rw [show decide ((0 : Int) = g.pr) = false by simp; omega, Bool.and_false]
    | some x =>
     have := h2 x (List.mem_of_find?_eq_some hx)
     show (decide (x.fo = g.fo) && decide (x.pr = g.pr)) = false
     rw [show decide (x.fo = g.fo) = false by simp; omega, Bool.false_and]
   show (bif sameG (orZ (gs.find? p)) g then (k : Int) else fstI (sameG (orZ (gs.find? p))) gs (k + 1)) = bif p g then (k : Int) else fstI p gs (k + 1)
   rw [hne, hA, cond_false, cond_false]
   exact fst_same h1 fun x hx => hp x (by simp [hx])
  ·have hf : (g :: gs).find? p = some g := by simp [List.find?_cons, hA]
   rw [hf]
   show (bif sameG g g then (k : Int) else _) = bif p g then (k : Int) else _
   rw [show sameG g g = true by simp [sameG], hA]; rfl
def sureV (ps : List Pk) (gs : List Gd) (l : List Int) : Int := fstI (hasG (isum l) (isum (fo false ps l))) gs 0
section
variable {a a' al : Option Addr} {cap cap' cl : Nat} {ps : List Pk} {gs : List Gd} {lots : Int} {l : List Int}
theorem grd_mx (h : l.length = ps.length) : grd ps gs (mx l) = orZ (gs.find? (hasG (isum l) (isum (fo false ps l)))) := by
 unfold grd
 rw [mx_sum, fo_pad h]
 unfold orZ
 rfl
theorem LtR.c92 (h : LtR H a a' al ps gs lots l) {mk : Nat} : acall tabA (aexec tabA Try.prog (N + 600)) 92 [.agg ⟨[.slice a ps.length cap, .slice a' gs.length cap', .int .i64 lots, .map (some mk)]⟩, .agg ⟨tv (mx l)⟩] H = some (true, .agg ⟨(orZ (gs.find? (hasG (isum l) (isum (Go.Am.fo false ps l))))).enc⟩, H, H.size) := by
 rw [← grd_mx h.lo.len]
 exact K.c92 (N := N) (cap := cap) (cap' := cap') (lo := .int .i64 lots) (mp := .map (some mk)) h.st.hs h.st.st.l4 h.st.pk h.st.hg h.st.st.g4 h.st.gd h.mx4 h.in_ sv_int sv_map
set_option maxHeartbeats 1000000 in
theorem c38 (h : LtR H a a' al ps gs lots l) :
  acall tabA (aexec tabA Try.prog (N + 800)) 38 [.agg ⟨[.slice a ps.length cap, .slice a' gs.length cap', .int .i64 lots]⟩, .slice al l.length cl] H = some (true, .tuple ⟨[.int .i64 (sureV ps gs l), .int .i64 0]⟩, H, H.size) := by
 refine call_quiet (k := 21) (rs := [.tmp 4, .tmp 5]) rfl fn_38 rfl rfl rfl ?_ rfl
 have fr : Fr H (H.alloc (.rw [.slice a ps.length cap, .slice a' gs.length cap', .int .i64 lots] 25 false [])) := by (repeat (first | exact Fr.refl _ | assumption | refine Fr.allocd ?_ _ | refine Fr.put ?_ (by first | omega | (simp only [yz] <;> omega)) _))
 have h0 := h.fr fr
 have h74 := fun (N : Nat) => c74 (N := N) (cap := cap) (cap' := cap') (cl := cl) h0.st h0.rl h.lo
 have hg4 := h.st.st.g4
 simp (disch:=first|(simp only [yk,seval];done)|omega|(simp only [yz]<;>omega)|fail) only [↓yp,yq0,yq1,yq2,yq3,yq4,yl,ys0,ys1,seval,fitB,newC,endD,endR,yrg,h74]
 refine W_draw [3] rfl (by kernel_rfl) (by kernel_rfl) (by first|omega|(simp only [yz]<;>omega)) ?_
 simp (disch:=first|(simp only [yk,seval];done)|omega|(simp only [yz]<;>omega)|fail) only [↓yp,yq0,yq1,yq2,yq3,yq4,yl,ys0,ys1,seval,fitB,newC,endD,endR,yrg]
 refine c77 (by first|omega|(simp only [yz]<;>omega)) (by omega) ?_
 intro mk H1 fr1 k1 k2 k3
 have f1 := fr1.size
 have s1 := fr1.same
 simp only [size_alloc] at f1 s1 k1
 have hh := h0.fr fr1
 have hsv : fstI (sameG (orZ (gs.find? (hasG (isum l) (isum (fo false ps l)))))) gs 0 = sureV ps gs l := fst_same h.st.st.od fun g hg => by
  have := List.all_eq_true.1 h.st.st.gb g hg
  unfold Gd.isB wi at this
  simp only [Bool.and_eq_true,decide_eq_true_eq] at this
  omega
 have h75 := fun (N : Nat) => c75 (N := N) (cl := cl) h0.rl h.l1 h.l4
 have h75' := fun (N : Nat) => c75 (N := N) (cl := cl) hh.rl h.l1 h.l4
 have h92 := fun (N : Nat) => h0.c92 (N := N) (cap := cap) (cap' := cap') (mk := mk)
 have h92' := fun (N : Nat) => hh.c92 (N := N) (cap := cap) (cap' := cap') (mk := mk)
 have h91 := fun (N : Nat) => c91 (N := N) (cap := cap') (g := orZ (gs.find? (hasG (isum l) (isum (fo false ps l))))) h0.st.hg (by omega)
 have h91' := fun (N : Nat) => c91 (N := N) (cap := cap') (g := orZ (gs.find? (hasG (isum l) (isum (fo false ps l))))) hh.st.hg (by omega)
 rw [hsv] at h91 h91'
 have hst := fun n => sl_tv (n := n) (mx l)
 generalize (orZ (gs.find? (hasG (isum l) (isum (fo false ps l))))) = gg at h92 h92' h91 h91'
 simp only [Gd.enc] at h92 h92' h91 h91'
 simp (disch:=first|(simp only [yk,seval];done)|omega|(simp only [yz]<;>omega)|fail) only [↓yp,yq0,yq1,yq2,yq3,yq4,yl,ys0,ys1,seval,fitB,newC,endD,endR,yrg,s1,h75,h75',h92,h92',h91,h91',hst]
end
end Go.Am.K
namespace Go.Am.K
open Go.Proofs
variable {T : Tab} {P : Program} {N L : Nat} {H H' H'' : AHeap} {Q : Bool → Value → AHeap → Prop}
section
variable {a a' : Option Addr} {cap cap' : Nat} {t : List Int}
end
section
variable {a a' al af ai : Option Addr} {cap cap' cl cf ci : Nat} {ps : List Pk} {gs : List Gd} {lots : Int} {l fl il : List Int}
end
end Go.Am.K
namespace Go.Am.K
open Go.Proofs
variable {T : Tab} {P : Program} {N L : Nat} {H H' H'' : AHeap} {Q : Bool → Value → AHeap → Prop}
section
variable {k cap pc cap' cl cf : Nat} {a pa pa' al af : Option Addr} {bs l fl : List Int} {ps : List Pk} {lots : Value}
end
end Go.Am.K
