import Derived.Test.YtehkjjgpgnejnaaT32
import Derived.Test.YtehkjjgpgnejnaaT33
set_option linter.unusedSimpArgs false
set_option linter.unusedVariables false
namespace Go.Am.K
open Go.Proofs
variable {T : Tab} {P : Program} {N L : Nat} {H : AHeap} {Q : Bool → Value → AHeap → Prop}
set_option maxHeartbeats 1000000 in
theorem c16 {a a' : Option Addr} {cap cap' : Nat} {ps : List Pk} {gs : List Gd} {lots : Int} (hs : Rw pkE H a ps) (hgs : Rw gdE H a' gs) :
  acall tabA (aexec tabA Try.prog (N + 300)) 16 [.agg ⟨[.slice a ps.length cap, .slice a' gs.length cap', .int .i64 lots]⟩] H = some (true, .int .i64 (chkS ps gs lots), H, H.size) := by
 refine call_quiet (k := 42) (rs := [.tmp 2]) rfl fn_16 rfl rfl rfl ?_ rfl
 have h58 := fun (N : Nat) (H : AHeap) (n lo hi : Int) => c58 (N := N) (H := H) (n := n) (lo := lo) (hi := hi)
 have fr : Fr H (H.alloc (.rw [.slice a ps.length cap, .slice a' gs.length cap', .int .i64 lots] 25 false [])) := by (repeat (first | exact Fr.refl _ | assumption | refine Fr.allocd ?_ _ | refine Fr.put ?_ (by first | omega | (simp only [yz] <;> omega)) _))
 cases hA : wi (ps.length : Int) 1 4
 ·have e : chkS ps gs lots = 3 := by unfold chkS chk1; rw [hA]; rfl
  rw [e]
  simp (disch:=first|(simp only [yk,seval];done)|omega|(simp only [yz]<;>omega)|fail) only [↓yp,yq0,yq1,yq2,yq3,yq4,yl,ys0,ys1,seval,fitB,newC,endD,endR,lenV_slice st_esS_22,lenV_slice st_esS_23,h58,hA]
 cases hB : decide (4 < (gs.length : Int))
 rotate_left
 ·have e : chkS ps gs lots = 3 := by unfold chkS chk1; rw [hA, hB]; rfl
  rw [e]
  simp (disch:=first|(simp only [yk,seval];done)|omega|(simp only [yz]<;>omega)|fail) only [↓yp,yq0,yq1,yq2,yq3,yq4,yl,ys0,ys1,seval,fitB,newC,endD,endR,lenV_slice st_esS_22,lenV_slice st_esS_23,h58,hA,hB]
 have hl : ps.length ≤ 4 := by unfold wi at hA; simp at hA; omega
 have hgl : gs.length ≤ 4 := by simp at hB; omega
 have h59 := fun (N : Nat) => c59 (N := N) (cap := cap) (g := 60) (p := Pk.isB) (hs.fr fr) (by omega) fun N H' x _ => c60
 have h61 := fun (N : Nat) => c61 (N := N) (cap := cap') (g := 62) (p := Gd.isB) (hgs.fr fr) (by omega) fun N H' x _ => c62
 have h63 := fun (N : Nat) => c63 (N := N) (cap := cap') (hgs.fr fr) (by omega)
 have e0 : chkS ps gs lots = bif chk2 ps gs lots then 4 else bif ordB gs then bif ps.all fun p => !decide (p.hi < p.f) then 0 else 7 else 6 := by unfold chkS chk1; rw [hA, hB]; rfl
 rw [e0]
 cases hC : ps.all Pk.isB
 ·have e : chk2 ps gs lots = true := by unfold chk2; rw [hC]; rfl
  rw [e, cond_true]
  simp (disch:=first|(simp only [yk,seval];done)|omega|(simp only [yz]<;>omega)|fail) only [↓yp,yq0,yq1,yq2,yq3,yq4,yl,ys0,ys1,seval,fitB,newC,endD,endR,lenV_slice st_esS_22,lenV_slice st_esS_23,h58,h59,h61,hA,hB,hC]
 cases hD : gs.all Gd.isB
 ·have e : chk2 ps gs lots = true := by unfold chk2; rw [hC, hD]; rfl
  rw [e, cond_true]
  simp (disch:=first|(simp only [yk,seval];done)|omega|(simp only [yz]<;>omega)|fail) only [↓yp,yq0,yq1,yq2,yq3,yq4,yl,ys0,ys1,seval,fitB,newC,endD,endR,lenV_slice st_esS_22,lenV_slice st_esS_23,h58,h59,h61,hA,hB,hC,hD]
 cases hE : wi lots 0 3
 ·have e : chk2 ps gs lots = true := by unfold chk2; rw [hC, hD, hE]; rfl
  rw [e, cond_true]
  simp (disch:=first|(simp only [yk,seval];done)|omega|(simp only [yz]<;>omega)|fail) only [↓yp,yq0,yq1,yq2,yq3,yq4,yl,ys0,ys1,seval,fitB,newC,endD,endR,lenV_slice st_esS_22,lenV_slice st_esS_23,h58,h59,h61,hA,hB,hC,hD,hE]
 have e : chk2 ps gs lots = false := by unfold chk2; rw [hC, hD, hE]; rfl
 rw [e, cond_false]
 cases hF : ordB gs
 ·rw [cond_false]
  simp (disch:=first|(simp only [yk,seval];done)|omega|(simp only [yz]<;>omega)|fail) only [↓yp,yq0,yq1,yq2,yq3,yq4,yl,ys0,ys1,seval,fitB,newC,endD,endR,lenV_slice st_esS_22,lenV_slice st_esS_23,h58,h59,h61,h63,hA,hB,hC,hD,hE,hF]
 rw [cond_true]
 have h59' := fun (N : Nat) => c59 (N := N) (cap := cap) (g := 64) (p := fun p => !decide (p.hi < p.f)) (hs.fr fr) (by omega) fun N H' x hx => c64 (List.all_eq_true.1 hC x hx)
 cases hG : ps.all fun p => !decide (p.hi < p.f)
 ·rw [cond_false]
  simp (disch:=first|(simp only [yk,seval];done)|omega|(simp only [yz]<;>omega)|fail) only [↓yp,yq0,yq1,yq2,yq3,yq4,yl,ys0,ys1,seval,fitB,newC,endD,endR,lenV_slice st_esS_22,lenV_slice st_esS_23,h58,h59,h61,h63,h59',hA,hB,hC,hD,hE,hF,hG]
 ·rw [cond_true]
  simp (disch:=first|(simp only [yk,seval];done)|omega|(simp only [yz]<;>omega)|fail) only [↓yp,yq0,yq1,yq2,yq3,yq4,yl,ys0,ys1,seval,fitB,newC,endD,endR,lenV_slice st_esS_22,lenV_slice st_esS_23,h58,h59,h61,h63,h59',hA,hB,hC,hD,hE,hF,hG]
end Go.Am.K
namespace Go.Am.K
open Go.Proofs
variable {T : Tab} {P : Program} {N L : Nat} {H : AHeap} {Q : Bool → Value → AHeap → Prop}
theorem st_apS_22 : apS tabA 22 = some (87, 4, 32) := by kernel_rfl
theorem st_apS_23 : apS tabA 23 = some (77, 2, 16) := by kernel_rfl
section
variable {a a' : Option Addr} {cap cap' : Nat} {ps : List Pk} {gs : List Gd} {lo : Value}
end
end Go.Am.K
namespace Go.Am.K
open Go.Proofs
variable {T : Tab} {P : Program} {N L : Nat} {H : AHeap} {Q : Bool → Value → AHeap → Prop}
theorem prF87_0 {a b c d : Int} : pureRun Try.prog (Go.part 3 ⟨[.int .i64 a, .int .i64 b, .int .i64 c, .int .i64 d]⟩ 0) = some (.int .i64 a) := by kernel_rfl
theorem prF87_1 {a b c d : Int} : pureRun Try.prog (Go.part 3 ⟨[.int .i64 a, .int .i64 b, .int .i64 c, .int .i64 d]⟩ 1) = some (.int .i64 b) := by kernel_rfl
theorem prF87_2 {a b c d : Int} : pureRun Try.prog (Go.part 3 ⟨[.int .i64 a, .int .i64 b, .int .i64 c, .int .i64 d]⟩ 2) = some (.int .i64 c) := by kernel_rfl
theorem prF87_3 {a b c d : Int} : pureRun Try.prog (Go.part 3 ⟨[.int .i64 a, .int .i64 b, .int .i64 c, .int .i64 d]⟩ 3) = some (.int .i64 d) := by kernel_rfl
theorem prS87 : Try.prog.stoodInHeld 87 = false := by kernel_rfl
theorem prH87 : pureRun Try.prog (underlying 87) = some (.struct #[{ name := "Sacks", type := 3, offset := 0, embedded := false, tag := "", pkgPath := "", byteOffset := 0 }, { name := "Worst", type := 3, offset := 1, embedded := false, tag := "", pkgPath := "", byteOffset := 8 }, { name := "Opened", type := 3, offset := 2, embedded := false, tag := "", pkgPath := "", byteOffset := 16 }, { name := "Found", type := 3, offset := 3, embedded := false, tag := "", pkgPath := "", byteOffset := 24 }]) := by kernel_rfl
theorem eq87 {a b c d : Int} : pureRun Try.prog (Op.equal 87 (.agg ⟨[.int .i64 a, .int .i64 b, .int .i64 c, .int .i64 d]⟩) (.agg ⟨[.int .i64 a, .int .i64 b, .int .i64 c, .int .i64 d]⟩)) = some true := by
 show pureRun Try.prog (Op.equalIn (9998 + 1 + 1) 87 _ _) = _
 unfold Op.equalIn
 rw [pureRun_bind, prH87]
 simp only [Option.bind_some,pureRun_bind,prG,prS87,Bool.false_eq_true,if_false,List.forIn_toArray,List.forIn_cons,List.forIn_nil,ne_eq,prI,prF87_0,prF87_1,prF87_2,prF87_3,show ("Sacks" = "_") = False by simp,show ("Worst" = "_") = False by simp,show ("Opened" = "_") = False by simp,show ("Found" = "_") = False by simp,not_false_eq_true,if_true,beq_self_eq_true,Bool.not_true,prPure]
theorem eqb87 {x y : Operand} {a b c d : Int} : pureRun Try.prog (do eqGuard .neq 87 x y (.agg ⟨[.int .i64 a, .int .i64 b, .int .i64 c, .int .i64 d]⟩) (.agg ⟨[.int .i64 a, .int .i64 b, .int .i64 c, .int .i64 d]⟩); binOp .neq 87 (.agg ⟨[.int .i64 a, .int .i64 b, .int .i64 c, .int .i64 d]⟩) (.agg ⟨[.int .i64 a, .int .i64 b, .int .i64 c, .int .i64 d]⟩)) = some (.bool false) := by
 rw [pureRun_bind]
 rw [show pureRun Try.prog (eqGuard .neq 87 x y (.agg ⟨[.int .i64 a, .int .i64 b, .int .i64 c, .int .i64 d]⟩) (.agg ⟨[.int .i64 a, .int .i64 b, .int .i64 c, .int .i64 d]⟩)) = some () by kernel_rfl]
 rw [Option.bind_some, show binOp .neq 87 (.agg ⟨[.int .i64 a, .int .i64 b, .int .i64 c, .int .i64 d]⟩) (.agg ⟨[.int .i64 a, .int .i64 b, .int .i64 c, .int .i64 d]⟩) = (Op.equal 87 (.agg ⟨[.int .i64 a, .int .i64 b, .int .i64 c, .int .i64 d]⟩) (.agg ⟨[.int .i64 a, .int .i64 b, .int .i64 c, .int .i64 d]⟩) >>= fun b => pure (.bool !b)) by simp only [binOp], pureRun_bind, eq87]
 rfl
theorem neq87 {x y : Operand} {a b c d : Int} : binV tabA Try.prog .neq 87 x y (.agg ⟨[.int .i64 a, .int .i64 b, .int .i64 c, .int .i64 d]⟩) (.agg ⟨[.int .i64 a, .int .i64 b, .int .i64 c, .int .i64 d]⟩) = some (.bool false) := by
 unfold binV
 cases h : aEqV Try.prog .neq 87 (some (.agg ⟨[.int .i64 a, .int .i64 b, .int .i64 c, .int .i64 d]⟩)) (some (.agg ⟨[.int .i64 a, .int .i64 b, .int .i64 c, .int .i64 d]⟩)) with
 | none =>
  rw [show gr (.agg ⟨[.int .i64 a, .int .i64 b, .int .i64 c, .int .i64 d]⟩) = true from rfl, Bool.and_self, cond_true, eqb87]
  rfl
 | some v =>
  simp only [aEqV] at h
  cases h' : aEqD Try.prog 87 (.agg ⟨[.int .i64 a, .int .i64 b, .int .i64 c, .int .i64 d]⟩) (.agg ⟨[.int .i64 a, .int .i64 b, .int .i64 c, .int .i64 d]⟩) with
  | none => rw [h'] at h; cases h
  | some r =>
   rw [h'] at h
   cases h
   have h1 := (aEqD_run h' default).1
   have h2 := pureRun_run (eq87 (a := a) (b := b) (c := c) (d := d)) default
   rw [h2] at h1
   cases h1
   rfl
theorem prF77_0 {a b : Int} : pureRun Try.prog (Go.part 3 ⟨[.int .i64 a, .int .i64 b]⟩ 0) = some (.int .i64 a) := by kernel_rfl
theorem prF77_1 {a b : Int} : pureRun Try.prog (Go.part 3 ⟨[.int .i64 a, .int .i64 b]⟩ 1) = some (.int .i64 b) := by kernel_rfl
theorem prS77 : Try.prog.stoodInHeld 77 = false := by kernel_rfl
theorem prH77 : pureRun Try.prog (underlying 77) = some (.struct #[{ name := "Foul", type := 3, offset := 0, embedded := false, tag := "", pkgPath := "", byteOffset := 0 }, { name := "Price", type := 3, offset := 1, embedded := false, tag := "", pkgPath := "", byteOffset := 8 }]) := by kernel_rfl
theorem eq77 {a b : Int} : pureRun Try.prog (Op.equal 77 (.agg ⟨[.int .i64 a, .int .i64 b]⟩) (.agg ⟨[.int .i64 a, .int .i64 b]⟩)) = some true := by
 show pureRun Try.prog (Op.equalIn (9998 + 1 + 1) 77 _ _) = _
 unfold Op.equalIn
 rw [pureRun_bind, prH77]
 simp only [Option.bind_some,pureRun_bind,prG,prS77,Bool.false_eq_true,if_false,List.forIn_toArray,List.forIn_cons,List.forIn_nil,ne_eq,prI,prF77_0,prF77_1,show ("Foul" = "_") = False by simp,show ("Price" = "_") = False by simp,not_false_eq_true,if_true,beq_self_eq_true,Bool.not_true,prPure]
theorem eqb77 {x y : Operand} {a b : Int} : pureRun Try.prog (do eqGuard .neq 77 x y (.agg ⟨[.int .i64 a, .int .i64 b]⟩) (.agg ⟨[.int .i64 a, .int .i64 b]⟩); binOp .neq 77 (.agg ⟨[.int .i64 a, .int .i64 b]⟩) (.agg ⟨[.int .i64 a, .int .i64 b]⟩)) = some (.bool false) := by
 rw [pureRun_bind]
 rw [show pureRun Try.prog (eqGuard .neq 77 x y (.agg ⟨[.int .i64 a, .int .i64 b]⟩) (.agg ⟨[.int .i64 a, .int .i64 b]⟩)) = some () by kernel_rfl]
 rw [Option.bind_some, show binOp .neq 77 (.agg ⟨[.int .i64 a, .int .i64 b]⟩) (.agg ⟨[.int .i64 a, .int .i64 b]⟩) = (Op.equal 77 (.agg ⟨[.int .i64 a, .int .i64 b]⟩) (.agg ⟨[.int .i64 a, .int .i64 b]⟩) >>= fun b => pure (.bool !b)) by simp only [binOp], pureRun_bind, eq77]
 rfl
theorem neq77 {x y : Operand} {a b : Int} : binV tabA Try.prog .neq 77 x y (.agg ⟨[.int .i64 a, .int .i64 b]⟩) (.agg ⟨[.int .i64 a, .int .i64 b]⟩) = some (.bool false) := by
 unfold binV
 cases h : aEqV Try.prog .neq 77 (some (.agg ⟨[.int .i64 a, .int .i64 b]⟩)) (some (.agg ⟨[.int .i64 a, .int .i64 b]⟩)) with
 | none =>
  rw [show gr (.agg ⟨[.int .i64 a, .int .i64 b]⟩) = true from rfl, Bool.and_self, cond_true, eqb77]
  rfl
 | some v =>
  simp only [aEqV] at h
  cases h' : aEqD Try.prog 77 (.agg ⟨[.int .i64 a, .int .i64 b]⟩) (.agg ⟨[.int .i64 a, .int .i64 b]⟩) with
  | none => rw [h'] at h; cases h
  | some r =>
   rw [h'] at h
   cases h
   have h1 := (aEqD_run h' default).1
   have h2 := pureRun_run (eq77 (a := a) (b := b)) default
   rw [h2] at h1
   cases h1
   rfl
section
variable {a a' : Option Addr} {cap cap' : Nat} {ps : List Pk} {gs : List Gd}
theorem c72 (hs : Rw pkE H a ps) (hs' : Rw pkE H a' ps) (hl : ps.length ≤ 65) : acall tabA (aexec tabA Try.prog (N + 150)) 72 [.slice a ps.length cap, .slice a' ps.length cap'] H = some (true, .bool true, H, H.size) := by
 refine call_quiet (k := 26) (rs := [.tmp 4]) rfl fn_72 rfl rfl rfl ?_ rfl
 have hll : decide ((ps.length : Int) = (ps.length : Int)) = true := by simp
 simp (disch:=first|(simp only [yk,seval];done)|omega|(simp only [yz]<;>omega)|fail) only [↓yp,yq0,yq1,yq2,yq3,yq4,yl,ys0,ys1,seval,fitB,newC,endD,endR,lenV_slice st_esS_22,hll]
 refine W_while (n := 26) 70 (fun k e H' => ∃ i, k = ps.length - i ∧ i ≤ ps.length ∧ gt 26 e 14 = .int .i64 (i : Nat) ∧ gt 26 e 13 = .int .i64 ps.length ∧ gt 26 e 12 = .slice a ps.length cap ∧ gt 26 e 1 = .slice a' ps.length cap' ∧ Fr H H')
  ?_ 65 ps.length ⟨0, by omega, by omega, by simp (disch:=first|(simp only [yk,seval];done)|omega|(simp only [yz]<;>omega)|fail) only [yg,seval] <;> rfl, by simp (disch:=first|(simp only [yk,seval];done)|omega|(simp only [yz]<;>omega)|fail) only [yg,seval], by simp (disch:=first|(simp only [yk,seval];done)|omega|(simp only [yz]<;>omega)|fail) only [yg,seval], by simp (disch:=first|(simp only [yk,seval];done)|omega|(simp only [yz]<;>omega)|fail) only [yg,seval], Fr.refl _⟩ (by omega) (by omega)
 rintro M k e H' ⟨i, rfl, hi, g14, g13, g12, g1, fr⟩
 have f0 := fr.size
 have fs := fr.same
 simp (disch:=first|(simp only [yk,seval];done)|omega|(simp only [yz]<;>omega)|fail) only [↓yp,yq0,yq1,yq2,yq3,yq4,yl,ys0,ys1,seval,fitB,newC,endD,endR,g14,g13,g12,g1]
 refine ⟨fun hlt => ?_, fun hlt => ?_⟩
 ·have hi' : i < ps.length := by simpa using hlt
  obtain ⟨x, hx⟩ : ∃ x, ps[i]? = some x := ⟨ps[i], by simp [hi']⟩
  obtain ⟨b, o, c, rfl, hb, hc, hp⟩ := hs.at_ hx
  obtain ⟨b', o', c', rfl, hb', hc', hp'⟩ := hs'.at_ hx
  have q : part c (o + i * 4) (4 + 1) = some (.agg ⟨x.enc⟩) := part_of hp rfl
  have q' : part c' (o' + i * 4) (4 + 1) = some (.agg ⟨x.enc⟩) := part_of hp' rfl
  simp only [Pk.enc,Nat.reduceAdd] at q q'
  have hw2 : w64 ((i : Int) + 1) = ((i + 1 : Nat) : Int) := by rw [w64_of (by omega)]; omega
  simp (disch:=first|(simp only [yk,seval];done)|omega|(simp only [yz]<;>omega)|fail) only [↓yp,yq0,yq1,yq2,yq3,yq4,yl,ys0,ys1,seval,fitB,newC,endD,endR,g14,g13,g12,g1,fs,A_indexSlice st_esS_22,hc,q]
  refine W_draw [] rfl (by kernel_rfl) (by kernel_rfl) (by first|omega|(simp only [yz]<;>omega)) ?_
  simp (disch:=first|(simp only [yk,seval];done)|omega|(simp only [yz]<;>omega)|fail) only [↓yp,yq0,yq1,yq2,yq3,yq4,yl,ys0,ys1,seval,fitB,newC,endD,endR,g14,g13,g12,g1,fs,A_indexSlice st_esS_22,hc,q,hc',q',neq87,hw2]
  refine ⟨ps.length - (i + 1), by omega, i + 1, rfl, by omega, ?_, ?_, ?_, ?_, ?_⟩
  ·simp (disch:=first|(simp only [yk,seval];done)|omega|(simp only [yz]<;>omega)|fail) only [yg,seval]
  ·simp (disch:=first|(simp only [yk,seval];done)|omega|(simp only [yz]<;>omega)|fail) only [yg,seval,g13]
  ·simp (disch:=first|(simp only [yk,seval];done)|omega|(simp only [yz]<;>omega)|fail) only [yg,seval,g12]
  ·simp (disch:=first|(simp only [yk,seval];done)|omega|(simp only [yz]<;>omega)|fail) only [yg,seval,g1]
  ·exact (fr.allocd _).put (by omega) _
 ·simp (disch:=first|(simp only [yk,seval];done)|omega|(simp only [yz]<;>omega)|fail) only [↓yp,yq0,yq1,yq2,yq3,yq4,yl,ys0,ys1,seval,fitB,newC,endD,endR]
theorem c73 (hs : Rw gdE H a gs) (hs' : Rw gdE H a' gs) (hl : gs.length ≤ 65) : acall tabA (aexec tabA Try.prog (N + 150)) 73 [.slice a gs.length cap, .slice a' gs.length cap'] H = some (true, .bool true, H, H.size) := by
 refine call_quiet (k := 26) (rs := [.tmp 4]) rfl fn_73 rfl rfl rfl ?_ rfl
 have hll : decide ((gs.length : Int) = (gs.length : Int)) = true := by simp
 simp (disch:=first|(simp only [yk,seval];done)|omega|(simp only [yz]<;>omega)|fail) only [↓yp,yq0,yq1,yq2,yq3,yq4,yl,ys0,ys1,seval,fitB,newC,endD,endR,lenV_slice st_esS_23,hll]
 refine W_while (n := 26) 70 (fun k e H' => ∃ i, k = gs.length - i ∧ i ≤ gs.length ∧ gt 26 e 14 = .int .i64 (i : Nat) ∧ gt 26 e 13 = .int .i64 gs.length ∧ gt 26 e 12 = .slice a gs.length cap ∧ gt 26 e 1 = .slice a' gs.length cap' ∧ Fr H H')
  ?_ 65 gs.length ⟨0, by omega, by omega, by simp (disch:=first|(simp only [yk,seval];done)|omega|(simp only [yz]<;>omega)|fail) only [yg,seval] <;> rfl, by simp (disch:=first|(simp only [yk,seval];done)|omega|(simp only [yz]<;>omega)|fail) only [yg,seval], by simp (disch:=first|(simp only [yk,seval];done)|omega|(simp only [yz]<;>omega)|fail) only [yg,seval], by simp (disch:=first|(simp only [yk,seval];done)|omega|(simp only [yz]<;>omega)|fail) only [yg,seval], Fr.refl _⟩ (by omega) (by omega)
 rintro M k e H' ⟨i, rfl, hi, g14, g13, g12, g1, fr⟩
 have f0 := fr.size
 have fs := fr.same
 simp (disch:=first|(simp only [yk,seval];done)|omega|(simp only [yz]<;>omega)|fail) only [↓yp,yq0,yq1,yq2,yq3,yq4,yl,ys0,ys1,seval,fitB,newC,endD,endR,g14,g13,g12,g1]
 refine ⟨fun hlt => ?_, fun hlt => ?_⟩
 ·have hi' : i < gs.length := by simpa using hlt
  obtain ⟨x, hx⟩ : ∃ x, gs[i]? = some x := ⟨gs[i], by simp [hi']⟩
  obtain ⟨b, o, c, rfl, hb, hc, hp⟩ := hs.at_ hx
  obtain ⟨b', o', c', rfl, hb', hc', hp'⟩ := hs'.at_ hx
  have q : part c (o + i * 2) (2 + 1) = some (.agg ⟨x.enc⟩) := part_of hp rfl
  have q' : part c' (o' + i * 2) (2 + 1) = some (.agg ⟨x.enc⟩) := part_of hp' rfl
  simp only [Gd.enc,Nat.reduceAdd] at q q'
  have hw2 : w64 ((i : Int) + 1) = ((i + 1 : Nat) : Int) := by rw [w64_of (by omega)]; omega
  simp (disch:=first|(simp only [yk,seval];done)|omega|(simp only [yz]<;>omega)|fail) only [↓yp,yq0,yq1,yq2,yq3,yq4,yl,ys0,ys1,seval,fitB,newC,endD,endR,g14,g13,g12,g1,fs,A_indexSlice st_esS_23,hc,q]
  refine W_draw [] rfl (by kernel_rfl) (by kernel_rfl) (by first|omega|(simp only [yz]<;>omega)) ?_
  simp (disch:=first|(simp only [yk,seval];done)|omega|(simp only [yz]<;>omega)|fail) only [↓yp,yq0,yq1,yq2,yq3,yq4,yl,ys0,ys1,seval,fitB,newC,endD,endR,g14,g13,g12,g1,fs,A_indexSlice st_esS_23,hc,q,hc',q',neq77,hw2]
  refine ⟨gs.length - (i + 1), by omega, i + 1, rfl, by omega, ?_, ?_, ?_, ?_, ?_⟩
  ·simp (disch:=first|(simp only [yk,seval];done)|omega|(simp only [yz]<;>omega)|fail) only [yg,seval]
  ·simp (disch:=first|(simp only [yk,seval];done)|omega|(simp only [yz]<;>omega)|fail) only [yg,seval,g13]
  ·simp (disch:=first|(simp only [yk,seval];done)|omega|(simp only [yz]<;>omega)|fail) only [yg,seval,g12]
  ·simp (disch:=first|(simp only [yk,seval];done)|omega|(simp only [yz]<;>omega)|fail) only [yg,seval,g1]
  ·exact (fr.allocd _).put (by omega) _
 ·simp (disch:=first|(simp only [yk,seval];done)|omega|(simp only [yz]<;>omega)|fail) only [↓yp,yq0,yq1,yq2,yq3,yq4,yl,ys0,ys1,seval,fitB,newC,endD,endR]
theorem c22 {b b' : Option Addr} {c1 c2 : Nat} {lots : Int} (hs : Rw pkE H a ps) (hs' : Rw pkE H a' ps) (hg : Rw gdE H b gs) (hg' : Rw gdE H b' gs) (hl : ps.length ≤ 65) (hgl : gs.length ≤ 65) :
  acall tabA (aexec tabA Try.prog (N + 250)) 22 [.agg ⟨[.slice a ps.length cap, .slice b gs.length c1, .int .i64 lots]⟩, .agg ⟨[.slice a' ps.length cap', .slice b' gs.length c2, .int .i64 lots]⟩] H = some (true, .bool true, H, H.size) := by
 refine call_quiet (k := 24) (rs := [.tmp 4]) rfl fn_22 rfl rfl rfl ?_ rfl
 have fr : Fr H ((H.alloc (.rw [.slice a ps.length cap, .slice b gs.length c1, .int .i64 lots] 25 false [])).alloc (.rw [.slice a' ps.length cap', .slice b' gs.length c2, .int .i64 lots] 25 false [])) := by (repeat (first | exact Fr.refl _ | assumption | refine Fr.allocd ?_ _ | refine Fr.put ?_ (by first | omega | (simp only [yz] <;> omega)) _))
 have h72 := fun (N : Nat) => c72 (N := N) (cap := cap) (cap' := cap') (hs.fr fr) (hs'.fr fr) hl
 have h73 := fun (N : Nat) => c73 (N := N) (cap := c1) (cap' := c2) (hg.fr fr) (hg'.fr fr) hgl
 have hee : decide (lots = lots) = true := by simp
 simp (disch:=first|(simp only [yk,seval];done)|omega|(simp only [yz]<;>omega)|fail) only [↓yp,yq0,yq1,yq2,yq3,yq4,yl,ys0,ys1,seval,fitB,newC,endD,endR,h72,h73,hee]
end
end Go.Am.K
namespace Go.Am.K
open Go.Proofs
variable {T : Tab} {P : Program} {N L : Nat} {H : AHeap} {Q : Bool → Value → AHeap → Prop}
section
variable {a a' : Option Addr} {cap cap' : Nat} {ps : List Pk} {gs : List Gd} {lots n : Int}
structure StOk (ps : List Pk) (gs : List Gd) (lots : Int) : Prop where
 l1 : 1 ≤ ps.length
 l4 : ps.length ≤ 4
 g4 : gs.length ≤ 4
 pb : ps.all Pk.isB = true
 gb : gs.all Gd.isB = true
 lo : 0 ≤ lots ∧ lots ≤ 3
 od : ordB gs = true
 sp : ∀ p ∈ ps, p.f ≤ p.hi
theorem Pk.isB_ok {p : Pk} (h : p.isB = true) : p.Ok := by
 unfold Pk.isB wi at h
 simp only [Bool.and_eq_true,decide_eq_true_eq] at h
 exact ⟨h.1, h.2.1, h.2.2.1, h.2.2.2⟩
theorem chkS_ok (h : chkS ps gs lots = 0) : StOk ps gs lots := by
 unfold chkS at h
 cases h1 : chk1 ps gs
 ·cases h2 : chk2 ps gs lots
  ·cases h3 : ordB gs
   ·rw [h1, h2, h3] at h; cases h
   ·cases h4 : ps.all fun p => !decide (p.hi < p.f)
    ·rw [h1, h2, h3, h4] at h; cases h
    ·unfold chk1 wi at h1
     unfold chk2 wi at h2
     simp only [Bool.or_eq_false_iff,Bool.not_eq_false',Bool.and_eq_true,decide_eq_true_eq,decide_eq_false_iff_not] at h1 h2
     refine ⟨by omega, by omega, by omega, h2.1.1, h2.1.2, h2.2, h3, fun p hp => ?_⟩
     have := List.all_eq_true.1 h4 p hp
     simp at this
     exact this
  ·rw [h1, h2] at h; cases h
 ·rw [h1] at h; cases h
end
end Go.Am.K
namespace Go.Am.K
open Go.Proofs
variable {T : Tab} {P : Program} {N L : Nat} {H : AHeap} {Q : Bool → Value → AHeap → Prop}
section
variable {a a' : Option Addr} {cap cap' : Nat} {ps : List Pk} {gs : List Gd} {lots n y : Int}
end
end Go.Am.K
