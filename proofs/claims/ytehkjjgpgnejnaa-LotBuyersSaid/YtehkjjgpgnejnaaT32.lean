import Derived.Test.YtehkjjgpgnejnaaT31
import Derived.Test.YtehkjjgpgnejnaaT28
set_option linter.unusedSimpArgs false
set_option linter.unusedVariables false
namespace Go.Am.K
open Go.Proofs
variable {T : Tab} {P : Program} {N L : Nat} {H : AHeap} {Q : Bool → Value → AHeap → Prop}
theorem st_apS_22 : apS tabA 22 = some (87, 4, 32) := by kernel_rfl
theorem st_apS_23 : apS tabA 23 = some (77, 2, 16) := by kernel_rfl
section
variable {a a' : Option Addr} {cap cap' : Nat} {ps : List Pk} {gs : List Gd} {lo : Value}
theorem c12 : acall tabA (aexec tabA Try.prog (N + 40)) 12 [.agg ⟨[.slice a ps.length cap, .slice a' gs.length cap', lo]⟩] H = some (true, .bool (decide (6 < (ps.length : Int)) || decide (6 < (gs.length : Int))), H, H.size) := by
 refine call_quiet (k := 13) (rs := [.tmp 2]) rfl fn_12 rfl rfl rfl ?_ rfl
 cases hA : decide (6 < (ps.length : Int))
 ·simp (disch:=first|(simp only [yk,seval];done)|omega|(simp only [yz]<;>omega)|fail) only [↓yp,yq0,yq1,yq2,yq3,yq4,yl,ys0,ys1,seval,fitB,newC,endD,endR,lenV_slice st_esS_22,lenV_slice st_esS_23,hA]
 ·simp (disch:=first|(simp only [yk,seval];done)|omega|(simp only [yz]<;>omega)|fail) only [↓yp,yq0,yq1,yq2,yq3,yq4,yl,ys0,ys1,seval,fitB,newC,endD,endR,lenV_slice st_esS_22,lenV_slice st_esS_23,hA]
theorem c56n : acall tabA (aexec tabA Try.prog (N + 60)) 56 [.slice a 0 cap] H = some (true, .slice none 0 0, H, H.size) := by
 refine call_quiet (k := 9) (rs := [.tmp 2]) rfl fn_56 rfl rfl rfl ?_ rfl
 simp (disch:=first|(simp only [yk,seval];done)|omega|(simp only [yz]<;>omega)|fail) only [↓yp,yq0,yq1,yq2,yq3,yq4,yl,ys0,ys1,seval,fitB,newC,endD,endR,lenV_slice st_esS_22,Int.natCast_zero]
theorem c56 (hs : Rw pkE H a ps) (hne : ps ≠ []) (hl : ps.length ≤ 65) (hL : L ≤ H.size) {M : Nat} (hM : 60 ≤ M)
  (hq : ∀ k cap' H', Fr H H' → H.size ≤ k → k < H'.size → H'.get k = .rw (pkE.fl ps) 87 true [] → Q false (.slice (some ⟨k, 0, none⟩) ps.length cap') H') : resK (acall tabA (aexec tabA Try.prog M) 56 [.slice a ps.length cap] H) L Q := by
 obtain ⟨N, rfl⟩ : ∃ N, M = N + 60 := ⟨M - 60, by omega⟩
 obtain ⟨b, o, c, rfl, -⟩ := hs.get hne
 refine call_fls (R := fun v H' => ∃ k cap', v = .slice (some ⟨k, 0, none⟩) ps.length cap' ∧ Fr H H' ∧ H.size ≤ k ∧ k < H'.size ∧ H'.get k = .rw (pkE.fl ps) 87 true []) (k := 9) (rs := [.tmp 2]) rfl fn_56 rfl rfl rfl hL ?_ ?_ ?_
 ·have hpos : 0 < ps.length := List.length_pos_iff.2 hne
  have h0 : decide ((ps.length : Int) = 0) = false := by simp; omega
  simp (disch:=first|(simp only [yk,seval];done)|omega|(simp only [yz]<;>omega)|fail) only [↓yp,yq0,yq1,yq2,yq3,yq4,yl,ys0,ys1,seval,fitB,newC,endD,endR,lenV_slice st_esS_22,h0,A_buildSlice st_brS_22_0]
  rw [apK_empty (H := _) (n := ps.length) st_apS_22 ((hs.fr (Fr.alloc _ _)).src hne) hpos (by omega) (by omega) (one_fl ps) (c₀ := []) (by simp (disch:=first|(simp only [yk,seval];done)|omega|(simp only [yz]<;>omega)|fail) only [yg,seval])]
  simp (disch:=first|(simp only [yk,seval];done)|omega|(simp only [yz]<;>omega)|fail) only [↓yp,yq0,yq1,yq2,yq3,yq4,yl,ys0,ys1,seval,fitB,newC,endD,endR]
  exact ⟨_, _, rfl, by (repeat (first | exact Fr.refl _ | assumption | refine Fr.allocd ?_ _ | refine Fr.put ?_ (by first | omega | (simp only [yz] <;> omega)) _)), by (first | omega | (simp only [yz] <;> omega)), by (first | omega | (simp only [yz] <;> omega)), by simp (disch:=first|(simp only [yk,seval];done)|omega|(simp only [yz]<;>omega)|fail) only [yg,seval]⟩
 ·rintro v H' ⟨k, cap', rfl, -⟩; rfl
 ·rintro v H' ⟨k, cap', rfl, h1, h2, h3, h4⟩
  exact hq _ _ _ h1 h2 h3 h4
theorem c57n : acall tabA (aexec tabA Try.prog (N + 60)) 57 [.slice a 0 cap] H = some (true, .slice none 0 0, H, H.size) := by
 refine call_quiet (k := 9) (rs := [.tmp 2]) rfl fn_57 rfl rfl rfl ?_ rfl
 simp (disch:=first|(simp only [yk,seval];done)|omega|(simp only [yz]<;>omega)|fail) only [↓yp,yq0,yq1,yq2,yq3,yq4,yl,ys0,ys1,seval,fitB,newC,endD,endR,lenV_slice st_esS_23,Int.natCast_zero]
theorem c57 (hs : Rw gdE H a gs) (hne : gs ≠ []) (hl : gs.length ≤ 65) (hL : L ≤ H.size) {M : Nat} (hM : 60 ≤ M)
  (hq : ∀ k cap' H', Fr H H' → H.size ≤ k → k < H'.size → H'.get k = .rw (gdE.fl gs) 77 true [] → Q false (.slice (some ⟨k, 0, none⟩) gs.length cap') H') : resK (acall tabA (aexec tabA Try.prog M) 57 [.slice a gs.length cap] H) L Q := by
 obtain ⟨N, rfl⟩ : ∃ N, M = N + 60 := ⟨M - 60, by omega⟩
 obtain ⟨b, o, c, rfl, -⟩ := hs.get hne
 refine call_fls (R := fun v H' => ∃ k cap', v = .slice (some ⟨k, 0, none⟩) gs.length cap' ∧ Fr H H' ∧ H.size ≤ k ∧ k < H'.size ∧ H'.get k = .rw (gdE.fl gs) 77 true []) (k := 9) (rs := [.tmp 2]) rfl fn_57 rfl rfl rfl hL ?_ ?_ ?_
 ·have hpos : 0 < gs.length := List.length_pos_iff.2 hne
  have h0 : decide ((gs.length : Int) = 0) = false := by simp; omega
  simp (disch:=first|(simp only [yk,seval];done)|omega|(simp only [yz]<;>omega)|fail) only [↓yp,yq0,yq1,yq2,yq3,yq4,yl,ys0,ys1,seval,fitB,newC,endD,endR,lenV_slice st_esS_23,h0,A_buildSlice st_brS_23_0]
  rw [apK_empty (H := _) (n := gs.length) st_apS_23 ((hs.fr (Fr.alloc _ _)).src hne) hpos (by omega) (by omega) (one_fl gs) (c₀ := []) (by simp (disch:=first|(simp only [yk,seval];done)|omega|(simp only [yz]<;>omega)|fail) only [yg,seval])]
  simp (disch:=first|(simp only [yk,seval];done)|omega|(simp only [yz]<;>omega)|fail) only [↓yp,yq0,yq1,yq2,yq3,yq4,yl,ys0,ys1,seval,fitB,newC,endD,endR]
  exact ⟨_, _, rfl, by (repeat (first | exact Fr.refl _ | assumption | refine Fr.allocd ?_ _ | refine Fr.put ?_ (by first | omega | (simp only [yz] <;> omega)) _)), by (first | omega | (simp only [yz] <;> omega)), by (first | omega | (simp only [yz] <;> omega)), by simp (disch:=first|(simp only [yk,seval];done)|omega|(simp only [yz]<;>omega)|fail) only [yg,seval]⟩
 ·rintro v H' ⟨k, cap', rfl, -⟩; rfl
 ·rintro v H' ⟨k, cap', rfl, h1, h2, h3, h4⟩
  exact hq _ _ _ h1 h2 h3 h4
end
end Go.Am.K
namespace Go.Am.K
open Go.Proofs
variable {T : Tab} {P : Program} {N L : Nat} {H : AHeap} {Q : Bool → Value → AHeap → Prop}
theorem prF87_0 {a b c d : Int} : pureRun Try.prog (Go.part 3 ⟨[.int .i64 a, .int .i64 b, .int .i64 c, .int .i64 d]⟩ 0) = some (.int .i64 a) := by kernel_rfl
theorem prF87_1 {a b c d : Int} : pureRun Try.prog (Go.part 3 ⟨[.int .i64 a, .int .i64 b, .int .i64 c, .int .i64 d]⟩ 1) = some (.int .i64 b) := by kernel_rfl
theorem prF87_2 {a b c d : Int} : pureRun Try.prog (Go.part 3 ⟨[.int .i64 a, .int .i64 b, .int .i64 c, .int .i64 d]⟩ 2) = some (.int .i64 c) := by kernel_rfl
theorem prF87_3 {a b c d : Int} : pureRun Try.prog (Go.part 3 ⟨[.int .i64 a, .int .i64 b, .int .i64 c, .int .i64 d]⟩ 3) = some (.int .i64 d) := by kernel_rfl
theorem prS87 : Try.prog.stoodInHeld 87 = false := by kernel_rfl
theorem prH87 : pureRun Try.prog (underlying 87) = some (.struct #[{ name := "Sacks", type := 3, offset := 0, embedded := false, tag := "", pkgPath := "", byteOffset := 0 }, { name := "Worst", type := 3, offset := 1, embedded := false, tag := "", pkgPath := "", byteOffset := 8 }, { name := "Opened", type := 3, offset := 2, embedded := false, tag := "", pkgPath := "", byteOffset := 16 }, { name := "Found", type := 3, offset := 3, embedded := false, tag := "", pkgPath := "", byteOffset := 24 }]) := by kernel_rfl
theorem eq87 {a b c d : Int} : pureRun Try.prog (Op.equal 87 (.agg ⟨[.int .i64 a, .int .i64 b, .int .i64 c, .int .i64 d]⟩) (.agg ⟨[.int .i64 a, .int .i64 b, .int .i64 c, .int .i64 d]⟩)) = some true := by
 show pureRun Try.prog (Op.equalIn (9998 + 1 + 1) 87 _ _) = _
 unfold Op.equalIn
 rw [pureRun_bind, prH87]
 simp only [Option.bind_some,pureRun_bind,prG,prS87,Bool.false_eq_true,if_false,List.forIn_toArray,List.forIn_cons,List.forIn_nil,ne_eq,prI,prF87_0,prF87_1,prF87_2,prF87_3,show ("Sacks" = "_") = False by simp,show ("Worst" = "_") = False by simp,show ("Opened" = "_") = False by simp,show ("Found" = "_") = False by simp,not_false_eq_true,if_true,beq_self_eq_true,Bool.not_true,prPure]
theorem eqb87 {x y : Operand} {a b c d : Int} : pureRun Try.prog (do eqGuard .neq 87 x y (.agg ⟨[.int .i64 a, .int .i64 b, .int .i64 c, .int .i64 d]⟩) (.agg ⟨[.int .i64 a, .int .i64 b, .int .i64 c, .int .i64 d]⟩); binOp .neq 87 (.agg ⟨[.int .i64 a, .int .i64 b, .int .i64 c, .int .i64 d]⟩) (.agg ⟨[.int .i64 a, .int .i64 b, .int .i64 c, .int .i64 d]⟩)) = some (.bool false) := by
 rw [pureRun_bind]
 rw [show pureRun Try.prog (eqGuard .neq 87 x y (.agg ⟨[.int .i64 a, .int .i64 b, .int .i64 c, .int .i64 d]⟩) (.agg ⟨[.int .i64 a, .int .i64 b, .int .i64 c, .int .i64 d]⟩)) = some () by kernel_rfl]
 rw [Option.bind_some, show binOp .neq 87 (.agg ⟨[.int .i64 a, .int .i64 b, .int .i64 c, .int .i64 d]⟩) (.agg ⟨[.int .i64 a, .int .i64 b, .int .i64 c, .int .i64 d]⟩) = (Op.equal 87 (.agg ⟨[.int .i64 a, .int .i64 b, .int .i64 c, .int .i64 d]⟩) (.agg ⟨[.int .i64 a, .int .i64 b, .int .i64 c, .int .i64 d]⟩) >>= fun b => pure (.bool !b)) by simp only [binOp], pureRun_bind, eq87]
 rfl
theorem neq87 {x y : Operand} {a b c d : Int} : binV tabA Try.prog .neq 87 x y (.agg ⟨[.int .i64 a, .int .i64 b, .int .i64 c, .int .i64 d]⟩) (.agg ⟨[.int .i64 a, .int .i64 b, .int .i64 c, .int .i64 d]⟩) = some (.bool false) := by
 unfold binV
 cases h : aEqV Try.prog .neq 87 (some (.agg ⟨[.int .i64 a, .int .i64 b, .int .i64 c, .int .i64 d]⟩)) (some (.agg ⟨[.int .i64 a, .int .i64 b, .int .i64 c, .int .i64 d]⟩)) with
 | none =>
  rw [show gr (.agg ⟨[.int .i64 a, .int .i64 b, .int .i64 c, .int .i64 d]⟩) = true from rfl, Bool.and_self, cond_true, eqb87]
  rfl
 | some v =>
  simp only [aEqV] at h
  cases h' : aEqD Try.prog 87 (.agg ⟨[.int .i64 a, .int .i64 b, .int .i64 c, .int .i64 d]⟩) (.agg ⟨[.int .i64 a, .int .i64 b, .int .i64 c, .int .i64 d]⟩) with
  | none => rw [h'] at h; cases h
  | some r =>
   rw [h'] at h
   cases h
   have h1 := (aEqD_run h' default).1
   have h2 := pureRun_run (eq87 (a := a) (b := b) (c := c) (d := d)) default
   rw [h2] at h1
   cases h1
   rfl
theorem prF77_0 {a b : Int} : pureRun Try.prog (Go.part 3 ⟨[.int .i64 a, .int .i64 b]⟩ 0) = some (.int .i64 a) := by kernel_rfl
theorem prF77_1 {a b : Int} : pureRun Try.prog (Go.part 3 ⟨[.int .i64 a, .int .i64 b]⟩ 1) = some (.int .i64 b) := by kernel_rfl
theorem prS77 : Try.prog.stoodInHeld 77 = false := by kernel_rfl
theorem prH77 : pureRun Try.prog (underlying 77) = some (.struct #[{ name := "Foul", type := 3, offset := 0, embedded := false, tag := "", pkgPath := "", byteOffset := 0 }, { name := "Price", type := 3, offset := 1, embedded := false, tag := "", pkgPath := "", byteOffset := 8 }]) := by kernel_rfl
theorem eq77 {a b : Int} : pureRun Try.prog (Op.equal 77 (.agg ⟨[.int .i64 a, .int .i64 b]⟩) (.agg ⟨[.int .i64 a, .int .i64 b]⟩)) = some true := by
 show pureRun Try.prog (Op.equalIn (9998 + 1 + 1) 77 _ _) = _
 unfold Op.equalIn
 rw [pureRun_bind, prH77]
 simp only [Option.bind_some,pureRun_bind,prG,prS77,Bool.false_eq_true,if_false,List.forIn_toArray,List.forIn_cons,List.forIn_nil,ne_eq,prI,prF77_0,prF77_1,show ("Foul" = "_") = False by simp,show ("Price" = "_") = False by simp,not_false_eq_true,if_true,beq_self_eq_true,Bool.not_true,prPure]
theorem eqb77 {x y : Operand} {a b : Int} : pureRun Try.prog (do eqGuard .neq 77 x y (.agg ⟨[.int .i64 a, .int .i64 b]⟩) (.agg ⟨[.int .i64 a, .int .i64 b]⟩); binOp .neq 77 (.agg ⟨[.int .i64 a, .int .i64 b]⟩) (.agg ⟨[.int .i64 a, .int .i64 b]⟩)) = some (.bool false) := by
 rw [pureRun_bind]
 rw [show pureRun Try.prog (eqGuard .neq 77 x y (.agg ⟨[.int .i64 a, .int .i64 b]⟩) (.agg ⟨[.int .i64 a, .int .i64 b]⟩)) = some () by kernel_rfl]
 rw [Option.bind_some, show binOp .neq 77 (.agg ⟨[.int .i64 a, .int .i64 b]⟩) (.agg ⟨[.int .i64 a, .int .i64 b]⟩) = (Op.equal 77 (.agg ⟨[.int .i64 a, .int .i64 b]⟩) (.agg ⟨[.int .i64 a, .int .i64 b]⟩) >>= fun b => pure (.bool !b)) by simp only [binOp], pureRun_bind, eq77]
 rfl
theorem neq77 {x y : Operand} {a b : Int} : binV tabA Try.prog .neq 77 x y (.agg ⟨[.int .i64 a, .int .i64 b]⟩) (.agg ⟨[.int .i64 a, .int .i64 b]⟩) = some (.bool false) := by
 unfold binV
 cases h : aEqV Try.prog .neq 77 (some (.agg ⟨[.int .i64 a, .int .i64 b]⟩)) (some (.agg ⟨[.int .i64 a, .int .i64 b]⟩)) with
 | none =>
  rw [show gr (.agg ⟨[.int .i64 a, .int .i64 b]⟩) = true from rfl, Bool.and_self, cond_true, eqb77]
  rfl
 | some v =>
  simp only [aEqV] at h
  cases h' : aEqD Try.prog 77 (.agg ⟨[.int .i64 a, .int .i64 b]⟩) (.agg ⟨[.int .i64 a, .int .i64 b]⟩) with
  | none => rw [h'] at h; cases h
  | some r =>
   rw [h'] at h
   cases h
   have h1 := (aEqD_run h' default).1
   have h2 := pureRun_run (eq77 (a := a) (b := b)) default
   rw [h2] at h1
   cases h1
   rfl
section
variable {a a' : Option Addr} {cap cap' : Nat} {ps : List Pk} {gs : List Gd}
theorem c72 (hs : Rw pkE H a ps) (hs' : Rw pkE H a' ps) (hl : ps.length ≤ 65) : acall tabA (aexec tabA Try.prog (N + 150)) 72 [.slice a ps.length cap, .slice a' ps.length cap'] H = some (true, .bool true, H, H.size) := by
 refine call_quiet (k := 26) (rs := [.tmp 4]) rfl fn_72 rfl rfl rfl ?_ rfl
 have hll : decide ((ps.length : Int) = (ps.length : Int)) = true := by simp
 simp (disch:=first|(simp only [yk,seval];done)|omega|(simp only [yz]<;>omega)|fail) only [↓yp,yq0,yq1,yq2,yq3,yq4,yl,ys0,ys1,seval,fitB,newC,endD,endR,lenV_slice st_esS_22,hll]
 refine W_while (n := 26) 70 (fun k e H' => ∃ i, k = ps.length - i ∧ i ≤ ps.length ∧ gt 26 e 14 = .int .i64 (i : Nat) ∧ gt 26 e 13 = .int .i64 ps.length ∧ gt 26 e 12 = .slice a ps.length cap ∧ gt 26 e 1 = .slice a' ps.length cap' ∧ Fr H H')
  ?_ 65 ps.length ⟨0, by omega, by omega, by simp (disch:=first|(simp only [yk,seval];done)|omega|(simp only [yz]<;>omega)|fail) only [yg,seval] <;> rfl, by simp (disch:=first|(simp only [yk,seval];done)|omega|(simp only [yz]<;>omega)|fail) only [yg,seval], by simp (disch:=first|(simp only [yk,seval];done)|omega|(simp only [yz]<;>omega)|fail) only [yg,seval], by simp (disch:=first|(simp only [yk,seval];done)|omega|(simp only [yz]<;>omega)|fail) only [yg,seval], Fr.refl _⟩ (by omega) (by omega)
 rintro M k e H' ⟨i, rfl, hi, g14, g13, g12, g1, fr⟩
 have f0 := fr.size
 have fs := fr.same
 simp (disch:=first|(simp only [yk,seval];done)|omega|(simp only [yz]<;>omega)|fail) only [↓yp,yq0,yq1,yq2,yq3,yq4,yl,ys0,ys1,seval,fitB,newC,endD,endR,g14,g13,g12,g1]
 refine ⟨fun hlt => ?_, fun hlt => ?_⟩
 ·have hi' : i < ps.length := by simpa using hlt
  obtain ⟨x, hx⟩ : ∃ x, ps[i]? = some x := ⟨ps[i], by simp [hi']⟩
  obtain ⟨b, o, c, rfl, hb, hc, hp⟩ := hs.at_ hx
  obtain ⟨b', o', c', rfl, hb', hc', hp'⟩ := hs'.at_ hx
  have q : part c (o + i * 4) (4 + 1) = some (.agg ⟨x.enc⟩) := part_of hp rfl
  have q' : part c' (o' + i * 4) (4 + 1) = some (.agg ⟨x.enc⟩) := part_of hp' rfl
  simp only [Pk.enc,Nat.reduceAdd] at q q'
  have hw2 : w64 ((i : Int) + 1) = ((i + 1 : Nat) : Int) := by rw [w64_of (by omega)]; omega
  simp (disch:=first|(simp only [yk,seval];done)|omega|(simp only [yz]<;>omega)|fail) only [↓yp,yq0,yq1,yq2,yq3,yq4,yl,ys0,ys1,seval,fitB,newC,endD,endR,g14,g13,g12,g1,fs,A_indexSlice st_esS_22,hc,q]
  refine W_draw [] rfl (by kernel_rfl) (by kernel_rfl) (by first|omega|(simp only [yz]<;>omega)) ?_
  simp (disch:=first|(simp only [yk,seval];done)|omega|(simp only [yz]<;>omega)|fail) only [↓yp,yq0,yq1,yq2,yq3,yq4,yl,ys0,ys1,seval,fitB,newC,endD,endR,g14,g13,g12,g1,fs,A_indexSlice st_esS_22,hc,q,hc',q',neq87,hw2]
  refine ⟨ps.length - (i + 1), by omega, i + 1, rfl, by omega, ?_, ?_, ?_, ?_, ?_⟩
  ·simp (disch:=first|(simp only [yk,seval];done)|omega|(simp only [yz]<;>omega)|fail) only [yg,seval]
  ·simp (disch:=first|(simp only [yk,seval];done)|omega|(simp only [yz]<;>omega)|fail) only [yg,seval,g13]
  ·simp (disch:=first|(simp only [yk,seval];done)|omega|(simp only [yz]<;>omega)|fail) only [yg,seval,g12]
  ·simp (disch:=first|(simp only [yk,seval];done)|omega|(simp only [yz]<;>omega)|fail) only [yg,seval,g1]
  ·exact (fr.allocd _).put (by omega) _
 ·simp (disch:=first|(simp only [yk,seval];done)|omega|(simp only [yz]<;>omega)|fail) only [↓yp,yq0,yq1,yq2,yq3,yq4,yl,ys0,ys1,seval,fitB,newC,endD,endR]
theorem c73 (hs : Rw gdE H a gs) (hs' : Rw gdE H a' gs) (hl : gs.length ≤ 65) : acall tabA (aexec tabA Try.prog (N + 150)) 73 [.slice a gs.length cap, .slice a' gs.length cap'] H = some (true, .bool true, H, H.size) := by
 refine call_quiet (k := 26) (rs := [.tmp 4]) rfl fn_73 rfl rfl rfl ?_ rfl
 have hll : decide ((gs.length : Int) = (gs.length : Int)) = true := by simp
 simp (disch:=first|(simp only [yk,seval];done)|omega|(simp only [yz]<;>omega)|fail) only [↓yp,yq0,yq1,yq2,yq3,yq4,yl,ys0,ys1,seval,fitB,newC,endD,endR,lenV_slice st_esS_23,hll]
 refine W_while (n := 26) 70 (fun k e H' => ∃ i, k = gs.length - i ∧ i ≤ gs.length ∧ gt 26 e 14 = .int .i64 (i : Nat) ∧ gt 26 e 13 = .int .i64 gs.length ∧ gt 26 e 12 = .slice a gs.length cap ∧ gt 26 e 1 = .slice a' gs.length cap' ∧ Fr H H')
  ?_ 65 gs.length ⟨0, by omega, by omega, by simp (disch:=first|(simp only [yk,seval];done)|omega|(simp only [yz]<;>omega)|fail) only [yg,seval] <;> rfl, by simp (disch:=first|(simp only [yk,seval];done)|omega|(simp only [yz]<;>omega)|fail) only [yg,seval], by simp (disch:=first|(simp only [yk,seval];done)|omega|(simp only [yz]<;>omega)|fail) only [yg,seval], by simp (disch:=first|(simp only [yk,seval];done)|omega|(simp only [yz]<;>omega)|fail) only [yg,seval], Fr.refl _⟩ (by omega) (by omega)
 rintro M k e H' ⟨i, rfl, hi, g14, g13, g12, g1, fr⟩
 have f0 := fr.size
 have fs := fr.same
 simp (disch:=first|(simp only [yk,seval];done)|omega|(simp only [yz]<;>omega)|fail) only [↓yp,yq0,yq1,yq2,yq3,yq4,yl,ys0,ys1,seval,fitB,newC,endD,endR,g14,g13,g12,g1]
 refine ⟨fun hlt => ?_, fun hlt => ?_⟩
 ·have hi' : i < gs.length := by simpa using hlt
  obtain ⟨x, hx⟩ : ∃ x, gs[i]? = some x := ⟨gs[i], by simp [hi']⟩
  obtain ⟨b, o, c, rfl, hb, hc, hp⟩ := hs.at_ hx
  obtain ⟨b', o', c', rfl, hb', hc', hp'⟩ := hs'.at_ hx
  have q : part c (o + i * 2) (2 + 1) = some (.agg ⟨x.enc⟩) := part_of hp rfl
  have q' : part c' (o' + i * 2) (2 + 1) = some (.agg ⟨x.enc⟩) := part_of hp' rfl
  simp only [Gd.enc,Nat.reduceAdd] at q q'
  have hw2 : w64 ((i : Int) + 1) = ((i + 1 : Nat) : Int) := by rw [w64_of (by omega)]; omega
  simp (disch:=first|(simp only [yk,seval];done)|omega|(simp only [yz]<;>omega)|fail) only [↓yp,yq0,yq1,yq2,yq3,yq4,yl,ys0,ys1,seval,fitB,newC,endD,endR,g14,g13,g12,g1,fs,A_indexSlice st_esS_23,hc,q]
  refine W_draw [] rfl (by kernel_rfl) (by kernel_rfl) (by first|omega|(simp only [yz]<;>omega)) ?_
  simp (disch:=first|(simp only [yk,seval];done)|omega|(simp only [yz]<;>omega)|fail) only [↓yp,yq0,yq1,yq2,yq3,yq4,yl,ys0,ys1,seval,fitB,newC,endD,endR,g14,g13,g12,g1,fs,A_indexSlice st_esS_23,hc,q,hc',q',neq77,hw2]
  refine ⟨gs.length - (i + 1), by omega, i + 1, rfl, by omega, ?_, ?_, ?_, ?_, ?_⟩
  ·simp (disch:=first|(simp only [yk,seval];done)|omega|(simp only [yz]<;>omega)|fail) only [yg,seval]
  ·simp (disch:=first|(simp only [yk,seval];done)|omega|(simp only [yz]<;>omega)|fail) only [yg,seval,g13]
  ·simp (disch:=first|(simp only [yk,seval];done)|omega|(simp only [yz]<;>omega)|fail) only [yg,seval,g12]
  ·simp (disch:=first|(simp only [yk,seval];done)|omega|(simp only [yz]<;>omega)|fail) only [yg,seval,g1]
  ·exact (fr.allocd _).put (by omega) _
 ·simp (disch:=first|(simp only [yk,seval];done)|omega|(simp only [yz]<;>omega)|fail) only [↓yp,yq0,yq1,yq2,yq3,yq4,yl,ys0,ys1,seval,fitB,newC,endD,endR]
theorem c22 {b b' : Option Addr} {c1 c2 : Nat} {lots : Int} (hs : Rw pkE H a ps) (hs' : Rw pkE H a' ps) (hg : Rw gdE H b gs) (hg' : Rw gdE H b' gs) (hl : ps.length ≤ 65) (hgl : gs.length ≤ 65) :
  acall tabA (aexec tabA Try.prog (N + 250)) 22 [.agg ⟨[.slice a ps.length cap, .slice b gs.length c1, .int .i64 lots]⟩, .agg ⟨[.slice a' ps.length cap', .slice b' gs.length c2, .int .i64 lots]⟩] H = some (true, .bool true, H, H.size) := by
 refine call_quiet (k := 24) (rs := [.tmp 4]) rfl fn_22 rfl rfl rfl ?_ rfl
 have fr : Fr H ((H.alloc (.rw [.slice a ps.length cap, .slice b gs.length c1, .int .i64 lots] 25 false [])).alloc (.rw [.slice a' ps.length cap', .slice b' gs.length c2, .int .i64 lots] 25 false [])) := by (repeat (first | exact Fr.refl _ | assumption | refine Fr.allocd ?_ _ | refine Fr.put ?_ (by first | omega | (simp only [yz] <;> omega)) _))
 have h72 := fun (N : Nat) => c72 (N := N) (cap := cap) (cap' := cap') (hs.fr fr) (hs'.fr fr) hl
 have h73 := fun (N : Nat) => c73 (N := N) (cap := c1) (cap' := c2) (hg.fr fr) (hg'.fr fr) hgl
 have hee : decide (lots = lots) = true := by simp
 simp (disch:=first|(simp only [yk,seval];done)|omega|(simp only [yz]<;>omega)|fail) only [↓yp,yq0,yq1,yq2,yq3,yq4,yl,ys0,ys1,seval,fitB,newC,endD,endR,h72,h73,hee]
end
end Go.Am.K
namespace Go.Am.K
open Go.Proofs
variable {T : Tab} {P : Program} {N L : Nat} {H : AHeap} {Q : Bool → Value → AHeap → Prop}
theorem c67 {n lo hi : Int} : acall tabA (aexec tabA Try.prog (N + 20)) 67 [.int .i64 n, .int .i64 lo, .int .i64 hi] H = some (true, .bool (off n lo hi), H, H.size) := by
 refine call_quiet (k := 15) (rs := [.tmp 6]) rfl fn_67 rfl rfl rfl ?_ rfl
 unfold off
 cases hA : decide (n < lo)
 ·simp (disch:=first|(simp only [yk,seval];done)|omega|(simp only [yz]<;>omega)|fail) only [↓yp,yq0,yq1,yq2,yq3,yq4,yl,ys0,ys1,seval,fitB,newC,endD,endR,hA]
 ·simp (disch:=first|(simp only [yk,seval];done)|omega|(simp only [yz]<;>omega)|fail) only [↓yp,yq0,yq1,yq2,yq3,yq4,yl,ys0,ys1,seval,fitB,newC,endD,endR,hA]
section
variable {a a' : Option Addr} {cap cap' : Nat} {ps : List Pk} {gs : List Gd} {lots n : Int}
structure StOk (ps : List Pk) (gs : List Gd) (lots : Int) : Prop where
 l1 : 1 ≤ ps.length
 l4 : ps.length ≤ 4
 g4 : gs.length ≤ 4
 pb : ps.all Pk.isB = true
 gb : gs.all Gd.isB = true
 lo : 0 ≤ lots ∧ lots ≤ 3
 od : ordB gs = true
 sp : ∀ p ∈ ps, p.f ≤ p.hi
theorem Pk.isB_ok {p : Pk} (h : p.isB = true) : p.Ok := by
 unfold Pk.isB wi at h
 simp only [Bool.and_eq_true,decide_eq_true_eq] at h
 exact ⟨h.1, h.2.1, h.2.2.1, h.2.2.2⟩
theorem chkS_ok (h : chkS ps gs lots = 0) : StOk ps gs lots := by
 unfold chkS at h
 cases h1 : chk1 ps gs
 ·cases h2 : chk2 ps gs lots
  ·cases h3 : ordB gs
   ·rw [h1, h2, h3] at h; cases h
   ·cases h4 : ps.all fun p => !decide (p.hi < p.f)
    ·rw [h1, h2, h3, h4] at h; cases h
    ·unfold chk1 wi at h1
     unfold chk2 wi at h2
     simp only [Bool.or_eq_false_iff,Bool.not_eq_false',Bool.and_eq_true,decide_eq_true_eq,decide_eq_false_iff_not] at h1 h2
     refine ⟨by omega, by omega, by omega, h2.1.1, h2.1.2, h2.2, h3, fun p hp => ?_⟩
     have := List.all_eq_true.1 h4 p hp
     simp at this
     exact this
  ·rw [h1, h2] at h; cases h
 ·rw [h1] at h; cases h
end
end Go.Am.K
namespace Go.Am.K
open Go.Proofs
variable {T : Tab} {P : Program} {N L : Nat} {H : AHeap} {Q : Bool → Value → AHeap → Prop}
section
variable {a a' : Option Addr} {cap cap' : Nat} {ps : List Pk} {gs : List Gd} {lots n y : Int}
end
end Go.Am.K
namespace Go.Am.K
open Go.Proofs
variable {T : Tab} {P : Program} {N L : Nat} {H H' H'' : AHeap} {Q : Bool → Value → AHeap → Prop}
structure Gw (H : AHeap) (tb : Nat) (S : Nat → Prop) (v : Value) (i : Nat) (cs : List Value) (el z : Nat) : Prop where
 nil : i = 0 → v = .slice none 0 0
 cons : i ≠ 0 → ∃ b al, v = .slice (some ⟨b, 0, none⟩) i (OPEN + z) ∧ S b ∧ H.get b = .rw cs el true al ∧ (∀ j ∈ al, S j)
 own : ∀ j, S j → tb < j ∧ j < H.size
section
variable {tb i el z by' b cap : Nat} {S : Nat → Prop} {v sv : Value} {cs news : List Value}
theorem Gw.same (g : Gw H tb S v i cs el z) (h : H.size ≤ H'.size) (hs : ∀ j, S j → H'.get j = H.get j) : Gw H' tb S v i cs el z :=
 ⟨g.nil, fun h0 => by
  obtain ⟨b, al, h1, h2, h3, h4⟩ := g.cons h0
  exact ⟨b, al, h1, h2, by rw [hs b h2]; exact h3, h4⟩, fun j hj => ⟨(g.own j hj).1, Nat.lt_of_lt_of_le (g.own j hj).2 h⟩⟩
theorem Gw.fr (g : Gw H tb S v i cs el z) (f : Fr H H') : Gw H' tb S v i cs el z := g.same f.size fun j hj => f.same j (g.own j hj).2
theorem Gw.frx {k : Nat} (g : Gw H tb S v i cs el z) (hk : ¬ S k) (f : FrX k H H') : Gw H' tb S v i cs el z := g.same f.size fun j hj => f.same j (g.own j hj).2 (by rintro rfl; exact hk hj)
theorem Gw.put {j : Nat} (g : Gw H tb S v i cs el z) (hj : ¬ S j) (blk : ABlk) : Gw (H.put j blk) tb S v i cs el z := g.same (by rw [size_put]; exact Nat.le_refl _) fun q hq => get_put_ne (by rintro rfl; exact hj hq)
theorem Gw.none : Gw H tb (fun _ => False) (.slice none 0 0) 0 [] el z := ⟨fun _ => rfl, fun h => absurd rfl h, fun _ h => h.elim⟩
theorem gw_append {ty : TypeId} (hs : apS tabA ty = some (el, z, by')) (g : Gw H tb S sv i cs el z) (htb : tb < H.size) (hcs : cs.length = i * z) (hx : srcCells H ⟨b, 0, none⟩ (1 * z) = some news) (hb : (i + 1) * by' ≤ 140737488355328) (hn : i + 1 ≤ 9223372036854775807)
  (h1 : oneCells news = true) (hL : L ≤ tb) (hq : ∀ a' c' H', H.size < H'.size → (∀ j, j < H.size → ¬ S j → H'.get j = H.get j) → Gw H' tb (fun j => S j ∨ j = H.size) (.slice a' (i + 1) c') (i + 1) (cs ++ news) el z → Q false (.slice a' (i + 1) c') H') : apK tabA H ty sv (.slice (some ⟨b, 0, none⟩) 1 cap) L Q := by
 by_cases hi : i = 0
 ·subst hi
  rw [g.nil rfl, apK_nil hs hx (by omega) (by omega) (by omega) h1, andK_of _ (by omega)]
  refine hq _ _ _ (by simp only [size_alloc]; omega) (fun k hk _ => get_alloc_lt (by omega)) ⟨fun h => by omega, fun _ => ⟨H.size, [], rfl, .inr rfl, ?_, by simp⟩, fun j hj => ?_⟩
  ·have : cs = [] := List.length_eq_zero_iff.1 (by omega)
   subst this
   exact get_alloc_same
  ·rcases hj with hj | rfl
   ·have := g.own j hj
    simp only [size_alloc]; omega
   ·simp only [size_alloc]; omega
 ·obtain ⟨b₀, al, rfl, k1, k3, k4⟩ := g.cons hi
  have k2 := (g.own _ k1).1
  rw [apK_more hs hx (by omega) (by exact hb) (by omega) h1 k3 hcs rfl, andK_of _ (le_minAl (by omega) (fun j hj => by have := (g.own j (k4 j hj)).1; omega))]
  refine hq _ _ _ (by simp only [size_alloc,size_put,size_kill]; omega) (fun k hk hS => ?_) ⟨fun h => by omega, fun _ => ⟨H.size, [b₀], rfl, .inr rfl, ?_, by simpa using .inl k1⟩, fun j hj => ?_⟩
  ·rw [get_alloc_lt (by simp only [size_put,size_kill]; omega), get_put_ne (by rintro rfl; exact hS k1), get_kill (fun hm => hS (k4 k hm))]
  ·exact get_alloc_eq (by simp only [size_put,size_kill])
  ·simp only [size_alloc,size_put,size_kill]
   rcases hj with hj | rfl
   ·have := g.own j hj; omega
   ·omega
end
structure Rx {α : Type} (k : Nat) (E : Enc α) (H : AHeap) (a : Option Addr) (l : List α) : Prop where
 rw : Rw E H a l
 ne : l ≠ [] → ∀ b o s, a = some ⟨b, o, s⟩ → b ≠ k
theorem Rx.frx {α : Type} {E : Enc α} {l : List α} {k : Nat} {a : Option Addr} (h : Rx k E H a l) (f : FrX k H H') : Rx k E H' a l := ⟨⟨fun hl => by
 obtain ⟨b, o, c, h1, h2, h3, h4⟩ := h.rw.get hl
 exact ⟨b, o, c, h1, Nat.lt_of_lt_of_le h2 f.size, by rw [f.same b h2 (h.ne hl _ _ _ h1)]; exact h3, h4⟩⟩, h.ne⟩
theorem Rx.fr {α : Type} {E : Enc α} {l : List α} {k : Nat} {a : Option Addr} (h : Rx k E H a l) (f : Fr H H') : Rx k E H' a l := ⟨h.rw.fr f, h.ne⟩
structure PkIn (M : Int) (p : Pk) (r : Int) : Prop where
 s : 1 ≤ p.s ∧ p.s ≤ M
 w : 0 ≤ p.w ∧ p.w ≤ p.s ∧ p.w ≤ 3
 o : 0 ≤ p.o ∧ p.o ≤ p.s
 f : 0 ≤ p.f ∧ p.f ≤ p.o
 re : p.f ≤ r ∧ r ≤ p.w
 c : p.o - p.f ≤ p.s - r
structure MP (H H' : AHeap) (k : Nat) (a : Option Addr) (bs : List Int) (cap : Nat) (M n : Int) (i : Nat) (ps : List Pk) (rs : List Int) (S1 S2 : Nat → Prop) (v1 v2 : Value) (e : VT) : Prop where
 g19 : gt 120 e 19 = .int .i64 (i : Nat)
 g18 : gt 120 e 18 = .int .i64 n
 g9 : gt 120 e 9 = v2
 g8 : gt 120 e 8 = .pointer (some ⟨H.size + 1, 0, none⟩)
 g6 : gt 120 e 6 = .pointer (some ⟨H.size, 0, none⟩)
 g2 : gt 120 e 2 = .int .i64 M
 g0 : gt 120 e 0 = .pointer (some ⟨k, 0, none⟩)
 chu : Chu H' k a bs cap
 fr : FrX k H H'
 sz : H.size + 1 < H'.size
 b8 : H'.get (H.size + 1) = .rw [v1, .slice none 0 0, .int .i64 0] 25 false []
 b6 : H'.get H.size = .rw [.slice none 0 0, .slice none 0 0, .int .i64 0] 25 false []
 r1 : Gw H' (H.size + 1) S1 v1 i (pkE.fl ps) 87 4
 r2 : Gw H' (H.size + 1) S2 v2 i (intE.fl rs) 3 1
 dj : ∀ j, S1 j → ¬ S2 j
 l1 : ps.length = i
 l2 : rs.length = i
 ok : ∀ (j : Nat) (p : Pk) (r : Int), ps[j]? = some p → rs[j]? = some r → PkIn M p r
section
variable {k cap i j : Nat} {a : Option Addr} {bs : List Int} {M n : Int} {ps : List Pk} {rs : List Int} {S1 S2 : Nat → Prop} {v1 v2 : Value} {e e' : VT}
theorem MP.next (I : MP H H' k a bs cap M n i ps rs S1 S2 v1 v2 e) (hc : Chu H'' k a bs cap) (hk : k < H.size) (hs : H'.size ≤ H''.size) (f : ∀ q, q < H'.size → q ≠ k → (q < H.size ∨ q = H.size ∨ q = H.size + 1 ∨ S1 q ∨ S2 q) → H''.get q = H'.get q) (h : Keep 120 [0, 2, 6, 8, 9, 18, 19] e e') : MP H H'' k a bs cap M n i ps rs S1 S2 v1 v2 e' where
 g19 := (h 19 (by decide)).trans I.g19
 g18 := (h 18 (by decide)).trans I.g18
 g9 := (h 9 (by decide)).trans I.g9
 g8 := (h 8 (by decide)).trans I.g8
 g6 := (h 6 (by decide)).trans I.g6
 g2 := (h 2 (by decide)).trans I.g2
 g0 := (h 0 (by decide)).trans I.g0
 chu := hc
 fr := ⟨Nat.le_trans I.fr.size hs, fun q h1 h2 => (f q (Nat.lt_of_lt_of_le h1 I.fr.size) h2 (.inl h1)).trans (I.fr.same q h1 h2)⟩
 sz := Nat.lt_of_lt_of_le I.sz hs
 b8 := (f _ I.sz (by omega) (.inr (.inr (.inl rfl)))).trans I.b8
 b6 := (f _ (by have := I.sz; omega) (by omega) (.inr (.inl rfl))).trans I.b6
 r1 := I.r1.same hs fun q hq => f q (I.r1.own q hq).2 (by have := (I.r1.own q hq).1; omega) (.inr (.inr (.inr (.inl hq))))
 r2 := I.r2.same hs fun q hq => f q (I.r2.own q hq).2 (by have := (I.r2.own q hq).1; omega) (.inr (.inr (.inr (.inr hq))))
 dj := I.dj
 l1 := I.l1
 l2 := I.l2
 ok := I.ok
theorem MP.frx (I : MP H H' k a bs cap M n i ps rs S1 S2 v1 v2 e) (hk : k < H.size) (hc : Chu H'' k a bs cap) (f : FrX k H' H'') (h : Keep 120 [0, 2, 6, 8, 9, 18, 19] e e') : MP H H'' k a bs cap M n i ps rs S1 S2 v1 v2 e' :=
 I.next hc hk f.size (fun q h1 h2 _ => f.same q h1 h2) h
theorem MP.put {c : List Value} {ty : TypeId} {al : List Nat} (I : MP H H' k a bs cap M n i ps rs S1 S2 v1 v2 e) (hk : k < H.size) (hj : H.size + 1 < j) (hb : H'.get j = .rw c ty false al) (n1 : ¬ S1 j) (n2 : ¬ S2 j) (blk : ABlk) : MP H (H'.put j blk) k a bs cap M n i ps rs S1 S2 v1 v2 e :=
 I.next (I.chu.other (by omega) (fun c' e => by rw [hb] at e; cases e)) hk (by rw [size_put]; exact Nat.le_refl _) (fun q h1 h2 h3 => get_put_ne (by
  rcases h3 with h | h | h | h | h
  ·omega
  ·omega
  ·omega
  ·exact fun e => n1 (e ▸ h)
  ·exact fun e => n2 (e ▸ h))) (Keep.refl _ _ _)
theorem MP.new (I : MP H H' k a bs cap M n i ps rs S1 S2 v1 v2 e) (hj : H'.size ≤ j) : ¬ S1 j ∧ ¬ S2 j := ⟨fun h => by have := (I.r1.own j h).2; omega, fun h => by have := (I.r2.own j h).2; omega⟩
end
end Go.Am.K
