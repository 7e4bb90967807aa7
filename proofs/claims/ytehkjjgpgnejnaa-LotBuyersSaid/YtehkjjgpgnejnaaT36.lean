import Derived.Test.YtehkjjgpgnejnaaT35
set_option linter.unusedSimpArgs false
set_option linter.unusedVariables false
namespace Go.Am.K
open Go.Proofs
variable {T : Tab} {P : Program} {N L : Nat} {H H' H'' : AHeap} {Q : Bool → Value → AHeap → Prop}
theorem Gw.sv {tb i el z n : Nat} {S : Nat → Prop} {v : Value} {cs : List Value} (g : Gw H tb S v i cs el z) : sameV (n + 1) v v = true := by
 by_cases h : i = 0
 ·rw [g.nil h]; exact sv_slice
 ·obtain ⟨b, al, rfl, -⟩ := g.cons h
  exact sv_slice
structure MB (H H' : AHeap) (ps : List Pk) (l : List Int) (a al : Option Addr) (cap cl i : Nat) (S1 S2 : Nat → Prop) (v1 v2 : Value) (e : VT) : Prop where
 g19 : gt 47 e 19 = .int .i64 (i : Nat)
 g18 : gt 47 e 18 = .int .i64 ps.length
 g17 : gt 47 e 17 = .slice a ps.length cap
 g5 : gt 47 e 5 = v2
 g4 : gt 47 e 4 = v1
 g1 : gt 47 e 1 = .slice al l.length cl
 fr : Fr H H'
 sz : H.size < H'.size
 r1 : Gw H' H.size S1 v1 i (intE.fl ((ps.take i).map Pk.hi)) 3 1
 r2 : Gw H' H.size S2 v2 i (intE.fl ((fo false ps l).take i)) 3 1
 dj : ∀ j, S1 j → ¬ S2 j
section
variable {a a' al : Option Addr} {cap cap' cl i : Nat} {ps : List Pk} {gs : List Gd} {lots : Int} {l : List Int} {S1 S2 : Nat → Prop} {v1 v2 : Value} {e e' : VT}
theorem MB.next (I : MB H H' ps l a al cap cl i S1 S2 v1 v2 e) (f : Fr H' H'') (h : Keep 47 [1, 4, 5, 17, 18, 19] e e') : MB H H'' ps l a al cap cl i S1 S2 v1 v2 e' where
 g19 := (h 19 (by decide)).trans I.g19
 g18 := (h 18 (by decide)).trans I.g18
 g17 := (h 17 (by decide)).trans I.g17
 g5 := (h 5 (by decide)).trans I.g5
 g4 := (h 4 (by decide)).trans I.g4
 g1 := (h 1 (by decide)).trans I.g1
 fr := I.fr.trans f
 sz := Nat.lt_of_lt_of_le I.sz f.size
 r1 := I.r1.fr f
 r2 := I.r2.fr f
 dj := I.dj
end
end Go.Am.K
namespace Go.Am.K
open Go.Proofs
variable {T : Tab} {P : Program} {N L : Nat} {H H' H'' : AHeap} {Q : Bool → Value → AHeap → Prop}
theorem prF38_0 {a b : Int} : pureRun Try.prog (Go.part 3 ⟨[.int .i64 a, .int .i64 b]⟩ 0) = some (.int .i64 a) := by kernel_rfl
theorem prF38_1 {a b : Int} : pureRun Try.prog (Go.part 3 ⟨[.int .i64 a, .int .i64 b]⟩ 1) = some (.int .i64 b) := by kernel_rfl
theorem prS38 : Try.prog.stoodInHeld 38 = false := by kernel_rfl
theorem prH38 : pureRun Try.prog (underlying 38) = some (.struct #[{ name := "Lo", type := 3, offset := 0, embedded := false, tag := "", pkgPath := "", byteOffset := 0 }, { name := "Hi", type := 3, offset := 1, embedded := false, tag := "", pkgPath := "", byteOffset := 8 }]) := by kernel_rfl
theorem eq38 {a b : Int} : pureRun Try.prog (Op.equal 38 (.agg ⟨[.int .i64 a, .int .i64 b]⟩) (.agg ⟨[.int .i64 a, .int .i64 b]⟩)) = some true := by
 show pureRun Try.prog (Op.equalIn (9998 + 1 + 1) 38 _ _) = _
 unfold Op.equalIn
 rw [pureRun_bind, prH38]
 simp only [Option.bind_some,pureRun_bind,prG,prS38,Bool.false_eq_true,if_false,List.forIn_toArray,List.forIn_cons,List.forIn_nil,ne_eq,prI,prF38_0,prF38_1,show ("Lo" = "_") = False by simp,show ("Hi" = "_") = False by simp,not_false_eq_true,if_true,beq_self_eq_true,Bool.not_true,prPure]
theorem eqb38 {x y : Operand} {a b : Int} : pureRun Try.prog (do eqGuard .neq 38 x y (.agg ⟨[.int .i64 a, .int .i64 b]⟩) (.agg ⟨[.int .i64 a, .int .i64 b]⟩); binOp .neq 38 (.agg ⟨[.int .i64 a, .int .i64 b]⟩) (.agg ⟨[.int .i64 a, .int .i64 b]⟩)) = some (.bool false) := by
 rw [pureRun_bind]
 rw [show pureRun Try.prog (eqGuard .neq 38 x y (.agg ⟨[.int .i64 a, .int .i64 b]⟩) (.agg ⟨[.int .i64 a, .int .i64 b]⟩)) = some () by kernel_rfl]
 rw [Option.bind_some, show binOp .neq 38 (.agg ⟨[.int .i64 a, .int .i64 b]⟩) (.agg ⟨[.int .i64 a, .int .i64 b]⟩) = (Op.equal 38 (.agg ⟨[.int .i64 a, .int .i64 b]⟩) (.agg ⟨[.int .i64 a, .int .i64 b]⟩) >>= fun b => pure (.bool !b)) by simp only [binOp], pureRun_bind, eq38]
 rfl
theorem neq38 {x y : Operand} {a b : Int} : binV tabA Try.prog .neq 38 x y (.agg ⟨[.int .i64 a, .int .i64 b]⟩) (.agg ⟨[.int .i64 a, .int .i64 b]⟩) = some (.bool false) := by
 unfold binV
 cases h : aEqV Try.prog .neq 38 (some (.agg ⟨[.int .i64 a, .int .i64 b]⟩)) (some (.agg ⟨[.int .i64 a, .int .i64 b]⟩)) with
 | none =>
  rw [show gr (.agg ⟨[.int .i64 a, .int .i64 b]⟩) = true from rfl, Bool.and_self, cond_true, eqb38]
  rfl
 | some v =>
  simp only [aEqV] at h
  cases h' : aEqD Try.prog 38 (.agg ⟨[.int .i64 a, .int .i64 b]⟩) (.agg ⟨[.int .i64 a, .int .i64 b]⟩) with
  | none => rw [h'] at h; cases h
  | some r =>
   rw [h'] at h
   cases h
   have h1 := (aEqD_run h' default).1
   have h2 := pureRun_run (eq38 (a := a) (b := b)) default
   rw [h2] at h1
   cases h1
   rfl
theorem neB {x y : Operand} {b : Bool} : binV tabA Try.prog .neq 4 x y (.bool b) (.bool b) = some (.bool false) := by cases b <;> kernel_rfl
theorem PkIn.isB {M r : Int} {p : Pk} (h : PkIn M p r) (hM : M ≤ 6) : p.isB = true := by
 have h1 := h.s
 have h2 := h.w
 have h3 := h.o
 have h4 := h.f
 unfold Pk.isB wi
 simp only [Bool.and_eq_true,decide_eq_true_eq]
 omega
theorem PkIn.sp {M r : Int} {p : Pk} (h : PkIn M p r) : p.f ≤ p.hi ∧ r ≤ p.hi := by
 have h1 := h.s
 have h2 := h.w
 have h3 := h.o
 have h4 := h.f
 have h5 := h.re
 have h6 := h.c
 unfold Pk.hi
 split <;> omega
theorem Mk.pin {k : Nat} {P M : Int} {ps : List Pk} {gs : List Gd} {rs : List Int} {lots : Int} (h : Mk k P M ps gs rs lots) {p : Pk} (hp : p ∈ ps) : ∃ r, r ∈ rs ∧ PkIn M p r := by
 obtain ⟨j, hj⟩ := List.getElem?_of_mem hp
 have hlt := (List.getElem?_eq_some_iff.1 hj).1
 have hlr : j < rs.length := by rw [h.lr]; exact hlt
 exact ⟨rs[j], List.getElem_mem hlr, h.ok j p rs[j] hj (by simp [hlr])⟩
theorem Mk.chk {k : Nat} {P M : Int} {ps : List Pk} {gs : List Gd} {rs : List Int} {lots : Int} (h : Mk k P M ps gs rs lots) (hP : P ≤ 4) (hM : M ≤ 6) : chkS ps gs lots = 0 := by
 have l1 := h.l1
 have lP := h.lP
 have g3 := h.g3
 have hl := h.lots
 have e1 : chk1 ps gs = false := by
  unfold chk1 wi
  simp only [Bool.or_eq_false_iff,Bool.not_eq_false',Bool.and_eq_true,decide_eq_true_eq,decide_eq_false_iff_not]
  omega
 have e2 : ps.all Pk.isB = true := List.all_eq_true.2 fun p hp => by
  obtain ⟨r, -, hr⟩ := h.pin hp
  exact hr.isB hM
 have e3 : gs.all Gd.isB = true := List.all_eq_true.2 fun g hg => by
  have := h.gok g hg
  unfold Gd.isB wi
  simp only [Bool.and_eq_true,decide_eq_true_eq]
  omega
 have e4 : chk2 ps gs lots = false := by
  unfold chk2 wi
  rw [e2, e3]
  simp only [Bool.not_true,Bool.or_self,Bool.false_or,Bool.not_eq_false',Bool.and_eq_true,decide_eq_true_eq]
  omega
 have e5 : (ps.all fun p => !decide (p.hi < p.f)) = true := List.all_eq_true.2 fun p hp => by
  obtain ⟨r, -, hr⟩ := h.pin hp
  have := hr.sp
  simp only [Bool.not_eq_true',decide_eq_false_iff_not]
  omega
 unfold chkS
 rw [e1, e4, h.ord, e5]; rfl
end Go.Am.K
namespace Go.Am.K
open Go.Proofs
variable {T : Tab} {P : Program} {N L : Nat} {H H' H'' : AHeap} {Q : Bool → Value → AHeap → Prop}
section
variable {a a' al : Option Addr} {cap cap' cl : Nat} {ps : List Pk} {gs : List Gd} {lots : Int} {l : List Int}
end
def orZ : Option Gd → Gd
 | some g => g
 | none => ⟨0, 0⟩
section
variable {a a' al : Option Addr} {cap cap' cl : Nat} {ps : List Pk} {gs : List Gd} {lots : Int} {l : List Int}
theorem grd_mx (h : l.length = ps.length) : grd ps gs (mx l) = orZ (gs.find? (hasG (isum l) (isum (fo false ps l)))) := by
 unfold grd
 rw [mx_sum, fo_pad h]
 unfold orZ
 rfl
theorem LtR.c92 (h : LtR H a a' al ps gs lots l) {mk : Nat} : acall tabA (aexec tabA Try.prog (N + 600)) 92 [.agg ⟨[.slice a ps.length cap, .slice a' gs.length cap', .int .i64 lots, .map (some mk)]⟩, .agg ⟨tv (mx l)⟩] H = some (true, .agg ⟨(orZ (gs.find? (hasG (isum l) (isum (Go.Am.fo false ps l))))).enc⟩, H, H.size) := by
 rw [← grd_mx h.lo.len]
 exact K.c92 (N := N) (cap := cap) (cap' := cap') (lo := .int .i64 lots) (mp := .map (some mk)) h.st.hs h.st.st.l4 h.st.pk h.st.hg h.st.st.g4 h.st.gd h.mx4 h.in_ sv_int sv_map
end
end Go.Am.K
