/- The mirrored town. -/
import Derived.Test.YtdjklljbninmgaaT21
set_option linter.unusedSimpArgs false
set_option linter.unusedVariables false
namespace Go.Am
open Go.Proofs
variable {T : Tab} {P : Program} {N L : Nat} {H : AHeap} {Q : Bool → Value → AHeap → Prop}

theorem bad2_span {s : Str} (h : bad2 s = false) : (0 ≤ s.lo ∧ s.lo ≤ 239) ∧ (0 ≤ s.hi ∧ s.hi ≤ 239) := by
  unfold bad2 at h
  simp only [Bool.or_eq_false_iff] at h
  exact ⟨off_iff.1 h.2.2.2.2.1, off_iff.1 h.2.2.2.2.2⟩
/-! ### Stores into a row of streets -/
theorem chk_ok {C : Int} {l : List Str} (h : chk C l = 0) : off C 1 8 = false ∧ l.length ≤ 16 ∧ (∀ s ∈ l, bad1 C s = false) ∧ ∀ s ∈ l, bad2 s = false := by
  unfold chk at h
  split at h
  · cases h
  · split at h
    · cases h
    · split at h
      · cases h
      · split at h
        · cases h
        · rename_i h1 h2 h3 h4
          refine ⟨by simpa using h1, by omega, ?_, ?_⟩
          · intro s hs
            cases hb : bad1 C s with
            | false => rfl
            | true => exact absurd (List.any_eq_true.2 ⟨s, hs, hb⟩) h3
          · intro s hs
            cases hb : bad2 s with
            | false => rfl
            | true => exact absurd (List.any_eq_true.2 ⟨s, hs, hb⟩) h4
end Go.Am
/- Rows of streets that are compared. -/
namespace Go.Am
open Go.Proofs
variable {T : Tab} {P : Program} {N L : Nat} {H : AHeap} {Q : Bool → Value → AHeap → Prop}

def okI (n : Int) : Prop := (Lit.int .i64 n).wf = true
structure Str.Ok (s : Str) : Prop where
  fr : okI s.fr
  to : okI s.to
  mi : okI s.mi
  up : okI s.up
  wi : okI s.wi
  be : okI s.be
  lo : okI s.lo
  hi : okI s.hi
def Str.lits (s : Str) : List Lit := [.int .i64 s.fr, .int .i64 s.to, .int .i64 s.mi, .int .i64 s.up, .int .i64 s.wi, .int .i64 s.be, .bool s.bk, .int .i64 s.lo, .int .i64 s.hi]
theorem cellsOf3 : Try.prog.cellsOf 3 = 1 := by kernel_rfl
theorem cellsOf4 : Try.prog.cellsOf 4 = 1 := by kernel_rfl
theorem cellsOf43 : Try.prog.cellsOf 43 = 2 := by kernel_rfl
theorem cellsOf45 : Try.prog.cellsOf 45 = 9 := by kernel_rfl
theorem lit_int {d : Nat} {n : Int} (h : okI n) : Try.prog.keyLits (d + 1) 3 [.int .i64 n] = some [.int .i64 n] := by
  unfold Program.keyLits
  rw [Try.underlying3]
  simp only
  rw [if_pos ⟨trivial, h⟩]
theorem lit_bool {d : Nat} {b : Bool} : Try.prog.keyLits (d + 1) 4 [.bool b] = some [.bool b] := by
  unfold Program.keyLits
  rw [Try.underlying4]
theorem lit_span {d : Nat} {a b : Int} (h : okI a) (h' : okI b) : Try.prog.keyLits (d + 2) 43 [.int .i64 a, .int .i64 b] = some [.int .i64 a, .int .i64 b] := by
  unfold Program.keyLits
  rw [Try.underlying43]
  simp only
  rw [if_pos ⟨by rw [cellsOf43]; rfl, by decide +kernel⟩]
  simp [cellsOf3, lit_int h, lit_int h']
theorem lit_str45 {s : Str} (h : s.Ok) : Try.prog.keyLits 9 45 s.enc = some s.lits := by
  unfold Program.keyLits
  rw [Try.underlying45]
  simp only
  rw [if_pos ⟨by rw [cellsOf45]; rfl, by decide +kernel⟩]
  simp [cellsOf3, cellsOf4, cellsOf43, Str.enc, lit_int h.fr, lit_int h.to, lit_int h.mi, lit_int h.up, lit_int h.wi, lit_int h.be, lit_bool, lit_span h.lo h.hi, Str.lits]
theorem eqLits_self : ∀ (l : List Lit), l.all plainLit = true → eqLits l l = some true
  | [], _ => rfl
  | a :: l, h => by
    simp only [List.all_cons,Bool.and_eq_true] at h
    simp only [eqLits,eqLits_self l h.2,(eqLit_iff h.1).2 rfl,Bool.and_self]
theorem keyT45 : (Try.prog.keyTypeAt 9 45 && !Try.prog.eqGuardType Try.prog.depth 45) = true := by kernel_rfl
theorem formed45 {s : Str} : (Value.agg ⟨s.enc⟩).formed Try.prog 45 = true := by
  simp only [Value.formed,Try.underlying45,cellsOf45]; rfl
theorem gr_enc {s : Str} : gr (.agg ⟨s.enc⟩) = true := rfl
theorem same45 {s : Str} (h : s.Ok) : aEqD Try.prog 45 (.agg ⟨s.enc⟩) (.agg ⟨s.enc⟩) = some true := by
  unfold aEqD
  simp only [keyT45,formed45,gr_enc,Bool.and_self,cond_true,lit_str45 h]
  rw [show s.lits.all plainLit = true from rfl, cond_true, eqLits_self _ rfl]
theorem binV_neq_same {ty : TypeId} {x y : Operand} {a : Value} (h : aEqD P ty a a = some true) : binV T P .neq ty x y a a = some (.bool false) := by
  have e : aEqV P .neq ty (some a) (some a) = some (.bool false) := by
    show (aEqD P ty a a).map (fun r => Value.bool !r) = _
    rw [h]; rfl
  unfold binV
  rw [e]

/-- Two rows of the same streets are alike. -/
theorem c86 {a a' : Option Addr} {cap cap' : Nat} {l : List Str} (hs : Sl H a l) (hs' : Sl H a' l) (hl : l.length ≤ 18) (hok : ∀ s ∈ l, s.Ok) : acall tabA (aexec tabA Try.prog (N + 120)) 86 [.slice a l.length cap, .slice a' l.length cap'] H = some (true, .bool true, H, H.size) := by
  refine call_quiet (k := 26) (rs := [.tmp 4]) rfl fn_86 rfl rfl rfl ?_ rfl
  have hll : decide ((l.length : Int) = (l.length : Int)) = true := by simp
  simp (disch := (first | (simp only [yk,seval]; done) | omega | (simp only [yz] <;> omega) | fail)) only [↓yp,yq0,yq1,yq2,yq3,yq4,yl,ys0,ys1,seval,zed,zee,zfr,zhw,lenV_slice zio,hll]
  refine W_while (n := 26) 70 (fun k e H' => ∃ i, k = l.length - i ∧ i ≤ l.length ∧ gt 26 e 14 = .int .i64 (i : Nat) ∧ gt 26 e 13 = .int .i64 l.length ∧ gt 26 e 12 = .slice a l.length cap ∧ gt 26 e 1 = .slice a' l.length cap' ∧ Fr H H')
    ?_ 18 l.length ⟨0, by omega, by omega, by simp (disch := (first | (simp only [yk,seval]; done) | omega | (simp only [yz] <;> omega) | fail)) only [yg,Nat.reduceAdd,Nat.reduceEqDiff,Nat.reduceLT]; rfl, by simp (disch := (first | (simp only [yk,seval]; done) | omega | (simp only [yz] <;> omega) | fail)) only [yg,Nat.reduceAdd,Nat.reduceEqDiff,Nat.reduceLT], by simp (disch := (first | (simp only [yk,seval]; done) | omega | (simp only [yz] <;> omega) | fail)) only [yg,Nat.reduceAdd,Nat.reduceEqDiff,Nat.reduceLT], by simp (disch := (first | (simp only [yk,seval]; done) | omega | (simp only [yz] <;> omega) | fail)) only [yg,Nat.reduceAdd,Nat.reduceEqDiff,Nat.reduceLT], Fr.refl _⟩ (by omega) (by omega)
  rintro M k e H' ⟨i, rfl, hi, g14, g13, g12, g1, fr⟩
  have f0 := fr.size
  have fs := fr.same
  simp (disch := (first | (simp only [yk,seval]; done) | omega | (simp only [yz] <;> omega) | fail)) only [↓yp,yq0,yq1,yq2,yq3,yq4,yl,ys0,ys1,seval,zed,zee,zfr,zhw,g14,g13,g12,g1]
  refine ⟨fun hlt => ?_, fun hlt => ?_⟩
  · have hi' : i < l.length := by simpa using hlt
    have hne : l ≠ [] := fun h => by subst h; simp at hi'
    obtain ⟨b, o, c, rfl, hb, hc, hp⟩ := hs.get hne
    obtain ⟨b', o', c', rfl, hb', hc', hp'⟩ := hs'.get hne
    obtain ⟨s, his⟩ : ∃ s, l[i]? = some s := ⟨l[i], by simp [hi']⟩
    have hpi := hp i s his
    have hpi' := hp' i s his
    have hw2 : w64 ((i : Int) + 1) = ((i + 1 : Nat) : Int) := by rw [w64_of (by omega)]; omega
    have hsm := same45 (hok s (List.mem_of_getElem? his))
    have hbv := fun (x y : Operand) => binV_neq_same (T := tabA) (x := x) (y := y) hsm
    simp only [Str.enc] at hbv
    simp (disch := (first | (simp only [yk,seval]; done) | omega | (simp only [yz] <;> omega) | fail)) only [↓yp,yq0,yq1,yq2,yq3,yq4,yl,ys0,ys1,seval,zed,zee,zfr,zhw,g14,g13,g12,g1,fs,A_indexSlice zio,hc,hpi,Str.enc]
    refine W_draw [] rfl (by kernel_rfl) (by kernel_rfl) (by (first | omega | (simp only [yz] <;> omega))) ?_
    simp (disch := (first | (simp only [yk,seval]; done) | omega | (simp only [yz] <;> omega) | fail)) only [↓yp,yq0,yq1,yq2,yq3,yq4,yl,ys0,ys1,seval,zed,zee,zfr,zhw,g14,g13,g12,g1,fs,A_indexSlice zio,hc,hpi,hc',hpi',Str.enc,hbv,hw2]
    refine ⟨l.length - (i + 1), by omega, i + 1, rfl, by omega, ?_, ?_, ?_, ?_, ?_⟩
    · simp (disch := (first | (simp only [yk,seval]; done) | omega | (simp only [yz] <;> omega) | fail)) only [yg,Nat.reduceAdd,Nat.reduceEqDiff,Nat.reduceLT]
    · simp (disch := (first | (simp only [yk,seval]; done) | omega | (simp only [yz] <;> omega) | fail)) only [yg,Nat.reduceAdd,Nat.reduceEqDiff,Nat.reduceLT,g13]
    · simp (disch := (first | (simp only [yk,seval]; done) | omega | (simp only [yz] <;> omega) | fail)) only [yg,Nat.reduceAdd,Nat.reduceEqDiff,Nat.reduceLT,g12]
    · simp (disch := (first | (simp only [yk,seval]; done) | omega | (simp only [yz] <;> omega) | fail)) only [yg,Nat.reduceAdd,Nat.reduceEqDiff,Nat.reduceLT,g1]
    · exact (fr.allocd _).put (by omega) _
  · simp (disch := (first | (simp only [yk,seval]; done) | omega | (simp only [yz] <;> omega) | fail)) only [↓yp,yq0,yq1,yq2,yq3,yq4,yl,ys0,ys1,seval,zed,zee,zfr,zhw]
theorem c30 {a a' : Option Addr} {cap cap' : Nat} {l : List Str} {C : Int} (hs : Sl H a l) (hs' : Sl H a' l) (hl : l.length ≤ 18) (hok : ∀ s ∈ l, s.Ok) :
    acall tabA (aexec tabA Try.prog (N + 160)) 30 [.agg ⟨[.int .i64 C, .slice a l.length cap]⟩, .agg ⟨[.int .i64 C, .slice a' l.length cap']⟩] H = some (true, .bool true, H, H.size) := by
  refine call_quiet (k := 17) (rs := [.tmp 4]) rfl fn_30 rfl rfl rfl ?_ rfl
  have hcc : decide (C = C) = true := by simp
  simp (disch := (first | (simp only [yk,seval]; done) | omega | (simp only [yz] <;> omega) | fail)) only [↓yp,yq0,yq1,yq2,yq3,yq4,yl,ys0,ys1,seval,zed,zee,zfr,zhw,hcc]
  rw [c86 (hs.fr (by (repeat (first | exact Fr.refl _ | assumption | refine Fr.allocd ?_ _ | refine Fr.kill ?_ (by first | assumption | omega) | refine Fr.put ?_ (by first | omega | (simp only [yz] <;> omega)) _)))) (hs'.fr (by (repeat (first | exact Fr.refl _ | assumption | refine Fr.allocd ?_ _ | refine Fr.kill ?_ (by first | assumption | omega) | refine Fr.put ?_ (by first | omega | (simp only [yz] <;> omega)) _)))) hl hok]
  simp (disch := (first | (simp only [yk,seval]; done) | omega | (simp only [yz] <;> omega) | fail)) only [↓yp,yq0,yq1,yq2,yq3,yq4,yl,ys0,ys1,seval,zed,zee,zfr,zhw]
end Go.Am
