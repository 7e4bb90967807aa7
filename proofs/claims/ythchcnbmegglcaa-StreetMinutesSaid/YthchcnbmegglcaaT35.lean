/- The reference's Latest. -/
import Derived.Test.YthchcnbmegglcaaT32
import Derived.Test.YthchcnbmegglcaaT34
set_option linter.unusedSimpArgs false
set_option linter.unusedVariables false
namespace Go.Am
open Go.Proofs
variable {T : Tab} {P : Program} {N L : Nat} {H : AHeap} {Q : Bool → Value → AHeap → Prop}

structure SL (H H' : AHeap) (a : Option Addr) (n cap : Nat) (C w ld : Int) (tb ob : Nat) (al : List Nat) (it : List Bool) (out : List Int) : Prop where
  fr : Fr H H'
  sz : tb < H'.size
  b4 : H'.get H.size = .rw [.int .i64 C, .slice a n cap] 34 false []
  b5 : H'.get (H.size + 1) = .rw [.int .i64 w, .int .i64 ld] 50 false []
  bt : H'.get tb = .rw (bv it) 4 false []
  bo : ∃ al', (∀ j ∈ al', j ∈ al) ∧ H'.get ob = .rw (tv out) 3 true al'
section
variable {H H' H'' : AHeap} {a : Option Addr} {n cap tb ob : Nat} {C w ld : Int} {al al' : List Nat} {it : List Bool} {out : List Int}
theorem SL.frd (h : SL H H' a n cap C w ld tb ob al it out) (h1 : H.size + 1 < ob) (h2 : ob < tb) (f : Fr H' H'') : SL H H'' a n cap C w ld tb ob al it out where
  fr := h.fr.trans f
  sz := Nat.lt_of_lt_of_le h.sz f.size
  b4 := by rw [f.same _ (by have := h.sz; omega)]; exact h.b4
  b5 := by rw [f.same _ (by have := h.sz; omega)]; exact h.b5
  bt := by rw [f.same _ (by have := h.sz; omega)]; exact h.bt
  bo := by rw [f.same _ (by have := h.sz; omega)]; exact h.bo
theorem SL.it' (h : SL H H' a n cap C w ld tb ob al it out) (h1 : H.size + 1 < ob) (h2 : ob < tb) (it' : List Bool) : SL H (H'.put tb (.rw (bv it') 4 false [])) a n cap C w ld tb ob al it' out where
  fr := h.fr.put (by omega) _
  sz := by rw [zdf]; exact h.sz
  b4 := by rw [zdd (by omega)]; exact h.b4
  b5 := by rw [zdd (by omega)]; exact h.b5
  bt := zdc h.sz
  bo := by rw [zdd (by omega)]; exact h.bo
theorem SL.out' (h : SL H H' a n cap C w ld tb ob al it out) (h1 : H.size + 1 < ob) (h2 : ob < tb) (hal : ∀ j ∈ al, H.size + 1 < j ∧ j < ob) (ha : ∀ j ∈ al', j ∈ al) (out' : List Int) : SL H ((H'.kill al').put ob (.rw (tv out') 3 true [])) a n cap C w ld tb ob al it out' := by
  have hk : ∀ k, (k ≤ H.size + 1 ∨ ob ≤ k) → k ∉ al' := fun k hk hm => by have := hal k (ha k hm); omega
  have sz := h.sz
  refine ⟨Fr.put (Fr.kill h.fr fun j hj => by have := hal j (ha j hj); omega) (by omega) _, by rw [zdf, zdg]; exact sz, ?_, ?_, ?_, ⟨[], by simp, zdc (by rw [zdg]; omega)⟩⟩
  · rw [zdd (by omega), get_kill (hk _ (by omega))]; exact h.b4
  · rw [zdd (by omega), get_kill (hk _ (by omega))]; exact h.b5
  · rw [zdd (by omega), get_kill (hk _ (by omega))]; exact h.bt
end
theorem binV_quo {ty : TypeId} {x y : Operand} {a : Int} : binV T P .quo ty x y (.int .i64 a) (.int .i64 2) = some (.int .i64 (w64 (a.tdiv 2))) := nr rfl
theorem binV_rem {ty : TypeId} {x y : Operand} {a : Int} : binV T P .rem ty x y (.int .i64 a) (.int .i64 2) = some (.int .i64 (a.tmod 2)) := nr rfl
theorem binV_half {ty : TypeId} {x y : Operand} {i : Nat} (h : i ≤ 100) : binV T P .quo ty x y (.int .i64 (i : Nat)) (.int .i64 2) = some (.int .i64 ((i / 2 : Nat) : Int)) := by
  have e : (i : Int).tdiv 2 = ((i / 2 : Nat) : Int) := (Int.ofNat_tdiv i 2).symm
  rw [binV_quo, e, w64_of (by omega)]
theorem binV_odd {ty : TypeId} {x y : Operand} {i : Nat} : binV T P .rem ty x y (.int .i64 (i : Nat)) (.int .i64 2) = some (.int .i64 ((i % 2 : Nat) : Int)) := by
  have e : (i : Int).tmod 2 = ((i % 2 : Nat) : Int) := (Int.ofNat_tmod i 2).symm
  rw [binV_rem, e]
section
variable {l : List Str} {C w ld to bm : Int} {a : Option Addr} {cap : Nat}
set_option maxHeartbeats 1000000 in
/-- One leg. -/
theorem c34leg {H4 : AHeap} {e4 : VT} {m x : Int} {tb ob gc i : Nat} {al : List Nat} {c : Bool} {it : List Bool} {out : List Int} (hs : Sl H a l) (hl : l.length ≤ 18) (g : Good C l ld) (hbm : 0 ≤ bm ∧ bm ≤ 240) (hm' : 0 ≤ m) (hm1 : m ≤ bm) (k1 : H.size + 1 < ob) (k2 : ob < tb) (R : LR l C w ld to bm m x it out) (hE' : i < 2 * l.length)
    (g3 : gt 141 e4 3 = .int .i64 bm) (g4 : gt 141 e4 4 = .pointer (some ⟨H.size, 0, none⟩)) (g5 : gt 141 e4 5 = .pointer (some ⟨H.size + 1, 0, none⟩)) (g15 : gt 141 e4 15 = .int .i64 (i : Nat)) (g14 : gt 141 e4 14 = .bool c) (g13 : gt 141 e4 13 = .int .i64 x) (g12 : gt 141 e4 12 = .int .i64 m) (g9 : gt 141 e4 9 = .slice (some ⟨ob, 0, none⟩) C.toNat gc) (g11 : gt 141 e4 11 = .slice (some ⟨tb, 0, none⟩) ((bm + 1) * C).toNat ((bm + 1) * C).toNat)
    (J : SL H H4 a l.length cap C w ld tb ob al it out) (S : CS l C w ld to bm m x it i c) (hLH : L ≤ H.size) :
    W tabA Try.prog (N + 400) none (sub [true, true, true, true, false, true, false, false, true, false, false, true, false, false, true, false, false, true, false, true, false, false, true] (bodyOf Try.f34)) L ⟨141, e4, H4, []⟩ (endK 141 [] fun e' H' => ∃ c', gt 141 e' 15 = .int .i64 ((i + 1 : Nat) : Int) ∧ gt 141 e' 14 = .bool c' ∧ gt 141 e' 13 = .int .i64 x ∧ gt 141 e' 12 = .int .i64 m ∧ gt 141 e' 9 = .slice (some ⟨ob, 0, none⟩) C.toNat gc ∧ gt 141 e' 11 = .slice (some ⟨tb, 0, none⟩) ((bm + 1) * C).toNat ((bm + 1) * C).toNat ∧ Keep 141 [2, 3, 4, 5] e4 e' ∧ SL H H' a l.length cap C w ld tb ob al it out ∧ CS l C w ld to bm m x it (i + 1) c') := by
  have hC := g.hC
  have sz := J.sz
  have j4 := J.b4
  have hwi : w64 ((i : Int) + 1) = ((i + 1 : Nat) : Int) := by rw [w64_of (by omega)]; omega
  have h100 : i ≤ 100 := by omega
  obtain ⟨s, his⟩ : ∃ s, l[i / 2]? = some s := ⟨l[i / 2]'(by omega), by simp [show i / 2 < l.length by omega]⟩
  have hmem := List.mem_of_getElem? his
  obtain ⟨b, hb⟩ : ∃ b : Bool, decide (((i % 2 : Nat) : Int) = 1) = b := ⟨_, rfl⟩
  have hbj : b.toNat = i % 2 := by
    rw [← hb]
    rcases (by omega : i % 2 = 0 ∨ i % 2 = 1) with h | h <;> rw [h] <;> rfl
  simp only [Try.f34,bodyOf,sub_nil,sub_seq0,sub_seq1,sub_block,sub_loop,sub_cond0,sub_cond1]
  rw [zag, zah]
  refine W_seqI (fun e' H'' => gt 141 e' 16 = .pointer (some ⟨H4.size, 0, none⟩) ∧ gt 141 e' 15 = .int .i64 (i : Nat) ∧ gt 141 e' 14 = .bool c ∧ gt 141 e' 13 = .int .i64 x ∧ gt 141 e' 12 = .int .i64 m ∧ gt 141 e' 9 = .slice (some ⟨ob, 0, none⟩) C.toNat gc ∧ gt 141 e' 11 = .slice (some ⟨tb, 0, none⟩) ((bm + 1) * C).toNat ((bm + 1) * C).toNat ∧ Keep 141 [2, 3, 4, 5] e4 e' ∧ Fr H4 H'' ∧ H''.get H4.size = .rw [.int .i64 ((i / 2 : Nat) : Int), .bool b] 54 false [] ∧ H4.size < H''.size) ?_ ?_
  · simp (disch := (first | (simp only [ne_eq,Nat.reduceEqDiff,not_false_eq_true,Nat.reduceLT]; done) | omega | (simp only [yz] <;> omega) | fail)) only [↓yp,yq0,yq1,yq2,yq3,yq4,yl,ys0,ys1,Nat.reduceAdd,Nat.reduceMul,Nat.reduceSub,Nat.reduceBEq,Nat.reduceEqDiff,Nat.reduceLT,Nat.reduceLeDiff,reduceIte,Int.reduceAdd,Int.reduceSub,Int.reduceMul,Int.reduceLT,Int.reduceLE,Int.reduceEq,Int.reduceToNat,Int.reduceNeg,zed,zee,zfr,zhw,ysu,yrg,g15,binV_half h100,binV_odd,hb,A_build st_bdS_54]
    refine ⟨?_, ?_, ?_, ?_, ?_, ?_, ?_, by (with_reducible (repeat (first | refine Keep.put ?_ (by decide) | refine Keep.none ?_ | assumption | exact Keep.refl _ _ _))), by (repeat (first | exact Fr.refl _ | assumption | refine Fr.allocd ?_ _ | refine Fr.kill ?_ (by first | assumption | omega) | refine Fr.put ?_ (by first | omega | (simp only [yz] <;> omega)) _)), ?_, by (first | omega | (simp only [yz] <;> omega))⟩
    · simp (disch := (first | (simp only [ne_eq,Nat.reduceEqDiff,not_false_eq_true,Nat.reduceLT]; done) | omega | (simp only [yz] <;> omega) | fail)) only [yg,Nat.reduceAdd,Nat.reduceEqDiff,Nat.reduceLT]
    · simp (disch := (first | (simp only [ne_eq,Nat.reduceEqDiff,not_false_eq_true,Nat.reduceLT]; done) | omega | (simp only [yz] <;> omega) | fail)) only [yg,Nat.reduceAdd,Nat.reduceEqDiff,Nat.reduceLT,g15]
    · simp (disch := (first | (simp only [ne_eq,Nat.reduceEqDiff,not_false_eq_true,Nat.reduceLT]; done) | omega | (simp only [yz] <;> omega) | fail)) only [yg,Nat.reduceAdd,Nat.reduceEqDiff,Nat.reduceLT,g14]
    · simp (disch := (first | (simp only [ne_eq,Nat.reduceEqDiff,not_false_eq_true,Nat.reduceLT]; done) | omega | (simp only [yz] <;> omega) | fail)) only [yg,Nat.reduceAdd,Nat.reduceEqDiff,Nat.reduceLT,g13]
    · simp (disch := (first | (simp only [ne_eq,Nat.reduceEqDiff,not_false_eq_true,Nat.reduceLT]; done) | omega | (simp only [yz] <;> omega) | fail)) only [yg,Nat.reduceAdd,Nat.reduceEqDiff,Nat.reduceLT,g12]
    · simp (disch := (first | (simp only [ne_eq,Nat.reduceEqDiff,not_false_eq_true,Nat.reduceLT]; done) | omega | (simp only [yz] <;> omega) | fail)) only [yg,Nat.reduceAdd,Nat.reduceEqDiff,Nat.reduceLT,g9]
    · simp (disch := (first | (simp only [ne_eq,Nat.reduceEqDiff,not_false_eq_true,Nat.reduceLT]; done) | omega | (simp only [yz] <;> omega) | fail)) only [yg,Nat.reduceAdd,Nat.reduceEqDiff,Nat.reduceLT,g11]
    · simp (disch := (first | (simp only [ne_eq,Nat.reduceEqDiff,not_false_eq_true,Nat.reduceLT]; done) | omega | (simp only [yz] <;> omega) | fail)) only [yg,Nat.reduceAdd,Nat.reduceEqDiff,Nat.reduceLT]
  rintro e5 H5 ⟨g16, g15', g14', g13', g12', g9', g11', kp5, fr5, gb, sz5⟩
  clear g15 g14 g13 g12 g9 g11
  have g15 := g15'
  have g14 := g14'
  have g13 := g13'
  have g12 := g12'
  have g9 := g9'
  have g11 := g11'
  have J5 := J.frd k1 k2 fr5
  have j4' := J5.b4
  have j5 := J5.b5
  have jt := J5.bt
  have q4 := (kp5 4 (by decide)).trans g4
  have q5 := (kp5 5 (by decide)).trans g5
  have q3 := (kp5 3 (by decide)).trans g3
  have hf := g.fit hmem
  have hsl := hs.fr J5.fr
  have h90 := fun (N : Nat) => c90 (N := N) (C := C) (cap := cap) (b := b) hsl his
  have h29 := fun (N : Nat) => c29 (N := N) (C := C) (w := w) (ld := ld) (cap := cap) (b := b) hsl his
  have h85 := fun (N : Nat) => c85 (N := N) (C := C) (w := w) (ld := ld) (cap := cap) (b := b) (m := m) hsl his hf hm' (by omega)
  simp only [legV] at h90 h29 h85
  have S' := S.step g ⟨hm', hm1⟩ hbm.2 R his (by omega : i = 2 * (i / 2) + b.toNat)
  have same : canS C w ld bm m x it s b c = c → CS l C w ld to bm m x it (i + 1) c := fun h => by rw [h] at S'; exact S'
  clear J S
  cases hN : decide (nearL s b = x)
  · simp (disch := (first | (simp only [ne_eq,Nat.reduceEqDiff,not_false_eq_true,Nat.reduceLT]; done) | omega | (simp only [yz] <;> omega) | fail)) only [↓yp,yq0,yq1,yq2,yq3,yq4,yl,ys0,ys1,Nat.reduceAdd,Nat.reduceMul,Nat.reduceSub,Nat.reduceBEq,Nat.reduceEqDiff,Nat.reduceLT,Nat.reduceLeDiff,reduceIte,Int.reduceAdd,Int.reduceSub,Int.reduceMul,Int.reduceLT,Int.reduceLE,Int.reduceEq,Int.reduceToNat,Int.reduceNeg,zed,zee,zfr,zhw,ysu,yrg,g16,g15,g13,g12,q4,q5,q3,j4',j5,gb,h90,hN,hwi]
    refine ⟨c, ?_, ?_, ?_, ?_, ?_, ?_, by (with_reducible (repeat (first | refine Keep.put ?_ (by decide) | refine Keep.none ?_ | assumption | exact Keep.refl _ _ _))), J5, same (by unfold canS; rw [hN]; rfl)⟩
    · simp (disch := (first | (simp only [ne_eq,Nat.reduceEqDiff,not_false_eq_true,Nat.reduceLT]; done) | omega | (simp only [yz] <;> omega) | fail)) only [yg,Nat.reduceAdd,Nat.reduceEqDiff,Nat.reduceLT]
    · simp (disch := (first | (simp only [ne_eq,Nat.reduceEqDiff,not_false_eq_true,Nat.reduceLT]; done) | omega | (simp only [yz] <;> omega) | fail)) only [yg,Nat.reduceAdd,Nat.reduceEqDiff,Nat.reduceLT,g14]
    · simp (disch := (first | (simp only [ne_eq,Nat.reduceEqDiff,not_false_eq_true,Nat.reduceLT]; done) | omega | (simp only [yz] <;> omega) | fail)) only [yg,Nat.reduceAdd,Nat.reduceEqDiff,Nat.reduceLT,g13]
    · simp (disch := (first | (simp only [ne_eq,Nat.reduceEqDiff,not_false_eq_true,Nat.reduceLT]; done) | omega | (simp only [yz] <;> omega) | fail)) only [yg,Nat.reduceAdd,Nat.reduceEqDiff,Nat.reduceLT,g12]
    · simp (disch := (first | (simp only [ne_eq,Nat.reduceEqDiff,not_false_eq_true,Nat.reduceLT]; done) | omega | (simp only [yz] <;> omega) | fail)) only [yg,Nat.reduceAdd,Nat.reduceEqDiff,Nat.reduceLT,g9]
    · simp (disch := (first | (simp only [ne_eq,Nat.reduceEqDiff,not_false_eq_true,Nat.reduceLT]; done) | omega | (simp only [yz] <;> omega) | fail)) only [yg,Nat.reduceAdd,Nat.reduceEqDiff,Nat.reduceLT,g11]
  cases hM : mayL s b w ld
  · simp (disch := (first | (simp only [ne_eq,Nat.reduceEqDiff,not_false_eq_true,Nat.reduceLT]; done) | omega | (simp only [yz] <;> omega) | fail)) only [↓yp,yq0,yq1,yq2,yq3,yq4,yl,ys0,ys1,Nat.reduceAdd,Nat.reduceMul,Nat.reduceSub,Nat.reduceBEq,Nat.reduceEqDiff,Nat.reduceLT,Nat.reduceLeDiff,reduceIte,Int.reduceAdd,Int.reduceSub,Int.reduceMul,Int.reduceLT,Int.reduceLE,Int.reduceEq,Int.reduceToNat,Int.reduceNeg,zed,zee,zfr,zhw,ysu,yrg,g16,g15,g13,g12,q4,q5,q3,j4',j5,gb,h90,h29,hN,hM,hwi]
    refine ⟨c, ?_, ?_, ?_, ?_, ?_, ?_, by (with_reducible (repeat (first | refine Keep.put ?_ (by decide) | refine Keep.none ?_ | assumption | exact Keep.refl _ _ _))), J5, same (by unfold canS; rw [hN, hM]; rfl)⟩
    · simp (disch := (first | (simp only [ne_eq,Nat.reduceEqDiff,not_false_eq_true,Nat.reduceLT]; done) | omega | (simp only [yz] <;> omega) | fail)) only [yg,Nat.reduceAdd,Nat.reduceEqDiff,Nat.reduceLT]
    · simp (disch := (first | (simp only [ne_eq,Nat.reduceEqDiff,not_false_eq_true,Nat.reduceLT]; done) | omega | (simp only [yz] <;> omega) | fail)) only [yg,Nat.reduceAdd,Nat.reduceEqDiff,Nat.reduceLT,g14]
    · simp (disch := (first | (simp only [ne_eq,Nat.reduceEqDiff,not_false_eq_true,Nat.reduceLT]; done) | omega | (simp only [yz] <;> omega) | fail)) only [yg,Nat.reduceAdd,Nat.reduceEqDiff,Nat.reduceLT,g13]
    · simp (disch := (first | (simp only [ne_eq,Nat.reduceEqDiff,not_false_eq_true,Nat.reduceLT]; done) | omega | (simp only [yz] <;> omega) | fail)) only [yg,Nat.reduceAdd,Nat.reduceEqDiff,Nat.reduceLT,g12]
    · simp (disch := (first | (simp only [ne_eq,Nat.reduceEqDiff,not_false_eq_true,Nat.reduceLT]; done) | omega | (simp only [yz] <;> omega) | fail)) only [yg,Nat.reduceAdd,Nat.reduceEqDiff,Nat.reduceLT,g9]
    · simp (disch := (first | (simp only [ne_eq,Nat.reduceEqDiff,not_false_eq_true,Nat.reduceLT]; done) | omega | (simp only [yz] <;> omega) | fail)) only [yg,Nat.reduceAdd,Nat.reduceEqDiff,Nat.reduceLT,g11]
  cases hS : decide (0 ≤ startsL s b ld m)
  · simp (disch := (first | (simp only [ne_eq,Nat.reduceEqDiff,not_false_eq_true,Nat.reduceLT]; done) | omega | (simp only [yz] <;> omega) | fail)) only [↓yp,yq0,yq1,yq2,yq3,yq4,yl,ys0,ys1,Nat.reduceAdd,Nat.reduceMul,Nat.reduceSub,Nat.reduceBEq,Nat.reduceEqDiff,Nat.reduceLT,Nat.reduceLeDiff,reduceIte,Int.reduceAdd,Int.reduceSub,Int.reduceMul,Int.reduceLT,Int.reduceLE,Int.reduceEq,Int.reduceToNat,Int.reduceNeg,zed,zee,zfr,zhw,ysu,yrg,g16,g15,g13,g12,q4,q5,q3,j4',j5,gb,h90,h29,h85,hN,hM,hS,hwi]
    refine ⟨c, ?_, ?_, ?_, ?_, ?_, ?_, by (with_reducible (repeat (first | refine Keep.put ?_ (by decide) | refine Keep.none ?_ | assumption | exact Keep.refl _ _ _))), J5, same (by unfold canS; rw [hN, hM, hS]; rfl)⟩
    · simp (disch := (first | (simp only [ne_eq,Nat.reduceEqDiff,not_false_eq_true,Nat.reduceLT]; done) | omega | (simp only [yz] <;> omega) | fail)) only [yg,Nat.reduceAdd,Nat.reduceEqDiff,Nat.reduceLT]
    · simp (disch := (first | (simp only [ne_eq,Nat.reduceEqDiff,not_false_eq_true,Nat.reduceLT]; done) | omega | (simp only [yz] <;> omega) | fail)) only [yg,Nat.reduceAdd,Nat.reduceEqDiff,Nat.reduceLT,g14]
    · simp (disch := (first | (simp only [ne_eq,Nat.reduceEqDiff,not_false_eq_true,Nat.reduceLT]; done) | omega | (simp only [yz] <;> omega) | fail)) only [yg,Nat.reduceAdd,Nat.reduceEqDiff,Nat.reduceLT,g13]
    · simp (disch := (first | (simp only [ne_eq,Nat.reduceEqDiff,not_false_eq_true,Nat.reduceLT]; done) | omega | (simp only [yz] <;> omega) | fail)) only [yg,Nat.reduceAdd,Nat.reduceEqDiff,Nat.reduceLT,g12]
    · simp (disch := (first | (simp only [ne_eq,Nat.reduceEqDiff,not_false_eq_true,Nat.reduceLT]; done) | omega | (simp only [yz] <;> omega) | fail)) only [yg,Nat.reduceAdd,Nat.reduceEqDiff,Nat.reduceLT,g9]
    · simp (disch := (first | (simp only [ne_eq,Nat.reduceEqDiff,not_false_eq_true,Nat.reduceLT]; done) | omega | (simp only [yz] <;> omega) | fail)) only [yg,Nat.reduceAdd,Nat.reduceEqDiff,Nat.reduceLT,g11]
  cases hT : decide (startsL s b ld m ≤ bm)
  · simp (disch := (first | (simp only [ne_eq,Nat.reduceEqDiff,not_false_eq_true,Nat.reduceLT]; done) | omega | (simp only [yz] <;> omega) | fail)) only [↓yp,yq0,yq1,yq2,yq3,yq4,yl,ys0,ys1,Nat.reduceAdd,Nat.reduceMul,Nat.reduceSub,Nat.reduceBEq,Nat.reduceEqDiff,Nat.reduceLT,Nat.reduceLeDiff,reduceIte,Int.reduceAdd,Int.reduceSub,Int.reduceMul,Int.reduceLT,Int.reduceLE,Int.reduceEq,Int.reduceToNat,Int.reduceNeg,zed,zee,zfr,zhw,ysu,yrg,g16,g15,g13,g12,q4,q5,q3,j4',j5,gb,h90,h29,h85,hN,hM,hS,hT,hwi]
    refine ⟨c, ?_, ?_, ?_, ?_, ?_, ?_, by (with_reducible (repeat (first | refine Keep.put ?_ (by decide) | refine Keep.none ?_ | assumption | exact Keep.refl _ _ _))), J5, same (by unfold canS; rw [hN, hM, hS, hT]; rfl)⟩
    · simp (disch := (first | (simp only [ne_eq,Nat.reduceEqDiff,not_false_eq_true,Nat.reduceLT]; done) | omega | (simp only [yz] <;> omega) | fail)) only [yg,Nat.reduceAdd,Nat.reduceEqDiff,Nat.reduceLT]
    · simp (disch := (first | (simp only [ne_eq,Nat.reduceEqDiff,not_false_eq_true,Nat.reduceLT]; done) | omega | (simp only [yz] <;> omega) | fail)) only [yg,Nat.reduceAdd,Nat.reduceEqDiff,Nat.reduceLT,g14]
    · simp (disch := (first | (simp only [ne_eq,Nat.reduceEqDiff,not_false_eq_true,Nat.reduceLT]; done) | omega | (simp only [yz] <;> omega) | fail)) only [yg,Nat.reduceAdd,Nat.reduceEqDiff,Nat.reduceLT,g13]
    · simp (disch := (first | (simp only [ne_eq,Nat.reduceEqDiff,not_false_eq_true,Nat.reduceLT]; done) | omega | (simp only [yz] <;> omega) | fail)) only [yg,Nat.reduceAdd,Nat.reduceEqDiff,Nat.reduceLT,g12]
    · simp (disch := (first | (simp only [ne_eq,Nat.reduceEqDiff,not_false_eq_true,Nat.reduceLT]; done) | omega | (simp only [yz] <;> omega) | fail)) only [yg,Nat.reduceAdd,Nat.reduceEqDiff,Nat.reduceLT,g9]
    · simp (disch := (first | (simp only [ne_eq,Nat.reduceEqDiff,not_false_eq_true,Nat.reduceLT]; done) | omega | (simp only [yz] <;> omega) | fail)) only [yg,Nat.reduceAdd,Nat.reduceEqDiff,Nat.reduceLT,g11]
  have hS' : 0 ≤ startsL s b ld m := of_decide_eq_true hS
  have hT' : startsL s b ld m ≤ bm := of_decide_eq_true hT
  have hfar := g.far hmem b
  have hix3 := ixM_lt hC (M := bm + 1) (k := startsL s b ld m) (y := farL s b) ⟨by omega, by omega⟩ ⟨hS', by omega⟩ hfar
  have w6 : w64 (startsL s b ld m * C) = startsL s b ld m * C := w64_of (by omega)
  have w7 : w64 (startsL s b ld m * C + farL s b) = startsL s b ld m * C + farL s b := w64_of (by omega)
  have tl := R.len
  have tget : (bv it)[(startsL s b ld m * C + farL s b).toNat]? = some (.bool (it.getD (ix C (startsL s b ld m) (farL s b)) false)) := bv_get (by omega)
  cases hU : it.getD (ix C (startsL s b ld m) (farL s b)) false
  · simp (disch := (first | (simp only [ne_eq,Nat.reduceEqDiff,not_false_eq_true,Nat.reduceLT]; done) | omega | (simp only [yz] <;> omega) | fail)) only [↓yp,yq0,yq1,yq2,yq3,yq4,yl,ys0,ys1,Nat.reduceAdd,Nat.reduceMul,Nat.reduceSub,Nat.reduceBEq,Nat.reduceEqDiff,Nat.reduceLT,Nat.reduceLeDiff,reduceIte,Int.reduceAdd,Int.reduceSub,Int.reduceMul,Int.reduceLT,Int.reduceLE,Int.reduceEq,Int.reduceToNat,Int.reduceNeg,zed,zee,zfr,zhw,ysu,yrg,g16,g15,g13,g12,q4,q5,q3,j4',j5,gb,g11,jt,h90,h29,h85,hN,hM,hS,hT,w6,w7,A_indexSlice st_esS_132,tget,hU,hwi]
    refine ⟨c, ?_, ?_, ?_, ?_, ?_, ?_, by (with_reducible (repeat (first | refine Keep.put ?_ (by decide) | refine Keep.none ?_ | assumption | exact Keep.refl _ _ _))), J5, same (by unfold canS; rw [hN, hM, hS, hT, hU]; rfl)⟩
    · simp (disch := (first | (simp only [ne_eq,Nat.reduceEqDiff,not_false_eq_true,Nat.reduceLT]; done) | omega | (simp only [yz] <;> omega) | fail)) only [yg,Nat.reduceAdd,Nat.reduceEqDiff,Nat.reduceLT]
    · simp (disch := (first | (simp only [ne_eq,Nat.reduceEqDiff,not_false_eq_true,Nat.reduceLT]; done) | omega | (simp only [yz] <;> omega) | fail)) only [yg,Nat.reduceAdd,Nat.reduceEqDiff,Nat.reduceLT,g14]
    · simp (disch := (first | (simp only [ne_eq,Nat.reduceEqDiff,not_false_eq_true,Nat.reduceLT]; done) | omega | (simp only [yz] <;> omega) | fail)) only [yg,Nat.reduceAdd,Nat.reduceEqDiff,Nat.reduceLT,g13]
    · simp (disch := (first | (simp only [ne_eq,Nat.reduceEqDiff,not_false_eq_true,Nat.reduceLT]; done) | omega | (simp only [yz] <;> omega) | fail)) only [yg,Nat.reduceAdd,Nat.reduceEqDiff,Nat.reduceLT,g12]
    · simp (disch := (first | (simp only [ne_eq,Nat.reduceEqDiff,not_false_eq_true,Nat.reduceLT]; done) | omega | (simp only [yz] <;> omega) | fail)) only [yg,Nat.reduceAdd,Nat.reduceEqDiff,Nat.reduceLT,g9]
    · simp (disch := (first | (simp only [ne_eq,Nat.reduceEqDiff,not_false_eq_true,Nat.reduceLT]; done) | omega | (simp only [yz] <;> omega) | fail)) only [yg,Nat.reduceAdd,Nat.reduceEqDiff,Nat.reduceLT,g11]
  · simp (disch := (first | (simp only [ne_eq,Nat.reduceEqDiff,not_false_eq_true,Nat.reduceLT]; done) | omega | (simp only [yz] <;> omega) | fail)) only [↓yp,yq0,yq1,yq2,yq3,yq4,yl,ys0,ys1,Nat.reduceAdd,Nat.reduceMul,Nat.reduceSub,Nat.reduceBEq,Nat.reduceEqDiff,Nat.reduceLT,Nat.reduceLeDiff,reduceIte,Int.reduceAdd,Int.reduceSub,Int.reduceMul,Int.reduceLT,Int.reduceLE,Int.reduceEq,Int.reduceToNat,Int.reduceNeg,zed,zee,zfr,zhw,ysu,yrg,g16,g15,g13,g12,q4,q5,q3,j4',j5,gb,g11,jt,h90,h29,h85,hN,hM,hS,hT,w6,w7,A_indexSlice st_esS_132,tget,hU,hwi]
    have e : canS C w ld bm m x it s b c = true := by unfold canS; rw [hN, hM, hS, hT, hU]; rfl
    rw [e] at S'
    refine ⟨true, ?_, ?_, ?_, ?_, ?_, ?_, by (with_reducible (repeat (first | refine Keep.put ?_ (by decide) | refine Keep.none ?_ | assumption | exact Keep.refl _ _ _))), J5, S'⟩
    · simp (disch := (first | (simp only [ne_eq,Nat.reduceEqDiff,not_false_eq_true,Nat.reduceLT]; done) | omega | (simp only [yz] <;> omega) | fail)) only [yg,Nat.reduceAdd,Nat.reduceEqDiff,Nat.reduceLT]
    · simp (disch := (first | (simp only [ne_eq,Nat.reduceEqDiff,not_false_eq_true,Nat.reduceLT]; done) | omega | (simp only [yz] <;> omega) | fail)) only [yg,Nat.reduceAdd,Nat.reduceEqDiff,Nat.reduceLT]
    · simp (disch := (first | (simp only [ne_eq,Nat.reduceEqDiff,not_false_eq_true,Nat.reduceLT]; done) | omega | (simp only [yz] <;> omega) | fail)) only [yg,Nat.reduceAdd,Nat.reduceEqDiff,Nat.reduceLT,g13]
    · simp (disch := (first | (simp only [ne_eq,Nat.reduceEqDiff,not_false_eq_true,Nat.reduceLT]; done) | omega | (simp only [yz] <;> omega) | fail)) only [yg,Nat.reduceAdd,Nat.reduceEqDiff,Nat.reduceLT,g12]
    · simp (disch := (first | (simp only [ne_eq,Nat.reduceEqDiff,not_false_eq_true,Nat.reduceLT]; done) | omega | (simp only [yz] <;> omega) | fail)) only [yg,Nat.reduceAdd,Nat.reduceEqDiff,Nat.reduceLT,g9]
    · simp (disch := (first | (simp only [ne_eq,Nat.reduceEqDiff,not_false_eq_true,Nat.reduceLT]; done) | omega | (simp only [yz] <;> omega) | fail)) only [yg,Nat.reduceAdd,Nat.reduceEqDiff,Nat.reduceLT,g11]
set_option maxHeartbeats 4000000 in
theorem c34 (hs : Sl H a l) (hl : l.length ≤ 18) (g : Good C l ld) (hto : 0 ≤ to ∧ to < C) (hbm : 0 ≤ bm ∧ bm ≤ 240) (hL : L ≤ H.size) {M : Nat} (hM : 4000 ≤ M)
    (hq : ∀ k cap' H', Fr H H' → H.size ≤ k → k < H'.size → (∃ al, H'.get k = .rw (tv ((latT C l w ld to bm).take C.toNat)) 3 true al) → Q false (.slice (some ⟨k, 0, none⟩) C.toNat cap') H') :
    resK (acall tabA (aexec tabA Try.prog M) 34 [.agg ⟨[.int .i64 C, .slice a l.length cap]⟩, .agg ⟨[.int .i64 w, .int .i64 ld]⟩, .int .i64 to, .int .i64 bm] H) L Q := by
  obtain ⟨N, rfl⟩ : ∃ N, M = N + 4000 := ⟨M - 4000, by omega⟩
  refine call_fls (R := fun v H' => ∃ k cap', v = .slice (some ⟨k, 0, none⟩) C.toNat cap' ∧ Fr H H' ∧ H.size ≤ k ∧ k < H'.size ∧ ∃ al, H'.get k = .rw (tv ((latT C l w ld to bm).take C.toNat)) 3 true al) (k := 141) (rs := [.tmp 8]) rfl fn_34 rfl rfl rfl hL ?_ ?_ ?_
  rotate_left
  · rintro v H' ⟨k, cap', rfl, -⟩; rfl
  · rintro v H' ⟨k, cap', rfl, h1, h2, h3, h4⟩
    exact hq _ _ _ h1 h2 h3 h4
  have hC := g.hC
  simp (disch := (first | (simp only [ne_eq,Nat.reduceEqDiff,not_false_eq_true,Nat.reduceLT]; done) | omega | (simp only [yz] <;> omega) | fail)) only [↓yp,yq0,yq1,yq2,yq3,yq4,yl,ys0,ys1,Nat.reduceAdd,Nat.reduceMul,Nat.reduceSub,Nat.reduceBEq,Nat.reduceEqDiff,Nat.reduceLT,Nat.reduceLeDiff,reduceIte,Int.reduceAdd,Int.reduceSub,Int.reduceMul,Int.reduceLT,Int.reduceLE,Int.reduceEq,Int.reduceToNat,Int.reduceNeg,zed,zee,zfr,zhw,ysu,yrg]
  refine W_while (n := 141) 2500 (fun k e H' => ∃ (i : Nat) (ga : Option Addr) (gc : Nat), k = C.toNat - i ∧ i ≤ C.toNat ∧ gt 141 e 10 = .int .i64 (i : Nat) ∧ gt 141 e 9 = .slice ga i gc ∧ gt 141 e 4 = .pointer (some ⟨H.size, 0, none⟩) ∧ gt 141 e 5 = .pointer (some ⟨H.size + 1, 0, none⟩) ∧ gt 141 e 2 = .int .i64 to ∧ gt 141 e 3 = .int .i64 bm ∧
      Fr ((H.alloc (.rw [.int .i64 C, .slice a l.length cap] 34 false [])).alloc (.rw [.int .i64 w, .int .i64 ld] 50 false [])) H' ∧ Grow H' (H.size + 1) (.slice ga i gc) i (tv (List.replicate i (-1))) 3 1)
    ?_ 8 C.toNat ⟨0, none, 0, by omega, by omega, by simp (disch := (first | (simp only [ne_eq,Nat.reduceEqDiff,not_false_eq_true,Nat.reduceLT]; done) | omega | (simp only [yz] <;> omega) | fail)) only [yg,Nat.reduceAdd,Nat.reduceEqDiff,Nat.reduceLT]; rfl, by simp (disch := (first | (simp only [ne_eq,Nat.reduceEqDiff,not_false_eq_true,Nat.reduceLT]; done) | omega | (simp only [yz] <;> omega) | fail)) only [yg,Nat.reduceAdd,Nat.reduceEqDiff,Nat.reduceLT], by simp (disch := (first | (simp only [ne_eq,Nat.reduceEqDiff,not_false_eq_true,Nat.reduceLT]; done) | omega | (simp only [yz] <;> omega) | fail)) only [yg,Nat.reduceAdd,Nat.reduceEqDiff,Nat.reduceLT], by simp (disch := (first | (simp only [ne_eq,Nat.reduceEqDiff,not_false_eq_true,Nat.reduceLT]; done) | omega | (simp only [yz] <;> omega) | fail)) only [yg,Nat.reduceAdd,Nat.reduceEqDiff,Nat.reduceLT], by simp (disch := (first | (simp only [ne_eq,Nat.reduceEqDiff,not_false_eq_true,Nat.reduceLT]; done) | omega | (simp only [yz] <;> omega) | fail)) only [yg,Nat.reduceAdd,Nat.reduceEqDiff,Nat.reduceLT], by simp (disch := (first | (simp only [ne_eq,Nat.reduceEqDiff,not_false_eq_true,Nat.reduceLT]; done) | omega | (simp only [yz] <;> omega) | fail)) only [yg,Nat.reduceAdd,Nat.reduceEqDiff,Nat.reduceLT], Fr.refl _, ⟨fun _ => rfl, fun h => absurd rfl h⟩⟩ (by omega) (by omega)
  rintro M1 k1 e H' ⟨i, ga, gc, rfl, hi, g10, g9, g4, g5, g2, g3, fr', gw⟩
  have f0 := fr'.size
  simp only [zde] at f0
  have fs := fr'.same
  simp (disch := (first | (simp only [ne_eq,Nat.reduceEqDiff,not_false_eq_true,Nat.reduceLT]; done) | omega | (simp only [yz] <;> omega) | fail)) only [↓yp,yq0,yq1,yq2,yq3,yq4,yl,ys0,ys1,Nat.reduceAdd,Nat.reduceMul,Nat.reduceSub,Nat.reduceBEq,Nat.reduceEqDiff,Nat.reduceLT,Nat.reduceLeDiff,reduceIte,Int.reduceAdd,Int.reduceSub,Int.reduceMul,Int.reduceLT,Int.reduceLE,Int.reduceEq,Int.reduceToNat,Int.reduceNeg,zed,zee,zfr,zhw,ysu,yrg,g10,g4,fs]
  refine ⟨fun hA => ?_, fun hA => ?_⟩
  · have hi' : (i : Int) < C := by simpa using hA
    have hw2 : w64 ((i : Int) + 1) = ((i + 1 : Nat) : Int) := by rw [w64_of (by omega)]; omega
    simp (disch := (first | (simp only [ne_eq,Nat.reduceEqDiff,not_false_eq_true,Nat.reduceLT]; done) | omega | (simp only [yz] <;> omega) | fail)) only [↓yp,yq0,yq1,yq2,yq3,yq4,yl,ys0,ys1,Nat.reduceAdd,Nat.reduceMul,Nat.reduceSub,Nat.reduceBEq,Nat.reduceEqDiff,Nat.reduceLT,Nat.reduceLeDiff,reduceIte,Int.reduceAdd,Int.reduceSub,Int.reduceMul,Int.reduceLT,Int.reduceLE,Int.reduceEq,Int.reduceToNat,Int.reduceNeg,zed,zee,zfr,zhw,ysu,yrg,g9,A_buildSlice st_brS_52_1]
    refine grow_append (i := i) (cs := tv (List.replicate i (-1))) (news := [.int .i64 (-1)]) st_apS_52 (gw.fr (by (repeat (first | exact Fr.refl _ | assumption | refine Fr.allocd ?_ _ | refine Fr.kill ?_ (by first | assumption | omega) | refine Fr.put ?_ (by first | omega | (simp only [yz] <;> omega)) _)))) (by (first | omega | (simp only [yz] <;> omega))) (by rw [tv_len, List.length_replicate, Nat.mul_one]) (by unfold srcCells; simp (disch := (first | (simp only [ne_eq,Nat.reduceEqDiff,not_false_eq_true,Nat.reduceLT]; done) | omega | (simp only [yz] <;> omega) | fail)) only [yg,Nat.reduceAdd,Nat.reduceEqDiff,Nat.reduceLT]; rfl) (by omega) (by omega) rfl (by omega) ?_
    intro a' c' H₂ fu gw'
    have u0 := fu.size
    have us := fu.same
    simp only [zde,zdf] at u0
    simp (disch := (first | (simp only [ne_eq,Nat.reduceEqDiff,not_false_eq_true,Nat.reduceLT]; done) | omega | (simp only [yz] <;> omega) | fail)) only [↓yp,yq0,yq1,yq2,yq3,yq4,yl,ys0,ys1,Nat.reduceAdd,Nat.reduceMul,Nat.reduceSub,Nat.reduceBEq,Nat.reduceEqDiff,Nat.reduceLT,Nat.reduceLeDiff,reduceIte,Int.reduceAdd,Int.reduceSub,Int.reduceMul,Int.reduceLT,Int.reduceLE,Int.reduceEq,Int.reduceToNat,Int.reduceNeg,zed,zee,zfr,zhw,ysu,yrg,g10,hw2]
    refine ⟨C.toNat - (i + 1), by omega, i + 1, a', c', rfl, by omega, ?_, ?_, ?_, ?_, ?_, ?_, ?_, ?_⟩
    · simp (disch := (first | (simp only [ne_eq,Nat.reduceEqDiff,not_false_eq_true,Nat.reduceLT]; done) | omega | (simp only [yz] <;> omega) | fail)) only [yg,Nat.reduceAdd,Nat.reduceEqDiff,Nat.reduceLT]
    · simp (disch := (first | (simp only [ne_eq,Nat.reduceEqDiff,not_false_eq_true,Nat.reduceLT]; done) | omega | (simp only [yz] <;> omega) | fail)) only [yg,Nat.reduceAdd,Nat.reduceEqDiff,Nat.reduceLT]
    · simp (disch := (first | (simp only [ne_eq,Nat.reduceEqDiff,not_false_eq_true,Nat.reduceLT]; done) | omega | (simp only [yz] <;> omega) | fail)) only [yg,Nat.reduceAdd,Nat.reduceEqDiff,Nat.reduceLT,g4]
    · simp (disch := (first | (simp only [ne_eq,Nat.reduceEqDiff,not_false_eq_true,Nat.reduceLT]; done) | omega | (simp only [yz] <;> omega) | fail)) only [yg,Nat.reduceAdd,Nat.reduceEqDiff,Nat.reduceLT,g5]
    · simp (disch := (first | (simp only [ne_eq,Nat.reduceEqDiff,not_false_eq_true,Nat.reduceLT]; done) | omega | (simp only [yz] <;> omega) | fail)) only [yg,Nat.reduceAdd,Nat.reduceEqDiff,Nat.reduceLT,g2]
    · simp (disch := (first | (simp only [ne_eq,Nat.reduceEqDiff,not_false_eq_true,Nat.reduceLT]; done) | omega | (simp only [yz] <;> omega) | fail)) only [yg,Nat.reduceAdd,Nat.reduceEqDiff,Nat.reduceLT,g3]
    · refine Fr.part (H₁ := _) ?_ fu (by (first | omega | (simp only [yz] <;> omega)))
      (repeat (first | exact Fr.refl _ | assumption | refine Fr.allocd ?_ _ | refine Fr.kill ?_ (by first | assumption | omega) | refine Fr.put ?_ (by first | omega | (simp only [yz] <;> omega)) _))
    · rw [← tv_more]; exact gw'
  have : i = C.toNat := by simp at hA; omega
  subst this
  obtain ⟨ob, al, hv, k1, k2, k3, k4⟩ := gw.cons (by omega)
  obtain ⟨rfl, hgc⟩ : ga = some ⟨ob, 0, none⟩ ∧ gc = OPEN + 1 := by
    cases hv; exact ⟨rfl, rfl⟩
  have frH : Fr H H' := Fr.trans (by (repeat (first | exact Fr.refl _ | assumption | refine Fr.allocd ?_ _ | refine Fr.kill ?_ (by first | assumption | omega) | refine Fr.put ?_ (by first | omega | (simp only [yz] <;> omega)) _))) fr'
  have w0 : w64 (bm + 1) = bm + 1 := w64_of (by omega)
  have hix := ixM_lt hC (M := bm + 1) (k := 0) (y := 0) ⟨by omega, by omega⟩ ⟨by omega, by omega⟩ ⟨by omega, by omega⟩
  have w1 : w64 ((bm + 1) * C) = (bm + 1) * C := w64_of (by omega)
  simp (disch := (first | (simp only [ne_eq,Nat.reduceEqDiff,not_false_eq_true,Nat.reduceLT]; done) | omega | (simp only [yz] <;> omega) | fail)) only [↓yp,yq0,yq1,yq2,yq3,yq4,yl,ys0,ys1,Nat.reduceAdd,Nat.reduceMul,Nat.reduceSub,Nat.reduceBEq,Nat.reduceEqDiff,Nat.reduceLT,Nat.reduceLeDiff,reduceIte,Int.reduceAdd,Int.reduceSub,Int.reduceMul,Int.reduceLT,Int.reduceLE,Int.reduceEq,Int.reduceToNat,Int.reduceNeg,zed,zee,zfr,zhw,ysu,yrg,g3,g4,fs,w0,w1]
  refine A_make_of (m := (bm + 1) * C) st_mkS_132 (by simp (disch := (first | (simp only [ne_eq,Nat.reduceEqDiff,not_false_eq_true,Nat.reduceLT]; done) | omega | (simp only [yz] <;> omega) | fail)) only [↓yp,yq0,yq1,yq2,yq3,yq4,yl,ys0,ys1,Nat.reduceAdd,Nat.reduceMul,Nat.reduceSub,Nat.reduceBEq,Nat.reduceEqDiff,Nat.reduceLT,Nat.reduceLeDiff,reduceIte,Int.reduceAdd,Int.reduceSub,Int.reduceMul,Int.reduceLT,Int.reduceLE,Int.reduceEq,Int.reduceToNat,Int.reduceNeg,zed,zee,zfr,zhw,ysu,yrg]) (by omega) (by omega) (by omega) (by rw [show (Value.bool false).cells = #[.bool false] from rfl, made_false]; exact grs_replicate rfl _) (by (first | omega | (simp only [yz] <;> omega))) ?_
  rw [show (madeCells (Value.bool false).cells (((bm + 1) * C).toNat * 1)).toList = bv (List.replicate ((bm + 1) * C).toNat false) by rw [show (Value.bool false).cells = #[.bool false] from rfl, made_false, Nat.mul_one, bv, List.map_replicate]]
  simp (disch := (first | (simp only [ne_eq,Nat.reduceEqDiff,not_false_eq_true,Nat.reduceLT]; done) | omega | (simp only [yz] <;> omega) | fail)) only [↓yp,yq0,yq1,yq2,yq3,yq4,yl,ys0,ys1,Nat.reduceAdd,Nat.reduceMul,Nat.reduceSub,Nat.reduceBEq,Nat.reduceEqDiff,Nat.reduceLT,Nat.reduceLeDiff,reduceIte,Int.reduceAdd,Int.reduceSub,Int.reduceMul,Int.reduceLT,Int.reduceLE,Int.reduceEq,Int.reduceToNat,Int.reduceNeg,zed,zee,zfr,zhw,ysu,yrg,g3]
  have J0 : SL H (H'.alloc (.rw (bv (List.replicate ((bm + 1) * C).toNat false)) 4 false [])) a l.length cap C w ld H'.size ob al (List.replicate ((bm + 1) * C).toNat false) (List.replicate C.toNat (-1)) := ⟨frH.allocd _, by (first | omega | (simp only [yz] <;> omega)), by simp (disch := (first | (simp only [ne_eq,Nat.reduceEqDiff,not_false_eq_true,Nat.reduceLT]; done) | omega | (simp only [yz] <;> omega) | fail)) only [yg,Nat.reduceAdd,Nat.reduceEqDiff,Nat.reduceLT,fs], by simp (disch := (first | (simp only [ne_eq,Nat.reduceEqDiff,not_false_eq_true,Nat.reduceLT]; done) | omega | (simp only [yz] <;> omega) | fail)) only [yg,Nat.reduceAdd,Nat.reduceEqDiff,Nat.reduceLT,fs], zcz, al, fun _ h => h, by rw [zdb k2]; exact k3⟩
  have hal : ∀ j ∈ al, H.size + 1 < j ∧ j < ob := k4
  refine W_while (n := 141) 2000 (fun k e' H'' => ∃ (m : Int) (it : List Bool) (out : List Int), k = (m + 1).toNat ∧ -1 ≤ m ∧ m ≤ bm ∧ gt 141 e' 12 = .int .i64 m ∧ gt 141 e' 9 = .slice (some ⟨ob, 0, none⟩) C.toNat gc ∧ gt 141 e' 11 = .slice (some ⟨H'.size, 0, none⟩) ((bm + 1) * C).toNat ((bm + 1) * C).toNat ∧ Keep 141 [2, 3, 4, 5] e e' ∧ SL H H'' a l.length cap C w ld H'.size ob al it out ∧ LR l C w ld to bm m 0 it out)
    ?_ 241 (bm + 1).toNat ⟨bm, _, _, rfl, by omega, Int.le_refl _, by simp (disch := (first | (simp only [ne_eq,Nat.reduceEqDiff,not_false_eq_true,Nat.reduceLT]; done) | omega | (simp only [yz] <;> omega) | fail)) only [yg,Nat.reduceAdd,Nat.reduceEqDiff,Nat.reduceLT], by simp (disch := (first | (simp only [ne_eq,Nat.reduceEqDiff,not_false_eq_true,Nat.reduceLT]; done) | omega | (simp only [yz] <;> omega) | fail)) only [yg,Nat.reduceAdd,Nat.reduceEqDiff,Nat.reduceLT,g9], by simp (disch := (first | (simp only [ne_eq,Nat.reduceEqDiff,not_false_eq_true,Nat.reduceLT]; done) | omega | (simp only [yz] <;> omega) | fail)) only [yg,Nat.reduceAdd,Nat.reduceEqDiff,Nat.reduceLT], by (with_reducible (repeat (first | refine Keep.put ?_ (by decide) | refine Keep.none ?_ | assumption | exact Keep.refl _ _ _))), J0, LR.init g hbm.1⟩ (by omega) (by omega)
  clear J0 fs f0 fr' gw hA hv g10
  rintro M2 k2 e1 H2 ⟨m, it, out, rfl, hm0, hm1, g12, g9, g11, kp, J, R⟩
  have sz := J.sz
  have hw3 : w64 (m - 1) = m - 1 := w64_of (by omega)
  simp (disch := (first | (simp only [ne_eq,Nat.reduceEqDiff,not_false_eq_true,Nat.reduceLT]; done) | omega | (simp only [yz] <;> omega) | fail)) only [↓yp,yq0,yq1,yq2,yq3,yq4,yl,ys0,ys1,Nat.reduceAdd,Nat.reduceMul,Nat.reduceSub,Nat.reduceBEq,Nat.reduceEqDiff,Nat.reduceLT,Nat.reduceLeDiff,reduceIte,Int.reduceAdd,Int.reduceSub,Int.reduceMul,Int.reduceLT,Int.reduceLE,Int.reduceEq,Int.reduceToNat,Int.reduceNeg,zed,zee,zfr,zhw,ysu,yrg,g12]
  refine ⟨fun hA => ?_, fun hA => ?_⟩
  rotate_left
  · have hm' : m = -1 := by simp at hA; omega
    subst hm'
    simp (disch := (first | (simp only [ne_eq,Nat.reduceEqDiff,not_false_eq_true,Nat.reduceLT]; done) | omega | (simp only [yz] <;> omega) | fail)) only [↓yp,yq0,yq1,yq2,yq3,yq4,yl,ys0,ys1,Nat.reduceAdd,Nat.reduceMul,Nat.reduceSub,Nat.reduceBEq,Nat.reduceEqDiff,Nat.reduceLT,Nat.reduceLeDiff,reduceIte,Int.reduceAdd,Int.reduceSub,Int.reduceMul,Int.reduceLT,Int.reduceLE,Int.reduceEq,Int.reduceToNat,Int.reduceNeg,zed,zee,zfr,zhw,ysu,yrg,g9]
    obtain ⟨al', -, hx⟩ := J.bo
    exact ⟨ob, gc, rfl, J.fr, by omega, by omega, al', by rw [← R.final g hto hbm]; exact hx⟩
  have hm' : 0 ≤ m := by simpa using hA
  simp (disch := (first | (simp only [ne_eq,Nat.reduceEqDiff,not_false_eq_true,Nat.reduceLT]; done) | omega | (simp only [yz] <;> omega) | fail)) only [↓yp,yq0,yq1,yq2,yq3,yq4,yl,ys0,ys1,Nat.reduceAdd,Nat.reduceMul,Nat.reduceSub,Nat.reduceBEq,Nat.reduceEqDiff,Nat.reduceLT,Nat.reduceLeDiff,reduceIte,Int.reduceAdd,Int.reduceSub,Int.reduceMul,Int.reduceLT,Int.reduceLE,Int.reduceEq,Int.reduceToNat,Int.reduceNeg,zed,zee,zfr,zhw,ysu,yrg]
  refine W_while (n := 141) 1500 (fun k e' H'' => ∃ (x : Int) (it : List Bool) (out : List Int), k = (C - x).toNat ∧ 0 ≤ x ∧ x ≤ C ∧ gt 141 e' 13 = .int .i64 x ∧ gt 141 e' 12 = .int .i64 m ∧ gt 141 e' 9 = .slice (some ⟨ob, 0, none⟩) C.toNat gc ∧ gt 141 e' 11 = .slice (some ⟨H'.size, 0, none⟩) ((bm + 1) * C).toNat ((bm + 1) * C).toNat ∧ Keep 141 [2, 3, 4, 5] e e' ∧ SL H H'' a l.length cap C w ld H'.size ob al it out ∧ LR l C w ld to bm m x it out)
    ?_ 8 C.toNat ⟨0, it, out, by omega, by omega, by omega, by simp (disch := (first | (simp only [ne_eq,Nat.reduceEqDiff,not_false_eq_true,Nat.reduceLT]; done) | omega | (simp only [yz] <;> omega) | fail)) only [yg,Nat.reduceAdd,Nat.reduceEqDiff,Nat.reduceLT], by simp (disch := (first | (simp only [ne_eq,Nat.reduceEqDiff,not_false_eq_true,Nat.reduceLT]; done) | omega | (simp only [yz] <;> omega) | fail)) only [yg,Nat.reduceAdd,Nat.reduceEqDiff,Nat.reduceLT,g12], by simp (disch := (first | (simp only [ne_eq,Nat.reduceEqDiff,not_false_eq_true,Nat.reduceLT]; done) | omega | (simp only [yz] <;> omega) | fail)) only [yg,Nat.reduceAdd,Nat.reduceEqDiff,Nat.reduceLT,g9], by simp (disch := (first | (simp only [ne_eq,Nat.reduceEqDiff,not_false_eq_true,Nat.reduceLT]; done) | omega | (simp only [yz] <;> omega) | fail)) only [yg,Nat.reduceAdd,Nat.reduceEqDiff,Nat.reduceLT,g11], by (with_reducible (repeat (first | refine Keep.put ?_ (by decide) | refine Keep.none ?_ | assumption | exact Keep.refl _ _ _))), J, R⟩ (by omega) (by omega)
  clear kp J R g12 g9 g11 sz it out
  rintro M3 k3' e2 H3 ⟨x, it, out, rfl, hx0, hx1, g13, g12, g9, g11, kp, J, R⟩
  have sz := J.sz
  have j4 := J.b4
  have k4' := (kp 4 (by decide)).trans g4
  have hw4 : w64 (x + 1) = x + 1 := w64_of (by omega)
  simp (disch := (first | (simp only [ne_eq,Nat.reduceEqDiff,not_false_eq_true,Nat.reduceLT]; done) | omega | (simp only [yz] <;> omega) | fail)) only [↓yp,yq0,yq1,yq2,yq3,yq4,yl,ys0,ys1,Nat.reduceAdd,Nat.reduceMul,Nat.reduceSub,Nat.reduceBEq,Nat.reduceEqDiff,Nat.reduceLT,Nat.reduceLeDiff,reduceIte,Int.reduceAdd,Int.reduceSub,Int.reduceMul,Int.reduceLT,Int.reduceLE,Int.reduceEq,Int.reduceToNat,Int.reduceNeg,zed,zee,zfr,zhw,ysu,yrg,g13,k4',j4]
  refine ⟨fun hB => ?_, fun hB => ?_⟩
  rotate_left
  · have hx' : x = C := by simp at hB; omega
    subst hx'
    simp (disch := (first | (simp only [ne_eq,Nat.reduceEqDiff,not_false_eq_true,Nat.reduceLT]; done) | omega | (simp only [yz] <;> omega) | fail)) only [↓yp,yq0,yq1,yq2,yq3,yq4,yl,ys0,ys1,Nat.reduceAdd,Nat.reduceMul,Nat.reduceSub,Nat.reduceBEq,Nat.reduceEqDiff,Nat.reduceLT,Nat.reduceLeDiff,reduceIte,Int.reduceAdd,Int.reduceSub,Int.reduceMul,Int.reduceLT,Int.reduceLE,Int.reduceEq,Int.reduceToNat,Int.reduceNeg,zed,zee,zfr,zhw,ysu,yrg,g12,hw3]
    refine ⟨(m - 1 + 1).toNat, by omega, m - 1, it, out, rfl, by omega, by omega, ?_, ?_, ?_, by (with_reducible (repeat (first | refine Keep.put ?_ (by decide) | refine Keep.none ?_ | assumption | exact Keep.refl _ _ _))), J, R.row⟩
    · simp (disch := (first | (simp only [ne_eq,Nat.reduceEqDiff,not_false_eq_true,Nat.reduceLT]; done) | omega | (simp only [yz] <;> omega) | fail)) only [yg,Nat.reduceAdd,Nat.reduceEqDiff,Nat.reduceLT]
    · simp (disch := (first | (simp only [ne_eq,Nat.reduceEqDiff,not_false_eq_true,Nat.reduceLT]; done) | omega | (simp only [yz] <;> omega) | fail)) only [yg,Nat.reduceAdd,Nat.reduceEqDiff,Nat.reduceLT,g9]
    · simp (disch := (first | (simp only [ne_eq,Nat.reduceEqDiff,not_false_eq_true,Nat.reduceLT]; done) | omega | (simp only [yz] <;> omega) | fail)) only [yg,Nat.reduceAdd,Nat.reduceEqDiff,Nat.reduceLT,g11]
  have hx' : x < C := by simpa using hB
  refine W_skipI (by omega) ?_
  rw [zag, zah]
  refine W_seqI (fun e' H'' => gt 141 e' 14 = .bool (canB C w ld to bm m x it) ∧ gt 141 e' 13 = .int .i64 x ∧ gt 141 e' 12 = .int .i64 m ∧ gt 141 e' 9 = .slice (some ⟨ob, 0, none⟩) C.toNat gc ∧ gt 141 e' 11 = .slice (some ⟨H'.size, 0, none⟩) ((bm + 1) * C).toNat ((bm + 1) * C).toNat ∧ Keep 141 [2, 3, 4, 5] e e' ∧ H'' = H3) ?_ ?_
  · have k2' := (kp 2 (by decide)).trans g2
    have k3'' := (kp 3 (by decide)).trans g3
    have jt := J.bt
    have tl := R.len
    cases hX : decide (x = to)
    · cases hY : decide (m < bm)
      · simp (disch := (first | (simp only [ne_eq,Nat.reduceEqDiff,not_false_eq_true,Nat.reduceLT]; done) | omega | (simp only [yz] <;> omega) | fail)) only [↓yp,yq0,yq1,yq2,yq3,yq4,yl,ys0,ys1,Nat.reduceAdd,Nat.reduceMul,Nat.reduceSub,Nat.reduceBEq,Nat.reduceEqDiff,Nat.reduceLT,Nat.reduceLeDiff,reduceIte,Int.reduceAdd,Int.reduceSub,Int.reduceMul,Int.reduceLT,Int.reduceLE,Int.reduceEq,Int.reduceToNat,Int.reduceNeg,zed,zee,zfr,zhw,ysu,yrg,g13,g12,k2',k3'',hX,hY]
        refine ⟨?_, ?_, ?_, ?_, ?_, by (with_reducible (repeat (first | refine Keep.put ?_ (by decide) | refine Keep.none ?_ | assumption | exact Keep.refl _ _ _))), rfl⟩
        · simp (disch := (first | (simp only [ne_eq,Nat.reduceEqDiff,not_false_eq_true,Nat.reduceLT]; done) | omega | (simp only [yz] <;> omega) | fail)) only [yg,Nat.reduceAdd,Nat.reduceEqDiff,Nat.reduceLT,canB,hX,hY,Bool.false_and,Bool.or_self]
        · simp (disch := (first | (simp only [ne_eq,Nat.reduceEqDiff,not_false_eq_true,Nat.reduceLT]; done) | omega | (simp only [yz] <;> omega) | fail)) only [yg,Nat.reduceAdd,Nat.reduceEqDiff,Nat.reduceLT,g13]
        · simp (disch := (first | (simp only [ne_eq,Nat.reduceEqDiff,not_false_eq_true,Nat.reduceLT]; done) | omega | (simp only [yz] <;> omega) | fail)) only [yg,Nat.reduceAdd,Nat.reduceEqDiff,Nat.reduceLT,g12]
        · simp (disch := (first | (simp only [ne_eq,Nat.reduceEqDiff,not_false_eq_true,Nat.reduceLT]; done) | omega | (simp only [yz] <;> omega) | fail)) only [yg,Nat.reduceAdd,Nat.reduceEqDiff,Nat.reduceLT,g9]
        · simp (disch := (first | (simp only [ne_eq,Nat.reduceEqDiff,not_false_eq_true,Nat.reduceLT]; done) | omega | (simp only [yz] <;> omega) | fail)) only [yg,Nat.reduceAdd,Nat.reduceEqDiff,Nat.reduceLT,g11]
      · have hm2 : m < bm := of_decide_eq_true hY
        have hix3 := ixM_lt hC (M := bm + 1) (k := m + 1) (y := x) ⟨by omega, by omega⟩ ⟨by omega, by omega⟩ ⟨by omega, by omega⟩
        have w5 : w64 (m + 1) = m + 1 := w64_of (by omega)
        have w6 : w64 ((m + 1) * C) = (m + 1) * C := w64_of (by omega)
        have w7 : w64 ((m + 1) * C + x) = (m + 1) * C + x := w64_of (by omega)
        have tget : (bv it)[((m + 1) * C + x).toNat]? = some (.bool (it.getD (ix C (m + 1) x) false)) := bv_get (by omega)
        simp (disch := (first | (simp only [ne_eq,Nat.reduceEqDiff,not_false_eq_true,Nat.reduceLT]; done) | omega | (simp only [yz] <;> omega) | fail)) only [↓yp,yq0,yq1,yq2,yq3,yq4,yl,ys0,ys1,Nat.reduceAdd,Nat.reduceMul,Nat.reduceSub,Nat.reduceBEq,Nat.reduceEqDiff,Nat.reduceLT,Nat.reduceLeDiff,reduceIte,Int.reduceAdd,Int.reduceSub,Int.reduceMul,Int.reduceLT,Int.reduceLE,Int.reduceEq,Int.reduceToNat,Int.reduceNeg,zed,zee,zfr,zhw,ysu,yrg,g13,g12,g11,k2',k3'',k4',j4,jt,hX,hY,w5,w6,w7,A_indexSlice st_esS_132,tget]
        refine ⟨?_, ?_, ?_, ?_, ?_, by (with_reducible (repeat (first | refine Keep.put ?_ (by decide) | refine Keep.none ?_ | assumption | exact Keep.refl _ _ _))), rfl⟩
        · simp (disch := (first | (simp only [ne_eq,Nat.reduceEqDiff,not_false_eq_true,Nat.reduceLT]; done) | omega | (simp only [yz] <;> omega) | fail)) only [yg,Nat.reduceAdd,Nat.reduceEqDiff,Nat.reduceLT,canB,hX,hY,Bool.true_and,Bool.false_or]
        · simp (disch := (first | (simp only [ne_eq,Nat.reduceEqDiff,not_false_eq_true,Nat.reduceLT]; done) | omega | (simp only [yz] <;> omega) | fail)) only [yg,Nat.reduceAdd,Nat.reduceEqDiff,Nat.reduceLT,g13]
        · simp (disch := (first | (simp only [ne_eq,Nat.reduceEqDiff,not_false_eq_true,Nat.reduceLT]; done) | omega | (simp only [yz] <;> omega) | fail)) only [yg,Nat.reduceAdd,Nat.reduceEqDiff,Nat.reduceLT,g12]
        · simp (disch := (first | (simp only [ne_eq,Nat.reduceEqDiff,not_false_eq_true,Nat.reduceLT]; done) | omega | (simp only [yz] <;> omega) | fail)) only [yg,Nat.reduceAdd,Nat.reduceEqDiff,Nat.reduceLT,g9]
        · simp (disch := (first | (simp only [ne_eq,Nat.reduceEqDiff,not_false_eq_true,Nat.reduceLT]; done) | omega | (simp only [yz] <;> omega) | fail)) only [yg,Nat.reduceAdd,Nat.reduceEqDiff,Nat.reduceLT,g11]
    · simp (disch := (first | (simp only [ne_eq,Nat.reduceEqDiff,not_false_eq_true,Nat.reduceLT]; done) | omega | (simp only [yz] <;> omega) | fail)) only [↓yp,yq0,yq1,yq2,yq3,yq4,yl,ys0,ys1,Nat.reduceAdd,Nat.reduceMul,Nat.reduceSub,Nat.reduceBEq,Nat.reduceEqDiff,Nat.reduceLT,Nat.reduceLeDiff,reduceIte,Int.reduceAdd,Int.reduceSub,Int.reduceMul,Int.reduceLT,Int.reduceLE,Int.reduceEq,Int.reduceToNat,Int.reduceNeg,zed,zee,zfr,zhw,ysu,yrg,g13,g12,k2',k3'',hX]
      refine ⟨?_, ?_, ?_, ?_, ?_, by (with_reducible (repeat (first | refine Keep.put ?_ (by decide) | refine Keep.none ?_ | assumption | exact Keep.refl _ _ _))), rfl⟩
      · simp (disch := (first | (simp only [ne_eq,Nat.reduceEqDiff,not_false_eq_true,Nat.reduceLT]; done) | omega | (simp only [yz] <;> omega) | fail)) only [yg,Nat.reduceAdd,Nat.reduceEqDiff,Nat.reduceLT,canB,hX,Bool.true_or]
      · simp (disch := (first | (simp only [ne_eq,Nat.reduceEqDiff,not_false_eq_true,Nat.reduceLT]; done) | omega | (simp only [yz] <;> omega) | fail)) only [yg,Nat.reduceAdd,Nat.reduceEqDiff,Nat.reduceLT,g13]
      · simp (disch := (first | (simp only [ne_eq,Nat.reduceEqDiff,not_false_eq_true,Nat.reduceLT]; done) | omega | (simp only [yz] <;> omega) | fail)) only [yg,Nat.reduceAdd,Nat.reduceEqDiff,Nat.reduceLT,g12]
      · simp (disch := (first | (simp only [ne_eq,Nat.reduceEqDiff,not_false_eq_true,Nat.reduceLT]; done) | omega | (simp only [yz] <;> omega) | fail)) only [yg,Nat.reduceAdd,Nat.reduceEqDiff,Nat.reduceLT,g9]
      · simp (disch := (first | (simp only [ne_eq,Nat.reduceEqDiff,not_false_eq_true,Nat.reduceLT]; done) | omega | (simp only [yz] <;> omega) | fail)) only [yg,Nat.reduceAdd,Nat.reduceEqDiff,Nat.reduceLT,g11]
  clear g13 g12 g9 g11 k4'
  rintro e3 H3' ⟨g14, g13, g12, g9, g11, kp3, rfl⟩
  clear kp
  have S := CS.init g ⟨hm', hm1⟩ hbm.2 ⟨hx0, hx'⟩ R
  refine W_seqI (fun e' H'' => ∃ c, gt 141 e' 14 = .bool c ∧ gt 141 e' 13 = .int .i64 x ∧ gt 141 e' 12 = .int .i64 m ∧ gt 141 e' 9 = .slice (some ⟨ob, 0, none⟩) C.toNat gc ∧ gt 141 e' 11 = .slice (some ⟨H'.size, 0, none⟩) ((bm + 1) * C).toNat ((bm + 1) * C).toNat ∧ Keep 141 [2, 3, 4, 5] e e' ∧ SL H H'' a l.length cap C w ld H'.size ob al it out ∧ CS l C w ld to bm m x it (2 * l.length) c) ?_ ?_
  · simp (disch := (first | (simp only [ne_eq,Nat.reduceEqDiff,not_false_eq_true,Nat.reduceLT]; done) | omega | (simp only [yz] <;> omega) | fail)) only [↓yp,yq0,yq1,yq2,yq3,yq4,yl,ys0,ys1,Nat.reduceAdd,Nat.reduceMul,Nat.reduceSub,Nat.reduceBEq,Nat.reduceEqDiff,Nat.reduceLT,Nat.reduceLeDiff,reduceIte,Int.reduceAdd,Int.reduceSub,Int.reduceMul,Int.reduceLT,Int.reduceLE,Int.reduceEq,Int.reduceToNat,Int.reduceNeg,zed,zee,zfr,zhw,ysu,yrg]
    refine W_while (n := 141) 900 (fun k e' H'' => ∃ (i : Nat) (c : Bool), k = 2 * l.length - i ∧ i ≤ 2 * l.length ∧ gt 141 e' 15 = .int .i64 (i : Nat) ∧ gt 141 e' 14 = .bool c ∧ gt 141 e' 13 = .int .i64 x ∧ gt 141 e' 12 = .int .i64 m ∧ gt 141 e' 9 = .slice (some ⟨ob, 0, none⟩) C.toNat gc ∧ gt 141 e' 11 = .slice (some ⟨H'.size, 0, none⟩) ((bm + 1) * C).toNat ((bm + 1) * C).toNat ∧ Keep 141 [2, 3, 4, 5] e e' ∧ SL H H'' a l.length cap C w ld H'.size ob al it out ∧ CS l C w ld to bm m x it i c)
      ?_ 36 (2 * l.length) ⟨0, _, by omega, by omega, by simp (disch := (first | (simp only [ne_eq,Nat.reduceEqDiff,not_false_eq_true,Nat.reduceLT]; done) | omega | (simp only [yz] <;> omega) | fail)) only [yg,Nat.reduceAdd,Nat.reduceEqDiff,Nat.reduceLT]; rfl, by simp (disch := (first | (simp only [ne_eq,Nat.reduceEqDiff,not_false_eq_true,Nat.reduceLT]; done) | omega | (simp only [yz] <;> omega) | fail)) only [yg,Nat.reduceAdd,Nat.reduceEqDiff,Nat.reduceLT,g14], by simp (disch := (first | (simp only [ne_eq,Nat.reduceEqDiff,not_false_eq_true,Nat.reduceLT]; done) | omega | (simp only [yz] <;> omega) | fail)) only [yg,Nat.reduceAdd,Nat.reduceEqDiff,Nat.reduceLT,g13], by simp (disch := (first | (simp only [ne_eq,Nat.reduceEqDiff,not_false_eq_true,Nat.reduceLT]; done) | omega | (simp only [yz] <;> omega) | fail)) only [yg,Nat.reduceAdd,Nat.reduceEqDiff,Nat.reduceLT,g12], by simp (disch := (first | (simp only [ne_eq,Nat.reduceEqDiff,not_false_eq_true,Nat.reduceLT]; done) | omega | (simp only [yz] <;> omega) | fail)) only [yg,Nat.reduceAdd,Nat.reduceEqDiff,Nat.reduceLT,g9], by simp (disch := (first | (simp only [ne_eq,Nat.reduceEqDiff,not_false_eq_true,Nat.reduceLT]; done) | omega | (simp only [yz] <;> omega) | fail)) only [yg,Nat.reduceAdd,Nat.reduceEqDiff,Nat.reduceLT,g11], by (with_reducible (repeat (first | refine Keep.put ?_ (by decide) | refine Keep.none ?_ | assumption | exact Keep.refl _ _ _))), J, S⟩ (by omega) (by omega)
    clear g14 g13 g12 g9 g11 kp3 J S sz j4
    rintro M4 k4' e4 H4 ⟨i, c, rfl, hi, g15, g14, g13, g12, g9, g11, kp, J, S⟩
    have sz := J.sz
    have j4 := J.b4
    have k4' := (kp 4 (by decide)).trans g4
    have hwl : w64 (2 * (l.length : Int)) = 2 * (l.length : Int) := w64_of (by omega)
    have hwi : w64 ((i : Int) + 1) = ((i + 1 : Nat) : Int) := by rw [w64_of (by omega)]; omega
    simp (disch := (first | (simp only [ne_eq,Nat.reduceEqDiff,not_false_eq_true,Nat.reduceLT]; done) | omega | (simp only [yz] <;> omega) | fail)) only [↓yp,yq0,yq1,yq2,yq3,yq4,yl,ys0,ys1,Nat.reduceAdd,Nat.reduceMul,Nat.reduceSub,Nat.reduceBEq,Nat.reduceEqDiff,Nat.reduceLT,Nat.reduceLeDiff,reduceIte,Int.reduceAdd,Int.reduceSub,Int.reduceMul,Int.reduceLT,Int.reduceLE,Int.reduceEq,Int.reduceToNat,Int.reduceNeg,zed,zee,zfr,zhw,ysu,yrg,g15,k4',j4,lenV_slice ziq,hwl]
    refine ⟨fun hE => ?_, fun hE => ?_⟩
    rotate_left
    · have : i = 2 * l.length := by simp at hE; omega
      subst this
      simp (disch := (first | (simp only [ne_eq,Nat.reduceEqDiff,not_false_eq_true,Nat.reduceLT]; done) | omega | (simp only [yz] <;> omega) | fail)) only [↓yp,yq0,yq1,yq2,yq3,yq4,yl,ys0,ys1,Nat.reduceAdd,Nat.reduceMul,Nat.reduceSub,Nat.reduceBEq,Nat.reduceEqDiff,Nat.reduceLT,Nat.reduceLeDiff,reduceIte,Int.reduceAdd,Int.reduceSub,Int.reduceMul,Int.reduceLT,Int.reduceLE,Int.reduceEq,Int.reduceToNat,Int.reduceNeg,zed,zee,zfr,zhw,ysu,yrg]
      refine ⟨c, ?_, ?_, ?_, ?_, ?_, by (with_reducible (repeat (first | refine Keep.put ?_ (by decide) | refine Keep.none ?_ | assumption | exact Keep.refl _ _ _))), J, S⟩
      · simp (disch := (first | (simp only [ne_eq,Nat.reduceEqDiff,not_false_eq_true,Nat.reduceLT]; done) | omega | (simp only [yz] <;> omega) | fail)) only [yg,Nat.reduceAdd,Nat.reduceEqDiff,Nat.reduceLT,g14]
      · simp (disch := (first | (simp only [ne_eq,Nat.reduceEqDiff,not_false_eq_true,Nat.reduceLT]; done) | omega | (simp only [yz] <;> omega) | fail)) only [yg,Nat.reduceAdd,Nat.reduceEqDiff,Nat.reduceLT,g13]
      · simp (disch := (first | (simp only [ne_eq,Nat.reduceEqDiff,not_false_eq_true,Nat.reduceLT]; done) | omega | (simp only [yz] <;> omega) | fail)) only [yg,Nat.reduceAdd,Nat.reduceEqDiff,Nat.reduceLT,g12]
      · simp (disch := (first | (simp only [ne_eq,Nat.reduceEqDiff,not_false_eq_true,Nat.reduceLT]; done) | omega | (simp only [yz] <;> omega) | fail)) only [yg,Nat.reduceAdd,Nat.reduceEqDiff,Nat.reduceLT,g9]
      · simp (disch := (first | (simp only [ne_eq,Nat.reduceEqDiff,not_false_eq_true,Nat.reduceLT]; done) | omega | (simp only [yz] <;> omega) | fail)) only [yg,Nat.reduceAdd,Nat.reduceEqDiff,Nat.reduceLT,g11]
    have hE' : i < 2 * l.length := by simp at hE; omega
    refine W_skipI (by omega) ?_
    refine W_gen (fun e' H'' => gt 141 e' 15 = .int .i64 (i : Nat) ∧ gt 141 e' 14 = .bool c ∧ gt 141 e' 13 = .int .i64 x ∧ gt 141 e' 12 = .int .i64 m ∧ gt 141 e' 9 = .slice (some ⟨ob, 0, none⟩) C.toNat gc ∧ gt 141 e' 11 = .slice (some ⟨H'.size, 0, none⟩) ((bm + 1) * C).toNat ((bm + 1) * C).toNat ∧ Keep 141 [2, 3, 4, 5] e e' ∧ H'' = H4) ⟨?_, ?_, ?_, ?_, ?_, ?_, by (with_reducible (repeat (first | refine Keep.put ?_ (by decide) | refine Keep.none ?_ | assumption | exact Keep.refl _ _ _))), rfl⟩ ?_
    · simp (disch := (first | (simp only [ne_eq,Nat.reduceEqDiff,not_false_eq_true,Nat.reduceLT]; done) | omega | (simp only [yz] <;> omega) | fail)) only [yg,Nat.reduceAdd,Nat.reduceEqDiff,Nat.reduceLT,g15]
    · simp (disch := (first | (simp only [ne_eq,Nat.reduceEqDiff,not_false_eq_true,Nat.reduceLT]; done) | omega | (simp only [yz] <;> omega) | fail)) only [yg,Nat.reduceAdd,Nat.reduceEqDiff,Nat.reduceLT,g14]
    · simp (disch := (first | (simp only [ne_eq,Nat.reduceEqDiff,not_false_eq_true,Nat.reduceLT]; done) | omega | (simp only [yz] <;> omega) | fail)) only [yg,Nat.reduceAdd,Nat.reduceEqDiff,Nat.reduceLT,g13]
    · simp (disch := (first | (simp only [ne_eq,Nat.reduceEqDiff,not_false_eq_true,Nat.reduceLT]; done) | omega | (simp only [yz] <;> omega) | fail)) only [yg,Nat.reduceAdd,Nat.reduceEqDiff,Nat.reduceLT,g12]
    · simp (disch := (first | (simp only [ne_eq,Nat.reduceEqDiff,not_false_eq_true,Nat.reduceLT]; done) | omega | (simp only [yz] <;> omega) | fail)) only [yg,Nat.reduceAdd,Nat.reduceEqDiff,Nat.reduceLT,g9]
    · simp (disch := (first | (simp only [ne_eq,Nat.reduceEqDiff,not_false_eq_true,Nat.reduceLT]; done) | omega | (simp only [yz] <;> omega) | fail)) only [yg,Nat.reduceAdd,Nat.reduceEqDiff,Nat.reduceLT,g11]
    clear g15 g14 g13 g12 g9 g11 kp k4'
    rintro e4 H4 ⟨g15, g14, g13, g12, g9, g11, kp, rfl⟩
    refine W_end (c34leg hs hl g hbm hm' hm1 k1 k2 R hE' ((kp 3 (by decide)).trans g3) ((kp 4 (by decide)).trans g4) ((kp 5 (by decide)).trans g5) g15 g14 g13 g12 g9 g11 J S (Nat.le_refl _)) ?_
    rintro e' H' ⟨c', h1, h2, h3, h4, h5, h6, h7, h8, h9⟩
    exact ⟨rfl, rfl, 2 * l.length - (i + 1), by omega, i + 1, c', rfl, by omega, h1, h2, h3, h4, h5, h6, kp.trans h7, h8, h9⟩
  rintro e4 H4 ⟨c, g14, g13, g12, g9, g11, kp, J4, S4⟩
  have hc := S4.final g ⟨hm', hm1⟩ hbm.2 ⟨hx0, hx'⟩ R
  clear kp3 J S j4 sz S4
  have sz := J4.sz
  have j4 := J4.b4
  have jt := J4.bt
  have q4 := (kp 4 (by decide)).trans g4
  have hix3 := ixM_lt hC (M := bm + 1) (k := m) (y := x) ⟨by omega, by omega⟩ ⟨hm', by omega⟩ ⟨hx0, hx'⟩
  have w6 : w64 (m * C) = m * C := w64_of (by omega)
  have w7 : w64 (m * C + x) = m * C + x := w64_of (by omega)
  have tl := R.len
  have hfit3 : decide ((m * C + x).toNat + 1 ≤ ((bm + 1) * C).toNat) = true := by simp; omega
  have nb3 : List.take (m * C + x).toNat (bv it) ++ [.bool c] ++ List.drop ((m * C + x).toNat + 1) (bv it) = bv (it.set (ix C m x) c) := newC_bv (by omega)
  refine W_seqI (fun e' H'' => gt 141 e' 14 = .bool c ∧ gt 141 e' 13 = .int .i64 x ∧ gt 141 e' 12 = .int .i64 m ∧ gt 141 e' 9 = .slice (some ⟨ob, 0, none⟩) C.toNat gc ∧ gt 141 e' 11 = .slice (some ⟨H'.size, 0, none⟩) ((bm + 1) * C).toNat ((bm + 1) * C).toNat ∧ Keep 141 [2, 3, 4, 5] e e' ∧ SL H H'' a l.length cap C w ld H'.size ob al (it.set (ix C m x) c) out) ?_ ?_
  · simp (disch := (first | (simp only [ne_eq,Nat.reduceEqDiff,not_false_eq_true,Nat.reduceLT]; done) | omega | (simp only [yz] <;> omega) | fail)) only [↓yp,yq0,yq1,yq2,yq3,yq4,yl,ys0,ys1,Nat.reduceAdd,Nat.reduceMul,Nat.reduceSub,Nat.reduceBEq,Nat.reduceEqDiff,Nat.reduceLT,Nat.reduceLeDiff,reduceIte,Int.reduceAdd,Int.reduceSub,Int.reduceMul,Int.reduceLT,Int.reduceLE,Int.reduceEq,Int.reduceToNat,Int.reduceNeg,zed,zee,zfr,zhw,ysu,yrg,g14,g13,g12,g11,q4,j4,jt,w6,w7,A_indexSlice st_esS_132,bv_len,tl,one_bv,hfit3,nb3]
    refine ⟨?_, ?_, ?_, ?_, ?_, by (with_reducible (repeat (first | refine Keep.put ?_ (by decide) | refine Keep.none ?_ | assumption | exact Keep.refl _ _ _))), J4.it' k1 k2 _⟩
    · simp (disch := (first | (simp only [ne_eq,Nat.reduceEqDiff,not_false_eq_true,Nat.reduceLT]; done) | omega | (simp only [yz] <;> omega) | fail)) only [yg,Nat.reduceAdd,Nat.reduceEqDiff,Nat.reduceLT,g14]
    · simp (disch := (first | (simp only [ne_eq,Nat.reduceEqDiff,not_false_eq_true,Nat.reduceLT]; done) | omega | (simp only [yz] <;> omega) | fail)) only [yg,Nat.reduceAdd,Nat.reduceEqDiff,Nat.reduceLT,g13]
    · simp (disch := (first | (simp only [ne_eq,Nat.reduceEqDiff,not_false_eq_true,Nat.reduceLT]; done) | omega | (simp only [yz] <;> omega) | fail)) only [yg,Nat.reduceAdd,Nat.reduceEqDiff,Nat.reduceLT,g12]
    · simp (disch := (first | (simp only [ne_eq,Nat.reduceEqDiff,not_false_eq_true,Nat.reduceLT]; done) | omega | (simp only [yz] <;> omega) | fail)) only [yg,Nat.reduceAdd,Nat.reduceEqDiff,Nat.reduceLT,g9]
    · simp (disch := (first | (simp only [ne_eq,Nat.reduceEqDiff,not_false_eq_true,Nat.reduceLT]; done) | omega | (simp only [yz] <;> omega) | fail)) only [yg,Nat.reduceAdd,Nat.reduceEqDiff,Nat.reduceLT,g11]
  clear g14 g13 g12 g9 g11 sz j4 jt q4
  rintro e5 H5 ⟨g14, g13, g12, g9, g11, kp5, J⟩
  have R' := R.next g ⟨hm', hm1⟩ hbm.2 ⟨hx0, hx'⟩ hc
  have sz := J.sz
  obtain ⟨al', hal', jo⟩ := J.bo
  have ol := R.olen
  have xo : (tv out)[x.toNat]? = some (.int .i64 (tg out x)) := tv_atN ol (by omega)
  have hmin : L ≤ minAl ob al' := le_minAl (by omega) fun j hj => by have := hal j (hal' j hj); omega
  have hmin' : H.size ≤ minAl ob al' := le_minAl (by omega) fun j hj => by have := hal j (hal' j hj); omega
  have nt : List.take x.toNat (tv out) ++ [.int .i64 m] ++ List.drop (x.toNat + 1) (tv out) = tv (out.set x.toNat m) := newC_tv (by omega)
  have hfit2 : decide (x.toNat + 1 ≤ C.toNat) = true := by simp; omega
  cases hcc : c
  · rw [hcc] at g14 R'
    simp (disch := (first | (simp only [ne_eq,Nat.reduceEqDiff,not_false_eq_true,Nat.reduceLT]; done) | omega | (simp only [yz] <;> omega) | fail)) only [↓yp,yq0,yq1,yq2,yq3,yq4,yl,ys0,ys1,Nat.reduceAdd,Nat.reduceMul,Nat.reduceSub,Nat.reduceBEq,Nat.reduceEqDiff,Nat.reduceLT,Nat.reduceLeDiff,reduceIte,Int.reduceAdd,Int.reduceSub,Int.reduceMul,Int.reduceLT,Int.reduceLE,Int.reduceEq,Int.reduceToNat,Int.reduceNeg,zed,zee,zfr,zhw,ysu,yrg,g14,g13,hw4]
    refine ⟨(C - (x + 1)).toNat, by omega, x + 1, _, out, rfl, by omega, by omega, ?_, ?_, ?_, ?_, by (with_reducible (repeat (first | refine Keep.put ?_ (by decide) | refine Keep.none ?_ | assumption | exact Keep.refl _ _ _))), hcc ▸ J, R'⟩
    · simp (disch := (first | (simp only [ne_eq,Nat.reduceEqDiff,not_false_eq_true,Nat.reduceLT]; done) | omega | (simp only [yz] <;> omega) | fail)) only [yg,Nat.reduceAdd,Nat.reduceEqDiff,Nat.reduceLT]
    · simp (disch := (first | (simp only [ne_eq,Nat.reduceEqDiff,not_false_eq_true,Nat.reduceLT]; done) | omega | (simp only [yz] <;> omega) | fail)) only [yg,Nat.reduceAdd,Nat.reduceEqDiff,Nat.reduceLT,g12]
    · simp (disch := (first | (simp only [ne_eq,Nat.reduceEqDiff,not_false_eq_true,Nat.reduceLT]; done) | omega | (simp only [yz] <;> omega) | fail)) only [yg,Nat.reduceAdd,Nat.reduceEqDiff,Nat.reduceLT,g9]
    · simp (disch := (first | (simp only [ne_eq,Nat.reduceEqDiff,not_false_eq_true,Nat.reduceLT]; done) | omega | (simp only [yz] <;> omega) | fail)) only [yg,Nat.reduceAdd,Nat.reduceEqDiff,Nat.reduceLT,g11]
  · rw [hcc] at g14 R' J
    cases hD : decide (tg out x < 0)
    · have e : outL m x true out = out := by unfold outL; rw [hD]; rfl
      rw [e] at R'
      simp (disch := (first | (simp only [ne_eq,Nat.reduceEqDiff,not_false_eq_true,Nat.reduceLT]; done) | omega | (simp only [yz] <;> omega) | fail)) only [↓yp,yq0,yq1,yq2,yq3,yq4,yl,ys0,ys1,Nat.reduceAdd,Nat.reduceMul,Nat.reduceSub,Nat.reduceBEq,Nat.reduceEqDiff,Nat.reduceLT,Nat.reduceLeDiff,reduceIte,Int.reduceAdd,Int.reduceSub,Int.reduceMul,Int.reduceLT,Int.reduceLE,Int.reduceEq,Int.reduceToNat,Int.reduceNeg,zed,zee,zfr,zhw,ysu,yrg,g14,g13,g9,jo,xo,A_indexSlice zir,hD,hw4]
      refine ⟨(C - (x + 1)).toNat, by omega, x + 1, _, out, rfl, by omega, by omega, ?_, ?_, ?_, ?_, by (with_reducible (repeat (first | refine Keep.put ?_ (by decide) | refine Keep.none ?_ | assumption | exact Keep.refl _ _ _))), J, R'⟩
      · simp (disch := (first | (simp only [ne_eq,Nat.reduceEqDiff,not_false_eq_true,Nat.reduceLT]; done) | omega | (simp only [yz] <;> omega) | fail)) only [yg,Nat.reduceAdd,Nat.reduceEqDiff,Nat.reduceLT]
      · simp (disch := (first | (simp only [ne_eq,Nat.reduceEqDiff,not_false_eq_true,Nat.reduceLT]; done) | omega | (simp only [yz] <;> omega) | fail)) only [yg,Nat.reduceAdd,Nat.reduceEqDiff,Nat.reduceLT,g12]
      · simp (disch := (first | (simp only [ne_eq,Nat.reduceEqDiff,not_false_eq_true,Nat.reduceLT]; done) | omega | (simp only [yz] <;> omega) | fail)) only [yg,Nat.reduceAdd,Nat.reduceEqDiff,Nat.reduceLT,g9]
      · simp (disch := (first | (simp only [ne_eq,Nat.reduceEqDiff,not_false_eq_true,Nat.reduceLT]; done) | omega | (simp only [yz] <;> omega) | fail)) only [yg,Nat.reduceAdd,Nat.reduceEqDiff,Nat.reduceLT,g11]
    · have e : outL m x true out = out.set x.toNat m := by unfold outL; rw [hD]; rfl
      rw [e] at R'
      simp (disch := (first | (simp only [ne_eq,Nat.reduceEqDiff,not_false_eq_true,Nat.reduceLT]; done) | omega | (simp only [yz] <;> omega) | fail)) only [↓yp,yq0,yq1,yq2,yq3,yq4,yl,ys0,ys1,Nat.reduceAdd,Nat.reduceMul,Nat.reduceSub,Nat.reduceBEq,Nat.reduceEqDiff,Nat.reduceLT,Nat.reduceLeDiff,reduceIte,Int.reduceAdd,Int.reduceSub,Int.reduceMul,Int.reduceLT,Int.reduceLE,Int.reduceEq,Int.reduceToNat,Int.reduceNeg,zed,zee,zfr,zhw,ysu,yrg,g14,g13,g12,g9,jo,xo,A_indexSlice zir,hD,hw4,wrB_al,tv_len,ol,one_tv,hfit2,nt,hmin,hmin']
      refine ⟨(C - (x + 1)).toNat, by omega, x + 1, _, _, rfl, by omega, by omega, ?_, ?_, ?_, ?_, by (with_reducible (repeat (first | refine Keep.put ?_ (by decide) | refine Keep.none ?_ | assumption | exact Keep.refl _ _ _))), J.out' k1 k2 hal hal' _, R'⟩
      · simp (disch := (first | (simp only [ne_eq,Nat.reduceEqDiff,not_false_eq_true,Nat.reduceLT]; done) | omega | (simp only [yz] <;> omega) | fail)) only [yg,Nat.reduceAdd,Nat.reduceEqDiff,Nat.reduceLT]
      · simp (disch := (first | (simp only [ne_eq,Nat.reduceEqDiff,not_false_eq_true,Nat.reduceLT]; done) | omega | (simp only [yz] <;> omega) | fail)) only [yg,Nat.reduceAdd,Nat.reduceEqDiff,Nat.reduceLT,g12]
      · simp (disch := (first | (simp only [ne_eq,Nat.reduceEqDiff,not_false_eq_true,Nat.reduceLT]; done) | omega | (simp only [yz] <;> omega) | fail)) only [yg,Nat.reduceAdd,Nat.reduceEqDiff,Nat.reduceLT,g9]
      · simp (disch := (first | (simp only [ne_eq,Nat.reduceEqDiff,not_false_eq_true,Nat.reduceLT]; done) | omega | (simp only [yz] <;> omega) | fail)) only [yg,Nat.reduceAdd,Nat.reduceEqDiff,Nat.reduceLT,g11]
end
end Go.Am
