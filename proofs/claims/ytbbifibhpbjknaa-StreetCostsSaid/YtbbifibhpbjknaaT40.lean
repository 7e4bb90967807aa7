/- What the tables say of more types and functions. -/
import Derived.Test.YtbbifibhpbjknaaT35
import Derived.Test.YtbbifibhpbjknaaT28
import Derived.Test.YtbbifibhpbjknaaT39
import Derived.Test.YtbbifibhpbjknaaT38
set_option linter.unusedSimpArgs false
set_option linter.unusedVariables false
set_option linter.defProp false
namespace Go.Am
open Go.Proofs
theorem st_alS_163 : alS tabA 163 = some [(.map none)] := by kernel_rfl
theorem st_alS_166 : alS tabA 166 = some [(.int IntKind.i64 0), (.int IntKind.u64 0)] := by kernel_rfl
theorem st_alS_168 : alS tabA 168 = some [(.int IntKind.i64 0), (.int IntKind.i64 0), (.bool false), (.int IntKind.i64 0), (.int IntKind.u64 0)] := by kernel_rfl
theorem st_alS_178 : alS tabA 178 = some [(.slice none 0 0), (.slice none 0 0), (.slice none 0 0), (.slice none 0 0), (.slice none 0 0), (.slice none 0 0), (.slice none 0 0), (.slice none 0 0), (.slice none 0 0), (.slice none 0 0), (.slice none 0 0), (.slice none 0 0), (.slice none 0 0), (.slice none 0 0), (.slice none 0 0), (.slice none 0 0), (.slice none 0 0), (.slice none 0 0), (.slice none 0 0), (.slice none 0 0), (.slice none 0 0), (.slice none 0 0), (.slice none 0 0), (.slice none 0 0), (.slice none 0 0), (.slice none 0 0), (.slice none 0 0), (.slice none 0 0), (.slice none 0 0), (.slice none 0 0), (.slice none 0 0), (.slice none 0 0), (.slice none 0 0), (.slice none 0 0), (.slice none 0 0), (.slice none 0 0), (.slice none 0 0), (.slice none 0 0), (.slice none 0 0), (.slice none 0 0), (.slice none 0 0), (.slice none 0 0), (.slice none 0 0), (.slice none 0 0), (.slice none 0 0), (.slice none 0 0), (.slice none 0 0), (.slice none 0 0), (.slice none 0 0), (.slice none 0 0), (.slice none 0 0), (.slice none 0 0), (.slice none 0 0), (.slice none 0 0), (.slice none 0 0), (.slice none 0 0), (.slice none 0 0), (.slice none 0 0), (.slice none 0 0), (.slice none 0 0), (.slice none 0 0), (.slice none 0 0), (.slice none 0 0), (.slice none 0 0), (.slice none 0 0), (.slice none 0 0), (.slice none 0 0), (.slice none 0 0), (.slice none 0 0), (.slice none 0 0), (.slice none 0 0), (.slice none 0 0), (.slice none 0 0), (.slice none 0 0), (.slice none 0 0), (.slice none 0 0), (.slice none 0 0), (.slice none 0 0), (.slice none 0 0), (.slice none 0 0), (.slice none 0 0), (.slice none 0 0), (.slice none 0 0), (.slice none 0 0), (.slice none 0 0), (.slice none 0 0), (.slice none 0 0), (.slice none 0 0), (.slice none 0 0), (.slice none 0 0), (.slice none 0 0), (.slice none 0 0), (.slice none 0 0), (.slice none 0 0), (.slice none 0 0), (.slice none 0 0), (.slice none 0 0), (.slice none 0 0), (.slice none 0 0), (.slice none 0 0), (.slice none 0 0), (.slice none 0 0), (.slice none 0 0), (.slice none 0 0), (.slice none 0 0), (.slice none 0 0), (.slice none 0 0), (.slice none 0 0), (.slice none 0 0), (.slice none 0 0), (.slice none 0 0), (.slice none 0 0), (.slice none 0 0), (.slice none 0 0), (.slice none 0 0), (.slice none 0 0), (.slice none 0 0), (.slice none 0 0), (.slice none 0 0), (.slice none 0 0), (.slice none 0 0), (.slice none 0 0), (.slice none 0 0), (.slice none 0 0), (.slice none 0 0), (.slice none 0 0), (.slice none 0 0), (.slice none 0 0), (.slice none 0 0), (.slice none 0 0), (.slice none 0 0), (.slice none 0 0), (.slice none 0 0), (.slice none 0 0), (.slice none 0 0), (.slice none 0 0), (.slice none 0 0), (.slice none 0 0), (.slice none 0 0), (.slice none 0 0), (.slice none 0 0), (.slice none 0 0), (.slice none 0 0), (.slice none 0 0), (.slice none 0 0), (.slice none 0 0), (.slice none 0 0), (.slice none 0 0), (.slice none 0 0), (.slice none 0 0), (.slice none 0 0), (.slice none 0 0), (.slice none 0 0), (.slice none 0 0), (.slice none 0 0), (.slice none 0 0), (.slice none 0 0), (.slice none 0 0), (.slice none 0 0), (.slice none 0 0), (.slice none 0 0), (.slice none 0 0), (.slice none 0 0), (.slice none 0 0), (.slice none 0 0), (.slice none 0 0), (.slice none 0 0), (.slice none 0 0), (.slice none 0 0), (.slice none 0 0), (.slice none 0 0), (.slice none 0 0), (.slice none 0 0), (.slice none 0 0), (.slice none 0 0), (.slice none 0 0), (.slice none 0 0), (.slice none 0 0), (.slice none 0 0), (.slice none 0 0), (.slice none 0 0), (.slice none 0 0), (.slice none 0 0), (.slice none 0 0), (.slice none 0 0), (.slice none 0 0), (.slice none 0 0), (.slice none 0 0), (.slice none 0 0), (.slice none 0 0), (.slice none 0 0), (.slice none 0 0), (.slice none 0 0), (.slice none 0 0), (.slice none 0 0), (.slice none 0 0), (.slice none 0 0), (.slice none 0 0), (.slice none 0 0), (.slice none 0 0), (.slice none 0 0), (.slice none 0 0), (.slice none 0 0), (.slice none 0 0), (.slice none 0 0), (.slice none 0 0), (.slice none 0 0), (.slice none 0 0), (.slice none 0 0), (.slice none 0 0), (.slice none 0 0), (.slice none 0 0), (.slice none 0 0), (.slice none 0 0), (.slice none 0 0), (.slice none 0 0), (.slice none 0 0), (.slice none 0 0), (.slice none 0 0), (.slice none 0 0), (.slice none 0 0), (.slice none 0 0), (.slice none 0 0), (.slice none 0 0), (.slice none 0 0), (.slice none 0 0), (.slice none 0 0), (.slice none 0 0), (.slice none 0 0), (.slice none 0 0), (.slice none 0 0), (.slice none 0 0), (.slice none 0 0), (.slice none 0 0), (.slice none 0 0), (.slice none 0 0), (.slice none 0 0), (.slice none 0 0), (.slice none 0 0), (.slice none 0 0), (.slice none 0 0)] := by kernel_rfl
theorem st_alS_180 : alS tabA 180 = some [.nilFunc] := by kernel_rfl
theorem st_alS_3 : alS tabA 3 = some [(.int IntKind.i64 0)] := by kernel_rfl
theorem st_apS_101 : apS tabA 101 = some (105, 1, 8) := by kernel_rfl
theorem st_apS_177 : apS tabA 177 = some (166, 2, 16) := by kernel_rfl
theorem st_apS_32 : apS tabA 32 = some (46, 9, 72) := by kernel_rfl
theorem st_arS_178 : arS tabA 178 = some (241, 1) := by kernel_rfl
theorem st_bdS_166 : bdS tabA 166 = some ([(.int IntKind.i64 0), (.int IntKind.u64 0)], [(0, 1), (1, 1)]) := by kernel_rfl
theorem st_bdS_168 : bdS tabA 168 = some ([(.int IntKind.i64 0), (.int IntKind.i64 0), (.bool false), (.int IntKind.i64 0), (.int IntKind.u64 0)], [(0, 1), (1, 2), (3, 2)]) := by kernel_rfl
theorem st_brS_101_1 : brS tabA 101 1 = some (1, 105, [(.int IntKind.i64 0)]) := by kernel_rfl
theorem st_brS_177_1 : brS tabA 177 1 = some (2, 166, [(.int IntKind.i64 0), (.int IntKind.u64 0)]) := by kernel_rfl
theorem st_esS_101 : esS tabA 101 = some 1 := by kernel_rfl
theorem st_esS_177 : esS tabA 177 = some 2 := by kernel_rfl
theorem st_faS_166_0 : faS tabA 166 0 = some 0 := by kernel_rfl
theorem st_faS_166_1 : faS tabA 166 1 = some 1 := by kernel_rfl
theorem st_faS_168_0 : faS tabA 168 0 = some 0 := by kernel_rfl
theorem st_faS_168_1 : faS tabA 168 1 = some 1 := by kernel_rfl
theorem st_faS_168_2 : faS tabA 168 2 = some 3 := by kernel_rfl
theorem st_inS_105 : inS tabA 105 = some 1 := by kernel_rfl
theorem st_inS_163 : inS tabA 163 = some 1 := by kernel_rfl
theorem st_inS_166 : inS tabA 166 = some 2 := by kernel_rfl
theorem st_inS_168 : inS tabA 168 = some 5 := by kernel_rfl
theorem st_inS_177 : inS tabA 177 = some 1 := by kernel_rfl
theorem st_inS_180 : inS tabA 180 = some 1 := by kernel_rfl
theorem st_ldS_142 : ldS tabA 142 = some 0 := by kernel_rfl
theorem st_ldS_163 : ldS tabA 163 = some 0 := by kernel_rfl
theorem st_ldS_166 : ldS tabA 166 = some 3 := by kernel_rfl
theorem st_ldS_177 : ldS tabA 177 = some 0 := by kernel_rfl
theorem st_ldS_180 : ldS tabA 180 = some 0 := by kernel_rfl
theorem fn_6 : tabA.fn 6 = some Try.f6 := by kernel_rfl
theorem fn_46 : tabA.fn 46 = some Try.f46 := by kernel_rfl
theorem fn_47 : tabA.fn 47 = some Try.f47 := by kernel_rfl
theorem fn_95 : tabA.fn 95 = some Try.f95 := by kernel_rfl
def ysx := (And.intro (And.intro (And.intro (And.intro (And.intro @st_alS_163 @st_alS_166) (And.intro @st_alS_168 @st_alS_178)) (And.intro (And.intro @st_alS_180 @st_alS_3) (And.intro @st_apS_101 @st_apS_177))) (And.intro (And.intro (And.intro @st_apS_32 @st_arS_178) (And.intro @st_bdS_166 @st_bdS_168)) (And.intro (And.intro @st_brS_101_1 @st_brS_177_1) (And.intro @st_esS_101 @st_esS_177)))) (And.intro (And.intro (And.intro (And.intro @st_faS_166_0 @st_faS_166_1) (And.intro @st_faS_168_0 @st_faS_168_1)) (And.intro (And.intro @st_faS_168_2 @st_inS_105) (And.intro @st_inS_163 @st_inS_166))) (And.intro (And.intro (And.intro @st_inS_168 @st_inS_177) (And.intro @st_inS_180 @st_ldS_142)) (And.intro (And.intro @st_ldS_163 @st_ldS_166) (And.intro @st_ldS_177 @st_ldS_180)))))
end Go.Am
/- A town without a street, and what Heaviest and Later of the program tell. -/
namespace Go.Am
open Go.Proofs
variable {T : Tab} {P : Program} {N L : Nat} {H : AHeap} {Q : Bool → Value → AHeap → Prop}
section
variable {a : Option Addr} {cap : Nat} {l : List Str} {C w ld : Int}
theorem ok_of_chk (h : chk C l = 0) : ∀ s ∈ l, OkS C s := fun s hs => ⟨(chk_ok h).2.2.1 s hs, (chk_ok h).2.2.2 s hs⟩
theorem chk_erase {i : Nat} (h : chk C l = 0) : chk C (l.eraseIdx i) = 0 := by
  have h1 := off_iff.1 (chk_ok h).1
  have h2 := (chk_ok h).2.1
  have h3 : (l.eraseIdx i).length ≤ l.length := List.length_eraseIdx_le l i
  exact chk_of h1 (by omega) fun s hs => ok_of_chk h s (List.mem_of_mem_eraseIdx hs)
theorem c81g (hs : Sl H a l) (hl : l.length ≤ 18) (hne : l ≠ []) (hL : L ≤ H.size) {M : Nat} (hM : 60 ≤ M)
    (hq : ∀ k H', Fr H H' → H.size ≤ k → k < H'.size → H'.get k = .rw (flat l) 45 true [] → Q false (.slice (some ⟨k, 0, none⟩) l.length (OPEN + 9)) H') : resK (acall tabA (aexec tabA Try.prog M) 81 [.slice a l.length cap] H) L Q := by
  obtain ⟨N, rfl⟩ : ∃ N, M = N + 60 := ⟨M - 60, by omega⟩
  refine call_fls (R := fun v H' => ∃ k, v = .slice (some ⟨k, 0, none⟩) l.length (OPEN + 9) ∧ Fr H H' ∧ H.size ≤ k ∧ k < H'.size ∧ H'.get k = .rw (flat l) 45 true []) (k := 8) (rs := [.tmp 2]) rfl fn_81 rfl rfl rfl hL ?_ ?_ ?_
  · have hpos : 0 < l.length := List.length_pos_iff.2 hne
    obtain ⟨b, o, c, rfl, hb, hc, _⟩ := hs.get hne
    simp (disch := (first | (simp only [ne_eq,Nat.reduceEqDiff,not_false_eq_true,Nat.reduceLT]; done) | omega | (simp only [yz] <;> omega) | fail)) only [↓yp,yq0,yq1,yq2,yq3,yq4,yl,ys0,ys1,Nat.reduceAdd,Nat.reduceMul,Nat.reduceSub,Nat.reduceBEq,Nat.reduceEqDiff,Nat.reduceLT,Nat.reduceLeDiff,reduceIte,Int.reduceAdd,Int.reduceSub,Int.reduceMul,Int.reduceLT,Int.reduceLE,Int.reduceEq,Int.reduceToNat,Int.reduceNeg,zed,zee,zfr,zhw,ysu,yrg,ysv,ysw,ysx,binV_nil_some zio,A_buildSlice st_brS_22_0]
    rw [apK_empty (H := _) (n := l.length) st_apS_22 ((hs.fr (Fr.alloc _ _)).src hne) (by omega) (by omega) (by omega) (one_flat l) (c₀ := []) (by simp (disch := (first | (simp only [ne_eq,Nat.reduceEqDiff,not_false_eq_true,Nat.reduceLT]; done) | omega | (simp only [yz] <;> omega) | fail)) only [yg,Nat.reduceAdd,Nat.reduceEqDiff,Nat.reduceLT])]
    simp (disch := (first | (simp only [ne_eq,Nat.reduceEqDiff,not_false_eq_true,Nat.reduceLT]; done) | omega | (simp only [yz] <;> omega) | fail)) only [↓yp,yq0,yq1,yq2,yq3,yq4,yl,ys0,ys1,Nat.reduceAdd,Nat.reduceMul,Nat.reduceSub,Nat.reduceBEq,Nat.reduceEqDiff,Nat.reduceLT,Nat.reduceLeDiff,reduceIte,Int.reduceAdd,Int.reduceSub,Int.reduceMul,Int.reduceLT,Int.reduceLE,Int.reduceEq,Int.reduceToNat,Int.reduceNeg,zed,zee,zfr,zhw,ysu,yrg,ysv,ysw,ysx]
    exact ⟨_, rfl, by (repeat (first | exact Fr.refl _ | assumption | refine Fr.allocd ?_ _ | refine Fr.kill ?_ (by first | assumption | omega) | refine Fr.put ?_ (by first | omega | (simp only [yz] <;> omega)) _)), by (first | omega | (simp only [yz] <;> omega)), by (first | omega | (simp only [yz] <;> omega)), by simp (disch := (first | (simp only [ne_eq,Nat.reduceEqDiff,not_false_eq_true,Nat.reduceLT]; done) | omega | (simp only [yz] <;> omega) | fail)) only [yg,Nat.reduceAdd,Nat.reduceEqDiff,Nat.reduceLT]⟩
  · rintro v H' ⟨k, rfl, -⟩; rfl
  · rintro v H' ⟨k, rfl, h1, h2, h3, h4⟩
    exact hq _ _ h1 h2 h3 h4
set_option maxHeartbeats 1000000 in
/-- A town without a street. -/
theorem c95 {i : Nat} (hs : Sl H a l) (hl : l.length ≤ 18) (hi : i < l.length) (hL : L ≤ H.size) {M : Nat} (hM : 200 ≤ M)
    (hq : ∀ k H', Fr H H' → H.size ≤ k → k < H'.size → Sl H' (some ⟨k, 0, none⟩) (l.eraseIdx i) → Q false (.agg ⟨[.int .i64 C, .slice (some ⟨k, 0, none⟩) (l.eraseIdx i).length (OPEN + 9)]⟩) H') :
    resK (acall tabA (aexec tabA Try.prog M) 95 [.agg ⟨[.int .i64 C, .slice a l.length cap]⟩, .int .i64 i] H) L Q := by
  obtain ⟨N, rfl⟩ : ∃ N, M = N + 200 := ⟨M - 200, by omega⟩
  have hne : l ≠ [] := fun h => by rw [h] at hi; simp at hi
  have hel : (l.eraseIdx i).length = l.length - 1 := List.length_eraseIdx_of_lt hi
  refine call_fls (R := fun v H' => ∃ k, v = .agg ⟨[.int .i64 C, .slice (some ⟨k, 0, none⟩) (l.eraseIdx i).length (OPEN + 9)]⟩ ∧ Fr H H' ∧ H.size ≤ k ∧ k < H'.size ∧ Sl H' (some ⟨k, 0, none⟩) (l.eraseIdx i)) (k := 17) (rs := [.cell 4 24]) rfl fn_95 rfl rfl rfl hL ?_ ?_ ?_
  · simp (disch := (first | (simp only [ne_eq,Nat.reduceEqDiff,not_false_eq_true,Nat.reduceLT]; done) | omega | (simp only [yz] <;> omega) | fail)) only [↓yp,yq0,yq1,yq2,yq3,yq4,yl,ys0,ys1,Nat.reduceAdd,Nat.reduceMul,Nat.reduceSub,Nat.reduceBEq,Nat.reduceEqDiff,Nat.reduceLT,Nat.reduceLeDiff,reduceIte,Int.reduceAdd,Int.reduceSub,Int.reduceMul,Int.reduceLT,Int.reduceLE,Int.reduceEq,Int.reduceToNat,Int.reduceNeg,zed,zee,zfr,zhw,ysu,yrg,ysv,ysw,ysx]
    refine c81g (hs.fr (by (repeat (first | exact Fr.refl _ | assumption | refine Fr.allocd ?_ _ | refine Fr.kill ?_ (by first | assumption | omega) | refine Fr.put ?_ (by first | omega | (simp only [yz] <;> omega)) _)))) hl hne (by (first | omega | (simp only [yz] <;> omega))) (by omega) ?_
    intro k H1 f1 k1 k2 k3
    have n0 := f1.size
    have ns := f1.same
    simp only [zde] at n0 k1
    have hw : w64 ((i : Int) + 1) = ((i + 1 : Nat) : Int) := by rw [w64_of (by omega)]; omega
    simp (disch := (first | (simp only [ne_eq,Nat.reduceEqDiff,not_false_eq_true,Nat.reduceLT]; done) | omega | (simp only [yz] <;> omega) | fail)) only [↓yp,yq0,yq1,yq2,yq3,yq4,yl,ys0,ys1,Nat.reduceAdd,Nat.reduceMul,Nat.reduceSub,Nat.reduceBEq,Nat.reduceEqDiff,Nat.reduceLT,Nat.reduceLeDiff,reduceIte,Int.reduceAdd,Int.reduceSub,Int.reduceMul,Int.reduceLT,Int.reduceLE,Int.reduceEq,Int.reduceToNat,Int.reduceNeg,zed,zee,zfr,zhw,ysu,yrg,ysv,ysw,ysx,ns]
    refine W_draw [6, 8] rfl (by kernel_rfl) (by kernel_rfl) (by (first | omega | (simp only [yz] <;> omega))) ?_
    simp (disch := (first | (simp only [ne_eq,Nat.reduceEqDiff,not_false_eq_true,Nat.reduceLT]; done) | omega | (simp only [yz] <;> omega) | fail)) only [↓yp,yq0,yq1,yq2,yq3,yq4,yl,ys0,ys1,Nat.reduceAdd,Nat.reduceMul,Nat.reduceSub,Nat.reduceBEq,Nat.reduceEqDiff,Nat.reduceLT,Nat.reduceLeDiff,reduceIte,Int.reduceAdd,Int.reduceSub,Int.reduceMul,Int.reduceLT,Int.reduceLE,Int.reduceEq,Int.reduceToNat,Int.reduceNeg,zed,zee,zfr,zhw,ysu,yrg,ysv,ysw,ysx,ns,hw]
    refine c61 k3 k2 (by omega) hi hl (by omega) ?_
    intro c H2 hc1 hc2 hx hs2 hbk
    have b2 : H2.get H.size = .rw [.int .i64 C, .slice a l.length cap] 24 false [] := by rw [hx.same _ (by omega) (by omega), ns _ (by (first | omega | (simp only [yz] <;> omega)))]; simp (disch := (first | (simp only [ne_eq,Nat.reduceEqDiff,not_false_eq_true,Nat.reduceLT]; done) | omega | (simp only [yz] <;> omega) | fail)) only [yg,Nat.reduceAdd,Nat.reduceEqDiff,Nat.reduceLT]
    have b4 : H2.get (H.size + 1) = .rw [.int .i64 0, .slice none 0 0] 24 false [] := by rw [hx.same _ (by omega) (by omega), ns _ (by (first | omega | (simp only [yz] <;> omega)))]; simp (disch := (first | (simp only [ne_eq,Nat.reduceEqDiff,not_false_eq_true,Nat.reduceLT]; done) | omega | (simp only [yz] <;> omega) | fail)) only [yg,Nat.reduceAdd,Nat.reduceEqDiff,Nat.reduceLT]
    simp (disch := (first | (simp only [ne_eq,Nat.reduceEqDiff,not_false_eq_true,Nat.reduceLT]; done) | omega | (simp only [yz] <;> omega) | fail)) only [↓yp,yq0,yq1,yq2,yq3,yq4,yl,ys0,ys1,Nat.reduceAdd,Nat.reduceMul,Nat.reduceSub,Nat.reduceBEq,Nat.reduceEqDiff,Nat.reduceLT,Nat.reduceLeDiff,reduceIte,Int.reduceAdd,Int.reduceSub,Int.reduceMul,Int.reduceLT,Int.reduceLE,Int.reduceEq,Int.reduceToNat,Int.reduceNeg,zed,zee,zfr,zhw,ysu,yrg,ysv,ysw,ysx,ns,b2,b4,hw,A_build zil]
    have fH : Fr H H2 := hx.above (Fr.trans (by (repeat (first | exact Fr.refl _ | assumption | refine Fr.allocd ?_ _ | refine Fr.kill ?_ (by first | assumption | omega) | refine Fr.put ?_ (by first | omega | (simp only [yz] <;> omega)) _))) f1) (by omega)
    refine ⟨k, by rw [hel], Fr.put fH (by omega) _, by omega, by (first | omega | (simp only [yz] <;> omega)), sl_cut (by (first | omega | (simp only [yz] <;> omega))) (by rw [zdd (by omega), hbk]; rfl) (by rw [hel]; exact hc2)⟩
  · rintro v H' ⟨k, rfl, -⟩; rfl
  · rintro v H' ⟨k, rfl, h1, h2, h3, h4⟩
    exact hq _ _ h1 h2 h3 h4
/-- What Heaviest tells. -/
def heavG (C : Int) (l : List Str) (w fr to m bm : Int) : Int × Int :=
  if asked C l w 0 [fr, to] [] [m, bm] ≠ 0 then (0, asked C l w 0 [fr, to] [] [m, bm]) else heavV C l w fr to m bm
theorem c44g {fr to m bm : Int} (hs : Sl H a l) (hl : l.length ≤ 18) :
    acall tabA (aexec tabA Try.prog (N + 5500)) 44 [.agg ⟨[.int .i64 C, .slice a l.length cap]⟩, .int .i64 w, .int .i64 fr, .int .i64 to, .int .i64 m, .int .i64 bm] H = some (true, .tuple ⟨[.int .i64 (heavG C l w fr to m bm).1, .int .i64 (heavG C l w fr to m bm).2]⟩, H, H.size) := by
  by_cases h0 : asked C l w 0 [fr, to] [] [m, bm] = 0
  · have hv : heavG C l w fr to m bm = heavV C l w fr to m bm := by unfold heavG; rw [if_neg (by simpa using h0)]
    obtain ⟨hc, hw, hd, hcs, -, hms⟩ := asked_ok h0
    have hfr := hcs fr (by simp)
    have hto := hcs to (by simp)
    rw [hv]
    exact c44 hs (chk_ok hc).2.1 (off_iff.1 (chk_ok hc).1) (ok_of_chk hc) (off_iff.1 hw) (by omega) (by omega) (hms m (by simp)) (hms bm (by simp))
  · have hv : heavG C l w fr to m bm = (0, asked C l w 0 [fr, to] [] [m, bm]) := by unfold heavG; rw [if_pos h0]
    refine call_quiet (k := 52) (rs := [.tmp 12, .tmp 13]) rfl fn_44 rfl rfl rfl ?_ rfl
    have h0' : decide (asked C l w 0 [fr, to] [] [m, bm] = 0) = false := by simpa using h0
    simp (disch := (first | (simp only [ne_eq,Nat.reduceEqDiff,not_false_eq_true,Nat.reduceLT]; done) | omega | (simp only [yz] <;> omega) | fail)) only [↓yp,yq0,yq1,yq2,yq3,yq4,yl,ys0,ys1,Nat.reduceAdd,Nat.reduceMul,Nat.reduceSub,Nat.reduceBEq,Nat.reduceEqDiff,Nat.reduceLT,Nat.reduceLeDiff,reduceIte,Int.reduceAdd,Int.reduceSub,Int.reduceMul,Int.reduceLT,Int.reduceLE,Int.reduceEq,Int.reduceToNat,Int.reduceNeg,zed,zee,zfr,zhw,ysu,yrg,ysv,ysw,ysx,A_buildSlice st_brS_52_2,A_build st_bdS_26]
    rw [c82f (x := fr) (y := to) (m := m) (n := bm) (hs.fr (by (repeat (first | exact Fr.refl _ | assumption | refine Fr.allocd ?_ _ | refine Fr.kill ?_ (by first | assumption | omega) | refine Fr.put ?_ (by first | omega | (simp only [yz] <;> omega)) _)))) (by omega) (by simp (disch := (first | (simp only [ne_eq,Nat.reduceEqDiff,not_false_eq_true,Nat.reduceLT]; done) | omega | (simp only [yz] <;> omega) | fail)) only [yg,Nat.reduceAdd,Nat.reduceEqDiff,Nat.reduceLT]) (by simp (disch := (first | (simp only [ne_eq,Nat.reduceEqDiff,not_false_eq_true,Nat.reduceLT]; done) | omega | (simp only [yz] <;> omega) | fail)) only [yg,Nat.reduceAdd,Nat.reduceEqDiff,Nat.reduceLT]), hv]
    simp (disch := (first | (simp only [ne_eq,Nat.reduceEqDiff,not_false_eq_true,Nat.reduceLT]; done) | omega | (simp only [yz] <;> omega) | fail)) only [↓yp,yq0,yq1,yq2,yq3,yq4,yl,ys0,ys1,Nat.reduceAdd,Nat.reduceMul,Nat.reduceSub,Nat.reduceBEq,Nat.reduceEqDiff,Nat.reduceLT,Nat.reduceLeDiff,reduceIte,Int.reduceAdd,Int.reduceSub,Int.reduceMul,Int.reduceLT,Int.reduceLE,Int.reduceEq,Int.reduceToNat,Int.reduceNeg,zed,zee,zfr,zhw,ysu,yrg,ysv,ysw,ysx,h0']
/-- A question of two corners, a street and a minute. -/
theorem c82h {k₁ k₂ k₃ : Nat} {x y st m : Int} (hs : Sl H a l) (hl : l.length ≤ 18) (h₁ : cellsOf (H.get k₁) = some [.int .i64 x, .int .i64 y]) (h₂ : cellsOf (H.get k₂) = some [.int .i64 st]) (h₃ : cellsOf (H.get k₃) = some [.int .i64 m]) :
    acall tabA (aexec tabA Try.prog (N + 400)) 82 [.agg ⟨[.int .i64 C, .slice a l.length cap]⟩, .agg ⟨[.int .i64 w, .int .i64 ld]⟩, .slice (some ⟨k₁, 0, none⟩) 2 2, .slice (some ⟨k₂, 0, none⟩) 1 1, .slice (some ⟨k₃, 0, none⟩) 1 1] H = some (true, .int .i64 (asked C l w ld [x, y] [st] [m]), H, H.size) :=
  c82 (cs := [x, y]) (ss := [st]) (ms := [m]) hs hl (Il.two (lt_of_cells h₁) h₁) (by simp) (Il.one (lt_of_cells h₂) h₂) (by simp) (Il.one (lt_of_cells h₃) h₃) (by simp)
theorem c26h {k₁ k₂ k₃ : Nat} {x y st m : Int} (hs : Sl H a l) (hl : l.length ≤ 18) (h₁ : cellsOf (H.get k₁) = some [.int .i64 x, .int .i64 y]) (h₂ : cellsOf (H.get k₂) = some [.int .i64 st]) (h₃ : cellsOf (H.get k₃) = some [.int .i64 m]) :
    acall tabA (aexec tabA Try.prog (N + 400)) 26 [.agg ⟨[.int .i64 C, .slice a l.length cap]⟩, .agg ⟨[.int .i64 w, .int .i64 ld]⟩, .slice (some ⟨k₁, 0, none⟩) 2 2, .slice (some ⟨k₂, 0, none⟩) 1 1, .slice (some ⟨k₃, 0, none⟩) 1 1] H = some (true, .int .i64 (asked C l w ld [x, y] [st] [m]), H, H.size) :=
  c26 (cs := [x, y]) (ss := [st]) (ms := [m]) hs hl (Il.two (lt_of_cells h₁) h₁) (by simp) (Il.one (lt_of_cells h₂) h₂) (by simp) (Il.one (lt_of_cells h₃) h₃) (by simp)
/-- What Later tells. -/
def lateA (C : Int) (l : List Str) (w ld fr to m st : Int) : Int × Int :=
  if tg (earT C l w ld fr m) to = -1 then (0, 1) else if tg (earT C (l.eraseIdx st.toNat) w ld fr m) to = -1 then (0, 9) else (tg (earT C (l.eraseIdx st.toNat) w ld fr m) to - tg (earT C l w ld fr m) to, 0)
def lateG (C : Int) (l : List Str) (w ld fr to m st : Int) : Int × Int :=
  if asked C l w ld [fr, to] [st] [m] ≠ 0 then (0, asked C l w ld [fr, to] [st] [m]) else lateA C l w ld fr to m st
set_option maxHeartbeats 2000000 in
theorem c46 {fr to m st : Int} (hs : Sl H a l) (hl : l.length ≤ 18) :
    acall tabA (aexec tabA Try.prog (N + 5500)) 46 [.agg ⟨[.int .i64 C, .slice a l.length cap]⟩, .agg ⟨[.int .i64 w, .int .i64 ld]⟩, .int .i64 fr, .int .i64 to, .int .i64 m, .int .i64 st] H = some (true, .tuple ⟨[.int .i64 (lateG C l w ld fr to m st).1, .int .i64 (lateG C l w ld fr to m st).2]⟩, H, H.size) := by
  refine call_quiet (k := 55) (rs := [.tmp 12, .tmp 13]) rfl fn_46 rfl rfl rfl ?_ rfl
  simp (disch := (first | (simp only [ne_eq,Nat.reduceEqDiff,not_false_eq_true,Nat.reduceLT]; done) | omega | (simp only [yz] <;> omega) | fail)) only [↓yp,yq0,yq1,yq2,yq3,yq4,yl,ys0,ys1,Nat.reduceAdd,Nat.reduceMul,Nat.reduceSub,Nat.reduceBEq,Nat.reduceEqDiff,Nat.reduceLT,Nat.reduceLeDiff,reduceIte,Int.reduceAdd,Int.reduceSub,Int.reduceMul,Int.reduceLT,Int.reduceLE,Int.reduceEq,Int.reduceToNat,Int.reduceNeg,zed,zee,zfr,zhw,ysu,yrg,ysv,ysw,ysx,A_buildSlice st_brS_52_2,A_buildSlice st_brS_52_1]
  rw [c82h (x := fr) (y := to) (m := m) (st := st) (hs.fr (by (repeat (first | exact Fr.refl _ | assumption | refine Fr.allocd ?_ _ | refine Fr.kill ?_ (by first | assumption | omega) | refine Fr.put ?_ (by first | omega | (simp only [yz] <;> omega)) _)))) hl (by simp (disch := (first | (simp only [ne_eq,Nat.reduceEqDiff,not_false_eq_true,Nat.reduceLT]; done) | omega | (simp only [yz] <;> omega) | fail)) only [yg,Nat.reduceAdd,Nat.reduceEqDiff,Nat.reduceLT]) (by simp (disch := (first | (simp only [ne_eq,Nat.reduceEqDiff,not_false_eq_true,Nat.reduceLT]; done) | omega | (simp only [yz] <;> omega) | fail)) only [yg,Nat.reduceAdd,Nat.reduceEqDiff,Nat.reduceLT]) (by simp (disch := (first | (simp only [ne_eq,Nat.reduceEqDiff,not_false_eq_true,Nat.reduceLT]; done) | omega | (simp only [yz] <;> omega) | fail)) only [yg,Nat.reduceAdd,Nat.reduceEqDiff,Nat.reduceLT])]
  by_cases h0 : asked C l w ld [fr, to] [st] [m] = 0
  rotate_left
  · have h0' : decide (asked C l w ld [fr, to] [st] [m] = 0) = false := by simpa using h0
    simp (disch := (first | (simp only [ne_eq,Nat.reduceEqDiff,not_false_eq_true,Nat.reduceLT]; done) | omega | (simp only [yz] <;> omega) | fail)) only [↓yp,yq0,yq1,yq2,yq3,yq4,yl,ys0,ys1,Nat.reduceAdd,Nat.reduceMul,Nat.reduceSub,Nat.reduceBEq,Nat.reduceEqDiff,Nat.reduceLT,Nat.reduceLeDiff,reduceIte,Int.reduceAdd,Int.reduceSub,Int.reduceMul,Int.reduceLT,Int.reduceLE,Int.reduceEq,Int.reduceToNat,Int.reduceNeg,zed,zee,zfr,zhw,ysu,yrg,ysv,ysw,ysx,h0',lateG]
    simp [h0]
  have h0' : decide (asked C l w ld [fr, to] [st] [m] = 0) = true := by simpa using h0
  have hv : lateG C l w ld fr to m st = lateA C l w ld fr to m st := by
    unfold lateG
    rw [if_neg (by simpa using h0)]
  rw [hv]
  clear hv
  obtain ⟨hc, hw, hd, hcs, hss, hms⟩ := asked_ok h0
  have g := good_of hc hd
  have hC := g.hC
  have hfr := hcs fr (by simp)
  have hto := hcs to (by simp)
  have hm := hms m (by simp)
  have hst := hss st (by simp)
  obtain ⟨i, rfl⟩ : ∃ i : Nat, st = i := ⟨st.toNat, by omega⟩
  have hi : i < l.length := by omega
  have hc' := chk_erase (i := i) hc
  have g' := good_of hc' hd
  have e8 := earT_ok (w := w) g (fr := fr) (a₀ := m) (by omega) hm
  have hat := tv_at e8.1 (x := to) (by omega)
  have e8' := earT_ok (w := w) g' (fr := fr) (a₀ := m) (by omega) hm
  have hat' := tv_at e8'.1 (x := to) (by omega)
  have hok := e8.2 to
  have hok' := e8'.2 to
  unfold okM at hok hok'
  have h88 := fun (l' : List Str) (a : Option Addr) (cap N : Nat) (H' : AHeap) (g : Good C l' ld) (hs : Sl H' a l') (hl : l'.length ≤ 18) => c88 (N := N) (C := C) (w := w) (cap := cap) (fr := fr) (a₀ := m) g hs hl (by omega) hm
  simp only [jobG] at h88
  simp (disch := (first | (simp only [ne_eq,Nat.reduceEqDiff,not_false_eq_true,Nat.reduceLT]; done) | omega | (simp only [yz] <;> omega) | fail)) only [↓yp,yq0,yq1,yq2,yq3,yq4,yl,ys0,ys1,Nat.reduceAdd,Nat.reduceMul,Nat.reduceSub,Nat.reduceBEq,Nat.reduceEqDiff,Nat.reduceLT,Nat.reduceLeDiff,reduceIte,Int.reduceAdd,Int.reduceSub,Int.reduceMul,Int.reduceLT,Int.reduceLE,Int.reduceEq,Int.reduceToNat,Int.reduceNeg,zed,zee,zfr,zhw,ysu,yrg,ysv,ysw,ysx,h0']
  refine c83q (hs.fr (by (repeat (first | exact Fr.refl _ | assumption | refine Fr.allocd ?_ _ | refine Fr.kill ?_ (by first | assumption | omega) | refine Fr.put ?_ (by first | omega | (simp only [yz] <;> omega)) _)))).none_len (by (first | omega | (simp only [yz] <;> omega))) (by omega) ?_
  intro b3 H3 fr3
  have f3 := fr3.size
  have s3 := fr3.same
  simp only [zde] at f3
  have fH : Fr H H3 := Fr.trans (by (repeat (first | exact Fr.refl _ | assumption | refine Fr.allocd ?_ _ | refine Fr.kill ?_ (by first | assumption | omega) | refine Fr.put ?_ (by first | omega | (simp only [yz] <;> omega)) _))) fr3
  simp (disch := (first | (simp only [ne_eq,Nat.reduceEqDiff,not_false_eq_true,Nat.reduceLT]; done) | omega | (simp only [yz] <;> omega) | fail)) only [↓yp,yq0,yq1,yq2,yq3,yq4,yl,ys0,ys1,Nat.reduceAdd,Nat.reduceMul,Nat.reduceSub,Nat.reduceBEq,Nat.reduceEqDiff,Nat.reduceLT,Nat.reduceLeDiff,reduceIte,Int.reduceAdd,Int.reduceSub,Int.reduceMul,Int.reduceLT,Int.reduceLE,Int.reduceEq,Int.reduceToNat,Int.reduceNeg,zed,zee,zfr,zhw,ysu,yrg,ysv,ysw,ysx,jobV]
  rw [h88 _ _ _ _ _ g (hs.fr fH) hl]
  simp (disch := (first | (simp only [ne_eq,Nat.reduceEqDiff,not_false_eq_true,Nat.reduceLT]; done) | omega | (simp only [yz] <;> omega) | fail)) only [↓yp,yq0,yq1,yq2,yq3,yq4,yl,ys0,ys1,Nat.reduceAdd,Nat.reduceMul,Nat.reduceSub,Nat.reduceBEq,Nat.reduceEqDiff,Nat.reduceLT,Nat.reduceLeDiff,reduceIte,Int.reduceAdd,Int.reduceSub,Int.reduceMul,Int.reduceLT,Int.reduceLE,Int.reduceEq,Int.reduceToNat,Int.reduceNeg,zed,zee,zfr,zhw,ysu,yrg,ysv,ysw,ysx]
  refine A_index_of (k := .i64) (i := to) (cs := tv (earT C l w ld fr m)) (v := .int .i64 (tg (earT C l w ld fr m) to)) st_ixV_130 (by simp (disch := (first | (simp only [ne_eq,Nat.reduceEqDiff,not_false_eq_true,Nat.reduceLT]; done) | omega | (simp only [yz] <;> omega) | fail)) only [↓yp,yq0,yq1,yq2,yq3,yq4,yl,ys0,ys1,Nat.reduceAdd,Nat.reduceMul,Nat.reduceSub,Nat.reduceBEq,Nat.reduceEqDiff,Nat.reduceLT,Nat.reduceLeDiff,reduceIte,Int.reduceAdd,Int.reduceSub,Int.reduceMul,Int.reduceLT,Int.reduceLE,Int.reduceEq,Int.reduceToNat,Int.reduceNeg,zed,zee,zfr,zhw,ysu,yrg,ysv,ysw,ysx]) (by simp (disch := (first | (simp only [ne_eq,Nat.reduceEqDiff,not_false_eq_true,Nat.reduceLT]; done) | omega | (simp only [yz] <;> omega) | fail)) only [↓yp,yq0,yq1,yq2,yq3,yq4,yl,ys0,ys1,Nat.reduceAdd,Nat.reduceMul,Nat.reduceSub,Nat.reduceBEq,Nat.reduceEqDiff,Nat.reduceLT,Nat.reduceLeDiff,reduceIte,Int.reduceAdd,Int.reduceSub,Int.reduceMul,Int.reduceLT,Int.reduceLE,Int.reduceEq,Int.reduceToNat,Int.reduceNeg,zed,zee,zfr,zhw,ysu,yrg,ysv,ysw,ysx]) ⟨by omega, by omega⟩ (by rw [zdj, Nat.mul_one]; exact hat) (by omega) ?_
  simp (disch := (first | (simp only [ne_eq,Nat.reduceEqDiff,not_false_eq_true,Nat.reduceLT]; done) | omega | (simp only [yz] <;> omega) | fail)) only [↓yp,yq0,yq1,yq2,yq3,yq4,yl,ys0,ys1,Nat.reduceAdd,Nat.reduceMul,Nat.reduceSub,Nat.reduceBEq,Nat.reduceEqDiff,Nat.reduceLT,Nat.reduceLeDiff,reduceIte,Int.reduceAdd,Int.reduceSub,Int.reduceMul,Int.reduceLT,Int.reduceLE,Int.reduceEq,Int.reduceToNat,Int.reduceNeg,zed,zee,zfr,zhw,ysu,yrg,ysv,ysw,ysx]
  refine ⟨fun hA => ?_, fun hA => ?_⟩
  · have hA' := of_decide_eq_true hA
    simp (disch := (first | (simp only [ne_eq,Nat.reduceEqDiff,not_false_eq_true,Nat.reduceLT]; done) | omega | (simp only [yz] <;> omega) | fail)) only [↓yp,yq0,yq1,yq2,yq3,yq4,yl,ys0,ys1,Nat.reduceAdd,Nat.reduceMul,Nat.reduceSub,Nat.reduceBEq,Nat.reduceEqDiff,Nat.reduceLT,Nat.reduceLeDiff,reduceIte,Int.reduceAdd,Int.reduceSub,Int.reduceMul,Int.reduceLT,Int.reduceLE,Int.reduceEq,Int.reduceToNat,Int.reduceNeg,zed,zee,zfr,zhw,ysu,yrg,ysv,ysw,ysx,lateA,hA',if_true]
  have hA' := of_decide_eq_false hA
  simp (disch := (first | (simp only [ne_eq,Nat.reduceEqDiff,not_false_eq_true,Nat.reduceLT]; done) | omega | (simp only [yz] <;> omega) | fail)) only [↓yp,yq0,yq1,yq2,yq3,yq4,yl,ys0,ys1,Nat.reduceAdd,Nat.reduceMul,Nat.reduceSub,Nat.reduceBEq,Nat.reduceEqDiff,Nat.reduceLT,Nat.reduceLeDiff,reduceIte,Int.reduceAdd,Int.reduceSub,Int.reduceMul,Int.reduceLT,Int.reduceLE,Int.reduceEq,Int.reduceToNat,Int.reduceNeg,zed,zee,zfr,zhw,ysu,yrg,ysv,ysw,ysx]
  refine W_drawR (pl := []) [2, 4] [(7, 0), (7, 1), (9, 0), (9, 1)] (planB_of rfl (by decide) (by decide) rfl) (by kernel_rfl) (by kernel_rfl) (by kernel_rfl) (by (first | omega | (simp only [yz] <;> omega))) ?_
  simp (disch := (first | (simp only [ne_eq,Nat.reduceEqDiff,not_false_eq_true,Nat.reduceLT]; done) | omega | (simp only [yz] <;> omega) | fail)) only [↓yp,yq0,yq1,yq2,yq3,yq4,yl,ys0,ys1,Nat.reduceAdd,Nat.reduceMul,Nat.reduceSub,Nat.reduceBEq,Nat.reduceEqDiff,Nat.reduceLT,Nat.reduceLeDiff,reduceIte,Int.reduceAdd,Int.reduceSub,Int.reduceMul,Int.reduceLT,Int.reduceLE,Int.reduceEq,Int.reduceToNat,Int.reduceNeg,zed,zee,zfr,zhw,ysu,yrg,ysv,ysw,ysx,s3]
  refine c95 (hs.fr fH) hl hi (by (first | omega | (simp only [yz] <;> omega))) (by omega) ?_
  intro k H4 f4 k1 k2 sl4
  have n4 := f4.size
  have s4 := f4.same
  simp (disch := (first | (simp only [ne_eq,Nat.reduceEqDiff,not_false_eq_true,Nat.reduceLT]; done) | omega | (simp only [yz] <;> omega) | fail)) only [↓yp,yq0,yq1,yq2,yq3,yq4,yl,ys0,ys1,Nat.reduceAdd,Nat.reduceMul,Nat.reduceSub,Nat.reduceBEq,Nat.reduceEqDiff,Nat.reduceLT,Nat.reduceLeDiff,reduceIte,Int.reduceAdd,Int.reduceSub,Int.reduceMul,Int.reduceLT,Int.reduceLE,Int.reduceEq,Int.reduceToNat,Int.reduceNeg,zed,zee,zfr,zhw,ysu,yrg,ysv,ysw,ysx,s3,s4,c83s,jobV]
  rw [h88 _ _ _ _ _ g' (sl4.fr (by (repeat (first | exact Fr.refl _ | assumption | refine Fr.allocd ?_ _ | refine Fr.kill ?_ (by first | assumption | omega) | refine Fr.put ?_ (by first | omega | (simp only [yz] <;> omega)) _)))) (by have := List.length_eraseIdx_le l i; omega)]
  simp (disch := (first | (simp only [ne_eq,Nat.reduceEqDiff,not_false_eq_true,Nat.reduceLT]; done) | omega | (simp only [yz] <;> omega) | fail)) only [↓yp,yq0,yq1,yq2,yq3,yq4,yl,ys0,ys1,Nat.reduceAdd,Nat.reduceMul,Nat.reduceSub,Nat.reduceBEq,Nat.reduceEqDiff,Nat.reduceLT,Nat.reduceLeDiff,reduceIte,Int.reduceAdd,Int.reduceSub,Int.reduceMul,Int.reduceLT,Int.reduceLE,Int.reduceEq,Int.reduceToNat,Int.reduceNeg,zed,zee,zfr,zhw,ysu,yrg,ysv,ysw,ysx]
  refine A_index_of (k := .i64) (i := to) (cs := tv (earT C (l.eraseIdx i) w ld fr m)) (v := .int .i64 (tg (earT C (l.eraseIdx i) w ld fr m) to)) st_ixV_130 (by simp (disch := (first | (simp only [ne_eq,Nat.reduceEqDiff,not_false_eq_true,Nat.reduceLT]; done) | omega | (simp only [yz] <;> omega) | fail)) only [↓yp,yq0,yq1,yq2,yq3,yq4,yl,ys0,ys1,Nat.reduceAdd,Nat.reduceMul,Nat.reduceSub,Nat.reduceBEq,Nat.reduceEqDiff,Nat.reduceLT,Nat.reduceLeDiff,reduceIte,Int.reduceAdd,Int.reduceSub,Int.reduceMul,Int.reduceLT,Int.reduceLE,Int.reduceEq,Int.reduceToNat,Int.reduceNeg,zed,zee,zfr,zhw,ysu,yrg,ysv,ysw,ysx]) (by simp (disch := (first | (simp only [ne_eq,Nat.reduceEqDiff,not_false_eq_true,Nat.reduceLT]; done) | omega | (simp only [yz] <;> omega) | fail)) only [↓yp,yq0,yq1,yq2,yq3,yq4,yl,ys0,ys1,Nat.reduceAdd,Nat.reduceMul,Nat.reduceSub,Nat.reduceBEq,Nat.reduceEqDiff,Nat.reduceLT,Nat.reduceLeDiff,reduceIte,Int.reduceAdd,Int.reduceSub,Int.reduceMul,Int.reduceLT,Int.reduceLE,Int.reduceEq,Int.reduceToNat,Int.reduceNeg,zed,zee,zfr,zhw,ysu,yrg,ysv,ysw,ysx]) ⟨by omega, by omega⟩ (by rw [zdj, Nat.mul_one]; exact hat') (by (first | omega | (simp only [yz] <;> omega))) ?_
  simp (disch := (first | (simp only [ne_eq,Nat.reduceEqDiff,not_false_eq_true,Nat.reduceLT]; done) | omega | (simp only [yz] <;> omega) | fail)) only [↓yp,yq0,yq1,yq2,yq3,yq4,yl,ys0,ys1,Nat.reduceAdd,Nat.reduceMul,Nat.reduceSub,Nat.reduceBEq,Nat.reduceEqDiff,Nat.reduceLT,Nat.reduceLeDiff,reduceIte,Int.reduceAdd,Int.reduceSub,Int.reduceMul,Int.reduceLT,Int.reduceLE,Int.reduceEq,Int.reduceToNat,Int.reduceNeg,zed,zee,zfr,zhw,ysu,yrg,ysv,ysw,ysx,s3,s4]
  rw [h88 _ _ _ _ _ g' (sl4.fr (by (repeat (first | exact Fr.refl _ | assumption | refine Fr.allocd ?_ _ | refine Fr.kill ?_ (by first | assumption | omega) | refine Fr.put ?_ (by first | omega | (simp only [yz] <;> omega)) _)))) (by have := List.length_eraseIdx_le l i; omega)]
  simp (disch := (first | (simp only [ne_eq,Nat.reduceEqDiff,not_false_eq_true,Nat.reduceLT]; done) | omega | (simp only [yz] <;> omega) | fail)) only [↓yp,yq0,yq1,yq2,yq3,yq4,yl,ys0,ys1,Nat.reduceAdd,Nat.reduceMul,Nat.reduceSub,Nat.reduceBEq,Nat.reduceEqDiff,Nat.reduceLT,Nat.reduceLeDiff,reduceIte,Int.reduceAdd,Int.reduceSub,Int.reduceMul,Int.reduceLT,Int.reduceLE,Int.reduceEq,Int.reduceToNat,Int.reduceNeg,zed,zee,zfr,zhw,ysu,yrg,ysv,ysw,ysx]
  refine ⟨A_index_of (k := .i64) (i := to) (cs := tv (earT C (l.eraseIdx i) w ld fr m)) (v := .int .i64 (tg (earT C (l.eraseIdx i) w ld fr m) to)) st_ixV_130 (by simp (disch := (first | (simp only [ne_eq,Nat.reduceEqDiff,not_false_eq_true,Nat.reduceLT]; done) | omega | (simp only [yz] <;> omega) | fail)) only [↓yp,yq0,yq1,yq2,yq3,yq4,yl,ys0,ys1,Nat.reduceAdd,Nat.reduceMul,Nat.reduceSub,Nat.reduceBEq,Nat.reduceEqDiff,Nat.reduceLT,Nat.reduceLeDiff,reduceIte,Int.reduceAdd,Int.reduceSub,Int.reduceMul,Int.reduceLT,Int.reduceLE,Int.reduceEq,Int.reduceToNat,Int.reduceNeg,zed,zee,zfr,zhw,ysu,yrg,ysv,ysw,ysx]) (by simp (disch := (first | (simp only [ne_eq,Nat.reduceEqDiff,not_false_eq_true,Nat.reduceLT]; done) | omega | (simp only [yz] <;> omega) | fail)) only [↓yp,yq0,yq1,yq2,yq3,yq4,yl,ys0,ys1,Nat.reduceAdd,Nat.reduceMul,Nat.reduceSub,Nat.reduceBEq,Nat.reduceEqDiff,Nat.reduceLT,Nat.reduceLeDiff,reduceIte,Int.reduceAdd,Int.reduceSub,Int.reduceMul,Int.reduceLT,Int.reduceLE,Int.reduceEq,Int.reduceToNat,Int.reduceNeg,zed,zee,zfr,zhw,ysu,yrg,ysv,ysw,ysx]) ⟨by omega, by omega⟩ (by rw [zdj, Nat.mul_one]; exact hat') (by omega) ?_, ?_⟩
  · exact ⟨rfl, rfl⟩
  · have hw3 : w64 (tg (earT C (l.eraseIdx i) w ld fr m) to - tg (earT C l w ld fr m) to) = tg (earT C (l.eraseIdx i) w ld fr m) to - tg (earT C l w ld fr m) to := w64_of (by omega)
    have hla : lateA C l w ld fr to m i = if tg (earT C (l.eraseIdx i) w ld fr m) to = -1 then (0, 9) else (tg (earT C (l.eraseIdx i) w ld fr m) to - tg (earT C l w ld fr m) to, 0) := by
      unfold lateA
      rw [Int.toNat_natCast, if_neg hA']
    rw [hla]
    refine ⟨fun hB => ?_, fun hB => ?_⟩
    · rw [if_pos (of_decide_eq_true hB)]
      simp (disch := (first | (simp only [ne_eq,Nat.reduceEqDiff,not_false_eq_true,Nat.reduceLT]; done) | omega | (simp only [yz] <;> omega) | fail)) only [↓yp,yq0,yq1,yq2,yq3,yq4,yl,ys0,ys1,Nat.reduceAdd,Nat.reduceMul,Nat.reduceSub,Nat.reduceBEq,Nat.reduceEqDiff,Nat.reduceLT,Nat.reduceLeDiff,reduceIte,Int.reduceAdd,Int.reduceSub,Int.reduceMul,Int.reduceLT,Int.reduceLE,Int.reduceEq,Int.reduceToNat,Int.reduceNeg,zed,zee,zfr,zhw,ysu,yrg,ysv,ysw,ysx]
    · rw [if_neg (of_decide_eq_false hB)]
      simp (disch := (first | (simp only [ne_eq,Nat.reduceEqDiff,not_false_eq_true,Nat.reduceLT]; done) | omega | (simp only [yz] <;> omega) | fail)) only [↓yp,yq0,yq1,yq2,yq3,yq4,yl,ys0,ys1,Nat.reduceAdd,Nat.reduceMul,Nat.reduceSub,Nat.reduceBEq,Nat.reduceEqDiff,Nat.reduceLT,Nat.reduceLeDiff,reduceIte,Int.reduceAdd,Int.reduceSub,Int.reduceMul,Int.reduceLT,Int.reduceLE,Int.reduceEq,Int.reduceToNat,Int.reduceNeg,zed,zee,zfr,zhw,ysu,yrg,ysv,ysw,ysx,hw3]
end
end Go.Am
