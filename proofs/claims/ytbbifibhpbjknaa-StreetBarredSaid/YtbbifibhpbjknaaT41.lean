/- What the tables say of more types and functions. -/
import Derived.Test.YtbbifibhpbjknaaT35
import Derived.Test.YtbbifibhpbjknaaT28
import Derived.Test.YtbbifibhpbjknaaT40
set_option linter.unusedSimpArgs false
set_option linter.unusedVariables false
set_option linter.defProp false
namespace Go.Am
open Go.Proofs
theorem st_alS_163 : alS tabA 163 = some [(.map none)] := by kernel_rfl
theorem st_alS_166 : alS tabA 166 = some [(.int IntKind.i64 0), (.int IntKind.u64 0)] := by kernel_rfl
theorem st_alS_168 : alS tabA 168 = some [(.int IntKind.i64 0), (.int IntKind.i64 0), (.bool false), (.int IntKind.i64 0), (.int IntKind.u64 0)] := by kernel_rfl
theorem st_alS_178 : alS tabA 178 = some [(.slice none 0 0), (.slice none 0 0), (.slice none 0 0), (.slice none 0 0), (.slice none 0 0), (.slice none 0 0), (.slice none 0 0), (.slice none 0 0), (.slice none 0 0), (.slice none 0 0), (.slice none 0 0), (.slice none 0 0), (.slice none 0 0), (.slice none 0 0), (.slice none 0 0), (.slice none 0 0), (.slice none 0 0), (.slice none 0 0), (.slice none 0 0), (.slice none 0 0), (.slice none 0 0), (.slice none 0 0), (.slice none 0 0), (.slice none 0 0), (.slice none 0 0), (.slice none 0 0), (.slice none 0 0), (.slice none 0 0), (.slice none 0 0), (.slice none 0 0), (.slice none 0 0), (.slice none 0 0), (.slice none 0 0), (.slice none 0 0), (.slice none 0 0), (.slice none 0 0), (.slice none 0 0), (.slice none 0 0), (.slice none 0 0), (.slice none 0 0), (.slice none 0 0), (.slice none 0 0), (.slice none 0 0), (.slice none 0 0), (.slice none 0 0), (.slice none 0 0), (.slice none 0 0), (.slice none 0 0), (.slice none 0 0), (.slice none 0 0), (.slice none 0 0), (.slice none 0 0), (.slice none 0 0), (.slice none 0 0), (.slice none 0 0), (.slice none 0 0), (.slice none 0 0), (.slice none 0 0), (.slice none 0 0), (.slice none 0 0), (.slice none 0 0), (.slice none 0 0), (.slice none 0 0), (.slice none 0 0), (.slice none 0 0), (.slice none 0 0), (.slice none 0 0), (.slice none 0 0), (.slice none 0 0), (.slice none 0 0), (.slice none 0 0), (.slice none 0 0), (.slice none 0 0), (.slice none 0 0), (.slice none 0 0), (.slice none 0 0), (.slice none 0 0), (.slice none 0 0), (.slice none 0 0), (.slice none 0 0), (.slice none 0 0), (.slice none 0 0), (.slice none 0 0), (.slice none 0 0), (.slice none 0 0), (.slice none 0 0), (.slice none 0 0), (.slice none 0 0), (.slice none 0 0), (.slice none 0 0), (.slice none 0 0), (.slice none 0 0), (.slice none 0 0), (.slice none 0 0), (.slice none 0 0), (.slice none 0 0), (.slice none 0 0), (.slice none 0 0), (.slice none 0 0), (.slice none 0 0), (.slice none 0 0), (.slice none 0 0), (.slice none 0 0), (.slice none 0 0), (.slice none 0 0), (.slice none 0 0), (.slice none 0 0), (.slice none 0 0), (.slice none 0 0), (.slice none 0 0), (.slice none 0 0), (.slice none 0 0), (.slice none 0 0), (.slice none 0 0), (.slice none 0 0), (.slice none 0 0), (.slice none 0 0), (.slice none 0 0), (.slice none 0 0), (.slice none 0 0), (.slice none 0 0), (.slice none 0 0), (.slice none 0 0), (.slice none 0 0), (.slice none 0 0), (.slice none 0 0), (.slice none 0 0), (.slice none 0 0), (.slice none 0 0), (.slice none 0 0), (.slice none 0 0), (.slice none 0 0), (.slice none 0 0), (.slice none 0 0), (.slice none 0 0), (.slice none 0 0), (.slice none 0 0), (.slice none 0 0), (.slice none 0 0), (.slice none 0 0), (.slice none 0 0), (.slice none 0 0), (.slice none 0 0), (.slice none 0 0), (.slice none 0 0), (.slice none 0 0), (.slice none 0 0), (.slice none 0 0), (.slice none 0 0), (.slice none 0 0), (.slice none 0 0), (.slice none 0 0), (.slice none 0 0), (.slice none 0 0), (.slice none 0 0), (.slice none 0 0), (.slice none 0 0), (.slice none 0 0), (.slice none 0 0), (.slice none 0 0), (.slice none 0 0), (.slice none 0 0), (.slice none 0 0), (.slice none 0 0), (.slice none 0 0), (.slice none 0 0), (.slice none 0 0), (.slice none 0 0), (.slice none 0 0), (.slice none 0 0), (.slice none 0 0), (.slice none 0 0), (.slice none 0 0), (.slice none 0 0), (.slice none 0 0), (.slice none 0 0), (.slice none 0 0), (.slice none 0 0), (.slice none 0 0), (.slice none 0 0), (.slice none 0 0), (.slice none 0 0), (.slice none 0 0), (.slice none 0 0), (.slice none 0 0), (.slice none 0 0), (.slice none 0 0), (.slice none 0 0), (.slice none 0 0), (.slice none 0 0), (.slice none 0 0), (.slice none 0 0), (.slice none 0 0), (.slice none 0 0), (.slice none 0 0), (.slice none 0 0), (.slice none 0 0), (.slice none 0 0), (.slice none 0 0), (.slice none 0 0), (.slice none 0 0), (.slice none 0 0), (.slice none 0 0), (.slice none 0 0), (.slice none 0 0), (.slice none 0 0), (.slice none 0 0), (.slice none 0 0), (.slice none 0 0), (.slice none 0 0), (.slice none 0 0), (.slice none 0 0), (.slice none 0 0), (.slice none 0 0), (.slice none 0 0), (.slice none 0 0), (.slice none 0 0), (.slice none 0 0), (.slice none 0 0), (.slice none 0 0), (.slice none 0 0), (.slice none 0 0), (.slice none 0 0), (.slice none 0 0), (.slice none 0 0), (.slice none 0 0), (.slice none 0 0), (.slice none 0 0), (.slice none 0 0), (.slice none 0 0), (.slice none 0 0), (.slice none 0 0), (.slice none 0 0), (.slice none 0 0), (.slice none 0 0), (.slice none 0 0), (.slice none 0 0), (.slice none 0 0), (.slice none 0 0), (.slice none 0 0), (.slice none 0 0)] := by kernel_rfl
theorem st_alS_180 : alS tabA 180 = some [.nilFunc] := by kernel_rfl
theorem st_alS_3 : alS tabA 3 = some [(.int IntKind.i64 0)] := by kernel_rfl
theorem st_apS_101 : apS tabA 101 = some (105, 1, 8) := by kernel_rfl
theorem st_apS_177 : apS tabA 177 = some (166, 2, 16) := by kernel_rfl
theorem st_apS_32 : apS tabA 32 = some (46, 9, 72) := by kernel_rfl
theorem st_arS_178 : arS tabA 178 = some (241, 1) := by kernel_rfl
theorem st_bdS_166 : bdS tabA 166 = some ([(.int IntKind.i64 0), (.int IntKind.u64 0)], [(0, 1), (1, 1)]) := by kernel_rfl
theorem st_bdS_168 : bdS tabA 168 = some ([(.int IntKind.i64 0), (.int IntKind.i64 0), (.bool false), (.int IntKind.i64 0), (.int IntKind.u64 0)], [(0, 1), (1, 2), (3, 2)]) := by kernel_rfl
theorem st_brS_101_1 : brS tabA 101 1 = some (1, 105, [(.int IntKind.i64 0)]) := by kernel_rfl
theorem st_brS_177_1 : brS tabA 177 1 = some (2, 166, [(.int IntKind.i64 0), (.int IntKind.u64 0)]) := by kernel_rfl
theorem st_esS_101 : esS tabA 101 = some 1 := by kernel_rfl
theorem st_esS_177 : esS tabA 177 = some 2 := by kernel_rfl
theorem st_faS_166_0 : faS tabA 166 0 = some 0 := by kernel_rfl
theorem st_faS_166_1 : faS tabA 166 1 = some 1 := by kernel_rfl
theorem st_faS_168_0 : faS tabA 168 0 = some 0 := by kernel_rfl
theorem st_faS_168_1 : faS tabA 168 1 = some 1 := by kernel_rfl
theorem st_faS_168_2 : faS tabA 168 2 = some 3 := by kernel_rfl
theorem st_inS_105 : inS tabA 105 = some 1 := by kernel_rfl
theorem st_inS_163 : inS tabA 163 = some 1 := by kernel_rfl
theorem st_inS_166 : inS tabA 166 = some 2 := by kernel_rfl
theorem st_inS_168 : inS tabA 168 = some 5 := by kernel_rfl
theorem st_inS_177 : inS tabA 177 = some 1 := by kernel_rfl
theorem st_inS_180 : inS tabA 180 = some 1 := by kernel_rfl
theorem st_ldS_142 : ldS tabA 142 = some 0 := by kernel_rfl
theorem st_ldS_163 : ldS tabA 163 = some 0 := by kernel_rfl
theorem st_ldS_166 : ldS tabA 166 = some 3 := by kernel_rfl
theorem st_ldS_177 : ldS tabA 177 = some 0 := by kernel_rfl
theorem st_ldS_180 : ldS tabA 180 = some 0 := by kernel_rfl
theorem fn_12 : tabA.fn 12 = some Try.f12 := by kernel_rfl
theorem fn_62 : tabA.fn 62 = some Try.f62 := by kernel_rfl
def ysx := (And.intro (And.intro (And.intro (And.intro (And.intro @st_alS_163 @st_alS_166) (And.intro @st_alS_168 @st_alS_178)) (And.intro (And.intro @st_alS_180 @st_alS_3) (And.intro @st_apS_101 @st_apS_177))) (And.intro (And.intro (And.intro @st_apS_32 @st_arS_178) (And.intro @st_bdS_166 @st_bdS_168)) (And.intro (And.intro @st_brS_101_1 @st_brS_177_1) (And.intro @st_esS_101 @st_esS_177)))) (And.intro (And.intro (And.intro (And.intro @st_faS_166_0 @st_faS_166_1) (And.intro @st_faS_168_0 @st_faS_168_1)) (And.intro (And.intro @st_faS_168_2 @st_inS_105) (And.intro @st_inS_163 @st_inS_166))) (And.intro (And.intro (And.intro @st_inS_168 @st_inS_177) (And.intro @st_inS_180 @st_ldS_142)) (And.intro (And.intro @st_ldS_163 @st_ldS_166) (And.intro @st_ldS_177 @st_ldS_180)))))
end Go.Am
/- Towns and carts that are worse: nothing is sooner there. -/
namespace Go.Am
open Go.Proofs
section
variable {l l' : List Str} {C w w' ld ld' fr a₀ a₁ : Int}
/-- The second street is no better than the first one. -/
structure WorseS (t s : Str) : Prop where
  fr : s.fr = t.fr
  to : s.to = t.to
  mi : s.mi = t.mi
  up : s.up = t.up
  wi : s.wi ≤ t.wi
  be : s.be ≤ t.be
  bk : s.bk = true → t.bk = true
  shut : t.hi < t.lo ∨ (s.lo ≤ t.lo ∧ t.hi ≤ s.hi ∧ s.lo ≤ s.hi)
theorem WorseS.refl (s : Str) : WorseS s s := ⟨rfl, rfl, rfl, rfl, Int.le_refl _, Int.le_refl _, id, by omega⟩
theorem OkS_iff {s : Str} : OkS C s ↔ (0 ≤ s.fr ∧ s.fr ≤ C - 1) ∧ (0 ≤ s.to ∧ s.to ≤ C - 1) ∧ s.fr ≠ s.to ∧ (1 ≤ s.mi ∧ s.mi ≤ 30) ∧ (0 ≤ s.up ∧ s.up ≤ 3) ∧ (1 ≤ s.wi ∧ s.wi ≤ 9) ∧ (0 ≤ s.be ∧ s.be ≤ 9) ∧ (0 ≤ s.lo ∧ s.lo ≤ 239) ∧ (0 ≤ s.hi ∧ s.hi ≤ 239) := by
  unfold OkS bad1 bad2
  simp only [Bool.or_eq_false_iff,off_iff,decide_eq_false_iff_not]
  constructor
  · rintro ⟨⟨h1, h2, h3⟩, h4, h5, h6, h7, h8, h9⟩; exact ⟨h1, h2, h3, h4, h5, h6, h7, h8, h9⟩
  · rintro ⟨h1, h2, h3, h4, h5, h6, h7, h8, h9⟩; exact ⟨⟨h1, h2, h3⟩, h4, h5, h6, h7, h8, h9⟩
end
end Go.Am
/- A law that is lifted: the cart drives as in the town in which it is lifted. -/
namespace Go.Am
open Go.Proofs
variable {T : Tab} {P : Program} {N L : Nat} {H : AHeap} {Q : Bool → Value → AHeap → Prop}
/-- A street without a law. -/
def lift (lf : Int) (s : Str) : Str := if lf = 0 then { s with bk := true } else if lf = 1 then { s with wi := 9 } else if lf = 2 then { s with be := 9 } else if lf = 3 then { s with lo := 1, hi := 0 } else s
section
variable {a : Option Addr} {cap i : Nat} {l : List Str} {C w ld m lf : Int} {b : Bool} {s : Str}
theorem law_cases (h : 0 ≤ lf ∧ lf ≤ 3) : lf = 0 ∨ lf = 1 ∨ lf = 2 ∨ lf = 3 := by omega
theorem lift_near (s : Str) (b : Bool) : nearL (lift lf s) b = nearL s b := by
  unfold lift
  repeat' split
  all_goals rfl
theorem lift_far (s : Str) (b : Bool) : farL (lift lf s) b = farL s b := by
  unfold lift
  repeat' split
  all_goals rfl
theorem lift_takes (s : Str) (b : Bool) : takes (lift lf s) b ld = takes s b ld := by
  unfold lift
  repeat' split
  all_goals rfl
theorem lift_ok (h : OkS C s) : OkS C (lift lf s) := by
  have h' := OkS_iff.1 h
  obtain ⟨h1, h2, h3, h4, h5, h6, h7, h8, h9⟩ := h'
  unfold lift
  repeat' split
  · exact OkS_iff.2 ⟨h1, h2, h3, h4, h5, h6, h7, h8, h9⟩
  · exact OkS_iff.2 ⟨h1, h2, h3, h4, h5, by simp, h7, h8, h9⟩
  · exact OkS_iff.2 ⟨h1, h2, h3, h4, h5, h6, by simp, h8, h9⟩
  · exact OkS_iff.2 ⟨h1, h2, h3, h4, h5, h6, h7, by simp, by simp⟩
  · exact h
theorem lift_okl (h : ∀ s ∈ l, OkS C s) : ∀ s ∈ l.map (lift lf), OkS C s := fun s hs => by
  obtain ⟨t, ht, rfl⟩ := List.mem_map.1 hs
  exact lift_ok (h t ht)
theorem goodL (hC : 1 ≤ C ∧ C ≤ 8) (hl : l.length ≤ 16) (ho : ∀ s ∈ l, OkS C s) (hd : 0 ≤ ld ∧ ld ≤ 9) : Good C (l.map (lift lf)) ld :=
  good_of (chk_of hC (by rw [List.length_map]; exact hl) (lift_okl ho)) (off_iff.2 hd)
theorem c94L (hs : Sl H a l) (hi : l[i]? = some s) :
    acall tabA (aexec tabA Try.prog (N + 40)) 94 [jobG C a l.length cap w ld lf, legV i b] H = some (true, .tuple ⟨[.int .i64 (nearL s b), .int .i64 (farL s b)]⟩, H, H.size) := by
  refine call_quiet (k := 24) (rs := [.tmp 4, .tmp 5]) rfl fn_94 rfl rfl rfl ?_ rfl
  have hlt := (List.getElem?_eq_some_iff.1 hi).1
  obtain ⟨b', o, c, rfl, hb, hc, hp⟩ := hs.get (fun h => by subst h; simp at hi)
  have hpi := hp i s hi
  cases b
  · simp (disch := (first | (simp only [ne_eq,Nat.reduceEqDiff,not_false_eq_true,Nat.reduceLT]; done) | omega | (simp only [yz] <;> omega) | fail)) only [↓yp,yq0,yq1,yq2,yq3,yq4,yl,ys0,ys1,Nat.reduceAdd,Nat.reduceMul,Nat.reduceSub,Nat.reduceBEq,Nat.reduceEqDiff,Nat.reduceLT,Nat.reduceLeDiff,reduceIte,Int.reduceAdd,Int.reduceSub,Int.reduceMul,Int.reduceLT,Int.reduceLE,Int.reduceEq,Int.reduceToNat,Int.reduceNeg,zed,zee,zfr,zhw,ysu,yrg,ysv,ysw,ysx,jobG,legV,A_indexSlice zio,hc,hpi,Str.enc]
    refine W_draw [] rfl (by kernel_rfl) (by kernel_rfl) (by (first | omega | (simp only [yz] <;> omega))) ?_
    simp (disch := (first | (simp only [ne_eq,Nat.reduceEqDiff,not_false_eq_true,Nat.reduceLT]; done) | omega | (simp only [yz] <;> omega) | fail)) only [↓yp,yq0,yq1,yq2,yq3,yq4,yl,ys0,ys1,Nat.reduceAdd,Nat.reduceMul,Nat.reduceSub,Nat.reduceBEq,Nat.reduceEqDiff,Nat.reduceLT,Nat.reduceLeDiff,reduceIte,Int.reduceAdd,Int.reduceSub,Int.reduceMul,Int.reduceLT,Int.reduceLE,Int.reduceEq,Int.reduceToNat,Int.reduceNeg,zed,zee,zfr,zhw,ysu,yrg,ysv,ysw,ysx,nearL,farL]
  · simp (disch := (first | (simp only [ne_eq,Nat.reduceEqDiff,not_false_eq_true,Nat.reduceLT]; done) | omega | (simp only [yz] <;> omega) | fail)) only [↓yp,yq0,yq1,yq2,yq3,yq4,yl,ys0,ys1,Nat.reduceAdd,Nat.reduceMul,Nat.reduceSub,Nat.reduceBEq,Nat.reduceEqDiff,Nat.reduceLT,Nat.reduceLeDiff,reduceIte,Int.reduceAdd,Int.reduceSub,Int.reduceMul,Int.reduceLT,Int.reduceLE,Int.reduceEq,Int.reduceToNat,Int.reduceNeg,zed,zee,zfr,zhw,ysu,yrg,ysv,ysw,ysx,jobG,legV,A_indexSlice zio,hc,hpi,Str.enc]
    refine W_draw [] rfl (by kernel_rfl) (by kernel_rfl) (by (first | omega | (simp only [yz] <;> omega))) ?_
    simp (disch := (first | (simp only [ne_eq,Nat.reduceEqDiff,not_false_eq_true,Nat.reduceLT]; done) | omega | (simp only [yz] <;> omega) | fail)) only [↓yp,yq0,yq1,yq2,yq3,yq4,yl,ys0,ys1,Nat.reduceAdd,Nat.reduceMul,Nat.reduceSub,Nat.reduceBEq,Nat.reduceEqDiff,Nat.reduceLT,Nat.reduceLeDiff,reduceIte,Int.reduceAdd,Int.reduceSub,Int.reduceMul,Int.reduceLT,Int.reduceLE,Int.reduceEq,Int.reduceToNat,Int.reduceNeg,zed,zee,zfr,zhw,ysu,yrg,ysv,ysw,ysx,nearL,farL]
theorem c128L (hs : Sl H a l) (hi : l[i]? = some s) (h1 : w64 (s.up * ld) = s.up * ld) (h2 : w64 (s.mi + s.up * ld) = s.mi + s.up * ld) :
    acall tabA (aexec tabA Try.prog (N + 40)) 128 [jobG C a l.length cap w ld lf, legV i b] H = some (true, .int .i64 (takes s b ld), H, H.size) := by
  refine call_quiet (k := 26) (rs := [.tmp 4]) rfl fn_128 rfl rfl rfl ?_ rfl
  have hlt := (List.getElem?_eq_some_iff.1 hi).1
  obtain ⟨b', o, c, rfl, hb, hc, hp⟩ := hs.get (fun h => by subst h; simp at hi)
  have hpi := hp i s hi
  simp (disch := (first | (simp only [ne_eq,Nat.reduceEqDiff,not_false_eq_true,Nat.reduceLT]; done) | omega | (simp only [yz] <;> omega) | fail)) only [↓yp,yq0,yq1,yq2,yq3,yq4,yl,ys0,ys1,Nat.reduceAdd,Nat.reduceMul,Nat.reduceSub,Nat.reduceBEq,Nat.reduceEqDiff,Nat.reduceLT,Nat.reduceLeDiff,reduceIte,Int.reduceAdd,Int.reduceSub,Int.reduceMul,Int.reduceLT,Int.reduceLE,Int.reduceEq,Int.reduceToNat,Int.reduceNeg,zed,zee,zfr,zhw,ysu,yrg,ysv,ysw,ysx,jobG,legV,A_indexSlice zio,hc,hpi,Str.enc]
  cases b <;> simp (disch := (first | (simp only [ne_eq,Nat.reduceEqDiff,not_false_eq_true,Nat.reduceLT]; done) | omega | (simp only [yz] <;> omega) | fail)) only [↓yp,yq0,yq1,yq2,yq3,yq4,yl,ys0,ys1,Nat.reduceAdd,Nat.reduceMul,Nat.reduceSub,Nat.reduceBEq,Nat.reduceEqDiff,Nat.reduceLT,Nat.reduceLeDiff,reduceIte,Int.reduceAdd,Int.reduceSub,Int.reduceMul,Int.reduceLT,Int.reduceLE,Int.reduceEq,Int.reduceToNat,Int.reduceNeg,zed,zee,zfr,zhw,ysu,yrg,ysv,ysw,ysx,h1,h2,takes]
set_option maxHeartbeats 1000000 in
theorem c107L (hs : Sl H a l) (hi : l[i]? = some s) (hlf : 0 ≤ lf ∧ lf ≤ 3) (hw9 : w ≤ 9) (hd9 : ld ≤ 9) :
    acall tabA (aexec tabA Try.prog (N + 40)) 107 [jobG C a l.length cap w ld lf, legV i b] H = some (true, .bool (mayL (lift lf s) b w ld), H, H.size) := by
  refine call_quiet (k := 51) (rs := [.tmp 4]) rfl fn_107 rfl rfl rfl ?_ rfl
  have hlt := (List.getElem?_eq_some_iff.1 hi).1
  obtain ⟨b', o, c, rfl, hb, hc, hp⟩ := hs.get (fun h => by subst h; simp at hi)
  have hpi := hp i s hi
  have k1 : decide (w ≤ 9) = true := by simpa using hw9
  have k2 : decide (ld ≤ 9) = true := by simpa using hd9
  rcases law_cases hlf with rfl | rfl | rfl | rfl
  · have hm : mayL (lift 0 s) b w ld = (decide (w ≤ s.wi) && decide (ld ≤ s.be)) := rfl
    rw [hm]
    cases hbk : s.bk <;> cases b <;> cases hw : decide (w ≤ s.wi) <;> cases hd : decide (ld ≤ s.be) <;> simp (disch := (first | (simp only [ne_eq,Nat.reduceEqDiff,not_false_eq_true,Nat.reduceLT]; done) | omega | (simp only [yz] <;> omega) | fail)) only [↓yp,yq0,yq1,yq2,yq3,yq4,yl,ys0,ys1,Nat.reduceAdd,Nat.reduceMul,Nat.reduceSub,Nat.reduceBEq,Nat.reduceEqDiff,Nat.reduceLT,Nat.reduceLeDiff,reduceIte,Int.reduceAdd,Int.reduceSub,Int.reduceMul,Int.reduceLT,Int.reduceLE,Int.reduceEq,Int.reduceToNat,Int.reduceNeg,zed,zee,zfr,zhw,ysu,yrg,ysv,ysw,ysx,jobG,legV,A_indexSlice zio,hc,hpi,Str.enc,hbk,hw,hd]
  · have hm : mayL (lift 1 s) b w ld = ((s.bk || !b) && (decide (w ≤ 9) && decide (ld ≤ s.be))) := rfl
    rw [hm, k1]
    cases hbk : s.bk <;> cases b <;> cases hw : decide (w ≤ s.wi) <;> cases hd : decide (ld ≤ s.be) <;> simp (disch := (first | (simp only [ne_eq,Nat.reduceEqDiff,not_false_eq_true,Nat.reduceLT]; done) | omega | (simp only [yz] <;> omega) | fail)) only [↓yp,yq0,yq1,yq2,yq3,yq4,yl,ys0,ys1,Nat.reduceAdd,Nat.reduceMul,Nat.reduceSub,Nat.reduceBEq,Nat.reduceEqDiff,Nat.reduceLT,Nat.reduceLeDiff,reduceIte,Int.reduceAdd,Int.reduceSub,Int.reduceMul,Int.reduceLT,Int.reduceLE,Int.reduceEq,Int.reduceToNat,Int.reduceNeg,zed,zee,zfr,zhw,ysu,yrg,ysv,ysw,ysx,jobG,legV,A_indexSlice zio,hc,hpi,Str.enc,hbk,hw,hd]
  · have hm : mayL (lift 2 s) b w ld = ((s.bk || !b) && (decide (w ≤ s.wi) && decide (ld ≤ 9))) := rfl
    rw [hm, k2]
    cases hbk : s.bk <;> cases b <;> cases hw : decide (w ≤ s.wi) <;> cases hd : decide (ld ≤ s.be) <;> simp (disch := (first | (simp only [ne_eq,Nat.reduceEqDiff,not_false_eq_true,Nat.reduceLT]; done) | omega | (simp only [yz] <;> omega) | fail)) only [↓yp,yq0,yq1,yq2,yq3,yq4,yl,ys0,ys1,Nat.reduceAdd,Nat.reduceMul,Nat.reduceSub,Nat.reduceBEq,Nat.reduceEqDiff,Nat.reduceLT,Nat.reduceLeDiff,reduceIte,Int.reduceAdd,Int.reduceSub,Int.reduceMul,Int.reduceLT,Int.reduceLE,Int.reduceEq,Int.reduceToNat,Int.reduceNeg,zed,zee,zfr,zhw,ysu,yrg,ysv,ysw,ysx,jobG,legV,A_indexSlice zio,hc,hpi,Str.enc,hbk,hw,hd]
  · have hm : mayL (lift 3 s) b w ld = ((s.bk || !b) && (decide (w ≤ s.wi) && decide (ld ≤ s.be))) := rfl
    rw [hm]
    cases hbk : s.bk <;> cases b <;> cases hw : decide (w ≤ s.wi) <;> cases hd : decide (ld ≤ s.be) <;> simp (disch := (first | (simp only [ne_eq,Nat.reduceEqDiff,not_false_eq_true,Nat.reduceLT]; done) | omega | (simp only [yz] <;> omega) | fail)) only [↓yp,yq0,yq1,yq2,yq3,yq4,yl,ys0,ys1,Nat.reduceAdd,Nat.reduceMul,Nat.reduceSub,Nat.reduceBEq,Nat.reduceEqDiff,Nat.reduceLT,Nat.reduceLeDiff,reduceIte,Int.reduceAdd,Int.reduceSub,Int.reduceMul,Int.reduceLT,Int.reduceLE,Int.reduceEq,Int.reduceToNat,Int.reduceNeg,zed,zee,zfr,zhw,ysu,yrg,ysv,ysw,ysx,jobG,legV,A_indexSlice zio,hc,hpi,Str.enc,hbk,hw,hd]
set_option maxHeartbeats 1000000 in
theorem c127L (hs : Sl H a l) (hi : l[i]? = some s) (hlf : 0 ≤ lf ∧ lf ≤ 3) (h1 : w64 (s.up * ld) = s.up * ld) (h2 : w64 (s.mi + s.up * ld) = s.mi + s.up * ld) (h3 : w64 (m + takes s b ld) = m + takes s b ld) :
    acall tabA (aexec tabA Try.prog (N + 80)) 127 [jobG C a l.length cap w ld lf, legV i b, .int .i64 m] H = some (true, .bool (meetsL (lift lf s) b ld m), H, H.size) := by
  refine call_quiet (k := 40) (rs := [.tmp 6]) rfl fn_127 rfl rfl rfl ?_ rfl
  have hlt := (List.getElem?_eq_some_iff.1 hi).1
  obtain ⟨b', o, c, rfl, hb, hc, hp⟩ := hs.get (fun h => by subst h; simp at hi)
  have hpi := hp i s hi
  have hsp : part c (o + i * 9 + 7) 3 = some (.agg ⟨[.int .i64 s.lo, .int .i64 s.hi]⟩) := part_in 7 2 hpi (by omega)
  have h128 := fun (H' : AHeap) (f : Fr H H') (N : Nat) => c128L (N := N) (C := C) (w := w) (lf := lf) (cap := cap) (b := b) (hs.fr f) hi h1 h2
  simp only [jobG,legV] at h128
  by_cases e : lf = 3
  · subst e
    have hm : meetsL (lift 3 s) b ld m = false := rfl
    rw [hm]
    cases hlh : decide (s.hi < s.lo) <;> simp (disch := (first | (simp only [ne_eq,Nat.reduceEqDiff,not_false_eq_true,Nat.reduceLT]; done) | omega | (simp only [yz] <;> omega) | fail)) only [↓yp,yq0,yq1,yq2,yq3,yq4,yl,ys0,ys1,Nat.reduceAdd,Nat.reduceMul,Nat.reduceSub,Nat.reduceBEq,Nat.reduceEqDiff,Nat.reduceLT,Nat.reduceLeDiff,reduceIte,Int.reduceAdd,Int.reduceSub,Int.reduceMul,Int.reduceLT,Int.reduceLE,Int.reduceEq,Int.reduceToNat,Int.reduceNeg,zed,zee,zfr,zhw,ysu,yrg,ysv,ysw,ysx,jobG,legV,A_indexSlice zio,hc,hsp,hlh]
  have hm : meetsL (lift lf s) b ld m = meetsL s b ld m := by
    rcases law_cases hlf with rfl | rfl | rfl | rfl
    · rfl
    · rfl
    · rfl
    · exact absurd rfl e
  rw [hm]
  have e3 : decide (lf = 3) = false := by simpa using e
  cases hlh : decide (s.hi < s.lo)
  · cases ha : decide (m ≤ s.hi)
    · simp (disch := (first | (simp only [ne_eq,Nat.reduceEqDiff,not_false_eq_true,Nat.reduceLT]; done) | omega | (simp only [yz] <;> omega) | fail)) only [↓yp,yq0,yq1,yq2,yq3,yq4,yl,ys0,ys1,Nat.reduceAdd,Nat.reduceMul,Nat.reduceSub,Nat.reduceBEq,Nat.reduceEqDiff,Nat.reduceLT,Nat.reduceLeDiff,reduceIte,Int.reduceAdd,Int.reduceSub,Int.reduceMul,Int.reduceLT,Int.reduceLE,Int.reduceEq,Int.reduceToNat,Int.reduceNeg,zed,zee,zfr,zhw,ysu,yrg,ysv,ysw,ysx,jobG,legV,A_indexSlice zio,hc,hsp,e3,hlh]
      refine W_draw [] rfl (by kernel_rfl) (by kernel_rfl) (by (first | omega | (simp only [yz] <;> omega))) ?_
      simp (disch := (first | (simp only [ne_eq,Nat.reduceEqDiff,not_false_eq_true,Nat.reduceLT]; done) | omega | (simp only [yz] <;> omega) | fail)) only [↓yp,yq0,yq1,yq2,yq3,yq4,yl,ys0,ys1,Nat.reduceAdd,Nat.reduceMul,Nat.reduceSub,Nat.reduceBEq,Nat.reduceEqDiff,Nat.reduceLT,Nat.reduceLeDiff,reduceIte,Int.reduceAdd,Int.reduceSub,Int.reduceMul,Int.reduceLT,Int.reduceLE,Int.reduceEq,Int.reduceToNat,Int.reduceNeg,zed,zee,zfr,zhw,ysu,yrg,ysv,ysw,ysx,ha,meetsL]
    · simp (disch := (first | (simp only [ne_eq,Nat.reduceEqDiff,not_false_eq_true,Nat.reduceLT]; done) | omega | (simp only [yz] <;> omega) | fail)) only [↓yp,yq0,yq1,yq2,yq3,yq4,yl,ys0,ys1,Nat.reduceAdd,Nat.reduceMul,Nat.reduceSub,Nat.reduceBEq,Nat.reduceEqDiff,Nat.reduceLT,Nat.reduceLeDiff,reduceIte,Int.reduceAdd,Int.reduceSub,Int.reduceMul,Int.reduceLT,Int.reduceLE,Int.reduceEq,Int.reduceToNat,Int.reduceNeg,zed,zee,zfr,zhw,ysu,yrg,ysv,ysw,ysx,jobG,legV,A_indexSlice zio,hc,hsp,e3,hlh]
      refine W_draw [] rfl (by kernel_rfl) (by kernel_rfl) (by (first | omega | (simp only [yz] <;> omega))) ?_
      simp (disch := (first | (simp only [ne_eq,Nat.reduceEqDiff,not_false_eq_true,Nat.reduceLT]; done) | omega | (simp only [yz] <;> omega) | fail)) only [↓yp,yq0,yq1,yq2,yq3,yq4,yl,ys0,ys1,Nat.reduceAdd,Nat.reduceMul,Nat.reduceSub,Nat.reduceBEq,Nat.reduceEqDiff,Nat.reduceLT,Nat.reduceLeDiff,reduceIte,Int.reduceAdd,Int.reduceSub,Int.reduceMul,Int.reduceLT,Int.reduceLE,Int.reduceEq,Int.reduceToNat,Int.reduceNeg,zed,zee,zfr,zhw,ysu,yrg,ysv,ysw,ysx,ha]
      rw [h128 _ (by (repeat (first | exact Fr.refl _ | assumption | refine Fr.allocd ?_ _ | refine Fr.kill ?_ (by first | assumption | omega) | refine Fr.put ?_ (by first | omega | (simp only [yz] <;> omega)) _)))]
      simp (disch := (first | (simp only [ne_eq,Nat.reduceEqDiff,not_false_eq_true,Nat.reduceLT]; done) | omega | (simp only [yz] <;> omega) | fail)) only [↓yp,yq0,yq1,yq2,yq3,yq4,yl,ys0,ys1,Nat.reduceAdd,Nat.reduceMul,Nat.reduceSub,Nat.reduceBEq,Nat.reduceEqDiff,Nat.reduceLT,Nat.reduceLeDiff,reduceIte,Int.reduceAdd,Int.reduceSub,Int.reduceMul,Int.reduceLT,Int.reduceLE,Int.reduceEq,Int.reduceToNat,Int.reduceNeg,zed,zee,zfr,zhw,ysu,yrg,ysv,ysw,ysx,ha,h3]
      rw [h128 _ (by (repeat (first | exact Fr.refl _ | assumption | refine Fr.allocd ?_ _ | refine Fr.kill ?_ (by first | assumption | omega) | refine Fr.put ?_ (by first | omega | (simp only [yz] <;> omega)) _)))]
      simp (disch := (first | (simp only [ne_eq,Nat.reduceEqDiff,not_false_eq_true,Nat.reduceLT]; done) | omega | (simp only [yz] <;> omega) | fail)) only [↓yp,yq0,yq1,yq2,yq3,yq4,yl,ys0,ys1,Nat.reduceAdd,Nat.reduceMul,Nat.reduceSub,Nat.reduceBEq,Nat.reduceEqDiff,Nat.reduceLT,Nat.reduceLeDiff,reduceIte,Int.reduceAdd,Int.reduceSub,Int.reduceMul,Int.reduceLT,Int.reduceLE,Int.reduceEq,Int.reduceToNat,Int.reduceNeg,zed,zee,zfr,zhw,ysu,yrg,ysv,ysw,ysx,ha,h3,meetsL,hlh]
  · simp (disch := (first | (simp only [ne_eq,Nat.reduceEqDiff,not_false_eq_true,Nat.reduceLT]; done) | omega | (simp only [yz] <;> omega) | fail)) only [↓yp,yq0,yq1,yq2,yq3,yq4,yl,ys0,ys1,Nat.reduceAdd,Nat.reduceMul,Nat.reduceSub,Nat.reduceBEq,Nat.reduceEqDiff,Nat.reduceLT,Nat.reduceLeDiff,reduceIte,Int.reduceAdd,Int.reduceSub,Int.reduceMul,Int.reduceLT,Int.reduceLE,Int.reduceEq,Int.reduceToNat,Int.reduceNeg,zed,zee,zfr,zhw,ysu,yrg,ysv,ysw,ysx,jobG,legV,A_indexSlice zio,hc,hsp,e3,hlh,meetsL]
set_option maxHeartbeats 1000000 in
theorem c117L (hs : Sl H a l) (hi : l[i]? = some s) (hlf : 0 ≤ lf ∧ lf ≤ 3) (hf : Fit s ld) (hm : okM m) :
    acall tabA (aexec tabA Try.prog (N + 160)) 117 [jobG C a l.length cap w ld lf, legV i b, .int .i64 m] H = some (true, .int .i64 (arrL (lift lf s) b ld m), H, H.size) := by
  have ht := hf.takes b
  have hm1 := hm.1
  have hm2 := hm.2
  unfold arrL
  split
  · rename_i e
    subst e
    refine call_quiet (k := 36) (rs := [.tmp 6]) rfl fn_117 rfl rfl rfl ?_ rfl
    have e4 : decide ((-1 : Int) = -1) = true := by decide
    simp (disch := (first | (simp only [ne_eq,Nat.reduceEqDiff,not_false_eq_true,Nat.reduceLT]; done) | omega | (simp only [yz] <;> omega) | fail)) only [↓yp,yq0,yq1,yq2,yq3,yq4,yl,ys0,ys1,Nat.reduceAdd,Nat.reduceMul,Nat.reduceSub,Nat.reduceBEq,Nat.reduceEqDiff,Nat.reduceLT,Nat.reduceLeDiff,reduceIte,Int.reduceAdd,Int.reduceSub,Int.reduceMul,Int.reduceLT,Int.reduceLE,Int.reduceEq,Int.reduceToNat,Int.reduceNeg,zed,zee,zfr,zhw,ysu,yrg,ysv,ysw,ysx,jobG,legV,e4]
  · rename_i e
    obtain ⟨h1, h2, h4, h5⟩ := fit_w64 hf
    have h5 := h5 b
    have h3 : w64 (m + takes s b ld) = m + takes s b ld := w64_of (by omega)
    refine call_quiet (k := 36) (rs := [.tmp 6]) rfl fn_117 rfl rfl rfl ?_ rfl
    have hlt := (List.getElem?_eq_some_iff.1 hi).1
    obtain ⟨b', o, c, rfl, hb, hc, hp⟩ := hs.get (fun h => by subst h; simp at hi)
    have hpi := hp i s hi
    have hhi : c[o + i * 9 + 8]? = some (.int .i64 s.hi) := cell_in 8 hpi (by omega)
    have h127 := fun (H' : AHeap) (f : Fr H H') (N : Nat) => c127L (N := N) (C := C) (w := w) (cap := cap) (b := b) (hs.fr f) hi hlf h1 h2 h3
    have h128 := fun (H' : AHeap) (f : Fr H H') (N : Nat) => c128L (N := N) (C := C) (w := w) (lf := lf) (cap := cap) (b := b) (hs.fr f) hi h1 h2
    simp only [jobG,legV] at h127 h128
    have e4 : decide (m = -1) = false := by simpa using e
    have har : arriveL (lift lf s) b ld m = if 240 < (bif meetsL (lift lf s) b ld m then s.hi + 1 else m) + takes s b ld then -1 else (bif meetsL (lift lf s) b ld m then s.hi + 1 else m) + takes s b ld := by
      unfold arriveL
      rw [lift_takes]
      by_cases e3 : lf = 3
      · subst e3
        have hmt : meetsL (lift 3 s) b ld m = false := rfl
        rw [hmt]
        rfl
      · have hh : (lift lf s).hi = s.hi := by
          rcases law_cases hlf with rfl | rfl | rfl | rfl
          · rfl
          · rfl
          · rfl
          · exact absurd rfl e3
        rw [hh]
    rw [har]
    simp (disch := (first | (simp only [ne_eq,Nat.reduceEqDiff,not_false_eq_true,Nat.reduceLT]; done) | omega | (simp only [yz] <;> omega) | fail)) only [↓yp,yq0,yq1,yq2,yq3,yq4,yl,ys0,ys1,Nat.reduceAdd,Nat.reduceMul,Nat.reduceSub,Nat.reduceBEq,Nat.reduceEqDiff,Nat.reduceLT,Nat.reduceLeDiff,reduceIte,Int.reduceAdd,Int.reduceSub,Int.reduceMul,Int.reduceLT,Int.reduceLE,Int.reduceEq,Int.reduceToNat,Int.reduceNeg,zed,zee,zfr,zhw,ysu,yrg,ysv,ysw,ysx,jobG,legV,e4]
    rw [h127 _ (by (repeat (first | exact Fr.refl _ | assumption | refine Fr.allocd ?_ _ | refine Fr.kill ?_ (by first | assumption | omega) | refine Fr.put ?_ (by first | omega | (simp only [yz] <;> omega)) _)))]
    simp (disch := (first | (simp only [ne_eq,Nat.reduceEqDiff,not_false_eq_true,Nat.reduceLT]; done) | omega | (simp only [yz] <;> omega) | fail)) only [↓yp,yq0,yq1,yq2,yq3,yq4,yl,ys0,ys1,Nat.reduceAdd,Nat.reduceMul,Nat.reduceSub,Nat.reduceBEq,Nat.reduceEqDiff,Nat.reduceLT,Nat.reduceLeDiff,reduceIte,Int.reduceAdd,Int.reduceSub,Int.reduceMul,Int.reduceLT,Int.reduceLE,Int.reduceEq,Int.reduceToNat,Int.reduceNeg,zed,zee,zfr,zhw,ysu,yrg,ysv,ysw,ysx]
    refine ⟨fun hA => ?_, fun hA => ?_⟩
    · rw [hA]
      simp (disch := (first | (simp only [ne_eq,Nat.reduceEqDiff,not_false_eq_true,Nat.reduceLT]; done) | omega | (simp only [yz] <;> omega) | fail)) only [↓yp,yq0,yq1,yq2,yq3,yq4,yl,ys0,ys1,Nat.reduceAdd,Nat.reduceMul,Nat.reduceSub,Nat.reduceBEq,Nat.reduceEqDiff,Nat.reduceLT,Nat.reduceLeDiff,reduceIte,Int.reduceAdd,Int.reduceSub,Int.reduceMul,Int.reduceLT,Int.reduceLE,Int.reduceEq,Int.reduceToNat,Int.reduceNeg,zed,zee,zfr,zhw,ysu,yrg,ysv,ysw,ysx,hA,A_indexSlice zio,hc,hhi,h4]
      rw [h128 _ (by (repeat (first | exact Fr.refl _ | assumption | refine Fr.allocd ?_ _ | refine Fr.kill ?_ (by first | assumption | omega) | refine Fr.put ?_ (by first | omega | (simp only [yz] <;> omega)) _)))]
      simp (disch := (first | (simp only [ne_eq,Nat.reduceEqDiff,not_false_eq_true,Nat.reduceLT]; done) | omega | (simp only [yz] <;> omega) | fail)) only [↓yp,yq0,yq1,yq2,yq3,yq4,yl,ys0,ys1,Nat.reduceAdd,Nat.reduceMul,Nat.reduceSub,Nat.reduceBEq,Nat.reduceEqDiff,Nat.reduceLT,Nat.reduceLeDiff,reduceIte,Int.reduceAdd,Int.reduceSub,Int.reduceMul,Int.reduceLT,Int.reduceLE,Int.reduceEq,Int.reduceToNat,Int.reduceNeg,zed,zee,zfr,zhw,ysu,yrg,ysv,ysw,ysx,hA,h4,h5]
      refine ⟨fun hB => ?_, fun hB => ?_⟩
      · simp (disch := (first | (simp only [ne_eq,Nat.reduceEqDiff,not_false_eq_true,Nat.reduceLT]; done) | omega | (simp only [yz] <;> omega) | fail)) only [↓yp,yq0,yq1,yq2,yq3,yq4,yl,ys0,ys1,Nat.reduceAdd,Nat.reduceMul,Nat.reduceSub,Nat.reduceBEq,Nat.reduceEqDiff,Nat.reduceLT,Nat.reduceLeDiff,reduceIte,Int.reduceAdd,Int.reduceSub,Int.reduceMul,Int.reduceLT,Int.reduceLE,Int.reduceEq,Int.reduceToNat,Int.reduceNeg,zed,zee,zfr,zhw,ysu,yrg,ysv,ysw,ysx,hA,of_decide_eq_true hB]
      · simp (disch := (first | (simp only [ne_eq,Nat.reduceEqDiff,not_false_eq_true,Nat.reduceLT]; done) | omega | (simp only [yz] <;> omega) | fail)) only [↓yp,yq0,yq1,yq2,yq3,yq4,yl,ys0,ys1,Nat.reduceAdd,Nat.reduceMul,Nat.reduceSub,Nat.reduceBEq,Nat.reduceEqDiff,Nat.reduceLT,Nat.reduceLeDiff,reduceIte,Int.reduceAdd,Int.reduceSub,Int.reduceMul,Int.reduceLT,Int.reduceLE,Int.reduceEq,Int.reduceToNat,Int.reduceNeg,zed,zee,zfr,zhw,ysu,yrg,ysv,ysw,ysx,hA,h4,h5]
        rw [h128 _ (by (repeat (first | exact Fr.refl _ | assumption | refine Fr.allocd ?_ _ | refine Fr.kill ?_ (by first | assumption | omega) | refine Fr.put ?_ (by first | omega | (simp only [yz] <;> omega)) _)))]
        simp (disch := (first | (simp only [ne_eq,Nat.reduceEqDiff,not_false_eq_true,Nat.reduceLT]; done) | omega | (simp only [yz] <;> omega) | fail)) only [↓yp,yq0,yq1,yq2,yq3,yq4,yl,ys0,ys1,Nat.reduceAdd,Nat.reduceMul,Nat.reduceSub,Nat.reduceBEq,Nat.reduceEqDiff,Nat.reduceLT,Nat.reduceLeDiff,reduceIte,Int.reduceAdd,Int.reduceSub,Int.reduceMul,Int.reduceLT,Int.reduceLE,Int.reduceEq,Int.reduceToNat,Int.reduceNeg,zed,zee,zfr,zhw,ysu,yrg,ysv,ysw,ysx,hA,h5,of_decide_eq_false hB]
    · rw [hA]
      simp (disch := (first | (simp only [ne_eq,Nat.reduceEqDiff,not_false_eq_true,Nat.reduceLT]; done) | omega | (simp only [yz] <;> omega) | fail)) only [↓yp,yq0,yq1,yq2,yq3,yq4,yl,ys0,ys1,Nat.reduceAdd,Nat.reduceMul,Nat.reduceSub,Nat.reduceBEq,Nat.reduceEqDiff,Nat.reduceLT,Nat.reduceLeDiff,reduceIte,Int.reduceAdd,Int.reduceSub,Int.reduceMul,Int.reduceLT,Int.reduceLE,Int.reduceEq,Int.reduceToNat,Int.reduceNeg,zed,zee,zfr,zhw,ysu,yrg,ysv,ysw,ysx,hA]
      rw [h128 _ (by (repeat (first | exact Fr.refl _ | assumption | refine Fr.allocd ?_ _ | refine Fr.kill ?_ (by first | assumption | omega) | refine Fr.put ?_ (by first | omega | (simp only [yz] <;> omega)) _)))]
      simp (disch := (first | (simp only [ne_eq,Nat.reduceEqDiff,not_false_eq_true,Nat.reduceLT]; done) | omega | (simp only [yz] <;> omega) | fail)) only [↓yp,yq0,yq1,yq2,yq3,yq4,yl,ys0,ys1,Nat.reduceAdd,Nat.reduceMul,Nat.reduceSub,Nat.reduceBEq,Nat.reduceEqDiff,Nat.reduceLT,Nat.reduceLeDiff,reduceIte,Int.reduceAdd,Int.reduceSub,Int.reduceMul,Int.reduceLT,Int.reduceLE,Int.reduceEq,Int.reduceToNat,Int.reduceNeg,zed,zee,zfr,zhw,ysu,yrg,ysv,ysw,ysx,hA,h3]
      refine ⟨fun hB => ?_, fun hB => ?_⟩
      · simp (disch := (first | (simp only [ne_eq,Nat.reduceEqDiff,not_false_eq_true,Nat.reduceLT]; done) | omega | (simp only [yz] <;> omega) | fail)) only [↓yp,yq0,yq1,yq2,yq3,yq4,yl,ys0,ys1,Nat.reduceAdd,Nat.reduceMul,Nat.reduceSub,Nat.reduceBEq,Nat.reduceEqDiff,Nat.reduceLT,Nat.reduceLeDiff,reduceIte,Int.reduceAdd,Int.reduceSub,Int.reduceMul,Int.reduceLT,Int.reduceLE,Int.reduceEq,Int.reduceToNat,Int.reduceNeg,zed,zee,zfr,zhw,ysu,yrg,ysv,ysw,ysx,hA,of_decide_eq_true hB]
      · simp (disch := (first | (simp only [ne_eq,Nat.reduceEqDiff,not_false_eq_true,Nat.reduceLT]; done) | omega | (simp only [yz] <;> omega) | fail)) only [↓yp,yq0,yq1,yq2,yq3,yq4,yl,ys0,ys1,Nat.reduceAdd,Nat.reduceMul,Nat.reduceSub,Nat.reduceBEq,Nat.reduceEqDiff,Nat.reduceLT,Nat.reduceLeDiff,reduceIte,Int.reduceAdd,Int.reduceSub,Int.reduceMul,Int.reduceLT,Int.reduceLE,Int.reduceEq,Int.reduceToNat,Int.reduceNeg,zed,zee,zfr,zhw,ysu,yrg,ysv,ysw,ysx,hA,h3]
        rw [h128 _ (by (repeat (first | exact Fr.refl _ | assumption | refine Fr.allocd ?_ _ | refine Fr.kill ?_ (by first | assumption | omega) | refine Fr.put ?_ (by first | omega | (simp only [yz] <;> omega)) _)))]
        simp (disch := (first | (simp only [ne_eq,Nat.reduceEqDiff,not_false_eq_true,Nat.reduceLT]; done) | omega | (simp only [yz] <;> omega) | fail)) only [↓yp,yq0,yq1,yq2,yq3,yq4,yl,ys0,ys1,Nat.reduceAdd,Nat.reduceMul,Nat.reduceSub,Nat.reduceBEq,Nat.reduceEqDiff,Nat.reduceLT,Nat.reduceLeDiff,reduceIte,Int.reduceAdd,Int.reduceSub,Int.reduceMul,Int.reduceLT,Int.reduceLE,Int.reduceEq,Int.reduceToNat,Int.reduceNeg,zed,zee,zfr,zhw,ysu,yrg,ysv,ysw,ysx,hA,h3,of_decide_eq_false hB]
theorem get_lift {i : Nat} {s' : Str} (h : (l.map (lift lf))[i]? = some s') : ∃ s, l[i]? = some s ∧ s' = lift lf s := by
  rw [List.getElem?_map, Option.map_eq_some_iff] at h
  obtain ⟨s, h1, rfl⟩ := h
  exact ⟨s, h1, rfl⟩
theorem dirL (g : Good C l ld) (hs : Sl H a l) (hlf : 0 ≤ lf ∧ lf ≤ 3) (hw9 : w ≤ 9) (hd9 : ld ≤ 9) : DirC H (fwd ld) (l.map (lift lf)) (jobG C a l.length cap w ld lf) w ld 122 117 94 [jobG C a l.length cap w ld lf] [] where
  ends N H' i s' b f hi := by
    obtain ⟨s, h1, rfl⟩ := get_lift hi
    rw [lift_near, lift_far]
    exact c94L (hs.fr f) h1
  may N H' i s' b f hi := by
    obtain ⟨s, h1, rfl⟩ := get_lift hi
    exact c107L (hs.fr f) h1 hlf hw9 hd9
  sides N H' i s' b f hi := by
    obtain ⟨s, h1, rfl⟩ := get_lift hi
    show acall tabA (aexec tabA Try.prog (N + 100)) 94 _ H' = some (true, .tuple ⟨[.int .i64 (nearL (lift lf s) b), .int .i64 (farL (lift lf s) b)]⟩, H', H'.size)
    rw [lift_near, lift_far]
    exact c94L (N := N + 60) (hs.fr f) h1
  cross N H' i s' b m f hi hm := by
    obtain ⟨s, h1, rfl⟩ := get_lift hi
    exact c117L (N := N + 40) (hs.fr f) h1 hlf (g.fit (List.mem_of_getElem? h1)) hm
  better N H' m o hm ho := by
    rw [← fwd_better hm ho]
    exact c122 (N := N + 100)
set_option maxHeartbeats 1000000 in
theorem c88L {fr a₀ : Int} (g : Good C l ld) (gL : Good C (l.map (lift lf)) ld) (hs : Sl H a l) (hl : l.length ≤ 18) (hlf : 0 ≤ lf ∧ lf ≤ 3) (hw9 : w ≤ 9) (hd9 : ld ≤ 9) (hfr : 0 ≤ fr ∧ fr < C) (ha : 0 ≤ a₀ ∧ a₀ ≤ 240) :
    acall tabA (aexec tabA Try.prog (N + 4200)) 88 [jobG C a l.length cap w ld lf, .int .i64 fr, .int .i64 a₀] H = some (true, .agg ⟨tv (earT C (l.map (lift lf)) w ld fr a₀)⟩, H, H.size) := by
  refine call_quiet (k := 12) (rs := [.cell 6 130]) rfl fn_88 rfl rfl rfl ?_ (gr_tv _)
  have hC := g.hC
  have t8 := earT_len (w := w) gL hfr ha
  have ptv := part_tv t8
  have hlen : (l.map (lift lf)).length = l.length := List.length_map ..
  have h103 := fun (N : Nat) (H₁ : AHeap) (Q : Bool → Value → AHeap → Prop) (hL : H.size ≤ H₁.size) => c103 (N := N) (H := H₁) (Q := Q) (L := H.size) (C := C) (w := w) (ld := ld) (lf := lf) (a := a) (n := l.length) (cap := cap) hL
  simp only [jobG] at h103
  simp (disch := (first | (simp only [ne_eq,Nat.reduceEqDiff,not_false_eq_true,Nat.reduceLT]; done) | omega | (simp only [yz] <;> omega) | fail)) only [↓yp,yq0,yq1,yq2,yq3,yq4,yl,ys0,ys1,Nat.reduceAdd,Nat.reduceMul,Nat.reduceSub,Nat.reduceBEq,Nat.reduceEqDiff,Nat.reduceLT,Nat.reduceLeDiff,reduceIte,Int.reduceAdd,Int.reduceSub,Int.reduceMul,Int.reduceLT,Int.reduceLE,Int.reduceEq,Int.reduceToNat,Int.reduceNeg,zed,zee,zfr,zhw,ysu,yrg,ysv,ysw,ysx,jobG]
  rw [h103 _ _ _ (by (first | omega | (simp only [yz] <;> omega)))]
  simp (disch := (first | (simp only [ne_eq,Nat.reduceEqDiff,not_false_eq_true,Nat.reduceLT]; done) | omega | (simp only [yz] <;> omega) | fail)) only [↓yp,yq0,yq1,yq2,yq3,yq4,yl,ys0,ys1,Nat.reduceAdd,Nat.reduceMul,Nat.reduceSub,Nat.reduceBEq,Nat.reduceEqDiff,Nat.reduceLT,Nat.reduceLeDiff,reduceIte,Int.reduceAdd,Int.reduceSub,Int.reduceMul,Int.reduceLT,Int.reduceLE,Int.reduceEq,Int.reduceToNat,Int.reduceNeg,zed,zee,zfr,zhw,ysu,yrg,ysv,ysw,ysx]
  have h118 := fun (H' : AHeap) (f : Fr H H') (N : Nat) => c118 (N := N) (l := l.map (lift lf)) (a := a) (d := fwd ld) (C := C) (m := a₀) (cap := cap) (lf := lf) (fwd_ok gL) gL.known hC (by rw [hlen]; exact hl) (by rw [hlen]; exact dirL (cap := cap) (w := w) g (hs.fr f) hlf hw9 hd9) (x := fr) (by omega) ⟨by omega, by omega⟩
  simp only [jobG,hlen] at h118
  rw [h118 _ (by (repeat (first | exact Fr.refl _ | assumption | refine Fr.allocd ?_ _ | refine Fr.kill ?_ (by first | assumption | omega) | refine Fr.put ?_ (by first | omega | (simp only [yz] <;> omega)) _)))]
  rw [show (fwd ld).iter (l.map (lift lf)) w ld C.toNat 2000 (begT fr a₀) = earT C (l.map (lift lf)) w ld fr a₀ from rfl]
  simp (disch := (first | (simp only [ne_eq,Nat.reduceEqDiff,not_false_eq_true,Nat.reduceLT]; done) | omega | (simp only [yz] <;> omega) | fail)) only [↓yp,yq0,yq1,yq2,yq3,yq4,yl,ys0,ys1,Nat.reduceAdd,Nat.reduceMul,Nat.reduceSub,Nat.reduceBEq,Nat.reduceEqDiff,Nat.reduceLT,Nat.reduceLeDiff,reduceIte,Int.reduceAdd,Int.reduceSub,Int.reduceMul,Int.reduceLT,Int.reduceLE,Int.reduceEq,Int.reduceToNat,Int.reduceNeg,zed,zee,zfr,zhw,ysu,yrg,ysv,ysw,ysx,tv_len,t8,one_tv,ptv]
end
end Go.Am
