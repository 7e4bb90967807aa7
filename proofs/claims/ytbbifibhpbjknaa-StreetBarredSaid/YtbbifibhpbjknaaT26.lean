/- The program's Pass. -/
import Derived.Test.YtbbifibhpbjknaaT25
set_option linter.unusedSimpArgs false
set_option linter.unusedVariables false
namespace Go.Am
open Go.Proofs
variable {T : Tab} {P : Program} {N L : Nat} {H : AHeap} {Q : Bool → Value → AHeap → Prop}

theorem asked_ok {C w ld : Int} {l : List Str} {cs ss ms : List Int} (h : asked C l w ld cs ss ms = 0) : chk C l = 0 ∧ off w 1 9 = false ∧ off ld 0 9 = false ∧ (∀ n ∈ cs, 0 ≤ n ∧ n ≤ C - 1) ∧ (∀ n ∈ ss, 0 ≤ n ∧ n ≤ (l.length : Int) - 1) ∧ (∀ n ∈ ms, 0 ≤ n ∧ n ≤ 240) := by
  unfold asked at h
  have any : ∀ {p : Int → Bool} {l : List Int}, ¬ l.any p = true → ∀ n ∈ l, p n = false := fun {p l} h n hn => by
    cases hp : p n with
    | false => rfl
    | true => exact absurd (List.any_eq_true.2 ⟨n, hn, hp⟩) h
  split at h
  · rename_i h1; exact absurd h h1
  · split at h
    · cases h
    · split at h
      · cases h
      · split at h
        · cases h
        · split at h
          · cases h
          · rename_i h1 h2 h3 h4 h5
            simp only [Bool.or_eq_true,not_or,Bool.not_eq_true] at h2
            exact ⟨Classical.byContradiction h1, h2.1, h2.2, fun n hn => off_iff.1 (any h3 n hn), fun n hn => off_iff.1 (any h4 n hn), fun n hn => off_iff.1 (any h5 n hn)⟩
theorem fit_of {C ld : Int} {l : List Str} {s : Str} (h : chk C l = 0) (hs : s ∈ l) (hd : off ld 0 9 = false) : Fit s ld := by
  have hb := (chk_ok h).2.2.2 s hs
  have h1 := bad2_span hb
  unfold bad2 at hb
  simp only [Bool.or_eq_false_iff] at hb
  have h2 := off_iff.1 hb.1
  have h3 := off_iff.1 hb.2.1
  have h4 := off_iff.1 hd
  refine ⟨h2, ⟨Int.mul_nonneg h3.1 h4.1, ?_⟩, h1.1, h1.2⟩
  have := Int.mul_le_mul h3.2 h4.2 h4.1 (by omega)
  omega
theorem st_brS_52_1 : brS tabA 52 1 = some (1, 3, [.int .i64 0]) := by kernel_rfl
end Go.Am
/- What the law lays for itself. -/
namespace Go.Am
open Go.Proofs
variable {T : Tab} {P : Program} {N L : Nat} {H : AHeap} {Q : Bool → Value → AHeap → Prop}

/-- A place of the walk from which only what is told goes on. -/
theorem W_gen {r : Option Nat} {c : Code} {n : Nat} {e : VT} {ds : List Nat} {Q : Exit → ES → Prop} (I : VT → AHeap → Prop) (hi : I e H) (h : ∀ e H, I e H → W T P N r c L ⟨n, e, H, ds⟩ Q) : W T P N r c L ⟨n, e, H, ds⟩ Q := h e H hi

theorem maskE_nilSlice {l : List Nat} {n : Nat} {e : VT} : maskE l n e (.const (.slice none 0 0)) = some (.slice none 0 0) := nr rfl
theorem c19n {a : Option Addr} {cap : Nat} {C : Int} : acall tabA (aexec tabA Try.prog (N + 120)) 19 [.agg ⟨[.int .i64 C, .slice a 0 cap]⟩] H = some (true, .agg ⟨[.int .i64 C, .slice none 0 0]⟩, H, H.size) := by
  refine call_quiet (k := 9) (rs := [.cell 2 24]) rfl fn_19 rfl rfl rfl ?_ rfl
  simp (disch := (first | (simp only [ne_eq,Nat.reduceEqDiff,not_false_eq_true,Nat.reduceLT]; done) | omega | (simp only [yz] <;> omega) | fail)) only [↓yp,yq0,yq1,yq2,yq3,yq4,yl,ys0,ys1,Nat.reduceAdd,Nat.reduceMul,Nat.reduceSub,Nat.reduceBEq,Nat.reduceEqDiff,Nat.reduceLT,Nat.reduceLeDiff,reduceIte,Int.reduceAdd,Int.reduceSub,Int.reduceMul,Int.reduceLT,Int.reduceLE,Int.reduceEq,Int.reduceToNat,Int.reduceNeg,zed,zee,zfr,zhw]
  refine W_draw [6] rfl (by kernel_rfl) (by kernel_rfl) (by (first | omega | (simp only [yz] <;> omega))) ?_
  simp (disch := (first | (simp only [ne_eq,Nat.reduceEqDiff,not_false_eq_true,Nat.reduceLT]; done) | omega | (simp only [yz] <;> omega) | fail)) only [↓yp,yq0,yq1,yq2,yq3,yq4,yl,ys0,ys1,Nat.reduceAdd,Nat.reduceMul,Nat.reduceSub,Nat.reduceBEq,Nat.reduceEqDiff,Nat.reduceLT,Nat.reduceLeDiff,reduceIte,Int.reduceAdd,Int.reduceSub,Int.reduceMul,Int.reduceLT,Int.reduceLE,Int.reduceEq,Int.reduceToNat,Int.reduceNeg,zed,zee,zfr,zhw,c74n,A_build zil]
/-! ### clear -/
theorem okI_of {n : Int} (h : 0 ≤ n ∧ n ≤ 1000) : okI n := by
  unfold okI Lit.wf
  simp only [Bool.and_eq_true,decide_eq_true_eq]
  have h1 : IntKind.min .i64 = -9223372036854775808 := by kernel_rfl
  have h2 : IntKind.max .i64 = 9223372036854775807 := by kernel_rfl
  rw [h1, h2]
  omega
end Go.Am
/- The end of the law StreetTowns: Pass. -/
namespace Go.Am
open Go.Proofs
variable {T : Tab} {P : Program} {N L : Nat} {H : AHeap} {Q : Bool → Value → AHeap → Prop}

end Go.Am
