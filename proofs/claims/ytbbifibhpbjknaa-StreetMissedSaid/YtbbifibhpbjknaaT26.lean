/- The program's Pass. -/
import Derived.Test.YtbbifibhpbjknaaT25
set_option linter.unusedSimpArgs false
set_option linter.unusedVariables false
namespace Go.Am
open Go.Proofs
variable {T : Tab} {P : Program} {N L : Nat} {H : AHeap} {Q : Bool → Value → AHeap → Prop}

theorem asked_ok {C w ld : Int} {l : List Str} {cs ss ms : List Int} (h : asked C l w ld cs ss ms = 0) : chk C l = 0 ∧ off w 1 9 = false ∧ off ld 0 9 = false ∧ (∀ n ∈ cs, 0 ≤ n ∧ n ≤ C - 1) ∧ (∀ n ∈ ss, 0 ≤ n ∧ n ≤ (l.length : Int) - 1) ∧ (∀ n ∈ ms, 0 ≤ n ∧ n ≤ 240) := by
  unfold asked at h
  have any : ∀ {p : Int → Bool} {l : List Int}, ¬ l.any p = true → ∀ n ∈ l, p n = false := fun {p l} h n hn => by
    cases hp : p n with
    | false => rfl
    | true => exact absurd (List.any_eq_true.2 ⟨n, hn, hp⟩) h
  split at h
  · rename_i h1; exact absurd h h1
  · split at h
    · cases h
    · split at h
      · cases h
      · split at h
        · cases h
        · split at h
          · cases h
          · rename_i h1 h2 h3 h4 h5
            simp only [Bool.or_eq_true,not_or,Bool.not_eq_true] at h2
            exact ⟨Classical.byContradiction h1, h2.1, h2.2, fun n hn => off_iff.1 (any h3 n hn), fun n hn => off_iff.1 (any h4 n hn), fun n hn => off_iff.1 (any h5 n hn)⟩
theorem fit_of {C ld : Int} {l : List Str} {s : Str} (h : chk C l = 0) (hs : s ∈ l) (hd : off ld 0 9 = false) : Fit s ld := by
  have hb := (chk_ok h).2.2.2 s hs
  have h1 := bad2_span hb
  unfold bad2 at hb
  simp only [Bool.or_eq_false_iff] at hb
  have h2 := off_iff.1 hb.1
  have h3 := off_iff.1 hb.2.1
  have h4 := off_iff.1 hd
  refine ⟨h2, ⟨Int.mul_nonneg h3.1 h4.1, ?_⟩, h1.1, h1.2⟩
  have := Int.mul_le_mul h3.2 h4.2 h4.1 (by omega)
  omega
theorem st_brS_52_1 : brS tabA 52 1 = some (1, 3, [.int .i64 0]) := by kernel_rfl
end Go.Am
/- What the law lays for itself. -/
namespace Go.Am
open Go.Proofs
variable {T : Tab} {P : Program} {N L : Nat} {H : AHeap} {Q : Bool → Value → AHeap → Prop}

/-- A place of the walk from which only what is told goes on. -/
theorem W_gen {r : Option Nat} {c : Code} {n : Nat} {e : VT} {ds : List Nat} {Q : Exit → ES → Prop} (I : VT → AHeap → Prop) (hi : I e H) (h : ∀ e H, I e H → W T P N r c L ⟨n, e, H, ds⟩ Q) : W T P N r c L ⟨n, e, H, ds⟩ Q := h e H hi

/-! ### clear -/
/-- The cells of an element of a row that is cleared. -/
def clS (T : Tab) (ty : TypeId) : Option (Array Value) := match T.und ty with
  | some (.slice e) => match T.inf e with
    | some i => match i.zero with
      | some z => some z.cells
      | none => none
    | none => none
  | _ => none
def clK (zc : Array Value) (v : Value) (H : AHeap) (L : Nat) (Q : Bool → Value → AHeap → Prop) (_ : Tag Q := .mk) : Prop := match v with
  | .slice a n _ => bif Nat.beq n 0 then L ≤ H.size ∧ Q false (.tuple #[]) H else match a with
    | some a => bif allGrV (Builtin.zeroCells zc n).toList then (match aWrite H a.block a.off (Builtin.zeroCells zc n).toList with
      | some (H', m) => L ≤ m ∧ Q false (.tuple #[]) H'
      | none => False) else False
    | none => False
  | _ => False
theorem A_clear {ex : Exec} {t : Operand → Option Value} {ty : TypeId} {tys : List TypeId} {x : Operand} {zc : Array Value} (hs : clS T ty = some zc) : A T P ex t H L (.call ⟨.builtin .clear, [x].toArray, (ty :: tys).toArray⟩) Q = optK (t x) fun v => clK zc v H L Q := by
  unfold A
  show (match moves (aClear T t H (ty :: tys).toArray [x].toArray) with
    | some (b, v, H', m) => L ≤ m ∧ Q b v H'
    | none => False) = _
  unfold clS at hs
  unfold aClear
  simp only
  cases hu : T.und ty with
  | none => rw [hu] at hs; cases hs
  | some d =>
    rw [hu] at hs
    cases d with
    | slice e =>
      simp only at hs
      cases hi : T.inf e with
      | none => rw [hi] at hs; cases hs
      | some i =>
        rw [hi] at hs
        simp only at hs
        cases hz : i.zero with
        | none => rw [hz] at hs; cases hs
        | some z =>
          rw [hz] at hs
          cases hs
          cases t x with
          | none => rfl
          | some v =>
            simp only [optK]
            cases v with
            | slice a n c =>
              simp only [clK]
              cases hn : Nat.beq n 0
              · simp only [cond_false]
                cases a with
                | none => rfl
                | some a =>
                  simp only [hi,hz]
                  cases allGrV (Builtin.zeroCells z.cells n).toList
                  · rfl
                  · simp only [cond_true]
                    cases aWrite H a.block a.off (Builtin.zeroCells z.cells n).toList with
                    | none => rfl
                    | some p => rfl
              · rfl
            | _ => rfl
    | _ => cases hs
theorem okI_of {n : Int} (h : 0 ≤ n ∧ n ≤ 1000) : okI n := by
  unfold okI Lit.wf
  simp only [Bool.and_eq_true,decide_eq_true_eq]
  have h1 : IntKind.min .i64 = -9223372036854775808 := by kernel_rfl
  have h2 : IntKind.max .i64 = 9223372036854775807 := by kernel_rfl
  rw [h1, h2]
  omega
def zc22 : Array Value := #[.int .i64 0, .int .i64 0, .int .i64 0, .int .i64 0, .int .i64 0, .int .i64 0, .bool false, .int .i64 0, .int .i64 0]
theorem st_clS_22 : clS tabA 22 = some zc22 := by kernel_rfl
end Go.Am
/- The end of the law StreetTowns: Pass. -/
namespace Go.Am
open Go.Proofs
variable {T : Tab} {P : Program} {N L : Nat} {H : AHeap} {Q : Bool → Value → AHeap → Prop}

theorem awake_r {ex : Exec} : acall tabA ex 18 [] H = some (true, .bool true, H, H.size) := nr rfl
end Go.Am
