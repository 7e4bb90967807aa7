/- What the tables say of more types and functions. -/
import Derived.Test.YtbbifibhpbjknaaT35
import Derived.Test.YtbbifibhpbjknaaT28
import Derived.Test.YtbbifibhpbjknaaT40
set_option linter.unusedSimpArgs false
set_option linter.unusedVariables false
set_option linter.defProp false
namespace Go.Am
open Go.Proofs
theorem st_alS_163 : alS tabA 163 = some [(.map none)] := by kernel_rfl
theorem st_alS_166 : alS tabA 166 = some [(.int IntKind.i64 0), (.int IntKind.u64 0)] := by kernel_rfl
theorem st_alS_168 : alS tabA 168 = some [(.int IntKind.i64 0), (.int IntKind.i64 0), (.bool false), (.int IntKind.i64 0), (.int IntKind.u64 0)] := by kernel_rfl
theorem st_alS_178 : alS tabA 178 = some [(.slice none 0 0), (.slice none 0 0), (.slice none 0 0), (.slice none 0 0), (.slice none 0 0), (.slice none 0 0), (.slice none 0 0), (.slice none 0 0), (.slice none 0 0), (.slice none 0 0), (.slice none 0 0), (.slice none 0 0), (.slice none 0 0), (.slice none 0 0), (.slice none 0 0), (.slice none 0 0), (.slice none 0 0), (.slice none 0 0), (.slice none 0 0), (.slice none 0 0), (.slice none 0 0), (.slice none 0 0), (.slice none 0 0), (.slice none 0 0), (.slice none 0 0), (.slice none 0 0), (.slice none 0 0), (.slice none 0 0), (.slice none 0 0), (.slice none 0 0), (.slice none 0 0), (.slice none 0 0), (.slice none 0 0), (.slice none 0 0), (.slice none 0 0), (.slice none 0 0), (.slice none 0 0), (.slice none 0 0), (.slice none 0 0), (.slice none 0 0), (.slice none 0 0), (.slice none 0 0), (.slice none 0 0), (.slice none 0 0), (.slice none 0 0), (.slice none 0 0), (.slice none 0 0), (.slice none 0 0), (.slice none 0 0), (.slice none 0 0), (.slice none 0 0), (.slice none 0 0), (.slice none 0 0), (.slice none 0 0), (.slice none 0 0), (.slice none 0 0), (.slice none 0 0), (.slice none 0 0), (.slice none 0 0), (.slice none 0 0), (.slice none 0 0), (.slice none 0 0), (.slice none 0 0), (.slice none 0 0), (.slice none 0 0), (.slice none 0 0), (.slice none 0 0), (.slice none 0 0), (.slice none 0 0), (.slice none 0 0), (.slice none 0 0), (.slice none 0 0), (.slice none 0 0), (.slice none 0 0), (.slice none 0 0), (.slice none 0 0), (.slice none 0 0), (.slice none 0 0), (.slice none 0 0), (.slice none 0 0), (.slice none 0 0), (.slice none 0 0), (.slice none 0 0), (.slice none 0 0), (.slice none 0 0), (.slice none 0 0), (.slice none 0 0), (.slice none 0 0), (.slice none 0 0), (.slice none 0 0), (.slice none 0 0), (.slice none 0 0), (.slice none 0 0), (.slice none 0 0), (.slice none 0 0), (.slice none 0 0), (.slice none 0 0), (.slice none 0 0), (.slice none 0 0), (.slice none 0 0), (.slice none 0 0), (.slice none 0 0), (.slice none 0 0), (.slice none 0 0), (.slice none 0 0), (.slice none 0 0), (.slice none 0 0), (.slice none 0 0), (.slice none 0 0), (.slice none 0 0), (.slice none 0 0), (.slice none 0 0), (.slice none 0 0), (.slice none 0 0), (.slice none 0 0), (.slice none 0 0), (.slice none 0 0), (.slice none 0 0), (.slice none 0 0), (.slice none 0 0), (.slice none 0 0), (.slice none 0 0), (.slice none 0 0), (.slice none 0 0), (.slice none 0 0), (.slice none 0 0), (.slice none 0 0), (.slice none 0 0), (.slice none 0 0), (.slice none 0 0), (.slice none 0 0), (.slice none 0 0), (.slice none 0 0), (.slice none 0 0), (.slice none 0 0), (.slice none 0 0), (.slice none 0 0), (.slice none 0 0), (.slice none 0 0), (.slice none 0 0), (.slice none 0 0), (.slice none 0 0), (.slice none 0 0), (.slice none 0 0), (.slice none 0 0), (.slice none 0 0), (.slice none 0 0), (.slice none 0 0), (.slice none 0 0), (.slice none 0 0), (.slice none 0 0), (.slice none 0 0), (.slice none 0 0), (.slice none 0 0), (.slice none 0 0), (.slice none 0 0), (.slice none 0 0), (.slice none 0 0), (.slice none 0 0), (.slice none 0 0), (.slice none 0 0), (.slice none 0 0), (.slice none 0 0), (.slice none 0 0), (.slice none 0 0), (.slice none 0 0), (.slice none 0 0), (.slice none 0 0), (.slice none 0 0), (.slice none 0 0), (.slice none 0 0), (.slice none 0 0), (.slice none 0 0), (.slice none 0 0), (.slice none 0 0), (.slice none 0 0), (.slice none 0 0), (.slice none 0 0), (.slice none 0 0), (.slice none 0 0), (.slice none 0 0), (.slice none 0 0), (.slice none 0 0), (.slice none 0 0), (.slice none 0 0), (.slice none 0 0), (.slice none 0 0), (.slice none 0 0), (.slice none 0 0), (.slice none 0 0), (.slice none 0 0), (.slice none 0 0), (.slice none 0 0), (.slice none 0 0), (.slice none 0 0), (.slice none 0 0), (.slice none 0 0), (.slice none 0 0), (.slice none 0 0), (.slice none 0 0), (.slice none 0 0), (.slice none 0 0), (.slice none 0 0), (.slice none 0 0), (.slice none 0 0), (.slice none 0 0), (.slice none 0 0), (.slice none 0 0), (.slice none 0 0), (.slice none 0 0), (.slice none 0 0), (.slice none 0 0), (.slice none 0 0), (.slice none 0 0), (.slice none 0 0), (.slice none 0 0), (.slice none 0 0), (.slice none 0 0), (.slice none 0 0), (.slice none 0 0), (.slice none 0 0), (.slice none 0 0), (.slice none 0 0), (.slice none 0 0), (.slice none 0 0), (.slice none 0 0), (.slice none 0 0), (.slice none 0 0), (.slice none 0 0), (.slice none 0 0), (.slice none 0 0), (.slice none 0 0), (.slice none 0 0), (.slice none 0 0), (.slice none 0 0), (.slice none 0 0), (.slice none 0 0), (.slice none 0 0), (.slice none 0 0), (.slice none 0 0), (.slice none 0 0)] := by kernel_rfl
theorem st_alS_180 : alS tabA 180 = some [.nilFunc] := by kernel_rfl
theorem st_alS_3 : alS tabA 3 = some [(.int IntKind.i64 0)] := by kernel_rfl
theorem st_apS_101 : apS tabA 101 = some (105, 1, 8) := by kernel_rfl
theorem st_apS_177 : apS tabA 177 = some (166, 2, 16) := by kernel_rfl
theorem st_apS_32 : apS tabA 32 = some (46, 9, 72) := by kernel_rfl
theorem st_arS_178 : arS tabA 178 = some (241, 1) := by kernel_rfl
theorem st_bdS_166 : bdS tabA 166 = some ([(.int IntKind.i64 0), (.int IntKind.u64 0)], [(0, 1), (1, 1)]) := by kernel_rfl
theorem st_bdS_168 : bdS tabA 168 = some ([(.int IntKind.i64 0), (.int IntKind.i64 0), (.bool false), (.int IntKind.i64 0), (.int IntKind.u64 0)], [(0, 1), (1, 2), (3, 2)]) := by kernel_rfl
theorem st_brS_101_1 : brS tabA 101 1 = some (1, 105, [(.int IntKind.i64 0)]) := by kernel_rfl
theorem st_brS_177_1 : brS tabA 177 1 = some (2, 166, [(.int IntKind.i64 0), (.int IntKind.u64 0)]) := by kernel_rfl
theorem st_esS_101 : esS tabA 101 = some 1 := by kernel_rfl
theorem st_esS_177 : esS tabA 177 = some 2 := by kernel_rfl
theorem st_faS_166_0 : faS tabA 166 0 = some 0 := by kernel_rfl
theorem st_faS_166_1 : faS tabA 166 1 = some 1 := by kernel_rfl
theorem st_faS_168_0 : faS tabA 168 0 = some 0 := by kernel_rfl
theorem st_faS_168_1 : faS tabA 168 1 = some 1 := by kernel_rfl
theorem st_faS_168_2 : faS tabA 168 2 = some 3 := by kernel_rfl
theorem st_inS_105 : inS tabA 105 = some 1 := by kernel_rfl
theorem st_inS_163 : inS tabA 163 = some 1 := by kernel_rfl
theorem st_inS_166 : inS tabA 166 = some 2 := by kernel_rfl
theorem st_inS_168 : inS tabA 168 = some 5 := by kernel_rfl
theorem st_inS_177 : inS tabA 177 = some 1 := by kernel_rfl
theorem st_inS_180 : inS tabA 180 = some 1 := by kernel_rfl
theorem st_ldS_142 : ldS tabA 142 = some 0 := by kernel_rfl
theorem st_ldS_163 : ldS tabA 163 = some 0 := by kernel_rfl
theorem st_ldS_166 : ldS tabA 166 = some 3 := by kernel_rfl
theorem st_ldS_177 : ldS tabA 177 = some 0 := by kernel_rfl
theorem st_ldS_180 : ldS tabA 180 = some 0 := by kernel_rfl
theorem fn_9 : tabA.fn 9 = some Try.f9 := by kernel_rfl
def ysx := (And.intro (And.intro (And.intro (And.intro (And.intro @st_alS_163 @st_alS_166) (And.intro @st_alS_168 @st_alS_178)) (And.intro (And.intro @st_alS_180 @st_alS_3) (And.intro @st_apS_101 @st_apS_177))) (And.intro (And.intro (And.intro @st_apS_32 @st_arS_178) (And.intro @st_bdS_166 @st_bdS_168)) (And.intro (And.intro @st_brS_101_1 @st_brS_177_1) (And.intro @st_esS_101 @st_esS_177)))) (And.intro (And.intro (And.intro (And.intro @st_faS_166_0 @st_faS_166_1) (And.intro @st_faS_168_0 @st_faS_168_1)) (And.intro (And.intro @st_faS_168_2 @st_inS_105) (And.intro @st_inS_163 @st_inS_166))) (And.intro (And.intro (And.intro @st_inS_168 @st_inS_177) (And.intro @st_inS_180 @st_ldS_142)) (And.intro (And.intro @st_ldS_163 @st_ldS_166) (And.intro @st_ldS_177 @st_ldS_180)))))
end Go.Am
/- Towns and carts that are worse: nothing is sooner there. -/
namespace Go.Am
open Go.Proofs
section
variable {l l' : List Str} {C w w' ld ld' fr a₀ a₁ : Int}
/-- The second street is no better than the first one. -/
structure WorseS (t s : Str) : Prop where
  fr : s.fr = t.fr
  to : s.to = t.to
  mi : s.mi = t.mi
  up : s.up = t.up
  wi : s.wi ≤ t.wi
  be : s.be ≤ t.be
  bk : s.bk = true → t.bk = true
  shut : t.hi < t.lo ∨ (s.lo ≤ t.lo ∧ t.hi ≤ s.hi ∧ s.lo ≤ s.hi)
theorem WorseS.refl (s : Str) : WorseS s s := ⟨rfl, rfl, rfl, rfl, Int.le_refl _, Int.le_refl _, id, by omega⟩
theorem OkS_iff {s : Str} : OkS C s ↔ (0 ≤ s.fr ∧ s.fr ≤ C - 1) ∧ (0 ≤ s.to ∧ s.to ≤ C - 1) ∧ s.fr ≠ s.to ∧ (1 ≤ s.mi ∧ s.mi ≤ 30) ∧ (0 ≤ s.up ∧ s.up ≤ 3) ∧ (1 ≤ s.wi ∧ s.wi ≤ 9) ∧ (0 ≤ s.be ∧ s.be ≤ 9) ∧ (0 ≤ s.lo ∧ s.lo ≤ 239) ∧ (0 ≤ s.hi ∧ s.hi ≤ 239) := by
  unfold OkS bad1 bad2
  simp only [Bool.or_eq_false_iff,off_iff,decide_eq_false_iff_not]
  constructor
  · rintro ⟨⟨h1, h2, h3⟩, h4, h5, h6, h7, h8, h9⟩; exact ⟨h1, h2, h3, h4, h5, h6, h7, h8, h9⟩
  · rintro ⟨h1, h2, h3, h4, h5, h6, h7, h8, h9⟩; exact ⟨⟨h1, h2, h3⟩, h4, h5, h6, h7, h8, h9⟩
theorem nb_of (hw : w ≤ w') (hd : ld ≤ ld') (h0 : 0 ≤ ld) (ho : ∀ t ∈ l, OkS C t) (hh : ∀ (i : Nat) s, l'[i]? = some s → ∃ (j : Nat) (t : Str), l[j]? = some t ∧ WorseS t s) : NoBetter l l' w w' ld ld' := by
  intro i s b hi hm
  obtain ⟨j, t, hj, hws⟩ := hh i s hi
  obtain ⟨-, -, -, o4, o5, -⟩ := OkS_iff.1 (ho t (List.mem_of_getElem? hj))
  refine ⟨j, t, hj, by unfold nearL; rw [hws.fr, hws.to], by unfold farL; rw [hws.fr, hws.to], ?_, fun m m0 hs => ?_⟩
  · unfold mayL at hm ⊢
    simp only [Bool.and_eq_true,Bool.or_eq_true,decide_eq_true_eq] at hm ⊢
    have := hws.wi
    have := hws.be
    exact ⟨hm.1.imp hws.bk id, by omega, by omega⟩
  · have hul : t.up * ld ≤ s.up * ld' := by
      rw [hws.up]
      exact Int.mul_le_mul_of_nonneg_left hd o5.1
    have hu0 : 0 ≤ t.up * ld := Int.mul_nonneg o5.1 h0
    have hmi := hws.mi
    refine starts_less ?_ ?_ hs m0 ?_
    · unfold takes; cases b <;> simp only [cond_true,cond_false] <;> omega
    · exact hws.shut
    · unfold takes; cases b <;> simp only [cond_true,cond_false] <;> omega
theorem tg_take {t : List Int} {n : Nat} {x : Int} : tg (t.take n) x = if x.toNat < n then tg t x else -1 := by
  unfold tg
  rw [List.getD_eq_getElem?_getD, List.getD_eq_getElem?_getD, List.getElem?_take]
  split <;> rfl
/-- What the law asks of two tables of earliest minutes. -/
def LaterT (t t' : List Int) : Prop := ∀ x : Int, 0 ≤ x → tg t x ≠ -1 → tg t' x ≠ -1 ∧ tg t' x ≤ tg t x
theorem later_take (g : Good C l ld) (g' : Good C l' ld') (hfr : 0 ≤ fr ∧ fr < C) (ha : 0 ≤ a₀ ∧ a₀ ≤ 240) (ha' : 0 ≤ a₁ ∧ a₁ ≤ 240) (hc : ∀ m x, Can l' w' ld' fr a₁ m x → Can l w ld fr a₀ m x) : LaterT ((earT C l' w' ld' fr a₁).take C.toNat) ((earT C l w ld fr a₀).take C.toNat) := by
  intro x hx
  have hC := g.hC
  rw [tg_take, tg_take]
  split
  · exact fun h => notSooner_of g g' hfr ha ha' hc x hx (by omega) h
  · exact fun h => absurd rfl h
theorem later_cart (hC : 1 ≤ C ∧ C ≤ 8) (hl : l.length ≤ 16) (ho : ∀ s ∈ l, OkS C s) (hw : w ≤ w') (hd : ld ≤ ld') (hd0 : 0 ≤ ld) (hd' : ld' ≤ 9) (hfr : 0 ≤ fr ∧ fr < C) (ha : 0 ≤ a₀ ∧ a₀ ≤ 240) : LaterT ((earT C l w' ld' fr a₀).take C.toNat) ((earT C l w ld fr a₀).take C.toNat) := by
  have g : Good C l ld := good_of (chk_of hC hl ho) (off_iff.2 (by omega))
  have g' : Good C l ld' := good_of (chk_of hC hl ho) (off_iff.2 (by omega))
  exact later_take g g' hfr ha ha fun m x h => h.better (nb_of hw hd hd0 ho fun i s hi => ⟨i, s, hi, WorseS.refl s⟩) g' ha.1 ha.2
theorem later_begin (hC : 1 ≤ C ∧ C ≤ 8) (hl : l.length ≤ 16) (ho : ∀ s ∈ l, OkS C s) (hd : 0 ≤ ld ∧ ld ≤ 9) (hfr : 0 ≤ fr ∧ fr < C) (ha : 0 ≤ a₀ ∧ a₀ ≤ a₁) (ha' : a₁ ≤ 240) : LaterT ((earT C l w ld fr a₁).take C.toNat) ((earT C l w ld fr a₀).take C.toNat) := by
  have g : Good C l ld := good_of (chk_of hC hl ho) (off_iff.2 (by omega))
  exact later_take g g hfr (by omega) (by omega) fun m x h => h.begLater ha.2 ha'
theorem later_town (hC : 1 ≤ C ∧ C ≤ 8) (hl : l.length ≤ 16) (hl' : l'.length ≤ 16) (ho : ∀ s ∈ l, OkS C s) (ho' : ∀ s ∈ l', OkS C s) (hd : 0 ≤ ld ∧ ld ≤ 9) (hfr : 0 ≤ fr ∧ fr < C) (ha : 0 ≤ a₀ ∧ a₀ ≤ 240) (hh : ∀ (i : Nat) s, l'[i]? = some s → ∃ (j : Nat) (t : Str), l[j]? = some t ∧ WorseS t s) : LaterT ((earT C l' w ld fr a₀).take C.toNat) ((earT C l w ld fr a₀).take C.toNat) := by
  have g : Good C l ld := good_of (chk_of hC hl ho) (off_iff.2 (by omega))
  have g' : Good C l' ld := good_of (chk_of hC hl' ho') (off_iff.2 (by omega))
  exact later_take g g' hfr ha ha fun m x h => h.better (nb_of (Int.le_refl _) (Int.le_refl _) hd.1 ho hh) g' ha.1 ha.2
theorem worse_erase {k : Nat} : ∀ (i : Nat) s, (l.eraseIdx k)[i]? = some s → ∃ (j : Nat) (t : Str), l[j]? = some t ∧ WorseS t s := fun i s h => by
  obtain ⟨j, hj⟩ := List.getElem?_of_mem (List.mem_of_mem_eraseIdx (List.mem_of_getElem? h))
  exact ⟨j, s, hj, WorseS.refl s⟩
theorem worse_set {k : Nat} {t s' : Str} (hk : l[k]? = some t) (hs : WorseS t s') : ∀ (i : Nat) s, (l.set k s')[i]? = some s → ∃ (j : Nat) (t : Str), l[j]? = some t ∧ WorseS t s := fun i s h => by
  rw [List.getElem?_set] at h
  split at h
  · split at h
    · cases h; exact ⟨k, t, hk, hs⟩
    · cases h
  · exact ⟨i, s, h, WorseS.refl s⟩
theorem ok_erase {k : Nat} (ho : ∀ s ∈ l, OkS C s) : ∀ s ∈ l.eraseIdx k, OkS C s := fun s h => ho s (List.mem_of_mem_eraseIdx h)
theorem ok_set {k : Nat} {s' : Str} (ho : ∀ s ∈ l, OkS C s) (h' : OkS C s') : ∀ s ∈ l.set k s', OkS C s := fun s h => by
  rcases List.mem_or_eq_of_mem_set h with h | rfl
  · exact ho s h
  · exact h'
/-- The five streets that the law tries. -/
def wrs (t : Str) : Nat → Str
  | 1 => { t with wi := if t.wi - 2 > 1 then t.wi - 2 else 1 }
  | 2 => { t with be := if t.be - 3 > 0 then t.be - 3 else 0 }
  | 3 => { t with bk := false }
  | _ => { t with lo := if t.lo - 5 > 0 then t.lo - 5 else 0, hi := if (if t.lo < t.hi then t.hi else t.lo) + 9 < 239 then (if t.lo < t.hi then t.hi else t.lo) + 9 else 239 }
theorem wrs_ok {t : Str} {i : Nat} (h : OkS C t) : OkS C (wrs t i) ∧ WorseS t (wrs t i) := by
  have h' := OkS_iff.1 h
  obtain ⟨h1, h2, h3, h4, h5, h6, h7, h8, h9⟩ := h'
  match i with
  | 1 => exact ⟨OkS_iff.2 ⟨h1, h2, h3, h4, h5, by simp only [wrs]; split <;> omega, h7, h8, h9⟩, rfl, rfl, rfl, rfl, by simp only [wrs]; split <;> omega, Int.le_refl _, id, by simp only [wrs]; omega⟩
  | 2 => exact ⟨OkS_iff.2 ⟨h1, h2, h3, h4, h5, h6, by simp only [wrs]; split <;> omega, h8, h9⟩, rfl, rfl, rfl, rfl, Int.le_refl _, by simp only [wrs]; split <;> omega, id, by simp only [wrs]; omega⟩
  | 3 => exact ⟨OkS_iff.2 ⟨h1, h2, h3, h4, h5, h6, h7, h8, h9⟩, rfl, rfl, rfl, rfl, Int.le_refl _, Int.le_refl _, fun h => by simp [wrs] at h, by simp only [wrs]; omega⟩
  | 0 => exact ⟨OkS_iff.2 ⟨h1, h2, h3, h4, h5, h6, h7, by simp only [wrs]; split <;> omega, by simp only [wrs]; split <;> split <;> omega⟩, rfl, rfl, rfl, rfl, Int.le_refl _, Int.le_refl _, id, by simp only [wrs]; right; split <;> split <;> split <;> omega⟩
  | n + 4 => exact ⟨OkS_iff.2 ⟨h1, h2, h3, h4, h5, h6, h7, by simp only [wrs]; split <;> omega, by simp only [wrs]; split <;> split <;> omega⟩, rfl, rfl, rfl, rfl, Int.le_refl _, Int.le_refl _, id, by simp only [wrs]; right; split <;> split <;> split <;> omega⟩
end
end Go.Am
/- The law StreetWorse: a town that is worse. -/
namespace Go.Am
open Go.Proofs
variable {T : Tab} {P : Program} {N L : Nat} {H : AHeap} {Q : Bool → Value → AHeap → Prop}
section
variable {l : List Str} {C w ld fr m : Int} {i8 i9 k12 c12 k : Nat} {a' : Option Addr} {cap' : Nat} {H' : AHeap} {e : VT}
theorem flat_at {i : Nat} {s : Str} {j : Nat} (h : l[i]? = some s) (hj : j < 9) : (flat l)[i * 9 + j]? = s.enc[j]? := by
  have := flat_drop l i s h
  rw [← this, List.getElem?_take, if_pos hj, List.getElem?_drop]
/-- What the law knows after the minutes are asked for. -/
structure WS (H : AHeap) (C w ld : Int) (l : List Str) (i8 i9 : Nat) (a' : Option Addr) (cap' : Nat) (fr m : Int) (k12 c12 : Nat) (e : VT) (H' : AHeap) : Prop where
  p : LP 183 H C w ld l i8 i9 a' cap' e H'
  g10 : gt 183 e 10 = .int .i64 fr
  g11 : gt 183 e 11 = .int .i64 m
  g12 : gt 183 e 12 = .slice (some ⟨k12, 0, none⟩) C.toNat c12
  l12 : k12 < H'.size
  b12 : H'.get k12 = .rw (tv ((earT C l w ld fr m).take C.toNat)) 3 true []
theorem WS.next {e' : VT} {H'' : AHeap} (I : WS H C w ld l i8 i9 a' cap' fr m k12 c12 e H') (f : Fr H' H'') (h : Keep 183 [8, 9, 10, 11, 12] e e') : WS H C w ld l i8 i9 a' cap' fr m k12 c12 e' H'' where
  p := I.p.next f (fun p hp => h p (by simp at hp ⊢; omega))
  g10 := (h 10 (by simp)).trans I.g10
  g11 := (h 11 (by simp)).trans I.g11
  g12 := (h 12 (by simp)).trans I.g12
  l12 := Nat.lt_of_lt_of_le I.l12 f.size
  b12 := (f.same _ I.l12).trans I.b12
/-- The town that the law made, and what it asks. -/
structure WX (C w ld : Int) (l : List Str) (fr m : Int) : Prop where
  hC : 2 ≤ C ∧ C ≤ 8
  hl : l.length ≤ 16
  ho : ∀ s ∈ l, OkS C s
  hw : 1 ≤ w ∧ w ≤ 5
  hd : 0 ≤ ld ∧ ld ≤ 5
  hfr : 0 ≤ fr ∧ fr < C
  hm : 0 ≤ m ∧ m ≤ 59
theorem WX.good (X : WX C w ld l fr m) : Good C l ld := by
  have := X.hC
  have := X.hd
  exact good_of (chk_of (by omega) X.hl X.ho) (off_iff.2 (by omega))
theorem WX.len (X : WX C w ld l fr m) : ((earT C l w ld fr m).take C.toNat).length = C.toNat := by
  have h1 := X.hC
  have h2 := X.hm
  rw [List.length_take, earT_len X.good X.hfr (by omega)]
  omega
theorem take_len {l' : List Str} {w' ld' m' : Int} (g : Good C l' ld') (hfr : 0 ≤ fr ∧ fr < C) (hm : 0 ≤ m' ∧ m' ≤ 240) : ((earT C l' w' ld' fr m').take C.toNat).length = C.toNat := by
  have h1 := g.hC
  rw [List.length_take, earT_len g hfr hm]
  omega
set_option maxHeartbeats 4000000 in
set_option maxRecDepth 10000 in
/-- Where the town is worse, nothing is sooner. -/
theorem c9t {l' : List Str} {kb kt : Nat} (I : WS H C w ld l i8 i9 a' cap' fr m k12 c12 e H') (X : WX C w ld l fr m) (hl' : l'.length ≤ 16) (ho' : ∀ s ∈ l', OkS C s) (hh : ∀ (i : Nat) s, l'[i]? = some s → ∃ (j : Nat) (t : Str), l[j]? = some t ∧ WorseS t s)
    (g17 : gt 183 e 17 = .pointer (some ⟨kt, 0, none⟩)) (hkt : kt < H'.size) (bt : H'.get kt = .rw [.int .i64 C, .slice (some ⟨kb, 0, none⟩) l'.length (OPEN + 9)] 24 false []) (sl' : Sl H' (some ⟨kb, 0, none⟩) l') :
    W tabA Try.prog (N + 6400) none (sub [true, true, true, true, true, true, true, true, true, true, true, false, true, false, false, true, true, false, false, true, true, true, true] (bodyOf Try.f9)) H.size ⟨183, e, H', []⟩ (endK 183 [] fun e' H'' => WS H C w ld l i8 i9 a' cap' fr m k12 c12 e' H'' ∧ gt 183 e' 103 = gt 183 e 103 ∧ gt 183 e' 15 = gt 183 e 15) := by
  have sz := I.p.fr.size
  have g9 := I.p.g9
  have b9 := I.p.b9
  have g10 := I.g10
  have g11 := I.g11
  have g12 := I.g12
  have hC := X.hC
  have hfr := X.hfr
  have hm := X.hm
  have hd := X.hd
  have hw := X.hw
  simp only [Try.f9,bodyOf,sub_nil,sub_seq0,sub_seq1,sub_block,sub_loop,sub_cond0,sub_cond1]
  simp (disch := (first | (simp only [ne_eq,Nat.reduceEqDiff,not_false_eq_true,Nat.reduceLT]; done) | omega | (simp only [yz] <;> omega) | fail)) only [↓yp,yq0,yq1,yq2,yq3,yq4,yl,ys0,ys1,Nat.reduceAdd,Nat.reduceMul,Nat.reduceSub,Nat.reduceBEq,Nat.reduceEqDiff,Nat.reduceLT,Nat.reduceLeDiff,reduceIte,Int.reduceAdd,Int.reduceSub,Int.reduceMul,Int.reduceLT,Int.reduceLE,Int.reduceEq,Int.reduceToNat,Int.reduceNeg,zed,zee,zfr,zhw,ysu,yrg,ysv,ysw,ysx,g17,g9,b9,bt,g10,g11]
  have hg' : Good C l' ld := good_of (chk_of (by omega) hl' ho') (off_iff.2 (by omega))
  refine c52 sl' (by omega) (asked_zero (cs := [fr]) (ms := [m]) (by omega) hl' ho' (by omega) (by omega) (by simp; omega) (by simp; omega)) (by omega) (by omega) ?_
  intro kx cx H3 fr3 hk1 hk2 hk3
  have sz3 := fr3.size
  have q12 : H3.get k12 = .rw (tv ((earT C l w ld fr m).take C.toNat)) 3 true [] := (fr3.same _ I.l12).trans I.b12
  have h60 := fun (N : Nat) => c60 (N := N) (cap := cx) (cap' := c12) (Il.of hk2 (by rw [hk3]; rfl)) (Il.of (Nat.lt_of_lt_of_le I.l12 sz3) (by rw [q12]; rfl)) (by rw [take_len hg' hfr (by omega)]; omega) (by rw [take_len hg' hfr (by omega), X.len]) (later_town (by omega) X.hl hl' X.ho ho' (by omega) hfr (by omega) hh)
  rw [take_len hg' hfr (by omega), X.len] at h60
  simp (disch := (first | (simp only [ne_eq,Nat.reduceEqDiff,not_false_eq_true,Nat.reduceLT]; done) | omega | (simp only [yz] <;> omega) | fail)) only [↓yp,yq0,yq1,yq2,yq3,yq4,yl,ys0,ys1,Nat.reduceAdd,Nat.reduceMul,Nat.reduceSub,Nat.reduceBEq,Nat.reduceEqDiff,Nat.reduceLT,Nat.reduceLeDiff,reduceIte,Int.reduceAdd,Int.reduceSub,Int.reduceMul,Int.reduceLT,Int.reduceLE,Int.reduceEq,Int.reduceToNat,Int.reduceNeg,zed,zee,zfr,zhw,ysu,yrg,ysv,ysw,ysx,g12,h60]
  refine ⟨I.next fr3 (by (with_reducible (repeat (first | refine Keep.put ?_ (by decide) | refine Keep.none ?_ | assumption | exact Keep.refl _ _ _)))), ?_, ?_⟩
  · simp (disch := (first | (simp only [ne_eq,Nat.reduceEqDiff,not_false_eq_true,Nat.reduceLT]; done) | omega | (simp only [yz] <;> omega) | fail)) only [yg,Nat.reduceAdd,Nat.reduceEqDiff,Nat.reduceLT]
  · simp (disch := (first | (simp only [ne_eq,Nat.reduceEqDiff,not_false_eq_true,Nat.reduceLT]; done) | omega | (simp only [yz] <;> omega) | fail)) only [yg,Nat.reduceAdd,Nat.reduceEqDiff,Nat.reduceLT]
end
end Go.Am
