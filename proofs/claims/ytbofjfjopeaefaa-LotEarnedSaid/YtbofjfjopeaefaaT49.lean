import Derived.Test.YtbofjfjopeaefaaT47
import Derived.Test.YtbofjfjopeaefaaT48
import Derived.Test.YtbofjfjopeaefaaT41
set_option linter.unusedSimpArgs false
set_option linter.unusedVariables false
namespace Go.Am.K
open Go.Proofs
variable {T : Tab} {P : Program} {N L : Nat} {H H' H'' : AHeap} {Q : Bool → Value → AHeap → Prop}
theorem rows_of : ∀ {cs : List Value} {R : Nat → Option Addr × Nat × Nat → Prop}, (∀ j, j < cs.length → ∃ r, cs[j]? = some (.slice r.1 r.2.1 r.2.2) ∧ R j r) → ∃ rs : List (Option Addr × Nat × Nat), rs.length = cs.length ∧ rowE.fl rs = cs ∧ ∀ j r, rs[j]? = some r → R j r
 | [], R, _ => ⟨[], rfl, rfl, fun j r h => by simp at h⟩
 | c :: cs, R, h => by
  obtain ⟨r, h1, h2⟩ := h 0 (by simp)
  simp only [List.getElem?_cons_zero,Option.some.injEq] at h1
  obtain ⟨rs, k1, k2, k3⟩ := rows_of (cs := cs) (R := fun j => R (j + 1)) fun j hj => by
   obtain ⟨r, e1, e2⟩ := h (j + 1) (by simpa using hj)
   exact ⟨r, by simpa using e1, e2⟩
  refine ⟨r :: rs, by rw [List.length_cons, List.length_cons, k1], ?_, fun j r' hr => ?_⟩
  ·show [Value.slice r.1 r.2.1 r.2.2] ++ rowE.fl rs = c :: cs
   rw [k2, ← h1]; rfl
  ·cases j with
   | zero => simp only [List.getElem?_cons_zero,Option.some.injEq] at hr; subst hr; exact h2
   | succ j => exact k3 j r' (by simpa using hr)
theorem LV_get : ∀ {m x : List Int} {i : Nat} {a b : Int}, LV m x → m[i]? = some a → x[i]? = some b → 0 ≤ b ∧ b ≤ a
 | [], [], i, a, b, _, h, _ => by simp at h
 | c :: m, d :: x, i, a, b, hv, h1, h2 => by
  cases i with
  | zero =>
   simp only [List.getElem?_cons_zero,Option.some.injEq] at h1 h2
   subst h1 h2
   exact hv.1
  | succ i => exact LV_get (i := i) hv.2 (by simpa using h1) (by simpa using h2)
 | [], _ :: _, _, _, _, hv, _, _ => hv.elim
 | _ :: _, [], _, _, _, hv, _, _ => hv.elim
theorem LV_of : ∀ {m x : List Int}, x.length = m.length → (∀ (i : Nat) (a b : Int), m[i]? = some a → x[i]? = some b → 0 ≤ b ∧ b ≤ a) → LV m x
 | [], [], _, _ => trivial
 | c :: m, d :: x, hl, h => ⟨h 0 c d rfl rfl, LV_of (by simpa using hl) fun i a b h1 h2 => h (i + 1) a b (by simpa using h1) (by simpa using h2)⟩
 | [], _ :: _, hl, _ => by simp at hl
 | _ :: _, [], hl, _ => by simp at hl
section
variable {ps left : List Pk} {gs : List Gd} {l : List Int}
theorem stk_lt {i : Nat} {p : Pk} (h : ps.length ≤ 4) (hp : ps[i]? = some p) : (stk ps)[i]? = some p.s := by
 have hi := (List.getElem?_eq_some_iff.1 hp).1
 unfold stk pt
 rw [List.getElem?_append_left (by rw [List.length_take, List.length_map]; omega), List.getElem?_take_of_lt hi, List.getElem?_map, hp]; rfl
theorem stk_ge {i : Nat} {v : Int} (h : ps.length ≤ 4) (hi : ps.length ≤ i) (hv : (stk ps)[i]? = some v) : v = 0 := by
 have h4 := (List.getElem?_eq_some_iff.1 hv).1
 rw [stk_len h] at h4
 unfold stk pt at hv
 rw [List.getElem?_append_right (by rw [List.length_take, List.length_map]; omega), List.length_take, List.length_map, List.getElem?_replicate] at hv
 split at hv
 ·exact (Option.some.inj hv).symm
 ·cases hv
theorem mx_lt {i : Nat} (h : i < l.length) : (mx l)[i]? = l[i]? := by
 unfold mx pt
 rw [List.getElem?_append_left (by rw [List.length_take]; omega), List.getElem?_take_of_lt h]
theorem mx_ge {i : Nat} {v : Int} (hi : l.length ≤ i) (hv : (mx l)[i]? = some v) : v = 0 := by
 unfold mx pt at hv
 rw [List.getElem?_append_right (by rw [List.length_take]; omega), List.getElem?_replicate] at hv
 split at hv
 ·exact (Option.some.inj hv).symm
 ·cases hv
theorem LV_cut {y : List Int} (h : ps.length ≤ 4) (hy : LV (stk ps) y) : LotOk ps (y.take ps.length) ∧ mx (y.take ps.length) = y := by
 have hl : y.length = 4 := by rw [LV_len hy, stk_len h]
 have htl : (y.take ps.length).length = ps.length := by rw [List.length_take]; omega
 refine ⟨⟨htl, fun j n p hn hp => ?_⟩, ?_⟩
 ·have hj := (List.getElem?_eq_some_iff.1 hp).1
  rw [List.getElem?_take_of_lt hj] at hn
  exact LV_get hy (stk_lt h hp) hn
 ·apply List.ext_getElem?
  intro i
  by_cases hi : i < ps.length
  ·rw [mx_lt (by omega), List.getElem?_take_of_lt hi]
  ·by_cases h4 : i < 4
   ·obtain ⟨a, ha⟩ : ∃ a, y[i]? = some a := ⟨y[i]'(by omega), List.getElem?_eq_getElem _⟩
    obtain ⟨b, hb⟩ : ∃ b, (mx (y.take ps.length))[i]? = some b := ⟨(mx (y.take ps.length))[i]'(by rw [mx_len (by omega)]; exact h4), List.getElem?_eq_getElem _⟩
    obtain ⟨c, hc⟩ : ∃ c, (stk ps)[i]? = some c := ⟨(stk ps)[i]'(by rw [stk_len h]; exact h4), List.getElem?_eq_getElem _⟩
    have e1 := mx_ge (by omega) hb
    have e2 := stk_ge h (by omega) hc
    have e3 := LV_get hy hc ha
    rw [ha, hb]
    congr 1
    omega
   ·rw [List.getElem?_eq_none (by rw [mx_len (by omega)]; omega), List.getElem?_eq_none (by omega)]
theorem lot_LV (h : ps.length ≤ 4) (hl : LotOk ps l) : LV (stk ps) (mx l) := by
 have hll := hl.len
 refine LV_of (by rw [mx_len (by omega), stk_len h]) fun i a b h1 h2 => ?_
 by_cases hi : i < ps.length
 ·have hp : ps[i]? = some ps[i] := by simp [hi]
  rw [stk_lt h hp] at h1
  rw [mx_lt (by omega)] at h2
  cases h1
  exact hl.ok i b _ h2 hp
 ·have e1 := stk_ge h (by omega) h1
  have e2 := mx_ge (by omega) h2
  omega
theorem cst_nn {r pr : List Int} (h1 : ∀ v ∈ r, 0 ≤ v) (h2 : ∀ v ∈ pr, 0 ≤ v) : 0 ≤ cst r pr := by
 unfold cst
 refine isum_nn fun v hv => ?_
 obtain ⟨i, hi⟩ := List.getElem?_of_mem hv
 unfold cstL at hi
 rw [List.getElem?_zipWith] at hi
 cases e1 : r[i]? with
 | none => rw [e1] at hi; cases hi
 | some a =>
  cases e2 : pr[i]? with
  | none => rw [e1, e2] at hi; cases hi
  | some b =>
   rw [e1, e2] at hi
   have := Option.some.inj hi
   rw [← this]
   exact Int.mul_nonneg (h1 a (List.mem_of_getElem? e1)) (h2 b (List.mem_of_getElem? e2))
theorem cst_sub : ∀ {r x pr : List Int}, LV r x → cst (sbL r x) pr = cst r pr - cst x pr
 | [], [], pr, _ => by unfold cst cstL; simp [sbL, isum]
 | m :: ms, a :: xs, [], _ => by unfold cst cstL; simp [isum]
 | m :: ms, a :: xs, p :: pr, h => by
  have ih := cst_sub (pr := pr) h.2
  show (m - a) * p + cst (sbL ms xs) pr = (m * p + cst ms pr) - (a * p + cst xs pr)
  rw [ih, Int.sub_mul]
  omega
 | [], _ :: _, _, h => h.elim
 | _ :: _, [], _, h => h.elim
theorem sbL_nn : ∀ {r x : List Int}, LV r x → ∀ v ∈ sbL r x, 0 ≤ v
 | [], [], _, v, hv => by simp [sbL] at hv
 | m :: ms, a :: xs, h, v, hv => by
  rcases List.mem_cons.1 (show v ∈ (m - a) :: sbL ms xs from hv) with rfl | hv
  ·have := h.1; omega
  ·exact sbL_nn h.2 v hv
 | [], _ :: _, h, _, _ => h.elim
 | _ :: _, [], h, _, _ => h.elim
theorem Pl_cst {b : List Int → Int} {pr : List Int} (hp : ∀ v ∈ pr, 0 ≤ v) : ∀ {M : List (List Int)} {r : List Int} {k : Nat}, Pl r k M → (∀ v ∈ r, 0 ≤ v) → (∀ x ∈ M, b x ≤ cst x pr) → totL b M ≤ cst r pr
 | [], r, k, _, hr, _ => cst_nn hr hp
 | x :: M, r, k, h, hr, hx => by
  match k, h with
  | k + 1, h =>
   have ih := Pl_cst (b := b) hp h.2 (sbL_nn h.1) fun y hy => hx y (by simp [hy])
   rw [cst_sub h.1] at ih
   have := hx x (by simp)
   show b x + totL b M ≤ _
   omega
  | 0, h => exact h.elim
theorem opt_cst {k : Nat} {v : Int} {pr : List Int} (hk : ∀ p ∈ ps, p.Ok) (hp : ∀ v ∈ pr, 0 ≤ v) (h : OptR (brg ps gs) (stk ps) k v) (hx : ¬ ∃ x, LV (stk ps) x ∧ cst x pr < brg ps gs x) : v ≤ cst (stk ps) pr := by
 obtain ⟨M, h1, h2⟩ := h.ex
 rw [← h2]
 refine Pl_cst hp h1 (fun v hv => (stk_in hk v hv).1) fun x hm => ?_
 by_cases hc : cst x pr < brg ps gs x
 ·exact absurd ⟨x, Pl_mem h1 hm, hc⟩ hx
 ·omega
theorem cst_const {p0 : Int} : ∀ {x pr : List Int}, (∀ v ∈ pr, v = p0) → pr.length ≤ x.length → cst x pr = isum (x.take pr.length) * p0
 | x, [], _, _ => by unfold cst cstL; simp [isum]
 | [], p :: pr, _, h => by simp at h
 | a :: x, p :: pr, h, hl => by
  have ih := cst_const (x := x) (pr := pr) (fun v hv => h v (by simp [hv])) (by simpa using hl)
  have hp := h p (by simp)
  show a * p + cst x pr = (a + isum (x.take pr.length)) * p0
  rw [ih, hp, Int.add_mul]
theorem first_ok {pr : List Int} {g0 : Gd} (hl : ps.length ≤ 4) (hk : ∀ p ∈ ps, p.Ok) (ho : ordB gs = true) (hg : ∀ g ∈ gs, g.Ok) (h0 : gs[0]? = some g0) (hpl : pr.length = ps.length) (hp : ∀ v ∈ pr, v = g0.pr) : ¬ ∃ x, LV (stk ps) x ∧ cst x pr < brg ps gs x := by
 rintro ⟨x, hx, hlt⟩
 have hx4 : x.length = 4 := by rw [LV_len hx, stk_len hl]
 rw [cst_const hp (by omega), hpl] at hlt
 have hm := (LV_cut hl hx).2
 have hs : isum (x.take ps.length) = isum x := by
  have := mx_sum (l := x.take ps.length)
  rw [hm] at this
  exact this.symm
 rw [hs] at hlt
 have h6 := LV_in hx fun n hn => (stk_in hk n hn).2
 have hn := (m_sum hx4 h6).1
 have hgr : (grd ps gs x).pr ≤ g0.pr := by
  unfold grd
  cases hf : gs.find? (hasG (isum x) (isum (fo false ps x))) with
  | none => exact (hg g0 (List.mem_of_getElem? h0)).p.1
  | some g => exact ord_first ho h0 g (List.mem_of_find?_eq_some hf)
 have := Int.mul_le_mul_of_nonneg_left hgr hn
 unfold brg at hlt
 omega
end
end Go.Am.K
namespace Go.Am.K
open Go.Proofs
variable {T : Tab} {P : Program} {N L : Nat} {H H' H'' : AHeap} {Q : Bool → Value → AHeap → Prop}
section
variable {p : Pk}
end
end Go.Am.K
namespace Go.Am.K
open Go.Proofs
variable {T : Tab} {P : Program} {N L : Nat} {H H' H'' : AHeap} {Q : Bool → Value → AHeap → Prop}
section
variable {a a' : Option Addr} {cap cap' : Nat} {ps : List Pk} {gs : List Gd} {lots : Int}
end
end Go.Am.K
