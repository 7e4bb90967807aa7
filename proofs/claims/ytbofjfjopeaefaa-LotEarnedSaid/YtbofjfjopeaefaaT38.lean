import Derived.Test.YtbofjfjopeaefaaT37
set_option linter.unusedSimpArgs false
set_option linter.unusedVariables false
namespace Go.Am.K
open Go.Proofs
variable {T : Tab} {P : Program} {N L : Nat} {H H' H'' : AHeap} {Q : Bool → Value → AHeap → Prop}
theorem Gw.sv {tb i el z n : Nat} {S : Nat → Prop} {v : Value} {cs : List Value} (g : Gw H tb S v i cs el z) : sameV (n + 1) v v = true := by
 by_cases h : i = 0
 ·rw [g.nil h]; exact sv_slice
 ·obtain ⟨b, al, rfl, -⟩ := g.cons h
  exact sv_slice
section
variable {a a' al : Option Addr} {cap cap' cl i : Nat} {ps : List Pk} {gs : List Gd} {lots : Int} {l : List Int} {S1 S2 : Nat → Prop} {v1 v2 : Value} {e e' : VT}
end
end Go.Am.K
namespace Go.Am.K
open Go.Proofs
variable {T : Tab} {P : Program} {N L : Nat} {H H' H'' : AHeap} {Q : Bool → Value → AHeap → Prop}
theorem PkIn.isB {M r : Int} {p : Pk} (h : PkIn M p r) (hM : M ≤ 6) : p.isB = true := by
 have h1 := h.s
 have h2 := h.w
 have h3 := h.o
 have h4 := h.f
 unfold Pk.isB wi
 simp only [Bool.and_eq_true,decide_eq_true_eq]
 omega
theorem PkIn.sp {M r : Int} {p : Pk} (h : PkIn M p r) : p.f ≤ p.hi ∧ r ≤ p.hi := by
 have h1 := h.s
 have h2 := h.w
 have h3 := h.o
 have h4 := h.f
 have h5 := h.re
 have h6 := h.c
 unfold Pk.hi
 split <;> omega
theorem Mk.pin {k : Nat} {P M : Int} {ps : List Pk} {gs : List Gd} {rs : List Int} {lots : Int} (h : Mk k P M ps gs rs lots) {p : Pk} (hp : p ∈ ps) : ∃ r, r ∈ rs ∧ PkIn M p r := by
 obtain ⟨j, hj⟩ := List.getElem?_of_mem hp
 have hlt := (List.getElem?_eq_some_iff.1 hj).1
 have hlr : j < rs.length := by rw [h.lr]; exact hlt
 exact ⟨rs[j], List.getElem_mem hlr, h.ok j p rs[j] hj (by simp [hlr])⟩
theorem Mk.chk {k : Nat} {P M : Int} {ps : List Pk} {gs : List Gd} {rs : List Int} {lots : Int} (h : Mk k P M ps gs rs lots) (hP : P ≤ 4) (hM : M ≤ 6) : chkS ps gs lots = 0 := by
 have l1 := h.l1
 have lP := h.lP
 have g3 := h.g3
 have hl := h.lots
 have e1 : chk1 ps gs = false := by
  unfold chk1 wi
  simp only [Bool.or_eq_false_iff,Bool.not_eq_false',Bool.and_eq_true,decide_eq_true_eq,decide_eq_false_iff_not]
  omega
 have e2 : ps.all Pk.isB = true := List.all_eq_true.2 fun p hp => by
  obtain ⟨r, -, hr⟩ := h.pin hp
  exact hr.isB hM
 have e3 : gs.all Gd.isB = true := List.all_eq_true.2 fun g hg => by
  have := h.gok g hg
  unfold Gd.isB wi
  simp only [Bool.and_eq_true,decide_eq_true_eq]
  omega
 have e4 : chk2 ps gs lots = false := by
  unfold chk2 wi
  rw [e2, e3]
  simp only [Bool.not_true,Bool.or_self,Bool.false_or,Bool.not_eq_false',Bool.and_eq_true,decide_eq_true_eq]
  omega
 have e5 : (ps.all fun p => !decide (p.hi < p.f)) = true := List.all_eq_true.2 fun p hp => by
  obtain ⟨r, -, hr⟩ := h.pin hp
  have := hr.sp
  simp only [Bool.not_eq_true',decide_eq_false_iff_not]
  omega
 unfold chkS
 rw [e1, e4, h.ord, e5]; rfl
end Go.Am.K
namespace Go.Am.K
open Go.Proofs
variable {T : Tab} {P : Program} {N L : Nat} {H H' H'' : AHeap} {Q : Bool → Value → AHeap → Prop}
def pn : List Int → Int
 | [] => 1
 | m :: ms => (m + 1) * pn ms
def vl : List Int → List Int → Int
 | m :: ms, a :: xs => a * pn ms + vl ms xs
 | _, _ => 0
def LV : List Int → List Int → Prop
 | [], [] => True
 | m :: ms, a :: xs => (0 ≤ a ∧ a ≤ m) ∧ LV ms xs
 | _, _ => False
theorem LV_len : ∀ {m l : List Int}, LV m l → l.length = m.length
 | [], [], _ => rfl
 | _ :: _, _ :: _, h => by rw [List.length_cons, List.length_cons, LV_len h.2]
 | [], _ :: _, h => h.elim
 | _ :: _, [], h => h.elim
theorem vl_in : ∀ {m l : List Int}, LV m l → 0 ≤ vl m l ∧ vl m l < pn m
 | [], [], _ => ⟨Int.le_refl _, by decide⟩
 | m :: ms, a :: xs, h => by
  have ih := vl_in h.2
  have h1 := Int.mul_nonneg h.1.1 (show 0 ≤ pn ms by omega)
  have h2 := Int.mul_le_mul_of_nonneg_right h.1.2 (show 0 ≤ pn ms by omega)
  have e : pn (m :: ms) = m * pn ms + pn ms := by show (m + 1) * pn ms = _; rw [Int.add_mul, Int.one_mul]
  show 0 ≤ a * pn ms + vl ms xs ∧ a * pn ms + vl ms xs < _
  rw [e]
  omega
 | [], _ :: _, h => h.elim
 | _ :: _, [], h => h.elim
theorem vl_inj : ∀ {m l l' : List Int}, LV m l → LV m l' → vl m l = vl m l' → l = l'
 | [], [], [], _, _, _ => rfl
 | m :: ms, a :: xs, b :: bs, h, h', e => by
  have i1 := vl_in h.2
  have i2 := vl_in h'.2
  have e' : a * pn ms + vl ms xs = b * pn ms + vl ms bs := e
  have hab : a = b := by
   rcases Int.lt_trichotomy a b with hl | hl | hl
   ·have := Int.mul_le_mul_of_nonneg_right (show a + 1 ≤ b by omega) (show 0 ≤ pn ms by omega)
    rw [Int.add_mul, Int.one_mul] at this
    omega
   ·exact hl
   ·have := Int.mul_le_mul_of_nonneg_right (show b + 1 ≤ a by omega) (show 0 ≤ pn ms by omega)
    rw [Int.add_mul, Int.one_mul] at this
    omega
  subst hab
  rw [vl_inj h.2 h'.2 (by omega)]
 | [], _ :: _, _, h, _, _ => h.elim
 | [], [], _ :: _, _, h, _ => h.elim
 | _ :: _, [], _, h, _, _ => h.elim
 | _ :: _, _ :: _, [], _, h, _ => h.elim
section
variable {m0 m1 m2 m3 a b c d : Int}
theorem vl4 : vl [m0, m1, m2, m3] [a, b, c, d] = a * ((m1 + 1) * ((m2 + 1) * (m3 + 1))) + (b * ((m2 + 1) * (m3 + 1)) + (c * (m3 + 1) + d)) := by
 simp only [vl,pn,Int.mul_one,Int.add_zero]
theorem pn4 : pn [m0, m1, m2, m3] = (m0 + 1) * ((m1 + 1) * ((m2 + 1) * (m3 + 1))) := by
 simp only [pn,Int.mul_one]
theorem LV4 : LV [m0, m1, m2, m3] [a, b, c, d] ↔ (0 ≤ a ∧ a ≤ m0) ∧ (0 ≤ b ∧ b ≤ m1) ∧ (0 ≤ c ∧ c ≤ m2) ∧ (0 ≤ d ∧ d ≤ m3) := by
 simp only [LV,and_true]
theorem vl_d : vl [m0, m1, m2, m3] [a, b, c, d + 1] = vl [m0, m1, m2, m3] [a, b, c, d] + 1 := by rw [vl4, vl4]; omega
theorem vl_c : vl [m0, m1, m2, m3] [a, b, c + 1, 0] = vl [m0, m1, m2, m3] [a, b, c, m3] + 1 := by
 rw [vl4, vl4, Int.add_mul c 1, Int.one_mul]; omega
theorem vl_b : vl [m0, m1, m2, m3] [a, b + 1, 0, 0] = vl [m0, m1, m2, m3] [a, b, m2, m3] + 1 := by
 rw [vl4, vl4, Int.add_mul b 1, Int.one_mul, Int.zero_mul, Int.add_mul m2 1, Int.one_mul]; omega
theorem vl_a : vl [m0, m1, m2, m3] [a + 1, 0, 0, 0] = vl [m0, m1, m2, m3] [a, m1, m2, m3] + 1 := by
 rw [vl4, vl4, Int.add_mul a 1, Int.one_mul, Int.zero_mul, Int.zero_mul, Int.add_mul m1 1, Int.one_mul, Int.add_mul m2 1, Int.one_mul]; omega
theorem vl_z : pn [m0, m1, m2, m3] = vl [m0, m1, m2, m3] [m0, m1, m2, m3] + 1 := by
 rw [vl4, pn4, Int.add_mul m0 1, Int.one_mul, Int.add_mul m1 1, Int.one_mul, Int.add_mul m2 1, Int.one_mul]; omega
theorem pn_le (h0 : 0 ≤ m0 ∧ m0 ≤ 6) (h1 : 0 ≤ m1 ∧ m1 ≤ 6) (h2 : 0 ≤ m2 ∧ m2 ≤ 6) (h3 : 0 ≤ m3 ∧ m3 ≤ 6) : pn [m0, m1, m2, m3] ≤ 2401 := by
 rw [pn4]
 have a1 : (m2 + 1) * (m3 + 1) ≤ 7 * 7 := Int.mul_le_mul (by omega) (by omega) (by omega) (by omega)
 have a2 : 0 ≤ (m2 + 1) * (m3 + 1) := Int.mul_nonneg (by omega) (by omega)
 have b1 : (m1 + 1) * ((m2 + 1) * (m3 + 1)) ≤ 7 * (7 * 7) := Int.mul_le_mul (by omega) a1 a2 (by omega)
 have b2 : 0 ≤ (m1 + 1) * ((m2 + 1) * (m3 + 1)) := Int.mul_nonneg (by omega) a2
 exact Int.mul_le_mul (show m0 + 1 ≤ 7 by omega) b1 b2 (by omega)
end
section
variable {m0 m1 m2 m3 a b c d : Int} {b1 i3 : Nat} {e : VT} {Q : Exit → ES → Prop}
set_option maxHeartbeats 4000000 in
theorem c131i (hm : (0 ≤ m0 ∧ m0 ≤ 6) ∧ (0 ≤ m1 ∧ m1 ≤ 6) ∧ (0 ≤ m2 ∧ m2 ≤ 6) ∧ (0 ≤ m3 ∧ m3 ≤ 6)) (hv : (0 ≤ a ∧ a ≤ m0) ∧ (0 ≤ b ∧ b ≤ m1) ∧ (0 ≤ c ∧ c ≤ m2) ∧ (0 ≤ d ∧ d ≤ m3)) (g1 : gt 30 e 1 = .pointer (some ⟨b1, 0, none⟩)) (g3 : gt 30 e 3 = .pointer (some ⟨i3, 0, none⟩))
  (bl : H.get i3 = .rw [.int .i64 a, .int .i64 b, .int .i64 c, .int .i64 d] 119 false []) (bm : H.get b1 = .rw [.int .i64 m0, .int .i64 m1, .int .i64 m2, .int .i64 m3] 119 false []) (l3 : i3 < H.size) (l1 : b1 < H.size) (hne : b1 ≠ i3) (hL : L ≤ i3)
  (hN : ∀ (a' b' c' d' : Int) (e' : VT) (H' : AHeap), LV [m0, m1, m2, m3] [a', b', c', d'] → vl [m0, m1, m2, m3] [a', b', c', d'] = vl [m0, m1, m2, m3] [a, b, c, d] + 1 → Keep 30 [0, 1, 3] e e' → H'.size = H.size → (∀ j, j ≠ i3 → H'.get j = H.get j) → H'.get i3 = .rw [.int .i64 a', .int .i64 b', .int .i64 c', .int .i64 d'] 119 false [] → Q .normal ⟨30, e', H', []⟩)
  (hR : ∀ (e' : VT) (H' : AHeap), pn [m0, m1, m2, m3] = vl [m0, m1, m2, m3] [a, b, c, d] + 1 → H'.size = H.size → (∀ j, j ≠ i3 → H'.get j = H.get j) → Q .ret ⟨30, e', H', []⟩) :
  W tabA Try.prog (N + 100) none (sub [true, false, false, true, false] (bodyOf Try.f131)) L ⟨30, e, H, []⟩ Q := by
 have hne' : i3 ≠ b1 := Ne.symm hne
 have mm3 : decide (m3 = m3) = true := by simp
 have mm2 : decide (m2 = m2) = true := by simp
 have mm1 : decide (m1 = m1) = true := by simp
 have mm0 : decide (m0 = m0) = true := by simp
 have w3 : w64 2 = 2 := w64_of (by omega)
 have w2 : w64 1 = 1 := w64_of (by omega)
 have w1 : w64 0 = 0 := w64_of (by omega)
 have w0 : w64 (-1) = -1 := w64_of (by omega)
 have wd : w64 (d + 1) = d + 1 := w64_of (by omega)
 have wc : w64 (c + 1) = c + 1 := w64_of (by omega)
 have wb : w64 (b + 1) = b + 1 := w64_of (by omega)
 have wa : w64 (a + 1) = a + 1 := w64_of (by omega)
 simp only [Try.f131,bodyOf,sub_nil,sub_seq0,sub_seq1,sub_block,sub_loop,sub_cond0,sub_cond1]
 simp (disch:=first|(simp only [yk,seval];done)|omega|(simp only [yz]<;>omega)|fail) only [↓yp,yA,ys0,ys1,seval,fitB,newC,endD,endR,yrg]
 cases hd : decide (d = m3)
 ·have hd' := of_decide_eq_false hd
  have V := (LV4 (m0 := m0) (m1 := m1) (m2 := m2) (m3 := m3) (a := a) (b := b) (c := c) (d := d + 1)).2 (by omega)
  clear hm hv
  rw [W_loop]
  simp (disch:=first|(simp only [yk,seval];done)|omega|(simp only [yz]<;>omega)|fail) only [↓yp,yA,ys0,ys1,seval,fitB,newC,endD,endR,yrg]
  refine W_draw [] rfl (by kernel_rfl) (by kernel_rfl) (by first|omega|(simp only [yz]<;>omega)) ?_
  simp (disch:=first|(simp only [yk,seval];done)|omega|(simp only [yz]<;>omega)|fail) only [↓yp,yA,ys0,ys1,seval,fitB,newC,endD,endR,yrg,g1,g3,A_indexArr st_arS_119,bl,bm,hd,wd]
  refine hN _ _ _ _ _ _ V vl_d (by (with_reducible repeat first|refine Keep.put ?_ (by decide)|refine Keep.none ?_|assumption|exact Keep.refl _ _ _)) (by first|omega|(simp only [yz]<;>omega)) (fun j hj => ?_) ?_
  ·simp only [get_put_ne hj]
  ·rw [get_put_same (by first|omega|(simp only [yz]<;>omega))]
 obtain rfl := of_decide_eq_true hd
 cases hc : decide (c = m2)
 ·have hc' := of_decide_eq_false hc
  have V := (LV4 (m0 := m0) (m1 := m1) (m2 := m2) (m3 := d) (a := a) (b := b) (c := c + 1) (d := 0)).2 (by omega)
  clear hm hv
  rw [W_loop]
  simp (disch:=first|(simp only [yk,seval];done)|omega|(simp only [yz]<;>omega)|fail) only [↓yp,yA,ys0,ys1,seval,fitB,newC,endD,endR,yrg]
  refine W_draw [] rfl (by kernel_rfl) (by kernel_rfl) (by first|omega|(simp only [yz]<;>omega)) ?_
  simp (disch:=first|(simp only [yk,seval];done)|omega|(simp only [yz]<;>omega)|fail) only [↓yp,yA,ys0,ys1,seval,fitB,newC,endD,endR,yrg,g1,g3,A_indexArr st_arS_119,bl,bm,mm3,w3]
  rw [W_loop]
  simp (disch:=first|(simp only [yk,seval];done)|omega|(simp only [yz]<;>omega)|fail) only [↓yp,yA,ys0,ys1,seval,fitB,newC,endD,endR,yrg]
  refine W_draw [] rfl (by kernel_rfl) (by kernel_rfl) (by first|omega|(simp only [yz]<;>omega)) ?_
  simp (disch:=first|(simp only [yk,seval];done)|omega|(simp only [yz]<;>omega)|fail) only [↓yp,yA,ys0,ys1,seval,fitB,newC,endD,endR,yrg,g1,g3,A_indexArr st_arS_119,bl,bm,hc,wc]
  refine hN _ _ _ _ _ _ V vl_c (by (with_reducible repeat first|refine Keep.put ?_ (by decide)|refine Keep.none ?_|assumption|exact Keep.refl _ _ _)) (by first|omega|(simp only [yz]<;>omega)) (fun j hj => ?_) ?_
  ·simp only [get_put_ne hj]
  ·rw [get_put_same (by first|omega|(simp only [yz]<;>omega))]
 obtain rfl := of_decide_eq_true hc
 cases hb : decide (b = m1)
 ·have hb' := of_decide_eq_false hb
  have V := (LV4 (m0 := m0) (m1 := m1) (m2 := c) (m3 := d) (a := a) (b := b + 1) (c := 0) (d := 0)).2 (by omega)
  clear hm hv
  rw [W_loop]
  simp (disch:=first|(simp only [yk,seval];done)|omega|(simp only [yz]<;>omega)|fail) only [↓yp,yA,ys0,ys1,seval,fitB,newC,endD,endR,yrg]
  refine W_draw [] rfl (by kernel_rfl) (by kernel_rfl) (by first|omega|(simp only [yz]<;>omega)) ?_
  simp (disch:=first|(simp only [yk,seval];done)|omega|(simp only [yz]<;>omega)|fail) only [↓yp,yA,ys0,ys1,seval,fitB,newC,endD,endR,yrg,g1,g3,A_indexArr st_arS_119,bl,bm,mm3,w3]
  rw [W_loop]
  simp (disch:=first|(simp only [yk,seval];done)|omega|(simp only [yz]<;>omega)|fail) only [↓yp,yA,ys0,ys1,seval,fitB,newC,endD,endR,yrg]
  refine W_draw [] rfl (by kernel_rfl) (by kernel_rfl) (by first|omega|(simp only [yz]<;>omega)) ?_
  simp (disch:=first|(simp only [yk,seval];done)|omega|(simp only [yz]<;>omega)|fail) only [↓yp,yA,ys0,ys1,seval,fitB,newC,endD,endR,yrg,g1,g3,A_indexArr st_arS_119,bl,bm,mm2,w2]
  rw [W_loop]
  simp (disch:=first|(simp only [yk,seval];done)|omega|(simp only [yz]<;>omega)|fail) only [↓yp,yA,ys0,ys1,seval,fitB,newC,endD,endR,yrg]
  refine W_draw [] rfl (by kernel_rfl) (by kernel_rfl) (by first|omega|(simp only [yz]<;>omega)) ?_
  simp (disch:=first|(simp only [yk,seval];done)|omega|(simp only [yz]<;>omega)|fail) only [↓yp,yA,ys0,ys1,seval,fitB,newC,endD,endR,yrg,g1,g3,A_indexArr st_arS_119,bl,bm,hb,wb]
  refine hN _ _ _ _ _ _ V vl_b (by (with_reducible repeat first|refine Keep.put ?_ (by decide)|refine Keep.none ?_|assumption|exact Keep.refl _ _ _)) (by first|omega|(simp only [yz]<;>omega)) (fun j hj => ?_) ?_
  ·simp only [get_put_ne hj]
  ·rw [get_put_same (by first|omega|(simp only [yz]<;>omega))]
 obtain rfl := of_decide_eq_true hb
 cases ha : decide (a = m0)
 ·have ha' := of_decide_eq_false ha
  have V := (LV4 (m0 := m0) (m1 := b) (m2 := c) (m3 := d) (a := a + 1) (b := 0) (c := 0) (d := 0)).2 (by omega)
  clear hm hv
  rw [W_loop]
  simp (disch:=first|(simp only [yk,seval];done)|omega|(simp only [yz]<;>omega)|fail) only [↓yp,yA,ys0,ys1,seval,fitB,newC,endD,endR,yrg]
  refine W_draw [] rfl (by kernel_rfl) (by kernel_rfl) (by first|omega|(simp only [yz]<;>omega)) ?_
  simp (disch:=first|(simp only [yk,seval];done)|omega|(simp only [yz]<;>omega)|fail) only [↓yp,yA,ys0,ys1,seval,fitB,newC,endD,endR,yrg,g1,g3,A_indexArr st_arS_119,bl,bm,mm3,w3]
  rw [W_loop]
  simp (disch:=first|(simp only [yk,seval];done)|omega|(simp only [yz]<;>omega)|fail) only [↓yp,yA,ys0,ys1,seval,fitB,newC,endD,endR,yrg]
  refine W_draw [] rfl (by kernel_rfl) (by kernel_rfl) (by first|omega|(simp only [yz]<;>omega)) ?_
  simp (disch:=first|(simp only [yk,seval];done)|omega|(simp only [yz]<;>omega)|fail) only [↓yp,yA,ys0,ys1,seval,fitB,newC,endD,endR,yrg,g1,g3,A_indexArr st_arS_119,bl,bm,mm2,w2]
  rw [W_loop]
  simp (disch:=first|(simp only [yk,seval];done)|omega|(simp only [yz]<;>omega)|fail) only [↓yp,yA,ys0,ys1,seval,fitB,newC,endD,endR,yrg]
  refine W_draw [] rfl (by kernel_rfl) (by kernel_rfl) (by first|omega|(simp only [yz]<;>omega)) ?_
  simp (disch:=first|(simp only [yk,seval];done)|omega|(simp only [yz]<;>omega)|fail) only [↓yp,yA,ys0,ys1,seval,fitB,newC,endD,endR,yrg,g1,g3,A_indexArr st_arS_119,bl,bm,mm1,w1]
  rw [W_loop]
  simp (disch:=first|(simp only [yk,seval];done)|omega|(simp only [yz]<;>omega)|fail) only [↓yp,yA,ys0,ys1,seval,fitB,newC,endD,endR,yrg]
  refine W_draw [] rfl (by kernel_rfl) (by kernel_rfl) (by first|omega|(simp only [yz]<;>omega)) ?_
  simp (disch:=first|(simp only [yk,seval];done)|omega|(simp only [yz]<;>omega)|fail) only [↓yp,yA,ys0,ys1,seval,fitB,newC,endD,endR,yrg,g1,g3,A_indexArr st_arS_119,bl,bm,ha,wa]
  refine hN _ _ _ _ _ _ V vl_a (by (with_reducible repeat first|refine Keep.put ?_ (by decide)|refine Keep.none ?_|assumption|exact Keep.refl _ _ _)) (by first|omega|(simp only [yz]<;>omega)) (fun j hj => ?_) ?_
  ·simp only [get_put_ne hj]
  ·rw [get_put_same (by first|omega|(simp only [yz]<;>omega))]
 obtain rfl := of_decide_eq_true ha
 clear hm hv
 rw [W_loop]
 simp (disch:=first|(simp only [yk,seval];done)|omega|(simp only [yz]<;>omega)|fail) only [↓yp,yA,ys0,ys1,seval,fitB,newC,endD,endR,yrg]
 refine W_draw [] rfl (by kernel_rfl) (by kernel_rfl) (by first|omega|(simp only [yz]<;>omega)) ?_
 simp (disch:=first|(simp only [yk,seval];done)|omega|(simp only [yz]<;>omega)|fail) only [↓yp,yA,ys0,ys1,seval,fitB,newC,endD,endR,yrg,g1,g3,A_indexArr st_arS_119,bl,bm,mm3,w3]
 rw [W_loop]
 simp (disch:=first|(simp only [yk,seval];done)|omega|(simp only [yz]<;>omega)|fail) only [↓yp,yA,ys0,ys1,seval,fitB,newC,endD,endR,yrg]
 refine W_draw [] rfl (by kernel_rfl) (by kernel_rfl) (by first|omega|(simp only [yz]<;>omega)) ?_
 simp (disch:=first|(simp only [yk,seval];done)|omega|(simp only [yz]<;>omega)|fail) only [↓yp,yA,ys0,ys1,seval,fitB,newC,endD,endR,yrg,g1,g3,A_indexArr st_arS_119,bl,bm,mm2,w2]
 rw [W_loop]
 simp (disch:=first|(simp only [yk,seval];done)|omega|(simp only [yz]<;>omega)|fail) only [↓yp,yA,ys0,ys1,seval,fitB,newC,endD,endR,yrg]
 refine W_draw [] rfl (by kernel_rfl) (by kernel_rfl) (by first|omega|(simp only [yz]<;>omega)) ?_
 simp (disch:=first|(simp only [yk,seval];done)|omega|(simp only [yz]<;>omega)|fail) only [↓yp,yA,ys0,ys1,seval,fitB,newC,endD,endR,yrg,g1,g3,A_indexArr st_arS_119,bl,bm,mm1,w1]
 rw [W_loop]
 simp (disch:=first|(simp only [yk,seval];done)|omega|(simp only [yz]<;>omega)|fail) only [↓yp,yA,ys0,ys1,seval,fitB,newC,endD,endR,yrg]
 refine W_draw [] rfl (by kernel_rfl) (by kernel_rfl) (by first|omega|(simp only [yz]<;>omega)) ?_
 simp (disch:=first|(simp only [yk,seval];done)|omega|(simp only [yz]<;>omega)|fail) only [↓yp,yA,ys0,ys1,seval,fitB,newC,endD,endR,yrg,g1,g3,A_indexArr st_arS_119,bl,bm,mm0,w0]
 rw [W_loop]
 simp (disch:=first|(simp only [yk,seval];done)|omega|(simp only [yz]<;>omega)|fail) only [↓yp,yA,ys0,ys1,seval,fitB,newC,endD,endR,yrg]
 refine W_draw [] rfl (by kernel_rfl) (by kernel_rfl) (by first|omega|(simp only [yz]<;>omega)) ?_
 simp (disch:=first|(simp only [yk,seval];done)|omega|(simp only [yz]<;>omega)|fail) only [↓yp,yA,ys0,ys1,seval,fitB,newC,endD,endR,yrg,w0]
 refine hR _ _ vl_z (by simp only [size_put]) (fun j hj => ?_)
 simp only [get_put_ne hj]
end
section
variable {I : Nat → AHeap → Prop} {m0 m1 m2 m3 : Int} {b1 lb base K₀ : Nat}
set_option maxHeartbeats 4000000 in
theorem c131 (hm : (0 ≤ m0 ∧ m0 ≤ 6) ∧ (0 ≤ m1 ∧ m1 ≤ 6) ∧ (0 ≤ m2 ∧ m2 ≤ 6) ∧ (0 ≤ m3 ∧ m3 ≤ 6))
  (up : ∀ k H' H'', I k H' → Fr H' H'' → I k H'') (pt : ∀ k H' H'' j, I k H' → base ≤ j → H''.size = H'.size → (∀ i, i ≠ j → H''.get i = H'.get i) → I k H'') (sz : ∀ k H', I k H' → base ≤ H'.size)
  (mb : ∀ k H', I k H' → H'.get b1 = .rw [.int .i64 m0, .int .i64 m1, .int .i64 m2, .int .i64 m3] 119 false []) (hb1 : b1 < base) (hdn : ∀ k H'', I k H'' → Fr H H'' → I k H) (hL : L ≤ base) (hb : base ≤ H.size)
  (hy : ∀ M, K₀ ≤ M → ∀ (k : Nat) H' (l : List Int), I k H' → LV [m0, m1, m2, m3] l → vl [m0, m1, m2, m3] l = k → resK (ayield (aexec tabA Try.prog M) lb [.agg ⟨tv l⟩] H') L fun _ v H'' => v = .bool true ∧ I (k + 1) H'' ∧ H'.size ≤ H''.size ∧ ∀ j, base ≤ j → j < H'.size → H''.get j = H'.get j)
  (hI₀ : I 0 H) {M : Nat} (hM : K₀ + 2800 ≤ M) (hq : ∀ q v H'', I (pn [m0, m1, m2, m3]).toNat H'' → Q q v H'') :
  resK (acall tabA (aexec tabA Try.prog M) 131 [.func (.yield lb) ⟨[]⟩ ⟨[]⟩, .pointer (some ⟨b1, 0, none⟩)] H) L Q := by
 obtain ⟨N, rfl⟩ : ∃ N, M = N + K₀ + 2800 := ⟨M - (K₀ + 2800), by omega⟩
 refine call_keep tabA_fr (k := 30) (rs := []) (R := fun _ H'' => I (pn [m0, m1, m2, m3]).toNat H'') rfl fn_131 rfl rfl rfl (by omega) ?_ (fun v H'' h => hq _ _ _ h) (fun v H'' h _ fr => hq _ _ _ (hdn _ _ h fr))
 have hpn := pn_le hm.1 hm.2.1 hm.2.2.1 hm.2.2.2
 obtain ⟨TL, hTL⟩ : ∃ c, sub [true, false, false, true, false] (bodyOf Try.f131) = c := ⟨_, rfl⟩
 have hTL0 := hTL
 simp only [Try.f131,bodyOf,sub_nil,sub_seq0,sub_seq1,sub_block,sub_loop,sub_cond0,sub_cond1] at hTL
 rw [hTL]
 clear hTL
 simp (disch:=first|(simp only [yk,seval];done)|omega|(simp only [yz]<;>omega)|fail) only [↓yp,yA,ys0,ys1,seval,fitB,newC,endD,endR,yrg]
 refine W_whileD K₀ 200 (fun q e H' ds => ∃ a b c d : Int, LV [m0, m1, m2, m3] [a, b, c, d] ∧ q = (pn [m0, m1, m2, m3] - vl [m0, m1, m2, m3] [a, b, c, d]).toNat ∧ ds = [] ∧ gt 30 e 0 = .func (.yield lb) ⟨[]⟩ ⟨[]⟩ ∧ gt 30 e 1 = .pointer (some ⟨b1, 0, none⟩) ∧ gt 30 e 3 = .pointer (some ⟨H.size, 0, none⟩) ∧ H.size < H'.size ∧ H'.get H.size = .rw [.int .i64 a, .int .i64 b, .int .i64 c, .int .i64 d] 119 false [] ∧ I (vl [m0, m1, m2, m3] [a, b, c, d]).toNat H')
  ?_ 2401 (pn [m0, m1, m2, m3]).toNat ⟨0, 0, 0, 0, LV4.2 (by omega), by rw [vl4]; simp, rfl, by simp (disch:=first|(simp only [yk,seval];done)|omega|(simp only [yz]<;>omega)|fail) only [yg,seval], by simp (disch:=first|(simp only [yk,seval];done)|omega|(simp only [yz]<;>omega)|fail) only [yg,seval], by simp (disch:=first|(simp only [yk,seval];done)|omega|(simp only [yz]<;>omega)|fail) only [yg,seval], by (first | omega | (simp only [yz] <;> omega)), by simp (disch:=first|(simp only [yk,seval];done)|omega|(simp only [yz]<;>omega)|fail) only [yg,seval], ?_⟩ (by omega) (by omega)
 rotate_left
 ·rw [vl4]
  simp only [Int.zero_mul,Int.add_zero,Int.toNat_zero]
  exact up _ _ _ hI₀ (by repeat first|exact Fr.refl _|assumption|refine Fr.allocd ?_ _|refine Fr.put ?_ (by first|omega|(simp only [yz]<;>omega)) _)
 rintro M1 q e H1 ds hM1 ⟨a, b, c, d, hv, rfl, rfl, g0, g1, g3, lt, bl, hI⟩
 have hin := vl_in hv
 obtain ⟨k, hk⟩ : ∃ k : Nat, vl [m0, m1, m2, m3] [a, b, c, d] = k := ⟨(vl [m0, m1, m2, m3] [a, b, c, d]).toNat, by omega⟩
 rw [hk, Int.toNat_natCast] at hI
 have hsz := sz _ _ hI
 simp (disch:=first|(simp only [yk,seval];done)|omega|(simp only [yz]<;>omega)|fail) only [↓yp,yA,ys0,ys1,seval,fitB,newC,endD,endR,yrg,g0,g3,bl,calK_yield]
 refine resK_mono (hy _ (by omega) k H1 [a, b, c, d] hI hv hk) ?_
 rintro q v H2 ⟨rfl, hI2, hs2, ho2⟩
 have bl2 : H2.get H.size = .rw [.int .i64 a, .int .i64 b, .int .i64 c, .int .i64 d] 119 false [] := (ho2 _ hb lt).trans bl
 have bm2 := mb _ _ hI2
 simp (disch:=first|(simp only [yk,seval];done)|omega|(simp only [yz]<;>omega)|fail) only [↓yp,yA,ys0,ys1,seval,fitB,newC,endD,endR,yrg]
 rw [← hTL0]
 refine c131i (N := M1 + 98) (L := L) (i3 := H.size) (b1 := b1) hm (LV4.1 hv) ?_ ?_ bl2 bm2 (by omega) (by omega) (by omega) (by omega) ?_ ?_
 ·simp (disch:=first|(simp only [yk,seval];done)|omega|(simp only [yz]<;>omega)|fail) only [yg,seval,g1]
 ·simp (disch:=first|(simp only [yk,seval];done)|omega|(simp only [yz]<;>omega)|fail) only [yg,seval,g3]
 ·intro a' b' c' d' e' H3 V hval kp hs3 ho3 hb3
  have m0' := kp 0 (by decide)
  have m1' := kp 1 (by decide)
  have m3' := kp 3 (by decide)
  simp (disch:=first|(simp only [yk,seval];done)|omega|(simp only [yz]<;>omega)|fail) only [yg,seval,g0] at m0'
  simp (disch:=first|(simp only [yk,seval];done)|omega|(simp only [yz]<;>omega)|fail) only [yg,seval,g1] at m1'
  simp (disch:=first|(simp only [yk,seval];done)|omega|(simp only [yz]<;>omega)|fail) only [yg,seval,g3] at m3'
  simp (disch:=first|(simp only [yk,seval];done)|omega|(simp only [yz]<;>omega)|fail) only [↓yp,yA,ys0,ys1,seval,fitB,newC,endD,endR,yrg]
  refine ⟨_, ?_, a', b', c', d', V, rfl, rfl, m0', m1', m3', by omega, hb3, ?_⟩
  ·rw [hval, hk]; omega
  ·rw [hval, hk, show ((k : Int) + 1).toNat = k + 1 by omega]
   exact pt _ _ _ _ hI2 hb hs3 ho3
 ·intro e' H3 hpv hs3 ho3
  simp (disch:=first|(simp only [yk,seval];done)|omega|(simp only [yz]<;>omega)|fail) only [↓yp,yA,ys0,ys1,seval,fitB,newC,endD,endR,yrg,resV_none]
  rw [hpv, hk, show ((k : Int) + 1).toNat = k + 1 by omega]
  exact pt _ _ _ _ hI2 hb hs3 ho3
end
end Go.Am.K
