import Derived.Test.YtjpcaamfcfkmhaaT51
import Derived.Test.YtjpcaamfcfkmhaaT50
set_option linter.unusedSimpArgs false
set_option linter.unusedVariables false
namespace Go.Am.K
open Go.Proofs
variable {T : Tab} {P : Program} {N L : Nat} {H H' H'' : AHeap} {Q : Bool → Value → AHeap → Prop}
theorem isum_mono : ∀ {a b : List Int}, a.length = b.length → (∀ (j : Nat) (x y : Int), a[j]? = some x → b[j]? = some y → x ≤ y) → isum a ≤ isum b
 | [], [], _, _ => by simp [isum]
 | [], _ :: _, h, _ => by simp at h
 | _ :: _, [], h, _ => by simp at h
 | x :: a, y :: b, hl, h => by
  have h0 := h 0 x y rfl rfl
  have ih := isum_mono (a := a) (b := b) (by simpa using hl) fun j x y h1 h2 => h (j + 1) x y (by simpa using h1) (by simpa using h2)
  unfold isum
  omega
theorem tru_span {ps : List Pk} {l fl il : List Int} (hlo : LotOk ps l) (hfl : fl.length = ps.length) (hil : il.length = ps.length) (hf : Fits ps fl ps.length) (hi : ∀ (j : Nat) (p : Pk) (n f x : Int), ps[j]? = some p → l[j]? = some n → fl[j]? = some f → il[j]? = some x → InB p n f x) :
  isum (fo true ps l) ≤ isum il ∧ isum il ≤ isum (fo false ps l) := by
 have ll := hlo.len
 have e1 := fo_len (s := true) (ps := ps) (m := l) (by omega)
 have e2 := fo_len (s := false) (ps := ps) (m := l) (by omega)
 have all : ∀ (j : Nat), j < ps.length → ∃ p n f x, ps[j]? = some p ∧ l[j]? = some n ∧ fl[j]? = some f ∧ il[j]? = some x ∧ InB p n f x ∧ (p.f ≤ f ∧ f ≤ p.hi) := fun j hj => by
  have h1 : j < l.length := by omega
  have h2 : j < fl.length := by omega
  have h3 : j < il.length := by omega
  have a1 : ps[j]? = some ps[j] := by simp [hj]
  have a2 : l[j]? = some l[j] := by simp [h1]
  have a3 : fl[j]? = some fl[j] := by simp [h2]
  have a4 : il[j]? = some il[j] := by simp [h3]
  exact ⟨_, _, _, _, a1, a2, a3, a4, hi j _ _ _ _ a1 a2 a3 a4, hf j _ _ hj a1 a3⟩
 constructor
 ·refine isum_mono (by omega) fun j x y hx hy => ?_
  have hj := (List.getElem?_eq_some_iff.1 hy).1
  obtain ⟨p, n, f, z, a1, a2, a3, a4, hin, hff⟩ := all j (by omega)
  rw [fo_get a1 a2] at hx
  rw [a4] at hy
  cases hx
  cases hy
  show p.il n ≤ _
  unfold InB at hin
  unfold Pk.il
  split <;> omega
 ·refine isum_mono (by omega) fun j x y hx hy => ?_
  have hj := (List.getElem?_eq_some_iff.1 hx).1
  obtain ⟨p, n, f, z, a1, a2, a3, a4, hin, hff⟩ := all j (by omega)
  rw [fo_get a1 a2] at hy
  rw [a4] at hx
  cases hx
  cases hy
  show _ ≤ p.ih n
  unfold InB at hin
  unfold Pk.ih
  split <;> omega
theorem Mk.fits {k : Nat} {P M : Int} {ps : List Pk} {gs : List Gd} {rs : List Int} {lots : Int} (h : Mk k P M ps gs rs lots) : Fits ps rs ps.length := fun j p f _ hp hf => by
 have h1 := h.ok j p f hp hf
 exact ⟨h1.re.1, h1.sp.2⟩
section
variable {kq cq i5 b1 c1 b2 c2 b3 c3 b4 c4 i10 : Nat} {aq : Option Addr} {bq rs l : List Int} {ps : List Pk} {gs : List Gd} {lots lo hi sv : Int} {e e' : VT}
theorem LS.blocks (I : LS H H' 268 kq aq bq cq i5 b1 c1 b2 c2 b3 c3 ps gs rs lots e) (h1 : 1 ≤ ps.length) (h2 : 1 ≤ gs.length) (h3 : 1 ≤ rs.length) : b1 < H'.size ∧ b2 < H'.size ∧ b3 < H'.size := by
 obtain ⟨b, o, c, e1, l1, -⟩ := I.r1.rw.get (by rintro rfl; simp at h1)
 obtain ⟨b', o', c', e2, l2, -⟩ := I.r2.rw.get (by rintro rfl; simp at h2)
 obtain ⟨b'', o'', c'', e3, l3, -⟩ := I.r3.rw.get (by rintro rfl; simp at h3)
 cases e1
 cases e2
 cases e3
 exact ⟨l1, l2, l3⟩
end
end Go.Am.K
namespace Go.Am.K
open Go.Proofs
variable {T : Tab} {P : Program} {N L : Nat} {H H' H'' : AHeap} {Q : Bool → Value → AHeap → Prop}
theorem isum_set : ∀ {a : List Int} {i : Nat} {x v : Int}, a[i]? = some x → isum (a.set i v) = isum a - x + v
 | [], i, x, v, h => by simp at h
 | y :: a, 0, x, v, h => by
  simp at h
  subst h
  simp only [List.set_cons_zero,isum]
  omega
 | y :: a, i + 1, x, v, h => by
  have ih := isum_set (a := a) (i := i) (x := x) (v := v) (by simpa using h)
  simp only [List.set_cons_succ,isum]
  omega
theorem fo_set {s : Bool} : ∀ {ps : List Pk} {l : List Int} {i : Nat} {q : Pk} {m : Int}, l[i]? = some m → i < ps.length → fo s (ps.set i q) l = (fo s ps l).set i (q.sel s m)
 | [], l, i, q, m, _, h => by simp at h
 | p :: ps, [], i, q, m, h, _ => by simp at h
 | p :: ps, n :: l, 0, q, m, h, _ => by
  simp at h
  subst h
  rfl
 | p :: ps, n :: l, i + 1, q, m, h, h' => by
  simp only [List.set_cons_succ,fo]
  rw [fo_set (by simpa using h) (by simpa using h')]
structure TF (P : Int → Bool) (f b : Int) (K : Nat) (t : Int × Int) : Prop where
 all : ∀ n, f ≤ n → n < f + K → P n = true → t.1 ≤ n ∧ n ≤ t.2
 some_ : (∃ n, f ≤ n ∧ n < f + K ∧ P n = true) → P t.1 = true ∧ P t.2 = true ∧ f ≤ t.1 ∧ t.2 < f + K
 none_ : (∀ n, f ≤ n → n < f + K → P n = false) → t = (b, f)
theorem tellF_ok {P : Int → Bool} {f b : Int} : ∀ K : Nat, f + K ≤ b + 1 → TF P f b K (tellF P f b K)
 | 0, _ => ⟨fun n h1 h2 => by omega, fun ⟨n, h1, h2, _⟩ => by omega, fun _ => rfl⟩
 | K + 1, hK => by
  have ih := tellF_ok (P := P) (f := f) (b := b) K (by omega)
  obtain ⟨t, ht⟩ : ∃ t, tellF P f b K = t := ⟨_, rfl⟩
  rw [ht] at ih
  have e : tellF P f b (K + 1) = tellS P t (f + K) := by rw [← ht]; rfl
  rw [e]
  cases hP : P (f + K)
  ·have e2 : tellS P t (f + K) = t := by unfold tellS; rw [hP]; rfl
   rw [e2]
   refine ⟨fun n h1 h2 h3 => ?_, fun ⟨n, h1, h2, h3⟩ => ?_, fun h => ih.none_ fun n h1 h2 => h n h1 (by omega)⟩
   ·by_cases hn : n = f + K
    ·rw [hn, hP] at h3; cases h3
    ·exact ih.all n h1 (by omega) h3
   ·by_cases hn : n = f + K
    ·rw [hn, hP] at h3; cases h3
    ·have := ih.some_ ⟨n, h1, by omega, h3⟩
     exact ⟨this.1, this.2.1, this.2.2.1, by omega⟩
  ·have e2 : tellS P t (f + K) = (if f + K < t.1 then f + K else t.1, if f + K > t.2 then f + K else t.2) := by unfold tellS; rw [hP]; rfl
   rw [e2]
   by_cases hex : ∃ n, f ≤ n ∧ n < f + K ∧ P n = true
   ·obtain ⟨s1, s2, s3, s4⟩ := ih.some_ hex
    obtain ⟨n0, n1, n2, n3⟩ := hex
    have ha := ih.all n0 n1 n2 n3
    have e3 : (if f + (K : Int) < t.1 then f + K else t.1) = t.1 := if_neg (by omega)
    have e4 : (if f + (K : Int) > t.2 then f + K else t.2) = f + K := if_pos (by omega)
    rw [e3, e4]
    refine ⟨fun n h1 h2 h3 => ?_, fun _ => ⟨s1, hP, s3, by show f + (K : Int) < _; omega⟩, fun h => ?_⟩
    ·show t.1 ≤ n ∧ n ≤ f + K
     by_cases hn : n = f + K
     ·omega
     ·have := ih.all n h1 (by omega) h3
      omega
    ·have := h n0 n1 (by omega)
     rw [n3] at this; cases this
   ·have hno : ∀ n, f ≤ n → n < f + K → P n = false := fun n h1 h2 => by
     cases hn : P n with
     | false => rfl
     | true => exact absurd ⟨n, h1, h2, hn⟩ hex
    have := ih.none_ hno
    rw [this]
    have e3 : (if f + (K : Int) < b then f + K else b) = f + K := by split <;> omega
    have e4 : (if f + (K : Int) > f then f + K else f) = f + K := by split <;> omega
    show TF P f b (K + 1) (if f + (K : Int) < b then f + K else b, if f + (K : Int) > f then f + K else f)
    rw [e3, e4]
    refine ⟨fun n h1 h2 h3 => ?_, fun _ => ⟨hP, hP, by show f ≤ f + (K : Int); omega, by show f + (K : Int) < _; omega⟩, fun h => ?_⟩
    ·show f + (K : Int) ≤ n ∧ n ≤ f + K
     by_cases hn : n = f + K
     ·omega
     ·rw [hno n h1 (by omega)] at h3; cases h3
    ·have := h (f + K) (by omega) (by omega)
     rw [hP] at this; cases this
section
variable {ps : List Pk} {gs : List Gd} {l il rs : List Int} {lots op fd n m : Int} {i : Nat} {p : Pk}
def max0 (x : Int) : Int := if x > 0 then x else 0
def min2 (x y : Int) : Int := if y < x then y else x
def oth (s : Bool) (ps : List Pk) (l : List Int) (i : Nat) : Int := isum ((fo s ps l).set i 0)
theorem il_ih (hp : p.Ok) (hs : p.f ≤ p.hi) (hm : 0 ≤ m ∧ m ≤ p.s) : p.il m ≤ p.ih m := by
 obtain ⟨z1, z2, z3, z4⟩ := hp
 have h5 : p.hi ≤ p.s := by unfold Pk.hi; split <;> omega
 unfold Pk.il Pk.ih
 split <;> split <;> omega
theorem oth_le (hk : ∀ p ∈ ps, p.Ok) (hs : ∀ p ∈ ps, p.f ≤ p.hi) (hl : LotOk ps l) : oth true ps l i ≤ oth false ps l i := by
 have e1 := fo_len (s := true) (ps := ps) (m := l) (by rw [hl.len]; exact Nat.le_refl _)
 have e2 := fo_len (s := false) (ps := ps) (m := l) (by rw [hl.len]; exact Nat.le_refl _)
 refine isum_mono (by rw [List.length_set, List.length_set]; omega) fun j x y hx hy => ?_
 by_cases e : i = j
 ·subst e
  have hj := (List.getElem?_eq_some_iff.1 hx).1
  rw [List.length_set] at hj
  rw [List.getElem?_set_self hj] at hx
  rw [List.getElem?_set_self (by omega)] at hy
  cases hx
  cases hy
  exact Int.le_refl _
 ·rw [List.getElem?_set_ne e] at hx hy
  have hj := (List.getElem?_eq_some_iff.1 hx).1
  have h1 : j < ps.length := by omega
  have h2 : j < l.length := by rw [hl.len]; exact h1
  rw [fo_get (p := ps[j]) (n := l[j]) (by simp [h1]) (by simp [h2])] at hx hy
  cases hx
  cases hy
  exact il_ih (hk _ (List.getElem_mem h1)) (hs _ (List.getElem_mem h1)) (hl.ok j _ _ (by simp [h2]) (by simp [h1]))
theorem fo_oth {s : Bool} (hi : ps[i]? = some p) (hm : l[i]? = some m) : isum (fo s ps l) = oth s ps l i + p.sel s m := by
 unfold oth
 rw [isum_set (fo_get hi hm)]
 omega
theorem fo_kn {s : Bool} {q : Pk} (hi : ps[i]? = some p) (hm : l[i]? = some m) : isum (fo s (ps.set i q) l) = oth s ps l i + q.sel s m := by
 have hlt := (List.getElem?_eq_some_iff.1 hi).1
 rw [fo_set hm hlt, isum_set (fo_get hi hm), fo_oth (s := s) hi hm]
 omega
theorem kn_il : (kn p n).il m = max0 (n - (p.s - m)) := by
 show (if 0 > n - (p.s - m) then 0 else n - (p.s - m)) = _
 unfold max0
 split <;> split <;> omega
theorem kn_ih (hp : p.Ok) (hn : p.f ≤ n ∧ n ≤ p.hi) : (kn p n).ih m = min2 m n := by
 unfold Pk.ih
 rw [kn_hi hp hn]
 unfold min2
 split <;> split <;> omega
def askN (ps : List Pk) (l : List Int) (op fd : Int) (i : Nat) (p : Pk) (m n : Int) : Bool := decide (oth true ps l i + max0 (n - (p.s - m)) ≤ lfHi ps l op fd) && decide (lfLo ps l fd ≤ oth false ps l i + min2 m n)
theorem nonE_ask (hst : StOk ps gs lots) (hl : LotOk ps l) (hi : ps[i]? = some p) (hm : l[i]? = some m) (ho : 0 ≤ op ∧ op ≤ isum l) (hf : 0 ≤ fd ∧ fd ≤ op) (hn : p.f ≤ n ∧ n ≤ p.hi) : nonE ps l op fd i p n = askN ps l op fd i p m n := by
 have hk : ∀ p ∈ ps, p.Ok := fun p hp => Pk.isB_ok (List.all_eq_true.1 hst.pb p hp)
 have hpm := List.mem_of_getElem? hi
 have hpo := hk p hpm
 have hmm := hl.ok i m p hm hi
 have hA := oth_le (i := i) hk hst.sp hl
 have e1 := fo_kn (s := true) (q := kn p n) hi hm
 have e2 := fo_kn (s := false) (q := kn p n) hi hm
 have e3 := fo_oth (s := true) hi hm
 have e4 := fo_oth (s := false) hi hm
 rw [show (kn p n).sel true m = (kn p n).il m from rfl, kn_il] at e1
 rw [show (kn p n).sel false m = (kn p n).ih m from rfl, kn_ih hpo hn] at e2
 rw [show p.sel true m = p.il m from rfl] at e3
 rw [show p.sel false m = p.ih m from rfl] at e4
 obtain ⟨z1, z2, z3, z4⟩ := hpo
 have h5 : p.hi ≤ p.s := by unfold Pk.hi; split <;> omega
 have b1 : max0 (n - (p.s - m)) ≤ p.ih m := by unfold max0 Pk.ih; split <;> split <;> omega
 have b2 : p.il m ≤ min2 m n := by unfold min2 Pk.il; split <;> split <;> omega
 have b3 : max0 (n - (p.s - m)) ≤ min2 m n := by unfold min2 max0; split <;> split <;> omega
 unfold nonE askN lfHi lfLo
 rw [e1, e2, e3, e4]
 rw [Bool.eq_iff_iff]
 simp only [Bool.not_eq_true',decide_eq_false_iff_not,Bool.and_eq_true,decide_eq_true_eq]
 split <;> split <;> split <;> split <;> omega
theorem askN_mid {x y z : Int} (h1 : x ≤ y) (h2 : y ≤ z) (hx : askN ps l op fd i p m x = true) (hz : askN ps l op fd i p m z = true) : askN ps l op fd i p m y = true := by
 unfold askN at *
 simp only [Bool.and_eq_true,decide_eq_true_eq] at *
 have a1 : max0 (y - (p.s - m)) ≤ max0 (z - (p.s - m)) := by unfold max0; split <;> split <;> omega
 have a2 : min2 m x ≤ min2 m y := by unfold min2; split <;> split <;> omega
 omega
theorem told_ok (hst : StOk ps gs lots) (hl : LotOk ps l) (hi : ps[i]? = some p) (hm : l[i]? = some m) (ho : 0 ≤ op ∧ op ≤ isum l) (hf : 0 ≤ fd ∧ fd ≤ op) {r : Int} (hr : p.f ≤ r ∧ r ≤ p.hi) (hask : askN ps l op fd i p m r = true) :
  (p.f ≤ (toldV ps l op fd i p).1 ∧ (toldV ps l op fd i p).2 ≤ p.hi) ∧ wi r (toldV ps l op fd i p).1 (toldV ps l op fd i p).2 = true ∧ ∀ n, p.f ≤ n → n ≤ p.hi → askN ps l op fd i p m n = wi n (toldV ps l op fd i p).1 (toldV ps l op fd i p).2 := by
 have hsp := hst.sp p (List.mem_of_getElem? hi)
 have hK : ((p.hi - p.f + 1).toNat : Int) = p.hi - p.f + 1 := by omega
 have tf := tellF_ok (P := nonE ps l op fd i p) (f := p.f) (b := p.hi) (p.hi - p.f + 1).toNat (by omega)
 rw [show tellF (nonE ps l op fd i p) p.f p.hi (p.hi - p.f + 1).toNat = toldV ps l op fd i p from rfl] at tf
 obtain ⟨t, ht⟩ : ∃ t, toldV ps l op fd i p = t := ⟨_, rfl⟩
 rw [ht] at tf ⊢
 have ne : ∀ n, p.f ≤ n ∧ n ≤ p.hi → nonE ps l op fd i p n = askN ps l op fd i p m n := fun n hn => nonE_ask hst hl hi hm ho hf hn
 obtain ⟨s1, s2, s3, s4⟩ := tf.some_ ⟨r, hr.1, by omega, by rw [ne r hr]; exact hask⟩
 have hra := tf.all r hr.1 (by omega) (by rw [ne r hr]; exact hask)
 have hlast : t.2 ≤ p.hi := by omega
 refine ⟨⟨s3, hlast⟩, by unfold wi; simp; omega, fun n h1 h2 => ?_⟩
 cases hn : askN ps l op fd i p m n
 ·cases hw : wi n t.1 t.2 with
  | false => rfl
  | true =>
   unfold wi at hw
   simp only [Bool.and_eq_true,decide_eq_true_eq] at hw
   have := askN_mid hw.1 hw.2 (by rw [← ne t.1 (by omega)]; exact s1) (by rw [← ne t.2 (by omega)]; exact s2)
   rw [this] at hn; cases hn
 ·have := tf.all n h1 (by omega) (by rw [ne n ⟨h1, h2⟩]; exact hn)
  symm
  unfold wi
  simp; omega
theorem told_none (hst : StOk ps gs lots) (hl : LotOk ps l) (hi : ps[i]? = some p) (hm : l[i]? = some m) (hb : ∀ n, p.f ≤ n → n ≤ p.hi → askN ps l 0 0 i p m n = true) (hs : 0 ≤ isum l) : toldV ps l 0 0 i p = (p.f, p.hi) := by
 have hsp := hst.sp p (List.mem_of_getElem? hi)
 obtain ⟨h1, h2, h3⟩ := told_ok hst hl hi hm (op := 0) (fd := 0) (by omega) (by omega) (r := p.f) (by omega) (hb _ (by omega) (by omega))
 have k1 := h3 p.f (by omega) (by omega)
 have k2 := h3 p.hi (by omega) (by omega)
 rw [hb _ (by omega) (by omega)] at k1 k2
 unfold wi at k1 k2
 have k1' := k1.symm
 have k2' := k2.symm
 simp only [Bool.and_eq_true,decide_eq_true_eq] at k1' k2'
 exact Prod.ext (by omega) (by omega)
end
end Go.Am.K
