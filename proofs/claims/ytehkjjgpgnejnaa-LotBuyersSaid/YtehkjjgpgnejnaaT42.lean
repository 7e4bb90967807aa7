import Derived.Test.YtehkjjgpgnejnaaT41
import Derived.Test.YtehkjjgpgnejnaaT40
set_option linter.unusedSimpArgs false
set_option linter.unusedVariables false
namespace Go.Am.K
open Go.Proofs
variable {T : Tab} {P : Program} {N L : Nat} {H H' H'' : AHeap} {Q : Bool → Value → AHeap → Prop}
def Fits (ps : List Pk) (fl : List Int) (i : Nat) : Prop := ∀ (j : Nat) (p : Pk) (f : Int), j < i → ps[j]? = some p → fl[j]? = some f → p.f ≤ f ∧ f ≤ p.hi
section
variable {kq cq i5 b1 c1 b2 c2 b3 c3 b4 c4 i10 : Nat} {aq : Option Addr} {bq rs l : List Int} {ps : List Pk} {gs : List Gd} {lots lo hi sv : Int} {e e' : VT}
end
end Go.Am.K
namespace Go.Am.K
open Go.Proofs
variable {T : Tab} {P : Program} {N L : Nat} {H H' H'' : AHeap} {Q : Bool → Value → AHeap → Prop}
theorem isum_mono : ∀ {a b : List Int}, a.length = b.length → (∀ (j : Nat) (x y : Int), a[j]? = some x → b[j]? = some y → x ≤ y) → isum a ≤ isum b
 | [], [], _, _ => by simp [isum]
 | [], _ :: _, h, _ => by simp at h
 | _ :: _, [], h, _ => by simp at h
 | x :: a, y :: b, hl, h => by
  have h0 := h 0 x y rfl rfl
  have ih := isum_mono (a := a) (b := b) (by simpa using hl) fun j x y h1 h2 => h (j + 1) x y (by simpa using h1) (by simpa using h2)
  unfold isum
  omega
theorem Mk.fits {k : Nat} {P M : Int} {ps : List Pk} {gs : List Gd} {rs : List Int} {lots : Int} (h : Mk k P M ps gs rs lots) : Fits ps rs ps.length := fun j p f _ hp hf => by
 have h1 := h.ok j p f hp hf
 exact ⟨h1.re.1, h1.sp.2⟩
section
variable {kq cq i5 b1 c1 b2 c2 b3 c3 b4 c4 i10 : Nat} {aq : Option Addr} {bq rs l : List Int} {ps : List Pk} {gs : List Gd} {lots lo hi sv : Int} {e e' : VT}
theorem LS.blocks (I : LS H H' 268 kq aq bq cq i5 b1 c1 b2 c2 b3 c3 ps gs rs lots e) (h1 : 1 ≤ ps.length) (h2 : 1 ≤ gs.length) (h3 : 1 ≤ rs.length) : b1 < H'.size ∧ b2 < H'.size ∧ b3 < H'.size := by
 obtain ⟨b, o, c, e1, l1, -⟩ := I.r1.rw.get (by rintro rfl; simp at h1)
 obtain ⟨b', o', c', e2, l2, -⟩ := I.r2.rw.get (by rintro rfl; simp at h2)
 obtain ⟨b'', o'', c'', e3, l3, -⟩ := I.r3.rw.get (by rintro rfl; simp at h3)
 cases e1
 cases e2
 cases e3
 exact ⟨l1, l2, l3⟩
end
end Go.Am.K
namespace Go.Am.K
open Go.Proofs
variable {T : Tab} {P : Program} {N L : Nat} {H H' H'' : AHeap} {Q : Bool → Value → AHeap → Prop}
theorem isum_set : ∀ {a : List Int} {i : Nat} {x v : Int}, a[i]? = some x → isum (a.set i v) = isum a - x + v
 | [], i, x, v, h => by simp at h
 | y :: a, 0, x, v, h => by
  simp at h
  subst h
  simp only [List.set_cons_zero,isum]
  omega
 | y :: a, i + 1, x, v, h => by
  have ih := isum_set (a := a) (i := i) (x := x) (v := v) (by simpa using h)
  simp only [List.set_cons_succ,isum]
  omega
theorem fo_set {s : Bool} : ∀ {ps : List Pk} {l : List Int} {i : Nat} {q : Pk} {m : Int}, l[i]? = some m → i < ps.length → fo s (ps.set i q) l = (fo s ps l).set i (q.sel s m)
 | [], l, i, q, m, _, h => by simp at h
 | p :: ps, [], i, q, m, h, _ => by simp at h
 | p :: ps, n :: l, 0, q, m, h, _ => by
  simp at h
  subst h
  rfl
 | p :: ps, n :: l, i + 1, q, m, h, h' => by
  simp only [List.set_cons_succ,fo]
  rw [fo_set (by simpa using h) (by simpa using h')]
structure TF (P : Int → Bool) (f b : Int) (K : Nat) (t : Int × Int) : Prop where
 all : ∀ n, f ≤ n → n < f + K → P n = true → t.1 ≤ n ∧ n ≤ t.2
 some_ : (∃ n, f ≤ n ∧ n < f + K ∧ P n = true) → P t.1 = true ∧ P t.2 = true ∧ f ≤ t.1 ∧ t.2 < f + K
 none_ : (∀ n, f ≤ n → n < f + K → P n = false) → t = (b, f)
theorem tellF_ok {P : Int → Bool} {f b : Int} : ∀ K : Nat, f + K ≤ b + 1 → TF P f b K (tellF P f b K)
 | 0, _ => ⟨fun n h1 h2 => by omega, fun ⟨n, h1, h2, _⟩ => by omega, fun _ => rfl⟩
 | K + 1, hK => by
  have ih := tellF_ok (P := P) (f := f) (b := b) K (by omega)
  obtain ⟨t, ht⟩ : ∃ t, tellF P f b K = t := ⟨_, rfl⟩
  rw [ht] at ih
  have e : tellF P f b (K + 1) = tellS P t (f + K) := by rw [← ht]; rfl
  rw [e]
  cases hP : P (f + K)
  ·have e2 : tellS P t (f + K) = t := by unfold tellS; rw [hP]; rfl
   rw [e2]
   refine ⟨fun n h1 h2 h3 => ?_, fun ⟨n, h1, h2, h3⟩ => ?_, fun h => ih.none_ fun n h1 h2 => h n h1 (by omega)⟩
   ·by_cases hn : n = f + K
    ·rw [hn, hP] at h3; cases h3
    ·exact ih.all n h1 (by omega) h3
   ·by_cases hn : n = f + K
    ·rw [hn, hP] at h3; cases h3
    ·have := ih.some_ ⟨n, h1, by omega, h3⟩
     exact ⟨this.1, this.2.1, this.2.2.1, by omega⟩
  ·have e2 : tellS P t (f + K) = (if f + K < t.1 then f + K else t.1, if f + K > t.2 then f + K else t.2) := by unfold tellS; rw [hP]; rfl
   rw [e2]
   by_cases hex : ∃ n, f ≤ n ∧ n < f + K ∧ P n = true
   ·obtain ⟨s1, s2, s3, s4⟩ := ih.some_ hex
    obtain ⟨n0, n1, n2, n3⟩ := hex
    have ha := ih.all n0 n1 n2 n3
    have e3 : (if f + (K : Int) < t.1 then f + K else t.1) = t.1 := if_neg (by omega)
    have e4 : (if f + (K : Int) > t.2 then f + K else t.2) = f + K := if_pos (by omega)
    rw [e3, e4]
    refine ⟨fun n h1 h2 h3 => ?_, fun _ => ⟨s1, hP, s3, by show f + (K : Int) < _; omega⟩, fun h => ?_⟩
    ·show t.1 ≤ n ∧ n ≤ f + K
     by_cases hn : n = f + K
     ·omega
     ·have := ih.all n h1 (by omega) h3
      omega
    ·have := h n0 n1 (by omega)
     rw [n3] at this; cases this
   ·have hno : ∀ n, f ≤ n → n < f + K → P n = false := fun n h1 h2 => by
     cases hn : P n with
     | false => rfl
     | true => exact absurd ⟨n, h1, h2, hn⟩ hex
    have := ih.none_ hno
    rw [this]
    have e3 : (if f + (K : Int) < b then f + K else b) = f + K := by split <;> omega
    have e4 : (if f + (K : Int) > f then f + K else f) = f + K := by split <;> omega
    show TF P f b (K + 1) (if f + (K : Int) < b then f + K else b, if f + (K : Int) > f then f + K else f)
    rw [e3, e4]
    refine ⟨fun n h1 h2 h3 => ?_, fun _ => ⟨hP, hP, by show f ≤ f + (K : Int); omega, by show f + (K : Int) < _; omega⟩, fun h => ?_⟩
    ·show f + (K : Int) ≤ n ∧ n ≤ f + K
     by_cases hn : n = f + K
     ·omega
     ·rw [hno n h1 (by omega)] at h3; cases h3
    ·have := h (f + K) (by omega) (by omega)
     rw [hP] at this; cases this
section
variable {ps : List Pk} {gs : List Gd} {l il rs : List Int} {lots op fd n m : Int} {i : Nat} {p : Pk}
def max0 (x : Int) : Int := if x > 0 then x else 0
def min2 (x y : Int) : Int := if y < x then y else x
def oth (s : Bool) (ps : List Pk) (l : List Int) (i : Nat) : Int := isum ((fo s ps l).set i 0)
theorem il_ih (hp : p.Ok) (hs : p.f ≤ p.hi) (hm : 0 ≤ m ∧ m ≤ p.s) : p.il m ≤ p.ih m := by
 obtain ⟨z1, z2, z3, z4⟩ := hp
 have h5 : p.hi ≤ p.s := by unfold Pk.hi; split <;> omega
 unfold Pk.il Pk.ih
 split <;> split <;> omega
theorem oth_le (hk : ∀ p ∈ ps, p.Ok) (hs : ∀ p ∈ ps, p.f ≤ p.hi) (hl : LotOk ps l) : oth true ps l i ≤ oth false ps l i := by
 have e1 := fo_len (s := true) (ps := ps) (m := l) (by rw [hl.len]; exact Nat.le_refl _)
 have e2 := fo_len (s := false) (ps := ps) (m := l) (by rw [hl.len]; exact Nat.le_refl _)
 refine isum_mono (by rw [List.length_set, List.length_set]; omega) fun j x y hx hy => ?_
 by_cases e : i = j
 ·subst e
  have hj := (List.getElem?_eq_some_iff.1 hx).1
  rw [List.length_set] at hj
  rw [List.getElem?_set_self hj] at hx
  rw [List.getElem?_set_self (by omega)] at hy
  cases hx
  cases hy
  exact Int.le_refl _
 ·rw [List.getElem?_set_ne e] at hx hy
  have hj := (List.getElem?_eq_some_iff.1 hx).1
  have h1 : j < ps.length := by omega
  have h2 : j < l.length := by rw [hl.len]; exact h1
  rw [fo_get (p := ps[j]) (n := l[j]) (by simp [h1]) (by simp [h2])] at hx hy
  cases hx
  cases hy
  exact il_ih (hk _ (List.getElem_mem h1)) (hs _ (List.getElem_mem h1)) (hl.ok j _ _ (by simp [h2]) (by simp [h1]))
theorem fo_oth {s : Bool} (hi : ps[i]? = some p) (hm : l[i]? = some m) : isum (fo s ps l) = oth s ps l i + p.sel s m := by
 unfold oth
 rw [isum_set (fo_get hi hm)]
 omega
theorem fo_kn {s : Bool} {q : Pk} (hi : ps[i]? = some p) (hm : l[i]? = some m) : isum (fo s (ps.set i q) l) = oth s ps l i + q.sel s m := by
 have hlt := (List.getElem?_eq_some_iff.1 hi).1
 rw [fo_set hm hlt, isum_set (fo_get hi hm), fo_oth (s := s) hi hm]
 omega
theorem kn_il : (kn p n).il m = max0 (n - (p.s - m)) := by
 show (if 0 > n - (p.s - m) then 0 else n - (p.s - m)) = _
 unfold max0
 split <;> split <;> omega
theorem kn_ih (hp : p.Ok) (hn : p.f ≤ n ∧ n ≤ p.hi) : (kn p n).ih m = min2 m n := by
 unfold Pk.ih
 rw [kn_hi hp hn]
 unfold min2
 split <;> split <;> omega
def askN (ps : List Pk) (l : List Int) (op fd : Int) (i : Nat) (p : Pk) (m n : Int) : Bool := decide (oth true ps l i + max0 (n - (p.s - m)) ≤ lfHi ps l op fd) && decide (lfLo ps l fd ≤ oth false ps l i + min2 m n)
theorem nonE_ask (hst : StOk ps gs lots) (hl : LotOk ps l) (hi : ps[i]? = some p) (hm : l[i]? = some m) (ho : 0 ≤ op ∧ op ≤ isum l) (hf : 0 ≤ fd ∧ fd ≤ op) (hn : p.f ≤ n ∧ n ≤ p.hi) : nonE ps l op fd i p n = askN ps l op fd i p m n := by
 have hk : ∀ p ∈ ps, p.Ok := fun p hp => Pk.isB_ok (List.all_eq_true.1 hst.pb p hp)
 have hpm := List.mem_of_getElem? hi
 have hpo := hk p hpm
 have hmm := hl.ok i m p hm hi
 have hA := oth_le (i := i) hk hst.sp hl
 have e1 := fo_kn (s := true) (q := kn p n) hi hm
 have e2 := fo_kn (s := false) (q := kn p n) hi hm
 have e3 := fo_oth (s := true) hi hm
 have e4 := fo_oth (s := false) hi hm
 rw [show (kn p n).sel true m = (kn p n).il m from rfl, kn_il] at e1
 rw [show (kn p n).sel false m = (kn p n).ih m from rfl, kn_ih hpo hn] at e2
 rw [show p.sel true m = p.il m from rfl] at e3
 rw [show p.sel false m = p.ih m from rfl] at e4
 obtain ⟨z1, z2, z3, z4⟩ := hpo
 have h5 : p.hi ≤ p.s := by unfold Pk.hi; split <;> omega
 have b1 : max0 (n - (p.s - m)) ≤ p.ih m := by unfold max0 Pk.ih; split <;> split <;> omega
 have b2 : p.il m ≤ min2 m n := by unfold min2 Pk.il; split <;> split <;> omega
 have b3 : max0 (n - (p.s - m)) ≤ min2 m n := by unfold min2 max0; split <;> split <;> omega
 unfold nonE askN lfHi lfLo
 rw [e1, e2, e3, e4]
 rw [Bool.eq_iff_iff]
 simp only [Bool.not_eq_true',decide_eq_false_iff_not,Bool.and_eq_true,decide_eq_true_eq]
 split <;> split <;> split <;> split <;> omega
theorem askN_mid {x y z : Int} (h1 : x ≤ y) (h2 : y ≤ z) (hx : askN ps l op fd i p m x = true) (hz : askN ps l op fd i p m z = true) : askN ps l op fd i p m y = true := by
 unfold askN at *
 simp only [Bool.and_eq_true,decide_eq_true_eq] at *
 have a1 : max0 (y - (p.s - m)) ≤ max0 (z - (p.s - m)) := by unfold max0; split <;> split <;> omega
 have a2 : min2 m x ≤ min2 m y := by unfold min2; split <;> split <;> omega
 omega
theorem told_ok (hst : StOk ps gs lots) (hl : LotOk ps l) (hi : ps[i]? = some p) (hm : l[i]? = some m) (ho : 0 ≤ op ∧ op ≤ isum l) (hf : 0 ≤ fd ∧ fd ≤ op) {r : Int} (hr : p.f ≤ r ∧ r ≤ p.hi) (hask : askN ps l op fd i p m r = true) :
  (p.f ≤ (toldV ps l op fd i p).1 ∧ (toldV ps l op fd i p).2 ≤ p.hi) ∧ wi r (toldV ps l op fd i p).1 (toldV ps l op fd i p).2 = true ∧ ∀ n, p.f ≤ n → n ≤ p.hi → askN ps l op fd i p m n = wi n (toldV ps l op fd i p).1 (toldV ps l op fd i p).2 := by
 have hsp := hst.sp p (List.mem_of_getElem? hi)
 have hK : ((p.hi - p.f + 1).toNat : Int) = p.hi - p.f + 1 := by omega
 have tf := tellF_ok (P := nonE ps l op fd i p) (f := p.f) (b := p.hi) (p.hi - p.f + 1).toNat (by omega)
 rw [show tellF (nonE ps l op fd i p) p.f p.hi (p.hi - p.f + 1).toNat = toldV ps l op fd i p from rfl] at tf
 obtain ⟨t, ht⟩ : ∃ t, toldV ps l op fd i p = t := ⟨_, rfl⟩
 rw [ht] at tf ⊢
 have ne : ∀ n, p.f ≤ n ∧ n ≤ p.hi → nonE ps l op fd i p n = askN ps l op fd i p m n := fun n hn => nonE_ask hst hl hi hm ho hf hn
 obtain ⟨s1, s2, s3, s4⟩ := tf.some_ ⟨r, hr.1, by omega, by rw [ne r hr]; exact hask⟩
 have hra := tf.all r hr.1 (by omega) (by rw [ne r hr]; exact hask)
 have hlast : t.2 ≤ p.hi := by omega
 refine ⟨⟨s3, hlast⟩, by unfold wi; simp; omega, fun n h1 h2 => ?_⟩
 cases hn : askN ps l op fd i p m n
 ·cases hw : wi n t.1 t.2 with
  | false => rfl
  | true =>
   unfold wi at hw
   simp only [Bool.and_eq_true,decide_eq_true_eq] at hw
   have := askN_mid hw.1 hw.2 (by rw [← ne t.1 (by omega)]; exact s1) (by rw [← ne t.2 (by omega)]; exact s2)
   rw [this] at hn; cases hn
 ·have := tf.all n h1 (by omega) (by rw [ne n ⟨h1, h2⟩]; exact hn)
  symm
  unfold wi
  simp; omega
end
end Go.Am.K
namespace Go.Am.K
open Go.Proofs
section
variable {p : Pk} {m fl pk fo : Int} {f g : Nat → Bool} {j i : Nat} {fs : List Int}
theorem orM_iff {x : Nat} (hj : j < 25) : orM f g x 25 j = true ↔ f j = true ∨ x ≤ j ∧ g (j - x) = true := by
 unfold orM
 simp only [Bool.or_eq_true,Bool.and_eq_true,decide_eq_true_eq]
 constructor
 ·rintro (h | ⟨⟨h1, _⟩, h3⟩)
  ·exact .inl h
  ·exact .inr ⟨h1, h3⟩
 ·rintro (h | ⟨h1, h3⟩)
  ·exact .inl h
  ·exact .inr ⟨⟨h1, by omega⟩, h3⟩
theorem orX_iff (hj : j < 25) : ∀ x : Nat, orX p m fl f g x j = true ↔ f j = true ∨ ∃ y : Nat, y < x ∧ canB p m fl y = true ∧ y ≤ j ∧ g (j - y) = true
 | 0 => by
  show f j = true ↔ _
  constructor
  ·exact .inl
  ·rintro (h | ⟨y, h, _⟩)
   ·exact h
   ·omega
 | x + 1 => by
  have ih := orX_iff hj x
  show (bif canB p m fl x then orM (orX p m fl f g x) g x 25 else orX p m fl f g x) j = true ↔ _
  cases hC : canB p m fl x
  ·rw [cond_false, ih]
   constructor
   ·rintro (h | ⟨y, h1, h2⟩)
    ·exact .inl h
    ·exact .inr ⟨y, by omega, h2⟩
   ·rintro (h | ⟨y, h1, h2⟩)
    ·exact .inl h
    ·refine .inr ⟨y, ?_, h2⟩
     by_cases e : y = x
     ·subst e; rw [hC] at h2; cases h2.1
     ·omega
  ·rw [cond_true, orM_iff hj, ih]
   constructor
   ·rintro ((h | ⟨y, h1, h2⟩) | ⟨h1, h2⟩)
    ·exact .inl h
    ·exact .inr ⟨y, by omega, h2⟩
    ·exact .inr ⟨x, by omega, hC, h1, h2⟩
   ·rintro (h | ⟨y, h1, h2⟩)
    ·exact .inl (.inl h)
    ·by_cases e : y = x
     ·subst e; exact .inr h2.2
     ·exact .inl (.inr ⟨y, by omega, h2⟩)
def tried (i : Nat) (pk fo fl : Int) : Prop := ¬ ((i : Int) = pk ∧ fl ≠ fo)
theorem orK_iff (hj : j < 25) : ∀ k : Nat, k ≤ fs.length → (orK p m i pk fo fs f g k j = true ↔ f j = true ∨ ∃ fl, fl ∈ fs.take k ∧ tried i pk fo fl ∧ ∃ y : Nat, y < 7 ∧ canB p m fl y = true ∧ y ≤ j ∧ g (j - y) = true)
 | 0, _ => by
  show f j = true ↔ _
  constructor
  ·exact .inl
  ·rintro (h | ⟨fl, h, _⟩)
   ·exact h
   ·simp at h
 | k + 1, hk => by
  have ih := orK_iff hj k (by omega)
  obtain ⟨fl, hfl⟩ : ∃ fl, fs[k]? = some fl := ⟨fs[k], by simp [show k < fs.length by omega]⟩
  have e : orK p m i pk fo fs f g (k + 1) = bif decide ((i : Int) = pk) && !decide (fl = fo) then orK p m i pk fo fs f g k else orX p m fl (orK p m i pk fo fs f g k) g 7 := by
   show (match fs[k]? with | some fl => _ | none => _) = _
   rw [hfl]
  have et : fs.take (k + 1) = fs.take k ++ [fl] := by rw [List.take_add_one, hfl]; rfl
  rw [e, et]
  cases hB : decide ((i : Int) = pk) && !decide (fl = fo)
  ·have ht : tried i pk fo fl := by
    rintro ⟨h1, h2⟩
    rw [decide_eq_true h1, decide_eq_false h2] at hB
    cases hB
   rw [cond_false, orX_iff hj, ih]
   constructor
   ·rintro ((h | ⟨fl', h1, h2⟩) | h)
    ·exact .inl h
    ·exact .inr ⟨fl', List.mem_append_left _ h1, h2⟩
    ·exact .inr ⟨fl, List.mem_append_right _ (by simp), ht, h⟩
   ·rintro (h | ⟨fl', h1, h2, h3⟩)
    ·exact .inl (.inl h)
    ·rcases List.mem_append.1 h1 with h1 | h1
     ·exact .inl (.inr ⟨fl', h1, h2, h3⟩)
     ·obtain rfl : fl' = fl := by simpa using h1
      exact .inr h3
  ·have ht : ¬ tried i pk fo fl := by
    simp only [Bool.and_eq_true,decide_eq_true_eq,Bool.not_eq_true',decide_eq_false_iff_not] at hB
    exact fun h => h hB
   rw [cond_true, ih]
   constructor
   ·rintro (h | ⟨fl', h1, h2⟩)
    ·exact .inl h
    ·exact .inr ⟨fl', List.mem_append_left _ h1, h2⟩
   ·rintro (h | ⟨fl', h1, h2, h3⟩)
    ·exact .inl h
    ·rcases List.mem_append.1 h1 with h1 | h1
     ·exact .inr ⟨fl', h1, h2, h3⟩
     ·obtain rfl : fl' = fl := by simpa using h1
      exact absurd h2 ht
theorem rng_mem {f : Int} {n : Nat} {x : Int} : x ∈ rng f n ↔ f ≤ x ∧ x < f + n := by
 unfold rng
 rw [List.mem_map]
 constructor
 ·rintro ⟨k, hk, rfl⟩
  have := List.mem_range.1 hk
  omega
 ·rintro ⟨h1, h2⟩
  exact ⟨(x - f).toNat, List.mem_range.2 (by omega), by omega⟩
theorem canB_iff {y : Nat} : canB p m fl y = true ↔ (y : Int) ≤ m ∧ (y : Int) ≤ fl ∧ fl - y ≤ p.s - m := by
 unfold canB
 simp only [Bool.and_eq_true,decide_eq_true_eq]
 omega
theorem any_iff (hp : p.Ok) (hs : p.f ≤ p.hi) (hm : 0 ≤ m ∧ m ≤ p.s) {y : Nat} : (∃ fl, fl ∈ rng p.f (p.hi + 1 - p.f).toNat ∧ y < 7 ∧ canB p m fl y = true) ↔ p.il m ≤ y ∧ (y : Int) ≤ p.ih m := by
 obtain ⟨z1, z2, z3, z4⟩ := hp
 have h5 : p.hi ≤ p.s := by unfold Pk.hi; split <;> omega
 unfold Pk.il Pk.ih
 constructor
 ·rintro ⟨fl, h1, h2, h3⟩
  rw [rng_mem] at h1
  rw [canB_iff] at h3
  split <;> split <;> omega
 ·intro h
  refine ⟨if p.f < y then y else p.f, ?_, ?_, ?_⟩
  ·rw [rng_mem]; split at h <;> split at h <;> split <;> omega
  ·split at h <;> split at h <;> omega
  ·rw [canB_iff]; split at h <;> split at h <;> split <;> omega
theorem take_sum {t : List Int} {k : Nat} {x : Int} (hk : t[k]? = some x) : isum (t.take (k + 1)) = isum (t.take k) + x := by
 rw [List.take_add_one, hk, isum_app]
 show _ + (x + 0) = _
 omega
theorem trF_all {ps : List Pk} {gs : List Gd} {lots : Int} {l : List Int} (hst : StOk ps gs lots) (ho : LotOk ps l) (hpk : pk < 0) : ∀ i : Nat, i ≤ ps.length → (0 ≤ isum ((Go.Am.fo true ps l).take i) ∧ isum ((Go.Am.fo true ps l).take i) ≤ isum ((Go.Am.fo false ps l).take i)) ∧ ∀ j : Nat, j < 25 → (trF ps l pk fo i j = true ↔ isum ((Go.Am.fo true ps l).take i) ≤ j ∧ (j : Int) ≤ isum ((Go.Am.fo false ps l).take i))
 | 0, _ => by
  refine ⟨⟨by simp [isum], by simp [isum]⟩, fun j _ => ?_⟩
  show decide (j = 0) = true ↔ _
  simp only [decide_eq_true_eq,List.take_zero,isum]
  omega
 | i + 1, hi => by
  obtain ⟨ih0, ih⟩ := trF_all hst ho hpk i (by omega)
  obtain ⟨p, hp⟩ : ∃ p, ps[i]? = some p := ⟨ps[i], by simp [show i < ps.length by omega]⟩
  obtain ⟨m, hm⟩ : ∃ m, l[i]? = some m := ⟨l[i]'(by rw [ho.len]; omega), by simp [show i < l.length by rw [ho.len]; omega]⟩
  have hok : p.Ok := Pk.isB_ok (List.all_eq_true.1 hst.pb p (List.mem_of_getElem? hp))
  have hsp := hst.sp p (List.mem_of_getElem? hp)
  have hmp := ho.ok i m p hm hp
  have e1 := take_sum (fo_get (s := true) hp hm)
  have e2 := take_sum (fo_get (s := false) hp hm)
  rw [show p.sel true m = p.il m from rfl] at e1
  rw [show p.sel false m = p.ih m from rfl] at e2
  have hab := il_ih hok hsp hmp
  have hil : 0 ≤ p.il m := by unfold Pk.il; split <;> omega
  refine ⟨by omega, fun j hj => ?_⟩
  have eT : trF ps l pk fo (i + 1) = orK p m i pk fo (rng p.f (p.hi + 1 - p.f).toNat) (fun _ => false) (trF ps l pk fo i) (p.hi + 1 - p.f).toNat := by
   show (match ps[i]?, l[i]? with | some p, some m => _ | _, _ => _) = _
   rw [hp, hm]
  have hle : (p.hi + 1 - p.f).toNat ≤ (rng p.f (p.hi + 1 - p.f).toNat).length := by rw [rng_len]; exact Nat.le_refl _
  rw [eT, orK_iff hj _ hle, List.take_of_length_le (by rw [rng_len]; exact Nat.le_refl _), e1, e2, step_iv hab ih0.2]
  constructor
  ·rintro (h | ⟨fl, h1, -, y, h2, h3, h4, h5⟩)
   ·cases h
   ·obtain ⟨k1, k2⟩ := (any_iff hok hsp hmp).1 ⟨fl, h1, h2, h3⟩
    obtain ⟨k3, k4⟩ := (ih (j - y) (by omega)).1 h5
    exact ⟨y, k1, k2, by omega, by omega⟩
  ·rintro ⟨x, h1, h2, h3, h4⟩
   obtain ⟨y, rfl⟩ : ∃ y : Nat, x = y := ⟨x.toNat, by omega⟩
   obtain ⟨fl, k1, k2, k3⟩ := (any_iff hok hsp hmp).2 ⟨h1, h2⟩
   refine .inr ⟨fl, k1, fun h => by omega, y, k2, k3, by omega, (ih (j - y) (by omega)).2 ⟨by omega, by omega⟩⟩
end
end Go.Am.K
