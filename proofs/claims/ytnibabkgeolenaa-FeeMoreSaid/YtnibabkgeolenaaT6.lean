/- Regions that draw: what is looked at before they run. -/
import Derived.Test.YtnibabkgeolenaaT5
set_option linter.unusedSimpArgs false
set_option linter.unusedVariables false
namespace Go.Am
variable {T : Tab} {P : Program}

/-! ### Equal values -/
def sameL (f : Value → Value → Bool) : List Value → List Value → Bool
  | [], [] => true
  | x :: xs, y :: ys => f x y && sameL f xs ys
  | _, _ => false
theorem sameL_ok {f : Value → Value → Bool} (hf : ∀ x y, f x y = true → x = y) : ∀ (a b : List Value), sameL f a b = true → a = b
  | [], [], _ => rfl
  | x :: xs, y :: ys, h => by
    simp only [sameL,Bool.and_eq_true] at h
    rw [hf _ _ h.1, sameL_ok hf xs ys h.2]
  | [], _ :: _, h => by simp [sameL] at h
  | _ :: _, [], h => by simp [sameL] at h
def sameV : Nat → Value → Value → Bool
  | 0, _, _ => false
  | n + 1, a, b => match a, b with
    | .bool x, .bool y => x == y
    | .int k x, .int j y => decide (k = j) && decide (x = y)
    | .pointer x, .pointer y => decide (x = y)
    | .slice x l c, .slice y l' c' => decide (x = y) && Nat.beq l l' && Nat.beq c c'
    | .map x, .map y => decide (x = y)
    | .chan x, .chan y => decide (x = y)
    | .string x, .string y => decide (x = y)
    | .nilFunc, .nilFunc => true
    | .nilIface, .nilIface => true
    | .agg x, .agg y => sameL (sameV n) x.toList y.toList
    | .tuple x, .tuple y => sameL (sameV n) x.toList y.toList
    | .iface t x, .iface u y => Nat.beq t u && sameV n x y
    | .func f x y, .func g z u => decide (f = g) && sameL (sameV n) x.toList z.toList && sameL (sameV n) y.toList u.toList
    | _, _ => false
theorem sameV_ok : ∀ (n : Nat) (a b : Value), sameV n a b = true → a = b := by
  intro n
  induction n with
  | zero => intro a b h; cases h
  | succ n ih =>
    intro a b h
    unfold sameV at h
    split at h
    · simpa using h
    · simp at h; rw [h.1, h.2]
    · simp at h; rw [h]
    · simp only [Bool.and_eq_true,decide_eq_true_eq] at h
      rw [h.1.1, Nat.eq_of_beq_eq_true h.1.2, Nat.eq_of_beq_eq_true h.2]
    · simp at h; rw [h]
    · simp at h; rw [h]
    · simp at h; rw [h]
    · rfl
    · rfl
    · rw [Array.ext' (sameL_ok ih _ _ h)]
    · rw [Array.ext' (sameL_ok ih _ _ h)]
    · simp only [Bool.and_eq_true] at h
      rw [Nat.eq_of_beq_eq_true h.1, ih _ _ h.2]
    · simp only [Bool.and_eq_true,decide_eq_true_eq] at h
      rw [h.1.1, Array.ext' (sameL_ok ih _ _ h.1.2), Array.ext' (sameL_ok ih _ _ h.2)]
    · cases h

/-! ### What comes before what -/
def tb (m i : Nat) : Bool := Nat.beq (Nat.land (Nat.shiftRight m i) 1) 1
theorem tb_eq (m i : Nat) : tb m i = m.testBit i := by
  unfold tb Nat.testBit
  have h : ∀ x : Nat, Nat.beq (Nat.land x 1) 1 = (1 &&& x != 0) := fun x => by
    have h1 : Nat.land x 1 = x % 2 := Nat.and_one_is_mod x
    have h2 : 1 &&& x = x % 2 := by rw [Nat.and_comm]; exact Nat.and_one_is_mod x
    rw [h1, h2]
    rcases Nat.mod_two_eq_zero_or_one x with e | e <;> rw [e] <;> rfl
  exact h (Nat.shiftRight m i)
def MOk (ops : Array Oper) (bef : Nat → Nat → Bool) : Prop := ∀ i j, bef i j = true → Clo ops i j

/-- All rows in one number: bit w * i + j is set where j comes before i. -/
def rowOf (M w i : Nat) : Nat := Nat.land (Nat.shiftRight M (Nat.mul w i)) (Nat.sub (Nat.pow 2 w) 1)
def cloOf (M w : Nat) : List Edge → Nat
  | [] => 0
  | e :: es => bif Region.binds .any e then Nat.lor (Nat.lor (Nat.pow 2 e.on) (rowOf M w e.on)) (cloOf M w es) else cloOf M w es
def matOf (w : Nat) : List Oper → Nat → Nat → Nat
  | [], _, M => M
  | o :: l, i, M => fNat (Nat.lor M (Nat.shiftLeft (Nat.land (cloOf M w o.after.toList) (Nat.sub (Nat.pow 2 w) 1)) (Nat.mul w i))) fun M => matOf w l (Nat.succ i) M
def befM (M w i j : Nat) : Bool := Nat.blt j w && tb M (Nat.add (Nat.mul w i) j)

theorem rowOf_bit {M w i j : Nat} : (rowOf M w i).testBit j = (decide (j < w) && M.testBit (w * i + j)) := by
  have h : rowOf M w i = (M >>> (w * i)) &&& (2 ^ w - 1) := rfl
  rw [h, Nat.testBit_and, Nat.testBit_shiftRight, Nat.testBit_two_pow_sub_one, Bool.and_comm]
theorem befM_eq {M w i j : Nat} : befM M w i j = (decide (j < w) && M.testBit (w * i + j)) := by
  unfold befM
  rw [tb_eq]
  have h : Nat.add (Nat.mul w i) j = w * i + j := rfl
  rw [h]
  by_cases hj : j < w
  · simp [hj, blt_true hj]
  · simp [hj, blt_false hj]

theorem cloOf_ok {ops : Array Oper} {M w : Nat} (hm : MOk ops (befM M w)) {i : Nat} {o : Oper} (ho : ops[i]? = some o) : ∀ (es : List Edge), (∀ e ∈ es, e ∈ o.after) → ∀ j, (cloOf M w es).testBit j = true → Clo ops i j
  | [], _, j, h => by simp [cloOf] at h
  | e :: es, he, j, h => by
    simp only [cloOf] at h
    cases hb : Region.binds .any e
    · rw [hb] at h; exact cloOf_ok hm ho es (fun x hx => he x (by simp [hx])) j h
    · rw [hb] at h
      simp only [cond_true] at h
      have h' : ((2 ^ e.on ||| rowOf M w e.on) ||| cloOf M w es).testBit j = true := h
      rw [Nat.testBit_or, Nat.testBit_or, Nat.testBit_two_pow] at h'
      simp only [Bool.or_eq_true,decide_eq_true_eq] at h'
      rcases h' with (h' | h') | h'
      · subst h'; exact .edge ho (he e (by simp)) hb
      · exact .trans ho (he e (by simp)) hb (hm _ _ (by rw [befM_eq, ← rowOf_bit]; exact h'))
      · exact cloOf_ok hm ho es (fun x hx => he x (by simp [hx])) j h'

theorem matOf_ok {ops : Array Oper} {w : Nat} : ∀ (l : List Oper) (k M : Nat), l = ops.toList.drop k → MOk ops (befM M w) → MOk ops (befM (matOf w l k M) w)
  | [], _, M, _, h => h
  | o :: l, k, M, hl, h => by
    have hk : ops[k]? = some o := by
      rw [← Array.getElem?_toList]
      have := congrArg (·[0]?) hl
      simpa using this.symm
    have hl' : l = ops.toList.drop (k + 1) := by
      have := congrArg List.tail hl
      simpa [List.tail_drop] using this
    simp only [matOf,fNat_eq]
    refine matOf_ok l (k + 1) _ hl' ?_
    intro i j hi
    rw [befM_eq] at hi
    simp only [Bool.and_eq_true,decide_eq_true_eq] at hi
    obtain ⟨hj, hi⟩ := hi
    have e0 : Nat.lor M (Nat.shiftLeft (Nat.land (cloOf M w o.after.toList) (Nat.sub (Nat.pow 2 w) 1)) (Nat.mul w k)) = M ||| ((cloOf M w o.after.toList &&& (2 ^ w - 1)) <<< (w * k)) := rfl
    rw [e0, Nat.testBit_or, Nat.testBit_shiftLeft, Nat.testBit_and, Nat.testBit_two_pow_sub_one] at hi
    simp only [Bool.or_eq_true,Bool.and_eq_true,decide_eq_true_eq] at hi
    rcases hi with hi | ⟨h1, h2, h3⟩
    · exact h i j (by rw [befM_eq]; simp [hj, hi])
    · -- the bit is in row k
      have hik : i = k := by
        rcases Nat.lt_trichotomy i k with hlt | heq | hgt
        · have := Nat.mul_le_mul_left w (Nat.succ_le_of_lt hlt)
          rw [Nat.mul_succ] at this
          omega
        · exact heq
        · have := Nat.mul_le_mul_left w (Nat.succ_le_of_lt hgt)
          rw [Nat.mul_succ] at this
          omega
      subst hik
      have : w * i + j - w * i = j := by omega
      rw [this] at h2
      exact cloOf_ok h hk _ (fun x hx => by simpa using hx) j h2

def edgesBack (i : Nat) : List Edge → Bool
  | [] => true
  | e :: es => (bif Region.binds .any e then Nat.blt e.on i else true) && edgesBack i es
def backs : List Oper → Nat → Bool
  | [], _ => true
  | o :: l, i => edgesBack i o.after.toList && backs l (i + 1)
theorem edgesBack_ok {i : Nat} : ∀ {es : List Edge}, edgesBack i es = true → ∀ e ∈ es, Region.binds .any e = true → e.on < i
  | e :: es, h, x, hx, hb => by
    simp only [edgesBack,Bool.and_eq_true] at h
    rcases List.mem_cons.1 hx with rfl | hx
    · rw [hb] at h; exact lt_of_blt h.1
    · exact edgesBack_ok h.2 x hx hb
theorem backs_ok {l : List Oper} : ∀ {k : Nat}, backs l k = true → ∀ (i : Nat) (o : Oper) (e : Edge), l[i]? = some o → e ∈ o.after → Region.binds .any e = true → e.on < k + i := by
  induction l with
  | nil => intro k h i o e ho; simp at ho
  | cons o l ih =>
    intro k h i o' e ho he hb
    simp only [backs,Bool.and_eq_true] at h
    cases i with
    | zero =>
      have : o = o' := by simpa using ho
      subst this
      exact edgesBack_ok h.1 e (by simpa using he) hb
    | succ i =>
      have := ih h.2 i o' e (by simpa using ho) he hb
      omega

/-- Who writes which temporary. -/
def writers : List Oper → Nat → List (Nat × Nat)
  | [], _ => []
  | o :: l, i => match o.dst with
    | some d => (d, i) :: writers l (i + 1)
    | none => writers l (i + 1)
def findW (d : Nat) : List (Nat × Nat) → Option Nat
  | [] => none
  | p :: r => bif Nat.beq p.1 d then some p.2 else findW d r
def distinctW : List (Nat × Nat) → Bool
  | [] => true
  | p :: r => (findW p.1 r).isNone && distinctW r
theorem mem_writers {l : List Oper} : ∀ {k i : Nat} {o : Oper} {d : Nat}, l[i]? = some o → o.dst = some d → (d, k + i) ∈ writers l k := by
  induction l with
  | nil => intro k i o d ho; simp at ho
  | cons o l ih =>
    intro k i o' d ho hd
    cases i with
    | zero =>
      have : o = o' := by simpa using ho
      subst this
      simp [writers, hd]
    | succ i =>
      have := ih (k := k + 1) (i := i) (by simpa using ho) hd
      have e : k + 1 + i = k + (i + 1) := by omega
      rw [e] at this
      simp only [writers]
      split
      · exact List.mem_cons_of_mem _ this
      · exact this
theorem findW_none {d : Nat} : ∀ {W : List (Nat × Nat)}, findW d W = none → ∀ j, (d, j) ∉ W
  | [], _, j, h => by simp at h
  | p :: r, h, j, hm => by
    simp only [findW] at h
    cases hb : Nat.beq p.1 d
    · rw [hb] at h
      rcases List.mem_cons.1 hm with e | hm
      · subst e; rw [Nat.beq_refl] at hb; cases hb
      · exact findW_none h j hm
    · rw [hb] at h; cases h
theorem findW_some {d j : Nat} : ∀ {W : List (Nat × Nat)}, distinctW W = true → (d, j) ∈ W → findW d W = some j
  | p :: r, h, hm => by
    simp only [distinctW,Bool.and_eq_true] at h
    simp only [findW]
    rcases List.mem_cons.1 hm with e | hm
    · subst e; simp [Nat.beq_refl]
    · cases hb : Nat.beq p.1 d
      · exact findW_some h.2 hm
      · have e := Nat.eq_of_beq_eq_true hb
        have := findW_none (Option.isNone_iff_eq_none.1 h.1) j
        rw [e] at this
        exact absurd hm this

def chkLooks (bef : Nat → Nat → Bool) (W : List (Nat × Nat)) (i : Nat) : List Tmp → Bool
  | [] => true
  | d :: ds => (match findW d W with
    | none => true
    | some j => Nat.beq j i || bef i j || bef j i) && chkLooks bef W i ds
def chkAll (ops : Array Oper) (bef : Nat → Nat → Bool) (W : List (Nat × Nat)) : List Oper → Nat → Bool
  | [], _ => true
  | o :: l, i => chkLooks bef W i (looks ops o) && chkAll ops bef W l (i + 1)
theorem chkLooks_ok {ops : Array Oper} {bef : Nat → Nat → Bool} (hm : MOk ops bef) {W : List (Nat × Nat)} (hW : distinctW W = true) {i : Nat} : ∀ {ds : List Tmp}, chkLooks bef W i ds = true → ∀ d ∈ ds, ∀ j, (d, j) ∈ W → i ≠ j → Clo ops i j ∨ Clo ops j i
  | x :: ds, h, d, hd, j, hj, hne => by
    simp only [chkLooks,Bool.and_eq_true] at h
    rcases List.mem_cons.1 hd with rfl | hd
    · rw [findW_some hW hj] at h
      simp only [Bool.or_eq_true] at h
      rcases h.1 with (h1 | h1) | h1
      · exact absurd (Nat.eq_of_beq_eq_true h1).symm hne
      · exact .inl (hm _ _ h1)
      · exact .inr (hm _ _ h1)
    · exact chkLooks_ok hm hW h.2 d hd j hj hne
theorem chkAll_ok {ops : Array Oper} {bef : Nat → Nat → Bool} (hm : MOk ops bef) {W : List (Nat × Nat)} (hW : distinctW W = true) {l : List Oper} : ∀ {k : Nat}, chkAll ops bef W l k = true → ∀ (i : Nat) (o : Oper), l[i]? = some o → ∀ d ∈ looks ops o, ∀ j, (d, j) ∈ W → k + i ≠ j → Clo ops (k + i) j ∨ Clo ops j (k + i) := by
  induction l with
  | nil => intro k h i o ho; simp at ho
  | cons o l ih =>
    intro k h i o' ho d hd j hj hne
    simp only [chkAll,Bool.and_eq_true] at h
    cases i with
    | zero =>
      have : o = o' := by simpa using ho
      subst this
      exact chkLooks_ok hm hW h.1 d hd j hj hne
    | succ i =>
      have e : k + (i + 1) = k + 1 + i := by omega
      rw [e] at hne ⊢
      exact ih h.2 i o' (by simpa using ho) d hd j hj hne

/-- All that can be seen without running it. -/
def rstat (ops : Array Oper) (bef : Nat → Nat → Bool) : Bool := backs ops.toList 0 && distinctW (writers ops.toList 0) && chkAll ops bef (writers ops.toList 0) ops.toList 0
structure RStat (ops : Array Oper) : Prop where
  edge : ∀ (i : Nat) (o : Oper) (e : Edge), ops[i]? = some o → e ∈ o.after → Region.binds .any e = true → e.on < i
  one : ∀ (i j : Nat) (oi oj : Oper) (d : Tmp), ops[i]? = some oi → ops[j]? = some oj → oi.dst = some d → oj.dst = some d → i = j
  sees : ∀ (i j : Nat) (oi oj : Oper) (d : Tmp), ops[i]? = some oi → ops[j]? = some oj → d ∈ looks ops oi → oj.dst = some d → i ≠ j → Clo ops i j ∨ Clo ops j i
theorem rstat_ok {ops : Array Oper} {bef : Nat → Nat → Bool} (hm : MOk ops bef) (h : rstat ops bef = true) : RStat ops := by
  unfold rstat at h
  simp only [Bool.and_eq_true] at h
  obtain ⟨⟨h1, h2⟩, h3⟩ := h
  have hw : ∀ {i : Nat} {o : Oper} {d : Nat}, ops[i]? = some o → o.dst = some d → (d, i) ∈ writers ops.toList 0 := fun {i o d} ho hd => by
    have := mem_writers (k := 0) (l := ops.toList) (i := i) (by simpa using ho) hd
    rwa [Nat.zero_add] at this
  refine ⟨fun i o e ho he hb => ?_, fun i j oi oj d hi hj hdi hdj => ?_, fun i j oi oj d hi hj hd hdj hne => ?_⟩
  · have := backs_ok h1 i o e (by simpa using ho) he hb
    omega
  · have e1 := findW_some h2 (hw hi hdi)
    have e2 := findW_some h2 (hw hj hdj)
    rw [e1] at e2; cases e2; rfl
  · have := chkAll_ok hm h2 h3 i oi (by simpa using hi) d hd j (hw hj hdj) (by omega)
    rwa [Nat.zero_add] at this
end Go.Am
/- Regions that draw: the run. -/
namespace Go.Am
variable {T : Tab} {P : Program}

def maskE (l : List Nat) (n : Nat) (e : VT) : Operand → Option Value
  | .tmp d => bif memNat d l then some (bif Nat.blt d n then e.get d else undef) else none
  | .const v => bif gr v then some v else none
  | .func f => some (.func (.func f) #[] #[])
  | .global _ => none
theorem maskE_eq (o : Oper) (n : Nat) (e : VT) : maskE (tmpsOf o.op.operands.toList) n e = maskT o (aval (lst n e)) := by
  funext x
  cases x with
  | tmp i => simp only [maskE,maskT,aval,lst_getD]
  | _ => rfl

structure Fl where
  i : Nat
  q : Nat
  tl : List Nat
  e : VT
  o : Oper
  v : Value

def dpass (T : Tab) (P : Program) (ex : Exec) (ops : Array Oper) (n : Nat) : List Oper → Nat → Nat → VT → AHeap → Option (List Fl × List Nat × List AHeap × VT × Nat)
  | [], _, _, e, H => some ([], [], [H], e, H.size)
  | o :: l, i, q, e, H =>
    bif wantE ops n e o then
      fNats (tmpsOf o.op.operands.toList) fun tl =>
      match aopAny T P ex (maskE tl n e) H o.op with
      | some (true, v, _, _) => fV v fun v => VT.putK e o.dst v fun e' => match dpass T P ex ops n l (i + 1) q e' H with
        | some (fl, hs, Gs, ef, m) => some (⟨i, q, tl, e, o, v⟩ :: fl, hs, Gs, ef, m)
        | none => none
      | some (false, v, H₁, m₁) => fH H₁ fun H₁ => fNat m₁ fun m₁ => VT.putK e o.dst v fun e' => match dpass T P ex ops n l (i + 1) (q + 1) e' H₁ with
        | some (fl, hs, Gs, ef, m) => fNat (min m₁ m) fun m => some (fl, i :: hs, H :: Gs, ef, m)
        | none => none
      | none => none
    else VT.putK e o.dst undef fun e' => dpass T P ex ops n l (i + 1) q e' H

theorem dpass_shape {ex : Exec} {ops : Array Oper} {n : Nat} : ∀ {l : List Oper} {i q : Nat} {e : VT} {H : AHeap} {fl : List Fl} {hs : List Nat} {Gs : List AHeap} {ef : VT} {m : Nat},
    dpass T P ex ops n l i q e H = some (fl, hs, Gs, ef, m) → (∀ p ∈ hs, i ≤ p ∧ p < i + l.length) ∧ Gs[0]? = some H ∧ Gs.length = hs.length + 1 := by
  intro l
  induction l with
  | nil =>
    intro i q e H fl hs Gs ef m h
    simp only [dpass,Option.some.injEq,Prod.mk.injEq] at h
    obtain ⟨_, rfl, rfl, _, _⟩ := h
    simp
  | cons o l ih =>
    intro i q e H fl hs Gs ef m h
    simp only [dpass,fNats_eq,fV_eq,VT.putK_eq,fH_eq,fNat_eq] at h
    cases hw : wantE ops n e o
    · rw [hw] at h
      obtain ⟨h1, h2, h3⟩ := ih h
      exact ⟨fun p hp => by have := h1 p hp; simp; omega, h2, h3⟩
    · rw [hw] at h
      simp only [cond_true] at h
      split at h
      · split at h
        · rename_i hd
          cases h
          obtain ⟨h1, h2, h3⟩ := ih hd
          exact ⟨fun p hp => by have := h1 p hp; simp; omega, h2, h3⟩
        · cases h
      · split at h
        · rename_i hd
          cases h
          obtain ⟨h1, h2, h3⟩ := ih hd
          refine ⟨fun p hp => ?_, rfl, by simp [h3]⟩
          rcases List.mem_cons.1 hp with rfl | hp
          · simp
          · have := h1 p hp; simp; omega
        · cases h
      · cases h

def StepFact (P : Program) (r : Option Nat) (ops : Array Oper) (n : Nat) (hall : List Nat) (G : Nat → AHeap) (flAll : List Fl) (mAll : Nat) (Tm : Nat → List Value) (V : Nat → Value) (k : Nat) (o : Oper) : Prop :=
  (awanted ops (Tm k) o = false ∧ V k = undef ∧ k ∉ hall) ∨
  (awanted ops (Tm k) o = true ∧ k ∉ hall ∧ ∃ f ∈ flAll, f.i = k ∧ f.o = o ∧ f.q ≤ hall.length ∧ f.v = V k ∧ Tm k = lst n f.e ∧ f.tl = tmpsOf o.op.operands.toList ∧ SOp P r o (maskT o (aval (Tm k))) (G f.q) (V k) (G f.q) (G f.q).size) ∨
  (awanted ops (Tm k) o = true ∧ ∃ j m', hall[j]? = some k ∧ mAll ≤ m' ∧ SOp P r o (maskT o (aval (Tm k))) (G j) (V k) (G (j + 1)) m')

theorem dpass_ok (hT : T.Fits P) {ex : Exec} (hex : ExOk P ex) {r : Option Nat} {ops : Array Oper} {n : Nat} {hall : List Nat} {Gall : List AHeap} {flAll : List Fl} {mAll : Nat} {H₀ : AHeap} :
    ∀ {l : List Oper} {i q : Nat} {e : VT} {H : AHeap} {fl : List Fl} {hs : List Nat} {Gs : List AHeap} {ef : VT} {m : Nat},
    dpass T P ex ops n l i q e H = some (fl, hs, Gs, ef, m) → l = ops.toList.drop i → i + l.length = ops.size → hall.drop q = hs → Gall.drop q = Gs → q ≤ hall.length → (∀ j p, hall[j]? = some p → j < q → p < i) → (∀ f ∈ fl, f ∈ flAll) → mAll ≤ m →
    ∃ (Tm : Nat → List Value) (V : Nat → Value), Tm i = lst n e ∧ Tm ops.size = lst n ef ∧ ∀ k o, i ≤ k → ops[k]? = some o → Tm (k + 1) = tset (Tm k) o.dst (V k) ∧ StepFact P r ops n hall (fun q => Gall.getD q H₀) flAll mAll Tm V k o := by
  intro l
  induction l with
  | nil =>
    intro i q e H fl hs Gs ef m h hl hsz _ _ _ _ _ _
    simp only [dpass,Option.some.injEq,Prod.mk.injEq] at h
    obtain ⟨_, _, _, rfl, _⟩ := h
    refine ⟨fun _ => lst n e, fun _ => undef, rfl, rfl, fun k o hk ho => ?_⟩
    have := (Array.getElem?_eq_some_iff.1 ho).1
    simp at hsz
    omega
  | cons o l ih =>
    intro i q e H fl hs Gs ef m h hl hsz hhs hGs hq hlow hfl hm
    have hk : ops[i]? = some o := by
      rw [← Array.getElem?_toList]
      have := congrArg (·[0]?) hl
      simpa using this.symm
    have hl' : l = ops.toList.drop (i + 1) := by
      have := congrArg List.tail hl
      simpa [List.tail_drop] using this
    have hsz' : i + 1 + l.length = ops.size := by simp at hsz; omega
    have hsh := dpass_shape h
    have hG : Gall.getD q H₀ = H := by
      have : (Gall.drop q)[0]? = some H := by rw [hGs]; exact hsh.2.1
      rw [List.getElem?_drop, Nat.add_zero] at this
      rw [List.getD_eq_getElem?_getD, this]; rfl
    simp only [dpass,fNats_eq,fV_eq,VT.putK_eq,fH_eq,fNat_eq] at h
    -- the end: one step in front of the rest
    have glue : ∀ (v : Value) (q' : Nat) (Tm : Nat → List Value) (V : Nat → Value), Tm (i + 1) = lst n (e.put o.dst v) → Tm ops.size = lst n ef →
        (∀ k o, i + 1 ≤ k → ops[k]? = some o → Tm (k + 1) = tset (Tm k) o.dst (V k) ∧ StepFact P r ops n hall (fun q => Gall.getD q H₀) flAll mAll Tm V k o) →
        (∀ (Tm : Nat → List Value) (V : Nat → Value), Tm i = lst n e → V i = v → StepFact P r ops n hall (fun q => Gall.getD q H₀) flAll mAll Tm V i o) →
        ∃ (Tm : Nat → List Value) (V : Nat → Value), Tm i = lst n e ∧ Tm ops.size = lst n ef ∧ ∀ k o, i ≤ k → ops[k]? = some o → Tm (k + 1) = tset (Tm k) o.dst (V k) ∧ StepFact P r ops n hall (fun q => Gall.getD q H₀) flAll mAll Tm V k o := by
      intro v q' Tm V h1 h2 h3 h4
      refine ⟨fun k => if k = i then lst n e else Tm k, fun k => if k = i then v else V k, by simp, ?_, ?_⟩
      · have : ops.size ≠ i := by simp at hsz; omega
        simp only [this,if_false]; exact h2
      · intro k o' hk' ho'
        by_cases e1 : k = i
        · subst e1
          rw [hk] at ho'; cases ho'
          refine ⟨?_, h4 _ _ (by simp) (by simp)⟩
          have : k + 1 ≠ k := by omega
          simp only [this,if_false,if_true,h1,lst_put]
        · have hge : i + 1 ≤ k := by omega
          obtain ⟨g1, g2⟩ := h3 k o' hge ho'
          have hne : k + 1 ≠ i := by omega
          simp only [e1,hne,if_false]
          refine ⟨g1, ?_⟩
          unfold StepFact at g2 ⊢
          simp only [e1,if_false]
          exact g2
    have notin : (∀ p ∈ hs, i + 1 ≤ p) → i ∉ hall := by
      intro hp hm'
      obtain ⟨j, hj⟩ := List.getElem?_of_mem hm'
      by_cases hjq : j < q
      · have := hlow j i hj hjq; omega
      · have : (hall.drop q)[j - q]? = some i := by rw [List.getElem?_drop]; rw [show q + (j - q) = j by omega]; exact hj
        rw [hhs] at this
        have := hp i (List.mem_of_getElem? this); omega
    have hlow' : ∀ j p, hall[j]? = some p → j < q → p < i + 1 := fun j p hp hj => by have := hlow j p hp hj; omega
    cases hw : wantE ops n e o
    · rw [hw] at h
      simp only [cond_false] at h
      obtain ⟨Tm, V, h1, h2, h3⟩ := ih h hl' hsz' hhs hGs hq hlow' hfl hm
      refine glue undef q Tm V h1 h2 h3 fun Tm V ht hv => .inl ⟨?_, hv, notin fun p hp => ((dpass_shape h).1 p hp).1⟩
      rw [ht, ← wantE_eq]; exact hw
    · rw [hw] at h
      simp only [cond_true] at h
      split at h
      · rename_i v Hx mx ho
        split at h
        · rename_i fl' hs' Gs' ef' m' hd
          simp only [Option.some.injEq,Prod.mk.injEq] at h
          obtain ⟨rfl, rfl, rfl, rfl, rfl⟩ := h
          obtain ⟨Tm, V, h1, h2, h3⟩ := ih hd hl' hsz' hhs hGs hq hlow' (fun f hf => hfl f (by simp [hf])) hm
          refine glue v q Tm V h1 h2 h3 fun Tm V ht hv => .inr (.inl ⟨?_, notin fun p hp => ((dpass_shape hd).1 p hp).1, ⟨i, q, tmpsOf o.op.operands.toList, e, o, v⟩, hfl _ (by simp), rfl, rfl, hq, hv.symm, ht, rfl, ?_⟩)
          · rw [ht, ← wantE_eq]; exact hw
          · rw [maskE_eq] at ho
            obtain ⟨g1, g2⟩ := aopAny_ok hT hex (r := r) ho
            obtain ⟨rfl, rfl⟩ := g2 rfl
            rw [ht, hv]
            simp only [hG]
            exact g1
        · cases h
      · rename_i v H₁ m₁ ho
        split at h
        · rename_i fl' hs' Gs' ef' m' hd
          simp only [Option.some.injEq,Prod.mk.injEq] at h
          obtain ⟨rfl, rfl, rfl, rfl, rfl⟩ := h
          have hqi : hall[q]? = some i := by
            have : (hall.drop q)[0]? = some i := by rw [hhs]; rfl
            rwa [List.getElem?_drop, Nat.add_zero] at this
          have hql : q + 1 ≤ hall.length := (List.getElem?_eq_some_iff.1 hqi).1
          have hhs' : hall.drop (q + 1) = hs' := by
            have := congrArg List.tail hhs
            simpa [List.tail_drop] using this
          have hGs' : Gall.drop (q + 1) = Gs' := by
            have := congrArg List.tail hGs
            simpa [List.tail_drop] using this
          have hG' : Gall.getD (q + 1) H₀ = H₁ := by
            have : (Gall.drop (q + 1))[0]? = some H₁ := by rw [hGs']; exact (dpass_shape hd).2.1
            rw [List.getElem?_drop, Nat.add_zero] at this
            rw [List.getD_eq_getElem?_getD, this]; rfl
          have hlow2 : ∀ j p, hall[j]? = some p → j < q + 1 → p < i + 1 := fun j p hp hj => by
            by_cases e1 : j = q
            · subst e1; rw [hqi] at hp; cases hp; omega
            · have := hlow j p hp (by omega); omega
          obtain ⟨Tm, V, h1, h2, h3⟩ := ih hd hl' hsz' hhs' hGs' hql hlow2 hfl (by omega)
          refine glue v q Tm V h1 h2 h3 fun Tm V ht hv => .inr (.inr ⟨?_, q, m₁, hqi, by omega, ?_⟩)
          · rw [ht, ← wantE_eq]; exact hw
          · rw [maskE_eq] at ho
            obtain ⟨g1, _⟩ := aopAny_ok hT hex (r := r) ho
            rw [ht, hv]
            simp only [hG,hG']
            exact g1
        · cases h
      · cases h

/-! ### What is looked at after the run -/
def blocked (bef : Nat → Nat → Bool) (i q : Nat) : List Nat → Nat → Bool
  | [], _ => false
  | p :: r, j => (bef i p && Nat.ble q j) || (bef p i && Nat.blt j q) || blocked bef i q r (j + 1)
theorem blocked_ok {ops : Array Oper} {bef : Nat → Nat → Bool} (hm : MOk ops bef) {i q : Nat} {hs : List Nat} : ∀ {j : Nat}, blocked bef i q hs j = true →
    ¬ ((∀ a p, hs[a]? = some p → Clo ops i p → j + a < q) ∧ (∀ a p, hs[a]? = some p → Clo ops p i → q ≤ j + a)) := by
  induction hs with
  | nil => intro j h; cases h
  | cons p r ih =>
    intro j h ⟨h1, h2⟩
    simp only [blocked,Bool.or_eq_true,Bool.and_eq_true] at h
    rcases h with (⟨ha, hb⟩ | ⟨ha, hb⟩) | h
    · have := h1 0 p rfl (hm _ _ ha)
      have := Nat.le_of_ble_eq_true hb; omega
    · have := h2 0 p rfl (hm _ _ ha)
      have := lt_of_blt hb; omega
    · refine ih h ⟨fun a p hp hc => ?_, fun a p hp hc => ?_⟩
      · have := h1 (a + 1) p (by simpa using hp) hc; omega
      · have := h2 (a + 1) p (by simpa using hp) hc; omega

def again (T : Tab) (P : Program) (ex : Exec) (n : Nat) (f : Fl) (G : AHeap) : Bool :=
  match aopAny T P ex (maskE f.tl n f.e) G f.o.op with
  | some (true, v, _, _) => sameV 6 f.v v
  | _ => false
def stagesOk (T : Tab) (P : Program) (ex : Exec) (n : Nat) (bef : Nat → Nat → Bool) (hs : List Nat) (f : Fl) : List AHeap → Nat → Bool
  | [], _ => true
  | G :: Gs, q => (Nat.beq q f.q || blocked bef f.i q hs 0 || again T P ex n f G) && stagesOk T P ex n bef hs f Gs (q + 1)
theorem stagesOk_ok {ex : Exec} {n : Nat} {bef : Nat → Nat → Bool} {hs : List Nat} {f : Fl} {Gs : List AHeap} : ∀ {q₀ : Nat}, stagesOk T P ex n bef hs f Gs q₀ = true → ∀ a G, Gs[a]? = some G → q₀ + a = f.q ∨ blocked bef f.i (q₀ + a) hs 0 = true ∨ again T P ex n f G = true := by
  induction Gs with
  | nil => intro q₀ h a G hG; simp at hG
  | cons G' Gs ih =>
    intro q₀ h a G hG
    simp only [stagesOk,Bool.and_eq_true,Bool.or_eq_true] at h
    cases a with
    | zero =>
      have : G' = G := by simpa using hG
      subst this
      rcases h.1 with (h1 | h1) | h1
      · exact .inl (Nat.eq_of_beq_eq_true h1)
      · exact .inr (.inl h1)
      · exact .inr (.inr h1)
    | succ a =>
      have := ih h.2 a G (by simpa using hG)
      rwa [show q₀ + 1 + a = q₀ + (a + 1) by omega] at this
def afterAll (bef : Nat → Nat → Bool) (p : Nat) : List Nat → Bool
  | [] => true
  | x :: r => bef x p && afterAll bef p r
def chain (bef : Nat → Nat → Bool) : List Nat → Bool
  | [] => true
  | p :: r => afterAll bef p r && chain bef r
theorem afterAll_ok {ops : Array Oper} {bef : Nat → Nat → Bool} (hm : MOk ops bef) {p : Nat} : ∀ {r : List Nat}, afterAll bef p r = true → ∀ x ∈ r, Clo ops x p
  | x :: r, h, y, hy => by
    simp only [afterAll,Bool.and_eq_true] at h
    rcases List.mem_cons.1 hy with rfl | hy
    · exact hm _ _ h.1
    · exact afterAll_ok hm h.2 y hy
theorem chain_ok {ops : Array Oper} {bef : Nat → Nat → Bool} (hm : MOk ops bef) {hs : List Nat} : chain bef hs = true → ∀ (a b pa pb : Nat), a < b → hs[a]? = some pa → hs[b]? = some pb → Clo ops pb pa := by
  induction hs with
  | nil => intro h a b pa pb _ ha; simp at ha
  | cons p r ih =>
    intro h a b pa pb hab ha hb
    simp only [chain,Bool.and_eq_true] at h
    cases b with
    | zero => omega
    | succ b =>
      cases a with
      | zero =>
        have : p = pa := by simpa using ha
        subst this
        exact afterAll_ok hm h.1 pb (List.mem_of_getElem? (by simpa using hb))
      | succ a => exact ih h.2 a b pa pb (by omega) (by simpa using ha) (by simpa using hb)

def allFl (p : Fl → Bool) : List Fl → Bool
  | [] => true
  | f :: l => p f && allFl p l
theorem allFl_ok {p : Fl → Bool} {l : List Fl} : allFl p l = true → ∀ f ∈ l, p f = true := by
  induction l with
  | nil => intro h f hf; simp at hf
  | cons x l ih =>
    intro h f hf
    simp only [allFl,Bool.and_eq_true] at h
    rcases List.mem_cons.1 hf with rfl | hf
    · exact h.1
    · exact ih h.2 f hf

def after (T : Tab) (P : Program) (ex : Exec) (n : Nat) (bef : Nat → Nat → Bool) (hs : List Nat) (Gs : List AHeap) (fl : List Fl) : Bool := match hs with
  | [] => true
  | hs => chain bef hs && allFl (fun f => stagesOk T P ex n bef hs f Gs 0) fl
def adraw (T : Tab) (P : Program) (ex : Exec) (ops : Array Oper) (n : Nat) (e : VT) (H : AHeap) : Option (VT × AHeap × Nat) :=
  fNat ops.toList.length fun w => fNat (matOf w ops.toList 0 0) fun M =>
  bif rstat ops (befM M w) then
    match dpass T P ex ops n ops.toList 0 0 e H with
    | some (fl, hs, Gs, ef, m) => bif after T P ex n (befM M w) hs Gs fl then fNat (min m H.size) fun m => fH (Gs.getD hs.length H) fun H' => some (ef, H', m) else none
    | none => none
  else none

theorem adraw_ok (hT : T.Fits P) {ex : Exec} (hex : ExOk P ex) {r : Option Nat} {id : Nat} {ops : Array Oper} {n : Nat} {ds : List Nat} {e e' : VT} {H H' : AHeap} {m : Nat} (h : adraw T P ex ops n e H = some (e', H', m)) :
    SCode P r (.region id ops true) ⟨lst n e, H, ds⟩ .normal ⟨lst n e', H', ds⟩ m := by
  unfold adraw at h
  simp only [fNat_eq] at h
  have hM : MOk ops (befM (matOf ops.toList.length ops.toList 0 0) ops.toList.length) := matOf_ok _ _ _ (by simp) (fun i j hi => by rw [befM_eq] at hi; simp at hi)
  generalize befM (matOf ops.toList.length ops.toList 0 0) ops.toList.length = bef at h hM
  cases hst : rstat ops bef
  · rw [hst] at h; cases h
  · rw [hst] at h
    simp only [cond_true] at h
    split at h
    · rename_i fl hs Gs ef m₀ hd
      cases haf : after T P ex n bef hs Gs fl
      · rw [haf] at h; cases h
      · rw [haf] at h
        simp only [cond_true,fNat_eq,fH_eq,Option.some.injEq,Prod.mk.injEq] at h
        obtain ⟨rfl, rfl, rfl⟩ := h
        have S := rstat_ok hM hst
        obtain ⟨sh1, sh2, sh3⟩ := dpass_shape hd
        obtain ⟨Tm, V, h1, h2, h3⟩ := dpass_ok (hall := hs) (Gall := Gs) (flAll := fl) (mAll := min m₀ H.size) (H₀ := H) (r := r) hT hex hd (by simp) (by simp) (by simp) (by simp) (Nat.zero_le _) (fun j p _ hj => by omega) (fun f hf => hf) (by omega)
        have hchain : chain bef hs = true ∧ ∀ f ∈ fl, f.q ≤ hs.length → ∀ q, q ≤ hs.length → q = f.q ∨ blocked bef f.i q hs 0 = true ∨ again T P ex n f (Gs.getD q H) = true := by
          cases hs with
          | nil => exact ⟨rfl, fun f _ hfq q hq => by simp at hfq hq; omega⟩
          | cons p t =>
            simp only [after,Bool.and_eq_true] at haf
            refine ⟨haf.1, fun f hf _ q hq => ?_⟩
            have hlt : q < Gs.length := by omega
            have hget : Gs[q]? = some Gs[q] := List.getElem?_eq_getElem hlt
            have := stagesOk_ok (allFl_ok haf.2 f hf) q _ hget
            rw [Nat.zero_add] at this
            have hgd : Gs.getD q H = Gs[q] := by rw [List.getD_eq_getElem?_getD, hget]; rfl
            rw [hgd]
            exact this
        have hG0 : Gs.getD 0 H = H := by rw [List.getD_eq_getElem?_getD, sh2]; rfl
        have D : Draws P r ops H (fun _ => none) hs (fun q => Gs.getD q H) Tm V (min m₀ H.size) := by
          refine ⟨fun i o ho => (h3 i o (Nat.zero_le _) ho).1, S.edge, S.one, S.sees, fun i o ho => ?_, chain_ok hM hchain.1, by omega, by simp only [hG0]; exact Nat.le_refl _, fun k hk => by simp only [hG0], fun i k hk => by simp at hk, fun i j k hk => by simp at hk⟩
          rcases (h3 i o (Nat.zero_le _) ho).2 with hh | ⟨a1, a2, f, hf, fi, fo, fq, fv, ft, ftl, hop⟩ | ⟨a1, j, m', a2, a3, a4⟩
          · exact .inl hh
          · refine .inr (.inl ⟨a1, a2, fun q hq c1 c2 => ?_⟩)
            rcases hchain.2 f hf fq q hq with e1 | e1 | e1
            · rw [e1]; exact hop
            · rw [fi] at e1
              exact absurd ⟨fun a p hp hc => by rw [Nat.zero_add]; exact c1 a p hp hc, fun a p hp hc => by rw [Nat.zero_add]; exact c2 a p hp hc⟩ (blocked_ok hM e1)
            · unfold again at e1
              rw [ftl, fo, maskE_eq, ← ft] at e1
              split at e1
              · rename_i v' Hx mx hx
                have := sameV_ok _ _ _ e1
                subst this
                obtain ⟨g1, g2⟩ := aopAny_ok hT hex (r := r) hx
                obtain ⟨rfl, rfl⟩ := g2 rfl
                rw [fv] at g1
                exact g1
              · cases e1
          · exact .inr (.inr (.inr ⟨a1, j, m', a2, a3, a4⟩))
        have := SCode.region_draw hT.mixed D (fun p hp => by have := (sh1 p hp).2; simpa using this) (id := id) (ds := ds)
        rw [h1, h2] at this
        exact this
    · cases h
end Go.Am
/- Regions that draw, with blocks whose numbers are set aside: operations that make new blocks in no order. -/
namespace Go.Am
variable {T : Tab} {P : Program}
open Classical

def allocs (H : AHeap) : List (Nat × ABlk) → AHeap
  | [] => H
  | p :: l => allocs (H.alloc p.2) l
def places (s : Nat) : List (Nat × ABlk) → List (Nat × Nat)
  | [] => []
  | p :: l => (p.1, s) :: places (s + 1) l
theorem allocs_size : ∀ (l : List (Nat × ABlk)) (H : AHeap), (allocs H l).size = H.size + l.length
  | [], H => rfl
  | p :: l, H => by rw [allocs, allocs_size l]; simp; omega
theorem allocs_old : ∀ (l : List (Nat × ABlk)) (H : AHeap) (k : Nat), k < H.size → (allocs H l).get k = H.get k
  | [], H, k, _ => rfl
  | p :: l, H, k, hk => by rw [allocs, allocs_old l _ k (by simp; omega), AHeap.get_alloc_other H _ (by omega)]
def look (l : List (Nat × Nat)) (i : Nat) : Option Nat := match l with
  | [] => none
  | p :: l => if i = p.1 then some p.2 else look l i
theorem places_look : ∀ (l : List (Nat × ABlk)) (s i k : Nat), look (places s l) i = some k → s ≤ k ∧ k < s + l.length
  | [], s, i, k, h => by cases h
  | p :: l, s, i, k, h => by
    simp only [places,look] at h
    split at h
    · cases h; simp
    · have := places_look l (s + 1) i k h
      simp; omega
theorem places_one : ∀ (l : List (Nat × ABlk)) (s i j k : Nat), look (places s l) i = some k → look (places s l) j = some k → i = j
  | [], s, i, j, k, h, _ => by cases h
  | p :: l, s, i, j, k, h, h' => by
    simp only [places,look] at h h'
    split at h
    · rename_i e
      cases h
      split at h'
      · rename_i e'; rw [e, e']
      · have := places_look l _ _ _ h'; omega
    · split at h'
      · cases h'
        have := places_look l _ _ _ h; omega
      · exact places_one l _ _ _ _ h h'

noncomputable def evR (T : Tab) (P : Program) (ex : Exec) (rl : List (Nat × Nat)) (i : Nat) (t : Operand → Option Value) (H : AHeap) (o : Op) : Res := match look rl i with
  | none => aopAny T P ex t H o
  | some k => match anew T t o with
    | some (p, blk) => if H.get k = blk ∧ k < H.size then some (true, mkV p k, H, H.size) else none
    | none => none
noncomputable def dpassR (T : Tab) (P : Program) (ex : Exec) (rl : List (Nat × Nat)) (ops : Array Oper) (n : Nat) : List Oper → Nat → Nat → VT → AHeap → Option (List Fl × List Nat × List AHeap × VT × Nat)
  | [], _, _, e, H => some ([], [], [H], e, H.size)
  | o :: l, i, q, e, H =>
    bif wantE ops n e o then
      match evR T P ex rl i (maskE (tmpsOf o.op.operands.toList) n e) H o.op with
      | some (true, v, _, _) => match dpassR T P ex rl ops n l (i + 1) q (e.put o.dst v) H with
        | some (fl, hs, Gs, ef, m) => some (⟨i, q, tmpsOf o.op.operands.toList, e, o, v⟩ :: fl, hs, Gs, ef, m)
        | none => none
      | some (false, v, H₁, m₁) => match dpassR T P ex rl ops n l (i + 1) (q + 1) (e.put o.dst v) H₁ with
        | some (fl, hs, Gs, ef, m) => some (fl, i :: hs, H :: Gs, ef, min m₁ m)
        | none => none
      | none => none
    else dpassR T P ex rl ops n l (i + 1) q (e.put o.dst undef) H

theorem dpassR_shape {ex : Exec} {rl : List (Nat × Nat)} {ops : Array Oper} {n : Nat} : ∀ {l : List Oper} {i q : Nat} {e : VT} {H : AHeap} {fl : List Fl} {hs : List Nat} {Gs : List AHeap} {ef : VT} {m : Nat},
    dpassR T P ex rl ops n l i q e H = some (fl, hs, Gs, ef, m) → (∀ p ∈ hs, i ≤ p ∧ p < i + l.length) ∧ Gs[0]? = some H ∧ Gs.length = hs.length + 1 := by
  intro l
  induction l with
  | nil =>
    intro i q e H fl hs Gs ef m h
    simp only [dpassR,Option.some.injEq,Prod.mk.injEq] at h
    obtain ⟨_, rfl, rfl, _, _⟩ := h
    simp
  | cons o l ih =>
    intro i q e H fl hs Gs ef m h
    simp only [dpassR] at h
    cases hw : wantE ops n e o
    · rw [hw] at h
      obtain ⟨h1, h2, h3⟩ := ih h
      exact ⟨fun p hp => by have := h1 p hp; simp; omega, h2, h3⟩
    · rw [hw] at h
      simp only [cond_true] at h
      split at h
      · split at h
        · rename_i hd
          cases h
          obtain ⟨h1, h2, h3⟩ := ih hd
          exact ⟨fun p hp => by have := h1 p hp; simp; omega, h2, h3⟩
        · cases h
      · split at h
        · rename_i hd
          cases h
          obtain ⟨h1, h2, h3⟩ := ih hd
          refine ⟨fun p hp => ?_, rfl, by simp [h3]⟩
          rcases List.mem_cons.1 hp with rfl | hp
          · simp
          · have := h1 p hp; simp; omega
        · cases h
      · cases h

def StepR (P : Program) (r : Option Nat) (ops : Array Oper) (n : Nat) (hall : List Nat) (G : Nat → AHeap) (flAll : List Fl) (mAll : Nat) (Tm : Nat → List Value) (V : Nat → Value) (k : Nat) (o : Oper) : Prop :=
  (awanted ops (Tm k) o = false ∧ V k = undef ∧ k ∉ hall) ∨
  (awanted ops (Tm k) o = true ∧ k ∉ hall ∧ ∃ f ∈ flAll, f.i = k ∧ f.o = o ∧ f.v = V k ∧ Tm k = lst n f.e ∧ f.tl = tmpsOf o.op.operands.toList) ∨
  (awanted ops (Tm k) o = true ∧ ∃ j m', hall[j]? = some k ∧ mAll ≤ m' ∧ SOp P r o (maskT o (aval (Tm k))) (G j) (V k) (G (j + 1)) m')

theorem dpassR_ok (hT : T.Fits P) {ex : Exec} (hex : ExOk P ex) {rl : List (Nat × Nat)} {r : Option Nat} {ops : Array Oper} {n : Nat} {hall : List Nat} {Gall : List AHeap} {flAll : List Fl} {mAll : Nat} {H₀ : AHeap} :
    ∀ {l : List Oper} {i q : Nat} {e : VT} {H : AHeap} {fl : List Fl} {hs : List Nat} {Gs : List AHeap} {ef : VT} {m : Nat},
    dpassR T P ex rl ops n l i q e H = some (fl, hs, Gs, ef, m) → l = ops.toList.drop i → i + l.length = ops.size → hall.drop q = hs → Gall.drop q = Gs → q ≤ hall.length → (∀ j p, hall[j]? = some p → j < q → p < i) → (∀ f ∈ fl, f ∈ flAll) → mAll ≤ m →
    ∃ (Tm : Nat → List Value) (V : Nat → Value), Tm i = lst n e ∧ Tm ops.size = lst n ef ∧ ∀ k o, i ≤ k → ops[k]? = some o → Tm (k + 1) = tset (Tm k) o.dst (V k) ∧ StepR P r ops n hall (fun q => Gall.getD q H₀) flAll mAll Tm V k o := by
  intro l
  induction l with
  | nil =>
    intro i q e H fl hs Gs ef m h hl hsz _ _ _ _ _ _
    simp only [dpassR,Option.some.injEq,Prod.mk.injEq] at h
    obtain ⟨_, _, _, rfl, _⟩ := h
    refine ⟨fun _ => lst n e, fun _ => undef, rfl, rfl, fun k o hk ho => ?_⟩
    have := (Array.getElem?_eq_some_iff.1 ho).1
    simp at hsz
    omega
  | cons o l ih =>
    intro i q e H fl hs Gs ef m h hl hsz hhs hGs hq hlow hfl hm
    have hk : ops[i]? = some o := by
      rw [← Array.getElem?_toList]
      have := congrArg (·[0]?) hl
      simpa using this.symm
    have hl' : l = ops.toList.drop (i + 1) := by
      have := congrArg List.tail hl
      simpa [List.tail_drop] using this
    have hsz' : i + 1 + l.length = ops.size := by simp at hsz; omega
    have hsh := dpassR_shape h
    have hG : Gall.getD q H₀ = H := by
      have : (Gall.drop q)[0]? = some H := by rw [hGs]; exact hsh.2.1
      rw [List.getElem?_drop, Nat.add_zero] at this
      rw [List.getD_eq_getElem?_getD, this]; rfl
    simp only [dpassR] at h
    have glue : ∀ (v : Value) (q' : Nat) (Tm : Nat → List Value) (V : Nat → Value), Tm (i + 1) = lst n (e.put o.dst v) → Tm ops.size = lst n ef →
        (∀ k o, i + 1 ≤ k → ops[k]? = some o → Tm (k + 1) = tset (Tm k) o.dst (V k) ∧ StepR P r ops n hall (fun q => Gall.getD q H₀) flAll mAll Tm V k o) →
        (∀ (Tm : Nat → List Value) (V : Nat → Value), Tm i = lst n e → V i = v → StepR P r ops n hall (fun q => Gall.getD q H₀) flAll mAll Tm V i o) →
        ∃ (Tm : Nat → List Value) (V : Nat → Value), Tm i = lst n e ∧ Tm ops.size = lst n ef ∧ ∀ k o, i ≤ k → ops[k]? = some o → Tm (k + 1) = tset (Tm k) o.dst (V k) ∧ StepR P r ops n hall (fun q => Gall.getD q H₀) flAll mAll Tm V k o := by
      intro v q' Tm V h1 h2 h3 h4
      refine ⟨fun k => if k = i then lst n e else Tm k, fun k => if k = i then v else V k, by simp, ?_, ?_⟩
      · have : ops.size ≠ i := by simp at hsz; omega
        simp only [this,if_false]; exact h2
      · intro k o' hk' ho'
        by_cases e1 : k = i
        · subst e1
          rw [hk] at ho'; cases ho'
          refine ⟨?_, h4 _ _ (by simp) (by simp)⟩
          have : k + 1 ≠ k := by omega
          simp only [this,if_false,if_true,h1,lst_put]
        · have hge : i + 1 ≤ k := by omega
          obtain ⟨g1, g2⟩ := h3 k o' hge ho'
          have hne : k + 1 ≠ i := by omega
          simp only [e1,hne,if_false]
          refine ⟨g1, ?_⟩
          unfold StepR at g2 ⊢
          simp only [e1,if_false]
          exact g2
    have notin : (∀ p ∈ hs, i + 1 ≤ p) → i ∉ hall := by
      intro hp hm'
      obtain ⟨j, hj⟩ := List.getElem?_of_mem hm'
      by_cases hjq : j < q
      · have := hlow j i hj hjq; omega
      · have : (hall.drop q)[j - q]? = some i := by rw [List.getElem?_drop]; rw [show q + (j - q) = j by omega]; exact hj
        rw [hhs] at this
        have := hp i (List.mem_of_getElem? this); omega
    have hlow' : ∀ j p, hall[j]? = some p → j < q → p < i + 1 := fun j p hp hj => by have := hlow j p hp hj; omega
    cases hw : wantE ops n e o
    · rw [hw] at h
      simp only [cond_false] at h
      obtain ⟨Tm, V, h1, h2, h3⟩ := ih h hl' hsz' hhs hGs hq hlow' hfl hm
      refine glue undef q Tm V h1 h2 h3 fun Tm V ht hv => .inl ⟨?_, hv, notin fun p hp => ((dpassR_shape h).1 p hp).1⟩
      rw [ht, ← wantE_eq]; exact hw
    · rw [hw] at h
      simp only [cond_true] at h
      split at h
      · rename_i v Hx mx ho
        split at h
        · rename_i fl' hs' Gs' ef' m' hd
          simp only [Option.some.injEq,Prod.mk.injEq] at h
          obtain ⟨rfl, rfl, rfl, rfl, rfl⟩ := h
          obtain ⟨Tm, V, h1, h2, h3⟩ := ih hd hl' hsz' hhs hGs hq hlow' (fun f hf => hfl f (by simp [hf])) hm
          refine glue v q Tm V h1 h2 h3 fun Tm V ht hv => .inr (.inl ⟨?_, notin fun p hp => ((dpassR_shape hd).1 p hp).1, ⟨i, q, tmpsOf o.op.operands.toList, e, o, v⟩, hfl _ (by simp), rfl, rfl, hv.symm, ht, rfl⟩)
          rw [ht, ← wantE_eq]; exact hw
        · cases h
      · rename_i v H₁ m₁ ho
        have ho' : aopAny T P ex (maskE (tmpsOf o.op.operands.toList) n e) H o.op = some (false, v, H₁, m₁) := by
          unfold evR at ho
          split at ho
          · exact ho
          · split at ho
            · split at ho <;> cases ho
            · cases ho
        split at h
        · rename_i fl' hs' Gs' ef' m' hd
          simp only [Option.some.injEq,Prod.mk.injEq] at h
          obtain ⟨rfl, rfl, rfl, rfl, rfl⟩ := h
          have hqi : hall[q]? = some i := by
            have : (hall.drop q)[0]? = some i := by rw [hhs]; rfl
            rwa [List.getElem?_drop, Nat.add_zero] at this
          have hql : q + 1 ≤ hall.length := (List.getElem?_eq_some_iff.1 hqi).1
          have hhs' : hall.drop (q + 1) = hs' := by
            have := congrArg List.tail hhs
            simpa [List.tail_drop] using this
          have hGs' : Gall.drop (q + 1) = Gs' := by
            have := congrArg List.tail hGs
            simpa [List.tail_drop] using this
          have hG' : Gall.getD (q + 1) H₀ = H₁ := by
            have : (Gall.drop (q + 1))[0]? = some H₁ := by rw [hGs']; exact (dpassR_shape hd).2.1
            rw [List.getElem?_drop, Nat.add_zero] at this
            rw [List.getD_eq_getElem?_getD, this]; rfl
          have hlow2 : ∀ j p, hall[j]? = some p → j < q + 1 → p < i + 1 := fun j p hp hj => by
            by_cases e1 : j = q
            · subst e1; rw [hqi] at hp; cases hp; omega
            · have := hlow j p hp (by omega); omega
          obtain ⟨Tm, V, h1, h2, h3⟩ := ih hd hl' hsz' hhs' hGs' hql hlow2 hfl (by omega)
          refine glue v q Tm V h1 h2 h3 fun Tm V ht hv => .inr (.inr ⟨?_, q, m₁, hqi, by omega, ?_⟩)
          · rw [ht, ← wantE_eq]; exact hw
          · rw [maskE_eq] at ho'
            obtain ⟨g1, _⟩ := aopAny_ok hT hex (r := r) ho'
            rw [ht, hv]
            simp only [hG,hG']
            exact g1
        · cases h
      · cases h

/-- Everything that may come elsewhere comes to the same there. -/
def againR (T : Tab) (P : Program) (ex : Exec) (rl : List (Nat × Nat)) (n : Nat) (f : Fl) (G : AHeap) : Prop := ∃ H m, evR T P ex rl f.i (maskE f.tl n f.e) G f.o.op = some (true, f.v, H, m)
structure ChkR (T : Tab) (P : Program) (ex : Exec) (rl : List (Nat × Nat)) (ops : Array Oper) (n : Nat) (G₀ : AHeap) (fl : List Fl) (hs : List Nat) (Gs : List AHeap) : Prop where
  stat : rstat ops (befM (matOf ops.toList.length ops.toList 0 0) ops.toList.length) = true
  chn : chain (befM (matOf ops.toList.length ops.toList 0 0) ops.toList.length) hs = true
  again : ∀ f ∈ fl, ∀ q, q ≤ hs.length → blocked (befM (matOf ops.toList.length ops.toList 0 0) ops.toList.length) f.i q hs 0 = true ∨ againR T P ex rl n f (Gs.getD q G₀)
noncomputable def adrawR (T : Tab) (P : Program) (ex : Exec) (ops : Array Oper) (n : Nat) (e : VT) (H : AHeap) (pl : List (Nat × ABlk)) : Option (VT × AHeap × Nat) :=
  match dpassR T P ex (places H.size pl) ops n ops.toList 0 0 e (allocs H pl) with
  | some (fl, hs, Gs, ef, m) => if ChkR T P ex (places H.size pl) ops n (allocs H pl) fl hs Gs then some (ef, Gs.getD hs.length (allocs H pl), min m H.size) else none
  | none => none
theorem adrawR_ok (hT : T.Fits P) {ex : Exec} (hex : ExOk P ex) {r : Option Nat} {id : Nat} {ops : Array Oper} {n : Nat} {ds : List Nat} {e e' : VT} {H H' : AHeap} {m : Nat} {pl : List (Nat × ABlk)} (h : adrawR T P ex ops n e H pl = some (e', H', m)) :
    SCode P r (.region id ops true) ⟨lst n e, H, ds⟩ .normal ⟨lst n e', H', ds⟩ m := by
  unfold adrawR at h
  split at h
  · rename_i fl hs Gs ef m₀ hd
    split at h
    · rename_i hc
      cases h
      have hM : MOk ops (befM (matOf ops.toList.length ops.toList 0 0) ops.toList.length) := matOf_ok _ _ _ (by simp) (fun i j hi => by rw [befM_eq] at hi; simp at hi)
      have S := rstat_ok hM hc.stat
      obtain ⟨sh1, sh2, sh3⟩ := dpassR_shape hd
      obtain ⟨Tm, V, h1, h2, h3⟩ := dpassR_ok (hall := hs) (Gall := Gs) (flAll := fl) (mAll := min m₀ H.size) (H₀ := allocs H pl) (r := r) hT hex hd (by simp) (by simp) (by simp) (by simp) (Nat.zero_le _) (fun j p _ hj => by omega) (fun f hf => hf) (by omega)
      have hG0 : Gs.getD 0 (allocs H pl) = allocs H pl := by rw [List.getD_eq_getElem?_getD, sh2]; rfl
      have D : Draws P r ops H (look (places H.size pl)) hs (fun q => Gs.getD q (allocs H pl)) Tm V (min m₀ H.size) := by
        refine ⟨fun i o ho => (h3 i o (Nat.zero_le _) ho).1, S.edge, S.one, S.sees, fun i o ho => ?_, chain_ok hM hc.chn, by omega, by simp only [hG0,allocs_size]; omega, fun k hk => by simp only [hG0]; exact allocs_old pl H k hk, fun i k hk => ?_, fun i j k hi hj => places_one _ _ _ _ _ hi hj⟩
        · rcases (h3 i o (Nat.zero_le _) ho).2 with hh | ⟨a1, a2, f, hf, fi, fo, fv, ft, ftl⟩ | ⟨a1, j, m', a2, a3, a4⟩
          · exact .inl hh
          · have all : ∀ q, q ≤ hs.length → (∀ j p, hs[j]? = some p → Clo ops i p → j < q) → (∀ j p, hs[j]? = some p → Clo ops p i → q ≤ j) → againR T P ex (places H.size pl) n f (Gs.getD q (allocs H pl)) := by
              intro q hq c1 c2
              rcases hc.again f hf q hq with e1 | e1
              · rw [fi] at e1
                exact absurd ⟨fun a p hp hcl => by rw [Nat.zero_add]; exact c1 a p hp hcl, fun a p hp hcl => by rw [Nat.zero_add]; exact c2 a p hp hcl⟩ (blocked_ok hM e1)
              · exact e1
            cases hlk : look (places H.size pl) i with
            | none =>
              refine .inr (.inl ⟨a1, a2, fun q hq c1 c2 => ?_⟩)
              obtain ⟨Hx, mx, hx⟩ := all q hq c1 c2
              unfold evR at hx
              rw [fi, hlk, ftl, fo, maskE_eq, ← ft, fv] at hx
              obtain ⟨g1, g2⟩ := aopAny_ok hT hex (r := r) hx
              obtain ⟨rfl, rfl⟩ := g2 rfl
              exact g1
            | some k =>
              refine .inr (.inr (.inl ⟨a1, a2, k, rfl, fun q hq c1 c2 => ?_⟩))
              obtain ⟨Hx, mx, hx⟩ := all q hq c1 c2
              unfold evR at hx
              rw [fi, hlk, ftl, fo, maskE_eq, ← ft] at hx
              simp only at hx
              split at hx
              · rename_i p blk ha
                split at hx
                · rename_i hg
                  simp only [Option.some.injEq,Prod.mk.injEq,true_and] at hx
                  rw [← fv, ← hx.1]
                  exact SNew.of_new hT ha hg.2 hg.1
                · cases hx
              · cases hx
          · exact .inr (.inr (.inr ⟨a1, j, m', a2, a3, a4⟩))
        · have := places_look _ _ _ _ hk
          simp only [hG0,allocs_size]; omega
      have := SCode.region_draw hT.mixed D (fun p hp => by have := (sh1 p hp).2; simpa using this) (id := id) (ds := ds)
      rw [h1, h2] at this
      exact this
    · cases h
  · cases h
end Go.Am
/- Regions that draw, with new blocks in no order, by a check that can be run. -/
namespace Go.Am
variable {T : Tab} {P : Program}
def sameVs : List Value → List Value → Bool
  | [], [] => true
  | a :: l, b :: l' => sameV 6 a b && sameVs l l'
  | _, _ => false
theorem sameVs_ok : ∀ {l l' : List Value}, sameVs l l' = true → l = l'
  | [], [], _ => rfl
  | a :: l, b :: l', h => by
    simp only [sameVs,Bool.and_eq_true] at h
    rw [sameV_ok _ _ _ h.1, sameVs_ok h.2]
  | [], _ :: _, h => by cases h
  | _ :: _, [], h => by cases h
def sameRw : ABlk → ABlk → Bool
  | .rw c e o [], .rw c' e' o' [] => sameVs c c' && (Nat.beq e e' && (o == o'))
  | _, _ => false
theorem sameRw_ok {a b : ABlk} (h : sameRw a b = true) : a = b := by
  unfold sameRw at h
  split at h
  · simp only [Bool.and_eq_true,beq_iff_eq] at h
    obtain ⟨h1, h2, h3⟩ := h
    rw [sameVs_ok h1, Nat.eq_of_beq_eq_true h2, h3]
  · cases h
/-- The blocks that a region allocates, with nothing in them. -/
def autoPl (T : Tab) : List Oper → Nat → List (Nat × ABlk)
  | [], _ => []
  | o :: l, i => match o.op with
    | .alloc e => match newAlloc T e with
      | some (_, blk) => (i, blk) :: autoPl T l (i + 1)
      | none => autoPl T l (i + 1)
    | _ => autoPl T l (i + 1)
def evB (T : Tab) (P : Program) (ex : Exec) (rl : List (Nat × Nat)) (i : Nat) (t : Operand → Option Value) (H : AHeap) (o : Op) : Res := match look rl i with
  | none => aopAny T P ex t H o
  | some k => match anew T t o with
    | some (p, blk) => bif sameRw (H.get k) blk && Nat.blt k H.size then some (true, mkV p k, H, H.size) else none
    | none => none
theorem evB_ok {ex : Exec} {rl : List (Nat × Nat)} {i : Nat} {t : Operand → Option Value} {H : AHeap} {o : Op} {x : Bool × Value × AHeap × Nat} (h : evB T P ex rl i t H o = some x) : evR T P ex rl i t H o = some x := by
  unfold evB at h
  unfold evR
  cases hl : look rl i with
  | none => rw [hl] at h; exact h
  | some k =>
    rw [hl] at h
    simp only at h ⊢
    cases ha : anew T t o with
    | none => rw [ha] at h; cases h
    | some q =>
      obtain ⟨p, blk⟩ := q
      rw [ha] at h
      simp only at h ⊢
      cases hb : (sameRw (H.get k) blk && Nat.blt k H.size) with
      | false => rw [hb] at h; cases h
      | true =>
        rw [hb] at h
        simp only [Bool.and_eq_true] at hb
        rw [if_pos ⟨sameRw_ok hb.1, Nat.le_of_ble_eq_true hb.2⟩]
        exact h
def dpassB (T : Tab) (P : Program) (ex : Exec) (rl : List (Nat × Nat)) (ops : Array Oper) (n : Nat) : List Oper → Nat → Nat → VT → AHeap → Option (List Fl × List Nat × List AHeap × VT × Nat)
  | [], _, _, e, H => some ([], [], [H], e, H.size)
  | o :: l, i, q, e, H =>
    bif wantE ops n e o then
      match evB T P ex rl i (maskE (tmpsOf o.op.operands.toList) n e) H o.op with
      | some (true, v, _, _) => match dpassB T P ex rl ops n l (i + 1) q (e.put o.dst v) H with
        | some (fl, hs, Gs, ef, m) => some (⟨i, q, tmpsOf o.op.operands.toList, e, o, v⟩ :: fl, hs, Gs, ef, m)
        | none => none
      | some (false, v, H₁, m₁) => match dpassB T P ex rl ops n l (i + 1) (q + 1) (e.put o.dst v) H₁ with
        | some (fl, hs, Gs, ef, m) => some (fl, i :: hs, H :: Gs, ef, min m₁ m)
        | none => none
      | none => none
    else dpassB T P ex rl ops n l (i + 1) q (e.put o.dst undef) H
theorem dpassB_ok {ex : Exec} {rl : List (Nat × Nat)} {ops : Array Oper} {n : Nat} : ∀ {l : List Oper} {i q : Nat} {e : VT} {H : AHeap} {x : List Fl × List Nat × List AHeap × VT × Nat}, dpassB T P ex rl ops n l i q e H = some x → dpassR T P ex rl ops n l i q e H = some x := by
  intro l
  induction l with
  | nil => intro i q e H x h; exact h
  | cons o l ih =>
    intro i q e H x h
    simp only [dpassB] at h
    simp only [dpassR]
    cases hw : wantE ops n e o
    · rw [hw] at h
      exact ih h
    · rw [hw] at h
      simp only [cond_true] at h ⊢
      split at h
      · rename_i v _ _ he
        rw [evB_ok he]
        simp only
        split at h
        · rename_i hd
          rw [ih hd]
          exact h
        · cases h
      · rename_i v H₁ m₁ he
        rw [evB_ok he]
        simp only
        split at h
        · rename_i hd
          rw [ih hd]
          exact h
        · cases h
      · cases h
def againB (T : Tab) (P : Program) (ex : Exec) (rl : List (Nat × Nat)) (n : Nat) (f : Fl) (G : AHeap) : Bool := match evB T P ex rl f.i (maskE f.tl n f.e) G f.o.op with
  | some (true, v, _, _) => sameV 6 f.v v
  | _ => false
theorem againB_ok {ex : Exec} {rl : List (Nat × Nat)} {n : Nat} {f : Fl} {G : AHeap} (h : againB T P ex rl n f G = true) : againR T P ex rl n f G := by
  unfold againB at h
  split at h
  · rename_i v H m he
    rw [← sameV_ok _ _ _ h] at he
    exact ⟨H, m, evB_ok he⟩
  · cases h
def stagesB (T : Tab) (P : Program) (ex : Exec) (rl : List (Nat × Nat)) (n : Nat) (bef : Nat → Nat → Bool) (hs : List Nat) (f : Fl) : List AHeap → Nat → Bool
  | [], _ => true
  | G :: Gs, q => (blocked bef f.i q hs 0 || againB T P ex rl n f G) && stagesB T P ex rl n bef hs f Gs (q + 1)
theorem stagesB_ok {ex : Exec} {rl : List (Nat × Nat)} {n : Nat} {bef : Nat → Nat → Bool} {hs : List Nat} {f : Fl} {G₀ : AHeap} : ∀ {Gs : List AHeap} {q₀ : Nat}, stagesB T P ex rl n bef hs f Gs q₀ = true → ∀ a, a < Gs.length → blocked bef f.i (q₀ + a) hs 0 = true ∨ againR T P ex rl n f (Gs.getD a G₀)
  | [], _, _, a, ha => by simp at ha
  | G :: Gs, q₀, h, 0, _ => by
    simp only [stagesB,Bool.and_eq_true,Bool.or_eq_true] at h
    rcases h.1 with h1 | h1
    · exact .inl h1
    · exact .inr (againB_ok h1)
  | G :: Gs, q₀, h, a + 1, ha => by
    simp only [stagesB,Bool.and_eq_true,Bool.or_eq_true] at h
    have := stagesB_ok (G₀ := G₀) h.2 a (by simpa using ha)
    rw [show q₀ + 1 + a = q₀ + (a + 1) by omega] at this
    exact this
def adrawB (T : Tab) (P : Program) (ex : Exec) (ops : Array Oper) (n : Nat) (e : VT) (H : AHeap) : Option (VT × AHeap × Nat) :=
  match autoPl T ops.toList 0 with
  | [] => none
  | p :: l => match dpassB T P ex (places H.size (p :: l)) ops n ops.toList 0 0 e (allocs H (p :: l)) with
    | some (fl, hs, Gs, ef, m) => bif rstat ops (befM (matOf ops.toList.length ops.toList 0 0) ops.toList.length) && (chain (befM (matOf ops.toList.length ops.toList 0 0) ops.toList.length) hs && fl.all (fun f => stagesB T P ex (places H.size (p :: l)) n (befM (matOf ops.toList.length ops.toList 0 0) ops.toList.length) hs f Gs 0)) then some (ef, Gs.getD hs.length (allocs H (p :: l)), min m H.size) else none
    | none => none
theorem adrawB_ok {ex : Exec} {ops : Array Oper} {n : Nat} {e : VT} {H : AHeap} {x : VT × AHeap × Nat} (h : adrawB T P ex ops n e H = some x) : ∃ pl, adrawR T P ex ops n e H pl = some x := by
  unfold adrawB at h
  split at h
  · cases h
  · rename_i p l hp
    split at h
    · rename_i fl hs Gs ef m hd
      cases hb : (rstat ops (befM (matOf ops.toList.length ops.toList 0 0) ops.toList.length) && (chain (befM (matOf ops.toList.length ops.toList 0 0) ops.toList.length) hs && fl.all (fun f => stagesB T P ex (places H.size (p :: l)) n (befM (matOf ops.toList.length ops.toList 0 0) ops.toList.length) hs f Gs 0))) with
      | false => rw [hb] at h; cases h
      | true =>
        rw [hb] at h
        simp only [Bool.and_eq_true,List.all_eq_true] at hb
        obtain ⟨h1, h2, h3⟩ := hb
        have hd' := dpassB_ok hd
        obtain ⟨_, _, h6⟩ := dpassR_shape hd'
        refine ⟨p :: l, ?_⟩
        unfold adrawR
        rw [hd']
        simp only
        rw [if_pos ⟨h1, h2, fun f hf q hq => by
          have := stagesB_ok (G₀ := allocs H (p :: l)) (h3 f hf) q (by omega)
          rwa [Nat.zero_add] at this⟩]
        exact h
    · cases h
/-- What is to be had in one of two ways. -/
def orD {α : Type} (a b : Option α) : Option α := match a with
  | some x => some x
  | none => b
end Go.Am
