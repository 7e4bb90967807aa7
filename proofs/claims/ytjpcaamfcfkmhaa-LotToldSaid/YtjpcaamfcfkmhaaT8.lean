/- The little machine itself: calls, rounds, code. -/
import Derived.Test.YtjpcaamfcfkmhaaT6
import Derived.Test.YtjpcaamfcfkmhaaT7
set_option linter.unusedSimpArgs false
set_option linter.unusedVariables false
namespace Go.Am
variable {T : Tab} {P : Program}
/-! ### Temporaries -/
inductive VT where
 | nil
 | node (v : Value) (l r : VT)
def VT.get : VT → Nat → Value
 | .nil, _ => undef
 | .node v l r, n => bif Nat.beq n 0 then v else bif Nat.beq (n % 2) 1 then l.get (n / 2) else r.get (n / 2 - 1)
def VT.set : Nat → VT → Nat → Value → VT
 | 0, t, _, _ => t
 | d + 1, .nil, n, b =>
  bif Nat.beq n 0 then .node b .nil .nil
  else bif Nat.beq (n % 2) 1 then .node undef (VT.set d .nil (n / 2) b) .nil else .node undef .nil (VT.set d .nil (n / 2 - 1) b)
 | d + 1, .node v l r, n, b =>
  bif Nat.beq n 0 then .node b l r
  else bif Nat.beq (n % 2) 1 then .node v (VT.set d l (n / 2) b) r else .node v l (VT.set d r (n / 2 - 1) b)
theorem VT.get_set_same (b : Value) : ∀ (d : Nat) (t : VT) (n : Nat), n < d → (VT.set d t n b).get n = b := by
 intro d
 induction d with
 | zero => intro t n h; omega
 | succ d ih =>
  intro t n h
  by_cases h0 : n = 0
  ·subst h0; cases t <;> simp [VT.set, VT.get]
  ·have e0 := beq_ne h0
   by_cases h1 : n % 2 = 1
   ·have := fun t => ih t (n / 2) (by omega)
    cases t <;> simp [VT.set, VT.get, e0, h1, this]
   ·have e1 := beq_ne h1
    have := fun t => ih t (n / 2 - 1) (by omega)
    cases t <;> simp [VT.set, VT.get, e0, e1, this]
theorem VT.get_set_other (b : Value) : ∀ (d : Nat) (t : VT) (n k : Nat), k ≠ n → (VT.set d t n b).get k = t.get k := by
 intro d
 induction d with
 | zero => intro t n k h; rfl
 | succ d ih =>
  intro t n k h
  by_cases h0 : n = 0
  ·subst h0; have ek := beq_ne h; cases t <;> simp [VT.set, VT.get, ek]
  ·have e0 := beq_ne h0
   by_cases hk : k = 0
   ·subst hk
    by_cases h1 : n % 2 = 1
    ·cases t <;> simp [VT.set, VT.get, e0, h1]
    ·have e1 := beq_ne h1
     cases t <;> simp [VT.set, VT.get, e0, e1]
   ·have ek := beq_ne hk
    by_cases h1 : n % 2 = 1
    ·by_cases hk1 : k % 2 = 1
     ·have := fun t => ih t (n / 2) (k / 2) (by omega)
      cases t <;> simp [VT.set, VT.get, e0, h1, ek, hk1, this]
     ·have f1 := beq_ne hk1
      cases t <;> simp [VT.set, VT.get, e0, h1, ek, f1]
    ·have e1 := beq_ne h1
     by_cases hk1 : k % 2 = 1
     ·cases t <;> simp [VT.set, VT.get, e0, e1, ek, hk1]
     ·have f1 := beq_ne hk1
      have := fun t => ih t (n / 2 - 1) (k / 2 - 1) (by omega)
      cases t <;> simp [VT.set, VT.get, e0, e1, ek, f1, this]
def VT.setK {α : Type} : Nat → VT → Nat → Value → (VT → α) → α
 | 0, t, _, _, k => k t
 | d + 1, .nil, n, b, k =>
  bif Nat.beq n 0 then k (.node b .nil .nil)
  else bif Nat.beq (n % 2) 1 then VT.setK d .nil (n / 2) b fun l => k (.node undef l .nil) else VT.setK d .nil (n / 2 - 1) b fun r => k (.node undef .nil r)
 | d + 1, .node v l r, n, b, k =>
  bif Nat.beq n 0 then k (.node b l r)
  else bif Nat.beq (n % 2) 1 then VT.setK d l (n / 2) b fun l => k (.node v l r) else VT.setK d r (n / 2 - 1) b fun r => k (.node v l r)
theorem VT.setK_eq {α : Type} (b : Value) : ∀ (d : Nat) (t : VT) (n : Nat) (k : VT → α), VT.setK d t n b k = k (VT.set d t n b)
 | 0, t, n, k => rfl
 | d + 1, .nil, n, k => by
  simp only [VT.setK,VT.set]
  cases Nat.beq n 0 <;> simp only [cond_true,cond_false]
  cases Nat.beq (n % 2) 1 <;> simp only [cond_true,cond_false,VT.setK_eq b d]
 | d + 1, .node v l r, n, k => by
  simp only [VT.setK,VT.set]
  cases Nat.beq n 0 <;> simp only [cond_true,cond_false]
  cases Nat.beq (n % 2) 1 <;> simp only [cond_true,cond_false,VT.setK_eq b d]
def VT.put (e : VT) (d : Option Tmp) (v : Value) : VT := match d with
 | none => e
 | some d => VT.set (d + 1) e d v
def VT.putK {α : Type} (e : VT) (d : Option Tmp) (v : Value) (k : VT → α) : α := match d with
 | none => k e
 | some d => fV v fun v => VT.setK (d + 1) e d v k
@[simp] theorem VT.putK_eq {α : Type} (e : VT) (d : Option Tmp) (v : Value) (k : VT → α) : VT.putK e d v k = k (e.put d v) := by
 cases d with
 | none => rfl
 | some d => simp [VT.putK, VT.put, VT.setK_eq]
def lst (n : Nat) (e : VT) : List Value := (List.range n).map e.get
@[simp] theorem lst_length (n : Nat) (e : VT) : (lst n e).length = n := by simp [lst]
theorem lst_get (n : Nat) (e : VT) (i : Nat) : (lst n e)[i]? = if i < n then some (e.get i) else none := by
 unfold lst
 by_cases h : i < n
 ·simp [h]
 ·simp [h]
theorem lst_getD (n : Nat) (e : VT) (i : Nat) : (lst n e).getD i undef = bif Nat.blt i n then e.get i else undef := by
 rw [List.getD_eq_getElem?_getD, lst_get]
 by_cases h : i < n
 ·simp [h, blt_true h]
 ·simp [h, blt_false h]
theorem lst_put (n : Nat) (e : VT) (d : Option Tmp) (v : Value) : lst n (e.put d v) = tset (lst n e) d v := by
 cases d with
 | none => rfl
 | some d =>
  apply List.ext_getElem?
  intro i
  simp only [tset,lst_get,List.getElem?_set,lst_length]
  by_cases hi : i < n
  ·by_cases e' : d = i
   ·subst e'; simp [hi, VT.put, VT.get_set_same]
   ·simp [hi, e', VT.put, VT.get_set_other _ _ _ _ _ (Ne.symm e')]
  ·simp only [hi,if_false]
   split
   ·rename_i h; subst h; simp [hi]
   ·rfl
/-- The temporaries that a list gives. -/
def envK {α : Type} : List Value → Nat → VT → (VT → α) → α
 | [], _, e, k => k e
 | v :: vs, i, e, k => VT.putK e (some i) v fun e => envK vs (i + 1) e k
def env : List Value → Nat → VT → VT
 | [], _, e => e
 | v :: vs, i, e => env vs (i + 1) (e.put (some i) v)
@[simp] theorem envK_eq {α : Type} : ∀ (l : List Value) (i : Nat) (e : VT) (k : VT → α), envK l i e k = k (env l i e)
 | [], _, _, _ => rfl
 | v :: vs, i, e, k => by simp only [envK,VT.putK_eq,env]; exact envK_eq vs (i + 1) _ k
theorem env_get : ∀ (l : List Value) (i : Nat) (e : VT) (j : Nat), (env l i e).get j = if i ≤ j then (l[j - i]?).getD (e.get j) else e.get j
 | [], i, e, j => by simp [env]
 | v :: vs, i, e, j => by
  rw [env, env_get vs (i + 1)]
  by_cases h : j = i
  ·subst h
   have : ¬ (j + 1 ≤ j) := by omega
   simp [this, VT.put, VT.get_set_same]
  ·have e1 : (e.put (some i) v).get j = e.get j := VT.get_set_other _ _ _ _ _ h
   rw [e1]
   by_cases h' : i ≤ j
   ·have : i + 1 ≤ j := by omega
    have e2 : j - i = (j - (i + 1)) + 1 := by omega
    simp [this, h', e2]
   ·have : ¬ (i + 1 ≤ j) := by omega
    simp [this, h']
theorem lst_env (l : List Value) (n : Nat) : lst (l.length + n) (env l 0 .nil) = l ++ List.replicate n undef := by
 apply List.ext_getElem?
 intro j
 rw [lst_get, env_get]
 simp only [Nat.zero_le,if_true,Nat.sub_zero,VT.get]
 by_cases h : j < l.length
 ·have : j < l.length + n := by omega
  simp [h, this]
 ·by_cases h' : j < l.length + n
  ·have : j - l.length < n := by omega
   rw [List.getElem?_append_right (by omega)]
   simp [h', List.getElem?_replicate, this, List.getElem?_eq_none (Nat.le_of_not_lt h)]
  ·have : ¬ (j - l.length < n) := by omega
   rw [List.getElem?_append_right (by omega)]
   simp [h', List.getElem?_replicate, this]
structure ES where
 n : Nat
 e : VT
 H : AHeap
 ds : List Nat
def ES.st (s : ES) : St := ⟨lst s.n s.e, s.H, s.ds⟩
def aenv (n : Nat) (e : VT) : Operand → Option Value
 | .tmp i => some (bif Nat.blt i n then e.get i else undef)
 | .const v => bif gr v then some v else none
 | .func f => some (.func (.func f) #[] #[])
 | .global _ => none
theorem aenv_eq (n : Nat) (e : VT) : aenv n e = aval (lst n e) := by
 funext x
 cases x with
 | tmp i => simp only [aenv,aval,lst_getD]
 | _ => rfl
def aresG (T : Tab) (g : Nat → Value) (H : AHeap) : List ResultVar → Option (List Value)
 | [] => some []
 | .tmp i :: rs => match aresG T g H rs with
  | some vs => some (g i :: vs)
  | none => none
 | .cell a ty :: rs => match g a, aresG T g H rs with
  | .pointer (some ad), some vs => match aRead T H ty ad with
   | some v => some (v :: vs)
   | none => none
  | _, _ => none
theorem aresG_eq (H : AHeap) {t : List Value} {g : Nat → Value} (hg : ∀ i, t.getD i undef = g i) : ∀ (rs : List ResultVar), aresultList T t H rs = aresG T g H rs
 | [] => rfl
 | .tmp i :: rs => by simp only [aresultList,aresG,aresG_eq H hg rs,hg]; rfl
 | .cell a ty :: rs => by simp only [aresultList,aresG,aresG_eq H hg rs,hg]; rfl
def ares (T : Tab) (fn : Func) (n : Nat) (e : VT) (H : AHeap) : Option Value :=
 match aresG T (fun i => bif Nat.blt i n then e.get i else undef) H fn.results.toList with
 | some [v] => some v
 | some vs => some (.tuple vs.toArray)
 | none => none
theorem ares_eq (fn : Func) (n : Nat) (e : VT) (H : AHeap) : ares T fn n e H = aresults T fn (lst n e) H := by
 unfold ares aresults
 rw [aresG_eq H (fun i => lst_getD n e i)]
 rfl
/-! ### Calls -/
abbrev Exec := Option Nat → Code → ES → Option (Exit × ES × Nat)
def ExOk (P : Program) (ex : Exec) : Prop := ∀ r c s e s' m, ex r c s = some (e, s', m) → SCode P r c s.st e s'.st m
def quietV (v : Value) (H H' : AHeap) (m : Nat) : Res :=
 bif Nat.ble H.size m && gr v then some (true, v, H, H.size) else some (false, v, H', m)
def aleave (T : Tab) (fn : Func) (H : AHeap) (s' : ES) (m : Nat) : Res :=
 match atake s'.ds s'.H with
 | some H' => match ares T fn s'.n s'.e H' with
  | some v => fV v fun v => fNat (min (minAl m s'.ds) s'.H.size) fun m => quietV v H H' m
  | none => none
 | none => none
def acall0 (T : Tab) (ex : Exec) (f : FuncId) (args : List Value) (H : AHeap) : Res :=
 match T.fn f with
 | none => none
 | some fn => match fn.body with
  | none => none
  | some c => envK args 0 .nil fun e => fNat (args.length + (fn.ntmps - args.length)) fun n => match ex none c ⟨n, e, H, []⟩ with
   | some (.normal, s', m) => aleave T fn H s' m
   | some (.ret, s', m) => aleave T fn H s' m
   | _ => none
theorem aleave_ok (hT : T.Fits P) {f : FuncId} {fn : Func} {c : Code} {args : List Value} {H : AHeap} {e : Exit} {s' : ES} {m : Nat} (hf : HasCode P f fn c) (h : SCode P none c ⟨startT fn args, H, []⟩ e s'.st m) (he : e = .normal ∨ e = .ret)
  {b : Bool} {v : Value} {H' : AHeap} {m' : Nat} (hl : aleave T fn H s' m = some (b, v, H', m')) : SCall P f args H v H' m' ∧ (b = true → H' = H ∧ m' = H.size) := by
 unfold aleave at hl
 split at hl
 ·rename_i H₁ hk
  split at hl
  ·rename_i u hu
   simp only [fV_eq,fNat_eq] at hl
   rw [ares_eq] at hu
   have hmin := minAl_le m s'.ds
   have hc : SCall P f args H u H₁ (min (minAl m s'.ds) s'.H.size) := SCall.of_code hT hf h he hk hu (by omega) (by show _ ≤ s'.H.size; omega) (fun k hk' => by
    have := hmin.2 k hk'
    show min (minAl m s'.ds) s'.H.size ≤ k
    omega)
   unfold quietV at hl
   cases hq : (Nat.ble H.size (min (minAl m s'.ds) s'.H.size) && gr u)
   ·rw [hq] at hl
    cases hl
    exact ⟨hc, fun hb => by cases hb⟩
   ·rw [hq] at hl
    cases hl
    simp only [Bool.and_eq_true] at hq
    exact ⟨hc.gc (Nat.le_of_ble_eq_true hq.1) hq.2, fun _ => ⟨rfl, rfl⟩⟩
  ·cases hl
 ·cases hl
theorem acall0_ok (hT : T.Fits P) {ex : Exec} (hex : ExOk P ex) {f : FuncId} {args : List Value} {H : AHeap} {b : Bool} {v : Value} {H' : AHeap} {m : Nat} (h : acall0 T ex f args H = some (b, v, H', m)) :
  (∃ fn c, HasCode P f fn c) ∧ SCall P f args H v H' m ∧ (b = true → H' = H ∧ m = H.size) := by
 unfold acall0 at h
 split at h
 ·cases h
 ·rename_i fn hfn
  split at h
  ·cases h
  ·rename_i c hc
   simp only [envK_eq,fNat_eq] at h
   obtain ⟨g1, g2⟩ := hT.fn _ _ hfn
   have hf : HasCode P f fn c := ⟨g1, hc, g2⟩
   refine ⟨⟨fn, c, hf⟩, ?_⟩
   split at h
   ·rename_i s' m' he
    have := hex _ _ _ _ _ _ he
    simp only [ES.st,lst_env] at this
    exact aleave_ok hT hf this (.inl rfl) h
   ·rename_i s' m' he
    have := hex _ _ _ _ _ _ he
    simp only [ES.st,lst_env] at this
    exact aleave_ok hT hf this (.inr rfl) h
   ·cases h
/-- A call whose outcome is known already, or one that is run. -/
def acall (T : Tab) (ex : Exec) (f : FuncId) (args : List Value) (H : AHeap) : Res :=
 match T.memo f args H with
 | some r => some r
 | none => acall0 T ex f args H
theorem acall_ok (hT : T.Fits P) {ex : Exec} (hex : ExOk P ex) {f : FuncId} {args : List Value} {H : AHeap} {b : Bool} {v : Value} {H' : AHeap} {m : Nat} (h : acall T ex f args H = some (b, v, H', m)) :
  (∃ fn c, HasCode P f fn c) ∧ SCall P f args H v H' m ∧ (b = true → H' = H ∧ m = H.size) := by
 unfold acall at h
 split at h
 ·rename_i r hr
  cases h
  obtain ⟨⟨fn, c, h1, h2, h3⟩, h4, h5⟩ := hT.memo _ _ _ _ _ _ _ hr
  exact ⟨⟨fn, c, ⟨h1, h2, h3⟩⟩, h4, h5⟩
 ·exact acall0_ok hT hex h
def ayieldEnd (l : Nat) (m₁ : Nat) (jump : Option Code) (s₂ : ES) (m₂ : Nat) : Res :=
 match s₂.H.get l with
 | .loop _ _ t₂ ps₂ as₂ bd₂ d₂ => some (false, .bool jump.isNone, s₂.H.put l (.loop (if jump.isNone then .ready else .done) jump t₂ ps₂ as₂ bd₂ d₂), min (min m₁ l) (min m₂ l))
 | _ => none
def ayield (ex : Exec) (l : Nat) (args : List Value) (H : AHeap) : Res :=
 match H.get l with
 | .loop .ready _ t ps assign body _ =>
  bif Nat.beq args.length ps.size then
   envK (zipSet t (ps.toList.zip args)) 0 .nil fun e => fNat (zipSet t (ps.toList.zip args)).length fun n => match ex (some l) assign ⟨n, e, H, []⟩ with
   | some (.normal, s₁, m₁) => match s₁.H.get l with
    | .loop .ready pend₁ t₁ ps₁ as₁ bd₁ d₁ =>
     match ex (some l) body ⟨s₁.n, s₁.e, s₁.H.put l (.loop .busy pend₁ t₁ ps₁ as₁ bd₁ d₁), s₁.ds⟩ with
     | some (e, s₂, m₂) => match jumpOf e with
      | some jump => ayieldEnd l m₁ jump s₂ m₂
      | none => none
     | none => none
    | _ => none
   | _ => none
  else none
 | _ => none
theorem ayield_ok {ex : Exec} (hex : ExOk P ex) {l : Nat} {args : List Value} {H : AHeap} {b : Bool} {v : Value} {H' : AHeap} {m : Nat} (h : ayield ex l args H = some (b, v, H', m)) :
  SYield P l args H v H' m ∧ b = false := by
 unfold ayield at h
 split at h
 ·rename_i pend t ps assign body d hg
  cases hb : Nat.beq args.length ps.size
  ·rw [hb] at h; cases h
  ·rw [hb] at h
   simp only [cond_true,envK_eq,fNat_eq] at h
   split at h
   ·rename_i s₁ m₁ h1
    split at h
    ·rename_i pend₁ t₁ ps₁ as₁ bd₁ d₁ hg₁
     split at h
     ·rename_i e s₂ m₂ h2
      split at h
      ·rename_i jump hj
       unfold ayieldEnd at h
       split at h
       ·rename_i st₂ pend₂ t₂ ps₂ as₂ bd₂ d₂ hg₂
        cases h
        have a1 := hex _ _ _ _ _ _ h1
        have a2 := hex _ _ _ _ _ _ h2
        have e0 := lst_env (zipSet t (ps.toList.zip args)) 0
        simp only [Nat.add_zero,List.replicate_zero,List.append_nil] at e0
        simp only [ES.st,e0] at a1
        simp only [ES.st] at a2
        exact ⟨SYield.of_code hg (Nat.eq_of_beq_eq_true hb) a1 hg₁ a2 hg₂ hj, rfl⟩
       ·cases h
      ·cases h
     ·cases h
    ·cases h
   ·cases h
 ·cases h
def aopAny (T : Tab) (P : Program) (ex : Exec) (t : Operand → Option Value) (H : AHeap) (o : Op) : Res :=
 match o with
 | .call c => match c.callee with
  | .value f => match acallee t f c.args with
   | some (.func g, vs, cap) => acall T ex g (vs ++ cap) H
   | some (.yield l, vs, _) => ayield ex l vs H
   | _ => none
  | _ => aop T P t H (.call c)
 | o => aop T P t H o
theorem aopAny_ok (hT : T.Fits P) {ex : Exec} (hex : ExOk P ex) {r : Option Nat} {t : Operand → Option Value} {H : AHeap} {o : Oper} {b : Bool} {v : Value} {H' : AHeap} {m : Nat} (h : aopAny T P ex t H o.op = some (b, v, H', m)) :
  SOp P r o t H v H' m ∧ (b = true → H' = H ∧ m = H.size) := by
 have old : aop T P t H o.op = some (b, v, H', m) → SOp P r o t H v H' m ∧ (b = true → H' = H ∧ m = H.size) := fun h =>
  ⟨aop_sop hT h, fun hb => by subst hb; exact aop_still h⟩
 unfold aopAny at h
 split at h
 ·rename_i c ho
  obtain ⟨ce, args, tys⟩ := c
  simp only at h
  split at h
  ·rename_i f
   split at h
   ·rename_i g vs cap hc
    obtain ⟨⟨fn, c, hf⟩, h2, h3⟩ := acall_ok hT hex h
    exact ⟨SOp.call ho hc hf h2, h3⟩
   ·rename_i l vs cap hc
    obtain ⟨h2, h3⟩ := ayield_ok hex h
    exact ⟨SOp.yield ho hc h2, fun hb => by rw [h3] at hb; cases hb⟩
   ·cases h
  ·rw [← ho] at h; exact old h
 ·exact old h
/-! ### Regions in the order of the text -/
def ayieldE (ops : Array Oper) (n : Nat) (e : VT) (j : Nat) : Option Bool :=
 match (ops[j]?).bind (·.dst) with
 | some d => bif Nat.blt d n then (match e.get d with
   | .bool b => some b
   | _ => none) else none
 | none => none
theorem ayieldE_eq (ops : Array Oper) (n : Nat) (e : VT) (j : Nat) : ayieldE ops n e j = ayielded ops (lst n e) j := by
 unfold ayieldE ayielded
 cases hd : (ops[j]?).bind (·.dst) with
 | none => rfl
 | some d =>
  simp only [Option.bind_some,lst_get]
  by_cases h : d < n
  ·simp only [h,blt_true h,cond_true,if_true]
   cases e.get d <;> rfl
  ·simp [h, blt_false h]
def wantE (ops : Array Oper) (n : Nat) (e : VT) (o : Oper) : Bool := match o.guard with
 | none => true
 | some _ => Region.wanted o (ayieldE ops n e)
theorem wantE_eq (ops : Array Oper) (n : Nat) (e : VT) (o : Oper) : wantE ops n e o = awanted ops (lst n e) o := by
 unfold wantE awanted
 have : ayieldE ops n e = ayielded ops (lst n e) := funext fun j => ayieldE_eq ops n e j
 rw [this]
 cases hg : o.guard with
 | none => simp [Region.wanted, hg]
 | some _ => rfl
def aops (T : Tab) (P : Program) (ex : Exec) (ops : Array Oper) (n : Nat) (ds : List Nat) : List Oper → VT → AHeap → Option (VT × AHeap × Nat)
 | [], e, H => some (e, H, H.size)
 | o :: l, e, H =>
  bif wantE ops n e o then
   match aopAny T P ex (aenv n e) H o.op with
   | some (_, v, H₁, m₁) => fH H₁ fun H₁ => fNat m₁ fun m₁ => VT.putK e o.dst v fun e => match aops T P ex ops n ds l e H₁ with
    | some (e', H', m₂) => fNat (min m₁ m₂) fun m => some (e', H', m)
    | none => none
   | none => none
  else VT.putK e o.dst undef fun e => aops T P ex ops n ds l e H
theorem aops_ok (hT : T.Fits P) {ex : Exec} (hex : ExOk P ex) {r : Option Nat} {ops : Array Oper} {n : Nat} {ds : List Nat} : ∀ (l : List Oper) (k : Nat) (e : VT) (H : AHeap) (e' : VT) (H' : AHeap) (m : Nat),
  l = ops.toList.drop k → aops T P ex ops n ds l e H = some (e', H', m) → SOps P r ops (List.range' k l.length) ⟨lst n e, H, ds⟩ ⟨lst n e', H', ds⟩ m
 | [], k, e, H, e', H', m, _, h => by
  simp only [aops,Option.some.injEq,Prod.mk.injEq] at h
  obtain ⟨rfl, rfl, rfl⟩ := h
  exact SOps.nil
 | o :: l, k, e, H, e', H', m, hl, h => by
  have hk : ops[k]? = some o := by
   rw [← Array.getElem?_toList]
   have := congrArg (·[0]?) hl
   simpa using this.symm
  have hl' : l = ops.toList.drop (k + 1) := by
   have := congrArg List.tail hl
   simpa [List.tail_drop] using this
  simp only [aops] at h
  simp only [List.length_cons,List.range'_succ]
  cases hw : wantE ops n e o
  ·rw [hw] at h
   simp only [cond_false,VT.putK_eq] at h
   rw [wantE_eq] at hw
   have := aops_ok hT hex (r := r) l (k + 1) _ H e' H' m hl' h
   rw [lst_put] at this
   exact SOps.skip hk hw this
  ·rw [hw] at h
   simp only [cond_true,VT.putK_eq,fH_eq,fNat_eq] at h
   rw [wantE_eq] at hw
   split at h
   ·rename_i b v H₁ m₁ ho
    split at h
    ·rename_i e₂ H₂ m₂ h2
     cases h
     have := aops_ok hT hex (r := r) l (k + 1) _ H₁ e' H' m₂ hl' h2
     rw [lst_put] at this
     rw [aenv_eq] at ho
     exact SOps.op hk hw (aopAny_ok hT hex ho).1 this
    ·cases h
   ·cases h
end Go.Am
/- Regions that draw: what is looked at before they run. -/
namespace Go.Am
variable {T : Tab} {P : Program}
/-! ### Equal values -/
def sameL (f : Value → Value → Bool) : List Value → List Value → Bool
 | [], [] => true
 | x :: xs, y :: ys => f x y && sameL f xs ys
 | _, _ => false
theorem sameL_ok {f : Value → Value → Bool} (hf : ∀ x y, f x y = true → x = y) : ∀ (a b : List Value), sameL f a b = true → a = b
 | [], [], _ => rfl
 | x :: xs, y :: ys, h => by
  simp only [sameL,Bool.and_eq_true] at h
  rw [hf _ _ h.1, sameL_ok hf xs ys h.2]
 | [], _ :: _, h => by simp [sameL] at h
 | _ :: _, [], h => by simp [sameL] at h
def sameV : Nat → Value → Value → Bool
 | 0, _, _ => false
 | n + 1, a, b => match a, b with
  | .bool x, .bool y => x == y
  | .int k x, .int j y => decide (k = j) && decide (x = y)
  | .pointer x, .pointer y => decide (x = y)
  | .slice x l c, .slice y l' c' => decide (x = y) && Nat.beq l l' && Nat.beq c c'
  | .map x, .map y => decide (x = y)
  | .chan x, .chan y => decide (x = y)
  | .string x, .string y => decide (x = y)
  | .nilFunc, .nilFunc => true
  | .nilIface, .nilIface => true
  | .agg x, .agg y => sameL (sameV n) x.toList y.toList
  | .tuple x, .tuple y => sameL (sameV n) x.toList y.toList
  | .iface t x, .iface u y => Nat.beq t u && sameV n x y
  | .func f x y, .func g z u => decide (f = g) && sameL (sameV n) x.toList z.toList && sameL (sameV n) y.toList u.toList
  | _, _ => false
theorem sameV_ok : ∀ (n : Nat) (a b : Value), sameV n a b = true → a = b := by
 intro n
 induction n with
 | zero => intro a b h; cases h
 | succ n ih =>
  intro a b h
  unfold sameV at h
  split at h
  ·simpa using h
  ·simp at h; rw [h.1, h.2]
  ·simp at h; rw [h]
  ·simp only [Bool.and_eq_true,decide_eq_true_eq] at h
   rw [h.1.1, Nat.eq_of_beq_eq_true h.1.2, Nat.eq_of_beq_eq_true h.2]
  ·simp at h; rw [h]
  ·simp at h; rw [h]
  ·simp at h; rw [h]
  ·rfl
  ·rfl
  ·rw [Array.ext' (sameL_ok ih _ _ h)]
  ·rw [Array.ext' (sameL_ok ih _ _ h)]
  ·simp only [Bool.and_eq_true] at h
   rw [Nat.eq_of_beq_eq_true h.1, ih _ _ h.2]
  ·simp only [Bool.and_eq_true,decide_eq_true_eq] at h
   rw [h.1.1, Array.ext' (sameL_ok ih _ _ h.1.2), Array.ext' (sameL_ok ih _ _ h.2)]
  ·cases h
/-! ### What comes before what -/
def tb (m i : Nat) : Bool := Nat.beq (Nat.land (Nat.shiftRight m i) 1) 1
theorem tb_eq (m i : Nat) : tb m i = m.testBit i := by
 unfold tb Nat.testBit
 have h : ∀ x : Nat, Nat.beq (Nat.land x 1) 1 = (1 &&& x != 0) := fun x => by
  have h1 : Nat.land x 1 = x % 2 := Nat.and_one_is_mod x
  have h2 : 1 &&& x = x % 2 := by rw [Nat.and_comm]; exact Nat.and_one_is_mod x
  rw [h1, h2]
  rcases Nat.mod_two_eq_zero_or_one x with e | e <;> rw [e] <;> rfl
 exact h (Nat.shiftRight m i)
def MOk (ops : Array Oper) (bef : Nat → Nat → Bool) : Prop := ∀ i j, bef i j = true → Clo ops i j
/-- All rows in one number: bit w * i + j is set where j comes before i. -/
def rowOf (M w i : Nat) : Nat := Nat.land (Nat.shiftRight M (Nat.mul w i)) (Nat.sub (Nat.pow 2 w) 1)
def cloOf (M w : Nat) : List Edge → Nat
 | [] => 0
 | e :: es => bif Region.binds .any e then Nat.lor (Nat.lor (Nat.pow 2 e.on) (rowOf M w e.on)) (cloOf M w es) else cloOf M w es
def matOf (w : Nat) : List Oper → Nat → Nat → Nat
 | [], _, M => M
 | o :: l, i, M => fNat (Nat.lor M (Nat.shiftLeft (Nat.land (cloOf M w o.after.toList) (Nat.sub (Nat.pow 2 w) 1)) (Nat.mul w i))) fun M => matOf w l (Nat.succ i) M
def befM (M w i j : Nat) : Bool := Nat.blt j w && tb M (Nat.add (Nat.mul w i) j)
theorem rowOf_bit {M w i j : Nat} : (rowOf M w i).testBit j = (decide (j < w) && M.testBit (w * i + j)) := by
 have h : rowOf M w i = (M >>> (w * i)) &&& (2 ^ w - 1) := rfl
 rw [h, Nat.testBit_and, Nat.testBit_shiftRight, Nat.testBit_two_pow_sub_one, Bool.and_comm]
theorem befM_eq {M w i j : Nat} : befM M w i j = (decide (j < w) && M.testBit (w * i + j)) := by
 unfold befM
 rw [tb_eq]
 have h : Nat.add (Nat.mul w i) j = w * i + j := rfl
 rw [h]
 by_cases hj : j < w
 ·simp [hj, blt_true hj]
 ·simp [hj, blt_false hj]
theorem cloOf_ok {ops : Array Oper} {M w : Nat} (hm : MOk ops (befM M w)) {i : Nat} {o : Oper} (ho : ops[i]? = some o) : ∀ (es : List Edge), (∀ e ∈ es, e ∈ o.after) → ∀ j, (cloOf M w es).testBit j = true → Clo ops i j
 | [], _, j, h => by simp [cloOf] at h
 | e :: es, he, j, h => by
  simp only [cloOf] at h
  cases hb : Region.binds .any e
  ·rw [hb] at h; exact cloOf_ok hm ho es (fun x hx => he x (by simp [hx])) j h
  ·rw [hb] at h
   simp only [cond_true] at h
   have h' : ((2 ^ e.on ||| rowOf M w e.on) ||| cloOf M w es).testBit j = true := h
   rw [Nat.testBit_or, Nat.testBit_or, Nat.testBit_two_pow] at h'
   simp only [Bool.or_eq_true,decide_eq_true_eq] at h'
   rcases h' with (h' | h') | h'
   ·subst h'; exact .edge ho (he e (by simp)) hb
   ·exact .trans ho (he e (by simp)) hb (hm _ _ (by rw [befM_eq, ← rowOf_bit]; exact h'))
   ·exact cloOf_ok hm ho es (fun x hx => he x (by simp [hx])) j h'
theorem matOf_ok {ops : Array Oper} {w : Nat} : ∀ (l : List Oper) (k M : Nat), l = ops.toList.drop k → MOk ops (befM M w) → MOk ops (befM (matOf w l k M) w)
 | [], _, M, _, h => h
 | o :: l, k, M, hl, h => by
  have hk : ops[k]? = some o := by
   rw [← Array.getElem?_toList]
   have := congrArg (·[0]?) hl
   simpa using this.symm
  have hl' : l = ops.toList.drop (k + 1) := by
   have := congrArg List.tail hl
   simpa [List.tail_drop] using this
  simp only [matOf,fNat_eq]
  refine matOf_ok l (k + 1) _ hl' ?_
  intro i j hi
  rw [befM_eq] at hi
  simp only [Bool.and_eq_true,decide_eq_true_eq] at hi
  obtain ⟨hj, hi⟩ := hi
  have e0 : Nat.lor M (Nat.shiftLeft (Nat.land (cloOf M w o.after.toList) (Nat.sub (Nat.pow 2 w) 1)) (Nat.mul w k)) = M ||| ((cloOf M w o.after.toList &&& (2 ^ w - 1)) <<< (w * k)) := rfl
  rw [e0, Nat.testBit_or, Nat.testBit_shiftLeft, Nat.testBit_and, Nat.testBit_two_pow_sub_one] at hi
  simp only [Bool.or_eq_true,Bool.and_eq_true,decide_eq_true_eq] at hi
  rcases hi with hi | ⟨h1, h2, h3⟩
  ·exact h i j (by rw [befM_eq]; simp [hj, hi])
  ·-- the bit is in row k
   have hik : i = k := by
    rcases Nat.lt_trichotomy i k with hlt | heq | hgt
    ·have := Nat.mul_le_mul_left w (Nat.succ_le_of_lt hlt)
     rw [Nat.mul_succ] at this
     omega
    ·exact heq
    ·have := Nat.mul_le_mul_left w (Nat.succ_le_of_lt hgt)
     rw [Nat.mul_succ] at this
     omega
   subst hik
   have : w * i + j - w * i = j := by omega
   rw [this] at h2
   exact cloOf_ok h hk _ (fun x hx => by simpa using hx) j h2
def edgesBack (i : Nat) : List Edge → Bool
 | [] => true
 | e :: es => (bif Region.binds .any e then Nat.blt e.on i else true) && edgesBack i es
def backs : List Oper → Nat → Bool
 | [], _ => true
 | o :: l, i => edgesBack i o.after.toList && backs l (i + 1)
theorem edgesBack_ok {i : Nat} : ∀ {es : List Edge}, edgesBack i es = true → ∀ e ∈ es, Region.binds .any e = true → e.on < i
 | e :: es, h, x, hx, hb => by
  simp only [edgesBack,Bool.and_eq_true] at h
  rcases List.mem_cons.1 hx with rfl | hx
  ·rw [hb] at h; exact lt_of_blt h.1
  ·exact edgesBack_ok h.2 x hx hb
theorem backs_ok {l : List Oper} : ∀ {k : Nat}, backs l k = true → ∀ (i : Nat) (o : Oper) (e : Edge), l[i]? = some o → e ∈ o.after → Region.binds .any e = true → e.on < k + i := by
 induction l with
 | nil => intro k h i o e ho; simp at ho
 | cons o l ih =>
  intro k h i o' e ho he hb
  simp only [backs,Bool.and_eq_true] at h
  cases i with
  | zero =>
   have : o = o' := by simpa using ho
   subst this
   exact edgesBack_ok h.1 e (by simpa using he) hb
  | succ i =>
   have := ih h.2 i o' e (by simpa using ho) he hb
   omega
/-- Who writes which temporary. -/
def writers : List Oper → Nat → List (Nat × Nat)
 | [], _ => []
 | o :: l, i => match o.dst with
  | some d => (d, i) :: writers l (i + 1)
  | none => writers l (i + 1)
def findW (d : Nat) : List (Nat × Nat) → Option Nat
 | [] => none
 | p :: r => bif Nat.beq p.1 d then some p.2 else findW d r
def distinctW : List (Nat × Nat) → Bool
 | [] => true
 | p :: r => (findW p.1 r).isNone && distinctW r
theorem mem_writers {l : List Oper} : ∀ {k i : Nat} {o : Oper} {d : Nat}, l[i]? = some o → o.dst = some d → (d, k + i) ∈ writers l k := by
 induction l with
 | nil => intro k i o d ho; simp at ho
 | cons o l ih =>
  intro k i o' d ho hd
  cases i with
  | zero =>
   have : o = o' := by simpa using ho
   subst this
   simp [writers, hd]
  | succ i =>
   have := ih (k := k + 1) (i := i) (by simpa using ho) hd
   have e : k + 1 + i = k + (i + 1) := by omega
   rw [e] at this
   simp only [writers]
   split
   ·exact List.mem_cons_of_mem _ this
   ·exact this
theorem findW_none {d : Nat} : ∀ {W : List (Nat × Nat)}, findW d W = none → ∀ j, (d, j) ∉ W
 | [], _, j, h => by simp at h
 | p :: r, h, j, hm => by
  simp only [findW] at h
  cases hb : Nat.beq p.1 d
  ·rw [hb] at h
   rcases List.mem_cons.1 hm with e | hm
   ·subst e; rw [Nat.beq_refl] at hb; cases hb
   ·exact findW_none h j hm
  ·rw [hb] at h; cases h
theorem findW_some {d j : Nat} : ∀ {W : List (Nat × Nat)}, distinctW W = true → (d, j) ∈ W → findW d W = some j
 | p :: r, h, hm => by
  simp only [distinctW,Bool.and_eq_true] at h
  simp only [findW]
  rcases List.mem_cons.1 hm with e | hm
  ·subst e; simp [Nat.beq_refl]
  ·cases hb : Nat.beq p.1 d
   ·exact findW_some h.2 hm
   ·have e := Nat.eq_of_beq_eq_true hb
    have := findW_none (Option.isNone_iff_eq_none.1 h.1) j
    rw [e] at this
    exact absurd hm this
def chkLooks (bef : Nat → Nat → Bool) (W : List (Nat × Nat)) (i : Nat) : List Tmp → Bool
 | [] => true
 | d :: ds => (match findW d W with
  | none => true
  | some j => Nat.beq j i || bef i j || bef j i) && chkLooks bef W i ds
def chkAll (ops : Array Oper) (bef : Nat → Nat → Bool) (W : List (Nat × Nat)) : List Oper → Nat → Bool
 | [], _ => true
 | o :: l, i => chkLooks bef W i (looks ops o) && chkAll ops bef W l (i + 1)
theorem chkLooks_ok {ops : Array Oper} {bef : Nat → Nat → Bool} (hm : MOk ops bef) {W : List (Nat × Nat)} (hW : distinctW W = true) {i : Nat} : ∀ {ds : List Tmp}, chkLooks bef W i ds = true → ∀ d ∈ ds, ∀ j, (d, j) ∈ W → i ≠ j → Clo ops i j ∨ Clo ops j i
 | x :: ds, h, d, hd, j, hj, hne => by
  simp only [chkLooks,Bool.and_eq_true] at h
  rcases List.mem_cons.1 hd with rfl | hd
  ·rw [findW_some hW hj] at h
   simp only [Bool.or_eq_true] at h
   rcases h.1 with (h1 | h1) | h1
   ·exact absurd (Nat.eq_of_beq_eq_true h1).symm hne
   ·exact .inl (hm _ _ h1)
   ·exact .inr (hm _ _ h1)
  ·exact chkLooks_ok hm hW h.2 d hd j hj hne
theorem chkAll_ok {ops : Array Oper} {bef : Nat → Nat → Bool} (hm : MOk ops bef) {W : List (Nat × Nat)} (hW : distinctW W = true) {l : List Oper} : ∀ {k : Nat}, chkAll ops bef W l k = true → ∀ (i : Nat) (o : Oper), l[i]? = some o → ∀ d ∈ looks ops o, ∀ j, (d, j) ∈ W → k + i ≠ j → Clo ops (k + i) j ∨ Clo ops j (k + i) := by
 induction l with
 | nil => intro k h i o ho; simp at ho
 | cons o l ih =>
  intro k h i o' ho d hd j hj hne
  simp only [chkAll,Bool.and_eq_true] at h
  cases i with
  | zero =>
   have : o = o' := by simpa using ho
   subst this
   exact chkLooks_ok hm hW h.1 d hd j hj hne
  | succ i =>
   have e : k + (i + 1) = k + 1 + i := by omega
   rw [e] at hne ⊢
   exact ih h.2 i o' (by simpa using ho) d hd j hj hne
/-- All that can be seen without running it. -/
def rstat (ops : Array Oper) (bef : Nat → Nat → Bool) : Bool := backs ops.toList 0 && distinctW (writers ops.toList 0) && chkAll ops bef (writers ops.toList 0) ops.toList 0
structure RStat (ops : Array Oper) : Prop where
 edge : ∀ (i : Nat) (o : Oper) (e : Edge), ops[i]? = some o → e ∈ o.after → Region.binds .any e = true → e.on < i
 one : ∀ (i j : Nat) (oi oj : Oper) (d : Tmp), ops[i]? = some oi → ops[j]? = some oj → oi.dst = some d → oj.dst = some d → i = j
 sees : ∀ (i j : Nat) (oi oj : Oper) (d : Tmp), ops[i]? = some oi → ops[j]? = some oj → d ∈ looks ops oi → oj.dst = some d → i ≠ j → Clo ops i j ∨ Clo ops j i
theorem rstat_ok {ops : Array Oper} {bef : Nat → Nat → Bool} (hm : MOk ops bef) (h : rstat ops bef = true) : RStat ops := by
 unfold rstat at h
 simp only [Bool.and_eq_true] at h
 obtain ⟨⟨h1, h2⟩, h3⟩ := h
 have hw : ∀ {i : Nat} {o : Oper} {d : Nat}, ops[i]? = some o → o.dst = some d → (d, i) ∈ writers ops.toList 0 := fun {i o d} ho hd => by
  have := mem_writers (k := 0) (l := ops.toList) (i := i) (by simpa using ho) hd
  rwa [Nat.zero_add] at this
 refine ⟨fun i o e ho he hb => ?_, fun i j oi oj d hi hj hdi hdj => ?_, fun i j oi oj d hi hj hd hdj hne => ?_⟩
 ·have := backs_ok h1 i o e (by simpa using ho) he hb
  omega
 ·have e1 := findW_some h2 (hw hi hdi)
  have e2 := findW_some h2 (hw hj hdj)
  rw [e1] at e2; cases e2; rfl
 ·have := chkAll_ok hm h2 h3 i oi (by simpa using hi) d hd j (hw hj hdj) (by omega)
  rwa [Nat.zero_add] at this
end Go.Am
