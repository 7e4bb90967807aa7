/- Code: the little machine, and that it is the model. -/
import Derived.Test.YtnibabkgeolenaaT6
set_option linter.unusedSimpArgs false
set_option linter.unusedVariables false
namespace Go.Am
variable {T : Tab} {P : Program}

def aendLoop (ex : Exec) (r : Option Nat) (L : Nat) (n : Nat) (e : VT) (H₂ : AHeap) (ds : List Nat) (m : Nat) : Option (Exit × ES × Nat) :=
  match H₂.get L with
  | .loop .busy .. => none
  | .loop _ pend t' ps' as' bd' d' =>
    match pend with
    | none => some (.normal, ⟨n, e, H₂.put L (.loop .exhausted pend t' ps' as' bd' d'), ds⟩, min m L)
    | some c => match ex r c ⟨n, e, H₂.put L (.loop .exhausted pend t' ps' as' bd' d'), ds⟩ with
      | some (e, s', m₂) => some (e, s', min m (min L m₂))
      | none => none
  | _ => none

def isNormal : Exit → Bool
  | .normal => true
  | _ => false

def aseq (q : Option (Exit × ES × Nat)) (k : ES → Option (Exit × ES × Nat)) : Option (Exit × ES × Nat) :=
  match q with
  | some (e, s₁, m₁) => bif isNormal e then (match k s₁ with
    | some (e, s₂, m₂) => fNat (min m₁ m₂) fun m => some (e, s₂, m)
    | none => none) else some (e, s₁, m₁)
  | none => none

/-- A scope lets every exit through but a goto. -/
def scopeX (q : Option (Exit × ES × Nat)) : Option (Exit × ES × Nat) := match q with
  | some (e, s, m) => match e with
    | .goto _ => none
    | e => some (e, s, m)
  | none => none
theorem scopeX_some {q : Option (Exit × ES × Nat)} {e : Exit} {s : ES} {m : Nat} (h : scopeX q = some (e, s, m)) : q = some (e, s, m) ∧ ∀ l, e ≠ .goto l := by
  cases q with
  | none => cases h
  | some p =>
    obtain ⟨x, s', m'⟩ := p
    cases x <;> first | (cases h; exact ⟨rfl, fun l h => by cases h⟩) | cases h
def genv (n : Nat) (e : VT) (i : Nat) : Value := bif Nat.blt i n then e.get i else undef
noncomputable def adrawX (T : Tab) (P : Program) (ex : Exec) (ops : Array Oper) (n : Nat) (e : VT) (H : AHeap) : Option (VT × AHeap × Nat) := match T.plan ops.toList (genv n e) H with
  | none => orD (adraw T P ex ops n e H) (adrawB T P ex ops n e H)
  | some pl => adrawR T P ex ops n e H pl
theorem adrawX_ok (hT : T.Fits P) {ex : Exec} (hex : ExOk P ex) {r : Option Nat} {id : Nat} {ops : Array Oper} {n : Nat} {ds : List Nat} {e e' : VT} {H H' : AHeap} {m : Nat} (h : adrawX T P ex ops n e H = some (e', H', m)) :
    SCode P r (.region id ops true) ⟨lst n e, H, ds⟩ .normal ⟨lst n e', H', ds⟩ m := by
  unfold adrawX at h
  split at h
  · unfold orD at h
    split at h
    · rename_i hd
      cases h
      exact adraw_ok hT hex hd
    · obtain ⟨pl, hp⟩ := adrawB_ok h
      exact adrawR_ok hT hex hp
  · exact adrawR_ok hT hex h
def astepG (dw : Array Oper → Nat → VT → AHeap → Option (VT × AHeap × Nat)) (T : Tab) (P : Program) (ex : Exec) : Exec := fun r c s => match c with
  | .skip => some (.normal, s, s.H.size)
  | .label _ => some (.normal, s, s.H.size)
  | .exit id => some (.exit id, s, s.H.size)
  | .ret => some (.ret, s, s.H.size)
  | .seq x y => aseq (ex r x s) (ex r y)
  | .cond c x y => match aenv s.n s.e c with
    | some (.bool b) => ex r (bif b then x else y) s
    | _ => none
  | .block id b => match ex r b s with
    | some (e, s', m) => some (blockExit id e, s', m)
    | none => none
  | .loop b => aseq (ex r b s) (ex r (.loop b))
  | .region _ ops dr => match s with
    | ⟨n, e, H, ds⟩ => match (bif dr then dw ops n e H else aops T P ex ops n ds ops.toList e H) with
      | some (e', H', m) => some (.normal, ⟨n, e', H', ds⟩, m)
      | none => none
  | .rangeFunc g ps assign body => match s with
    | ⟨n, e, H, ds⟩ => match aenv n e g with
      | some (.func (.func f) first captured) => match r with
        | none => match acall T ex f (first.toList ++ [yieldV (H.size + 1)] ++ captured.toList) ((H.alloc .defer).alloc (.loop .ready none (lst n e) ps assign body H.size)) with
          | some (_, _, H₂, m₁) => aendLoop ex r (H.size + 1) n e H₂ (H.size :: ds) (min H.size m₁)
          | none => none
        | some l => match H.get l with
          | .loop _ _ _ _ _ _ d₀ => match acall T ex f (first.toList ++ [yieldV H.size] ++ captured.toList) (H.alloc (.loop .ready none (lst n e) ps assign body d₀)) with
            | some (_, _, H₂, m₁) => aendLoop ex r H.size n e H₂ ds (min H.size m₁)
            | none => none
          | _ => none
      | _ => none
  | .scope b => scopeX (ex r b s)
  | .goto _ | .refuse _ => none

noncomputable abbrev astep (T : Tab) (P : Program) (ex : Exec) : Exec := astepG (adrawX T P ex) T P ex
noncomputable def aexec (T : Tab) (P : Program) (n : Nat) : Exec := Nat.rec (motive := fun _ => Exec) (fun _ _ _ => none) (fun _ ih => astep T P ih) n

def LoopOk (P : Program) (ex : Exec) : Prop := ∀ r b s e s' m, ex r (.loop b) s = some (e, s', m) → SLoop P r b s.st e s'.st m

theorem aendLoop_ok {ex : Exec} (hex : ExOk P ex) {r : Option Nat} {L n : Nat} {e : VT} {H₂ : AHeap} {ds : List Nat} {m : Nat} {x : Exit} {s' : ES} {m' : Nat} (h : aendLoop ex r L n e H₂ ds m = some (x, s', m')) :
    ∃ st pend t' ps' as' bd' d' m₂, H₂.get L = .loop st pend t' ps' as' bd' d' ∧ st ≠ .busy ∧ SPend P r pend ⟨lst n e, H₂.put L (.loop .exhausted pend t' ps' as' bd' d'), ds⟩ x s'.st m₂ ∧ m' ≤ m ∧ m' ≤ min L m₂ := by
  unfold aendLoop at h
  split at h
  · cases h
  · rename_i st pend t' ps' as' bd' d' hne hg
    have hst : st ≠ .busy := fun e => hne e
    split at h
    · cases h
      refine ⟨st, none, t', ps', as', bd', d', H₂.size, hg, hst, ⟨rfl, rfl, by simp⟩, by omega, ?_⟩
      have : L < H₂.size := by
        by_cases hl : L < H₂.size
        · exact hl
        · rw [AHeap.get_ge hl] at hg; cases hg
      omega
    · rename_i c
      split at h
      · rename_i e₂ s₂ m₂ h2
        cases h
        exact ⟨st, some c, t', ps', as', bd', d', m₂, hg, hst, hex _ _ _ _ _ _ h2, by omega, by omega⟩
      · cases h
  · cases h

theorem isNormal_true {e : Exit} (h : isNormal e = true) : e = .normal := by cases e <;> simp [isNormal] at h; rfl
theorem isNormal_false {e : Exit} (h : isNormal e = false) : e ≠ .normal := by rintro rfl; cases h

theorem astep_ok (hT : T.Fits P) {ex : Exec} (hex : ExOk P ex) (hlo : LoopOk P ex) : ExOk P (astep T P ex) ∧ LoopOk P (astep T P ex) := by
  have loops : LoopOk P (astep T P ex) := by
    intro r b s e s' m h
    simp only [astep,astepG,aseq] at h
    split at h
    · rename_i e₁ s₁ m₁ h1
      cases hn : isNormal e₁
      · rw [hn] at h
        cases h
        exact SLoop.out (hex _ _ _ _ _ _ h1) (isNormal_false hn)
      · rw [hn] at h
        simp only [cond_true] at h
        have := isNormal_true hn
        subst this
        split at h
        · rename_i e₂ s₂ m₂ h2
          simp only [fNat_eq] at h
          cases h
          exact SLoop.step (hex _ _ _ _ _ _ h1) (hlo _ _ _ _ _ _ h2)
        · cases h
    · cases h
  refine ⟨?_, loops⟩
  intro r c s e s' m h
  cases c with
  | skip => simp only [astep,astepG] at h; cases h; exact SCode.skip
  | label l => simp only [astep,astepG] at h; cases h; exact SCode.label
  | exit id => simp only [astep,astepG] at h; cases h; exact SCode.exit
  | ret => simp only [astep,astepG] at h; cases h; exact SCode.ret
  | seq x y =>
    simp only [astep,astepG,aseq] at h
    split at h
    · rename_i e₁ s₁ m₁ h1
      cases hn : isNormal e₁
      · rw [hn] at h
        cases h
        exact SCode.seq_out (hex _ _ _ _ _ _ h1) (isNormal_false hn)
      · rw [hn] at h
        simp only [cond_true] at h
        have := isNormal_true hn
        subst this
        split at h
        · rename_i e₂ s₂ m₂ h2
          simp only [fNat_eq] at h
          cases h
          exact SCode.seq (hex _ _ _ _ _ _ h1) (hex _ _ _ _ _ _ h2)
        · cases h
    · cases h
  | cond c x y =>
    simp only [astep,astepG] at h
    split at h
    · rename_i b hb
      rw [aenv_eq] at hb
      exact SCode.cond hb (hex _ _ _ _ _ _ h)
    · cases h
  | block id b =>
    simp only [astep,astepG] at h
    split at h
    · rename_i e₁ s₁ m₁ h1
      cases h
      exact SCode.block (hex _ _ _ _ _ _ h1)
    · cases h
  | loop b => exact SCode.loop (loops _ _ _ _ _ _ h)
  | region id ops dr =>
    obtain ⟨n, ev, H, ds⟩ := s
    simp only [astep,astepG] at h
    split at h
    · rename_i e' H' m' h1
      cases h
      cases dr
      · simp only [cond_false] at h1
        have := aops_ok hT hex (r := r) ops.toList 0 ev H e' H' m (by simp) h1
        have e1 : List.range' 0 ops.toList.length = List.range ops.size := by rw [List.range_eq_range']; simp
        rw [e1] at this
        exact SCode.region this
      · simp only [cond_true] at h1
        exact adrawX_ok hT hex h1
    · cases h
  | rangeFunc g ps assign body =>
    obtain ⟨n, ev, H, ds⟩ := s
    simp only [astep,astepG] at h
    split at h
    · rename_i f first captured hg
      rw [aenv_eq] at hg
      split at h
      · split at h
        · rename_i b v H₂ m₁ hc
          obtain ⟨⟨fn, c, hf⟩, hcall, _⟩ := acall_ok hT hex hc
          obtain ⟨st, pend, t', ps', as', bd', d', m₂, hg₂, hst, hp, k1, k2⟩ := aendLoop_ok hex h
          exact (SCode.rangeFunc_outer (s := ⟨lst n ev, H, ds⟩) hg hf hcall hg₂ hst hp).weaken (by simp only; omega)
        · cases h
      · rename_i l
        split at h
        · rename_i st₀ pend₀ t₀ ps₀ as₀ bd₀ d₀ hg₀
          split at h
          · rename_i b v H₂ m₁ hc
            obtain ⟨⟨fn, c, hf⟩, hcall, _⟩ := acall_ok hT hex hc
            obtain ⟨st, pend, t', ps', as', bd', d', m₂, hg₂, hst, hp, k1, k2⟩ := aendLoop_ok hex h
            exact (SCode.rangeFunc_inner (s := ⟨lst n ev, H, ds⟩) hg₀ hg hf hcall hg₂ hst hp).weaken (by simp only; omega)
          · cases h
        · cases h
    · cases h
  | scope b =>
    simp only [astep,astepG] at h
    obtain ⟨h1, h2⟩ := scopeX_some h
    exact SCode.scope (hex _ _ _ _ _ _ h1) h2
  | goto _ => simp only [astep,astepG] at h; cases h
  | refuse _ => simp only [astep,astepG] at h; cases h

theorem aexec_ok (hT : T.Fits P) : ∀ n, ExOk P (aexec T P n) ∧ LoopOk P (aexec T P n)
  | 0 => ⟨fun r c s e s' m h => (by cases h), fun r b s e s' m h => (by cases h)⟩
  | n + 1 => astep_ok hT (aexec_ok hT n).1 (aexec_ok hT n).2

/-- A call, from any heap. -/
theorem call_ok (hT : T.Fits P) {n : Nat} {f : FuncId} {args : List Value} {H : AHeap} {b : Bool} {v : Value} {H' : AHeap} {m : Nat} (h : acall T (aexec T P n) f args H = some (b, v, H', m)) : SCall P f args H v H' m :=
  (acall_ok hT (aexec_ok hT n).1 h).2.1

def empty : AHeap := ⟨0, .nil⟩
/-! ### Tables -/
inductive Tr (α : Type) where
  | nil
  | node (k : Nat) (v : α) (l r : Tr α)
def Tr.find {α : Type} : Tr α → Nat → Nat → Option α
  | .nil, _, _ => none
  | .node k v l r, n, N => bif Nat.beq n 0 then (bif Nat.beq N k then some v else none) else bif Nat.beq (n % 2) 1 then l.find (n / 2) N else r.find (n / 2 - 1) N
def Tr.get {α : Type} (t : Tr α) (n : Nat) : Option α := t.find n n
def Tr.all {α : Type} (p : Nat → α → Prop) : Tr α → Prop
  | .nil => True
  | .node k v l r => p k v ∧ l.all p ∧ r.all p
theorem Tr.find_all {α : Type} {p : Nat → α → Prop} : ∀ (t : Tr α), t.all p → ∀ n N v, t.find n N = some v → p N v
  | .nil, _, n, N, v, h => by simp [Tr.find] at h
  | .node k u l r, ha, n, N, v, h => by
    obtain ⟨h1, h2, h3⟩ := ha
    simp only [Tr.find] at h
    cases h0 : Nat.beq n 0
    · rw [h0, cond_false] at h
      cases ho : Nat.beq (n % 2) 1
      · rw [ho, cond_false] at h; exact Tr.find_all r h3 _ _ _ h
      · rw [ho, cond_true] at h; exact Tr.find_all l h2 _ _ _ h
    · rw [h0, cond_true] at h
      cases hk : Nat.beq N k
      · rw [hk] at h; cases h
      · rw [hk, cond_true] at h
        cases h
        rw [Nat.eq_of_beq_eq_true hk]; exact h1
theorem Tr.get_all {α : Type} {p : Nat → α → Prop} (t : Tr α) (h : t.all p) (n : Nat) (v : α) (hg : t.get n = some v) : p n v := Tr.find_all t h n n v hg
def undOf (inf : Nat → Option TypeInfo) (t : TypeId) : Option TypeDesc :=
  match inf t with
  | some i => match i.desc with
    | .named _ u => match inf u with
      | some j => some j.desc
      | none => none
    | d => some d
  | none => none
def tabOf (types : Tr TypeInfo) (fns : Tr Func) : Tab := ⟨undOf types.get, types.get, fns.get, fun _ _ _ => none, fun _ _ _ => none⟩
theorem tabOf_fits {P : Program} {types : Tr TypeInfo} {fns : Tr Func} (h1 : types.all fun k i => P.info? k = some i)
    (h2 : fns.all fun k g => P.funcs[k]? = some g ∧ (g.name == "runtime.NumGoroutine") = false) (h3 : P.follows .mixedOrders = true) : (tabOf types fns).Fits P where
  memo _ _ _ _ _ _ _ h := by cases h
  inf t i h := Tr.get_all types h1 t i h
  fn f g h := Tr.get_all fns h2 f g h
  mixed := h3
  und t d h := by
    simp only [tabOf,undOf] at h
    split at h
    · rename_i i hi
      have e1 := Tr.get_all types h1 t i hi
      split at h
      · rename_i nm u hd
        split at h
        · rename_i j hj
          cases h
          have e2 := Tr.get_all types h1 u j hj
          obtain ⟨desc, _⟩ := i
          simp only at hd
          subst hd
          simp [Program.underlying, e1, e2]
        · cases h
      · rename_i d' hne
        cases h
        obtain ⟨desc, _⟩ := i
        simp only at hne ⊢
        unfold Program.underlying
        rw [e1]
        cases desc <;> first | rfl | (exact absurd rfl (hne _ _))
    · cases h
end Go.Am
/- Calls in any world. -/
namespace Go.Am
variable {T : Tab} {P : Program}

def nowhere : Place := ⟨fun _ => none, fun _ => 0⟩
theorem rel_nowhere (H : AHeap) (w : World) : Rel nowhere H w := ⟨fun k b s h => (by cases h), fun k b s h => (by cases h), fun k k' b s s' h => (by cases h)⟩

/-- A call with values without addresses that gives such a value: in any world, and nothing that was there is changed. -/
theorem SCall.anywhere {f : FuncId} {args : List Value} {H H' : AHeap} {v : Value} {m : Nat} (h : SCall P f args H v H' m) (ha : allGrV args = true) (hv : gr v = true) (F : Fence) (n : Nat) (hF : Free F) (w : World) :
    CallsIn F n P f args.toArray w fun e w' => e = .returned v ∧ WFrame w w' := by
  have hargs : ∀ x ∈ args, okv nowhere x := fun x hx => (gr_ok nowhere (allGrV_mem ha x hx)).1
  have := h F n nowhere w hF (rel_nowhere H w) hargs
  rw [allGrV_ren ha] at this
  refine this.mono ?_
  rintro e w' ⟨σ', rfl, _, _, x⟩
  exact ⟨by rw [(gr_ok σ' hv).2], x.wsize, fun b hb => x.frame b hb fun k s _ hp => (by cases hp), x.os, x.tape, x.output⟩

theorem SCall.calls {f : FuncId} {args : List Value} {H H' : AHeap} {v : Value} {m : Nat} (h : SCall P f args H v H' m) (ha : allGrV args = true) (hv : gr v = true) (w : World) :
    Calls P f args.toArray w fun e w' => e = .returned v ∧ WFrame w w' :=
  callsIn_wide (n := 0).1 (h.anywhere ha hv Fence.wide 0 free_wide w)

/-- A block that is not known any more: a heap that knows less is right wherever one is that knows more. -/
def Less (H' H : AHeap) : Prop := H'.size = H.size ∧ ∀ k, H'.get k = H.get k ∨ H'.get k = .dead
theorem Rel.less {σ : Place} {H H' : AHeap} {w : World} (r : Rel σ H w) (h : Less H' H) : Rel σ H' w where
  lt k b s hp := by rw [h.1]; exact r.lt k b s hp
  holds k b s hp := by
    rcases h.2 k with e | e
    · rw [e]; exact r.holds k b s hp
    · rw [e]; trivial
  excl k k' b s s' hk hk' hne al hal := by
    rcases h.2 k with e | e
    · rw [e] at hal
      rcases h.2 k' with e' | e'
      · rw [e']; exact r.excl k k' b s s' hk hk' hne al hal
      · exact .inl e'
    · rw [e] at hal; cases hal
theorem Ext.less {σ σ' : Place} {H H₁ H₂ : AHeap} {w w' : World} {m : Nat} (x : Ext σ H w σ' H₁ w' m) (h : Less H₂ H₁) (hk : ∀ k, k < m → k < H.size → H₂.get k = H₁.get k) : Ext σ H w σ' H₂ w' m where
  agree := x.agree
  hsize := by rw [h.1]; exact x.hsize
  wsize := x.wsize
  os := x.os
  tape := x.tape
  output := x.output
  keep k hm hs := (hk k hm hs).trans (x.keep k hm hs)
  frame := x.frame
  fresh := x.fresh
theorem SCall.less {f : FuncId} {args : List Value} {H H₁ H₂ : AHeap} {v : Value} {m : Nat} (h : SCall P f args H v H₁ m) (hl : Less H₂ H₁) (hk : ∀ k, k < m → k < H.size → H₂.get k = H₁.get k) : SCall P f args H v H₂ m := by
  intro F n σ w hF hR ha
  refine (h F n σ w hF hR ha).mono ?_
  rintro e w' ⟨σ', rfl, k1, k2, k3⟩
  exact ⟨σ', rfl, k1, k2.less hl, k3.less hl hk⟩
end Go.Am
/- Fast forms: the same functions by recursors, for the kernel. -/
namespace Go.Am
variable {α : Type}

@[simp] theorem boolRec_eq (f t : α) (b : Bool) : Bool.rec (motive := fun _ => α) f t b = bif b then t else f := by cases b <;> rfl

noncomputable def VT.getF (t : VT) : Nat → Value := VT.rec (motive := fun _ => Nat → Value) (fun _ => undef)
  (fun v _ _ ihl ihr n => Bool.rec (motive := fun _ => Value) (Bool.rec (motive := fun _ => Value) (ihr (Nat.sub (Nat.div n 2) 1)) (ihl (Nat.div n 2)) (Nat.beq (Nat.mod n 2) 1)) v (Nat.beq n 0)) t
theorem VT.getF_eq : ∀ (t : VT) (n : Nat), t.getF n = t.get n
  | .nil, _ => rfl
  | .node v l r, n => by
    have h : (VT.node v l r).getF n = Bool.rec (motive := fun _ => Value) (Bool.rec (motive := fun _ => Value) (r.getF (n / 2 - 1)) (l.getF (n / 2)) (Nat.beq (n % 2) 1)) v (Nat.beq n 0) := rfl
    rw [h, boolRec_eq, boolRec_eq, VT.getF_eq l, VT.getF_eq r]; rfl

/-- Where the tree ends, the slow form goes on. -/
noncomputable def VT.setF (t : VT) : Nat → Value → (VT → α) → α := VT.rec (motive := fun _ => Nat → Value → (VT → α) → α) (fun n b k => VT.setK (Nat.succ n) .nil n b k)
  (fun v l r ihl ihr n b k => Bool.rec (motive := fun _ => α) (Bool.rec (motive := fun _ => α) (ihr (Nat.sub (Nat.div n 2) 1) b fun r => k (.node v l r)) (ihl (Nat.div n 2) b fun l => k (.node v l r)) (Nat.beq (Nat.mod n 2) 1)) (k (.node b l r)) (Nat.beq n 0)) t
theorem VT.set_more (b : Value) : ∀ (d d' : Nat) (t : VT) (n : Nat), n < d → n < d' → VT.set d t n b = VT.set d' t n b
  | 0, _, _, _, h, _ => by omega
  | _, 0, _, _, _, h => by omega
  | d + 1, d' + 1, t, n, h, h' => by
    by_cases h0 : n = 0
    · subst h0; cases t <;> simp [VT.set]
    · have e0 := beq_ne h0
      have i1 := fun t => VT.set_more b d d' t (n / 2) (by omega) (by omega)
      have i2 := fun t => VT.set_more b d d' t (n / 2 - 1) (by omega) (by omega)
      cases t <;> simp [VT.set, e0, i1, i2]
theorem VT.setF_eq (b : Value) : ∀ (t : VT) (n : Nat) (k : VT → α), t.setF n b k = k (VT.set (n + 1) t n b)
  | .nil, n, k => VT.setK_eq b (n + 1) .nil n k
  | .node v l r, n, k => by
    have h : (VT.node v l r).setF n b k = Bool.rec (motive := fun _ => α) (Bool.rec (motive := fun _ => α) (r.setF (n / 2 - 1) b fun r => k (.node v l r)) (l.setF (n / 2) b fun l => k (.node v l r)) (Nat.beq (n % 2) 1)) (k (.node b l r)) (Nat.beq n 0) := rfl
    rw [h, boolRec_eq, boolRec_eq, VT.setF_eq b l, VT.setF_eq b r]
    by_cases h0 : n = 0
    · subst h0; rfl
    · have e0 := beq_ne h0
      by_cases h1 : n % 2 = 1
      · have e1 : Nat.beq (n % 2) 1 = true := by rw [h1]; rfl
        simp only [e0,e1,cond_true,cond_false,VT.set]
        rw [VT.set_more b (n / 2 + 1) n l (n / 2) (by omega) (by omega)]
      · have e1 := beq_ne h1
        simp only [e0,e1,cond_true,cond_false,VT.set]
        rw [VT.set_more b (n / 2 - 1 + 1) n r (n / 2 - 1) (by omega) (by omega)]

noncomputable def natF (n : Nat) (k : Nat → α) : α := Nat.rec (motive := fun _ => α) (k 0) (fun m _ => k (Nat.succ m)) n
@[simp] theorem natF_eq (n : Nat) (k : Nat → α) : natF n k = k n := by cases n <;> rfl
noncomputable def intF (n : Int) (k : Int → α) : α := Int.rec (motive := fun _ => α) (fun m => natF m fun m => k (.ofNat m)) (fun m => natF m fun m => k (.negSucc m)) n
@[simp] theorem intF_eq (n : Int) (k : Int → α) : intF n k = k n := by cases n <;> simp [intF]
/-- A value written out; what is not a number, a truth or an address is left to the slow form. -/
noncomputable def valF (v : Value) (k : Value → α) : α := Value.casesOn (motive_1 := fun _ => α) v
  (fun b => Bool.rec (motive := fun _ => α) (k (.bool false)) (k (.bool true)) b) (fun q n => intF n fun n => k (.int q n))
  (fun a b => k (.float a b)) (fun a b c => k (.complex a b c)) (fun s => k (.string s)) (fun a => fV (.pointer a) k) (fun a l c => fV (.slice a l c) k) (fun r => fV (.map r) k) (fun r => k (.chan r))
  (fun f a b => fV (.func f a b) k) (k .nilFunc) (fun t v => fV (.iface t v) k) (k .nilIface) (fun c => fV (.agg c) k) (fun c => fV (.tuple c) k)
@[simp] theorem valF_eq (v : Value) (k : Value → α) : valF v k = k v := by
  cases v with
  | bool b => cases b <;> rfl
  | int q n => exact intF_eq n (fun n => k (.int q n))
  | pointer a => exact fV_eq _ k
  | slice a l c => exact fV_eq _ k
  | map r => exact fV_eq _ k
  | func f a b => exact fV_eq _ k
  | iface t v => exact fV_eq _ k
  | agg c => exact fV_eq _ k
  | tuple c => exact fV_eq _ k
  | _ => rfl
/-! ### The statics of a region -/
noncomputable def memNatF (d : Nat) (l : List Nat) : Bool := List.rec (motive := fun _ => Bool) false (fun x _ ih => Bool.rec (motive := fun _ => Bool) ih true (Nat.beq d x)) l
theorem memNatF_eq (d : Nat) : ∀ l, memNatF d l = memNat d l
  | [] => rfl
  | x :: l => by
    have h : memNatF d (x :: l) = Bool.rec (motive := fun _ => Bool) (memNatF d l) true (Nat.beq d x) := rfl
    rw [h, boolRec_eq, memNatF_eq d l, memNat]; cases Nat.beq d x <;> rfl
noncomputable def tmpsOfF (l : List Operand) : List Tmp := List.rec (motive := fun _ => List Tmp) [] (fun x _ ih => Operand.casesOn (motive := fun _ => List Tmp) x (fun d => d :: ih) (fun _ => ih) (fun _ => ih) (fun _ => ih)) l
theorem tmpsOfF_eq : ∀ l, tmpsOfF l = tmpsOf l
  | [] => rfl
  | x :: l => by
    have h : tmpsOfF (x :: l) = Operand.casesOn (motive := fun _ => List Tmp) x (fun d => d :: tmpsOfF l) (fun _ => tmpsOfF l) (fun _ => tmpsOfF l) (fun _ => tmpsOfF l) := rfl
    rw [h, tmpsOfF_eq l]; cases x <;> rfl
noncomputable def bindsF (e : Edge) : Bool := Ground.casesOn (motive := fun _ => Bool) e.ground true true true true (fun _ => false) (fun _ => false)
theorem bindsF_eq (e : Edge) : bindsF e = Region.binds .any e := by obtain ⟨n, g⟩ := e; cases g <;> rfl
noncomputable def findWF (d : Nat) (W : List (Nat × Nat)) : Option Nat := List.rec (motive := fun _ => Option Nat) none (fun p _ ih => Bool.rec (motive := fun _ => Option Nat) ih (some p.2) (Nat.beq p.1 d)) W
theorem findWF_eq (d : Nat) : ∀ W, findWF d W = findW d W
  | [] => rfl
  | p :: r => by
    have h : findWF d (p :: r) = Bool.rec (motive := fun _ => Option Nat) (findWF d r) (some p.2) (Nat.beq p.1 d) := rfl
    rw [h, boolRec_eq, findWF_eq d r]; rfl

noncomputable def befF (M w i j : Nat) : Bool := Bool.rec (motive := fun _ => Bool) false (Nat.beq (Nat.land (Nat.shiftRight M (Nat.add (Nat.mul w i) j)) 1) 1) (Nat.ble (Nat.succ j) w)
theorem befF_eq (M w : Nat) : befF M w = befM M w := by
  funext i j
  unfold befF befM tb
  rw [boolRec_eq]
  show (bif Nat.blt j w then _ else false) = _
  cases Nat.blt j w <;> rfl
noncomputable def cloF (M w : Nat) (l : List Edge) : Nat := List.rec (motive := fun _ => Nat) 0 (fun e _ ih => Bool.rec (motive := fun _ => Nat) ih (Nat.lor (Nat.lor (Nat.pow 2 e.on) (Nat.land (Nat.shiftRight M (Nat.mul w e.on)) (Nat.sub (Nat.pow 2 w) 1))) ih) (bindsF e)) l
theorem cloF_eq (M w : Nat) : ∀ l, cloF M w l = cloOf M w l
  | [] => rfl
  | e :: l => by
    have h : cloF M w (e :: l) = Bool.rec (motive := fun _ => Nat) (cloF M w l) (Nat.lor (Nat.lor (Nat.pow 2 e.on) (rowOf M w e.on)) (cloF M w l)) (bindsF e) := rfl
    rw [h, boolRec_eq, bindsF_eq, cloF_eq M w l]; rfl
noncomputable def matF (w : Nat) (l : List Oper) : Nat → Nat → Nat := List.rec (motive := fun _ => Nat → Nat → Nat) (fun _ M => M)
  (fun o _ ih i M => natF (Nat.lor M (Nat.shiftLeft (Nat.land (cloF M w o.after.toList) (Nat.sub (Nat.pow 2 w) 1)) (Nat.mul w i))) fun M => ih (Nat.succ i) M) l
theorem matF_eq (w : Nat) : ∀ l i M, matF w l i M = matOf w l i M
  | [], _, _ => rfl
  | o :: l, i, M => by
    have h : matF w (o :: l) i M = natF (Nat.lor M (Nat.shiftLeft (Nat.land (cloF M w o.after.toList) (Nat.sub (Nat.pow 2 w) 1)) (Nat.mul w i))) fun M => matF w l (Nat.succ i) M := rfl
    rw [h, natF_eq, cloF_eq, matF_eq w l]
    simp only [matOf,fNat_eq]
noncomputable def edgesF (i : Nat) (l : List Edge) : Bool := List.rec (motive := fun _ => Bool) true (fun e _ ih => Bool.rec (motive := fun _ => Bool) ih (Bool.rec (motive := fun _ => Bool) false ih (Nat.ble (Nat.succ e.on) i)) (bindsF e)) l
theorem edgesF_eq (i : Nat) : ∀ l, edgesF i l = edgesBack i l
  | [] => rfl
  | e :: l => by
    have h : edgesF i (e :: l) = Bool.rec (motive := fun _ => Bool) (edgesF i l) (Bool.rec (motive := fun _ => Bool) false (edgesF i l) (Nat.blt e.on i)) (bindsF e) := rfl
    rw [h, boolRec_eq, boolRec_eq, bindsF_eq, edgesF_eq i l, edgesBack]
    cases Region.binds .any e <;> cases Nat.blt e.on i <;> rfl
noncomputable def backsF (l : List Oper) : Nat → Bool := List.rec (motive := fun _ => Nat → Bool) (fun _ => true) (fun o _ ih i => Bool.rec (motive := fun _ => Bool) false (ih (Nat.succ i)) (edgesF i o.after.toList)) l
theorem backsF_eq : ∀ l i, backsF l i = backs l i
  | [], _ => rfl
  | o :: l, i => by
    have h : backsF (o :: l) i = Bool.rec (motive := fun _ => Bool) false (backsF l (Nat.succ i)) (edgesF i o.after.toList) := rfl
    rw [h, boolRec_eq, edgesF_eq, backsF_eq l, backs]
    cases edgesBack i o.after.toList <;> rfl
noncomputable def writersF (l : List Oper) : Nat → List (Nat × Nat) := List.rec (motive := fun _ => Nat → List (Nat × Nat)) (fun _ => []) (fun o _ ih i => Option.rec (motive := fun _ => List (Nat × Nat)) (ih (Nat.succ i)) (fun d => (d, i) :: ih (Nat.succ i)) o.dst) l
theorem writersF_eq : ∀ l i, writersF l i = writers l i
  | [], _ => rfl
  | o :: l, i => by
    have h : writersF (o :: l) i = Option.rec (motive := fun _ => List (Nat × Nat)) (writersF l (Nat.succ i)) (fun d => (d, i) :: writersF l (Nat.succ i)) o.dst := rfl
    rw [h, writersF_eq l, writers]
    cases o.dst <;> rfl
noncomputable def distinctF (W : List (Nat × Nat)) : Bool := List.rec (motive := fun _ => Bool) true (fun p r ih => Option.rec (motive := fun _ => Bool) ih (fun _ => false) (findWF p.1 r)) W
theorem distinctF_eq : ∀ W, distinctF W = distinctW W
  | [] => rfl
  | p :: r => by
    have h : distinctF (p :: r) = Option.rec (motive := fun _ => Bool) (distinctF r) (fun _ => false) (findWF p.1 r) := rfl
    rw [h, findWF_eq, distinctF_eq r, distinctW]
    cases findW p.1 r <;> rfl
noncomputable def chkLF (M w : Nat) (W : List (Nat × Nat)) (i : Nat) (l : List Tmp) : Bool := List.rec (motive := fun _ => Bool) true
  (fun d _ ih => Option.rec (motive := fun _ => Bool) ih (fun j => Bool.rec (motive := fun _ => Bool) (Bool.rec (motive := fun _ => Bool) (Bool.rec (motive := fun _ => Bool) false ih (befF M w j i)) ih (befF M w i j)) ih (Nat.beq j i)) (findWF d W)) l
theorem chkLF_eq (M w : Nat) (W : List (Nat × Nat)) (i : Nat) : ∀ l, chkLF M w W i l = chkLooks (befM M w) W i l
  | [] => rfl
  | d :: l => by
    have h : chkLF M w W i (d :: l) = Option.rec (motive := fun _ => Bool) (chkLF M w W i l) (fun j => Bool.rec (motive := fun _ => Bool) (Bool.rec (motive := fun _ => Bool) (Bool.rec (motive := fun _ => Bool) false (chkLF M w W i l) (befF M w j i)) (chkLF M w W i l) (befF M w i j)) (chkLF M w W i l) (Nat.beq j i)) (findWF d W) := rfl
    rw [h, findWF_eq, chkLF_eq M w W i l, chkLooks, befF_eq]
    cases findW d W with
    | none => rfl
    | some j =>
      simp only [boolRec_eq]
      cases Nat.beq j i <;> cases befM M w i j <;> cases befM M w j i <;> rfl

noncomputable def dstF (l : List Oper) : Nat → Option Tmp := List.rec (motive := fun _ => Nat → Option Tmp) (fun _ => none) (fun o _ ih n => Bool.rec (motive := fun _ => Option Tmp) (ih (Nat.sub n 1)) o.dst (Nat.beq n 0)) l
theorem dstF_eq : ∀ (l : List Oper) (n : Nat), dstF l n = (l[n]?).bind (·.dst)
  | [], _ => rfl
  | o :: l, n => by
    have h : dstF (o :: l) n = Bool.rec (motive := fun _ => Option Tmp) (dstF l (n - 1)) o.dst (Nat.beq n 0) := rfl
    rw [h, boolRec_eq, dstF_eq l]
    cases n <;> rfl
theorem dstF_arr (ops : Array Oper) (n : Nat) : dstF ops.toList n = (ops[n]?).bind (·.dst) := by rw [dstF_eq, Array.getElem?_toList]
noncomputable def chkGF (L : List Oper) (M w : Nat) (W : List (Nat × Nat)) (i : Nat) (g : Option (Nat × Bool)) : Bool := Option.rec (motive := fun _ => Bool) true (fun g => Option.rec (motive := fun _ => Bool) true (fun d => chkLF M w W i [d]) (dstF L g.1)) g
theorem chkLooks_append (bef : Nat → Nat → Bool) (W : List (Nat × Nat)) (i : Nat) (b : List Tmp) : ∀ a, chkLooks bef W i (a ++ b) = (chkLooks bef W i a && chkLooks bef W i b)
  | [] => by simp [chkLooks]
  | d :: a => by simp only [List.cons_append,chkLooks,chkLooks_append bef W i b a,Bool.and_assoc]
noncomputable def chkAF (L : List Oper) (M w : Nat) (W : List (Nat × Nat)) (l : List Oper) : Nat → Bool := List.rec (motive := fun _ => Nat → Bool) (fun _ => true)
  (fun o _ ih i => Bool.rec (motive := fun _ => Bool) false (Bool.rec (motive := fun _ => Bool) false (ih (Nat.succ i)) (chkGF L M w W i o.guard)) (chkLF M w W i (tmpsOfF o.op.operands.toList))) l
theorem chkAF_eq (ops : Array Oper) (M w : Nat) (W : List (Nat × Nat)) : ∀ l i, chkAF ops.toList M w W l i = chkAll ops (befM M w) W l i
  | [], _ => rfl
  | o :: l, i => by
    have h : chkAF ops.toList M w W (o :: l) i = Bool.rec (motive := fun _ => Bool) false (Bool.rec (motive := fun _ => Bool) false (chkAF ops.toList M w W l (Nat.succ i)) (chkGF ops.toList M w W i o.guard)) (chkLF M w W i (tmpsOfF o.op.operands.toList)) := rfl
    rw [h, boolRec_eq, boolRec_eq, chkLF_eq, tmpsOfF_eq, chkAF_eq ops M w W l, chkAll, looks, chkLooks_append]
    have hg : chkGF ops.toList M w W i o.guard = chkLooks (befM M w) W i (match o.guard with
        | some (g, _) => match (ops[g]?).bind (·.dst) with
          | some d => [d]
          | none => []
        | none => []) := by
      cases hgd : o.guard with
      | none => rfl
      | some gb =>
        obtain ⟨g, b⟩ := gb
        have h2 : chkGF ops.toList M w W i (some (g, b)) = Option.rec (motive := fun _ => Bool) true (fun d => chkLF M w W i [d]) (dstF ops.toList g) := rfl
        rw [h2, dstF_arr]
        show _ = chkLooks (befM M w) W i (match (ops[g]?).bind (·.dst) with
          | some d => [d]
          | none => [])
        generalize (ops[g]?).bind (·.dst) = x
        cases x with
        | none => rfl
        | some d => exact chkLF_eq M w W i [d]
    rw [hg]
    generalize chkLooks (befM M w) W i (tmpsOf o.op.operands.toList) = x
    generalize chkLooks (befM M w) W i _ = y
    cases x <;> cases y <;> rfl
noncomputable def rstatF (ops : Array Oper) (M w : Nat) : Bool := Bool.rec (motive := fun _ => Bool) false
  (List.rec (motive := fun _ => List (Nat × Nat) → Bool) (fun W => Bool.rec (motive := fun _ => Bool) false (chkAF ops.toList M w W ops.toList 0) (distinctF W)) (fun _ _ _ W => Bool.rec (motive := fun _ => Bool) false (chkAF ops.toList M w W ops.toList 0) (distinctF W)) (writersF ops.toList 0) (writersF ops.toList 0)) (backsF ops.toList 0)
theorem rstatF_eq (ops : Array Oper) (M w : Nat) : rstatF ops M w = rstat ops (befM M w) := by
  have h : rstatF ops M w = Bool.rec (motive := fun _ => Bool) false (Bool.rec (motive := fun _ => Bool) false (chkAF ops.toList M w (writersF ops.toList 0) ops.toList 0) (distinctF (writersF ops.toList 0))) (backsF ops.toList 0) := by
    unfold rstatF
    cases writersF ops.toList 0 <;> rfl
  rw [h, boolRec_eq, boolRec_eq, writersF_eq, distinctF_eq, chkAF_eq, backsF_eq, rstat]
  cases backs ops.toList 0 <;> cases distinctW (writers ops.toList 0) <;> simp

/-! ### The heap -/
noncomputable def T.getF (t : T) : Nat → Option ABlk := T.rec (motive := fun _ => Nat → Option ABlk) (fun _ => none)
  (fun v _ _ ihl ihr n => Bool.rec (motive := fun _ => Option ABlk) (Bool.rec (motive := fun _ => Option ABlk) (ihr (Nat.sub (Nat.div n 2) 1)) (ihl (Nat.div n 2)) (Nat.beq (Nat.mod n 2) 1)) v (Nat.beq n 0)) t
theorem T.getF_eq : ∀ (t : T) (n : Nat), t.getF n = t.get n
  | .nil, _ => rfl
  | .node v l r, n => by
    have h : (T.node v l r).getF n = Bool.rec (motive := fun _ => Option ABlk) (Bool.rec (motive := fun _ => Option ABlk) (r.getF (n / 2 - 1)) (l.getF (n / 2)) (Nat.beq (n % 2) 1)) v (Nat.beq n 0) := rfl
    rw [h, boolRec_eq, boolRec_eq, T.getF_eq l, T.getF_eq r]; rfl
noncomputable def T.setF (t : T) : Nat → ABlk → (T → α) → α := T.rec (motive := fun _ => Nat → ABlk → (T → α) → α) (fun n b k => T.setK (Nat.succ n) .nil n b k)
  (fun v l r ihl ihr n b k => Bool.rec (motive := fun _ => α) (Bool.rec (motive := fun _ => α) (ihr (Nat.sub (Nat.div n 2) 1) b fun r => k (.node v l r)) (ihl (Nat.div n 2) b fun l => k (.node v l r)) (Nat.beq (Nat.mod n 2) 1)) (k (.node (some b) l r)) (Nat.beq n 0)) t
theorem T.set_more (b : ABlk) : ∀ (d d' : Nat) (t : T) (n : Nat), n < d → n < d' → T.set d t n b = T.set d' t n b
  | 0, _, _, _, h, _ => by omega
  | _, 0, _, _, _, h => by omega
  | d + 1, d' + 1, t, n, h, h' => by
    by_cases h0 : n = 0
    · subst h0; cases t <;> simp [T.set]
    · have e0 := beq_ne h0
      have i1 := fun t => T.set_more b d d' t (n / 2) (by omega) (by omega)
      have i2 := fun t => T.set_more b d d' t (n / 2 - 1) (by omega) (by omega)
      cases t <;> simp [T.set, e0, i1, i2]
theorem T.setF_eq (b : ABlk) : ∀ (t : T) (n : Nat) (k : T → α), t.setF n b k = k (T.set (n + 1) t n b)
  | .nil, n, k => T.setK_eq b (n + 1) .nil n k
  | .node v l r, n, k => by
    have h : (T.node v l r).setF n b k = Bool.rec (motive := fun _ => α) (Bool.rec (motive := fun _ => α) (r.setF (n / 2 - 1) b fun r => k (.node v l r)) (l.setF (n / 2) b fun l => k (.node v l r)) (Nat.beq (n % 2) 1)) (k (.node (some b) l r)) (Nat.beq n 0) := rfl
    rw [h, boolRec_eq, boolRec_eq, T.setF_eq b l, T.setF_eq b r]
    by_cases h0 : n = 0
    · subst h0; rfl
    · have e0 := beq_ne h0
      by_cases h1 : n % 2 = 1
      · have e1 : Nat.beq (n % 2) 1 = true := by rw [h1]; rfl
        simp only [e0,e1,cond_true,cond_false,T.set]
        rw [T.set_more b (n / 2 + 1) n l (n / 2) (by omega) (by omega)]
      · have e1 := beq_ne h1
        simp only [e0,e1,cond_true,cond_false,T.set]
        rw [T.set_more b (n / 2 - 1 + 1) n r (n / 2 - 1) (by omega) (by omega)]
noncomputable def AHeap.getF (H : AHeap) (k : Nat) : ABlk := Bool.rec (motive := fun _ => ABlk) .dead (Option.rec (motive := fun _ => ABlk) .dead (fun b => b) (H.tree.getF k)) (Nat.ble (Nat.succ k) H.size)
theorem AHeap.getF_eq (H : AHeap) (k : Nat) : H.getF k = H.get k := by
  unfold AHeap.getF AHeap.get
  rw [boolRec_eq, T.getF_eq]
  show (bif Nat.blt k H.size then _ else _) = _
  cases H.tree.get k <;> rfl
end Go.Am
