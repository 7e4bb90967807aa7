/- Control: what it means that a piece of code, a call, an operation of the little machine is the model's. -/
import Derived.Test.YtnibabkgeolenaaT2
set_option linter.unusedSimpArgs false
set_option linter.unusedVariables false
namespace Go.Am
variable {T : Tab} {P : Program}

structure St where
  t : List Value
  H : AHeap
  ds : List Nat

def mark (σ : Place) (k : Nat) : Deferred := { target := .collected (σ.blk k), args := #[] }

structure ActRel (σ : Place) (s : St) (a : Act) : Prop where
  tmps : a.tmps = (s.t.map (ren σ)).toArray
  ok : ∀ v ∈ s.t, okv σ v
  ds : a.defers = s.ds.map (mark σ)
  dok : ∀ k ∈ s.ds, (σ.at_ k).isSome = true

theorem ActRel.evals {σ : Place} {s : St} {a : Act} (h : ActRel σ s a) : Evals σ (aval s.t) a.eval := by
  intro x v hx
  cases x with
  | tmp i =>
    simp only [aval,Option.some.injEq] at hx
    subst hx
    simp only [Act.eval,h.tmps]
    by_cases hi : i < s.t.length
    · have e1 : s.t.getD i undef = s.t[i] := by simp [List.getD, hi]
      have e2 : (s.t.map (ren σ)).toArray.getD i undef = ren σ s.t[i] := by simp [Array.getD, hi]
      rw [e1, e2]
      exact ⟨rfl, h.ok _ (List.getElem_mem hi)⟩
    · have e1 : s.t.getD i undef = undef := by simp [List.getD, List.getElem?_eq_none (Nat.le_of_not_lt hi)]
      have e2 : (s.t.map (ren σ)).toArray.getD i undef = undef := by simp [Array.getD, hi]
      rw [e1, e2, ren_undef]
      exact ⟨rfl, okv_undef σ⟩
  | const c =>
    simp only [aval] at hx
    cases hg : gr c
    · rw [hg] at hx; cases hx
    · rw [hg] at hx
      simp only [cond_true,Option.some.injEq] at hx
      subst hx
      obtain ⟨h1, h2⟩ := gr_ok σ hg
      exact ⟨by rw [h2]; rfl, h1⟩
  | global g => cases hx
  | func f =>
    simp only [aval,Option.some.injEq] at hx
    subst hx
    exact ⟨by simp [Act.eval, ren, Place.fn], by simp [okv, okfn]⟩

def tset (t : List Value) (d : Option Tmp) (v : Value) : List Value :=
  match d with
  | some d => t.set d v
  | none => t

theorem ActRel.agree {σ τ : Place} {s : St} {a : Act} (h : ActRel σ s a) (ha : Agree σ τ) (H' : AHeap) : ActRel τ { s with H := H' } a where
  tmps := by rw [ha.map h.ok]; exact h.tmps
  ok v hv := ha.okv (h.ok v hv)
  ds := by
    rw [h.ds]
    exact List.map_congr_left fun k hk => by simp [mark, ha.blk (h.dok k hk)]
  dok k hk := ha.placed (h.dok k hk)

theorem ActRel.put {σ : Place} {s : St} {a : Act} (h : ActRel σ s a) (d : Option Tmp) {v : Value} (hv : okv σ v) : ActRel σ { s with t := tset s.t d v } (a.put d (ren σ v)) := by
  cases d with
  | none => exact h
  | some d =>
    refine ⟨?_, fun u hu => ?_, h.ds, h.dok⟩
    · simp [Act.put, tset, h.tmps, List.map_set]
    · rcases List.mem_or_eq_of_mem_set hu with hu | rfl
      · exact h.ok u hu
      · exact hv

/-! ### Calls, rounds, code -/
/-- A call of yield of loop l. -/
def SYield (P : Program) (l : Nat) (args : List Value) (H : AHeap) (v : Value) (H' : AHeap) (m : Nat) : Prop :=
  ∀ (F : Fence) (n : Nat) (σ : Place) (w : World), Free F → Rel σ H w → (∀ x ∈ args, okv σ x) → (σ.at_ l).isSome = true →
    ∃ fn tmps assign body, (Instr.yield (σ.blk l) (args.map (ren σ)).toArray).run P w = .ok (.round (σ.blk l) fn tmps assign body) w ∧
      RoundIn F n P (σ.blk l) fn tmps assign body w fun e w' => ∃ σ', e = .returned (ren σ' v) ∧ okv σ' v ∧ Rel σ' H' w' ∧ Ext σ H w σ' H' w' m

/-- The frame of a round, or none. -/
def InR (r : Option Nat) (σ : Place) (F : Fence) : Prop := F.round = r.map σ.blk ∧ ∀ l, r = some l → (σ.at_ l).isSome = true

theorem InR.agree {r : Option Nat} {σ τ : Place} {F : Fence} (h : InR r σ F) (ha : Agree σ τ) : InR r τ F := by
  refine ⟨?_, fun l hl => ha.placed (h.2 l hl)⟩
  rw [h.1]
  cases r with
  | none => rfl
  | some l => simp [ha.blk (h.2 l rfl)]

def SPost (σ : Place) (s : St) (w : World) (e : Exit) (s' : St) (m : Nat) : Exit → Act → World → Prop :=
  fun e' a' w' => e' = e ∧ ∃ σ', ActRel σ' s' a' ∧ Rel σ' s'.H w' ∧ Ext σ s.H w σ' s'.H w' m

def SCode (P : Program) (r : Option Nat) (c : Code) (s : St) (e : Exit) (s' : St) (m : Nat) : Prop :=
  ∀ (F : Fence) (n : Nat) (σ : Place) (w : World) (a : Act), Free F → InR r σ F → Rel σ s.H w → ActRel σ s a → c.wpIn F n P (SPost σ s w e s' m) a w

theorem SPost.weaken {σ : Place} {s s' : St} {w w' : World} {e e' : Exit} {m m' : Nat} {a' : Act} (h : SPost σ s w e s' m e' a' w') (hm : m' ≤ m) : SPost σ s w e s' m' e' a' w' := by
  obtain ⟨h1, σ', h2, h3, h4⟩ := h
  exact ⟨h1, σ', h2, h3, h4.weaken hm⟩
theorem SCode.weaken {r : Option Nat} {c : Code} {s s' : St} {e : Exit} {m m' : Nat} (h : SCode P r c s e s' m) (hm : m' ≤ m) : SCode P r c s e s' m' :=
  fun F n σ w a hF hr hR hA => wpIn_mono (h F n σ w a hF hr hR hA) fun _ _ _ hq => hq.weaken hm

theorem SPost.trans {σ σ₁ : Place} {s s₁ s₂ : St} {w w₁ w₂ : World} {e e' : Exit} {m₁ m₂ : Nat} {a₂ : Act} (h : Ext σ s.H w σ₁ s₁.H w₁ m₁)
    (k : SPost σ₁ s₁ w₁ e s₂ m₂ e' a₂ w₂) : SPost σ s w e s₂ (min m₁ m₂) e' a₂ w₂ := by
  obtain ⟨h1, σ', h2, h3, h4⟩ := k
  exact ⟨h1, σ', h2, h3, h.trans h4⟩

theorem SCode.skip {r : Option Nat} {s : St} : SCode P r .skip s .normal s s.H.size :=
  fun _ _ σ _ _ _ _ hR hA => wpIn_skip ⟨rfl, σ, hA, hR, Ext.refl hR⟩
theorem SCode.label {r : Option Nat} {s : St} {l : Nat} : SCode P r (.label l) s .normal s s.H.size :=
  fun _ _ σ _ _ _ _ hR hA => wpIn_label ⟨rfl, σ, hA, hR, Ext.refl hR⟩
theorem SCode.exit {r : Option Nat} {s : St} {id : Nat} : SCode P r (.exit id) s (.exit id) s s.H.size :=
  fun _ _ σ _ _ _ _ hR hA => wpIn_exit ⟨rfl, σ, hA, hR, Ext.refl hR⟩
theorem SCode.ret {r : Option Nat} {s : St} : SCode P r .ret s .ret s s.H.size :=
  fun _ _ σ _ _ _ _ hR hA => wpIn_ret ⟨rfl, σ, hA, hR, Ext.refl hR⟩

theorem SCode.seq {r : Option Nat} {x y : Code} {s s₁ s₂ : St} {e : Exit} {m₁ m₂ : Nat} (hx : SCode P r x s .normal s₁ m₁) (hy : SCode P r y s₁ e s₂ m₂) :
    SCode P r (.seq x y) s e s₂ (min m₁ m₂) := by
  intro F n σ w a hF hr hR hA
  refine wpIn_seq (wpIn_mono (hx F n σ w a hF hr hR hA) ?_)
  rintro e' a' w' ⟨rfl, σ', h1, h2, h3⟩
  exact wpIn_mono (hy F n σ' w' a' hF (hr.agree (h3.agr hR)) h2 h1) fun _ _ _ hq => SPost.trans h3 hq
theorem SCode.seq_out {r : Option Nat} {x y : Code} {s s₁ : St} {e : Exit} {m₁ : Nat} (hx : SCode P r x s e s₁ m₁) (he : e ≠ .normal) :
    SCode P r (.seq x y) s e s₁ m₁ := by
  intro F n σ w a hF hr hR hA
  refine wpIn_seq (wpIn_mono (hx F n σ w a hF hr hR hA) ?_)
  rintro e' a' w' ⟨rfl, h⟩
  cases e' with
  | normal => exact absurd rfl he
  | _ => exact ⟨rfl, h⟩

theorem SCode.cond {r : Option Nat} {c : Operand} {x y : Code} {s s' : St} {e : Exit} {m : Nat} {b : Bool} (hc : aval s.t c = some (.bool b)) (h : SCode P r (bif b then x else y) s e s' m) :
    SCode P r (.cond c x y) s e s' m := by
  intro F n σ w a hF hr hR hA
  have := (hA.evals c _ hc).1
  simp only [ren] at this
  refine wpIn_cond this ?_
  cases b <;> exact h F n σ w a hF hr hR hA

def blockExit (id : Nat) : Exit → Exit
  | .exit id' => if id' = id then .normal else .exit id'
  | e => e
theorem SCode.block {r : Option Nat} {id : Nat} {c : Code} {s s' : St} {e : Exit} {m : Nat} (h : SCode P r c s e s' m) : SCode P r (.block id c) s (blockExit id e) s' m := by
  intro F n σ w a hF hr hR hA
  refine wpIn_block (wpIn_mono (h F n σ w a hF hr hR hA) ?_)
  rintro e' a' w' ⟨rfl, hq⟩
  cases e' with
  | exit id' =>
    simp only [Exit.inBlock,blockExit]
    split
    · exact ⟨rfl, hq⟩
    · exact ⟨rfl, hq⟩
  | _ => exact ⟨rfl, hq⟩

/-! ### Scopes: functions with labels, without goto -/
def ngo (Q : Exit → Act → World → Prop) : Exit → Act → World → Prop
  | .goto _, _, _ => False
  | e, a, w => Q e a w
theorem stepR_scope {b : Frame} {a : Act} {k : List Item} {cs : List Frame} {w : World} {c : Code} :
    step P (lone (b.atR a (.code (.scope c) :: k)) cs w) = .next (lone (b.atR a (.code c :: .inScope c :: k)) cs w) :=
  step_lone_go (by simp [stepG, stepG.exec, Frame.atR])
theorem stepR_inScope {b : Frame} {a : Act} {k : List Item} {cs : List Frame} {w : World} {c : Code} :
    step P (lone (b.atR a (.inScope c :: k)) cs w) = .next (lone (b.atR a k) cs w) :=
  step_lone_go (by simp [stepG, stepG.exec, Frame.atR])
theorem wpIn_scope {F : Fence} {n : Nat} {c : Code} {Q : Exit → Act → World → Prop} {a : Act} {w : World} (h : c.wpIn F n P (ngo Q) a w) : (Code.scope c).wpIn F n P Q a w := by
  intro b k cs hro hb hr
  have h0 : (lone (b.atR a (.code (.scope c) :: k)) cs w).fenced P F := fenced_calm hb hr rfl
  obtain ⟨e, a₁, w₁, hq, harr⟩ := h b (.inScope c :: k) cs hro hb hr
  cases e with
  | normal => exact ⟨.normal, a₁, w₁, hq, .head h0 stepR_scope (StepsIn.trans harr (.one (fenced_calm hb hr rfl) stepR_inScope))⟩
  | exit id' =>
    have hx : exitTo id' (.inScope c :: k) = exitTo id' k := by simp [exitTo]
    exact ⟨.exit id', a₁, w₁, hq, fun k' hk => .head h0 stepR_scope (harr.1 k' (by rw [hx]; exact hk)),
      fun hr' hk => let ⟨k₁, h1, h2⟩ := harr.2 hr' (by rw [hx]; exact hk); ⟨k₁, h1, .head h0 stepR_scope h2⟩⟩
  | goto l => exact hq.elim
  | ret => exact ⟨_, a₁, w₁, hq, .of_steps (.one h0 stepR_scope) harr⟩
  | panic ch => exact ⟨_, a₁, w₁, hq, .of_steps (.one h0 stepR_scope) harr⟩
  | outgrown => exact ⟨_, a₁, w₁, hq, .of_steps (.one h0 stepR_scope) harr⟩
theorem SCode.scope {r : Option Nat} {c : Code} {s s' : St} {e : Exit} {m : Nat} (h : SCode P r c s e s' m) (he : ∀ l, e ≠ .goto l) : SCode P r (.scope c) s e s' m := by
  intro F n σ w a hF hr hR hA
  refine wpIn_scope (wpIn_mono (h F n σ w a hF hr hR hA) ?_)
  rintro e' a' w' ⟨rfl, hq⟩
  cases e' with
  | goto l => exact absurd rfl (he l)
  | _ => exact ⟨rfl, hq⟩

/-! ### Loops -/
def LoopIn (F : Fence) (n : Nat) (P : Program) (c : Code) (Q : Exit → Act → World → Prop) (a : Act) (w : World) : Prop :=
  ∀ (b : Frame) (k : List Item) (cs : List Frame), b.roundOf = F.round → F.fn b.fn → F.room (cs.length + 1 + n) →
    ∃ e a' w', Q e a' w' ∧ ArrivesIn (Machine.fenced P F) P (lone (b.atR a (.code c :: .inLoop c :: k)) cs w) b k cs e a' w'

theorem loopIn_mono {F : Fence} {n : Nat} {c : Code} {Q Q' : Exit → Act → World → Prop} {a : Act} {w : World} (h : LoopIn F n P c Q a w) (hq : ∀ e a w, Q e a w → Q' e a w) : LoopIn F n P c Q' a w :=
  fun b k cs hro hb hr => let ⟨e, a', w', q, x⟩ := h b k cs hro hb hr; ⟨e, a', w', hq _ _ _ q, x⟩

theorem wpIn_of_loopIn {F : Fence} {n : Nat} {c : Code} {Q : Exit → Act → World → Prop} {a : Act} {w : World} (h : LoopIn F n P c Q a w) : (Code.loop c).wpIn F n P Q a w := by
  intro b k cs hro hb hr
  obtain ⟨e, a', w', hq, harr⟩ := h b k cs hro hb hr
  exact ⟨e, a', w', hq, .of_steps (.one (fenced_calm hb hr rfl) stepR_loop) harr⟩

theorem loopIn_step {F : Fence} {n : Nat} {c : Code} {Q : Exit → Act → World → Prop} {a : Act} {w : World} (h : c.wpIn F n P (Exit.then (LoopIn F n P c Q) Q) a w) : LoopIn F n P c Q a w := by
  intro b k cs hro hb hr
  obtain ⟨e, a₁, w₁, hq, harr⟩ := h b (.inLoop c :: k) cs hro hb hr
  cases e with
  | normal =>
    obtain ⟨e₂, a₂, w₂, hq₂, harr₂⟩ := hq b k cs hro hb hr
    exact ⟨e₂, a₂, w₂, hq₂, .of_steps (StepsIn.trans harr (.one (fenced_calm hb hr rfl) stepR_inLoop)) harr₂⟩
  | exit id => exact ⟨_, a₁, w₁, hq, .pass (x := .inLoop c) rfl (fun _ _ => .inl (by simp)) harr⟩
  | goto l => exact ⟨_, a₁, w₁, hq, .pass (x := .inLoop c) rfl (fun _ _ => .inl (by simp)) harr⟩
  | ret => exact ⟨_, a₁, w₁, hq, .pass (x := .inLoop c) rfl (fun _ _ => .inl (by simp)) harr⟩
  | panic ch => exact ⟨_, a₁, w₁, hq, .pass (x := .inLoop c) rfl (fun _ _ => .inl (by simp)) harr⟩
  | outgrown => exact ⟨_, a₁, w₁, hq, .pass (x := .inLoop c) rfl (fun _ _ => .inl (by simp)) harr⟩

def SLoop (P : Program) (r : Option Nat) (c : Code) (s : St) (e : Exit) (s' : St) (m : Nat) : Prop :=
  ∀ (F : Fence) (n : Nat) (σ : Place) (w : World) (a : Act), Free F → InR r σ F → Rel σ s.H w → ActRel σ s a → LoopIn F n P c (SPost σ s w e s' m) a w

theorem SLoop.step {r : Option Nat} {c : Code} {s s₁ s₂ : St} {e : Exit} {m₁ m₂ : Nat} (hx : SCode P r c s .normal s₁ m₁) (hy : SLoop P r c s₁ e s₂ m₂) : SLoop P r c s e s₂ (min m₁ m₂) := by
  intro F n σ w a hF hr hR hA
  refine loopIn_step (wpIn_mono (hx F n σ w a hF hr hR hA) ?_)
  rintro e' a' w' ⟨rfl, σ', h1, h2, h3⟩
  exact loopIn_mono (hy F n σ' w' a' hF (hr.agree (h3.agr hR)) h2 h1) fun _ _ _ hq => SPost.trans h3 hq
theorem SLoop.out {r : Option Nat} {c : Code} {s s₁ : St} {e : Exit} {m₁ : Nat} (hx : SCode P r c s e s₁ m₁) (he : e ≠ .normal) : SLoop P r c s e s₁ m₁ := by
  intro F n σ w a hF hr hR hA
  refine loopIn_step (wpIn_mono (hx F n σ w a hF hr hR hA) ?_)
  rintro e' a' w' ⟨rfl, h⟩
  cases e' with
  | normal => exact absurd rfl he
  | _ => exact ⟨rfl, h⟩
theorem SCode.loop {r : Option Nat} {c : Code} {s s' : St} {e : Exit} {m : Nat} (h : SLoop P r c s e s' m) : SCode P r (.loop c) s e s' m :=
  fun F n σ w a hF hr hR hA => wpIn_of_loopIn (h F n σ w a hF hr hR hA)

/-! ### Operations -/
def SOp (P : Program) (r : Option Nat) (o : Oper) (t : Operand → Option Value) (H : AHeap) (v : Value) (H' : AHeap) (m : Nat) : Prop :=
  ∀ (F : Fence) (n : Nat) (σ : Place) (w : World) (a : Act) (K : Act → World → Prop) (Q : Exit → Act → World → Prop), Free F → InR r σ F → Rel σ H w → Evals σ t a.eval →
    (∀ σ' w', okv σ' v → Rel σ' H' w' → Ext σ H w σ' H' w' m → K (a.put o.dst (ren σ' v)) w') → o.wpIn F n P a w K Q

theorem SOp.weaken {r : Option Nat} {o : Oper} {t : Operand → Option Value} {H H' : AHeap} {v : Value} {m m' : Nat} (h : SOp P r o t H v H' m) (hm : m' ≤ m) : SOp P r o t H v H' m' :=
  fun F n σ w a K Q hF hr hR hE hK => h F n σ w a K Q hF hr hR hE fun σ' w' h1 h2 h3 => hK σ' w' h1 h2 (h3.weaken hm)

theorem SOp.of_runs {r : Option Nat} {o : Oper} {t : Operand → Option Value} {H H' : AHeap} {v : Value} {m : Nat} (hd : ∀ c, o.op ≠ .defer c)
    (h : ∀ (σ : Place) (w : World) (ρ : Operand → Value), Rel σ H w → Evals σ t ρ → Runs P (execOp ρ o) σ H w v H' m) : SOp P r o t H v H' m := by
  intro F n σ w a K Q hF hr hR hE hK
  refine ⟨fun f _ => hF.1 f, ?_⟩
  rw [Oper.semAt_eq _ _ _ hd]
  obtain ⟨σ', w', nx, h1, h2, h3, h4, h5⟩ := h σ w a.eval hR hE
  rw [h1]
  rcases h2 with rfl | ⟨rfl, rfl⟩
  · exact hK σ' w' h3 h4 h5
  · have := hK σ' w' h3 h4 h5
    rw [ren_undef] at this
    exact this

/-- What a call calls. -/
def acallee (t : Operand → Option Value) (f : Operand) (args : Array Operand) : Option (Fn × List Value × List Value) :=
  match t f, avals t args.toList with
  | some (.func fn first captured), some vs => some (fn, first.toList ++ vs, captured.toList)
  | _, _ => none

theorem acallee_ok {σ : Place} {t : Operand → Option Value} {ρ : Operand → Value} (hρ : Evals σ t ρ) {f : Operand} {args : Array Operand} {tys : Array TypeId} {fn : Fn} {vs cap : List Value} (h : acallee t f args = some (fn, vs, cap)) (ty : TypeId) :
    resolve ρ { callee := .value f, args, argTypes := tys } ty = pure { target := .fn (σ.fn fn) (cap.map (ren σ)).toArray, args := (vs.map (ren σ)).toArray } ∧
    okfn σ fn ∧ (∀ v ∈ vs, okv σ v) ∧ (∀ v ∈ cap, okv σ v) := by
  unfold acallee at h
  split at h
  · rename_i fn' first captured as hf has
    simp only [Option.some.injEq,Prod.mk.injEq] at h
    obtain ⟨rfl, rfl, rfl⟩ := h
    obtain ⟨h1, h2⟩ := hρ _ _ hf
    obtain ⟨h3, h4⟩ := avals_ok hρ has
    rw [okv] at h2
    simp only [ren] at h1
    refine ⟨?_, h2.1, fun v hv => ?_, fun v hv => h2.2.2 v (by simpa using hv)⟩
    · simp only [resolve,h1,Deferred.ofValue]
      congr 2
      · congr 1
        apply Array.ext'; simp
      · apply Array.ext'
        simp [← h3]
    · rcases List.mem_append.1 hv with hv | hv
      · exact h2.2.1 v (by simpa using hv)
      · exact h4 v hv
  · cases h

structure HasCode (P : Program) (f : FuncId) (fn : Func) (c : Code) : Prop where
  get : P.funcs[f]? = some fn
  body : fn.body = some c
  name : (fn.name == "runtime.NumGoroutine") = false

theorem HasCode.enter {f : FuncId} {fn : Func} {c : Code} (h : HasCode P f fn c) (args : Array Value) (w : World) : (callFunc f args).run P w = .ok (.enter f args) w := by
  have hn : ¬ fn.name = "runtime.NumGoroutine" := by simpa using h.name
  simp [callFunc, h.get, h.body, hn]

theorem SOp.call {r : Option Nat} {o : Oper} {t : Operand → Option Value} {H H' : AHeap} {v : Value} {m : Nat} {f : Operand} {args : Array Operand} {tys : Array TypeId} {g : FuncId} {vs cap : List Value} {fn : Func} {c : Code}
    (ho : o.op = .call { callee := .value f, args, argTypes := tys }) (hc : acallee t f args = some (.func g, vs, cap)) (hg : HasCode P g fn c) (h : SCall P g (vs ++ cap) H v H' m) : SOp P r o t H v H' m := by
  intro F n σ w a K Q hF hr hR hE hK
  obtain ⟨h1, _, h3, h4⟩ := acallee_ok hE hc (tys := tys) o.type
  refine ⟨fun f _ => hF.1 f, ?_⟩
  rw [Oper.semAt_eq _ _ _ (by rw [ho]; intro c; simp)]
  have hrun : (execOp a.eval o).run P w = .ok (.enter g ((vs ++ cap).map (ren σ)).toArray) w := by
    simp only [execOp,ho,h1]
    simp only [Sem.run_bind,Sem.run_pure,Result.andThen_ok,Place.fn,invoke]
    rw [hg.enter]
    congr 2
    simp
  rw [hrun]
  refine ⟨hF.depth, (h F (n - 1) σ w hF hR fun x hx => ?_).mono ?_⟩
  · rcases List.mem_append.1 hx with hx | hx
    · exact h3 x hx
    · exact h4 x hx
  · rintro e w' ⟨σ', rfl, k1, k2, k3⟩
    exact hK σ' w' k1 k2 k3

theorem SOp.yield {r : Option Nat} {o : Oper} {t : Operand → Option Value} {H H' : AHeap} {v : Value} {m : Nat} {f : Operand} {args : Array Operand} {tys : Array TypeId} {l : Nat} {vs cap : List Value}
    (ho : o.op = .call { callee := .value f, args, argTypes := tys }) (hc : acallee t f args = some (.yield l, vs, cap)) (h : SYield P l vs H v H' m) : SOp P r o t H v H' m := by
  intro F n σ w a K Q hF hr hR hE hK
  obtain ⟨h1, h2, h3, h4⟩ := acallee_ok hE hc (tys := tys) o.type
  refine ⟨fun f _ => hF.1 f, ?_⟩
  rw [Oper.semAt_eq _ _ _ (by rw [ho]; intro c; simp)]
  obtain ⟨fn, tmps, assign, body, hy, hround⟩ := h F (n - 1) σ w hF hR h3 h2
  have hrun : (execOp a.eval o).run P w = .ok (.round (σ.blk l) fn tmps assign body) w := by
    simp only [execOp,ho,h1]
    simp only [Sem.run_bind,Sem.run_pure,Result.andThen_ok,Place.fn,invoke]
    exact hy
  rw [hrun]
  refine ⟨hF.depth, hround.mono ?_⟩
  rintro e w' ⟨σ', rfl, k1, k2, k3⟩
  exact hK σ' w' k1 k2 k3

/-! ### Regions in the order of the text -/
def ayielded (ops : Array Oper) (t : List Value) (j : Nat) : Option Bool :=
  match ((ops[j]?).bind (·.dst)).bind (t[·]?) with
  | some (.bool b) => some b
  | _ => none
theorem yielded_eq {σ : Place} {ops : Array Oper} {t : List Value} {j : Nat} : yielded ops (t.map (ren σ)).toArray j = ayielded ops t j := by
  unfold yielded ayielded
  cases hd : (ops[j]?).bind (·.dst) with
  | none => rfl
  | some d =>
    simp only [Option.bind_some,List.getElem?_toArray,List.getElem?_map]
    cases ht : t[d]? with
    | none => rfl
    | some v =>
      simp only [Option.map_some]
      cases v <;> simp [ren]
def awanted (ops : Array Oper) (t : List Value) (o : Oper) : Bool := Region.wanted o (ayielded ops t)
theorem ActRel.wanted {σ : Place} {s : St} {a : Act} (h : ActRel σ s a) (ops : Array Oper) (o : Oper) : Region.wanted o (yielded ops a.tmps) = awanted ops s.t o := by
  unfold awanted
  congr 1
  funext j
  rw [h.tmps, yielded_eq]

def SOps (P : Program) (r : Option Nat) (ops : Array Oper) (l : List Nat) (s s' : St) (m : Nat) : Prop :=
  ∀ (F : Fence) (n : Nat) (σ : Place) (w : World) (a : Act) (Q : Exit → Act → World → Prop), Free F → InR r σ F → Rel σ s.H w → ActRel σ s a →
    (∀ σ' w' a', ActRel σ' s' a' → Rel σ' s'.H w' → Ext σ s.H w σ' s'.H w' m → Q .normal a' w') → wpOpsIn F n P ops Q l a w

theorem SOps.nil {r : Option Nat} {ops : Array Oper} {s : St} : SOps P r ops [] s s s.H.size :=
  fun _ _ σ w a _ _ _ hR hA hK => hK σ w a hA hR (Ext.refl hR)
theorem SOps.op {r : Option Nat} {ops : Array Oper} {i : Nat} {l : List Nat} {s s' : St} {o : Oper} {v : Value} {H₁ : AHeap} {m₁ m₂ : Nat} (ho : ops[i]? = some o) (hw : awanted ops s.t o = true)
    (h : SOp P r o (aval s.t) s.H v H₁ m₁) (k : SOps P r ops l { s with t := tset s.t o.dst v, H := H₁ } s' m₂) : SOps P r ops (i :: l) s s' (min m₁ m₂) := by
  intro F n σ w a Q hF hr hR hA hK
  simp only [wpOpsIn,ho,hA.wanted,hw,if_true]
  refine h F n σ w a _ Q hF hr hR hA.evals ?_
  intro σ' w' h1 h2 h3
  have hag := h3.agr hR
  exact k F n σ' w' _ Q hF (hr.agree hag) h2 ((hA.agree hag H₁).put o.dst h1) fun σ₂ w₂ a₂ k1 k2 k3 => hK σ₂ w₂ a₂ k1 k2 (h3.trans k3)
theorem SOps.skip {r : Option Nat} {ops : Array Oper} {i : Nat} {l : List Nat} {s s' : St} {o : Oper} {m₂ : Nat} (ho : ops[i]? = some o) (hw : awanted ops s.t o = false)
    (k : SOps P r ops l { s with t := tset s.t o.dst undef } s' m₂) : SOps P r ops (i :: l) s s' m₂ := by
  intro F n σ w a Q hF hr hR hA hK
  simp only [wpOpsIn,ho,hA.wanted,hw,Bool.false_eq_true,if_false]
  refine ⟨fun f _ => hF.1 f, ?_⟩
  have := hA.put o.dst (okv_undef σ)
  rw [ren_undef] at this
  exact k F n σ w _ Q hF hr hR this hK

theorem SCode.region {r : Option Nat} {id : Nat} {ops : Array Oper} {s s' : St} {m : Nat} (h : SOps P r ops (List.range ops.size) s s' m) : SCode P r (.region id ops false) s .normal s' m :=
  fun F n σ w a hF hr hR hA => wpIn_region (h F n σ w a _ hF hr hR hA fun σ' _ _ h1 h2 h3 => ⟨rfl, σ', h1, h2, h3⟩)

end Go.Am
/- Whole calls, rounds of a loop over a function, and the loop itself. -/
namespace Go.Am
variable {T : Tab} {P : Program}

/-! ### Results -/
def aresultList (T : Tab) (t : List Value) (H : AHeap) : List ResultVar → Option (List Value)
  | [] => some []
  | .tmp i :: rs => match aresultList T t H rs with
    | some vs => some (t.getD i undef :: vs)
    | none => none
  | .cell a ty :: rs => match t.getD a undef, aresultList T t H rs with
    | .pointer (some ad), some vs => match aRead T H ty ad with
      | some v => some (v :: vs)
      | none => none
    | _, _ => none
def aresults (T : Tab) (fn : Func) (t : List Value) (H : AHeap) : Option Value :=
  match aresultList T t H fn.results.toList with
  | some [v] => some v
  | some vs => some (.tuple vs.toArray)
  | none => none

theorem tmp_eval {σ : Place} {t : List Value} (i : Nat) : (t.map (ren σ)).toArray.getD i undef = ren σ (t.getD i undef) := by
  by_cases hi : i < t.length
  · simp [Array.getD, List.getD, hi]
  · simp [Array.getD, List.getD, hi, ren_undef]

theorem aresultList_ok (hT : T.Fits P) {σ : Place} {t : List Value} {H : AHeap} {w : World} (r : Rel σ H w) (ht : ∀ v ∈ t, okv σ v) (A : Array Value) (hA : ∀ i, A.getD i undef = ren σ (t.getD i undef)) : ∀ (rs : List ResultVar) (vs : List Value), aresultList T t H rs = some vs →
    (rs.mapM (fun
      | .tmp i => pure (A.getD i undef)
      | .cell a ty => do loadVar ty (← asAddr (A.getD a undef))) : Sem (List Value)).run P w = .ok (vs.map (ren σ)) w ∧ ∀ v ∈ vs, okv σ v
  | [], vs, h => by simp only [aresultList,Option.some.injEq] at h; subst h; simp
  | .tmp i :: rs, vs, h => by
    simp only [aresultList] at h
    split at h
    · rename_i vs' hvs
      cases h
      obtain ⟨h1, h2⟩ := aresultList_ok hT r ht A hA rs vs' hvs
      refine ⟨?_, fun v hv => ?_⟩
      · rw [List.mapM_cons]
        simp only [Sem.run_bind,Sem.run_pure,Result.andThen_ok,h1,List.map_cons]
        rw [hA]
      · rcases List.mem_cons.1 hv with rfl | hv
        · by_cases hi : i < t.length
          · have : t.getD i undef = t[i] := by simp [List.getD, hi]
            rw [this]; exact ht _ (List.getElem_mem hi)
          · have : t.getD i undef = undef := by simp [List.getD, List.getElem?_eq_none (Nat.le_of_not_lt hi)]
            rw [this]; exact okv_undef σ
        · exact h2 v hv
    · cases h
  | .cell a ty :: rs, vs, h => by
    simp only [aresultList] at h
    split at h
    · rename_i ad vs' had hvs
      split at h
      · rename_i v hv
        cases h
        obtain ⟨h1, h2⟩ := aresultList_ok hT r ht A hA rs vs' hvs
        have hok : okv σ (.pointer (some ad)) := by
          by_cases hi : a < t.length
          · have e : t.getD a undef = t[a] := by simp [List.getD, hi]
            rw [← had, e]; exact ht _ (List.getElem_mem hi)
          · have e : t.getD a undef = undef := by simp [List.getD, List.getElem?_eq_none (Nat.le_of_not_lt hi)]
            rw [e] at had; cases had
        rw [okv] at hok
        obtain ⟨h3, h4⟩ := aRead_ok (P := P) hT r hok hv
        refine ⟨?_, fun u hu => ?_⟩
        · rw [List.mapM_cons]
          have e : asAddr (A.getD a undef) = pure (σ.addr ad) := by rw [hA, had]; simp [ren, asAddr]
          simp only [Sem.run_bind,e,Sem.run_pure,Result.andThen_ok,h3,h1,List.map_cons]
        · rcases List.mem_cons.1 hu with rfl | hu
          · exact h4
          · exact h2 u hu
      · cases h
    · cases h

theorem aresults_ok (hT : T.Fits P) {σ : Place} {t : List Value} {H : AHeap} {w : World} (r : Rel σ H w) (ht : ∀ v ∈ t, okv σ v) {fn : Func} {v : Value} (h : aresults T fn t H = some v) :
    (results fn (t.map (ren σ)).toArray).run P w = .ok (ren σ v) w ∧ okv σ v := by
  unfold aresults at h
  split at h
  · rename_i u hl
    cases h
    obtain ⟨h1, h2⟩ := aresultList_ok (P := P) hT r ht (t.map (ren σ)).toArray (fun i => tmp_eval i) _ _ hl
    refine ⟨?_, h2 v (by simp)⟩
    unfold results
    rw [Array.mapM_eq_mapM_toList]
    simp only [Sem.run_bind,Sem.run_map]
    refine Eq.trans (congrArg (fun (r : Result (List Value)) => (r.andThen fun a w' => Result.ok a.toArray w').andThen fun a w' => Sem.run P (pure (if h : a.size = 1 then a[0] else Value.tuple a)) w') h1) ?_
    simp
  · rename_i vs hne hl
    cases h
    obtain ⟨h1, h2⟩ := aresultList_ok (P := P) hT r ht (t.map (ren σ)).toArray (fun i => tmp_eval i) _ _ hl
    refine ⟨?_, by rw [okv]; exact fun v hv => h2 v (by simpa using hv)⟩
    unfold results
    rw [Array.mapM_eq_mapM_toList]
    simp only [Sem.run_bind,Sem.run_map]
    refine Eq.trans (congrArg (fun (r : Result (List Value)) => (r.andThen fun a w' => Result.ok a.toArray w').andThen fun a w' => Sem.run P (pure (if h : a.size = 1 then a[0] else Value.tuple a)) w') h1) ?_
    have hlen : vs.length ≠ 1 := by
      intro e
      match vs, e with
      | [x], _ => exact hne x rfl
    simp [hlen, ren]
  · cases h

/-! ### The end of a call -/
def atake : List Nat → AHeap → Option AHeap
  | [], H => some H
  | k :: ks, H => match H.get k with
    | .defer => atake ks (H.put k .dead)
    | _ => none

theorem putObj_size (w : World) (r : Nat) (o : Obj) : (w.putObj r o).heap.size = w.heap.size := World.putObj_size

theorem Rel.put {σ : Place} {H : AHeap} {w : World} {k b s m : Nat} (h : Rel σ H w) (hk : σ.at_ k = some (b, s)) (hal : (H.get k).al = some []) (o : Obj) (blk : ABlk)
    (hb : Holds σ (w.putObj b o) (σ.room k) b s blk) (hm : m ≤ k) : Rel σ (H.put k blk) (w.putObj b o) ∧ Ext σ H w σ (H.put k blk) (w.putObj b o) m := by
  have h1 := h.update hk hal (putObj_size w b o) (fun j hj => World.putObj_heap_other hj) blk hb
  have h2 := Ext.update (m := m) (al := []) h hk (putObj_size w b o) (fun j hj => World.putObj_heap_other hj) rfl rfl rfl blk hm (fun j hj => by simp at hj)
  exact ⟨h1, h2⟩

theorem leaves_ok (hT : T.Fits P) {F : Fence} {n : Nat} {fn : Func} {t : List Value} {σ : Place} {v : Value} {R : Ending → World → Prop} : ∀ (ds : List Nat) (H H' : AHeap) (w : World) (m : Nat), Rel σ H w →
    (∀ v ∈ t, okv σ v) → (∀ k ∈ ds, (σ.at_ k).isSome = true) → atake ds H = some H' → aresults T fn t H' = some v → m ≤ H.size → (∀ k ∈ ds, m ≤ k) →
    (∀ w', Rel σ H' w' → Ext σ H w σ H' w' m → R (.returned (ren σ v)) w') →
    LeavesInM F n P fn (t.map (ren σ)).toArray R (ds.map (mark σ)) .returning w
  | [], H, H', w, m, r, ht, _, hk, hres, hm, _, hK => by
    simp only [atake,Option.some.injEq] at hk
    subst hk
    obtain ⟨h1, h2⟩ := aresults_ok (P := P) hT r ht hres
    exact ⟨_, h1, hK w r ((Ext.refl r).weaken hm)⟩
  | k :: ks, H, H', w, m, r, ht, hpl, hk, hres, hm, hmk, hK => by
    simp only [atake] at hk
    split at hk
    · rename_i hg
      have hp := hpl k (by simp)
      obtain ⟨p, hp⟩ := Option.isSome_iff_exists.1 hp
      obtain ⟨b, s⟩ := p
      have hh := r.holds k b s hp
      rw [hg] at hh
      have hrun := run_takeDeferred (P := P) hh.2
      obtain ⟨r', x'⟩ := r.put hp (by rw [hg]; rfl) (.deferred none) .dead trivial (hmk k (by simp))
      refine ⟨by simp, .inl ⟨b, _, ?_, hrun, ?_⟩⟩
      · simp [mark, Place.blk, hp]
      · refine leaves_ok hT ks (H.put k .dead) H' _ m r' ht (fun j hj => hpl j (by simp [hj])) hk hres (by simpa using hm) (fun j hj => hmk j (by simp [hj])) ?_
        intro w' h1 h2
        have := x'.trans h2
        rw [Nat.min_self] at this
        exact hK w' h1 this
    · cases hk

def startT (fn : Func) (args : List Value) : List Value := args ++ List.replicate (fn.ntmps - args.length) undef

theorem SCall.of_code (hT : T.Fits P) {f : FuncId} {fn : Func} {c : Code} {args : List Value} {H : AHeap} {e : Exit} {s' : St} {m m' : Nat} {H' : AHeap} {v : Value} (hf : HasCode P f fn c)
    (h : SCode P none c ⟨startT fn args, H, []⟩ e s' m) (he : e = .normal ∨ e = .ret) (hk : atake s'.ds s'.H = some H') (hres : aresults T fn s'.t H' = some v) (hm : m' ≤ m) (hms : m' ≤ s'.H.size) (hmk : ∀ k ∈ s'.ds, m' ≤ k) :
    SCall P f args H v H' m' := by
  intro F n σ w hF hR hargs
  have hF0 : Free F.plain := ⟨hF.1, hF.2⟩
  refine (show CallsIn F.plain n P f _ w _ from ?_)
  refine callsIn_of_wp_marks hf.get hf.body (hF.1 f) (wpIn_mono (h F.plain n σ w _ hF0 ⟨rfl, fun l hl => by cases hl⟩ hR ?_) ?_) rfl
  · refine ⟨?_, fun v hv => ?_, rfl, fun k hk => by simp at hk⟩
    · simp only [startT,List.map_append,List.map_replicate,ren_undef]
      apply Array.ext'; simp
    · simp only [startT] at hv
      rcases List.mem_append.1 hv with hv | hv
      · exact hargs v hv
      · rw [List.eq_of_mem_replicate hv]; exact okv_undef σ
  · rintro e' a' w' ⟨rfl, σ', h1, h2, h3⟩
    have key : LeavesInM F.plain n P fn a'.tmps (fun e w' => ∃ σ', e = .returned (ren σ' v) ∧ okv σ' v ∧ Rel σ' H' w' ∧ Ext σ H w σ' H' w' m') a'.defers .returning w' := by
      rw [h1.tmps, h1.ds]
      refine leaves_ok hT s'.ds s'.H H' w' m' h2 h1.ok h1.dok hk hres hms hmk ?_
      intro w'' k1 k2
      refine ⟨σ', rfl, (aresults_ok (P := P) hT k1 h1.ok hres).2, k1, ?_⟩
      have := (h3.weaken hm).trans k2
      rwa [Nat.min_self] at this
    rcases he with rfl | rfl
    · exact key
    · exact key

/-! ### What is quiet leaves the old heap as it was -/
theorem Rel.quiet {σ σ' : Place} {H H' : AHeap} {w w' : World} {m : Nat} (r : Rel σ H w) (x : Ext σ H w σ' H' w' m) (hm : H.size ≤ m) :
    Rel σ H w' ∧ Ext σ H w σ H w' H.size ∧ ∀ b, b < w.heap.size → w'.heap[b]? = w.heap[b]? := by
  have hf : ∀ b, b < w.heap.size → w'.heap[b]? = w.heap[b]? := fun b hb => x.frame b hb fun k s hk hp => by
    have := (r.lt k b s hp).1; omega
  refine ⟨⟨fun k b s hp => ?_, fun k b s hp => ?_, r.excl⟩, ⟨fun _ _ => ⟨rfl, rfl⟩, Nat.le_refl _, x.wsize, x.os, x.tape, x.output, fun _ _ _ => rfl, fun b hb _ => hf b hb, fun k b s hk hp => ?_⟩, hf⟩
  · have := r.lt k b s hp; have := x.wsize; omega
  · exact (r.holds k b s hp).agree (Agree.refl σ) (hf b (r.lt k b s hp).2)
  · have := (r.lt k b s hp).1; omega

theorem SCall.gc {f : FuncId} {args : List Value} {H H' : AHeap} {v : Value} {m : Nat} (h : SCall P f args H v H' m) (hm : H.size ≤ m) (hv : gr v = true) : SCall P f args H v H H.size := by
  intro F n σ w hF hR hargs
  refine (h F n σ w hF hR hargs).mono ?_
  rintro e w' ⟨σ', rfl, h1, h2, h3⟩
  obtain ⟨k1, k2, _⟩ := hR.quiet h3 hm
  obtain ⟨g1, g2⟩ := gr_ok σ hv
  exact ⟨σ, by rw [(gr_ok σ' hv).2, g2], g1, k1, k2⟩

theorem SCall.weaken {f : FuncId} {args : List Value} {H H' : AHeap} {v : Value} {m m' : Nat} (h : SCall P f args H v H' m) (hm : m' ≤ m) : SCall P f args H v H' m' :=
  fun F n σ w hF hR hargs => (h F n σ w hF hR hargs).mono fun _ _ ⟨σ', h1, h2, h3, h4⟩ => ⟨σ', h1, h2, h3, h4.weaken hm⟩

/-! ### Rounds -/
def zipSet : List Value → List (Tmp × Value) → List Value
  | t, [] => t
  | t, (p, a) :: r => zipSet (t.set p a) r

theorem zipSet_ok {σ : Place} : ∀ (l : List (Tmp × Value)) (t : List Value), (∀ v ∈ t, okv σ v) → (∀ p ∈ l, okv σ p.2) →
    (∀ v ∈ zipSet t l, okv σ v) ∧ (l.map fun p => (p.1, ren σ p.2)).foldl (fun tmps (t, a) => tmps.setIfInBounds t a) (t.map (ren σ)).toArray = ((zipSet t l).map (ren σ)).toArray
  | [], t, ht, _ => ⟨ht, rfl⟩
  | (p, a) :: r, t, ht, hl => by
    have := zipSet_ok r (t.set p a) (fun v hv => by
      rcases List.mem_or_eq_of_mem_set hv with hv | rfl
      · exact ht v hv
      · exact hl (p, v) (by simp)) (fun q hq => hl q (by simp [hq]))
    refine ⟨this.1, ?_⟩
    simp only [zipSet,List.map_cons,List.foldl_cons]
    rw [← this.2]
    congr 1
    simp [List.map_set]

def jumpOf : Exit → Option (Option Code)
  | .normal => some none
  | .ret => some (some .ret)
  | .exit id => some (some (.exit id))
  | _ => none

theorem Rel.loopAt {σ : Place} {H : AHeap} {w : World} (r : Rel σ H w) {l : Nat} {st : LoopState} {pend : Option Code} {t : List Value} {ps : Array Tmp} {assign body : Code} {d : Nat} (hl : (σ.at_ l).isSome = true)
    (hg : H.get l = .loop st pend t ps assign body d) : σ.at_ l = some (σ.blk l, 0) ∧ (∀ v ∈ t, okv σ v) ∧ (σ.at_ d).isSome = true ∧ ∃ fn,
      w.heap[σ.blk l]? = some (.loop { state := st, pending := pend, fn, tmps := (t.map (ren σ)).toArray, params := ps, assign, body, defers := σ.blk d }) := by
  obtain ⟨p, hp⟩ := Option.isSome_iff_exists.1 hl
  obtain ⟨b, s⟩ := p
  have hh := r.holds l b s hp
  rw [hg] at hh
  obtain ⟨h0, h1, h2, fn, h3⟩ := hh
  subst h0
  have hb : σ.blk l = b := by simp [Place.blk, hp]
  rw [hb]
  exact ⟨hp, h1, h2, fn, h3⟩

theorem Rel.setLoop {σ : Place} {H : AHeap} {w : World} (r : Rel σ H w) {l : Nat} {st st' : LoopState} {pend pend' : Option Code} {t : List Value} {ps : Array Tmp} {assign body : Code} {d m : Nat} (hl : (σ.at_ l).isSome = true)
    (hg : H.get l = .loop st pend t ps assign body d) (hm : m ≤ l) {fn : FuncId} {rec : Loop}
    (hrec : rec = { state := st', pending := pend', fn, tmps := (t.map (ren σ)).toArray, params := ps, assign, body, defers := σ.blk d }) :
    Rel σ (H.put l (.loop st' pend' t ps assign body d)) (w.putObj (σ.blk l) (.loop rec)) ∧ Ext σ H w σ (H.put l (.loop st' pend' t ps assign body d)) (w.putObj (σ.blk l) (.loop rec)) m := by
  obtain ⟨h1, h2, h3, _, _⟩ := r.loopAt hl hg
  subst hrec
  refine r.put h1 (by rw [hg]; rfl) _ _ ⟨rfl, h2, h3, fn, World.putObj_heap_same (r.lt _ _ _ h1).2⟩ hm

theorem SYield.of_code {l : Nat} {args : List Value} {H : AHeap} {pend : Option Code} {t : List Value} {ps : Array Tmp} {assign body : Code} {d : Nat} {s₁ s₂ : St} {m₁ m₂ : Nat} {e : Exit} {jump : Option Code}
    {pend₁ : Option Code} {t₁ : List Value} {ps₁ : Array Tmp} {as₁ bd₁ : Code} {d₁ : Nat} {st₂ : LoopState} {pend₂ : Option Code} {t₂ : List Value} {ps₂ : Array Tmp} {as₂ bd₂ : Code} {d₂ : Nat}
    (hg : H.get l = .loop .ready pend t ps assign body d) (hlen : args.length = ps.size)
    (hA : SCode P (some l) assign ⟨zipSet t (ps.toList.zip args), H, []⟩ .normal s₁ m₁)
    (hg₁ : s₁.H.get l = .loop .ready pend₁ t₁ ps₁ as₁ bd₁ d₁)
    (hB : SCode P (some l) body ⟨s₁.t, s₁.H.put l (.loop .busy pend₁ t₁ ps₁ as₁ bd₁ d₁), s₁.ds⟩ e s₂ m₂)
    (hg₂ : s₂.H.get l = .loop st₂ pend₂ t₂ ps₂ as₂ bd₂ d₂) (hj : jumpOf e = some jump) :
    SYield P l args H (.bool jump.isNone) (s₂.H.put l (.loop (if jump.isNone then .ready else .done) jump t₂ ps₂ as₂ bd₂ d₂)) (min (min m₁ l) (min m₂ l)) := by
  intro F n σ w hF hR hargs hl
  obtain ⟨h1, h2, h3, fn, h4⟩ := hR.loopAt hl hg
  refine ⟨fn, _, assign, body, run_yield h4 (by simpa using hlen), ?_⟩
  refine roundIn_of_wpIn (hF.1 fn) ?_
  have hFr : Free (F.inRound (σ.blk l)) := hF.inRound _
  have hzip : (ps.zip (args.map (ren σ)).toArray).foldl (fun tmps (t, a) => tmps.setIfInBounds t a) (t.map (ren σ)).toArray = ((zipSet t (ps.toList.zip args)).map (ren σ)).toArray := by
    rw [← (zipSet_ok (ps.toList.zip args) t h2 (fun p hp => hargs p.2 (List.of_mem_zip hp).2)).2]
    rw [← Array.foldl_toList]
    congr 1
    rw [Array.toList_zip]
    simp [List.zip_map_right, Prod.map]
  have hA0 : ActRel σ ⟨zipSet t (ps.toList.zip args), H, []⟩ { tmps := (ps.zip (args.map (ren σ)).toArray).foldl (fun tmps (t, a) => tmps.setIfInBounds t a) (t.map (ren σ)).toArray, defers := [] } :=
    ⟨hzip, (zipSet_ok (ps.toList.zip args) t h2 (fun p hp => hargs p.2 (List.of_mem_zip hp).2)).1, rfl, fun k hk => by simp at hk⟩
  refine wpIn_mono (hA (F.inRound (σ.blk l)) n σ w _ hFr ⟨rfl, fun l' hl' => by cases hl'; exact hl⟩ hR hA0) ?_
  rintro e' a' w' ⟨rfl, σ₁, k1, k2, k3⟩
  have ag := k3.agr hR
  have hl₁ := ag.placed hl
  have hbl : σ₁.blk l = σ.blk l := ag.blk hl
  obtain ⟨_, j2, j3, fn₁, j4⟩ := k2.loopAt hl₁ hg₁
  rw [hbl] at j4
  obtain ⟨r₂, x₂⟩ := k2.setLoop (st' := .busy) (pend' := pend₁) hl₁ hg₁ (Nat.le_refl l) (fn := fn₁) rfl
  rw [hbl] at r₂ x₂
  refine ⟨_, run_beginRound j4 rfl, ?_⟩
  have hA1 : ActRel σ₁ ⟨s₁.t, s₁.H.put l (.loop .busy pend₁ t₁ ps₁ as₁ bd₁ d₁), s₁.ds⟩ a' := ⟨k1.tmps, k1.ok, k1.ds, k1.dok⟩
  have hin : InR (some l) σ₁ (F.inRound (σ.blk l)) := ⟨by simp [Fence.inRound, hbl], fun l' hl' => by cases hl'; exact hl₁⟩
  refine wpIn_mono (hB (F.inRound (σ.blk l)) n σ₁ _ a' hFr hin r₂ hA1) ?_
  rintro e₂ a₂ w₂ ⟨rfl, σ₂, q1, q2, q3⟩
  have ag₂ := q3.agr r₂
  have hl₂ := ag₂.placed hl₁
  have hbl₂ : σ₂.blk l = σ.blk l := (ag₂.blk hl₁).trans hbl
  obtain ⟨_, _, _, fn₂, u4⟩ := q2.loopAt hl₂ hg₂
  rw [hbl₂] at u4
  have hend := run_endRound (P := P) jump u4
  obtain ⟨r₃, x₃⟩ := q2.setLoop (st' := if jump.isNone then .ready else .done) (pend' := jump) hl₂ hg₂ (Nat.le_refl l) (fn := fn₂) rfl
  rw [hbl₂] at r₃ x₃
  have fin : ∃ σ', Ending.returned (.bool jump.isNone) = .returned (ren σ' (.bool jump.isNone)) ∧ okv σ' (.bool jump.isNone) ∧ Rel σ' (s₂.H.put l (.loop (if jump.isNone then .ready else .done) jump t₂ ps₂ as₂ bd₂ d₂)) (w₂.putObj (σ.blk l) (.loop { state := if jump.isNone then .ready else .done, pending := jump, fn := fn₂, tmps := (t₂.map (ren σ₂)).toArray, params := ps₂, assign := as₂, body := bd₂, defers := σ₂.blk d₂ })) ∧
      Ext σ H w σ' (s₂.H.put l (.loop (if jump.isNone then .ready else .done) jump t₂ ps₂ as₂ bd₂ d₂)) (w₂.putObj (σ.blk l) (.loop { state := if jump.isNone then .ready else .done, pending := jump, fn := fn₂, tmps := (t₂.map (ren σ₂)).toArray, params := ps₂, assign := as₂, body := bd₂, defers := σ₂.blk d₂ })) (min (min m₁ l) (min m₂ l)) :=
    ⟨σ₂, by simp [ren], by simp [okv], r₃, (k3.trans x₂).trans (q3.trans x₃)⟩
  cases e₂ with
  | normal => simp only [jumpOf,Option.some.injEq] at hj; subst hj; exact ⟨_, _, hend, fin⟩
  | ret => simp only [jumpOf,Option.some.injEq] at hj; subst hj; exact ⟨_, _, hend, fin⟩
  | exit id => simp only [jumpOf,Option.some.injEq] at hj; subst hj; exact ⟨_, _, hend, fin⟩
  | goto t => cases hj
  | panic c => cases hj
  | outgrown => cases hj

end Go.Am
/- A loop over a function. -/
namespace Go.Am
variable {T : Tab} {P : Program}

theorem run_enterLoop_inner (fn : FuncId) (tmps : Array Value) (ps : Array Tmp) (assign body : Code) {w : World} {l : Nat} {r : Loop} (h : w.heap[l]? = some (.loop r)) :
    (Instr.enterLoop fn tmps ps assign body (some l)).run P w =
      .ok (w.heap.size, []) (w.alloc (.loop { state := .ready, pending := none, fn, tmps, params := ps, assign, body, defers := r.defers })) := by
  unfold Instr.enterLoop
  simp only [Sem.run_bind,run_getLoop h,run_newObj_alloc,Result.andThen,Sem.run_pure]

theorem blk_add_same (σ : Place) (k b r : Nat) : (σ.add k b r).blk k = b := by simp [Place.blk, Place.add]

def yieldV (l : Nat) : Value := .func (.yield l) #[] #[]
theorem ren_yieldV (σ : Place) (l : Nat) : ren σ (yieldV l) = .func (.yield (σ.blk l)) #[] #[] := by simp [yieldV, ren, Place.fn]
theorem okv_yieldV {σ : Place} {l : Nat} (h : (σ.at_ l).isSome = true) : okv σ (yieldV l) := by
  rw [yieldV, okv]
  exact ⟨h, fun v hv => by simp at hv, fun v hv => by simp at hv⟩

/-- What follows on the loop: nothing, or the jump that a round has left. -/
def SPend (P : Program) (r : Option Nat) (pend : Option Code) (s : St) (e : Exit) (s' : St) (m : Nat) : Prop :=
  match pend with
  | none => e = .normal ∧ s' = s ∧ m = s.H.size
  | some c => SCode P r c s e s' m

/-- What is the same in a frame of its own and in a round: the call, and what follows on it. -/
theorem range_core {F : Fence} {n : Nat} {r : Option Nat} {g : Operand} {f : FuncId} {fn : Func} {c : Code} {first captured : Array Value} {s : St} {σ σ₁ : Place} {w w₁ : World} {a : Act} {H₁ H₂ : AHeap} {L : Nat} {v : Value} {m₀ m₁ m₂ : Nat}
    {st : LoopState} {pend : Option Code} {t' : List Value} {ps' : Array Tmp} {as' bd' : Code} {d' : Nat} {e : Exit} {s' : St} {ds₁ : List Nat} {mk : List Deferred}
    (hF : Free F) (hr : InR r σ F) (hR : Rel σ s.H w) (hA : ActRel σ s a)
    (hg : aval s.t g = some (.func (.func f) first captured)) (hf : HasCode P f fn c)
    (r₁ : Rel σ₁ H₁ w₁) (x₁ : Ext σ s.H w σ₁ H₁ w₁ m₀) (hL : (σ₁.at_ L).isSome = true)
    (hmk : mk ++ a.defers = ds₁.map (mark σ₁)) (hds : ∀ k ∈ ds₁, (σ₁.at_ k).isSome = true)
    (hcall : SCall P f (first.toList ++ [yieldV L] ++ captured.toList) H₁ v H₂ m₁)
    (hg₂ : H₂.get L = .loop st pend t' ps' as' bd' d') (hst : st ≠ .busy)
    (hp : SPend P r pend ⟨s.t, H₂.put L (.loop .exhausted pend t' ps' as' bd' d'), ds₁⟩ e s' m₂) :
    ∃ (d : Deferred) (w₁' : World) (f' : FuncId) (args : Array Value) (w₂ : World),
      (resolve a.eval (rangeCall g (σ₁.blk L)) 0).run P w₁ = .ok d w₁' ∧
      (∀ f', Target.leads P w₁' d.target d.args = some f' → F.fn f') ∧
      (invoke d.target d.args).run P w₁' = .ok (.enter f' args) w₂ ∧
      (F.depth.isSome = true → 1 ≤ n) ∧
      CallsIn F (n - 1) P f' args w₂ (rangePost F n P (σ₁.blk L) (SPost σ s w e s' (min (min m₀ m₁) (min L m₂))) { a with defers := mk ++ a.defers }) := by
  obtain ⟨h1, h2⟩ := hA.evals g _ hg
  rw [okv] at h2
  simp only [ren,Place.fn] at h1
  have ag := x₁.agr hR
  have hargs : ∀ x ∈ first.toList ++ [yieldV L] ++ captured.toList, okv σ₁ x := by
    intro x hx
    rcases List.mem_append.1 hx with hx | hx
    · rcases List.mem_append.1 hx with hx | hx
      · exact ag.okv (h2.2.1 x (by simpa using hx))
      · rw [List.mem_singleton.1 hx]; exact okv_yieldV hL
    · exact ag.okv (h2.2.2 x (by simpa using hx))
  have e1 : first.map (ren σ₁) = first.map (ren σ) := Array.map_congr_left fun v hv => ag.ren (h2.2.1 v hv)
  have e2 : captured.map (ren σ₁) = captured.map (ren σ) := Array.map_congr_left fun v hv => ag.ren (h2.2.2 v hv)
  refine ⟨{ target := .fn (.func f) (captured.map (ren σ)), args := first.map (ren σ) ++ #[.func (.yield (σ₁.blk L)) #[] #[]] }, w₁, f, ((first.toList ++ [yieldV L] ++ captured.toList).map (ren σ₁)).toArray, w₁, ?_, fun f' _ => hF.1 f', ?_, hF.depth, ?_⟩
  · have hcst : a.eval (.const (.func (.yield (σ₁.blk L)) #[] #[])) = .func (.yield (σ₁.blk L)) #[] #[] := rfl
    simp [resolve, h1, Deferred.ofValue, hcst]
  · simp only [invoke]
    rw [hf.enter]
    congr 2
    apply Array.ext'
    simp only [List.map_append,List.map_cons,List.map_nil,ren_yieldV,Array.toList_append,← e1,← e2]
    simp
  · refine (hcall F (n - 1) σ₁ w₁ hF r₁ hargs).mono ?_
    rintro e' w₃ ⟨σ₂, rfl, k1, k2, k3⟩
    have ag₂ := k3.agr r₁
    have hL₂ := ag₂.placed hL
    have hbl : σ₂.blk L = σ₁.blk L := ag₂.blk hL
    obtain ⟨_, _, _, fn₂, u4⟩ := k2.loopAt hL₂ hg₂
    rw [hbl] at u4
    have hend := run_endLoop (P := P) u4 hst
    obtain ⟨r₃, x₃⟩ := k2.setLoop (st' := .exhausted) (pend' := pend) hL₂ hg₂ (Nat.le_refl L) (fn := fn₂) rfl
    rw [hbl] at r₃ x₃
    refine ⟨pend, _, hend, ?_⟩
    have agA : Agree σ σ₂ := ag.trans ag₂
    have hact : ActRel σ₂ ⟨s.t, H₂.put L (.loop .exhausted pend t' ps' as' bd' d'), ds₁⟩ { a with defers := mk ++ a.defers } := by
      refine ⟨?_, fun v hv => agA.okv (hA.ok v hv), ?_, fun k hk => ag₂.placed (hds k hk)⟩
      · show a.tmps = _
        rw [hA.tmps, agA.map hA.ok]
      · show mk ++ a.defers = _
        rw [hmk]
        exact List.map_congr_left fun k hk => by simp [mark, ag₂.blk (hds k hk)]
    have hx : Ext σ s.H w σ₂ (H₂.put L (.loop .exhausted pend t' ps' as' bd' d')) _ (min (min m₀ m₁) L) := (x₁.trans k3).trans x₃
    cases pend with
    | none =>
      obtain ⟨rfl, rfl, rfl⟩ := hp
      refine ⟨rfl, σ₂, hact, r₃, hx.weaken ?_⟩
      omega
    | some cj =>
      refine wpIn_mono (hp F n σ₂ _ _ hF (hr.agree agA) r₃ hact) ?_
      intro e' a' w' hq
      have := SPost.trans (s := s) (s₁ := ⟨s.t, H₂.put L (.loop .exhausted (some cj) t' ps' as' bd' d'), ds₁⟩) hx hq
      exact this.weaken (by omega)

theorem SCode.rangeFunc_outer {g : Operand} {ps : Array Tmp} {assign body : Code} {f : FuncId} {fn : Func} {c : Code} {first captured : Array Value} {s : St} {H₂ : AHeap} {v : Value} {m₁ m₂ : Nat}
    {st : LoopState} {pend : Option Code} {t' : List Value} {ps' : Array Tmp} {as' bd' : Code} {d' : Nat} {e : Exit} {s' : St}
    (hg : aval s.t g = some (.func (.func f) first captured)) (hf : HasCode P f fn c)
    (hcall : SCall P f (first.toList ++ [yieldV (s.H.size + 1)] ++ captured.toList) ((s.H.alloc .defer).alloc (.loop .ready none s.t ps assign body s.H.size)) v H₂ m₁)
    (hg₂ : H₂.get (s.H.size + 1) = .loop st pend t' ps' as' bd' d') (hst : st ≠ .busy)
    (hp : SPend P none pend ⟨s.t, H₂.put (s.H.size + 1) (.loop .exhausted pend t' ps' as' bd' d'), s.H.size :: s.ds⟩ e s' m₂) :
    SCode P none (.rangeFunc g ps assign body) s e s' (min (min s.H.size m₁) (min (s.H.size + 1) m₂)) := by
  intro F n σ w a hF hr hR hA
  refine wpIn_rangeFunc fun fn' _ => ?_
  have hro : F.round = none := hr.1
  rw [hro]
  have ra := hR.alloc (.deferred (some [])) .defer 0 ⟨rfl, World.alloc_heap_new w _⟩ (.inr ⟨[], rfl⟩)
  have xa := Ext.alloc hR (.deferred (some [])) .defer 0
  have aga := hR.agree_add w.heap.size 0
  have hsz : (s.H.alloc .defer).size = s.H.size + 1 := AHeap.size_alloc _ _
  have hwz : (w.alloc (.deferred (some []))).heap.size = w.heap.size + 1 := by simp
  have hpl : ((σ.add s.H.size w.heap.size 0).at_ s.H.size).isSome = true := by rw [Place.add_same]; rfl
  have agb := ra.agree_add (w.heap.size + 1) 0
  rw [hsz] at agb
  have rb := ra.alloc (.loop { state := .ready, pending := none, fn := fn', tmps := a.tmps, params := ps, assign, body, defers := w.heap.size }) (.loop .ready none s.t ps assign body s.H.size) 0 (by
    rw [hwz, hsz]
    refine ⟨rfl, fun v hv => agb.okv (aga.okv (hA.ok v hv)), agb.placed hpl, fn', ?_⟩
    have e0 := World.alloc_heap_new (w.alloc (.deferred (some []))) (.loop { state := .ready, pending := none, fn := fn', tmps := a.tmps, params := ps, assign, body, defers := w.heap.size })
    rw [hwz] at e0
    rw [e0, hA.tmps, agb.map (fun v hv => aga.okv (hA.ok v hv)), aga.map hA.ok, agb.blk hpl, blk_add_same]) (.inr ⟨[], rfl⟩)
  have xb := Ext.alloc ra (.loop { state := .ready, pending := none, fn := fn', tmps := a.tmps, params := ps, assign, body, defers := w.heap.size }) (.loop .ready none s.t ps assign body s.H.size) 0
  rw [hwz, hsz] at rb xb
  have xx := (xa.trans xb).weaken (m' := s.H.size) (by omega)
  have hL : (((σ.add s.H.size w.heap.size 0).add (s.H.size + 1) (w.heap.size + 1) 0).at_ (s.H.size + 1)).isSome = true := by rw [Place.add_same]; rfl
  have hbL : ((σ.add s.H.size w.heap.size 0).add (s.H.size + 1) (w.heap.size + 1) 0).blk (s.H.size + 1) = w.heap.size + 1 := blk_add_same _ _ _ _
  have hds : ∀ k ∈ s.H.size :: s.ds, (((σ.add s.H.size w.heap.size 0).add (s.H.size + 1) (w.heap.size + 1) 0).at_ k).isSome = true := by
    intro k hk
    rcases List.mem_cons.1 hk with rfl | hk
    · exact agb.placed hpl
    · exact agb.placed (aga.placed (hA.dok k hk))
  have hmk : [({ target := .collected w.heap.size, args := #[] } : Deferred)] ++ a.defers = (s.H.size :: s.ds).map (mark ((σ.add s.H.size w.heap.size 0).add (s.H.size + 1) (w.heap.size + 1) 0)) := by
    simp only [List.map_cons,List.singleton_append]
    congr 1
    · simp only [mark,agb.blk hpl,blk_add_same]
    · rw [hA.ds]
      exact List.map_congr_left fun k hk => by simp only [mark,agb.blk (aga.placed (hA.dok k hk)),aga.blk (hA.dok k hk)]
  obtain ⟨d, w₁', f', args, w₂, q1, q2, q3, q4, q5⟩ := range_core (n := n) hF hr hR hA hg hf rb xx hL hmk hds hcall hg₂ hst hp
  rw [hbL] at q1 q5
  exact ⟨w.heap.size + 1, _, _, d, w₁', f', args, w₂, run_enterLoop_outer fn' a.tmps ps assign body, q1, q2, q3, q4, q5⟩

theorem SCode.rangeFunc_inner {l : Nat} {g : Operand} {ps : Array Tmp} {assign body : Code} {f : FuncId} {fn : Func} {c : Code} {first captured : Array Value} {s : St} {H₂ : AHeap} {v : Value} {m₁ m₂ : Nat}
    {st₀ : LoopState} {pend₀ : Option Code} {t₀ : List Value} {ps₀ : Array Tmp} {as₀ bd₀ : Code} {d₀ : Nat}
    {st : LoopState} {pend : Option Code} {t' : List Value} {ps' : Array Tmp} {as' bd' : Code} {d' : Nat} {e : Exit} {s' : St}
    (hg₀ : s.H.get l = .loop st₀ pend₀ t₀ ps₀ as₀ bd₀ d₀)
    (hg : aval s.t g = some (.func (.func f) first captured)) (hf : HasCode P f fn c)
    (hcall : SCall P f (first.toList ++ [yieldV s.H.size] ++ captured.toList) (s.H.alloc (.loop .ready none s.t ps assign body d₀)) v H₂ m₁)
    (hg₂ : H₂.get s.H.size = .loop st pend t' ps' as' bd' d') (hst : st ≠ .busy)
    (hp : SPend P (some l) pend ⟨s.t, H₂.put s.H.size (.loop .exhausted pend t' ps' as' bd' d'), s.ds⟩ e s' m₂) :
    SCode P (some l) (.rangeFunc g ps assign body) s e s' (min (min s.H.size m₁) (min s.H.size m₂)) := by
  intro F n σ w a hF hr hR hA
  refine wpIn_rangeFunc fun fn' _ => ?_
  have hro : F.round = some (σ.blk l) := hr.1
  have hl := hr.2 l rfl
  obtain ⟨_, _, hd₀, fn₀, hw₀⟩ := hR.loopAt hl hg₀
  have aga := hR.agree_add w.heap.size 0
  have rb := hR.alloc (.loop { state := .ready, pending := none, fn := fn', tmps := a.tmps, params := ps, assign, body, defers := σ.blk d₀ }) (.loop .ready none s.t ps assign body d₀) 0 (by
    refine ⟨rfl, fun v hv => aga.okv (hA.ok v hv), aga.placed hd₀, fn', ?_⟩
    rw [World.alloc_heap_new, hA.tmps, aga.map hA.ok, aga.blk hd₀]) (.inr ⟨[], rfl⟩)
  have xb := Ext.alloc hR (.loop { state := .ready, pending := none, fn := fn', tmps := a.tmps, params := ps, assign, body, defers := σ.blk d₀ }) (.loop .ready none s.t ps assign body d₀) 0
  have hL : ((σ.add s.H.size w.heap.size 0).at_ s.H.size).isSome = true := by rw [Place.add_same]; rfl
  have hmk : ([] : List Deferred) ++ a.defers = s.ds.map (mark (σ.add s.H.size w.heap.size 0)) := by
    rw [List.nil_append, hA.ds]
    exact List.map_congr_left fun k hk => by simp only [mark,aga.blk (hA.dok k hk)]
  obtain ⟨d, w₁', f', args, w₂, q1, q2, q3, q4, q5⟩ := range_core (n := n) hF hr hR hA hg hf rb xb hL hmk (fun k hk => aga.placed (hA.dok k hk)) hcall hg₂ hst hp
  rw [blk_add_same] at q1 q5
  rw [hro]
  exact ⟨w.heap.size, _, _, d, w₁', f', args, w₂, run_enterLoop_inner fn' a.tmps ps assign body hw₀, q1, q2, q3, q4, q5⟩

end Go.Am
