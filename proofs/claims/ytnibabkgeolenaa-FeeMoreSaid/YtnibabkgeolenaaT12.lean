/- Loops over functions, and their rounds. -/
import Derived.Test.YtnibabkgeolenaaT11
import Derived.Test.YtnibabkgeolenaaT10
set_option linter.unusedSimpArgs false
set_option linter.unusedVariables false
namespace Go.Am
variable {α : Type} {T : Tab} {P : Program} {N n L : Nat} {r : Option Nat} {e : VT} {H : AHeap} {ds : List Nat}

def rangeK (l : Nat) (Q : AHeap → Prop) (H₂ : AHeap) : Prop := ∃ st t ps as' bd d, st ≠ .busy ∧ H₂.get l = .loop st none t ps as' bd d ∧ Q (H₂.put l (.loop .exhausted none t ps as' bd d))
theorem W_range {g : Operand} {ps : Array Tmp} {assign body : Code} {f : FuncId} {first cap : List Value} {Q : Exit → ES → Prop} (hg : aenv n e g = some (.func (.func f) ⟨first⟩ ⟨cap⟩)) (hL : L ≤ H.size)
    (h : resK (acall T (aexec T P N) f (first ++ [yieldV (H.size + 1)] ++ cap) ((H.alloc .defer).alloc (.loop .ready none (lst n e) ps assign body H.size))) L fun _ _ H₂ => rangeK (H.size + 1) (fun H₃ => Q .normal ⟨n, e, H₃, H.size :: ds⟩) H₂) :
    W T P (N + 1) none (.rangeFunc g ps assign body) L ⟨n, e, H, ds⟩ Q := by
  unfold W
  have hx : aexec T P (N + 1) none (.rangeFunc g ps assign body) ⟨n, e, H, ds⟩ = (match acall T (aexec T P N) f (first ++ [yieldV (H.size + 1)] ++ cap) ((H.alloc .defer).alloc (.loop .ready none (lst n e) ps assign body H.size)) with
      | some (_, _, H₂, m₁) => aendLoop (aexec T P N) none (H.size + 1) n e H₂ (H.size :: ds) (min H.size m₁)
      | none => none) := by
    show (match aenv n e g with
      | some (.func (.func f) first captured) => match acall T (aexec T P N) f (first.toList ++ [yieldV (H.size + 1)] ++ captured.toList) ((H.alloc .defer).alloc (.loop .ready none (lst n e) ps assign body H.size)) with
          | some (_, _, H₂, m₁) => aendLoop (aexec T P N) none (H.size + 1) n e H₂ (H.size :: ds) (min H.size m₁)
          | none => none
      | _ => none) = _
    rw [hg]
  rw [hx]
  unfold resK at h
  cases ha : acall T (aexec T P N) f (first ++ [yieldV (H.size + 1)] ++ cap) ((H.alloc .defer).alloc (.loop .ready none (lst n e) ps assign body H.size)) with
  | none => rw [ha] at h; exact h.elim
  | some p =>
    obtain ⟨b, v, H₂, m⟩ := p
    rw [ha] at h
    obtain ⟨h1, st, t, ps', as', bd, d, hst, hget, hq⟩ := h
    simp only [aendLoop,hget]
    cases st with
    | busy => exact absurd rfl hst
    | _ => exact ⟨by omega, hq⟩

def endY (l : Nat) (Q : Bool → Value → AHeap → Prop) (x : Exit) (s : ES) : Prop := ∃ jump, jumpOf x = some jump ∧ ∃ st p t ps as' bd d, s.H.get l = .loop st p t ps as' bd d ∧ Q false (.bool jump.isNone) (s.H.put l (.loop (if jump.isNone then .ready else .done) jump t ps as' bd d))
theorem endY_normal {l : Nat} {Q : Bool → Value → AHeap → Prop} {st : LoopState} {p : Option Code} {t : List Value} {ps : Array Tmp} {as' bd : Code} {d : Nat} (hg : H.get l = .loop st p t ps as' bd d) (hq : Q false (.bool true) (H.put l (.loop .ready none t ps as' bd d))) : endY l Q .normal ⟨n, e, H, ds⟩ :=
  ⟨none, rfl, st, p, t, ps, as', bd, d, hg, hq⟩
def midY (T : Tab) (P : Program) (N l L : Nat) (body : Code) (Q : Bool → Value → AHeap → Prop) (x : Exit) (s : ES) : Prop := x = .normal ∧ ∃ p t ps as' bd d, s.H.get l = .loop .ready p t ps as' bd d ∧ W T P N (some l) body L ⟨s.n, s.e, s.H.put l (.loop .busy p t ps as' bd d), s.ds⟩ (endY l Q)
theorem midY_normal {l : Nat} {body : Code} {Q : Bool → Value → AHeap → Prop} {p : Option Code} {t : List Value} {ps : Array Tmp} {as' bd : Code} {d : Nat} (hg : H.get l = .loop .ready p t ps as' bd d) (hw : W T P N (some l) body L ⟨n, e, H.put l (.loop .busy p t ps as' bd d), ds⟩ (endY l Q)) : midY T P N l L body Q .normal ⟨n, e, H, ds⟩ :=
  ⟨rfl, p, t, ps, as', bd, d, hg, hw⟩
theorem yield_run {l : Nat} {args t : List Value} {ps : Array Tmp} {assign body : Code} {d : Nat} {p : Option Code} {Q : Bool → Value → AHeap → Prop} (hg : H.get l = .loop .ready p t ps assign body d) (hlen : args.length = ps.size) (hL : L ≤ l)
    (hw : W T P N (some l) assign L ⟨(zipSet t (ps.toList.zip args)).length, env (zipSet t (ps.toList.zip args)) 0 .nil, H, []⟩ (midY T P N l L body Q)) : resK (ayield (aexec T P N) l args H) L Q := by
  unfold resK ayield
  rw [hg]
  simp only
  rw [show Nat.beq args.length ps.size = true by rw [hlen]; simp, cond_true, envK_eq, fNat_eq]
  unfold W at hw
  cases ha : aexec T P N (some l) assign ⟨(zipSet t (ps.toList.zip args)).length, env (zipSet t (ps.toList.zip args)) 0 .nil, H, []⟩ with
  | none => rw [ha] at hw; exact hw.elim
  | some q =>
    obtain ⟨x, s₁, m₁⟩ := q
    rw [ha] at hw
    obtain ⟨k1, rfl, p₁, t₁, ps₁, as₁, bd₁, d₁, k2, k3⟩ := hw
    simp only [k2]
    unfold W at k3
    cases hb : aexec T P N (some l) body ⟨s₁.n, s₁.e, s₁.H.put l (.loop .busy p₁ t₁ ps₁ as₁ bd₁ d₁), s₁.ds⟩ with
    | none => rw [hb] at k3; exact k3.elim
    | some q =>
      obtain ⟨x, s₂, m₂⟩ := q
      rw [hb] at k3
      obtain ⟨k4, jump, k5, st, p₂, t₂, ps₂, as₂, bd₂, d₂, k6, k7⟩ := k3
      simp only [k5,ayieldEnd,k6]
      exact ⟨by omega, k7⟩
theorem calK_yield {l : Nat} {a b : List Value} {F : FuncId → List Value → List Value → Prop} {Y : Nat → List Value → Prop} : calK (.func (.yield l) ⟨a⟩ ⟨b⟩) F Y = Y l a := nr rfl

/-! ### Ends with deferred blocks -/
theorem atake_nil : atake [] H = some H := nr rfl
theorem atake_cons {k : Nat} {ks : List Nat} (h : H.get k = .defer) : atake (k :: ks) H = atake ks (H.put k .dead) := by
  rw [atake.eq_def]
  simp only [h]
def retD (T : Tab) (L : Nat) (rs : List ResultVar) (R : Value → AHeap → Prop) (x : Exit) (s : ES) : Prop := outK x ((∀ k ∈ s.ds, L ≤ k) ∧ L ≤ s.H.size ∧ ∃ H', atake s.ds s.H = some H' ∧ ∃ v, resV T s.n s.e H' rs = some v ∧ R v H')
theorem atake_size : ∀ {ds : List Nat} {H H' : AHeap}, atake ds H = some H' → H'.size = H.size
  | [], H, H', h => by cases h; rfl
  | k :: ks, H, H', h => by
    unfold atake at h
    split at h
    · rw [atake_size h, AHeap.size_put]
    · cases h
/-! ### Loops in which deferred blocks come up, over code that wants some fuel -/
def loopKD (n : Nat) (I : Nat → VT → AHeap → List Nat → Prop) (k : Nat) (Q : Exit → ES → Prop) (x : Exit) (s : ES) : Prop := match x with
  | .normal => s.n = n ∧ ∃ k', k' < k ∧ I k' s.e s.H s.ds
  | x => Q x s
def nextKD (I : Nat → VT → AHeap → List Nat → Prop) (k : Nat) (e : VT) (H : AHeap) (ds : List Nat) (_ : Tag I := .mk) : Prop := ∃ k', k' < k ∧ I k' e H ds
theorem loopKD_normal {I : Nat → VT → AHeap → List Nat → Prop} {k : Nat} {Q : Exit → ES → Prop} : loopKD n I k Q .normal ⟨n, e, H, ds⟩ = nextKD I k e H ds := by simp [loopKD, nextKD]
theorem loopKD_ret {I : Nat → VT → AHeap → List Nat → Prop} {k : Nat} {Q : Exit → ES → Prop} {s : ES} : loopKD n I k Q .ret s = Q .ret s := nr rfl
theorem loopKD_exit {I : Nat → VT → AHeap → List Nat → Prop} {k i : Nat} {Q : Exit → ES → Prop} {s : ES} : loopKD n I k Q (.exit i) s = Q (.exit i) s := nr rfl
end Go.Am
/- What a run leaves as it was: all blocks below the least one that it says to change. -/
namespace Go.Am
variable {T : Tab} {P : Program} {t : Operand → Option Value}

structure Fra (H H' : AHeap) (m : Nat) : Prop where
  size : H.size ≤ H'.size
  same : ∀ k, k < m → k < H.size → H'.get k = H.get k
theorem Fra.refl (H : AHeap) (m : Nat) : Fra H H m := ⟨Nat.le_refl _, fun _ _ _ => rfl⟩
theorem Fra.trans {H H₁ H₂ : AHeap} {m : Nat} (a : Fra H H₁ m) (b : Fra H₁ H₂ m) : Fra H H₂ m := ⟨Nat.le_trans a.size b.size, fun k h1 h2 => (b.same k h1 (Nat.lt_of_lt_of_le h2 a.size)).trans (a.same k h1 h2)⟩
theorem Fra.less {H H' : AHeap} {m m' : Nat} (a : Fra H H' m) (h : m' ≤ m) : Fra H H' m' := ⟨a.size, fun k h1 h2 => a.same k (by omega) h2⟩
theorem Fra.alloc (H : AHeap) (b : ABlk) (m : Nat) : Fra H (H.alloc b) m := ⟨by rw [AHeap.size_alloc]; omega, fun k _ h2 => AHeap.get_alloc_other H b (by omega)⟩
theorem Fra.put {H : AHeap} {k m : Nat} (b : ABlk) (h : m ≤ k) : Fra H (H.put k b) m := ⟨by rw [AHeap.size_put]; omega, fun j h1 _ => AHeap.get_put_other H b (by omega)⟩
theorem Fra.kill {H : AHeap} {l : List Nat} {m : Nat} (h : ∀ j ∈ l, m ≤ j) : Fra H (H.kill l) m := ⟨by rw [AHeap.size_kill]; omega, fun j h1 _ => by
  rw [AHeap.get_kill, if_neg]
  intro hj
  have := h j hj
  omega⟩
def RFr (H : AHeap) (q : Res) : Prop := ∀ b v H' m, q = some (b, v, H', m) → Fra H H' m
def ExFr (ex : Exec) : Prop := ∀ r c s x s' m, ex r c s = some (x, s', m) → Fra s.H s'.H m
def Tab.MemoFr (T : Tab) : Prop := ∀ f args H, RFr H (T.memo f args H)

theorem aWrite_fr {H : AHeap} {k off : Nat} {vs : List Value} {H' : AHeap} {m : Nat} (h : aWrite H k off vs = some (H', m)) : Fra H H' m := by
  unfold aWrite at h
  split at h
  · rename_i c e opn al hg
    cases hb : (Nat.ble (off + vs.length) c.length && oneCells vs)
    · rw [hb] at h; cases h
    · rw [hb] at h
      cases h
      have := minAl_le k al
      exact (Fra.kill this.2).trans (Fra.put _ this.1)
  · cases h
theorem aStore_fr {H : AHeap} {ty : TypeId} {x y : Operand} {v : Value} {H' : AHeap} {m : Nat} (h : aStore T t H ty x y = some (v, H', m)) : Fra H H' m := by
  unfold aStore at h
  try simp only [Bool.cond_eq_ite] at h
  repeat' (split at h)
  all_goals first
    | (cases h; first | exact Fra.refl _ _ | (apply aWrite_fr; assumption))
    | cases h
theorem aAppend_fr {H : AHeap} {tys : Array TypeId} {args : Array Operand} {v : Value} {H' : AHeap} {m : Nat} (h : aAppend T t H tys args = some (v, H', m)) : Fra H H' m := by
  unfold aAppend at h
  try simp only [Bool.cond_eq_ite] at h
  repeat' (split at h)
  all_goals first
    | (cases h; first | exact Fra.refl _ _ | exact Fra.alloc _ _ _ | (apply aWrite_fr; assumption) | exact ((Fra.kill (minAl_le _ _).2).trans (Fra.put _ (minAl_le _ _).1)).trans (Fra.alloc _ _ _))
    | cases h
theorem aCopy_fr {H : AHeap} {tys : Array TypeId} {args : Array Operand} {v : Value} {H' : AHeap} {m : Nat} (h : aCopy T t H tys args = some (v, H', m)) : Fra H H' m := by
  unfold aCopy at h
  repeat' (split at h)
  all_goals first
    | (cases h; apply aWrite_fr; assumption)
    | cases h
theorem aClear_fr {H : AHeap} {tys : Array TypeId} {args : Array Operand} {v : Value} {H' : AHeap} {m : Nat} (h : aClear T t H tys args = some (v, H', m)) : Fra H H' m := by
  unfold aClear at h
  try simp only [Bool.cond_eq_ite] at h
  repeat' (split at h)
  all_goals first
    | (cases h; first | exact Fra.refl _ _ | (apply aWrite_fr; assumption))
    | cases h
theorem aUpdate_fr {H : AHeap} {ty : TypeId} {x ix y : Operand} {v : Value} {H' : AHeap} {m : Nat} (h : aUpdate T P t H ty x ix y = some (v, H', m)) : Fra H H' m := by
  unfold aUpdate at h
  try simp only [Bool.cond_eq_ite] at h
  repeat' (split at h)
  all_goals first
    | (cases h; exact Fra.put _ (Nat.le_refl _))
    | cases h
theorem fresh_fr {H : AHeap} {r : Option (PK × ABlk)} : RFr H (fresh H r) := by
  intro b v H' m h
  unfold fresh at h
  split at h
  · cases h; exact Fra.alloc _ _ _
  · cases h
theorem moves_fr {H : AHeap} {r : Option (Value × AHeap × Nat)} (hr : ∀ v H' m, r = some (v, H', m) → Fra H H' m) : RFr H (moves r) := by
  intro b v H' m h
  obtain ⟨-, h2⟩ := moves_some h
  exact hr _ _ _ h2
theorem aop_fr {H : AHeap} {o : Op} : RFr H (aop T P t H o) := by
  intro b v H' m h
  cases b with
  | true =>
    obtain ⟨rfl, rfl⟩ := aop_still h
    exact Fra.refl _ _
  | false =>
    unfold aop at h
    split at h
    all_goals first
      | (have := (still_some h).1; cases this)
      | exact fresh_fr _ _ _ _ h
      | exact moves_fr (fun _ _ _ h => aStore_fr h) _ _ _ _ h
      | exact moves_fr (fun _ _ _ h => aUpdate_fr h) _ _ _ _ h
      | (split at h
         all_goals first
          | (have := (still_some h).1; cases this)
          | exact moves_fr (fun _ _ _ h => aAppend_fr h) _ _ _ _ h
          | exact moves_fr (fun _ _ _ h => aCopy_fr h) _ _ _ _ h
          | exact moves_fr (fun _ _ _ h => aClear_fr h) _ _ _ _ h
          | (unfold lenRes at h; split at h <;> cases h)
          | cases h)
      | cases h
theorem atake_fr : ∀ {ds : List Nat} {H H' : AHeap}, atake ds H = some H' → H'.size = H.size ∧ ∀ k, k ∉ ds → H'.get k = H.get k
  | [], H, H', h => by cases h; exact ⟨rfl, fun _ _ => rfl⟩
  | d :: ds, H, H', h => by
    unfold atake at h
    split at h
    · have := atake_fr h
      refine ⟨by rw [this.1, AHeap.size_put], fun k hk => ?_⟩
      simp only [List.mem_cons,not_or] at hk
      rw [this.2 k hk.2, AHeap.get_put_other _ _ hk.1]
    · cases h
theorem acall_fr (hm : T.MemoFr) {ex : Exec} (hex : ExFr ex) {f : FuncId} {args : List Value} {H : AHeap} : RFr H (acall T ex f args H) := by
  intro b v H' m h
  unfold acall at h
  split at h
  · rename_i r hr
    cases h
    exact hm _ _ _ _ _ _ _ hr
  · unfold acall0 at h
    have leave : ∀ (fn : Func) (e : VT) (n : Nat) (x : Exit) (s' : ES) (m' : Nat), Fra H s'.H m' → aleave T fn H s' m' = some (b, v, H', m) → Fra H H' m := by
      intro fn e n x s' m' hf hl
      unfold aleave at hl
      split at hl
      · rename_i H₁ hk
        split at hl
        · simp only [fV_eq,fNat_eq] at hl
          unfold quietV at hl
          obtain ⟨k1, k2⟩ := atake_fr hk
          have hmin := minAl_le m' s'.ds
          cases hq : (Nat.ble H.size (min (minAl m' s'.ds) s'.H.size) && gr ‹Value›)
          · rw [hq] at hl
            cases hl
            refine ⟨by rw [k1]; exact hf.size, fun k h1 h2 => ?_⟩
            rw [k2 k (fun hk' => by have := hmin.2 k hk'; omega)]
            exact hf.same k (by omega) h2
          · rw [hq] at hl
            cases hl
            exact Fra.refl _ _
        · cases hl
      · cases hl
    split at h
    · cases h
    · split at h
      · cases h
      · simp only [envK_eq,fNat_eq] at h
        split at h
        · rename_i s' m' he
          exact leave _ .nil 0 .normal s' m' (hex _ _ _ _ _ _ he) h
        · rename_i s' m' he
          exact leave _ .nil 0 .normal s' m' (hex _ _ _ _ _ _ he) h
        · cases h
theorem ayield_fr {ex : Exec} (hex : ExFr ex) {l : Nat} {args : List Value} {H : AHeap} : RFr H (ayield ex l args H) := by
  intro b v H' m h
  unfold ayield at h
  split at h
  · cases hb : Nat.beq args.length _
    · rw [hb] at h; cases h
    · rw [hb] at h
      simp only [cond_true,envK_eq,fNat_eq] at h
      split at h
      · rename_i s₁ m₁ h1
        split at h
        · split at h
          · rename_i e s₂ m₂ h2
            split at h
            · unfold ayieldEnd at h
              split at h
              · cases h
                have f1 := hex _ _ _ _ _ _ h1
                have f2 := hex _ _ _ _ _ _ h2
                exact (((f1.less (by omega)).trans (Fra.put _ (by omega))).trans (f2.less (by omega))).trans (Fra.put _ (by omega))
              · cases h
            · cases h
          · cases h
        · cases h
      · cases h
  · cases h
theorem aopAny_fr (hm : T.MemoFr) {ex : Exec} (hex : ExFr ex) {H : AHeap} {o : Op} : RFr H (aopAny T P ex t H o) := by
  intro b v H' m h
  unfold aopAny at h
  split at h
  · split at h
    · split at h
      · exact acall_fr hm hex _ _ _ _ h
      · exact ayield_fr hex _ _ _ _ h
      · cases h
    · exact aop_fr _ _ _ _ h
  · exact aop_fr _ _ _ _ h
theorem aops_fr (hm : T.MemoFr) {ex : Exec} (hex : ExFr ex) {ops : Array Oper} {n : Nat} {ds : List Nat} : ∀ {l : List Oper} {e : VT} {H : AHeap} {e' : VT} {H' : AHeap} {m : Nat}, aops T P ex ops n ds l e H = some (e', H', m) → Fra H H' m
  | [], e, H, e', H', m, h => by
    simp only [aops,Option.some.injEq,Prod.mk.injEq] at h
    obtain ⟨-, rfl, rfl⟩ := h
    exact Fra.refl _ _
  | o :: l, e, H, e', H', m, h => by
    simp only [aops,VT.putK_eq,fH_eq,fNat_eq] at h
    cases hw : wantE ops n e o
    · rw [hw, cond_false] at h
      exact aops_fr hm hex h
    · rw [hw, cond_true] at h
      split at h
      · rename_i b v H₁ m₁ ha
        split at h
        · rename_i e₂ H₂ m₂ h2
          cases h
          exact ((aopAny_fr hm hex _ _ _ _ ha).less (by omega)).trans ((aops_fr hm hex h2).less (by omega))
        · cases h
      · cases h
theorem dpass_fr (hm : T.MemoFr) {ex : Exec} (hex : ExFr ex) {ops : Array Oper} {n : Nat} : ∀ {l : List Oper} {i q : Nat} {e : VT} {H : AHeap} {fl : List Fl} {hs : List Nat} {Gs : List AHeap} {ef : VT} {m : Nat} (D : AHeap), dpass T P ex ops n l i q e H = some (fl, hs, Gs, ef, m) → Fra H (Gs.getD hs.length D) m
  | [], i, q, e, H, fl, hs, Gs, ef, m, D, h => by
    simp only [dpass,Option.some.injEq,Prod.mk.injEq] at h
    obtain ⟨-, rfl, rfl, -, rfl⟩ := h
    exact Fra.refl _ _
  | o :: l, i, q, e, H, fl, hs, Gs, ef, m, D, h => by
    simp only [dpass,fNats_eq,fV_eq,VT.putK_eq,fH_eq,fNat_eq] at h
    cases hw : wantE ops n e o
    · rw [hw, cond_false] at h
      exact dpass_fr hm hex D h
    · rw [hw, cond_true] at h
      split at h
      · split at h
        · rename_i hd
          cases h
          exact dpass_fr hm hex D hd
        · cases h
      · rename_i v H₁ m₁ ha
        split at h
        · rename_i hd
          cases h
          have := dpass_fr hm hex D hd
          rw [List.length_cons, List.getD_cons_succ]
          exact ((aopAny_fr hm hex _ _ _ _ ha).less (by omega)).trans (this.less (by omega))
        · cases h
      · cases h
theorem adraw_fr (hm : T.MemoFr) {ex : Exec} (hex : ExFr ex) {ops : Array Oper} {n : Nat} {e e' : VT} {H H' : AHeap} {m : Nat} (h : adraw T P ex ops n e H = some (e', H', m)) : Fra H H' m := by
  unfold adraw at h
  simp only [fNat_eq] at h
  generalize befM (matOf ops.toList.length ops.toList 0 0) ops.toList.length = bef at h
  cases hst : rstat ops bef
  · rw [hst] at h; cases h
  · rw [hst] at h
    simp only [cond_true] at h
    split at h
    · rename_i fl hs Gs ef m₀ hd
      cases haf : after T P ex n bef hs Gs fl
      · rw [haf] at h; cases h
      · rw [haf] at h
        simp only [cond_true,fNat_eq,fH_eq,Option.some.injEq,Prod.mk.injEq] at h
        obtain ⟨rfl, rfl, rfl⟩ := h
        exact (dpass_fr hm hex H hd).less (by omega)
    · cases h
theorem evR_fr (hm : T.MemoFr) {ex : Exec} (hex : ExFr ex) {rl : List (Nat × Nat)} {i : Nat} {H : AHeap} {o : Op} : RFr H (evR T P ex rl i t H o) := by
  intro b v H' m h
  unfold evR at h
  split at h
  · exact aopAny_fr hm hex _ _ _ _ h
  · split at h
    · split at h
      · cases h; exact Fra.refl _ _
      · cases h
    · cases h
theorem dpassR_fr (hm : T.MemoFr) {ex : Exec} (hex : ExFr ex) {rl : List (Nat × Nat)} {ops : Array Oper} {n : Nat} : ∀ {l : List Oper} {i q : Nat} {e : VT} {H : AHeap} {fl : List Fl} {hs : List Nat} {Gs : List AHeap} {ef : VT} {m : Nat} (D : AHeap), dpassR T P ex rl ops n l i q e H = some (fl, hs, Gs, ef, m) → Fra H (Gs.getD hs.length D) m
  | [], i, q, e, H, fl, hs, Gs, ef, m, D, h => by
    simp only [dpassR,Option.some.injEq,Prod.mk.injEq] at h
    obtain ⟨-, rfl, rfl, -, rfl⟩ := h
    exact Fra.refl _ _
  | o :: l, i, q, e, H, fl, hs, Gs, ef, m, D, h => by
    simp only [dpassR] at h
    cases hw : wantE ops n e o
    · rw [hw, cond_false] at h
      exact dpassR_fr hm hex D h
    · rw [hw, cond_true] at h
      split at h
      · split at h
        · rename_i hd
          cases h
          exact dpassR_fr hm hex D hd
        · cases h
      · rename_i v H₁ m₁ ha
        split at h
        · rename_i hd
          cases h
          have := dpassR_fr hm hex D hd
          rw [List.length_cons, List.getD_cons_succ]
          exact ((evR_fr hm hex _ _ _ _ ha).less (by omega)).trans (this.less (by omega))
        · cases h
      · cases h
theorem allocs_fr (m : Nat) : ∀ (l : List (Nat × ABlk)) (H : AHeap), Fra H (allocs H l) m
  | [], H => Fra.refl _ _
  | p :: l, H => (Fra.alloc H p.2 m).trans (allocs_fr m l _)
theorem adrawR_fr (hm : T.MemoFr) {ex : Exec} (hex : ExFr ex) {ops : Array Oper} {n : Nat} {e e' : VT} {H H' : AHeap} {m : Nat} {pl : List (Nat × ABlk)} (h : adrawR T P ex ops n e H pl = some (e', H', m)) : Fra H H' m := by
  unfold adrawR at h
  split at h
  · rename_i hd
    split at h
    · cases h
      exact (allocs_fr _ pl H).trans ((dpassR_fr hm hex (allocs H pl) hd).less (by omega))
    · cases h
  · cases h
theorem adrawX_fr (hm : T.MemoFr) {ex : Exec} (hex : ExFr ex) {ops : Array Oper} {n : Nat} {e e' : VT} {H H' : AHeap} {m : Nat} (h : adrawX T P ex ops n e H = some (e', H', m)) : Fra H H' m := by
  unfold adrawX at h
  split at h
  · unfold orD at h
    split at h
    · rename_i hd
      cases h
      exact adraw_fr hm hex hd
    · obtain ⟨pl, hp⟩ := adrawB_ok h
      exact adrawR_fr hm hex hp
  · exact adrawR_fr hm hex h
theorem aseq_fr {q : Option (Exit × ES × Nat)} {k : ES → Option (Exit × ES × Nat)} {H : AHeap} (hq : ∀ x s m, q = some (x, s, m) → Fra H s.H m) (hk : ∀ s x s' m, k s = some (x, s', m) → Fra s.H s'.H m) {x : Exit} {s' : ES} {m : Nat} (h : aseq q k = some (x, s', m)) : Fra H s'.H m := by
  unfold aseq at h
  split at h
  · rename_i e s₁ m₁
    cases hn : isNormal e
    · rw [hn] at h; cases h
      exact hq _ _ _ rfl
    · rw [hn, cond_true] at h
      split at h
      · rename_i e₂ s₂ m₂ h2
        simp only [fNat_eq] at h
        cases h
        exact ((hq _ _ _ rfl).less (by omega)).trans ((hk _ _ _ _ h2).less (by omega))
      · cases h
  · cases h
theorem aendLoop_fr {ex : Exec} (hex : ExFr ex) {r : Option Nat} {l n : Nat} {e : VT} {H H₂ : AHeap} {ds : List Nat} {m : Nat} (hf : Fra H H₂ m) {x : Exit} {s' : ES} {m' : Nat} (h : aendLoop ex r l n e H₂ ds m = some (x, s', m')) : Fra H s'.H m' := by
  unfold aendLoop at h
  split at h
  · cases h
  · split at h
    · cases h
      exact (hf.less (by omega)).trans (Fra.put _ (by omega))
    · split at h
      · rename_i e₂ s₂ m₂ h2
        cases h
        exact ((hf.less (by omega)).trans (Fra.put _ (by omega))).trans ((hex _ _ _ _ _ _ h2).less (by omega))
      · cases h
  · cases h
theorem astep_fr (hm : T.MemoFr) {ex : Exec} (hex : ExFr ex) : ExFr (astep T P ex) := by
  intro r c s x s' m h
  obtain ⟨n, e, H, ds⟩ := s
  simp only [astep,astepG] at h
  split at h
  · cases h; exact Fra.refl _ _
  · cases h; exact Fra.refl _ _
  · cases h; exact Fra.refl _ _
  · cases h; exact Fra.refl _ _
  · exact aseq_fr (fun _ _ _ h => hex _ _ _ _ _ _ h) (fun _ _ _ _ h => hex _ _ _ _ _ _ h) h
  · split at h
    · exact hex _ _ _ _ _ _ h
    · cases h
  · split at h
    · rename_i h1
      cases h
      exact hex _ _ _ _ _ _ h1
    · cases h
  · exact aseq_fr (fun _ _ _ h => hex _ _ _ _ _ _ h) (fun _ _ _ _ h => hex _ _ _ _ _ _ h) h
  · rename_i dr
    split at h
    · rename_i h1
      cases h
      cases dr with
      | true => exact adrawX_fr hm hex h1
      | false => exact aops_fr hm hex h1
    · cases h
  · split at h
    · split at h
      · split at h
        · rename_i h1
          have f1 := acall_fr hm hex _ _ _ _ h1
          refine aendLoop_fr hex ?_ h
          exact ((Fra.alloc H .defer _).trans (Fra.alloc _ _ _)).trans (f1.less (Nat.min_le_right _ _))
        · cases h
      · split at h
        · split at h
          · rename_i h1
            have f1 := acall_fr hm hex _ _ _ _ h1
            refine aendLoop_fr hex ?_ h
            exact (Fra.alloc H _ _).trans (f1.less (Nat.min_le_right _ _))
          · cases h
        · cases h
    · cases h
  · exact hex _ _ _ _ _ _ (scopeX_some h).1
  all_goals cases h
theorem aexec_fr (hm : T.MemoFr) : ∀ n, ExFr (aexec T P n)
  | 0 => fun _ _ _ _ _ _ h => by cases h
  | n + 1 => astep_fr hm (aexec_fr hm n)
end Go.Am
