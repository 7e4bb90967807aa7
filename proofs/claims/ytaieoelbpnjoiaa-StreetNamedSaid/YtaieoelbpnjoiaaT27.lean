import Derived.Test.YtaieoelbpnjoiaaT4
import Derived.Test.YtaieoelbpnjoiaaT18
import Derived.Test.YtaieoelbpnjoiaaT19
set_option linter.unusedSimpArgs false
set_option linter.unusedVariables false
namespace Go.Am
variable {T : Tab} {P : Program} {t : Operand → Option Value}
structure Fra (H H' : AHeap) (m : Nat) : Prop where
 size : H.size ≤ H'.size
 same : ∀ k, k < m → k < H.size → H'.get k = H.get k
theorem Fra.refl (H : AHeap) (m : Nat) : Fra H H m := ⟨Nat.le_refl _, fun _ _ _ => rfl⟩
theorem Fra.trans {H H₁ H₂ : AHeap} {m : Nat} (a : Fra H H₁ m) (b : Fra H₁ H₂ m) : Fra H H₂ m := ⟨Nat.le_trans a.size b.size, fun k h1 h2 => (b.same k h1 (Nat.lt_of_lt_of_le h2 a.size)).trans (a.same k h1 h2)⟩
theorem Fra.less {H H' : AHeap} {m m' : Nat} (a : Fra H H' m) (h : m' ≤ m) : Fra H H' m' := ⟨a.size, fun k h1 h2 => a.same k (by omega) h2⟩
theorem Fra.alloc (H : AHeap) (b : ABlk) (m : Nat) : Fra H (H.alloc b) m := ⟨by rw [AHeap.size_alloc]; omega, fun k _ h2 => AHeap.get_alloc_other H b (by omega)⟩
theorem Fra.put {H : AHeap} {k m : Nat} (b : ABlk) (h : m ≤ k) : Fra H (H.put k b) m := ⟨by rw [AHeap.size_put]; omega, fun j h1 _ => AHeap.get_put_other H b (by omega)⟩
theorem Fra.kill {H : AHeap} {l : List Nat} {m : Nat} (h : ∀ j ∈ l, m ≤ j) : Fra H (H.kill l) m := ⟨by rw [AHeap.size_kill]; omega, fun j h1 _ => by
 rw [AHeap.get_kill, if_neg]
 intro hj
 have := h j hj
 omega⟩
def RFr (H : AHeap) (q : Res) : Prop := ∀ b v H' m, q = some (b, v, H', m) → Fra H H' m
def ExFr (ex : Exec) : Prop := ∀ r c s x s' m, ex r c s = some (x, s', m) → Fra s.H s'.H m
def Tab.MemoFr (T : Tab) : Prop := ∀ f args H, RFr H (T.memo f args H)
theorem aWrite_fr {H : AHeap} {k off : Nat} {vs : List Value} {H' : AHeap} {m : Nat} (h : aWrite H k off vs = some (H', m)) : Fra H H' m := by
 unfold aWrite at h
 split at h
 ·rename_i c e opn al hg
  cases hb : (Nat.ble (off + vs.length) c.length && oneCells vs)
  ·rw [hb] at h; cases h
  ·rw [hb] at h
   cases h
   have := minAl_le k al
   exact (Fra.kill this.2).trans (Fra.put _ this.1)
 ·cases h
theorem aStore_fr {H : AHeap} {ty : TypeId} {x y : Operand} {v : Value} {H' : AHeap} {m : Nat} (h : aStore T t H ty x y = some (v, H', m)) : Fra H H' m := by
 unfold aStore at h
 try simp only [Bool.cond_eq_ite] at h
 repeat' (split at h)
 all_goals first
  | (cases h; first | exact Fra.refl _ _ | (apply aWrite_fr; assumption))
  | cases h
theorem aAppend_fr {H : AHeap} {tys : Array TypeId} {args : Array Operand} {v : Value} {H' : AHeap} {m : Nat} (h : aAppend T t H tys args = some (v, H', m)) : Fra H H' m := by
 unfold aAppend at h
 try simp only [Bool.cond_eq_ite] at h
 repeat' (split at h)
 all_goals first
  | (cases h; first | exact Fra.refl _ _ | exact Fra.alloc _ _ _ | (apply aWrite_fr; assumption) | exact ((Fra.kill (minAl_le _ _).2).trans (Fra.put _ (minAl_le _ _).1)).trans (Fra.alloc _ _ _))
  | cases h
theorem aCopy_fr {H : AHeap} {tys : Array TypeId} {args : Array Operand} {v : Value} {H' : AHeap} {m : Nat} (h : aCopy T t H tys args = some (v, H', m)) : Fra H H' m := by
 unfold aCopy at h
 repeat' (split at h)
 all_goals first
  | (cases h; apply aWrite_fr; assumption)
  | cases h
theorem aClear_fr {H : AHeap} {tys : Array TypeId} {args : Array Operand} {v : Value} {H' : AHeap} {m : Nat} (h : aClear T t H tys args = some (v, H', m)) : Fra H H' m := by
 unfold aClear at h
 try simp only [Bool.cond_eq_ite] at h
 repeat' (split at h)
 all_goals first
  | (cases h; first | exact Fra.refl _ _ | (apply aWrite_fr; assumption))
  | cases h
theorem aUpdate_fr {H : AHeap} {ty : TypeId} {x ix y : Operand} {v : Value} {H' : AHeap} {m : Nat} (h : aUpdate T P t H ty x ix y = some (v, H', m)) : Fra H H' m := by
 unfold aUpdate at h
 try simp only [Bool.cond_eq_ite] at h
 repeat' (split at h)
 all_goals first
  | (cases h; exact Fra.put _ (Nat.le_refl _))
  | cases h
theorem fresh_fr {H : AHeap} {r : Option (PK × ABlk)} : RFr H (fresh H r) := by
 intro b v H' m h
 unfold fresh at h
 split at h
 ·cases h; exact Fra.alloc _ _ _
 ·cases h
theorem moves_fr {H : AHeap} {r : Option (Value × AHeap × Nat)} (hr : ∀ v H' m, r = some (v, H', m) → Fra H H' m) : RFr H (moves r) := by
 intro b v H' m h
 obtain ⟨-, h2⟩ := moves_some h
 exact hr _ _ _ h2
theorem aop_fr {H : AHeap} {o : Op} : RFr H (aop T P t H o) := by
 intro b v H' m h
 cases b with
 | true =>
  obtain ⟨rfl, rfl⟩ := aop_still h
  exact Fra.refl _ _
 | false =>
  unfold aop at h
  split at h
  all_goals first
   | (have := (still_some h).1; cases this)
   | exact fresh_fr _ _ _ _ h
   | exact moves_fr (fun _ _ _ h => aStore_fr h) _ _ _ _ h
   | exact moves_fr (fun _ _ _ h => aUpdate_fr h) _ _ _ _ h
   | (
    split at h
    all_goals first
     | (have := (still_some h).1; cases this)
     | exact moves_fr (fun _ _ _ h => aAppend_fr h) _ _ _ _ h
     | exact moves_fr (fun _ _ _ h => aCopy_fr h) _ _ _ _ h
     | exact moves_fr (fun _ _ _ h => aClear_fr h) _ _ _ _ h
     | (unfold lenRes at h; split at h <;> cases h)
     | cases h)
   | cases h
theorem atake_fr : ∀ {ds : List Nat} {H H' : AHeap}, atake ds H = some H' → H'.size = H.size ∧ ∀ k, k ∉ ds → H'.get k = H.get k
 | [], H, H', h => by cases h; exact ⟨rfl, fun _ _ => rfl⟩
 | d :: ds, H, H', h => by
  unfold atake at h
  split at h
  ·have := atake_fr h
   refine ⟨by rw [this.1, AHeap.size_put], fun k hk => ?_⟩
   simp only [List.mem_cons,not_or] at hk
   rw [this.2 k hk.2, AHeap.get_put_other _ _ hk.1]
  ·cases h
theorem acall_fr (hm : T.MemoFr) {ex : Exec} (hex : ExFr ex) {f : FuncId} {args : List Value} {H : AHeap} : RFr H (acall T ex f args H) := by
 intro b v H' m h
 unfold acall at h
 split at h
 ·rename_i r hr
  cases h
  exact hm _ _ _ _ _ _ _ hr
 ·unfold acall0 at h
  have leave : ∀ (fn : Func) (e : VT) (n : Nat) (x : Exit) (s' : ES) (m' : Nat), Fra H s'.H m' → aleave T fn H s' m' = some (b, v, H', m) → Fra H H' m := by
   intro fn e n x s' m' hf hl
   unfold aleave at hl
   split at hl
   ·rename_i H₁ hk
    split at hl
    ·simp only [fV_eq,fNat_eq] at hl
     unfold quietV at hl
     obtain ⟨k1, k2⟩ := atake_fr hk
     have hmin := minAl_le m' s'.ds
     cases hq : (Nat.ble H.size (min (minAl m' s'.ds) s'.H.size) && gr ‹Value›)
     ·rw [hq] at hl
      cases hl
      refine ⟨by rw [k1]; exact hf.size, fun k h1 h2 => ?_⟩
      rw [k2 k (fun hk' => by have := hmin.2 k hk'; omega)]
      exact hf.same k (by omega) h2
     ·rw [hq] at hl
      cases hl
      exact Fra.refl _ _
    ·cases hl
   ·cases hl
  split at h
  ·cases h
  ·split at h
   ·cases h
   ·simp only [envK_eq,fNat_eq] at h
    split at h
    ·rename_i s' m' he
     exact leave _ .nil 0 .normal s' m' (hex _ _ _ _ _ _ he) h
    ·rename_i s' m' he
     exact leave _ .nil 0 .normal s' m' (hex _ _ _ _ _ _ he) h
    ·cases h
theorem ayield_fr {ex : Exec} (hex : ExFr ex) {l : Nat} {args : List Value} {H : AHeap} : RFr H (ayield ex l args H) := by
 intro b v H' m h
 unfold ayield at h
 split at h
 ·cases hb : Nat.beq args.length _
  ·rw [hb] at h; cases h
  ·rw [hb] at h
   simp only [cond_true,envK_eq,fNat_eq] at h
   split at h
   ·rename_i s₁ m₁ h1
    split at h
    ·split at h
     ·rename_i e s₂ m₂ h2
      split at h
      ·unfold ayieldEnd at h
       split at h
       ·cases h
        have f1 := hex _ _ _ _ _ _ h1
        have f2 := hex _ _ _ _ _ _ h2
        exact (((f1.less (by omega)).trans (Fra.put _ (by omega))).trans (f2.less (by omega))).trans (Fra.put _ (by omega))
       ·cases h
      ·cases h
     ·cases h
    ·cases h
   ·cases h
 ·cases h
theorem aopAny_fr (hm : T.MemoFr) {ex : Exec} (hex : ExFr ex) {H : AHeap} {o : Op} : RFr H (aopAny T P ex t H o) := by
 intro b v H' m h
 unfold aopAny at h
 split at h
 ·split at h
  ·split at h
   ·exact acall_fr hm hex _ _ _ _ h
   ·exact ayield_fr hex _ _ _ _ h
   ·cases h
  ·exact aop_fr _ _ _ _ h
 ·exact aop_fr _ _ _ _ h
theorem aops_fr (hm : T.MemoFr) {ex : Exec} (hex : ExFr ex) {ops : Array Oper} {n : Nat} {ds : List Nat} : ∀ {l : List Oper} {e : VT} {H : AHeap} {e' : VT} {H' : AHeap} {m : Nat}, aops T P ex ops n ds l e H = some (e', H', m) → Fra H H' m
 | [], e, H, e', H', m, h => by
  simp only [aops,Option.some.injEq,Prod.mk.injEq] at h
  obtain ⟨-, rfl, rfl⟩ := h
  exact Fra.refl _ _
 | o :: l, e, H, e', H', m, h => by
  simp only [aops,VT.putK_eq,fH_eq,fNat_eq] at h
  cases hw : wantE ops n e o
  ·rw [hw, cond_false] at h
   exact aops_fr hm hex h
  ·rw [hw, cond_true] at h
   split at h
   ·rename_i b v H₁ m₁ ha
    split at h
    ·rename_i e₂ H₂ m₂ h2
     cases h
     exact ((aopAny_fr hm hex _ _ _ _ ha).less (by omega)).trans ((aops_fr hm hex h2).less (by omega))
    ·cases h
   ·cases h
theorem dpass_fr (hm : T.MemoFr) {ex : Exec} (hex : ExFr ex) {ops : Array Oper} {n : Nat} : ∀ {l : List Oper} {i q : Nat} {e : VT} {H : AHeap} {fl : List Fl} {hs : List Nat} {Gs : List AHeap} {ef : VT} {m : Nat} (D : AHeap), dpass T P ex ops n l i q e H = some (fl, hs, Gs, ef, m) → Fra H (Gs.getD hs.length D) m
 | [], i, q, e, H, fl, hs, Gs, ef, m, D, h => by
  simp only [dpass,Option.some.injEq,Prod.mk.injEq] at h
  obtain ⟨-, rfl, rfl, -, rfl⟩ := h
  exact Fra.refl _ _
 | o :: l, i, q, e, H, fl, hs, Gs, ef, m, D, h => by
  simp only [dpass,fNats_eq,fV_eq,VT.putK_eq,fH_eq,fNat_eq] at h
  cases hw : wantE ops n e o
  ·rw [hw, cond_false] at h
   exact dpass_fr hm hex D h
  ·rw [hw, cond_true] at h
   split at h
   ·split at h
    ·rename_i hd
     cases h
     exact dpass_fr hm hex D hd
    ·cases h
   ·rename_i v H₁ m₁ ha
    split at h
    ·rename_i hd
     cases h
     have := dpass_fr hm hex D hd
     rw [List.length_cons, List.getD_cons_succ]
     exact ((aopAny_fr hm hex _ _ _ _ ha).less (by omega)).trans (this.less (by omega))
    ·cases h
   ·cases h
theorem adraw_fr (hm : T.MemoFr) {ex : Exec} (hex : ExFr ex) {ops : Array Oper} {n : Nat} {e e' : VT} {H H' : AHeap} {m : Nat} (h : adraw T P ex ops n e H = some (e', H', m)) : Fra H H' m := by
 unfold adraw at h
 simp only [fNat_eq] at h
 generalize befM (matOf ops.toList.length ops.toList 0 0) ops.toList.length = bef at h
 cases hst : rstat ops bef
 ·rw [hst] at h; cases h
 ·rw [hst] at h
  simp only [cond_true] at h
  split at h
  ·rename_i fl hs Gs ef m₀ hd
   cases haf : after T P ex n bef hs Gs fl
   ·rw [haf] at h; cases h
   ·rw [haf] at h
    simp only [cond_true,fNat_eq,fH_eq,Option.some.injEq,Prod.mk.injEq] at h
    obtain ⟨rfl, rfl, rfl⟩ := h
    exact (dpass_fr hm hex H hd).less (by omega)
  ·cases h
theorem evR_fr (hm : T.MemoFr) {ex : Exec} (hex : ExFr ex) {rl : List (Nat × Nat)} {i : Nat} {H : AHeap} {o : Op} : RFr H (evR T P ex rl i t H o) := by
 intro b v H' m h
 unfold evR at h
 split at h
 ·exact aopAny_fr hm hex _ _ _ _ h
 ·split at h
  ·split at h
   ·cases h; exact Fra.refl _ _
   ·cases h
  ·cases h
theorem dpassR_fr (hm : T.MemoFr) {ex : Exec} (hex : ExFr ex) {rl : List (Nat × Nat)} {ops : Array Oper} {n : Nat} : ∀ {l : List Oper} {i q : Nat} {e : VT} {H : AHeap} {fl : List Fl} {hs : List Nat} {Gs : List AHeap} {ef : VT} {m : Nat} (D : AHeap), dpassR T P ex rl ops n l i q e H = some (fl, hs, Gs, ef, m) → Fra H (Gs.getD hs.length D) m
 | [], i, q, e, H, fl, hs, Gs, ef, m, D, h => by
  simp only [dpassR,Option.some.injEq,Prod.mk.injEq] at h
  obtain ⟨-, rfl, rfl, -, rfl⟩ := h
  exact Fra.refl _ _
 | o :: l, i, q, e, H, fl, hs, Gs, ef, m, D, h => by
  simp only [dpassR] at h
  cases hw : wantE ops n e o
  ·rw [hw, cond_false] at h
   exact dpassR_fr hm hex D h
  ·rw [hw, cond_true] at h
   split at h
   ·split at h
    ·rename_i hd
     cases h
     exact dpassR_fr hm hex D hd
    ·cases h
   ·rename_i v H₁ m₁ ha
    split at h
    ·rename_i hd
     cases h
     have := dpassR_fr hm hex D hd
     rw [List.length_cons, List.getD_cons_succ]
     exact ((evR_fr hm hex _ _ _ _ ha).less (by omega)).trans (this.less (by omega))
    ·cases h
   ·cases h
theorem allocs_fr (m : Nat) : ∀ (l : List (Nat × ABlk)) (H : AHeap), Fra H (allocs H l) m
 | [], H => Fra.refl _ _
 | p :: l, H => (Fra.alloc H p.2 m).trans (allocs_fr m l _)
theorem adrawR_fr (hm : T.MemoFr) {ex : Exec} (hex : ExFr ex) {ops : Array Oper} {n : Nat} {e e' : VT} {H H' : AHeap} {m : Nat} {pl : List (Nat × ABlk)} (h : adrawR T P ex ops n e H pl = some (e', H', m)) : Fra H H' m := by
 unfold adrawR at h
 split at h
 ·rename_i hd
  split at h
  ·cases h
   exact (allocs_fr _ pl H).trans ((dpassR_fr hm hex (allocs H pl) hd).less (by omega))
  ·cases h
 ·cases h
theorem adrawX_fr (hm : T.MemoFr) {ex : Exec} (hex : ExFr ex) {ops : Array Oper} {n : Nat} {e e' : VT} {H H' : AHeap} {m : Nat} (h : adrawX T P ex ops n e H = some (e', H', m)) : Fra H H' m := by
 unfold adrawX at h
 split at h
 ·exact adraw_fr hm hex h
 ·exact adrawR_fr hm hex h
theorem aseq_fr {q : Option (Exit × ES × Nat)} {k : ES → Option (Exit × ES × Nat)} {H : AHeap} (hq : ∀ x s m, q = some (x, s, m) → Fra H s.H m) (hk : ∀ s x s' m, k s = some (x, s', m) → Fra s.H s'.H m) {x : Exit} {s' : ES} {m : Nat} (h : aseq q k = some (x, s', m)) : Fra H s'.H m := by
 unfold aseq at h
 split at h
 ·rename_i e s₁ m₁
  cases hn : isNormal e
  ·rw [hn] at h; cases h
   exact hq _ _ _ rfl
  ·rw [hn, cond_true] at h
   split at h
   ·rename_i e₂ s₂ m₂ h2
    simp only [fNat_eq] at h
    cases h
    exact ((hq _ _ _ rfl).less (by omega)).trans ((hk _ _ _ _ h2).less (by omega))
   ·cases h
 ·cases h
theorem aendLoop_fr {ex : Exec} (hex : ExFr ex) {r : Option Nat} {l n : Nat} {e : VT} {H H₂ : AHeap} {ds : List Nat} {m : Nat} (hf : Fra H H₂ m) {x : Exit} {s' : ES} {m' : Nat} (h : aendLoop ex r l n e H₂ ds m = some (x, s', m')) : Fra H s'.H m' := by
 unfold aendLoop at h
 split at h
 ·cases h
 ·split at h
  ·cases h
   exact (hf.less (by omega)).trans (Fra.put _ (by omega))
  ·split at h
   ·rename_i e₂ s₂ m₂ h2
    cases h
    exact ((hf.less (by omega)).trans (Fra.put _ (by omega))).trans ((hex _ _ _ _ _ _ h2).less (by omega))
   ·cases h
 ·cases h
theorem astep_fr (hm : T.MemoFr) {ex : Exec} (hex : ExFr ex) : ExFr (astep T P ex) := by
 intro r c s x s' m h
 obtain ⟨n, e, H, ds⟩ := s
 simp only [astep,astepG] at h
 split at h
 ·cases h; exact Fra.refl _ _
 ·cases h; exact Fra.refl _ _
 ·cases h; exact Fra.refl _ _
 ·cases h; exact Fra.refl _ _
 ·exact aseq_fr (fun _ _ _ h => hex _ _ _ _ _ _ h) (fun _ _ _ _ h => hex _ _ _ _ _ _ h) h
 ·split at h
  ·exact hex _ _ _ _ _ _ h
  ·cases h
 ·split at h
  ·rename_i h1
   cases h
   exact hex _ _ _ _ _ _ h1
  ·cases h
 ·exact aseq_fr (fun _ _ _ h => hex _ _ _ _ _ _ h) (fun _ _ _ _ h => hex _ _ _ _ _ _ h) h
 ·rename_i dr
  split at h
  ·rename_i h1
   cases h
   cases dr with
   | true => exact adrawX_fr hm hex h1
   | false => exact aops_fr hm hex h1
  ·cases h
 ·split at h
  ·split at h
   ·split at h
    ·rename_i h1
     have f1 := acall_fr hm hex _ _ _ _ h1
     refine aendLoop_fr hex ?_ h
     exact ((Fra.alloc H .defer _).trans (Fra.alloc _ _ _)).trans (f1.less (Nat.min_le_right _ _))
    ·cases h
   ·split at h
    ·split at h
     ·rename_i h1
      have f1 := acall_fr hm hex _ _ _ _ h1
      refine aendLoop_fr hex ?_ h
      exact (Fra.alloc H _ _).trans (f1.less (Nat.min_le_right _ _))
     ·cases h
    ·cases h
  ·cases h
 ·exact hex _ _ _ _ _ _ (scopeX_some h).1
 all_goals cases h
theorem aexec_fr (hm : T.MemoFr) : ∀ n, ExFr (aexec T P n)
 | 0 => fun _ _ _ _ _ _ h => by cases h
 | n + 1 => astep_fr hm (aexec_fr hm n)
end Go.Am
namespace Go.Am
variable {α : Type} {T : Tab} {P : Program} {N n L : Nat} {r : Option Nat} {e : VT} {H : AHeap} {ds : List Nat}
def rangeK (l : Nat) (Q : AHeap → Prop) (H₂ : AHeap) : Prop := ∃ st t ps as' bd d, st ≠ .busy ∧ H₂.get l = .loop st none t ps as' bd d ∧ Q (H₂.put l (.loop .exhausted none t ps as' bd d))
theorem W_range {g : Operand} {ps : Array Tmp} {assign body : Code} {f : FuncId} {first cap : List Value} {Q : Exit → ES → Prop} (hg : aenv n e g = some (.func (.func f) ⟨first⟩ ⟨cap⟩)) (hL : L ≤ H.size)
  (h : resK (acall T (aexec T P N) f (first ++ [yieldV (H.size + 1)] ++ cap) ((H.alloc .defer).alloc (.loop .ready none (lst n e) ps assign body H.size))) L fun _ _ H₂ => rangeK (H.size + 1) (fun H₃ => Q .normal ⟨n, e, H₃, H.size :: ds⟩) H₂) :
  W T P (N + 1) none (.rangeFunc g ps assign body) L ⟨n, e, H, ds⟩ Q := by
 unfold W
 have hx : aexec T P (N + 1) none (.rangeFunc g ps assign body) ⟨n, e, H, ds⟩ = (match acall T (aexec T P N) f (first ++ [yieldV (H.size + 1)] ++ cap) ((H.alloc .defer).alloc (.loop .ready none (lst n e) ps assign body H.size)) with
   | some (_, _, H₂, m₁) => aendLoop (aexec T P N) none (H.size + 1) n e H₂ (H.size :: ds) (min H.size m₁)
   | none => none) := by
  show (match aenv n e g with
   | some (.func (.func f) first captured) => match acall T (aexec T P N) f (first.toList ++ [yieldV (H.size + 1)] ++ captured.toList) ((H.alloc .defer).alloc (.loop .ready none (lst n e) ps assign body H.size)) with
     | some (_, _, H₂, m₁) => aendLoop (aexec T P N) none (H.size + 1) n e H₂ (H.size :: ds) (min H.size m₁)
     | none => none
   | _ => none) = _
  rw [hg]
 rw [hx]
 unfold resK at h
 cases ha : acall T (aexec T P N) f (first ++ [yieldV (H.size + 1)] ++ cap) ((H.alloc .defer).alloc (.loop .ready none (lst n e) ps assign body H.size)) with
 | none => rw [ha] at h; exact h.elim
 | some p =>
  obtain ⟨b, v, H₂, m⟩ := p
  rw [ha] at h
  obtain ⟨h1, st, t, ps', as', bd, d, hst, hget, hq⟩ := h
  simp only [aendLoop,hget]
  cases st with
  | busy => exact absurd rfl hst
  | _ => exact ⟨by omega, hq⟩
def endY (l : Nat) (Q : Bool → Value → AHeap → Prop) (x : Exit) (s : ES) : Prop := ∃ jump, jumpOf x = some jump ∧ ∃ st p t ps as' bd d, s.H.get l = .loop st p t ps as' bd d ∧ Q false (.bool jump.isNone) (s.H.put l (.loop (if jump.isNone then .ready else .done) jump t ps as' bd d))
theorem endY_normal {l : Nat} {Q : Bool → Value → AHeap → Prop} {st : LoopState} {p : Option Code} {t : List Value} {ps : Array Tmp} {as' bd : Code} {d : Nat} (hg : H.get l = .loop st p t ps as' bd d) (hq : Q false (.bool true) (H.put l (.loop .ready none t ps as' bd d))) : endY l Q .normal ⟨n, e, H, ds⟩ :=
 ⟨none, rfl, st, p, t, ps, as', bd, d, hg, hq⟩
def midY (T : Tab) (P : Program) (N l L : Nat) (body : Code) (Q : Bool → Value → AHeap → Prop) (x : Exit) (s : ES) : Prop := x = .normal ∧ ∃ p t ps as' bd d, s.H.get l = .loop .ready p t ps as' bd d ∧ W T P N (some l) body L ⟨s.n, s.e, s.H.put l (.loop .busy p t ps as' bd d), s.ds⟩ (endY l Q)
theorem midY_normal {l : Nat} {body : Code} {Q : Bool → Value → AHeap → Prop} {p : Option Code} {t : List Value} {ps : Array Tmp} {as' bd : Code} {d : Nat} (hg : H.get l = .loop .ready p t ps as' bd d) (hw : W T P N (some l) body L ⟨n, e, H.put l (.loop .busy p t ps as' bd d), ds⟩ (endY l Q)) : midY T P N l L body Q .normal ⟨n, e, H, ds⟩ :=
 ⟨rfl, p, t, ps, as', bd, d, hg, hw⟩
theorem yield_run {l : Nat} {args t : List Value} {ps : Array Tmp} {assign body : Code} {d : Nat} {p : Option Code} {Q : Bool → Value → AHeap → Prop} (hg : H.get l = .loop .ready p t ps assign body d) (hlen : args.length = ps.size) (hL : L ≤ l)
  (hw : W T P N (some l) assign L ⟨(zipSet t (ps.toList.zip args)).length, env (zipSet t (ps.toList.zip args)) 0 .nil, H, []⟩ (midY T P N l L body Q)) : resK (ayield (aexec T P N) l args H) L Q := by
 unfold resK ayield
 rw [hg]
 simp only
 rw [show Nat.beq args.length ps.size = true by rw [hlen]; simp, cond_true, envK_eq, fNat_eq]
 unfold W at hw
 cases ha : aexec T P N (some l) assign ⟨(zipSet t (ps.toList.zip args)).length, env (zipSet t (ps.toList.zip args)) 0 .nil, H, []⟩ with
 | none => rw [ha] at hw; exact hw.elim
 | some q =>
  obtain ⟨x, s₁, m₁⟩ := q
  rw [ha] at hw
  obtain ⟨k1, rfl, p₁, t₁, ps₁, as₁, bd₁, d₁, k2, k3⟩ := hw
  simp only [k2]
  unfold W at k3
  cases hb : aexec T P N (some l) body ⟨s₁.n, s₁.e, s₁.H.put l (.loop .busy p₁ t₁ ps₁ as₁ bd₁ d₁), s₁.ds⟩ with
  | none => rw [hb] at k3; exact k3.elim
  | some q =>
   obtain ⟨x, s₂, m₂⟩ := q
   rw [hb] at k3
   obtain ⟨k4, jump, k5, st, p₂, t₂, ps₂, as₂, bd₂, d₂, k6, k7⟩ := k3
   simp only [k5,ayieldEnd,k6]
   exact ⟨by omega, k7⟩
theorem gt_round {p j : Nat} {v : Value} : gt (zipSet (lst n e) [(p, v)]).length (env (zipSet (lst n e) [(p, v)]) 0 .nil) j = bif Nat.blt j n then (if j = p then v else e.get j) else undef := by
 unfold gt
 rw [env_get]
 simp only [zipSet,List.length_set,lst_length,Nat.zero_le,if_true,Nat.sub_zero,VT.get]
 cases hj : Nat.blt j n
 ·rfl
 ·have hj' : j < n := lt_of_blt hj
  simp only [cond_true]
  rw [List.getElem?_set]
  split
  ·rename_i h
   subst h
   simp [hj']
  ·rename_i h
   rw [lst_get, if_pos hj']
   simp [Ne.symm h]
theorem gt_round_same {p : Nat} {v : Value} (h : p < n) : gt (zipSet (lst n e) [(p, v)]).length (env (zipSet (lst n e) [(p, v)]) 0 .nil) p = v := by
 rw [gt_round, blt_true h]; simp
theorem gt_round_ne {p j : Nat} {v : Value} (h : j ≠ p) : gt (zipSet (lst n e) [(p, v)]).length (env (zipSet (lst n e) [(p, v)]) 0 .nil) j = gt n e j := by
 rw [gt_round]
 unfold gt
 cases Nat.blt j n <;> simp [h]
theorem calK_yield {l : Nat} {a b : List Value} {F : FuncId → List Value → List Value → Prop} {Y : Nat → List Value → Prop} : calK (.func (.yield l) ⟨a⟩ ⟨b⟩) F Y = Y l a := nr rfl
theorem atake_cons {k : Nat} {ks : List Nat} (h : H.get k = .defer) : atake (k :: ks) H = atake ks (H.put k .dead) := by
 rw [atake.eq_def]
 simp only [h]
def retD (T : Tab) (L : Nat) (rs : List ResultVar) (R : Value → AHeap → Prop) (x : Exit) (s : ES) : Prop := outK x ((∀ k ∈ s.ds, L ≤ k) ∧ L ≤ s.H.size ∧ ∃ H', atake s.ds s.H = some H' ∧ ∃ v, resV T s.n s.e H' rs = some v ∧ R v H')
theorem atake_size : ∀ {ds : List Nat} {H H' : AHeap}, atake ds H = some H' → H'.size = H.size
 | [], H, H', h => by cases h; rfl
 | k :: ks, H, H', h => by
  unfold atake at h
  split at h
  ·rw [atake_size h, AHeap.size_put]
  ·cases h
theorem call_anyD {g : FuncId} {args : List Value} {fn : Func} {c : Code} {R : Value → AHeap → Prop} {rs : List ResultVar} (hm : T.memo g args H = none) (hf : T.fn g = some fn) (hb : fn.body = some c) (hr : fn.results.toList = rs) {k : Nat} (hk : args.length + (fn.ntmps - args.length) = k)
  (hw : W T P N none c L ⟨k, env args 0 .nil, H, []⟩ (retD T L rs R)) :
  ∃ v H' m, acall T (aexec T P N) g args H = quietV v H H' m ∧ L ≤ m ∧ R v H' := by
 subst hk
 unfold W at hw
 unfold acall acall0
 rw [hm, hf]
 simp only [hb,envK_eq,fNat_eq]
 cases ha : aexec T P N none c ⟨args.length + (fn.ntmps - args.length), env args 0 .nil, H, []⟩ with
 | none => rw [ha] at hw; exact hw.elim
 | some p =>
  obtain ⟨x, s, m⟩ := p
  rw [ha] at hw
  obtain ⟨h1, h2⟩ := hw
  have key : ((∀ k ∈ s.ds, L ≤ k) ∧ L ≤ s.H.size ∧ ∃ H', atake s.ds s.H = some H' ∧ ∃ v, resV T s.n s.e H' rs = some v ∧ R v H') → ∃ v H' m', aleave T fn H s m = quietV v H H' m' ∧ L ≤ m' ∧ R v H' := by
   rintro ⟨k1, k4, H', k5, v, k2, k3⟩
   have hr' : ares T fn s.n s.e H' = some v := by rw [← hr] at k2; exact k2
   refine ⟨v, H', min (minAl m s.ds) s.H.size, ?_, ?_, k3⟩
   ·unfold aleave
    simp only [k5,hr',fV_eq,fNat_eq]
   ·have := le_minAl h1 k1
    omega
  cases x with
  | normal => exact key h2
  | ret => exact key h2
  | _ => exact h2.elim
theorem atake_all : ∀ (ds : List Nat) (H : AHeap), ds.Nodup → (∀ k ∈ ds, H.get k = .defer) → ∃ H', atake ds H = some H'
 | [], H, _, _ => ⟨H, rfl⟩
 | d :: ds, H, hn, hd => by
  rw [atake_cons (hd d (by simp))]
  rw [List.nodup_cons] at hn
  refine atake_all ds _ hn.2 fun k hk => ?_
  rw [AHeap.get_put_other]
  ·exact hd k (by simp [hk])
  ·rintro rfl; exact hn.1 hk
def loopKD (n : Nat) (I : Nat → VT → AHeap → List Nat → Prop) (k : Nat) (Q : Exit → ES → Prop) (x : Exit) (s : ES) : Prop := match x with
 | .normal => s.n = n ∧ ∃ k', k' < k ∧ I k' s.e s.H s.ds
 | x => Q x s
def nextKD (I : Nat → VT → AHeap → List Nat → Prop) (k : Nat) (e : VT) (H : AHeap) (ds : List Nat) (_ : Tag I := .mk) : Prop := ∃ k', k' < k ∧ I k' e H ds
theorem loopKD_normal {I : Nat → VT → AHeap → List Nat → Prop} {k : Nat} {Q : Exit → ES → Prop} : loopKD n I k Q .normal ⟨n, e, H, ds⟩ = nextKD I k e H ds := by simp [loopKD, nextKD]
theorem loopKD_ret {I : Nat → VT → AHeap → List Nat → Prop} {k : Nat} {Q : Exit → ES → Prop} {s : ES} : loopKD n I k Q .ret s = Q .ret s := nr rfl
theorem loopKD_exit {I : Nat → VT → AHeap → List Nat → Prop} {k i : Nat} {Q : Exit → ES → Prop} {s : ES} : loopKD n I k Q (.exit i) s = Q (.exit i) s := nr rfl
theorem W_whileD0 {b : Code} {Q : Exit → ES → Prop} (K₀ F : Nat) (I : Nat → VT → AHeap → List Nat → Prop)
  (hb : ∀ N k e H ds, K₀ ≤ N → I k e H ds → W T P (N + F) r b L ⟨n, e, H, ds⟩ (loopKD n I k Q)) : ∀ K k N e H ds, K₀ ≤ N → I k e H ds → k ≤ K → W T P (N + (F + K) + 1) r (.loop b) L ⟨n, e, H, ds⟩ Q := by
 intro K
 induction K with
 | zero =>
  intro k N e H ds h₀ hi hk
  rw [W_loop]
  refine W_mono (hb N k e H ds h₀ hi) ?_
  intro x s hx
  cases x with
  | normal => obtain ⟨_, k', h, _⟩ := hx; omega
  | _ => exact hx
 | succ K ih =>
  intro k N e H ds h₀ hi hk
  rw [W_loop]
  refine W_mono (show W T P (N + (F + (K + 1))) r b L ⟨n, e, H, ds⟩ (loopKD n I k Q) from by
   have := hb (N + (K + 1)) k e H ds (by omega) hi
   rwa [show N + (K + 1) + F = N + (F + (K + 1)) by omega] at this) ?_
  intro x s hx
  cases x with
  | normal =>
   obtain ⟨h1, k', h3, h4⟩ := hx
   obtain ⟨n', e', H', ds'⟩ := s
   simp only at h1 h4
   subst h1
   exact ih k' N e' H' ds' h₀ h4 (by omega)
  | _ => exact hx
theorem W_whileD {b : Code} {Q : Exit → ES → Prop} (K₀ F : Nat) (I : Nat → VT → AHeap → List Nat → Prop)
  (hb : ∀ N k e H ds, K₀ ≤ N → I k e H ds → W T P (N + F) r b L ⟨n, e, H, ds⟩ (loopKD n I k Q)) (K k : Nat) {M : Nat} (hi : I k e H ds) (hk : k ≤ K) (hM : K₀ + F + K + 1 ≤ M) : W T P M r (.loop b) L ⟨n, e, H, ds⟩ Q := by
 have := W_whileD0 K₀ F I hb K k (M - (F + K + 1)) e H ds (by omega) hi hk
 rwa [show M - (F + K + 1) + (F + K) + 1 = M by omega] at this
end Go.Am
namespace Go.Am
variable {α : Type} {T : Tab} {P : Program} {N n L : Nat} {r : Option Nat} {e : VT} {H : AHeap} {ds : List Nat} {ex : Exec} {t : Operand → Option Value} {Q : Bool → Value → AHeap → Prop}
def arS (T : Tab) (ty : TypeId) : Option (Nat × Nat) := match T.und ty with
 | some (.array len e) => match T.inf e with
  | some i => some (len, i.size)
  | none => none
 | _ => none
theorem A_indexArr {ty : TypeId} {x ix : Operand} {len z : Nat} (hz : arS T ty = some (len, z)) : A T P ex t H L (.indexAddr ty x ix) Q = optK (t x) fun v => ptrK v fun b o => optK (t ix) fun i => idxK i len fun i => letK (o + i * z) fun o => andK (L ≤ H.size) (Q true (.pointer (some ⟨b, o, none⟩)) H) := by
 unfold A
 show (match still (aIndexAddr T t H ty x ix) with
  | some (b, v, H', m) => L ≤ m ∧ Q b v H'
  | none => False) = _
 unfold arS at hz
 unfold aIndexAddr
 cases hu : T.und ty with
 | none => rw [hu] at hz; cases hz
 | some d =>
  cases d with
  | array ln el =>
   rw [hu] at hz
   simp only at hz
   cases hi : T.inf el with
   | none => rw [hi] at hz; cases hz
   | some i =>
    rw [hi] at hz
    cases hz
    cases t x with
    | none => rfl
    | some v =>
     cases v with
     | pointer a =>
      cases a with
      | none => cases t ix with
       | none => rfl
       | some w => cases w <;> rfl
      | some a =>
       cases t ix with
       | none => rfl
       | some w =>
        cases w with
        | int k m =>
         simp only [optK,ptrK,idxK,hi]
         by_cases h : 0 ≤ m ∧ m < len
         ·simp [h.1, h.2, still, letK, andK]
         ·have : (decide (0 ≤ m) && decide (m < (len : Int))) = false := by simpa using h
          simp only [this,cond_false,still,h,false_and]
        | _ => rfl
     | slice a l c =>
      cases a with
      | none => cases t ix with
       | none => rfl
       | some w => cases w <;> rfl
      | some a => cases t ix with
       | none => rfl
       | some w => cases w <;> rfl
     | _ => cases t ix with
       | none => rfl
       | some w => cases w <;> rfl
  | _ => rw [hu] at hz; cases hz
def ixV (T : Tab) (ty : TypeId) : Option (Nat × Nat × Nat) := match T.und ty with
 | some (.array len e) => match T.inf e, ldS T e with
  | some i, some z => some (len, i.size, z)
  | _, _ => none
 | _ => none
theorem aPart_of {e : TypeId} {cs : List Value} {off z : Nat} {v : Value} (hz : ldS T e = some z) (h : part cs off z = some v) : aPart T e cs off = some v := by
 unfold ldS at hz
 unfold aPart
 cases hu : T.und e with
 | none => rw [hu] at hz; cases hz
 | some d =>
  cases hi : T.inf e with
  | none => rw [hu, hi] at hz; cases hz
  | some i =>
   rw [hu, hi] at hz
   simp only [fNat_eq,Option.some.injEq] at hz
   subst hz
   simp only
   generalize aggOf d = g at h ⊢
   cases g
   ·exact h
   ·simp only [cond_true,part] at h ⊢
    cases hb : Nat.beq ((cs.drop off).take i.size).length i.size
    ·rw [hb] at h; cases h
    ·rw [hb] at h; exact h
theorem A_index_of {ty : TypeId} {x ix : Operand} {len sz z : Nat} {cs : List Value} {k : IntKind} {i : Int} {v : Value} (hz : ixV T ty = some (len, sz, z)) (hx : t x = some (.agg ⟨cs⟩)) (hi : t ix = some (.int k i)) (h0 : 0 ≤ i ∧ i < len)
  (hp : part cs (i.toNat * sz) z = some v) (hL : L ≤ H.size) (hq : Q true v H) : A T P ex t H L (.index ty x ix) Q := by
 unfold A
 show (match still (orElse (aIndex T t H ty x ix) (aIndexG P t H ty x ix)) with
  | some (b, v, H', m) => L ≤ m ∧ Q b v H'
  | none => False)
 have : aIndex T t H ty x ix = some (v, H, H.size) := by
  unfold ixV at hz
  unfold aIndex
  rw [hx, hi]
  cases hu : T.und ty with
  | none => rw [hu] at hz; cases hz
  | some d =>
   cases d with
   | array ln el =>
    rw [hu] at hz
    simp only at hz
    cases hie : T.inf el with
    | none => rw [hie] at hz; cases hz
    | some ie =>
     cases hl : ldS T el with
     | none => rw [hie, hl] at hz; cases hz
     | some z' =>
      rw [hie, hl] at hz
      cases hz
      simp only [hie,h0.1,h0.2,decide_true,Bool.and_self,cond_true]
      rw [aPart_of hl hp]
   | _ => rw [hu] at hz; cases hz
 rw [this]
 exact ⟨hL, hq⟩
theorem A_cut_of {ty : TypeId} {x y : Operand} {len z b o : Nat} {s : Option Nat} {i : Int} (hz : arS T ty = some (len, z)) (hx : t x = some (.pointer (some ⟨b, o, s⟩))) (hy : t y = some (.int .i64 i)) (h0 : 0 ≤ i ∧ i ≤ len) (hlen : len < OPEN) (hpos : 0 < len)
  (hL : L ≤ H.size) (hq : Q true (.slice (some ⟨b, o, none⟩) i.toNat len) H) : A T P ex t H L (.slice ty x none (some y) none) Q := by
 unfold A
 show (match still (aSlice T t H ty x none (some y) none) with
  | some (b, v, H', m) => L ≤ m ∧ Q b v H'
  | none => False)
 have : aSlice T t H ty x none (some y) none = some (.slice (some ⟨b, o, none⟩) i.toNat len, H, H.size) := by
  unfold arS at hz
  unfold aSlice
  rw [hx]
  cases hu : T.und ty with
  | none => rw [hu] at hz; cases hz
  | some d =>
   cases d with
   | array ln el =>
    rw [hu] at hz
    simp only at hz
    cases hie : T.inf el with
    | none => rw [hie] at hz; cases hz
    | some ie =>
     rw [hie] at hz
     cases hz
     have hab : abounds len len none (some i) none = some (0, i.toNat, len) := by
      delta abounds
      simp only [h0.1,h0.2,decide_true,Bool.and_self,cond_true]
     have hne : Nat.beq len 0 = false := beq_ne (by omega)
     simp only [abound,hy,hie,hab,blt_true hlen,cond_true,Nat.sub_zero,hne,cond_false,Nat.zero_mul,Nat.add_zero]
   | _ => rw [hu] at hz; cases hz
 rw [this]
 exact ⟨hL, hq⟩
def baS (T : Tab) (ty : TypeId) : Option (List Value × Nat) := match T.inf ty with
 | some i => match i.zero with
  | some z => bif gr z then (match T.und ty with
   | some (.array _ e) => match T.inf e with
    | some j => some (z.cells.toList, j.size)
    | none => none
   | _ => none) else none
  | none => none
 | none => none
theorem A_buildArr {ty : TypeId} {ps : List (Nat × Operand)} {s : List Value × Nat} (hs : baS T ty = some s) : A T P ex t H L (.build ty ps.toArray) Q = optK (aparts t ps) fun l => optK (afill (fun i => some (i * s.2, s.2)) s.1 l) fun c => andK (L ≤ H.size) (Q true (.agg ⟨c⟩) H) := by
 unfold A
 show (match still (aBuild T t H ty ps.toArray) with
  | some (b, v, H', m) => L ≤ m ∧ Q b v H'
  | none => False) = _
 unfold baS at hs
 unfold aBuild
 simp only
 cases hi : T.inf ty with
 | none => rw [hi] at hs; cases hs
 | some i =>
  rw [hi] at hs
  simp only at hs
  cases hz : i.zero with
  | none => rw [hz] at hs; cases hs
  | some z =>
   rw [hz] at hs
   simp only at hs
   cases hg : gr z
   ·rw [hg] at hs; cases hs
   ·rw [hg, cond_true] at hs
    cases hu : T.und ty with
    | none => rw [hu] at hs; cases hs
    | some d =>
     rw [hu] at hs
     cases d with
     | array n e =>
      simp only at hs
      cases hj : T.inf e with
      | none => rw [hj] at hs; cases hs
      | some j =>
       rw [hj] at hs
       cases hs
       cases aparts t ps with
       | none => rfl
       | some l =>
        simp only [optK,hj,hg,cond_true,hz]
        cases afill (fun i => some (i * j.size, j.size)) z.cells.toList l <;> rfl
     | _ => cases hs
theorem call_keep (hT : T.MemoFr) {g : FuncId} {args : List Value} {fn : Func} {c : Code} {R : Value → AHeap → Prop} {rs : List ResultVar} (hm : T.memo g args H = none) (hf : T.fn g = some fn) (hb : fn.body = some c) (hr : fn.results.toList = rs) {k : Nat} (hk : args.length + (fn.ntmps - args.length) = k) (hL : L ≤ H.size)
  (hw : W T P N none c L ⟨k, env args 0 .nil, H, []⟩ (retK T L rs R)) (hq : ∀ v H', R v H' → Q false v H') (hq' : ∀ v H', R v H' → gr v = true → Fr H H' → Q true v H) :
  resK (acall T (aexec T P N) g args H) L Q := by
 subst hk
 unfold W at hw
 unfold resK acall acall0
 rw [hm, hf]
 simp only [hb,envK_eq,fNat_eq]
 cases ha : aexec T P N none c ⟨args.length + (fn.ntmps - args.length), env args 0 .nil, H, []⟩ with
 | none => rw [ha] at hw; exact hw.elim
 | some p =>
  obtain ⟨x, s, m⟩ := p
  have hfr := aexec_fr hT N _ _ _ _ _ _ ha
  simp only at hfr
  rw [ha] at hw
  obtain ⟨h1, h2⟩ := hw
  have key : (s.ds = [] ∧ L ≤ s.H.size ∧ ∃ v, resV T s.n s.e s.H rs = some v ∧ R v s.H) → (match aleave T fn H s m with
    | some (b, v, H', m) => L ≤ m ∧ Q b v H'
    | none => False) := by
   rintro ⟨k1, k4, v, k2, k3⟩
   have hr' : ares T fn s.n s.e s.H = some v := by rw [← hr] at k2; exact k2
   unfold aleave
   rw [k1]
   simp only [atake,hr',fV_eq,fNat_eq,minAl]
   unfold quietV
   cases hq2 : (Nat.ble H.size (min m s.H.size) && gr v)
   ·simp only [cond_false]
    exact ⟨by omega, hq _ _ k3⟩
   ·simp only [cond_true]
    simp only [Bool.and_eq_true] at hq2
    have := Nat.le_of_ble_eq_true hq2.1
    exact ⟨hL, hq' _ _ k3 hq2.2 ⟨hfr.size, fun k hk => hfr.same k (by omega) hk⟩⟩
  cases x with
  | normal => exact key h2
  | ret => exact key h2
  | _ => exact h2.elim
theorem call_quietD {g : FuncId} {args : List Value} {fn : Func} {c : Code} {v : Value} {rs : List ResultVar} (hm : T.memo g args H = none) (hf : T.fn g = some fn) (hb : fn.body = some c) (hr : fn.results.toList = rs) {k : Nat} (hk : args.length + (fn.ntmps - args.length) = k)
  (hw : W T P N none c H.size ⟨k, env args 0 .nil, H, []⟩ (retD T H.size rs fun u _ => u = v)) (hg : gr v = true) :
  acall T (aexec T P N) g args H = some (true, v, H, H.size) := by
 obtain ⟨u, H', m, h1, h2, rfl⟩ := call_anyD hm hf hb hr hk hw
 rw [h1]
 unfold quietV
 rw [hg, show Nat.ble H.size m = true from Nat.ble_eq_true_of_le h2]; rfl
theorem resK_mono {q : Res} {Q' : Bool → Value → AHeap → Prop} (h : resK q L Q) (hq : ∀ b v H', Q b v H' → Q' b v H') : resK q L Q' := by
 unfold resK at *
 cases q with
 | none => exact h
 | some p => exact ⟨h.1, hq _ _ _ h.2⟩
theorem lt_of_cells {k : Nat} {c : List Value} (h : cellsOf (H.get k) = some c) : k < H.size := by
 refine Classical.byContradiction fun hn => ?_
 unfold AHeap.get at h
 rw [blt_false (by omega)] at h
 cases h
theorem resV_none : resV T n e H [] = some (.tuple ⟨[]⟩) := rfl
def mkS (T : Tab) (ty : TypeId) : Option (TypeId × Value × Nat × Nat) := match T.und ty with
 | some (.slice e) => match T.inf e with
  | some i => match i.zero with
   | some z => some (e, z, i.size, i.bytes)
   | none => none
  | none => none
 | _ => none
theorem A_make_of {ty e : TypeId} {x : Operand} {z : Value} {sz bs : Nat} {m : Int} (hz : mkS T ty = some (e, z, sz, bs)) (hx : t x = some (.int .i64 m)) (h0 : 0 ≤ m) (hb : (bs : Int) * m ≤ 281474976710656) (hm : m ≤ 9223372036854775807) (hg : allGrV (madeCells z.cells (m.toNat * sz)).toList = true)
  (hL : L ≤ H.size) (hq : Q false (.slice (some ⟨H.size, 0, none⟩) m.toNat m.toNat) (H.alloc (.rw (madeCells z.cells (m.toNat * sz)).toList e false []))) : A T P ex t H L (.makeSlice ty x x) Q := by
 unfold A
 show (match fresh H (newMade T t ty x x) with
  | some (b, v, H', m) => L ≤ m ∧ Q b v H'
  | none => False)
 have : newMade T t ty x x = some (.sl m.toNat m.toNat, .rw (madeCells z.cells (m.toNat * sz)).toList e false []) := by
  unfold mkS at hz
  unfold newMade
  rw [hx]
  cases hu : T.und ty with
  | none => rw [hu] at hz; cases hz
  | some d =>
   cases d with
   | slice el =>
    rw [hu] at hz
    simp only at hz
    cases hie : T.inf el with
    | none => rw [hie] at hz; cases hz
    | some ie =>
     rw [hie] at hz
     simp only at hz
     cases hze : ie.zero with
     | none => rw [hze] at hz; cases hz
     | some ze =>
      rw [hze] at hz
      cases hz
      simp only [hie,hze,h0,hb,hm,hg,Int.le_refl,decide_true,Bool.and_self,cond_true]
   | _ => rw [hu] at hz; cases hz
 rw [this]
 exact ⟨hL, hq⟩
theorem wrB_al {b o : Nat} {vs c : List Value} {ty : TypeId} {op : Bool} {al : List Nat} {Q : Nat → AHeap → Prop} : wrB (.rw c ty op al) H b o vs Q = letK (zed o vs c) fun q => Split q (letK (zee o vs c) fun c => Q (minAl b al) ((H.kill al).put b (.rw c ty op []))) False := by
 unfold wrB zed letK
 simp only [ble_iff]
 generalize (decide (o + vs.length ≤ c.length) && oneCells vs) = q
 cases q
 ·rw [cond_false, zbc]
 ·rw [cond_true, zbb]; rfl
def midK (n : Nat) (ds : List Nat) (I : VT → AHeap → Prop) (Q : Exit → ES → Prop) (x : Exit) (s : ES) : Prop := match x with
 | .normal => s.n = n ∧ s.ds = ds ∧ I s.e s.H
 | x => Q x s
def midN (I : VT → AHeap → Prop) (e : VT) (H : AHeap) (_ : Tag I := .mk) : Prop := I e H
theorem midK_normal {I : VT → AHeap → Prop} {Q : Exit → ES → Prop} : midK n ds I Q .normal ⟨n, e, H, ds⟩ = midN I e H := by simp [midK, midN]
theorem midK_exit {I : VT → AHeap → Prop} {Q : Exit → ES → Prop} {i : Nat} {s : ES} : midK n ds I Q (.exit i) s = Q (.exit i) s := nr rfl
theorem midK_ret {I : VT → AHeap → Prop} {Q : Exit → ES → Prop} {s : ES} : midK n ds I Q .ret s = Q .ret s := nr rfl
theorem W_seqI {x y : Code} {Q : Exit → ES → Prop} (I : VT → AHeap → Prop) (hx : W T P N r x L ⟨n, e, H, ds⟩ (midK n ds I Q)) (hy : ∀ e H, I e H → W T P N r y L ⟨n, e, H, ds⟩ Q) : W T P (N + 1) r (.seq x y) L ⟨n, e, H, ds⟩ Q := by
 rw [zag]
 refine W_mono hx ?_
 intro x' s' h
 cases x' with
 | normal =>
  obtain ⟨n', e', H', ds'⟩ := s'
  obtain ⟨rfl, rfl, h3⟩ := h
  exact hy e' H' h3
 | _ => exact h
theorem W_skipI {y : Code} {Q Q' : Exit → ES → Prop} {N' : Nat} (hL : L ≤ H.size) (hy : W T P N' r y L ⟨n, e, H, ds⟩ Q) : W T P (N + 1) r .skip L ⟨n, e, H, ds⟩ (fun x' s' => seqK x' (W T P N' r y L s' Q) (Q' x' s')) := by
 rw [zac, zba _ hL, zbe]
 exact hy
def sub : List Bool → Code → Code
 | [], c => c
 | false :: p, .seq x _ => sub p x
 | true :: p, .seq _ y => sub p y
 | false :: p, .block _ b => sub p b
 | false :: p, .loop b => sub p b
 | false :: p, .cond _ x _ => sub p x
 | true :: p, .cond _ _ y => sub p y
 | _, c => c
theorem sub_nil {c : Code} : sub [] c = c := rfl
theorem sub_seq0 {p : List Bool} {x y : Code} : sub (false :: p) (.seq x y) = sub p x := rfl
theorem sub_seq1 {p : List Bool} {x y : Code} : sub (true :: p) (.seq x y) = sub p y := rfl
theorem sub_block {p : List Bool} {i : Nat} {x : Code} : sub (false :: p) (.block i x) = sub p x := rfl
theorem sub_loop {p : List Bool} {x : Code} : sub (false :: p) (.loop x) = sub p x := rfl
theorem sub_cond0 {p : List Bool} {c : Operand} {x y : Code} : sub (false :: p) (.cond c x y) = sub p x := rfl
theorem sub_cond1 {p : List Bool} {c : Operand} {x y : Code} : sub (true :: p) (.cond c x y) = sub p y := rfl
def bodyOf (f : Func) : Code := match f.body with
 | some c => c
 | none => .skip
def endK (n : Nat) (ds : List Nat) (I : VT → AHeap → Prop) (x : Exit) (s : ES) : Prop := match x with
 | .normal => s.n = n ∧ s.ds = ds ∧ I s.e s.H
 | _ => False
theorem endK_normal {I : VT → AHeap → Prop} : endK n ds I .normal ⟨n, e, H, ds⟩ = midN I e H := by simp [endK, midN]
theorem W_end {c : Code} {Q : Exit → ES → Prop} {I : VT → AHeap → Prop} (h : W T P N r c L ⟨n, e, H, ds⟩ (endK n ds I)) (hq : ∀ e' H', I e' H' → Q .normal ⟨n, e', H', ds⟩) : W T P N r c L ⟨n, e, H, ds⟩ Q := by
 refine W_mono h ?_
 intro x' s' h
 cases x' with
 | normal =>
  obtain ⟨n', e', H', ds'⟩ := s'
  obtain ⟨rfl, rfl, h3⟩ := h
  exact hq e' H' h3
 | _ => exact h.elim
def Keep (n : Nat) (js : List Nat) (e e' : VT) : Prop := ∀ j ∈ js, gt n e' j = gt n e j
theorem Keep.refl (n : Nat) (js : List Nat) (e : VT) : Keep n js e e := fun _ _ => rfl
theorem Keep.trans {js : List Nat} {e e' e'' : VT} (h : Keep n js e e') (h' : Keep n js e' e'') : Keep n js e e'' := fun j hj => (h' j hj).trans (h j hj)
theorem Keep.put {js : List Nat} {e e' : VT} {i : Nat} {v : Value} (h : Keep n js e e') (hi : i ∉ js) : Keep n js e (e'.put (some i) v) := fun j hj => by
 rw [zbx n e' i j v (fun hh => hi (hh ▸ hj))]
 exact h j hj
theorem Keep.none {js : List Nat} {e e' : VT} {v : Value} (h : Keep n js e e') : Keep n js e (e'.put none v) := h
def tv (t : List Int) : List Value := t.map fun n => .int .i64 n
theorem tv_len (t : List Int) : (tv t).length = t.length := List.length_map ..
theorem one_tv : ∀ t : List Int, oneCells (tv t) = true
 | [] => rfl
 | n :: t => one_tv t
theorem gr_tv (t : List Int) : gr (.agg ⟨tv t⟩) = true := by
 show (tv t).all (ground 5) = true
 rw [List.all_eq_true]
 intro v hv
 obtain ⟨n, -, rfl⟩ := List.mem_map.1 hv
 rfl
theorem newC_all {vs c : List Value} (h : vs.length = c.length) : zee 0 vs c = vs := by
 unfold zee
 rw [List.take_zero, List.nil_append, Nat.zero_add, h, List.drop_length, List.append_nil]
theorem newC_tv {t : List Int} {i : Nat} {v : Int} (h : i < t.length) : zee i [.int .i64 v] (tv t) = tv (t.set i v) := by
 unfold zee tv
 rw [← List.map_take, ← List.map_drop, List.map_set]
 simp only [List.length_cons,List.length_nil,Nat.zero_add]
 rw [List.set_eq_take_append_cons_drop, List.length_map, if_pos h, List.map_take, List.map_drop]
 simp
theorem tv_get {t : List Int} {i : Nat} (h : i < t.length) : (tv t)[i]? = some (.int .i64 (t.getD i (-1))) := by
 unfold tv
 rw [List.getElem?_map, List.getElem?_eq_getElem h, List.getD_eq_getElem?_getD, List.getElem?_eq_getElem h]; rfl
theorem part_tv {t : List Int} {s : Nat} (h : t.length = s) : part (tv t) 0 (s + 1) = some (.agg ⟨tv t⟩) := part_all (by rw [tv_len, h])
theorem midY_gen {l : Nat} {body : Code} {p : Option Code} {tl : List Value} {ps : Array Tmp} {as' bd : Code} {d : Nat} (hg : H.get l = .loop .ready p tl ps as' bd d) (hw : ∀ bz, bz = .loop .busy p tl ps as' bd d → W T P N (some l) body L ⟨n, e, H.put l bz, ds⟩ (endY l Q)) : midY T P N l L body Q .normal ⟨n, e, H, ds⟩ := midY_normal hg (hw _ rfl)
theorem yield_run1 {l p : Nat} {arg : Value} {assign body : Code} {d : Nat} {pe : Option Code} (hg : H.get l = .loop .ready pe (lst n e) #[p] assign body d) (hp : p < n) (hL : L ≤ l)
  (hw : ∀ e', gt n e' p = arg → (∀ j, j ≠ p → gt n e' j = gt n e j) → W T P N (some l) assign L ⟨n, e', H, []⟩ (midY T P N l L body Q)) : resK (ayield (aexec T P N) l [arg] H) L Q := by
 refine yield_run hg rfl hL ?_
 have hlen : (zipSet (lst n e) ((#[p] : Array Nat).toList.zip [arg])).length = n := by
  rw [zipSet_length, lst_length]
 have h1 := gt_round_same (n := n) (e := e) (p := p) (v := arg) hp
 have h2 := fun j (hj : j ≠ p) => gt_round_ne (n := n) (e := e) (p := p) (v := arg) hj
 have hz : zipSet (lst n e) ((#[p] : Array Nat).toList.zip [arg]) = zipSet (lst n e) [(p, arg)] := rfl
 rw [hlen]
 rw [hz] at hlen ⊢
 rw [hlen] at h1
 refine hw _ h1 fun j hj => ?_
 have := h2 j hj
 rwa [hlen] at this
end Go.Am
set_option linter.defProp false
namespace Go.Am
open Go.Proofs
theorem st_alS_130 : alS tabA 130 = some [(.int IntKind.i64 0), (.int IntKind.i64 0), (.int IntKind.i64 0), (.int IntKind.i64 0), (.int IntKind.i64 0), (.int IntKind.i64 0), (.int IntKind.i64 0), (.int IntKind.i64 0)] := by kernel_rfl
theorem st_alS_148 : alS tabA 148 = some [(.int IntKind.i64 0), (.slice none 0 0), (.int IntKind.i64 0), (.int IntKind.i64 0), (.int IntKind.i64 0), .nilFunc, .nilFunc, .nilFunc] := by kernel_rfl
theorem st_alS_28 : alS tabA 28 = some [(.int IntKind.i64 0), (.bool false)] := by kernel_rfl
theorem st_alS_54 : alS tabA 54 = some [(.int IntKind.i64 0), (.bool false)] := by kernel_rfl
theorem st_apS_52 : apS tabA 52 = some (3, 1, 8) := by kernel_rfl
theorem st_arS_130 : arS tabA 130 = some (8, 1) := by kernel_rfl
theorem st_bdS_148 : bdS tabA 148 = some ([(.int IntKind.i64 0), (.slice none 0 0), (.int IntKind.i64 0), (.int IntKind.i64 0), (.int IntKind.i64 0), .nilFunc, .nilFunc, .nilFunc], [(0, 5), (5, 1), (6, 1), (7, 1)]) := by kernel_rfl
theorem st_bdS_28 : bdS tabA 28 = some ([(.int IntKind.i64 0), (.bool false)], [(0, 1), (1, 1)]) := by kernel_rfl
theorem st_bdS_54 : bdS tabA 54 = some ([(.int IntKind.i64 0), (.bool false)], [(0, 1), (1, 1)]) := by kernel_rfl
theorem st_brS_52_0 : brS tabA 52 0 = some (1, 3, []) := by kernel_rfl
theorem st_brS_52_2 : brS tabA 52 2 = some (1, 3, [(.int IntKind.i64 0), (.int IntKind.i64 0)]) := by kernel_rfl
theorem st_esS_132 : esS tabA 132 = some 1 := by kernel_rfl
theorem st_faS_148_0 : faS tabA 148 0 = some 0 := by kernel_rfl
theorem st_faS_148_1 : faS tabA 148 1 = some 5 := by kernel_rfl
theorem st_faS_148_2 : faS tabA 148 2 = some 6 := by kernel_rfl
theorem st_faS_148_3 : faS tabA 148 3 = some 7 := by kernel_rfl
theorem st_inS_130 : inS tabA 130 = some 8 := by kernel_rfl
theorem st_inS_148 : inS tabA 148 = some 8 := by kernel_rfl
theorem st_inS_28 : inS tabA 28 = some 2 := by kernel_rfl
theorem st_inS_4 : inS tabA 4 = some 1 := by kernel_rfl
theorem st_inS_54 : inS tabA 54 = some 2 := by kernel_rfl
theorem st_ixV_130 : ixV tabA 130 = some (8, 1, 0) := by kernel_rfl
theorem st_ixV_171 : ixV tabA 171 = some (2, 2, 3) := by kernel_rfl
theorem st_ldS_113 : ldS tabA 113 = some 0 := by kernel_rfl
theorem st_ldS_126 : ldS tabA 126 = some 0 := by kernel_rfl
theorem st_ldS_130 : ldS tabA 130 = some 9 := by kernel_rfl
theorem st_ldS_136 : ldS tabA 136 = some 0 := by kernel_rfl
theorem st_ldS_146 : ldS tabA 146 = some 0 := by kernel_rfl
theorem st_ldS_148 : ldS tabA 148 = some 9 := by kernel_rfl
theorem fn_32 : tabA.fn 32 = some Try.f32 := by kernel_rfl
theorem fn_52 : tabA.fn 52 = some Try.f52 := by kernel_rfl
theorem fn_88 : tabA.fn 88 = some Try.f88 := by kernel_rfl
theorem fn_89 : tabA.fn 89 = some Try.f89 := by kernel_rfl
theorem fn_94 : tabA.fn 94 = some Try.f94 := by kernel_rfl
theorem fn_101 : tabA.fn 101 = some Try.f101 := by kernel_rfl
theorem fn_102 : tabA.fn 102 = some Try.f102 := by kernel_rfl
theorem fn_103 : tabA.fn 103 = some Try.f103 := by kernel_rfl
theorem fn_104 : tabA.fn 104 = some Try.f104 := by kernel_rfl
theorem fn_106 : tabA.fn 106 = some Try.f106 := by kernel_rfl
theorem fn_118 : tabA.fn 118 = some Try.f118 := by kernel_rfl
theorem fn_122 : tabA.fn 122 = some Try.f122 := by kernel_rfl
theorem fn_123 : tabA.fn 123 = some Try.f123 := by kernel_rfl
def ysu := (And.intro (And.intro (And.intro (And.intro @st_alS_130 (And.intro @st_alS_148 @st_alS_28)) (And.intro (And.intro @st_alS_54 @st_apS_52) (And.intro @st_arS_130 @st_bdS_148))) (And.intro (And.intro @st_bdS_28 (And.intro @st_bdS_54 @st_brS_52_0)) (And.intro (And.intro @st_brS_52_2 @st_esS_132) (And.intro @st_faS_148_0 @st_faS_148_1)))) (And.intro (And.intro (And.intro @st_faS_148_2 (And.intro @st_faS_148_3 @st_inS_130)) (And.intro (And.intro @st_inS_148 @st_inS_28) (And.intro @st_inS_4 @st_inS_54))) (And.intro (And.intro (And.intro @st_ixV_130 @st_ixV_171) (And.intro @st_ldS_113 @st_ldS_126)) (And.intro (And.intro @st_ldS_130 @st_ldS_136) (And.intro @st_ldS_146 @st_ldS_148)))))
def yrg := (And.intro (And.intro @loopKD_normal (And.intro @loopKD_ret @loopKD_exit)) (And.intro (And.intro @midK_normal @midK_exit) (And.intro @midK_ret @endK_normal)))
end Go.Am
