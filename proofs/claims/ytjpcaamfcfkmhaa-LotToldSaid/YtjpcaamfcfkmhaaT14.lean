/- Calls whose outcome is known: parts of a long run, each by itself. -/
import Derived.Test.YtjpcaamfcfkmhaaT13
set_option linter.unusedSimpArgs false
set_option linter.unusedVariables false
namespace Go.Am
variable {T : Tab} {P : Program}
/-! ### When two blocks are the same -/
def eqL {α : Type} (f : α → α → Bool) : List α → List α → Bool
 | [], [] => true
 | x :: xs, y :: ys => f x y && eqL f xs ys
 | _, _ => false
theorem eqL_ok {α : Type} {f : α → α → Bool} (hf : ∀ x y, f x y = true → x = y) : ∀ {a b : List α}, eqL f a b = true → a = b
 | [], [], _ => rfl
 | x :: xs, y :: ys, h => by
  simp only [eqL,Bool.and_eq_true] at h
  rw [hf _ _ h.1, eqL_ok hf h.2]
 | [], _ :: _, h => by simp [eqL] at h
 | _ :: _, [], h => by simp [eqL] at h
def sameEnt (a b : Value × Value × Nat) : Bool := sameV 6 a.1 b.1 && (sameV 6 a.2.1 b.2.1 && Nat.beq a.2.2 b.2.2)
def sameBlk : ABlk → ABlk → Bool
 | .dead, .dead => true
 | .ro c, .ro d => eqL (sameV 6) c d
 | .rw c e o al, .rw c' e' o' al' => eqL (sameV 6) c c' && (Nat.beq e e' && (cond o o' (!o') && eqL Nat.beq al al'))
 | .map es n, .map es' n' => eqL sameEnt es es' && Nat.beq n n'
 | _, _ => false
theorem sameEnt_ok {a b : Value × Value × Nat} (h : sameEnt a b = true) : a = b := by
 obtain ⟨x, y, n⟩ := a
 obtain ⟨x', y', n'⟩ := b
 simp only [sameEnt,Bool.and_eq_true] at h
 rw [sameV_ok _ _ _ h.1, sameV_ok _ _ _ h.2.1, Nat.eq_of_beq_eq_true h.2.2]
theorem sameBlk_ok {a b : ABlk} (h : sameBlk a b = true) : a = b := by
 have hv : ∀ x y : Value, sameV 6 x y = true → x = y := sameV_ok 6
 cases a <;> cases b <;> simp only [sameBlk,Bool.and_eq_true,Bool.false_eq_true] at h
 ·rfl
 ·rw [eqL_ok hv h]
 ·rename_i c e o al c' e' o' al'
  have ho : o = o' := by cases o <;> cases o' <;> simp_all
  rw [eqL_ok hv h.1, show e = e' from Nat.eq_of_beq_eq_true h.2.1, ho, eqL_ok (fun _ _ => Nat.eq_of_beq_eq_true) h.2.2.2]
 ·rw [eqL_ok (fun _ _ => sameEnt_ok) h.1, Nat.eq_of_beq_eq_true h.2]
/-! ### Heaps out of their blocks -/
def hpOf (s : Nat) : List (Nat × ABlk) → AHeap
 | [] => ⟨s, .nil⟩
 | p :: l => (hpOf s l).put p.1 p.2
theorem hpOf_size (s : Nat) : ∀ l, (hpOf s l).size = s
 | [] => rfl
 | p :: l => by rw [hpOf, AHeap.size_put, hpOf_size s l]
theorem hpOf_get (s : Nat) : ∀ l k, (hpOf s l).get k = .dead ∨ ∃ p ∈ l, p.1 = k ∧ (hpOf s l).get k = p.2
 | [], k => .inl (by simp only [hpOf,AHeap.get,T.get_nil]; cases Nat.blt k s <;> rfl)
 | p :: l, k => by
  by_cases hk : k < s
  ·by_cases e : k = p.1
   ·subst e
    refine .inr ⟨p, by simp, rfl, ?_⟩
    rw [hpOf, AHeap.get_put_same _ _ (by rw [hpOf_size]; exact hk)]
   ·rw [hpOf, AHeap.get_put_other _ _ e]
    rcases hpOf_get s l k with h | ⟨q, h1, h2, h3⟩
    ·exact .inl h
    ·exact .inr ⟨q, by simp [h1], h2, h3⟩
  ·exact .inl (AHeap.get_ge (by rw [hpOf_size]; exact hk))
def lessL (H : AHeap) : List (Nat × ABlk) → Bool
 | [] => true
 | p :: l => sameBlk p.2 (H.get p.1) && lessL H l
theorem lessL_ok {H : AHeap} : ∀ {l}, lessL H l = true → ∀ p ∈ l, p.2 = H.get p.1
 | p :: l, h, q, hq => by
  simp only [lessL,Bool.and_eq_true] at h
  rcases List.mem_cons.1 hq with rfl | hq
  ·exact sameBlk_ok h.1
  ·exact lessL_ok h.2 q hq
theorem less_of {H : AHeap} {s : Nat} {l : List (Nat × ABlk)} (hs : Nat.beq s H.size = true) (h : lessL H l = true) : Less (hpOf s l) H := by
 refine ⟨by rw [hpOf_size]; exact Nat.eq_of_beq_eq_true hs, fun k => ?_⟩
 rcases hpOf_get s l k with e | ⟨p, h1, h2, h3⟩
 ·exact .inr e
 ·refine .inl ?_
  rw [h3, lessL_ok h p h1, h2]
def sameTo (H H' : AHeap) : Nat → Bool
 | 0 => true
 | k + 1 => sameBlk (H.get k) (H'.get k) && sameTo H H' k
theorem sameTo_ok {H H' : AHeap} : ∀ {n}, sameTo H H' n = true → ∀ k, k < n → H.get k = H'.get k
 | n + 1, h, k, hk => by
  simp only [sameTo,Bool.and_eq_true] at h
  by_cases e : k = n
  ·subst e; exact sameBlk_ok h.1
  ·exact sameTo_ok h.2 k (by omega)
/-! ### Calls from other heaps -/
theorem SCall.congr {f : FuncId} {args : List Value} {H H₀ H' : AHeap} {v : Value} {m : Nat} (h : SCall P f args H v H' m) (hs : H₀.size = H.size) (hg : ∀ k, H₀.get k = H.get k) : SCall P f args H₀ v H' m := by
 intro F n σ w hF hR ha
 refine (h F n σ w hF (hR.less ⟨hs.symm, fun k => .inl (hg k).symm⟩) ha).mono ?_
 rintro e w' ⟨σ', rfl, k1, k2, x⟩
 exact ⟨σ', rfl, k1, k2, ⟨fun k hk => x.agree k (by omega), by rw [hs]; exact x.hsize, x.wsize, x.os, x.tape, x.output, fun k hm hk => (x.keep k hm (by omega)).trans (hg k).symm, x.frame, fun k b s hk => x.fresh k b s (by omega)⟩⟩
theorem SCall.more {f : FuncId} {args : List Value} {H H₀ : AHeap} {v : Value} (h : SCall P f args H v H H.size) (hl : Less H H₀) : SCall P f args H₀ v H₀ H₀.size := by
 intro F n σ w hF hR ha
 refine (h F n σ w hF (hR.less hl) ha).mono ?_
 rintro e w' ⟨σ', rfl, k1, k2, x⟩
 have hb : ∀ k b s, σ'.at_ k = some (b, s) → σ.at_ k = some (b, s) := fun k b s hp => by rw [← (x.agree k (k2.lt k b s hp).1).1]; exact hp
 have hh : ∀ b, b < w.heap.size → w'.heap[b]? = w.heap[b]? := fun b hb' => x.frame b hb' fun k s hk hp => by have := (hR.lt k b s hp).1; rw [← hl.1] at this; omega
 refine ⟨σ', rfl, k1, ⟨fun k b s hp => ⟨by rw [← hl.1]; exact (k2.lt k b s hp).1, (k2.lt k b s hp).2⟩, fun k b s hp => ?_, fun k k' b s s' hk hk' => hR.excl k k' b s s' (hb _ _ _ hk) (hb _ _ _ hk')⟩, ⟨fun k hk => x.agree k (by rw [hl.1]; exact hk), Nat.le_refl _, x.wsize, x.os, x.tape, x.output, fun _ _ _ => rfl, fun b hb' _ => hh b hb', fun k b s hk hp => x.fresh k b s (by rw [hl.1]; exact hk) hp |>.imp id fun ⟨k0, s0, h1, h2⟩ => ⟨k0, s0, by rw [← hl.1]; exact h1, h2⟩⟩⟩
 have := hR.holds k b s (hb _ _ _ hp)
 rw [← (x.agree k (k2.lt k b s hp).1).2] at this
 exact this.agree (x.agr (hR.less hl)) (hh b (hR.lt k b s (hb _ _ _ hp)).2)
/-! ### What is known -/
structure Loud where
 f : FuncId
 args : List Value
 s : Nat
 l : List (Nat × ABlk)
 v : Value
 s' : Nat
 l' : List (Nat × ABlk)
 m : Nat
structure Quiet where
 f : FuncId
 args : List Value
 s : Nat
 l : List (Nat × ABlk)
 v : Value
def HasFn (P : Program) (f : FuncId) : Prop := ∃ fn c, P.funcs[f]? = some fn ∧ fn.body = some c ∧ (fn.name == "runtime.NumGoroutine") = false
def Loud.Ok (P : Program) (e : Loud) : Prop := HasFn P e.f ∧ SCall P e.f e.args (hpOf e.s e.l) e.v (hpOf e.s' e.l') e.m
def Quiet.Ok (P : Program) (e : Quiet) : Prop := HasFn P e.f ∧ SCall P e.f e.args (hpOf e.s e.l) e.v (hpOf e.s e.l) e.s
def louds (P : Program) : List Loud → Prop
 | [] => True
 | e :: l => e.Ok P ∧ louds P l
def quiets (P : Program) : List Quiet → Prop
 | [] => True
 | e :: l => e.Ok P ∧ quiets P l
noncomputable def loudF (ls : List Loud) (f : FuncId) (args : List Value) (H : AHeap) (no : Option (Bool × Value × AHeap × Nat)) : Option (Bool × Value × AHeap × Nat) := List.rec (motive := fun _ => Option (Bool × Value × AHeap × Nat)) no
 (fun e _ ih => Loud.rec (motive := fun _ => Option (Bool × Value × AHeap × Nat)) (fun f' args' s l v s' l' m => Bool.rec (motive := fun _ => Option (Bool × Value × AHeap × Nat)) ih
  (Bool.rec (motive := fun _ => Option (Bool × Value × AHeap × Nat)) ih (some (false, v, hpOf s' l', m)) (eqL (sameV 6) args' args && (Nat.beq s H.size && sameTo H (hpOf s l) s))) (Nat.beq f' f)) e) ls
noncomputable def quietsF (ls : List Quiet) (f : FuncId) (args : List Value) (H : AHeap) (no : Option (Bool × Value × AHeap × Nat)) : Option (Bool × Value × AHeap × Nat) := List.rec (motive := fun _ => Option (Bool × Value × AHeap × Nat)) no
 (fun e _ ih => Quiet.rec (motive := fun _ => Option (Bool × Value × AHeap × Nat)) (fun f' args' s l v => Bool.rec (motive := fun _ => Option (Bool × Value × AHeap × Nat)) ih
  (Bool.rec (motive := fun _ => Option (Bool × Value × AHeap × Nat)) ih (some (true, v, H, H.size)) (eqL (sameV 6) args' args && (Nat.beq s H.size && lessL H l))) (Nat.beq f' f)) e) ls
theorem loudF_ok {f : FuncId} {args : List Value} {H : AHeap} {no : Option (Bool × Value × AHeap × Nat)} {b : Bool} {v : Value} {H' : AHeap} {m : Nat} : ∀ {ls : List Loud}, louds P ls → loudF ls f args H no = some (b, v, H', m) →
  (b = false ∧ HasFn P f ∧ SCall P f args H v H' m) ∨ no = some (b, v, H', m)
 | [], _, h => .inr h
 | e :: ls, hl, h => by
  obtain ⟨f', args', s, l, v', s', l', m'⟩ := e
  have h' : Bool.rec (motive := fun _ => Option (Bool × Value × AHeap × Nat)) (loudF ls f args H no)
   (Bool.rec (motive := fun _ => Option (Bool × Value × AHeap × Nat)) (loudF ls f args H no) (some (false, v', hpOf s' l', m')) (eqL (sameV 6) args' args && (Nat.beq s H.size && sameTo H (hpOf s l) s))) (Nat.beq f' f) = some (b, v, H', m) := h
  rw [boolRec_eq, boolRec_eq] at h'
  cases e1 : Nat.beq f' f
  ·rw [e1] at h'; exact loudF_ok hl.2 h'
  ·rw [e1] at h'
   cases e2 : (eqL (sameV 6) args' args && (Nat.beq s H.size && sameTo H (hpOf s l) s))
   ·rw [e2] at h'; exact loudF_ok hl.2 h'
   ·rw [e2] at h'
    simp only [Bool.and_eq_true] at e2
    have h'' : some (false, v', hpOf s' l', m') = some (b, v, H', m) := h'
    cases h''
    have hf : f' = f := Nat.eq_of_beq_eq_true e1
    subst hf
    have ha := eqL_ok (sameV_ok 6) e2.1
    subst ha
    have hs : s = H.size := Nat.eq_of_beq_eq_true e2.2.1
    refine .inl ⟨rfl, hl.1.1, SCall.congr hl.1.2 (by simp only [hpOf_size]; exact hs.symm) fun k => ?_⟩
    by_cases hk : k < s
    ·exact sameTo_ok e2.2.2 k hk
    ·rw [AHeap.get_ge (by omega), AHeap.get_ge (by simp only [hpOf_size]; omega)]
theorem quietsF_ok {f : FuncId} {args : List Value} {H : AHeap} {no : Option (Bool × Value × AHeap × Nat)} {b : Bool} {v : Value} {H' : AHeap} {m : Nat} : ∀ {ls : List Quiet}, quiets P ls → quietsF ls f args H no = some (b, v, H', m) →
  (H' = H ∧ m = H.size ∧ HasFn P f ∧ SCall P f args H v H' m) ∨ no = some (b, v, H', m)
 | [], _, h => .inr h
 | e :: ls, hl, h => by
  obtain ⟨f', args', s, l, v'⟩ := e
  have h' : Bool.rec (motive := fun _ => Option (Bool × Value × AHeap × Nat)) (quietsF ls f args H no)
   (Bool.rec (motive := fun _ => Option (Bool × Value × AHeap × Nat)) (quietsF ls f args H no) (some (true, v', H, H.size)) (eqL (sameV 6) args' args && (Nat.beq s H.size && lessL H l))) (Nat.beq f' f) = some (b, v, H', m) := h
  rw [boolRec_eq, boolRec_eq] at h'
  cases e1 : Nat.beq f' f
  ·rw [e1] at h'; exact quietsF_ok hl.2 h'
  ·rw [e1] at h'
   cases e2 : (eqL (sameV 6) args' args && (Nat.beq s H.size && lessL H l))
   ·rw [e2] at h'; exact quietsF_ok hl.2 h'
   ·rw [e2] at h'
    simp only [Bool.and_eq_true] at e2
    have h'' : some (true, v', H, H.size) = some (b, v, H', m) := h'
    cases h''
    have hf : f' = f := Nat.eq_of_beq_eq_true e1
    subst hf
    have ha := eqL_ok (sameV_ok 6) e2.1
    subst ha
    have := hl.1.2
    rw [show s = (hpOf s l).size from (hpOf_size s l).symm] at this
    have hk : SCall P f' args' (hpOf s l) v (hpOf s l) (hpOf s l).size := by
     have h0 := hl.1.2
     simp only at h0
     rw [hpOf_size]; exact h0
    exact .inl ⟨rfl, rfl, hl.1.1, hk.more (less_of e2.2.1 e2.2.2)⟩
/-- The tables, and what is known of calls. -/
noncomputable def Tab.knows (T : Tab) (ls : List Loud) (qs : List Quiet) : Tab := ⟨T.und, T.inf, T.fn, fun f args H => loudF ls f args H (quietsF qs f args H none), T.plan⟩
abbrev ii (n : Nat) : Value := .int .i64 (.ofNat n)
/-! ### Parts of a run -/
def loudChk (s₀ : Nat) (v : Value) (s' : Nat) (l' : List (Nat × ABlk)) (m : Nat) : Res → Bool
 | some (_, v', H', m') => sameV 6 v v' && (Nat.ble m m' && (Nat.beq s' H'.size && (lessL H' l' && sameTo (hpOf s' l') H' (min m s₀))))
 | none => false
def quietChk (v : Value) : Res → Bool
 | some (b, v', _, _) => b && sameV 6 v v'
 | none => false
theorem loud_of (hT : T.Fits P) {n : Nat} {e : Loud} (h : loudChk e.s e.v e.s' e.l' e.m (acallF T (aexecF T P n) e.f e.args (hpOf e.s e.l)) = true) : e.Ok P := by
 obtain ⟨f, args, s, l, v, s', l', m⟩ := e
 simp only at h
 cases hr : acallF T (aexecF T P n) f args (hpOf s l) with
 | none => rw [hr] at h; cases h
 | some r =>
  obtain ⟨b, v', H', m'⟩ := r
  rw [hr] at h
  simp only [loudChk,Bool.and_eq_true] at h
  obtain ⟨h1, h2, h3, h4, h5⟩ := h
  have hv := sameV_ok _ _ _ h1
  subst hv
  have hr' := hr
  rw [acallF_eq, aexecF_eq] at hr'
  obtain ⟨⟨fn, c, hf⟩, h6, _⟩ := acall_ok hT (aexec_ok hT n).1 hr'
  refine ⟨⟨fn, c, hf.1, hf.2, hf.3⟩, ?_⟩
  exact (h6.weaken (Nat.le_of_ble_eq_true h2)).less (less_of h3 h4) fun k hk hk' => sameTo_ok h5 k (by rw [hpOf_size] at hk'; omega)
theorem quiet_of (hT : T.Fits P) {n : Nat} {e : Quiet} (h : quietChk e.v (acallF T (aexecF T P n) e.f e.args (hpOf e.s e.l)) = true) : e.Ok P := by
 obtain ⟨f, args, s, l, v⟩ := e
 simp only at h
 cases hr : acallF T (aexecF T P n) f args (hpOf s l) with
 | none => rw [hr] at h; cases h
 | some r =>
  obtain ⟨b, v', H', m'⟩ := r
  rw [hr] at h
  simp only [quietChk,Bool.and_eq_true] at h
  obtain ⟨h1, h2⟩ := h
  have hv := sameV_ok _ _ _ h2
  subst hv
  have hr' := hr
  rw [acallF_eq, aexecF_eq] at hr'
  obtain ⟨⟨fn, c, hf⟩, h6, h7⟩ := acall_ok hT (aexec_ok hT n).1 hr'
  obtain ⟨rfl, rfl⟩ := h7 h1
  refine ⟨⟨fn, c, hf.1, hf.2, hf.3⟩, ?_⟩
  rw [hpOf_size] at h6
  exact h6
end Go.Am
