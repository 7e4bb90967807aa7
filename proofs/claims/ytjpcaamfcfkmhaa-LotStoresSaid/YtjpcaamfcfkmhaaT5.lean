/- A loop over a function. -/
import Derived.Test.YtjpcaamfcfkmhaaT4
set_option linter.unusedSimpArgs false
set_option linter.unusedVariables false
namespace Go.Am
variable {T : Tab} {P : Program}
theorem run_enterLoop_inner (fn : FuncId) (tmps : Array Value) (ps : Array Tmp) (assign body : Code) {w : World} {l : Nat} {r : Loop} (h : w.heap[l]? = some (.loop r)) :
  (Instr.enterLoop fn tmps ps assign body (some l)).run P w =
   .ok (w.heap.size, []) (w.alloc (.loop { state := .ready, pending := none, fn, tmps, params := ps, assign, body, defers := r.defers })) := by
 unfold Instr.enterLoop
 simp only [Sem.run_bind,run_getLoop h,run_newObj_alloc,Result.andThen,Sem.run_pure]
theorem blk_add_same (σ : Place) (k b r : Nat) : (σ.add k b r).blk k = b := by simp [Place.blk, Place.add]
def yieldV (l : Nat) : Value := .func (.yield l) #[] #[]
theorem ren_yieldV (σ : Place) (l : Nat) : ren σ (yieldV l) = .func (.yield (σ.blk l)) #[] #[] := by simp [yieldV, ren, Place.fn]
theorem okv_yieldV {σ : Place} {l : Nat} (h : (σ.at_ l).isSome = true) : okv σ (yieldV l) := by
 rw [yieldV, okv]
 exact ⟨h, fun v hv => by simp at hv, fun v hv => by simp at hv⟩
/-- What follows on the loop: nothing, or the jump that a round has left. -/
def SPend (P : Program) (r : Option Nat) (pend : Option Code) (s : St) (e : Exit) (s' : St) (m : Nat) : Prop :=
 match pend with
 | none => e = .normal ∧ s' = s ∧ m = s.H.size
 | some c => SCode P r c s e s' m
/-- What is the same in a frame of its own and in a round: the call, and what follows on it. -/
theorem range_core {F : Fence} {n : Nat} {r : Option Nat} {g : Operand} {f : FuncId} {fn : Func} {c : Code} {first captured : Array Value} {s : St} {σ σ₁ : Place} {w w₁ : World} {a : Act} {H₁ H₂ : AHeap} {L : Nat} {v : Value} {m₀ m₁ m₂ : Nat}
  {st : LoopState} {pend : Option Code} {t' : List Value} {ps' : Array Tmp} {as' bd' : Code} {d' : Nat} {e : Exit} {s' : St} {ds₁ : List Nat} {mk : List Deferred}
  (hF : Free F) (hr : InR r σ F) (hR : Rel σ s.H w) (hA : ActRel σ s a)
  (hg : aval s.t g = some (.func (.func f) first captured)) (hf : HasCode P f fn c)
  (r₁ : Rel σ₁ H₁ w₁) (x₁ : Ext σ s.H w σ₁ H₁ w₁ m₀) (hL : (σ₁.at_ L).isSome = true)
  (hmk : mk ++ a.defers = ds₁.map (mark σ₁)) (hds : ∀ k ∈ ds₁, (σ₁.at_ k).isSome = true)
  (hcall : SCall P f (first.toList ++ [yieldV L] ++ captured.toList) H₁ v H₂ m₁)
  (hg₂ : H₂.get L = .loop st pend t' ps' as' bd' d') (hst : st ≠ .busy)
  (hp : SPend P r pend ⟨s.t, H₂.put L (.loop .exhausted pend t' ps' as' bd' d'), ds₁⟩ e s' m₂) :
  ∃ (d : Deferred) (w₁' : World) (f' : FuncId) (args : Array Value) (w₂ : World),
   (resolve a.eval (rangeCall g (σ₁.blk L)) 0).run P w₁ = .ok d w₁' ∧
   (∀ f', Target.leads P w₁' d.target d.args = some f' → F.fn f') ∧
   (invoke d.target d.args).run P w₁' = .ok (.enter f' args) w₂ ∧
   (F.depth.isSome = true → 1 ≤ n) ∧
   CallsIn F (n - 1) P f' args w₂ (rangePost F n P (σ₁.blk L) (SPost σ s w e s' (min (min m₀ m₁) (min L m₂))) { a with defers := mk ++ a.defers }) := by
 obtain ⟨h1, h2⟩ := hA.evals g _ hg
 rw [okv] at h2
 simp only [ren,Place.fn] at h1
 have ag := x₁.agr hR
 have hargs : ∀ x ∈ first.toList ++ [yieldV L] ++ captured.toList, okv σ₁ x := by
  intro x hx
  rcases List.mem_append.1 hx with hx | hx
  ·rcases List.mem_append.1 hx with hx | hx
   ·exact ag.okv (h2.2.1 x (by simpa using hx))
   ·rw [List.mem_singleton.1 hx]; exact okv_yieldV hL
  ·exact ag.okv (h2.2.2 x (by simpa using hx))
 have e1 : first.map (ren σ₁) = first.map (ren σ) := Array.map_congr_left fun v hv => ag.ren (h2.2.1 v hv)
 have e2 : captured.map (ren σ₁) = captured.map (ren σ) := Array.map_congr_left fun v hv => ag.ren (h2.2.2 v hv)
 refine ⟨{ target := .fn (.func f) (captured.map (ren σ)), args := first.map (ren σ) ++ #[.func (.yield (σ₁.blk L)) #[] #[]] }, w₁, f, ((first.toList ++ [yieldV L] ++ captured.toList).map (ren σ₁)).toArray, w₁, ?_, fun f' _ => hF.1 f', ?_, hF.depth, ?_⟩
 ·have hcst : a.eval (.const (.func (.yield (σ₁.blk L)) #[] #[])) = .func (.yield (σ₁.blk L)) #[] #[] := rfl
  simp [resolve, h1, Deferred.ofValue, hcst]
 ·simp only [invoke]
  rw [hf.enter]
  congr 2
  apply Array.ext'
  simp only [List.map_append,List.map_cons,List.map_nil,ren_yieldV,Array.toList_append,← e1,← e2]
  simp
 ·refine (hcall F (n - 1) σ₁ w₁ hF r₁ hargs).mono ?_
  rintro e' w₃ ⟨σ₂, rfl, k1, k2, k3⟩
  have ag₂ := k3.agr r₁
  have hL₂ := ag₂.placed hL
  have hbl : σ₂.blk L = σ₁.blk L := ag₂.blk hL
  obtain ⟨_, _, _, fn₂, u4⟩ := k2.loopAt hL₂ hg₂
  rw [hbl] at u4
  have hend := run_endLoop (P := P) u4 hst
  obtain ⟨r₃, x₃⟩ := k2.setLoop (st' := .exhausted) (pend' := pend) hL₂ hg₂ (Nat.le_refl L) (fn := fn₂) rfl
  rw [hbl] at r₃ x₃
  refine ⟨pend, _, hend, ?_⟩
  have agA : Agree σ σ₂ := ag.trans ag₂
  have hact : ActRel σ₂ ⟨s.t, H₂.put L (.loop .exhausted pend t' ps' as' bd' d'), ds₁⟩ { a with defers := mk ++ a.defers } := by
   refine ⟨?_, fun v hv => agA.okv (hA.ok v hv), ?_, fun k hk => ag₂.placed (hds k hk)⟩
   ·show a.tmps = _
    rw [hA.tmps, agA.map hA.ok]
   ·show mk ++ a.defers = _
    rw [hmk]
    exact List.map_congr_left fun k hk => by simp [mark, ag₂.blk (hds k hk)]
  have hx : Ext σ s.H w σ₂ (H₂.put L (.loop .exhausted pend t' ps' as' bd' d')) _ (min (min m₀ m₁) L) := (x₁.trans k3).trans x₃
  cases pend with
  | none =>
   obtain ⟨rfl, rfl, rfl⟩ := hp
   refine ⟨rfl, σ₂, hact, r₃, hx.weaken ?_⟩
   omega
  | some cj =>
   refine wpIn_mono (hp F n σ₂ _ _ hF (hr.agree agA) r₃ hact) ?_
   intro e' a' w' hq
   have := SPost.trans (s := s) (s₁ := ⟨s.t, H₂.put L (.loop .exhausted (some cj) t' ps' as' bd' d'), ds₁⟩) hx hq
   exact this.weaken (by omega)
theorem SCode.rangeFunc_outer {g : Operand} {ps : Array Tmp} {assign body : Code} {f : FuncId} {fn : Func} {c : Code} {first captured : Array Value} {s : St} {H₂ : AHeap} {v : Value} {m₁ m₂ : Nat}
  {st : LoopState} {pend : Option Code} {t' : List Value} {ps' : Array Tmp} {as' bd' : Code} {d' : Nat} {e : Exit} {s' : St}
  (hg : aval s.t g = some (.func (.func f) first captured)) (hf : HasCode P f fn c)
  (hcall : SCall P f (first.toList ++ [yieldV (s.H.size + 1)] ++ captured.toList) ((s.H.alloc .defer).alloc (.loop .ready none s.t ps assign body s.H.size)) v H₂ m₁)
  (hg₂ : H₂.get (s.H.size + 1) = .loop st pend t' ps' as' bd' d') (hst : st ≠ .busy)
  (hp : SPend P none pend ⟨s.t, H₂.put (s.H.size + 1) (.loop .exhausted pend t' ps' as' bd' d'), s.H.size :: s.ds⟩ e s' m₂) :
  SCode P none (.rangeFunc g ps assign body) s e s' (min (min s.H.size m₁) (min (s.H.size + 1) m₂)) := by
 intro F n σ w a hF hr hR hA
 refine wpIn_rangeFunc fun fn' _ => ?_
 have hro : F.round = none := hr.1
 rw [hro]
 have ra := hR.alloc (.deferred (some [])) .defer 0 ⟨rfl, World.alloc_heap_new w _⟩ (.inr ⟨[], rfl⟩)
 have xa := Ext.alloc hR (.deferred (some [])) .defer 0
 have aga := hR.agree_add w.heap.size 0
 have hsz : (s.H.alloc .defer).size = s.H.size + 1 := AHeap.size_alloc _ _
 have hwz : (w.alloc (.deferred (some []))).heap.size = w.heap.size + 1 := by simp
 have hpl : ((σ.add s.H.size w.heap.size 0).at_ s.H.size).isSome = true := by rw [Place.add_same]; rfl
 have agb := ra.agree_add (w.heap.size + 1) 0
 rw [hsz] at agb
 have rb := ra.alloc (.loop { state := .ready, pending := none, fn := fn', tmps := a.tmps, params := ps, assign, body, defers := w.heap.size }) (.loop .ready none s.t ps assign body s.H.size) 0 (by
  rw [hwz, hsz]
  refine ⟨rfl, fun v hv => agb.okv (aga.okv (hA.ok v hv)), agb.placed hpl, fn', ?_⟩
  have e0 := World.alloc_heap_new (w.alloc (.deferred (some []))) (.loop { state := .ready, pending := none, fn := fn', tmps := a.tmps, params := ps, assign, body, defers := w.heap.size })
  rw [hwz] at e0
  rw [e0, hA.tmps, agb.map (fun v hv => aga.okv (hA.ok v hv)), aga.map hA.ok, agb.blk hpl, blk_add_same]) (.inr ⟨[], rfl⟩)
 have xb := Ext.alloc ra (.loop { state := .ready, pending := none, fn := fn', tmps := a.tmps, params := ps, assign, body, defers := w.heap.size }) (.loop .ready none s.t ps assign body s.H.size) 0
 rw [hwz, hsz] at rb xb
 have xx := (xa.trans xb).weaken (m' := s.H.size) (by omega)
 have hL : (((σ.add s.H.size w.heap.size 0).add (s.H.size + 1) (w.heap.size + 1) 0).at_ (s.H.size + 1)).isSome = true := by rw [Place.add_same]; rfl
 have hbL : ((σ.add s.H.size w.heap.size 0).add (s.H.size + 1) (w.heap.size + 1) 0).blk (s.H.size + 1) = w.heap.size + 1 := blk_add_same _ _ _ _
 have hds : ∀ k ∈ s.H.size :: s.ds, (((σ.add s.H.size w.heap.size 0).add (s.H.size + 1) (w.heap.size + 1) 0).at_ k).isSome = true := by
  intro k hk
  rcases List.mem_cons.1 hk with rfl | hk
  ·exact agb.placed hpl
  ·exact agb.placed (aga.placed (hA.dok k hk))
 have hmk : [({ target := .collected w.heap.size, args := #[] } : Deferred)] ++ a.defers = (s.H.size :: s.ds).map (mark ((σ.add s.H.size w.heap.size 0).add (s.H.size + 1) (w.heap.size + 1) 0)) := by
  simp only [List.map_cons,List.singleton_append]
  congr 1
  ·simp only [mark,agb.blk hpl,blk_add_same]
  ·rw [hA.ds]
   exact List.map_congr_left fun k hk => by simp only [mark,agb.blk (aga.placed (hA.dok k hk)),aga.blk (hA.dok k hk)]
 obtain ⟨d, w₁', f', args, w₂, q1, q2, q3, q4, q5⟩ := range_core (n := n) hF hr hR hA hg hf rb xx hL hmk hds hcall hg₂ hst hp
 rw [hbL] at q1 q5
 exact ⟨w.heap.size + 1, _, _, d, w₁', f', args, w₂, run_enterLoop_outer fn' a.tmps ps assign body, q1, q2, q3, q4, q5⟩
theorem SCode.rangeFunc_inner {l : Nat} {g : Operand} {ps : Array Tmp} {assign body : Code} {f : FuncId} {fn : Func} {c : Code} {first captured : Array Value} {s : St} {H₂ : AHeap} {v : Value} {m₁ m₂ : Nat}
  {st₀ : LoopState} {pend₀ : Option Code} {t₀ : List Value} {ps₀ : Array Tmp} {as₀ bd₀ : Code} {d₀ : Nat}
  {st : LoopState} {pend : Option Code} {t' : List Value} {ps' : Array Tmp} {as' bd' : Code} {d' : Nat} {e : Exit} {s' : St}
  (hg₀ : s.H.get l = .loop st₀ pend₀ t₀ ps₀ as₀ bd₀ d₀)
  (hg : aval s.t g = some (.func (.func f) first captured)) (hf : HasCode P f fn c)
  (hcall : SCall P f (first.toList ++ [yieldV s.H.size] ++ captured.toList) (s.H.alloc (.loop .ready none s.t ps assign body d₀)) v H₂ m₁)
  (hg₂ : H₂.get s.H.size = .loop st pend t' ps' as' bd' d') (hst : st ≠ .busy)
  (hp : SPend P (some l) pend ⟨s.t, H₂.put s.H.size (.loop .exhausted pend t' ps' as' bd' d'), s.ds⟩ e s' m₂) :
  SCode P (some l) (.rangeFunc g ps assign body) s e s' (min (min s.H.size m₁) (min s.H.size m₂)) := by
 intro F n σ w a hF hr hR hA
 refine wpIn_rangeFunc fun fn' _ => ?_
 have hro : F.round = some (σ.blk l) := hr.1
 have hl := hr.2 l rfl
 obtain ⟨_, _, hd₀, fn₀, hw₀⟩ := hR.loopAt hl hg₀
 have aga := hR.agree_add w.heap.size 0
 have rb := hR.alloc (.loop { state := .ready, pending := none, fn := fn', tmps := a.tmps, params := ps, assign, body, defers := σ.blk d₀ }) (.loop .ready none s.t ps assign body d₀) 0 (by
  refine ⟨rfl, fun v hv => aga.okv (hA.ok v hv), aga.placed hd₀, fn', ?_⟩
  rw [World.alloc_heap_new, hA.tmps, aga.map hA.ok, aga.blk hd₀]) (.inr ⟨[], rfl⟩)
 have xb := Ext.alloc hR (.loop { state := .ready, pending := none, fn := fn', tmps := a.tmps, params := ps, assign, body, defers := σ.blk d₀ }) (.loop .ready none s.t ps assign body d₀) 0
 have hL : ((σ.add s.H.size w.heap.size 0).at_ s.H.size).isSome = true := by rw [Place.add_same]; rfl
 have hmk : ([] : List Deferred) ++ a.defers = s.ds.map (mark (σ.add s.H.size w.heap.size 0)) := by
  rw [List.nil_append, hA.ds]
  exact List.map_congr_left fun k hk => by simp only [mark,aga.blk (hA.dok k hk)]
 obtain ⟨d, w₁', f', args, w₂, q1, q2, q3, q4, q5⟩ := range_core (n := n) hF hr hR hA hg hf rb xb hL hmk (fun k hk => aga.placed (hA.dok k hk)) hcall hg₂ hst hp
 rw [blk_add_same] at q1 q5
 rw [hro]
 exact ⟨w.heap.size, _, _, d, w₁', f', args, w₂, run_enterLoop_inner fn' a.tmps ps assign body hw₀, q1, q2, q3, q4, q5⟩
end Go.Am
/- Maps, lengths, copies; one operation by its kind. -/
namespace Go.Am
variable {T : Tab} {P : Program} {σ : Place} {H : AHeap} {w : World} {t : Operand → Option Value} {ρ : Operand → Value}
/-! ### Lengths, the least and the greatest -/
def aLen (T : Tab) (t : Operand → Option Value) (H : AHeap) (tys : Array TypeId) (args : Array Operand) : Option Value :=
 match tys.toList, args.toList with
 | ty :: _, [x] => match t x, T.und ty with
  | some (.slice _ n _), some (.slice _) => some (.int .i64 n)
  | some (.chan _), some (.slice _) => some (.int .i64 0)
  | some (.string s), some .string => some (.int .i64 s.size)
  | some (.map none), some (.map _ _) => some (.int .i64 0)
  | some (.map (some k)), some (.map _ _) => match H.get k with
   | .map es _ => some (.int .i64 es.length)
   | _ => none
  | _, _ => none
 | _, _ => none
theorem aLen_ok (hT : T.Fits P) {o : Oper} {tys : Array TypeId} {args : Array Operand} (ho : o.op = .call { callee := .builtin .len, args, argTypes := tys }) (r : Rel σ H w) (hρ : Evals σ t ρ)
  {v : Value} (h : aLen T t H tys args = some v) : Runs P (execOp ρ o) σ H w v H H.size := by
 unfold aLen at h
 split at h
 ·rename_i ty tl x htys hargs
  obtain rfl : args = #[x] := by apply Array.ext'; simpa using hargs
  have hty0 : tys[0]? = some ty := by
   rw [← Array.getElem?_toList, htys]; rfl
  have hexec : execOp ρ o = (do pure (.value (← Builtin.len_ tys o.type #[ρ x]))) := by rw [exec_builtin ho]; simp only [builtin,List.map_toArray,List.map_cons,List.map_nil]
  split at h
  ·rename_i b n c e hx hu
   cases h
   have h1 := (hρ _ _ hx).1
   simp only [ren] at h1
   refine Runs.same r ?_ (by simp [okv])
   rw [hexec, h1]; simp [Builtin.len_, hty0, run_und hT hu, goInt, ren]
  ·rename_i b e hx hu
   cases h
   have h1 := (hρ _ _ hx).1
   simp only [ren] at h1
   refine Runs.same r ?_ (by simp [okv])
   rw [hexec, h1]; simp [Builtin.len_, hty0, run_und hT hu, goInt, ren]
  ·rename_i s hx hu
   cases h
   have h1 := (hρ _ _ hx).1
   simp only [ren] at h1
   refine Runs.same r ?_ (by simp [okv])
   rw [hexec, h1]; simp [Builtin.len_, hty0, run_und hT hu, goInt, ren]
  ·rename_i k e hx hu
   cases h
   have h1 := (hρ _ _ hx).1
   simp only [ren,Option.map_none] at h1
   refine Runs.same r ?_ (by simp [okv])
   rw [hexec, h1]; simp [Builtin.len_, hty0, run_und hT hu, goInt, ren]
  ·rename_i k kt e hx hu
   split at h
   ·rename_i es clock hg
    cases h
    obtain ⟨h1, h2⟩ := hρ _ _ hx
    rw [okv] at h2
    simp only [ren,Option.map_some] at h1
    obtain ⟨p, hp⟩ := Option.isSome_iff_exists.1 h2
    obtain ⟨b, s⟩ := p
    have hh := r.holds k b s hp
    rw [hg] at hh
    have hbl : σ.blk k = b := by simp [Place.blk, hp]
    refine Runs.same r ?_ (by simp [okv])
    rw [hexec, h1, hbl]
    simp [Builtin.len_, hty0, run_und hT hu, goInt, ren, getObj, Sem.run, hh.2.2]
   ·cases h
  ·cases h
 ·cases h
def aMinMax (P : Program) (t : Operand → Option Value) (H : AHeap) (mx : Bool) (args : Array Operand) : Option (Value × AHeap × Nat) :=
 bif allGr t args.toList then aPureOf P H (bif mx then Builtin.max_ #[] 0 ((args.toList.map (aρ t)).toArray) else Builtin.min_ #[] 0 ((args.toList.map (aρ t)).toArray)) else none
theorem aMinMax_ok {o : Oper} {tys : Array TypeId} {args : Array Operand} {mx : Bool} (ho : o.op = .call { callee := .builtin (bif mx then .max else .min), args, argTypes := tys }) (r : Rel σ H w) (hρ : Evals σ t ρ)
  {v : Value} {H' : AHeap} {m : Nat} (h : aMinMax P t H mx args = some (v, H', m)) : Runs P (execOp ρ o) σ H w v H' m := by
 unfold aMinMax at h
 cases hb : allGr t args.toList
 ·rw [hb] at h; cases h
 ·rw [hb] at h
  have e : args.map ρ = (args.toList.map (aρ t)).toArray := by
   apply Array.ext'
   simp only [Array.toList_map]
   exact List.map_congr_left fun x hx => ground_eval hρ hb x hx
  cases mx
  ·simp only [cond_false] at h ho
   exact aPureOf_ok (by rw [exec_builtin ho, e]; rfl) r h
  ·simp only [cond_true] at h ho
   exact aPureOf_ok (by rw [exec_builtin ho, e]; rfl) r h
/-! ### Copies and cleared cells -/
def aCopy (T : Tab) (t : Operand → Option Value) (H : AHeap) (tys : Array TypeId) (args : Array Operand) : Option (Value × AHeap × Nat) :=
 match tys.toList, args.toList with
 | ty :: _, [d, s] => match T.und ty, t d, t s with
  | some (.slice e), some (.slice (some da) dl _), some (.slice (some sa) sl _) => match T.inf e with
   | some i => match srcCells H sa (Nat.min sl dl * i.size) with
    | some l => match aWrite H da.block da.off l with
     | some (H', m) => some (.int .i64 (Int.ofNat (Nat.min sl dl)), H', m)
     | none => none
    | none => none
   | none => none
  | _, _, _ => none
 | _, _ => none
theorem aCopy_ok (hT : T.Fits P) {o : Oper} {tys : Array TypeId} {args : Array Operand} (ho : o.op = .call { callee := .builtin .copy, args, argTypes := tys }) (r : Rel σ H w) (hρ : Evals σ t ρ)
  {v : Value} {H' : AHeap} {m : Nat} (h : aCopy T t H tys args = some (v, H', m)) : Runs P (execOp ρ o) σ H w v H' m := by
 unfold aCopy at h
 split at h
 ·rename_i ty tl d s htys hargs
  obtain rfl : args = #[d, s] := by apply Array.ext'; simpa using hargs
  have hty0 : tys[0]? = some ty := by
   rw [← Array.getElem?_toList, htys]; rfl
  have hexec : execOp ρ o = (do pure (.value (← Builtin.copy_ tys o.type #[ρ d, ρ s]))) := by rw [exec_builtin ho]; simp only [builtin,List.map_toArray,List.map_cons,List.map_nil]
  split at h
  ·rename_i e da dl dc sa sl sc hu hd hs
   split at h
   ·rename_i i hi
    split at h
    ·rename_i l hl
     split at h
     ·rename_i H1 m1 hw
      cases h
      obtain ⟨d1, d2⟩ := hρ _ _ hd
      obtain ⟨s1, s2⟩ := hρ _ _ hs
      rw [okv] at d2 s2
      simp only [ren,Option.map_some] at d1 s1
      obtain ⟨n1, n2, n3⟩ := srcCells_ok r ⟨s2.1, s2.2.1⟩ hl
      obtain ⟨p, hp⟩ := Option.isSome_iff_exists.1 d2.2.1
      obtain ⟨b, sh⟩ := p
      obtain ⟨w', h5, h6, h7⟩ := aWrite_ok (P := P) r hp n2 hw
      have hadd : σ.addr da = ⟨b, sh + da.off, none⟩ := by simp [Place.addr, hp]
      have hf := run_firstCells_some (P := P) w i.size (Nat.min sl dl) (σ.addr sa) sl (σ.cap (some sa) sc) (l.map (ren σ)) (by rw [List.length_map, n1]) n3
      refine ⟨σ, w', _, ?_, .inl rfl, by simp [okv], h6, h7⟩
      rw [hexec, d1, s1]
      have hz := run_size (P := P) hT hi w
      have hu' := run_und (P := P) hT hu w
      have hrun : (Builtin.copy_ tys o.type #[.slice (some (σ.addr da)) dl (σ.cap (some da) dc), .slice (some (σ.addr sa)) sl (σ.cap (some sa) sc)]).run P w = .ok (goInt (Int.ofNat (Nat.min sl dl))) w' := by
       rw [hadd] at *
       unfold Builtin.copy_
       rw [hty0]
       simp only [List.getElem?_toArray,List.getElem?_cons_zero,List.getElem?_cons_succ]
       rw [Sem.run_bind, hu', Result.andThen_ok]
       simp only
       rw [Sem.run_bind]
       simp only [Builtin.lenOf,Sem.run_pure,Result.andThen_ok]
       rw [Sem.run_bind, hz, Result.andThen_ok, Sem.run_bind, hf, Result.andThen_ok]
       simp only
       rw [Sem.run_bind, h5]
       rfl
      simp only [Sem.run_bind,hrun,Result.andThen_ok,Sem.run_pure,ren,goInt]
     ·cases h
    ·cases h
   ·cases h
  ·cases h
 ·cases h
def aClear (T : Tab) (t : Operand → Option Value) (H : AHeap) (tys : Array TypeId) (args : Array Operand) : Option (Value × AHeap × Nat) :=
 match tys.toList, args.toList with
 | ty :: _, [x] => match T.und ty, t x with
  | some (.slice e), some (.slice a n _) => bif Nat.beq n 0 then some (.tuple #[], H, H.size) else
   match a, T.inf e with
   | some a, some i => match i.zero with
    | some z => bif allGrV (Builtin.zeroCells z.cells n).toList then
      match aWrite H a.block a.off (Builtin.zeroCells z.cells n).toList with
      | some (H', m) => some (.tuple #[], H', m)
      | none => none
     else none
    | none => none
   | _, _ => none
  | _, _ => none
 | _, _ => none
theorem aClear_ok (hT : T.Fits P) {o : Oper} {tys : Array TypeId} {args : Array Operand} (ho : o.op = .call { callee := .builtin .clear, args, argTypes := tys }) (r : Rel σ H w) (hρ : Evals σ t ρ)
  {v : Value} {H' : AHeap} {m : Nat} (h : aClear T t H tys args = some (v, H', m)) : Runs P (execOp ρ o) σ H w v H' m := by
 unfold aClear at h
 split at h
 ·rename_i ty tl x htys hargs
  obtain rfl : args = #[x] := by apply Array.ext'; simpa using hargs
  have hty0 : tys[0]? = some ty := by
   rw [← Array.getElem?_toList, htys]; rfl
  have hexec : execOp ρ o = (do pure (.value (← Builtin.clear_ tys o.type #[ρ x]))) := by rw [exec_builtin ho]; simp only [builtin,List.map_toArray,List.map_cons,List.map_nil]
  split at h
  ·rename_i e a n c hu hx
   obtain ⟨x1, x2⟩ := hρ _ _ hx
   have hP := run_und (P := P) hT hu w
   have hok : ∀ σ, okv σ (.tuple #[]) ∧ ren σ (.tuple #[]) = .tuple #[] := fun σ => ⟨by rw [okv]; intro v hv; simp at hv, by simp [ren]⟩
   cases hn : Nat.beq n 0
   ·rw [hn] at h
    simp only [cond_false] at h
    split at h
    ·rename_i a i hi
     split at h
     ·rename_i z hz
      cases hg : allGrV (Builtin.zeroCells z.cells n).toList
      ·rw [hg] at h; cases h
      ·rw [hg] at h
       simp only [cond_true] at h
       split at h
       ·rename_i H1 m1 hw
        cases h
        rw [okv] at x2
        obtain ⟨p, hp⟩ := Option.isSome_iff_exists.1 x2.2.1
        obtain ⟨b, sh⟩ := p
        obtain ⟨w', h5, h6, h7⟩ := aWrite_ok (P := P) r hp (fun v hv => (gr_ok σ (allGrV_mem hg v hv)).1) hw
        rw [allGrV_ren hg] at h5
        refine ⟨σ, w', _, ?_, .inl rfl, (hok σ).1, h6, h7⟩
        rw [(hok σ).2, hexec, x1]
        have hadd : σ.addr a = ⟨b, sh + a.off, none⟩ := by simp [Place.addr, hp]
        have hz' := run_zero (P := P) hT hi hz w
        simp only [ren,Option.map_some,hadd]
        obtain ⟨n, rfl⟩ : ∃ k, n = k + 1 := ⟨n - 1, by cases n with | zero => cases hn | succ k => rfl⟩
        simp [Builtin.clear_, hty0, Sem.run_bind, hP, hz', h5]
       ·cases h
     ·cases h
    ·cases h
   ·rw [hn] at h
    have := Nat.eq_of_beq_eq_true hn
    subst this
    cases h
    refine Runs.same r ?_ (hok σ).1
    rw [(hok σ).2, hexec, x1]
    cases a <;> simp [Builtin.clear_, hty0, Sem.run_bind, hP, ren]
  ·cases h
 ·cases h
end Go.Am
/- New blocks, at a number of one's own choice. -/
namespace Go.Am
variable {T : Tab} {P : Program} {σ : Place} {w : World} {t : Operand → Option Value} {ρ : Operand → Value}
inductive PK where
 | ptr
 | sl (l c : Nat)
 | mp
def mkV (p : PK) (k : Nat) : Value := match p with
 | .ptr => .pointer (some ⟨k, 0, none⟩)
 | .sl l c => .slice (some ⟨k, 0, none⟩) l c
 | .mp => .map (some k)
def okP : PK → Prop
 | .sl _ c => c < OPEN
 | _ => True
theorem mkV_ok (p : PK) (hp : okP p) (k b rm : Nat) : okv (σ.add k b rm) (mkV p k) ∧ ren (σ.add k b rm) (mkV p k) = mkV p b := by
 cases p with
 | ptr => exact ⟨by simp [mkV, okv, Place.add_same], by simp [mkV, ren, Place.addr, Place.add_same]⟩
 | sl l c =>
  have hc : c < OPEN := hp
  refine ⟨?_, ?_⟩
  ·rw [mkV, okv]; exact ⟨rfl, by simp [Place.add_same], fun h => by omega⟩
  ·simp [mkV, ren, Place.addr, Place.add_same, Place.cap, hc]
 | mp => exact ⟨by simp [mkV, okv, Place.add_same], by simp [mkV, ren, Place.blk, Place.add_same]⟩
theorem agree_add_of_none {k : Nat} (h : σ.at_ k = none) (b rm : Nat) : Agree σ (σ.add k b rm) := fun j p hp => by
 have hne : j ≠ k := fun e => by rw [e, h] at hp; cases hp
 exact ⟨by rw [Place.add_other σ hne]; exact hp, Place.room_other σ hne⟩
/-- What a run makes: one block, and a value that leads to it. -/
def Fresh (P : Program) (s : Sem Next) (σ : Place) (w : World) (p : PK) (blk : ABlk) : Prop :=
 okP p ∧ ∃ obj rm, s.run P w = .ok (.value (mkV p w.heap.size)) (w.alloc obj) ∧ (∃ al, blk.al = some al) ∧ ∀ k, σ.at_ k = none → Holds (σ.add k w.heap.size rm) (w.alloc obj) rm w.heap.size 0 blk
theorem Fresh.runs {s : Sem Next} {p : PK} {blk : ABlk} {H : AHeap} (h : Fresh P s σ w p blk) (r : Rel σ H w) : Runs P s σ H w (mkV p H.size) (H.alloc blk) H.size := by
 obtain ⟨hp, obj, rm, h1, h2, h3⟩ := h
 have hn : σ.at_ H.size = none := by
  cases hh : σ.at_ H.size with
  | none => rfl
  | some q => have := (r.lt H.size q.1 q.2 hh).1; omega
 obtain ⟨h4, h5⟩ := mkV_ok (σ := σ) p hp H.size w.heap.size rm
 exact ⟨_, _, _, h1, .inl (by rw [h5]), h4, r.alloc obj blk rm (h3 _ hn) (.inr h2), Ext.alloc r obj blk rm⟩
theorem row_fresh (c : List Value) (hc : ∀ v ∈ c, okv σ v) (e : TypeId) {k : Nat} (hk : σ.at_ k = none) :
  Holds (σ.add k w.heap.size c.length) (w.alloc (.cells (c.map (ren σ)).toArray e)) c.length w.heap.size 0 (.rw c e false []) := by
 have ag := agree_add_of_none hk w.heap.size c.length
 refine ⟨rfl, fun v hv => ag.okv (hc v hv), [], ?_, by simp, fun _ => rfl⟩
 rw [ag.map hc, List.append_nil]
 exact World.alloc_heap_new w _
def newAlloc (T : Tab) (e : TypeId) : Option (PK × ABlk) :=
 match T.inf e with
 | some i => match i.zero with
  | some z => bif gr z then some (.ptr, .rw z.cells.toList e false []) else none
  | none => none
 | none => none
theorem newAlloc_ok (hT : T.Fits P) {o : Oper} {e : TypeId} (ho : o.op = .alloc e) {p : PK} {blk : ABlk} (h : newAlloc T e = some (p, blk)) : Fresh P (execOp ρ o) σ w p blk := by
 unfold newAlloc at h
 split at h
 ·rename_i i hi
  split at h
  ·rename_i z hz
   cases hg : gr z
   ·simp [hg] at h
   ·simp only [hg,cond_true] at h
    cases h
    obtain ⟨h1, h2⟩ := gr_ok σ hg
    refine ⟨trivial, _, _, ?_, ⟨_, rfl⟩, fun k hk => row_fresh (σ := σ) z.cells.toList (fun v hv => okv_cells h1 v (by simpa using hv)) e hk⟩
    have hc : z.cells = z.cells.map (ren σ) := by rw [← cells_ren, h2]
    simp only [execOp,ho,Instr.alloc,Sem.run_bind,run_zero hT hi hz,Result.andThen_ok,newVar,newRow,run_newObj_alloc,Sem.run_pure,mkV]
    rw [List.map_toArray.symm, Array.toArray_toList, ← hc]
  ·cases h
 ·cases h
def newBox (t : Operand → Option Value) (e : TypeId) (x : Operand) : Option (PK × ABlk) :=
 match t x with
 | some v => some (.ptr, .rw v.cells.toList e false [])
 | none => none
theorem newBox_ok {o : Oper} {e : TypeId} {x : Operand} (ho : o.op = .box e x) (hρ : Evals σ t ρ) {p : PK} {blk : ABlk} (h : newBox t e x = some (p, blk)) : Fresh P (execOp ρ o) σ w p blk := by
 unfold newBox at h
 split at h
 ·rename_i u hx
  cases h
  obtain ⟨h1, h2⟩ := hρ _ _ hx
  refine ⟨trivial, _, _, ?_, ⟨_, rfl⟩, fun k hk => row_fresh (σ := σ) u.cells.toList (fun v hv => okv_cells h2 v (by simpa using hv)) e hk⟩
  simp only [execOp,ho,Instr.box,newVar,newRow,h1,cells_ren,Sem.run_bind,run_newObj_alloc,Result.andThen_ok,Sem.run_pure,mkV]
  rw [← List.map_toArray, Array.toArray_toList]
 ·cases h
def newRow (T : Tab) (t : Operand → Option Value) (ty : TypeId) (len : Nat) (parts : Array (Nat × Operand)) : Option (PK × ABlk) :=
 match T.und ty, aparts t parts.toList with
 | some (.slice e), some ps => match T.inf e with
  | some i =>
   bif Nat.beq (len * i.size) 0 && Nat.blt len OPEN then
    match afill (fun k => some (k * i.size, i.size)) [] ps with
    | some cs => some (.sl len len, .rw cs e false [])
    | none => none
   else
   match i.zero with
   | some z =>
    bif Nat.ble (len * i.size) 16777216 && Nat.blt len OPEN && Nat.blt 0 (len * i.size) && allGrV (madeCells z.cells (len * i.size)).toList then
     match afill (fun k => some (k * i.size, i.size)) (madeCells z.cells (len * i.size)).toList ps with
     | some cs => some (.sl len len, .rw cs e false [])
     | none => none
    else none
   | none => none
  | none => none
 | _, _ => none
theorem newRow_ok (hT : T.Fits P) {o : Oper} {ty : TypeId} {len : Nat} {parts : Array (Nat × Operand)} (ho : o.op = .buildSlice ty len parts) (hρ : Evals σ t ρ) {p : PK} {blk : ABlk}
  (h : newRow T t ty len parts = some (p, blk)) : Fresh P (execOp ρ o) σ w p blk := by
 unfold newRow at h
 split at h
 ·rename_i e ps hty hps
  split at h
  ·rename_i i hi
   cases hz0 : (Nat.beq (len * i.size) 0 && Nat.blt len OPEN)
   rotate_left
   ·rw [hz0] at h
    simp only [cond_true] at h
    simp only [Bool.and_eq_true] at hz0
    have h0 : len * i.size = 0 := Nat.eq_of_beq_eq_true hz0.1
    have hlt : len < OPEN := lt_of_blt hz0.2
    split at h
    ·rename_i cs hcs
     cases h
     obtain ⟨h1, h2⟩ := aparts_ok hρ hps
     have e1 : (parts.map fun (i, x) => (i, ρ x)).toList = ps.map (fun p => (p.1, ren σ p.2)) := by rw [← h1]; simp
     obtain ⟨h3, h4⟩ := afill_ok (σ := σ) _ _ _ _ hcs
     have hok := h4 (fun v hv => by simp at hv) h2
     refine ⟨hlt, _, _, ?_, ⟨_, rfl⟩, fun k hk => row_fresh (σ := σ) cs hok e hk⟩
     have c1 : ¬ (len * i.size > 2 ^ 24) := by omega
     simp only [List.map_nil] at h3
     simp only [execOp,ho,Instr.buildSlice,Sem.run_bind,run_und hT hty,Result.andThen_ok,run_size hT hi,c1,if_false,h0,if_true,Sem.run_pure,e1]
     have e2 : ∀ f : Nat → Value, (Array.range 0).map f = #[] := fun f => by simp
     have c0 : ¬ (0 > 2 ^ 24) := by omega
     simp only [e2,c0,if_false]
     simp only [h3,Sem.run_bind,Go.newRow,run_newObj_alloc,Result.andThen_ok,Sem.run_pure,mkV]
    ·cases h
   rw [hz0] at h
   simp only [cond_false] at h
   split at h
   ·rename_i z hz
    cases hb : (Nat.ble (len * i.size) 16777216 && Nat.blt len OPEN && Nat.blt 0 (len * i.size) && allGrV (madeCells z.cells (len * i.size)).toList)
    ·rw [hb] at h; cases h
    ·rw [hb] at h
     simp only [cond_true] at h
     simp only [Bool.and_eq_true] at hb
     obtain ⟨⟨⟨b1, b2⟩, b4⟩, b3⟩ := hb
     have hle : len * i.size ≤ 16777216 := Nat.le_of_ble_eq_true b1
     have hlt : len < OPEN := lt_of_blt b2
     have hpos : 0 < len * i.size := lt_of_blt b4
     split at h
     ·rename_i cs hcs
      cases h
      obtain ⟨h1, h2⟩ := aparts_ok hρ hps
      have e1 : (parts.map fun (i, x) => (i, ρ x)).toList = ps.map (fun p => (p.1, ren σ p.2)) := by rw [← h1]; simp
      obtain ⟨h3, h4⟩ := afill_ok (σ := σ) _ _ _ _ hcs
      rw [allGrV_ren b3, Array.toArray_toList] at h3
      have hok := h4 (fun v hv => (gr_ok σ (allGrV_mem b3 v hv)).1) h2
      refine ⟨hlt, _, _, ?_, ⟨_, rfl⟩, fun k hk => row_fresh (σ := σ) cs hok e hk⟩
      have c1 : ¬ (len * i.size > 2 ^ 24) := by omega
      have c2 : ¬ (len * i.size = 0) := by omega
      simp only [execOp,ho,Instr.buildSlice,Sem.run_bind,run_und hT hty,Result.andThen_ok,run_size hT hi,c1,c2,if_false,run_zero hT hi hz,Sem.run_pure,e1]
      simp only [madeCells] at h3
      simp only [h3,Sem.run_bind,Go.newRow,run_newObj_alloc,Result.andThen_ok,Sem.run_pure,mkV]
     ·cases h
   ·cases h
  ·cases h
 ·cases h
def newMade (T : Tab) (t : Operand → Option Value) (ty : TypeId) (x y : Operand) : Option (PK × ABlk) :=
 match T.und ty, t x, t y with
 | some (.slice e), some (.int _ l), some (.int _ c) => match T.inf e with
  | some i => match i.zero with
   | some z =>
    bif decide (0 ≤ l) && decide (l ≤ c) && decide ((i.bytes : Int) * c ≤ 281474976710656) && decide (c ≤ 9223372036854775807) && allGrV (madeCells z.cells (c.toNat * i.size)).toList then
     some (.sl l.toNat c.toNat, .rw (madeCells z.cells (c.toNat * i.size)).toList e false [])
    else none
   | none => none
  | none => none
 | _, _, _ => none
theorem newMade_ok (hT : T.Fits P) {o : Oper} {ty : TypeId} {x y : Operand} (ho : o.op = .makeSlice ty x y) (hρ : Evals σ t ρ) {p : PK} {blk : ABlk}
  (h : newMade T t ty x y = some (p, blk)) : Fresh P (execOp ρ o) σ w p blk := by
 unfold newMade at h
 split at h
 ·rename_i e kl l kc c hty hx hy
  split at h
  ·rename_i i hi
   split at h
   ·rename_i z hz
    cases hb : (decide (0 ≤ l) && decide (l ≤ c) && decide ((i.bytes : Int) * c ≤ 281474976710656) && decide (c ≤ 9223372036854775807) && allGrV (madeCells z.cells (c.toNat * i.size)).toList)
    ·rw [hb] at h; cases h
    ·rw [hb] at h
     simp only [cond_true] at h
     cases h
     simp only [Bool.and_eq_true,decide_eq_true_eq] at hb
     obtain ⟨⟨⟨⟨b1, b2⟩, b3⟩, b4⟩, b5⟩ := hb
     obtain ⟨h1, _⟩ := hρ _ _ hx
     obtain ⟨h2, _⟩ := hρ _ _ hy
     simp only [ren] at h1 h2
     have hrun := run_make (P := P) w ty e i z (hT.und _ _ hty) (hT.inf _ _ hi) hz kl kc l c b1 b2 b3 b4
     refine ⟨by show c.toNat < OPEN; unfold OPEN; omega, _, _, ?_, ⟨_, rfl⟩, fun k hk => row_fresh (σ := σ) _ (fun v hv => (gr_ok σ (allGrV_mem b5 v hv)).1) e hk⟩
     rw [allGrV_ren b5, Array.toArray_toList]
     simp [execOp, ho, h1, h2, hrun, mkV]
   ·cases h
  ·cases h
 ·cases h
def newMap : Option Operand → Option (PK × ABlk)
 | none => some (.mp, .map [] 0)
 | some _ => none
theorem newMap_ok {o : Oper} {ty : TypeId} {x : Option Operand} (ho : o.op = .makeMap ty x) {p : PK} {blk : ABlk} (h : newMap x = some (p, blk)) : Fresh P (execOp ρ o) σ w p blk := by
 cases x with
 | some x => cases h
 | none =>
  cases h
  refine ⟨trivial, .map #[] 0, 0, ?_, ⟨_, rfl⟩, fun k hk => ⟨rfl, by simp, by simpa using World.alloc_heap_new w _⟩⟩
  simp [execOp, ho, Instr.makeMap, mkV]
def anew (T : Tab) (t : Operand → Option Value) : Op → Option (PK × ABlk)
 | .alloc e => newAlloc T e
 | .box e x => newBox t e x
 | .buildSlice ty n ps => newRow T t ty n ps
 | .makeSlice ty x y => newMade T t ty x y
 | .makeMap _ x => newMap x
 | _ => none
theorem anew_ok (hT : T.Fits P) {o : Oper} (hρ : Evals σ t ρ) {p : PK} {blk : ABlk} (h : anew T t o.op = some (p, blk)) : Fresh P (execOp ρ o) σ w p blk := by
 unfold anew at h
 split at h <;> rename_i ho
 ·exact newAlloc_ok hT ho h
 ·exact newBox_ok ho hρ h
 ·exact newRow_ok hT ho hρ h
 ·exact newMade_ok hT ho hρ h
 ·exact newMap_ok ho h
 ·cases h
/-! ### In a region that draws: the block stands in the little heap already, and gets its place when the operation comes -/
structure WFrame (w w' : World) : Prop where
 size : w.heap.size ≤ w'.heap.size
 same : ∀ b, b < w.heap.size → w'.heap[b]? = w.heap[b]?
 os : w'.os = w.os
 tape : w'.tape = w.tape
 output : w'.output = w.output
def SNew (P : Program) (r : Option Nat) (o : Oper) (t : Operand → Option Value) (H : AHeap) (k : Nat) (v : Value) : Prop :=
 ∀ (F : Fence) (n : Nat) (σ : Place) (w : World) (a : Act) (K : Act → World → Prop) (Q : Exit → Act → World → Prop), Free F → Rel σ H w → Evals σ t a.eval → σ.at_ k = none →
  (∀ w' b rm, w.heap.size ≤ b → okv (σ.add k b rm) v → Rel (σ.add k b rm) H w' → WFrame w w' → K (a.put o.dst (ren (σ.add k b rm) v)) w') → o.wpIn F n P a w K Q
theorem Rel.reserve {H : AHeap} (h : Rel σ H w) (o : Obj) {k rm : Nat} (hn : σ.at_ k = none) (hk : k < H.size) (hb : Holds (σ.add k w.heap.size rm) (w.alloc o) rm w.heap.size 0 (H.get k)) :
  Rel (σ.add k w.heap.size rm) H (w.alloc o) where
 lt j b s hp := by
  by_cases e : j = k
  ·subst e; rw [Place.add_same] at hp; cases hp; simp [hk]
  ·rw [Place.add_other σ e] at hp
   have := h.lt j b s hp
   simp; omega
 holds j b s hp := by
  by_cases e : j = k
  ·subst e; rw [Place.add_same] at hp; cases hp
   rw [Place.room_same]; exact hb
  ·rw [Place.add_other σ e] at hp
   rw [Place.room_other σ e]
   exact (h.holds j b s hp).agree (agree_add_of_none hn _ _) (heap_alloc_lt w o (h.lt j b s hp).2)
 excl j j' b s s' hj hj' hne al hal := by
  by_cases e : j = k
  ·subst e; rw [Place.add_same] at hj; cases hj
   rw [Place.add_other σ (Ne.symm hne)] at hj'
   have := (h.lt _ _ _ hj').2; omega
  ·rw [Place.add_other σ e] at hj
   by_cases e' : j' = k
   ·subst e'; rw [Place.add_same] at hj'; cases hj'
    have := (h.lt _ _ _ hj).2; omega
   ·rw [Place.add_other σ e'] at hj'
    exact h.excl j j' b s s' hj hj' hne al hal
theorem Oper.not_defer_of_new {o : Oper} {p : PK} {blk : ABlk} (h : anew T t o.op = some (p, blk)) : ∀ c, o.op ≠ .defer c := by
 intro c e
 rw [e] at h; cases h
theorem SNew.of_new (hT : T.Fits P) {r : Option Nat} {o : Oper} {H : AHeap} {k : Nat} {p : PK} {blk : ABlk} (h : anew T t o.op = some (p, blk)) (hk : k < H.size) (hg : H.get k = blk) : SNew P r o t H k (mkV p k) := by
 intro F n σ w a K Q hF hR hE hn hK
 refine ⟨fun f _ => hF.1 f, ?_⟩
 rw [Oper.semAt_eq _ _ _ (Oper.not_defer_of_new h)]
 obtain ⟨hp, obj, rm, h1, h2, h3⟩ := anew_ok (P := P) (σ := σ) (w := w) hT hE h
 rw [h1]
 obtain ⟨h4, h5⟩ := mkV_ok (σ := σ) p hp k w.heap.size rm
 have := hK (w.alloc obj) w.heap.size rm (Nat.le_refl _) h4 (hR.reserve obj hn hk (by rw [hg]; exact h3 k hn)) ⟨by simp, fun b hb => heap_alloc_lt w obj hb, rfl, rfl, rfl⟩
 rw [h5] at this
 exact this
theorem Ext.reserve {σ₀ : Place} {H₀ H : AHeap} {w₀ w' : World} {m k b rm : Nat} (x : Ext σ₀ H₀ w₀ σ H w m) (hk : H₀.size ≤ k) (hb : w.heap.size ≤ b) (f : WFrame w w') : Ext σ₀ H₀ w₀ (σ.add k b rm) H w' m where
 agree j hj := by
  have hne : j ≠ k := by omega
  rw [Place.add_other σ hne, Place.room_other σ hne]; exact x.agree j hj
 hsize := x.hsize
 wsize := Nat.le_trans x.wsize f.size
 os := f.os.trans x.os
 tape := f.tape.trans x.tape
 output := f.output.trans x.output
 keep := x.keep
 frame b' hb' hn := (f.same b' (Nat.lt_of_lt_of_le hb' x.wsize)).trans (x.frame b' hb' hn)
 fresh j b' s hj hp := by
  by_cases e : j = k
  ·subst e; rw [Place.add_same] at hp; cases hp; exact .inl (Nat.le_trans x.wsize hb)
  ·rw [Place.add_other σ e] at hp; exact x.fresh j b' s hj hp
end Go.Am
