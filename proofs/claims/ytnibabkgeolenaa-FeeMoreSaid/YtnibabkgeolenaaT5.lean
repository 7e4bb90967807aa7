/- Maps. -/
import Derived.Test.YtnibabkgeolenaaT4
import Derived.MapKept
import Derived.DeepKeys
set_option linter.unusedSimpArgs false
set_option linter.unusedVariables false
namespace Go.Am
variable {T : Tab} {P : Program} {σ : Place} {H : AHeap} {w : World} {t : Operand → Option Value} {ρ : Operand → Value}

def wr (σ : Place) (e : Value × Value × Nat) : MapEntry := { key := ren σ e.1, val := ren σ e.2.1, born := e.2.2 }

theorem sameNow_ren (d : TypeDesc) (k v : Value) : Instr.sameNow d k (ren σ v) = Instr.sameNow d k v := by
  cases d <;> cases k <;> cases v <;> simp [ren, Instr.sameNow]

def aFindNow (d : TypeDesc) (k : Value) : List (Value × Value × Nat) → Nat → Option (Option (Nat × Value))
  | [], _ => some none
  | e :: es, i => match Instr.sameNow d k e.1 with
    | some true => some (some (i, e.2.1))
    | some false => aFindNow d k es (i + 1)
    | none => none
def renQ (σ : Place) (q : Option (Nat × Value)) : Option (Nat × Value) := q.map fun p => (p.1, ren σ p.2)

theorem findNow_eq (d : TypeDesc) (k : Value) : ∀ (es : List (Value × Value × Nat)) (i : Nat), Instr.findNow d k (es.map (wr σ)) i = (aFindNow d k es i).map (renQ σ)
  | [], i => rfl
  | e :: es, i => by
    have h1 : Instr.sameNow d k (wr σ e).key = Instr.sameNow d k e.1 := sameNow_ren d k e.1
    simp only [List.map_cons,Instr.findNow,aFindNow]
    rw [h1]
    split
    · rename_i h; simp only [h]; rfl
    · rename_i h; simp only [h]; exact findNow_eq d k es (i + 1)
    · rename_i h; simp only [h]; rfl
theorem aFindNow_mem (d : TypeDesc) (k : Value) : ∀ (es : List (Value × Value × Nat)) (i j : Nat) (v : Value), aFindNow d k es i = some (some (j, v)) → i ≤ j ∧ ∃ e, es[j - i]? = some e ∧ v = e.2.1
  | [], i, j, v, h => by simp [aFindNow] at h
  | e :: es, i, j, v, h => by
    simp only [aFindNow] at h
    split at h
    · cases h; exact ⟨Nat.le_refl _, e, by simp, rfl⟩
    · obtain ⟨h1, e', h2, h3⟩ := aFindNow_mem d k es (i + 1) j v h
      refine ⟨by omega, e', ?_, h3⟩
      have : j - i = (j - (i + 1)) + 1 := by omega
      rw [this, List.getElem?_cons_succ]; exact h2
    · cases h

def aFind (P : Program) (kt : TypeId) (k : Value) : List (Value × Value × Nat) → Nat → Option (Option (Nat × Value))
  | [], _ => some none
  | e :: es, i => bif gr e.1 then match pureRun P (Op.equal kt k e.1) with
      | some true => some (some (i, e.2.1))
      | some false => aFind P kt k es (i + 1)
      | none => none
    else none
theorem aFind_ok (kt : TypeId) (k : Value) : ∀ (es : List (Value × Value × Nat)) (i : Nat) (q : Option (Nat × Value)), aFind P kt k es i = some q →
    (Instr.findAsking kt k (es.map (wr σ)) i).run P w = .ok (renQ σ q) w
  | [], i, q, h => by simp only [aFind,Option.some.injEq] at h; subst h; simp [Instr.findAsking, renQ]
  | e :: es, i, q, h => by
    simp only [aFind] at h
    cases hg : gr e.1
    · rw [hg] at h; cases h
    · rw [hg] at h
      simp only [cond_true] at h
      have hk : (wr σ e).key = e.1 := (gr_ok σ hg).2
      split at h
      · rename_i hp
        cases h
        simp only [List.map_cons,Instr.findAsking,Sem.run_bind]
        rw [hk, pureRun_run hp w]
        simp [renQ, wr]
      · rename_i hp
        simp only [List.map_cons,Instr.findAsking,Sem.run_bind]
        rw [hk, pureRun_run hp w]
        simpa using aFind_ok kt k es (i + 1) q h
      · cases h
theorem aFind_mem (kt : TypeId) (k : Value) : ∀ (es : List (Value × Value × Nat)) (i j : Nat) (v : Value), aFind P kt k es i = some (some (j, v)) → i ≤ j ∧ ∃ e, es[j - i]? = some e ∧ v = e.2.1
  | [], i, j, v, h => by simp [aFind] at h
  | e :: es, i, j, v, h => by
    simp only [aFind] at h
    cases hg : gr e.1
    · rw [hg] at h; cases h
    · rw [hg] at h
      simp only [cond_true] at h
      split at h
      · cases h; exact ⟨Nat.le_refl _, e, by simp, rfl⟩
      · obtain ⟨h1, e', h2, h3⟩ := aFind_mem kt k es (i + 1) j v h
        refine ⟨by omega, e', ?_, h3⟩
        have : j - i = (j - (i + 1)) + 1 := by omega
        rw [this, List.getElem?_cons_succ]; exact h2
      · cases h

def aFindKey (T : Tab) (P : Program) (kt : TypeId) (k : Value) (es : List (Value × Value × Nat)) : Option (Option (Nat × Value)) :=
  match T.und kt with
  | some d => match aFindNow d k es 0 with
    | some q => some q
    | none => aFind P kt k es 0
  | none => none
theorem aFindKey_ok (hT : T.Fits P) {kt : TypeId} {k : Value} {es : List (Value × Value × Nat)} {q : Option (Nat × Value)} (h : aFindKey T P kt k es = some q) :
    (Instr.findKey kt k (es.map (wr σ))).run P w = .ok (renQ σ q) w ∧ ∀ i v, q = some (i, v) → ∃ e, es[i]? = some e ∧ v = e.2.1 := by
  unfold aFindKey at h
  split at h
  · rename_i d hd
    split at h
    · rename_i q' hq
      cases h
      refine ⟨?_, fun i v e => ?_⟩
      · have hn : Instr.findNow d k (es.map (wr σ)) 0 = some (renQ σ q) := by rw [findNow_eq, hq]; rfl
        simp only [Instr.findKey,Sem.run_bind,run_und hT hd,Result.andThen_ok,hn,Sem.run_pure]
      · subst e
        obtain ⟨_, e, h1, h2⟩ := aFindNow_mem d k es 0 i v hq
        exact ⟨e, h1, h2⟩
    · rename_i hq
      refine ⟨?_, fun i v e => ?_⟩
      · have hn : Instr.findNow d k (es.map (wr σ)) 0 = none := by rw [findNow_eq, hq]; rfl
        simp only [Instr.findKey,Sem.run_bind,run_und hT hd,Result.andThen_ok,hn]
        exact aFind_ok kt k es 0 q h
      · subst e
        obtain ⟨_, e, h1, h2⟩ := aFind_mem kt k es 0 i v h
        exact ⟨e, h1, h2⟩
  · cases h

def aMapOf (H : AHeap) : Value → Option (List (Value × Value × Nat))
  | .map none => some []
  | .map (some k) => match H.get k with
    | .map es _ => some es
    | _ => none
  | _ => none

def aLookup (T : Tab) (P : Program) (t : Operand → Option Value) (H : AHeap) (ty : TypeId) (x ix : Operand) (ok : Bool) : Option (Value × AHeap × Nat) :=
  match T.und ty, t x, t ix with
  | some (.map kt e), some mv, some k => match aMapOf H mv with
    | some es => bif gr k then
        match pureRun P (Instr.checkKey es.isEmpty 10000 kt k), aFindKey T P kt k es with
        | some (), some (some (_, v)) => some (bif ok then .tuple #[v, .bool true] else v, H, H.size)
        | some (), some none => match T.inf e with
          | some inf => match inf.zero with
            | some z => bif gr z then some (bif ok then .tuple #[z, .bool false] else z, H, H.size) else none
            | none => none
          | none => none
        | _, _ => none
      else none
    | none => none
  | _, _, _ => none

theorem run_getMap {k b s : Nat} {es : List (Value × Value × Nat)} {clock : Nat} (r : Rel σ H w) (hp : σ.at_ k = some (b, s)) (hg : H.get k = .map es clock) :
    (getObj b).run P w = .ok (.map (es.map (wr σ)).toArray clock) w := by
  have hh := r.holds k b s hp
  rw [hg] at hh
  have e : es.map (wr σ) = es.map fun e => { key := ren σ e.1, val := ren σ e.2.1, born := e.2.2 } := rfl
  rw [e]
  simp [getObj, Sem.run, hh.2.2]

theorem aMapOf_ok (r : Rel σ H w) {mv : Value} (hv : okv σ mv) {es : List (Value × Value × Nat)} (h : aMapOf H mv = some es) :
    (∀ e ∈ es, okv σ e.1 ∧ okv σ e.2.1) ∧ ((ren σ mv = .map none ∧ es = []) ∨ ∃ b clock, ren σ mv = .map (some b) ∧ (getObj b).run P w = .ok (.map (es.map (wr σ)).toArray clock) w) := by
  unfold aMapOf at h
  split at h
  · cases h
    exact ⟨by simp, .inl ⟨by simp [ren], rfl⟩⟩
  · rename_i k
    split at h
    · rename_i es' clock hg
      cases h
      rw [okv] at hv
      obtain ⟨p, hp⟩ := Option.isSome_iff_exists.1 hv
      obtain ⟨b, s⟩ := p
      have hh := r.holds k b s hp
      rw [hg] at hh
      have hbl : σ.blk k = b := by simp [Place.blk, hp]
      exact ⟨hh.2.1, .inr ⟨b, clock, by simp [ren, hbl], run_getMap r hp hg⟩⟩
    · cases h
  · cases h

def qv (σ : Place) (q : Option (Nat × Value)) (z : Value) : Value := match q with
  | some p => ren σ p.2
  | none => z

theorem aLookup_ok (hT : T.Fits P) {o : Oper} {ty : TypeId} {x ix : Operand} {ok : Bool} (ho : o.op = .lookup ty x ix ok) (r : Rel σ H w) (hρ : Evals σ t ρ) {v : Value} {H' : AHeap} {m : Nat}
    (h : aLookup T P t H ty x ix ok = some (v, H', m)) : Runs P (execOp ρ o) σ H w v H' m := by
  unfold aLookup at h
  split at h
  · rename_i kt e mv k hty hx hix
    split at h
    · rename_i es hes
      cases hg : gr k
      · rw [hg] at h; cases h
      · rw [hg] at h
        simp only [cond_true] at h
        obtain ⟨x1, x2⟩ := hρ _ _ hx
        obtain ⟨k1, _⟩ := hρ _ _ hix
        rw [(gr_ok σ hg).2] at k1
        obtain ⟨m1, m2⟩ := aMapOf_ok (P := P) r x2 hes
        have hemp : (es.map (wr σ)).toArray.isEmpty = es.isEmpty := by simp [Array.isEmpty, List.isEmpty_iff]; cases es <;> simp
        have main : ∀ (q : Option (Nat × Value)) (z : Value), pureRun P (Instr.checkKey es.isEmpty 10000 kt k) = some () → aFindKey T P kt k es = some q → (q = none → (zeroValue e).run P w = .ok z w) →
            (execOp ρ o).run P w = .ok (.value (if ok then .tuple #[qv σ q z, .bool q.isSome] else qv σ q z)) w := by
          intro q z hck hfk hz
          obtain ⟨f1, _⟩ := aFindKey_ok (σ := σ) (w := w) hT hfk
          have hlook : (Instr.lookup ty (ren σ mv) k ok).run P w = .ok (if ok then .tuple #[qv σ q z, .bool q.isSome] else qv σ q z) w := by
            unfold Instr.lookup
            rw [Sem.run_bind, run_und hT hty, Result.andThen_ok]
            rcases m2 with ⟨e1, rfl⟩ | ⟨b, clock, e1, e2⟩
            · rw [e1]
              simp only [Sem.run_bind,Sem.run_pure,Result.andThen_ok]
              have c1 := pureRun_run hck w
              simp only [List.isEmpty_nil] at c1
              simp only [List.map_nil] at f1
              have c2 : (#[] : Array MapEntry).isEmpty = true := rfl
              simp only [c2,c1,Result.andThen_ok,f1]
              cases q with
              | none => simp [renQ, Sem.run_bind, hz rfl, qv]
              | some p => simp [renQ, qv]
            · rw [e1]
              simp only [Sem.run_bind,e2,Sem.run_pure,Result.andThen_ok,hemp,pureRun_run hck,f1]
              cases q with
              | none => simp [renQ, Sem.run_bind, hz rfl, qv]
              | some p => simp [renQ, qv]
          simp only [execOp,ho,x1,k1,Sem.run_bind,hlook,Result.andThen_ok,Sem.run_pure]
        split at h
        · rename_i i u hck hfk
          cases h
          have := main (some (i, u)) undef hck hfk (fun e => by cases e)
          obtain ⟨_, f2⟩ := aFindKey_ok (σ := σ) (w := w) hT hfk
          obtain ⟨en, e1, e2⟩ := f2 i u rfl
          have hu : okv σ u := e2 ▸ (m1 en (List.mem_of_getElem? e1)).2
          cases ok
          · exact Runs.same r (by rw [this]; simp [qv]) hu
          · refine Runs.same r ?_ (by simp only [cond_true]; rw [okv]; intro v hv; simp at hv; rcases hv with rfl | rfl; exact hu; simp [okv])
            rw [this]; simp [ren, qv]
        · rename_i hck hfk
          split at h
          · rename_i inf hi
            split at h
            · rename_i z hz
              cases hgz : gr z
              · rw [hgz] at h; cases h
              · rw [hgz] at h
                cases h
                obtain ⟨z1, z2⟩ := gr_ok σ hgz
                have := main none z hck hfk (fun _ => run_zero hT hi hz w)
                cases ok
                · refine Runs.same r ?_ z1
                  rw [this]; simp [z2, qv]
                · refine Runs.same r ?_ (by simp only [cond_true]; rw [okv]; intro v hv; simp at hv; rcases hv with rfl | rfl; exact z1; simp [okv])
                  rw [this]; simp [ren, z2, qv]
            · cases h
          · cases h
        · cases h
    · cases h
  · cases h

def aUpdate (T : Tab) (P : Program) (t : Operand → Option Value) (H : AHeap) (ty : TypeId) (x ix y : Operand) : Option (Value × AHeap × Nat) :=
  match T.und ty, t x, t ix, t y with
  | some (.map kt _), some (.map (some b)), some k, some v => match H.get b with
    | .map es clock => bif gr k then
        match pureRun P (Instr.checkKey false 10000 kt k), aFindKey T P kt k es with
        | some (), some (some (i, _)) => match es[i]? with
          | some en => bif gr en.1 && Instr.sameBits 10000 en.1 k then some (undef, H.put b (.map (es.set i (k, v, en.2.2)) clock), b) else none
          | none => none
        | some (), some none => some (undef, H.put b (.map (es ++ [(k, v, clock)]) (clock + 1)), b)
        | _, _ => none
      else none
    | _ => none
  | _, _, _, _ => none

theorem aUpdate_ok (hT : T.Fits P) {o : Oper} {ty : TypeId} {x ix y : Operand} (ho : o.op = .mapUpdate ty x ix y ∨ o.op = .insert ty x ix y) (r : Rel σ H w) (hρ : Evals σ t ρ) {v : Value} {H' : AHeap} {m : Nat}
    (h : aUpdate T P t H ty x ix y = some (v, H', m)) : Runs P (execOp ρ o) σ H w v H' m := by
  have hexec : execOp ρ o = (do Instr.mapUpdate ty (ρ x) (ρ ix) (ρ y); pure .skip) := by
    rcases ho with ho | ho <;> simp [execOp, ho]
  unfold aUpdate at h
  split at h
  · rename_i kt et b k u hty hx hix hy
    split at h
    · rename_i es clock hgb
      cases hg : gr k
      · rw [hg] at h; cases h
      · rw [hg] at h
        simp only [cond_true] at h
        obtain ⟨x1, x2⟩ := hρ _ _ hx
        obtain ⟨k1, k2⟩ := hρ _ _ hix
        obtain ⟨y1, y2⟩ := hρ _ _ hy
        rw [(gr_ok σ hg).2] at k1
        rw [okv] at x2
        obtain ⟨p, hp⟩ := Option.isSome_iff_exists.1 x2
        obtain ⟨bl, s⟩ := p
        have hh := r.holds b bl s hp
        rw [hgb] at hh
        have hbl : σ.blk b = bl := by simp [Place.blk, hp]
        simp only [ren,Option.map_some,hbl] at x1
        have hget : (getObj bl).run P w = .ok (.map (es.map (wr σ)).toArray clock) w := run_getMap r hp hgb
        have hset : ∀ o', (setObj bl o').run P w = .ok () (w.putObj bl o') := fun o' => by simp [setObj, Sem.run, hh.2.2, World.putObj]
        have hlt := (r.lt b bl s hp).2
        have fin : ∀ (es' : List (Value × Value × Nat)) (c' : Nat), (∀ e ∈ es', okv σ e.1 ∧ okv σ e.2.1) → (Instr.mapUpdate ty (ρ x) (ρ ix) (ρ y)).run P w = (setObj bl (.map (es'.map (wr σ)).toArray c')).run P w →
            Runs P (execOp ρ o) σ H w undef (H.put b (.map es' c')) b := by
          intro es' c' hes hrun
          obtain ⟨r1, r2⟩ := r.put (m := b) hp (by rw [hgb]; rfl) (.map (es'.map (wr σ)).toArray c') (.map es' c') ⟨hh.1, hes, World.putObj_heap_same hlt⟩ (Nat.le_refl _)
          refine ⟨σ, _, .skip, ?_, .inr ⟨rfl, rfl⟩, okv_undef σ, r1, r2⟩
          rw [hexec, Sem.run_bind, hrun, hset]; rfl
        have hup : ∀ q, aFindKey T P kt k es = some q → pureRun P (Instr.checkKey false 10000 kt k) = some () →
            (Instr.mapUpdate ty (ρ x) (ρ ix) (ρ y)).run P w = (match renQ σ q with
              | some (i, _) => (do
                let key ← Instr.keyThatStays ((((es.map (wr σ)).toArray[i]?).map (fun e : MapEntry => e.key)).getD k) k
                setObj bl (.map ((es.map (wr σ)).toArray.modify i fun e => { e with key, val := ren σ u }) clock) : Sem Unit)
              | none => setObj bl (.map ((es.map (wr σ)).toArray.push { key := k, val := ren σ u, born := clock }) (clock + 1))).run P w := by
          intro q hfk hck
          obtain ⟨f1, _⟩ := aFindKey_ok (σ := σ) (w := w) hT hfk
          unfold Instr.mapUpdate
          rw [Sem.run_bind, run_und hT hty, Result.andThen_ok]
          simp only [x1,k1,y1]
          rw [Sem.run_bind, hget, Result.andThen_ok]
          simp only
          rw [Sem.run_bind, pureRun_run hck, Result.andThen_ok, Sem.run_bind, f1, Result.andThen_ok]
          cases q <;> rfl
        split at h
        · rename_i i u' hck hfk
          split at h
          · rename_i en hen
            cases hb : (gr en.1 && Instr.sameBits 10000 en.1 k)
            · rw [hb] at h; cases h
            · rw [hb] at h
              cases h
              simp only [Bool.and_eq_true] at hb
              refine fin _ _ ?_ ?_
              · intro e he
                rcases List.mem_or_eq_of_mem_set he with he | rfl
                · exact hh.2.1 e he
                · exact ⟨k2, y2⟩
              · rw [hup _ hfk hck]
                have e1 : (((es.map (wr σ)).toArray[i]?).map (fun e : MapEntry => e.key)).getD k = en.1 := by
                  simp [hen, wr, (gr_ok σ hb.1).2]
                simp only [renQ,Option.map_some,e1,Instr.keyThatStays,hb.2,if_true,Sem.run_bind,Sem.run_pure,Result.andThen_ok]
                congr 3
                apply Array.ext'
                apply List.ext_getElem?
                intro j
                simp only [Array.getElem?_toList,Array.getElem?_modify,List.getElem?_toArray,List.getElem?_map,List.getElem?_set]
                by_cases e : i = j
                · subst e
                  have hil := (List.getElem?_eq_some_iff.1 hen).1
                  have h9 : es[i] = en := (List.getElem?_eq_some_iff.1 hen).2
                  simp [hen, hil, wr, (gr_ok σ hg).2, h9]
                · simp [e]
          · cases h
        · rename_i hck hfk
          cases h
          refine fin _ _ ?_ ?_
          · intro e he
            rcases List.mem_append.1 he with he | he
            · exact hh.2.1 e he
            · rw [List.mem_singleton.1 he]; exact ⟨k2, y2⟩
          · rw [hup _ hfk hck]
            simp only [renQ,Option.map_none]
            congr 3
            simp [wr, (gr_ok σ hg).2]
        · cases h
    · cases h
  · cases h
end Go.Am
/- One operation, by its kind. -/
namespace Go.Am
variable {T : Tab} {P : Program} {σ : Place} {H : AHeap} {w : World} {t : Operand → Option Value} {ρ : Operand → Value}

def Same (r : Option (Value × AHeap × Nat)) (H : AHeap) : Prop := ∀ v H' m, r = some (v, H', m) → H' = H ∧ m = H.size

theorem aMove_same {x : Operand} : Same (aMove t H x) H := by
  intro v H' m h; unfold aMove at h; try simp only [Bool.cond_eq_ite] at h
  repeat' (split at h)
  all_goals first | (cases h; exact ⟨rfl, rfl⟩) | cases h
theorem aPick_same {c a b : Operand} : Same (aPick t H c a b) H := by
  intro v H' m h; unfold aPick at h; try simp only [Bool.cond_eq_ite] at h
  repeat' (split at h)
  all_goals first | (cases h; exact ⟨rfl, rfl⟩) | cases h
theorem aExtract_same {x : Operand} {i : Nat} : Same (aExtract t H x i) H := by
  intro v H' m h; unfold aExtract at h; try simp only [Bool.cond_eq_ite] at h
  repeat' (split at h)
  all_goals first | (cases h; exact ⟨rfl, rfl⟩) | cases h
theorem aField_same {ty : TypeId} {x : Operand} {f : Nat} : Same (aField T t H ty x f) H := by
  intro v H' m h; unfold aField at h; try simp only [Bool.cond_eq_ite] at h
  repeat' (split at h)
  all_goals first | (cases h; exact ⟨rfl, rfl⟩) | cases h
theorem aIndex_same {ty : TypeId} {x ix : Operand} : Same (aIndex T t H ty x ix) H := by
  intro v H' m h; unfold aIndex at h; try simp only [Bool.cond_eq_ite] at h
  repeat' (split at h)
  all_goals first | (cases h; exact ⟨rfl, rfl⟩) | cases h
theorem aMakeFunc_same {fn : Fn} {a b : Array Operand} : Same (aMakeFunc t H fn a b) H := by
  intro v H' m h; unfold aMakeFunc at h; try simp only [Bool.cond_eq_ite] at h
  repeat' (split at h)
  all_goals first | (cases h; exact ⟨rfl, rfl⟩) | cases h
theorem aNilCheck_same {x : Operand} : Same (aNilCheck t H x) H := by
  intro v H' m h; unfold aNilCheck at h; try simp only [Bool.cond_eq_ite] at h
  repeat' (split at h)
  all_goals first | (cases h; exact ⟨rfl, rfl⟩) | cases h
theorem aFieldAddr_same {ty : TypeId} {x : Operand} {f : Nat} : Same (aFieldAddr T t H ty x f) H := by
  intro v H' m h; unfold aFieldAddr at h; try simp only [Bool.cond_eq_ite] at h
  repeat' (split at h)
  all_goals first | (cases h; exact ⟨rfl, rfl⟩) | cases h
theorem aIndexAddr_same {ty : TypeId} {x ix : Operand} : Same (aIndexAddr T t H ty x ix) H := by
  intro v H' m h; unfold aIndexAddr at h; try simp only [Bool.cond_eq_ite] at h
  repeat' (split at h)
  all_goals first | (cases h; exact ⟨rfl, rfl⟩) | cases h
theorem aLoad_same {ty : TypeId} {x : Operand} : Same (aLoad T t H ty x) H := by
  intro v H' m h; unfold aLoad at h; try simp only [Bool.cond_eq_ite] at h
  repeat' (split at h)
  all_goals first | (cases h; exact ⟨rfl, rfl⟩) | cases h
theorem aPureOf_same {s : Sem Value} : Same (aPureOf P H s) H := by
  intro v H' m h; unfold aPureOf at h; try simp only [Bool.cond_eq_ite] at h
  repeat' (split at h)
  all_goals first | (cases h; exact ⟨rfl, rfl⟩) | cases h
theorem aUn_same {op : UnOp} {x : Operand} : Same (aUn P t H op x) H := by
  intro v H' m h; unfold aUn at h; try simp only [Bool.cond_eq_ite] at h
  repeat' (split at h)
  all_goals first | exact aPureOf_same _ _ _ h | (cases h; exact ⟨rfl, rfl⟩) | cases h
theorem aConv_same {a b : TypeId} {x : Operand} : Same (aConv T P t H a b x) H := by
  intro v H' m h; unfold aConv at h; try simp only [Bool.cond_eq_ite] at h
  repeat' (split at h)
  all_goals first | exact aPureOf_same _ _ _ h | (cases h; exact ⟨rfl, rfl⟩) | cases h
/-! ### Rows of numbers are the same -/
def eqLit : Lit → Lit → Bool
  | .bool a, .bool b => a == b
  | .int k a, .int j b => decide (k = j) && decide (a = b)
  | .string a, .string b => a == b
  | _, _ => false
def eqLits : List Lit → List Lit → Option Bool
  | [], [] => some true
  | a :: l, b :: m => match eqLits l m with
    | some r => some (eqLit a b && r)
    | none => none
  | _, _ => none
def plainLit : Lit → Bool
  | .bool _ | .int _ _ | .string _ => true
  | _ => false
theorem eqLit_iff {a b : Lit} (h : plainLit a = true) : eqLit a b = true ↔ a = b := by
  cases a <;> cases b <;> simp_all [eqLit, plainLit]
theorem eqLits_iff : ∀ {l m : List Lit} {r : Bool}, l.all plainLit = true → eqLits l m = some r → (r = true ↔ l = m)
  | [], [], r, _, h => by cases h; simp
  | a :: l, b :: m, r, hp, h => by
    simp only [List.all_cons,Bool.and_eq_true] at hp
    simp only [eqLits] at h
    split at h
    · rename_i r' hr
      cases h
      have := eqLits_iff hp.2 hr
      simp only [Bool.and_eq_true,eqLit_iff hp.1,this,List.cons.injEq]
    · cases h
  | [], _ :: _, r, _, h => by cases h
  | _ :: _, [], r, _, h => by cases h
def aEqD (P : Program) (ty : TypeId) (a b : Value) : Option Bool := match a, b with
  | .agg x, .agg y => bif P.keyTypeAt 9 ty && !P.eqGuardType P.depth ty && (Value.agg x).formed P ty && (Value.agg y).formed P ty && gr (.agg x) && gr (.agg y) then
      match P.keyLits 9 ty x.toList, P.keyLits 9 ty y.toList with
      | some la, some lb => bif la.all plainLit then eqLits la lb else none
      | _, _ => none
    else none
  | _, _ => none
def aEqV (P : Program) (op : BinOp) (ty : TypeId) (a b : Option Value) : Option Value := match op, a, b with
  | .eql, some a, some b => (aEqD P ty a b).map .bool
  | .neq, some a, some b => (aEqD P ty a b).map fun r => .bool !r
  | _, _, _ => none
theorem aEqV_none_l {op : BinOp} {ty : TypeId} {b : Option Value} : aEqV P op ty none b = none := by cases op <;> rfl
theorem aEqV_none_r {op : BinOp} {ty : TypeId} {a : Option Value} : aEqV P op ty a none = none := by cases op <;> cases a <;> rfl
theorem aEqV_int {op : BinOp} {ty : TypeId} {k : IntKind} {n : Int} {b : Option Value} : aEqV P op ty (some (.int k n)) b = none := by cases op <;> cases b <;> rfl
theorem aEqD_run {ty : TypeId} {a b : Value} {r : Bool} (h : aEqD P ty a b = some r) (w : World) : (Op.equal ty a b).run P w = .ok r w ∧ (∃ x y, a = .agg x ∧ b = .agg y) ∧ P.eqGuardType P.depth ty = false ∧ gr a = true ∧ gr b = true := by
  unfold aEqD at h
  split at h
  · rename_i x y
    cases hb : (P.keyTypeAt 9 ty && !P.eqGuardType P.depth ty && (Value.agg x).formed P ty && (Value.agg y).formed P ty && gr (.agg x) && gr (.agg y))
    · rw [hb] at h; cases h
    · rw [hb, cond_true] at h
      simp only [Bool.and_eq_true,Bool.not_eq_true'] at hb
      obtain ⟨⟨⟨⟨⟨k1, k2⟩, k3⟩, k4⟩, k5⟩, k6⟩ := hb
      split at h
      · rename_i la lb hla hlb
        cases hp : la.all plainLit
        · rw [hp] at h; cases h
        · rw [hp, cond_true] at h
          obtain ⟨r', hr, hiff⟩ := run_equalIn_deep (P := P) 9991 9 ty k1 w 9 9 (.agg x) (.agg y) la lb k3 k4 hla hlb
          have hrr : r' = r := by
            have := eqLits_iff hp h
            rw [Bool.eq_iff_iff, hiff, this]
          subst hrr
          exact ⟨hr, ⟨x, y, rfl, rfl⟩, k2, k5, k6⟩
      · cases h
  · cases h
theorem aEqV_ok {o : Oper} {op : BinOp} {ty yt : TypeId} {x y : Operand} (ho : o.op = .binOp op ty x y yt) (r : Rel σ H w) (hρ : Evals σ t ρ) {v : Value} (h : aEqV P op ty (t x) (t y) = some v) : Runs P (execOp ρ o) σ H w v H H.size := by
  unfold aEqV at h
  split at h
  · rename_i a b ha hb
    simp only [Option.map_eq_some_iff] at h
    obtain ⟨q, hq, rfl⟩ := h
    obtain ⟨h1, ⟨xs, ys, rfl, rfl⟩, h2, h3, h4⟩ := aEqD_run hq w
    have e1 : ρ x = .agg xs := by rw [(hρ _ _ ha).1, (gr_ok σ h3).2]
    have e2 : ρ y = .agg ys := by rw [(hρ _ _ hb).1, (gr_ok σ h4).2]
    exact Runs.same r (by simp [execOp, ho, e1, e2, eqGuard, h2, binOp, h1, ren]) (by simp [okv])
  · rename_i a b ha hb
    simp only [Option.map_eq_some_iff] at h
    obtain ⟨q, hq, rfl⟩ := h
    obtain ⟨h1, ⟨xs, ys, rfl, rfl⟩, h2, h3, h4⟩ := aEqD_run hq w
    have e1 : ρ x = .agg xs := by rw [(hρ _ _ ha).1, (gr_ok σ h3).2]
    have e2 : ρ y = .agg ys := by rw [(hρ _ _ hb).1, (gr_ok σ h4).2]
    exact Runs.same r (by simp [execOp, ho, e1, e2, eqGuard, h2, binOp, h1, ren]) (by simp [okv])
  · cases h
def aBin20 (P : Program) (t : Operand → Option Value) (H : AHeap) (op : BinOp) (ty : TypeId) (x y : Operand) : Option (Value × AHeap × Nat) :=
  bif allGr t [x, y] then aPureOf P H (do eqGuard op ty x y (aρ t x) (aρ t y); binOp op ty (aρ t x) (aρ t y)) else none
def aBin2 (P : Program) (t : Operand → Option Value) (H : AHeap) (op : BinOp) (ty : TypeId) (x y : Operand) : Option (Value × AHeap × Nat) := match aEqV P op ty (t x) (t y) with
  | some v => some (v, H, H.size)
  | none => aBin20 P t H op ty x y
theorem aBin20_same {op : BinOp} {ty : TypeId} {x y : Operand} : Same (aBin20 P t H op ty x y) H := by
  intro v H' m h; unfold aBin20 at h; try simp only [Bool.cond_eq_ite] at h
  repeat' (split at h)
  all_goals first | exact aPureOf_same _ _ _ h | (cases h; exact ⟨rfl, rfl⟩) | cases h
theorem aBin2_same {op : BinOp} {ty : TypeId} {x y : Operand} : Same (aBin2 P t H op ty x y) H := by
  intro v H' m h
  unfold aBin2 at h
  split at h
  · cases h; exact ⟨rfl, rfl⟩
  · exact aBin20_same _ _ _ h
theorem aBin2_ok (hT : T.Fits P) {o : Oper} {op : BinOp} {ty yt : TypeId} {x y : Operand} (ho : o.op = .binOp op ty x y yt) (r : Rel σ H w) (hρ : Evals σ t ρ) {v : Value} {H' : AHeap} {m : Nat} (h : aBin2 P t H op ty x y = some (v, H', m)) : Runs P (execOp ρ o) σ H w v H' m := by
  unfold aBin2 at h
  split at h
  · rename_i u hu
    cases h
    exact aEqV_ok ho r hρ hu
  · exact aBin_ok ho hT r hρ h
theorem aNil_same {op : BinOp} {ty : TypeId} {x y : Operand} : Same (aNil T t H op ty x y) H := by
  intro v H' m h; unfold aNil at h; try simp only [Bool.cond_eq_ite] at h
  repeat' (split at h)
  all_goals first | (cases h; exact ⟨rfl, rfl⟩) | cases h
theorem aBuild_same {ty : TypeId} {ps : Array (Nat × Operand)} : Same (aBuild T t H ty ps) H := by
  intro v H' m h; unfold aBuild at h; try simp only [Bool.cond_eq_ite] at h
  repeat' (split at h)
  all_goals first | (cases h; exact ⟨rfl, rfl⟩) | cases h
theorem aSlice_same {ty : TypeId} {x : Operand} {lo hi mx : Option Operand} : Same (aSlice T t H ty x lo hi mx) H := by
  intro v H' m h; unfold aSlice at h; try simp only [Bool.cond_eq_ite] at h
  repeat' (split at h)
  all_goals first | (cases h; exact ⟨rfl, rfl⟩) | cases h
theorem aLookup_same {ty : TypeId} {x ix : Operand} {ok : Bool} : Same (aLookup T P t H ty x ix ok) H := by
  intro v H' m h; unfold aLookup at h; try simp only [Bool.cond_eq_ite] at h
  repeat' (split at h)
  all_goals first | (cases h; exact ⟨rfl, rfl⟩) | cases h
theorem aMinMax_same {b : Bool} {args : Array Operand} : Same (aMinMax P t H b args) H := by
  intro v H' m h; unfold aMinMax at h; try simp only [Bool.cond_eq_ite] at h
  repeat' (split at h)
  all_goals first | exact aPureOf_same _ _ _ h | (cases h; exact ⟨rfl, rfl⟩) | cases h

/-- An index into a string, or into a value without addresses. -/
def aIndexG (P : Program) (t : Operand → Option Value) (H : AHeap) (ty : TypeId) (x ix : Operand) : Option (Value × AHeap × Nat) :=
  bif allGr t [x, ix] then aPureOf P H (Instr.index ty (aρ t x) (aρ t ix)) else none
theorem aIndexG_same {ty : TypeId} {x ix : Operand} : Same (aIndexG P t H ty x ix) H := by
  intro v H' m h; unfold aIndexG at h; try simp only [Bool.cond_eq_ite] at h
  repeat' (split at h)
  all_goals first | exact aPureOf_same _ _ _ h | (cases h; exact ⟨rfl, rfl⟩) | cases h
theorem aIndexG_ok {o : Oper} {ty : TypeId} {x ix : Operand} (ho : o.op = .index ty x ix) (r : Rel σ H w) (hρ : Evals σ t ρ) {v : Value} {H' : AHeap} {m : Nat}
    (h : aIndexG P t H ty x ix = some (v, H', m)) : Runs P (execOp ρ o) σ H w v H' m := by
  unfold aIndexG at h
  cases hb : allGr t [x, ix]
  · rw [hb] at h; cases h
  · rw [hb] at h
    have e := ground_eval hρ hb
    have e1 : ρ x = aρ t x := e x (by simp)
    have e2 : ρ ix = aρ t ix := e ix (by simp)
    refine aPureOf_ok ?_ r h
    simp only [execOp,ho,e1,e2]

abbrev Res := Option (Bool × Value × AHeap × Nat)
def still (r : Option (Value × AHeap × Nat)) : Res := match r with
  | some (v, H, m) => some (true, v, H, m)
  | none => none
def moves (r : Option (Value × AHeap × Nat)) : Res := match r with
  | some (v, H, m) => some (false, v, H, m)
  | none => none
def fresh (H : AHeap) (r : Option (PK × ABlk)) : Res := match r with
  | some (p, b) => some (false, mkV p H.size, H.alloc b, H.size)
  | none => none
def orElse (r : Option (Value × AHeap × Nat)) (r' : Option (Value × AHeap × Nat)) : Option (Value × AHeap × Nat) := match r with
  | some x => some x
  | none => r'
def lenRes (H : AHeap) (r : Option Value) : Res := match r with
  | some v => some (true, v, H, H.size)
  | none => none

/-- The flag tells that the heap is as it was. -/
def aop (T : Tab) (P : Program) (t : Operand → Option Value) (H : AHeap) (o : Op) : Res :=
  match o with
  | .move x | .assign x => still (aMove t H x)
  | .pick c a b => still (aPick t H c a b)
  | .alloc e => fresh H (newAlloc T e)
  | .box e x => fresh H (newBox t e x)
  | .build ty ps => still (aBuild T t H ty ps)
  | .buildSlice ty n ps => fresh H (newRow T t ty n ps)
  | .load ty x => still (aLoad T t H ty x)
  | .store ty x y => moves (aStore T t H ty x y)
  | .nilCheck x => still (aNilCheck t H x)
  | .binOp op ty x y _ => still (orElse (aBin2 P t H op ty x y) (aNil T t H op ty x y))
  | .unOp op _ x => still (aUn P t H op x)
  | .convert src dst x => still (aConv T P t H src dst x)
  | .makeFunc fn a b => still (aMakeFunc t H fn a b)
  | .makeMap _ r => fresh H (newMap r)
  | .makeSlice ty x y => fresh H (newMade T t ty x y)
  | .slice ty x lo hi mx => still (aSlice T t H ty x lo hi mx)
  | .fieldAddr ty x f => still (aFieldAddr T t H ty x f)
  | .field ty x f => still (aField T t H ty x f)
  | .indexAddr ty x ix => still (aIndexAddr T t H ty x ix)
  | .index ty x ix => still (orElse (aIndex T t H ty x ix) (aIndexG P t H ty x ix))
  | .lookup ty x ix ok => still (aLookup T P t H ty x ix ok)
  | .mapUpdate ty x ix y | .insert ty x ix y => moves (aUpdate T P t H ty x ix y)
  | .extract x i => still (aExtract t H x i)
  | .call c => match c.callee with
    | .builtin .append => moves (aAppend T t H c.argTypes c.args)
    | .builtin .len => lenRes H (aLen T t H c.argTypes c.args)
    | .builtin .copy => moves (aCopy T t H c.argTypes c.args)
    | .builtin .clear => moves (aClear T t H c.argTypes c.args)
    | .builtin .min => still (aMinMax P t H false c.args)
    | .builtin .max => still (aMinMax P t H true c.args)
    | _ => none
  | _ => none

theorem still_some {r : Option (Value × AHeap × Nat)} {b : Bool} {v : Value} {H' : AHeap} {m : Nat} (h : still r = some (b, v, H', m)) : b = true ∧ r = some (v, H', m) := by
  unfold still at h; split at h <;> cases h; exact ⟨rfl, rfl⟩
theorem moves_some {r : Option (Value × AHeap × Nat)} {b : Bool} {v : Value} {H' : AHeap} {m : Nat} (h : moves r = some (b, v, H', m)) : b = false ∧ r = some (v, H', m) := by
  unfold moves at h; split at h <;> cases h; exact ⟨rfl, rfl⟩
theorem fresh_some {r : Option (PK × ABlk)} {b : Bool} {v : Value} {H' : AHeap} {m : Nat} (h : fresh H r = some (b, v, H', m)) :
    ∃ p blk, b = false ∧ r = some (p, blk) ∧ v = mkV p H.size ∧ H' = H.alloc blk ∧ m = H.size := by
  unfold fresh at h; split at h <;> cases h; exact ⟨_, _, rfl, rfl, rfl, rfl, rfl⟩
theorem lenRes_some {r : Option Value} {b : Bool} {v : Value} {H' : AHeap} {m : Nat} (h : lenRes H r = some (b, v, H', m)) : b = true ∧ r = some v ∧ H' = H ∧ m = H.size := by
  unfold lenRes at h; split at h <;> cases h; exact ⟨rfl, rfl, rfl, rfl⟩
theorem orElse_some {r r' : Option (Value × AHeap × Nat)} {x : Value × AHeap × Nat} (h : orElse r r' = some x) : r = some x ∨ r' = some x := by
  unfold orElse at h; split at h
  · cases h; exact .inl rfl
  · exact .inr h

theorem fresh_runs (r : Rel σ H w) {s : Sem Next} {q : Option (PK × ABlk)} {b : Bool} {v : Value} {H' : AHeap} {m : Nat} (h : fresh H q = some (b, v, H', m)) (k : ∀ p blk, q = some (p, blk) → Fresh P s σ w p blk) : Runs P s σ H w v H' m := by
  obtain ⟨p, blk, _, h2, rfl, rfl, rfl⟩ := fresh_some h
  exact (k p blk h2).runs r

theorem aop_ok (hT : T.Fits P) (r : Rel σ H w) (hρ : Evals σ t ρ) {o : Oper} {b : Bool} {v : Value} {H' : AHeap} {m : Nat} (h : aop T P t H o.op = some (b, v, H', m)) : Runs P (execOp ρ o) σ H w v H' m := by
  unfold aop at h
  split at h
  · rename_i ho; exact aMove_ok (.inl ho) r hρ (still_some h).2
  · rename_i ho; exact aMove_ok (.inr ho) r hρ (still_some h).2
  · rename_i ho; exact aPick_ok ho r hρ (still_some h).2
  · rename_i ho; exact fresh_runs r h fun p blk hq => newAlloc_ok hT ho hq
  · rename_i ho; exact fresh_runs r h fun p blk hq => newBox_ok ho hρ hq
  · rename_i ho; exact aBuild_ok hT ho r hρ (still_some h).2
  · rename_i ho; exact fresh_runs r h fun p blk hq => newRow_ok hT ho hρ hq
  · rename_i ho; exact aLoad_ok hT ho r hρ (still_some h).2
  · rename_i ho; exact aStore_ok hT ho r hρ (moves_some h).2
  · rename_i ho; exact aNilCheck_ok ho r hρ (still_some h).2
  · rename_i ho
    rcases orElse_some (still_some h).2 with h | h
    · exact aBin2_ok hT ho r hρ h
    · exact aNil_ok hT ho r hρ h
  · rename_i ho; exact aUn_ok ho r hρ (still_some h).2
  · rename_i ho; exact aConv_ok hT ho r hρ (still_some h).2
  · rename_i ho; exact aMakeFunc_ok ho r hρ (still_some h).2
  · rename_i ho; exact fresh_runs r h fun p blk hq => newMap_ok ho hq
  · rename_i ho; exact fresh_runs r h fun p blk hq => newMade_ok hT ho hρ hq
  · rename_i ho; exact aSlice_ok hT ho r hρ (still_some h).2
  · rename_i ho; exact aFieldAddr_ok hT ho r hρ (still_some h).2
  · rename_i ho; exact aField_ok hT ho r hρ (still_some h).2
  · rename_i ho; exact aIndexAddr_ok hT ho r hρ (still_some h).2
  · rename_i ho
    rcases orElse_some (still_some h).2 with h | h
    · exact aIndex_ok hT ho r hρ h
    · exact aIndexG_ok ho r hρ h
  · rename_i ho; exact aLookup_ok hT ho r hρ (still_some h).2
  · rename_i ho; exact aUpdate_ok hT (.inl ho) r hρ (moves_some h).2
  · rename_i ho; exact aUpdate_ok hT (.inr ho) r hρ (moves_some h).2
  · rename_i ho; exact aExtract_ok ho r hρ (still_some h).2
  · rename_i c ho
    obtain ⟨ce, args, tys⟩ := c
    simp only at h
    split at h
    · exact aAppend_ok hT ho r hρ (moves_some h).2
    · obtain ⟨_, h2, rfl, rfl⟩ := lenRes_some h
      exact aLen_ok hT ho r hρ h2
    · exact aCopy_ok hT ho r hρ (moves_some h).2
    · exact aClear_ok hT ho r hρ (moves_some h).2
    · exact aMinMax_ok (mx := false) ho r hρ (still_some h).2
    · exact aMinMax_ok (mx := true) ho r hρ (still_some h).2
    · cases h
  · cases h

theorem aop_nd {o : Op} {x : Bool × Value × AHeap × Nat} (h : aop T P t H o = some x) : ∀ c, o ≠ .defer c := by
  rintro c rfl
  cases h

theorem fresh_false {q : Option (PK × ABlk)} {v : Value} {H' : AHeap} {m : Nat} {A : Prop} (h : fresh H q = some (true, v, H', m)) : A := by
  obtain ⟨_, _, h1, _⟩ := fresh_some h; cases h1
theorem moves_false {q : Option (Value × AHeap × Nat)} {v : Value} {H' : AHeap} {m : Nat} {A : Prop} (h : moves q = some (true, v, H', m)) : A := by
  obtain ⟨h1, _⟩ := moves_some h; cases h1

theorem aop_still {o : Op} {v : Value} {H' : AHeap} {m : Nat} (h : aop T P t H o = some (true, v, H', m)) : H' = H ∧ m = H.size := by
  unfold aop at h
  split at h
  · exact aMove_same _ _ _ (still_some h).2
  · exact aMove_same _ _ _ (still_some h).2
  · exact aPick_same _ _ _ (still_some h).2
  · exact fresh_false h
  · exact fresh_false h
  · exact aBuild_same _ _ _ (still_some h).2
  · exact fresh_false h
  · exact aLoad_same _ _ _ (still_some h).2
  · exact moves_false h
  · exact aNilCheck_same _ _ _ (still_some h).2
  · rcases orElse_some (still_some h).2 with h | h
    · exact aBin2_same _ _ _ h
    · exact aNil_same _ _ _ h
  · exact aUn_same _ _ _ (still_some h).2
  · exact aConv_same _ _ _ (still_some h).2
  · exact aMakeFunc_same _ _ _ (still_some h).2
  · exact fresh_false h
  · exact fresh_false h
  · exact aSlice_same _ _ _ (still_some h).2
  · exact aFieldAddr_same _ _ _ (still_some h).2
  · exact aField_same _ _ _ (still_some h).2
  · exact aIndexAddr_same _ _ _ (still_some h).2
  · rcases orElse_some (still_some h).2 with h | h
    · exact aIndex_same _ _ _ h
    · exact aIndexG_same _ _ _ h
  · exact aLookup_same _ _ _ (still_some h).2
  · exact moves_false h
  · exact moves_false h
  · exact aExtract_same _ _ _ (still_some h).2
  · rename_i c
    obtain ⟨ce, args, tys⟩ := c
    simp only at h
    split at h
    · exact moves_false h
    · obtain ⟨_, _, h3, h4⟩ := lenRes_some h; exact ⟨h3, h4⟩
    · exact moves_false h
    · exact moves_false h
    · exact aMinMax_same _ _ _ (still_some h).2
    · exact aMinMax_same _ _ _ (still_some h).2
    · cases h
  · cases h

theorem aop_sop (hT : T.Fits P) {r : Option Nat} {o : Oper} {b : Bool} {v : Value} {H' : AHeap} {m : Nat} (h : aop T P t H o.op = some (b, v, H', m)) : SOp P r o t H v H' m :=
  SOp.of_runs (aop_nd h) fun _ _ _ hr hρ => aop_ok hT hr hρ h
end Go.Am
/- The little machine itself: calls, rounds, code. -/
namespace Go.Am
variable {T : Tab} {P : Program}

/-! ### Temporaries -/
inductive VT where
  | nil
  | node (v : Value) (l r : VT)
def VT.get : VT → Nat → Value
  | .nil, _ => undef
  | .node v l r, n => bif Nat.beq n 0 then v else bif Nat.beq (n % 2) 1 then l.get (n / 2) else r.get (n / 2 - 1)
def VT.set : Nat → VT → Nat → Value → VT
  | 0, t, _, _ => t
  | d + 1, .nil, n, b =>
    bif Nat.beq n 0 then .node b .nil .nil
    else bif Nat.beq (n % 2) 1 then .node undef (VT.set d .nil (n / 2) b) .nil else .node undef .nil (VT.set d .nil (n / 2 - 1) b)
  | d + 1, .node v l r, n, b =>
    bif Nat.beq n 0 then .node b l r
    else bif Nat.beq (n % 2) 1 then .node v (VT.set d l (n / 2) b) r else .node v l (VT.set d r (n / 2 - 1) b)
theorem VT.get_set_same (b : Value) : ∀ (d : Nat) (t : VT) (n : Nat), n < d → (VT.set d t n b).get n = b := by
  intro d
  induction d with
  | zero => intro t n h; omega
  | succ d ih =>
    intro t n h
    by_cases h0 : n = 0
    · subst h0; cases t <;> simp [VT.set, VT.get]
    · have e0 := beq_ne h0
      by_cases h1 : n % 2 = 1
      · have := fun t => ih t (n / 2) (by omega)
        cases t <;> simp [VT.set, VT.get, e0, h1, this]
      · have e1 := beq_ne h1
        have := fun t => ih t (n / 2 - 1) (by omega)
        cases t <;> simp [VT.set, VT.get, e0, e1, this]
theorem VT.get_set_other (b : Value) : ∀ (d : Nat) (t : VT) (n k : Nat), k ≠ n → (VT.set d t n b).get k = t.get k := by
  intro d
  induction d with
  | zero => intro t n k h; rfl
  | succ d ih =>
    intro t n k h
    by_cases h0 : n = 0
    · subst h0; have ek := beq_ne h; cases t <;> simp [VT.set, VT.get, ek]
    · have e0 := beq_ne h0
      by_cases hk : k = 0
      · subst hk
        by_cases h1 : n % 2 = 1
        · cases t <;> simp [VT.set, VT.get, e0, h1]
        · have e1 := beq_ne h1
          cases t <;> simp [VT.set, VT.get, e0, e1]
      · have ek := beq_ne hk
        by_cases h1 : n % 2 = 1
        · by_cases hk1 : k % 2 = 1
          · have := fun t => ih t (n / 2) (k / 2) (by omega)
            cases t <;> simp [VT.set, VT.get, e0, h1, ek, hk1, this]
          · have f1 := beq_ne hk1
            cases t <;> simp [VT.set, VT.get, e0, h1, ek, f1]
        · have e1 := beq_ne h1
          by_cases hk1 : k % 2 = 1
          · cases t <;> simp [VT.set, VT.get, e0, e1, ek, hk1]
          · have f1 := beq_ne hk1
            have := fun t => ih t (n / 2 - 1) (k / 2 - 1) (by omega)
            cases t <;> simp [VT.set, VT.get, e0, e1, ek, f1, this]
def VT.setK {α : Type} : Nat → VT → Nat → Value → (VT → α) → α
  | 0, t, _, _, k => k t
  | d + 1, .nil, n, b, k =>
    bif Nat.beq n 0 then k (.node b .nil .nil)
    else bif Nat.beq (n % 2) 1 then VT.setK d .nil (n / 2) b fun l => k (.node undef l .nil) else VT.setK d .nil (n / 2 - 1) b fun r => k (.node undef .nil r)
  | d + 1, .node v l r, n, b, k =>
    bif Nat.beq n 0 then k (.node b l r)
    else bif Nat.beq (n % 2) 1 then VT.setK d l (n / 2) b fun l => k (.node v l r) else VT.setK d r (n / 2 - 1) b fun r => k (.node v l r)
theorem VT.setK_eq {α : Type} (b : Value) : ∀ (d : Nat) (t : VT) (n : Nat) (k : VT → α), VT.setK d t n b k = k (VT.set d t n b)
  | 0, t, n, k => rfl
  | d + 1, .nil, n, k => by
    simp only [VT.setK,VT.set]
    cases Nat.beq n 0 <;> simp only [cond_true,cond_false]
    cases Nat.beq (n % 2) 1 <;> simp only [cond_true,cond_false,VT.setK_eq b d]
  | d + 1, .node v l r, n, k => by
    simp only [VT.setK,VT.set]
    cases Nat.beq n 0 <;> simp only [cond_true,cond_false]
    cases Nat.beq (n % 2) 1 <;> simp only [cond_true,cond_false,VT.setK_eq b d]

def VT.put (e : VT) (d : Option Tmp) (v : Value) : VT := match d with
  | none => e
  | some d => VT.set (d + 1) e d v
def VT.putK {α : Type} (e : VT) (d : Option Tmp) (v : Value) (k : VT → α) : α := match d with
  | none => k e
  | some d => fV v fun v => VT.setK (d + 1) e d v k
@[simp] theorem VT.putK_eq {α : Type} (e : VT) (d : Option Tmp) (v : Value) (k : VT → α) : VT.putK e d v k = k (e.put d v) := by
  cases d with
  | none => rfl
  | some d => simp [VT.putK, VT.put, VT.setK_eq]

def lst (n : Nat) (e : VT) : List Value := (List.range n).map e.get
@[simp] theorem lst_length (n : Nat) (e : VT) : (lst n e).length = n := by simp [lst]
theorem lst_get (n : Nat) (e : VT) (i : Nat) : (lst n e)[i]? = if i < n then some (e.get i) else none := by
  unfold lst
  by_cases h : i < n
  · simp [h]
  · simp [h]
theorem lst_getD (n : Nat) (e : VT) (i : Nat) : (lst n e).getD i undef = bif Nat.blt i n then e.get i else undef := by
  rw [List.getD_eq_getElem?_getD, lst_get]
  by_cases h : i < n
  · simp [h, blt_true h]
  · simp [h, blt_false h]
theorem lst_put (n : Nat) (e : VT) (d : Option Tmp) (v : Value) : lst n (e.put d v) = tset (lst n e) d v := by
  cases d with
  | none => rfl
  | some d =>
    apply List.ext_getElem?
    intro i
    simp only [tset,lst_get,List.getElem?_set,lst_length]
    by_cases hi : i < n
    · by_cases e' : d = i
      · subst e'; simp [hi, VT.put, VT.get_set_same]
      · simp [hi, e', VT.put, VT.get_set_other _ _ _ _ _ (Ne.symm e')]
    · simp only [hi,if_false]
      split
      · rename_i h; subst h; simp [hi]
      · rfl

/-- The temporaries that a list gives. -/
def envK {α : Type} : List Value → Nat → VT → (VT → α) → α
  | [], _, e, k => k e
  | v :: vs, i, e, k => VT.putK e (some i) v fun e => envK vs (i + 1) e k
def env : List Value → Nat → VT → VT
  | [], _, e => e
  | v :: vs, i, e => env vs (i + 1) (e.put (some i) v)
@[simp] theorem envK_eq {α : Type} : ∀ (l : List Value) (i : Nat) (e : VT) (k : VT → α), envK l i e k = k (env l i e)
  | [], _, _, _ => rfl
  | v :: vs, i, e, k => by simp only [envK,VT.putK_eq,env]; exact envK_eq vs (i + 1) _ k
theorem env_get : ∀ (l : List Value) (i : Nat) (e : VT) (j : Nat), (env l i e).get j = if i ≤ j then (l[j - i]?).getD (e.get j) else e.get j
  | [], i, e, j => by simp [env]
  | v :: vs, i, e, j => by
    rw [env, env_get vs (i + 1)]
    by_cases h : j = i
    · subst h
      have : ¬ (j + 1 ≤ j) := by omega
      simp [this, VT.put, VT.get_set_same]
    · have e1 : (e.put (some i) v).get j = e.get j := VT.get_set_other _ _ _ _ _ h
      rw [e1]
      by_cases h' : i ≤ j
      · have : i + 1 ≤ j := by omega
        have e2 : j - i = (j - (i + 1)) + 1 := by omega
        simp [this, h', e2]
      · have : ¬ (i + 1 ≤ j) := by omega
        simp [this, h']
theorem lst_env (l : List Value) (n : Nat) : lst (l.length + n) (env l 0 .nil) = l ++ List.replicate n undef := by
  apply List.ext_getElem?
  intro j
  rw [lst_get, env_get]
  simp only [Nat.zero_le,if_true,Nat.sub_zero,VT.get]
  by_cases h : j < l.length
  · have : j < l.length + n := by omega
    simp [h, this]
  · by_cases h' : j < l.length + n
    · have : j - l.length < n := by omega
      rw [List.getElem?_append_right (by omega)]
      simp [h', List.getElem?_replicate, this, List.getElem?_eq_none (Nat.le_of_not_lt h)]
    · have : ¬ (j - l.length < n) := by omega
      rw [List.getElem?_append_right (by omega)]
      simp [h', List.getElem?_replicate, this]

structure ES where
  n : Nat
  e : VT
  H : AHeap
  ds : List Nat
def ES.st (s : ES) : St := ⟨lst s.n s.e, s.H, s.ds⟩

def aenv (n : Nat) (e : VT) : Operand → Option Value
  | .tmp i => some (bif Nat.blt i n then e.get i else undef)
  | .const v => bif gr v then some v else none
  | .func f => some (.func (.func f) #[] #[])
  | .global _ => none
theorem aenv_eq (n : Nat) (e : VT) : aenv n e = aval (lst n e) := by
  funext x
  cases x with
  | tmp i => simp only [aenv,aval,lst_getD]
  | _ => rfl

def aresG (T : Tab) (g : Nat → Value) (H : AHeap) : List ResultVar → Option (List Value)
  | [] => some []
  | .tmp i :: rs => match aresG T g H rs with
    | some vs => some (g i :: vs)
    | none => none
  | .cell a ty :: rs => match g a, aresG T g H rs with
    | .pointer (some ad), some vs => match aRead T H ty ad with
      | some v => some (v :: vs)
      | none => none
    | _, _ => none
theorem aresG_eq (H : AHeap) {t : List Value} {g : Nat → Value} (hg : ∀ i, t.getD i undef = g i) : ∀ (rs : List ResultVar), aresultList T t H rs = aresG T g H rs
  | [] => rfl
  | .tmp i :: rs => by simp only [aresultList,aresG,aresG_eq H hg rs,hg]; rfl
  | .cell a ty :: rs => by simp only [aresultList,aresG,aresG_eq H hg rs,hg]; rfl
def ares (T : Tab) (fn : Func) (n : Nat) (e : VT) (H : AHeap) : Option Value :=
  match aresG T (fun i => bif Nat.blt i n then e.get i else undef) H fn.results.toList with
  | some [v] => some v
  | some vs => some (.tuple vs.toArray)
  | none => none
theorem ares_eq (fn : Func) (n : Nat) (e : VT) (H : AHeap) : ares T fn n e H = aresults T fn (lst n e) H := by
  unfold ares aresults
  rw [aresG_eq H (fun i => lst_getD n e i)]
  rfl

/-! ### Calls -/
abbrev Exec := Option Nat → Code → ES → Option (Exit × ES × Nat)
def ExOk (P : Program) (ex : Exec) : Prop := ∀ r c s e s' m, ex r c s = some (e, s', m) → SCode P r c s.st e s'.st m

def quietV (v : Value) (H H' : AHeap) (m : Nat) : Res :=
  bif Nat.ble H.size m && gr v then some (true, v, H, H.size) else some (false, v, H', m)

def aleave (T : Tab) (fn : Func) (H : AHeap) (s' : ES) (m : Nat) : Res :=
  match atake s'.ds s'.H with
  | some H' => match ares T fn s'.n s'.e H' with
    | some v => fV v fun v => fNat (min (minAl m s'.ds) s'.H.size) fun m => quietV v H H' m
    | none => none
  | none => none
def acall0 (T : Tab) (ex : Exec) (f : FuncId) (args : List Value) (H : AHeap) : Res :=
  match T.fn f with
  | none => none
  | some fn => match fn.body with
    | none => none
    | some c => envK args 0 .nil fun e => fNat (args.length + (fn.ntmps - args.length)) fun n => match ex none c ⟨n, e, H, []⟩ with
      | some (.normal, s', m) => aleave T fn H s' m
      | some (.ret, s', m) => aleave T fn H s' m
      | _ => none

theorem aleave_ok (hT : T.Fits P) {f : FuncId} {fn : Func} {c : Code} {args : List Value} {H : AHeap} {e : Exit} {s' : ES} {m : Nat} (hf : HasCode P f fn c) (h : SCode P none c ⟨startT fn args, H, []⟩ e s'.st m) (he : e = .normal ∨ e = .ret)
    {b : Bool} {v : Value} {H' : AHeap} {m' : Nat} (hl : aleave T fn H s' m = some (b, v, H', m')) : SCall P f args H v H' m' ∧ (b = true → H' = H ∧ m' = H.size) := by
  unfold aleave at hl
  split at hl
  · rename_i H₁ hk
    split at hl
    · rename_i u hu
      simp only [fV_eq,fNat_eq] at hl
      rw [ares_eq] at hu
      have hmin := minAl_le m s'.ds
      have hc : SCall P f args H u H₁ (min (minAl m s'.ds) s'.H.size) := SCall.of_code hT hf h he hk hu (by omega) (by show _ ≤ s'.H.size; omega) (fun k hk' => by
        have := hmin.2 k hk'
        show min (minAl m s'.ds) s'.H.size ≤ k
        omega)
      unfold quietV at hl
      cases hq : (Nat.ble H.size (min (minAl m s'.ds) s'.H.size) && gr u)
      · rw [hq] at hl
        cases hl
        exact ⟨hc, fun hb => by cases hb⟩
      · rw [hq] at hl
        cases hl
        simp only [Bool.and_eq_true] at hq
        exact ⟨hc.gc (Nat.le_of_ble_eq_true hq.1) hq.2, fun _ => ⟨rfl, rfl⟩⟩
    · cases hl
  · cases hl

theorem acall0_ok (hT : T.Fits P) {ex : Exec} (hex : ExOk P ex) {f : FuncId} {args : List Value} {H : AHeap} {b : Bool} {v : Value} {H' : AHeap} {m : Nat} (h : acall0 T ex f args H = some (b, v, H', m)) :
    (∃ fn c, HasCode P f fn c) ∧ SCall P f args H v H' m ∧ (b = true → H' = H ∧ m = H.size) := by
  unfold acall0 at h
  split at h
  · cases h
  · rename_i fn hfn
    split at h
    · cases h
    · rename_i c hc
      simp only [envK_eq,fNat_eq] at h
      obtain ⟨g1, g2⟩ := hT.fn _ _ hfn
      have hf : HasCode P f fn c := ⟨g1, hc, g2⟩
      refine ⟨⟨fn, c, hf⟩, ?_⟩
      split at h
      · rename_i s' m' he
        have := hex _ _ _ _ _ _ he
        simp only [ES.st,lst_env] at this
        exact aleave_ok hT hf this (.inl rfl) h
      · rename_i s' m' he
        have := hex _ _ _ _ _ _ he
        simp only [ES.st,lst_env] at this
        exact aleave_ok hT hf this (.inr rfl) h
      · cases h

/-- A call whose outcome is known already, or one that is run. -/
def acall (T : Tab) (ex : Exec) (f : FuncId) (args : List Value) (H : AHeap) : Res :=
  match T.memo f args H with
  | some r => some r
  | none => acall0 T ex f args H
theorem acall_ok (hT : T.Fits P) {ex : Exec} (hex : ExOk P ex) {f : FuncId} {args : List Value} {H : AHeap} {b : Bool} {v : Value} {H' : AHeap} {m : Nat} (h : acall T ex f args H = some (b, v, H', m)) :
    (∃ fn c, HasCode P f fn c) ∧ SCall P f args H v H' m ∧ (b = true → H' = H ∧ m = H.size) := by
  unfold acall at h
  split at h
  · rename_i r hr
    cases h
    obtain ⟨⟨fn, c, h1, h2, h3⟩, h4, h5⟩ := hT.memo _ _ _ _ _ _ _ hr
    exact ⟨⟨fn, c, ⟨h1, h2, h3⟩⟩, h4, h5⟩
  · exact acall0_ok hT hex h

def ayieldEnd (l : Nat) (m₁ : Nat) (jump : Option Code) (s₂ : ES) (m₂ : Nat) : Res :=
  match s₂.H.get l with
  | .loop _ _ t₂ ps₂ as₂ bd₂ d₂ => some (false, .bool jump.isNone, s₂.H.put l (.loop (if jump.isNone then .ready else .done) jump t₂ ps₂ as₂ bd₂ d₂), min (min m₁ l) (min m₂ l))
  | _ => none
def ayield (ex : Exec) (l : Nat) (args : List Value) (H : AHeap) : Res :=
  match H.get l with
  | .loop .ready _ t ps assign body _ =>
    bif Nat.beq args.length ps.size then
      envK (zipSet t (ps.toList.zip args)) 0 .nil fun e => fNat (zipSet t (ps.toList.zip args)).length fun n => match ex (some l) assign ⟨n, e, H, []⟩ with
      | some (.normal, s₁, m₁) => match s₁.H.get l with
        | .loop .ready pend₁ t₁ ps₁ as₁ bd₁ d₁ =>
          match ex (some l) body ⟨s₁.n, s₁.e, s₁.H.put l (.loop .busy pend₁ t₁ ps₁ as₁ bd₁ d₁), s₁.ds⟩ with
          | some (e, s₂, m₂) => match jumpOf e with
            | some jump => ayieldEnd l m₁ jump s₂ m₂
            | none => none
          | none => none
        | _ => none
      | _ => none
    else none
  | _ => none
theorem ayield_ok {ex : Exec} (hex : ExOk P ex) {l : Nat} {args : List Value} {H : AHeap} {b : Bool} {v : Value} {H' : AHeap} {m : Nat} (h : ayield ex l args H = some (b, v, H', m)) :
    SYield P l args H v H' m ∧ b = false := by
  unfold ayield at h
  split at h
  · rename_i pend t ps assign body d hg
    cases hb : Nat.beq args.length ps.size
    · rw [hb] at h; cases h
    · rw [hb] at h
      simp only [cond_true,envK_eq,fNat_eq] at h
      split at h
      · rename_i s₁ m₁ h1
        split at h
        · rename_i pend₁ t₁ ps₁ as₁ bd₁ d₁ hg₁
          split at h
          · rename_i e s₂ m₂ h2
            split at h
            · rename_i jump hj
              unfold ayieldEnd at h
              split at h
              · rename_i st₂ pend₂ t₂ ps₂ as₂ bd₂ d₂ hg₂
                cases h
                have a1 := hex _ _ _ _ _ _ h1
                have a2 := hex _ _ _ _ _ _ h2
                have e0 := lst_env (zipSet t (ps.toList.zip args)) 0
                simp only [Nat.add_zero,List.replicate_zero,List.append_nil] at e0
                simp only [ES.st,e0] at a1
                simp only [ES.st] at a2
                exact ⟨SYield.of_code hg (Nat.eq_of_beq_eq_true hb) a1 hg₁ a2 hg₂ hj, rfl⟩
              · cases h
            · cases h
          · cases h
        · cases h
      · cases h
  · cases h

def aopAny (T : Tab) (P : Program) (ex : Exec) (t : Operand → Option Value) (H : AHeap) (o : Op) : Res :=
  match o with
  | .call c => match c.callee with
    | .value f => match acallee t f c.args with
      | some (.func g, vs, cap) => acall T ex g (vs ++ cap) H
      | some (.yield l, vs, _) => ayield ex l vs H
      | _ => none
    | _ => aop T P t H (.call c)
  | o => aop T P t H o
theorem aopAny_ok (hT : T.Fits P) {ex : Exec} (hex : ExOk P ex) {r : Option Nat} {t : Operand → Option Value} {H : AHeap} {o : Oper} {b : Bool} {v : Value} {H' : AHeap} {m : Nat} (h : aopAny T P ex t H o.op = some (b, v, H', m)) :
    SOp P r o t H v H' m ∧ (b = true → H' = H ∧ m = H.size) := by
  have old : aop T P t H o.op = some (b, v, H', m) → SOp P r o t H v H' m ∧ (b = true → H' = H ∧ m = H.size) := fun h =>
    ⟨aop_sop hT h, fun hb => by subst hb; exact aop_still h⟩
  unfold aopAny at h
  split at h
  · rename_i c ho
    obtain ⟨ce, args, tys⟩ := c
    simp only at h
    split at h
    · rename_i f
      split at h
      · rename_i g vs cap hc
        obtain ⟨⟨fn, c, hf⟩, h2, h3⟩ := acall_ok hT hex h
        exact ⟨SOp.call ho hc hf h2, h3⟩
      · rename_i l vs cap hc
        obtain ⟨h2, h3⟩ := ayield_ok hex h
        exact ⟨SOp.yield ho hc h2, fun hb => by rw [h3] at hb; cases hb⟩
      · cases h
    · rw [← ho] at h; exact old h
  · exact old h

/-! ### Regions in the order of the text -/
def ayieldE (ops : Array Oper) (n : Nat) (e : VT) (j : Nat) : Option Bool :=
  match (ops[j]?).bind (·.dst) with
  | some d => bif Nat.blt d n then (match e.get d with
      | .bool b => some b
      | _ => none) else none
  | none => none
theorem ayieldE_eq (ops : Array Oper) (n : Nat) (e : VT) (j : Nat) : ayieldE ops n e j = ayielded ops (lst n e) j := by
  unfold ayieldE ayielded
  cases hd : (ops[j]?).bind (·.dst) with
  | none => rfl
  | some d =>
    simp only [Option.bind_some,lst_get]
    by_cases h : d < n
    · simp only [h,blt_true h,cond_true,if_true]
      cases e.get d <;> rfl
    · simp [h, blt_false h]
def wantE (ops : Array Oper) (n : Nat) (e : VT) (o : Oper) : Bool := match o.guard with
  | none => true
  | some _ => Region.wanted o (ayieldE ops n e)
theorem wantE_eq (ops : Array Oper) (n : Nat) (e : VT) (o : Oper) : wantE ops n e o = awanted ops (lst n e) o := by
  unfold wantE awanted
  have : ayieldE ops n e = ayielded ops (lst n e) := funext fun j => ayieldE_eq ops n e j
  rw [this]
  cases hg : o.guard with
  | none => simp [Region.wanted, hg]
  | some _ => rfl

def aops (T : Tab) (P : Program) (ex : Exec) (ops : Array Oper) (n : Nat) (ds : List Nat) : List Oper → VT → AHeap → Option (VT × AHeap × Nat)
  | [], e, H => some (e, H, H.size)
  | o :: l, e, H =>
    bif wantE ops n e o then
      match aopAny T P ex (aenv n e) H o.op with
      | some (_, v, H₁, m₁) => fH H₁ fun H₁ => fNat m₁ fun m₁ => VT.putK e o.dst v fun e => match aops T P ex ops n ds l e H₁ with
        | some (e', H', m₂) => fNat (min m₁ m₂) fun m => some (e', H', m)
        | none => none
      | none => none
    else VT.putK e o.dst undef fun e => aops T P ex ops n ds l e H
theorem aops_ok (hT : T.Fits P) {ex : Exec} (hex : ExOk P ex) {r : Option Nat} {ops : Array Oper} {n : Nat} {ds : List Nat} : ∀ (l : List Oper) (k : Nat) (e : VT) (H : AHeap) (e' : VT) (H' : AHeap) (m : Nat),
    l = ops.toList.drop k → aops T P ex ops n ds l e H = some (e', H', m) → SOps P r ops (List.range' k l.length) ⟨lst n e, H, ds⟩ ⟨lst n e', H', ds⟩ m
  | [], k, e, H, e', H', m, _, h => by
    simp only [aops,Option.some.injEq,Prod.mk.injEq] at h
    obtain ⟨rfl, rfl, rfl⟩ := h
    exact SOps.nil
  | o :: l, k, e, H, e', H', m, hl, h => by
    have hk : ops[k]? = some o := by
      rw [← Array.getElem?_toList]
      have := congrArg (·[0]?) hl
      simpa using this.symm
    have hl' : l = ops.toList.drop (k + 1) := by
      have := congrArg List.tail hl
      simpa [List.tail_drop] using this
    simp only [aops] at h
    simp only [List.length_cons,List.range'_succ]
    cases hw : wantE ops n e o
    · rw [hw] at h
      simp only [cond_false,VT.putK_eq] at h
      rw [wantE_eq] at hw
      have := aops_ok hT hex (r := r) l (k + 1) _ H e' H' m hl' h
      rw [lst_put] at this
      exact SOps.skip hk hw this
    · rw [hw] at h
      simp only [cond_true,VT.putK_eq,fH_eq,fNat_eq] at h
      rw [wantE_eq] at hw
      split at h
      · rename_i b v H₁ m₁ ho
        split at h
        · rename_i e₂ H₂ m₂ h2
          cases h
          have := aops_ok hT hex (r := r) l (k + 1) _ H₁ e' H' m₂ hl' h2
          rw [lst_put] at this
          rw [aenv_eq] at ho
          exact SOps.op hk hw (aopAny_ok hT hex ho).1 this
        · cases h
      · cases h

end Go.Am
