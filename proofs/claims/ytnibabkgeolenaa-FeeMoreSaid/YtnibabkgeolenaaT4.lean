/- Maps, lengths, copies; one operation by its kind. -/
import Derived.Test.YtnibabkgeolenaaT3
import Derived.OrdersIn
set_option linter.unusedSimpArgs false
set_option linter.unusedVariables false
namespace Go.Am
variable {T : Tab} {P : Program} {σ : Place} {H : AHeap} {w : World} {t : Operand → Option Value} {ρ : Operand → Value}

/-! ### Lengths, the least and the greatest -/
def aLen (T : Tab) (t : Operand → Option Value) (H : AHeap) (tys : Array TypeId) (args : Array Operand) : Option Value :=
  match tys.toList, args.toList with
  | ty :: _, [x] => match t x, T.und ty with
    | some (.slice _ n _), some (.slice _) => some (.int .i64 n)
    | some (.chan _), some (.slice _) => some (.int .i64 0)
    | some (.string s), some .string => some (.int .i64 s.size)
    | some (.map none), some (.map _ _) => some (.int .i64 0)
    | some (.map (some k)), some (.map _ _) => match H.get k with
      | .map es _ => some (.int .i64 es.length)
      | _ => none
    | _, _ => none
  | _, _ => none
theorem aLen_ok (hT : T.Fits P) {o : Oper} {tys : Array TypeId} {args : Array Operand} (ho : o.op = .call { callee := .builtin .len, args, argTypes := tys }) (r : Rel σ H w) (hρ : Evals σ t ρ)
    {v : Value} (h : aLen T t H tys args = some v) : Runs P (execOp ρ o) σ H w v H H.size := by
  unfold aLen at h
  split at h
  · rename_i ty tl x htys hargs
    obtain rfl : args = #[x] := by apply Array.ext'; simpa using hargs
    have hty0 : tys[0]? = some ty := by
      rw [← Array.getElem?_toList, htys]; rfl
    have hexec : execOp ρ o = (do pure (.value (← Builtin.len_ tys o.type #[ρ x]))) := by rw [exec_builtin ho]; simp only [builtin,List.map_toArray,List.map_cons,List.map_nil]
    split at h
    · rename_i b n c e hx hu
      cases h
      have h1 := (hρ _ _ hx).1
      simp only [ren] at h1
      refine Runs.same r ?_ (by simp [okv])
      rw [hexec, h1]; simp [Builtin.len_, hty0, run_und hT hu, goInt, ren]
    · rename_i b e hx hu
      cases h
      have h1 := (hρ _ _ hx).1
      simp only [ren] at h1
      refine Runs.same r ?_ (by simp [okv])
      rw [hexec, h1]; simp [Builtin.len_, hty0, run_und hT hu, goInt, ren]
    · rename_i s hx hu
      cases h
      have h1 := (hρ _ _ hx).1
      simp only [ren] at h1
      refine Runs.same r ?_ (by simp [okv])
      rw [hexec, h1]; simp [Builtin.len_, hty0, run_und hT hu, goInt, ren]
    · rename_i k e hx hu
      cases h
      have h1 := (hρ _ _ hx).1
      simp only [ren,Option.map_none] at h1
      refine Runs.same r ?_ (by simp [okv])
      rw [hexec, h1]; simp [Builtin.len_, hty0, run_und hT hu, goInt, ren]
    · rename_i k kt e hx hu
      split at h
      · rename_i es clock hg
        cases h
        obtain ⟨h1, h2⟩ := hρ _ _ hx
        rw [okv] at h2
        simp only [ren,Option.map_some] at h1
        obtain ⟨p, hp⟩ := Option.isSome_iff_exists.1 h2
        obtain ⟨b, s⟩ := p
        have hh := r.holds k b s hp
        rw [hg] at hh
        have hbl : σ.blk k = b := by simp [Place.blk, hp]
        refine Runs.same r ?_ (by simp [okv])
        rw [hexec, h1, hbl]
        simp [Builtin.len_, hty0, run_und hT hu, goInt, ren, getObj, Sem.run, hh.2.2]
      · cases h
    · cases h
  · cases h

def aMinMax (P : Program) (t : Operand → Option Value) (H : AHeap) (mx : Bool) (args : Array Operand) : Option (Value × AHeap × Nat) :=
  bif allGr t args.toList then aPureOf P H (bif mx then Builtin.max_ #[] 0 ((args.toList.map (aρ t)).toArray) else Builtin.min_ #[] 0 ((args.toList.map (aρ t)).toArray)) else none
theorem aMinMax_ok {o : Oper} {tys : Array TypeId} {args : Array Operand} {mx : Bool} (ho : o.op = .call { callee := .builtin (bif mx then .max else .min), args, argTypes := tys }) (r : Rel σ H w) (hρ : Evals σ t ρ)
    {v : Value} {H' : AHeap} {m : Nat} (h : aMinMax P t H mx args = some (v, H', m)) : Runs P (execOp ρ o) σ H w v H' m := by
  unfold aMinMax at h
  cases hb : allGr t args.toList
  · rw [hb] at h; cases h
  · rw [hb] at h
    have e : args.map ρ = (args.toList.map (aρ t)).toArray := by
      apply Array.ext'
      simp only [Array.toList_map]
      exact List.map_congr_left fun x hx => ground_eval hρ hb x hx
    cases mx
    · simp only [cond_false] at h ho
      exact aPureOf_ok (by rw [exec_builtin ho, e]; rfl) r h
    · simp only [cond_true] at h ho
      exact aPureOf_ok (by rw [exec_builtin ho, e]; rfl) r h

/-! ### Copies and cleared cells -/
def aCopy (T : Tab) (t : Operand → Option Value) (H : AHeap) (tys : Array TypeId) (args : Array Operand) : Option (Value × AHeap × Nat) :=
  match tys.toList, args.toList with
  | ty :: _, [d, s] => match T.und ty, t d, t s with
    | some (.slice e), some (.slice (some da) dl _), some (.slice (some sa) sl _) => match T.inf e with
      | some i => match srcCells H sa (Nat.min sl dl * i.size) with
        | some l => match aWrite H da.block da.off l with
          | some (H', m) => some (.int .i64 (Int.ofNat (Nat.min sl dl)), H', m)
          | none => none
        | none => none
      | none => none
    | _, _, _ => none
  | _, _ => none
theorem aCopy_ok (hT : T.Fits P) {o : Oper} {tys : Array TypeId} {args : Array Operand} (ho : o.op = .call { callee := .builtin .copy, args, argTypes := tys }) (r : Rel σ H w) (hρ : Evals σ t ρ)
    {v : Value} {H' : AHeap} {m : Nat} (h : aCopy T t H tys args = some (v, H', m)) : Runs P (execOp ρ o) σ H w v H' m := by
  unfold aCopy at h
  split at h
  · rename_i ty tl d s htys hargs
    obtain rfl : args = #[d, s] := by apply Array.ext'; simpa using hargs
    have hty0 : tys[0]? = some ty := by
      rw [← Array.getElem?_toList, htys]; rfl
    have hexec : execOp ρ o = (do pure (.value (← Builtin.copy_ tys o.type #[ρ d, ρ s]))) := by rw [exec_builtin ho]; simp only [builtin,List.map_toArray,List.map_cons,List.map_nil]
    split at h
    · rename_i e da dl dc sa sl sc hu hd hs
      split at h
      · rename_i i hi
        split at h
        · rename_i l hl
          split at h
          · rename_i H1 m1 hw
            cases h
            obtain ⟨d1, d2⟩ := hρ _ _ hd
            obtain ⟨s1, s2⟩ := hρ _ _ hs
            rw [okv] at d2 s2
            simp only [ren,Option.map_some] at d1 s1
            obtain ⟨n1, n2, n3⟩ := srcCells_ok r ⟨s2.1, s2.2.1⟩ hl
            obtain ⟨p, hp⟩ := Option.isSome_iff_exists.1 d2.2.1
            obtain ⟨b, sh⟩ := p
            obtain ⟨w', h5, h6, h7⟩ := aWrite_ok (P := P) r hp n2 hw
            have hadd : σ.addr da = ⟨b, sh + da.off, none⟩ := by simp [Place.addr, hp]
            have hf := run_firstCells_some (P := P) w i.size (Nat.min sl dl) (σ.addr sa) sl (σ.cap (some sa) sc) (l.map (ren σ)) (by rw [List.length_map, n1]) n3
            refine ⟨σ, w', _, ?_, .inl rfl, by simp [okv], h6, h7⟩
            rw [hexec, d1, s1]
            have hz := run_size (P := P) hT hi w
            have hu' := run_und (P := P) hT hu w
            have hrun : (Builtin.copy_ tys o.type #[.slice (some (σ.addr da)) dl (σ.cap (some da) dc), .slice (some (σ.addr sa)) sl (σ.cap (some sa) sc)]).run P w = .ok (goInt (Int.ofNat (Nat.min sl dl))) w' := by
              rw [hadd] at *
              unfold Builtin.copy_
              rw [hty0]
              simp only [List.getElem?_toArray,List.getElem?_cons_zero,List.getElem?_cons_succ]
              rw [Sem.run_bind, hu', Result.andThen_ok]
              simp only
              rw [Sem.run_bind]
              simp only [Builtin.lenOf,Sem.run_pure,Result.andThen_ok]
              rw [Sem.run_bind, hz, Result.andThen_ok, Sem.run_bind, hf, Result.andThen_ok]
              simp only
              rw [Sem.run_bind, h5]
              rfl
            simp only [Sem.run_bind,hrun,Result.andThen_ok,Sem.run_pure,ren,goInt]
          · cases h
        · cases h
      · cases h
    · cases h
  · cases h

def aClear (T : Tab) (t : Operand → Option Value) (H : AHeap) (tys : Array TypeId) (args : Array Operand) : Option (Value × AHeap × Nat) :=
  match tys.toList, args.toList with
  | ty :: _, [x] => match T.und ty, t x with
    | some (.slice e), some (.slice a n _) => bif Nat.beq n 0 then some (.tuple #[], H, H.size) else
      match a, T.inf e with
      | some a, some i => match i.zero with
        | some z => bif allGrV (Builtin.zeroCells z.cells n).toList then
            match aWrite H a.block a.off (Builtin.zeroCells z.cells n).toList with
            | some (H', m) => some (.tuple #[], H', m)
            | none => none
          else none
        | none => none
      | _, _ => none
    | _, _ => none
  | _, _ => none
theorem aClear_ok (hT : T.Fits P) {o : Oper} {tys : Array TypeId} {args : Array Operand} (ho : o.op = .call { callee := .builtin .clear, args, argTypes := tys }) (r : Rel σ H w) (hρ : Evals σ t ρ)
    {v : Value} {H' : AHeap} {m : Nat} (h : aClear T t H tys args = some (v, H', m)) : Runs P (execOp ρ o) σ H w v H' m := by
  unfold aClear at h
  split at h
  · rename_i ty tl x htys hargs
    obtain rfl : args = #[x] := by apply Array.ext'; simpa using hargs
    have hty0 : tys[0]? = some ty := by
      rw [← Array.getElem?_toList, htys]; rfl
    have hexec : execOp ρ o = (do pure (.value (← Builtin.clear_ tys o.type #[ρ x]))) := by rw [exec_builtin ho]; simp only [builtin,List.map_toArray,List.map_cons,List.map_nil]
    split at h
    · rename_i e a n c hu hx
      obtain ⟨x1, x2⟩ := hρ _ _ hx
      have hP := run_und (P := P) hT hu w
      have hok : ∀ σ, okv σ (.tuple #[]) ∧ ren σ (.tuple #[]) = .tuple #[] := fun σ => ⟨by rw [okv]; intro v hv; simp at hv, by simp [ren]⟩
      cases hn : Nat.beq n 0
      · rw [hn] at h
        simp only [cond_false] at h
        split at h
        · rename_i a i hi
          split at h
          · rename_i z hz
            cases hg : allGrV (Builtin.zeroCells z.cells n).toList
            · rw [hg] at h; cases h
            · rw [hg] at h
              simp only [cond_true] at h
              split at h
              · rename_i H1 m1 hw
                cases h
                rw [okv] at x2
                obtain ⟨p, hp⟩ := Option.isSome_iff_exists.1 x2.2.1
                obtain ⟨b, sh⟩ := p
                obtain ⟨w', h5, h6, h7⟩ := aWrite_ok (P := P) r hp (fun v hv => (gr_ok σ (allGrV_mem hg v hv)).1) hw
                rw [allGrV_ren hg] at h5
                refine ⟨σ, w', _, ?_, .inl rfl, (hok σ).1, h6, h7⟩
                rw [(hok σ).2, hexec, x1]
                have hadd : σ.addr a = ⟨b, sh + a.off, none⟩ := by simp [Place.addr, hp]
                have hz' := run_zero (P := P) hT hi hz w
                simp only [ren,Option.map_some,hadd]
                obtain ⟨n, rfl⟩ : ∃ k, n = k + 1 := ⟨n - 1, by cases n with | zero => cases hn | succ k => rfl⟩
                simp [Builtin.clear_, hty0, Sem.run_bind, hP, hz', h5]
              · cases h
          · cases h
        · cases h
      · rw [hn] at h
        have := Nat.eq_of_beq_eq_true hn
        subst this
        cases h
        refine Runs.same r ?_ (hok σ).1
        rw [(hok σ).2, hexec, x1]
        cases a <;> simp [Builtin.clear_, hty0, Sem.run_bind, hP, ren]
    · cases h
  · cases h

end Go.Am
/- New blocks, at a number of one's own choice. -/
namespace Go.Am
variable {T : Tab} {P : Program} {σ : Place} {w : World} {t : Operand → Option Value} {ρ : Operand → Value}

inductive PK where
  | ptr
  | sl (l c : Nat)
  | mp
def mkV (p : PK) (k : Nat) : Value := match p with
  | .ptr => .pointer (some ⟨k, 0, none⟩)
  | .sl l c => .slice (some ⟨k, 0, none⟩) l c
  | .mp => .map (some k)
def okP : PK → Prop
  | .sl _ c => c < OPEN
  | _ => True
theorem mkV_ok (p : PK) (hp : okP p) (k b rm : Nat) : okv (σ.add k b rm) (mkV p k) ∧ ren (σ.add k b rm) (mkV p k) = mkV p b := by
  cases p with
  | ptr => exact ⟨by simp [mkV, okv, Place.add_same], by simp [mkV, ren, Place.addr, Place.add_same]⟩
  | sl l c =>
    have hc : c < OPEN := hp
    refine ⟨?_, ?_⟩
    · rw [mkV, okv]; exact ⟨rfl, by simp [Place.add_same], fun h => by omega⟩
    · simp [mkV, ren, Place.addr, Place.add_same, Place.cap, hc]
  | mp => exact ⟨by simp [mkV, okv, Place.add_same], by simp [mkV, ren, Place.blk, Place.add_same]⟩

theorem agree_add_of_none {k : Nat} (h : σ.at_ k = none) (b rm : Nat) : Agree σ (σ.add k b rm) := fun j p hp => by
  have hne : j ≠ k := fun e => by rw [e, h] at hp; cases hp
  exact ⟨by rw [Place.add_other σ hne]; exact hp, Place.room_other σ hne⟩

/-- What a run makes: one block, and a value that leads to it. -/
def Fresh (P : Program) (s : Sem Next) (σ : Place) (w : World) (p : PK) (blk : ABlk) : Prop :=
  okP p ∧ ∃ obj rm, s.run P w = .ok (.value (mkV p w.heap.size)) (w.alloc obj) ∧ (∃ al, blk.al = some al) ∧ ∀ k, σ.at_ k = none → Holds (σ.add k w.heap.size rm) (w.alloc obj) rm w.heap.size 0 blk

theorem Fresh.runs {s : Sem Next} {p : PK} {blk : ABlk} {H : AHeap} (h : Fresh P s σ w p blk) (r : Rel σ H w) : Runs P s σ H w (mkV p H.size) (H.alloc blk) H.size := by
  obtain ⟨hp, obj, rm, h1, h2, h3⟩ := h
  have hn : σ.at_ H.size = none := by
    cases hh : σ.at_ H.size with
    | none => rfl
    | some q => have := (r.lt H.size q.1 q.2 hh).1; omega
  obtain ⟨h4, h5⟩ := mkV_ok (σ := σ) p hp H.size w.heap.size rm
  exact ⟨_, _, _, h1, .inl (by rw [h5]), h4, r.alloc obj blk rm (h3 _ hn) (.inr h2), Ext.alloc r obj blk rm⟩

theorem row_fresh (c : List Value) (hc : ∀ v ∈ c, okv σ v) (e : TypeId) {k : Nat} (hk : σ.at_ k = none) :
    Holds (σ.add k w.heap.size c.length) (w.alloc (.cells (c.map (ren σ)).toArray e)) c.length w.heap.size 0 (.rw c e false []) := by
  have ag := agree_add_of_none hk w.heap.size c.length
  refine ⟨rfl, fun v hv => ag.okv (hc v hv), [], ?_, by simp, fun _ => rfl⟩
  rw [ag.map hc, List.append_nil]
  exact World.alloc_heap_new w _

def newAlloc (T : Tab) (e : TypeId) : Option (PK × ABlk) :=
  match T.inf e with
  | some i => match i.zero with
    | some z => bif gr z then some (.ptr, .rw z.cells.toList e false []) else none
    | none => none
  | none => none
theorem newAlloc_ok (hT : T.Fits P) {o : Oper} {e : TypeId} (ho : o.op = .alloc e) {p : PK} {blk : ABlk} (h : newAlloc T e = some (p, blk)) : Fresh P (execOp ρ o) σ w p blk := by
  unfold newAlloc at h
  split at h
  · rename_i i hi
    split at h
    · rename_i z hz
      cases hg : gr z
      · simp [hg] at h
      · simp only [hg,cond_true] at h
        cases h
        obtain ⟨h1, h2⟩ := gr_ok σ hg
        refine ⟨trivial, _, _, ?_, ⟨_, rfl⟩, fun k hk => row_fresh (σ := σ) z.cells.toList (fun v hv => okv_cells h1 v (by simpa using hv)) e hk⟩
        have hc : z.cells = z.cells.map (ren σ) := by rw [← cells_ren, h2]
        simp only [execOp,ho,Instr.alloc,Sem.run_bind,run_zero hT hi hz,Result.andThen_ok,newVar,newRow,run_newObj_alloc,Sem.run_pure,mkV]
        rw [List.map_toArray.symm, Array.toArray_toList, ← hc]
    · cases h
  · cases h

def newBox (t : Operand → Option Value) (e : TypeId) (x : Operand) : Option (PK × ABlk) :=
  match t x with
  | some v => some (.ptr, .rw v.cells.toList e false [])
  | none => none
theorem newBox_ok {o : Oper} {e : TypeId} {x : Operand} (ho : o.op = .box e x) (hρ : Evals σ t ρ) {p : PK} {blk : ABlk} (h : newBox t e x = some (p, blk)) : Fresh P (execOp ρ o) σ w p blk := by
  unfold newBox at h
  split at h
  · rename_i u hx
    cases h
    obtain ⟨h1, h2⟩ := hρ _ _ hx
    refine ⟨trivial, _, _, ?_, ⟨_, rfl⟩, fun k hk => row_fresh (σ := σ) u.cells.toList (fun v hv => okv_cells h2 v (by simpa using hv)) e hk⟩
    simp only [execOp,ho,Instr.box,newVar,newRow,h1,cells_ren,Sem.run_bind,run_newObj_alloc,Result.andThen_ok,Sem.run_pure,mkV]
    rw [← List.map_toArray, Array.toArray_toList]
  · cases h

def newRow (T : Tab) (t : Operand → Option Value) (ty : TypeId) (len : Nat) (parts : Array (Nat × Operand)) : Option (PK × ABlk) :=
  match T.und ty, aparts t parts.toList with
  | some (.slice e), some ps => match T.inf e with
    | some i =>
      bif Nat.beq (len * i.size) 0 && Nat.blt len OPEN then
        match afill (fun k => some (k * i.size, i.size)) [] ps with
        | some cs => some (.sl len len, .rw cs e false [])
        | none => none
      else
      match i.zero with
      | some z =>
        bif Nat.ble (len * i.size) 16777216 && Nat.blt len OPEN && Nat.blt 0 (len * i.size) && allGrV (madeCells z.cells (len * i.size)).toList then
          match afill (fun k => some (k * i.size, i.size)) (madeCells z.cells (len * i.size)).toList ps with
          | some cs => some (.sl len len, .rw cs e false [])
          | none => none
        else none
      | none => none
    | none => none
  | _, _ => none
theorem newRow_ok (hT : T.Fits P) {o : Oper} {ty : TypeId} {len : Nat} {parts : Array (Nat × Operand)} (ho : o.op = .buildSlice ty len parts) (hρ : Evals σ t ρ) {p : PK} {blk : ABlk}
    (h : newRow T t ty len parts = some (p, blk)) : Fresh P (execOp ρ o) σ w p blk := by
  unfold newRow at h
  split at h
  · rename_i e ps hty hps
    split at h
    · rename_i i hi
      cases hz0 : (Nat.beq (len * i.size) 0 && Nat.blt len OPEN)
      rotate_left
      · rw [hz0] at h
        simp only [cond_true] at h
        simp only [Bool.and_eq_true] at hz0
        have h0 : len * i.size = 0 := Nat.eq_of_beq_eq_true hz0.1
        have hlt : len < OPEN := lt_of_blt hz0.2
        split at h
        · rename_i cs hcs
          cases h
          obtain ⟨h1, h2⟩ := aparts_ok hρ hps
          have e1 : (parts.map fun (i, x) => (i, ρ x)).toList = ps.map (fun p => (p.1, ren σ p.2)) := by rw [← h1]; simp
          obtain ⟨h3, h4⟩ := afill_ok (σ := σ) _ _ _ _ hcs
          have hok := h4 (fun v hv => by simp at hv) h2
          refine ⟨hlt, _, _, ?_, ⟨_, rfl⟩, fun k hk => row_fresh (σ := σ) cs hok e hk⟩
          have c1 : ¬ (len * i.size > 2 ^ 24) := by omega
          simp only [List.map_nil] at h3
          simp only [execOp,ho,Instr.buildSlice,Sem.run_bind,run_und hT hty,Result.andThen_ok,run_size hT hi,c1,if_false,h0,if_true,Sem.run_pure,e1]
          have e2 : ∀ f : Nat → Value, (Array.range 0).map f = #[] := fun f => by simp
          have c0 : ¬ (0 > 2 ^ 24) := by omega
          simp only [e2,c0,if_false]
          simp only [h3,Sem.run_bind,Go.newRow,run_newObj_alloc,Result.andThen_ok,Sem.run_pure,mkV]
        · cases h
      rw [hz0] at h
      simp only [cond_false] at h
      split at h
      · rename_i z hz
        cases hb : (Nat.ble (len * i.size) 16777216 && Nat.blt len OPEN && Nat.blt 0 (len * i.size) && allGrV (madeCells z.cells (len * i.size)).toList)
        · rw [hb] at h; cases h
        · rw [hb] at h
          simp only [cond_true] at h
          simp only [Bool.and_eq_true] at hb
          obtain ⟨⟨⟨b1, b2⟩, b4⟩, b3⟩ := hb
          have hle : len * i.size ≤ 16777216 := Nat.le_of_ble_eq_true b1
          have hlt : len < OPEN := lt_of_blt b2
          have hpos : 0 < len * i.size := lt_of_blt b4
          split at h
          · rename_i cs hcs
            cases h
            obtain ⟨h1, h2⟩ := aparts_ok hρ hps
            have e1 : (parts.map fun (i, x) => (i, ρ x)).toList = ps.map (fun p => (p.1, ren σ p.2)) := by rw [← h1]; simp
            obtain ⟨h3, h4⟩ := afill_ok (σ := σ) _ _ _ _ hcs
            rw [allGrV_ren b3, Array.toArray_toList] at h3
            have hok := h4 (fun v hv => (gr_ok σ (allGrV_mem b3 v hv)).1) h2
            refine ⟨hlt, _, _, ?_, ⟨_, rfl⟩, fun k hk => row_fresh (σ := σ) cs hok e hk⟩
            have c1 : ¬ (len * i.size > 2 ^ 24) := by omega
            have c2 : ¬ (len * i.size = 0) := by omega
            simp only [execOp,ho,Instr.buildSlice,Sem.run_bind,run_und hT hty,Result.andThen_ok,run_size hT hi,c1,c2,if_false,run_zero hT hi hz,Sem.run_pure,e1]
            simp only [madeCells] at h3
            simp only [h3,Sem.run_bind,Go.newRow,run_newObj_alloc,Result.andThen_ok,Sem.run_pure,mkV]
          · cases h
      · cases h
    · cases h
  · cases h

def newMade (T : Tab) (t : Operand → Option Value) (ty : TypeId) (x y : Operand) : Option (PK × ABlk) :=
  match T.und ty, t x, t y with
  | some (.slice e), some (.int _ l), some (.int _ c) => match T.inf e with
    | some i => match i.zero with
      | some z =>
        bif decide (0 ≤ l) && decide (l ≤ c) && decide ((i.bytes : Int) * c ≤ 281474976710656) && decide (c ≤ 9223372036854775807) && allGrV (madeCells z.cells (c.toNat * i.size)).toList then
          some (.sl l.toNat c.toNat, .rw (madeCells z.cells (c.toNat * i.size)).toList e false [])
        else none
      | none => none
    | none => none
  | _, _, _ => none
theorem newMade_ok (hT : T.Fits P) {o : Oper} {ty : TypeId} {x y : Operand} (ho : o.op = .makeSlice ty x y) (hρ : Evals σ t ρ) {p : PK} {blk : ABlk}
    (h : newMade T t ty x y = some (p, blk)) : Fresh P (execOp ρ o) σ w p blk := by
  unfold newMade at h
  split at h
  · rename_i e kl l kc c hty hx hy
    split at h
    · rename_i i hi
      split at h
      · rename_i z hz
        cases hb : (decide (0 ≤ l) && decide (l ≤ c) && decide ((i.bytes : Int) * c ≤ 281474976710656) && decide (c ≤ 9223372036854775807) && allGrV (madeCells z.cells (c.toNat * i.size)).toList)
        · rw [hb] at h; cases h
        · rw [hb] at h
          simp only [cond_true] at h
          cases h
          simp only [Bool.and_eq_true,decide_eq_true_eq] at hb
          obtain ⟨⟨⟨⟨b1, b2⟩, b3⟩, b4⟩, b5⟩ := hb
          obtain ⟨h1, _⟩ := hρ _ _ hx
          obtain ⟨h2, _⟩ := hρ _ _ hy
          simp only [ren] at h1 h2
          have hrun := run_make (P := P) w ty e i z (hT.und _ _ hty) (hT.inf _ _ hi) hz kl kc l c b1 b2 b3 b4
          refine ⟨by show c.toNat < OPEN; unfold OPEN; omega, _, _, ?_, ⟨_, rfl⟩, fun k hk => row_fresh (σ := σ) _ (fun v hv => (gr_ok σ (allGrV_mem b5 v hv)).1) e hk⟩
          rw [allGrV_ren b5, Array.toArray_toList]
          simp [execOp, ho, h1, h2, hrun, mkV]
      · cases h
    · cases h
  · cases h

def newMap : Option Operand → Option (PK × ABlk)
  | none => some (.mp, .map [] 0)
  | some _ => none
theorem newMap_ok {o : Oper} {ty : TypeId} {x : Option Operand} (ho : o.op = .makeMap ty x) {p : PK} {blk : ABlk} (h : newMap x = some (p, blk)) : Fresh P (execOp ρ o) σ w p blk := by
  cases x with
  | some x => cases h
  | none =>
    cases h
    refine ⟨trivial, .map #[] 0, 0, ?_, ⟨_, rfl⟩, fun k hk => ⟨rfl, by simp, by simpa using World.alloc_heap_new w _⟩⟩
    simp [execOp, ho, Instr.makeMap, mkV]

def anew (T : Tab) (t : Operand → Option Value) : Op → Option (PK × ABlk)
  | .alloc e => newAlloc T e
  | .box e x => newBox t e x
  | .buildSlice ty n ps => newRow T t ty n ps
  | .makeSlice ty x y => newMade T t ty x y
  | .makeMap _ x => newMap x
  | _ => none
theorem anew_ok (hT : T.Fits P) {o : Oper} (hρ : Evals σ t ρ) {p : PK} {blk : ABlk} (h : anew T t o.op = some (p, blk)) : Fresh P (execOp ρ o) σ w p blk := by
  unfold anew at h
  split at h <;> rename_i ho
  · exact newAlloc_ok hT ho h
  · exact newBox_ok ho hρ h
  · exact newRow_ok hT ho hρ h
  · exact newMade_ok hT ho hρ h
  · exact newMap_ok ho h
  · cases h

/-! ### In a region that draws: the block stands in the little heap already, and gets its place when the operation comes -/
structure WFrame (w w' : World) : Prop where
  size : w.heap.size ≤ w'.heap.size
  same : ∀ b, b < w.heap.size → w'.heap[b]? = w.heap[b]?
  os : w'.os = w.os
  tape : w'.tape = w.tape
  output : w'.output = w.output

def SNew (P : Program) (r : Option Nat) (o : Oper) (t : Operand → Option Value) (H : AHeap) (k : Nat) (v : Value) : Prop :=
  ∀ (F : Fence) (n : Nat) (σ : Place) (w : World) (a : Act) (K : Act → World → Prop) (Q : Exit → Act → World → Prop), Free F → Rel σ H w → Evals σ t a.eval → σ.at_ k = none →
    (∀ w' b rm, w.heap.size ≤ b → okv (σ.add k b rm) v → Rel (σ.add k b rm) H w' → WFrame w w' → K (a.put o.dst (ren (σ.add k b rm) v)) w') → o.wpIn F n P a w K Q

theorem Rel.reserve {H : AHeap} (h : Rel σ H w) (o : Obj) {k rm : Nat} (hn : σ.at_ k = none) (hk : k < H.size) (hb : Holds (σ.add k w.heap.size rm) (w.alloc o) rm w.heap.size 0 (H.get k)) :
    Rel (σ.add k w.heap.size rm) H (w.alloc o) where
  lt j b s hp := by
    by_cases e : j = k
    · subst e; rw [Place.add_same] at hp; cases hp; simp [hk]
    · rw [Place.add_other σ e] at hp
      have := h.lt j b s hp
      simp; omega
  holds j b s hp := by
    by_cases e : j = k
    · subst e; rw [Place.add_same] at hp; cases hp
      rw [Place.room_same]; exact hb
    · rw [Place.add_other σ e] at hp
      rw [Place.room_other σ e]
      exact (h.holds j b s hp).agree (agree_add_of_none hn _ _) (heap_alloc_lt w o (h.lt j b s hp).2)
  excl j j' b s s' hj hj' hne al hal := by
    by_cases e : j = k
    · subst e; rw [Place.add_same] at hj; cases hj
      rw [Place.add_other σ (Ne.symm hne)] at hj'
      have := (h.lt _ _ _ hj').2; omega
    · rw [Place.add_other σ e] at hj
      by_cases e' : j' = k
      · subst e'; rw [Place.add_same] at hj'; cases hj'
        have := (h.lt _ _ _ hj).2; omega
      · rw [Place.add_other σ e'] at hj'
        exact h.excl j j' b s s' hj hj' hne al hal

theorem Oper.not_defer_of_new {o : Oper} {p : PK} {blk : ABlk} (h : anew T t o.op = some (p, blk)) : ∀ c, o.op ≠ .defer c := by
  intro c e
  rw [e] at h; cases h

theorem SNew.of_new (hT : T.Fits P) {r : Option Nat} {o : Oper} {H : AHeap} {k : Nat} {p : PK} {blk : ABlk} (h : anew T t o.op = some (p, blk)) (hk : k < H.size) (hg : H.get k = blk) : SNew P r o t H k (mkV p k) := by
  intro F n σ w a K Q hF hR hE hn hK
  refine ⟨fun f _ => hF.1 f, ?_⟩
  rw [Oper.semAt_eq _ _ _ (Oper.not_defer_of_new h)]
  obtain ⟨hp, obj, rm, h1, h2, h3⟩ := anew_ok (P := P) (σ := σ) (w := w) hT hE h
  rw [h1]
  obtain ⟨h4, h5⟩ := mkV_ok (σ := σ) p hp k w.heap.size rm
  have := hK (w.alloc obj) w.heap.size rm (Nat.le_refl _) h4 (hR.reserve obj hn hk (by rw [hg]; exact h3 k hn)) ⟨by simp, fun b hb => heap_alloc_lt w obj hb, rfl, rfl, rfl⟩
  rw [h5] at this
  exact this

theorem Ext.reserve {σ₀ : Place} {H₀ H : AHeap} {w₀ w' : World} {m k b rm : Nat} (x : Ext σ₀ H₀ w₀ σ H w m) (hk : H₀.size ≤ k) (hb : w.heap.size ≤ b) (f : WFrame w w') : Ext σ₀ H₀ w₀ (σ.add k b rm) H w' m where
  agree j hj := by
    have hne : j ≠ k := by omega
    rw [Place.add_other σ hne, Place.room_other σ hne]; exact x.agree j hj
  hsize := x.hsize
  wsize := Nat.le_trans x.wsize f.size
  os := f.os.trans x.os
  tape := f.tape.trans x.tape
  output := f.output.trans x.output
  keep := x.keep
  frame b' hb' hn := (f.same b' (Nat.lt_of_lt_of_le hb' x.wsize)).trans (x.frame b' hb' hn)
  fresh j b' s hj hp := by
    by_cases e : j = k
    · subst e; rw [Place.add_same] at hp; cases hp; exact .inl (Nat.le_trans x.wsize hb)
    · rw [Place.add_other σ e] at hp; exact x.fresh j b' s hj hp

end Go.Am
/- Regions whose operations may come in another order. -/
namespace Go.Am
variable {T : Tab} {P : Program}

inductive Clo (ops : Array Oper) : Nat → Nat → Prop where
  | edge {i : Nat} {o : Oper} {e : Edge} (ho : ops[i]? = some o) (he : e ∈ o.after) (hb : Region.binds .any e = true) : Clo ops i e.on
  | trans {i j : Nat} {o : Oper} {e : Edge} (ho : ops[i]? = some o) (he : e ∈ o.after) (hb : Region.binds .any e = true) (h : Clo ops e.on j) : Clo ops i j

def tmpsOf : List Operand → List Tmp
  | [] => []
  | .tmp d :: l => d :: tmpsOf l
  | _ :: l => tmpsOf l
/-- What an operation looks at. -/
def looks (ops : Array Oper) (o : Oper) : List Tmp :=
  tmpsOf o.op.operands.toList ++ (match o.guard with
    | some (g, _) => match (ops[g]?).bind (·.dst) with
      | some d => [d]
      | none => []
    | none => [])
def memNat (d : Nat) : List Nat → Bool
  | [] => false
  | x :: l => Nat.beq d x || memNat d l
theorem memNat_iff {d : Nat} : ∀ {l : List Nat}, memNat d l = true ↔ d ∈ l
  | [] => by simp [memNat]
  | x :: l => by
    simp only [memNat,Bool.or_eq_true,memNat_iff,List.mem_cons]
    constructor
    · rintro (h | h)
      · exact .inl (Nat.eq_of_beq_eq_true h)
      · exact .inr h
    · rintro (h | h)
      · subst h; simp
      · exact .inr h
def maskT (o : Oper) (t : Operand → Option Value) : Operand → Option Value
  | .tmp d => bif memNat d (tmpsOf o.op.operands.toList) then t (.tmp d) else none
  | x => t x

structure Draws (P : Program) (r : Option Nat) (ops : Array Oper) (H₀ : AHeap) (R : Nat → Option Nat) (hs : List Nat) (G : Nat → AHeap) (Tm : Nat → List Value) (V : Nat → Value) (m : Nat) : Prop where
  next : ∀ (i : Nat) (o : Oper), ops[i]? = some o → Tm (i + 1) = tset (Tm i) o.dst (V i)
  edge : ∀ (i : Nat) (o : Oper) (e : Edge), ops[i]? = some o → e ∈ o.after → Region.binds .any e = true → e.on < i
  one : ∀ (i j : Nat) (oi oj : Oper) (d : Tmp), ops[i]? = some oi → ops[j]? = some oj → oi.dst = some d → oj.dst = some d → i = j
  sees : ∀ (i j : Nat) (oi oj : Oper) (d : Tmp), ops[i]? = some oi → ops[j]? = some oj → d ∈ looks ops oi → oj.dst = some d → i ≠ j → Clo ops i j ∨ Clo ops j i
  step : ∀ (i : Nat) (o : Oper), ops[i]? = some o → (awanted ops (Tm i) o = false ∧ V i = undef ∧ i ∉ hs) ∨
    (awanted ops (Tm i) o = true ∧ i ∉ hs ∧ ∀ q, q ≤ hs.length → (∀ j p, hs[j]? = some p → Clo ops i p → j < q) → (∀ j p, hs[j]? = some p → Clo ops p i → q ≤ j) →
      SOp P r o (maskT o (aval (Tm i))) (G q) (V i) (G q) (G q).size) ∨
    (awanted ops (Tm i) o = true ∧ i ∉ hs ∧ ∃ k, R i = some k ∧ ∀ q, q ≤ hs.length → (∀ j p, hs[j]? = some p → Clo ops i p → j < q) → (∀ j p, hs[j]? = some p → Clo ops p i → q ≤ j) →
      SNew P r o (maskT o (aval (Tm i))) (G q) k (V i)) ∨
    (awanted ops (Tm i) o = true ∧ ∃ j m', hs[j]? = some i ∧ m ≤ m' ∧ SOp P r o (maskT o (aval (Tm i))) (G j) (V i) (G (j + 1)) m')
  order : ∀ (a b pa pb : Nat), a < b → hs[a]? = some pa → hs[b]? = some pb → Clo ops pb pa
  low : m ≤ H₀.size
  grow : H₀.size ≤ (G 0).size
  old : ∀ k, k < H₀.size → (G 0).get k = H₀.get k
  rlow : ∀ i k, R i = some k → H₀.size ≤ k ∧ k < (G 0).size
  rone : ∀ i j k, R i = some k → R j = some k → i = j

section
variable {r : Option Nat} {ops : Array Oper} {H₀ : AHeap} {R : Nat → Option Nat} {hs : List Nat} {G : Nat → AHeap} {Tm : Nat → List Value} {V : Nat → Value} {m : Nat}

theorem Draws.clo_lt (D : Draws P r ops H₀ R hs G Tm V m) {i j : Nat} (h : Clo ops i j) : j < i := by
  induction h with
  | edge ho he hb => exact D.edge _ _ _ ho he hb
  | trans ho he hb _ ih => have := D.edge _ _ _ ho he hb; omega

def lis (listed : Array Bool) (i : Nat) : Prop := listed.getD i false = true

theorem clo_listed {listed : Array Bool} (hc : ∀ i o e, ops[i]? = some o → lis listed i → e ∈ o.after → Region.binds .any e = true → lis listed e.on) {i j : Nat} (h : Clo ops i j) : lis listed i → lis listed j := by
  induction h with
  | edge ho he hb => intro hl; exact hc _ _ _ ho hl he hb
  | trans ho he hb _ ih => intro hl; exact ih (hc _ _ _ ho hl he hb)
theorem clo_ready {listed : Array Bool} (hc : ∀ i o e, ops[i]? = some o → lis listed i → e ∈ o.after → Region.binds .any e = true → lis listed e.on) {i j : Nat} {o : Oper} (hi : ops[i]? = some o)
    (hr : ∀ e ∈ o.after, Region.binds .any e = true → lis listed e.on) (h : Clo ops i j) : lis listed j := by
  cases h with
  | edge ho he hb => rw [hi] at ho; cases ho; exact hr _ he hb
  | trans ho he hb h => rw [hi] at ho; cases ho; exact clo_listed hc h (hr _ he hb)

/-- The values in the order of the text. -/
theorem Draws.look (D : Draws P r ops H₀ R hs G Tm V m) : ∀ i, i ≤ ops.size → (Tm i).length = (Tm 0).length ∧ ∀ d, d < (Tm 0).length →
    ((∃ j o, j < i ∧ ops[j]? = some o ∧ o.dst = some d ∧ (Tm i)[d]? = some (V j)) ∨ ((∀ j o, j < i → ops[j]? = some o → o.dst ≠ some d) ∧ (Tm i)[d]? = (Tm 0)[d]?))
  | 0, _ => ⟨rfl, fun d _ => .inr ⟨fun j o hj => by omega, rfl⟩⟩
  | i + 1, hi => by
    obtain ⟨h1, h2⟩ := D.look i (by omega)
    have hlt : i < ops.size := by omega
    have ho : ops[i]? = some ops[i] := Array.getElem?_eq_getElem hlt
    rw [D.next i _ ho]
    cases hd : ops[i].dst with
    | none =>
      refine ⟨h1, fun d hdl => ?_⟩
      rcases h2 d hdl with ⟨j, o, hj, hoj, hdj, hv⟩ | ⟨hno, hv⟩
      · exact .inl ⟨j, o, by omega, hoj, hdj, hv⟩
      · refine .inr ⟨fun j o hj hoj => ?_, hv⟩
        by_cases e : j = i
        · subst e; rw [ho] at hoj; cases hoj; rw [hd]; simp
        · exact hno j o (by omega) hoj
    | some di =>
      refine ⟨by simpa [tset] using h1, fun d hdl => ?_⟩
      simp only [tset,List.getElem?_set]
      by_cases e : di = d
      · subst e
        exact .inl ⟨i, ops[i], by omega, ho, hd, by simp [h1, hdl]⟩
      · simp only [e,if_false]
        rcases h2 d hdl with ⟨j, o, hj, hoj, hdj, hv⟩ | ⟨hno, hv⟩
        · exact .inl ⟨j, o, by omega, hoj, hdj, hv⟩
        · refine .inr ⟨fun j o hj hoj => ?_, hv⟩
          by_cases e' : j = i
          · subst e'; rw [ho] at hoj; cases hoj; rw [hd]; simpa using e
          · exact hno j o (by omega) hoj

structure Inv (ops : Array Oper) (H₀ : AHeap) (R : Nat → Option Nat) (hs : List Nat) (G : Nat → AHeap) (Tm : Nat → List Value) (V : Nat → Value) (m : Nat) (σ₀ : Place) (w₀ : World) (ds : List Nat) (listed : Array Bool) (a : Act) (w : World) (q : Nat) (σ : Place) : Prop where
  size : listed.size = ops.size
  closed : ∀ (i : Nat) (o : Oper) (e : Edge), ops[i]? = some o → lis listed i → e ∈ o.after → Region.binds .any e = true → lis listed e.on
  le : q ≤ hs.length
  stage : ∀ j p, hs[j]? = some p → (lis listed p ↔ j < q)
  rel : Rel σ (G q) w
  ext : Ext σ₀ H₀ w₀ σ (G q) w m
  big : (G 0).size ≤ (G q).size
  unb : ∀ i k, R i = some k → ¬ lis listed i → σ.at_ k = none
  dfs : a.defers = ds.map (mark σ)
  dok : ∀ k ∈ ds, (σ.at_ k).isSome = true
  len : a.tmps.size = (Tm 0).length
  tmps : ∀ d, d < (Tm 0).length → ∃ v, a.tmps[d]? = some (ren σ v) ∧ okv σ v ∧
    ((∃ j o, ops[j]? = some o ∧ lis listed j ∧ o.dst = some d ∧ v = V j) ∨ ((∀ j o, ops[j]? = some o → lis listed j → o.dst ≠ some d) ∧ (Tm 0)[d]? = some v))

/-- What an operation that is ready sees is what it sees in the order of the text. -/
theorem Draws.seen (D : Draws P r ops H₀ R hs G Tm V m) {σ₀ : Place} {w₀ : World} {ds : List Nat} {listed : Array Bool} {a : Act} {w : World} {q : Nat} {σ : Place} (I : Inv ops H₀ R hs G Tm V m σ₀ w₀ ds listed a w q σ)
    {i : Nat} {o : Oper} (hi : ops[i]? = some o) (hn : ¬ lis listed i) (hr : ∀ e ∈ o.after, Region.binds .any e = true → lis listed e.on) {d : Tmp} (hd : d ∈ looks ops o) :
    (d < (Tm 0).length → ∃ v, a.tmps[d]? = some (ren σ v) ∧ okv σ v ∧ (Tm i)[d]? = some v) ∧ (¬ d < (Tm 0).length → a.tmps[d]? = none ∧ (Tm i)[d]? = none) := by
  have hil : i < ops.size := (Array.getElem?_eq_some_iff.1 hi).1
  obtain ⟨hlen, hlook⟩ := D.look i (by omega)
  refine ⟨fun hdl => ?_, fun hdl => ?_⟩
  rotate_left
  · have hdl' : (Tm 0).length ≤ d := Nat.not_lt.1 hdl
    exact ⟨Array.getElem?_eq_none (by rw [I.len]; exact hdl'), List.getElem?_eq_none (by rw [hlen]; exact hdl')⟩
  obtain ⟨v, h1, h2, h3⟩ := I.tmps d hdl
  refine ⟨v, h1, h2, ?_⟩
  have key : ∀ j oj, ops[j]? = some oj → oj.dst = some d → j ≠ i → (lis listed j ↔ j < i) := by
    intro j oj hj hdj hne
    rcases D.sees i j o oj d hi hj hd hdj (Ne.symm hne) with hc | hc
    · have hlt := D.clo_lt hc
      exact ⟨fun _ => hlt, fun _ => clo_ready I.closed hi hr hc⟩
    · have hlt := D.clo_lt hc
      exact ⟨fun hl => absurd (clo_listed I.closed hc hl) hn, fun h => by omega⟩
  rcases h3 with ⟨j, oj, hj, hl, hdj, rfl⟩ | ⟨hno, ht0⟩
  · have hne : j ≠ i := fun e => hn (e ▸ hl)
    have hlt := (key j oj hj hdj hne).1 hl
    rcases hlook d hdl with ⟨j', o', hj', hoj', hdj', hv⟩ | ⟨hno, _⟩
    · have := D.one j j' oj o' d hj hoj' hdj hdj'
      subst this; exact hv
    · exact absurd hdj (hno j oj hlt hj)
  · rcases hlook d hdl with ⟨j', o', hj', hoj', hdj', hv⟩ | ⟨_, hv⟩
    · have hne : j' ≠ i := by omega
      exact absurd hdj' (hno j' o' hoj' ((key j' o' hoj' hdj' hne).2 hj'))
    · rw [hv]; exact ht0

theorem Draws.evals (D : Draws P r ops H₀ R hs G Tm V m) {σ₀ : Place} {w₀ : World} {ds : List Nat} {listed : Array Bool} {a : Act} {w : World} {q : Nat} {σ : Place} (I : Inv ops H₀ R hs G Tm V m σ₀ w₀ ds listed a w q σ)
    {i : Nat} {o : Oper} (hi : ops[i]? = some o) (hn : ¬ lis listed i) (hr : ∀ e ∈ o.after, Region.binds .any e = true → lis listed e.on) :
    Evals σ (maskT o (aval (Tm i))) a.eval := by
  intro x v hx
  cases x with
  | tmp d =>
    simp only [maskT] at hx
    cases hm : memNat d (tmpsOf o.op.operands.toList)
    · rw [hm] at hx; cases hx
    · rw [hm] at hx
      simp only [cond_true,aval,Option.some.injEq] at hx
      have hd : d ∈ looks ops o := List.mem_append.2 (.inl (memNat_iff.1 hm))
      obtain ⟨h1, h2⟩ := D.seen I hi hn hr hd
      by_cases hdl : d < (Tm 0).length
      · obtain ⟨u, k1, k2, k3⟩ := h1 hdl
        have e1 : v = u := by rw [← hx]; simp [List.getD, k3]
        subst e1
        have hds : d < a.tmps.size := by rw [I.len]; exact hdl
        have : a.tmps.getD d undef = ren σ v := by
          have := (Array.getElem?_eq_some_iff.1 k1).2
          simp [Array.getD, hds, this]
        exact ⟨this, k2⟩
      · obtain ⟨k1, k2⟩ := h2 hdl
        have e1 : v = undef := by rw [← hx]; simp [List.getD, k2]
        subst e1
        have hds : ¬ d < a.tmps.size := by rw [I.len]; exact hdl
        refine ⟨?_, okv_undef σ⟩
        rw [ren_undef]
        simp only [Act.eval]
        simp [Array.getD, hds]
  | const c =>
    simp only [maskT,aval] at hx
    cases hg : gr c
    · rw [hg] at hx; cases hx
    · rw [hg] at hx
      simp only [cond_true,Option.some.injEq] at hx
      subst hx
      obtain ⟨h1, h2⟩ := gr_ok σ hg
      exact ⟨by rw [h2]; rfl, h1⟩
  | global g => cases hx
  | func f =>
    simp only [maskT,aval,Option.some.injEq] at hx
    subst hx
    exact ⟨by simp [Act.eval, ren, Place.fn], by simp [okv, okfn]⟩

theorem Draws.wanted (D : Draws P r ops H₀ R hs G Tm V m) {σ₀ : Place} {w₀ : World} {ds : List Nat} {listed : Array Bool} {a : Act} {w : World} {q : Nat} {σ : Place} (I : Inv ops H₀ R hs G Tm V m σ₀ w₀ ds listed a w q σ)
    {i : Nat} {o : Oper} (hi : ops[i]? = some o) (hn : ¬ lis listed i) (hr : ∀ e ∈ o.after, Region.binds .any e = true → lis listed e.on) :
    Region.wanted o (yielded ops a.tmps) = awanted ops (Tm i) o := by
  unfold awanted Region.wanted
  cases hg : o.guard with
  | none => rfl
  | some gb =>
    obtain ⟨g, b⟩ := gb
    simp only
    congr 1
    unfold yielded ayielded
    cases hd : (ops[g]?).bind (·.dst) with
    | none => rfl
    | some d =>
      simp only [Option.bind_some]
      have hdl : d ∈ looks ops o := List.mem_append.2 (.inr (by simp [hg, hd]))
      obtain ⟨h1, h2⟩ := D.seen I hi hn hr hdl
      by_cases hlt : d < (Tm 0).length
      · obtain ⟨v, k1, _, k3⟩ := h1 hlt
        rw [k1, k3]
        cases v <;> simp [ren]
      · obtain ⟨k1, k2⟩ := h2 hlt
        rw [k1, k2]

theorem lis_set {listed : Array Bool} {i j : Nat} (hi : i < listed.size) : lis (listed.setIfInBounds i true) j ↔ j = i ∨ lis listed j := by
  unfold lis
  simp only [Array.getD_eq_getD_getElem?,Array.getElem?_setIfInBounds]
  by_cases e : i = j
  · subst e; simp [hi]
  · simp [e, Ne.symm e]

/-- One more operation is done. -/
theorem Inv.put {σ₀ : Place} {w₀ : World} {ds : List Nat} {listed : Array Bool} {a : Act} {w w' : World} {q q' : Nat} {σ σ' : Place} (D : Draws P r ops H₀ R hs G Tm V m) (I : Inv ops H₀ R hs G Tm V m σ₀ w₀ ds listed a w q σ)
    {i : Nat} {o : Oper} (hi : ops[i]? = some o) (hn : ¬ lis listed i) (hr : ∀ e ∈ o.after, Region.binds .any e = true → lis listed e.on) (hq : q' ≤ hs.length)
    (hst : ∀ j p, hs[j]? = some p → (p = i ∨ lis listed p ↔ j < q')) (hv : okv σ' (V i)) (hR : Rel σ' (G q') w') (ag : Agree σ σ') (hX : Ext σ₀ H₀ w₀ σ' (G q') w' m) (hbig : (G 0).size ≤ (G q').size) (hunb : ∀ j k, R j = some k → j ≠ i → ¬ lis listed j → σ'.at_ k = none) :
    Inv ops H₀ R hs G Tm V m σ₀ w₀ ds (listed.setIfInBounds i true) (a.put o.dst (ren σ' (V i))) w' q' σ' := by
  have hil : i < listed.size := by rw [I.size]; exact (Array.getElem?_eq_some_iff.1 hi).1
  refine ⟨by simp [I.size], ?_, hq, fun j p hp => by rw [lis_set hil]; exact hst j p hp, hR, hX, hbig, ?_, ?_, fun k hk => ag.placed (I.dok k hk), ?_, ?_⟩
  · intro j oj e hj hl he hb
    rw [lis_set hil] at hl ⊢
    rcases hl with rfl | hl
    · rw [hi] at hj; cases hj; exact .inr (hr e he hb)
    · exact .inr (I.closed j oj e hj hl he hb)
  · intro j k hj hl
    rw [lis_set hil] at hl
    exact hunb j k hj (fun e => hl (.inl e)) (fun h => hl (.inr h))
  · have : (a.put o.dst (ren σ' (V i))).defers = a.defers := by cases o.dst <;> rfl
    rw [this, I.dfs]
    exact List.map_congr_left fun k hk => by simp [mark, ag.blk (I.dok k hk)]
  · cases hd : o.dst <;> simp [Act.put, I.len]
  · intro d hdl
    by_cases e : o.dst = some d
    · refine ⟨V i, ?_, hv, .inl ⟨i, o, hi, (lis_set hil).2 (.inl rfl), e, rfl⟩⟩
      rw [e]
      simp only [Act.put,Array.getElem?_setIfInBounds]
      simp [I.len, hdl]
    · obtain ⟨v, h1, h2, h3⟩ := I.tmps d hdl
      refine ⟨v, ?_, ag.okv h2, ?_⟩
      · rw [ag.ren h2, ← h1]
        cases hd : o.dst with
        | none => rfl
        | some d' =>
          have : d' ≠ d := fun e' => e (by rw [hd, e'])
          simp [Act.put, Array.getElem?_setIfInBounds, this]
      · rcases h3 with ⟨j, oj, hj, hl, hdj, rfl⟩ | ⟨hno, ht⟩
        · exact .inl ⟨j, oj, hj, (lis_set hil).2 (.inr hl), hdj, rfl⟩
        · refine .inr ⟨fun j oj hj hl => ?_, ht⟩
          rcases (lis_set hil).1 hl with rfl | hl
          · rw [hi] at hj; cases hj; exact e
          · exact hno j oj hj hl

def unl (listed : Array Bool) : List Nat → Nat
  | [] => 0
  | i :: l => (if listed.getD i false = true then 0 else 1) + unl listed l
theorem unl_le {listed : Array Bool} {i : Nat} (hi : i < listed.size) : ∀ l, unl (listed.setIfInBounds i true) l ≤ unl listed l
  | [] => Nat.le_refl _
  | j :: l => by
    have ih := unl_le hi l
    have := lis_set (j := j) hi
    unfold lis at this
    simp only [unl]
    split <;> split <;> simp_all <;> omega
theorem unl_lt {listed : Array Bool} {i : Nat} (hi : i < listed.size) (hn : ¬ lis listed i) : ∀ l, i ∈ l → unl (listed.setIfInBounds i true) l < unl listed l
  | j :: l, hm => by
    have h1 := unl_le hi l
    have h2 := lis_set (j := j) hi
    by_cases e : j = i
    · subst e
      have h3 : lis (listed.setIfInBounds j true) j := h2.2 (.inl rfl)
      unfold lis at h3 hn
      simp only [unl,h3,hn,if_true]
      simp; omega
    · have hm' : i ∈ l := by
        rcases List.mem_cons.1 hm with h | h
        · exact absurd h.symm e
        · exact h
      have ih := unl_lt hi hn l hm'
      have h4 : (listed.setIfInBounds i true).getD j false = listed.getD j false := by
        simp only [Array.getD_eq_getD_getElem?,Array.getElem?_setIfInBounds]
        simp [Ne.symm e]
      simp only [unl,h4]
      omega
theorem unl_zero {listed : Array Bool} : ∀ {l : List Nat}, unl listed l = 0 → ∀ i ∈ l, lis listed i
  | j :: l, h, i, hi => by
    simp only [unl] at h
    rcases List.mem_cons.1 hi with rfl | hi
    · unfold lis
      by_cases hh : listed.getD i false = true
      · exact hh
      · rw [if_neg hh] at h; omega
    · exact unl_zero (by omega) i hi

theorem mem_ready {listed : Array Bool} {i : Nat} (hsz : listed.size = ops.size) : i ∈ Region.ready .any ops listed ↔ ∃ o, ops[i]? = some o ∧ ¬ lis listed i ∧ ∀ e ∈ o.after, Region.binds .any e = true → lis listed e.on := by
  unfold Region.ready lis
  simp only [List.mem_filter,List.mem_range,Bool.and_eq_true,Bool.not_eq_true']
  constructor
  · rintro ⟨h1, h2, h3⟩
    have ho : ops[i]? = some ops[i] := Array.getElem?_eq_getElem h1
    refine ⟨ops[i], ho, ?_, ?_⟩
    · have hl : i < listed.size := by omega
      simp only [Array.getD,hl] at h2 ⊢
      simpa using h2
    · rw [ho] at h3
      simp only [Option.map_some,Option.getD_some] at h3
      intro e he hb
      have := (Array.all_eq_true_iff_forall_mem.1 h3) e he
      simpa [hb] using this
  · rintro ⟨o, ho, h2, h3⟩
    have h1 : i < ops.size := (Array.getElem?_eq_some_iff.1 ho).1
    refine ⟨h1, ?_, ?_⟩
    · have hl : i < listed.size := by omega
      simp only [Array.getD,hl] at h2 ⊢
      simpa using h2
    · rw [ho]
      simp only [Option.map_some,Option.getD_some]
      refine Array.all_eq_true_iff_forall_mem.2 fun e he => ?_
      cases hb : Region.binds .any e
      · simp
      · simpa using h3 e he hb

theorem Draws.all_of_ready (D : Draws P r ops H₀ R hs G Tm V m) {listed : Array Bool} (hsz : listed.size = ops.size) (h : Region.ready .any ops listed = []) : ∀ i, i < ops.size → lis listed i := by
  intro i
  induction i using Nat.strongRecOn with
  | _ i ih =>
    intro hi
    by_cases hl : lis listed i
    · exact hl
    · have ho : ops[i]? = some ops[i] := Array.getElem?_eq_getElem hi
      have : i ∈ Region.ready .any ops listed := (mem_ready hsz).2 ⟨ops[i], ho, hl, fun e he hb => ih e.on (D.edge i _ e ho he hb) (Nat.lt_trans (D.edge i _ e ho he hb) hi)⟩
      rw [h] at this; cases this

theorem Draws.finish (D : Draws P r ops H₀ R hs G Tm V m) {σ₀ : Place} {w₀ : World} {ds : List Nat} {listed : Array Bool} {a : Act} {w : World} {q : Nat} {σ : Place} (I : Inv ops H₀ R hs G Tm V m σ₀ w₀ ds listed a w q σ)
    (hall : ∀ i, i < ops.size → lis listed i) (hhs : ∀ p ∈ hs, p < ops.size) : SPost σ₀ ⟨Tm 0, H₀, ds⟩ w₀ .normal ⟨Tm ops.size, G hs.length, ds⟩ m .normal a w := by
  have hq : q = hs.length := by
    have := I.le
    by_cases e : q = hs.length
    · exact e
    · have hlt : q < hs.length := by omega
      have hp : hs[q]? = some hs[q] := List.getElem?_eq_getElem hlt
      have := (I.stage q _ hp).1 (hall _ (hhs _ (List.getElem_mem hlt)))
      omega
  subst hq
  obtain ⟨hlen, hlook⟩ := D.look ops.size (Nat.le_refl _)
  have hval : ∀ d, d < (Tm 0).length → ∃ v, (Tm ops.size)[d]? = some v ∧ a.tmps[d]? = some (ren σ v) ∧ okv σ v := by
    intro d hdl
    obtain ⟨v, h1, h2, h3⟩ := I.tmps d hdl
    refine ⟨v, ?_, h1, h2⟩
    rcases h3 with ⟨j, oj, hj, _, hdj, rfl⟩ | ⟨hno, ht⟩
    · rcases hlook d hdl with ⟨j', o', hj', hoj', hdj', hv⟩ | ⟨hno, _⟩
      · have := D.one j j' oj o' d hj hoj' hdj hdj'
        subst this; exact hv
      · exact absurd hdj (hno j oj (Array.getElem?_eq_some_iff.1 hj).1 hj)
    · rcases hlook d hdl with ⟨j', o', hj', hoj', hdj', _⟩ | ⟨_, hv⟩
      · exact absurd hdj' (hno j' o' hoj' (hall j' hj'))
      · rw [hv]; exact ht
  refine ⟨rfl, σ, ⟨?_, ?_, I.dfs, I.dok⟩, I.rel, I.ext⟩
  · apply Array.ext'
    apply List.ext_getElem?
    intro d
    simp only [Array.getElem?_toList,List.getElem?_map]
    by_cases hdl : d < (Tm 0).length
    · obtain ⟨v, h1, h2, _⟩ := hval d hdl
      rw [h1, h2]; rfl
    · have hdl' : (Tm 0).length ≤ d := Nat.not_lt.1 hdl
      rw [Array.getElem?_eq_none (by rw [I.len]; exact hdl'), List.getElem?_eq_none (by show (Tm ops.size).length ≤ d; rw [hlen]; exact hdl')]; rfl
  · intro v hv
    obtain ⟨d, hd⟩ := List.getElem?_of_mem hv
    have hdl : d < (Tm 0).length := by
      have h := (List.getElem?_eq_some_iff.1 hd).1
      exact hlen ▸ h
    obtain ⟨u, h1, _, h3⟩ := hval d hdl
    rw [h1] at hd; cases hd; exact h3

theorem Draws.any (D : Draws P r ops H₀ R hs G Tm V m) (hhs : ∀ p ∈ hs, p < ops.size) {F : Fence} {n : Nat} (hF : Free F) {σ₀ : Place} {w₀ : World} {ds : List Nat} (hr0 : InR r σ₀ F) (hR0 : Rel σ₀ H₀ w₀) :
    ∀ (fuel : Nat) (listed : Array Bool) (a : Act) (w : World) (q : Nat) (σ : Place), Inv ops H₀ R hs G Tm V m σ₀ w₀ ds listed a w q σ → unl listed (List.range ops.size) ≤ fuel →
      wpAnyIn F n P .any ops (SPost σ₀ ⟨Tm 0, H₀, ds⟩ w₀ .normal ⟨Tm ops.size, G hs.length, ds⟩ m) fuel listed a w
  | 0, listed, a, w, q, σ, I, hu => by
    have hall : ∀ i, i < ops.size → lis listed i := fun i hi => unl_zero (by omega) i (List.mem_range.2 hi)
    refine ⟨?_, D.finish I hall hhs⟩
    apply List.eq_nil_iff_forall_not_mem.2
    intro i hi
    obtain ⟨o, ho, hn, _⟩ := (mem_ready I.size).1 hi
    exact hn (hall i (Array.getElem?_eq_some_iff.1 ho).1)
  | fuel + 1, listed, a, w, q, σ, I, hu => by
    refine ⟨fun h => D.finish I (D.all_of_ready I.size h) hhs, fun i hi => ?_⟩
    obtain ⟨o, ho, hn, hr⟩ := (mem_ready I.size).1 hi
    have hil : i < listed.size := by rw [I.size]; exact (Array.getElem?_eq_some_iff.1 ho).1
    have hu' : unl (listed.setIfInBounds i true) (List.range ops.size) ≤ fuel := by
      have := unl_lt hil hn (List.range ops.size) (List.mem_range.2 (by rw [← I.size]; exact hil))
      omega
    unfold wpOpIn
    rw [ho]
    simp only [D.wanted I ho hn hr]
    have agI := I.ext.agr hR0
    have same : ∀ j p, hs[j]? = some p → i ∉ hs → (p = i ∨ lis listed p ↔ j < q) := fun j p hp hni => by
      have : p ≠ i := fun e => hni (e ▸ List.mem_of_getElem? hp)
      simp only [this,false_or]; exact I.stage j p hp
    have lowq : m ≤ (G q).size := Nat.le_trans D.low I.ext.hsize
    have comp : ∀ {q' : Nat} {σ' : Place} {w' : World} {m' : Nat}, Ext σ (G q) w σ' (G q') w' m' → m ≤ m' → Agree σ σ' ∧ Ext σ₀ H₀ w₀ σ' (G q') w' m ∧ (G 0).size ≤ (G q').size ∧ ∀ j k, R j = some k → j ≠ i → ¬ lis listed j → σ'.at_ k = none := fun {q' σ' w' m'} x hm => by
      refine ⟨x.agr I.rel, ?_, Nat.le_trans I.big x.hsize, fun j k hj _ hl => ?_⟩
      · have := I.ext.trans x
        exact this.weaken (by omega)
      · rw [(x.agree k (Nat.lt_of_lt_of_le (D.rlow j k hj).2 I.big)).1]; exact I.unb j k hj hl
    rcases D.step i o ho with ⟨hw, hv, hni⟩ | ⟨hw, hni, hop⟩ | ⟨hw, hni, k, hk, hop⟩ | ⟨hw, j, m', hj, hm', hop⟩
    · simp only [hw,Bool.false_eq_true,if_false]
      refine ⟨fun f _ => hF.1 f, ?_⟩
      have hp := I.put D ho hn hr I.le (fun j p hp => same j p hp hni) (by rw [hv]; exact okv_undef σ) I.rel (Agree.refl σ) I.ext I.big (fun j k hj _ hl => I.unb j k hj hl)
      rw [hv, ren_undef] at hp
      exact D.any hhs hF hr0 hR0 fuel _ _ w q σ hp hu'
    · simp only [hw,if_true]
      refine hop q I.le (fun j p hp hc => (I.stage j p hp).1 (clo_ready I.closed ho hr hc)) (fun j p hp hc => ?_) F n σ w a _ _ hF (hr0.agree agI) I.rel (D.evals I ho hn hr) ?_
      · rcases Nat.lt_or_ge j q with h' | h'
        · exact absurd (clo_listed I.closed hc ((I.stage j p hp).2 h')) hn
        · exact h'
      · intro σ' w' k1 k2 k3
        obtain ⟨c1, c2, c3, c4⟩ := comp k3 lowq
        exact D.any hhs hF hr0 hR0 fuel _ _ w' q σ' (I.put D ho hn hr I.le (fun j p hp => same j p hp hni) k1 k2 c1 c2 c3 c4) hu'
    · simp only [hw,if_true]
      have hkn : σ.at_ k = none := I.unb i k hk hn
      refine hop q I.le (fun j p hp hc => (I.stage j p hp).1 (clo_ready I.closed ho hr hc)) (fun j p hp hc => ?_) F n σ w a _ _ hF I.rel (D.evals I ho hn hr) hkn ?_
      · rcases Nat.lt_or_ge j q with h' | h'
        · exact absurd (clo_listed I.closed hc ((I.stage j p hp).2 h')) hn
        · exact h'
      · intro w' b rm k0 k1 k2 k3
        have ag := agree_add_of_none hkn b rm
        refine D.any hhs hF hr0 hR0 fuel _ _ w' q _ (I.put D ho hn hr I.le (fun j p hp => same j p hp hni) k1 k2 ag (I.ext.reserve (D.rlow i k hk).1 k0 k3) I.big (fun j k' hj hne hl => ?_)) hu'
        rw [Place.add_other σ (fun (e : k' = k) => hne (D.rone j i k (by rw [← e]; exact hj) hk))]
        exact I.unb j k' hj hl
    · simp only [hw,if_true]
      have hjlt : j < hs.length := (List.getElem?_eq_some_iff.1 hj).1
      have hqj : q = j := by
        have h1 : ¬ j < q := fun h => hn ((I.stage j i hj).2 h)
        rcases Nat.lt_or_ge q j with h' | h'
        · have hlt : q < hs.length := by omega
          have hp : hs[q]? = some hs[q] := List.getElem?_eq_getElem hlt
          have := (I.stage q _ hp).1 (clo_ready I.closed ho hr (D.order q j _ i h' hp hj))
          omega
        · omega
      subst hqj
      refine hop F n σ w a _ _ hF (hr0.agree agI) I.rel (D.evals I ho hn hr) ?_
      intro σ' w' k1 k2 k3
      obtain ⟨c1, c2, c3, c4⟩ := comp k3 hm'
      refine D.any hhs hF hr0 hR0 fuel _ _ w' (q + 1) σ' (I.put D ho hn hr (by omega) (fun j p hp => ?_) k1 k2 c1 c2 c3 c4) hu'
      constructor
      · rintro (rfl | hl)
        · rcases Nat.lt_trichotomy j q with h' | h' | h'
          · omega
          · omega
          · have := D.clo_lt (D.order q j _ _ h' hj hp); omega
        · have := (I.stage j p hp).1 hl; omega
      · intro h'
        by_cases e : j = q
        · subst e; rw [hj] at hp; cases hp; exact .inl rfl
        · exact .inr ((I.stage j p hp).2 (by omega))

theorem Draws.rel0 (D : Draws P r ops H₀ R hs G Tm V m) {σ : Place} {w : World} (h : Rel σ H₀ w) : Rel σ (G 0) w where
  lt k b s hp := ⟨Nat.lt_of_lt_of_le (h.lt k b s hp).1 D.grow, (h.lt k b s hp).2⟩
  holds k b s hp := by rw [D.old k (h.lt k b s hp).1]; exact h.holds k b s hp
  excl k k' b s s' hk hk' hne al hal := by
    rw [D.old k (h.lt k b s hk).1] at hal
    rw [D.old k' (h.lt k' b s' hk').1]
    exact h.excl k k' b s s' hk hk' hne al hal
theorem Draws.unplaced (D : Draws P r ops H₀ R hs G Tm V m) {σ : Place} {w : World} (h : Rel σ H₀ w) {i k : Nat} (hk : R i = some k) : σ.at_ k = none := by
  cases hh : σ.at_ k with
  | none => rfl
  | some q => have := (h.lt k q.1 q.2 hh).1; have := (D.rlow i k hk).1; omega
theorem Draws.ext0 (D : Draws P r ops H₀ R hs G Tm V m) {σ : Place} {w : World} (h : Rel σ H₀ w) : Ext σ H₀ w σ (G 0) w.drew m where
  agree _ _ := ⟨rfl, rfl⟩
  hsize := D.grow
  wsize := Nat.le_refl _
  os := rfl
  tape := rfl
  output := rfl
  keep k _ hk := D.old k hk
  frame _ _ _ := rfl
  fresh k b s hk hp := by have := (h.lt k b s hp).1; omega

theorem SCode.region_draw (hmix : P.follows .mixedOrders = true) (D : Draws P r ops H₀ R hs G Tm V m) (hhs : ∀ p ∈ hs, p < ops.size) {id : Nat} {ds : List Nat} :
    SCode P r (.region id ops true) ⟨Tm 0, H₀, ds⟩ .normal ⟨Tm ops.size, G hs.length, ds⟩ m := by
  intro F n σ w a hF hr hR hA
  have hR0 : Rel σ H₀ w := hR
  have hR' : Rel σ (G 0) w.drew := D.rel0 (hR0.heap_eq rfl)
  have hX : Ext σ H₀ w σ (G 0) w.drew m := D.ext0 hR0
  refine wpIn_region_any hmix ?_
  have hno : ∀ i, ¬ lis (Array.replicate ops.size false) i := by
    intro i
    unfold lis
    by_cases hi : i < ops.size <;> simp [Array.getD, hi]
  refine D.any hhs hF hr hR _ _ _ _ 0 σ ⟨by simp, fun i o e _ hl => absurd hl (hno i), by omega, fun j p _ => ⟨fun h => absurd h (hno p), fun h => by omega⟩, hR', hX, Nat.le_refl _, fun i k hk _ => D.unplaced hR0 hk, hA.ds, hA.dok, ?_, ?_⟩ ?_
  · rw [hA.tmps]; simp
  · intro d hd
    refine ⟨(Tm 0)[d], ?_, hA.ok _ (List.getElem_mem hd), .inr ⟨fun j o _ hl => absurd hl (hno j), List.getElem?_eq_getElem hd⟩⟩
    rw [hA.tmps]; simp [hd]
  · have : ∀ l, unl (Array.replicate ops.size false) l = l.length := by
      intro l
      induction l with
      | nil => rfl
      | cons i l ih =>
        have := hno i
        unfold lis at this
        simp only [unl,this,if_false,ih,List.length_cons]
        simp; omega
    rw [this]; simp
end

end Go.Am
