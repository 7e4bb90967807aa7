/- Maps, lengths, copies; one operation by its kind. -/
import Derived.Test.YtaieoelbpnjoiaaT1
import Derived.OrdersIn
import Derived.MapKept
import Derived.DeepKeys
set_option linter.unusedSimpArgs false
set_option linter.unusedVariables false
namespace Go.Am
variable {T : Tab} {P : Program} {σ : Place} {H : AHeap} {w : World} {t : Operand → Option Value} {ρ : Operand → Value}
/-! ### Lengths, the least and the greatest -/
def aLen (T : Tab) (t : Operand → Option Value) (H : AHeap) (tys : Array TypeId) (args : Array Operand) : Option Value :=
 match tys.toList, args.toList with
 | ty :: _, [x] => match t x, T.und ty with
  | some (.slice _ n _), some (.slice _) => some (.int .i64 n)
  | some (.chan _), some (.slice _) => some (.int .i64 0)
  | some (.string s), some .string => some (.int .i64 s.size)
  | some (.map none), some (.map _ _) => some (.int .i64 0)
  | some (.map (some k)), some (.map _ _) => match H.get k with
   | .map es _ => some (.int .i64 es.length)
   | _ => none
  | _, _ => none
 | _, _ => none
theorem aLen_ok (hT : T.Fits P) {o : Oper} {tys : Array TypeId} {args : Array Operand} (ho : o.op = .call { callee := .builtin .len, args, argTypes := tys }) (r : Rel σ H w) (hρ : Evals σ t ρ)
  {v : Value} (h : aLen T t H tys args = some v) : Runs P (execOp ρ o) σ H w v H H.size := by
 unfold aLen at h
 split at h
 ·rename_i ty tl x htys hargs
  obtain rfl : args = #[x] := by apply Array.ext'; simpa using hargs
  have hty0 : tys[0]? = some ty := by
   rw [← Array.getElem?_toList, htys]; rfl
  have hexec : execOp ρ o = (do pure (.value (← Builtin.len_ tys o.type #[ρ x]))) := by rw [exec_builtin ho]; simp only [builtin,List.map_toArray,List.map_cons,List.map_nil]
  split at h
  ·rename_i b n c e hx hu
   cases h
   have h1 := (hρ _ _ hx).1
   simp only [ren] at h1
   refine Runs.same r ?_ (by simp [okv])
   rw [hexec, h1]; simp [Builtin.len_, hty0, run_und hT hu, goInt, ren]
  ·rename_i b e hx hu
   cases h
   have h1 := (hρ _ _ hx).1
   simp only [ren] at h1
   refine Runs.same r ?_ (by simp [okv])
   rw [hexec, h1]; simp [Builtin.len_, hty0, run_und hT hu, goInt, ren]
  ·rename_i s hx hu
   cases h
   have h1 := (hρ _ _ hx).1
   simp only [ren] at h1
   refine Runs.same r ?_ (by simp [okv])
   rw [hexec, h1]; simp [Builtin.len_, hty0, run_und hT hu, goInt, ren]
  ·rename_i k e hx hu
   cases h
   have h1 := (hρ _ _ hx).1
   simp only [ren,Option.map_none] at h1
   refine Runs.same r ?_ (by simp [okv])
   rw [hexec, h1]; simp [Builtin.len_, hty0, run_und hT hu, goInt, ren]
  ·rename_i k kt e hx hu
   split at h
   ·rename_i es clock hg
    cases h
    obtain ⟨h1, h2⟩ := hρ _ _ hx
    rw [okv] at h2
    simp only [ren,Option.map_some] at h1
    obtain ⟨p, hp⟩ := Option.isSome_iff_exists.1 h2
    obtain ⟨b, s⟩ := p
    have hh := r.holds k b s hp
    rw [hg] at hh
    have hbl : σ.blk k = b := by simp [Place.blk, hp]
    refine Runs.same r ?_ (by simp [okv])
    rw [hexec, h1, hbl]
    simp [Builtin.len_, hty0, run_und hT hu, goInt, ren, getObj, Sem.run, hh.2.2]
   ·cases h
  ·cases h
 ·cases h
def aMinMax (P : Program) (t : Operand → Option Value) (H : AHeap) (mx : Bool) (args : Array Operand) : Option (Value × AHeap × Nat) :=
 bif allGr t args.toList then aPureOf P H (bif mx then Builtin.max_ #[] 0 ((args.toList.map (aρ t)).toArray) else Builtin.min_ #[] 0 ((args.toList.map (aρ t)).toArray)) else none
theorem aMinMax_ok {o : Oper} {tys : Array TypeId} {args : Array Operand} {mx : Bool} (ho : o.op = .call { callee := .builtin (bif mx then .max else .min), args, argTypes := tys }) (r : Rel σ H w) (hρ : Evals σ t ρ)
  {v : Value} {H' : AHeap} {m : Nat} (h : aMinMax P t H mx args = some (v, H', m)) : Runs P (execOp ρ o) σ H w v H' m := by
 unfold aMinMax at h
 cases hb : allGr t args.toList
 ·rw [hb] at h; cases h
 ·rw [hb] at h
  have e : args.map ρ = (args.toList.map (aρ t)).toArray := by
   apply Array.ext'
   simp only [Array.toList_map]
   exact List.map_congr_left fun x hx => ground_eval hρ hb x hx
  cases mx
  ·simp only [cond_false] at h ho
   exact aPureOf_ok (by rw [exec_builtin ho, e]; rfl) r h
  ·simp only [cond_true] at h ho
   exact aPureOf_ok (by rw [exec_builtin ho, e]; rfl) r h
/-! ### Copies and cleared cells -/
def aCopy (T : Tab) (t : Operand → Option Value) (H : AHeap) (tys : Array TypeId) (args : Array Operand) : Option (Value × AHeap × Nat) :=
 match tys.toList, args.toList with
 | ty :: _, [d, s] => match T.und ty, t d, t s with
  | some (.slice e), some (.slice (some da) dl _), some (.slice (some sa) sl _) => match T.inf e with
   | some i => match srcCells H sa (Nat.min sl dl * i.size) with
    | some l => match aWrite H da.block da.off l with
     | some (H', m) => some (.int .i64 (Int.ofNat (Nat.min sl dl)), H', m)
     | none => none
    | none => none
   | none => none
  | _, _, _ => none
 | _, _ => none
theorem aCopy_ok (hT : T.Fits P) {o : Oper} {tys : Array TypeId} {args : Array Operand} (ho : o.op = .call { callee := .builtin .copy, args, argTypes := tys }) (r : Rel σ H w) (hρ : Evals σ t ρ)
  {v : Value} {H' : AHeap} {m : Nat} (h : aCopy T t H tys args = some (v, H', m)) : Runs P (execOp ρ o) σ H w v H' m := by
 unfold aCopy at h
 split at h
 ·rename_i ty tl d s htys hargs
  obtain rfl : args = #[d, s] := by apply Array.ext'; simpa using hargs
  have hty0 : tys[0]? = some ty := by
   rw [← Array.getElem?_toList, htys]; rfl
  have hexec : execOp ρ o = (do pure (.value (← Builtin.copy_ tys o.type #[ρ d, ρ s]))) := by rw [exec_builtin ho]; simp only [builtin,List.map_toArray,List.map_cons,List.map_nil]
  split at h
  ·rename_i e da dl dc sa sl sc hu hd hs
   split at h
   ·rename_i i hi
    split at h
    ·rename_i l hl
     split at h
     ·rename_i H1 m1 hw
      cases h
      obtain ⟨d1, d2⟩ := hρ _ _ hd
      obtain ⟨s1, s2⟩ := hρ _ _ hs
      rw [okv] at d2 s2
      simp only [ren,Option.map_some] at d1 s1
      obtain ⟨n1, n2, n3⟩ := srcCells_ok r ⟨s2.1, s2.2.1⟩ hl
      obtain ⟨p, hp⟩ := Option.isSome_iff_exists.1 d2.2.1
      obtain ⟨b, sh⟩ := p
      obtain ⟨w', h5, h6, h7⟩ := aWrite_ok (P := P) r hp n2 hw
      have hadd : σ.addr da = ⟨b, sh + da.off, none⟩ := by simp [Place.addr, hp]
      have hf := run_firstCells_some (P := P) w i.size (Nat.min sl dl) (σ.addr sa) sl (σ.cap (some sa) sc) (l.map (ren σ)) (by rw [List.length_map, n1]) n3
      refine ⟨σ, w', _, ?_, .inl rfl, by simp [okv], h6, h7⟩
      rw [hexec, d1, s1]
      have hz := run_size (P := P) hT hi w
      have hu' := run_und (P := P) hT hu w
      have hrun : (Builtin.copy_ tys o.type #[.slice (some (σ.addr da)) dl (σ.cap (some da) dc), .slice (some (σ.addr sa)) sl (σ.cap (some sa) sc)]).run P w = .ok (goInt (Int.ofNat (Nat.min sl dl))) w' := by
       rw [hadd] at *
       unfold Builtin.copy_
       rw [hty0]
       simp only [List.getElem?_toArray,List.getElem?_cons_zero,List.getElem?_cons_succ]
       rw [Sem.run_bind, hu', Result.andThen_ok]
       simp only
       rw [Sem.run_bind]
       simp only [Builtin.lenOf,Sem.run_pure,Result.andThen_ok]
       rw [Sem.run_bind, hz, Result.andThen_ok, Sem.run_bind, hf, Result.andThen_ok]
       simp only
       rw [Sem.run_bind, h5]
       rfl
      simp only [Sem.run_bind,hrun,Result.andThen_ok,Sem.run_pure,ren,goInt]
     ·cases h
    ·cases h
   ·cases h
  ·cases h
 ·cases h
def aClear (T : Tab) (t : Operand → Option Value) (H : AHeap) (tys : Array TypeId) (args : Array Operand) : Option (Value × AHeap × Nat) :=
 match tys.toList, args.toList with
 | ty :: _, [x] => match T.und ty, t x with
  | some (.slice e), some (.slice a n _) => bif Nat.beq n 0 then some (.tuple #[], H, H.size) else
   match a, T.inf e with
   | some a, some i => match i.zero with
    | some z => bif allGrV (Builtin.zeroCells z.cells n).toList then
      match aWrite H a.block a.off (Builtin.zeroCells z.cells n).toList with
      | some (H', m) => some (.tuple #[], H', m)
      | none => none
     else none
    | none => none
   | _, _ => none
  | _, _ => none
 | _, _ => none
theorem aClear_ok (hT : T.Fits P) {o : Oper} {tys : Array TypeId} {args : Array Operand} (ho : o.op = .call { callee := .builtin .clear, args, argTypes := tys }) (r : Rel σ H w) (hρ : Evals σ t ρ)
  {v : Value} {H' : AHeap} {m : Nat} (h : aClear T t H tys args = some (v, H', m)) : Runs P (execOp ρ o) σ H w v H' m := by
 unfold aClear at h
 split at h
 ·rename_i ty tl x htys hargs
  obtain rfl : args = #[x] := by apply Array.ext'; simpa using hargs
  have hty0 : tys[0]? = some ty := by
   rw [← Array.getElem?_toList, htys]; rfl
  have hexec : execOp ρ o = (do pure (.value (← Builtin.clear_ tys o.type #[ρ x]))) := by rw [exec_builtin ho]; simp only [builtin,List.map_toArray,List.map_cons,List.map_nil]
  split at h
  ·rename_i e a n c hu hx
   obtain ⟨x1, x2⟩ := hρ _ _ hx
   have hP := run_und (P := P) hT hu w
   have hok : ∀ σ, okv σ (.tuple #[]) ∧ ren σ (.tuple #[]) = .tuple #[] := fun σ => ⟨by rw [okv]; intro v hv; simp at hv, by simp [ren]⟩
   cases hn : Nat.beq n 0
   ·rw [hn] at h
    simp only [cond_false] at h
    split at h
    ·rename_i a i hi
     split at h
     ·rename_i z hz
      cases hg : allGrV (Builtin.zeroCells z.cells n).toList
      ·rw [hg] at h; cases h
      ·rw [hg] at h
       simp only [cond_true] at h
       split at h
       ·rename_i H1 m1 hw
        cases h
        rw [okv] at x2
        obtain ⟨p, hp⟩ := Option.isSome_iff_exists.1 x2.2.1
        obtain ⟨b, sh⟩ := p
        obtain ⟨w', h5, h6, h7⟩ := aWrite_ok (P := P) r hp (fun v hv => (gr_ok σ (allGrV_mem hg v hv)).1) hw
        rw [allGrV_ren hg] at h5
        refine ⟨σ, w', _, ?_, .inl rfl, (hok σ).1, h6, h7⟩
        rw [(hok σ).2, hexec, x1]
        have hadd : σ.addr a = ⟨b, sh + a.off, none⟩ := by simp [Place.addr, hp]
        have hz' := run_zero (P := P) hT hi hz w
        simp only [ren,Option.map_some,hadd]
        obtain ⟨n, rfl⟩ : ∃ k, n = k + 1 := ⟨n - 1, by cases n with | zero => cases hn | succ k => rfl⟩
        simp [Builtin.clear_, hty0, Sem.run_bind, hP, hz', h5]
       ·cases h
     ·cases h
    ·cases h
   ·rw [hn] at h
    have := Nat.eq_of_beq_eq_true hn
    subst this
    cases h
    refine Runs.same r ?_ (hok σ).1
    rw [(hok σ).2, hexec, x1]
    cases a <;> simp [Builtin.clear_, hty0, Sem.run_bind, hP, ren]
  ·cases h
 ·cases h
end Go.Am
/- New blocks, at a number of one's own choice. -/
namespace Go.Am
variable {T : Tab} {P : Program} {σ : Place} {w : World} {t : Operand → Option Value} {ρ : Operand → Value}
inductive PK where
 | ptr
 | sl (l c : Nat)
 | mp
def mkV (p : PK) (k : Nat) : Value := match p with
 | .ptr => .pointer (some ⟨k, 0, none⟩)
 | .sl l c => .slice (some ⟨k, 0, none⟩) l c
 | .mp => .map (some k)
def okP : PK → Prop
 | .sl _ c => c < OPEN
 | _ => True
theorem mkV_ok (p : PK) (hp : okP p) (k b rm : Nat) : okv (σ.add k b rm) (mkV p k) ∧ ren (σ.add k b rm) (mkV p k) = mkV p b := by
 cases p with
 | ptr => exact ⟨by simp [mkV, okv, Place.add_same], by simp [mkV, ren, Place.addr, Place.add_same]⟩
 | sl l c =>
  have hc : c < OPEN := hp
  refine ⟨?_, ?_⟩
  ·rw [mkV, okv]; exact ⟨rfl, by simp [Place.add_same], fun h => by omega⟩
  ·simp [mkV, ren, Place.addr, Place.add_same, Place.cap, hc]
 | mp => exact ⟨by simp [mkV, okv, Place.add_same], by simp [mkV, ren, Place.blk, Place.add_same]⟩
theorem agree_add_of_none {k : Nat} (h : σ.at_ k = none) (b rm : Nat) : Agree σ (σ.add k b rm) := fun j p hp => by
 have hne : j ≠ k := fun e => by rw [e, h] at hp; cases hp
 exact ⟨by rw [Place.add_other σ hne]; exact hp, Place.room_other σ hne⟩
/-- What a run makes: one block, and a value that leads to it. -/
def Fresh (P : Program) (s : Sem Next) (σ : Place) (w : World) (p : PK) (blk : ABlk) : Prop :=
 okP p ∧ ∃ obj rm, s.run P w = .ok (.value (mkV p w.heap.size)) (w.alloc obj) ∧ (∃ al, blk.al = some al) ∧ ∀ k, σ.at_ k = none → Holds (σ.add k w.heap.size rm) (w.alloc obj) rm w.heap.size 0 blk
theorem Fresh.runs {s : Sem Next} {p : PK} {blk : ABlk} {H : AHeap} (h : Fresh P s σ w p blk) (r : Rel σ H w) : Runs P s σ H w (mkV p H.size) (H.alloc blk) H.size := by
 obtain ⟨hp, obj, rm, h1, h2, h3⟩ := h
 have hn : σ.at_ H.size = none := by
  cases hh : σ.at_ H.size with
  | none => rfl
  | some q => have := (r.lt H.size q.1 q.2 hh).1; omega
 obtain ⟨h4, h5⟩ := mkV_ok (σ := σ) p hp H.size w.heap.size rm
 exact ⟨_, _, _, h1, .inl (by rw [h5]), h4, r.alloc obj blk rm (h3 _ hn) (.inr h2), Ext.alloc r obj blk rm⟩
theorem row_fresh (c : List Value) (hc : ∀ v ∈ c, okv σ v) (e : TypeId) {k : Nat} (hk : σ.at_ k = none) :
  Holds (σ.add k w.heap.size c.length) (w.alloc (.cells (c.map (ren σ)).toArray e)) c.length w.heap.size 0 (.rw c e false []) := by
 have ag := agree_add_of_none hk w.heap.size c.length
 refine ⟨rfl, fun v hv => ag.okv (hc v hv), [], ?_, by simp, fun _ => rfl⟩
 rw [ag.map hc, List.append_nil]
 exact World.alloc_heap_new w _
def newAlloc (T : Tab) (e : TypeId) : Option (PK × ABlk) :=
 match T.inf e with
 | some i => match i.zero with
  | some z => bif gr z then some (.ptr, .rw z.cells.toList e false []) else none
  | none => none
 | none => none
theorem newAlloc_ok (hT : T.Fits P) {o : Oper} {e : TypeId} (ho : o.op = .alloc e) {p : PK} {blk : ABlk} (h : newAlloc T e = some (p, blk)) : Fresh P (execOp ρ o) σ w p blk := by
 unfold newAlloc at h
 split at h
 ·rename_i i hi
  split at h
  ·rename_i z hz
   cases hg : gr z
   ·simp [hg] at h
   ·simp only [hg,cond_true] at h
    cases h
    obtain ⟨h1, h2⟩ := gr_ok σ hg
    refine ⟨trivial, _, _, ?_, ⟨_, rfl⟩, fun k hk => row_fresh (σ := σ) z.cells.toList (fun v hv => okv_cells h1 v (by simpa using hv)) e hk⟩
    have hc : z.cells = z.cells.map (ren σ) := by rw [← cells_ren, h2]
    simp only [execOp,ho,Instr.alloc,Sem.run_bind,run_zero hT hi hz,Result.andThen_ok,newVar,newRow,run_newObj_alloc,Sem.run_pure,mkV]
    rw [List.map_toArray.symm, Array.toArray_toList, ← hc]
  ·cases h
 ·cases h
def newBox (t : Operand → Option Value) (e : TypeId) (x : Operand) : Option (PK × ABlk) :=
 match t x with
 | some v => some (.ptr, .rw v.cells.toList e false [])
 | none => none
theorem newBox_ok {o : Oper} {e : TypeId} {x : Operand} (ho : o.op = .box e x) (hρ : Evals σ t ρ) {p : PK} {blk : ABlk} (h : newBox t e x = some (p, blk)) : Fresh P (execOp ρ o) σ w p blk := by
 unfold newBox at h
 split at h
 ·rename_i u hx
  cases h
  obtain ⟨h1, h2⟩ := hρ _ _ hx
  refine ⟨trivial, _, _, ?_, ⟨_, rfl⟩, fun k hk => row_fresh (σ := σ) u.cells.toList (fun v hv => okv_cells h2 v (by simpa using hv)) e hk⟩
  simp only [execOp,ho,Instr.box,newVar,newRow,h1,cells_ren,Sem.run_bind,run_newObj_alloc,Result.andThen_ok,Sem.run_pure,mkV]
  rw [← List.map_toArray, Array.toArray_toList]
 ·cases h
def newRow (T : Tab) (t : Operand → Option Value) (ty : TypeId) (len : Nat) (parts : Array (Nat × Operand)) : Option (PK × ABlk) :=
 match T.und ty, aparts t parts.toList with
 | some (.slice e), some ps => match T.inf e with
  | some i =>
   bif Nat.beq (len * i.size) 0 && Nat.blt len OPEN then
    match afill (fun k => some (k * i.size, i.size)) [] ps with
    | some cs => some (.sl len len, .rw cs e false [])
    | none => none
   else
   match i.zero with
   | some z =>
    bif Nat.ble (len * i.size) 16777216 && Nat.blt len OPEN && Nat.blt 0 (len * i.size) && allGrV (madeCells z.cells (len * i.size)).toList then
     match afill (fun k => some (k * i.size, i.size)) (madeCells z.cells (len * i.size)).toList ps with
     | some cs => some (.sl len len, .rw cs e false [])
     | none => none
    else none
   | none => none
  | none => none
 | _, _ => none
theorem newRow_ok (hT : T.Fits P) {o : Oper} {ty : TypeId} {len : Nat} {parts : Array (Nat × Operand)} (ho : o.op = .buildSlice ty len parts) (hρ : Evals σ t ρ) {p : PK} {blk : ABlk}
  (h : newRow T t ty len parts = some (p, blk)) : Fresh P (execOp ρ o) σ w p blk := by
 unfold newRow at h
 split at h
 ·rename_i e ps hty hps
  split at h
  ·rename_i i hi
   cases hz0 : (Nat.beq (len * i.size) 0 && Nat.blt len OPEN)
   rotate_left
   ·rw [hz0] at h
    simp only [cond_true] at h
    simp only [Bool.and_eq_true] at hz0
    have h0 : len * i.size = 0 := Nat.eq_of_beq_eq_true hz0.1
    have hlt : len < OPEN := lt_of_blt hz0.2
    split at h
    ·rename_i cs hcs
     cases h
     obtain ⟨h1, h2⟩ := aparts_ok hρ hps
     have e1 : (parts.map fun (i, x) => (i, ρ x)).toList = ps.map (fun p => (p.1, ren σ p.2)) := by rw [← h1]; simp
     obtain ⟨h3, h4⟩ := afill_ok (σ := σ) _ _ _ _ hcs
     have hok := h4 (fun v hv => by simp at hv) h2
     refine ⟨hlt, _, _, ?_, ⟨_, rfl⟩, fun k hk => row_fresh (σ := σ) cs hok e hk⟩
     have c1 : ¬ (len * i.size > 2 ^ 24) := by omega
     simp only [List.map_nil] at h3
     simp only [execOp,ho,Instr.buildSlice,Sem.run_bind,run_und hT hty,Result.andThen_ok,run_size hT hi,c1,if_false,h0,if_true,Sem.run_pure,e1]
     have e2 : ∀ f : Nat → Value, (Array.range 0).map f = #[] := fun f => by simp
     have c0 : ¬ (0 > 2 ^ 24) := by omega
     simp only [e2,c0,if_false]
     simp only [h3,Sem.run_bind,Go.newRow,run_newObj_alloc,Result.andThen_ok,Sem.run_pure,mkV]
    ·cases h
   rw [hz0] at h
   simp only [cond_false] at h
   split at h
   ·rename_i z hz
    cases hb : (Nat.ble (len * i.size) 16777216 && Nat.blt len OPEN && Nat.blt 0 (len * i.size) && allGrV (madeCells z.cells (len * i.size)).toList)
    ·rw [hb] at h; cases h
    ·rw [hb] at h
     simp only [cond_true] at h
     simp only [Bool.and_eq_true] at hb
     obtain ⟨⟨⟨b1, b2⟩, b4⟩, b3⟩ := hb
     have hle : len * i.size ≤ 16777216 := Nat.le_of_ble_eq_true b1
     have hlt : len < OPEN := lt_of_blt b2
     have hpos : 0 < len * i.size := lt_of_blt b4
     split at h
     ·rename_i cs hcs
      cases h
      obtain ⟨h1, h2⟩ := aparts_ok hρ hps
      have e1 : (parts.map fun (i, x) => (i, ρ x)).toList = ps.map (fun p => (p.1, ren σ p.2)) := by rw [← h1]; simp
      obtain ⟨h3, h4⟩ := afill_ok (σ := σ) _ _ _ _ hcs
      rw [allGrV_ren b3, Array.toArray_toList] at h3
      have hok := h4 (fun v hv => (gr_ok σ (allGrV_mem b3 v hv)).1) h2
      refine ⟨hlt, _, _, ?_, ⟨_, rfl⟩, fun k hk => row_fresh (σ := σ) cs hok e hk⟩
      have c1 : ¬ (len * i.size > 2 ^ 24) := by omega
      have c2 : ¬ (len * i.size = 0) := by omega
      simp only [execOp,ho,Instr.buildSlice,Sem.run_bind,run_und hT hty,Result.andThen_ok,run_size hT hi,c1,c2,if_false,run_zero hT hi hz,Sem.run_pure,e1]
      simp only [madeCells] at h3
      simp only [h3,Sem.run_bind,Go.newRow,run_newObj_alloc,Result.andThen_ok,Sem.run_pure,mkV]
     ·cases h
   ·cases h
  ·cases h
 ·cases h
def newMade (T : Tab) (t : Operand → Option Value) (ty : TypeId) (x y : Operand) : Option (PK × ABlk) :=
 match T.und ty, t x, t y with
 | some (.slice e), some (.int _ l), some (.int _ c) => match T.inf e with
  | some i => match i.zero with
   | some z =>
    bif decide (0 ≤ l) && decide (l ≤ c) && decide ((i.bytes : Int) * c ≤ 281474976710656) && decide (c ≤ 9223372036854775807) && allGrV (madeCells z.cells (c.toNat * i.size)).toList then
     some (.sl l.toNat c.toNat, .rw (madeCells z.cells (c.toNat * i.size)).toList e false [])
    else none
   | none => none
  | none => none
 | _, _, _ => none
theorem newMade_ok (hT : T.Fits P) {o : Oper} {ty : TypeId} {x y : Operand} (ho : o.op = .makeSlice ty x y) (hρ : Evals σ t ρ) {p : PK} {blk : ABlk}
  (h : newMade T t ty x y = some (p, blk)) : Fresh P (execOp ρ o) σ w p blk := by
 unfold newMade at h
 split at h
 ·rename_i e kl l kc c hty hx hy
  split at h
  ·rename_i i hi
   split at h
   ·rename_i z hz
    cases hb : (decide (0 ≤ l) && decide (l ≤ c) && decide ((i.bytes : Int) * c ≤ 281474976710656) && decide (c ≤ 9223372036854775807) && allGrV (madeCells z.cells (c.toNat * i.size)).toList)
    ·rw [hb] at h; cases h
    ·rw [hb] at h
     simp only [cond_true] at h
     cases h
     simp only [Bool.and_eq_true,decide_eq_true_eq] at hb
     obtain ⟨⟨⟨⟨b1, b2⟩, b3⟩, b4⟩, b5⟩ := hb
     obtain ⟨h1, _⟩ := hρ _ _ hx
     obtain ⟨h2, _⟩ := hρ _ _ hy
     simp only [ren] at h1 h2
     have hrun := run_make (P := P) w ty e i z (hT.und _ _ hty) (hT.inf _ _ hi) hz kl kc l c b1 b2 b3 b4
     refine ⟨by show c.toNat < OPEN; unfold OPEN; omega, _, _, ?_, ⟨_, rfl⟩, fun k hk => row_fresh (σ := σ) _ (fun v hv => (gr_ok σ (allGrV_mem b5 v hv)).1) e hk⟩
     rw [allGrV_ren b5, Array.toArray_toList]
     simp [execOp, ho, h1, h2, hrun, mkV]
   ·cases h
  ·cases h
 ·cases h
def newMap : Option Operand → Option (PK × ABlk)
 | none => some (.mp, .map [] 0)
 | some _ => none
theorem newMap_ok {o : Oper} {ty : TypeId} {x : Option Operand} (ho : o.op = .makeMap ty x) {p : PK} {blk : ABlk} (h : newMap x = some (p, blk)) : Fresh P (execOp ρ o) σ w p blk := by
 cases x with
 | some x => cases h
 | none =>
  cases h
  refine ⟨trivial, .map #[] 0, 0, ?_, ⟨_, rfl⟩, fun k hk => ⟨rfl, by simp, by simpa using World.alloc_heap_new w _⟩⟩
  simp [execOp, ho, Instr.makeMap, mkV]
def anew (T : Tab) (t : Operand → Option Value) : Op → Option (PK × ABlk)
 | .alloc e => newAlloc T e
 | .box e x => newBox t e x
 | .buildSlice ty n ps => newRow T t ty n ps
 | .makeSlice ty x y => newMade T t ty x y
 | .makeMap _ x => newMap x
 | _ => none
theorem anew_ok (hT : T.Fits P) {o : Oper} (hρ : Evals σ t ρ) {p : PK} {blk : ABlk} (h : anew T t o.op = some (p, blk)) : Fresh P (execOp ρ o) σ w p blk := by
 unfold anew at h
 split at h <;> rename_i ho
 ·exact newAlloc_ok hT ho h
 ·exact newBox_ok ho hρ h
 ·exact newRow_ok hT ho hρ h
 ·exact newMade_ok hT ho hρ h
 ·exact newMap_ok ho h
 ·cases h
/-! ### In a region that draws: the block stands in the little heap already, and gets its place when the operation comes -/
structure WFrame (w w' : World) : Prop where
 size : w.heap.size ≤ w'.heap.size
 same : ∀ b, b < w.heap.size → w'.heap[b]? = w.heap[b]?
 os : w'.os = w.os
 tape : w'.tape = w.tape
 output : w'.output = w.output
def SNew (P : Program) (r : Option Nat) (o : Oper) (t : Operand → Option Value) (H : AHeap) (k : Nat) (v : Value) : Prop :=
 ∀ (F : Fence) (n : Nat) (σ : Place) (w : World) (a : Act) (K : Act → World → Prop) (Q : Exit → Act → World → Prop), Free F → Rel σ H w → Evals σ t a.eval → σ.at_ k = none →
  (∀ w' b rm, w.heap.size ≤ b → okv (σ.add k b rm) v → Rel (σ.add k b rm) H w' → WFrame w w' → K (a.put o.dst (ren (σ.add k b rm) v)) w') → o.wpIn F n P a w K Q
theorem Rel.reserve {H : AHeap} (h : Rel σ H w) (o : Obj) {k rm : Nat} (hn : σ.at_ k = none) (hk : k < H.size) (hb : Holds (σ.add k w.heap.size rm) (w.alloc o) rm w.heap.size 0 (H.get k)) :
  Rel (σ.add k w.heap.size rm) H (w.alloc o) where
 lt j b s hp := by
  by_cases e : j = k
  ·subst e; rw [Place.add_same] at hp; cases hp; simp [hk]
  ·rw [Place.add_other σ e] at hp
   have := h.lt j b s hp
   simp; omega
 holds j b s hp := by
  by_cases e : j = k
  ·subst e; rw [Place.add_same] at hp; cases hp
   rw [Place.room_same]; exact hb
  ·rw [Place.add_other σ e] at hp
   rw [Place.room_other σ e]
   exact (h.holds j b s hp).agree (agree_add_of_none hn _ _) (heap_alloc_lt w o (h.lt j b s hp).2)
 excl j j' b s s' hj hj' hne al hal := by
  by_cases e : j = k
  ·subst e; rw [Place.add_same] at hj; cases hj
   rw [Place.add_other σ (Ne.symm hne)] at hj'
   have := (h.lt _ _ _ hj').2; omega
  ·rw [Place.add_other σ e] at hj
   by_cases e' : j' = k
   ·subst e'; rw [Place.add_same] at hj'; cases hj'
    have := (h.lt _ _ _ hj).2; omega
   ·rw [Place.add_other σ e'] at hj'
    exact h.excl j j' b s s' hj hj' hne al hal
theorem Oper.not_defer_of_new {o : Oper} {p : PK} {blk : ABlk} (h : anew T t o.op = some (p, blk)) : ∀ c, o.op ≠ .defer c := by
 intro c e
 rw [e] at h; cases h
theorem SNew.of_new (hT : T.Fits P) {r : Option Nat} {o : Oper} {H : AHeap} {k : Nat} {p : PK} {blk : ABlk} (h : anew T t o.op = some (p, blk)) (hk : k < H.size) (hg : H.get k = blk) : SNew P r o t H k (mkV p k) := by
 intro F n σ w a K Q hF hR hE hn hK
 refine ⟨fun f _ => hF.1 f, ?_⟩
 rw [Oper.semAt_eq _ _ _ (Oper.not_defer_of_new h)]
 obtain ⟨hp, obj, rm, h1, h2, h3⟩ := anew_ok (P := P) (σ := σ) (w := w) hT hE h
 rw [h1]
 obtain ⟨h4, h5⟩ := mkV_ok (σ := σ) p hp k w.heap.size rm
 have := hK (w.alloc obj) w.heap.size rm (Nat.le_refl _) h4 (hR.reserve obj hn hk (by rw [hg]; exact h3 k hn)) ⟨by simp, fun b hb => heap_alloc_lt w obj hb, rfl, rfl, rfl⟩
 rw [h5] at this
 exact this
theorem Ext.reserve {σ₀ : Place} {H₀ H : AHeap} {w₀ w' : World} {m k b rm : Nat} (x : Ext σ₀ H₀ w₀ σ H w m) (hk : H₀.size ≤ k) (hb : w.heap.size ≤ b) (f : WFrame w w') : Ext σ₀ H₀ w₀ (σ.add k b rm) H w' m where
 agree j hj := by
  have hne : j ≠ k := by omega
  rw [Place.add_other σ hne, Place.room_other σ hne]; exact x.agree j hj
 hsize := x.hsize
 wsize := Nat.le_trans x.wsize f.size
 os := f.os.trans x.os
 tape := f.tape.trans x.tape
 output := f.output.trans x.output
 keep := x.keep
 frame b' hb' hn := (f.same b' (Nat.lt_of_lt_of_le hb' x.wsize)).trans (x.frame b' hb' hn)
 fresh j b' s hj hp := by
  by_cases e : j = k
  ·subst e; rw [Place.add_same] at hp; cases hp; exact .inl (Nat.le_trans x.wsize hb)
  ·rw [Place.add_other σ e] at hp; exact x.fresh j b' s hj hp
end Go.Am
/- Regions whose operations may come in another order. -/
namespace Go.Am
variable {T : Tab} {P : Program}
inductive Clo (ops : Array Oper) : Nat → Nat → Prop where
 | edge {i : Nat} {o : Oper} {e : Edge} (ho : ops[i]? = some o) (he : e ∈ o.after) (hb : Region.binds .any e = true) : Clo ops i e.on
 | trans {i j : Nat} {o : Oper} {e : Edge} (ho : ops[i]? = some o) (he : e ∈ o.after) (hb : Region.binds .any e = true) (h : Clo ops e.on j) : Clo ops i j
def tmpsOf : List Operand → List Tmp
 | [] => []
 | .tmp d :: l => d :: tmpsOf l
 | _ :: l => tmpsOf l
/-- What an operation looks at. -/
def looks (ops : Array Oper) (o : Oper) : List Tmp :=
 tmpsOf o.op.operands.toList ++ (match o.guard with
  | some (g, _) => match (ops[g]?).bind (·.dst) with
   | some d => [d]
   | none => []
  | none => [])
def memNat (d : Nat) : List Nat → Bool
 | [] => false
 | x :: l => Nat.beq d x || memNat d l
theorem memNat_iff {d : Nat} : ∀ {l : List Nat}, memNat d l = true ↔ d ∈ l
 | [] => by simp [memNat]
 | x :: l => by
  simp only [memNat,Bool.or_eq_true,memNat_iff,List.mem_cons]
  constructor
  ·rintro (h | h)
   ·exact .inl (Nat.eq_of_beq_eq_true h)
   ·exact .inr h
  ·rintro (h | h)
   ·subst h; simp
   ·exact .inr h
def maskT (o : Oper) (t : Operand → Option Value) : Operand → Option Value
 | .tmp d => bif memNat d (tmpsOf o.op.operands.toList) then t (.tmp d) else none
 | x => t x
structure Draws (P : Program) (r : Option Nat) (ops : Array Oper) (H₀ : AHeap) (R : Nat → Option Nat) (hs : List Nat) (G : Nat → AHeap) (Tm : Nat → List Value) (V : Nat → Value) (m : Nat) : Prop where
 next : ∀ (i : Nat) (o : Oper), ops[i]? = some o → Tm (i + 1) = tset (Tm i) o.dst (V i)
 edge : ∀ (i : Nat) (o : Oper) (e : Edge), ops[i]? = some o → e ∈ o.after → Region.binds .any e = true → e.on < i
 one : ∀ (i j : Nat) (oi oj : Oper) (d : Tmp), ops[i]? = some oi → ops[j]? = some oj → oi.dst = some d → oj.dst = some d → i = j
 sees : ∀ (i j : Nat) (oi oj : Oper) (d : Tmp), ops[i]? = some oi → ops[j]? = some oj → d ∈ looks ops oi → oj.dst = some d → i ≠ j → Clo ops i j ∨ Clo ops j i
 step : ∀ (i : Nat) (o : Oper), ops[i]? = some o → (awanted ops (Tm i) o = false ∧ V i = undef ∧ i ∉ hs) ∨
  (awanted ops (Tm i) o = true ∧ i ∉ hs ∧ ∀ q, q ≤ hs.length → (∀ j p, hs[j]? = some p → Clo ops i p → j < q) → (∀ j p, hs[j]? = some p → Clo ops p i → q ≤ j) →
   SOp P r o (maskT o (aval (Tm i))) (G q) (V i) (G q) (G q).size) ∨
  (awanted ops (Tm i) o = true ∧ i ∉ hs ∧ ∃ k, R i = some k ∧ ∀ q, q ≤ hs.length → (∀ j p, hs[j]? = some p → Clo ops i p → j < q) → (∀ j p, hs[j]? = some p → Clo ops p i → q ≤ j) →
   SNew P r o (maskT o (aval (Tm i))) (G q) k (V i)) ∨
  (awanted ops (Tm i) o = true ∧ ∃ j m', hs[j]? = some i ∧ m ≤ m' ∧ SOp P r o (maskT o (aval (Tm i))) (G j) (V i) (G (j + 1)) m')
 order : ∀ (a b pa pb : Nat), a < b → hs[a]? = some pa → hs[b]? = some pb → Clo ops pb pa
 low : m ≤ H₀.size
 grow : H₀.size ≤ (G 0).size
 old : ∀ k, k < H₀.size → (G 0).get k = H₀.get k
 rlow : ∀ i k, R i = some k → H₀.size ≤ k ∧ k < (G 0).size
 rone : ∀ i j k, R i = some k → R j = some k → i = j
section
variable {r : Option Nat} {ops : Array Oper} {H₀ : AHeap} {R : Nat → Option Nat} {hs : List Nat} {G : Nat → AHeap} {Tm : Nat → List Value} {V : Nat → Value} {m : Nat}
theorem Draws.clo_lt (D : Draws P r ops H₀ R hs G Tm V m) {i j : Nat} (h : Clo ops i j) : j < i := by
 induction h with
 | edge ho he hb => exact D.edge _ _ _ ho he hb
 | trans ho he hb _ ih => have := D.edge _ _ _ ho he hb; omega
def lis (listed : Array Bool) (i : Nat) : Prop := listed.getD i false = true
theorem clo_listed {listed : Array Bool} (hc : ∀ i o e, ops[i]? = some o → lis listed i → e ∈ o.after → Region.binds .any e = true → lis listed e.on) {i j : Nat} (h : Clo ops i j) : lis listed i → lis listed j := by
 induction h with
 | edge ho he hb => intro hl; exact hc _ _ _ ho hl he hb
 | trans ho he hb _ ih => intro hl; exact ih (hc _ _ _ ho hl he hb)
theorem clo_ready {listed : Array Bool} (hc : ∀ i o e, ops[i]? = some o → lis listed i → e ∈ o.after → Region.binds .any e = true → lis listed e.on) {i j : Nat} {o : Oper} (hi : ops[i]? = some o)
  (hr : ∀ e ∈ o.after, Region.binds .any e = true → lis listed e.on) (h : Clo ops i j) : lis listed j := by
 cases h with
 | edge ho he hb => rw [hi] at ho; cases ho; exact hr _ he hb
 | trans ho he hb h => rw [hi] at ho; cases ho; exact clo_listed hc h (hr _ he hb)
/-- The values in the order of the text. -/
theorem Draws.look (D : Draws P r ops H₀ R hs G Tm V m) : ∀ i, i ≤ ops.size → (Tm i).length = (Tm 0).length ∧ ∀ d, d < (Tm 0).length →
  ((∃ j o, j < i ∧ ops[j]? = some o ∧ o.dst = some d ∧ (Tm i)[d]? = some (V j)) ∨ ((∀ j o, j < i → ops[j]? = some o → o.dst ≠ some d) ∧ (Tm i)[d]? = (Tm 0)[d]?))
 | 0, _ => ⟨rfl, fun d _ => .inr ⟨fun j o hj => by omega, rfl⟩⟩
 | i + 1, hi => by
  obtain ⟨h1, h2⟩ := D.look i (by omega)
  have hlt : i < ops.size := by omega
  have ho : ops[i]? = some ops[i] := Array.getElem?_eq_getElem hlt
  rw [D.next i _ ho]
  cases hd : ops[i].dst with
  | none =>
   refine ⟨h1, fun d hdl => ?_⟩
   rcases h2 d hdl with ⟨j, o, hj, hoj, hdj, hv⟩ | ⟨hno, hv⟩
   ·exact .inl ⟨j, o, by omega, hoj, hdj, hv⟩
   ·refine .inr ⟨fun j o hj hoj => ?_, hv⟩
    by_cases e : j = i
    ·subst e; rw [ho] at hoj; cases hoj; rw [hd]; simp
    ·exact hno j o (by omega) hoj
  | some di =>
   refine ⟨by simpa [tset] using h1, fun d hdl => ?_⟩
   simp only [tset,List.getElem?_set]
   by_cases e : di = d
   ·subst e
    exact .inl ⟨i, ops[i], by omega, ho, hd, by simp [h1, hdl]⟩
   ·simp only [e,if_false]
    rcases h2 d hdl with ⟨j, o, hj, hoj, hdj, hv⟩ | ⟨hno, hv⟩
    ·exact .inl ⟨j, o, by omega, hoj, hdj, hv⟩
    ·refine .inr ⟨fun j o hj hoj => ?_, hv⟩
     by_cases e' : j = i
     ·subst e'; rw [ho] at hoj; cases hoj; rw [hd]; simpa using e
     ·exact hno j o (by omega) hoj
structure Inv (ops : Array Oper) (H₀ : AHeap) (R : Nat → Option Nat) (hs : List Nat) (G : Nat → AHeap) (Tm : Nat → List Value) (V : Nat → Value) (m : Nat) (σ₀ : Place) (w₀ : World) (ds : List Nat) (listed : Array Bool) (a : Act) (w : World) (q : Nat) (σ : Place) : Prop where
 size : listed.size = ops.size
 closed : ∀ (i : Nat) (o : Oper) (e : Edge), ops[i]? = some o → lis listed i → e ∈ o.after → Region.binds .any e = true → lis listed e.on
 le : q ≤ hs.length
 stage : ∀ j p, hs[j]? = some p → (lis listed p ↔ j < q)
 rel : Rel σ (G q) w
 ext : Ext σ₀ H₀ w₀ σ (G q) w m
 big : (G 0).size ≤ (G q).size
 unb : ∀ i k, R i = some k → ¬ lis listed i → σ.at_ k = none
 dfs : a.defers = ds.map (mark σ)
 dok : ∀ k ∈ ds, (σ.at_ k).isSome = true
 len : a.tmps.size = (Tm 0).length
 tmps : ∀ d, d < (Tm 0).length → ∃ v, a.tmps[d]? = some (ren σ v) ∧ okv σ v ∧
  ((∃ j o, ops[j]? = some o ∧ lis listed j ∧ o.dst = some d ∧ v = V j) ∨ ((∀ j o, ops[j]? = some o → lis listed j → o.dst ≠ some d) ∧ (Tm 0)[d]? = some v))
/-- What an operation that is ready sees is what it sees in the order of the text. -/
theorem Draws.seen (D : Draws P r ops H₀ R hs G Tm V m) {σ₀ : Place} {w₀ : World} {ds : List Nat} {listed : Array Bool} {a : Act} {w : World} {q : Nat} {σ : Place} (I : Inv ops H₀ R hs G Tm V m σ₀ w₀ ds listed a w q σ)
  {i : Nat} {o : Oper} (hi : ops[i]? = some o) (hn : ¬ lis listed i) (hr : ∀ e ∈ o.after, Region.binds .any e = true → lis listed e.on) {d : Tmp} (hd : d ∈ looks ops o) :
  (d < (Tm 0).length → ∃ v, a.tmps[d]? = some (ren σ v) ∧ okv σ v ∧ (Tm i)[d]? = some v) ∧ (¬ d < (Tm 0).length → a.tmps[d]? = none ∧ (Tm i)[d]? = none) := by
 have hil : i < ops.size := (Array.getElem?_eq_some_iff.1 hi).1
 obtain ⟨hlen, hlook⟩ := D.look i (by omega)
 refine ⟨fun hdl => ?_, fun hdl => ?_⟩
 rotate_left
 ·have hdl' : (Tm 0).length ≤ d := Nat.not_lt.1 hdl
  exact ⟨Array.getElem?_eq_none (by rw [I.len]; exact hdl'), List.getElem?_eq_none (by rw [hlen]; exact hdl')⟩
 obtain ⟨v, h1, h2, h3⟩ := I.tmps d hdl
 refine ⟨v, h1, h2, ?_⟩
 have key : ∀ j oj, ops[j]? = some oj → oj.dst = some d → j ≠ i → (lis listed j ↔ j < i) := by
  intro j oj hj hdj hne
  rcases D.sees i j o oj d hi hj hd hdj (Ne.symm hne) with hc | hc
  ·have hlt := D.clo_lt hc
   exact ⟨fun _ => hlt, fun _ => clo_ready I.closed hi hr hc⟩
  ·have hlt := D.clo_lt hc
   exact ⟨fun hl => absurd (clo_listed I.closed hc hl) hn, fun h => by omega⟩
 rcases h3 with ⟨j, oj, hj, hl, hdj, rfl⟩ | ⟨hno, ht0⟩
 ·have hne : j ≠ i := fun e => hn (e ▸ hl)
  have hlt := (key j oj hj hdj hne).1 hl
  rcases hlook d hdl with ⟨j', o', hj', hoj', hdj', hv⟩ | ⟨hno, _⟩
  ·have := D.one j j' oj o' d hj hoj' hdj hdj'
   subst this; exact hv
  ·exact absurd hdj (hno j oj hlt hj)
 ·rcases hlook d hdl with ⟨j', o', hj', hoj', hdj', hv⟩ | ⟨_, hv⟩
  ·have hne : j' ≠ i := by omega
   exact absurd hdj' (hno j' o' hoj' ((key j' o' hoj' hdj' hne).2 hj'))
  ·rw [hv]; exact ht0
theorem Draws.evals (D : Draws P r ops H₀ R hs G Tm V m) {σ₀ : Place} {w₀ : World} {ds : List Nat} {listed : Array Bool} {a : Act} {w : World} {q : Nat} {σ : Place} (I : Inv ops H₀ R hs G Tm V m σ₀ w₀ ds listed a w q σ)
  {i : Nat} {o : Oper} (hi : ops[i]? = some o) (hn : ¬ lis listed i) (hr : ∀ e ∈ o.after, Region.binds .any e = true → lis listed e.on) :
  Evals σ (maskT o (aval (Tm i))) a.eval := by
 intro x v hx
 cases x with
 | tmp d =>
  simp only [maskT] at hx
  cases hm : memNat d (tmpsOf o.op.operands.toList)
  ·rw [hm] at hx; cases hx
  ·rw [hm] at hx
   simp only [cond_true,aval,Option.some.injEq] at hx
   have hd : d ∈ looks ops o := List.mem_append.2 (.inl (memNat_iff.1 hm))
   obtain ⟨h1, h2⟩ := D.seen I hi hn hr hd
   by_cases hdl : d < (Tm 0).length
   ·obtain ⟨u, k1, k2, k3⟩ := h1 hdl
    have e1 : v = u := by rw [← hx]; simp [List.getD, k3]
    subst e1
    have hds : d < a.tmps.size := by rw [I.len]; exact hdl
    have : a.tmps.getD d undef = ren σ v := by
     have := (Array.getElem?_eq_some_iff.1 k1).2
     simp [Array.getD, hds, this]
    exact ⟨this, k2⟩
   ·obtain ⟨k1, k2⟩ := h2 hdl
    have e1 : v = undef := by rw [← hx]; simp [List.getD, k2]
    subst e1
    have hds : ¬ d < a.tmps.size := by rw [I.len]; exact hdl
    refine ⟨?_, okv_undef σ⟩
    rw [ren_undef]
    simp only [Act.eval]
    simp [Array.getD, hds]
 | const c =>
  simp only [maskT,aval] at hx
  cases hg : gr c
  ·rw [hg] at hx; cases hx
  ·rw [hg] at hx
   simp only [cond_true,Option.some.injEq] at hx
   subst hx
   obtain ⟨h1, h2⟩ := gr_ok σ hg
   exact ⟨by rw [h2]; rfl, h1⟩
 | global g => cases hx
 | func f =>
  simp only [maskT,aval,Option.some.injEq] at hx
  subst hx
  exact ⟨by simp [Act.eval, ren, Place.fn], by simp [okv, okfn]⟩
theorem Draws.wanted (D : Draws P r ops H₀ R hs G Tm V m) {σ₀ : Place} {w₀ : World} {ds : List Nat} {listed : Array Bool} {a : Act} {w : World} {q : Nat} {σ : Place} (I : Inv ops H₀ R hs G Tm V m σ₀ w₀ ds listed a w q σ)
  {i : Nat} {o : Oper} (hi : ops[i]? = some o) (hn : ¬ lis listed i) (hr : ∀ e ∈ o.after, Region.binds .any e = true → lis listed e.on) :
  Region.wanted o (yielded ops a.tmps) = awanted ops (Tm i) o := by
 unfold awanted Region.wanted
 cases hg : o.guard with
 | none => rfl
 | some gb =>
  obtain ⟨g, b⟩ := gb
  simp only
  congr 1
  unfold yielded ayielded
  cases hd : (ops[g]?).bind (·.dst) with
  | none => rfl
  | some d =>
   simp only [Option.bind_some]
   have hdl : d ∈ looks ops o := List.mem_append.2 (.inr (by simp [hg, hd]))
   obtain ⟨h1, h2⟩ := D.seen I hi hn hr hdl
   by_cases hlt : d < (Tm 0).length
   ·obtain ⟨v, k1, _, k3⟩ := h1 hlt
    rw [k1, k3]
    cases v <;> simp [ren]
   ·obtain ⟨k1, k2⟩ := h2 hlt
    rw [k1, k2]
theorem lis_set {listed : Array Bool} {i j : Nat} (hi : i < listed.size) : lis (listed.setIfInBounds i true) j ↔ j = i ∨ lis listed j := by
 unfold lis
 simp only [Array.getD_eq_getD_getElem?,Array.getElem?_setIfInBounds]
 by_cases e : i = j
 ·subst e; simp [hi]
 ·simp [e, Ne.symm e]
/-- One more operation is done. -/
theorem Inv.put {σ₀ : Place} {w₀ : World} {ds : List Nat} {listed : Array Bool} {a : Act} {w w' : World} {q q' : Nat} {σ σ' : Place} (D : Draws P r ops H₀ R hs G Tm V m) (I : Inv ops H₀ R hs G Tm V m σ₀ w₀ ds listed a w q σ)
  {i : Nat} {o : Oper} (hi : ops[i]? = some o) (hn : ¬ lis listed i) (hr : ∀ e ∈ o.after, Region.binds .any e = true → lis listed e.on) (hq : q' ≤ hs.length)
  (hst : ∀ j p, hs[j]? = some p → (p = i ∨ lis listed p ↔ j < q')) (hv : okv σ' (V i)) (hR : Rel σ' (G q') w') (ag : Agree σ σ') (hX : Ext σ₀ H₀ w₀ σ' (G q') w' m) (hbig : (G 0).size ≤ (G q').size) (hunb : ∀ j k, R j = some k → j ≠ i → ¬ lis listed j → σ'.at_ k = none) :
  Inv ops H₀ R hs G Tm V m σ₀ w₀ ds (listed.setIfInBounds i true) (a.put o.dst (ren σ' (V i))) w' q' σ' := by
 have hil : i < listed.size := by rw [I.size]; exact (Array.getElem?_eq_some_iff.1 hi).1
 refine ⟨by simp [I.size], ?_, hq, fun j p hp => by rw [lis_set hil]; exact hst j p hp, hR, hX, hbig, ?_, ?_, fun k hk => ag.placed (I.dok k hk), ?_, ?_⟩
 ·intro j oj e hj hl he hb
  rw [lis_set hil] at hl ⊢
  rcases hl with rfl | hl
  ·rw [hi] at hj; cases hj; exact .inr (hr e he hb)
  ·exact .inr (I.closed j oj e hj hl he hb)
 ·intro j k hj hl
  rw [lis_set hil] at hl
  exact hunb j k hj (fun e => hl (.inl e)) (fun h => hl (.inr h))
 ·have : (a.put o.dst (ren σ' (V i))).defers = a.defers := by cases o.dst <;> rfl
  rw [this, I.dfs]
  exact List.map_congr_left fun k hk => by simp [mark, ag.blk (I.dok k hk)]
 ·cases hd : o.dst <;> simp [Act.put, I.len]
 ·intro d hdl
  by_cases e : o.dst = some d
  ·refine ⟨V i, ?_, hv, .inl ⟨i, o, hi, (lis_set hil).2 (.inl rfl), e, rfl⟩⟩
   rw [e]
   simp only [Act.put,Array.getElem?_setIfInBounds]
   simp [I.len, hdl]
  ·obtain ⟨v, h1, h2, h3⟩ := I.tmps d hdl
   refine ⟨v, ?_, ag.okv h2, ?_⟩
   ·rw [ag.ren h2, ← h1]
    cases hd : o.dst with
    | none => rfl
    | some d' =>
     have : d' ≠ d := fun e' => e (by rw [hd, e'])
     simp [Act.put, Array.getElem?_setIfInBounds, this]
   ·rcases h3 with ⟨j, oj, hj, hl, hdj, rfl⟩ | ⟨hno, ht⟩
    ·exact .inl ⟨j, oj, hj, (lis_set hil).2 (.inr hl), hdj, rfl⟩
    ·refine .inr ⟨fun j oj hj hl => ?_, ht⟩
     rcases (lis_set hil).1 hl with rfl | hl
     ·rw [hi] at hj; cases hj; exact e
     ·exact hno j oj hj hl
def unl (listed : Array Bool) : List Nat → Nat
 | [] => 0
 | i :: l => (if listed.getD i false = true then 0 else 1) + unl listed l
theorem unl_le {listed : Array Bool} {i : Nat} (hi : i < listed.size) : ∀ l, unl (listed.setIfInBounds i true) l ≤ unl listed l
 | [] => Nat.le_refl _
 | j :: l => by
  have ih := unl_le hi l
  have := lis_set (j := j) hi
  unfold lis at this
  simp only [unl]
  split <;> split <;> simp_all <;> omega
theorem unl_lt {listed : Array Bool} {i : Nat} (hi : i < listed.size) (hn : ¬ lis listed i) : ∀ l, i ∈ l → unl (listed.setIfInBounds i true) l < unl listed l
 | j :: l, hm => by
  have h1 := unl_le hi l
  have h2 := lis_set (j := j) hi
  by_cases e : j = i
  ·subst e
   have h3 : lis (listed.setIfInBounds j true) j := h2.2 (.inl rfl)
   unfold lis at h3 hn
   simp only [unl,h3,hn,if_true]
   simp; omega
  ·have hm' : i ∈ l := by
    rcases List.mem_cons.1 hm with h | h
    ·exact absurd h.symm e
    ·exact h
   have ih := unl_lt hi hn l hm'
   have h4 : (listed.setIfInBounds i true).getD j false = listed.getD j false := by
    simp only [Array.getD_eq_getD_getElem?,Array.getElem?_setIfInBounds]
    simp [Ne.symm e]
   simp only [unl,h4]
   omega
theorem unl_zero {listed : Array Bool} : ∀ {l : List Nat}, unl listed l = 0 → ∀ i ∈ l, lis listed i
 | j :: l, h, i, hi => by
  simp only [unl] at h
  rcases List.mem_cons.1 hi with rfl | hi
  ·unfold lis
   by_cases hh : listed.getD i false = true
   ·exact hh
   ·rw [if_neg hh] at h; omega
  ·exact unl_zero (by omega) i hi
theorem mem_ready {listed : Array Bool} {i : Nat} (hsz : listed.size = ops.size) : i ∈ Region.ready .any ops listed ↔ ∃ o, ops[i]? = some o ∧ ¬ lis listed i ∧ ∀ e ∈ o.after, Region.binds .any e = true → lis listed e.on := by
 unfold Region.ready lis
 simp only [List.mem_filter,List.mem_range,Bool.and_eq_true,Bool.not_eq_true']
 constructor
 ·rintro ⟨h1, h2, h3⟩
  have ho : ops[i]? = some ops[i] := Array.getElem?_eq_getElem h1
  refine ⟨ops[i], ho, ?_, ?_⟩
  ·have hl : i < listed.size := by omega
   simp only [Array.getD,hl] at h2 ⊢
   simpa using h2
  ·rw [ho] at h3
   simp only [Option.map_some,Option.getD_some] at h3
   intro e he hb
   have := (Array.all_eq_true_iff_forall_mem.1 h3) e he
   simpa [hb] using this
 ·rintro ⟨o, ho, h2, h3⟩
  have h1 : i < ops.size := (Array.getElem?_eq_some_iff.1 ho).1
  refine ⟨h1, ?_, ?_⟩
  ·have hl : i < listed.size := by omega
   simp only [Array.getD,hl] at h2 ⊢
   simpa using h2
  ·rw [ho]
   simp only [Option.map_some,Option.getD_some]
   refine Array.all_eq_true_iff_forall_mem.2 fun e he => ?_
   cases hb : Region.binds .any e
   ·simp
   ·simpa using h3 e he hb
theorem Draws.all_of_ready (D : Draws P r ops H₀ R hs G Tm V m) {listed : Array Bool} (hsz : listed.size = ops.size) (h : Region.ready .any ops listed = []) : ∀ i, i < ops.size → lis listed i := by
 intro i
 induction i using Nat.strongRecOn with
 | _ i ih =>
  intro hi
  by_cases hl : lis listed i
  ·exact hl
  ·have ho : ops[i]? = some ops[i] := Array.getElem?_eq_getElem hi
   have : i ∈ Region.ready .any ops listed := (mem_ready hsz).2 ⟨ops[i], ho, hl, fun e he hb => ih e.on (D.edge i _ e ho he hb) (Nat.lt_trans (D.edge i _ e ho he hb) hi)⟩
   rw [h] at this; cases this
theorem Draws.finish (D : Draws P r ops H₀ R hs G Tm V m) {σ₀ : Place} {w₀ : World} {ds : List Nat} {listed : Array Bool} {a : Act} {w : World} {q : Nat} {σ : Place} (I : Inv ops H₀ R hs G Tm V m σ₀ w₀ ds listed a w q σ)
  (hall : ∀ i, i < ops.size → lis listed i) (hhs : ∀ p ∈ hs, p < ops.size) : SPost σ₀ ⟨Tm 0, H₀, ds⟩ w₀ .normal ⟨Tm ops.size, G hs.length, ds⟩ m .normal a w := by
 have hq : q = hs.length := by
  have := I.le
  by_cases e : q = hs.length
  ·exact e
  ·have hlt : q < hs.length := by omega
   have hp : hs[q]? = some hs[q] := List.getElem?_eq_getElem hlt
   have := (I.stage q _ hp).1 (hall _ (hhs _ (List.getElem_mem hlt)))
   omega
 subst hq
 obtain ⟨hlen, hlook⟩ := D.look ops.size (Nat.le_refl _)
 have hval : ∀ d, d < (Tm 0).length → ∃ v, (Tm ops.size)[d]? = some v ∧ a.tmps[d]? = some (ren σ v) ∧ okv σ v := by
  intro d hdl
  obtain ⟨v, h1, h2, h3⟩ := I.tmps d hdl
  refine ⟨v, ?_, h1, h2⟩
  rcases h3 with ⟨j, oj, hj, _, hdj, rfl⟩ | ⟨hno, ht⟩
  ·rcases hlook d hdl with ⟨j', o', hj', hoj', hdj', hv⟩ | ⟨hno, _⟩
   ·have := D.one j j' oj o' d hj hoj' hdj hdj'
    subst this; exact hv
   ·exact absurd hdj (hno j oj (Array.getElem?_eq_some_iff.1 hj).1 hj)
  ·rcases hlook d hdl with ⟨j', o', hj', hoj', hdj', _⟩ | ⟨_, hv⟩
   ·exact absurd hdj' (hno j' o' hoj' (hall j' hj'))
   ·rw [hv]; exact ht
 refine ⟨rfl, σ, ⟨?_, ?_, I.dfs, I.dok⟩, I.rel, I.ext⟩
 ·apply Array.ext'
  apply List.ext_getElem?
  intro d
  simp only [Array.getElem?_toList,List.getElem?_map]
  by_cases hdl : d < (Tm 0).length
  ·obtain ⟨v, h1, h2, _⟩ := hval d hdl
   rw [h1, h2]; rfl
  ·have hdl' : (Tm 0).length ≤ d := Nat.not_lt.1 hdl
   rw [Array.getElem?_eq_none (by rw [I.len]; exact hdl'), List.getElem?_eq_none (by show (Tm ops.size).length ≤ d; rw [hlen]; exact hdl')]; rfl
 ·intro v hv
  obtain ⟨d, hd⟩ := List.getElem?_of_mem hv
  have hdl : d < (Tm 0).length := by
   have h := (List.getElem?_eq_some_iff.1 hd).1
   exact hlen ▸ h
  obtain ⟨u, h1, _, h3⟩ := hval d hdl
  rw [h1] at hd; cases hd; exact h3
theorem Draws.any (D : Draws P r ops H₀ R hs G Tm V m) (hhs : ∀ p ∈ hs, p < ops.size) {F : Fence} {n : Nat} (hF : Free F) {σ₀ : Place} {w₀ : World} {ds : List Nat} (hr0 : InR r σ₀ F) (hR0 : Rel σ₀ H₀ w₀) :
  ∀ (fuel : Nat) (listed : Array Bool) (a : Act) (w : World) (q : Nat) (σ : Place), Inv ops H₀ R hs G Tm V m σ₀ w₀ ds listed a w q σ → unl listed (List.range ops.size) ≤ fuel →
   wpAnyIn F n P .any ops (SPost σ₀ ⟨Tm 0, H₀, ds⟩ w₀ .normal ⟨Tm ops.size, G hs.length, ds⟩ m) fuel listed a w
 | 0, listed, a, w, q, σ, I, hu => by
  have hall : ∀ i, i < ops.size → lis listed i := fun i hi => unl_zero (by omega) i (List.mem_range.2 hi)
  refine ⟨?_, D.finish I hall hhs⟩
  apply List.eq_nil_iff_forall_not_mem.2
  intro i hi
  obtain ⟨o, ho, hn, _⟩ := (mem_ready I.size).1 hi
  exact hn (hall i (Array.getElem?_eq_some_iff.1 ho).1)
 | fuel + 1, listed, a, w, q, σ, I, hu => by
  refine ⟨fun h => D.finish I (D.all_of_ready I.size h) hhs, fun i hi => ?_⟩
  obtain ⟨o, ho, hn, hr⟩ := (mem_ready I.size).1 hi
  have hil : i < listed.size := by rw [I.size]; exact (Array.getElem?_eq_some_iff.1 ho).1
  have hu' : unl (listed.setIfInBounds i true) (List.range ops.size) ≤ fuel := by
   have := unl_lt hil hn (List.range ops.size) (List.mem_range.2 (by rw [← I.size]; exact hil))
   omega
  unfold wpOpIn
  rw [ho]
  simp only [D.wanted I ho hn hr]
  have agI := I.ext.agr hR0
  have same : ∀ j p, hs[j]? = some p → i ∉ hs → (p = i ∨ lis listed p ↔ j < q) := fun j p hp hni => by
   have : p ≠ i := fun e => hni (e ▸ List.mem_of_getElem? hp)
   simp only [this,false_or]; exact I.stage j p hp
  have lowq : m ≤ (G q).size := Nat.le_trans D.low I.ext.hsize
  have comp : ∀ {q' : Nat} {σ' : Place} {w' : World} {m' : Nat}, Ext σ (G q) w σ' (G q') w' m' → m ≤ m' → Agree σ σ' ∧ Ext σ₀ H₀ w₀ σ' (G q') w' m ∧ (G 0).size ≤ (G q').size ∧ ∀ j k, R j = some k → j ≠ i → ¬ lis listed j → σ'.at_ k = none := fun {q' σ' w' m'} x hm => by
   refine ⟨x.agr I.rel, ?_, Nat.le_trans I.big x.hsize, fun j k hj _ hl => ?_⟩
   ·have := I.ext.trans x
    exact this.weaken (by omega)
   ·rw [(x.agree k (Nat.lt_of_lt_of_le (D.rlow j k hj).2 I.big)).1]; exact I.unb j k hj hl
  rcases D.step i o ho with ⟨hw, hv, hni⟩ | ⟨hw, hni, hop⟩ | ⟨hw, hni, k, hk, hop⟩ | ⟨hw, j, m', hj, hm', hop⟩
  ·simp only [hw,Bool.false_eq_true,if_false]
   refine ⟨fun f _ => hF.1 f, ?_⟩
   have hp := I.put D ho hn hr I.le (fun j p hp => same j p hp hni) (by rw [hv]; exact okv_undef σ) I.rel (Agree.refl σ) I.ext I.big (fun j k hj _ hl => I.unb j k hj hl)
   rw [hv, ren_undef] at hp
   exact D.any hhs hF hr0 hR0 fuel _ _ w q σ hp hu'
  ·simp only [hw,if_true]
   refine hop q I.le (fun j p hp hc => (I.stage j p hp).1 (clo_ready I.closed ho hr hc)) (fun j p hp hc => ?_) F n σ w a _ _ hF (hr0.agree agI) I.rel (D.evals I ho hn hr) ?_
   ·rcases Nat.lt_or_ge j q with h' | h'
    ·exact absurd (clo_listed I.closed hc ((I.stage j p hp).2 h')) hn
    ·exact h'
   ·intro σ' w' k1 k2 k3
    obtain ⟨c1, c2, c3, c4⟩ := comp k3 lowq
    exact D.any hhs hF hr0 hR0 fuel _ _ w' q σ' (I.put D ho hn hr I.le (fun j p hp => same j p hp hni) k1 k2 c1 c2 c3 c4) hu'
  ·simp only [hw,if_true]
   have hkn : σ.at_ k = none := I.unb i k hk hn
   refine hop q I.le (fun j p hp hc => (I.stage j p hp).1 (clo_ready I.closed ho hr hc)) (fun j p hp hc => ?_) F n σ w a _ _ hF I.rel (D.evals I ho hn hr) hkn ?_
   ·rcases Nat.lt_or_ge j q with h' | h'
    ·exact absurd (clo_listed I.closed hc ((I.stage j p hp).2 h')) hn
    ·exact h'
   ·intro w' b rm k0 k1 k2 k3
    have ag := agree_add_of_none hkn b rm
    refine D.any hhs hF hr0 hR0 fuel _ _ w' q _ (I.put D ho hn hr I.le (fun j p hp => same j p hp hni) k1 k2 ag (I.ext.reserve (D.rlow i k hk).1 k0 k3) I.big (fun j k' hj hne hl => ?_)) hu'
    rw [Place.add_other σ (fun (e : k' = k) => hne (D.rone j i k (by rw [← e]; exact hj) hk))]
    exact I.unb j k' hj hl
  ·simp only [hw,if_true]
   have hjlt : j < hs.length := (List.getElem?_eq_some_iff.1 hj).1
   have hqj : q = j := by
    have h1 : ¬ j < q := fun h => hn ((I.stage j i hj).2 h)
    rcases Nat.lt_or_ge q j with h' | h'
    ·have hlt : q < hs.length := by omega
     have hp : hs[q]? = some hs[q] := List.getElem?_eq_getElem hlt
     have := (I.stage q _ hp).1 (clo_ready I.closed ho hr (D.order q j _ i h' hp hj))
     omega
    ·omega
   subst hqj
   refine hop F n σ w a _ _ hF (hr0.agree agI) I.rel (D.evals I ho hn hr) ?_
   intro σ' w' k1 k2 k3
   obtain ⟨c1, c2, c3, c4⟩ := comp k3 hm'
   refine D.any hhs hF hr0 hR0 fuel _ _ w' (q + 1) σ' (I.put D ho hn hr (by omega) (fun j p hp => ?_) k1 k2 c1 c2 c3 c4) hu'
   constructor
   ·rintro (rfl | hl)
    ·rcases Nat.lt_trichotomy j q with h' | h' | h'
     ·omega
     ·omega
     ·have := D.clo_lt (D.order q j _ _ h' hj hp); omega
    ·have := (I.stage j p hp).1 hl; omega
   ·intro h'
    by_cases e : j = q
    ·subst e; rw [hj] at hp; cases hp; exact .inl rfl
    ·exact .inr ((I.stage j p hp).2 (by omega))
theorem Draws.rel0 (D : Draws P r ops H₀ R hs G Tm V m) {σ : Place} {w : World} (h : Rel σ H₀ w) : Rel σ (G 0) w where
 lt k b s hp := ⟨Nat.lt_of_lt_of_le (h.lt k b s hp).1 D.grow, (h.lt k b s hp).2⟩
 holds k b s hp := by rw [D.old k (h.lt k b s hp).1]; exact h.holds k b s hp
 excl k k' b s s' hk hk' hne al hal := by
  rw [D.old k (h.lt k b s hk).1] at hal
  rw [D.old k' (h.lt k' b s' hk').1]
  exact h.excl k k' b s s' hk hk' hne al hal
theorem Draws.unplaced (D : Draws P r ops H₀ R hs G Tm V m) {σ : Place} {w : World} (h : Rel σ H₀ w) {i k : Nat} (hk : R i = some k) : σ.at_ k = none := by
 cases hh : σ.at_ k with
 | none => rfl
 | some q => have := (h.lt k q.1 q.2 hh).1; have := (D.rlow i k hk).1; omega
theorem Draws.ext0 (D : Draws P r ops H₀ R hs G Tm V m) {σ : Place} {w : World} (h : Rel σ H₀ w) : Ext σ H₀ w σ (G 0) w.drew m where
 agree _ _ := ⟨rfl, rfl⟩
 hsize := D.grow
 wsize := Nat.le_refl _
 os := rfl
 tape := rfl
 output := rfl
 keep k _ hk := D.old k hk
 frame _ _ _ := rfl
 fresh k b s hk hp := by have := (h.lt k b s hp).1; omega
theorem SCode.region_draw (hmix : P.follows .mixedOrders = true) (D : Draws P r ops H₀ R hs G Tm V m) (hhs : ∀ p ∈ hs, p < ops.size) {id : Nat} {ds : List Nat} :
  SCode P r (.region id ops true) ⟨Tm 0, H₀, ds⟩ .normal ⟨Tm ops.size, G hs.length, ds⟩ m := by
 intro F n σ w a hF hr hR hA
 have hR0 : Rel σ H₀ w := hR
 have hR' : Rel σ (G 0) w.drew := D.rel0 (hR0.heap_eq rfl)
 have hX : Ext σ H₀ w σ (G 0) w.drew m := D.ext0 hR0
 refine wpIn_region_any hmix ?_
 have hno : ∀ i, ¬ lis (Array.replicate ops.size false) i := by
  intro i
  unfold lis
  by_cases hi : i < ops.size <;> simp [Array.getD, hi]
 refine D.any hhs hF hr hR _ _ _ _ 0 σ ⟨by simp, fun i o e _ hl => absurd hl (hno i), by omega, fun j p _ => ⟨fun h => absurd h (hno p), fun h => by omega⟩, hR', hX, Nat.le_refl _, fun i k hk _ => D.unplaced hR0 hk, hA.ds, hA.dok, ?_, ?_⟩ ?_
 ·rw [hA.tmps]; simp
 ·intro d hd
  refine ⟨(Tm 0)[d], ?_, hA.ok _ (List.getElem_mem hd), .inr ⟨fun j o _ hl => absurd hl (hno j), List.getElem?_eq_getElem hd⟩⟩
  rw [hA.tmps]; simp [hd]
 ·have : ∀ l, unl (Array.replicate ops.size false) l = l.length := by
   intro l
   induction l with
   | nil => rfl
   | cons i l ih =>
    have := hno i
    unfold lis at this
    simp only [unl,this,if_false,ih,List.length_cons]
    simp; omega
  rw [this]; simp
end
end Go.Am
/- Maps. -/
namespace Go.Am
variable {T : Tab} {P : Program} {σ : Place} {H : AHeap} {w : World} {t : Operand → Option Value} {ρ : Operand → Value}
def wr (σ : Place) (e : Value × Value × Nat) : MapEntry := { key := ren σ e.1, val := ren σ e.2.1, born := e.2.2 }
theorem sameNow_ren (d : TypeDesc) (k v : Value) : Instr.sameNow d k (ren σ v) = Instr.sameNow d k v := by
 cases d <;> cases k <;> cases v <;> simp [ren, Instr.sameNow]
def aFindNow (d : TypeDesc) (k : Value) : List (Value × Value × Nat) → Nat → Option (Option (Nat × Value))
 | [], _ => some none
 | e :: es, i => match Instr.sameNow d k e.1 with
  | some true => some (some (i, e.2.1))
  | some false => aFindNow d k es (i + 1)
  | none => none
def renQ (σ : Place) (q : Option (Nat × Value)) : Option (Nat × Value) := q.map fun p => (p.1, ren σ p.2)
theorem findNow_eq (d : TypeDesc) (k : Value) : ∀ (es : List (Value × Value × Nat)) (i : Nat), Instr.findNow d k (es.map (wr σ)) i = (aFindNow d k es i).map (renQ σ)
 | [], i => rfl
 | e :: es, i => by
  have h1 : Instr.sameNow d k (wr σ e).key = Instr.sameNow d k e.1 := sameNow_ren d k e.1
  simp only [List.map_cons,Instr.findNow,aFindNow]
  rw [h1]
  split
  ·rename_i h; simp only [h]; rfl
  ·rename_i h; simp only [h]; exact findNow_eq d k es (i + 1)
  ·rename_i h; simp only [h]; rfl
theorem aFindNow_mem (d : TypeDesc) (k : Value) : ∀ (es : List (Value × Value × Nat)) (i j : Nat) (v : Value), aFindNow d k es i = some (some (j, v)) → i ≤ j ∧ ∃ e, es[j - i]? = some e ∧ v = e.2.1
 | [], i, j, v, h => by simp [aFindNow] at h
 | e :: es, i, j, v, h => by
  simp only [aFindNow] at h
  split at h
  ·cases h; exact ⟨Nat.le_refl _, e, by simp, rfl⟩
  ·obtain ⟨h1, e', h2, h3⟩ := aFindNow_mem d k es (i + 1) j v h
   refine ⟨by omega, e', ?_, h3⟩
   have : j - i = (j - (i + 1)) + 1 := by omega
   rw [this, List.getElem?_cons_succ]; exact h2
  ·cases h
def aFind (P : Program) (kt : TypeId) (k : Value) : List (Value × Value × Nat) → Nat → Option (Option (Nat × Value))
 | [], _ => some none
 | e :: es, i => bif gr e.1 then match pureRun P (Op.equal kt k e.1) with
   | some true => some (some (i, e.2.1))
   | some false => aFind P kt k es (i + 1)
   | none => none
  else none
theorem aFind_ok (kt : TypeId) (k : Value) : ∀ (es : List (Value × Value × Nat)) (i : Nat) (q : Option (Nat × Value)), aFind P kt k es i = some q →
  (Instr.findAsking kt k (es.map (wr σ)) i).run P w = .ok (renQ σ q) w
 | [], i, q, h => by simp only [aFind,Option.some.injEq] at h; subst h; simp [Instr.findAsking, renQ]
 | e :: es, i, q, h => by
  simp only [aFind] at h
  cases hg : gr e.1
  ·rw [hg] at h; cases h
  ·rw [hg] at h
   simp only [cond_true] at h
   have hk : (wr σ e).key = e.1 := (gr_ok σ hg).2
   split at h
   ·rename_i hp
    cases h
    simp only [List.map_cons,Instr.findAsking,Sem.run_bind]
    rw [hk, pureRun_run hp w]
    simp [renQ, wr]
   ·rename_i hp
    simp only [List.map_cons,Instr.findAsking,Sem.run_bind]
    rw [hk, pureRun_run hp w]
    simpa using aFind_ok kt k es (i + 1) q h
   ·cases h
theorem aFind_mem (kt : TypeId) (k : Value) : ∀ (es : List (Value × Value × Nat)) (i j : Nat) (v : Value), aFind P kt k es i = some (some (j, v)) → i ≤ j ∧ ∃ e, es[j - i]? = some e ∧ v = e.2.1
 | [], i, j, v, h => by simp [aFind] at h
 | e :: es, i, j, v, h => by
  simp only [aFind] at h
  cases hg : gr e.1
  ·rw [hg] at h; cases h
  ·rw [hg] at h
   simp only [cond_true] at h
   split at h
   ·cases h; exact ⟨Nat.le_refl _, e, by simp, rfl⟩
   ·obtain ⟨h1, e', h2, h3⟩ := aFind_mem kt k es (i + 1) j v h
    refine ⟨by omega, e', ?_, h3⟩
    have : j - i = (j - (i + 1)) + 1 := by omega
    rw [this, List.getElem?_cons_succ]; exact h2
   ·cases h
def aFindKey (T : Tab) (P : Program) (kt : TypeId) (k : Value) (es : List (Value × Value × Nat)) : Option (Option (Nat × Value)) :=
 match T.und kt with
 | some d => match aFindNow d k es 0 with
  | some q => some q
  | none => aFind P kt k es 0
 | none => none
theorem aFindKey_ok (hT : T.Fits P) {kt : TypeId} {k : Value} {es : List (Value × Value × Nat)} {q : Option (Nat × Value)} (h : aFindKey T P kt k es = some q) :
  (Instr.findKey kt k (es.map (wr σ))).run P w = .ok (renQ σ q) w ∧ ∀ i v, q = some (i, v) → ∃ e, es[i]? = some e ∧ v = e.2.1 := by
 unfold aFindKey at h
 split at h
 ·rename_i d hd
  split at h
  ·rename_i q' hq
   cases h
   refine ⟨?_, fun i v e => ?_⟩
   ·have hn : Instr.findNow d k (es.map (wr σ)) 0 = some (renQ σ q) := by rw [findNow_eq, hq]; rfl
    simp only [Instr.findKey,Sem.run_bind,run_und hT hd,Result.andThen_ok,hn,Sem.run_pure]
   ·subst e
    obtain ⟨_, e, h1, h2⟩ := aFindNow_mem d k es 0 i v hq
    exact ⟨e, h1, h2⟩
  ·rename_i hq
   refine ⟨?_, fun i v e => ?_⟩
   ·have hn : Instr.findNow d k (es.map (wr σ)) 0 = none := by rw [findNow_eq, hq]; rfl
    simp only [Instr.findKey,Sem.run_bind,run_und hT hd,Result.andThen_ok,hn]
    exact aFind_ok kt k es 0 q h
   ·subst e
    obtain ⟨_, e, h1, h2⟩ := aFind_mem kt k es 0 i v h
    exact ⟨e, h1, h2⟩
 ·cases h
def aMapOf (H : AHeap) : Value → Option (List (Value × Value × Nat))
 | .map none => some []
 | .map (some k) => match H.get k with
  | .map es _ => some es
  | _ => none
 | _ => none
def aLookup (T : Tab) (P : Program) (t : Operand → Option Value) (H : AHeap) (ty : TypeId) (x ix : Operand) (ok : Bool) : Option (Value × AHeap × Nat) :=
 match T.und ty, t x, t ix with
 | some (.map kt e), some mv, some k => match aMapOf H mv with
  | some es => bif gr k then
    match pureRun P (Instr.checkKey es.isEmpty 10000 kt k), aFindKey T P kt k es with
    | some (), some (some (_, v)) => some (bif ok then .tuple #[v, .bool true] else v, H, H.size)
    | some (), some none => match T.inf e with
     | some inf => match inf.zero with
      | some z => bif gr z then some (bif ok then .tuple #[z, .bool false] else z, H, H.size) else none
      | none => none
     | none => none
    | _, _ => none
   else none
  | none => none
 | _, _, _ => none
theorem run_getMap {k b s : Nat} {es : List (Value × Value × Nat)} {clock : Nat} (r : Rel σ H w) (hp : σ.at_ k = some (b, s)) (hg : H.get k = .map es clock) :
  (getObj b).run P w = .ok (.map (es.map (wr σ)).toArray clock) w := by
 have hh := r.holds k b s hp
 rw [hg] at hh
 have e : es.map (wr σ) = es.map fun e => { key := ren σ e.1, val := ren σ e.2.1, born := e.2.2 } := rfl
 rw [e]
 simp [getObj, Sem.run, hh.2.2]
theorem aMapOf_ok (r : Rel σ H w) {mv : Value} (hv : okv σ mv) {es : List (Value × Value × Nat)} (h : aMapOf H mv = some es) :
  (∀ e ∈ es, okv σ e.1 ∧ okv σ e.2.1) ∧ ((ren σ mv = .map none ∧ es = []) ∨ ∃ b clock, ren σ mv = .map (some b) ∧ (getObj b).run P w = .ok (.map (es.map (wr σ)).toArray clock) w) := by
 unfold aMapOf at h
 split at h
 ·cases h
  exact ⟨by simp, .inl ⟨by simp [ren], rfl⟩⟩
 ·rename_i k
  split at h
  ·rename_i es' clock hg
   cases h
   rw [okv] at hv
   obtain ⟨p, hp⟩ := Option.isSome_iff_exists.1 hv
   obtain ⟨b, s⟩ := p
   have hh := r.holds k b s hp
   rw [hg] at hh
   have hbl : σ.blk k = b := by simp [Place.blk, hp]
   exact ⟨hh.2.1, .inr ⟨b, clock, by simp [ren, hbl], run_getMap r hp hg⟩⟩
  ·cases h
 ·cases h
def qv (σ : Place) (q : Option (Nat × Value)) (z : Value) : Value := match q with
 | some p => ren σ p.2
 | none => z
theorem aLookup_ok (hT : T.Fits P) {o : Oper} {ty : TypeId} {x ix : Operand} {ok : Bool} (ho : o.op = .lookup ty x ix ok) (r : Rel σ H w) (hρ : Evals σ t ρ) {v : Value} {H' : AHeap} {m : Nat}
  (h : aLookup T P t H ty x ix ok = some (v, H', m)) : Runs P (execOp ρ o) σ H w v H' m := by
 unfold aLookup at h
 split at h
 ·rename_i kt e mv k hty hx hix
  split at h
  ·rename_i es hes
   cases hg : gr k
   ·rw [hg] at h; cases h
   ·rw [hg] at h
    simp only [cond_true] at h
    obtain ⟨x1, x2⟩ := hρ _ _ hx
    obtain ⟨k1, _⟩ := hρ _ _ hix
    rw [(gr_ok σ hg).2] at k1
    obtain ⟨m1, m2⟩ := aMapOf_ok (P := P) r x2 hes
    have hemp : (es.map (wr σ)).toArray.isEmpty = es.isEmpty := by simp [Array.isEmpty, List.isEmpty_iff]; cases es <;> simp
    have main : ∀ (q : Option (Nat × Value)) (z : Value), pureRun P (Instr.checkKey es.isEmpty 10000 kt k) = some () → aFindKey T P kt k es = some q → (q = none → (zeroValue e).run P w = .ok z w) →
      (execOp ρ o).run P w = .ok (.value (if ok then .tuple #[qv σ q z, .bool q.isSome] else qv σ q z)) w := by
     intro q z hck hfk hz
     obtain ⟨f1, _⟩ := aFindKey_ok (σ := σ) (w := w) hT hfk
     have hlook : (Instr.lookup ty (ren σ mv) k ok).run P w = .ok (if ok then .tuple #[qv σ q z, .bool q.isSome] else qv σ q z) w := by
      unfold Instr.lookup
      rw [Sem.run_bind, run_und hT hty, Result.andThen_ok]
      rcases m2 with ⟨e1, rfl⟩ | ⟨b, clock, e1, e2⟩
      ·rw [e1]
       simp only [Sem.run_bind,Sem.run_pure,Result.andThen_ok]
       have c1 := pureRun_run hck w
       simp only [List.isEmpty_nil] at c1
       simp only [List.map_nil] at f1
       have c2 : (#[] : Array MapEntry).isEmpty = true := rfl
       simp only [c2,c1,Result.andThen_ok,f1]
       cases q with
       | none => simp [renQ, Sem.run_bind, hz rfl, qv]
       | some p => simp [renQ, qv]
      ·rw [e1]
       simp only [Sem.run_bind,e2,Sem.run_pure,Result.andThen_ok,hemp,pureRun_run hck,f1]
       cases q with
       | none => simp [renQ, Sem.run_bind, hz rfl, qv]
       | some p => simp [renQ, qv]
     simp only [execOp,ho,x1,k1,Sem.run_bind,hlook,Result.andThen_ok,Sem.run_pure]
    split at h
    ·rename_i i u hck hfk
     cases h
     have := main (some (i, u)) undef hck hfk (fun e => by cases e)
     obtain ⟨_, f2⟩ := aFindKey_ok (σ := σ) (w := w) hT hfk
     obtain ⟨en, e1, e2⟩ := f2 i u rfl
     have hu : okv σ u := e2 ▸ (m1 en (List.mem_of_getElem? e1)).2
     cases ok
     ·exact Runs.same r (by rw [this]; simp [qv]) hu
     ·refine Runs.same r ?_ (by simp only [cond_true]; rw [okv]; intro v hv; simp at hv; rcases hv with rfl | rfl; exact hu; simp [okv])
      rw [this]; simp [ren, qv]
    ·rename_i hck hfk
     split at h
     ·rename_i inf hi
      split at h
      ·rename_i z hz
       cases hgz : gr z
       ·rw [hgz] at h; cases h
       ·rw [hgz] at h
        cases h
        obtain ⟨z1, z2⟩ := gr_ok σ hgz
        have := main none z hck hfk (fun _ => run_zero hT hi hz w)
        cases ok
        ·refine Runs.same r ?_ z1
         rw [this]; simp [z2, qv]
        ·refine Runs.same r ?_ (by simp only [cond_true]; rw [okv]; intro v hv; simp at hv; rcases hv with rfl | rfl; exact z1; simp [okv])
         rw [this]; simp [ren, z2, qv]
      ·cases h
     ·cases h
    ·cases h
  ·cases h
 ·cases h
def aUpdate (T : Tab) (P : Program) (t : Operand → Option Value) (H : AHeap) (ty : TypeId) (x ix y : Operand) : Option (Value × AHeap × Nat) :=
 match T.und ty, t x, t ix, t y with
 | some (.map kt _), some (.map (some b)), some k, some v => match H.get b with
  | .map es clock => bif gr k then
    match pureRun P (Instr.checkKey false 10000 kt k), aFindKey T P kt k es with
    | some (), some (some (i, _)) => match es[i]? with
     | some en => bif gr en.1 && Instr.sameBits 10000 en.1 k then some (undef, H.put b (.map (es.set i (k, v, en.2.2)) clock), b) else none
     | none => none
    | some (), some none => some (undef, H.put b (.map (es ++ [(k, v, clock)]) (clock + 1)), b)
    | _, _ => none
   else none
  | _ => none
 | _, _, _, _ => none
theorem aUpdate_ok (hT : T.Fits P) {o : Oper} {ty : TypeId} {x ix y : Operand} (ho : o.op = .mapUpdate ty x ix y ∨ o.op = .insert ty x ix y) (r : Rel σ H w) (hρ : Evals σ t ρ) {v : Value} {H' : AHeap} {m : Nat}
  (h : aUpdate T P t H ty x ix y = some (v, H', m)) : Runs P (execOp ρ o) σ H w v H' m := by
 have hexec : execOp ρ o = (do Instr.mapUpdate ty (ρ x) (ρ ix) (ρ y); pure .skip) := by
  rcases ho with ho | ho <;> simp [execOp, ho]
 unfold aUpdate at h
 split at h
 ·rename_i kt et b k u hty hx hix hy
  split at h
  ·rename_i es clock hgb
   cases hg : gr k
   ·rw [hg] at h; cases h
   ·rw [hg] at h
    simp only [cond_true] at h
    obtain ⟨x1, x2⟩ := hρ _ _ hx
    obtain ⟨k1, k2⟩ := hρ _ _ hix
    obtain ⟨y1, y2⟩ := hρ _ _ hy
    rw [(gr_ok σ hg).2] at k1
    rw [okv] at x2
    obtain ⟨p, hp⟩ := Option.isSome_iff_exists.1 x2
    obtain ⟨bl, s⟩ := p
    have hh := r.holds b bl s hp
    rw [hgb] at hh
    have hbl : σ.blk b = bl := by simp [Place.blk, hp]
    simp only [ren,Option.map_some,hbl] at x1
    have hget : (getObj bl).run P w = .ok (.map (es.map (wr σ)).toArray clock) w := run_getMap r hp hgb
    have hset : ∀ o', (setObj bl o').run P w = .ok () (w.putObj bl o') := fun o' => by simp [setObj, Sem.run, hh.2.2, World.putObj]
    have hlt := (r.lt b bl s hp).2
    have fin : ∀ (es' : List (Value × Value × Nat)) (c' : Nat), (∀ e ∈ es', okv σ e.1 ∧ okv σ e.2.1) → (Instr.mapUpdate ty (ρ x) (ρ ix) (ρ y)).run P w = (setObj bl (.map (es'.map (wr σ)).toArray c')).run P w →
      Runs P (execOp ρ o) σ H w undef (H.put b (.map es' c')) b := by
     intro es' c' hes hrun
     obtain ⟨r1, r2⟩ := r.put (m := b) hp (by rw [hgb]; rfl) (.map (es'.map (wr σ)).toArray c') (.map es' c') ⟨hh.1, hes, World.putObj_heap_same hlt⟩ (Nat.le_refl _)
     refine ⟨σ, _, .skip, ?_, .inr ⟨rfl, rfl⟩, okv_undef σ, r1, r2⟩
     rw [hexec, Sem.run_bind, hrun, hset]; rfl
    have hup : ∀ q, aFindKey T P kt k es = some q → pureRun P (Instr.checkKey false 10000 kt k) = some () →
      (Instr.mapUpdate ty (ρ x) (ρ ix) (ρ y)).run P w = (match renQ σ q with
       | some (i, _) => (do
        let key ← Instr.keyThatStays ((((es.map (wr σ)).toArray[i]?).map (fun e : MapEntry => e.key)).getD k) k
        setObj bl (.map ((es.map (wr σ)).toArray.modify i fun e => { e with key, val := ren σ u }) clock) : Sem Unit)
       | none => setObj bl (.map ((es.map (wr σ)).toArray.push { key := k, val := ren σ u, born := clock }) (clock + 1))).run P w := by
     intro q hfk hck
     obtain ⟨f1, _⟩ := aFindKey_ok (σ := σ) (w := w) hT hfk
     unfold Instr.mapUpdate
     rw [Sem.run_bind, run_und hT hty, Result.andThen_ok]
     simp only [x1,k1,y1]
     rw [Sem.run_bind, hget, Result.andThen_ok]
     simp only
     rw [Sem.run_bind, pureRun_run hck, Result.andThen_ok, Sem.run_bind, f1, Result.andThen_ok]
     cases q <;> rfl
    split at h
    ·rename_i i u' hck hfk
     split at h
     ·rename_i en hen
      cases hb : (gr en.1 && Instr.sameBits 10000 en.1 k)
      ·rw [hb] at h; cases h
      ·rw [hb] at h
       cases h
       simp only [Bool.and_eq_true] at hb
       refine fin _ _ ?_ ?_
       ·intro e he
        rcases List.mem_or_eq_of_mem_set he with he | rfl
        ·exact hh.2.1 e he
        ·exact ⟨k2, y2⟩
       ·rw [hup _ hfk hck]
        have e1 : (((es.map (wr σ)).toArray[i]?).map (fun e : MapEntry => e.key)).getD k = en.1 := by
         simp [hen, wr, (gr_ok σ hb.1).2]
        simp only [renQ,Option.map_some,e1,Instr.keyThatStays,hb.2,if_true,Sem.run_bind,Sem.run_pure,Result.andThen_ok]
        congr 3
        apply Array.ext'
        apply List.ext_getElem?
        intro j
        simp only [Array.getElem?_toList,Array.getElem?_modify,List.getElem?_toArray,List.getElem?_map,List.getElem?_set]
        by_cases e : i = j
        ·subst e
         have hil := (List.getElem?_eq_some_iff.1 hen).1
         have h9 : es[i] = en := (List.getElem?_eq_some_iff.1 hen).2
         simp [hen, hil, wr, (gr_ok σ hg).2, h9]
        ·simp [e]
     ·cases h
    ·rename_i hck hfk
     cases h
     refine fin _ _ ?_ ?_
     ·intro e he
      rcases List.mem_append.1 he with he | he
      ·exact hh.2.1 e he
      ·rw [List.mem_singleton.1 he]; exact ⟨k2, y2⟩
     ·rw [hup _ hfk hck]
      simp only [renQ,Option.map_none]
      congr 3
      simp [wr, (gr_ok σ hg).2]
    ·cases h
  ·cases h
 ·cases h
end Go.Am
/- One operation, by its kind. -/
namespace Go.Am
variable {T : Tab} {P : Program} {σ : Place} {H : AHeap} {w : World} {t : Operand → Option Value} {ρ : Operand → Value}
def Same (r : Option (Value × AHeap × Nat)) (H : AHeap) : Prop := ∀ v H' m, r = some (v, H', m) → H' = H ∧ m = H.size
theorem aMove_same {x : Operand} : Same (aMove t H x) H := by
 intro v H' m h; unfold aMove at h; try simp only [Bool.cond_eq_ite] at h
 repeat' (split at h)
 all_goals first | (cases h; exact ⟨rfl, rfl⟩) | cases h
theorem aPick_same {c a b : Operand} : Same (aPick t H c a b) H := by
 intro v H' m h; unfold aPick at h; try simp only [Bool.cond_eq_ite] at h
 repeat' (split at h)
 all_goals first | (cases h; exact ⟨rfl, rfl⟩) | cases h
theorem aExtract_same {x : Operand} {i : Nat} : Same (aExtract t H x i) H := by
 intro v H' m h; unfold aExtract at h; try simp only [Bool.cond_eq_ite] at h
 repeat' (split at h)
 all_goals first | (cases h; exact ⟨rfl, rfl⟩) | cases h
theorem aField_same {ty : TypeId} {x : Operand} {f : Nat} : Same (aField T t H ty x f) H := by
 intro v H' m h; unfold aField at h; try simp only [Bool.cond_eq_ite] at h
 repeat' (split at h)
 all_goals first | (cases h; exact ⟨rfl, rfl⟩) | cases h
theorem aIndex_same {ty : TypeId} {x ix : Operand} : Same (aIndex T t H ty x ix) H := by
 intro v H' m h; unfold aIndex at h; try simp only [Bool.cond_eq_ite] at h
 repeat' (split at h)
 all_goals first | (cases h; exact ⟨rfl, rfl⟩) | cases h
theorem aMakeFunc_same {fn : Fn} {a b : Array Operand} : Same (aMakeFunc t H fn a b) H := by
 intro v H' m h; unfold aMakeFunc at h; try simp only [Bool.cond_eq_ite] at h
 repeat' (split at h)
 all_goals first | (cases h; exact ⟨rfl, rfl⟩) | cases h
theorem aNilCheck_same {x : Operand} : Same (aNilCheck t H x) H := by
 intro v H' m h; unfold aNilCheck at h; try simp only [Bool.cond_eq_ite] at h
 repeat' (split at h)
 all_goals first | (cases h; exact ⟨rfl, rfl⟩) | cases h
theorem aFieldAddr_same {ty : TypeId} {x : Operand} {f : Nat} : Same (aFieldAddr T t H ty x f) H := by
 intro v H' m h; unfold aFieldAddr at h; try simp only [Bool.cond_eq_ite] at h
 repeat' (split at h)
 all_goals first | (cases h; exact ⟨rfl, rfl⟩) | cases h
theorem aIndexAddr_same {ty : TypeId} {x ix : Operand} : Same (aIndexAddr T t H ty x ix) H := by
 intro v H' m h; unfold aIndexAddr at h; try simp only [Bool.cond_eq_ite] at h
 repeat' (split at h)
 all_goals first | (cases h; exact ⟨rfl, rfl⟩) | cases h
theorem aLoad_same {ty : TypeId} {x : Operand} : Same (aLoad T t H ty x) H := by
 intro v H' m h; unfold aLoad at h; try simp only [Bool.cond_eq_ite] at h
 repeat' (split at h)
 all_goals first | (cases h; exact ⟨rfl, rfl⟩) | cases h
theorem aPureOf_same {s : Sem Value} : Same (aPureOf P H s) H := by
 intro v H' m h; unfold aPureOf at h; try simp only [Bool.cond_eq_ite] at h
 repeat' (split at h)
 all_goals first | (cases h; exact ⟨rfl, rfl⟩) | cases h
theorem aUn_same {op : UnOp} {x : Operand} : Same (aUn P t H op x) H := by
 intro v H' m h; unfold aUn at h; try simp only [Bool.cond_eq_ite] at h
 repeat' (split at h)
 all_goals first | exact aPureOf_same _ _ _ h | (cases h; exact ⟨rfl, rfl⟩) | cases h
theorem aConv_same {a b : TypeId} {x : Operand} : Same (aConv T P t H a b x) H := by
 intro v H' m h; unfold aConv at h; try simp only [Bool.cond_eq_ite] at h
 repeat' (split at h)
 all_goals first | exact aPureOf_same _ _ _ h | (cases h; exact ⟨rfl, rfl⟩) | cases h
/-! ### Rows of numbers are the same -/
def eqLit : Lit → Lit → Bool
 | .bool a, .bool b => a == b
 | .int k a, .int j b => decide (k = j) && decide (a = b)
 | .string a, .string b => a == b
 | _, _ => false
def eqLits : List Lit → List Lit → Option Bool
 | [], [] => some true
 | a :: l, b :: m => match eqLits l m with
  | some r => some (eqLit a b && r)
  | none => none
 | _, _ => none
def plainLit : Lit → Bool
 | .bool _ | .int _ _ | .string _ => true
 | _ => false
theorem eqLit_iff {a b : Lit} (h : plainLit a = true) : eqLit a b = true ↔ a = b := by
 cases a <;> cases b <;> simp_all [eqLit, plainLit]
theorem eqLits_iff : ∀ {l m : List Lit} {r : Bool}, l.all plainLit = true → eqLits l m = some r → (r = true ↔ l = m)
 | [], [], r, _, h => by cases h; simp
 | a :: l, b :: m, r, hp, h => by
  simp only [List.all_cons,Bool.and_eq_true] at hp
  simp only [eqLits] at h
  split at h
  ·rename_i r' hr
   cases h
   have := eqLits_iff hp.2 hr
   simp only [Bool.and_eq_true,eqLit_iff hp.1,this,List.cons.injEq]
  ·cases h
 | [], _ :: _, r, _, h => by cases h
 | _ :: _, [], r, _, h => by cases h
def aEqD (P : Program) (ty : TypeId) (a b : Value) : Option Bool := match a, b with
 | .agg x, .agg y => bif P.keyTypeAt 9 ty && !P.eqGuardType P.depth ty && (Value.agg x).formed P ty && (Value.agg y).formed P ty && gr (.agg x) && gr (.agg y) then
   match P.keyLits 9 ty x.toList, P.keyLits 9 ty y.toList with
   | some la, some lb => bif la.all plainLit then eqLits la lb else none
   | _, _ => none
  else none
 | _, _ => none
def aEqV (P : Program) (op : BinOp) (ty : TypeId) (a b : Option Value) : Option Value := match op, a, b with
 | .eql, some a, some b => (aEqD P ty a b).map .bool
 | .neq, some a, some b => (aEqD P ty a b).map fun r => .bool !r
 | _, _, _ => none
theorem aEqV_none_l {op : BinOp} {ty : TypeId} {b : Option Value} : aEqV P op ty none b = none := by cases op <;> rfl
theorem aEqV_none_r {op : BinOp} {ty : TypeId} {a : Option Value} : aEqV P op ty a none = none := by cases op <;> cases a <;> rfl
theorem aEqV_int {op : BinOp} {ty : TypeId} {k : IntKind} {n : Int} {b : Option Value} : aEqV P op ty (some (.int k n)) b = none := by cases op <;> cases b <;> rfl
theorem aEqD_run {ty : TypeId} {a b : Value} {r : Bool} (h : aEqD P ty a b = some r) (w : World) : (Op.equal ty a b).run P w = .ok r w ∧ (∃ x y, a = .agg x ∧ b = .agg y) ∧ P.eqGuardType P.depth ty = false ∧ gr a = true ∧ gr b = true := by
 unfold aEqD at h
 split at h
 ·rename_i x y
  cases hb : (P.keyTypeAt 9 ty && !P.eqGuardType P.depth ty && (Value.agg x).formed P ty && (Value.agg y).formed P ty && gr (.agg x) && gr (.agg y))
  ·rw [hb] at h; cases h
  ·rw [hb, cond_true] at h
   simp only [Bool.and_eq_true,Bool.not_eq_true'] at hb
   obtain ⟨⟨⟨⟨⟨k1, k2⟩, k3⟩, k4⟩, k5⟩, k6⟩ := hb
   split at h
   ·rename_i la lb hla hlb
    cases hp : la.all plainLit
    ·rw [hp] at h; cases h
    ·rw [hp, cond_true] at h
     obtain ⟨r', hr, hiff⟩ := run_equalIn_deep (P := P) 9991 9 ty k1 w 9 9 (.agg x) (.agg y) la lb k3 k4 hla hlb
     have hrr : r' = r := by
      have := eqLits_iff hp h
      rw [Bool.eq_iff_iff, hiff, this]
     subst hrr
     exact ⟨hr, ⟨x, y, rfl, rfl⟩, k2, k5, k6⟩
   ·cases h
 ·cases h
theorem aEqV_ok {o : Oper} {op : BinOp} {ty yt : TypeId} {x y : Operand} (ho : o.op = .binOp op ty x y yt) (r : Rel σ H w) (hρ : Evals σ t ρ) {v : Value} (h : aEqV P op ty (t x) (t y) = some v) : Runs P (execOp ρ o) σ H w v H H.size := by
 unfold aEqV at h
 split at h
 ·rename_i a b ha hb
  simp only [Option.map_eq_some_iff] at h
  obtain ⟨q, hq, rfl⟩ := h
  obtain ⟨h1, ⟨xs, ys, rfl, rfl⟩, h2, h3, h4⟩ := aEqD_run hq w
  have e1 : ρ x = .agg xs := by rw [(hρ _ _ ha).1, (gr_ok σ h3).2]
  have e2 : ρ y = .agg ys := by rw [(hρ _ _ hb).1, (gr_ok σ h4).2]
  exact Runs.same r (by simp [execOp, ho, e1, e2, eqGuard, h2, binOp, h1, ren]) (by simp [okv])
 ·rename_i a b ha hb
  simp only [Option.map_eq_some_iff] at h
  obtain ⟨q, hq, rfl⟩ := h
  obtain ⟨h1, ⟨xs, ys, rfl, rfl⟩, h2, h3, h4⟩ := aEqD_run hq w
  have e1 : ρ x = .agg xs := by rw [(hρ _ _ ha).1, (gr_ok σ h3).2]
  have e2 : ρ y = .agg ys := by rw [(hρ _ _ hb).1, (gr_ok σ h4).2]
  exact Runs.same r (by simp [execOp, ho, e1, e2, eqGuard, h2, binOp, h1, ren]) (by simp [okv])
 ·cases h
def aBin20 (P : Program) (t : Operand → Option Value) (H : AHeap) (op : BinOp) (ty : TypeId) (x y : Operand) : Option (Value × AHeap × Nat) :=
 bif allGr t [x, y] then aPureOf P H (do eqGuard op ty x y (aρ t x) (aρ t y); binOp op ty (aρ t x) (aρ t y)) else none
def aBin2 (P : Program) (t : Operand → Option Value) (H : AHeap) (op : BinOp) (ty : TypeId) (x y : Operand) : Option (Value × AHeap × Nat) := match aEqV P op ty (t x) (t y) with
 | some v => some (v, H, H.size)
 | none => aBin20 P t H op ty x y
theorem aBin20_same {op : BinOp} {ty : TypeId} {x y : Operand} : Same (aBin20 P t H op ty x y) H := by
 intro v H' m h; unfold aBin20 at h; try simp only [Bool.cond_eq_ite] at h
 repeat' (split at h)
 all_goals first | exact aPureOf_same _ _ _ h | (cases h; exact ⟨rfl, rfl⟩) | cases h
theorem aBin2_same {op : BinOp} {ty : TypeId} {x y : Operand} : Same (aBin2 P t H op ty x y) H := by
 intro v H' m h
 unfold aBin2 at h
 split at h
 ·cases h; exact ⟨rfl, rfl⟩
 ·exact aBin20_same _ _ _ h
theorem aBin2_ok (hT : T.Fits P) {o : Oper} {op : BinOp} {ty yt : TypeId} {x y : Operand} (ho : o.op = .binOp op ty x y yt) (r : Rel σ H w) (hρ : Evals σ t ρ) {v : Value} {H' : AHeap} {m : Nat} (h : aBin2 P t H op ty x y = some (v, H', m)) : Runs P (execOp ρ o) σ H w v H' m := by
 unfold aBin2 at h
 split at h
 ·rename_i u hu
  cases h
  exact aEqV_ok ho r hρ hu
 ·exact aBin_ok ho hT r hρ h
theorem aNil_same {op : BinOp} {ty : TypeId} {x y : Operand} : Same (aNil T t H op ty x y) H := by
 intro v H' m h; unfold aNil at h; try simp only [Bool.cond_eq_ite] at h
 repeat' (split at h)
 all_goals first | (cases h; exact ⟨rfl, rfl⟩) | cases h
theorem aBuild_same {ty : TypeId} {ps : Array (Nat × Operand)} : Same (aBuild T t H ty ps) H := by
 intro v H' m h; unfold aBuild at h; try simp only [Bool.cond_eq_ite] at h
 repeat' (split at h)
 all_goals first | (cases h; exact ⟨rfl, rfl⟩) | cases h
theorem aSlice_same {ty : TypeId} {x : Operand} {lo hi mx : Option Operand} : Same (aSlice T t H ty x lo hi mx) H := by
 intro v H' m h; unfold aSlice at h; try simp only [Bool.cond_eq_ite] at h
 repeat' (split at h)
 all_goals first | (cases h; exact ⟨rfl, rfl⟩) | cases h
theorem aLookup_same {ty : TypeId} {x ix : Operand} {ok : Bool} : Same (aLookup T P t H ty x ix ok) H := by
 intro v H' m h; unfold aLookup at h; try simp only [Bool.cond_eq_ite] at h
 repeat' (split at h)
 all_goals first | (cases h; exact ⟨rfl, rfl⟩) | cases h
theorem aMinMax_same {b : Bool} {args : Array Operand} : Same (aMinMax P t H b args) H := by
 intro v H' m h; unfold aMinMax at h; try simp only [Bool.cond_eq_ite] at h
 repeat' (split at h)
 all_goals first | exact aPureOf_same _ _ _ h | (cases h; exact ⟨rfl, rfl⟩) | cases h
/-- An index into a string, or into a value without addresses. -/
def aIndexG (P : Program) (t : Operand → Option Value) (H : AHeap) (ty : TypeId) (x ix : Operand) : Option (Value × AHeap × Nat) :=
 bif allGr t [x, ix] then aPureOf P H (Instr.index ty (aρ t x) (aρ t ix)) else none
theorem aIndexG_same {ty : TypeId} {x ix : Operand} : Same (aIndexG P t H ty x ix) H := by
 intro v H' m h; unfold aIndexG at h; try simp only [Bool.cond_eq_ite] at h
 repeat' (split at h)
 all_goals first | exact aPureOf_same _ _ _ h | (cases h; exact ⟨rfl, rfl⟩) | cases h
theorem aIndexG_ok {o : Oper} {ty : TypeId} {x ix : Operand} (ho : o.op = .index ty x ix) (r : Rel σ H w) (hρ : Evals σ t ρ) {v : Value} {H' : AHeap} {m : Nat}
  (h : aIndexG P t H ty x ix = some (v, H', m)) : Runs P (execOp ρ o) σ H w v H' m := by
 unfold aIndexG at h
 cases hb : allGr t [x, ix]
 ·rw [hb] at h; cases h
 ·rw [hb] at h
  have e := ground_eval hρ hb
  have e1 : ρ x = aρ t x := e x (by simp)
  have e2 : ρ ix = aρ t ix := e ix (by simp)
  refine aPureOf_ok ?_ r h
  simp only [execOp,ho,e1,e2]
abbrev Res := Option (Bool × Value × AHeap × Nat)
def still (r : Option (Value × AHeap × Nat)) : Res := match r with
 | some (v, H, m) => some (true, v, H, m)
 | none => none
def moves (r : Option (Value × AHeap × Nat)) : Res := match r with
 | some (v, H, m) => some (false, v, H, m)
 | none => none
def fresh (H : AHeap) (r : Option (PK × ABlk)) : Res := match r with
 | some (p, b) => some (false, mkV p H.size, H.alloc b, H.size)
 | none => none
def orElse (r : Option (Value × AHeap × Nat)) (r' : Option (Value × AHeap × Nat)) : Option (Value × AHeap × Nat) := match r with
 | some x => some x
 | none => r'
def lenRes (H : AHeap) (r : Option Value) : Res := match r with
 | some v => some (true, v, H, H.size)
 | none => none
/-- The flag tells that the heap is as it was. -/
def aop (T : Tab) (P : Program) (t : Operand → Option Value) (H : AHeap) (o : Op) : Res :=
 match o with
 | .move x | .assign x => still (aMove t H x)
 | .pick c a b => still (aPick t H c a b)
 | .alloc e => fresh H (newAlloc T e)
 | .box e x => fresh H (newBox t e x)
 | .build ty ps => still (aBuild T t H ty ps)
 | .buildSlice ty n ps => fresh H (newRow T t ty n ps)
 | .load ty x => still (aLoad T t H ty x)
 | .store ty x y => moves (aStore T t H ty x y)
 | .nilCheck x => still (aNilCheck t H x)
 | .binOp op ty x y _ => still (orElse (aBin2 P t H op ty x y) (aNil T t H op ty x y))
 | .unOp op _ x => still (aUn P t H op x)
 | .convert src dst x => still (aConv T P t H src dst x)
 | .makeFunc fn a b => still (aMakeFunc t H fn a b)
 | .makeMap _ r => fresh H (newMap r)
 | .makeSlice ty x y => fresh H (newMade T t ty x y)
 | .slice ty x lo hi mx => still (aSlice T t H ty x lo hi mx)
 | .fieldAddr ty x f => still (aFieldAddr T t H ty x f)
 | .field ty x f => still (aField T t H ty x f)
 | .indexAddr ty x ix => still (aIndexAddr T t H ty x ix)
 | .index ty x ix => still (orElse (aIndex T t H ty x ix) (aIndexG P t H ty x ix))
 | .lookup ty x ix ok => still (aLookup T P t H ty x ix ok)
 | .mapUpdate ty x ix y | .insert ty x ix y => moves (aUpdate T P t H ty x ix y)
 | .extract x i => still (aExtract t H x i)
 | .call c => match c.callee with
  | .builtin .append => moves (aAppend T t H c.argTypes c.args)
  | .builtin .len => lenRes H (aLen T t H c.argTypes c.args)
  | .builtin .copy => moves (aCopy T t H c.argTypes c.args)
  | .builtin .clear => moves (aClear T t H c.argTypes c.args)
  | .builtin .min => still (aMinMax P t H false c.args)
  | .builtin .max => still (aMinMax P t H true c.args)
  | _ => none
 | _ => none
theorem still_some {r : Option (Value × AHeap × Nat)} {b : Bool} {v : Value} {H' : AHeap} {m : Nat} (h : still r = some (b, v, H', m)) : b = true ∧ r = some (v, H', m) := by
 unfold still at h; split at h <;> cases h; exact ⟨rfl, rfl⟩
theorem moves_some {r : Option (Value × AHeap × Nat)} {b : Bool} {v : Value} {H' : AHeap} {m : Nat} (h : moves r = some (b, v, H', m)) : b = false ∧ r = some (v, H', m) := by
 unfold moves at h; split at h <;> cases h; exact ⟨rfl, rfl⟩
theorem fresh_some {r : Option (PK × ABlk)} {b : Bool} {v : Value} {H' : AHeap} {m : Nat} (h : fresh H r = some (b, v, H', m)) :
  ∃ p blk, b = false ∧ r = some (p, blk) ∧ v = mkV p H.size ∧ H' = H.alloc blk ∧ m = H.size := by
 unfold fresh at h; split at h <;> cases h; exact ⟨_, _, rfl, rfl, rfl, rfl, rfl⟩
theorem lenRes_some {r : Option Value} {b : Bool} {v : Value} {H' : AHeap} {m : Nat} (h : lenRes H r = some (b, v, H', m)) : b = true ∧ r = some v ∧ H' = H ∧ m = H.size := by
 unfold lenRes at h; split at h <;> cases h; exact ⟨rfl, rfl, rfl, rfl⟩
theorem orElse_some {r r' : Option (Value × AHeap × Nat)} {x : Value × AHeap × Nat} (h : orElse r r' = some x) : r = some x ∨ r' = some x := by
 unfold orElse at h; split at h
 ·cases h; exact .inl rfl
 ·exact .inr h
theorem fresh_runs (r : Rel σ H w) {s : Sem Next} {q : Option (PK × ABlk)} {b : Bool} {v : Value} {H' : AHeap} {m : Nat} (h : fresh H q = some (b, v, H', m)) (k : ∀ p blk, q = some (p, blk) → Fresh P s σ w p blk) : Runs P s σ H w v H' m := by
 obtain ⟨p, blk, _, h2, rfl, rfl, rfl⟩ := fresh_some h
 exact (k p blk h2).runs r
theorem aop_ok (hT : T.Fits P) (r : Rel σ H w) (hρ : Evals σ t ρ) {o : Oper} {b : Bool} {v : Value} {H' : AHeap} {m : Nat} (h : aop T P t H o.op = some (b, v, H', m)) : Runs P (execOp ρ o) σ H w v H' m := by
 unfold aop at h
 split at h
 ·rename_i ho; exact aMove_ok (.inl ho) r hρ (still_some h).2
 ·rename_i ho; exact aMove_ok (.inr ho) r hρ (still_some h).2
 ·rename_i ho; exact aPick_ok ho r hρ (still_some h).2
 ·rename_i ho; exact fresh_runs r h fun p blk hq => newAlloc_ok hT ho hq
 ·rename_i ho; exact fresh_runs r h fun p blk hq => newBox_ok ho hρ hq
 ·rename_i ho; exact aBuild_ok hT ho r hρ (still_some h).2
 ·rename_i ho; exact fresh_runs r h fun p blk hq => newRow_ok hT ho hρ hq
 ·rename_i ho; exact aLoad_ok hT ho r hρ (still_some h).2
 ·rename_i ho; exact aStore_ok hT ho r hρ (moves_some h).2
 ·rename_i ho; exact aNilCheck_ok ho r hρ (still_some h).2
 ·rename_i ho
  rcases orElse_some (still_some h).2 with h | h
  ·exact aBin2_ok hT ho r hρ h
  ·exact aNil_ok hT ho r hρ h
 ·rename_i ho; exact aUn_ok ho r hρ (still_some h).2
 ·rename_i ho; exact aConv_ok hT ho r hρ (still_some h).2
 ·rename_i ho; exact aMakeFunc_ok ho r hρ (still_some h).2
 ·rename_i ho; exact fresh_runs r h fun p blk hq => newMap_ok ho hq
 ·rename_i ho; exact fresh_runs r h fun p blk hq => newMade_ok hT ho hρ hq
 ·rename_i ho; exact aSlice_ok hT ho r hρ (still_some h).2
 ·rename_i ho; exact aFieldAddr_ok hT ho r hρ (still_some h).2
 ·rename_i ho; exact aField_ok hT ho r hρ (still_some h).2
 ·rename_i ho; exact aIndexAddr_ok hT ho r hρ (still_some h).2
 ·rename_i ho
  rcases orElse_some (still_some h).2 with h | h
  ·exact aIndex_ok hT ho r hρ h
  ·exact aIndexG_ok ho r hρ h
 ·rename_i ho; exact aLookup_ok hT ho r hρ (still_some h).2
 ·rename_i ho; exact aUpdate_ok hT (.inl ho) r hρ (moves_some h).2
 ·rename_i ho; exact aUpdate_ok hT (.inr ho) r hρ (moves_some h).2
 ·rename_i ho; exact aExtract_ok ho r hρ (still_some h).2
 ·rename_i c ho
  obtain ⟨ce, args, tys⟩ := c
  simp only at h
  split at h
  ·exact aAppend_ok hT ho r hρ (moves_some h).2
  ·obtain ⟨_, h2, rfl, rfl⟩ := lenRes_some h
   exact aLen_ok hT ho r hρ h2
  ·exact aCopy_ok hT ho r hρ (moves_some h).2
  ·exact aClear_ok hT ho r hρ (moves_some h).2
  ·exact aMinMax_ok (mx := false) ho r hρ (still_some h).2
  ·exact aMinMax_ok (mx := true) ho r hρ (still_some h).2
  ·cases h
 ·cases h
theorem aop_nd {o : Op} {x : Bool × Value × AHeap × Nat} (h : aop T P t H o = some x) : ∀ c, o ≠ .defer c := by
 rintro c rfl
 cases h
theorem fresh_false {q : Option (PK × ABlk)} {v : Value} {H' : AHeap} {m : Nat} {A : Prop} (h : fresh H q = some (true, v, H', m)) : A := by
 obtain ⟨_, _, h1, _⟩ := fresh_some h; cases h1
theorem moves_false {q : Option (Value × AHeap × Nat)} {v : Value} {H' : AHeap} {m : Nat} {A : Prop} (h : moves q = some (true, v, H', m)) : A := by
 obtain ⟨h1, _⟩ := moves_some h; cases h1
theorem aop_still {o : Op} {v : Value} {H' : AHeap} {m : Nat} (h : aop T P t H o = some (true, v, H', m)) : H' = H ∧ m = H.size := by
 unfold aop at h
 split at h
 ·exact aMove_same _ _ _ (still_some h).2
 ·exact aMove_same _ _ _ (still_some h).2
 ·exact aPick_same _ _ _ (still_some h).2
 ·exact fresh_false h
 ·exact fresh_false h
 ·exact aBuild_same _ _ _ (still_some h).2
 ·exact fresh_false h
 ·exact aLoad_same _ _ _ (still_some h).2
 ·exact moves_false h
 ·exact aNilCheck_same _ _ _ (still_some h).2
 ·rcases orElse_some (still_some h).2 with h | h
  ·exact aBin2_same _ _ _ h
  ·exact aNil_same _ _ _ h
 ·exact aUn_same _ _ _ (still_some h).2
 ·exact aConv_same _ _ _ (still_some h).2
 ·exact aMakeFunc_same _ _ _ (still_some h).2
 ·exact fresh_false h
 ·exact fresh_false h
 ·exact aSlice_same _ _ _ (still_some h).2
 ·exact aFieldAddr_same _ _ _ (still_some h).2
 ·exact aField_same _ _ _ (still_some h).2
 ·exact aIndexAddr_same _ _ _ (still_some h).2
 ·rcases orElse_some (still_some h).2 with h | h
  ·exact aIndex_same _ _ _ h
  ·exact aIndexG_same _ _ _ h
 ·exact aLookup_same _ _ _ (still_some h).2
 ·exact moves_false h
 ·exact moves_false h
 ·exact aExtract_same _ _ _ (still_some h).2
 ·rename_i c
  obtain ⟨ce, args, tys⟩ := c
  simp only at h
  split at h
  ·exact moves_false h
  ·obtain ⟨_, _, h3, h4⟩ := lenRes_some h; exact ⟨h3, h4⟩
  ·exact moves_false h
  ·exact moves_false h
  ·exact aMinMax_same _ _ _ (still_some h).2
  ·exact aMinMax_same _ _ _ (still_some h).2
  ·cases h
 ·cases h
theorem aop_sop (hT : T.Fits P) {r : Option Nat} {o : Oper} {b : Bool} {v : Value} {H' : AHeap} {m : Nat} (h : aop T P t H o.op = some (b, v, H', m)) : SOp P r o t H v H' m :=
 SOp.of_runs (aop_nd h) fun _ _ _ hr hρ => aop_ok hT hr hρ h
end Go.Am
/- The little machine itself: calls, rounds, code. -/
namespace Go.Am
variable {T : Tab} {P : Program}
/-! ### Temporaries -/
inductive VT where
 | nil
 | node (v : Value) (l r : VT)
def VT.get : VT → Nat → Value
 | .nil, _ => undef
 | .node v l r, n => bif Nat.beq n 0 then v else bif Nat.beq (n % 2) 1 then l.get (n / 2) else r.get (n / 2 - 1)
def VT.set : Nat → VT → Nat → Value → VT
 | 0, t, _, _ => t
 | d + 1, .nil, n, b =>
  bif Nat.beq n 0 then .node b .nil .nil
  else bif Nat.beq (n % 2) 1 then .node undef (VT.set d .nil (n / 2) b) .nil else .node undef .nil (VT.set d .nil (n / 2 - 1) b)
 | d + 1, .node v l r, n, b =>
  bif Nat.beq n 0 then .node b l r
  else bif Nat.beq (n % 2) 1 then .node v (VT.set d l (n / 2) b) r else .node v l (VT.set d r (n / 2 - 1) b)
theorem VT.get_set_same (b : Value) : ∀ (d : Nat) (t : VT) (n : Nat), n < d → (VT.set d t n b).get n = b := by
 intro d
 induction d with
 | zero => intro t n h; omega
 | succ d ih =>
  intro t n h
  by_cases h0 : n = 0
  ·subst h0; cases t <;> simp [VT.set, VT.get]
  ·have e0 := beq_ne h0
   by_cases h1 : n % 2 = 1
   ·have := fun t => ih t (n / 2) (by omega)
    cases t <;> simp [VT.set, VT.get, e0, h1, this]
   ·have e1 := beq_ne h1
    have := fun t => ih t (n / 2 - 1) (by omega)
    cases t <;> simp [VT.set, VT.get, e0, e1, this]
theorem VT.get_set_other (b : Value) : ∀ (d : Nat) (t : VT) (n k : Nat), k ≠ n → (VT.set d t n b).get k = t.get k := by
 intro d
 induction d with
 | zero => intro t n k h; rfl
 | succ d ih =>
  intro t n k h
  by_cases h0 : n = 0
  ·subst h0; have ek := beq_ne h; cases t <;> simp [VT.set, VT.get, ek]
  ·have e0 := beq_ne h0
   by_cases hk : k = 0
   ·subst hk
    by_cases h1 : n % 2 = 1
    ·cases t <;> simp [VT.set, VT.get, e0, h1]
    ·have e1 := beq_ne h1
     cases t <;> simp [VT.set, VT.get, e0, e1]
   ·have ek := beq_ne hk
    by_cases h1 : n % 2 = 1
    ·by_cases hk1 : k % 2 = 1
     ·have := fun t => ih t (n / 2) (k / 2) (by omega)
      cases t <;> simp [VT.set, VT.get, e0, h1, ek, hk1, this]
     ·have f1 := beq_ne hk1
      cases t <;> simp [VT.set, VT.get, e0, h1, ek, f1]
    ·have e1 := beq_ne h1
     by_cases hk1 : k % 2 = 1
     ·cases t <;> simp [VT.set, VT.get, e0, e1, ek, hk1]
     ·have f1 := beq_ne hk1
      have := fun t => ih t (n / 2 - 1) (k / 2 - 1) (by omega)
      cases t <;> simp [VT.set, VT.get, e0, e1, ek, f1, this]
def VT.setK {α : Type} : Nat → VT → Nat → Value → (VT → α) → α
 | 0, t, _, _, k => k t
 | d + 1, .nil, n, b, k =>
  bif Nat.beq n 0 then k (.node b .nil .nil)
  else bif Nat.beq (n % 2) 1 then VT.setK d .nil (n / 2) b fun l => k (.node undef l .nil) else VT.setK d .nil (n / 2 - 1) b fun r => k (.node undef .nil r)
 | d + 1, .node v l r, n, b, k =>
  bif Nat.beq n 0 then k (.node b l r)
  else bif Nat.beq (n % 2) 1 then VT.setK d l (n / 2) b fun l => k (.node v l r) else VT.setK d r (n / 2 - 1) b fun r => k (.node v l r)
theorem VT.setK_eq {α : Type} (b : Value) : ∀ (d : Nat) (t : VT) (n : Nat) (k : VT → α), VT.setK d t n b k = k (VT.set d t n b)
 | 0, t, n, k => rfl
 | d + 1, .nil, n, k => by
  simp only [VT.setK,VT.set]
  cases Nat.beq n 0 <;> simp only [cond_true,cond_false]
  cases Nat.beq (n % 2) 1 <;> simp only [cond_true,cond_false,VT.setK_eq b d]
 | d + 1, .node v l r, n, k => by
  simp only [VT.setK,VT.set]
  cases Nat.beq n 0 <;> simp only [cond_true,cond_false]
  cases Nat.beq (n % 2) 1 <;> simp only [cond_true,cond_false,VT.setK_eq b d]
def VT.put (e : VT) (d : Option Tmp) (v : Value) : VT := match d with
 | none => e
 | some d => VT.set (d + 1) e d v
def VT.putK {α : Type} (e : VT) (d : Option Tmp) (v : Value) (k : VT → α) : α := match d with
 | none => k e
 | some d => fV v fun v => VT.setK (d + 1) e d v k
@[simp] theorem VT.putK_eq {α : Type} (e : VT) (d : Option Tmp) (v : Value) (k : VT → α) : VT.putK e d v k = k (e.put d v) := by
 cases d with
 | none => rfl
 | some d => simp [VT.putK, VT.put, VT.setK_eq]
def lst (n : Nat) (e : VT) : List Value := (List.range n).map e.get
@[simp] theorem lst_length (n : Nat) (e : VT) : (lst n e).length = n := by simp [lst]
theorem lst_get (n : Nat) (e : VT) (i : Nat) : (lst n e)[i]? = if i < n then some (e.get i) else none := by
 unfold lst
 by_cases h : i < n
 ·simp [h]
 ·simp [h]
theorem lst_getD (n : Nat) (e : VT) (i : Nat) : (lst n e).getD i undef = bif Nat.blt i n then e.get i else undef := by
 rw [List.getD_eq_getElem?_getD, lst_get]
 by_cases h : i < n
 ·simp [h, blt_true h]
 ·simp [h, blt_false h]
theorem lst_put (n : Nat) (e : VT) (d : Option Tmp) (v : Value) : lst n (e.put d v) = tset (lst n e) d v := by
 cases d with
 | none => rfl
 | some d =>
  apply List.ext_getElem?
  intro i
  simp only [tset,lst_get,List.getElem?_set,lst_length]
  by_cases hi : i < n
  ·by_cases e' : d = i
   ·subst e'; simp [hi, VT.put, VT.get_set_same]
   ·simp [hi, e', VT.put, VT.get_set_other _ _ _ _ _ (Ne.symm e')]
  ·simp only [hi,if_false]
   split
   ·rename_i h; subst h; simp [hi]
   ·rfl
/-- The temporaries that a list gives. -/
def envK {α : Type} : List Value → Nat → VT → (VT → α) → α
 | [], _, e, k => k e
 | v :: vs, i, e, k => VT.putK e (some i) v fun e => envK vs (i + 1) e k
def env : List Value → Nat → VT → VT
 | [], _, e => e
 | v :: vs, i, e => env vs (i + 1) (e.put (some i) v)
@[simp] theorem envK_eq {α : Type} : ∀ (l : List Value) (i : Nat) (e : VT) (k : VT → α), envK l i e k = k (env l i e)
 | [], _, _, _ => rfl
 | v :: vs, i, e, k => by simp only [envK,VT.putK_eq,env]; exact envK_eq vs (i + 1) _ k
theorem env_get : ∀ (l : List Value) (i : Nat) (e : VT) (j : Nat), (env l i e).get j = if i ≤ j then (l[j - i]?).getD (e.get j) else e.get j
 | [], i, e, j => by simp [env]
 | v :: vs, i, e, j => by
  rw [env, env_get vs (i + 1)]
  by_cases h : j = i
  ·subst h
   have : ¬ (j + 1 ≤ j) := by omega
   simp [this, VT.put, VT.get_set_same]
  ·have e1 : (e.put (some i) v).get j = e.get j := VT.get_set_other _ _ _ _ _ h
   rw [e1]
   by_cases h' : i ≤ j
   ·have : i + 1 ≤ j := by omega
    have e2 : j - i = (j - (i + 1)) + 1 := by omega
    simp [this, h', e2]
   ·have : ¬ (i + 1 ≤ j) := by omega
    simp [this, h']
theorem lst_env (l : List Value) (n : Nat) : lst (l.length + n) (env l 0 .nil) = l ++ List.replicate n undef := by
 apply List.ext_getElem?
 intro j
 rw [lst_get, env_get]
 simp only [Nat.zero_le,if_true,Nat.sub_zero,VT.get]
 by_cases h : j < l.length
 ·have : j < l.length + n := by omega
  simp [h, this]
 ·by_cases h' : j < l.length + n
  ·have : j - l.length < n := by omega
   rw [List.getElem?_append_right (by omega)]
   simp [h', List.getElem?_replicate, this, List.getElem?_eq_none (Nat.le_of_not_lt h)]
  ·have : ¬ (j - l.length < n) := by omega
   rw [List.getElem?_append_right (by omega)]
   simp [h', List.getElem?_replicate, this]
structure ES where
 n : Nat
 e : VT
 H : AHeap
 ds : List Nat
def ES.st (s : ES) : St := ⟨lst s.n s.e, s.H, s.ds⟩
def aenv (n : Nat) (e : VT) : Operand → Option Value
 | .tmp i => some (bif Nat.blt i n then e.get i else undef)
 | .const v => bif gr v then some v else none
 | .func f => some (.func (.func f) #[] #[])
 | .global _ => none
theorem aenv_eq (n : Nat) (e : VT) : aenv n e = aval (lst n e) := by
 funext x
 cases x with
 | tmp i => simp only [aenv,aval,lst_getD]
 | _ => rfl
def aresG (T : Tab) (g : Nat → Value) (H : AHeap) : List ResultVar → Option (List Value)
 | [] => some []
 | .tmp i :: rs => match aresG T g H rs with
  | some vs => some (g i :: vs)
  | none => none
 | .cell a ty :: rs => match g a, aresG T g H rs with
  | .pointer (some ad), some vs => match aRead T H ty ad with
   | some v => some (v :: vs)
   | none => none
  | _, _ => none
theorem aresG_eq (H : AHeap) {t : List Value} {g : Nat → Value} (hg : ∀ i, t.getD i undef = g i) : ∀ (rs : List ResultVar), aresultList T t H rs = aresG T g H rs
 | [] => rfl
 | .tmp i :: rs => by simp only [aresultList,aresG,aresG_eq H hg rs,hg]; rfl
 | .cell a ty :: rs => by simp only [aresultList,aresG,aresG_eq H hg rs,hg]; rfl
def ares (T : Tab) (fn : Func) (n : Nat) (e : VT) (H : AHeap) : Option Value :=
 match aresG T (fun i => bif Nat.blt i n then e.get i else undef) H fn.results.toList with
 | some [v] => some v
 | some vs => some (.tuple vs.toArray)
 | none => none
theorem ares_eq (fn : Func) (n : Nat) (e : VT) (H : AHeap) : ares T fn n e H = aresults T fn (lst n e) H := by
 unfold ares aresults
 rw [aresG_eq H (fun i => lst_getD n e i)]
 rfl
/-! ### Calls -/
abbrev Exec := Option Nat → Code → ES → Option (Exit × ES × Nat)
def ExOk (P : Program) (ex : Exec) : Prop := ∀ r c s e s' m, ex r c s = some (e, s', m) → SCode P r c s.st e s'.st m
def quietV (v : Value) (H H' : AHeap) (m : Nat) : Res :=
 bif Nat.ble H.size m && gr v then some (true, v, H, H.size) else some (false, v, H', m)
def aleave (T : Tab) (fn : Func) (H : AHeap) (s' : ES) (m : Nat) : Res :=
 match atake s'.ds s'.H with
 | some H' => match ares T fn s'.n s'.e H' with
  | some v => fV v fun v => fNat (min (minAl m s'.ds) s'.H.size) fun m => quietV v H H' m
  | none => none
 | none => none
def acall0 (T : Tab) (ex : Exec) (f : FuncId) (args : List Value) (H : AHeap) : Res :=
 match T.fn f with
 | none => none
 | some fn => match fn.body with
  | none => none
  | some c => envK args 0 .nil fun e => fNat (args.length + (fn.ntmps - args.length)) fun n => match ex none c ⟨n, e, H, []⟩ with
   | some (.normal, s', m) => aleave T fn H s' m
   | some (.ret, s', m) => aleave T fn H s' m
   | _ => none
theorem aleave_ok (hT : T.Fits P) {f : FuncId} {fn : Func} {c : Code} {args : List Value} {H : AHeap} {e : Exit} {s' : ES} {m : Nat} (hf : HasCode P f fn c) (h : SCode P none c ⟨startT fn args, H, []⟩ e s'.st m) (he : e = .normal ∨ e = .ret)
  {b : Bool} {v : Value} {H' : AHeap} {m' : Nat} (hl : aleave T fn H s' m = some (b, v, H', m')) : SCall P f args H v H' m' ∧ (b = true → H' = H ∧ m' = H.size) := by
 unfold aleave at hl
 split at hl
 ·rename_i H₁ hk
  split at hl
  ·rename_i u hu
   simp only [fV_eq,fNat_eq] at hl
   rw [ares_eq] at hu
   have hmin := minAl_le m s'.ds
   have hc : SCall P f args H u H₁ (min (minAl m s'.ds) s'.H.size) := SCall.of_code hT hf h he hk hu (by omega) (by show _ ≤ s'.H.size; omega) (fun k hk' => by
    have := hmin.2 k hk'
    show min (minAl m s'.ds) s'.H.size ≤ k
    omega)
   unfold quietV at hl
   cases hq : (Nat.ble H.size (min (minAl m s'.ds) s'.H.size) && gr u)
   ·rw [hq] at hl
    cases hl
    exact ⟨hc, fun hb => by cases hb⟩
   ·rw [hq] at hl
    cases hl
    simp only [Bool.and_eq_true] at hq
    exact ⟨hc.gc (Nat.le_of_ble_eq_true hq.1) hq.2, fun _ => ⟨rfl, rfl⟩⟩
  ·cases hl
 ·cases hl
theorem acall0_ok (hT : T.Fits P) {ex : Exec} (hex : ExOk P ex) {f : FuncId} {args : List Value} {H : AHeap} {b : Bool} {v : Value} {H' : AHeap} {m : Nat} (h : acall0 T ex f args H = some (b, v, H', m)) :
  (∃ fn c, HasCode P f fn c) ∧ SCall P f args H v H' m ∧ (b = true → H' = H ∧ m = H.size) := by
 unfold acall0 at h
 split at h
 ·cases h
 ·rename_i fn hfn
  split at h
  ·cases h
  ·rename_i c hc
   simp only [envK_eq,fNat_eq] at h
   obtain ⟨g1, g2⟩ := hT.fn _ _ hfn
   have hf : HasCode P f fn c := ⟨g1, hc, g2⟩
   refine ⟨⟨fn, c, hf⟩, ?_⟩
   split at h
   ·rename_i s' m' he
    have := hex _ _ _ _ _ _ he
    simp only [ES.st,lst_env] at this
    exact aleave_ok hT hf this (.inl rfl) h
   ·rename_i s' m' he
    have := hex _ _ _ _ _ _ he
    simp only [ES.st,lst_env] at this
    exact aleave_ok hT hf this (.inr rfl) h
   ·cases h
/-- A call whose outcome is known already, or one that is run. -/
def acall (T : Tab) (ex : Exec) (f : FuncId) (args : List Value) (H : AHeap) : Res :=
 match T.memo f args H with
 | some r => some r
 | none => acall0 T ex f args H
theorem acall_ok (hT : T.Fits P) {ex : Exec} (hex : ExOk P ex) {f : FuncId} {args : List Value} {H : AHeap} {b : Bool} {v : Value} {H' : AHeap} {m : Nat} (h : acall T ex f args H = some (b, v, H', m)) :
  (∃ fn c, HasCode P f fn c) ∧ SCall P f args H v H' m ∧ (b = true → H' = H ∧ m = H.size) := by
 unfold acall at h
 split at h
 ·rename_i r hr
  cases h
  obtain ⟨⟨fn, c, h1, h2, h3⟩, h4, h5⟩ := hT.memo _ _ _ _ _ _ _ hr
  exact ⟨⟨fn, c, ⟨h1, h2, h3⟩⟩, h4, h5⟩
 ·exact acall0_ok hT hex h
def ayieldEnd (l : Nat) (m₁ : Nat) (jump : Option Code) (s₂ : ES) (m₂ : Nat) : Res :=
 match s₂.H.get l with
 | .loop _ _ t₂ ps₂ as₂ bd₂ d₂ => some (false, .bool jump.isNone, s₂.H.put l (.loop (if jump.isNone then .ready else .done) jump t₂ ps₂ as₂ bd₂ d₂), min (min m₁ l) (min m₂ l))
 | _ => none
def ayield (ex : Exec) (l : Nat) (args : List Value) (H : AHeap) : Res :=
 match H.get l with
 | .loop .ready _ t ps assign body _ =>
  bif Nat.beq args.length ps.size then
   envK (zipSet t (ps.toList.zip args)) 0 .nil fun e => fNat (zipSet t (ps.toList.zip args)).length fun n => match ex (some l) assign ⟨n, e, H, []⟩ with
   | some (.normal, s₁, m₁) => match s₁.H.get l with
    | .loop .ready pend₁ t₁ ps₁ as₁ bd₁ d₁ =>
     match ex (some l) body ⟨s₁.n, s₁.e, s₁.H.put l (.loop .busy pend₁ t₁ ps₁ as₁ bd₁ d₁), s₁.ds⟩ with
     | some (e, s₂, m₂) => match jumpOf e with
      | some jump => ayieldEnd l m₁ jump s₂ m₂
      | none => none
     | none => none
    | _ => none
   | _ => none
  else none
 | _ => none
theorem ayield_ok {ex : Exec} (hex : ExOk P ex) {l : Nat} {args : List Value} {H : AHeap} {b : Bool} {v : Value} {H' : AHeap} {m : Nat} (h : ayield ex l args H = some (b, v, H', m)) :
  SYield P l args H v H' m ∧ b = false := by
 unfold ayield at h
 split at h
 ·rename_i pend t ps assign body d hg
  cases hb : Nat.beq args.length ps.size
  ·rw [hb] at h; cases h
  ·rw [hb] at h
   simp only [cond_true,envK_eq,fNat_eq] at h
   split at h
   ·rename_i s₁ m₁ h1
    split at h
    ·rename_i pend₁ t₁ ps₁ as₁ bd₁ d₁ hg₁
     split at h
     ·rename_i e s₂ m₂ h2
      split at h
      ·rename_i jump hj
       unfold ayieldEnd at h
       split at h
       ·rename_i st₂ pend₂ t₂ ps₂ as₂ bd₂ d₂ hg₂
        cases h
        have a1 := hex _ _ _ _ _ _ h1
        have a2 := hex _ _ _ _ _ _ h2
        have e0 := lst_env (zipSet t (ps.toList.zip args)) 0
        simp only [Nat.add_zero,List.replicate_zero,List.append_nil] at e0
        simp only [ES.st,e0] at a1
        simp only [ES.st] at a2
        exact ⟨SYield.of_code hg (Nat.eq_of_beq_eq_true hb) a1 hg₁ a2 hg₂ hj, rfl⟩
       ·cases h
      ·cases h
     ·cases h
    ·cases h
   ·cases h
 ·cases h
def aopAny (T : Tab) (P : Program) (ex : Exec) (t : Operand → Option Value) (H : AHeap) (o : Op) : Res :=
 match o with
 | .call c => match c.callee with
  | .value f => match acallee t f c.args with
   | some (.func g, vs, cap) => acall T ex g (vs ++ cap) H
   | some (.yield l, vs, _) => ayield ex l vs H
   | _ => none
  | _ => aop T P t H (.call c)
 | o => aop T P t H o
theorem aopAny_ok (hT : T.Fits P) {ex : Exec} (hex : ExOk P ex) {r : Option Nat} {t : Operand → Option Value} {H : AHeap} {o : Oper} {b : Bool} {v : Value} {H' : AHeap} {m : Nat} (h : aopAny T P ex t H o.op = some (b, v, H', m)) :
  SOp P r o t H v H' m ∧ (b = true → H' = H ∧ m = H.size) := by
 have old : aop T P t H o.op = some (b, v, H', m) → SOp P r o t H v H' m ∧ (b = true → H' = H ∧ m = H.size) := fun h =>
  ⟨aop_sop hT h, fun hb => by subst hb; exact aop_still h⟩
 unfold aopAny at h
 split at h
 ·rename_i c ho
  obtain ⟨ce, args, tys⟩ := c
  simp only at h
  split at h
  ·rename_i f
   split at h
   ·rename_i g vs cap hc
    obtain ⟨⟨fn, c, hf⟩, h2, h3⟩ := acall_ok hT hex h
    exact ⟨SOp.call ho hc hf h2, h3⟩
   ·rename_i l vs cap hc
    obtain ⟨h2, h3⟩ := ayield_ok hex h
    exact ⟨SOp.yield ho hc h2, fun hb => by rw [h3] at hb; cases hb⟩
   ·cases h
  ·rw [← ho] at h; exact old h
 ·exact old h
/-! ### Regions in the order of the text -/
def ayieldE (ops : Array Oper) (n : Nat) (e : VT) (j : Nat) : Option Bool :=
 match (ops[j]?).bind (·.dst) with
 | some d => bif Nat.blt d n then (match e.get d with
   | .bool b => some b
   | _ => none) else none
 | none => none
theorem ayieldE_eq (ops : Array Oper) (n : Nat) (e : VT) (j : Nat) : ayieldE ops n e j = ayielded ops (lst n e) j := by
 unfold ayieldE ayielded
 cases hd : (ops[j]?).bind (·.dst) with
 | none => rfl
 | some d =>
  simp only [Option.bind_some,lst_get]
  by_cases h : d < n
  ·simp only [h,blt_true h,cond_true,if_true]
   cases e.get d <;> rfl
  ·simp [h, blt_false h]
def wantE (ops : Array Oper) (n : Nat) (e : VT) (o : Oper) : Bool := match o.guard with
 | none => true
 | some _ => Region.wanted o (ayieldE ops n e)
theorem wantE_eq (ops : Array Oper) (n : Nat) (e : VT) (o : Oper) : wantE ops n e o = awanted ops (lst n e) o := by
 unfold wantE awanted
 have : ayieldE ops n e = ayielded ops (lst n e) := funext fun j => ayieldE_eq ops n e j
 rw [this]
 cases hg : o.guard with
 | none => simp [Region.wanted, hg]
 | some _ => rfl
def aops (T : Tab) (P : Program) (ex : Exec) (ops : Array Oper) (n : Nat) (ds : List Nat) : List Oper → VT → AHeap → Option (VT × AHeap × Nat)
 | [], e, H => some (e, H, H.size)
 | o :: l, e, H =>
  bif wantE ops n e o then
   match aopAny T P ex (aenv n e) H o.op with
   | some (_, v, H₁, m₁) => fH H₁ fun H₁ => fNat m₁ fun m₁ => VT.putK e o.dst v fun e => match aops T P ex ops n ds l e H₁ with
    | some (e', H', m₂) => fNat (min m₁ m₂) fun m => some (e', H', m)
    | none => none
   | none => none
  else VT.putK e o.dst undef fun e => aops T P ex ops n ds l e H
theorem aops_ok (hT : T.Fits P) {ex : Exec} (hex : ExOk P ex) {r : Option Nat} {ops : Array Oper} {n : Nat} {ds : List Nat} : ∀ (l : List Oper) (k : Nat) (e : VT) (H : AHeap) (e' : VT) (H' : AHeap) (m : Nat),
  l = ops.toList.drop k → aops T P ex ops n ds l e H = some (e', H', m) → SOps P r ops (List.range' k l.length) ⟨lst n e, H, ds⟩ ⟨lst n e', H', ds⟩ m
 | [], k, e, H, e', H', m, _, h => by
  simp only [aops,Option.some.injEq,Prod.mk.injEq] at h
  obtain ⟨rfl, rfl, rfl⟩ := h
  exact SOps.nil
 | o :: l, k, e, H, e', H', m, hl, h => by
  have hk : ops[k]? = some o := by
   rw [← Array.getElem?_toList]
   have := congrArg (·[0]?) hl
   simpa using this.symm
  have hl' : l = ops.toList.drop (k + 1) := by
   have := congrArg List.tail hl
   simpa [List.tail_drop] using this
  simp only [aops] at h
  simp only [List.length_cons,List.range'_succ]
  cases hw : wantE ops n e o
  ·rw [hw] at h
   simp only [cond_false,VT.putK_eq] at h
   rw [wantE_eq] at hw
   have := aops_ok hT hex (r := r) l (k + 1) _ H e' H' m hl' h
   rw [lst_put] at this
   exact SOps.skip hk hw this
  ·rw [hw] at h
   simp only [cond_true,VT.putK_eq,fH_eq,fNat_eq] at h
   rw [wantE_eq] at hw
   split at h
   ·rename_i b v H₁ m₁ ho
    split at h
    ·rename_i e₂ H₂ m₂ h2
     cases h
     have := aops_ok hT hex (r := r) l (k + 1) _ H₁ e' H' m₂ hl' h2
     rw [lst_put] at this
     rw [aenv_eq] at ho
     exact SOps.op hk hw (aopAny_ok hT hex ho).1 this
    ·cases h
   ·cases h
end Go.Am
