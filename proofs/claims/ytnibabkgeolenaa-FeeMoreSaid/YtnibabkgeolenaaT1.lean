/- One operation at a time: moves, picks, parts of values, new blocks, reads and writes. -/
import Derived.Test.YtnibabkgeolenaaT0
set_option linter.unusedSimpArgs false
set_option linter.unusedVariables false
namespace Go.Am
variable {T : Tab} {P : Program} {σ : Place} {H : AHeap} {w : World} {t : Operand → Option Value} {ρ : Operand → Value}

theorem cells_ren (σ : Place) (v : Value) : (ren σ v).cells = v.cells.map (ren σ) := by
  cases v <;> simp [ren, Value.cells]
theorem okv_cells {v : Value} (h : okv σ v) : ∀ u ∈ v.cells, okv σ u := by
  cases v <;> first
    | (simp only [Value.cells]; intro u hu; simp at hu; subst hu; exact h)
    | (simp only [Value.cells]; simpa only [okv] using h)
theorem oneCell_ren (v : Value) : (ren σ v).oneCell' = v.oneCell' := by cases v <;> simp [ren, Value.oneCell']

def aMove (t : Operand → Option Value) (H : AHeap) (x : Operand) : Option (Value × AHeap × Nat) :=
  match t x with
  | some v => some (v, H, H.size)
  | none => none
theorem aMove_ok {o : Oper} {x : Operand} (ho : o.op = .move x ∨ o.op = .assign x) (r : Rel σ H w) (hρ : Evals σ t ρ) {v : Value} {H' : AHeap} {m : Nat}
    (h : aMove t H x = some (v, H', m)) : Runs P (execOp ρ o) σ H w v H' m := by
  unfold aMove at h
  split at h
  · rename_i v' hv
    cases h
    obtain ⟨h1, h2⟩ := hρ _ _ hv
    exact Runs.same r (by rcases ho with ho | ho <;> simp [execOp, ho, h1]) h2
  · cases h

def aPick (t : Operand → Option Value) (H : AHeap) (c a b : Operand) : Option (Value × AHeap × Nat) :=
  match t c, t a, t b with
  | some (.bool q), some x, some y => some (bif q then x else y, H, H.size)
  | _, _, _ => none
theorem aPick_ok {o : Oper} {c a b : Operand} (ho : o.op = .pick c a b) (r : Rel σ H w) (hρ : Evals σ t ρ) {v : Value} {H' : AHeap} {m : Nat}
    (h : aPick t H c a b = some (v, H', m)) : Runs P (execOp ρ o) σ H w v H' m := by
  unfold aPick at h
  split at h
  · rename_i q x y hc hx hy
    cases h
    obtain ⟨h1, _⟩ := hρ _ _ hc
    obtain ⟨h3, h4⟩ := hρ _ _ hx
    obtain ⟨h5, h6⟩ := hρ _ _ hy
    simp only [ren] at h1
    refine Runs.same r ?_ ?_
    · cases q <;> simp [execOp, ho, h1, h3, h5, asBool]
    · cases q <;> simp [h4, h6]
  · cases h

def aExtract (t : Operand → Option Value) (H : AHeap) (x : Operand) (i : Nat) : Option (Value × AHeap × Nat) :=
  match t x with
  | some (.tuple vs) => match vs.toList[i]? with
    | some v => some (v, H, H.size)
    | none => none
  | _ => none
theorem aExtract_ok {o : Oper} {x : Operand} {i : Nat} (ho : o.op = .extract x i) (r : Rel σ H w) (hρ : Evals σ t ρ) {v : Value} {H' : AHeap} {m : Nat}
    (h : aExtract t H x i = some (v, H', m)) : Runs P (execOp ρ o) σ H w v H' m := by
  unfold aExtract at h
  split at h
  · rename_i vs hx
    split at h
    · rename_i v' hv
      cases h
      obtain ⟨h1, h2⟩ := hρ _ _ hx
      simp only [okv] at h2
      simp only [ren] at h1
      have hv' : vs[i]? = some v := by simpa using hv
      exact Runs.same r (by simp [execOp, ho, h1, Instr.extract, hv']) (h2 v (Array.mem_of_getElem? hv'))
    · cases h
  · cases h

def aPart (T : Tab) (ty : TypeId) (cs : List Value) (off : Nat) : Option Value :=
  match T.und ty, T.inf ty with
  | some d, some i => bif aggOf d then some (.agg ((cs.drop off).take i.size).toArray) else cs[off]?
  | _, _ => none
theorem aPart_ok (hT : T.Fits P) {ty : TypeId} {cs : Array Value} {off : Nat} {v : Value} (h : aPart T ty cs.toList off = some v) (hc : ∀ u ∈ cs, okv σ u) :
    (part ty (cs.map (ren σ)) off).run P w = .ok (ren σ v) w ∧ okv σ v := by
  unfold aPart at h
  split at h
  · rename_i d i hd hi
    cases hagg : aggOf d
    · simp only [hagg,cond_false] at h
      have h' : cs[off]? = some v := by simpa using h
      refine ⟨?_, hc v (Array.mem_of_getElem? h')⟩
      simp [part, run_isAgg hT hd, hagg, h']
    · simp only [hagg,cond_true,Option.some.injEq] at h
      subst h
      refine ⟨?_, ?_⟩
      · simp only [part,Sem.run_bind,run_isAgg hT hd,hagg,Result.andThen_ok,if_true,run_size hT hi,Sem.run_pure,ren,Array.map_extract]
        congr 2
        apply Array.ext'
        simp
      · simp only [okv]
        intro u hu
        have : u ∈ cs.toList := List.mem_of_mem_drop (List.mem_of_mem_take (by simpa using hu))
        exact hc u (by simpa using this)
  · cases h

def aField (T : Tab) (t : Operand → Option Value) (H : AHeap) (ty : TypeId) (x : Operand) (f : Nat) : Option (Value × AHeap × Nat) :=
  match t x, T.und ty with
  | some (.agg cs), some (.struct fs) => match fs[f]? with
    | some fd => match aPart T fd.type cs.toList fd.offset with
      | some v => some (v, H, H.size)
      | none => none
    | none => none
  | _, _ => none
theorem aField_ok (hT : T.Fits P) {o : Oper} {ty : TypeId} {x : Operand} {f : Nat} (ho : o.op = .field ty x f) (r : Rel σ H w) (hρ : Evals σ t ρ) {v : Value} {H' : AHeap} {m : Nat}
    (h : aField T t H ty x f = some (v, H', m)) : Runs P (execOp ρ o) σ H w v H' m := by
  unfold aField at h
  split at h
  · rename_i cs fs hx hty
    split at h
    · rename_i fd hf
      split at h
      · rename_i v' hp
        cases h
        obtain ⟨h1, h2⟩ := hρ _ _ hx
        simp only [okv] at h2
        simp only [ren] at h1
        obtain ⟨h3, h4⟩ := aPart_ok (w := w) hT hp h2
        exact Runs.same r (by simp [execOp, ho, h1, Instr.field, run_und hT hty, hf, asAgg, h3]) h4
      · cases h
    · cases h
  · cases h

def aIndex (T : Tab) (t : Operand → Option Value) (H : AHeap) (ty : TypeId) (x ix : Operand) : Option (Value × AHeap × Nat) :=
  match t x, t ix, T.und ty with
  | some (.agg cs), some (.int _ n), some (.array len e) => match T.inf e with
    | some i => bif decide (0 ≤ n) && decide (n < len) then match aPart T e cs.toList (n.toNat * i.size) with
        | some v => some (v, H, H.size)
        | none => none
      else none
    | none => none
  | _, _, _ => none
theorem aIndex_ok (hT : T.Fits P) {o : Oper} {ty : TypeId} {x ix : Operand} (ho : o.op = .index ty x ix) (r : Rel σ H w) (hρ : Evals σ t ρ) {v : Value} {H' : AHeap} {m : Nat}
    (h : aIndex T t H ty x ix = some (v, H', m)) : Runs P (execOp ρ o) σ H w v H' m := by
  unfold aIndex at h
  split at h
  · rename_i cs k n len e hx hix hty
    split at h
    · rename_i i hi
      cases hb : (decide (0 ≤ n) && decide (n < len))
      · simp [hb] at h
      · simp only [hb,cond_true] at h
        split at h
        · rename_i v' hp
          cases h
          obtain ⟨h1, h2⟩ := hρ _ _ hx
          obtain ⟨h5, _⟩ := hρ _ _ hix
          simp only [okv] at h2
          simp only [ren] at h1 h5
          simp only [Bool.and_eq_true,decide_eq_true_eq] at hb
          obtain ⟨h3, h4⟩ := aPart_ok (w := w) hT hp h2
          exact Runs.same r (by simp [execOp, ho, h1, h5, Instr.index, asIntOf, run_und hT hty, hb, run_size hT hi, h3]) h4
        · cases h
    · cases h
  · cases h

/-- A function value: its function and what it has captured. -/
def avals (t : Operand → Option Value) : List Operand → Option (List Value)
  | [] => some []
  | x :: xs => match t x, avals t xs with
    | some v, some vs => some (v :: vs)
    | _, _ => none
theorem avals_ok (hρ : Evals σ t ρ) : ∀ {l : List Operand} {vs : List Value}, avals t l = some vs → l.map ρ = vs.map (ren σ) ∧ ∀ v ∈ vs, okv σ v
  | [], vs, h => by simp only [avals,Option.some.injEq] at h; subst h; simp
  | x :: xs, vs, h => by
    simp only [avals] at h
    split at h
    · rename_i v vs' hv hvs
      cases h
      obtain ⟨h1, h2⟩ := hρ _ _ hv
      obtain ⟨h3, h4⟩ := avals_ok hρ hvs
      refine ⟨by simp [h1, h3], fun u hu => ?_⟩
      rcases List.mem_cons.1 hu with rfl | hu
      · exact h2
      · exact h4 u hu
    · cases h

def aMakeFunc (t : Operand → Option Value) (H : AHeap) (fn : Fn) (first captured : Array Operand) : Option (Value × AHeap × Nat) :=
  match fn, avals t first.toList, avals t captured.toList with
  | .func f, some a, some b => some (.func (.func f) a.toArray b.toArray, H, H.size)
  | _, _, _ => none
theorem aMakeFunc_ok {o : Oper} {fn : Fn} {first captured : Array Operand} (ho : o.op = .makeFunc fn first captured) (r : Rel σ H w) (hρ : Evals σ t ρ) {v : Value} {H' : AHeap} {m : Nat}
    (h : aMakeFunc t H fn first captured = some (v, H', m)) : Runs P (execOp ρ o) σ H w v H' m := by
  unfold aMakeFunc at h
  split at h
  · rename_i f a b ha hb
    cases h
    obtain ⟨h1, h2⟩ := avals_ok hρ ha
    obtain ⟨h3, h4⟩ := avals_ok hρ hb
    have e1 : first.map ρ = (a.map (ren σ)).toArray := by apply Array.ext'; simpa using h1
    have e2 : captured.map ρ = (b.map (ren σ)).toArray := by apply Array.ext'; simpa using h3
    refine Runs.same r (by simp [execOp, ho, Instr.makeFunc, ren, e1, e2, Place.fn]) ?_
    simp only [okv,okfn]
    exact ⟨trivial, fun v hv => h2 v (by simpa using hv), fun v hv => h4 v (by simpa using hv)⟩
  · cases h

def aNilCheck (t : Operand → Option Value) (H : AHeap) (x : Operand) : Option (Value × AHeap × Nat) :=
  match t x with
  | some (.pointer (some a)) => some (.pointer (some a), H, H.size)
  | some (.func (.func f) first captured) => some (.func (.func f) first captured, H, H.size)
  | _ => none
theorem aNilCheck_ok {o : Oper} {x : Operand} (ho : o.op = .nilCheck x) (r : Rel σ H w) (hρ : Evals σ t ρ) {v : Value} {H' : AHeap} {m : Nat}
    (h : aNilCheck t H x = some (v, H', m)) : Runs P (execOp ρ o) σ H w v H' m := by
  unfold aNilCheck at h
  split at h
  · rename_i a hx
    cases h
    obtain ⟨h1, h2⟩ := hρ _ _ hx
    refine Runs.same r ?_ h2
    simp only [ren,Option.map_some] at h1 ⊢
    simp [execOp, ho, h1]
  · rename_i f first captured hx
    cases h
    obtain ⟨h1, h2⟩ := hρ _ _ hx
    refine Runs.same r ?_ h2
    simp only [ren,Place.fn] at h1 ⊢
    simp [execOp, ho, h1]
  · cases h

/-! ### New blocks -/
/-! ### Addresses, reads and writes -/
def cellsOf : ABlk → Option (List Value)
  | .ro c => some c
  | .rw c _ _ _ => some c
  | _ => none

theorem Rel.cells (r : Rel σ H w) {k b s : Nat} (hk : σ.at_ k = some (b, s)) {c : List Value} (hc : cellsOf (H.get k) = some c) :
    ∀ i v, c[i]? = some v → okv σ v ∧ w.cell? ⟨b, s + i, none⟩ = some (ren σ v) := by
  intro i v hi
  have h := r.holds k b s hk
  cases hg : H.get k with
  | ro c' => rw [hg] at h hc; simp only [cellsOf,Option.some.injEq] at hc; subst hc; exact h i v hi
  | rw c' e o al =>
    rw [hg] at h hc; simp only [cellsOf,Option.some.injEq] at hc; subst hc
    obtain ⟨h0, h1, rest, h2, _⟩ := h
    subst h0
    refine ⟨h1 v (List.mem_of_getElem? hi), ?_⟩
    rw [cell_of_row w b (0 + i) _ _ _ h2]
    have hlt : i < c'.length := (List.getElem?_eq_some_iff.1 hi).1
    simp only [List.getElem?_toArray,Nat.zero_add]
    rw [List.getElem?_append_left (by simpa using hlt), List.getElem?_map, hi]; rfl
  | dead => rw [hg] at hc; cases hc
  | map => rw [hg] at hc; cases hc
  | loop => rw [hg] at hc; cases hc
  | defer => rw [hg] at hc; cases hc

def aFieldAddr (T : Tab) (t : Operand → Option Value) (H : AHeap) (ty : TypeId) (x : Operand) (f : Nat) : Option (Value × AHeap × Nat) :=
  match t x, T.und ty with
  | some (.pointer (some a)), some (.struct fs) => match fs[f]? with
    | some fd => match T.inf fd.type with
      | some i => bif Nat.beq i.size 0 then none else some (.pointer (some ⟨a.block, a.off + fd.offset, none⟩), H, H.size)
      | none => none
    | none => none
  | _, _ => none

theorem addr_off (σ : Place) {a : Addr} (h : a.spot = none ∧ (σ.at_ a.block).isSome = true) (n : Nat) :
    (σ.addr a).add n = σ.addr ⟨a.block, a.off + n, none⟩ := by
  obtain ⟨p, hp⟩ := Option.isSome_iff_exists.1 h.2
  obtain ⟨b, s⟩ := p
  simp only [Place.addr,hp,Addr.add]
  split
  · rename_i h0; subst h0; simp
  · simp [Nat.add_assoc]

theorem aFieldAddr_ok (hT : T.Fits P) {o : Oper} {ty : TypeId} {x : Operand} {f : Nat} (ho : o.op = .fieldAddr ty x f) (r : Rel σ H w) (hρ : Evals σ t ρ) {v : Value} {H' : AHeap} {m : Nat}
    (h : aFieldAddr T t H ty x f = some (v, H', m)) : Runs P (execOp ρ o) σ H w v H' m := by
  unfold aFieldAddr at h
  split at h
  · rename_i a fs hx hty
    split at h
    · rename_i fd hf
      split at h
      · rename_i i hi
        cases hb : Nat.beq i.size 0
        · simp only [hb,cond_false] at h
          cases h
          have hne : i.size ≠ 0 := fun e => by rw [e] at hb; cases hb
          obtain ⟨h1, h2⟩ := hρ _ _ hx
          simp only [okv] at h2
          simp only [ren,Option.map_some] at h1
          refine Runs.same r ?_ (by simpa [okv] using h2.2)
          simp only [ren,Option.map_some]
          rw [← addr_off σ h2]
          simp [execOp, ho, h1, Instr.fieldAt, run_und hT hty, hf, Instr.sureAddr, fieldPlace, run_size hT hi, hne]
        · simp [hb] at h
      · cases h
    · cases h
  · cases h

def aIndexAddr (T : Tab) (t : Operand → Option Value) (H : AHeap) (ty : TypeId) (x ix : Operand) : Option (Value × AHeap × Nat) :=
  match t x, t ix, T.und ty with
  | some (.pointer (some a)), some (.int _ n), some (.array len e) => match T.inf e with
    | some i => bif decide (0 ≤ n) && decide (n < len) then some (.pointer (some ⟨a.block, a.off + n.toNat * i.size, none⟩), H, H.size) else none
    | none => none
  | some (.slice (some a) len _), some (.int _ n), some (.slice e) => match T.inf e with
    | some i => bif decide (0 ≤ n) && decide (n < len) then some (.pointer (some ⟨a.block, a.off + n.toNat * i.size, none⟩), H, H.size) else none
    | none => none
  | _, _, _ => none
theorem aIndexAddr_ok (hT : T.Fits P) {o : Oper} {ty : TypeId} {x ix : Operand} (ho : o.op = .indexAddr ty x ix) (r : Rel σ H w) (hρ : Evals σ t ρ) {v : Value} {H' : AHeap} {m : Nat}
    (h : aIndexAddr T t H ty x ix = some (v, H', m)) : Runs P (execOp ρ o) σ H w v H' m := by
  unfold aIndexAddr at h
  split at h
  · rename_i a k n len e hx hix hty
    split at h
    · rename_i i hi
      cases hb : (decide (0 ≤ n) && decide (n < len))
      · simp [hb] at h
      · simp only [hb,cond_true] at h
        cases h
        simp only [Bool.and_eq_true,decide_eq_true_eq] at hb
        obtain ⟨h1, h2⟩ := hρ _ _ hx
        obtain ⟨h5, _⟩ := hρ _ _ hix
        simp only [okv] at h2
        simp only [ren,Option.map_some] at h1 h5
        refine Runs.same r ?_ (by simpa [okv] using h2.2)
        simp only [ren,Option.map_some]
        rw [← addr_off σ h2]
        simp [execOp, ho, h1, h5, Instr.indexAt, asIntOf, run_und hT hty, Instr.sureAddr, run_size hT hi, hb]
    · cases h
  · rename_i a len cap k n e hx hix hty
    split at h
    · rename_i i hi
      cases hb : (decide (0 ≤ n) && decide (n < len))
      · simp [hb] at h
      · simp only [hb,cond_true] at h
        cases h
        simp only [Bool.and_eq_true,decide_eq_true_eq] at hb
        obtain ⟨h1, h2⟩ := hρ _ _ hx
        obtain ⟨h5, _⟩ := hρ _ _ hix
        simp only [okv] at h2
        simp only [ren,Option.map_some] at h1 h5
        refine Runs.same r ?_ (by simpa [okv] using h2.2.1)
        simp only [ren,Option.map_some]
        rw [← addr_off σ ⟨h2.1, h2.2.1⟩]
        simp [execOp, ho, h1, h5, Instr.indexAt, asIntOf, run_und hT hty, run_size hT hi, hb]
    · cases h
  · cases h

def aRead (T : Tab) (H : AHeap) (ty : TypeId) (a : Addr) : Option Value :=
  match cellsOf (H.get a.block), T.und ty, T.inf ty with
  | some c, some d, some i =>
    bif aggOf d then
      bif Nat.beq ((c.drop a.off).take i.size).length i.size then some (.agg ((c.drop a.off).take i.size).toArray) else none
    else c[a.off]?
  | _, _, _ => none

theorem aRead_ok (hT : T.Fits P) (r : Rel σ H w) {ty : TypeId} {a : Addr} (ha : a.spot = none ∧ (σ.at_ a.block).isSome = true) {v : Value} (h : aRead T H ty a = some v) :
    (loadVar ty (σ.addr a)).run P w = .ok (ren σ v) w ∧ okv σ v := by
  unfold aRead at h
  obtain ⟨p, hp⟩ := Option.isSome_iff_exists.1 ha.2
  obtain ⟨b, s⟩ := p
  have hadd : σ.addr a = ⟨b, s + a.off, none⟩ := by simp [Place.addr, hp]
  split at h
  · rename_i c d i hc hd hi
    have hcell := r.cells hp hc
    cases hagg : aggOf d
    · simp only [hagg,cond_false] at h
      obtain ⟨h1, h2⟩ := hcell _ _ h
      refine ⟨?_, h1⟩
      rw [hadd]
      simp [loadVar, run_isAgg hT hd, hagg, h2]
    · simp only [hagg,cond_true] at h
      cases hl : Nat.beq ((c.drop a.off).take i.size).length i.size
      · rw [hl] at h; cases h
      · simp only [hl,cond_true,Option.some.injEq] at h
        subst h
        have hlen : ((c.drop a.off).take i.size).length = i.size := Nat.eq_of_beq_eq_true hl
        have hget : ∀ j v, ((c.drop a.off).take i.size)[j]? = some v → c[a.off + j]? = some v := by
          intro j v hj
          rw [List.getElem?_take] at hj
          split at hj
          · rwa [List.getElem?_drop] at hj
          · cases hj
        refine ⟨?_, ?_⟩
        · have hrun := run_loadCells_list (P := P) w ⟨b, s + a.off, none⟩ (((c.drop a.off).take i.size).map (ren σ)) (fun j v hj => by
            rw [List.getElem?_map] at hj
            cases hu : ((c.drop a.off).take i.size)[j]? with
            | none => rw [hu] at hj; cases hj
            | some u =>
              rw [hu] at hj; simp only [Option.map_some,Option.some.injEq] at hj; subst hj
              have := (hcell _ _ (hget j u hu)).2
              have e : (⟨b, s + a.off, none⟩ : Addr).add j = ⟨b, s + (a.off + j), none⟩ := by
                unfold Addr.add; split
                · rename_i h0; subst h0; simp
                · simp [Nat.add_assoc]
              rw [e]; exact this)
          rw [List.length_map, hlen] at hrun
          rw [hadd]
          simp only [loadVar,Sem.run_bind,run_isAgg hT hd,hagg,Result.andThen_ok,if_true,run_size hT hi,hrun,Sem.run_pure,ren]
          simp
        · simp only [okv]
          intro u hu
          obtain ⟨j, hj⟩ := List.getElem?_of_mem (show u ∈ (c.drop a.off).take i.size by simpa using hu)
          exact (hcell _ _ (hget j u hj)).1
  · cases h

def aLoad (T : Tab) (t : Operand → Option Value) (H : AHeap) (ty : TypeId) (x : Operand) : Option (Value × AHeap × Nat) :=
  match t x with
  | some (.pointer (some a)) => match aRead T H ty a with
    | some v => some (v, H, H.size)
    | none => none
  | _ => none
theorem aLoad_ok (hT : T.Fits P) {o : Oper} {ty : TypeId} {x : Operand} (ho : o.op = .load ty x) (r : Rel σ H w) (hρ : Evals σ t ρ) {v : Value} {H' : AHeap} {m : Nat}
    (h : aLoad T t H ty x = some (v, H', m)) : Runs P (execOp ρ o) σ H w v H' m := by
  unfold aLoad at h
  split at h
  · rename_i a hx
    split at h
    · rename_i v' hr
      cases h
      obtain ⟨h1, h2⟩ := hρ _ _ hx
      simp only [okv] at h2
      simp only [ren,Option.map_some] at h1
      obtain ⟨h3, h4⟩ := aRead_ok hT r h2 hr
      exact Runs.same r (by simp [execOp, ho, h1, Instr.loadAt, Instr.sureAddr, h3]) h4
    · cases h
  · cases h

def oneCells : List Value → Bool
  | [] => true
  | v :: vs => v.oneCell' && oneCells vs
theorem oneCells_mem : ∀ {l : List Value}, oneCells l = true → ∀ v ∈ l, v.oneCell' = true
  | [], _, v, hv => by simp at hv
  | x :: xs, h, v, hv => by
    simp only [oneCells,Bool.and_eq_true] at h
    rcases List.mem_cons.1 hv with rfl | hv
    · exact h.1
    · exact oneCells_mem h.2 v hv

def minAl (k : Nat) : List Nat → Nat
  | [] => k
  | j :: js => min j (minAl k js)
theorem minAl_le (k : Nat) : ∀ l, minAl k l ≤ k ∧ ∀ j ∈ l, minAl k l ≤ j
  | [] => ⟨Nat.le_refl _, fun j hj => by simp at hj⟩
  | x :: xs => by
    obtain ⟨h1, h2⟩ := minAl_le k xs
    refine ⟨by simp only [minAl]; omega, fun j hj => ?_⟩
    simp only [minAl]
    rcases List.mem_cons.1 hj with rfl | hj
    · omega
    · have := h2 j hj; omega

/-- Cells are written into a block of one's own. -/
def aWrite (H : AHeap) (k off : Nat) (vs : List Value) : Option (AHeap × Nat) :=
  match H.get k with
  | .rw c e opn al =>
    bif Nat.ble (off + vs.length) c.length && oneCells vs then
      some ((H.kill al).put k (.rw (c.take off ++ vs ++ c.drop (off + vs.length)) e opn []), minAl k al)
    else none
  | _ => none

theorem heap_setRow_other (w : World) (g : Nat) (cs : Array Value) {j : Nat} (h : j ≠ g) : (w.setRow g cs).heap[j]? = w.heap[j]? := by
  simp only [World.setRow,Array.getElem?_modify]
  rw [if_neg (Ne.symm h)]
theorem heap_setRow_same (w : World) (g : Nat) (cs cur : Array Value) (e : TypeId) (fr : Nat × Nat) (h : w.heap[g]? = some (.cells cur e fr)) :
    (w.setRow g cs).heap[g]? = some (.cells cs e fr) := by
  simp [World.setRow, Array.getElem?_modify, h]

theorem aWrite_ok (r : Rel σ H w) {k b s off m : Nat} {vs : List Value} {H' : AHeap} (hk : σ.at_ k = some (b, s)) (hv : ∀ v ∈ vs, okv σ v)
    (h : aWrite H k off vs = some (H', m)) :
    ∃ w', (storeCells ⟨b, s + off, none⟩ (vs.map (ren σ)) 0).run P w = .ok () w' ∧ Rel σ H' w' ∧ Ext σ H w σ H' w' m := by
  unfold aWrite at h
  split at h
  · rename_i c e opn al hg
    cases hb : (Nat.ble (off + vs.length) c.length && oneCells vs)
    · simp [hb] at h
    · simp only [hb,cond_true] at h
      cases h
      simp only [Bool.and_eq_true] at hb
      have hle : off + vs.length ≤ c.length := Nat.le_of_ble_eq_true hb.1
      have hhold := r.holds k b s hk
      rw [hg] at hhold
      obtain ⟨h0, h1, rest, h2, h3, h4⟩ := hhold
      subst h0
      have hst := run_storeCells_at P b off e (vs.map (ren σ)) 0 _ w h2 (by simp; omega) (fun v hv' => by
        obtain ⟨u, hu, rfl⟩ := List.mem_map.1 hv'
        rw [oneCell_ren]; exact oneCells_mem hb.2 u hu)
      rw [Nat.zero_add]
      refine ⟨_, hst, ?_, ?_⟩
      · refine r.update hk (al := al) (by rw [hg]; rfl) (by simp) (fun j hj => heap_setRow_other _ _ _ hj) _ ?_
        refine ⟨rfl, ?_, rest, ?_, ?_, h4⟩
        · intro v hv'
          rcases List.mem_append.1 hv' with hv' | hv'
          · rcases List.mem_append.1 hv' with hv' | hv'
            · exact h1 v (List.mem_of_mem_take hv')
            · exact hv v hv'
          · exact h1 v (List.mem_of_mem_drop hv')
        · rw [heap_setRow_same _ _ _ _ _ _ h2]
          congr 2
          simp only [Nat.add_zero,List.length_map,List.map_append,List.map_take,List.map_drop,List.append_assoc]
          congr 1
          rw [List.take_append_of_le_length (by simp; omega)]
          congr 2
          rw [List.drop_append_of_le_length (by simp; omega)]
        · simp; omega
      · exact Ext.update r hk (by simp) (fun j hj => heap_setRow_other _ _ _ hj) rfl rfl rfl _ (minAl_le k al).1 (minAl_le k al).2
  · cases h

def aStore (T : Tab) (t : Operand → Option Value) (H : AHeap) (ty : TypeId) (x y : Operand) : Option (Value × AHeap × Nat) :=
  match t x, t y, T.inf ty with
  | some (.pointer (some a)), some v, some i =>
    bif Nat.beq v.cells.toList.length i.size then
      match aWrite H a.block a.off v.cells.toList with
      | some (H', m) => some (undef, H', m)
      | none => none
    else none
  | _, _, _ => none
theorem aStore_ok (hT : T.Fits P) {o : Oper} {ty : TypeId} {x y : Operand} (ho : o.op = .store ty x y) (r : Rel σ H w) (hρ : Evals σ t ρ) {v : Value} {H' : AHeap} {m : Nat}
    (h : aStore T t H ty x y = some (v, H', m)) : Runs P (execOp ρ o) σ H w v H' m := by
  unfold aStore at h
  split at h
  · rename_i a u i hx hy hi
    cases hb : Nat.beq u.cells.toList.length i.size
    · rw [hb] at h; cases h
    · simp only [hb,cond_true] at h
      split at h
      · rename_i H1 m1 hw
        cases h
        obtain ⟨h1, h2⟩ := hρ _ _ hx
        obtain ⟨h3, h4⟩ := hρ _ _ hy
        simp only [okv] at h2
        simp only [ren,Option.map_some] at h1
        obtain ⟨p, hp⟩ := Option.isSome_iff_exists.1 h2.2
        obtain ⟨b, s⟩ := p
        obtain ⟨w', h5, h6, h7⟩ := aWrite_ok (P := P) r hp (fun v hv => okv_cells h4 v (by simpa using hv)) hw
        have hlen : u.cells.size = i.size := by have := Nat.eq_of_beq_eq_true hb; simpa using this
        refine ⟨σ, w', .skip, ?_, .inr ⟨rfl, rfl⟩, okv_undef σ, h6, h7⟩
        have hadd : σ.addr a = ⟨b, s + a.off, none⟩ := by simp [Place.addr, hp]
        have hcl : (ren σ u).cells.toList = u.cells.toList.map (ren σ) := by rw [cells_ren]; simp
        simp only [execOp,ho,h1,h3,Instr.storeAt,Instr.sureAddr,storeVar,Sem.run_bind,Sem.run_pure,Result.andThen_ok,run_size hT hi,hadd,hcl,h5]
        simp [cells_ren, hlen, h5]
      · cases h
  · cases h

end Go.Am
/- Literals of structs and arrays, new slices and maps, cuts of slices, numbers. -/
namespace Go.Am
variable {T : Tab} {P : Program} {σ : Place} {H : AHeap} {w : World} {t : Operand → Option Value} {ρ : Operand → Value}

def agree2 (t : Operand → Option Value) (ρ : Operand → Value) (l : List Operand) : Prop := ∀ x ∈ l, ρ x = aρ t x
theorem ground_eval (hρ : Evals σ t ρ) {l : List Operand} (h : allGr t l = true) : agree2 t ρ l := fun x hx => by
  obtain ⟨v, hv, hg⟩ := allGr_mem h x hx
  rw [(hρ x v hv).1, (gr_ok σ hg).2]
  simp [aρ, hv]

def aPureOf (P : Program) (H : AHeap) (s : Sem Value) : Option (Value × AHeap × Nat) :=
  match pureRun P s with
  | some v => bif gr v then some (v, H, H.size) else none
  | none => none
theorem aPureOf_ok {s : Sem Value} {s' : Sem Next} (hs : s' = (do pure (.value (← s)))) (r : Rel σ H w) {v : Value} {H' : AHeap} {m : Nat}
    (h : aPureOf P H s = some (v, H', m)) : Runs P s' σ H w v H' m := by
  unfold aPureOf at h
  split at h
  · rename_i u hu
    cases hg : gr u
    · rw [hg] at h; cases h
    · rw [hg] at h; cases h
      obtain ⟨h1, h2⟩ := gr_ok σ hg
      refine Runs.same r ?_ h1
      rw [hs, h2]
      simp [pureRun_run hu]
  · cases h

def aUn (P : Program) (t : Operand → Option Value) (H : AHeap) (op : UnOp) (x : Operand) : Option (Value × AHeap × Nat) :=
  bif allGr t [x] then aPureOf P H (Op.unary op (aρ t x)) else none
theorem aUn_ok {o : Oper} {op : UnOp} {ty : TypeId} {x : Operand} (ho : o.op = .unOp op ty x) (r : Rel σ H w) (hρ : Evals σ t ρ) {v : Value} {H' : AHeap} {m : Nat}
    (h : aUn P t H op x = some (v, H', m)) : Runs P (execOp ρ o) σ H w v H' m := by
  unfold aUn at h
  cases hb : allGr t [x]
  · rw [hb] at h; cases h
  · rw [hb] at h
    exact aPureOf_ok (by simp only [execOp,ho,ground_eval hρ hb x (by simp)]) r h

def aConv (T : Tab) (P : Program) (t : Operand → Option Value) (H : AHeap) (src dst : TypeId) (x : Operand) : Option (Value × AHeap × Nat) :=
  bif allGr t [x] then
    match aρ t x, T.und src, T.und dst with
    | .int _ n, some _, some (.int k) => some (.int k (k.wrap n), H, H.size)
    | _, _, _ => aPureOf P H (convert src dst (aρ t x))
  else none
theorem aConv_ok (hT : T.Fits P) {o : Oper} {src dst : TypeId} {x : Operand} (ho : o.op = .convert src dst x) (r : Rel σ H w) (hρ : Evals σ t ρ) {v : Value} {H' : AHeap} {m : Nat}
    (h : aConv T P t H src dst x = some (v, H', m)) : Runs P (execOp ρ o) σ H w v H' m := by
  unfold aConv at h
  cases hb : allGr t [x]
  · rw [hb] at h; cases h
  · rw [hb] at h
    simp only [cond_true] at h
    split at h
    · rename_i k n d k' hx hs hd
      cases h
      refine Runs.same r ?_ (by simp [okv])
      have e := ground_eval hρ hb x (by simp)
      simp [execOp, ho, e, hx, convert, run_und hT hs, run_und hT hd, Conv.intToInt, ren]
    · exact aPureOf_ok (by simp only [execOp,ho,ground_eval hρ hb x (by simp)]) r h

theorem aBin_ok {o : Oper} {op : BinOp} {ty yt : TypeId} {x y : Operand} (ho : o.op = .binOp op ty x y yt) (hT : T.Fits P) (r : Rel σ H w) (hρ : Evals σ t ρ) {v : Value} {H' : AHeap} {m : Nat}
    (h : (bif allGr t [x, y] then aPureOf P H (do eqGuard op ty x y (aρ t x) (aρ t y); binOp op ty (aρ t x) (aρ t y)) else none) = some (v, H', m)) : Runs P (execOp ρ o) σ H w v H' m := by
  cases hb : allGr t [x, y]
  · rw [hb] at h; cases h
  · rw [hb] at h
    exact aPureOf_ok (by simp only [execOp,ho,ground_eval hρ hb x (by simp),ground_eval hρ hb y (by simp)]) r h

theorem run_equal_slice (hT : T.Fits P) {ty e : TypeId} (hty : T.und ty = some (.slice e)) (p q : Option Addr) (l c l' c' : Nat) (h : (p.isNone || q.isNone) = true) :
    (Op.equal ty (.slice p l c) (.slice q l' c')).run P w = .ok (p.isNone && q.isNone) w := by
  show (Op.equalIn (9999 + 1) ty (.slice p l c) (.slice q l' c')).run P w = _
  rw [Op.equalIn]
  simp only [Sem.run_bind,run_und hT hty,Result.andThen_ok]
  cases p <;> cases q <;> simp at h <;> rfl

/-- Comparisons with nil. -/
def aNil (T : Tab) (t : Operand → Option Value) (H : AHeap) (op : BinOp) (ty : TypeId) (x y : Operand) : Option (Value × AHeap × Nat) :=
  match op, t x, t y, T.und ty with
  | .eql, some (.slice p _ _), some (.slice q _ _), some (.slice _) => bif p.isNone || q.isNone then some (.bool (p.isNone && q.isNone), H, H.size) else none
  | .neq, some (.slice p _ _), some (.slice q _ _), some (.slice _) => bif p.isNone || q.isNone then some (.bool !(p.isNone && q.isNone), H, H.size) else none
  | _, _, _, _ => none
theorem aNil_ok (hT : T.Fits P) {o : Oper} {op : BinOp} {ty yt : TypeId} {x y : Operand} (ho : o.op = .binOp op ty x y yt) (r : Rel σ H w) (hρ : Evals σ t ρ) {v : Value} {H' : AHeap} {m : Nat}
    (h : aNil T t H op ty x y = some (v, H', m)) : Runs P (execOp ρ o) σ H w v H' m := by
  unfold aNil at h
  split at h
  · rename_i p l c q l' c' e hx hy hty
    cases hb : (p.isNone || q.isNone)
    · rw [hb] at h; cases h
    · rw [hb] at h; cases h
      obtain ⟨h1, _⟩ := hρ _ _ hx
      obtain ⟨h2, _⟩ := hρ _ _ hy
      simp only [ren] at h1 h2
      refine Runs.same r ?_ (by simp [okv])
      have hq := run_equal_slice (w := w) hT hty (p.map σ.addr) (q.map σ.addr) l (σ.cap p c) l' (σ.cap q c') (by simpa using hb)
      have hg : (eqGuard .eql ty x y (.slice (p.map σ.addr) l (σ.cap p c)) (.slice (q.map σ.addr) l' (σ.cap q c'))).run P w = .ok () w := rfl
      have hbin : binOp .eql ty (.slice (p.map σ.addr) l (σ.cap p c)) (.slice (q.map σ.addr) l' (σ.cap q c')) = (do pure (.bool (← Op.equal ty (.slice (p.map σ.addr) l (σ.cap p c)) (.slice (q.map σ.addr) l' (σ.cap q c'))))) := rfl
      simp only [execOp,ho,h1,h2,Sem.run_bind,hg,Result.andThen_ok,hbin,hq,Sem.run_pure,ren]
      simp
  · rename_i p l c q l' c' e hx hy hty
    cases hb : (p.isNone || q.isNone)
    · rw [hb] at h; cases h
    · rw [hb] at h; cases h
      obtain ⟨h1, _⟩ := hρ _ _ hx
      obtain ⟨h2, _⟩ := hρ _ _ hy
      simp only [ren] at h1 h2
      refine Runs.same r ?_ (by simp [okv])
      have hq := run_equal_slice (w := w) hT hty (p.map σ.addr) (q.map σ.addr) l (σ.cap p c) l' (σ.cap q c') (by simpa using hb)
      have hg : (eqGuard .neq ty x y (.slice (p.map σ.addr) l (σ.cap p c)) (.slice (q.map σ.addr) l' (σ.cap q c'))).run P w = .ok () w := rfl
      have hbin : binOp .neq ty (.slice (p.map σ.addr) l (σ.cap p c)) (.slice (q.map σ.addr) l' (σ.cap q c')) = (do pure (.bool (!(← Op.equal ty (.slice (p.map σ.addr) l (σ.cap p c)) (.slice (q.map σ.addr) l' (σ.cap q c')))))) := rfl
      simp only [execOp,ho,h1,h2,Sem.run_bind,hg,Result.andThen_ok,hbin,hq,Sem.run_pure,ren]
      simp
  · cases h

/-! ### Literals -/
def afill (place : Nat → Option (Nat × Nat)) (cells : List Value) : List (Nat × Value) → Option (List Value)
  | [] => some cells
  | (i, v) :: rest =>
    match place i with
    | none => none
    | some (off, size) =>
      bif Nat.beq v.cells.toList.length size && Nat.ble (off + v.cells.toList.length) cells.length then
        afill place (cells.take off ++ v.cells.toList ++ cells.drop (off + v.cells.toList.length)) rest
      else none

theorem foldl_set (off : Nat) : ∀ (vs : List Value) (j : Nat) (cs : List Value), off + j + vs.length ≤ cs.length →
    (vs.zipIdx j).foldl (fun cs (c, j) => cs.set (off + j) c) cs = cs.take (off + j) ++ vs ++ cs.drop (off + j + vs.length)
  | [], j, cs, _ => by simp
  | v :: vs, j, cs, h => by
    simp only [List.length_cons] at h
    simp only [List.zipIdx_cons,List.foldl_cons]
    rw [foldl_set off vs (j + 1) _ (by simp; omega)]
    have := list_seg_step cs (off + j) v vs (by omega)
    simpa [Nat.add_assoc] using this

theorem foldl_arr (off : Nat) (vs : Array Value) : ∀ (cs : Array Value),
    (vs.zipIdx.foldl (fun cs (c, j) => cs.setIfInBounds (off + j) c) cs).toList = vs.toList.zipIdx.foldl (fun cs (c, j) => cs.set (off + j) c) cs.toList := by
  intro cs
  rw [← Array.foldl_toList, Array.toList_zipIdx]
  generalize vs.toList.zipIdx = l
  induction l generalizing cs with
  | nil => rfl
  | cons x l ih =>
    simp only [List.foldl_cons]
    rw [ih]; simp

theorem afill_ok (place : Nat → Option (Nat × Nat)) : ∀ (parts : List (Nat × Value)) (cells r : List Value), afill place cells parts = some r →
    Instr.fill place (cells.map (ren σ)).toArray (parts.map fun p => (p.1, ren σ p.2)) = some (r.map (ren σ)).toArray ∧
    ((∀ v ∈ cells, okv σ v) → (∀ p ∈ parts, okv σ p.2) → ∀ v ∈ r, okv σ v)
  | [], cells, r, h => by simp only [afill,Option.some.injEq] at h; subst h; exact ⟨by simp [Instr.fill], fun h _ => h⟩
  | (i, v) :: rest, cells, r, h => by
    simp only [afill] at h
    split at h
    · cases h
    · rename_i off size hpl
      cases hb : (Nat.beq v.cells.toList.length size && Nat.ble (off + v.cells.toList.length) cells.length)
      · rw [hb] at h; cases h
      · rw [hb] at h
        simp only [cond_true] at h
        simp only [Bool.and_eq_true] at hb
        have e1 : v.cells.toList.length = size := Nat.eq_of_beq_eq_true hb.1
        have e2 : off + v.cells.toList.length ≤ cells.length := Nat.le_of_ble_eq_true hb.2
        obtain ⟨h1, h2⟩ := afill_ok place rest _ r h
        refine ⟨?_, fun hc hp => h2 (fun u hu => ?_) fun p hp' => hp p (by simp [hp'])⟩
        · simp only [List.map_cons,Instr.fill,hpl,cells_ren]
          have c1 : ¬ ((v.cells.map (ren σ)).size ≠ size ∨ off + (v.cells.map (ren σ)).size > (cells.map (ren σ)).toArray.size) := by
            simp only [Array.size_map,List.size_toArray,List.length_map]
            have : v.cells.size = v.cells.toList.length := by simp
            omega
          simp only [Bool.or_eq_true,decide_eq_true_eq,c1,if_false]
          rw [← h1]
          congr 1
          apply Array.ext'
          rw [foldl_arr, foldl_set off _ 0 _ (by simpa using e2)]
          simp [List.map_take, List.map_drop]
        · rcases List.mem_append.1 hu with hu | hu
          · rcases List.mem_append.1 hu with hu | hu
            · exact hc u (List.mem_of_mem_take hu)
            · exact okv_cells (hp (i, v) (by simp)) u (by simpa using hu)
          · exact hc u (List.mem_of_mem_drop hu)

def aparts (t : Operand → Option Value) : List (Nat × Operand) → Option (List (Nat × Value))
  | [] => some []
  | (i, x) :: xs => match t x, aparts t xs with
    | some v, some vs => some ((i, v) :: vs)
    | _, _ => none
theorem aparts_ok (hρ : Evals σ t ρ) : ∀ {l : List (Nat × Operand)} {vs : List (Nat × Value)}, aparts t l = some vs →
    l.map (fun p => (p.1, ρ p.2)) = vs.map (fun p => (p.1, ren σ p.2)) ∧ ∀ p ∈ vs, okv σ p.2
  | [], vs, h => by simp only [aparts,Option.some.injEq] at h; subst h; simp
  | (i, x) :: xs, vs, h => by
    simp only [aparts] at h
    split at h
    · rename_i v vs' hv hvs
      cases h
      obtain ⟨h1, h2⟩ := hρ _ _ hv
      obtain ⟨h3, h4⟩ := aparts_ok hρ hvs
      refine ⟨by simp [h1, h3], fun u hu => ?_⟩
      rcases List.mem_cons.1 hu with rfl | hu
      · exact h2
      · exact h4 u hu
    · cases h

def aplaces (T : Tab) : List Field → Option (List (Nat × Nat))
  | [] => some []
  | f :: fs => match T.inf f.type, aplaces T fs with
    | some i, some r => some ((f.offset, i.size) :: r)
    | _, _ => none
theorem aplaces_ok (hT : T.Fits P) (w : World) : ∀ (fs : List Field) (r : List (Nat × Nat)), aplaces T fs = some r →
    (fs.mapM fun f => do pure (f.offset, ← sizeOf f.type) : Sem (List (Nat × Nat))).run P w = .ok r w
  | [], r, h => by simp only [aplaces,Option.some.injEq] at h; subst h; simp
  | f :: fs, r, h => by
    simp only [aplaces] at h
    split at h
    · rename_i i r' hi hr
      cases h
      have := aplaces_ok hT w fs r' hr
      rw [List.mapM_cons]; simp only [Sem.run_bind,run_size hT hi,Result.andThen_ok,this,Sem.run_pure]
    · cases h

def aBuild (T : Tab) (t : Operand → Option Value) (H : AHeap) (ty : TypeId) (parts : Array (Nat × Operand)) : Option (Value × AHeap × Nat) :=
  match aparts t parts.toList, T.inf ty with
  | some ps, some i => match i.zero with
    | some z => bif gr z then
        match T.und ty with
        | some (.struct fs) => match aplaces T fs.toList with
          | some pl => match afill (pl[·]?) z.cells.toList ps with
            | some cs => some (.agg cs.toArray, H, H.size)
            | none => none
          | none => none
        | some (.array _ e) => match T.inf e with
          | some j => match afill (fun i => some (i * j.size, j.size)) z.cells.toList ps with
            | some cs => some (.agg cs.toArray, H, H.size)
            | none => none
          | none => none
        | _ => none
      else none
    | none => none
  | _, _ => none

theorem zero_cells {z : Value} (hg : gr z = true) : (z.cells.toList.map (ren σ)).toArray = z.cells := by
  have h2 := (gr_ok σ hg).2
  rw [← List.map_toArray, Array.toArray_toList, ← cells_ren, h2]

theorem aBuild_ok (hT : T.Fits P) {o : Oper} {ty : TypeId} {parts : Array (Nat × Operand)} (ho : o.op = .build ty parts) (r : Rel σ H w) (hρ : Evals σ t ρ) {v : Value} {H' : AHeap} {m : Nat}
    (h : aBuild T t H ty parts = some (v, H', m)) : Runs P (execOp ρ o) σ H w v H' m := by
  unfold aBuild at h
  split at h
  · rename_i ps i hps hi
    split at h
    · rename_i z hz
      cases hg : gr z
      · rw [hg] at h; cases h
      · rw [hg] at h
        simp only [cond_true] at h
        obtain ⟨h1, h2⟩ := aparts_ok hρ hps
        have e1 : (parts.map fun (i, x) => (i, ρ x)).toList = ps.map (fun p => (p.1, ren σ p.2)) := by rw [← h1]; simp
        have hzc : ∀ v ∈ z.cells.toList, okv σ v := fun v hv => okv_cells (gr_ok σ hg).1 v (by simpa using hv)
        split at h
        · rename_i fs hfs
          split at h
          · rename_i pl hpl
            split at h
            · rename_i cs hcs
              cases h
              obtain ⟨h3, h4⟩ := afill_ok (σ := σ) _ _ _ _ hcs
              rw [zero_cells hg] at h3
              have hm := aplaces_ok hT w fs.toList pl hpl
              have hpl' : (fun (i : Nat) => (pl.toArray)[i]?) = (fun (i : Nat) => pl[i]?) := by funext i; simp
              refine Runs.same r ?_ (by simp only [okv]; exact fun v hv => h4 hzc h2 v (by simpa using hv))
              have hm' : (fs.mapM fun f => do pure (f.offset, ← sizeOf f.type) : Sem (Array (Nat × Nat))).run P w = .ok pl.toArray w := by
                rw [Array.mapM_eq_mapM_toList]; simp only [Sem.run_map,hm,Result.andThen_ok]
              simp only [execOp,ho,Instr.build,Sem.run_bind,run_zero hT hi hz,Result.andThen_ok,run_und hT hfs,hm',e1,hpl',h3,Sem.run_pure,ren]
              simp
            · cases h
          · cases h
        · rename_i n e he
          split at h
          · rename_i j hj
            split at h
            · rename_i cs hcs
              cases h
              obtain ⟨h3, h4⟩ := afill_ok (σ := σ) _ _ _ _ hcs
              rw [zero_cells hg] at h3
              refine Runs.same r ?_ (by simp only [okv]; exact fun v hv => h4 hzc h2 v (by simpa using hv))
              simp only [execOp,ho,Instr.build,Sem.run_bind,run_zero hT hi hz,Result.andThen_ok,run_und hT he,run_size hT hj,e1,h3,Sem.run_pure,ren]
              simp
            · cases h
          · cases h
        · cases h
    · cases h
  · cases h

def allGrV : List Value → Bool
  | [] => true
  | v :: vs => gr v && allGrV vs
theorem allGrV_mem : ∀ {l : List Value}, allGrV l = true → ∀ v ∈ l, gr v = true
  | [], _, v, hv => by simp at hv
  | x :: xs, h, v, hv => by
    simp only [allGrV,Bool.and_eq_true] at h
    rcases List.mem_cons.1 hv with rfl | hv
    · exact h.1
    · exact allGrV_mem h.2 v hv
theorem allGrV_ren {l : List Value} (h : allGrV l = true) : l.map (ren σ) = l := by
  rw [List.map_congr_left (g := id) fun v hv => (gr_ok σ (allGrV_mem h v hv)).2]; simp

end Go.Am
/- Cuts of slices, lengths, appended elements, copies. -/
namespace Go.Am
variable {T : Tab} {P : Program} {σ : Place} {H : AHeap} {w : World} {t : Operand → Option Value} {ρ : Operand → Value}

def abound (t : Operand → Option Value) : Option Operand → Option (Option Int)
  | none => some none
  | some x => match t x with
    | some (.int _ n) => some (some n)
    | _ => none
/-- The three bounds of a cut, where the greatest end is known. -/
def abounds (len cap : Nat) (lo hi mx : Option Int) : Option (Nat × Nat × Nat) :=
  let m : Option Nat := match mx with
    | none => some cap
    | some v => bif decide (0 ≤ v) && decide (v ≤ cap) then some v.toNat else none
  match m with
  | none => none
  | some m =>
    let h : Option Nat := match hi, mx with
      | none, none => some len
      | none, some _ => none
      | some v, _ => bif decide (0 ≤ v) && decide (v ≤ m) then some v.toNat else none
    match h with
    | none => none
    | some h =>
      let l : Option Nat := match lo with
        | none => some 0
        | some v => bif decide (0 ≤ v) && decide (v ≤ h) then some v.toNat else none
      match l with
      | none => none
      | some l => some (l, h, m)

/-- A bound in the model. -/
def isBound (v : Option Int) (x : Option Value) : Prop := match v, x with
  | none, none => True
  | some n, some (.int _ k) => k = n
  | _, _ => False

theorem abound_ok (hρ : Evals σ t ρ) {x : Option Operand} {v : Option Int} (h : abound t x = some v) : isBound v (x.map ρ) := by
  cases x with
  | none => simp only [abound,Option.some.injEq] at h; subst h; trivial
  | some x =>
    simp only [abound] at h
    split at h
    · rename_i k n hx
      cases h
      have := (hρ _ _ hx).1
      simp only [ren] at this
      simp [isBound, this]
    · cases h

theorem bound_cases {v : Option Int} {x : Option Value} (h : isBound v x) : (v = none ∧ x = none) ∨ ∃ n k, v = some n ∧ x = some (.int k n) := by
  cases v with
  | none =>
    cases x with
    | none => exact .inl ⟨rfl, rfl⟩
    | some u => cases u <;> exact h.elim
  | some n =>
    cases x with
    | none => exact h.elim
    | some u =>
      cases u with
      | int k m => have e : m = n := h
                   subst e; exact .inr ⟨m, k, rfl, rfl⟩
      | _ => exact h.elim

theorem run_bound (k : IntKind) (n : Int) (y : Nat) (code : BoundsCode) (w : World) (h : (decide (0 ≤ n) && decide (n ≤ y)) = true) :
    (Instr.sliceBound (.int k n) y code).run P w = .ok n.toNat w := by
  simp only [Bool.and_eq_true,decide_eq_true_eq] at h
  simp [Instr.sliceBound, asIntOf, h.1, h.2]

theorem abounds_ok {len cap : Nat} {lo hi mx : Option Int} {l h m : Nat} (hb : abounds len cap lo hi mx = some (l, h, m)) {xl xh xm : Option Value}
    (hl : isBound lo xl) (hh : isBound hi xh) (hm : isBound mx xm) (b : Bool) (w : World) :
    (Instr.sliceBounds b len cap xl xh xm).run P w = .ok (l, h, m) w := by
  unfold abounds at hb
  rcases bound_cases hm with ⟨rfl, rfl⟩ | ⟨nm, km, rfl, rfl⟩
  · simp only at hb
    rcases bound_cases hh with ⟨rfl, rfl⟩ | ⟨nh, kh, rfl, rfl⟩
    · simp only at hb
      rcases bound_cases hl with ⟨rfl, rfl⟩ | ⟨nl, kl, rfl, rfl⟩
      · simp only [Option.some.injEq,Prod.mk.injEq] at hb
        obtain ⟨rfl, rfl, rfl⟩ := hb
        rfl
      · cases q1 : (decide (0 ≤ nl) && decide (nl ≤ len))
        · simp only [q1,cond_false,reduceCtorEq] at hb
        · simp only [q1,cond_true,Option.some.injEq,Prod.mk.injEq] at hb
          obtain ⟨rfl, rfl, rfl⟩ := hb
          simp [Instr.sliceBounds, run_bound (P := P) kl nl len _ w q1]
    · cases q2 : (decide (0 ≤ nh) && decide (nh ≤ cap))
      · simp only [q2,cond_false,reduceCtorEq] at hb
      · simp only [q2,cond_true] at hb
        rcases bound_cases hl with ⟨rfl, rfl⟩ | ⟨nl, kl, rfl, rfl⟩
        · simp only [Option.some.injEq,Prod.mk.injEq] at hb
          obtain ⟨rfl, rfl, rfl⟩ := hb
          simp [Instr.sliceBounds, run_bound (P := P) kh nh cap _ w q2]
        · cases q1 : (decide (0 ≤ nl) && decide (nl ≤ nh.toNat))
          · simp only [q1,cond_false,reduceCtorEq] at hb
          · simp only [q1,cond_true,Option.some.injEq,Prod.mk.injEq] at hb
            obtain ⟨rfl, rfl, rfl⟩ := hb
            simp [Instr.sliceBounds, run_bound (P := P) kh nh cap _ w q2, run_bound (P := P) kl nl nh.toNat _ w q1]
  · cases q3 : (decide (0 ≤ nm) && decide (nm ≤ cap))
    · simp only [q3,cond_false,reduceCtorEq] at hb
    · simp only [q3,cond_true] at hb
      rcases bound_cases hh with ⟨rfl, rfl⟩ | ⟨nh, kh, rfl, rfl⟩
      · simp at hb
      · cases q2 : (decide (0 ≤ nh) && decide (nh ≤ nm.toNat))
        · simp only [q2,cond_false,reduceCtorEq] at hb
        · simp only [q2,cond_true] at hb
          rcases bound_cases hl with ⟨rfl, rfl⟩ | ⟨nl, kl, rfl, rfl⟩
          · simp only [Option.some.injEq,Prod.mk.injEq] at hb
            obtain ⟨rfl, rfl, rfl⟩ := hb
            simp [Instr.sliceBounds, run_bound (P := P) km nm cap _ w q3, run_bound (P := P) kh nh nm.toNat _ w q2]
          · cases q1 : (decide (0 ≤ nl) && decide (nl ≤ nh.toNat))
            · simp only [q1,cond_false,reduceCtorEq] at hb
            · simp only [q1,cond_true,Option.some.injEq,Prod.mk.injEq] at hb
              obtain ⟨rfl, rfl, rfl⟩ := hb
              simp [Instr.sliceBounds, run_bound (P := P) km nm cap _ w q3, run_bound (P := P) kh nh nm.toNat _ w q2, run_bound (P := P) kl nl nh.toNat _ w q1]

theorem le_of_q {n : Int} {y : Nat} (h : (decide (0 ≤ n) && decide (n ≤ y)) = true) : n.toNat ≤ y := by
  simp only [Bool.and_eq_true,decide_eq_true_eq] at h; omega

theorem abounds_le {len cap : Nat} {lo hi mx : Option Int} {l h m : Nat} (hb : abounds len cap lo hi mx = some (l, h, m)) (hlc : len ≤ cap) : l ≤ h ∧ h ≤ m ∧ m ≤ cap ∧ (mx = none → m = cap) := by
  unfold abounds at hb
  cases mx with
  | none =>
    simp only at hb
    cases hi with
    | none =>
      simp only at hb
      cases lo with
      | none =>
        simp only [Option.some.injEq,Prod.mk.injEq] at hb
        omega
      | some nl =>
        cases q1 : (decide (0 ≤ nl) && decide (nl ≤ len))
        · simp only [q1,cond_false,reduceCtorEq] at hb
        · simp only [q1,cond_true,Option.some.injEq,Prod.mk.injEq] at hb
          have := le_of_q q1
          omega
    | some nh =>
      cases q2 : (decide (0 ≤ nh) && decide (nh ≤ cap))
      · simp only [q2,cond_false,reduceCtorEq] at hb
      · simp only [q2,cond_true] at hb
        have := le_of_q q2
        cases lo with
        | none =>
          simp only [Option.some.injEq,Prod.mk.injEq] at hb
          omega
        | some nl =>
          cases q1 : (decide (0 ≤ nl) && decide (nl ≤ nh.toNat))
          · simp only [q1,cond_false,reduceCtorEq] at hb
          · simp only [q1,cond_true,Option.some.injEq,Prod.mk.injEq] at hb
            have := le_of_q q1
            omega
  | some nm =>
    cases q3 : (decide (0 ≤ nm) && decide (nm ≤ cap))
    · simp only [q3,cond_false,reduceCtorEq] at hb
    · simp only [q3,cond_true] at hb
      have := le_of_q q3
      cases hi with
      | none => simp only [reduceCtorEq] at hb
      | some nh =>
        cases q2 : (decide (0 ≤ nh) && decide (nh ≤ nm.toNat))
        · simp only [q2,cond_false,reduceCtorEq] at hb
        · simp only [q2,cond_true] at hb
          have := le_of_q q2
          cases lo with
          | none =>
            simp only [Option.some.injEq,Prod.mk.injEq] at hb
            exact ⟨by omega, by omega, by omega, fun h => by cases h⟩
          | some nl =>
            cases q1 : (decide (0 ≤ nl) && decide (nl ≤ nh.toNat))
            · simp only [q1,cond_false,reduceCtorEq] at hb
            · simp only [q1,cond_true,Option.some.injEq,Prod.mk.injEq] at hb
              have := le_of_q q1
              exact ⟨by omega, by omega, by omega, fun h => by cases h⟩

/-- Bounds that hold up to a length hold up to more, where the last one is not named. -/
theorem abounds_more {len kn cap : Nat} {lo hi mx : Option Int} {l h m : Nat} (hb : abounds len kn lo hi mx = some (l, h, m)) (hlc : kn ≤ cap) :
    abounds len cap lo hi mx = some (l, h, match mx with | none => cap | some _ => m) := by
  unfold abounds at hb ⊢
  cases mx with
  | none =>
    simp only at hb ⊢
    cases hi with
    | none =>
      simp only at hb ⊢
      cases lo with
      | none =>
        simp only [Option.some.injEq,Prod.mk.injEq] at hb ⊢
        exact ⟨by omega, by omega, by first | rfl | trivial⟩
      | some nl =>
        cases q1 : (decide (0 ≤ nl) && decide (nl ≤ len))
        · simp only [q1,cond_false,reduceCtorEq] at hb
        · simp only [q1,cond_true,Option.some.injEq,Prod.mk.injEq] at hb ⊢
          exact ⟨by omega, by omega, by first | rfl | trivial⟩
    | some nh =>
      cases q2 : (decide (0 ≤ nh) && decide (nh ≤ kn))
      · simp only [q2,cond_false,reduceCtorEq] at hb
      · have q2' : (decide (0 ≤ nh) && decide (nh ≤ cap)) = true := by
          simp only [Bool.and_eq_true,decide_eq_true_eq] at q2 ⊢; omega
        simp only [q2,q2',cond_true] at hb ⊢
        cases lo with
        | none =>
          simp only [Option.some.injEq,Prod.mk.injEq] at hb ⊢
          exact ⟨by omega, by omega, by first | rfl | trivial⟩
        | some nl =>
          cases q1 : (decide (0 ≤ nl) && decide (nl ≤ nh.toNat))
          · simp only [q1,cond_false,reduceCtorEq] at hb
          · simp only [q1,cond_true,Option.some.injEq,Prod.mk.injEq] at hb ⊢
            exact ⟨by omega, by omega, by first | rfl | trivial⟩
  | some nm =>
    cases q3 : (decide (0 ≤ nm) && decide (nm ≤ kn))
    · simp only [q3,cond_false,reduceCtorEq] at hb
    · have q3' : (decide (0 ≤ nm) && decide (nm ≤ cap)) = true := by
        simp only [Bool.and_eq_true,decide_eq_true_eq] at q3 ⊢; omega
      simp only [q3,q3',cond_true] at hb ⊢
      exact hb

theorem pick_add {σ : Place} {a : Addr} (ha : a.spot = none ∧ (σ.at_ a.block).isSome = true) (m l s : Nat) :
    (if m = l then σ.addr a else (σ.addr a).add (l * s)) = σ.addr ⟨a.block, a.off + (bif Nat.beq m l then 0 else l * s), none⟩ := by
  by_cases e : m = l
  · have : Nat.beq m l = true := by subst e; simp
    simp only [e,if_true,Nat.beq_refl,cond_true,Nat.add_zero]
    obtain ⟨p, hp⟩ := Option.isSome_iff_exists.1 ha.2
    cases a; simp_all [Place.addr]
  · rw [if_neg e, beq_ne e, cond_false, addr_off σ ha]

end Go.Am
