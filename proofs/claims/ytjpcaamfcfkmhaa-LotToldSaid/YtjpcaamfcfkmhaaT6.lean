/- Regions whose operations may come in another order. -/
import Derived.Test.YtjpcaamfcfkmhaaT5
import Derived.OrdersIn
set_option linter.unusedSimpArgs false
set_option linter.unusedVariables false
namespace Go.Am
variable {T : Tab} {P : Program}
inductive Clo (ops : Array Oper) : Nat → Nat → Prop where
 | edge {i : Nat} {o : Oper} {e : Edge} (ho : ops[i]? = some o) (he : e ∈ o.after) (hb : Region.binds .any e = true) : Clo ops i e.on
 | trans {i j : Nat} {o : Oper} {e : Edge} (ho : ops[i]? = some o) (he : e ∈ o.after) (hb : Region.binds .any e = true) (h : Clo ops e.on j) : Clo ops i j
def tmpsOf : List Operand → List Tmp
 | [] => []
 | .tmp d :: l => d :: tmpsOf l
 | _ :: l => tmpsOf l
/-- What an operation looks at. -/
def looks (ops : Array Oper) (o : Oper) : List Tmp :=
 tmpsOf o.op.operands.toList ++ (match o.guard with
  | some (g, _) => match (ops[g]?).bind (·.dst) with
   | some d => [d]
   | none => []
  | none => [])
def memNat (d : Nat) : List Nat → Bool
 | [] => false
 | x :: l => Nat.beq d x || memNat d l
theorem memNat_iff {d : Nat} : ∀ {l : List Nat}, memNat d l = true ↔ d ∈ l
 | [] => by simp [memNat]
 | x :: l => by
  simp only [memNat,Bool.or_eq_true,memNat_iff,List.mem_cons]
  constructor
  ·rintro (h | h)
   ·exact .inl (Nat.eq_of_beq_eq_true h)
   ·exact .inr h
  ·rintro (h | h)
   ·subst h; simp
   ·exact .inr h
def maskT (o : Oper) (t : Operand → Option Value) : Operand → Option Value
 | .tmp d => bif memNat d (tmpsOf o.op.operands.toList) then t (.tmp d) else none
 | x => t x
structure Draws (P : Program) (r : Option Nat) (ops : Array Oper) (H₀ : AHeap) (R : Nat → Option Nat) (hs : List Nat) (G : Nat → AHeap) (Tm : Nat → List Value) (V : Nat → Value) (m : Nat) : Prop where
 next : ∀ (i : Nat) (o : Oper), ops[i]? = some o → Tm (i + 1) = tset (Tm i) o.dst (V i)
 edge : ∀ (i : Nat) (o : Oper) (e : Edge), ops[i]? = some o → e ∈ o.after → Region.binds .any e = true → e.on < i
 one : ∀ (i j : Nat) (oi oj : Oper) (d : Tmp), ops[i]? = some oi → ops[j]? = some oj → oi.dst = some d → oj.dst = some d → i = j
 sees : ∀ (i j : Nat) (oi oj : Oper) (d : Tmp), ops[i]? = some oi → ops[j]? = some oj → d ∈ looks ops oi → oj.dst = some d → i ≠ j → Clo ops i j ∨ Clo ops j i
 step : ∀ (i : Nat) (o : Oper), ops[i]? = some o → (awanted ops (Tm i) o = false ∧ V i = undef ∧ i ∉ hs) ∨
  (awanted ops (Tm i) o = true ∧ i ∉ hs ∧ ∀ q, q ≤ hs.length → (∀ j p, hs[j]? = some p → Clo ops i p → j < q) → (∀ j p, hs[j]? = some p → Clo ops p i → q ≤ j) →
   SOp P r o (maskT o (aval (Tm i))) (G q) (V i) (G q) (G q).size) ∨
  (awanted ops (Tm i) o = true ∧ i ∉ hs ∧ ∃ k, R i = some k ∧ ∀ q, q ≤ hs.length → (∀ j p, hs[j]? = some p → Clo ops i p → j < q) → (∀ j p, hs[j]? = some p → Clo ops p i → q ≤ j) →
   SNew P r o (maskT o (aval (Tm i))) (G q) k (V i)) ∨
  (awanted ops (Tm i) o = true ∧ ∃ j m', hs[j]? = some i ∧ m ≤ m' ∧ SOp P r o (maskT o (aval (Tm i))) (G j) (V i) (G (j + 1)) m')
 order : ∀ (a b pa pb : Nat), a < b → hs[a]? = some pa → hs[b]? = some pb → Clo ops pb pa
 low : m ≤ H₀.size
 grow : H₀.size ≤ (G 0).size
 old : ∀ k, k < H₀.size → (G 0).get k = H₀.get k
 rlow : ∀ i k, R i = some k → H₀.size ≤ k ∧ k < (G 0).size
 rone : ∀ i j k, R i = some k → R j = some k → i = j
section
variable {r : Option Nat} {ops : Array Oper} {H₀ : AHeap} {R : Nat → Option Nat} {hs : List Nat} {G : Nat → AHeap} {Tm : Nat → List Value} {V : Nat → Value} {m : Nat}
theorem Draws.clo_lt (D : Draws P r ops H₀ R hs G Tm V m) {i j : Nat} (h : Clo ops i j) : j < i := by
 induction h with
 | edge ho he hb => exact D.edge _ _ _ ho he hb
 | trans ho he hb _ ih => have := D.edge _ _ _ ho he hb; omega
def lis (listed : Array Bool) (i : Nat) : Prop := listed.getD i false = true
theorem clo_listed {listed : Array Bool} (hc : ∀ i o e, ops[i]? = some o → lis listed i → e ∈ o.after → Region.binds .any e = true → lis listed e.on) {i j : Nat} (h : Clo ops i j) : lis listed i → lis listed j := by
 induction h with
 | edge ho he hb => intro hl; exact hc _ _ _ ho hl he hb
 | trans ho he hb _ ih => intro hl; exact ih (hc _ _ _ ho hl he hb)
theorem clo_ready {listed : Array Bool} (hc : ∀ i o e, ops[i]? = some o → lis listed i → e ∈ o.after → Region.binds .any e = true → lis listed e.on) {i j : Nat} {o : Oper} (hi : ops[i]? = some o)
  (hr : ∀ e ∈ o.after, Region.binds .any e = true → lis listed e.on) (h : Clo ops i j) : lis listed j := by
 cases h with
 | edge ho he hb => rw [hi] at ho; cases ho; exact hr _ he hb
 | trans ho he hb h => rw [hi] at ho; cases ho; exact clo_listed hc h (hr _ he hb)
/-- The values in the order of the text. -/
theorem Draws.look (D : Draws P r ops H₀ R hs G Tm V m) : ∀ i, i ≤ ops.size → (Tm i).length = (Tm 0).length ∧ ∀ d, d < (Tm 0).length →
  ((∃ j o, j < i ∧ ops[j]? = some o ∧ o.dst = some d ∧ (Tm i)[d]? = some (V j)) ∨ ((∀ j o, j < i → ops[j]? = some o → o.dst ≠ some d) ∧ (Tm i)[d]? = (Tm 0)[d]?))
 | 0, _ => ⟨rfl, fun d _ => .inr ⟨fun j o hj => by omega, rfl⟩⟩
 | i + 1, hi => by
  obtain ⟨h1, h2⟩ := D.look i (by omega)
  have hlt : i < ops.size := by omega
  have ho : ops[i]? = some ops[i] := Array.getElem?_eq_getElem hlt
  rw [D.next i _ ho]
  cases hd : ops[i].dst with
  | none =>
   refine ⟨h1, fun d hdl => ?_⟩
   rcases h2 d hdl with ⟨j, o, hj, hoj, hdj, hv⟩ | ⟨hno, hv⟩
   ·exact .inl ⟨j, o, by omega, hoj, hdj, hv⟩
   ·refine .inr ⟨fun j o hj hoj => ?_, hv⟩
    by_cases e : j = i
    ·subst e; rw [ho] at hoj; cases hoj; rw [hd]; simp
    ·exact hno j o (by omega) hoj
  | some di =>
   refine ⟨by simpa [tset] using h1, fun d hdl => ?_⟩
   simp only [tset,List.getElem?_set]
   by_cases e : di = d
   ·subst e
    exact .inl ⟨i, ops[i], by omega, ho, hd, by simp [h1, hdl]⟩
   ·simp only [e,if_false]
    rcases h2 d hdl with ⟨j, o, hj, hoj, hdj, hv⟩ | ⟨hno, hv⟩
    ·exact .inl ⟨j, o, by omega, hoj, hdj, hv⟩
    ·refine .inr ⟨fun j o hj hoj => ?_, hv⟩
     by_cases e' : j = i
     ·subst e'; rw [ho] at hoj; cases hoj; rw [hd]; simpa using e
     ·exact hno j o (by omega) hoj
structure Inv (ops : Array Oper) (H₀ : AHeap) (R : Nat → Option Nat) (hs : List Nat) (G : Nat → AHeap) (Tm : Nat → List Value) (V : Nat → Value) (m : Nat) (σ₀ : Place) (w₀ : World) (ds : List Nat) (listed : Array Bool) (a : Act) (w : World) (q : Nat) (σ : Place) : Prop where
 size : listed.size = ops.size
 closed : ∀ (i : Nat) (o : Oper) (e : Edge), ops[i]? = some o → lis listed i → e ∈ o.after → Region.binds .any e = true → lis listed e.on
 le : q ≤ hs.length
 stage : ∀ j p, hs[j]? = some p → (lis listed p ↔ j < q)
 rel : Rel σ (G q) w
 ext : Ext σ₀ H₀ w₀ σ (G q) w m
 big : (G 0).size ≤ (G q).size
 unb : ∀ i k, R i = some k → ¬ lis listed i → σ.at_ k = none
 dfs : a.defers = ds.map (mark σ)
 dok : ∀ k ∈ ds, (σ.at_ k).isSome = true
 len : a.tmps.size = (Tm 0).length
 tmps : ∀ d, d < (Tm 0).length → ∃ v, a.tmps[d]? = some (ren σ v) ∧ okv σ v ∧
  ((∃ j o, ops[j]? = some o ∧ lis listed j ∧ o.dst = some d ∧ v = V j) ∨ ((∀ j o, ops[j]? = some o → lis listed j → o.dst ≠ some d) ∧ (Tm 0)[d]? = some v))
/-- What an operation that is ready sees is what it sees in the order of the text. -/
theorem Draws.seen (D : Draws P r ops H₀ R hs G Tm V m) {σ₀ : Place} {w₀ : World} {ds : List Nat} {listed : Array Bool} {a : Act} {w : World} {q : Nat} {σ : Place} (I : Inv ops H₀ R hs G Tm V m σ₀ w₀ ds listed a w q σ)
  {i : Nat} {o : Oper} (hi : ops[i]? = some o) (hn : ¬ lis listed i) (hr : ∀ e ∈ o.after, Region.binds .any e = true → lis listed e.on) {d : Tmp} (hd : d ∈ looks ops o) :
  (d < (Tm 0).length → ∃ v, a.tmps[d]? = some (ren σ v) ∧ okv σ v ∧ (Tm i)[d]? = some v) ∧ (¬ d < (Tm 0).length → a.tmps[d]? = none ∧ (Tm i)[d]? = none) := by
 have hil : i < ops.size := (Array.getElem?_eq_some_iff.1 hi).1
 obtain ⟨hlen, hlook⟩ := D.look i (by omega)
 refine ⟨fun hdl => ?_, fun hdl => ?_⟩
 rotate_left
 ·have hdl' : (Tm 0).length ≤ d := Nat.not_lt.1 hdl
  exact ⟨Array.getElem?_eq_none (by rw [I.len]; exact hdl'), List.getElem?_eq_none (by rw [hlen]; exact hdl')⟩
 obtain ⟨v, h1, h2, h3⟩ := I.tmps d hdl
 refine ⟨v, h1, h2, ?_⟩
 have key : ∀ j oj, ops[j]? = some oj → oj.dst = some d → j ≠ i → (lis listed j ↔ j < i) := by
  intro j oj hj hdj hne
  rcases D.sees i j o oj d hi hj hd hdj (Ne.symm hne) with hc | hc
  ·have hlt := D.clo_lt hc
   exact ⟨fun _ => hlt, fun _ => clo_ready I.closed hi hr hc⟩
  ·have hlt := D.clo_lt hc
   exact ⟨fun hl => absurd (clo_listed I.closed hc hl) hn, fun h => by omega⟩
 rcases h3 with ⟨j, oj, hj, hl, hdj, rfl⟩ | ⟨hno, ht0⟩
 ·have hne : j ≠ i := fun e => hn (e ▸ hl)
  have hlt := (key j oj hj hdj hne).1 hl
  rcases hlook d hdl with ⟨j', o', hj', hoj', hdj', hv⟩ | ⟨hno, _⟩
  ·have := D.one j j' oj o' d hj hoj' hdj hdj'
   subst this; exact hv
  ·exact absurd hdj (hno j oj hlt hj)
 ·rcases hlook d hdl with ⟨j', o', hj', hoj', hdj', hv⟩ | ⟨_, hv⟩
  ·have hne : j' ≠ i := by omega
   exact absurd hdj' (hno j' o' hoj' ((key j' o' hoj' hdj' hne).2 hj'))
  ·rw [hv]; exact ht0
theorem Draws.evals (D : Draws P r ops H₀ R hs G Tm V m) {σ₀ : Place} {w₀ : World} {ds : List Nat} {listed : Array Bool} {a : Act} {w : World} {q : Nat} {σ : Place} (I : Inv ops H₀ R hs G Tm V m σ₀ w₀ ds listed a w q σ)
  {i : Nat} {o : Oper} (hi : ops[i]? = some o) (hn : ¬ lis listed i) (hr : ∀ e ∈ o.after, Region.binds .any e = true → lis listed e.on) :
  Evals σ (maskT o (aval (Tm i))) a.eval := by
 intro x v hx
 cases x with
 | tmp d =>
  simp only [maskT] at hx
  cases hm : memNat d (tmpsOf o.op.operands.toList)
  ·rw [hm] at hx; cases hx
  ·rw [hm] at hx
   simp only [cond_true,aval,Option.some.injEq] at hx
   have hd : d ∈ looks ops o := List.mem_append.2 (.inl (memNat_iff.1 hm))
   obtain ⟨h1, h2⟩ := D.seen I hi hn hr hd
   by_cases hdl : d < (Tm 0).length
   ·obtain ⟨u, k1, k2, k3⟩ := h1 hdl
    have e1 : v = u := by rw [← hx]; simp [List.getD, k3]
    subst e1
    have hds : d < a.tmps.size := by rw [I.len]; exact hdl
    have : a.tmps.getD d undef = ren σ v := by
     have := (Array.getElem?_eq_some_iff.1 k1).2
     simp [Array.getD, hds, this]
    exact ⟨this, k2⟩
   ·obtain ⟨k1, k2⟩ := h2 hdl
    have e1 : v = undef := by rw [← hx]; simp [List.getD, k2]
    subst e1
    have hds : ¬ d < a.tmps.size := by rw [I.len]; exact hdl
    refine ⟨?_, okv_undef σ⟩
    rw [ren_undef]
    simp only [Act.eval]
    simp [Array.getD, hds]
 | const c =>
  simp only [maskT,aval] at hx
  cases hg : gr c
  ·rw [hg] at hx; cases hx
  ·rw [hg] at hx
   simp only [cond_true,Option.some.injEq] at hx
   subst hx
   obtain ⟨h1, h2⟩ := gr_ok σ hg
   exact ⟨by rw [h2]; rfl, h1⟩
 | global g => cases hx
 | func f =>
  simp only [maskT,aval,Option.some.injEq] at hx
  subst hx
  exact ⟨by simp [Act.eval, ren, Place.fn], by simp [okv, okfn]⟩
theorem Draws.wanted (D : Draws P r ops H₀ R hs G Tm V m) {σ₀ : Place} {w₀ : World} {ds : List Nat} {listed : Array Bool} {a : Act} {w : World} {q : Nat} {σ : Place} (I : Inv ops H₀ R hs G Tm V m σ₀ w₀ ds listed a w q σ)
  {i : Nat} {o : Oper} (hi : ops[i]? = some o) (hn : ¬ lis listed i) (hr : ∀ e ∈ o.after, Region.binds .any e = true → lis listed e.on) :
  Region.wanted o (yielded ops a.tmps) = awanted ops (Tm i) o := by
 unfold awanted Region.wanted
 cases hg : o.guard with
 | none => rfl
 | some gb =>
  obtain ⟨g, b⟩ := gb
  simp only
  congr 1
  unfold yielded ayielded
  cases hd : (ops[g]?).bind (·.dst) with
  | none => rfl
  | some d =>
   simp only [Option.bind_some]
   have hdl : d ∈ looks ops o := List.mem_append.2 (.inr (by simp [hg, hd]))
   obtain ⟨h1, h2⟩ := D.seen I hi hn hr hdl
   by_cases hlt : d < (Tm 0).length
   ·obtain ⟨v, k1, _, k3⟩ := h1 hlt
    rw [k1, k3]
    cases v <;> simp [ren]
   ·obtain ⟨k1, k2⟩ := h2 hlt
    rw [k1, k2]
theorem lis_set {listed : Array Bool} {i j : Nat} (hi : i < listed.size) : lis (listed.setIfInBounds i true) j ↔ j = i ∨ lis listed j := by
 unfold lis
 simp only [Array.getD_eq_getD_getElem?,Array.getElem?_setIfInBounds]
 by_cases e : i = j
 ·subst e; simp [hi]
 ·simp [e, Ne.symm e]
/-- One more operation is done. -/
theorem Inv.put {σ₀ : Place} {w₀ : World} {ds : List Nat} {listed : Array Bool} {a : Act} {w w' : World} {q q' : Nat} {σ σ' : Place} (D : Draws P r ops H₀ R hs G Tm V m) (I : Inv ops H₀ R hs G Tm V m σ₀ w₀ ds listed a w q σ)
  {i : Nat} {o : Oper} (hi : ops[i]? = some o) (hn : ¬ lis listed i) (hr : ∀ e ∈ o.after, Region.binds .any e = true → lis listed e.on) (hq : q' ≤ hs.length)
  (hst : ∀ j p, hs[j]? = some p → (p = i ∨ lis listed p ↔ j < q')) (hv : okv σ' (V i)) (hR : Rel σ' (G q') w') (ag : Agree σ σ') (hX : Ext σ₀ H₀ w₀ σ' (G q') w' m) (hbig : (G 0).size ≤ (G q').size) (hunb : ∀ j k, R j = some k → j ≠ i → ¬ lis listed j → σ'.at_ k = none) :
  Inv ops H₀ R hs G Tm V m σ₀ w₀ ds (listed.setIfInBounds i true) (a.put o.dst (ren σ' (V i))) w' q' σ' := by
 have hil : i < listed.size := by rw [I.size]; exact (Array.getElem?_eq_some_iff.1 hi).1
 refine ⟨by simp [I.size], ?_, hq, fun j p hp => by rw [lis_set hil]; exact hst j p hp, hR, hX, hbig, ?_, ?_, fun k hk => ag.placed (I.dok k hk), ?_, ?_⟩
 ·intro j oj e hj hl he hb
  rw [lis_set hil] at hl ⊢
  rcases hl with rfl | hl
  ·rw [hi] at hj; cases hj; exact .inr (hr e he hb)
  ·exact .inr (I.closed j oj e hj hl he hb)
 ·intro j k hj hl
  rw [lis_set hil] at hl
  exact hunb j k hj (fun e => hl (.inl e)) (fun h => hl (.inr h))
 ·have : (a.put o.dst (ren σ' (V i))).defers = a.defers := by cases o.dst <;> rfl
  rw [this, I.dfs]
  exact List.map_congr_left fun k hk => by simp [mark, ag.blk (I.dok k hk)]
 ·cases hd : o.dst <;> simp [Act.put, I.len]
 ·intro d hdl
  by_cases e : o.dst = some d
  ·refine ⟨V i, ?_, hv, .inl ⟨i, o, hi, (lis_set hil).2 (.inl rfl), e, rfl⟩⟩
   rw [e]
   simp only [Act.put,Array.getElem?_setIfInBounds]
   simp [I.len, hdl]
  ·obtain ⟨v, h1, h2, h3⟩ := I.tmps d hdl
   refine ⟨v, ?_, ag.okv h2, ?_⟩
   ·rw [ag.ren h2, ← h1]
    cases hd : o.dst with
    | none => rfl
    | some d' =>
     have : d' ≠ d := fun e' => e (by rw [hd, e'])
     simp [Act.put, Array.getElem?_setIfInBounds, this]
   ·rcases h3 with ⟨j, oj, hj, hl, hdj, rfl⟩ | ⟨hno, ht⟩
    ·exact .inl ⟨j, oj, hj, (lis_set hil).2 (.inr hl), hdj, rfl⟩
    ·refine .inr ⟨fun j oj hj hl => ?_, ht⟩
     rcases (lis_set hil).1 hl with rfl | hl
     ·rw [hi] at hj; cases hj; exact e
     ·exact hno j oj hj hl
def unl (listed : Array Bool) : List Nat → Nat
 | [] => 0
 | i :: l => (if listed.getD i false = true then 0 else 1) + unl listed l
theorem unl_le {listed : Array Bool} {i : Nat} (hi : i < listed.size) : ∀ l, unl (listed.setIfInBounds i true) l ≤ unl listed l
 | [] => Nat.le_refl _
 | j :: l => by
  have ih := unl_le hi l
  have := lis_set (j := j) hi
  unfold lis at this
  simp only [unl]
  split <;> split <;> simp_all <;> omega
theorem unl_lt {listed : Array Bool} {i : Nat} (hi : i < listed.size) (hn : ¬ lis listed i) : ∀ l, i ∈ l → unl (listed.setIfInBounds i true) l < unl listed l
 | j :: l, hm => by
  have h1 := unl_le hi l
  have h2 := lis_set (j := j) hi
  by_cases e : j = i
  ·subst e
   have h3 : lis (listed.setIfInBounds j true) j := h2.2 (.inl rfl)
   unfold lis at h3 hn
   simp only [unl,h3,hn,if_true]
   simp; omega
  ·have hm' : i ∈ l := by
    rcases List.mem_cons.1 hm with h | h
    ·exact absurd h.symm e
    ·exact h
   have ih := unl_lt hi hn l hm'
   have h4 : (listed.setIfInBounds i true).getD j false = listed.getD j false := by
    simp only [Array.getD_eq_getD_getElem?,Array.getElem?_setIfInBounds]
    simp [Ne.symm e]
   simp only [unl,h4]
   omega
theorem unl_zero {listed : Array Bool} : ∀ {l : List Nat}, unl listed l = 0 → ∀ i ∈ l, lis listed i
 | j :: l, h, i, hi => by
  simp only [unl] at h
  rcases List.mem_cons.1 hi with rfl | hi
  ·unfold lis
   by_cases hh : listed.getD i false = true
   ·exact hh
   ·rw [if_neg hh] at h; omega
  ·exact unl_zero (by omega) i hi
theorem mem_ready {listed : Array Bool} {i : Nat} (hsz : listed.size = ops.size) : i ∈ Region.ready .any ops listed ↔ ∃ o, ops[i]? = some o ∧ ¬ lis listed i ∧ ∀ e ∈ o.after, Region.binds .any e = true → lis listed e.on := by
 unfold Region.ready lis
 simp only [List.mem_filter,List.mem_range,Bool.and_eq_true,Bool.not_eq_true']
 constructor
 ·rintro ⟨h1, h2, h3⟩
  have ho : ops[i]? = some ops[i] := Array.getElem?_eq_getElem h1
  refine ⟨ops[i], ho, ?_, ?_⟩
  ·have hl : i < listed.size := by omega
   simp only [Array.getD,hl] at h2 ⊢
   simpa using h2
  ·rw [ho] at h3
   simp only [Option.map_some,Option.getD_some] at h3
   intro e he hb
   have := (Array.all_eq_true_iff_forall_mem.1 h3) e he
   simpa [hb] using this
 ·rintro ⟨o, ho, h2, h3⟩
  have h1 : i < ops.size := (Array.getElem?_eq_some_iff.1 ho).1
  refine ⟨h1, ?_, ?_⟩
  ·have hl : i < listed.size := by omega
   simp only [Array.getD,hl] at h2 ⊢
   simpa using h2
  ·rw [ho]
   simp only [Option.map_some,Option.getD_some]
   refine Array.all_eq_true_iff_forall_mem.2 fun e he => ?_
   cases hb : Region.binds .any e
   ·simp
   ·simpa using h3 e he hb
theorem Draws.all_of_ready (D : Draws P r ops H₀ R hs G Tm V m) {listed : Array Bool} (hsz : listed.size = ops.size) (h : Region.ready .any ops listed = []) : ∀ i, i < ops.size → lis listed i := by
 intro i
 induction i using Nat.strongRecOn with
 | _ i ih =>
  intro hi
  by_cases hl : lis listed i
  ·exact hl
  ·have ho : ops[i]? = some ops[i] := Array.getElem?_eq_getElem hi
   have : i ∈ Region.ready .any ops listed := (mem_ready hsz).2 ⟨ops[i], ho, hl, fun e he hb => ih e.on (D.edge i _ e ho he hb) (Nat.lt_trans (D.edge i _ e ho he hb) hi)⟩
   rw [h] at this; cases this
theorem Draws.finish (D : Draws P r ops H₀ R hs G Tm V m) {σ₀ : Place} {w₀ : World} {ds : List Nat} {listed : Array Bool} {a : Act} {w : World} {q : Nat} {σ : Place} (I : Inv ops H₀ R hs G Tm V m σ₀ w₀ ds listed a w q σ)
  (hall : ∀ i, i < ops.size → lis listed i) (hhs : ∀ p ∈ hs, p < ops.size) : SPost σ₀ ⟨Tm 0, H₀, ds⟩ w₀ .normal ⟨Tm ops.size, G hs.length, ds⟩ m .normal a w := by
 have hq : q = hs.length := by
  have := I.le
  by_cases e : q = hs.length
  ·exact e
  ·have hlt : q < hs.length := by omega
   have hp : hs[q]? = some hs[q] := List.getElem?_eq_getElem hlt
   have := (I.stage q _ hp).1 (hall _ (hhs _ (List.getElem_mem hlt)))
   omega
 subst hq
 obtain ⟨hlen, hlook⟩ := D.look ops.size (Nat.le_refl _)
 have hval : ∀ d, d < (Tm 0).length → ∃ v, (Tm ops.size)[d]? = some v ∧ a.tmps[d]? = some (ren σ v) ∧ okv σ v := by
  intro d hdl
  obtain ⟨v, h1, h2, h3⟩ := I.tmps d hdl
  refine ⟨v, ?_, h1, h2⟩
  rcases h3 with ⟨j, oj, hj, _, hdj, rfl⟩ | ⟨hno, ht⟩
  ·rcases hlook d hdl with ⟨j', o', hj', hoj', hdj', hv⟩ | ⟨hno, _⟩
   ·have := D.one j j' oj o' d hj hoj' hdj hdj'
    subst this; exact hv
   ·exact absurd hdj (hno j oj (Array.getElem?_eq_some_iff.1 hj).1 hj)
  ·rcases hlook d hdl with ⟨j', o', hj', hoj', hdj', _⟩ | ⟨_, hv⟩
   ·exact absurd hdj' (hno j' o' hoj' (hall j' hj'))
   ·rw [hv]; exact ht
 refine ⟨rfl, σ, ⟨?_, ?_, I.dfs, I.dok⟩, I.rel, I.ext⟩
 ·apply Array.ext'
  apply List.ext_getElem?
  intro d
  simp only [Array.getElem?_toList,List.getElem?_map]
  by_cases hdl : d < (Tm 0).length
  ·obtain ⟨v, h1, h2, _⟩ := hval d hdl
   rw [h1, h2]; rfl
  ·have hdl' : (Tm 0).length ≤ d := Nat.not_lt.1 hdl
   rw [Array.getElem?_eq_none (by rw [I.len]; exact hdl'), List.getElem?_eq_none (by show (Tm ops.size).length ≤ d; rw [hlen]; exact hdl')]; rfl
 ·intro v hv
  obtain ⟨d, hd⟩ := List.getElem?_of_mem hv
  have hdl : d < (Tm 0).length := by
   have h := (List.getElem?_eq_some_iff.1 hd).1
   exact hlen ▸ h
  obtain ⟨u, h1, _, h3⟩ := hval d hdl
  rw [h1] at hd; cases hd; exact h3
theorem Draws.any (D : Draws P r ops H₀ R hs G Tm V m) (hhs : ∀ p ∈ hs, p < ops.size) {F : Fence} {n : Nat} (hF : Free F) {σ₀ : Place} {w₀ : World} {ds : List Nat} (hr0 : InR r σ₀ F) (hR0 : Rel σ₀ H₀ w₀) :
  ∀ (fuel : Nat) (listed : Array Bool) (a : Act) (w : World) (q : Nat) (σ : Place), Inv ops H₀ R hs G Tm V m σ₀ w₀ ds listed a w q σ → unl listed (List.range ops.size) ≤ fuel →
   wpAnyIn F n P .any ops (SPost σ₀ ⟨Tm 0, H₀, ds⟩ w₀ .normal ⟨Tm ops.size, G hs.length, ds⟩ m) fuel listed a w
 | 0, listed, a, w, q, σ, I, hu => by
  have hall : ∀ i, i < ops.size → lis listed i := fun i hi => unl_zero (by omega) i (List.mem_range.2 hi)
  refine ⟨?_, D.finish I hall hhs⟩
  apply List.eq_nil_iff_forall_not_mem.2
  intro i hi
  obtain ⟨o, ho, hn, _⟩ := (mem_ready I.size).1 hi
  exact hn (hall i (Array.getElem?_eq_some_iff.1 ho).1)
 | fuel + 1, listed, a, w, q, σ, I, hu => by
  refine ⟨fun h => D.finish I (D.all_of_ready I.size h) hhs, fun i hi => ?_⟩
  obtain ⟨o, ho, hn, hr⟩ := (mem_ready I.size).1 hi
  have hil : i < listed.size := by rw [I.size]; exact (Array.getElem?_eq_some_iff.1 ho).1
  have hu' : unl (listed.setIfInBounds i true) (List.range ops.size) ≤ fuel := by
   have := unl_lt hil hn (List.range ops.size) (List.mem_range.2 (by rw [← I.size]; exact hil))
   omega
  unfold wpOpIn
  rw [ho]
  simp only [D.wanted I ho hn hr]
  have agI := I.ext.agr hR0
  have same : ∀ j p, hs[j]? = some p → i ∉ hs → (p = i ∨ lis listed p ↔ j < q) := fun j p hp hni => by
   have : p ≠ i := fun e => hni (e ▸ List.mem_of_getElem? hp)
   simp only [this,false_or]; exact I.stage j p hp
  have lowq : m ≤ (G q).size := Nat.le_trans D.low I.ext.hsize
  have comp : ∀ {q' : Nat} {σ' : Place} {w' : World} {m' : Nat}, Ext σ (G q) w σ' (G q') w' m' → m ≤ m' → Agree σ σ' ∧ Ext σ₀ H₀ w₀ σ' (G q') w' m ∧ (G 0).size ≤ (G q').size ∧ ∀ j k, R j = some k → j ≠ i → ¬ lis listed j → σ'.at_ k = none := fun {q' σ' w' m'} x hm => by
   refine ⟨x.agr I.rel, ?_, Nat.le_trans I.big x.hsize, fun j k hj _ hl => ?_⟩
   ·have := I.ext.trans x
    exact this.weaken (by omega)
   ·rw [(x.agree k (Nat.lt_of_lt_of_le (D.rlow j k hj).2 I.big)).1]; exact I.unb j k hj hl
  rcases D.step i o ho with ⟨hw, hv, hni⟩ | ⟨hw, hni, hop⟩ | ⟨hw, hni, k, hk, hop⟩ | ⟨hw, j, m', hj, hm', hop⟩
  ·simp only [hw,Bool.false_eq_true,if_false]
   refine ⟨fun f _ => hF.1 f, ?_⟩
   have hp := I.put D ho hn hr I.le (fun j p hp => same j p hp hni) (by rw [hv]; exact okv_undef σ) I.rel (Agree.refl σ) I.ext I.big (fun j k hj _ hl => I.unb j k hj hl)
   rw [hv, ren_undef] at hp
   exact D.any hhs hF hr0 hR0 fuel _ _ w q σ hp hu'
  ·simp only [hw,if_true]
   refine hop q I.le (fun j p hp hc => (I.stage j p hp).1 (clo_ready I.closed ho hr hc)) (fun j p hp hc => ?_) F n σ w a _ _ hF (hr0.agree agI) I.rel (D.evals I ho hn hr) ?_
   ·rcases Nat.lt_or_ge j q with h' | h'
    ·exact absurd (clo_listed I.closed hc ((I.stage j p hp).2 h')) hn
    ·exact h'
   ·intro σ' w' k1 k2 k3
    obtain ⟨c1, c2, c3, c4⟩ := comp k3 lowq
    exact D.any hhs hF hr0 hR0 fuel _ _ w' q σ' (I.put D ho hn hr I.le (fun j p hp => same j p hp hni) k1 k2 c1 c2 c3 c4) hu'
  ·simp only [hw,if_true]
   have hkn : σ.at_ k = none := I.unb i k hk hn
   refine hop q I.le (fun j p hp hc => (I.stage j p hp).1 (clo_ready I.closed ho hr hc)) (fun j p hp hc => ?_) F n σ w a _ _ hF I.rel (D.evals I ho hn hr) hkn ?_
   ·rcases Nat.lt_or_ge j q with h' | h'
    ·exact absurd (clo_listed I.closed hc ((I.stage j p hp).2 h')) hn
    ·exact h'
   ·intro w' b rm k0 k1 k2 k3
    have ag := agree_add_of_none hkn b rm
    refine D.any hhs hF hr0 hR0 fuel _ _ w' q _ (I.put D ho hn hr I.le (fun j p hp => same j p hp hni) k1 k2 ag (I.ext.reserve (D.rlow i k hk).1 k0 k3) I.big (fun j k' hj hne hl => ?_)) hu'
    rw [Place.add_other σ (fun (e : k' = k) => hne (D.rone j i k (by rw [← e]; exact hj) hk))]
    exact I.unb j k' hj hl
  ·simp only [hw,if_true]
   have hjlt : j < hs.length := (List.getElem?_eq_some_iff.1 hj).1
   have hqj : q = j := by
    have h1 : ¬ j < q := fun h => hn ((I.stage j i hj).2 h)
    rcases Nat.lt_or_ge q j with h' | h'
    ·have hlt : q < hs.length := by omega
     have hp : hs[q]? = some hs[q] := List.getElem?_eq_getElem hlt
     have := (I.stage q _ hp).1 (clo_ready I.closed ho hr (D.order q j _ i h' hp hj))
     omega
    ·omega
   subst hqj
   refine hop F n σ w a _ _ hF (hr0.agree agI) I.rel (D.evals I ho hn hr) ?_
   intro σ' w' k1 k2 k3
   obtain ⟨c1, c2, c3, c4⟩ := comp k3 hm'
   refine D.any hhs hF hr0 hR0 fuel _ _ w' (q + 1) σ' (I.put D ho hn hr (by omega) (fun j p hp => ?_) k1 k2 c1 c2 c3 c4) hu'
   constructor
   ·rintro (rfl | hl)
    ·rcases Nat.lt_trichotomy j q with h' | h' | h'
     ·omega
     ·omega
     ·have := D.clo_lt (D.order q j _ _ h' hj hp); omega
    ·have := (I.stage j p hp).1 hl; omega
   ·intro h'
    by_cases e : j = q
    ·subst e; rw [hj] at hp; cases hp; exact .inl rfl
    ·exact .inr ((I.stage j p hp).2 (by omega))
theorem Draws.rel0 (D : Draws P r ops H₀ R hs G Tm V m) {σ : Place} {w : World} (h : Rel σ H₀ w) : Rel σ (G 0) w where
 lt k b s hp := ⟨Nat.lt_of_lt_of_le (h.lt k b s hp).1 D.grow, (h.lt k b s hp).2⟩
 holds k b s hp := by rw [D.old k (h.lt k b s hp).1]; exact h.holds k b s hp
 excl k k' b s s' hk hk' hne al hal := by
  rw [D.old k (h.lt k b s hk).1] at hal
  rw [D.old k' (h.lt k' b s' hk').1]
  exact h.excl k k' b s s' hk hk' hne al hal
theorem Draws.unplaced (D : Draws P r ops H₀ R hs G Tm V m) {σ : Place} {w : World} (h : Rel σ H₀ w) {i k : Nat} (hk : R i = some k) : σ.at_ k = none := by
 cases hh : σ.at_ k with
 | none => rfl
 | some q => have := (h.lt k q.1 q.2 hh).1; have := (D.rlow i k hk).1; omega
theorem Draws.ext0 (D : Draws P r ops H₀ R hs G Tm V m) {σ : Place} {w : World} (h : Rel σ H₀ w) : Ext σ H₀ w σ (G 0) w.drew m where
 agree _ _ := ⟨rfl, rfl⟩
 hsize := D.grow
 wsize := Nat.le_refl _
 os := rfl
 tape := rfl
 output := rfl
 keep k _ hk := D.old k hk
 frame _ _ _ := rfl
 fresh k b s hk hp := by have := (h.lt k b s hp).1; omega
theorem SCode.region_draw (hmix : P.follows .mixedOrders = true) (D : Draws P r ops H₀ R hs G Tm V m) (hhs : ∀ p ∈ hs, p < ops.size) {id : Nat} {ds : List Nat} :
  SCode P r (.region id ops true) ⟨Tm 0, H₀, ds⟩ .normal ⟨Tm ops.size, G hs.length, ds⟩ m := by
 intro F n σ w a hF hr hR hA
 have hR0 : Rel σ H₀ w := hR
 have hR' : Rel σ (G 0) w.drew := D.rel0 (hR0.heap_eq rfl)
 have hX : Ext σ H₀ w σ (G 0) w.drew m := D.ext0 hR0
 refine wpIn_region_any hmix ?_
 have hno : ∀ i, ¬ lis (Array.replicate ops.size false) i := by
  intro i
  unfold lis
  by_cases hi : i < ops.size <;> simp [Array.getD, hi]
 refine D.any hhs hF hr hR _ _ _ _ 0 σ ⟨by simp, fun i o e _ hl => absurd hl (hno i), by omega, fun j p _ => ⟨fun h => absurd h (hno p), fun h => by omega⟩, hR', hX, Nat.le_refl _, fun i k hk _ => D.unplaced hR0 hk, hA.ds, hA.dok, ?_, ?_⟩ ?_
 ·rw [hA.tmps]; simp
 ·intro d hd
  refine ⟨(Tm 0)[d], ?_, hA.ok _ (List.getElem_mem hd), .inr ⟨fun j o _ hl => absurd hl (hno j), List.getElem?_eq_getElem hd⟩⟩
  rw [hA.tmps]; simp [hd]
 ·have : ∀ l, unl (Array.replicate ops.size false) l = l.length := by
   intro l
   induction l with
   | nil => rfl
   | cons i l ih =>
    have := hno i
    unfold lis at this
    simp only [unl,this,if_false,ih,List.length_cons]
    simp; omega
  rw [this]; simp
end
end Go.Am
