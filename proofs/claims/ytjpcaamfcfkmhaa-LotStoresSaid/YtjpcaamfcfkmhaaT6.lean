/- Regions whose operations may come in another order. -/
import Derived.Test.YtjpcaamfcfkmhaaT5
import Derived.OrdersIn
import Derived.MapKept
set_option linter.unusedSimpArgs false
set_option linter.unusedVariables false
namespace Go.Am
variable {T : Tab} {P : Program}
inductive Clo (ops : Array Oper) : Nat → Nat → Prop where
 | edge {i : Nat} {o : Oper} {e : Edge} (ho : ops[i]? = some o) (he : e ∈ o.after) (hb : Region.binds .any e = true) : Clo ops i e.on
 | trans {i j : Nat} {o : Oper} {e : Edge} (ho : ops[i]? = some o) (he : e ∈ o.after) (hb : Region.binds .any e = true) (h : Clo ops e.on j) : Clo ops i j
def tmpsOf : List Operand → List Tmp
 | [] => []
 | .tmp d :: l => d :: tmpsOf l
 | _ :: l => tmpsOf l
/-- What an operation looks at. -/
def looks (ops : Array Oper) (o : Oper) : List Tmp :=
 tmpsOf o.op.operands.toList ++ (match o.guard with
  | some (g, _) => match (ops[g]?).bind (·.dst) with
   | some d => [d]
   | none => []
  | none => [])
def memNat (d : Nat) : List Nat → Bool
 | [] => false
 | x :: l => Nat.beq d x || memNat d l
theorem memNat_iff {d : Nat} : ∀ {l : List Nat}, memNat d l = true ↔ d ∈ l
 | [] => by simp [memNat]
 | x :: l => by
  simp only [memNat,Bool.or_eq_true,memNat_iff,List.mem_cons]
  constructor
  ·rintro (h | h)
   ·exact .inl (Nat.eq_of_beq_eq_true h)
   ·exact .inr h
  ·rintro (h | h)
   ·subst h; simp
   ·exact .inr h
def maskT (o : Oper) (t : Operand → Option Value) : Operand → Option Value
 | .tmp d => bif memNat d (tmpsOf o.op.operands.toList) then t (.tmp d) else none
 | x => t x
structure Draws (P : Program) (r : Option Nat) (ops : Array Oper) (H₀ : AHeap) (R : Nat → Option Nat) (hs : List Nat) (G : Nat → AHeap) (Tm : Nat → List Value) (V : Nat → Value) (m : Nat) : Prop where
 next : ∀ (i : Nat) (o : Oper), ops[i]? = some o → Tm (i + 1) = tset (Tm i) o.dst (V i)
 edge : ∀ (i : Nat) (o : Oper) (e : Edge), ops[i]? = some o → e ∈ o.after → Region.binds .any e = true → e.on < i
 one : ∀ (i j : Nat) (oi oj : Oper) (d : Tmp), ops[i]? = some oi → ops[j]? = some oj → oi.dst = some d → oj.dst = some d → i = j
 sees : ∀ (i j : Nat) (oi oj : Oper) (d : Tmp), ops[i]? = some oi → ops[j]? = some oj → d ∈ looks ops oi → oj.dst = some d → i ≠ j → Clo ops i j ∨ Clo ops j i
 step : ∀ (i : Nat) (o : Oper), ops[i]? = some o → (awanted ops (Tm i) o = false ∧ V i = undef ∧ i ∉ hs) ∨
  (awanted ops (Tm i) o = true ∧ i ∉ hs ∧ ∀ q, q ≤ hs.length → (∀ j p, hs[j]? = some p → Clo ops i p → j < q) → (∀ j p, hs[j]? = some p → Clo ops p i → q ≤ j) →
   SOp P r o (maskT o (aval (Tm i))) (G q) (V i) (G q) (G q).size) ∨
  (awanted ops (Tm i) o = true ∧ i ∉ hs ∧ ∃ k, R i = some k ∧ ∀ q, q ≤ hs.length → (∀ j p, hs[j]? = some p → Clo ops i p → j < q) → (∀ j p, hs[j]? = some p → Clo ops p i → q ≤ j) →
   SNew P r o (maskT o (aval (Tm i))) (G q) k (V i)) ∨
  (awanted ops (Tm i) o = true ∧ ∃ j m', hs[j]? = some i ∧ m ≤ m' ∧ SOp P r o (maskT o (aval (Tm i))) (G j) (V i) (G (j + 1)) m')
 order : ∀ (a b pa pb : Nat), a < b → hs[a]? = some pa → hs[b]? = some pb → Clo ops pb pa
 low : m ≤ H₀.size
 grow : H₀.size ≤ (G 0).size
 old : ∀ k, k < H₀.size → (G 0).get k = H₀.get k
 rlow : ∀ i k, R i = some k → H₀.size ≤ k ∧ k < (G 0).size
 rone : ∀ i j k, R i = some k → R j = some k → i = j
section
variable {r : Option Nat} {ops : Array Oper} {H₀ : AHeap} {R : Nat → Option Nat} {hs : List Nat} {G : Nat → AHeap} {Tm : Nat → List Value} {V : Nat → Value} {m : Nat}
theorem Draws.clo_lt (D : Draws P r ops H₀ R hs G Tm V m) {i j : Nat} (h : Clo ops i j) : j < i := by
 induction h with
 | edge ho he hb => exact D.edge _ _ _ ho he hb
 | trans ho he hb _ ih => have := D.edge _ _ _ ho he hb; omega
def lis (listed : Array Bool) (i : Nat) : Prop := listed.getD i false = true
theorem clo_listed {listed : Array Bool} (hc : ∀ i o e, ops[i]? = some o → lis listed i → e ∈ o.after → Region.binds .any e = true → lis listed e.on) {i j : Nat} (h : Clo ops i j) : lis listed i → lis listed j := by
 induction h with
 | edge ho he hb => intro hl; exact hc _ _ _ ho hl he hb
 | trans ho he hb _ ih => intro hl; exact ih (hc _ _ _ ho hl he hb)
theorem clo_ready {listed : Array Bool} (hc : ∀ i o e, ops[i]? = some o → lis listed i → e ∈ o.after → Region.binds .any e = true → lis listed e.on) {i j : Nat} {o : Oper} (hi : ops[i]? = some o)
  (hr : ∀ e ∈ o.after, Region.binds .any e = true → lis listed e.on) (h : Clo ops i j) : lis listed j := by
 cases h with
 | edge ho he hb => rw [hi] at ho; cases ho; exact hr _ he hb
 | trans ho he hb h => rw [hi] at ho; cases ho; exact clo_listed hc h (hr _ he hb)
/-- The values in the order of the text. -/
theorem Draws.look (D : Draws P r ops H₀ R hs G Tm V m) : ∀ i, i ≤ ops.size → (Tm i).length = (Tm 0).length ∧ ∀ d, d < (Tm 0).length →
  ((∃ j o, j < i ∧ ops[j]? = some o ∧ o.dst = some d ∧ (Tm i)[d]? = some (V j)) ∨ ((∀ j o, j < i → ops[j]? = some o → o.dst ≠ some d) ∧ (Tm i)[d]? = (Tm 0)[d]?))
 | 0, _ => ⟨rfl, fun d _ => .inr ⟨fun j o hj => by omega, rfl⟩⟩
 | i + 1, hi => by
  obtain ⟨h1, h2⟩ := D.look i (by omega)
  have hlt : i < ops.size := by omega
  have ho : ops[i]? = some ops[i] := Array.getElem?_eq_getElem hlt
  rw [D.next i _ ho]
  cases hd : ops[i].dst with
  | none =>
   refine ⟨h1, fun d hdl => ?_⟩
   rcases h2 d hdl with ⟨j, o, hj, hoj, hdj, hv⟩ | ⟨hno, hv⟩
   ·exact .inl ⟨j, o, by omega, hoj, hdj, hv⟩
   ·refine .inr ⟨fun j o hj hoj => ?_, hv⟩
    by_cases e : j = i
    ·subst e; rw [ho] at hoj; cases hoj; rw [hd]; simp
    ·exact hno j o (by omega) hoj
  | some di =>
   refine ⟨by simpa [tset] using h1, fun d hdl => ?_⟩
   simp only [tset,List.getElem?_set]
   by_cases e : di = d
   ·subst e
    exact .inl ⟨i, ops[i], by omega, ho, hd, by simp [h1, hdl]⟩
   ·simp only [e,if_false]
    rcases h2 d hdl with ⟨j, o, hj, hoj, hdj, hv⟩ | ⟨hno, hv⟩
    ·exact .inl ⟨j, o, by omega, hoj, hdj, hv⟩
    ·refine .inr ⟨fun j o hj hoj => ?_, hv⟩
     by_cases e' : j = i
     ·subst e'; rw [ho] at hoj; cases hoj; rw [hd]; simpa using e
     ·exact hno j o (by omega) hoj
structure Inv (ops : Array Oper) (H₀ : AHeap) (R : Nat → Option Nat) (hs : List Nat) (G : Nat → AHeap) (Tm : Nat → List Value) (V : Nat → Value) (m : Nat) (σ₀ : Place) (w₀ : World) (ds : List Nat) (listed : Array Bool) (a : Act) (w : World) (q : Nat) (σ : Place) : Prop where
 size : listed.size = ops.size
 closed : ∀ (i : Nat) (o : Oper) (e : Edge), ops[i]? = some o → lis listed i → e ∈ o.after → Region.binds .any e = true → lis listed e.on
 le : q ≤ hs.length
 stage : ∀ j p, hs[j]? = some p → (lis listed p ↔ j < q)
 rel : Rel σ (G q) w
 ext : Ext σ₀ H₀ w₀ σ (G q) w m
 big : (G 0).size ≤ (G q).size
 unb : ∀ i k, R i = some k → ¬ lis listed i → σ.at_ k = none
 dfs : a.defers = ds.map (mark σ)
 dok : ∀ k ∈ ds, (σ.at_ k).isSome = true
 len : a.tmps.size = (Tm 0).length
 tmps : ∀ d, d < (Tm 0).length → ∃ v, a.tmps[d]? = some (ren σ v) ∧ okv σ v ∧
  ((∃ j o, ops[j]? = some o ∧ lis listed j ∧ o.dst = some d ∧ v = V j) ∨ ((∀ j o, ops[j]? = some o → lis listed j → o.dst ≠ some d) ∧ (Tm 0)[d]? = some v))
/-- What an operation that is ready sees is what it sees in the order of the text. -/
theorem Draws.seen (D : Draws P r ops H₀ R hs G Tm V m) {σ₀ : Place} {w₀ : World} {ds : List Nat} {listed : Array Bool} {a : Act} {w : World} {q : Nat} {σ : Place} (I : Inv ops H₀ R hs G Tm V m σ₀ w₀ ds listed a w q σ)
  {i : Nat} {o : Oper} (hi : ops[i]? = some o) (hn : ¬ lis listed i) (hr : ∀ e ∈ o.after, Region.binds .any e = true → lis listed e.on) {d : Tmp} (hd : d ∈ looks ops o) :
  (d < (Tm 0).length → ∃ v, a.tmps[d]? = some (ren σ v) ∧ okv σ v ∧ (Tm i)[d]? = some v) ∧ (¬ d < (Tm 0).length → a.tmps[d]? = none ∧ (Tm i)[d]? = none) := by
 have hil : i < ops.size := (Array.getElem?_eq_some_iff.1 hi).1
 obtain ⟨hlen, hlook⟩ := D.look i (by omega)
 refine ⟨fun hdl => ?_, fun hdl => ?_⟩
 rotate_left
 ·have hdl' : (Tm 0).length ≤ d := Nat.not_lt.1 hdl
  exact ⟨Array.getElem?_eq_none (by rw [I.len]; exact hdl'), List.getElem?_eq_none (by rw [hlen]; exact hdl')⟩
 obtain ⟨v, h1, h2, h3⟩ := I.tmps d hdl
 refine ⟨v, h1, h2, ?_⟩
 have key : ∀ j oj, ops[j]? = some oj → oj.dst = some d → j ≠ i → (lis listed j ↔ j < i) := by
  intro j oj hj hdj hne
  rcases D.sees i j o oj d hi hj hd hdj (Ne.symm hne) with hc | hc
  ·have hlt := D.clo_lt hc
   exact ⟨fun _ => hlt, fun _ => clo_ready I.closed hi hr hc⟩
  ·have hlt := D.clo_lt hc
   exact ⟨fun hl => absurd (clo_listed I.closed hc hl) hn, fun h => by omega⟩
 rcases h3 with ⟨j, oj, hj, hl, hdj, rfl⟩ | ⟨hno, ht0⟩
 ·have hne : j ≠ i := fun e => hn (e ▸ hl)
  have hlt := (key j oj hj hdj hne).1 hl
  rcases hlook d hdl with ⟨j', o', hj', hoj', hdj', hv⟩ | ⟨hno, _⟩
  ·have := D.one j j' oj o' d hj hoj' hdj hdj'
   subst this; exact hv
  ·exact absurd hdj (hno j oj hlt hj)
 ·rcases hlook d hdl with ⟨j', o', hj', hoj', hdj', hv⟩ | ⟨_, hv⟩
  ·have hne : j' ≠ i := by omega
   exact absurd hdj' (hno j' o' hoj' ((key j' o' hoj' hdj' hne).2 hj'))
  ·rw [hv]; exact ht0
theorem Draws.evals (D : Draws P r ops H₀ R hs G Tm V m) {σ₀ : Place} {w₀ : World} {ds : List Nat} {listed : Array Bool} {a : Act} {w : World} {q : Nat} {σ : Place} (I : Inv ops H₀ R hs G Tm V m σ₀ w₀ ds listed a w q σ)
  {i : Nat} {o : Oper} (hi : ops[i]? = some o) (hn : ¬ lis listed i) (hr : ∀ e ∈ o.after, Region.binds .any e = true → lis listed e.on) :
  Evals σ (maskT o (aval (Tm i))) a.eval := by
 intro x v hx
 cases x with
 | tmp d =>
  simp only [maskT] at hx
  cases hm : memNat d (tmpsOf o.op.operands.toList)
  ·rw [hm] at hx; cases hx
  ·rw [hm] at hx
   simp only [cond_true,aval,Option.some.injEq] at hx
   have hd : d ∈ looks ops o := List.mem_append.2 (.inl (memNat_iff.1 hm))
   obtain ⟨h1, h2⟩ := D.seen I hi hn hr hd
   by_cases hdl : d < (Tm 0).length
   ·obtain ⟨u, k1, k2, k3⟩ := h1 hdl
    have e1 : v = u := by rw [← hx]; simp [List.getD, k3]
    subst e1
    have hds : d < a.tmps.size := by rw [I.len]; exact hdl
    have : a.tmps.getD d undef = ren σ v := by
     have := (Array.getElem?_eq_some_iff.1 k1).2
     simp [Array.getD, hds, this]
    exact ⟨this, k2⟩
   ·obtain ⟨k1, k2⟩ := h2 hdl
    have e1 : v = undef := by rw [← hx]; simp [List.getD, k2]
    subst e1
    have hds : ¬ d < a.tmps.size := by rw [I.len]; exact hdl
    refine ⟨?_, okv_undef σ⟩
    rw [ren_undef]
    simp only [Act.eval]
    simp [Array.getD, hds]
 | const c =>
  simp only [maskT,aval] at hx
  cases hg : gr c
  ·rw [hg] at hx; cases hx
  ·rw [hg] at hx
   simp only [cond_true,Option.some.injEq] at hx
   subst hx
   obtain ⟨h1, h2⟩ := gr_ok σ hg
   exact ⟨by rw [h2]; rfl, h1⟩
 | global g => cases hx
 | func f =>
  simp only [maskT,aval,Option.some.injEq] at hx
  subst hx
  exact ⟨by simp [Act.eval, ren, Place.fn], by simp [okv, okfn]⟩
theorem Draws.wanted (D : Draws P r ops H₀ R hs G Tm V m) {σ₀ : Place} {w₀ : World} {ds : List Nat} {listed : Array Bool} {a : Act} {w : World} {q : Nat} {σ : Place} (I : Inv ops H₀ R hs G Tm V m σ₀ w₀ ds listed a w q σ)
  {i : Nat} {o : Oper} (hi : ops[i]? = some o) (hn : ¬ lis listed i) (hr : ∀ e ∈ o.after, Region.binds .any e = true → lis listed e.on) :
  Region.wanted o (yielded ops a.tmps) = awanted ops (Tm i) o := by
 unfold awanted Region.wanted
 cases hg : o.guard with
 | none => rfl
 | some gb =>
  obtain ⟨g, b⟩ := gb
  simp only
  congr 1
  unfold yielded ayielded
  cases hd : (ops[g]?).bind (·.dst) with
  | none => rfl
  | some d =>
   simp only [Option.bind_some]
   have hdl : d ∈ looks ops o := List.mem_append.2 (.inr (by simp [hg, hd]))
   obtain ⟨h1, h2⟩ := D.seen I hi hn hr hdl
   by_cases hlt : d < (Tm 0).length
   ·obtain ⟨v, k1, _, k3⟩ := h1 hlt
    rw [k1, k3]
    cases v <;> simp [ren]
   ·obtain ⟨k1, k2⟩ := h2 hlt
    rw [k1, k2]
theorem lis_set {listed : Array Bool} {i j : Nat} (hi : i < listed.size) : lis (listed.setIfInBounds i true) j ↔ j = i ∨ lis listed j := by
 unfold lis
 simp only [Array.getD_eq_getD_getElem?,Array.getElem?_setIfInBounds]
 by_cases e : i = j
 ·subst e; simp [hi]
 ·simp [e, Ne.symm e]
/-- One more operation is done. -/
theorem Inv.put {σ₀ : Place} {w₀ : World} {ds : List Nat} {listed : Array Bool} {a : Act} {w w' : World} {q q' : Nat} {σ σ' : Place} (D : Draws P r ops H₀ R hs G Tm V m) (I : Inv ops H₀ R hs G Tm V m σ₀ w₀ ds listed a w q σ)
  {i : Nat} {o : Oper} (hi : ops[i]? = some o) (hn : ¬ lis listed i) (hr : ∀ e ∈ o.after, Region.binds .any e = true → lis listed e.on) (hq : q' ≤ hs.length)
  (hst : ∀ j p, hs[j]? = some p → (p = i ∨ lis listed p ↔ j < q')) (hv : okv σ' (V i)) (hR : Rel σ' (G q') w') (ag : Agree σ σ') (hX : Ext σ₀ H₀ w₀ σ' (G q') w' m) (hbig : (G 0).size ≤ (G q').size) (hunb : ∀ j k, R j = some k → j ≠ i → ¬ lis listed j → σ'.at_ k = none) :
  Inv ops H₀ R hs G Tm V m σ₀ w₀ ds (listed.setIfInBounds i true) (a.put o.dst (ren σ' (V i))) w' q' σ' := by
 have hil : i < listed.size := by rw [I.size]; exact (Array.getElem?_eq_some_iff.1 hi).1
 refine ⟨by simp [I.size], ?_, hq, fun j p hp => by rw [lis_set hil]; exact hst j p hp, hR, hX, hbig, ?_, ?_, fun k hk => ag.placed (I.dok k hk), ?_, ?_⟩
 ·intro j oj e hj hl he hb
  rw [lis_set hil] at hl ⊢
  rcases hl with rfl | hl
  ·rw [hi] at hj; cases hj; exact .inr (hr e he hb)
  ·exact .inr (I.closed j oj e hj hl he hb)
 ·intro j k hj hl
  rw [lis_set hil] at hl
  exact hunb j k hj (fun e => hl (.inl e)) (fun h => hl (.inr h))
 ·have : (a.put o.dst (ren σ' (V i))).defers = a.defers := by cases o.dst <;> rfl
  rw [this, I.dfs]
  exact List.map_congr_left fun k hk => by simp [mark, ag.blk (I.dok k hk)]
 ·cases hd : o.dst <;> simp [Act.put, I.len]
 ·intro d hdl
  by_cases e : o.dst = some d
  ·refine ⟨V i, ?_, hv, .inl ⟨i, o, hi, (lis_set hil).2 (.inl rfl), e, rfl⟩⟩
   rw [e]
   simp only [Act.put,Array.getElem?_setIfInBounds]
   simp [I.len, hdl]
  ·obtain ⟨v, h1, h2, h3⟩ := I.tmps d hdl
   refine ⟨v, ?_, ag.okv h2, ?_⟩
   ·rw [ag.ren h2, ← h1]
    cases hd : o.dst with
    | none => rfl
    | some d' =>
     have : d' ≠ d := fun e' => e (by rw [hd, e'])
     simp [Act.put, Array.getElem?_setIfInBounds, this]
   ·rcases h3 with ⟨j, oj, hj, hl, hdj, rfl⟩ | ⟨hno, ht⟩
    ·exact .inl ⟨j, oj, hj, (lis_set hil).2 (.inr hl), hdj, rfl⟩
    ·refine .inr ⟨fun j oj hj hl => ?_, ht⟩
     rcases (lis_set hil).1 hl with rfl | hl
     ·rw [hi] at hj; cases hj; exact e
     ·exact hno j oj hj hl
def unl (listed : Array Bool) : List Nat → Nat
 | [] => 0
 | i :: l => (if listed.getD i false = true then 0 else 1) + unl listed l
theorem unl_le {listed : Array Bool} {i : Nat} (hi : i < listed.size) : ∀ l, unl (listed.setIfInBounds i true) l ≤ unl listed l
 | [] => Nat.le_refl _
 | j :: l => by
  have ih := unl_le hi l
  have := lis_set (j := j) hi
  unfold lis at this
  simp only [unl]
  split <;> split <;> simp_all <;> omega
theorem unl_lt {listed : Array Bool} {i : Nat} (hi : i < listed.size) (hn : ¬ lis listed i) : ∀ l, i ∈ l → unl (listed.setIfInBounds i true) l < unl listed l
 | j :: l, hm => by
  have h1 := unl_le hi l
  have h2 := lis_set (j := j) hi
  by_cases e : j = i
  ·subst e
   have h3 : lis (listed.setIfInBounds j true) j := h2.2 (.inl rfl)
   unfold lis at h3 hn
   simp only [unl,h3,hn,if_true]
   simp; omega
  ·have hm' : i ∈ l := by
    rcases List.mem_cons.1 hm with h | h
    ·exact absurd h.symm e
    ·exact h
   have ih := unl_lt hi hn l hm'
   have h4 : (listed.setIfInBounds i true).getD j false = listed.getD j false := by
    simp only [Array.getD_eq_getD_getElem?,Array.getElem?_setIfInBounds]
    simp [Ne.symm e]
   simp only [unl,h4]
   omega
theorem unl_zero {listed : Array Bool} : ∀ {l : List Nat}, unl listed l = 0 → ∀ i ∈ l, lis listed i
 | j :: l, h, i, hi => by
  simp only [unl] at h
  rcases List.mem_cons.1 hi with rfl | hi
  ·unfold lis
   by_cases hh : listed.getD i false = true
   ·exact hh
   ·rw [if_neg hh] at h; omega
  ·exact unl_zero (by omega) i hi
theorem mem_ready {listed : Array Bool} {i : Nat} (hsz : listed.size = ops.size) : i ∈ Region.ready .any ops listed ↔ ∃ o, ops[i]? = some o ∧ ¬ lis listed i ∧ ∀ e ∈ o.after, Region.binds .any e = true → lis listed e.on := by
 unfold Region.ready lis
 simp only [List.mem_filter,List.mem_range,Bool.and_eq_true,Bool.not_eq_true']
 constructor
 ·rintro ⟨h1, h2, h3⟩
  have ho : ops[i]? = some ops[i] := Array.getElem?_eq_getElem h1
  refine ⟨ops[i], ho, ?_, ?_⟩
  ·have hl : i < listed.size := by omega
   simp only [Array.getD,hl] at h2 ⊢
   simpa using h2
  ·rw [ho] at h3
   simp only [Option.map_some,Option.getD_some] at h3
   intro e he hb
   have := (Array.all_eq_true_iff_forall_mem.1 h3) e he
   simpa [hb] using this
 ·rintro ⟨o, ho, h2, h3⟩
  have h1 : i < ops.size := (Array.getElem?_eq_some_iff.1 ho).1
  refine ⟨h1, ?_, ?_⟩
  ·have hl : i < listed.size := by omega
   simp only [Array.getD,hl] at h2 ⊢
   simpa using h2
  ·rw [ho]
   simp only [Option.map_some,Option.getD_some]
   refine Array.all_eq_true_iff_forall_mem.2 fun e he => ?_
   cases hb : Region.binds .any e
   ·simp
   ·simpa using h3 e he hb
theorem Draws.all_of_ready (D : Draws P r ops H₀ R hs G Tm V m) {listed : Array Bool} (hsz : listed.size = ops.size) (h : Region.ready .any ops listed = []) : ∀ i, i < ops.size → lis listed i := by
 intro i
 induction i using Nat.strongRecOn with
 | _ i ih =>
  intro hi
  by_cases hl : lis listed i
  ·exact hl
  ·have ho : ops[i]? = some ops[i] := Array.getElem?_eq_getElem hi
   have : i ∈ Region.ready .any ops listed := (mem_ready hsz).2 ⟨ops[i], ho, hl, fun e he hb => ih e.on (D.edge i _ e ho he hb) (Nat.lt_trans (D.edge i _ e ho he hb) hi)⟩
   rw [h] at this; cases this
theorem Draws.finish (D : Draws P r ops H₀ R hs G Tm V m) {σ₀ : Place} {w₀ : World} {ds : List Nat} {listed : Array Bool} {a : Act} {w : World} {q : Nat} {σ : Place} (I : Inv ops H₀ R hs G Tm V m σ₀ w₀ ds listed a w q σ)
  (hall : ∀ i, i < ops.size → lis listed i) (hhs : ∀ p ∈ hs, p < ops.size) : SPost σ₀ ⟨Tm 0, H₀, ds⟩ w₀ .normal ⟨Tm ops.size, G hs.length, ds⟩ m .normal a w := by
 have hq : q = hs.length := by
  have := I.le
  by_cases e : q = hs.length
  ·exact e
  ·have hlt : q < hs.length := by omega
   have hp : hs[q]? = some hs[q] := List.getElem?_eq_getElem hlt
   have := (I.stage q _ hp).1 (hall _ (hhs _ (List.getElem_mem hlt)))
   omega
 subst hq
 obtain ⟨hlen, hlook⟩ := D.look ops.size (Nat.le_refl _)
 have hval : ∀ d, d < (Tm 0).length → ∃ v, (Tm ops.size)[d]? = some v ∧ a.tmps[d]? = some (ren σ v) ∧ okv σ v := by
  intro d hdl
  obtain ⟨v, h1, h2, h3⟩ := I.tmps d hdl
  refine ⟨v, ?_, h1, h2⟩
  rcases h3 with ⟨j, oj, hj, _, hdj, rfl⟩ | ⟨hno, ht⟩
  ·rcases hlook d hdl with ⟨j', o', hj', hoj', hdj', hv⟩ | ⟨hno, _⟩
   ·have := D.one j j' oj o' d hj hoj' hdj hdj'
    subst this; exact hv
   ·exact absurd hdj (hno j oj (Array.getElem?_eq_some_iff.1 hj).1 hj)
  ·rcases hlook d hdl with ⟨j', o', hj', hoj', hdj', _⟩ | ⟨_, hv⟩
   ·exact absurd hdj' (hno j' o' hoj' (hall j' hj'))
   ·rw [hv]; exact ht
 refine ⟨rfl, σ, ⟨?_, ?_, I.dfs, I.dok⟩, I.rel, I.ext⟩
 ·apply Array.ext'
  apply List.ext_getElem?
  intro d
  simp only [Array.getElem?_toList,List.getElem?_map]
  by_cases hdl : d < (Tm 0).length
  ·obtain ⟨v, h1, h2, _⟩ := hval d hdl
   rw [h1, h2]; rfl
  ·have hdl' : (Tm 0).length ≤ d := Nat.not_lt.1 hdl
   rw [Array.getElem?_eq_none (by rw [I.len]; exact hdl'), List.getElem?_eq_none (by show (Tm ops.size).length ≤ d; rw [hlen]; exact hdl')]; rfl
 ·intro v hv
  obtain ⟨d, hd⟩ := List.getElem?_of_mem hv
  have hdl : d < (Tm 0).length := by
   have h := (List.getElem?_eq_some_iff.1 hd).1
   exact hlen ▸ h
  obtain ⟨u, h1, _, h3⟩ := hval d hdl
  rw [h1] at hd; cases hd; exact h3
theorem Draws.any (D : Draws P r ops H₀ R hs G Tm V m) (hhs : ∀ p ∈ hs, p < ops.size) {F : Fence} {n : Nat} (hF : Free F) {σ₀ : Place} {w₀ : World} {ds : List Nat} (hr0 : InR r σ₀ F) (hR0 : Rel σ₀ H₀ w₀) :
  ∀ (fuel : Nat) (listed : Array Bool) (a : Act) (w : World) (q : Nat) (σ : Place), Inv ops H₀ R hs G Tm V m σ₀ w₀ ds listed a w q σ → unl listed (List.range ops.size) ≤ fuel →
   wpAnyIn F n P .any ops (SPost σ₀ ⟨Tm 0, H₀, ds⟩ w₀ .normal ⟨Tm ops.size, G hs.length, ds⟩ m) fuel listed a w
 | 0, listed, a, w, q, σ, I, hu => by
  have hall : ∀ i, i < ops.size → lis listed i := fun i hi => unl_zero (by omega) i (List.mem_range.2 hi)
  refine ⟨?_, D.finish I hall hhs⟩
  apply List.eq_nil_iff_forall_not_mem.2
  intro i hi
  obtain ⟨o, ho, hn, _⟩ := (mem_ready I.size).1 hi
  exact hn (hall i (Array.getElem?_eq_some_iff.1 ho).1)
 | fuel + 1, listed, a, w, q, σ, I, hu => by
  refine ⟨fun h => D.finish I (D.all_of_ready I.size h) hhs, fun i hi => ?_⟩
  obtain ⟨o, ho, hn, hr⟩ := (mem_ready I.size).1 hi
  have hil : i < listed.size := by rw [I.size]; exact (Array.getElem?_eq_some_iff.1 ho).1
  have hu' : unl (listed.setIfInBounds i true) (List.range ops.size) ≤ fuel := by
   have := unl_lt hil hn (List.range ops.size) (List.mem_range.2 (by rw [← I.size]; exact hil))
   omega
  unfold wpOpIn
  rw [ho]
  simp only [D.wanted I ho hn hr]
  have agI := I.ext.agr hR0
  have same : ∀ j p, hs[j]? = some p → i ∉ hs → (p = i ∨ lis listed p ↔ j < q) := fun j p hp hni => by
   have : p ≠ i := fun e => hni (e ▸ List.mem_of_getElem? hp)
   simp only [this,false_or]; exact I.stage j p hp
  have lowq : m ≤ (G q).size := Nat.le_trans D.low I.ext.hsize
  have comp : ∀ {q' : Nat} {σ' : Place} {w' : World} {m' : Nat}, Ext σ (G q) w σ' (G q') w' m' → m ≤ m' → Agree σ σ' ∧ Ext σ₀ H₀ w₀ σ' (G q') w' m ∧ (G 0).size ≤ (G q').size ∧ ∀ j k, R j = some k → j ≠ i → ¬ lis listed j → σ'.at_ k = none := fun {q' σ' w' m'} x hm => by
   refine ⟨x.agr I.rel, ?_, Nat.le_trans I.big x.hsize, fun j k hj _ hl => ?_⟩
   ·have := I.ext.trans x
    exact this.weaken (by omega)
   ·rw [(x.agree k (Nat.lt_of_lt_of_le (D.rlow j k hj).2 I.big)).1]; exact I.unb j k hj hl
  rcases D.step i o ho with ⟨hw, hv, hni⟩ | ⟨hw, hni, hop⟩ | ⟨hw, hni, k, hk, hop⟩ | ⟨hw, j, m', hj, hm', hop⟩
  ·simp only [hw,Bool.false_eq_true,if_false]
   refine ⟨fun f _ => hF.1 f, ?_⟩
   have hp := I.put D ho hn hr I.le (fun j p hp => same j p hp hni) (by rw [hv]; exact okv_undef σ) I.rel (Agree.refl σ) I.ext I.big (fun j k hj _ hl => I.unb j k hj hl)
   rw [hv, ren_undef] at hp
   exact D.any hhs hF hr0 hR0 fuel _ _ w q σ hp hu'
  ·simp only [hw,if_true]
   refine hop q I.le (fun j p hp hc => (I.stage j p hp).1 (clo_ready I.closed ho hr hc)) (fun j p hp hc => ?_) F n σ w a _ _ hF (hr0.agree agI) I.rel (D.evals I ho hn hr) ?_
   ·rcases Nat.lt_or_ge j q with h' | h'
    ·exact absurd (clo_listed I.closed hc ((I.stage j p hp).2 h')) hn
    ·exact h'
   ·intro σ' w' k1 k2 k3
    obtain ⟨c1, c2, c3, c4⟩ := comp k3 lowq
    exact D.any hhs hF hr0 hR0 fuel _ _ w' q σ' (I.put D ho hn hr I.le (fun j p hp => same j p hp hni) k1 k2 c1 c2 c3 c4) hu'
  ·simp only [hw,if_true]
   have hkn : σ.at_ k = none := I.unb i k hk hn
   refine hop q I.le (fun j p hp hc => (I.stage j p hp).1 (clo_ready I.closed ho hr hc)) (fun j p hp hc => ?_) F n σ w a _ _ hF I.rel (D.evals I ho hn hr) hkn ?_
   ·rcases Nat.lt_or_ge j q with h' | h'
    ·exact absurd (clo_listed I.closed hc ((I.stage j p hp).2 h')) hn
    ·exact h'
   ·intro w' b rm k0 k1 k2 k3
    have ag := agree_add_of_none hkn b rm
    refine D.any hhs hF hr0 hR0 fuel _ _ w' q _ (I.put D ho hn hr I.le (fun j p hp => same j p hp hni) k1 k2 ag (I.ext.reserve (D.rlow i k hk).1 k0 k3) I.big (fun j k' hj hne hl => ?_)) hu'
    rw [Place.add_other σ (fun (e : k' = k) => hne (D.rone j i k (by rw [← e]; exact hj) hk))]
    exact I.unb j k' hj hl
  ·simp only [hw,if_true]
   have hjlt : j < hs.length := (List.getElem?_eq_some_iff.1 hj).1
   have hqj : q = j := by
    have h1 : ¬ j < q := fun h => hn ((I.stage j i hj).2 h)
    rcases Nat.lt_or_ge q j with h' | h'
    ·have hlt : q < hs.length := by omega
     have hp : hs[q]? = some hs[q] := List.getElem?_eq_getElem hlt
     have := (I.stage q _ hp).1 (clo_ready I.closed ho hr (D.order q j _ i h' hp hj))
     omega
    ·omega
   subst hqj
   refine hop F n σ w a _ _ hF (hr0.agree agI) I.rel (D.evals I ho hn hr) ?_
   intro σ' w' k1 k2 k3
   obtain ⟨c1, c2, c3, c4⟩ := comp k3 hm'
   refine D.any hhs hF hr0 hR0 fuel _ _ w' (q + 1) σ' (I.put D ho hn hr (by omega) (fun j p hp => ?_) k1 k2 c1 c2 c3 c4) hu'
   constructor
   ·rintro (rfl | hl)
    ·rcases Nat.lt_trichotomy j q with h' | h' | h'
     ·omega
     ·omega
     ·have := D.clo_lt (D.order q j _ _ h' hj hp); omega
    ·have := (I.stage j p hp).1 hl; omega
   ·intro h'
    by_cases e : j = q
    ·subst e; rw [hj] at hp; cases hp; exact .inl rfl
    ·exact .inr ((I.stage j p hp).2 (by omega))
theorem Draws.rel0 (D : Draws P r ops H₀ R hs G Tm V m) {σ : Place} {w : World} (h : Rel σ H₀ w) : Rel σ (G 0) w where
 lt k b s hp := ⟨Nat.lt_of_lt_of_le (h.lt k b s hp).1 D.grow, (h.lt k b s hp).2⟩
 holds k b s hp := by rw [D.old k (h.lt k b s hp).1]; exact h.holds k b s hp
 excl k k' b s s' hk hk' hne al hal := by
  rw [D.old k (h.lt k b s hk).1] at hal
  rw [D.old k' (h.lt k' b s' hk').1]
  exact h.excl k k' b s s' hk hk' hne al hal
theorem Draws.unplaced (D : Draws P r ops H₀ R hs G Tm V m) {σ : Place} {w : World} (h : Rel σ H₀ w) {i k : Nat} (hk : R i = some k) : σ.at_ k = none := by
 cases hh : σ.at_ k with
 | none => rfl
 | some q => have := (h.lt k q.1 q.2 hh).1; have := (D.rlow i k hk).1; omega
theorem Draws.ext0 (D : Draws P r ops H₀ R hs G Tm V m) {σ : Place} {w : World} (h : Rel σ H₀ w) : Ext σ H₀ w σ (G 0) w.drew m where
 agree _ _ := ⟨rfl, rfl⟩
 hsize := D.grow
 wsize := Nat.le_refl _
 os := rfl
 tape := rfl
 output := rfl
 keep k _ hk := D.old k hk
 frame _ _ _ := rfl
 fresh k b s hk hp := by have := (h.lt k b s hp).1; omega
theorem SCode.region_draw (hmix : P.follows .mixedOrders = true) (D : Draws P r ops H₀ R hs G Tm V m) (hhs : ∀ p ∈ hs, p < ops.size) {id : Nat} {ds : List Nat} :
  SCode P r (.region id ops true) ⟨Tm 0, H₀, ds⟩ .normal ⟨Tm ops.size, G hs.length, ds⟩ m := by
 intro F n σ w a hF hr hR hA
 have hR0 : Rel σ H₀ w := hR
 have hR' : Rel σ (G 0) w.drew := D.rel0 (hR0.heap_eq rfl)
 have hX : Ext σ H₀ w σ (G 0) w.drew m := D.ext0 hR0
 refine wpIn_region_any hmix ?_
 have hno : ∀ i, ¬ lis (Array.replicate ops.size false) i := by
  intro i
  unfold lis
  by_cases hi : i < ops.size <;> simp [Array.getD, hi]
 refine D.any hhs hF hr hR _ _ _ _ 0 σ ⟨by simp, fun i o e _ hl => absurd hl (hno i), by omega, fun j p _ => ⟨fun h => absurd h (hno p), fun h => by omega⟩, hR', hX, Nat.le_refl _, fun i k hk _ => D.unplaced hR0 hk, hA.ds, hA.dok, ?_, ?_⟩ ?_
 ·rw [hA.tmps]; simp
 ·intro d hd
  refine ⟨(Tm 0)[d], ?_, hA.ok _ (List.getElem_mem hd), .inr ⟨fun j o _ hl => absurd hl (hno j), List.getElem?_eq_getElem hd⟩⟩
  rw [hA.tmps]; simp [hd]
 ·have : ∀ l, unl (Array.replicate ops.size false) l = l.length := by
   intro l
   induction l with
   | nil => rfl
   | cons i l ih =>
    have := hno i
    unfold lis at this
    simp only [unl,this,if_false,ih,List.length_cons]
    simp; omega
  rw [this]; simp
end
end Go.Am
/- Maps. -/
namespace Go.Am
variable {T : Tab} {P : Program} {σ : Place} {H : AHeap} {w : World} {t : Operand → Option Value} {ρ : Operand → Value}
def wr (σ : Place) (e : Value × Value × Nat) : MapEntry := { key := ren σ e.1, val := ren σ e.2.1, born := e.2.2 }
theorem sameNow_ren (d : TypeDesc) (k v : Value) : Instr.sameNow d k (ren σ v) = Instr.sameNow d k v := by
 cases d <;> cases k <;> cases v <;> simp [ren, Instr.sameNow]
def aFindNow (d : TypeDesc) (k : Value) : List (Value × Value × Nat) → Nat → Option (Option (Nat × Value))
 | [], _ => some none
 | e :: es, i => match Instr.sameNow d k e.1 with
  | some true => some (some (i, e.2.1))
  | some false => aFindNow d k es (i + 1)
  | none => none
def renQ (σ : Place) (q : Option (Nat × Value)) : Option (Nat × Value) := q.map fun p => (p.1, ren σ p.2)
theorem findNow_eq (d : TypeDesc) (k : Value) : ∀ (es : List (Value × Value × Nat)) (i : Nat), Instr.findNow d k (es.map (wr σ)) i = (aFindNow d k es i).map (renQ σ)
 | [], i => rfl
 | e :: es, i => by
  have h1 : Instr.sameNow d k (wr σ e).key = Instr.sameNow d k e.1 := sameNow_ren d k e.1
  simp only [List.map_cons,Instr.findNow,aFindNow]
  rw [h1]
  split
  ·rename_i h; simp only [h]; rfl
  ·rename_i h; simp only [h]; exact findNow_eq d k es (i + 1)
  ·rename_i h; simp only [h]; rfl
theorem aFindNow_mem (d : TypeDesc) (k : Value) : ∀ (es : List (Value × Value × Nat)) (i j : Nat) (v : Value), aFindNow d k es i = some (some (j, v)) → i ≤ j ∧ ∃ e, es[j - i]? = some e ∧ v = e.2.1
 | [], i, j, v, h => by simp [aFindNow] at h
 | e :: es, i, j, v, h => by
  simp only [aFindNow] at h
  split at h
  ·cases h; exact ⟨Nat.le_refl _, e, by simp, rfl⟩
  ·obtain ⟨h1, e', h2, h3⟩ := aFindNow_mem d k es (i + 1) j v h
   refine ⟨by omega, e', ?_, h3⟩
   have : j - i = (j - (i + 1)) + 1 := by omega
   rw [this, List.getElem?_cons_succ]; exact h2
  ·cases h
def aFind (P : Program) (kt : TypeId) (k : Value) : List (Value × Value × Nat) → Nat → Option (Option (Nat × Value))
 | [], _ => some none
 | e :: es, i => bif gr e.1 then match pureRun P (Op.equal kt k e.1) with
   | some true => some (some (i, e.2.1))
   | some false => aFind P kt k es (i + 1)
   | none => none
  else none
theorem aFind_ok (kt : TypeId) (k : Value) : ∀ (es : List (Value × Value × Nat)) (i : Nat) (q : Option (Nat × Value)), aFind P kt k es i = some q →
  (Instr.findAsking kt k (es.map (wr σ)) i).run P w = .ok (renQ σ q) w
 | [], i, q, h => by simp only [aFind,Option.some.injEq] at h; subst h; simp [Instr.findAsking, renQ]
 | e :: es, i, q, h => by
  simp only [aFind] at h
  cases hg : gr e.1
  ·rw [hg] at h; cases h
  ·rw [hg] at h
   simp only [cond_true] at h
   have hk : (wr σ e).key = e.1 := (gr_ok σ hg).2
   split at h
   ·rename_i hp
    cases h
    simp only [List.map_cons,Instr.findAsking,Sem.run_bind]
    rw [hk, pureRun_run hp w]
    simp [renQ, wr]
   ·rename_i hp
    simp only [List.map_cons,Instr.findAsking,Sem.run_bind]
    rw [hk, pureRun_run hp w]
    simpa using aFind_ok kt k es (i + 1) q h
   ·cases h
theorem aFind_mem (kt : TypeId) (k : Value) : ∀ (es : List (Value × Value × Nat)) (i j : Nat) (v : Value), aFind P kt k es i = some (some (j, v)) → i ≤ j ∧ ∃ e, es[j - i]? = some e ∧ v = e.2.1
 | [], i, j, v, h => by simp [aFind] at h
 | e :: es, i, j, v, h => by
  simp only [aFind] at h
  cases hg : gr e.1
  ·rw [hg] at h; cases h
  ·rw [hg] at h
   simp only [cond_true] at h
   split at h
   ·cases h; exact ⟨Nat.le_refl _, e, by simp, rfl⟩
   ·obtain ⟨h1, e', h2, h3⟩ := aFind_mem kt k es (i + 1) j v h
    refine ⟨by omega, e', ?_, h3⟩
    have : j - i = (j - (i + 1)) + 1 := by omega
    rw [this, List.getElem?_cons_succ]; exact h2
   ·cases h
def aFindKey (T : Tab) (P : Program) (kt : TypeId) (k : Value) (es : List (Value × Value × Nat)) : Option (Option (Nat × Value)) :=
 match T.und kt with
 | some d => match aFindNow d k es 0 with
  | some q => some q
  | none => aFind P kt k es 0
 | none => none
theorem aFindKey_ok (hT : T.Fits P) {kt : TypeId} {k : Value} {es : List (Value × Value × Nat)} {q : Option (Nat × Value)} (h : aFindKey T P kt k es = some q) :
  (Instr.findKey kt k (es.map (wr σ))).run P w = .ok (renQ σ q) w ∧ ∀ i v, q = some (i, v) → ∃ e, es[i]? = some e ∧ v = e.2.1 := by
 unfold aFindKey at h
 split at h
 ·rename_i d hd
  split at h
  ·rename_i q' hq
   cases h
   refine ⟨?_, fun i v e => ?_⟩
   ·have hn : Instr.findNow d k (es.map (wr σ)) 0 = some (renQ σ q) := by rw [findNow_eq, hq]; rfl
    simp only [Instr.findKey,Sem.run_bind,run_und hT hd,Result.andThen_ok,hn,Sem.run_pure]
   ·subst e
    obtain ⟨_, e, h1, h2⟩ := aFindNow_mem d k es 0 i v hq
    exact ⟨e, h1, h2⟩
  ·rename_i hq
   refine ⟨?_, fun i v e => ?_⟩
   ·have hn : Instr.findNow d k (es.map (wr σ)) 0 = none := by rw [findNow_eq, hq]; rfl
    simp only [Instr.findKey,Sem.run_bind,run_und hT hd,Result.andThen_ok,hn]
    exact aFind_ok kt k es 0 q h
   ·subst e
    obtain ⟨_, e, h1, h2⟩ := aFind_mem kt k es 0 i v h
    exact ⟨e, h1, h2⟩
 ·cases h
def aMapOf (H : AHeap) : Value → Option (List (Value × Value × Nat))
 | .map none => some []
 | .map (some k) => match H.get k with
  | .map es _ => some es
  | _ => none
 | _ => none
def aLookup (T : Tab) (P : Program) (t : Operand → Option Value) (H : AHeap) (ty : TypeId) (x ix : Operand) (ok : Bool) : Option (Value × AHeap × Nat) :=
 match T.und ty, t x, t ix with
 | some (.map kt e), some mv, some k => match aMapOf H mv with
  | some es => bif gr k then
    match pureRun P (Instr.checkKey es.isEmpty 10000 kt k), aFindKey T P kt k es with
    | some (), some (some (_, v)) => some (bif ok then .tuple #[v, .bool true] else v, H, H.size)
    | some (), some none => match T.inf e with
     | some inf => match inf.zero with
      | some z => bif gr z then some (bif ok then .tuple #[z, .bool false] else z, H, H.size) else none
      | none => none
     | none => none
    | _, _ => none
   else none
  | none => none
 | _, _, _ => none
theorem run_getMap {k b s : Nat} {es : List (Value × Value × Nat)} {clock : Nat} (r : Rel σ H w) (hp : σ.at_ k = some (b, s)) (hg : H.get k = .map es clock) :
  (getObj b).run P w = .ok (.map (es.map (wr σ)).toArray clock) w := by
 have hh := r.holds k b s hp
 rw [hg] at hh
 have e : es.map (wr σ) = es.map fun e => { key := ren σ e.1, val := ren σ e.2.1, born := e.2.2 } := rfl
 rw [e]
 simp [getObj, Sem.run, hh.2.2]
theorem aMapOf_ok (r : Rel σ H w) {mv : Value} (hv : okv σ mv) {es : List (Value × Value × Nat)} (h : aMapOf H mv = some es) :
  (∀ e ∈ es, okv σ e.1 ∧ okv σ e.2.1) ∧ ((ren σ mv = .map none ∧ es = []) ∨ ∃ b clock, ren σ mv = .map (some b) ∧ (getObj b).run P w = .ok (.map (es.map (wr σ)).toArray clock) w) := by
 unfold aMapOf at h
 split at h
 ·cases h
  exact ⟨by simp, .inl ⟨by simp [ren], rfl⟩⟩
 ·rename_i k
  split at h
  ·rename_i es' clock hg
   cases h
   rw [okv] at hv
   obtain ⟨p, hp⟩ := Option.isSome_iff_exists.1 hv
   obtain ⟨b, s⟩ := p
   have hh := r.holds k b s hp
   rw [hg] at hh
   have hbl : σ.blk k = b := by simp [Place.blk, hp]
   exact ⟨hh.2.1, .inr ⟨b, clock, by simp [ren, hbl], run_getMap r hp hg⟩⟩
  ·cases h
 ·cases h
def qv (σ : Place) (q : Option (Nat × Value)) (z : Value) : Value := match q with
 | some p => ren σ p.2
 | none => z
theorem aLookup_ok (hT : T.Fits P) {o : Oper} {ty : TypeId} {x ix : Operand} {ok : Bool} (ho : o.op = .lookup ty x ix ok) (r : Rel σ H w) (hρ : Evals σ t ρ) {v : Value} {H' : AHeap} {m : Nat}
  (h : aLookup T P t H ty x ix ok = some (v, H', m)) : Runs P (execOp ρ o) σ H w v H' m := by
 unfold aLookup at h
 split at h
 ·rename_i kt e mv k hty hx hix
  split at h
  ·rename_i es hes
   cases hg : gr k
   ·rw [hg] at h; cases h
   ·rw [hg] at h
    simp only [cond_true] at h
    obtain ⟨x1, x2⟩ := hρ _ _ hx
    obtain ⟨k1, _⟩ := hρ _ _ hix
    rw [(gr_ok σ hg).2] at k1
    obtain ⟨m1, m2⟩ := aMapOf_ok (P := P) r x2 hes
    have hemp : (es.map (wr σ)).toArray.isEmpty = es.isEmpty := by simp [Array.isEmpty, List.isEmpty_iff]; cases es <;> simp
    have main : ∀ (q : Option (Nat × Value)) (z : Value), pureRun P (Instr.checkKey es.isEmpty 10000 kt k) = some () → aFindKey T P kt k es = some q → (q = none → (zeroValue e).run P w = .ok z w) →
      (execOp ρ o).run P w = .ok (.value (if ok then .tuple #[qv σ q z, .bool q.isSome] else qv σ q z)) w := by
     intro q z hck hfk hz
     obtain ⟨f1, _⟩ := aFindKey_ok (σ := σ) (w := w) hT hfk
     have hlook : (Instr.lookup ty (ren σ mv) k ok).run P w = .ok (if ok then .tuple #[qv σ q z, .bool q.isSome] else qv σ q z) w := by
      unfold Instr.lookup
      rw [Sem.run_bind, run_und hT hty, Result.andThen_ok]
      rcases m2 with ⟨e1, rfl⟩ | ⟨b, clock, e1, e2⟩
      ·rw [e1]
       simp only [Sem.run_bind,Sem.run_pure,Result.andThen_ok]
       have c1 := pureRun_run hck w
       simp only [List.isEmpty_nil] at c1
       simp only [List.map_nil] at f1
       have c2 : (#[] : Array MapEntry).isEmpty = true := rfl
       simp only [c2,c1,Result.andThen_ok,f1]
       cases q with
       | none => simp [renQ, Sem.run_bind, hz rfl, qv]
       | some p => simp [renQ, qv]
      ·rw [e1]
       simp only [Sem.run_bind,e2,Sem.run_pure,Result.andThen_ok,hemp,pureRun_run hck,f1]
       cases q with
       | none => simp [renQ, Sem.run_bind, hz rfl, qv]
       | some p => simp [renQ, qv]
     simp only [execOp,ho,x1,k1,Sem.run_bind,hlook,Result.andThen_ok,Sem.run_pure]
    split at h
    ·rename_i i u hck hfk
     cases h
     have := main (some (i, u)) undef hck hfk (fun e => by cases e)
     obtain ⟨_, f2⟩ := aFindKey_ok (σ := σ) (w := w) hT hfk
     obtain ⟨en, e1, e2⟩ := f2 i u rfl
     have hu : okv σ u := e2 ▸ (m1 en (List.mem_of_getElem? e1)).2
     cases ok
     ·exact Runs.same r (by rw [this]; simp [qv]) hu
     ·refine Runs.same r ?_ (by simp only [cond_true]; rw [okv]; intro v hv; simp at hv; rcases hv with rfl | rfl; exact hu; simp [okv])
      rw [this]; simp [ren, qv]
    ·rename_i hck hfk
     split at h
     ·rename_i inf hi
      split at h
      ·rename_i z hz
       cases hgz : gr z
       ·rw [hgz] at h; cases h
       ·rw [hgz] at h
        cases h
        obtain ⟨z1, z2⟩ := gr_ok σ hgz
        have := main none z hck hfk (fun _ => run_zero hT hi hz w)
        cases ok
        ·refine Runs.same r ?_ z1
         rw [this]; simp [z2, qv]
        ·refine Runs.same r ?_ (by simp only [cond_true]; rw [okv]; intro v hv; simp at hv; rcases hv with rfl | rfl; exact z1; simp [okv])
         rw [this]; simp [ren, z2, qv]
      ·cases h
     ·cases h
    ·cases h
  ·cases h
 ·cases h
def aUpdate (T : Tab) (P : Program) (t : Operand → Option Value) (H : AHeap) (ty : TypeId) (x ix y : Operand) : Option (Value × AHeap × Nat) :=
 match T.und ty, t x, t ix, t y with
 | some (.map kt _), some (.map (some b)), some k, some v => match H.get b with
  | .map es clock => bif gr k then
    match pureRun P (Instr.checkKey false 10000 kt k), aFindKey T P kt k es with
    | some (), some (some (i, _)) => match es[i]? with
     | some en => bif gr en.1 && Instr.sameBits 10000 en.1 k then some (undef, H.put b (.map (es.set i (k, v, en.2.2)) clock), b) else none
     | none => none
    | some (), some none => some (undef, H.put b (.map (es ++ [(k, v, clock)]) (clock + 1)), b)
    | _, _ => none
   else none
  | _ => none
 | _, _, _, _ => none
theorem aUpdate_ok (hT : T.Fits P) {o : Oper} {ty : TypeId} {x ix y : Operand} (ho : o.op = .mapUpdate ty x ix y ∨ o.op = .insert ty x ix y) (r : Rel σ H w) (hρ : Evals σ t ρ) {v : Value} {H' : AHeap} {m : Nat}
  (h : aUpdate T P t H ty x ix y = some (v, H', m)) : Runs P (execOp ρ o) σ H w v H' m := by
 have hexec : execOp ρ o = (do Instr.mapUpdate ty (ρ x) (ρ ix) (ρ y); pure .skip) := by
  rcases ho with ho | ho <;> simp [execOp, ho]
 unfold aUpdate at h
 split at h
 ·rename_i kt et b k u hty hx hix hy
  split at h
  ·rename_i es clock hgb
   cases hg : gr k
   ·rw [hg] at h; cases h
   ·rw [hg] at h
    simp only [cond_true] at h
    obtain ⟨x1, x2⟩ := hρ _ _ hx
    obtain ⟨k1, k2⟩ := hρ _ _ hix
    obtain ⟨y1, y2⟩ := hρ _ _ hy
    rw [(gr_ok σ hg).2] at k1
    rw [okv] at x2
    obtain ⟨p, hp⟩ := Option.isSome_iff_exists.1 x2
    obtain ⟨bl, s⟩ := p
    have hh := r.holds b bl s hp
    rw [hgb] at hh
    have hbl : σ.blk b = bl := by simp [Place.blk, hp]
    simp only [ren,Option.map_some,hbl] at x1
    have hget : (getObj bl).run P w = .ok (.map (es.map (wr σ)).toArray clock) w := run_getMap r hp hgb
    have hset : ∀ o', (setObj bl o').run P w = .ok () (w.putObj bl o') := fun o' => by simp [setObj, Sem.run, hh.2.2, World.putObj]
    have hlt := (r.lt b bl s hp).2
    have fin : ∀ (es' : List (Value × Value × Nat)) (c' : Nat), (∀ e ∈ es', okv σ e.1 ∧ okv σ e.2.1) → (Instr.mapUpdate ty (ρ x) (ρ ix) (ρ y)).run P w = (setObj bl (.map (es'.map (wr σ)).toArray c')).run P w →
      Runs P (execOp ρ o) σ H w undef (H.put b (.map es' c')) b := by
     intro es' c' hes hrun
     obtain ⟨r1, r2⟩ := r.put (m := b) hp (by rw [hgb]; rfl) (.map (es'.map (wr σ)).toArray c') (.map es' c') ⟨hh.1, hes, World.putObj_heap_same hlt⟩ (Nat.le_refl _)
     refine ⟨σ, _, .skip, ?_, .inr ⟨rfl, rfl⟩, okv_undef σ, r1, r2⟩
     rw [hexec, Sem.run_bind, hrun, hset]; rfl
    have hup : ∀ q, aFindKey T P kt k es = some q → pureRun P (Instr.checkKey false 10000 kt k) = some () →
      (Instr.mapUpdate ty (ρ x) (ρ ix) (ρ y)).run P w = (match renQ σ q with
       | some (i, _) => (do
        let key ← Instr.keyThatStays ((((es.map (wr σ)).toArray[i]?).map (fun e : MapEntry => e.key)).getD k) k
        setObj bl (.map ((es.map (wr σ)).toArray.modify i fun e => { e with key, val := ren σ u }) clock) : Sem Unit)
       | none => setObj bl (.map ((es.map (wr σ)).toArray.push { key := k, val := ren σ u, born := clock }) (clock + 1))).run P w := by
     intro q hfk hck
     obtain ⟨f1, _⟩ := aFindKey_ok (σ := σ) (w := w) hT hfk
     unfold Instr.mapUpdate
     rw [Sem.run_bind, run_und hT hty, Result.andThen_ok]
     simp only [x1,k1,y1]
     rw [Sem.run_bind, hget, Result.andThen_ok]
     simp only
     rw [Sem.run_bind, pureRun_run hck, Result.andThen_ok, Sem.run_bind, f1, Result.andThen_ok]
     cases q <;> rfl
    split at h
    ·rename_i i u' hck hfk
     split at h
     ·rename_i en hen
      cases hb : (gr en.1 && Instr.sameBits 10000 en.1 k)
      ·rw [hb] at h; cases h
      ·rw [hb] at h
       cases h
       simp only [Bool.and_eq_true] at hb
       refine fin _ _ ?_ ?_
       ·intro e he
        rcases List.mem_or_eq_of_mem_set he with he | rfl
        ·exact hh.2.1 e he
        ·exact ⟨k2, y2⟩
       ·rw [hup _ hfk hck]
        have e1 : (((es.map (wr σ)).toArray[i]?).map (fun e : MapEntry => e.key)).getD k = en.1 := by
         simp [hen, wr, (gr_ok σ hb.1).2]
        simp only [renQ,Option.map_some,e1,Instr.keyThatStays,hb.2,if_true,Sem.run_bind,Sem.run_pure,Result.andThen_ok]
        congr 3
        apply Array.ext'
        apply List.ext_getElem?
        intro j
        simp only [Array.getElem?_toList,Array.getElem?_modify,List.getElem?_toArray,List.getElem?_map,List.getElem?_set]
        by_cases e : i = j
        ·subst e
         have hil := (List.getElem?_eq_some_iff.1 hen).1
         have h9 : es[i] = en := (List.getElem?_eq_some_iff.1 hen).2
         simp [hen, hil, wr, (gr_ok σ hg).2, h9]
        ·simp [e]
     ·cases h
    ·rename_i hck hfk
     cases h
     refine fin _ _ ?_ ?_
     ·intro e he
      rcases List.mem_append.1 he with he | he
      ·exact hh.2.1 e he
      ·rw [List.mem_singleton.1 he]; exact ⟨k2, y2⟩
     ·rw [hup _ hfk hck]
      simp only [renQ,Option.map_none]
      congr 3
      simp [wr, (gr_ok σ hg).2]
    ·cases h
  ·cases h
 ·cases h
end Go.Am
