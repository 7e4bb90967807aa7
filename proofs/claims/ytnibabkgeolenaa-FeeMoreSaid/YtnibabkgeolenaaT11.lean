/- The machine on values that are not known: what code comes to, as a proposition that simp works out from the outside in. -/
import Derived.Test.YtnibabkgeolenaaT10
set_option linter.unusedSimpArgs false
set_option linter.unusedVariables false
namespace Go.Am
variable {α : Type} {T : Tab} {P : Program} {N n L : Nat} {r : Option Nat} {e : VT} {H : AHeap} {ds : List Nat}

/-! ### Wrappers: simp looks at what is worked out first, and leaves alone what a Tag names -/
universe u
/-- Keeps simp from taking an equation for one that holds by unfolding: what is worked out is told step by step. -/
theorem nr {α : Sort u} {a b : α} (h : a = b) : a = b := h
inductive Tag {β : Sort u} (b : β) : Type where
  | mk
def optK (o : Option α) (Q : α → Prop) (_ : Tag Q := .mk) : Prop := match o with
  | some a => Q a
  | none => False
theorem optK_some (a : α) (Q : α → Prop) : optK (some a) Q = Q a := nr rfl
def letK (v : α) (Q : α → Prop) (_ : Tag Q := .mk) : Prop := Q v
theorem letK_eq (v : α) (Q : α → Prop) : letK v Q = Q v := nr rfl
def andK (a : Prop) (Q : Prop) (_ : Tag Q := .mk) : Prop := a ∧ Q
theorem andK_of {a : Prop} (Q : Prop) (h : a) : andK a Q = Q := by simp [andK, h]
def Split (b : Bool) (A B : Prop) (_ : Tag (A, B) := .mk) : Prop := (b = true → A) ∧ (b = false → B)
theorem Split_true (A B : Prop) : Split true A B = A := by simp [Split]
theorem Split_false (A B : Prop) : Split false A B = B := by simp [Split]
theorem Split_not (b : Bool) (A B : Prop) : Split (!b) A B = Split b B A := by cases b <;> simp [Split]
def seqK (x : Exit) (A B : Prop) (_ : Tag (A, B) := .mk) : Prop := match x with
  | .normal => A
  | _ => B
theorem seqK_normal (A B : Prop) : seqK .normal A B = A := nr rfl
theorem seqK_exit (i : Nat) (A B : Prop) : seqK (.exit i) A B = B := nr rfl
theorem seqK_ret (A B : Prop) : seqK .ret A B = B := nr rfl
def boolK (v : Value) (A B : Prop) (_ : Tag (A, B) := .mk) : Prop := match v with
  | .bool b => Split b A B
  | _ => False
theorem boolK_bool (b : Bool) (A B : Prop) : boolK (.bool b) A B = Split b A B := nr rfl
def bolK (v : Value) (Q : Bool → Prop) (_ : Tag Q := .mk) : Prop := match v with
  | .bool b => Q b
  | _ => False
theorem bolK_bool (b : Bool) (Q : Bool → Prop) : bolK (.bool b) Q = Q b := nr rfl
def guardK (v : Value) (w : Bool) (A B : Prop) (_ : Tag (A, B) := .mk) : Prop := match v with
  | .bool b => Split (b == w) A B
  | _ => B
theorem guardK_true (b : Bool) (A B : Prop) : guardK (.bool b) true A B = Split b A B := by cases b <;> rfl
theorem guardK_false (b : Bool) (A B : Prop) : guardK (.bool b) false A B = Split b B A := by cases b <;> simp [guardK, Split]
theorem guardK_undef (w : Bool) (A B : Prop) : guardK undef w A B = B := nr rfl
def ptrK (v : Value) (Q : Nat → Nat → Prop) (_ : Tag Q := .mk) : Prop := match v with
  | .pointer (some a) => Q a.block a.off
  | _ => False
theorem ptrK_some (b o : Nat) (s : Option Nat) (Q : Nat → Nat → Prop) : ptrK (.pointer (some ⟨b, o, s⟩)) Q = Q b o := nr rfl
def intK (v : Value) (Q : Int → Prop) (_ : Tag Q := .mk) : Prop := match v with
  | .int .i64 n => Q n
  | _ => False
theorem intK_int (n : Int) (Q : Int → Prop) : intK (.int .i64 n) Q = Q n := nr rfl
def tupK (v : Value) (Q : List Value → Prop) (_ : Tag Q := .mk) : Prop := match v with
  | .tuple c => Q c.toList
  | _ => False
theorem tupK_tuple (c : List Value) (Q : List Value → Prop) : tupK (.tuple ⟨c⟩) Q = Q c := nr rfl
/-! ### Temporaries -/
def gt (n : Nat) (e : VT) (i : Nat) : Value := bif Nat.blt i n then e.get i else undef
theorem aenv_tmp (n : Nat) (e : VT) (i : Nat) : aenv n e (.tmp i) = some (gt n e i) := nr rfl
theorem aenv_func (n : Nat) (e : VT) (f : FuncId) : aenv n e (.func f) = some (.func (.func f) ⟨[]⟩ ⟨[]⟩) := nr rfl
theorem aenv_int (n : Nat) (e : VT) (k : IntKind) (i : Int) : aenv n e (.const (.int k i)) = some (.int k i) := nr rfl
theorem aenv_bool (n : Nat) (e : VT) (b : Bool) : aenv n e (.const (.bool b)) = some (.bool b) := nr rfl
theorem aenv_nilFunc (n : Nat) (e : VT) : aenv n e (.const .nilFunc) = some .nilFunc := nr rfl
theorem aenv_nilSlice (n : Nat) (e : VT) : aenv n e (.const (.slice none 0 0)) = some (.slice none 0 0) := nr rfl
theorem gt_same (n : Nat) (e : VT) (i : Nat) (v : Value) (h : i < n) : gt n (e.put (some i) v) i = v := by
  unfold gt VT.put
  rw [blt_true h, cond_true, VT.get_set_same _ _ _ _ (Nat.lt_succ_self _)]
theorem gt_ne (n : Nat) (e : VT) (i j : Nat) (v : Value) (h : j ≠ i) : gt n (e.put (some i) v) j = gt n e j := by
  unfold gt VT.put
  rw [VT.get_set_other _ _ _ _ _ h]
theorem put_none (e : VT) (v : Value) : e.put none v = e := nr rfl

/-! ### Code -/
def W (T : Tab) (P : Program) (N : Nat) (r : Option Nat) (c : Code) (L : Nat) (s : ES) (Q : Exit → ES → Prop) (_ : Tag (c, Q) := .mk) : Prop := match aexec T P N r c s with
  | some (x, s', m) => L ≤ m ∧ Q x s'
  | none => False
theorem W_mono {c : Code} {s : ES} {Q Q' : Exit → ES → Prop} (h : W T P N r c L s Q) (hq : ∀ x s, Q x s → Q' x s) : W T P N r c L s Q' := by
  unfold W at *
  cases ha : aexec T P N r c s with
  | none => rw [ha] at h; exact h
  | some p =>
    obtain ⟨x, s', m⟩ := p
    rw [ha] at h
    exact ⟨h.1, hq _ _ h.2⟩
theorem W_skip {s : ES} {Q : Exit → ES → Prop} : W T P (N + 1) r .skip L s Q = andK (L ≤ s.H.size) (Q .normal s) := nr rfl
theorem W_label {s : ES} {l : Nat} {Q : Exit → ES → Prop} : W T P (N + 1) r (.label l) L s Q = andK (L ≤ s.H.size) (Q .normal s) := nr rfl
theorem W_exit {s : ES} {l : Nat} {Q : Exit → ES → Prop} : W T P (N + 1) r (.exit l) L s Q = andK (L ≤ s.H.size) (Q (.exit l) s) := nr rfl
theorem W_ret {s : ES} {Q : Exit → ES → Prop} : W T P (N + 1) r .ret L s Q = andK (L ≤ s.H.size) (Q .ret s) := nr rfl
theorem W_seq {x y : Code} {s : ES} {Q : Exit → ES → Prop} : W T P (N + 1) r (.seq x y) L s Q = W T P N r x L s fun x' s' => seqK x' (W T P N r y L s' Q) (Q x' s') := by
  unfold W
  have h : aexec T P (N + 1) r (.seq x y) s = aseq (aexec T P N r x s) (aexec T P N r y) := rfl
  rw [h]
  cases aexec T P N r x s with
  | none => rfl
  | some p =>
    obtain ⟨x', s', m⟩ := p
    simp only [aseq]
    cases hn : isNormal x'
    · have : ∀ A B : Prop, seqK x' A B = B := fun A B => by cases x' <;> first | rfl | cases hn
      simp only [cond_false,this]
    · have := isNormal_true hn
      subst this
      simp only [cond_true,seqK]
      cases aexec T P N r y s' with
      | none => simp
      | some p =>
        obtain ⟨x₂, s₂, m₂⟩ := p
        simp only [fNat_eq]
        exact propext ⟨fun h => ⟨by omega, by omega, h.2⟩, fun h => ⟨by omega, h.2.2⟩⟩
theorem W_loop {b : Code} {s : ES} {Q : Exit → ES → Prop} : W T P (N + 1) r (.loop b) L s Q = W T P N r b L s fun x' s' => seqK x' (W T P N r (.loop b) L s' Q) (Q x' s') := by
  unfold W
  have h : aexec T P (N + 1) r (.loop b) s = aseq (aexec T P N r b s) (aexec T P N r (.loop b)) := rfl
  rw [h]
  cases aexec T P N r b s with
  | none => rfl
  | some p =>
    obtain ⟨x', s', m⟩ := p
    simp only [aseq]
    cases hn : isNormal x'
    · have : ∀ A B : Prop, seqK x' A B = B := fun A B => by cases x' <;> first | rfl | cases hn
      simp only [cond_false,this]
    · have := isNormal_true hn
      subst this
      simp only [cond_true,seqK]
      cases aexec T P N r (.loop b) s' with
      | none => simp
      | some p =>
        obtain ⟨x₂, s₂, m₂⟩ := p
        simp only [fNat_eq]
        exact propext ⟨fun h => ⟨by omega, by omega, h.2⟩, fun h => ⟨by omega, h.2.2⟩⟩
theorem W_block {id : Nat} {b : Code} {s : ES} {Q : Exit → ES → Prop} : W T P (N + 1) r (.block id b) L s Q = W T P N r b L s fun x' s' => letK (blockExit id x') fun x' => Q x' s' := by
  unfold W
  have h : aexec T P (N + 1) r (.block id b) s = match aexec T P N r b s with
    | some (e, s', m) => some (blockExit id e, s', m)
    | none => none := nr rfl
  rw [h]
  cases aexec T P N r b s with
  | none => rfl
  | some p => obtain ⟨x', s', m⟩ := p; rfl
theorem blockExit_normal (id : Nat) : blockExit id .normal = .normal := nr rfl
theorem blockExit_ret (id : Nat) : blockExit id .ret = .ret := nr rfl
theorem blockExit_same (id : Nat) : blockExit id (.exit id) = .normal := by simp [blockExit]
theorem blockExit_other (id id' : Nat) (h : id' ≠ id) : blockExit id (.exit id') = .exit id' := by simp [blockExit, h]
theorem W_cond {c : Operand} {x y : Code} {Q : Exit → ES → Prop} : W T P (N + 1) r (.cond c x y) L ⟨n, e, H, ds⟩ Q = optK (aenv n e c) fun v => boolK v (W T P N r x L ⟨n, e, H, ds⟩ Q) (W T P N r y L ⟨n, e, H, ds⟩ Q) := by
  unfold W
  have h : aexec T P (N + 1) r (.cond c x y) ⟨n, e, H, ds⟩ = match aenv n e c with
    | some (.bool b) => aexec T P N r (bif b then x else y) ⟨n, e, H, ds⟩
    | _ => none := nr rfl
  rw [h]
  cases aenv n e c with
  | none => rfl
  | some v =>
    cases v with
    | bool b => cases b <;> simp [optK, boolK, Split]
    | _ => rfl

/-! ### Regions -/
def O (T : Tab) (P : Program) (ex : Exec) (l₀ : List Oper) (n : Nat) (ds : List Nat) (l : List Oper) (L : Nat) (e : VT) (H : AHeap) (Q : VT → AHeap → Prop) (_ : Tag ((l₀, l), Q) := .mk) : Prop := match aops T P ex l₀.toArray n ds l e H with
  | some (e', H', m) => L ≤ m ∧ Q e' H'
  | none => False
def A (T : Tab) (P : Program) (ex : Exec) (t : Operand → Option Value) (H : AHeap) (L : Nat) (o : Op) (Q : Bool → Value → AHeap → Prop) (_ : Tag (o, Q) := .mk) : Prop := match aopAny T P ex t H o with
  | some (b, v, H', m) => L ≤ m ∧ Q b v H'
  | none => False
theorem W_region {id : Nat} {ops : List Oper} {Q : Exit → ES → Prop} : W T P (N + 1) r (.region id ops.toArray false) L ⟨n, e, H, ds⟩ Q = O T P (aexec T P N) ops n ds ops L e H fun e H => Q .normal ⟨n, e, H, ds⟩ := by
  unfold W O
  have h : aexec T P (N + 1) r (.region id ops.toArray false) ⟨n, e, H, ds⟩ = match aops T P (aexec T P N) ops.toArray n ds ops e H with
    | some (e', H', m) => some (.normal, ⟨n, e', H', ds⟩, m)
    | none => none := by
    show (match (bif false then adrawX T P (aexec T P N) ops.toArray n e H else aops T P (aexec T P N) ops.toArray n ds ops.toArray.toList e H) with
      | some (e', H', m) => some (Exit.normal, (⟨n, e', H', ds⟩ : ES), m)
      | none => none) = _
    rfl
  rw [h]
  cases aops T P (aexec T P N) ops.toArray n ds ops e H with
  | none => rfl
  | some p => obtain ⟨e', H', m⟩ := p; rfl
theorem O_nil {ex : Exec} {l₀ : List Oper} {Q : VT → AHeap → Prop} : O T P ex l₀ n ds [] L e H Q = andK (L ≤ H.size) (Q e H) := nr rfl
theorem O_op {ex : Exec} {l₀ l : List Oper} {o : Oper} {Q : VT → AHeap → Prop} (hw : wantE l₀.toArray n e o = true) : O T P ex l₀ n ds (o :: l) L e H Q = A T P ex (aenv n e) H L o.op fun _ v H' => O T P ex l₀ n ds l L (e.put o.dst v) H' Q := by
  unfold O A
  simp only [aops,hw,cond_true]
  cases aopAny T P ex (aenv n e) H o.op with
  | none => rfl
  | some p =>
    obtain ⟨b, v, H₁, m₁⟩ := p
    simp only [fH_eq,fNat_eq,VT.putK_eq]
    cases aops T P ex l₀.toArray n ds l (e.put o.dst v) H₁ with
    | none => simp
    | some p =>
      obtain ⟨e', H', m₂⟩ := p
      exact propext ⟨fun h => ⟨by omega, by omega, h.2⟩, fun h => ⟨by omega, h.2.2⟩⟩
theorem O_cons {ex : Exec} {l₀ l : List Oper} {d : Option Tmp} {op : Op} {ty : TypeId} {p : String} {af : Array Edge} {Q : VT → AHeap → Prop} :
    O T P ex l₀ n ds (⟨d, op, ty, p, af, none⟩ :: l) L e H Q = A T P ex (aenv n e) H L op fun _ v H' => O T P ex l₀ n ds l L (e.put d v) H' Q := O_op rfl
def gdst (l : List Oper) (j : Nat) : Option Nat := (l[j]?).bind (·.dst)
theorem gdst_zero (o : Oper) (l : List Oper) : gdst (o :: l) 0 = o.dst := nr rfl
theorem gdst_succ (o : Oper) (l : List Oper) (j : Nat) : gdst (o :: l) (j + 1) = gdst l j := nr rfl
def gK (o : Option Nat) (F : Nat → Prop) (B : Prop) (_ : Tag (F, B) := .mk) : Prop := match o with
  | some i => F i
  | none => B
theorem gK_some (i : Nat) (F : Nat → Prop) (B : Prop) : gK (some i) F B = F i := nr rfl
theorem O_guard {ex : Exec} {l₀ l : List Oper} {d : Option Tmp} {op : Op} {ty : TypeId} {p : String} {af : Array Edge} {j : Nat} {w : Bool} {Q : VT → AHeap → Prop} :
    O T P ex l₀ n ds (⟨d, op, ty, p, af, some (j, w)⟩ :: l) L e H Q = gK (gdst l₀ j) (fun i => guardK (gt n e i) w (A T P ex (aenv n e) H L op fun _ v H' => O T P ex l₀ n ds l L (e.put d v) H' Q) (O T P ex l₀ n ds l L (e.put d undef) H Q)) (O T P ex l₀ n ds l L (e.put d undef) H Q) := by
  have hy : ayieldE l₀.toArray n e j = match gdst l₀ j with
    | some d => bif Nat.blt d n then (match e.get d with
      | .bool b => some b
      | _ => none) else none
    | none => none := by unfold ayieldE gdst; simp only [List.getElem?_toArray]; rfl
  have hg : wantE l₀.toArray n e ⟨d, op, ty, p, af, some (j, w)⟩ = (ayieldE l₀.toArray n e j == some w) := rfl
  have yes : wantE l₀.toArray n e ⟨d, op, ty, p, af, some (j, w)⟩ = true → O T P ex l₀ n ds (⟨d, op, ty, p, af, some (j, w)⟩ :: l) L e H Q = A T P ex (aenv n e) H L op fun _ v H' => O T P ex l₀ n ds l L (e.put d v) H' Q := fun h => O_op h
  have no : wantE l₀.toArray n e ⟨d, op, ty, p, af, some (j, w)⟩ = false → O T P ex l₀ n ds (⟨d, op, ty, p, af, some (j, w)⟩ :: l) L e H Q = O T P ex l₀ n ds l L (e.put d undef) H Q := fun h => by
    unfold O
    simp only [aops,h,cond_false,VT.putK_eq]
  cases hd : gdst l₀ j with
  | none =>
    rw [hd] at hy
    simp only at hy
    rw [hy] at hg
    rw [no (by rw [hg]; cases w <;> rfl)]; rfl
  | some i =>
    rw [hd] at hy
    simp only at hy
    simp only [gK,gt]
    cases hb : Nat.blt i n
    · rw [hb, cond_false] at hy
      rw [hy] at hg
      rw [no (by rw [hg]; cases w <;> rfl)]; rfl
    · rw [hb, cond_true] at hy
      simp only [cond_true]
      cases hv : e.get i with
      | bool b =>
        rw [hv] at hy
        simp only at hy
        rw [hy] at hg
        cases hbw : b == w
        · rw [no (by rw [hg]; cases b <;> cases w <;> first | rfl | cases hbw)]
          simp [guardK, hbw, Split]
        · rw [yes (by rw [hg]; cases b <;> cases w <;> first | rfl | cases hbw)]
          simp [guardK, hbw, Split]
      | _ =>
        rw [hv] at hy
        simp only at hy
        rw [hy] at hg
        rw [no (by rw [hg]; cases w <;> rfl)]; rfl

/-! ### Operations -/
variable {ex : Exec} {t : Operand → Option Value} {Q : Bool → Value → AHeap → Prop}
theorem A_move {x : Operand} : A T P ex t H L (.move x) Q = optK (t x) fun v => andK (L ≤ H.size) (Q true v H) := by
  show (match still (aMove t H x) with
    | some (b, v, H', m) => L ≤ m ∧ Q b v H'
    | none => False) = _
  unfold aMove
  cases t x <;> rfl
theorem A_assign {x : Operand} : A T P ex t H L (.assign x) Q = optK (t x) fun v => andK (L ≤ H.size) (Q true v H) :=
  A_move (T := T) (P := P) (ex := ex)
theorem A_pick {c a b : Operand} : A T P ex t H L (.pick c a b) Q = optK (t c) fun q => bolK q fun q => optK (t a) fun x => optK (t b) fun y => letK (bif q then x else y) fun v => andK (L ≤ H.size) (Q true v H) := by
  show (match still (aPick t H c a b) with
    | some (b, v, H', m) => L ≤ m ∧ Q b v H'
    | none => False) = _
  unfold aPick
  cases t c with
  | none => rfl
  | some q =>
    cases q with
    | bool q =>
      cases t a with
      | none => rfl
      | some x => cases t b <;> rfl
    | _ => rfl
theorem A_box {ty : TypeId} {x : Operand} : A T P ex t H L (.box ty x) Q = optK (t x) fun v => letK v.cells.toList fun c => andK (L ≤ H.size) (Q false (.pointer (some ⟨H.size, 0, none⟩)) (H.alloc (.rw c ty false []))) := by
  show (match fresh H (newBox t ty x) with
    | some (b, v, H', m) => L ≤ m ∧ Q b v H'
    | none => False) = _
  unfold newBox
  cases t x <;> rfl
theorem A_alloc {ty : TypeId} : A T P ex t H L (.alloc ty) Q = optK (alS T ty) fun c => andK (L ≤ H.size) (Q false (.pointer (some ⟨H.size, 0, none⟩)) (H.alloc (.rw c ty false []))) := by
  show (match fresh H (newAlloc T ty) with
    | some (b, v, H', m) => L ≤ m ∧ Q b v H'
    | none => False) = _
  unfold newAlloc alS
  cases T.inf ty with
  | none => rfl
  | some i =>
    simp only
    cases i.zero with
    | none => rfl
    | some z =>
      simp only [fVs_eq]
      cases gr z <;> rfl
theorem A_fieldAddr {ty : TypeId} {x : Operand} {f : Nat} : A T P ex t H L (.fieldAddr ty x f) Q = optK (t x) fun v => ptrK v fun b o => optK (faS T ty f) fun d => letK (o + d) fun o => andK (L ≤ H.size) (Q true (.pointer (some ⟨b, o, none⟩)) H) := by
  show (match still (aFieldAddr T t H ty x f) with
    | some (b, v, H', m) => L ≤ m ∧ Q b v H'
    | none => False) = _
  unfold aFieldAddr faS
  cases t x with
  | none => rfl
  | some v =>
    cases v with
    | pointer a =>
      cases a with
      | none => cases T.und ty <;> rfl
      | some a =>
        cases T.und ty with
        | none => rfl
        | some d =>
          cases d with
          | struct fs =>
            simp only [optK,ptrK]
            cases fs[f]? with
            | none => rfl
            | some fd =>
              simp only
              cases T.inf fd.type with
              | none => rfl
              | some i =>
                simp only
                cases Nat.beq i.size 0
                · simp only [cond_false,fNat_eq]; rfl
                · rfl
          | _ => rfl
    | _ => rfl
def part (c : List Value) (o : Nat) (z : Nat) : Option Value := match z with
  | 0 => c[o]?
  | s + 1 => bif Nat.beq ((c.drop o).take s).length s then some (.agg ⟨(c.drop o).take s⟩) else none
theorem aRead_eq {ty : TypeId} {a : Addr} {v : Value} : aRead T H ty a = some v ↔ ∃ c z, cellsOf (H.get a.block) = some c ∧ ldS T ty = some z ∧ part c a.off z = some v := by
  unfold aRead ldS
  cases cellsOf (H.get a.block) with
  | none => simp
  | some c =>
    cases T.und ty with
    | none => simp
    | some d =>
      cases T.inf ty with
      | none => simp
      | some i =>
        simp only [fNat_eq,Option.some.injEq,exists_eq_left',part]
        cases aggOf d
        · simp
        · simp
theorem A_load {ty : TypeId} {x : Operand} : A T P ex t H L (.load ty x) Q = optK (t x) fun v => ptrK v fun b o => optK (cellsOf (H.get b)) fun c => optK (ldS T ty) fun z => optK (part c o z) fun v => andK (L ≤ H.size) (Q true v H) := by
  show (match still (aLoad T t H ty x) with
    | some (b, v, H', m) => L ≤ m ∧ Q b v H'
    | none => False) = _
  unfold aLoad
  cases t x with
  | none => rfl
  | some v =>
    cases v with
    | pointer a =>
      cases a with
      | none => rfl
      | some a =>
        simp only [optK,ptrK]
        cases hr : aRead T H ty a with
        | some u =>
          obtain ⟨c, z, h1, h2, h3⟩ := aRead_eq.1 hr
          simp only [h1,h2,h3]; rfl
        | none =>
          cases h1 : cellsOf (H.get a.block) with
          | none => rfl
          | some c =>
            cases h2 : ldS T ty with
            | none => rfl
            | some z =>
              cases h3 : part c a.off z with
              | none => simp only [h3]; rfl
              | some u => rw [aRead_eq.2 ⟨c, z, h1, h2, h3⟩] at hr; cases hr
    | _ => rfl
def wrK (H : AHeap) (b o : Nat) (vs : List Value) (Q : Nat → AHeap → Prop) (_ : Tag Q := .mk) : Prop := match aWrite H b o vs with
  | some (H', m) => Q m H'
  | none => False
def wrB (blk : ABlk) (H : AHeap) (b o : Nat) (vs : List Value) (Q : Nat → AHeap → Prop) (_ : Tag Q := .mk) : Prop := match blk with
  | .rw c ty op al => bif Nat.ble (o + vs.length) c.length && oneCells vs then Q (minAl b al) ((H.kill al).put b (.rw (c.take o ++ vs ++ c.drop (o + vs.length)) ty op [])) else False
  | _ => False
theorem wrK_eq {b o : Nat} {vs : List Value} {Q : Nat → AHeap → Prop} : wrK H b o vs Q = wrB (H.get b) H b o vs Q := by
  unfold wrK wrB aWrite
  cases H.get b with
  | rw c ty op al =>
    simp only
    cases Nat.ble (o + vs.length) c.length && oneCells vs <;> rfl
  | _ => rfl
def fitB (o : Nat) (vs c : List Value) : Bool := decide (o + vs.length ≤ c.length) && oneCells vs
def newC (o : Nat) (vs c : List Value) : List Value := c.take o ++ vs ++ c.drop (o + vs.length)
theorem wrB_rw {b o : Nat} {vs c : List Value} {ty : TypeId} {op : Bool} {Q : Nat → AHeap → Prop} : wrB (.rw c ty op []) H b o vs Q = letK (fitB o vs c) fun q => Split q (letK (newC o vs c) fun c => Q b (H.put b (.rw c ty op []))) False := by
  unfold wrB fitB letK
  simp only [ble_iff]
  generalize (decide (o + vs.length ≤ c.length) && oneCells vs) = q
  cases q
  · rw [cond_false, Split_false]
  · rw [cond_true, Split_true]; rfl
def inS (T : Tab) (ty : TypeId) : Option Nat := match T.inf ty with
  | some i => some i.size
  | none => none
theorem A_store {ty : TypeId} {x y : Operand} : A T P ex t H L (.store ty x y) Q = optK (t x) fun p => ptrK p fun b o => optK (t y) fun v => optK (inS T ty) fun z => letK v.cells.toList fun vs => letK (Nat.beq vs.length z) fun q => Split q (wrK H b o vs fun m H' => andK (L ≤ m) (Q false undef H')) False := by
  show (match moves (aStore T t H ty x y) with
    | some (b, v, H', m) => L ≤ m ∧ Q b v H'
    | none => False) = _
  unfold aStore inS
  cases t x with
  | none => rfl
  | some p =>
    cases p with
    | pointer a =>
      cases a with
      | none => cases t y <;> cases T.inf ty <;> rfl
      | some a =>
        cases t y with
        | none => rfl
        | some v =>
          cases T.inf ty with
          | none => rfl
          | some i =>
            simp only [optK,ptrK,letK,Split]
            cases Nat.beq v.cells.toList.length i.size
            · simp [moves]
            · simp only [cond_true,wrK]
              cases aWrite H a.block a.off v.cells.toList with
              | none => simp [moves]
              | some q => simp [moves, andK]
    | _ => rfl
theorem A_extract {x : Operand} {i : Nat} : A T P ex t H L (.extract x i) Q = optK (t x) fun v => tupK v fun c => optK c[i]? fun v => andK (L ≤ H.size) (Q true v H) := by
  show (match still (aExtract t H x i) with
    | some (b, v, H', m) => L ≤ m ∧ Q b v H'
    | none => False) = _
  unfold aExtract
  cases t x with
  | none => rfl
  | some v =>
    cases v with
    | tuple c =>
      simp only [optK,tupK]
      cases c.toList[i]? <;> rfl
    | _ => rfl
def idxK (v : Value) (len : Nat) (Q : Nat → Prop) (_ : Tag Q := .mk) : Prop := match v with
  | .int _ n => (0 ≤ n ∧ n < len) ∧ Q n.toNat
  | _ => False
theorem idxK_int {k : IntKind} {n : Int} {len : Nat} {Q : Nat → Prop} (h : 0 ≤ n ∧ n < len) : idxK (.int k n) len Q = Q n.toNat := by simp [idxK, h]
def slK (v : Value) (Q : Nat → Nat → Nat → Nat → Prop) (_ : Tag Q := .mk) : Prop := match v with
  | .slice (some a) l c => Q a.block a.off l c
  | _ => False
theorem slK_some {b o l c : Nat} {s : Option Nat} {Q : Nat → Nat → Nat → Nat → Prop} : slK (.slice (some ⟨b, o, s⟩) l c) Q = Q b o l c := nr rfl
/-- The size of a slice's elements. -/
def esS (T : Tab) (ty : TypeId) : Option Nat := match T.und ty with
  | some (.slice e) => inS T e
  | _ => none
theorem A_indexSlice {ty : TypeId} {x ix : Operand} {z : Nat} (hz : esS T ty = some z) : A T P ex t H L (.indexAddr ty x ix) Q = optK (t x) fun v => slK v fun b o l _ => optK (t ix) fun i => idxK i l fun i => letK (o + i * z) fun o => andK (L ≤ H.size) (Q true (.pointer (some ⟨b, o, none⟩)) H) := by
  show (match still (aIndexAddr T t H ty x ix) with
    | some (b, v, H', m) => L ≤ m ∧ Q b v H'
    | none => False) = _
  unfold esS inS at hz
  unfold aIndexAddr
  cases hu : T.und ty with
  | none => rw [hu] at hz; cases hz
  | some d =>
    cases d with
    | slice el =>
      rw [hu] at hz
      simp only at hz
      cases hi : T.inf el with
      | none => rw [hi] at hz; cases hz
      | some i =>
        rw [hi] at hz
        cases hz
        cases t x with
        | none => rfl
        | some v =>
          cases v with
          | slice a l c =>
            cases a with
            | none => cases t ix with
              | none => rfl
              | some w => cases w <;> rfl
            | some a =>
              cases t ix with
              | none => rfl
              | some w =>
                cases w with
                | int k m =>
                  simp only [optK,slK,idxK,hi]
                  by_cases h : 0 ≤ m ∧ m < l
                  · simp [h.1, h.2, still, letK, andK]
                  · have : (decide (0 ≤ m) && decide (m < (l : Int))) = false := by simpa using h
                    simp only [this,cond_false,still,h,false_and]
                | _ => rfl
          | pointer a =>
            cases a with
            | none => cases t ix with
              | none => rfl
              | some w => cases w <;> rfl
            | some a => cases t ix with
              | none => rfl
              | some w => cases w <;> rfl
          | _ => cases t ix with
              | none => rfl
              | some w => cases w <;> rfl
    | _ => rw [hu] at hz; cases hz
/-! ### Operations on two values -/
def nilV (T : Tab) (op : BinOp) (ty : TypeId) (a b : Value) : Option Value := match op, a, b, T.und ty with
  | .eql, .slice p _ _, .slice q _ _, some (.slice _) => bif p.isNone || q.isNone then some (.bool (p.isNone && q.isNone)) else none
  | .neq, .slice p _ _, .slice q _ _, some (.slice _) => bif p.isNone || q.isNone then some (.bool !(p.isNone && q.isNone)) else none
  | _, _, _, _ => none
def binV (T : Tab) (P : Program) (op : BinOp) (ty : TypeId) (x y : Operand) (a b : Value) : Option Value :=
  match aEqV P op ty (some a) (some b) with
  | some v => some v
  | none => match (bif gr a && gr b then (match pureRun P (do eqGuard op ty x y a b; binOp op ty a b) with
    | some v => bif gr v then some v else none
    | none => none) else none) with
    | some v => some v
    | none => nilV T op ty a b
theorem A_binOp {op : BinOp} {ty yt : TypeId} {x y : Operand} : A T P ex t H L (.binOp op ty x y yt) Q = optK (t x) fun a => optK (t y) fun b => optK (binV T P op ty x y a b) fun v => andK (L ≤ H.size) (Q true v H) := by
  show (match still (orElse (aBin2 P t H op ty x y) (aNil T t H op ty x y)) with
    | some (b, v, H', m) => L ≤ m ∧ Q b v H'
    | none => False) = _
  have hn : ∀ a b, t x = some a → t y = some b → aNil T t H op ty x y = match nilV T op ty a b with
    | some v => some (v, H, H.size)
    | none => none := by
    intro a b ha hb
    unfold aNil nilV
    rw [ha, hb]
    cases op <;> first | rfl | skip
    all_goals
      cases a <;> first | rfl | skip
      cases b <;> first | rfl | skip
      cases T.und ty with
      | none => rfl
      | some d =>
        cases d <;> first | rfl | skip
        rename_i p _ _ q _ _ _
        cases p <;> cases q <;> rfl
  cases hx : t x with
  | none =>
    have h1 : aBin2 P t H op ty x y = none := by unfold aBin2; rw [hx, aEqV_none_l]; simp only; unfold aBin20 allGr; rw [hx]; rfl
    have h2 : aNil T t H op ty x y = none := by unfold aNil; rw [hx]; cases op <;> rfl
    rw [h1, h2]; rfl
  | some a =>
    cases hy : t y with
    | none =>
      have h1 : aBin2 P t H op ty x y = none := by unfold aBin2; rw [hy, aEqV_none_r]; simp only; unfold aBin20; rw [allGr_two (.inr hy)]; rfl
      have h2 : aNil T t H op ty x y = none := by unfold aNil; rw [hx, hy]; cases op <;> first | rfl | (cases a <;> rfl)
      rw [h1, h2]; rfl
    | some b =>
      rw [hn a b hx hy]
      have hg : allGr t [x, y] = (gr a && gr b) := by simp [allGr, hx, hy]
      have e1 : aρ t x = a := by simp [aρ, hx]
      have e2 : aρ t y = b := by simp [aρ, hy]
      unfold aBin2
      rw [hx, hy]
      simp only [optK,binV]
      cases aEqV P op ty (some a) (some b) with
      | some v => rfl
      | none =>
      simp only
      unfold aBin20 aPureOf
      rw [hg, e1, e2]
      cases gr a && gr b
      · simp only [cond_false,orElse]
        cases nilV T op ty a b <;> rfl
      · simp only [cond_true]
        cases pureRun P (do eqGuard op ty x y a b; binOp op ty a b) with
        | none => simp only [orElse]; cases nilV T op ty a b <;> rfl
        | some v =>
          simp only
          cases gr v
          · simp only [cond_false,orElse]; cases nilV T op ty a b <;> rfl
          · rfl
def w64 (n : Int) : Int := IntKind.wrap .i64 n
theorem w64_of {n : Int} (h : -9223372036854775808 ≤ n ∧ n < 9223372036854775808) : w64 n = n := wrap_fits h.1 h.2
section
variable {ty : TypeId} {x y : Operand} {a b : Int}
theorem binV_add : binV T P .add ty x y (.int .i64 a) (.int .i64 b) = some (.int .i64 (w64 (a + b))) := nr rfl
theorem binV_sub : binV T P .sub ty x y (.int .i64 a) (.int .i64 b) = some (.int .i64 (w64 (a - b))) := nr rfl
theorem binV_mul : binV T P .mul ty x y (.int .i64 a) (.int .i64 b) = some (.int .i64 (w64 (a * b))) := nr rfl
theorem binV_eql : binV T P .eql ty x y (.int .i64 a) (.int .i64 b) = some (.bool (decide (a = b))) := nr rfl
theorem binV_neq : binV T P .neq ty x y (.int .i64 a) (.int .i64 b) = some (.bool (!decide (a = b))) := nr rfl
theorem binV_lss : binV T P .lss ty x y (.int .i64 a) (.int .i64 b) = some (.bool (decide (a < b))) := nr rfl
theorem binV_leq : binV T P .leq ty x y (.int .i64 a) (.int .i64 b) = some (.bool (decide (a ≤ b))) := nr rfl
theorem binV_gtr : binV T P .gtr ty x y (.int .i64 a) (.int .i64 b) = some (.bool (decide (b < a))) := nr rfl
theorem binV_geq : binV T P .geq ty x y (.int .i64 a) (.int .i64 b) = some (.bool (decide (b ≤ a))) := nr rfl
end

/-! ### Calls -/
def resK (q : Res) (L : Nat) (Q : Bool → Value → AHeap → Prop) (_ : Tag Q := .mk) : Prop := match q with
  | some (b, v, H', m) => L ≤ m ∧ Q b v H'
  | none => False
theorem resK_some {b : Bool} {v : Value} {H' : AHeap} {m L : Nat} {Q : Bool → Value → AHeap → Prop} : resK (some (b, v, H', m)) L Q = andK (L ≤ m) (Q b v H') := nr rfl
def calK (v : Value) (F : FuncId → List Value → List Value → Prop) (Y : Nat → List Value → Prop) (_ : Tag (F, Y) := .mk) : Prop := match v with
  | .func (.func f) a b => F f a.toList b.toList
  | .func (.yield l) a _ => Y l a.toList
  | _ => False
theorem calK_func {f : FuncId} {a b : List Value} {F : FuncId → List Value → List Value → Prop} {Y : Nat → List Value → Prop} : calK (.func (.func f) ⟨a⟩ ⟨b⟩) F Y = F f a b := nr rfl
theorem A_call {f : Operand} {args : List Operand} {tys : Array TypeId} : A T P ex t H L (.call ⟨.value f, args.toArray, tys⟩) Q = optK (t f) fun v => calK v
    (fun g a b => optK (avals t args) fun vs => letK (a ++ vs ++ b) fun vs => resK (acall T ex g vs H) L Q)
    (fun l a => optK (avals t args) fun vs => resK (ayield ex l (a ++ vs) H) L Q) := by
  show (match (match acallee t f args.toArray with
      | some (.func g, vs, cap) => acall T ex g (vs ++ cap) H
      | some (.yield l, vs, _) => ayield ex l vs H
      | _ => none) with
    | some (b, v, H', m) => L ≤ m ∧ Q b v H'
    | none => False) = _
  unfold acallee
  cases t f with
  | none => rfl
  | some v =>
    cases v with
    | func fn a b =>
      simp only
      cases avals t args with
      | none => cases fn <;> rfl
      | some vs => cases fn <;> rfl
    | _ => rfl
theorem avals_nil : avals t [] = some [] := nr rfl
def consO (v : Option Value) (l : Option (List Value)) : Option (List Value) := match v, l with
  | some v, some l => some (v :: l)
  | _, _ => none
theorem consO_some (v : Value) (l : List Value) : consO (some v) (some l) = some (v :: l) := nr rfl
theorem avals_cons {x : Operand} {l : List Operand} : avals t (x :: l) = consO (t x) (avals t l) := by
  simp only [avals,consO]
  cases t x <;> cases avals t l <;> rfl

/-! ### Contracts -/
def resV (T : Tab) (n : Nat) (e : VT) (H : AHeap) (rs : List ResultVar) : Option Value := match aresG T (gt n e) H rs with
  | some [v] => some v
  | some vs => some (.tuple vs.toArray)
  | none => none
theorem resV_one {i : Nat} : resV T n e H [.tmp i] = some (gt n e i) := nr rfl
theorem resV_two {i j : Nat} : resV T n e H [.tmp i, .tmp j] = some (.tuple ⟨[gt n e i, gt n e j]⟩) := nr rfl
theorem resV_three {i j k : Nat} : resV T n e H [.tmp i, .tmp j, .tmp k] = some (.tuple ⟨[gt n e i, gt n e j, gt n e k]⟩) := nr rfl
def outK (x : Exit) (A : Prop) : Prop := match x with
  | .normal => A
  | .ret => A
  | _ => False
def retK (T : Tab) (L : Nat) (rs : List ResultVar) (R : Value → AHeap → Prop) (x : Exit) (s : ES) : Prop := outK x (s.ds = [] ∧ L ≤ s.H.size ∧ ∃ v, resV T s.n s.e s.H rs = some v ∧ R v s.H)
theorem retK_ret {rs : List ResultVar} {R : Value → AHeap → Prop} : retK T L rs R .ret ⟨n, e, H, []⟩ = andK (L ≤ H.size) (optK (resV T n e H rs) fun v => R v H) := by
  show (([] : List Nat) = [] ∧ L ≤ H.size ∧ ∃ v, resV T n e H rs = some v ∧ R v H) = _
  cases resV T n e H rs <;> simp [optK, andK]
theorem retK_normal {rs : List ResultVar} {R : Value → AHeap → Prop} : retK T L rs R .normal ⟨n, e, H, []⟩ = andK (L ≤ H.size) (optK (resV T n e H rs) fun v => R v H) := retK_ret (T := T)
theorem call_any {g : FuncId} {args : List Value} {fn : Func} {c : Code} {R : Value → AHeap → Prop} {rs : List ResultVar} (hm : T.memo g args H = none) (hf : T.fn g = some fn) (hb : fn.body = some c) (hr : fn.results.toList = rs) {k : Nat} (hk : args.length + (fn.ntmps - args.length) = k)
    (hw : W T P N none c L ⟨k, env args 0 .nil, H, []⟩ (retK T L rs R)) :
    ∃ v H' m, acall T (aexec T P N) g args H = quietV v H H' m ∧ L ≤ m ∧ R v H' := by
  subst hk
  unfold W at hw
  unfold acall acall0
  rw [hm, hf]
  simp only [hb,envK_eq,fNat_eq]
  cases ha : aexec T P N none c ⟨args.length + (fn.ntmps - args.length), env args 0 .nil, H, []⟩ with
  | none => rw [ha] at hw; exact hw.elim
  | some p =>
    obtain ⟨x, s, m⟩ := p
    rw [ha] at hw
    obtain ⟨h1, h2⟩ := hw
    have key : (s.ds = [] ∧ L ≤ s.H.size ∧ ∃ v, resV T s.n s.e s.H rs = some v ∧ R v s.H) → ∃ v H' m', aleave T fn H s m = quietV v H H' m' ∧ L ≤ m' ∧ R v H' := by
      rintro ⟨k1, k4, v, k2, k3⟩
      have hr' : ares T fn s.n s.e s.H = some v := by rw [← hr] at k2; exact k2
      refine ⟨v, s.H, min m s.H.size, ?_, by omega, k3⟩
      unfold aleave
      rw [k1]
      simp only [atake,hr',fV_eq,fNat_eq,minAl]
    cases x with
    | normal => exact key h2
    | ret => exact key h2
    | _ => exact h2.elim
/-- A call that changes nothing old, and gives a value without addresses. -/
theorem call_quiet {g : FuncId} {args : List Value} {fn : Func} {c : Code} {v : Value} {rs : List ResultVar} (hm : T.memo g args H = none) (hf : T.fn g = some fn) (hb : fn.body = some c) (hr : fn.results.toList = rs) {k : Nat} (hk : args.length + (fn.ntmps - args.length) = k)
    (hw : W T P N none c H.size ⟨k, env args 0 .nil, H, []⟩ (retK T H.size rs fun u _ => u = v)) (hg : gr v = true) :
    acall T (aexec T P N) g args H = some (true, v, H, H.size) := by
  obtain ⟨u, H', m, h1, h2, rfl⟩ := call_any hm hf hb hr hk hw
  rw [h1]
  unfold quietV
  rw [hg, show Nat.ble H.size m = true from Nat.ble_eq_true_of_le h2]; rfl
/-- The same, with what is known of what it comes to. -/
theorem call_some {g : FuncId} {args : List Value} {fn : Func} {c : Code} {R : Value → AHeap → Prop} {rs : List ResultVar} {Q : Bool → Value → AHeap → Prop} (hm : T.memo g args H = none) (hf : T.fn g = some fn) (hb : fn.body = some c) (hr : fn.results.toList = rs) {k : Nat} (hk : args.length + (fn.ntmps - args.length) = k) (hL : L ≤ H.size)
    (hw : W T P N none c H.size ⟨k, env args 0 .nil, H, []⟩ (retK T H.size rs R)) (hq : ∀ v H', R v H' → Q false v H') (hq' : ∀ v H', R v H' → gr v = true → Q true v H) :
    resK (acall T (aexec T P N) g args H) L Q := by
  obtain ⟨v, H', m, h1, h2, h3⟩ := call_any hm hf hb hr hk hw
  rw [h1]
  unfold quietV
  cases hg : gr v
  · rw [Bool.and_false]
    exact ⟨by omega, hq v H' h3⟩
  · rw [show Nat.ble H.size m = true from Nat.ble_eq_true_of_le h2]
    exact ⟨hL, hq' v H' h3 hg⟩
theorem call_fls {g : FuncId} {args : List Value} {fn : Func} {c : Code} {R : Value → AHeap → Prop} {rs : List ResultVar} {Q : Bool → Value → AHeap → Prop} (hm : T.memo g args H = none) (hf : T.fn g = some fn) (hb : fn.body = some c) (hr : fn.results.toList = rs) {k : Nat} (hk : args.length + (fn.ntmps - args.length) = k) (hL : L ≤ H.size)
    (hw : W T P N none c H.size ⟨k, env args 0 .nil, H, []⟩ (retK T H.size rs R)) (hg : ∀ v H', R v H' → gr v = false) (hq : ∀ v H', R v H' → Q false v H') :
    resK (acall T (aexec T P N) g args H) L Q :=
  call_some hm hf hb hr hk hL hw hq fun v H' h hg' => by rw [hg v H' h] at hg'; cases hg'
theorem env_nil {i : Nat} : env [] i e = e := nr rfl
theorem env_cons {i : Nat} {v : Value} {l : List Value} : env (v :: l) i e = env l (i + 1) (e.put (some i) v) := nr rfl
/-! ### Loops -/
def loopK (n : Nat) (ds : List Nat) (I : Nat → VT → AHeap → Prop) (k : Nat) (Q : Exit → ES → Prop) (x : Exit) (s : ES) : Prop := match x with
  | .normal => s.n = n ∧ s.ds = ds ∧ ∃ k', k' < k ∧ I k' s.e s.H
  | x => Q x s
def nextK (I : Nat → VT → AHeap → Prop) (k : Nat) (e : VT) (H : AHeap) (_ : Tag I := .mk) : Prop := ∃ k', k' < k ∧ I k' e H
theorem loopK_normal {I : Nat → VT → AHeap → Prop} {k : Nat} {Q : Exit → ES → Prop} : loopK n ds I k Q .normal ⟨n, e, H, ds⟩ = nextK I k e H := by simp [loopK, nextK]
theorem loopK_ret {I : Nat → VT → AHeap → Prop} {k : Nat} {Q : Exit → ES → Prop} {s : ES} : loopK n ds I k Q .ret s = Q .ret s := nr rfl
theorem loopK_exit {I : Nat → VT → AHeap → Prop} {k i : Nat} {Q : Exit → ES → Prop} {s : ES} : loopK n ds I k Q (.exit i) s = Q (.exit i) s := nr rfl
/-- A loop, with a number that gets less. -/
theorem W_while0 {b : Code} {Q : Exit → ES → Prop} (F : Nat) (I : Nat → VT → AHeap → Prop)
    (hb : ∀ N k e H, I k e H → W T P (N + F) r b L ⟨n, e, H, ds⟩ (loopK n ds I k Q)) : ∀ K k N e H, I k e H → k ≤ K → W T P (N + (F + K) + 1) r (.loop b) L ⟨n, e, H, ds⟩ Q := by
  intro K
  induction K with
  | zero =>
    intro k N e H hi hk
    rw [W_loop]
    refine W_mono (hb N k e H hi) ?_
    intro x s hx
    cases x with
    | normal => obtain ⟨_, _, k', h, _⟩ := hx; omega
    | _ => exact hx
  | succ K ih =>
    intro k N e H hi hk
    rw [W_loop]
    refine W_mono (show W T P (N + (F + (K + 1))) r b L ⟨n, e, H, ds⟩ (loopK n ds I k Q) from by
      have := hb (N + (K + 1)) k e H hi
      rwa [show N + (K + 1) + F = N + (F + (K + 1)) by omega] at this) ?_
    intro x s hx
    cases x with
    | normal =>
      obtain ⟨h1, h2, k', h3, h4⟩ := hx
      obtain ⟨n', e', H', ds'⟩ := s
      simp only at h1 h2 h4
      subst h1 h2
      exact ih k' N e' H' h4 (by omega)
    | _ => exact hx

theorem W_while {b : Code} {Q : Exit → ES → Prop} (F : Nat) (I : Nat → VT → AHeap → Prop)
    (hb : ∀ N k e H, I k e H → W T P (N + F) r b L ⟨n, e, H, ds⟩ (loopK n ds I k Q)) (K k : Nat) {M : Nat} {e : VT} {H : AHeap} (hi : I k e H) (hk : k ≤ K) (hM : F + K + 1 ≤ M) : W T P M r (.loop b) L ⟨n, e, H, ds⟩ Q := by
  have := W_while0 F I hb K k (M - (F + K + 1)) e H hi hk
  rwa [show M - (F + K + 1) + (F + K) + 1 = M by omega] at this

/-! ### Heaps -/
theorem get_alloc_same {H : AHeap} {b : ABlk} : (H.alloc b).get H.size = b := AHeap.get_alloc_same H b
theorem get_alloc_eq {H : AHeap} {b : ABlk} {k : Nat} (h : k = H.size) : (H.alloc b).get k = b := by subst h; exact AHeap.get_alloc_same H b
theorem get_alloc_lt {H : AHeap} {b : ABlk} {k : Nat} (h : k < H.size) : (H.alloc b).get k = H.get k := AHeap.get_alloc_other H b (by omega)
theorem get_put_same {H : AHeap} {b : ABlk} {k : Nat} (h : k < H.size) : (H.put k b).get k = b := AHeap.get_put_same H b h
theorem get_put_ne {H : AHeap} {b : ABlk} {k j : Nat} (h : j ≠ k) : (H.put k b).get j = H.get j := AHeap.get_put_other H b h
theorem get_kill {H : AHeap} {l : List Nat} {j : Nat} (h : j ∉ l) : (H.kill l).get j = H.get j := by rw [AHeap.get_kill, if_neg h]
theorem size_kill {H : AHeap} {l : List Nat} : (H.kill l).size = H.size := AHeap.size_kill l H
theorem le_minAl {b m : Nat} : ∀ {l : List Nat}, m ≤ b → (∀ j ∈ l, m ≤ j) → m ≤ minAl b l
  | [], h, _ => h
  | x :: l, h, k => by
    have h1 := k x (by simp)
    have h2 := le_minAl h (fun j hj => k j (List.mem_cons_of_mem _ hj))
    show m ≤ min x (minAl b l)
    omega
theorem size_alloc {H : AHeap} {b : ABlk} : (H.alloc b).size = H.size + 1 := AHeap.size_alloc H b
theorem size_put {H : AHeap} {b : ABlk} {k : Nat} : (H.put k b).size = H.size := AHeap.size_put H k b
theorem cellsOf_rw {c : List Value} {ty : TypeId} {o : Bool} {al : List Nat} : cellsOf (.rw c ty o al) = some c := nr rfl
theorem cellsOf_ro {c : List Value} : cellsOf (.ro c) = some c := nr rfl
theorem part_zero {c : List Value} {o : Nat} : part c o 0 = c[o]? := nr rfl
theorem part_all {c : List Value} {s : Nat} (h : c.length = s) : part c 0 (s + 1) = some (.agg ⟨c⟩) := by
  unfold part
  simp only [List.drop_zero,← h,List.take_length]
  rw [show Nat.beq c.length c.length = true from by simp]; rfl
theorem part_2 {a0 a1 : Value} : part [a0, a1] 0 3 = some (.agg ⟨[a0, a1]⟩) := nr rfl
theorem part_3 {a0 a1 a2 : Value} : part [a0, a1, a2] 0 4 = some (.agg ⟨[a0, a1, a2]⟩) := nr rfl
theorem part_4 {a0 a1 a2 a3 : Value} : part [a0, a1, a2, a3] 0 5 = some (.agg ⟨[a0, a1, a2, a3]⟩) := nr rfl
theorem part_5 {a0 a1 a2 a3 a4 : Value} : part [a0, a1, a2, a3, a4] 0 6 = some (.agg ⟨[a0, a1, a2, a3, a4]⟩) := nr rfl
theorem part_6 {a0 a1 a2 a3 a4 a5 : Value} : part [a0, a1, a2, a3, a4, a5] 0 7 = some (.agg ⟨[a0, a1, a2, a3, a4, a5]⟩) := nr rfl
theorem part_7 {a0 a1 a2 a3 a4 a5 a6 : Value} : part [a0, a1, a2, a3, a4, a5, a6] 0 8 = some (.agg ⟨[a0, a1, a2, a3, a4, a5, a6]⟩) := nr rfl
theorem part_8 {a0 a1 a2 a3 a4 a5 a6 a7 : Value} : part [a0, a1, a2, a3, a4, a5, a6, a7] 0 9 = some (.agg ⟨[a0, a1, a2, a3, a4, a5, a6, a7]⟩) := nr rfl
theorem part_9 {a0 a1 a2 a3 a4 a5 a6 a7 a8 : Value} : part [a0, a1, a2, a3, a4, a5, a6, a7, a8] 0 10 = some (.agg ⟨[a0, a1, a2, a3, a4, a5, a6, a7, a8]⟩) := nr rfl
theorem cells_agg {c : List Value} : (Value.agg ⟨c⟩).cells.toList = c := nr rfl
theorem cells_int {k : IntKind} {i : Int} : (Value.int k i).cells.toList = [.int k i] := nr rfl
theorem cells_bool {b : Bool} : (Value.bool b).cells.toList = [.bool b] := nr rfl
theorem cells_slice {a : Option Addr} {l c : Nat} : (Value.slice a l c).cells.toList = [.slice a l c] := nr rfl
theorem cells_pointer {a : Option Addr} : (Value.pointer a).cells.toList = [.pointer a] := nr rfl
theorem cells_func {f : Fn} {a b : Array Value} : (Value.func f a b).cells.toList = [.func f a b] := nr rfl
theorem beq_refl {a : Nat} : Nat.beq a a = true := by simp

/-! ### len -/
def lenV (T : Tab) (H : AHeap) (ty : TypeId) (v : Value) : Option Value := match v, T.und ty with
  | .slice _ n _, some (.slice _) => some (.int .i64 n)
  | .chan _, some (.slice _) => some (.int .i64 0)
  | .string s, some .string => some (.int .i64 s.size)
  | .map none, some (.map _ _) => some (.int .i64 0)
  | .map (some k), some (.map _ _) => match H.get k with
    | .map es _ => some (.int .i64 es.length)
    | _ => none
  | _, _ => none
theorem A_len {ty : TypeId} {tys : List TypeId} {x : Operand} : A T P ex t H L (.call ⟨.builtin .len, [x].toArray, (ty :: tys).toArray⟩) Q = optK (t x) fun v => optK (lenV T H ty v) fun v => andK (L ≤ H.size) (Q true v H) := by
  show (match lenRes H (aLen T t H (ty :: tys).toArray [x].toArray) with
    | some (b, v, H', m) => L ≤ m ∧ Q b v H'
    | none => False) = _
  have : aLen T t H (ty :: tys).toArray [x].toArray = (match t x with
      | some v => lenV T H ty v
      | none => none) := by
    unfold aLen lenV
    simp only
    cases t x with
    | none => rfl
    | some v =>
      simp only
      cases hu : T.und ty with
      | none => cases v with
        | map q => cases q <;> rfl
        | _ => rfl
      | some d => cases v with
        | map q => cases q <;> cases d <;> rfl
        | _ => cases d <;> rfl
  rw [this]
  cases t x with
  | none => rfl
  | some v =>
    simp only [optK]
    cases lenV T H ty v <;> rfl
theorem lenV_slice {ty : TypeId} {a : Option Addr} {l c z : Nat} (h : esS T ty = some z) : lenV T H ty (.slice a l c) = some (.int .i64 l) := by
  unfold esS at h
  unfold lenV
  cases hu : T.und ty with
  | none => rw [hu] at h; cases h
  | some d => cases d <;> first | rfl | (rw [hu] at h; cases h)
theorem lenV_chan {ty : TypeId} {r : Option Nat} {z : Nat} (h : esS T ty = some z) : lenV T H ty (.chan r) = some (.int .i64 0) := by
  unfold esS at h
  unfold lenV
  cases hu : T.und ty with
  | none => rw [hu] at h; cases h
  | some d => cases d <;> first | rfl | (rw [hu] at h; cases h)
theorem one_nil : oneCells [] = true := nr rfl
theorem one_int {k : IntKind} {i : Int} {l : List Value} : oneCells (.int k i :: l) = oneCells l := nr rfl
theorem one_bool {b : Bool} {l : List Value} : oneCells (.bool b :: l) = oneCells l := nr rfl
theorem one_slice {a : Option Addr} {x c : Nat} {l : List Value} : oneCells (.slice a x c :: l) = oneCells l := nr rfl
theorem one_pointer {a : Option Addr} {l : List Value} : oneCells (.pointer a :: l) = oneCells l := nr rfl
theorem one_func {f : Fn} {a b : Array Value} {l : List Value} : oneCells (.func f a b :: l) = oneCells l := nr rfl
theorem one_nilFunc {l : List Value} : oneCells (.nilFunc :: l) = oneCells l := nr rfl

/-! ### More operations -/
section
variable {ex : Exec} {t : Operand → Option Value} {Q : Bool → Value → AHeap → Prop}
theorem A_makeFunc {f : FuncId} {a b : List Operand} : A T P ex t H L (.makeFunc (.func f) a.toArray b.toArray) Q = optK (avals t a) fun a => optK (avals t b) fun b => andK (L ≤ H.size) (Q true (.func (.func f) ⟨a⟩ ⟨b⟩) H) := by
  show (match still (aMakeFunc t H (.func f) a.toArray b.toArray) with
    | some (b, v, H', m) => L ≤ m ∧ Q b v H'
    | none => False) = _
  unfold aMakeFunc
  simp only
  cases avals t a <;> cases avals t b <;> rfl
def unV (P : Program) (op : UnOp) (v : Value) : Option Value := bif gr v then (match pureRun P (Op.unary op v) with
  | some v => bif gr v then some v else none
  | none => none) else none
theorem A_unOp {op : UnOp} {ty : TypeId} {x : Operand} : A T P ex t H L (.unOp op ty x) Q = optK (t x) fun v => optK (unV P op v) fun v => andK (L ≤ H.size) (Q true v H) := by
  show (match still (aUn P t H op x) with
    | some (b, v, H', m) => L ≤ m ∧ Q b v H'
    | none => False) = _
  unfold aUn aPureOf aρ
  cases hx : t x with
  | none =>
    rw [show allGr t [x] = false by simp [allGr, hx]]; rfl
  | some v =>
    rw [show allGr t [x] = gr v by simp [allGr, hx]]
    simp only [optK,unV,Option.getD_some]
    cases gr v
    · rfl
    · simp only [cond_true]
      cases pureRun P (Op.unary op v) with
      | none => rfl
      | some u => simp only; cases gr u <;> rfl
theorem unV_not {b : Bool} : unV P .not (.bool b) = some (.bool (!b)) := nr rfl
def fill1 (o : Option (Nat × Nat)) (vs c : List Value) : Option (List Value) := match o with
  | some (off, size) => bif vs.length == size && decide (off + vs.length ≤ c.length) then some (newC off vs c) else none
  | none => none
theorem fill1_some {o z : Nat} {vs c : List Value} : fill1 (some (o, z)) vs c = bif vs.length == z && decide (o + vs.length ≤ c.length) then some (newC o vs c) else none := nr rfl
def andThen (o : Option α) (k : α → Option α) : Option α := match o with
  | some a => k a
  | none => none
theorem andThen_some {a : α} {k : α → Option α} : andThen (some a) k = k a := nr rfl
theorem afill_nil {p : Nat → Option (Nat × Nat)} {c : List Value} : afill p c [] = some c := nr rfl
theorem afill_cons {p : Nat → Option (Nat × Nat)} {c : List Value} {i : Nat} {v : Value} {l : List (Nat × Value)} : afill p c ((i, v) :: l) = andThen (fill1 (p i) v.cells.toList c) fun c => afill p c l := by
  simp only [afill,fill1]
  cases p i with
  | none => rfl
  | some q =>
    obtain ⟨off, size⟩ := q
    simp only [newC]
    have e1 : Nat.beq v.cells.toList.length size = (v.cells.toList.length == size) := by rw [Bool.eq_iff_iff]; simp
    rw [e1, ble_iff]
    cases (v.cells.toList.length == size && decide (off + v.cells.toList.length ≤ c.length)) <;> rfl
theorem aparts_nil : aparts t [] = some [] := nr rfl
def consP (i : Nat) (v : Option Value) (l : Option (List (Nat × Value))) : Option (List (Nat × Value)) := match v, l with
  | some v, some l => some ((i, v) :: l)
  | _, _ => none
theorem consP_some {i : Nat} {v : Value} {l : List (Nat × Value)} : consP i (some v) (some l) = some ((i, v) :: l) := nr rfl
theorem aparts_cons {i : Nat} {x : Operand} {l : List (Nat × Operand)} : aparts t ((i, x) :: l) = consP i (t x) (aparts t l) := by
  simp only [aparts,consP]
  cases t x <;> cases aparts t l <;> rfl
theorem A_build {ty : TypeId} {ps : List (Nat × Operand)} {s : List Value × List (Nat × Nat)} (hs : bdS T ty = some s) : A T P ex t H L (.build ty ps.toArray) Q = optK (aparts t ps) fun l => optK (afill (fun i => s.2[i]?) s.1 l) fun c => andK (L ≤ H.size) (Q true (.agg ⟨c⟩) H) := by
  show (match still (aBuild T t H ty ps.toArray) with
    | some (b, v, H', m) => L ≤ m ∧ Q b v H'
    | none => False) = _
  unfold bdS at hs
  unfold aBuild
  simp only
  cases hi : T.inf ty with
  | none => rw [hi] at hs; cases hs
  | some i =>
    rw [hi] at hs
    simp only at hs
    cases hz : i.zero with
    | none => rw [hz] at hs; cases hs
    | some z =>
      rw [hz] at hs
      simp only at hs
      cases hg : gr z
      · rw [hg] at hs; cases hs
      · rw [hg, cond_true] at hs
        cases hu : T.und ty with
        | none => rw [hu] at hs; cases hs
        | some d =>
          rw [hu] at hs
          cases d with
          | struct fs =>
            simp only at hs
            cases hp : aplaces T fs.toList with
            | none => rw [hp] at hs; cases hs
            | some pl =>
              rw [hp] at hs
              have hs' : s = (z.cells.toList, pl) := by
                simp only [fVs_eq] at hs
                have : fList (fun (p : Nat × Nat) (k : Nat × Nat → Option (List Value × List (Nat × Nat))) => fNat p.1 fun a => fNat p.2 fun b => k (a, b)) pl (fun pl => some (z.cells.toList, pl)) = some (z.cells.toList, pl) := fList_eq (fun x k => by simp) pl _
                rw [this] at hs
                cases hs; rfl
              subst hs'
              cases aparts t ps with
              | none => rfl
              | some l =>
                simp only [optK,hp,hg,cond_true,hz]
                cases afill (fun i => pl[i]?) z.cells.toList l <;> rfl
          | _ => cases hs
/-- A row of so many elements: their size, their type, the cells of none of them set. -/
def brS (T : Tab) (ty : TypeId) (len : Nat) : Option (Nat × TypeId × List Value) := match T.und ty with
  | some (.slice e) => match T.inf e with
    | some i => bif Nat.beq (len * i.size) 0 && Nat.blt len OPEN then some (i.size, e, []) else match i.zero with
      | some z => bif Nat.ble (len * i.size) 16777216 && Nat.blt len OPEN && Nat.blt 0 (len * i.size) && allGrV (madeCells z.cells (len * i.size)).toList then some (i.size, e, (madeCells z.cells (len * i.size)).toList) else none
      | none => none
    | none => none
  | _ => none
theorem A_buildSlice {ty : TypeId} {len : Nat} {ps : List (Nat × Operand)} {s : Nat × TypeId × List Value} (hs : brS T ty len = some s) : A T P ex t H L (.buildSlice ty len ps.toArray) Q = optK (aparts t ps) fun l => optK (afill (fun k => some (k * s.1, s.1)) s.2.2 l) fun c => andK (L ≤ H.size) (Q false (.slice (some ⟨H.size, 0, none⟩) len len) (H.alloc (.rw c s.2.1 false []))) := by
  show (match fresh H (newRow T t ty len ps.toArray) with
    | some (b, v, H', m) => L ≤ m ∧ Q b v H'
    | none => False) = _
  unfold brS at hs
  unfold newRow
  simp only
  cases hu : T.und ty with
  | none => rw [hu] at hs; cases hs
  | some d =>
    rw [hu] at hs
    cases d with
    | slice el =>
      simp only at hs
      cases hi : T.inf el with
      | none => rw [hi] at hs; cases hs
      | some i =>
        rw [hi] at hs
        simp only at hs
        cases aparts t ps with
        | none => rfl
        | some l =>
          simp only [optK,hi]
          cases h0 : (Nat.beq (len * i.size) 0 && Nat.blt len OPEN)
          · rw [h0, cond_false] at hs
            cases hz : i.zero with
            | none => rw [hz] at hs; cases hs
            | some z =>
              rw [hz] at hs
              simp only at hs
              cases h1 : (Nat.ble (len * i.size) 16777216 && Nat.blt len OPEN && Nat.blt 0 (len * i.size) && allGrV (madeCells z.cells (len * i.size)).toList)
              · rw [h1] at hs; cases hs
              · rw [h1, cond_true] at hs
                cases hs
                simp only [cond_false,cond_true,h1]
                cases afill (fun k => some (k * i.size, i.size)) (madeCells z.cells (len * i.size)).toList l <;> rfl
          · rw [h0, cond_true] at hs
            cases hs
            simp only [cond_true]
            cases afill (fun k => some (k * i.size, i.size)) [] l <;> rfl
    | _ => cases hs
def apV (T : Tab) (H : AHeap) (ty : TypeId) (s x : Value) : Option (Value × AHeap × Nat) := aAppend T (fun o => match o with
  | .tmp 0 => some s
  | _ => some x) H #[ty, ty] #[.tmp 0, .tmp 1]
def apK (T : Tab) (H : AHeap) (ty : TypeId) (s x : Value) (L : Nat) (Q : Bool → Value → AHeap → Prop) (_ : Tag Q := .mk) : Prop := match apV T H ty s x with
  | some (v, H', m) => L ≤ m ∧ Q false v H'
  | none => False
theorem A_append {ty : TypeId} {s x : Operand} : A T P ex t H L (.call ⟨.builtin .append, [s, x].toArray, [ty, ty].toArray⟩) Q = optK (t s) fun s => optK (t x) fun x => apK T H ty s x L Q := by
  show (match moves (aAppend T t H [ty, ty].toArray [s, x].toArray) with
    | some (b, v, H', m) => L ≤ m ∧ Q b v H'
    | none => False) = _
  have e : Nat.beq ty ty = true := by simp
  cases hs : t s with
  | none =>
    have : aAppend T t H [ty, ty].toArray [s, x].toArray = none := by
      unfold aAppend
      simp only [e,cond_true,hs]
      cases T.und ty with
      | none => rfl
      | some d => cases d <;> rfl
    rw [this]; rfl
  | some sv =>
    cases hx : t x with
    | none =>
      have : aAppend T t H [ty, ty].toArray [s, x].toArray = none := by
        unfold aAppend
        simp only [e,cond_true,hs,hx]
        cases T.und ty with
        | none => rfl
        | some d => cases d <;> first | rfl | (cases sv <;> rfl)
      rw [this]; rfl
    | some xv =>
      have : aAppend T t H [ty, ty].toArray [s, x].toArray = apV T H ty sv xv := by
        unfold apV aAppend
        simp only [e,cond_true,hs,hx]
      rw [this]
      simp only [optK,apK]
      cases apV T H ty sv xv <;> rfl
/-- What append asks of the element's type. -/
def apS (T : Tab) (ty : TypeId) : Option (TypeId × Nat × Nat) := match T.und ty with
  | some (.slice e) => match T.inf e with
    | some i => match i.zero with
      | some z => bif Nat.blt 0 i.size && Nat.beq z.cells.size i.size then some (e, i.size, i.bytes) else none
      | none => none
    | none => none
  | _ => none
theorem apK_nil {ty el : TypeId} {z by' b o n c : Nat} {s : Option Nat} {news : List Value} {L : Nat} (hs : apS T ty = some (el, z, by')) (hx : srcCells H ⟨b, o, s⟩ (n * z) = some news) (h0 : 0 < n) (hb : n * by' ≤ 140737488355328) (hn : n ≤ 9223372036854775807) (h1 : oneCells news = true) :
    apK T H ty (.slice none 0 0) (.slice (some ⟨b, o, s⟩) n c) L Q = andK (L ≤ H.size) (Q false (.slice (some ⟨H.size, 0, none⟩) n (OPEN + z)) (H.alloc (.rw news el true []))) := by
  unfold apS at hs
  unfold apK apV aAppend
  cases hu : T.und ty with
  | none => rw [hu] at hs; cases hs
  | some d =>
    rw [hu] at hs
    cases d with
    | slice e =>
      simp only at hs
      cases hi : T.inf e with
      | none => rw [hi] at hs; cases hs
      | some i =>
        rw [hi] at hs
        simp only at hs
        cases hz : i.zero with
        | none => rw [hz] at hs; cases hs
        | some zz =>
          rw [hz] at hs
          simp only at hs
          cases hq : (Nat.blt 0 i.size && Nat.beq zz.cells.size i.size)
          · rw [hq] at hs; cases hs
          · rw [hq, cond_true] at hs
            cases hs
            have e1 : Nat.beq n 0 = false := beq_ne (by omega)
            have e2 : Nat.ble (0 + n) 9223372036854775807 = true := Nat.ble_eq_true_of_le (by omega)
            have e3 : Nat.ble ((0 + n) * i.bytes) 140737488355328 = true := Nat.ble_eq_true_of_le (by rw [Nat.zero_add]; exact hb)
            simp only [show Nat.beq ty ty = true by simp,hu,cond_true,hi,e1,cond_false,hx,hz,hq,e2,e3,h1,Bool.and_self,show Nat.beq 0 0 = true from rfl]; rfl
    | _ => cases hs
/-- Behind an empty row without room. -/
theorem apK_empty {ty el : TypeId} {z by' b o n c b₀ o₀ : Nat} {s s₀ : Option Nat} {news c₀ : List Value} {L : Nat} (hs : apS T ty = some (el, z, by')) (hx : srcCells H ⟨b, o, s⟩ (n * z) = some news) (h0 : 0 < n) (hb : n * by' ≤ 140737488355328) (hn : n ≤ 9223372036854775807) (h1 : oneCells news = true) (hc : cellsOf (H.get b₀) = some c₀) :
    apK T H ty (.slice (some ⟨b₀, o₀, s₀⟩) 0 0) (.slice (some ⟨b, o, s⟩) n c) L Q = andK (L ≤ H.size) (Q false (.slice (some ⟨H.size, 0, none⟩) n (OPEN + z)) (H.alloc (.rw news el true []))) := by
  have hq0 : srcCells H ⟨b₀, o₀, s₀⟩ (0 * z) = some [] := by
    unfold srcCells
    rw [hc, Nat.zero_mul]; rfl
  unfold apS at hs
  unfold apK apV aAppend
  cases hu : T.und ty with
  | none => rw [hu] at hs; cases hs
  | some d =>
    rw [hu] at hs
    cases d with
    | slice e =>
      simp only at hs
      cases hi : T.inf e with
      | none => rw [hi] at hs; cases hs
      | some i =>
        rw [hi] at hs
        simp only at hs
        cases hz : i.zero with
        | none => rw [hz] at hs; cases hs
        | some zz =>
          rw [hz] at hs
          simp only at hs
          cases hq : (Nat.blt 0 i.size && Nat.beq zz.cells.size i.size)
          · rw [hq] at hs; cases hs
          · rw [hq, cond_true] at hs
            cases hs
            have e1 : Nat.beq n 0 = false := beq_ne (by omega)
            have e2 : Nat.ble n 9223372036854775807 = true := Nat.ble_eq_true_of_le (by omega)
            have e3 : Nat.ble (n * i.bytes) 140737488355328 = true := Nat.ble_eq_true_of_le hb
            have e4 : Nat.blt 0 OPEN = true := rfl
            have e5 : Nat.ble n 0 = false := by rw [ble_iff]; simp; omega
            simp only [show Nat.beq ty ty = true by simp,hu,cond_true,hi,e1,cond_false,hx,hz,hq,e2,e3,h1,Bool.and_self,e4,e5,hq0,List.nil_append,Nat.zero_add]; rfl
    | _ => cases hs
/-- One more behind a row that append made, which has no room that is known. -/
theorem apK_more {ty el : TypeId} {z by' b o k l n b₀ : Nat} {s s₀ : Option Nat} {news c : List Value} {al : List Nat} {L : Nat} {cap : Nat} (hs : apS T ty = some (el, z, by')) (hx : srcCells H ⟨b, o, s⟩ (n * z) = some news) (h0 : 0 < n) (hb : (l + n) * by' ≤ 140737488355328) (hn : l + n ≤ 9223372036854775807) (h1 : oneCells news = true)
    (hg : H.get b₀ = .rw c el true al) (hc : c.length = l * z) (hk : k = OPEN + z) :
    apK T H ty (.slice (some ⟨b₀, 0, s₀⟩) l k) (.slice (some ⟨b, o, s⟩) n cap) L Q = andK (L ≤ minAl b₀ al) (Q false (.slice (some ⟨H.size, 0, none⟩) (l + n) (OPEN + z)) (((H.kill al).put b₀ (.ro c)).alloc (.rw (c ++ news) el true [b₀]))) := by
  subst hk
  unfold apS at hs
  unfold apK apV aAppend
  cases hu : T.und ty with
  | none => rw [hu] at hs; cases hs
  | some d =>
    rw [hu] at hs
    cases d with
    | slice e =>
      simp only at hs
      cases hi : T.inf e with
      | none => rw [hi] at hs; cases hs
      | some i =>
        rw [hi] at hs
        simp only at hs
        cases hz : i.zero with
        | none => rw [hz] at hs; cases hs
        | some zz =>
          rw [hz] at hs
          simp only at hs
          cases hq : (Nat.blt 0 i.size && Nat.beq zz.cells.size i.size)
          · rw [hq] at hs; cases hs
          · have hpos : 0 < i.size := by simp only [Bool.and_eq_true] at hq; exact lt_of_blt hq.1
            rw [hq, cond_true] at hs
            cases hs
            have e1 : Nat.beq n 0 = false := beq_ne (by omega)
            have e2 : Nat.ble (l + n) 9223372036854775807 = true := Nat.ble_eq_true_of_le hn
            have e3 : Nat.ble ((l + n) * i.bytes) 140737488355328 = true := Nat.ble_eq_true_of_le hb
            have e4 : Nat.blt (OPEN + i.size) OPEN = false := blt_false (by omega)
            have e5 : Nat.ble (l + n) (known H ⟨b₀, 0, s₀⟩ l i.size (OPEN + i.size)) = false := by
              unfold known
              simp only [show Nat.beq (OPEN + i.size) (OPEN + i.size) = true by simp,cond_true,hg,hc,Nat.sub_zero,Nat.mul_div_cancel _ hpos,blt_false (Nat.lt_irrefl l),cond_false]
              rw [ble_iff]; simp; omega
            simp only [show Nat.beq ty ty = true by simp,hu,cond_true,hi,e1,cond_false,hx,hz,hq,e2,e3,h1,Bool.and_self,e4,e5,hg,hc,show ∀ x,Nat.beq x x = true from fun x => by simp,show Nat.beq 0 0 = true from rfl]; rfl
    | _ => cases hs
end
/-! ### Results in memory -/
def cellO (T : Tab) (H : AHeap) (ty : TypeId) (v : Value) : Option Value := match v with
  | .pointer (some ad) => aRead T H ty ad
  | _ => none
theorem resV_cell {i : Nat} {ty : TypeId} : resV T n e H [.cell i ty] = cellO T H ty (gt n e i) := by
  unfold resV aresG cellO aresG
  cases gt n e i <;> first | rfl | skip
  rename_i a
  cases a with
  | none => rfl
  | some ad => simp only; cases aRead T H ty ad <;> rfl
def readO (c : Option (List Value)) (o : Nat) (z : Option Nat) : Option Value := match c, z with
  | some c, some z => part c o z
  | _, _ => none
theorem readO_some {c : List Value} {o z : Nat} : readO (some c) o (some z) = part c o z := nr rfl
theorem cellO_ptr {b o : Nat} {s : Option Nat} {ty : TypeId} : cellO T H ty (.pointer (some ⟨b, o, s⟩)) = readO (cellsOf (H.get b)) o (ldS T ty) := by
  unfold cellO readO
  simp only
  cases hr : aRead T H ty ⟨b, o, s⟩ with
  | some u =>
    obtain ⟨c, z, h1, h2, h3⟩ := aRead_eq.1 hr
    simp only at h1 h3
    rw [h1, h2]; exact h3.symm
  | none =>
    cases h1 : cellsOf (H.get b) with
    | none => rfl
    | some c =>
      cases h2 : ldS T ty with
      | none => rfl
      | some z =>
        simp only
        cases h3 : part c o z with
        | none => rfl
        | some u => rw [aRead_eq.2 ⟨c, z, h1, h2, h3⟩] at hr; cases hr

theorem wantE_guard {l₀ : List Oper} {d : Option Tmp} {op : Op} {ty : TypeId} {p : String} {af : Array Edge} {j : Nat} {w : Bool} {X Y : Prop} :
    cond (wantE l₀.toArray n e ⟨d, op, ty, p, af, some (j, w)⟩) X Y = gK (gdst l₀ j) (fun i => guardK (gt n e i) w X Y) Y := by
  have hy : ayieldE l₀.toArray n e j = match gdst l₀ j with
    | some d => bif Nat.blt d n then (match e.get d with
      | .bool b => some b
      | _ => none) else none
    | none => none := by unfold ayieldE gdst; simp only [List.getElem?_toArray]; rfl
  have hg : wantE l₀.toArray n e ⟨d, op, ty, p, af, some (j, w)⟩ = (ayieldE l₀.toArray n e j == some w) := rfl
  rw [hg, hy]
  cases gdst l₀ j with
  | none => cases w <;> rfl
  | some i =>
    simp only [gK,gt]
    cases Nat.blt i n
    · cases w <;> rfl
    · simp only [cond_true]
      cases e.get i with
      | bool b => cases b <;> cases w <;> simp [guardK, Split]
      | _ => cases w <;> rfl

/-! ### Regions that draw their order -/
theorem maskE_tmp {l : List Nat} {d : Nat} : maskE l n e (.tmp d) = bif memNat d l then some (gt n e d) else none := nr rfl
theorem maskE_func {l : List Nat} {f : FuncId} : maskE l n e (.func f) = some (.func (.func f) ⟨[]⟩ ⟨[]⟩) := nr rfl
theorem maskE_int {l : List Nat} {k : IntKind} {i : Int} : maskE l n e (.const (.int k i)) = some (.int k i) := nr rfl
theorem maskE_bool {l : List Nat} {b : Bool} : maskE l n e (.const (.bool b)) = some (.bool b) := nr rfl
theorem memNat_nil {d : Nat} : memNat d [] = false := nr rfl
theorem memNat_cons {d x : Nat} {l : List Nat} : memNat d (x :: l) = (decide (d = x) || memNat d l) := by
  have : Nat.beq d x = decide (d = x) := by rw [Bool.eq_iff_iff]; simp
  simp only [memNat,this]
def flagK (b : Bool) (X Y : Prop) (_ : Tag (X, Y) := .mk) : Prop := match b with
  | true => X
  | false => Y
theorem flagK_true (X Y : Prop) : flagK true X Y = X := nr rfl
theorem flagK_false (X Y : Prop) : flagK false X Y = Y := nr rfl
abbrev DQ := List Fl → List Nat → List AHeap → VT → Prop
def D' (T : Tab) (P : Program) (ex : Exec) (l₀ : List Oper) (n L : Nat) : List Oper → Nat → Nat → VT → AHeap → DQ → Prop
  | [], _, _, e, H, Q => L ≤ H.size ∧ Q [] [] [H] e
  | o :: l, i, q, e, H, Q => cond (wantE l₀.toArray n e o)
    (A T P ex (maskE (tmpsOf o.op.operands.toList) n e) H L o.op fun b v H' => flagK b
      (D' T P ex l₀ n L l (i + 1) q (e.put o.dst v) H fun fl hs Gs ef => Q (⟨i, q, tmpsOf o.op.operands.toList, e, o, v⟩ :: fl) hs Gs ef)
      (D' T P ex l₀ n L l (i + 1) (q + 1) (e.put o.dst v) H' fun fl hs Gs ef => Q fl (i :: hs) (H :: Gs) ef))
    (D' T P ex l₀ n L l (i + 1) q (e.put o.dst undef) H Q)
theorem D'_ok {ex : Exec} {l₀ : List Oper} : ∀ {l : List Oper} {i q : Nat} {e : VT} {H : AHeap} {Q : DQ}, D' T P ex l₀ n L l i q e H Q → ∃ fl hs Gs ef m, dpass T P ex l₀.toArray n l i q e H = some (fl, hs, Gs, ef, m) ∧ L ≤ m ∧ Q fl hs Gs ef
  | [], i, q, e, H, Q, h => ⟨[], [], [H], e, H.size, rfl, h.1, h.2⟩
  | o :: l, i, q, e, H, Q, h => by
    have fn : ∀ {β : Type} (l : List Nat) (k : List Nat → β), fNats l k = k l := fun l k => fList_eq fNat_eq l k
    simp only [D'] at h
    simp only [dpass,fn,VT.putK_eq]
    cases hw : wantE l₀.toArray n e o
    · rw [hw] at h
      exact D'_ok (l := l) h
    · rw [hw, cond_true] at h
      simp only [cond_true]
      unfold A at h
      cases ha : aopAny T P ex (maskE (tmpsOf o.op.operands.toList) n e) H o.op with
      | none => rw [ha] at h; exact h.elim
      | some p =>
        obtain ⟨b, v, H₁, m₁⟩ := p
        rw [ha] at h
        obtain ⟨h1, h2⟩ := h
        cases b
        · obtain ⟨fl, hs, Gs, ef, m, k1, k2, k3⟩ := D'_ok (l := l) (show D' T P ex l₀ n L l (i + 1) (q + 1) (e.put o.dst v) H₁ _ from h2)
          simp only [fH_eq,fNat_eq,k1]
          exact ⟨fl, i :: hs, H :: Gs, ef, min m₁ m, rfl, by omega, k3⟩
        · obtain ⟨fl, hs, Gs, ef, m, k1, k2, k3⟩ := D'_ok (l := l) (show D' T P ex l₀ n L l (i + 1) q (e.put o.dst v) H _ from h2)
          simp only [fV_eq,k1]
          exact ⟨_, hs, Gs, ef, m, rfl, k2, k3⟩
def revA {β : Type} : List β → List β → List β
  | [], l => l
  | x :: a, l => revA a (x :: l)
theorem revA_nil {β : Type} {l : List β} : revA [] l = l := nr rfl
theorem revA_cons {β : Type} {x : β} {a l : List β} : revA (x :: a) l = revA a (x :: l) := nr rfl
def D (T : Tab) (P : Program) (ex : Exec) (l₀ : List Oper) (n : Nat) (l : List Oper) (i q : Nat) (L : Nat) (e : VT) (H : AHeap) (fa : List Fl) (ha : List Nat) (ga : List AHeap) (Q : DQ) (_ : Tag ((l₀, l), fa, ha, ga, Q) := .mk) : Prop :=
  D' T P ex l₀ n L l i q e H fun fl hs Gs ef => Q (revA fa fl) (revA ha hs) (revA ga Gs) ef
section
variable {ex : Exec} {l₀ l : List Oper} {i q : Nat} {fa : List Fl} {ha : List Nat} {ga : List AHeap} {Q : DQ}
theorem D_nil : D T P ex l₀ n [] i q L e H fa ha ga Q = andK (L ≤ H.size) (Q (revA fa []) (revA ha []) (revA ga [H]) e) := nr rfl
theorem D_cons {d : Option Tmp} {op : Op} {ty : TypeId} {p : String} {af : Array Edge} : D T P ex l₀ n (⟨d, op, ty, p, af, none⟩ :: l) i q L e H fa ha ga Q = letK (tmpsOf op.operands.toList) fun tl => A T P ex (maskE tl n e) H L op fun b v H' => flagK b
    (letK (i + 1) fun i' => D T P ex l₀ n l i' q L (e.put d v) H (⟨i, q, tl, e, ⟨d, op, ty, p, af, none⟩, v⟩ :: fa) ha ga Q)
    (letK (i + 1) fun i' => letK (q + 1) fun q' => D T P ex l₀ n l i' q' L (e.put d v) H' fa (i :: ha) (H :: ga) Q) := nr rfl
theorem D_guard {d : Option Tmp} {op : Op} {ty : TypeId} {p : String} {af : Array Edge} {j : Nat} {w : Bool} : D T P ex l₀ n (⟨d, op, ty, p, af, some (j, w)⟩ :: l) i q L e H fa ha ga Q = gK (gdst l₀ j) (fun k => guardK (gt n e k) w
    (letK (tmpsOf op.operands.toList) fun tl => A T P ex (maskE tl n e) H L op fun b v H' => flagK b
      (letK (i + 1) fun i' => D T P ex l₀ n l i' q L (e.put d v) H (⟨i, q, tl, e, ⟨d, op, ty, p, af, some (j, w)⟩, v⟩ :: fa) ha ga Q)
      (letK (i + 1) fun i' => letK (q + 1) fun q' => D T P ex l₀ n l i' q' L (e.put d v) H' fa (i :: ha) (H :: ga) Q))
    (letK (i + 1) fun i' => D T P ex l₀ n l i' q L (e.put d undef) H fa ha ga Q)) (letK (i + 1) fun i' => D T P ex l₀ n l i' q L (e.put d undef) H fa ha ga Q) := wantE_guard
/-- Each that may come elsewhere comes to the same there. -/
def agK (T : Tab) (P : Program) (ex : Exec) (n : Nat) (f : Fl) : List AHeap → Prop
  | [] => True
  | G :: Gs => (A T P ex (maskE f.tl n f.e) G 0 f.o.op fun b v _ => b = true ∧ sameV 6 f.v v = true) ∧ agK T P ex n f Gs
def agsK (T : Tab) (P : Program) (ex : Exec) (n : Nat) : List Fl → List AHeap → Prop
  | [], _ => True
  | f :: fl, Gs => agK T P ex n f Gs ∧ agsK T P ex n fl Gs
theorem agsK_nil {Gs : List AHeap} : agsK T P ex n [] Gs = True := nr rfl
theorem agsK_cons {f : Fl} {fl : List Fl} {Gs : List AHeap} : agsK T P ex n (f :: fl) Gs = (agK T P ex n f Gs ∧ agsK T P ex n fl Gs) := nr rfl
theorem agK_nil {f : Fl} : agK T P ex n f [] = True := nr rfl
theorem agK_cons {i q : Nat} {tl : List Nat} {e : VT} {d : Option Tmp} {op : Op} {ty : TypeId} {p : String} {af : Array Edge} {g : Option (Nat × Bool)} {v : Value} {G : AHeap} {Gs : List AHeap} : agK T P ex n ⟨i, q, tl, e, ⟨d, op, ty, p, af, g⟩, v⟩ (G :: Gs) =
  ((A T P ex (maskE tl n e) G 0 op fun b u _ => b = true ∧ sameV 6 v u = true) ∧ agK T P ex n ⟨i, q, tl, e, ⟨d, op, ty, p, af, g⟩, v⟩ Gs) := nr rfl
theorem agsK_ok {bef : Nat → Nat → Bool} {hs : List Nat} {Gs₀ : List AHeap} : ∀ {fl : List Fl}, agsK T P ex n fl Gs₀ → allFl (fun f => stagesOk T P ex n bef hs f Gs₀ 0) fl = true := by
  have one : ∀ (f : Fl) (Gs : List AHeap) (q : Nat), agK T P ex n f Gs → stagesOk T P ex n bef hs f Gs q = true := by
    intro f Gs
    induction Gs with
    | nil => intro q _; rfl
    | cons G Gs ih =>
      intro q h
      simp only [stagesOk,Bool.and_eq_true,Bool.or_eq_true]
      refine ⟨.inr ?_, ih (q + 1) h.2⟩
      have h1 := h.1
      unfold A at h1
      unfold again
      cases ha : aopAny T P ex (maskE f.tl n f.e) G f.o.op with
      | none => rw [ha] at h1; exact h1.elim
      | some p =>
        obtain ⟨b, v, H', m⟩ := p
        rw [ha] at h1
        obtain ⟨_, rfl, h3⟩ := h1
        exact h3
  intro fl
  induction fl with
  | nil => intro _; rfl
  | cons f fl ih =>
    intro h
    simp only [allFl,Bool.and_eq_true]
    exact ⟨one f Gs₀ 0 h.1, ih h.2⟩
def lastG : List AHeap → AHeap → AHeap
  | [], H => H
  | [G], _ => G
  | _ :: G :: Gs, H => lastG (G :: Gs) H
theorem lastG_one {G H : AHeap} : lastG [G] H = G := nr rfl
theorem lastG_cons {G G' H : AHeap} {Gs : List AHeap} : lastG (G :: G' :: Gs) H = lastG (G' :: Gs) H := nr rfl
theorem lastG_eq : ∀ (Gs : List AHeap) (H : AHeap) (k : Nat), Gs.length = k + 1 → Gs.getD k H = lastG Gs H
  | [], _, _, h => by simp at h
  | [G], _, 0, _ => rfl
  | [G], _, k + 1, h => by simp at h
  | _ :: G :: Gs, _, 0, h => by simp at h
  | _ :: G :: Gs, H, k + 1, h => by
    rw [lastG_cons, ← lastG_eq (G :: Gs) H k (by simpa using h)]; rfl
/-- The end of a region that draws. -/
def endD (T : Tab) (P : Program) (ex : Exec) (n : Nat) (hsl : List Nat) (H : AHeap) (R : VT → AHeap → Prop) (fl : List Fl) (hs : List Nat) (Gs : List AHeap) (ef : VT) : Prop := hs = hsl ∧ agsK T P ex n fl Gs ∧ R ef (lastG Gs H)
theorem W_draw {id : Nat} {ops : List Oper} {Q : Exit → ES → Prop} (hsl : List Nat) (hp : T.plan ops (gt n e) H = none) (hst : rstat ops.toArray (befM (matOf ops.length ops 0 0) ops.length) = true) (hch : chain (befM (matOf ops.length ops 0 0) ops.length) hsl = true) (hL : L ≤ H.size)
    (hw : D T P (aexec T P N) ops n ops 0 0 L e H [] [] [] (endD T P (aexec T P N) n hsl H fun e H => Q .normal ⟨n, e, H, ds⟩)) : W T P (N + 1) r (.region id ops.toArray true) L ⟨n, e, H, ds⟩ Q := by
  obtain ⟨fl, hs, Gs, ef, m, h1, h2, rfl, h4, h5⟩ := D'_ok (Q := endD T P (aexec T P N) n hsl H fun e H => Q .normal ⟨n, e, H, ds⟩) hw
  obtain ⟨_, g2, g3⟩ := dpass_shape h1
  have hd : adraw T P (aexec T P N) ops.toArray n e H = some (ef, Gs.getD hs.length H, min m H.size) := by
    unfold adraw
    simp only [fNat_eq,hst,cond_true,h1]
    have : after T P (aexec T P N) n (befM (matOf ops.length ops 0 0) ops.length) hs Gs fl = true := by
      unfold after
      split
      · rfl
      · rw [hch, agsK_ok h4]; rfl
    rw [this]
    simp only [cond_true,fH_eq]
  unfold W
  have h : aexec T P (N + 1) r (.region id ops.toArray true) ⟨n, e, H, ds⟩ = match adrawX T P (aexec T P N) ops.toArray n e H with
    | some (e', H', m) => some (.normal, ⟨n, e', H', ds⟩, m)
    | none => none := nr rfl
  have hx : adrawX T P (aexec T P N) ops.toArray n e H = orD (adraw T P (aexec T P N) ops.toArray n e H) (adrawB T P (aexec T P N) ops.toArray n e H) := by
    unfold adrawX
    rw [show T.plan ops.toArray.toList (genv n e) H = none from hp]
  rw [h, hx, hd]
  unfold orD
  simp only
  rw [lastG_eq Gs H hs.length g3]
  exact ⟨by omega, h5⟩
end
theorem sv_int {n : Nat} {k : IntKind} {a : Int} : sameV (n + 1) (.int k a) (.int k a) = true := by simp [sameV]
theorem sv_bool {n : Nat} {b : Bool} : sameV (n + 1) (.bool b) (.bool b) = true := by simp [sameV]
theorem sv_pointer {n : Nat} {a : Option Addr} : sameV (n + 1) (.pointer a) (.pointer a) = true := by simp [sameV]
theorem sv_slice {n : Nat} {a : Option Addr} {l c : Nat} : sameV (n + 1) (.slice a l c) (.slice a l c) = true := by simp [sameV]
theorem sv_agg {n : Nat} {l : List Value} : sameV (n + 1) (.agg ⟨l⟩) (.agg ⟨l⟩) = sameL (sameV n) l l := nr rfl
theorem sv_tuple {n : Nat} {l : List Value} : sameV (n + 1) (.tuple ⟨l⟩) (.tuple ⟨l⟩) = sameL (sameV n) l l := nr rfl
theorem sv_func {n : Nat} {f : Fn} {a b : List Value} : sameV (n + 1) (.func f ⟨a⟩ ⟨b⟩) (.func f ⟨a⟩ ⟨b⟩) = (sameL (sameV n) a a && sameL (sameV n) b b) := by simp [sameV]
theorem sl_nil {f : Value → Value → Bool} : sameL f [] [] = true := nr rfl
theorem sl_cons {f : Value → Value → Bool} {x : Value} {l : List Value} : sameL f (x :: l) (x :: l) = (f x x && sameL f l l) := nr rfl

/-! ### Regions with blocks set aside -/
def lookK (o : Option Nat) (X : Nat → Prop) (Y : Prop) (_ : Tag (X, Y) := .mk) : Prop := match o with
  | some k => X k
  | none => Y
theorem lookK_some {k : Nat} {X : Nat → Prop} {Y : Prop} : lookK (some k) X Y = X k := nr rfl
theorem lookK_none {X : Nat → Prop} {Y : Prop} : lookK none X Y = Y := nr rfl
theorem look_nil {i : Nat} : look [] i = none := nr rfl
theorem look_cons {i j k : Nat} {l : List (Nat × Nat)} : look ((j, k) :: l) i = if i = j then some k else look l i := nr rfl
theorem places_nil {s : Nat} : places s [] = [] := nr rfl
theorem places_cons {s i : Nat} {b : ABlk} {l : List (Nat × ABlk)} : places s ((i, b) :: l) = (i, s) :: places (s + 1) l := nr rfl
theorem allocs_nil {H : AHeap} : allocs H [] = H := nr rfl
theorem allocs_cons {H : AHeap} {i : Nat} {b : ABlk} {l : List (Nat × ABlk)} : allocs H ((i, b) :: l) = allocs (H.alloc b) l := nr rfl
def newK (T : Tab) (t : Operand → Option Value) (o : Op) (k : Nat) (H : AHeap) (Q : Value → Prop) (_ : Tag (o, Q) := .mk) : Prop := match anew T t o with
  | some (p, blk) => (H.get k = blk ∧ k < H.size) ∧ Q (mkV p k)
  | none => False
section
variable {t : Operand → Option Value} {k : Nat} {Q : Value → Prop}
theorem newK_alloc {ty : TypeId} : newK T t (.alloc ty) k H Q = optK (alS T ty) fun c => andK (H.get k = .rw c ty false []) (andK (k < H.size) (Q (.pointer (some ⟨k, 0, none⟩)))) := by
  show (match newAlloc T ty with
    | some (p, blk) => (H.get k = blk ∧ k < H.size) ∧ Q (mkV p k)
    | none => False) = _
  unfold newAlloc alS
  cases T.inf ty with
  | none => rfl
  | some i =>
    simp only
    cases i.zero with
    | none => rfl
    | some z =>
      simp only [fVs_eq]
      cases gr z
      · rfl
      · simp only [cond_true,optK,andK,and_assoc]; rfl
theorem newK_box {ty : TypeId} {x : Operand} : newK T t (.box ty x) k H Q = optK (t x) fun v => letK v.cells.toList fun c => andK (H.get k = .rw c ty false []) (andK (k < H.size) (Q (.pointer (some ⟨k, 0, none⟩)))) := by
  show (match newBox t ty x with
    | some (p, blk) => (H.get k = blk ∧ k < H.size) ∧ Q (mkV p k)
    | none => False) = _
  unfold newBox
  cases t x with
  | none => rfl
  | some v => simp only [optK,letK,andK,and_assoc]; rfl
end
def DS' (T : Tab) (P : Program) (ex : Exec) (rl : List (Nat × Nat)) (l₀ : List Oper) (n L : Nat) : List Oper → Nat → Nat → VT → AHeap → DQ → Prop
  | [], _, _, e, H, Q => L ≤ H.size ∧ Q [] [] [H] e
  | o :: l, i, q, e, H, Q => cond (wantE l₀.toArray n e o)
    (lookK (look rl i) (fun k => newK T (maskE (tmpsOf o.op.operands.toList) n e) o.op k H fun v =>
        DS' T P ex rl l₀ n L l (i + 1) q (e.put o.dst v) H fun fl hs Gs ef => Q (⟨i, q, tmpsOf o.op.operands.toList, e, o, v⟩ :: fl) hs Gs ef)
      (A T P ex (maskE (tmpsOf o.op.operands.toList) n e) H L o.op fun b v H' => flagK b
        (DS' T P ex rl l₀ n L l (i + 1) q (e.put o.dst v) H fun fl hs Gs ef => Q (⟨i, q, tmpsOf o.op.operands.toList, e, o, v⟩ :: fl) hs Gs ef)
        (DS' T P ex rl l₀ n L l (i + 1) (q + 1) (e.put o.dst v) H' fun fl hs Gs ef => Q fl (i :: hs) (H :: Gs) ef)))
    (DS' T P ex rl l₀ n L l (i + 1) q (e.put o.dst undef) H Q)
theorem DS'_ok {ex : Exec} {rl : List (Nat × Nat)} {l₀ : List Oper} : ∀ {l : List Oper} {i q : Nat} {e : VT} {H : AHeap} {Q : DQ}, DS' T P ex rl l₀ n L l i q e H Q → ∃ fl hs Gs ef m, dpassR T P ex rl l₀.toArray n l i q e H = some (fl, hs, Gs, ef, m) ∧ L ≤ m ∧ Q fl hs Gs ef
  | [], i, q, e, H, Q, h => ⟨[], [], [H], e, H.size, rfl, h.1, h.2⟩
  | o :: l, i, q, e, H, Q, h => by
    simp only [DS'] at h
    simp only [dpassR]
    cases hw : wantE l₀.toArray n e o
    · rw [hw] at h
      exact DS'_ok (l := l) h
    · rw [hw, cond_true] at h
      simp only [cond_true]
      unfold evR
      cases hk : look rl i with
      | some k =>
        rw [hk, lookK_some] at h
        unfold newK at h
        simp only
        cases ha : anew T (maskE (tmpsOf o.op.operands.toList) n e) o.op with
        | none => rw [ha] at h; exact h.elim
        | some p =>
          obtain ⟨p, blk⟩ := p
          rw [ha] at h
          obtain ⟨⟨g1, g2⟩, g3⟩ := h
          obtain ⟨fl, hs, Gs, ef, m, k1, k2, k3⟩ := DS'_ok (l := l) g3
          simp only [if_pos (And.intro g1 g2),k1]
          exact ⟨_, hs, Gs, ef, m, rfl, k2, k3⟩
      | none =>
        rw [hk, lookK_none] at h
        unfold A at h
        simp only
        cases ha : aopAny T P ex (maskE (tmpsOf o.op.operands.toList) n e) H o.op with
        | none => rw [ha] at h; exact h.elim
        | some p =>
          obtain ⟨b, v, H₁, m₁⟩ := p
          rw [ha] at h
          obtain ⟨h1, h2⟩ := h
          cases b
          · obtain ⟨fl, hs, Gs, ef, m, k1, k2, k3⟩ := DS'_ok (l := l) (show DS' T P ex rl l₀ n L l (i + 1) (q + 1) (e.put o.dst v) H₁ _ from h2)
            simp only [k1]
            exact ⟨fl, i :: hs, H :: Gs, ef, min m₁ m, rfl, by omega, k3⟩
          · obtain ⟨fl, hs, Gs, ef, m, k1, k2, k3⟩ := DS'_ok (l := l) (show DS' T P ex rl l₀ n L l (i + 1) q (e.put o.dst v) H _ from h2)
            simp only [k1]
            exact ⟨_, hs, Gs, ef, m, rfl, k2, k3⟩
def DS (T : Tab) (P : Program) (ex : Exec) (rl : List (Nat × Nat)) (l₀ : List Oper) (n : Nat) (l : List Oper) (i q : Nat) (L : Nat) (e : VT) (H : AHeap) (fa : List Fl) (ha : List Nat) (ga : List AHeap) (Q : DQ) (_ : Tag ((l₀, l), fa, ha, ga, Q) := .mk) : Prop :=
  DS' T P ex rl l₀ n L l i q e H fun fl hs Gs ef => Q (revA fa fl) (revA ha hs) (revA ga Gs) ef
section
variable {ex : Exec} {l₀ l : List Oper} {i q : Nat} {fa : List Fl} {ha : List Nat} {ga : List AHeap} {Q : DQ} {rl : List (Nat × Nat)}
theorem DS_nil : DS T P ex rl l₀ n [] i q L e H fa ha ga Q = andK (L ≤ H.size) (Q (revA fa []) (revA ha []) (revA ga [H]) e) := nr rfl
theorem DS_cons {d : Option Tmp} {op : Op} {ty : TypeId} {p : String} {af : Array Edge} : DS T P ex rl l₀ n (⟨d, op, ty, p, af, none⟩ :: l) i q L e H fa ha ga Q = letK (tmpsOf op.operands.toList) fun tl => lookK (look rl i)
    (fun k => newK T (maskE tl n e) op k H fun v => letK (i + 1) fun i' => DS T P ex rl l₀ n l i' q L (e.put d v) H (⟨i, q, tl, e, ⟨d, op, ty, p, af, none⟩, v⟩ :: fa) ha ga Q)
    (A T P ex (maskE tl n e) H L op fun b v H' => flagK b
      (letK (i + 1) fun i' => DS T P ex rl l₀ n l i' q L (e.put d v) H (⟨i, q, tl, e, ⟨d, op, ty, p, af, none⟩, v⟩ :: fa) ha ga Q)
      (letK (i + 1) fun i' => letK (q + 1) fun q' => DS T P ex rl l₀ n l i' q' L (e.put d v) H' fa (i :: ha) (H :: ga) Q)) := nr rfl
theorem DS_guard {d : Option Tmp} {op : Op} {ty : TypeId} {p : String} {af : Array Edge} {j : Nat} {w : Bool} : DS T P ex rl l₀ n (⟨d, op, ty, p, af, some (j, w)⟩ :: l) i q L e H fa ha ga Q = gK (gdst l₀ j) (fun k => guardK (gt n e k) w
    (letK (tmpsOf op.operands.toList) fun tl => lookK (look rl i)
      (fun k => newK T (maskE tl n e) op k H fun v => letK (i + 1) fun i' => DS T P ex rl l₀ n l i' q L (e.put d v) H (⟨i, q, tl, e, ⟨d, op, ty, p, af, some (j, w)⟩, v⟩ :: fa) ha ga Q)
      (A T P ex (maskE tl n e) H L op fun b v H' => flagK b
        (letK (i + 1) fun i' => DS T P ex rl l₀ n l i' q L (e.put d v) H (⟨i, q, tl, e, ⟨d, op, ty, p, af, some (j, w)⟩, v⟩ :: fa) ha ga Q)
        (letK (i + 1) fun i' => letK (q + 1) fun q' => DS T P ex rl l₀ n l i' q' L (e.put d v) H' fa (i :: ha) (H :: ga) Q)))
    (letK (i + 1) fun i' => DS T P ex rl l₀ n l i' q L (e.put d undef) H fa ha ga Q)) (letK (i + 1) fun i' => DS T P ex rl l₀ n l i' q L (e.put d undef) H fa ha ga Q) := wantE_guard
def memP (i q : Nat) : List (Nat × Nat) → Bool
  | [] => false
  | p :: l => (decide (i = p.1) && decide (q = p.2)) || memP i q l
theorem memP_nil : memP i q [] = false := nr rfl
theorem memP_cons {a b : Nat} {bl : List (Nat × Nat)} : memP i q ((a, b) :: bl) = ((decide (i = a) && decide (q = b)) || memP i q bl) := nr rfl
theorem memP_mem : ∀ {bl : List (Nat × Nat)}, memP i q bl = true → (i, q) ∈ bl
  | p :: l, h => by
    simp only [memP,Bool.or_eq_true,Bool.and_eq_true,decide_eq_true_eq] at h
    rcases h with ⟨rfl, rfl⟩ | h
    · simp
    · exact List.mem_cons_of_mem _ (memP_mem h)
def skipK (b : Bool) (X : Prop) (_ : Tag X := .mk) : Prop := match b with
  | true => True
  | false => X
theorem skipK_true {X : Prop} : skipK true X = True := nr rfl
theorem skipK_false {X : Prop} : skipK false X = X := nr rfl
def oneR (T : Tab) (P : Program) (ex : Exec) (rl : List (Nat × Nat)) (n : Nat) (f : Fl) (G : AHeap) : Prop := lookK (look rl f.i) (fun k => newK T (maskE f.tl n f.e) f.o.op k G fun v => v = f.v) (A T P ex (maskE f.tl n f.e) G 0 f.o.op fun b v _ => b = true ∧ v = f.v)
def stR (T : Tab) (P : Program) (ex : Exec) (rl : List (Nat × Nat)) (n : Nat) (bl : List (Nat × Nat)) (f : Fl) : List AHeap → Nat → Prop
  | [], _ => True
  | G :: Gs, q => skipK (memP f.i q bl) (oneR T P ex rl n f G) ∧ stR T P ex rl n bl f Gs (q + 1)
def stsR (T : Tab) (P : Program) (ex : Exec) (rl : List (Nat × Nat)) (n : Nat) (bl : List (Nat × Nat)) : List Fl → List AHeap → Prop
  | [], _ => True
  | f :: fl, Gs => stR T P ex rl n bl f Gs 0 ∧ stsR T P ex rl n bl fl Gs
variable {bl : List (Nat × Nat)} {f : Fl} {fl : List Fl} {G : AHeap} {Gs : List AHeap}
theorem stsR_nil : stsR T P ex rl n bl [] Gs = True := nr rfl
theorem stsR_cons : stsR T P ex rl n bl (f :: fl) Gs = (stR T P ex rl n bl f Gs 0 ∧ stsR T P ex rl n bl fl Gs) := nr rfl
theorem stR_nil : stR T P ex rl n bl f [] q = True := nr rfl
theorem stR_cons {i q' : Nat} {tl : List Nat} {e : VT} {d : Option Tmp} {op : Op} {ty : TypeId} {p : String} {af : Array Edge} {g : Option (Nat × Bool)} {v : Value} : stR T P ex rl n bl ⟨i, q', tl, e, ⟨d, op, ty, p, af, g⟩, v⟩ (G :: Gs) q =
  (skipK (memP i q bl) (lookK (look rl i) (fun k => newK T (maskE tl n e) op k G fun u => u = v) (A T P ex (maskE tl n e) G 0 op fun b u _ => b = true ∧ u = v)) ∧ stR T P ex rl n bl ⟨i, q', tl, e, ⟨d, op, ty, p, af, g⟩, v⟩ Gs (q + 1)) := nr rfl
theorem oneR_ok (h : oneR T P ex rl n f G) : againR T P ex rl n f G := by
  unfold oneR at h
  unfold againR evR
  cases hk : look rl f.i with
  | some k =>
    rw [hk, lookK_some] at h
    unfold newK at h
    simp only
    cases ha : anew T (maskE f.tl n f.e) f.o.op with
    | none => rw [ha] at h; exact h.elim
    | some p =>
      obtain ⟨p, blk⟩ := p
      rw [ha] at h
      obtain ⟨g1, g2⟩ := h
      simp only [if_pos g1]
      exact ⟨_, _, by rw [g2]⟩
  | none =>
    rw [hk, lookK_none] at h
    unfold A at h
    simp only
    cases ha : aopAny T P ex (maskE f.tl n f.e) G f.o.op with
    | none => rw [ha] at h; exact h.elim
    | some p =>
      obtain ⟨b, v, H', m⟩ := p
      rw [ha] at h
      obtain ⟨_, rfl, rfl⟩ := h
      exact ⟨_, _, rfl⟩
theorem stR_get : ∀ {Gs : List AHeap} {q a : Nat} {G₀ : AHeap}, stR T P ex rl n bl f Gs q → a < Gs.length → memP f.i (q + a) bl = true ∨ againR T P ex rl n f (Gs.getD a G₀)
  | G :: Gs, q, 0, G₀, h, _ => by
    cases hm : memP f.i q bl
    · have h1 := h.1
      rw [hm, skipK_false] at h1
      exact .inr (oneR_ok h1)
    · exact .inl rfl
  | G :: Gs, q, a + 1, G₀, h, ha => by
    have := stR_get (Gs := Gs) (q := q + 1) (a := a) (G₀ := G₀) h.2 (by simpa using ha)
    rw [show q + (a + 1) = q + 1 + a by omega]
    exact this
theorem stsR_mem : ∀ {fl : List Fl}, stsR T P ex rl n bl fl Gs → f ∈ fl → stR T P ex rl n bl f Gs 0
  | g :: fl, h, hm => by
    rcases List.mem_cons.1 hm with rfl | hm
    · exact h.1
    · exact stsR_mem h.2 hm
def endR (T : Tab) (P : Program) (ex : Exec) (rl : List (Nat × Nat)) (n : Nat) (bl : List (Nat × Nat)) (hsl : List Nat) (H : AHeap) (R : VT → AHeap → Prop) (fl : List Fl) (hs : List Nat) (Gs : List AHeap) (ef : VT) : Prop := hs = hsl ∧ stsR T P ex rl n bl fl Gs ∧ R ef (lastG Gs H)
theorem W_drawR {id : Nat} {ops : List Oper} {Q : Exit → ES → Prop} {pl : List (Nat × ABlk)} (hsl : List Nat) (bl : List (Nat × Nat)) (hp : T.plan ops (gt n e) H = some pl) (hst : rstat ops.toArray (befM (matOf ops.length ops 0 0) ops.length) = true) (hch : chain (befM (matOf ops.length ops 0 0) ops.length) hsl = true)
    (hbl : (bl.all fun p => blocked (befM (matOf ops.length ops 0 0) ops.length) p.1 p.2 hsl 0) = true) (hL : L ≤ H.size)
    (hw : DS T P (aexec T P N) (places H.size pl) ops n ops 0 0 L e (allocs H pl) [] [] [] (endR T P (aexec T P N) (places H.size pl) n bl hsl (allocs H pl) fun e H => Q .normal ⟨n, e, H, ds⟩)) : W T P (N + 1) r (.region id ops.toArray true) L ⟨n, e, H, ds⟩ Q := by
  obtain ⟨fl, hs, Gs, ef, m, h1, h2, rfl, h4, h5⟩ := DS'_ok (Q := endR T P (aexec T P N) (places H.size pl) n bl hsl (allocs H pl) fun e H => Q .normal ⟨n, e, H, ds⟩) hw
  obtain ⟨_, g2, g3⟩ := dpassR_shape h1
  have hd : adrawR T P (aexec T P N) ops.toArray n e H pl = some (ef, Gs.getD hs.length (allocs H pl), min m H.size) := by
    unfold adrawR
    simp only [h1]
    rw [if_pos]
    refine ⟨hst, hch, fun f hf q hq => ?_⟩
    rcases stR_get (G₀ := allocs H pl) (a := q) (stsR_mem h4 hf) (by omega) with h | h
    · rw [Nat.zero_add] at h
      exact .inl (List.all_eq_true.1 hbl _ (memP_mem h))
    · exact .inr h
  unfold W
  have h : aexec T P (N + 1) r (.region id ops.toArray true) ⟨n, e, H, ds⟩ = match adrawX T P (aexec T P N) ops.toArray n e H with
    | some (e', H', m) => some (.normal, ⟨n, e', H', ds⟩, m)
    | none => none := nr rfl
  have hx : adrawX T P (aexec T P N) ops.toArray n e H = adrawR T P (aexec T P N) ops.toArray n e H pl := by
    unfold adrawX
    rw [show T.plan ops.toArray.toList (genv n e) H = some pl from hp]
  rw [h, hx, hd]
  simp only
  rw [lastG_eq Gs (allocs H pl) hs.length g3]
  exact ⟨by omega, h5⟩
end
def tupO (o : Option Value) (v : Value) : Option Value := match o with
  | some u => some (.tuple ⟨[u, v]⟩)
  | none => none
theorem tupO_some {u v : Value} : tupO (some u) v = some (.tuple ⟨[u, v]⟩) := nr rfl
theorem resV_cell_tmp {i j : Nat} {ty : TypeId} : resV T n e H [.cell i ty, .tmp j] = tupO (cellO T H ty (gt n e i)) (gt n e j) := by
  unfold resV aresG cellO aresG tupO
  cases gt n e i <;> first | rfl | skip
  rename_i a
  cases a with
  | none => rfl
  | some ad =>
    simp only [aresG]
    cases aRead T H ty ad <;> rfl

theorem tm_move {x : Operand} : tmpsOf (Op.operands (.move x)).toList = tmpsOf [x] := nr rfl
theorem tm_assign {x : Operand} : tmpsOf (Op.operands (.assign x)).toList = tmpsOf [x] := nr rfl
theorem tm_box {ty : TypeId} {x : Operand} : tmpsOf (Op.operands (.box ty x)).toList = tmpsOf [x] := nr rfl
theorem tm_load {ty : TypeId} {x : Operand} : tmpsOf (Op.operands (.load ty x)).toList = tmpsOf [x] := nr rfl
theorem tm_nilCheck {x : Operand} : tmpsOf (Op.operands (.nilCheck x)).toList = tmpsOf [x] := nr rfl
theorem tm_unOp {op : UnOp} {ty : TypeId} {x : Operand} : tmpsOf (Op.operands (.unOp op ty x)).toList = tmpsOf [x] := nr rfl
theorem tm_convert {a b : TypeId} {x : Operand} : tmpsOf (Op.operands (.convert a b x)).toList = tmpsOf [x] := nr rfl
theorem tm_alloc {ty : TypeId} : tmpsOf (Op.operands (.alloc ty)).toList = tmpsOf [] := nr rfl
theorem tm_store {ty : TypeId} {x y : Operand} : tmpsOf (Op.operands (.store ty x y)).toList = tmpsOf [x, y] := nr rfl
theorem tm_binOp {op : BinOp} {ty ty2 : TypeId} {x y : Operand} : tmpsOf (Op.operands (.binOp op ty x y ty2)).toList = tmpsOf [x, y] := nr rfl
theorem tm_fieldAddr {ty : TypeId} {x : Operand} {f : Nat} : tmpsOf (Op.operands (.fieldAddr ty x f)).toList = tmpsOf [x] := nr rfl
theorem tm_field {ty : TypeId} {x : Operand} {f : Nat} : tmpsOf (Op.operands (.field ty x f)).toList = tmpsOf [x] := nr rfl
theorem tm_indexAddr {ty : TypeId} {x y : Operand} : tmpsOf (Op.operands (.indexAddr ty x y)).toList = tmpsOf [x, y] := nr rfl
theorem tm_index {ty : TypeId} {x y : Operand} : tmpsOf (Op.operands (.index ty x y)).toList = tmpsOf [x, y] := nr rfl
theorem tm_pick {a b c : Operand} : tmpsOf (Op.operands (.pick a b c)).toList = tmpsOf [a, b, c] := nr rfl
theorem tm_extract {x : Operand} {i : Nat} : tmpsOf (Op.operands (.extract x i)).toList = tmpsOf [x] := nr rfl
theorem tm_build {ty : TypeId} {ps : List (Nat × Operand)} : tmpsOf (Op.operands (.build ty ps.toArray)).toList = tmpsOf (ps.map (·.2)) := by simp [Op.operands]
theorem tm_row {ty : TypeId} {n : Nat} {ps : List (Nat × Operand)} : tmpsOf (Op.operands (.buildSlice ty n ps.toArray)).toList = tmpsOf (ps.map (·.2)) := by simp [Op.operands]
theorem tm_call {f : Operand} {vs : List Operand} {tys : Array TypeId} : tmpsOf (Op.operands (.call ⟨.value f, vs.toArray, tys⟩)).toList = tmpsOf (f :: vs) := by simp [Op.operands, Call.operands]
theorem tm_built {b : Builtin} {vs : List Operand} {tys : Array TypeId} : tmpsOf (Op.operands (.call ⟨.builtin b, vs.toArray, tys⟩)).toList = tmpsOf vs := by simp [Op.operands, Call.operands]
theorem tp_nil : tmpsOf [] = [] := nr rfl
theorem tp_tmp {i : Nat} {l : List Operand} : tmpsOf (.tmp i :: l) = i :: tmpsOf l := nr rfl
theorem tp_const {v : Value} {l : List Operand} : tmpsOf (.const v :: l) = tmpsOf l := nr rfl
theorem tp_func {f : FuncId} {l : List Operand} : tmpsOf (.func f :: l) = tmpsOf l := nr rfl
attribute [irreducible] W O A D DS
end Go.Am
