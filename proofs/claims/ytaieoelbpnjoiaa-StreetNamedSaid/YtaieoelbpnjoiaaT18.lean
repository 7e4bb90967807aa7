import Derived.Test.YtaieoelbpnjoiaaT4
import Derived.Test.YtaieoelbpnjoiaaT17
set_option linter.unusedSimpArgs false
set_option linter.unusedVariables false
namespace Go.Am
variable {α : Type} {T : Tab} {P : Program} {N n L : Nat} {r : Option Nat} {e : VT} {H : AHeap} {ds : List Nat}
universe u
theorem nr {α : Sort u} {a b : α} (h : a = b) : a = b := h
inductive Tag {β : Sort u} (b : β) : Type where
 | mk
def optK (o : Option α) (Q : α → Prop) (_ : Tag Q := .mk) : Prop := match o with
 | some a => Q a
 | none => False
theorem zay (a : α) (Q : α → Prop) : optK (some a) Q = Q a := nr rfl
def letK (v : α) (Q : α → Prop) (_ : Tag Q := .mk) : Prop := Q v
theorem zaz (v : α) (Q : α → Prop) : letK v Q = Q v := nr rfl
def andK (a : Prop) (Q : Prop) (_ : Tag Q := .mk) : Prop := a ∧ Q
theorem zba {a : Prop} (Q : Prop) (h : a) : andK a Q = Q := by simp [andK, h]
def Split (b : Bool) (A B : Prop) (_ : Tag (A, B) := .mk) : Prop := (b = true → A) ∧ (b = false → B)
theorem zbb (A B : Prop) : Split true A B = A := by simp [Split]
theorem zbc (A B : Prop) : Split false A B = B := by simp [Split]
theorem zbd (b : Bool) (A B : Prop) : Split (!b) A B = Split b B A := by cases b <;> simp [Split]
def seqK (x : Exit) (A B : Prop) (_ : Tag (A, B) := .mk) : Prop := match x with
 | .normal => A
 | _ => B
theorem zbe (A B : Prop) : seqK .normal A B = A := nr rfl
theorem zbf (i : Nat) (A B : Prop) : seqK (.exit i) A B = B := nr rfl
theorem zbg (A B : Prop) : seqK .ret A B = B := nr rfl
def boolK (v : Value) (A B : Prop) (_ : Tag (A, B) := .mk) : Prop := match v with
 | .bool b => Split b A B
 | _ => False
theorem zbh (b : Bool) (A B : Prop) : boolK (.bool b) A B = Split b A B := nr rfl
def bolK (v : Value) (Q : Bool → Prop) (_ : Tag Q := .mk) : Prop := match v with
 | .bool b => Q b
 | _ => False
theorem zbi (b : Bool) (Q : Bool → Prop) : bolK (.bool b) Q = Q b := nr rfl
def guardK (v : Value) (w : Bool) (A B : Prop) (_ : Tag (A, B) := .mk) : Prop := match v with
 | .bool b => Split (b == w) A B
 | _ => B
theorem zbj (b : Bool) (A B : Prop) : guardK (.bool b) true A B = Split b A B := by cases b <;> rfl
theorem zbk (b : Bool) (A B : Prop) : guardK (.bool b) false A B = Split b B A := by cases b <;> simp [guardK, Split]
theorem zib (w : Bool) (A B : Prop) : guardK undef w A B = B := nr rfl
def ptrK (v : Value) (Q : Nat → Nat → Prop) (_ : Tag Q := .mk) : Prop := match v with
 | .pointer (some a) => Q a.block a.off
 | _ => False
theorem zbo (b o : Nat) (s : Option Nat) (Q : Nat → Nat → Prop) : ptrK (.pointer (some ⟨b, o, s⟩)) Q = Q b o := nr rfl
def intK (v : Value) (Q : Int → Prop) (_ : Tag Q := .mk) : Prop := match v with
 | .int .i64 n => Q n
 | _ => False
theorem zbp (n : Int) (Q : Int → Prop) : intK (.int .i64 n) Q = Q n := nr rfl
def tupK (v : Value) (Q : List Value → Prop) (_ : Tag Q := .mk) : Prop := match v with
 | .tuple c => Q c.toList
 | _ => False
theorem zbq (c : List Value) (Q : List Value → Prop) : tupK (.tuple ⟨c⟩) Q = Q c := nr rfl
def gt (n : Nat) (e : VT) (i : Nat) : Value := bif Nat.blt i n then e.get i else undef
theorem zbs (n : Nat) (e : VT) (i : Nat) : aenv n e (.tmp i) = some (gt n e i) := nr rfl
theorem zbt (n : Nat) (e : VT) (f : FuncId) : aenv n e (.func f) = some (.func (.func f) ⟨[]⟩ ⟨[]⟩) := nr rfl
theorem zbu (n : Nat) (e : VT) (k : IntKind) (i : Int) : aenv n e (.const (.int k i)) = some (.int k i) := nr rfl
theorem zbv (n : Nat) (e : VT) (b : Bool) : aenv n e (.const (.bool b)) = some (.bool b) := nr rfl
theorem zgq (n : Nat) (e : VT) : aenv n e (.const .nilFunc) = some .nilFunc := nr rfl
theorem zgr (n : Nat) (e : VT) : aenv n e (.const (.slice none 0 0)) = some (.slice none 0 0) := nr rfl
theorem zbw (n : Nat) (e : VT) (i : Nat) (v : Value) (h : i < n) : gt n (e.put (some i) v) i = v := by
 unfold gt VT.put
 rw [blt_true h, cond_true, VT.get_set_same _ _ _ _ (Nat.lt_succ_self _)]
theorem zbx (n : Nat) (e : VT) (i j : Nat) (v : Value) (h : j ≠ i) : gt n (e.put (some i) v) j = gt n e j := by
 unfold gt VT.put
 rw [VT.get_set_other _ _ _ _ _ h]
theorem zby (e : VT) (v : Value) : e.put none v = e := nr rfl
def W (T : Tab) (P : Program) (N : Nat) (r : Option Nat) (c : Code) (L : Nat) (s : ES) (Q : Exit → ES → Prop) (_ : Tag (c, Q) := .mk) : Prop := match aexec T P N r c s with
 | some (x, s', m) => L ≤ m ∧ Q x s'
 | none => False
theorem W_mono {c : Code} {s : ES} {Q Q' : Exit → ES → Prop} (h : W T P N r c L s Q) (hq : ∀ x s, Q x s → Q' x s) : W T P N r c L s Q' := by
 unfold W at *
 cases ha : aexec T P N r c s with
 | none => rw [ha] at h; exact h
 | some p =>
  obtain ⟨x, s', m⟩ := p
  rw [ha] at h
  exact ⟨h.1, hq _ _ h.2⟩
theorem zac {s : ES} {Q : Exit → ES → Prop} : W T P (N + 1) r .skip L s Q = andK (L ≤ s.H.size) (Q .normal s) := nr rfl
theorem zad {s : ES} {l : Nat} {Q : Exit → ES → Prop} : W T P (N + 1) r (.label l) L s Q = andK (L ≤ s.H.size) (Q .normal s) := nr rfl
theorem zae {s : ES} {l : Nat} {Q : Exit → ES → Prop} : W T P (N + 1) r (.exit l) L s Q = andK (L ≤ s.H.size) (Q (.exit l) s) := nr rfl
theorem zaf {s : ES} {Q : Exit → ES → Prop} : W T P (N + 1) r .ret L s Q = andK (L ≤ s.H.size) (Q .ret s) := nr rfl
theorem zag {x y : Code} {s : ES} {Q : Exit → ES → Prop} : W T P (N + 1) r (.seq x y) L s Q = W T P N r x L s fun x' s' => seqK x' (W T P N r y L s' Q) (Q x' s') := by
 unfold W
 have h : aexec T P (N + 1) r (.seq x y) s = aseq (aexec T P N r x s) (aexec T P N r y) := rfl
 rw [h]
 cases aexec T P N r x s with
 | none => rfl
 | some p =>
  obtain ⟨x', s', m⟩ := p
  simp only [aseq]
  cases hn : isNormal x'
  ·have : ∀ A B : Prop, seqK x' A B = B := fun A B => by cases x' <;> first | rfl | cases hn
   simp only [cond_false,this]
  ·have := isNormal_true hn
   subst this
   simp only [cond_true,seqK]
   cases aexec T P N r y s' with
   | none => simp
   | some p =>
    obtain ⟨x₂, s₂, m₂⟩ := p
    simp only [fNat_eq]
    exact propext ⟨fun h => ⟨by omega, by omega, h.2⟩, fun h => ⟨by omega, h.2.2⟩⟩
theorem W_loop {b : Code} {s : ES} {Q : Exit → ES → Prop} : W T P (N + 1) r (.loop b) L s Q = W T P N r b L s fun x' s' => seqK x' (W T P N r (.loop b) L s' Q) (Q x' s') := by
 unfold W
 have h : aexec T P (N + 1) r (.loop b) s = aseq (aexec T P N r b s) (aexec T P N r (.loop b)) := rfl
 rw [h]
 cases aexec T P N r b s with
 | none => rfl
 | some p =>
  obtain ⟨x', s', m⟩ := p
  simp only [aseq]
  cases hn : isNormal x'
  ·have : ∀ A B : Prop, seqK x' A B = B := fun A B => by cases x' <;> first | rfl | cases hn
   simp only [cond_false,this]
  ·have := isNormal_true hn
   subst this
   simp only [cond_true,seqK]
   cases aexec T P N r (.loop b) s' with
   | none => simp
   | some p =>
    obtain ⟨x₂, s₂, m₂⟩ := p
    simp only [fNat_eq]
    exact propext ⟨fun h => ⟨by omega, by omega, h.2⟩, fun h => ⟨by omega, h.2.2⟩⟩
theorem zah {id : Nat} {b : Code} {s : ES} {Q : Exit → ES → Prop} : W T P (N + 1) r (.block id b) L s Q = W T P N r b L s fun x' s' => letK (blockExit id x') fun x' => Q x' s' := by
 unfold W
 have h : aexec T P (N + 1) r (.block id b) s = match aexec T P N r b s with
  | some (e, s', m) => some (blockExit id e, s', m)
  | none => none := nr rfl
 rw [h]
 cases aexec T P N r b s with
 | none => rfl
 | some p => obtain ⟨x', s', m⟩ := p; rfl
theorem zbz (id : Nat) : blockExit id .normal = .normal := nr rfl
theorem zca (id : Nat) : blockExit id .ret = .ret := nr rfl
theorem zcb (id : Nat) : blockExit id (.exit id) = .normal := by simp [blockExit]
theorem zcc (id id' : Nat) (h : id' ≠ id) : blockExit id (.exit id') = .exit id' := by simp [blockExit, h]
theorem zai {c : Operand} {x y : Code} {Q : Exit → ES → Prop} : W T P (N + 1) r (.cond c x y) L ⟨n, e, H, ds⟩ Q = optK (aenv n e c) fun v => boolK v (W T P N r x L ⟨n, e, H, ds⟩ Q) (W T P N r y L ⟨n, e, H, ds⟩ Q) := by
 unfold W
 have h : aexec T P (N + 1) r (.cond c x y) ⟨n, e, H, ds⟩ = match aenv n e c with
  | some (.bool b) => aexec T P N r (bif b then x else y) ⟨n, e, H, ds⟩
  | _ => none := nr rfl
 rw [h]
 cases aenv n e c with
 | none => rfl
 | some v =>
  cases v with
  | bool b => cases b <;> simp [optK, boolK, Split]
  | _ => rfl
def O (T : Tab) (P : Program) (ex : Exec) (l₀ : List Oper) (n : Nat) (ds : List Nat) (l : List Oper) (L : Nat) (e : VT) (H : AHeap) (Q : VT → AHeap → Prop) (_ : Tag ((l₀, l), Q) := .mk) : Prop := match aops T P ex l₀.toArray n ds l e H with
 | some (e', H', m) => L ≤ m ∧ Q e' H'
 | none => False
def A (T : Tab) (P : Program) (ex : Exec) (t : Operand → Option Value) (H : AHeap) (L : Nat) (o : Op) (Q : Bool → Value → AHeap → Prop) (_ : Tag (o, Q) := .mk) : Prop := match aopAny T P ex t H o with
 | some (b, v, H', m) => L ≤ m ∧ Q b v H'
 | none => False
theorem zaj {id : Nat} {ops : List Oper} {Q : Exit → ES → Prop} : W T P (N + 1) r (.region id ops.toArray false) L ⟨n, e, H, ds⟩ Q = O T P (aexec T P N) ops n ds ops L e H fun e H => Q .normal ⟨n, e, H, ds⟩ := by
 unfold W O
 have h : aexec T P (N + 1) r (.region id ops.toArray false) ⟨n, e, H, ds⟩ = match aops T P (aexec T P N) ops.toArray n ds ops e H with
  | some (e', H', m) => some (.normal, ⟨n, e', H', ds⟩, m)
  | none => none := by
  show (match (bif false then adrawX T P (aexec T P N) ops.toArray n e H else aops T P (aexec T P N) ops.toArray n ds ops.toArray.toList e H) with
   | some (e', H', m) => some (Exit.normal, (⟨n, e', H', ds⟩ : ES), m)
   | none => none) = _
  rfl
 rw [h]
 cases aops T P (aexec T P N) ops.toArray n ds ops e H with
 | none => rfl
 | some p => obtain ⟨e', H', m⟩ := p; rfl
theorem zak {ex : Exec} {l₀ : List Oper} {Q : VT → AHeap → Prop} : O T P ex l₀ n ds [] L e H Q = andK (L ≤ H.size) (Q e H) := nr rfl
theorem O_op {ex : Exec} {l₀ l : List Oper} {o : Oper} {Q : VT → AHeap → Prop} (hw : wantE l₀.toArray n e o = true) : O T P ex l₀ n ds (o :: l) L e H Q = A T P ex (aenv n e) H L o.op fun _ v H' => O T P ex l₀ n ds l L (e.put o.dst v) H' Q := by
 unfold O A
 simp only [aops,hw,cond_true]
 cases aopAny T P ex (aenv n e) H o.op with
 | none => rfl
 | some p =>
  obtain ⟨b, v, H₁, m₁⟩ := p
  simp only [fH_eq,fNat_eq,VT.putK_eq]
  cases aops T P ex l₀.toArray n ds l (e.put o.dst v) H₁ with
  | none => simp
  | some p =>
   obtain ⟨e', H', m₂⟩ := p
   exact propext ⟨fun h => ⟨by omega, by omega, h.2⟩, fun h => ⟨by omega, h.2.2⟩⟩
theorem zal {ex : Exec} {l₀ l : List Oper} {d : Option Tmp} {op : Op} {ty : TypeId} {p : String} {af : Array Edge} {Q : VT → AHeap → Prop} :
  O T P ex l₀ n ds (⟨d, op, ty, p, af, none⟩ :: l) L e H Q = A T P ex (aenv n e) H L op fun _ v H' => O T P ex l₀ n ds l L (e.put d v) H' Q := O_op rfl
def gdst (l : List Oper) (j : Nat) : Option Nat := (l[j]?).bind (·.dst)
theorem zbm (o : Oper) (l : List Oper) : gdst (o :: l) 0 = o.dst := nr rfl
theorem zbn (o : Oper) (l : List Oper) (j : Nat) : gdst (o :: l) (j + 1) = gdst l j := nr rfl
def gK (o : Option Nat) (F : Nat → Prop) (B : Prop) (_ : Tag (F, B) := .mk) : Prop := match o with
 | some i => F i
 | none => B
theorem zbl (i : Nat) (F : Nat → Prop) (B : Prop) : gK (some i) F B = F i := nr rfl
theorem zam {ex : Exec} {l₀ l : List Oper} {d : Option Tmp} {op : Op} {ty : TypeId} {p : String} {af : Array Edge} {j : Nat} {w : Bool} {Q : VT → AHeap → Prop} :
  O T P ex l₀ n ds (⟨d, op, ty, p, af, some (j, w)⟩ :: l) L e H Q = gK (gdst l₀ j) (fun i => guardK (gt n e i) w (A T P ex (aenv n e) H L op fun _ v H' => O T P ex l₀ n ds l L (e.put d v) H' Q) (O T P ex l₀ n ds l L (e.put d undef) H Q)) (O T P ex l₀ n ds l L (e.put d undef) H Q) := by
 have hy : ayieldE l₀.toArray n e j = match gdst l₀ j with
  | some d => bif Nat.blt d n then (match e.get d with
   | .bool b => some b
   | _ => none) else none
  | none => none := by unfold ayieldE gdst; simp only [List.getElem?_toArray]; rfl
 have hg : wantE l₀.toArray n e ⟨d, op, ty, p, af, some (j, w)⟩ = (ayieldE l₀.toArray n e j == some w) := rfl
 have yes : wantE l₀.toArray n e ⟨d, op, ty, p, af, some (j, w)⟩ = true → O T P ex l₀ n ds (⟨d, op, ty, p, af, some (j, w)⟩ :: l) L e H Q = A T P ex (aenv n e) H L op fun _ v H' => O T P ex l₀ n ds l L (e.put d v) H' Q := fun h => O_op h
 have no : wantE l₀.toArray n e ⟨d, op, ty, p, af, some (j, w)⟩ = false → O T P ex l₀ n ds (⟨d, op, ty, p, af, some (j, w)⟩ :: l) L e H Q = O T P ex l₀ n ds l L (e.put d undef) H Q := fun h => by
  unfold O
  simp only [aops,h,cond_false,VT.putK_eq]
 cases hd : gdst l₀ j with
 | none =>
  rw [hd] at hy
  simp only at hy
  rw [hy] at hg
  rw [no (by rw [hg]; cases w <;> rfl)]; rfl
 | some i =>
  rw [hd] at hy
  simp only at hy
  simp only [gK,gt]
  cases hb : Nat.blt i n
  ·rw [hb, cond_false] at hy
   rw [hy] at hg
   rw [no (by rw [hg]; cases w <;> rfl)]; rfl
  ·rw [hb, cond_true] at hy
   simp only [cond_true]
   cases hv : e.get i with
   | bool b =>
    rw [hv] at hy
    simp only at hy
    rw [hy] at hg
    cases hbw : b == w
    ·rw [no (by rw [hg]; cases b <;> cases w <;> first | rfl | cases hbw)]
     simp [guardK, hbw, Split]
    ·rw [yes (by rw [hg]; cases b <;> cases w <;> first | rfl | cases hbw)]
     simp [guardK, hbw, Split]
   | _ =>
    rw [hv] at hy
    simp only at hy
    rw [hy] at hg
    rw [no (by rw [hg]; cases w <;> rfl)]; rfl
variable {ex : Exec} {t : Operand → Option Value} {Q : Bool → Value → AHeap → Prop}
theorem zan {x : Operand} : A T P ex t H L (.move x) Q = optK (t x) fun v => andK (L ≤ H.size) (Q true v H) := by
 show (match still (aMove t H x) with
  | some (b, v, H', m) => L ≤ m ∧ Q b v H'
  | none => False) = _
 unfold aMove
 cases t x <;> rfl
theorem zao {x : Operand} : A T P ex t H L (.assign x) Q = optK (t x) fun v => andK (L ≤ H.size) (Q true v H) :=
 zan (T := T) (P := P) (ex := ex)
theorem zap {c a b : Operand} : A T P ex t H L (.pick c a b) Q = optK (t c) fun q => bolK q fun q => optK (t a) fun x => optK (t b) fun y => letK (bif q then x else y) fun v => andK (L ≤ H.size) (Q true v H) := by
 show (match still (aPick t H c a b) with
  | some (b, v, H', m) => L ≤ m ∧ Q b v H'
  | none => False) = _
 unfold aPick
 cases t c with
 | none => rfl
 | some q =>
  cases q with
  | bool q =>
   cases t a with
   | none => rfl
   | some x => cases t b <;> rfl
  | _ => rfl
theorem zaq {ty : TypeId} {x : Operand} : A T P ex t H L (.box ty x) Q = optK (t x) fun v => letK v.cells.toList fun c => andK (L ≤ H.size) (Q false (.pointer (some ⟨H.size, 0, none⟩)) (H.alloc (.rw c ty false []))) := by
 show (match fresh H (newBox t ty x) with
  | some (b, v, H', m) => L ≤ m ∧ Q b v H'
  | none => False) = _
 unfold newBox
 cases t x <;> rfl
theorem zar {ty : TypeId} : A T P ex t H L (.alloc ty) Q = optK (alS T ty) fun c => andK (L ≤ H.size) (Q false (.pointer (some ⟨H.size, 0, none⟩)) (H.alloc (.rw c ty false []))) := by
 show (match fresh H (newAlloc T ty) with
  | some (b, v, H', m) => L ≤ m ∧ Q b v H'
  | none => False) = _
 unfold newAlloc alS
 cases T.inf ty with
 | none => rfl
 | some i =>
  simp only
  cases i.zero with
  | none => rfl
  | some z =>
   simp only [fVs_eq]
   cases gr z <;> rfl
theorem zas {ty : TypeId} {x : Operand} {f : Nat} : A T P ex t H L (.fieldAddr ty x f) Q = optK (t x) fun v => ptrK v fun b o => optK (faS T ty f) fun d => letK (o + d) fun o => andK (L ≤ H.size) (Q true (.pointer (some ⟨b, o, none⟩)) H) := by
 show (match still (aFieldAddr T t H ty x f) with
  | some (b, v, H', m) => L ≤ m ∧ Q b v H'
  | none => False) = _
 unfold aFieldAddr faS
 cases t x with
 | none => rfl
 | some v =>
  cases v with
  | pointer a =>
   cases a with
   | none => cases T.und ty <;> rfl
   | some a =>
    cases T.und ty with
    | none => rfl
    | some d =>
     cases d with
     | struct fs =>
      simp only [optK,ptrK]
      cases fs[f]? with
      | none => rfl
      | some fd =>
       simp only
       cases T.inf fd.type with
       | none => rfl
       | some i =>
        simp only
        cases Nat.beq i.size 0
        ·simp only [cond_false,fNat_eq]; rfl
        ·rfl
     | _ => rfl
  | _ => rfl
def part (c : List Value) (o : Nat) (z : Nat) : Option Value := match z with
 | 0 => c[o]?
 | s + 1 => bif Nat.beq ((c.drop o).take s).length s then some (.agg ⟨(c.drop o).take s⟩) else none
theorem aRead_eq {ty : TypeId} {a : Addr} {v : Value} : aRead T H ty a = some v ↔ ∃ c z, cellsOf (H.get a.block) = some c ∧ ldS T ty = some z ∧ part c a.off z = some v := by
 unfold aRead ldS
 cases cellsOf (H.get a.block) with
 | none => simp
 | some c =>
  cases T.und ty with
  | none => simp
  | some d =>
   cases T.inf ty with
   | none => simp
   | some i =>
    simp only [fNat_eq,Option.some.injEq,exists_eq_left',part]
    cases aggOf d
    ·simp
    ·simp
theorem zat {ty : TypeId} {x : Operand} : A T P ex t H L (.load ty x) Q = optK (t x) fun v => ptrK v fun b o => optK (cellsOf (H.get b)) fun c => optK (ldS T ty) fun z => optK (part c o z) fun v => andK (L ≤ H.size) (Q true v H) := by
 show (match still (aLoad T t H ty x) with
  | some (b, v, H', m) => L ≤ m ∧ Q b v H'
  | none => False) = _
 unfold aLoad
 cases t x with
 | none => rfl
 | some v =>
  cases v with
  | pointer a =>
   cases a with
   | none => rfl
   | some a =>
    simp only [optK,ptrK]
    cases hr : aRead T H ty a with
    | some u =>
     obtain ⟨c, z, h1, h2, h3⟩ := aRead_eq.1 hr
     simp only [h1,h2,h3]; rfl
    | none =>
     cases h1 : cellsOf (H.get a.block) with
     | none => rfl
     | some c =>
      cases h2 : ldS T ty with
      | none => rfl
      | some z =>
       cases h3 : part c a.off z with
       | none => simp only [h3]; rfl
       | some u => rw [aRead_eq.2 ⟨c, z, h1, h2, h3⟩] at hr; cases hr
  | _ => rfl
def wrK (H : AHeap) (b o : Nat) (vs : List Value) (Q : Nat → AHeap → Prop) (_ : Tag Q := .mk) : Prop := match aWrite H b o vs with
 | some (H', m) => Q m H'
 | none => False
def wrB (blk : ABlk) (H : AHeap) (b o : Nat) (vs : List Value) (Q : Nat → AHeap → Prop) (_ : Tag Q := .mk) : Prop := match blk with
 | .rw c ty op al => bif Nat.ble (o + vs.length) c.length && oneCells vs then Q (minAl b al) ((H.kill al).put b (.rw (c.take o ++ vs ++ c.drop (o + vs.length)) ty op [])) else False
 | _ => False
theorem zeb {b o : Nat} {vs : List Value} {Q : Nat → AHeap → Prop} : wrK H b o vs Q = wrB (H.get b) H b o vs Q := by
 unfold wrK wrB aWrite
 cases H.get b with
 | rw c ty op al =>
  simp only
  cases Nat.ble (o + vs.length) c.length && oneCells vs <;> rfl
 | _ => rfl
def zed (o : Nat) (vs c : List Value) : Bool := decide (o + vs.length ≤ c.length) && oneCells vs
def zee (o : Nat) (vs c : List Value) : List Value := c.take o ++ vs ++ c.drop (o + vs.length)
theorem zec {b o : Nat} {vs c : List Value} {ty : TypeId} {op : Bool} {Q : Nat → AHeap → Prop} : wrB (.rw c ty op []) H b o vs Q = letK (zed o vs c) fun q => Split q (letK (zee o vs c) fun c => Q b (H.put b (.rw c ty op []))) False := by
 unfold wrB zed letK
 simp only [ble_iff]
 generalize (decide (o + vs.length ≤ c.length) && oneCells vs) = q
 cases q
 ·rw [cond_false, zbc]
 ·rw [cond_true, zbb]; rfl
def inS (T : Tab) (ty : TypeId) : Option Nat := match T.inf ty with
 | some i => some i.size
 | none => none
theorem zau {ty : TypeId} {x y : Operand} : A T P ex t H L (.store ty x y) Q = optK (t x) fun p => ptrK p fun b o => optK (t y) fun v => optK (inS T ty) fun z => letK v.cells.toList fun vs => letK (Nat.beq vs.length z) fun q => Split q (wrK H b o vs fun m H' => andK (L ≤ m) (Q false undef H')) False := by
 show (match moves (aStore T t H ty x y) with
  | some (b, v, H', m) => L ≤ m ∧ Q b v H'
  | none => False) = _
 unfold aStore inS
 cases t x with
 | none => rfl
 | some p =>
  cases p with
  | pointer a =>
   cases a with
   | none => cases t y <;> cases T.inf ty <;> rfl
   | some a =>
    cases t y with
    | none => rfl
    | some v =>
     cases T.inf ty with
     | none => rfl
     | some i =>
      simp only [optK,ptrK,letK,Split]
      cases Nat.beq v.cells.toList.length i.size
      ·simp [moves]
      ·simp only [cond_true,wrK]
       cases aWrite H a.block a.off v.cells.toList with
       | none => simp [moves]
       | some q => simp [moves, andK]
  | _ => rfl
theorem zav {x : Operand} {i : Nat} : A T P ex t H L (.extract x i) Q = optK (t x) fun v => tupK v fun c => optK c[i]? fun v => andK (L ≤ H.size) (Q true v H) := by
 show (match still (aExtract t H x i) with
  | some (b, v, H', m) => L ≤ m ∧ Q b v H'
  | none => False) = _
 unfold aExtract
 cases t x with
 | none => rfl
 | some v =>
  cases v with
  | tuple c =>
   simp only [optK,tupK]
   cases c.toList[i]? <;> rfl
  | _ => rfl
def idxK (v : Value) (len : Nat) (Q : Nat → Prop) (_ : Tag Q := .mk) : Prop := match v with
 | .int _ n => (0 ≤ n ∧ n < len) ∧ Q n.toNat
 | _ => False
theorem zea {k : IntKind} {n : Int} {len : Nat} {Q : Nat → Prop} (h : 0 ≤ n ∧ n < len) : idxK (.int k n) len Q = Q n.toNat := by simp [idxK, h]
def slK (v : Value) (Q : Nat → Nat → Nat → Nat → Prop) (_ : Tag Q := .mk) : Prop := match v with
 | .slice (some a) l c => Q a.block a.off l c
 | _ => False
theorem zbr {b o l c : Nat} {s : Option Nat} {Q : Nat → Nat → Nat → Nat → Prop} : slK (.slice (some ⟨b, o, s⟩) l c) Q = Q b o l c := nr rfl
def esS (T : Tab) (ty : TypeId) : Option Nat := match T.und ty with
 | some (.slice e) => inS T e
 | _ => none
theorem A_indexSlice {ty : TypeId} {x ix : Operand} {z : Nat} (hz : esS T ty = some z) : A T P ex t H L (.indexAddr ty x ix) Q = optK (t x) fun v => slK v fun b o l _ => optK (t ix) fun i => idxK i l fun i => letK (o + i * z) fun o => andK (L ≤ H.size) (Q true (.pointer (some ⟨b, o, none⟩)) H) := by
 show (match still (aIndexAddr T t H ty x ix) with
  | some (b, v, H', m) => L ≤ m ∧ Q b v H'
  | none => False) = _
 unfold esS inS at hz
 unfold aIndexAddr
 cases hu : T.und ty with
 | none => rw [hu] at hz; cases hz
 | some d =>
  cases d with
  | slice el =>
   rw [hu] at hz
   simp only at hz
   cases hi : T.inf el with
   | none => rw [hi] at hz; cases hz
   | some i =>
    rw [hi] at hz
    cases hz
    cases t x with
    | none => rfl
    | some v =>
     cases v with
     | slice a l c =>
      cases a with
      | none => cases t ix with
       | none => rfl
       | some w => cases w <;> rfl
      | some a =>
       cases t ix with
       | none => rfl
       | some w =>
        cases w with
        | int k m =>
         simp only [optK,slK,idxK,hi]
         by_cases h : 0 ≤ m ∧ m < l
         ·simp [h.1, h.2, still, letK, andK]
         ·have : (decide (0 ≤ m) && decide (m < (l : Int))) = false := by simpa using h
          simp only [this,cond_false,still,h,false_and]
        | _ => rfl
     | pointer a =>
      cases a with
      | none => cases t ix with
       | none => rfl
       | some w => cases w <;> rfl
      | some a => cases t ix with
       | none => rfl
       | some w => cases w <;> rfl
     | _ => cases t ix with
       | none => rfl
       | some w => cases w <;> rfl
  | _ => rw [hu] at hz; cases hz
def nilV (T : Tab) (op : BinOp) (ty : TypeId) (a b : Value) : Option Value := match op, a, b, T.und ty with
 | .eql, .slice p _ _, .slice q _ _, some (.slice _) => bif p.isNone || q.isNone then some (.bool (p.isNone && q.isNone)) else none
 | .neq, .slice p _ _, .slice q _ _, some (.slice _) => bif p.isNone || q.isNone then some (.bool !(p.isNone && q.isNone)) else none
 | _, _, _, _ => none
def binV (T : Tab) (P : Program) (op : BinOp) (ty : TypeId) (x y : Operand) (a b : Value) : Option Value :=
 match aEqV P op ty (some a) (some b) with
 | some v => some v
 | none => match (bif gr a && gr b then (match pureRun P (do eqGuard op ty x y a b; binOp op ty a b) with
  | some v => bif gr v then some v else none
  | none => none) else none) with
  | some v => some v
  | none => nilV T op ty a b
theorem zaw {op : BinOp} {ty yt : TypeId} {x y : Operand} : A T P ex t H L (.binOp op ty x y yt) Q = optK (t x) fun a => optK (t y) fun b => optK (binV T P op ty x y a b) fun v => andK (L ≤ H.size) (Q true v H) := by
 show (match still (orElse (aBin2 P t H op ty x y) (aNil T t H op ty x y)) with
  | some (b, v, H', m) => L ≤ m ∧ Q b v H'
  | none => False) = _
 have hn : ∀ a b, t x = some a → t y = some b → aNil T t H op ty x y = match nilV T op ty a b with
  | some v => some (v, H, H.size)
  | none => none := by
  intro a b ha hb
  unfold aNil nilV
  rw [ha, hb]
  cases op <;> first | rfl | skip
  all_goals
   cases a <;> first | rfl | skip
   cases b <;> first | rfl | skip
   cases T.und ty with
   | none => rfl
   | some d =>
    cases d <;> first | rfl | skip
    rename_i p _ _ q _ _ _
    cases p <;> cases q <;> rfl
 cases hx : t x with
 | none =>
  have h1 : aBin2 P t H op ty x y = none := by unfold aBin2; rw [hx, aEqV_none_l]; simp only; unfold aBin20 allGr; rw [hx]; rfl
  have h2 : aNil T t H op ty x y = none := by unfold aNil; rw [hx]; cases op <;> rfl
  rw [h1, h2]; rfl
 | some a =>
  cases hy : t y with
  | none =>
   have h1 : aBin2 P t H op ty x y = none := by unfold aBin2; rw [hy, aEqV_none_r]; simp only; unfold aBin20; rw [allGr_two (.inr hy)]; rfl
   have h2 : aNil T t H op ty x y = none := by unfold aNil; rw [hx, hy]; cases op <;> first | rfl | (cases a <;> rfl)
   rw [h1, h2]; rfl
  | some b =>
   rw [hn a b hx hy]
   have hg : allGr t [x, y] = (gr a && gr b) := by simp [allGr, hx, hy]
   have e1 : aρ t x = a := by simp [aρ, hx]
   have e2 : aρ t y = b := by simp [aρ, hy]
   unfold aBin2
   rw [hx, hy]
   simp only [optK,binV]
   cases aEqV P op ty (some a) (some b) with
   | some v => rfl
   | none =>
   simp only
   unfold aBin20 aPureOf
   rw [hg, e1, e2]
   cases gr a && gr b
   ·simp only [cond_false,orElse]
    cases nilV T op ty a b <;> rfl
   ·simp only [cond_true]
    cases pureRun P (do eqGuard op ty x y a b; binOp op ty a b) with
    | none => simp only [orElse]; cases nilV T op ty a b <;> rfl
    | some v =>
     simp only
     cases gr v
     ·simp only [cond_false,orElse]; cases nilV T op ty a b <;> rfl
     ·rfl
def w64 (n : Int) : Int := IntKind.wrap .i64 n
theorem w64_of {n : Int} (h : -9223372036854775808 ≤ n ∧ n < 9223372036854775808) : w64 n = n := wrap_fits h.1 h.2
section
variable {ty : TypeId} {x y : Operand} {a b : Int}
theorem zcd : binV T P .add ty x y (.int .i64 a) (.int .i64 b) = some (.int .i64 (w64 (a + b))) := nr rfl
theorem zce : binV T P .sub ty x y (.int .i64 a) (.int .i64 b) = some (.int .i64 (w64 (a - b))) := nr rfl
theorem zcf : binV T P .mul ty x y (.int .i64 a) (.int .i64 b) = some (.int .i64 (w64 (a * b))) := nr rfl
theorem zcg : binV T P .eql ty x y (.int .i64 a) (.int .i64 b) = some (.bool (decide (a = b))) := nr rfl
theorem zch : binV T P .neq ty x y (.int .i64 a) (.int .i64 b) = some (.bool (!decide (a = b))) := nr rfl
theorem zci : binV T P .lss ty x y (.int .i64 a) (.int .i64 b) = some (.bool (decide (a < b))) := nr rfl
theorem zcj : binV T P .leq ty x y (.int .i64 a) (.int .i64 b) = some (.bool (decide (a ≤ b))) := nr rfl
theorem zck : binV T P .gtr ty x y (.int .i64 a) (.int .i64 b) = some (.bool (decide (b < a))) := nr rfl
theorem zcl : binV T P .geq ty x y (.int .i64 a) (.int .i64 b) = some (.bool (decide (b ≤ a))) := nr rfl
end
def resK (q : Res) (L : Nat) (Q : Bool → Value → AHeap → Prop) (_ : Tag Q := .mk) : Prop := match q with
 | some (b, v, H', m) => L ≤ m ∧ Q b v H'
 | none => False
theorem zcm {b : Bool} {v : Value} {H' : AHeap} {m L : Nat} {Q : Bool → Value → AHeap → Prop} : resK (some (b, v, H', m)) L Q = andK (L ≤ m) (Q b v H') := nr rfl
def calK (v : Value) (F : FuncId → List Value → List Value → Prop) (Y : Nat → List Value → Prop) (_ : Tag (F, Y) := .mk) : Prop := match v with
 | .func (.func f) a b => F f a.toList b.toList
 | .func (.yield l) a _ => Y l a.toList
 | _ => False
theorem zcn {f : FuncId} {a b : List Value} {F : FuncId → List Value → List Value → Prop} {Y : Nat → List Value → Prop} : calK (.func (.func f) ⟨a⟩ ⟨b⟩) F Y = F f a b := nr rfl
theorem zax {f : Operand} {args : List Operand} {tys : Array TypeId} : A T P ex t H L (.call ⟨.value f, args.toArray, tys⟩) Q = optK (t f) fun v => calK v
  (fun g a b => optK (avals t args) fun vs => letK (a ++ vs ++ b) fun vs => resK (acall T ex g vs H) L Q)
  (fun l a => optK (avals t args) fun vs => resK (ayield ex l (a ++ vs) H) L Q) := by
 show (match (match acallee t f args.toArray with
   | some (.func g, vs, cap) => acall T ex g (vs ++ cap) H
   | some (.yield l, vs, _) => ayield ex l vs H
   | _ => none) with
  | some (b, v, H', m) => L ≤ m ∧ Q b v H'
  | none => False) = _
 unfold acallee
 cases t f with
 | none => rfl
 | some v =>
  cases v with
  | func fn a b =>
   simp only
   cases avals t args with
   | none => cases fn <;> rfl
   | some vs => cases fn <;> rfl
  | _ => rfl
theorem zco : avals t [] = some [] := nr rfl
def consO (v : Option Value) (l : Option (List Value)) : Option (List Value) := match v, l with
 | some v, some l => some (v :: l)
 | _, _ => none
theorem zcq (v : Value) (l : List Value) : consO (some v) (some l) = some (v :: l) := nr rfl
theorem zcp {x : Operand} {l : List Operand} : avals t (x :: l) = consO (t x) (avals t l) := by
 simp only [avals,consO]
 cases t x <;> cases avals t l <;> rfl
def resV (T : Tab) (n : Nat) (e : VT) (H : AHeap) (rs : List ResultVar) : Option Value := match aresG T (gt n e) H rs with
 | some [v] => some v
 | some vs => some (.tuple vs.toArray)
 | none => none
theorem zcr {i : Nat} : resV T n e H [.tmp i] = some (gt n e i) := nr rfl
theorem zcs {i j : Nat} : resV T n e H [.tmp i, .tmp j] = some (.tuple ⟨[gt n e i, gt n e j]⟩) := nr rfl
theorem zct {i j k : Nat} : resV T n e H [.tmp i, .tmp j, .tmp k] = some (.tuple ⟨[gt n e i, gt n e j, gt n e k]⟩) := nr rfl
def outK (x : Exit) (A : Prop) : Prop := match x with
 | .normal => A
 | .ret => A
 | _ => False
def retK (T : Tab) (L : Nat) (rs : List ResultVar) (R : Value → AHeap → Prop) (x : Exit) (s : ES) : Prop := outK x (s.ds = [] ∧ L ≤ s.H.size ∧ ∃ v, resV T s.n s.e s.H rs = some v ∧ R v s.H)
theorem zcu {rs : List ResultVar} {R : Value → AHeap → Prop} : retK T L rs R .ret ⟨n, e, H, []⟩ = andK (L ≤ H.size) (optK (resV T n e H rs) fun v => R v H) := by
 show (([] : List Nat) = [] ∧ L ≤ H.size ∧ ∃ v, resV T n e H rs = some v ∧ R v H) = _
 cases resV T n e H rs <;> simp [optK, andK]
theorem zcv {rs : List ResultVar} {R : Value → AHeap → Prop} : retK T L rs R .normal ⟨n, e, H, []⟩ = andK (L ≤ H.size) (optK (resV T n e H rs) fun v => R v H) := zcu (T := T)
theorem call_any {g : FuncId} {args : List Value} {fn : Func} {c : Code} {R : Value → AHeap → Prop} {rs : List ResultVar} (hm : T.memo g args H = none) (hf : T.fn g = some fn) (hb : fn.body = some c) (hr : fn.results.toList = rs) {k : Nat} (hk : args.length + (fn.ntmps - args.length) = k)
  (hw : W T P N none c L ⟨k, env args 0 .nil, H, []⟩ (retK T L rs R)) :
  ∃ v H' m, acall T (aexec T P N) g args H = quietV v H H' m ∧ L ≤ m ∧ R v H' := by
 subst hk
 unfold W at hw
 unfold acall acall0
 rw [hm, hf]
 simp only [hb,envK_eq,fNat_eq]
 cases ha : aexec T P N none c ⟨args.length + (fn.ntmps - args.length), env args 0 .nil, H, []⟩ with
 | none => rw [ha] at hw; exact hw.elim
 | some p =>
  obtain ⟨x, s, m⟩ := p
  rw [ha] at hw
  obtain ⟨h1, h2⟩ := hw
  have key : (s.ds = [] ∧ L ≤ s.H.size ∧ ∃ v, resV T s.n s.e s.H rs = some v ∧ R v s.H) → ∃ v H' m', aleave T fn H s m = quietV v H H' m' ∧ L ≤ m' ∧ R v H' := by
   rintro ⟨k1, k4, v, k2, k3⟩
   have hr' : ares T fn s.n s.e s.H = some v := by rw [← hr] at k2; exact k2
   refine ⟨v, s.H, min m s.H.size, ?_, by omega, k3⟩
   unfold aleave
   rw [k1]
   simp only [atake,hr',fV_eq,fNat_eq,minAl]
  cases x with
  | normal => exact key h2
  | ret => exact key h2
  | _ => exact h2.elim
theorem call_quiet {g : FuncId} {args : List Value} {fn : Func} {c : Code} {v : Value} {rs : List ResultVar} (hm : T.memo g args H = none) (hf : T.fn g = some fn) (hb : fn.body = some c) (hr : fn.results.toList = rs) {k : Nat} (hk : args.length + (fn.ntmps - args.length) = k)
  (hw : W T P N none c H.size ⟨k, env args 0 .nil, H, []⟩ (retK T H.size rs fun u _ => u = v)) (hg : gr v = true) :
  acall T (aexec T P N) g args H = some (true, v, H, H.size) := by
 obtain ⟨u, H', m, h1, h2, rfl⟩ := call_any hm hf hb hr hk hw
 rw [h1]
 unfold quietV
 rw [hg, show Nat.ble H.size m = true from Nat.ble_eq_true_of_le h2]; rfl
theorem call_loud {g : FuncId} {args : List Value} {fn : Func} {c : Code} {R : Value → AHeap → Prop} {rs : List ResultVar} (hm : T.memo g args H = none) (hf : T.fn g = some fn) (hb : fn.body = some c) (hr : fn.results.toList = rs) {k : Nat} (hk : args.length + (fn.ntmps - args.length) = k)
  (hw : W T P N none c L ⟨k, env args 0 .nil, H, []⟩ (retK T L rs R)) (hg : ∀ v H', R v H' → gr v = false) :
  ∃ v H' m, acall T (aexec T P N) g args H = some (false, v, H', m) ∧ L ≤ m ∧ R v H' := by
 obtain ⟨u, H', m, h1, h2, h3⟩ := call_any hm hf hb hr hk hw
 refine ⟨u, H', m, ?_, h2, h3⟩
 rw [h1]
 unfold quietV
 rw [hg u H' h3, Bool.and_false]; rfl
theorem call_res {g : FuncId} {args : List Value} {fn : Func} {c : Code} {v₀ : Value} {H₀ : AHeap} {rs : List ResultVar} {Q : Bool → Value → AHeap → Prop} (hm : T.memo g args H = none) (hf : T.fn g = some fn) (hb : fn.body = some c) (hr : fn.results.toList = rs) {k : Nat} (hk : args.length + (fn.ntmps - args.length) = k)
  (hw : W T P N none c H.size ⟨k, env args 0 .nil, H, []⟩ (retK T H.size rs fun v H' => v = v₀ ∧ H' = H₀)) (hg : gr v₀ = false) (hL : L ≤ H.size) :
  resK (acall T (aexec T P N) g args H) L Q = Q false v₀ H₀ := by
 obtain ⟨v, H', m, h1, h2, rfl, rfl⟩ := call_loud hm hf hb hr hk hw (fun v H' h => by rw [h.1]; exact hg)
 rw [h1]
 show (L ≤ m ∧ Q false v H') = _
 exact propext ⟨fun h => h.2, fun h => ⟨by omega, h⟩⟩
theorem call_some {g : FuncId} {args : List Value} {fn : Func} {c : Code} {R : Value → AHeap → Prop} {rs : List ResultVar} {Q : Bool → Value → AHeap → Prop} (hm : T.memo g args H = none) (hf : T.fn g = some fn) (hb : fn.body = some c) (hr : fn.results.toList = rs) {k : Nat} (hk : args.length + (fn.ntmps - args.length) = k) (hL : L ≤ H.size)
  (hw : W T P N none c H.size ⟨k, env args 0 .nil, H, []⟩ (retK T H.size rs R)) (hq : ∀ v H', R v H' → Q false v H') (hq' : ∀ v H', R v H' → gr v = true → Q true v H) :
  resK (acall T (aexec T P N) g args H) L Q := by
 obtain ⟨v, H', m, h1, h2, h3⟩ := call_any hm hf hb hr hk hw
 rw [h1]
 unfold quietV
 cases hg : gr v
 ·rw [Bool.and_false]
  exact ⟨by omega, hq v H' h3⟩
 ·rw [show Nat.ble H.size m = true from Nat.ble_eq_true_of_le h2]
  exact ⟨hL, hq' v H' h3 hg⟩
theorem call_fls {g : FuncId} {args : List Value} {fn : Func} {c : Code} {R : Value → AHeap → Prop} {rs : List ResultVar} {Q : Bool → Value → AHeap → Prop} (hm : T.memo g args H = none) (hf : T.fn g = some fn) (hb : fn.body = some c) (hr : fn.results.toList = rs) {k : Nat} (hk : args.length + (fn.ntmps - args.length) = k) (hL : L ≤ H.size)
  (hw : W T P N none c H.size ⟨k, env args 0 .nil, H, []⟩ (retK T H.size rs R)) (hg : ∀ v H', R v H' → gr v = false) (hq : ∀ v H', R v H' → Q false v H') :
  resK (acall T (aexec T P N) g args H) L Q :=
 call_some hm hf hb hr hk hL hw hq fun v H' h hg' => by rw [hg v H' h] at hg'; cases hg'
theorem zab {i : Nat} : env [] i e = e := nr rfl
theorem zaa {i : Nat} {v : Value} {l : List Value} : env (v :: l) i e = env l (i + 1) (e.put (some i) v) := nr rfl
def loopK (n : Nat) (ds : List Nat) (I : Nat → VT → AHeap → Prop) (k : Nat) (Q : Exit → ES → Prop) (x : Exit) (s : ES) : Prop := match x with
 | .normal => s.n = n ∧ s.ds = ds ∧ ∃ k', k' < k ∧ I k' s.e s.H
 | x => Q x s
def nextK (I : Nat → VT → AHeap → Prop) (k : Nat) (e : VT) (H : AHeap) (_ : Tag I := .mk) : Prop := ∃ k', k' < k ∧ I k' e H
theorem zcw {I : Nat → VT → AHeap → Prop} {k : Nat} {Q : Exit → ES → Prop} : loopK n ds I k Q .normal ⟨n, e, H, ds⟩ = nextK I k e H := by simp [loopK, nextK]
theorem zcx {I : Nat → VT → AHeap → Prop} {k : Nat} {Q : Exit → ES → Prop} {s : ES} : loopK n ds I k Q .ret s = Q .ret s := nr rfl
theorem zcy {I : Nat → VT → AHeap → Prop} {k i : Nat} {Q : Exit → ES → Prop} {s : ES} : loopK n ds I k Q (.exit i) s = Q (.exit i) s := nr rfl
theorem W_while0 {b : Code} {Q : Exit → ES → Prop} (F : Nat) (I : Nat → VT → AHeap → Prop)
  (hb : ∀ N k e H, I k e H → W T P (N + F) r b L ⟨n, e, H, ds⟩ (loopK n ds I k Q)) : ∀ K k N e H, I k e H → k ≤ K → W T P (N + (F + K) + 1) r (.loop b) L ⟨n, e, H, ds⟩ Q := by
 intro K
 induction K with
 | zero =>
  intro k N e H hi hk
  rw [W_loop]
  refine W_mono (hb N k e H hi) ?_
  intro x s hx
  cases x with
  | normal => obtain ⟨_, _, k', h, _⟩ := hx; omega
  | _ => exact hx
 | succ K ih =>
  intro k N e H hi hk
  rw [W_loop]
  refine W_mono (show W T P (N + (F + (K + 1))) r b L ⟨n, e, H, ds⟩ (loopK n ds I k Q) from by
   have := hb (N + (K + 1)) k e H hi
   rwa [show N + (K + 1) + F = N + (F + (K + 1)) by omega] at this) ?_
  intro x s hx
  cases x with
  | normal =>
   obtain ⟨h1, h2, k', h3, h4⟩ := hx
   obtain ⟨n', e', H', ds'⟩ := s
   simp only at h1 h2 h4
   subst h1 h2
   exact ih k' N e' H' h4 (by omega)
  | _ => exact hx
theorem W_while {b : Code} {Q : Exit → ES → Prop} (F : Nat) (I : Nat → VT → AHeap → Prop)
  (hb : ∀ N k e H, I k e H → W T P (N + F) r b L ⟨n, e, H, ds⟩ (loopK n ds I k Q)) (K k : Nat) {M : Nat} {e : VT} {H : AHeap} (hi : I k e H) (hk : k ≤ K) (hM : F + K + 1 ≤ M) : W T P M r (.loop b) L ⟨n, e, H, ds⟩ Q := by
 have := W_while0 F I hb K k (M - (F + K + 1)) e H hi hk
 rwa [show M - (F + K + 1) + (F + K) + 1 = M by omega] at this
theorem zcz {H : AHeap} {b : ABlk} : (H.alloc b).get H.size = b := AHeap.get_alloc_same H b
theorem zda {H : AHeap} {b : ABlk} {k : Nat} (h : k = H.size) : (H.alloc b).get k = b := by subst h; exact AHeap.get_alloc_same H b
theorem zdb {H : AHeap} {b : ABlk} {k : Nat} (h : k < H.size) : (H.alloc b).get k = H.get k := AHeap.get_alloc_other H b (by omega)
theorem zdc {H : AHeap} {b : ABlk} {k : Nat} (h : k < H.size) : (H.put k b).get k = b := AHeap.get_put_same H b h
theorem zdd {H : AHeap} {b : ABlk} {k j : Nat} (h : j ≠ k) : (H.put k b).get j = H.get j := AHeap.get_put_other H b h
theorem get_kill {H : AHeap} {l : List Nat} {j : Nat} (h : j ∉ l) : (H.kill l).get j = H.get j := by rw [AHeap.get_kill, if_neg h]
theorem zdg {H : AHeap} {l : List Nat} : (H.kill l).size = H.size := AHeap.size_kill l H
theorem le_minAl {b m : Nat} : ∀ {l : List Nat}, m ≤ b → (∀ j ∈ l, m ≤ j) → m ≤ minAl b l
 | [], h, _ => h
 | x :: l, h, k => by
  have h1 := k x (by simp)
  have h2 := le_minAl h (fun j hj => k j (List.mem_cons_of_mem _ hj))
  show m ≤ min x (minAl b l)
  omega
theorem zde {H : AHeap} {b : ABlk} : (H.alloc b).size = H.size + 1 := AHeap.size_alloc H b
theorem zdf {H : AHeap} {b : ABlk} {k : Nat} : (H.put k b).size = H.size := AHeap.size_put H k b
theorem zdh {c : List Value} {ty : TypeId} {o : Bool} {al : List Nat} : cellsOf (.rw c ty o al) = some c := nr rfl
theorem zdi {c : List Value} : cellsOf (.ro c) = some c := nr rfl
theorem zdj {c : List Value} {o : Nat} : part c o 0 = c[o]? := nr rfl
theorem part_all {c : List Value} {s : Nat} (h : c.length = s) : part c 0 (s + 1) = some (.agg ⟨c⟩) := by
 unfold part
 simp only [List.drop_zero,← h,List.take_length]
 rw [show Nat.beq c.length c.length = true from by simp]; rfl
theorem zdk {a0 a1 : Value} : part [a0, a1] 0 3 = some (.agg ⟨[a0, a1]⟩) := nr rfl
theorem zdl {a0 a1 a2 : Value} : part [a0, a1, a2] 0 4 = some (.agg ⟨[a0, a1, a2]⟩) := nr rfl
theorem zdm {a0 a1 a2 a3 : Value} : part [a0, a1, a2, a3] 0 5 = some (.agg ⟨[a0, a1, a2, a3]⟩) := nr rfl
theorem zdn {a0 a1 a2 a3 a4 : Value} : part [a0, a1, a2, a3, a4] 0 6 = some (.agg ⟨[a0, a1, a2, a3, a4]⟩) := nr rfl
theorem zdo {a0 a1 a2 a3 a4 a5 : Value} : part [a0, a1, a2, a3, a4, a5] 0 7 = some (.agg ⟨[a0, a1, a2, a3, a4, a5]⟩) := nr rfl
theorem zdp {a0 a1 a2 a3 a4 a5 a6 : Value} : part [a0, a1, a2, a3, a4, a5, a6] 0 8 = some (.agg ⟨[a0, a1, a2, a3, a4, a5, a6]⟩) := nr rfl
theorem zdq {a0 a1 a2 a3 a4 a5 a6 a7 : Value} : part [a0, a1, a2, a3, a4, a5, a6, a7] 0 9 = some (.agg ⟨[a0, a1, a2, a3, a4, a5, a6, a7]⟩) := nr rfl
theorem zdr {a0 a1 a2 a3 a4 a5 a6 a7 a8 : Value} : part [a0, a1, a2, a3, a4, a5, a6, a7, a8] 0 10 = some (.agg ⟨[a0, a1, a2, a3, a4, a5, a6, a7, a8]⟩) := nr rfl
theorem zds {c : List Value} : (Value.agg ⟨c⟩).cells.toList = c := nr rfl
theorem zdt {k : IntKind} {i : Int} : (Value.int k i).cells.toList = [.int k i] := nr rfl
theorem zdu {b : Bool} : (Value.bool b).cells.toList = [.bool b] := nr rfl
theorem zdv {a : Option Addr} {l c : Nat} : (Value.slice a l c).cells.toList = [.slice a l c] := nr rfl
theorem zdw {a : Option Addr} : (Value.pointer a).cells.toList = [.pointer a] := nr rfl
theorem zdx {f : Fn} {a b : Array Value} : (Value.func f a b).cells.toList = [.func f a b] := nr rfl
theorem zdy {a : Nat} : Nat.beq a a = true := by simp
def lenV (T : Tab) (H : AHeap) (ty : TypeId) (v : Value) : Option Value := match v, T.und ty with
 | .slice _ n _, some (.slice _) => some (.int .i64 n)
 | .chan _, some (.slice _) => some (.int .i64 0)
 | .string s, some .string => some (.int .i64 s.size)
 | .map none, some (.map _ _) => some (.int .i64 0)
 | .map (some k), some (.map _ _) => match H.get k with
  | .map es _ => some (.int .i64 es.length)
  | _ => none
 | _, _ => none
theorem zdz {ty : TypeId} {tys : List TypeId} {x : Operand} : A T P ex t H L (.call ⟨.builtin .len, [x].toArray, (ty :: tys).toArray⟩) Q = optK (t x) fun v => optK (lenV T H ty v) fun v => andK (L ≤ H.size) (Q true v H) := by
 show (match lenRes H (aLen T t H (ty :: tys).toArray [x].toArray) with
  | some (b, v, H', m) => L ≤ m ∧ Q b v H'
  | none => False) = _
 have : aLen T t H (ty :: tys).toArray [x].toArray = (match t x with
   | some v => lenV T H ty v
   | none => none) := by
  unfold aLen lenV
  simp only
  cases t x with
  | none => rfl
  | some v =>
   simp only
   cases hu : T.und ty with
   | none => cases v with
    | map q => cases q <;> rfl
    | _ => rfl
   | some d => cases v with
    | map q => cases q <;> cases d <;> rfl
    | _ => cases d <;> rfl
 rw [this]
 cases t x with
 | none => rfl
 | some v =>
  simp only [optK]
  cases lenV T H ty v <;> rfl
theorem lenV_slice {ty : TypeId} {a : Option Addr} {l c z : Nat} (h : esS T ty = some z) : lenV T H ty (.slice a l c) = some (.int .i64 l) := by
 unfold esS at h
 unfold lenV
 cases hu : T.und ty with
 | none => rw [hu] at h; cases h
 | some d => cases d <;> first | rfl | (rw [hu] at h; cases h)
theorem zef : oneCells [] = true := nr rfl
theorem zeg {k : IntKind} {i : Int} {l : List Value} : oneCells (.int k i :: l) = oneCells l := nr rfl
theorem zeh {b : Bool} {l : List Value} : oneCells (.bool b :: l) = oneCells l := nr rfl
theorem zei {a : Option Addr} {x c : Nat} {l : List Value} : oneCells (.slice a x c :: l) = oneCells l := nr rfl
theorem zej {a : Option Addr} {l : List Value} : oneCells (.pointer a :: l) = oneCells l := nr rfl
theorem zek {f : Fn} {a b : Array Value} {l : List Value} : oneCells (.func f a b :: l) = oneCells l := nr rfl
theorem zel {l : List Value} : oneCells (.nilFunc :: l) = oneCells l := nr rfl
section
variable {ex : Exec} {t : Operand → Option Value} {Q : Bool → Value → AHeap → Prop}
theorem zem {f : FuncId} {a b : List Operand} : A T P ex t H L (.makeFunc (.func f) a.toArray b.toArray) Q = optK (avals t a) fun a => optK (avals t b) fun b => andK (L ≤ H.size) (Q true (.func (.func f) ⟨a⟩ ⟨b⟩) H) := by
 show (match still (aMakeFunc t H (.func f) a.toArray b.toArray) with
  | some (b, v, H', m) => L ≤ m ∧ Q b v H'
  | none => False) = _
 unfold aMakeFunc
 simp only
 cases avals t a <;> cases avals t b <;> rfl
def unV (P : Program) (op : UnOp) (v : Value) : Option Value := bif gr v then (match pureRun P (Op.unary op v) with
 | some v => bif gr v then some v else none
 | none => none) else none
theorem zen {op : UnOp} {ty : TypeId} {x : Operand} : A T P ex t H L (.unOp op ty x) Q = optK (t x) fun v => optK (unV P op v) fun v => andK (L ≤ H.size) (Q true v H) := by
 show (match still (aUn P t H op x) with
  | some (b, v, H', m) => L ≤ m ∧ Q b v H'
  | none => False) = _
 unfold aUn aPureOf aρ
 cases hx : t x with
 | none =>
  rw [show allGr t [x] = false by simp [allGr, hx]]; rfl
 | some v =>
  rw [show allGr t [x] = gr v by simp [allGr, hx]]
  simp only [optK,unV,Option.getD_some]
  cases gr v
  ·rfl
  ·simp only [cond_true]
   cases pureRun P (Op.unary op v) with
   | none => rfl
   | some u => simp only; cases gr u <;> rfl
theorem zeo {b : Bool} : unV P .not (.bool b) = some (.bool (!b)) := nr rfl
def fill1 (o : Option (Nat × Nat)) (vs c : List Value) : Option (List Value) := match o with
 | some (off, size) => bif vs.length == size && decide (off + vs.length ≤ c.length) then some (zee off vs c) else none
 | none => none
theorem zep {o z : Nat} {vs c : List Value} : fill1 (some (o, z)) vs c = bif vs.length == z && decide (o + vs.length ≤ c.length) then some (zee o vs c) else none := nr rfl
def andThen (o : Option α) (k : α → Option α) : Option α := match o with
 | some a => k a
 | none => none
theorem zeq {a : α} {k : α → Option α} : andThen (some a) k = k a := nr rfl
theorem zer {p : Nat → Option (Nat × Nat)} {c : List Value} : afill p c [] = some c := nr rfl
theorem zes {p : Nat → Option (Nat × Nat)} {c : List Value} {i : Nat} {v : Value} {l : List (Nat × Value)} : afill p c ((i, v) :: l) = andThen (fill1 (p i) v.cells.toList c) fun c => afill p c l := by
 simp only [afill,fill1]
 cases p i with
 | none => rfl
 | some q =>
  obtain ⟨off, size⟩ := q
  simp only [zee]
  have e1 : Nat.beq v.cells.toList.length size = (v.cells.toList.length == size) := by rw [Bool.eq_iff_iff]; simp
  rw [e1, ble_iff]
  cases (v.cells.toList.length == size && decide (off + v.cells.toList.length ≤ c.length)) <;> rfl
theorem zet : aparts t [] = some [] := nr rfl
def consP (i : Nat) (v : Option Value) (l : Option (List (Nat × Value))) : Option (List (Nat × Value)) := match v, l with
 | some v, some l => some ((i, v) :: l)
 | _, _ => none
theorem zev {i : Nat} {v : Value} {l : List (Nat × Value)} : consP i (some v) (some l) = some ((i, v) :: l) := nr rfl
theorem zeu {i : Nat} {x : Operand} {l : List (Nat × Operand)} : aparts t ((i, x) :: l) = consP i (t x) (aparts t l) := by
 simp only [aparts,consP]
 cases t x <;> cases aparts t l <;> rfl
theorem A_build {ty : TypeId} {ps : List (Nat × Operand)} {s : List Value × List (Nat × Nat)} (hs : bdS T ty = some s) : A T P ex t H L (.build ty ps.toArray) Q = optK (aparts t ps) fun l => optK (afill (fun i => s.2[i]?) s.1 l) fun c => andK (L ≤ H.size) (Q true (.agg ⟨c⟩) H) := by
 show (match still (aBuild T t H ty ps.toArray) with
  | some (b, v, H', m) => L ≤ m ∧ Q b v H'
  | none => False) = _
 unfold bdS at hs
 unfold aBuild
 simp only
 cases hi : T.inf ty with
 | none => rw [hi] at hs; cases hs
 | some i =>
  rw [hi] at hs
  simp only at hs
  cases hz : i.zero with
  | none => rw [hz] at hs; cases hs
  | some z =>
   rw [hz] at hs
   simp only at hs
   cases hg : gr z
   ·rw [hg] at hs; cases hs
   ·rw [hg, cond_true] at hs
    cases hu : T.und ty with
    | none => rw [hu] at hs; cases hs
    | some d =>
     rw [hu] at hs
     cases d with
     | struct fs =>
      simp only at hs
      cases hp : aplaces T fs.toList with
      | none => rw [hp] at hs; cases hs
      | some pl =>
       rw [hp] at hs
       have hs' : s = (z.cells.toList, pl) := by
        simp only [fVs_eq] at hs
        have : fList (fun (p : Nat × Nat) (k : Nat × Nat → Option (List Value × List (Nat × Nat))) => fNat p.1 fun a => fNat p.2 fun b => k (a, b)) pl (fun pl => some (z.cells.toList, pl)) = some (z.cells.toList, pl) := fList_eq (fun x k => by simp) pl _
        rw [this] at hs
        cases hs; rfl
       subst hs'
       cases aparts t ps with
       | none => rfl
       | some l =>
        simp only [optK,hp,hg,cond_true,hz]
        cases afill (fun i => pl[i]?) z.cells.toList l <;> rfl
     | _ => cases hs
def brS (T : Tab) (ty : TypeId) (len : Nat) : Option (Nat × TypeId × List Value) := match T.und ty with
 | some (.slice e) => match T.inf e with
  | some i => bif Nat.beq (len * i.size) 0 && Nat.blt len OPEN then some (i.size, e, []) else match i.zero with
   | some z => bif Nat.ble (len * i.size) 16777216 && Nat.blt len OPEN && Nat.blt 0 (len * i.size) && allGrV (madeCells z.cells (len * i.size)).toList then some (i.size, e, (madeCells z.cells (len * i.size)).toList) else none
   | none => none
  | none => none
 | _ => none
theorem A_buildSlice {ty : TypeId} {len : Nat} {ps : List (Nat × Operand)} {s : Nat × TypeId × List Value} (hs : brS T ty len = some s) : A T P ex t H L (.buildSlice ty len ps.toArray) Q = optK (aparts t ps) fun l => optK (afill (fun k => some (k * s.1, s.1)) s.2.2 l) fun c => andK (L ≤ H.size) (Q false (.slice (some ⟨H.size, 0, none⟩) len len) (H.alloc (.rw c s.2.1 false []))) := by
 show (match fresh H (newRow T t ty len ps.toArray) with
  | some (b, v, H', m) => L ≤ m ∧ Q b v H'
  | none => False) = _
 unfold brS at hs
 unfold newRow
 simp only
 cases hu : T.und ty with
 | none => rw [hu] at hs; cases hs
 | some d =>
  rw [hu] at hs
  cases d with
  | slice el =>
   simp only at hs
   cases hi : T.inf el with
   | none => rw [hi] at hs; cases hs
   | some i =>
    rw [hi] at hs
    simp only at hs
    cases aparts t ps with
    | none => rfl
    | some l =>
     simp only [optK,hi]
     cases h0 : (Nat.beq (len * i.size) 0 && Nat.blt len OPEN)
     ·rw [h0, cond_false] at hs
      cases hz : i.zero with
      | none => rw [hz] at hs; cases hs
      | some z =>
       rw [hz] at hs
       simp only at hs
       cases h1 : (Nat.ble (len * i.size) 16777216 && Nat.blt len OPEN && Nat.blt 0 (len * i.size) && allGrV (madeCells z.cells (len * i.size)).toList)
       ·rw [h1] at hs; cases hs
       ·rw [h1, cond_true] at hs
        cases hs
        simp only [cond_false,cond_true,h1]
        cases afill (fun k => some (k * i.size, i.size)) (madeCells z.cells (len * i.size)).toList l <;> rfl
     ·rw [h0, cond_true] at hs
      cases hs
      simp only [cond_true]
      cases afill (fun k => some (k * i.size, i.size)) [] l <;> rfl
  | _ => cases hs
def apV (T : Tab) (H : AHeap) (ty : TypeId) (s x : Value) : Option (Value × AHeap × Nat) := aAppend T (fun o => match o with
 | .tmp 0 => some s
 | _ => some x) H #[ty, ty] #[.tmp 0, .tmp 1]
def apK (T : Tab) (H : AHeap) (ty : TypeId) (s x : Value) (L : Nat) (Q : Bool → Value → AHeap → Prop) (_ : Tag Q := .mk) : Prop := match apV T H ty s x with
 | some (v, H', m) => L ≤ m ∧ Q false v H'
 | none => False
theorem zew {ty : TypeId} {s x : Operand} : A T P ex t H L (.call ⟨.builtin .append, [s, x].toArray, [ty, ty].toArray⟩) Q = optK (t s) fun s => optK (t x) fun x => apK T H ty s x L Q := by
 show (match moves (aAppend T t H [ty, ty].toArray [s, x].toArray) with
  | some (b, v, H', m) => L ≤ m ∧ Q b v H'
  | none => False) = _
 have e : Nat.beq ty ty = true := by simp
 cases hs : t s with
 | none =>
  have : aAppend T t H [ty, ty].toArray [s, x].toArray = none := by
   unfold aAppend
   simp only [e,cond_true,hs]
   cases T.und ty with
   | none => rfl
   | some d => cases d <;> rfl
  rw [this]; rfl
 | some sv =>
  cases hx : t x with
  | none =>
   have : aAppend T t H [ty, ty].toArray [s, x].toArray = none := by
    unfold aAppend
    simp only [e,cond_true,hs,hx]
    cases T.und ty with
    | none => rfl
    | some d => cases d <;> first | rfl | (cases sv <;> rfl)
   rw [this]; rfl
  | some xv =>
   have : aAppend T t H [ty, ty].toArray [s, x].toArray = apV T H ty sv xv := by
    unfold apV aAppend
    simp only [e,cond_true,hs,hx]
   rw [this]
   simp only [optK,apK]
   cases apV T H ty sv xv <;> rfl
def apS (T : Tab) (ty : TypeId) : Option (TypeId × Nat × Nat) := match T.und ty with
 | some (.slice e) => match T.inf e with
  | some i => match i.zero with
   | some z => bif Nat.blt 0 i.size && Nat.beq z.cells.size i.size then some (e, i.size, i.bytes) else none
   | none => none
  | none => none
 | _ => none
theorem apK_nil {ty el : TypeId} {z by' b o n c : Nat} {s : Option Nat} {news : List Value} {L : Nat} (hs : apS T ty = some (el, z, by')) (hx : srcCells H ⟨b, o, s⟩ (n * z) = some news) (h0 : 0 < n) (hb : n * by' ≤ 140737488355328) (hn : n ≤ 9223372036854775807) (h1 : oneCells news = true) :
  apK T H ty (.slice none 0 0) (.slice (some ⟨b, o, s⟩) n c) L Q = andK (L ≤ H.size) (Q false (.slice (some ⟨H.size, 0, none⟩) n (OPEN + z)) (H.alloc (.rw news el true []))) := by
 unfold apS at hs
 unfold apK apV aAppend
 cases hu : T.und ty with
 | none => rw [hu] at hs; cases hs
 | some d =>
  rw [hu] at hs
  cases d with
  | slice e =>
   simp only at hs
   cases hi : T.inf e with
   | none => rw [hi] at hs; cases hs
   | some i =>
    rw [hi] at hs
    simp only at hs
    cases hz : i.zero with
    | none => rw [hz] at hs; cases hs
    | some zz =>
     rw [hz] at hs
     simp only at hs
     cases hq : (Nat.blt 0 i.size && Nat.beq zz.cells.size i.size)
     ·rw [hq] at hs; cases hs
     ·rw [hq, cond_true] at hs
      cases hs
      have e1 : Nat.beq n 0 = false := beq_ne (by omega)
      have e2 : Nat.ble (0 + n) 9223372036854775807 = true := Nat.ble_eq_true_of_le (by omega)
      have e3 : Nat.ble ((0 + n) * i.bytes) 140737488355328 = true := Nat.ble_eq_true_of_le (by rw [Nat.zero_add]; exact hb)
      simp only [show Nat.beq ty ty = true by simp,hu,cond_true,hi,e1,cond_false,hx,hz,hq,e2,e3,h1,Bool.and_self,show Nat.beq 0 0 = true from rfl]; rfl
  | _ => cases hs
theorem apK_empty {ty el : TypeId} {z by' b o n c b₀ o₀ : Nat} {s s₀ : Option Nat} {news c₀ : List Value} {L : Nat} (hs : apS T ty = some (el, z, by')) (hx : srcCells H ⟨b, o, s⟩ (n * z) = some news) (h0 : 0 < n) (hb : n * by' ≤ 140737488355328) (hn : n ≤ 9223372036854775807) (h1 : oneCells news = true) (hc : cellsOf (H.get b₀) = some c₀) :
  apK T H ty (.slice (some ⟨b₀, o₀, s₀⟩) 0 0) (.slice (some ⟨b, o, s⟩) n c) L Q = andK (L ≤ H.size) (Q false (.slice (some ⟨H.size, 0, none⟩) n (OPEN + z)) (H.alloc (.rw news el true []))) := by
 have hq0 : srcCells H ⟨b₀, o₀, s₀⟩ (0 * z) = some [] := by
  unfold srcCells
  rw [hc, Nat.zero_mul]; rfl
 unfold apS at hs
 unfold apK apV aAppend
 cases hu : T.und ty with
 | none => rw [hu] at hs; cases hs
 | some d =>
  rw [hu] at hs
  cases d with
  | slice e =>
   simp only at hs
   cases hi : T.inf e with
   | none => rw [hi] at hs; cases hs
   | some i =>
    rw [hi] at hs
    simp only at hs
    cases hz : i.zero with
    | none => rw [hz] at hs; cases hs
    | some zz =>
     rw [hz] at hs
     simp only at hs
     cases hq : (Nat.blt 0 i.size && Nat.beq zz.cells.size i.size)
     ·rw [hq] at hs; cases hs
     ·rw [hq, cond_true] at hs
      cases hs
      have e1 : Nat.beq n 0 = false := beq_ne (by omega)
      have e2 : Nat.ble n 9223372036854775807 = true := Nat.ble_eq_true_of_le (by omega)
      have e3 : Nat.ble (n * i.bytes) 140737488355328 = true := Nat.ble_eq_true_of_le hb
      have e4 : Nat.blt 0 OPEN = true := rfl
      have e5 : Nat.ble n 0 = false := by rw [ble_iff]; simp; omega
      simp only [show Nat.beq ty ty = true by simp,hu,cond_true,hi,e1,cond_false,hx,hz,hq,e2,e3,h1,Bool.and_self,e4,e5,hq0,List.nil_append,Nat.zero_add]; rfl
  | _ => cases hs
theorem apK_more {ty el : TypeId} {z by' b o k l n b₀ : Nat} {s s₀ : Option Nat} {news c : List Value} {al : List Nat} {L : Nat} {cap : Nat} (hs : apS T ty = some (el, z, by')) (hx : srcCells H ⟨b, o, s⟩ (n * z) = some news) (h0 : 0 < n) (hb : (l + n) * by' ≤ 140737488355328) (hn : l + n ≤ 9223372036854775807) (h1 : oneCells news = true)
  (hg : H.get b₀ = .rw c el true al) (hc : c.length = l * z) (hk : k = OPEN + z) :
  apK T H ty (.slice (some ⟨b₀, 0, s₀⟩) l k) (.slice (some ⟨b, o, s⟩) n cap) L Q = andK (L ≤ minAl b₀ al) (Q false (.slice (some ⟨H.size, 0, none⟩) (l + n) (OPEN + z)) (((H.kill al).put b₀ (.ro c)).alloc (.rw (c ++ news) el true [b₀]))) := by
 subst hk
 unfold apS at hs
 unfold apK apV aAppend
 cases hu : T.und ty with
 | none => rw [hu] at hs; cases hs
 | some d =>
  rw [hu] at hs
  cases d with
  | slice e =>
   simp only at hs
   cases hi : T.inf e with
   | none => rw [hi] at hs; cases hs
   | some i =>
    rw [hi] at hs
    simp only at hs
    cases hz : i.zero with
    | none => rw [hz] at hs; cases hs
    | some zz =>
     rw [hz] at hs
     simp only at hs
     cases hq : (Nat.blt 0 i.size && Nat.beq zz.cells.size i.size)
     ·rw [hq] at hs; cases hs
     ·have hpos : 0 < i.size := by simp only [Bool.and_eq_true] at hq; exact lt_of_blt hq.1
      rw [hq, cond_true] at hs
      cases hs
      have e1 : Nat.beq n 0 = false := beq_ne (by omega)
      have e2 : Nat.ble (l + n) 9223372036854775807 = true := Nat.ble_eq_true_of_le hn
      have e3 : Nat.ble ((l + n) * i.bytes) 140737488355328 = true := Nat.ble_eq_true_of_le hb
      have e4 : Nat.blt (OPEN + i.size) OPEN = false := blt_false (by omega)
      have e5 : Nat.ble (l + n) (known H ⟨b₀, 0, s₀⟩ l i.size (OPEN + i.size)) = false := by
       unfold known
       simp only [show Nat.beq (OPEN + i.size) (OPEN + i.size) = true by simp,cond_true,hg,hc,Nat.sub_zero,Nat.mul_div_cancel _ hpos,blt_false (Nat.lt_irrefl l),cond_false]
       rw [ble_iff]; simp; omega
      simp only [show Nat.beq ty ty = true by simp,hu,cond_true,hi,e1,cond_false,hx,hz,hq,e2,e3,h1,Bool.and_self,e4,e5,hg,hc,show ∀ x,Nat.beq x x = true from fun x => by simp,show Nat.beq 0 0 = true from rfl]; rfl
  | _ => cases hs
end
def cellO (T : Tab) (H : AHeap) (ty : TypeId) (v : Value) : Option Value := match v with
 | .pointer (some ad) => aRead T H ty ad
 | _ => none
theorem zex {i : Nat} {ty : TypeId} : resV T n e H [.cell i ty] = cellO T H ty (gt n e i) := by
 unfold resV aresG cellO aresG
 cases gt n e i <;> first | rfl | skip
 rename_i a
 cases a with
 | none => rfl
 | some ad => simp only; cases aRead T H ty ad <;> rfl
def readO (c : Option (List Value)) (o : Nat) (z : Option Nat) : Option Value := match c, z with
 | some c, some z => part c o z
 | _, _ => none
theorem zez {c : List Value} {o z : Nat} : readO (some c) o (some z) = part c o z := nr rfl
theorem zey {b o : Nat} {s : Option Nat} {ty : TypeId} : cellO T H ty (.pointer (some ⟨b, o, s⟩)) = readO (cellsOf (H.get b)) o (ldS T ty) := by
 unfold cellO readO
 simp only
 cases hr : aRead T H ty ⟨b, o, s⟩ with
 | some u =>
  obtain ⟨c, z, h1, h2, h3⟩ := aRead_eq.1 hr
  simp only at h1 h3
  rw [h1, h2]; exact h3.symm
 | none =>
  cases h1 : cellsOf (H.get b) with
  | none => rfl
  | some c =>
   cases h2 : ldS T ty with
   | none => rfl
   | some z =>
    simp only
    cases h3 : part c o z with
    | none => rfl
    | some u => rw [aRead_eq.2 ⟨c, z, h1, h2, h3⟩] at hr; cases hr
theorem wantE_guard {l₀ : List Oper} {d : Option Tmp} {op : Op} {ty : TypeId} {p : String} {af : Array Edge} {j : Nat} {w : Bool} {X Y : Prop} :
  cond (wantE l₀.toArray n e ⟨d, op, ty, p, af, some (j, w)⟩) X Y = gK (gdst l₀ j) (fun i => guardK (gt n e i) w X Y) Y := by
 have hy : ayieldE l₀.toArray n e j = match gdst l₀ j with
  | some d => bif Nat.blt d n then (match e.get d with
   | .bool b => some b
   | _ => none) else none
  | none => none := by unfold ayieldE gdst; simp only [List.getElem?_toArray]; rfl
 have hg : wantE l₀.toArray n e ⟨d, op, ty, p, af, some (j, w)⟩ = (ayieldE l₀.toArray n e j == some w) := rfl
 rw [hg, hy]
 cases gdst l₀ j with
 | none => cases w <;> rfl
 | some i =>
  simp only [gK,gt]
  cases Nat.blt i n
  ·cases w <;> rfl
  ·simp only [cond_true]
   cases e.get i with
   | bool b => cases b <;> cases w <;> simp [guardK, Split]
   | _ => cases w <;> rfl
theorem zfa {l : List Nat} {d : Nat} : maskE l n e (.tmp d) = bif memNat d l then some (gt n e d) else none := nr rfl
theorem zfb {l : List Nat} {f : FuncId} : maskE l n e (.func f) = some (.func (.func f) ⟨[]⟩ ⟨[]⟩) := nr rfl
theorem zfc {l : List Nat} {k : IntKind} {i : Int} : maskE l n e (.const (.int k i)) = some (.int k i) := nr rfl
theorem zfd {l : List Nat} {b : Bool} : maskE l n e (.const (.bool b)) = some (.bool b) := nr rfl
theorem zfe {d : Nat} : memNat d [] = false := nr rfl
theorem zff {d x : Nat} {l : List Nat} : memNat d (x :: l) = (decide (d = x) || memNat d l) := by
 have : Nat.beq d x = decide (d = x) := by rw [Bool.eq_iff_iff]; simp
 simp only [memNat,this]
def flagK (b : Bool) (X Y : Prop) (_ : Tag (X, Y) := .mk) : Prop := match b with
 | true => X
 | false => Y
theorem zfg (X Y : Prop) : flagK true X Y = X := nr rfl
theorem zfh (X Y : Prop) : flagK false X Y = Y := nr rfl
abbrev DQ := List Fl → List Nat → List AHeap → VT → Prop
def D' (T : Tab) (P : Program) (ex : Exec) (l₀ : List Oper) (n L : Nat) : List Oper → Nat → Nat → VT → AHeap → DQ → Prop
 | [], _, _, e, H, Q => L ≤ H.size ∧ Q [] [] [H] e
 | o :: l, i, q, e, H, Q => cond (wantE l₀.toArray n e o)
  (A T P ex (maskE (tmpsOf o.op.operands.toList) n e) H L o.op fun b v H' => flagK b
   (D' T P ex l₀ n L l (i + 1) q (e.put o.dst v) H fun fl hs Gs ef => Q (⟨i, q, tmpsOf o.op.operands.toList, e, o, v⟩ :: fl) hs Gs ef)
   (D' T P ex l₀ n L l (i + 1) (q + 1) (e.put o.dst v) H' fun fl hs Gs ef => Q fl (i :: hs) (H :: Gs) ef))
  (D' T P ex l₀ n L l (i + 1) q (e.put o.dst undef) H Q)
theorem D'_ok {ex : Exec} {l₀ : List Oper} : ∀ {l : List Oper} {i q : Nat} {e : VT} {H : AHeap} {Q : DQ}, D' T P ex l₀ n L l i q e H Q → ∃ fl hs Gs ef m, dpass T P ex l₀.toArray n l i q e H = some (fl, hs, Gs, ef, m) ∧ L ≤ m ∧ Q fl hs Gs ef
 | [], i, q, e, H, Q, h => ⟨[], [], [H], e, H.size, rfl, h.1, h.2⟩
 | o :: l, i, q, e, H, Q, h => by
  have fn : ∀ {β : Type} (l : List Nat) (k : List Nat → β), fNats l k = k l := fun l k => fList_eq fNat_eq l k
  simp only [D'] at h
  simp only [dpass,fn,VT.putK_eq]
  cases hw : wantE l₀.toArray n e o
  ·rw [hw] at h
   exact D'_ok (l := l) h
  ·rw [hw, cond_true] at h
   simp only [cond_true]
   unfold A at h
   cases ha : aopAny T P ex (maskE (tmpsOf o.op.operands.toList) n e) H o.op with
   | none => rw [ha] at h; exact h.elim
   | some p =>
    obtain ⟨b, v, H₁, m₁⟩ := p
    rw [ha] at h
    obtain ⟨h1, h2⟩ := h
    cases b
    ·obtain ⟨fl, hs, Gs, ef, m, k1, k2, k3⟩ := D'_ok (l := l) (show D' T P ex l₀ n L l (i + 1) (q + 1) (e.put o.dst v) H₁ _ from h2)
     simp only [fH_eq,fNat_eq,k1]
     exact ⟨fl, i :: hs, H :: Gs, ef, min m₁ m, rfl, by omega, k3⟩
    ·obtain ⟨fl, hs, Gs, ef, m, k1, k2, k3⟩ := D'_ok (l := l) (show D' T P ex l₀ n L l (i + 1) q (e.put o.dst v) H _ from h2)
     simp only [fV_eq,k1]
     exact ⟨_, hs, Gs, ef, m, rfl, k2, k3⟩
def revA {β : Type} : List β → List β → List β
 | [], l => l
 | x :: a, l => revA a (x :: l)
theorem zhz {β : Type} {l : List β} : revA [] l = l := nr rfl
theorem zia {β : Type} {x : β} {a l : List β} : revA (x :: a) l = revA a (x :: l) := nr rfl
def D (T : Tab) (P : Program) (ex : Exec) (l₀ : List Oper) (n : Nat) (l : List Oper) (i q : Nat) (L : Nat) (e : VT) (H : AHeap) (fa : List Fl) (ha : List Nat) (ga : List AHeap) (Q : DQ) (_ : Tag ((l₀, l), fa, ha, ga, Q) := .mk) : Prop :=
 D' T P ex l₀ n L l i q e H fun fl hs Gs ef => Q (revA fa fl) (revA ha hs) (revA ga Gs) ef
section
variable {ex : Exec} {l₀ l : List Oper} {i q : Nat} {fa : List Fl} {ha : List Nat} {ga : List AHeap} {Q : DQ}
theorem zfi : D T P ex l₀ n [] i q L e H fa ha ga Q = andK (L ≤ H.size) (Q (revA fa []) (revA ha []) (revA ga [H]) e) := nr rfl
theorem zfj {d : Option Tmp} {op : Op} {ty : TypeId} {p : String} {af : Array Edge} : D T P ex l₀ n (⟨d, op, ty, p, af, none⟩ :: l) i q L e H fa ha ga Q = letK (tmpsOf op.operands.toList) fun tl => A T P ex (maskE tl n e) H L op fun b v H' => flagK b
  (letK (i + 1) fun i' => D T P ex l₀ n l i' q L (e.put d v) H (⟨i, q, tl, e, ⟨d, op, ty, p, af, none⟩, v⟩ :: fa) ha ga Q)
  (letK (i + 1) fun i' => letK (q + 1) fun q' => D T P ex l₀ n l i' q' L (e.put d v) H' fa (i :: ha) (H :: ga) Q) := nr rfl
theorem zfk {d : Option Tmp} {op : Op} {ty : TypeId} {p : String} {af : Array Edge} {j : Nat} {w : Bool} : D T P ex l₀ n (⟨d, op, ty, p, af, some (j, w)⟩ :: l) i q L e H fa ha ga Q = gK (gdst l₀ j) (fun k => guardK (gt n e k) w
  (letK (tmpsOf op.operands.toList) fun tl => A T P ex (maskE tl n e) H L op fun b v H' => flagK b
   (letK (i + 1) fun i' => D T P ex l₀ n l i' q L (e.put d v) H (⟨i, q, tl, e, ⟨d, op, ty, p, af, some (j, w)⟩, v⟩ :: fa) ha ga Q)
   (letK (i + 1) fun i' => letK (q + 1) fun q' => D T P ex l₀ n l i' q' L (e.put d v) H' fa (i :: ha) (H :: ga) Q))
  (letK (i + 1) fun i' => D T P ex l₀ n l i' q L (e.put d undef) H fa ha ga Q)) (letK (i + 1) fun i' => D T P ex l₀ n l i' q L (e.put d undef) H fa ha ga Q) := wantE_guard
def agK (T : Tab) (P : Program) (ex : Exec) (n : Nat) (f : Fl) : List AHeap → Prop
 | [] => True
 | G :: Gs => (A T P ex (maskE f.tl n f.e) G 0 f.o.op fun b v _ => b = true ∧ sameV 6 f.v v = true) ∧ agK T P ex n f Gs
def agsK (T : Tab) (P : Program) (ex : Exec) (n : Nat) : List Fl → List AHeap → Prop
 | [], _ => True
 | f :: fl, Gs => agK T P ex n f Gs ∧ agsK T P ex n fl Gs
theorem zfl {Gs : List AHeap} : agsK T P ex n [] Gs = True := nr rfl
theorem zfm {f : Fl} {fl : List Fl} {Gs : List AHeap} : agsK T P ex n (f :: fl) Gs = (agK T P ex n f Gs ∧ agsK T P ex n fl Gs) := nr rfl
theorem zfn {f : Fl} : agK T P ex n f [] = True := nr rfl
theorem zfo {i q : Nat} {tl : List Nat} {e : VT} {d : Option Tmp} {op : Op} {ty : TypeId} {p : String} {af : Array Edge} {g : Option (Nat × Bool)} {v : Value} {G : AHeap} {Gs : List AHeap} : agK T P ex n ⟨i, q, tl, e, ⟨d, op, ty, p, af, g⟩, v⟩ (G :: Gs) =
 ((A T P ex (maskE tl n e) G 0 op fun b u _ => b = true ∧ sameV 6 v u = true) ∧ agK T P ex n ⟨i, q, tl, e, ⟨d, op, ty, p, af, g⟩, v⟩ Gs) := nr rfl
theorem agsK_ok {bef : Nat → Nat → Bool} {hs : List Nat} {Gs₀ : List AHeap} : ∀ {fl : List Fl}, agsK T P ex n fl Gs₀ → allFl (fun f => stagesOk T P ex n bef hs f Gs₀ 0) fl = true := by
 have one : ∀ (f : Fl) (Gs : List AHeap) (q : Nat), agK T P ex n f Gs → stagesOk T P ex n bef hs f Gs q = true := by
  intro f Gs
  induction Gs with
  | nil => intro q _; rfl
  | cons G Gs ih =>
   intro q h
   simp only [stagesOk,Bool.and_eq_true,Bool.or_eq_true]
   refine ⟨.inr ?_, ih (q + 1) h.2⟩
   have h1 := h.1
   unfold A at h1
   unfold again
   cases ha : aopAny T P ex (maskE f.tl n f.e) G f.o.op with
   | none => rw [ha] at h1; exact h1.elim
   | some p =>
    obtain ⟨b, v, H', m⟩ := p
    rw [ha] at h1
    obtain ⟨_, rfl, h3⟩ := h1
    exact h3
 intro fl
 induction fl with
 | nil => intro _; rfl
 | cons f fl ih =>
  intro h
  simp only [allFl,Bool.and_eq_true]
  exact ⟨one f Gs₀ 0 h.1, ih h.2⟩
def lastG : List AHeap → AHeap → AHeap
 | [], H => H
 | [G], _ => G
 | _ :: G :: Gs, H => lastG (G :: Gs) H
theorem zfp {G H : AHeap} : lastG [G] H = G := nr rfl
theorem zfq {G G' H : AHeap} {Gs : List AHeap} : lastG (G :: G' :: Gs) H = lastG (G' :: Gs) H := nr rfl
theorem lastG_eq : ∀ (Gs : List AHeap) (H : AHeap) (k : Nat), Gs.length = k + 1 → Gs.getD k H = lastG Gs H
 | [], _, _, h => by simp at h
 | [G], _, 0, _ => rfl
 | [G], _, k + 1, h => by simp at h
 | _ :: G :: Gs, _, 0, h => by simp at h
 | _ :: G :: Gs, H, k + 1, h => by
  rw [zfq, ← lastG_eq (G :: Gs) H k (by simpa using h)]; rfl
def zfr (T : Tab) (P : Program) (ex : Exec) (n : Nat) (hsl : List Nat) (H : AHeap) (R : VT → AHeap → Prop) (fl : List Fl) (hs : List Nat) (Gs : List AHeap) (ef : VT) : Prop := hs = hsl ∧ agsK T P ex n fl Gs ∧ R ef (lastG Gs H)
theorem W_draw {id : Nat} {ops : List Oper} {Q : Exit → ES → Prop} (hsl : List Nat) (hp : T.plan ops (gt n e) H = none) (hst : rstat ops.toArray (befM (matOf ops.length ops 0 0) ops.length) = true) (hch : chain (befM (matOf ops.length ops 0 0) ops.length) hsl = true) (hL : L ≤ H.size)
  (hw : D T P (aexec T P N) ops n ops 0 0 L e H [] [] [] (zfr T P (aexec T P N) n hsl H fun e H => Q .normal ⟨n, e, H, ds⟩)) : W T P (N + 1) r (.region id ops.toArray true) L ⟨n, e, H, ds⟩ Q := by
 obtain ⟨fl, hs, Gs, ef, m, h1, h2, rfl, h4, h5⟩ := D'_ok (Q := zfr T P (aexec T P N) n hsl H fun e H => Q .normal ⟨n, e, H, ds⟩) hw
 obtain ⟨_, g2, g3⟩ := dpass_shape h1
 have hd : adraw T P (aexec T P N) ops.toArray n e H = some (ef, Gs.getD hs.length H, min m H.size) := by
  unfold adraw
  simp only [fNat_eq,hst,cond_true,h1]
  have : after T P (aexec T P N) n (befM (matOf ops.length ops 0 0) ops.length) hs Gs fl = true := by
   unfold after
   split
   ·rfl
   ·rw [hch, agsK_ok h4]; rfl
  rw [this]
  simp only [cond_true,fH_eq]
 unfold W
 have h : aexec T P (N + 1) r (.region id ops.toArray true) ⟨n, e, H, ds⟩ = match adrawX T P (aexec T P N) ops.toArray n e H with
  | some (e', H', m) => some (.normal, ⟨n, e', H', ds⟩, m)
  | none => none := nr rfl
 have hx : adrawX T P (aexec T P N) ops.toArray n e H = adraw T P (aexec T P N) ops.toArray n e H := by
  unfold adrawX
  rw [show T.plan ops.toArray.toList (genv n e) H = none from hp]
 rw [h, hx, hd]
 simp only
 rw [lastG_eq Gs H hs.length g3]
 exact ⟨by omega, h5⟩
end
theorem zgs {n : Nat} {k : IntKind} {a : Int} : sameV (n + 1) (.int k a) (.int k a) = true := by simp [sameV]
theorem zgt {n : Nat} {b : Bool} : sameV (n + 1) (.bool b) (.bool b) = true := by simp [sameV]
theorem zgu {n : Nat} {a : Option Addr} : sameV (n + 1) (.pointer a) (.pointer a) = true := by simp [sameV]
theorem zgv {n : Nat} {a : Option Addr} {l c : Nat} : sameV (n + 1) (.slice a l c) (.slice a l c) = true := by simp [sameV]
theorem zgw {n : Nat} {l : List Value} : sameV (n + 1) (.agg ⟨l⟩) (.agg ⟨l⟩) = sameL (sameV n) l l := nr rfl
theorem zgx {n : Nat} {l : List Value} : sameV (n + 1) (.tuple ⟨l⟩) (.tuple ⟨l⟩) = sameL (sameV n) l l := nr rfl
theorem zgy {n : Nat} {f : Fn} {a b : List Value} : sameV (n + 1) (.func f ⟨a⟩ ⟨b⟩) (.func f ⟨a⟩ ⟨b⟩) = (sameL (sameV n) a a && sameL (sameV n) b b) := by simp [sameV]
theorem zgz {f : Value → Value → Bool} : sameL f [] [] = true := nr rfl
theorem zha {f : Value → Value → Bool} {x : Value} {l : List Value} : sameL f (x :: l) (x :: l) = (f x x && sameL f l l) := nr rfl
def lookK (o : Option Nat) (X : Nat → Prop) (Y : Prop) (_ : Tag (X, Y) := .mk) : Prop := match o with
 | some k => X k
 | none => Y
theorem zhb {k : Nat} {X : Nat → Prop} {Y : Prop} : lookK (some k) X Y = X k := nr rfl
theorem zhc {X : Nat → Prop} {Y : Prop} : lookK none X Y = Y := nr rfl
theorem zhd {i : Nat} : look [] i = none := nr rfl
theorem zhe {i j k : Nat} {l : List (Nat × Nat)} : look ((j, k) :: l) i = if i = j then some k else look l i := nr rfl
theorem zhf {s : Nat} : places s [] = [] := nr rfl
theorem zhg {s i : Nat} {b : ABlk} {l : List (Nat × ABlk)} : places s ((i, b) :: l) = (i, s) :: places (s + 1) l := nr rfl
theorem zhh {H : AHeap} : allocs H [] = H := nr rfl
theorem zhi {H : AHeap} {i : Nat} {b : ABlk} {l : List (Nat × ABlk)} : allocs H ((i, b) :: l) = allocs (H.alloc b) l := nr rfl
def newK (T : Tab) (t : Operand → Option Value) (o : Op) (k : Nat) (H : AHeap) (Q : Value → Prop) (_ : Tag (o, Q) := .mk) : Prop := match anew T t o with
 | some (p, blk) => (H.get k = blk ∧ k < H.size) ∧ Q (mkV p k)
 | none => False
section
variable {t : Operand → Option Value} {k : Nat} {Q : Value → Prop}
theorem zhj {ty : TypeId} : newK T t (.alloc ty) k H Q = optK (alS T ty) fun c => andK (H.get k = .rw c ty false []) (andK (k < H.size) (Q (.pointer (some ⟨k, 0, none⟩)))) := by
 show (match newAlloc T ty with
  | some (p, blk) => (H.get k = blk ∧ k < H.size) ∧ Q (mkV p k)
  | none => False) = _
 unfold newAlloc alS
 cases T.inf ty with
 | none => rfl
 | some i =>
  simp only
  cases i.zero with
  | none => rfl
  | some z =>
   simp only [fVs_eq]
   cases gr z
   ·rfl
   ·simp only [cond_true,optK,andK,and_assoc]; rfl
theorem zhk {ty : TypeId} {x : Operand} : newK T t (.box ty x) k H Q = optK (t x) fun v => letK v.cells.toList fun c => andK (H.get k = .rw c ty false []) (andK (k < H.size) (Q (.pointer (some ⟨k, 0, none⟩)))) := by
 show (match newBox t ty x with
  | some (p, blk) => (H.get k = blk ∧ k < H.size) ∧ Q (mkV p k)
  | none => False) = _
 unfold newBox
 cases t x with
 | none => rfl
 | some v => simp only [optK,letK,andK,and_assoc]; rfl
end
def DS' (T : Tab) (P : Program) (ex : Exec) (rl : List (Nat × Nat)) (l₀ : List Oper) (n L : Nat) : List Oper → Nat → Nat → VT → AHeap → DQ → Prop
 | [], _, _, e, H, Q => L ≤ H.size ∧ Q [] [] [H] e
 | o :: l, i, q, e, H, Q => cond (wantE l₀.toArray n e o)
  (lookK (look rl i) (fun k => newK T (maskE (tmpsOf o.op.operands.toList) n e) o.op k H fun v =>
    DS' T P ex rl l₀ n L l (i + 1) q (e.put o.dst v) H fun fl hs Gs ef => Q (⟨i, q, tmpsOf o.op.operands.toList, e, o, v⟩ :: fl) hs Gs ef)
   (A T P ex (maskE (tmpsOf o.op.operands.toList) n e) H L o.op fun b v H' => flagK b
    (DS' T P ex rl l₀ n L l (i + 1) q (e.put o.dst v) H fun fl hs Gs ef => Q (⟨i, q, tmpsOf o.op.operands.toList, e, o, v⟩ :: fl) hs Gs ef)
    (DS' T P ex rl l₀ n L l (i + 1) (q + 1) (e.put o.dst v) H' fun fl hs Gs ef => Q fl (i :: hs) (H :: Gs) ef)))
  (DS' T P ex rl l₀ n L l (i + 1) q (e.put o.dst undef) H Q)
theorem DS'_ok {ex : Exec} {rl : List (Nat × Nat)} {l₀ : List Oper} : ∀ {l : List Oper} {i q : Nat} {e : VT} {H : AHeap} {Q : DQ}, DS' T P ex rl l₀ n L l i q e H Q → ∃ fl hs Gs ef m, dpassR T P ex rl l₀.toArray n l i q e H = some (fl, hs, Gs, ef, m) ∧ L ≤ m ∧ Q fl hs Gs ef
 | [], i, q, e, H, Q, h => ⟨[], [], [H], e, H.size, rfl, h.1, h.2⟩
 | o :: l, i, q, e, H, Q, h => by
  simp only [DS'] at h
  simp only [dpassR]
  cases hw : wantE l₀.toArray n e o
  ·rw [hw] at h
   exact DS'_ok (l := l) h
  ·rw [hw, cond_true] at h
   simp only [cond_true]
   unfold evR
   cases hk : look rl i with
   | some k =>
    rw [hk, zhb] at h
    unfold newK at h
    simp only
    cases ha : anew T (maskE (tmpsOf o.op.operands.toList) n e) o.op with
    | none => rw [ha] at h; exact h.elim
    | some p =>
     obtain ⟨p, blk⟩ := p
     rw [ha] at h
     obtain ⟨⟨g1, g2⟩, g3⟩ := h
     obtain ⟨fl, hs, Gs, ef, m, k1, k2, k3⟩ := DS'_ok (l := l) g3
     simp only [if_pos (And.intro g1 g2),k1]
     exact ⟨_, hs, Gs, ef, m, rfl, k2, k3⟩
   | none =>
    rw [hk, zhc] at h
    unfold A at h
    simp only
    cases ha : aopAny T P ex (maskE (tmpsOf o.op.operands.toList) n e) H o.op with
    | none => rw [ha] at h; exact h.elim
    | some p =>
     obtain ⟨b, v, H₁, m₁⟩ := p
     rw [ha] at h
     obtain ⟨h1, h2⟩ := h
     cases b
     ·obtain ⟨fl, hs, Gs, ef, m, k1, k2, k3⟩ := DS'_ok (l := l) (show DS' T P ex rl l₀ n L l (i + 1) (q + 1) (e.put o.dst v) H₁ _ from h2)
      simp only [k1]
      exact ⟨fl, i :: hs, H :: Gs, ef, min m₁ m, rfl, by omega, k3⟩
     ·obtain ⟨fl, hs, Gs, ef, m, k1, k2, k3⟩ := DS'_ok (l := l) (show DS' T P ex rl l₀ n L l (i + 1) q (e.put o.dst v) H _ from h2)
      simp only [k1]
      exact ⟨_, hs, Gs, ef, m, rfl, k2, k3⟩
def DS (T : Tab) (P : Program) (ex : Exec) (rl : List (Nat × Nat)) (l₀ : List Oper) (n : Nat) (l : List Oper) (i q : Nat) (L : Nat) (e : VT) (H : AHeap) (fa : List Fl) (ha : List Nat) (ga : List AHeap) (Q : DQ) (_ : Tag ((l₀, l), fa, ha, ga, Q) := .mk) : Prop :=
 DS' T P ex rl l₀ n L l i q e H fun fl hs Gs ef => Q (revA fa fl) (revA ha hs) (revA ga Gs) ef
section
variable {ex : Exec} {l₀ l : List Oper} {i q : Nat} {fa : List Fl} {ha : List Nat} {ga : List AHeap} {Q : DQ} {rl : List (Nat × Nat)}
theorem zhl : DS T P ex rl l₀ n [] i q L e H fa ha ga Q = andK (L ≤ H.size) (Q (revA fa []) (revA ha []) (revA ga [H]) e) := nr rfl
theorem zhm {d : Option Tmp} {op : Op} {ty : TypeId} {p : String} {af : Array Edge} : DS T P ex rl l₀ n (⟨d, op, ty, p, af, none⟩ :: l) i q L e H fa ha ga Q = letK (tmpsOf op.operands.toList) fun tl => lookK (look rl i)
  (fun k => newK T (maskE tl n e) op k H fun v => letK (i + 1) fun i' => DS T P ex rl l₀ n l i' q L (e.put d v) H (⟨i, q, tl, e, ⟨d, op, ty, p, af, none⟩, v⟩ :: fa) ha ga Q)
  (A T P ex (maskE tl n e) H L op fun b v H' => flagK b
   (letK (i + 1) fun i' => DS T P ex rl l₀ n l i' q L (e.put d v) H (⟨i, q, tl, e, ⟨d, op, ty, p, af, none⟩, v⟩ :: fa) ha ga Q)
   (letK (i + 1) fun i' => letK (q + 1) fun q' => DS T P ex rl l₀ n l i' q' L (e.put d v) H' fa (i :: ha) (H :: ga) Q)) := nr rfl
theorem zhn {d : Option Tmp} {op : Op} {ty : TypeId} {p : String} {af : Array Edge} {j : Nat} {w : Bool} : DS T P ex rl l₀ n (⟨d, op, ty, p, af, some (j, w)⟩ :: l) i q L e H fa ha ga Q = gK (gdst l₀ j) (fun k => guardK (gt n e k) w
  (letK (tmpsOf op.operands.toList) fun tl => lookK (look rl i)
   (fun k => newK T (maskE tl n e) op k H fun v => letK (i + 1) fun i' => DS T P ex rl l₀ n l i' q L (e.put d v) H (⟨i, q, tl, e, ⟨d, op, ty, p, af, some (j, w)⟩, v⟩ :: fa) ha ga Q)
   (A T P ex (maskE tl n e) H L op fun b v H' => flagK b
    (letK (i + 1) fun i' => DS T P ex rl l₀ n l i' q L (e.put d v) H (⟨i, q, tl, e, ⟨d, op, ty, p, af, some (j, w)⟩, v⟩ :: fa) ha ga Q)
    (letK (i + 1) fun i' => letK (q + 1) fun q' => DS T P ex rl l₀ n l i' q' L (e.put d v) H' fa (i :: ha) (H :: ga) Q)))
  (letK (i + 1) fun i' => DS T P ex rl l₀ n l i' q L (e.put d undef) H fa ha ga Q)) (letK (i + 1) fun i' => DS T P ex rl l₀ n l i' q L (e.put d undef) H fa ha ga Q) := wantE_guard
def memP (i q : Nat) : List (Nat × Nat) → Bool
 | [] => false
 | p :: l => (decide (i = p.1) && decide (q = p.2)) || memP i q l
theorem zho : memP i q [] = false := nr rfl
theorem zhp {a b : Nat} {bl : List (Nat × Nat)} : memP i q ((a, b) :: bl) = ((decide (i = a) && decide (q = b)) || memP i q bl) := nr rfl
theorem memP_mem : ∀ {bl : List (Nat × Nat)}, memP i q bl = true → (i, q) ∈ bl
 | p :: l, h => by
  simp only [memP,Bool.or_eq_true,Bool.and_eq_true,decide_eq_true_eq] at h
  rcases h with ⟨rfl, rfl⟩ | h
  ·simp
  ·exact List.mem_cons_of_mem _ (memP_mem h)
def skipK (b : Bool) (X : Prop) (_ : Tag X := .mk) : Prop := match b with
 | true => True
 | false => X
theorem zhq {X : Prop} : skipK true X = True := nr rfl
theorem zhr {X : Prop} : skipK false X = X := nr rfl
def oneR (T : Tab) (P : Program) (ex : Exec) (rl : List (Nat × Nat)) (n : Nat) (f : Fl) (G : AHeap) : Prop := lookK (look rl f.i) (fun k => newK T (maskE f.tl n f.e) f.o.op k G fun v => v = f.v) (A T P ex (maskE f.tl n f.e) G 0 f.o.op fun b v _ => b = true ∧ v = f.v)
def stR (T : Tab) (P : Program) (ex : Exec) (rl : List (Nat × Nat)) (n : Nat) (bl : List (Nat × Nat)) (f : Fl) : List AHeap → Nat → Prop
 | [], _ => True
 | G :: Gs, q => skipK (memP f.i q bl) (oneR T P ex rl n f G) ∧ stR T P ex rl n bl f Gs (q + 1)
def stsR (T : Tab) (P : Program) (ex : Exec) (rl : List (Nat × Nat)) (n : Nat) (bl : List (Nat × Nat)) : List Fl → List AHeap → Prop
 | [], _ => True
 | f :: fl, Gs => stR T P ex rl n bl f Gs 0 ∧ stsR T P ex rl n bl fl Gs
variable {bl : List (Nat × Nat)} {f : Fl} {fl : List Fl} {G : AHeap} {Gs : List AHeap}
theorem zhs : stsR T P ex rl n bl [] Gs = True := nr rfl
theorem zht : stsR T P ex rl n bl (f :: fl) Gs = (stR T P ex rl n bl f Gs 0 ∧ stsR T P ex rl n bl fl Gs) := nr rfl
theorem zhu : stR T P ex rl n bl f [] q = True := nr rfl
theorem zhv {i q' : Nat} {tl : List Nat} {e : VT} {d : Option Tmp} {op : Op} {ty : TypeId} {p : String} {af : Array Edge} {g : Option (Nat × Bool)} {v : Value} : stR T P ex rl n bl ⟨i, q', tl, e, ⟨d, op, ty, p, af, g⟩, v⟩ (G :: Gs) q =
 (skipK (memP i q bl) (lookK (look rl i) (fun k => newK T (maskE tl n e) op k G fun u => u = v) (A T P ex (maskE tl n e) G 0 op fun b u _ => b = true ∧ u = v)) ∧ stR T P ex rl n bl ⟨i, q', tl, e, ⟨d, op, ty, p, af, g⟩, v⟩ Gs (q + 1)) := nr rfl
theorem oneR_ok (h : oneR T P ex rl n f G) : againR T P ex rl n f G := by
 unfold oneR at h
 unfold againR evR
 cases hk : look rl f.i with
 | some k =>
  rw [hk, zhb] at h
  unfold newK at h
  simp only
  cases ha : anew T (maskE f.tl n f.e) f.o.op with
  | none => rw [ha] at h; exact h.elim
  | some p =>
   obtain ⟨p, blk⟩ := p
   rw [ha] at h
   obtain ⟨g1, g2⟩ := h
   simp only [if_pos g1]
   exact ⟨_, _, by rw [g2]⟩
 | none =>
  rw [hk, zhc] at h
  unfold A at h
  simp only
  cases ha : aopAny T P ex (maskE f.tl n f.e) G f.o.op with
  | none => rw [ha] at h; exact h.elim
  | some p =>
   obtain ⟨b, v, H', m⟩ := p
   rw [ha] at h
   obtain ⟨_, rfl, rfl⟩ := h
   exact ⟨_, _, rfl⟩
theorem stR_get : ∀ {Gs : List AHeap} {q a : Nat} {G₀ : AHeap}, stR T P ex rl n bl f Gs q → a < Gs.length → memP f.i (q + a) bl = true ∨ againR T P ex rl n f (Gs.getD a G₀)
 | G :: Gs, q, 0, G₀, h, _ => by
  cases hm : memP f.i q bl
  ·have h1 := h.1
   rw [hm, zhr] at h1
   exact .inr (oneR_ok h1)
  ·exact .inl rfl
 | G :: Gs, q, a + 1, G₀, h, ha => by
  have := stR_get (Gs := Gs) (q := q + 1) (a := a) (G₀ := G₀) h.2 (by simpa using ha)
  rw [show q + (a + 1) = q + 1 + a by omega]
  exact this
theorem stsR_mem : ∀ {fl : List Fl}, stsR T P ex rl n bl fl Gs → f ∈ fl → stR T P ex rl n bl f Gs 0
 | g :: fl, h, hm => by
  rcases List.mem_cons.1 hm with rfl | hm
  ·exact h.1
  ·exact stsR_mem h.2 hm
def zhw (T : Tab) (P : Program) (ex : Exec) (rl : List (Nat × Nat)) (n : Nat) (bl : List (Nat × Nat)) (hsl : List Nat) (H : AHeap) (R : VT → AHeap → Prop) (fl : List Fl) (hs : List Nat) (Gs : List AHeap) (ef : VT) : Prop := hs = hsl ∧ stsR T P ex rl n bl fl Gs ∧ R ef (lastG Gs H)
theorem W_drawR {id : Nat} {ops : List Oper} {Q : Exit → ES → Prop} {pl : List (Nat × ABlk)} (hsl : List Nat) (bl : List (Nat × Nat)) (hp : T.plan ops (gt n e) H = some pl) (hst : rstat ops.toArray (befM (matOf ops.length ops 0 0) ops.length) = true) (hch : chain (befM (matOf ops.length ops 0 0) ops.length) hsl = true)
  (hbl : (bl.all fun p => blocked (befM (matOf ops.length ops 0 0) ops.length) p.1 p.2 hsl 0) = true) (hL : L ≤ H.size)
  (hw : DS T P (aexec T P N) (places H.size pl) ops n ops 0 0 L e (allocs H pl) [] [] [] (zhw T P (aexec T P N) (places H.size pl) n bl hsl (allocs H pl) fun e H => Q .normal ⟨n, e, H, ds⟩)) : W T P (N + 1) r (.region id ops.toArray true) L ⟨n, e, H, ds⟩ Q := by
 obtain ⟨fl, hs, Gs, ef, m, h1, h2, rfl, h4, h5⟩ := DS'_ok (Q := zhw T P (aexec T P N) (places H.size pl) n bl hsl (allocs H pl) fun e H => Q .normal ⟨n, e, H, ds⟩) hw
 obtain ⟨_, g2, g3⟩ := dpassR_shape h1
 have hd : adrawR T P (aexec T P N) ops.toArray n e H pl = some (ef, Gs.getD hs.length (allocs H pl), min m H.size) := by
  unfold adrawR
  simp only [h1]
  rw [if_pos]
  refine ⟨hst, hch, fun f hf q hq => ?_⟩
  rcases stR_get (G₀ := allocs H pl) (a := q) (stsR_mem h4 hf) (by omega) with h | h
  ·rw [Nat.zero_add] at h
   exact .inl (List.all_eq_true.1 hbl _ (memP_mem h))
  ·exact .inr h
 unfold W
 have h : aexec T P (N + 1) r (.region id ops.toArray true) ⟨n, e, H, ds⟩ = match adrawX T P (aexec T P N) ops.toArray n e H with
  | some (e', H', m) => some (.normal, ⟨n, e', H', ds⟩, m)
  | none => none := nr rfl
 have hx : adrawX T P (aexec T P N) ops.toArray n e H = adrawR T P (aexec T P N) ops.toArray n e H pl := by
  unfold adrawX
  rw [show T.plan ops.toArray.toList (genv n e) H = some pl from hp]
 rw [h, hx, hd]
 simp only
 rw [lastG_eq Gs (allocs H pl) hs.length g3]
 exact ⟨by omega, h5⟩
end
def tupO (o : Option Value) (v : Value) : Option Value := match o with
 | some u => some (.tuple ⟨[u, v]⟩)
 | none => none
theorem zhx {u v : Value} : tupO (some u) v = some (.tuple ⟨[u, v]⟩) := nr rfl
theorem zhy {i j : Nat} {ty : TypeId} : resV T n e H [.cell i ty, .tmp j] = tupO (cellO T H ty (gt n e i)) (gt n e j) := by
 unfold resV aresG cellO aresG tupO
 cases gt n e i <;> first | rfl | skip
 rename_i a
 cases a with
 | none => rfl
 | some ad =>
  simp only [aresG]
  cases aRead T H ty ad <;> rfl
theorem zfs {x : Operand} : tmpsOf (Op.operands (.move x)).toList = tmpsOf [x] := nr rfl
theorem zft {x : Operand} : tmpsOf (Op.operands (.assign x)).toList = tmpsOf [x] := nr rfl
theorem zfu {ty : TypeId} {x : Operand} : tmpsOf (Op.operands (.box ty x)).toList = tmpsOf [x] := nr rfl
theorem zfv {ty : TypeId} {x : Operand} : tmpsOf (Op.operands (.load ty x)).toList = tmpsOf [x] := nr rfl
theorem zfw {x : Operand} : tmpsOf (Op.operands (.nilCheck x)).toList = tmpsOf [x] := nr rfl
theorem zfx {op : UnOp} {ty : TypeId} {x : Operand} : tmpsOf (Op.operands (.unOp op ty x)).toList = tmpsOf [x] := nr rfl
theorem zfy {a b : TypeId} {x : Operand} : tmpsOf (Op.operands (.convert a b x)).toList = tmpsOf [x] := nr rfl
theorem zfz {ty : TypeId} : tmpsOf (Op.operands (.alloc ty)).toList = tmpsOf [] := nr rfl
theorem zga {ty : TypeId} {x y : Operand} : tmpsOf (Op.operands (.store ty x y)).toList = tmpsOf [x, y] := nr rfl
theorem zgb {op : BinOp} {ty ty2 : TypeId} {x y : Operand} : tmpsOf (Op.operands (.binOp op ty x y ty2)).toList = tmpsOf [x, y] := nr rfl
theorem zgc {ty : TypeId} {x : Operand} {f : Nat} : tmpsOf (Op.operands (.fieldAddr ty x f)).toList = tmpsOf [x] := nr rfl
theorem zgd {ty : TypeId} {x : Operand} {f : Nat} : tmpsOf (Op.operands (.field ty x f)).toList = tmpsOf [x] := nr rfl
theorem zge {ty : TypeId} {x y : Operand} : tmpsOf (Op.operands (.indexAddr ty x y)).toList = tmpsOf [x, y] := nr rfl
theorem zgf {ty : TypeId} {x y : Operand} : tmpsOf (Op.operands (.index ty x y)).toList = tmpsOf [x, y] := nr rfl
theorem zgg {a b c : Operand} : tmpsOf (Op.operands (.pick a b c)).toList = tmpsOf [a, b, c] := nr rfl
theorem zgh {x : Operand} {i : Nat} : tmpsOf (Op.operands (.extract x i)).toList = tmpsOf [x] := nr rfl
theorem zgi {ty : TypeId} {ps : List (Nat × Operand)} : tmpsOf (Op.operands (.build ty ps.toArray)).toList = tmpsOf (ps.map (·.2)) := by simp [Op.operands]
theorem zgj {ty : TypeId} {n : Nat} {ps : List (Nat × Operand)} : tmpsOf (Op.operands (.buildSlice ty n ps.toArray)).toList = tmpsOf (ps.map (·.2)) := by simp [Op.operands]
theorem zgk {f : Operand} {vs : List Operand} {tys : Array TypeId} : tmpsOf (Op.operands (.call ⟨.value f, vs.toArray, tys⟩)).toList = tmpsOf (f :: vs) := by simp [Op.operands, Call.operands]
theorem zgl {b : Builtin} {vs : List Operand} {tys : Array TypeId} : tmpsOf (Op.operands (.call ⟨.builtin b, vs.toArray, tys⟩)).toList = tmpsOf vs := by simp [Op.operands, Call.operands]
theorem zgm : tmpsOf [] = [] := nr rfl
theorem zgn {i : Nat} {l : List Operand} : tmpsOf (.tmp i :: l) = i :: tmpsOf l := nr rfl
theorem zgo {v : Value} {l : List Operand} : tmpsOf (.const v :: l) = tmpsOf l := nr rfl
theorem zgp {f : FuncId} {l : List Operand} : tmpsOf (.func f :: l) = tmpsOf l := nr rfl
attribute [irreducible] W O A D DS
end Go.Am
namespace Go.Am
open Go.Proofs
variable {T : Tab} {P : Program}
theorem SCall.any {f : FuncId} {args : List Value} {H H' : AHeap} {v : Value} {m : Nat} (h : SCall P f args H v H' m) (ha : allGrV args = true) (hv : gr v = true) (H₀ : AHeap) : SCall P f args H₀ v H₀ H₀.size := by
 intro F n σ w hF hR hargs
 rw [allGrV_ren ha]
 refine (h.anywhere ha hv F n hF w).mono ?_
 rintro e w' ⟨rfl, x⟩
 refine ⟨σ, by rw [(gr_ok σ hv).2], (gr_ok σ hv).1, ⟨fun k b s hp => ⟨(hR.lt k b s hp).1, Nat.lt_of_lt_of_le (hR.lt k b s hp).2 x.size⟩, fun k b s hp => (hR.holds k b s hp).agree (Agree.refl σ) (x.same b (hR.lt k b s hp).2), hR.excl⟩, ?_⟩
 exact ⟨fun _ _ => ⟨rfl, rfl⟩, Nat.le_refl _, x.size, x.os, x.tape, x.output, fun _ _ _ => rfl, fun b hb _ => x.same b hb, fun k b s hk hp => absurd (hR.lt k b s hp).1 (by omega)⟩
def Tab.sure (T : Tab) (f : FuncId) (plan : List Oper → (Nat → Value) → AHeap → Option (List (Nat × ABlk))) : Tab := ⟨T.und, T.inf, T.fn, fun g args H => match Nat.beq g f, args with
 | true, [] => some (true, .bool true, H, H.size)
 | _, _ => none, plan⟩
theorem Tab.sure_fits {plan : List Oper → (Nat → Value) → AHeap → Option (List (Nat × ABlk))} (hT : T.Fits P) {e : Quiet} (he : e.Ok P) (ha : e.args = []) (hv : e.v = .bool true) : (T.sure e.f plan).Fits P where
 und := hT.und
 inf := hT.inf
 fn := hT.fn
 mixed := hT.mixed
 memo f args H b v H' m h := by
  simp only [Tab.sure] at h
  split at h
  ·rename_i hf
   cases h
   have : f = e.f := Nat.eq_of_beq_eq_true hf
   subst this
   have h2 := he.2
   rw [ha, hv] at h2
   exact ⟨he.1, h2.any rfl rfl H, fun _ => ⟨rfl, rfl⟩⟩
  ·cases h
def intZ : Value := .int .i64 0
def planB (d : List (Option Nat)) (env : Nat → Value) : Option (List (Nat × ABlk)) :=
 if d = [some 24, some 25, some 26, some 27, some 13, some 14, none, none] then some [(4, .rw [intZ, .slice none 0 0] 24 false []), (5, .rw [intZ, .slice none 0 0] 34 false [])]
 else if d = [some 28, some 29, some 30, some 31, some 32, some 33, some 34, some 35, some 15] then some [(4, .rw [env 2] 3 false []), (6, .rw [env 4] 3 false [])]
 else if d = [some 73, some 74, some 75, some 76, some 77, some 78, some 79, some 80, some 15] then some [(4, .rw [env 3] 3 false []), (6, .rw [env 5] 3 false [])]
 else if d = [some 116, some 117, some 118, some 119, some 120, some 121, some 122, some 123, some 124, some 125, some 15] then some [(5, .rw [env 2, env 3] 3 false []), (8, .rw [env 4, env 5] 3 false [])]
 else if d = [some 24, some 25, some 26, some 27, some 15, some 16, none, none] then some [(4, .rw [intZ, .slice none 0 0] 24 false []), (5, .rw [intZ, .slice none 0 0] 34 false [])]
 else if d = [some 80, some 81, some 82, some 83, some 84, some 85, some 86, some 87, some 88, some 89, some 90, some 19] then some [(5, .rw [env 2, env 3] 3 false []), (7, .rw [env 6] 3 false []), (9, .rw [env 4] 3 false [])]
 else if d = [some 36, some 37, some 13, some 14, none, none] then some [(2, .rw [intZ, intZ] 26 false []), (3, .rw [intZ, intZ] 26 false [])]
 else if d = [some 4, some 5, some 6, some 7, some 8, some 9, some 10, some 11, some 12, some 13, some 14, some 15, some 16, some 17, some 18, some 19, some 20, some 21, some 22, some 23, some 24, some 25, none] then some []
 else if d = [some 109, some 110, some 111, some 112, some 113, some 114, some 115, some 116, some 117, some 118, some 119, some 120, some 121, some 122, some 123, some 124, some 125, some 126, some 127, some 128] then some []
 else if d = [some 40, some 41, some 42, some 43, some 44, some 45, some 46, some 47, some 48, some 49, some 50, some 51, none] then some []
 else if d = [some 66, some 67, some 68, some 69, some 70, some 71, some 72, some 73, some 74, some 75, some 76, some 77, none] then some []
 else if d = [some 26, some 27, some 28, some 29, some 30, some 31, some 32, some 33, some 34, some 35, some 36, some 10, some 11, some 12] then some []
 else if d = [some 29, some 30, some 31, some 32, some 33, some 34, some 35, some 36, some 37, some 38, some 39, some 10, some 11, some 12] then some []
 else if d = [some 43, some 44, some 45, some 46, some 47, some 48, some 49, some 50, some 51, some 52, some 9, some 10, some 11] then some []
 else if d = [some 53, some 54, some 55, some 56, some 57, some 58, some 59, some 60, some 61, some 12, some 13] then some []
 else if d = [some 65, some 66, some 67, some 68, some 69, some 70, some 71, some 72, some 73, some 74, some 75, some 76, none] then some []
 else if d = [some 113, some 114, some 115, some 116, some 117, some 118, some 119, some 120, some 121, some 122, some 123, some 124, some 125, some 126, some 127, some 128, some 129, some 130, some 131, some 132, some 133, some 134, some 135, some 136, none] then some []
 else if d = [some 40, some 41, some 42, some 43, some 44, some 45, some 46, some 47, some 48, some 49, some 16] then some []
 else if d = [some 41, some 42, some 43, some 44, some 45, some 46, some 47, some 48, some 49, some 50, none] then some []
 else if d = [some 99, some 100, some 101, some 102, some 103, some 104, some 105, some 106, none] then some []
 else if d = [some 19, some 20, some 21, some 22, some 23, some 24, some 25, some 26, some 27, some 13] then some [(3, .rw [env 2] 3 false []), (7, .rw [env 3] 3 false [])]
 else if d = [some 36, some 37, some 38, some 39, some 40, some 41, some 13, some 15, none, some 14, none] then some [(6, .rw [intZ, .slice none 0 0] 24 false []), (7, .rw [intZ, .slice none 0 0] 34 false [])]
 else if d = [some 52, some 53, some 54, some 55, some 56, some 57, some 58, some 59, some 60, some 19] then some [(5, .rw [env 2, env 3] 3 false []), (7, .rw [env 4] 3 false [])]
 else if d = [some 139, some 140, some 141, some 142, some 143, some 144, some 145, some 146, some 147, some 148, some 19] then some [(4, .rw [env 2] 3 false []), (8, .rw [env 4] 3 false [])]
 else if d = [some 63, some 64, some 65, some 66, some 67, some 68, some 69, some 70, some 71, some 20] then some []
 else if d = [some 93, some 94, some 95, some 96, some 97, some 98, some 99, some 100, some 101, some 102, some 103, some 104] then some []
 else if d = [some 106, some 107, some 108, some 109, some 110, some 111, some 112, some 113, some 105, some 114, some 115, some 116, some 21, some 22, some 23] then some []
 else if d = [some 159, some 160, some 161, some 162, some 163, some 164, some 165, some 166, some 158, some 167, some 168, some 169, some 26, some 27, some 19] then some []
 else if d = [some 77, some 78, some 79, some 80, some 81, some 82, some 83, some 84, some 85, some 86, some 87, none, some 88, none] then some []
 else none
def zrow : Nat → List Value
 | 0 => []
 | n + 1 => [intZ, intZ, intZ, intZ, intZ, intZ, .bool false, intZ, intZ] ++ zrow n
def planA (ops : List Oper) (env : Nat → Value) (H : AHeap) : Option (List (Nat × ABlk)) :=
 if ops.map (·.dst) = [some 22, some 23, some 24, some 25, some 9, some 10, none, none] then some [(4, .rw [intZ, .slice none 0 0] 24 false []), (5, .rw [intZ, .slice none 0 0] 34 false [])]
 else if ops.map (·.dst) = [some 87, some 88, some 89, some 90, some 91, some 92, some 93, some 94, some 95, some 11] then
  match env 6 with
  | .pointer (some a) => match cellsOf (H.get a.block) with
   | some (v :: _) => some [(5, .rw [v] 3 false []), (7, .rw [env 3] 3 false [])]
   | _ => none
  | _ => none
 else if ops.map (·.dst) = [some 62, some 63, some 64, some 65, some 66, some 67, some 68, some 14, none] then
  match env 7 with
  | .pointer (some a) => match cellsOf (H.get a.block) with
   | some (_ :: .slice _ n _ :: _) => some [(5, .rw (zrow n) 45 false []), (7, .rw [intZ, .slice none 0 0] 24 false [])]
   | _ => none
  | _ => none
 else planB (ops.map (·.dst)) env
noncomputable def tabA : Tab := tab.sure 18 planA
theorem tabA_fits : tabA.Fits Try.prog := Tab.sure_fits tab_fits awake_part rfl rfl
end Go.Am
namespace Go.Am
open Go.Proofs
theorem zic : alS tabA 118 = some [.nilFunc] := by kernel_rfl
theorem zid : alS tabA 124 = some [(.int IntKind.i64 0), (.slice none 0 0), (.int IntKind.i64 0), (.int IntKind.i64 0), (.int IntKind.i64 0)] := by kernel_rfl
theorem zie : alS tabA 24 = some [(.int IntKind.i64 0), (.slice none 0 0)] := by kernel_rfl
theorem zif : alS tabA 34 = some [(.int IntKind.i64 0), (.slice none 0 0)] := by kernel_rfl
theorem zig : alS tabA 43 = some [(.int IntKind.i64 0), (.int IntKind.i64 0)] := by kernel_rfl
theorem zih : alS tabA 45 = some [(.int IntKind.i64 0), (.int IntKind.i64 0), (.int IntKind.i64 0), (.int IntKind.i64 0), (.int IntKind.i64 0), (.int IntKind.i64 0), (.bool false), (.int IntKind.i64 0), (.int IntKind.i64 0)] := by kernel_rfl
theorem zii : alS tabA 46 = some [(.int IntKind.i64 0), (.int IntKind.i64 0), (.int IntKind.i64 0), (.int IntKind.i64 0), (.int IntKind.i64 0), (.int IntKind.i64 0), (.bool false), (.int IntKind.i64 0), (.int IntKind.i64 0)] := by kernel_rfl
theorem zij : alS tabA 50 = some [(.int IntKind.i64 0), (.int IntKind.i64 0)] := by kernel_rfl
theorem zik : bdS tabA 124 = some ([(.int IntKind.i64 0), (.slice none 0 0), (.int IntKind.i64 0), (.int IntKind.i64 0), (.int IntKind.i64 0)], [(0, 2), (2, 2), (4, 1)]) := by kernel_rfl
theorem zil : bdS tabA 24 = some ([(.int IntKind.i64 0), (.slice none 0 0)], [(0, 1), (1, 1)]) := by kernel_rfl
theorem zim : bdS tabA 34 = some ([(.int IntKind.i64 0), (.slice none 0 0)], [(0, 1), (1, 1)]) := by kernel_rfl
theorem zin : bdS tabA 43 = some ([(.int IntKind.i64 0), (.int IntKind.i64 0)], [(0, 1), (1, 1)]) := by kernel_rfl
theorem zio : esS tabA 22 = some 9 := by kernel_rfl
theorem ziq : esS tabA 32 = some 9 := by kernel_rfl
theorem zir : esS tabA 52 = some 1 := by kernel_rfl
theorem zis : faS tabA 124 0 = some 0 := by kernel_rfl
theorem zit : faS tabA 124 1 = some 2 := by kernel_rfl
theorem ziu : faS tabA 124 2 = some 4 := by kernel_rfl
theorem ziv : faS tabA 24 0 = some 0 := by kernel_rfl
theorem ziw : faS tabA 24 1 = some 1 := by kernel_rfl
theorem zix : faS tabA 26 0 = some 0 := by kernel_rfl
theorem ziy : faS tabA 26 1 = some 1 := by kernel_rfl
theorem ziz : faS tabA 28 0 = some 0 := by kernel_rfl
theorem zja : faS tabA 28 1 = some 1 := by kernel_rfl
theorem zjb : faS tabA 34 0 = some 0 := by kernel_rfl
theorem zjc : faS tabA 34 1 = some 1 := by kernel_rfl
theorem zjd : faS tabA 43 0 = some 0 := by kernel_rfl
theorem zje : faS tabA 43 1 = some 1 := by kernel_rfl
theorem zjf : faS tabA 45 0 = some 0 := by kernel_rfl
theorem zjg : faS tabA 45 1 = some 1 := by kernel_rfl
theorem zjh : faS tabA 45 2 = some 2 := by kernel_rfl
theorem zji : faS tabA 45 3 = some 3 := by kernel_rfl
theorem zjj : faS tabA 45 4 = some 4 := by kernel_rfl
theorem zjk : faS tabA 45 5 = some 5 := by kernel_rfl
theorem zjl : faS tabA 45 6 = some 6 := by kernel_rfl
theorem zjm : faS tabA 45 7 = some 7 := by kernel_rfl
theorem zjn : faS tabA 46 0 = some 0 := by kernel_rfl
theorem zjo : faS tabA 46 1 = some 1 := by kernel_rfl
theorem zjp : faS tabA 46 2 = some 2 := by kernel_rfl
theorem zjq : faS tabA 46 3 = some 3 := by kernel_rfl
theorem zjr : faS tabA 46 4 = some 4 := by kernel_rfl
theorem zjs : faS tabA 46 5 = some 5 := by kernel_rfl
theorem zjt : faS tabA 46 6 = some 6 := by kernel_rfl
theorem zju : faS tabA 46 7 = some 7 := by kernel_rfl
theorem zjv : faS tabA 50 0 = some 0 := by kernel_rfl
theorem zjw : faS tabA 50 1 = some 1 := by kernel_rfl
theorem zjx : faS tabA 54 0 = some 0 := by kernel_rfl
theorem zjy : faS tabA 54 1 = some 1 := by kernel_rfl
theorem zjz : inS tabA 118 = some 1 := by kernel_rfl
theorem zka : inS tabA 124 = some 5 := by kernel_rfl
theorem zkb : inS tabA 24 = some 2 := by kernel_rfl
theorem zkc : inS tabA 3 = some 1 := by kernel_rfl
theorem zkd : inS tabA 32 = some 1 := by kernel_rfl
theorem zke : inS tabA 34 = some 2 := by kernel_rfl
theorem zkf : inS tabA 43 = some 2 := by kernel_rfl
theorem zkg : inS tabA 45 = some 9 := by kernel_rfl
theorem zkh : inS tabA 46 = some 9 := by kernel_rfl
theorem zki : inS tabA 50 = some 2 := by kernel_rfl
theorem zkj : ldS tabA 105 = some 0 := by kernel_rfl
theorem zkk : ldS tabA 118 = some 0 := by kernel_rfl
theorem zkl : ldS tabA 124 = some 6 := by kernel_rfl
theorem zkm : ldS tabA 22 = some 0 := by kernel_rfl
theorem zkn : ldS tabA 24 = some 3 := by kernel_rfl
theorem zko : ldS tabA 26 = some 3 := by kernel_rfl
theorem zkp : ldS tabA 28 = some 3 := by kernel_rfl
theorem zkq : ldS tabA 3 = some 0 := by kernel_rfl
theorem zkr : ldS tabA 32 = some 0 := by kernel_rfl
theorem zks : ldS tabA 34 = some 3 := by kernel_rfl
theorem zkt : ldS tabA 4 = some 0 := by kernel_rfl
theorem zku : ldS tabA 43 = some 3 := by kernel_rfl
theorem zkv : ldS tabA 45 = some 10 := by kernel_rfl
theorem zkw : ldS tabA 46 = some 10 := by kernel_rfl
theorem zkx : ldS tabA 50 = some 3 := by kernel_rfl
theorem zky : ldS tabA 54 = some 3 := by kernel_rfl
theorem fn_22 : tabA.fn 22 = some Try.f22 := by kernel_rfl
theorem fn_25 : tabA.fn 25 = some Try.f25 := by kernel_rfl
theorem fn_76 : tabA.fn 76 = some Try.f76 := by kernel_rfl
theorem fn_77 : tabA.fn 77 = some Try.f77 := by kernel_rfl
theorem fn_78 : tabA.fn 78 = some Try.f78 := by kernel_rfl
theorem fn_79 : tabA.fn 79 = some Try.f79 := by kernel_rfl
theorem fn_80 : tabA.fn 80 = some Try.f80 := by kernel_rfl
theorem fn_82 : tabA.fn 82 = some Try.f82 := by kernel_rfl
theorem fn_83 : tabA.fn 83 = some Try.f83 := by kernel_rfl
theorem fn_84 : tabA.fn 84 = some Try.f84 := by kernel_rfl
theorem fn_98 : tabA.fn 98 = some Try.f98 := by kernel_rfl
theorem fn_100 : tabA.fn 100 = some Try.f100 := by kernel_rfl
theorem fn_107 : tabA.fn 107 = some Try.f107 := by kernel_rfl
theorem fn_116 : tabA.fn 116 = some Try.f116 := by kernel_rfl
theorem fn_117 : tabA.fn 117 = some Try.f117 := by kernel_rfl
theorem fn_127 : tabA.fn 127 = some Try.f127 := by kernel_rfl
theorem fn_128 : tabA.fn 128 = some Try.f128 := by kernel_rfl
end Go.Am
set_option linter.defProp false
namespace Go.Am
open Go.Proofs
def yp := (And.intro (And.intro (And.intro (And.intro (And.intro @zac @zad) (And.intro @zae @zaf)) (And.intro (And.intro @zag @zah) (And.intro @zai @zaj))) (And.intro (And.intro (And.intro @zak @zal) (And.intro @zam @zan)) (And.intro (And.intro @zao @zap) (And.intro @zaq (And.intro @zar @zas))))) (And.intro (And.intro (And.intro (And.intro @zat @zau) (And.intro @zav @zaw)) (And.intro (And.intro @zax @zdz) (And.intro @zeb (And.intro @zem @zen)))) (And.intro (And.intro (And.intro @zew @zfi) (And.intro @zfj @zfk)) (And.intro (And.intro @zhj @zhk) (And.intro @zhl (And.intro @zhm @zhn))))))
def yq0 := (And.intro (And.intro (And.intro (And.intro (And.intro @zaa @zab) (And.intro @zay (And.intro @zaz @zba))) (And.intro (And.intro @zbb @zbc) (And.intro @zbd (And.intro @zbe @zbf)))) (And.intro (And.intro (And.intro @zbg @zbh) (And.intro @zbi (And.intro @zbj @zbk))) (And.intro (And.intro @zbl @zbm) (And.intro @zbn (And.intro @zbo @zbp))))) (And.intro (And.intro (And.intro (And.intro @zbq @zbr) (And.intro @zbs (And.intro @zbt @zbu))) (And.intro (And.intro @zbv @zbw) (And.intro @zbx (And.intro @zby @zbz)))) (And.intro (And.intro (And.intro @zca @zcb) (And.intro @zcc (And.intro @zcd @zce))) (And.intro (And.intro @zcf @zcg) (And.intro @zch (And.intro @zci @zcj))))))
def yq1 := (And.intro (And.intro (And.intro (And.intro (And.intro @zck @zcl) (And.intro @zcm (And.intro @zcn @zco))) (And.intro (And.intro @zcp @zcq) (And.intro @zcr (And.intro @zcs @zct)))) (And.intro (And.intro (And.intro @zcu @zcv) (And.intro @zcw (And.intro @zcx @zcy))) (And.intro (And.intro @zcz @zda) (And.intro @zdb (And.intro @zdc @zdd))))) (And.intro (And.intro (And.intro (And.intro @zde @zdf) (And.intro @zdg (And.intro @zdh @zdi))) (And.intro (And.intro @zdj @zdk) (And.intro @zdl (And.intro @zdm @zdn)))) (And.intro (And.intro (And.intro @zdo @zdp) (And.intro @zdq (And.intro @zdr @zds))) (And.intro (And.intro @zdt @zdu) (And.intro @zdv (And.intro @zdw @zdx))))))
def yq2 := (And.intro (And.intro (And.intro (And.intro (And.intro @zdy @zea) (And.intro @zec (And.intro @zef @zeg))) (And.intro (And.intro @zeh @zei) (And.intro @zej (And.intro @zek @zel)))) (And.intro (And.intro (And.intro @zeo @zep) (And.intro @zeq (And.intro @zer @zes))) (And.intro (And.intro @zet @zeu) (And.intro @zev (And.intro @zex @zey))))) (And.intro (And.intro (And.intro (And.intro @zez @zfa) (And.intro @zfb (And.intro @zfc @zfd))) (And.intro (And.intro @zfe @zff) (And.intro @zfg (And.intro @zfh @zfl)))) (And.intro (And.intro (And.intro @zfm @zfn) (And.intro @zfo (And.intro @zfp @zfq))) (And.intro (And.intro @zfs @zft) (And.intro @zfu (And.intro @zfv @zfw))))))
def yq3 := (And.intro (And.intro (And.intro (And.intro (And.intro @zfx @zfy) (And.intro @zfz (And.intro @zga @zgb))) (And.intro (And.intro @zgc @zgd) (And.intro @zge (And.intro @zgf @zgg)))) (And.intro (And.intro (And.intro @zgh @zgi) (And.intro @zgj (And.intro @zgk @zgl))) (And.intro (And.intro @zgm @zgn) (And.intro @zgo (And.intro @zgp @zgq))))) (And.intro (And.intro (And.intro (And.intro @zgr @zgs) (And.intro @zgt (And.intro @zgu @zgv))) (And.intro (And.intro @zgw @zgx) (And.intro @zgy (And.intro @zgz @zha)))) (And.intro (And.intro (And.intro @zhb @zhc) (And.intro @zhd (And.intro @zhe @zhf))) (And.intro (And.intro @zhg @zhh) (And.intro @zhi (And.intro @zho @zhp))))))
def yq4 := (And.intro (And.intro (And.intro @zhq @zhr) (And.intro @zhs (And.intro @zht @zhu))) (And.intro (And.intro @zhv (And.intro @zhx @zhy)) (And.intro @zhz (And.intro @zia @zib))))
def yl := (And.intro (And.intro (And.intro (And.intro (And.intro @Nat.le_refl @cond_true.{1}) (And.intro @cond_false.{1} (And.intro @Nat.zero_add @List.nil_append.{0}))) (And.intro (And.intro @List.cons_append.{0} @List.append_nil.{0}) (And.intro @List.take_zero.{0} (And.intro @List.take_succ_cons.{0} @List.drop_zero.{0})))) (And.intro (And.intro (And.intro @List.drop_succ_cons.{0} @List.drop_nil.{0}) (And.intro @decide_true (And.intro @decide_false @Bool.and_self))) (And.intro (And.intro @Bool.true_and @List.length_cons.{0}) (And.intro @List.length_nil.{0} (And.intro @Int.toNat_natCast @Bool.or_true))))) (And.intro (And.intro (And.intro (And.intro @Bool.true_or @Bool.false_or) (And.intro @Bool.or_false (And.intro @Bool.and_true @Bool.and_false))) (And.intro (And.intro @Bool.false_and @Bool.not_true) (And.intro @Bool.not_false (And.intro @and_true @true_and)))) (And.intro (And.intro (And.intro @List.getElem?_cons_zero.{0} @List.getElem?_cons_succ.{0}) (And.intro @Nat.le_add_right (And.intro @List.map_cons.{0, 0} @List.map_nil.{0, 0}))) (And.intro (And.intro @List.map_toArray.{0, 0} (And.intro @List.append_toArray.{0} @if_true.{1})) (And.intro @if_false.{1} (And.intro @Nat.add_zero @Nat.mul_one))))))
def ys0 := (And.intro (And.intro (And.intro (And.intro (And.intro @zic @zid) (And.intro @zie (And.intro @zif @zig))) (And.intro (And.intro @zih @zii) (And.intro @zij (And.intro @zik @zil)))) (And.intro (And.intro (And.intro @zim @zin) (And.intro @zio (And.intro @ziq @zir))) (And.intro (And.intro @zis @zit) (And.intro @ziu (And.intro @ziv @ziw))))) (And.intro (And.intro (And.intro (And.intro @zix @ziy) (And.intro @ziz (And.intro @zja @zjb))) (And.intro (And.intro @zjc @zjd) (And.intro @zje (And.intro @zjf @zjg)))) (And.intro (And.intro (And.intro @zjh @zji) (And.intro @zjj (And.intro @zjk @zjl))) (And.intro (And.intro @zjm @zjn) (And.intro @zjo (And.intro @zjp @zjq))))))
def ys1 := (And.intro (And.intro (And.intro (And.intro (And.intro @zjr @zjs) (And.intro @zjt @zju)) (And.intro (And.intro @zjv @zjw) (And.intro @zjx @zjy))) (And.intro (And.intro (And.intro @zjz @zka) (And.intro @zkb @zkc)) (And.intro (And.intro @zkd @zke) (And.intro @zkf (And.intro @zkg @zkh))))) (And.intro (And.intro (And.intro (And.intro @zki @zkj) (And.intro @zkk @zkl)) (And.intro (And.intro @zkm @zkn) (And.intro @zko @zkp))) (And.intro (And.intro (And.intro @zkq @zkr) (And.intro @zks @zkt)) (And.intro (And.intro @zku @zkv) (And.intro @zkw (And.intro @zkx @zky))))))
def yk := And.intro @ne_eq @not_false_eq_true
def yz := (And.intro @zde (And.intro @zdf @zdg))
def yg := (And.intro (And.intro (And.intro (And.intro @zbw @zbx) (And.intro @zby @zcz)) (And.intro (And.intro @zda @zdb) (And.intro @zdc (And.intro @zdd @zde)))) (And.intro (And.intro (And.intro @zdf @zdg) (And.intro @zdh @zdi)) (And.intro (And.intro @Nat.le_refl @Nat.zero_add) (And.intro @Nat.add_zero (And.intro @true_and @and_true)))))
end Go.Am
