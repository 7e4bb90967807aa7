/- One operation, by recursors, for the kernel. -/
import Derived.Test.YtnibabkgeolenaaT7
set_option linter.unusedSimpArgs false
set_option linter.unusedVariables false
namespace Go.Am
variable {α β γ : Type} {T : Tab} {P : Program} {H : AHeap} {g : Nat → Option Value}

abbrev KK (γ : Type) := Bool → Value → AHeap → Nat → Option γ
def bnd (r : Res) (k : KK γ) : Option γ := match r with
  | some (b, v, H, m) => k b v H m
  | none => none
def bnv (r : Option α) (k : α → Option γ) : Option γ := match r with
  | some v => k v
  | none => none
@[simp] theorem bnd_none (k : KK γ) : bnd none k = none := rfl
@[simp] theorem bnd_some (k : KK γ) (b : Bool) (v : Value) (H : AHeap) (m : Nat) : bnd (some (b, v, H, m)) k = k b v H m := rfl
@[simp] theorem bnv_none (k : α → Option γ) : bnv none k = none := rfl
@[simp] theorem bnv_some (k : α → Option γ) (v : α) : bnv (some v) k = k v := rfl

noncomputable def optF (r : Option α) (k : α → Option γ) : Option γ := Option.rec (motive := fun _ => Option γ) none k r
@[simp] theorem optF_eq (r : Option α) (k : α → Option γ) : optF r k = bnv r k := by cases r <;> rfl
noncomputable def ifF (b : Bool) (x : Option γ) : Option γ := Bool.rec (motive := fun _ => Option γ) none x b
@[simp] theorem ifF_eq (b : Bool) (x : Option γ) : ifF b x = bif b then x else none := by cases b <;> rfl

/-! ### Values written out -/
noncomputable def addrF (a : Option Addr) (k : Option Addr → α) : α := Option.rec (motive := fun _ => α) (k none)
  (fun a => Addr.rec (motive := fun _ => α) (fun b o s => natF b fun b => natF o fun o => Option.rec (motive := fun _ => α) (k (some ⟨b, o, none⟩)) (fun s => k (some ⟨b, o, some s⟩)) s) a) a
@[simp] theorem addrF_eq (a : Option Addr) (k : Option Addr → α) : addrF a k = k a := by
  cases a with
  | none => rfl
  | some a =>
    obtain ⟨b, o, s⟩ := a
    have h : addrF (some ⟨b, o, s⟩) k = natF b fun b => natF o fun o => Option.rec (motive := fun _ => α) (k (some ⟨b, o, none⟩)) (fun s => k (some ⟨b, o, some s⟩)) s := rfl
    rw [h, natF_eq, natF_eq]; cases s <;> rfl
noncomputable def mapRF (r : Option Nat) (k : Option Nat → α) : α := Option.rec (motive := fun _ => α) (k none) (fun n => natF n fun n => k (some n)) r
@[simp] theorem mapRF_eq (r : Option Nat) (k : Option Nat → α) : mapRF r k = k r := by
  cases r with
  | none => rfl
  | some n => exact natF_eq n (fun n => k (some n))
/-- A value without parts, written out; others by the slow form. -/
noncomputable def leafF (v : Value) (k : Value → α) : α := Value.rec (motive_1 := fun _ => α) (motive_2 := fun _ => PUnit.{1}) (motive_3 := fun _ => PUnit.{1}) (fun b => Bool.rec (motive := fun _ => α) (k (.bool false)) (k (.bool true)) b) (fun q n => intF n fun n => k (.int q n)) (fun a b => k (.float a b)) (fun a b c => k (.complex a b c)) (fun s => k (.string s)) (fun a => addrF a fun a => k (.pointer a)) (fun a l c => addrF a fun a => natF l fun l => natF c fun c => k (.slice a l c)) (fun r => mapRF r fun r => k (.map r)) (fun r => k (.chan r)) (fun f a b _ _ => fV (.func f a b) k) (k .nilFunc) (fun t v _ => fV (.iface t v) k) (k .nilIface) (fun c _ => fV (.agg c) k) (fun c _ => fV (.tuple c) k) (fun _ _ => PUnit.unit) PUnit.unit (fun _ _ _ _ => PUnit.unit) v
@[simp] theorem leafF_eq (v : Value) (k : Value → α) : leafF v k = k v := by
  cases v with
  | bool b => cases b <;> rfl
  | int q n => exact intF_eq n (fun n => k (.int q n))
  | pointer a => exact addrF_eq a (fun a => k (.pointer a))
  | slice a l c =>
    have h : leafF (.slice a l c) k = addrF a fun a => natF l fun l => natF c fun c => k (.slice a l c) := rfl
    rw [h, addrF_eq, natF_eq, natF_eq]
  | map r => exact mapRF_eq r (fun r => k (.map r))
  | func f a b => exact fV_eq _ k
  | iface t v => exact fV_eq _ k
  | agg c => exact fV_eq _ k
  | tuple c => exact fV_eq _ k
  | _ => rfl
noncomputable def leafsF (l : List Value) : (List Value → α) → α := List.rec (motive := fun _ => (List Value → α) → α) (fun k => k []) (fun x _ ih k => leafF x fun x => ih fun xs => k (x :: xs)) l
@[simp] theorem leafsF_eq : ∀ (l : List Value) (k : List Value → α), leafsF l k = k l
  | [], _ => rfl
  | x :: l, k => by
    have h : leafsF (x :: l) k = leafF x fun x => leafsF l fun xs => k (x :: xs) := rfl
    rw [h, leafF_eq, leafsF_eq l]
noncomputable def partsF (c : Array Value) (k : Array Value → α) : α := Array.rec (motive := fun _ => α) (fun l => leafsF l fun l => k ⟨l⟩) c
@[simp] theorem partsF_eq (c : Array Value) (k : Array Value → α) : partsF c k = k c := by
  obtain ⟨l⟩ := c; exact leafsF_eq l _
/-- A value, written out: parts are so, too. -/
noncomputable def fullF (v : Value) (k : Value → α) : α := Value.rec (motive_1 := fun _ => α) (motive_2 := fun _ => PUnit.{1}) (motive_3 := fun _ => PUnit.{1}) (fun b => Bool.rec (motive := fun _ => α) (k (.bool false)) (k (.bool true)) b) (fun q n => intF n fun n => k (.int q n)) (fun a b => k (.float a b)) (fun a b c => k (.complex a b c)) (fun s => k (.string s)) (fun a => addrF a fun a => k (.pointer a)) (fun a l c => addrF a fun a => natF l fun l => natF c fun c => k (.slice a l c)) (fun r => mapRF r fun r => k (.map r)) (fun r => k (.chan r)) (fun f a b _ _ => partsF a fun a => partsF b fun b => k (.func f a b)) (k .nilFunc) (fun t v _ => leafF v fun v => k (.iface t v)) (k .nilIface) (fun c _ => partsF c fun c => k (.agg c)) (fun c _ => partsF c fun c => k (.tuple c)) (fun _ _ => PUnit.unit) PUnit.unit (fun _ _ _ _ => PUnit.unit) v
@[simp] theorem fullF_eq (v : Value) (k : Value → α) : fullF v k = k v := by
  cases v with
  | bool b => cases b <;> rfl
  | int q n => exact intF_eq n (fun n => k (.int q n))
  | pointer a => exact addrF_eq a (fun a => k (.pointer a))
  | slice a l c =>
    have h : fullF (.slice a l c) k = addrF a fun a => natF l fun l => natF c fun c => k (.slice a l c) := rfl
    rw [h, addrF_eq, natF_eq, natF_eq]
  | map r => exact mapRF_eq r (fun r => k (.map r))
  | func f a b =>
    have h : fullF (.func f a b) k = partsF a fun a => partsF b fun b => k (.func f a b) := rfl
    rw [h, partsF_eq, partsF_eq]
  | iface t v => exact leafF_eq v (fun v => k (.iface t v))
  | agg c => exact partsF_eq c (fun c => k (.agg c))
  | tuple c => exact partsF_eq c (fun c => k (.tuple c))
  | _ => rfl
noncomputable def grsF (l : List Value) : Bool := List.rec (motive := fun _ => Bool) true (fun x _ ih => Value.rec (motive_1 := fun _ => Bool) (motive_2 := fun _ => PUnit.{1}) (motive_3 := fun _ => PUnit.{1}) (fun _ => ih) (fun _ _ => ih) (fun _ _ => ih) (fun _ _ _ => ih) (fun _ => ih) (fun a => Option.rec (motive := fun _ => Bool) ih (fun _ => false) a) (fun a l c => Bool.rec (motive := fun _ => Bool) false ih (ground 5 (.slice a l c))) (fun a => Bool.rec (motive := fun _ => Bool) false ih (ground 5 (.map a))) (fun a => Bool.rec (motive := fun _ => Bool) false ih (ground 5 (.chan a))) (fun f a b _ _ => Bool.rec (motive := fun _ => Bool) false ih (ground 5 (.func f a b))) ih (fun t v _ => Bool.rec (motive := fun _ => Bool) false ih (ground 5 (.iface t v))) ih (fun c _ => Bool.rec (motive := fun _ => Bool) false ih (ground 5 (.agg c))) (fun c _ => Bool.rec (motive := fun _ => Bool) false ih (ground 5 (.tuple c))) (fun _ _ => PUnit.unit) PUnit.unit (fun _ _ _ _ => PUnit.unit) x) l
theorem grsF_eq : ∀ l : List Value, grsF l = l.all (ground 5)
  | [] => rfl
  | x :: l => by
    rw [List.all_cons, ← grsF_eq l]
    cases x with
    | pointer a => cases a <;> simp [grsF, ground]
    | slice a b c =>
      have h : grsF (.slice a b c :: l) = Bool.rec (motive := fun _ => Bool) false (grsF l) (ground 5 (.slice a b c)) := rfl
      rw [h, boolRec_eq]; cases ground 5 (.slice a b c) <;> rfl
    | map a =>
      have h : grsF (.map a :: l) = Bool.rec (motive := fun _ => Bool) false (grsF l) (ground 5 (.map a)) := rfl
      rw [h, boolRec_eq]; cases ground 5 (.map a) <;> rfl
    | chan a =>
      have h : grsF (.chan a :: l) = Bool.rec (motive := fun _ => Bool) false (grsF l) (ground 5 (.chan a)) := rfl
      rw [h, boolRec_eq]; cases ground 5 (.chan a) <;> rfl
    | func f a b =>
      have h : grsF (.func f a b :: l) = Bool.rec (motive := fun _ => Bool) false (grsF l) (ground 5 (.func f a b)) := rfl
      rw [h, boolRec_eq]; cases ground 5 (.func f a b) <;> rfl
    | iface t v =>
      have h : grsF (.iface t v :: l) = Bool.rec (motive := fun _ => Bool) false (grsF l) (ground 5 (.iface t v)) := rfl
      rw [h, boolRec_eq]; cases ground 5 (.iface t v) <;> rfl
    | agg c =>
      have h : grsF (.agg c :: l) = Bool.rec (motive := fun _ => Bool) false (grsF l) (ground 5 (.agg c)) := rfl
      rw [h, boolRec_eq]; cases ground 5 (.agg c) <;> rfl
    | tuple c =>
      have h : grsF (.tuple c :: l) = Bool.rec (motive := fun _ => Bool) false (grsF l) (ground 5 (.tuple c)) := rfl
      rw [h, boolRec_eq]; cases ground 5 (.tuple c) <;> rfl
    | _ => simp [grsF, ground]
noncomputable def grF (v : Value) : Bool := Value.rec (motive_1 := fun _ => Bool) (motive_2 := fun _ => PUnit.{1}) (motive_3 := fun _ => PUnit.{1}) (fun _ => true) (fun _ _ => true) (fun _ _ => true) (fun _ _ _ => true) (fun _ => true) (fun a => Option.rec (motive := fun _ => Bool) true (fun _ => false) a) (fun a l c => gr (.slice a l c)) (fun a => gr (.map a)) (fun a => gr (.chan a)) (fun f a b _ _ => gr (.func f a b)) true (fun t v _ => gr (.iface t v)) true (fun c _ => grsF c.toList) (fun c _ => grsF c.toList) (fun _ _ => PUnit.unit) PUnit.unit (fun _ _ _ _ => PUnit.unit) v
@[simp] theorem grF_eq (v : Value) : grF v = gr v := by
  cases v with
  | pointer a => cases a <;> rfl
  | agg c => show grsF c.toList = _; rw [grsF_eq]; rfl
  | tuple c => show grsF c.toList = _; rw [grsF_eq]; rfl
  | _ => rfl

/-! ### Operands -/
def envG (g : Nat → Option Value) : Operand → Option Value
  | .tmp i => g i
  | .const v => bif gr v then some v else none
  | .func f => some (.func (.func f) #[] #[])
  | .global _ => none
noncomputable def evF (g : Nat → Option Value) (x : Operand) (k : Value → Option γ) : Option γ :=
  Operand.rec (motive := fun _ => Option γ) (fun i => optF (g i) k) (fun v => ifF (gr v) (k v)) (fun _ => none) (fun f => k (.func (.func f) #[] #[])) x
@[simp] theorem evF_eq (x : Operand) (k : Value → Option γ) : evF g x k = bnv (envG g x) k := by
  cases x with
  | tmp i => exact optF_eq _ _
  | const v =>
    show ifF (gr v) (k v) = _
    rw [ifF_eq]; simp only [envG]; cases gr v <;> rfl
  | _ => rfl

noncomputable def ptrF (v : Value) (k : Addr → Option γ) : Option γ := Value.rec (motive_1 := fun _ => Option γ) (motive_2 := fun _ => PUnit.{1}) (motive_3 := fun _ => PUnit.{1}) (fun _ => none) (fun _ _ => none) (fun _ _ => none) (fun _ _ _ => none) (fun _ => none) (fun a => optF a k) (fun _ _ _ => none) (fun _ => none) (fun _ => none) (fun _ _ _ _ _ => none) none (fun _ _ _ => none) none (fun _ _ => none) (fun _ _ => none) (fun _ _ => PUnit.unit) PUnit.unit (fun _ _ _ _ => PUnit.unit) v
noncomputable def slcF (v : Value) (k : Option Addr → Nat → Nat → Option γ) : Option γ := Value.rec (motive_1 := fun _ => Option γ) (motive_2 := fun _ => PUnit.{1}) (motive_3 := fun _ => PUnit.{1}) (fun _ => none) (fun _ _ => none) (fun _ _ => none) (fun _ _ _ => none) (fun _ => none) (fun _ => none) k (fun _ => none) (fun _ => none) (fun _ _ _ _ _ => none) none (fun _ _ _ => none) none (fun _ _ => none) (fun _ _ => none) (fun _ _ => PUnit.unit) PUnit.unit (fun _ _ _ _ => PUnit.unit) v
noncomputable def intVF (v : Value) (k : IntKind → Int → Option γ) : Option γ := Value.rec (motive_1 := fun _ => Option γ) (motive_2 := fun _ => PUnit.{1}) (motive_3 := fun _ => PUnit.{1}) (fun _ => none) k (fun _ _ => none) (fun _ _ _ => none) (fun _ => none) (fun _ => none) (fun _ _ _ => none) (fun _ => none) (fun _ => none) (fun _ _ _ _ _ => none) none (fun _ _ _ => none) none (fun _ _ => none) (fun _ _ => none) (fun _ _ => PUnit.unit) PUnit.unit (fun _ _ _ _ => PUnit.unit) v
noncomputable def tupF (v : Value) (k : Array Value → Option γ) : Option γ := Value.rec (motive_1 := fun _ => Option γ) (motive_2 := fun _ => PUnit.{1}) (motive_3 := fun _ => PUnit.{1}) (fun _ => none) (fun _ _ => none) (fun _ _ => none) (fun _ _ _ => none) (fun _ => none) (fun _ => none) (fun _ _ _ => none) (fun _ => none) (fun _ => none) (fun _ _ _ _ _ => none) none (fun _ _ _ => none) none (fun _ _ => none) (fun c _ => k c) (fun _ _ => PUnit.unit) PUnit.unit (fun _ _ _ _ => PUnit.unit) v
noncomputable def aggF (v : Value) (k : Array Value → Option γ) : Option γ := Value.rec (motive_1 := fun _ => Option γ) (motive_2 := fun _ => PUnit.{1}) (motive_3 := fun _ => PUnit.{1}) (fun _ => none) (fun _ _ => none) (fun _ _ => none) (fun _ _ _ => none) (fun _ => none) (fun _ => none) (fun _ _ _ => none) (fun _ => none) (fun _ => none) (fun _ _ _ _ _ => none) none (fun _ _ _ => none) none (fun c _ => k c) (fun _ _ => none) (fun _ _ => PUnit.unit) PUnit.unit (fun _ _ _ _ => PUnit.unit) v
noncomputable def boolF (v : Value) (k : Bool → Option γ) : Option γ := Value.rec (motive_1 := fun _ => Option γ) (motive_2 := fun _ => PUnit.{1}) (motive_3 := fun _ => PUnit.{1}) k (fun _ _ => none) (fun _ _ => none) (fun _ _ _ => none) (fun _ => none) (fun _ => none) (fun _ _ _ => none) (fun _ => none) (fun _ => none) (fun _ _ _ _ _ => none) none (fun _ _ _ => none) none (fun _ _ => none) (fun _ _ => none) (fun _ _ => PUnit.unit) PUnit.unit (fun _ _ _ _ => PUnit.unit) v
noncomputable def funF (v : Value) (k : Fn → Array Value → Array Value → Option γ) : Option γ := Value.rec (motive_1 := fun _ => Option γ) (motive_2 := fun _ => PUnit.{1}) (motive_3 := fun _ => PUnit.{1}) (fun _ => none) (fun _ _ => none) (fun _ _ => none) (fun _ _ _ => none) (fun _ => none) (fun _ => none) (fun _ _ _ => none) (fun _ => none) (fun _ => none) (fun f a b _ _ => k f a b) none (fun _ _ _ => none) none (fun _ _ => none) (fun _ _ => none) (fun _ _ => PUnit.unit) PUnit.unit (fun _ _ _ _ => PUnit.unit) v

/-! ### Lists -/
noncomputable def nthF (l : List α) : Nat → (α → Option γ) → Option γ := List.rec (motive := fun _ => Nat → (α → Option γ) → Option γ) (fun _ _ => none)
  (fun x _ ih n k => Bool.rec (motive := fun _ => Option γ) (ih (Nat.sub n 1) k) (k x) (Nat.beq n 0)) l
@[simp] theorem nthF_eq : ∀ (l : List α) (n : Nat) (k : α → Option γ), nthF l n k = bnv l[n]? k
  | [], _, _ => rfl
  | x :: l, n, k => by
    have h : nthF (x :: l) n k = Bool.rec (motive := fun _ => Option γ) (nthF l (n - 1) k) (k x) (Nat.beq n 0) := rfl
    rw [h, boolRec_eq, nthF_eq l]
    cases n <;> rfl
noncomputable def dropF (l : List α) : Nat → List α := List.rec (motive := fun _ => Nat → List α) (fun _ => [])
  (fun x xs ih n => Bool.rec (motive := fun _ => List α) (ih (Nat.sub n 1)) (x :: xs) (Nat.beq n 0)) l
@[simp] theorem dropF_eq : ∀ (l : List α) (n : Nat), dropF l n = l.drop n
  | [], n => by simp [dropF]
  | x :: l, n => by
    have h : dropF (x :: l) n = Bool.rec (motive := fun _ => List α) (dropF l (n - 1)) (x :: l) (Nat.beq n 0) := rfl
    rw [h, boolRec_eq, dropF_eq l]
    cases n <;> rfl
noncomputable def takeF (l : List α) : Nat → (List α → Option γ) → Option γ := List.rec (motive := fun _ => Nat → (List α → Option γ) → Option γ)
  (fun s k => ifF (Nat.beq s 0) (k [])) (fun x _ ih s k => Bool.rec (motive := fun _ => Option γ) (ih (Nat.sub s 1) fun xs => k (x :: xs)) (k []) (Nat.beq s 0)) l
@[simp] theorem takeF_eq : ∀ (l : List α) (s : Nat) (k : List α → Option γ), takeF l s k = bif Nat.beq (l.take s).length s then k (l.take s) else none
  | [], s, k => by
    show ifF (Nat.beq s 0) (k []) = _
    rw [ifF_eq]
    cases s <;> rfl
  | x :: l, s, k => by
    have h : takeF (x :: l) s k = Bool.rec (motive := fun _ => Option γ) (takeF l (s - 1) fun xs => k (x :: xs)) (k []) (Nat.beq s 0) := rfl
    rw [h, boolRec_eq, takeF_eq l]
    cases s with
    | zero => rfl
    | succ s =>
      have h : Nat.beq (s + 1) 0 = false := rfl
      have h2 : Nat.beq ((List.take s l).length + 1) (s + 1) = Nat.beq (List.take s l).length s := rfl
      simp only [h,cond_false,Nat.add_sub_cancel,List.take_succ_cons,List.length_cons,h2]
/-- One element changed; nothing past the end. -/
noncomputable def chgF (l : List α) : Nat → α → (List α → Option γ) → Option γ := List.rec (motive := fun _ => Nat → α → (List α → Option γ) → Option γ) (fun _ _ _ => none)
  (fun x xs ih n v k => Bool.rec (motive := fun _ => Option γ) (ih (Nat.sub n 1) v fun xs => k (x :: xs)) (k (v :: xs)) (Nat.beq n 0)) l
@[simp] theorem chgF_eq : ∀ (l : List α) (n : Nat) (v : α) (k : List α → Option γ), chgF l n v k = bif Nat.ble (n + 1) l.length then k (l.take n ++ [v] ++ l.drop (n + 1)) else none
  | [], _, _, _ => rfl
  | x :: l, n, v, k => by
    have h : chgF (x :: l) n v k = Bool.rec (motive := fun _ => Option γ) (chgF l (n - 1) v fun xs => k (x :: xs)) (k (v :: l)) (Nat.beq n 0) := rfl
    rw [h, boolRec_eq, chgF_eq l]
    cases n with
    | zero => rfl
    | succ n => rfl
noncomputable def appF (a b : List α) : List α := List.rec (motive := fun _ => List α) b (fun x _ ih => x :: ih) a
@[simp] theorem appF_eq (b : List α) : ∀ a, appF a b = a ++ b
  | [] => rfl
  | x :: a => by
    have h : appF (x :: a) b = x :: appF a b := rfl
    rw [h, appF_eq b a]; rfl
noncomputable def lenF (l : List α) : Nat := List.rec (motive := fun _ => Nat) 0 (fun _ _ ih => Nat.succ ih) l
@[simp] theorem lenF_eq : ∀ l : List α, lenF l = l.length
  | [] => rfl
  | x :: l => by
    have h : lenF (x :: l) = Nat.succ (lenF l) := rfl
    rw [h, lenF_eq l]; rfl

/-! ### Moves, fields, loads, stores -/
noncomputable def moveF (g : Nat → Option Value) (H : AHeap) (k : KK γ) (x : Operand) : Option γ := evF g x fun v => k true v H H.size
theorem moveF_eq (k : KK γ) (x : Operand) : moveF g H k x = bnd (still (aMove (envG g) H x)) k := by
  unfold moveF aMove; rw [evF_eq]; cases envG g x <;> rfl

def ldS (T : Tab) (ty : TypeId) : Option Nat := match T.und ty, T.inf ty with
  | some d, some i => fNat (bif aggOf d then i.size + 1 else 0) some
  | _, _ => none
noncomputable def cellsF (b : ABlk) (k : List Value → Option γ) : Option γ := ABlk.rec (motive := fun _ => Option γ) none k (fun c _ _ _ => k c) (fun _ _ => none) (fun _ _ _ _ _ _ _ => none) none b
theorem cellsF_eq (b : ABlk) (k : List Value → Option γ) : cellsF b k = bnv (cellsOf b) k := by cases b <;> rfl
noncomputable def readF (z : Option Nat) (b : ABlk) (off : Nat) (k : Value → Option γ) : Option γ := optF z fun z => cellsF b fun c =>
  Nat.rec (motive := fun _ => Option γ) (nthF c off k) (fun s _ => takeF (dropF c off) s fun l => k (.agg ⟨l⟩)) z
theorem readF_eq (ty : TypeId) (a : Addr) (k : Value → Option γ) : readF (ldS T ty) (H.getF a.block) a.off k = bnv (aRead T H ty a) k := by
  unfold readF aRead ldS
  rw [optF_eq, AHeap.getF_eq]
  cases T.und ty with
  | none => cases cellsOf (H.get a.block) <;> rfl
  | some d =>
    cases T.inf ty with
    | none => cases cellsOf (H.get a.block) <;> rfl
    | some i =>
      simp only [fNat_eq,bnv_some]
      rw [cellsF_eq]
      cases cellsOf (H.get a.block) with
      | none => rfl
      | some c =>
        simp only [bnv_some]
        cases aggOf d
        · exact nthF_eq c a.off k
        · show takeF (dropF c a.off) i.size (fun l => k (.agg ⟨l⟩)) = _
          rw [takeF_eq, dropF_eq]
          simp only [cond_true]
          cases Nat.beq (List.take i.size (List.drop a.off c)).length i.size <;> rfl
noncomputable def loadF (T : Tab) (g : Nat → Option Value) (H : AHeap) (k : KK γ) (ty : TypeId) (x : Operand) : Option γ :=
  evF g x fun v => ptrF v fun a => readF (ldS T ty) (H.getF a.block) a.off fun v => k true v H H.size
theorem loadF_eq (k : KK γ) (ty : TypeId) (x : Operand) : loadF T g H k ty x = bnd (still (aLoad T (envG g) H ty x)) k := by
  unfold loadF aLoad; rw [evF_eq]
  cases envG g x with
  | none => rfl
  | some v =>
    cases v with
    | pointer a =>
      cases a with
      | none => rfl
      | some a =>
        show readF (ldS T ty) (H.getF a.block) a.off (fun v => k true v H H.size) = _
        rw [readF_eq]
        simp only
        cases aRead T H ty a <;> rfl
    | _ => rfl

def faS (T : Tab) (ty : TypeId) (f : Nat) : Option Nat := match T.und ty with
  | some (.struct fs) => match fs[f]? with
    | some fd => match T.inf fd.type with
      | some i => bif Nat.beq i.size 0 then none else fNat fd.offset some
      | none => none
    | none => none
  | _ => none
noncomputable def fieldAddrF (T : Tab) (g : Nat → Option Value) (H : AHeap) (k : KK γ) (ty : TypeId) (x : Operand) (f : Nat) : Option γ :=
  evF g x fun v => ptrF v fun a => optF (faS T ty f) fun d => k true (.pointer (some ⟨a.block, Nat.add a.off d, none⟩)) H H.size
theorem fieldAddrF_eq (k : KK γ) (ty : TypeId) (x : Operand) (f : Nat) : fieldAddrF T g H k ty x f = bnd (still (aFieldAddr T (envG g) H ty x f)) k := by
  unfold fieldAddrF aFieldAddr faS; rw [evF_eq]
  cases envG g x with
  | none => rfl
  | some v =>
    cases v with
    | pointer a =>
      cases a with
      | none => rfl
      | some a =>
        show optF _ _ = _
        rw [optF_eq]
        simp only [fNat_eq]
        cases T.und ty with
        | none => rfl
        | some d =>
          cases d with
          | struct fs =>
            simp only
            cases fs[f]? with
            | none => rfl
            | some fd =>
              simp only
              cases T.inf fd.type with
              | none => rfl
              | some i => simp only; cases Nat.beq i.size 0 <;> rfl
          | _ => rfl
    | _ => rfl

/-- A field of a value: its offset, and its size, if it has parts. -/
def fdS (T : Tab) (ty : TypeId) (f : Nat) : Option (Nat × Nat) := match T.und ty with
  | some (.struct fs) => match fs[f]? with
    | some fd => match T.und fd.type, T.inf fd.type with
      | some d, some i => fNat fd.offset fun o => fNat (bif aggOf d then i.size + 1 else 0) fun z => some (o, z)
      | _, _ => none
    | none => none
  | _ => none
noncomputable def upToF (l : List α) : Nat → (List α → Option γ) → Option γ := List.rec (motive := fun _ => Nat → (List α → Option γ) → Option γ)
  (fun _ k => k []) (fun x _ ih s k => Bool.rec (motive := fun _ => Option γ) (ih (Nat.sub s 1) fun xs => k (x :: xs)) (k []) (Nat.beq s 0)) l
@[simp] theorem upToF_eq : ∀ (l : List α) (s : Nat) (k : List α → Option γ), upToF l s k = k (l.take s)
  | [], s, k => by simp [upToF]
  | x :: l, s, k => by
    have h : upToF (x :: l) s k = Bool.rec (motive := fun _ => Option γ) (upToF l (s - 1) fun xs => k (x :: xs)) (k []) (Nat.beq s 0) := rfl
    rw [h, boolRec_eq, upToF_eq l]
    cases s <;> rfl
noncomputable def partF (c : List Value) (off z : Nat) (k : Value → Option γ) : Option γ := Nat.rec (motive := fun _ => Option γ) (nthF c off k) (fun s _ => upToF (dropF c off) s fun l => k (.agg ⟨l⟩)) z
theorem partF_eq (c : List Value) (ty : TypeId) (off : Nat) (k : Value → Option γ) {d : TypeDesc} {i : TypeInfo} (h1 : T.und ty = some d) (h2 : T.inf ty = some i) :
    partF c off (bif aggOf d then i.size + 1 else 0) k = bnv (aPart T ty c off) k := by
  unfold partF aPart
  rw [h1, h2]
  simp only
  cases aggOf d
  · exact nthF_eq c off k
  · show upToF (dropF c off) i.size (fun l => k (.agg ⟨l⟩)) = _
    rw [upToF_eq, dropF_eq]; rfl
noncomputable def fieldF (T : Tab) (g : Nat → Option Value) (H : AHeap) (k : KK γ) (ty : TypeId) (x : Operand) (f : Nat) : Option γ :=
  evF g x fun v => aggF v fun c => optF (fdS T ty f) fun s => Prod.rec (motive := fun _ => Option γ) (fun off z => partF c.toList off z fun v => k true v H H.size) s
theorem fieldF_eq (k : KK γ) (ty : TypeId) (x : Operand) (f : Nat) : fieldF T g H k ty x f = bnd (still (aField T (envG g) H ty x f)) k := by
  unfold fieldF aField fdS; rw [evF_eq]
  cases envG g x with
  | none => rfl
  | some v =>
    cases v with
    | agg c =>
      show optF _ _ = _
      rw [optF_eq]
      simp only [fNat_eq]
      cases T.und ty with
      | none => rfl
      | some d =>
        cases d with
        | struct fs =>
          simp only
          cases fs[f]? with
          | none => rfl
          | some fd =>
            simp only
            cases h1 : T.und fd.type with
            | none => simp [aPart, h1]; rfl
            | some d' =>
              cases h2 : T.inf fd.type with
              | none => simp [aPart, h1, h2]; rfl
              | some i =>
                simp only [bnv_some]
                rw [partF_eq c.toList fd.type fd.offset _ h1 h2]
                cases aPart T fd.type c.toList fd.offset <;> rfl
        | _ => rfl
    | _ => rfl

/-- Elements: the length of an array, or none for a slice; and the size of one. -/
def ixS (T : Tab) (ty : TypeId) : Option (Option Nat × Nat) := match T.und ty with
  | some (.array len e) => match T.inf e with
    | some i => fNat len fun len => fNat i.size fun s => some (some len, s)
    | none => none
  | some (.slice e) => match T.inf e with
    | some i => fNat i.size fun s => some (none, s)
    | none => none
  | _ => none
noncomputable def idxF (w : Value) (len : Nat) (k : Nat → Option γ) : Option γ := intVF w fun _ n => Int.rec (motive := fun _ => Option γ) (fun m => ifF (Nat.ble (Nat.succ m) len) (k m)) (fun _ => none) n
theorem idxF_int (q : IntKind) (n : Int) (len : Nat) (k : Nat → Option γ) : idxF (.int q n) len k = bif decide (0 ≤ n) && decide (n < len) then k n.toNat else none := by
  show Int.rec (motive := fun _ => Option γ) (fun m => ifF (Nat.ble (Nat.succ m) len) (k m)) (fun _ => none) n = _
  cases n with
  | ofNat m =>
    show ifF (Nat.ble (Nat.succ m) len) (k m) = _
    rw [ifF_eq]
    have h1 : decide (0 ≤ Int.ofNat m) = true := decide_eq_true (Int.natCast_nonneg m)
    have h2 : decide (Int.ofNat m < (len : Int)) = Nat.ble (Nat.succ m) len := by
      cases hb : Nat.ble (Nat.succ m) len
      · have h3 : ¬ Nat.succ m ≤ len := fun hh => by rw [Nat.ble_eq_true_of_le hh] at hb; cases hb
        exact decide_eq_false (fun hh => h3 (Int.ofNat_lt.1 hh))
      · exact decide_eq_true (Int.ofNat_lt.2 (Nat.le_of_ble_eq_true hb))
    rw [h1, h2, Bool.true_and]; rfl
  | negSucc m =>
    have h1 : decide (0 ≤ Int.negSucc m) = false := decide_eq_false (by omega)
    rw [h1]; rfl
noncomputable def indexAddrF (T : Tab) (g : Nat → Option Value) (H : AHeap) (k : KK γ) (ty : TypeId) (x ix : Operand) : Option γ :=
  evF g x fun v => evF g ix fun w => optF (ixS T ty) fun s => Prod.rec (motive := fun _ => Option γ) (fun l sz => Option.rec (motive := fun _ => Option γ)
    (slcF v fun a len _ => optF a fun a => idxF w len fun n => k true (.pointer (some ⟨a.block, Nat.add a.off (Nat.mul n sz), none⟩)) H H.size)
    (fun len => ptrF v fun a => idxF w len fun n => k true (.pointer (some ⟨a.block, Nat.add a.off (Nat.mul n sz), none⟩)) H H.size) l) s
theorem indexAddrF_eq (k : KK γ) (ty : TypeId) (x ix : Operand) : indexAddrF T g H k ty x ix = bnd (still (aIndexAddr T (envG g) H ty x ix)) k := by
  unfold indexAddrF aIndexAddr ixS; rw [evF_eq]
  cases envG g x with
  | none => rfl
  | some v =>
    simp only [bnv_some]
    rw [evF_eq]
    cases envG g ix with
    | none => cases v <;> first | rfl | (rename_i a; cases a <;> rfl) | (rename_i a _ _; cases a <;> rfl)
    | some w =>
      simp only [bnv_some,optF_eq,fNat_eq]
      cases T.und ty with
      | none => cases v <;> first | rfl | (rename_i a; cases a <;> first | rfl | (cases w <;> rfl)) | (rename_i a _ _; cases a <;> first | rfl | (cases w <;> rfl))
      | some d =>
        cases d with
        | array len e =>
          simp only
          cases v with
          | pointer a =>
            cases a with
            | none => cases T.inf e <;> rfl
            | some a =>
              cases w with
              | int q n =>
                simp only
                cases T.inf e with
                | none => rfl
                | some i =>
                  show idxF (.int q n) len _ = _
                  rw [idxF_int]
                  simp only
                  cases decide (0 ≤ n) && decide (n < ↑len) <;> rfl
              | _ => cases T.inf e <;> rfl
          | slice a b c => cases a <;> cases w <;> (try simp only) <;> cases T.inf e <;> rfl
          | _ => cases T.inf e <;> rfl
        | slice e =>
          simp only
          cases v with
          | slice a b c =>
            cases a with
            | none => cases T.inf e <;> rfl
            | some a =>
              cases w with
              | int q n =>
                simp only
                cases T.inf e with
                | none => rfl
                | some i =>
                  show idxF (.int q n) b _ = _
                  rw [idxF_int]
                  simp only
                  cases decide (0 ≤ n) && decide (n < ↑b) <;> rfl
              | _ => cases T.inf e <;> rfl
          | pointer a => cases a <;> cases w <;> cases T.inf e <;> rfl
          | _ => cases T.inf e <;> rfl
        | _ => cases v <;> first | rfl | (rename_i a; cases a <;> first | rfl | (cases w <;> rfl)) | (rename_i a _ _; cases a <;> first | rfl | (cases w <;> rfl))
end Go.Am
