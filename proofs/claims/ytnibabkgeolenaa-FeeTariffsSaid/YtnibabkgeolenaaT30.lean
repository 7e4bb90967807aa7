/- More operations on values that are not known: arrays, cuts of arrays, rows that are made. -/
import Derived.Test.YtnibabkgeolenaaT12
import Derived.Test.YtnibabkgeolenaaT29
set_option linter.unusedSimpArgs false
set_option linter.unusedVariables false
namespace Go.Am
variable {α : Type} {T : Tab} {P : Program} {N n L : Nat} {r : Option Nat} {e : VT} {H : AHeap} {ds : List Nat} {ex : Exec} {t : Operand → Option Value} {Q : Bool → Value → AHeap → Prop}

/-! ### Calls -/
/-! ### Rows that are made -/
/-- Two pieces of code, with what is known between them. -/
def midK (n : Nat) (ds : List Nat) (I : VT → AHeap → Prop) (Q : Exit → ES → Prop) (x : Exit) (s : ES) : Prop := match x with
  | .normal => s.n = n ∧ s.ds = ds ∧ I s.e s.H
  | x => Q x s
def midN (I : VT → AHeap → Prop) (e : VT) (H : AHeap) (_ : Tag I := .mk) : Prop := I e H
theorem midK_normal {I : VT → AHeap → Prop} {Q : Exit → ES → Prop} : midK n ds I Q .normal ⟨n, e, H, ds⟩ = midN I e H := by simp [midK, midN]
theorem midK_exit {I : VT → AHeap → Prop} {Q : Exit → ES → Prop} {i : Nat} {s : ES} : midK n ds I Q (.exit i) s = Q (.exit i) s := nr rfl
theorem midK_ret {I : VT → AHeap → Prop} {Q : Exit → ES → Prop} {s : ES} : midK n ds I Q .ret s = Q .ret s := nr rfl
/-! ### Parts of code -/
def sub : List Bool → Code → Code
  | [], c => c
  | false :: p, .seq x _ => sub p x
  | true :: p, .seq _ y => sub p y
  | false :: p, .block _ b => sub p b
  | false :: p, .loop b => sub p b
  | false :: p, .cond _ x _ => sub p x
  | true :: p, .cond _ _ y => sub p y
  | _, c => c
theorem sub_nil {c : Code} : sub [] c = c := rfl
theorem sub_seq0 {p : List Bool} {x y : Code} : sub (false :: p) (.seq x y) = sub p x := rfl
theorem sub_seq1 {p : List Bool} {x y : Code} : sub (true :: p) (.seq x y) = sub p y := rfl
theorem sub_block {p : List Bool} {i : Nat} {x : Code} : sub (false :: p) (.block i x) = sub p x := rfl
theorem sub_loop {p : List Bool} {x : Code} : sub (false :: p) (.loop x) = sub p x := rfl
theorem sub_cond0 {p : List Bool} {c : Operand} {x y : Code} : sub (false :: p) (.cond c x y) = sub p x := rfl
theorem sub_cond1 {p : List Bool} {c : Operand} {x y : Code} : sub (true :: p) (.cond c x y) = sub p y := rfl
def bodyOf (f : Func) : Code := match f.body with
  | some c => c
  | none => .skip
/-- Code that ends as usual, and what is known then. -/
def endK (n : Nat) (ds : List Nat) (I : VT → AHeap → Prop) (x : Exit) (s : ES) : Prop := match x with
  | .normal => s.n = n ∧ s.ds = ds ∧ I s.e s.H
  | _ => False
theorem endK_normal {I : VT → AHeap → Prop} : endK n ds I .normal ⟨n, e, H, ds⟩ = midN I e H := by simp [endK, midN]
/-! ### Temporaries that stay as they are -/
def Keep (n : Nat) (js : List Nat) (e e' : VT) : Prop := ∀ j ∈ js, gt n e' j = gt n e j
theorem Keep.refl (n : Nat) (js : List Nat) (e : VT) : Keep n js e e := fun _ _ => rfl
theorem Keep.trans {js : List Nat} {e e' e'' : VT} (h : Keep n js e e') (h' : Keep n js e' e'') : Keep n js e e'' := fun j hj => (h' j hj).trans (h j hj)
theorem Keep.put {js : List Nat} {e e' : VT} {i : Nat} {v : Value} (h : Keep n js e e') (hi : i ∉ js) : Keep n js e (e'.put (some i) v) := fun j hj => by
  rw [gt_ne n e' i j v (fun hh => hi (hh ▸ hj))]
  exact h j hj
theorem Keep.none {js : List Nat} {e e' : VT} {v : Value} (h : Keep n js e e') : Keep n js e (e'.put none v) := h

/-! ### Rows of numbers as cells -/
def tv (t : List Int) : List Value := t.map fun n => .int .i64 n
end Go.Am
/- More operations: nil checks, conversions, the least and the greatest, unsigned numbers. -/
namespace Go.Am
open Go.Proofs
variable {T : Tab} {P : Program} {N L : Nat} {H : AHeap}
section
variable {ex : Exec} {t : Operand → Option Value} {Q : Bool → Value → AHeap → Prop}
/-- Conversions to whole numbers. -/
def cvS (T : Tab) (src dst : TypeId) : Option IntKind := match T.und src, T.und dst with
  | some _, some (.int k) => some k
  | _, _ => none
def cvV (T : Tab) (P : Program) (H : AHeap) (src dst : TypeId) (v : Value) : Option Value := match aConv T P (fun _ => some v) H src dst (.tmp 0) with
  | some (v, _, _) => some v
  | none => none
theorem cvV_int {src dst : TypeId} {k k' : IntKind} {n : Int} (hs : cvS T src dst = some k) : cvV T P H src dst (.int k' n) = some (.int k (k.wrap n)) := by
  unfold cvS at hs
  unfold cvV aConv
  rw [show allGr (fun _ => some (Value.int k' n)) [.tmp 0] = true by simp [allGr, gr, ground], show aρ (fun _ => some (Value.int k' n)) (.tmp 0) = .int k' n by simp [aρ]]
  simp only [cond_true]
  cases hu : T.und src with
  | none => rw [hu] at hs; cases hs
  | some d =>
    rw [hu] at hs
    cases hv : T.und dst with
    | none => rw [hv] at hs; cases hs
    | some e =>
      rw [hv] at hs
      cases e with
      | int q => cases hs; rfl
      | _ => cases hs
theorem aPureOf_shape {s : Sem Value} {v : Value} {H' : AHeap} {m : Nat} (h : aPureOf P H s = some (v, H', m)) : H' = H ∧ m = H.size := by
  unfold aPureOf at h
  split at h
  · rename_i u hu
    cases hg : gr u
    · rw [hg] at h; cases h
    · rw [hg] at h; cases h; exact ⟨rfl, rfl⟩
  · cases h
theorem aConv_shape {src dst : TypeId} {x : Operand} {v : Value} {H' : AHeap} {m : Nat} (h : aConv T P t H src dst x = some (v, H', m)) : H' = H ∧ m = H.size := by
  unfold aConv at h
  cases hb : allGr t [x]
  · rw [hb] at h; cases h
  · rw [hb] at h
    simp only [cond_true] at h
    split at h
    · cases h; exact ⟨rfl, rfl⟩
    · exact aPureOf_shape h
theorem A_conv {src dst : TypeId} {x : Operand} : A T P ex t H L (.convert src dst x) Q = optK (t x) fun v => optK (cvV T P H src dst v) fun v => andK (L ≤ H.size) (Q true v H) := by
  unfold A
  show (match still (aConv T P t H src dst x) with
    | some (b, v, H', m) => L ≤ m ∧ Q b v H'
    | none => False) = _
  cases hx : t x with
  | none =>
    unfold aConv
    rw [show allGr t [x] = false by simp [allGr, hx]]; rfl
  | some v =>
    have e : aConv T P t H src dst x = aConv T P (fun _ => some v) H src dst (.tmp 0) := by
      unfold aConv
      rw [show allGr t [x] = allGr (fun _ => some v) [.tmp 0] by simp [allGr, hx], show aρ t x = aρ (fun _ => some v) (.tmp 0) by simp [aρ, hx]]
    rw [e]
    simp only [optK,cvV]
    cases h : aConv T P (fun _ => some v) H src dst (.tmp 0) with
    | none => rfl
    | some r =>
      obtain ⟨u, H', m⟩ := r
      obtain ⟨rfl, rfl⟩ := aConv_shape h
      rfl
def mmV (P : Program) (H : AHeap) (mx : Bool) (a b : Value) : Option Value := match aMinMax P (fun x => match x with
    | .tmp 0 => some a
    | _ => some b) H mx [.tmp 0, .tmp 1].toArray with
  | some (v, _, _) => some v
  | none => none
theorem mm_min {a b : Int} : mmV P H false (.int .i64 a) (.int .i64 b) = some (.int .i64 (if b < a then b else a)) := nr rfl
theorem aMinMax_gen {mx : Bool} {x y : Operand} : (match still (aMinMax P t H mx [x, y].toArray) with
    | some (b, v, H', m) => L ≤ m ∧ Q b v H'
    | none => False) = optK (t x) fun a => optK (t y) fun b => optK (mmV P H mx a b) fun v => andK (L ≤ H.size) (Q true v H) := by
  cases hx : t x with
  | none =>
    unfold aMinMax
    rw [show allGr t [x, y].toArray.toList = false by simp [allGr, hx]]; rfl
  | some a =>
    cases hy : t y with
    | none =>
      unfold aMinMax
      rw [show allGr t [x, y].toArray.toList = false by simp [allGr, hx, hy]]; rfl
    | some b =>
      have e : aMinMax P t H mx [x, y].toArray = aMinMax P (fun x => match x with
          | .tmp 0 => some a
          | _ => some b) H mx [.tmp 0, .tmp 1].toArray := by
        unfold aMinMax
        simp [allGr, aρ, hx, hy]
      rw [e]
      simp only [optK,mmV]
      cases h : aMinMax P (fun x => match x with
          | .tmp 0 => some a
          | _ => some b) H mx [.tmp 0, .tmp 1].toArray with
      | none => rfl
      | some r =>
        obtain ⟨u, H', m⟩ := r
        have : H' = H ∧ m = H.size := by
          unfold aMinMax at h
          cases hb : allGr (fun x => match x with
            | .tmp 0 => some a
            | _ => some b) [.tmp 0, .tmp 1].toArray.toList
          · rw [hb] at h; cases h
          · rw [hb] at h
            exact aPureOf_shape h
        obtain ⟨rfl, rfl⟩ := this
        rfl
theorem A_min {tys : List TypeId} {x y : Operand} : A T P ex t H L (.call ⟨.builtin .min, [x, y].toArray, tys.toArray⟩) Q = optK (t x) fun a => optK (t y) fun b => optK (mmV P H false a b) fun v => andK (L ≤ H.size) (Q true v H) := by
  unfold A
  exact aMinMax_gen (mx := false)
end
/-! ### Unsigned numbers -/
def u64w (n : Int) : Int := IntKind.wrap .u64 n
section
variable {ty : TypeId} {x y : Operand} {a b : Int}
theorem rem_of {k : IntKind} (h : b ≠ 0) (hr : ∀ n, gr (Value.int k n) = true) : pureRun P (Op.intDiv .rem k a b) = some (.int k (a.tmod b)) := by
  unfold Op.intDiv
  rw [if_neg h]; rfl
theorem i64_rem (h : b ≠ 0) : binV T P .rem ty x y (.int .i64 a) (.int .i64 b) = some (.int .i64 (a.tmod b)) := by
  show (match (match pureRun P (Op.intDiv .rem .i64 a b) with
    | some v => bif gr v then some v else none
    | none => none) with
    | some v => some v
    | none => _) = _
  rw [rem_of h fun _ => rfl]; rfl
end
theorem u64w_of {n : Int} (h : 0 ≤ n ∧ n < 18446744073709551616) : u64w n = n := by
  have : u64w n = n % 18446744073709551616 := rfl
  omega
end Go.Am
/- Rows of things of one width. -/
namespace Go.Am
open Go.Proofs
variable {T : Tab} {P : Program} {N L : Nat} {H H' : AHeap} {Q : Bool → Value → AHeap → Prop} {α : Type}
/-- How things of a kind lie in cells. -/
structure Enc (α : Type) where
  f : α → List Value
  z : Nat
  len : ∀ x, (f x).length = z
  one : ∀ x, oneCells (f x) = true
def Enc.fl (E : Enc α) : List α → List Value
  | [] => []
  | x :: l => E.f x ++ E.fl l
variable {E : Enc α} {l l' : List α} {x : α} {i : Nat}
theorem fl_length : ∀ l : List α, (E.fl l).length = l.length * E.z
  | [] => by simp [Enc.fl]
  | x :: l => by rw [Enc.fl, List.length_append, E.len, fl_length l, List.length_cons, Nat.succ_mul, Nat.add_comm]
theorem fl_app : ∀ l l' : List α, E.fl (l ++ l') = E.fl l ++ E.fl l'
  | [], l' => rfl
  | x :: l, l' => by
    show E.f x ++ E.fl (l ++ l') = E.f x ++ E.fl l ++ E.fl l'
    rw [fl_app l l', List.append_assoc]
theorem one_app {a b : List Value} (ha : oneCells a = true) (hb : oneCells b = true) : oneCells (a ++ b) = true := by
  induction a with
  | nil => exact hb
  | cons v a ih =>
    unfold oneCells at ha
    rw [Bool.and_eq_true] at ha
    show (v.oneCell' && oneCells (a ++ b)) = true
    rw [ha.1, ih ha.2]; rfl
theorem one_fl : ∀ l : List α, oneCells (E.fl l) = true
  | [] => rfl
  | x :: l => one_app (E.one x) (one_fl l)
theorem fl_at : ∀ {l : List α} {i : Nat}, l[i]? = some x → ((E.fl l).drop (i * E.z)).take E.z = E.f x
  | [], i, h => by simp at h
  | y :: l, 0, h => by
    simp only [List.getElem?_cons_zero,Option.some.injEq] at h
    subst h
    rw [Nat.zero_mul, List.drop_zero, Enc.fl, ← E.len y, List.take_left]
  | y :: l, i + 1, h => by
    rw [Enc.fl, show (i + 1) * E.z = (E.f y).length + i * E.z by rw [E.len, Nat.succ_mul, Nat.add_comm], List.drop_length_add_append]
    exact fl_at (by simpa using h)
/-- A slice of such things. -/
structure Rw (E : Enc α) (H : AHeap) (a : Option Addr) (l : List α) : Prop where
  get : l ≠ [] → ∃ b o c, a = some ⟨b, o, none⟩ ∧ b < H.size ∧ cellsOf (H.get b) = some c ∧ (c.drop o).take (l.length * E.z) = E.fl l
theorem Rw.nil {a : Option Addr} : Rw E H a [] := ⟨fun h => absurd rfl h⟩
theorem Rw.fr {a : Option Addr} (h : Rw E H a l) (f : Fr H H') : Rw E H' a l := ⟨fun hl => by
  obtain ⟨b, o, c, h1, h2, h3, h4⟩ := h.get hl
  exact ⟨b, o, c, h1, Nat.lt_of_lt_of_le h2 f.size, by rw [f.same b h2]; exact h3, h4⟩⟩
theorem Rw.src {b o : Nat} {s : Option Nat} (h : Rw E H (some ⟨b, o, s⟩) l) (hl : l ≠ []) : srcCells H ⟨b, o, s⟩ (l.length * E.z) = some (E.fl l) := by
  obtain ⟨b', o', c', h1, h2, h3, h4⟩ := h.get hl
  cases h1
  unfold srcCells
  rw [h3]
  simp only [h4,fl_length,show Nat.beq (l.length * E.z) (l.length * E.z) = true by simp,cond_true]
theorem drop_take_at {c : List Value} {o n z i : Nat} (hi : i + z ≤ n) : (((c.drop o).take n).drop i).take z = (c.drop (o + i)).take z := by
  rw [List.drop_take, List.take_take, List.drop_drop, Nat.min_eq_left (by omega)]
/-- What lies at a place of it. -/
theorem Rw.at_ {a : Option Addr} (h : Rw E H a l) (hi : l[i]? = some x) : ∃ b o c, a = some ⟨b, o, none⟩ ∧ b < H.size ∧ cellsOf (H.get b) = some c ∧ (c.drop (o + i * E.z)).take E.z = E.f x := by
  have hlt := (List.getElem?_eq_some_iff.1 hi).1
  obtain ⟨b, o, c, h1, h2, h3, h4⟩ := h.get (fun h0 => by rw [h0] at hlt; simp at hlt)
  refine ⟨b, o, c, h1, h2, h3, ?_⟩
  have h5 : i * E.z + E.z ≤ l.length * E.z := by
    rw [← Nat.succ_mul]
    exact Nat.mul_le_mul_right _ hlt
  rw [← drop_take_at (n := l.length * E.z) h5, h4]
  exact fl_at hi
theorem Rw.of {b : Nat} {c r : List Value} (hb : b < H.size) (h : cellsOf (H.get b) = some c) (hc : c = E.fl l ++ r) : Rw E H (some ⟨b, 0, none⟩) l := ⟨fun _ => ⟨b, 0, c, rfl, hb, h, by
  rw [List.drop_zero, hc, ← fl_length, List.take_left]⟩⟩
theorem Grow.rw {tb c el : Nat} {a : Option Addr} (g : Grow H tb (.slice a l.length c) l.length (E.fl l) el E.z) : Rw E H a l := ⟨fun hne => by
  obtain ⟨b, al, h1, h2, h3, h4, h5⟩ := g.cons (by simpa using hne)
  cases h1
  exact (Rw.of (r := []) h3 (by rw [h4]; rfl) (by rw [List.append_nil])).get hne⟩
/-- Of things of more than one cell, as the machine loads them. -/
theorem part_of {c L : List Value} {k s : Nat} (h : (c.drop k).take s = L) (hl : L.length = s) : part c k (s + 1) = some (.agg ⟨L⟩) := by
  unfold part
  simp only [h,hl,show Nat.beq s s = true by simp,cond_true]
theorem cell_of {c : List Value} {k : Nat} {v : Value} (h : (c.drop k).take 1 = [v]) : c[k]? = some v := by
  have : ((c.drop k).take 1)[0]? = some v := by rw [h]; rfl
  rw [List.getElem?_take, if_pos (by omega), List.getElem?_drop, Nat.add_zero] at this
  exact this
/-- Whole numbers, one behind the other. -/
def intE : Enc Int := ⟨fun n => [.int .i64 n], 1, fun _ => rfl, fun _ => rfl⟩
set_option linter.defProp false in
def yrg := (And.intro (And.intro @loopKD_normal (And.intro @loopKD_ret @loopKD_exit)) (And.intro (And.intro @midK_normal @midK_exit) (And.intro @midK_ret @endK_normal)))
end Go.Am
/- The chute: numbers that come out of it, whatever they are. -/
namespace Go.Am
open Go.Proofs
variable {T : Tab} {P : Program} {N L : Nat} {H : AHeap} {Q : Bool → Value → AHeap → Prop}

/-- All but one block is as it was. -/
structure FrX (k : Nat) (H H' : AHeap) : Prop where
  size : H.size ≤ H'.size
  same : ∀ j, j < H.size → j ≠ k → H'.get j = H.get j
theorem FrX.refl (k : Nat) (H : AHeap) : FrX k H H := ⟨Nat.le_refl _, fun _ _ _ => rfl⟩
theorem FrX.trans {k : Nat} {H H₁ H₂ : AHeap} (a : FrX k H H₁) (b : FrX k H₁ H₂) : FrX k H H₂ := ⟨Nat.le_trans a.size b.size, fun j h1 h2 => (b.same j (Nat.lt_of_lt_of_le h1 a.size) h2).trans (a.same j h1 h2)⟩
theorem FrX.of {k : Nat} {H H' : AHeap} (f : Fr H H') : FrX k H H' := ⟨f.size, fun j h _ => f.same j h⟩
theorem FrX.put {k : Nat} {H H' : AHeap} (f : FrX k H H') (b : ABlk) : FrX k H (H'.put k b) := ⟨by rw [size_put]; exact f.size, fun j h1 h2 => by rw [get_put_ne h2]; exact f.same j h1 h2⟩
/-- A chute: bytes, how many are used, and what is stirred of them. -/
structure Chu (H : AHeap) (k : Nat) (a : Option Addr) (bs : List Int) (cap q : Nat) : Prop where
  lt : k < H.size
  blk : ∃ u s : Int, H.get k = .rw [.slice a bs.length cap, .int .i64 u, .int .u64 s] 138 false [] ∧ (0 ≤ u ∧ u ≤ 2 * q) ∧ u ≤ bs.length ∧ 0 ≤ s ∧ s < 18446744073709551616
  row : bs ≠ [] → ∃ b o c, a = some ⟨b, o, none⟩ ∧ b < H.size ∧ H.get b = .ro c ∧ ∀ i x, bs[i]? = some x → c[o + i]? = some (.int .u8 x)
  byte : ∀ x ∈ bs, 0 ≤ x ∧ x < 256
  len : bs.length < 9223372036854775808
section
variable {k cap q : Nat} {a : Option Addr} {bs : List Int}
theorem Chu.mono {q' : Nat} (h : Chu H k a bs cap q) (hq : q ≤ q') : Chu H k a bs cap q' where
  lt := h.lt
  blk := by
    obtain ⟨u, s, h1, h2, h3⟩ := h.blk
    exact ⟨u, s, h1, ⟨h2.1, by omega⟩, h3⟩
  row := h.row
  byte := h.byte
  len := h.len
theorem Chu.fr {H' : AHeap} (h : Chu H k a bs cap q) (f : Fr H H') : Chu H' k a bs cap q where
  lt := Nat.lt_of_lt_of_le h.lt f.size
  blk := by rw [f.same k h.lt]; exact h.blk
  row hne := by
    obtain ⟨b, o, c, h1, h2, h3, h4⟩ := h.row hne
    exact ⟨b, o, c, h1, Nat.lt_of_lt_of_le h2 f.size, by rw [f.same b h2]; exact h3, h4⟩
  byte := h.byte
  len := h.len
theorem Chu.put (h : Chu H k a bs cap q) {q' : Nat} {u s : Int} (hu : (0 ≤ u ∧ u ≤ 2 * q') ∧ u ≤ bs.length) (hs : 0 ≤ s ∧ s < 18446744073709551616) : Chu (H.put k (.rw [.slice a bs.length cap, .int .i64 u, .int .u64 s] 138 false [])) k a bs cap q' where
  lt := by rw [size_put]; exact h.lt
  blk := ⟨u, s, get_put_same h.lt, hu.1, hu.2, hs⟩
  row hne := by
    obtain ⟨b, o, c, h1, h2, h3, h4⟩ := h.row hne
    obtain ⟨u, s, h5, _⟩ := h.blk
    refine ⟨b, o, c, h1, by rw [size_put]; exact h2, ?_, h4⟩
    rw [get_put_ne (fun e => by subst e; rw [h5] at h3; cases h3)]
    exact h3
  byte := h.byte
  len := h.len
/-- A block that is no chute may change. -/
theorem Chu.other {j : Nat} {b' : ABlk} (h : Chu H k a bs cap q) (hj : j ≠ k) (hr : ∀ c, H.get j ≠ .ro c) : Chu (H.put j b') k a bs cap q where
  lt := by rw [size_put]; exact h.lt
  blk := by rw [get_put_ne (Ne.symm hj)]; exact h.blk
  row hne := by
    obtain ⟨b, o, c, h1, h2, h3, h4⟩ := h.row hne
    refine ⟨b, o, c, h1, by rw [size_put]; exact h2, ?_, h4⟩
    rw [get_put_ne (fun e => by subst e; exact hr c h3)]
    exact h3
  byte := h.byte
  len := h.len
end
end Go.Am
