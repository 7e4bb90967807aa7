/- More operations on values that are not known: arrays, cuts of arrays, rows that are made. -/
import Derived.Test.YtnibabkgeolenaaT12
import Derived.Test.YtnibabkgeolenaaT29
set_option linter.unusedSimpArgs false
set_option linter.unusedVariables false
namespace Go.Am
variable {α : Type} {T : Tab} {P : Program} {N n L : Nat} {r : Option Nat} {e : VT} {H : AHeap} {ds : List Nat} {ex : Exec} {t : Operand → Option Value} {Q : Bool → Value → AHeap → Prop}

/-- The length of an array, and the size of its elements. -/
def arS (T : Tab) (ty : TypeId) : Option (Nat × Nat) := match T.und ty with
  | some (.array len e) => match T.inf e with
    | some i => some (len, i.size)
    | none => none
  | _ => none
theorem A_indexArr {ty : TypeId} {x ix : Operand} {len z : Nat} (hz : arS T ty = some (len, z)) : A T P ex t H L (.indexAddr ty x ix) Q = optK (t x) fun v => ptrK v fun b o => optK (t ix) fun i => idxK i len fun i => letK (o + i * z) fun o => andK (L ≤ H.size) (Q true (.pointer (some ⟨b, o, none⟩)) H) := by
  unfold A
  show (match still (aIndexAddr T t H ty x ix) with
    | some (b, v, H', m) => L ≤ m ∧ Q b v H'
    | none => False) = _
  unfold arS at hz
  unfold aIndexAddr
  cases hu : T.und ty with
  | none => rw [hu] at hz; cases hz
  | some d =>
    cases d with
    | array ln el =>
      rw [hu] at hz
      simp only at hz
      cases hi : T.inf el with
      | none => rw [hi] at hz; cases hz
      | some i =>
        rw [hi] at hz
        cases hz
        cases t x with
        | none => rfl
        | some v =>
          cases v with
          | pointer a =>
            cases a with
            | none => cases t ix with
              | none => rfl
              | some w => cases w <;> rfl
            | some a =>
              cases t ix with
              | none => rfl
              | some w =>
                cases w with
                | int k m =>
                  simp only [optK,ptrK,idxK,hi]
                  by_cases h : 0 ≤ m ∧ m < len
                  · simp [h.1, h.2, still, letK, andK]
                  · have : (decide (0 ≤ m) && decide (m < (len : Int))) = false := by simpa using h
                    simp only [this,cond_false,still,h,false_and]
                | _ => rfl
          | slice a l c =>
            cases a with
            | none => cases t ix with
              | none => rfl
              | some w => cases w <;> rfl
            | some a => cases t ix with
              | none => rfl
              | some w => cases w <;> rfl
          | _ => cases t ix with
              | none => rfl
              | some w => cases w <;> rfl
    | _ => rw [hu] at hz; cases hz
/-- A cut of an array from its beginning on. -/
theorem A_cut_of {ty : TypeId} {x y : Operand} {len z b o : Nat} {s : Option Nat} {i : Int} (hz : arS T ty = some (len, z)) (hx : t x = some (.pointer (some ⟨b, o, s⟩))) (hy : t y = some (.int .i64 i)) (h0 : 0 ≤ i ∧ i ≤ len) (hlen : len < OPEN) (hpos : 0 < len)
    (hL : L ≤ H.size) (hq : Q true (.slice (some ⟨b, o, none⟩) i.toNat len) H) : A T P ex t H L (.slice ty x none (some y) none) Q := by
  unfold A
  show (match still (aSlice T t H ty x none (some y) none) with
    | some (b, v, H', m) => L ≤ m ∧ Q b v H'
    | none => False)
  have : aSlice T t H ty x none (some y) none = some (.slice (some ⟨b, o, none⟩) i.toNat len, H, H.size) := by
    unfold arS at hz
    unfold aSlice
    rw [hx]
    cases hu : T.und ty with
    | none => rw [hu] at hz; cases hz
    | some d =>
      cases d with
      | array ln el =>
        rw [hu] at hz
        simp only at hz
        cases hie : T.inf el with
        | none => rw [hie] at hz; cases hz
        | some ie =>
          rw [hie] at hz
          cases hz
          have hab : abounds len len none (some i) none = some (0, i.toNat, len) := by
            delta abounds
            simp only [h0.1,h0.2,decide_true,Bool.and_self,cond_true]
          have hne : Nat.beq len 0 = false := beq_ne (by omega)
          simp only [abound,hy,hie,hab,blt_true hlen,cond_true,Nat.sub_zero,hne,cond_false,Nat.zero_mul,Nat.add_zero]
      | _ => rw [hu] at hz; cases hz
  rw [this]
  exact ⟨hL, hq⟩
/-! ### Calls -/
/-- A call, with what is known of what it comes to; what it changed above all old blocks may be dropped. -/
theorem call_keep (hT : T.MemoFr) {g : FuncId} {args : List Value} {fn : Func} {c : Code} {R : Value → AHeap → Prop} {rs : List ResultVar} (hm : T.memo g args H = none) (hf : T.fn g = some fn) (hb : fn.body = some c) (hr : fn.results.toList = rs) {k : Nat} (hk : args.length + (fn.ntmps - args.length) = k) (hL : L ≤ H.size)
    (hw : W T P N none c L ⟨k, env args 0 .nil, H, []⟩ (retK T L rs R)) (hq : ∀ v H', R v H' → Q false v H') (hq' : ∀ v H', R v H' → gr v = true → Fr H H' → Q true v H) :
    resK (acall T (aexec T P N) g args H) L Q := by
  subst hk
  unfold W at hw
  unfold resK acall acall0
  rw [hm, hf]
  simp only [hb,envK_eq,fNat_eq]
  cases ha : aexec T P N none c ⟨args.length + (fn.ntmps - args.length), env args 0 .nil, H, []⟩ with
  | none => rw [ha] at hw; exact hw.elim
  | some p =>
    obtain ⟨x, s, m⟩ := p
    have hfr := aexec_fr hT N _ _ _ _ _ _ ha
    simp only at hfr
    rw [ha] at hw
    obtain ⟨h1, h2⟩ := hw
    have key : (s.ds = [] ∧ L ≤ s.H.size ∧ ∃ v, resV T s.n s.e s.H rs = some v ∧ R v s.H) → (match aleave T fn H s m with
        | some (b, v, H', m) => L ≤ m ∧ Q b v H'
        | none => False) := by
      rintro ⟨k1, k4, v, k2, k3⟩
      have hr' : ares T fn s.n s.e s.H = some v := by rw [← hr] at k2; exact k2
      unfold aleave
      rw [k1]
      simp only [atake,hr',fV_eq,fNat_eq,minAl]
      unfold quietV
      cases hq2 : (Nat.ble H.size (min m s.H.size) && gr v)
      · simp only [cond_false]
        exact ⟨by omega, hq _ _ k3⟩
      · simp only [cond_true]
        simp only [Bool.and_eq_true] at hq2
        have := Nat.le_of_ble_eq_true hq2.1
        exact ⟨hL, hq' _ _ k3 hq2.2 ⟨hfr.size, fun k hk => hfr.same k (by omega) hk⟩⟩
    cases x with
    | normal => exact key h2
    | ret => exact key h2
    | _ => exact h2.elim
theorem resK_mono {q : Res} {Q' : Bool → Value → AHeap → Prop} (h : resK q L Q) (hq : ∀ b v H', Q b v H' → Q' b v H') : resK q L Q' := by
  unfold resK at *
  cases q with
  | none => exact h
  | some p => exact ⟨h.1, hq _ _ _ h.2⟩
theorem lt_of_cells {k : Nat} {c : List Value} (h : cellsOf (H.get k) = some c) : k < H.size := by
  refine Classical.byContradiction fun hn => ?_
  unfold AHeap.get at h
  rw [blt_false (by omega)] at h
  cases h
theorem resV_none : resV T n e H [] = some (.tuple ⟨[]⟩) := rfl

/-! ### Rows that are made -/
/-- A store into a row of which older ones may be parts: these are not told any more. -/
theorem wrB_al {b o : Nat} {vs c : List Value} {ty : TypeId} {op : Bool} {al : List Nat} {Q : Nat → AHeap → Prop} : wrB (.rw c ty op al) H b o vs Q = letK (fitB o vs c) fun q => Split q (letK (newC o vs c) fun c => Q (minAl b al) ((H.kill al).put b (.rw c ty op []))) False := by
  unfold wrB fitB letK
  simp only [ble_iff]
  generalize (decide (o + vs.length ≤ c.length) && oneCells vs) = q
  cases q
  · rw [cond_false, Split_false]
  · rw [cond_true, Split_true]; rfl

/-- Two pieces of code, with what is known between them. -/
def midK (n : Nat) (ds : List Nat) (I : VT → AHeap → Prop) (Q : Exit → ES → Prop) (x : Exit) (s : ES) : Prop := match x with
  | .normal => s.n = n ∧ s.ds = ds ∧ I s.e s.H
  | x => Q x s
def midN (I : VT → AHeap → Prop) (e : VT) (H : AHeap) (_ : Tag I := .mk) : Prop := I e H
theorem midK_normal {I : VT → AHeap → Prop} {Q : Exit → ES → Prop} : midK n ds I Q .normal ⟨n, e, H, ds⟩ = midN I e H := by simp [midK, midN]
theorem midK_exit {I : VT → AHeap → Prop} {Q : Exit → ES → Prop} {i : Nat} {s : ES} : midK n ds I Q (.exit i) s = Q (.exit i) s := nr rfl
theorem midK_ret {I : VT → AHeap → Prop} {Q : Exit → ES → Prop} {s : ES} : midK n ds I Q .ret s = Q .ret s := nr rfl
/-! ### Parts of code -/
def sub : List Bool → Code → Code
  | [], c => c
  | false :: p, .seq x _ => sub p x
  | true :: p, .seq _ y => sub p y
  | false :: p, .block _ b => sub p b
  | false :: p, .loop b => sub p b
  | false :: p, .cond _ x _ => sub p x
  | true :: p, .cond _ _ y => sub p y
  | _, c => c
theorem sub_nil {c : Code} : sub [] c = c := rfl
theorem sub_seq0 {p : List Bool} {x y : Code} : sub (false :: p) (.seq x y) = sub p x := rfl
theorem sub_seq1 {p : List Bool} {x y : Code} : sub (true :: p) (.seq x y) = sub p y := rfl
theorem sub_block {p : List Bool} {i : Nat} {x : Code} : sub (false :: p) (.block i x) = sub p x := rfl
theorem sub_loop {p : List Bool} {x : Code} : sub (false :: p) (.loop x) = sub p x := rfl
theorem sub_cond0 {p : List Bool} {c : Operand} {x y : Code} : sub (false :: p) (.cond c x y) = sub p x := rfl
theorem sub_cond1 {p : List Bool} {c : Operand} {x y : Code} : sub (true :: p) (.cond c x y) = sub p y := rfl
def bodyOf (f : Func) : Code := match f.body with
  | some c => c
  | none => .skip
/-- Code that ends as usual, and what is known then. -/
def endK (n : Nat) (ds : List Nat) (I : VT → AHeap → Prop) (x : Exit) (s : ES) : Prop := match x with
  | .normal => s.n = n ∧ s.ds = ds ∧ I s.e s.H
  | _ => False
theorem endK_normal {I : VT → AHeap → Prop} : endK n ds I .normal ⟨n, e, H, ds⟩ = midN I e H := by simp [endK, midN]
theorem W_end {c : Code} {Q : Exit → ES → Prop} {I : VT → AHeap → Prop} (h : W T P N r c L ⟨n, e, H, ds⟩ (endK n ds I)) (hq : ∀ e' H', I e' H' → Q .normal ⟨n, e', H', ds⟩) : W T P N r c L ⟨n, e, H, ds⟩ Q := by
  refine W_mono h ?_
  intro x' s' h
  cases x' with
  | normal =>
    obtain ⟨n', e', H', ds'⟩ := s'
    obtain ⟨rfl, rfl, h3⟩ := h
    exact hq e' H' h3
  | _ => exact h.elim
/-! ### Temporaries that stay as they are -/
def Keep (n : Nat) (js : List Nat) (e e' : VT) : Prop := ∀ j ∈ js, gt n e' j = gt n e j
theorem Keep.refl (n : Nat) (js : List Nat) (e : VT) : Keep n js e e := fun _ _ => rfl
theorem Keep.trans {js : List Nat} {e e' e'' : VT} (h : Keep n js e e') (h' : Keep n js e' e'') : Keep n js e e'' := fun j hj => (h' j hj).trans (h j hj)
theorem Keep.put {js : List Nat} {e e' : VT} {i : Nat} {v : Value} (h : Keep n js e e') (hi : i ∉ js) : Keep n js e (e'.put (some i) v) := fun j hj => by
  rw [gt_ne n e' i j v (fun hh => hi (hh ▸ hj))]
  exact h j hj
theorem Keep.none {js : List Nat} {e e' : VT} {v : Value} (h : Keep n js e e') : Keep n js e (e'.put none v) := h

/-! ### Rows of numbers as cells -/
def tv (t : List Int) : List Value := t.map fun n => .int .i64 n
theorem tv_len (t : List Int) : (tv t).length = t.length := List.length_map ..
theorem one_tv : ∀ t : List Int, oneCells (tv t) = true
  | [] => rfl
  | n :: t => one_tv t
theorem newC_tv {t : List Int} {i : Nat} {v : Int} (h : i < t.length) : newC i [.int .i64 v] (tv t) = tv (t.set i v) := by
  unfold newC tv
  rw [← List.map_take, ← List.map_drop, List.map_set]
  simp only [List.length_cons,List.length_nil,Nat.zero_add]
  rw [List.set_eq_take_append_cons_drop, List.length_map, if_pos h, List.map_take, List.map_drop]
  simp
theorem midY_gen {l : Nat} {body : Code} {p : Option Code} {tl : List Value} {ps : Array Tmp} {as' bd : Code} {d : Nat} (hg : H.get l = .loop .ready p tl ps as' bd d) (hw : ∀ bz, bz = .loop .busy p tl ps as' bd d → W T P N (some l) body L ⟨n, e, H.put l bz, ds⟩ (endY l Q)) : midY T P N l L body Q .normal ⟨n, e, H, ds⟩ := midY_normal hg (hw _ rfl)
end Go.Am
/- More operations: nil checks, conversions, the least and the greatest, unsigned numbers. -/
namespace Go.Am
open Go.Proofs
variable {T : Tab} {P : Program} {N L : Nat} {H : AHeap}
section
variable {ex : Exec} {t : Operand → Option Value} {Q : Bool → Value → AHeap → Prop}
def nilQ (v : Value) (L : Nat) (H : AHeap) (Q : Bool → Value → AHeap → Prop) (_ : Tag Q := .mk) : Prop := match v with
  | .pointer (some a) => L ≤ H.size ∧ Q true (.pointer (some a)) H
  | .func (.func f) first captured => L ≤ H.size ∧ Q true (.func (.func f) first captured) H
  | _ => False
theorem nilQ_ptr {a : Addr} : nilQ (.pointer (some a)) L H Q = andK (L ≤ H.size) (Q true (.pointer (some a)) H) := nr rfl
theorem A_nilCheck {x : Operand} : A T P ex t H L (.nilCheck x) Q = optK (t x) fun v => nilQ v L H Q := by
  unfold A
  show (match still (aNilCheck t H x) with
    | some (b, v, H', m) => L ≤ m ∧ Q b v H'
    | none => False) = _
  unfold aNilCheck
  cases t x with
  | none => rfl
  | some v =>
    cases v with
    | pointer a => cases a <;> rfl
    | func f a b => cases f <;> rfl
    | _ => rfl
/-- Conversions to whole numbers. -/
def cvS (T : Tab) (src dst : TypeId) : Option IntKind := match T.und src, T.und dst with
  | some _, some (.int k) => some k
  | _, _ => none
def cvV (T : Tab) (P : Program) (H : AHeap) (src dst : TypeId) (v : Value) : Option Value := match aConv T P (fun _ => some v) H src dst (.tmp 0) with
  | some (v, _, _) => some v
  | none => none
theorem cvV_int {src dst : TypeId} {k k' : IntKind} {n : Int} (hs : cvS T src dst = some k) : cvV T P H src dst (.int k' n) = some (.int k (k.wrap n)) := by
  unfold cvS at hs
  unfold cvV aConv
  rw [show allGr (fun _ => some (Value.int k' n)) [.tmp 0] = true by simp [allGr, gr, ground], show aρ (fun _ => some (Value.int k' n)) (.tmp 0) = .int k' n by simp [aρ]]
  simp only [cond_true]
  cases hu : T.und src with
  | none => rw [hu] at hs; cases hs
  | some d =>
    rw [hu] at hs
    cases hv : T.und dst with
    | none => rw [hv] at hs; cases hs
    | some e =>
      rw [hv] at hs
      cases e with
      | int q => cases hs; rfl
      | _ => cases hs
theorem aPureOf_shape {s : Sem Value} {v : Value} {H' : AHeap} {m : Nat} (h : aPureOf P H s = some (v, H', m)) : H' = H ∧ m = H.size := by
  unfold aPureOf at h
  split at h
  · rename_i u hu
    cases hg : gr u
    · rw [hg] at h; cases h
    · rw [hg] at h; cases h; exact ⟨rfl, rfl⟩
  · cases h
theorem aConv_shape {src dst : TypeId} {x : Operand} {v : Value} {H' : AHeap} {m : Nat} (h : aConv T P t H src dst x = some (v, H', m)) : H' = H ∧ m = H.size := by
  unfold aConv at h
  cases hb : allGr t [x]
  · rw [hb] at h; cases h
  · rw [hb] at h
    simp only [cond_true] at h
    split at h
    · cases h; exact ⟨rfl, rfl⟩
    · exact aPureOf_shape h
theorem A_conv {src dst : TypeId} {x : Operand} : A T P ex t H L (.convert src dst x) Q = optK (t x) fun v => optK (cvV T P H src dst v) fun v => andK (L ≤ H.size) (Q true v H) := by
  unfold A
  show (match still (aConv T P t H src dst x) with
    | some (b, v, H', m) => L ≤ m ∧ Q b v H'
    | none => False) = _
  cases hx : t x with
  | none =>
    unfold aConv
    rw [show allGr t [x] = false by simp [allGr, hx]]; rfl
  | some v =>
    have e : aConv T P t H src dst x = aConv T P (fun _ => some v) H src dst (.tmp 0) := by
      unfold aConv
      rw [show allGr t [x] = allGr (fun _ => some v) [.tmp 0] by simp [allGr, hx], show aρ t x = aρ (fun _ => some v) (.tmp 0) by simp [aρ, hx]]
    rw [e]
    simp only [optK,cvV]
    cases h : aConv T P (fun _ => some v) H src dst (.tmp 0) with
    | none => rfl
    | some r =>
      obtain ⟨u, H', m⟩ := r
      obtain ⟨rfl, rfl⟩ := aConv_shape h
      rfl
def mmV (P : Program) (H : AHeap) (mx : Bool) (a b : Value) : Option Value := match aMinMax P (fun x => match x with
    | .tmp 0 => some a
    | _ => some b) H mx [.tmp 0, .tmp 1].toArray with
  | some (v, _, _) => some v
  | none => none
theorem mm_min {a b : Int} : mmV P H false (.int .i64 a) (.int .i64 b) = some (.int .i64 (if b < a then b else a)) := nr rfl
theorem mm_max {a b : Int} : mmV P H true (.int .i64 a) (.int .i64 b) = some (.int .i64 (if b > a then b else a)) := nr rfl
theorem aMinMax_gen {mx : Bool} {x y : Operand} : (match still (aMinMax P t H mx [x, y].toArray) with
    | some (b, v, H', m) => L ≤ m ∧ Q b v H'
    | none => False) = optK (t x) fun a => optK (t y) fun b => optK (mmV P H mx a b) fun v => andK (L ≤ H.size) (Q true v H) := by
  cases hx : t x with
  | none =>
    unfold aMinMax
    rw [show allGr t [x, y].toArray.toList = false by simp [allGr, hx]]; rfl
  | some a =>
    cases hy : t y with
    | none =>
      unfold aMinMax
      rw [show allGr t [x, y].toArray.toList = false by simp [allGr, hx, hy]]; rfl
    | some b =>
      have e : aMinMax P t H mx [x, y].toArray = aMinMax P (fun x => match x with
          | .tmp 0 => some a
          | _ => some b) H mx [.tmp 0, .tmp 1].toArray := by
        unfold aMinMax
        simp [allGr, aρ, hx, hy]
      rw [e]
      simp only [optK,mmV]
      cases h : aMinMax P (fun x => match x with
          | .tmp 0 => some a
          | _ => some b) H mx [.tmp 0, .tmp 1].toArray with
      | none => rfl
      | some r =>
        obtain ⟨u, H', m⟩ := r
        have : H' = H ∧ m = H.size := by
          unfold aMinMax at h
          cases hb : allGr (fun x => match x with
            | .tmp 0 => some a
            | _ => some b) [.tmp 0, .tmp 1].toArray.toList
          · rw [hb] at h; cases h
          · rw [hb] at h
            exact aPureOf_shape h
        obtain ⟨rfl, rfl⟩ := this
        rfl
theorem A_min {tys : List TypeId} {x y : Operand} : A T P ex t H L (.call ⟨.builtin .min, [x, y].toArray, tys.toArray⟩) Q = optK (t x) fun a => optK (t y) fun b => optK (mmV P H false a b) fun v => andK (L ≤ H.size) (Q true v H) := by
  unfold A
  exact aMinMax_gen (mx := false)
theorem A_max {tys : List TypeId} {x y : Operand} : A T P ex t H L (.call ⟨.builtin .max, [x, y].toArray, tys.toArray⟩) Q = optK (t x) fun a => optK (t y) fun b => optK (mmV P H true a b) fun v => andK (L ≤ H.size) (Q true v H) := by
  unfold A
  exact aMinMax_gen (mx := true)
end
/-! ### Unsigned numbers -/
def u64w (n : Int) : Int := IntKind.wrap .u64 n
section
variable {ty : TypeId} {x y : Operand} {a b : Int}
theorem u64_add : binV T P .add ty x y (.int .u64 a) (.int .u64 b) = some (.int .u64 (u64w (a + b))) := nr rfl
theorem u64_mul : binV T P .mul ty x y (.int .u64 a) (.int .u64 b) = some (.int .u64 (u64w (a * b))) := nr rfl
def xorU (a b : Int) : Int := u64w ((BitVec.ofInt 64 a ^^^ BitVec.ofInt 64 b).toNat : Nat)
theorem u64_xor : binV T P .xor ty x y (.int .u64 a) (.int .u64 b) = some (.int .u64 (xorU a b)) := nr rfl
theorem u64_shl6 : binV T P .shl ty x y (.int .u64 a) (.int .u64 6) = some (.int .u64 (u64w (a * 64))) := nr rfl
theorem u64_shr2 : binV T P .shr ty x y (.int .u64 a) (.int .u64 2) = some (.int .u64 (a.fdiv 4)) := nr rfl
theorem u64_shr20 : binV T P .shr ty x y (.int .u64 a) (.int .u64 20) = some (.int .u64 (a.fdiv 1048576)) := nr rfl
theorem rem_of {k : IntKind} (h : b ≠ 0) (hr : ∀ n, gr (Value.int k n) = true) : pureRun P (Op.intDiv .rem k a b) = some (.int k (a.tmod b)) := by
  unfold Op.intDiv
  rw [if_neg h]; rfl
theorem u64_rem (h : b ≠ 0) : binV T P .rem ty x y (.int .u64 a) (.int .u64 b) = some (.int .u64 (a.tmod b)) := by
  show (match (match pureRun P (Op.intDiv .rem .u64 a b) with
    | some v => bif gr v then some v else none
    | none => none) with
    | some v => some v
    | none => _) = _
  rw [rem_of h fun _ => rfl]; rfl
theorem i64_rem (h : b ≠ 0) : binV T P .rem ty x y (.int .i64 a) (.int .i64 b) = some (.int .i64 (a.tmod b)) := by
  show (match (match pureRun P (Op.intDiv .rem .i64 a b) with
    | some v => bif gr v then some v else none
    | none => none) with
    | some v => some v
    | none => _) = _
  rw [rem_of h fun _ => rfl]; rfl
end
theorem u64w_range (n : Int) : 0 ≤ u64w n ∧ u64w n < 18446744073709551616 := by
  have : u64w n = n % 18446744073709551616 := rfl
  omega
theorem u64w_of {n : Int} (h : 0 ≤ n ∧ n < 18446744073709551616) : u64w n = n := by
  have : u64w n = n % 18446744073709551616 := rfl
  omega
end Go.Am
/- Rows of things of one width. -/
namespace Go.Am
open Go.Proofs
variable {T : Tab} {P : Program} {N L : Nat} {H H' : AHeap} {Q : Bool → Value → AHeap → Prop} {α : Type}
/-- How things of a kind lie in cells. -/
structure Enc (α : Type) where
  f : α → List Value
  z : Nat
  len : ∀ x, (f x).length = z
  one : ∀ x, oneCells (f x) = true
def Enc.fl (E : Enc α) : List α → List Value
  | [] => []
  | x :: l => E.f x ++ E.fl l
variable {E : Enc α} {l l' : List α} {x : α} {i : Nat}
theorem fl_length : ∀ l : List α, (E.fl l).length = l.length * E.z
  | [] => by simp [Enc.fl]
  | x :: l => by rw [Enc.fl, List.length_append, E.len, fl_length l, List.length_cons, Nat.succ_mul, Nat.add_comm]
theorem fl_app : ∀ l l' : List α, E.fl (l ++ l') = E.fl l ++ E.fl l'
  | [], l' => rfl
  | x :: l, l' => by
    show E.f x ++ E.fl (l ++ l') = E.f x ++ E.fl l ++ E.fl l'
    rw [fl_app l l', List.append_assoc]
theorem one_app {a b : List Value} (ha : oneCells a = true) (hb : oneCells b = true) : oneCells (a ++ b) = true := by
  induction a with
  | nil => exact hb
  | cons v a ih =>
    unfold oneCells at ha
    rw [Bool.and_eq_true] at ha
    show (v.oneCell' && oneCells (a ++ b)) = true
    rw [ha.1, ih ha.2]; rfl
theorem one_fl : ∀ l : List α, oneCells (E.fl l) = true
  | [] => rfl
  | x :: l => one_app (E.one x) (one_fl l)
theorem fl_at : ∀ {l : List α} {i : Nat}, l[i]? = some x → ((E.fl l).drop (i * E.z)).take E.z = E.f x
  | [], i, h => by simp at h
  | y :: l, 0, h => by
    simp only [List.getElem?_cons_zero,Option.some.injEq] at h
    subst h
    rw [Nat.zero_mul, List.drop_zero, Enc.fl, ← E.len y, List.take_left]
  | y :: l, i + 1, h => by
    rw [Enc.fl, show (i + 1) * E.z = (E.f y).length + i * E.z by rw [E.len, Nat.succ_mul, Nat.add_comm], List.drop_length_add_append]
    exact fl_at (by simpa using h)
/-- A slice of such things. -/
structure Rw (E : Enc α) (H : AHeap) (a : Option Addr) (l : List α) : Prop where
  get : l ≠ [] → ∃ b o c, a = some ⟨b, o, none⟩ ∧ b < H.size ∧ cellsOf (H.get b) = some c ∧ (c.drop o).take (l.length * E.z) = E.fl l
theorem Rw.nil {a : Option Addr} : Rw E H a [] := ⟨fun h => absurd rfl h⟩
theorem Rw.fr {a : Option Addr} (h : Rw E H a l) (f : Fr H H') : Rw E H' a l := ⟨fun hl => by
  obtain ⟨b, o, c, h1, h2, h3, h4⟩ := h.get hl
  exact ⟨b, o, c, h1, Nat.lt_of_lt_of_le h2 f.size, by rw [f.same b h2]; exact h3, h4⟩⟩
theorem Rw.src {b o : Nat} {s : Option Nat} (h : Rw E H (some ⟨b, o, s⟩) l) (hl : l ≠ []) : srcCells H ⟨b, o, s⟩ (l.length * E.z) = some (E.fl l) := by
  obtain ⟨b', o', c', h1, h2, h3, h4⟩ := h.get hl
  cases h1
  unfold srcCells
  rw [h3]
  simp only [h4,fl_length,show Nat.beq (l.length * E.z) (l.length * E.z) = true by simp,cond_true]
theorem drop_take_at {c : List Value} {o n z i : Nat} (hi : i + z ≤ n) : (((c.drop o).take n).drop i).take z = (c.drop (o + i)).take z := by
  rw [List.drop_take, List.take_take, List.drop_drop, Nat.min_eq_left (by omega)]
/-- What lies at a place of it. -/
theorem Rw.at_ {a : Option Addr} (h : Rw E H a l) (hi : l[i]? = some x) : ∃ b o c, a = some ⟨b, o, none⟩ ∧ b < H.size ∧ cellsOf (H.get b) = some c ∧ (c.drop (o + i * E.z)).take E.z = E.f x := by
  have hlt := (List.getElem?_eq_some_iff.1 hi).1
  obtain ⟨b, o, c, h1, h2, h3, h4⟩ := h.get (fun h0 => by rw [h0] at hlt; simp at hlt)
  refine ⟨b, o, c, h1, h2, h3, ?_⟩
  have h5 : i * E.z + E.z ≤ l.length * E.z := by
    rw [← Nat.succ_mul]
    exact Nat.mul_le_mul_right _ hlt
  rw [← drop_take_at (n := l.length * E.z) h5, h4]
  exact fl_at hi
theorem Rw.of {b : Nat} {c r : List Value} (hb : b < H.size) (h : cellsOf (H.get b) = some c) (hc : c = E.fl l ++ r) : Rw E H (some ⟨b, 0, none⟩) l := ⟨fun _ => ⟨b, 0, c, rfl, hb, h, by
  rw [List.drop_zero, hc, ← fl_length, List.take_left]⟩⟩
theorem Grow.rw {tb c el : Nat} {a : Option Addr} (g : Grow H tb (.slice a l.length c) l.length (E.fl l) el E.z) : Rw E H a l := ⟨fun hne => by
  obtain ⟨b, al, h1, h2, h3, h4, h5⟩ := g.cons (by simpa using hne)
  cases h1
  exact (Rw.of (r := []) h3 (by rw [h4]; rfl) (by rw [List.append_nil])).get hne⟩
/-- Of things of more than one cell, as the machine loads them. -/
theorem part_of {c L : List Value} {k s : Nat} (h : (c.drop k).take s = L) (hl : L.length = s) : part c k (s + 1) = some (.agg ⟨L⟩) := by
  unfold part
  simp only [h,hl,show Nat.beq s s = true by simp,cond_true]
theorem cell_of {c : List Value} {k : Nat} {v : Value} (h : (c.drop k).take 1 = [v]) : c[k]? = some v := by
  have : ((c.drop k).take 1)[0]? = some v := by rw [h]; rfl
  rw [List.getElem?_take, if_pos (by omega), List.getElem?_drop, Nat.add_zero] at this
  exact this
/-- Whole numbers, one behind the other. -/
def intE : Enc Int := ⟨fun n => [.int .i64 n], 1, fun _ => rfl, fun _ => rfl⟩
set_option linter.defProp false in
def yrg := (And.intro (And.intro @loopKD_normal (And.intro @loopKD_ret @loopKD_exit)) (And.intro (And.intro @midK_normal @midK_exit) (And.intro @midK_ret @endK_normal)))
end Go.Am
/- The chute: numbers that come out of it, whatever they are. -/
namespace Go.Am
open Go.Proofs
variable {T : Tab} {P : Program} {N L : Nat} {H : AHeap} {Q : Bool → Value → AHeap → Prop}

/-- All but one block is as it was. -/
structure FrX (k : Nat) (H H' : AHeap) : Prop where
  size : H.size ≤ H'.size
  same : ∀ j, j < H.size → j ≠ k → H'.get j = H.get j
theorem FrX.refl (k : Nat) (H : AHeap) : FrX k H H := ⟨Nat.le_refl _, fun _ _ _ => rfl⟩
theorem FrX.trans {k : Nat} {H H₁ H₂ : AHeap} (a : FrX k H H₁) (b : FrX k H₁ H₂) : FrX k H H₂ := ⟨Nat.le_trans a.size b.size, fun j h1 h2 => (b.same j (Nat.lt_of_lt_of_le h1 a.size) h2).trans (a.same j h1 h2)⟩
theorem FrX.of {k : Nat} {H H' : AHeap} (f : Fr H H') : FrX k H H' := ⟨f.size, fun j h _ => f.same j h⟩
theorem FrX.put {k : Nat} {H H' : AHeap} (f : FrX k H H') (b : ABlk) : FrX k H (H'.put k b) := ⟨by rw [size_put]; exact f.size, fun j h1 h2 => by rw [get_put_ne h2]; exact f.same j h1 h2⟩
theorem FrX.above {k : Nat} {H H' : AHeap} (f : FrX k H H') {H₀ : AHeap} (f0 : Fr H₀ H) (h : H₀.size ≤ k) : Fr H₀ H' := ⟨Nat.le_trans f0.size f.size, fun j hj => (f.same j (Nat.lt_of_lt_of_le hj f0.size) (by omega)).trans (f0.same j hj)⟩
theorem st_cvS_5_3 : cvS tabA 5 3 = some .i64 := by kernel_rfl
theorem st_cvS_5_136 : cvS tabA 5 136 = some .u64 := by kernel_rfl
theorem st_cvS_3_136 : cvS tabA 3 136 = some .u64 := by kernel_rfl
theorem st_cvS_136_3 : cvS tabA 136 3 = some .i64 := by kernel_rfl
theorem cv_5_3 {k' : IntKind} {n : Int} : cvV tabA P H 5 3 (.int k' n) = some (.int .i64 (w64 n)) := cvV_int st_cvS_5_3
theorem cv_5_136 {k' : IntKind} {n : Int} : cvV tabA P H 5 136 (.int k' n) = some (.int .u64 (IntKind.u64.wrap n)) := cvV_int st_cvS_5_136
theorem cv_3_136 {k' : IntKind} {n : Int} : cvV tabA P H 3 136 (.int k' n) = some (.int .u64 (IntKind.u64.wrap n)) := cvV_int st_cvS_3_136
theorem cv_136_3 {k' : IntKind} {n : Int} : cvV tabA P H 136 3 (.int k' n) = some (.int .i64 (w64 n)) := cvV_int st_cvS_136_3
/-- A chute: bytes, how many are used, and what is stirred of them. -/
structure Chu (H : AHeap) (k : Nat) (a : Option Addr) (bs : List Int) (cap q : Nat) : Prop where
  lt : k < H.size
  blk : ∃ u s : Int, H.get k = .rw [.slice a bs.length cap, .int .i64 u, .int .u64 s] 138 false [] ∧ (0 ≤ u ∧ u ≤ 2 * q) ∧ u ≤ bs.length ∧ 0 ≤ s ∧ s < 18446744073709551616
  row : bs ≠ [] → ∃ b o c, a = some ⟨b, o, none⟩ ∧ b < H.size ∧ H.get b = .ro c ∧ ∀ i x, bs[i]? = some x → c[o + i]? = some (.int .u8 x)
  byte : ∀ x ∈ bs, 0 ≤ x ∧ x < 256
  len : bs.length < 9223372036854775808
section
variable {k cap q : Nat} {a : Option Addr} {bs : List Int}
theorem Chu.mono {q' : Nat} (h : Chu H k a bs cap q) (hq : q ≤ q') : Chu H k a bs cap q' where
  lt := h.lt
  blk := by
    obtain ⟨u, s, h1, h2, h3⟩ := h.blk
    exact ⟨u, s, h1, ⟨h2.1, by omega⟩, h3⟩
  row := h.row
  byte := h.byte
  len := h.len
theorem Chu.fr {H' : AHeap} (h : Chu H k a bs cap q) (f : Fr H H') : Chu H' k a bs cap q where
  lt := Nat.lt_of_lt_of_le h.lt f.size
  blk := by rw [f.same k h.lt]; exact h.blk
  row hne := by
    obtain ⟨b, o, c, h1, h2, h3, h4⟩ := h.row hne
    exact ⟨b, o, c, h1, Nat.lt_of_lt_of_le h2 f.size, by rw [f.same b h2]; exact h3, h4⟩
  byte := h.byte
  len := h.len
theorem Chu.put (h : Chu H k a bs cap q) {q' : Nat} {u s : Int} (hu : (0 ≤ u ∧ u ≤ 2 * q') ∧ u ≤ bs.length) (hs : 0 ≤ s ∧ s < 18446744073709551616) : Chu (H.put k (.rw [.slice a bs.length cap, .int .i64 u, .int .u64 s] 138 false [])) k a bs cap q' where
  lt := by rw [size_put]; exact h.lt
  blk := ⟨u, s, get_put_same h.lt, hu.1, hu.2, hs⟩
  row hne := by
    obtain ⟨b, o, c, h1, h2, h3, h4⟩ := h.row hne
    obtain ⟨u, s, h5, _⟩ := h.blk
    refine ⟨b, o, c, h1, by rw [size_put]; exact h2, ?_, h4⟩
    rw [get_put_ne (fun e => by subst e; rw [h5] at h3; cases h3)]
    exact h3
  byte := h.byte
  len := h.len
/-- A block that is no chute may change. -/
theorem Chu.other {j : Nat} {b' : ABlk} (h : Chu H k a bs cap q) (hj : j ≠ k) (hr : ∀ c, H.get j ≠ .ro c) : Chu (H.put j b') k a bs cap q where
  lt := by rw [size_put]; exact h.lt
  blk := by rw [get_put_ne (Ne.symm hj)]; exact h.blk
  row hne := by
    obtain ⟨b, o, c, h1, h2, h3, h4⟩ := h.row hne
    refine ⟨b, o, c, h1, by rw [size_put]; exact h2, ?_, h4⟩
    rw [get_put_ne (fun e => by subst e; exact hr c h3)]
    exact h3
  byte := h.byte
  len := h.len
theorem fdiv_range {s d : Int} (hs : 0 ≤ s ∧ s < 18446744073709551616) (hd : 1 ≤ d) : 0 ≤ s.fdiv d ∧ s.fdiv d < 18446744073709551616 := by
  rw [Int.fdiv_eq_ediv_of_nonneg _ (by omega)]
  exact ⟨Int.ediv_nonneg hs.1 (by omega), Int.lt_of_le_of_lt (Int.ediv_le_self _ hs.1) hs.2⟩
set_option maxHeartbeats 1000000 in
theorem c94 {x : Int} (h : Chu H k a bs cap q) (hL : L ≤ k) {M : Nat} (hM : 60 ≤ M) (hq : ∀ f H', (f = true → H' = H) → Chu H' k a bs cap q → FrX k H H' → H'.size = H.size → Q f (.tuple ⟨[]⟩) H') :
    resK (acall tabA (aexec tabA Try.prog M) 94 [.pointer (some ⟨k, 0, none⟩), .int .u8 x] H) L Q := by
  obtain ⟨N, rfl⟩ : ∃ N, M = N + 60 := ⟨M - 60, by omega⟩
  have hlt := h.lt
  refine call_keep tabA_fr (k := 35) (rs := []) (R := fun v H' => v = .tuple ⟨[]⟩ ∧ Chu H' k a bs cap q ∧ FrX k H H' ∧ H'.size = H.size) rfl fn_94 rfl rfl rfl (by omega) ?_ (by rintro v H' ⟨rfl, h1, h2, h3⟩; exact hq _ _ (fun h => by cases h) h1 h2 h3) (by rintro v H' ⟨rfl, h1, h2, h3⟩ _ _; exact hq _ _ (fun _ => rfl) h (FrX.refl _ _) rfl)
  obtain ⟨u, s, hb, ⟨hu0, hu00⟩, hu1, hs0, hs1⟩ := h.blk
  simp (disch := (first | (simp only [ne_eq,Nat.reduceEqDiff,not_false_eq_true,Nat.reduceLT]; done) | omega | (simp only [yz] <;> omega) | fail)) only [↓yp,yq0,yq1,yq2,yq3,yq4,yl,ys0,ys1,Nat.reduceAdd,Nat.reduceMul,Nat.reduceSub,Nat.reduceBEq,Nat.reduceEqDiff,Nat.reduceLT,Nat.reduceLeDiff,reduceIte,Int.reduceAdd,Int.reduceSub,Int.reduceMul,Int.reduceLT,Int.reduceLE,Int.reduceEq,Int.reduceToNat,Int.reduceNeg,fitB,newC,endD,endR,yrg]
  refine W_drawR (pl := []) [22] [(3, 1), (10, 1), (16, 1)] (planK_of rfl) (by kernel_rfl) (by kernel_rfl) (by kernel_rfl) (by (first | omega | (simp only [yz] <;> omega))) ?_
  simp (disch := (first | (simp only [ne_eq,Nat.reduceEqDiff,not_false_eq_true,Nat.reduceLT]; done) | omega | (simp only [yz] <;> omega) | fail)) only [↓yp,yq0,yq1,yq2,yq3,yq4,yl,ys0,ys1,Nat.reduceAdd,Nat.reduceMul,Nat.reduceSub,Nat.reduceBEq,Nat.reduceEqDiff,Nat.reduceLT,Nat.reduceLeDiff,reduceIte,Int.reduceAdd,Int.reduceSub,Int.reduceMul,Int.reduceLT,Int.reduceLE,Int.reduceEq,Int.reduceToNat,Int.reduceNeg,fitB,newC,endD,endR,yrg,A_nilCheck,nilQ_ptr,A_conv,cv_5_136,hb,u64_add,u64_mul,u64_xor,u64_shl6,u64_shr2]
  simp (disch := (first | (simp only [ne_eq,Nat.reduceEqDiff,not_false_eq_true,Nat.reduceLT]; done) | omega | (simp only [yz] <;> omega) | fail)) only [resV_none,optK_some,true_and]
  refine ⟨(h.put (q' := q) ⟨⟨hu0, hu00⟩, hu1⟩ (u64w_range _)).put ⟨⟨hu0, hu00⟩, hu1⟩ (u64w_range _), (FrX.put (FrX.put (FrX.refl _ _) _) _), ?_⟩
  rw [size_put, size_put]
/-- A number that is pulled: from 0 on, less than n, or 0. -/
def Pulled (n v : Int) : Prop := 0 ≤ v ∧ (v < n ∨ v = 0)
set_option maxHeartbeats 1000000 in
theorem c43 {n : Int} (h : Chu H k a bs cap q) (hL : L ≤ k) (hn : n ≤ 256) {M : Nat} (hM : 200 ≤ M) (hq : ∀ f v H', (f = true → H' = H) → Pulled n v → Chu H' k a bs cap (q + 1) → FrX k H H' → H'.size = H.size → Q f (.int .i64 v) H') :
    resK (acall tabA (aexec tabA Try.prog M) 43 [.pointer (some ⟨k, 0, none⟩), .int .i64 n] H) L Q := by
  obtain ⟨N, rfl⟩ : ∃ N, M = N + 200 := ⟨M - 200, by omega⟩
  have hlt := h.lt
  refine call_keep tabA_fr (k := 138) (rs := [.tmp 4]) (R := fun v H' => ∃ x, v = .int .i64 x ∧ Pulled n x ∧ Chu H' k a bs cap (q + 1) ∧ FrX k H H' ∧ H'.size = H.size) rfl fn_43 rfl rfl rfl (by omega) ?_ (by rintro v H' ⟨x, rfl, h0, h1, h2, h3⟩; exact hq _ _ _ (fun h => by cases h) h0 h1 h2 h3) (by rintro v H' ⟨x, rfl, h0, h1, h2, h3⟩ _ _; exact hq _ _ _ (fun _ => rfl) h0 (h.mono (by omega)) (FrX.refl _ _) rfl)
  obtain ⟨u, s, hb, ⟨hu0, hu00⟩, hu1, hs0, hs1⟩ := h.blk
  have hlen := h.len
  cases hA : decide (n < 2)
  rotate_left
  · simp (disch := (first | (simp only [ne_eq,Nat.reduceEqDiff,not_false_eq_true,Nat.reduceLT]; done) | omega | (simp only [yz] <;> omega) | fail)) only [↓yp,yq0,yq1,yq2,yq3,yq4,yl,ys0,ys1,Nat.reduceAdd,Nat.reduceMul,Nat.reduceSub,Nat.reduceBEq,Nat.reduceEqDiff,Nat.reduceLT,Nat.reduceLeDiff,reduceIte,Int.reduceAdd,Int.reduceSub,Int.reduceMul,Int.reduceLT,Int.reduceLE,Int.reduceEq,Int.reduceToNat,Int.reduceNeg,fitB,newC,endD,endR,yrg,A_nilCheck,nilQ_ptr,hb,lenV_slice st_esS_67,hA]
    exact ⟨0, rfl, ⟨by omega, .inr rfl⟩, h.mono (by omega), FrX.refl _ _⟩
  cases hB : decide ((bs.length : Int) = 0)
  rotate_left
  · simp (disch := (first | (simp only [ne_eq,Nat.reduceEqDiff,not_false_eq_true,Nat.reduceLT]; done) | omega | (simp only [yz] <;> omega) | fail)) only [↓yp,yq0,yq1,yq2,yq3,yq4,yl,ys0,ys1,Nat.reduceAdd,Nat.reduceMul,Nat.reduceSub,Nat.reduceBEq,Nat.reduceEqDiff,Nat.reduceLT,Nat.reduceLeDiff,reduceIte,Int.reduceAdd,Int.reduceSub,Int.reduceMul,Int.reduceLT,Int.reduceLE,Int.reduceEq,Int.reduceToNat,Int.reduceNeg,fitB,newC,endD,endR,yrg,A_nilCheck,nilQ_ptr,hb,lenV_slice st_esS_67,hA,hB]
    exact ⟨0, rfl, ⟨by omega, .inr rfl⟩, h.mono (by omega), FrX.refl _ _⟩
  have hn2 : 2 ≤ n := by have := of_decide_eq_false hA; omega
  have hbl : 0 < bs.length := by have := of_decide_eq_false hB; omega
  obtain ⟨b, o, c, rfl, hb2, hc, hrow⟩ := h.row (List.length_pos_iff.1 hbl)
  have h256 : decide (256 < n) = false := by simp; omega
  have hrem := fun (x y : Operand) (a : Int) => i64_rem (T := tabA) (P := Try.prog) (ty := 3) (x := x) (y := y) (a := a) (b := n) (by omega)
  simp (disch := (first | (simp only [ne_eq,Nat.reduceEqDiff,not_false_eq_true,Nat.reduceLT]; done) | omega | (simp only [yz] <;> omega) | fail)) only [↓yp,yq0,yq1,yq2,yq3,yq4,yl,ys0,ys1,Nat.reduceAdd,Nat.reduceMul,Nat.reduceSub,Nat.reduceBEq,Nat.reduceEqDiff,Nat.reduceLT,Nat.reduceLeDiff,reduceIte,Int.reduceAdd,Int.reduceSub,Int.reduceMul,Int.reduceLT,Int.reduceLE,Int.reduceEq,Int.reduceToNat,Int.reduceNeg,fitB,newC,endD,endR,yrg,A_nilCheck,nilQ_ptr,hb,lenV_slice st_esS_67,hA,hB]
  refine W_draw [] rfl (by kernel_rfl) (by kernel_rfl) (by (first | omega | (simp only [yz] <;> omega))) ?_
  cases hC : decide (w64 (u + 1) < (bs.length : Int))
  all_goals
    simp (disch := (first | (simp only [ne_eq,Nat.reduceEqDiff,not_false_eq_true,Nat.reduceLT]; done) | omega | (simp only [yz] <;> omega) | fail)) only [↓yp,yq0,yq1,yq2,yq3,yq4,yl,ys0,ys1,Nat.reduceAdd,Nat.reduceMul,Nat.reduceSub,Nat.reduceBEq,Nat.reduceEqDiff,Nat.reduceLT,Nat.reduceLeDiff,reduceIte,Int.reduceAdd,Int.reduceSub,Int.reduceMul,Int.reduceLT,Int.reduceLE,Int.reduceEq,Int.reduceToNat,Int.reduceNeg,fitB,newC,endD,endR,yrg,A_nilCheck,nilQ_ptr,hb,lenV_slice st_esS_67,hC,h256]
    refine W_draw [] rfl (by kernel_rfl) (by kernel_rfl) (by (first | omega | (simp only [yz] <;> omega))) ?_
    cases hD : decide (u < (bs.length : Int))
    rotate_left
    · have hu2 : u < (bs.length : Int) := of_decide_eq_true hD
      obtain ⟨i, rfl⟩ : ∃ i : Nat, u = i := ⟨u.toNat, by omega⟩
      obtain ⟨x, hx⟩ : ∃ x, bs[i]? = some x := ⟨bs[i]'(by omega), by simp [show i < bs.length by omega]⟩
      have w1 : w64 ((i : Int) + 1) = (i : Int) + 1 := w64_of (by omega)
      have hcx := hrow i x hx
      have hx256 := h.byte x (List.mem_of_getElem? hx)
      have w2 : w64 x = x := w64_of (by omega)
      simp (disch := (first | (simp only [ne_eq,Nat.reduceEqDiff,not_false_eq_true,Nat.reduceLT]; done) | omega | (simp only [yz] <;> omega) | fail)) only [↓yp,yq0,yq1,yq2,yq3,yq4,yl,ys0,ys1,Nat.reduceAdd,Nat.reduceMul,Nat.reduceSub,Nat.reduceBEq,Nat.reduceEqDiff,Nat.reduceLT,Nat.reduceLeDiff,reduceIte,Int.reduceAdd,Int.reduceSub,Int.reduceMul,Int.reduceLT,Int.reduceLE,Int.reduceEq,Int.reduceToNat,Int.reduceNeg,fitB,newC,endD,endR,yrg,A_nilCheck,nilQ_ptr,hb,lenV_slice st_esS_67,hD]
      refine W_draw [] rfl (by kernel_rfl) (by kernel_rfl) (by (first | omega | (simp only [yz] <;> omega))) ?_
      simp (disch := (first | (simp only [ne_eq,Nat.reduceEqDiff,not_false_eq_true,Nat.reduceLT]; done) | omega | (simp only [yz] <;> omega) | fail)) only [↓yp,yq0,yq1,yq2,yq3,yq4,yl,ys0,ys1,Nat.reduceAdd,Nat.reduceMul,Nat.reduceSub,Nat.reduceBEq,Nat.reduceEqDiff,Nat.reduceLT,Nat.reduceLeDiff,reduceIte,Int.reduceAdd,Int.reduceSub,Int.reduceMul,Int.reduceLT,Int.reduceLE,Int.reduceEq,Int.reduceToNat,Int.reduceNeg,fitB,newC,endD,endR,yrg,A_nilCheck,nilQ_ptr,hb,A_indexSlice st_esS_67,hc,hcx,w1]
      refine c94 (h.put (q' := q + 1) (u := (i : Int) + 1) ⟨by omega, by omega⟩ ⟨hs0, hs1⟩) hL (by omega) ?_
      intro f H' _ hc' hx' hs'
      rw [size_put] at hs'
      simp (disch := (first | (simp only [ne_eq,Nat.reduceEqDiff,not_false_eq_true,Nat.reduceLT]; done) | omega | (simp only [yz] <;> omega) | fail)) only [↓yp,yq0,yq1,yq2,yq3,yq4,yl,ys0,ys1,Nat.reduceAdd,Nat.reduceMul,Nat.reduceSub,Nat.reduceBEq,Nat.reduceEqDiff,Nat.reduceLT,Nat.reduceLeDiff,reduceIte,Int.reduceAdd,Int.reduceSub,Int.reduceMul,Int.reduceLT,Int.reduceLE,Int.reduceEq,Int.reduceToNat,Int.reduceNeg,fitB,newC,endD,endR,yrg,A_conv,cv_5_3,w2,hrem]
      refine ⟨_, rfl, ⟨Int.tmod_nonneg _ hx256.1, .inl (Int.tmod_lt_of_pos _ (by omega))⟩, hc', (FrX.put (FrX.refl _ _) _).trans hx', hs'⟩
    · have hu2 : u = (bs.length : Int) := by have := of_decide_eq_false hD; omega
      simp (disch := (first | (simp only [ne_eq,Nat.reduceEqDiff,not_false_eq_true,Nat.reduceLT]; done) | omega | (simp only [yz] <;> omega) | fail)) only [↓yp,yq0,yq1,yq2,yq3,yq4,yl,ys0,ys1,Nat.reduceAdd,Nat.reduceMul,Nat.reduceSub,Nat.reduceBEq,Nat.reduceEqDiff,Nat.reduceLT,Nat.reduceLeDiff,reduceIte,Int.reduceAdd,Int.reduceSub,Int.reduceMul,Int.reduceLT,Int.reduceLE,Int.reduceEq,Int.reduceToNat,Int.reduceNeg,fitB,newC,endD,endR,yrg,A_nilCheck,nilQ_ptr,hb,lenV_slice st_esS_67,hD]
      have wl : u64w (bs.length : Int) = (bs.length : Int) := u64w_of (by omega)
      have hreml := fun (x y : Operand) (a : Int) => u64_rem (T := tabA) (P := Try.prog) (ty := 136) (x := x) (y := y) (a := a) (b := (bs.length : Int)) (by omega)
      obtain ⟨i, hi, hi2⟩ : ∃ i : Nat, s.tmod (bs.length : Int) = i ∧ i < bs.length := by
        have q1 := Int.tmod_nonneg (bs.length : Int) hs0
        have q2 := Int.tmod_lt_of_pos s (show (0 : Int) < (bs.length : Int) by omega)
        exact ⟨(s.tmod (bs.length : Int)).toNat, by omega, by omega⟩
      have w3 : w64 (i : Int) = (i : Int) := w64_of (by omega)
      obtain ⟨x, hx⟩ : ∃ x, bs[i]? = some x := ⟨bs[i]'(by omega), by simp [hi2]⟩
      have hcx := hrow i x hx
      obtain ⟨f, v, H', m, hres, hLm, rfl, hf, hc', hx', hs'⟩ := resK_elim (Q := fun f v H' => v = .tuple ⟨[]⟩ ∧ (f = true → H' = H) ∧ Chu H' k (some ⟨b, o, none⟩) bs cap q ∧ FrX k H H' ∧ H'.size = H.size) (c94 (M := N + 194) (x := x) h hL (by omega) fun f H' h1 h2 h3 h4 => ⟨rfl, h1, h2, h3, h4⟩)
      obtain ⟨u2, s2, hb', hu2', hu3', hs2, hs3⟩ := hc'.blk
      have hc2 : H'.get b = .ro c := by
        rw [hx'.same b hb2 (fun e => by subst e; rw [hb] at hc; cases hc)]
        exact hc
      have hn64 : u64w n = n := u64w_of (by omega)
      have hremn := fun (x y : Operand) (a : Int) => u64_rem (T := tabA) (P := Try.prog) (ty := 136) (x := x) (y := y) (a := a) (b := n) (by omega)
      have hfd := fdiv_range (s := s2) (d := 1048576) ⟨hs2, hs3⟩ (by omega)
      have q1 := Int.tmod_nonneg n hfd.1
      have q2 := Int.tmod_lt_of_pos (s2.fdiv 1048576) (show (0 : Int) < n by omega)
      have w4 : w64 ((s2.fdiv 1048576).tmod n) = (s2.fdiv 1048576).tmod n := w64_of (by omega)
      cases f
      · refine W_drawR (pl := []) [19] [(8, 1)] (planK_of rfl) (by kernel_rfl) (by kernel_rfl) (by kernel_rfl) (by (first | omega | (simp only [yz] <;> omega))) ?_
        simp (disch := (first | (simp only [ne_eq,Nat.reduceEqDiff,not_false_eq_true,Nat.reduceLT]; done) | omega | (simp only [yz] <;> omega) | fail)) only [↓yp,yq0,yq1,yq2,yq3,yq4,yl,ys0,ys1,Nat.reduceAdd,Nat.reduceMul,Nat.reduceSub,Nat.reduceBEq,Nat.reduceEqDiff,Nat.reduceLT,Nat.reduceLeDiff,reduceIte,Int.reduceAdd,Int.reduceSub,Int.reduceMul,Int.reduceLT,Int.reduceLE,Int.reduceEq,Int.reduceToNat,Int.reduceNeg,fitB,newC,endD,endR,yrg,A_nilCheck,nilQ_ptr,hb,hb',lenV_slice st_esS_67,A_indexSlice st_esS_67,hc,hc2,hcx,A_conv,cv_3_136,cv_136_3,show ∀ z,IntKind.u64.wrap z = u64w z from fun _ => rfl,wl,hreml,hi,w3,hres]
        simp (disch := (first | (simp only [ne_eq,Nat.reduceEqDiff,not_false_eq_true,Nat.reduceLT]; done) | omega | (simp only [yz] <;> omega) | fail)) only [↓yp,yq0,yq1,yq2,yq3,yq4,yl,ys0,ys1,Nat.reduceAdd,Nat.reduceMul,Nat.reduceSub,Nat.reduceBEq,Nat.reduceEqDiff,Nat.reduceLT,Nat.reduceLeDiff,reduceIte,Int.reduceAdd,Int.reduceSub,Int.reduceMul,Int.reduceLT,Int.reduceLE,Int.reduceEq,Int.reduceToNat,Int.reduceNeg,fitB,newC,endD,endR,yrg,A_nilCheck,nilQ_ptr,hb',A_conv,cv_3_136,cv_136_3,show ∀ z,IntKind.u64.wrap z = u64w z from fun _ => rfl,hn64,hremn,u64_shr20,w4]
        exact ⟨_, rfl, ⟨q1, .inl q2⟩, hc'.mono (by omega), hx', hs'⟩
      · obtain rfl := hf rfl
        rw [hb] at hb'
        cases hb'
        refine W_drawR (pl := []) [] [] (planK_of rfl) (by kernel_rfl) (by kernel_rfl) (by kernel_rfl) (by (first | omega | (simp only [yz] <;> omega))) ?_
        simp (disch := (first | (simp only [ne_eq,Nat.reduceEqDiff,not_false_eq_true,Nat.reduceLT]; done) | omega | (simp only [yz] <;> omega) | fail)) only [↓yp,yq0,yq1,yq2,yq3,yq4,yl,ys0,ys1,Nat.reduceAdd,Nat.reduceMul,Nat.reduceSub,Nat.reduceBEq,Nat.reduceEqDiff,Nat.reduceLT,Nat.reduceLeDiff,reduceIte,Int.reduceAdd,Int.reduceSub,Int.reduceMul,Int.reduceLT,Int.reduceLE,Int.reduceEq,Int.reduceToNat,Int.reduceNeg,fitB,newC,endD,endR,yrg,A_nilCheck,nilQ_ptr,hb,lenV_slice st_esS_67,A_indexSlice st_esS_67,hc,hcx,A_conv,cv_3_136,cv_136_3,show ∀ z,IntKind.u64.wrap z = u64w z from fun _ => rfl,wl,hreml,hi,w3,hres]
        simp (disch := (first | (simp only [ne_eq,Nat.reduceEqDiff,not_false_eq_true,Nat.reduceLT]; done) | omega | (simp only [yz] <;> omega) | fail)) only [↓yp,yq0,yq1,yq2,yq3,yq4,yl,ys0,ys1,Nat.reduceAdd,Nat.reduceMul,Nat.reduceSub,Nat.reduceBEq,Nat.reduceEqDiff,Nat.reduceLT,Nat.reduceLeDiff,reduceIte,Int.reduceAdd,Int.reduceSub,Int.reduceMul,Int.reduceLT,Int.reduceLE,Int.reduceEq,Int.reduceToNat,Int.reduceNeg,fitB,newC,endD,endR,yrg,A_nilCheck,nilQ_ptr,hb,A_conv,cv_3_136,cv_136_3,show ∀ z,IntKind.u64.wrap z = u64w z from fun _ => rfl,hn64,hremn,u64_shr20,w4]
        exact ⟨_, rfl, ⟨q1, .inl q2⟩, h.mono (by omega), FrX.refl _ _⟩
theorem c87 {lo hi : Int} (h : Chu H k a bs cap q) (hL : L ≤ k) (hr : -1000 ≤ lo ∧ lo ≤ hi ∧ hi ≤ lo + 255 ∧ hi ≤ 1000) {M : Nat} (hM : 300 ≤ M) (hq : ∀ f v H', (f = true → H' = H) → lo ≤ v → v ≤ hi → Chu H' k a bs cap (q + 1) → FrX k H H' → H'.size = H.size → Q f (.int .i64 v) H') :
    resK (acall tabA (aexec tabA Try.prog M) 87 [.pointer (some ⟨k, 0, none⟩), .int .i64 lo, .int .i64 hi] H) L Q := by
  obtain ⟨N, rfl⟩ : ∃ N, M = N + 300 := ⟨M - 300, by omega⟩
  have hlt := h.lt
  refine call_keep tabA_fr (k := 15) (rs := [.tmp 6]) (R := fun v H' => ∃ x, v = .int .i64 x ∧ lo ≤ x ∧ x ≤ hi ∧ Chu H' k a bs cap (q + 1) ∧ FrX k H H' ∧ H'.size = H.size) rfl fn_87 rfl rfl rfl (by omega) ?_ (by rintro v H' ⟨x, rfl, h0, h0', h1, h2, h3⟩; exact hq _ _ _ (fun h => by cases h) h0 h0' h1 h2 h3) (by rintro v H' ⟨x, rfl, h0, h0', h1, h2, h3⟩ _ _; exact hq _ _ _ (fun _ => rfl) h0 h0' (h.mono (by omega)) (FrX.refl _ _) rfl)
  have w1 : w64 (hi - lo) = hi - lo := w64_of (by omega)
  have w2 : w64 (hi - lo + 1) = hi - lo + 1 := w64_of (by omega)
  simp (disch := (first | (simp only [ne_eq,Nat.reduceEqDiff,not_false_eq_true,Nat.reduceLT]; done) | omega | (simp only [yz] <;> omega) | fail)) only [↓yp,yq0,yq1,yq2,yq3,yq4,yl,ys0,ys1,Nat.reduceAdd,Nat.reduceMul,Nat.reduceSub,Nat.reduceBEq,Nat.reduceEqDiff,Nat.reduceLT,Nat.reduceLeDiff,reduceIte,Int.reduceAdd,Int.reduceSub,Int.reduceMul,Int.reduceLT,Int.reduceLE,Int.reduceEq,Int.reduceToNat,Int.reduceNeg,fitB,newC,endD,endR,yrg,w1,w2]
  refine c43 h hL (by omega) (by omega) ?_
  rintro f v H' - ⟨h1, h2⟩ hc hx hs
  have w3 : w64 (lo + v) = lo + v := w64_of (by omega)
  simp (disch := (first | (simp only [ne_eq,Nat.reduceEqDiff,not_false_eq_true,Nat.reduceLT]; done) | omega | (simp only [yz] <;> omega) | fail)) only [↓yp,yq0,yq1,yq2,yq3,yq4,yl,ys0,ys1,Nat.reduceAdd,Nat.reduceMul,Nat.reduceSub,Nat.reduceBEq,Nat.reduceEqDiff,Nat.reduceLT,Nat.reduceLeDiff,reduceIte,Int.reduceAdd,Int.reduceSub,Int.reduceMul,Int.reduceLT,Int.reduceLE,Int.reduceEq,Int.reduceToNat,Int.reduceNeg,fitB,newC,endD,endR,yrg,w3]
  exact ⟨_, rfl, by omega, by omega, hc, hx, hs⟩
theorem aenv_nilp {n : Nat} {e : VT} : aenv n e (.const (.pointer none)) = some (.pointer none) := nr rfl
/-- Bytes that came in. -/
structure Bts (H : AHeap) (a : Option Addr) (bs : List Int) : Prop where
  row : bs ≠ [] → ∃ b o c, a = some ⟨b, o, none⟩ ∧ b < H.size ∧ H.get b = .ro c ∧ ∀ i x, bs[i]? = some x → c[o + i]? = some (.int .u8 x)
  byte : ∀ x ∈ bs, 0 ≤ x ∧ x < 256
  len : bs.length < 9223372036854775808
theorem c36 {bs : List Int} (hb : Bts H a bs) (hL : L ≤ H.size) {M : Nat} (hM : 50 ≤ M) (hq : ∀ H', Fr H H' → H'.size = H.size + 1 → Chu H' H.size a bs cap 0 → Q false (.pointer (some ⟨H.size, 0, none⟩)) H') :
    resK (acall tabA (aexec tabA Try.prog M) 36 [.slice a bs.length cap] H) L Q := by
  obtain ⟨N, rfl⟩ : ∃ N, M = N + 50 := ⟨M - 50, by omega⟩
  refine call_fls (R := fun v H' => v = .pointer (some ⟨H.size, 0, none⟩) ∧ Fr H H' ∧ H'.size = H.size + 1 ∧ Chu H' H.size a bs cap 0) (k := 6) (rs := [.tmp 2]) rfl fn_36 rfl rfl rfl hL ?_ ?_ ?_
  rotate_left
  · rintro v H' ⟨rfl, -⟩; rfl
  · rintro v H' ⟨rfl, h1, h2, h3⟩
    exact hq _ h1 h2 h3
  simp (disch := (first | (simp only [ne_eq,Nat.reduceEqDiff,not_false_eq_true,Nat.reduceLT]; done) | omega | (simp only [yz] <;> omega) | fail)) only [↓yp,yq0,yq1,yq2,yq3,yq4,yl,ys0,ys1,Nat.reduceAdd,Nat.reduceMul,Nat.reduceSub,Nat.reduceBEq,Nat.reduceEqDiff,Nat.reduceLT,Nat.reduceLeDiff,reduceIte,Int.reduceAdd,Int.reduceSub,Int.reduceMul,Int.reduceLT,Int.reduceLE,Int.reduceEq,Int.reduceToNat,Int.reduceNeg,fitB,newC,endD,endR,yrg,A_build st_bdS_138,aenv_nilp]
  refine ⟨by (repeat (first | exact Fr.refl _ | assumption | refine Fr.allocd ?_ _ | refine Fr.kill ?_ (by first | assumption | omega) | refine Fr.put ?_ (by first | omega | (simp only [yz] <;> omega)) _)), ⟨by (first | omega | (simp only [yz] <;> omega)), ⟨0, 8191, get_alloc_same, by omega, by omega, by omega, by omega⟩, fun hne => ?_, hb.byte, hb.len⟩⟩
  obtain ⟨b, o, c, h1, h2, h3, h4⟩ := hb.row hne
  exact ⟨b, o, c, h1, by (first | omega | (simp only [yz] <;> omega)), by rw [get_alloc_lt h2]; exact h3, h4⟩
end
end Go.Am
