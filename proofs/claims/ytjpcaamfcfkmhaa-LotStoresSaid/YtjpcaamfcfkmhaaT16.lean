/- The equations by which code is worked out, in bundles. -/
import Derived.Test.YtjpcaamfcfkmhaaT15
import Derived.Test.YtjpcaamfcfkmhaaT14
set_option linter.unusedSimpArgs false
set_option linter.unusedVariables false
set_option linter.defProp false
namespace Go.Am
open Go.Proofs
def yp := (And.intro (And.intro (And.intro (And.intro (And.intro @W_skip @W_label) (And.intro @W_exit @W_ret)) (And.intro (And.intro @W_seq @W_block) (And.intro @W_cond @W_region))) (And.intro (And.intro (And.intro @O_nil @O_cons) (And.intro @O_guard @A_move)) (And.intro (And.intro @A_assign @A_pick) (And.intro @A_box (And.intro @A_alloc @A_fieldAddr))))) (And.intro (And.intro (And.intro (And.intro @A_load @A_store) (And.intro @A_extract @A_binOp)) (And.intro (And.intro @A_call @A_len) (And.intro @wrK_eq (And.intro @A_makeFunc @A_unOp)))) (And.intro (And.intro (And.intro @A_append @D_nil) (And.intro @D_cons @D_guard)) (And.intro (And.intro @newK_alloc @newK_box) (And.intro @DS_nil (And.intro @DS_cons @DS_guard))))))
def yq0 := (And.intro (And.intro (And.intro (And.intro (And.intro @env_cons @env_nil) (And.intro @optK_some (And.intro @letK_eq @andK_of))) (And.intro (And.intro @Split_true @Split_false) (And.intro @Split_not (And.intro @seqK_normal @seqK_exit)))) (And.intro (And.intro (And.intro @seqK_ret @boolK_bool) (And.intro @bolK_bool (And.intro @guardK_true @guardK_false))) (And.intro (And.intro @gK_some @gdst_zero) (And.intro @gdst_succ (And.intro @ptrK_some @intK_int))))) (And.intro (And.intro (And.intro (And.intro @tupK_tuple @slK_some) (And.intro @aenv_tmp (And.intro @aenv_func @aenv_int))) (And.intro (And.intro @aenv_bool @gt_same) (And.intro @gt_ne (And.intro @put_none @blockExit_normal)))) (And.intro (And.intro (And.intro @blockExit_ret @blockExit_same) (And.intro @blockExit_other (And.intro @binV_add @binV_sub))) (And.intro (And.intro @binV_mul @binV_eql) (And.intro @binV_neq (And.intro @binV_lss @binV_leq))))))
def yq1 := (And.intro (And.intro (And.intro (And.intro (And.intro @binV_gtr @binV_geq) (And.intro @resK_some (And.intro @calK_func @avals_nil))) (And.intro (And.intro @avals_cons @consO_some) (And.intro @resV_one (And.intro @resV_two @resV_three)))) (And.intro (And.intro (And.intro @retK_ret @retK_normal) (And.intro @loopK_normal (And.intro @loopK_ret @loopK_exit))) (And.intro (And.intro @get_alloc_same @get_alloc_eq) (And.intro @get_alloc_lt (And.intro @get_put_same @get_put_ne))))) (And.intro (And.intro (And.intro (And.intro @size_alloc @size_put) (And.intro @size_kill (And.intro @cellsOf_rw @cellsOf_ro))) (And.intro (And.intro @part_zero @part_2) (And.intro @part_3 (And.intro @part_4 @part_5)))) (And.intro (And.intro (And.intro @part_6 @part_7) (And.intro @part_8 (And.intro @part_9 @cells_agg))) (And.intro (And.intro @cells_int @cells_bool) (And.intro @cells_slice (And.intro @cells_pointer @cells_func))))))
def yq2 := (And.intro (And.intro (And.intro (And.intro (And.intro @beq_refl @idxK_int) (And.intro @wrB_rw (And.intro @one_nil @one_int))) (And.intro (And.intro @one_bool @one_slice) (And.intro @one_pointer (And.intro @one_func @one_nilFunc)))) (And.intro (And.intro (And.intro @unV_not @fill1_some) (And.intro @andThen_some (And.intro @afill_nil @afill_cons))) (And.intro (And.intro @aparts_nil @aparts_cons) (And.intro @consP_some (And.intro @resV_cell @cellO_ptr))))) (And.intro (And.intro (And.intro (And.intro @readO_some @maskE_tmp) (And.intro @maskE_func (And.intro @maskE_int @maskE_bool))) (And.intro (And.intro @memNat_nil @memNat_cons) (And.intro @flagK_true (And.intro @flagK_false @agsK_nil)))) (And.intro (And.intro (And.intro @agsK_cons @agK_nil) (And.intro @agK_cons (And.intro @lastG_one @lastG_cons))) (And.intro (And.intro @tm_move @tm_assign) (And.intro @tm_box (And.intro @tm_load @tm_nilCheck))))))
def yq3 := (And.intro (And.intro (And.intro (And.intro (And.intro @tm_unOp @tm_convert) (And.intro @tm_alloc (And.intro @tm_store @tm_binOp))) (And.intro (And.intro @tm_fieldAddr @tm_field) (And.intro @tm_indexAddr (And.intro @tm_index @tm_pick)))) (And.intro (And.intro (And.intro @tm_extract @tm_build) (And.intro @tm_row (And.intro @tm_call @tm_built))) (And.intro (And.intro @tp_nil @tp_tmp) (And.intro @tp_const (And.intro @tp_func @aenv_nilFunc))))) (And.intro (And.intro (And.intro (And.intro @aenv_nilSlice @sv_int) (And.intro @sv_bool (And.intro @sv_pointer @sv_slice))) (And.intro (And.intro @sv_agg @sv_tuple) (And.intro @sv_func (And.intro @sl_nil @sl_cons)))) (And.intro (And.intro (And.intro @lookK_some @lookK_none) (And.intro @look_nil (And.intro @look_cons @places_nil))) (And.intro (And.intro @places_cons @allocs_nil) (And.intro @allocs_cons (And.intro @memP_nil @memP_cons))))))
def yq4 := (And.intro (And.intro (And.intro @skipK_true @skipK_false) (And.intro @stsR_nil (And.intro @stsR_cons @stR_nil))) (And.intro (And.intro @stR_cons (And.intro @tupO_some @resV_cell_tmp)) (And.intro @revA_nil (And.intro @revA_cons @guardK_undef))))
def yl := (And.intro (And.intro (And.intro (And.intro (And.intro @Nat.le_refl @cond_true.{1}) (And.intro @cond_false.{1} (And.intro @Nat.zero_add @List.nil_append.{0}))) (And.intro (And.intro @List.cons_append.{0} @List.append_nil.{0}) (And.intro @List.take_zero.{0} (And.intro @List.take_succ_cons.{0} @List.drop_zero.{0})))) (And.intro (And.intro (And.intro @List.drop_succ_cons.{0} @List.drop_nil.{0}) (And.intro @decide_true (And.intro @decide_false @Bool.and_self))) (And.intro (And.intro @Bool.true_and @List.length_cons.{0}) (And.intro @List.length_nil.{0} (And.intro @Int.toNat_natCast @Bool.or_true))))) (And.intro (And.intro (And.intro (And.intro @Bool.true_or @Bool.false_or) (And.intro @Bool.or_false (And.intro @Bool.and_true @Bool.and_false))) (And.intro (And.intro @Bool.false_and @Bool.not_true) (And.intro @Bool.not_false (And.intro @and_true @true_and)))) (And.intro (And.intro (And.intro @List.getElem?_cons_zero.{0} @List.getElem?_cons_succ.{0}) (And.intro @Nat.le_add_right (And.intro @List.map_cons.{0, 0} @List.map_nil.{0, 0}))) (And.intro (And.intro @List.map_toArray.{0, 0} (And.intro @List.append_toArray.{0} @if_true.{1})) (And.intro @if_false.{1} (And.intro @Nat.add_zero @Nat.mul_one))))))
def ys0 := (And.intro (And.intro (And.intro (And.intro (And.intro @st_alS_119 @st_alS_129) (And.intro @st_alS_170 (And.intro @st_alS_38 @st_alS_77))) (And.intro (And.intro @st_alS_87 @st_bdS_129) (And.intro @st_bdS_170 (And.intro @st_bdS_38 @st_bdS_77)))) (And.intro (And.intro (And.intro @st_esS_22 @st_esS_23) (And.intro @st_esS_49 (And.intro @st_faS_124_0 @st_faS_129_0))) (And.intro (And.intro @st_faS_170_0 @st_faS_170_1) (And.intro @st_faS_25_0 (And.intro @st_faS_25_1 @st_faS_25_2))))) (And.intro (And.intro (And.intro (And.intro @st_faS_38_0 @st_faS_38_1) (And.intro @st_faS_77_0 (And.intro @st_faS_77_1 @st_faS_87_0))) (And.intro (And.intro @st_faS_87_1 @st_faS_87_2) (And.intro @st_faS_87_3 (And.intro @st_inS_119 @st_inS_129)))) (And.intro (And.intro (And.intro @st_inS_170 @st_inS_3) (And.intro @st_inS_38 (And.intro @st_inS_77 @st_inS_87))) (And.intro (And.intro @st_ldS_119 @st_ldS_124) (And.intro @st_ldS_127 (And.intro @st_ldS_129 @st_ldS_170))))))
def ys1 := (And.intro (And.intro @st_ldS_22 (And.intro @st_ldS_23 @st_ldS_3)) (And.intro @st_ldS_38 (And.intro @st_ldS_77 @st_ldS_87)))
def yk := And.intro @ne_eq @not_false_eq_true
def yz := (And.intro @size_alloc (And.intro @size_put @size_kill))
def yg := (And.intro (And.intro (And.intro (And.intro @gt_same @gt_ne) (And.intro @put_none @get_alloc_same)) (And.intro (And.intro @get_alloc_eq @get_alloc_lt) (And.intro @get_put_same (And.intro @get_put_ne @size_alloc)))) (And.intro (And.intro (And.intro @size_put @size_kill) (And.intro @cellsOf_rw @cellsOf_ro)) (And.intro (And.intro @Nat.le_refl @Nat.zero_add) (And.intro @Nat.add_zero (And.intro @true_and @and_true)))))
end Go.Am
/- What any layer needs of heaps, rows and numbers. -/
namespace Go.Am
open Go.Proofs
variable {T : Tab} {P : Program} {N L : Nat} {H : AHeap} {Q : Bool → Value → AHeap → Prop}
def off (a lo hi : Int) : Bool := decide (a < lo) || decide (hi < a)
/-- What was there is there still. -/
structure Fr (H H' : AHeap) : Prop where
 size : H.size ≤ H'.size
 same : ∀ k, k < H.size → H'.get k = H.get k
theorem Fr.refl (H : AHeap) : Fr H H := ⟨Nat.le_refl _, fun _ _ => rfl⟩
theorem Fr.trans {H H₁ H₂ : AHeap} (a : Fr H H₁) (b : Fr H₁ H₂) : Fr H H₂ := ⟨Nat.le_trans a.size b.size, fun k hk => (b.same k (Nat.lt_of_lt_of_le hk a.size)).trans (a.same k hk)⟩
theorem Fr.alloc (H : AHeap) (b : ABlk) : Fr H (H.alloc b) := ⟨by simp, fun k hk => get_alloc_lt hk⟩
theorem Fr.allocd {H H' : AHeap} (a : Fr H H') (b : ABlk) : Fr H (H'.alloc b) := a.trans (Fr.alloc _ _)
theorem Fr.kill {H H' : AHeap} (a : Fr H H') {l : List Nat} (h : ∀ j ∈ l, H.size ≤ j) : Fr H (H'.kill l) := ⟨by simp [a.size], fun j hj => by rw [get_kill (fun hm => by have := h j hm; omega)]; exact a.same j hj⟩
theorem Fr.put {H H' : AHeap} (a : Fr H H') {k : Nat} (hk : H.size ≤ k) (b : ABlk) : Fr H (H'.put k b) := ⟨by simp [a.size], fun j hj => by rw [get_put_ne (by omega)]; exact a.same j hj⟩
def wi (a lo hi : Int) : Bool := decide (lo ≤ a) && decide (a ≤ hi)
/-- A row that is made by append, so far. -/
structure Grow (H : AHeap) (tb : Nat) (v : Value) (i : Nat) (cs : List Value) (el z : Nat) : Prop where
 nil : i = 0 → v = .slice none 0 0
 cons : i ≠ 0 → ∃ b al, v = .slice (some ⟨b, 0, none⟩) i (OPEN + z) ∧ tb < b ∧ b < H.size ∧ H.get b = .rw cs el true al ∧ (∀ j ∈ al, tb < j ∧ j < b)
structure FrU (m : Nat) (H H' : AHeap) : Prop where
 size : H.size ≤ H'.size
 same : ∀ k, k < m → H'.get k = H.get k
theorem Fr.part {H H₁ H₂ : AHeap} {m : Nat} (a : Fr H H₁) (b : FrU m H₁ H₂) (h : H.size ≤ m) : Fr H H₂ := ⟨Nat.le_trans a.size b.size, fun k hk => (b.same k (by omega)).trans (a.same k hk)⟩
theorem Grow.fr {H H' : AHeap} {tb i el z : Nat} {v : Value} {cs : List Value} (g : Grow H tb v i cs el z) (f : Fr H H') : Grow H' tb v i cs el z :=
 ⟨g.nil, fun h => by
  obtain ⟨b, al, h1, h2, h3, h4, h5⟩ := g.cons h
  exact ⟨b, al, h1, h2, Nat.lt_of_lt_of_le h3 f.size, by rw [f.same b h3]; exact h4, h5⟩⟩
theorem Grow.put {H : AHeap} {tb i el z k : Nat} {v : Value} {cs : List Value} {blk : ABlk} (g : Grow H tb v i cs el z) (hk : k ≤ tb) : Grow (H.put k blk) tb v i cs el z :=
 ⟨g.nil, fun h => by
  obtain ⟨b, al, h1, h2, h3, h4, h5⟩ := g.cons h
  exact ⟨b, al, h1, h2, by rw [size_put]; exact h3, by rw [get_put_ne (by omega)]; exact h4, h5⟩⟩
theorem newC_app {j : Nat} {vs a b : List Value} : newC (a.length + j) vs (a ++ b) = a ++ newC j vs b := by
 unfold newC
 rw [List.take_length_add_append, show a.length + j + vs.length = a.length + (j + vs.length) by omega, List.drop_length_add_append]
 simp
theorem newC_pre {j : Nat} {vs a b : List Value} (h : j + vs.length ≤ a.length) : newC j vs (a ++ b) = newC j vs a ++ b := by
 unfold newC
 rw [List.take_append_of_le_length (by omega), List.drop_append_of_le_length h]
 simp
/-- The cells of an element of a row that is cleared. -/
def clS (T : Tab) (ty : TypeId) : Option (Array Value) := match T.und ty with
 | some (.slice e) => match T.inf e with
  | some i => match i.zero with
   | some z => some z.cells
   | none => none
  | none => none
 | _ => none
def clK (zc : Array Value) (v : Value) (H : AHeap) (L : Nat) (Q : Bool → Value → AHeap → Prop) (_ : Tag Q := .mk) : Prop := match v with
 | .slice a n _ => bif Nat.beq n 0 then L ≤ H.size ∧ Q false (.tuple #[]) H else match a with
  | some a => bif allGrV (Builtin.zeroCells zc n).toList then (match aWrite H a.block a.off (Builtin.zeroCells zc n).toList with
   | some (H', m) => L ≤ m ∧ Q false (.tuple #[]) H'
   | none => False) else False
  | none => False
 | _ => False
theorem A_clear {ex : Exec} {t : Operand → Option Value} {ty : TypeId} {tys : List TypeId} {x : Operand} {zc : Array Value} (hs : clS T ty = some zc) : A T P ex t H L (.call ⟨.builtin .clear, [x].toArray, (ty :: tys).toArray⟩) Q = optK (t x) fun v => clK zc v H L Q := by
 unfold A
 show (match moves (aClear T t H (ty :: tys).toArray [x].toArray) with
  | some (b, v, H', m) => L ≤ m ∧ Q b v H'
  | none => False) = _
 unfold clS at hs
 unfold aClear
 simp only
 cases hu : T.und ty with
 | none => rw [hu] at hs; cases hs
 | some d =>
  rw [hu] at hs
  cases d with
  | slice e =>
   simp only at hs
   cases hi : T.inf e with
   | none => rw [hi] at hs; cases hs
   | some i =>
    rw [hi] at hs
    simp only at hs
    cases hz : i.zero with
    | none => rw [hz] at hs; cases hs
    | some z =>
     rw [hz] at hs
     cases hs
     cases t x with
     | none => rfl
     | some v =>
      simp only [optK]
      cases v with
      | slice a n c =>
       simp only [clK]
       cases hn : Nat.beq n 0
       ·simp only [cond_false]
        cases a with
        | none => rfl
        | some a =>
         simp only [hi,hz]
         cases allGrV (Builtin.zeroCells z.cells n).toList
         ·rfl
         ·simp only [cond_true]
          cases aWrite H a.block a.off (Builtin.zeroCells z.cells n).toList with
          | none => rfl
          | some p => rfl
       ·rfl
      | _ => rfl
  | _ => cases hs
theorem resK_elim {q : Res} {Q : Bool → Value → AHeap → Prop} (h : resK q L Q) : ∃ f v H' m, q = some (f, v, H', m) ∧ L ≤ m ∧ Q f v H' := by
 unfold resK at h
 cases q with
 | none => exact h.elim
 | some p =>
  obtain ⟨f, v, H', m⟩ := p
  exact ⟨f, v, H', m, rfl, h⟩
end Go.Am
/- More operations on values that are not known: arrays, cuts of arrays, rows that are made. -/
namespace Go.Am
variable {α : Type} {T : Tab} {P : Program} {N n L : Nat} {r : Option Nat} {e : VT} {H : AHeap} {ds : List Nat} {ex : Exec} {t : Operand → Option Value} {Q : Bool → Value → AHeap → Prop}
/-- The length of an array, and the size of its elements. -/
def arS (T : Tab) (ty : TypeId) : Option (Nat × Nat) := match T.und ty with
 | some (.array len e) => match T.inf e with
  | some i => some (len, i.size)
  | none => none
 | _ => none
theorem A_indexArr {ty : TypeId} {x ix : Operand} {len z : Nat} (hz : arS T ty = some (len, z)) : A T P ex t H L (.indexAddr ty x ix) Q = optK (t x) fun v => ptrK v fun b o => optK (t ix) fun i => idxK i len fun i => letK (o + i * z) fun o => andK (L ≤ H.size) (Q true (.pointer (some ⟨b, o, none⟩)) H) := by
 unfold A
 show (match still (aIndexAddr T t H ty x ix) with
  | some (b, v, H', m) => L ≤ m ∧ Q b v H'
  | none => False) = _
 unfold arS at hz
 unfold aIndexAddr
 cases hu : T.und ty with
 | none => rw [hu] at hz; cases hz
 | some d =>
  cases d with
  | array ln el =>
   rw [hu] at hz
   simp only at hz
   cases hi : T.inf el with
   | none => rw [hi] at hz; cases hz
   | some i =>
    rw [hi] at hz
    cases hz
    cases t x with
    | none => rfl
    | some v =>
     cases v with
     | pointer a =>
      cases a with
      | none => cases t ix with
       | none => rfl
       | some w => cases w <;> rfl
      | some a =>
       cases t ix with
       | none => rfl
       | some w =>
        cases w with
        | int k m =>
         simp only [optK,ptrK,idxK,hi]
         by_cases h : 0 ≤ m ∧ m < len
         ·simp [h.1, h.2, still, letK, andK]
         ·have : (decide (0 ≤ m) && decide (m < (len : Int))) = false := by simpa using h
          simp only [this,cond_false,still,h,false_and]
        | _ => rfl
     | slice a l c =>
      cases a with
      | none => cases t ix with
       | none => rfl
       | some w => cases w <;> rfl
      | some a => cases t ix with
       | none => rfl
       | some w => cases w <;> rfl
     | _ => cases t ix with
       | none => rfl
       | some w => cases w <;> rfl
  | _ => rw [hu] at hz; cases hz
/-! ### Calls -/
/-- A call, with what is known of what it comes to; what it changed above all old blocks may be dropped. -/
theorem call_keep (hT : T.MemoFr) {g : FuncId} {args : List Value} {fn : Func} {c : Code} {R : Value → AHeap → Prop} {rs : List ResultVar} (hm : T.memo g args H = none) (hf : T.fn g = some fn) (hb : fn.body = some c) (hr : fn.results.toList = rs) {k : Nat} (hk : args.length + (fn.ntmps - args.length) = k) (hL : L ≤ H.size)
  (hw : W T P N none c L ⟨k, env args 0 .nil, H, []⟩ (retK T L rs R)) (hq : ∀ v H', R v H' → Q false v H') (hq' : ∀ v H', R v H' → gr v = true → Fr H H' → Q true v H) :
  resK (acall T (aexec T P N) g args H) L Q := by
 subst hk
 unfold W at hw
 unfold resK acall acall0
 rw [hm, hf]
 simp only [hb,envK_eq,fNat_eq]
 cases ha : aexec T P N none c ⟨args.length + (fn.ntmps - args.length), env args 0 .nil, H, []⟩ with
 | none => rw [ha] at hw; exact hw.elim
 | some p =>
  obtain ⟨x, s, m⟩ := p
  have hfr := aexec_fr hT N _ _ _ _ _ _ ha
  simp only at hfr
  rw [ha] at hw
  obtain ⟨h1, h2⟩ := hw
  have key : (s.ds = [] ∧ L ≤ s.H.size ∧ ∃ v, resV T s.n s.e s.H rs = some v ∧ R v s.H) → (match aleave T fn H s m with
    | some (b, v, H', m) => L ≤ m ∧ Q b v H'
    | none => False) := by
   rintro ⟨k1, k4, v, k2, k3⟩
   have hr' : ares T fn s.n s.e s.H = some v := by rw [← hr] at k2; exact k2
   unfold aleave
   rw [k1]
   simp only [atake,hr',fV_eq,fNat_eq,minAl]
   unfold quietV
   cases hq2 : (Nat.ble H.size (min m s.H.size) && gr v)
   ·simp only [cond_false]
    exact ⟨by omega, hq _ _ k3⟩
   ·simp only [cond_true]
    simp only [Bool.and_eq_true] at hq2
    have := Nat.le_of_ble_eq_true hq2.1
    exact ⟨hL, hq' _ _ k3 hq2.2 ⟨hfr.size, fun k hk => hfr.same k (by omega) hk⟩⟩
  cases x with
  | normal => exact key h2
  | ret => exact key h2
  | _ => exact h2.elim
/-! ### Rows that are made -/
/-- Two pieces of code, with what is known between them. -/
def midK (n : Nat) (ds : List Nat) (I : VT → AHeap → Prop) (Q : Exit → ES → Prop) (x : Exit) (s : ES) : Prop := match x with
 | .normal => s.n = n ∧ s.ds = ds ∧ I s.e s.H
 | x => Q x s
def midN (I : VT → AHeap → Prop) (e : VT) (H : AHeap) (_ : Tag I := .mk) : Prop := I e H
theorem midK_normal {I : VT → AHeap → Prop} {Q : Exit → ES → Prop} : midK n ds I Q .normal ⟨n, e, H, ds⟩ = midN I e H := by simp [midK, midN]
theorem midK_exit {I : VT → AHeap → Prop} {Q : Exit → ES → Prop} {i : Nat} {s : ES} : midK n ds I Q (.exit i) s = Q (.exit i) s := nr rfl
theorem midK_ret {I : VT → AHeap → Prop} {Q : Exit → ES → Prop} {s : ES} : midK n ds I Q .ret s = Q .ret s := nr rfl
/-! ### Parts of code -/
def sub : List Bool → Code → Code
 | [], c => c
 | false :: p, .seq x _ => sub p x
 | true :: p, .seq _ y => sub p y
 | false :: p, .block _ b => sub p b
 | false :: p, .loop b => sub p b
 | false :: p, .cond _ x _ => sub p x
 | true :: p, .cond _ _ y => sub p y
 | _, c => c
theorem sub_nil {c : Code} : sub [] c = c := rfl
theorem sub_seq0 {p : List Bool} {x y : Code} : sub (false :: p) (.seq x y) = sub p x := rfl
theorem sub_seq1 {p : List Bool} {x y : Code} : sub (true :: p) (.seq x y) = sub p y := rfl
theorem sub_block {p : List Bool} {i : Nat} {x : Code} : sub (false :: p) (.block i x) = sub p x := rfl
theorem sub_loop {p : List Bool} {x : Code} : sub (false :: p) (.loop x) = sub p x := rfl
theorem sub_cond0 {p : List Bool} {c : Operand} {x y : Code} : sub (false :: p) (.cond c x y) = sub p x := rfl
theorem sub_cond1 {p : List Bool} {c : Operand} {x y : Code} : sub (true :: p) (.cond c x y) = sub p y := rfl
def bodyOf (f : Func) : Code := match f.body with
 | some c => c
 | none => .skip
/-- Code that ends as usual, and what is known then. -/
def endK (n : Nat) (ds : List Nat) (I : VT → AHeap → Prop) (x : Exit) (s : ES) : Prop := match x with
 | .normal => s.n = n ∧ s.ds = ds ∧ I s.e s.H
 | _ => False
theorem endK_normal {I : VT → AHeap → Prop} : endK n ds I .normal ⟨n, e, H, ds⟩ = midN I e H := by simp [endK, midN]
/-! ### Temporaries that stay as they are -/
def Keep (n : Nat) (js : List Nat) (e e' : VT) : Prop := ∀ j ∈ js, gt n e' j = gt n e j
theorem Keep.refl (n : Nat) (js : List Nat) (e : VT) : Keep n js e e := fun _ _ => rfl
theorem Keep.trans {js : List Nat} {e e' e'' : VT} (h : Keep n js e e') (h' : Keep n js e' e'') : Keep n js e e'' := fun j hj => (h' j hj).trans (h j hj)
theorem Keep.put {js : List Nat} {e e' : VT} {i : Nat} {v : Value} (h : Keep n js e e') (hi : i ∉ js) : Keep n js e (e'.put (some i) v) := fun j hj => by
 rw [gt_ne n e' i j v (fun hh => hi (hh ▸ hj))]
 exact h j hj
theorem Keep.none {js : List Nat} {e e' : VT} {v : Value} (h : Keep n js e e') : Keep n js e (e'.put none v) := h
/-! ### Rows of numbers as cells -/
def tv (t : List Int) : List Value := t.map fun n => .int .i64 n
theorem tv_len (t : List Int) : (tv t).length = t.length := List.length_map ..
theorem gr_tv (t : List Int) : gr (.agg ⟨tv t⟩) = true := by
 show (tv t).all (ground 5) = true
 rw [List.all_eq_true]
 intro v hv
 obtain ⟨n, -, rfl⟩ := List.mem_map.1 hv
 rfl
theorem newC_all {vs c : List Value} (h : vs.length = c.length) : newC 0 vs c = vs := by
 unfold newC
 rw [List.take_zero, List.nil_append, Nat.zero_add, h, List.drop_length, List.append_nil]
theorem newC_tv {t : List Int} {i : Nat} {v : Int} (h : i < t.length) : newC i [.int .i64 v] (tv t) = tv (t.set i v) := by
 unfold newC tv
 rw [← List.map_take, ← List.map_drop, List.map_set]
 simp only [List.length_cons,List.length_nil,Nat.zero_add]
 rw [List.set_eq_take_append_cons_drop, List.length_map, if_pos h, List.map_take, List.map_drop]
 simp
theorem part_tv {t : List Int} {s : Nat} (h : t.length = s) : part (tv t) 0 (s + 1) = some (.agg ⟨tv t⟩) := part_all (by rw [tv_len, h])
end Go.Am
/- More operations: nil checks, conversions, the least and the greatest, unsigned numbers. -/
namespace Go.Am
open Go.Proofs
variable {T : Tab} {P : Program} {N L : Nat} {H : AHeap}
section
variable {ex : Exec} {t : Operand → Option Value} {Q : Bool → Value → AHeap → Prop}
theorem aPureOf_shape {s : Sem Value} {v : Value} {H' : AHeap} {m : Nat} (h : aPureOf P H s = some (v, H', m)) : H' = H ∧ m = H.size := by
 unfold aPureOf at h
 split at h
 ·rename_i u hu
  cases hg : gr u
  ·rw [hg] at h; cases h
  ·rw [hg] at h; cases h; exact ⟨rfl, rfl⟩
 ·cases h
def mmV (P : Program) (H : AHeap) (mx : Bool) (a b : Value) : Option Value := match aMinMax P (fun x => match x with
  | .tmp 0 => some a
  | _ => some b) H mx [.tmp 0, .tmp 1].toArray with
 | some (v, _, _) => some v
 | none => none
theorem mm_min {a b : Int} : mmV P H false (.int .i64 a) (.int .i64 b) = some (.int .i64 (if b < a then b else a)) := nr rfl
theorem mm_max {a b : Int} : mmV P H true (.int .i64 a) (.int .i64 b) = some (.int .i64 (if b > a then b else a)) := nr rfl
theorem aMinMax_gen {mx : Bool} {x y : Operand} : (match still (aMinMax P t H mx [x, y].toArray) with
  | some (b, v, H', m) => L ≤ m ∧ Q b v H'
  | none => False) = optK (t x) fun a => optK (t y) fun b => optK (mmV P H mx a b) fun v => andK (L ≤ H.size) (Q true v H) := by
 cases hx : t x with
 | none =>
  unfold aMinMax
  rw [show allGr t [x, y].toArray.toList = false by simp [allGr, hx]]; rfl
 | some a =>
  cases hy : t y with
  | none =>
   unfold aMinMax
   rw [show allGr t [x, y].toArray.toList = false by simp [allGr, hx, hy]]; rfl
  | some b =>
   have e : aMinMax P t H mx [x, y].toArray = aMinMax P (fun x => match x with
     | .tmp 0 => some a
     | _ => some b) H mx [.tmp 0, .tmp 1].toArray := by
    unfold aMinMax
    simp [allGr, aρ, hx, hy]
   rw [e]
   simp only [optK,mmV]
   cases h : aMinMax P (fun x => match x with
     | .tmp 0 => some a
     | _ => some b) H mx [.tmp 0, .tmp 1].toArray with
   | none => rfl
   | some r =>
    obtain ⟨u, H', m⟩ := r
    have : H' = H ∧ m = H.size := by
     unfold aMinMax at h
     cases hb : allGr (fun x => match x with
      | .tmp 0 => some a
      | _ => some b) [.tmp 0, .tmp 1].toArray.toList
     ·rw [hb] at h; cases h
     ·rw [hb] at h
      exact aPureOf_shape h
    obtain ⟨rfl, rfl⟩ := this
    rfl
theorem A_min {tys : List TypeId} {x y : Operand} : A T P ex t H L (.call ⟨.builtin .min, [x, y].toArray, tys.toArray⟩) Q = optK (t x) fun a => optK (t y) fun b => optK (mmV P H false a b) fun v => andK (L ≤ H.size) (Q true v H) := by
 unfold A
 exact aMinMax_gen (mx := false)
theorem A_max {tys : List TypeId} {x y : Operand} : A T P ex t H L (.call ⟨.builtin .max, [x, y].toArray, tys.toArray⟩) Q = optK (t x) fun a => optK (t y) fun b => optK (mmV P H true a b) fun v => andK (L ≤ H.size) (Q true v H) := by
 unfold A
 exact aMinMax_gen (mx := true)
end
/-! ### Unsigned numbers -/
section
variable {ty : TypeId} {x y : Operand} {a b : Int}
end
end Go.Am
