import Derived.Test.YtbofjfjopeaefaaGreatT13
import Derived.Test.YtbofjfjopeaefaaGreatT12
set_option linter.unusedSimpArgs false
set_option linter.unusedVariables false
namespace Go.Am
open Go.Proofs
theorem st_alS_120 : alS tabA 120 = some [(.int IntKind.i64 0), (.int IntKind.i64 0), (.int IntKind.i64 0), (.int IntKind.i64 0)] := by kernel_rfl
theorem st_alS_126 : alS tabA 126 = some [.nilFunc] := by kernel_rfl
theorem st_alS_202 : alS tabA 202 = some [(.int IntKind.i64 0), (.int IntKind.i64 0)] := by kernel_rfl
theorem st_alS_37 : alS tabA 37 = some [(.int IntKind.i64 0), (.int IntKind.i64 0)] := by kernel_rfl
theorem st_alS_78 : alS tabA 78 = some [(.int IntKind.i64 0), (.int IntKind.i64 0)] := by kernel_rfl
theorem st_alS_76 : alS tabA 76 = some [(.int IntKind.i64 0), (.int IntKind.i64 0), (.int IntKind.i64 0), (.int IntKind.i64 0)] := by kernel_rfl
theorem st_bdS_126 : bdS tabA 126 = some ([.nilFunc], [(0, 1)]) := by kernel_rfl
theorem st_bdS_202 : bdS tabA 202 = some ([(.int IntKind.i64 0), (.int IntKind.i64 0)], [(0, 1), (1, 1)]) := by kernel_rfl
theorem st_bdS_37 : bdS tabA 37 = some ([(.int IntKind.i64 0), (.int IntKind.i64 0)], [(0, 1), (1, 1)]) := by kernel_rfl
theorem st_bdS_78 : bdS tabA 78 = some ([(.int IntKind.i64 0), (.int IntKind.i64 0)], [(0, 1), (1, 1)]) := by kernel_rfl
theorem st_esS_22 : esS tabA 22 = some 4 := by kernel_rfl
theorem st_esS_23 : esS tabA 23 = some 2 := by kernel_rfl
theorem st_esS_26 : esS tabA 26 = some 1 := by kernel_rfl
theorem st_faS_116_0 : faS tabA 116 0 = some 0 := by kernel_rfl
theorem st_faS_126_0 : faS tabA 126 0 = some 0 := by kernel_rfl
theorem st_faS_202_0 : faS tabA 202 0 = some 0 := by kernel_rfl
theorem st_faS_202_1 : faS tabA 202 1 = some 1 := by kernel_rfl
theorem st_faS_25_0 : faS tabA 25 0 = some 0 := by kernel_rfl
theorem st_faS_25_1 : faS tabA 25 1 = some 1 := by kernel_rfl
theorem st_faS_25_2 : faS tabA 25 2 = some 2 := by kernel_rfl
theorem st_faS_37_0 : faS tabA 37 0 = some 0 := by kernel_rfl
theorem st_faS_37_1 : faS tabA 37 1 = some 1 := by kernel_rfl
theorem st_faS_78_0 : faS tabA 78 0 = some 0 := by kernel_rfl
theorem st_faS_78_1 : faS tabA 78 1 = some 1 := by kernel_rfl
theorem st_faS_76_0 : faS tabA 76 0 = some 0 := by kernel_rfl
theorem st_faS_76_1 : faS tabA 76 1 = some 1 := by kernel_rfl
theorem st_faS_76_2 : faS tabA 76 2 = some 2 := by kernel_rfl
theorem st_faS_76_3 : faS tabA 76 3 = some 3 := by kernel_rfl
theorem st_inS_120 : inS tabA 120 = some 4 := by kernel_rfl
theorem st_inS_126 : inS tabA 126 = some 1 := by kernel_rfl
theorem st_inS_202 : inS tabA 202 = some 2 := by kernel_rfl
theorem st_inS_3 : inS tabA 3 = some 1 := by kernel_rfl
theorem st_inS_37 : inS tabA 37 = some 2 := by kernel_rfl
theorem st_inS_78 : inS tabA 78 = some 2 := by kernel_rfl
theorem st_inS_76 : inS tabA 76 = some 4 := by kernel_rfl
theorem st_ldS_120 : ldS tabA 120 = some 5 := by kernel_rfl
theorem st_ldS_116 : ldS tabA 116 = some 5 := by kernel_rfl
theorem st_ldS_124 : ldS tabA 124 = some 0 := by kernel_rfl
theorem st_ldS_126 : ldS tabA 126 = some 2 := by kernel_rfl
theorem st_ldS_202 : ldS tabA 202 = some 3 := by kernel_rfl
theorem st_ldS_22 : ldS tabA 22 = some 0 := by kernel_rfl
theorem st_ldS_23 : ldS tabA 23 = some 0 := by kernel_rfl
theorem st_ldS_3 : ldS tabA 3 = some 0 := by kernel_rfl
theorem st_ldS_37 : ldS tabA 37 = some 3 := by kernel_rfl
theorem st_ldS_78 : ldS tabA 78 = some 3 := by kernel_rfl
theorem st_ldS_76 : ldS tabA 76 = some 5 := by kernel_rfl
theorem fn_45 : tabA.fn 45 = some Tryz.f45 := by kernel_rfl
theorem fn_113 : tabA.fn 113 = some Tryz.f113 := by kernel_rfl
theorem fn_114 : tabA.fn 114 = some Tryz.f114 := by kernel_rfl
theorem fn_115 : tabA.fn 115 = some Tryz.f115 := by kernel_rfl
theorem fn_116 : tabA.fn 116 = some Tryz.f116 := by kernel_rfl
theorem fn_117 : tabA.fn 117 = some Tryz.f117 := by kernel_rfl
theorem fn_118 : tabA.fn 118 = some Tryz.f118 := by kernel_rfl
theorem fn_119 : tabA.fn 119 = some Tryz.f119 := by kernel_rfl
theorem fn_120 : tabA.fn 120 = some Tryz.f120 := by kernel_rfl
theorem fn_69 : tabA.fn 69 = some Tryz.f69 := by kernel_rfl
theorem fn_65 : tabA.fn 65 = some Tryz.f65 := by kernel_rfl
theorem fn_132 : tabA.fn 132 = some Tryz.f132 := by kernel_rfl
theorem fn_133 : tabA.fn 133 = some Tryz.f133 := by kernel_rfl
theorem fn_68 : tabA.fn 68 = some Tryz.f68 := by kernel_rfl
theorem fn_75 : tabA.fn 75 = some Tryz.f75 := by kernel_rfl
theorem fn_70 : tabA.fn 70 = some Tryz.f70 := by kernel_rfl
theorem fn_92 : tabA.fn 92 = some Tryz.f92 := by kernel_rfl
theorem fn_96 : tabA.fn 96 = some Tryz.f96 := by kernel_rfl
theorem fn_140 : tabA.fn 140 = some Tryz.f140 := by kernel_rfl
theorem fn_137 : tabA.fn 137 = some Tryz.f137 := by kernel_rfl
theorem fn_141 : tabA.fn 141 = some Tryz.f141 := by kernel_rfl
theorem fn_142 : tabA.fn 142 = some Tryz.f142 := by kernel_rfl
theorem fn_143 : tabA.fn 143 = some Tryz.f143 := by kernel_rfl
theorem fn_169 : tabA.fn 169 = some Tryz.f169 := by kernel_rfl
end Go.Am
set_option linter.defProp false
namespace Go.Am
open Go.Proofs
def yp := (And.intro (And.intro (And.intro (And.intro (And.intro @W_skip @W_label) (And.intro @W_exit @W_ret)) (And.intro (And.intro @W_seq @W_block) (And.intro @W_cond @W_region))) (And.intro (And.intro (And.intro @O_nil @O_cons) (And.intro @O_guard @A_move)) (And.intro (And.intro @A_assign @A_pick) (And.intro @A_box (And.intro @A_alloc @A_fieldAddr))))) (And.intro (And.intro (And.intro (And.intro @A_load @A_store) (And.intro @A_extract @A_binOp)) (And.intro (And.intro @A_call @A_len) (And.intro @wrK_eq (And.intro @A_makeFunc @A_unOp)))) (And.intro (And.intro (And.intro @A_append @D_nil) (And.intro @D_cons @D_guard)) (And.intro (And.intro @newK_alloc @newK_box) (And.intro @DS_nil (And.intro @DS_cons @DS_guard))))))
def yq0 := (And.intro (And.intro (And.intro (And.intro (And.intro @env_cons @env_nil) (And.intro @optK_some (And.intro @letK_eq @andK_of))) (And.intro (And.intro @Split_true @Split_false) (And.intro @Split_not (And.intro @seqK_normal @seqK_exit)))) (And.intro (And.intro (And.intro @seqK_ret @boolK_bool) (And.intro @bolK_bool (And.intro @guardK_true @guardK_false))) (And.intro (And.intro @gK_some @gdst_zero) (And.intro @gdst_succ (And.intro @ptrK_some @intK_int))))) (And.intro (And.intro (And.intro (And.intro @tupK_tuple @slK_some) (And.intro @aenv_tmp (And.intro @aenv_func @aenv_int))) (And.intro (And.intro @aenv_bool @gt_same) (And.intro @gt_ne (And.intro @put_none @blockExit_normal)))) (And.intro (And.intro (And.intro @blockExit_ret @blockExit_same) (And.intro @blockExit_other (And.intro @binV_add @binV_sub))) (And.intro (And.intro @binV_mul @binV_eql) (And.intro @binV_neq (And.intro @binV_lss @binV_leq))))))
def yq1 := (And.intro (And.intro (And.intro (And.intro (And.intro @binV_gtr @binV_geq) (And.intro @resK_some (And.intro @calK_func @avals_nil))) (And.intro (And.intro @avals_cons @consO_some) (And.intro @resV_one (And.intro @resV_two @resV_three)))) (And.intro (And.intro (And.intro @retK_ret @retK_normal) (And.intro @loopK_normal (And.intro @loopK_ret @loopK_exit))) (And.intro (And.intro @get_alloc_same @get_alloc_eq) (And.intro @get_alloc_lt (And.intro @get_put_same @get_put_ne))))) (And.intro (And.intro (And.intro (And.intro @size_alloc @size_put) (And.intro @size_kill (And.intro @cellsOf_rw @cellsOf_ro))) (And.intro (And.intro @part_zero @part_2) (And.intro @part_3 (And.intro @part_4 @part_5)))) (And.intro (And.intro (And.intro @part_6 @part_7) (And.intro @part_8 (And.intro @part_9 @cells_agg))) (And.intro (And.intro @cells_int @cells_bool) (And.intro @cells_slice (And.intro @cells_pointer @cells_func))))))
def yq2 := (And.intro (And.intro (And.intro (And.intro (And.intro @beq_refl @idxK_int) (And.intro @wrB_rw (And.intro @one_nil @one_int))) (And.intro (And.intro @one_bool @one_slice) (And.intro @one_pointer (And.intro @one_func @one_nilFunc)))) (And.intro (And.intro (And.intro @unV_not @fill1_some) (And.intro @andThen_some (And.intro @afill_nil @afill_cons))) (And.intro (And.intro @aparts_nil @aparts_cons) (And.intro @consP_some (And.intro @resV_cell @cellO_ptr))))) (And.intro (And.intro (And.intro (And.intro @readO_some @maskE_tmp) (And.intro @maskE_func (And.intro @maskE_int @maskE_bool))) (And.intro (And.intro @memNat_nil @memNat_cons) (And.intro @flagK_true (And.intro @flagK_false @agsK_nil)))) (And.intro (And.intro (And.intro @agsK_cons @agK_nil) (And.intro @agK_cons (And.intro @lastG_one @lastG_cons))) (And.intro (And.intro @tm_move @tm_assign) (And.intro @tm_box (And.intro @tm_load @tm_nilCheck))))))
def yq3 := (And.intro (And.intro (And.intro (And.intro (And.intro @tm_unOp @tm_convert) (And.intro @tm_alloc (And.intro @tm_store @tm_binOp))) (And.intro (And.intro @tm_fieldAddr @tm_field) (And.intro @tm_indexAddr (And.intro @tm_index @tm_pick)))) (And.intro (And.intro (And.intro @tm_extract @tm_build) (And.intro @tm_row (And.intro @tm_call @tm_built))) (And.intro (And.intro @tp_nil @tp_tmp) (And.intro @tp_const (And.intro @tp_func @aenv_nilFunc))))) (And.intro (And.intro (And.intro (And.intro @aenv_nilSlice @sv_int) (And.intro @sv_bool (And.intro @sv_pointer @sv_slice))) (And.intro (And.intro @sv_agg @sv_tuple) (And.intro @sv_func (And.intro @sl_nil @sl_cons)))) (And.intro (And.intro (And.intro @lookK_some @lookK_none) (And.intro @look_nil (And.intro @look_cons @places_nil))) (And.intro (And.intro @places_cons @allocs_nil) (And.intro @allocs_cons (And.intro @memP_nil @memP_cons))))))
def yq4 := (And.intro (And.intro (And.intro @skipK_true @skipK_false) (And.intro @stsR_nil (And.intro @stsR_cons @stR_nil))) (And.intro (And.intro @stR_cons (And.intro @tupO_some @resV_cell_tmp)) (And.intro @revA_nil (And.intro @revA_cons @guardK_undef))))
def yl := (And.intro (And.intro (And.intro (And.intro (And.intro @Nat.le_refl @cond_true.{1}) (And.intro @cond_false.{1} (And.intro @Nat.zero_add @List.nil_append.{0}))) (And.intro (And.intro @List.cons_append.{0} @List.append_nil.{0}) (And.intro @List.take_zero.{0} (And.intro @List.take_succ_cons.{0} @List.drop_zero.{0})))) (And.intro (And.intro (And.intro @List.drop_succ_cons.{0} @List.drop_nil.{0}) (And.intro @decide_true (And.intro @decide_false @Bool.and_self))) (And.intro (And.intro @Bool.true_and @List.length_cons.{0}) (And.intro @List.length_nil.{0} (And.intro @Int.toNat_natCast @Bool.or_true))))) (And.intro (And.intro (And.intro (And.intro @Bool.true_or @Bool.false_or) (And.intro @Bool.or_false (And.intro @Bool.and_true @Bool.and_false))) (And.intro (And.intro @Bool.false_and @Bool.not_true) (And.intro @Bool.not_false (And.intro @and_true @true_and)))) (And.intro (And.intro (And.intro @List.getElem?_cons_zero.{0} @List.getElem?_cons_succ.{0}) (And.intro @Nat.le_add_right (And.intro @List.map_cons.{0, 0} @List.map_nil.{0, 0}))) (And.intro (And.intro @List.map_toArray.{0, 0} (And.intro @List.append_toArray.{0} @if_true.{1})) (And.intro @if_false.{1} (And.intro @Nat.add_zero @Nat.mul_one))))))
def yA := And.intro (And.intro yq0 yq1) (And.intro (And.intro yq2 yq3) (And.intro yq4 yl))
def ys0 := (And.intro (And.intro (And.intro (And.intro (And.intro @st_alS_120 @st_alS_126) (And.intro @st_alS_202 (And.intro @st_alS_37 @st_alS_78))) (And.intro (And.intro @st_alS_76 @st_bdS_126) (And.intro @st_bdS_202 (And.intro @st_bdS_37 @st_bdS_78)))) (And.intro (And.intro (And.intro @st_esS_22 @st_esS_23) (And.intro @st_esS_26 (And.intro @st_faS_116_0 @st_faS_126_0))) (And.intro (And.intro @st_faS_202_0 @st_faS_202_1) (And.intro @st_faS_25_0 (And.intro @st_faS_25_1 @st_faS_25_2))))) (And.intro (And.intro (And.intro (And.intro @st_faS_37_0 @st_faS_37_1) (And.intro @st_faS_78_0 (And.intro @st_faS_78_1 @st_faS_76_0))) (And.intro (And.intro @st_faS_76_1 @st_faS_76_2) (And.intro @st_faS_76_3 (And.intro @st_inS_120 @st_inS_126)))) (And.intro (And.intro (And.intro @st_inS_202 @st_inS_3) (And.intro @st_inS_37 (And.intro @st_inS_78 @st_inS_76))) (And.intro (And.intro @st_ldS_120 @st_ldS_116) (And.intro @st_ldS_124 (And.intro @st_ldS_126 @st_ldS_202))))))
def ys1 := (And.intro (And.intro @st_ldS_22 (And.intro @st_ldS_23 @st_ldS_3)) (And.intro @st_ldS_37 (And.intro @st_ldS_78 @st_ldS_76)))
def yk := And.intro @ne_eq @not_false_eq_true
def yz := (And.intro @size_alloc (And.intro @size_put @size_kill))
def yg := (And.intro (And.intro (And.intro (And.intro @gt_same @gt_ne) (And.intro @put_none @get_alloc_same)) (And.intro (And.intro @get_alloc_eq @get_alloc_lt) (And.intro @get_put_same (And.intro @get_put_ne @size_alloc)))) (And.intro (And.intro (And.intro @size_put @size_kill) (And.intro @cellsOf_rw @cellsOf_ro)) (And.intro (And.intro @Nat.le_refl @Nat.zero_add) (And.intro @Nat.add_zero (And.intro @true_and @and_true)))))
end Go.Am
namespace Go.Am
open Go.Proofs
variable {T : Tab} {P : Program} {N L : Nat} {H : AHeap} {Q : Bool → Value → AHeap → Prop}
def off (a lo hi : Int) : Bool := decide (a < lo) || decide (hi < a)
structure Fr (H H' : AHeap) : Prop where
 size : H.size ≤ H'.size
 same : ∀ k, k < H.size → H'.get k = H.get k
theorem Fr.refl (H : AHeap) : Fr H H := ⟨Nat.le_refl _, fun _ _ => rfl⟩
theorem Fr.trans {H H₁ H₂ : AHeap} (a : Fr H H₁) (b : Fr H₁ H₂) : Fr H H₂ := ⟨Nat.le_trans a.size b.size, fun k hk => (b.same k (Nat.lt_of_lt_of_le hk a.size)).trans (a.same k hk)⟩
theorem Fr.alloc (H : AHeap) (b : ABlk) : Fr H (H.alloc b) := ⟨by simp, fun k hk => get_alloc_lt hk⟩
theorem Fr.allocd {H H' : AHeap} (a : Fr H H') (b : ABlk) : Fr H (H'.alloc b) := a.trans (Fr.alloc _ _)
theorem Fr.kill {H H' : AHeap} (a : Fr H H') {l : List Nat} (h : ∀ j ∈ l, H.size ≤ j) : Fr H (H'.kill l) := ⟨by simp [a.size], fun j hj => by rw [get_kill (fun hm => by have := h j hm; omega)]; exact a.same j hj⟩
theorem Fr.put {H H' : AHeap} (a : Fr H H') {k : Nat} (hk : H.size ≤ k) (b : ABlk) : Fr H (H'.put k b) := ⟨by simp [a.size], fun j hj => by rw [get_put_ne (by omega)]; exact a.same j hj⟩
def wi (a lo hi : Int) : Bool := decide (lo ≤ a) && decide (a ≤ hi)
structure Grow (H : AHeap) (tb : Nat) (v : Value) (i : Nat) (cs : List Value) (el z : Nat) : Prop where
 nil : i = 0 → v = .slice none 0 0
 cons : i ≠ 0 → ∃ b al, v = .slice (some ⟨b, 0, none⟩) i (OPEN + z) ∧ tb < b ∧ b < H.size ∧ H.get b = .rw cs el true al ∧ (∀ j ∈ al, tb < j ∧ j < b)
structure FrU (m : Nat) (H H' : AHeap) : Prop where
 size : H.size ≤ H'.size
 same : ∀ k, k < m → H'.get k = H.get k
theorem Fr.part {H H₁ H₂ : AHeap} {m : Nat} (a : Fr H H₁) (b : FrU m H₁ H₂) (h : H.size ≤ m) : Fr H H₂ := ⟨Nat.le_trans a.size b.size, fun k hk => (b.same k (by omega)).trans (a.same k hk)⟩
theorem Grow.fr {H H' : AHeap} {tb i el z : Nat} {v : Value} {cs : List Value} (g : Grow H tb v i cs el z) (f : Fr H H') : Grow H' tb v i cs el z :=
 ⟨g.nil, fun h => by
  obtain ⟨b, al, h1, h2, h3, h4, h5⟩ := g.cons h
  exact ⟨b, al, h1, h2, Nat.lt_of_lt_of_le h3 f.size, by rw [f.same b h3]; exact h4, h5⟩⟩
theorem Grow.put {H : AHeap} {tb i el z k : Nat} {v : Value} {cs : List Value} {blk : ABlk} (g : Grow H tb v i cs el z) (hk : k ≤ tb) : Grow (H.put k blk) tb v i cs el z :=
 ⟨g.nil, fun h => by
  obtain ⟨b, al, h1, h2, h3, h4, h5⟩ := g.cons h
  exact ⟨b, al, h1, h2, by rw [size_put]; exact h3, by rw [get_put_ne (by omega)]; exact h4, h5⟩⟩
theorem newC_app {j : Nat} {vs a b : List Value} : newC (a.length + j) vs (a ++ b) = a ++ newC j vs b := by
 unfold newC
 rw [List.take_length_add_append, show a.length + j + vs.length = a.length + (j + vs.length) by omega, List.drop_length_add_append]
 simp
theorem newC_pre {j : Nat} {vs a b : List Value} (h : j + vs.length ≤ a.length) : newC j vs (a ++ b) = newC j vs a ++ b := by
 unfold newC
 rw [List.take_append_of_le_length (by omega), List.drop_append_of_le_length h]
 simp
theorem resK_elim {q : Res} {Q : Bool → Value → AHeap → Prop} (h : resK q L Q) : ∃ f v H' m, q = some (f, v, H', m) ∧ L ≤ m ∧ Q f v H' := by
 unfold resK at h
 cases q with
 | none => exact h.elim
 | some p =>
  obtain ⟨f, v, H', m⟩ := p
  exact ⟨f, v, H', m, rfl, h⟩
end Go.Am
namespace Go.Am
variable {α : Type} {T : Tab} {P : Program} {N n L : Nat} {r : Option Nat} {e : VT} {H : AHeap} {ds : List Nat} {ex : Exec} {t : Operand → Option Value} {Q : Bool → Value → AHeap → Prop}
def arS (T : Tab) (ty : TypeId) : Option (Nat × Nat) := match T.und ty with
 | some (.array len e) => match T.inf e with
  | some i => some (len, i.size)
  | none => none
 | _ => none
theorem A_indexArr {ty : TypeId} {x ix : Operand} {len z : Nat} (hz : arS T ty = some (len, z)) : A T P ex t H L (.indexAddr ty x ix) Q = optK (t x) fun v => ptrK v fun b o => optK (t ix) fun i => idxK i len fun i => letK (o + i * z) fun o => andK (L ≤ H.size) (Q true (.pointer (some ⟨b, o, none⟩)) H) := by
 unfold A
 show (match still (aIndexAddr T t H ty x ix) with
  | some (b, v, H', m) => L ≤ m ∧ Q b v H'
  | none => False) = _
 unfold arS at hz
 unfold aIndexAddr
 cases hu : T.und ty with
 | none => rw [hu] at hz; cases hz
 | some d =>
  cases d with
  | array ln el =>
   rw [hu] at hz
   simp only at hz
   cases hi : T.inf el with
   | none => rw [hi] at hz; cases hz
   | some i =>
    rw [hi] at hz
    cases hz
    cases t x with
    | none => rfl
    | some v =>
     cases v with
     | pointer a =>
      cases a with
      | none => cases t ix with
       | none => rfl
       | some w => cases w <;> rfl
      | some a =>
       cases t ix with
       | none => rfl
       | some w =>
        cases w with
        | int k m =>
         simp only [optK,ptrK,idxK,hi]
         by_cases h : 0 ≤ m ∧ m < len
         ·simp [h.1, h.2, still, letK, andK]
         ·have : (decide (0 ≤ m) && decide (m < (len : Int))) = false := by simpa using h
          simp only [this,cond_false,still,h,false_and]
        | _ => rfl
     | slice a l c =>
      cases a with
      | none => cases t ix with
       | none => rfl
       | some w => cases w <;> rfl
      | some a => cases t ix with
       | none => rfl
       | some w => cases w <;> rfl
     | _ => cases t ix with
       | none => rfl
       | some w => cases w <;> rfl
  | _ => rw [hu] at hz; cases hz
theorem call_keep (hT : T.MemoFr) {g : FuncId} {args : List Value} {fn : Func} {c : Code} {R : Value → AHeap → Prop} {rs : List ResultVar} (hm : T.memo g args H = none) (hf : T.fn g = some fn) (hb : fn.body = some c) (hr : fn.results.toList = rs) {k : Nat} (hk : args.length + (fn.ntmps - args.length) = k) (hL : L ≤ H.size)
  (hw : W T P N none c L ⟨k, env args 0 .nil, H, []⟩ (retK T L rs R)) (hq : ∀ v H', R v H' → Q false v H') (hq' : ∀ v H', R v H' → gr v = true → Fr H H' → Q true v H) :
  resK (acall T (aexec T P N) g args H) L Q := by
 subst hk
 unfold W at hw
 unfold resK acall acall0
 rw [hm, hf]
 simp only [hb,envK_eq,fNat_eq]
 cases ha : aexec T P N none c ⟨args.length + (fn.ntmps - args.length), env args 0 .nil, H, []⟩ with
 | none => rw [ha] at hw; exact hw.elim
 | some p =>
  obtain ⟨x, s, m⟩ := p
  have hfr := aexec_fr hT N _ _ _ _ _ _ ha
  simp only at hfr
  rw [ha] at hw
  obtain ⟨h1, h2⟩ := hw
  have key : (s.ds = [] ∧ L ≤ s.H.size ∧ ∃ v, resV T s.n s.e s.H rs = some v ∧ R v s.H) → (match aleave T fn H s m with
    | some (b, v, H', m) => L ≤ m ∧ Q b v H'
    | none => False) := by
   rintro ⟨k1, k4, v, k2, k3⟩
   have hr' : ares T fn s.n s.e s.H = some v := by rw [← hr] at k2; exact k2
   unfold aleave
   rw [k1]
   simp only [atake,hr',fV_eq,fNat_eq,minAl]
   unfold quietV
   cases hq2 : (Nat.ble H.size (min m s.H.size) && gr v)
   ·simp only [cond_false]
    exact ⟨by omega, hq _ _ k3⟩
   ·simp only [cond_true]
    simp only [Bool.and_eq_true] at hq2
    have := Nat.le_of_ble_eq_true hq2.1
    exact ⟨hL, hq' _ _ k3 hq2.2 ⟨hfr.size, fun k hk => hfr.same k (by omega) hk⟩⟩
  cases x with
  | normal => exact key h2
  | ret => exact key h2
  | _ => exact h2.elim
def mkS (T : Tab) (ty : TypeId) : Option (TypeId × Value × Nat × Nat) := match T.und ty with
 | some (.slice e) => match T.inf e with
  | some i => match i.zero with
   | some z => some (e, z, i.size, i.bytes)
   | none => none
  | none => none
 | _ => none
theorem A_make_of {ty e : TypeId} {x : Operand} {z : Value} {sz bs : Nat} {m : Int} (hz : mkS T ty = some (e, z, sz, bs)) (hx : t x = some (.int .i64 m)) (h0 : 0 ≤ m) (hb : (bs : Int) * m ≤ 281474976710656) (hm : m ≤ 9223372036854775807) (hg : allGrV (madeCells z.cells (m.toNat * sz)).toList = true)
  (hL : L ≤ H.size) (hq : Q false (.slice (some ⟨H.size, 0, none⟩) m.toNat m.toNat) (H.alloc (.rw (madeCells z.cells (m.toNat * sz)).toList e false []))) : A T P ex t H L (.makeSlice ty x x) Q := by
 unfold A
 show (match fresh H (newMade T t ty x x) with
  | some (b, v, H', m) => L ≤ m ∧ Q b v H'
  | none => False)
 have : newMade T t ty x x = some (.sl m.toNat m.toNat, .rw (madeCells z.cells (m.toNat * sz)).toList e false []) := by
  unfold mkS at hz
  unfold newMade
  rw [hx]
  cases hu : T.und ty with
  | none => rw [hu] at hz; cases hz
  | some d =>
   cases d with
   | slice el =>
    rw [hu] at hz
    simp only at hz
    cases hie : T.inf el with
    | none => rw [hie] at hz; cases hz
    | some ie =>
     rw [hie] at hz
     simp only at hz
     cases hze : ie.zero with
     | none => rw [hze] at hz; cases hz
     | some ze =>
      rw [hze] at hz
      cases hz
      simp only [hie,hze,h0,hb,hm,hg,Int.le_refl,decide_true,Bool.and_self,cond_true]
   | _ => rw [hu] at hz; cases hz
 rw [this]
 exact ⟨hL, hq⟩
def midK (n : Nat) (ds : List Nat) (I : VT → AHeap → Prop) (Q : Exit → ES → Prop) (x : Exit) (s : ES) : Prop := match x with
 | .normal => s.n = n ∧ s.ds = ds ∧ I s.e s.H
 | x => Q x s
def midN (I : VT → AHeap → Prop) (e : VT) (H : AHeap) (_ : Tag I := .mk) : Prop := I e H
theorem midK_normal {I : VT → AHeap → Prop} {Q : Exit → ES → Prop} : midK n ds I Q .normal ⟨n, e, H, ds⟩ = midN I e H := by simp [midK, midN]
theorem midK_exit {I : VT → AHeap → Prop} {Q : Exit → ES → Prop} {i : Nat} {s : ES} : midK n ds I Q (.exit i) s = Q (.exit i) s := nr rfl
theorem midK_ret {I : VT → AHeap → Prop} {Q : Exit → ES → Prop} {s : ES} : midK n ds I Q .ret s = Q .ret s := nr rfl
theorem W_seqI {x y : Code} {Q : Exit → ES → Prop} (I : VT → AHeap → Prop) (hx : W T P N r x L ⟨n, e, H, ds⟩ (midK n ds I Q)) (hy : ∀ e H, I e H → W T P N r y L ⟨n, e, H, ds⟩ Q) : W T P (N + 1) r (.seq x y) L ⟨n, e, H, ds⟩ Q := by
 rw [W_seq]
 refine W_mono hx ?_
 intro x' s' h
 cases x' with
 | normal =>
  obtain ⟨n', e', H', ds'⟩ := s'
  obtain ⟨rfl, rfl, h3⟩ := h
  exact hy e' H' h3
 | _ => exact h
theorem W_skipI {y : Code} {Q Q' : Exit → ES → Prop} {N' : Nat} (hL : L ≤ H.size) (hy : W T P N' r y L ⟨n, e, H, ds⟩ Q) : W T P (N + 1) r .skip L ⟨n, e, H, ds⟩ (fun x' s' => seqK x' (W T P N' r y L s' Q) (Q' x' s')) := by
 rw [W_skip, andK_of _ hL, seqK_normal]
 exact hy
def sub : List Bool → Code → Code
 | [], c => c
 | false :: p, .seq x _ => sub p x
 | true :: p, .seq _ y => sub p y
 | false :: p, .block _ b => sub p b
 | false :: p, .loop b => sub p b
 | false :: p, .cond _ x _ => sub p x
 | true :: p, .cond _ _ y => sub p y
 | _, c => c
theorem sub_nil {c : Code} : sub [] c = c := rfl
theorem sub_seq0 {p : List Bool} {x y : Code} : sub (false :: p) (.seq x y) = sub p x := rfl
theorem sub_seq1 {p : List Bool} {x y : Code} : sub (true :: p) (.seq x y) = sub p y := rfl
theorem sub_block {p : List Bool} {i : Nat} {x : Code} : sub (false :: p) (.block i x) = sub p x := rfl
theorem sub_loop {p : List Bool} {x : Code} : sub (false :: p) (.loop x) = sub p x := rfl
theorem sub_cond0 {p : List Bool} {c : Operand} {x y : Code} : sub (false :: p) (.cond c x y) = sub p x := rfl
theorem sub_cond1 {p : List Bool} {c : Operand} {x y : Code} : sub (true :: p) (.cond c x y) = sub p y := rfl
def bodyOf (f : Func) : Code := match f.body with
 | some c => c
 | none => .skip
def endK (n : Nat) (ds : List Nat) (I : VT → AHeap → Prop) (x : Exit) (s : ES) : Prop := match x with
 | .normal => s.n = n ∧ s.ds = ds ∧ I s.e s.H
 | _ => False
theorem endK_normal {I : VT → AHeap → Prop} : endK n ds I .normal ⟨n, e, H, ds⟩ = midN I e H := by simp [endK, midN]
theorem W_end {c : Code} {Q : Exit → ES → Prop} {I : VT → AHeap → Prop} (h : W T P N r c L ⟨n, e, H, ds⟩ (endK n ds I)) (hq : ∀ e' H', I e' H' → Q .normal ⟨n, e', H', ds⟩) : W T P N r c L ⟨n, e, H, ds⟩ Q := by
 refine W_mono h ?_
 intro x' s' h
 cases x' with
 | normal =>
  obtain ⟨n', e', H', ds'⟩ := s'
  obtain ⟨rfl, rfl, h3⟩ := h
  exact hq e' H' h3
 | _ => exact h.elim
def Keep (n : Nat) (js : List Nat) (e e' : VT) : Prop := ∀ j ∈ js, gt n e' j = gt n e j
theorem Keep.refl (n : Nat) (js : List Nat) (e : VT) : Keep n js e e := fun _ _ => rfl
theorem Keep.trans {js : List Nat} {e e' e'' : VT} (h : Keep n js e e') (h' : Keep n js e' e'') : Keep n js e e'' := fun j hj => (h' j hj).trans (h j hj)
theorem Keep.put {js : List Nat} {e e' : VT} {i : Nat} {v : Value} (h : Keep n js e e') (hi : i ∉ js) : Keep n js e (e'.put (some i) v) := fun j hj => by
 rw [gt_ne n e' i j v (fun hh => hi (hh ▸ hj))]
 exact h j hj
theorem Keep.none {js : List Nat} {e e' : VT} {v : Value} (h : Keep n js e e') : Keep n js e (e'.put none v) := h
def tv (t : List Int) : List Value := t.map fun n => .int .i64 n
theorem tv_len (t : List Int) : (tv t).length = t.length := List.length_map ..
theorem one_tv : ∀ t : List Int, oneCells (tv t) = true
 | [] => rfl
 | n :: t => one_tv t
theorem gr_tv (t : List Int) : gr (.agg ⟨tv t⟩) = true := by
 show (tv t).all (ground 5) = true
 rw [List.all_eq_true]
 intro v hv
 obtain ⟨n, -, rfl⟩ := List.mem_map.1 hv
 rfl
theorem newC_all {vs c : List Value} (h : vs.length = c.length) : newC 0 vs c = vs := by
 unfold newC
 rw [List.take_zero, List.nil_append, Nat.zero_add, h, List.drop_length, List.append_nil]
theorem newC_tv {t : List Int} {i : Nat} {v : Int} (h : i < t.length) : newC i [.int .i64 v] (tv t) = tv (t.set i v) := by
 unfold newC tv
 rw [← List.map_take, ← List.map_drop, List.map_set]
 simp only [List.length_cons,List.length_nil,Nat.zero_add]
 rw [List.set_eq_take_append_cons_drop, List.length_map, if_pos h, List.map_take, List.map_drop]
 simp
theorem part_tv {t : List Int} {s : Nat} (h : t.length = s) : part (tv t) 0 (s + 1) = some (.agg ⟨tv t⟩) := part_all (by rw [tv_len, h])
end Go.Am
namespace Go.Am
open Go.Proofs
variable {T : Tab} {P : Program} {N L : Nat} {H : AHeap}
section
variable {ex : Exec} {t : Operand → Option Value} {Q : Bool → Value → AHeap → Prop}
theorem aPureOf_shape {s : Sem Value} {v : Value} {H' : AHeap} {m : Nat} (h : aPureOf P H s = some (v, H', m)) : H' = H ∧ m = H.size := by
 unfold aPureOf at h
 split at h
 ·rename_i u hu
  cases hg : gr u
  ·rw [hg] at h; cases h
  ·rw [hg] at h; cases h; exact ⟨rfl, rfl⟩
 ·cases h
def mmV (P : Program) (H : AHeap) (mx : Bool) (a b : Value) : Option Value := match aMinMax P (fun x => match x with
  | .tmp 0 => some a
  | _ => some b) H mx [.tmp 0, .tmp 1].toArray with
 | some (v, _, _) => some v
 | none => none
theorem mm_min {a b : Int} : mmV P H false (.int .i64 a) (.int .i64 b) = some (.int .i64 (if b < a then b else a)) := nr rfl
theorem mm_max {a b : Int} : mmV P H true (.int .i64 a) (.int .i64 b) = some (.int .i64 (if b > a then b else a)) := nr rfl
theorem aMinMax_gen {mx : Bool} {x y : Operand} : (match still (aMinMax P t H mx [x, y].toArray) with
  | some (b, v, H', m) => L ≤ m ∧ Q b v H'
  | none => False) = optK (t x) fun a => optK (t y) fun b => optK (mmV P H mx a b) fun v => andK (L ≤ H.size) (Q true v H) := by
 cases hx : t x with
 | none =>
  unfold aMinMax
  rw [show allGr t [x, y].toArray.toList = false by simp [allGr, hx]]; rfl
 | some a =>
  cases hy : t y with
  | none =>
   unfold aMinMax
   rw [show allGr t [x, y].toArray.toList = false by simp [allGr, hx, hy]]; rfl
  | some b =>
   have e : aMinMax P t H mx [x, y].toArray = aMinMax P (fun x => match x with
     | .tmp 0 => some a
     | _ => some b) H mx [.tmp 0, .tmp 1].toArray := by
    unfold aMinMax
    simp [allGr, aρ, hx, hy]
   rw [e]
   simp only [optK,mmV]
   cases h : aMinMax P (fun x => match x with
     | .tmp 0 => some a
     | _ => some b) H mx [.tmp 0, .tmp 1].toArray with
   | none => rfl
   | some r =>
    obtain ⟨u, H', m⟩ := r
    have : H' = H ∧ m = H.size := by
     unfold aMinMax at h
     cases hb : allGr (fun x => match x with
      | .tmp 0 => some a
      | _ => some b) [.tmp 0, .tmp 1].toArray.toList
     ·rw [hb] at h; cases h
     ·rw [hb] at h
      exact aPureOf_shape h
    obtain ⟨rfl, rfl⟩ := this
    rfl
theorem A_min {tys : List TypeId} {x y : Operand} : A T P ex t H L (.call ⟨.builtin .min, [x, y].toArray, tys.toArray⟩) Q = optK (t x) fun a => optK (t y) fun b => optK (mmV P H false a b) fun v => andK (L ≤ H.size) (Q true v H) := by
 unfold A
 exact aMinMax_gen (mx := false)
theorem A_max {tys : List TypeId} {x y : Operand} : A T P ex t H L (.call ⟨.builtin .max, [x, y].toArray, tys.toArray⟩) Q = optK (t x) fun a => optK (t y) fun b => optK (mmV P H true a b) fun v => andK (L ≤ H.size) (Q true v H) := by
 unfold A
 exact aMinMax_gen (mx := true)
end
section
variable {ty : TypeId} {x y : Operand} {a b : Int}
end
end Go.Am
namespace Go.Am
open Go.Proofs
variable {T : Tab} {P : Program} {N L : Nat} {H H' : AHeap} {Q : Bool → Value → AHeap → Prop} {α : Type}
structure Enc (α : Type) where
 f : α → List Value
 z : Nat
 len : ∀ x, (f x).length = z
 one : ∀ x, oneCells (f x) = true
def Enc.fl (E : Enc α) : List α → List Value
 | [] => []
 | x :: l => E.f x ++ E.fl l
variable {E : Enc α} {l l' : List α} {x : α} {i : Nat}
theorem fl_length : ∀ l : List α, (E.fl l).length = l.length * E.z
 | [] => by simp [Enc.fl]
 | x :: l => by rw [Enc.fl, List.length_append, E.len, fl_length l, List.length_cons, Nat.succ_mul, Nat.add_comm]
theorem fl_app : ∀ l l' : List α, E.fl (l ++ l') = E.fl l ++ E.fl l'
 | [], l' => rfl
 | x :: l, l' => by
  show E.f x ++ E.fl (l ++ l') = E.f x ++ E.fl l ++ E.fl l'
  rw [fl_app l l', List.append_assoc]
theorem one_app {a b : List Value} (ha : oneCells a = true) (hb : oneCells b = true) : oneCells (a ++ b) = true := by
 induction a with
 | nil => exact hb
 | cons v a ih =>
  unfold oneCells at ha
  rw [Bool.and_eq_true] at ha
  show (v.oneCell' && oneCells (a ++ b)) = true
  rw [ha.1, ih ha.2]; rfl
theorem one_fl : ∀ l : List α, oneCells (E.fl l) = true
 | [] => rfl
 | x :: l => one_app (E.one x) (one_fl l)
theorem fl_at : ∀ {l : List α} {i : Nat}, l[i]? = some x → ((E.fl l).drop (i * E.z)).take E.z = E.f x
 | [], i, h => by simp at h
 | y :: l, 0, h => by
  simp only [List.getElem?_cons_zero,Option.some.injEq] at h
  subst h
  rw [Nat.zero_mul, List.drop_zero, Enc.fl, ← E.len y, List.take_left]
 | y :: l, i + 1, h => by
  rw [Enc.fl, show (i + 1) * E.z = (E.f y).length + i * E.z by rw [E.len, Nat.succ_mul, Nat.add_comm], List.drop_length_add_append]
  exact fl_at (by simpa using h)
theorem newC_fl {k : Nat} {s : α} (h : k < l.length) : newC (k * E.z) (E.f s) (E.fl l) = E.fl (l.set k s) := by
 obtain ⟨r, hr⟩ : ∃ r, l[k] = r := ⟨_, rfl⟩
 have e : l = l.take k ++ (r :: l.drop (k + 1)) := by
  rw [← hr, List.getElem_cons_drop, List.take_append_drop]
 have hk : (E.fl (l.take k)).length = k * E.z := by rw [fl_length, List.length_take]; congr 1; omega
 have e2 : E.fl l = E.fl (l.take k) ++ (E.f r ++ E.fl (l.drop (k + 1))) := by
  conv => lhs; rw [e]
  rw [fl_app]; rfl
 have e3 : E.fl (l.set k s) = E.fl (l.take k) ++ (E.f s ++ E.fl (l.drop (k + 1))) := by
  rw [List.set_eq_take_append_cons_drop, if_pos h, fl_app]; rfl
 have hz : k * E.z = (E.fl (l.take k)).length + 0 := by omega
 rw [e2, e3, hz, newC_app, newC_pre (by rw [E.len, E.len]; omega), newC_all (by rw [E.len, E.len])]
structure Rw (E : Enc α) (H : AHeap) (a : Option Addr) (l : List α) : Prop where
 get : l ≠ [] → ∃ b o c, a = some ⟨b, o, none⟩ ∧ b < H.size ∧ cellsOf (H.get b) = some c ∧ (c.drop o).take (l.length * E.z) = E.fl l
theorem Rw.nil {a : Option Addr} : Rw E H a [] := ⟨fun h => absurd rfl h⟩
theorem Rw.fr {a : Option Addr} (h : Rw E H a l) (f : Fr H H') : Rw E H' a l := ⟨fun hl => by
 obtain ⟨b, o, c, h1, h2, h3, h4⟩ := h.get hl
 exact ⟨b, o, c, h1, Nat.lt_of_lt_of_le h2 f.size, by rw [f.same b h2]; exact h3, h4⟩⟩
theorem Rw.src {b o : Nat} {s : Option Nat} (h : Rw E H (some ⟨b, o, s⟩) l) (hl : l ≠ []) : srcCells H ⟨b, o, s⟩ (l.length * E.z) = some (E.fl l) := by
 obtain ⟨b', o', c', h1, h2, h3, h4⟩ := h.get hl
 cases h1
 unfold srcCells
 rw [h3]
 simp only [h4,fl_length,show Nat.beq (l.length * E.z) (l.length * E.z) = true by simp,cond_true]
theorem drop_take_at {c : List Value} {o n z i : Nat} (hi : i + z ≤ n) : (((c.drop o).take n).drop i).take z = (c.drop (o + i)).take z := by
 rw [List.drop_take, List.take_take, List.drop_drop, Nat.min_eq_left (by omega)]
theorem Rw.at_ {a : Option Addr} (h : Rw E H a l) (hi : l[i]? = some x) : ∃ b o c, a = some ⟨b, o, none⟩ ∧ b < H.size ∧ cellsOf (H.get b) = some c ∧ (c.drop (o + i * E.z)).take E.z = E.f x := by
 have hlt := (List.getElem?_eq_some_iff.1 hi).1
 obtain ⟨b, o, c, h1, h2, h3, h4⟩ := h.get (fun h0 => by rw [h0] at hlt; simp at hlt)
 refine ⟨b, o, c, h1, h2, h3, ?_⟩
 have h5 : i * E.z + E.z ≤ l.length * E.z := by
  rw [← Nat.succ_mul]
  exact Nat.mul_le_mul_right _ hlt
 rw [← drop_take_at (n := l.length * E.z) h5, h4]
 exact fl_at hi
theorem Rw.of {b : Nat} {c r : List Value} (hb : b < H.size) (h : cellsOf (H.get b) = some c) (hc : c = E.fl l ++ r) : Rw E H (some ⟨b, 0, none⟩) l := ⟨fun _ => ⟨b, 0, c, rfl, hb, h, by
 rw [List.drop_zero, hc, ← fl_length, List.take_left]⟩⟩
theorem Grow.rw {tb c el : Nat} {a : Option Addr} (g : Grow H tb (.slice a l.length c) l.length (E.fl l) el E.z) : Rw E H a l := ⟨fun hne => by
 obtain ⟨b, al, h1, h2, h3, h4, h5⟩ := g.cons (by simpa using hne)
 cases h1
 exact (Rw.of (r := []) h3 (by rw [h4]; rfl) (by rw [List.append_nil])).get hne⟩
theorem part_of {c L : List Value} {k s : Nat} (h : (c.drop k).take s = L) (hl : L.length = s) : part c k (s + 1) = some (.agg ⟨L⟩) := by
 unfold part
 simp only [h,hl,show Nat.beq s s = true by simp,cond_true]
theorem cell_of {c : List Value} {k : Nat} {v : Value} (h : (c.drop k).take 1 = [v]) : c[k]? = some v := by
 have : ((c.drop k).take 1)[0]? = some v := by rw [h]; rfl
 rw [List.getElem?_take, if_pos (by omega), List.getElem?_drop, Nat.add_zero] at this
 exact this
def intE : Enc Int := ⟨fun n => [.int .i64 n], 1, fun _ => rfl, fun _ => rfl⟩
end Go.Am
