import Derived.Test.YtjpcaamfcfkmhaaT17
import Derived.Test.YtjpcaamfcfkmhaaT15
import Derived.Test.YtjpcaamfcfkmhaaT16
set_option linter.unusedSimpArgs false
set_option linter.unusedVariables false
namespace Go.Am
open Go.Proofs
noncomputable def tabA : Tab := tab
theorem tabA_fits : tabA.Fits Try.prog := tab_fits
end Go.Am
namespace Go.Am
open Go.Proofs
theorem st_alS_119 : alS tabA 119 = some [(.int IntKind.i64 0), (.int IntKind.i64 0), (.int IntKind.i64 0), (.int IntKind.i64 0)] := by kernel_rfl
theorem st_alS_129 : alS tabA 129 = some [.nilFunc] := by kernel_rfl
theorem st_alS_170 : alS tabA 170 = some [(.int IntKind.i64 0), (.int IntKind.i64 0)] := by kernel_rfl
theorem st_alS_38 : alS tabA 38 = some [(.int IntKind.i64 0), (.int IntKind.i64 0)] := by kernel_rfl
theorem st_alS_77 : alS tabA 77 = some [(.int IntKind.i64 0), (.int IntKind.i64 0)] := by kernel_rfl
theorem st_alS_87 : alS tabA 87 = some [(.int IntKind.i64 0), (.int IntKind.i64 0), (.int IntKind.i64 0), (.int IntKind.i64 0)] := by kernel_rfl
theorem st_bdS_129 : bdS tabA 129 = some ([.nilFunc], [(0, 1)]) := by kernel_rfl
theorem st_bdS_170 : bdS tabA 170 = some ([(.int IntKind.i64 0), (.int IntKind.i64 0)], [(0, 1), (1, 1)]) := by kernel_rfl
theorem st_bdS_38 : bdS tabA 38 = some ([(.int IntKind.i64 0), (.int IntKind.i64 0)], [(0, 1), (1, 1)]) := by kernel_rfl
theorem st_bdS_77 : bdS tabA 77 = some ([(.int IntKind.i64 0), (.int IntKind.i64 0)], [(0, 1), (1, 1)]) := by kernel_rfl
theorem st_esS_22 : esS tabA 22 = some 4 := by kernel_rfl
theorem st_esS_23 : esS tabA 23 = some 2 := by kernel_rfl
theorem st_esS_49 : esS tabA 49 = some 1 := by kernel_rfl
theorem st_faS_124_0 : faS tabA 124 0 = some 0 := by kernel_rfl
theorem st_faS_129_0 : faS tabA 129 0 = some 0 := by kernel_rfl
theorem st_faS_170_0 : faS tabA 170 0 = some 0 := by kernel_rfl
theorem st_faS_170_1 : faS tabA 170 1 = some 1 := by kernel_rfl
theorem st_faS_25_0 : faS tabA 25 0 = some 0 := by kernel_rfl
theorem st_faS_25_1 : faS tabA 25 1 = some 1 := by kernel_rfl
theorem st_faS_25_2 : faS tabA 25 2 = some 2 := by kernel_rfl
theorem st_faS_38_0 : faS tabA 38 0 = some 0 := by kernel_rfl
theorem st_faS_38_1 : faS tabA 38 1 = some 1 := by kernel_rfl
theorem st_faS_77_0 : faS tabA 77 0 = some 0 := by kernel_rfl
theorem st_faS_77_1 : faS tabA 77 1 = some 1 := by kernel_rfl
theorem st_faS_87_0 : faS tabA 87 0 = some 0 := by kernel_rfl
theorem st_faS_87_1 : faS tabA 87 1 = some 1 := by kernel_rfl
theorem st_faS_87_2 : faS tabA 87 2 = some 2 := by kernel_rfl
theorem st_faS_87_3 : faS tabA 87 3 = some 3 := by kernel_rfl
theorem st_inS_119 : inS tabA 119 = some 4 := by kernel_rfl
theorem st_inS_129 : inS tabA 129 = some 1 := by kernel_rfl
theorem st_inS_170 : inS tabA 170 = some 2 := by kernel_rfl
theorem st_inS_3 : inS tabA 3 = some 1 := by kernel_rfl
theorem st_inS_38 : inS tabA 38 = some 2 := by kernel_rfl
theorem st_inS_77 : inS tabA 77 = some 2 := by kernel_rfl
theorem st_inS_87 : inS tabA 87 = some 4 := by kernel_rfl
theorem st_ldS_119 : ldS tabA 119 = some 5 := by kernel_rfl
theorem st_ldS_124 : ldS tabA 124 = some 5 := by kernel_rfl
theorem st_ldS_127 : ldS tabA 127 = some 0 := by kernel_rfl
theorem st_ldS_129 : ldS tabA 129 = some 2 := by kernel_rfl
theorem st_ldS_170 : ldS tabA 170 = some 3 := by kernel_rfl
theorem st_ldS_22 : ldS tabA 22 = some 0 := by kernel_rfl
theorem st_ldS_23 : ldS tabA 23 = some 0 := by kernel_rfl
theorem st_ldS_3 : ldS tabA 3 = some 0 := by kernel_rfl
theorem st_ldS_38 : ldS tabA 38 = some 3 := by kernel_rfl
theorem st_ldS_77 : ldS tabA 77 = some 3 := by kernel_rfl
theorem st_ldS_87 : ldS tabA 87 = some 5 := by kernel_rfl
theorem fn_16 : tabA.fn 16 = some Try.f16 := by kernel_rfl
theorem fn_58 : tabA.fn 58 = some Try.f58 := by kernel_rfl
theorem fn_59 : tabA.fn 59 = some Try.f59 := by kernel_rfl
theorem fn_60 : tabA.fn 60 = some Try.f60 := by kernel_rfl
theorem fn_61 : tabA.fn 61 = some Try.f61 := by kernel_rfl
theorem fn_62 : tabA.fn 62 = some Try.f62 := by kernel_rfl
theorem fn_63 : tabA.fn 63 = some Try.f63 := by kernel_rfl
theorem fn_64 : tabA.fn 64 = some Try.f64 := by kernel_rfl
theorem fn_65 : tabA.fn 65 = some Try.f65 := by kernel_rfl
theorem fn_66 : tabA.fn 66 = some Try.f66 := by kernel_rfl
theorem fn_75 : tabA.fn 75 = some Try.f75 := by kernel_rfl
theorem fn_76 : tabA.fn 76 = some Try.f76 := by kernel_rfl
theorem fn_78 : tabA.fn 78 = some Try.f78 := by kernel_rfl
theorem fn_79 : tabA.fn 79 = some Try.f79 := by kernel_rfl
theorem fn_92 : tabA.fn 92 = some Try.f92 := by kernel_rfl
theorem fn_94 : tabA.fn 94 = some Try.f94 := by kernel_rfl
theorem fn_99 : tabA.fn 99 = some Try.f99 := by kernel_rfl
theorem fn_103 : tabA.fn 103 = some Try.f103 := by kernel_rfl
theorem fn_115 : tabA.fn 115 = some Try.f115 := by kernel_rfl
theorem fn_118 : tabA.fn 118 = some Try.f118 := by kernel_rfl
theorem fn_119 : tabA.fn 119 = some Try.f119 := by kernel_rfl
theorem fn_120 : tabA.fn 120 = some Try.f120 := by kernel_rfl
theorem fn_121 : tabA.fn 121 = some Try.f121 := by kernel_rfl
theorem fn_130 : tabA.fn 130 = some Try.f130 := by kernel_rfl
end Go.Am
set_option linter.defProp false
namespace Go.Am
open Go.Proofs
def yp := (And.intro (And.intro (And.intro (And.intro (And.intro @W_skip @W_label) (And.intro @W_exit @W_ret)) (And.intro (And.intro @W_seq @W_block) (And.intro @W_cond @W_region))) (And.intro (And.intro (And.intro @O_nil @O_cons) (And.intro @O_guard @A_move)) (And.intro (And.intro @A_assign @A_pick) (And.intro @A_box (And.intro @A_alloc @A_fieldAddr))))) (And.intro (And.intro (And.intro (And.intro @A_load @A_store) (And.intro @A_extract @A_binOp)) (And.intro (And.intro @A_call @A_len) (And.intro @wrK_eq (And.intro @A_makeFunc @A_unOp)))) (And.intro (And.intro (And.intro @A_append @D_nil) (And.intro @D_cons @D_guard)) (And.intro (And.intro @newK_alloc @newK_box) (And.intro @DS_nil (And.intro @DS_cons @DS_guard))))))
def yq0 := (And.intro (And.intro (And.intro (And.intro (And.intro @env_cons @env_nil) (And.intro @optK_some (And.intro @letK_eq @andK_of))) (And.intro (And.intro @Split_true @Split_false) (And.intro @Split_not (And.intro @seqK_normal @seqK_exit)))) (And.intro (And.intro (And.intro @seqK_ret @boolK_bool) (And.intro @bolK_bool (And.intro @guardK_true @guardK_false))) (And.intro (And.intro @gK_some @gdst_zero) (And.intro @gdst_succ (And.intro @ptrK_some @intK_int))))) (And.intro (And.intro (And.intro (And.intro @tupK_tuple @slK_some) (And.intro @aenv_tmp (And.intro @aenv_func @aenv_int))) (And.intro (And.intro @aenv_bool @gt_same) (And.intro @gt_ne (And.intro @put_none @blockExit_normal)))) (And.intro (And.intro (And.intro @blockExit_ret @blockExit_same) (And.intro @blockExit_other (And.intro @binV_add @binV_sub))) (And.intro (And.intro @binV_mul @binV_eql) (And.intro @binV_neq (And.intro @binV_lss @binV_leq))))))
def yq1 := (And.intro (And.intro (And.intro (And.intro (And.intro @binV_gtr @binV_geq) (And.intro @resK_some (And.intro @calK_func @avals_nil))) (And.intro (And.intro @avals_cons @consO_some) (And.intro @resV_one (And.intro @resV_two @resV_three)))) (And.intro (And.intro (And.intro @retK_ret @retK_normal) (And.intro @loopK_normal (And.intro @loopK_ret @loopK_exit))) (And.intro (And.intro @get_alloc_same @get_alloc_eq) (And.intro @get_alloc_lt (And.intro @get_put_same @get_put_ne))))) (And.intro (And.intro (And.intro (And.intro @size_alloc @size_put) (And.intro @size_kill (And.intro @cellsOf_rw @cellsOf_ro))) (And.intro (And.intro @part_zero @part_2) (And.intro @part_3 (And.intro @part_4 @part_5)))) (And.intro (And.intro (And.intro @part_6 @part_7) (And.intro @part_8 (And.intro @part_9 @cells_agg))) (And.intro (And.intro @cells_int @cells_bool) (And.intro @cells_slice (And.intro @cells_pointer @cells_func))))))
def yq2 := (And.intro (And.intro (And.intro (And.intro (And.intro @beq_refl @idxK_int) (And.intro @wrB_rw (And.intro @one_nil @one_int))) (And.intro (And.intro @one_bool @one_slice) (And.intro @one_pointer (And.intro @one_func @one_nilFunc)))) (And.intro (And.intro (And.intro @unV_not @fill1_some) (And.intro @andThen_some (And.intro @afill_nil @afill_cons))) (And.intro (And.intro @aparts_nil @aparts_cons) (And.intro @consP_some (And.intro @resV_cell @cellO_ptr))))) (And.intro (And.intro (And.intro (And.intro @readO_some @maskE_tmp) (And.intro @maskE_func (And.intro @maskE_int @maskE_bool))) (And.intro (And.intro @memNat_nil @memNat_cons) (And.intro @flagK_true (And.intro @flagK_false @agsK_nil)))) (And.intro (And.intro (And.intro @agsK_cons @agK_nil) (And.intro @agK_cons (And.intro @lastG_one @lastG_cons))) (And.intro (And.intro @tm_move @tm_assign) (And.intro @tm_box (And.intro @tm_load @tm_nilCheck))))))
def yq3 := (And.intro (And.intro (And.intro (And.intro (And.intro @tm_unOp @tm_convert) (And.intro @tm_alloc (And.intro @tm_store @tm_binOp))) (And.intro (And.intro @tm_fieldAddr @tm_field) (And.intro @tm_indexAddr (And.intro @tm_index @tm_pick)))) (And.intro (And.intro (And.intro @tm_extract @tm_build) (And.intro @tm_row (And.intro @tm_call @tm_built))) (And.intro (And.intro @tp_nil @tp_tmp) (And.intro @tp_const (And.intro @tp_func @aenv_nilFunc))))) (And.intro (And.intro (And.intro (And.intro @aenv_nilSlice @sv_int) (And.intro @sv_bool (And.intro @sv_pointer @sv_slice))) (And.intro (And.intro @sv_agg @sv_tuple) (And.intro @sv_func (And.intro @sl_nil @sl_cons)))) (And.intro (And.intro (And.intro @lookK_some @lookK_none) (And.intro @look_nil (And.intro @look_cons @places_nil))) (And.intro (And.intro @places_cons @allocs_nil) (And.intro @allocs_cons (And.intro @memP_nil @memP_cons))))))
def yq4 := (And.intro (And.intro (And.intro @skipK_true @skipK_false) (And.intro @stsR_nil (And.intro @stsR_cons @stR_nil))) (And.intro (And.intro @stR_cons (And.intro @tupO_some @resV_cell_tmp)) (And.intro @revA_nil (And.intro @revA_cons @guardK_undef))))
def yl := (And.intro (And.intro (And.intro (And.intro (And.intro @Nat.le_refl @cond_true.{1}) (And.intro @cond_false.{1} (And.intro @Nat.zero_add @List.nil_append.{0}))) (And.intro (And.intro @List.cons_append.{0} @List.append_nil.{0}) (And.intro @List.take_zero.{0} (And.intro @List.take_succ_cons.{0} @List.drop_zero.{0})))) (And.intro (And.intro (And.intro @List.drop_succ_cons.{0} @List.drop_nil.{0}) (And.intro @decide_true (And.intro @decide_false @Bool.and_self))) (And.intro (And.intro @Bool.true_and @List.length_cons.{0}) (And.intro @List.length_nil.{0} (And.intro @Int.toNat_natCast @Bool.or_true))))) (And.intro (And.intro (And.intro (And.intro @Bool.true_or @Bool.false_or) (And.intro @Bool.or_false (And.intro @Bool.and_true @Bool.and_false))) (And.intro (And.intro @Bool.false_and @Bool.not_true) (And.intro @Bool.not_false (And.intro @and_true @true_and)))) (And.intro (And.intro (And.intro @List.getElem?_cons_zero.{0} @List.getElem?_cons_succ.{0}) (And.intro @Nat.le_add_right (And.intro @List.map_cons.{0, 0} @List.map_nil.{0, 0}))) (And.intro (And.intro @List.map_toArray.{0, 0} (And.intro @List.append_toArray.{0} @if_true.{1})) (And.intro @if_false.{1} (And.intro @Nat.add_zero @Nat.mul_one))))))
def ys0 := (And.intro (And.intro (And.intro (And.intro (And.intro @st_alS_119 @st_alS_129) (And.intro @st_alS_170 (And.intro @st_alS_38 @st_alS_77))) (And.intro (And.intro @st_alS_87 @st_bdS_129) (And.intro @st_bdS_170 (And.intro @st_bdS_38 @st_bdS_77)))) (And.intro (And.intro (And.intro @st_esS_22 @st_esS_23) (And.intro @st_esS_49 (And.intro @st_faS_124_0 @st_faS_129_0))) (And.intro (And.intro @st_faS_170_0 @st_faS_170_1) (And.intro @st_faS_25_0 (And.intro @st_faS_25_1 @st_faS_25_2))))) (And.intro (And.intro (And.intro (And.intro @st_faS_38_0 @st_faS_38_1) (And.intro @st_faS_77_0 (And.intro @st_faS_77_1 @st_faS_87_0))) (And.intro (And.intro @st_faS_87_1 @st_faS_87_2) (And.intro @st_faS_87_3 (And.intro @st_inS_119 @st_inS_129)))) (And.intro (And.intro (And.intro @st_inS_170 @st_inS_3) (And.intro @st_inS_38 (And.intro @st_inS_77 @st_inS_87))) (And.intro (And.intro @st_ldS_119 @st_ldS_124) (And.intro @st_ldS_127 (And.intro @st_ldS_129 @st_ldS_170))))))
def ys1 := (And.intro (And.intro @st_ldS_22 (And.intro @st_ldS_23 @st_ldS_3)) (And.intro @st_ldS_38 (And.intro @st_ldS_77 @st_ldS_87)))
def yk := And.intro @ne_eq @not_false_eq_true
def yz := (And.intro @size_alloc (And.intro @size_put @size_kill))
def yg := (And.intro (And.intro (And.intro (And.intro @gt_same @gt_ne) (And.intro @put_none @get_alloc_same)) (And.intro (And.intro @get_alloc_eq @get_alloc_lt) (And.intro @get_put_same (And.intro @get_put_ne @size_alloc)))) (And.intro (And.intro (And.intro @size_put @size_kill) (And.intro @cellsOf_rw @cellsOf_ro)) (And.intro (And.intro @Nat.le_refl @Nat.zero_add) (And.intro @Nat.add_zero (And.intro @true_and @and_true)))))
end Go.Am
namespace Go.Am
open Go.Proofs
variable {T : Tab} {P : Program} {N L : Nat} {H : AHeap} {Q : Bool → Value → AHeap → Prop}
def off (a lo hi : Int) : Bool := decide (a < lo) || decide (hi < a)
structure Fr (H H' : AHeap) : Prop where
 size : H.size ≤ H'.size
 same : ∀ k, k < H.size → H'.get k = H.get k
theorem Fr.refl (H : AHeap) : Fr H H := ⟨Nat.le_refl _, fun _ _ => rfl⟩
theorem Fr.trans {H H₁ H₂ : AHeap} (a : Fr H H₁) (b : Fr H₁ H₂) : Fr H H₂ := ⟨Nat.le_trans a.size b.size, fun k hk => (b.same k (Nat.lt_of_lt_of_le hk a.size)).trans (a.same k hk)⟩
theorem Fr.alloc (H : AHeap) (b : ABlk) : Fr H (H.alloc b) := ⟨by simp, fun k hk => get_alloc_lt hk⟩
theorem Fr.allocd {H H' : AHeap} (a : Fr H H') (b : ABlk) : Fr H (H'.alloc b) := a.trans (Fr.alloc _ _)
theorem Fr.kill {H H' : AHeap} (a : Fr H H') {l : List Nat} (h : ∀ j ∈ l, H.size ≤ j) : Fr H (H'.kill l) := ⟨by simp [a.size], fun j hj => by rw [get_kill (fun hm => by have := h j hm; omega)]; exact a.same j hj⟩
theorem Fr.put {H H' : AHeap} (a : Fr H H') {k : Nat} (hk : H.size ≤ k) (b : ABlk) : Fr H (H'.put k b) := ⟨by simp [a.size], fun j hj => by rw [get_put_ne (by omega)]; exact a.same j hj⟩
def wi (a lo hi : Int) : Bool := decide (lo ≤ a) && decide (a ≤ hi)
structure Grow (H : AHeap) (tb : Nat) (v : Value) (i : Nat) (cs : List Value) (el z : Nat) : Prop where
 nil : i = 0 → v = .slice none 0 0
 cons : i ≠ 0 → ∃ b al, v = .slice (some ⟨b, 0, none⟩) i (OPEN + z) ∧ tb < b ∧ b < H.size ∧ H.get b = .rw cs el true al ∧ (∀ j ∈ al, tb < j ∧ j < b)
structure FrU (m : Nat) (H H' : AHeap) : Prop where
 size : H.size ≤ H'.size
 same : ∀ k, k < m → H'.get k = H.get k
theorem Fr.part {H H₁ H₂ : AHeap} {m : Nat} (a : Fr H H₁) (b : FrU m H₁ H₂) (h : H.size ≤ m) : Fr H H₂ := ⟨Nat.le_trans a.size b.size, fun k hk => (b.same k (by omega)).trans (a.same k hk)⟩
theorem Grow.fr {H H' : AHeap} {tb i el z : Nat} {v : Value} {cs : List Value} (g : Grow H tb v i cs el z) (f : Fr H H') : Grow H' tb v i cs el z :=
 ⟨g.nil, fun h => by
  obtain ⟨b, al, h1, h2, h3, h4, h5⟩ := g.cons h
  exact ⟨b, al, h1, h2, Nat.lt_of_lt_of_le h3 f.size, by rw [f.same b h3]; exact h4, h5⟩⟩
theorem Grow.put {H : AHeap} {tb i el z k : Nat} {v : Value} {cs : List Value} {blk : ABlk} (g : Grow H tb v i cs el z) (hk : k ≤ tb) : Grow (H.put k blk) tb v i cs el z :=
 ⟨g.nil, fun h => by
  obtain ⟨b, al, h1, h2, h3, h4, h5⟩ := g.cons h
  exact ⟨b, al, h1, h2, by rw [size_put]; exact h3, by rw [get_put_ne (by omega)]; exact h4, h5⟩⟩
theorem newC_app {j : Nat} {vs a b : List Value} : newC (a.length + j) vs (a ++ b) = a ++ newC j vs b := by
 unfold newC
 rw [List.take_length_add_append, show a.length + j + vs.length = a.length + (j + vs.length) by omega, List.drop_length_add_append]
 simp
theorem newC_pre {j : Nat} {vs a b : List Value} (h : j + vs.length ≤ a.length) : newC j vs (a ++ b) = newC j vs a ++ b := by
 unfold newC
 rw [List.take_append_of_le_length (by omega), List.drop_append_of_le_length h]
 simp
theorem resK_elim {q : Res} {Q : Bool → Value → AHeap → Prop} (h : resK q L Q) : ∃ f v H' m, q = some (f, v, H', m) ∧ L ≤ m ∧ Q f v H' := by
 unfold resK at h
 cases q with
 | none => exact h.elim
 | some p =>
  obtain ⟨f, v, H', m⟩ := p
  exact ⟨f, v, H', m, rfl, h⟩
end Go.Am
