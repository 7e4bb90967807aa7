import Derived.Test.YtbofjfjopeaefaaT20
import Derived.Test.YtbofjfjopeaefaaT21
import Derived.Test.YtbofjfjopeaefaaT19
import Derived.Test.YtbofjfjopeaefaaT18
import Derived.Test.YtbofjfjopeaefaaT23
import Derived.Test.YtbofjfjopeaefaaT27
import Derived.Test.YtbofjfjopeaefaaT28
import Derived.Test.YtbofjfjopeaefaaT29
import Derived.Test.YtbofjfjopeaefaaT11
import Derived.Test.YtbofjfjopeaefaaT12
import Derived.Test.YtbofjfjopeaefaaT14
set_option linter.unusedSimpArgs false
set_option linter.unusedVariables false
namespace Go.Am
open Go.Proofs
set_option maxRecDepth 100000
def awakeE : Quiet := ⟨13, [], 0, [], .bool true⟩
theorem awake_part : awakeE.Ok Try.prog := quiet_of (T := tabP.knows4 [P10.e, P11.e, P37.e, P43.e] [] [P0.e, P1.e, P2.e, P3.e, P4.e]) (Tab.knows4_fits tabP_fits ⟨P10.ok, P11.ok, P37.ok, P43.ok, trivial⟩ trivial ⟨P0.ok, P1.ok, P2.ok, P3.ok, P4.ok, trivial⟩) (n := 400) (by kernel_rfl)
end Go.Am
namespace Go.Am
open Go.Proofs
variable {T : Tab} {P : Program}
theorem SCall.any {f : FuncId} {args : List Value} {H H' : AHeap} {v : Value} {m : Nat} (h : SCall P f args H v H' m) (ha : allGrV args = true) (hv : gr v = true) (H₀ : AHeap) : SCall P f args H₀ v H₀ H₀.size := by
 intro F n σ w hF hR hargs
 rw [allGrV_ren ha]
 refine (h.anywhere ha hv F n hF w).mono ?_
 rintro e w' ⟨rfl, x⟩
 refine ⟨σ, by rw [(gr_ok σ hv).2], (gr_ok σ hv).1, ⟨fun k b s hp => ⟨(hR.lt k b s hp).1, Nat.lt_of_lt_of_le (hR.lt k b s hp).2 x.size⟩, fun k b s hp => (hR.holds k b s hp).agree (Agree.refl σ) (x.same b (hR.lt k b s hp).2), hR.excl⟩, ?_⟩
 exact ⟨fun _ _ => ⟨rfl, rfl⟩, Nat.le_refl _, x.size, x.os, x.tape, x.output, fun _ _ _ => rfl, fun b hb _ => x.same b hb, fun k b s hk hp => absurd (hR.lt k b s hp).1 (by omega)⟩
def Tab.sure (T : Tab) (f : FuncId) (plan : List Oper → (Nat → Value) → AHeap → Option (List (Nat × ABlk))) : Tab := ⟨T.und, T.inf, T.fn, fun g args H => match Nat.beq g f, args with
 | true, [] => some (true, .bool true, H, H.size)
 | _, _ => none, plan⟩
theorem Tab.sure_fits {plan : List Oper → (Nat → Value) → AHeap → Option (List (Nat × ABlk))} (hT : T.Fits P) {e : Quiet} (he : e.Ok P) (ha : e.args = []) (hv : e.v = .bool true) : (T.sure e.f plan).Fits P where
 und := hT.und
 inf := hT.inf
 fn := hT.fn
 mixed := hT.mixed
 memo f args H b v H' m h := by
  simp only [Tab.sure] at h
  split at h
  ·rename_i hf
   cases h
   have : f = e.f := Nat.eq_of_beq_eq_true hf
   subst this
   have h2 := he.2
   rw [ha, hv] at h2
   exact ⟨he.1, h2.any rfl rfl H, fun _ => ⟨rfl, rfl⟩⟩
  ·cases h
end Go.Am
namespace Go.Am.K
open Go.Proofs
def planK (ops : List Oper) (_ : Nat → Value) (_ : AHeap) : Option (List (Nat × ABlk)) :=
 if ops.map (·.dst) = [some 4, some 5, some 6, some 7, some 8, some 9, some 10, some 11, some 12, some 13, some 14, some 15, some 16, some 17, some 18, some 19, some 20, some 21, some 22, some 23, some 24, some 25, none] then some []
 else if ops.map (·.dst) = [some 109, some 110, some 111, some 112, some 113, some 114, some 115, some 116, some 117, some 118, some 119, some 120, some 121, some 122, some 123, some 124, some 125, some 126, some 127, some 128] then some []
 else if ops.map (·.dst) = [some 73, some 74, some 75, some 76, some 77, some 12, some 78, none] then some []
 else if ops.map (·.dst) = [some 20, some 21, some 22, some 23, some 24, some 25, some 26, some 27, some 28, some 29, some 30, some 31, some 32, some 33, some 34, some 35, some 36, some 37, some 38, some 39, some 40, some 41, some 42, some 43, some 44, some 45, some 46, some 9] then some []
 else if ops.map (·.dst) = [some 3, some 4, some 5, some 6, some 7, some 8, some 9, none, some 10, none] then some []
 else if ops.map (·.dst) = [some 7, some 8, some 9, some 10, some 11, some 12, some 13, none, some 14, none] then some []
 else if ops.map (·.dst) = [some 7, some 8, some 9, some 10, some 11, some 12, some 13, some 14, some 15, some 16, some 17, some 18, some 19, some 20, some 21, some 22, none] then some []
 else if ops.map (·.dst) = [some 20, some 21, some 22, some 23, some 9, some 10, none, none] then some [(4, .rw [.slice none 0 0, .slice none 0 0, .int .i64 0] 25 false []), (5, .rw [.slice none 0 0, .slice none 0 0, .int .i64 0] 32 false [])]
 else if ops.map (·.dst) = [some 65, some 66, some 67, some 68, some 69, some 70, some 71, some 72, some 73, some 74] then some []
 else if ops.map (·.dst) = [some 45, some 46, some 47, some 48, some 49, some 50, some 51, some 52, some 53, some 54, some 55, some 12, none] then some [(0, .rw [] 101 false []), (4, .rw [] 102 false []), (11, .rw [.slice none 0 0, .slice none 0 0, .int .i64 0] 32 false [])]
 else if ops.map (·.dst) = [some 28, some 29, some 30, some 31, some 32, some 33, some 9, some 11, none, some 10, none] then some [(6, .rw [.slice none 0 0, .slice none 0 0, .int .i64 0] 25 false []), (7, .rw [.slice none 0 0, .slice none 0 0, .int .i64 0] 32 false [])]
 else if ops.map (·.dst) = [some 18, some 19, some 20, some 21, some 22, some 23, some 24, some 25, some 7, none] then some [(8, .rw [.int .i64 0, .int .i64 0, .int .i64 0, .int .i64 0] 119 false [])]
 else if ops.map (·.dst) = [some 89, some 90, some 91, some 92, some 93, some 94, some 95, some 96, some 97, some 98, some 99, some 100, some 101, some 102, none] then some []
 else if ops.map (·.dst) = [some 97, some 98, some 99, some 100, some 101, some 102, some 103, some 104, none] then some []
 else none
noncomputable def tabA : Tab := Tab.sure tab awakeE.f planK
theorem tabA_fits : tabA.Fits Try.prog := Tab.sure_fits tab_fits awake_part rfl rfl
theorem tabA_fr : tabA.MemoFr := by
 intro f args H b v H' m h
 simp only [tabA,Tab.sure] at h
 split at h
 ·cases h; exact Fra.refl _ _
 ·cases h
theorem planK_of {ops : List Oper} {env : Nat → Value} {H : AHeap} {r : Option (List (Nat × ABlk))} (hr : planK ops env H = r) : tabA.plan ops env H = r := hr
theorem awake_known {ex : Exec} {H : AHeap} : acall tabA ex 13 [] H = some (true, .bool true, H, H.size) := rfl
end Go.Am.K
namespace Go.Am.K
open Go.Proofs
theorem st_alS_101 : alS tabA 101 = some [(.int IntKind.i64 0), (.int IntKind.i64 0), (.int IntKind.i64 0), (.int IntKind.i64 0)] := by kernel_rfl
theorem st_alS_102 : alS tabA 102 = some [(.int IntKind.i64 0), (.int IntKind.i64 0)] := by kernel_rfl
theorem st_alS_119 : alS tabA 119 = some [(.int IntKind.i64 0), (.int IntKind.i64 0), (.int IntKind.i64 0), (.int IntKind.i64 0)] := by kernel_rfl
theorem st_alS_124 : alS tabA 124 = some [(.slice none 0 0), (.slice none 0 0), (.int IntKind.i64 0), (.map none)] := by kernel_rfl
theorem st_alS_129 : alS tabA 129 = some [.nilFunc] := by kernel_rfl
theorem st_alS_134 : alS tabA 134 = some [(.slice none 0 0), (.slice none 0 0), (.int IntKind.i64 0), (.map none), (.int IntKind.i64 0), (.int IntKind.i64 0), (.int IntKind.i64 0), (.int IntKind.i64 0), (.int IntKind.i64 0), (.int IntKind.i64 0)] := by kernel_rfl
theorem st_alS_170 : alS tabA 170 = some [(.int IntKind.i64 0), (.int IntKind.i64 0)] := by kernel_rfl
theorem st_alS_25 : alS tabA 25 = some [(.slice none 0 0), (.slice none 0 0), (.int IntKind.i64 0)] := by kernel_rfl
theorem st_alS_32 : alS tabA 32 = some [(.slice none 0 0), (.slice none 0 0), (.int IntKind.i64 0)] := by kernel_rfl
theorem st_alS_38 : alS tabA 38 = some [(.int IntKind.i64 0), (.int IntKind.i64 0)] := by kernel_rfl
theorem st_alS_77 : alS tabA 77 = some [(.int IntKind.i64 0), (.int IntKind.i64 0)] := by kernel_rfl
theorem st_alS_87 : alS tabA 87 = some [(.int IntKind.i64 0), (.int IntKind.i64 0), (.int IntKind.i64 0), (.int IntKind.i64 0)] := by kernel_rfl
theorem st_bdS_101 : bdS tabA 101 = some ([(.int IntKind.i64 0), (.int IntKind.i64 0), (.int IntKind.i64 0), (.int IntKind.i64 0)], [(0, 1), (1, 1), (2, 1), (3, 1)]) := by kernel_rfl
theorem st_bdS_124 : bdS tabA 124 = some ([(.slice none 0 0), (.slice none 0 0), (.int IntKind.i64 0), (.map none)], [(0, 3), (3, 1)]) := by kernel_rfl
theorem st_bdS_129 : bdS tabA 129 = some ([.nilFunc], [(0, 1)]) := by kernel_rfl
theorem st_bdS_134 : bdS tabA 134 = some ([(.slice none 0 0), (.slice none 0 0), (.int IntKind.i64 0), (.map none), (.int IntKind.i64 0), (.int IntKind.i64 0), (.int IntKind.i64 0), (.int IntKind.i64 0), (.int IntKind.i64 0), (.int IntKind.i64 0)], [(0, 4), (4, 4), (8, 1), (9, 1)]) := by kernel_rfl
theorem st_bdS_145 : bdS tabA 145 = some ([(.slice none 0 0), (.int IntKind.i64 0), (.int IntKind.u64 0)], [(0, 1), (1, 1), (2, 1)]) := by kernel_rfl
theorem st_bdS_170 : bdS tabA 170 = some ([(.int IntKind.i64 0), (.int IntKind.i64 0)], [(0, 1), (1, 1)]) := by kernel_rfl
theorem st_bdS_25 : bdS tabA 25 = some ([(.slice none 0 0), (.slice none 0 0), (.int IntKind.i64 0)], [(0, 1), (1, 1), (2, 1)]) := by kernel_rfl
theorem st_bdS_32 : bdS tabA 32 = some ([(.slice none 0 0), (.slice none 0 0), (.int IntKind.i64 0)], [(0, 1), (1, 1), (2, 1)]) := by kernel_rfl
theorem st_bdS_38 : bdS tabA 38 = some ([(.int IntKind.i64 0), (.int IntKind.i64 0)], [(0, 1), (1, 1)]) := by kernel_rfl
theorem st_bdS_77 : bdS tabA 77 = some ([(.int IntKind.i64 0), (.int IntKind.i64 0)], [(0, 1), (1, 1)]) := by kernel_rfl
theorem st_bdS_87 : bdS tabA 87 = some ([(.int IntKind.i64 0), (.int IntKind.i64 0), (.int IntKind.i64 0), (.int IntKind.i64 0)], [(0, 1), (1, 1), (2, 1), (3, 1)]) := by kernel_rfl
theorem st_brS_22_0 : brS tabA 22 0 = some (4, 87, []) := by kernel_rfl
theorem st_brS_22_1 : brS tabA 22 1 = some (4, 87, [(.int IntKind.i64 0), (.int IntKind.i64 0), (.int IntKind.i64 0), (.int IntKind.i64 0)]) := by kernel_rfl
theorem st_brS_23_0 : brS tabA 23 0 = some (2, 77, []) := by kernel_rfl
theorem st_brS_23_1 : brS tabA 23 1 = some (2, 77, [(.int IntKind.i64 0), (.int IntKind.i64 0)]) := by kernel_rfl
theorem st_brS_29_0 : brS tabA 29 0 = some (4, 101, []) := by kernel_rfl
theorem st_brS_29_1 : brS tabA 29 1 = some (4, 101, [(.int IntKind.i64 0), (.int IntKind.i64 0), (.int IntKind.i64 0), (.int IntKind.i64 0)]) := by kernel_rfl
theorem st_brS_30_0 : brS tabA 30 0 = some (2, 102, []) := by kernel_rfl
theorem st_brS_30_1 : brS tabA 30 1 = some (2, 102, [(.int IntKind.i64 0), (.int IntKind.i64 0)]) := by kernel_rfl
theorem st_brS_49_0 : brS tabA 49 0 = some (1, 3, []) := by kernel_rfl
theorem st_brS_49_1 : brS tabA 49 1 = some (1, 3, [(.int IntKind.i64 0)]) := by kernel_rfl
theorem st_brS_56_1 : brS tabA 56 1 = some (2, 38, [(.int IntKind.i64 0), (.int IntKind.i64 0)]) := by kernel_rfl
theorem st_esS_138 : esS tabA 138 = some 1 := by kernel_rfl
theorem st_esS_22 : esS tabA 22 = some 4 := by kernel_rfl
theorem st_esS_23 : esS tabA 23 = some 2 := by kernel_rfl
theorem st_esS_29 : esS tabA 29 = some 4 := by kernel_rfl
theorem st_esS_30 : esS tabA 30 = some 2 := by kernel_rfl
theorem st_esS_49 : esS tabA 49 = some 1 := by kernel_rfl
theorem st_esS_56 : esS tabA 56 = some 2 := by kernel_rfl
theorem st_esS_63 : esS tabA 63 = some 1 := by kernel_rfl
theorem st_faS_101_0 : faS tabA 101 0 = some 0 := by kernel_rfl
theorem st_faS_101_1 : faS tabA 101 1 = some 1 := by kernel_rfl
theorem st_faS_101_2 : faS tabA 101 2 = some 2 := by kernel_rfl
theorem st_faS_101_3 : faS tabA 101 3 = some 3 := by kernel_rfl
theorem st_faS_102_0 : faS tabA 102 0 = some 0 := by kernel_rfl
theorem st_faS_102_1 : faS tabA 102 1 = some 1 := by kernel_rfl
theorem st_faS_124_0 : faS tabA 124 0 = some 0 := by kernel_rfl
theorem st_faS_124_1 : faS tabA 124 1 = some 3 := by kernel_rfl
theorem st_faS_129_0 : faS tabA 129 0 = some 0 := by kernel_rfl
theorem st_faS_134_0 : faS tabA 134 0 = some 0 := by kernel_rfl
theorem st_faS_134_1 : faS tabA 134 1 = some 4 := by kernel_rfl
theorem st_faS_134_2 : faS tabA 134 2 = some 8 := by kernel_rfl
theorem st_faS_134_3 : faS tabA 134 3 = some 9 := by kernel_rfl
theorem st_faS_145_0 : faS tabA 145 0 = some 0 := by kernel_rfl
theorem st_faS_145_1 : faS tabA 145 1 = some 1 := by kernel_rfl
theorem st_faS_145_2 : faS tabA 145 2 = some 2 := by kernel_rfl
theorem st_faS_170_0 : faS tabA 170 0 = some 0 := by kernel_rfl
theorem st_faS_170_1 : faS tabA 170 1 = some 1 := by kernel_rfl
theorem st_faS_25_0 : faS tabA 25 0 = some 0 := by kernel_rfl
theorem st_faS_25_1 : faS tabA 25 1 = some 1 := by kernel_rfl
theorem st_faS_25_2 : faS tabA 25 2 = some 2 := by kernel_rfl
theorem st_faS_32_0 : faS tabA 32 0 = some 0 := by kernel_rfl
theorem st_faS_32_1 : faS tabA 32 1 = some 1 := by kernel_rfl
theorem st_faS_32_2 : faS tabA 32 2 = some 2 := by kernel_rfl
theorem st_faS_38_0 : faS tabA 38 0 = some 0 := by kernel_rfl
theorem st_faS_38_1 : faS tabA 38 1 = some 1 := by kernel_rfl
theorem st_faS_77_0 : faS tabA 77 0 = some 0 := by kernel_rfl
theorem st_faS_77_1 : faS tabA 77 1 = some 1 := by kernel_rfl
theorem st_faS_87_0 : faS tabA 87 0 = some 0 := by kernel_rfl
theorem st_faS_87_1 : faS tabA 87 1 = some 1 := by kernel_rfl
theorem st_faS_87_2 : faS tabA 87 2 = some 2 := by kernel_rfl
theorem st_faS_87_3 : faS tabA 87 3 = some 3 := by kernel_rfl
theorem st_inS_101 : inS tabA 101 = some 4 := by kernel_rfl
theorem st_inS_102 : inS tabA 102 = some 2 := by kernel_rfl
theorem st_inS_119 : inS tabA 119 = some 4 := by kernel_rfl
theorem st_inS_124 : inS tabA 124 = some 4 := by kernel_rfl
theorem st_inS_129 : inS tabA 129 = some 1 := by kernel_rfl
theorem st_inS_134 : inS tabA 134 = some 10 := by kernel_rfl
theorem st_inS_143 : inS tabA 143 = some 1 := by kernel_rfl
theorem st_inS_170 : inS tabA 170 = some 2 := by kernel_rfl
theorem st_inS_22 : inS tabA 22 = some 1 := by kernel_rfl
theorem st_inS_23 : inS tabA 23 = some 1 := by kernel_rfl
theorem st_inS_25 : inS tabA 25 = some 3 := by kernel_rfl
theorem st_inS_29 : inS tabA 29 = some 1 := by kernel_rfl
theorem st_inS_3 : inS tabA 3 = some 1 := by kernel_rfl
theorem st_inS_30 : inS tabA 30 = some 1 := by kernel_rfl
theorem st_inS_32 : inS tabA 32 = some 3 := by kernel_rfl
theorem st_inS_38 : inS tabA 38 = some 2 := by kernel_rfl
theorem st_inS_4 : inS tabA 4 = some 1 := by kernel_rfl
theorem st_inS_77 : inS tabA 77 = some 2 := by kernel_rfl
theorem st_inS_87 : inS tabA 87 = some 4 := by kernel_rfl
theorem st_ldS_101 : ldS tabA 101 = some 5 := by kernel_rfl
theorem st_ldS_102 : ldS tabA 102 = some 3 := by kernel_rfl
theorem st_ldS_119 : ldS tabA 119 = some 5 := by kernel_rfl
theorem st_ldS_122 : ldS tabA 122 = some 0 := by kernel_rfl
theorem st_ldS_124 : ldS tabA 124 = some 5 := by kernel_rfl
theorem st_ldS_127 : ldS tabA 127 = some 0 := by kernel_rfl
theorem st_ldS_129 : ldS tabA 129 = some 2 := by kernel_rfl
theorem st_ldS_134 : ldS tabA 134 = some 11 := by kernel_rfl
theorem st_ldS_143 : ldS tabA 143 = some 0 := by kernel_rfl
theorem st_ldS_170 : ldS tabA 170 = some 3 := by kernel_rfl
theorem st_ldS_22 : ldS tabA 22 = some 0 := by kernel_rfl
theorem st_ldS_23 : ldS tabA 23 = some 0 := by kernel_rfl
theorem st_ldS_25 : ldS tabA 25 = some 4 := by kernel_rfl
theorem st_ldS_29 : ldS tabA 29 = some 0 := by kernel_rfl
theorem st_ldS_3 : ldS tabA 3 = some 0 := by kernel_rfl
theorem st_ldS_30 : ldS tabA 30 = some 0 := by kernel_rfl
theorem st_ldS_32 : ldS tabA 32 = some 4 := by kernel_rfl
theorem st_ldS_38 : ldS tabA 38 = some 3 := by kernel_rfl
theorem st_ldS_4 : ldS tabA 4 = some 0 := by kernel_rfl
theorem st_ldS_5 : ldS tabA 5 = some 0 := by kernel_rfl
theorem st_ldS_63 : ldS tabA 63 = some 0 := by kernel_rfl
theorem st_ldS_77 : ldS tabA 77 = some 3 := by kernel_rfl
theorem st_ldS_87 : ldS tabA 87 = some 5 := by kernel_rfl
theorem fn_14 : tabA.fn 14 = some Try.f14 := by kernel_rfl
theorem fn_16 : tabA.fn 16 = some Try.f16 := by kernel_rfl
theorem fn_33 : tabA.fn 33 = some Try.f33 := by kernel_rfl
theorem fn_34 : tabA.fn 34 = some Try.f34 := by kernel_rfl
theorem fn_35 : tabA.fn 35 = some Try.f35 := by kernel_rfl
theorem fn_42 : tabA.fn 42 = some Try.f42 := by kernel_rfl
theorem fn_51 : tabA.fn 51 = some Try.f51 := by kernel_rfl
theorem fn_56 : tabA.fn 56 = some Try.f56 := by kernel_rfl
theorem fn_57 : tabA.fn 57 = some Try.f57 := by kernel_rfl
theorem fn_58 : tabA.fn 58 = some Try.f58 := by kernel_rfl
theorem fn_59 : tabA.fn 59 = some Try.f59 := by kernel_rfl
theorem fn_60 : tabA.fn 60 = some Try.f60 := by kernel_rfl
theorem fn_61 : tabA.fn 61 = some Try.f61 := by kernel_rfl
theorem fn_62 : tabA.fn 62 = some Try.f62 := by kernel_rfl
theorem fn_63 : tabA.fn 63 = some Try.f63 := by kernel_rfl
theorem fn_64 : tabA.fn 64 = some Try.f64 := by kernel_rfl
theorem fn_65 : tabA.fn 65 = some Try.f65 := by kernel_rfl
theorem fn_66 : tabA.fn 66 = some Try.f66 := by kernel_rfl
theorem fn_75 : tabA.fn 75 = some Try.f75 := by kernel_rfl
theorem fn_76 : tabA.fn 76 = some Try.f76 := by kernel_rfl
theorem fn_77 : tabA.fn 77 = some Try.f77 := by kernel_rfl
theorem fn_78 : tabA.fn 78 = some Try.f78 := by kernel_rfl
theorem fn_79 : tabA.fn 79 = some Try.f79 := by kernel_rfl
theorem fn_89 : tabA.fn 89 = some Try.f89 := by kernel_rfl
theorem fn_92 : tabA.fn 92 = some Try.f92 := by kernel_rfl
theorem fn_93 : tabA.fn 93 = some Try.f93 := by kernel_rfl
theorem fn_94 : tabA.fn 94 = some Try.f94 := by kernel_rfl
theorem fn_96 : tabA.fn 96 = some Try.f96 := by kernel_rfl
theorem fn_98 : tabA.fn 98 = some Try.f98 := by kernel_rfl
theorem fn_99 : tabA.fn 99 = some Try.f99 := by kernel_rfl
theorem fn_102 : tabA.fn 102 = some Try.f102 := by kernel_rfl
theorem fn_103 : tabA.fn 103 = some Try.f103 := by kernel_rfl
theorem fn_115 : tabA.fn 115 = some Try.f115 := by kernel_rfl
theorem fn_119 : tabA.fn 119 = some Try.f119 := by kernel_rfl
theorem fn_120 : tabA.fn 120 = some Try.f120 := by kernel_rfl
theorem fn_121 : tabA.fn 121 = some Try.f121 := by kernel_rfl
theorem fn_123 : tabA.fn 123 = some Try.f123 := by kernel_rfl
theorem fn_125 : tabA.fn 125 = some Try.f125 := by kernel_rfl
theorem fn_126 : tabA.fn 126 = some Try.f126 := by kernel_rfl
theorem fn_130 : tabA.fn 130 = some Try.f130 := by kernel_rfl
theorem fn_131 : tabA.fn 131 = some Try.f131 := by kernel_rfl
end Go.Am.K
set_option linter.defProp false
namespace Go.Am.K
open Go.Proofs
def ys0 := (And.intro (And.intro (And.intro (And.intro (And.intro @st_alS_101 (And.intro @st_alS_102 @st_alS_119)) (And.intro (And.intro @st_alS_124 @st_alS_129) (And.intro @st_alS_134 @st_alS_170))) (And.intro (And.intro @st_alS_25 (And.intro @st_alS_32 @st_alS_38)) (And.intro (And.intro @st_alS_77 @st_alS_87) (And.intro @st_bdS_101 @st_bdS_124)))) (And.intro (And.intro (And.intro @st_bdS_129 (And.intro @st_bdS_134 @st_bdS_145)) (And.intro (And.intro @st_bdS_170 @st_bdS_25) (And.intro @st_bdS_32 @st_bdS_38))) (And.intro (And.intro (And.intro @st_bdS_77 @st_bdS_87) (And.intro @st_brS_22_0 @st_brS_22_1)) (And.intro (And.intro @st_brS_23_0 @st_brS_23_1) (And.intro @st_brS_29_0 @st_brS_29_1))))) (And.intro (And.intro (And.intro (And.intro @st_brS_30_0 (And.intro @st_brS_30_1 @st_brS_49_0)) (And.intro (And.intro @st_brS_49_1 @st_brS_56_1) (And.intro @st_esS_138 @st_esS_22))) (And.intro (And.intro @st_esS_23 (And.intro @st_esS_29 @st_esS_30)) (And.intro (And.intro @st_esS_49 @st_esS_56) (And.intro @st_esS_63 @st_faS_101_0)))) (And.intro (And.intro (And.intro @st_faS_101_1 (And.intro @st_faS_101_2 @st_faS_101_3)) (And.intro (And.intro @st_faS_102_0 @st_faS_102_1) (And.intro @st_faS_124_0 @st_faS_124_1))) (And.intro (And.intro (And.intro @st_faS_129_0 @st_faS_134_0) (And.intro @st_faS_134_1 @st_faS_134_2)) (And.intro (And.intro @st_faS_134_3 @st_faS_145_0) (And.intro @st_faS_145_1 @st_faS_145_2))))))
def ys1 := (And.intro (And.intro (And.intro (And.intro (And.intro @st_faS_170_0 (And.intro @st_faS_170_1 @st_faS_25_0)) (And.intro (And.intro @st_faS_25_1 @st_faS_25_2) (And.intro @st_faS_32_0 @st_faS_32_1))) (And.intro (And.intro @st_faS_32_2 (And.intro @st_faS_38_0 @st_faS_38_1)) (And.intro (And.intro @st_faS_77_0 @st_faS_77_1) (And.intro @st_faS_87_0 @st_faS_87_1)))) (And.intro (And.intro (And.intro @st_faS_87_2 (And.intro @st_faS_87_3 @st_inS_101)) (And.intro (And.intro @st_inS_102 @st_inS_119) (And.intro @st_inS_124 @st_inS_129))) (And.intro (And.intro (And.intro @st_inS_134 @st_inS_143) (And.intro @st_inS_170 @st_inS_22)) (And.intro (And.intro @st_inS_23 @st_inS_25) (And.intro @st_inS_29 @st_inS_3))))) (And.intro (And.intro (And.intro (And.intro @st_inS_30 (And.intro @st_inS_32 @st_inS_38)) (And.intro (And.intro @st_inS_4 @st_inS_77) (And.intro @st_inS_87 @st_ldS_101))) (And.intro (And.intro @st_ldS_102 (And.intro @st_ldS_119 @st_ldS_122)) (And.intro (And.intro @st_ldS_124 @st_ldS_127) (And.intro @st_ldS_129 @st_ldS_134)))) (And.intro (And.intro (And.intro @st_ldS_143 (And.intro @st_ldS_170 @st_ldS_22)) (And.intro (And.intro @st_ldS_23 @st_ldS_25) (And.intro @st_ldS_29 @st_ldS_3))) (And.intro (And.intro (And.intro @st_ldS_30 @st_ldS_32) (And.intro @st_ldS_38 @st_ldS_4)) (And.intro (And.intro @st_ldS_5 @st_ldS_63) (And.intro @st_ldS_77 @st_ldS_87))))))
end Go.Am.K
namespace Go.Am.K
open Go.Proofs
variable {T : Tab} {P : Program} {N L : Nat} {H : AHeap} {Q : Bool → Value → AHeap → Prop}
end Go.Am.K
namespace Go.Am.K
variable {α : Type} {T : Tab} {P : Program} {N n L : Nat} {r : Option Nat} {e : VT} {H : AHeap} {ds : List Nat} {ex : Exec} {t : Operand → Option Value} {Q : Bool → Value → AHeap → Prop}
end Go.Am.K
namespace Go.Am.K
open Go.Proofs
variable {T : Tab} {P : Program} {N L : Nat} {H : AHeap}
section
variable {ex : Exec} {t : Operand → Option Value} {Q : Bool → Value → AHeap → Prop}
end
section
variable {ty : TypeId} {x y : Operand} {a b : Int}
end
end Go.Am.K
namespace Go.Am.K
open Go.Proofs
variable {T : Tab} {P : Program} {N L : Nat} {H H' : AHeap} {Q : Bool → Value → AHeap → Prop} {α : Type}
variable {E : Enc α} {l l' : List α} {x : α} {i : Nat}
end Go.Am.K
