import Derived.Test.YtbofjfjopeaefaaGreatT20
import Derived.Test.YtbofjfjopeaefaaGreatT21
import Derived.Test.YtbofjfjopeaefaaGreatT19
import Derived.Test.YtbofjfjopeaefaaGreatT18
import Derived.Test.YtbofjfjopeaefaaGreatT23
import Derived.Test.YtbofjfjopeaefaaGreatT27
import Derived.Test.YtbofjfjopeaefaaGreatT28
import Derived.Test.YtbofjfjopeaefaaGreatT29
import Derived.Test.YtbofjfjopeaefaaGreatT11
import Derived.Test.YtbofjfjopeaefaaGreatT12
import Derived.Test.YtbofjfjopeaefaaGreatT14
set_option linter.unusedSimpArgs false
set_option linter.unusedVariables false
namespace Go.Am
open Go.Proofs
set_option maxRecDepth 100000
def awakeE : Quiet := ⟨10, [], 0, [], .bool true⟩
theorem awake_part : awakeE.Ok Tryz.prog := quiet_of (T := tabP.knows4 [P10.e, P11.e, P37.e, P43.e] [] [P0.e, P1.e, P2.e, P3.e, P4.e]) (Tab.knows4_fits tabP_fits ⟨P10.ok, P11.ok, P37.ok, P43.ok, trivial⟩ trivial ⟨P0.ok, P1.ok, P2.ok, P3.ok, P4.ok, trivial⟩) (n := 400) (by kernel_rfl)
end Go.Am
namespace Go.Am
open Go.Proofs
variable {T : Tab} {P : Program}
theorem SCall.any {f : FuncId} {args : List Value} {H H' : AHeap} {v : Value} {m : Nat} (h : SCall P f args H v H' m) (ha : allGrV args = true) (hv : gr v = true) (H₀ : AHeap) : SCall P f args H₀ v H₀ H₀.size := by
 intro F n σ w hF hR hargs
 rw [allGrV_ren ha]
 refine (h.anywhere ha hv F n hF w).mono ?_
 rintro e w' ⟨rfl, x⟩
 refine ⟨σ, by rw [(gr_ok σ hv).2], (gr_ok σ hv).1, ⟨fun k b s hp => ⟨(hR.lt k b s hp).1, Nat.lt_of_lt_of_le (hR.lt k b s hp).2 x.size⟩, fun k b s hp => (hR.holds k b s hp).agree (Agree.refl σ) (x.same b (hR.lt k b s hp).2), hR.excl⟩, ?_⟩
 exact ⟨fun _ _ => ⟨rfl, rfl⟩, Nat.le_refl _, x.size, x.os, x.tape, x.output, fun _ _ _ => rfl, fun b hb _ => x.same b hb, fun k b s hk hp => absurd (hR.lt k b s hp).1 (by omega)⟩
def Tab.sure (T : Tab) (f : FuncId) (plan : List Oper → (Nat → Value) → AHeap → Option (List (Nat × ABlk))) : Tab := ⟨T.und, T.inf, T.fn, fun g args H => match Nat.beq g f, args with
 | true, [] => some (true, .bool true, H, H.size)
 | _, _ => none, plan⟩
theorem Tab.sure_fits {plan : List Oper → (Nat → Value) → AHeap → Option (List (Nat × ABlk))} (hT : T.Fits P) {e : Quiet} (he : e.Ok P) (ha : e.args = []) (hv : e.v = .bool true) : (T.sure e.f plan).Fits P where
 und := hT.und
 inf := hT.inf
 fn := hT.fn
 mixed := hT.mixed
 memo f args H b v H' m h := by
  simp only [Tab.sure] at h
  split at h
  ·rename_i hf
   cases h
   have : f = e.f := Nat.eq_of_beq_eq_true hf
   subst this
   have h2 := he.2
   rw [ha, hv] at h2
   exact ⟨he.1, h2.any rfl rfl H, fun _ => ⟨rfl, rfl⟩⟩
  ·cases h
end Go.Am
namespace Go.Am.K
open Go.Proofs
def planK (ops : List Oper) (_ : Nat → Value) (_ : AHeap) : Option (List (Nat × ABlk)) :=
 if ops.map (·.dst) = [some 4, some 5, some 6, some 7, some 8, some 9, some 10, some 11, some 12, some 13, some 14, some 15, some 16, some 17, some 18, some 19, some 20, some 21, some 22, some 23, some 24, some 25, none] then some []
 else if ops.map (·.dst) = [some 109, some 110, some 111, some 112, some 113, some 114, some 115, some 116, some 117, some 118, some 119, some 120, some 121, some 122, some 123, some 124, some 125, some 126, some 127, some 128] then some []
 else if ops.map (·.dst) = [some 73, some 74, some 75, some 76, some 77, some 12, some 78, none] then some []
 else if ops.map (·.dst) = [some 20, some 21, some 22, some 23, some 24, some 25, some 26, some 27, some 28, some 29, some 30, some 31, some 32, some 33, some 34, some 35, some 36, some 37, some 38, some 39, some 40, some 41, some 42, some 43, some 44, some 45, some 46, some 9] then some []
 else if ops.map (·.dst) = [some 3, some 4, some 5, some 6, some 7, some 8, some 9, none, some 10, none] then some []
 else if ops.map (·.dst) = [some 7, some 8, some 9, some 10, some 11, some 12, some 13, none, some 14, none] then some []
 else if ops.map (·.dst) = [some 7, some 8, some 9, some 10, some 11, some 12, some 13, some 14, some 15, some 16, some 17, some 18, some 19, some 20, some 21, some 22, none] then some []
 else if ops.map (·.dst) = [some 20, some 21, some 22, some 23, some 9, some 10, none, none] then some [(4, .rw [.slice none 0 0, .slice none 0 0, .int .i64 0] 25 false []), (5, .rw [.slice none 0 0, .slice none 0 0, .int .i64 0] 34 false [])]
 else if ops.map (·.dst) = [some 65, some 66, some 67, some 68, some 69, some 70, some 71, some 72, some 73, some 74] then some []
 else if ops.map (·.dst) = [some 45, some 46, some 47, some 48, some 49, some 50, some 51, some 52, some 53, some 54, some 55, some 12, none] then some [(0, .rw [] 111 false []), (4, .rw [] 112 false []), (11, .rw [.slice none 0 0, .slice none 0 0, .int .i64 0] 34 false [])]
 else if ops.map (·.dst) = [some 28, some 29, some 30, some 31, some 32, some 33, some 9, some 11, none, some 10, none] then some [(6, .rw [.slice none 0 0, .slice none 0 0, .int .i64 0] 25 false []), (7, .rw [.slice none 0 0, .slice none 0 0, .int .i64 0] 34 false [])]
 else if ops.map (·.dst) = [some 18, some 19, some 20, some 21, some 22, some 23, some 24, some 25, some 7, none] then some [(8, .rw [.int .i64 0, .int .i64 0, .int .i64 0, .int .i64 0] 120 false [])]
 else if ops.map (·.dst) = [some 89, some 90, some 91, some 92, some 93, some 94, some 95, some 96, some 97, some 98, some 99, some 100, some 101, some 102, none] then some []
 else if ops.map (·.dst) = [some 97, some 98, some 99, some 100, some 101, some 102, some 103, some 104, none] then some []
 else if ops.map (·.dst) = [some 47, some 48, some 49, some 50, some 51, some 52, some 9, some 11, none, some 10, none] then some [(6, .rw [.slice none 0 0, .slice none 0 0, .int .i64 0] 25 false []), (7, .rw [.slice none 0 0, .slice none 0 0, .int .i64 0] 34 false [])]
 else if ops.map (·.dst) = [some 26, some 27, some 28, some 29, some 30, some 31, some 9, some 11, none, some 10, none] then some [(6, .rw [.slice none 0 0, .slice none 0 0, .int .i64 0] 25 false []), (7, .rw [.slice none 0 0, .slice none 0 0, .int .i64 0] 34 false [])]
 else if ops.map (·.dst) = [some 38, some 39, some 40, some 41, some 42, some 43, some 44, some 45, some 7, some 10, none, some 8, some 9, none] then some [(8, .rw [.slice none 0 0, .slice none 0 0, .int .i64 0] 25 false []), (9, .rw [.slice none 0 0, .slice none 0 0, .int .i64 0] 34 false [])]
 else none
noncomputable def tabA : Tab := Tab.sure tab awakeE.f planK
theorem tabA_fits : tabA.Fits Tryz.prog := Tab.sure_fits tab_fits awake_part rfl rfl
theorem tabA_fr : tabA.MemoFr := by
 intro f args H b v H' m h
 simp only [tabA,Tab.sure] at h
 split at h
 ·cases h; exact Fra.refl _ _
 ·cases h
theorem planK_of {ops : List Oper} {env : Nat → Value} {H : AHeap} {r : Option (List (Nat × ABlk))} (hr : planK ops env H = r) : tabA.plan ops env H = r := hr
theorem awake_known {ex : Exec} {H : AHeap} : acall tabA ex 10 [] H = some (true, .bool true, H, H.size) := rfl
end Go.Am.K
namespace Go.Am.K
open Go.Proofs
theorem st_alS_111 : alS tabA 111 = some [(.int IntKind.i64 0), (.int IntKind.i64 0), (.int IntKind.i64 0), (.int IntKind.i64 0)] := by kernel_rfl
theorem st_alS_112 : alS tabA 112 = some [(.int IntKind.i64 0), (.int IntKind.i64 0)] := by kernel_rfl
theorem st_alS_120 : alS tabA 120 = some [(.int IntKind.i64 0), (.int IntKind.i64 0), (.int IntKind.i64 0), (.int IntKind.i64 0)] := by kernel_rfl
theorem st_alS_116 : alS tabA 116 = some [(.slice none 0 0), (.slice none 0 0), (.int IntKind.i64 0), (.map none)] := by kernel_rfl
theorem st_alS_126 : alS tabA 126 = some [.nilFunc] := by kernel_rfl
theorem st_alS_194 : alS tabA 194 = some [(.slice none 0 0), (.slice none 0 0), (.int IntKind.i64 0), (.map none), (.int IntKind.i64 0), (.int IntKind.i64 0), (.int IntKind.i64 0), (.int IntKind.i64 0), (.int IntKind.i64 0), (.int IntKind.i64 0)] := by kernel_rfl
theorem st_alS_202 : alS tabA 202 = some [(.int IntKind.i64 0), (.int IntKind.i64 0)] := by kernel_rfl
theorem st_alS_25 : alS tabA 25 = some [(.slice none 0 0), (.slice none 0 0), (.int IntKind.i64 0)] := by kernel_rfl
theorem st_alS_34 : alS tabA 34 = some [(.slice none 0 0), (.slice none 0 0), (.int IntKind.i64 0)] := by kernel_rfl
theorem st_alS_37 : alS tabA 37 = some [(.int IntKind.i64 0), (.int IntKind.i64 0)] := by kernel_rfl
theorem st_alS_78 : alS tabA 78 = some [(.int IntKind.i64 0), (.int IntKind.i64 0)] := by kernel_rfl
theorem st_alS_76 : alS tabA 76 = some [(.int IntKind.i64 0), (.int IntKind.i64 0), (.int IntKind.i64 0), (.int IntKind.i64 0)] := by kernel_rfl
theorem st_bdS_111 : bdS tabA 111 = some ([(.int IntKind.i64 0), (.int IntKind.i64 0), (.int IntKind.i64 0), (.int IntKind.i64 0)], [(0, 1), (1, 1), (2, 1), (3, 1)]) := by kernel_rfl
theorem st_bdS_116 : bdS tabA 116 = some ([(.slice none 0 0), (.slice none 0 0), (.int IntKind.i64 0), (.map none)], [(0, 3), (3, 1)]) := by kernel_rfl
theorem st_bdS_126 : bdS tabA 126 = some ([.nilFunc], [(0, 1)]) := by kernel_rfl
theorem st_bdS_194 : bdS tabA 194 = some ([(.slice none 0 0), (.slice none 0 0), (.int IntKind.i64 0), (.map none), (.int IntKind.i64 0), (.int IntKind.i64 0), (.int IntKind.i64 0), (.int IntKind.i64 0), (.int IntKind.i64 0), (.int IntKind.i64 0)], [(0, 4), (4, 4), (8, 1), (9, 1)]) := by kernel_rfl
theorem st_bdS_181 : bdS tabA 181 = some ([(.slice none 0 0), (.int IntKind.i64 0), (.int IntKind.u64 0)], [(0, 1), (1, 1), (2, 1)]) := by kernel_rfl
theorem st_bdS_202 : bdS tabA 202 = some ([(.int IntKind.i64 0), (.int IntKind.i64 0)], [(0, 1), (1, 1)]) := by kernel_rfl
theorem st_bdS_25 : bdS tabA 25 = some ([(.slice none 0 0), (.slice none 0 0), (.int IntKind.i64 0)], [(0, 1), (1, 1), (2, 1)]) := by kernel_rfl
theorem st_bdS_34 : bdS tabA 34 = some ([(.slice none 0 0), (.slice none 0 0), (.int IntKind.i64 0)], [(0, 1), (1, 1), (2, 1)]) := by kernel_rfl
theorem st_bdS_37 : bdS tabA 37 = some ([(.int IntKind.i64 0), (.int IntKind.i64 0)], [(0, 1), (1, 1)]) := by kernel_rfl
theorem st_bdS_78 : bdS tabA 78 = some ([(.int IntKind.i64 0), (.int IntKind.i64 0)], [(0, 1), (1, 1)]) := by kernel_rfl
theorem st_bdS_76 : bdS tabA 76 = some ([(.int IntKind.i64 0), (.int IntKind.i64 0), (.int IntKind.i64 0), (.int IntKind.i64 0)], [(0, 1), (1, 1), (2, 1), (3, 1)]) := by kernel_rfl
theorem st_brS_22_0 : brS tabA 22 0 = some (4, 76, []) := by kernel_rfl
theorem st_brS_22_1 : brS tabA 22 1 = some (4, 76, [(.int IntKind.i64 0), (.int IntKind.i64 0), (.int IntKind.i64 0), (.int IntKind.i64 0)]) := by kernel_rfl
theorem st_brS_23_0 : brS tabA 23 0 = some (2, 78, []) := by kernel_rfl
theorem st_brS_23_1 : brS tabA 23 1 = some (2, 78, [(.int IntKind.i64 0), (.int IntKind.i64 0)]) := by kernel_rfl
theorem st_brS_31_0 : brS tabA 31 0 = some (4, 111, []) := by kernel_rfl
theorem st_brS_31_1 : brS tabA 31 1 = some (4, 111, [(.int IntKind.i64 0), (.int IntKind.i64 0), (.int IntKind.i64 0), (.int IntKind.i64 0)]) := by kernel_rfl
theorem st_brS_32_0 : brS tabA 32 0 = some (2, 112, []) := by kernel_rfl
theorem st_brS_32_1 : brS tabA 32 1 = some (2, 112, [(.int IntKind.i64 0), (.int IntKind.i64 0)]) := by kernel_rfl
theorem st_brS_26_0 : brS tabA 26 0 = some (1, 3, []) := by kernel_rfl
theorem st_brS_26_1 : brS tabA 26 1 = some (1, 3, [(.int IntKind.i64 0)]) := by kernel_rfl
theorem st_brS_105_1 : brS tabA 105 1 = some (2, 37, [(.int IntKind.i64 0), (.int IntKind.i64 0)]) := by kernel_rfl
theorem st_esS_198 : esS tabA 198 = some 1 := by kernel_rfl
theorem st_esS_22 : esS tabA 22 = some 4 := by kernel_rfl
theorem st_esS_23 : esS tabA 23 = some 2 := by kernel_rfl
theorem st_esS_31 : esS tabA 31 = some 4 := by kernel_rfl
theorem st_esS_32 : esS tabA 32 = some 2 := by kernel_rfl
theorem st_esS_26 : esS tabA 26 = some 1 := by kernel_rfl
theorem st_esS_105 : esS tabA 105 = some 2 := by kernel_rfl
theorem st_esS_83 : esS tabA 83 = some 1 := by kernel_rfl
theorem st_faS_111_0 : faS tabA 111 0 = some 0 := by kernel_rfl
theorem st_faS_111_1 : faS tabA 111 1 = some 1 := by kernel_rfl
theorem st_faS_111_2 : faS tabA 111 2 = some 2 := by kernel_rfl
theorem st_faS_111_3 : faS tabA 111 3 = some 3 := by kernel_rfl
theorem st_faS_112_0 : faS tabA 112 0 = some 0 := by kernel_rfl
theorem st_faS_112_1 : faS tabA 112 1 = some 1 := by kernel_rfl
theorem st_faS_116_0 : faS tabA 116 0 = some 0 := by kernel_rfl
theorem st_faS_116_1 : faS tabA 116 1 = some 3 := by kernel_rfl
theorem st_faS_126_0 : faS tabA 126 0 = some 0 := by kernel_rfl
theorem st_faS_194_0 : faS tabA 194 0 = some 0 := by kernel_rfl
theorem st_faS_194_1 : faS tabA 194 1 = some 4 := by kernel_rfl
theorem st_faS_194_2 : faS tabA 194 2 = some 8 := by kernel_rfl
theorem st_faS_194_3 : faS tabA 194 3 = some 9 := by kernel_rfl
theorem st_faS_181_0 : faS tabA 181 0 = some 0 := by kernel_rfl
theorem st_faS_181_1 : faS tabA 181 1 = some 1 := by kernel_rfl
theorem st_faS_181_2 : faS tabA 181 2 = some 2 := by kernel_rfl
theorem st_faS_202_0 : faS tabA 202 0 = some 0 := by kernel_rfl
theorem st_faS_202_1 : faS tabA 202 1 = some 1 := by kernel_rfl
theorem st_faS_25_0 : faS tabA 25 0 = some 0 := by kernel_rfl
theorem st_faS_25_1 : faS tabA 25 1 = some 1 := by kernel_rfl
theorem st_faS_25_2 : faS tabA 25 2 = some 2 := by kernel_rfl
theorem st_faS_34_0 : faS tabA 34 0 = some 0 := by kernel_rfl
theorem st_faS_34_1 : faS tabA 34 1 = some 1 := by kernel_rfl
theorem st_faS_34_2 : faS tabA 34 2 = some 2 := by kernel_rfl
theorem st_faS_37_0 : faS tabA 37 0 = some 0 := by kernel_rfl
theorem st_faS_37_1 : faS tabA 37 1 = some 1 := by kernel_rfl
theorem st_faS_78_0 : faS tabA 78 0 = some 0 := by kernel_rfl
theorem st_faS_78_1 : faS tabA 78 1 = some 1 := by kernel_rfl
theorem st_faS_76_0 : faS tabA 76 0 = some 0 := by kernel_rfl
theorem st_faS_76_1 : faS tabA 76 1 = some 1 := by kernel_rfl
theorem st_faS_76_2 : faS tabA 76 2 = some 2 := by kernel_rfl
theorem st_faS_76_3 : faS tabA 76 3 = some 3 := by kernel_rfl
theorem st_inS_111 : inS tabA 111 = some 4 := by kernel_rfl
theorem st_inS_112 : inS tabA 112 = some 2 := by kernel_rfl
theorem st_inS_120 : inS tabA 120 = some 4 := by kernel_rfl
theorem st_inS_116 : inS tabA 116 = some 4 := by kernel_rfl
theorem st_inS_126 : inS tabA 126 = some 1 := by kernel_rfl
theorem st_inS_194 : inS tabA 194 = some 10 := by kernel_rfl
theorem st_inS_179 : inS tabA 179 = some 1 := by kernel_rfl
theorem st_inS_202 : inS tabA 202 = some 2 := by kernel_rfl
theorem st_inS_22 : inS tabA 22 = some 1 := by kernel_rfl
theorem st_inS_23 : inS tabA 23 = some 1 := by kernel_rfl
theorem st_inS_25 : inS tabA 25 = some 3 := by kernel_rfl
theorem st_inS_31 : inS tabA 31 = some 1 := by kernel_rfl
theorem st_inS_3 : inS tabA 3 = some 1 := by kernel_rfl
theorem st_inS_32 : inS tabA 32 = some 1 := by kernel_rfl
theorem st_inS_34 : inS tabA 34 = some 3 := by kernel_rfl
theorem st_inS_37 : inS tabA 37 = some 2 := by kernel_rfl
theorem st_inS_4 : inS tabA 4 = some 1 := by kernel_rfl
theorem st_inS_78 : inS tabA 78 = some 2 := by kernel_rfl
theorem st_inS_76 : inS tabA 76 = some 4 := by kernel_rfl
theorem st_ldS_111 : ldS tabA 111 = some 5 := by kernel_rfl
theorem st_ldS_112 : ldS tabA 112 = some 3 := by kernel_rfl
theorem st_ldS_120 : ldS tabA 120 = some 5 := by kernel_rfl
theorem st_ldS_114 : ldS tabA 114 = some 0 := by kernel_rfl
theorem st_ldS_116 : ldS tabA 116 = some 5 := by kernel_rfl
theorem st_ldS_124 : ldS tabA 124 = some 0 := by kernel_rfl
theorem st_ldS_126 : ldS tabA 126 = some 2 := by kernel_rfl
theorem st_ldS_194 : ldS tabA 194 = some 11 := by kernel_rfl
theorem st_ldS_179 : ldS tabA 179 = some 0 := by kernel_rfl
theorem st_ldS_202 : ldS tabA 202 = some 3 := by kernel_rfl
theorem st_ldS_22 : ldS tabA 22 = some 0 := by kernel_rfl
theorem st_ldS_23 : ldS tabA 23 = some 0 := by kernel_rfl
theorem st_ldS_25 : ldS tabA 25 = some 4 := by kernel_rfl
theorem st_ldS_31 : ldS tabA 31 = some 0 := by kernel_rfl
theorem st_ldS_3 : ldS tabA 3 = some 0 := by kernel_rfl
theorem st_ldS_32 : ldS tabA 32 = some 0 := by kernel_rfl
theorem st_ldS_34 : ldS tabA 34 = some 4 := by kernel_rfl
theorem st_ldS_37 : ldS tabA 37 = some 3 := by kernel_rfl
theorem st_ldS_4 : ldS tabA 4 = some 0 := by kernel_rfl
theorem st_ldS_5 : ldS tabA 5 = some 0 := by kernel_rfl
theorem st_ldS_83 : ldS tabA 83 = some 0 := by kernel_rfl
theorem st_ldS_78 : ldS tabA 78 = some 3 := by kernel_rfl
theorem st_ldS_76 : ldS tabA 76 = some 5 := by kernel_rfl
theorem fn_9 : tabA.fn 9 = some Tryz.f9 := by kernel_rfl
theorem fn_11 : tabA.fn 11 = some Tryz.f11 := by kernel_rfl
theorem fn_13 : tabA.fn 13 = some Tryz.f13 := by kernel_rfl
theorem fn_45 : tabA.fn 45 = some Tryz.f45 := by kernel_rfl
theorem fn_84 : tabA.fn 84 = some Tryz.f84 := by kernel_rfl
theorem fn_23 : tabA.fn 23 = some Tryz.f23 := by kernel_rfl
theorem fn_12 : tabA.fn 12 = some Tryz.f12 := by kernel_rfl
theorem fn_24 : tabA.fn 24 = some Tryz.f24 := by kernel_rfl
theorem fn_14 : tabA.fn 14 = some Tryz.f14 := by kernel_rfl
theorem fn_19 : tabA.fn 19 = some Tryz.f19 := by kernel_rfl
theorem fn_21 : tabA.fn 21 = some Tryz.f21 := by kernel_rfl
theorem fn_16 : tabA.fn 16 = some Tryz.f16 := by kernel_rfl
theorem fn_18 : tabA.fn 18 = some Tryz.f18 := by kernel_rfl
theorem fn_60 : tabA.fn 60 = some Tryz.f60 := by kernel_rfl
theorem fn_61 : tabA.fn 61 = some Tryz.f61 := by kernel_rfl
theorem fn_113 : tabA.fn 113 = some Tryz.f113 := by kernel_rfl
theorem fn_114 : tabA.fn 114 = some Tryz.f114 := by kernel_rfl
theorem fn_115 : tabA.fn 115 = some Tryz.f115 := by kernel_rfl
theorem fn_116 : tabA.fn 116 = some Tryz.f116 := by kernel_rfl
theorem fn_117 : tabA.fn 117 = some Tryz.f117 := by kernel_rfl
theorem fn_118 : tabA.fn 118 = some Tryz.f118 := by kernel_rfl
theorem fn_119 : tabA.fn 119 = some Tryz.f119 := by kernel_rfl
theorem fn_120 : tabA.fn 120 = some Tryz.f120 := by kernel_rfl
theorem fn_69 : tabA.fn 69 = some Tryz.f69 := by kernel_rfl
theorem fn_85 : tabA.fn 85 = some Tryz.f85 := by kernel_rfl
theorem fn_71 : tabA.fn 71 = some Tryz.f71 := by kernel_rfl
theorem fn_79 : tabA.fn 79 = some Tryz.f79 := by kernel_rfl
theorem fn_80 : tabA.fn 80 = some Tryz.f80 := by kernel_rfl
theorem fn_62 : tabA.fn 62 = some Tryz.f62 := by kernel_rfl
theorem fn_65 : tabA.fn 65 = some Tryz.f65 := by kernel_rfl
theorem fn_132 : tabA.fn 132 = some Tryz.f132 := by kernel_rfl
theorem fn_63 : tabA.fn 63 = some Tryz.f63 := by kernel_rfl
theorem fn_133 : tabA.fn 133 = some Tryz.f133 := by kernel_rfl
theorem fn_68 : tabA.fn 68 = some Tryz.f68 := by kernel_rfl
theorem fn_66 : tabA.fn 66 = some Tryz.f66 := by kernel_rfl
theorem fn_89 : tabA.fn 89 = some Tryz.f89 := by kernel_rfl
theorem fn_67 : tabA.fn 67 = some Tryz.f67 := by kernel_rfl
theorem fn_138 : tabA.fn 138 = some Tryz.f138 := by kernel_rfl
theorem fn_139 : tabA.fn 139 = some Tryz.f139 := by kernel_rfl
theorem fn_64 : tabA.fn 64 = some Tryz.f64 := by kernel_rfl
theorem fn_74 : tabA.fn 74 = some Tryz.f74 := by kernel_rfl
theorem fn_75 : tabA.fn 75 = some Tryz.f75 := by kernel_rfl
theorem fn_77 : tabA.fn 77 = some Tryz.f77 := by kernel_rfl
theorem fn_70 : tabA.fn 70 = some Tryz.f70 := by kernel_rfl
theorem fn_73 : tabA.fn 73 = some Tryz.f73 := by kernel_rfl
theorem fn_92 : tabA.fn 92 = some Tryz.f92 := by kernel_rfl
theorem fn_96 : tabA.fn 96 = some Tryz.f96 := by kernel_rfl
theorem fn_140 : tabA.fn 140 = some Tryz.f140 := by kernel_rfl
theorem fn_72 : tabA.fn 72 = some Tryz.f72 := by kernel_rfl
theorem fn_137 : tabA.fn 137 = some Tryz.f137 := by kernel_rfl
theorem fn_141 : tabA.fn 141 = some Tryz.f141 := by kernel_rfl
theorem fn_142 : tabA.fn 142 = some Tryz.f142 := by kernel_rfl
theorem fn_143 : tabA.fn 143 = some Tryz.f143 := by kernel_rfl
theorem fn_169 : tabA.fn 169 = some Tryz.f169 := by kernel_rfl
end Go.Am.K
set_option linter.defProp false
namespace Go.Am.K
open Go.Proofs
def ys0 := (And.intro (And.intro (And.intro (And.intro (And.intro @st_alS_111 (And.intro @st_alS_112 @st_alS_120)) (And.intro (And.intro @st_alS_116 @st_alS_126) (And.intro @st_alS_194 @st_alS_202))) (And.intro (And.intro @st_alS_25 (And.intro @st_alS_34 @st_alS_37)) (And.intro (And.intro @st_alS_78 @st_alS_76) (And.intro @st_bdS_111 @st_bdS_116)))) (And.intro (And.intro (And.intro @st_bdS_126 (And.intro @st_bdS_194 @st_bdS_181)) (And.intro (And.intro @st_bdS_202 @st_bdS_25) (And.intro @st_bdS_34 @st_bdS_37))) (And.intro (And.intro (And.intro @st_bdS_78 @st_bdS_76) (And.intro @st_brS_22_0 @st_brS_22_1)) (And.intro (And.intro @st_brS_23_0 @st_brS_23_1) (And.intro @st_brS_31_0 @st_brS_31_1))))) (And.intro (And.intro (And.intro (And.intro @st_brS_32_0 (And.intro @st_brS_32_1 @st_brS_26_0)) (And.intro (And.intro @st_brS_26_1 @st_brS_105_1) (And.intro @st_esS_198 @st_esS_22))) (And.intro (And.intro @st_esS_23 (And.intro @st_esS_31 @st_esS_32)) (And.intro (And.intro @st_esS_26 @st_esS_105) (And.intro @st_esS_83 @st_faS_111_0)))) (And.intro (And.intro (And.intro @st_faS_111_1 (And.intro @st_faS_111_2 @st_faS_111_3)) (And.intro (And.intro @st_faS_112_0 @st_faS_112_1) (And.intro @st_faS_116_0 @st_faS_116_1))) (And.intro (And.intro (And.intro @st_faS_126_0 @st_faS_194_0) (And.intro @st_faS_194_1 @st_faS_194_2)) (And.intro (And.intro @st_faS_194_3 @st_faS_181_0) (And.intro @st_faS_181_1 @st_faS_181_2))))))
def ys1 := (And.intro (And.intro (And.intro (And.intro (And.intro @st_faS_202_0 (And.intro @st_faS_202_1 @st_faS_25_0)) (And.intro (And.intro @st_faS_25_1 @st_faS_25_2) (And.intro @st_faS_34_0 @st_faS_34_1))) (And.intro (And.intro @st_faS_34_2 (And.intro @st_faS_37_0 @st_faS_37_1)) (And.intro (And.intro @st_faS_78_0 @st_faS_78_1) (And.intro @st_faS_76_0 @st_faS_76_1)))) (And.intro (And.intro (And.intro @st_faS_76_2 (And.intro @st_faS_76_3 @st_inS_111)) (And.intro (And.intro @st_inS_112 @st_inS_120) (And.intro @st_inS_116 @st_inS_126))) (And.intro (And.intro (And.intro @st_inS_194 @st_inS_179) (And.intro @st_inS_202 @st_inS_22)) (And.intro (And.intro @st_inS_23 @st_inS_25) (And.intro @st_inS_31 @st_inS_3))))) (And.intro (And.intro (And.intro (And.intro @st_inS_32 (And.intro @st_inS_34 @st_inS_37)) (And.intro (And.intro @st_inS_4 @st_inS_78) (And.intro @st_inS_76 @st_ldS_111))) (And.intro (And.intro @st_ldS_112 (And.intro @st_ldS_120 @st_ldS_114)) (And.intro (And.intro @st_ldS_116 @st_ldS_124) (And.intro @st_ldS_126 @st_ldS_194)))) (And.intro (And.intro (And.intro @st_ldS_179 (And.intro @st_ldS_202 @st_ldS_22)) (And.intro (And.intro @st_ldS_23 @st_ldS_25) (And.intro @st_ldS_31 @st_ldS_3))) (And.intro (And.intro (And.intro @st_ldS_32 @st_ldS_34) (And.intro @st_ldS_37 @st_ldS_4)) (And.intro (And.intro @st_ldS_5 @st_ldS_83) (And.intro @st_ldS_78 @st_ldS_76))))))
end Go.Am.K
namespace Go.Am.K
open Go.Proofs
variable {T : Tab} {P : Program} {N L : Nat} {H : AHeap} {Q : Bool → Value → AHeap → Prop}
end Go.Am.K
namespace Go.Am.K
variable {α : Type} {T : Tab} {P : Program} {N n L : Nat} {r : Option Nat} {e : VT} {H : AHeap} {ds : List Nat} {ex : Exec} {t : Operand → Option Value} {Q : Bool → Value → AHeap → Prop}
end Go.Am.K
namespace Go.Am.K
open Go.Proofs
variable {T : Tab} {P : Program} {N L : Nat} {H : AHeap}
section
variable {ex : Exec} {t : Operand → Option Value} {Q : Bool → Value → AHeap → Prop}
end
section
variable {ty : TypeId} {x y : Operand} {a b : Int}
end
end Go.Am.K
namespace Go.Am.K
open Go.Proofs
variable {T : Tab} {P : Program} {N L : Nat} {H H' : AHeap} {Q : Bool → Value → AHeap → Prop} {α : Type}
variable {E : Enc α} {l l' : List α} {x : α} {i : Nat}
end Go.Am.K
