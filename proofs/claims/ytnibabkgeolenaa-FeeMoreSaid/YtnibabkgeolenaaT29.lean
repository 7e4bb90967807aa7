/- The examples of the chapter come out, from the heap of nothing. -/
import Derived.Test.YtnibabkgeolenaaT27
import Derived.Test.YtnibabkgeolenaaT28
import Derived.Test.YtnibabkgeolenaaT16
import Derived.Test.YtnibabkgeolenaaT19
import Derived.Test.YtnibabkgeolenaaT18
import Derived.Test.YtnibabkgeolenaaT15
import Derived.Test.YtnibabkgeolenaaT17
import Derived.Test.YtnibabkgeolenaaT24
import Derived.Test.YtnibabkgeolenaaT21
import Derived.Test.YtnibabkgeolenaaT23
import Derived.Test.YtnibabkgeolenaaT22
import Derived.Test.YtnibabkgeolenaaT20
import Derived.Test.YtnibabkgeolenaaT25
import Derived.Test.YtnibabkgeolenaaT26
import Derived.Test.YtnibabkgeolenaaT11
import Derived.Test.YtnibabkgeolenaaT12
set_option linter.unusedSimpArgs false
set_option linter.unusedVariables false
namespace Go.Am
open Go.Proofs
set_option maxRecDepth 100000
def awakeE : Quiet := ⟨12, [], 0, [], .bool true⟩
theorem awake_part : awakeE.Ok Try.prog := quiet_of (T := tab.knows5 [P0.e, P1.e, P2.e, P3.e, P4.e, P5.e, P6.e, P7.e, P8.e, P9.e, P10.e, P11.e, P12.e, P13.e] [P14.e, P15.e, P16.e, P17.e]) (Tab.knows5_fits tab_fits ⟨P0.ok, P1.ok, P2.ok, P3.ok, P4.ok, P5.ok, P6.ok, P7.ok, P8.ok, P9.ok, P10.ok, P11.ok, P12.ok, P13.ok, trivial⟩ ⟨P14.ok, P15.ok, P16.ok, P17.ok, trivial⟩) (n := 1000) (by kernel_rfl)
end Go.Am
/- The tables, with awake known. -/
namespace Go.Am
open Go.Proofs
variable {T : Tab} {P : Program}
theorem SCall.any {f : FuncId} {args : List Value} {H H' : AHeap} {v : Value} {m : Nat} (h : SCall P f args H v H' m) (ha : allGrV args = true) (hv : gr v = true) (H₀ : AHeap) : SCall P f args H₀ v H₀ H₀.size := by
  intro F n σ w hF hR hargs
  rw [allGrV_ren ha]
  refine (h.anywhere ha hv F n hF w).mono ?_
  rintro e w' ⟨rfl, x⟩
  refine ⟨σ, by rw [(gr_ok σ hv).2], (gr_ok σ hv).1, ⟨fun k b s hp => ⟨(hR.lt k b s hp).1, Nat.lt_of_lt_of_le (hR.lt k b s hp).2 x.size⟩, fun k b s hp => (hR.holds k b s hp).agree (Agree.refl σ) (x.same b (hR.lt k b s hp).2), hR.excl⟩, ?_⟩
  exact ⟨fun _ _ => ⟨rfl, rfl⟩, Nat.le_refl _, x.size, x.os, x.tape, x.output, fun _ _ _ => rfl, fun b hb _ => x.same b hb, fun k b s hk hp => absurd (hR.lt k b s hp).1 (by omega)⟩
/-- The tables, and a call without arguments that is known to give true. -/
def Tab.sure (T : Tab) (f : FuncId) (plan : List Oper → (Nat → Value) → AHeap → Option (List (Nat × ABlk))) : Tab := ⟨T.und, T.inf, T.fn, fun g args H => match Nat.beq g f, args with
  | true, [] => some (true, .bool true, H, H.size)
  | _, _ => none, plan⟩
theorem Tab.sure_fits {plan : List Oper → (Nat → Value) → AHeap → Option (List (Nat × ABlk))} (hT : T.Fits P) {e : Quiet} (he : e.Ok P) (ha : e.args = []) (hv : e.v = .bool true) : (T.sure e.f plan).Fits P where
  und := hT.und
  inf := hT.inf
  fn := hT.fn
  mixed := hT.mixed
  memo f args H b v H' m h := by
    simp only [Tab.sure] at h
    split at h
    · rename_i hf
      cases h
      have : f = e.f := Nat.eq_of_beq_eq_true hf
      subst this
      have h2 := he.2
      rw [ha, hv] at h2
      exact ⟨he.1, h2.any rfl rfl H, fun _ => ⟨rfl, rfl⟩⟩
    · cases h
/-- Regions whose operations that change something come in one order, told by the temporaries that they set. -/
def planK (ops : List Oper) (env : Nat → Value) (H : AHeap) : Option (List (Nat × ABlk)) :=
  if ops.map (·.dst) = [some 4, some 5, some 6, some 7, some 8, some 9, some 10, some 11, some 12, some 13, some 14, some 15, some 16, some 17, some 18, some 19, some 20, some 21, some 22, some 23, some 24, some 25, none] then some []
  else if ops.map (·.dst) = [some 109, some 110, some 111, some 112, some 113, some 114, some 115, some 116, some 117, some 118, some 119, some 120, some 121, some 122, some 123, some 124, some 125, some 126, some 127, some 128] then some []
  else if ops.map (·.dst) = [some 6, some 7, some 8, some 9, some 10, some 11, some 12, some 13, some 14, some 15, some 16, some 17, some 18, some 19, some 20, some 21, some 22, some 23, some 24, some 5] then some []
  else if ops.map (·.dst) = [some 26, some 27, some 28, some 29, some 30, some 31, none] then some []
  else if ops.map (·.dst) = [some 32, some 33, some 34, some 35, some 36, some 37, some 38, some 39, some 40, some 41, some 42, some 43, some 44, none] then some []
  else if ops.map (·.dst) = [some 69, some 70, some 71, some 72, some 73, some 74, some 75, some 76, some 77, some 78, some 79, none] then some []
  else if ops.map (·.dst) = [some 36, some 37, some 38, some 39, some 40, some 41, some 42, none] then some []
  else if ops.map (·.dst) = [some 3, some 4, some 5, some 6, some 7, some 8, some 9, some 10, some 11, some 12, some 13, some 2] then some []
  else if ops.map (·.dst) = [some 130, some 131, some 132, some 133, some 134, some 135, some 136, some 137, some 138, some 139, some 140, some 141, some 142, some 143, some 144, none, some 145, none] then some []
  else if ops.map (·.dst) = [some 196, some 197, some 198, some 199, some 200, some 201, some 202, some 203, some 204, some 205, some 206, some 207, some 208, some 209, some 210, some 211, some 212, some 213, some 214, none, some 215, none] then some []
  else if ops.map (·.dst) = [some 198, some 199, some 200, some 201, some 202, some 203, some 204, some 205, some 206, some 207, some 197, some 208, some 209, some 26, some 27] then
    match env 25 with
    | .pointer (some a) => match cellsOf (H.get a.block) with
      | some (.int .i64 u :: _) => some [(6, .rw [.int .i64 (w64 (u + 7)), .int .i64 500] 26 false [])]
      | _ => none
    | _ => none
  else none
noncomputable def tabA : Tab := Tab.sure tab awakeE.f planK
theorem tabA_fits : tabA.Fits Try.prog := Tab.sure_fits tab_fits awake_part rfl rfl
theorem tabA_fr : tabA.MemoFr := by
  intro f args H b v H' m h
  simp only [tabA,Tab.sure] at h
  split at h
  · cases h; exact Fra.refl _ _
  · cases h
theorem planK_of {ops : List Oper} {env : Nat → Value} {H : AHeap} {r : Option (List (Nat × ABlk))} (hr : planK ops env H = r) : tabA.plan ops env H = r := hr
theorem awake_known {ex : Exec} {H : AHeap} : acall tabA ex 12 [] H = some (true, .bool true, H, H.size) := rfl
end Go.Am
/- What the tables say of the types and functions that are walked through. -/
namespace Go.Am
open Go.Proofs
theorem st_alS_113 : alS tabA 113 = some [(.int IntKind.i64 0), (.int IntKind.i64 0), (.int IntKind.i64 0)] := by kernel_rfl
theorem st_alS_116 : alS tabA 116 = some [(.int IntKind.i64 0), (.int IntKind.i64 0), (.int IntKind.i64 0), (.int IntKind.i64 0), (.int IntKind.i64 0), (.int IntKind.i64 0)] := by kernel_rfl
theorem st_alS_119 : alS tabA 119 = some [(.int IntKind.i64 0), (.slice none 0 0), (.int IntKind.i64 0), (.int IntKind.i64 0), (.int IntKind.i64 0), (.int IntKind.i64 0), (.int IntKind.i64 0), (.int IntKind.i64 0), .nilFunc] := by kernel_rfl
theorem st_alS_154 : alS tabA 154 = some [(.int IntKind.i64 0), (.int IntKind.i64 0)] := by kernel_rfl
theorem st_alS_26 : alS tabA 26 = some [(.int IntKind.i64 0), (.int IntKind.i64 0)] := by kernel_rfl
theorem st_alS_3 : alS tabA 3 = some [(.int IntKind.i64 0)] := by kernel_rfl
theorem st_alS_39 : alS tabA 39 = some [(.int IntKind.i64 0), (.slice none 0 0)] := by kernel_rfl
theorem st_alS_40 : alS tabA 40 = some [(.slice none 0 0)] := by kernel_rfl
theorem st_alS_45 : alS tabA 45 = some [(.int IntKind.i64 0), (.slice none 0 0)] := by kernel_rfl
theorem st_alS_54 : alS tabA 54 = some [(.int IntKind.i64 0), (.int IntKind.i64 0)] := by kernel_rfl
theorem st_alS_72 : alS tabA 72 = some [(.int IntKind.i64 0), (.int IntKind.i64 0), (.int IntKind.i64 0)] := by kernel_rfl
theorem st_alS_82 : alS tabA 82 = some [(.int IntKind.i64 0), (.int IntKind.i64 0)] := by kernel_rfl
theorem st_alS_85 : alS tabA 85 = some [.nilFunc] := by kernel_rfl
theorem st_alS_90 : alS tabA 90 = some [(.slice none 0 0), (.slice none 0 0), (.int IntKind.i64 0), (.int IntKind.i64 0)] := by kernel_rfl
theorem st_alS_98 : alS tabA 98 = some [(.int IntKind.i64 0), (.int IntKind.i64 0)] := by kernel_rfl
theorem st_bdS_119 : bdS tabA 119 = some ([(.int IntKind.i64 0), (.slice none 0 0), (.int IntKind.i64 0), (.int IntKind.i64 0), (.int IntKind.i64 0), (.int IntKind.i64 0), (.int IntKind.i64 0), (.int IntKind.i64 0), .nilFunc], [(0, 2), (2, 6), (8, 1)]) := by kernel_rfl
theorem st_bdS_138 : bdS tabA 138 = some ([(.slice none 0 0), (.int IntKind.i64 0), (.int IntKind.u64 0)], [(0, 1), (1, 1), (2, 1)]) := by kernel_rfl
theorem st_bdS_154 : bdS tabA 154 = some ([(.int IntKind.i64 0), (.int IntKind.i64 0)], [(0, 1), (1, 1)]) := by kernel_rfl
theorem st_bdS_26 : bdS tabA 26 = some ([(.int IntKind.i64 0), (.int IntKind.i64 0)], [(0, 1), (1, 1)]) := by kernel_rfl
theorem st_bdS_39 : bdS tabA 39 = some ([(.int IntKind.i64 0), (.slice none 0 0)], [(0, 1), (1, 1)]) := by kernel_rfl
theorem st_bdS_45 : bdS tabA 45 = some ([(.int IntKind.i64 0), (.slice none 0 0)], [(0, 1), (1, 1)]) := by kernel_rfl
theorem st_bdS_54 : bdS tabA 54 = some ([(.int IntKind.i64 0), (.int IntKind.i64 0)], [(0, 1), (1, 1)]) := by kernel_rfl
theorem st_bdS_55 : bdS tabA 55 = some ([(.int IntKind.i64 0), (.int IntKind.i64 0)], [(0, 1), (1, 1)]) := by kernel_rfl
theorem st_bdS_72 : bdS tabA 72 = some ([(.int IntKind.i64 0), (.int IntKind.i64 0), (.int IntKind.i64 0)], [(0, 1), (1, 1), (2, 1)]) := by kernel_rfl
theorem st_bdS_82 : bdS tabA 82 = some ([(.int IntKind.i64 0), (.int IntKind.i64 0)], [(0, 1), (1, 1)]) := by kernel_rfl
theorem st_bdS_90 : bdS tabA 90 = some ([(.slice none 0 0), (.slice none 0 0), (.int IntKind.i64 0), (.int IntKind.i64 0)], [(0, 1), (1, 1), (2, 1), (3, 1)]) := by kernel_rfl
theorem st_bdS_98 : bdS tabA 98 = some ([(.int IntKind.i64 0), (.int IntKind.i64 0)], [(0, 1), (1, 1)]) := by kernel_rfl
theorem st_brS_22_0 : brS tabA 22 0 = some (2, 26, []) := by kernel_rfl
theorem st_brS_22_1 : brS tabA 22 1 = some (2, 26, [(.int IntKind.i64 0), (.int IntKind.i64 0)]) := by kernel_rfl
theorem st_brS_22_2 : brS tabA 22 2 = some (2, 26, [(.int IntKind.i64 0), (.int IntKind.i64 0), (.int IntKind.i64 0), (.int IntKind.i64 0)]) := by kernel_rfl
theorem st_brS_27_1 : brS tabA 27 1 = some (2, 105, [(.int IntKind.i64 0), (.int IntKind.i64 0)]) := by kernel_rfl
theorem st_brS_37_0 : brS tabA 37 0 = some (3, 72, []) := by kernel_rfl
theorem st_brS_37_1 : brS tabA 37 1 = some (3, 72, [(.int IntKind.i64 0), (.int IntKind.i64 0), (.int IntKind.i64 0)]) := by kernel_rfl
theorem st_brS_37_3 : brS tabA 37 3 = some (3, 72, [(.int IntKind.i64 0), (.int IntKind.i64 0), (.int IntKind.i64 0), (.int IntKind.i64 0), (.int IntKind.i64 0), (.int IntKind.i64 0), (.int IntKind.i64 0), (.int IntKind.i64 0), (.int IntKind.i64 0)]) := by kernel_rfl
theorem st_brS_40_0 : brS tabA 40 0 = some (1, 3, []) := by kernel_rfl
theorem st_brS_40_1 : brS tabA 40 1 = some (1, 3, [(.int IntKind.i64 0)]) := by kernel_rfl
theorem st_brS_40_2 : brS tabA 40 2 = some (1, 3, [(.int IntKind.i64 0), (.int IntKind.i64 0)]) := by kernel_rfl
theorem st_brS_40_3 : brS tabA 40 3 = some (1, 3, [(.int IntKind.i64 0), (.int IntKind.i64 0), (.int IntKind.i64 0)]) := by kernel_rfl
theorem st_brS_40_7 : brS tabA 40 7 = some (1, 3, [(.int IntKind.i64 0), (.int IntKind.i64 0), (.int IntKind.i64 0), (.int IntKind.i64 0), (.int IntKind.i64 0), (.int IntKind.i64 0), (.int IntKind.i64 0)]) := by kernel_rfl
theorem st_brS_43_0 : brS tabA 43 0 = some (3, 113, []) := by kernel_rfl
theorem st_brS_43_1 : brS tabA 43 1 = some (3, 113, [(.int IntKind.i64 0), (.int IntKind.i64 0), (.int IntKind.i64 0)]) := by kernel_rfl
theorem st_brS_47_1 : brS tabA 47 1 = some (2, 54, [(.int IntKind.i64 0), (.int IntKind.i64 0)]) := by kernel_rfl
theorem st_brS_50_1 : brS tabA 50 1 = some (2, 55, [(.int IntKind.i64 0), (.int IntKind.i64 0)]) := by kernel_rfl
theorem st_brS_73_1 : brS tabA 73 1 = some (2, 82, [(.int IntKind.i64 0), (.int IntKind.i64 0)]) := by kernel_rfl
theorem st_brS_88_1 : brS tabA 88 1 = some (2, 98, [(.int IntKind.i64 0), (.int IntKind.i64 0)]) := by kernel_rfl
theorem st_brS_88_2 : brS tabA 88 2 = some (2, 98, [(.int IntKind.i64 0), (.int IntKind.i64 0), (.int IntKind.i64 0), (.int IntKind.i64 0)]) := by kernel_rfl
theorem st_esS_22 : esS tabA 22 = some 2 := by kernel_rfl
theorem st_esS_27 : esS tabA 27 = some 2 := by kernel_rfl
theorem st_esS_37 : esS tabA 37 = some 3 := by kernel_rfl
theorem st_esS_40 : esS tabA 40 = some 1 := by kernel_rfl
theorem st_esS_43 : esS tabA 43 = some 3 := by kernel_rfl
theorem st_esS_47 : esS tabA 47 = some 2 := by kernel_rfl
theorem st_esS_50 : esS tabA 50 = some 2 := by kernel_rfl
theorem st_esS_67 : esS tabA 67 = some 1 := by kernel_rfl
theorem st_esS_73 : esS tabA 73 = some 2 := by kernel_rfl
theorem st_esS_88 : esS tabA 88 = some 2 := by kernel_rfl
theorem st_faS_105_0 : faS tabA 105 0 = some 0 := by kernel_rfl
theorem st_faS_105_1 : faS tabA 105 1 = some 1 := by kernel_rfl
theorem st_faS_113_0 : faS tabA 113 0 = some 0 := by kernel_rfl
theorem st_faS_113_1 : faS tabA 113 1 = some 1 := by kernel_rfl
theorem st_faS_113_2 : faS tabA 113 2 = some 2 := by kernel_rfl
theorem st_faS_119_0 : faS tabA 119 0 = some 0 := by kernel_rfl
theorem st_faS_119_1 : faS tabA 119 1 = some 2 := by kernel_rfl
theorem st_faS_119_2 : faS tabA 119 2 = some 8 := by kernel_rfl
theorem st_faS_138_0 : faS tabA 138 0 = some 0 := by kernel_rfl
theorem st_faS_138_1 : faS tabA 138 1 = some 1 := by kernel_rfl
theorem st_faS_138_2 : faS tabA 138 2 = some 2 := by kernel_rfl
theorem st_faS_154_0 : faS tabA 154 0 = some 0 := by kernel_rfl
theorem st_faS_154_1 : faS tabA 154 1 = some 1 := by kernel_rfl
theorem st_faS_26_0 : faS tabA 26 0 = some 0 := by kernel_rfl
theorem st_faS_26_1 : faS tabA 26 1 = some 1 := by kernel_rfl
theorem st_faS_39_0 : faS tabA 39 0 = some 0 := by kernel_rfl
theorem st_faS_39_1 : faS tabA 39 1 = some 1 := by kernel_rfl
theorem st_faS_45_0 : faS tabA 45 0 = some 0 := by kernel_rfl
theorem st_faS_45_1 : faS tabA 45 1 = some 1 := by kernel_rfl
theorem st_faS_54_0 : faS tabA 54 0 = some 0 := by kernel_rfl
theorem st_faS_54_1 : faS tabA 54 1 = some 1 := by kernel_rfl
theorem st_faS_72_0 : faS tabA 72 0 = some 0 := by kernel_rfl
theorem st_faS_72_1 : faS tabA 72 1 = some 1 := by kernel_rfl
theorem st_faS_72_2 : faS tabA 72 2 = some 2 := by kernel_rfl
theorem st_faS_82_0 : faS tabA 82 0 = some 0 := by kernel_rfl
theorem st_faS_82_1 : faS tabA 82 1 = some 1 := by kernel_rfl
theorem st_faS_90_0 : faS tabA 90 0 = some 0 := by kernel_rfl
theorem st_faS_90_1 : faS tabA 90 1 = some 1 := by kernel_rfl
theorem st_faS_90_2 : faS tabA 90 2 = some 2 := by kernel_rfl
theorem st_faS_90_3 : faS tabA 90 3 = some 3 := by kernel_rfl
theorem st_faS_98_0 : faS tabA 98 0 = some 0 := by kernel_rfl
theorem st_faS_98_1 : faS tabA 98 1 = some 1 := by kernel_rfl
theorem st_inS_113 : inS tabA 113 = some 3 := by kernel_rfl
theorem st_inS_116 : inS tabA 116 = some 6 := by kernel_rfl
theorem st_inS_119 : inS tabA 119 = some 9 := by kernel_rfl
theorem st_inS_136 : inS tabA 136 = some 1 := by kernel_rfl
theorem st_inS_154 : inS tabA 154 = some 2 := by kernel_rfl
theorem st_inS_26 : inS tabA 26 = some 2 := by kernel_rfl
theorem st_inS_3 : inS tabA 3 = some 1 := by kernel_rfl
theorem st_inS_37 : inS tabA 37 = some 1 := by kernel_rfl
theorem st_inS_39 : inS tabA 39 = some 2 := by kernel_rfl
theorem st_inS_40 : inS tabA 40 = some 1 := by kernel_rfl
theorem st_inS_43 : inS tabA 43 = some 1 := by kernel_rfl
theorem st_inS_45 : inS tabA 45 = some 2 := by kernel_rfl
theorem st_inS_54 : inS tabA 54 = some 2 := by kernel_rfl
theorem st_inS_72 : inS tabA 72 = some 3 := by kernel_rfl
theorem st_inS_82 : inS tabA 82 = some 2 := by kernel_rfl
theorem st_inS_85 : inS tabA 85 = some 1 := by kernel_rfl
theorem st_inS_88 : inS tabA 88 = some 1 := by kernel_rfl
theorem st_inS_90 : inS tabA 90 = some 4 := by kernel_rfl
theorem st_inS_98 : inS tabA 98 = some 2 := by kernel_rfl
theorem st_ldS_113 : ldS tabA 113 = some 4 := by kernel_rfl
theorem st_ldS_116 : ldS tabA 116 = some 7 := by kernel_rfl
theorem st_ldS_117 : ldS tabA 117 = some 0 := by kernel_rfl
theorem st_ldS_119 : ldS tabA 119 = some 10 := by kernel_rfl
theorem st_ldS_136 : ldS tabA 136 = some 0 := by kernel_rfl
theorem st_ldS_154 : ldS tabA 154 = some 3 := by kernel_rfl
theorem st_ldS_22 : ldS tabA 22 = some 0 := by kernel_rfl
theorem st_ldS_26 : ldS tabA 26 = some 3 := by kernel_rfl
theorem st_ldS_3 : ldS tabA 3 = some 0 := by kernel_rfl
theorem st_ldS_37 : ldS tabA 37 = some 0 := by kernel_rfl
theorem st_ldS_39 : ldS tabA 39 = some 3 := by kernel_rfl
theorem st_ldS_40 : ldS tabA 40 = some 0 := by kernel_rfl
theorem st_ldS_43 : ldS tabA 43 = some 0 := by kernel_rfl
theorem st_ldS_45 : ldS tabA 45 = some 3 := by kernel_rfl
theorem st_ldS_5 : ldS tabA 5 = some 0 := by kernel_rfl
theorem st_ldS_54 : ldS tabA 54 = some 3 := by kernel_rfl
theorem st_ldS_55 : ldS tabA 55 = some 3 := by kernel_rfl
theorem st_ldS_67 : ldS tabA 67 = some 0 := by kernel_rfl
theorem st_ldS_72 : ldS tabA 72 = some 4 := by kernel_rfl
theorem st_ldS_82 : ldS tabA 82 = some 3 := by kernel_rfl
theorem st_ldS_85 : ldS tabA 85 = some 0 := by kernel_rfl
theorem st_ldS_88 : ldS tabA 88 = some 0 := by kernel_rfl
theorem st_ldS_90 : ldS tabA 90 = some 5 := by kernel_rfl
theorem st_ldS_98 : ldS tabA 98 = some 3 := by kernel_rfl
theorem fn_8 : tabA.fn 8 = some Try.f8 := by kernel_rfl
theorem fn_22 : tabA.fn 22 = some Try.f22 := by kernel_rfl
theorem fn_29 : tabA.fn 29 = some Try.f29 := by kernel_rfl
theorem fn_31 : tabA.fn 31 = some Try.f31 := by kernel_rfl
theorem fn_35 : tabA.fn 35 = some Try.f35 := by kernel_rfl
theorem fn_36 : tabA.fn 36 = some Try.f36 := by kernel_rfl
theorem fn_39 : tabA.fn 39 = some Try.f39 := by kernel_rfl
theorem fn_40 : tabA.fn 40 = some Try.f40 := by kernel_rfl
theorem fn_42 : tabA.fn 42 = some Try.f42 := by kernel_rfl
theorem fn_43 : tabA.fn 43 = some Try.f43 := by kernel_rfl
theorem fn_44 : tabA.fn 44 = some Try.f44 := by kernel_rfl
theorem fn_57 : tabA.fn 57 = some Try.f57 := by kernel_rfl
theorem fn_66 : tabA.fn 66 = some Try.f66 := by kernel_rfl
theorem fn_69 : tabA.fn 69 = some Try.f69 := by kernel_rfl
theorem fn_70 : tabA.fn 70 = some Try.f70 := by kernel_rfl
theorem fn_76 : tabA.fn 76 = some Try.f76 := by kernel_rfl
theorem fn_77 : tabA.fn 77 = some Try.f77 := by kernel_rfl
theorem fn_79 : tabA.fn 79 = some Try.f79 := by kernel_rfl
theorem fn_80 : tabA.fn 80 = some Try.f80 := by kernel_rfl
theorem fn_81 : tabA.fn 81 = some Try.f81 := by kernel_rfl
theorem fn_82 : tabA.fn 82 = some Try.f82 := by kernel_rfl
theorem fn_87 : tabA.fn 87 = some Try.f87 := by kernel_rfl
theorem fn_92 : tabA.fn 92 = some Try.f92 := by kernel_rfl
theorem fn_93 : tabA.fn 93 = some Try.f93 := by kernel_rfl
theorem fn_94 : tabA.fn 94 = some Try.f94 := by kernel_rfl
theorem fn_108 : tabA.fn 108 = some Try.f108 := by kernel_rfl
theorem fn_109 : tabA.fn 109 = some Try.f109 := by kernel_rfl
theorem fn_110 : tabA.fn 110 = some Try.f110 := by kernel_rfl
theorem fn_113 : tabA.fn 113 = some Try.f113 := by kernel_rfl
theorem fn_114 : tabA.fn 114 = some Try.f114 := by kernel_rfl
theorem fn_115 : tabA.fn 115 = some Try.f115 := by kernel_rfl
theorem fn_116 : tabA.fn 116 = some Try.f116 := by kernel_rfl
theorem fn_117 : tabA.fn 117 = some Try.f117 := by kernel_rfl
theorem fn_127 : tabA.fn 127 = some Try.f127 := by kernel_rfl
theorem fn_128 : tabA.fn 128 = some Try.f128 := by kernel_rfl
theorem fn_129 : tabA.fn 129 = some Try.f129 := by kernel_rfl
theorem fn_130 : tabA.fn 130 = some Try.f130 := by kernel_rfl
theorem fn_134 : tabA.fn 134 = some Try.f134 := by kernel_rfl
theorem fn_135 : tabA.fn 135 = some Try.f135 := by kernel_rfl
end Go.Am
/- The equations by which code is worked out, in bundles. -/
set_option linter.defProp false
namespace Go.Am
open Go.Proofs
def yp := (And.intro (And.intro (And.intro (And.intro (And.intro @W_skip @W_label) (And.intro @W_exit @W_ret)) (And.intro (And.intro @W_seq @W_block) (And.intro @W_cond @W_region))) (And.intro (And.intro (And.intro @O_nil @O_cons) (And.intro @O_guard @A_move)) (And.intro (And.intro @A_assign @A_pick) (And.intro @A_box (And.intro @A_alloc @A_fieldAddr))))) (And.intro (And.intro (And.intro (And.intro @A_load @A_store) (And.intro @A_extract @A_binOp)) (And.intro (And.intro @A_call @A_len) (And.intro @wrK_eq (And.intro @A_makeFunc @A_unOp)))) (And.intro (And.intro (And.intro @A_append @D_nil) (And.intro @D_cons @D_guard)) (And.intro (And.intro @newK_alloc @newK_box) (And.intro @DS_nil (And.intro @DS_cons @DS_guard))))))
def yq0 := (And.intro (And.intro (And.intro (And.intro (And.intro @env_cons @env_nil) (And.intro @optK_some (And.intro @letK_eq @andK_of))) (And.intro (And.intro @Split_true @Split_false) (And.intro @Split_not (And.intro @seqK_normal @seqK_exit)))) (And.intro (And.intro (And.intro @seqK_ret @boolK_bool) (And.intro @bolK_bool (And.intro @guardK_true @guardK_false))) (And.intro (And.intro @gK_some @gdst_zero) (And.intro @gdst_succ (And.intro @ptrK_some @intK_int))))) (And.intro (And.intro (And.intro (And.intro @tupK_tuple @slK_some) (And.intro @aenv_tmp (And.intro @aenv_func @aenv_int))) (And.intro (And.intro @aenv_bool @gt_same) (And.intro @gt_ne (And.intro @put_none @blockExit_normal)))) (And.intro (And.intro (And.intro @blockExit_ret @blockExit_same) (And.intro @blockExit_other (And.intro @binV_add @binV_sub))) (And.intro (And.intro @binV_mul @binV_eql) (And.intro @binV_neq (And.intro @binV_lss @binV_leq))))))
def yq1 := (And.intro (And.intro (And.intro (And.intro (And.intro @binV_gtr @binV_geq) (And.intro @resK_some (And.intro @calK_func @avals_nil))) (And.intro (And.intro @avals_cons @consO_some) (And.intro @resV_one (And.intro @resV_two @resV_three)))) (And.intro (And.intro (And.intro @retK_ret @retK_normal) (And.intro @loopK_normal (And.intro @loopK_ret @loopK_exit))) (And.intro (And.intro @get_alloc_same @get_alloc_eq) (And.intro @get_alloc_lt (And.intro @get_put_same @get_put_ne))))) (And.intro (And.intro (And.intro (And.intro @size_alloc @size_put) (And.intro @size_kill (And.intro @cellsOf_rw @cellsOf_ro))) (And.intro (And.intro @part_zero @part_2) (And.intro @part_3 (And.intro @part_4 @part_5)))) (And.intro (And.intro (And.intro @part_6 @part_7) (And.intro @part_8 (And.intro @part_9 @cells_agg))) (And.intro (And.intro @cells_int @cells_bool) (And.intro @cells_slice (And.intro @cells_pointer @cells_func))))))
def yq2 := (And.intro (And.intro (And.intro (And.intro (And.intro @beq_refl @idxK_int) (And.intro @wrB_rw (And.intro @one_nil @one_int))) (And.intro (And.intro @one_bool @one_slice) (And.intro @one_pointer (And.intro @one_func @one_nilFunc)))) (And.intro (And.intro (And.intro @unV_not @fill1_some) (And.intro @andThen_some (And.intro @afill_nil @afill_cons))) (And.intro (And.intro @aparts_nil @aparts_cons) (And.intro @consP_some (And.intro @resV_cell @cellO_ptr))))) (And.intro (And.intro (And.intro (And.intro @readO_some @maskE_tmp) (And.intro @maskE_func (And.intro @maskE_int @maskE_bool))) (And.intro (And.intro @memNat_nil @memNat_cons) (And.intro @flagK_true (And.intro @flagK_false @agsK_nil)))) (And.intro (And.intro (And.intro @agsK_cons @agK_nil) (And.intro @agK_cons (And.intro @lastG_one @lastG_cons))) (And.intro (And.intro @tm_move @tm_assign) (And.intro @tm_box (And.intro @tm_load @tm_nilCheck))))))
def yq3 := (And.intro (And.intro (And.intro (And.intro (And.intro @tm_unOp @tm_convert) (And.intro @tm_alloc (And.intro @tm_store @tm_binOp))) (And.intro (And.intro @tm_fieldAddr @tm_field) (And.intro @tm_indexAddr (And.intro @tm_index @tm_pick)))) (And.intro (And.intro (And.intro @tm_extract @tm_build) (And.intro @tm_row (And.intro @tm_call @tm_built))) (And.intro (And.intro @tp_nil @tp_tmp) (And.intro @tp_const (And.intro @tp_func @aenv_nilFunc))))) (And.intro (And.intro (And.intro (And.intro @aenv_nilSlice @sv_int) (And.intro @sv_bool (And.intro @sv_pointer @sv_slice))) (And.intro (And.intro @sv_agg @sv_tuple) (And.intro @sv_func (And.intro @sl_nil @sl_cons)))) (And.intro (And.intro (And.intro @lookK_some @lookK_none) (And.intro @look_nil (And.intro @look_cons @places_nil))) (And.intro (And.intro @places_cons @allocs_nil) (And.intro @allocs_cons (And.intro @memP_nil @memP_cons))))))
def yq4 := (And.intro (And.intro (And.intro @skipK_true @skipK_false) (And.intro @stsR_nil (And.intro @stsR_cons @stR_nil))) (And.intro (And.intro @stR_cons (And.intro @tupO_some @resV_cell_tmp)) (And.intro @revA_nil (And.intro @revA_cons @guardK_undef))))
def yl := (And.intro (And.intro (And.intro (And.intro (And.intro @Nat.le_refl @cond_true.{1}) (And.intro @cond_false.{1} (And.intro @Nat.zero_add @List.nil_append.{0}))) (And.intro (And.intro @List.cons_append.{0} @List.append_nil.{0}) (And.intro @List.take_zero.{0} (And.intro @List.take_succ_cons.{0} @List.drop_zero.{0})))) (And.intro (And.intro (And.intro @List.drop_succ_cons.{0} @List.drop_nil.{0}) (And.intro @decide_true (And.intro @decide_false @Bool.and_self))) (And.intro (And.intro @Bool.true_and @List.length_cons.{0}) (And.intro @List.length_nil.{0} (And.intro @Int.toNat_natCast @Bool.or_true))))) (And.intro (And.intro (And.intro (And.intro @Bool.true_or @Bool.false_or) (And.intro @Bool.or_false (And.intro @Bool.and_true @Bool.and_false))) (And.intro (And.intro @Bool.false_and @Bool.not_true) (And.intro @Bool.not_false (And.intro @and_true @true_and)))) (And.intro (And.intro (And.intro @List.getElem?_cons_zero.{0} @List.getElem?_cons_succ.{0}) (And.intro @Nat.le_add_right (And.intro @List.map_cons.{0, 0} @List.map_nil.{0, 0}))) (And.intro (And.intro @List.map_toArray.{0, 0} (And.intro @List.append_toArray.{0} @if_true.{1})) (And.intro @if_false.{1} (And.intro @Nat.add_zero @Nat.mul_one))))))
def ys0 := (And.intro (And.intro (And.intro (And.intro (And.intro (And.intro @st_alS_113 @st_alS_116) (And.intro @st_alS_119 @st_alS_154)) (And.intro (And.intro @st_alS_26 @st_alS_3) (And.intro @st_alS_39 @st_alS_40))) (And.intro (And.intro (And.intro @st_alS_45 @st_alS_54) (And.intro @st_alS_72 @st_alS_82)) (And.intro (And.intro @st_alS_85 @st_alS_90) (And.intro @st_alS_98 @st_bdS_119)))) (And.intro (And.intro (And.intro (And.intro @st_bdS_138 @st_bdS_154) (And.intro @st_bdS_26 @st_bdS_39)) (And.intro (And.intro @st_bdS_45 @st_bdS_54) (And.intro @st_bdS_55 @st_bdS_72))) (And.intro (And.intro (And.intro @st_bdS_82 @st_bdS_90) (And.intro @st_bdS_98 @st_brS_22_0)) (And.intro (And.intro @st_brS_22_1 @st_brS_22_2) (And.intro @st_brS_27_1 @st_brS_37_0))))) (And.intro (And.intro (And.intro (And.intro (And.intro @st_brS_37_1 @st_brS_37_3) (And.intro @st_brS_40_0 @st_brS_40_1)) (And.intro (And.intro @st_brS_40_2 @st_brS_40_3) (And.intro @st_brS_40_7 @st_brS_43_0))) (And.intro (And.intro (And.intro @st_brS_43_1 @st_brS_47_1) (And.intro @st_brS_50_1 @st_brS_73_1)) (And.intro (And.intro @st_brS_88_1 @st_brS_88_2) (And.intro @st_esS_22 @st_esS_27)))) (And.intro (And.intro (And.intro (And.intro @st_esS_37 @st_esS_40) (And.intro @st_esS_43 @st_esS_47)) (And.intro (And.intro @st_esS_50 @st_esS_67) (And.intro @st_esS_73 @st_esS_88))) (And.intro (And.intro (And.intro @st_faS_105_0 @st_faS_105_1) (And.intro @st_faS_113_0 @st_faS_113_1)) (And.intro (And.intro @st_faS_113_2 @st_faS_119_0) (And.intro @st_faS_119_1 (And.intro @st_faS_119_2 @st_faS_138_0)))))))
def ys1 := (And.intro (And.intro (And.intro (And.intro (And.intro (And.intro @st_faS_138_1 @st_faS_138_2) (And.intro @st_faS_154_0 @st_faS_154_1)) (And.intro (And.intro @st_faS_26_0 @st_faS_26_1) (And.intro @st_faS_39_0 @st_faS_39_1))) (And.intro (And.intro (And.intro @st_faS_45_0 @st_faS_45_1) (And.intro @st_faS_54_0 @st_faS_54_1)) (And.intro (And.intro @st_faS_72_0 @st_faS_72_1) (And.intro @st_faS_72_2 @st_faS_82_0)))) (And.intro (And.intro (And.intro (And.intro @st_faS_82_1 @st_faS_90_0) (And.intro @st_faS_90_1 @st_faS_90_2)) (And.intro (And.intro @st_faS_90_3 @st_faS_98_0) (And.intro @st_faS_98_1 @st_inS_113))) (And.intro (And.intro (And.intro @st_inS_116 @st_inS_119) (And.intro @st_inS_136 @st_inS_154)) (And.intro (And.intro @st_inS_26 @st_inS_3) (And.intro @st_inS_37 (And.intro @st_inS_39 @st_inS_40)))))) (And.intro (And.intro (And.intro (And.intro (And.intro @st_inS_43 @st_inS_45) (And.intro @st_inS_54 @st_inS_72)) (And.intro (And.intro @st_inS_82 @st_inS_85) (And.intro @st_inS_88 @st_inS_90))) (And.intro (And.intro (And.intro @st_inS_98 @st_ldS_113) (And.intro @st_ldS_116 @st_ldS_117)) (And.intro (And.intro @st_ldS_119 @st_ldS_136) (And.intro @st_ldS_154 @st_ldS_22)))) (And.intro (And.intro (And.intro (And.intro @st_ldS_26 @st_ldS_3) (And.intro @st_ldS_37 @st_ldS_39)) (And.intro (And.intro @st_ldS_40 @st_ldS_43) (And.intro @st_ldS_45 @st_ldS_5))) (And.intro (And.intro (And.intro @st_ldS_54 @st_ldS_55) (And.intro @st_ldS_67 @st_ldS_72)) (And.intro (And.intro @st_ldS_82 @st_ldS_85) (And.intro @st_ldS_88 (And.intro @st_ldS_90 @st_ldS_98)))))))
def yz := (And.intro @size_alloc (And.intro @size_put @size_kill))
def yg := (And.intro (And.intro (And.intro (And.intro @gt_same @gt_ne) (And.intro @put_none @get_alloc_same)) (And.intro (And.intro @get_alloc_eq @get_alloc_lt) (And.intro @get_put_same (And.intro @get_put_ne @size_alloc)))) (And.intro (And.intro (And.intro @size_put @size_kill) (And.intro @cellsOf_rw @cellsOf_ro)) (And.intro (And.intro @Nat.le_refl @Nat.zero_add) (And.intro @Nat.add_zero (And.intro @true_and @and_true)))))
end Go.Am
/- What any layer needs of heaps, rows and numbers. -/
namespace Go.Am
open Go.Proofs
variable {T : Tab} {P : Program} {N L : Nat} {H : AHeap} {Q : Bool → Value → AHeap → Prop}
def off (a lo hi : Int) : Bool := decide (a < lo) || decide (hi < a)
/-- What was there is there still. -/
structure Fr (H H' : AHeap) : Prop where
  size : H.size ≤ H'.size
  same : ∀ k, k < H.size → H'.get k = H.get k
theorem Fr.refl (H : AHeap) : Fr H H := ⟨Nat.le_refl _, fun _ _ => rfl⟩
theorem Fr.trans {H H₁ H₂ : AHeap} (a : Fr H H₁) (b : Fr H₁ H₂) : Fr H H₂ := ⟨Nat.le_trans a.size b.size, fun k hk => (b.same k (Nat.lt_of_lt_of_le hk a.size)).trans (a.same k hk)⟩
theorem Fr.alloc (H : AHeap) (b : ABlk) : Fr H (H.alloc b) := ⟨by simp, fun k hk => get_alloc_lt hk⟩
theorem Fr.allocd {H H' : AHeap} (a : Fr H H') (b : ABlk) : Fr H (H'.alloc b) := a.trans (Fr.alloc _ _)
theorem Fr.kill {H H' : AHeap} (a : Fr H H') {l : List Nat} (h : ∀ j ∈ l, H.size ≤ j) : Fr H (H'.kill l) := ⟨by simp [a.size], fun j hj => by rw [get_kill (fun hm => by have := h j hm; omega)]; exact a.same j hj⟩
theorem Fr.put {H H' : AHeap} (a : Fr H H') {k : Nat} (hk : H.size ≤ k) (b : ABlk) : Fr H (H'.put k b) := ⟨by simp [a.size], fun j hj => by rw [get_put_ne (by omega)]; exact a.same j hj⟩
def wi (a lo hi : Int) : Bool := decide (lo ≤ a) && decide (a ≤ hi)
/-- A row that is made by append, so far. -/
structure Grow (H : AHeap) (tb : Nat) (v : Value) (i : Nat) (cs : List Value) (el z : Nat) : Prop where
  nil : i = 0 → v = .slice none 0 0
  cons : i ≠ 0 → ∃ b al, v = .slice (some ⟨b, 0, none⟩) i (OPEN + z) ∧ tb < b ∧ b < H.size ∧ H.get b = .rw cs el true al ∧ (∀ j ∈ al, tb < j ∧ j < b)
structure FrU (m : Nat) (H H' : AHeap) : Prop where
  size : H.size ≤ H'.size
  same : ∀ k, k < m → H'.get k = H.get k
theorem Fr.part {H H₁ H₂ : AHeap} {m : Nat} (a : Fr H H₁) (b : FrU m H₁ H₂) (h : H.size ≤ m) : Fr H H₂ := ⟨Nat.le_trans a.size b.size, fun k hk => (b.same k (by omega)).trans (a.same k hk)⟩
theorem Grow.fr {H H' : AHeap} {tb i el z : Nat} {v : Value} {cs : List Value} (g : Grow H tb v i cs el z) (f : Fr H H') : Grow H' tb v i cs el z :=
  ⟨g.nil, fun h => by
    obtain ⟨b, al, h1, h2, h3, h4, h5⟩ := g.cons h
    exact ⟨b, al, h1, h2, Nat.lt_of_lt_of_le h3 f.size, by rw [f.same b h3]; exact h4, h5⟩⟩
theorem Grow.put {H : AHeap} {tb i el z k : Nat} {v : Value} {cs : List Value} {blk : ABlk} (g : Grow H tb v i cs el z) (hk : k ≤ tb) : Grow (H.put k blk) tb v i cs el z :=
  ⟨g.nil, fun h => by
    obtain ⟨b, al, h1, h2, h3, h4, h5⟩ := g.cons h
    exact ⟨b, al, h1, h2, by rw [size_put]; exact h3, by rw [get_put_ne (by omega)]; exact h4, h5⟩⟩
theorem W_abs {n : Nat} {r : Option Nat} {c : Code} {e : VT} {ds : List Nat} {Q : Exit → ES → Prop} {F : VT → AHeap → Prop} (h : F e H) (k : ∀ e H, F e H → W T P N r c L ⟨n, e, H, ds⟩ Q) : W T P N r c L ⟨n, e, H, ds⟩ Q := k _ _ h
theorem resK_elim {q : Res} {Q : Bool → Value → AHeap → Prop} (h : resK q L Q) : ∃ f v H' m, q = some (f, v, H', m) ∧ L ≤ m ∧ Q f v H' := by
  unfold resK at h
  cases q with
  | none => exact h.elim
  | some p =>
    obtain ⟨f, v, H', m⟩ := p
    exact ⟨f, v, H', m, rfl, h⟩
end Go.Am
