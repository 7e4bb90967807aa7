/- A part of a long run: one call. -/
import Derived.Test.YtnibabkgeolenaaT14
set_option linter.unusedSimpArgs false
set_option linter.unusedVariables false
namespace Go.Am
open Go.Proofs
set_option maxRecDepth 100000
def P0.e : Loud := ⟨81, [(.agg ⟨[(ii 100), (.slice (some ⟨46, 0, none⟩) 3 3), (ii 0), (ii 0), (ii 20), (ii 0), (ii 0), (ii 0), (.func (.func 109) ⟨[]⟩ ⟨[(.pointer (some ⟨49, 0, none⟩))]⟩)]⟩)], 64, [qb3, qb26], (.slice (some ⟨71, 0, none⟩) 3 18446744073709551617), 72, [qb3, qb26, (71, (.rw [(ii 50), (ii 30), (ii 20)] 3 true []))], 64⟩
theorem P0.ok : P0.e.Ok2 Try.prog := ok2 (loud_of (T := tab) tab_fits (n := 1000) (by kernel_rfl)) (by kernel_rfl)
end Go.Am
/- A part of a long run: one call. -/
namespace Go.Am
open Go.Proofs
set_option maxRecDepth 100000
def P15.e : Quiet := ⟨95, [(.agg ⟨[(.slice (some ⟨188, 0, none⟩) 2 2), (.slice (some ⟨189, 0, none⟩) 2 2), (ii 10), (ii 5)]⟩), (ii 1)], 193, [qb28, (189, (.rw [(ii 5), (ii 60), (ii 25), (ii 90)] 98 false []))], (ng 0)⟩
theorem P15.ok : P15.e.Ok Try.prog := quiet_of (T := tab) tab_fits (n := 1000) (by kernel_rfl)
end Go.Am
