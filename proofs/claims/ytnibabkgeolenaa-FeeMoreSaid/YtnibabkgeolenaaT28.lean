/- A part of a long run: one call. -/
import Derived.Test.YtnibabkgeolenaaT14
set_option linter.unusedSimpArgs false
set_option linter.unusedVariables false
namespace Go.Am
open Go.Proofs
set_option maxRecDepth 100000
def P1.e : Loud := ⟨81, [(.agg ⟨[(ii 100), (.slice (some ⟨46, 0, none⟩) 3 3), (ii 0), (ii 0), (ii 20), (ii 0), (ii 0), (ii 0), (.func (.func 109) ⟨[]⟩ ⟨[(.pointer (some ⟨73, 0, none⟩))]⟩)]⟩)], 88, [qb8, qb27], (.slice (some ⟨95, 0, none⟩) 3 18446744073709551617), 96, [qb8, qb27, (95, (.rw [(ii 40), (ii 40), (ii 20)] 3 true []))], 88⟩
theorem P1.ok : P1.e.Ok2 Try.prog := ok2 (loud_of (T := tab) tab_fits (n := 1000) (by kernel_rfl)) (by kernel_rfl)
end Go.Am
