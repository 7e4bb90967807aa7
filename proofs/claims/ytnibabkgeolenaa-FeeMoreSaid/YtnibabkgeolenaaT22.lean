/- A part of a long run: one call. -/
import Derived.Test.YtnibabkgeolenaaT14
set_option linter.unusedSimpArgs false
set_option linter.unusedVariables false
namespace Go.Am
open Go.Proofs
set_option maxRecDepth 100000
def P10.e : Loud := ⟨81, [(.agg ⟨[(ii 100), (.slice (some ⟨357, 0, none⟩) 3 18446744073709551619), (ii 0), (ii 0), (ii 0), (ii 0), (ii 0), (ii 0), (.func (.func 109) ⟨[]⟩ ⟨[(.pointer (some ⟨358, 0, none⟩))]⟩)]⟩)], 373, [qb10, qb21], (.slice (some ⟨380, 0, none⟩) 3 18446744073709551617), 381, [qb10, qb21, (380, (.rw [(ii 60), (ii 30), (ii 10)] 3 true []))], 373⟩
theorem P10.ok : P10.e.Ok2 Try.prog := ok2 (loud_of (T := tab) tab_fits (n := 1000) (by kernel_rfl)) (by kernel_rfl)
end Go.Am
