/- A part of a long run: one call. -/
import Derived.Test.YtnibabkgeolenaaT14
set_option linter.unusedSimpArgs false
set_option linter.unusedVariables false
namespace Go.Am
open Go.Proofs
set_option maxRecDepth 100000
def P8.e : Loud := ⟨81, [(.agg ⟨[(ii 100), (.slice (some ⟨303, 0, none⟩) 3 18446744073709551619), (ii 0), (ii 0), (ii 0), (ii 0), (ii 0), (ii 0), (.func (.func 109) ⟨[]⟩ ⟨[(.pointer (some ⟨304, 0, none⟩))]⟩)]⟩)], 319, [qb6, qb19], (.slice (some ⟨326, 0, none⟩) 3 18446744073709551617), 327, [qb6, qb19, (326, (.rw [(ii 90), (ii 8), (ii 2)] 3 true []))], 319⟩
theorem P8.ok : P8.e.Ok2 Try.prog := ok2 (loud_of (T := tab) tab_fits (n := 1000) (by kernel_rfl)) (by kernel_rfl)
end Go.Am
