/- A part of a long run: one call. -/
import Derived.Test.YtnibabkgeolenaaT14
set_option linter.unusedSimpArgs false
set_option linter.unusedVariables false
namespace Go.Am
open Go.Proofs
set_option maxRecDepth 100000
def P3.e : Loud := ⟨81, [(.agg ⟨[(ii 100), (.slice (some ⟨161, 0, none⟩) 3 18446744073709551619), (ii 0), (ii 0), (ii 0), (ii 0), (ii 0), (ii 0), (.func (.func 109) ⟨[]⟩ ⟨[(.pointer (some ⟨162, 0, none⟩))]⟩)]⟩)], 177, [qb9, qb14], (.slice (some ⟨184, 0, none⟩) 3 18446744073709551617), 185, [qb9, qb14, (184, (.rw [(ii 50), (ii 38), (ii 12)] 3 true []))], 177⟩
theorem P3.ok : P3.e.Ok2 Try.prog := ok2 (loud_of (T := tab) tab_fits (n := 1000) (by kernel_rfl)) (by kernel_rfl)
end Go.Am
