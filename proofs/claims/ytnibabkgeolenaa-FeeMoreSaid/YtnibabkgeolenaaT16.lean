/- A part of a long run: one call. -/
import Derived.Test.YtnibabkgeolenaaT14
set_option linter.unusedSimpArgs false
set_option linter.unusedVariables false
namespace Go.Am
open Go.Proofs
set_option maxRecDepth 100000
def P2.e : Loud := ⟨81, [(.agg ⟨[(ii 100), (.slice (some ⟨133, 0, none⟩) 3 3), (ii 0), (ii 0), (ii 0), (ii 0), (ii 0), (ii 0), (.func (.func 109) ⟨[]⟩ ⟨[(.pointer (some ⟨135, 0, none⟩))]⟩)]⟩)], 150, [qb4, qb25], (.slice (some ⟨157, 0, none⟩) 3 18446744073709551617), 158, [qb4, qb25, (157, (.rw [(ii 56), (ii 33), (ii 11)] 3 true []))], 150⟩
theorem P2.ok : P2.e.Ok2 Try.prog := ok2 (loud_of (T := tab) tab_fits (n := 1000) (by kernel_rfl)) (by kernel_rfl)
end Go.Am
