/- A part of a long run: one call. -/
import Derived.Test.YtnibabkgeolenaaT14
set_option linter.unusedSimpArgs false
set_option linter.unusedVariables false
namespace Go.Am
open Go.Proofs
set_option maxRecDepth 100000
def P9.e : Loud := ⟨81, [(.agg ⟨[(ii 100), (.slice (some ⟨330, 0, none⟩) 3 18446744073709551619), (ii 0), (ii 0), (ii 0), (ii 0), (ii 0), (ii 0), (.func (.func 109) ⟨[]⟩ ⟨[(.pointer (some ⟨331, 0, none⟩))]⟩)]⟩)], 346, [qb7, qb20], (.slice (some ⟨353, 0, none⟩) 3 18446744073709551617), 354, [qb7, qb20, (353, (.rw [(ii 79), (ii 16), (ii 5)] 3 true []))], 346⟩
theorem P9.ok : P9.e.Ok2 Try.prog := ok2 (loud_of (T := tab) tab_fits (n := 1000) (by kernel_rfl)) (by kernel_rfl)
end Go.Am
