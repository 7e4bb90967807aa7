/- A part of a long run: one call. -/
import Derived.Test.YtnibabkgeolenaaT14
set_option linter.unusedSimpArgs false
set_option linter.unusedVariables false
namespace Go.Am
open Go.Proofs
set_option maxRecDepth 100000
def P6.e : Loud := ⟨81, [(.agg ⟨[(ii 100), (.slice (some ⟨249, 0, none⟩) 3 18446744073709551619), (ii 0), (ii 0), (ii 0), (ii 0), (ii 0), (ii 0), (.func (.func 109) ⟨[]⟩ ⟨[(.pointer (some ⟨250, 0, none⟩))]⟩)]⟩)], 265, [qb2, qb17], (.slice (some ⟨272, 0, none⟩) 3 18446744073709551617), 273, [qb2, qb17, (272, (.rw [(ii 98), (ii 2), (ii 0)] 3 true []))], 265⟩
theorem P6.ok : P6.e.Ok2 Try.prog := ok2 (loud_of (T := tab) tab_fits (n := 1000) (by kernel_rfl)) (by kernel_rfl)
end Go.Am
