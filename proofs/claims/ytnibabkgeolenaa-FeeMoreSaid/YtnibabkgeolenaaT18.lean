/- A part of a long run: one call. -/
import Derived.Test.YtnibabkgeolenaaT14
set_option linter.unusedSimpArgs false
set_option linter.unusedVariables false
namespace Go.Am
open Go.Proofs
set_option maxRecDepth 100000
def P4.e : Loud := ⟨81, [(.agg ⟨[(ii 100), (.slice (some ⟨195, 0, none⟩) 3 18446744073709551619), (ii 0), (ii 0), (ii 0), (ii 0), (ii 0), (ii 0), (.func (.func 109) ⟨[]⟩ ⟨[(.pointer (some ⟨196, 0, none⟩))]⟩)]⟩)], 211, [qb0, qb15], (.slice (some ⟨218, 0, none⟩) 3 18446744073709551617), 219, [qb0, qb15, (218, (.rw [(ii 100), (ii 0), (ii 0)] 3 true []))], 211⟩
theorem P4.ok : P4.e.Ok2 Try.prog := ok2 (loud_of (T := tab) tab_fits (n := 1000) (by kernel_rfl)) (by kernel_rfl)
end Go.Am
