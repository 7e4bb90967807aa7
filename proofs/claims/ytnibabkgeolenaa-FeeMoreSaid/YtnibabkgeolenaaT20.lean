/- A part of a long run: one call. -/
import Derived.Test.YtnibabkgeolenaaT14
set_option linter.unusedSimpArgs false
set_option linter.unusedVariables false
namespace Go.Am
open Go.Proofs
set_option maxRecDepth 100000
def P11.e : Loud := ⟨81, [(.agg ⟨[(ii 100), (.slice (some ⟨384, 0, none⟩) 3 18446744073709551619), (ii 0), (ii 0), (ii 0), (ii 0), (ii 0), (ii 0), (.func (.func 109) ⟨[]⟩ ⟨[(.pointer (some ⟨385, 0, none⟩))]⟩)]⟩)], 400, [qb11, qb22], (.slice (some ⟨407, 0, none⟩) 3 18446744073709551617), 408, [qb11, qb22, (407, (.rw [(ii 34), (ii 50), (ii 16)] 3 true []))], 400⟩
theorem P11.ok : P11.e.Ok2 Try.prog := ok2 (loud_of (T := tab) tab_fits (n := 1000) (by kernel_rfl)) (by kernel_rfl)
end Go.Am
