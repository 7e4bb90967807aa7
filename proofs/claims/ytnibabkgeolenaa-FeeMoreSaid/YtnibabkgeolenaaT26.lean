/- A part of a long run: one call. -/
import Derived.Test.YtnibabkgeolenaaT14
set_option linter.unusedSimpArgs false
set_option linter.unusedVariables false
namespace Go.Am
open Go.Proofs
set_option maxRecDepth 100000
def P13.e : Loud := ⟨81, [(.agg ⟨[(ii 100), (.slice (some ⟨438, 0, none⟩) 3 18446744073709551619), (ii 0), (ii 0), (ii 0), (ii 0), (ii 0), (ii 0), (.func (.func 109) ⟨[]⟩ ⟨[(.pointer (some ⟨439, 0, none⟩))]⟩)]⟩)], 454, [qb13, qb24], (.slice (some ⟨461, 0, none⟩) 3 18446744073709551617), 462, [qb13, qb24, (461, (.rw [(ii 56), (ii 33), (ii 11)] 3 true []))], 454⟩
theorem P13.ok : P13.e.Ok2 Try.prog := ok2 (loud_of (T := tab) tab_fits (n := 1000) (by kernel_rfl)) (by kernel_rfl)
end Go.Am
