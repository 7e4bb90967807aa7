/- A part of a long run: one call. -/
import Derived.Test.YtnibabkgeolenaaT14
set_option linter.unusedSimpArgs false
set_option linter.unusedVariables false
namespace Go.Am
open Go.Proofs
set_option maxRecDepth 100000
def P7.e : Loud := ⟨81, [(.agg ⟨[(ii 100), (.slice (some ⟨276, 0, none⟩) 3 18446744073709551619), (ii 0), (ii 0), (ii 0), (ii 0), (ii 0), (ii 0), (.func (.func 109) ⟨[]⟩ ⟨[(.pointer (some ⟨277, 0, none⟩))]⟩)]⟩)], 292, [qb5, qb18], (.slice (some ⟨299, 0, none⟩) 3 18446744073709551617), 300, [qb5, qb18, (299, (.rw [(ii 95), (ii 4), (ii 1)] 3 true []))], 292⟩
theorem P7.ok : P7.e.Ok2 Try.prog := ok2 (loud_of (T := tab) tab_fits (n := 1000) (by kernel_rfl)) (by kernel_rfl)
end Go.Am
