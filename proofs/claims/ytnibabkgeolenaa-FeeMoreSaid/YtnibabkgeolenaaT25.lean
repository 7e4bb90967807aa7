/- A part of a long run: one call. -/
import Derived.Test.YtnibabkgeolenaaT14
set_option linter.unusedSimpArgs false
set_option linter.unusedVariables false
namespace Go.Am
open Go.Proofs
set_option maxRecDepth 100000
def P12.e : Loud := ⟨81, [(.agg ⟨[(ii 100), (.slice (some ⟨411, 0, none⟩) 3 18446744073709551619), (ii 0), (ii 0), (ii 0), (ii 0), (ii 0), (ii 0), (.func (.func 109) ⟨[]⟩ ⟨[(.pointer (some ⟨412, 0, none⟩))]⟩)]⟩)], 427, [qb12, qb23], (.slice (some ⟨434, 0, none⟩) 3 18446744073709551617), 435, [qb12, qb23, (434, (.rw [(ii 50), (ii 38), (ii 12)] 3 true []))], 427⟩
theorem P12.ok : P12.e.Ok2 Try.prog := ok2 (loud_of (T := tab) tab_fits (n := 1000) (by kernel_rfl)) (by kernel_rfl)
end Go.Am
/- A part of a long run: one call. -/
namespace Go.Am
open Go.Proofs
set_option maxRecDepth 100000
def P17.e : Quiet := ⟨95, [(.agg ⟨[(.slice (some ⟨196, 0, none⟩) 2 2), (.slice (some ⟨197, 0, none⟩) 2 2), (ii 10), (ii 5)]⟩), (ii 1)], 206, [qb29, (197, (.rw [(ii 5), (ii 60), (ii 25), (ii 90)] 98 false []))], (ng 0)⟩
theorem P17.ok : P17.e.Ok Try.prog := quiet_of (T := tab) tab_fits (n := 1000) (by kernel_rfl)
end Go.Am
