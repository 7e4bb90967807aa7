/- A part of a long run: one call. -/
import Derived.Test.YtnibabkgeolenaaT14
set_option linter.unusedSimpArgs false
set_option linter.unusedVariables false
namespace Go.Am
open Go.Proofs
set_option maxRecDepth 100000
def P5.e : Loud := ⟨81, [(.agg ⟨[(ii 100), (.slice (some ⟨222, 0, none⟩) 3 18446744073709551619), (ii 0), (ii 0), (ii 0), (ii 0), (ii 0), (ii 0), (.func (.func 109) ⟨[]⟩ ⟨[(.pointer (some ⟨223, 0, none⟩))]⟩)]⟩)], 238, [qb1, qb16], (.slice (some ⟨245, 0, none⟩) 3 18446744073709551617), 246, [qb1, qb16, (245, (.rw [(ii 99), (ii 1), (ii 0)] 3 true []))], 238⟩
theorem P5.ok : P5.e.Ok2 Try.prog := ok2 (loud_of (T := tab) tab_fits (n := 1000) (by kernel_rfl)) (by kernel_rfl)
end Go.Am
/- A part of a long run: one call. -/
namespace Go.Am
open Go.Proofs
set_option maxRecDepth 100000
def P14.e : Quiet := ⟨95, [(.agg ⟨[(.slice (some ⟨188, 0, none⟩) 2 2), (.slice (some ⟨189, 0, none⟩) 2 2), (ii 10), (ii 5)]⟩), (ii 0)], 191, [qb28, (189, (.rw [(ii 5), (ii 60), (ii 25), (ii 90)] 98 false []))], (ii 25)⟩
theorem P14.ok : P14.e.Ok Try.prog := quiet_of (T := tab) tab_fits (n := 1000) (by kernel_rfl)
end Go.Am
/- A part of a long run: one call. -/
namespace Go.Am
open Go.Proofs
set_option maxRecDepth 100000
def P16.e : Quiet := ⟨95, [(.agg ⟨[(.slice (some ⟨196, 0, none⟩) 2 2), (.slice (some ⟨197, 0, none⟩) 2 2), (ii 10), (ii 5)]⟩), (ii 0)], 201, [qb29, (197, (.rw [(ii 5), (ii 60), (ii 25), (ii 90)] 98 false []))], (ii 25)⟩
theorem P16.ok : P16.e.Ok Try.prog := quiet_of (T := tab) tab_fits (n := 1000) (by kernel_rfl)
end Go.Am
