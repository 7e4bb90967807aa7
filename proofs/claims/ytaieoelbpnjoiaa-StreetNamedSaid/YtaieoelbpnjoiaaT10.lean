import Derived.Test.YtaieoelbpnjoiaaT5
set_option linter.unusedSimpArgs false
set_option linter.unusedVariables false
namespace Go.Am
open Go.Proofs
set_option maxRecDepth 100000
def P5.e : Quiet := ⟨88, [(.agg ⟨[(ii 4), (.slice (some ⟨2, 0, none⟩) 4 4), (ii 5), (ii 0), (ii 1)]⟩), (ii 0), (ii 0)], 45, [(2, (.rw [(ii 0), (ii 1), (ii 5), (ii 2), (ii 4), (ii 9), (.bool true), (ii 1), (ii 0), (ii 1), (ii 2), (ii 4), (ii 0), (ii 9), (ii 3), (.bool false), (ii 1), (ii 0), (ii 0), (ii 2), (ii 20), (ii 0), (ii 9), (ii 9), (.bool true), (ii 1), (ii 0), (ii 2), (ii 3), (ii 3), (ii 0), (ii 9), (ii 9), (.bool true), (ii 10), (ii 19)] 45 false []))], (.agg ⟨[(ii 0), (ii 5), (ii 9), (ii 23), (ng 0), (ng 0), (ng 0), (ng 0)]⟩)⟩
theorem P5.ok : P5.e.Ok Try.prog := quiet_of (T := tab) tab_fits (n := 400) (by kernel_rfl)
end Go.Am
namespace Go.Am
open Go.Proofs
set_option maxRecDepth 100000
def P6.e : Quiet := ⟨88, [(.agg ⟨[(ii 4), (.slice (some ⟨2, 0, none⟩) 4 4), (ii 5), (ii 0), (ii 2)]⟩), (ii 0), (ii 0)], 47, [(2, (.rw [(ii 0), (ii 1), (ii 5), (ii 2), (ii 4), (ii 9), (.bool true), (ii 1), (ii 0), (ii 1), (ii 2), (ii 4), (ii 0), (ii 9), (ii 3), (.bool false), (ii 1), (ii 0), (ii 0), (ii 2), (ii 20), (ii 0), (ii 9), (ii 9), (.bool true), (ii 1), (ii 0), (ii 2), (ii 3), (ii 3), (ii 0), (ii 9), (ii 9), (.bool true), (ii 10), (ii 19)] 45 false []))], (.agg ⟨[(ii 0), (ng 0), (ii 20), (ii 23), (ng 0), (ng 0), (ng 0), (ng 0)]⟩)⟩
theorem P6.ok : P6.e.Ok Try.prog := quiet_of (T := tab) tab_fits (n := 400) (by kernel_rfl)
end Go.Am
