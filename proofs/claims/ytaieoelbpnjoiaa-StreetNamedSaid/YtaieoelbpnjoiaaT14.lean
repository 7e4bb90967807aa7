import Derived.Test.YtaieoelbpnjoiaaT5
set_option linter.unusedSimpArgs false
set_option linter.unusedVariables false
namespace Go.Am
open Go.Proofs
set_option maxRecDepth 100000
def P10.e : Quiet := ⟨46, [(.agg ⟨[(ii 4), (.slice (some ⟨2, 0, none⟩) 4 4)]⟩), (.agg ⟨[(ii 3), (ii 0)]⟩), (ii 0), (ii 2), (ii 0), (ii 1)], 580, [(2, (.rw [(ii 0), (ii 1), (ii 5), (ii 2), (ii 4), (ii 9), (.bool true), (ii 1), (ii 0), (ii 1), (ii 2), (ii 4), (ii 0), (ii 9), (ii 3), (.bool false), (ii 1), (ii 0), (ii 0), (ii 2), (ii 20), (ii 0), (ii 9), (ii 9), (.bool true), (ii 1), (ii 0), (ii 2), (ii 3), (ii 3), (ii 0), (ii 9), (ii 9), (.bool true), (ii 10), (ii 19)] 45 false []))], (.tuple ⟨[(ii 11), (ii 0)]⟩)⟩
theorem P10.ok : P10.e.Ok Try.prog := quiet_of (T := tab) tab_fits (n := 400) (by kernel_rfl)
end Go.Am
