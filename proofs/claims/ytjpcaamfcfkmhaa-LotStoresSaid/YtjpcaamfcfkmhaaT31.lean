import Derived.Test.YtjpcaamfcfkmhaaT19
set_option linter.unusedSimpArgs false
set_option linter.unusedVariables false
namespace Go.Am
open Go.Proofs
set_option maxRecDepth 100000
def P3.e : Quiet := ⟨88, [(.agg ⟨[(.slice (some ⟨43, 0, none⟩) 3 3), (.slice (some ⟨44, 0, none⟩) 2 2), (ii 2), (.map (some 51)), (ii 4), (ii 6), (ii 0), (ii 0), (ii 5), (ii 3)]⟩), (ii 1)], 55, [(43, (.rw [(ii 4), (ii 2), (ii 0), (ii 0), (ii 6), (ii 1), (ii 2), (ii 0), (ii 3), (ii 3), (ii 2), (ii 1)] 87 false [])), (44, (.rw [(ii 10), (ii 9), (ii 30), (ii 6)] 77 false [])), (51, (.map [] 0))], (.agg ⟨[(ii 1), (ii 1)]⟩)⟩
theorem P3.ok : P3.e.Ok Try.prog := quiet_of (T := tabP) tabP_fits (n := 400) (by kernel_rfl)
end Go.Am
