import Derived.Test.YtjpcaamfcfkmhaaT22
set_option linter.unusedSimpArgs false
set_option linter.unusedVariables false
namespace Go.Am
open Go.Proofs
set_option maxRecDepth 100000
def P0.e : Quiet := ⟨111, [(.agg ⟨[(.slice (some ⟨18, 0, none⟩) 3 3), (.slice (some ⟨19, 0, none⟩) 2 2), (ii 2), (.map (some 23))]⟩), (.agg ⟨[(ii 30), (ii 6)]⟩)], 24, [(18, (.rw [(ii 4), (ii 2), (ii 0), (ii 0), (ii 6), (ii 1), (ii 2), (ii 0), (ii 3), (ii 3), (ii 2), (ii 1)] 87 false [])), (19, (.rw [(ii 10), (ii 9), (ii 30), (ii 6)] 77 false [])), (23, (.map [] 0))], (.agg ⟨[(ii 4), (ii 6), (ii 0), (ii 0)]⟩)⟩
theorem P0.ok : P0.e.Ok Try.prog := quiet_of (T := tabP) tabP_fits (n := 400) (by kernel_rfl)
end Go.Am
namespace Go.Am
open Go.Proofs
set_option maxRecDepth 100000
def P1.e : Quiet := ⟨111, [(.agg ⟨[(.slice (some ⟨18, 0, none⟩) 3 3), (.slice (some ⟨19, 0, none⟩) 2 2), (ii 2), (.map (some 24))]⟩), (.agg ⟨[(ii 30), (ii 6)]⟩)], 25, [(18, (.rw [(ii 4), (ii 2), (ii 0), (ii 0), (ii 6), (ii 1), (ii 2), (ii 0), (ii 3), (ii 3), (ii 2), (ii 1)] 87 false [])), (19, (.rw [(ii 10), (ii 9), (ii 30), (ii 6)] 77 false [])), (24, (.map [] 0))], (.agg ⟨[(ii 4), (ii 6), (ii 0), (ii 0)]⟩)⟩
theorem P1.ok : P1.e.Ok Try.prog := quiet_of (T := tabP) tabP_fits (n := 400) (by kernel_rfl)
end Go.Am
