/- A part of a long run: one call, from one heap. -/
import Derived.Test.YtaieoelbpnjoiaaT5
set_option linter.unusedSimpArgs false
set_option linter.unusedVariables false
namespace Go.Am
open Go.Proofs
set_option maxRecDepth 100000
def P1.e : Loud := ⟨32, [(.agg ⟨[(ii 4), (.slice (some ⟨2, 0, none⟩) 4 4)]⟩), (.agg ⟨[(ii 3), (ii 2)]⟩), (ii 0), (ii 0)], 15, [(0, (.rw [(ii 4), (.slice (some ⟨2, 0, none⟩) 4 4)] 24 false [])), (1, (.rw [(ii 1), (ii 0)] 43 false [])), (2, (.rw [(ii 0), (ii 1), (ii 5), (ii 2), (ii 4), (ii 9), (.bool true), (ii 1), (ii 0), (ii 1), (ii 2), (ii 4), (ii 0), (ii 9), (ii 3), (.bool false), (ii 1), (ii 0), (ii 0), (ii 2), (ii 20), (ii 0), (ii 9), (ii 9), (.bool true), (ii 1), (ii 0), (ii 2), (ii 3), (ii 3), (ii 0), (ii 9), (ii 9), (.bool true), (ii 10), (ii 19)] 45 false [])), (3, (.rw [(ii 4), (.slice (some ⟨2, 0, none⟩) 4 4)] 24 false [])), (4, (.rw [(ii 3), (ii 0)] 26 false [])), (14, (.rw [(ii 0), (ii 5), (ii 9), (ii 23)] 3 true []))], (.tuple ⟨[(.slice (some ⟨24, 0, none⟩) 4 18446744073709551617), (ii 0)]⟩), 25, [(0, (.rw [(ii 4), (.slice (some ⟨2, 0, none⟩) 4 4)] 24 false [])), (1, (.rw [(ii 1), (ii 0)] 43 false [])), (2, (.rw [(ii 0), (ii 1), (ii 5), (ii 2), (ii 4), (ii 9), (.bool true), (ii 1), (ii 0), (ii 1), (ii 2), (ii 4), (ii 0), (ii 9), (ii 3), (.bool false), (ii 1), (ii 0), (ii 0), (ii 2), (ii 20), (ii 0), (ii 9), (ii 9), (.bool true), (ii 1), (ii 0), (ii 2), (ii 3), (ii 3), (ii 0), (ii 9), (ii 9), (.bool true), (ii 10), (ii 19)] 45 false [])), (3, (.rw [(ii 4), (.slice (some ⟨2, 0, none⟩) 4 4)] 24 false [])), (4, (.rw [(ii 3), (ii 0)] 26 false [])), (14, (.rw [(ii 0), (ii 5), (ii 9), (ii 23)] 3 true [])), (24, (.rw [(ii 0), (ii 9), (ii 13), (ii 23)] 3 true []))], 15⟩
theorem P1.ok : P1.e.Ok Try.prog := loud_of (T := tab) tab_fits (n := 400) (by kernel_rfl)
end Go.Am
