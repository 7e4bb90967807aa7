/- A part of a long run: one call, from one heap. -/
import Derived.Test.YtaieoelbpnjoiaaT9
import Derived.Test.YtaieoelbpnjoiaaT10
import Derived.Test.YtaieoelbpnjoiaaT11
set_option linter.unusedSimpArgs false
set_option linter.unusedVariables false
namespace Go.Am
open Go.Proofs
set_option maxRecDepth 100000
def P8.e : Loud := ⟨62, [(.agg ⟨[(ii 4), (.slice (some ⟨2, 0, none⟩) 4 4)]⟩), (.agg ⟨[(ii 5), (ii 0)]⟩), (ii 0), (ii 1), (ii 0)], 35, [(0, (.rw [(ii 4), (.slice (some ⟨2, 0, none⟩) 4 4)] 24 false [])), (1, (.rw [(ii 1), (ii 0)] 43 false [])), (2, (.rw [(ii 0), (ii 1), (ii 5), (ii 2), (ii 4), (ii 9), (.bool true), (ii 1), (ii 0), (ii 1), (ii 2), (ii 4), (ii 0), (ii 9), (ii 3), (.bool false), (ii 1), (ii 0), (ii 0), (ii 2), (ii 20), (ii 0), (ii 9), (ii 9), (.bool true), (ii 1), (ii 0), (ii 2), (ii 3), (ii 3), (ii 0), (ii 9), (ii 9), (.bool true), (ii 10), (ii 19)] 45 false [])), (3, (.rw [(ii 4), (.slice (some ⟨2, 0, none⟩) 4 4)] 24 false [])), (4, (.rw [(ii 3), (ii 0)] 26 false [])), (14, (.rw [(ii 0), (ii 5), (ii 9), (ii 23)] 3 true [])), (24, (.rw [(ii 0), (ii 9), (ii 13), (ii 23)] 3 true [])), (34, (.rw [(ii 18), (ii 23), (ii 27), (ii 30)] 3 true []))], (.tuple ⟨[(.slice (some ⟨46, 0, none⟩) 2 18446744073709551617), (ii 0)]⟩), 47, [(0, (.rw [(ii 4), (.slice (some ⟨2, 0, none⟩) 4 4)] 24 false [])), (1, (.rw [(ii 1), (ii 0)] 43 false [])), (2, (.rw [(ii 0), (ii 1), (ii 5), (ii 2), (ii 4), (ii 9), (.bool true), (ii 1), (ii 0), (ii 1), (ii 2), (ii 4), (ii 0), (ii 9), (ii 3), (.bool false), (ii 1), (ii 0), (ii 0), (ii 2), (ii 20), (ii 0), (ii 9), (ii 9), (.bool true), (ii 1), (ii 0), (ii 2), (ii 3), (ii 3), (ii 0), (ii 9), (ii 9), (.bool true), (ii 10), (ii 19)] 45 false [])), (3, (.rw [(ii 4), (.slice (some ⟨2, 0, none⟩) 4 4)] 24 false [])), (4, (.rw [(ii 3), (ii 0)] 26 false [])), (14, (.rw [(ii 0), (ii 5), (ii 9), (ii 23)] 3 true [])), (24, (.rw [(ii 0), (ii 9), (ii 13), (ii 23)] 3 true [])), (34, (.rw [(ii 18), (ii 23), (ii 27), (ii 30)] 3 true [])), (44, (.ro [(ii 0)])), (46, (.rw [(ii 0), (ii 1)] 105 true [44]))], 35⟩
theorem P8.ok : P8.e.Ok Try.prog := loud_of (T := (tab.knows [] [P3.e, P4.e, P5.e, P6.e, P7.e])) (tab.knows_fits tab_fits trivial ⟨P3.ok, P4.ok, P5.ok, P6.ok, P7.ok, trivial⟩) (n := 400) (by kernel_rfl)
end Go.Am
