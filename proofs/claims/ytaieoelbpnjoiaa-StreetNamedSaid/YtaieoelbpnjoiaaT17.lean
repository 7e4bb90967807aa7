import Derived.Test.YtaieoelbpnjoiaaT6
import Derived.Test.YtaieoelbpnjoiaaT7
import Derived.Test.YtaieoelbpnjoiaaT8
import Derived.Test.YtaieoelbpnjoiaaT12
import Derived.Test.YtaieoelbpnjoiaaT13
import Derived.Test.YtaieoelbpnjoiaaT14
import Derived.Test.YtaieoelbpnjoiaaT15
import Derived.Test.YtaieoelbpnjoiaaT16
set_option linter.unusedSimpArgs false
set_option linter.unusedVariables false
namespace Go.Am
open Go.Proofs
set_option maxRecDepth 100000
def awakeE : Quiet := ⟨18, [], 0, [], .bool true⟩
theorem awake_part : awakeE.Ok Try.prog := quiet_of (T := tab.knows [P0.e, P1.e, P2.e, P8.e, P9.e, P11.e] [P10.e, P12.e]) (tab.knows_fits tab_fits ⟨P0.ok, P1.ok, P2.ok, P8.ok, P9.ok, P11.ok, trivial⟩ ⟨P10.ok, P12.ok, trivial⟩) (n := 400) (by kernel_rfl)
end Go.Am
