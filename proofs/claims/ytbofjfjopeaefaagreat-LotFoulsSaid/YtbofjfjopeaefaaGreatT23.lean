import Derived.Test.YtbofjfjopeaefaaGreatT17
set_option linter.unusedSimpArgs false
set_option linter.unusedVariables false
namespace Go.Am
open Go.Proofs
set_option maxRecDepth 100000
def P6.e : Loud := ⟨147, [(.agg ⟨[(ii 4), (ii 1), (ii 3), (ii 0), (ii 1)]⟩), (.pointer (some ⟨64, 0, none⟩)), (.pointer (some ⟨62, 0, none⟩)), (.pointer (some ⟨65, 0, none⟩))], 300, [qb30, (57, (.rw [(ii 10), (ii 9), (ii 30), (ii 6)] 78 false [])), (61, (.map qm18 69)), qb23, (63, (.map [e5 4 2 3 0 1 0 0 0 0 0 0] 1)), (64, (.rw [(.map (some 63))] 209 false [])), (65, (.rw [(.func (.func 147) ⟨[]⟩ ⟨[(.pointer (some ⟨64, 0, none⟩)), (.pointer (some ⟨62, 0, none⟩)), (.pointer (some ⟨65, 0, none⟩))]⟩)] 210 false []))], (.agg ⟨[(ii 0), (ii 0), (ii 0), (ii 0), (ii 0)]⟩), 347, [qb30, (57, (.rw [(ii 10), (ii 9), (ii 30), (ii 6)] 78 false [])), (61, (.map qm18 69)), qb23, (63, (.map [e5 4 2 3 0 1 0 0 0 0 0 0, e5 4 1 3 0 1 0 0 0 0 0 1] 2)), (64, (.rw [(.map (some 63))] 209 false [])), (65, (.rw [(.func (.func 147) ⟨[]⟩ ⟨[(.pointer (some ⟨64, 0, none⟩)), (.pointer (some ⟨62, 0, none⟩)), (.pointer (some ⟨65, 0, none⟩))]⟩)] 210 false []))], 63⟩
theorem P6.ok : P6.e.Ok2 Tryz.prog := ok2 (loud_of (T := tabP) tabP_fits (n := 400) (by kernel_rfl)) (by kernel_rfl)
end Go.Am
namespace Go.Am
open Go.Proofs
set_option maxRecDepth 100000
def P0.e : Quiet := ⟨82, [(.agg ⟨[(.slice (some ⟨18, 0, none⟩) 3 3), (.slice (some ⟨19, 0, none⟩) 2 2), (ii 2), (.map (some 23))]⟩), (.agg ⟨[(ii 30), (ii 6)]⟩)], 24, [qb33, (19, (.rw [(ii 10), (ii 9), (ii 30), (ii 6)] 78 false [])), (23, (.map [] 0))], (.agg ⟨[(ii 4), (ii 6), (ii 0), (ii 0)]⟩)⟩
theorem P0.ok : P0.e.Ok Tryz.prog := quiet_of (T := tabP) tabP_fits (n := 400) (by kernel_rfl)
end Go.Am
namespace Go.Am
open Go.Proofs
set_option maxRecDepth 100000
def P1.e : Quiet := ⟨82, [(.agg ⟨[(.slice (some ⟨18, 0, none⟩) 3 3), (.slice (some ⟨19, 0, none⟩) 2 2), (ii 2), (.map (some 24))]⟩), (.agg ⟨[(ii 30), (ii 6)]⟩)], 25, [qb33, (19, (.rw [(ii 10), (ii 9), (ii 30), (ii 6)] 78 false [])), (24, (.map [] 0))], (.agg ⟨[(ii 4), (ii 6), (ii 0), (ii 0)]⟩)⟩
theorem P1.ok : P1.e.Ok Tryz.prog := quiet_of (T := tabP) tabP_fits (n := 400) (by kernel_rfl)
end Go.Am
