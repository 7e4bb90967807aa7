import Derived.Test.YtbofjfjopeaefaaGreatT17
set_option linter.unusedSimpArgs false
set_option linter.unusedVariables false
namespace Go.Am
open Go.Proofs
set_option maxRecDepth 100000
def P18.e : Loud := ⟨147, [(.agg ⟨[(ii 4), (ii 1), (ii 0), (ii 0), (ii 1)]⟩), (.pointer (some ⟨728, 0, none⟩)), (.pointer (some ⟨726, 0, none⟩)), (.pointer (some ⟨729, 0, none⟩))], 1329, [qb38, (720, (.rw [(ii 10), (ii 9), (ii 30), (ii 6)] 78 true [])), (725, (.map qm14 120)), qb5, (727, (.map qm38 6)), (728, (.rw [(.map (some 727))] 209 false [])), (729, (.rw [(.func (.func 147) ⟨[]⟩ ⟨[(.pointer (some ⟨728, 0, none⟩)), (.pointer (some ⟨726, 0, none⟩)), (.pointer (some ⟨729, 0, none⟩))]⟩)] 210 false []))], (.agg ⟨[(ii 0), (ii 1), (ii 0), (ii 0), (ii 9)]⟩), 1346, [qb38, (720, (.rw [(ii 10), (ii 9), (ii 30), (ii 6)] 78 true [])), (725, (.map qm14 120)), qb5, (727, (.map qm37 7)), (728, (.rw [(.map (some 727))] 209 false [])), (729, (.rw [(.func (.func 147) ⟨[]⟩ ⟨[(.pointer (some ⟨728, 0, none⟩)), (.pointer (some ⟨726, 0, none⟩)), (.pointer (some ⟨729, 0, none⟩))]⟩)] 210 false []))], 727⟩
theorem P18.ok : P18.e.Ok2 Tryz.prog := ok2 (loud_of (T := tabP) tabP_fits (n := 400) (by kernel_rfl)) (by kernel_rfl)
end Go.Am
namespace Go.Am
open Go.Proofs
set_option maxRecDepth 100000
def P21.e : Loud := ⟨147, [(.agg ⟨[(ii 4), (ii 0), (ii 1), (ii 0), (ii 1)]⟩), (.pointer (some ⟨728, 0, none⟩)), (.pointer (some ⟨726, 0, none⟩)), (.pointer (some ⟨729, 0, none⟩))], 1404, [qb38, (720, (.rw [(ii 10), (ii 9), (ii 30), (ii 6)] 78 true [])), (725, (.map qm11 123)), qb5, (727, (.map qm35 9)), (728, (.rw [(.map (some 727))] 209 false [])), (729, (.rw [(.func (.func 147) ⟨[]⟩ ⟨[(.pointer (some ⟨728, 0, none⟩)), (.pointer (some ⟨726, 0, none⟩)), (.pointer (some ⟨729, 0, none⟩))]⟩)] 210 false []))], (.agg ⟨[(ii 0), (ii 0), (ii 0), (ii 0), (ii 0)]⟩), 1421, [qb38, (720, (.rw [(ii 10), (ii 9), (ii 30), (ii 6)] 78 true [])), (725, (.map qm11 123)), qb5, (727, (.map qm34 10)), (728, (.rw [(.map (some 727))] 209 false [])), (729, (.rw [(.func (.func 147) ⟨[]⟩ ⟨[(.pointer (some ⟨728, 0, none⟩)), (.pointer (some ⟨726, 0, none⟩)), (.pointer (some ⟨729, 0, none⟩))]⟩)] 210 false []))], 727⟩
theorem P21.ok : P21.e.Ok2 Tryz.prog := ok2 (loud_of (T := tabP) tabP_fits (n := 400) (by kernel_rfl)) (by kernel_rfl)
end Go.Am
namespace Go.Am
open Go.Proofs
set_option maxRecDepth 100000
def P4.e : Quiet := ⟨136, [(.agg ⟨[(.slice (some ⟨43, 0, none⟩) 3 3), (.slice (some ⟨44, 0, none⟩) 2 2), (ii 2), (.map (some 51)), (ii 4), (ii 6), (ii 0), (ii 0), (ii 5), (ii 3)]⟩), (ii 2)], 55, [qb37, (44, (.rw [(ii 10), (ii 9), (ii 30), (ii 6)] 78 false [])), (51, (.map [] 0))], (.agg ⟨[(ii 1), (ii 2)]⟩)⟩
theorem P4.ok : P4.e.Ok Tryz.prog := quiet_of (T := tabP) tabP_fits (n := 400) (by kernel_rfl)
end Go.Am
