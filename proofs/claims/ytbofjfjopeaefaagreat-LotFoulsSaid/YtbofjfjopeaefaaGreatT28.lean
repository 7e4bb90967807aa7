import Derived.Test.YtbofjfjopeaefaaGreatT17
set_option linter.unusedSimpArgs false
set_option linter.unusedVariables false
namespace Go.Am
open Go.Proofs
set_option maxRecDepth 100000
def P7.e : Loud := ⟨147, [(.agg ⟨[(ii 4), (ii 0), (ii 3), (ii 0), (ii 1)]⟩), (.pointer (some ⟨64, 0, none⟩)), (.pointer (some ⟨62, 0, none⟩)), (.pointer (some ⟨65, 0, none⟩))], 359, [qb30, (57, (.rw [(ii 10), (ii 9), (ii 30), (ii 6)] 78 false [])), (61, (.map qm17 73)), qb23, (63, (.map [e5 4 2 3 0 1 0 0 0 0 0 0, e5 4 1 3 0 1 0 0 0 0 0 1] 2)), (64, (.rw [(.map (some 63))] 209 false [])), (65, (.rw [(.func (.func 147) ⟨[]⟩ ⟨[(.pointer (some ⟨64, 0, none⟩)), (.pointer (some ⟨62, 0, none⟩)), (.pointer (some ⟨65, 0, none⟩))]⟩)] 210 false []))], (.agg ⟨[(ii 0), (ii 0), (ii 0), (ii 0), (ii 0)]⟩), 386, [qb30, (57, (.rw [(ii 10), (ii 9), (ii 30), (ii 6)] 78 false [])), (61, (.map qm17 73)), qb23, (63, (.map qm44 3)), (64, (.rw [(.map (some 63))] 209 false [])), (65, (.rw [(.func (.func 147) ⟨[]⟩ ⟨[(.pointer (some ⟨64, 0, none⟩)), (.pointer (some ⟨62, 0, none⟩)), (.pointer (some ⟨65, 0, none⟩))]⟩)] 210 false []))], 63⟩
theorem P7.ok : P7.e.Ok2 Tryz.prog := ok2 (loud_of (T := tabP) tabP_fits (n := 400) (by kernel_rfl)) (by kernel_rfl)
end Go.Am
namespace Go.Am
open Go.Proofs
set_option maxRecDepth 100000
def P8.e : Loud := ⟨147, [(.agg ⟨[(ii 4), (ii 0), (ii 2), (ii 0), (ii 1)]⟩), (.pointer (some ⟨64, 0, none⟩)), (.pointer (some ⟨62, 0, none⟩)), (.pointer (some ⟨65, 0, none⟩))], 389, [qb30, (57, (.rw [(ii 10), (ii 9), (ii 30), (ii 6)] 78 false [])), (61, (.map qm16 74)), qb23, (63, (.map qm44 3)), (64, (.rw [(.map (some 63))] 209 false [])), (65, (.rw [(.func (.func 147) ⟨[]⟩ ⟨[(.pointer (some ⟨64, 0, none⟩)), (.pointer (some ⟨62, 0, none⟩)), (.pointer (some ⟨65, 0, none⟩))]⟩)] 210 false []))], (.agg ⟨[(ii 0), (ii 0), (ii 0), (ii 0), (ii 0)]⟩), 411, [qb30, (57, (.rw [(ii 10), (ii 9), (ii 30), (ii 6)] 78 false [])), (61, (.map qm16 74)), qb23, (63, (.map qm42 4)), (64, (.rw [(.map (some 63))] 209 false [])), (65, (.rw [(.func (.func 147) ⟨[]⟩ ⟨[(.pointer (some ⟨64, 0, none⟩)), (.pointer (some ⟨62, 0, none⟩)), (.pointer (some ⟨65, 0, none⟩))]⟩)] 210 false []))], 63⟩
theorem P8.ok : P8.e.Ok2 Tryz.prog := ok2 (loud_of (T := tabP) tabP_fits (n := 400) (by kernel_rfl)) (by kernel_rfl)
end Go.Am
namespace Go.Am
open Go.Proofs
set_option maxRecDepth 100000
def P9.e : Loud := ⟨147, [(.agg ⟨[(ii 3), (ii 0), (ii 3), (ii 0), (ii 1)]⟩), (.pointer (some ⟨64, 0, none⟩)), (.pointer (some ⟨62, 0, none⟩)), (.pointer (some ⟨65, 0, none⟩))], 468, [qb30, (57, (.rw [(ii 10), (ii 9), (ii 30), (ii 6)] 78 false [])), (61, (.map qm15 89)), qb23, (63, (.map qm42 4)), (64, (.rw [(.map (some 63))] 209 false [])), (65, (.rw [(.func (.func 147) ⟨[]⟩ ⟨[(.pointer (some ⟨64, 0, none⟩)), (.pointer (some ⟨62, 0, none⟩)), (.pointer (some ⟨65, 0, none⟩))]⟩)] 210 false []))], (.agg ⟨[(ii 0), (ii 0), (ii 0), (ii 0), (ii 0)]⟩), 491, [qb30, (57, (.rw [(ii 10), (ii 9), (ii 30), (ii 6)] 78 false [])), (61, (.map qm15 89)), qb23, (63, (.map qm40 5)), (64, (.rw [(.map (some 63))] 209 false [])), (65, (.rw [(.func (.func 147) ⟨[]⟩ ⟨[(.pointer (some ⟨64, 0, none⟩)), (.pointer (some ⟨62, 0, none⟩)), (.pointer (some ⟨65, 0, none⟩))]⟩)] 210 false []))], 63⟩
theorem P9.ok : P9.e.Ok2 Tryz.prog := ok2 (loud_of (T := tabP) tabP_fits (n := 400) (by kernel_rfl)) (by kernel_rfl)
end Go.Am
namespace Go.Am
open Go.Proofs
set_option maxRecDepth 100000
def P20.e : Loud := ⟨147, [(.agg ⟨[(ii 4), (ii 0), (ii 2), (ii 0), (ii 1)]⟩), (.pointer (some ⟨728, 0, none⟩)), (.pointer (some ⟨726, 0, none⟩)), (.pointer (some ⟨729, 0, none⟩))], 1379, [qb38, (720, (.rw [(ii 10), (ii 9), (ii 30), (ii 6)] 78 true [])), (725, (.map qm12 122)), qb5, (727, (.map qm36 8)), (728, (.rw [(.map (some 727))] 209 false [])), (729, (.rw [(.func (.func 147) ⟨[]⟩ ⟨[(.pointer (some ⟨728, 0, none⟩)), (.pointer (some ⟨726, 0, none⟩)), (.pointer (some ⟨729, 0, none⟩))]⟩)] 210 false []))], (.agg ⟨[(ii 0), (ii 0), (ii 0), (ii 0), (ii 0)]⟩), 1401, [qb38, (720, (.rw [(ii 10), (ii 9), (ii 30), (ii 6)] 78 true [])), (725, (.map qm12 122)), qb5, (727, (.map qm35 9)), (728, (.rw [(.map (some 727))] 209 false [])), (729, (.rw [(.func (.func 147) ⟨[]⟩ ⟨[(.pointer (some ⟨728, 0, none⟩)), (.pointer (some ⟨726, 0, none⟩)), (.pointer (some ⟨729, 0, none⟩))]⟩)] 210 false []))], 727⟩
theorem P20.ok : P20.e.Ok2 Tryz.prog := ok2 (loud_of (T := tabP) tabP_fits (n := 400) (by kernel_rfl)) (by kernel_rfl)
end Go.Am
namespace Go.Am
open Go.Proofs
set_option maxRecDepth 100000
def P26.e : Loud := ⟨147, [(.agg ⟨[(ii 3), (ii 0), (ii 2), (ii 0), (ii 1)]⟩), (.pointer (some ⟨728, 0, none⟩)), (.pointer (some ⟨726, 0, none⟩)), (.pointer (some ⟨729, 0, none⟩))], 1559, [qb38, (720, (.rw [(ii 10), (ii 9), (ii 30), (ii 6)] 78 true [])), (725, (.map qm8 126)), qb5, (727, (.map qm29 14)), (728, (.rw [(.map (some 727))] 209 false [])), (729, (.rw [(.func (.func 147) ⟨[]⟩ ⟨[(.pointer (some ⟨728, 0, none⟩)), (.pointer (some ⟨726, 0, none⟩)), (.pointer (some ⟨729, 0, none⟩))]⟩)] 210 false []))], (.agg ⟨[(ii 0), (ii 0), (ii 0), (ii 0), (ii 0)]⟩), 1578, [qb38, (720, (.rw [(ii 10), (ii 9), (ii 30), (ii 6)] 78 true [])), (725, (.map qm8 126)), qb5, (727, (.map [e5 4 5 3 0 1 4 5 1 0 60 0, e5 4 2 3 0 1 0 2 0 0 18 1, e5 4 2 0 0 1 0 2 0 0 18 2, e5 4 1 3 0 1 0 1 0 0 9 3, e5 4 1 2 0 1 0 1 0 0 9 4, e5 4 1 1 0 1 0 1 0 0 9 5, e5 4 1 0 0 1 0 1 0 0 9 6, e5 4 0 3 0 1 0 0 0 0 0 7, e5 4 0 2 0 1 0 0 0 0 0 8, e5 4 0 1 0 1 0 0 0 0 0 9, e5 4 0 0 0 1 0 0 0 0 0 10, e5 3 1 3 0 1 0 1 0 0 9 11, e5 3 1 2 0 1 0 1 0 0 9 12, e5 3 0 3 0 1 0 0 0 0 0 13, e5 3 0 2 0 1 0 0 0 0 0 14] 15)), (728, (.rw [(.map (some 727))] 209 false [])), (729, (.rw [(.func (.func 147) ⟨[]⟩ ⟨[(.pointer (some ⟨728, 0, none⟩)), (.pointer (some ⟨726, 0, none⟩)), (.pointer (some ⟨729, 0, none⟩))]⟩)] 210 false []))], 727⟩
theorem P26.ok : P26.e.Ok2 Tryz.prog := ok2 (loud_of (T := tabP) tabP_fits (n := 400) (by kernel_rfl)) (by kernel_rfl)
end Go.Am
namespace Go.Am
open Go.Proofs
set_option maxRecDepth 100000
def P28.e : Loud := ⟨147, [(.agg ⟨[(ii 2), (ii 0), (ii 3), (ii 0), (ii 1)]⟩), (.pointer (some ⟨728, 0, none⟩)), (.pointer (some ⟨726, 0, none⟩)), (.pointer (some ⟨729, 0, none⟩))], 1653, [qb38, (720, (.rw [(ii 10), (ii 9), (ii 30), (ii 6)] 78 true [])), (725, (.map qm6 129)), qb5, (727, (.map qm28 17)), (728, (.rw [(.map (some 727))] 209 false [])), (729, (.rw [(.func (.func 147) ⟨[]⟩ ⟨[(.pointer (some ⟨728, 0, none⟩)), (.pointer (some ⟨726, 0, none⟩)), (.pointer (some ⟨729, 0, none⟩))]⟩)] 210 false []))], (.agg ⟨[(ii 0), (ii 0), (ii 0), (ii 0), (ii 0)]⟩), 1672, [qb38, (720, (.rw [(ii 10), (ii 9), (ii 30), (ii 6)] 78 true [])), (725, (.map qm6 129)), qb5, (727, (.map qm27 18)), (728, (.rw [(.map (some 727))] 209 false [])), (729, (.rw [(.func (.func 147) ⟨[]⟩ ⟨[(.pointer (some ⟨728, 0, none⟩)), (.pointer (some ⟨726, 0, none⟩)), (.pointer (some ⟨729, 0, none⟩))]⟩)] 210 false []))], 727⟩
theorem P28.ok : P28.e.Ok2 Tryz.prog := ok2 (loud_of (T := tabP) tabP_fits (n := 400) (by kernel_rfl)) (by kernel_rfl)
end Go.Am
namespace Go.Am
open Go.Proofs
set_option maxRecDepth 100000
def P35.e : Loud := ⟨147, [(.agg ⟨[(ii 0), (ii 1), (ii 3), (ii 0), (ii 1)]⟩), (.pointer (some ⟨728, 0, none⟩)), (.pointer (some ⟨726, 0, none⟩)), (.pointer (some ⟨729, 0, none⟩))], 1862, [qb38, (720, (.rw [(ii 10), (ii 9), (ii 30), (ii 6)] 78 true [])), (725, (.map qm2 136)), qb5, (727, (.map qm21 24)), (728, (.rw [(.map (some 727))] 209 false [])), (729, (.rw [(.func (.func 147) ⟨[]⟩ ⟨[(.pointer (some ⟨728, 0, none⟩)), (.pointer (some ⟨726, 0, none⟩)), (.pointer (some ⟨729, 0, none⟩))]⟩)] 210 false []))], (.agg ⟨[(ii 0), (ii 1), (ii 0), (ii 0), (ii 9)]⟩), 1877, [qb38, (720, (.rw [(ii 10), (ii 9), (ii 30), (ii 6)] 78 true [])), (725, (.map qm2 136)), qb5, (727, (.map qm20 25)), (728, (.rw [(.map (some 727))] 209 false [])), (729, (.rw [(.func (.func 147) ⟨[]⟩ ⟨[(.pointer (some ⟨728, 0, none⟩)), (.pointer (some ⟨726, 0, none⟩)), (.pointer (some ⟨729, 0, none⟩))]⟩)] 210 false []))], 727⟩
theorem P35.ok : P35.e.Ok2 Tryz.prog := ok2 (loud_of (T := tabP) tabP_fits (n := 400) (by kernel_rfl)) (by kernel_rfl)
end Go.Am
namespace Go.Am
open Go.Proofs
set_option maxRecDepth 100000
def P36.e : Loud := ⟨147, [(.agg ⟨[(ii 0), (ii 1), (ii 2), (ii 0), (ii 1)]⟩), (.pointer (some ⟨728, 0, none⟩)), (.pointer (some ⟨726, 0, none⟩)), (.pointer (some ⟨729, 0, none⟩))], 1878, [qb38, (720, (.rw [(ii 10), (ii 9), (ii 30), (ii 6)] 78 true [])), (725, (.map qm2 136)), qb5, (727, (.map qm20 25)), (728, (.rw [(.map (some 727))] 209 false [])), (729, (.rw [(.func (.func 147) ⟨[]⟩ ⟨[(.pointer (some ⟨728, 0, none⟩)), (.pointer (some ⟨726, 0, none⟩)), (.pointer (some ⟨729, 0, none⟩))]⟩)] 210 false []))], (.agg ⟨[(ii 0), (ii 1), (ii 0), (ii 0), (ii 9)]⟩), 1891, [qb38, (720, (.rw [(ii 10), (ii 9), (ii 30), (ii 6)] 78 true [])), (725, (.map qm2 136)), qb5, (727, (.map [e5 4 5 3 0 1 4 5 1 0 60 0, e5 4 2 3 0 1 0 2 0 0 18 1, e5 4 2 0 0 1 0 2 0 0 18 2, e5 4 1 3 0 1 0 1 0 0 9 3, e5 4 1 2 0 1 0 1 0 0 9 4, e5 4 1 1 0 1 0 1 0 0 9 5, e5 4 1 0 0 1 0 1 0 0 9 6, e5 4 0 3 0 1 0 0 0 0 0 7, e5 4 0 2 0 1 0 0 0 0 0 8, e5 4 0 1 0 1 0 0 0 0 0 9, e5 4 0 0 0 1 0 0 0 0 0 10, e5 3 1 3 0 1 0 1 0 0 9 11, e5 3 1 2 0 1 0 1 0 0 9 12, e5 3 0 3 0 1 0 0 0 0 0 13, e5 3 0 2 0 1 0 0 0 0 0 14, e5 3 0 0 0 1 0 0 0 0 0 15, e5 2 1 3 0 1 0 1 0 0 9 16, e5 2 0 3 0 1 0 0 0 0 0 17, e5 1 2 3 0 1 0 2 0 0 18 18, e5 1 1 3 0 1 0 1 0 0 9 19, e5 1 0 3 0 1 0 0 0 0 0 20, e5 1 0 2 0 1 0 0 0 0 0 21, e5 0 3 3 0 1 0 3 0 0 27 22, e5 0 2 3 0 1 0 2 0 0 18 23, e5 0 1 3 0 1 0 1 0 0 9 24, e5 0 1 2 0 1 0 1 0 0 9 25] 26)), (728, (.rw [(.map (some 727))] 209 false [])), (729, (.rw [(.func (.func 147) ⟨[]⟩ ⟨[(.pointer (some ⟨728, 0, none⟩)), (.pointer (some ⟨726, 0, none⟩)), (.pointer (some ⟨729, 0, none⟩))]⟩)] 210 false []))], 727⟩
theorem P36.ok : P36.e.Ok2 Tryz.prog := ok2 (loud_of (T := tabP) tabP_fits (n := 400) (by kernel_rfl)) (by kernel_rfl)
end Go.Am
namespace Go.Am
open Go.Proofs
set_option maxRecDepth 100000
def P3.e : Quiet := ⟨136, [(.agg ⟨[(.slice (some ⟨43, 0, none⟩) 3 3), (.slice (some ⟨44, 0, none⟩) 2 2), (ii 2), (.map (some 51)), (ii 4), (ii 6), (ii 0), (ii 0), (ii 5), (ii 3)]⟩), (ii 1)], 55, [qb37, (44, (.rw [(ii 10), (ii 9), (ii 30), (ii 6)] 78 false [])), (51, (.map [] 0))], (.agg ⟨[(ii 1), (ii 1)]⟩)⟩
theorem P3.ok : P3.e.Ok Tryz.prog := quiet_of (T := tabP) tabP_fits (n := 400) (by kernel_rfl)
end Go.Am
