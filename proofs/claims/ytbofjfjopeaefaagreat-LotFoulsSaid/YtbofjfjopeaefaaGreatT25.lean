import Derived.Test.YtbofjfjopeaefaaGreatT17
set_option linter.unusedSimpArgs false
set_option linter.unusedVariables false
namespace Go.Am
open Go.Proofs
set_option maxRecDepth 100000
def P5.e : Loud := ⟨147, [(.agg ⟨[(ii 4), (ii 2), (ii 3), (ii 0), (ii 1)]⟩), (.pointer (some ⟨64, 0, none⟩)), (.pointer (some ⟨62, 0, none⟩)), (.pointer (some ⟨65, 0, none⟩))], 125, [qb30, (57, (.rw [(ii 10), (ii 9), (ii 30), (ii 6)] 78 false [])), (61, (.map qm33 17)), qb23, (63, (.map [] 0)), (64, (.rw [(.map (some 63))] 209 false [])), (65, (.rw [(.func (.func 147) ⟨[]⟩ ⟨[(.pointer (some ⟨64, 0, none⟩)), (.pointer (some ⟨62, 0, none⟩)), (.pointer (some ⟨65, 0, none⟩))]⟩)] 210 false []))], (.agg ⟨[(ii 0), (ii 0), (ii 0), (ii 0), (ii 0)]⟩), 288, [qb30, (57, (.rw [(ii 10), (ii 9), (ii 30), (ii 6)] 78 false [])), (61, (.map qm19 65)), qb23, (63, (.map [e5 4 2 3 0 1 0 0 0 0 0 0] 1)), (64, (.rw [(.map (some 63))] 209 false [])), (65, (.rw [(.func (.func 147) ⟨[]⟩ ⟨[(.pointer (some ⟨64, 0, none⟩)), (.pointer (some ⟨62, 0, none⟩)), (.pointer (some ⟨65, 0, none⟩))]⟩)] 210 false []))], 61⟩
theorem P5.ok : P5.e.Ok2 Tryz.prog := ok2 (loud_of (T := tabP) tabP_fits (n := 400) (by kernel_rfl)) (by kernel_rfl)
end Go.Am
namespace Go.Am
open Go.Proofs
set_option maxRecDepth 100000
def P16.e : Loud := ⟨147, [(.agg ⟨[(ii 4), (ii 1), (ii 2), (ii 0), (ii 1)]⟩), (.pointer (some ⟨728, 0, none⟩)), (.pointer (some ⟨726, 0, none⟩)), (.pointer (some ⟨729, 0, none⟩))], 1263, [qb38, (720, (.rw [(ii 10), (ii 9), (ii 30), (ii 6)] 78 true [])), (725, (.map qm14 120)), qb5, (727, (.map qm41 4)), (728, (.rw [(.map (some 727))] 209 false [])), (729, (.rw [(.func (.func 147) ⟨[]⟩ ⟨[(.pointer (some ⟨728, 0, none⟩)), (.pointer (some ⟨726, 0, none⟩)), (.pointer (some ⟨729, 0, none⟩))]⟩)] 210 false []))], (.agg ⟨[(ii 0), (ii 1), (ii 0), (ii 0), (ii 9)]⟩), 1300, [qb38, (720, (.rw [(ii 10), (ii 9), (ii 30), (ii 6)] 78 true [])), (725, (.map qm14 120)), qb5, (727, (.map qm39 5)), (728, (.rw [(.map (some 727))] 209 false [])), (729, (.rw [(.func (.func 147) ⟨[]⟩ ⟨[(.pointer (some ⟨728, 0, none⟩)), (.pointer (some ⟨726, 0, none⟩)), (.pointer (some ⟨729, 0, none⟩))]⟩)] 210 false []))], 727⟩
theorem P16.ok : P16.e.Ok2 Tryz.prog := ok2 (loud_of (T := tabP) tabP_fits (n := 400) (by kernel_rfl)) (by kernel_rfl)
end Go.Am
namespace Go.Am
open Go.Proofs
set_option maxRecDepth 100000
def P22.e : Loud := ⟨147, [(.agg ⟨[(ii 4), (ii 0), (ii 0), (ii 0), (ii 1)]⟩), (.pointer (some ⟨728, 0, none⟩)), (.pointer (some ⟨726, 0, none⟩)), (.pointer (some ⟨729, 0, none⟩))], 1424, [qb38, (720, (.rw [(ii 10), (ii 9), (ii 30), (ii 6)] 78 true [])), (725, (.map qm10 124)), qb5, (727, (.map qm34 10)), (728, (.rw [(.map (some 727))] 209 false [])), (729, (.rw [(.func (.func 147) ⟨[]⟩ ⟨[(.pointer (some ⟨728, 0, none⟩)), (.pointer (some ⟨726, 0, none⟩)), (.pointer (some ⟨729, 0, none⟩))]⟩)] 210 false []))], (.agg ⟨[(ii 0), (ii 0), (ii 0), (ii 0), (ii 0)]⟩), 1436, [qb38, (720, (.rw [(ii 10), (ii 9), (ii 30), (ii 6)] 78 true [])), (725, (.map qm10 124)), qb5, (727, (.map qm32 11)), (728, (.rw [(.map (some 727))] 209 false [])), (729, (.rw [(.func (.func 147) ⟨[]⟩ ⟨[(.pointer (some ⟨728, 0, none⟩)), (.pointer (some ⟨726, 0, none⟩)), (.pointer (some ⟨729, 0, none⟩))]⟩)] 210 false []))], 727⟩
theorem P22.ok : P22.e.Ok2 Tryz.prog := ok2 (loud_of (T := tabP) tabP_fits (n := 400) (by kernel_rfl)) (by kernel_rfl)
end Go.Am
namespace Go.Am
open Go.Proofs
set_option maxRecDepth 100000
def P27.e : Loud := ⟨147, [(.agg ⟨[(ii 2), (ii 1), (ii 3), (ii 0), (ii 1)]⟩), (.pointer (some ⟨728, 0, none⟩)), (.pointer (some ⟨726, 0, none⟩)), (.pointer (some ⟨729, 0, none⟩))], 1616, [qb38, (720, (.rw [(ii 10), (ii 9), (ii 30), (ii 6)] 78 true [])), (725, (.map qm7 128)), qb5, (727, (.map [e5 4 5 3 0 1 4 5 1 0 60 0, e5 4 2 3 0 1 0 2 0 0 18 1, e5 4 2 0 0 1 0 2 0 0 18 2, e5 4 1 3 0 1 0 1 0 0 9 3, e5 4 1 2 0 1 0 1 0 0 9 4, e5 4 1 1 0 1 0 1 0 0 9 5, e5 4 1 0 0 1 0 1 0 0 9 6, e5 4 0 3 0 1 0 0 0 0 0 7, e5 4 0 2 0 1 0 0 0 0 0 8, e5 4 0 1 0 1 0 0 0 0 0 9, e5 4 0 0 0 1 0 0 0 0 0 10, e5 3 1 3 0 1 0 1 0 0 9 11, e5 3 1 2 0 1 0 1 0 0 9 12, e5 3 0 3 0 1 0 0 0 0 0 13, e5 3 0 2 0 1 0 0 0 0 0 14, e5 3 0 0 0 1 0 0 0 0 0 15] 16)), (728, (.rw [(.map (some 727))] 209 false [])), (729, (.rw [(.func (.func 147) ⟨[]⟩ ⟨[(.pointer (some ⟨728, 0, none⟩)), (.pointer (some ⟨726, 0, none⟩)), (.pointer (some ⟨729, 0, none⟩))]⟩)] 210 false []))], (.agg ⟨[(ii 0), (ii 1), (ii 0), (ii 0), (ii 9)]⟩), 1647, [qb38, (720, (.rw [(ii 10), (ii 9), (ii 30), (ii 6)] 78 true [])), (725, (.map qm7 128)), qb5, (727, (.map qm28 17)), (728, (.rw [(.map (some 727))] 209 false [])), (729, (.rw [(.func (.func 147) ⟨[]⟩ ⟨[(.pointer (some ⟨728, 0, none⟩)), (.pointer (some ⟨726, 0, none⟩)), (.pointer (some ⟨729, 0, none⟩))]⟩)] 210 false []))], 727⟩
theorem P27.ok : P27.e.Ok2 Tryz.prog := ok2 (loud_of (T := tabP) tabP_fits (n := 400) (by kernel_rfl)) (by kernel_rfl)
end Go.Am
namespace Go.Am
open Go.Proofs
set_option maxRecDepth 100000
def P39.e : Loud := ⟨147, [(.agg ⟨[(ii 4), (ii 1), (ii 3), (ii 0), (ii 1)]⟩), (.pointer (some ⟨1953, 0, none⟩)), (.pointer (some ⟨1951, 0, none⟩)), (.pointer (some ⟨1954, 0, none⟩))], 2189, [qb29, (1945, (.rw [(ii 10), (ii 9), (ii 30), (ii 6)] 78 true [])), (1950, (.map qm18 69)), qb3, (1952, (.map [e5 4 2 3 0 1 0 0 0 0 0 0] 1)), (1953, (.rw [(.map (some 1952))] 209 false [])), (1954, (.rw [(.func (.func 147) ⟨[]⟩ ⟨[(.pointer (some ⟨1953, 0, none⟩)), (.pointer (some ⟨1951, 0, none⟩)), (.pointer (some ⟨1954, 0, none⟩))]⟩)] 210 false []))], (.agg ⟨[(ii 0), (ii 0), (ii 0), (ii 0), (ii 0)]⟩), 2236, [qb29, (1945, (.rw [(ii 10), (ii 9), (ii 30), (ii 6)] 78 true [])), (1950, (.map qm18 69)), qb3, (1952, (.map [e5 4 2 3 0 1 0 0 0 0 0 0, e5 4 1 3 0 1 0 0 0 0 0 1] 2)), (1953, (.rw [(.map (some 1952))] 209 false [])), (1954, (.rw [(.func (.func 147) ⟨[]⟩ ⟨[(.pointer (some ⟨1953, 0, none⟩)), (.pointer (some ⟨1951, 0, none⟩)), (.pointer (some ⟨1954, 0, none⟩))]⟩)] 210 false []))], 1952⟩
theorem P39.ok : P39.e.Ok2 Tryz.prog := ok2 (loud_of (T := tabP) tabP_fits (n := 400) (by kernel_rfl)) (by kernel_rfl)
end Go.Am
