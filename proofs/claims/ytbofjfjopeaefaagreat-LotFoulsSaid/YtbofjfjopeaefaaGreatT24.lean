import Derived.Test.YtbofjfjopeaefaaGreatT17
set_option linter.unusedSimpArgs false
set_option linter.unusedVariables false
namespace Go.Am
open Go.Proofs
set_option maxRecDepth 100000
def P13.e : Loud := ⟨147, [(.agg ⟨[(ii 4), (ii 2), (ii 3), (ii 0), (ii 1)]⟩), (.pointer (some ⟨728, 0, none⟩)), (.pointer (some ⟨726, 0, none⟩)), (.pointer (some ⟨729, 0, none⟩))], 1122, [qb38, (720, (.rw [(ii 10), (ii 9), (ii 30), (ii 6)] 78 true [])), (725, (.map qm14 120)), qb5, (727, (.map [e5 4 5 3 0 1 4 5 1 0 60 0] 1)), (728, (.rw [(.map (some 727))] 209 false [])), (729, (.rw [(.func (.func 147) ⟨[]⟩ ⟨[(.pointer (some ⟨728, 0, none⟩)), (.pointer (some ⟨726, 0, none⟩)), (.pointer (some ⟨729, 0, none⟩))]⟩)] 210 false []))], (.agg ⟨[(ii 0), (ii 2), (ii 0), (ii 0), (ii 18)]⟩), 1189, [qb38, (720, (.rw [(ii 10), (ii 9), (ii 30), (ii 6)] 78 true [])), (725, (.map qm14 120)), qb5, (727, (.map [e5 4 5 3 0 1 4 5 1 0 60 0, e5 4 2 3 0 1 0 2 0 0 18 1] 2)), (728, (.rw [(.map (some 727))] 209 false [])), (729, (.rw [(.func (.func 147) ⟨[]⟩ ⟨[(.pointer (some ⟨728, 0, none⟩)), (.pointer (some ⟨726, 0, none⟩)), (.pointer (some ⟨729, 0, none⟩))]⟩)] 210 false []))], 727⟩
theorem P13.ok : P13.e.Ok2 Tryz.prog := ok2 (loud_of (T := tabP) tabP_fits (n := 400) (by kernel_rfl)) (by kernel_rfl)
end Go.Am
namespace Go.Am
open Go.Proofs
set_option maxRecDepth 100000
def P15.e : Loud := ⟨147, [(.agg ⟨[(ii 4), (ii 1), (ii 3), (ii 0), (ii 1)]⟩), (.pointer (some ⟨728, 0, none⟩)), (.pointer (some ⟨726, 0, none⟩)), (.pointer (some ⟨729, 0, none⟩))], 1215, [qb38, (720, (.rw [(ii 10), (ii 9), (ii 30), (ii 6)] 78 true [])), (725, (.map qm14 120)), qb5, (727, (.map qm43 3)), (728, (.rw [(.map (some 727))] 209 false [])), (729, (.rw [(.func (.func 147) ⟨[]⟩ ⟨[(.pointer (some ⟨728, 0, none⟩)), (.pointer (some ⟨726, 0, none⟩)), (.pointer (some ⟨729, 0, none⟩))]⟩)] 210 false []))], (.agg ⟨[(ii 0), (ii 1), (ii 0), (ii 0), (ii 9)]⟩), 1262, [qb38, (720, (.rw [(ii 10), (ii 9), (ii 30), (ii 6)] 78 true [])), (725, (.map qm14 120)), qb5, (727, (.map qm41 4)), (728, (.rw [(.map (some 727))] 209 false [])), (729, (.rw [(.func (.func 147) ⟨[]⟩ ⟨[(.pointer (some ⟨728, 0, none⟩)), (.pointer (some ⟨726, 0, none⟩)), (.pointer (some ⟨729, 0, none⟩))]⟩)] 210 false []))], 727⟩
theorem P15.ok : P15.e.Ok2 Tryz.prog := ok2 (loud_of (T := tabP) tabP_fits (n := 400) (by kernel_rfl)) (by kernel_rfl)
end Go.Am
namespace Go.Am
open Go.Proofs
set_option maxRecDepth 100000
def P38.e : Loud := ⟨147, [(.agg ⟨[(ii 4), (ii 2), (ii 3), (ii 0), (ii 1)]⟩), (.pointer (some ⟨1953, 0, none⟩)), (.pointer (some ⟨1951, 0, none⟩)), (.pointer (some ⟨1954, 0, none⟩))], 2014, [qb29, (1945, (.rw [(ii 10), (ii 9), (ii 30), (ii 6)] 78 true [])), (1950, (.map qm33 17)), qb3, (1952, (.map [] 0)), (1953, (.rw [(.map (some 1952))] 209 false [])), (1954, (.rw [(.func (.func 147) ⟨[]⟩ ⟨[(.pointer (some ⟨1953, 0, none⟩)), (.pointer (some ⟨1951, 0, none⟩)), (.pointer (some ⟨1954, 0, none⟩))]⟩)] 210 false []))], (.agg ⟨[(ii 0), (ii 0), (ii 0), (ii 0), (ii 0)]⟩), 2177, [qb29, (1945, (.rw [(ii 10), (ii 9), (ii 30), (ii 6)] 78 true [])), (1950, (.map qm19 65)), qb3, (1952, (.map [e5 4 2 3 0 1 0 0 0 0 0 0] 1)), (1953, (.rw [(.map (some 1952))] 209 false [])), (1954, (.rw [(.func (.func 147) ⟨[]⟩ ⟨[(.pointer (some ⟨1953, 0, none⟩)), (.pointer (some ⟨1951, 0, none⟩)), (.pointer (some ⟨1954, 0, none⟩))]⟩)] 210 false []))], 1950⟩
theorem P38.ok : P38.e.Ok2 Tryz.prog := ok2 (loud_of (T := tabP) tabP_fits (n := 400) (by kernel_rfl)) (by kernel_rfl)
end Go.Am
