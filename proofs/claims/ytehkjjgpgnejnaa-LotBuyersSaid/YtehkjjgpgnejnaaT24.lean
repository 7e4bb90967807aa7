import Derived.Test.YtehkjjgpgnejnaaT17
set_option linter.unusedSimpArgs false
set_option linter.unusedVariables false
namespace Go.Am
open Go.Proofs
set_option maxRecDepth 100000
def P5.e : Loud := ⟨122, [(.agg ⟨[(ii 4), (ii 2), (ii 3), (ii 0), (ii 1)]⟩), (.pointer (some ⟨64, 0, none⟩)), (.pointer (some ⟨62, 0, none⟩)), (.pointer (some ⟨65, 0, none⟩))], 125, [qb30, (57, (.rw [(ii 10), (ii 9), (ii 30), (ii 6)] 77 false [])), (61, (.map qm33 17)), qb23, (63, (.map [] 0)), (64, (.rw [(.map (some 63))] 173 false [])), (65, (.rw [(.func (.func 122) ⟨[]⟩ ⟨[(.pointer (some ⟨64, 0, none⟩)), (.pointer (some ⟨62, 0, none⟩)), (.pointer (some ⟨65, 0, none⟩))]⟩)] 174 false []))], (.agg ⟨[(ii 0), (ii 0), (ii 0), (ii 0), (ii 0)]⟩), 288, [qb30, (57, (.rw [(ii 10), (ii 9), (ii 30), (ii 6)] 77 false [])), (61, (.map qm19 65)), qb23, (63, (.map [e5 4 2 3 0 1 0 0 0 0 0 0] 1)), (64, (.rw [(.map (some 63))] 173 false [])), (65, (.rw [(.func (.func 122) ⟨[]⟩ ⟨[(.pointer (some ⟨64, 0, none⟩)), (.pointer (some ⟨62, 0, none⟩)), (.pointer (some ⟨65, 0, none⟩))]⟩)] 174 false []))], 61⟩
theorem P5.ok : P5.e.Ok2 Try.prog := ok2 (loud_of (T := tabP) tabP_fits (n := 400) (by kernel_rfl)) (by kernel_rfl)
end Go.Am
namespace Go.Am
open Go.Proofs
set_option maxRecDepth 100000
def P6.e : Loud := ⟨122, [(.agg ⟨[(ii 4), (ii 1), (ii 3), (ii 0), (ii 1)]⟩), (.pointer (some ⟨64, 0, none⟩)), (.pointer (some ⟨62, 0, none⟩)), (.pointer (some ⟨65, 0, none⟩))], 300, [qb30, (57, (.rw [(ii 10), (ii 9), (ii 30), (ii 6)] 77 false [])), (61, (.map qm18 69)), qb23, (63, (.map [e5 4 2 3 0 1 0 0 0 0 0 0] 1)), (64, (.rw [(.map (some 63))] 173 false [])), (65, (.rw [(.func (.func 122) ⟨[]⟩ ⟨[(.pointer (some ⟨64, 0, none⟩)), (.pointer (some ⟨62, 0, none⟩)), (.pointer (some ⟨65, 0, none⟩))]⟩)] 174 false []))], (.agg ⟨[(ii 0), (ii 0), (ii 0), (ii 0), (ii 0)]⟩), 347, [qb30, (57, (.rw [(ii 10), (ii 9), (ii 30), (ii 6)] 77 false [])), (61, (.map qm18 69)), qb23, (63, (.map [e5 4 2 3 0 1 0 0 0 0 0 0, e5 4 1 3 0 1 0 0 0 0 0 1] 2)), (64, (.rw [(.map (some 63))] 173 false [])), (65, (.rw [(.func (.func 122) ⟨[]⟩ ⟨[(.pointer (some ⟨64, 0, none⟩)), (.pointer (some ⟨62, 0, none⟩)), (.pointer (some ⟨65, 0, none⟩))]⟩)] 174 false []))], 63⟩
theorem P6.ok : P6.e.Ok2 Try.prog := ok2 (loud_of (T := tabP) tabP_fits (n := 400) (by kernel_rfl)) (by kernel_rfl)
end Go.Am
namespace Go.Am
open Go.Proofs
set_option maxRecDepth 100000
def P15.e : Loud := ⟨122, [(.agg ⟨[(ii 4), (ii 1), (ii 3), (ii 0), (ii 1)]⟩), (.pointer (some ⟨728, 0, none⟩)), (.pointer (some ⟨726, 0, none⟩)), (.pointer (some ⟨729, 0, none⟩))], 1215, [qb38, (720, (.rw [(ii 10), (ii 9), (ii 30), (ii 6)] 77 true [])), (725, (.map qm14 120)), qb5, (727, (.map qm43 3)), (728, (.rw [(.map (some 727))] 173 false [])), (729, (.rw [(.func (.func 122) ⟨[]⟩ ⟨[(.pointer (some ⟨728, 0, none⟩)), (.pointer (some ⟨726, 0, none⟩)), (.pointer (some ⟨729, 0, none⟩))]⟩)] 174 false []))], (.agg ⟨[(ii 0), (ii 1), (ii 0), (ii 0), (ii 9)]⟩), 1262, [qb38, (720, (.rw [(ii 10), (ii 9), (ii 30), (ii 6)] 77 true [])), (725, (.map qm14 120)), qb5, (727, (.map qm41 4)), (728, (.rw [(.map (some 727))] 173 false [])), (729, (.rw [(.func (.func 122) ⟨[]⟩ ⟨[(.pointer (some ⟨728, 0, none⟩)), (.pointer (some ⟨726, 0, none⟩)), (.pointer (some ⟨729, 0, none⟩))]⟩)] 174 false []))], 727⟩
theorem P15.ok : P15.e.Ok2 Try.prog := ok2 (loud_of (T := tabP) tabP_fits (n := 400) (by kernel_rfl)) (by kernel_rfl)
end Go.Am
namespace Go.Am
open Go.Proofs
set_option maxRecDepth 100000
def P26.e : Loud := ⟨122, [(.agg ⟨[(ii 3), (ii 0), (ii 2), (ii 0), (ii 1)]⟩), (.pointer (some ⟨728, 0, none⟩)), (.pointer (some ⟨726, 0, none⟩)), (.pointer (some ⟨729, 0, none⟩))], 1559, [qb38, (720, (.rw [(ii 10), (ii 9), (ii 30), (ii 6)] 77 true [])), (725, (.map qm8 126)), qb5, (727, (.map qm29 14)), (728, (.rw [(.map (some 727))] 173 false [])), (729, (.rw [(.func (.func 122) ⟨[]⟩ ⟨[(.pointer (some ⟨728, 0, none⟩)), (.pointer (some ⟨726, 0, none⟩)), (.pointer (some ⟨729, 0, none⟩))]⟩)] 174 false []))], (.agg ⟨[(ii 0), (ii 0), (ii 0), (ii 0), (ii 0)]⟩), 1578, [qb38, (720, (.rw [(ii 10), (ii 9), (ii 30), (ii 6)] 77 true [])), (725, (.map qm8 126)), qb5, (727, (.map [e5 4 5 3 0 1 4 5 1 0 60 0, e5 4 2 3 0 1 0 2 0 0 18 1, e5 4 2 0 0 1 0 2 0 0 18 2, e5 4 1 3 0 1 0 1 0 0 9 3, e5 4 1 2 0 1 0 1 0 0 9 4, e5 4 1 1 0 1 0 1 0 0 9 5, e5 4 1 0 0 1 0 1 0 0 9 6, e5 4 0 3 0 1 0 0 0 0 0 7, e5 4 0 2 0 1 0 0 0 0 0 8, e5 4 0 1 0 1 0 0 0 0 0 9, e5 4 0 0 0 1 0 0 0 0 0 10, e5 3 1 3 0 1 0 1 0 0 9 11, e5 3 1 2 0 1 0 1 0 0 9 12, e5 3 0 3 0 1 0 0 0 0 0 13, e5 3 0 2 0 1 0 0 0 0 0 14] 15)), (728, (.rw [(.map (some 727))] 173 false [])), (729, (.rw [(.func (.func 122) ⟨[]⟩ ⟨[(.pointer (some ⟨728, 0, none⟩)), (.pointer (some ⟨726, 0, none⟩)), (.pointer (some ⟨729, 0, none⟩))]⟩)] 174 false []))], 727⟩
theorem P26.ok : P26.e.Ok2 Try.prog := ok2 (loud_of (T := tabP) tabP_fits (n := 400) (by kernel_rfl)) (by kernel_rfl)
end Go.Am
namespace Go.Am
open Go.Proofs
set_option maxRecDepth 100000
def P29.e : Loud := ⟨122, [(.agg ⟨[(ii 1), (ii 2), (ii 3), (ii 0), (ii 1)]⟩), (.pointer (some ⟨728, 0, none⟩)), (.pointer (some ⟨726, 0, none⟩)), (.pointer (some ⟨729, 0, none⟩))], 1698, [qb38, (720, (.rw [(ii 10), (ii 9), (ii 30), (ii 6)] 77 true [])), (725, (.map qm5 132)), qb5, (727, (.map qm27 18)), (728, (.rw [(.map (some 727))] 173 false [])), (729, (.rw [(.func (.func 122) ⟨[]⟩ ⟨[(.pointer (some ⟨728, 0, none⟩)), (.pointer (some ⟨726, 0, none⟩)), (.pointer (some ⟨729, 0, none⟩))]⟩)] 174 false []))], (.agg ⟨[(ii 0), (ii 2), (ii 0), (ii 0), (ii 18)]⟩), 1729, [qb38, (720, (.rw [(ii 10), (ii 9), (ii 30), (ii 6)] 77 true [])), (725, (.map qm5 132)), qb5, (727, (.map qm26 19)), (728, (.rw [(.map (some 727))] 173 false [])), (729, (.rw [(.func (.func 122) ⟨[]⟩ ⟨[(.pointer (some ⟨728, 0, none⟩)), (.pointer (some ⟨726, 0, none⟩)), (.pointer (some ⟨729, 0, none⟩))]⟩)] 174 false []))], 727⟩
theorem P29.ok : P29.e.Ok2 Try.prog := ok2 (loud_of (T := tabP) tabP_fits (n := 400) (by kernel_rfl)) (by kernel_rfl)
end Go.Am
namespace Go.Am
open Go.Proofs
set_option maxRecDepth 100000
def P39.e : Loud := ⟨122, [(.agg ⟨[(ii 4), (ii 1), (ii 3), (ii 0), (ii 1)]⟩), (.pointer (some ⟨1953, 0, none⟩)), (.pointer (some ⟨1951, 0, none⟩)), (.pointer (some ⟨1954, 0, none⟩))], 2189, [qb29, (1945, (.rw [(ii 10), (ii 9), (ii 30), (ii 6)] 77 true [])), (1950, (.map qm18 69)), qb3, (1952, (.map [e5 4 2 3 0 1 0 0 0 0 0 0] 1)), (1953, (.rw [(.map (some 1952))] 173 false [])), (1954, (.rw [(.func (.func 122) ⟨[]⟩ ⟨[(.pointer (some ⟨1953, 0, none⟩)), (.pointer (some ⟨1951, 0, none⟩)), (.pointer (some ⟨1954, 0, none⟩))]⟩)] 174 false []))], (.agg ⟨[(ii 0), (ii 0), (ii 0), (ii 0), (ii 0)]⟩), 2236, [qb29, (1945, (.rw [(ii 10), (ii 9), (ii 30), (ii 6)] 77 true [])), (1950, (.map qm18 69)), qb3, (1952, (.map [e5 4 2 3 0 1 0 0 0 0 0 0, e5 4 1 3 0 1 0 0 0 0 0 1] 2)), (1953, (.rw [(.map (some 1952))] 173 false [])), (1954, (.rw [(.func (.func 122) ⟨[]⟩ ⟨[(.pointer (some ⟨1953, 0, none⟩)), (.pointer (some ⟨1951, 0, none⟩)), (.pointer (some ⟨1954, 0, none⟩))]⟩)] 174 false []))], 1952⟩
theorem P39.ok : P39.e.Ok2 Try.prog := ok2 (loud_of (T := tabP) tabP_fits (n := 400) (by kernel_rfl)) (by kernel_rfl)
end Go.Am
