import Derived.Test.YtbofjfjopeaefaaGreatT17
set_option linter.unusedSimpArgs false
set_option linter.unusedVariables false
namespace Go.Am
open Go.Proofs
set_option maxRecDepth 100000
def P14.e : Loud := ⟨147, [(.agg ⟨[(ii 4), (ii 2), (ii 0), (ii 0), (ii 1)]⟩), (.pointer (some ⟨728, 0, none⟩)), (.pointer (some ⟨726, 0, none⟩)), (.pointer (some ⟨729, 0, none⟩))], 1192, [qb38, (720, (.rw [(ii 10), (ii 9), (ii 30), (ii 6)] 78 true [])), (725, (.map qm14 120)), qb5, (727, (.map [e5 4 5 3 0 1 4 5 1 0 60 0, e5 4 2 3 0 1 0 2 0 0 18 1] 2)), (728, (.rw [(.map (some 727))] 209 false [])), (729, (.rw [(.func (.func 147) ⟨[]⟩ ⟨[(.pointer (some ⟨728, 0, none⟩)), (.pointer (some ⟨726, 0, none⟩)), (.pointer (some ⟨729, 0, none⟩))]⟩)] 210 false []))], (.agg ⟨[(ii 0), (ii 2), (ii 0), (ii 0), (ii 18)]⟩), 1214, [qb38, (720, (.rw [(ii 10), (ii 9), (ii 30), (ii 6)] 78 true [])), (725, (.map qm14 120)), qb5, (727, (.map qm43 3)), (728, (.rw [(.map (some 727))] 209 false [])), (729, (.rw [(.func (.func 147) ⟨[]⟩ ⟨[(.pointer (some ⟨728, 0, none⟩)), (.pointer (some ⟨726, 0, none⟩)), (.pointer (some ⟨729, 0, none⟩))]⟩)] 210 false []))], 727⟩
theorem P14.ok : P14.e.Ok2 Tryz.prog := ok2 (loud_of (T := tabP) tabP_fits (n := 400) (by kernel_rfl)) (by kernel_rfl)
end Go.Am
namespace Go.Am
open Go.Proofs
set_option maxRecDepth 100000
def P17.e : Loud := ⟨147, [(.agg ⟨[(ii 4), (ii 1), (ii 1), (ii 0), (ii 1)]⟩), (.pointer (some ⟨728, 0, none⟩)), (.pointer (some ⟨726, 0, none⟩)), (.pointer (some ⟨729, 0, none⟩))], 1301, [qb38, (720, (.rw [(ii 10), (ii 9), (ii 30), (ii 6)] 78 true [])), (725, (.map qm14 120)), qb5, (727, (.map qm39 5)), (728, (.rw [(.map (some 727))] 209 false [])), (729, (.rw [(.func (.func 147) ⟨[]⟩ ⟨[(.pointer (some ⟨728, 0, none⟩)), (.pointer (some ⟨726, 0, none⟩)), (.pointer (some ⟨729, 0, none⟩))]⟩)] 210 false []))], (.agg ⟨[(ii 0), (ii 1), (ii 0), (ii 0), (ii 9)]⟩), 1328, [qb38, (720, (.rw [(ii 10), (ii 9), (ii 30), (ii 6)] 78 true [])), (725, (.map qm14 120)), qb5, (727, (.map qm38 6)), (728, (.rw [(.map (some 727))] 209 false [])), (729, (.rw [(.func (.func 147) ⟨[]⟩ ⟨[(.pointer (some ⟨728, 0, none⟩)), (.pointer (some ⟨726, 0, none⟩)), (.pointer (some ⟨729, 0, none⟩))]⟩)] 210 false []))], 727⟩
theorem P17.ok : P17.e.Ok2 Tryz.prog := ok2 (loud_of (T := tabP) tabP_fits (n := 400) (by kernel_rfl)) (by kernel_rfl)
end Go.Am
namespace Go.Am
open Go.Proofs
set_option maxRecDepth 100000
def P29.e : Loud := ⟨147, [(.agg ⟨[(ii 1), (ii 2), (ii 3), (ii 0), (ii 1)]⟩), (.pointer (some ⟨728, 0, none⟩)), (.pointer (some ⟨726, 0, none⟩)), (.pointer (some ⟨729, 0, none⟩))], 1698, [qb38, (720, (.rw [(ii 10), (ii 9), (ii 30), (ii 6)] 78 true [])), (725, (.map qm5 132)), qb5, (727, (.map qm27 18)), (728, (.rw [(.map (some 727))] 209 false [])), (729, (.rw [(.func (.func 147) ⟨[]⟩ ⟨[(.pointer (some ⟨728, 0, none⟩)), (.pointer (some ⟨726, 0, none⟩)), (.pointer (some ⟨729, 0, none⟩))]⟩)] 210 false []))], (.agg ⟨[(ii 0), (ii 2), (ii 0), (ii 0), (ii 18)]⟩), 1729, [qb38, (720, (.rw [(ii 10), (ii 9), (ii 30), (ii 6)] 78 true [])), (725, (.map qm5 132)), qb5, (727, (.map qm26 19)), (728, (.rw [(.map (some 727))] 209 false [])), (729, (.rw [(.func (.func 147) ⟨[]⟩ ⟨[(.pointer (some ⟨728, 0, none⟩)), (.pointer (some ⟨726, 0, none⟩)), (.pointer (some ⟨729, 0, none⟩))]⟩)] 210 false []))], 727⟩
theorem P29.ok : P29.e.Ok2 Tryz.prog := ok2 (loud_of (T := tabP) tabP_fits (n := 400) (by kernel_rfl)) (by kernel_rfl)
end Go.Am
namespace Go.Am
open Go.Proofs
set_option maxRecDepth 100000
def P32.e : Loud := ⟨147, [(.agg ⟨[(ii 1), (ii 0), (ii 2), (ii 0), (ii 1)]⟩), (.pointer (some ⟨728, 0, none⟩)), (.pointer (some ⟨726, 0, none⟩)), (.pointer (some ⟨729, 0, none⟩))], 1780, [qb38, (720, (.rw [(ii 10), (ii 9), (ii 30), (ii 6)] 78 true [])), (725, (.map qm3 134)), qb5, (727, (.map qm24 21)), (728, (.rw [(.map (some 727))] 209 false [])), (729, (.rw [(.func (.func 147) ⟨[]⟩ ⟨[(.pointer (some ⟨728, 0, none⟩)), (.pointer (some ⟨726, 0, none⟩)), (.pointer (some ⟨729, 0, none⟩))]⟩)] 210 false []))], (.agg ⟨[(ii 0), (ii 0), (ii 0), (ii 0), (ii 0)]⟩), 1793, [qb38, (720, (.rw [(ii 10), (ii 9), (ii 30), (ii 6)] 78 true [])), (725, (.map qm3 134)), qb5, (727, (.map qm23 22)), (728, (.rw [(.map (some 727))] 209 false [])), (729, (.rw [(.func (.func 147) ⟨[]⟩ ⟨[(.pointer (some ⟨728, 0, none⟩)), (.pointer (some ⟨726, 0, none⟩)), (.pointer (some ⟨729, 0, none⟩))]⟩)] 210 false []))], 727⟩
theorem P32.ok : P32.e.Ok2 Tryz.prog := ok2 (loud_of (T := tabP) tabP_fits (n := 400) (by kernel_rfl)) (by kernel_rfl)
end Go.Am
namespace Go.Am
open Go.Proofs
set_option maxRecDepth 100000
def P33.e : Loud := ⟨147, [(.agg ⟨[(ii 0), (ii 3), (ii 3), (ii 0), (ii 1)]⟩), (.pointer (some ⟨728, 0, none⟩)), (.pointer (some ⟨726, 0, none⟩)), (.pointer (some ⟨729, 0, none⟩))], 1812, [qb38, (720, (.rw [(ii 10), (ii 9), (ii 30), (ii 6)] 78 true [])), (725, (.map qm2 136)), qb5, (727, (.map qm23 22)), (728, (.rw [(.map (some 727))] 209 false [])), (729, (.rw [(.func (.func 147) ⟨[]⟩ ⟨[(.pointer (some ⟨728, 0, none⟩)), (.pointer (some ⟨726, 0, none⟩)), (.pointer (some ⟨729, 0, none⟩))]⟩)] 210 false []))], (.agg ⟨[(ii 0), (ii 3), (ii 0), (ii 0), (ii 27)]⟩), 1835, [qb38, (720, (.rw [(ii 10), (ii 9), (ii 30), (ii 6)] 78 true [])), (725, (.map qm2 136)), qb5, (727, (.map qm22 23)), (728, (.rw [(.map (some 727))] 209 false [])), (729, (.rw [(.func (.func 147) ⟨[]⟩ ⟨[(.pointer (some ⟨728, 0, none⟩)), (.pointer (some ⟨726, 0, none⟩)), (.pointer (some ⟨729, 0, none⟩))]⟩)] 210 false []))], 727⟩
theorem P33.ok : P33.e.Ok2 Tryz.prog := ok2 (loud_of (T := tabP) tabP_fits (n := 400) (by kernel_rfl)) (by kernel_rfl)
end Go.Am
namespace Go.Am
open Go.Proofs
set_option maxRecDepth 100000
def P40.e : Loud := ⟨147, [(.agg ⟨[(ii 4), (ii 0), (ii 3), (ii 0), (ii 1)]⟩), (.pointer (some ⟨1953, 0, none⟩)), (.pointer (some ⟨1951, 0, none⟩)), (.pointer (some ⟨1954, 0, none⟩))], 2248, [qb29, (1945, (.rw [(ii 10), (ii 9), (ii 30), (ii 6)] 78 true [])), (1950, (.map qm17 73)), qb3, (1952, (.map [e5 4 2 3 0 1 0 0 0 0 0 0, e5 4 1 3 0 1 0 0 0 0 0 1] 2)), (1953, (.rw [(.map (some 1952))] 209 false [])), (1954, (.rw [(.func (.func 147) ⟨[]⟩ ⟨[(.pointer (some ⟨1953, 0, none⟩)), (.pointer (some ⟨1951, 0, none⟩)), (.pointer (some ⟨1954, 0, none⟩))]⟩)] 210 false []))], (.agg ⟨[(ii 0), (ii 0), (ii 0), (ii 0), (ii 0)]⟩), 2275, [qb29, (1945, (.rw [(ii 10), (ii 9), (ii 30), (ii 6)] 78 true [])), (1950, (.map qm17 73)), qb3, (1952, (.map qm44 3)), (1953, (.rw [(.map (some 1952))] 209 false [])), (1954, (.rw [(.func (.func 147) ⟨[]⟩ ⟨[(.pointer (some ⟨1953, 0, none⟩)), (.pointer (some ⟨1951, 0, none⟩)), (.pointer (some ⟨1954, 0, none⟩))]⟩)] 210 false []))], 1952⟩
theorem P40.ok : P40.e.Ok2 Tryz.prog := ok2 (loud_of (T := tabP) tabP_fits (n := 400) (by kernel_rfl)) (by kernel_rfl)
end Go.Am
namespace Go.Am
open Go.Proofs
set_option maxRecDepth 100000
def P42.e : Loud := ⟨147, [(.agg ⟨[(ii 3), (ii 0), (ii 3), (ii 0), (ii 1)]⟩), (.pointer (some ⟨1953, 0, none⟩)), (.pointer (some ⟨1951, 0, none⟩)), (.pointer (some ⟨1954, 0, none⟩))], 2357, [qb29, (1945, (.rw [(ii 10), (ii 9), (ii 30), (ii 6)] 78 true [])), (1950, (.map qm15 89)), qb3, (1952, (.map qm42 4)), (1953, (.rw [(.map (some 1952))] 209 false [])), (1954, (.rw [(.func (.func 147) ⟨[]⟩ ⟨[(.pointer (some ⟨1953, 0, none⟩)), (.pointer (some ⟨1951, 0, none⟩)), (.pointer (some ⟨1954, 0, none⟩))]⟩)] 210 false []))], (.agg ⟨[(ii 0), (ii 0), (ii 0), (ii 0), (ii 0)]⟩), 2380, [qb29, (1945, (.rw [(ii 10), (ii 9), (ii 30), (ii 6)] 78 true [])), (1950, (.map qm15 89)), qb3, (1952, (.map qm40 5)), (1953, (.rw [(.map (some 1952))] 209 false [])), (1954, (.rw [(.func (.func 147) ⟨[]⟩ ⟨[(.pointer (some ⟨1953, 0, none⟩)), (.pointer (some ⟨1951, 0, none⟩)), (.pointer (some ⟨1954, 0, none⟩))]⟩)] 210 false []))], 1952⟩
theorem P42.ok : P42.e.Ok2 Tryz.prog := ok2 (loud_of (T := tabP) tabP_fits (n := 400) (by kernel_rfl)) (by kernel_rfl)
end Go.Am
