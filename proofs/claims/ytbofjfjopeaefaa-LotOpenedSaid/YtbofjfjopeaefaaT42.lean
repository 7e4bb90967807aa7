import Derived.Test.YtbofjfjopeaefaaT41
import Derived.Test.YtbofjfjopeaefaaT39
set_option linter.unusedSimpArgs false
set_option linter.unusedVariables false
namespace Go.Am.K
open Go.Proofs
variable {T : Tab} {P : Program} {N L : Nat} {H H' H'' : AHeap} {Q : Bool → Value → AHeap → Prop}
theorem A_cut4 {t : Operand → Option Value} {ex : Exec} {x y : Operand} {b o n : Nat} {sp : Option Nat} (hx : t x = some (.pointer (some ⟨b, o, sp⟩))) (hy : t y = some (.int .i64 (n : Nat))) (hn : n ≤ 4) (hL : L ≤ H.size) (hq : Q true (.slice (some ⟨b, o, none⟩) n 4) H) : A tabA Try.prog ex t H L (.slice 119 x none (some y) none) Q := by
 have h : aSlice tabA t H 119 x none (some y) none = some (.slice (some ⟨b, o, none⟩) n 4, H, H.size) := by
  unfold aSlice abound
  simp only [hx,hy]
  rcases (by omega : n = 0 ∨ n = 1 ∨ n = 2 ∨ n = 3 ∨ n = 4) with rfl | rfl | rfl | rfl | rfl
  all_goals rfl
 unfold A
 show (match still (aSlice tabA t H 119 x none (some y) none) with
  | some (b, v, H', m) => L ≤ m ∧ Q b v H'
  | none => False)
 rw [h]
 exact ⟨hL, hq⟩
section
variable {a a' : Option Addr} {cap cap' mk : Nat} {ps : List Pk} {gs : List Gd} {lots : Int} {g : Gd} {l : List Int} {k n : Nat}
theorem c125 {t : List Int} (hs : Rw intE H a t) (hne : t ≠ []) (hl : t.length ≤ 65) (hL : L ≤ H.size) {M : Nat} (hM : 60 ≤ M)
  (hq : ∀ k cap' H', Fr H H' → H.size ≤ k → k < H'.size → H'.get k = .rw (intE.fl t) 3 true [] → Q false (.slice (some ⟨k, 0, none⟩) t.length cap') H') : resK (acall tabA (aexec tabA Try.prog M) 125 [.slice a t.length cap] H) L Q := by
 obtain ⟨N, rfl⟩ : ∃ N, M = N + 60 := ⟨M - 60, by omega⟩
 obtain ⟨b, o, c, rfl, -⟩ := hs.get hne
 refine call_fls (R := fun v H' => ∃ k cap', v = .slice (some ⟨k, 0, none⟩) t.length cap' ∧ Fr H H' ∧ H.size ≤ k ∧ k < H'.size ∧ H'.get k = .rw (intE.fl t) 3 true []) (k := 8) (rs := [.tmp 2]) rfl fn_125 rfl rfl rfl hL ?_ ?_ ?_
 ·have hpos : 0 < t.length := List.length_pos_iff.2 hne
  simp (disch:=first|(simp only [yk,seval];done)|omega|(simp only [yz]<;>omega)|fail) only [↓yp,yq0,yq1,yq2,yq3,yq4,yl,ys0,ys1,seval,fitB,newC,endD,endR,yrg,binV_nil_some st_esS_49,A_buildSlice st_brS_49_0]
  rw [apK_empty (H := _) (n := t.length) st_apS_49 ((hs.fr (Fr.alloc _ _)).src hne) hpos (by omega) (by omega) (one_fl t) (c₀ := []) (by simp (disch:=first|(simp only [yk,seval];done)|omega|(simp only [yz]<;>omega)|fail) only [yg,seval])]
  simp (disch:=first|(simp only [yk,seval];done)|omega|(simp only [yz]<;>omega)|fail) only [↓yp,yq0,yq1,yq2,yq3,yq4,yl,ys0,ys1,seval,fitB,newC,endD,endR,yrg]
  exact ⟨_, _, rfl, by (repeat (first | exact Fr.refl _ | assumption | refine Fr.allocd ?_ _ | refine Fr.put ?_ (by first | omega | (simp only [yz] <;> omega)) _)), by (first | omega | (simp only [yz] <;> omega)), by (first | omega | (simp only [yz] <;> omega)), by simp (disch:=first|(simp only [yk,seval];done)|omega|(simp only [yz]<;>omega)|fail) only [yg,seval]⟩
 ·rintro v H' ⟨k, cap', rfl, -⟩; rfl
 ·rintro v H' ⟨k, cap', rfl, h1, h2, h3, h4⟩
  exact hq _ _ _ h1 h2 h3 h4
def MostR (ps : List Pk) (g : Gd) (l : List Int) : Prop := LotOk ps l ∧ hasM ps g l = true ∧ ∀ x, LotOk ps x → hasM ps g x = true → isum x ≤ isum l
theorem LV_lot : ∀ {ps : List Pk} {l : List Int} {n : Nat}, l.length = ps.length + n → (LV (ps.map Pk.s ++ List.replicate n 0) l ↔ LotOk ps (l.take ps.length) ∧ l.drop ps.length = List.replicate n 0)
 | [], l, n, hl => by
  simp only [List.map_nil,List.nil_append,List.length_nil,List.take_zero,List.drop_zero]
  have key : ∀ {n : Nat} {l : List Int}, l.length = n → (LV (List.replicate n 0) l ↔ l = List.replicate n 0) := by
   intro n
   induction n with
   | zero =>
    intro l hl
    have : l = [] := List.length_eq_zero_iff.1 hl
    subst this
    exact ⟨fun _ => rfl, fun _ => trivial⟩
   | succ n ih =>
    intro l hl
    match l, hl with
    | y :: ys, hl =>
     rw [List.replicate_succ]
     show (0 ≤ y ∧ y ≤ 0) ∧ LV (List.replicate n 0) ys ↔ _
     rw [ih (by simpa using hl), List.cons.injEq]
     constructor
     ·rintro ⟨h1, h2⟩; exact ⟨by omega, h2⟩
     ·rintro ⟨h1, h2⟩; exact ⟨by omega, h2⟩
  rw [key (by simpa using hl)]
  exact ⟨fun h => ⟨⟨rfl, fun j n p h => by simp at h⟩, h⟩, fun h => h.2⟩
 | p :: ps, [], n, hl => by
  simp only [List.length_nil,List.length_cons] at hl
  omega
 | p :: ps, y :: ys, n, hl => by
  have ih := LV_lot (ps := ps) (l := ys) (n := n) (by simp only [List.length_cons] at hl; omega)
  show (0 ≤ y ∧ y ≤ p.s) ∧ LV (ps.map Pk.s ++ List.replicate n 0) ys ↔ _
  rw [ih]
  simp only [List.length_cons,List.take_succ_cons,List.drop_succ_cons]
  constructor
  ·rintro ⟨h1, h2, h3⟩
   refine ⟨⟨by rw [List.length_cons, h2.len, List.length_cons], fun j m q hm hq => ?_⟩, h3⟩
   cases j with
   | zero => simp at hm hq; subst hm hq; exact h1
   | succ j => exact h2.ok j m q (by simpa using hm) (by simpa using hq)
  ·rintro ⟨h1, h3⟩
   exact ⟨h1.ok 0 y p rfl rfl, ⟨by have := h1.len; simpa using this, fun j m q hm hq => h1.ok (j + 1) m q (by simpa using hm) (by simpa using hq)⟩, h3⟩
theorem stk_eq : stk ps = ps.map Pk.s ++ List.replicate (4 - ps.length) 0 := by
 unfold stk pt
 rw [List.take_of_length_le (by rw [List.length_map]; exact Nat.le_refl _)]
theorem LV_stk (h4 : ps.length ≤ 4) {x : List Int} (hx : LotOk ps x) : LV (stk ps) (mx x) ∧ (mx x).take ps.length = x := by
 have hl := hx.len
 have e : mx x = x ++ List.replicate (4 - ps.length) 0 := by unfold mx pt; rw [List.take_length, hl]
 have e2 : (x ++ List.replicate (4 - ps.length) 0).take ps.length = x := by rw [← hl, List.take_left]
 rw [stk_eq, e, LV_lot (by rw [List.length_append, List.length_replicate]; omega), e2]
 exact ⟨⟨hx, by rw [← hl, List.drop_left]⟩, rfl⟩
theorem stk_LV (h4 : ps.length ≤ 4) {x : List Int} (hx : LV (stk ps) x) : LotOk ps (x.take ps.length) ∧ x = mx (x.take ps.length) := by
 have hl := LV_len hx
 rw [stk_len h4] at hl
 rw [stk_eq, LV_lot (by omega)] at hx
 refine ⟨hx.1, ?_⟩
 unfold mx pt
 rw [List.take_length, hx.1.len]
 conv => lhs; rw [← List.take_append_drop ps.length x, hx.2]
theorem hasM_mx {x : List Int} (hx : LotOk ps x) : hasM ps g (mx x) = hasM ps g x := by
 unfold hasM
 rw [mx_sum, fo_pad hx.len]
theorem Bst.most (h4 : ps.length ≤ 4) {l : List Int} (B : Bst ps g (pn (stk ps)).toNat l) : (l = [0, 0, 0, 0] ∧ ∀ x, LotOk ps x → hasM ps g x = false) ∨ (l ≠ [0, 0, 0, 0] ∧ MostR ps g (l.take ps.length) ∧ l = mx (l.take ps.length)) := by
 obtain ⟨k1, k2⟩ := stk_LV h4 B.v
 have all : ∀ x, LotOk ps x → hasM ps g x = true → isum x ≤ isum l := fun x hx hh => by
  obtain ⟨q1, q2⟩ := LV_stk h4 hx
  have := vl_in q1
  have := B.le (mx x) q1 (by omega) (by rw [hasM_mx hx]; exact hh)
  rwa [mx_sum] at this
 by_cases hz : l = [0, 0, 0, 0]
 ·refine .inl ⟨hz, fun x hx => ?_⟩
  cases hh : hasM ps g x with
  | false => rfl
  | true =>
   have := all x hx hh
   rw [hz] at this
   unfold hasM hasG at hh
   simp only [Bool.and_eq_true,decide_eq_true_eq] at hh
   have : isum x ≤ 0 := this
   omega
 ·refine .inr ⟨hz, ⟨k1, ?_, fun x hx hh => ?_⟩, k2⟩
  ·rcases B.ok with h | h
   ·exact absurd h hz
   ·rw [k2, hasM_mx k1] at h; exact h
  ·have := all x hx hh
   rw [k2, mx_sum] at this
   exact this
end
end Go.Am.K
namespace Go.Am.K
open Go.Proofs
variable {T : Tab} {P : Program} {N L : Nat} {H H' H'' : AHeap} {Q : Bool → Value → AHeap → Prop}
theorem st_ixV_119 : ixV tabA 119 = some (4, 1, 0) := by kernel_rfl
section
variable {m0 m1 m2 m3 l0 l1 l2 l3 : Int}
set_option maxHeartbeats 4000000 in
theorem c126 (h0 : 0 ≤ m0 ∧ m0 ≤ 100) (h1 : 0 ≤ m1 ∧ m1 ≤ 100) (h2 : 0 ≤ m2 ∧ m2 ≤ 100) (h3 : 0 ≤ m3 ∧ m3 ≤ 100) (k0 : 0 ≤ l0 ∧ l0 ≤ 100) (k1 : 0 ≤ l1 ∧ l1 ≤ 100) (k2 : 0 ≤ l2 ∧ l2 ≤ 100) (k3 : 0 ≤ l3 ∧ l3 ≤ 100) :
  acall tabA (aexec tabA Try.prog (N + 60)) 126 [.agg ⟨[.int .i64 m0, .int .i64 m1, .int .i64 m2, .int .i64 m3]⟩, .agg ⟨[.int .i64 l0, .int .i64 l1, .int .i64 l2, .int .i64 l3]⟩] H = some (true, .agg ⟨[.int .i64 (m0 - l0), .int .i64 (m1 - l1), .int .i64 (m2 - l2), .int .i64 (m3 - l3)]⟩, H, H.size) := by
 refine call_quiet (k := 20) (rs := [.cell 4 119]) rfl fn_126 rfl rfl rfl ?_ rfl
 have w0 : w64 (m0 - l0) = m0 - l0 := w64_of (by omega)
 have w1 : w64 (m1 - l1) = m1 - l1 := w64_of (by omega)
 have w2 : w64 (m2 - l2) = m2 - l2 := w64_of (by omega)
 have w3 : w64 (m3 - l3) = m3 - l3 := w64_of (by omega)
 have x1 : w64 1 = 1 := w64_of (by omega)
 have x2 : w64 2 = 2 := w64_of (by omega)
 have x3 : w64 3 = 3 := w64_of (by omega)
 have x4 : w64 4 = 4 := w64_of (by omega)
 clear h0 h1 h2 h3 k0 k1 k2 k3
 simp (disch:=first|(simp only [yk,seval];done)|omega|(simp only [yz]<;>omega)|fail) only [↓yp,yq0,yq1,yq2,yq3,yq4,yl,ys0,ys1,seval,fitB,newC,endD,endR,yrg]
 rw [W_loop]
 simp (disch:=first|(simp only [yk,seval];done)|omega|(simp only [yz]<;>omega)|fail) only [↓yp,yq0,yq1,yq2,yq3,yq4,yl,ys0,ys1,seval,fitB,newC,endD,endR,yrg]
 refine A_index_of (k := .i64) (cs := [.int .i64 l0, .int .i64 l1, .int .i64 l2, .int .i64 l3]) (i := 0) st_ixV_119 (by simp (disch:=first|(simp only [yk,seval];done)|omega|(simp only [yz]<;>omega)|fail) only [↓yp,yq0,yq1,yq2,yq3,yq4,yl,ys0,ys1,seval,fitB,newC,endD,endR,yrg]) (by simp (disch:=first|(simp only [yk,seval];done)|omega|(simp only [yz]<;>omega)|fail) only [↓yp,yq0,yq1,yq2,yq3,yq4,yl,ys0,ys1,seval,fitB,newC,endD,endR,yrg]) ⟨by omega, by omega⟩ rfl (by first|omega|(simp only [yz]<;>omega)) ?_
 simp (disch:=first|(simp only [yk,seval];done)|omega|(simp only [yz]<;>omega)|fail) only [↓yp,yq0,yq1,yq2,yq3,yq4,yl,ys0,ys1,seval,fitB,newC,endD,endR,yrg,A_indexArr st_arS_119,w0,x1]
 rw [W_loop]
 simp (disch:=first|(simp only [yk,seval];done)|omega|(simp only [yz]<;>omega)|fail) only [↓yp,yq0,yq1,yq2,yq3,yq4,yl,ys0,ys1,seval,fitB,newC,endD,endR,yrg]
 refine A_index_of (k := .i64) (cs := [.int .i64 l0, .int .i64 l1, .int .i64 l2, .int .i64 l3]) (i := 1) st_ixV_119 (by simp (disch:=first|(simp only [yk,seval];done)|omega|(simp only [yz]<;>omega)|fail) only [↓yp,yq0,yq1,yq2,yq3,yq4,yl,ys0,ys1,seval,fitB,newC,endD,endR,yrg]) (by simp (disch:=first|(simp only [yk,seval];done)|omega|(simp only [yz]<;>omega)|fail) only [↓yp,yq0,yq1,yq2,yq3,yq4,yl,ys0,ys1,seval,fitB,newC,endD,endR,yrg]) ⟨by omega, by omega⟩ rfl (by first|omega|(simp only [yz]<;>omega)) ?_
 simp (disch:=first|(simp only [yk,seval];done)|omega|(simp only [yz]<;>omega)|fail) only [↓yp,yq0,yq1,yq2,yq3,yq4,yl,ys0,ys1,seval,fitB,newC,endD,endR,yrg,A_indexArr st_arS_119,w1,x2]
 rw [W_loop]
 simp (disch:=first|(simp only [yk,seval];done)|omega|(simp only [yz]<;>omega)|fail) only [↓yp,yq0,yq1,yq2,yq3,yq4,yl,ys0,ys1,seval,fitB,newC,endD,endR,yrg]
 refine A_index_of (k := .i64) (cs := [.int .i64 l0, .int .i64 l1, .int .i64 l2, .int .i64 l3]) (i := 2) st_ixV_119 (by simp (disch:=first|(simp only [yk,seval];done)|omega|(simp only [yz]<;>omega)|fail) only [↓yp,yq0,yq1,yq2,yq3,yq4,yl,ys0,ys1,seval,fitB,newC,endD,endR,yrg]) (by simp (disch:=first|(simp only [yk,seval];done)|omega|(simp only [yz]<;>omega)|fail) only [↓yp,yq0,yq1,yq2,yq3,yq4,yl,ys0,ys1,seval,fitB,newC,endD,endR,yrg]) ⟨by omega, by omega⟩ rfl (by first|omega|(simp only [yz]<;>omega)) ?_
 simp (disch:=first|(simp only [yk,seval];done)|omega|(simp only [yz]<;>omega)|fail) only [↓yp,yq0,yq1,yq2,yq3,yq4,yl,ys0,ys1,seval,fitB,newC,endD,endR,yrg,A_indexArr st_arS_119,w2,x3]
 rw [W_loop]
 simp (disch:=first|(simp only [yk,seval];done)|omega|(simp only [yz]<;>omega)|fail) only [↓yp,yq0,yq1,yq2,yq3,yq4,yl,ys0,ys1,seval,fitB,newC,endD,endR,yrg]
 refine A_index_of (k := .i64) (cs := [.int .i64 l0, .int .i64 l1, .int .i64 l2, .int .i64 l3]) (i := 3) st_ixV_119 (by simp (disch:=first|(simp only [yk,seval];done)|omega|(simp only [yz]<;>omega)|fail) only [↓yp,yq0,yq1,yq2,yq3,yq4,yl,ys0,ys1,seval,fitB,newC,endD,endR,yrg]) (by simp (disch:=first|(simp only [yk,seval];done)|omega|(simp only [yz]<;>omega)|fail) only [↓yp,yq0,yq1,yq2,yq3,yq4,yl,ys0,ys1,seval,fitB,newC,endD,endR,yrg]) ⟨by omega, by omega⟩ rfl (by first|omega|(simp only [yz]<;>omega)) ?_
 simp (disch:=first|(simp only [yk,seval];done)|omega|(simp only [yz]<;>omega)|fail) only [↓yp,yq0,yq1,yq2,yq3,yq4,yl,ys0,ys1,seval,fitB,newC,endD,endR,yrg,A_indexArr st_arS_119,w3,x4]
 rw [W_loop]
 simp (disch:=first|(simp only [yk,seval];done)|omega|(simp only [yz]<;>omega)|fail) only [↓yp,yq0,yq1,yq2,yq3,yq4,yl,ys0,ys1,seval,fitB,newC,endD,endR,yrg]
end
section
variable {a a' al : Option Addr} {cap cap' cl mk : Nat} {ps : List Pk} {gs : List Gd} {lots : Int} {g : Gd} {l : List Int} {i k : Nat} {p : Pk} {v : Int}
end
end Go.Am.K
