import Derived.Test.YtbofjfjopeaefaaT30
import Derived.Test.YtbofjfjopeaefaaRows
import Derived.Carry
import Derived.ChangeArms
import Derived.Lib.SmallJoins
import Derived.WideKeyArgs
import Derived.Deep.Slices
import Derived.WalkKit
import Derived.ProofKit
import Derived.OpenShut
set_option linter.unusedSimpArgs false
set_option linter.unusedVariables false
namespace Go.Am.K
open Go.Proofs
variable {T : Tab} {P : Program} {N L : Nat} {H : AHeap} {Q : Bool → Value → AHeap → Prop}
structure FrX (k : Nat) (H H' : AHeap) : Prop where
 size : H.size ≤ H'.size
 same : ∀ j, j < H.size → j ≠ k → H'.get j = H.get j
theorem FrX.refl (k : Nat) (H : AHeap) : FrX k H H := ⟨Nat.le_refl _, fun _ _ _ => rfl⟩
theorem FrX.trans {k : Nat} {H H₁ H₂ : AHeap} (a : FrX k H H₁) (b : FrX k H₁ H₂) : FrX k H H₂ := ⟨Nat.le_trans a.size b.size, fun j h1 h2 => (b.same j (Nat.lt_of_lt_of_le h1 a.size) h2).trans (a.same j h1 h2)⟩
theorem FrX.of {k : Nat} {H H' : AHeap} (f : Fr H H') : FrX k H H' := ⟨f.size, fun j h _ => f.same j h⟩
theorem FrX.put {k : Nat} {H H' : AHeap} (f : FrX k H H') (b : ABlk) : FrX k H (H'.put k b) := ⟨by rw [size_put]; exact f.size, fun j h1 h2 => by rw [get_put_ne h2]; exact f.same j h1 h2⟩
theorem FrX.above {k : Nat} {H H' : AHeap} (f : FrX k H H') {H₀ : AHeap} (f0 : Fr H₀ H) (h : H₀.size ≤ k) : Fr H₀ H' := ⟨Nat.le_trans f0.size f.size, fun j hj => (f.same j (Nat.lt_of_lt_of_le hj f0.size) (by omega)).trans (f0.same j hj)⟩
theorem st_cvS_5_3 : cvS tabA 5 3 = some .i64 := by kernel_rfl
theorem st_cvS_5_143 : cvS tabA 5 143 = some .u64 := by kernel_rfl
theorem st_cvS_3_143 : cvS tabA 3 143 = some .u64 := by kernel_rfl
theorem st_cvS_143_3 : cvS tabA 143 3 = some .i64 := by kernel_rfl
theorem cv_5_3 {k' : IntKind} {n : Int} : cvV tabA P H 5 3 (.int k' n) = some (.int .i64 (w64 n)) := cvV_int st_cvS_5_3
theorem cv_5_143 {k' : IntKind} {n : Int} : cvV tabA P H 5 143 (.int k' n) = some (.int .u64 (IntKind.u64.wrap n)) := cvV_int st_cvS_5_143
theorem cv_3_143 {k' : IntKind} {n : Int} : cvV tabA P H 3 143 (.int k' n) = some (.int .u64 (IntKind.u64.wrap n)) := cvV_int st_cvS_3_143
theorem cv_143_3 {k' : IntKind} {n : Int} : cvV tabA P H 143 3 (.int k' n) = some (.int .i64 (w64 n)) := cvV_int st_cvS_143_3
structure Chu (H : AHeap) (k : Nat) (a : Option Addr) (bs : List Int) (cap : Nat) : Prop where
 lt : k < H.size
 blk : ∃ u s : Int, H.get k = .rw [.slice a bs.length cap, .int .i64 u, .int .u64 s] 145 false [] ∧ 0 ≤ u ∧ u ≤ bs.length ∧ 0 ≤ s ∧ s < 18446744073709551616
 row : bs ≠ [] → ∃ b o c, a = some ⟨b, o, none⟩ ∧ b < H.size ∧ H.get b = .ro c ∧ ∀ i x, bs[i]? = some x → c[o + i]? = some (.int .u8 x)
 byte : ∀ x ∈ bs, 0 ≤ x ∧ x < 256
 len : bs.length < 9223372036854775808
section
variable {k cap : Nat} {a : Option Addr} {bs : List Int}
theorem Chu.fr {H' : AHeap} (h : Chu H k a bs cap) (f : Fr H H') : Chu H' k a bs cap where
 lt := Nat.lt_of_lt_of_le h.lt f.size
 blk := by rw [f.same k h.lt]; exact h.blk
 row hne := by
  obtain ⟨b, o, c, h1, h2, h3, h4⟩ := h.row hne
  exact ⟨b, o, c, h1, Nat.lt_of_lt_of_le h2 f.size, by rw [f.same b h2]; exact h3, h4⟩
 byte := h.byte
 len := h.len
theorem Chu.put (h : Chu H k a bs cap) {u s : Int} (hu : 0 ≤ u ∧ u ≤ bs.length) (hs : 0 ≤ s ∧ s < 18446744073709551616) : Chu (H.put k (.rw [.slice a bs.length cap, .int .i64 u, .int .u64 s] 145 false [])) k a bs cap where
 lt := by rw [size_put]; exact h.lt
 blk := ⟨u, s, get_put_same h.lt, hu.1, hu.2, hs⟩
 row hne := by
  obtain ⟨b, o, c, h1, h2, h3, h4⟩ := h.row hne
  obtain ⟨u, s, h5, _⟩ := h.blk
  refine ⟨b, o, c, h1, by rw [size_put]; exact h2, ?_, h4⟩
  rw [get_put_ne (fun e => by subst e; rw [h5] at h3; cases h3)]
  exact h3
 byte := h.byte
 len := h.len
theorem Chu.other {j : Nat} {b' : ABlk} (h : Chu H k a bs cap) (hj : j ≠ k) (hr : ∀ c, H.get j ≠ .ro c) : Chu (H.put j b') k a bs cap where
 lt := by rw [size_put]; exact h.lt
 blk := by rw [get_put_ne (Ne.symm hj)]; exact h.blk
 row hne := by
  obtain ⟨b, o, c, h1, h2, h3, h4⟩ := h.row hne
  refine ⟨b, o, c, h1, by rw [size_put]; exact h2, ?_, h4⟩
  rw [get_put_ne (fun e => by subst e; exact hr c h3)]
  exact h3
 byte := h.byte
 len := h.len
theorem fdiv_range {s d : Int} (hs : 0 ≤ s ∧ s < 18446744073709551616) (hd : 1 ≤ d) : 0 ≤ s.fdiv d ∧ s.fdiv d < 18446744073709551616 := by
 rw [Int.fdiv_eq_ediv_of_nonneg _ (by omega)]
 exact ⟨Int.ediv_nonneg hs.1 (by omega), Int.lt_of_le_of_lt (Int.ediv_le_self _ hs.1) hs.2⟩
set_option maxHeartbeats 1000000 in
theorem c96 {x : Int} (h : Chu H k a bs cap) (hL : L ≤ k) {M : Nat} (hM : 60 ≤ M) (hq : ∀ f H', (f = true → H' = H) → Chu H' k a bs cap → FrX k H H' → H'.size = H.size → Q f (.tuple ⟨[]⟩) H') :
  resK (acall tabA (aexec tabA Try.prog M) 96 [.pointer (some ⟨k, 0, none⟩), .int .u8 x] H) L Q := by
 obtain ⟨N, rfl⟩ : ∃ N, M = N + 60 := ⟨M - 60, by omega⟩
 have hlt := h.lt
 refine call_keep tabA_fr (k := 35) (rs := []) (R := fun v H' => v = .tuple ⟨[]⟩ ∧ Chu H' k a bs cap ∧ FrX k H H' ∧ H'.size = H.size) rfl fn_96 rfl rfl rfl (by omega) ?_ (by rintro v H' ⟨rfl, h1, h2, h3⟩; exact hq _ _ (fun h => by cases h) h1 h2 h3) (by rintro v H' ⟨rfl, h1, h2, h3⟩ _ _; exact hq _ _ (fun _ => rfl) h (FrX.refl _ _) rfl)
 obtain ⟨u, s, hb, hu0, hu1, hs0, hs1⟩ := h.blk
 simp (disch:=first|(simp only [yk,seval];done)|omega|(simp only [yz]<;>omega)|fail) only [↓yp,yA,ys0,ys1,seval,fitB,newC,endD,endR]
 refine W_drawR (pl := []) [22] [(3, 1), (10, 1), (16, 1)] (planK_of rfl) (by kernel_rfl) (by kernel_rfl) (by kernel_rfl) (by first|omega|(simp only [yz]<;>omega)) ?_
 simp (disch:=first|(simp only [yk,seval];done)|omega|(simp only [yz]<;>omega)|fail) only [↓yp,yA,ys0,ys1,seval,fitB,newC,endD,endR,A_nilCheck,nilQ_ptr,A_conv,cv_5_143,hb,u64_add,u64_mul,u64_xor,u64_shl6,u64_shr2]
 simp (disch:=first|(simp only [yk,seval];done)|omega|(simp only [yz]<;>omega)|fail) only [resV_none,optK_some,true_and]
 refine ⟨(h.put ⟨hu0, hu1⟩ (u64w_range _)).put ⟨hu0, hu1⟩ (u64w_range _), (FrX.put (FrX.put (FrX.refl _ _) _) _), ?_⟩
 rw [size_put, size_put]
def Pulled (n v : Int) : Prop := 0 ≤ v ∧ (v < n ∨ v = 0)
set_option maxHeartbeats 1000000 in
theorem c42 {n : Int} (h : Chu H k a bs cap) (hL : L ≤ k) (hn : n ≤ 256) {M : Nat} (hM : 200 ≤ M) (hq : ∀ f v H', (f = true → H' = H) → Pulled n v → Chu H' k a bs cap → FrX k H H' → H'.size = H.size → Q f (.int .i64 v) H') :
  resK (acall tabA (aexec tabA Try.prog M) 42 [.pointer (some ⟨k, 0, none⟩), .int .i64 n] H) L Q := by
 obtain ⟨N, rfl⟩ : ∃ N, M = N + 200 := ⟨M - 200, by omega⟩
 have hlt := h.lt
 refine call_keep tabA_fr (k := 138) (rs := [.tmp 4]) (R := fun v H' => ∃ x, v = .int .i64 x ∧ Pulled n x ∧ Chu H' k a bs cap ∧ FrX k H H' ∧ H'.size = H.size) rfl fn_42 rfl rfl rfl (by omega) ?_ (by rintro v H' ⟨x, rfl, h0, h1, h2, h3⟩; exact hq _ _ _ (fun h => by cases h) h0 h1 h2 h3) (by rintro v H' ⟨x, rfl, h0, h1, h2, h3⟩ _ _; exact hq _ _ _ (fun _ => rfl) h0 h (FrX.refl _ _) rfl)
 obtain ⟨u, s, hb, hu0, hu1, hs0, hs1⟩ := h.blk
 have hlen := h.len
 cases hA : decide (n < 2)
 rotate_left
 ·simp (disch:=first|(simp only [yk,seval];done)|omega|(simp only [yz]<;>omega)|fail) only [↓yp,yA,ys0,ys1,seval,fitB,newC,endD,endR,A_nilCheck,nilQ_ptr,hb,lenV_slice st_esS_63,hA]
  exact ⟨0, rfl, ⟨by omega, .inr rfl⟩, h, FrX.refl _ _⟩
 cases hB : decide ((bs.length : Int) = 0)
 rotate_left
 ·simp (disch:=first|(simp only [yk,seval];done)|omega|(simp only [yz]<;>omega)|fail) only [↓yp,yA,ys0,ys1,seval,fitB,newC,endD,endR,A_nilCheck,nilQ_ptr,hb,lenV_slice st_esS_63,hA,hB]
  exact ⟨0, rfl, ⟨by omega, .inr rfl⟩, h, FrX.refl _ _⟩
 have hn2 : 2 ≤ n := by have := of_decide_eq_false hA; omega
 have hbl : 0 < bs.length := by have := of_decide_eq_false hB; omega
 obtain ⟨b, o, c, rfl, hb2, hc, hrow⟩ := h.row (List.length_pos_iff.1 hbl)
 have h256 : decide (256 < n) = false := by simp; omega
 have hrem := fun (x y : Operand) (a : Int) => i64_rem (T := tabA) (P := Try.prog) (ty := 3) (x := x) (y := y) (a := a) (b := n) (by omega)
 simp (disch:=first|(simp only [yk,seval];done)|omega|(simp only [yz]<;>omega)|fail) only [↓yp,yA,ys0,ys1,seval,fitB,newC,endD,endR,A_nilCheck,nilQ_ptr,hb,lenV_slice st_esS_63,hA,hB]
 refine W_draw [] rfl (by kernel_rfl) (by kernel_rfl) (by first|omega|(simp only [yz]<;>omega)) ?_
 cases hC : decide (w64 (u + 1) < (bs.length : Int))
 all_goals
  simp (disch:=first|(simp only [yk,seval];done)|omega|(simp only [yz]<;>omega)|fail) only [↓yp,yA,ys0,ys1,seval,fitB,newC,endD,endR,A_nilCheck,nilQ_ptr,hb,lenV_slice st_esS_63,hC,h256]
  refine W_draw [] rfl (by kernel_rfl) (by kernel_rfl) (by first|omega|(simp only [yz]<;>omega)) ?_
  cases hD : decide (u < (bs.length : Int))
  rotate_left
  ·have hu2 : u < (bs.length : Int) := of_decide_eq_true hD
   obtain ⟨i, rfl⟩ : ∃ i : Nat, u = i := ⟨u.toNat, by omega⟩
   obtain ⟨x, hx⟩ : ∃ x, bs[i]? = some x := ⟨bs[i]'(by omega), by simp [show i < bs.length by omega]⟩
   have w1 : w64 ((i : Int) + 1) = (i : Int) + 1 := w64_of (by omega)
   have hcx := hrow i x hx
   have hx256 := h.byte x (List.mem_of_getElem? hx)
   have w2 : w64 x = x := w64_of (by omega)
   simp (disch:=first|(simp only [yk,seval];done)|omega|(simp only [yz]<;>omega)|fail) only [↓yp,yA,ys0,ys1,seval,fitB,newC,endD,endR,A_nilCheck,nilQ_ptr,hb,lenV_slice st_esS_63,hD]
   refine W_draw [] rfl (by kernel_rfl) (by kernel_rfl) (by first|omega|(simp only [yz]<;>omega)) ?_
   simp (disch:=first|(simp only [yk,seval];done)|omega|(simp only [yz]<;>omega)|fail) only [↓yp,yA,ys0,ys1,seval,fitB,newC,endD,endR,A_nilCheck,nilQ_ptr,hb,A_indexSlice st_esS_63,hc,hcx,w1]
   refine c96 (h.put (u := (i : Int) + 1) ⟨by omega, by omega⟩ ⟨hs0, hs1⟩) hL (by omega) ?_
   intro f H' _ hc' hx' hs'
   rw [size_put] at hs'
   simp (disch:=first|(simp only [yk,seval];done)|omega|(simp only [yz]<;>omega)|fail) only [↓yp,yA,ys0,ys1,seval,fitB,newC,endD,endR,A_conv,cv_5_3,w2,hrem]
   refine ⟨_, rfl, ⟨Int.tmod_nonneg _ hx256.1, .inl (Int.tmod_lt_of_pos _ (by omega))⟩, hc', (FrX.put (FrX.refl _ _) _).trans hx', hs'⟩
  ·have hu2 : u = (bs.length : Int) := by have := of_decide_eq_false hD; omega
   simp (disch:=first|(simp only [yk,seval];done)|omega|(simp only [yz]<;>omega)|fail) only [↓yp,yA,ys0,ys1,seval,fitB,newC,endD,endR,A_nilCheck,nilQ_ptr,hb,lenV_slice st_esS_63,hD]
   have wl : u64w (bs.length : Int) = (bs.length : Int) := u64w_of (by omega)
   have hreml := fun (x y : Operand) (a : Int) => u64_rem (T := tabA) (P := Try.prog) (ty := 143) (x := x) (y := y) (a := a) (b := (bs.length : Int)) (by omega)
   obtain ⟨i, hi, hi2⟩ : ∃ i : Nat, s.tmod (bs.length : Int) = i ∧ i < bs.length := by
    have q1 := Int.tmod_nonneg (bs.length : Int) hs0
    have q2 := Int.tmod_lt_of_pos s (show (0 : Int) < (bs.length : Int) by omega)
    exact ⟨(s.tmod (bs.length : Int)).toNat, by omega, by omega⟩
   have w3 : w64 (i : Int) = (i : Int) := w64_of (by omega)
   obtain ⟨x, hx⟩ : ∃ x, bs[i]? = some x := ⟨bs[i]'(by omega), by simp [hi2]⟩
   have hcx := hrow i x hx
   obtain ⟨f, v, H', m, hres, hLm, rfl, hf, hc', hx', hs'⟩ := resK_elim (Q := fun f v H' => v = .tuple ⟨[]⟩ ∧ (f = true → H' = H) ∧ Chu H' k (some ⟨b, o, none⟩) bs cap ∧ FrX k H H' ∧ H'.size = H.size) (c96 (M := N + 194) (x := x) h hL (by omega) fun f H' h1 h2 h3 h4 => ⟨rfl, h1, h2, h3, h4⟩)
   obtain ⟨u2, s2, hb', hu2', hu3', hs2, hs3⟩ := hc'.blk
   have hc2 : H'.get b = .ro c := by
    rw [hx'.same b hb2 (fun e => by subst e; rw [hb] at hc; cases hc)]
    exact hc
   have hn64 : u64w n = n := u64w_of (by omega)
   have hremn := fun (x y : Operand) (a : Int) => u64_rem (T := tabA) (P := Try.prog) (ty := 143) (x := x) (y := y) (a := a) (b := n) (by omega)
   have hfd := fdiv_range (s := s2) (d := 1048576) ⟨hs2, hs3⟩ (by omega)
   have q1 := Int.tmod_nonneg n hfd.1
   have q2 := Int.tmod_lt_of_pos (s2.fdiv 1048576) (show (0 : Int) < n by omega)
   have w4 : w64 ((s2.fdiv 1048576).tmod n) = (s2.fdiv 1048576).tmod n := w64_of (by omega)
   cases f
   ·refine W_drawR (pl := []) [19] [(8, 1)] (planK_of rfl) (by kernel_rfl) (by kernel_rfl) (by kernel_rfl) (by first|omega|(simp only [yz]<;>omega)) ?_
    simp (disch:=first|(simp only [yk,seval];done)|omega|(simp only [yz]<;>omega)|fail) only [↓yp,yA,ys0,ys1,seval,fitB,newC,endD,endR,A_nilCheck,nilQ_ptr,hb,hb',lenV_slice st_esS_63,A_indexSlice st_esS_63,hc,hc2,hcx,A_conv,cv_3_143,cv_143_3,show ∀ z,IntKind.u64.wrap z = u64w z from fun _ => rfl,wl,hreml,hi,w3,hres]
    simp (disch:=first|(simp only [yk,seval];done)|omega|(simp only [yz]<;>omega)|fail) only [↓yp,yA,ys0,ys1,seval,fitB,newC,endD,endR,A_nilCheck,nilQ_ptr,hb',A_conv,cv_3_143,cv_143_3,show ∀ z,IntKind.u64.wrap z = u64w z from fun _ => rfl,hn64,hremn,u64_shr20,w4]
    exact ⟨_, rfl, ⟨q1, .inl q2⟩, hc', hx', hs'⟩
   ·obtain rfl := hf rfl
    rw [hb] at hb'
    cases hb'
    refine W_drawR (pl := []) [] [] (planK_of rfl) (by kernel_rfl) (by kernel_rfl) (by kernel_rfl) (by first|omega|(simp only [yz]<;>omega)) ?_
    simp (disch:=first|(simp only [yk,seval];done)|omega|(simp only [yz]<;>omega)|fail) only [↓yp,yA,ys0,ys1,seval,fitB,newC,endD,endR,A_nilCheck,nilQ_ptr,hb,lenV_slice st_esS_63,A_indexSlice st_esS_63,hc,hcx,A_conv,cv_3_143,cv_143_3,show ∀ z,IntKind.u64.wrap z = u64w z from fun _ => rfl,wl,hreml,hi,w3,hres]
    simp (disch:=first|(simp only [yk,seval];done)|omega|(simp only [yz]<;>omega)|fail) only [↓yp,yA,ys0,ys1,seval,fitB,newC,endD,endR,A_nilCheck,nilQ_ptr,hb,A_conv,cv_3_143,cv_143_3,show ∀ z,IntKind.u64.wrap z = u64w z from fun _ => rfl,hn64,hremn,u64_shr20,w4]
    exact ⟨_, rfl, ⟨q1, .inl q2⟩, h, FrX.refl _ _⟩
theorem c51 {lo hi : Int} (h : Chu H k a bs cap) (hL : L ≤ k) (hr : -1000 ≤ lo ∧ lo ≤ hi ∧ hi ≤ lo + 255 ∧ hi ≤ 1000) {M : Nat} (hM : 300 ≤ M) (hq : ∀ f v H', (f = true → H' = H) → lo ≤ v → v ≤ hi → Chu H' k a bs cap → FrX k H H' → H'.size = H.size → Q f (.int .i64 v) H') :
  resK (acall tabA (aexec tabA Try.prog M) 51 [.pointer (some ⟨k, 0, none⟩), .int .i64 lo, .int .i64 hi] H) L Q := by
 obtain ⟨N, rfl⟩ : ∃ N, M = N + 300 := ⟨M - 300, by omega⟩
 have hlt := h.lt
 refine call_keep tabA_fr (k := 15) (rs := [.tmp 6]) (R := fun v H' => ∃ x, v = .int .i64 x ∧ lo ≤ x ∧ x ≤ hi ∧ Chu H' k a bs cap ∧ FrX k H H' ∧ H'.size = H.size) rfl fn_51 rfl rfl rfl (by omega) ?_ (by rintro v H' ⟨x, rfl, h0, h0', h1, h2, h3⟩; exact hq _ _ _ (fun h => by cases h) h0 h0' h1 h2 h3) (by rintro v H' ⟨x, rfl, h0, h0', h1, h2, h3⟩ _ _; exact hq _ _ _ (fun _ => rfl) h0 h0' h (FrX.refl _ _) rfl)
 have w1 : w64 (hi - lo) = hi - lo := w64_of (by omega)
 have w2 : w64 (hi - lo + 1) = hi - lo + 1 := w64_of (by omega)
 simp (disch:=first|(simp only [yk,seval];done)|omega|(simp only [yz]<;>omega)|fail) only [↓yp,yA,ys0,ys1,seval,fitB,newC,endD,endR,w1,w2]
 refine c42 h hL (by omega) (by omega) ?_
 rintro f v H' - ⟨h1, h2⟩ hc hx hs
 have w3 : w64 (lo + v) = lo + v := w64_of (by omega)
 simp (disch:=first|(simp only [yk,seval];done)|omega|(simp only [yz]<;>omega)|fail) only [↓yp,yA,ys0,ys1,seval,fitB,newC,endD,endR,w3]
 exact ⟨_, rfl, by omega, by omega, hc, hx, hs⟩
theorem c89 {n : Int} (h : Chu H k a bs cap) (hL : L ≤ k) (hn : n ≤ 256) {M : Nat} (hM : 300 ≤ M) (hq : ∀ f (v : Bool) H', Chu H' k a bs cap → FrX k H H' → H'.size = H.size → Q f (.bool v) H') :
  resK (acall tabA (aexec tabA Try.prog M) 89 [.pointer (some ⟨k, 0, none⟩), .int .i64 n] H) L Q := by
 obtain ⟨N, rfl⟩ : ∃ N, M = N + 300 := ⟨M - 300, by omega⟩
 have hlt := h.lt
 refine call_keep tabA_fr (k := 9) (rs := [.tmp 4]) (R := fun v H' => ∃ x, v = .bool x ∧ Chu H' k a bs cap ∧ FrX k H H' ∧ H'.size = H.size) rfl fn_89 rfl rfl rfl (by omega) ?_ (by rintro v H' ⟨x, rfl, h1, h2, h3⟩; exact hq _ _ _ h1 h2 h3) (by rintro v H' ⟨x, rfl, h1, h2, h3⟩ _ _; exact hq _ _ _ h (FrX.refl _ _) rfl)
 simp (disch:=first|(simp only [yk,seval];done)|omega|(simp only [yz]<;>omega)|fail) only [↓yp,yA,ys0,ys1,seval,fitB,newC,endD,endR]
 refine c42 h hL hn (by omega) ?_
 rintro f v H' - - hc hx hs
 simp (disch:=first|(simp only [yk,seval];done)|omega|(simp only [yz]<;>omega)|fail) only [↓yp,yA,ys0,ys1,seval,fitB,newC,endD,endR]
 exact ⟨_, rfl, hc, hx, hs⟩
theorem aenv_nilp {n : Nat} {e : VT} : aenv n e (.const (.pointer none)) = some (.pointer none) := nr rfl
structure Bts (H : AHeap) (a : Option Addr) (bs : List Int) : Prop where
 row : bs ≠ [] → ∃ b o c, a = some ⟨b, o, none⟩ ∧ b < H.size ∧ H.get b = .ro c ∧ ∀ i x, bs[i]? = some x → c[o + i]? = some (.int .u8 x)
 byte : ∀ x ∈ bs, 0 ≤ x ∧ x < 256
 len : bs.length < 9223372036854775808
theorem c34 {bs : List Int} (hb : Bts H a bs) (hL : L ≤ H.size) {M : Nat} (hM : 50 ≤ M) (hq : ∀ H', Fr H H' → H'.size = H.size + 1 → Chu H' H.size a bs cap → Q false (.pointer (some ⟨H.size, 0, none⟩)) H') :
  resK (acall tabA (aexec tabA Try.prog M) 34 [.slice a bs.length cap] H) L Q := by
 obtain ⟨N, rfl⟩ : ∃ N, M = N + 50 := ⟨M - 50, by omega⟩
 refine call_fls (R := fun v H' => v = .pointer (some ⟨H.size, 0, none⟩) ∧ Fr H H' ∧ H'.size = H.size + 1 ∧ Chu H' H.size a bs cap) (k := 6) (rs := [.tmp 2]) rfl fn_34 rfl rfl rfl hL ?_ ?_ ?_
 rotate_left
 ·rintro v H' ⟨rfl, -⟩; rfl
 ·rintro v H' ⟨rfl, h1, h2, h3⟩
  exact hq _ h1 h2 h3
 simp (disch:=first|(simp only [yk,seval];done)|omega|(simp only [yz]<;>omega)|fail) only [↓yp,yA,ys0,ys1,seval,fitB,newC,endD,endR,A_build st_bdS_145,aenv_nilp]
 refine ⟨by (repeat (first | exact Fr.refl _ | assumption | refine Fr.allocd ?_ _ | refine Fr.put ?_ (by first | omega | (simp only [yz] <;> omega)) _)), ⟨by (first | omega | (simp only [yz] <;> omega)), ⟨0, 8191, get_alloc_same, by omega, by omega, by omega, by omega⟩, fun hne => ?_, hb.byte, hb.len⟩⟩
 obtain ⟨b, o, c, h1, h2, h3, h4⟩ := hb.row hne
 exact ⟨b, o, c, h1, by (first | omega | (simp only [yz] <;> omega)), by rw [get_alloc_lt h2]; exact h3, h4⟩
end
set_option linter.defProp false in
def yrg := (And.intro (And.intro @loopKD_normal (And.intro @loopKD_ret @loopKD_exit)) (And.intro (And.intro @midK_normal @midK_exit) (And.intro @midK_ret @endK_normal)))
end Go.Am.K
namespace Go.Am.K
open Go.Proofs Go.Deep Go.RowKit Go.ChangeShapes Go.WideShapes Go.ChangeAt
variable {X : Type} {enc : TypeId × Value → X} {w : World} {base : Nat} {sp : Nat → Bool} {held : Bool} {n : Nat} {cs : List Value} {x : DataW X × List MemPlace}
theorem trodAll_stays {P : Program} (hl : laidOutB P = true) {W W' : World} {sp' : Nat → Bool} (hsame : ∀ k, k < W.heap.size → W'.heap[k]? = W.heap[k]?) : ∀ {ts : List TypeId} {vs : List Value} {ds : List (DataW X)} {ps : List MemPlace}, (∀ t ∈ ts, P.readableRec t = true ∧ t < P.types.size) →
  DataW.TrodAll enc P W 0 (fun _ => true) true ts vs ds ps → (∀ p ∈ ps, p.block < W.heap.size) → (∀ p ∈ ps, sp' p.block = true) → DataW.TrodAll enc P W' 0 sp' true ts vs ds ps
 | [], [], [], _, _, h, _, _ => h
 | t :: ts, v :: vs, d :: ds, _, ht, ⟨p, q, h1, h2, e⟩, hlt, hs => by
  subst e
  refine ⟨p, q, ?_, trodAll_stays hl hsame (fun t h => ht t (List.mem_cons_of_mem _ h)) h2 (fun x hx => hlt x (List.mem_append_right _ hx)) (fun x hx => hs x (List.mem_append_right _ hx)), rfl⟩
  refine WideElems.Trod_stays hl (ht t (by simp)).1 (ht t (by simp)).2 h1 (fun x hx => ?_) (fun x hx => hs x (List.mem_append_left _ hx))
  cases x with
  | cell b o => exact World.cell?_of_block (w := W) (hsame b (hlt _ (List.mem_append_left _ hx)))
  | map b => exact hsame b (hlt _ (List.mem_append_left _ hx))
theorem calls_below {P : Program} {f : FuncId} {args : List Value} {H : AHeap} {v : Value} (h : SCall P f args H v H H.size) (hg : gr v = true) {σ : Place} {W : World} (r : Rel σ H W) (ha : ∀ x ∈ args, okv σ x) :
  Calls P f (args.map (ren σ)).toArray W fun e w' => e = .returned v ∧ Below W.heap.size W w' := by
 refine callsIn_wide (n := 0).1 ((h Fence.wide 0 σ W free_wide r ha).mono ?_)
 rintro e w' ⟨σ', rfl, _, _, x⟩
 exact ⟨by rw [(gr_ok σ' hg).2], x.os, x.tape, x.output, x.wsize, fun b hb => x.frame b hb fun k s hk hp => absurd (r.lt k b s hp).1 (by omega)⟩
def rowHeap (c : List Value) : AHeap := AHeap.alloc ⟨0, .nil⟩ (.ro c)
theorem rowHeap_get {c : List Value} : (rowHeap c).get 0 = .ro c := get_alloc_eq rfl
theorem rowHeap_size {c : List Value} : (rowHeap c).size = 1 := AHeap.size_alloc _ _
theorem add_off {a : Addr} (h : a.spot = none) (i : Nat) : a.add i = ⟨a.block, a.off + i, none⟩ := by
 obtain ⟨b, o, s⟩ := a
 simp only at h
 subst h
 unfold Addr.add
 split
 ·rename_i h0; subst h0; rfl
 ·rfl
theorem shape_lt {W : World} {b : Nat} {s : TypeId × Nat} (h : W.shape? b = some s) : b < W.heap.size := by
 unfold World.shape? at h
 split at h
 ·rename_i he
  exact (Array.getElem?_eq_some_iff.1 he).1
 ·cases h
theorem law_post {P : Program} {f : Func} {s : ChangeSpec} {fresh handsOn again : Bool} {W W' : World} {args : Array Value} {v : Value} {ds gs : List (DataW X)} {ps : List MemPlace}
  (hW : DataW.Whole enc P f.params.toList s.vars false W args.toList ds gs (ps ++ [])) (hb : Below W.heap.size W W')
  (hres : ∀ (b : Nat) (sp : Nat → Bool) (hd : Bool), DataW.TrodAll enc P W' b sp hd f.resultTypes.toList (v.resultList f.resultTypes.size) (s.fn X (ds ++ gs)).results [])
  (hargs : ∀ sp : Nat → Bool, (∀ p ∈ ps, sp p.block = true) → DataW.TrodAll enc P W' 0 sp true f.params.toList args.toList (s.fn X (ds ++ gs)).args ps)
  (hvars : ∀ sp : Nat → Bool, DataW.TrodVars enc P W' sp s.vars (s.fn X (ds ++ gs)).vars [])
  (hok : ∀ (j : Nat) (t : TypeId) (r : Value), f.resultTypes[j]? = some t → (v.resultList f.resultTypes.size)[j]? = some r → Value.okWide P W' .any 0 t r) :
  s.post enc P f false fresh handsOn again W args v W' := by
 have lt : ∀ p ∈ ps, p.block < W.heap.size := fun p hp => hW.lt p (List.mem_append_left _ hp)
 have all := hargs (fun _ => true) fun _ _ => rfl
 have old := hargs (fun b => decide (b < W.heap.size)) fun p hp => decide_eq_true (lt p hp)
 refine ⟨ds, gs, ps ++ [], [], ps, [], hW, hres _ _ _, old, hvars _, World.keptBut_mono (fun p hp => ⟨hp, .inr (List.mem_append.1 hp)⟩) (hb.frame (· ∈ ps ++ [])), fun _ => ⟨hok, _, _, ([] ++ ps) ++ [], ⟨[] ++ ps, [], trodAll_append all (hres _ _ _), hvars _, rfl, ?_, fun h => by cases h⟩, fun p hp _ => by simpa using hp⟩⟩
 obtain ⟨_, _, _, _, _, hz, _⟩ := hW
 intro b o hp
 have hp' : MemPlace.cell b o ∈ ps ++ [] := by simpa using hp
 rw [hb.frozen (lt _ (by simpa using hp'))]
 exact hz b o hp'
theorem wf_u8 {i : Int} (h : (Lit.int .u8 i).wf = true) : 0 ≤ i ∧ i < 256 := by
 unfold Lit.wf at h
 simp only [Bool.and_eq_true,decide_eq_true_eq] at h
 have h1 : IntKind.u8.min = 0 := rfl
 have h2 : IntKind.u8.max = 255 := rfl
 omega
theorem read_u8 {c : Value} {y : DataW X × List MemPlace} (h : DataW.trod enc Try.prog w base sp held n 5 [c] = some y) : ∃ i, c = .int .u8 i ∧ 0 ≤ i ∧ i < 256 := by
 obtain ⟨i, h1, _, h3⟩ := DataW.trod_int Try.underlying5 h
 exact ⟨i, by simpa using h1, (wf_u8 h3).1, (wf_u8 h3).2⟩
theorem cellsOf5 : Try.prog.cellsOf 5 = 1 := by kernel_rfl
structure BytesIn (W : World) (a : Option Addr) (len cap : Nat) (bs : List Int) : Prop where
 hlen : len = bs.length
 hcap : cap < OPEN
 lt : bs.length < 9223372036854775808
 byte : ∀ x ∈ bs, 0 ≤ x ∧ x < 256
 nl : a = none → cap = 0 ∧ bs = []
 row : ∀ ad, a = some ad → ad.spot = none ∧ ad.block < W.heap.size ∧ ∀ i x, bs[i]? = some x → W.cell? ⟨ad.block, ad.off + i, none⟩ = some (.int .u8 x)
def u8s (bs : List Int) : List Value := bs.map fun b => .int .u8 b
theorem u8s_get {bs : List Int} {i : Nat} {v : Value} (h : (u8s bs)[i]? = some v) : ∃ x, bs[i]? = some x ∧ v = .int .u8 x := by
 unfold u8s at h
 rw [List.getElem?_map, Option.map_eq_some_iff] at h
 obtain ⟨x, h1, h2⟩ := h
 exact ⟨x, h1, h2.symm⟩
instance : Inhabited Int := ⟨0⟩
set_option maxRecDepth 100000 in
theorem bytes_read {W : World} {base : Nat} {v : Value} {d : DataW X} {p : List MemPlace} (hv : Value.okWide Try.prog W .any base 63 v) (h : DataW.Trod enc Try.prog W 0 (fun _ => true) true 63 v d p) :
  ∃ (a : Option Addr) (len cap : Nat) (bs : List Int), v = .slice a len cap ∧ BytesIn W a len cap bs := by
 obtain ⟨fuel, h⟩ := h
 have key : ∀ a len cap, v = .slice a len cap → ∃ (a : Option Addr) (len cap : Nat) (bs : List Int), v = .slice a len cap ∧ BytesIn W a len cap bs := by
  rintro a₀ len₀ cap₀ rfl
  rcases open_slice Try.underlying63 h with ⟨hn, _⟩ | ⟨a, len, cap, m, n', D, Pl, hn, _, hle, hcap, hm, _, hx⟩
  ·have hn' : Value.slice a₀ len₀ cap₀ = .slice none 0 0 := by simpa [Value.cells] using hn
   cases hn'
   exact ⟨none, 0, 0, [], rfl, rfl, by unfold OPEN; omega, by simp, by simp, fun _ => ⟨rfl, rfl⟩, fun ad h => by cases h⟩
  ·have hn' : Value.slice a₀ len₀ cap₀ = .slice (some a) len cap := by simpa [Value.cells] using hn
   obtain ⟨rfl, rfl, rfl⟩ : a₀ = some a ∧ len₀ = len ∧ cap₀ = cap := by simpa using hn'
   unfold Value.okWide at hv
   rw [Try.underlying63] at hv
   simp only [Cell.okWide,Cell.ok,Try.underlying63] at hv
   obtain ⟨_, _, _, hsp, ⟨row, cells, hsh, _⟩⟩ := hv
   have hb := shape_lt hsh
   have hm' : m = cap₀ := by rw [hm]; rfl
   obtain ⟨S, hS⟩ := choose_lt (α := Int) (p := fun i s => (0 ≤ s ∧ s < 256) ∧ W.cells? 0 (a.add i) 1 = some [.int .u8 s]) (n := len₀) (fun i hi => by
    obtain ⟨cs', k1, k2⟩ := hx i (by omega)
    rw [cellsOf5, Nat.mul_one] at k1
    have hl1 : cs'.length = 1 := (World.cells?_some k1).2.1
    match cs', hl1 with
    | [c], _ =>
     obtain ⟨s, rfl, k3, k4⟩ := read_u8 k2
     exact ⟨s, ⟨k3, k4⟩, k1⟩)
   have hget : ∀ i s, ((List.range len₀).map S)[i]? = some s → i < len₀ ∧ s = S i := fun i s h => by
    rw [List.getElem?_map, Option.map_eq_some_iff] at h
    obtain ⟨j, hj, rfl⟩ := h
    have := List.getElem?_eq_some_iff.1 hj
    obtain ⟨q1, q2⟩ := this
    rw [List.getElem_range] at q2
    subst q2
    exact ⟨by simpa using q1, rfl⟩
   unfold maxLen at hcap
   refine ⟨some a, len₀, cap₀, (List.range len₀).map S, rfl, by simp, by unfold OPEN; omega, by simp; omega, ?_, (fun h => by cases h), ?_⟩
   ·intro s hs
    obtain ⟨i, hi⟩ := List.getElem?_of_mem hs
    obtain ⟨k1, rfl⟩ := hget i s hi
    exact (hS i k1).1
   ·intro ad had
    cases had
    refine ⟨hsp, hb, fun i s hi => ?_⟩
    obtain ⟨k1, rfl⟩ := hget i s hi
    obtain ⟨_, _, hc⟩ := World.cells?_some (hS i k1).2
    have := hc 0 (by omega)
    rw [add_add, add_off hsp] at this
    simpa using this
 cases v with
 | slice a len cap => exact key _ _ _ rfl
 | _ =>
  exfalso
  unfold Value.okWide at hv
  rw [Try.underlying63] at hv
  simp [Cell.okWide, Cell.ok, Try.underlying63] at hv
def twoPlace (p q : Option Addr) : Place := ⟨fun k => if k = 0 then p.map fun a => (a.block, a.off) else if k = 1 then q.map fun a => (a.block, a.off) else none, fun _ => 0⟩
def twoHeap (c d : List Value) : AHeap := (rowHeap c).alloc (.ro d)
theorem twoHeap_get0 {c d : List Value} : (twoHeap c d).get 0 = .ro c := by
 unfold twoHeap
 rw [get_alloc_lt (by rw [rowHeap_size]; omega)]
 exact rowHeap_get
theorem twoHeap_get1 {c d : List Value} : (twoHeap c d).get 1 = .ro d := get_alloc_eq (by rw [rowHeap_size])
theorem twoHeap_size {c d : List Value} : (twoHeap c d).size = 2 := by
 unfold twoHeap
 rw [size_alloc, rowHeap_size]
theorem twoRel {W : World} {p q : Option Addr} {c d : List Value} (hp : ∀ a, p = some a → a.block < W.heap.size ∧ ∀ (i : Nat) (v : Value), c[i]? = some v → gr v = true ∧ W.cell? ⟨a.block, a.off + i, none⟩ = some v)
  (hq : ∀ a, q = some a → a.block < W.heap.size ∧ ∀ (i : Nat) (v : Value), d[i]? = some v → gr v = true ∧ W.cell? ⟨a.block, a.off + i, none⟩ = some v) : Rel (twoPlace p q) (twoHeap c d) W where
 lt k b' s h := by
  rw [twoHeap_size]
  unfold twoPlace at h
  simp only at h
  split at h
  ·rename_i hk
   obtain ⟨a, ha, he⟩ := Option.map_eq_some_iff.1 h
   cases he
   exact ⟨by omega, (hp a ha).1⟩
  ·split at h
   ·obtain ⟨a, ha, he⟩ := Option.map_eq_some_iff.1 h
    cases he
    exact ⟨by omega, (hq a ha).1⟩
   ·cases h
 holds k b' s h := by
  unfold twoPlace at h
  simp only at h
  split at h
  ·rename_i hk
   subst hk
   obtain ⟨a, ha, he⟩ := Option.map_eq_some_iff.1 h
   cases he
   rw [twoHeap_get0]
   intro i v hi
   obtain ⟨g1, g2⟩ := (hp a ha).2 i v hi
   exact ⟨(gr_ok _ g1).1, by rw [(gr_ok _ g1).2]; exact g2⟩
  ·split at h
   ·rename_i hk
    subst hk
    obtain ⟨a, ha, he⟩ := Option.map_eq_some_iff.1 h
    cases he
    rw [twoHeap_get1]
    intro i v hi
    obtain ⟨g1, g2⟩ := (hq a ha).2 i v hi
    exact ⟨(gr_ok _ g1).1, by rw [(gr_ok _ g1).2]; exact g2⟩
   ·cases h
 excl k k' b' s s' h h' hne al hal := by
  unfold twoPlace at h
  simp only at h
  split at h
  ·rename_i hk
   subst hk
   rw [twoHeap_get0] at hal
   cases hal
  ·split at h
   ·rename_i hk
    subst hk
    rw [twoHeap_get1] at hal
    cases hal
   ·cases h
def atK (k : Nat) (a : Option Addr) : Option Addr := a.map fun _ => ⟨k, 0, none⟩
theorem BytesIn.bts {W : World} {a : Option Addr} {len cap : Nat} {bs : List Int} (t : BytesIn W a len cap bs) {H : AHeap} {k : Nat} (hk : k < H.size) (hg : H.get k = .ro (u8s bs)) : Bts H (atK k a) bs := ⟨fun hne => by
 cases a with
 | none => exact absurd (t.nl rfl).2 hne
 | some ad =>
  refine ⟨k, 0, u8s bs, rfl, hk, hg, fun i x hi => ?_⟩
  unfold u8s
  rw [Nat.zero_add, List.getElem?_map, hi]; rfl, t.byte, t.lt⟩
theorem BytesIn.cells {W : World} {a : Option Addr} {len cap : Nat} {bs : List Int} (t : BytesIn W a len cap bs) : ∀ ad, a = some ad → ad.block < W.heap.size ∧ ∀ (i : Nat) (v : Value), (u8s bs)[i]? = some v → gr v = true ∧ W.cell? ⟨ad.block, ad.off + i, none⟩ = some v := fun ad h => by
 obtain ⟨_, hb, hrow⟩ := t.row ad h
 refine ⟨hb, fun i v hi => ?_⟩
 obtain ⟨x, h1, rfl⟩ := u8s_get hi
 exact ⟨rfl, hrow i x h1⟩
theorem BytesIn.okv {W : World} {a : Option Addr} {len cap : Nat} {bs : List Int} (t : BytesIn W a len cap bs) {σ : Place} {k : Nat} (h : σ.at_ k = a.map fun ad => (ad.block, ad.off)) : Go.Am.okv σ (.slice (atK k a) bs.length cap) := by
 cases a with
 | none =>
  have := t.hcap
  simpa [Go.Am.okv, atK] using this
 | some ad =>
  simp only [atK,Option.map_some,Go.Am.okv]
  exact ⟨trivial, by rw [h]; rfl, fun hc => absurd t.hcap (by omega)⟩
theorem BytesIn.ren {W : World} {a : Option Addr} {len cap : Nat} {bs : List Int} (t : BytesIn W a len cap bs) {σ : Place} {k : Nat} (h : σ.at_ k = a.map fun ad => (ad.block, ad.off)) : Go.Am.ren σ (.slice (atK k a) bs.length cap) = .slice a bs.length cap := by
 cases a with
 | none =>
  obtain ⟨rfl, rfl⟩ := t.nl rfl
  exact (gr_ok σ (v := .slice none 0 0) rfl).2
 | some ad =>
  obtain ⟨b, o, s⟩ := ad
  obtain ⟨hs, _, _⟩ := t.row _ rfl
  simp only at hs
  subst hs
  simp [Go.Am.ren, atK, Place.cap, t.hcap, Place.addr, h]
theorem bytes_calls2 {W : World} {a a2 : Option Addr} {len cap len2 cap2 : Nat} {bs bs2 : List Int} (t : BytesIn W a len cap bs) (t2 : BytesIn W a2 len2 cap2 bs2) {f : FuncId} {rest : List Value} (hr : allGrV rest = true) {n : Nat}
  (h : ∀ (H : AHeap) (a' a2' : Option Addr), Bts H a' bs → Bts H a2' bs2 → acall tabA (aexec tabA Try.prog n) f (.slice a' bs.length cap :: .slice a2' bs2.length cap2 :: rest) H = some (true, .bool true, H, H.size)) :
  Calls Try.prog f (.slice a len cap :: .slice a2 len2 cap2 :: rest).toArray W fun e w' => e = .returned (.bool true) ∧ Below W.heap.size W w' := by
 obtain rfl := t.hlen
 obtain rfl := t2.hlen
 have h1 := call_ok tabA_fits (h (twoHeap (u8s bs) (u8s bs2)) (atK 0 a) (atK 1 a2) (t.bts (by rw [twoHeap_size]; omega) twoHeap_get0) (t2.bts (by rw [twoHeap_size]; omega) twoHeap_get1))
 have hR : Rel (twoPlace a a2) (twoHeap (u8s bs) (u8s bs2)) W := twoRel t.cells t2.cells
 have e1 : (twoPlace a a2).at_ 0 = a.map fun ad => (ad.block, ad.off) := rfl
 have e2 : (twoPlace a a2).at_ 1 = a2.map fun ad => (ad.block, ad.off) := rfl
 have h2 := calls_below h1 rfl hR fun x hx => by
  rcases List.mem_cons.1 hx with rfl | hx
  ·exact t.okv e1
  rcases List.mem_cons.1 hx with rfl | hx
  ·exact t2.okv e2
  ·exact (gr_ok _ (allGrV_mem hr x hx)).1
 rw [List.map_cons, List.map_cons, allGrV_ren hr, t.ren e1, t2.ren e2] at h2
 exact h2
end Go.Am.K
