import Derived.Test.YtehkjjgpgnejnaaT42
set_option linter.unusedSimpArgs false
set_option linter.unusedVariables false
namespace Go.Am.K
open Go.Proofs
variable {T : Tab} {P : Program} {N L : Nat} {H H' H'' : AHeap} {Q : Bool → Value → AHeap → Prop}
theorem fB_iv {f : Nat → Bool} {lo hi : Int} (h : ∀ j : Nat, j < 25 → (f j = true ↔ lo ≤ j ∧ (j : Int) ≤ hi)) : fB f = ivB 25 lo hi := by
 unfold fB ivB
 refine List.map_congr_left fun j hj => ?_
 have := h j (List.mem_range.1 hj)
 cases hf : f j
 ·rw [hf] at this
  cases hd : decide (lo ≤ (j : Int)) && decide ((j : Int) ≤ hi)
  ·rfl
  ·simp only [Bool.and_eq_true,decide_eq_true_eq] at hd
   exact absurd (this.2 hd) (by decide)
 ·have h2 := this.1 hf
  simp [h2]
theorem fo_24 {ps : List Pk} {gs : List Gd} {lots : Int} {l : List Int} (hst : StOk ps gs lots) (ho : LotOk ps l) : 0 ≤ isum (Go.Am.fo false ps l) ∧ isum (Go.Am.fo false ps l) ≤ 24 := by
 have e := fo_len (s := false) (ps := ps) (m := l) (by rw [ho.len]; exact Nat.le_refl _)
 have := isum_le (l := Go.Am.fo false ps l) (m := 6) fun x hx => by
  obtain ⟨j, hj⟩ := List.getElem?_of_mem hx
  have h1 := (List.getElem?_eq_some_iff.1 hj).1
  have g1 : j < ps.length := by omega
  have g2 : j < l.length := by rw [ho.len]; omega
  rw [fo_get (p := ps[j]) (n := l[j]) (by simp [g1]) (by simp [g2])] at hj
  cases hj
  obtain ⟨z1, z2, z3, z4⟩ := Pk.isB_ok (List.all_eq_true.1 hst.pb _ (List.getElem_mem g1))
  have h0 := hst.sp _ (List.getElem_mem g1)
  have hm := ho.ok j l[j] ps[j] (by simp [g2]) (by simp [g1])
  have h5 : ps[j].hi ≤ ps[j].w := by unfold Pk.hi; split <;> omega
  show 0 ≤ ps[j].ih l[j] ∧ ps[j].ih l[j] ≤ 6
  unfold Pk.ih
  split <;> omega
 have := hst.l4
 have h4 : ((Go.Am.fo false ps l).length : Int) ≤ 4 := by omega
 omega
section
variable {a a' al : Option Addr} {cap cap' cl : Nat} {ps : List Pk} {gs : List Gd} {lots : Int} {l : List Int}
set_option maxHeartbeats 2000000 in
theorem c82 (hs : Rw pkE H a ps) (hl : Rw intE H al l) (hst : StOk ps gs lots) (ho : LotOk ps l) :
  acall tabA (aexec tabA Try.prog (N + 1400)) 82 [.agg ⟨[.slice a ps.length cap, .slice a' gs.length cap', .int .i64 lots]⟩, .slice al l.length cl] H = some (true, .agg ⟨[.int .i64 (isum (Go.Am.fo true ps l)), .int .i64 (isum (Go.Am.fo false ps l))]⟩, H, H.size) := by
 refine call_quiet (k := 9) (rs := [.cell 4 38]) rfl fn_82 rfl rfl rfl ?_ rfl
 have hlen := ho.len
 have e1 := fo_len (s := true) (ps := ps) (m := l) (by omega)
 have e2 := fo_len (s := false) (ps := ps) (m := l) (by omega)
 obtain ⟨⟨t0, t1⟩, t2⟩ := trF_all (pk := -1) (fo := 0) hst ho (by omega) ps.length (Nat.le_refl _)
 rw [List.take_of_length_le (by omega)] at t0
 rw [List.take_of_length_le (by omega), List.take_of_length_le (by omega)] at t1 t2
 have hF := fB_iv t2
 have h24 := fo_24 hst ho
 have hE := ends_iv (n := 25) (lo := isum (Go.Am.fo true ps l)) (hi := isum (Go.Am.fo false ps l)) t0 (by omega)
 rw [if_pos t1] at hE
 simp (disch:=first|(simp only [yk,seval];done)|omega|(simp only [yz]<;>omega)|fail) only [↓yp,yq0,yq1,yq2,yq3,yq4,yl,ys0,ys1,seval,fitB,newC,endD,endR,yrg]
 refine c87 (gs := gs) (hs.fr (by repeat first|exact Fr.refl _|assumption|refine Fr.allocd ?_ _|refine Fr.put ?_ (by first|omega|(simp only [yz]<;>omega)) _)) (hl.fr (by repeat first|exact Fr.refl _|assumption|refine Fr.allocd ?_ _|refine Fr.put ?_ (by first|omega|(simp only [yz]<;>omega)) _)) hst ho (by first|omega|(simp only [yz]<;>omega)) (by omega) ?_
 intro b H2 fr2 hb hb2 bB
 have f2 := fr2.size
 have s2 := fr2.same
 simp only [size_alloc] at f2 s2 hb2
 rw [hF] at bB
 have b4 : H2.get (H.size + 1) = .rw [.int .i64 0, .int .i64 0] 38 false [] := by rw [s2 _ (by omega)]; simp (disch:=first|(simp only [yk,seval];done)|omega|(simp only [yz]<;>omega)|fail) only [yg,seval]
 have hr : Rw boE H2 (some ⟨b, 0, none⟩) (ivB 25 (isum (Go.Am.fo true ps l)) (isum (Go.Am.fo false ps l))) := Rw.of (r := []) hb (by rw [bB]; rfl) (by rw [List.append_nil])
 have h85 := fun (N : Nat) => c85 (N := N) (cap := 25) hr (by rw [ivB_len]; omega)
 simp only [ivB_len] at h85
 rw [hE] at h85
 simp (disch:=first|(simp only [yk,seval];done)|omega|(simp only [yz]<;>omega)|fail) only [↓yp,yq0,yq1,yq2,yq3,yq4,yl,ys0,ys1,seval,fitB,newC,endD,endR,yrg,h85,b4]
end
end Go.Am.K
namespace Go.Am.K
open Go.Proofs
variable {T : Tab} {P : Program} {N L : Nat} {H H' H'' : AHeap} {Q : Bool → Value → AHeap → Prop}
def flK1 (v : Value) (H : AHeap) (L : Nat) (Q : Bool → Value → AHeap → Prop) (_ : Tag Q := .mk) : Prop := match still (aField tabA (fun _ => some v) H 38 (.tmp 0) 1) with
 | some (b, v, H', m) => L ≤ m ∧ Q b v H'
 | none => False
theorem A_fld1 {ex : Exec} {t : Operand → Option Value} {x : Operand} : A tabA Try.prog ex t H L (.field 38 x 1) Q = optK (t x) fun v => flK1 v H L Q := by
 unfold A
 show (match still (aField tabA t H 38 x 1) with
  | some (b, v, H', m) => L ≤ m ∧ Q b v H'
  | none => False) = _
 cases hs : t x with
 | none =>
  have : aField tabA t H 38 x 1 = none := by unfold aField; rw [hs]
  rw [this]; rfl
 | some v =>
  have : aField tabA t H 38 x 1 = aField tabA (fun _ => some v) H 38 (.tmp 0) 1 := by unfold aField; rw [hs]
  rw [this]; rfl
theorem flK1_of {u w : Int} : flK1 (.agg ⟨[.int .i64 u, .int .i64 w]⟩) H L Q = andK (L ≤ H.size) (Q true (.int .i64 w) H) := by
 have : aField tabA (fun _ => some (.agg ⟨[.int .i64 u, .int .i64 w]⟩)) H 38 (.tmp 0) 1 = some (.int .i64 w, H, H.size) := by kernel_rfl
 unfold flK1
 rw [this]; rfl
section
variable {a a' al : Option Addr} {cap cap' cl : Nat} {ps : List Pk} {gs : List Gd} {lots y z : Int} {l : List Int}
set_option maxHeartbeats 2000000 in
theorem c26e (hs : Rw pkE H a ps) (hgs : Rw gdE H a' gs) (hl : Rw intE H al l) (hll : l.length ≤ 8) (he : lotE ps gs lots l ≠ 0) :
  acall tabA (aexec tabA Try.prog (N + 2000)) 26 [.agg ⟨[.slice a ps.length cap, .slice a' gs.length cap', .int .i64 lots]⟩, .slice al l.length cl, .int .i64 y, .int .i64 z] H = some (true, .tuple ⟨[.bool false, .int .i64 (lotE ps gs lots l)]⟩, H, H.size) := by
 refine call_quiet (k := 42) (rs := [.tmp 8, .tmp 9]) rfl fn_26 rfl rfl rfl ?_ rfl
 have fr : Fr H (H.alloc (.rw [.slice a ps.length cap, .slice a' gs.length cap', .int .i64 lots] 32 false [])) := by (repeat (first | exact Fr.refl _ | assumption | refine Fr.allocd ?_ _ | refine Fr.put ?_ (by first | omega | (simp only [yz] <;> omega)) _))
 have h80 := fun (N : Nat) => c80 (N := N) (cap := cap) (cap' := cap') (cl := cl) (lots := lots) (hs.fr fr) (hgs.fr fr) (hl.fr fr) hll
 have hA : decide (lotE ps gs lots l = 0) = false := by simp [he]
 simp (disch:=first|(simp only [yk,seval];done)|omega|(simp only [yz]<;>omega)|fail) only [↓yp,yq0,yq1,yq2,yq3,yq4,yl,ys0,ys1,seval,fitB,newC,endD,endR,yrg,h80,hA]
set_option maxHeartbeats 4000000 in
theorem c26 (hs : Rw pkE H a ps) (hgs : Rw gdE H a' gs) (hl : Rw intE H al l) (he : lotE ps gs lots l = 0) :
  acall tabA (aexec tabA Try.prog (N + 2000)) 26 [.agg ⟨[.slice a ps.length cap, .slice a' gs.length cap', .int .i64 lots]⟩, .slice al l.length cl, .int .i64 y, .int .i64 z] H = some (true, (bif wi y 0 (isum l) && decide (0 ≤ z) then .tuple ⟨[.bool (decide ((if isum (Go.Am.fo false ps l) < y then isum (Go.Am.fo false ps l) else y) ≤ z)), .int .i64 0]⟩ else .tuple ⟨[.bool false, .int .i64 4]⟩), H, H.size) := by
 obtain ⟨hst, hck, ho⟩ := lotE_ok he
 have hlen := ho.len
 have hl4 := hst.l4
 have hlb : ∀ x ∈ l, 0 ≤ x ∧ x ≤ 1000000 := fun x hx => by
  obtain ⟨j, hj⟩ := List.getElem?_of_mem hx
  have h1 := (List.getElem?_eq_some_iff.1 hj).1
  have g1 : j < ps.length := by omega
  have h2 := ho.ok j x ps[j] hj (by simp [g1])
  have h3 := (Pk.isB_ok (List.all_eq_true.1 hst.pb _ (List.getElem_mem g1))).s
  omega
 have fr : Fr H (H.alloc (.rw [.slice a ps.length cap, .slice a' gs.length cap', .int .i64 lots] 32 false [])) := by (repeat (first | exact Fr.refl _ | assumption | refine Fr.allocd ?_ _ | refine Fr.put ?_ (by first | omega | (simp only [yz] <;> omega)) _))
 have h80 := fun (N : Nat) => c80 (N := N) (cap := cap) (cap' := cap') (cl := cl) (lots := lots) (hs.fr fr) (hgs.fr fr) (hl.fr fr) (by omega)
 have h81 := fun (N : Nat) => c81 (N := N) (cap := cl) (hl.fr fr) (by omega) hlb
 have h82 := fun (N : Nat) => c82 (N := N) (cap := cap) (cap' := cap') (cl := cl) (lots := lots) (a' := a') (gs := gs) (hs.fr fr) (hl.fr fr) hst ho
 have h67 := fun (N : Nat) (H : AHeap) (n lo hi : Int) => c67 (N := N) (H := H) (n := n) (lo := lo) (hi := hi)
 simp only [off_wi] at h67
 have h24 := fo_24 hst ho
 rw [he] at h80
 have h00 : decide ((0 : Int) = 0) = true := rfl
 cases hW : wi y 0 (isum l)
 ·refine call_quiet (k := 42) (rs := [.tmp 8, .tmp 9]) rfl fn_26 rfl rfl rfl ?_ rfl
  simp (disch:=first|(simp only [yk,seval];done)|omega|(simp only [yz]<;>omega)|fail) only [↓yp,yq0,yq1,yq2,yq3,yq4,yl,ys0,ys1,seval,fitB,newC,endD,endR,yrg,h80,h81,h67,hW,h00,Bool.false_and,cond_false]
 cases hZ : decide (0 ≤ z)
 ·have hZ2 : decide (z < 0) = true := by have := of_decide_eq_false hZ; simp; omega
  refine call_quiet (k := 42) (rs := [.tmp 8, .tmp 9]) rfl fn_26 rfl rfl rfl ?_ rfl
  simp (disch:=first|(simp only [yk,seval];done)|omega|(simp only [yz]<;>omega)|fail) only [↓yp,yq0,yq1,yq2,yq3,yq4,yl,ys0,ys1,seval,fitB,newC,endD,endR,yrg,h80,h81,h67,hW,h00,hZ2,Bool.true_and,cond_false]
 have hZ2 : decide (z < 0) = false := by have := of_decide_eq_true hZ; simp; omega
 obtain ⟨hi, hhi⟩ : ∃ hi, isum (Go.Am.fo false ps l) = hi := ⟨_, rfl⟩
 rw [hhi] at h82 h24
 rw [hhi]
 refine call_quiet (k := 42) (rs := [.tmp 8, .tmp 9]) rfl fn_26 rfl rfl rfl ?_ rfl
 simp (disch:=first|(simp only [yk,seval];done)|omega|(simp only [yz]<;>omega)|fail) only [↓yp,yq0,yq1,yq2,yq3,yq4,yl,ys0,ys1,seval,fitB,newC,endD,endR,yrg,h80,h81,h67,hW,h00,hZ2,Bool.true_and,cond_true]
 refine W_while (n := 42) 1500 (fun q e' H' => ∃ n : Nat, q = 26 - n ∧ (n : Int) ≤ hi + 1 ∧ gt 42 e' 11 = .int .i64 (n : Nat) ∧ gt 42 e' 1 = .slice al l.length cl ∧ gt 42 e' 2 = .int .i64 y ∧ gt 42 e' 3 = .int .i64 z ∧ gt 42 e' 4 = .pointer (some ⟨H.size, 0, none⟩) ∧ H' = H.alloc (.rw [.slice a ps.length cap, .slice a' gs.length cap', .int .i64 lots] 32 false []) ∧ ∀ k : Nat, k < n → ¬ ((k : Int) ≤ y ∧ z < (k : Int)))
  ?_ 26 26 ⟨0, by omega, by omega, by simp (disch:=first|(simp only [yk,seval];done)|omega|(simp only [yz]<;>omega)|fail) only [yg,seval] <;> rfl, by simp (disch:=first|(simp only [yk,seval];done)|omega|(simp only [yz]<;>omega)|fail) only [yg,seval], by simp (disch:=first|(simp only [yk,seval];done)|omega|(simp only [yz]<;>omega)|fail) only [yg,seval], by simp (disch:=first|(simp only [yk,seval];done)|omega|(simp only [yz]<;>omega)|fail) only [yg,seval], by simp (disch:=first|(simp only [yk,seval];done)|omega|(simp only [yz]<;>omega)|fail) only [yg,seval], rfl, fun k hk => by omega⟩ (by omega) (by omega)
 rintro M q e H1 ⟨n, rfl, hn, g11, g1, g2, g3, g4, rfl, hk⟩
 have w2 : w64 ((n : Int) + 1) = ((n + 1 : Nat) : Int) := by rw [w64_of (by omega)]; omega
 simp (disch:=first|(simp only [yk,seval];done)|omega|(simp only [yz]<;>omega)|fail) only [↓yp,yq0,yq1,yq2,yq3,yq4,yl,ys0,ys1,seval,fitB,newC,endD,endR,yrg,g11,g1,g4,h82,A_fld1,flK1_of]
 refine ⟨fun hT => ?_, fun hT => ?_⟩
 ·have hT' := of_decide_eq_true hT
  cases h1 : decide ((n : Int) ≤ y)
  ·simp (disch:=first|(simp only [yk,seval];done)|omega|(simp only [yz]<;>omega)|fail) only [↓yp,yq0,yq1,yq2,yq3,yq4,yl,ys0,ys1,seval,fitB,newC,endD,endR,yrg,g11,g1,g2,g3,g4,h1,w2]
   have h1' := of_decide_eq_false h1
   refine ⟨26 - (n + 1), by omega, n + 1, rfl, by omega, ?_, ?_, ?_, ?_, ?_, rfl, fun k hk' => ?_⟩
   ·simp (disch:=first|(simp only [yk,seval];done)|omega|(simp only [yz]<;>omega)|fail) only [yg,seval]
   ·simp (disch:=first|(simp only [yk,seval];done)|omega|(simp only [yz]<;>omega)|fail) only [yg,seval,g1]
   ·simp (disch:=first|(simp only [yk,seval];done)|omega|(simp only [yz]<;>omega)|fail) only [yg,seval,g2]
   ·simp (disch:=first|(simp only [yk,seval];done)|omega|(simp only [yz]<;>omega)|fail) only [yg,seval,g3]
   ·simp (disch:=first|(simp only [yk,seval];done)|omega|(simp only [yz]<;>omega)|fail) only [yg,seval,g4]
   ·by_cases e : k = n
    ·omega
    ·exact hk k (by omega)
  have h1' := of_decide_eq_true h1
  cases h2 : decide (z < (n : Int))
  ·simp (disch:=first|(simp only [yk,seval];done)|omega|(simp only [yz]<;>omega)|fail) only [↓yp,yq0,yq1,yq2,yq3,yq4,yl,ys0,ys1,seval,fitB,newC,endD,endR,yrg,g11,g1,g2,g3,g4,h1,h2,w2]
   have h2' := of_decide_eq_false h2
   refine ⟨26 - (n + 1), by omega, n + 1, rfl, by omega, ?_, ?_, ?_, ?_, ?_, rfl, fun k hk' => ?_⟩
   ·simp (disch:=first|(simp only [yk,seval];done)|omega|(simp only [yz]<;>omega)|fail) only [yg,seval]
   ·simp (disch:=first|(simp only [yk,seval];done)|omega|(simp only [yz]<;>omega)|fail) only [yg,seval,g1]
   ·simp (disch:=first|(simp only [yk,seval];done)|omega|(simp only [yz]<;>omega)|fail) only [yg,seval,g2]
   ·simp (disch:=first|(simp only [yk,seval];done)|omega|(simp only [yz]<;>omega)|fail) only [yg,seval,g3]
   ·simp (disch:=first|(simp only [yk,seval];done)|omega|(simp only [yz]<;>omega)|fail) only [yg,seval,g4]
   ·by_cases e : k = n
    ·omega
    ·exact hk k (by omega)
  ·have h2' := of_decide_eq_true h2
   have no : decide ((if hi < y then hi else y) ≤ z) = false := by simp; split <;> omega
   simp (disch:=first|(simp only [yk,seval];done)|omega|(simp only [yz]<;>omega)|fail) only [↓yp,yq0,yq1,yq2,yq3,yq4,yl,ys0,ys1,seval,fitB,newC,endD,endR,yrg,g11,g1,g2,g3,g4,h1,h2,no]
 ·have hT' := of_decide_eq_false hT
  have hy0 : 0 ≤ y := by unfold wi at hW; simp only [Bool.and_eq_true,decide_eq_true_eq] at hW; exact hW.1
  have yes : decide ((if hi < y then hi else y) ≤ z) = true := by
   have := hk (if hi < y then hi else y).toNat (by split <;> omega)
   simp only [decide_eq_true_eq]
   split at this <;> split <;> omega
  simp (disch:=first|(simp only [yk,seval];done)|omega|(simp only [yz]<;>omega)|fail) only [↓yp,yq0,yq1,yq2,yq3,yq4,yl,ys0,ys1,seval,fitB,newC,endD,endR,yrg,yes]
end
end Go.Am.K
namespace Go.Am.K
open Go.Proofs
variable {T : Tab} {P : Program} {N L : Nat} {H H' H'' : AHeap} {Q : Bool → Value → AHeap → Prop}
def aftF (f : Nat → Bool) (sz op fd : Int) : Nat → Bool := fun j => (f j && decide (fd ≤ (j : Int))) && decide (op - fd ≤ sz - (j : Int))
set_option maxHeartbeats 2000000 in
theorem c86 {a : Option Addr} {cap : Nat} {f : Nat → Bool} {sz op fd : Int} (hs : Rw boE H a (fB f)) (h1 : 0 ≤ sz ∧ sz ≤ 1000) (h2 : 0 ≤ op ∧ op ≤ 1000) (h3 : 0 ≤ fd ∧ fd ≤ 1000) (hL : L ≤ H.size) {M : Nat} (hM : 200 ≤ M)
  (hq : ∀ b H', Fr H H' → b < H'.size → H.size ≤ b → H'.get b = .rw (boE.fl (fB (aftF f sz op fd))) 4 false [] → Q false (.slice (some ⟨b, 0, none⟩) 25 25) H') :
  resK (acall tabA (aexec tabA Try.prog M) 86 [.slice a 25 cap, .int .i64 sz, .int .i64 op, .int .i64 fd] H) L Q := by
 obtain ⟨N, rfl⟩ : ∃ N, M = N + 200 := ⟨M - 200, by omega⟩
 refine call_fls (R := fun v H' => ∃ b, v = .slice (some ⟨b, 0, none⟩) 25 25 ∧ Fr H H' ∧ b < H'.size ∧ H.size ≤ b ∧ H'.get b = .rw (boE.fl (fB (aftF f sz op fd))) 4 false []) (k := 42) (rs := [.tmp 8]) rfl fn_86 rfl rfl rfl hL ?_ ?_ ?_
 rotate_left
 ·rintro v H' ⟨b, rfl, -⟩; rfl
 ·rintro v H' ⟨b, rfl, h1, h2, h3, h4⟩
  exact hq _ _ h1 h2 h3 h4
 obtain ⟨mb1, mb2⟩ := made_bo
 have h25 : ((25 : Nat) : Int) = 25 := rfl
 simp (disch:=first|(simp only [yk,seval];done)|omega|(simp only [yz]<;>omega)|fail) only [↓yp,yq0,yq1,yq2,yq3,yq4,yl,ys0,ys1,seval,fitB,newC,endD,endR,yrg,lenV_slice st_esS_138,h25]
 refine A_make_of (m := 25) st_mkS_138 (by simp (disch:=first|(simp only [yk,seval];done)|omega|(simp only [yz]<;>omega)|fail) only [↓yp,yq0,yq1,yq2,yq3,yq4,yl,ys0,ys1,seval,fitB,newC,endD,endR,yrg]) (by omega) (by omega) (by omega) mb2 (by first|omega|(simp only [yz]<;>omega)) ?_
 rw [show (25 : Int).toNat * 1 = 25 * 1 from rfl, show (25 : Int).toNat = 25 from rfl, mb1]
 simp (disch:=first|(simp only [yk,seval];done)|omega|(simp only [yz]<;>omega)|fail) only [↓yp,yq0,yq1,yq2,yq3,yq4,yl,ys0,ys1,seval,fitB,newC,endD,endR,yrg]
 refine W_while (n := 42) 100 (fun q e' H' => ∃ n : Nat, q = 25 - n ∧ n ≤ 25 ∧ gt 42 e' 10 = .int .i64 (n : Nat) ∧ gt 42 e' 9 = .slice (some ⟨H.size, 0, none⟩) 25 25 ∧ gt 42 e' 0 = .slice a 25 cap ∧ gt 42 e' 1 = .int .i64 sz ∧ gt 42 e' 2 = .int .i64 op ∧ gt 42 e' 3 = .int .i64 fd ∧ H.size < H'.size ∧ Fr H H' ∧ H'.get H.size = .rw (boE.fl (fB fun j => decide (j < n) && aftF f sz op fd j)) 4 false [])
  ?_ 25 25 ⟨0, by omega, by omega, ?_, ?_, ?_, ?_, ?_, ?_, by (first | omega | (simp only [yz] <;> omega)), by (repeat (first | exact Fr.refl _ | assumption | refine Fr.allocd ?_ _ | refine Fr.put ?_ (by first | omega | (simp only [yz] <;> omega)) _)), ?_⟩ (by omega) (by omega)
 rotate_left
 ·simp (disch:=first|(simp only [yk,seval];done)|omega|(simp only [yz]<;>omega)|fail) only [yg,seval] <;> rfl
 ·simp (disch:=first|(simp only [yk,seval];done)|omega|(simp only [yz]<;>omega)|fail) only [yg,seval]
 ·simp (disch:=first|(simp only [yk,seval];done)|omega|(simp only [yz]<;>omega)|fail) only [yg,seval]
 ·simp (disch:=first|(simp only [yk,seval];done)|omega|(simp only [yz]<;>omega)|fail) only [yg,seval]
 ·simp (disch:=first|(simp only [yk,seval];done)|omega|(simp only [yz]<;>omega)|fail) only [yg,seval]
 ·simp (disch:=first|(simp only [yk,seval];done)|omega|(simp only [yz]<;>omega)|fail) only [yg,seval]
 ·simp (disch:=first|(simp only [yk,seval];done)|omega|(simp only [yz]<;>omega)|fail) only [yg,seval]
  congr 2
 rintro M1 q e H' ⟨n, rfl, hn, g10, g9, g0, g1, g2, g3, lt, fr, bB⟩
 simp (disch:=first|(simp only [yk,seval];done)|omega|(simp only [yz]<;>omega)|fail) only [↓yp,yq0,yq1,yq2,yq3,yq4,yl,ys0,ys1,seval,fitB,newC,endD,endR,yrg,g10,g0,lenV_slice st_esS_138,h25]
 refine ⟨fun hT => ?_, fun hT => ?_⟩
 ·have hlt : n < 25 := by have := of_decide_eq_true hT; omega
  obtain ⟨b, o, c, eb, hb, hc, hqq⟩ := (hs.fr fr).at_ (fB_at (f := f) hlt)
  have q := cell_of hqq
  rw [show n * boE.z = n * 1 from rfl, Nat.mul_one] at q
  subst eb
  have w1 : w64 (op - fd) = op - fd := w64_of (by omega)
  have w2 : w64 (sz - (n : Int)) = sz - n := w64_of (by omega)
  have w3 : w64 ((n : Int) + 1) = ((n + 1 : Nat) : Int) := by rw [w64_of (by omega)]; omega
  have hset : ∀ v, newC n [.bool v] (boE.fl (fB fun j => decide (j < n) && aftF f sz op fd j)) = boE.fl ((fB fun j => decide (j < n) && aftF f sz op fd j).set n v) := fun v => by
   have := newC_fl (E := boE) (l := fB fun j => decide (j < n) && aftF f sz op fd j) (k := n) (s := v) (by rw [fB_len]; omega)
   rwa [show n * boE.z = n from Nat.mul_one _] at this
  have hnx : (fB fun j => decide (j < n) && aftF f sz op fd j).set n (aftF f sz op fd n) = fB fun j => decide (j < n + 1) && aftF f sz op fd j := by
   rw [fB_set]
   refine fB_congr fun j hj => ?_
   by_cases e : j = n
   ·subst e
    rw [if_pos rfl, show decide (j < j + 1) = true by simp, Bool.true_and]
   ·rw [if_neg e, show decide (j < n + 1) = decide (j < n) by rw [decide_eq_decide]; omega]
  have hfit : decide (n + 1 ≤ (boE.fl (fB fun j => decide (j < n) && aftF f sz op fd j)).length) = true := by
   rw [fl_length, fB_len]
   simp only [decide_eq_true_eq]
   show n + 1 ≤ 25 * 1
   omega
  have hfin : ∀ v, v = aftF f sz op fd n → boE.fl ((fB fun j => decide (j < n) && aftF f sz op fd j).set n v) = boE.fl (fB fun j => decide (j < n + 1) && aftF f sz op fd j) := fun v e => by rw [e, hnx]
  have ea : aftF f sz op fd n = ((f n && decide (fd ≤ (n : Int))) && decide (op - fd ≤ sz - (n : Int))) := rfl
  cases hA : f n
  ·rw [hA] at q ea
   simp (disch:=first|(simp only [yk,seval];done)|omega|(simp only [yz]<;>omega)|fail) only [↓yp,yq0,yq1,yq2,yq3,yq4,yl,ys0,ys1,seval,fitB,newC,endD,endR,yrg,g10,g9,g0,g1,g2,g3,A_indexSlice st_esS_138,hc,q,bB,hfit,w3]
   refine ⟨25 - (n + 1), by omega, n + 1, rfl, by omega, ?_, ?_, ?_, ?_, ?_, ?_, by (first | omega | (simp only [yz] <;> omega)), by (repeat (first | exact Fr.refl _ | assumption | refine Fr.allocd ?_ _ | refine Fr.put ?_ (by first | omega | (simp only [yz] <;> omega)) _)), ?_⟩
   ·simp (disch:=first|(simp only [yk,seval];done)|omega|(simp only [yz]<;>omega)|fail) only [yg,seval]
   ·simp (disch:=first|(simp only [yk,seval];done)|omega|(simp only [yz]<;>omega)|fail) only [yg,seval,g9]
   ·simp (disch:=first|(simp only [yk,seval];done)|omega|(simp only [yz]<;>omega)|fail) only [yg,seval,g0]
   ·simp (disch:=first|(simp only [yk,seval];done)|omega|(simp only [yz]<;>omega)|fail) only [yg,seval,g1]
   ·simp (disch:=first|(simp only [yk,seval];done)|omega|(simp only [yz]<;>omega)|fail) only [yg,seval,g2]
   ·simp (disch:=first|(simp only [yk,seval];done)|omega|(simp only [yz]<;>omega)|fail) only [yg,seval,g3]
   ·rw [get_put_same (by omega), ← hfin _ ea.symm, ← hset]; rfl
  ·rw [hA] at q ea
   cases hB : decide (fd ≤ (n : Int))
   ·rw [hB] at ea
    simp (disch:=first|(simp only [yk,seval];done)|omega|(simp only [yz]<;>omega)|fail) only [↓yp,yq0,yq1,yq2,yq3,yq4,yl,ys0,ys1,seval,fitB,newC,endD,endR,yrg,g10,g9,g0,g1,g2,g3,A_indexSlice st_esS_138,hc,q,bB,hB,hfit,w3]
    refine ⟨25 - (n + 1), by omega, n + 1, rfl, by omega, ?_, ?_, ?_, ?_, ?_, ?_, by (first | omega | (simp only [yz] <;> omega)), by (repeat (first | exact Fr.refl _ | assumption | refine Fr.allocd ?_ _ | refine Fr.put ?_ (by first | omega | (simp only [yz] <;> omega)) _)), ?_⟩
    ·simp (disch:=first|(simp only [yk,seval];done)|omega|(simp only [yz]<;>omega)|fail) only [yg,seval]
    ·simp (disch:=first|(simp only [yk,seval];done)|omega|(simp only [yz]<;>omega)|fail) only [yg,seval,g9]
    ·simp (disch:=first|(simp only [yk,seval];done)|omega|(simp only [yz]<;>omega)|fail) only [yg,seval,g0]
    ·simp (disch:=first|(simp only [yk,seval];done)|omega|(simp only [yz]<;>omega)|fail) only [yg,seval,g1]
    ·simp (disch:=first|(simp only [yk,seval];done)|omega|(simp only [yz]<;>omega)|fail) only [yg,seval,g2]
    ·simp (disch:=first|(simp only [yk,seval];done)|omega|(simp only [yz]<;>omega)|fail) only [yg,seval,g3]
    ·rw [get_put_same (by omega), ← hfin _ ea.symm, ← hset]; rfl
   ·rw [hB] at ea
    simp (disch:=first|(simp only [yk,seval];done)|omega|(simp only [yz]<;>omega)|fail) only [↓yp,yq0,yq1,yq2,yq3,yq4,yl,ys0,ys1,seval,fitB,newC,endD,endR,yrg,g10,g9,g0,g1,g2,g3,A_indexSlice st_esS_138,hc,q,bB,hB,hfit,w1,w2,w3]
    refine ⟨25 - (n + 1), by omega, n + 1, rfl, by omega, ?_, ?_, ?_, ?_, ?_, ?_, by (first | omega | (simp only [yz] <;> omega)), by (repeat (first | exact Fr.refl _ | assumption | refine Fr.allocd ?_ _ | refine Fr.put ?_ (by first | omega | (simp only [yz] <;> omega)) _)), ?_⟩
    ·simp (disch:=first|(simp only [yk,seval];done)|omega|(simp only [yz]<;>omega)|fail) only [yg,seval]
    ·simp (disch:=first|(simp only [yk,seval];done)|omega|(simp only [yz]<;>omega)|fail) only [yg,seval,g9]
    ·simp (disch:=first|(simp only [yk,seval];done)|omega|(simp only [yz]<;>omega)|fail) only [yg,seval,g0]
    ·simp (disch:=first|(simp only [yk,seval];done)|omega|(simp only [yz]<;>omega)|fail) only [yg,seval,g1]
    ·simp (disch:=first|(simp only [yk,seval];done)|omega|(simp only [yz]<;>omega)|fail) only [yg,seval,g2]
    ·simp (disch:=first|(simp only [yk,seval];done)|omega|(simp only [yz]<;>omega)|fail) only [yg,seval,g3]
    ·rw [get_put_same (by omega), ← hfin _ (show decide (op - fd ≤ sz - (n : Int)) = aftF f sz op fd n from ea.symm), ← hset]; rfl
 ·have hn25 : n = 25 := by have := of_decide_eq_false hT; omega
  subst hn25
  simp (disch:=first|(simp only [yk,seval];done)|omega|(simp only [yz]<;>omega)|fail) only [↓yp,yq0,yq1,yq2,yq3,yq4,yl,ys0,ys1,seval,fitB,newC,endD,endR,yrg,g9]
  refine ⟨H.size, rfl, fr, lt, Nat.le_refl _, ?_⟩
  rw [bB]
  have := fB_congr (f := fun j => decide (j < 25) && aftF f sz op fd j) (g := aftF f sz op fd) fun j hj => by rw [decide_eq_true hj, Bool.true_and]
  rw [this]
end Go.Am.K
namespace Go.Am.K
open Go.Proofs
variable {T : Tab} {P : Program} {N L : Nat} {H H' H'' : AHeap} {Q : Bool → Value → AHeap → Prop}
def byE (ps : List Pk) (gs : List Gd) (lots : Int) (l : List Int) (op fd : Int) : Int := bif decide (lotE ps gs lots l = 0) then bif wi op 0 (isum l) && wi fd 0 op then bif decide (lfHi ps l op fd < lfLo ps l fd) then 7 else 0 else 4 else lotE ps gs lots l
theorem byE_bad {ps : List Pk} {gs : List Gd} {lots : Int} {l : List Int} {op fd : Int} (h : lotE ps gs lots l ≠ 0) : byE ps gs lots l op fd = lotE ps gs lots l := by
 unfold byE
 rw [decide_eq_false h]; rfl
theorem byE_good {ps : List Pk} {gs : List Gd} {lots : Int} {l : List Int} {op fd : Int} (h : lotE ps gs lots l = 0) : byE ps gs lots l op fd = bif wi op 0 (isum l) && wi fd 0 op then bif decide (lfHi ps l op fd < lfLo ps l fd) then 7 else 0 else 4 := by
 unfold byE
 rw [decide_eq_true h]; rfl
theorem byE_ok {ps : List Pk} {gs : List Gd} {lots : Int} {l : List Int} {op fd : Int} (h : byE ps gs lots l op fd = 0) : lotE ps gs lots l = 0 ∧ (0 ≤ op ∧ op ≤ isum l) ∧ (0 ≤ fd ∧ fd ≤ op) ∧ decide (lfHi ps l op fd < lfLo ps l fd) = false := by
 by_cases he : lotE ps gs lots l = 0
 ·rw [byE_good he] at h
  cases h1 : wi op 0 (isum l) && wi fd 0 op
  ·rw [h1] at h; cases h
  rw [h1, cond_true] at h
  cases h2 : decide (lfHi ps l op fd < lfLo ps l fd)
  ·unfold wi at h1
   simp only [Bool.and_eq_true,decide_eq_true_eq] at h1
   exact ⟨he, h1.1, h1.2, rfl⟩
  ·rw [h2] at h; cases h
 ·rw [byE_bad he] at h
  exact absurd h he
section
variable {ps : List Pk} {gs : List Gd} {lots : Int} {l : List Int}
theorem lot_le (hst : StOk ps gs lots) (ho : LotOk ps l) : ∀ x ∈ l, 0 ≤ x ∧ x ≤ 6 := ho.in fun p hp => Pk.isB_ok (List.all_eq_true.1 hst.pb p hp)
theorem lot_24 (hst : StOk ps gs lots) (ho : LotOk ps l) : 0 ≤ isum l ∧ isum l ≤ 24 := by
 have := isum_le (l := l) (m := 6) (lot_le hst ho)
 have := ho.len
 have := hst.l4
 omega
theorem aft_iv {f : Nat → Bool} {lo hi sz op fd : Int} (h : ∀ j : Nat, j < 25 → (f j = true ↔ lo ≤ j ∧ (j : Int) ≤ hi)) : fB (aftF f sz op fd) = ivB 25 (if fd > lo then fd else lo) (if sz - (op - fd) < hi then sz - (op - fd) else hi) := by
 refine fB_iv fun j hj => ?_
 have := h j hj
 unfold aftF
 simp only [Bool.and_eq_true,decide_eq_true_eq,this]
 split <;> split <;> omega
end
section
variable {a a' al : Option Addr} {cap cap' cl : Nat} {ps : List Pk} {gs : List Gd} {lots op fd : Int} {l : List Int}
set_option maxHeartbeats 2000000 in
theorem c28e (hs : Rw pkE H a ps) (hgs : Rw gdE H a' gs) (hl : Rw intE H al l) (hll : l.length ≤ 8) (he : lotE ps gs lots l ≠ 0) :
  acall tabA (aexec tabA Try.prog (N + 3000)) 28 [.agg ⟨[.slice a ps.length cap, .slice a' gs.length cap', .int .i64 lots]⟩, .slice al l.length cl, .int .i64 op, .int .i64 fd] H = some (true, .tuple ⟨[.agg ⟨[.int .i64 0, .int .i64 0]⟩, .int .i64 (lotE ps gs lots l)]⟩, H, H.size) := by
 refine call_quiet (k := 43) (rs := [.cell 8 38, .tmp 9]) rfl fn_28 rfl rfl rfl ?_ rfl
 have fr : Fr H ((H.alloc (.rw [.slice a ps.length cap, .slice a' gs.length cap', .int .i64 lots] 32 false [])).alloc (.rw [.int .i64 0, .int .i64 0] 38 false [])) := by (repeat (first | exact Fr.refl _ | assumption | refine Fr.allocd ?_ _ | refine Fr.put ?_ (by first | omega | (simp only [yz] <;> omega)) _))
 have h80 := fun (N : Nat) => c80 (N := N) (cap := cap) (cap' := cap') (cl := cl) (lots := lots) (hs.fr fr) (hgs.fr fr) (hl.fr fr) hll
 have hA : decide (lotE ps gs lots l = 0) = false := by simp [he]
 simp (disch:=first|(simp only [yk,seval];done)|omega|(simp only [yz]<;>omega)|fail) only [↓yp,yq0,yq1,yq2,yq3,yq4,yl,ys0,ys1,seval,fitB,newC,endD,endR,yrg,h80,hA,A_build st_bdS_38]
set_option maxHeartbeats 4000000 in
theorem c28 (hs : Rw pkE H a ps) (hgs : Rw gdE H a' gs) (hl : Rw intE H al l) (he : lotE ps gs lots l = 0) :
  acall tabA (aexec tabA Try.prog (N + 3000)) 28 [.agg ⟨[.slice a ps.length cap, .slice a' gs.length cap', .int .i64 lots]⟩, .slice al l.length cl, .int .i64 op, .int .i64 fd] H = some (true, (bif decide (byE ps gs lots l op fd = 0) then .tuple ⟨[.agg ⟨[.int .i64 (lfLo ps l fd), .int .i64 (lfHi ps l op fd)]⟩, .int .i64 0]⟩ else .tuple ⟨[.agg ⟨[.int .i64 0, .int .i64 0]⟩, .int .i64 (byE ps gs lots l op fd)]⟩), H, H.size) := by
 obtain ⟨hst, hck, ho⟩ := lotE_ok he
 have hlen := ho.len
 have hl4 := hst.l4
 have hlb : ∀ x ∈ l, 0 ≤ x ∧ x ≤ 1000000 := fun x hx => by have := lot_le hst ho x hx; omega
 have h24 := lot_24 hst ho
 have fr : Fr H ((H.alloc (.rw [.slice a ps.length cap, .slice a' gs.length cap', .int .i64 lots] 32 false [])).alloc (.rw [.int .i64 0, .int .i64 0] 38 false [])) := by (repeat (first | exact Fr.refl _ | assumption | refine Fr.allocd ?_ _ | refine Fr.put ?_ (by first | omega | (simp only [yz] <;> omega)) _))
 have h80 := fun (N : Nat) => c80 (N := N) (cap := cap) (cap' := cap') (cl := cl) (lots := lots) (hs.fr fr) (hgs.fr fr) (hl.fr fr) (by omega)
 have h81 := fun (N : Nat) (H2 : AHeap) (f : Fr H H2) => c81 (N := N) (cap := cl) (hl.fr f) (by omega) hlb
 have h67 := fun (N : Nat) (H : AHeap) (n lo hi : Int) => c67 (N := N) (H := H) (n := n) (lo := lo) (hi := hi)
 simp only [off_wi] at h67
 rw [he] at h80
 have h00 : decide ((0 : Int) = 0) = true := rfl
 rw [byE_good he]
 refine call_quiet (k := 43) (rs := [.cell 8 38, .tmp 9]) rfl fn_28 rfl rfl rfl ?_ (by cases wi op 0 (isum l) && wi fd 0 op <;> cases decide (lfHi ps l op fd < lfLo ps l fd) <;> rfl)
 have h81a := fun (N : Nat) => h81 N _ fr
 cases hW : wi op 0 (isum l)
 ·simp (disch:=first|(simp only [yk,seval];done)|omega|(simp only [yz]<;>omega)|fail) only [↓yp,yq0,yq1,yq2,yq3,yq4,yl,ys0,ys1,seval,fitB,newC,endD,endR,yrg,h80,h81a,h67,hW,h00,A_build st_bdS_38,Bool.false_and,cond_false]
 cases hZ : wi fd 0 op
 ·simp (disch:=first|(simp only [yk,seval];done)|omega|(simp only [yz]<;>omega)|fail) only [↓yp,yq0,yq1,yq2,yq3,yq4,yl,ys0,ys1,seval,fitB,newC,endD,endR,yrg,h80,h81a,h67,hW,hZ,h00,A_build st_bdS_38,Bool.and_false,cond_false]
 have hW' := hW
 have hZ' := hZ
 unfold wi at hW' hZ'
 simp only [Bool.and_eq_true,decide_eq_true_eq] at hW' hZ'
 simp (disch:=first|(simp only [yk,seval];done)|omega|(simp only [yz]<;>omega)|fail) only [↓yp,yq0,yq1,yq2,yq3,yq4,yl,ys0,ys1,seval,fitB,newC,endD,endR,yrg,h80,h81a,h67,hW,hZ,h00,A_build st_bdS_38]
 refine c87 (gs := gs) (hs.fr fr) (hl.fr fr) hst ho (by first|omega|(simp only [yz]<;>omega)) (by omega) ?_
 intro b H1 fr1 hb hb2 bB
 have f1 := fr1.size
 have s1 := fr1.same
 simp only [size_alloc] at f1 s1 hb2
 have fr01 : Fr H H1 := fr.trans fr1
 have h81b := fun (N : Nat) => h81 N _ fr01
 simp (disch:=first|(simp only [yk,seval];done)|omega|(simp only [yz]<;>omega)|fail) only [↓yp,yq0,yq1,yq2,yq3,yq4,yl,ys0,ys1,seval,fitB,newC,endD,endR,yrg,h81b]
 have hr : Rw boE H1 (some ⟨b, 0, none⟩) (fB (trF ps l (-1) 0 ps.length)) := Rw.of (r := []) hb (by rw [bB]; rfl) (by rw [List.append_nil])
 refine c86 hr (by omega) (by omega) (by omega) (by first|omega|(simp only [yz]<;>omega)) (by omega) ?_
 intro b2 H2 fr2 hb2' hb22 bB2
 have f2 := fr2.size
 have s2 := fr2.same
 obtain ⟨⟨t0, t1⟩, t2⟩ := trF_all (pk := -1) (fo := 0) hst ho (by omega) ps.length (Nat.le_refl _)
 have e1 := fo_len (s := true) (ps := ps) (m := l) (by omega)
 have e2 := fo_len (s := false) (ps := ps) (m := l) (by omega)
 rw [List.take_of_length_le (by omega)] at t0
 rw [List.take_of_length_le (by omega), List.take_of_length_le (by omega)] at t1 t2
 have hF : fB (aftF (trF ps l (-1) 0 ps.length) (isum l) op fd) = ivB 25 (lfLo ps l fd) (lfHi ps l op fd) := aft_iv t2
 rw [hF] at bB2
 have hf24 := fo_24 hst ho
 have hlo : 0 ≤ lfLo ps l fd := by unfold lfLo; split <;> omega
 have hhi : lfHi ps l op fd < ((25 : Nat) : Int) := by unfold lfHi; split <;> omega
 have hE := ends_iv (n := 25) (lo := lfLo ps l fd) (hi := lfHi ps l op fd) hlo hhi
 have hr2 : Rw boE H2 (some ⟨b2, 0, none⟩) (ivB 25 (lfLo ps l fd) (lfHi ps l op fd)) := Rw.of (r := []) hb2' (by rw [bB2]; rfl) (by rw [List.append_nil])
 have h85 := fun (N : Nat) => c85 (N := N) (cap := 25) hr2 (by rw [ivB_len]; omega)
 simp only [ivB_len] at h85
 obtain ⟨X, hX⟩ : ∃ X, lfLo ps l fd = X := ⟨_, rfl⟩
 obtain ⟨Y, hY⟩ : ∃ Y, lfHi ps l op fd = Y := ⟨_, rfl⟩
 rw [hX, hY] at hE h85 ⊢
 rw [hX] at hlo
 cases hC : decide (Y < X)
 ·have hC' := of_decide_eq_false hC
  rw [if_pos (by omega)] at hE
  rw [hE] at h85
  have hy0 : decide (Y < 0) = false := by simp; omega
  simp (disch:=first|(simp only [yk,seval];done)|omega|(simp only [yz]<;>omega)|fail) only [↓yp,yq0,yq1,yq2,yq3,yq4,yl,ys0,ys1,seval,fitB,newC,endD,endR,yrg,h85,s2,s1,hy0]
 ·have hC' := of_decide_eq_true hC
  rw [if_neg (by omega)] at hE
  rw [hE] at h85
  have hy0 : decide ((-1 : Int) < 0) = true := rfl
  simp (disch:=first|(simp only [yk,seval];done)|omega|(simp only [yz]<;>omega)|fail) only [↓yp,yq0,yq1,yq2,yq3,yq4,yl,ys0,ys1,seval,fitB,newC,endD,endR,yrg,h85,s2,s1,hy0,A_build st_bdS_38]
end
end Go.Am.K
