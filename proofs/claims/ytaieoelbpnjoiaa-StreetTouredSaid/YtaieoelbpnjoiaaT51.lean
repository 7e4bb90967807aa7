import Derived.Test.YtaieoelbpnjoiaaT50
import Derived.Test.YtaieoelbpnjoiaaT48
set_option linter.unusedSimpArgs false
set_option linter.unusedVariables false
namespace Go.Am
open Go.Proofs
variable {T : Tab} {P : Program} {N L : Nat} {H : AHeap} {Q : Bool → Value → AHeap → Prop}
structure RowN (H : AHeap) (v : Value) (t : List Int) (base top : Nat) : Prop where
  nil : t = [] → v = .slice none 0 0
  cons : t ≠ [] → ∃ b al, v = .slice (some ⟨b, 0, none⟩) t.length (OPEN + 1) ∧ base ≤ b ∧ b < top ∧ (∀ j ∈ al, base ≤ j ∧ j < top) ∧ H.get b = .rw (tv t) 3 true al
section
variable {base top : Nat} {H' H₁ : AHeap} {v : Value} {t : List Int}
theorem RowN.fr (R : RowN H v t base top) (f : ∀ k, base ≤ k → k < top → H'.get k = H.get k) : RowN H' v t base top := ⟨R.nil, fun h => by
  obtain ⟨b, al, h1, h2, h3, h4, h5⟩ := R.cons h
  exact ⟨b, al, h1, h2, h3, h4, by rw [f _ h2 h3]; exact h5⟩⟩
theorem RowN.up {top' : Nat} (R : RowN H v t base top) (h : top ≤ top') : RowN H v t base top' := ⟨R.nil, fun h' => by
  obtain ⟨b, al, h1, h2, h3, h4, h5⟩ := R.cons h'
  exact ⟨b, al, h1, h2, by omega, fun j hj => by have := h4 j hj; omega, h5⟩⟩
theorem num_appendT {bn cp : Nat} {x : Int} (hr : RowN H₁ v t base top) (hL : L ≤ base) (hs : base ≤ H₁.size) (ht : top ≤ H₁.size) (hn : srcCells H₁ ⟨bn, 0, none⟩ (1 * 1) = some [.int .i64 x]) (hl : t.length ≤ 100000)
    (hq : ∀ b al H₂, base ≤ b → b < H₂.size → (∀ j ∈ al, base ≤ j ∧ j < H₂.size ∧ j ≠ b) → H₂.get b = .rw (tv (t ++ [x])) 3 true al → H₁.size ≤ H₂.size → (∀ k, k < H₁.size → k < base ∨ top ≤ k → H₂.get k = H₁.get k) → Q false (.slice (some ⟨b, 0, none⟩) (t.length + 1) (OPEN + 1)) H₂) :
    apK tabA H₁ 52 v (.slice (some ⟨bn, 0, none⟩) 1 cp) L Q := by
  by_cases hne : t = []
  · subst hne
    rw [hr.nil rfl, apK_nil st_apS_52 hn (by omega) (by omega) (by omega) rfl, zba _ (by omega)]
    exact hq _ [] _ hs (by rw [zde]; omega) (fun j hj => by simp at hj) (zda rfl) (by rw [zde]; omega) (fun k hk _ => zdb (by omega))
  · obtain ⟨b₀, al, rfl, r2, r3, r4, r5⟩ := hr.cons hne
    rw [apK_more st_apS_52 hn (by omega) (by omega) (by omega) rfl r5 (by rw [tv_len]; omega) rfl, zba _ (le_minAl (by omega) (fun j hj => by have := r4 j hj; omega))]
    refine hq _ [b₀] _ (by omega) (by simp only [zde,zdf,zdg]; omega) (fun j hj => by simp only [List.mem_singleton] at hj; subst hj; simp only [zde,zdf,zdg]; omega) ?_ (by simp only [zde,zdf,zdg]; omega) (fun k hk hk2 => ?_)
    · rw [zda (by simp only [zdf,zdg])]
      unfold tv
      rw [List.map_append]; rfl
    · rw [zdb (by simp only [zdf,zdg]; omega), zdd (by omega), get_kill (fun hm => by have := r4 k hm; omega)]
end
def idx (n : Nat) : List Int := (List.range n).map fun i => ((i : Nat) : Int)
theorem idx_succ {n : Nat} : idx (n + 1) = idx n ++ [(n : Int)] := by unfold idx; rw [List.range_succ, List.map_append]; rfl
theorem swap_perm {t : List Int} {i k : Nat} (hi : i < t.length) (hk : k < t.length) : ((t.set i t[k]).set k t[i]).Perm t := List.set_set_perm hi hk
section
variable {k capb n : Nat} {ab : Option Addr} {bs : List Int}
structure ShI (H : AHeap) (k : Nat) (ab : Option Addr) (bs : List Int) (capb i : Nat) (t : List Int) (v : Value) (H' : AHeap) : Prop where
  chu : Chu H' k ab bs capb
  fx : FrX k H H'
  pm : t.Perm (idx i)
  row : RowN H' v t H.size H'.size
set_option maxHeartbeats 4000000 in
theorem c67 (h : Chu H k ab bs capb) (hL : L ≤ k) (hn : n ≤ 100) {M : Nat} (hM : 1000 ≤ M)
    (hq : ∀ f v t H', t.Perm (idx n) → RowN H' v t H.size H'.size → Chu H' k ab bs capb → FrX k H H' → Q f v H') :
    resK (acall tabA (aexec tabA Try.prog M) 67 [.pointer (some ⟨k, 0, none⟩), .int .i64 (n : Nat)] H) L Q := by
  obtain ⟨N, rfl⟩ : ∃ N, M = N + 1000 := ⟨M - 1000, by omega⟩
  have hlt := h.lt
  refine call_keep tabA_fr (k := 39) (rs := [.tmp 4]) (R := fun v H' => ∃ t, t.Perm (idx n) ∧ RowN H' v t H.size H'.size ∧ Chu H' k ab bs capb ∧ FrX k H H') rfl fn_67 rfl rfl rfl (by omega) ?_ ?_ ?_
  rotate_left
  · rintro v H' ⟨t, h1, h2, h3, h4⟩
    exact hq _ _ _ _ h1 h2 h3 h4
  · rintro v H' ⟨t, h1, h2, h3, h4⟩ hg _
    refine hq _ _ t _ h1 ⟨h2.nil, fun hne => ?_⟩ h (FrX.refl _ _)
    obtain ⟨b, al, rfl, -⟩ := h2.cons hne
    cases hg
  have hmx : (if (0 : Int) > (n : Int) then 0 else (n : Int)) = (n : Int) := if_neg (by omega)
  simp (disch := (first | (simp only [yk,seval]; done) | omega | (simp only [yz] <;> omega) | fail)) only [↓yp,yq0,yq1,yq2,yq3,yq4,yl,ys0,ys1,seval,zed,zee,zfr,zhw,ysu,yrg,ysv,ysw,ysx,ysz,ysa,A_max,mm_max,hmx]
  refine W_while (n := 39) 700 (fun q e H' => ∃ (i : Nat) (t : List Int) (v : Value), q = n - i ∧ i ≤ n ∧ gt 39 e 11 = .int .i64 (i : Nat) ∧ gt 39 e 10 = .int .i64 (n : Nat) ∧ gt 39 e 0 = .pointer (some ⟨k, 0, none⟩) ∧ gt 39 e 5 = v ∧ ShI H k ab bs capb i t v H')
    ?_ 100 n ⟨0, [], .slice none 0 0, by omega, by omega, by simp (disch := (first | (simp only [yk,seval]; done) | omega | (simp only [yz] <;> omega) | fail)) only [yg,seval] <;> rfl, by simp (disch := (first | (simp only [yk,seval]; done) | omega | (simp only [yz] <;> omega) | fail)) only [yg,seval], by simp (disch := (first | (simp only [yk,seval]; done) | omega | (simp only [yz] <;> omega) | fail)) only [yg,seval], by simp (disch := (first | (simp only [yk,seval]; done) | omega | (simp only [yz] <;> omega) | fail)) only [yg,seval], ⟨h, FrX.refl _ _, by unfold idx; simp, ⟨fun _ => rfl, fun h => absurd rfl h⟩⟩⟩ (by omega) (by omega)
  rintro M q e H' ⟨i, t, v, rfl, hi, g11, g10, g0, g5, I⟩
  have szI := I.fx.size
  simp (disch := (first | (simp only [yk,seval]; done) | omega | (simp only [yz] <;> omega) | fail)) only [↓yp,yq0,yq1,yq2,yq3,yq4,yl,ys0,ys1,seval,zed,zee,zfr,zhw,ysu,yrg,ysv,ysw,ysx,ysz,ysa,g11,g10]
  refine ⟨fun hA => ?_, fun hA => ?_⟩
  rotate_left
  · have hi' : i = n := by have := of_decide_eq_false hA; omega
    subst hi'
    simp (disch := (first | (simp only [yk,seval]; done) | omega | (simp only [yz] <;> omega) | fail)) only [↓yp,yq0,yq1,yq2,yq3,yq4,yl,ys0,ys1,seval,zed,zee,zfr,zhw,ysu,yrg,ysv,ysw,ysx,ysz,ysa,g5]
    exact ⟨t, I.pm, I.row, I.chu, I.fx⟩
  have hi' : i < n := by have := of_decide_eq_true hA; omega
  have hlen : t.length = i := by rw [I.pm.length_eq]; unfold idx; simp
  have hw2 : w64 ((i : Int) + 1) = ((i + 1 : Nat) : Int) := by rw [w64_of (by omega)]; omega
  simp (disch := (first | (simp only [yk,seval]; done) | omega | (simp only [yz] <;> omega) | fail)) only [↓yp,yq0,yq1,yq2,yq3,yq4,yl,ys0,ys1,seval,zed,zee,zfr,zhw,ysu,yrg,ysv,ysw,ysx,ysz,ysa,g11,g5,A_buildSlice st_brS_52_1]
  have f1 : Fr H' (H'.alloc (.rw [.int .i64 (i : Nat)] 3 false [])) := by (repeat (first | exact Fr.refl _ | assumption | refine Fr.allocd ?_ _ | refine Fr.put ?_ (by first | omega | (simp only [yz] <;> omega)) _))
  refine num_appendT (x := (i : Int)) (top := H'.size) (I.row.fr fun j _ hj => f1.same j hj) (by omega) (by (first | omega | (simp only [yz] <;> omega))) (by (first | omega | (simp only [yz] <;> omega))) (by unfold srcCells; simp (disch := (first | (simp only [yk,seval]; done) | omega | (simp only [yz] <;> omega) | fail)) only [yg,seval,zda] <;> rfl) (by omega) ?_
  intro b al H9 hb0 hb1 hal hb9 sz9 old9
  simp only [zde] at sz9 old9
  have f9 : ∀ j, j < H.size → H9.get j = H'.get j := fun j hj => by
    rw [old9 j (by omega) (by omega)]
    exact f1.same j (by omega)
  have hc9 : Chu H9 k ab bs capb := h.low I.chu I.fx f9 (by omega)
  have fx9 : FrX k H H9 := ⟨by omega, fun j h1 h2 => by rw [f9 j h1]; exact I.fx.same j h1 h2⟩
  simp (disch := (first | (simp only [yk,seval]; done) | omega | (simp only [yz] <;> omega) | fail)) only [↓yp,yq0,yq1,yq2,yq3,yq4,yl,ys0,ys1,seval,zed,zee,zfr,zhw,ysu,yrg,ysv,ysw,ysx,ysz,ysa,g11,g0,hw2]
  refine c51 hc9 (by omega) (by omega) (by omega) ?_
  rintro f n1 H10 - ⟨p1, p2⟩ hc10 hx10 hs10
  obtain ⟨kn, rfl⟩ : ∃ kn : Nat, n1 = kn := ⟨n1.toNat, by omega⟩
  have hkn : kn < i + 1 := by omega
  have fx10 := fx9.trans hx10
  have b10 : H10.get b = .rw (tv (t ++ [(i : Int)])) 3 true al := by rw [hx10.same b hb1 (by omega)]; exact hb9
  obtain ⟨t', ht'⟩ : ∃ t', t' = t ++ [(i : Int)] := ⟨_, rfl⟩
  rw [← ht'] at b10
  have hl' : t'.length = i + 1 := by rw [ht']; simp [hlen]
  have hti : t'[i]'(by omega) = (i : Int) := by subst ht'; simp [← hlen]
  have pm' : t'.Perm (idx (i + 1)) := by rw [ht', idx_succ]; exact I.pm.append_right _
  obtain ⟨y, hy⟩ : ∃ y, t'[kn]'(by omega) = y := ⟨_, rfl⟩
  have e1 : (tv t')[i]? = some (.int .i64 (i : Nat)) := by unfold tv; rw [List.getElem?_map, List.getElem?_eq_getElem (by omega), hti]; rfl
  have e2 : (tv t')[kn]? = some (.int .i64 y) := by unfold tv; rw [List.getElem?_map, List.getElem?_eq_getElem (by omega), hy]; rfl
  have hfl : (tv t').length = i + 1 := by rw [tv_len, hl']
  have hfl2 : (tv (t'.set i y)).length = i + 1 := by rw [tv_len, List.length_set, hl']
  have hfit1 : decide (i + 1 ≤ i + 1) = true := by simp
  have hfit2 : decide (kn + 1 ≤ i + 1) = true := by simp; omega
  have hfit3 : decide (kn ≤ i) = true := decide_eq_true (by omega)
  have hN1 : zee i [.int .i64 y] (tv t') = tv (t'.set i y) := newC_tv (by omega)
  have hN2 : zee kn [.int .i64 (i : Nat)] (tv (t'.set i y)) = tv ((t'.set i y).set kn (i : Int)) := newC_tv (by rw [List.length_set]; omega)
  have hN1' : List.take i (tv t') ++ [Value.int .i64 y] ++ List.drop (i + 1) (tv t') = tv (t'.set i y) := hN1
  have hN2' : List.take kn (tv (t'.set i y)) ++ [Value.int .i64 (i : Nat)] ++ List.drop (kn + [Value.int .i64 (i : Nat)].length) (tv (t'.set i y)) = tv ((t'.set i y).set kn (i : Int)) := hN2
  have hmn : minAl b [] = b := rfl
  have hml : H.size ≤ minAl b al := le_minAl (by omega) (fun j hj => (hal j hj).1)
  simp (disch := (first | (simp only [yk,seval]; done) | omega | (simp only [yz] <;> omega) | fail)) only [↓yp,yq0,yq1,yq2,yq3,yq4,yl,ys0,ys1,seval,zed,zee,zfr,zhw,ysu,yrg,ysv,ysw,ysx,ysz,ysa,g11,A_indexSlice zir,b10,e1,e2,wrB_al,hfl,hfl2,hfit1,hfit2,hw2,Nat.mul_one,Nat.zero_add,hN1',hN2',hmn,hfit3]
  have hYe : List.take kn (tv (t'.set i y)) ++ [Value.int .i64 (i : Nat)] ++ List.drop (kn + 1) (tv (t'.set i y)) = tv ((t'.set i y).set kn (i : Int)) := hN2
  rw [hYe]
  have hsw := swap_perm (t := t') (i := i) (k := kn) (by omega) (by omega)
  rw [hti, hy] at hsw
  have hbs : b < H10.size := by omega
  have fF : ∀ (X Y : ABlk) (j : Nat), j < H.size → ((((H10.kill al).put b X).kill []).put b Y).get j = H10.get j := fun X Y j hj => by
    rw [zdd (by omega), get_kill (by simp), zdd (by omega), get_kill (fun hm => by have := (hal j hm).1; omega)]
  have fS : ∀ X Y : ABlk, ((((H10.kill al).put b X).kill []).put b Y).size = H10.size := fun X Y => by simp only [zdf,zdg]
  have hll : ((t'.set i y).set kn (i : Int)).length = i + 1 := by rw [List.length_set, List.length_set, hl']
  refine ⟨n - (i + 1), by omega, i + 1, (t'.set i y).set kn (i : Int), .slice (some ⟨b, 0, none⟩) (i + 1) (OPEN + 1), rfl, by omega, ?_, ?_, ?_, ?_, ⟨h.low hc10 fx10 (fun j hj => fF _ _ j hj) (by rw [fS]; omega), ⟨by rw [fS]; have := fx10.size; omega, fun j h1 h2 => by rw [fF _ _ j h1]; exact fx10.same j h1 h2⟩, hsw.trans pm', ⟨fun h0 => by rw [h0] at hll; simp at hll, fun _ => ⟨b, [], by rw [hll], hb0, by rw [fS]; omega, fun j hj => by simp at hj, zdc (by simp only [zdf,zdg]; omega)⟩⟩⟩⟩
  · simp (disch := (first | (simp only [yk,seval]; done) | omega | (simp only [yz] <;> omega) | fail)) only [yg,seval]
  · simp (disch := (first | (simp only [yk,seval]; done) | omega | (simp only [yz] <;> omega) | fail)) only [yg,seval,g10]
  · simp (disch := (first | (simp only [yk,seval]; done) | omega | (simp only [yz] <;> omega) | fail)) only [yg,seval,g0]
  · simp (disch := (first | (simp only [yk,seval]; done) | omega | (simp only [yz] <;> omega) | fail)) only [yg,seval,hlen]
end
end Go.Am
namespace Go.Am
open Go.Proofs
variable {T : Tab} {P : Program} {N L : Nat} {H : AHeap} {Q : Bool → Value → AHeap → Prop}
section
variable {a ab : Option Addr} {cap capb k : Nat} {bs : List Int} {l : List Str} {C w ld fr at₀ : Int}
structure DrW (H : AHeap) (k : Nat) (ab : Option Addr) (bs : List Int) (capb : Nat) (C w ld fr at₀ : Int) (l : List Str) (a : Option Addr) (cap : Nat) (x m : Int) (ls : List (Int × Bool)) (v : Value) (H' : AHeap) : Prop where
  chu : Chu H' k ab bs capb
  fx : FrX k H H'
  b7 : H'.get H.size = .rw [.int .i64 C, .slice a l.length cap] 24 false []
  b8 : H'.get (H.size + 1) = .rw [.int .i64 w, .int .i64 ld] 26 false []
  sz : H.size + 2 ≤ H'.size
  can : Wlk l w ld fr at₀ ls x m
  row : RowT H' v ls (H.size + 2) H'.size
set_option maxHeartbeats 4000000 in
set_option maxRecDepth 10000 in
theorem c54w (h : Chu H k ab bs capb) (hs : Sl H a l) (hL : L ≤ k) (hC : 1 ≤ C ∧ C ≤ 8) (hl : l.length ≤ 16) (ho : ∀ s ∈ l, OkS C s) (hw : 1 ≤ w ∧ w ≤ 9) (hd : 0 ≤ ld ∧ ld ≤ 9) (hm : 0 ≤ at₀ ∧ at₀ ≤ 240) {M : Nat} (hM : 1500 ≤ M)
    (hq : ∀ f v ls x m H', Wlk l w ld fr at₀ ls x m → RowT H' v ls (H.size + 2) H'.size → ls.length ≤ 28 → Chu H' k ab bs capb → FrX k H H' → Q f (.tuple ⟨[v, .int .i64 x, .int .i64 m]⟩) H') :
    resK (acall tabA (aexec tabA Try.prog M) 54 [.pointer (some ⟨k, 0, none⟩), .agg ⟨[.int .i64 C, .slice a l.length cap]⟩, .agg ⟨[.int .i64 w, .int .i64 ld]⟩, .int .i64 fr, .int .i64 at₀, .int .i64 14] H) L Q := by
  obtain ⟨N, rfl⟩ : ∃ N, M = N + 1500 := ⟨M - 1500, by omega⟩
  have hlt := h.lt
  have g : Good C l ld := good_of (chk_of hC hl ho) (off_iff.2 hd)
  refine call_keep tabA_fr (k := 92) (rs := [.tmp 12, .tmp 13, .tmp 14]) (R := fun v H' => ∃ u ls x m, v = .tuple ⟨[u, .int .i64 x, .int .i64 m]⟩ ∧ Wlk l w ld fr at₀ ls x m ∧ RowT H' u ls (H.size + 2) H'.size ∧ ls.length ≤ 28 ∧ Chu H' k ab bs capb ∧ FrX k H H') rfl fn_54 rfl rfl rfl (by omega) ?_ ?_ ?_
  rotate_left
  · rintro v H' ⟨u, ls, x, m, rfl, h1, h2, h3, h4, h5⟩
    exact hq _ _ _ _ _ _ h1 h2 h3 h4 h5
  · rintro v H' ⟨u, ls, x, m, rfl, h1, h2, h3, h4, h5⟩ hg _
    refine hq _ _ _ _ _ _ h1 ⟨h2.nil, fun hne => ?_⟩ h3 h (FrX.refl _ _)
    obtain ⟨b, al, rfl, -⟩ := h2.cons hne
    cases hg
  simp (disch := (first | (simp only [yk,seval]; done) | omega | (simp only [yz] <;> omega) | fail)) only [↓yp,yq0,yq1,yq2,yq3,yq4,yl,ys0,ys1,seval,zed,zee,zfr,zhw,ysu,yrg,ysv,ysw,ysx,ysz,ysa,show w64 (2 * 14) = 28 from rfl]
  refine W_while (n := 92) 1200 (fun q e H' => ∃ (i : Nat) (x m : Int) (ls : List (Int × Bool)) (v : Value), q = 28 - i ∧ i ≤ 28 ∧ gt 92 e 22 = .int .i64 (i : Nat) ∧ gt 92 e 21 = .int .i64 28 ∧ gt 92 e 0 = .pointer (some ⟨k, 0, none⟩) ∧ gt 92 e 3 = .int .i64 x ∧ gt 92 e 4 = .int .i64 m ∧ gt 92 e 5 = .int .i64 14 ∧ gt 92 e 7 = .pointer (some ⟨H.size, 0, none⟩) ∧ gt 92 e 8 = .pointer (some ⟨H.size + 1, 0, none⟩) ∧ gt 92 e 15 = v ∧ DrW H k ab bs capb C w ld fr at₀ l a cap x m ls v H' ∧ ls.length ≤ i)
    ?_ 28 28 ⟨0, fr, at₀, [], .slice none 0 0, by omega, by omega, by simp (disch := (first | (simp only [yk,seval]; done) | omega | (simp only [yz] <;> omega) | fail)) only [yg,seval] <;> rfl, by simp (disch := (first | (simp only [yk,seval]; done) | omega | (simp only [yz] <;> omega) | fail)) only [yg,seval,show w64 28 = 28 from rfl], by simp (disch := (first | (simp only [yk,seval]; done) | omega | (simp only [yz] <;> omega) | fail)) only [yg,seval], by simp (disch := (first | (simp only [yk,seval]; done) | omega | (simp only [yz] <;> omega) | fail)) only [yg,seval], by simp (disch := (first | (simp only [yk,seval]; done) | omega | (simp only [yz] <;> omega) | fail)) only [yg,seval], by simp (disch := (first | (simp only [yk,seval]; done) | omega | (simp only [yz] <;> omega) | fail)) only [yg,seval], by simp (disch := (first | (simp only [yk,seval]; done) | omega | (simp only [yz] <;> omega) | fail)) only [yg,seval], by simp (disch := (first | (simp only [yk,seval]; done) | omega | (simp only [yz] <;> omega) | fail)) only [yg,seval], by simp (disch := (first | (simp only [yk,seval]; done) | omega | (simp only [yz] <;> omega) | fail)) only [yg,seval], ⟨h.fr (by (repeat (first | exact Fr.refl _ | assumption | refine Fr.allocd ?_ _ | refine Fr.put ?_ (by first | omega | (simp only [yz] <;> omega)) _))), FrX.of (by (repeat (first | exact Fr.refl _ | assumption | refine Fr.allocd ?_ _ | refine Fr.put ?_ (by first | omega | (simp only [yz] <;> omega)) _))), by simp (disch := (first | (simp only [yk,seval]; done) | omega | (simp only [yz] <;> omega) | fail)) only [yg,seval], by simp (disch := (first | (simp only [yk,seval]; done) | omega | (simp only [yz] <;> omega) | fail)) only [yg,seval], by (first | omega | (simp only [yz] <;> omega)), .nil, ⟨fun _ => rfl, fun h => absurd rfl h⟩⟩, by simp⟩ (by omega) (by omega)
  rintro M q e H' ⟨i, x, m, ls, v, rfl, hi, g22, g21, g0, g3, g4, g5, g7, g8, g15, I, hlen⟩
  have szI := I.sz
  have b7 := I.b7
  have b8 := I.b8
  simp (disch := (first | (simp only [yk,seval]; done) | omega | (simp only [yz] <;> omega) | fail)) only [↓yp,yq0,yq1,yq2,yq3,yq4,yl,ys0,ys1,seval,zed,zee,zfr,zhw,ysu,yrg,ysv,ysw,ysx,ysz,ysa,g22,g21]
  refine ⟨fun hA => ?_, fun hA => ?_⟩
  rotate_left
  · simp (disch := (first | (simp only [yk,seval]; done) | omega | (simp only [yz] <;> omega) | fail)) only [↓yp,yq0,yq1,yq2,yq3,yq4,yl,ys0,ys1,seval,zed,zee,zfr,zhw,ysu,yrg,ysv,ysw,ysx,ysz,ysa,g15,g3,g4]
    exact ⟨v, ls, x, m, rfl, I.can, I.row, by omega, I.chu, I.fx⟩
  have hw2 : w64 ((i : Int) + 1) = ((i + 1 : Nat) : Int) := by have := of_decide_eq_true hA; rw [w64_of (by omega)]; omega
  obtain ⟨av, cv, hcv⟩ : ∃ av cv, v = .slice av ls.length cv := let ⟨c, h⟩ := I.row.len; ⟨_, c, h⟩
  subst hcv
  have hmle := (I.can.canS (t := []) g hm.1 hm.2).le hm.2 g
  simp (disch := (first | (simp only [yk,seval]; done) | omega | (simp only [yz] <;> omega) | fail)) only [↓yp,yq0,yq1,yq2,yq3,yq4,yl,ys0,ys1,seval,zed,zee,zfr,zhw,ysu,yrg,ysv,ysw,ysx,ysz,ysa,g7,b7,lenV_slice zio,g15,lenV_slice st_esS_65,g5]
  refine ⟨fun hB => ?_, fun hB => ?_⟩
  · simp (disch := (first | (simp only [yk,seval]; done) | omega | (simp only [yz] <;> omega) | fail)) only [↓yp,yq0,yq1,yq2,yq3,yq4,yl,ys0,ys1,seval,zed,zee,zfr,zhw,ysu,yrg,ysv,ysw,ysx,ysz,ysa,hB,g15,g3,g4]
    exact ⟨_, ls, x, m, rfl, I.can, I.row, by omega, I.chu, I.fx⟩
  simp (disch := (first | (simp only [yk,seval]; done) | omega | (simp only [yz] <;> omega) | fail)) only [↓yp,yq0,yq1,yq2,yq3,yq4,yl,ys0,ys1,seval,zed,zee,zfr,zhw,ysu,yrg,ysv,ysw,ysx,ysz,ysa,hB,g7,b7,lenV_slice zio,g15,lenV_slice st_esS_65,g5]
  refine ⟨fun hD => ?_, fun hD => ?_⟩
  · simp (disch := (first | (simp only [yk,seval]; done) | omega | (simp only [yz] <;> omega) | fail)) only [↓yp,yq0,yq1,yq2,yq3,yq4,yl,ys0,ys1,seval,zed,zee,zfr,zhw,ysu,yrg,ysv,ysw,ysx,ysz,ysa,g15,g3,g4]
    exact ⟨_, ls, x, m, rfl, I.can, I.row, by omega, I.chu, I.fx⟩
  have hl0 : 0 < l.length := by have := of_decide_eq_false hB; omega
  simp (disch := (first | (simp only [yk,seval]; done) | omega | (simp only [yz] <;> omega) | fail)) only [↓yp,yq0,yq1,yq2,yq3,yq4,yl,ys0,ys1,seval,zed,zee,zfr,zhw,ysu,yrg,ysv,ysw,ysx,ysz,ysa,g0,g7,b7,lenV_slice zio]
  refine c51 I.chu (by omega) (by omega) (by omega) ?_
  rintro f1 n1 H1 - ⟨p1, p2⟩ hc1 hx1 hs1
  simp (disch := (first | (simp only [yk,seval]; done) | omega | (simp only [yz] <;> omega) | fail)) only [↓yp,yq0,yq1,yq2,yq3,yq4,yl,ys0,ys1,seval,zed,zee,zfr,zhw,ysu,yrg,ysv,ysw,ysx,ysz,ysa,g0]
  refine c96 hc1 (by omega) (by omega) (by omega) ?_
  rintro f2 bk H2 hc2 hx2 hs2
  have fx12 := hx1.trans hx2
  have fxA := I.fx.trans fx12
  have c7 := (fx12.same H.size (by omega) (by omega)).trans b7
  have c8 := (fx12.same (H.size + 1) (by omega) (by omega)).trans b8
  have sl2 : Sl H2 a l := hs.frx h fxA
  obtain ⟨ln, rfl⟩ : ∃ ln : Nat, n1 = ln := ⟨n1.toNat, by omega⟩
  have hln : ln < l.length := by omega
  obtain ⟨s, hsl⟩ : ∃ s, l[ln]? = some s := ⟨l[ln], by simp [hln]⟩
  obtain ⟨bb, o, c, rfl, hb1, hcc, hp⟩ := sl2.get (fun h => by rw [h] at hl0; simp at hl0)
  have hpi := hp ln s hsl
  simp only [Str.enc] at hpi
  simp (disch := (first | (simp only [yk,seval]; done) | omega | (simp only [yz] <;> omega) | fail)) only [↓yp,yq0,yq1,yq2,yq3,yq4,yl,ys0,ys1,seval,zed,zee,zfr,zhw,ysu,yrg,ysv,ysw,ysx,ysz,ysa,g7,c7,A_indexSlice zio,A_build st_bdS_28,hcc,hpi]
  have f3 : Fr H2 ((H2.alloc (.rw [.int .i64 0, .bool false] 28 false [])).put H2.size (.rw [.int .i64 (ln : Nat), .bool bk] 28 false [])) := by (repeat (first | exact Fr.refl _ | assumption | refine Fr.allocd ?_ _ | refine Fr.put ?_ (by first | omega | (simp only [yz] <;> omega)) _))
  have hms : asked C l w ld [] [(ln : Int)] [m] = 0 := asked_of (chk_of hC hl ho) (off_iff.2 hw) (off_iff.2 hd) (by simp) (by simp; omega) (by simp; omega)
  have hf := g.fit (List.mem_of_getElem? hsl)
  have hpv : passV C l w ld ln bk m = if pasL s bk w ld m = -1 then (0, 1) else (pasL s bk w ld m, 0) := by
    unfold passV pasL
    rw [if_neg (by simpa using hms)]
    simp only [Int.toNat_natCast,hsl]
    cases hmy : mayL s bk w ld
    · simp
    · simp
  have h25 := fun (N : Nat) (H'' : AHeap) (f : Fr H2 H'') => c25 (N := N) (C := C) (w := w) (ld := ld) (li := (ln : Int)) (m := m) (b := bk) (cap := cap) (sl2.fr f) (by omega)
  rw [hpv] at h25
  simp only [legV] at h25
  have hchu3 : ∀ H'' : AHeap, Fr H2 H'' → Chu H'' k ab bs capb := fun H'' f => hc2.fr f
  have rowA : ∀ H'' : AHeap, Fr H2 H'' → RowT H'' (.slice av ls.length cv) ls (H.size + 2) H'.size := fun H'' f => I.row.fr (Nat.le_refl _) fun q h1 h2 => by rw [f.same q (by omega), fx12.same q h2 (by omega)]
  have next : ∀ (e' : VT) (H'' : AHeap), Fr H2 H'' → Keep 92 [0, 3, 4, 5, 7, 8, 15, 21] e e' → gt 92 e' 22 = .int .i64 ((i + 1 : Nat) : Int) → ∃ q', q' < 28 - i ∧ ∃ (i : Nat) (x m : Int) (ls : List (Int × Bool)) (v : Value), q' = 28 - i ∧ i ≤ 28 ∧ gt 92 e' 22 = .int .i64 (i : Nat) ∧ gt 92 e' 21 = .int .i64 28 ∧ gt 92 e' 0 = .pointer (some ⟨k, 0, none⟩) ∧ gt 92 e' 3 = .int .i64 x ∧ gt 92 e' 4 = .int .i64 m ∧ gt 92 e' 5 = .int .i64 14 ∧ gt 92 e' 7 = .pointer (some ⟨H.size, 0, none⟩) ∧ gt 92 e' 8 = .pointer (some ⟨H.size + 1, 0, none⟩) ∧ gt 92 e' 15 = v ∧ DrW H k ab bs capb C w ld fr at₀ l (some ⟨bb, o, none⟩) cap x m ls v H'' ∧ ls.length ≤ i := by
    intro e' H'' f kp q22
    have sf := f.size
    have hA' := of_decide_eq_true hA
    exact ⟨28 - (i + 1), by omega, i + 1, x, m, ls, _, rfl, by omega, q22, (kp 21 (by simp)).trans g21, (kp 0 (by simp)).trans g0, (kp 3 (by simp)).trans g3, (kp 4 (by simp)).trans g4, (kp 5 (by simp)).trans g5, (kp 7 (by simp)).trans g7, (kp 8 (by simp)).trans g8, (kp 15 (by simp)).trans g15, ⟨hc2.fr f, fxA.trans (FrX.of f), (f.same _ (by omega)).trans c7, (f.same _ (by omega)).trans c8, by omega, I.can, (rowA _ f).up (by omega)⟩, by omega⟩
  have s12 := fx12.size
  cases bk
  · have hnr : nearL s false = s.fr := rfl
    have hfa : farL s false = s.to := rfl
    simp (disch := (first | (simp only [yk,seval]; done) | omega | (simp only [yz] <;> omega) | fail)) only [↓yp,yq0,yq1,yq2,yq3,yq4,yl,ys0,ys1,seval,zed,zee,zfr,zhw,ysu,yrg,ysv,ysw,ysx,ysz,ysa]
    simp (disch := (first | (simp only [yk,seval]; done) | omega | (simp only [yz] <;> omega) | fail)) only [↓yp,yq0,yq1,yq2,yq3,yq4,yl,ys0,ys1,seval,zed,zee,zfr,zhw,ysu,yrg,ysv,ysw,ysx,ysz,ysa,g4,g7,g8,c7,c8]
    rw [h25 _ _ (by (repeat (first | exact Fr.refl _ | assumption | refine Fr.allocd ?_ _ | refine Fr.put ?_ (by first | omega | (simp only [yz] <;> omega)) _)))]
    by_cases hpas : pasL s false w ld m = -1
    · rw [if_pos hpas]
      by_cases hx : s.fr = x
      · have hd1 : decide (s.fr = x) = true := decide_eq_true hx
        simp (disch := (first | (simp only [yk,seval]; done) | omega | (simp only [yz] <;> omega) | fail)) only [↓yp,yq0,yq1,yq2,yq3,yq4,yl,ys0,ys1,seval,zed,zee,zfr,zhw,ysu,yrg,ysv,ysw,ysx,ysz,ysa,g3,hd1]
        simp (disch := (first | (simp only [yk,seval]; done) | omega | (simp only [yz] <;> omega) | fail)) only [↓yp,yq0,yq1,yq2,yq3,yq4,yl,ys0,ys1,seval,zed,zee,zfr,zhw,ysu,yrg,ysv,ysw,ysx,ysz,ysa,g22,hw2]
        exact next _ _ (by (repeat (first | exact Fr.refl _ | assumption | refine Fr.allocd ?_ _ | refine Fr.put ?_ (by first | omega | (simp only [yz] <;> omega)) _))) (by (with_reducible (repeat (first | refine Keep.put ?_ (by decide) | refine Keep.none ?_ | assumption | exact Keep.refl _ _ _)))) (by simp (disch := (first | (simp only [yk,seval]; done) | omega | (simp only [yz] <;> omega) | fail)) only [yg,seval])
      · have hd1 : decide (s.fr = x) = false := decide_eq_false hx
        simp (disch := (first | (simp only [yk,seval]; done) | omega | (simp only [yz] <;> omega) | fail)) only [↓yp,yq0,yq1,yq2,yq3,yq4,yl,ys0,ys1,seval,zed,zee,zfr,zhw,ysu,yrg,ysv,ysw,ysx,ysz,ysa,g3,hd1]
        simp (disch := (first | (simp only [yk,seval]; done) | omega | (simp only [yz] <;> omega) | fail)) only [↓yp,yq0,yq1,yq2,yq3,yq4,yl,ys0,ys1,seval,zed,zee,zfr,zhw,ysu,yrg,ysv,ysw,ysx,ysz,ysa,g22,hw2]
        exact next _ _ (by (repeat (first | exact Fr.refl _ | assumption | refine Fr.allocd ?_ _ | refine Fr.put ?_ (by first | omega | (simp only [yz] <;> omega)) _))) (by (with_reducible (repeat (first | refine Keep.put ?_ (by decide) | refine Keep.none ?_ | assumption | exact Keep.refl _ _ _)))) (by simp (disch := (first | (simp only [yk,seval]; done) | omega | (simp only [yz] <;> omega) | fail)) only [yg,seval])
    · rw [if_neg hpas]
      have hpo := pas_ok hf (by omega) hpas
      have hmay : mayL s false w ld = true := by
        cases h' : mayL s false w ld with
        | true => rfl
        | false => unfold pasL at hpas; rw [h'] at hpas; exact absurd rfl hpas
      have hpe : pasL s false w ld m = arriveL s false ld m := by unfold pasL; rw [hmay]; rfl
      by_cases hx : s.fr = x
      rotate_left
      · have hd1 : decide (s.fr = x) = false := decide_eq_false hx
        simp (disch := (first | (simp only [yk,seval]; done) | omega | (simp only [yz] <;> omega) | fail)) only [↓yp,yq0,yq1,yq2,yq3,yq4,yl,ys0,ys1,seval,zed,zee,zfr,zhw,ysu,yrg,ysv,ysw,ysx,ysz,ysa,g3,hd1]
        simp (disch := (first | (simp only [yk,seval]; done) | omega | (simp only [yz] <;> omega) | fail)) only [↓yp,yq0,yq1,yq2,yq3,yq4,yl,ys0,ys1,seval,zed,zee,zfr,zhw,ysu,yrg,ysv,ysw,ysx,ysz,ysa,g22,hw2]
        exact next _ _ (by (repeat (first | exact Fr.refl _ | assumption | refine Fr.allocd ?_ _ | refine Fr.put ?_ (by first | omega | (simp only [yz] <;> omega)) _))) (by (with_reducible (repeat (first | refine Keep.put ?_ (by decide) | refine Keep.none ?_ | assumption | exact Keep.refl _ _ _)))) (by simp (disch := (first | (simp only [yk,seval]; done) | omega | (simp only [yz] <;> omega) | fail)) only [yg,seval])
      have hd1 : decide (s.fr = x) = true := decide_eq_true hx
      have hcan' : Wlk l w ld fr at₀ (ls ++ [((ln : Int), false)]) (s.to) (pasL s false w ld m) := by
        rw [hpe, ← hfa]
        exact I.can.snoc (hnr.trans hx) hsl hmay (by rw [← hpe]; exact hpas)
      generalize pasL s false w ld m = m' at hpas hpo hcan' hpe
      have hd2 : decide (m' ≤ m) = false := decide_eq_false (by omega)
      have hd3 : decide (240 < m') = false := decide_eq_false (by omega)
      simp (disch := (first | (simp only [yk,seval]; done) | omega | (simp only [yz] <;> omega) | fail)) only [↓yp,yq0,yq1,yq2,yq3,yq4,yl,ys0,ys1,seval,zed,zee,zfr,zhw,ysu,yrg,ysv,ysw,ysx,ysz,ysa,g3,g4,hd1,hd2,hd3]
      refine W_draw [2, 3] rfl (by kernel_rfl) (by kernel_rfl) (by (first | omega | (simp only [yz] <;> omega))) ?_
      simp (disch := (first | (simp only [yk,seval]; done) | omega | (simp only [yz] <;> omega) | fail)) only [↓yp,yq0,yq1,yq2,yq3,yq4,yl,ys0,ys1,seval,zed,zee,zfr,zhw,ysu,yrg,ysv,ysw,ysx,ysz,ysa,g15,A_buildSlice st_brS_65_1]
      refine leg_appendT (i := (ln : Int)) (b := false) (top := H'.size) (rowA _ (by (repeat (first | exact Fr.refl _ | assumption | refine Fr.allocd ?_ _ | refine Fr.put ?_ (by first | omega | (simp only [yz] <;> omega)) _)))) (by omega) (by (first | omega | (simp only [yz] <;> omega))) (by (first | omega | (simp only [yz] <;> omega))) (by unfold srcCells; simp (disch := (first | (simp only [yk,seval]; done) | omega | (simp only [yz] <;> omega) | fail)) only [yg,seval,zda] <;> rfl) (by omega) ?_
      intro v' H9 row9 sz9 old9
      simp only [zde,zdf] at sz9 old9
      have o16 := old9 H2.size (by omega) (by omega)
      have o17 := old9 (H2.size + 1) (by omega) (by omega)
      simp (disch := (first | (simp only [yk,seval]; done) | omega | (simp only [yz] <;> omega) | fail)) only [yg,seval] at o16 o17
      simp (disch := (first | (simp only [yk,seval]; done) | omega | (simp only [yz] <;> omega) | fail)) only [↓yp,yq0,yq1,yq2,yq3,yq4,yl,ys0,ys1,seval,zed,zee,zfr,zhw,ysu,yrg,ysv,ysw,ysx,ysz,ysa,g15,A_buildSlice st_brS_65_1,o16,o17]
      refine ⟨⟨row9.sameV6, row9.sameV6, row9.sameV6⟩, ?_⟩
      have f9 : ∀ j, j < H.size + 2 → H9.get j = H2.get j := fun j hj => by
        rw [old9 j (by omega) (by omega)]
        simp (disch := (first | (simp only [yk,seval]; done) | omega | (simp only [yz] <;> omega) | fail)) only [yg,seval]
      have hA' := of_decide_eq_true hA
      simp (disch := (first | (simp only [yk,seval]; done) | omega | (simp only [yz] <;> omega) | fail)) only [↓yp,yq0,yq1,yq2,yq3,yq4,yl,ys0,ys1,seval,zed,zee,zfr,zhw,ysu,yrg,ysv,ysw,ysx,ysz,ysa,g22,hw2]
      refine ⟨28 - (i + 1), by omega, i + 1, s.to, m', ls ++ [((ln : Int), false)], v', rfl, by omega, ?_, ?_, ?_, ?_, ?_, ?_, ?_, ?_, ?_, ⟨h.low hc2 fxA (fun j hj => f9 j (by omega)) (by omega), ⟨by have := fxA.size; omega, fun j h1 h2 => by rw [f9 j (by omega)]; exact fxA.same j h1 h2⟩, by rw [f9 _ (by omega)]; exact c7, by rw [f9 _ (by omega)]; exact c8, by omega, hcan', row9⟩, by rw [List.length_append]; simp; omega⟩
      · simp (disch := (first | (simp only [yk,seval]; done) | omega | (simp only [yz] <;> omega) | fail)) only [yg,seval]
      · simp (disch := (first | (simp only [yk,seval]; done) | omega | (simp only [yz] <;> omega) | fail)) only [yg,seval,g21]
      · simp (disch := (first | (simp only [yk,seval]; done) | omega | (simp only [yz] <;> omega) | fail)) only [yg,seval,g0]
      · simp (disch := (first | (simp only [yk,seval]; done) | omega | (simp only [yz] <;> omega) | fail)) only [yg,seval]
      · simp (disch := (first | (simp only [yk,seval]; done) | omega | (simp only [yz] <;> omega) | fail)) only [yg,seval]
      · simp (disch := (first | (simp only [yk,seval]; done) | omega | (simp only [yz] <;> omega) | fail)) only [yg,seval,g5]
      · simp (disch := (first | (simp only [yk,seval]; done) | omega | (simp only [yz] <;> omega) | fail)) only [yg,seval,g7]
      · simp (disch := (first | (simp only [yk,seval]; done) | omega | (simp only [yz] <;> omega) | fail)) only [yg,seval,g8]
      · simp (disch := (first | (simp only [yk,seval]; done) | omega | (simp only [yz] <;> omega) | fail)) only [yg,seval]
  · have hnr : nearL s true = s.to := rfl
    have hfa : farL s true = s.fr := rfl
    simp (disch := (first | (simp only [yk,seval]; done) | omega | (simp only [yz] <;> omega) | fail)) only [↓yp,yq0,yq1,yq2,yq3,yq4,yl,ys0,ys1,seval,zed,zee,zfr,zhw,ysu,yrg,ysv,ysw,ysx,ysz,ysa]
    simp (disch := (first | (simp only [yk,seval]; done) | omega | (simp only [yz] <;> omega) | fail)) only [↓yp,yq0,yq1,yq2,yq3,yq4,yl,ys0,ys1,seval,zed,zee,zfr,zhw,ysu,yrg,ysv,ysw,ysx,ysz,ysa,g4,g7,g8,c7,c8]
    rw [h25 _ _ (by (repeat (first | exact Fr.refl _ | assumption | refine Fr.allocd ?_ _ | refine Fr.put ?_ (by first | omega | (simp only [yz] <;> omega)) _)))]
    by_cases hpas : pasL s true w ld m = -1
    · rw [if_pos hpas]
      by_cases hx : s.to = x
      · have hd1 : decide (s.to = x) = true := decide_eq_true hx
        simp (disch := (first | (simp only [yk,seval]; done) | omega | (simp only [yz] <;> omega) | fail)) only [↓yp,yq0,yq1,yq2,yq3,yq4,yl,ys0,ys1,seval,zed,zee,zfr,zhw,ysu,yrg,ysv,ysw,ysx,ysz,ysa,g3,hd1]
        simp (disch := (first | (simp only [yk,seval]; done) | omega | (simp only [yz] <;> omega) | fail)) only [↓yp,yq0,yq1,yq2,yq3,yq4,yl,ys0,ys1,seval,zed,zee,zfr,zhw,ysu,yrg,ysv,ysw,ysx,ysz,ysa,g22,hw2]
        exact next _ _ (by (repeat (first | exact Fr.refl _ | assumption | refine Fr.allocd ?_ _ | refine Fr.put ?_ (by first | omega | (simp only [yz] <;> omega)) _))) (by (with_reducible (repeat (first | refine Keep.put ?_ (by decide) | refine Keep.none ?_ | assumption | exact Keep.refl _ _ _)))) (by simp (disch := (first | (simp only [yk,seval]; done) | omega | (simp only [yz] <;> omega) | fail)) only [yg,seval])
      · have hd1 : decide (s.to = x) = false := decide_eq_false hx
        simp (disch := (first | (simp only [yk,seval]; done) | omega | (simp only [yz] <;> omega) | fail)) only [↓yp,yq0,yq1,yq2,yq3,yq4,yl,ys0,ys1,seval,zed,zee,zfr,zhw,ysu,yrg,ysv,ysw,ysx,ysz,ysa,g3,hd1]
        simp (disch := (first | (simp only [yk,seval]; done) | omega | (simp only [yz] <;> omega) | fail)) only [↓yp,yq0,yq1,yq2,yq3,yq4,yl,ys0,ys1,seval,zed,zee,zfr,zhw,ysu,yrg,ysv,ysw,ysx,ysz,ysa,g22,hw2]
        exact next _ _ (by (repeat (first | exact Fr.refl _ | assumption | refine Fr.allocd ?_ _ | refine Fr.put ?_ (by first | omega | (simp only [yz] <;> omega)) _))) (by (with_reducible (repeat (first | refine Keep.put ?_ (by decide) | refine Keep.none ?_ | assumption | exact Keep.refl _ _ _)))) (by simp (disch := (first | (simp only [yk,seval]; done) | omega | (simp only [yz] <;> omega) | fail)) only [yg,seval])
    · rw [if_neg hpas]
      have hpo := pas_ok hf (by omega) hpas
      have hmay : mayL s true w ld = true := by
        cases h' : mayL s true w ld with
        | true => rfl
        | false => unfold pasL at hpas; rw [h'] at hpas; exact absurd rfl hpas
      have hpe : pasL s true w ld m = arriveL s true ld m := by unfold pasL; rw [hmay]; rfl
      by_cases hx : s.to = x
      rotate_left
      · have hd1 : decide (s.to = x) = false := decide_eq_false hx
        simp (disch := (first | (simp only [yk,seval]; done) | omega | (simp only [yz] <;> omega) | fail)) only [↓yp,yq0,yq1,yq2,yq3,yq4,yl,ys0,ys1,seval,zed,zee,zfr,zhw,ysu,yrg,ysv,ysw,ysx,ysz,ysa,g3,hd1]
        simp (disch := (first | (simp only [yk,seval]; done) | omega | (simp only [yz] <;> omega) | fail)) only [↓yp,yq0,yq1,yq2,yq3,yq4,yl,ys0,ys1,seval,zed,zee,zfr,zhw,ysu,yrg,ysv,ysw,ysx,ysz,ysa,g22,hw2]
        exact next _ _ (by (repeat (first | exact Fr.refl _ | assumption | refine Fr.allocd ?_ _ | refine Fr.put ?_ (by first | omega | (simp only [yz] <;> omega)) _))) (by (with_reducible (repeat (first | refine Keep.put ?_ (by decide) | refine Keep.none ?_ | assumption | exact Keep.refl _ _ _)))) (by simp (disch := (first | (simp only [yk,seval]; done) | omega | (simp only [yz] <;> omega) | fail)) only [yg,seval])
      have hd1 : decide (s.to = x) = true := decide_eq_true hx
      have hcan' : Wlk l w ld fr at₀ (ls ++ [((ln : Int), true)]) (s.fr) (pasL s true w ld m) := by
        rw [hpe, ← hfa]
        exact I.can.snoc (hnr.trans hx) hsl hmay (by rw [← hpe]; exact hpas)
      generalize pasL s true w ld m = m' at hpas hpo hcan' hpe
      have hd2 : decide (m' ≤ m) = false := decide_eq_false (by omega)
      have hd3 : decide (240 < m') = false := decide_eq_false (by omega)
      simp (disch := (first | (simp only [yk,seval]; done) | omega | (simp only [yz] <;> omega) | fail)) only [↓yp,yq0,yq1,yq2,yq3,yq4,yl,ys0,ys1,seval,zed,zee,zfr,zhw,ysu,yrg,ysv,ysw,ysx,ysz,ysa,g3,g4,hd1,hd2,hd3]
      refine W_draw [2, 3] rfl (by kernel_rfl) (by kernel_rfl) (by (first | omega | (simp only [yz] <;> omega))) ?_
      simp (disch := (first | (simp only [yk,seval]; done) | omega | (simp only [yz] <;> omega) | fail)) only [↓yp,yq0,yq1,yq2,yq3,yq4,yl,ys0,ys1,seval,zed,zee,zfr,zhw,ysu,yrg,ysv,ysw,ysx,ysz,ysa,g15,A_buildSlice st_brS_65_1]
      refine leg_appendT (i := (ln : Int)) (b := true) (top := H'.size) (rowA _ (by (repeat (first | exact Fr.refl _ | assumption | refine Fr.allocd ?_ _ | refine Fr.put ?_ (by first | omega | (simp only [yz] <;> omega)) _)))) (by omega) (by (first | omega | (simp only [yz] <;> omega))) (by (first | omega | (simp only [yz] <;> omega))) (by unfold srcCells; simp (disch := (first | (simp only [yk,seval]; done) | omega | (simp only [yz] <;> omega) | fail)) only [yg,seval,zda] <;> rfl) (by omega) ?_
      intro v' H9 row9 sz9 old9
      simp only [zde,zdf] at sz9 old9
      have o16 := old9 H2.size (by omega) (by omega)
      have o17 := old9 (H2.size + 1) (by omega) (by omega)
      simp (disch := (first | (simp only [yk,seval]; done) | omega | (simp only [yz] <;> omega) | fail)) only [yg,seval] at o16 o17
      simp (disch := (first | (simp only [yk,seval]; done) | omega | (simp only [yz] <;> omega) | fail)) only [↓yp,yq0,yq1,yq2,yq3,yq4,yl,ys0,ys1,seval,zed,zee,zfr,zhw,ysu,yrg,ysv,ysw,ysx,ysz,ysa,g15,A_buildSlice st_brS_65_1,o16,o17]
      refine ⟨⟨row9.sameV6, row9.sameV6, row9.sameV6⟩, ?_⟩
      have f9 : ∀ j, j < H.size + 2 → H9.get j = H2.get j := fun j hj => by
        rw [old9 j (by omega) (by omega)]
        simp (disch := (first | (simp only [yk,seval]; done) | omega | (simp only [yz] <;> omega) | fail)) only [yg,seval]
      have hA' := of_decide_eq_true hA
      simp (disch := (first | (simp only [yk,seval]; done) | omega | (simp only [yz] <;> omega) | fail)) only [↓yp,yq0,yq1,yq2,yq3,yq4,yl,ys0,ys1,seval,zed,zee,zfr,zhw,ysu,yrg,ysv,ysw,ysx,ysz,ysa,g22,hw2]
      refine ⟨28 - (i + 1), by omega, i + 1, s.fr, m', ls ++ [((ln : Int), true)], v', rfl, by omega, ?_, ?_, ?_, ?_, ?_, ?_, ?_, ?_, ?_, ⟨h.low hc2 fxA (fun j hj => f9 j (by omega)) (by omega), ⟨by have := fxA.size; omega, fun j h1 h2 => by rw [f9 j (by omega)]; exact fxA.same j h1 h2⟩, by rw [f9 _ (by omega)]; exact c7, by rw [f9 _ (by omega)]; exact c8, by omega, hcan', row9⟩, by rw [List.length_append]; simp; omega⟩
      · simp (disch := (first | (simp only [yk,seval]; done) | omega | (simp only [yz] <;> omega) | fail)) only [yg,seval]
      · simp (disch := (first | (simp only [yk,seval]; done) | omega | (simp only [yz] <;> omega) | fail)) only [yg,seval,g21]
      · simp (disch := (first | (simp only [yk,seval]; done) | omega | (simp only [yz] <;> omega) | fail)) only [yg,seval,g0]
      · simp (disch := (first | (simp only [yk,seval]; done) | omega | (simp only [yz] <;> omega) | fail)) only [yg,seval]
      · simp (disch := (first | (simp only [yk,seval]; done) | omega | (simp only [yz] <;> omega) | fail)) only [yg,seval]
      · simp (disch := (first | (simp only [yk,seval]; done) | omega | (simp only [yz] <;> omega) | fail)) only [yg,seval,g5]
      · simp (disch := (first | (simp only [yk,seval]; done) | omega | (simp only [yz] <;> omega) | fail)) only [yg,seval,g7]
      · simp (disch := (first | (simp only [yk,seval]; done) | omega | (simp only [yz] <;> omega) | fail)) only [yg,seval,g8]
      · simp (disch := (first | (simp only [yk,seval]; done) | omega | (simp only [yz] <;> omega) | fail)) only [yg,seval]
end
end Go.Am
