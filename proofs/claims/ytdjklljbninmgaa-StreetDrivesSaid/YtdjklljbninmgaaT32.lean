/- The reference's search, minute by minute. -/
import Derived.Test.YtdjklljbninmgaaT31
import Derived.Test.YtdjklljbninmgaaT26
set_option linter.unusedSimpArgs false
set_option linter.unusedVariables false
namespace Go.Am
open Go.Proofs
variable {T : Tab} {P : Program} {N L : Nat} {H : AHeap} {Q : Bool → Value → AHeap → Prop}

theorem st_mkS_132 : mkS tabA 132 = some (4, .bool false, 1, 1) := by kernel_rfl
theorem c90 {a : Option Addr} {cap i : Nat} {l : List Str} {C : Int} {b : Bool} {s : Str} (hs : Sl H a l) (hi : l[i]? = some s) :
    acall tabA (aexec tabA Try.prog (N + 60)) 90 [.agg ⟨[.int .i64 C, .slice a l.length cap]⟩, legV i b] H = some (true, .tuple ⟨[.int .i64 (nearL s b), .int .i64 (farL s b)]⟩, H, H.size) := by
  refine call_quiet (k := 36) (rs := [.tmp 4, .tmp 5]) rfl fn_90 rfl rfl rfl ?_ rfl
  have hlt := (List.getElem?_eq_some_iff.1 hi).1
  obtain ⟨b', o, c, rfl, hb, hc, hp⟩ := hs.get (fun h => by subst h; simp at hi)
  have hpi := hp i s hi
  have h0 : c[o + i * 9]? = some (.int .i64 s.fr) := cell_in 0 hpi (by omega)
  have h1 : c[o + i * 9 + 1]? = some (.int .i64 s.to) := cell_in 1 hpi (by omega)
  cases b
  · simp (disch := (first | (simp only [yk,seval]; done) | omega | (simp only [yz] <;> omega) | fail)) only [↓yp,yq0,yq1,yq2,yq3,yq4,yl,ys0,ys1,seval,zed,zee,zfr,zhw,ysu,yrg,legV]
    refine W_draw [] rfl (by kernel_rfl) (by kernel_rfl) (by (first | omega | (simp only [yz] <;> omega))) ?_
    simp (disch := (first | (simp only [yk,seval]; done) | omega | (simp only [yz] <;> omega) | fail)) only [↓yp,yq0,yq1,yq2,yq3,yq4,yl,ys0,ys1,seval,zed,zee,zfr,zhw,ysu,yrg,A_indexSlice ziq,hc,h0,h1,nearL,farL]
  · simp (disch := (first | (simp only [yk,seval]; done) | omega | (simp only [yz] <;> omega) | fail)) only [↓yp,yq0,yq1,yq2,yq3,yq4,yl,ys0,ys1,seval,zed,zee,zfr,zhw,ysu,yrg,legV]
    refine W_draw [] rfl (by kernel_rfl) (by kernel_rfl) (by (first | omega | (simp only [yz] <;> omega))) ?_
    simp (disch := (first | (simp only [yk,seval]; done) | omega | (simp only [yz] <;> omega) | fail)) only [↓yp,yq0,yq1,yq2,yq3,yq4,yl,ys0,ys1,seval,zed,zee,zfr,zhw,ysu,yrg,A_indexSlice ziq,hc,h0,h1,nearL,farL]
structure SH (H₀ H H' : AHeap) (a : Option Addr) (n cap : Nat) (C w ld : Int) (ob : Nat) (al : List Nat) (th : List Bool) (out : List Int) : Prop where
  fr : Fr H₀ H'
  sz : H.size + 3 ≤ H'.size
  b7 : H'.get H.size = .rw [.int .i64 C, .slice a n cap] 34 false []
  b8 : H'.get (H.size + 1) = .rw [.int .i64 w, .int .i64 ld] 50 false []
  bt : H'.get (H.size + 1 + 1) = .rw (bv th) 4 false []
  bo : ∃ al', (∀ j ∈ al', j ∈ al) ∧ H'.get ob = .rw (tv out) 3 true al'
  old : ∀ k, k < H.size → k ≠ ob → k ∉ al → H'.get k = H.get k
theorem SH.frd {H₀ H H' H'' : AHeap} {a : Option Addr} {n cap ob : Nat} {C w ld : Int} {al : List Nat} {th : List Bool} {out : List Int} (h : SH H₀ H H' a n cap C w ld ob al th out) (hob : ob < H.size) (f : Fr H' H'') : SH H₀ H H'' a n cap C w ld ob al th out where
  fr := h.fr.trans f
  sz := Nat.le_trans h.sz f.size
  b7 := by rw [f.same _ (by have := h.sz; omega)]; exact h.b7
  b8 := by rw [f.same _ (by have := h.sz; omega)]; exact h.b8
  bt := by rw [f.same _ (by have := h.sz; omega)]; exact h.bt
  bo := by rw [f.same _ (by have := h.sz; omega)]; exact h.bo
  old k h1 h2 h3 := by rw [f.same _ (by have := h.sz; omega)]; exact h.old k h1 h2 h3
theorem SH.th {H₀ H H' : AHeap} {a : Option Addr} {n cap ob : Nat} {C w ld : Int} {al : List Nat} {th : List Bool} {out : List Int} (h : SH H₀ H H' a n cap C w ld ob al th out) (h0 : H₀.size ≤ H.size) (hob : ob < H.size) (th' : List Bool) : SH H₀ H (H'.put (H.size + 1 + 1) (.rw (bv th') 4 false [])) a n cap C w ld ob al th' out where
  fr := h.fr.put (by omega) _
  sz := by rw [zdf]; exact h.sz
  b7 := by rw [zdd (by omega)]; exact h.b7
  b8 := by rw [zdd (by omega)]; exact h.b8
  bt := zdc (by have := h.sz; omega)
  bo := by rw [zdd (by omega)]; exact h.bo
  old k h1 h2 h3 := by rw [zdd (by omega)]; exact h.old k h1 h2 h3
theorem SH.out {H₀ H H' : AHeap} {a : Option Addr} {n cap ob : Nat} {C w ld : Int} {al al' : List Nat} {th : List Bool} {out : List Int} (h : SH H₀ H H' a n cap C w ld ob al th out) (h0 : H₀.size ≤ ob) (hob : ob < H.size) (hal : ∀ j ∈ al, H₀.size ≤ j ∧ j < H.size ∧ j ≠ ob) (ha : ∀ j ∈ al', j ∈ al) (out' : List Int) : SH H₀ H ((H'.kill al').put ob (.rw (tv out') 3 true [])) a n cap C w ld ob al th out' := by
  have hk : ∀ k, (k < H₀.size ∨ H.size ≤ k) → k ∉ al' := fun k hk hm => by have := hal k (ha k hm); omega
  have sz := h.sz
  refine ⟨Fr.put (Fr.kill h.fr fun j hj => (hal j (ha j hj)).1) h0 _, by rw [zdf, zdg]; exact sz, ?_, ?_, ?_, ⟨[], by simp, zdc (by rw [zdg]; omega)⟩, fun k h1 h2 h3 => ?_⟩
  · rw [zdd (by omega), get_kill (hk _ (by omega))]; exact h.b7
  · rw [zdd (by omega), get_kill (hk _ (by omega))]; exact h.b8
  · rw [zdd (by omega), get_kill (hk _ (by omega))]; exact h.bt
  · rw [zdd h2, get_kill (fun hm => h3 (ha k hm))]; exact h.old k h1 h2 h3
theorem tv_atN {t : List Int} {x : Int} {n : Nat} (ht : t.length = n) (h : 0 ≤ x ∧ x < n) : (tv t)[x.toNat]? = some (.int .i64 (tg t x)) := tv_get (by omega)
section
variable {H₀ : AHeap} {l : List Str} {C w ld fr a₀ : Int} {a : Option Addr} {cap ob oc : Nat} {al : List Nat}
set_option maxHeartbeats 1000000 in
/-- One leg. -/
theorem c87leg {H8 : AHeap} {e7 : VT} {m x : Int} {i j : Nat} {s : Str} {th₀ th' : List Bool} {out : List Int} (f0s : H₀.size ≤ H.size) (hs : Sl H₀ a l) (g : Good C l ld) (hobs : ob < H.size) (hm0 : 0 ≤ m) (hm' : m ≤ 240) (hcan : Can l w ld fr a₀ m x) (his : l[i]? = some s) (hj' : j < 2)
    (g5 : gt 134 e7 5 = .int .i64 (-1)) (g7 : gt 134 e7 7 = .pointer (some ⟨H.size, 0, none⟩)) (g8 : gt 134 e7 8 = .pointer (some ⟨H.size + 1, 0, none⟩)) (g15 : gt 134 e7 15 = .slice (some ⟨H.size + 1 + 1, 0, none⟩) (241 * C).toNat (241 * C).toNat)
    (g16 : gt 134 e7 16 = .int .i64 m) (g17 : gt 134 e7 17 = .int .i64 x) (g18 : gt 134 e7 18 = .int .i64 (i : Nat)) (g19 : gt 134 e7 19 = .int .i64 (j : Nat)) (J : SH H₀ H H8 a l.length cap C w ld ob al th' out) (S : LS l C w ld fr a₀ m x th₀ (2 * i + j) th') (hLH : L ≤ H.size) :
    W tabA Try.prog (N + 400) none (sub [true, true, true, false, true, false, false, true, false, false, true, false, false, true, false, false, true, true, true, true, true, false, false, true, false, false, true, false, false, true] (bodyOf Try.f87)) L ⟨134, e7, H8, []⟩ (endK 134 [] fun e' H' => ∃ th'', gt 134 e' 19 = .int .i64 ((j + 1 : Nat) : Int) ∧ gt 134 e' 18 = .int .i64 (i : Nat) ∧ gt 134 e' 17 = .int .i64 x ∧ gt 134 e' 16 = .int .i64 m ∧ Keep 134 [3, 5, 6, 7, 8, 15] e7 e' ∧ SH H₀ H H' a l.length cap C w ld ob al th'' out ∧ LS l C w ld fr a₀ m x th₀ (2 * i + (j + 1)) th'') := by
  have hC := g.hC
  have hmem := List.mem_of_getElem? his
  obtain ⟨b, hb⟩ : ∃ b : Bool, decide ((j : Int) = 1) = b := ⟨_, rfl⟩
  have hbj : b.toNat = j := by
    rw [← hb]
    rcases (by omega : j = 0 ∨ j = 1) with rfl | rfl <;> rfl
  have sz := J.sz
  have hwj : w64 ((j : Int) + 1) = ((j + 1 : Nat) : Int) := by rw [w64_of (by omega)]; omega
  simp only [Try.f87,bodyOf,sub_nil,sub_seq0,sub_seq1,sub_block,sub_loop,sub_cond0,sub_cond1]
  rw [zag, zah]
  refine W_seqI (fun e H' => gt 134 e 20 = .pointer (some ⟨H8.size, 0, none⟩) ∧ gt 134 e 19 = .int .i64 (j : Nat) ∧ gt 134 e 18 = .int .i64 (i : Nat) ∧ gt 134 e 17 = .int .i64 x ∧ gt 134 e 16 = .int .i64 m ∧ Keep 134 [3, 5, 6, 7, 8, 15] e7 e ∧ Fr H8 H' ∧ H'.get H8.size = .rw [.int .i64 (i : Nat), .bool b] 54 false [] ∧ H8.size < H'.size) ?_ ?_
  · simp (disch := (first | (simp only [yk,seval]; done) | omega | (simp only [yz] <;> omega) | fail)) only [↓yp,yq0,yq1,yq2,yq3,yq4,yl,ys0,ys1,seval,zed,zee,zfr,zhw,ysu,yrg,g19,g18,hb,A_build st_bdS_54]
    refine ⟨?_, ?_, ?_, ?_, ?_, by (with_reducible (repeat (first | refine Keep.put ?_ (by decide) | refine Keep.none ?_ | assumption | exact Keep.refl _ _ _))), by (repeat (first | exact Fr.refl _ | assumption | refine Fr.allocd ?_ _ | refine Fr.kill ?_ (by first | assumption | omega) | refine Fr.put ?_ (by first | omega | (simp only [yz] <;> omega)) _)), ?_, by (first | omega | (simp only [yz] <;> omega))⟩
    · simp (disch := (first | (simp only [yk,seval]; done) | omega | (simp only [yz] <;> omega) | fail)) only [yg,Nat.reduceAdd,Nat.reduceEqDiff,Nat.reduceLT]
    · simp (disch := (first | (simp only [yk,seval]; done) | omega | (simp only [yz] <;> omega) | fail)) only [yg,Nat.reduceAdd,Nat.reduceEqDiff,Nat.reduceLT,g19]
    · simp (disch := (first | (simp only [yk,seval]; done) | omega | (simp only [yz] <;> omega) | fail)) only [yg,Nat.reduceAdd,Nat.reduceEqDiff,Nat.reduceLT,g18]
    · simp (disch := (first | (simp only [yk,seval]; done) | omega | (simp only [yz] <;> omega) | fail)) only [yg,Nat.reduceAdd,Nat.reduceEqDiff,Nat.reduceLT,g17]
    · simp (disch := (first | (simp only [yk,seval]; done) | omega | (simp only [yz] <;> omega) | fail)) only [yg,Nat.reduceAdd,Nat.reduceEqDiff,Nat.reduceLT,g16]
    · simp (disch := (first | (simp only [yk,seval]; done) | omega | (simp only [yz] <;> omega) | fail)) only [yg,Nat.reduceAdd,Nat.reduceEqDiff,Nat.reduceLT]
  rintro e8 H9 ⟨g20, g19', g18', g17', g16', kp8, fr9, gb, sz9⟩
  clear g19 g18 g17 g16
  have g19 := g19'
  have g18 := g18'
  have g17 := g17'
  have g16 := g16'
  have J9 := J.frd hobs fr9
  have j7 := J9.b7
  have j8 := J9.b8
  have jt := J9.bt
  have k7 := (kp8 7 (by decide)).trans g7
  have k8 := (kp8 8 (by decide)).trans g8
  have k5 := (kp8 5 (by decide)).trans g5
  have k15 := (kp8 15 (by decide)).trans g15
  have hf := g.fit hmem
  have hsl := hs.fr J9.fr
  have h90 := fun (N : Nat) => c90 (N := N) (C := C) (cap := cap) (b := b) hsl his
  have h29 := fun (N : Nat) => c29 (N := N) (C := C) (w := w) (ld := ld) (cap := cap) (b := b) hsl his
  have h85 := fun (N : Nat) => c85 (N := N) (C := C) (w := w) (ld := ld) (cap := cap) (b := b) (m := m) hsl his hf hm0 (by omega)
  simp only [legV] at h90 h29 h85
  have S' := S.step g ⟨hm0, hm'⟩ hcan his (by omega : 2 * i + j = 2 * i + b.toNat)
  have same : legT C w ld m x th' s b = th' → LS l C w ld fr a₀ m x th₀ (2 * i + (j + 1)) th' := fun h => by rw [h] at S'; exact S'
  cases hN : decide (nearL s b = x)
  · simp (disch := (first | (simp only [yk,seval]; done) | omega | (simp only [yz] <;> omega) | fail)) only [↓yp,yq0,yq1,yq2,yq3,yq4,yl,ys0,ys1,seval,zed,zee,zfr,zhw,ysu,yrg,g20,g19,g18,g17,g16,k7,k8,k5,j7,j8,gb,h90,hN,hwj]
    refine ⟨th', ?_, ?_, ?_, ?_, by (with_reducible (repeat (first | refine Keep.put ?_ (by decide) | refine Keep.none ?_ | assumption | exact Keep.refl _ _ _))), J9, same (by unfold legT; rw [hN]; rfl)⟩
    · simp (disch := (first | (simp only [yk,seval]; done) | omega | (simp only [yz] <;> omega) | fail)) only [yg,Nat.reduceAdd,Nat.reduceEqDiff,Nat.reduceLT]
    · simp (disch := (first | (simp only [yk,seval]; done) | omega | (simp only [yz] <;> omega) | fail)) only [yg,Nat.reduceAdd,Nat.reduceEqDiff,Nat.reduceLT,g18]
    · simp (disch := (first | (simp only [yk,seval]; done) | omega | (simp only [yz] <;> omega) | fail)) only [yg,Nat.reduceAdd,Nat.reduceEqDiff,Nat.reduceLT,g17]
    · simp (disch := (first | (simp only [yk,seval]; done) | omega | (simp only [yz] <;> omega) | fail)) only [yg,Nat.reduceAdd,Nat.reduceEqDiff,Nat.reduceLT,g16]
  cases hM : mayL s b w ld
  · simp (disch := (first | (simp only [yk,seval]; done) | omega | (simp only [yz] <;> omega) | fail)) only [↓yp,yq0,yq1,yq2,yq3,yq4,yl,ys0,ys1,seval,zed,zee,zfr,zhw,ysu,yrg,g20,g19,g18,g17,g16,k7,k8,k5,j7,j8,gb,h90,h29,hN,hM,hwj]
    refine ⟨th', ?_, ?_, ?_, ?_, by (with_reducible (repeat (first | refine Keep.put ?_ (by decide) | refine Keep.none ?_ | assumption | exact Keep.refl _ _ _))), J9, same (by unfold legT; rw [hN, hM]; rfl)⟩
    · simp (disch := (first | (simp only [yk,seval]; done) | omega | (simp only [yz] <;> omega) | fail)) only [yg,Nat.reduceAdd,Nat.reduceEqDiff,Nat.reduceLT]
    · simp (disch := (first | (simp only [yk,seval]; done) | omega | (simp only [yz] <;> omega) | fail)) only [yg,Nat.reduceAdd,Nat.reduceEqDiff,Nat.reduceLT,g18]
    · simp (disch := (first | (simp only [yk,seval]; done) | omega | (simp only [yz] <;> omega) | fail)) only [yg,Nat.reduceAdd,Nat.reduceEqDiff,Nat.reduceLT,g17]
    · simp (disch := (first | (simp only [yk,seval]; done) | omega | (simp only [yz] <;> omega) | fail)) only [yg,Nat.reduceAdd,Nat.reduceEqDiff,Nat.reduceLT,g16]
  cases hS : decide (0 ≤ startsL s b ld m)
  · simp (disch := (first | (simp only [yk,seval]; done) | omega | (simp only [yz] <;> omega) | fail)) only [↓yp,yq0,yq1,yq2,yq3,yq4,yl,ys0,ys1,seval,zed,zee,zfr,zhw,ysu,yrg,g20,g19,g18,g17,g16,k7,k8,k5,j7,j8,gb,h90,h29,h85,hN,hM,hS,hwj]
    refine ⟨th', ?_, ?_, ?_, ?_, by (with_reducible (repeat (first | refine Keep.put ?_ (by decide) | refine Keep.none ?_ | assumption | exact Keep.refl _ _ _))), J9, same (by unfold legT; rw [hN, hM, hS]; rfl)⟩
    · simp (disch := (first | (simp only [yk,seval]; done) | omega | (simp only [yz] <;> omega) | fail)) only [yg,Nat.reduceAdd,Nat.reduceEqDiff,Nat.reduceLT]
    · simp (disch := (first | (simp only [yk,seval]; done) | omega | (simp only [yz] <;> omega) | fail)) only [yg,Nat.reduceAdd,Nat.reduceEqDiff,Nat.reduceLT,g18]
    · simp (disch := (first | (simp only [yk,seval]; done) | omega | (simp only [yz] <;> omega) | fail)) only [yg,Nat.reduceAdd,Nat.reduceEqDiff,Nat.reduceLT,g17]
    · simp (disch := (first | (simp only [yk,seval]; done) | omega | (simp only [yz] <;> omega) | fail)) only [yg,Nat.reduceAdd,Nat.reduceEqDiff,Nat.reduceLT,g16]
  · obtain ⟨s1, s2, s3⟩ := starts_in g hmem (b := b) (m := m) ⟨hm0, hm'⟩ (of_decide_eq_true hS)
    have hfar := g.far hmem b
    have hix3 := ix_lt hC (k := startsL s b ld m) (y := farL s b) ⟨by omega, s2⟩ hfar
    have w6 : w64 (startsL s b ld m * C) = startsL s b ld m * C := w64_of (by omega)
    have w7 : w64 (startsL s b ld m * C + farL s b) = startsL s b ld m * C + farL s b := w64_of (by omega)
    have tl' := S.len
    have hfit3 : decide ((startsL s b ld m * C + farL s b).toNat + 1 ≤ (241 * C).toNat) = true := by simp; omega
    have nb3 : List.take (startsL s b ld m * C + farL s b).toNat (bv th') ++ [.bool true] ++ List.drop ((startsL s b ld m * C + farL s b).toNat + 1) (bv th') = bv (th'.set (ix C (startsL s b ld m) (farL s b)) true) := newC_bv (by omega)
    have hl' : legT C w ld m x th' s b = th'.set (ix C (startsL s b ld m) (farL s b)) true := by unfold legT; rw [hN, hM, hS]; rfl
    rw [hl'] at S'
    have sz9' := J9.sz
    simp (disch := (first | (simp only [yk,seval]; done) | omega | (simp only [yz] <;> omega) | fail)) only [↓yp,yq0,yq1,yq2,yq3,yq4,yl,ys0,ys1,seval,zed,zee,zfr,zhw,ysu,yrg,g20,g19,g18,g17,g16,k7,k8,k5,k15,j7,j8,jt,gb,h90,h29,h85,hN,hM,hS,hwj,w6,w7,A_indexSlice st_esS_132,bv_len,tl',one_bv,hfit3,nb3]
    refine ⟨_, ?_, ?_, ?_, ?_, by (with_reducible (repeat (first | refine Keep.put ?_ (by decide) | refine Keep.none ?_ | assumption | exact Keep.refl _ _ _))), J9.th f0s hobs _, S'⟩
    · simp (disch := (first | (simp only [yk,seval]; done) | omega | (simp only [yz] <;> omega) | fail)) only [yg,Nat.reduceAdd,Nat.reduceEqDiff,Nat.reduceLT]
    · simp (disch := (first | (simp only [yk,seval]; done) | omega | (simp only [yz] <;> omega) | fail)) only [yg,Nat.reduceAdd,Nat.reduceEqDiff,Nat.reduceLT,g18]
    · simp (disch := (first | (simp only [yk,seval]; done) | omega | (simp only [yz] <;> omega) | fail)) only [yg,Nat.reduceAdd,Nat.reduceEqDiff,Nat.reduceLT,g17]
    · simp (disch := (first | (simp only [yk,seval]; done) | omega | (simp only [yz] <;> omega) | fail)) only [yg,Nat.reduceAdd,Nat.reduceEqDiff,Nat.reduceLT,g16]
set_option maxHeartbeats 4000000 in
theorem c87 (f0 : Fr H₀ H) (hs : Sl H₀ a l) (hl : l.length ≤ 18) (g : Good C l ld) (hfr : 0 ≤ fr ∧ fr < C) (ha : 0 ≤ a₀ ∧ a₀ ≤ 240) (hob : H.get ob = .rw (tv (List.replicate C.toNat (-1))) 3 true al) (hob0 : H₀.size ≤ ob) (hal : ∀ j ∈ al, H₀.size ≤ j ∧ j < H.size ∧ j ≠ ob) (hL : L ≤ H₀.size) {M : Nat} (hM : 3000 ≤ M)
    (hq : ∀ q v H', Fr H₀ H' → H.size ≤ H'.size → (∀ k, k < H.size → k ≠ ob → k ∉ al → H'.get k = H.get k) → (∃ al', (∀ j ∈ al', j ∈ al) ∧ H'.get ob = .rw (tv ((earT C l w ld fr a₀).take C.toNat)) 3 true al') → Q q v H') :
    resK (acall tabA (aexec tabA Try.prog M) 87 [.agg ⟨[.int .i64 C, .slice a l.length cap]⟩, .agg ⟨[.int .i64 w, .int .i64 ld]⟩, .int .i64 fr, .int .i64 (-1), .int .i64 a₀, .int .i64 (-1), .slice (some ⟨ob, 0, none⟩) C.toNat oc] H) L Q := by
  obtain ⟨N, rfl⟩ : ∃ N, M = N + 3000 := ⟨M - 3000, by omega⟩
  have hobs : ob < H.size := lt_of_cells (c := tv (List.replicate C.toNat (-1))) (by rw [hob]; rfl)
  have hC := g.hC
  have f0s := f0.size
  have hLH : L ≤ H.size := by omega
  refine call_keep tabA_fr (k := 134) (rs := [.tmp 14]) (R := fun _ H' => Fr H₀ H' ∧ H.size ≤ H'.size ∧ (∀ k, k < H.size → k ≠ ob → k ∉ al → H'.get k = H.get k) ∧ ∃ al', (∀ j ∈ al', j ∈ al) ∧ H'.get ob = .rw (tv ((earT C l w ld fr a₀).take C.toNat)) 3 true al') rfl fn_87 rfl rfl rfl (by omega) ?_ (fun v H' h => hq _ _ _ h.1 h.2.1 h.2.2.1 h.2.2.2) (fun v H' h _ f => hq _ _ _ f0 (Nat.le_refl _) (fun _ _ _ _ => rfl) (by rw [← f.same ob hobs]; exact h.2.2.2))
  have w0 : w64 (241 * C) = 241 * C := w64_of (by omega)
  have hix := ix_lt hC ha hfr
  have w1 : w64 (a₀ * C) = a₀ * C := w64_of (by omega)
  have w2 : w64 (a₀ * C + fr) = a₀ * C + fr := w64_of (by omega)
  simp (disch := (first | (simp only [yk,seval]; done) | omega | (simp only [yz] <;> omega) | fail)) only [↓yp,yq0,yq1,yq2,yq3,yq4,yl,ys0,ys1,seval,zed,zee,zfr,zhw,ysu,yrg,w0]
  refine A_make_of (m := 241 * C) st_mkS_132 (by simp (disch := (first | (simp only [yk,seval]; done) | omega | (simp only [yz] <;> omega) | fail)) only [↓yp,yq0,yq1,yq2,yq3,yq4,yl,ys0,ys1,seval,zed,zee,zfr,zhw,ysu,yrg]) (by omega) (by omega) (by omega) (by rw [show (Value.bool false).cells = #[.bool false] from rfl, made_false]; exact grs_replicate rfl _) (by (first | omega | (simp only [yz] <;> omega))) ?_
  rw [show (madeCells (Value.bool false).cells ((241 * C).toNat * 1)).toList = bv (List.replicate (241 * C).toNat false) by rw [show (Value.bool false).cells = #[.bool false] from rfl, made_false, Nat.mul_one, bv, List.map_replicate]]
  have hfit : decide ((a₀ * C + fr).toNat + 1 ≤ (241 * C).toNat) = true := by simp; omega
  have nb : List.take (a₀ * C + fr).toNat (bv (List.replicate (241 * C).toNat false)) ++ [.bool true] ++ List.drop ((a₀ * C + fr).toNat + 1) (bv (List.replicate (241 * C).toNat false)) = bv ((List.replicate (241 * C).toNat false).set (ix C a₀ fr) true) := newC_bv (by rw [List.length_replicate]; omega)
  simp (disch := (first | (simp only [yk,seval]; done) | omega | (simp only [yz] <;> omega) | fail)) only [↓yp,yq0,yq1,yq2,yq3,yq4,yl,ys0,ys1,seval,zed,zee,zfr,zhw,ysu,yrg,w1,w2,A_indexSlice st_esS_132,bv_len,List.length_replicate,hfit,nb]
  refine W_gen (fun e H' => gt 134 e 16 = .int .i64 a₀ ∧ gt 134 e 3 = .int .i64 (-1) ∧ gt 134 e 5 = .int .i64 (-1) ∧ gt 134 e 6 = .slice (some ⟨ob, 0, none⟩) C.toNat oc ∧ gt 134 e 7 = .pointer (some ⟨H.size, 0, none⟩) ∧ gt 134 e 8 = .pointer (some ⟨H.size + 1, 0, none⟩) ∧ gt 134 e 15 = .slice (some ⟨H.size + 1 + 1, 0, none⟩) (241 * C).toNat (241 * C).toNat ∧
    SH H₀ H H' a l.length cap C w ld ob al ((List.replicate (241 * C).toNat false).set (ix C a₀ fr) true) (List.replicate C.toNat (-1))) ⟨?_, ?_, ?_, ?_, ?_, ?_, ?_, ?_⟩ ?_
  iterate 7 simp (disch := (first | (simp only [yk,seval]; done) | omega | (simp only [yz] <;> omega) | fail)) only [yg,Nat.reduceAdd,Nat.reduceEqDiff,Nat.reduceLT]
  · refine ⟨f0.trans (by (repeat (first | exact Fr.refl _ | assumption | refine Fr.allocd ?_ _ | refine Fr.kill ?_ (by first | assumption | omega) | refine Fr.put ?_ (by first | omega | (simp only [yz] <;> omega)) _))), by (first | omega | (simp only [yz] <;> omega)), ?_, ?_, ?_, ⟨al, fun j hj => hj, ?_⟩, fun k h1 h2 h3 => ?_⟩
    · simp (disch := (first | (simp only [yk,seval]; done) | omega | (simp only [yz] <;> omega) | fail)) only [yg,Nat.reduceAdd,Nat.reduceEqDiff,Nat.reduceLT]
    · simp (disch := (first | (simp only [yk,seval]; done) | omega | (simp only [yz] <;> omega) | fail)) only [yg,Nat.reduceAdd,Nat.reduceEqDiff,Nat.reduceLT]
    · simp (disch := (first | (simp only [yk,seval]; done) | omega | (simp only [yz] <;> omega) | fail)) only [yg,Nat.reduceAdd,Nat.reduceEqDiff,Nat.reduceLT]
    · simp (disch := (first | (simp only [yk,seval]; done) | omega | (simp only [yz] <;> omega) | fail)) only [yg,Nat.reduceAdd,Nat.reduceEqDiff,Nat.reduceLT]; exact hob
    · simp (disch := (first | (simp only [yk,seval]; done) | omega | (simp only [yz] <;> omega) | fail)) only [yg,Nat.reduceAdd,Nat.reduceEqDiff,Nat.reduceLT]
  rintro e0 H1 ⟨g16, g3, g5, g6, g7, g8, g15, J0⟩
  refine W_while (n := 134) 2000 (fun k e H' => ∃ (m : Int) (th : List Bool) (out : List Int), k = (241 - m).toNat ∧ a₀ ≤ m ∧ m ≤ 241 ∧ gt 134 e 16 = .int .i64 m ∧ Keep 134 [3, 5, 6, 7, 8, 15] e0 e ∧ SH H₀ H H' a l.length cap C w ld ob al th out ∧ RS l C w ld fr a₀ m 0 th out)
    ?_ 241 (241 - a₀).toNat ⟨a₀, _, _, rfl, Int.le_refl _, by omega, g16, Keep.refl _ _ _, J0, RS.init g hfr ha⟩ (by omega) (by omega)
  clear g16 J0
  rintro M1 k1 e1 H2 ⟨m, th, out, rfl, ham, hm, g16, kp, J, R⟩
  have sz := J.sz
  have hw3 : w64 (m + 1) = m + 1 := w64_of (by omega)
  simp (disch := (first | (simp only [yk,seval]; done) | omega | (simp only [yz] <;> omega) | fail)) only [↓yp,yq0,yq1,yq2,yq3,yq4,yl,ys0,ys1,seval,zed,zee,zfr,zhw,ysu,yrg,g16]
  refine ⟨fun hA => ?_, fun hA => ?_⟩
  rotate_left
  · have hm' : m = 241 := by simp at hA; omega
    subst hm'
    simp (disch := (first | (simp only [yk,seval]; done) | omega | (simp only [yz] <;> omega) | fail)) only [↓yp,yq0,yq1,yq2,yq3,yq4,yl,ys0,ys1,seval,zed,zee,zfr,zhw,ysu,yrg]
    exact ⟨J.fr, by omega, J.old, by rw [← R.final g hfr ha]; exact J.bo⟩
  have hm' : m ≤ 240 := by simpa using hA
  have hm00 : 0 ≤ m := by omega
  simp (disch := (first | (simp only [yk,seval]; done) | omega | (simp only [yz] <;> omega) | fail)) only [↓yp,yq0,yq1,yq2,yq3,yq4,yl,ys0,ys1,seval,zed,zee,zfr,zhw,ysu,yrg]
  refine W_while (n := 134) 1700 (fun k e H' => ∃ (x : Int) (th : List Bool) (out : List Int), k = (C - x).toNat ∧ 0 ≤ x ∧ x ≤ C ∧ gt 134 e 17 = .int .i64 x ∧ gt 134 e 16 = .int .i64 m ∧ Keep 134 [3, 5, 6, 7, 8, 15] e0 e ∧ SH H₀ H H' a l.length cap C w ld ob al th out ∧ RS l C w ld fr a₀ m x th out)
    ?_ 8 C.toNat ⟨0, th, out, by omega, by omega, by omega, by simp (disch := (first | (simp only [yk,seval]; done) | omega | (simp only [yz] <;> omega) | fail)) only [yg,Nat.reduceAdd,Nat.reduceEqDiff,Nat.reduceLT], by simp (disch := (first | (simp only [yk,seval]; done) | omega | (simp only [yz] <;> omega) | fail)) only [yg,Nat.reduceAdd,Nat.reduceEqDiff,Nat.reduceLT,g16], by (with_reducible (repeat (first | refine Keep.put ?_ (by decide) | refine Keep.none ?_ | assumption | exact Keep.refl _ _ _))), J, R⟩ (by omega) (by omega)
  clear kp J R g16 sz th out
  rintro M2 k2 e2 H3 ⟨x, th, out, rfl, hx0, hx1, g17, g16, kp, J, R⟩
  have sz := J.sz
  have j7 := J.b7
  have k7 := (kp 7 (by decide)).trans g7
  have k15 := (kp 15 (by decide)).trans g15
  have hw4 : w64 (x + 1) = x + 1 := w64_of (by omega)
  simp (disch := (first | (simp only [yk,seval]; done) | omega | (simp only [yz] <;> omega) | fail)) only [↓yp,yq0,yq1,yq2,yq3,yq4,yl,ys0,ys1,seval,zed,zee,zfr,zhw,ysu,yrg,g17,k7,j7]
  refine ⟨fun hB => ?_, fun hB => ?_⟩
  rotate_left
  · have hx' : x = C := by simp at hB; omega
    subst hx'
    simp (disch := (first | (simp only [yk,seval]; done) | omega | (simp only [yz] <;> omega) | fail)) only [↓yp,yq0,yq1,yq2,yq3,yq4,yl,ys0,ys1,seval,zed,zee,zfr,zhw,ysu,yrg,g16,hw3]
    refine ⟨(241 - (m + 1)).toNat, by omega, m + 1, th, out, rfl, by omega, by omega, ?_, by (with_reducible (repeat (first | refine Keep.put ?_ (by decide) | refine Keep.none ?_ | assumption | exact Keep.refl _ _ _))), J, R.row g⟩
    simp (disch := (first | (simp only [yk,seval]; done) | omega | (simp only [yz] <;> omega) | fail)) only [yg,Nat.reduceAdd,Nat.reduceEqDiff,Nat.reduceLT]
  have hx' : x < C := by simpa using hB
  have hix2 := ix_lt hC (k := m) (y := x) ⟨by omega, by omega⟩ ⟨by omega, by omega⟩
  have w3 : w64 (m * C) = m * C := w64_of (by omega)
  have w4 : w64 (m * C + x) = m * C + x := w64_of (by omega)
  have jt := J.bt
  have tl := R.len
  have tget : (bv th)[(m * C + x).toNat]? = some (.bool (th.getD (ix C m x) false)) := bv_get (by omega)
  simp (disch := (first | (simp only [yk,seval]; done) | omega | (simp only [yz] <;> omega) | fail)) only [↓yp,yq0,yq1,yq2,yq3,yq4,yl,ys0,ys1,seval,zed,zee,zfr,zhw,ysu,yrg,g17,g16,k7,j7,k15,jt,w3,w4,A_indexSlice st_esS_132,tget]
  refine ⟨fun hT => ?_, fun hT => ?_⟩
  rotate_left
  · have hT' : ¬ Tm C th m x := fun h => by unfold Tm at h; rw [h] at hT; cases hT
    simp (disch := (first | (simp only [yk,seval]; done) | omega | (simp only [yz] <;> omega) | fail)) only [↓yp,yq0,yq1,yq2,yq3,yq4,yl,ys0,ys1,seval,zed,zee,zfr,zhw,ysu,yrg,g17,hw4]
    refine ⟨(C - (x + 1)).toNat, by omega, x + 1, th, out, rfl, by omega, by omega, ?_, ?_, by (with_reducible (repeat (first | refine Keep.put ?_ (by decide) | refine Keep.none ?_ | assumption | exact Keep.refl _ _ _))), J, R.skip hT'⟩
    · simp (disch := (first | (simp only [yk,seval]; done) | omega | (simp only [yz] <;> omega) | fail)) only [yg,Nat.reduceAdd,Nat.reduceEqDiff,Nat.reduceLT]
    · simp (disch := (first | (simp only [yk,seval]; done) | omega | (simp only [yz] <;> omega) | fail)) only [yg,Nat.reduceAdd,Nat.reduceEqDiff,Nat.reduceLT,g16]
  have hT' : Tm C th m x := hT
  refine W_skipI (by omega) ?_
  refine W_seqI (fun e H' => gt 134 e 17 = .int .i64 x ∧ gt 134 e 16 = .int .i64 m ∧ Keep 134 [3, 5, 6, 7, 8, 15] e0 e ∧ H' = H3) ?_ ?_
  · have hxx : decide (x = -1) = false := by simp; omega
    have k3 := (kp 3 (by decide)).trans g3
    simp (disch := (first | (simp only [yk,seval]; done) | omega | (simp only [yz] <;> omega) | fail)) only [↓yp,yq0,yq1,yq2,yq3,yq4,yl,ys0,ys1,seval,zed,zee,zfr,zhw,ysu,yrg,g17,g16,k3,hxx]
    refine ⟨?_, ?_, by (with_reducible (repeat (first | refine Keep.put ?_ (by decide) | refine Keep.none ?_ | assumption | exact Keep.refl _ _ _))), rfl⟩
    · simp (disch := (first | (simp only [yk,seval]; done) | omega | (simp only [yz] <;> omega) | fail)) only [yg,Nat.reduceAdd,Nat.reduceEqDiff,Nat.reduceLT,g17]
    · simp (disch := (first | (simp only [yk,seval]; done) | omega | (simp only [yz] <;> omega) | fail)) only [yg,Nat.reduceAdd,Nat.reduceEqDiff,Nat.reduceLT,g16]
  clear g17 g16 k7 k15
  rintro e3 H4 ⟨g17, g16, kp3, rfl⟩
  clear kp
  refine W_seqI (fun e H' => gt 134 e 17 = .int .i64 x ∧ gt 134 e 16 = .int .i64 m ∧ Keep 134 [3, 5, 6, 7, 8, 15] e0 e ∧ SH H₀ H H' a l.length cap C w ld ob al th (outT m x out)) ?_ ?_
  · have k6 := (kp3 6 (by decide)).trans g6
    obtain ⟨al', hal', jo⟩ := J.bo
    have ol := R.olen
    have xo : (tv out)[x.toNat]? = some (.int .i64 (tg out x)) := tv_atN ol (by omega)
    have hpos : decide ((0 : Int) < (C.toNat : Int)) = true := by simp; omega
    have hmin : L ≤ minAl ob al' := le_minAl (by omega) fun j hj => by have := hal j (hal' j hj); omega
    have nt : List.take x.toNat (tv out) ++ [.int .i64 m] ++ List.drop (x.toNat + 1) (tv out) = tv (out.set x.toNat m) := newC_tv (by omega)
    have hfit2 : decide (x.toNat + 1 ≤ C.toNat) = true := by simp; omega
    simp (disch := (first | (simp only [yk,seval]; done) | omega | (simp only [yz] <;> omega) | fail)) only [↓yp,yq0,yq1,yq2,yq3,yq4,yl,ys0,ys1,seval,zed,zee,zfr,zhw,ysu,yrg,g17,g16,k6,A_indexSlice zir,jo,xo,lenV_slice zir,hpos]
    refine ⟨fun hD => ?_, fun hD => ?_⟩
    · have hD' : outT m x out = out.set x.toNat m := by unfold outT; rw [hD]; rfl
      simp (disch := (first | (simp only [yk,seval]; done) | omega | (simp only [yz] <;> omega) | fail)) only [↓yp,yq0,yq1,yq2,yq3,yq4,yl,ys0,ys1,seval,zed,zee,zfr,zhw,ysu,yrg,g17,g16,k6,A_indexSlice zir,jo,wrB_al,tv_len,ol,one_tv,hfit2,nt,hmin]
      refine ⟨?_, ?_, by (with_reducible (repeat (first | refine Keep.put ?_ (by decide) | refine Keep.none ?_ | assumption | exact Keep.refl _ _ _))), ?_⟩
      · simp (disch := (first | (simp only [yk,seval]; done) | omega | (simp only [yz] <;> omega) | fail)) only [yg,Nat.reduceAdd,Nat.reduceEqDiff,Nat.reduceLT,g17]
      · simp (disch := (first | (simp only [yk,seval]; done) | omega | (simp only [yz] <;> omega) | fail)) only [yg,Nat.reduceAdd,Nat.reduceEqDiff,Nat.reduceLT,g16]
      · rw [hD']; exact J.out hob0 hobs hal hal' _
    · have hD' : outT m x out = out := by unfold outT; rw [hD]; rfl
      simp (disch := (first | (simp only [yk,seval]; done) | omega | (simp only [yz] <;> omega) | fail)) only [↓yp,yq0,yq1,yq2,yq3,yq4,yl,ys0,ys1,seval,zed,zee,zfr,zhw,ysu,yrg]
      refine ⟨?_, ?_, by (with_reducible (repeat (first | refine Keep.put ?_ (by decide) | refine Keep.none ?_ | assumption | exact Keep.refl _ _ _))), ?_⟩
      · simp (disch := (first | (simp only [yk,seval]; done) | omega | (simp only [yz] <;> omega) | fail)) only [yg,Nat.reduceAdd,Nat.reduceEqDiff,Nat.reduceLT,g17]
      · simp (disch := (first | (simp only [yk,seval]; done) | omega | (simp only [yz] <;> omega) | fail)) only [yg,Nat.reduceAdd,Nat.reduceEqDiff,Nat.reduceLT,g16]
      · rw [hD']; exact J
  clear g17 g16 kp3 sz J j7 jt
  rintro e4 H5 ⟨g17, g16, kp, J⟩
  have sz := J.sz
  have jt := J.bt
  have j7 := J.b7
  refine W_seqI (fun e H' => gt 134 e 17 = .int .i64 x ∧ gt 134 e 16 = .int .i64 m ∧ Keep 134 [3, 5, 6, 7, 8, 15] e0 e ∧ SH H₀ H H' a l.length cap C w ld ob al (waitT C m x th) (outT m x out)) ?_ ?_
  · have k7 := (kp 7 (by decide)).trans g7
    have k15 := (kp 15 (by decide)).trans g15
    simp (disch := (first | (simp only [yk,seval]; done) | omega | (simp only [yz] <;> omega) | fail)) only [↓yp,yq0,yq1,yq2,yq3,yq4,yl,ys0,ys1,seval,zed,zee,zfr,zhw,ysu,yrg,g16]
    refine ⟨fun hD => ?_, fun hD => ?_⟩
    · have hm2 : m < 240 := of_decide_eq_true hD
      have hD' : waitT C m x th = th.set (ix C (m + 1) x) true := by unfold waitT; rw [hD]; rfl
      have hix3 := ix_lt hC (k := m + 1) (y := x) ⟨by omega, by omega⟩ ⟨by omega, by omega⟩
      have w5 : w64 (m + 1) = m + 1 := w64_of (by omega)
      have w6 : w64 ((m + 1) * C) = (m + 1) * C := w64_of (by omega)
      have w7 : w64 ((m + 1) * C + x) = (m + 1) * C + x := w64_of (by omega)
      have hfit3 : decide (((m + 1) * C + x).toNat + 1 ≤ (241 * C).toNat) = true := by simp; omega
      have nb3 : List.take ((m + 1) * C + x).toNat (bv th) ++ [.bool true] ++ List.drop (((m + 1) * C + x).toNat + 1) (bv th) = bv (th.set (ix C (m + 1) x) true) := newC_bv (by omega)
      simp (disch := (first | (simp only [yk,seval]; done) | omega | (simp only [yz] <;> omega) | fail)) only [↓yp,yq0,yq1,yq2,yq3,yq4,yl,ys0,ys1,seval,zed,zee,zfr,zhw,ysu,yrg,g17,g16,k7,k15,j7,jt,w5,w6,w7,A_indexSlice st_esS_132,bv_len,tl,one_bv,hfit3,nb3]
      refine ⟨?_, ?_, by (with_reducible (repeat (first | refine Keep.put ?_ (by decide) | refine Keep.none ?_ | assumption | exact Keep.refl _ _ _))), ?_⟩
      · simp (disch := (first | (simp only [yk,seval]; done) | omega | (simp only [yz] <;> omega) | fail)) only [yg,Nat.reduceAdd,Nat.reduceEqDiff,Nat.reduceLT,g17]
      · simp (disch := (first | (simp only [yk,seval]; done) | omega | (simp only [yz] <;> omega) | fail)) only [yg,Nat.reduceAdd,Nat.reduceEqDiff,Nat.reduceLT,g16]
      · rw [hD']; exact J.th f0s hobs _
    · have hD' : waitT C m x th = th := by unfold waitT; rw [hD]; rfl
      simp (disch := (first | (simp only [yk,seval]; done) | omega | (simp only [yz] <;> omega) | fail)) only [↓yp,yq0,yq1,yq2,yq3,yq4,yl,ys0,ys1,seval,zed,zee,zfr,zhw,ysu,yrg]
      refine ⟨?_, ?_, by (with_reducible (repeat (first | refine Keep.put ?_ (by decide) | refine Keep.none ?_ | assumption | exact Keep.refl _ _ _))), ?_⟩
      · simp (disch := (first | (simp only [yk,seval]; done) | omega | (simp only [yz] <;> omega) | fail)) only [yg,Nat.reduceAdd,Nat.reduceEqDiff,Nat.reduceLT,g17]
      · simp (disch := (first | (simp only [yk,seval]; done) | omega | (simp only [yz] <;> omega) | fail)) only [yg,Nat.reduceAdd,Nat.reduceEqDiff,Nat.reduceLT,g16]
      · rw [hD']; exact J
  clear g17 g16 kp sz J j7 jt
  rintro e5 H6 ⟨g17, g16, kp, J⟩
  have S := LS.init g ⟨ham, by omega, hm'⟩ ⟨hx0, hx'⟩ R hT'
  have sz := J.sz
  simp (disch := (first | (simp only [yk,seval]; done) | omega | (simp only [yz] <;> omega) | fail)) only [↓yp,yq0,yq1,yq2,yq3,yq4,yl,ys0,ys1,seval,zed,zee,zfr,zhw,ysu,yrg]
  refine W_while (n := 134) 900 (fun k e H' => ∃ (i : Nat) (th' : List Bool), k = l.length - i ∧ i ≤ l.length ∧ gt 134 e 18 = .int .i64 (i : Nat) ∧ gt 134 e 17 = .int .i64 x ∧ gt 134 e 16 = .int .i64 m ∧ Keep 134 [3, 5, 6, 7, 8, 15] e0 e ∧ SH H₀ H H' a l.length cap C w ld ob al th' (outT m x out) ∧ LS l C w ld fr a₀ m x (waitT C m x th) (2 * i) th')
    ?_ 18 l.length ⟨0, _, by omega, by omega, by simp (disch := (first | (simp only [yk,seval]; done) | omega | (simp only [yz] <;> omega) | fail)) only [yg,Nat.reduceAdd,Nat.reduceEqDiff,Nat.reduceLT]; rfl, by simp (disch := (first | (simp only [yk,seval]; done) | omega | (simp only [yz] <;> omega) | fail)) only [yg,Nat.reduceAdd,Nat.reduceEqDiff,Nat.reduceLT,g17], by simp (disch := (first | (simp only [yk,seval]; done) | omega | (simp only [yz] <;> omega) | fail)) only [yg,Nat.reduceAdd,Nat.reduceEqDiff,Nat.reduceLT,g16], by (with_reducible (repeat (first | refine Keep.put ?_ (by decide) | refine Keep.none ?_ | assumption | exact Keep.refl _ _ _))), J, S⟩ (by omega) (by omega)
  clear g17 g16 kp sz J S
  rintro M3 k3 e6 H7 ⟨i, th', rfl, hi, g18, g17, g16, kp, J, S⟩
  have sz := J.sz
  have j7 := J.b7
  have k7 := (kp 7 (by decide)).trans g7
  simp (disch := (first | (simp only [yk,seval]; done) | omega | (simp only [yz] <;> omega) | fail)) only [↓yp,yq0,yq1,yq2,yq3,yq4,yl,ys0,ys1,seval,zed,zee,zfr,zhw,ysu,yrg,g18,k7,j7,lenV_slice ziq]
  refine ⟨fun hE => ?_, fun hE => ?_⟩
  rotate_left
  · have : i = l.length := by simp at hE; omega
    subst this
    simp (disch := (first | (simp only [yk,seval]; done) | omega | (simp only [yz] <;> omega) | fail)) only [↓yp,yq0,yq1,yq2,yq3,yq4,yl,ys0,ys1,seval,zed,zee,zfr,zhw,ysu,yrg,g17,hw4]
    refine ⟨(C - (x + 1)).toNat, by omega, x + 1, th', outT m x out, rfl, by omega, by omega, ?_, ?_, by (with_reducible (repeat (first | refine Keep.put ?_ (by decide) | refine Keep.none ?_ | assumption | exact Keep.refl _ _ _))), J, R.next g ha.1 ⟨ham, by omega, hm'⟩ ⟨hx0, hx'⟩ hT' S hfr ha.2⟩
    · simp (disch := (first | (simp only [yk,seval]; done) | omega | (simp only [yz] <;> omega) | fail)) only [yg,Nat.reduceAdd,Nat.reduceEqDiff,Nat.reduceLT]
    · simp (disch := (first | (simp only [yk,seval]; done) | omega | (simp only [yz] <;> omega) | fail)) only [yg,Nat.reduceAdd,Nat.reduceEqDiff,Nat.reduceLT,g16]
  have hi' : i < l.length := by simpa using hE
  obtain ⟨s, his⟩ : ∃ s, l[i]? = some s := ⟨l[i], by simp [hi']⟩
  have hmem := List.mem_of_getElem? his
  have hwi : w64 ((i : Int) + 1) = ((i + 1 : Nat) : Int) := by rw [w64_of (by omega)]; omega
  simp (disch := (first | (simp only [yk,seval]; done) | omega | (simp only [yz] <;> omega) | fail)) only [↓yp,yq0,yq1,yq2,yq3,yq4,yl,ys0,ys1,seval,zed,zee,zfr,zhw,ysu,yrg]
  refine W_while (n := 134) 600 (fun k e H' => ∃ (j : Nat) (th' : List Bool), k = 2 - j ∧ j ≤ 2 ∧ gt 134 e 19 = .int .i64 (j : Nat) ∧ gt 134 e 18 = .int .i64 (i : Nat) ∧ gt 134 e 17 = .int .i64 x ∧ gt 134 e 16 = .int .i64 m ∧ Keep 134 [3, 5, 6, 7, 8, 15] e0 e ∧ SH H₀ H H' a l.length cap C w ld ob al th' (outT m x out) ∧ LS l C w ld fr a₀ m x (waitT C m x th) (2 * i + j) th')
    ?_ 2 2 ⟨0, th', by omega, by omega, by simp (disch := (first | (simp only [yk,seval]; done) | omega | (simp only [yz] <;> omega) | fail)) only [yg,Nat.reduceAdd,Nat.reduceEqDiff,Nat.reduceLT]; rfl, by simp (disch := (first | (simp only [yk,seval]; done) | omega | (simp only [yz] <;> omega) | fail)) only [yg,Nat.reduceAdd,Nat.reduceEqDiff,Nat.reduceLT,g18], by simp (disch := (first | (simp only [yk,seval]; done) | omega | (simp only [yz] <;> omega) | fail)) only [yg,Nat.reduceAdd,Nat.reduceEqDiff,Nat.reduceLT,g17], by simp (disch := (first | (simp only [yk,seval]; done) | omega | (simp only [yz] <;> omega) | fail)) only [yg,Nat.reduceAdd,Nat.reduceEqDiff,Nat.reduceLT,g16], by (with_reducible (repeat (first | refine Keep.put ?_ (by decide) | refine Keep.none ?_ | assumption | exact Keep.refl _ _ _))), J, S⟩ (by omega) (by omega)
  clear g18 g17 g16 kp sz j7 k7 J S th'
  rintro M4 k4 e7 H8 ⟨j, th', rfl, hj, g19, g18, g17, g16, kp, J, S⟩
  have sz := J.sz
  simp (disch := (first | (simp only [yk,seval]; done) | omega | (simp only [yz] <;> omega) | fail)) only [↓yp,yq0,yq1,yq2,yq3,yq4,yl,ys0,ys1,seval,zed,zee,zfr,zhw,ysu,yrg,g19]
  refine ⟨fun hF => ?_, fun hF => ?_⟩
  rotate_left
  · have : j = 2 := by simp at hF; omega
    subst this
    simp (disch := (first | (simp only [yk,seval]; done) | omega | (simp only [yz] <;> omega) | fail)) only [↓yp,yq0,yq1,yq2,yq3,yq4,yl,ys0,ys1,seval,zed,zee,zfr,zhw,ysu,yrg,g18,hwi]
    refine ⟨l.length - (i + 1), by omega, i + 1, th', rfl, by omega, ?_, ?_, ?_, by (with_reducible (repeat (first | refine Keep.put ?_ (by decide) | refine Keep.none ?_ | assumption | exact Keep.refl _ _ _))), J, S⟩
    · simp (disch := (first | (simp only [yk,seval]; done) | omega | (simp only [yz] <;> omega) | fail)) only [yg,Nat.reduceAdd,Nat.reduceEqDiff,Nat.reduceLT]
    · simp (disch := (first | (simp only [yk,seval]; done) | omega | (simp only [yz] <;> omega) | fail)) only [yg,Nat.reduceAdd,Nat.reduceEqDiff,Nat.reduceLT,g17]
    · simp (disch := (first | (simp only [yk,seval]; done) | omega | (simp only [yz] <;> omega) | fail)) only [yg,Nat.reduceAdd,Nat.reduceEqDiff,Nat.reduceLT,g16]
  have hj' : j < 2 := by simp at hF; omega
  have hcan := R.snd m x ⟨hm00, hm'⟩ ⟨hx0, hx'⟩ hT'
  refine W_skipI (by omega) ?_
  refine W_gen (fun e H' => gt 134 e 19 = .int .i64 (j : Nat) ∧ gt 134 e 18 = .int .i64 (i : Nat) ∧ gt 134 e 17 = .int .i64 x ∧ gt 134 e 16 = .int .i64 m ∧ Keep 134 [3, 5, 6, 7, 8, 15] e0 e ∧ H' = H8) ⟨?_, ?_, ?_, ?_, by (with_reducible (repeat (first | refine Keep.put ?_ (by decide) | refine Keep.none ?_ | assumption | exact Keep.refl _ _ _))), rfl⟩ ?_
  · simp (disch := (first | (simp only [yk,seval]; done) | omega | (simp only [yz] <;> omega) | fail)) only [yg,Nat.reduceAdd,Nat.reduceEqDiff,Nat.reduceLT,g19]
  · simp (disch := (first | (simp only [yk,seval]; done) | omega | (simp only [yz] <;> omega) | fail)) only [yg,Nat.reduceAdd,Nat.reduceEqDiff,Nat.reduceLT,g18]
  · simp (disch := (first | (simp only [yk,seval]; done) | omega | (simp only [yz] <;> omega) | fail)) only [yg,Nat.reduceAdd,Nat.reduceEqDiff,Nat.reduceLT,g17]
  · simp (disch := (first | (simp only [yk,seval]; done) | omega | (simp only [yz] <;> omega) | fail)) only [yg,Nat.reduceAdd,Nat.reduceEqDiff,Nat.reduceLT,g16]
  clear g19 g18 g17 g16 kp
  rintro e7 H8 ⟨g19, g18, g17, g16, kp, rfl⟩
  refine W_end (c87leg f0s hs g hobs hm00 hm' hcan his hj' ((kp 5 (by decide)).trans g5) ((kp 7 (by decide)).trans g7) ((kp 8 (by decide)).trans g8) ((kp 15 (by decide)).trans g15) g16 g17 g18 g19 J S hLH) ?_
  rintro e' H' ⟨th'', h1, h2, h3, h4, h5, h6, h7⟩
  exact ⟨rfl, rfl, 2 - (j + 1), by omega, j + 1, th'', rfl, by omega, h1, h2, h3, h4, kp.trans h5, h6, h7⟩
end
end Go.Am
/- The reference's Minutes. -/
namespace Go.Am
open Go.Proofs
variable {T : Tab} {P : Program} {N L : Nat} {H : AHeap} {Q : Bool → Value → AHeap → Prop}

theorem tv_more (i : Nat) : tv (List.replicate i (-1)) ++ [.int .i64 (-1)] = tv (List.replicate (i + 1) (-1)) := by
  unfold tv
  rw [List.replicate_succ', List.map_append]; rfl
section
variable {l : List Str} {C w ld fr a₀ : Int} {a : Option Addr} {cap : Nat}
set_option maxHeartbeats 1000000 in
theorem c31 (hs : Sl H a l) (hl : l.length ≤ 18) (g : Good C l ld) (hfr : 0 ≤ fr ∧ fr < C) (ha : 0 ≤ a₀ ∧ a₀ ≤ 240) (hL : L ≤ H.size) {M : Nat} (hM : 4000 ≤ M)
    (hq : ∀ k cap' H', Fr H H' → H.size ≤ k → k < H'.size → (∃ al, H'.get k = .rw (tv ((earT C l w ld fr a₀).take C.toNat)) 3 true al) → Q false (.slice (some ⟨k, 0, none⟩) C.toNat cap') H') :
    resK (acall tabA (aexec tabA Try.prog M) 31 [.agg ⟨[.int .i64 C, .slice a l.length cap]⟩, .agg ⟨[.int .i64 w, .int .i64 ld]⟩, .int .i64 fr, .int .i64 a₀, .int .i64 (-1)] H) L Q := by
  obtain ⟨N, rfl⟩ : ∃ N, M = N + 4000 := ⟨M - 4000, by omega⟩
  refine call_fls (R := fun v H' => ∃ k cap', v = .slice (some ⟨k, 0, none⟩) C.toNat cap' ∧ Fr H H' ∧ H.size ≤ k ∧ k < H'.size ∧ ∃ al, H'.get k = .rw (tv ((earT C l w ld fr a₀).take C.toNat)) 3 true al) (k := 30) (rs := [.tmp 10]) rfl fn_31 rfl rfl rfl hL ?_ ?_ ?_
  rotate_left
  · rintro v H' ⟨k, cap', rfl, -⟩; rfl
  · rintro v H' ⟨k, cap', rfl, h1, h2, h3, h4⟩
    exact hq _ _ _ h1 h2 h3 h4
  have hC := g.hC
  simp (disch := (first | (simp only [yk,seval]; done) | omega | (simp only [yz] <;> omega) | fail)) only [↓yp,yq0,yq1,yq2,yq3,yq4,yl,ys0,ys1,seval,zed,zee,zfr,zhw,ysu,yrg]
  refine W_while (n := 30) 60 (fun k e H' => ∃ (i : Nat) (ga : Option Addr) (gc : Nat), k = C.toNat - i ∧ i ≤ C.toNat ∧ gt 30 e 12 = .int .i64 (i : Nat) ∧ gt 30 e 11 = .slice ga i gc ∧ gt 30 e 5 = .pointer (some ⟨H.size, 0, none⟩) ∧ gt 30 e 6 = .pointer (some ⟨H.size + 1, 0, none⟩) ∧ gt 30 e 2 = .int .i64 fr ∧ gt 30 e 3 = .int .i64 a₀ ∧ gt 30 e 4 = .int .i64 (-1) ∧
      Fr ((H.alloc (.rw [.int .i64 C, .slice a l.length cap] 34 false [])).alloc (.rw [.int .i64 w, .int .i64 ld] 50 false [])) H' ∧ Grow H' (H.size + 1) (.slice ga i gc) i (tv (List.replicate i (-1))) 3 1)
    ?_ 8 C.toNat ⟨0, none, 0, by omega, by omega, by simp (disch := (first | (simp only [yk,seval]; done) | omega | (simp only [yz] <;> omega) | fail)) only [yg,Nat.reduceAdd,Nat.reduceEqDiff,Nat.reduceLT]; rfl, by simp (disch := (first | (simp only [yk,seval]; done) | omega | (simp only [yz] <;> omega) | fail)) only [yg,Nat.reduceAdd,Nat.reduceEqDiff,Nat.reduceLT], by simp (disch := (first | (simp only [yk,seval]; done) | omega | (simp only [yz] <;> omega) | fail)) only [yg,Nat.reduceAdd,Nat.reduceEqDiff,Nat.reduceLT], by simp (disch := (first | (simp only [yk,seval]; done) | omega | (simp only [yz] <;> omega) | fail)) only [yg,Nat.reduceAdd,Nat.reduceEqDiff,Nat.reduceLT], by simp (disch := (first | (simp only [yk,seval]; done) | omega | (simp only [yz] <;> omega) | fail)) only [yg,Nat.reduceAdd,Nat.reduceEqDiff,Nat.reduceLT], by simp (disch := (first | (simp only [yk,seval]; done) | omega | (simp only [yz] <;> omega) | fail)) only [yg,Nat.reduceAdd,Nat.reduceEqDiff,Nat.reduceLT], by simp (disch := (first | (simp only [yk,seval]; done) | omega | (simp only [yz] <;> omega) | fail)) only [yg,Nat.reduceAdd,Nat.reduceEqDiff,Nat.reduceLT], Fr.refl _, ⟨fun _ => rfl, fun h => absurd rfl h⟩⟩ (by omega) (by omega)
  rintro M1 k1 e H' ⟨i, ga, gc, rfl, hi, g12, g11, g5, g6, g2, g3, g4, fr', gw⟩
  have f0 := fr'.size
  simp only [zde] at f0
  have fs := fr'.same
  simp (disch := (first | (simp only [yk,seval]; done) | omega | (simp only [yz] <;> omega) | fail)) only [↓yp,yq0,yq1,yq2,yq3,yq4,yl,ys0,ys1,seval,zed,zee,zfr,zhw,ysu,yrg,g12,g5,fs]
  refine ⟨fun hA => ?_, fun hA => ?_⟩
  · have hi' : (i : Int) < C := by simpa using hA
    have hw2 : w64 ((i : Int) + 1) = ((i + 1 : Nat) : Int) := by rw [w64_of (by omega)]; omega
    simp (disch := (first | (simp only [yk,seval]; done) | omega | (simp only [yz] <;> omega) | fail)) only [↓yp,yq0,yq1,yq2,yq3,yq4,yl,ys0,ys1,seval,zed,zee,zfr,zhw,ysu,yrg,g11,A_buildSlice st_brS_52_1]
    refine grow_append (i := i) (cs := tv (List.replicate i (-1))) (news := [.int .i64 (-1)]) st_apS_52 (gw.fr (by (repeat (first | exact Fr.refl _ | assumption | refine Fr.allocd ?_ _ | refine Fr.kill ?_ (by first | assumption | omega) | refine Fr.put ?_ (by first | omega | (simp only [yz] <;> omega)) _)))) (by (first | omega | (simp only [yz] <;> omega))) (by rw [tv_len, List.length_replicate, Nat.mul_one]) (by unfold srcCells; simp (disch := (first | (simp only [yk,seval]; done) | omega | (simp only [yz] <;> omega) | fail)) only [yg,Nat.reduceAdd,Nat.reduceEqDiff,Nat.reduceLT]; rfl) (by omega) (by omega) rfl (by omega) ?_
    intro a' c' H₂ fu gw'
    have u0 := fu.size
    have us := fu.same
    simp only [zde,zdf] at u0
    simp (disch := (first | (simp only [yk,seval]; done) | omega | (simp only [yz] <;> omega) | fail)) only [↓yp,yq0,yq1,yq2,yq3,yq4,yl,ys0,ys1,seval,zed,zee,zfr,zhw,ysu,yrg,g12,hw2]
    refine ⟨C.toNat - (i + 1), by omega, i + 1, a', c', rfl, by omega, ?_, ?_, ?_, ?_, ?_, ?_, ?_, ?_, ?_⟩
    · simp (disch := (first | (simp only [yk,seval]; done) | omega | (simp only [yz] <;> omega) | fail)) only [yg,Nat.reduceAdd,Nat.reduceEqDiff,Nat.reduceLT]
    · simp (disch := (first | (simp only [yk,seval]; done) | omega | (simp only [yz] <;> omega) | fail)) only [yg,Nat.reduceAdd,Nat.reduceEqDiff,Nat.reduceLT]
    · simp (disch := (first | (simp only [yk,seval]; done) | omega | (simp only [yz] <;> omega) | fail)) only [yg,Nat.reduceAdd,Nat.reduceEqDiff,Nat.reduceLT,g5]
    · simp (disch := (first | (simp only [yk,seval]; done) | omega | (simp only [yz] <;> omega) | fail)) only [yg,Nat.reduceAdd,Nat.reduceEqDiff,Nat.reduceLT,g6]
    · simp (disch := (first | (simp only [yk,seval]; done) | omega | (simp only [yz] <;> omega) | fail)) only [yg,Nat.reduceAdd,Nat.reduceEqDiff,Nat.reduceLT,g2]
    · simp (disch := (first | (simp only [yk,seval]; done) | omega | (simp only [yz] <;> omega) | fail)) only [yg,Nat.reduceAdd,Nat.reduceEqDiff,Nat.reduceLT,g3]
    · simp (disch := (first | (simp only [yk,seval]; done) | omega | (simp only [yz] <;> omega) | fail)) only [yg,Nat.reduceAdd,Nat.reduceEqDiff,Nat.reduceLT,g4]
    · refine Fr.part (H₁ := _) ?_ fu (by (first | omega | (simp only [yz] <;> omega)))
      (repeat (first | exact Fr.refl _ | assumption | refine Fr.allocd ?_ _ | refine Fr.kill ?_ (by first | assumption | omega) | refine Fr.put ?_ (by first | omega | (simp only [yz] <;> omega)) _))
    · rw [← tv_more]; exact gw'
  · have : i = C.toNat := by simp at hA; omega
    subst this
    obtain ⟨ob, al, hv, k1, k2, k3, k4⟩ := gw.cons (by omega)
    obtain ⟨rfl, hgc⟩ : ga = some ⟨ob, 0, none⟩ ∧ gc = OPEN + 1 := by
      cases hv; exact ⟨rfl, rfl⟩
    have frH : Fr H H' := Fr.trans (by (repeat (first | exact Fr.refl _ | assumption | refine Fr.allocd ?_ _ | refine Fr.kill ?_ (by first | assumption | omega) | refine Fr.put ?_ (by first | omega | (simp only [yz] <;> omega)) _))) fr'
    simp (disch := (first | (simp only [yk,seval]; done) | omega | (simp only [yz] <;> omega) | fail)) only [↓yp,yq0,yq1,yq2,yq3,yq4,yl,ys0,ys1,seval,zed,zee,zfr,zhw,ysu,yrg,g11,g5,g6,g2,g3,g4,fs]
    refine c87 (H₀ := H) frH hs hl g hfr ha k3 (by omega) (fun j hj => by have := k4 j hj; omega) (by omega) (by omega) ?_
    intro q v H'' fr2 sz2 old hx
    obtain ⟨al', -, hx⟩ := hx
    simp (disch := (first | (simp only [yk,seval]; done) | omega | (simp only [yz] <;> omega) | fail)) only [↓yp,yq0,yq1,yq2,yq3,yq4,yl,ys0,ys1,seval,zed,zee,zfr,zhw,ysu,yrg,g11]
    exact ⟨ob, gc, rfl, fr2, by omega, by omega, al', hx⟩
end
end Go.Am
/- The reference's Latest. -/
namespace Go.Am
open Go.Proofs
variable {T : Tab} {P : Program} {N L : Nat} {H : AHeap} {Q : Bool → Value → AHeap → Prop}

section
variable {H H' H'' : AHeap} {a : Option Addr} {n cap tb ob : Nat} {C w ld : Int} {al al' : List Nat} {it : List Bool} {out : List Int}
end
section
variable {l : List Str} {C w ld to bm : Int} {a : Option Addr} {cap : Nat}
end
end Go.Am
/- Rows of numbers that are alike; what the law StreetMinutes lays. -/
namespace Go.Am
open Go.Proofs
variable {T : Tab} {P : Program} {N L : Nat} {H : AHeap} {Q : Bool → Value → AHeap → Prop}

theorem asked_of {C w ld : Int} {l : List Str} {cs ss ms : List Int} (hc : chk C l = 0) (hw : off w 1 9 = false) (hd : off ld 0 9 = false) (h1 : ∀ n ∈ cs, 0 ≤ n ∧ n ≤ C - 1) (h2 : ∀ n ∈ ss, 0 ≤ n ∧ n ≤ (l.length : Int) - 1) (h3 : ∀ n ∈ ms, 0 ≤ n ∧ n ≤ 240) : asked C l w ld cs ss ms = 0 := by
  have key : ∀ {l : List Int} {x y : Int}, (∀ n ∈ l, x ≤ n ∧ n ≤ y) → (l.any fun n => off n x y) = false := fun {l x y} h => by
    rw [List.any_eq_false]
    intro n hn
    rw [off_iff.2 (h n hn)]; simp
  unfold asked
  rw [if_neg (by simpa using hc), hw, hd, key h1, key h2, key h3]
  simp
section
variable {a a1 a2 : Option Addr} {cap cap1 cap2 : Nat} {l : List Str} {C w ld fr to m bm : Int} {e e' : VT} {H' H'' : AHeap}
theorem planB_hit {d : List (Option Nat)} {ops : List Oper} {env : Nat → Value} {H : AHeap} (hd : ops.map (·.dst) = d) (h1 : d ≠ [some 22, some 23, some 24, some 25, some 9, some 10, none, none]) (h2 : d ≠ [some 87, some 88, some 89, some 90, some 91, some 92, some 93, some 94, some 95, some 11]) : tabA.plan ops env H = planB d env := by
  show planA ops env H = _
  unfold planA
  rw [hd, if_neg h1, if_neg h2]
end
end Go.Am
