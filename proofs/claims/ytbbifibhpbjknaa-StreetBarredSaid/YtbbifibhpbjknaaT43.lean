/- The law StreetBarred: one law that is lifted. -/
import Derived.Test.YtbbifibhpbjknaaT42
import Derived.Test.YtbbifibhpbjknaaT38
set_option linter.unusedSimpArgs false
set_option linter.unusedVariables false
namespace Go.Am
open Go.Proofs
variable {T : Tab} {P : Program} {N L : Nat} {H : AHeap} {Q : Bool → Value → AHeap → Prop}
theorem bars_lt {p : Nat → Bool} : ∀ {k : Nat} {x : Int}, x ∈ barsL p k → 0 ≤ x ∧ x < k
  | k + 1, x, h => by
    unfold barsL at h
    rcases List.mem_append.1 h with h | h
    · have := bars_lt h; omega
    · split at h
      · simp at h; omega
      · simp at h
theorem mem_bars {p : Nat → Bool} : ∀ {k j : Nat}, j < k → (((j : Int) ∈ barsL p k) ↔ p j = true)
  | k + 1, j, hj => by
    unfold barsL
    rw [List.mem_append]
    by_cases e : j = k
    · subst e
      constructor
      · rintro (h | h)
        · have := bars_lt h; omega
        · split at h
          · assumption
          · simp at h
      · intro h
        right
        rw [if_pos h]; simp
    · rw [← mem_bars (k := k) (j := j) (by omega)]
      constructor
      · rintro (h | h)
        · exact h
        · split at h
          · simp at h; omega
          · simp at h
      · exact .inl
theorem bars_pair {p : Nat → Bool} : ∀ k, (barsL p k).Pairwise (· < ·)
  | 0 => by simp [barsL]
  | k + 1 => by
    unfold barsL
    rw [List.pairwise_append]
    refine ⟨bars_pair k, by split <;> simp, fun x hx y hy => ?_⟩
    have := bars_lt hx
    split at hy
    · simp at hy; omega
    · simp at hy
theorem bars_next {p : Nat → Bool} {k i : Nat} {x y : Int} (hx : (barsL p k)[i]? = some x) (hy : (barsL p k)[i + 1]? = some y) : x < y := by
  obtain ⟨h1, rfl⟩ := List.getElem?_eq_some_iff.1 hx
  obtain ⟨h2, rfl⟩ := List.getElem?_eq_some_iff.1 hy
  exact List.pairwise_iff_getElem.1 (bars_pair k) i (i + 1) h1 h2 (by omega)
/-- The first streets without a law. -/
def halfL (lf : Int) (l : List Str) (i : Nat) : List Str := (l.take i).map (lift lf) ++ l.drop i
theorem halfL_zero {lf : Int} {l : List Str} : halfL lf l 0 = l := by simp [halfL]
theorem halfL_all {lf : Int} {l : List Str} : halfL lf l l.length = l.map (lift lf) := by simp [halfL]
theorem halfL_get {lf : Int} {l : List Str} {i : Nat} {s : Str} (h : l[i]? = some s) : (halfL lf l i)[i]? = some s := by
  have hlt := (List.getElem?_eq_some_iff.1 h).1
  unfold halfL
  rw [List.getElem?_append_right (by rw [List.length_map, List.length_take]; omega), List.getElem?_drop, List.length_map, List.length_take, show i + (i - min i l.length) = i by omega]
  exact h
theorem halfL_set {lf : Int} {l : List Str} {i : Nat} {s : Str} (h : l[i]? = some s) : (halfL lf l i).set i (lift lf s) = halfL lf l (i + 1) := by
  have hlt := (List.getElem?_eq_some_iff.1 h).1
  have hd : l.drop i = s :: l.drop (i + 1) := by
    have := List.drop_eq_getElem_cons hlt
    rw [this]
    congr 1
    rw [List.getElem?_eq_getElem hlt] at h
    exact Option.some.inj h
  have ht : l.take (i + 1) = l.take i ++ [s] := by rw [List.take_add_one, h]; rfl
  unfold halfL
  rw [hd, List.set_append_right _ _ (by rw [List.length_map, List.length_take]; omega), List.length_map, List.length_take, show i - min i l.length = 0 by omega, List.set_cons_zero, ht, List.map_append, List.append_assoc]
  rfl
section
variable {l : List Str} {C w ld fr to m : Int} {i8 i9 cb : Nat} {a' ab : Option Addr} {cap' : Nat} {H' : AHeap} {e : VT} {bars : List Int}
/-- What the law knows after the laws are asked for. -/
structure BS (H : AHeap) (C w ld : Int) (l : List Str) (i8 i9 : Nat) (a' : Option Addr) (cap' : Nat) (fr to m : Int) (bars : List Int) (ab : Option Addr) (cb : Nat) (e : VT) (H' : AHeap) : Prop where
  p : LP 151 H C w ld l i8 i9 a' cap' e H'
  g10 : gt 151 e 10 = .int .i64 fr
  g11 : gt 151 e 11 = .int .i64 to
  g12 : gt 151 e 12 = .int .i64 m
  g13 : gt 151 e 13 = .slice ab bars.length cb
  il : Il H' ab bars
theorem Il.fr' {H H' : AHeap} {a : Option Addr} {l : List Int} (h : Il H a l) (f : Fr H H') : Il H' a l := h.fr f
theorem BS.next {e' : VT} {H'' : AHeap} (I : BS H C w ld l i8 i9 a' cap' fr to m bars ab cb e H') (f : Fr H' H'') (h : Keep 151 [8, 9, 10, 11, 12, 13] e e') : BS H C w ld l i8 i9 a' cap' fr to m bars ab cb e' H'' where
  p := I.p.next f (fun p hp => h p (by simp at hp ⊢; omega))
  g10 := (h 10 (by simp)).trans I.g10
  g11 := (h 11 (by simp)).trans I.g11
  g12 := (h 12 (by simp)).trans I.g12
  g13 := (h 13 (by simp)).trans I.g13
  il := I.il.fr f
structure BX (C w ld : Int) (l : List Str) (fr to m : Int) : Prop where
  hC : 2 ≤ C ∧ C ≤ 8
  hl : l.length ≤ 16
  ho : ∀ s ∈ l, OkS C s
  hw : 1 ≤ w ∧ w ≤ 5
  hd : 0 ≤ ld ∧ ld ≤ 5
  hfr : 0 ≤ fr ∧ fr < C
  hto : 0 ≤ to ∧ to < C
  hm : 0 ≤ m ∧ m ≤ 240
set_option maxHeartbeats 4000000 in
set_option maxRecDepth 10000 in
theorem c12r {j : Nat} (I : BS H C w ld l i8 i9 a' cap' fr to m bars ab cb e H') (X : BX C w ld l fr to m) (hb : bars = barsL (freeP C l w ld fr to m) 4) (hj : j < 4) (g16 : gt 151 e 16 = .int .i64 (j : Nat)) :
    W tabA Try.prog (N + 6500) none (sub [true, true, true, true, true, true, true, true, true, true, false, true, false, false, true, false, false] (bodyOf Try.f12)) H.size ⟨151, e, H', []⟩ (endK 151 [] fun e' H'' => BS H C w ld l i8 i9 a' cap' fr to m bars ab cb e' H'' ∧ gt 151 e' 16 = .int .i64 (j : Nat)) := by
  have sz := I.p.fr.size
  have hl := X.hl
  have hC := X.hC
  have hw := X.hw
  have hd := X.hd
  have hfr := X.hfr
  have hto := X.hto
  have hm := X.hm
  simp only [Try.f12,bodyOf,sub_nil,sub_seq0,sub_seq1,sub_block,sub_loop,sub_cond0,sub_cond1]
  refine W_seqI (fun e' H'' => Keep 151 [8, 9, 10, 11, 12, 13, 16] e e' ∧ ∃ kt ax cx, gt 151 e' 17 = .pointer (some ⟨kt, 0, none⟩) ∧ Fr H' H'' ∧ H'.size ≤ kt ∧ kt < H''.size ∧ H''.get kt = .rw [.int .i64 C, .slice ax l.length cx] 24 false [] ∧ Sl H'' ax l ∧ (l ≠ [] → ∃ kb, ax = some ⟨kb, 0, none⟩ ∧ kb ≠ kt ∧ H'.size ≤ kb ∧ kb < H''.size ∧ H''.get kb = .rw (flat l) 45 true [])) ?_ ?_
  · have g8 := I.p.g8
    have b8 := I.p.b8
    by_cases hne : l = []
    · have h19 := fun (N : Nat) => c19n (N := N) (H := H') (a := a') (cap := cap') (C := C)
      have hl0 : l.length = 0 := by rw [hne]; rfl
      rw [hl0] at b8
      simp (disch := (first | (simp only [ne_eq,Nat.reduceEqDiff,not_false_eq_true,Nat.reduceLT]; done) | omega | (simp only [yz] <;> omega) | fail)) only [↓yp,yq0,yq1,yq2,yq3,yq4,yl,ys0,ys1,Nat.reduceAdd,Nat.reduceMul,Nat.reduceSub,Nat.reduceBEq,Nat.reduceEqDiff,Nat.reduceLT,Nat.reduceLeDiff,reduceIte,Int.reduceAdd,Int.reduceSub,Int.reduceMul,Int.reduceLT,Int.reduceLE,Int.reduceEq,Int.reduceToNat,Int.reduceNeg,zed,zee,zfr,zhw,ysu,yrg,ysv,ysw,ysx,ysz,g8,b8,h19]
      refine ⟨by (with_reducible (repeat (first | refine Keep.put ?_ (by decide) | refine Keep.none ?_ | assumption | exact Keep.refl _ _ _))), H'.size, none, 0, ?_, by (repeat (first | exact Fr.refl _ | assumption | refine Fr.allocd ?_ _ | refine Fr.kill ?_ (by first | assumption | omega) | refine Fr.put ?_ (by first | omega | (simp only [yz] <;> omega)) _)), Nat.le_refl _, by (first | omega | (simp only [yz] <;> omega)), by rw [hl0]; exact zdc (by (first | omega | (simp only [yz] <;> omega))), ?_, fun h => absurd hne h⟩
      · simp (disch := (first | (simp only [ne_eq,Nat.reduceEqDiff,not_false_eq_true,Nat.reduceLT]; done) | omega | (simp only [yz] <;> omega) | fail)) only [yg,Nat.reduceAdd,Nat.reduceEqDiff,Nat.reduceLT]
      · rw [hne]
        exact ⟨fun h => absurd rfl h, fun _ _ _ _ h => absurd rfl h⟩
    · simp (disch := (first | (simp only [ne_eq,Nat.reduceEqDiff,not_false_eq_true,Nat.reduceLT]; done) | omega | (simp only [yz] <;> omega) | fail)) only [↓yp,yq0,yq1,yq2,yq3,yq4,yl,ys0,ys1,Nat.reduceAdd,Nat.reduceMul,Nat.reduceSub,Nat.reduceBEq,Nat.reduceEqDiff,Nat.reduceLT,Nat.reduceLeDiff,reduceIte,Int.reduceAdd,Int.reduceSub,Int.reduceMul,Int.reduceLT,Int.reduceLE,Int.reduceEq,Int.reduceToNat,Int.reduceNeg,zed,zee,zfr,zhw,ysu,yrg,ysv,ysw,ysx,ysz,g8,b8]
      refine c19g I.p.sl (by omega) hne (by omega) (by omega) ?_
      intro kb H3 f1 q1 q2 q3
      have sz3 := f1.size
      simp (disch := (first | (simp only [ne_eq,Nat.reduceEqDiff,not_false_eq_true,Nat.reduceLT]; done) | omega | (simp only [yz] <;> omega) | fail)) only [↓yp,yq0,yq1,yq2,yq3,yq4,yl,ys0,ys1,Nat.reduceAdd,Nat.reduceMul,Nat.reduceSub,Nat.reduceBEq,Nat.reduceEqDiff,Nat.reduceLT,Nat.reduceLeDiff,reduceIte,Int.reduceAdd,Int.reduceSub,Int.reduceMul,Int.reduceLT,Int.reduceLE,Int.reduceEq,Int.reduceToNat,Int.reduceNeg,zed,zee,zfr,zhw,ysu,yrg,ysv,ysw,ysx,ysz]
      have hkb : ((H3.alloc (.rw [.int .i64 0, .slice none 0 0] 24 false [])).put H3.size (.rw [.int .i64 C, .slice (some ⟨kb, 0, none⟩) l.length (OPEN + 9)] 24 false [])).get kb = .rw (flat l) 45 true [] := by
        rw [zdd (by omega), zdb (by omega)]; exact q3
      refine ⟨by (with_reducible (repeat (first | refine Keep.put ?_ (by decide) | refine Keep.none ?_ | assumption | exact Keep.refl _ _ _))), H3.size, some ⟨kb, 0, none⟩, OPEN + 9, ?_, Fr.put (Fr.allocd f1 _) (by omega) _, by omega, by (first | omega | (simp only [yz] <;> omega)), zdc (by (first | omega | (simp only [yz] <;> omega))), sl_new hkb (by (first | omega | (simp only [yz] <;> omega))), fun _ => ⟨kb, rfl, by omega, q1, by (first | omega | (simp only [yz] <;> omega)), hkb⟩⟩
      simp (disch := (first | (simp only [ne_eq,Nat.reduceEqDiff,not_false_eq_true,Nat.reduceLT]; done) | omega | (simp only [yz] <;> omega) | fail)) only [yg,Nat.reduceAdd,Nat.reduceEqDiff,Nat.reduceLT]
  rintro e1 H1 ⟨k1, kt, ax, cx, g17, f1, q1, q2, bt, sl1, hkb⟩
  have sz1 := f1.size
  refine W_seqI (fun e' H'' => Keep 151 [8, 9, 10, 11, 12, 13, 16] e e' ∧ gt 151 e' 17 = .pointer (some ⟨kt, 0, none⟩) ∧ Fr H' H'' ∧ kt < H''.size ∧ H''.get kt = .rw [.int .i64 C, .slice ax l.length cx] 24 false [] ∧ Sl H'' ax (l.map (lift j))) ?_ ?_
  · have h16 := (k1 16 (by simp)).trans g16
    simp (disch := (first | (simp only [ne_eq,Nat.reduceEqDiff,not_false_eq_true,Nat.reduceLT]; done) | omega | (simp only [yz] <;> omega) | fail)) only [↓yp,yq0,yq1,yq2,yq3,yq4,yl,ys0,ys1,Nat.reduceAdd,Nat.reduceMul,Nat.reduceSub,Nat.reduceBEq,Nat.reduceEqDiff,Nat.reduceLT,Nat.reduceLeDiff,reduceIte,Int.reduceAdd,Int.reduceSub,Int.reduceMul,Int.reduceLT,Int.reduceLE,Int.reduceEq,Int.reduceToNat,Int.reduceNeg,zed,zee,zfr,zhw,ysu,yrg,ysv,ysw,ysx,ysz,g17,bt,lenV_slice zio]
    refine W_while (n := 151) 5000 (fun k e' H'' => ∃ i : Nat, k = l.length - i ∧ i ≤ l.length ∧ gt 151 e' 95 = .int .i64 (i : Nat) ∧ gt 151 e' 94 = .int .i64 l.length ∧ gt 151 e' 17 = .pointer (some ⟨kt, 0, none⟩) ∧ Keep 151 [8, 9, 10, 11, 12, 13, 16] e e' ∧ Fr H' H'' ∧ H''.size = H1.size ∧ H''.get kt = .rw [.int .i64 C, .slice ax l.length cx] 24 false [] ∧ (l ≠ [] → ∃ kb, ax = some ⟨kb, 0, none⟩ ∧ kb ≠ kt ∧ H'.size ≤ kb ∧ kb < H''.size ∧ H''.get kb = .rw (flat (halfL j l i)) 45 true []))
      ?_ 18 l.length ⟨0, by omega, by omega, by simp (disch := (first | (simp only [ne_eq,Nat.reduceEqDiff,not_false_eq_true,Nat.reduceLT]; done) | omega | (simp only [yz] <;> omega) | fail)) only [yg,Nat.reduceAdd,Nat.reduceEqDiff,Nat.reduceLT]; rfl, by simp (disch := (first | (simp only [ne_eq,Nat.reduceEqDiff,not_false_eq_true,Nat.reduceLT]; done) | omega | (simp only [yz] <;> omega) | fail)) only [yg,Nat.reduceAdd,Nat.reduceEqDiff,Nat.reduceLT], by simp (disch := (first | (simp only [ne_eq,Nat.reduceEqDiff,not_false_eq_true,Nat.reduceLT]; done) | omega | (simp only [yz] <;> omega) | fail)) only [yg,Nat.reduceAdd,Nat.reduceEqDiff,Nat.reduceLT,g17], by (with_reducible (repeat (first | refine Keep.put ?_ (by decide) | refine Keep.none ?_ | assumption | exact Keep.refl _ _ _))), f1, rfl, bt, fun hne => by rw [halfL_zero]; exact hkb hne⟩ (by omega) (by omega)
    rintro M k e' H'' ⟨i, rfl, hi, g95, g94, g17', kk, ff, hs, bt', hkb'⟩
    simp (disch := (first | (simp only [ne_eq,Nat.reduceEqDiff,not_false_eq_true,Nat.reduceLT]; done) | omega | (simp only [yz] <;> omega) | fail)) only [↓yp,yq0,yq1,yq2,yq3,yq4,yl,ys0,ys1,Nat.reduceAdd,Nat.reduceMul,Nat.reduceSub,Nat.reduceBEq,Nat.reduceEqDiff,Nat.reduceLT,Nat.reduceLeDiff,reduceIte,Int.reduceAdd,Int.reduceSub,Int.reduceMul,Int.reduceLT,Int.reduceLE,Int.reduceEq,Int.reduceToNat,Int.reduceNeg,zed,zee,zfr,zhw,ysu,yrg,ysv,ysw,ysx,ysz,g95,g94]
    refine ⟨fun hA => ?_, fun hA => ?_⟩
    · have hi' : i < l.length := by have := of_decide_eq_true hA; omega
      have hne : l ≠ [] := fun h => by rw [h] at hi'; simp at hi'
      obtain ⟨kb, rfl, z1, z2, z3, z4⟩ := hkb' hne
      obtain ⟨s, his⟩ : ∃ s, l[i]? = some s := ⟨l[i], by simp [hi']⟩
      have hh := halfL_get (lf := j) his
      have hset := halfL_set (lf := j) his
      have hw2 : w64 ((i : Int) + 1) = ((i + 1 : Nat) : Int) := by rw [w64_of (by omega)]; omega
      have h16' := (kk 16 (by simp)).trans g16
      have fin : ∀ e'', gt 151 e'' 95 = .int .i64 ((i + 1 : Nat) : Int) → gt 151 e'' 94 = .int .i64 l.length → gt 151 e'' 17 = .pointer (some ⟨kt, 0, none⟩) → Keep 151 [8, 9, 10, 11, 12, 13, 16] e e'' → ∃ k', k' < l.length - i ∧ ∃ q : Nat, k' = l.length - q ∧ q ≤ l.length ∧ gt 151 e'' 95 = .int .i64 (q : Nat) ∧ gt 151 e'' 94 = .int .i64 l.length ∧ gt 151 e'' 17 = .pointer (some ⟨kt, 0, none⟩) ∧ Keep 151 [8, 9, 10, 11, 12, 13, 16] e e'' ∧ Fr H' (H''.put kb (.rw (flat ((halfL j l i).set i (lift j s))) 45 true [])) ∧ (H''.put kb (.rw (flat ((halfL j l i).set i (lift j s))) 45 true [])).size = H1.size ∧ (H''.put kb (.rw (flat ((halfL j l i).set i (lift j s))) 45 true [])).get kt = .rw [.int .i64 C, .slice (some ⟨kb, 0, none⟩) l.length cx] 24 false [] ∧ (l ≠ [] → ∃ kb', (some ⟨kb, 0, none⟩ : Option Addr) = some ⟨kb', 0, none⟩ ∧ kb' ≠ kt ∧ H'.size ≤ kb' ∧ kb' < (H''.put kb (.rw (flat ((halfL j l i).set i (lift j s))) 45 true [])).size ∧ (H''.put kb (.rw (flat ((halfL j l i).set i (lift j s))) 45 true [])).get kb' = .rw (flat (halfL j l q)) 45 true []) := by
        rw [hset]
        exact fun e'' h1 h2 h3 h4 => ⟨l.length - (i + 1), by omega, i + 1, rfl, by omega, h1, h2, h3, h4, Fr.put ff z2 _, by (first | omega | (simp only [yz] <;> omega)), by rw [zdd (by omega)]; exact bt', fun _ => ⟨kb, rfl, z1, z2, by (first | omega | (simp only [yz] <;> omega)), zdc z3⟩⟩
      match j, hj with
      | 0, _ =>
        have h16' : gt 151 e' 16 = .int .i64 0 := h16'
        have e1 : ∀ (H : AHeap) (Q : Nat → AHeap → Prop), wrB (.rw (flat (halfL (0 : Nat) l i)) 45 true []) H kb (i * 9 + 6) [.bool true] Q = Q kb (H.put kb (.rw (flat ((halfL (0 : Nat) l i).set i (lift (0 : Nat) s))) 45 true [])) := fun H Q => wrB_flat (j := 6) (lift (0 : Nat) s) hh (by simp) rfl rfl
        simp (disch := (first | (simp only [ne_eq,Nat.reduceEqDiff,not_false_eq_true,Nat.reduceLT]; done) | omega | (simp only [yz] <;> omega) | fail)) only [↓yp,yq0,yq1,yq2,yq3,yq4,yl,ys0,ys1,Nat.reduceAdd,Nat.reduceMul,Nat.reduceSub,Nat.reduceBEq,Nat.reduceEqDiff,Nat.reduceLT,Nat.reduceLeDiff,reduceIte,Int.reduceAdd,Int.reduceSub,Int.reduceMul,Int.reduceLT,Int.reduceLE,Int.reduceEq,Int.reduceToNat,Int.reduceNeg,zed,zee,zfr,zhw,ysu,yrg,ysv,ysw,ysx,ysz,g95,g94,g17',h16',bt',A_indexSlice zio,A_nilCheck,nilQ_ptr,z4,e1,hw2]
        exact fin _ (by simp (disch := (first | (simp only [ne_eq,Nat.reduceEqDiff,not_false_eq_true,Nat.reduceLT]; done) | omega | (simp only [yz] <;> omega) | fail)) only [yg,Nat.reduceAdd,Nat.reduceEqDiff,Nat.reduceLT]) (by simp (disch := (first | (simp only [ne_eq,Nat.reduceEqDiff,not_false_eq_true,Nat.reduceLT]; done) | omega | (simp only [yz] <;> omega) | fail)) only [yg,Nat.reduceAdd,Nat.reduceEqDiff,Nat.reduceLT,g94]) (by simp (disch := (first | (simp only [ne_eq,Nat.reduceEqDiff,not_false_eq_true,Nat.reduceLT]; done) | omega | (simp only [yz] <;> omega) | fail)) only [yg,Nat.reduceAdd,Nat.reduceEqDiff,Nat.reduceLT,g17']) (by (with_reducible (repeat (first | refine Keep.put ?_ (by decide) | refine Keep.none ?_ | assumption | exact Keep.refl _ _ _))))
      | 1, _ =>
        have h16' : gt 151 e' 16 = .int .i64 1 := h16'
        have e1 : ∀ (H : AHeap) (Q : Nat → AHeap → Prop), wrB (.rw (flat (halfL (1 : Nat) l i)) 45 true []) H kb (i * 9 + 4) [.int .i64 9] Q = Q kb (H.put kb (.rw (flat ((halfL (1 : Nat) l i).set i (lift (1 : Nat) s))) 45 true [])) := fun H Q => wrB_flat (j := 4) (lift (1 : Nat) s) hh (by simp) rfl rfl
        simp (disch := (first | (simp only [ne_eq,Nat.reduceEqDiff,not_false_eq_true,Nat.reduceLT]; done) | omega | (simp only [yz] <;> omega) | fail)) only [↓yp,yq0,yq1,yq2,yq3,yq4,yl,ys0,ys1,Nat.reduceAdd,Nat.reduceMul,Nat.reduceSub,Nat.reduceBEq,Nat.reduceEqDiff,Nat.reduceLT,Nat.reduceLeDiff,reduceIte,Int.reduceAdd,Int.reduceSub,Int.reduceMul,Int.reduceLT,Int.reduceLE,Int.reduceEq,Int.reduceToNat,Int.reduceNeg,zed,zee,zfr,zhw,ysu,yrg,ysv,ysw,ysx,ysz,g95,g94,g17',h16',bt',A_indexSlice zio,A_nilCheck,nilQ_ptr,z4,e1,hw2]
        exact fin _ (by simp (disch := (first | (simp only [ne_eq,Nat.reduceEqDiff,not_false_eq_true,Nat.reduceLT]; done) | omega | (simp only [yz] <;> omega) | fail)) only [yg,Nat.reduceAdd,Nat.reduceEqDiff,Nat.reduceLT]) (by simp (disch := (first | (simp only [ne_eq,Nat.reduceEqDiff,not_false_eq_true,Nat.reduceLT]; done) | omega | (simp only [yz] <;> omega) | fail)) only [yg,Nat.reduceAdd,Nat.reduceEqDiff,Nat.reduceLT,g94]) (by simp (disch := (first | (simp only [ne_eq,Nat.reduceEqDiff,not_false_eq_true,Nat.reduceLT]; done) | omega | (simp only [yz] <;> omega) | fail)) only [yg,Nat.reduceAdd,Nat.reduceEqDiff,Nat.reduceLT,g17']) (by (with_reducible (repeat (first | refine Keep.put ?_ (by decide) | refine Keep.none ?_ | assumption | exact Keep.refl _ _ _))))
      | 2, _ =>
        have h16' : gt 151 e' 16 = .int .i64 2 := h16'
        have e1 : ∀ (H : AHeap) (Q : Nat → AHeap → Prop), wrB (.rw (flat (halfL (2 : Nat) l i)) 45 true []) H kb (i * 9 + 5) [.int .i64 9] Q = Q kb (H.put kb (.rw (flat ((halfL (2 : Nat) l i).set i (lift (2 : Nat) s))) 45 true [])) := fun H Q => wrB_flat (j := 5) (lift (2 : Nat) s) hh (by simp) rfl rfl
        simp (disch := (first | (simp only [ne_eq,Nat.reduceEqDiff,not_false_eq_true,Nat.reduceLT]; done) | omega | (simp only [yz] <;> omega) | fail)) only [↓yp,yq0,yq1,yq2,yq3,yq4,yl,ys0,ys1,Nat.reduceAdd,Nat.reduceMul,Nat.reduceSub,Nat.reduceBEq,Nat.reduceEqDiff,Nat.reduceLT,Nat.reduceLeDiff,reduceIte,Int.reduceAdd,Int.reduceSub,Int.reduceMul,Int.reduceLT,Int.reduceLE,Int.reduceEq,Int.reduceToNat,Int.reduceNeg,zed,zee,zfr,zhw,ysu,yrg,ysv,ysw,ysx,ysz,g95,g94,g17',h16',bt',A_indexSlice zio,A_nilCheck,nilQ_ptr,z4,e1,hw2]
        exact fin _ (by simp (disch := (first | (simp only [ne_eq,Nat.reduceEqDiff,not_false_eq_true,Nat.reduceLT]; done) | omega | (simp only [yz] <;> omega) | fail)) only [yg,Nat.reduceAdd,Nat.reduceEqDiff,Nat.reduceLT]) (by simp (disch := (first | (simp only [ne_eq,Nat.reduceEqDiff,not_false_eq_true,Nat.reduceLT]; done) | omega | (simp only [yz] <;> omega) | fail)) only [yg,Nat.reduceAdd,Nat.reduceEqDiff,Nat.reduceLT,g94]) (by simp (disch := (first | (simp only [ne_eq,Nat.reduceEqDiff,not_false_eq_true,Nat.reduceLT]; done) | omega | (simp only [yz] <;> omega) | fail)) only [yg,Nat.reduceAdd,Nat.reduceEqDiff,Nat.reduceLT,g17']) (by (with_reducible (repeat (first | refine Keep.put ?_ (by decide) | refine Keep.none ?_ | assumption | exact Keep.refl _ _ _))))
      | 3, _ =>
        have h16' : gt 151 e' 16 = .int .i64 3 := h16'
        have e1 : ∀ (H : AHeap) (Q : Nat → AHeap → Prop), wrB (.rw (flat (halfL (3 : Nat) l i)) 45 true []) H kb (i * 9 + 7) [.int .i64 1, .int .i64 0] Q = Q kb (H.put kb (.rw (flat ((halfL (3 : Nat) l i).set i (lift (3 : Nat) s))) 45 true [])) := fun H Q => wrB_flat (j := 7) (lift (3 : Nat) s) hh (by simp) rfl rfl
        simp (disch := (first | (simp only [ne_eq,Nat.reduceEqDiff,not_false_eq_true,Nat.reduceLT]; done) | omega | (simp only [yz] <;> omega) | fail)) only [↓yp,yq0,yq1,yq2,yq3,yq4,yl,ys0,ys1,Nat.reduceAdd,Nat.reduceMul,Nat.reduceSub,Nat.reduceBEq,Nat.reduceEqDiff,Nat.reduceLT,Nat.reduceLeDiff,reduceIte,Int.reduceAdd,Int.reduceSub,Int.reduceMul,Int.reduceLT,Int.reduceLE,Int.reduceEq,Int.reduceToNat,Int.reduceNeg,zed,zee,zfr,zhw,ysu,yrg,ysv,ysw,ysx,ysz,g95,g94,g17',h16',bt',A_indexSlice zio,A_nilCheck,nilQ_ptr,z4,A_build zin,e1,hw2]
        exact fin _ (by simp (disch := (first | (simp only [ne_eq,Nat.reduceEqDiff,not_false_eq_true,Nat.reduceLT]; done) | omega | (simp only [yz] <;> omega) | fail)) only [yg,Nat.reduceAdd,Nat.reduceEqDiff,Nat.reduceLT]) (by simp (disch := (first | (simp only [ne_eq,Nat.reduceEqDiff,not_false_eq_true,Nat.reduceLT]; done) | omega | (simp only [yz] <;> omega) | fail)) only [yg,Nat.reduceAdd,Nat.reduceEqDiff,Nat.reduceLT,g94]) (by simp (disch := (first | (simp only [ne_eq,Nat.reduceEqDiff,not_false_eq_true,Nat.reduceLT]; done) | omega | (simp only [yz] <;> omega) | fail)) only [yg,Nat.reduceAdd,Nat.reduceEqDiff,Nat.reduceLT,g17']) (by (with_reducible (repeat (first | refine Keep.put ?_ (by decide) | refine Keep.none ?_ | assumption | exact Keep.refl _ _ _))))
    · have hi' : i = l.length := by have := of_decide_eq_false hA; omega
      subst hi'
      simp (disch := (first | (simp only [ne_eq,Nat.reduceEqDiff,not_false_eq_true,Nat.reduceLT]; done) | omega | (simp only [yz] <;> omega) | fail)) only [↓yp,yq0,yq1,yq2,yq3,yq4,yl,ys0,ys1,Nat.reduceAdd,Nat.reduceMul,Nat.reduceSub,Nat.reduceBEq,Nat.reduceEqDiff,Nat.reduceLT,Nat.reduceLeDiff,reduceIte,Int.reduceAdd,Int.reduceSub,Int.reduceMul,Int.reduceLT,Int.reduceLE,Int.reduceEq,Int.reduceToNat,Int.reduceNeg,zed,zee,zfr,zhw,ysu,yrg,ysv,ysw,ysx,ysz]
      refine ⟨by (with_reducible (repeat (first | refine Keep.put ?_ (by decide) | refine Keep.none ?_ | assumption | exact Keep.refl _ _ _))), by simp (disch := (first | (simp only [ne_eq,Nat.reduceEqDiff,not_false_eq_true,Nat.reduceLT]; done) | omega | (simp only [yz] <;> omega) | fail)) only [yg,Nat.reduceAdd,Nat.reduceEqDiff,Nat.reduceLT,g17'], ff, by omega, bt', ?_⟩
      by_cases hne : l = []
      · rw [hne]
        exact ⟨fun h => absurd rfl h, fun _ _ _ _ h => absurd rfl h⟩
      · obtain ⟨kb, rfl, z1, z2, z3, z4⟩ := hkb' hne
        rw [halfL_all] at z4
        exact sl_new z4 z3
  clear g17 f1 bt sl1 hkb k1 q2 sz1
  rintro e2 H2 ⟨k2, g17, f2, q2, bt, sl2⟩
  have sz2 := f2.size
  have g9 := (k2 9 (by simp)).trans I.p.g9
  have b9 := (f2.same _ I.p.l9).trans I.p.b9
  have g10 := (k2 10 (by simp)).trans I.g10
  have g11 := (k2 11 (by simp)).trans I.g11
  have g12 := (k2 12 (by simp)).trans I.g12
  have g13 := (k2 13 (by simp)).trans I.g13
  have h16 := (k2 16 (by simp)).trans g16
  have l9 := I.p.l9
  have hml : (l.map (lift j)).length = l.length := List.length_map ..
  simp (disch := (first | (simp only [ne_eq,Nat.reduceEqDiff,not_false_eq_true,Nat.reduceLT]; done) | omega | (simp only [yz] <;> omega) | fail)) only [↓yp,yq0,yq1,yq2,yq3,yq4,yl,ys0,ys1,Nat.reduceAdd,Nat.reduceMul,Nat.reduceSub,Nat.reduceBEq,Nat.reduceEqDiff,Nat.reduceLT,Nat.reduceLeDiff,reduceIte,Int.reduceAdd,Int.reduceSub,Int.reduceMul,Int.reduceLT,Int.reduceLE,Int.reduceEq,Int.reduceToNat,Int.reduceNeg,zed,zee,zfr,zhw,ysu,yrg,ysv,ysw,ysx,ysz,g17,bt,g9,b9,g10,g12]
  have h52 := fun (L : Nat) (Q : Bool → Value → AHeap → Prop) (hL : L ≤ H2.size) (M : Nat) (hM : 5500 ≤ M) => c52 (L := L) (Q := Q) (M := M) (cap := cx) sl2 (by rw [hml]; omega) (asked_zero (cs := [fr]) (ms := [m]) (ld := ld) (w := w) (by omega) (by rw [hml]; exact hl) (lift_okl X.ho) (by omega) (by omega) (by simp; omega) (by simp; omega)) hL hM
  rw [hml] at h52
  refine h52 _ _ (by omega) _ (by omega) ?_
  intro kx cx2 H3 fr3 hk1 hk2 hk3
  have gL : Good C (l.map (lift j)) ld := goodL (by omega) hl X.ho (by omega)
  have hat := take_at (earT_len (w := w) gL (fr := fr) (a₀ := m) hfr hm) (by omega) hto
  have hil := (I.il.fr f2).fr fr3
  have hpj : freeP C l w ld fr to m j = !decide (tg (earT C (l.map (lift j)) w ld fr m) to = -1) := rfl
  have h64 := fun (N : Nat) => c64 (N := N) (cap := cb) (v := (j : Int)) hil (by rw [hb]; have := barsL_le (p := freeP C l w ld fr to m) 4; omega)
  have hmem : decide ((j : Int) ∈ bars) = !decide (tg (earT C (l.map (lift j)) w ld fr m) to = -1) := by
    rw [← hpj, hb]
    cases hp : freeP C l w ld fr to m j
    · have : ¬ (j : Int) ∈ barsL (freeP C l w ld fr to m) 4 := fun h => by
        have := (mem_bars hj).1 h
        rw [hp] at this
        cases this
      simpa using this
    · simpa using (mem_bars hj).2 hp
  rw [hmem] at h64
  have sz3 := fr3.size
  simp (disch := (first | (simp only [ne_eq,Nat.reduceEqDiff,not_false_eq_true,Nat.reduceLT]; done) | omega | (simp only [yz] <;> omega) | fail)) only [↓yp,yq0,yq1,yq2,yq3,yq4,yl,ys0,ys1,Nat.reduceAdd,Nat.reduceMul,Nat.reduceSub,Nat.reduceBEq,Nat.reduceEqDiff,Nat.reduceLT,Nat.reduceLeDiff,reduceIte,Int.reduceAdd,Int.reduceSub,Int.reduceMul,Int.reduceLT,Int.reduceLE,Int.reduceEq,Int.reduceToNat,Int.reduceNeg,zed,zee,zfr,zhw,ysu,yrg,ysv,ysw,ysx,ysz]
  refine W_draw [] rfl (by kernel_rfl) (by kernel_rfl) (by (first | omega | (simp only [yz] <;> omega))) ?_
  cases hD : decide (tg (earT C (l.map (lift j)) w ld fr m) to = -1)
  · rw [hD, Bool.not_false] at h64
    simp (disch := (first | (simp only [ne_eq,Nat.reduceEqDiff,not_false_eq_true,Nat.reduceLT]; done) | omega | (simp only [yz] <;> omega) | fail)) only [↓yp,yq0,yq1,yq2,yq3,yq4,yl,ys0,ys1,Nat.reduceAdd,Nat.reduceMul,Nat.reduceSub,Nat.reduceBEq,Nat.reduceEqDiff,Nat.reduceLT,Nat.reduceLeDiff,reduceIte,Int.reduceAdd,Int.reduceSub,Int.reduceMul,Int.reduceLT,Int.reduceLE,Int.reduceEq,Int.reduceToNat,Int.reduceNeg,zed,zee,zfr,zhw,ysu,yrg,ysv,ysw,ysx,ysz,g11,g13,h16,binV_nil_some zir,A_indexSlice zir,hk3,hat,h64,hD,nTT,nFF,maskE_nilSlice]
    refine ⟨I.next (f2.trans fr3) (fun p hp => (Keep.trans k2 (show Keep 151 [8, 9, 10, 11, 12, 13, 16] e2 _ by (with_reducible (repeat (first | refine Keep.put ?_ (by decide) | refine Keep.none ?_ | assumption | exact Keep.refl _ _ _))))) p (by simp at hp ⊢; omega)), ?_⟩
    simp (disch := (first | (simp only [ne_eq,Nat.reduceEqDiff,not_false_eq_true,Nat.reduceLT]; done) | omega | (simp only [yz] <;> omega) | fail)) only [yg,Nat.reduceAdd,Nat.reduceEqDiff,Nat.reduceLT,h16]
  · rw [hD, Bool.not_true] at h64
    simp (disch := (first | (simp only [ne_eq,Nat.reduceEqDiff,not_false_eq_true,Nat.reduceLT]; done) | omega | (simp only [yz] <;> omega) | fail)) only [↓yp,yq0,yq1,yq2,yq3,yq4,yl,ys0,ys1,Nat.reduceAdd,Nat.reduceMul,Nat.reduceSub,Nat.reduceBEq,Nat.reduceEqDiff,Nat.reduceLT,Nat.reduceLeDiff,reduceIte,Int.reduceAdd,Int.reduceSub,Int.reduceMul,Int.reduceLT,Int.reduceLE,Int.reduceEq,Int.reduceToNat,Int.reduceNeg,zed,zee,zfr,zhw,ysu,yrg,ysv,ysw,ysx,ysz,g11,g13,h16,binV_nil_some zir,A_indexSlice zir,hk3,hat,h64,hD,nTT,nFF,maskE_nilSlice]
    refine ⟨I.next (f2.trans fr3) (fun p hp => (Keep.trans k2 (show Keep 151 [8, 9, 10, 11, 12, 13, 16] e2 _ by (with_reducible (repeat (first | refine Keep.put ?_ (by decide) | refine Keep.none ?_ | assumption | exact Keep.refl _ _ _))))) p (by simp at hp ⊢; omega)), ?_⟩
    simp (disch := (first | (simp only [ne_eq,Nat.reduceEqDiff,not_false_eq_true,Nat.reduceLT]; done) | omega | (simp only [yz] <;> omega) | fail)) only [yg,Nat.reduceAdd,Nat.reduceEqDiff,Nat.reduceLT,h16]
end
end Go.Am
/- The law StreetBarred. -/
namespace Go.Am
open Go.Proofs
variable {T : Tab} {P : Program} {N L : Nat} {H : AHeap} {Q : Bool → Value → AHeap → Prop}
section
variable {a : Option Addr} {cap : Nat} {bs : List Int}
set_option maxHeartbeats 4000000 in
set_option maxRecDepth 10000 in
theorem c12 {x y : Int} (hb : Bts H a bs) (hx : 0 ≤ x ∧ x < 256) (hy : 0 ≤ y ∧ y < 256) :
    acall tabA (aexec tabA Try.prog (N + 8000)) 12 [.slice a bs.length cap, .int .u8 x, .int .u8 y] H = some (true, .bool true, H, H.size) := by
  refine call_quiet (k := 151) (rs := [.tmp 6]) rfl fn_12 rfl rfl rfl ?_ rfl
  refine W_seqI (fun e' H'' => gt 151 e' 0 = .slice a bs.length cap ∧ gt 151 e' 1 = .int .u8 x ∧ gt 151 e' 2 = .int .u8 y ∧ H = H'') ?_ ?_
  · simp (disch := (first | (simp only [ne_eq,Nat.reduceEqDiff,not_false_eq_true,Nat.reduceLT]; done) | omega | (simp only [yz] <;> omega) | fail)) only [↓yp,yq0,yq1,yq2,yq3,yq4,yl,ys0,ys1,Nat.reduceAdd,Nat.reduceMul,Nat.reduceSub,Nat.reduceBEq,Nat.reduceEqDiff,Nat.reduceLT,Nat.reduceLeDiff,reduceIte,Int.reduceAdd,Int.reduceSub,Int.reduceMul,Int.reduceLT,Int.reduceLE,Int.reduceEq,Int.reduceToNat,Int.reduceNeg,zed,zee,zfr,zhw,ysu,yrg,ysv,ysw,ysx,ysz]
    refine ⟨?_, ?_, ?_, rfl⟩
    · simp (disch := (first | (simp only [ne_eq,Nat.reduceEqDiff,not_false_eq_true,Nat.reduceLT]; done) | omega | (simp only [yz] <;> omega) | fail)) only [yg,Nat.reduceAdd,Nat.reduceEqDiff,Nat.reduceLT]
    · simp (disch := (first | (simp only [ne_eq,Nat.reduceEqDiff,not_false_eq_true,Nat.reduceLT]; done) | omega | (simp only [yz] <;> omega) | fail)) only [yg,Nat.reduceAdd,Nat.reduceEqDiff,Nat.reduceLT]
    · simp (disch := (first | (simp only [ne_eq,Nat.reduceEqDiff,not_false_eq_true,Nat.reduceLT]; done) | omega | (simp only [yz] <;> omega) | fail)) only [yg,Nat.reduceAdd,Nat.reduceEqDiff,Nat.reduceLT]
  rintro e1 H1 ⟨g0, g1, g2, rfl⟩
  refine W_seqI (fun e' H'' => gt 151 e' 1 = .int .u8 x ∧ gt 151 e' 2 = .int .u8 y ∧ gt 151 e' 7 = .pointer (some ⟨H.size, 0, none⟩) ∧ Fr H H'' ∧ H''.size = H.size + 1 ∧ Chu H'' H.size a bs cap) ?_ ?_
  · simp (disch := (first | (simp only [ne_eq,Nat.reduceEqDiff,not_false_eq_true,Nat.reduceLT]; done) | omega | (simp only [yz] <;> omega) | fail)) only [↓yp,yq0,yq1,yq2,yq3,yq4,yl,ys0,ys1,Nat.reduceAdd,Nat.reduceMul,Nat.reduceSub,Nat.reduceBEq,Nat.reduceEqDiff,Nat.reduceLT,Nat.reduceLeDiff,reduceIte,Int.reduceAdd,Int.reduceSub,Int.reduceMul,Int.reduceLT,Int.reduceLE,Int.reduceEq,Int.reduceToNat,Int.reduceNeg,zed,zee,zfr,zhw,ysu,yrg,ysv,ysw,ysx,ysz,g0]
    refine c48 hb (Nat.le_refl _) (by omega) ?_
    intro H2 fr1 hs1 hc1
    simp (disch := (first | (simp only [ne_eq,Nat.reduceEqDiff,not_false_eq_true,Nat.reduceLT]; done) | omega | (simp only [yz] <;> omega) | fail)) only [↓yp,yq0,yq1,yq2,yq3,yq4,yl,ys0,ys1,Nat.reduceAdd,Nat.reduceMul,Nat.reduceSub,Nat.reduceBEq,Nat.reduceEqDiff,Nat.reduceLT,Nat.reduceLeDiff,reduceIte,Int.reduceAdd,Int.reduceSub,Int.reduceMul,Int.reduceLT,Int.reduceLE,Int.reduceEq,Int.reduceToNat,Int.reduceNeg,zed,zee,zfr,zhw,ysu,yrg,ysv,ysw,ysx,ysz]
    refine ⟨?_, ?_, ?_, fr1, hs1, hc1⟩
    · simp (disch := (first | (simp only [ne_eq,Nat.reduceEqDiff,not_false_eq_true,Nat.reduceLT]; done) | omega | (simp only [yz] <;> omega) | fail)) only [yg,Nat.reduceAdd,Nat.reduceEqDiff,Nat.reduceLT,g1]
    · simp (disch := (first | (simp only [ne_eq,Nat.reduceEqDiff,not_false_eq_true,Nat.reduceLT]; done) | omega | (simp only [yz] <;> omega) | fail)) only [yg,Nat.reduceAdd,Nat.reduceEqDiff,Nat.reduceLT,g2]
    · simp (disch := (first | (simp only [ne_eq,Nat.reduceEqDiff,not_false_eq_true,Nat.reduceLT]; done) | omega | (simp only [yz] <;> omega) | fail)) only [yg,Nat.reduceAdd,Nat.reduceEqDiff,Nat.reduceLT]
  clear g0 g1 g2
  rintro e2 H1 ⟨g1, g2, g7, fr1, hs1, hc1⟩
  refine W_seqI (fun e' H'' => ∃ a' cap' C l i8, gt 151 e' 1 = .int .u8 x ∧ gt 151 e' 2 = .int .u8 y ∧ gt 151 e' 7 = .pointer (some ⟨H.size, 0, none⟩) ∧ gt 151 e' 8 = .pointer (some ⟨i8, 0, none⟩) ∧ (2 ≤ C ∧ C ≤ 8) ∧ (l.length : Int) ≤ 14 ∧ (∀ s ∈ l, OkS C s) ∧ (a' = none → cap' = 0) ∧ Sl H'' a' l ∧ H''.get i8 = .rw [.int .i64 C, .slice a' l.length cap'] 24 false [] ∧ H.size < i8 ∧ i8 < H''.size ∧ Fr H H'' ∧ Chu H'' H.size a bs cap) ?_ ?_
  · simp (disch := (first | (simp only [ne_eq,Nat.reduceEqDiff,not_false_eq_true,Nat.reduceLT]; done) | omega | (simp only [yz] <;> omega) | fail)) only [↓yp,yq0,yq1,yq2,yq3,yq4,yl,ys0,ys1,Nat.reduceAdd,Nat.reduceMul,Nat.reduceSub,Nat.reduceBEq,Nat.reduceEqDiff,Nat.reduceLT,Nat.reduceLeDiff,reduceIte,Int.reduceAdd,Int.reduceSub,Int.reduceMul,Int.reduceLT,Int.reduceLE,Int.reduceEq,Int.reduceToNat,Int.reduceNeg,zed,zee,zfr,zhw,ysu,yrg,ysv,ysw,ysx,ysz,g7]
    refine c49 hc1 (by omega) (by omega) (Nat.le_refl _) (by omega) ?_
    intro f2 a' cap' C l H2 hC1 hC2 hl ho hn hsl hc2 hx2
    have sz2 := hx2.size
    simp (disch := (first | (simp only [ne_eq,Nat.reduceEqDiff,not_false_eq_true,Nat.reduceLT]; done) | omega | (simp only [yz] <;> omega) | fail)) only [↓yp,yq0,yq1,yq2,yq3,yq4,yl,ys0,ys1,Nat.reduceAdd,Nat.reduceMul,Nat.reduceSub,Nat.reduceBEq,Nat.reduceEqDiff,Nat.reduceLT,Nat.reduceLeDiff,reduceIte,Int.reduceAdd,Int.reduceSub,Int.reduceMul,Int.reduceLT,Int.reduceLE,Int.reduceEq,Int.reduceToNat,Int.reduceNeg,zed,zee,zfr,zhw,ysu,yrg,ysv,ysw,ysx,ysz]
    refine ⟨a', cap', C, l, H2.size, ?_, ?_, ?_, ?_, by omega, by omega, ho, hn, Sl.put (hsl.fr (Fr.alloc _ _)) (c := [.int .i64 0, .slice none 0 0]) (by rw [zda rfl]; rfl) (by simp), zdc (by (first | omega | (simp only [yz] <;> omega))), by omega, by (first | omega | (simp only [yz] <;> omega)), Fr.put (Fr.allocd (hx2.above fr1 (Nat.le_refl _)) _) (by omega) _, (hc2.fr (Fr.alloc _ _)).other (by omega) (fun c e => by rw [zda rfl] at e; cases e)⟩
    · simp (disch := (first | (simp only [ne_eq,Nat.reduceEqDiff,not_false_eq_true,Nat.reduceLT]; done) | omega | (simp only [yz] <;> omega) | fail)) only [yg,Nat.reduceAdd,Nat.reduceEqDiff,Nat.reduceLT,g1]
    · simp (disch := (first | (simp only [ne_eq,Nat.reduceEqDiff,not_false_eq_true,Nat.reduceLT]; done) | omega | (simp only [yz] <;> omega) | fail)) only [yg,Nat.reduceAdd,Nat.reduceEqDiff,Nat.reduceLT,g2]
    · simp (disch := (first | (simp only [ne_eq,Nat.reduceEqDiff,not_false_eq_true,Nat.reduceLT]; done) | omega | (simp only [yz] <;> omega) | fail)) only [yg,Nat.reduceAdd,Nat.reduceEqDiff,Nat.reduceLT,g7]
    · simp (disch := (first | (simp only [ne_eq,Nat.reduceEqDiff,not_false_eq_true,Nat.reduceLT]; done) | omega | (simp only [yz] <;> omega) | fail)) only [yg,Nat.reduceAdd,Nat.reduceEqDiff,Nat.reduceLT]
  clear g1 g2 g7 fr1 hs1 hc1
  rintro e3 H2 ⟨a', cap', C, l, i8, g1, g2, g7, g8, hC28, hl, ho, hn, hsl, b8, k8, l8, fr2, hc2⟩
  refine W_seqI (fun e' H'' => ∃ w ld i9, LP 151 H C w ld l i8 i9 a' cap' e' H'' ∧ gt 151 e' 1 = .int .u8 x ∧ gt 151 e' 2 = .int .u8 y ∧ gt 151 e' 7 = .pointer (some ⟨H.size, 0, none⟩) ∧ (1 ≤ w ∧ w ≤ 5) ∧ (0 ≤ ld ∧ ld ≤ 5) ∧ H.size < i9 ∧ Chu H'' H.size a bs cap) ?_ ?_
  · have sz2 := fr2.size
    simp (disch := (first | (simp only [ne_eq,Nat.reduceEqDiff,not_false_eq_true,Nat.reduceLT]; done) | omega | (simp only [yz] <;> omega) | fail)) only [↓yp,yq0,yq1,yq2,yq3,yq4,yl,ys0,ys1,Nat.reduceAdd,Nat.reduceMul,Nat.reduceSub,Nat.reduceBEq,Nat.reduceEqDiff,Nat.reduceLT,Nat.reduceLeDiff,reduceIte,Int.reduceAdd,Int.reduceSub,Int.reduceMul,Int.reduceLT,Int.reduceLE,Int.reduceEq,Int.reduceToNat,Int.reduceNeg,zed,zee,zfr,zhw,ysu,yrg,ysv,ysw,ysx,ysz,g7]
    refine c50 hc2 (Nat.le_refl _) (by omega) ?_
    intro f3 w ld H3 hw1 hw2 hd1 hd2 hc3 hx3
    have sz3 := hx3.size
    simp (disch := (first | (simp only [ne_eq,Nat.reduceEqDiff,not_false_eq_true,Nat.reduceLT]; done) | omega | (simp only [yz] <;> omega) | fail)) only [↓yp,yq0,yq1,yq2,yq3,yq4,yl,ys0,ys1,Nat.reduceAdd,Nat.reduceMul,Nat.reduceSub,Nat.reduceBEq,Nat.reduceEqDiff,Nat.reduceLT,Nat.reduceLeDiff,reduceIte,Int.reduceAdd,Int.reduceSub,Int.reduceMul,Int.reduceLT,Int.reduceLE,Int.reduceEq,Int.reduceToNat,Int.reduceNeg,zed,zee,zfr,zhw,ysu,yrg,ysv,ysw,ysx,ysz]
    refine ⟨w, ld, H3.size, ⟨?_, ?_, Fr.put (Fr.allocd (hx3.above fr2 (Nat.le_refl _)) _) (by omega) _, by (first | omega | (simp only [yz] <;> omega)), by (first | omega | (simp only [yz] <;> omega)), ?_, zdc (by (first | omega | (simp only [yz] <;> omega))), Sl.put ((hsl.frx hc2 hx3).fr (Fr.alloc _ _)) (c := [.int .i64 0, .int .i64 0]) (by rw [zda rfl]; rfl) (by simp)⟩, ?_, ?_, ?_, by omega, by omega, by omega, (hc3.fr (Fr.alloc _ _)).other (by omega) (fun c e => by rw [zda rfl] at e; cases e)⟩
    · simp (disch := (first | (simp only [ne_eq,Nat.reduceEqDiff,not_false_eq_true,Nat.reduceLT]; done) | omega | (simp only [yz] <;> omega) | fail)) only [yg,Nat.reduceAdd,Nat.reduceEqDiff,Nat.reduceLT,g8]
    · simp (disch := (first | (simp only [ne_eq,Nat.reduceEqDiff,not_false_eq_true,Nat.reduceLT]; done) | omega | (simp only [yz] <;> omega) | fail)) only [yg,Nat.reduceAdd,Nat.reduceEqDiff,Nat.reduceLT]
    · rw [zdd (by omega), zdb (by omega), hx3.same _ l8 (by omega)]; exact b8
    · simp (disch := (first | (simp only [ne_eq,Nat.reduceEqDiff,not_false_eq_true,Nat.reduceLT]; done) | omega | (simp only [yz] <;> omega) | fail)) only [yg,Nat.reduceAdd,Nat.reduceEqDiff,Nat.reduceLT,g1]
    · simp (disch := (first | (simp only [ne_eq,Nat.reduceEqDiff,not_false_eq_true,Nat.reduceLT]; done) | omega | (simp only [yz] <;> omega) | fail)) only [yg,Nat.reduceAdd,Nat.reduceEqDiff,Nat.reduceLT,g2]
    · simp (disch := (first | (simp only [ne_eq,Nat.reduceEqDiff,not_false_eq_true,Nat.reduceLT]; done) | omega | (simp only [yz] <;> omega) | fail)) only [yg,Nat.reduceAdd,Nat.reduceEqDiff,Nat.reduceLT,g7]
  have hk8 : H.size < i8 := k8
  clear g1 g2 g7 g8 hsl b8 l8 fr2 hc2 k8
  rintro e H' ⟨w, ld, i9, I, g1, g2, g7, ⟨hw1, hw2⟩, ⟨hd1, hd2⟩, hk9, hc⟩
  have hC : 1 ≤ C ∧ C ≤ 8 := by omega
  have hlt := hc.lt
  have sz := I.fr.size
  obtain ⟨to, hto⟩ : ∃ to, x.tmod C = to := ⟨_, rfl⟩
  have hto2 : 0 ≤ to ∧ to < C := by
    rw [← hto]
    exact ⟨Int.tmod_nonneg _ hx.1, Int.tmod_lt_of_pos _ (by omega)⟩
  obtain ⟨m, hm0⟩ : ∃ m, y.tmod 241 = m := ⟨_, rfl⟩
  have hm : 0 ≤ m ∧ m ≤ 240 := by
    rw [← hm0]
    have := Int.tmod_lt_of_pos y (show (0 : Int) < 241 by omega)
    exact ⟨Int.tmod_nonneg _ hy.1, by omega⟩
  refine W_seqI (fun e' H'' => ∃ fr, LP 151 H C w ld l i8 i9 a' cap' e' H'' ∧ gt 151 e' 2 = .int .u8 y ∧ (0 ≤ fr ∧ fr < C) ∧ gt 151 e' 10 = .int .i64 fr ∧ gt 151 e' 11 = .int .i64 to) ?_ ?_
  · have l8 := I.l8
    have g8 := I.g8
    have b8 := I.b8
    obtain ⟨fl, v, H1, mm, hres, hLm, fr, rfl, ⟨hf1, hf2⟩, hff, hc1, hx1, hs1⟩ := resK_elim (Q := fun f v H'' => ∃ d : Int, v = .int .i64 d ∧ Pulled C d ∧ (f = true → H'' = H') ∧ Chu H'' H.size a bs cap ∧ FrX H.size H' H'' ∧ H''.size = H'.size) (c51 (M := N + 7994) (n := C) hc (Nat.le_refl _) (by omega) (by omega) fun f v H'' h0 h1 h2 h3 h4 => ⟨v, rfl, h1, h0, h2, h3, h4⟩)
    have b81 : H1.get i8 = .rw [.int .i64 C, .slice a' l.length cap'] 24 false [] := by
      rw [hx1.same _ l8 (by omega)]; exact b8
    have w1 : w64 x = x := w64_of (by omega)
    have hrem := fun (p q : Operand) (z : Int) => i64_rem (T := tabA) (P := Try.prog) (ty := 3) (x := p) (y := q) (a := z) (b := C) (by omega)
    have I1 : ∀ e', Keep 151 [8, 9] e e' → LP 151 H C w ld l i8 i9 a' cap' e' H1 := fun e' hke => I.frx (by omega) (by omega) (Nat.le_refl _) hc hx1 hke
    cases fl
    · refine W_draw [3] rfl (by kernel_rfl) (by kernel_rfl) (by (first | omega | (simp only [yz] <;> omega))) ?_
      simp (disch := (first | (simp only [ne_eq,Nat.reduceEqDiff,not_false_eq_true,Nat.reduceLT]; done) | omega | (simp only [yz] <;> omega) | fail)) only [↓yp,yq0,yq1,yq2,yq3,yq4,yl,ys0,ys1,Nat.reduceAdd,Nat.reduceMul,Nat.reduceSub,Nat.reduceBEq,Nat.reduceEqDiff,Nat.reduceLT,Nat.reduceLeDiff,reduceIte,Int.reduceAdd,Int.reduceSub,Int.reduceMul,Int.reduceLT,Int.reduceLE,Int.reduceEq,Int.reduceToNat,Int.reduceNeg,zed,zee,zfr,zhw,ysu,yrg,ysv,ysw,ysx,ysz,g1,g2,g7,g8,b8,b81,hres,A_conv,cv_5_3,w1,hrem,hto]
      refine ⟨fr, I1 _ (by (with_reducible (repeat (first | refine Keep.put ?_ (by decide) | refine Keep.none ?_ | assumption | exact Keep.refl _ _ _)))), ?_, ⟨hf1, by omega⟩, ?_, ?_⟩
      · simp (disch := (first | (simp only [ne_eq,Nat.reduceEqDiff,not_false_eq_true,Nat.reduceLT]; done) | omega | (simp only [yz] <;> omega) | fail)) only [yg,Nat.reduceAdd,Nat.reduceEqDiff,Nat.reduceLT,g2]
      · simp (disch := (first | (simp only [ne_eq,Nat.reduceEqDiff,not_false_eq_true,Nat.reduceLT]; done) | omega | (simp only [yz] <;> omega) | fail)) only [yg,Nat.reduceAdd,Nat.reduceEqDiff,Nat.reduceLT]
      · simp (disch := (first | (simp only [ne_eq,Nat.reduceEqDiff,not_false_eq_true,Nat.reduceLT]; done) | omega | (simp only [yz] <;> omega) | fail)) only [yg,Nat.reduceAdd,Nat.reduceEqDiff,Nat.reduceLT]
    · obtain rfl := hff rfl
      refine W_draw [] rfl (by kernel_rfl) (by kernel_rfl) (by (first | omega | (simp only [yz] <;> omega))) ?_
      simp (disch := (first | (simp only [ne_eq,Nat.reduceEqDiff,not_false_eq_true,Nat.reduceLT]; done) | omega | (simp only [yz] <;> omega) | fail)) only [↓yp,yq0,yq1,yq2,yq3,yq4,yl,ys0,ys1,Nat.reduceAdd,Nat.reduceMul,Nat.reduceSub,Nat.reduceBEq,Nat.reduceEqDiff,Nat.reduceLT,Nat.reduceLeDiff,reduceIte,Int.reduceAdd,Int.reduceSub,Int.reduceMul,Int.reduceLT,Int.reduceLE,Int.reduceEq,Int.reduceToNat,Int.reduceNeg,zed,zee,zfr,zhw,ysu,yrg,ysv,ysw,ysx,ysz,g1,g2,g7,g8,b8,hres,A_conv,cv_5_3,w1,hrem,hto]
      refine ⟨fr, I1 _ (by (with_reducible (repeat (first | refine Keep.put ?_ (by decide) | refine Keep.none ?_ | assumption | exact Keep.refl _ _ _)))), ?_, ⟨hf1, by omega⟩, ?_, ?_⟩
      · simp (disch := (first | (simp only [ne_eq,Nat.reduceEqDiff,not_false_eq_true,Nat.reduceLT]; done) | omega | (simp only [yz] <;> omega) | fail)) only [yg,Nat.reduceAdd,Nat.reduceEqDiff,Nat.reduceLT,g2]
      · simp (disch := (first | (simp only [ne_eq,Nat.reduceEqDiff,not_false_eq_true,Nat.reduceLT]; done) | omega | (simp only [yz] <;> omega) | fail)) only [yg,Nat.reduceAdd,Nat.reduceEqDiff,Nat.reduceLT]
      · simp (disch := (first | (simp only [ne_eq,Nat.reduceEqDiff,not_false_eq_true,Nat.reduceLT]; done) | omega | (simp only [yz] <;> omega) | fail)) only [yg,Nat.reduceAdd,Nat.reduceEqDiff,Nat.reduceLT]
  clear sz hlt I g7 g1 g2 hc
  clear e H'
  rintro e H' ⟨fr, I, g2, hfr, g10, g11⟩
  have X : BX C w ld l fr to m := ⟨hC28, by omega, ho, by omega, by omega, hfr, hto2, hm⟩
  have hl16 : l.length ≤ 16 := by omega
  refine W_seqI (fun e' H'' => LP 151 H C w ld l i8 i9 a' cap' e' H'' ∧ gt 151 e' 10 = .int .i64 fr ∧ gt 151 e' 11 = .int .i64 to ∧ gt 151 e' 12 = .int .i64 m) ?_ ?_
  · have sz := I.fr.size
    have w1 : w64 y = y := w64_of (by omega)
    have hrem := fun (p q : Operand) (z : Int) => i64_rem (T := tabA) (P := Try.prog) (ty := 3) (x := p) (y := q) (a := z) (b := 241) (by omega)
    simp (disch := (first | (simp only [ne_eq,Nat.reduceEqDiff,not_false_eq_true,Nat.reduceLT]; done) | omega | (simp only [yz] <;> omega) | fail)) only [↓yp,yq0,yq1,yq2,yq3,yq4,yl,ys0,ys1,Nat.reduceAdd,Nat.reduceMul,Nat.reduceSub,Nat.reduceBEq,Nat.reduceEqDiff,Nat.reduceLT,Nat.reduceLeDiff,reduceIte,Int.reduceAdd,Int.reduceSub,Int.reduceMul,Int.reduceLT,Int.reduceLE,Int.reduceEq,Int.reduceToNat,Int.reduceNeg,zed,zee,zfr,zhw,ysu,yrg,ysv,ysw,ysx,ysz,g2,A_conv,cv_5_3,w1,hrem,hm0]
    refine ⟨I.next (Fr.refl _) (by (with_reducible (repeat (first | refine Keep.put ?_ (by decide) | refine Keep.none ?_ | assumption | exact Keep.refl _ _ _)))), ?_, ?_, ?_⟩
    · simp (disch := (first | (simp only [ne_eq,Nat.reduceEqDiff,not_false_eq_true,Nat.reduceLT]; done) | omega | (simp only [yz] <;> omega) | fail)) only [yg,Nat.reduceAdd,Nat.reduceEqDiff,Nat.reduceLT,g10]
    · simp (disch := (first | (simp only [ne_eq,Nat.reduceEqDiff,not_false_eq_true,Nat.reduceLT]; done) | omega | (simp only [yz] <;> omega) | fail)) only [yg,Nat.reduceAdd,Nat.reduceEqDiff,Nat.reduceLT,g11]
    · simp (disch := (first | (simp only [ne_eq,Nat.reduceEqDiff,not_false_eq_true,Nat.reduceLT]; done) | omega | (simp only [yz] <;> omega) | fail)) only [yg,Nat.reduceAdd,Nat.reduceEqDiff,Nat.reduceLT]
  clear I g2 g10 g11
  clear e H'
  rintro e H' ⟨I, g10, g11, g12⟩
  have g : Good C l ld := good_of (chk_of hC hl16 ho) (off_iff.2 (by omega))
  have e8 := earT_len (w := w) g (fr := fr) (a₀ := m) hfr hm
  have hat := take_at e8 hC hto2
  obtain ⟨v, hv⟩ : ∃ v, tg (earT C l w ld fr m) to = v := ⟨_, rfl⟩
  rw [hv] at hat
  by_cases hv1 : v = -1
  rotate_left
  · -- the cart can be there
    refine W_seqI (fun e' H'' => LP 151 H C w ld l i8 i9 a' cap' e' H'' ∧ gt 151 e' 10 = .int .i64 fr ∧ gt 151 e' 11 = .int .i64 to ∧ gt 151 e' 12 = .int .i64 m ∧ gt 151 e' 13 = .slice none 0 0 ∧ gt 151 e' 14 = .int .i64 1) ?_ ?_
    · have sz := I.fr.size
      have g8 := I.g8
      have g9 := I.g9
      have b8 := I.b8
      have b9 := I.b9
      simp (disch := (first | (simp only [ne_eq,Nat.reduceEqDiff,not_false_eq_true,Nat.reduceLT]; done) | omega | (simp only [yz] <;> omega) | fail)) only [↓yp,yq0,yq1,yq2,yq3,yq4,yl,ys0,ys1,Nat.reduceAdd,Nat.reduceMul,Nat.reduceSub,Nat.reduceBEq,Nat.reduceEqDiff,Nat.reduceLT,Nat.reduceLeDiff,reduceIte,Int.reduceAdd,Int.reduceSub,Int.reduceMul,Int.reduceLT,Int.reduceLE,Int.reduceEq,Int.reduceToNat,Int.reduceNeg,zed,zee,zfr,zhw,ysu,yrg,ysv,ysw,ysx,ysz,g8,g9,b8,b9,g10,g11,g12]
      refine c62 I.sl hl16 hC ho (by omega) (by omega) hfr hto2 hm (by omega) (by omega) ?_ ?_
      · intro f ab cb H2 f2 h2 h3 h4
        rw [hv] at h4
        exact absurd h4 hv1
      · intro f H2 f2 _
        have sz2 := f2.size
        simp (disch := (first | (simp only [ne_eq,Nat.reduceEqDiff,not_false_eq_true,Nat.reduceLT]; done) | omega | (simp only [yz] <;> omega) | fail)) only [↓yp,yq0,yq1,yq2,yq3,yq4,yl,ys0,ys1,Nat.reduceAdd,Nat.reduceMul,Nat.reduceSub,Nat.reduceBEq,Nat.reduceEqDiff,Nat.reduceLT,Nat.reduceLeDiff,reduceIte,Int.reduceAdd,Int.reduceSub,Int.reduceMul,Int.reduceLT,Int.reduceLE,Int.reduceEq,Int.reduceToNat,Int.reduceNeg,zed,zee,zfr,zhw,ysu,yrg,ysv,ysw,ysx,ysz]
        refine ⟨I.next f2 (by (with_reducible (repeat (first | refine Keep.put ?_ (by decide) | refine Keep.none ?_ | assumption | exact Keep.refl _ _ _)))), ?_, ?_, ?_, ?_, ?_⟩
        · simp (disch := (first | (simp only [ne_eq,Nat.reduceEqDiff,not_false_eq_true,Nat.reduceLT]; done) | omega | (simp only [yz] <;> omega) | fail)) only [yg,Nat.reduceAdd,Nat.reduceEqDiff,Nat.reduceLT,g10]
        · simp (disch := (first | (simp only [ne_eq,Nat.reduceEqDiff,not_false_eq_true,Nat.reduceLT]; done) | omega | (simp only [yz] <;> omega) | fail)) only [yg,Nat.reduceAdd,Nat.reduceEqDiff,Nat.reduceLT,g11]
        · simp (disch := (first | (simp only [ne_eq,Nat.reduceEqDiff,not_false_eq_true,Nat.reduceLT]; done) | omega | (simp only [yz] <;> omega) | fail)) only [yg,Nat.reduceAdd,Nat.reduceEqDiff,Nat.reduceLT,g12]
        · simp (disch := (first | (simp only [ne_eq,Nat.reduceEqDiff,not_false_eq_true,Nat.reduceLT]; done) | omega | (simp only [yz] <;> omega) | fail)) only [yg,Nat.reduceAdd,Nat.reduceEqDiff,Nat.reduceLT]
        · simp (disch := (first | (simp only [ne_eq,Nat.reduceEqDiff,not_false_eq_true,Nat.reduceLT]; done) | omega | (simp only [yz] <;> omega) | fail)) only [yg,Nat.reduceAdd,Nat.reduceEqDiff,Nat.reduceLT]
    clear I g10 g11 g12
    clear e H'
    rintro e H' ⟨I, g10, g11, g12, g13, g14⟩
    have sz := I.fr.size
    have g8 := I.g8
    have g9 := I.g9
    have b8 := I.b8
    have b9 := I.b9
    have hd1 : decide (v = -1) = false := by simpa using hv1
    have hz0 : decide (((0 : Nat) : Int) = 0) = true := rfl
    have h63 := fun (N : Nat) (H : AHeap) => c63 (N := N) (H := H) (cap := 0) (a := none) (t := []) Il.nil (by simp) (fun i x y h => by simp at h)
    simp only [List.length_nil] at h63
    simp (disch := (first | (simp only [ne_eq,Nat.reduceEqDiff,not_false_eq_true,Nat.reduceLT]; done) | omega | (simp only [yz] <;> omega) | fail)) only [↓yp,yq0,yq1,yq2,yq3,yq4,yl,ys0,ys1,Nat.reduceAdd,Nat.reduceMul,Nat.reduceSub,Nat.reduceBEq,Nat.reduceEqDiff,Nat.reduceLT,Nat.reduceLeDiff,reduceIte,Int.reduceAdd,Int.reduceSub,Int.reduceMul,Int.reduceLT,Int.reduceLE,Int.reduceEq,Int.reduceToNat,Int.reduceNeg,zed,zee,zfr,zhw,ysu,yrg,ysv,ysw,ysx,ysz,g8,g9,b8,b9,g10,g12]
    refine c52 I.sl (by omega) (asked_zero (cs := [fr]) (ms := [m]) hC hl16 ho (by omega) (by omega) (by simp; omega) (by simp; omega)) (by omega) (by omega) ?_
    intro k cap'' H3 fr3 hk1 hk2 hk3
    have sz3 := fr3.size
    simp (disch := (first | (simp only [ne_eq,Nat.reduceEqDiff,not_false_eq_true,Nat.reduceLT]; done) | omega | (simp only [yz] <;> omega) | fail)) only [↓yp,yq0,yq1,yq2,yq3,yq4,yl,ys0,ys1,Nat.reduceAdd,Nat.reduceMul,Nat.reduceSub,Nat.reduceBEq,Nat.reduceEqDiff,Nat.reduceLT,Nat.reduceLeDiff,reduceIte,Int.reduceAdd,Int.reduceSub,Int.reduceMul,Int.reduceLT,Int.reduceLE,Int.reduceEq,Int.reduceToNat,Int.reduceNeg,zed,zee,zfr,zhw,ysu,yrg,ysv,ysw,ysx,ysz,g11,g13,g14,hk3,binV_nil_some zir,A_indexSlice zir,hat,hd1,nTT,nFF,h63,lenV_slice st_esS_101,hz0,awake_l]
  -- no law but one keeps it away
  subst hv1
  refine W_seqI (fun e' H'' => ∃ ab cb, BS H C w ld l i8 i9 a' cap' fr to m (barsL (freeP C l w ld fr to m) 4) ab cb e' H'' ∧ (barsL (freeP C l w ld fr to m) 4 = [] → ab = none ∧ cb = 0) ∧ gt 151 e' 14 = .int .i64 0) ?_ ?_
  · have sz := I.fr.size
    have g8 := I.g8
    have g9 := I.g9
    have b8 := I.b8
    have b9 := I.b9
    simp (disch := (first | (simp only [ne_eq,Nat.reduceEqDiff,not_false_eq_true,Nat.reduceLT]; done) | omega | (simp only [yz] <;> omega) | fail)) only [↓yp,yq0,yq1,yq2,yq3,yq4,yl,ys0,ys1,Nat.reduceAdd,Nat.reduceMul,Nat.reduceSub,Nat.reduceBEq,Nat.reduceEqDiff,Nat.reduceLT,Nat.reduceLeDiff,reduceIte,Int.reduceAdd,Int.reduceSub,Int.reduceMul,Int.reduceLT,Int.reduceLE,Int.reduceEq,Int.reduceToNat,Int.reduceNeg,zed,zee,zfr,zhw,ysu,yrg,ysv,ysw,ysx,ysz,g8,g9,b8,b9,g10,g11,g12]
    refine c62 I.sl hl16 hC ho (by omega) (by omega) hfr hto2 hm (by omega) (by omega) ?_ ?_
    · intro f ab cb H2 f2 h2 h3 h4
      have sz2 := f2.size
      simp (disch := (first | (simp only [ne_eq,Nat.reduceEqDiff,not_false_eq_true,Nat.reduceLT]; done) | omega | (simp only [yz] <;> omega) | fail)) only [↓yp,yq0,yq1,yq2,yq3,yq4,yl,ys0,ys1,Nat.reduceAdd,Nat.reduceMul,Nat.reduceSub,Nat.reduceBEq,Nat.reduceEqDiff,Nat.reduceLT,Nat.reduceLeDiff,reduceIte,Int.reduceAdd,Int.reduceSub,Int.reduceMul,Int.reduceLT,Int.reduceLE,Int.reduceEq,Int.reduceToNat,Int.reduceNeg,zed,zee,zfr,zhw,ysu,yrg,ysv,ysw,ysx,ysz]
      refine ⟨ab, cb, ⟨I.next f2 (by (with_reducible (repeat (first | refine Keep.put ?_ (by decide) | refine Keep.none ?_ | assumption | exact Keep.refl _ _ _)))), ?_, ?_, ?_, ?_, h2⟩, h3, ?_⟩
      · simp (disch := (first | (simp only [ne_eq,Nat.reduceEqDiff,not_false_eq_true,Nat.reduceLT]; done) | omega | (simp only [yz] <;> omega) | fail)) only [yg,Nat.reduceAdd,Nat.reduceEqDiff,Nat.reduceLT,g10]
      · simp (disch := (first | (simp only [ne_eq,Nat.reduceEqDiff,not_false_eq_true,Nat.reduceLT]; done) | omega | (simp only [yz] <;> omega) | fail)) only [yg,Nat.reduceAdd,Nat.reduceEqDiff,Nat.reduceLT,g11]
      · simp (disch := (first | (simp only [ne_eq,Nat.reduceEqDiff,not_false_eq_true,Nat.reduceLT]; done) | omega | (simp only [yz] <;> omega) | fail)) only [yg,Nat.reduceAdd,Nat.reduceEqDiff,Nat.reduceLT,g12]
      · simp (disch := (first | (simp only [ne_eq,Nat.reduceEqDiff,not_false_eq_true,Nat.reduceLT]; done) | omega | (simp only [yz] <;> omega) | fail)) only [yg,Nat.reduceAdd,Nat.reduceEqDiff,Nat.reduceLT]
      · simp (disch := (first | (simp only [ne_eq,Nat.reduceEqDiff,not_false_eq_true,Nat.reduceLT]; done) | omega | (simp only [yz] <;> omega) | fail)) only [yg,Nat.reduceAdd,Nat.reduceEqDiff,Nat.reduceLT]
    · intro f H2 f2 h
      exact absurd hv h
  clear I g10 g11 g12
  clear e H'
  rintro e H' ⟨ab, cb, I, hnil, g14⟩
  obtain ⟨bars, hbars⟩ : ∃ b, barsL (freeP C l w ld fr to m) 4 = b := ⟨_, rfl⟩
  rw [hbars] at I hnil
  have hblen : bars.length ≤ 4 := by rw [← hbars]; exact barsL_le 4
  refine W_seqI (fun e' H'' => ∃ k15 c15, BS H C w ld l i8 i9 a' cap' fr to m bars ab cb e' H'' ∧ gt 151 e' 14 = .int .i64 0 ∧ gt 151 e' 15 = .slice (some ⟨k15, 0, none⟩) C.toNat c15 ∧ k15 < H''.size ∧ H''.get k15 = .rw (tv ((earT C l w ld fr m).take C.toNat)) 3 true []) ?_ ?_
  · have sz := I.p.fr.size
    have g8 := I.p.g8
    have g9 := I.p.g9
    have b8 := I.p.b8
    have b9 := I.p.b9
    have g10 := I.g10
    have g12 := I.g12
    simp (disch := (first | (simp only [ne_eq,Nat.reduceEqDiff,not_false_eq_true,Nat.reduceLT]; done) | omega | (simp only [yz] <;> omega) | fail)) only [↓yp,yq0,yq1,yq2,yq3,yq4,yl,ys0,ys1,Nat.reduceAdd,Nat.reduceMul,Nat.reduceSub,Nat.reduceBEq,Nat.reduceEqDiff,Nat.reduceLT,Nat.reduceLeDiff,reduceIte,Int.reduceAdd,Int.reduceSub,Int.reduceMul,Int.reduceLT,Int.reduceLE,Int.reduceEq,Int.reduceToNat,Int.reduceNeg,zed,zee,zfr,zhw,ysu,yrg,ysv,ysw,ysx,ysz,g8,g9,b8,b9,g10,g12]
    refine c52 I.p.sl (by omega) (asked_zero (cs := [fr]) (ms := [m]) hC hl16 ho (by omega) (by omega) (by simp; omega) (by simp; omega)) (by omega) (by omega) ?_
    intro k cap'' H3 fr3 hk1 hk2 hk3
    simp (disch := (first | (simp only [ne_eq,Nat.reduceEqDiff,not_false_eq_true,Nat.reduceLT]; done) | omega | (simp only [yz] <;> omega) | fail)) only [↓yp,yq0,yq1,yq2,yq3,yq4,yl,ys0,ys1,Nat.reduceAdd,Nat.reduceMul,Nat.reduceSub,Nat.reduceBEq,Nat.reduceEqDiff,Nat.reduceLT,Nat.reduceLeDiff,reduceIte,Int.reduceAdd,Int.reduceSub,Int.reduceMul,Int.reduceLT,Int.reduceLE,Int.reduceEq,Int.reduceToNat,Int.reduceNeg,zed,zee,zfr,zhw,ysu,yrg,ysv,ysw,ysx,ysz]
    refine ⟨k, cap'', I.next fr3 (by (with_reducible (repeat (first | refine Keep.put ?_ (by decide) | refine Keep.none ?_ | assumption | exact Keep.refl _ _ _)))), ?_, ?_, hk2, hk3⟩
    · simp (disch := (first | (simp only [ne_eq,Nat.reduceEqDiff,not_false_eq_true,Nat.reduceLT]; done) | omega | (simp only [yz] <;> omega) | fail)) only [yg,Nat.reduceAdd,Nat.reduceEqDiff,Nat.reduceLT,g14]
    · simp (disch := (first | (simp only [ne_eq,Nat.reduceEqDiff,not_false_eq_true,Nat.reduceLT]; done) | omega | (simp only [yz] <;> omega) | fail)) only [yg,Nat.reduceAdd,Nat.reduceEqDiff,Nat.reduceLT]
  clear I g14
  clear e H'
  rintro e H' ⟨k15, c15, I, g14, g15, l15, b15⟩
  refine W_seqI (fun e' H'' => BS H C w ld l i8 i9 a' cap' fr to m bars ab cb e' H'' ∧ gt 151 e' 14 = .int .i64 0) ?_ ?_
  · have sz := I.p.fr.size
    have g11 := I.g11
    have g13 := I.g13
    have h63 := fun (N : Nat) => c63 (N := N) (cap := cb) I.il (by omega) (fun i x y h1 h2 => by rw [← hbars] at h1 h2; have := bars_next h1 h2; omega)
    simp (disch := (first | (simp only [ne_eq,Nat.reduceEqDiff,not_false_eq_true,Nat.reduceLT]; done) | omega | (simp only [yz] <;> omega) | fail)) only [↓yp,yq0,yq1,yq2,yq3,yq4,yl,ys0,ys1,Nat.reduceAdd,Nat.reduceMul,Nat.reduceSub,Nat.reduceBEq,Nat.reduceEqDiff,Nat.reduceLT,Nat.reduceLeDiff,reduceIte,Int.reduceAdd,Int.reduceSub,Int.reduceMul,Int.reduceLT,Int.reduceLE,Int.reduceEq,Int.reduceToNat,Int.reduceNeg,zed,zee,zfr,zhw,ysu,yrg,ysv,ysw,ysx,ysz,g11,g13,g14,g15,b15,binV_nil_some zir,A_indexSlice zir,hat,nTT,nFF,h63]
    refine ⟨I.next (Fr.refl _) (by (with_reducible (repeat (first | refine Keep.put ?_ (by decide) | refine Keep.none ?_ | assumption | exact Keep.refl _ _ _)))), ?_⟩
    simp (disch := (first | (simp only [ne_eq,Nat.reduceEqDiff,not_false_eq_true,Nat.reduceLT]; done) | omega | (simp only [yz] <;> omega) | fail)) only [yg,Nat.reduceAdd,Nat.reduceEqDiff,Nat.reduceLT,g14]
  clear I g14 g15 l15 b15
  clear e H'
  rintro e H' ⟨I, g14⟩
  refine W_seqI (fun e' H'' => BS H C w ld l i8 i9 a' cap' fr to m bars ab cb e' H'') ?_ ?_
  · have sz := I.p.fr.size
    simp (disch := (first | (simp only [ne_eq,Nat.reduceEqDiff,not_false_eq_true,Nat.reduceLT]; done) | omega | (simp only [yz] <;> omega) | fail)) only [↓yp,yq0,yq1,yq2,yq3,yq4,yl,ys0,ys1,Nat.reduceAdd,Nat.reduceMul,Nat.reduceSub,Nat.reduceBEq,Nat.reduceEqDiff,Nat.reduceLT,Nat.reduceLeDiff,reduceIte,Int.reduceAdd,Int.reduceSub,Int.reduceMul,Int.reduceLT,Int.reduceLE,Int.reduceEq,Int.reduceToNat,Int.reduceNeg,zed,zee,zfr,zhw,ysu,yrg,ysv,ysw,ysx,ysz,g14]
    exact I.next (Fr.refl _) (by (with_reducible (repeat (first | refine Keep.put ?_ (by decide) | refine Keep.none ?_ | assumption | exact Keep.refl _ _ _))))
  clear I g14
  clear e H'
  rintro e H' I
  refine W_seqI (fun e' H'' => BS H C w ld l i8 i9 a' cap' fr to m bars ab cb e' H'') ?_ ?_
  · have sz := I.p.fr.size
    simp (disch := (first | (simp only [ne_eq,Nat.reduceEqDiff,not_false_eq_true,Nat.reduceLT]; done) | omega | (simp only [yz] <;> omega) | fail)) only [↓yp,yq0,yq1,yq2,yq3,yq4,yl,ys0,ys1,Nat.reduceAdd,Nat.reduceMul,Nat.reduceSub,Nat.reduceBEq,Nat.reduceEqDiff,Nat.reduceLT,Nat.reduceLeDiff,reduceIte,Int.reduceAdd,Int.reduceSub,Int.reduceMul,Int.reduceLT,Int.reduceLE,Int.reduceEq,Int.reduceToNat,Int.reduceNeg,zed,zee,zfr,zhw,ysu,yrg,ysv,ysw,ysx,ysz]
    refine W_while (n := 151) 7000 (fun k' e' H'' => ∃ j : Nat, k' = 4 - j ∧ j ≤ 4 ∧ gt 151 e' 16 = .int .i64 (j : Nat) ∧ BS H C w ld l i8 i9 a' cap' fr to m bars ab cb e' H'')
      ?_ 4 4 ⟨0, by omega, by omega, by simp (disch := (first | (simp only [ne_eq,Nat.reduceEqDiff,not_false_eq_true,Nat.reduceLT]; done) | omega | (simp only [yz] <;> omega) | fail)) only [yg,Nat.reduceAdd,Nat.reduceEqDiff,Nat.reduceLT]; rfl, I.next (Fr.refl _) (by (with_reducible (repeat (first | refine Keep.put ?_ (by decide) | refine Keep.none ?_ | assumption | exact Keep.refl _ _ _))))⟩ (by omega) (by omega)
    clear sz I
    rintro M1 k1 e H' ⟨j, rfl, hj, g16, I⟩
    have sz := I.p.fr.size
    simp (disch := (first | (simp only [ne_eq,Nat.reduceEqDiff,not_false_eq_true,Nat.reduceLT]; done) | omega | (simp only [yz] <;> omega) | fail)) only [↓yp,yq0,yq1,yq2,yq3,yq4,yl,ys0,ys1,Nat.reduceAdd,Nat.reduceMul,Nat.reduceSub,Nat.reduceBEq,Nat.reduceEqDiff,Nat.reduceLT,Nat.reduceLeDiff,reduceIte,Int.reduceAdd,Int.reduceSub,Int.reduceMul,Int.reduceLT,Int.reduceLE,Int.reduceEq,Int.reduceToNat,Int.reduceNeg,zed,zee,zfr,zhw,ysu,yrg,ysv,ysw,ysx,ysz,g16]
    refine ⟨fun hA => ?_, fun hA => ?_⟩
    · have hj4 : j < 4 := by have := of_decide_eq_true hA; omega
      have hw2 : w64 ((j : Int) + 1) = ((j + 1 : Nat) : Int) := by rw [w64_of (by omega)]; omega
      refine W_skipI (by omega) ?_
      rw [zag, zah]
      refine W_end (c12r (j := j) (I.next (Fr.refl _) (by (with_reducible (repeat (first | refine Keep.put ?_ (by decide) | refine Keep.none ?_ | assumption | exact Keep.refl _ _ _))))) X hbars.symm hj4 (by simp (disch := (first | (simp only [ne_eq,Nat.reduceEqDiff,not_false_eq_true,Nat.reduceLT]; done) | omega | (simp only [yz] <;> omega) | fail)) only [yg,Nat.reduceAdd,Nat.reduceEqDiff,Nat.reduceLT,g16])) ?_
      rintro e' H'' ⟨I', q16⟩
      have sz' := I'.p.fr.size
      simp (disch := (first | (simp only [ne_eq,Nat.reduceEqDiff,not_false_eq_true,Nat.reduceLT]; done) | omega | (simp only [yz] <;> omega) | fail)) only [↓yp,yq0,yq1,yq2,yq3,yq4,yl,ys0,ys1,Nat.reduceAdd,Nat.reduceMul,Nat.reduceSub,Nat.reduceBEq,Nat.reduceEqDiff,Nat.reduceLT,Nat.reduceLeDiff,reduceIte,Int.reduceAdd,Int.reduceSub,Int.reduceMul,Int.reduceLT,Int.reduceLE,Int.reduceEq,Int.reduceToNat,Int.reduceNeg,zed,zee,zfr,zhw,ysu,yrg,ysv,ysw,ysx,ysz,q16,hw2]
      refine ⟨4 - (j + 1), by omega, j + 1, rfl, by omega, ?_, I'.next (Fr.refl _) (by (with_reducible (repeat (first | refine Keep.put ?_ (by decide) | refine Keep.none ?_ | assumption | exact Keep.refl _ _ _))))⟩
      simp (disch := (first | (simp only [ne_eq,Nat.reduceEqDiff,not_false_eq_true,Nat.reduceLT]; done) | omega | (simp only [yz] <;> omega) | fail)) only [yg,Nat.reduceAdd,Nat.reduceEqDiff,Nat.reduceLT]
    · simp (disch := (first | (simp only [ne_eq,Nat.reduceEqDiff,not_false_eq_true,Nat.reduceLT]; done) | omega | (simp only [yz] <;> omega) | fail)) only [↓yp,yq0,yq1,yq2,yq3,yq4,yl,ys0,ys1,Nat.reduceAdd,Nat.reduceMul,Nat.reduceSub,Nat.reduceBEq,Nat.reduceEqDiff,Nat.reduceLT,Nat.reduceLeDiff,reduceIte,Int.reduceAdd,Int.reduceSub,Int.reduceMul,Int.reduceLT,Int.reduceLE,Int.reduceEq,Int.reduceToNat,Int.reduceNeg,zed,zee,zfr,zhw,ysu,yrg,ysv,ysw,ysx,ysz]
      exact I.next (Fr.refl _) (by (with_reducible (repeat (first | refine Keep.put ?_ (by decide) | refine Keep.none ?_ | assumption | exact Keep.refl _ _ _))))
  clear I
  clear e H'
  rintro e H' I
  have sz := I.p.fr.size
  have g13 := I.g13
  have hcc : decide ((bars.length : Int) = bars.length) = true := by simp
  simp (disch := (first | (simp only [ne_eq,Nat.reduceEqDiff,not_false_eq_true,Nat.reduceLT]; done) | omega | (simp only [yz] <;> omega) | fail)) only [↓yp,yq0,yq1,yq2,yq3,yq4,yl,ys0,ys1,Nat.reduceAdd,Nat.reduceMul,Nat.reduceSub,Nat.reduceBEq,Nat.reduceEqDiff,Nat.reduceLT,Nat.reduceLeDiff,reduceIte,Int.reduceAdd,Int.reduceSub,Int.reduceMul,Int.reduceLT,Int.reduceLE,Int.reduceEq,Int.reduceToNat,Int.reduceNeg,zed,zee,zfr,zhw,ysu,yrg,ysv,ysw,ysx,ysz,g13]
  refine c66 I.il (by omega) hnil (by omega) (by omega) ?_
  intro f a2 c2 H2 f2 il2
  have sz2 := f2.size
  simp (disch := (first | (simp only [ne_eq,Nat.reduceEqDiff,not_false_eq_true,Nat.reduceLT]; done) | omega | (simp only [yz] <;> omega) | fail)) only [↓yp,yq0,yq1,yq2,yq3,yq4,yl,ys0,ys1,Nat.reduceAdd,Nat.reduceMul,Nat.reduceSub,Nat.reduceBEq,Nat.reduceEqDiff,Nat.reduceLT,Nat.reduceLeDiff,reduceIte,Int.reduceAdd,Int.reduceSub,Int.reduceMul,Int.reduceLT,Int.reduceLE,Int.reduceEq,Int.reduceToNat,Int.reduceNeg,zed,zee,zfr,zhw,ysu,yrg,ysv,ysw,ysx,ysz]
  refine c65 il2 (by omega) (fun i x y h1 h2 => by rw [← hbars] at h1 h2; have := bars_next h1 h2; omega) (by omega) (by omega) ?_
  intro f H3 f3
  have sz3 := f3.size
  simp (disch := (first | (simp only [ne_eq,Nat.reduceEqDiff,not_false_eq_true,Nat.reduceLT]; done) | omega | (simp only [yz] <;> omega) | fail)) only [↓yp,yq0,yq1,yq2,yq3,yq4,yl,ys0,ys1,Nat.reduceAdd,Nat.reduceMul,Nat.reduceSub,Nat.reduceBEq,Nat.reduceEqDiff,Nat.reduceLT,Nat.reduceLeDiff,reduceIte,Int.reduceAdd,Int.reduceSub,Int.reduceMul,Int.reduceLT,Int.reduceLE,Int.reduceEq,Int.reduceToNat,Int.reduceNeg,zed,zee,zfr,zhw,ysu,yrg,ysv,ysw,ysx,ysz,g13,lenV_slice st_esS_101,hcc,awake_l]
end
end Go.Am
