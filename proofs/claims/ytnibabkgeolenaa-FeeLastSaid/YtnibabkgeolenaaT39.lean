/- The shares of a bill, added up. -/
import Derived.Test.YtnibabkgeolenaaT38
set_option linter.unusedSimpArgs false
set_option linter.unusedVariables false
namespace Go.Am
open Go.Proofs
variable {T : Tab} {P : Program} {N L : Nat} {H H' H'' : AHeap} {Q : Bool → Value → AHeap → Prop}
theorem cell0_of {c r : List Value} {k z : Nat} {v : Value} (h : (c.drop k).take (z + 1) = v :: r) : c[k]? = some v := by
  have := congrArg (fun l => l[0]?) h
  simpa [List.getElem?_take, List.getElem?_drop] using this
theorem c40 {a : Option Addr} {cap : Nat} {t : List Int} (hs : Rw intE H a t) (hl : t.length ≤ 64) (hb : ∀ x ∈ t, -1000000000000 ≤ x ∧ x ≤ 1000000000000) :
    acall tabA (aexec tabA Try.prog (N + 150)) 40 [.slice a t.length cap] H = some (true, .int .i64 (isum t), H, H.size) := by
  refine call_quiet (k := 17) (rs := [.tmp 2]) rfl fn_40 rfl rfl rfl ?_ rfl
  simp (disch := (first | (simp only [ne_eq,Nat.reduceEqDiff,not_false_eq_true,Nat.reduceLT]; done) | omega | (simp only [yz] <;> omega) | fail)) only [↓yp,yq0,yq1,yq2,yq3,yq4,yl,ys0,ys1,Nat.reduceAdd,Nat.reduceMul,Nat.reduceSub,Nat.reduceBEq,Nat.reduceEqDiff,Nat.reduceLT,Nat.reduceLeDiff,reduceIte,Int.reduceAdd,Int.reduceSub,Int.reduceMul,Int.reduceLT,Int.reduceLE,Int.reduceEq,Int.reduceToNat,Int.reduceNeg,fitB,newC,endD,endR,yrg,lenV_slice st_esS_40]
  refine W_while (n := 17) 40 (fun k e H' => ∃ i : Nat, k = t.length - i ∧ i ≤ t.length ∧ gt 17 e 8 = .int .i64 (i : Nat) ∧ gt 17 e 7 = .int .i64 t.length ∧ gt 17 e 6 = .slice a t.length cap ∧ gt 17 e 3 = .int .i64 (isum (t.take i)) ∧ H' = H)
    ?_ 64 t.length ⟨0, by omega, by omega, by simp (disch := (first | (simp only [ne_eq,Nat.reduceEqDiff,not_false_eq_true,Nat.reduceLT]; done) | omega | (simp only [yz] <;> omega) | fail)) only [yg,Nat.reduceAdd,Nat.reduceEqDiff,Nat.reduceLT]; rfl, by simp (disch := (first | (simp only [ne_eq,Nat.reduceEqDiff,not_false_eq_true,Nat.reduceLT]; done) | omega | (simp only [yz] <;> omega) | fail)) only [yg,Nat.reduceAdd,Nat.reduceEqDiff,Nat.reduceLT], by simp (disch := (first | (simp only [ne_eq,Nat.reduceEqDiff,not_false_eq_true,Nat.reduceLT]; done) | omega | (simp only [yz] <;> omega) | fail)) only [yg,Nat.reduceAdd,Nat.reduceEqDiff,Nat.reduceLT], by simp (disch := (first | (simp only [ne_eq,Nat.reduceEqDiff,not_false_eq_true,Nat.reduceLT]; done) | omega | (simp only [yz] <;> omega) | fail)) only [yg,Nat.reduceAdd,Nat.reduceEqDiff,Nat.reduceLT]; rfl, rfl⟩ (by omega) (by omega)
  rintro M k e H' ⟨i, rfl, hi, g8, g7, g6, g3, rfl⟩
  simp (disch := (first | (simp only [ne_eq,Nat.reduceEqDiff,not_false_eq_true,Nat.reduceLT]; done) | omega | (simp only [yz] <;> omega) | fail)) only [↓yp,yq0,yq1,yq2,yq3,yq4,yl,ys0,ys1,Nat.reduceAdd,Nat.reduceMul,Nat.reduceSub,Nat.reduceBEq,Nat.reduceEqDiff,Nat.reduceLT,Nat.reduceLeDiff,reduceIte,Int.reduceAdd,Int.reduceSub,Int.reduceMul,Int.reduceLT,Int.reduceLE,Int.reduceEq,Int.reduceToNat,Int.reduceNeg,fitB,newC,endD,endR,yrg,g8,g7]
  refine ⟨fun hA => ?_, fun hA => ?_⟩
  · have hi' : i < t.length := by simpa using hA
    obtain ⟨v, hv⟩ : ∃ v, t[i]? = some v := ⟨t[i], by simp [hi']⟩
    obtain ⟨b, o, c, rfl, hb', hc, hp⟩ := hs.at_ hv
    have q := cell_of hp
    rw [show i * intE.z = i * 1 from rfl, Nat.mul_one] at q
    have hv2 := hb v (List.mem_of_getElem? hv)
    have hs1 := isum_in (l := t.take i) (m := 1000000000000) fun x hx => hb x (List.mem_of_mem_take hx)
    have hl1 : (t.take i).length ≤ 64 := by rw [List.length_take]; omega
    have e1 : isum (t.take i) + v = isum (t.take (i + 1)) := by
      rw [List.take_add_one, hv, isum_app]; show _ = _ + (v + 0); omega
    have hw : w64 (isum (t.take i) + v) = isum (t.take (i + 1)) := by rw [w64_of (by omega), e1]
    have hw2 : w64 ((i : Int) + 1) = ((i + 1 : Nat) : Int) := by rw [w64_of (by omega)]; omega
    simp (disch := (first | (simp only [ne_eq,Nat.reduceEqDiff,not_false_eq_true,Nat.reduceLT]; done) | omega | (simp only [yz] <;> omega) | fail)) only [↓yp,yq0,yq1,yq2,yq3,yq4,yl,ys0,ys1,Nat.reduceAdd,Nat.reduceMul,Nat.reduceSub,Nat.reduceBEq,Nat.reduceEqDiff,Nat.reduceLT,Nat.reduceLeDiff,reduceIte,Int.reduceAdd,Int.reduceSub,Int.reduceMul,Int.reduceLT,Int.reduceLE,Int.reduceEq,Int.reduceToNat,Int.reduceNeg,fitB,newC,endD,endR,yrg,g8,g7,g6,g3,A_indexSlice st_esS_40,hc,q,hw,hw2]
    exact ⟨t.length - (i + 1), by omega, i + 1, rfl, by omega, by simp (disch := (first | (simp only [ne_eq,Nat.reduceEqDiff,not_false_eq_true,Nat.reduceLT]; done) | omega | (simp only [yz] <;> omega) | fail)) only [yg,Nat.reduceAdd,Nat.reduceEqDiff,Nat.reduceLT], by simp (disch := (first | (simp only [ne_eq,Nat.reduceEqDiff,not_false_eq_true,Nat.reduceLT]; done) | omega | (simp only [yz] <;> omega) | fail)) only [yg,Nat.reduceAdd,Nat.reduceEqDiff,Nat.reduceLT,g7], by simp (disch := (first | (simp only [ne_eq,Nat.reduceEqDiff,not_false_eq_true,Nat.reduceLT]; done) | omega | (simp only [yz] <;> omega) | fail)) only [yg,Nat.reduceAdd,Nat.reduceEqDiff,Nat.reduceLT,g6], by simp (disch := (first | (simp only [ne_eq,Nat.reduceEqDiff,not_false_eq_true,Nat.reduceLT]; done) | omega | (simp only [yz] <;> omega) | fail)) only [yg,Nat.reduceAdd,Nat.reduceEqDiff,Nat.reduceLT], rfl⟩
  · have hi' : i = t.length := by have : ¬ ((i : Int) < t.length) := by simpa using hA
                                  omega
    subst hi'
    rw [List.take_length] at g3
    simp (disch := (first | (simp only [ne_eq,Nat.reduceEqDiff,not_false_eq_true,Nat.reduceLT]; done) | omega | (simp only [yz] <;> omega) | fail)) only [↓yp,yq0,yq1,yq2,yq3,yq4,yl,ys0,ys1,Nat.reduceAdd,Nat.reduceMul,Nat.reduceSub,Nat.reduceBEq,Nat.reduceEqDiff,Nat.reduceLT,Nat.reduceLeDiff,reduceIte,Int.reduceAdd,Int.reduceSub,Int.reduceMul,Int.reduceLT,Int.reduceLE,Int.reduceEq,Int.reduceToNat,Int.reduceNeg,fitB,newC,endD,endR,yrg,g3]
section
variable {kb ka cap : Nat} {a : Option Addr} {hs : List Hs} {p A : Int}
theorem c41 {i : Nat} {s : Hs} (hb : H.get kb = .rw [.int .i64 p, .slice a hs.length cap] 39 false []) (ha : H.get ka = .rw [.int .i64 A] 3 false []) (hr : Rw hsE H a hs) (hok : BilOk p hs) (hA : isum (hs.map Hs.v) = A) (h0 : 0 < A) (hp : hs[i]? = some s) :
    acall tabA (aexec tabA Try.prog (N + 150)) 41 [.int .i64 (i : Nat), .pointer (some ⟨kb, 0, none⟩), .pointer (some ⟨ka, 0, none⟩)] H = some (true, .int .i64 (p * s.v % A), H, H.size) := by
  refine call_quiet (k := 16) (rs := [.tmp 4]) rfl fn_41 rfl rfl rfl ?_ rfl
  obtain ⟨bl, o, cc, rfl, hbl, hc, hqq⟩ := hr.at_ hp
  have hmem := List.mem_of_getElem? hp
  have hi := (List.getElem?_eq_some_iff.1 hp).1
  have hlen := hok.len
  have hpv := pv_bd hok hmem
  obtain ⟨X, hX⟩ : ∃ X, p * s.v = X := ⟨_, rfl⟩
  rw [hX] at hpv ⊢
  have w1 : w64 (p * s.v) = X := by rw [w64_of (by omega), hX]
  have hrem := fun (x y : Operand) => i64_rem (T := tabA) (P := Try.prog) (ty := 3) (x := x) (y := y) (a := X) (b := A) (by omega)
  have em : X.tmod A = X % A := Int.tmod_eq_emod_of_nonneg hpv.1
  have q0 : cc[o + i * 3]? = some (.int .i64 s.v) := cell0_of (z := 2) hqq
  simp (disch := (first | (simp only [ne_eq,Nat.reduceEqDiff,not_false_eq_true,Nat.reduceLT]; done) | omega | (simp only [yz] <;> omega) | fail)) only [↓yp,yq0,yq1,yq2,yq3,yq4,yl,ys0,ys1,Nat.reduceAdd,Nat.reduceMul,Nat.reduceSub,Nat.reduceBEq,Nat.reduceEqDiff,Nat.reduceLT,Nat.reduceLeDiff,reduceIte,Int.reduceAdd,Int.reduceSub,Int.reduceMul,Int.reduceLT,Int.reduceLE,Int.reduceEq,Int.reduceToNat,Int.reduceNeg,fitB,newC,endD,endR,yrg]
  refine W_draw [] rfl (by kernel_rfl) (by kernel_rfl) (by (first | omega | (simp only [yz] <;> omega))) ?_
  simp (disch := (first | (simp only [ne_eq,Nat.reduceEqDiff,not_false_eq_true,Nat.reduceLT]; done) | omega | (simp only [yz] <;> omega) | fail)) only [↓yp,yq0,yq1,yq2,yq3,yq4,yl,ys0,ys1,Nat.reduceAdd,Nat.reduceMul,Nat.reduceSub,Nat.reduceBEq,Nat.reduceEqDiff,Nat.reduceLT,Nat.reduceLeDiff,reduceIte,Int.reduceAdd,Int.reduceSub,Int.reduceMul,Int.reduceLT,Int.reduceLE,Int.reduceEq,Int.reduceToNat,Int.reduceNeg,fitB,newC,endD,endR,yrg,hb,ha,A_indexSlice st_esS_37,hc,q0,w1,hrem,em]
/-- What the law knows when it goes through the shares. -/
structure L6 (H' : AHeap) (kb ka b b1 b2 c c1 c2 : Nat) (p A : Int) (hs : List Hs) (q : List Int) (e : VT) : Prop where
  g3 : gt 207 e 3 = .pointer (some ⟨kb, 0, none⟩)
  g4 : gt 207 e 4 = .pointer (some ⟨ka, 0, none⟩)
  g7 : gt 207 e 7 = .slice (some ⟨b1, 0, none⟩) hs.length c1
  g9 : gt 207 e 9 = .slice (some ⟨b2, 0, none⟩) hs.length c2
  g11 : gt 207 e 11 = .func (.func 41) #[] #[.pointer (some ⟨kb, 0, none⟩), .pointer (some ⟨ka, 0, none⟩)]
  bb : H'.get kb = .rw [.int .i64 p, .slice (some ⟨b, 0, none⟩) hs.length c] 39 false []
  ba : H'.get ka = .rw [.int .i64 A] 3 false []
  r : Rw hsE H' (some ⟨b, 0, none⟩) hs
  r1 : Rw raE H' (some ⟨b1, 0, none⟩) (hs.map (exR p A))
  r2 : Rw intE H' (some ⟨b2, 0, none⟩) q
  ok : BilOk p hs
  sum : isum (hs.map Hs.v) = A
  pos : 0 < A
  len : q.length = hs.length
  lt : kb < H'.size ∧ ka < H'.size
theorem c6i {kb ka b b1 b2 c c1 c2 : Nat} {q : List Int} {e : VT} {i : Nat} {u : Bool} {M : Nat} (I : L6 H' kb ka b b1 b2 c c1 c2 p A hs q e) (g12 : gt 207 e 12 = .int .i64 (i : Nat)) (g15 : gt 207 e 15 = .bool u) (hi : i < hs.length)
    (one : ∀ (i : Nat) (y z : Int), q[i]? = some y → (flr p A (hs.map Hs.v))[i]? = some z → y = z ∨ y = z + 1)
    (hu : u = true → ∀ (k : Nat) (y : Int), q[k]? = some y → (flr p A (hs.map Hs.v))[k]? = some y → bef (rms p A (hs.map Hs.v)) i k) (hM : 1000 ≤ M) (hL : L ≤ H'.size) :
    W tabA Try.prog M none (sub [true, true, true, true, true, true, true, true, true, false, true, false, false, true, true, false, false, true, true, true, true, true] (bodyOf Try.f6)) L ⟨207, e, H', []⟩ (endK 207 [] fun e' G => Keep 207 [3, 4, 7, 9, 11, 89, 90, 91] e e' ∧ G = H') := by
  obtain ⟨N, rfl⟩ : ∃ N, M = N + 1000 := ⟨M - 1000, by omega⟩
  simp only [Try.f6,bodyOf,sub_nil,sub_seq0,sub_seq1,sub_block,sub_loop,sub_cond0,sub_cond1]
  have g3 := I.g3
  have g4 := I.g4
  have g7 := I.g7
  have g9 := I.g9
  have g11 := I.g11
  have bb := I.bb
  have ba := I.ba
  have hlen := I.ok.len
  simp (disch := (first | (simp only [ne_eq,Nat.reduceEqDiff,not_false_eq_true,Nat.reduceLT]; done) | omega | (simp only [yz] <;> omega) | fail)) only [↓yp,yq0,yq1,yq2,yq3,yq4,yl,ys0,ys1,Nat.reduceAdd,Nat.reduceMul,Nat.reduceSub,Nat.reduceBEq,Nat.reduceEqDiff,Nat.reduceLT,Nat.reduceLeDiff,reduceIte,Int.reduceAdd,Int.reduceSub,Int.reduceMul,Int.reduceLT,Int.reduceLE,Int.reduceEq,Int.reduceToNat,Int.reduceNeg,fitB,newC,endD,endR,yrg,g7,lenV_slice st_esS_73]
  refine W_while (n := 207) 400 (fun q' e' G => ∃ k : Nat, q' = hs.length - k ∧ k ≤ hs.length ∧ gt 207 e' 157 = .int .i64 (k : Nat) ∧ gt 207 e' 156 = .int .i64 hs.length ∧ Keep 207 [3, 4, 7, 9, 11, 12, 15, 89, 90, 91] e e' ∧ G = H')
    ?_ 8 hs.length ⟨0, by omega, by omega, by simp (disch := (first | (simp only [ne_eq,Nat.reduceEqDiff,not_false_eq_true,Nat.reduceLT]; done) | omega | (simp only [yz] <;> omega) | fail)) only [yg,Nat.reduceAdd,Nat.reduceEqDiff,Nat.reduceLT]; rfl, by simp (disch := (first | (simp only [ne_eq,Nat.reduceEqDiff,not_false_eq_true,Nat.reduceLT]; done) | omega | (simp only [yz] <;> omega) | fail)) only [yg,Nat.reduceAdd,Nat.reduceEqDiff,Nat.reduceLT], by (with_reducible (repeat (first | refine Keep.put ?_ (by decide) | refine Keep.none ?_ | assumption | exact Keep.refl _ _ _))), rfl⟩ (by omega) (by omega)
  rintro M q' e' G ⟨k, rfl, hk, t157, t156, kp, rfl⟩
  have k3 := (kp 3 (by decide)).trans g3
  have k4 := (kp 4 (by decide)).trans g4
  have k7 := (kp 7 (by decide)).trans g7
  have k9 := (kp 9 (by decide)).trans g9
  have k11 := (kp 11 (by decide)).trans g11
  have k12 := (kp 12 (by decide)).trans g12
  have k15 := (kp 15 (by decide)).trans g15
  simp (disch := (first | (simp only [ne_eq,Nat.reduceEqDiff,not_false_eq_true,Nat.reduceLT]; done) | omega | (simp only [yz] <;> omega) | fail)) only [↓yp,yq0,yq1,yq2,yq3,yq4,yl,ys0,ys1,Nat.reduceAdd,Nat.reduceMul,Nat.reduceSub,Nat.reduceBEq,Nat.reduceEqDiff,Nat.reduceLT,Nat.reduceLeDiff,reduceIte,Int.reduceAdd,Int.reduceSub,Int.reduceMul,Int.reduceLT,Int.reduceLE,Int.reduceEq,Int.reduceToNat,Int.reduceNeg,fitB,newC,endD,endR,yrg,t157,t156]
  refine ⟨fun hA => ?_, fun hA => ?_⟩
  · have hk' : k < hs.length := by simpa using hA
    obtain ⟨s, hs'⟩ : ∃ s, hs[k]? = some s := ⟨_, List.getElem?_eq_getElem hk'⟩
    obtain ⟨s0, hs0⟩ : ∃ s, hs[i]? = some s := ⟨_, List.getElem?_eq_getElem hi⟩
    obtain ⟨y, hy⟩ : ∃ y, q[k]? = some y := ⟨_, List.getElem?_eq_getElem (by have := I.len; omega)⟩
    obtain ⟨bl, o, cc, e1, hbl, hc, hqq⟩ := I.r.at_ hs'
    cases e1
    obtain ⟨bl2, o2, cc2, e2, hbl2, hc2, hqq2⟩ := I.r2.at_ hy
    cases e2
    have q0 : cc[0 + k * 3]? = some (.int .i64 s.v) := cell0_of (z := 2) hqq
    have q2 := cell_of hqq2
    rw [show k * intE.z = k * 1 from rfl, Nat.mul_one, Nat.zero_add] at q2
    rw [Nat.zero_add] at q0
    have hmem := List.mem_of_getElem? hs'
    have hpv := pv_bd I.ok hmem
    have hfb := fl_bd I.ok I.sum I.pos hmem
    obtain ⟨X, hX⟩ : ∃ X, p * s.v = X := ⟨_, rfl⟩
    have fk : (flr p A (hs.map Hs.v))[k]? = some (X / A) := by unfold flr; rw [List.getElem?_map, List.getElem?_map, hs', ← hX]; rfl
    have rk : (rms p A (hs.map Hs.v))[k]? = some (X % A) := by unfold rms; rw [List.getElem?_map, List.getElem?_map, hs', ← hX]; rfl
    have ri : (rms p A (hs.map Hs.v))[i]? = some (p * s0.v % A) := by unfold rms; rw [List.getElem?_map, List.getElem?_map, hs0]; rfl
    have h41k := fun (N : Nat) => c41 (N := N) bb ba I.r I.ok I.sum I.pos hs'
    have h41i := fun (N : Nat) => c41 (N := N) bb ba I.r I.ok I.sum I.pos hs0
    obtain ⟨Y, hY⟩ : ∃ Y, p * s0.v % A = Y := ⟨_, rfl⟩
    rw [hX] at hpv hfb h41k
    rw [hY] at h41i ri
    have w1 : w64 (p * s.v) = X := by rw [w64_of (by omega), hX]
    have hpos := I.pos
    have hquo := fun (x y : Operand) => i64_quo (T := tabA) (P := Try.prog) (ty := 3) (x := x) (y := y) (a := X) (b := A) (by omega)
    have eq : X.tdiv A = X / A := Int.tdiv_eq_ediv_of_nonneg hpv.1
    have w3 : w64 (X / A) = X / A := w64_of (by omega)
    have hw2 : w64 ((k : Int) + 1) = ((k + 1 : Nat) : Int) := by rw [w64_of (by omega)]; omega
    simp (disch := (first | (simp only [ne_eq,Nat.reduceEqDiff,not_false_eq_true,Nat.reduceLT]; done) | omega | (simp only [yz] <;> omega) | fail)) only [↓yp,yq0,yq1,yq2,yq3,yq4,yl,ys0,ys1,Nat.reduceAdd,Nat.reduceMul,Nat.reduceSub,Nat.reduceBEq,Nat.reduceEqDiff,Nat.reduceLT,Nat.reduceLeDiff,reduceIte,Int.reduceAdd,Int.reduceSub,Int.reduceMul,Int.reduceLT,Int.reduceLE,Int.reduceEq,Int.reduceToNat,Int.reduceNeg,fitB,newC,endD,endR,yrg,t157]
    refine W_draw [] rfl (by kernel_rfl) (by kernel_rfl) (by (first | omega | (simp only [yz] <;> omega))) ?_
    obtain ⟨o', ho⟩ : ∃ o', decide (X / A < y) = o' := ⟨_, rfl⟩
    simp (disch := (first | (simp only [ne_eq,Nat.reduceEqDiff,not_false_eq_true,Nat.reduceLT]; done) | omega | (simp only [yz] <;> omega) | fail)) only [↓yp,yq0,yq1,yq2,yq3,yq4,yl,ys0,ys1,Nat.reduceAdd,Nat.reduceMul,Nat.reduceSub,Nat.reduceBEq,Nat.reduceEqDiff,Nat.reduceLT,Nat.reduceLeDiff,reduceIte,Int.reduceAdd,Int.reduceSub,Int.reduceMul,Int.reduceLT,Int.reduceLE,Int.reduceEq,Int.reduceToNat,Int.reduceNeg,fitB,newC,endD,endR,yrg,k9,k3,k4,bb,ba,A_indexSlice st_esS_37,A_indexSlice st_esS_40,hc,hc2,q0,q2,w1,hquo,eq,w3,ho]
    cases u
    · simp (disch := (first | (simp only [ne_eq,Nat.reduceEqDiff,not_false_eq_true,Nat.reduceLT]; done) | omega | (simp only [yz] <;> omega) | fail)) only [↓yp,yq0,yq1,yq2,yq3,yq4,yl,ys0,ys1,Nat.reduceAdd,Nat.reduceMul,Nat.reduceSub,Nat.reduceBEq,Nat.reduceEqDiff,Nat.reduceLT,Nat.reduceLeDiff,reduceIte,Int.reduceAdd,Int.reduceSub,Int.reduceMul,Int.reduceLT,Int.reduceLE,Int.reduceEq,Int.reduceToNat,Int.reduceNeg,fitB,newC,endD,endR,yrg,k15,k11,k12,hw2,t157]
      exact ⟨hs.length - (k + 1), by omega, k + 1, rfl, by omega, by simp (disch := (first | (simp only [ne_eq,Nat.reduceEqDiff,not_false_eq_true,Nat.reduceLT]; done) | omega | (simp only [yz] <;> omega) | fail)) only [yg,Nat.reduceAdd,Nat.reduceEqDiff,Nat.reduceLT], by simp (disch := (first | (simp only [ne_eq,Nat.reduceEqDiff,not_false_eq_true,Nat.reduceLT]; done) | omega | (simp only [yz] <;> omega) | fail)) only [yg,Nat.reduceAdd,Nat.reduceEqDiff,Nat.reduceLT,t156], by (with_reducible (repeat (first | refine Keep.put ?_ (by decide) | refine Keep.none ?_ | assumption | exact Keep.refl _ _ _))), rfl⟩
    · cases o'
      · have hyz : y = X / A := by
          have := of_decide_eq_false ho
          rcases one k y _ hy fk with e | e <;> omega
        obtain ⟨x', y', a1, a2, a3⟩ := hu rfl k y hy (by rw [hyz]; exact fk)
        rw [ri] at a1
        rw [rk] at a2
        cases a1
        cases a2
        have hc1 : decide (Y < X % A) = false := by simp; omega
        by_cases hq2 : X % A = Y
        · have hc2' : decide (X % A = Y) = true := decide_eq_true hq2
          have hc3 : decide ((k : Int) < (i : Int)) = false := by simp; omega
          simp (disch := (first | (simp only [ne_eq,Nat.reduceEqDiff,not_false_eq_true,Nat.reduceLT]; done) | omega | (simp only [yz] <;> omega) | fail)) only [↓yp,yq0,yq1,yq2,yq3,yq4,yl,ys0,ys1,Nat.reduceAdd,Nat.reduceMul,Nat.reduceSub,Nat.reduceBEq,Nat.reduceEqDiff,Nat.reduceLT,Nat.reduceLeDiff,reduceIte,Int.reduceAdd,Int.reduceSub,Int.reduceMul,Int.reduceLT,Int.reduceLE,Int.reduceEq,Int.reduceToNat,Int.reduceNeg,fitB,newC,endD,endR,yrg,k15,k11,k12,hw2,h41k,h41i,calK_func,hc1,hc2',hc3,t157]
          exact ⟨hs.length - (k + 1), by omega, k + 1, rfl, by omega, by simp (disch := (first | (simp only [ne_eq,Nat.reduceEqDiff,not_false_eq_true,Nat.reduceLT]; done) | omega | (simp only [yz] <;> omega) | fail)) only [yg,Nat.reduceAdd,Nat.reduceEqDiff,Nat.reduceLT], by simp (disch := (first | (simp only [ne_eq,Nat.reduceEqDiff,not_false_eq_true,Nat.reduceLT]; done) | omega | (simp only [yz] <;> omega) | fail)) only [yg,Nat.reduceAdd,Nat.reduceEqDiff,Nat.reduceLT,t156], by (with_reducible (repeat (first | refine Keep.put ?_ (by decide) | refine Keep.none ?_ | assumption | exact Keep.refl _ _ _))), rfl⟩
        · have hc2' : decide (X % A = Y) = false := decide_eq_false hq2
          simp (disch := (first | (simp only [ne_eq,Nat.reduceEqDiff,not_false_eq_true,Nat.reduceLT]; done) | omega | (simp only [yz] <;> omega) | fail)) only [↓yp,yq0,yq1,yq2,yq3,yq4,yl,ys0,ys1,Nat.reduceAdd,Nat.reduceMul,Nat.reduceSub,Nat.reduceBEq,Nat.reduceEqDiff,Nat.reduceLT,Nat.reduceLeDiff,reduceIte,Int.reduceAdd,Int.reduceSub,Int.reduceMul,Int.reduceLT,Int.reduceLE,Int.reduceEq,Int.reduceToNat,Int.reduceNeg,fitB,newC,endD,endR,yrg,k15,k11,k12,hw2,h41k,h41i,calK_func,hc1,hc2',t157]
          exact ⟨hs.length - (k + 1), by omega, k + 1, rfl, by omega, by simp (disch := (first | (simp only [ne_eq,Nat.reduceEqDiff,not_false_eq_true,Nat.reduceLT]; done) | omega | (simp only [yz] <;> omega) | fail)) only [yg,Nat.reduceAdd,Nat.reduceEqDiff,Nat.reduceLT], by simp (disch := (first | (simp only [ne_eq,Nat.reduceEqDiff,not_false_eq_true,Nat.reduceLT]; done) | omega | (simp only [yz] <;> omega) | fail)) only [yg,Nat.reduceAdd,Nat.reduceEqDiff,Nat.reduceLT,t156], by (with_reducible (repeat (first | refine Keep.put ?_ (by decide) | refine Keep.none ?_ | assumption | exact Keep.refl _ _ _))), rfl⟩
      · simp (disch := (first | (simp only [ne_eq,Nat.reduceEqDiff,not_false_eq_true,Nat.reduceLT]; done) | omega | (simp only [yz] <;> omega) | fail)) only [↓yp,yq0,yq1,yq2,yq3,yq4,yl,ys0,ys1,Nat.reduceAdd,Nat.reduceMul,Nat.reduceSub,Nat.reduceBEq,Nat.reduceEqDiff,Nat.reduceLT,Nat.reduceLeDiff,reduceIte,Int.reduceAdd,Int.reduceSub,Int.reduceMul,Int.reduceLT,Int.reduceLE,Int.reduceEq,Int.reduceToNat,Int.reduceNeg,fitB,newC,endD,endR,yrg,k15,k11,k12,hw2,t157]
        exact ⟨hs.length - (k + 1), by omega, k + 1, rfl, by omega, by simp (disch := (first | (simp only [ne_eq,Nat.reduceEqDiff,not_false_eq_true,Nat.reduceLT]; done) | omega | (simp only [yz] <;> omega) | fail)) only [yg,Nat.reduceAdd,Nat.reduceEqDiff,Nat.reduceLT], by simp (disch := (first | (simp only [ne_eq,Nat.reduceEqDiff,not_false_eq_true,Nat.reduceLT]; done) | omega | (simp only [yz] <;> omega) | fail)) only [yg,Nat.reduceAdd,Nat.reduceEqDiff,Nat.reduceLT,t156], by (with_reducible (repeat (first | refine Keep.put ?_ (by decide) | refine Keep.none ?_ | assumption | exact Keep.refl _ _ _))), rfl⟩
  · simp (disch := (first | (simp only [ne_eq,Nat.reduceEqDiff,not_false_eq_true,Nat.reduceLT]; done) | omega | (simp only [yz] <;> omega) | fail)) only [↓yp,yq0,yq1,yq2,yq3,yq4,yl,ys0,ys1,Nat.reduceAdd,Nat.reduceMul,Nat.reduceSub,Nat.reduceBEq,Nat.reduceEqDiff,Nat.reduceLT,Nat.reduceLeDiff,reduceIte,Int.reduceAdd,Int.reduceSub,Int.reduceMul,Int.reduceLT,Int.reduceLE,Int.reduceEq,Int.reduceToNat,Int.reduceNeg,fitB,newC,endD,endR,yrg]
    have sub' : ∀ {l l' : List Nat} {e e' : VT}, (∀ j ∈ l', j ∈ l) → Keep 207 l e e' → Keep 207 l' e e' := fun h k j hj => k j (h j hj)
    exact ⟨by refine Keep.put (sub' (by decide) kp) (by decide), rfl⟩
end
end Go.Am
/- All shares are looked at. -/
namespace Go.Am
open Go.Proofs
variable {T : Tab} {P : Program} {N L : Nat} {H H' H'' : AHeap} {Q : Bool → Value → AHeap → Prop}
theorem RemI.some_ {P A j : Int} {vs p : List Int} (h : RemI P A vs p j) {i : Nat} {y z : Int} (h1 : p[i]? = some y) (h2 : (flr P A vs)[i]? = some z) (h3 : y = z + 1) : 0 < j := by
  have hi : i < p.length := (List.getElem?_eq_some_iff.1 h1).1
  have e0 : (List.replicate p.length (0 : Int))[i]? = some 0 := by rw [List.getElem?_replicate, if_pos hi]
  have := isum_lin (r := (List.replicate p.length (0 : Int)).set i 1) (p := p) (f := flr P A vs) (c := 1) (by rw [List.length_set, List.length_replicate, h.len, flr_len]) (by rw [h.len, flr_len]) fun k x y' z' e1 e2 e3 => by
    rw [List.getElem?_set] at e1
    split at e1
    · rename_i hik
      subst hik
      rw [h1] at e2; cases e2
      rw [h2] at e3; cases e3
      have : (1 : Int) = x := by split at e1 <;> simp_all
      omega
    · rw [List.getElem?_replicate] at e1
      have : (0 : Int) = x := by split at e1 <;> simp_all
      rcases h.one k y' z' e2 e3 with e | e <;> omega
  rw [isum_set 1 e0, h.sum] at this
  have hz : ∀ k, isum (List.replicate k (0 : Int)) = 0 := fun k => by
    induction k with
    | zero => rfl
    | succ k ih => rw [List.replicate_succ]; show 0 + isum (List.replicate k 0) = 0; rw [ih]; rfl
  rw [hz] at this
  omega
section
variable {kb ka cap : Nat} {hs : List Hs} {p A : Int} {b b1 b2 c c1 c2 : Nat} {q : List Int} {e e' : VT} {K : Nat}
theorem L6.next (I : L6 H' kb ka b b1 b2 c c1 c2 p A hs q e) (f : Fr H' H'') (k : Keep 207 [3, 4, 7, 9, 11] e e') : L6 H'' kb ka b b1 b2 c c1 c2 p A hs q e' where
  g3 := (k 3 (by decide)).trans I.g3
  g4 := (k 4 (by decide)).trans I.g4
  g7 := (k 7 (by decide)).trans I.g7
  g9 := (k 9 (by decide)).trans I.g9
  g11 := (k 11 (by decide)).trans I.g11
  bb := (f.same _ I.lt.1).trans I.bb
  ba := (f.same _ I.lt.2).trans I.ba
  r := I.r.fr f
  r1 := I.r1.fr f
  r2 := I.r2.fr f
  ok := I.ok
  sum := I.sum
  pos := I.pos
  len := I.len
  lt := ⟨Nat.lt_of_lt_of_le I.lt.1 f.size, Nat.lt_of_lt_of_le I.lt.2 f.size⟩
theorem c6b {M : Nat} (I : L6 H' kb ka b b1 b2 c c1 c2 p A hs q e) (R : RemI p A (hs.map Hs.v) q (K : Nat)) (hK : isum (rms p A (hs.map Hs.v)) = A * (K : Nat)) (hM : 3000 ≤ M) (hL : L ≤ H'.size) :
    W tabA Try.prog M none (sub [true, true, true, true, true, true, true, true, true] (bodyOf Try.f6)) L ⟨207, e, H', []⟩ (retK tabA L [.tmp 2] fun u _ => u = .bool true) := by
  obtain ⟨N, rfl⟩ : ∃ N, M = N + 3000 := ⟨M - 3000, by omega⟩
  have haw := fun (N : Nat) (H : AHeap) => awake_known (ex := aexec tabA Try.prog N) (H := H)
  obtain ⟨inner, hin⟩ : ∃ c, sub [true, true, true, true, true, true, true, true, true, false, true, false, false, true, true, false, false, true, true, true, true, true] (bodyOf Try.f6) = c := ⟨_, rfl⟩
  have h6i := fun (G : AHeap) (e : VT) (i : Nat) (u : Bool) (M : Nat) (I : L6 G kb ka b b1 b2 c c1 c2 p A hs q e) (g12 : gt 207 e 12 = .int .i64 (i : Nat)) (g15 : gt 207 e 15 = .bool u) (hi : i < hs.length) (hu : u = true → ∀ (k : Nat) (y : Int), q[k]? = some y → (flr p A (hs.map Hs.v))[k]? = some y → bef (rms p A (hs.map Hs.v)) i k) (hM : 1000 ≤ M) (hL : L ≤ G.size) => c6i (L := L) I g12 g15 hi R.one hu hM hL
  rw [hin] at h6i
  simp only [Try.f6,bodyOf,sub_nil,sub_seq0,sub_seq1,sub_block,sub_loop,sub_cond0,sub_cond1] at hin ⊢
  rw [hin]
  have hlen := I.ok.len
  have g7 := I.g7
  simp (disch := (first | (simp only [ne_eq,Nat.reduceEqDiff,not_false_eq_true,Nat.reduceLT]; done) | omega | (simp only [yz] <;> omega) | fail)) only [↓yp,yq0,yq1,yq2,yq3,yq4,yl,ys0,ys1,Nat.reduceAdd,Nat.reduceMul,Nat.reduceSub,Nat.reduceBEq,Nat.reduceEqDiff,Nat.reduceLT,Nat.reduceLeDiff,reduceIte,Int.reduceAdd,Int.reduceSub,Int.reduceMul,Int.reduceLT,Int.reduceLE,Int.reduceEq,Int.reduceToNat,Int.reduceNeg,fitB,newC,endD,endR,yrg,g7,lenV_slice st_esS_73]
  refine W_while (n := 207) 1800 (fun q' e' G => ∃ i : Nat, q' = hs.length - i ∧ i ≤ hs.length ∧ gt 207 e' 91 = .int .i64 (i : Nat) ∧ gt 207 e' 90 = .int .i64 hs.length ∧ gt 207 e' 89 = .slice (some ⟨b1, 0, none⟩) hs.length c1 ∧ Keep 207 [3, 4, 7, 9, 11] e e' ∧ Fr H' G)
    ?_ 8 hs.length ⟨0, by omega, by omega, by simp (disch := (first | (simp only [ne_eq,Nat.reduceEqDiff,not_false_eq_true,Nat.reduceLT]; done) | omega | (simp only [yz] <;> omega) | fail)) only [yg,Nat.reduceAdd,Nat.reduceEqDiff,Nat.reduceLT]; rfl, by simp (disch := (first | (simp only [ne_eq,Nat.reduceEqDiff,not_false_eq_true,Nat.reduceLT]; done) | omega | (simp only [yz] <;> omega) | fail)) only [yg,Nat.reduceAdd,Nat.reduceEqDiff,Nat.reduceLT], by simp (disch := (first | (simp only [ne_eq,Nat.reduceEqDiff,not_false_eq_true,Nat.reduceLT]; done) | omega | (simp only [yz] <;> omega) | fail)) only [yg,Nat.reduceAdd,Nat.reduceEqDiff,Nat.reduceLT], by (with_reducible (repeat (first | refine Keep.put ?_ (by decide) | refine Keep.none ?_ | assumption | exact Keep.refl _ _ _))), Fr.refl _⟩ (by omega) (by omega)
  rintro M q' e' G ⟨i, rfl, hi, t91, t90, t89, kp, fr⟩
  have J := I.next fr kp
  have k3 := J.g3
  have k4 := J.g4
  have k7 := J.g7
  have k9 := J.g9
  have k11 := J.g11
  have bb := J.bb
  have ba := J.ba
  have hlt := J.lt
  have fz := fr.size
  simp (disch := (first | (simp only [ne_eq,Nat.reduceEqDiff,not_false_eq_true,Nat.reduceLT]; done) | omega | (simp only [yz] <;> omega) | fail)) only [↓yp,yq0,yq1,yq2,yq3,yq4,yl,ys0,ys1,Nat.reduceAdd,Nat.reduceMul,Nat.reduceSub,Nat.reduceBEq,Nat.reduceEqDiff,Nat.reduceLT,Nat.reduceLeDiff,reduceIte,Int.reduceAdd,Int.reduceSub,Int.reduceMul,Int.reduceLT,Int.reduceLE,Int.reduceEq,Int.reduceToNat,Int.reduceNeg,fitB,newC,endD,endR,yrg,t91,t90]
  refine ⟨fun hA => ?_, fun hA => ?_⟩
  · have hi' : i < hs.length := by simpa using hA
    obtain ⟨s, hs'⟩ : ∃ s, hs[i]? = some s := ⟨_, List.getElem?_eq_getElem hi'⟩
    obtain ⟨y, hy⟩ : ∃ y, q[i]? = some y := ⟨_, List.getElem?_eq_getElem (by have := I.len; omega)⟩
    have hmem := List.mem_of_getElem? hs'
    have hpv := pv_bd I.ok hmem
    have hfb := fl_bd I.ok I.sum I.pos hmem
    obtain ⟨X, hX⟩ : ∃ X, p * s.v = X := ⟨_, rfl⟩
    have fk : (flr p A (hs.map Hs.v))[i]? = some (X / A) := by unfold flr; rw [List.getElem?_map, List.getElem?_map, hs', ← hX]; rfl
    have rk : (rms p A (hs.map Hs.v))[i]? = some (X % A) := by unfold rms; rw [List.getElem?_map, List.getElem?_map, hs', ← hX]; rfl
    have he : (hs.map (exR p A))[i]? = some (exR p A s) := by rw [List.getElem?_map, hs']; rfl
    have hpos := I.pos
    rw [hX] at hpv hfb
    obtain ⟨nu, de, ed, d1, d2, d3, d4, d5⟩ : ∃ nu de : Int, exR p A s = (nu, de) ∧ 1 ≤ de ∧ de ≤ A ∧ nu * A = X * de ∧ 0 ≤ nu ∧ nu ≤ X := by
      obtain ⟨l1, l2, l3, l4, l5⟩ := low_ok (n := X.toNat) (A := A.toNat) (by omega)
      refine ⟨_, _, by unfold exR; rw [hX], l1, by omega, ?_, l4, by omega⟩
      rw [show ((A.toNat : Nat) : Int) = A by omega, show ((X.toNat : Nat) : Int) = X by omega] at l3
      exact l3
    rw [ed] at he
    obtain ⟨bl1, o1, cc1, e1, hbl1, hc1, hqq1⟩ := J.r1.at_ he
    cases e1
    obtain ⟨bl, o, cc, e1, hbl, hc, hqq⟩ := J.r.at_ hs'
    cases e1
    obtain ⟨bl2, o2, cc2, e2, hbl2, hc2, hqq2⟩ := J.r2.at_ hy
    cases e2
    have q0 : cc[0 + i * 3]? = some (.int .i64 s.v) := cell0_of (z := 2) hqq
    have q1 : part cc1 (0 + i * 2) 3 = some (.agg ⟨[.int .i64 nu, .int .i64 de]⟩) := part_of hqq1 rfl
    have q2 := cell_of hqq2
    rw [show i * intE.z = i * 1 from rfl, Nat.mul_one, Nat.zero_add] at q2
    rw [Nat.zero_add] at q0 q1
    have w1 : w64 (p * s.v) = X := by rw [w64_of (by omega), hX]
    have hquo := fun (x y : Operand) => i64_quo (T := tabA) (P := Try.prog) (ty := 3) (x := x) (y := y) (a := X) (b := A) (by omega)
    have eq : X.tdiv A = X / A := Int.tdiv_eq_ediv_of_nonneg hpv.1
    have w3 : w64 (X / A) = X / A := w64_of (by omega)
    have w4 : w64 (X / A + 1) = X / A + 1 := w64_of (by omega)
    have hw2 : w64 ((i : Int) + 1) = ((i + 1 : Nat) : Int) := by rw [w64_of (by omega)]; omega
    have hA6 := (vsum I.ok).2
    rw [I.sum] at hA6
    obtain ⟨Z, hZ⟩ : ∃ Z, X * de = Z := ⟨_, rfl⟩
    have hZb : 0 ≤ Z ∧ Z ≤ 500000 * 6000 := by rw [← hZ]; exact ⟨Int.mul_nonneg hpv.1 (by omega), Int.mul_le_mul hpv.2 (by omega) (by omega) (by omega)⟩
    have wz1 : w64 (nu * A) = Z := by rw [d3, hZ]; exact w64_of (by omega)
    have wz2 : w64 (X * de) = Z := by rw [hZ]; exact w64_of (by omega)
    have x1 : decide (de < 1) = false := by simp; omega
    have x2 : decide (A < de) = false := by simp; omega
    simp (disch := (first | (simp only [ne_eq,Nat.reduceEqDiff,not_false_eq_true,Nat.reduceLT]; done) | omega | (simp only [yz] <;> omega) | fail)) only [↓yp,yq0,yq1,yq2,yq3,yq4,yl,ys0,ys1,Nat.reduceAdd,Nat.reduceMul,Nat.reduceSub,Nat.reduceBEq,Nat.reduceEqDiff,Nat.reduceLT,Nat.reduceLeDiff,reduceIte,Int.reduceAdd,Int.reduceSub,Int.reduceMul,Int.reduceLT,Int.reduceLE,Int.reduceEq,Int.reduceToNat,Int.reduceNeg,fitB,newC,endD,endR,yrg,t91,t89,A_indexSlice st_esS_73,hc1,q1]
    refine W_draw [] rfl (by kernel_rfl) (by kernel_rfl) (by (first | omega | (simp only [yz] <;> omega))) ?_
    simp (disch := (first | (simp only [ne_eq,Nat.reduceEqDiff,not_false_eq_true,Nat.reduceLT]; done) | omega | (simp only [yz] <;> omega) | fail)) only [↓yp,yq0,yq1,yq2,yq3,yq4,yl,ys0,ys1,Nat.reduceAdd,Nat.reduceMul,Nat.reduceSub,Nat.reduceBEq,Nat.reduceEqDiff,Nat.reduceLT,Nat.reduceLeDiff,reduceIte,Int.reduceAdd,Int.reduceSub,Int.reduceMul,Int.reduceLT,Int.reduceLE,Int.reduceEq,Int.reduceToNat,Int.reduceNeg,fitB,newC,endD,endR,yrg,k3,k4,k9,bb,ba,A_indexSlice st_esS_37,A_indexSlice st_esS_40,hc,hc2,q0,q2,w1,x1,x2,wz1,wz2]
    refine W_abs (F := fun e2 G2 => Keep 207 [3, 4, 7, 9, 11, 89, 90, 91] e' e2 ∧ gt 207 e2 12 = .int .i64 (i : Nat) ∧ gt 207 e2 14 = .int .i64 X ∧ Fr G G2) ⟨by (with_reducible (repeat (first | refine Keep.put ?_ (by decide) | refine Keep.none ?_ | assumption | exact Keep.refl _ _ _))), by simp (disch := (first | (simp only [ne_eq,Nat.reduceEqDiff,not_false_eq_true,Nat.reduceLT]; done) | omega | (simp only [yz] <;> omega) | fail)) only [yg,Nat.reduceAdd,Nat.reduceEqDiff,Nat.reduceLT], by simp (disch := (first | (simp only [ne_eq,Nat.reduceEqDiff,not_false_eq_true,Nat.reduceLT]; done) | omega | (simp only [yz] <;> omega) | fail)) only [yg,Nat.reduceAdd,Nat.reduceEqDiff,Nat.reduceLT], by (repeat (first | exact Fr.refl _ | assumption | refine Fr.allocd ?_ _ | refine Fr.kill ?_ (by first | assumption | omega) | refine Fr.put ?_ (by first | omega | (simp only [yz] <;> omega)) _))⟩ ?_
    clear hc hc1 hc2 hqq hqq1 hqq2
    rintro e2 G2 ⟨kp2, t12, t14, fr2⟩
    have sub' : ∀ {l l' : List Nat} {e e' : VT}, (∀ j ∈ l', j ∈ l) → Keep 207 l e e' → Keep 207 l' e e' := fun h k j hj => k j (h j hj)
    have J2 := J.next fr2 (sub' (by decide) kp2)
    have k3 := J2.g3
    have k4 := J2.g4
    have k7 := J2.g7
    have k9 := J2.g9
    have k11 := J2.g11
    have bb := J2.bb
    have ba := J2.ba
    have fz2 := fr2.size
    have h41 := fun (N : Nat) => c41 (N := N) bb ba J2.r I.ok I.sum I.pos hs'
    rw [hX] at h41
    obtain ⟨bl2, o2, cc2, e2', hbl2, hc2, hqq2⟩ := J2.r2.at_ hy
    cases e2'
    have q2 := cell_of hqq2
    rw [show i * intE.z = i * 1 from rfl, Nat.mul_one, Nat.zero_add] at q2
    have t89' := (kp2 89 (by decide)).trans t89
    have t90' := (kp2 90 (by decide)).trans t90
    have t91' := (kp2 91 (by decide)).trans t91
    refine W_draw [] rfl (by kernel_rfl) (by kernel_rfl) (by (first | omega | (simp only [yz] <;> omega))) ?_
    have hfin : ∀ (u : Bool) (M : Nat) (e3 : VT), 1000 ≤ M → Keep 207 [3, 4, 7, 9, 11, 12, 89, 90, 91] e2 e3 → gt 207 e3 15 = .bool u → (u = true → y = X / A + 1) → W tabA Try.prog M none inner L ⟨207, e3, G2, []⟩ (endK 207 [] fun e' G => Keep 207 [3, 4, 7, 9, 11, 89, 90, 91] e3 e' ∧ G = G2) := by
      intro u M e3 hM h1 h2 h3
      refine h6i G2 e3 i u M (J2.next (Fr.refl _) (sub' (by decide) h1)) ((h1 12 (by decide)).trans t12) h2 hi' (fun hu k y' h4 h5 => ?_) hM (by omega)
      exact R.bef i k y _ y' y' hy fk h4 h5 (h3 hu) rfl
    have b0 : decide (X % A = 0) = decide (X % A = 0) := rfl
    rcases R.one i y _ hy fk with hy1 | hy1
    · have u1 : decide (y = X / A + 1) = false := by simp; omega
      have u2 : decide (y = X / A) = true := by simp; omega
      simp (disch := (first | (simp only [ne_eq,Nat.reduceEqDiff,not_false_eq_true,Nat.reduceLT]; done) | omega | (simp only [yz] <;> omega) | fail)) only [↓yp,yq0,yq1,yq2,yq3,yq4,yl,ys0,ys1,Nat.reduceAdd,Nat.reduceMul,Nat.reduceSub,Nat.reduceBEq,Nat.reduceEqDiff,Nat.reduceLT,Nat.reduceLeDiff,reduceIte,Int.reduceAdd,Int.reduceSub,Int.reduceMul,Int.reduceLT,Int.reduceLE,Int.reduceEq,Int.reduceToNat,Int.reduceNeg,fitB,newC,endD,endR,yrg,k3,k4,k9,t12,t14,ba,A_indexSlice st_esS_40,hc2,q2,hquo,eq,w3,w4,u1]
      refine W_draw [] rfl (by kernel_rfl) (by kernel_rfl) (by (first | omega | (simp only [yz] <;> omega))) ?_
      simp (disch := (first | (simp only [ne_eq,Nat.reduceEqDiff,not_false_eq_true,Nat.reduceLT]; done) | omega | (simp only [yz] <;> omega) | fail)) only [↓yp,yq0,yq1,yq2,yq3,yq4,yl,ys0,ys1,Nat.reduceAdd,Nat.reduceMul,Nat.reduceSub,Nat.reduceBEq,Nat.reduceEqDiff,Nat.reduceLT,Nat.reduceLeDiff,reduceIte,Int.reduceAdd,Int.reduceSub,Int.reduceMul,Int.reduceLT,Int.reduceLE,Int.reduceEq,Int.reduceToNat,Int.reduceNeg,fitB,newC,endD,endR,yrg,k3,k4,k9,t12,t14,ba,A_indexSlice st_esS_40,hc2,q2,hquo,eq,w3,w4,u1,u2]
      refine W_abs (F := fun e3 G3 => Keep 207 [3, 4, 7, 9, 11, 12, 89, 90, 91] e2 e3 ∧ gt 207 e3 15 = .bool false ∧ G3 = G2) ⟨by (with_reducible (repeat (first | refine Keep.put ?_ (by decide) | refine Keep.none ?_ | assumption | exact Keep.refl _ _ _))), by simp (disch := (first | (simp only [ne_eq,Nat.reduceEqDiff,not_false_eq_true,Nat.reduceLT]; done) | omega | (simp only [yz] <;> omega) | fail)) only [yg,Nat.reduceAdd,Nat.reduceEqDiff,Nat.reduceLT], rfl⟩ ?_
      rintro e3 G3 ⟨kp3, t15, rfl⟩
      refine W_end (hfin false _ e3 (by omega) kp3 t15 (fun h => by cases h)) ?_
      rintro e4 G4 ⟨kp4, rfl⟩
      have kp34 : Keep 207 [3, 4, 7, 9, 11, 89, 90, 91] e2 e4 := (sub' (by decide) kp3).trans kp4
      have s89 := (kp34 89 (by decide)).trans t89'
      have s90 := (kp34 90 (by decide)).trans t90'
      have s91 := (kp34 91 (by decide)).trans t91'
      have kpa : Keep 207 [3, 4, 7, 9, 11] e e4 := (kp.trans (sub' (by decide) kp2)).trans (sub' (by decide) kp34)
      simp (disch := (first | (simp only [ne_eq,Nat.reduceEqDiff,not_false_eq_true,Nat.reduceLT]; done) | omega | (simp only [yz] <;> omega) | fail)) only [↓yp,yq0,yq1,yq2,yq3,yq4,yl,ys0,ys1,Nat.reduceAdd,Nat.reduceMul,Nat.reduceSub,Nat.reduceBEq,Nat.reduceEqDiff,Nat.reduceLT,Nat.reduceLeDiff,reduceIte,Int.reduceAdd,Int.reduceSub,Int.reduceMul,Int.reduceLT,Int.reduceLE,Int.reduceEq,Int.reduceToNat,Int.reduceNeg,fitB,newC,endD,endR,yrg,s91,hw2]
      exact ⟨hs.length - (i + 1), by omega, i + 1, rfl, by omega, by simp (disch := (first | (simp only [ne_eq,Nat.reduceEqDiff,not_false_eq_true,Nat.reduceLT]; done) | omega | (simp only [yz] <;> omega) | fail)) only [yg,Nat.reduceAdd,Nat.reduceEqDiff,Nat.reduceLT], by simp (disch := (first | (simp only [ne_eq,Nat.reduceEqDiff,not_false_eq_true,Nat.reduceLT]; done) | omega | (simp only [yz] <;> omega) | fail)) only [yg,Nat.reduceAdd,Nat.reduceEqDiff,Nat.reduceLT,s90], by simp (disch := (first | (simp only [ne_eq,Nat.reduceEqDiff,not_false_eq_true,Nat.reduceLT]; done) | omega | (simp only [yz] <;> omega) | fail)) only [yg,Nat.reduceAdd,Nat.reduceEqDiff,Nat.reduceLT,s89], by (with_reducible (repeat (first | refine Keep.put ?_ (by decide) | refine Keep.none ?_ | assumption | exact Keep.refl _ _ _))), fr.trans fr2⟩
    · have u1 : decide (y = X / A + 1) = true := by simp; omega
      have ne0 : X % A ≠ 0 := R.pos hK (R.some_ hy fk hy1) (fun x hx => by
        obtain ⟨v, hv, rfl⟩ := List.mem_map.1 hx
        obtain ⟨w, hw, rfl⟩ := List.mem_map.1 hv
        exact (fl_bd I.ok I.sum I.pos hw).2.2) hy fk hy1 rk
      have u3 : decide (X % A = 0) = false := by simp; omega
      simp (disch := (first | (simp only [ne_eq,Nat.reduceEqDiff,not_false_eq_true,Nat.reduceLT]; done) | omega | (simp only [yz] <;> omega) | fail)) only [↓yp,yq0,yq1,yq2,yq3,yq4,yl,ys0,ys1,Nat.reduceAdd,Nat.reduceMul,Nat.reduceSub,Nat.reduceBEq,Nat.reduceEqDiff,Nat.reduceLT,Nat.reduceLeDiff,reduceIte,Int.reduceAdd,Int.reduceSub,Int.reduceMul,Int.reduceLT,Int.reduceLE,Int.reduceEq,Int.reduceToNat,Int.reduceNeg,fitB,newC,endD,endR,yrg,k3,k4,k9,t12,t14,ba,A_indexSlice st_esS_40,hc2,q2,hquo,eq,w3,w4,u1]
      refine W_draw [] rfl (by kernel_rfl) (by kernel_rfl) (by (first | omega | (simp only [yz] <;> omega))) ?_
      simp (disch := (first | (simp only [ne_eq,Nat.reduceEqDiff,not_false_eq_true,Nat.reduceLT]; done) | omega | (simp only [yz] <;> omega) | fail)) only [↓yp,yq0,yq1,yq2,yq3,yq4,yl,ys0,ys1,Nat.reduceAdd,Nat.reduceMul,Nat.reduceSub,Nat.reduceBEq,Nat.reduceEqDiff,Nat.reduceLT,Nat.reduceLeDiff,reduceIte,Int.reduceAdd,Int.reduceSub,Int.reduceMul,Int.reduceLT,Int.reduceLE,Int.reduceEq,Int.reduceToNat,Int.reduceNeg,fitB,newC,endD,endR,yrg,k3,k4,k9,k11,t12,t14,ba,A_indexSlice st_esS_40,hc2,q2,hquo,eq,w3,w4,u1,u3,calK_func,h41]
      refine W_abs (F := fun e3 G3 => Keep 207 [3, 4, 7, 9, 11, 12, 89, 90, 91] e2 e3 ∧ gt 207 e3 15 = .bool true ∧ G3 = G2) ⟨by (with_reducible (repeat (first | refine Keep.put ?_ (by decide) | refine Keep.none ?_ | assumption | exact Keep.refl _ _ _))), by simp (disch := (first | (simp only [ne_eq,Nat.reduceEqDiff,not_false_eq_true,Nat.reduceLT]; done) | omega | (simp only [yz] <;> omega) | fail)) only [yg,Nat.reduceAdd,Nat.reduceEqDiff,Nat.reduceLT], rfl⟩ ?_
      rintro e3 G3 ⟨kp3, t15, rfl⟩
      refine W_end (hfin true _ e3 (by omega) kp3 t15 (fun _ => hy1)) ?_
      rintro e4 G4 ⟨kp4, rfl⟩
      have kp34 : Keep 207 [3, 4, 7, 9, 11, 89, 90, 91] e2 e4 := (sub' (by decide) kp3).trans kp4
      have s89 := (kp34 89 (by decide)).trans t89'
      have s90 := (kp34 90 (by decide)).trans t90'
      have s91 := (kp34 91 (by decide)).trans t91'
      have kpa : Keep 207 [3, 4, 7, 9, 11] e e4 := (kp.trans (sub' (by decide) kp2)).trans (sub' (by decide) kp34)
      simp (disch := (first | (simp only [ne_eq,Nat.reduceEqDiff,not_false_eq_true,Nat.reduceLT]; done) | omega | (simp only [yz] <;> omega) | fail)) only [↓yp,yq0,yq1,yq2,yq3,yq4,yl,ys0,ys1,Nat.reduceAdd,Nat.reduceMul,Nat.reduceSub,Nat.reduceBEq,Nat.reduceEqDiff,Nat.reduceLT,Nat.reduceLeDiff,reduceIte,Int.reduceAdd,Int.reduceSub,Int.reduceMul,Int.reduceLT,Int.reduceLE,Int.reduceEq,Int.reduceToNat,Int.reduceNeg,fitB,newC,endD,endR,yrg,s91,hw2]
      exact ⟨hs.length - (i + 1), by omega, i + 1, rfl, by omega, by simp (disch := (first | (simp only [ne_eq,Nat.reduceEqDiff,not_false_eq_true,Nat.reduceLT]; done) | omega | (simp only [yz] <;> omega) | fail)) only [yg,Nat.reduceAdd,Nat.reduceEqDiff,Nat.reduceLT], by simp (disch := (first | (simp only [ne_eq,Nat.reduceEqDiff,not_false_eq_true,Nat.reduceLT]; done) | omega | (simp only [yz] <;> omega) | fail)) only [yg,Nat.reduceAdd,Nat.reduceEqDiff,Nat.reduceLT,s90], by simp (disch := (first | (simp only [ne_eq,Nat.reduceEqDiff,not_false_eq_true,Nat.reduceLT]; done) | omega | (simp only [yz] <;> omega) | fail)) only [yg,Nat.reduceAdd,Nat.reduceEqDiff,Nat.reduceLT,s89], by (with_reducible (repeat (first | refine Keep.put ?_ (by decide) | refine Keep.none ?_ | assumption | exact Keep.refl _ _ _))), fr.trans fr2⟩
  · simp (disch := (first | (simp only [ne_eq,Nat.reduceEqDiff,not_false_eq_true,Nat.reduceLT]; done) | omega | (simp only [yz] <;> omega) | fail)) only [↓yp,yq0,yq1,yq2,yq3,yq4,yl,ys0,ys1,Nat.reduceAdd,Nat.reduceMul,Nat.reduceSub,Nat.reduceBEq,Nat.reduceEqDiff,Nat.reduceLT,Nat.reduceLeDiff,reduceIte,Int.reduceAdd,Int.reduceSub,Int.reduceMul,Int.reduceLT,Int.reduceLE,Int.reduceEq,Int.reduceToNat,Int.reduceNeg,fitB,newC,endD,endR,yrg,haw]
end
end Go.Am
/- All is added up. -/
namespace Go.Am
open Go.Proofs
variable {T : Tab} {P : Program} {N L : Nat} {H H' H'' : AHeap} {Q : Bool → Value → AHeap → Prop}
section
variable {kb ka cap : Nat} {hs : List Hs} {p A : Int} {ad : Addr} {c : Nat} {e : VT}
theorem c6s {M : Nat} (bb : H'.get kb = .rw [.int .i64 p, .slice (some ad) hs.length c] 39 false []) (ba : H'.get ka = .rw [.int .i64 0] 3 false []) (hr : Rx ka hsE H' (some ad) hs) (ok : BilOk p hs) (hne : kb ≠ ka) (hlk : ka < H'.size ∧ kb < H'.size)
    (g3 : gt 207 e 3 = .pointer (some ⟨kb, 0, none⟩)) (g4 : gt 207 e 4 = .pointer (some ⟨ka, 0, none⟩)) (hM : 600 ≤ M) (hL : L ≤ ka) :
    W tabA Try.prog M none (sub [true, true, true, false] (bodyOf Try.f6)) L ⟨207, e, H', []⟩ (endK 207 [] fun e' G => Keep 207 [3, 4] e e' ∧ FrX ka H' G ∧ G.get ka = .rw [.int .i64 (isum (hs.map Hs.v))] 3 false []) := by
  obtain ⟨N, rfl⟩ : ∃ N, M = N + 600 := ⟨M - 600, by omega⟩
  simp only [Try.f6,bodyOf,sub_nil,sub_seq0,sub_seq1,sub_block,sub_loop,sub_cond0,sub_cond1]
  have hlen := ok.len
  simp (disch := (first | (simp only [ne_eq,Nat.reduceEqDiff,not_false_eq_true,Nat.reduceLT]; done) | omega | (simp only [yz] <;> omega) | fail)) only [↓yp,yq0,yq1,yq2,yq3,yq4,yl,ys0,ys1,Nat.reduceAdd,Nat.reduceMul,Nat.reduceSub,Nat.reduceBEq,Nat.reduceEqDiff,Nat.reduceLT,Nat.reduceLeDiff,reduceIte,Int.reduceAdd,Int.reduceSub,Int.reduceMul,Int.reduceLT,Int.reduceLE,Int.reduceEq,Int.reduceToNat,Int.reduceNeg,fitB,newC,endD,endR,yrg,g3,bb,lenV_slice st_esS_37]
  refine W_while (n := 207) 60 (fun q' e' G => ∃ i : Nat, q' = hs.length - i ∧ i ≤ hs.length ∧ gt 207 e' 24 = .int .i64 (i : Nat) ∧ gt 207 e' 23 = .int .i64 hs.length ∧ gt 207 e' 22 = .slice (some ad) hs.length c ∧ Keep 207 [3, 4] e e' ∧ FrX ka H' G ∧ G.get ka = .rw [.int .i64 (isum ((hs.take i).map Hs.v))] 3 false [])
    ?_ 8 hs.length ⟨0, by omega, by omega, by simp (disch := (first | (simp only [ne_eq,Nat.reduceEqDiff,not_false_eq_true,Nat.reduceLT]; done) | omega | (simp only [yz] <;> omega) | fail)) only [yg,Nat.reduceAdd,Nat.reduceEqDiff,Nat.reduceLT]; rfl, by simp (disch := (first | (simp only [ne_eq,Nat.reduceEqDiff,not_false_eq_true,Nat.reduceLT]; done) | omega | (simp only [yz] <;> omega) | fail)) only [yg,Nat.reduceAdd,Nat.reduceEqDiff,Nat.reduceLT], by simp (disch := (first | (simp only [ne_eq,Nat.reduceEqDiff,not_false_eq_true,Nat.reduceLT]; done) | omega | (simp only [yz] <;> omega) | fail)) only [yg,Nat.reduceAdd,Nat.reduceEqDiff,Nat.reduceLT], by (with_reducible (repeat (first | refine Keep.put ?_ (by decide) | refine Keep.none ?_ | assumption | exact Keep.refl _ _ _))), FrX.refl _ _, ba⟩ (by omega) (by omega)
  rintro M q' e' G ⟨i, rfl, hi, t24, t23, t22, kp, fr, ga⟩
  have k3 := (kp 3 (by decide)).trans g3
  have k4 := (kp 4 (by decide)).trans g4
  have fz := fr.size
  simp (disch := (first | (simp only [ne_eq,Nat.reduceEqDiff,not_false_eq_true,Nat.reduceLT]; done) | omega | (simp only [yz] <;> omega) | fail)) only [↓yp,yq0,yq1,yq2,yq3,yq4,yl,ys0,ys1,Nat.reduceAdd,Nat.reduceMul,Nat.reduceSub,Nat.reduceBEq,Nat.reduceEqDiff,Nat.reduceLT,Nat.reduceLeDiff,reduceIte,Int.reduceAdd,Int.reduceSub,Int.reduceMul,Int.reduceLT,Int.reduceLE,Int.reduceEq,Int.reduceToNat,Int.reduceNeg,fitB,newC,endD,endR,yrg,t24,t23]
  refine ⟨fun hA => ?_, fun hA => ?_⟩
  · have hi' : i < hs.length := by simpa using hA
    obtain ⟨s, hs'⟩ : ∃ s, hs[i]? = some s := ⟨_, List.getElem?_eq_getElem hi'⟩
    obtain ⟨bl, o, cc, e1, hbl, hc, hqq⟩ := (hr.frx fr).rw.at_ hs'
    cases e1
    have q1 : part cc (o + i * 3) 4 = some (.agg ⟨s.enc⟩) := part_of hqq rfl
    simp only [Hs.enc] at q1
    have hmem := List.mem_of_getElem? hs'
    have hv := (ok.ok s hmem).v
    have hw2 : w64 ((i : Int) + 1) = ((i + 1 : Nat) : Int) := by rw [w64_of (by omega)]; omega
    have hs1 := isum_le (l := (hs.take i).map Hs.v) (m := 1000) (map_in fun y hy => (ok.ok y (List.mem_of_mem_take hy)).v)
    have hl1 : ((hs.take i).map Hs.v).length ≤ 6 := by rw [List.length_map, List.length_take]; omega
    have e1 : isum ((hs.take i).map Hs.v) + s.v = isum ((hs.take (i + 1)).map Hs.v) := by
      rw [List.take_add_one, hs', List.map_append, isum_app]; show _ = _ + (s.v + 0); omega
    have hw : w64 (isum ((hs.take i).map Hs.v) + s.v) = isum ((hs.take (i + 1)).map Hs.v) := by rw [w64_of (by omega), e1]
    simp (disch := (first | (simp only [ne_eq,Nat.reduceEqDiff,not_false_eq_true,Nat.reduceLT]; done) | omega | (simp only [yz] <;> omega) | fail)) only [↓yp,yq0,yq1,yq2,yq3,yq4,yl,ys0,ys1,Nat.reduceAdd,Nat.reduceMul,Nat.reduceSub,Nat.reduceBEq,Nat.reduceEqDiff,Nat.reduceLT,Nat.reduceLeDiff,reduceIte,Int.reduceAdd,Int.reduceSub,Int.reduceMul,Int.reduceLT,Int.reduceLE,Int.reduceEq,Int.reduceToNat,Int.reduceNeg,fitB,newC,endD,endR,yrg,t24,t22,k4,A_indexSlice st_esS_37,hc,q1,ga,hw,hw2]
    exact ⟨hs.length - (i + 1), by omega, i + 1, rfl, by omega, by simp (disch := (first | (simp only [ne_eq,Nat.reduceEqDiff,not_false_eq_true,Nat.reduceLT]; done) | omega | (simp only [yz] <;> omega) | fail)) only [yg,Nat.reduceAdd,Nat.reduceEqDiff,Nat.reduceLT], by simp (disch := (first | (simp only [ne_eq,Nat.reduceEqDiff,not_false_eq_true,Nat.reduceLT]; done) | omega | (simp only [yz] <;> omega) | fail)) only [yg,Nat.reduceAdd,Nat.reduceEqDiff,Nat.reduceLT,t23], by simp (disch := (first | (simp only [ne_eq,Nat.reduceEqDiff,not_false_eq_true,Nat.reduceLT]; done) | omega | (simp only [yz] <;> omega) | fail)) only [yg,Nat.reduceAdd,Nat.reduceEqDiff,Nat.reduceLT,t22], by (with_reducible (repeat (first | refine Keep.put ?_ (by decide) | refine Keep.none ?_ | assumption | exact Keep.refl _ _ _))), ⟨by (first | omega | (simp only [yz] <;> omega)), fun j h1 h2 => by rw [get_put_ne (by omega), get_put_ne (by omega), get_alloc_lt (by omega)]; exact fr.same j h1 h2⟩, by rw [get_put_same (by (first | omega | (simp only [yz] <;> omega)))]⟩
  · have hi' : i = hs.length := by have : ¬ ((i : Int) < hs.length) := by simpa using hA
                                   omega
    subst hi'
    rw [List.take_length] at ga
    simp (disch := (first | (simp only [ne_eq,Nat.reduceEqDiff,not_false_eq_true,Nat.reduceLT]; done) | omega | (simp only [yz] <;> omega) | fail)) only [↓yp,yq0,yq1,yq2,yq3,yq4,yl,ys0,ys1,Nat.reduceAdd,Nat.reduceMul,Nat.reduceSub,Nat.reduceBEq,Nat.reduceEqDiff,Nat.reduceLT,Nat.reduceLeDiff,reduceIte,Int.reduceAdd,Int.reduceSub,Int.reduceMul,Int.reduceLT,Int.reduceLE,Int.reduceEq,Int.reduceToNat,Int.reduceNeg,fitB,newC,endD,endR,yrg]
    exact ⟨by (with_reducible (repeat (first | refine Keep.put ?_ (by decide) | refine Keep.none ?_ | assumption | exact Keep.refl _ _ _))), fr, ga⟩
end
end Go.Am
/- The law of the last penny. -/
namespace Go.Am
open Go.Proofs
variable {T : Tab} {P : Program} {N L : Nat} {H H' H'' : AHeap} {Q : Bool → Value → AHeap → Prop}
section
variable {a : Option Addr} {cap : Nat} {bs : List Int}
theorem c6 (hb : Bts H a bs) {F : Nat} (hF : 20000 ≤ F) :
    acall tabA (aexec tabA Try.prog F) 6 [.slice a bs.length cap] H = some (true, .bool true, H, H.size) := by
  obtain ⟨N, rfl⟩ : ∃ N, F = N + 20000 := ⟨F - 20000, by omega⟩
  refine call_quiet (k := 207) (rs := [.tmp 2]) rfl fn_6 rfl rfl rfl ?_ rfl
  have haw := fun (N : Nat) (H : AHeap) => awake_known (ex := aexec tabA Try.prog N) (H := H)
  have hsm := fun (G : AHeap) (p : Int) (hs : List Hs) (ad : Addr) (c kb ka : Nat) (e : VT) (M : Nat) (h1 : G.get kb = .rw [.int .i64 p, .slice (some ad) hs.length c] 39 false []) (h2 : G.get ka = .rw [.int .i64 0] 3 false []) (h3 : Rx ka hsE G (some ad) hs) (h4 : BilOk p hs) (h5 : kb ≠ ka) (h6 : ka < G.size ∧ kb < G.size) (h7 : gt 207 e 3 = .pointer (some ⟨kb, 0, none⟩)) (h8 : gt 207 e 4 = .pointer (some ⟨ka, 0, none⟩)) (h9 : 600 ≤ M) (h10 : H.size ≤ ka) => c6s h1 h2 h3 h4 h5 h6 h7 h8 h9 h10
  have hbb := fun (G : AHeap) (kb ka b b1 b2 c c1 c2 : Nat) (p A : Int) (hs : List Hs) (q : List Int) (e : VT) (K M : Nat) (I : L6 G kb ka b b1 b2 c c1 c2 p A hs q e) (h1 : RemI p A (hs.map Hs.v) q (K : Nat)) (h2 : isum (rms p A (hs.map Hs.v)) = A * (K : Nat)) (h3 : 3000 ≤ M) (h4 : H.size ≤ G.size) => c6b I h1 h2 h3 h4
  obtain ⟨P1, hP1⟩ : ∃ c, sub [true, true, true, false] (bodyOf Try.f6) = c := ⟨_, rfl⟩
  obtain ⟨P2, hP2⟩ : ∃ c, sub [true, true, true, true, true, true, true, true, true] (bodyOf Try.f6) = c := ⟨_, rfl⟩
  rw [hP1] at hsm
  rw [hP2] at hbb
  simp only [Try.f6,bodyOf,sub_nil,sub_seq0,sub_seq1,sub_block,sub_loop,sub_cond0,sub_cond1] at hP1 hP2 ⊢
  rw [hP1, hP2]
  clear hP1 hP2
  simp (disch := (first | (simp only [ne_eq,Nat.reduceEqDiff,not_false_eq_true,Nat.reduceLT]; done) | omega | (simp only [yz] <;> omega) | fail)) only [↓yp,yq0,yq1,yq2,yq3,yq4,yl,ys0,ys1,Nat.reduceAdd,Nat.reduceMul,Nat.reduceSub,Nat.reduceBEq,Nat.reduceEqDiff,Nat.reduceLT,Nat.reduceLeDiff,reduceIte,Int.reduceAdd,Int.reduceSub,Int.reduceMul,Int.reduceLT,Int.reduceLE,Int.reduceEq,Int.reduceToNat,Int.reduceNeg,fitB,newC,endD,endR,yrg]
  refine c36 hb (Nat.le_refl _) (by omega) ?_
  intro H1 fr1 hs1 hc1
  simp (disch := (first | (simp only [ne_eq,Nat.reduceEqDiff,not_false_eq_true,Nat.reduceLT]; done) | omega | (simp only [yz] <;> omega) | fail)) only [↓yp,yq0,yq1,yq2,yq3,yq4,yl,ys0,ys1,Nat.reduceAdd,Nat.reduceMul,Nat.reduceSub,Nat.reduceBEq,Nat.reduceEqDiff,Nat.reduceLT,Nat.reduceLeDiff,reduceIte,Int.reduceAdd,Int.reduceSub,Int.reduceMul,Int.reduceLT,Int.reduceLE,Int.reduceEq,Int.reduceToNat,Int.reduceNeg,fitB,newC,endD,endR,yrg]
  refine c35 hc1 (by omega) (by omega) (by omega) (Nat.le_refl _) (by omega) ?_
  intro b c p hs H2 ok p1 p2 p3 p4 p5 rx b0 hc2 fx2
  have fr2 : Fr H H2 := fx2.above fr1 (Nat.le_refl _)
  have sz2 := fr2.size
  clear hc2 fx2 hc1
  simp (disch := (first | (simp only [ne_eq,Nat.reduceEqDiff,not_false_eq_true,Nat.reduceLT]; done) | omega | (simp only [yz] <;> omega) | fail)) only [↓yp,yq0,yq1,yq2,yq3,yq4,yl,ys0,ys1,Nat.reduceAdd,Nat.reduceMul,Nat.reduceSub,Nat.reduceBEq,Nat.reduceEqDiff,Nat.reduceLT,Nat.reduceLeDiff,reduceIte,Int.reduceAdd,Int.reduceSub,Int.reduceMul,Int.reduceLT,Int.reduceLE,Int.reduceEq,Int.reduceToNat,Int.reduceNeg,fitB,newC,endD,endR,yrg]
  refine W_abs (F := fun e G => gt 207 e 3 = .pointer (some ⟨H2.size, 0, none⟩) ∧ gt 207 e 4 = .pointer (some ⟨H2.size + 1, 0, none⟩) ∧ Fr H2 G ∧ G.size = H2.size + 1 + 1 ∧ G.get H2.size = .rw [.int .i64 p, .slice (some ⟨b, 0, none⟩) hs.length c] 39 false [] ∧ G.get (H2.size + 1) = .rw [.int .i64 0] 3 false []) ⟨by simp (disch := (first | (simp only [ne_eq,Nat.reduceEqDiff,not_false_eq_true,Nat.reduceLT]; done) | omega | (simp only [yz] <;> omega) | fail)) only [yg,Nat.reduceAdd,Nat.reduceEqDiff,Nat.reduceLT], by simp (disch := (first | (simp only [ne_eq,Nat.reduceEqDiff,not_false_eq_true,Nat.reduceLT]; done) | omega | (simp only [yz] <;> omega) | fail)) only [yg,Nat.reduceAdd,Nat.reduceEqDiff,Nat.reduceLT], by (repeat (first | exact Fr.refl _ | assumption | refine Fr.allocd ?_ _ | refine Fr.kill ?_ (by first | assumption | omega) | refine Fr.put ?_ (by first | omega | (simp only [yz] <;> omega)) _)), by (first | omega | (simp only [yz] <;> omega)), by simp (disch := (first | (simp only [ne_eq,Nat.reduceEqDiff,not_false_eq_true,Nat.reduceLT]; done) | omega | (simp only [yz] <;> omega) | fail)) only [yg,Nat.reduceAdd,Nat.reduceEqDiff,Nat.reduceLT], by simp (disch := (first | (simp only [ne_eq,Nat.reduceEqDiff,not_false_eq_true,Nat.reduceLT]; done) | omega | (simp only [yz] <;> omega) | fail)) only [yg,Nat.reduceAdd,Nat.reduceEqDiff,Nat.reduceLT]⟩ ?_
  rintro e G ⟨g3, g4, frG, szG, bb, ba⟩
  have rxG : Rx (H2.size + 1) hsE G (some ⟨b, 0, none⟩) hs := ⟨rx.rw.fr frG, fun hne b' o s e' => by
    cases e'
    obtain ⟨bl, o, cc, e1, hbl, hc, hqq⟩ := rx.rw.get hne
    cases e1; omega⟩
  refine W_end (hsm G p hs ⟨b, 0, none⟩ c H2.size (H2.size + 1) e _ bb ba rxG ok (by omega) (by omega) g3 g4 (by omega) (by omega)) ?_
  rintro e2 G2 ⟨kp2, fx2, ba2⟩
  have bb2 := (fx2.same H2.size (by omega) (by omega)).trans bb
  have frG2 : Fr H2 G2 := fx2.above frG (by omega)
  have szG2 := fx2.size
  have t3 := (kp2 3 (by decide)).trans g3
  have t4 := (kp2 4 (by decide)).trans g4
  have bil : Bil G2 (some ⟨b, 0, none⟩) hs p := ⟨rx.rw.fr frG2, ok⟩
  clear hsm rxG fx2 bb ba g3 g4 frG
  obtain ⟨A, hA⟩ : ∃ A, isum (hs.map Hs.v) = A := ⟨_, rfl⟩
  have hAb := vsum ok
  rw [hA] at hAb ba2
  by_cases hz : A = 0
  · subst hz
    have h37 := fun (N : Nat) => c37z (N := N) (cap := c) bil hA
    have h38 := fun (N : Nat) => c38z (N := N) (c := c) bil hA
    have b0 : ∀ z : Int, decide (z = z) = true := fun z => by simp
    simp (disch := (first | (simp only [ne_eq,Nat.reduceEqDiff,not_false_eq_true,Nat.reduceLT]; done) | omega | (simp only [yz] <;> omega) | fail)) only [↓yp,yq0,yq1,yq2,yq3,yq4,yl,ys0,ys1,Nat.reduceAdd,Nat.reduceMul,Nat.reduceSub,Nat.reduceBEq,Nat.reduceEqDiff,Nat.reduceLT,Nat.reduceLeDiff,reduceIte,Int.reduceAdd,Int.reduceSub,Int.reduceMul,Int.reduceLT,Int.reduceLE,Int.reduceEq,Int.reduceToNat,Int.reduceNeg,fitB,newC,endD,endR,yrg,t3,t4,bb2,ba2,h37,h38,b0,haw]
  · simp (disch := (first | (simp only [ne_eq,Nat.reduceEqDiff,not_false_eq_true,Nat.reduceLT]; done) | omega | (simp only [yz] <;> omega) | fail)) only [↓yp,yq0,yq1,yq2,yq3,yq4,yl,ys0,ys1,Nat.reduceAdd,Nat.reduceMul,Nat.reduceSub,Nat.reduceBEq,Nat.reduceEqDiff,Nat.reduceLT,Nat.reduceLeDiff,reduceIte,Int.reduceAdd,Int.reduceSub,Int.reduceMul,Int.reduceLT,Int.reduceLE,Int.reduceEq,Int.reduceToNat,Int.reduceNeg,fitB,newC,endD,endR,yrg,t3,bb2]
    refine c37 bil (by rw [hA]; exact hz) (by omega) (by omega) ?_
    intro b1 c1 H3 fr3 b10 r1
    have sz3 := fr3.size
    rw [hA] at r1
    have bb3 := (fr3.same H2.size (by omega)).trans bb2
    have ba3 := (fr3.same (H2.size + 1) (by omega)).trans ba2
    simp (disch := (first | (simp only [ne_eq,Nat.reduceEqDiff,not_false_eq_true,Nat.reduceLT]; done) | omega | (simp only [yz] <;> omega) | fail)) only [↓yp,yq0,yq1,yq2,yq3,yq4,yl,ys0,ys1,Nat.reduceAdd,Nat.reduceMul,Nat.reduceSub,Nat.reduceBEq,Nat.reduceEqDiff,Nat.reduceLT,Nat.reduceLeDiff,reduceIte,Int.reduceAdd,Int.reduceSub,Int.reduceMul,Int.reduceLT,Int.reduceLE,Int.reduceEq,Int.reduceToNat,Int.reduceNeg,fitB,newC,endD,endR,yrg,t3,bb3]
    refine c38 (bil.fr fr3) hA hz (by omega) (by omega) ?_
    intro b2 K q H4 fr4 b20 r2 R hK hR
    have sz4 := fr4.size
    have bb4 := (fr4.same H2.size (by omega)).trans bb3
    have ba4 := (fr4.same (H2.size + 1) (by omega)).trans ba3
    have ql : q.length = hs.length := by rw [R.len, List.length_map]
    have z0 : decide (A = 0) = false := decide_eq_false hz
    simp (disch := (first | (simp only [ne_eq,Nat.reduceEqDiff,not_false_eq_true,Nat.reduceLT]; done) | omega | (simp only [yz] <;> omega) | fail)) only [↓yp,yq0,yq1,yq2,yq3,yq4,yl,ys0,ys1,Nat.reduceAdd,Nat.reduceMul,Nat.reduceSub,Nat.reduceBEq,Nat.reduceEqDiff,Nat.reduceLT,Nat.reduceLeDiff,reduceIte,Int.reduceAdd,Int.reduceSub,Int.reduceMul,Int.reduceLT,Int.reduceLE,Int.reduceEq,Int.reduceToNat,Int.reduceNeg,fitB,newC,endD,endR,yrg,t4,ba4,z0]
    have qs : isum q = p := by have := R.sum; omega
    have qb : ∀ x ∈ q, -1000000000000 ≤ x ∧ x ≤ 1000000000000 := fun x hx => by
      obtain ⟨i, hi, hix⟩ := List.getElem_of_mem hx
      have e1 : q[i]? = some x := by rw [List.getElem?_eq_getElem hi, hix]
      obtain ⟨s, hs'⟩ : ∃ s, hs[i]? = some s := ⟨_, List.getElem?_eq_getElem (by omega)⟩
      have fk : (flr p A (hs.map Hs.v))[i]? = some (p * s.v / A) := by unfold flr; rw [List.getElem?_map, List.getElem?_map, hs']; rfl
      have := fl_bd ok hA (by omega) (List.mem_of_getElem? hs')
      rcases R.one i x _ e1 fk with h | h <;> omega
    have h39 := fun (N : Nat) => c39 (N := N) (cap := c) (p := p) ((rx.rw.fr frG2).fr (fr3.trans fr4)) (by have := ok.len; omega)
    rw [ok.chk] at h39
    have h40 := fun (N : Nat) => c40 (N := N) (cap := OPEN + 1) r2 (by have := ok.len; omega) qb
    rw [qs, ql] at h40
    have b0 : ∀ z : Int, decide (z = z) = true := fun z => by simp
    refine W_draw [] rfl (by kernel_rfl) (by kernel_rfl) (by (first | omega | (simp only [yz] <;> omega))) ?_
    simp (disch := (first | (simp only [ne_eq,Nat.reduceEqDiff,not_false_eq_true,Nat.reduceLT]; done) | omega | (simp only [yz] <;> omega) | fail)) only [↓yp,yq0,yq1,yq2,yq3,yq4,yl,ys0,ys1,Nat.reduceAdd,Nat.reduceMul,Nat.reduceSub,Nat.reduceBEq,Nat.reduceEqDiff,Nat.reduceLT,Nat.reduceLeDiff,reduceIte,Int.reduceAdd,Int.reduceSub,Int.reduceMul,Int.reduceLT,Int.reduceLE,Int.reduceEq,Int.reduceToNat,Int.reduceNeg,fitB,newC,endD,endR,yrg,t3,t4,bb4,ba4,h39,h40,lenV_slice st_esS_37,lenV_slice st_esS_40,lenV_slice st_esS_73,b0,tm_makeFunc]
    refine hbb H4 H2.size (H2.size + 1) b b1 b2 c c1 (OPEN + 1) p A hs q _ K _ ⟨?_, ?_, ?_, ?_, ?_, bb4, ba4, (rx.rw.fr frG2).fr (fr3.trans fr4), r1.fr fr4, r2, ok, hA, by omega, ql, by omega, by omega⟩ R hR (by omega) (by omega)
    · simp (disch := (first | (simp only [ne_eq,Nat.reduceEqDiff,not_false_eq_true,Nat.reduceLT]; done) | omega | (simp only [yz] <;> omega) | fail)) only [yg,Nat.reduceAdd,Nat.reduceEqDiff,Nat.reduceLT,t3]
    · simp (disch := (first | (simp only [ne_eq,Nat.reduceEqDiff,not_false_eq_true,Nat.reduceLT]; done) | omega | (simp only [yz] <;> omega) | fail)) only [yg,Nat.reduceAdd,Nat.reduceEqDiff,Nat.reduceLT,t4]
    · simp (disch := (first | (simp only [ne_eq,Nat.reduceEqDiff,not_false_eq_true,Nat.reduceLT]; done) | omega | (simp only [yz] <;> omega) | fail)) only [yg,Nat.reduceAdd,Nat.reduceEqDiff,Nat.reduceLT]
    · simp (disch := (first | (simp only [ne_eq,Nat.reduceEqDiff,not_false_eq_true,Nat.reduceLT]; done) | omega | (simp only [yz] <;> omega) | fail)) only [yg,Nat.reduceAdd,Nat.reduceEqDiff,Nat.reduceLT]
    · simp (disch := (first | (simp only [ne_eq,Nat.reduceEqDiff,not_false_eq_true,Nat.reduceLT]; done) | omega | (simp only [yz] <;> omega) | fail)) only [yg,Nat.reduceAdd,Nat.reduceEqDiff,Nat.reduceLT]
end
end Go.Am
