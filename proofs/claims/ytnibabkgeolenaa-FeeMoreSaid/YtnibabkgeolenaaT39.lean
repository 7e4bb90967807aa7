/- The shares of a bill, added up. -/
import Derived.Test.YtnibabkgeolenaaT38
set_option linter.unusedSimpArgs false
set_option linter.unusedVariables false
namespace Go.Am
open Go.Proofs
variable {T : Tab} {P : Program} {N L : Nat} {H H' H'' : AHeap} {Q : Bool → Value → AHeap → Prop}
theorem cell0_of {c r : List Value} {k z : Nat} {v : Value} (h : (c.drop k).take (z + 1) = v :: r) : c[k]? = some v := by
  have := congrArg (fun l => l[0]?) h
  simpa [List.getElem?_take, List.getElem?_drop] using this
theorem c40 {a : Option Addr} {cap : Nat} {t : List Int} (hs : Rw intE H a t) (hl : t.length ≤ 64) (hb : ∀ x ∈ t, -1000000000000 ≤ x ∧ x ≤ 1000000000000) :
    acall tabA (aexec tabA Try.prog (N + 150)) 40 [.slice a t.length cap] H = some (true, .int .i64 (isum t), H, H.size) := by
  refine call_quiet (k := 17) (rs := [.tmp 2]) rfl fn_40 rfl rfl rfl ?_ rfl
  simp (disch := (first | (simp only [ne_eq,Nat.reduceEqDiff,not_false_eq_true,Nat.reduceLT]; done) | omega | (simp only [yz] <;> omega) | fail)) only [↓yp,yq0,yq1,yq2,yq3,yq4,yl,ys0,ys1,Nat.reduceAdd,Nat.reduceMul,Nat.reduceSub,Nat.reduceBEq,Nat.reduceEqDiff,Nat.reduceLT,Nat.reduceLeDiff,reduceIte,Int.reduceAdd,Int.reduceSub,Int.reduceMul,Int.reduceLT,Int.reduceLE,Int.reduceEq,Int.reduceToNat,Int.reduceNeg,fitB,newC,endD,endR,yrg,lenV_slice st_esS_40]
  refine W_while (n := 17) 40 (fun k e H' => ∃ i : Nat, k = t.length - i ∧ i ≤ t.length ∧ gt 17 e 8 = .int .i64 (i : Nat) ∧ gt 17 e 7 = .int .i64 t.length ∧ gt 17 e 6 = .slice a t.length cap ∧ gt 17 e 3 = .int .i64 (isum (t.take i)) ∧ H' = H)
    ?_ 64 t.length ⟨0, by omega, by omega, by simp (disch := (first | (simp only [ne_eq,Nat.reduceEqDiff,not_false_eq_true,Nat.reduceLT]; done) | omega | (simp only [yz] <;> omega) | fail)) only [yg,Nat.reduceAdd,Nat.reduceEqDiff,Nat.reduceLT]; rfl, by simp (disch := (first | (simp only [ne_eq,Nat.reduceEqDiff,not_false_eq_true,Nat.reduceLT]; done) | omega | (simp only [yz] <;> omega) | fail)) only [yg,Nat.reduceAdd,Nat.reduceEqDiff,Nat.reduceLT], by simp (disch := (first | (simp only [ne_eq,Nat.reduceEqDiff,not_false_eq_true,Nat.reduceLT]; done) | omega | (simp only [yz] <;> omega) | fail)) only [yg,Nat.reduceAdd,Nat.reduceEqDiff,Nat.reduceLT], by simp (disch := (first | (simp only [ne_eq,Nat.reduceEqDiff,not_false_eq_true,Nat.reduceLT]; done) | omega | (simp only [yz] <;> omega) | fail)) only [yg,Nat.reduceAdd,Nat.reduceEqDiff,Nat.reduceLT]; rfl, rfl⟩ (by omega) (by omega)
  rintro M k e H' ⟨i, rfl, hi, g8, g7, g6, g3, rfl⟩
  simp (disch := (first | (simp only [ne_eq,Nat.reduceEqDiff,not_false_eq_true,Nat.reduceLT]; done) | omega | (simp only [yz] <;> omega) | fail)) only [↓yp,yq0,yq1,yq2,yq3,yq4,yl,ys0,ys1,Nat.reduceAdd,Nat.reduceMul,Nat.reduceSub,Nat.reduceBEq,Nat.reduceEqDiff,Nat.reduceLT,Nat.reduceLeDiff,reduceIte,Int.reduceAdd,Int.reduceSub,Int.reduceMul,Int.reduceLT,Int.reduceLE,Int.reduceEq,Int.reduceToNat,Int.reduceNeg,fitB,newC,endD,endR,yrg,g8,g7]
  refine ⟨fun hA => ?_, fun hA => ?_⟩
  · have hi' : i < t.length := by simpa using hA
    obtain ⟨v, hv⟩ : ∃ v, t[i]? = some v := ⟨t[i], by simp [hi']⟩
    obtain ⟨b, o, c, rfl, hb', hc, hp⟩ := hs.at_ hv
    have q := cell_of hp
    rw [show i * intE.z = i * 1 from rfl, Nat.mul_one] at q
    have hv2 := hb v (List.mem_of_getElem? hv)
    have hs1 := isum_in (l := t.take i) (m := 1000000000000) fun x hx => hb x (List.mem_of_mem_take hx)
    have hl1 : (t.take i).length ≤ 64 := by rw [List.length_take]; omega
    have e1 : isum (t.take i) + v = isum (t.take (i + 1)) := by
      rw [List.take_add_one, hv, isum_app]; show _ = _ + (v + 0); omega
    have hw : w64 (isum (t.take i) + v) = isum (t.take (i + 1)) := by rw [w64_of (by omega), e1]
    have hw2 : w64 ((i : Int) + 1) = ((i + 1 : Nat) : Int) := by rw [w64_of (by omega)]; omega
    simp (disch := (first | (simp only [ne_eq,Nat.reduceEqDiff,not_false_eq_true,Nat.reduceLT]; done) | omega | (simp only [yz] <;> omega) | fail)) only [↓yp,yq0,yq1,yq2,yq3,yq4,yl,ys0,ys1,Nat.reduceAdd,Nat.reduceMul,Nat.reduceSub,Nat.reduceBEq,Nat.reduceEqDiff,Nat.reduceLT,Nat.reduceLeDiff,reduceIte,Int.reduceAdd,Int.reduceSub,Int.reduceMul,Int.reduceLT,Int.reduceLE,Int.reduceEq,Int.reduceToNat,Int.reduceNeg,fitB,newC,endD,endR,yrg,g8,g7,g6,g3,A_indexSlice st_esS_40,hc,q,hw,hw2]
    exact ⟨t.length - (i + 1), by omega, i + 1, rfl, by omega, by simp (disch := (first | (simp only [ne_eq,Nat.reduceEqDiff,not_false_eq_true,Nat.reduceLT]; done) | omega | (simp only [yz] <;> omega) | fail)) only [yg,Nat.reduceAdd,Nat.reduceEqDiff,Nat.reduceLT], by simp (disch := (first | (simp only [ne_eq,Nat.reduceEqDiff,not_false_eq_true,Nat.reduceLT]; done) | omega | (simp only [yz] <;> omega) | fail)) only [yg,Nat.reduceAdd,Nat.reduceEqDiff,Nat.reduceLT,g7], by simp (disch := (first | (simp only [ne_eq,Nat.reduceEqDiff,not_false_eq_true,Nat.reduceLT]; done) | omega | (simp only [yz] <;> omega) | fail)) only [yg,Nat.reduceAdd,Nat.reduceEqDiff,Nat.reduceLT,g6], by simp (disch := (first | (simp only [ne_eq,Nat.reduceEqDiff,not_false_eq_true,Nat.reduceLT]; done) | omega | (simp only [yz] <;> omega) | fail)) only [yg,Nat.reduceAdd,Nat.reduceEqDiff,Nat.reduceLT], rfl⟩
  · have hi' : i = t.length := by have : ¬ ((i : Int) < t.length) := by simpa using hA
                                  omega
    subst hi'
    rw [List.take_length] at g3
    simp (disch := (first | (simp only [ne_eq,Nat.reduceEqDiff,not_false_eq_true,Nat.reduceLT]; done) | omega | (simp only [yz] <;> omega) | fail)) only [↓yp,yq0,yq1,yq2,yq3,yq4,yl,ys0,ys1,Nat.reduceAdd,Nat.reduceMul,Nat.reduceSub,Nat.reduceBEq,Nat.reduceEqDiff,Nat.reduceLT,Nat.reduceLeDiff,reduceIte,Int.reduceAdd,Int.reduceSub,Int.reduceMul,Int.reduceLT,Int.reduceLE,Int.reduceEq,Int.reduceToNat,Int.reduceNeg,fitB,newC,endD,endR,yrg,g3]
section
variable {kb ka cap : Nat} {a : Option Addr} {hs : List Hs} {p A : Int}
end
end Go.Am
/- A bill is put to work, by bids. -/
namespace Go.Am
open Go.Proofs
variable {T : Tab} {P : Program} {N L : Nat} {H H' H'' : AHeap} {Q : Bool → Value → AHeap → Prop}
/-- By bids: the greater value, divided by its pence, comes first. -/
def befB (vs : List Int) (i : Nat) (x : Int) (k : Nat) (y : Int) : Bool := decide ((if vs.getD k 0 * x - vs.getD i 0 * y = 0 then (i : Int) - (k : Int) else vs.getD k 0 * x - vs.getD i 0 * y) < 0)
theorem befB_iff {vs : List Int} {i k : Nat} {x y : Int} : befB vs i x k y = true ↔ vs.getD k 0 * x < vs.getD i 0 * y ∨ vs.getD k 0 * x = vs.getD i 0 * y ∧ i < k := by
  unfold befB
  rw [decide_eq_true_iff]
  generalize vs.getD k 0 * x = a
  generalize vs.getD i 0 * y = b
  split <;> omega
theorem befB_tot {vs : List Int} {i k : Nat} {x y : Int} (h : i ≠ k) : befB vs i x k y = true ∨ befB vs k y i x = true := by
  rw [befB_iff, befB_iff]
  generalize vs.getD k 0 * x = a
  generalize vs.getD i 0 * y = b
  omega
theorem befB_tr {vs : List Int} {i j k : Nat} {x y z : Int} (hx : 1 ≤ x) (hy : 1 ≤ y) (hz : 1 ≤ z) (h1 : befB vs i x j y = true) (h2 : befB vs j y k z = true) : befB vs i x k z = true := by
  rw [befB_iff] at h1 h2 ⊢
  generalize vs.getD i 0 = a at *
  generalize vs.getD j 0 = b at *
  generalize vs.getD k 0 = c at *
  -- b x ≤ a y, c y ≤ b z
  have e1 : c * x * y = c * y * x := by rw [Int.mul_assoc, Int.mul_comm x y, ← Int.mul_assoc]
  have e2 : b * z * x = b * x * z := by rw [Int.mul_assoc, Int.mul_comm z x, ← Int.mul_assoc]
  have e3 : a * y * z = a * z * y := by rw [Int.mul_assoc, Int.mul_comm y z, ← Int.mul_assoc]
  by_cases hs : b * x < a * y ∨ c * y < b * z
  · left
    have m1 : c * y * x ≤ b * z * x := Int.mul_le_mul_of_nonneg_right (by omega) (by omega)
    have m2 : b * x * z ≤ a * y * z := Int.mul_le_mul_of_nonneg_right (by omega) (by omega)
    have : c * x * y < a * z * y := by
      rcases hs with hs | hs
      · have m3 : b * x * z < a * y * z := Int.mul_lt_mul_of_pos_right hs (by omega)
        omega
      · have m3 : c * y * x < b * z * x := Int.mul_lt_mul_of_pos_right hs (by omega)
        omega
    exact Int.lt_of_mul_lt_mul_right this (by omega)
  · right
    have f1 : b * x = a * y := by omega
    have f2 : c * y = b * z := by omega
    refine ⟨?_, by omega⟩
    have : c * x * y = a * z * y := by rw [e1, f2, e2, f1, e3]
    exact Int.eq_of_mul_eq_mul_right (by omega) this
section
variable {ck : Nat} {ad : Option Addr} {c : Nat} {hs : List Hs} {p : Int}
set_option maxHeartbeats 2000000 in
theorem c109 {i k : Nat} {x y : Int} (hb : H.get ck = .rw [.int .i64 p, .slice ad hs.length c] 39 false []) (hl : ck < H.size) (hr : Rw hsE H ad hs) (hbd : ∀ h ∈ hs, 0 ≤ h.v ∧ h.v ≤ 1000) (hi : i < hs.length) (hk : k < hs.length) (h6 : hs.length ≤ 6) (hx : 0 ≤ x ∧ x ≤ 1001) (hy : 0 ≤ y ∧ y ≤ 1001) :
    acall tabA (aexec tabA Try.prog (N + 300)) 109 [.agg ⟨[.int .i64 (i : Nat), .int .i64 x]⟩, .agg ⟨[.int .i64 (k : Nat), .int .i64 y]⟩, .pointer (some ⟨ck, 0, none⟩)] H = some (true, .bool (befB (hs.map Hs.v) i x k y), H, H.size) := by
  refine call_quiet (k := 37) (rs := [.tmp 5]) rfl fn_109 rfl rfl rfl ?_ rfl
  obtain ⟨s1, e1⟩ : ∃ s, hs[i]? = some s := ⟨_, List.getElem?_eq_getElem hi⟩
  obtain ⟨s2, e2⟩ : ∃ s, hs[k]? = some s := ⟨_, List.getElem?_eq_getElem hk⟩
  have b1 := hbd _ (List.mem_of_getElem? e1)
  have b2 := hbd _ (List.mem_of_getElem? e2)
  have v1 : (hs.map Hs.v).getD i 0 = s1.v := by rw [List.getD_eq_getElem?_getD, List.getElem?_map, e1]; rfl
  have v2 : (hs.map Hs.v).getD k 0 = s2.v := by rw [List.getD_eq_getElem?_getD, List.getElem?_map, e2]; rfl
  obtain ⟨b, o, c', rfl, hbb, hc, hq1⟩ := hr.at_ e1
  obtain ⟨b', o', c'', eb, -, hc', hq2⟩ := hr.at_ e2
  cases eb
  rw [hc] at hc'
  cases hc'
  have q1 : c'[o + i * 3]? = some (.int .i64 s1.v) := cell0_of (z := 2) hq1
  have q2 : c'[o + k * 3]? = some (.int .i64 s2.v) := cell0_of (z := 2) hq2
  have m1 : 0 ≤ s2.v * x ∧ s2.v * x ≤ 1000 * 1001 := ⟨Int.mul_nonneg b2.1 hx.1, Int.mul_le_mul b2.2 hx.2 hx.1 (by omega)⟩
  have m2 : 0 ≤ s1.v * y ∧ s1.v * y ≤ 1000 * 1001 := ⟨Int.mul_nonneg b1.1 hy.1, Int.mul_le_mul b1.2 hy.2 hy.1 (by omega)⟩
  unfold befB
  rw [v1, v2]
  obtain ⟨X, hX⟩ : ∃ X, s2.v * x = X := ⟨_, rfl⟩
  obtain ⟨Y, hY⟩ : ∃ Y, s1.v * y = Y := ⟨_, rfl⟩
  rw [hX] at m1 ⊢
  rw [hY] at m2 ⊢
  have w0 : w64 (s2.v * x) = X := by rw [w64_of (by omega), hX]
  have w0' : w64 (s1.v * y) = Y := by rw [w64_of (by omega), hY]
  obtain ⟨d, hd⟩ : ∃ d, X - Y = d := ⟨_, rfl⟩
  have w1 : w64 (X - Y) = d := by rw [w64_of (by omega), hd]
  have w2 : w64 ((i : Int) - (k : Int)) = (i : Int) - (k : Int) := w64_of (by omega)
  rw [hd]
  have h110 := fun (N : Nat) => c110 (N := N) (H := ((H.alloc (.rw [.int .i64 (i : Nat), .int .i64 x] 154 false [])).alloc (.rw [.int .i64 (k : Nat), .int .i64 y] 154 false [])).alloc (.rw [.int .i64 d, .int .i64 ((i : Int) - (k : Int))] 3 false [])) (a := some ⟨H.size + 1 + 1, 0, none⟩) (cap := 2) (x := d) (y := (i : Int) - (k : Int)) (Rw.int (by (first | omega | (simp only [yz] <;> omega))) (by simp (disch := (first | (simp only [ne_eq,Nat.reduceEqDiff,not_false_eq_true,Nat.reduceLT]; done) | omega | (simp only [yz] <;> omega) | fail)) only [yg,Nat.reduceAdd,Nat.reduceEqDiff,Nat.reduceLT]; rfl))
  simp (disch := (first | (simp only [ne_eq,Nat.reduceEqDiff,not_false_eq_true,Nat.reduceLT]; done) | omega | (simp only [yz] <;> omega) | fail)) only [↓yp,yq0,yq1,yq2,yq3,yq4,yl,ys0,ys1,Nat.reduceAdd,Nat.reduceMul,Nat.reduceSub,Nat.reduceBEq,Nat.reduceEqDiff,Nat.reduceLT,Nat.reduceLeDiff,reduceIte,Int.reduceAdd,Int.reduceSub,Int.reduceMul,Int.reduceLT,Int.reduceLE,Int.reduceEq,Int.reduceToNat,Int.reduceNeg,fitB,newC,endD,endR,yrg]
  refine W_draw [] rfl (by kernel_rfl) (by kernel_rfl) (by (first | omega | (simp only [yz] <;> omega))) ?_
  simp (disch := (first | (simp only [ne_eq,Nat.reduceEqDiff,not_false_eq_true,Nat.reduceLT]; done) | omega | (simp only [yz] <;> omega) | fail)) only [↓yp,yq0,yq1,yq2,yq3,yq4,yl,ys0,ys1,Nat.reduceAdd,Nat.reduceMul,Nat.reduceSub,Nat.reduceBEq,Nat.reduceEqDiff,Nat.reduceLT,Nat.reduceLeDiff,reduceIte,Int.reduceAdd,Int.reduceSub,Int.reduceMul,Int.reduceLT,Int.reduceLE,Int.reduceEq,Int.reduceToNat,Int.reduceNeg,fitB,newC,endD,endR,yrg,hb,A_indexSlice st_esS_37,hc,q1,q2,w0,w0',w1,w2,A_buildSlice st_brS_40_2,h110]
theorem fo_bid (hb : H.get ck = .rw [.int .i64 p, .slice ad hs.length c] 39 false []) (hl : ck < H.size) (hr : Rw hsE H ad hs) (hbd : ∀ h ∈ hs, 0 ≤ h.v ∧ h.v ≤ 1000) (h6 : hs.length ≤ 6) : FO H 109 hs.length [.pointer (some ⟨ck, 0, none⟩)] (befB (hs.map Hs.v)) :=
  ⟨⟨ck, rfl⟩, fun N H' f i k x y hi hk hx hy => c109 (by rw [f.same _ hl]; exact hb) (Nat.lt_of_lt_of_le hl f.size) (hr.fr f) hbd hi hk h6 hx hy⟩
end
section
variable {p : Int} {ad : Addr} {c : Nat} {hs : List Hs}
/-- byBids. -/
theorem c69 (h : Bil H (some ad) hs p) (hL : L ≤ H.size) {M : Nat} (hM : 800 ≤ M)
    (hk : ∀ ck H', Fr H H' → Wk H' (some ad) hs (pad6 (hs.map Hs.l)) → FO H' 109 hs.length [.pointer (some ⟨ck, 0, none⟩)] (befB (hs.map Hs.v)) →
      Q false (.agg ⟨wkC p (some ad) hs.length c (pad6 (hs.map Hs.l)) 109 [.pointer (some ⟨ck, 0, none⟩)]⟩) H') :
    resK (acall tabA (aexec tabA Try.prog M) 69 [.agg ⟨[.int .i64 p, .slice (some ad) hs.length c]⟩] H) L Q := by
  obtain ⟨N, rfl⟩ : ∃ N, M = N + 800 := ⟨M - 800, by omega⟩
  refine call_fls (R := fun v H' => ∃ ck, v = .agg ⟨wkC p (some ad) hs.length c (pad6 (hs.map Hs.l)) 109 [.pointer (some ⟨ck, 0, none⟩)]⟩ ∧ Fr H H' ∧ Wk H' (some ad) hs (pad6 (hs.map Hs.l)) ∧ FO H' 109 hs.length [.pointer (some ⟨ck, 0, none⟩)] (befB (hs.map Hs.v))) (k := 6) (rs := [.cell 2 119]) rfl fn_69 rfl rfl rfl hL ?_ ?_ ?_
  rotate_left
  · rintro v H' ⟨ck, rfl, -⟩; rfl
  · rintro v H' ⟨ck, rfl, h1, h2, h3⟩
    exact hk _ _ h1 h2 h3
  have hl := h.ok.len
  simp (disch := (first | (simp only [ne_eq,Nat.reduceEqDiff,not_false_eq_true,Nat.reduceLT]; done) | omega | (simp only [yz] <;> omega) | fail)) only [↓yp,yq0,yq1,yq2,yq3,yq4,yl,ys0,ys1,Nat.reduceAdd,Nat.reduceMul,Nat.reduceSub,Nat.reduceBEq,Nat.reduceEqDiff,Nat.reduceLT,Nat.reduceLeDiff,reduceIte,Int.reduceAdd,Int.reduceSub,Int.reduceMul,Int.reduceLT,Int.reduceLE,Int.reduceEq,Int.reduceToNat,Int.reduceNeg,fitB,newC,endD,endR,yrg,tm_makeFunc,wk_zero]
  refine c108 ⟨_, rfl⟩ (h.rw.fr (by (repeat (first | exact Fr.refl _ | assumption | refine Fr.allocd ?_ _ | refine Fr.kill ?_ (by first | assumption | omega) | refine Fr.put ?_ (by first | omega | (simp only [yz] <;> omega)) _)))) hl.1 hl.2 (by (first | omega | (simp only [yz] <;> omega))) (by omega) ?_
  intro H1 fr1
  have f1 := fr1.size
  simp only [size_alloc] at f1
  have b1 : H1.get H.size = .rw [.int .i64 p, .slice (some ad) hs.length c] 39 false [] := by rw [fr1.same _ (by (first | omega | (simp only [yz] <;> omega))), get_alloc_lt (by (first | omega | (simp only [yz] <;> omega))), get_alloc_eq rfl]
  have b2 := fr1.same (H.size + 1) (by (first | omega | (simp only [yz] <;> omega)))
  rw [get_alloc_eq (by (first | omega | (simp only [yz] <;> omega)))] at b2
  have hp6 := pad6_len (q := hs.map Hs.l) (by rw [List.length_map]; exact hl.2)
  simp (disch := (first | (simp only [ne_eq,Nat.reduceEqDiff,not_false_eq_true,Nat.reduceLT]; done) | omega | (simp only [yz] <;> omega) | fail)) only [↓yp,yq0,yq1,yq2,yq3,yq4,yl,ys0,ys1,Nat.reduceAdd,Nat.reduceMul,Nat.reduceSub,Nat.reduceBEq,Nat.reduceEqDiff,Nat.reduceLT,Nat.reduceLeDiff,reduceIte,Int.reduceAdd,Int.reduceSub,Int.reduceMul,Int.reduceLT,Int.reduceLE,Int.reduceEq,Int.reduceToNat,Int.reduceNeg,fitB,newC,endD,endR,yrg,b2,wk_all hp6,wk_len hp6,wk_one]
  have fr2 : Fr H (H1.put (H.size + 1) (.rw (wkC p (some ad) hs.length c (pad6 (hs.map Hs.l)) 109 [.pointer (some ⟨H.size, 0, none⟩)]) 119 false [])) := ⟨by rw [size_put]; omega, fun j hj => by rw [get_put_ne (by omega), fr1.same _ (by (first | omega | (simp only [yz] <;> omega))), get_alloc_lt (by (first | omega | (simp only [yz] <;> omega))), get_alloc_lt (by omega)]⟩
  refine ⟨H.size, rfl, fr2, ⟨h.rw.fr fr2, hl, hp6, ?_, ?_⟩, fo_bid (p := p) (c := c) (by rw [get_put_ne (by omega)]; exact b1) (by rw [size_put]; omega) (h.rw.fr fr2) (fun x hx => (h.ok.ok x hx).v) hl.2⟩
  · refine pad6_bd (by omega) fun x hx => ?_
    obtain ⟨y, hy, rfl⟩ := List.mem_map.1 hx
    have := h.ok.ok y hy
    have h1 := this.l
    have h2 := this.m
    omega
  · intro x hx
    have := (h.ok.ok x hx).m
    omega
/-- canBePaid. -/
theorem c80 {a : Option Addr} (h : Bil H a hs p) : acall tabA (aexec tabA Try.prog (N + 900)) 80 [.agg ⟨[.int .i64 p, .slice a hs.length c]⟩] H = some (true, .bool (wi p (isum (hs.map Hs.l)) (isum (hs.map Hs.m))), H, H.size) := by
  refine call_quiet (k := 14) (rs := [.tmp 2]) rfl fn_80 rfl rfl rfl ?_ rfl
  have hl := h.ok.len
  have hl6 : (hs.map Hs.l).length ≤ 64 := by rw [List.length_map]; omega
  have hm6 : (hs.map Hs.m).length ≤ 64 := by rw [List.length_map]; omega
  have bl : ∀ x ∈ hs.map Hs.l, -1000000000000 ≤ x ∧ x ≤ 1000000000000 := fun x hx => by
    obtain ⟨y, hy, rfl⟩ := List.mem_map.1 hx
    have := h.ok.ok y hy
    have h1 := this.l
    have h2 := this.m
    omega
  have bm : ∀ x ∈ hs.map Hs.m, -1000000000000 ≤ x ∧ x ≤ 1000000000000 := fun x hx => by
    obtain ⟨y, hy, rfl⟩ := List.mem_map.1 hx
    have := (h.ok.ok y hy).m
    omega
  have h57 := fun (N : Nat) (H : AHeap) (n lo hi : Int) => c57 (N := N) (H := H) (n := n) (lo := lo) (hi := hi)
  simp (disch := (first | (simp only [ne_eq,Nat.reduceEqDiff,not_false_eq_true,Nat.reduceLT]; done) | omega | (simp only [yz] <;> omega) | fail)) only [↓yp,yq0,yq1,yq2,yq3,yq4,yl,ys0,ys1,Nat.reduceAdd,Nat.reduceMul,Nat.reduceSub,Nat.reduceBEq,Nat.reduceEqDiff,Nat.reduceLT,Nat.reduceLeDiff,reduceIte,Int.reduceAdd,Int.reduceSub,Int.reduceMul,Int.reduceLT,Int.reduceLE,Int.reduceEq,Int.reduceToNat,Int.reduceNeg,fitB,newC,endD,endR,yrg]
  refine W_drawR (pl := []) [4, 8] [(5, 0), (9, 0), (9, 1)] (planK_of rfl) (by kernel_rfl) (by kernel_rfl) (by kernel_rfl) (by (first | omega | (simp only [yz] <;> omega))) ?_
  simp (disch := (first | (simp only [ne_eq,Nat.reduceEqDiff,not_false_eq_true,Nat.reduceLT]; done) | omega | (simp only [yz] <;> omega) | fail)) only [↓yp,yq0,yq1,yq2,yq3,yq4,yl,ys0,ys1,Nat.reduceAdd,Nat.reduceMul,Nat.reduceSub,Nat.reduceBEq,Nat.reduceEqDiff,Nat.reduceLT,Nat.reduceLeDiff,reduceIte,Int.reduceAdd,Int.reduceSub,Int.reduceMul,Int.reduceLT,Int.reduceLE,Int.reduceEq,Int.reduceToNat,Int.reduceNeg,fitB,newC,endD,endR,yrg]
  refine c113 (g := 114) (f := Hs.l) (h.rw.fr (by (repeat (first | exact Fr.refl _ | assumption | refine Fr.allocd ?_ _ | refine Fr.kill ?_ (by first | assumption | omega) | refine Fr.put ?_ (by first | omega | (simp only [yz] <;> omega)) _)))) (fun h0 => by rw [h0] at hl; simp at hl) (by omega) (fun N H' x => c114) (by (first | omega | (simp only [yz] <;> omega))) (by omega) ?_
  intro b1 cc1 H1 fr1 hb1 r1
  have f1 := fr1.size
  simp only [size_alloc] at f1
  have bb := fr1.same H.size (by (first | omega | (simp only [yz] <;> omega)))
  rw [get_alloc_eq rfl] at bb
  have h77 := fun (N : Nat) => c77 (N := N) (cap := cc1) r1 hl6 bl
  rw [List.length_map] at h77
  simp (disch := (first | (simp only [ne_eq,Nat.reduceEqDiff,not_false_eq_true,Nat.reduceLT]; done) | omega | (simp only [yz] <;> omega) | fail)) only [↓yp,yq0,yq1,yq2,yq3,yq4,yl,ys0,ys1,Nat.reduceAdd,Nat.reduceMul,Nat.reduceSub,Nat.reduceBEq,Nat.reduceEqDiff,Nat.reduceLT,Nat.reduceLeDiff,reduceIte,Int.reduceAdd,Int.reduceSub,Int.reduceMul,Int.reduceLT,Int.reduceLE,Int.reduceEq,Int.reduceToNat,Int.reduceNeg,fitB,newC,endD,endR,yrg,h77,bb]
  refine c113 (g := 115) (f := Hs.m) ((h.rw.fr (Fr.alloc _ _)).fr fr1) (fun h0 => by rw [h0] at hl; simp at hl) (by omega) (fun N H' x => c115) (by omega) (by omega) ?_
  intro b2 cc2 H2 fr2 hb2 r2
  have f2 := fr2.size
  have h77' := fun (N : Nat) => c77 (N := N) (cap := cc2) r2 hm6 bm
  rw [List.length_map] at h77'
  have bb2 := (fr2.same H.size (by omega)).trans bb
  have h772 := fun (N : Nat) => c77 (N := N) (cap := cc1) (r1.fr fr2) hl6 bl
  rw [List.length_map] at h772
  have sv : sameV 6 (.slice a hs.length c) (.slice a hs.length c) = true := by cases a <;> exact sv_slice
  simp (disch := (first | (simp only [ne_eq,Nat.reduceEqDiff,not_false_eq_true,Nat.reduceLT]; done) | omega | (simp only [yz] <;> omega) | fail)) only [↓yp,yq0,yq1,yq2,yq3,yq4,yl,ys0,ys1,Nat.reduceAdd,Nat.reduceMul,Nat.reduceSub,Nat.reduceBEq,Nat.reduceEqDiff,Nat.reduceLT,Nat.reduceLeDiff,reduceIte,Int.reduceAdd,Int.reduceSub,Int.reduceMul,Int.reduceLT,Int.reduceLE,Int.reduceEq,Int.reduceToNat,Int.reduceNeg,fitB,newC,endD,endR,yrg,h77,h772,h77',h57,bb,bb2,sv]
end
end Go.Am
/- Pennies are paid by bids. -/
namespace Go.Am
open Go.Proofs
/-- While pennies are paid by bids: no house outbids another one. -/
structure BidI (hs : List Hs) (q : List Int) (k : Int) : Prop where
  len : q.length = hs.length
  bd : ∀ (i : Nat) (h : Hs) (y : Int), hs[i]? = some h → q[i]? = some y → h.l ≤ y ∧ y ≤ h.m
  st : ∀ (i j : Nat) (h h' : Hs) (y y' : Int), i ≠ j → hs[i]? = some h → q[i]? = some y → hs[j]? = some h' → q[j]? = some y' → y < h.m → h'.l < y' → befB (hs.map Hs.v) j y' i (y + 1) = true
  sum : isum q = isum (hs.map Hs.l) + k
section
variable {hs : List Hs} {q : List Int} {k : Int}
theorem BidI.begin_ (hok : ∀ h ∈ hs, h.Ok) : BidI hs (hs.map Hs.l) 0 where
  len := List.length_map ..
  bd i h y h1 h2 := by
    rw [List.getElem?_map, h1] at h2
    cases h2
    have := (hok h (List.mem_of_getElem? h1)).l
    omega
  st i j h h' y y' _ _ _ h3 h4 _ h6 := by
    rw [List.getElem?_map, h3] at h4
    cases h4
    omega
  sum := by omega
theorem befB_up {vs : List Int} {i j : Nat} {x y z : Int} (hv : ∀ v ∈ vs, 0 ≤ v) (h : befB vs j x i y = true) (hy : y ≤ z) : befB vs j x i z = true := by
  have h0 : 0 ≤ vs.getD j 0 := by
    rw [List.getD_eq_getElem?_getD]
    cases hj : vs[j]? with
    | none => exact Int.le_refl 0
    | some v => exact hv v (List.mem_of_getElem? hj)
  rw [befB_iff] at h ⊢
  have := Int.mul_le_mul_of_nonneg_left hy h0
  omega
theorem BidI.next (I : BidI hs q k) (hv : ∀ v ∈ hs.map Hs.v, 0 ≤ v) {n : Nat} {h : Hs} {y : Int} (hn : hs[n]? = some h) (hy : q[n]? = some y) (hlt : y < h.m)
    (best : ∀ (j : Nat) (h' : Hs) (y' : Int), j ≠ n → hs[j]? = some h' → q[j]? = some y' → y' < h'.m → befB (hs.map Hs.v) n (y + 1) j (y' + 1) = true) : BidI hs (q.set n (y + 1)) (k + 1) where
  len := by rw [List.length_set]; exact I.len
  bd i g x h1 h2 := by
    rw [List.getElem?_set] at h2
    split at h2
    · rename_i e
      subst e
      rw [hn] at h1; cases h1
      have := I.bd _ _ _ hn hy
      have : y + 1 = x := by split at h2 <;> simp_all
      omega
    · exact I.bd i g x h1 h2
  st i j g g' x x' hne h1 h2 h3 h4 h5 h6 := by
    have hnl := (List.getElem?_eq_some_iff.1 hy).1
    rw [List.getElem?_set] at h2 h4
    split at h2
    · rename_i e
      subst e
      rw [hn] at h1; cases h1
      rw [if_neg hne] at h4
      cases h2
      exact befB_up hv (I.st n j h g' y x' hne hn hy h3 h4 hlt h6) (by omega)
    · rename_i e
      split at h4
      · rename_i e'
        subst e'
        rw [hn] at h3; cases h3
        cases h4
        exact best i g x (fun h => hne h) h1 h2 h5
      · exact I.st i j g g' x x' hne h1 h2 h3 h4 h5 h6
  sum := by rw [isum_set _ hy, I.sum]; omega
theorem can_bid (hq : q.length = hs.length) {i : Nat} : canB hs (pad6 q) i = true ↔ ∃ h y, hs[i]? = some h ∧ q[i]? = some y ∧ y < h.m := by
  unfold canB
  by_cases hi : i < hs.length
  · rw [pad6_at (by omega), List.getElem?_eq_getElem hi, List.getElem?_eq_getElem (by omega : i < q.length)]
    simp only [decide_eq_true_eq]
    exact ⟨fun h => ⟨_, _, rfl, rfl, h⟩, fun ⟨_, _, h1, h2, h⟩ => by cases h1; cases h2; exact h⟩
  · rw [List.getElem?_eq_none (by omega)]
    exact ⟨fun h => (by cases h), fun ⟨_, _, h1, _⟩ => (by cases h1)⟩
theorem isum_zero : ∀ k, isum (List.replicate k (0 : Int)) = 0
  | 0 => rfl
  | k + 1 => by rw [List.replicate_succ]; show 0 + isum (List.replicate k 0) = 0; rw [isum_zero k]; rfl
theorem BidI.free (I : BidI hs q k) (hk : isum q < isum (hs.map Hs.m)) : ∃ i, canB hs (pad6 q) i = true := by
  refine Classical.byContradiction fun hc => ?_
  have := isum_lin (r := List.replicate q.length 0) (p := q) (f := hs.map Hs.m) (c := 1) (by rw [List.length_replicate, List.length_map, I.len]) (by rw [List.length_map, I.len]) fun i x y z e1 e2 e3 => by
    rw [List.getElem?_replicate] at e1
    have hx : (0 : Int) = x := by split at e1 <;> simp_all
    rw [List.getElem?_map] at e3
    obtain ⟨h, hh, rfl⟩ := Option.map_eq_some_iff.1 e3
    have : ¬ y < h.m := fun hlt => hc ⟨i, (can_bid I.len).2 ⟨h, y, hh, e2, hlt⟩⟩
    omega
  rw [isum_zero] at this
  omega
theorem run_bid (hok : ∀ h ∈ hs, h.Ok) {K : Nat} (hK : isum (hs.map Hs.l) + (K : Int) ≤ isum (hs.map Hs.m)) : ∀ {k : Nat}, k ≤ K → ∃ q, runW (befB (hs.map Hs.v)) hs (pad6 (hs.map Hs.l)) k = pad6 q ∧ BidI hs q k ∧
      (k < K → (∃ j, canB hs (pad6 q) j = true) ∧ nxt (befB (hs.map Hs.v)) hs (pad6 q) < hs.length) := by
  have hv : ∀ v ∈ hs.map Hs.v, 0 ≤ v := fun v hx => by
    obtain ⟨y, hy, rfl⟩ := List.mem_map.1 hx
    exact (hok y hy).v.1
  have at_ : ∀ {q : List Int} {i : Nat} {y : Int}, q[i]? = some y → (pad6 q).getD i 0 = y := fun {q i y} h => by
    rw [List.getD_eq_getElem?_getD, pad6_at (List.getElem?_eq_some_iff.1 h).1, h]; rfl
  have fin : ∀ {k : Nat} {q : List Int}, BidI hs q k → k < K → (∃ j, canB hs (pad6 q) j = true) ∧ (canB hs (pad6 q) (nxt (befB (hs.map Hs.v)) hs (pad6 q)) = true ∧ ∀ j, canB hs (pad6 q) j = true → j ≠ nxt (befB (hs.map Hs.v)) hs (pad6 q) → relB (befB (hs.map Hs.v)) (pad6 q) (nxt (befB (hs.map Hs.v)) hs (pad6 q)) j = true) := fun {k q} I hk => by
    have hex := I.free (by rw [I.sum]; omega)
    have pos : ∀ i, canB hs (pad6 q) i = true → 1 ≤ (pad6 q).getD i 0 + 1 := fun i hi => by
      obtain ⟨h, y, h1, h2, h3⟩ := (can_bid I.len).1 hi
      have b1 := I.bd i h y h1 h2
      have b2 := (hok h (List.mem_of_getElem? h1)).l
      rw [at_ h2]; omega
    exact ⟨hex, nxt_ok (fun i j k hi hj hk h1 h2 => befB_tr (pos i hi) (pos j hj) (pos k hk) h1 h2) (fun i j hi hj hne => befB_tot hne) hex⟩
  have post : ∀ {k : Nat} {q : List Int}, BidI hs q k → k < K → (∃ j, canB hs (pad6 q) j = true) ∧ nxt (befB (hs.map Hs.v)) hs (pad6 q) < hs.length := fun {k q} I hk => by
    obtain ⟨h1, h2, h3⟩ := fin I hk
    exact ⟨h1, canB_lt h2⟩
  intro k
  induction k with
  | zero => exact fun _ => ⟨_, rfl, BidI.begin_ hok, fun hk => post (BidI.begin_ hok) hk⟩
  | succ k ih =>
    intro hk
    obtain ⟨q, e, I, -⟩ := ih (by omega)
    obtain ⟨-, h2, h3⟩ := fin I (by omega)
    obtain ⟨nn, hnn⟩ : ∃ nn, nxt (befB (hs.map Hs.v)) hs (pad6 q) = nn := ⟨_, rfl⟩
    rw [hnn] at h2 h3
    obtain ⟨h, y, z1, z2, z3⟩ := (can_bid I.len).1 h2
    have hnl := (List.getElem?_eq_some_iff.1 z2).1
    have hI := I.next hv z1 z2 z3 fun j h' y' hne e1 e2 e3 => by
      have := h3 j ((can_bid I.len).2 ⟨h', y', e1, e2, e3⟩) hne
      unfold relB at this
      rw [at_ z2, at_ e2] at this
      exact this
    have hI' : BidI hs (q.set nn (y + 1)) ((k + 1 : Nat) : Int) := by
      rw [show ((k + 1 : Nat) : Int) = (k : Int) + 1 by omega]
      exact hI
    refine ⟨q.set nn (y + 1), ?_, hI', fun hk' => post hI' hk'⟩
    show stepW _ _ (runW _ _ _ k) = _
    rw [e]
    unfold stepW
    rw [hnn, pad6_set hnl, at_ z2]
theorem bid_run (hok : ∀ h ∈ hs, h.Ok) {K : Nat} (hK : isum (hs.map Hs.l) + (K : Int) ≤ isum (hs.map Hs.m)) : Run (befB (hs.map Hs.v)) hs (pad6 (hs.map Hs.l)) K where
  bd k hk x hx := by
    obtain ⟨q, e, I, -⟩ := run_bid hok hK hk
    rw [e] at hx
    have hql := I.len
    refine pad6_bd (m := 1000) (by omega) (fun y hy => ?_) x hx
    obtain ⟨i, hi⟩ := List.getElem?_of_mem hy
    have hil := (List.getElem?_eq_some_iff.1 hi).1
    obtain ⟨h, hh⟩ : ∃ h, hs[i]? = some h := ⟨_, List.getElem?_eq_getElem (by omega)⟩
    have b1 := I.bd i h y hh hi
    have b2 := (hok h (List.mem_of_getElem? hh)).l
    have b3 := (hok h (List.mem_of_getElem? hh)).m
    omega
  can k hk := by
    obtain ⟨q, e, I, h⟩ := run_bid hok hK (Nat.le_of_lt hk)
    rw [e]; exact (h hk).1
  nx k hk := by
    obtain ⟨q, e, I, h⟩ := run_bid hok hK (Nat.le_of_lt hk)
    rw [e]; exact (h hk).2
end
end Go.Am
/- Shares by bids. -/
namespace Go.Am
open Go.Proofs
variable {T : Tab} {P : Program} {N L : Nat} {H H' H'' : AHeap} {Q : Bool → Value → AHeap → Prop}
section
variable {p : Int} {ad : Addr} {c : Nat} {hs : List Hs}
theorem c42n (h : Bil H (some ad) hs p) (hw : wi p (isum (hs.map Hs.l)) (isum (hs.map Hs.m)) = false) : acall tabA (aexec tabA Try.prog (N + 1000)) 42 [.agg ⟨[.int .i64 p, .slice (some ad) hs.length c]⟩] H = some (true, .tuple ⟨[.slice none 0 0, .int .i64 1]⟩, H, H.size) := by
  refine call_quiet (k := 16) (rs := [.tmp 2, .tmp 3]) rfl fn_42 rfl rfl rfl ?_ rfl
  have hl := h.ok.len
  have h39 := fun (N : Nat) => c39 (N := N) (H := H.alloc (.rw [.int .i64 p, .slice (some ad) hs.length c] 39 false [])) (p := p) (cap := c) (h.rw.fr (by (repeat (first | exact Fr.refl _ | assumption | refine Fr.allocd ?_ _ | refine Fr.kill ?_ (by first | assumption | omega) | refine Fr.put ?_ (by first | omega | (simp only [yz] <;> omega)) _)))) (by omega)
  rw [h.ok.chk] at h39
  have h80 := fun (N : Nat) => c80 (N := N) (H := H.alloc (.rw [.int .i64 p, .slice (some ad) hs.length c] 39 false [])) (c := c) (h.fr (by (repeat (first | exact Fr.refl _ | assumption | refine Fr.allocd ?_ _ | refine Fr.kill ?_ (by first | assumption | omega) | refine Fr.put ?_ (by first | omega | (simp only [yz] <;> omega)) _))))
  rw [hw] at h80
  have b0 : decide ((0 : Int) = 0) = true := by simp
  simp (disch := (first | (simp only [ne_eq,Nat.reduceEqDiff,not_false_eq_true,Nat.reduceLT]; done) | omega | (simp only [yz] <;> omega) | fail)) only [↓yp,yq0,yq1,yq2,yq3,yq4,yl,ys0,ys1,Nat.reduceAdd,Nat.reduceMul,Nat.reduceSub,Nat.reduceBEq,Nat.reduceEqDiff,Nat.reduceLT,Nat.reduceLeDiff,reduceIte,Int.reduceAdd,Int.reduceSub,Int.reduceMul,Int.reduceLT,Int.reduceLE,Int.reduceEq,Int.reduceToNat,Int.reduceNeg,fitB,newC,endD,endR,yrg,h39,h80,b0]
set_option maxHeartbeats 2000000 in
/-- Bids. -/
theorem c42 (h : Bil H (some ad) hs p) (hw : isum (hs.map Hs.l) ≤ p ∧ p ≤ isum (hs.map Hs.m)) (hL : L ≤ H.size) {M : Nat} (hM : 6000 ≤ M)
    (hq : ∀ b q H', Fr H H' → H.size ≤ b → Rw intE H' (some ⟨b, 0, none⟩) q → BidI hs q (p - isum (hs.map Hs.l)) → Q false (.tuple ⟨[.slice (some ⟨b, 0, none⟩) hs.length (OPEN + 1), .int .i64 0]⟩) H') :
    resK (acall tabA (aexec tabA Try.prog M) 42 [.agg ⟨[.int .i64 p, .slice (some ad) hs.length c]⟩] H) L Q := by
  obtain ⟨N, rfl⟩ : ∃ N, M = N + 6000 := ⟨M - 6000, by omega⟩
  refine call_fls (R := fun v H' => ∃ b q, v = .tuple ⟨[.slice (some ⟨b, 0, none⟩) hs.length (OPEN + 1), .int .i64 0]⟩ ∧ Fr H H' ∧ H.size ≤ b ∧ Rw intE H' (some ⟨b, 0, none⟩) q ∧ BidI hs q (p - isum (hs.map Hs.l))) (k := 16) (rs := [.tmp 2, .tmp 3]) rfl fn_42 rfl rfl rfl hL ?_ ?_ ?_
  rotate_left
  · rintro v H' ⟨b, q, rfl, -⟩; rfl
  · rintro v H' ⟨b, q, rfl, h1, h2, h3, h4⟩
    exact hq _ _ _ h1 h2 h3 h4
  have hl := h.ok.len
  have hp := h.ok.p
  have h39 := fun (N : Nat) => c39 (N := N) (H := H.alloc (.rw [.int .i64 p, .slice (some ad) hs.length c] 39 false [])) (p := p) (cap := c) (h.rw.fr (by (repeat (first | exact Fr.refl _ | assumption | refine Fr.allocd ?_ _ | refine Fr.kill ?_ (by first | assumption | omega) | refine Fr.put ?_ (by first | omega | (simp only [yz] <;> omega)) _)))) (by omega)
  rw [h.ok.chk] at h39
  have h80 := fun (N : Nat) => c80 (N := N) (H := H.alloc (.rw [.int .i64 p, .slice (some ad) hs.length c] 39 false [])) (c := c) (h.fr (by (repeat (first | exact Fr.refl _ | assumption | refine Fr.allocd ?_ _ | refine Fr.kill ?_ (by first | assumption | omega) | refine Fr.put ?_ (by first | omega | (simp only [yz] <;> omega)) _))))
  rw [show wi p (isum (hs.map Hs.l)) (isum (hs.map Hs.m)) = true by unfold wi; simp; omega] at h80
  have b0 : decide ((0 : Int) = 0) = true := by simp
  simp (disch := (first | (simp only [ne_eq,Nat.reduceEqDiff,not_false_eq_true,Nat.reduceLT]; done) | omega | (simp only [yz] <;> omega) | fail)) only [↓yp,yq0,yq1,yq2,yq3,yq4,yl,ys0,ys1,Nat.reduceAdd,Nat.reduceMul,Nat.reduceSub,Nat.reduceBEq,Nat.reduceEqDiff,Nat.reduceLT,Nat.reduceLeDiff,reduceIte,Int.reduceAdd,Int.reduceSub,Int.reduceMul,Int.reduceLT,Int.reduceLE,Int.reduceEq,Int.reduceToNat,Int.reduceNeg,fitB,newC,endD,endR,yrg,h39,h80,b0]
  refine c69 (h.fr (by (repeat (first | exact Fr.refl _ | assumption | refine Fr.allocd ?_ _ | refine Fr.kill ?_ (by first | assumption | omega) | refine Fr.put ?_ (by first | omega | (simp only [yz] <;> omega)) _)))) (by (first | omega | (simp only [yz] <;> omega))) (by omega) ?_
  intro ck H1 fr1 wk fo
  have f1 := fr1.size
  simp only [size_alloc] at f1
  have hl0 : 0 ≤ isum (hs.map Hs.l) := (isum_le (m := 500) fun x hx => by
    obtain ⟨y, hy, rfl⟩ := List.mem_map.1 hx
    have h1 := (h.ok.ok y hy).l
    have h2 := (h.ok.ok y hy).m
    omega).1
  obtain ⟨K, k1⟩ : ∃ K : Nat, p - isum (hs.map Hs.l) = (K : Nat) := ⟨(p - isum (hs.map Hs.l)).toNat, by omega⟩
  have hrun := bid_run h.ok.ok (K := K) (by omega)
  obtain ⟨q, e, I, -⟩ := run_bid h.ok.ok (K := K) (by omega) (Nat.le_refl K)
  simp (disch := (first | (simp only [ne_eq,Nat.reduceEqDiff,not_false_eq_true,Nat.reduceLT]; done) | omega | (simp only [yz] <;> omega) | fail)) only [↓yp,yq0,yq1,yq2,yq3,yq4,yl,ys0,ys1,Nat.reduceAdd,Nat.reduceMul,Nat.reduceSub,Nat.reduceBEq,Nat.reduceEqDiff,Nat.reduceLT,Nat.reduceLeDiff,reduceIte,Int.reduceAdd,Int.reduceSub,Int.reduceMul,Int.reduceLT,Int.reduceLE,Int.reduceEq,Int.reduceToNat,Int.reduceNeg,fitB,newC,endD,endR,yrg]
  have h81 := fun (Q : Bool → Value → AHeap → Prop) (F : Nat) (hF : 4000 ≤ F) => c81 (p := p) (c := c) (K := K) (L := H.size) (Q := Q) (M := F) wk fo hrun (by rw [pad6_sum]; exact k1) (by omega) (by omega) hF
  rw [e] at h81
  refine h81 _ _ (by omega) ?_
  intro b H2 fr2 hb r2
  have f2 := fr2.size
  simp (disch := (first | (simp only [ne_eq,Nat.reduceEqDiff,not_false_eq_true,Nat.reduceLT]; done) | omega | (simp only [yz] <;> omega) | fail)) only [↓yp,yq0,yq1,yq2,yq3,yq4,yl,ys0,ys1,Nat.reduceAdd,Nat.reduceMul,Nat.reduceSub,Nat.reduceBEq,Nat.reduceEqDiff,Nat.reduceLT,Nat.reduceLeDiff,reduceIte,Int.reduceAdd,Int.reduceSub,Int.reduceMul,Int.reduceLT,Int.reduceLE,Int.reduceEq,Int.reduceToNat,Int.reduceNeg,fitB,newC,endD,endR,yrg]
  refine ⟨b, q, rfl, ((Fr.alloc _ _).trans fr1).trans fr2, by omega, ?_, by rw [k1]; exact I⟩
  have hql : q.length = hs.length := I.len
  have : (pad6 q).take hs.length = q := by unfold pad6; rw [← hql, List.take_left]
  rw [this] at r2
  exact r2
end
end Go.Am
/- Shares by bids: what a greater value does, and that there is one way only. -/
namespace Go.Am
open Go.Proofs
theorem bid_core {a a' b b' x x' y y' : Int} {i j : Nat} (ha : 0 ≤ a') (haa : a' ≤ a) (hb : 0 ≤ b) (hbb : b ≤ b') (hx : 0 ≤ x) (hxx : x ≤ x') (hy : 0 ≤ y') (hyy : y' ≤ y)
    (h1 : a * y < b * x ∨ a * y = b * x ∧ j < i) (h2 : b' * x' < a' * y' ∨ b' * x' = a' * y' ∧ i < j) : False := by
  have m1 : b * x ≤ b * x' := Int.mul_le_mul_of_nonneg_left hxx hb
  have m2 : b * x' ≤ b' * x' := Int.mul_le_mul_of_nonneg_right hbb (by omega)
  have m3 : a' * y' ≤ a * y' := Int.mul_le_mul_of_nonneg_right haa hy
  have m4 : a * y' ≤ a * y := Int.mul_le_mul_of_nonneg_left hyy (by omega)
  omega
/-- If one number grew and the sum is the same, then another one is less. -/
theorem isum_less {q q' : List Int} {i : Nat} {y y' : Int} (hl : q'.length = q.length) (hs : isum q' = isum q) (h1 : q[i]? = some y) (h2 : q'[i]? = some y') (h : y < y') : ∃ (j : Nat) (z z' : Int), j ≠ i ∧ q[j]? = some z ∧ q'[j]? = some z' ∧ z' < z := by
  refine Classical.byContradiction fun hc => ?_
  have hi : i < q.length := (List.getElem?_eq_some_iff.1 h1).1
  have e0 : (List.replicate q.length (0 : Int))[i]? = some 0 := by rw [List.getElem?_replicate, if_pos hi]
  have := isum_lin (r := (List.replicate q.length (0 : Int)).set i 1) (p := q') (f := q) (c := 1) (by rw [List.length_set, List.length_replicate]) hl fun k x z' z e1 e2 e3 => by
    rw [List.getElem?_set] at e1
    split at e1
    · rename_i e
      subst e
      rw [h1] at e3; cases e3
      rw [h2] at e2; cases e2
      have : (1 : Int) = x := by split at e1 <;> simp_all
      omega
    · rename_i e
      rw [List.getElem?_replicate] at e1
      have : (0 : Int) = x := by split at e1 <;> simp_all
      have : ¬ z' < z := fun hlt => hc ⟨k, z, z', fun h => e h.symm, e3, e2, hlt⟩
      omega
  rw [isum_set 1 e0, isum_zero, hs] at this
  omega
section
variable {hs hs' : List Hs} {q q' : List Int} {k k' : Int}
/-- With a greater value of one house, no other one pays more. -/
theorem bid_mono (ok : ∀ h ∈ hs, h.Ok) (ok' : ∀ h ∈ hs', h.Ok) (I : BidI hs q k) (I' : BidI hs' q' k') (hl : hs'.length = hs.length) (h : Nat)
    (hlm : ∀ (i : Nat) (a a' : Hs), hs[i]? = some a → hs'[i]? = some a' → a'.l = a.l ∧ a'.m = a.m ∧ a.v ≤ a'.v ∧ (i ≠ h → a'.v = a.v)) (hsum : isum q' = isum q) {i : Nat} {y y' : Int} (hi : i ≠ h) (h1 : q[i]? = some y) (h2 : q'[i]? = some y') : y' ≤ y := by
  refine Classical.byContradiction fun hc => ?_
  obtain ⟨j, z, z', hji, h3, h4, hz⟩ := isum_less (by rw [I.len, I'.len, hl]) hsum h1 h2 (by omega)
  have gi : ∀ {i : Nat} {y : Int}, q[i]? = some y → ∃ a a', hs[i]? = some a ∧ hs'[i]? = some a' := fun {i y} h => by
    have := (List.getElem?_eq_some_iff.1 h).1
    rw [I.len] at this
    exact ⟨_, _, List.getElem?_eq_getElem this, List.getElem?_eq_getElem (by omega)⟩
  obtain ⟨a, a', ea, ea'⟩ := gi h1
  obtain ⟨b, b', eb, eb'⟩ := gi h3
  obtain ⟨l1, l2, l3, l4⟩ := hlm i a a' ea ea'
  obtain ⟨r1, r2, r3, r4⟩ := hlm j b b' eb eb'
  have d1 := I.bd i a y ea h1
  have d2 := I'.bd i a' y' ea' h2
  have d3 := I.bd j b z eb h3
  have d4 := I'.bd j b' z' eb' h4
  have oa := ok a (List.mem_of_getElem? ea)
  have ob := ok b (List.mem_of_getElem? eb)
  have a0 := oa.v
  have b0 := ob.v
  have al := oa.l
  have bl := ob.l
  have s1 := befB_iff.1 (I.st i j a b y z (fun e => hji e.symm) ea h1 eb h3 (by omega) (by omega))
  have s2 := befB_iff.1 (I'.st j i b' a' z' y' hji eb' h4 ea' h2 (by omega) (by omega))
  have gv : ∀ {hs : List Hs} {i : Nat} {a : Hs}, hs[i]? = some a → (hs.map Hs.v).getD i 0 = a.v := fun {hs i a} h => by
    rw [List.getD_eq_getElem?_getD, List.getElem?_map, h]; rfl
  rw [gv ea, gv eb] at s1
  rw [gv ea', gv eb'] at s2
  have := l4 hi
  exact bid_core (by omega) (by omega) b0.1 r3 (by omega) (by omega : y + 1 ≤ y') (by omega) (by omega : z' + 1 ≤ z) s1 s2
theorem bid_unique (ok : ∀ h ∈ hs, h.Ok) (I : BidI hs q k) (I' : BidI hs q' k) : q' = q := by
  have hsum : isum q' = isum q := by rw [I.sum, I'.sum]
  refine List.ext_getElem? fun i => ?_
  by_cases hi : i < hs.length
  · have e1 : q[i]? = some _ := List.getElem?_eq_getElem (by rw [I.len]; exact hi)
    have e2 : q'[i]? = some _ := List.getElem?_eq_getElem (by rw [I'.len]; exact hi)
    have h1 := bid_mono ok ok I I' rfl hs.length (fun i a a' h1 h2 => by rw [h1] at h2; cases h2; exact ⟨rfl, rfl, Int.le_refl _, fun _ => rfl⟩) hsum (by omega) e1 e2
    have h2 := bid_mono ok ok I' I rfl hs.length (fun i a a' h1 h2 => by rw [h1] at h2; cases h2; exact ⟨rfl, rfl, Int.le_refl _, fun _ => rfl⟩) hsum.symm (by omega) e2 e1
    rw [e1, e2, Int.le_antisymm h1 h2]
  · rw [List.getElem?_eq_none (by rw [I'.len]; omega), List.getElem?_eq_none (by rw [I.len]; omega)]
/-- Bounds that nothing reaches may be wider. -/
theorem bid_free (I : BidI hs q k) (hl : hs'.length = hs.length)
    (hlm : ∀ (i : Nat) (a a' : Hs) (y : Int), hs[i]? = some a → hs'[i]? = some a' → q[i]? = some y → a'.v = a.v ∧ (a'.l = a.l ∨ a'.l ≤ a.l ∧ a.l < y) ∧ (a'.m = a.m ∨ a.m ≤ a'.m ∧ y < a.m)) : BidI hs' q (isum q - isum (hs'.map Hs.l)) where
  len := by rw [I.len, hl]
  bd i a' y h1 h2 := by
    obtain ⟨a, ea⟩ : ∃ a, hs[i]? = some a := ⟨_, List.getElem?_eq_getElem (by have := (List.getElem?_eq_some_iff.1 h1).1; omega)⟩
    have := hlm i a a' y ea h1 h2
    have := I.bd i a y ea h2
    omega
  st i j a' b' y y' hne h1 h2 h3 h4 h5 h6 := by
    obtain ⟨a, ea⟩ : ∃ a, hs[i]? = some a := ⟨_, List.getElem?_eq_getElem (by have := (List.getElem?_eq_some_iff.1 h1).1; omega)⟩
    obtain ⟨b, eb⟩ : ∃ b, hs[j]? = some b := ⟨_, List.getElem?_eq_getElem (by have := (List.getElem?_eq_some_iff.1 h3).1; omega)⟩
    have t1 := hlm i a a' y ea h1 h2
    have t2 := hlm j b b' y' eb h3 h4
    have hv : hs'.map Hs.v = hs.map Hs.v := by
      refine List.ext_getElem? fun n => ?_
      rw [List.getElem?_map, List.getElem?_map]
      by_cases hn : n < hs.length
      · have e1 : hs[n]? = some _ := List.getElem?_eq_getElem hn
        have e2 : hs'[n]? = some _ := List.getElem?_eq_getElem (by rw [hl]; exact hn)
        have e3 : q[n]? = some _ := List.getElem?_eq_getElem (by rw [I.len]; exact hn)
        have := (hlm n _ _ _ e1 e2 e3).1
        rw [e1, e2]
        show some _ = some _
        rw [this]
      · rw [List.getElem?_eq_none (by omega), List.getElem?_eq_none (by omega)]
    rw [hv]
    exact I.st i j a b y y' hne ea h2 eb h4 (by omega) (by omega)
  sum := by omega
end
end Go.Am
