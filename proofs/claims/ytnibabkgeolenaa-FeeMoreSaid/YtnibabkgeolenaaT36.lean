/- The house that pays the next penny. -/
import Derived.Test.YtnibabkgeolenaaT35
set_option linter.unusedSimpArgs false
set_option linter.unusedVariables false
namespace Go.Am
open Go.Proofs
variable {T : Tab} {P : Program} {N L : Nat} {H H' H'' : AHeap} {Q : Bool → Value → AHeap → Prop}
/-- Whether a house can pay more. -/
def canB (hs : List Hs) (ps : List Int) (i : Nat) : Bool := match hs[i]?, ps[i]? with
  | some s, some x => decide (x < s.m)
  | _, _ => false
def cand (hs : List Hs) (ps : List Int) : List Nat := (List.range hs.length).filter (canB hs ps)
def nxF (R : Nat → Nat → Bool) : Nat → List Nat → Nat
  | n, [] => n
  | n, h :: l => nxF R (bif R h n then h else n) l
/-- Which of two houses comes first, for one penny more. -/
def relB (bef : Nat → Int → Nat → Int → Bool) (ps : List Int) (i k : Nat) : Bool := bef i (ps.getD i 0 + 1) k (ps.getD k 0 + 1)
def nxt (bef : Nat → Int → Nat → Int → Bool) (hs : List Hs) (ps : List Int) : Nat := match cand hs ps with
  | [] => 0
  | n :: l => nxF (relB bef ps) n l
theorem nxF_ok {R : Nat → Nat → Bool} {C : Nat → Prop} (tr : ∀ i j k, C i → C j → C k → R i j = true → R j k = true → R i k = true) (tot : ∀ i j, C i → C j → i ≠ j → R i j = true ∨ R j i = true) :
    ∀ {l : List Nat} {n : Nat} {S : List Nat}, C n → (∀ j ∈ S, C j) → (∀ j ∈ l, C j) → (∀ j ∈ S, j ≠ n → R n j = true) → C (nxF R n l) ∧ ∀ j, (j ∈ S ∨ j = n ∨ j ∈ l) → j ≠ nxF R n l → R (nxF R n l) j = true
  | [], n, S, hn, hS, _, h => ⟨hn, fun j hj hne => by
    rcases hj with hj | rfl | hj
    · exact h j hj hne
    · exact absurd rfl hne
    · simp at hj⟩
  | x :: l, n, S, hn, hS, hl, h => by
    have hx : C x := hl x (by simp)
    show C (nxF R (bif R x n then x else n) l) ∧ _
    cases hB : R x n
    · have := nxF_ok tr tot (l := l) (n := n) (S := x :: S) hn (fun j hj => by
        rcases List.mem_cons.1 hj with rfl | hj
        · exact hx
        · exact hS j hj) (fun j hj => hl j (by simp [hj])) fun j hj hne => by
        rcases List.mem_cons.1 hj with rfl | hj
        · rcases tot n j hn hx (Ne.symm hne) with h1 | h1
          · exact h1
          · rw [hB] at h1; cases h1
        · exact h j hj hne
      refine ⟨by rw [cond_false]; exact this.1, fun j hj hne => ?_⟩
      have e : nxF R n (x :: l) = nxF R n l := by show nxF R (bif R x n then x else n) l = _; rw [hB]; rfl
      rw [e] at hne ⊢
      refine this.2 j ?_ hne
      rcases hj with hj | rfl | hj
      · exact .inl (by simp [hj])
      · exact .inr (.inl rfl)
      · rcases List.mem_cons.1 hj with rfl | hj
        · exact .inl (by simp)
        · exact .inr (.inr hj)
    · have := nxF_ok tr tot (l := l) (n := x) (S := n :: S) hx (fun j hj => by
        rcases List.mem_cons.1 hj with rfl | hj
        · exact hn
        · exact hS j hj) (fun j hj => hl j (by simp [hj])) fun j hj hne => by
        rcases List.mem_cons.1 hj with rfl | hj
        · exact hB
        · by_cases e : j = n
          · subst e; exact hB
          · exact tr x n j hx hn (hS j hj) hB (h j hj e)
      refine ⟨by rw [cond_true]; exact this.1, fun j hj hne => ?_⟩
      have e : nxF R n (x :: l) = nxF R x l := by show nxF R (bif R x n then x else n) l = _; rw [hB]; rfl
      rw [e] at hne ⊢
      refine this.2 j ?_ hne
      rcases hj with hj | rfl | hj
      · exact .inl (by simp [hj])
      · exact .inl (by simp)
      · rcases List.mem_cons.1 hj with rfl | hj
        · exact .inr (.inl rfl)
        · exact .inr (.inr hj)
theorem canB_lt {hs : List Hs} {ps : List Int} {i : Nat} (h : canB hs ps i = true) : i < hs.length := by
  unfold canB at h
  cases hi : hs[i]? with
  | none => rw [hi] at h; cases h
  | some s => exact (List.getElem?_eq_some_iff.1 hi).1
theorem cand_mem {hs : List Hs} {ps : List Int} {i : Nat} : i ∈ cand hs ps ↔ canB hs ps i = true := by
  unfold cand
  rw [List.mem_filter, List.mem_range]
  exact ⟨fun h => h.2, fun h => ⟨canB_lt h, h⟩⟩
theorem nxt_ok {bef : Nat → Int → Nat → Int → Bool} {hs : List Hs} {ps : List Int} (tr : ∀ i j k, canB hs ps i = true → canB hs ps j = true → canB hs ps k = true → relB bef ps i j = true → relB bef ps j k = true → relB bef ps i k = true)
    (tot : ∀ i j, canB hs ps i = true → canB hs ps j = true → i ≠ j → relB bef ps i j = true ∨ relB bef ps j i = true) (hc : ∃ j, canB hs ps j = true) :
    canB hs ps (nxt bef hs ps) = true ∧ ∀ j, canB hs ps j = true → j ≠ nxt bef hs ps → relB bef ps (nxt bef hs ps) j = true := by
  obtain ⟨j0, hj0⟩ := hc
  have hm := cand_mem.2 hj0
  unfold nxt
  cases hcd : cand hs ps with
  | nil => rw [hcd] at hm; simp at hm
  | cons n l =>
    have hn : canB hs ps n = true := cand_mem.1 (by rw [hcd]; simp)
    have := nxF_ok (C := fun i => canB hs ps i = true) tr tot (l := l) (n := n) (S := []) hn (by simp) (fun j hj => cand_mem.1 (by rw [hcd]; simp [hj])) (by simp)
    refine ⟨this.1, fun j hj hne => this.2 j ?_ hne⟩
    have := cand_mem.2 hj
    rw [hcd] at this
    rcases List.mem_cons.1 this with rfl | h
    · exact .inr (.inl rfl)
    · exact .inr (.inr h)
theorem cand_filter {hs : List Hs} {ps : List Int} : (rgL hs.length).filter (fun x => canB hs ps x.toNat) = (cand hs ps).map fun i => ((i : Nat) : Int) := by
  unfold rgL cand
  rw [List.filter_map]
  congr 1
theorem tm_makeFunc {f : FuncId} {a b : List Operand} : tmpsOf (Op.operands (.makeFunc (.func f) a.toArray b.toArray)).toList = tmpsOf (a ++ b) := by simp [Op.operands]
section
variable {p : Int} {a : Option Addr} {c g : Nat} {hs : List Hs} {ps : List Int} {cp : List Value} {bef : Nat → Int → Nat → Int → Bool}
theorem ps_at (h : Wk H a hs ps) {i : Nat} (hi : i < 6) : ps[i]? = some (ps.getD i 0) := by
  have := h.six
  rw [List.getD_eq_getElem?_getD, List.getElem?_eq_getElem (by omega)]; rfl
set_option maxHeartbeats 4000000 in
/-- The best of the houses that can pay. -/
theorem c130b {e : VT} {b2 n0 : Nat} {l : List Nat} {v18 : Value} (h : Wk H a hs ps) (hf : FO H g hs.length cp bef) (fr : Fr H H') (hL : L ≤ H'.size) (hbx : H'.get H.size = .rw (wkC p a hs.length c ps g cp) 119 false []) (hz : H.size < H'.size) (hl5 : l.length ≤ 5) (hv : l ≠ [] → v18 = .slice (some ⟨b2, 1, none⟩) l.length (OPEN + 1))
    (hb2 : ∃ c2, cellsOf (H'.get b2) = some c2 ∧ ∀ i x, l[i]? = some x → c2[1 + i]? = some (.int .i64 (x : Nat))) (hm : ∀ j, (j = n0 ∨ j ∈ l) → j < hs.length)
    (g1 : gt 36 e 1 = .pointer (some ⟨H.size, 0, none⟩)) (g4 : gt 36 e 4 = .int .i64 (n0 : Nat)) (g18 : gt 36 e 18 = v18) (g19 : gt 36 e 19 = .int .i64 (l.length : Nat)) (g20 : gt 36 e 20 = .int .i64 0) :
    W tabA Try.prog (N + 900) none (sub [true, true, true, false, true] (bodyOf Try.f130)) L ⟨36, e, H', []⟩ (endK 36 [] fun e' H'' => gt 36 e' 4 = .int .i64 (nxF (relB bef ps) n0 l : Nat) ∧ L ≤ H''.size) := by
  have hll := h.len
  have h6 := h.six
  obtain ⟨c2, hc2, hat⟩ := hb2
  have sm5 : sameL (sameV 5) (wkC p a hs.length c ps g cp) (wkC p a hs.length c ps g cp) = true := wk_same (k := 3) hf.ptr
  have cm5 : sameL (sameV 5) cp cp = true := by
    obtain ⟨ck, rfl⟩ := hf.ptr
    rw [sl_cons, sv_pointer]; rfl
  simp only [Try.f130,bodyOf,sub_nil,sub_seq0,sub_seq1,sub_block,sub_loop,sub_cond0,sub_cond1]
  simp (disch := (first | (simp only [ne_eq,Nat.reduceEqDiff,not_false_eq_true,Nat.reduceLT]; done) | omega | (simp only [yz] <;> omega) | fail)) only [↓yp,yq0,yq1,yq2,yq3,yq4,yl,ys0,ys1,Nat.reduceAdd,Nat.reduceMul,Nat.reduceSub,Nat.reduceBEq,Nat.reduceEqDiff,Nat.reduceLT,Nat.reduceLeDiff,reduceIte,Int.reduceAdd,Int.reduceSub,Int.reduceMul,Int.reduceLT,Int.reduceLE,Int.reduceEq,Int.reduceToNat,Int.reduceNeg,fitB,newC,endD,endR,yrg]
  refine W_while (n := 36) 500 (fun k e H'' => ∃ (i n : Nat), k = l.length - i ∧ i ≤ l.length ∧ nxF (relB bef ps) n (l.drop i) = nxF (relB bef ps) n0 l ∧ n < hs.length ∧ gt 36 e 20 = .int .i64 (i : Nat) ∧ gt 36 e 19 = .int .i64 (l.length : Nat) ∧ gt 36 e 18 = v18 ∧ gt 36 e 4 = .int .i64 (n : Nat) ∧ gt 36 e 1 = .pointer (some ⟨H.size, 0, none⟩) ∧ Fr H' H'')
    ?_ 5 l.length ⟨0, n0, by omega, by omega, rfl, hm n0 (.inl rfl), by simp (disch := (first | (simp only [ne_eq,Nat.reduceEqDiff,not_false_eq_true,Nat.reduceLT]; done) | omega | (simp only [yz] <;> omega) | fail)) only [g20]; rfl, g19, g18, g4, g1, Fr.refl _⟩ (by omega) (by omega)
  clear g1 g4 g18 g19 g20
  rintro M k e H1 ⟨i, n, rfl, hi, hnx, hn, g20, g19, g18, g4, g1, fr1⟩
  have f1 := fr1.size
  simp (disch := (first | (simp only [ne_eq,Nat.reduceEqDiff,not_false_eq_true,Nat.reduceLT]; done) | omega | (simp only [yz] <;> omega) | fail)) only [↓yp,yq0,yq1,yq2,yq3,yq4,yl,ys0,ys1,Nat.reduceAdd,Nat.reduceMul,Nat.reduceSub,Nat.reduceBEq,Nat.reduceEqDiff,Nat.reduceLT,Nat.reduceLeDiff,reduceIte,Int.reduceAdd,Int.reduceSub,Int.reduceMul,Int.reduceLT,Int.reduceLE,Int.reduceEq,Int.reduceToNat,Int.reduceNeg,fitB,newC,endD,endR,yrg,g20,g19]
  refine ⟨fun hA => ?_, fun hA => ?_⟩
  · have hlt : i < l.length := by have := of_decide_eq_true hA; omega
    have hv' := hv (fun h0 => by rw [h0] at hlt; simp at hlt)
    subst hv'
    obtain ⟨x, hx⟩ : ∃ x, l[i]? = some x := ⟨l[i], by simp [hlt]⟩
    have hxl := hm x (.inr (List.mem_of_getElem? hx))
    have q := hat i x hx
    have hb2l : b2 < H'.size := lt_of_cells hc2
    have hc21 : cellsOf (H1.get b2) = some c2 := by rw [fr1.same _ hb2l]; exact hc2
    have hbx1 : H1.get H.size = .rw (wkC p a hs.length c ps g cp) 119 false [] := by rw [fr1.same _ hz]; exact hbx
    have hpx := ps_at h (i := x) (by omega)
    have hpn := ps_at h (i := n) (by omega)
    have bx := h.bd _ (List.mem_of_getElem? hpx)
    have bn := h.bd _ (List.mem_of_getElem? hpn)
    have h128 := fun (N : Nat) => c128 (N := N) (H := H1) (p := p) (c := c) (g := g) (cp := cp) (h.fr (fr.trans fr1)) (i := x) (by omega) hpx
    have h128' := fun (N : Nat) => c128 (N := N) (H := H1) (p := p) (c := c) (g := g) (cp := cp) (h.fr (fr.trans fr1)) (i := n) (by omega) hpn
    have hfr := fun (N : Nat) => hf.run N H1 (fr.trans fr1) x n (ps.getD x 0 + 1) (ps.getD n 0 + 1) hxl hn (by omega) (by omega)
    have hdr : l.drop i = x :: l.drop (i + 1) := by
      rw [List.drop_eq_getElem_cons hlt]
      have := (List.getElem?_eq_some_iff.1 hx).2
      rw [this]
    rw [hdr, nxF] at hnx
    have hw2 : w64 ((i : Int) + 1) = ((i + 1 : Nat) : Int) := by rw [w64_of (by omega)]; omega
    simp (disch := (first | (simp only [ne_eq,Nat.reduceEqDiff,not_false_eq_true,Nat.reduceLT]; done) | omega | (simp only [yz] <;> omega) | fail)) only [↓yp,yq0,yq1,yq2,yq3,yq4,yl,ys0,ys1,Nat.reduceAdd,Nat.reduceMul,Nat.reduceSub,Nat.reduceBEq,Nat.reduceEqDiff,Nat.reduceLT,Nat.reduceLeDiff,reduceIte,Int.reduceAdd,Int.reduceSub,Int.reduceMul,Int.reduceLT,Int.reduceLE,Int.reduceEq,Int.reduceToNat,Int.reduceNeg,fitB,newC,endD,endR,yrg,g20,g18,A_indexSlice st_esS_40,hc21,q]
    refine W_draw [] rfl (by kernel_rfl) (by kernel_rfl) (by (first | omega | (simp only [yz] <;> omega))) ?_
    cases hB : relB bef ps x n
    · rw [hB, cond_false] at hnx
      unfold relB at hB
      rw [hB] at hfr
      simp (disch := (first | (simp only [ne_eq,Nat.reduceEqDiff,not_false_eq_true,Nat.reduceLT]; done) | omega | (simp only [yz] <;> omega) | fail)) only [↓yp,yq0,yq1,yq2,yq3,yq4,yl,ys0,ys1,Nat.reduceAdd,Nat.reduceMul,Nat.reduceSub,Nat.reduceBEq,Nat.reduceEqDiff,Nat.reduceLT,Nat.reduceLeDiff,reduceIte,Int.reduceAdd,Int.reduceSub,Int.reduceMul,Int.reduceLT,Int.reduceLE,Int.reduceEq,Int.reduceToNat,Int.reduceNeg,fitB,newC,endD,endR,yrg,g20,g18,g4,g1,hbx1,wk_8 h6,wk_all h6,h128,h128',hfr,hw2,sm5,cm5]
      refine ⟨l.length - (i + 1), by omega, i + 1, n, rfl, by omega, hnx, hn, ?_, ?_, ?_, ?_, ?_, fr1⟩
      · simp (disch := (first | (simp only [ne_eq,Nat.reduceEqDiff,not_false_eq_true,Nat.reduceLT]; done) | omega | (simp only [yz] <;> omega) | fail)) only [yg,Nat.reduceAdd,Nat.reduceEqDiff,Nat.reduceLT]
      · simp (disch := (first | (simp only [ne_eq,Nat.reduceEqDiff,not_false_eq_true,Nat.reduceLT]; done) | omega | (simp only [yz] <;> omega) | fail)) only [yg,Nat.reduceAdd,Nat.reduceEqDiff,Nat.reduceLT,g19]
      · simp (disch := (first | (simp only [ne_eq,Nat.reduceEqDiff,not_false_eq_true,Nat.reduceLT]; done) | omega | (simp only [yz] <;> omega) | fail)) only [yg,Nat.reduceAdd,Nat.reduceEqDiff,Nat.reduceLT,g18]
      · simp (disch := (first | (simp only [ne_eq,Nat.reduceEqDiff,not_false_eq_true,Nat.reduceLT]; done) | omega | (simp only [yz] <;> omega) | fail)) only [yg,Nat.reduceAdd,Nat.reduceEqDiff,Nat.reduceLT,g4]
      · simp (disch := (first | (simp only [ne_eq,Nat.reduceEqDiff,not_false_eq_true,Nat.reduceLT]; done) | omega | (simp only [yz] <;> omega) | fail)) only [yg,Nat.reduceAdd,Nat.reduceEqDiff,Nat.reduceLT,g1]
    · rw [hB, cond_true] at hnx
      unfold relB at hB
      rw [hB] at hfr
      simp (disch := (first | (simp only [ne_eq,Nat.reduceEqDiff,not_false_eq_true,Nat.reduceLT]; done) | omega | (simp only [yz] <;> omega) | fail)) only [↓yp,yq0,yq1,yq2,yq3,yq4,yl,ys0,ys1,Nat.reduceAdd,Nat.reduceMul,Nat.reduceSub,Nat.reduceBEq,Nat.reduceEqDiff,Nat.reduceLT,Nat.reduceLeDiff,reduceIte,Int.reduceAdd,Int.reduceSub,Int.reduceMul,Int.reduceLT,Int.reduceLE,Int.reduceEq,Int.reduceToNat,Int.reduceNeg,fitB,newC,endD,endR,yrg,g20,g18,g4,g1,hbx1,wk_8 h6,wk_all h6,h128,h128',hfr,hw2,sm5,cm5]
      refine ⟨l.length - (i + 1), by omega, i + 1, x, rfl, by omega, hnx, hxl, ?_, ?_, ?_, ?_, ?_, fr1⟩
      · simp (disch := (first | (simp only [ne_eq,Nat.reduceEqDiff,not_false_eq_true,Nat.reduceLT]; done) | omega | (simp only [yz] <;> omega) | fail)) only [yg,Nat.reduceAdd,Nat.reduceEqDiff,Nat.reduceLT]
      · simp (disch := (first | (simp only [ne_eq,Nat.reduceEqDiff,not_false_eq_true,Nat.reduceLT]; done) | omega | (simp only [yz] <;> omega) | fail)) only [yg,Nat.reduceAdd,Nat.reduceEqDiff,Nat.reduceLT,g19]
      · simp (disch := (first | (simp only [ne_eq,Nat.reduceEqDiff,not_false_eq_true,Nat.reduceLT]; done) | omega | (simp only [yz] <;> omega) | fail)) only [yg,Nat.reduceAdd,Nat.reduceEqDiff,Nat.reduceLT,g18]
      · simp (disch := (first | (simp only [ne_eq,Nat.reduceEqDiff,not_false_eq_true,Nat.reduceLT]; done) | omega | (simp only [yz] <;> omega) | fail)) only [yg,Nat.reduceAdd,Nat.reduceEqDiff,Nat.reduceLT]
      · simp (disch := (first | (simp only [ne_eq,Nat.reduceEqDiff,not_false_eq_true,Nat.reduceLT]; done) | omega | (simp only [yz] <;> omega) | fail)) only [yg,Nat.reduceAdd,Nat.reduceEqDiff,Nat.reduceLT,g1]
  · have hie : i = l.length := by have := of_decide_eq_false hA; omega
    subst hie
    rw [List.drop_of_length_le (Nat.le_refl _)] at hnx
    simp (disch := (first | (simp only [ne_eq,Nat.reduceEqDiff,not_false_eq_true,Nat.reduceLT]; done) | omega | (simp only [yz] <;> omega) | fail)) only [↓yp,yq0,yq1,yq2,yq3,yq4,yl,ys0,ys1,Nat.reduceAdd,Nat.reduceMul,Nat.reduceSub,Nat.reduceBEq,Nat.reduceEqDiff,Nat.reduceLT,Nat.reduceLeDiff,reduceIte,Int.reduceAdd,Int.reduceSub,Int.reduceMul,Int.reduceLT,Int.reduceLE,Int.reduceEq,Int.reduceToNat,Int.reduceNeg,fitB,newC,endD,endR,yrg]
    have hn' : n = nxF (relB bef ps) n0 l := hnx
    rw [← hn']
    refine ⟨?_, by omega⟩
    simp (disch := (first | (simp only [ne_eq,Nat.reduceEqDiff,not_false_eq_true,Nat.reduceLT]; done) | omega | (simp only [yz] <;> omega) | fail)) only [yg,Nat.reduceAdd,Nat.reduceEqDiff,Nat.reduceLT,g4]
set_option maxHeartbeats 4000000 in
/-- next. -/
theorem c130 (h : Wk H a hs ps) (hf : FO H g hs.length cp bef) (hc : ∃ j, canB hs ps j = true) : acall tabA (aexec tabA Try.prog (N + 1200)) 130 [.agg ⟨wkC p a hs.length c ps g cp⟩] H = some (true, .int .i64 (nxt bef hs ps : Nat), H, H.size) := by
  refine call_quiet (k := 36) (rs := [.tmp 2]) rfl fn_130 rfl rfl rfl ?_ rfl
  obtain ⟨TL, hTL⟩ : ∃ cd, sub [true, true, true, false, true] (bodyOf Try.f130) = cd := ⟨_, rfl⟩
  have hend := fun (N : Nat) (H' : AHeap) (e : VT) (b2 n0 : Nat) (l : List Nat) (v18 : Value) => c130b (N := N) (L := H.size) (H := H) (H' := H') (p := p) (c := c) (e := e) (b2 := b2) (n0 := n0) (l := l) (v18 := v18) h hf
  rw [hTL] at hend
  simp only [Try.f130,bodyOf,sub_nil,sub_seq0,sub_seq1,sub_block,sub_loop,sub_cond0,sub_cond1] at hTL
  rw [hTL]
  clear hTL
  have hl := h.len
  have h6 := h.six
  simp (disch := (first | (simp only [ne_eq,Nat.reduceEqDiff,not_false_eq_true,Nat.reduceLT]; done) | omega | (simp only [yz] <;> omega) | fail)) only [↓yp,yq0,yq1,yq2,yq3,yq4,yl,ys0,ys1,Nat.reduceAdd,Nat.reduceMul,Nat.reduceSub,Nat.reduceBEq,Nat.reduceEqDiff,Nat.reduceLT,Nat.reduceLeDiff,reduceIte,Int.reduceAdd,Int.reduceSub,Int.reduceMul,Int.reduceLT,Int.reduceLE,Int.reduceEq,Int.reduceToNat,Int.reduceNeg,fitB,newC,endD,endR,yrg]
  refine W_draw [3, 6] rfl (by kernel_rfl) (by kernel_rfl) (by (first | omega | (simp only [yz] <;> omega))) ?_
  simp (disch := (first | (simp only [ne_eq,Nat.reduceEqDiff,not_false_eq_true,Nat.reduceLT]; done) | omega | (simp only [yz] <;> omega) | fail)) only [↓yp,yq0,yq1,yq2,yq3,yq4,yl,ys0,ys1,Nat.reduceAdd,Nat.reduceMul,Nat.reduceSub,Nat.reduceBEq,Nat.reduceEqDiff,Nat.reduceLT,Nat.reduceLeDiff,reduceIte,Int.reduceAdd,Int.reduceSub,Int.reduceMul,Int.reduceLT,Int.reduceLE,Int.reduceEq,Int.reduceToNat,Int.reduceNeg,fitB,newC,endD,endR,yrg,wk_1,wk_all h6]
  refine c135 hl.1 hl.2 (by (first | omega | (simp only [yz] <;> omega))) (by omega) ?_
  intro b1 c1 H1 fr1 hb1 r1
  have f1 := fr1.size
  have s1 := fr1.same
  simp only [size_alloc] at f1 s1 hb1
  simp (disch := (first | (simp only [ne_eq,Nat.reduceEqDiff,not_false_eq_true,Nat.reduceLT]; done) | omega | (simp only [yz] <;> omega) | fail)) only [↓yp,yq0,yq1,yq2,yq3,yq4,yl,ys0,ys1,Nat.reduceAdd,Nat.reduceMul,Nat.reduceSub,Nat.reduceBEq,Nat.reduceEqDiff,Nat.reduceLT,Nat.reduceLeDiff,reduceIte,Int.reduceAdd,Int.reduceSub,Int.reduceMul,Int.reduceLT,Int.reduceLE,Int.reduceEq,Int.reduceToNat,Int.reduceNeg,fitB,newC,endD,endR,yrg,s1,wk_1,wk_all h6,tm_makeFunc]
  obtain ⟨j0, hj0⟩ := hc
  have hm := cand_mem.2 hj0
  have hcl : (cand hs ps).length ≤ 6 := by
    have := List.length_filter_le (canB hs ps) (List.range hs.length)
    rw [List.length_range] at this
    unfold cand; omega
  have hne : cand hs ps ≠ [] := fun h0 => by rw [h0] at hm; simp at hm
  have hcf := cand_filter (hs := hs) (ps := ps)
  have hr1 : (rgL hs.length).length = hs.length := rgL_len
  have key : ∀ N H', Fr H1 H' → ∀ x ∈ rgL hs.length, acall tabA (aexec tabA Try.prog (N + 60)) 127 ([.agg ⟨wkC p a hs.length c ps g cp⟩] ++ [.int .i64 x]) H' = some (true, .bool (canB hs ps x.toNat), H', H'.size) := fun N H' f' x hx => by
    obtain ⟨i, hi⟩ := List.getElem?_of_mem hx
    obtain ⟨hi', rfl⟩ := rgL_get hi
    obtain ⟨s, hs'⟩ : ∃ s, hs[i]? = some s := ⟨hs[i], by simp [hi']⟩
    have hx' := ps_at h (i := i) (by omega)
    have := c127 (N := N + 20) (p := p) (c := c) (g := g) (cp := cp) (h.fr (fr1.trans f' |> fun q => (show Fr H H' from (Fr.alloc _ _).trans q))) (by omega) hx' hs'
    rw [Int.toNat_natCast]
    unfold canB
    rw [hs', hx']
    exact this
  have h134 := fun (Q : Bool → Value → AHeap → Prop) (F : Nat) (hF : 300 ≤ F) => c134 (cap := c1) (L := H.size) (Q := Q) (M := F) r1 (by omega) (by rw [hcf]; simpa using hne) key (by omega) hF
  rw [hr1] at h134
  refine h134 _ _ (by omega) ?_
  clear h134 key
  intro b2 al H2 fr2 hb2 hb2' hg2
  rw [hcf] at hg2
  rw [hcf, List.length_map]
  have f2 := fr2.size
  have s2 := fr2.same
  obtain ⟨n0, l, hcd⟩ : ∃ n0 l, cand hs ps = n0 :: l := by
    cases hcd : cand hs ps with
    | nil => exact absurd hcd hne
    | cons n l => exact ⟨n, l, rfl⟩
  have hnx : nxt bef hs ps = nxF (relB bef ps) n0 l := by unfold nxt; rw [hcd]
  have hmem : ∀ j ∈ n0 :: l, canB hs ps j = true := fun j hj => cand_mem.1 (by rw [hcd]; exact hj)
  rw [hcd] at hg2 hcl ⊢
  rw [hnx]
  have hat : ∀ i (x : Nat), (n0 :: l)[i]? = some x → (intE.fl ((n0 :: l).map fun i => ((i : Nat) : Int)))[i]? = some (Value.int .i64 (x : Nat)) := fun i x hx => by
    rw [fl_int]
    unfold tv
    rw [List.map_map, List.getElem?_map, hx]; rfl
  have hat0 := hat 0 n0 rfl
  have hcells : cellsOf (H2.get b2) = some (intE.fl ((n0 :: l).map fun i => ((i : Nat) : Int))) := by rw [hg2]; rfl
  have hll : (n0 :: l).length = l.length + 1 := List.length_cons
  rw [hll] at hcl ⊢
  generalize hfl : intE.fl ((n0 :: l).map fun i => ((i : Nat) : Int)) = fl at hg2 hat hat0 hcells
  have sm5 : sameL (sameV 5) (wkC p a hs.length c ps g cp) (wkC p a hs.length c ps g cp) = true := wk_same (k := 3) hf.ptr
  have sm4 : sameL (sameV 4) (wkC p a hs.length c ps g cp) (wkC p a hs.length c ps g cp) = true := wk_same (k := 2) hf.ptr
  simp (disch := (first | (simp only [ne_eq,Nat.reduceEqDiff,not_false_eq_true,Nat.reduceLT]; done) | omega | (simp only [yz] <;> omega) | fail)) only [↓yp,yq0,yq1,yq2,yq3,yq4,yl,ys0,ys1,Nat.reduceAdd,Nat.reduceMul,Nat.reduceSub,Nat.reduceBEq,Nat.reduceEqDiff,Nat.reduceLT,Nat.reduceLeDiff,reduceIte,Int.reduceAdd,Int.reduceSub,Int.reduceMul,Int.reduceLT,Int.reduceLE,Int.reduceEq,Int.reduceToNat,Int.reduceNeg,fitB,newC,endD,endR,yrg,s1,s2,wk_1,wk_all h6,tm_makeFunc,sm5,sm4,A_indexSlice st_esS_40,hcells,hat0]
  have hkn : known H2 ⟨b2, 0, none⟩ (l.length + 1) 1 (OPEN + 1) = l.length + 1 := by
    unfold known
    rw [show Nat.beq (OPEN + 1) (OPEN + 1) = true by simp]
    simp only [cond_true,hg2]
    have e : fl.length = l.length + 1 := by rw [← hfl, fl_length, List.length_map, hll]; exact Nat.mul_one _
    rw [e, Nat.sub_zero, Nat.div_one]
    cases Nat.blt (l.length + 1) (l.length + 1) <;> rfl
  have fr02 : Fr H H2 := (show Fr H H1 from (Fr.alloc _ _).trans fr1).trans fr2
  have hbx : ∀ H3, Fr H2 H3 → H3.get H.size = .rw (wkC p a hs.length c ps g cp) 119 false [] := fun H3 f3 => by
    rw [f3.same _ (by omega), s2 _ (by omega), s1 _ (by omega), get_alloc_eq rfl]
  clear s1 s2
  have hb2c : ∀ H3, Fr H2 H3 → ∃ c2, cellsOf (H3.get b2) = some c2 ∧ ∀ i x, l[i]? = some x → c2[1 + i]? = some (.int .i64 (x : Nat)) := fun H3 f3 =>
    ⟨fl, by rw [f3.same _ hb2']; exact hcells, fun i x hx => by rw [Nat.add_comm]; exact hat (i + 1) x (by simpa using hx)⟩
  have hmm : ∀ j, (j = n0 ∨ j ∈ l) → j < hs.length := fun j hj => canB_lt (hmem j (by rcases hj with rfl | h <;> simp [*]))
  by_cases hln : l = []
  · subst hln
    refine A_sliceT (i := 1) (n := 1) (b := b2) (o := 0) st_esS_40 (by simp (disch := (first | (simp only [ne_eq,Nat.reduceEqDiff,not_false_eq_true,Nat.reduceLT]; done) | omega | (simp only [yz] <;> omega) | fail)) only [↓yp,yq0,yq1,yq2,yq3,yq4,yl,ys0,ys1,Nat.reduceAdd,Nat.reduceMul,Nat.reduceSub,Nat.reduceBEq,Nat.reduceEqDiff,Nat.reduceLT,Nat.reduceLeDiff,reduceIte,Int.reduceAdd,Int.reduceSub,Int.reduceMul,Int.reduceLT,Int.reduceLE,Int.reduceEq,Int.reduceToNat,Int.reduceNeg,fitB,newC,endD,endR,yrg,List.length_nil]) (by simp (disch := (first | (simp only [ne_eq,Nat.reduceEqDiff,not_false_eq_true,Nat.reduceLT]; done) | omega | (simp only [yz] <;> omega) | fail)) only [↓yp,yq0,yq1,yq2,yq3,yq4,yl,ys0,ys1,Nat.reduceAdd,Nat.reduceMul,Nat.reduceSub,Nat.reduceBEq,Nat.reduceEqDiff,Nat.reduceLT,Nat.reduceLeDiff,reduceIte,Int.reduceAdd,Int.reduceSub,Int.reduceMul,Int.reduceLT,Int.reduceLE,Int.reduceEq,Int.reduceToNat,Int.reduceNeg,fitB,newC,endD,endR,yrg]; rfl) (by simpa using hkn) rfl (by unfold OPEN; omega) (by unfold OPEN; omega) (by unfold OPEN; omega) (by omega) (by omega) ?_
    simp (disch := (first | (simp only [ne_eq,Nat.reduceEqDiff,not_false_eq_true,Nat.reduceLT]; done) | omega | (simp only [yz] <;> omega) | fail)) only [↓yp,yq0,yq1,yq2,yq3,yq4,yl,ys0,ys1,Nat.reduceAdd,Nat.reduceMul,Nat.reduceSub,Nat.reduceBEq,Nat.reduceEqDiff,Nat.reduceLT,Nat.reduceLeDiff,reduceIte,Int.reduceAdd,Int.reduceSub,Int.reduceMul,Int.reduceLT,Int.reduceLE,Int.reduceEq,Int.reduceToNat,Int.reduceNeg,fitB,newC,endD,endR,yrg,lenV_chan st_esS_40]
    refine W_end (hend _ H2 _ b2 n0 [] (.chan (some (tailZ b2 0 1 1))) fr02 (by omega) (hbx _ (Fr.refl _)) (by omega) (by simp) (by simp) (hb2c _ (Fr.refl _)) hmm ?_ ?_ ?_ ?_ ?_) ?_
    · simp (disch := (first | (simp only [ne_eq,Nat.reduceEqDiff,not_false_eq_true,Nat.reduceLT]; done) | omega | (simp only [yz] <;> omega) | fail)) only [yg,Nat.reduceAdd,Nat.reduceEqDiff,Nat.reduceLT]
    · simp (disch := (first | (simp only [ne_eq,Nat.reduceEqDiff,not_false_eq_true,Nat.reduceLT]; done) | omega | (simp only [yz] <;> omega) | fail)) only [yg,Nat.reduceAdd,Nat.reduceEqDiff,Nat.reduceLT]
    · simp (disch := (first | (simp only [ne_eq,Nat.reduceEqDiff,not_false_eq_true,Nat.reduceLT]; done) | omega | (simp only [yz] <;> omega) | fail)) only [yg,Nat.reduceAdd,Nat.reduceEqDiff,Nat.reduceLT]
    · simp (disch := (first | (simp only [ne_eq,Nat.reduceEqDiff,not_false_eq_true,Nat.reduceLT]; done) | omega | (simp only [yz] <;> omega) | fail)) only [yg,Nat.reduceAdd,Nat.reduceEqDiff,Nat.reduceLT]; rfl
    · simp (disch := (first | (simp only [ne_eq,Nat.reduceEqDiff,not_false_eq_true,Nat.reduceLT]; done) | omega | (simp only [yz] <;> omega) | fail)) only [yg,Nat.reduceAdd,Nat.reduceEqDiff,Nat.reduceLT]
    · rintro e' H3 ⟨g4, hz3⟩
      simp (disch := (first | (simp only [ne_eq,Nat.reduceEqDiff,not_false_eq_true,Nat.reduceLT]; done) | omega | (simp only [yz] <;> omega) | fail)) only [↓yp,yq0,yq1,yq2,yq3,yq4,yl,ys0,ys1,Nat.reduceAdd,Nat.reduceMul,Nat.reduceSub,Nat.reduceBEq,Nat.reduceEqDiff,Nat.reduceLT,Nat.reduceLeDiff,reduceIte,Int.reduceAdd,Int.reduceSub,Int.reduceMul,Int.reduceLT,Int.reduceLE,Int.reduceEq,Int.reduceToNat,Int.reduceNeg,fitB,newC,endD,endR,yrg,g4]
  · have hpos : 0 < l.length := List.length_pos_iff.2 hln
    refine A_sliceR (i := 1) (n := l.length + 1) (kn := l.length + 1) (b := b2) (o := 0) st_esS_40 (by simp (disch := (first | (simp only [ne_eq,Nat.reduceEqDiff,not_false_eq_true,Nat.reduceLT]; done) | omega | (simp only [yz] <;> omega) | fail)) only [↓yp,yq0,yq1,yq2,yq3,yq4,yl,ys0,ys1,Nat.reduceAdd,Nat.reduceMul,Nat.reduceSub,Nat.reduceBEq,Nat.reduceEqDiff,Nat.reduceLT,Nat.reduceLeDiff,reduceIte,Int.reduceAdd,Int.reduceSub,Int.reduceMul,Int.reduceLT,Int.reduceLE,Int.reduceEq,Int.reduceToNat,Int.reduceNeg,fitB,newC,endD,endR,yrg]) (by simp (disch := (first | (simp only [ne_eq,Nat.reduceEqDiff,not_false_eq_true,Nat.reduceLT]; done) | omega | (simp only [yz] <;> omega) | fail)) only [↓yp,yq0,yq1,yq2,yq3,yq4,yl,ys0,ys1,Nat.reduceAdd,Nat.reduceMul,Nat.reduceSub,Nat.reduceBEq,Nat.reduceEqDiff,Nat.reduceLT,Nat.reduceLeDiff,reduceIte,Int.reduceAdd,Int.reduceSub,Int.reduceMul,Int.reduceLT,Int.reduceLE,Int.reduceEq,Int.reduceToNat,Int.reduceNeg,fitB,newC,endD,endR,yrg]; rfl) hkn (by omega) (by omega) (by omega) ?_
    simp (disch := (first | (simp only [ne_eq,Nat.reduceEqDiff,not_false_eq_true,Nat.reduceLT]; done) | omega | (simp only [yz] <;> omega) | fail)) only [↓yp,yq0,yq1,yq2,yq3,yq4,yl,ys0,ys1,Nat.reduceAdd,Nat.reduceMul,Nat.reduceSub,Nat.reduceBEq,Nat.reduceEqDiff,Nat.reduceLT,Nat.reduceLeDiff,reduceIte,Int.reduceAdd,Int.reduceSub,Int.reduceMul,Int.reduceLT,Int.reduceLE,Int.reduceEq,Int.reduceToNat,Int.reduceNeg,fitB,newC,endD,endR,yrg,lenV_slice st_esS_40,Nat.add_sub_cancel]
    refine W_end (hend _ H2 _ b2 n0 l (.slice (some ⟨b2, 1, none⟩) l.length (OPEN + 1)) fr02 (by omega) (hbx _ (Fr.refl _)) (by omega) (by omega) (fun _ => rfl) (hb2c _ (Fr.refl _)) hmm ?_ ?_ ?_ ?_ ?_) ?_
    · simp (disch := (first | (simp only [ne_eq,Nat.reduceEqDiff,not_false_eq_true,Nat.reduceLT]; done) | omega | (simp only [yz] <;> omega) | fail)) only [yg,Nat.reduceAdd,Nat.reduceEqDiff,Nat.reduceLT]
    · simp (disch := (first | (simp only [ne_eq,Nat.reduceEqDiff,not_false_eq_true,Nat.reduceLT]; done) | omega | (simp only [yz] <;> omega) | fail)) only [yg,Nat.reduceAdd,Nat.reduceEqDiff,Nat.reduceLT]
    · simp (disch := (first | (simp only [ne_eq,Nat.reduceEqDiff,not_false_eq_true,Nat.reduceLT]; done) | omega | (simp only [yz] <;> omega) | fail)) only [yg,Nat.reduceAdd,Nat.reduceEqDiff,Nat.reduceLT]
    · simp (disch := (first | (simp only [ne_eq,Nat.reduceEqDiff,not_false_eq_true,Nat.reduceLT]; done) | omega | (simp only [yz] <;> omega) | fail)) only [yg,Nat.reduceAdd,Nat.reduceEqDiff,Nat.reduceLT]
    · simp (disch := (first | (simp only [ne_eq,Nat.reduceEqDiff,not_false_eq_true,Nat.reduceLT]; done) | omega | (simp only [yz] <;> omega) | fail)) only [yg,Nat.reduceAdd,Nat.reduceEqDiff,Nat.reduceLT]
    · rintro e' H3 ⟨g4, hz3⟩
      simp (disch := (first | (simp only [ne_eq,Nat.reduceEqDiff,not_false_eq_true,Nat.reduceLT]; done) | omega | (simp only [yz] <;> omega) | fail)) only [↓yp,yq0,yq1,yq2,yq3,yq4,yl,ys0,ys1,Nat.reduceAdd,Nat.reduceMul,Nat.reduceSub,Nat.reduceBEq,Nat.reduceEqDiff,Nat.reduceLT,Nat.reduceLeDiff,reduceIte,Int.reduceAdd,Int.reduceSub,Int.reduceMul,Int.reduceLT,Int.reduceLE,Int.reduceEq,Int.reduceToNat,Int.reduceNeg,fitB,newC,endD,endR,yrg,g4]
end
end Go.Am
/- A bill is put to work, by remainders. -/
namespace Go.Am
open Go.Proofs
variable {T : Tab} {P : Program} {N L : Nat} {H H' H'' : AHeap} {Q : Bool → Value → AHeap → Prop}
theorem A_all {ty : TypeId} {x : Operand} {len z : Nat} {ex : Exec} {t : Operand → Option Value} (hz : arS T ty = some (len, z)) (hlen : len < OPEN) (hpos : 0 < len) : A T P ex t H L (.slice ty x none none none) Q = optK (t x) fun v => ptrK v fun b o => andK (L ≤ H.size) (Q true (.slice (some ⟨b, o, none⟩) len len) H) := by
  unfold A
  show (match still (aSlice T t H ty x none none none) with
    | some (b, v, H', m) => L ≤ m ∧ Q b v H'
    | none => False) = _
  unfold arS at hz
  unfold aSlice
  cases hu : T.und ty with
  | none => rw [hu] at hz; cases hz
  | some d =>
    cases d with
    | array ln el =>
      rw [hu] at hz
      simp only at hz
      cases hi : T.inf el with
      | none => rw [hi] at hz; cases hz
      | some i =>
        rw [hi] at hz
        cases hz
        have hab : abounds len len none none none = some (0, len, len) := by
          delta abounds
          simp
        have hne : Nat.beq len 0 = false := beq_ne (by omega)
        cases t x with
        | none => rfl
        | some v =>
          cases v with
          | pointer a =>
            cases a with
            | none => rfl
            | some a =>
              simp only [abound,hi,hab,blt_true hlen,cond_true,Nat.sub_zero,hne,cond_false,Nat.zero_mul,Nat.add_zero]
              rfl
          | slice a l c => cases a <;> rfl
          | _ => rfl
    | _ => rw [hu] at hz; cases hz
section
variable {ck : Nat} {ra : Option Addr} {rc n : Nat} {r : List Int}
end
section
variable {p : Int} {ad : Addr} {n c g : Nat} {ps q : List Int} {cp : List Value}
theorem one_wk : oneCells (wkC p (some ad) n c ps g cp) = true := wk_one
set_option maxHeartbeats 2000000 in
/-- paying. -/
theorem c70 {b : Addr} {cap : Nat} (h6 : ps.length = 6) (hq : Rw intE H (some b) q) (hq6 : q.length ≤ 6) (hq1 : 1 ≤ q.length) (hL : L ≤ H.size) {M : Nat} (hM : 100 ≤ M) (hk : ∀ H', Fr H H' → Q false (.agg ⟨wkC p (some ad) n c (q ++ ps.drop q.length) g cp⟩) H') :
    resK (acall tabA (aexec tabA Try.prog M) 70 [.agg ⟨wkC p (some ad) n c ps g cp⟩, .slice (some b) q.length cap] H) L Q := by
  obtain ⟨N, rfl⟩ : ∃ N, M = N + 100 := ⟨M - 100, by omega⟩
  refine call_fls (R := fun v H' => v = .agg ⟨wkC p (some ad) n c (q ++ ps.drop q.length) g cp⟩ ∧ Fr H H') (k := 10) (rs := [.cell 4 119]) rfl fn_70 rfl rfl rfl hL ?_ ?_ ?_
  rotate_left
  · rintro v H' ⟨rfl, -⟩; rfl
  · rintro v H' ⟨rfl, h1⟩
    exact hk _ h1
  have h6' : (q ++ ps.drop q.length).length = 6 := by rw [List.length_append, List.length_drop]; omega
  have hne : q ≠ [] := fun h => by rw [h] at hq1; simp at hq1
  simp (disch := (first | (simp only [ne_eq,Nat.reduceEqDiff,not_false_eq_true,Nat.reduceLT]; done) | omega | (simp only [yz] <;> omega) | fail)) only [↓yp,yq0,yq1,yq2,yq3,yq4,yl,ys0,ys1,Nat.reduceAdd,Nat.reduceMul,Nat.reduceSub,Nat.reduceBEq,Nat.reduceEqDiff,Nat.reduceLT,Nat.reduceLeDiff,reduceIte,Int.reduceAdd,Int.reduceSub,Int.reduceMul,Int.reduceLT,Int.reduceLE,Int.reduceEq,Int.reduceToNat,Int.reduceNeg,fitB,newC,endD,endR,yrg,A_all st_arS_116 (by unfold OPEN; omega) (by omega)]
  obtain ⟨bb, bo, bs⟩ := b
  have hsrc : srcCells ((H.alloc (.rw (wkC p (some ad) n c ps g cp) 119 false [])).alloc (.rw [.int .i64 0, .slice none 0 0, .int .i64 0, .int .i64 0, .int .i64 0, .int .i64 0, .int .i64 0, .int .i64 0, .nilFunc] 119 false [])) ⟨bb, bo, bs⟩ (Nat.min q.length 6 * 1) = some (tv q) := by
    have := (hq.fr (H' := (H.alloc (.rw (wkC p (some ad) n c ps g cp) 119 false [])).alloc (.rw [.int .i64 0, .slice none 0 0, .int .i64 0, .int .i64 0, .int .i64 0, .int .i64 0, .int .i64 0, .int .i64 0, .nilFunc] 119 false [])) (by (repeat (first | exact Fr.refl _ | assumption | refine Fr.allocd ?_ _ | refine Fr.kill ?_ (by first | assumption | omega) | refine Fr.put ?_ (by first | omega | (simp only [yz] <;> omega)) _)))).src hne
    rw [fl_int] at this
    rw [show Nat.min q.length 6 = q.length from Nat.min_eq_left hq6]
    exact this
  refine A_copy_of (z := 1) (b := H.size) (o := 2) (sp := none) (dc := 6) (dl := 6) (sl := q.length) (sc := cap) (sa := ⟨bb, bo, bs⟩) (l := tv q) (c := wkC p (some ad) n c ps g cp) (e := 119) (op := false) st_esS_40 (by simp (disch := (first | (simp only [ne_eq,Nat.reduceEqDiff,not_false_eq_true,Nat.reduceLT]; done) | omega | (simp only [yz] <;> omega) | fail)) only [↓yp,yq0,yq1,yq2,yq3,yq4,yl,ys0,ys1,Nat.reduceAdd,Nat.reduceMul,Nat.reduceSub,Nat.reduceBEq,Nat.reduceEqDiff,Nat.reduceLT,Nat.reduceLeDiff,reduceIte,Int.reduceAdd,Int.reduceSub,Int.reduceMul,Int.reduceLT,Int.reduceLE,Int.reduceEq,Int.reduceToNat,Int.reduceNeg,fitB,newC,endD,endR,yrg]) (by simp (disch := (first | (simp only [ne_eq,Nat.reduceEqDiff,not_false_eq_true,Nat.reduceLT]; done) | omega | (simp only [yz] <;> omega) | fail)) only [↓yp,yq0,yq1,yq2,yq3,yq4,yl,ys0,ys1,Nat.reduceAdd,Nat.reduceMul,Nat.reduceSub,Nat.reduceBEq,Nat.reduceEqDiff,Nat.reduceLT,Nat.reduceLeDiff,reduceIte,Int.reduceAdd,Int.reduceSub,Int.reduceMul,Int.reduceLT,Int.reduceLE,Int.reduceEq,Int.reduceToNat,Int.reduceNeg,fitB,newC,endD,endR,yrg]) hsrc (by simp (disch := (first | (simp only [ne_eq,Nat.reduceEqDiff,not_false_eq_true,Nat.reduceLT]; done) | omega | (simp only [yz] <;> omega) | fail)) only [yg,Nat.reduceAdd,Nat.reduceEqDiff,Nat.reduceLT]) (by rw [tv_len, wk_len h6]; omega) (one_tv _) (by omega) ?_
  rw [wk_copy h6 hq6]
  simp (disch := (first | (simp only [ne_eq,Nat.reduceEqDiff,not_false_eq_true,Nat.reduceLT]; done) | omega | (simp only [yz] <;> omega) | fail)) only [↓yp,yq0,yq1,yq2,yq3,yq4,yl,ys0,ys1,Nat.reduceAdd,Nat.reduceMul,Nat.reduceSub,Nat.reduceBEq,Nat.reduceEqDiff,Nat.reduceLT,Nat.reduceLeDiff,reduceIte,Int.reduceAdd,Int.reduceSub,Int.reduceMul,Int.reduceLT,Int.reduceLE,Int.reduceEq,Int.reduceToNat,Int.reduceNeg,fitB,newC,endD,endR,yrg,wk_all h6',wk_len h6',one_wk]
  (repeat (first | exact Fr.refl _ | assumption | refine Fr.allocd ?_ _ | refine Fr.kill ?_ (by first | assumption | omega) | refine Fr.put ?_ (by first | omega | (simp only [yz] <;> omega)) _))
end
theorem wk_zero {p : Int} {a : Option Addr} {n c g : Nat} {cp : List Value} : [Value.int .i64 p, .slice a n c, .int .i64 0, .int .i64 0, .int .i64 0, .int .i64 0, .int .i64 0, .int .i64 0, .func (.func g) ⟨[]⟩ ⟨cp⟩] = wkC p a n c [0, 0, 0, 0, 0, 0] g cp := rfl
theorem cp_same {cp : List Value} {k : Nat} (h : ∃ ck, cp = [.pointer (some ⟨ck, 0, none⟩)]) : sameL (sameV (k + 1)) cp cp = true := by
  obtain ⟨ck, rfl⟩ := h
  rw [sl_cons, sv_pointer]; rfl
/-- What houses pay so far, with zeros behind. -/
def pad6 (q : List Int) : List Int := q ++ List.replicate (6 - q.length) 0
theorem pad6_len {q : List Int} (h : q.length ≤ 6) : (pad6 q).length = 6 := by unfold pad6; rw [List.length_append, List.length_replicate]; omega
theorem pad6_of {q : List Int} (h : q.length ≤ 6) : q ++ [0, 0, 0, 0, 0, 0].drop q.length = pad6 q := by
  unfold pad6
  congr 1
  obtain ⟨k, hk⟩ : ∃ k, q.length = k := ⟨_, rfl⟩
  rw [hk] at h ⊢
  rcases (show k = 0 ∨ k = 1 ∨ k = 2 ∨ k = 3 ∨ k = 4 ∨ k = 5 ∨ k = 6 by omega) with rfl | rfl | rfl | rfl | rfl | rfl | rfl <;> rfl
theorem pad6_bd {q : List Int} {m : Int} (hm : 0 ≤ m) (h : ∀ x ∈ q, 0 ≤ x ∧ x ≤ m) : ∀ x ∈ pad6 q, 0 ≤ x ∧ x ≤ m := fun x hx => by
  unfold pad6 at hx
  rcases List.mem_append.1 hx with hx | hx
  · exact h x hx
  · have := (List.mem_replicate.1 hx).2
    subst this; omega
section
variable {p : Int} {ad : Addr} {c g : Nat} {hs : List Hs} {cp : List Value}
set_option maxHeartbeats 2000000 in
/-- begin. -/
theorem c108 (hcp : ∃ ck, cp = [.pointer (some ⟨ck, 0, none⟩)]) (hr : Rw hsE H (some ad) hs) (h1 : 1 ≤ hs.length) (h6 : hs.length ≤ 6) (hL : L ≤ H.size) {M : Nat} (hM : 600 ≤ M) (hk : ∀ H', Fr H H' → Q false (.agg ⟨wkC p (some ad) hs.length c (pad6 (hs.map Hs.l)) g cp⟩) H') :
    resK (acall tabA (aexec tabA Try.prog M) 108 [.agg ⟨[.int .i64 p, .slice (some ad) hs.length c]⟩, .func (.func g) ⟨[]⟩ ⟨cp⟩] H) L Q := by
  obtain ⟨N, rfl⟩ : ∃ N, M = N + 600 := ⟨M - 600, by omega⟩
  refine call_fls (R := fun v H' => v = .agg ⟨wkC p (some ad) hs.length c (pad6 (hs.map Hs.l)) g cp⟩ ∧ Fr H H') (k := 12) (rs := [.cell 4 119]) rfl fn_108 rfl rfl rfl hL ?_ ?_ ?_
  rotate_left
  · rintro v H' ⟨rfl, -⟩; rfl
  · rintro v H' ⟨rfl, h1⟩
    exact hk _ h1
  simp (disch := (first | (simp only [ne_eq,Nat.reduceEqDiff,not_false_eq_true,Nat.reduceLT]; done) | omega | (simp only [yz] <;> omega) | fail)) only [↓yp,yq0,yq1,yq2,yq3,yq4,yl,ys0,ys1,Nat.reduceAdd,Nat.reduceMul,Nat.reduceSub,Nat.reduceBEq,Nat.reduceEqDiff,Nat.reduceLT,Nat.reduceLeDiff,reduceIte,Int.reduceAdd,Int.reduceSub,Int.reduceMul,Int.reduceLT,Int.reduceLE,Int.reduceEq,Int.reduceToNat,Int.reduceNeg,fitB,newC,endD,endR,yrg]
  refine W_draw [5, 6, 7] rfl (by kernel_rfl) (by kernel_rfl) (by (first | omega | (simp only [yz] <;> omega))) ?_
  simp (disch := (first | (simp only [ne_eq,Nat.reduceEqDiff,not_false_eq_true,Nat.reduceLT]; done) | omega | (simp only [yz] <;> omega) | fail)) only [↓yp,yq0,yq1,yq2,yq3,yq4,yl,ys0,ys1,Nat.reduceAdd,Nat.reduceMul,Nat.reduceSub,Nat.reduceBEq,Nat.reduceEqDiff,Nat.reduceLT,Nat.reduceLeDiff,reduceIte,Int.reduceAdd,Int.reduceSub,Int.reduceMul,Int.reduceLT,Int.reduceLE,Int.reduceEq,Int.reduceToNat,Int.reduceNeg,fitB,newC,endD,endR,yrg,A_build st_bdS_119,wk_zero]
  refine c113 (g := 114) (f := Hs.l) (hr.fr (by (repeat (first | exact Fr.refl _ | assumption | refine Fr.allocd ?_ _ | refine Fr.kill ?_ (by first | assumption | omega) | refine Fr.put ?_ (by first | omega | (simp only [yz] <;> omega)) _)))) (fun h0 => by rw [h0] at h1; simp at h1) (by omega) (fun N H' x => c114) (by (first | omega | (simp only [yz] <;> omega))) (by omega) ?_
  intro b cc H1 fr1 hb r1
  have f1 := fr1.size
  have s1 := fr1.same
  simp only [size_alloc] at f1 s1 hb
  simp (disch := (first | (simp only [ne_eq,Nat.reduceEqDiff,not_false_eq_true,Nat.reduceLT]; done) | omega | (simp only [yz] <;> omega) | fail)) only [↓yp,yq0,yq1,yq2,yq3,yq4,yl,ys0,ys1,Nat.reduceAdd,Nat.reduceMul,Nat.reduceSub,Nat.reduceBEq,Nat.reduceEqDiff,Nat.reduceLT,Nat.reduceLeDiff,reduceIte,Int.reduceAdd,Int.reduceSub,Int.reduceMul,Int.reduceLT,Int.reduceLE,Int.reduceEq,Int.reduceToNat,Int.reduceNeg,fitB,newC,endD,endR,yrg,s1,A_build st_bdS_119,wk_zero]
  have h70 := fun (Q : Bool → Value → AHeap → Prop) (F : Nat) (hF : 100 ≤ F) => c70 (p := p) (ad := ad) (n := hs.length) (c := c) (g := g) (cp := cp) (ps := [0, 0, 0, 0, 0, 0]) (cap := cc) (L := H.size) (Q := Q) (M := F) rfl r1 (by rw [List.length_map]; omega) (by rw [List.length_map]; omega) (by omega) hF
  rw [List.length_map] at h70
  refine h70 _ _ (by omega) ?_
  intro H2 fr2
  have f2 := fr2.size
  have s2 := fr2.same
  have e6 := pad6_of (q := hs.map Hs.l) (by rw [List.length_map]; omega)
  rw [List.length_map] at e6
  rw [e6]
  have hp6 := pad6_len (q := hs.map Hs.l) (by rw [List.length_map]; omega)
  have sm5 : sameL (sameV 5) (wkC p (some ad) hs.length c [0, 0, 0, 0, 0, 0] g cp) (wkC p (some ad) hs.length c [0, 0, 0, 0, 0, 0] g cp) = true := wk_same (k := 3) hcp
  have cm5 : sameL (sameV 5) cp cp = true := cp_same (k := 4) hcp
  simp (disch := (first | (simp only [ne_eq,Nat.reduceEqDiff,not_false_eq_true,Nat.reduceLT]; done) | omega | (simp only [yz] <;> omega) | fail)) only [↓yp,yq0,yq1,yq2,yq3,yq4,yl,ys0,ys1,Nat.reduceAdd,Nat.reduceMul,Nat.reduceSub,Nat.reduceBEq,Nat.reduceEqDiff,Nat.reduceLT,Nat.reduceLeDiff,reduceIte,Int.reduceAdd,Int.reduceSub,Int.reduceMul,Int.reduceLT,Int.reduceLE,Int.reduceEq,Int.reduceToNat,Int.reduceNeg,fitB,newC,endD,endR,yrg,s1,s2,A_build st_bdS_119,wk_zero,wk_all hp6,wk_len hp6,one_wk,sm5,cm5]
  exact ⟨by rw [size_put]; omega, fun q hq => by rw [get_put_ne (by omega), s2 _ (by omega), s1 _ (by omega), get_alloc_lt (by (first | omega | (simp only [yz] <;> omega))), get_alloc_lt hq]⟩
end
section
variable {p A : Int} {ad : Option Addr} {c : Nat} {hs : List Hs}
end
end Go.Am
