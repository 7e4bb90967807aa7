/- A bill at work by remainders. -/
import Derived.Test.YtnibabkgeolenaaT36
set_option linter.unusedSimpArgs false
set_option linter.unusedVariables false
namespace Go.Am
open Go.Proofs
variable {T : Tab} {P : Program} {N L : Nat} {H H' H'' : AHeap} {Q : Bool → Value → AHeap → Prop}
section
variable {p A : Int} {ad : Addr} {c i : Nat} {hs : List Hs} {v1 v2 : Value} {S1 S2 : Nat → Prop} {e : VT}
end
end Go.Am
/- Pennies are yielded one after the other. -/
namespace Go.Am
open Go.Proofs
variable {T : Tab} {P : Program} {N L : Nat} {H H' H'' Hw : AHeap} {Q : Bool → Value → AHeap → Prop}
theorem atake_fr' {lo : Nat} : ∀ {ds : List Nat} {H H' : AHeap}, atake ds H = some H' → (∀ q ∈ ds, lo ≤ q) → ∀ q, q < lo → H'.get q = H.get q
  | [], H, H', h, _, q, _ => by cases h; rfl
  | d :: ds, H, H', h, hl, q, hq => by
    unfold atake at h
    split at h
    · have := atake_fr' h (fun p hp => hl p (List.mem_cons_of_mem _ hp)) q hq
      rw [this, get_put_ne (by have := hl d (by simp); omega)]
    · cases h
/-- A call that leaves deferred blocks behind, and may write what was there. -/
theorem call_keepD (hT : T.MemoFr) {g : FuncId} {args : List Value} {fn : Func} {c : Code} {R : Value → AHeap → Prop} {rs : List ResultVar} (hm : T.memo g args H = none) (hf : T.fn g = some fn) (hb : fn.body = some c) (hr : fn.results.toList = rs) {k : Nat} (hk : args.length + (fn.ntmps - args.length) = k) (hL : L ≤ H.size)
    (hw : W T P N none c L ⟨k, env args 0 .nil, H, []⟩ (retD T L rs R)) (hq : ∀ v H', R v H' → Q false v H') (hq' : ∀ v H', R v H' → gr v = true → Fr H H' → Q true v H) :
    resK (acall T (aexec T P N) g args H) L Q := by
  subst hk
  unfold W at hw
  unfold resK acall acall0
  rw [hm, hf]
  simp only [hb,envK_eq,fNat_eq]
  cases ha : aexec T P N none c ⟨args.length + (fn.ntmps - args.length), env args 0 .nil, H, []⟩ with
  | none => rw [ha] at hw; exact hw.elim
  | some p =>
    obtain ⟨x, s, m⟩ := p
    have hfr := aexec_fr hT N _ _ _ _ _ _ ha
    simp only at hfr
    rw [ha] at hw
    obtain ⟨h1, h2⟩ := hw
    have key : ((∀ k ∈ s.ds, L ≤ k) ∧ L ≤ s.H.size ∧ ∃ H', atake s.ds s.H = some H' ∧ ∃ v, resV T s.n s.e H' rs = some v ∧ R v H') → (match aleave T fn H s m with
        | some (b, v, H', m) => L ≤ m ∧ Q b v H'
        | none => False) := by
      rintro ⟨k1, k4, H', k5, v, k2, k3⟩
      have hr' : ares T fn s.n s.e H' = some v := by rw [← hr] at k2; exact k2
      have hmin := le_minAl h1 k1
      have hsz := atake_size k5
      have hml := minAl_le m s.ds
      unfold aleave
      simp only [k5,hr',fV_eq,fNat_eq]
      unfold quietV
      cases hq2 : (Nat.ble H.size (min (minAl m s.ds) s.H.size) && gr v)
      · simp only [cond_false]
        exact ⟨by omega, hq _ _ k3⟩
      · simp only [cond_true]
        simp only [Bool.and_eq_true] at hq2
        have := Nat.le_of_ble_eq_true hq2.1
        refine ⟨hL, hq' _ _ k3 hq2.2 ⟨by rw [hsz]; exact hfr.size, fun k hk => ?_⟩⟩
        rw [atake_fr' (lo := H.size) k5 (fun q hq => by have := hml.2 q hq; omega) k hk]
        exact hfr.same k (by omega) hk
    cases x with
    | normal => exact key h2
    | ret => exact key h2
    | _ => exact h2.elim
theorem tm_sliceA {ty : TypeId} {x : Operand} : tmpsOf (Op.operands (.slice ty x none none none)).toList = tmpsOf [x] := by simp [Op.operands]
theorem FrX.putU {k j : Nat} (f : FrX k H H') (hj : H.size ≤ j) (b : ABlk) : FrX k H (H'.put j b) := ⟨by rw [size_put]; exact f.size, fun i h1 h2 => by rw [get_put_ne (by omega)]; exact f.same i h1 h2⟩
/-- A penny is paid. -/
def stepW (bef : Nat → Int → Nat → Int → Bool) (hs : List Hs) (ps : List Int) : List Int := ps.set (nxt bef hs ps) (ps.getD (nxt bef hs ps) 0 + 1)
def runW (bef : Nat → Int → Nat → Int → Bool) (hs : List Hs) (ps : List Int) : Nat → List Int
  | 0 => ps
  | k + 1 => stepW bef hs (runW bef hs ps k)
section
variable {p : Int} {a : Option Addr} {c g K ab bw lb : Nat} {hs : List Hs} {ps : List Int} {cp : List Value} {bef : Nat → Int → Nat → Int → Bool}
theorem runW_len (h : ps.length = 6) : ∀ k, (runW bef hs ps k).length = 6
  | 0 => h
  | k + 1 => by rw [runW, stepW, List.length_set, runW_len h k]
/-- What a bill at work is known to do for so many pennies. -/
structure Run (bef : Nat → Int → Nat → Int → Bool) (hs : List Hs) (ps : List Int) (K : Nat) : Prop where
  bd : ∀ k, k ≤ K → ∀ x ∈ runW bef hs ps k, 0 ≤ x ∧ x ≤ 1000
  can : ∀ k, k < K → ∃ j, canB hs (runW bef hs ps k) j = true
  nx : ∀ k, k < K → nxt bef hs (runW bef hs ps k) < hs.length
theorem Wk.run (h : Wk Hw a hs ps) (r : Run bef hs ps K) {k : Nat} (hk : k ≤ K) : Wk Hw a hs (runW bef hs ps k) := ⟨h.rw, h.len, runW_len h.six k, r.bd k hk, h.m⟩
theorem wk_rw (h6 : ps.length = 6) (hb : H.get bw = .rw (wkC p a hs.length c ps g cp) 119 false []) (hl : bw < H.size) : Rw intE H (some ⟨bw, 2, none⟩) ps := ⟨fun _ => ⟨bw, 2, wkC p a hs.length c ps g cp, rfl, hl, by rw [hb]; rfl, by
  rw [fl_int, show intE.z = 1 from rfl, Nat.mul_one, h6]
  show (tv ps ++ _).take 6 = _
  rw [← h6, ← tv_len, List.take_left]⟩⟩
set_option maxHeartbeats 8000000 in
theorem c129 {K₀ : Nat} (h : Wk Hw a hs ps) (hf : FO Hw g hs.length cp bef) (r : Run bef hs ps K) (f0 : Fr Hw H) (hab : Hw.size ≤ ab) (hab' : ab < H.size) (hne : bw ≠ ab) (hbw : H.get bw = .rw (wkC p a hs.length c ps g cp) 119 false []) (hga : H.get ab = .rw (tv ps) 116 false []) (hK : p - isum ps = (K : Nat)) (hK5 : K ≤ 500) (hL : L ≤ ab)
    (hy : ∀ M, K₀ ≤ M → ∀ k, k < K → ∀ H', FrX ab H H' → H'.get ab = .rw (tv (runW bef hs ps k)) 116 false [] → resK (ayield (aexec tabA Try.prog M) lb [.int .i64 (nxt bef hs (runW bef hs ps k) : Nat), .int .i64 ((runW bef hs ps k).getD (nxt bef hs (runW bef hs ps k)) 0 + 1)] H') L fun _ v H'' => v = .bool true ∧ FrX ab H' H'' ∧ H''.get ab = .rw (tv (runW bef hs ps (k + 1))) 116 false [])
    {M : Nat} (hM : K₀ + 2500 ≤ M) (hq : ∀ f H'', FrX ab H H'' → H''.get ab = .rw (tv (runW bef hs ps K)) 116 false [] → Q f (.tuple ⟨[]⟩) H'') :
    resK (acall tabA (aexec tabA Try.prog M) 129 [.func (.yield lb) ⟨[]⟩ ⟨[]⟩, .pointer (some ⟨bw, 0, none⟩)] H) L Q := by
  obtain ⟨N, rfl⟩ : ∃ N, M = N + K₀ + 2500 := ⟨M - (K₀ + 2500), by omega⟩
  have hbl : bw < H.size := lt_of_cells (c := wkC p a hs.length c ps g cp) (by rw [hbw]; rfl)
  refine call_keep tabA_fr (k := 33) (rs := []) (R := fun v H'' => v = .tuple ⟨[]⟩ ∧ FrX ab H H'' ∧ H''.get ab = .rw (tv (runW bef hs ps K)) 116 false []) rfl fn_129 rfl rfl rfl (by omega) ?_ (by rintro v H'' ⟨rfl, h1, h2⟩; exact hq _ _ h1 h2) (by rintro v H'' ⟨rfl, h1, h2⟩ _ fr; exact hq _ _ (FrX.refl _ _) (by rw [← fr.same _ hab']; exact h2))
  have h6 := h.six
  have hlen := h.len
  have h77 := fun (N : Nat) => c77 (N := N) (H := (H.alloc (.rw [.int .i64 0, .slice none 0 0, .int .i64 0, .int .i64 0, .int .i64 0, .int .i64 0, .int .i64 0, .int .i64 0, .nilFunc] 119 false [])).put H.size (.rw (wkC p a hs.length c ps g cp) 119 false [])) (a := some ⟨bw, 2, none⟩) (cap := 6) (t := ps) ((wk_rw h6 hbw hbl).fr (by (repeat (first | exact Fr.refl _ | assumption | refine Fr.allocd ?_ _ | refine Fr.kill ?_ (by first | assumption | omega) | refine Fr.put ?_ (by first | omega | (simp only [yz] <;> omega)) _)))) (by omega) fun x hx => by have := h.bd x hx; omega
  rw [h6] at h77
  have hsb := isum_le (l := ps) (m := 1000) h.bd
  have wK : w64 (p - isum ps) = ((K : Nat) : Int) := by rw [w64_of (by omega), hK]
  simp (disch := (first | (simp only [ne_eq,Nat.reduceEqDiff,not_false_eq_true,Nat.reduceLT]; done) | omega | (simp only [yz] <;> omega) | fail)) only [↓yp,yq0,yq1,yq2,yq3,yq4,yl,ys0,ys1,Nat.reduceAdd,Nat.reduceMul,Nat.reduceSub,Nat.reduceBEq,Nat.reduceEqDiff,Nat.reduceLT,Nat.reduceLeDiff,reduceIte,Int.reduceAdd,Int.reduceSub,Int.reduceMul,Int.reduceLT,Int.reduceLE,Int.reduceEq,Int.reduceToNat,Int.reduceNeg,fitB,newC,endD,endR,yrg,hbw,wk_all h6,wk_len h6,wk_one]
  refine W_draw [] rfl (by kernel_rfl) (by kernel_rfl) (by (first | omega | (simp only [yz] <;> omega))) ?_
  simp (disch := (first | (simp only [ne_eq,Nat.reduceEqDiff,not_false_eq_true,Nat.reduceLT]; done) | omega | (simp only [yz] <;> omega) | fail)) only [↓yp,yq0,yq1,yq2,yq3,yq4,yl,ys0,ys1,Nat.reduceAdd,Nat.reduceMul,Nat.reduceSub,Nat.reduceBEq,Nat.reduceEqDiff,Nat.reduceLT,Nat.reduceLeDiff,reduceIte,Int.reduceAdd,Int.reduceSub,Int.reduceMul,Int.reduceLT,Int.reduceLE,Int.reduceEq,Int.reduceToNat,Int.reduceNeg,fitB,newC,endD,endR,yrg,hbw,wk_0,A_all st_arS_116 (by unfold OPEN; omega) (by omega),tm_sliceA,h77,wK]
  refine W_while (n := 33) (K₀ + 1800) (fun q e H' => ∃ k : Nat, q = K - k ∧ k ≤ K ∧ gt 33 e 13 = .int .i64 (k : Nat) ∧ gt 33 e 12 = .int .i64 (K : Nat) ∧ gt 33 e 3 = .pointer (some ⟨H.size, 0, none⟩) ∧ gt 33 e 0 = .func (.yield lb) ⟨[]⟩ ⟨[]⟩ ∧ FrX ab H H' ∧ H.size < H'.size ∧ H'.get ab = .rw (tv (runW bef hs ps k)) 116 false [] ∧ H'.get H.size = .rw (wkC p a hs.length c (runW bef hs ps k) g cp) 119 false [])
    ?_ 500 K ⟨0, by omega, by omega, by simp (disch := (first | (simp only [ne_eq,Nat.reduceEqDiff,not_false_eq_true,Nat.reduceLT]; done) | omega | (simp only [yz] <;> omega) | fail)) only [yg,Nat.reduceAdd,Nat.reduceEqDiff,Nat.reduceLT]; rfl, by simp (disch := (first | (simp only [ne_eq,Nat.reduceEqDiff,not_false_eq_true,Nat.reduceLT]; done) | omega | (simp only [yz] <;> omega) | fail)) only [yg,Nat.reduceAdd,Nat.reduceEqDiff,Nat.reduceLT], by simp (disch := (first | (simp only [ne_eq,Nat.reduceEqDiff,not_false_eq_true,Nat.reduceLT]; done) | omega | (simp only [yz] <;> omega) | fail)) only [yg,Nat.reduceAdd,Nat.reduceEqDiff,Nat.reduceLT], by simp (disch := (first | (simp only [ne_eq,Nat.reduceEqDiff,not_false_eq_true,Nat.reduceLT]; done) | omega | (simp only [yz] <;> omega) | fail)) only [yg,Nat.reduceAdd,Nat.reduceEqDiff,Nat.reduceLT], FrX.of (by (repeat (first | exact Fr.refl _ | assumption | refine Fr.allocd ?_ _ | refine Fr.kill ?_ (by first | assumption | omega) | refine Fr.put ?_ (by first | omega | (simp only [yz] <;> omega)) _))), by (first | omega | (simp only [yz] <;> omega)), ?_, ?_⟩ (by omega) (by omega)
  rotate_left
  · rw [get_put_ne (by omega), get_alloc_lt hab']; exact hga
  · exact get_put_same (by (first | omega | (simp only [yz] <;> omega)))
  rintro M1 q e H1 ⟨k, rfl, hk, g13, g12, g3, g0, fx, hz, hga1, hw1⟩
  have hfw : Fr Hw H1 := fx.above f0 hab
  have hwk := h.run r hk
  have h6k := hwk.six
  obtain ⟨F, hF, hFK⟩ : ∃ F, M1 + (K₀ + 1800) = F + 1800 ∧ K₀ ≤ F := ⟨M1 + K₀, by omega, by omega⟩
  rw [hF]
  simp (disch := (first | (simp only [ne_eq,Nat.reduceEqDiff,not_false_eq_true,Nat.reduceLT]; done) | omega | (simp only [yz] <;> omega) | fail)) only [↓yp,yq0,yq1,yq2,yq3,yq4,yl,ys0,ys1,Nat.reduceAdd,Nat.reduceMul,Nat.reduceSub,Nat.reduceBEq,Nat.reduceEqDiff,Nat.reduceLT,Nat.reduceLeDiff,reduceIte,Int.reduceAdd,Int.reduceSub,Int.reduceMul,Int.reduceLT,Int.reduceLE,Int.reduceEq,Int.reduceToNat,Int.reduceNeg,fitB,newC,endD,endR,yrg,g13,g12]
  refine ⟨fun hA => ?_, fun hA => ?_⟩
  · have hlt : k < K := by have := of_decide_eq_true hA; omega
    have h130 := fun (N : Nat) => c130 (N := N) (p := p) (c := c) (hwk.fr hfw) (hf.fr hfw) (r.can k hlt)
    have hnx := r.nx k hlt
    obtain ⟨nn, hnn⟩ : ∃ nn, nxt bef hs (runW bef hs ps k) = nn := ⟨_, rfl⟩
    have hat := ps_at hwk (i := nn) (by omega)
    obtain ⟨x, hx⟩ : ∃ x, (runW bef hs ps k).getD nn 0 = x := ⟨_, rfl⟩
    have hyk := fun M hM H' f1 g1 => hy M hM k hlt H' f1 g1
    have hst : (runW bef hs ps k).set nn (x + 1) = runW bef hs ps (k + 1) := by show _ = stepW bef hs (runW bef hs ps k); unfold stepW; rw [hnn, hx]
    rw [hnn] at h130 hnx
    simp only [hnn,hx] at hyk hat
    have hb := hwk.bd x (List.mem_of_getElem? hat)
    have w1 : w64 (x + 1) = x + 1 := w64_of (by omega)
    have w2 : w64 ((k : Int) + 1) = ((k + 1 : Nat) : Int) := by rw [w64_of (by omega)]; omega
    have hset := wk_set (p := p) (a := a) (n := hs.length) (c := c) (g := g) (cp := cp) (x := x + 1) h6k (i := nn) (by omega)
    rw [hst] at hset
    have hfit : decide (2 + nn ≤ 8) = true := by simp; omega
    have hat' : (runW bef hs ps (k + 1))[nn]? = some (x + 1) := by rw [← hst, List.getElem?_set, if_pos rfl, if_pos (by omega)]
    have h6k' := runW_len (bef := bef) (hs := hs) h6 (k + 1)
    simp (disch := (first | (simp only [ne_eq,Nat.reduceEqDiff,not_false_eq_true,Nat.reduceLT]; done) | omega | (simp only [yz] <;> omega) | fail)) only [↓yp,yq0,yq1,yq2,yq3,yq4,yl,ys0,ys1,Nat.reduceAdd,Nat.reduceMul,Nat.reduceSub,Nat.reduceBEq,Nat.reduceEqDiff,Nat.reduceLT,Nat.reduceLeDiff,reduceIte,Int.reduceAdd,Int.reduceSub,Int.reduceMul,Int.reduceLT,Int.reduceLE,Int.reduceEq,Int.reduceToNat,Int.reduceNeg,fitB,newC,endD,endR,yrg,g3,g0,hw1,wk_all h6k,h130,A_indexArr st_arS_116,wk_i hat,wk_i hat',w1,wk_len h6k,hfit,hset,calK_yield]
    refine resK_mono (hyk _ (by omega) (H1.put H.size (.rw (wkC p a hs.length c (runW bef hs ps (k + 1)) g cp) 119 false [])) (fx.putU (Nat.le_refl _) _) (by rw [get_put_ne (by omega)]; exact hga1)) ?_
    rintro q v H2 ⟨rfl, fx2, hga2⟩
    have f2 := fx2.size
    rw [size_put] at f2
    have hw2 : H2.get H.size = .rw (wkC p a hs.length c (runW bef hs ps (k + 1)) g cp) 119 false [] := by
      rw [fx2.same _ (by rw [size_put]; omega) (by omega), get_put_same (by omega)]
    simp (disch := (first | (simp only [ne_eq,Nat.reduceEqDiff,not_false_eq_true,Nat.reduceLT]; done) | omega | (simp only [yz] <;> omega) | fail)) only [↓yp,yq0,yq1,yq2,yq3,yq4,yl,ys0,ys1,Nat.reduceAdd,Nat.reduceMul,Nat.reduceSub,Nat.reduceBEq,Nat.reduceEqDiff,Nat.reduceLT,Nat.reduceLeDiff,reduceIte,Int.reduceAdd,Int.reduceSub,Int.reduceMul,Int.reduceLT,Int.reduceLE,Int.reduceEq,Int.reduceToNat,Int.reduceNeg,fitB,newC,endD,endR,yrg,g13,w2]
    have fx3 : FrX ab H H2 := (fx.putU (Nat.le_refl _) _).trans fx2
    refine ⟨K - (k + 1), by omega, k + 1, rfl, by omega, ?_, ?_, ?_, ?_, fx3, by omega, hga2, hw2⟩
    · simp (disch := (first | (simp only [ne_eq,Nat.reduceEqDiff,not_false_eq_true,Nat.reduceLT]; done) | omega | (simp only [yz] <;> omega) | fail)) only [yg,Nat.reduceAdd,Nat.reduceEqDiff,Nat.reduceLT]
    · simp (disch := (first | (simp only [ne_eq,Nat.reduceEqDiff,not_false_eq_true,Nat.reduceLT]; done) | omega | (simp only [yz] <;> omega) | fail)) only [yg,Nat.reduceAdd,Nat.reduceEqDiff,Nat.reduceLT,g12]
    · simp (disch := (first | (simp only [ne_eq,Nat.reduceEqDiff,not_false_eq_true,Nat.reduceLT]; done) | omega | (simp only [yz] <;> omega) | fail)) only [yg,Nat.reduceAdd,Nat.reduceEqDiff,Nat.reduceLT,g3]
    · simp (disch := (first | (simp only [ne_eq,Nat.reduceEqDiff,not_false_eq_true,Nat.reduceLT]; done) | omega | (simp only [yz] <;> omega) | fail)) only [yg,Nat.reduceAdd,Nat.reduceEqDiff,Nat.reduceLT,g0]
  · have hke : k = K := by have := of_decide_eq_false hA; omega
    subst hke
    simp (disch := (first | (simp only [ne_eq,Nat.reduceEqDiff,not_false_eq_true,Nat.reduceLT]; done) | omega | (simp only [yz] <;> omega) | fail)) only [↓yp,yq0,yq1,yq2,yq3,yq4,yl,ys0,ys1,Nat.reduceAdd,Nat.reduceMul,Nat.reduceSub,Nat.reduceBEq,Nat.reduceEqDiff,Nat.reduceLT,Nat.reduceLeDiff,reduceIte,Int.reduceAdd,Int.reduceSub,Int.reduceMul,Int.reduceLT,Int.reduceLE,Int.reduceEq,Int.reduceToNat,Int.reduceNeg,fitB,newC,endD,endR,yrg]
    simp (disch := (first | (simp only [ne_eq,Nat.reduceEqDiff,not_false_eq_true,Nat.reduceLT]; done) | omega | (simp only [yz] <;> omega) | fail)) only [resV_none,optK_some,true_and]
    exact ⟨fx, hga1⟩
end
end Go.Am
/- Shares: what houses pay when all pennies are paid. -/
namespace Go.Am
open Go.Proofs
variable {T : Tab} {P : Program} {N L n : Nat} {e : VT} {H H' H'' : AHeap} {Q : Bool → Value → AHeap → Prop}
theorem gt_round2 {p q j : Nat} {v w : Value} : gt (zipSet (lst n e) [(p, v), (q, w)]).length (env (zipSet (lst n e) [(p, v), (q, w)]) 0 .nil) j = bif Nat.blt j n then (if j = q then w else if j = p then v else e.get j) else undef := by
  unfold gt
  rw [env_get]
  simp only [zipSet,List.length_set,lst_length,Nat.zero_le,if_true,Nat.sub_zero,VT.get]
  cases hj : Nat.blt j n
  · rfl
  · have hj' : j < n := lt_of_blt hj
    simp only [cond_true]
    rw [List.getElem?_set]
    by_cases h : q = j
    · subst h
      simp [hj']
    · rw [if_neg h, List.getElem?_set]
      by_cases h2 : p = j
      · subst h2
        simp [hj', Ne.symm h]
      · rw [if_neg h2, lst_get, if_pos hj']
        simp [Ne.symm h, Ne.symm h2]
theorem yield_run2 {l p q : Nat} {x y : Value} {assign body : Code} {d : Nat} {pe : Option Code} (hg : H.get l = .loop .ready pe (lst n e) #[p, q] assign body d) (hp : p < n) (hq : q < n) (hpq : p ≠ q) (hL : L ≤ l)
    (hw : ∀ e', gt n e' p = x → gt n e' q = y → (∀ j, j ≠ p → j ≠ q → gt n e' j = gt n e j) → W T P N (some l) assign L ⟨n, e', H, []⟩ (midY T P N l L body Q)) : resK (ayield (aexec T P N) l [x, y] H) L Q := by
  refine yield_run hg rfl hL ?_
  have hz : zipSet (lst n e) ((#[p, q] : Array Nat).toList.zip [x, y]) = zipSet (lst n e) [(p, x), (q, y)] := rfl
  have hlen : (zipSet (lst n e) [(p, x), (q, y)]).length = n := by rw [zipSet_length, lst_length]
  have hr := fun j => gt_round2 (n := n) (e := e) (p := p) (q := q) (j := j) (v := x) (w := y)
  rw [hz, hlen]
  simp only [hlen] at hr
  refine hw _ ?_ ?_ fun j h1 h2 => ?_
  · rw [hr, blt_true hp, cond_true, if_neg hpq, if_pos rfl]
  · rw [hr, blt_true hq, cond_true, if_pos rfl]
  · rw [hr, if_neg h2, if_neg h1]; rfl
theorem binV_nil_some {ty : TypeId} {x y : Operand} {l c z : Nat} {a : Addr} (h : esS T ty = some z) : binV T P .eql ty x y (.slice (some a) l c) (.slice none 0 0) = some (.bool false) := by
  unfold esS at h
  unfold binV nilV
  rw [show gr (.slice (some a) l c) = false from rfl]
  simp only [Bool.false_and,cond_false]
  cases hu : T.und ty with
  | none => rw [hu] at h; cases h
  | some d => cases d <;> first | rfl | (rw [hu] at h; cases h)
/-- Clone. -/
theorem c76 {a : Addr} {cap : Nat} {l : List Int} (hs : Rw intE H (some a) l) (hne : l ≠ []) (hl : l.length ≤ 65) (hL : L ≤ H.size) {M : Nat} (hM : 60 ≤ M)
    (hq : ∀ k H', Fr H H' → H.size ≤ k → k < H'.size → Rw intE H' (some ⟨k, 0, none⟩) l → Q false (.slice (some ⟨k, 0, none⟩) l.length (OPEN + 1)) H') : resK (acall tabA (aexec tabA Try.prog M) 76 [.slice (some a) l.length cap] H) L Q := by
  obtain ⟨N, rfl⟩ : ∃ N, M = N + 60 := ⟨M - 60, by omega⟩
  obtain ⟨b, o, c, e, -⟩ := hs.get hne
  cases e
  refine call_fls (R := fun v H' => ∃ k, v = .slice (some ⟨k, 0, none⟩) l.length (OPEN + 1) ∧ Fr H H' ∧ H.size ≤ k ∧ k < H'.size ∧ Rw intE H' (some ⟨k, 0, none⟩) l) (k := 8) (rs := [.tmp 2]) rfl fn_76 rfl rfl rfl hL ?_ ?_ ?_
  · have hpos : 0 < l.length := List.length_pos_iff.2 hne
    simp (disch := (first | (simp only [ne_eq,Nat.reduceEqDiff,not_false_eq_true,Nat.reduceLT]; done) | omega | (simp only [yz] <;> omega) | fail)) only [↓yp,yq0,yq1,yq2,yq3,yq4,yl,ys0,ys1,Nat.reduceAdd,Nat.reduceMul,Nat.reduceSub,Nat.reduceBEq,Nat.reduceEqDiff,Nat.reduceLT,Nat.reduceLeDiff,reduceIte,Int.reduceAdd,Int.reduceSub,Int.reduceMul,Int.reduceLT,Int.reduceLE,Int.reduceEq,Int.reduceToNat,Int.reduceNeg,fitB,newC,endD,endR,yrg,binV_nil_some st_esS_40,A_buildSlice st_brS_40_0]
    rw [apK_empty (H := _) (n := l.length) st_apS_40 ((hs.fr (Fr.alloc _ _)).src hne) hpos (by omega) (by omega) (one_fl l) (c₀ := []) (by simp (disch := (first | (simp only [ne_eq,Nat.reduceEqDiff,not_false_eq_true,Nat.reduceLT]; done) | omega | (simp only [yz] <;> omega) | fail)) only [yg,Nat.reduceAdd,Nat.reduceEqDiff,Nat.reduceLT])]
    simp (disch := (first | (simp only [ne_eq,Nat.reduceEqDiff,not_false_eq_true,Nat.reduceLT]; done) | omega | (simp only [yz] <;> omega) | fail)) only [↓yp,yq0,yq1,yq2,yq3,yq4,yl,ys0,ys1,Nat.reduceAdd,Nat.reduceMul,Nat.reduceSub,Nat.reduceBEq,Nat.reduceEqDiff,Nat.reduceLT,Nat.reduceLeDiff,reduceIte,Int.reduceAdd,Int.reduceSub,Int.reduceMul,Int.reduceLT,Int.reduceLE,Int.reduceEq,Int.reduceToNat,Int.reduceNeg,fitB,newC,endD,endR,yrg]
    exact ⟨_, rfl, by (repeat (first | exact Fr.refl _ | assumption | refine Fr.allocd ?_ _ | refine Fr.kill ?_ (by first | assumption | omega) | refine Fr.put ?_ (by first | omega | (simp only [yz] <;> omega)) _)), by (first | omega | (simp only [yz] <;> omega)), by (first | omega | (simp only [yz] <;> omega)), Rw.of (r := []) (by (first | omega | (simp only [yz] <;> omega))) (by simp (disch := (first | (simp only [ne_eq,Nat.reduceEqDiff,not_false_eq_true,Nat.reduceLT]; done) | omega | (simp only [yz] <;> omega) | fail)) only [yg,Nat.reduceAdd,Nat.reduceEqDiff,Nat.reduceLT]; rfl) (by rw [List.append_nil])⟩
  · rintro v H' ⟨k, rfl, -⟩; rfl
  · rintro v H' ⟨k, rfl, h1, h2, h3, h4⟩
    exact hq _ _ h1 h2 h3 h4
section
variable {p : Int} {a : Option Addr} {c g K : Nat} {hs : List Hs} {ps : List Int} {cp : List Value} {bef : Nat → Int → Nat → Int → Bool}
/-- pennies. -/
theorem c116 (hL : L ≤ H.size) {M : Nat} (hM : 30 ≤ M) (hq : Q false (.func (.func 129) ⟨[]⟩ ⟨[.pointer (some ⟨H.size, 0, none⟩)]⟩) (H.alloc (.rw (wkC p a n c ps g cp) 119 false []))) :
    resK (acall tabA (aexec tabA Try.prog M) 116 [.agg ⟨wkC p a n c ps g cp⟩] H) L Q := by
  obtain ⟨N, rfl⟩ : ∃ N, M = N + 30 := ⟨M - 30, by omega⟩
  refine call_fls (R := fun v H' => v = .func (.func 129) ⟨[]⟩ ⟨[.pointer (some ⟨H.size, 0, none⟩)]⟩ ∧ H' = H.alloc (.rw (wkC p a n c ps g cp) 119 false [])) (k := 4) (rs := [.tmp 2]) rfl fn_116 rfl rfl rfl hL ?_ ?_ ?_
  · simp (disch := (first | (simp only [ne_eq,Nat.reduceEqDiff,not_false_eq_true,Nat.reduceLT]; done) | omega | (simp only [yz] <;> omega) | fail)) only [↓yp,yq0,yq1,yq2,yq3,yq4,yl,ys0,ys1,Nat.reduceAdd,Nat.reduceMul,Nat.reduceSub,Nat.reduceBEq,Nat.reduceEqDiff,Nat.reduceLT,Nat.reduceLeDiff,reduceIte,Int.reduceAdd,Int.reduceSub,Int.reduceMul,Int.reduceLT,Int.reduceLE,Int.reduceEq,Int.reduceToNat,Int.reduceNeg,fitB,newC,endD,endR,yrg]
  · rintro v H' ⟨rfl, -⟩; rfl
  · rintro v H' ⟨rfl, rfl⟩
    exact hq
set_option maxHeartbeats 8000000 in
/-- shares. -/
theorem c81 (h : Wk H a hs ps) (hf : FO H g hs.length cp bef) (r : Run bef hs ps K) (hK : p - isum ps = (K : Nat)) (hK5 : K ≤ 500) (hL : L ≤ H.size) {M : Nat} (hM : 4000 ≤ M)
    (hq : ∀ b H', Fr H H' → H.size ≤ b → Rw intE H' (some ⟨b, 0, none⟩) ((runW bef hs ps K).take hs.length) → Q false (.slice (some ⟨b, 0, none⟩) hs.length (OPEN + 1)) H') :
    resK (acall tabA (aexec tabA Try.prog M) 81 [.agg ⟨wkC p a hs.length c ps g cp⟩] H) L Q := by
  obtain ⟨N, rfl⟩ : ∃ N, M = N + 4000 := ⟨M - 4000, by omega⟩
  refine call_keepD tabA_fr (k := 21) (rs := [.tmp 2]) (R := fun v H' => ∃ b, v = .slice (some ⟨b, 0, none⟩) hs.length (OPEN + 1) ∧ Fr H H' ∧ H.size ≤ b ∧ Rw intE H' (some ⟨b, 0, none⟩) ((runW bef hs ps K).take hs.length)) rfl fn_81 rfl rfl rfl hL ?_ ?_ ?_
  rotate_left
  · rintro v H' ⟨b, rfl, h1, h2, h3⟩; exact hq _ _ h1 h2 h3
  · rintro v H' ⟨b, rfl, -⟩ hg _; cases hg
  have h6 := h.six
  have hlen := h.len
  have ht6 : (tv ps).length = 6 := by rw [tv_len, h6]
  simp (disch := (first | (simp only [ne_eq,Nat.reduceEqDiff,not_false_eq_true,Nat.reduceLT]; done) | omega | (simp only [yz] <;> omega) | fail)) only [↓yp,yq0,yq1,yq2,yq3,yq4,yl,ys0,ys1,Nat.reduceAdd,Nat.reduceMul,Nat.reduceSub,Nat.reduceBEq,Nat.reduceEqDiff,Nat.reduceLT,Nat.reduceLeDiff,reduceIte,Int.reduceAdd,Int.reduceSub,Int.reduceMul,Int.reduceLT,Int.reduceLE,Int.reduceEq,Int.reduceToNat,Int.reduceNeg,fitB,newC,endD,endR,yrg,wk_arr h6,wk_all h6,ht6,one_tv]
  refine c116 (by (first | omega | (simp only [yz] <;> omega))) (by omega) ?_
  simp (disch := (first | (simp only [ne_eq,Nat.reduceEqDiff,not_false_eq_true,Nat.reduceLT]; done) | omega | (simp only [yz] <;> omega) | fail)) only [↓yp,yq0,yq1,yq2,yq3,yq4,yl,ys0,ys1,Nat.reduceAdd,Nat.reduceMul,Nat.reduceSub,Nat.reduceBEq,Nat.reduceEqDiff,Nat.reduceLT,Nat.reduceLeDiff,reduceIte,Int.reduceAdd,Int.reduceSub,Int.reduceMul,Int.reduceLT,Int.reduceLE,Int.reduceEq,Int.reduceToNat,Int.reduceNeg,fitB,newC,endD,endR,yrg]
  obtain ⟨G, hG⟩ : ∃ G, (((H.alloc (.rw (wkC p a hs.length c ps g cp) 119 false [])).alloc (.rw [.int .i64 0, .int .i64 0, .int .i64 0, .int .i64 0, .int .i64 0, .int .i64 0] 116 false [])).put (H.size + 1) (.rw (tv ps) 116 false [])).alloc (.rw (wkC p a hs.length c ps g cp) 119 false []) = G := ⟨_, rfl⟩
  have zG : G.size = H.size + 1 + 1 + 1 := by rw [← hG]; (first | omega | (simp only [yz] <;> omega))
  have G0 : G.get H.size = .rw (wkC p a hs.length c ps g cp) 119 false [] := by rw [← hG]; simp (disch := (first | (simp only [ne_eq,Nat.reduceEqDiff,not_false_eq_true,Nat.reduceLT]; done) | omega | (simp only [yz] <;> omega) | fail)) only [yg,Nat.reduceAdd,Nat.reduceEqDiff,Nat.reduceLT]
  have G1 : G.get (H.size + 1) = .rw (tv ps) 116 false [] := by rw [← hG]; simp (disch := (first | (simp only [ne_eq,Nat.reduceEqDiff,not_false_eq_true,Nat.reduceLT]; done) | omega | (simp only [yz] <;> omega) | fail)) only [yg,Nat.reduceAdd,Nat.reduceEqDiff,Nat.reduceLT]
  have G2 : G.get (H.size + 1 + 1) = .rw (wkC p a hs.length c ps g cp) 119 false [] := by rw [← hG]; simp (disch := (first | (simp only [ne_eq,Nat.reduceEqDiff,not_false_eq_true,Nat.reduceLT]; done) | omega | (simp only [yz] <;> omega) | fail)) only [yg,Nat.reduceAdd,Nat.reduceEqDiff,Nat.reduceLT]
  have fG : Fr H G := by rw [← hG]; (repeat (first | exact Fr.refl _ | assumption | refine Fr.allocd ?_ _ | refine Fr.kill ?_ (by first | assumption | omega) | refine Fr.put ?_ (by first | omega | (simp only [yz] <;> omega)) _))
  rw [hG]
  clear hG
  refine W_abs (F := fun e H' => gt 21 e 1 = .pointer (some ⟨H.size, 0, none⟩) ∧ gt 21 e 3 = .pointer (some ⟨H.size + 1, 0, none⟩) ∧ gt 21 e 9 = .func (.func 129) ⟨[]⟩ ⟨[.pointer (some ⟨H.size + 1 + 1, 0, none⟩)]⟩ ∧ H' = G) ⟨by simp (disch := (first | (simp only [ne_eq,Nat.reduceEqDiff,not_false_eq_true,Nat.reduceLT]; done) | omega | (simp only [yz] <;> omega) | fail)) only [yg,Nat.reduceAdd,Nat.reduceEqDiff,Nat.reduceLT], by simp (disch := (first | (simp only [ne_eq,Nat.reduceEqDiff,not_false_eq_true,Nat.reduceLT]; done) | omega | (simp only [yz] <;> omega) | fail)) only [yg,Nat.reduceAdd,Nat.reduceEqDiff,Nat.reduceLT], by simp (disch := (first | (simp only [ne_eq,Nat.reduceEqDiff,not_false_eq_true,Nat.reduceLT]; done) | omega | (simp only [yz] <;> omega) | fail)) only [yg,Nat.reduceAdd,Nat.reduceEqDiff,Nat.reduceLT], rfl⟩ ?_
  rintro e H1 ⟨g1, g3, g9, rfl⟩
  obtain ⟨asg, hasg⟩ : ∃ x, sub [true, true, false, true, false, false] (bodyOf Try.f81) = x := ⟨_, rfl⟩
  refine W_range (f := 129) (first := []) (cap := [.pointer (some ⟨H.size + 1 + 1, 0, none⟩)]) (by rw [aenv_tmp, g9]) (by omega) ?_
  have hG5 : ((H1.alloc .defer).alloc (.loop .ready none (lst 21 e) #[10, 11] .skip .skip H1.size)).size = H1.size + 2 := by (first | omega | (simp only [yz] <;> omega))
  refine c129 (K₀ := 200) (Hw := H) (ab := H.size + 1) (bw := H.size + 1 + 1) (lb := H1.size + 1) (p := p) (c := c) (K := K) h hf r ?_ (by omega) (by (first | omega | (simp only [yz] <;> omega))) (by omega) ?_ ?_ hK hK5 (by omega) ?_ (by omega) ?_
  · exact (fG.allocd _).allocd _
  · rw [get_alloc_lt (by (first | omega | (simp only [yz] <;> omega))), get_alloc_lt (by omega)]; exact G2
  · rw [get_alloc_lt (by (first | omega | (simp only [yz] <;> omega))), get_alloc_lt (by omega)]; exact G1
  · intro M hM k hk H' fx ga
    obtain ⟨nn, hnn⟩ : ∃ nn, nxt bef hs (runW bef hs ps k) = nn := ⟨_, rfl⟩
    have hnx := r.nx k hk
    have h6k := runW_len (bef := bef) (hs := hs) h6 k
    obtain ⟨x, hx⟩ : ∃ x, (runW bef hs ps k).getD nn 0 = x := ⟨_, rfl⟩
    have hst : (runW bef hs ps k).set nn (x + 1) = runW bef hs ps (k + 1) := by show _ = stepW bef hs (runW bef hs ps k); unfold stepW; rw [hnn, hx]
    rw [hnn] at hnx
    simp only [hnn,hx]
    have hgl := fx.same (H1.size + 1) (by (first | omega | (simp only [yz] <;> omega))) (by omega)
    rw [get_alloc_eq (by (first | omega | (simp only [yz] <;> omega)))] at hgl
    obtain ⟨F, rfl⟩ : ∃ F, M = F + 200 := ⟨M - 200, by omega⟩
    refine yield_run2 hgl (by omega) (by omega) (by omega) (by omega) ?_
    intro e' g10 g11 ho
    have g3' := (ho 3 (by omega) (by omega)).trans g3
    have hz' := fx.size
    simp only [size_alloc] at hz'
    have hset : List.take nn (tv (runW bef hs ps k)) ++ [.int .i64 (x + 1)] ++ List.drop (nn + 1) (tv (runW bef hs ps k)) = tv (runW bef hs ps (k + 1)) := by
      rw [← hst]
      exact newC_tv (by omega)
    have hlk : (tv (runW bef hs ps k)).length = 6 := by rw [tv_len, h6k]
    have hfit : decide (nn ≤ 5) = true := by simp; omega
    simp (disch := (first | (simp only [ne_eq,Nat.reduceEqDiff,not_false_eq_true,Nat.reduceLT]; done) | omega | (simp only [yz] <;> omega) | fail)) only [↓yp,yq0,yq1,yq2,yq3,yq4,yl,ys0,ys1,Nat.reduceAdd,Nat.reduceMul,Nat.reduceSub,Nat.reduceBEq,Nat.reduceEqDiff,Nat.reduceLT,Nat.reduceLeDiff,reduceIte,Int.reduceAdd,Int.reduceSub,Int.reduceMul,Int.reduceLT,Int.reduceLE,Int.reduceEq,Int.reduceToNat,Int.reduceNeg,fitB,newC,endD,endR,yrg,g10,g11]
    refine midY_gen hgl ?_
    intro bz hbz
    have hga' : (H'.put (H1.size + 1) bz).get (H.size + 1) = .rw (tv (runW bef hs ps k)) 116 false [] := by rw [get_put_ne (by omega)]; exact ga
    simp (disch := (first | (simp only [ne_eq,Nat.reduceEqDiff,not_false_eq_true,Nat.reduceLT]; done) | omega | (simp only [yz] <;> omega) | fail)) only [↓yp,yq0,yq1,yq2,yq3,yq4,yl,ys0,ys1,Nat.reduceAdd,Nat.reduceMul,Nat.reduceSub,Nat.reduceBEq,Nat.reduceEqDiff,Nat.reduceLT,Nat.reduceLeDiff,reduceIte,Int.reduceAdd,Int.reduceSub,Int.reduceMul,Int.reduceLT,Int.reduceLE,Int.reduceEq,Int.reduceToNat,Int.reduceNeg,fitB,newC,endD,endR,yrg,g3',A_indexArr st_arS_116,hga',hlk,hfit,hset]
    subst hbz
    refine endY_normal (by rw [get_put_ne (by omega)]; exact get_put_same (by omega)) ?_
    refine ⟨rfl, ⟨by simp only [size_put]; omega, fun j h1 h2 => ?_⟩, by rw [get_put_ne (by omega), get_put_same (by rw [size_put]; omega)]⟩
    by_cases hj : j = H1.size + 1
    · subst hj
      rw [get_put_same (by simp only [size_put]; omega), hgl]
    · rw [get_put_ne hj, get_put_ne h2, get_put_ne hj]
  · intro f H2 fx ga
    have hgl := fx.same (H1.size + 1) (by (first | omega | (simp only [yz] <;> omega))) (by omega)
    rw [get_alloc_eq (by (first | omega | (simp only [yz] <;> omega)))] at hgl
    have hz' := fx.size
    simp only [size_alloc] at hz'
    refine ⟨.ready, _, _, _, _, _, (fun h => by cases h), hgl, ?_⟩
    have k0 := fx.same H.size (by (first | omega | (simp only [yz] <;> omega))) (by omega)
    rw [get_alloc_lt (by (first | omega | (simp only [yz] <;> omega))), get_alloc_lt (by omega), G0] at k0
    have kd := fx.same H1.size (by (first | omega | (simp only [yz] <;> omega))) (by omega)
    rw [get_alloc_lt (by (first | omega | (simp only [yz] <;> omega))), get_alloc_eq rfl] at kd
    have kf : ∀ j, j < H.size → H2.get j = H.get j := fun j hj => by rw [fx.same j (by (first | omega | (simp only [yz] <;> omega))) (by omega), get_alloc_lt (by (first | omega | (simp only [yz] <;> omega))), get_alloc_lt (by omega)]; exact fG.same j hj
    generalize hH3 : H2.put (H1.size + 1) _ = H3
    have z3 : H3.size = H2.size := by rw [← hH3, size_put]
    have m : ∀ j, j ≠ H1.size + 1 → H3.get j = H2.get j := fun j hj => by rw [← hH3, get_put_ne hj]
    have k03 := (m _ (by omega)).trans k0
    have kd3 := (m _ (by omega)).trans kd
    have ga3 := (m _ (by omega)).trans ga
    clear hH3 hgl fx
    simp (disch := (first | (simp only [ne_eq,Nat.reduceEqDiff,not_false_eq_true,Nat.reduceLT]; done) | omega | (simp only [yz] <;> omega) | fail)) only [↓yp,yq0,yq1,yq2,yq3,yq4,yl,ys0,ys1,Nat.reduceAdd,Nat.reduceMul,Nat.reduceSub,Nat.reduceBEq,Nat.reduceEqDiff,Nat.reduceLT,Nat.reduceLeDiff,reduceIte,Int.reduceAdd,Int.reduceSub,Int.reduceMul,Int.reduceLT,Int.reduceLE,Int.reduceEq,Int.reduceToNat,Int.reduceNeg,fitB,newC,endD,endR,yrg,g1,g3,k03,wk_1,lenV_slice st_esS_37]
    refine A_cut_of (b := H.size + 1) (o := 0) (s := none) (i := (hs.length : Nat)) st_arS_116 (by simp (disch := (first | (simp only [ne_eq,Nat.reduceEqDiff,not_false_eq_true,Nat.reduceLT]; done) | omega | (simp only [yz] <;> omega) | fail)) only [↓yp,yq0,yq1,yq2,yq3,yq4,yl,ys0,ys1,Nat.reduceAdd,Nat.reduceMul,Nat.reduceSub,Nat.reduceBEq,Nat.reduceEqDiff,Nat.reduceLT,Nat.reduceLeDiff,reduceIte,Int.reduceAdd,Int.reduceSub,Int.reduceMul,Int.reduceLT,Int.reduceLE,Int.reduceEq,Int.reduceToNat,Int.reduceNeg,fitB,newC,endD,endR,yrg,g3]) (by simp (disch := (first | (simp only [ne_eq,Nat.reduceEqDiff,not_false_eq_true,Nat.reduceLT]; done) | omega | (simp only [yz] <;> omega) | fail)) only [↓yp,yq0,yq1,yq2,yq3,yq4,yl,ys0,ys1,Nat.reduceAdd,Nat.reduceMul,Nat.reduceSub,Nat.reduceBEq,Nat.reduceEqDiff,Nat.reduceLT,Nat.reduceLeDiff,reduceIte,Int.reduceAdd,Int.reduceSub,Int.reduceMul,Int.reduceLT,Int.reduceLE,Int.reduceEq,Int.reduceToNat,Int.reduceNeg,fitB,newC,endD,endR,yrg]) (by omega) (by unfold OPEN; omega) (by omega) (by omega) ?_
    rw [Int.toNat_natCast]
    have h6k := runW_len (bef := bef) (hs := hs) h6 K
    have htl : ((runW bef hs ps K).take hs.length).length = hs.length := by rw [List.length_take, h6k]; omega
    have hrw : Rw intE H3 (some ⟨H.size + 1, 0, none⟩) ((runW bef hs ps K).take hs.length) := Rw.of (r := tv ((runW bef hs ps K).drop hs.length)) (c := tv (runW bef hs ps K)) (by omega) (by rw [ga3]; rfl) (by rw [fl_int]; unfold tv; rw [← List.map_append, List.take_append_drop])
    simp (disch := (first | (simp only [ne_eq,Nat.reduceEqDiff,not_false_eq_true,Nat.reduceLT]; done) | omega | (simp only [yz] <;> omega) | fail)) only [↓yp,yq0,yq1,yq2,yq3,yq4,yl,ys0,ys1,Nat.reduceAdd,Nat.reduceMul,Nat.reduceSub,Nat.reduceBEq,Nat.reduceEqDiff,Nat.reduceLT,Nat.reduceLeDiff,reduceIte,Int.reduceAdd,Int.reduceSub,Int.reduceMul,Int.reduceLT,Int.reduceLE,Int.reduceEq,Int.reduceToNat,Int.reduceNeg,fitB,newC,endD,endR,yrg]
    have h76 := fun (Q : Bool → Value → AHeap → Prop) (F : Nat) (hF : 60 ≤ F) => c76 (cap := 6) (L := L) (Q := Q) (M := F) hrw (fun h0 => by rw [h0] at htl; simp at htl; omega) (by omega) (by omega) hF
    rw [htl] at h76
    refine h76 _ _ (by omega) ?_
    intro k H4 fr4 k1 k2 r4
    have f4 := fr4.size
    have kd4 := (fr4.same H1.size (by omega)).trans kd3
    simp (disch := (first | (simp only [ne_eq,Nat.reduceEqDiff,not_false_eq_true,Nat.reduceLT]; done) | omega | (simp only [yz] <;> omega) | fail)) only [↓yp,yq0,yq1,yq2,yq3,yq4,yl,ys0,ys1,Nat.reduceAdd,Nat.reduceMul,Nat.reduceSub,Nat.reduceBEq,Nat.reduceEqDiff,Nat.reduceLT,Nat.reduceLeDiff,reduceIte,Int.reduceAdd,Int.reduceSub,Int.reduceMul,Int.reduceLT,Int.reduceLE,Int.reduceEq,Int.reduceToNat,Int.reduceNeg,fitB,newC,endD,endR,yrg]
    refine ⟨fun q hq => ?_, (show L ≤ H4.size by omega), H4.put H1.size .dead, by rw [atake_cons kd4, atake_nil], .slice (some ⟨k, 0, none⟩) hs.length (OPEN + 1), ?_, k, rfl, ⟨by rw [size_put]; omega, fun q hq => ?_⟩, by omega, ?_⟩
    · simp only [List.mem_singleton] at hq
      subst hq
      omega
    · simp (disch := (first | (simp only [ne_eq,Nat.reduceEqDiff,not_false_eq_true,Nat.reduceLT]; done) | omega | (simp only [yz] <;> omega) | fail)) only [↓yp,yq0,yq1,yq2,yq3,yq4,yl,ys0,ys1,Nat.reduceAdd,Nat.reduceMul,Nat.reduceSub,Nat.reduceBEq,Nat.reduceEqDiff,Nat.reduceLT,Nat.reduceLeDiff,reduceIte,Int.reduceAdd,Int.reduceSub,Int.reduceMul,Int.reduceLT,Int.reduceLE,Int.reduceEq,Int.reduceToNat,Int.reduceNeg,fitB,newC,endD,endR,yrg]
    · rw [get_put_ne (by omega), fr4.same _ (by omega), m _ (by omega)]
      exact kf q hq
    · have hkne : k ≠ H1.size := by omega
      obtain ⟨b, o, cc, e1, e2, e3, e4⟩ := r4.get (fun h0 => by rw [h0] at htl; simp at htl; omega)
      cases e1
      exact ⟨fun _ => ⟨_, _, cc, rfl, by rw [size_put]; exact e2, by rw [get_put_ne hkne]; exact e3, e4⟩⟩
end
end Go.Am
