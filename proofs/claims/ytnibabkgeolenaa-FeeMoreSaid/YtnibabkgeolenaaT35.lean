/- A bill at work: its cells, which house can pay, who comes first. -/
import Derived.Test.YtnibabkgeolenaaT34
set_option linter.unusedSimpArgs false
set_option linter.unusedVariables false
namespace Go.Am
open Go.Proofs
variable {T : Tab} {P : Program} {N L : Nat} {H H' H'' : AHeap} {Q : Bool → Value → AHeap → Prop}
section
variable {ex : Exec} {t : Operand → Option Value} {ty : TypeId} {x : Operand} {lo hi mx : Option Operand}
theorem A_slice_of {v : Value} (h : aSlice T t H ty x lo hi mx = some (v, H, H.size)) (hL : L ≤ H.size) (hq : Q true v H) : A T P ex t H L (.slice ty x lo hi mx) Q := by
  unfold A
  show (match still (aSlice T t H ty x lo hi mx) with
    | some (b, v, H', m) => L ≤ m ∧ Q b v H'
    | none => False)
  rw [h]
  exact ⟨hL, hq⟩
theorem esS_split {z : Nat} (hz : esS T ty = some z) : ∃ e i, T.und ty = some (.slice e) ∧ T.inf e = some i ∧ i.size = z := by
  unfold esS at hz
  cases hu : T.und ty with
  | none => rw [hu] at hz; cases hz
  | some d =>
    rw [hu] at hz
    cases d with
    | slice e =>
      unfold inS at hz
      simp only at hz
      cases hi : T.inf e with
      | none => rw [hi] at hz; cases hz
      | some i => rw [hi] at hz; cases hz; exact ⟨e, i, rfl, hi, rfl⟩
    | _ => cases hz
theorem blt_open {z : Nat} : Nat.blt (OPEN + z) OPEN = false := by
  cases h : Nat.blt (OPEN + z) OPEN with
  | false => rfl
  | true => have := lt_of_blt h; omega
theorem aSlice_open {z b o n l h m kn : Nat} {vl vh : Option Int} (hz : esS T ty = some z) (hx : t x = some (.slice (some ⟨b, o, none⟩) n (OPEN + z))) (hl : abound t lo = some vl) (hh : abound t hi = some vh) (hkn : known H ⟨b, o, none⟩ n z (OPEN + z) = kn) (hab : abounds n kn vl vh none = some (l, h, m)) (hlt : l < kn ∨ l = 0) :
    aSlice T t H ty x lo hi none = some (.slice (some ⟨b, o + l * z, none⟩) (h - l) (OPEN + z), H, H.size) := by
  obtain ⟨e, i, hu, hi', rfl⟩ := esS_split hz
  have hc : (Nat.blt l kn || Nat.beq l 0) = true := by
    rcases hlt with h | rfl
    · rw [blt_true h]; rfl
    · simp
  unfold aSlice
  simp only [hx,hu,hl,hh,show abound t none = some none from rfl,hi',blt_open,cond_false,hkn,hab,Option.isSome_none,hc,Bool.true_and,show Nat.beq (OPEN + i.size) (OPEN + i.size) = true by simp,cond_true]
theorem aSlice_tail {z b o n : Nat} {vl : Int} (hz : esS T ty = some z) (hx : t x = some (.slice (some ⟨b, o, none⟩) n (OPEN + z))) (hl : abound t lo = some (some vl)) (hkn : known H ⟨b, o, none⟩ n z (OPEN + z) = n) (hvl : vl = n) (h1 : o < OPEN) (h2 : n < OPEN) (h3 : z < OPEN) (h0 : 0 < n) :
    aSlice T t H ty x lo none none = some (.chan (some (tailZ b o n z)), H, H.size) := by
  obtain ⟨e, i, hu, hi', rfl⟩ := esS_split hz
  have hc : (Nat.blt n n || Nat.beq n 0) = false := by
    have : Nat.blt n n = false := by
      cases h : Nat.blt n n with
      | false => rfl
      | true => have := lt_of_blt h; omega
    rw [this, beq_ne (by omega)]; rfl
  have hab : abounds n n (some vl) none none = some (n, n, n) := by
    subst hvl
    delta abounds
    simp
  unfold aSlice
  simp only [hx,hu,hl,show abound t none = some none from rfl,hi',blt_open,cond_false,hkn,hab,Option.isSome_none,hc,Bool.false_and,show Nat.beq (OPEN + i.size) (OPEN + i.size) = true by simp,show Nat.beq n n = true by simp,blt_true h1,blt_true h2,blt_true h3,Bool.and_self,cond_true]
section
variable {y y1 y2 y3 : Operand} {z b o n kn : Nat}
theorem abound_int {k : IntKind} {i : Int} (h : t y = some (.int k i)) : abound t (some y) = some (some i) := by
  show (match t y with
    | some (.int _ n) => some (some n)
    | _ => none) = _
  rw [h]
theorem abs_of0 {i : Nat} (h1 : i ≤ n) : abounds n kn (some (i : Int)) none none = some (i, n, kn) := by
  delta abounds
  simp [h1]
theorem A_sliceR {i : Nat} (hz : esS T ty = some z) (hx : t x = some (.slice (some ⟨b, o, none⟩) n (OPEN + z))) (h2 : t y = some (.int .i64 i)) (hkn : known H ⟨b, o, none⟩ n z (OPEN + z) = kn) (hin : i ≤ n) (hik : i < kn)
    (hL : L ≤ H.size) (hq : Q true (.slice (some ⟨b, o + i * z, none⟩) (n - i) (OPEN + z)) H) : A T P ex t H L (.slice ty x (some y) none none) Q :=
  A_slice_of (aSlice_open (H := H) (hi := none) hz hx (abound_int h2) rfl hkn (abs_of0 hin) (.inl hik)) hL hq
theorem A_sliceT {i : Nat} (hz : esS T ty = some z) (hx : t x = some (.slice (some ⟨b, o, none⟩) n (OPEN + z))) (h2 : t y = some (.int .i64 i)) (hkn : known H ⟨b, o, none⟩ n z (OPEN + z) = n) (hin : i = n) (ho : o < OPEN) (hn : n < OPEN) (hzO : z < OPEN) (h0 : 0 < n)
    (hL : L ≤ H.size) (hq : Q true (.chan (some (tailZ b o n z))) H) : A T P ex t H L (.slice ty x (some y) none none) Q :=
  A_slice_of (aSlice_tail (H := H) hz hx (abound_int h2) hkn (by rw [hin]) ho hn hzO h0) hL hq
end
end
section
variable {ex : Exec} {t : Operand → Option Value}
/-- A copy of a row into another one. -/
theorem A_copy_of {ty : TypeId} {tys : List TypeId} {d s : Operand} {z b o dl dc sl sc : Nat} {sp : Option Nat} {sa : Addr} {l c : List Value} {e : TypeId} {op : Bool} (hz : esS T ty = some z) (hd : t d = some (.slice (some ⟨b, o, sp⟩) dl dc)) (hs : t s = some (.slice (some sa) sl sc))
    (hsrc : srcCells H sa (Nat.min sl dl * z) = some l) (hb : H.get b = .rw c e op []) (hf : o + l.length ≤ c.length) (h1 : oneCells l = true) (hL : L ≤ b) (hq : Q false (.int .i64 (Int.ofNat (Nat.min sl dl))) (H.put b (.rw (newC o l c) e op []))) : A T P ex t H L (.call ⟨.builtin .copy, [d, s].toArray, (ty :: tys).toArray⟩) Q := by
  unfold A
  show (match moves (aCopy T t H (ty :: tys).toArray [d, s].toArray) with
    | some (b, v, H', m) => L ≤ m ∧ Q b v H'
    | none => False)
  unfold esS at hz
  unfold aCopy
  simp only
  cases hu : T.und ty with
  | none => rw [hu] at hz; cases hz
  | some dd =>
    rw [hu] at hz
    cases dd with
    | slice el =>
      simp only at hz
      unfold inS at hz
      cases hi : T.inf el with
      | none => rw [hi] at hz; cases hz
      | some i =>
        rw [hi] at hz
        simp only [Option.some.injEq] at hz
        subst hz
        simp only [hd,hs,hi,hsrc]
        unfold aWrite
        rw [hb]
        have hle : Nat.ble (o + l.length) c.length = true := Nat.ble_eq_true_of_le hf
        simp only [hle,h1,Bool.and_self,cond_true]
        exact ⟨hL, hq⟩
    | _ => cases hz
end
/-- The cells of a bill at work. -/
def wkC (p : Int) (a : Option Addr) (n c : Nat) (ps : List Int) (g : Nat) (cp : List Value) : List Value := .int .i64 p :: .slice a n c :: (tv ps ++ [.func (.func g) ⟨[]⟩ ⟨cp⟩])
section
variable {p x : Int} {a : Option Addr} {n c g i : Nat} {ps : List Int} {cp : List Value}
theorem wk_len (h : ps.length = 6) : (wkC p a n c ps g cp).length = 9 := by
  unfold wkC
  rw [List.length_cons, List.length_cons, List.length_append, tv_len, h]; rfl
theorem wk_all (h : ps.length = 6) : part (wkC p a n c ps g cp) 0 10 = some (.agg ⟨wkC p a n c ps g cp⟩) := part_all (wk_len h)
theorem wk_0 : (wkC p a n c ps g cp)[0]? = some (.int .i64 p) := rfl
theorem wk_1 : (wkC p a n c ps g cp)[1]? = some (.slice a n c) := rfl
theorem wk_i (h : ps[i]? = some x) : (wkC p a n c ps g cp)[2 + i]? = some (.int .i64 x) := by
  unfold wkC
  rw [Nat.add_comm, List.getElem?_cons_succ, List.getElem?_cons_succ, List.getElem?_append_left (by rw [tv_len]; exact (List.getElem?_eq_some_iff.1 h).1)]
  unfold tv
  rw [List.getElem?_map, h]; rfl
theorem wk_8 (h : ps.length = 6) : (wkC p a n c ps g cp)[8]? = some (.func (.func g) ⟨[]⟩ ⟨cp⟩) := by
  unfold wkC
  rw [List.getElem?_cons_succ, List.getElem?_cons_succ, List.getElem?_append_right (by rw [tv_len]; omega), tv_len, h]; rfl
theorem wk_arr (h : ps.length = 6) : part (wkC p a n c ps g cp) 2 7 = some (.agg ⟨tv ps⟩) := by
  refine part_of ?_ (by rw [tv_len, h])
  show (tv ps ++ _).take 6 = _
  rw [← h, ← tv_len, List.take_left]
theorem wk_one : oneCells (wkC p a n c ps g cp) = true := by
  unfold wkC
  show (_ && (_ && oneCells _)) = true
  rw [one_app (one_tv _) rfl]; rfl
theorem wk_same {k : Nat} (h : ∃ ck, cp = [.pointer (some ⟨ck, 0, none⟩)]) : sameL (sameV (k + 2)) (wkC p a n c ps g cp) (wkC p a n c ps g cp) = true := by
  obtain ⟨ck, rfl⟩ := h
  unfold wkC
  rw [sl_cons, sl_cons]
  have ht : ∀ l : List Int, sameL (sameV (k + 2)) (tv l ++ [.func (.func g) ⟨[]⟩ ⟨[.pointer (some ⟨ck, 0, none⟩)]⟩]) (tv l ++ [.func (.func g) ⟨[]⟩ ⟨[.pointer (some ⟨ck, 0, none⟩)]⟩]) = true := by
    intro l
    induction l with
    | nil => show sameL _ [_] [_] = true; rw [sl_cons, sv_func, sl_cons, sv_pointer]; rfl
    | cons x l ih => show (sameV (k + 1 + 1) (.int .i64 x) (.int .i64 x) && sameL (sameV (k + 2)) (tv l ++ [.func (.func g) ⟨[]⟩ ⟨[.pointer (some ⟨ck, 0, none⟩)]⟩]) (tv l ++ [.func (.func g) ⟨[]⟩ ⟨[.pointer (some ⟨ck, 0, none⟩)]⟩])) = true; rw [ih, sv_int]; rfl
  rw [ht, sv_slice, sv_int]; rfl
theorem wk_set (h : ps.length = 6) (hi : i < 6) : (wkC p a n c ps g cp).take (2 + i) ++ [.int .i64 x] ++ (wkC p a n c ps g cp).drop (2 + i + 1) = wkC p a n c (ps.set i x) g cp := by
  have e : ps.set i x = ps.take i ++ x :: ps.drop (i + 1) := by rw [List.set_eq_take_append_cons_drop, if_pos (by omega)]
  unfold wkC
  rw [e, show 2 + i = i + 1 + 1 by omega, List.take_succ_cons, List.take_succ_cons, List.drop_succ_cons, List.drop_succ_cons, List.take_append_of_le_length (by rw [tv_len]; omega), List.drop_append_of_le_length (by rw [tv_len]; omega)]
  unfold tv
  simp [List.map_append, List.map_take, List.map_drop]
theorem wk_copy {q : List Int} (h : ps.length = 6) (hq : q.length ≤ 6) : newC 2 (tv q) (wkC p a n c ps g cp) = wkC p a n c (q ++ ps.drop q.length) g cp := by
  unfold newC wkC
  rw [tv_len, show 2 + q.length = q.length + 1 + 1 by omega, List.drop_succ_cons, List.drop_succ_cons, List.drop_append_of_le_length (by rw [tv_len]; omega)]
  unfold tv
  simp [List.map_append, List.map_drop]
end
/-- A bill at work that is given: houses, pence, what each pays so far. -/
structure Wk (H : AHeap) (a : Option Addr) (hs : List Hs) (ps : List Int) : Prop where
  rw : Rw hsE H a hs
  len : 1 ≤ hs.length ∧ hs.length ≤ 6
  six : ps.length = 6
  bd : ∀ x ∈ ps, 0 ≤ x ∧ x ≤ 1000
  m : ∀ h ∈ hs, h.m ≤ 1000
theorem Wk.fr {a : Option Addr} {hs : List Hs} {ps : List Int} (h : Wk H a hs ps) (f : Fr H H') : Wk H' a hs ps := ⟨h.rw.fr f, h.len, h.six, h.bd, h.m⟩
/-- What a function says that tells which of two houses comes first. -/
structure FO (H : AHeap) (g n : Nat) (cp : List Value) (bef : Nat → Int → Nat → Int → Bool) : Prop where
  ptr : ∃ ck, cp = [.pointer (some ⟨ck, 0, none⟩)]
  run : ∀ N H', Fr H H' → ∀ (i k : Nat) (x y : Int), i < n → k < n → 0 ≤ x ∧ x ≤ 1001 → 0 ≤ y ∧ y ≤ 1001 → acall tabA (aexec tabA Try.prog (N + 300)) g (.agg ⟨[.int .i64 (i : Nat), .int .i64 x]⟩ :: .agg ⟨[.int .i64 (k : Nat), .int .i64 y]⟩ :: cp) H' = some (true, .bool (bef i x k y), H', H'.size)
theorem FO.fr {g n : Nat} {cp : List Value} {bef : Nat → Int → Nat → Int → Bool} (h : FO H g n cp bef) (f : Fr H H') : FO H' g n cp bef := ⟨h.ptr, fun N H'' f' => h.run N H'' (f.trans f')⟩
theorem st_arS_116 : arS tabA 116 = some (6, 1) := by kernel_rfl
section
variable {p : Int} {a : Option Addr} {c g : Nat} {hs : List Hs} {ps : List Int} {cp : List Value}
/-- more. -/
theorem c128 {i : Nat} {x : Int} (h : Wk H a hs ps) (hi : i < 6) (hx : ps[i]? = some x) : acall tabA (aexec tabA Try.prog (N + 40)) 128 [.agg ⟨wkC p a hs.length c ps g cp⟩, .int .i64 (i : Nat)] H = some (true, .agg ⟨[.int .i64 (i : Nat), .int .i64 (x + 1)]⟩, H, H.size) := by
  refine call_quiet (k := 12) (rs := [.cell 4 154]) rfl fn_128 rfl rfl rfl ?_ rfl
  have hb := h.bd x (List.mem_of_getElem? hx)
  have w1 : w64 (x + 1) = x + 1 := w64_of (by omega)
  simp (disch := (first | (simp only [ne_eq,Nat.reduceEqDiff,not_false_eq_true,Nat.reduceLT]; done) | omega | (simp only [yz] <;> omega) | fail)) only [↓yp,yq0,yq1,yq2,yq3,yq4,yl,ys0,ys1,Nat.reduceAdd,Nat.reduceMul,Nat.reduceSub,Nat.reduceBEq,Nat.reduceEqDiff,Nat.reduceLT,Nat.reduceLeDiff,reduceIte,Int.reduceAdd,Int.reduceSub,Int.reduceMul,Int.reduceLT,Int.reduceLE,Int.reduceEq,Int.reduceToNat,Int.reduceNeg,fitB,newC,endD,endR,yrg,A_indexArr st_arS_116,wk_i hx,w1,A_build st_bdS_154]
/-- canPay. -/
theorem c127 {i : Nat} {x : Int} {s : Hs} (h : Wk H a hs ps) (hi : i < 6) (hx : ps[i]? = some x) (hs' : hs[i]? = some s) : acall tabA (aexec tabA Try.prog (N + 40)) 127 [.agg ⟨wkC p a hs.length c ps g cp⟩, .int .i64 (i : Nat)] H = some (true, .bool (decide (x < s.m)), H, H.size) := by
  refine call_quiet (k := 17) (rs := [.tmp 4]) rfl fn_127 rfl rfl rfl ?_ rfl
  have hlt := (List.getElem?_eq_some_iff.1 hs').1
  obtain ⟨b, o, cc, rfl, hb, hc, hq⟩ := h.rw.at_ hs'
  have q : cc[o + i * 3 + 2]? = some (.int .i64 s.m) := by
    have : ((cc.drop (o + i * 3)).take 3)[2]? = some (.int .i64 s.m) := by
      rw [show hsE.z = 3 from rfl] at hq; rw [hq]; rfl
    rw [List.getElem?_take, if_pos (by omega), List.getElem?_drop] at this
    exact this
  simp (disch := (first | (simp only [ne_eq,Nat.reduceEqDiff,not_false_eq_true,Nat.reduceLT]; done) | omega | (simp only [yz] <;> omega) | fail)) only [↓yp,yq0,yq1,yq2,yq3,yq4,yl,ys0,ys1,Nat.reduceAdd,Nat.reduceMul,Nat.reduceSub,Nat.reduceBEq,Nat.reduceEqDiff,Nat.reduceLT,Nat.reduceLeDiff,reduceIte,Int.reduceAdd,Int.reduceSub,Int.reduceMul,Int.reduceLT,Int.reduceLE,Int.reduceEq,Int.reduceToNat,Int.reduceNeg,fitB,newC,endD,endR,yrg]
  refine W_draw [] rfl (by kernel_rfl) (by kernel_rfl) (by (first | omega | (simp only [yz] <;> omega))) ?_
  simp (disch := (first | (simp only [ne_eq,Nat.reduceEqDiff,not_false_eq_true,Nat.reduceLT]; done) | omega | (simp only [yz] <;> omega) | fail)) only [↓yp,yq0,yq1,yq2,yq3,yq4,yl,ys0,ys1,Nat.reduceAdd,Nat.reduceMul,Nat.reduceSub,Nat.reduceBEq,Nat.reduceEqDiff,Nat.reduceLT,Nat.reduceLeDiff,reduceIte,Int.reduceAdd,Int.reduceSub,Int.reduceMul,Int.reduceLT,Int.reduceLE,Int.reduceEq,Int.reduceToNat,Int.reduceNeg,fitB,newC,endD,endR,yrg,A_indexArr st_arS_116,A_indexSlice st_esS_37,wk_i hx,wk_1,hc,q]
end
/-- Or. -/
theorem c110 {a : Option Addr} {cap : Nat} {x y : Int} (hs : Rw intE H a [x, y]) : acall tabA (aexec tabA Try.prog (N + 60)) 110 [.slice a 2 cap] H = some (true, .int .i64 (if x = 0 then y else x), H, H.size) := by
  refine call_quiet (k := 18) (rs := [.tmp 2]) rfl fn_110 rfl rfl rfl ?_ rfl
  simp (disch := (first | (simp only [ne_eq,Nat.reduceEqDiff,not_false_eq_true,Nat.reduceLT]; done) | omega | (simp only [yz] <;> omega) | fail)) only [↓yp,yq0,yq1,yq2,yq3,yq4,yl,ys0,ys1,Nat.reduceAdd,Nat.reduceMul,Nat.reduceSub,Nat.reduceBEq,Nat.reduceEqDiff,Nat.reduceLT,Nat.reduceLeDiff,reduceIte,Int.reduceAdd,Int.reduceSub,Int.reduceMul,Int.reduceLT,Int.reduceLE,Int.reduceEq,Int.reduceToNat,Int.reduceNeg,fitB,newC,endD,endR,yrg,lenV_slice st_esS_40]
  refine W_while (n := 18) 40 (fun k e H' => ∃ i : Nat, k = 2 - i ∧ i ≤ 2 ∧ gt 18 e 8 = .int .i64 (i : Nat) ∧ gt 18 e 7 = .int .i64 2 ∧ gt 18 e 6 = .slice a 2 cap ∧ gt 18 e 3 = .int .i64 0 ∧ H' = H ∧ (0 < i → x = 0) ∧ (1 < i → y = 0))
    ?_ 2 2 ⟨0, by omega, by omega, by simp (disch := (first | (simp only [ne_eq,Nat.reduceEqDiff,not_false_eq_true,Nat.reduceLT]; done) | omega | (simp only [yz] <;> omega) | fail)) only [yg,Nat.reduceAdd,Nat.reduceEqDiff,Nat.reduceLT]; rfl, by simp (disch := (first | (simp only [ne_eq,Nat.reduceEqDiff,not_false_eq_true,Nat.reduceLT]; done) | omega | (simp only [yz] <;> omega) | fail)) only [yg,Nat.reduceAdd,Nat.reduceEqDiff,Nat.reduceLT]; rfl, by simp (disch := (first | (simp only [ne_eq,Nat.reduceEqDiff,not_false_eq_true,Nat.reduceLT]; done) | omega | (simp only [yz] <;> omega) | fail)) only [yg,Nat.reduceAdd,Nat.reduceEqDiff,Nat.reduceLT], by simp (disch := (first | (simp only [ne_eq,Nat.reduceEqDiff,not_false_eq_true,Nat.reduceLT]; done) | omega | (simp only [yz] <;> omega) | fail)) only [yg,Nat.reduceAdd,Nat.reduceEqDiff,Nat.reduceLT], rfl, by omega, by omega⟩ (by omega) (by omega)
  rintro M k e H' ⟨i, rfl, hi, g8, g7, g6, g3, rfl, hx, hy⟩
  simp (disch := (first | (simp only [ne_eq,Nat.reduceEqDiff,not_false_eq_true,Nat.reduceLT]; done) | omega | (simp only [yz] <;> omega) | fail)) only [↓yp,yq0,yq1,yq2,yq3,yq4,yl,ys0,ys1,Nat.reduceAdd,Nat.reduceMul,Nat.reduceSub,Nat.reduceBEq,Nat.reduceEqDiff,Nat.reduceLT,Nat.reduceLeDiff,reduceIte,Int.reduceAdd,Int.reduceSub,Int.reduceMul,Int.reduceLT,Int.reduceLE,Int.reduceEq,Int.reduceToNat,Int.reduceNeg,fitB,newC,endD,endR,yrg,g8,g7]
  refine ⟨fun hA => ?_, fun hA => ?_⟩
  · have hi' : i < 2 := by have := of_decide_eq_true hA; omega
    obtain ⟨v, hv⟩ : ∃ v, [x, y][i]? = some v := ⟨[x, y][i]'(by simpa using hi'), by simp⟩
    obtain ⟨b, o, c, rfl, hb', hc, hp⟩ := hs.at_ hv
    have q := cell_of hp
    rw [show i * intE.z = i * 1 from rfl, Nat.mul_one] at q
    have hw2 : w64 ((i : Int) + 1) = ((i + 1 : Nat) : Int) := by rw [w64_of (by omega)]; omega
    have hv0 : i = 0 ∧ v = x ∨ i = 1 ∧ v = y := by
      rcases (show i = 0 ∨ i = 1 by omega) with rfl | rfl
      · simp at hv; exact .inl ⟨rfl, hv.symm⟩
      · simp at hv; exact .inr ⟨rfl, hv.symm⟩
    cases hB : decide (v = 0)
    · have hB' := of_decide_eq_false hB
      have e1 : (if x = 0 then y else x) = v := by
        rcases hv0 with ⟨rfl, rfl⟩ | ⟨rfl, rfl⟩
        · rw [if_neg hB']
        · rw [if_pos (hx (by omega))]
      simp (disch := (first | (simp only [ne_eq,Nat.reduceEqDiff,not_false_eq_true,Nat.reduceLT]; done) | omega | (simp only [yz] <;> omega) | fail)) only [↓yp,yq0,yq1,yq2,yq3,yq4,yl,ys0,ys1,Nat.reduceAdd,Nat.reduceMul,Nat.reduceSub,Nat.reduceBEq,Nat.reduceEqDiff,Nat.reduceLT,Nat.reduceLeDiff,reduceIte,Int.reduceAdd,Int.reduceSub,Int.reduceMul,Int.reduceLT,Int.reduceLE,Int.reduceEq,Int.reduceToNat,Int.reduceNeg,fitB,newC,endD,endR,yrg,g8,g7,g6,g3,A_indexSlice st_esS_40,hc,q,hB,e1]
    · have hB' := of_decide_eq_true hB
      simp (disch := (first | (simp only [ne_eq,Nat.reduceEqDiff,not_false_eq_true,Nat.reduceLT]; done) | omega | (simp only [yz] <;> omega) | fail)) only [↓yp,yq0,yq1,yq2,yq3,yq4,yl,ys0,ys1,Nat.reduceAdd,Nat.reduceMul,Nat.reduceSub,Nat.reduceBEq,Nat.reduceEqDiff,Nat.reduceLT,Nat.reduceLeDiff,reduceIte,Int.reduceAdd,Int.reduceSub,Int.reduceMul,Int.reduceLT,Int.reduceLE,Int.reduceEq,Int.reduceToNat,Int.reduceNeg,fitB,newC,endD,endR,yrg,g8,g7,g6,g3,A_indexSlice st_esS_40,hc,q,hB,hw2]
      refine ⟨2 - (i + 1), by omega, i + 1, rfl, by omega, ?_, ?_, ?_, ?_, rfl, ?_, ?_⟩
      · simp (disch := (first | (simp only [ne_eq,Nat.reduceEqDiff,not_false_eq_true,Nat.reduceLT]; done) | omega | (simp only [yz] <;> omega) | fail)) only [yg,Nat.reduceAdd,Nat.reduceEqDiff,Nat.reduceLT]
      · simp (disch := (first | (simp only [ne_eq,Nat.reduceEqDiff,not_false_eq_true,Nat.reduceLT]; done) | omega | (simp only [yz] <;> omega) | fail)) only [yg,Nat.reduceAdd,Nat.reduceEqDiff,Nat.reduceLT,g7]
      · simp (disch := (first | (simp only [ne_eq,Nat.reduceEqDiff,not_false_eq_true,Nat.reduceLT]; done) | omega | (simp only [yz] <;> omega) | fail)) only [yg,Nat.reduceAdd,Nat.reduceEqDiff,Nat.reduceLT,g6]
      · simp (disch := (first | (simp only [ne_eq,Nat.reduceEqDiff,not_false_eq_true,Nat.reduceLT]; done) | omega | (simp only [yz] <;> omega) | fail)) only [yg,Nat.reduceAdd,Nat.reduceEqDiff,Nat.reduceLT,g3]
      · intro _
        rcases hv0 with ⟨rfl, rfl⟩ | ⟨rfl, rfl⟩
        · exact hB'
        · exact hx (by omega)
      · intro _
        rcases hv0 with ⟨rfl, rfl⟩ | ⟨rfl, rfl⟩
        · omega
        · exact hB'
  · have hi' : i = 2 := by have := of_decide_eq_false hA; omega
    subst hi'
    have e1 : (if x = 0 then y else x) = 0 := by rw [if_pos (hx (by omega)), hy (by omega)]
    simp (disch := (first | (simp only [ne_eq,Nat.reduceEqDiff,not_false_eq_true,Nat.reduceLT]; done) | omega | (simp only [yz] <;> omega) | fail)) only [↓yp,yq0,yq1,yq2,yq3,yq4,yl,ys0,ys1,Nat.reduceAdd,Nat.reduceMul,Nat.reduceSub,Nat.reduceBEq,Nat.reduceEqDiff,Nat.reduceLT,Nat.reduceLeDiff,reduceIte,Int.reduceAdd,Int.reduceSub,Int.reduceMul,Int.reduceLT,Int.reduceLE,Int.reduceEq,Int.reduceToNat,Int.reduceNeg,fitB,newC,endD,endR,yrg,g3,e1]
theorem st_apS_37 : apS tabA 37 = some (72, 3, 24) := by kernel_rfl
section
variable {a : Option Addr} {c cap : Nat} {hs : List Hs}
/-- Numbers from 0 on. -/
def rgL (n : Nat) : List Int := (List.range n).map fun i => ((i : Nat) : Int)
theorem rgL_len {n : Nat} : (rgL n).length = n := by simp [rgL]
theorem rgL_at {n i : Nat} (h : i < n) : (rgL n)[i]? = some ((i : Nat) : Int) := by simp [rgL, h]
theorem rgL_get {n i : Nat} {x : Int} (h : (rgL n)[i]? = some x) : i < n ∧ x = (i : Nat) := by
  have h1 : i < n := by rw [← rgL_len (n := n)]; exact (List.getElem?_eq_some_iff.1 h).1
  rw [rgL_at h1] at h; cases h
  exact ⟨h1, rfl⟩
set_option maxHeartbeats 2000000 in
/-- indices. -/
theorem c135 (h1 : 1 ≤ hs.length) (hl : hs.length ≤ 6) (hL : L ≤ H.size) {M : Nat} (hM : 300 ≤ M)
    (hq : ∀ b cc H', Fr H H' → H.size ≤ b → Rw intE H' (some ⟨b, 0, none⟩) (rgL hs.length) → Q false (.slice (some ⟨b, 0, none⟩) hs.length cc) H') : resK (acall tabA (aexec tabA Try.prog M) 135 [.slice a hs.length cap] H) L Q := by
  obtain ⟨N, rfl⟩ : ∃ N, M = N + 300 := ⟨M - 300, by omega⟩
  refine call_fls (R := fun v H' => ∃ b cc, v = .slice (some ⟨b, 0, none⟩) hs.length cc ∧ Fr H H' ∧ H.size ≤ b ∧ Rw intE H' (some ⟨b, 0, none⟩) (rgL hs.length)) (k := 16) (rs := [.tmp 2]) rfl fn_135 rfl rfl rfl hL ?_ ?_ ?_
  rotate_left
  · rintro v H' ⟨b, c, rfl, -⟩; rfl
  · rintro v H' ⟨b, c, rfl, h1, h2, h3⟩
    exact hq _ _ _ h1 h2 h3
  simp (disch := (first | (simp only [ne_eq,Nat.reduceEqDiff,not_false_eq_true,Nat.reduceLT]; done) | omega | (simp only [yz] <;> omega) | fail)) only [↓yp,yq0,yq1,yq2,yq3,yq4,yl,ys0,ys1,Nat.reduceAdd,Nat.reduceMul,Nat.reduceSub,Nat.reduceBEq,Nat.reduceEqDiff,Nat.reduceLT,Nat.reduceLeDiff,reduceIte,Int.reduceAdd,Int.reduceSub,Int.reduceMul,Int.reduceLT,Int.reduceLE,Int.reduceEq,Int.reduceToNat,Int.reduceNeg,fitB,newC,endD,endR,yrg,lenV_slice st_esS_37]
  refine W_while (n := 16) 100 (fun k e H' => ∃ (i : Nat) (v : Value) (S : Nat → Prop), k = hs.length - i ∧ i ≤ hs.length ∧ gt 16 e 7 = .int .i64 (i : Nat) ∧ gt 16 e 6 = .int .i64 hs.length ∧ gt 16 e 3 = v ∧ Fr H H' ∧ (0 < i → H.size < H'.size) ∧ Gw H' H.size S v i (intE.fl ((rgL hs.length).take i)) 3 1)
    ?_ 6 hs.length ⟨0, _, _, by omega, by omega, by simp (disch := (first | (simp only [ne_eq,Nat.reduceEqDiff,not_false_eq_true,Nat.reduceLT]; done) | omega | (simp only [yz] <;> omega) | fail)) only [yg,Nat.reduceAdd,Nat.reduceEqDiff,Nat.reduceLT]; rfl, by simp (disch := (first | (simp only [ne_eq,Nat.reduceEqDiff,not_false_eq_true,Nat.reduceLT]; done) | omega | (simp only [yz] <;> omega) | fail)) only [yg,Nat.reduceAdd,Nat.reduceEqDiff,Nat.reduceLT], by simp (disch := (first | (simp only [ne_eq,Nat.reduceEqDiff,not_false_eq_true,Nat.reduceLT]; done) | omega | (simp only [yz] <;> omega) | fail)) only [yg,Nat.reduceAdd,Nat.reduceEqDiff,Nat.reduceLT], Fr.refl _, by omega, Gw.none⟩ (by omega) (by omega)
  rintro M1 k e H1 ⟨i, v, S, rfl, hi, g7, g6, g3, fr, hsz, gw⟩
  have f0 := fr.size
  simp (disch := (first | (simp only [ne_eq,Nat.reduceEqDiff,not_false_eq_true,Nat.reduceLT]; done) | omega | (simp only [yz] <;> omega) | fail)) only [↓yp,yq0,yq1,yq2,yq3,yq4,yl,ys0,ys1,Nat.reduceAdd,Nat.reduceMul,Nat.reduceSub,Nat.reduceBEq,Nat.reduceEqDiff,Nat.reduceLT,Nat.reduceLeDiff,reduceIte,Int.reduceAdd,Int.reduceSub,Int.reduceMul,Int.reduceLT,Int.reduceLE,Int.reduceEq,Int.reduceToNat,Int.reduceNeg,fitB,newC,endD,endR,yrg,g7,g6]
  refine ⟨fun hT => ?_, fun hT => ?_⟩
  · have hlt : i < hs.length := by have := of_decide_eq_true hT; omega
    have hw2 : w64 ((i : Int) + 1) = ((i + 1 : Nat) : Int) := by rw [w64_of (by omega)]; omega
    have hp' := rgL_at hlt
    simp (disch := (first | (simp only [ne_eq,Nat.reduceEqDiff,not_false_eq_true,Nat.reduceLT]; done) | omega | (simp only [yz] <;> omega) | fail)) only [↓yp,yq0,yq1,yq2,yq3,yq4,yl,ys0,ys1,Nat.reduceAdd,Nat.reduceMul,Nat.reduceSub,Nat.reduceBEq,Nat.reduceEqDiff,Nat.reduceLT,Nat.reduceLeDiff,reduceIte,Int.reduceAdd,Int.reduceSub,Int.reduceMul,Int.reduceLT,Int.reduceLE,Int.reduceEq,Int.reduceToNat,Int.reduceNeg,fitB,newC,endD,endR,yrg,g7,g3,A_buildSlice st_brS_40_1]
    refine gw_append (i := i) (cs := intE.fl ((rgL hs.length).take i)) (news := [.int .i64 (i : Nat)]) st_apS_40 (gw.fr (by (repeat (first | exact Fr.refl _ | assumption | refine Fr.allocd ?_ _ | refine Fr.kill ?_ (by first | assumption | omega) | refine Fr.put ?_ (by first | omega | (simp only [yz] <;> omega)) _)))) (by (first | omega | (simp only [yz] <;> omega))) (by rw [fl_length, List.length_take_of_le (by rw [rgL_len]; omega)]; rfl) (by unfold srcCells; simp (disch := (first | (simp only [ne_eq,Nat.reduceEqDiff,not_false_eq_true,Nat.reduceLT]; done) | omega | (simp only [yz] <;> omega) | fail)) only [yg,Nat.reduceAdd,Nat.reduceEqDiff,Nat.reduceLT]; rfl) (by omega) (by omega) rfl (by omega) ?_
    intro a1 c1 H2 hs2 fs2 gw1
    simp only [size_alloc,size_put] at hs2 fs2
    rw [show intE.fl ((rgL hs.length).take i) ++ [Value.int .i64 (i : Nat)] = intE.fl ((rgL hs.length).take (i + 1)) from take_fl (E := intE) hp'] at gw1
    simp (disch := (first | (simp only [ne_eq,Nat.reduceEqDiff,not_false_eq_true,Nat.reduceLT]; done) | omega | (simp only [yz] <;> omega) | fail)) only [↓yp,yq0,yq1,yq2,yq3,yq4,yl,ys0,ys1,Nat.reduceAdd,Nat.reduceMul,Nat.reduceSub,Nat.reduceBEq,Nat.reduceEqDiff,Nat.reduceLT,Nat.reduceLeDiff,reduceIte,Int.reduceAdd,Int.reduceSub,Int.reduceMul,Int.reduceLT,Int.reduceLE,Int.reduceEq,Int.reduceToNat,Int.reduceNeg,fitB,newC,endD,endR,yrg,g7,hw2]
    refine ⟨hs.length - (i + 1), by omega, i + 1, _, _, rfl, by omega, ?_, ?_, ?_, ?_, by omega, gw1⟩
    · simp (disch := (first | (simp only [ne_eq,Nat.reduceEqDiff,not_false_eq_true,Nat.reduceLT]; done) | omega | (simp only [yz] <;> omega) | fail)) only [yg,Nat.reduceAdd,Nat.reduceEqDiff,Nat.reduceLT]
    · simp (disch := (first | (simp only [ne_eq,Nat.reduceEqDiff,not_false_eq_true,Nat.reduceLT]; done) | omega | (simp only [yz] <;> omega) | fail)) only [yg,Nat.reduceAdd,Nat.reduceEqDiff,Nat.reduceLT,g6]
    · simp (disch := (first | (simp only [ne_eq,Nat.reduceEqDiff,not_false_eq_true,Nat.reduceLT]; done) | omega | (simp only [yz] <;> omega) | fail)) only [yg,Nat.reduceAdd,Nat.reduceEqDiff,Nat.reduceLT]
    · exact ⟨by omega, fun q hq => by rw [fs2 q (by omega) (gw.low q (by omega)), get_alloc_lt (by omega)]; exact fr.same q hq⟩
  have hie : i = hs.length := by have := of_decide_eq_false hT; omega
  subst hie
  rw [List.take_of_length_le (by rw [rgL_len]; exact Nat.le_refl _)] at gw
  obtain ⟨bv, al, ev, hS, -⟩ := gw.cons (by omega)
  subst ev
  simp (disch := (first | (simp only [ne_eq,Nat.reduceEqDiff,not_false_eq_true,Nat.reduceLT]; done) | omega | (simp only [yz] <;> omega) | fail)) only [↓yp,yq0,yq1,yq2,yq3,yq4,yl,ys0,ys1,Nat.reduceAdd,Nat.reduceMul,Nat.reduceSub,Nat.reduceBEq,Nat.reduceEqDiff,Nat.reduceLT,Nat.reduceLeDiff,reduceIte,Int.reduceAdd,Int.reduceSub,Int.reduceMul,Int.reduceLT,Int.reduceLE,Int.reduceEq,Int.reduceToNat,Int.reduceNeg,fitB,newC,endD,endR,yrg,g3]
  refine ⟨bv, _, rfl, fr, by have := (gw.own _ hS).1; omega, (Gw.rx (k := 0) (E := intE) (l := rgL hs.length) (c := OPEN + 1) (el := 3) (tb := H.size) (S := S) ?_ (fun h => by have := (gw.own 0 h).1; omega)).rw⟩
  rw [rgL_len]
  exact gw
end
section
variable {a : Option Addr} {cap : Nat} {l : List Int}
set_option maxHeartbeats 2000000 in
/-- those. -/
theorem c134 {g : Nat} {fst : List Value} {f : Int → Bool} (hr : Rw intE H a l) (hl : l.length ≤ 6) (hne : l.filter f ≠ []) (hf : ∀ N H', Fr H H' → ∀ x ∈ l, acall tabA (aexec tabA Try.prog (N + 60)) g (fst ++ [.int .i64 x]) H' = some (true, .bool (f x), H', H'.size)) (hL : L ≤ H.size) {M : Nat} (hM : 300 ≤ M)
    (hq : ∀ b al H', Fr H H' → H.size ≤ b → b < H'.size → H'.get b = .rw (intE.fl (l.filter f)) 3 true al → Q false (.slice (some ⟨b, 0, none⟩) (l.filter f).length (OPEN + 1)) H') : resK (acall tabA (aexec tabA Try.prog M) 134 [.slice a l.length cap, .func (.func g) ⟨fst⟩ ⟨[]⟩] H) L Q := by
  obtain ⟨N, rfl⟩ : ∃ N, M = N + 300 := ⟨M - 300, by omega⟩
  refine call_fls (R := fun v H' => ∃ b al, v = .slice (some ⟨b, 0, none⟩) (l.filter f).length (OPEN + 1) ∧ Fr H H' ∧ H.size ≤ b ∧ b < H'.size ∧ H'.get b = .rw (intE.fl (l.filter f)) 3 true al) (k := 23) (rs := [.tmp 4]) rfl fn_134 rfl rfl rfl hL ?_ ?_ ?_
  rotate_left
  · rintro v H' ⟨b, c, rfl, -⟩; rfl
  · rintro v H' ⟨b, c, rfl, h1, h2, h3, h4⟩
    exact hq _ _ _ h1 h2 h3 h4
  simp (disch := (first | (simp only [ne_eq,Nat.reduceEqDiff,not_false_eq_true,Nat.reduceLT]; done) | omega | (simp only [yz] <;> omega) | fail)) only [↓yp,yq0,yq1,yq2,yq3,yq4,yl,ys0,ys1,Nat.reduceAdd,Nat.reduceMul,Nat.reduceSub,Nat.reduceBEq,Nat.reduceEqDiff,Nat.reduceLT,Nat.reduceLeDiff,reduceIte,Int.reduceAdd,Int.reduceSub,Int.reduceMul,Int.reduceLT,Int.reduceLE,Int.reduceEq,Int.reduceToNat,Int.reduceNeg,fitB,newC,endD,endR,yrg,lenV_slice st_esS_40]
  refine W_while (n := 23) 150 (fun k e H' => ∃ (i j : Nat) (v : Value) (S : Nat → Prop), k = l.length - i ∧ i ≤ l.length ∧ j = ((l.take i).filter f).length ∧ j ≤ i ∧ gt 23 e 10 = .int .i64 (i : Nat) ∧ gt 23 e 9 = .int .i64 l.length ∧ gt 23 e 8 = .slice a l.length cap ∧ gt 23 e 1 = .func (.func g) ⟨fst⟩ ⟨[]⟩ ∧ gt 23 e 5 = v ∧ Fr H H' ∧ Gw H' H.size S v j (intE.fl ((l.take i).filter f)) 3 1)
    ?_ 6 l.length ⟨0, 0, _, _, by omega, by omega, rfl, by omega, by simp (disch := (first | (simp only [ne_eq,Nat.reduceEqDiff,not_false_eq_true,Nat.reduceLT]; done) | omega | (simp only [yz] <;> omega) | fail)) only [yg,Nat.reduceAdd,Nat.reduceEqDiff,Nat.reduceLT]; rfl, by simp (disch := (first | (simp only [ne_eq,Nat.reduceEqDiff,not_false_eq_true,Nat.reduceLT]; done) | omega | (simp only [yz] <;> omega) | fail)) only [yg,Nat.reduceAdd,Nat.reduceEqDiff,Nat.reduceLT], by simp (disch := (first | (simp only [ne_eq,Nat.reduceEqDiff,not_false_eq_true,Nat.reduceLT]; done) | omega | (simp only [yz] <;> omega) | fail)) only [yg,Nat.reduceAdd,Nat.reduceEqDiff,Nat.reduceLT], by simp (disch := (first | (simp only [ne_eq,Nat.reduceEqDiff,not_false_eq_true,Nat.reduceLT]; done) | omega | (simp only [yz] <;> omega) | fail)) only [yg,Nat.reduceAdd,Nat.reduceEqDiff,Nat.reduceLT], by simp (disch := (first | (simp only [ne_eq,Nat.reduceEqDiff,not_false_eq_true,Nat.reduceLT]; done) | omega | (simp only [yz] <;> omega) | fail)) only [yg,Nat.reduceAdd,Nat.reduceEqDiff,Nat.reduceLT], Fr.refl _, Gw.none⟩ (by omega) (by omega)
  rintro M1 k e H1 ⟨i, j, v, S, rfl, hi, hj, hji, g10, g9, g8, g1, g5, fr, gw⟩
  have f0 := fr.size
  simp (disch := (first | (simp only [ne_eq,Nat.reduceEqDiff,not_false_eq_true,Nat.reduceLT]; done) | omega | (simp only [yz] <;> omega) | fail)) only [↓yp,yq0,yq1,yq2,yq3,yq4,yl,ys0,ys1,Nat.reduceAdd,Nat.reduceMul,Nat.reduceSub,Nat.reduceBEq,Nat.reduceEqDiff,Nat.reduceLT,Nat.reduceLeDiff,reduceIte,Int.reduceAdd,Int.reduceSub,Int.reduceMul,Int.reduceLT,Int.reduceLE,Int.reduceEq,Int.reduceToNat,Int.reduceNeg,fitB,newC,endD,endR,yrg,g10,g9]
  refine ⟨fun hT => ?_, fun hT => ?_⟩
  · have hlt : i < l.length := by have := of_decide_eq_true hT; omega
    have hw2 : w64 ((i : Int) + 1) = ((i + 1 : Nat) : Int) := by rw [w64_of (by omega)]; omega
    obtain ⟨x, hx⟩ : ∃ x, l[i]? = some x := ⟨l[i], by simp [hlt]⟩
    obtain ⟨bl, o, c, eb, hbl, hc, hqq⟩ := (hr.fr fr).at_ hx
    have q := cell_of hqq
    rw [show i * intE.z = i * 1 from rfl, Nat.mul_one] at q
    subst eb
    have hff := fun (N : Nat) (H' : AHeap) (f1 : Fr H H') => hf N H' f1 x (List.mem_of_getElem? hx)
    have htk : (l.take (i + 1)).filter f = (l.take i).filter f ++ [x].filter f := by rw [List.take_add_one, hx, List.filter_append]; rfl
    have hff1 := fun (N : Nat) => hff N H1 fr
    cases hB : f x
    · have htk' : (l.take (i + 1)).filter f = (l.take i).filter f := by rw [htk, List.filter_cons_of_neg (by rw [hB]; simp)]; simp
      rw [hB] at hff1
      simp (disch := (first | (simp only [ne_eq,Nat.reduceEqDiff,not_false_eq_true,Nat.reduceLT]; done) | omega | (simp only [yz] <;> omega) | fail)) only [↓yp,yq0,yq1,yq2,yq3,yq4,yl,ys0,ys1,Nat.reduceAdd,Nat.reduceMul,Nat.reduceSub,Nat.reduceBEq,Nat.reduceEqDiff,Nat.reduceLT,Nat.reduceLeDiff,reduceIte,Int.reduceAdd,Int.reduceSub,Int.reduceMul,Int.reduceLT,Int.reduceLE,Int.reduceEq,Int.reduceToNat,Int.reduceNeg,fitB,newC,endD,endR,yrg,g10,g8,g1,A_indexSlice st_esS_40,hc,q,hff1,hw2]
      refine ⟨l.length - (i + 1), by omega, i + 1, j, v, S, rfl, by omega, by rw [htk']; exact hj, by omega, ?_, ?_, ?_, ?_, ?_, fr, by rw [htk']; exact gw⟩
      · simp (disch := (first | (simp only [ne_eq,Nat.reduceEqDiff,not_false_eq_true,Nat.reduceLT]; done) | omega | (simp only [yz] <;> omega) | fail)) only [yg,Nat.reduceAdd,Nat.reduceEqDiff,Nat.reduceLT]
      · simp (disch := (first | (simp only [ne_eq,Nat.reduceEqDiff,not_false_eq_true,Nat.reduceLT]; done) | omega | (simp only [yz] <;> omega) | fail)) only [yg,Nat.reduceAdd,Nat.reduceEqDiff,Nat.reduceLT,g9]
      · simp (disch := (first | (simp only [ne_eq,Nat.reduceEqDiff,not_false_eq_true,Nat.reduceLT]; done) | omega | (simp only [yz] <;> omega) | fail)) only [yg,Nat.reduceAdd,Nat.reduceEqDiff,Nat.reduceLT,g8]
      · simp (disch := (first | (simp only [ne_eq,Nat.reduceEqDiff,not_false_eq_true,Nat.reduceLT]; done) | omega | (simp only [yz] <;> omega) | fail)) only [yg,Nat.reduceAdd,Nat.reduceEqDiff,Nat.reduceLT,g1]
      · simp (disch := (first | (simp only [ne_eq,Nat.reduceEqDiff,not_false_eq_true,Nat.reduceLT]; done) | omega | (simp only [yz] <;> omega) | fail)) only [yg,Nat.reduceAdd,Nat.reduceEqDiff,Nat.reduceLT,g5]
    · have htk' : (l.take (i + 1)).filter f = (l.take i).filter f ++ [x] := by rw [htk, List.filter_cons_of_pos hB]; simp
      rw [hB] at hff1
      simp (disch := (first | (simp only [ne_eq,Nat.reduceEqDiff,not_false_eq_true,Nat.reduceLT]; done) | omega | (simp only [yz] <;> omega) | fail)) only [↓yp,yq0,yq1,yq2,yq3,yq4,yl,ys0,ys1,Nat.reduceAdd,Nat.reduceMul,Nat.reduceSub,Nat.reduceBEq,Nat.reduceEqDiff,Nat.reduceLT,Nat.reduceLeDiff,reduceIte,Int.reduceAdd,Int.reduceSub,Int.reduceMul,Int.reduceLT,Int.reduceLE,Int.reduceEq,Int.reduceToNat,Int.reduceNeg,fitB,newC,endD,endR,yrg,g10,g8,g1,g5,A_indexSlice st_esS_40,hc,q,hff1,A_buildSlice st_brS_40_1]
      refine gw_append (i := j) (cs := intE.fl ((l.take i).filter f)) (news := [.int .i64 x]) st_apS_40 (gw.fr (by (repeat (first | exact Fr.refl _ | assumption | refine Fr.allocd ?_ _ | refine Fr.kill ?_ (by first | assumption | omega) | refine Fr.put ?_ (by first | omega | (simp only [yz] <;> omega)) _)))) (by (first | omega | (simp only [yz] <;> omega))) (by rw [fl_length, hj]; rfl) (by unfold srcCells; simp (disch := (first | (simp only [ne_eq,Nat.reduceEqDiff,not_false_eq_true,Nat.reduceLT]; done) | omega | (simp only [yz] <;> omega) | fail)) only [yg,Nat.reduceAdd,Nat.reduceEqDiff,Nat.reduceLT]; rfl) (by omega) (by omega) rfl (by omega) ?_
      intro a1 c1 H2 hs2 fs2 gw1
      simp only [size_alloc,size_put] at hs2 fs2
      rw [show intE.fl ((l.take i).filter f) ++ [Value.int .i64 x] = intE.fl ((l.take (i + 1)).filter f) by rw [htk', fl_app]; rfl] at gw1
      simp (disch := (first | (simp only [ne_eq,Nat.reduceEqDiff,not_false_eq_true,Nat.reduceLT]; done) | omega | (simp only [yz] <;> omega) | fail)) only [↓yp,yq0,yq1,yq2,yq3,yq4,yl,ys0,ys1,Nat.reduceAdd,Nat.reduceMul,Nat.reduceSub,Nat.reduceBEq,Nat.reduceEqDiff,Nat.reduceLT,Nat.reduceLeDiff,reduceIte,Int.reduceAdd,Int.reduceSub,Int.reduceMul,Int.reduceLT,Int.reduceLE,Int.reduceEq,Int.reduceToNat,Int.reduceNeg,fitB,newC,endD,endR,yrg,g10,hw2]
      refine ⟨l.length - (i + 1), by omega, i + 1, j + 1, _, _, rfl, by omega, by rw [htk', List.length_append, ← hj]; rfl, by omega, ?_, ?_, ?_, ?_, ?_, ?_, gw1⟩
      · simp (disch := (first | (simp only [ne_eq,Nat.reduceEqDiff,not_false_eq_true,Nat.reduceLT]; done) | omega | (simp only [yz] <;> omega) | fail)) only [yg,Nat.reduceAdd,Nat.reduceEqDiff,Nat.reduceLT]
      · simp (disch := (first | (simp only [ne_eq,Nat.reduceEqDiff,not_false_eq_true,Nat.reduceLT]; done) | omega | (simp only [yz] <;> omega) | fail)) only [yg,Nat.reduceAdd,Nat.reduceEqDiff,Nat.reduceLT,g9]
      · simp (disch := (first | (simp only [ne_eq,Nat.reduceEqDiff,not_false_eq_true,Nat.reduceLT]; done) | omega | (simp only [yz] <;> omega) | fail)) only [yg,Nat.reduceAdd,Nat.reduceEqDiff,Nat.reduceLT,g8]
      · simp (disch := (first | (simp only [ne_eq,Nat.reduceEqDiff,not_false_eq_true,Nat.reduceLT]; done) | omega | (simp only [yz] <;> omega) | fail)) only [yg,Nat.reduceAdd,Nat.reduceEqDiff,Nat.reduceLT,g1]
      · simp (disch := (first | (simp only [ne_eq,Nat.reduceEqDiff,not_false_eq_true,Nat.reduceLT]; done) | omega | (simp only [yz] <;> omega) | fail)) only [yg,Nat.reduceAdd,Nat.reduceEqDiff,Nat.reduceLT]
      · exact ⟨by omega, fun q hq => by rw [fs2 q (by omega) (gw.low q (by omega)), get_alloc_lt (by omega)]; exact fr.same q hq⟩
  have hie : i = l.length := by have := of_decide_eq_false hT; omega
  subst hie
  rw [List.take_of_length_le (Nat.le_refl _)] at gw hj
  have hpos : 0 < (l.filter f).length := List.length_pos_iff.2 hne
  obtain ⟨bv, al, ev, hS, hb, -⟩ := gw.cons (by omega)
  subst ev
  simp (disch := (first | (simp only [ne_eq,Nat.reduceEqDiff,not_false_eq_true,Nat.reduceLT]; done) | omega | (simp only [yz] <;> omega) | fail)) only [↓yp,yq0,yq1,yq2,yq3,yq4,yl,ys0,ys1,Nat.reduceAdd,Nat.reduceMul,Nat.reduceSub,Nat.reduceBEq,Nat.reduceEqDiff,Nat.reduceLT,Nat.reduceLeDiff,reduceIte,Int.reduceAdd,Int.reduceSub,Int.reduceMul,Int.reduceLT,Int.reduceLE,Int.reduceEq,Int.reduceToNat,Int.reduceNeg,fitB,newC,endD,endR,yrg,g5]
  exact ⟨bv, al, by rw [hj], fr, by have := (gw.own _ hS).1; omega, (gw.own _ hS).2, hb⟩
end
end Go.Am
