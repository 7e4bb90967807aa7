/- Heaviest of the program. -/
import Derived.Test.YtdjklljbninmgaaT37
import Derived.Test.YtdjklljbninmgaaT35
set_option linter.unusedSimpArgs false
set_option linter.unusedVariables false
namespace Go.Am
open Go.Proofs
variable {T : Tab} {P : Program} {N L : Nat} {H : AHeap} {Q : Bool → Value → AHeap → Prop}
/-- The greatest number below k that suits. -/
def down (p : Nat → Bool) : Nat → Option Nat
  | 0 => none
  | k + 1 => if p k then some k else down p k
/-- A load with which the cart is in time. -/
def fits (C : Int) (l : List Str) (w fr to m bm : Int) (ld : Nat) : Bool := !decide (tg (earT C l w ld fr m) to = -1) && decide (tg (earT C l w ld fr m) to ≤ bm)
section
variable {l : List Str} {C w : Int} {a : Option Addr} {cap : Nat}
end
end Go.Am
/- The law StreetLoaded. -/
namespace Go.Am
open Go.Proofs
variable {T : Tab} {P : Program} {N L : Nat} {H : AHeap} {Q : Bool → Value → AHeap → Prop}
section
variable {a : Option Addr} {cap : Nat} {bs : List Int}
end
end Go.Am
/- Bounds of the program; copies of rows of minutes. -/
namespace Go.Am
open Go.Proofs
variable {T : Tab} {P : Program} {N L : Nat} {H : AHeap} {Q : Bool → Value → AHeap → Prop}
section
variable {ex : Exec} {t : Operand → Option Value}
/-- The whole of an array as a row. -/
theorem A_full_of {ty : TypeId} {x : Operand} {len z b o : Nat} {s : Option Nat} (hz : arS T ty = some (len, z)) (hx : t x = some (.pointer (some ⟨b, o, s⟩))) (hlen : len < OPEN) (hpos : 0 < len)
    (hL : L ≤ H.size) (hq : Q true (.slice (some ⟨b, o, none⟩) len len) H) : A T P ex t H L (.slice ty x none none none) Q := by
  unfold A
  show (match still (aSlice T t H ty x none none none) with
    | some (b, v, H', m) => L ≤ m ∧ Q b v H'
    | none => False)
  have : aSlice T t H ty x none none none = some (.slice (some ⟨b, o, none⟩) len len, H, H.size) := by
    unfold arS at hz
    unfold aSlice
    rw [hx]
    cases hu : T.und ty with
    | none => rw [hu] at hz; cases hz
    | some d =>
      cases d with
      | array ln el =>
        rw [hu] at hz
        simp only at hz
        cases hie : T.inf el with
        | none => rw [hie] at hz; cases hz
        | some ie =>
          rw [hie] at hz
          cases hz
          have hab : abounds len len none none none = some (0, len, len) := by
            delta abounds
            simp
          have hne : Nat.beq len 0 = false := beq_ne (by omega)
          simp only [abound,hie,hab,blt_true hlen,cond_true,Nat.sub_zero,hne,cond_false,Nat.zero_mul,Nat.add_zero]
      | _ => rw [hu] at hz; cases hz
  rw [this]
  exact ⟨hL, hq⟩
/-- A copy of a row into another one. -/
theorem A_copy_of {ty : TypeId} {tys : List TypeId} {d s : Operand} {z b o dl dc sl sc : Nat} {sp : Option Nat} {sa : Addr} {l c : List Value} {e : TypeId} {op : Bool} (hz : esS T ty = some z) (hd : t d = some (.slice (some ⟨b, o, sp⟩) dl dc)) (hs : t s = some (.slice (some sa) sl sc))
    (hsrc : srcCells H sa (Nat.min sl dl * z) = some l) (hb : H.get b = .rw c e op []) (hf : o + l.length ≤ c.length) (h1 : oneCells l = true) (hL : L ≤ b) (hq : Q false (.int .i64 (Int.ofNat (Nat.min sl dl))) (H.put b (.rw (zee o l c) e op []))) : A T P ex t H L (.call ⟨.builtin .copy, [d, s].toArray, (ty :: tys).toArray⟩) Q := by
  unfold A
  show (match moves (aCopy T t H (ty :: tys).toArray [d, s].toArray) with
    | some (b, v, H', m) => L ≤ m ∧ Q b v H'
    | none => False)
  unfold esS at hz
  unfold aCopy
  simp only
  cases hu : T.und ty with
  | none => rw [hu] at hz; cases hz
  | some dd =>
    rw [hu] at hz
    cases dd with
    | slice el =>
      simp only at hz
      unfold inS at hz
      cases hi : T.inf el with
      | none => rw [hi] at hz; cases hz
      | some i =>
        rw [hi] at hz
        simp only [Option.some.injEq] at hz
        subst hz
        simp only [hd,hs,hi,hsrc]
        unfold aWrite
        rw [hb]
        have hle : Nat.ble (o + l.length) c.length = true := Nat.ble_eq_true_of_le hf
        simp only [hle,h1,Bool.and_self,cond_true]
        exact ⟨hL, hq⟩
    | _ => cases hz
end
/-- Minutes of the corners that exist, and none of the others. -/
def pad (t : List Int) : List Int := t ++ List.replicate (8 - t.length) (-1)
theorem pad_len {t : List Int} (h : t.length ≤ 8) : (pad t).length = 8 := by
  unfold pad
  rw [List.length_append, List.length_replicate]; omega
theorem tg_pad {t : List Int} {x : Int} (h : t.length ≤ 8) : tg (pad t) x = tg t x := by
  unfold tg pad
  rw [List.getD_eq_getElem?_getD, List.getD_eq_getElem?_getD]
  by_cases e : x.toNat < t.length
  · rw [List.getElem?_append_left e]
  · rw [List.getElem?_append_right (by omega), List.getElem?_replicate, List.getElem?_eq_none (by omega)]
    split <;> rfl
theorem pad_ok {t : List Int} (h : t.length ≤ 8) (ho : ∀ x ∈ t, okM x) : okT (pad t) := by
  refine ⟨pad_len h, fun x => ?_⟩
  rw [tg_pad h]
  unfold tg
  rw [List.getD_eq_getElem?_getD]
  cases he : t[x.toNat]? with
  | none => exact ⟨by simp, by simp⟩
  | some v => exact ho v (List.mem_of_getElem? he)
theorem pad_copy {t : List Int} (h : t.length ≤ 8) : zee 0 (tv t) (tv (List.replicate 8 (-1))) = tv (pad t) := by
  unfold zee pad tv
  rw [List.take_zero, List.nil_append, Nat.zero_add, List.length_map, ← List.map_drop, List.drop_replicate, List.map_append]
theorem c99 {n : Int} : acall tabA (aexec tabA Try.prog (N + 60)) 99 [.int .i64 n] H = some (true, .bool (decide (n = -1) || wi n 0 240), H, H.size) := by
  refine call_quiet (k := 9) (rs := [.tmp 2]) rfl fn_99 rfl rfl rfl ?_ rfl
  cases h : decide (n = -1)
  · simp (disch := (first | (simp only [yk,seval]; done) | omega | (simp only [yz] <;> omega) | fail)) only [↓yp,yq0,yq1,yq2,yq3,yq4,yl,ys0,ys1,seval,zed,zee,zfr,zhw,ysu,yrg,ysv,ysw,h,c100]
  · simp (disch := (first | (simp only [yk,seval]; done) | omega | (simp only [yz] <;> omega) | fail)) only [↓yp,yq0,yq1,yq2,yq3,yq4,yl,ys0,ys1,seval,zed,zee,zfr,zhw,ysu,yrg,ysv,ysw,h]
section
variable {l : List Str} {C w ld : Int} {a : Option Addr} {cap : Nat}
/-- A table bounds: what begins, and one leg more from each corner, better nothing. -/
def bnds (C : Int) (l : List Str) (w ld fr m : Int) (t : List Int) : Bool := decide ((fwd ld).spread l w ld C.toNat ((pad t).set fr.toNat (least2 (tg (pad t) fr) m)) = pad t)
theorem least2_ok {x y : Int} (hx : okM x) (hy : okM y) : okM (least2 x y) := by
  unfold least2
  unfold okM at *
  split
  · exact hy
  · split
    · exact hx
    · split
      · exact hy
      · exact hx
theorem c83s {ad : Addr} {n : Nat} (hL : L ≤ H.size) : resK (acall tabA (aexec tabA Try.prog (N + 30)) 83 [.agg ⟨[.int .i64 C, .slice (some ad) n cap]⟩, .agg ⟨[.int .i64 w, .int .i64 ld]⟩] H) L Q =
    Q false (jobV C (some ad) n cap w ld) ((((H.alloc (.rw [.int .i64 C, .slice (some ad) n cap] 24 false [])).alloc (.rw [.int .i64 w, .int .i64 ld] 26 false [])).alloc (.rw [.int .i64 0, .slice none 0 0, .int .i64 0, .int .i64 0, .int .i64 0] 124 false [])).put (H.size + 1 + 1) (.rw [.int .i64 C, .slice (some ad) n cap, .int .i64 w, .int .i64 ld, .int .i64 (-1)] 124 false [])) := by
  refine call_res (k := 8) (rs := [.cell 4 124]) rfl fn_83 rfl rfl rfl ?_ rfl hL
  simp (disch := (first | (simp only [yk,seval]; done) | omega | (simp only [yz] <;> omega) | fail)) only [↓yp,yq0,yq1,yq2,yq3,yq4,yl,ys0,ys1,seval,zed,zee,zfr,zhw,ysu,yrg,ysv,ysw,A_build zik]
  rfl
theorem c83n : acall tabA (aexec tabA Try.prog (N + 30)) 83 [.agg ⟨[.int .i64 C, .slice none 0 0]⟩, .agg ⟨[.int .i64 w, .int .i64 ld]⟩] H = some (true, jobV C none 0 0 w ld, H, H.size) := by
  refine call_quiet (k := 8) (rs := [.cell 4 124]) rfl fn_83 rfl rfl rfl ?_ rfl
  simp (disch := (first | (simp only [yk,seval]; done) | omega | (simp only [yz] <;> omega) | fail)) only [↓yp,yq0,yq1,yq2,yq3,yq4,yl,ys0,ys1,seval,zed,zee,zfr,zhw,ysu,yrg,ysv,ysw,A_build zik]
  rfl
theorem sl_tv : ∀ t : List Int, sameL (sameV 5) (tv t) (tv t) = true
  | [] => rfl
  | n :: t => by
    show (sameV 5 (.int .i64 n) (.int .i64 n) && sameL (sameV 5) (tv t) (tv t)) = true
    rw [sl_tv t]
    simp [sameV]
set_option maxHeartbeats 4000000 in
theorem c53 {fr m : Int} {t : List Int} {kt ct : Nat} (hs : Sl H a l) (hn : a = none → cap = 0) (hl : l.length ≤ 16) (hC : 1 ≤ C ∧ C ≤ 8) (ho : ∀ s ∈ l, OkS C s) (hw : 1 ≤ w ∧ w ≤ 9) (hd : 0 ≤ ld ∧ ld ≤ 9) (hfr : 0 ≤ fr ∧ fr < C) (hm : 0 ≤ m ∧ m ≤ 240) (htl : t.length = C.toNat) (hto : ∀ x ∈ t, okM x) (hi : Il H (some ⟨kt, 0, none⟩) t) :
    acall tabA (aexec tabA Try.prog (N + 5500)) 53 [.agg ⟨[.int .i64 C, .slice a l.length cap]⟩, .agg ⟨[.int .i64 w, .int .i64 ld]⟩, .int .i64 fr, .int .i64 m, .slice (some ⟨kt, 0, none⟩) C.toNat ct] H = some (true, .tuple ⟨[.bool (bnds C l w ld fr m t), .int .i64 0]⟩, H, H.size) := by
  refine call_quiet (k := 54) (rs := [.tmp 10, .tmp 11]) rfl fn_53 rfl rfl rfl ?_ rfl
  have hck : chk C l = 0 := chk_of hC hl ho
  have g : Good C l ld := good_of hck (off_iff.2 (by omega))
  have h0 : asked C l w ld [fr] [] [m] = 0 := asked_zero hC hl ho hw hd (by simp; omega) (by simp; omega)
  have hcc : decide (((C.toNat : Nat) : Int) = C) = true := by simp; omega
  have hall : (t.all fun n => decide (n = -1) || wi n 0 240) = true := by
    rw [List.all_eq_true]
    intro x hx
    have := hto x hx
    unfold okM at this
    by_cases e : x = -1
    · subst e; rfl
    · unfold wi
      simp
      omega
  have h98 := fun (H' : AHeap) (f : Fr H H') (N : Nat) => c98 (N := N) (g := 99) (caps := []) (cap := ct) (p := fun n => decide (n = -1) || wi n 0 240) (hi.fr f) (by omega) (fun N H' n _ => c99)
  simp (disch := (first | (simp only [yk,seval]; done) | omega | (simp only [yz] <;> omega) | fail)) only [↓yp,yq0,yq1,yq2,yq3,yq4,yl,ys0,ys1,seval,zed,zee,zfr,zhw,ysu,yrg,ysv,ysw,A_buildSlice st_brS_52_1]
  rw [c82e (x := fr) (m := m) (hs.fr (by (repeat (first | exact Fr.refl _ | assumption | refine Fr.allocd ?_ _ | refine Fr.kill ?_ (by first | assumption | omega) | refine Fr.put ?_ (by first | omega | (simp only [yz] <;> omega)) _)))) (by omega) (by simp (disch := (first | (simp only [yk,seval]; done) | omega | (simp only [yz] <;> omega) | fail)) only [yg,Nat.reduceAdd,Nat.reduceEqDiff,Nat.reduceLT]) (by simp (disch := (first | (simp only [yk,seval]; done) | omega | (simp only [yz] <;> omega) | fail)) only [yg,Nat.reduceAdd,Nat.reduceEqDiff,Nat.reduceLT]), h0]
  simp (disch := (first | (simp only [yk,seval]; done) | omega | (simp only [yz] <;> omega) | fail)) only [↓yp,yq0,yq1,yq2,yq3,yq4,yl,ys0,ys1,seval,zed,zee,zfr,zhw,ysu,yrg,ysv,ysw,lenV_slice zir,hcc]
  rw [htl] at h98
  rw [h98 _ (by (repeat (first | exact Fr.refl _ | assumption | refine Fr.allocd ?_ _ | refine Fr.kill ?_ (by first | assumption | omega) | refine Fr.put ?_ (by first | omega | (simp only [yz] <;> omega)) _))), hall]
  simp (disch := (first | (simp only [yk,seval]; done) | omega | (simp only [yz] <;> omega) | fail)) only [↓yp,yq0,yq1,yq2,yq3,yq4,yl,ys0,ys1,seval,zed,zee,zfr,zhw,ysu,yrg,ysv,ysw,c101]
  have htl8 : t.length ≤ 8 := by omega
  have hp := pad_ok htl8 hto
  have r8 : (List.replicate 8 (-1 : Int)).length = 8 := List.length_replicate
  have nall : zee 0 (tv (List.replicate 8 (-1))) zeros8 = tv (List.replicate 8 (-1)) := newC_all (by rw [tv_len, r8]; rfl)
  have nall2 : zee 0 (tv (pad t)) zeros8 = tv (pad t) := newC_all (by rw [tv_len, hp.1]; rfl)
  have ptv := part_tv hp.1
  have hat := tv_at hp.1 (x := fr) (by omega)
  have hb0 : okM (least2 (tg (pad t) fr) m) := least2_ok (hp.2 fr) ⟨by omega, by omega⟩
  have hbt : okT ((pad t).set fr.toNat (least2 (tg (pad t) fr) m)) := okT_set hp (by omega) hb0
  have nset : List.take fr.toNat (tv (pad t)) ++ [.int .i64 (least2 (tg (pad t) fr) m)] ++ List.drop (fr.toNat + 1) (tv (pad t)) = tv ((pad t).set fr.toNat (least2 (tg (pad t) fr) m)) := newC_tv (by have := hp.1; omega)
  have hfit : decide (fr.toNat ≤ 7) = true := by simp; omega
  have hsrc : ∀ H', Fr H H' → srcCells H' ⟨kt, 0, none⟩ (Nat.min C.toNat 8 * 1) = some (tv t) := fun H' f => by
    have := (hi.fr f).src (fun h => by rw [h] at htl; simp at htl; omega)
    rwa [show Nat.min C.toNat 8 = t.length by rw [htl]; exact Nat.min_eq_left (by omega)]
  simp only [zee,zeros8] at nall nall2
  simp (disch := (first | (simp only [yk,seval]; done) | omega | (simp only [yz] <;> omega) | fail)) only [↓yp,yq0,yq1,yq2,yq3,yq4,yl,ys0,ys1,seval,zed,zee,zfr,zhw,ysu,yrg,ysv,ysw,tv_len,r8,one_tv,nall]
  refine A_full_of (b := H.size + 1 + 1 + 1 + 1) (o := 0) (s := none) st_arS_130 (by simp (disch := (first | (simp only [yk,seval]; done) | omega | (simp only [yz] <;> omega) | fail)) only [↓yp,yq0,yq1,yq2,yq3,yq4,yl,ys0,ys1,seval,zed,zee,zfr,zhw,ysu,yrg,ysv,ysw]) (by unfold OPEN; omega) (by omega) (by (first | omega | (simp only [yz] <;> omega))) ?_
  simp (disch := (first | (simp only [yk,seval]; done) | omega | (simp only [yz] <;> omega) | fail)) only [↓yp,yq0,yq1,yq2,yq3,yq4,yl,ys0,ys1,seval,zed,zee,zfr,zhw,ysu,yrg,ysv,ysw]
  refine A_copy_of (z := 1) (b := H.size + 1 + 1 + 1 + 1) (o := 0) (sp := none) (dc := 8) (sc := ct) (l := tv t) (c := tv (List.replicate 8 (-1))) (e := 130) (op := false) (dl := 8) (sl := C.toNat) (sa := ⟨kt, 0, none⟩) zir (by simp (disch := (first | (simp only [yk,seval]; done) | omega | (simp only [yz] <;> omega) | fail)) only [↓yp,yq0,yq1,yq2,yq3,yq4,yl,ys0,ys1,seval,zed,zee,zfr,zhw,ysu,yrg,ysv,ysw]) (by simp (disch := (first | (simp only [yk,seval]; done) | omega | (simp only [yz] <;> omega) | fail)) only [↓yp,yq0,yq1,yq2,yq3,yq4,yl,ys0,ys1,seval,zed,zee,zfr,zhw,ysu,yrg,ysv,ysw]) (hsrc _ (by (repeat (first | exact Fr.refl _ | assumption | refine Fr.allocd ?_ _ | refine Fr.kill ?_ (by first | assumption | omega) | refine Fr.put ?_ (by first | omega | (simp only [yz] <;> omega)) _)))) (by simp (disch := (first | (simp only [yk,seval]; done) | omega | (simp only [yz] <;> omega) | fail)) only [↓yp,yq0,yq1,yq2,yq3,yq4,yl,ys0,ys1,seval,zed,zee,zfr,zhw,ysu,yrg,ysv,ysw]) (by rw [tv_len, tv_len, r8]; omega) (one_tv _) (by omega) ?_
  rw [pad_copy htl8]
  simp (disch := (first | (simp only [yk,seval]; done) | omega | (simp only [yz] <;> omega) | fail)) only [↓yp,yq0,yq1,yq2,yq3,yq4,yl,ys0,ys1,seval,zed,zee,zfr,zhw,ysu,yrg,ysv,ysw,ptv,tv_len,hp.1,one_tv,nall2,A_indexArr st_arS_130,hat,A_buildSlice st_brS_52_2,hfit]
  rw [c102 (m := tg (pad t) fr) (o := m) (by simp (disch := (first | (simp only [yk,seval]; done) | omega | (simp only [yz] <;> omega) | fail)) only [yg,Nat.reduceAdd,Nat.reduceEqDiff,Nat.reduceLT]) (by (first | omega | (simp only [yz] <;> omega)))]
  simp (disch := (first | (simp only [yk,seval]; done) | omega | (simp only [yz] <;> omega) | fail)) only [↓yp,yq0,yq1,yq2,yq3,yq4,yl,ys0,ys1,seval,zed,zee,zfr,zhw,ysu,yrg,ysv,ysw,ptv,tv_len,hp.1,one_tv,nall2,A_indexArr st_arS_130,hat,nset,hfit]
  have hsp := (fwd_ok g).spread (w := w) (ld := ld) (k := C.toNat) hbt
  refine W_gen (fun e H' => gt 54 e 5 = .pointer (some ⟨H.size, 0, none⟩) ∧ gt 54 e 6 = .pointer (some ⟨H.size + 1, 0, none⟩) ∧ gt 54 e 13 = .pointer (some ⟨H.size + 1 + 1 + 1 + 1, 0, none⟩) ∧ gt 54 e 14 = .pointer (some ⟨H.size + 1 + 1 + 1 + 1 + 1, 0, none⟩) ∧ Fr H H' ∧ H.size + 1 + 1 + 1 + 1 + 1 < H'.size ∧ H'.get H.size = .rw [.int .i64 C, .slice a l.length cap] 24 false [] ∧ H'.get (H.size + 1) = .rw [.int .i64 w, .int .i64 ld] 26 false [] ∧ H'.get (H.size + 1 + 1 + 1 + 1) = .rw (tv (pad t)) 130 false [] ∧ H'.get (H.size + 1 + 1 + 1 + 1 + 1) = .rw (tv ((pad t).set fr.toNat (least2 (tg (pad t) fr) m))) 130 false []) ⟨?_, ?_, ?_, ?_, by (repeat (first | exact Fr.refl _ | assumption | refine Fr.allocd ?_ _ | refine Fr.kill ?_ (by first | assumption | omega) | refine Fr.put ?_ (by first | omega | (simp only [yz] <;> omega)) _)), by (first | omega | (simp only [yz] <;> omega)), ?_, ?_, ?_, ?_⟩ ?_
  iterate 7 simp (disch := (first | (simp only [yk,seval]; done) | omega | (simp only [yz] <;> omega) | fail)) only [yg,Nat.reduceAdd,Nat.reduceEqDiff,Nat.reduceLT]
  · simp (disch := (first | (simp only [yk,seval]; done) | omega | (simp only [yz] <;> omega) | fail)) only [yg,Nat.reduceAdd,Nat.reduceEqDiff,Nat.reduceLT,nset]
  rintro e H' ⟨g5, g6, g13, g14, fr', sz, b5, b6, b13, b14⟩
  have sH : Sl H' a l := hs.fr fr'
  have h104 := fun (H'' : AHeap) (f : Fr H' H'') (N : Nat) => c104 (N := N) (C := C) (lf := -1) (cap := cap) (fwd_ok g) g.known hC (by omega) (dirF (cap := cap) (w := w) g (sH.fr f)) hbt
  simp only [jobG] at h104
  have ptv2 := part_tv hbt.1
  have heq := binV_eql_130 (x := .tmp 51) (y := .tmp 52) hsp.1 hp
  have hbn : bnds C l w ld fr m t = decide ((fwd ld).spread l w ld C.toNat ((pad t).set fr.toNat (least2 (tg (pad t) fr) m)) = pad t) := rfl
  rw [hbn]
  cases a with
  | none =>
    obtain rfl := hn rfl
    have hl0 := sH.none_len rfl
    have h103 := fun (N : Nat) (H₁ : AHeap) (Q : Bool → Value → AHeap → Prop) (hL : H.size ≤ H₁.size) => c103 (N := N) (H := H₁) (Q := Q) (L := H.size) (C := C) (w := w) (ld := ld) (lf := -1) (a := none) (n := 0) (cap := 0) hL
    simp only [jobG] at h103
    rw [hl0] at h104 b5
    refine W_draw [3] rfl (by kernel_rfl) (by kernel_rfl) (by (first | omega | (simp only [yz] <;> omega))) ?_
    simp (disch := (first | (simp only [yk,seval]; done) | omega | (simp only [yz] <;> omega) | fail)) only [↓yp,yq0,yq1,yq2,yq3,yq4,yl,ys0,ys1,seval,zed,zee,zfr,zhw,ysu,yrg,ysv,ysw,g5,g6,g13,g14,b5,b6,b13,b14,ptv,ptv2,c83n,jobV]
    rw [h103 _ _ _ (by (first | omega | (simp only [yz] <;> omega)))]
    simp (disch := (first | (simp only [yk,seval]; done) | omega | (simp only [yz] <;> omega) | fail)) only [↓yp,yq0,yq1,yq2,yq3,yq4,yl,ys0,ys1,seval,zed,zee,zfr,zhw,ysu,yrg,ysv,ysw,g5,g6,g13,g14,b5,b6,b13,b14,ptv,ptv2,c83n,jobV]
    rw [h104 _ (by (repeat (first | exact Fr.refl _ | assumption | refine Fr.allocd ?_ _ | refine Fr.kill ?_ (by first | assumption | omega) | refine Fr.put ?_ (by first | omega | (simp only [yz] <;> omega)) _)))]
    simp (disch := (first | (simp only [yk,seval]; done) | omega | (simp only [yz] <;> omega) | fail)) only [↓yp,yq0,yq1,yq2,yq3,yq4,yl,ys0,ys1,seval,zed,zee,zfr,zhw,ysu,yrg,ysv,ysw,g5,g6,g13,g14,b5,b6,b13,b14,ptv,ptv2,c83n,jobV,heq,sl_tv]
    iterate 2
      rw [h104 _ (by (repeat (first | exact Fr.refl _ | assumption | refine Fr.allocd ?_ _ | refine Fr.kill ?_ (by first | assumption | omega) | refine Fr.put ?_ (by first | omega | (simp only [yz] <;> omega)) _)))]
      simp (disch := (first | (simp only [yk,seval]; done) | omega | (simp only [yz] <;> omega) | fail)) only [↓yp,yq0,yq1,yq2,yq3,yq4,yl,ys0,ys1,seval,zed,zee,zfr,zhw,ysu,yrg,ysv,ysw,g5,g6,g13,g14,b5,b6,b13,b14,ptv,ptv2,c83n,jobV,heq,sl_tv]
  | some ad =>
    refine W_draw [2, 3] rfl (by kernel_rfl) (by kernel_rfl) (by (first | omega | (simp only [yz] <;> omega))) ?_
    have h103 := fun (N : Nat) (H₁ : AHeap) (Q : Bool → Value → AHeap → Prop) (hL : H.size ≤ H₁.size) => c103 (N := N) (H := H₁) (Q := Q) (L := H.size) (C := C) (w := w) (ld := ld) (lf := -1) (a := some ad) (n := l.length) (cap := cap) hL
    simp only [jobG] at h103
    simp (disch := (first | (simp only [yk,seval]; done) | omega | (simp only [yz] <;> omega) | fail)) only [↓yp,yq0,yq1,yq2,yq3,yq4,yl,ys0,ys1,seval,zed,zee,zfr,zhw,ysu,yrg,ysv,ysw,g5,g6,g13,g14,b5,b6,b13,b14,ptv,ptv2,c83s,jobV]
    rw [h103 _ _ _ (by (first | omega | (simp only [yz] <;> omega)))]
    simp (disch := (first | (simp only [yk,seval]; done) | omega | (simp only [yz] <;> omega) | fail)) only [↓yp,yq0,yq1,yq2,yq3,yq4,yl,ys0,ys1,seval,zed,zee,zfr,zhw,ysu,yrg,ysv,ysw,g5,g6,g13,g14,b5,b6,b13,b14,ptv,ptv2,c83s,jobV]
    rw [h104 _ (by (repeat (first | exact Fr.refl _ | assumption | refine Fr.allocd ?_ _ | refine Fr.kill ?_ (by first | assumption | omega) | refine Fr.put ?_ (by first | omega | (simp only [yz] <;> omega)) _)))]
    simp (disch := (first | (simp only [yk,seval]; done) | omega | (simp only [yz] <;> omega) | fail)) only [↓yp,yq0,yq1,yq2,yq3,yq4,yl,ys0,ys1,seval,zed,zee,zfr,zhw,ysu,yrg,ysv,ysw,g5,g6,g13,g14,b5,b6,b13,b14,ptv,ptv2,c83s,jobV,heq,sl_tv]
    iterate 3
      rw [h104 _ (by (repeat (first | exact Fr.refl _ | assumption | refine Fr.allocd ?_ _ | refine Fr.kill ?_ (by first | assumption | omega) | refine Fr.put ?_ (by first | omega | (simp only [yz] <;> omega)) _)))]
      simp (disch := (first | (simp only [yk,seval]; done) | omega | (simp only [yz] <;> omega) | fail)) only [↓yp,yq0,yq1,yq2,yq3,yq4,yl,ys0,ys1,seval,zed,zee,zfr,zhw,ysu,yrg,ysv,ysw,g5,g6,g13,g14,b5,b6,b13,b14,ptv,ptv2,c83s,jobV,heq,sl_tv]
end
end Go.Am
