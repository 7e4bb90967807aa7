import Derived.Test.YtdjklljbninmgaaT52
set_option linter.unusedSimpArgs false
set_option linter.unusedVariables false
namespace Go.Am
open Go.Proofs
variable {T : Tab} {P : Program} {N L : Nat} {H : AHeap} {Q : Bool → Value → AHeap → Prop}
section
variable {l : List Str} {C w ld fr a₀ : Int}
theorem tg_ext {t t' : List Int} (h : t.length = 8) (h' : t'.length = 8) (he : ∀ x : Int, 0 ≤ x → x ≤ 7 → tg t x = tg t' x) : t = t' := by
  apply List.ext_getElem?
  intro i
  by_cases hi : i < 8
  · have := he (i : Int) (by omega) (by omega)
    unfold tg at this
    rw [List.getD_eq_getElem?_getD, List.getD_eq_getElem?_getD, Int.toNat_natCast, List.getElem?_eq_getElem (by omega), List.getElem?_eq_getElem (by omega)] at this
    rw [List.getElem?_eq_getElem (by omega), List.getElem?_eq_getElem (by omega)]
    simpa using this
  · rw [List.getElem?_eq_none (by omega), List.getElem?_eq_none (by omega)]
theorem bnds_own (g : Good C l ld) (hfr : 0 ≤ fr ∧ fr < C) (ha : 0 ≤ a₀ ∧ a₀ ≤ 240) : bnds C l w ld fr a₀ ((earT C l w ld fr a₀).take C.toNat) = true := by
  have hC := g.hC
  have ok := earT_ok (w := w) g hfr ha
  have E := earT_is (w := w) g hfr ha
  have hst := (fwd_ok g).stable (w := w) (ld := ld) (k := C.toNat) (begT_ok (x := fr) (m := a₀) (by omega) ⟨by omega, by omega⟩)
  change (fwd ld).spread l w ld C.toNat (earT C l w ld fr a₀) = earT C l w ld fr a₀ at hst
  have hlt : ((earT C l w ld fr a₀).take C.toNat).length = C.toNat := by rw [List.length_take, ok.1]; omega
  have hpad : pad ((earT C l w ld fr a₀).take C.toNat) = earT C l w ld fr a₀ := by
    refine tg_ext (pad_len (by omega)) ok.1 fun x h0 h7 => ?_
    rw [tg_pad (by omega)]
    by_cases hx : x < C
    · unfold tg
      rw [List.getD_eq_getElem?_getD, List.getD_eq_getElem?_getD, List.getElem?_take, if_pos (by omega)]
    · have h1 : tg (earT C l w ld fr a₀) x = -1 := by
        apply Classical.byContradiction
        intro h
        have := (E.can x h0 h).corner hfr g
        omega
      rw [h1]
      unfold tg
      rw [List.getD_eq_getElem?_getD, List.getElem?_eq_none (by omega)]; rfl
  have hb := E.le a₀ fr hfr.1 .start
  have hb2 := ((E.can fr hfr.1 hb.1).le ha.2 g).1
  have he : tg (earT C l w ld fr a₀) fr = a₀ := by omega
  have hls : least2 (tg (earT C l w ld fr a₀) fr) a₀ = a₀ := by rw [he]; unfold least2; split <;> simp
  have hset : (earT C l w ld fr a₀).set fr.toNat a₀ = earT C l w ld fr a₀ := by
    refine tg_ext (by rw [List.length_set]; exact ok.1) ok.1 fun x h0 h7 => ?_
    rw [tg_set ok.1 (by omega) h0]
    split
    · rename_i e; rw [e, he]
    · rfl
  unfold bnds
  rw [hpad, hls, hset, hst]
  simp
theorem fol_app : ∀ (ls ls' : List (Int × Bool)) (x m : Int), (folL l w ld x m ls).2.2 = 0 → (∀ p ∈ ls, l[p.1.toNat]? ≠ none) → folL l w ld x m (ls ++ ls') = folL l w ld (folL l w ld x m ls).1 (folL l w ld x m ls).2.1 ls'
  | [], ls', x, m, _, _ => rfl
  | p :: ls, ls', x, m, h, hp => by
    have hp0 := hp p (by simp)
    have hp1 := fun q hq => hp q (List.mem_cons_of_mem _ hq)
    rw [List.cons_append]
    simp only [folL] at h ⊢
    cases hs : l[p.1.toNat]? with
    | none => exact absurd hs hp0
    | some s =>
      rw [hs] at h
      simp only at h ⊢
      split
      · rename_i h1
        rw [if_pos h1] at h
        split
        · rename_i h2
          rw [if_pos h2] at h
          simp at h
        · rename_i h2
          rw [if_neg h2] at h
          exact fol_app ls ls' _ _ h hp1
      · rename_i h1
        rw [if_neg h1] at h
        simp at h
theorem run_fol {x : Stt} {m : Int} {ls : List (Int × Bool)} (h : Run l w ld (nxt dn0) (fr, 0) a₀ ls x m) : folL l w ld fr a₀ ls = (x.1, m, 0) ∧ ∀ p ∈ ls, 0 ≤ p.1 ∧ l[p.1.toNat]? ≠ none := by
  induction h with
  | nil => exact ⟨rfl, fun p hp => by simp at hp⟩
  | @snoc ls x m i r b h hi hm hn ha hlt ih =>
    have hi' := (List.getElem?_eq_some_iff.1 hi).1
    refine ⟨?_, fun p hp => ?_⟩
    · rw [fol_app _ _ _ _ (by rw [ih.1]) (fun p hp => (ih.2 p hp).2), ih.1]
      simp only [folL,Int.toNat_natCast,hi]
      rw [if_pos hn]
      have hp : pasL r b w ld m = arriveL r b ld m := by unfold pasL; rw [hm]; rfl
      rw [hp, if_neg ha]
      rfl
    · rcases List.mem_append.1 hp with hp | hp
      · exact ih.2 p hp
      · simp only [List.mem_singleton] at hp
        subst hp
        simp only [Int.toNat_natCast]
        exact ⟨by omega, by rw [hi]; simp⟩
theorem run_folG {x : Int} {m : Int} {ls : List (Int × Bool)} (hC : 1 ≤ C ∧ C ≤ 8) (hl : l.length ≤ 16) (ho : ∀ s ∈ l, OkS C s) (hw : 1 ≤ w ∧ w ≤ 9) (hd : 0 ≤ ld ∧ ld ≤ 9) (hfr : 0 ≤ fr ∧ fr < C) (ha : 0 ≤ a₀ ∧ a₀ ≤ 240) (h : Run l w ld (nxt dn0) (fr, 0) a₀ ls (x, 0) m) (h7 : ls.length ≤ 7) : folG C l w ld fr a₀ ls = (x, m, 0) := by
  obtain ⟨h1, h2⟩ := run_fol h
  have h0 : asked C l w ld [fr] (ls.map (·.1)) [a₀] = 0 := asked_of (chk_of hC hl ho) (off_iff.2 hw) (off_iff.2 hd) (by simp; omega) (by
    intro n hn
    obtain ⟨p, hp, rfl⟩ := List.mem_map.1 hn
    obtain ⟨q1, q2⟩ := h2 p hp
    have : p.1.toNat < l.length := by
      apply Classical.byContradiction
      intro hge
      exact q2 (List.getElem?_eq_none (by omega))
    omega) (by simp; omega)
  unfold folG
  rw [if_neg (by simpa using h0), if_neg (by omega), h1]
end
section
variable {l : List Str} {C w ld fr wh wn : Int} {i8 i9 k16 c16 : Nat} {a' b2 : Option Addr} {cap' cap2 : Nat} {bs2 : List Int} {H' : AHeap} {e : VT}
structure FS (H : AHeap) (C w ld : Int) (l : List Str) (i8 i9 : Nat) (a' : Option Addr) (cap' : Nat) (b2 : Option Addr) (bs2 : List Int) (cap2 : Nat) (fr wh wn : Int) (k16 c16 : Nat) (e : VT) (H' : AHeap) : Prop where
  q : LQ 198 11 12 H C w ld l i8 i9 a' cap' e H'
  g10 : gt 198 e 10 = .pointer (some ⟨H.size + 1, 0, none⟩)
  g13 : gt 198 e 13 = .int .i64 fr
  g14 : gt 198 e 14 = .int .i64 wh
  g15 : gt 198 e 15 = .int .i64 wn
  g16 : gt 198 e 16 = .slice (some ⟨k16, 0, none⟩) C.toNat c16
  h8 : H.size + 1 < i8 ∧ i8 < k16
  h9 : H.size + 1 < i9 ∧ i9 < k16
  kk : H.size + 1 < k16
  l16 : k16 < H'.size
  b16 : H'.get k16 = .rw (tv ((earT C l w ld fr wn).take C.toNat)) 3 true []
  c2 : Chu H' (H.size + 1) b2 bs2 cap2
theorem FS.next {e' : VT} {H'' : AHeap} (I : FS H C w ld l i8 i9 a' cap' b2 bs2 cap2 fr wh wn k16 c16 e H') (f : Fr H' H'') (h : Keep 198 [10, 11, 12, 13, 14, 15, 16] e e') : FS H C w ld l i8 i9 a' cap' b2 bs2 cap2 fr wh wn k16 c16 e' H'' where
  q := I.q.next f (fun p hp => h p (by simp at hp ⊢; omega))
  g10 := (h 10 (by simp)).trans I.g10
  g13 := (h 13 (by simp)).trans I.g13
  g14 := (h 14 (by simp)).trans I.g14
  g15 := (h 15 (by simp)).trans I.g15
  g16 := (h 16 (by simp)).trans I.g16
  h8 := I.h8
  h9 := I.h9
  kk := I.kk
  l16 := Nat.lt_of_lt_of_le I.l16 f.size
  b16 := (f.same _ I.l16).trans I.b16
  c2 := I.c2.fr f
theorem FS.frx {e' : VT} {H'' : AHeap} (I : FS H C w ld l i8 i9 a' cap' b2 bs2 cap2 fr wh wn k16 c16 e H') (hc : Chu H'' (H.size + 1) b2 bs2 cap2) (f : FrX (H.size + 1) H' H'') (h : Keep 198 [10, 11, 12, 13, 14, 15, 16] e e') : FS H C w ld l i8 i9 a' cap' b2 bs2 cap2 fr wh wn k16 c16 e' H'' where
  q := I.q.frx (by have := I.h8; omega) (by have := I.h9; omega) (by omega) I.c2 f (fun p hp => h p (by simp at hp ⊢; omega))
  g10 := (h 10 (by simp)).trans I.g10
  g13 := (h 13 (by simp)).trans I.g13
  g14 := (h 14 (by simp)).trans I.g14
  g15 := (h 15 (by simp)).trans I.g15
  g16 := (h 16 (by simp)).trans I.g16
  h8 := I.h8
  h9 := I.h9
  kk := I.kk
  l16 := Nat.lt_of_lt_of_le I.l16 f.size
  b16 := (f.same _ I.l16 (by have := I.kk; omega)).trans I.b16
  c2 := hc
end
end Go.Am
namespace Go.Am
open Go.Proofs
variable {T : Tab} {P : Program} {N L : Nat} {H : AHeap} {Q : Bool → Value → AHeap → Prop}
theorem neqFFp {x y : Operand} : pureRun Try.prog (do eqGuard .neq 4 x y (.bool false) (.bool false); binOp .neq 4 (.bool false) (.bool false)) = some (.bool false) := by kernel_rfl
theorem neqFF {x y : Operand} : binV tabA Try.prog .neq 4 x y (.bool false) (.bool false) = some (.bool false) := by
  unfold binV
  rw [show aEqV Try.prog .neq 4 (some (.bool false)) (some (.bool false)) = none from rfl]
  simp only [show gr (.bool false) = true from rfl,Bool.and_self,cond_true]
  rw [neqFFp]
  rfl
theorem neqTTp {x y : Operand} : pureRun Try.prog (do eqGuard .neq 4 x y (.bool true) (.bool true); binOp .neq 4 (.bool true) (.bool true)) = some (.bool false) := by kernel_rfl
theorem neqTT {x y : Operand} : binV tabA Try.prog .neq 4 x y (.bool true) (.bool true) = some (.bool false) := by
  unfold binV
  rw [show aEqV Try.prog .neq 4 (some (.bool true)) (some (.bool true)) = none from rfl]
  simp only [show gr (.bool true) = true from rfl,Bool.and_self,cond_true]
  rw [neqTTp]
  rfl
structure FD (H : AHeap) (C w ld : Int) (l : List Str) (fr wn wh : Int) (e : VT) (H' : AHeap) : Prop where
  g18 : gt 198 e 18 = .int .i64 (if tg (earT C l w ld fr wn) wh = -1 then 0 else tg (earT C l w ld fr wn) wh)
  g19 : gt 198 e 19 = .int .i64 (if tg (earT C l w ld fr wn) wh = -1 then 1 else 0)
  dr : tg (earT C l w ld fr wn) wh ≠ -1 → ∃ v ls base, gt 198 e 17 = v ∧ H.size + 1 < base ∧ RowL H' v ls base ∧ Run l w ld (nxt dn0) (fr, 0) wn ls (wh, 0) (tg (earT C l w ld fr wn) wh) ∧ ls.length ≤ 7
theorem RowL.frx {H' : AHeap} {v : Value} {ls : List (Int × Bool)} {base k : Nat} (R : RowL H v ls base) (f : FrX k H H') (hk : k < base) : RowL H' v ls base := ⟨R.nil, fun h => by
  obtain ⟨b, al, h1, h2, h3, h4, h5⟩ := R.cons h
  exact ⟨b, al, h1, h2, Nat.lt_of_lt_of_le h3 f.size, h4, by rw [f.same _ h3 (by omega)]; exact h5⟩⟩
section
variable {C w ld fr wn wh : Int} {l : List Str} {e e' : VT} {H' H'' : AHeap}
theorem FD.frx (D : FD H C w ld l fr wn wh e H') (f : FrX (H.size + 1) H' H'') (k : Keep 198 [17, 18, 19] e e') : FD H C w ld l fr wn wh e' H'' where
  g18 := (k 18 (by simp)).trans D.g18
  g19 := (k 19 (by simp)).trans D.g19
  dr h := by
    obtain ⟨v, ls, base, h1, h2, h3, h4⟩ := D.dr h
    exact ⟨v, ls, base, (k 17 (by simp)).trans h1, h2, h3.frx f h2, h4⟩
theorem FD.next (D : FD H C w ld l fr wn wh e H') (f : Fr H' H'') (k : Keep 198 [17, 18, 19] e e') : FD H C w ld l fr wn wh e' H'' := D.frx (FrX.of f) k
end
section
variable {a b2 : Option Addr} {cap cap2 : Nat} {bs bs2 : List Int}
set_option maxHeartbeats 4000000 in
set_option maxRecDepth 10000 in
theorem c7 {x y : Int} (hb : Bts H a bs) (hb2 : Bts H b2 bs2) (hx : 0 ≤ x ∧ x < 256) (hy : 0 ≤ y ∧ y < 256) :
    acall tabA (aexec tabA Try.prog (N + 24000)) 7 [.slice a bs.length cap, .slice b2 bs2.length cap2, .int .u8 x, .int .u8 y] H = some (true, .bool true, H, H.size) := by
  refine call_quiet (k := 198) (rs := [.tmp 8]) rfl fn_7 rfl rfl rfl ?_ rfl
  refine W_seqI (fun e' H'' => gt 198 e' 0 = .slice a bs.length cap ∧ gt 198 e' 1 = .slice b2 bs2.length cap2 ∧ gt 198 e' 2 = .int .u8 x ∧ gt 198 e' 3 = .int .u8 y ∧ H = H'') ?_ ?_
  · simp (disch := (first | (simp only [yk,seval]; done) | omega | (simp only [yz] <;> omega) | fail)) only [↓yp,yq0,yq1,yq2,yq3,yq4,yl,ys0,ys1,seval,zed,zee,zfr,zhw,ysu,yrg,ysv,ysw,ysx,ysz,ysa]
    refine ⟨?_, ?_, ?_, ?_, rfl⟩
    · simp (disch := (first | (simp only [yk,seval]; done) | omega | (simp only [yz] <;> omega) | fail)) only [yg,seval]
    · simp (disch := (first | (simp only [yk,seval]; done) | omega | (simp only [yz] <;> omega) | fail)) only [yg,seval]
    · simp (disch := (first | (simp only [yk,seval]; done) | omega | (simp only [yz] <;> omega) | fail)) only [yg,seval]
    · simp (disch := (first | (simp only [yk,seval]; done) | omega | (simp only [yz] <;> omega) | fail)) only [yg,seval]
  rintro e1 H1 ⟨g0, g1, g2, g3, rfl⟩
  refine W_seqI (fun e' H'' => gt 198 e' 2 = .int .u8 x ∧ gt 198 e' 3 = .int .u8 y ∧ gt 198 e' 9 = .pointer (some ⟨H.size, 0, none⟩) ∧ gt 198 e' 10 = .pointer (some ⟨H.size + 1, 0, none⟩) ∧ Fr H H'' ∧ H''.size = H.size + 2 ∧ Chu H'' H.size a bs cap ∧ Chu H'' (H.size + 1) b2 bs2 cap2) ?_ ?_
  · simp (disch := (first | (simp only [yk,seval]; done) | omega | (simp only [yz] <;> omega) | fail)) only [↓yp,yq0,yq1,yq2,yq3,yq4,yl,ys0,ys1,seval,zed,zee,zfr,zhw,ysu,yrg,ysv,ysw,ysx,ysz,ysa,g0]
    refine c48 hb (Nat.le_refl _) (by omega) ?_
    intro H2 fr1 hs1 hc1
    simp (disch := (first | (simp only [yk,seval]; done) | omega | (simp only [yz] <;> omega) | fail)) only [↓yp,yq0,yq1,yq2,yq3,yq4,yl,ys0,ys1,seval,zed,zee,zfr,zhw,ysu,yrg,ysv,ysw,ysx,ysz,ysa,g1]
    refine c48 (hb2.fr fr1) (by omega) (by omega) ?_
    intro H3 fr2 hs2 hc2
    rw [hs1] at hc2 hs2 ⊢
    simp (disch := (first | (simp only [yk,seval]; done) | omega | (simp only [yz] <;> omega) | fail)) only [↓yp,yq0,yq1,yq2,yq3,yq4,yl,ys0,ys1,seval,zed,zee,zfr,zhw,ysu,yrg,ysv,ysw,ysx,ysz,ysa]
    refine ⟨?_, ?_, ?_, ?_, fr1.trans fr2, by omega, hc1.fr fr2, hc2⟩
    · simp (disch := (first | (simp only [yk,seval]; done) | omega | (simp only [yz] <;> omega) | fail)) only [yg,seval,g2]
    · simp (disch := (first | (simp only [yk,seval]; done) | omega | (simp only [yz] <;> omega) | fail)) only [yg,seval,g3]
    · simp (disch := (first | (simp only [yk,seval]; done) | omega | (simp only [yz] <;> omega) | fail)) only [yg,seval]
    · simp (disch := (first | (simp only [yk,seval]; done) | omega | (simp only [yz] <;> omega) | fail)) only [yg,seval]
  clear g0 g1 g2 g3
  rintro e2 H1 ⟨g2, g3, g9, g10, fr1, hs1, hc1, hd1⟩
  refine W_seqI (fun e' H'' => ∃ a' cap' C l i8, gt 198 e' 2 = .int .u8 x ∧ gt 198 e' 3 = .int .u8 y ∧ gt 198 e' 9 = .pointer (some ⟨H.size, 0, none⟩) ∧ gt 198 e' 10 = .pointer (some ⟨H.size + 1, 0, none⟩) ∧ gt 198 e' 11 = .pointer (some ⟨i8, 0, none⟩) ∧ (2 ≤ C ∧ C ≤ 8) ∧ (l.length : Int) ≤ 16 ∧ (∀ s ∈ l, OkS C s) ∧ (a' = none → cap' = 0) ∧ Sl H'' a' l ∧ H''.get i8 = .rw [.int .i64 C, .slice a' l.length cap'] 24 false [] ∧ H.size + 1 < i8 ∧ i8 < H''.size ∧ Fr H H'' ∧ Chu H'' H.size a bs cap ∧ Chu H'' (H.size + 1) b2 bs2 cap2) ?_ ?_
  · simp (disch := (first | (simp only [yk,seval]; done) | omega | (simp only [yz] <;> omega) | fail)) only [↓yp,yq0,yq1,yq2,yq3,yq4,yl,ys0,ys1,seval,zed,zee,zfr,zhw,ysu,yrg,ysv,ysw,ysx,ysz,ysa,g9]
    refine c49 hc1 (by omega) (by omega) (Nat.le_refl _) (by omega) ?_
    intro f2 a' cap' C l H2 hC1 hC2 hl ho hn hsl hc2 hx2
    have sz2 := hx2.size
    have hd2 := hd1.frx hc1 (by omega) hx2
    simp (disch := (first | (simp only [yk,seval]; done) | omega | (simp only [yz] <;> omega) | fail)) only [↓yp,yq0,yq1,yq2,yq3,yq4,yl,ys0,ys1,seval,zed,zee,zfr,zhw,ysu,yrg,ysv,ysw,ysx,ysz,ysa]
    refine ⟨a', cap', C, l, H2.size, ?_, ?_, ?_, ?_, ?_, by omega, by omega, ho, hn, Sl.put (hsl.fr (Fr.alloc _ _)) (c := [.int .i64 0, .slice none 0 0]) (by rw [zda rfl]; rfl) (by simp), zdc (by (first | omega | (simp only [yz] <;> omega))), by omega, by (first | omega | (simp only [yz] <;> omega)), Fr.put (Fr.allocd (hx2.above fr1 (Nat.le_refl _)) _) (by omega) _, (hc2.fr (Fr.alloc _ _)).other (by omega) (fun c e => by rw [zda rfl] at e; cases e), (hd2.fr (Fr.alloc _ _)).other (by omega) (fun c e => by rw [zda rfl] at e; cases e)⟩
    · simp (disch := (first | (simp only [yk,seval]; done) | omega | (simp only [yz] <;> omega) | fail)) only [yg,seval,g2]
    · simp (disch := (first | (simp only [yk,seval]; done) | omega | (simp only [yz] <;> omega) | fail)) only [yg,seval,g3]
    · simp (disch := (first | (simp only [yk,seval]; done) | omega | (simp only [yz] <;> omega) | fail)) only [yg,seval,g9]
    · simp (disch := (first | (simp only [yk,seval]; done) | omega | (simp only [yz] <;> omega) | fail)) only [yg,seval,g10]
    · simp (disch := (first | (simp only [yk,seval]; done) | omega | (simp only [yz] <;> omega) | fail)) only [yg,seval]
  clear g2 g3 g9 g10 fr1 hs1 hc1 hd1
  rintro e3 H2 ⟨a', cap', C, l, i8, g2, g3, g9, g10, g11, hC28, hl, ho, hn, hsl, b8, k8, l8, fr2, hc2, hd2⟩
  refine W_seqI (fun e' H'' => ∃ w ld i9, LQ 198 11 12 H C w ld l i8 i9 a' cap' e' H'' ∧ gt 198 e' 2 = .int .u8 x ∧ gt 198 e' 3 = .int .u8 y ∧ gt 198 e' 9 = .pointer (some ⟨H.size, 0, none⟩) ∧ gt 198 e' 10 = .pointer (some ⟨H.size + 1, 0, none⟩) ∧ (1 ≤ w ∧ w ≤ 5) ∧ (0 ≤ ld ∧ ld ≤ 5) ∧ H.size + 1 < i9 ∧ Chu H'' H.size a bs cap ∧ Chu H'' (H.size + 1) b2 bs2 cap2) ?_ ?_
  · have sz2 := fr2.size
    simp (disch := (first | (simp only [yk,seval]; done) | omega | (simp only [yz] <;> omega) | fail)) only [↓yp,yq0,yq1,yq2,yq3,yq4,yl,ys0,ys1,seval,zed,zee,zfr,zhw,ysu,yrg,ysv,ysw,ysx,ysz,ysa,g9]
    refine c50 hc2 (Nat.le_refl _) (by omega) ?_
    intro f3 w ld H3 hw1 hw2 hd1 hd3 hc3 hx3
    have sz3 := hx3.size
    have hd4 := hd2.frx hc2 (by omega) hx3
    simp (disch := (first | (simp only [yk,seval]; done) | omega | (simp only [yz] <;> omega) | fail)) only [↓yp,yq0,yq1,yq2,yq3,yq4,yl,ys0,ys1,seval,zed,zee,zfr,zhw,ysu,yrg,ysv,ysw,ysx,ysz,ysa]
    refine ⟨w, ld, H3.size, ⟨?_, ?_, Fr.put (Fr.allocd (hx3.above fr2 (Nat.le_refl _)) _) (by omega) _, by (first | omega | (simp only [yz] <;> omega)), by (first | omega | (simp only [yz] <;> omega)), ?_, zdc (by (first | omega | (simp only [yz] <;> omega))), Sl.put ((hsl.frx hc2 hx3).fr (Fr.alloc _ _)) (c := [.int .i64 0, .int .i64 0]) (by rw [zda rfl]; rfl) (by simp)⟩, ?_, ?_, ?_, ?_, by omega, by omega, by omega, (hc3.fr (Fr.alloc _ _)).other (by omega) (fun c e => by rw [zda rfl] at e; cases e), (hd4.fr (Fr.alloc _ _)).other (by omega) (fun c e => by rw [zda rfl] at e; cases e)⟩
    · simp (disch := (first | (simp only [yk,seval]; done) | omega | (simp only [yz] <;> omega) | fail)) only [yg,seval,g11]
    · simp (disch := (first | (simp only [yk,seval]; done) | omega | (simp only [yz] <;> omega) | fail)) only [yg,seval]
    · rw [zdd (by omega), zdb (by omega), hx3.same _ l8 (by omega)]; exact b8
    · simp (disch := (first | (simp only [yk,seval]; done) | omega | (simp only [yz] <;> omega) | fail)) only [yg,seval,g2]
    · simp (disch := (first | (simp only [yk,seval]; done) | omega | (simp only [yz] <;> omega) | fail)) only [yg,seval,g3]
    · simp (disch := (first | (simp only [yk,seval]; done) | omega | (simp only [yz] <;> omega) | fail)) only [yg,seval,g9]
    · simp (disch := (first | (simp only [yk,seval]; done) | omega | (simp only [yz] <;> omega) | fail)) only [yg,seval,g10]
  have hk8 : H.size + 1 < i8 := k8
  clear g2 g3 g9 g10 g11 hsl b8 l8 fr2 hc2 hd2 k8
  rintro e H' ⟨w, ld, i9, I, g2, g3, g9, g10, ⟨hw1, hw2⟩, ⟨hd1, hd2⟩, hk9, hc, hd⟩
  obtain ⟨wh, hwh⟩ : ∃ to, x.tmod C = to := ⟨_, rfl⟩
  have hwh2 : 0 ≤ wh ∧ wh < C := by
    rw [← hwh]
    exact ⟨Int.tmod_nonneg _ hx.1, Int.tmod_lt_of_pos _ (by omega)⟩
  obtain ⟨wn, hwn⟩ : ∃ to, y.tmod 60 = to := ⟨_, rfl⟩
  have hwn2 : 0 ≤ wn ∧ wn ≤ 59 := by
    rw [← hwn]
    have := Int.tmod_lt_of_pos y (show (0 : Int) < 60 by omega)
    exact ⟨Int.tmod_nonneg _ hy.1, by omega⟩
  have hlt := hc.lt
  have sz := I.fr.size
  refine W_seqI (fun e' H'' => ∃ fr, LQ 198 11 12 H C w ld l i8 i9 a' cap' e' H'' ∧ gt 198 e' 10 = .pointer (some ⟨H.size + 1, 0, none⟩) ∧ (0 ≤ fr ∧ fr < C) ∧ gt 198 e' 13 = .int .i64 fr ∧ gt 198 e' 14 = .int .i64 wh ∧ gt 198 e' 15 = .int .i64 wn ∧ Chu H'' (H.size + 1) b2 bs2 cap2) ?_ ?_
  · have l8 := I.l8
    have g8 := I.g8
    have b8 := I.b8
    obtain ⟨fl, v, H1, mm, hres, hLm, fr, rfl, ⟨hf1, hf2⟩, hff, hc1, hx1, hs1⟩ := resK_elim (Q := fun f v H'' => ∃ d : Int, v = .int .i64 d ∧ Pulled C d ∧ (f = true → H'' = H') ∧ Chu H'' H.size a bs cap ∧ FrX H.size H' H'' ∧ H''.size = H'.size) (c51 (n := C) (L := H.size) (M := N + 23994) hc (by omega) (by omega) (by omega) (fun f v H'' h1 h2 h3 h4 h5 => ⟨v, rfl, h2, h1, h3, h4, h5⟩))
    have b81 : H1.get i8 = .rw [.int .i64 C, .slice a' l.length cap'] 24 false [] := by
      rw [hx1.same _ l8 (by omega)]; exact b8
    have w1 : w64 x = x := w64_of (by omega)
    have w2 : w64 y = y := w64_of (by omega)
    have hrem := fun (p q : Operand) (z : Int) => i64_rem (T := tabA) (P := Try.prog) (ty := 3) (x := p) (y := q) (a := z) (b := C) (by omega)
    have hrem2 := fun (p q : Operand) (z : Int) => i64_rem (T := tabA) (P := Try.prog) (ty := 3) (x := p) (y := q) (a := z) (b := 60) (by omega)
    have I1 : ∀ e', Keep 198 [11, 12] e e' → LQ 198 11 12 H C w ld l i8 i9 a' cap' e' H1 := fun e' hke => I.frx (by omega) (by omega) (Nat.le_refl _) hc hx1 hke
    have hd1 := hd.frx hc (by omega) hx1
    cases fl
    · refine W_draw [3] rfl (by kernel_rfl) (by kernel_rfl) (by (first | omega | (simp only [yz] <;> omega))) ?_
      simp (disch := (first | (simp only [yk,seval]; done) | omega | (simp only [yz] <;> omega) | fail)) only [↓yp,yq0,yq1,yq2,yq3,yq4,yl,ys0,ys1,seval,zed,zee,zfr,zhw,ysu,yrg,ysv,ysw,ysx,ysz,ysa,g2,g3,g9,g8,b8,b81,hres,A_conv,cv_5_3,w1,w2,hrem,hrem2,hwh,hwn]
      refine ⟨fr, I1 _ (by (with_reducible (repeat (first | refine Keep.put ?_ (by decide) | refine Keep.none ?_ | assumption | exact Keep.refl _ _ _)))), ?_, ⟨hf1, by omega⟩, ?_, ?_, ?_, hd1⟩
      · simp (disch := (first | (simp only [yk,seval]; done) | omega | (simp only [yz] <;> omega) | fail)) only [yg,seval,g10]
      · simp (disch := (first | (simp only [yk,seval]; done) | omega | (simp only [yz] <;> omega) | fail)) only [yg,seval]
      · simp (disch := (first | (simp only [yk,seval]; done) | omega | (simp only [yz] <;> omega) | fail)) only [yg,seval]
      · simp (disch := (first | (simp only [yk,seval]; done) | omega | (simp only [yz] <;> omega) | fail)) only [yg,seval]
    · obtain rfl := hff rfl
      refine W_draw [] rfl (by kernel_rfl) (by kernel_rfl) (by (first | omega | (simp only [yz] <;> omega))) ?_
      simp (disch := (first | (simp only [yk,seval]; done) | omega | (simp only [yz] <;> omega) | fail)) only [↓yp,yq0,yq1,yq2,yq3,yq4,yl,ys0,ys1,seval,zed,zee,zfr,zhw,ysu,yrg,ysv,ysw,ysx,ysz,ysa,g2,g3,g9,g8,b8,hres,A_conv,cv_5_3,w1,w2,hrem,hrem2,hwh,hwn]
      refine ⟨fr, I1 _ (by (with_reducible (repeat (first | refine Keep.put ?_ (by decide) | refine Keep.none ?_ | assumption | exact Keep.refl _ _ _)))), ?_, ⟨hf1, by omega⟩, ?_, ?_, ?_, hd1⟩
      · simp (disch := (first | (simp only [yk,seval]; done) | omega | (simp only [yz] <;> omega) | fail)) only [yg,seval,g10]
      · simp (disch := (first | (simp only [yk,seval]; done) | omega | (simp only [yz] <;> omega) | fail)) only [yg,seval]
      · simp (disch := (first | (simp only [yk,seval]; done) | omega | (simp only [yz] <;> omega) | fail)) only [yg,seval]
      · simp (disch := (first | (simp only [yk,seval]; done) | omega | (simp only [yz] <;> omega) | fail)) only [yg,seval]
  clear sz I g2 g3 g9 g10 hc hd hlt
  rintro e H' ⟨fr, I, g10, hfr, g13, g14, g15, hd⟩
  have X : Tw C w ld l a' cap' fr wh wn := ⟨hC28, by omega, ho, hn, by omega, by omega, hfr, hwh2, hwn2⟩
  have hC : 1 ≤ C ∧ C ≤ 8 := by omega
  have hl16 : l.length ≤ 16 := by omega
  refine W_seqI (fun e' H'' => ∃ k16 c16, FS H C w ld l i8 i9 a' cap' b2 bs2 cap2 fr wh wn k16 c16 e' H'') ?_ ?_
  · have sz := I.fr.size
    have g8 := I.g8
    have g9 := I.g9
    have b8 := I.b8
    have b9 := I.b9
    have l8 := I.l8
    have l9 := I.l9
    simp (disch := (first | (simp only [yk,seval]; done) | omega | (simp only [yz] <;> omega) | fail)) only [↓yp,yq0,yq1,yq2,yq3,yq4,yl,ys0,ys1,seval,zed,zee,zfr,zhw,ysu,yrg,ysv,ysw,ysx,ysz,ysa,g8,g9,b8,b9,g13,g15]
    refine c52 I.sl (by omega) (asked_zero (cs := [fr]) (ms := [wn]) hC hl16 ho (by omega) (by omega) (by simp; omega) (by simp; omega)) (by omega) (by omega) ?_
    intro k cap'' H3 fr3 hk1 hk2 hk3
    simp (disch := (first | (simp only [yk,seval]; done) | omega | (simp only [yz] <;> omega) | fail)) only [↓yp,yq0,yq1,yq2,yq3,yq4,yl,ys0,ys1,seval,zed,zee,zfr,zhw,ysu,yrg,ysv,ysw,ysx,ysz,ysa]
    refine ⟨k, cap'', I.next fr3 (by (with_reducible (repeat (first | refine Keep.put ?_ (by decide) | refine Keep.none ?_ | assumption | exact Keep.refl _ _ _)))), ?_, ?_, ?_, ?_, ?_, by omega, by omega, by omega, hk2, hk3, hd.fr fr3⟩
    · simp (disch := (first | (simp only [yk,seval]; done) | omega | (simp only [yz] <;> omega) | fail)) only [yg,seval,g10]
    · simp (disch := (first | (simp only [yk,seval]; done) | omega | (simp only [yz] <;> omega) | fail)) only [yg,seval,g13]
    · simp (disch := (first | (simp only [yk,seval]; done) | omega | (simp only [yz] <;> omega) | fail)) only [yg,seval,g14]
    · simp (disch := (first | (simp only [yk,seval]; done) | omega | (simp only [yz] <;> omega) | fail)) only [yg,seval,g15]
    · simp (disch := (first | (simp only [yk,seval]; done) | omega | (simp only [yz] <;> omega) | fail)) only [yg,seval]
  clear I g10 g13 g14 g15 hd
  rintro e H' ⟨k16, c16, I⟩
  have g := X.good
  have h0 : asked C l w ld [fr, wh] [] [wn] = 0 := asked_zero hC hl16 ho (by omega) (by omega) (by simp; omega) (by simp; omega)
  refine W_seqI (fun e' H'' => FS H C w ld l i8 i9 a' cap' b2 bs2 cap2 fr wh wn k16 c16 e' H'' ∧ FD H C w ld l fr wn wh e' H'') ?_ ?_
  · have sz := I.q.fr.size
    have g8 := I.q.g8
    have g9 := I.q.g9
    have b8 := I.q.b8
    have b9 := I.q.b9
    have l8 := I.q.l8
    have l9 := I.q.l9
    have g13 := I.g13
    have g14 := I.g14
    have g15 := I.g15
    have hkk := I.kk
    have hl16' := I.l16
    simp (disch := (first | (simp only [yk,seval]; done) | omega | (simp only [yz] <;> omega) | fail)) only [↓yp,yq0,yq1,yq2,yq3,yq4,yl,ys0,ys1,seval,zed,zee,zfr,zhw,ysu,yrg,ysv,ysw,ysx,ysz,ysa,g8,g9,b8,b9,g13,g14,g15]
    refine c38 I.q.sl (by omega) (by omega) (by omega) (fun h => absurd h0 h) ?_ ?_
    · intro _ hz q H3 f3
      have sz3 := f3.size
      simp (disch := (first | (simp only [yk,seval]; done) | omega | (simp only [yz] <;> omega) | fail)) only [↓yp,yq0,yq1,yq2,yq3,yq4,yl,ys0,ys1,seval,zed,zee,zfr,zhw,ysu,yrg,ysv,ysw,ysx,ysz,ysa]
      refine ⟨I.next f3 (by (with_reducible (repeat (first | refine Keep.put ?_ (by decide) | refine Keep.none ?_ | assumption | exact Keep.refl _ _ _)))), ⟨?_, ?_, fun h => absurd hz h⟩⟩
      · rw [if_pos hz]; simp (disch := (first | (simp only [yk,seval]; done) | omega | (simp only [yz] <;> omega) | fail)) only [yg,seval]
      · rw [if_pos hz]; simp (disch := (first | (simp only [yk,seval]; done) | omega | (simp only [yz] <;> omega) | fail)) only [yg,seval]
    · intro _ hz q v ls H3 f3 hr hrun h7
      have sz3 := f3.size
      simp (disch := (first | (simp only [yk,seval]; done) | omega | (simp only [yz] <;> omega) | fail)) only [↓yp,yq0,yq1,yq2,yq3,yq4,yl,ys0,ys1,seval,zed,zee,zfr,zhw,ysu,yrg,ysv,ysw,ysx,ysz,ysa]
      refine ⟨I.next f3 (by (with_reducible (repeat (first | refine Keep.put ?_ (by decide) | refine Keep.none ?_ | assumption | exact Keep.refl _ _ _)))), ⟨?_, ?_, fun h => ⟨v, ls, _, ?_, ?_, hr, hrun, h7⟩⟩⟩
      · rw [if_neg hz]; simp (disch := (first | (simp only [yk,seval]; done) | omega | (simp only [yz] <;> omega) | fail)) only [yg,seval]
      · rw [if_neg hz]; simp (disch := (first | (simp only [yk,seval]; done) | omega | (simp only [yz] <;> omega) | fail)) only [yg,seval]
      · simp (disch := (first | (simp only [yk,seval]; done) | omega | (simp only [yz] <;> omega) | fail)) only [yg,seval]
      · omega
  clear I
  rintro e H' ⟨I, D⟩
  refine W_seqI (fun e' H'' => FS H C w ld l i8 i9 a' cap' b2 bs2 cap2 fr wh wn k16 c16 e' H'' ∧ FD H C w ld l fr wn wh e' H'' ∧ gt 198 e' 20 = .bool true ∧ gt 198 e' 21 = .int .i64 0) ?_ ?_
  · have sz := I.q.fr.size
    have g8 := I.q.g8
    have g9 := I.q.g9
    have b8 := I.q.b8
    have b9 := I.q.b9
    have l8 := I.q.l8
    have l9 := I.q.l9
    have g13 := I.g13
    have g15 := I.g15
    have g16 := I.g16
    have b16 := I.b16
    have h53 := fun (N : Nat) => c53 (N := N) (ct := c16) (t := myT C l w ld fr wn) I.q.sl X.hn X.hl (by omega) X.ho X.hw X.hd X.hfr (show 0 ≤ wn ∧ wn ≤ 240 by omega) (myT_len X) (myT_ok X) (Il.of I.l16 (by rw [b16]; rfl))
    have hbn : bnds C l w ld fr wn (myT C l w ld fr wn) = true := bnds_own g hfr (by omega)
    rw [hbn] at h53
    simp (disch := (first | (simp only [yk,seval]; done) | omega | (simp only [yz] <;> omega) | fail)) only [↓yp,yq0,yq1,yq2,yq3,yq4,yl,ys0,ys1,seval,zed,zee,zfr,zhw,ysu,yrg,ysv,ysw,ysx,ysz,ysa,g8,g9,b8,b9,g13,g15,g16,h53]
    refine ⟨I.next (Fr.refl _) (by (with_reducible (repeat (first | refine Keep.put ?_ (by decide) | refine Keep.none ?_ | assumption | exact Keep.refl _ _ _)))), D.next (Fr.refl _) (by (with_reducible (repeat (first | refine Keep.put ?_ (by decide) | refine Keep.none ?_ | assumption | exact Keep.refl _ _ _)))), ?_, ?_⟩
    · simp (disch := (first | (simp only [yk,seval]; done) | omega | (simp only [yz] <;> omega) | fail)) only [yg,seval]
    · simp (disch := (first | (simp only [yk,seval]; done) | omega | (simp only [yz] <;> omega) | fail)) only [yg,seval]
  clear I D
  rintro e H' ⟨I, D, g20, g21⟩
  have hat := take_at (earT_len (w := w) g (fr := fr) (a₀ := wn) hfr (by omega)) hC hwh2
  refine W_seqI (fun e' H'' => FS H C w ld l i8 i9 a' cap' b2 bs2 cap2 fr wh wn k16 c16 e' H'' ∧ FD H C w ld l fr wn wh e' H'') ?_ ?_
  · have sz := I.q.fr.size
    have g14 := I.g14
    have g16 := I.g16
    have b16 := I.b16
    have g19 := D.g19
    by_cases hz : tg (earT C l w ld fr wn) wh = -1
    · rw [if_pos hz] at g19
      rw [hz] at hat
      simp (disch := (first | (simp only [yk,seval]; done) | omega | (simp only [yz] <;> omega) | fail)) only [↓yp,yq0,yq1,yq2,yq3,yq4,yl,ys0,ys1,seval,zed,zee,zfr,zhw,ysu,yrg,ysv,ysw,ysx,ysz,ysa,g14,g16,g19,g20,g21,A_indexSlice zir,b16,hat,binV_nil_some zir,binV_nil_someN zir,neqFF,neqTT]
      exact ⟨I.next (Fr.refl _) (by (with_reducible (repeat (first | refine Keep.put ?_ (by decide) | refine Keep.none ?_ | assumption | exact Keep.refl _ _ _)))), D.next (Fr.refl _) (by (with_reducible (repeat (first | refine Keep.put ?_ (by decide) | refine Keep.none ?_ | assumption | exact Keep.refl _ _ _))))⟩
    · rw [if_neg hz] at g19
      have hzd : decide (tg (earT C l w ld fr wn) wh = -1) = false := decide_eq_false hz
      simp (disch := (first | (simp only [yk,seval]; done) | omega | (simp only [yz] <;> omega) | fail)) only [↓yp,yq0,yq1,yq2,yq3,yq4,yl,ys0,ys1,seval,zed,zee,zfr,zhw,ysu,yrg,ysv,ysw,ysx,ysz,ysa,g14,g16,g19,g20,g21,A_indexSlice zir,b16,hat,hzd,binV_nil_some zir,binV_nil_someN zir,neqFF,neqTT]
      exact ⟨I.next (Fr.refl _) (by (with_reducible (repeat (first | refine Keep.put ?_ (by decide) | refine Keep.none ?_ | assumption | exact Keep.refl _ _ _)))), D.next (Fr.refl _) (by (with_reducible (repeat (first | refine Keep.put ?_ (by decide) | refine Keep.none ?_ | assumption | exact Keep.refl _ _ _))))⟩
  clear I D g20 g21
  rintro e H' ⟨I, D⟩
  refine W_seqI (fun e' H'' => FS H C w ld l i8 i9 a' cap' b2 bs2 cap2 fr wh wn k16 c16 e' H'' ∧ FD H C w ld l fr wn wh e' H'') ?_ ?_
  · have sz := I.q.fr.size
    simp (disch := (first | (simp only [yk,seval]; done) | omega | (simp only [yz] <;> omega) | fail)) only [↓yp,yq0,yq1,yq2,yq3,yq4,yl,ys0,ys1,seval,zed,zee,zfr,zhw,ysu,yrg,ysv,ysw,ysx,ysz,ysa]
    refine W_while (n := 198) 3000 (fun k e' H'' => ∃ j : Nat, k = 6 - j ∧ j ≤ 6 ∧ gt 198 e' 104 = .int .i64 (j : Nat) ∧ FS H C w ld l i8 i9 a' cap' b2 bs2 cap2 fr wh wn k16 c16 e' H'' ∧ FD H C w ld l fr wn wh e' H'')
      ?_ 6 6 ⟨0, by omega, by omega, by simp (disch := (first | (simp only [yk,seval]; done) | omega | (simp only [yz] <;> omega) | fail)) only [yg,seval] <;> rfl, I.next (Fr.refl _) (by (with_reducible (repeat (first | refine Keep.put ?_ (by decide) | refine Keep.none ?_ | assumption | exact Keep.refl _ _ _)))), D.next (Fr.refl _) (by (with_reducible (repeat (first | refine Keep.put ?_ (by decide) | refine Keep.none ?_ | assumption | exact Keep.refl _ _ _))))⟩ (by omega) (by omega)
    clear sz I D
    rintro M1 k1 e H' ⟨j, rfl, hj, g104, I, D⟩
    have sz := I.q.fr.size
    have g8 := I.q.g8
    have g9 := I.q.g9
    have b8 := I.q.b8
    have b9 := I.q.b9
    have l8 := I.q.l8
    have l9 := I.q.l9
    have g10 := I.g10
    have g13 := I.g13
    have g15 := I.g15
    have g16 := I.g16
    have hkk := I.kk
    have hlt2 := I.c2.lt
    simp (disch := (first | (simp only [yk,seval]; done) | omega | (simp only [yz] <;> omega) | fail)) only [↓yp,yq0,yq1,yq2,yq3,yq4,yl,ys0,ys1,seval,zed,zee,zfr,zhw,ysu,yrg,ysv,ysw,ysx,ysz,ysa,g104]
    refine ⟨fun hA => ?_, fun hA => ?_⟩
    rotate_left
    · simp (disch := (first | (simp only [yk,seval]; done) | omega | (simp only [yz] <;> omega) | fail)) only [↓yp,yq0,yq1,yq2,yq3,yq4,yl,ys0,ys1,seval,zed,zee,zfr,zhw,ysu,yrg,ysv,ysw,ysx,ysz,ysa]
      exact ⟨I.next (Fr.refl _) (by (with_reducible (repeat (first | refine Keep.put ?_ (by decide) | refine Keep.none ?_ | assumption | exact Keep.refl _ _ _)))), D.next (Fr.refl _) (by (with_reducible (repeat (first | refine Keep.put ?_ (by decide) | refine Keep.none ?_ | assumption | exact Keep.refl _ _ _))))⟩
    have hj6 : j ≤ 5 := by have := of_decide_eq_true hA; omega
    have hw2' : w64 ((j : Int) + 1) = ((j + 1 : Nat) : Int) := by rw [w64_of (by omega)]; omega
    simp (disch := (first | (simp only [yk,seval]; done) | omega | (simp only [yz] <;> omega) | fail)) only [↓yp,yq0,yq1,yq2,yq3,yq4,yl,ys0,ys1,seval,zed,zee,zfr,zhw,ysu,yrg,ysv,ysw,ysx,ysz,ysa,g8,g9,b8,b9,g10,g13,g15]
    refine c54 I.c2 I.q.sl (by omega) hC hl16 ho (by omega) (by omega) (by omega) (by omega) ?_
    intro f v x' m' H3 hcan hc3 hx3
    have sz3 := hx3.size
    have hxc := hcan.corner hfr g
    have hle := (earT_is (w := w) g hfr (a₀ := wn) (by omega)).le m' x' hxc.1 hcan
    have hatx := take_at (earT_len (w := w) g (fr := fr) (a₀ := wn) hfr (by omega)) hC hxc
    have b16' : H3.get k16 = .rw (tv ((earT C l w ld fr wn).take C.toNat)) 3 true [] := (hx3.same _ I.l16 (by omega)).trans I.b16
    have hd1 : decide (tg (earT C l w ld fr wn) x' = -1) = false := decide_eq_false hle.1
    have hd2 : decide (m' < tg (earT C l w ld fr wn) x') = false := decide_eq_false (by omega)
    simp (disch := (first | (simp only [yk,seval]; done) | omega | (simp only [yz] <;> omega) | fail)) only [↓yp,yq0,yq1,yq2,yq3,yq4,yl,ys0,ys1,seval,zed,zee,zfr,zhw,ysu,yrg,ysv,ysw,ysx,ysz,ysa,g16,A_indexSlice zir,b16',hatx,hd1,hd2]
    simp (disch := (first | (simp only [yk,seval]; done) | omega | (simp only [yz] <;> omega) | fail)) only [↓yp,yq0,yq1,yq2,yq3,yq4,yl,ys0,ys1,seval,zed,zee,zfr,zhw,ysu,yrg,ysv,ysw,ysx,ysz,ysa,g104,hw2']
    refine ⟨6 - (j + 1), by omega, j + 1, rfl, by omega, ?_, I.frx hc3 hx3 (by (with_reducible (repeat (first | refine Keep.put ?_ (by decide) | refine Keep.none ?_ | assumption | exact Keep.refl _ _ _)))), D.frx hx3 (by (with_reducible (repeat (first | refine Keep.put ?_ (by decide) | refine Keep.none ?_ | assumption | exact Keep.refl _ _ _))))⟩
    simp (disch := (first | (simp only [yk,seval]; done) | omega | (simp only [yz] <;> omega) | fail)) only [yg,seval]
  clear I D
  rintro e H' ⟨I, D⟩
  have sz := I.q.fr.size
  have g8 := I.q.g8
  have g9 := I.q.g9
  have b8 := I.q.b8
  have b9 := I.q.b9
  have l8 := I.q.l8
  have l9 := I.q.l9
  have g13 := I.g13
  have g14 := I.g14
  have g15 := I.g15
  have g16 := I.g16
  have b16 := I.b16
  have g18 := D.g18
  have g19 := D.g19
  by_cases hz : tg (earT C l w ld fr wn) wh = -1
  rotate_left
  · rw [if_neg hz] at g18 g19
    obtain ⟨v, ls, base, g17, hbase, hr, hrun, h7⟩ := D.dr hz
    obtain ⟨av, cv, rfl, lg⟩ := hr.lg
    have h42 := fun (N : Nat) => c42 (N := N) (C := C) (w := w) (ld := ld) (fr := fr) (m := wn) (cap := cap') (cb := cv) I.q.sl (by omega) lg (by omega)
    rw [run_folG hC hl16 ho (by omega) (by omega) hfr (by omega) hrun h7] at h42
    simp (disch := (first | (simp only [yk,seval]; done) | omega | (simp only [yz] <;> omega) | fail)) only [↓yp,yq0,yq1,yq2,yq3,yq4,yl,ys0,ys1,seval,zed,zee,zfr,zhw,ysu,yrg,ysv,ysw,ysx,ysz,ysa,g8,g9,b8,b9,g13,g14,g15,g16,g17,g18,g19,h42,A_indexSlice zir,b16,hat,awake_r]
  · rw [if_pos hz] at g18 g19
    obtain ⟨frn, rfl⟩ : ∃ frn : Nat, fr = frn := ⟨fr.toNat, by omega⟩
    obtain ⟨Cn, rfl⟩ : ∃ Cn : Nat, C = Cn := ⟨C.toNat, by omega⟩
    simp (disch := (first | (simp only [yk,seval]; done) | omega | (simp only [yz] <;> omega) | fail)) only [↓yp,yq0,yq1,yq2,yq3,yq4,yl,ys0,ys1,seval,zed,zee,zfr,zhw,ysu,yrg,ysv,ysw,ysx,ysz,ysa,g19]
    simp (disch := (first | (simp only [yk,seval]; done) | omega | (simp only [yz] <;> omega) | fail)) only [↓yp,yq0,yq1,yq2,yq3,yq4,yl,ys0,ys1,seval,zed,zee,zfr,zhw,ysu,yrg,ysv,ysw,ysx,ysz,ysa,g8,g9,b8,b9,g13]
    have h01 : asked (Cn : Int) l w ld [(frn : Int)] [] [] = 0 := asked_zero hC hl16 ho (by omega) (by omega) (by simp; omega) (by simp)
    refine c55 I.q.sl (by omega) h01 (by omega) (by omega) ?_
    intro f ar cr H3 f3 hil
    have sz3 := f3.size
    rw [Int.toNat_natCast] at hil ⊢
    obtain ⟨p, hp⟩ : ∃ p, rchP l w ld (frn : Int) = p := ⟨_, rfl⟩
    have hpk : ∀ k, p k = bg (visitR l w ld 8 noR (frn : Int)) (k : Int) := fun k => by rw [← hp]; rfl
    rw [hp] at hil ⊢
    have hlen := barsL_le (p := p) Cn
    have hmem : ∀ x, x ∈ barsL p Cn → 0 ≤ x ∧ x < (Cn : Int) := fun x hx => by have := bars_lt Cn x hx; omega
    have h02 : asked (Cn : Int) l w ld (barsL p Cn) [] [] = 0 := asked_zero hC hl16 ho (by omega) (by omega) (fun x hx => by have := hmem x hx; omega) (by simp)
    have hcl : ∀ x ∈ barsL p Cn, ∀ (i : Nat) (s : Str) (b : Bool), l[i]? = some s → mayL s b w ld = true → nearL s b = x → farL s b ∈ barsL p Cn := by
      intro x hx i s b hi hm hnr
      have h1 := bars_lt Cn x hx
      have h2 : bg (visitR l w ld 8 noR (frn : Int)) x = true := by
        have := hpk x.toNat
        rw [h1.2.2] at this
        rw [Int.toNat_of_nonneg h1.1] at this
        exact this.symm
      have h3 := reach_closed g (x := (frn : Int)) (by omega) h1.1 h2 i s b hi hm hnr
      have h4 := far_range (b := b) g hi
      obtain ⟨fn, hfn⟩ : ∃ fn : Nat, farL s b = fn := ⟨(farL s b).toNat, by omega⟩
      rw [hfn] at h3 h4 ⊢
      exact bars_of (by omega) (by rw [hpk]; exact h3)
    have hin : (frn : Int) ∈ barsL p Cn := bars_of (by omega) (by rw [hpk]; exact reach_beg g (by omega))
    have c8' := (f3.same i8 l8).trans b8
    have c9' := (f3.same i9 l9).trans b9
    have h56 := fun (N kc : Nat) => c56 (N := N) (C := (Cn : Int)) (w := w) (ld := ld) (cap := cap') (kc := kc) (I.q.sl.fr f3) (by omega) h02 hil (by omega) (bars_inc Cn) hcl
    have h57 := fun (N kc : Nat) => c57 (N := N) (cap := kc) (x := (frn : Int)) hil (by omega) hin
    simp (disch := (first | (simp only [yk,seval]; done) | omega | (simp only [yz] <;> omega) | fail)) only [↓yp,yq0,yq1,yq2,yq3,yq4,yl,ys0,ys1,seval,zed,zee,zfr,zhw,ysu,yrg,ysv,ysw,ysx,ysz,ysa,g8,g9,c8',c9',g13,h56]
    simp (disch := (first | (simp only [yk,seval]; done) | omega | (simp only [yz] <;> omega) | fail)) only [↓yp,yq0,yq1,yq2,yq3,yq4,yl,ys0,ys1,seval,zed,zee,zfr,zhw,ysu,yrg,ysv,ysw,ysx,ysz,ysa,g13,h57,lenV_slice zir,Int.natCast_zero,awake_r]
end
end Go.Am
