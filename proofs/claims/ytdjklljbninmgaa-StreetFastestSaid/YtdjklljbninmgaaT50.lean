import Derived.Test.YtdjklljbninmgaaT49
set_option linter.unusedSimpArgs false
set_option linter.unusedVariables false
namespace Go.Am
open Go.Proofs
variable {T : Tab} {P : Program} {N L : Nat} {H : AHeap} {Q : Bool → Value → AHeap → Prop}
theorem call_keepD (hT : T.MemoFr) {g : FuncId} {args : List Value} {fn : Func} {c : Code} {R : Value → AHeap → Prop} {rs : List ResultVar} (hm : T.memo g args H = none) (hf : T.fn g = some fn) (hb : fn.body = some c) (hr : fn.results.toList = rs) {k : Nat} (hk : args.length + (fn.ntmps - args.length) = k) (hL : L ≤ H.size)
    (hw : W T P N none c L ⟨k, env args 0 .nil, H, []⟩ (retD T L rs R)) (hq : ∀ v H', R v H' → Q false v H') (hq' : ∀ v H', R v H' → gr v = true → Fr H H' → Q true v H) :
    resK (acall T (aexec T P N) g args H) L Q := by
  subst hk
  unfold W at hw
  unfold resK acall acall0
  rw [hm, hf]
  simp only [hb,envK_eq,fNat_eq]
  cases ha : aexec T P N none c ⟨args.length + (fn.ntmps - args.length), env args 0 .nil, H, []⟩ with
  | none => rw [ha] at hw; exact hw.elim
  | some p =>
    obtain ⟨x, s, m⟩ := p
    have hfr := aexec_fr hT N _ _ _ _ _ _ ha
    simp only at hfr
    rw [ha] at hw
    obtain ⟨h1, h2⟩ := hw
    have key : ((∀ k ∈ s.ds, L ≤ k) ∧ L ≤ s.H.size ∧ ∃ H', atake s.ds s.H = some H' ∧ ∃ v, resV T s.n s.e H' rs = some v ∧ R v H') → (match aleave T fn H s m with
        | some (b, v, H', m) => L ≤ m ∧ Q b v H'
        | none => False) := by
      rintro ⟨k1, k4, H', k5, v, k2, k3⟩
      have hr' : ares T fn s.n s.e H' = some v := by rw [← hr] at k2; exact k2
      have hmin := le_minAl h1 k1
      have hsz := atake_size k5
      have hml := minAl_le m s.ds
      unfold aleave
      simp only [k5,hr',fV_eq,fNat_eq]
      unfold quietV
      cases hq2 : (Nat.ble H.size (min (minAl m s.ds) s.H.size) && gr v)
      · simp only [cond_false]
        exact ⟨by omega, hq _ _ k3⟩
      · simp only [cond_true]
        simp only [Bool.and_eq_true] at hq2
        have := Nat.le_of_ble_eq_true hq2.1
        refine ⟨hL, hq' _ _ k3 hq2.2 ⟨by rw [hsz]; exact hfr.size, fun k hk => ?_⟩⟩
        rw [atake_fr' (lo := H.size) k5 (fun q hq => by have := hml.2 q hq; omega) k hk]
        exact hfr.same k (by omega) hk
    cases x with
    | normal => exact key h2
    | ret => exact key h2
    | _ => exact h2.elim
def visF (kr kj kv : Nat) : Value := .func (.func 105) ⟨[]⟩ ⟨[.pointer (some ⟨kr, 0, none⟩), .pointer (some ⟨kj, 0, none⟩), .pointer (some ⟨kv, 0, none⟩)]⟩
structure VH (H₀ : AHeap) (l : List Str) (C w ld : Int) (a : Option Addr) (cap kr kj kv : Nat) (R : List Bool) (H : AHeap) : Prop where
  f0 : Fr H₀ H
  bj : H.get kj = .rw [.int .i64 C, .slice a l.length cap, .int .i64 w, .int .i64 ld, .int .i64 (-1)] 124 false []
  bf : H.get kv = .rw [visF kr kj kv] 152 false []
  br : H.get kr = .rw (bv R) 151 false []
  lj : kj < H.size
  lv : kv < H.size
  lr : kr < H.size
  jr : kj ≠ kr
  vr : kv ≠ kr
  r0 : H₀.size ≤ kr
  len : R.length = 8
section
variable {H₀ H' H₁ : AHeap} {l : List Str} {C w ld : Int} {a : Option Addr} {cap kr kj kv : Nat} {R R' : List Bool}
theorem VH.fr (V : VH H₀ l C w ld a cap kr kj kv R H) (f : Fr H H') : VH H₀ l C w ld a cap kr kj kv R H' :=
  ⟨V.f0.trans f, (f.same _ V.lj).trans V.bj, (f.same _ V.lv).trans V.bf, (f.same _ V.lr).trans V.br, Nat.lt_of_lt_of_le V.lj f.size, Nat.lt_of_lt_of_le V.lv f.size, Nat.lt_of_lt_of_le V.lr f.size, V.jr, V.vr, V.r0, V.len⟩
theorem VH.frx (V : VH H₀ l C w ld a cap kr kj kv R H) (f : FrX kr H H') (hb : H'.get kr = .rw (bv R') 151 false []) (hl : R'.length = 8) : VH H₀ l C w ld a cap kr kj kv R' H' :=
  ⟨f.above V.f0 V.r0, (f.same _ V.lj V.jr).trans V.bj, (f.same _ V.lv V.vr).trans V.bf, hb, Nat.lt_of_lt_of_le V.lj f.size, Nat.lt_of_lt_of_le V.lv f.size, Nat.lt_of_lt_of_le V.lr f.size, V.jr, V.vr, V.r0, hl⟩
theorem VH.put (V : VH H₀ l C w ld a cap kr kj kv R H) {k : Nat} (hk : H₁.size ≤ k) (h0 : Fr H₀ H₁) (hj : kj < H₁.size) (hv : kv < H₁.size) (hr : kr < H₁.size) (blk : ABlk) : VH H₀ l C w ld a cap kr kj kv R (H.put k blk) :=
  ⟨Fr.put V.f0 (by have := h0.size; omega) _, by rw [zdd (by omega)]; exact V.bj, by rw [zdd (by omega)]; exact V.bf, by rw [zdd (by omega)]; exact V.br, by rw [zdf]; exact V.lj, by rw [zdf]; exact V.lv, by rw [zdf]; exact V.lr, V.jr, V.vr, V.r0, V.len⟩
theorem bg_nat {k : Nat} : bg R (k : Int) = R.getD k false := by unfold bg; rw [Int.toNat_natCast]
structure VJ (H₀ H6 : AHeap) (l : List Str) (C w ld : Int) (a : Option Addr) (cap kr kj kv : Nat) (R₀ R : List Bool) (H'' : AHeap) : Prop where
  sz : H6.size + 2 ≤ H''.size
  fx : FrX kr H6 H''
  v : VH H₀ l C w ld a cap kr kj kv R H''
  vis : VisR l w ld R₀ R
set_option maxHeartbeats 4000000 in
set_option maxRecDepth 10000 in
theorem c105 (g : Good C l ld) (hl : l.length ≤ 18) (hs : Sl H₀ a l) : ∀ (n : Nat) {R : List Bool} {x : Nat} {H : AHeap} {L M : Nat} {Q : Bool → Value → AHeap → Prop}, VH H₀ l C w ld a cap kr kj kv R H → x < 8 → bg R (x : Int) = false → R.count false ≤ n → L ≤ kr → 600 * n ≤ M →
    (∀ q v H', FrX kr H H' → VH H₀ l C w ld a cap kr kj kv (visitR l w ld n R (x : Int)) H' → Q q v H') →
    resK (acall tabA (aexec tabA Try.prog M) 105 [.int .i64 (x : Nat), .pointer (some ⟨kr, 0, none⟩), .pointer (some ⟨kj, 0, none⟩), .pointer (some ⟨kv, 0, none⟩)] H) L Q := by
  intro n
  induction n with
  | zero =>
    intro R x H L M Q V hx hb hn
    have := count_set (R := R) (k := x) (by have := V.len; omega) (by rw [← bg_nat]; exact hb)
    omega
  | succ n ih =>
    intro R x H L M Q V hx hb hn hL hM hq
    obtain ⟨N, rfl⟩ : ∃ N, M = N + 600 * n + 600 := ⟨M - (600 * n + 600), by omega⟩
    have hcs := count_set (R := R) (k := x) (by have := V.len; omega) (by rw [← bg_nat]; exact hb)
    have lr := V.lr
    have lj := V.lj
    have lv := V.lv
    have jr := V.jr
    have vr := V.vr
    have r0 := V.r0
    have sz0 := V.f0.size
    have br := V.br
    have bj := V.bj
    have len := V.len
    have hset : (R.set x true).length = 8 := by rw [List.length_set]; exact len
    have hg8 : x < (bv R).length := by rw [bv_len]; omega
    refine call_keepD tabA_fr (k := 29) (rs := []) (R := fun _ H' => FrX kr H H' ∧ VH H₀ l C w ld a cap kr kj kv (visitR l w ld (n + 1) R (x : Int)) H') rfl fn_105 rfl rfl rfl (by omega) ?_ (fun v H' h => hq _ _ _ h.1 h.2) (fun v H' h _ f => hq _ _ _ (FrX.refl _ _) (V.frx (FrX.refl _ _) (by rw [← f.same kr lr]; exact h.2.br) h.2.len))
    refine W_seqI (fun e' H'' => gt 29 e' 0 = .int .i64 (x : Nat) ∧ gt 29 e' 1 = .pointer (some ⟨kr, 0, none⟩) ∧ gt 29 e' 2 = .pointer (some ⟨kj, 0, none⟩) ∧ gt 29 e' 3 = .pointer (some ⟨kv, 0, none⟩) ∧ H'' = H.put kr (.rw (bv (R.set x true)) 151 false [])) ?_ ?_
    · have hnx := newC_bv (t := R) (i := x) (v := true) (by omega)
      have hfit : decide (x + 1 ≤ (bv R).length) = true := by simp; omega
      simp (disch := (first | (simp only [yk,seval]; done) | omega | (simp only [yz] <;> omega) | fail)) only [↓yp,yq0,yq1,yq2,yq3,yq4,yl,ys0,ys1,seval,zed,zee,zfr,zhw,ysu,yrg,ysv,ysw,ysx,ysz,ysa,A_indexArr st_arS_151,br,hfit]
      refine ⟨?_, ?_, ?_, ?_, ?_⟩
      · simp (disch := (first | (simp only [yk,seval]; done) | omega | (simp only [yz] <;> omega) | fail)) only [yg,seval]
      · simp (disch := (first | (simp only [yk,seval]; done) | omega | (simp only [yz] <;> omega) | fail)) only [yg,seval]
      · simp (disch := (first | (simp only [yk,seval]; done) | omega | (simp only [yz] <;> omega) | fail)) only [yg,seval]
      · simp (disch := (first | (simp only [yk,seval]; done) | omega | (simp only [yz] <;> omega) | fail)) only [yg,seval]
      · rw [← hnx]; rfl
    rintro e1 _ ⟨g0, g1, g2, g3, rfl⟩
    obtain ⟨H1, hH1⟩ : ∃ H1, H.put kr (.rw (bv (R.set x true)) 151 false []) = H1 := ⟨_, rfl⟩
    have fx1 : FrX kr H H1 := by rw [← hH1]; exact FrX.put (FrX.refl _ _) _
    have V1 : VH H₀ l C w ld a cap kr kj kv (R.set x true) H1 := V.frx fx1 (by rw [← hH1]; exact zdc lr) hset
    have sz1 : H1.size = H.size := by rw [← hH1, zdf]
    rw [hH1]
    clear hH1 br
    have bj1 := V1.bj
    refine W_seqI (fun e' H'' => gt 29 e' 1 = .pointer (some ⟨kr, 0, none⟩) ∧ gt 29 e' 2 = .pointer (some ⟨kj, 0, none⟩) ∧ gt 29 e' 3 = .pointer (some ⟨kv, 0, none⟩) ∧ gt 29 e' 14 = .func (.func 123) ⟨[]⟩ ⟨[.pointer (some ⟨H1.size, 0, none⟩), .pointer (some ⟨H1.size + 1, 0, none⟩), .pointer (some ⟨H1.size + 1 + 1, 0, none⟩)]⟩ ∧ Fr H1 H'' ∧ H''.size = H1.size + 3 ∧ cellsOf (H''.get H1.size) = some [.int .i64 C, .slice a l.length cap, .int .i64 w, .int .i64 ld, .int .i64 (-1)] ∧ cellsOf (H''.get (H1.size + 1)) = some [.int .i64 (x : Nat)] ∧ cellsOf (H''.get (H1.size + 1 + 1)) = some [.func (.func 107) ⟨[jobG C a l.length cap w ld (-1)]⟩ ⟨[]⟩]) ?_ ?_
    · have h106 := fun (N : Nat) (Q : Bool → Value → AHeap → Prop) (u : Value) (hu : u.cells.toList = [u]) (hL : L ≤ H1.size) => c106 (N := N) (H := H1) (Q := Q) (L := L) (C := C) (w := w) (ld := ld) (lf := -1) (x := (x : Int)) (a := a) (n := l.length) (cap := cap) (u := u) hu hL
      simp only [jobG] at h106
      simp (disch := (first | (simp only [yk,seval]; done) | omega | (simp only [yz] <;> omega) | fail)) only [↓yp,yq0,yq1,yq2,yq3,yq4,yl,ys0,ys1,seval,zed,zee,zfr,zhw,ysu,yrg,ysv,ysw,ysx,ysz,ysa,g0,g2,bj1]
      rw [h106 _ _ _ rfl (by omega)]
      simp (disch := (first | (simp only [yk,seval]; done) | omega | (simp only [yz] <;> omega) | fail)) only [↓yp,yq0,yq1,yq2,yq3,yq4,yl,ys0,ys1,seval,zed,zee,zfr,zhw,ysu,yrg,ysv,ysw,ysx,ysz,ysa]
      refine ⟨?_, ?_, ?_, ?_, by (repeat (first | exact Fr.refl _ | assumption | refine Fr.allocd ?_ _ | refine Fr.put ?_ (by first | omega | (simp only [yz] <;> omega)) _)), by (first | omega | (simp only [yz] <;> omega)), ?_, ?_, ?_⟩
      · simp (disch := (first | (simp only [yk,seval]; done) | omega | (simp only [yz] <;> omega) | fail)) only [yg,seval,g1]
      · simp (disch := (first | (simp only [yk,seval]; done) | omega | (simp only [yz] <;> omega) | fail)) only [yg,seval,g2]
      · simp (disch := (first | (simp only [yk,seval]; done) | omega | (simp only [yz] <;> omega) | fail)) only [yg,seval,g3]
      · simp (disch := (first | (simp only [yk,seval]; done) | omega | (simp only [yz] <;> omega) | fail)) only [yg,seval]
      · simp (disch := (first | (simp only [yk,seval]; done) | omega | (simp only [yz] <;> omega) | fail)) only [yg,seval]
      · simp (disch := (first | (simp only [yk,seval]; done) | omega | (simp only [yz] <;> omega) | fail)) only [yg,seval]
      · simp (disch := (first | (simp only [yk,seval]; done) | omega | (simp only [yz] <;> omega) | fail)) only [yg,seval,jobG]
    clear g0 g1 g2 g3
    rintro e6 H6 ⟨g1, g2, g3, g14, f6, sz6, hjob, hcor, hsuit⟩
    rw [zah]
    have V6 := V1.fr f6
    have hVis0 : VisR l w ld (R.set x true) (R.set x true) := ⟨rfl, fun _ h => h, fun y h0 h1 h2 => by rw [h1] at h2; cases h2⟩
    refine W_legsd (J := VJ H₀ H6 l C w ld a cap kr kj kv (R.set x true)) (f := fun R _ s b => bif bg R (farL s b) then R else visitR l w ld n R (farL s b)) (K₀ := 600 * n + 100) (C := C) (w := w) (ld := ld) (lf := -1) (x := (x : Int)) (a := a) (cap := cap) (b1 := H1.size) (b2 := H1.size + 1) (b3 := H1.size + 1 + 1) (R.set x true)
      ⟨?_, fun st H' J => J.sz, ?_, ?_, ?_, ?_, ?_⟩ ?_ ?_ hl (by omega) (by omega) g14 ?_ ?_ (by omega) ?_
    · intro st Hx Hy J f
      exact ⟨Nat.le_trans J.sz f.size, J.fx.trans (FrX.of f), J.v.fr f, J.vis⟩
    · intro st Hx J
      rw [J.fx.same _ (by omega) (by omega)]; exact hjob
    · intro st Hx J
      rw [J.fx.same _ (by omega) (by omega)]; exact hcor
    · intro st Hx J
      rw [J.fx.same _ (by omega) (by omega)]; exact hsuit
    · intro N' st Hx i r b J hi
      exact c94 (hs.fr J.v.f0) hi
    · intro N' st Hx i r b J hi
      exact c107 (hs.fr J.v.f0) hi
    · intro st Hx Hy J1 J2 f
      have := J1.sz
      exact ⟨J1.sz, J1.fx, J1.v.frx (FrX.refl _ _) (by rw [← f.same kr (by omega)]; exact J2.v.br) J2.v.len, J2.vis⟩
    · intro st Hx blk J
      exact ⟨by rw [zdf]; exact J.sz, ⟨by rw [zdf]; exact J.fx.size, fun j h1 h2 => by rw [zdd (by omega)]; exact J.fx.same j h1 h2⟩, J.v.put (H₁ := H6) (by omega) V6.f0 V6.lj V6.lv V6.lr _, J.vis⟩
    · intro blk
      exact ⟨by (first | omega | (simp only [yz] <;> omega)), FrX.of (by (repeat (first | exact Fr.refl _ | assumption | refine Fr.allocd ?_ _ | refine Fr.put ?_ (by first | omega | (simp only [yz] <;> omega)) _))), V6.fr (by (repeat (first | exact Fr.refl _ | assumption | refine Fr.allocd ?_ _ | refine Fr.put ?_ (by first | omega | (simp only [yz] <;> omega)) _))), hVis0⟩
    · intro M2 hM2 st Hx i r b e' J hi hmay hnr hlb hdf ge ge'
      obtain ⟨M2, rfl⟩ : ∃ M', M2 = M' + 600 * n + 100 := ⟨M2 - (600 * n + 100), by omega⟩
      have szJ := J.sz
      have q1 := (ge' 1 (by decide)).trans g1
      have q2 := (ge' 2 (by decide)).trans g2
      have q3 := (ge' 3 (by decide)).trans g3
      simp only [legV] at ge
      simp (disch := (first | (simp only [yk,seval]; done) | omega | (simp only [yz] <;> omega) | fail)) only [↓yp,yq0,yq1,yq2,yq3,yq4,yl,ys0,ys1,seval,zed,zee,zfr,zhw,ysu,yrg,ysv,ysw,ysx,ysz,ysa,ge]
      refine midY_gen (by simp (disch := (first | (simp only [yk,seval]; done) | omega | (simp only [yz] <;> omega) | fail)) only [yg,seval]; exact hlb) ?_
      intro bz hbz
      have fX : Fr Hx ((Hx.alloc (.rw [.int .i64 0, .bool false] 28 false [])).put Hx.size (.rw [.int .i64 (i : Nat), .bool b] 28 false [])) := Fr.put (Fr.alloc _ _) (Nat.le_refl _) _
      have VY : VH H₀ l C w ld a cap kr kj kv st (((Hx.alloc (.rw [.int .i64 0, .bool false] 28 false [])).put Hx.size (.rw [.int .i64 (i : Nat), .bool b] 28 false [])).put (H6.size + 1) bz) := (J.v.fr fX).put (H₁ := H6) (by omega) V6.f0 V6.lj V6.lv V6.lr _
      have b5 : (((Hx.alloc (.rw [.int .i64 0, .bool false] 28 false [])).put Hx.size (.rw [.int .i64 (i : Nat), .bool b] 28 false [])).put (H6.size + 1) bz).get Hx.size = .rw [.int .i64 (i : Nat), .bool b] 28 false [] := by rw [zdd (by omega)]; exact zdc (by (first | omega | (simp only [yz] <;> omega)))
      have bzY : (((Hx.alloc (.rw [.int .i64 0, .bool false] 28 false [])).put Hx.size (.rw [.int .i64 (i : Nat), .bool b] 28 false [])).put (H6.size + 1) bz).get (H6.size + 1) = bz := zdc (by (first | omega | (simp only [yz] <;> omega)))
      have fxY : FrX kr H6 (((Hx.alloc (.rw [.int .i64 0, .bool false] 28 false [])).put Hx.size (.rw [.int .i64 (i : Nat), .bool b] 28 false [])).put (H6.size + 1) bz) := ⟨by have := J.fx.size; (first | omega | (simp only [yz] <;> omega)), fun j h1 h2 => by rw [zdd (by omega), fX.same _ (by omega)]; exact J.fx.same j h1 h2⟩
      have dfY : (((Hx.alloc (.rw [.int .i64 0, .bool false] 28 false [])).put Hx.size (.rw [.int .i64 (i : Nat), .bool b] 28 false [])).put (H6.size + 1) bz).get H6.size = .defer := by rw [zdd (by omega), fX.same _ (by omega)]; exact hdf
      have szY : (((Hx.alloc (.rw [.int .i64 0, .bool false] 28 false [])).put Hx.size (.rw [.int .i64 (i : Nat), .bool b] 28 false [])).put (H6.size + 1) bz).size = Hx.size + 1 := by (first | omega | (simp only [yz] <;> omega))
      generalize ((Hx.alloc (.rw [.int .i64 0, .bool false] 28 false [])).put Hx.size (.rw [.int .i64 (i : Nat), .bool b] 28 false [])).put (H6.size + 1) bz = Hy at VY b5 bzY fxY dfY szY ⊢
      have hfr := far_range (b := b) g hi
      have hC8 := g.hC
      obtain ⟨y, hy⟩ : ∃ y : Nat, farL r b = y := ⟨(farL r b).toNat, by omega⟩
      have hy8 : y < 8 := by omega
      have bjY := VY.bj
      have bfY := VY.bf
      have brY := VY.br
      have ljY := VY.lj
      have lvY := VY.lv
      have lrY := VY.lr
      have lenY := VY.len
      have hbg := bv_get (t := st) (i := y) (by omega)
      have hcm := count_mono (R := R.set x true) (R' := st) J.vis.len.symm (fun k hk => by
        have := J.vis.mono (k : Int) (by rw [bg_nat]; exact hk)
        rwa [bg_nat] at this)
      have hVis : VisR l w ld (R.set x true) (bif bg st (farL r b) then st else visitR l w ld n st (farL r b)) := by
        cases hgg : bg st (farL r b)
        · simp only [cond_false]
          obtain ⟨V', -⟩ := visitR_ok g n st (farL r b) lenY (by omega) hgg (by omega)
          refine ⟨V'.len.trans J.vis.len, fun y hy => V'.mono _ (J.vis.mono _ hy), fun y h0 hy hn => ?_⟩
          cases hs : bg st y
          · exact V'.new y h0 hy hs
          · exact (J.vis.new y h0 hs hn).mono V'.mono
        · exact J.vis
      refine W_end (I := fun _ H'' => FrX kr Hy H'' ∧ VH H₀ l C w ld a cap kr kj kv (bif bg st (farL r b) then st else visitR l w ld n st (farL r b)) H'') ?_ ?_
      · rw [zah]
        have h94 := fun (N : Nat) => c94 (N := N) (C := C) (w := w) (ld := ld) (cap := cap) (b := b) (hs.fr VY.f0) hi
        simp only [jobV,legV] at h94
        rw [hy] at h94 ⊢
        simp (disch := (first | (simp only [yk,seval]; done) | omega | (simp only [yz] <;> omega) | fail)) only [↓yp,yq0,yq1,yq2,yq3,yq4,yl,ys0,ys1,seval,zed,zee,zfr,zhw,ysu,yrg,ysv,ysw,ysx,ysz,ysa,q1,q2,q3,bjY,b5,h94,A_indexArr st_arS_151,brY,hbg]
        rw [← bg_nat]
        cases hgg : bg st (y : Int)
        · simp (disch := (first | (simp only [yk,seval]; done) | omega | (simp only [yz] <;> omega) | fail)) only [↓yp,yq0,yq1,yq2,yq3,yq4,yl,ys0,ys1,seval,zed,zee,zfr,zhw,ysu,yrg,ysv,ysw,ysx,ysz,ysa,q3,bfY,visF]
          refine ih VY hy8 hgg (by omega) (by omega) (by omega) ?_
          intro q v H9 f9 V9
          simp (disch := (first | (simp only [yk,seval]; done) | omega | (simp only [yz] <;> omega) | fail)) only [↓yp,yq0,yq1,yq2,yq3,yq4,yl,ys0,ys1,seval,zed,zee,zfr,zhw,ysu,yrg,ysv,ysw,ysx,ysz,ysa,cond_false]
          exact ⟨by have := f9.size; omega, rfl, rfl, f9, V9⟩
        · simp (disch := (first | (simp only [yk,seval]; done) | omega | (simp only [yz] <;> omega) | fail)) only [↓yp,yq0,yq1,yq2,yq3,yq4,yl,ys0,ys1,seval,zed,zee,zfr,zhw,ysu,yrg,ysv,ysw,ysx,ysz,ysa,cond_true]
          exact ⟨FrX.refl _ _, VY⟩
      rintro e9 H9 ⟨f9, V9⟩
      have s9 := f9.size
      have hbz9 : H9.get (H6.size + 1) = bz := by rw [f9.same _ (by omega) (by omega)]; exact bzY
      have hdf9 : H9.get H6.size = .defer := by rw [f9.same _ (by omega) (by omega)]; exact dfY
      refine endY_normal (by rw [hbz9]; exact hbz) ?_
      unfold roundQ
      exact ⟨rfl, zdc (by omega), by rw [zdd (by omega)]; exact hdf9, by rw [zdf]; omega, ⟨by rw [zdf]; exact (fxY.trans f9).size, fun j h1 h2 => by rw [zdd (by omega)]; exact (fxY.trans f9).same j h1 h2⟩, V9.put (H₁ := H6) (by omega) V6.f0 V6.lj V6.lv V6.lr _, hVis⟩
    · intro H9 blk J hdf
      have szJ := J.sz
      have lr6 := V6.lr
      have V9 := J.v.put (H₁ := H6) (k := H6.size + 1) (by omega) V6.f0 V6.lj V6.lv V6.lr blk
      simp (disch := (first | (simp only [yk,seval]; done) | omega | (simp only [yz] <;> omega) | fail)) only [↓yp,yq0,yq1,yq2,yq3,yq4,yl,ys0,ys1,seval,zed,zee,zfr,zhw,ysu,yrg,ysv,ysw,ysx,ysz,ysa]
      refine ⟨fun k hk => ?_, by rw [zdf]; omega, (H9.put (H6.size + 1) blk).put H6.size .dead, ?_, _, rfl, ?_, ?_⟩
      · simp only [List.mem_singleton] at hk
        omega
      · rw [atake_cons (by rw [zdd (by omega)]; exact hdf)]; rfl
      · have fA := (fx1.trans (FrX.of f6)).trans J.fx
        exact ⟨by rw [zdf, zdf]; exact fA.size, fun j h1 h2 => by rw [zdd (by omega), zdd (by omega)]; exact fA.same j h1 h2⟩
      · unfold visitR
        rw [Int.toNat_natCast]
        exact V9.put (H₁ := H6) (k := H6.size) (Nat.le_refl _) V6.f0 V6.lj V6.lv V6.lr _
end
end Go.Am
