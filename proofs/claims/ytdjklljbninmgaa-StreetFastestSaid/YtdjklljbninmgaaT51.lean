import Derived.Test.YtdjklljbninmgaaT50
set_option linter.unusedSimpArgs false
set_option linter.unusedVariables false
namespace Go.Am
open Go.Proofs
variable {T : Tab} {P : Program} {N L : Nat} {H : AHeap} {Q : Bool → Value → AHeap → Prop}
section
variable {a : Option Addr} {cap : Nat} {l : List Str} {C w ld : Int}
def rchP (l : List Str) (w ld fr : Int) (k : Nat) : Bool := bg (visitR l w ld 8 noR fr) (k : Int)
set_option maxHeartbeats 4000000 in
set_option maxRecDepth 10000 in
theorem c55 {fr : Nat} (hs : Sl H a l) (hl : l.length ≤ 18) (h0 : asked C l w ld [(fr : Int)] [] [] = 0) (hL : L ≤ H.size) {M : Nat} (hM : 5500 ≤ M)
    (hq : ∀ f a' c H', Fr H H' → Il H' a' (barsL (rchP l w ld fr) C.toNat) → Q f (.tuple ⟨[.slice a' (barsL (rchP l w ld fr) C.toNat).length c, .int .i64 0]⟩) H') :
    resK (acall tabA (aexec tabA Try.prog M) 55 [.agg ⟨[.int .i64 C, .slice a l.length cap]⟩, .agg ⟨[.int .i64 w, .int .i64 ld]⟩, .int .i64 (fr : Nat)] H) L Q := by
  obtain ⟨N, rfl⟩ : ∃ N, M = N + 5500 := ⟨M - 5500, by omega⟩
  obtain ⟨hc, hw, hd, hcs, hss, hms⟩ := asked_ok h0
  have g := good_of hc hd
  have hC := g.hC
  have hfr := hcs (fr : Int) (by simp)
  obtain ⟨R, hR⟩ : ∃ R, visitR l w ld 8 noR (fr : Int) = R := ⟨_, rfl⟩
  have hRl : R.length = 8 := by rw [← hR]; exact reach_len g (by omega)
  obtain ⟨p, hp⟩ : ∃ p, rchP l w ld fr = p := ⟨_, rfl⟩
  have hpk : ∀ k, p k = bg R (k : Int) := fun k => by rw [← hp, ← hR]; rfl
  rw [hp] at hq
  obtain ⟨Cn, rfl⟩ : ∃ Cn : Nat, C = Cn := ⟨C.toNat, by omega⟩
  rw [Int.toNat_natCast] at hq
  refine call_some (R := fun v H' => ∃ a' c, v = .tuple ⟨[.slice a' (barsL p Cn).length c, .int .i64 0]⟩ ∧ Fr H H' ∧ Il H' a' (barsL p Cn)) (k := 43) (rs := [.tmp 6, .tmp 7]) rfl fn_55 rfl rfl rfl hL ?_ ?_ ?_
  · refine W_seqI (fun e' H'' => gt 43 e' 2 = .int .i64 (fr : Nat) ∧ gt 43 e' 3 = .pointer (some ⟨H.size, 0, none⟩) ∧ gt 43 e' 4 = .pointer (some ⟨H.size + 1, 0, none⟩) ∧ Fr H H'' ∧ H''.size = H.size + 2 ∧ H''.get H.size = .rw [.int .i64 (Cn : Nat), .slice a l.length cap] 24 false [] ∧ H''.get (H.size + 1) = .rw [.int .i64 w, .int .i64 ld] 26 false []) ?_ ?_
    · simp (disch := (first | (simp only [yk,seval]; done) | omega | (simp only [yz] <;> omega) | fail)) only [↓yp,yq0,yq1,yq2,yq3,yq4,yl,ys0,ys1,seval,zed,zee,zfr,zhw,ysu,yrg,ysv,ysw,ysx,ysz,ysa]
      refine ⟨?_, ?_, ?_, by (repeat (first | exact Fr.refl _ | assumption | refine Fr.allocd ?_ _ | refine Fr.put ?_ (by first | omega | (simp only [yz] <;> omega)) _)), by (first | omega | (simp only [yz] <;> omega)), ?_, ?_⟩ <;> simp (disch := (first | (simp only [yk,seval]; done) | omega | (simp only [yz] <;> omega) | fail)) only [yg,seval]
    rintro e1 H1 ⟨g2, g3, g4, f1, sz1, b3, b4⟩
    refine W_seqI (fun e' H'' => Keep 43 [2, 3, 4] e1 e' ∧ Fr H1 H'') ?_ ?_
    · have h82 := fun (H'' : AHeap) (N k : Nat) (f : Fr H H'') (h : cellsOf (H''.get k) = some [.int .i64 (fr : Nat)]) => c82 (N := N) (H := H'') (C := (Cn : Int)) (w := w) (ld := ld) (cap := cap) (kc := 1) (ks := 0) (km := 0) (cs := [(fr : Int)]) (ss := []) (ms := []) (as' := none) (am := none) (hs.fr f) hl (Il.one (lt_of_cells h) h) (by simp) Il.nil (by simp) Il.nil (by simp)
      simp only [List.length_cons,List.length_nil,Nat.zero_add,h0] at h82
      simp (disch := (first | (simp only [yk,seval]; done) | omega | (simp only [yz] <;> omega) | fail)) only [↓yp,yq0,yq1,yq2,yq3,yq4,yl,ys0,ys1,seval,zed,zee,zfr,zhw,ysu,yrg,ysv,ysw,ysx,ysz,ysa,g2,g3,g4,b3,b4,A_buildSlice st_brS_52_1]
      rw [h82 _ _ _ (f1.trans (by (repeat (first | exact Fr.refl _ | assumption | refine Fr.allocd ?_ _ | refine Fr.put ?_ (by first | omega | (simp only [yz] <;> omega)) _)))) (by simp (disch := (first | (simp only [yk,seval]; done) | omega | (simp only [yz] <;> omega) | fail)) only [yg,seval])]
      simp (disch := (first | (simp only [yk,seval]; done) | omega | (simp only [yz] <;> omega) | fail)) only [↓yp,yq0,yq1,yq2,yq3,yq4,yl,ys0,ys1,seval,zed,zee,zfr,zhw,ysu,yrg,ysv,ysw,ysx,ysz,ysa]
      exact ⟨by (with_reducible (repeat (first | refine Keep.put ?_ (by decide) | refine Keep.none ?_ | assumption | exact Keep.refl _ _ _))), by (repeat (first | exact Fr.refl _ | assumption | refine Fr.allocd ?_ _ | refine Fr.put ?_ (by first | omega | (simp only [yz] <;> omega)) _))⟩
    rintro e2 H2 ⟨k2, f2⟩
    have q2 := (k2 2 (by simp)).trans g2
    have q3 := (k2 3 (by simp)).trans g3
    have q4 := (k2 4 (by simp)).trans g4
    have j3 := (f2.same H.size (by omega)).trans b3
    have j4 := (f2.same (H.size + 1) (by omega)).trans b4
    have f02 := f1.trans f2
    have sz2 := f2.size
    clear g2 g3 g4 b3 b4 k2
    refine W_seqI (fun e' H'' => ∃ H3, H2.size ≤ H3.size ∧ Fr H2 H3 ∧ gt 43 e' 2 = .int .i64 (fr : Nat) ∧ gt 43 e' 3 = .pointer (some ⟨H.size, 0, none⟩) ∧ gt 43 e' 9 = .pointer (some ⟨H3.size, 0, none⟩) ∧ Fr H3 H'' ∧ H''.size = H3.size + 1 ∧ H''.get H3.size = .rw [.int .i64 (Cn : Nat), .slice a l.length cap, .int .i64 w, .int .i64 ld, .int .i64 (-1)] 124 false []) ?_ ?_
    · simp (disch := (first | (simp only [yk,seval]; done) | omega | (simp only [yz] <;> omega) | fail)) only [↓yp,yq0,yq1,yq2,yq3,yq4,yl,ys0,ys1,seval,zed,zee,zfr,zhw,ysu,yrg,ysv,ysw,ysx,ysz,ysa,q2,q3,q4,j3,j4]
      refine c83q (hs.fr f02).none_len (by (first | omega | (simp only [yz] <;> omega))) (by omega) ?_
      intro b3 H3 f3
      have sz3 := f3.size
      simp (disch := (first | (simp only [yk,seval]; done) | omega | (simp only [yz] <;> omega) | fail)) only [↓yp,yq0,yq1,yq2,yq3,yq4,yl,ys0,ys1,seval,zed,zee,zfr,zhw,ysu,yrg,ysv,ysw,ysx,ysz,ysa,jobV]
      refine ⟨H3, sz3, f3, ?_, ?_, ?_, by (repeat (first | exact Fr.refl _ | assumption | refine Fr.allocd ?_ _ | refine Fr.put ?_ (by first | omega | (simp only [yz] <;> omega)) _)), by (first | omega | (simp only [yz] <;> omega)), ?_⟩ <;> simp (disch := (first | (simp only [yk,seval]; done) | omega | (simp only [yz] <;> omega) | fail)) only [yg,seval,q2,q3]
    rintro e3 H4 ⟨H3, sz23, f3, g2, g3, g9, f4, sz4, b9⟩
    have f03 := f02.trans f3
    have s03 := f03.size
    refine W_seqI (fun e' H'' => Keep 43 [2, 3, 9] e3 e' ∧ gt 43 e' 10 = .pointer (some ⟨H3.size + 1, 0, none⟩) ∧ Fr H4 H'' ∧ H''.size = H3.size + 2 ∧ H''.get (H3.size + 1) = .rw (bv noR) 151 false []) ?_ ?_
    · simp (disch := (first | (simp only [yk,seval]; done) | omega | (simp only [yz] <;> omega) | fail)) only [↓yp,yq0,yq1,yq2,yq3,yq4,yl,ys0,ys1,seval,zed,zee,zfr,zhw,ysu,yrg,ysv,ysw,ysx,ysz,ysa]
      refine ⟨by (with_reducible (repeat (first | refine Keep.put ?_ (by decide) | refine Keep.none ?_ | assumption | exact Keep.refl _ _ _))), ?_, by (repeat (first | exact Fr.refl _ | assumption | refine Fr.allocd ?_ _ | refine Fr.put ?_ (by first | omega | (simp only [yz] <;> omega)) _)), by (first | omega | (simp only [yz] <;> omega)), ?_⟩
      · simp (disch := (first | (simp only [yk,seval]; done) | omega | (simp only [yz] <;> omega) | fail)) only [yg,seval,sz4]
      · rw [zda (by omega)]; rfl
    rintro e4 H5 ⟨k4, g10, f5, sz5, b10⟩
    have p2 := (k4 2 (by simp)).trans g2
    have p3 := (k4 3 (by simp)).trans g3
    have p9 := (k4 9 (by simp)).trans g9
    have b9' := (f5.same H3.size (by omega)).trans b9
    clear g2 g3 g9 b9 k4 q2 q3 q4
    refine W_seqI (fun e' H'' => Keep 43 [2, 3, 9, 10] e4 e' ∧ gt 43 e' 11 = .pointer (some ⟨H3.size + 2, 0, none⟩) ∧ Fr H5 H'' ∧ H''.size = H3.size + 3 ∧ H''.get (H3.size + 2) = .rw [.nilFunc] 152 false []) ?_ ?_
    · simp (disch := (first | (simp only [yk,seval]; done) | omega | (simp only [yz] <;> omega) | fail)) only [↓yp,yq0,yq1,yq2,yq3,yq4,yl,ys0,ys1,seval,zed,zee,zfr,zhw,ysu,yrg,ysv,ysw,ysx,ysz,ysa]
      refine ⟨by (with_reducible (repeat (first | refine Keep.put ?_ (by decide) | refine Keep.none ?_ | assumption | exact Keep.refl _ _ _))), ?_, by (repeat (first | exact Fr.refl _ | assumption | refine Fr.allocd ?_ _ | refine Fr.put ?_ (by first | omega | (simp only [yz] <;> omega)) _)), by (first | omega | (simp only [yz] <;> omega)), ?_⟩
      · simp (disch := (first | (simp only [yk,seval]; done) | omega | (simp only [yz] <;> omega) | fail)) only [yg,seval,sz5]
      · rw [zda (by omega)]
    rintro e5 H6 ⟨k5, g11, f6, sz6, b11⟩
    have r2 := (k5 2 (by simp)).trans p2
    have r3 := (k5 3 (by simp)).trans p3
    have r9 := (k5 9 (by simp)).trans p9
    have r10 := (k5 10 (by simp)).trans g10
    have b9'' := (f6.same H3.size (by omega)).trans b9'
    have b10'' := (f6.same (H3.size + 1) (by omega)).trans b10
    clear p2 p3 p9 g10 b9' b10 k5
    refine W_seqI (fun e' H'' => Keep 43 [2, 3, 9, 10, 11] e5 e' ∧ VH H l (Cn : Int) w ld a cap (H3.size + 1) H3.size (H3.size + 2) noR H'' ∧ Fr H2 H'' ∧ H3.size + 3 = H''.size) ?_ ?_
    · simp (disch := (first | (simp only [yk,seval]; done) | omega | (simp only [yz] <;> omega) | fail)) only [↓yp,yq0,yq1,yq2,yq3,yq4,yl,ys0,ys1,seval,zed,zee,zfr,zhw,ysu,yrg,ysv,ysw,ysx,ysz,ysa,r9,r10,g11,b11]
      have fA : Fr H2 (H6.put (H3.size + 2) (.rw [.func (.func 105) ⟨[]⟩ ⟨[.pointer (some ⟨H3.size + 1, 0, none⟩), .pointer (some ⟨H3.size, 0, none⟩), .pointer (some ⟨H3.size + 2, 0, none⟩)]⟩] 152 false [])) := Fr.put (((f3.trans f4).trans f5).trans f6) (by omega) _
      refine ⟨by (with_reducible (repeat (first | refine Keep.put ?_ (by decide) | refine Keep.none ?_ | assumption | exact Keep.refl _ _ _))), ⟨f02.trans fA, ?_, ?_, ?_, by (first | omega | (simp only [yz] <;> omega)), by (first | omega | (simp only [yz] <;> omega)), by (first | omega | (simp only [yz] <;> omega)), by omega, by omega, by omega, rfl⟩, fA, by (first | omega | (simp only [yz] <;> omega))⟩
      · rw [zdd (by omega)]; exact b9''
      · rw [zdc (by omega)]; rfl
      · rw [zdd (by omega)]; exact b10''
    rintro e6 H7 ⟨k6, V, f27, sz7⟩
    have s2 := (k6 2 (by simp)).trans r2
    have s3 := (k6 3 (by simp)).trans r3
    have s10 := (k6 10 (by simp)).trans r10
    have s11 := (k6 11 (by simp)).trans g11
    clear r2 r3 r9 r10 g11 k6 b9'' b10'' b11
    refine W_seqI (fun e' H'' => Keep 43 [3, 10] e6 e' ∧ VH H l (Cn : Int) w ld a cap (H3.size + 1) H3.size (H3.size + 2) R H'' ∧ FrX (H3.size + 1) H7 H'') ?_ ?_
    · have bf := V.bf
      have lv := V.lv
      have s0 := V.f0.size
      simp (disch := (first | (simp only [yk,seval]; done) | omega | (simp only [yz] <;> omega) | fail)) only [↓yp,yq0,yq1,yq2,yq3,yq4,yl,ys0,ys1,seval,zed,zee,zfr,zhw,ysu,yrg,ysv,ysw,ysx,ysz,ysa,s2,s11,bf,visF]
      refine c105 g hl hs 8 V (by omega) noR_bg (by decide) (by omega) (by omega) ?_
      intro q v H8 f8 V8
      have s8 := f8.size
      rw [hR] at V8
      simp (disch := (first | (simp only [yk,seval]; done) | omega | (simp only [yz] <;> omega) | fail)) only [↓yp,yq0,yq1,yq2,yq3,yq4,yl,ys0,ys1,seval,zed,zee,zfr,zhw,ysu,yrg,ysv,ysw,ysx,ysz,ysa]
      exact ⟨by (with_reducible (repeat (first | refine Keep.put ?_ (by decide) | refine Keep.none ?_ | assumption | exact Keep.refl _ _ _))), V8, f8⟩
    rintro e7 H8 ⟨k7, V8, f8⟩
    have t3 := (k7 3 (by simp)).trans s3
    have t10 := (k7 10 (by simp)).trans s10
    clear s2 s3 s10 s11 k7
    have f78 : Fr H2 H8 := f8.above f27 (by omega)
    have j3' := (f78.same H.size (by omega)).trans j3
    have brR := V8.br
    have lrR := V8.lr
    have szH8 := f8.size
    have hbl : (bv R).length = 8 := by rw [bv_len]; exact hRl
    simp (disch := (first | (simp only [yk,seval]; done) | omega | (simp only [yz] <;> omega) | fail)) only [↓yp,yq0,yq1,yq2,yq3,yq4,yl,ys0,ys1,seval,zed,zee,zfr,zhw,ysu,yrg,ysv,ysw,ysx,ysz,ysa,t3,j3']
    refine W_while (n := 43) 200 (fun k e H' => ∃ (j : Nat) (ga : Option Addr) (gc : Nat), k = Cn - j ∧ j ≤ Cn ∧ gt 43 e 31 = .int .i64 (j : Nat) ∧ gt 43 e 30 = .int .i64 (Cn : Nat) ∧ gt 43 e 10 = .pointer (some ⟨H3.size + 1, 0, none⟩) ∧ gt 43 e 12 = .slice ga (barsL p j).length gc ∧ Fr H8 H' ∧ Grow H' (H8.size - 1) (.slice ga (barsL p j).length gc) (barsL p j).length (tv (barsL p j)) 3 1)
      ?_ 8 Cn ⟨0, none, 0, by omega, by omega, by simp (disch := (first | (simp only [yk,seval]; done) | omega | (simp only [yz] <;> omega) | fail)) only [yg,seval] <;> rfl, by simp (disch := (first | (simp only [yk,seval]; done) | omega | (simp only [yz] <;> omega) | fail)) only [yg,seval], by simp (disch := (first | (simp only [yk,seval]; done) | omega | (simp only [yz] <;> omega) | fail)) only [yg,seval,t10], by simp (disch := (first | (simp only [yk,seval]; done) | omega | (simp only [yz] <;> omega) | fail)) only [yg,seval] <;> rfl, by (repeat (first | exact Fr.refl _ | assumption | refine Fr.allocd ?_ _ | refine Fr.put ?_ (by first | omega | (simp only [yz] <;> omega)) _)), ⟨fun _ => rfl, fun h => absurd rfl h⟩⟩ (by omega) (by omega)
    clear t3 t10
    rintro M1 k1 e H' ⟨j, ga, gc, rfl, hj, g31, g30, g10, g12, fr', gw⟩
    have f0 := fr'.size
    have fA := (f02.trans f78).trans fr'
    have brH := (fr'.same _ lrR).trans brR
    simp (disch := (first | (simp only [yk,seval]; done) | omega | (simp only [yz] <;> omega) | fail)) only [↓yp,yq0,yq1,yq2,yq3,yq4,yl,ys0,ys1,seval,zed,zee,zfr,zhw,ysu,yrg,ysv,ysw,ysx,ysz,ysa,g31,g30]
    refine ⟨fun hB => ?_, fun hB => ?_⟩
    · have hj4 : j < Cn := by have := of_decide_eq_true hB; omega
      have hw2 : w64 ((j : Int) + 1) = ((j + 1 : Nat) : Int) := by rw [w64_of (by omega)]; omega
      have hpj := hpk j
      rw [bg_nat] at hpj
      have hbg := bv_get (t := R) (i := j) (by omega)
      rw [← hpj] at hbg
      have hbe : barsL p (j + 1) = barsL p j ++ (if p j then [(j : Int)] else []) := rfl
      simp (disch := (first | (simp only [yk,seval]; done) | omega | (simp only [yz] <;> omega) | fail)) only [↓yp,yq0,yq1,yq2,yq3,yq4,yl,ys0,ys1,seval,zed,zee,zfr,zhw,ysu,yrg,ysv,ysw,ysx,ysz,ysa,g31,g10,A_indexArr st_arS_151,brH,hbg]
      cases hD : p j
      · rw [hD] at hbe
        simp only [Bool.false_eq_true,if_false,List.append_nil] at hbe
        simp (disch := (first | (simp only [yk,seval]; done) | omega | (simp only [yz] <;> omega) | fail)) only [↓yp,yq0,yq1,yq2,yq3,yq4,yl,ys0,ys1,seval,zed,zee,zfr,zhw,ysu,yrg,ysv,ysw,ysx,ysz,ysa,g31,hw2]
        refine ⟨Cn - (j + 1), by omega, j + 1, ga, gc, rfl, by omega, ?_, ?_, ?_, ?_, fr', ?_⟩
        · simp (disch := (first | (simp only [yk,seval]; done) | omega | (simp only [yz] <;> omega) | fail)) only [yg,seval]
        · simp (disch := (first | (simp only [yk,seval]; done) | omega | (simp only [yz] <;> omega) | fail)) only [yg,seval,g30]
        · simp (disch := (first | (simp only [yk,seval]; done) | omega | (simp only [yz] <;> omega) | fail)) only [yg,seval,g10]
        · simp (disch := (first | (simp only [yk,seval]; done) | omega | (simp only [yz] <;> omega) | fail)) only [yg,seval,g12,hbe]
        · rw [hbe]; exact gw
      · rw [hD] at hbe
        simp only [if_true] at hbe
        have hln := barsL_le (p := p) j
        simp (disch := (first | (simp only [yk,seval]; done) | omega | (simp only [yz] <;> omega) | fail)) only [↓yp,yq0,yq1,yq2,yq3,yq4,yl,ys0,ys1,seval,zed,zee,zfr,zhw,ysu,yrg,ysv,ysw,ysx,ysz,ysa,g31,g12,A_buildSlice st_brS_52_1]
        refine grow_append (i := (barsL p j).length) (cs := tv (barsL p j)) (news := [.int .i64 (j : Int)]) st_apS_52 (gw.fr (by (repeat (first | exact Fr.refl _ | assumption | refine Fr.allocd ?_ _ | refine Fr.put ?_ (by first | omega | (simp only [yz] <;> omega)) _)))) (by (first | omega | (simp only [yz] <;> omega))) (by rw [tv_len]; omega) (by unfold srcCells; simp (disch := (first | (simp only [yk,seval]; done) | omega | (simp only [yz] <;> omega) | fail)) only [yg,seval] <;> rfl) (by omega) (by omega) rfl (by omega) ?_
        intro a' c' H₂ fu gw'
        have u0 := fu.size
        simp only [zde,zdf] at u0
        have e1 : (barsL p (j + 1)).length = (barsL p j).length + 1 := by rw [hbe, List.length_append]; rfl
        have etv : tv (barsL p (j + 1)) = tv (barsL p j) ++ [.int .i64 (j : Int)] := by rw [hbe]; unfold tv; rw [List.map_append]; rfl
        simp (disch := (first | (simp only [yk,seval]; done) | omega | (simp only [yz] <;> omega) | fail)) only [↓yp,yq0,yq1,yq2,yq3,yq4,yl,ys0,ys1,seval,zed,zee,zfr,zhw,ysu,yrg,ysv,ysw,ysx,ysz,ysa,g31,hw2]
        refine ⟨Cn - (j + 1), by omega, j + 1, a', c', rfl, by omega, ?_, ?_, ?_, ?_, ?_, ?_⟩
        · simp (disch := (first | (simp only [yk,seval]; done) | omega | (simp only [yz] <;> omega) | fail)) only [yg,seval]
        · simp (disch := (first | (simp only [yk,seval]; done) | omega | (simp only [yz] <;> omega) | fail)) only [yg,seval,g30]
        · simp (disch := (first | (simp only [yk,seval]; done) | omega | (simp only [yz] <;> omega) | fail)) only [yg,seval,g10]
        · simp (disch := (first | (simp only [yk,seval]; done) | omega | (simp only [yz] <;> omega) | fail)) only [yg,seval,e1]
        · exact Fr.part (H₁ := _) (Fr.allocd fr' _) fu (by omega)
        · rw [e1, etv]; exact gw'
    · have hj4 : j = Cn := by have := of_decide_eq_false hB; omega
      subst hj4
      simp (disch := (first | (simp only [yk,seval]; done) | omega | (simp only [yz] <;> omega) | fail)) only [↓yp,yq0,yq1,yq2,yq3,yq4,yl,ys0,ys1,seval,zed,zee,zfr,zhw,ysu,yrg,ysv,ysw,ysx,ysz,ysa,g12]
      exact ⟨ga, gc, rfl, fA, gw.il rfl⟩
  · rintro v H' ⟨a', c, rfl, h1, h2⟩
    exact hq _ _ _ _ h1 h2
  · rintro v H' ⟨a', c, rfl, h1, h3⟩ hg
    have hnil : barsL p Cn = [] := Classical.byContradiction fun hne => by
      obtain ⟨b, o, c', rfl, _⟩ := h3.get hne
      simp [gr, ground] at hg
    rw [hnil] at hq h3 ⊢
    exact hq _ _ _ _ (Fr.refl H) ⟨fun hne => absurd rfl hne⟩
end
end Go.Am
namespace Go.Am
open Go.Proofs
variable {T : Tab} {P : Program} {N L : Nat} {H : AHeap} {Q : Bool → Value → AHeap → Prop}
theorem A_idx {ex : Exec} {t : Operand → Option Value} {ty : TypeId} {x ix : Operand} {v : Value} (h0 : aIndex tabA t H ty x ix = none) (h : aIndexG Try.prog t H ty x ix = some (v, H, H.size)) (hL : L ≤ H.size) (hq : Q true v H) : A tabA Try.prog ex t H L (.index ty x ix) Q := by
  unfold A
  show (match still (orElse (aIndex tabA t H ty x ix) (aIndexG Try.prog t H ty x ix)) with
    | some (b, v, H', m) => L ≤ m ∧ Q b v H'
    | none => False)
  rw [h0, h]
  exact ⟨hL, hq⟩
theorem geU1 {x y : Operand} : binV tabA Try.prog .geq 138 x y (.int .u64 0) (.int .u64 4294967296) = some (.bool false) := nr rfl
theorem geU2 {x y : Operand} : binV tabA Try.prog .geq 138 x y (.int .u64 0) (.int .u64 65536) = some (.bool false) := nr rfl
theorem geU3 {x y : Operand} : binV tabA Try.prog .geq 138 x y (.int .u64 0) (.int .u64 256) = some (.bool false) := nr rfl
theorem cv_138_5z : cvV tabA Try.prog H 138 5 (.int .u64 0) = some (.int .u8 0) := by kernel_rfl
theorem cv_3_142z : cvV tabA Try.prog H 3 142 (.int .i64 0) = some (.int .u64 0) := by kernel_rfl
theorem cv_5_3z : cvV tabA Try.prog H 5 3 (.int .u8 0) = some (.int .i64 0) := by kernel_rfl
theorem w64z : w64 0 = 0 := rfl
theorem w64o : w64 1 = 1 := rfl
theorem c144z : acall tabA (aexec tabA Try.prog (N + 60)) 144 [.int .u64 0] H = some (true, .int .i64 0, H, H.size) := by
  refine call_quiet (k := 25) (rs := [.tmp 2]) rfl fn_144 rfl rfl rfl ?_ rfl
  simp (disch := (first | (simp only [yk,seval]; done) | omega | (simp only [yz] <;> omega) | fail)) only [↓yp,yq0,yq1,yq2,yq3,yq4,yl,ys0,ys1,seval,zed,zee,zfr,zhw,ysu,yrg,ysv,ysw,ysx,ysz,ysa,geU1,geU2,geU3,A_conv,cv_138_5z]
  refine A_idx (v := .int .u8 0) (by kernel_rfl) (by kernel_rfl) (by omega) ?_
  simp (disch := (first | (simp only [yk,seval]; done) | omega | (simp only [yz] <;> omega) | fail)) only [↓yp,yq0,yq1,yq2,yq3,yq4,yl,ys0,ys1,seval,zed,zee,zfr,zhw,ysu,yrg,ysv,ysw,ysx,ysz,ysa,A_conv,cv_5_3z,w64z]
theorem c125z : acall tabA (aexec tabA Try.prog (N + 80)) 125 [.int .u64 0] H = some (true, .int .i64 0, H, H.size) := by
  refine call_quiet (k := 8) (rs := [.tmp 2]) rfl fn_125 rfl rfl rfl ?_ rfl
  simp (disch := (first | (simp only [yk,seval]; done) | omega | (simp only [yz] <;> omega) | fail)) only [↓yp,yq0,yq1,yq2,yq3,yq4,yl,ys0,ys1,seval,zed,zee,zfr,zhw,ysu,yrg,ysv,ysw,ysx,ysz,ysa,c144z]
theorem c134n : acall tabA (aexec tabA Try.prog (N + 80)) 134 [.slice none 0 0, .int .i64 0, .int .i64 0] H = some (true, .tuple ⟨[]⟩, H, H.size) := by
  refine call_quiet (k := 49) (rs := []) rfl fn_134 rfl rfl rfl ?_ rfl
  simp (disch := (first | (simp only [yk,seval]; done) | omega | (simp only [yz] <;> omega) | fail)) only [↓yp,yq0,yq1,yq2,yq3,yq4,yl,ys0,ys1,seval,zed,zee,zfr,zhw,ysu,yrg,ysv,ysw,ysx,ysz,ysa]
  refine W_while (n := 49) 40 (fun k e H' => gt 49 e 6 = .int .i64 1 ∧ gt 49 e 2 = .int .i64 0 ∧ H' = H) ?_ 1 0 ⟨by simp (disch := (first | (simp only [yk,seval]; done) | omega | (simp only [yz] <;> omega) | fail)) only [yg,seval,w64o], by simp (disch := (first | (simp only [yk,seval]; done) | omega | (simp only [yz] <;> omega) | fail)) only [yg,seval], rfl⟩ (by omega) (by omega)
  rintro M k e H' ⟨g6, g2, rfl⟩
  simp (disch := (first | (simp only [yk,seval]; done) | omega | (simp only [yz] <;> omega) | fail)) only [↓yp,yq0,yq1,yq2,yq3,yq4,yl,ys0,ys1,seval,zed,zee,zfr,zhw,ysu,yrg,ysv,ysw,ysx,ysz,ysa,g6,g2,resV_none]
theorem c124n : acall tabA (aexec tabA Try.prog (N + 120)) 124 [.slice none 0 0, .int .i64 0, .int .i64 0, .int .i64 0] H = some (true, .tuple ⟨[]⟩, H, H.size) := by
  refine call_quiet (k := 134) (rs := []) rfl fn_124 rfl rfl rfl ?_ rfl
  simp (disch := (first | (simp only [yk,seval]; done) | omega | (simp only [yz] <;> omega) | fail)) only [↓yp,yq0,yq1,yq2,yq3,yq4,yl,ys0,ys1,seval,zed,zee,zfr,zhw,ysu,yrg,ysv,ysw,ysx,ysz,ysa]
  refine W_while (n := 134) 100 (fun k e H' => gt 134 e 0 = .slice none 0 0 ∧ gt 134 e 1 = .int .i64 0 ∧ gt 134 e 2 = .int .i64 0 ∧ H' = H) ?_ 1 0 ⟨by simp (disch := (first | (simp only [yk,seval]; done) | omega | (simp only [yz] <;> omega) | fail)) only [yg,seval], by simp (disch := (first | (simp only [yk,seval]; done) | omega | (simp only [yz] <;> omega) | fail)) only [yg,seval], by simp (disch := (first | (simp only [yk,seval]; done) | omega | (simp only [yz] <;> omega) | fail)) only [yg,seval], rfl⟩ (by omega) (by omega)
  rintro M k e H' ⟨g0, g1, g2, rfl⟩
  simp (disch := (first | (simp only [yk,seval]; done) | omega | (simp only [yz] <;> omega) | fail)) only [↓yp,yq0,yq1,yq2,yq3,yq4,yl,ys0,ys1,seval,zed,zee,zfr,zhw,ysu,yrg,ysv,ysw,ysx,ysz,ysa,g0,g1,g2,w64z,c134n,resV_none]
theorem c109n : acall tabA (aexec tabA Try.prog (N + 200)) 109 [.slice none 0 0] H = some (true, .tuple ⟨[]⟩, H, H.size) := by
  refine call_quiet (k := 11) (rs := []) rfl fn_109 rfl rfl rfl ?_ rfl
  simp (disch := (first | (simp only [yk,seval]; done) | omega | (simp only [yz] <;> omega) | fail)) only [↓yp,yq0,yq1,yq2,yq3,yq4,yl,ys0,ys1,seval,zed,zee,zfr,zhw,ysu,yrg,ysv,ysw,ysx,ysz,ysa,lenV_slice zir,Int.natCast_zero,A_conv,cv_3_142z,c125z,c124n,resV_none]
theorem bars_lt {p : Nat → Bool} : ∀ k, ∀ x ∈ barsL p k, 0 ≤ x ∧ x < (k : Int) ∧ p x.toNat = true
  | 0, x, h => by simp [barsL] at h
  | k + 1, x, h => by
    unfold barsL at h
    rcases List.mem_append.1 h with h | h
    · have := bars_lt k x h
      exact ⟨this.1, by omega, this.2.2⟩
    · split at h
      · rename_i hp
        simp only [List.mem_singleton] at h
        subst h
        exact ⟨by omega, by omega, by rw [Int.toNat_natCast]; exact hp⟩
      · simp at h
theorem bars_of {p : Nat → Bool} {k : Nat} : ∀ {n : Nat}, k < n → p k = true → (k : Int) ∈ barsL p n
  | 0, h, _ => by omega
  | n + 1, h, hp => by
    unfold barsL
    by_cases e : k = n
    · subst e
      rw [if_pos hp]
      exact List.mem_append_right _ (by simp)
    · exact List.mem_append_left _ (bars_of (by omega) hp)
theorem bars_inc {p : Nat → Bool} : ∀ k, (barsL p k).Pairwise (· < ·)
  | 0 => by simp [barsL]
  | k + 1 => by
    unfold barsL
    refine List.pairwise_append.2 ⟨bars_inc k, ?_, fun x hx y hy => ?_⟩
    · split <;> simp
    · split at hy
      · simp only [List.mem_singleton] at hy
        subst hy
        exact (bars_lt k x hx).2.1
      · simp at hy
theorem Il.c {a : Option Addr} {t : List Int} (hs : Il H a t) (hne : t ≠ []) : ∃ b o c, a = some ⟨b, o, none⟩ ∧ cellsOf (H.get b) = some c ∧ ∀ i n, t[i]? = some n → c[o + i]? = some (.int .i64 n) := by
  obtain ⟨b, o, c, h1, -, h3, h4⟩ := hs.get hne
  exact ⟨b, o, c, h1, h3, h4⟩
theorem c108 {a : Option Addr} {cap : Nat} {t : List Int} (hs : Il H a t) (hl : t.length ≤ 18) (hi : t.Pairwise (· < ·)) :
    acall tabA (aexec tabA Try.prog (N + 100)) 108 [.slice a t.length cap] H = some (true, .bool true, H, H.size) := by
  refine call_quiet (k := 20) (rs := [.tmp 2]) rfl fn_108 rfl rfl rfl ?_ rfl
  simp (disch := (first | (simp only [yk,seval]; done) | omega | (simp only [yz] <;> omega) | fail)) only [↓yp,yq0,yq1,yq2,yq3,yq4,yl,ys0,ys1,seval,zed,zee,zfr,zhw,ysu,yrg,ysv,ysw,ysx,ysz,ysa]
  refine W_while (n := 20) 60 (fun k e H' => ∃ i : Nat, k = t.length - i ∧ 1 ≤ i ∧ gt 20 e 3 = .int .i64 (i : Nat) ∧ gt 20 e 0 = .slice a t.length cap ∧ H' = H)
    ?_ 18 (t.length - 1) ⟨1, rfl, by omega, by simp (disch := (first | (simp only [yk,seval]; done) | omega | (simp only [yz] <;> omega) | fail)) only [yg,seval] <;> rfl, by simp (disch := (first | (simp only [yk,seval]; done) | omega | (simp only [yz] <;> omega) | fail)) only [yg,seval], rfl⟩ (by omega) (by omega)
  rintro M k e H' ⟨i, rfl, hi1, g3, g0, rfl⟩
  simp (disch := (first | (simp only [yk,seval]; done) | omega | (simp only [yz] <;> omega) | fail)) only [↓yp,yq0,yq1,yq2,yq3,yq4,yl,ys0,ys1,seval,zed,zee,zfr,zhw,ysu,yrg,ysv,ysw,ysx,ysz,ysa,g3,g0,lenV_slice zir]
  refine ⟨fun hA => ?_, fun hA => ?_⟩
  · have hi' : i < t.length := by simpa using hA
    have hne : t ≠ [] := fun h => by rw [h] at hi'; simp at hi'
    obtain ⟨b, o, c, rfl, hc, hp⟩ := hs.c hne
    have h1 : t[i]? = some t[i] := by simp [hi']
    have h2 : t[i - 1]? = some (t[i - 1]'(by omega)) := by simp [show i - 1 < t.length by omega]
    have hlt := List.pairwise_iff_getElem.1 hi (i - 1) i (by omega) hi' (by omega)
    have q1 := hp i _ h1
    have q2 := hp (i - 1) _ h2
    have hw1 : w64 ((i : Int) - 1) = ((i - 1 : Nat) : Int) := by rw [w64_of (by omega)]; omega
    have hw2 : w64 ((i : Int) + 1) = ((i + 1 : Nat) : Int) := by rw [w64_of (by omega)]; omega
    have hd : decide (t[i] ≤ t[i - 1]'(by omega)) = false := by simp; omega
    simp (disch := (first | (simp only [yk,seval]; done) | omega | (simp only [yz] <;> omega) | fail)) only [↓yp,yq0,yq1,yq2,yq3,yq4,yl,ys0,ys1,seval,zed,zee,zfr,zhw,ysu,yrg,ysv,ysw,ysx,ysz,ysa]
    refine W_draw [] rfl (by kernel_rfl) (by kernel_rfl) (by omega) ?_
    simp (disch := (first | (simp only [yk,seval]; done) | omega | (simp only [yz] <;> omega) | fail)) only [↓yp,yq0,yq1,yq2,yq3,yq4,yl,ys0,ys1,seval,zed,zee,zfr,zhw,ysu,yrg,ysv,ysw,ysx,ysz,ysa,g3,g0,A_indexSlice zir,hc,q1,q2,hw1,hd,Nat.mul_one]
    simp (disch := (first | (simp only [yk,seval]; done) | omega | (simp only [yz] <;> omega) | fail)) only [↓yp,yq0,yq1,yq2,yq3,yq4,yl,ys0,ys1,seval,zed,zee,zfr,zhw,ysu,yrg,ysv,ysw,ysx,ysz,ysa,g3,g0,hw2]
    refine ⟨t.length - (i + 1), by omega, i + 1, rfl, by omega, ?_, ?_, rfl⟩
    · simp (disch := (first | (simp only [yk,seval]; done) | omega | (simp only [yz] <;> omega) | fail)) only [yg,seval]
    · simp (disch := (first | (simp only [yk,seval]; done) | omega | (simp only [yz] <;> omega) | fail)) only [yg,seval,g0]
  · simp (disch := (first | (simp only [yk,seval]; done) | omega | (simp only [yz] <;> omega) | fail)) only [↓yp,yq0,yq1,yq2,yq3,yq4,yl,ys0,ys1,seval,zed,zee,zfr,zhw,ysu,yrg,ysv,ysw,ysx,ysz,ysa]
theorem c110 {a : Option Addr} {cap : Nat} {t : List Int} {x : Int} (hs : Il H a t) (hl : t.length ≤ 18) (hx : x ∈ t) :
    ∃ r : Int, 0 ≤ r ∧ ∀ N, acall tabA (aexec tabA Try.prog (N + 100)) 110 [.slice a t.length cap, .int .i64 x] H = some (true, .int .i64 r, H, H.size) := by
  obtain ⟨r, hr⟩ : ∃ r, t.findIdx? (fun y => decide (x = y)) = some r := by
    cases h : t.findIdx? (fun y => decide (x = y)) with
    | none =>
      have := List.findIdx?_eq_none_iff.1 h x hx
      simp at this
    | some r => exact ⟨r, rfl⟩
  obtain ⟨h1, h2, h3⟩ := List.findIdx?_eq_some_iff_getElem.1 hr
  refine ⟨r, by omega, fun N => ?_⟩
  refine call_quiet (k := 19) (rs := [.tmp 4]) rfl fn_110 rfl rfl rfl ?_ rfl
  have hne : t ≠ [] := fun h => by rw [h] at h1; simp at h1
  obtain ⟨b, o, c, rfl, hc, hp⟩ := hs.c hne
  simp (disch := (first | (simp only [yk,seval]; done) | omega | (simp only [yz] <;> omega) | fail)) only [↓yp,yq0,yq1,yq2,yq3,yq4,yl,ys0,ys1,seval,zed,zee,zfr,zhw,ysu,yrg,ysv,ysw,ysx,ysz,ysa,lenV_slice zir]
  refine W_while (n := 19) 60 (fun k e H' => ∃ i : Nat, k = t.length - i ∧ i ≤ r ∧ gt 19 e 8 = .int .i64 (i : Nat) ∧ gt 19 e 7 = .int .i64 t.length ∧ gt 19 e 0 = .slice (some ⟨b, o, none⟩) t.length cap ∧ gt 19 e 1 = .int .i64 x ∧ H' = H)
    ?_ 18 t.length ⟨0, by omega, by omega, by simp (disch := (first | (simp only [yk,seval]; done) | omega | (simp only [yz] <;> omega) | fail)) only [yg,seval] <;> rfl, by simp (disch := (first | (simp only [yk,seval]; done) | omega | (simp only [yz] <;> omega) | fail)) only [yg,seval], by simp (disch := (first | (simp only [yk,seval]; done) | omega | (simp only [yz] <;> omega) | fail)) only [yg,seval], by simp (disch := (first | (simp only [yk,seval]; done) | omega | (simp only [yz] <;> omega) | fail)) only [yg,seval], rfl⟩ (by omega) (by omega)
  rintro M k e H' ⟨i, rfl, hi, g8, g7, g0, g1, rfl⟩
  have hi' : i < t.length := by omega
  have hA : decide ((i : Int) < t.length) = true := by simp; omega
  have q := hp i t[i] (by simp [hi'])
  simp (disch := (first | (simp only [yk,seval]; done) | omega | (simp only [yz] <;> omega) | fail)) only [↓yp,yq0,yq1,yq2,yq3,yq4,yl,ys0,ys1,seval,zed,zee,zfr,zhw,ysu,yrg,ysv,ysw,ysx,ysz,ysa,g8,g7,g0,g1,hA,A_indexSlice zir,hc,q,Nat.mul_one]
  refine ⟨fun hB => ?_, fun hB => ?_⟩
  · have : i = r := by
      apply Classical.byContradiction
      intro hne'
      exact h3 i (by omega) hB
    subst this
    simp (disch := (first | (simp only [yk,seval]; done) | omega | (simp only [yz] <;> omega) | fail)) only [↓yp,yq0,yq1,yq2,yq3,yq4,yl,ys0,ys1,seval,zed,zee,zfr,zhw,ysu,yrg,ysv,ysw,ysx,ysz,ysa,g8]
  · have hir : i ≠ r := fun e => by
      subst e
      rw [h2] at hB
      cases hB
    have hw2 : w64 ((i : Int) + 1) = ((i + 1 : Nat) : Int) := by rw [w64_of (by omega)]; omega
    simp (disch := (first | (simp only [yk,seval]; done) | omega | (simp only [yz] <;> omega) | fail)) only [↓yp,yq0,yq1,yq2,yq3,yq4,yl,ys0,ys1,seval,zed,zee,zfr,zhw,ysu,yrg,ysv,ysw,ysx,ysz,ysa,g8,hw2]
    refine ⟨t.length - (i + 1), by omega, i + 1, rfl, by omega, ?_, ?_, ?_, ?_, rfl⟩
    · simp (disch := (first | (simp only [yk,seval]; done) | omega | (simp only [yz] <;> omega) | fail)) only [yg,seval]
    · simp (disch := (first | (simp only [yk,seval]; done) | omega | (simp only [yz] <;> omega) | fail)) only [yg,seval,g7]
    · simp (disch := (first | (simp only [yk,seval]; done) | omega | (simp only [yz] <;> omega) | fail)) only [yg,seval,g0]
    · simp (disch := (first | (simp only [yk,seval]; done) | omega | (simp only [yz] <;> omega) | fail)) only [yg,seval,g1]
theorem c57 {a : Option Addr} {cap : Nat} {t : List Int} {x : Int} (hs : Il H a t) (hl : t.length ≤ 18) (hx : x ∈ t) :
    acall tabA (aexec tabA Try.prog (N + 130)) 57 [.slice a t.length cap, .int .i64 x] H = some (true, .bool true, H, H.size) := by
  obtain ⟨r, hr, hc⟩ := c110 (cap := cap) hs hl hx
  have hd : decide (0 ≤ r) = true := by simpa using hr
  have hd' : decide (r ≥ 0) = true := by simpa using hr
  refine call_quiet (k := 9) (rs := [.tmp 4]) rfl fn_57 rfl rfl rfl ?_ rfl
  simp (disch := (first | (simp only [yk,seval]; done) | omega | (simp only [yz] <;> omega) | fail)) only [↓yp,yq0,yq1,yq2,yq3,yq4,yl,ys0,ys1,seval,zed,zee,zfr,zhw,ysu,yrg,ysv,ysw,ysx,ysz,ysa,hc,hd,hd']
end Go.Am
namespace Go.Am
open Go.Proofs
variable {T : Tab} {P : Program} {N L : Nat} {H : AHeap} {Q : Bool → Value → AHeap → Prop}
structure OI (Hb H' : AHeap) (ds : List Nat) : Prop where
  fr : Fr Hb H'
  nd : ds.Nodup
  dd : ∀ k ∈ ds, Hb.size ≤ k ∧ k < H'.size ∧ H'.get k = .defer
section
variable {a ac : Option Addr} {cap kc : Nat} {l : List Str} {C w ld : Int} {t : List Int}
set_option maxHeartbeats 4000000 in
set_option maxRecDepth 10000 in
theorem c56 (hs : Sl H a l) (hl : l.length ≤ 18) (h0 : asked C l w ld t [] [] = 0) (ht : Il H ac t) (htl : t.length ≤ 18) (hinc : t.Pairwise (· < ·))
    (hcl : ∀ x ∈ t, ∀ (i : Nat) (s : Str) (b : Bool), l[i]? = some s → mayL s b w ld = true → nearL s b = x → farL s b ∈ t) :
    acall tabA (aexec tabA Try.prog (N + 2000)) 56 [.agg ⟨[.int .i64 C, .slice a l.length cap]⟩, .agg ⟨[.int .i64 w, .int .i64 ld]⟩, .slice ac t.length kc] H = some (true, .tuple ⟨[.slice none 0 0, .int .i64 0]⟩, H, H.size) := by
  refine call_quietD (k := 60) (rs := [.tmp 6, .tmp 7]) rfl fn_56 rfl rfl rfl ?_ rfl
  refine W_seqI (fun e' H'' => gt 60 e' 3 = .pointer (some ⟨H.size, 0, none⟩) ∧ gt 60 e' 4 = .pointer (some ⟨H.size + 1, 0, none⟩) ∧ gt 60 e' 5 = .pointer (some ⟨H.size + 2, 0, none⟩) ∧ Fr H H'' ∧ H''.size = H.size + 3 ∧ H''.get H.size = .rw [.int .i64 C, .slice a l.length cap] 24 false [] ∧ H''.get (H.size + 1) = .rw [.int .i64 w, .int .i64 ld] 26 false [] ∧ H''.get (H.size + 2) = .rw [.slice ac t.length kc] 52 false []) ?_ ?_
  · simp (disch := (first | (simp only [yk,seval]; done) | omega | (simp only [yz] <;> omega) | fail)) only [↓yp,yq0,yq1,yq2,yq3,yq4,yl,ys0,ys1,seval,zed,zee,zfr,zhw,ysu,yrg,ysv,ysw,ysx,ysz,ysa]
    refine ⟨?_, ?_, ?_, by (repeat (first | exact Fr.refl _ | assumption | refine Fr.allocd ?_ _ | refine Fr.put ?_ (by first | omega | (simp only [yz] <;> omega)) _)), by (first | omega | (simp only [yz] <;> omega)), ?_, ?_, ?_⟩ <;> simp (disch := (first | (simp only [yk,seval]; done) | omega | (simp only [yz] <;> omega) | fail)) only [yg,seval]
  rintro e1 H1 ⟨g3, g4, g5, f1, sz1, b3, b4, b5⟩
  refine W_seqI (fun e' H'' => Keep 60 [3, 4, 5] e1 e' ∧ H1 = H'') ?_ ?_
  · have h82 := fun (N : Nat) => c82 (N := N) (H := H1) (C := C) (w := w) (ld := ld) (cap := cap) (kc := kc) (ks := 0) (km := 0) (cs := t) (ss := []) (ms := []) (as' := none) (am := none) (hs.fr f1) hl (ht.fr f1) htl Il.nil (by simp) Il.nil (by simp)
    simp only [List.length_nil,h0] at h82
    simp (disch := (first | (simp only [yk,seval]; done) | omega | (simp only [yz] <;> omega) | fail)) only [↓yp,yq0,yq1,yq2,yq3,yq4,yl,ys0,ys1,seval,zed,zee,zfr,zhw,ysu,yrg,ysv,ysw,ysx,ysz,ysa,g3,g4,g5,b3,b4,b5,h82]
    exact ⟨by (with_reducible (repeat (first | refine Keep.put ?_ (by decide) | refine Keep.none ?_ | assumption | exact Keep.refl _ _ _))), rfl⟩
  rintro e2 _ ⟨k2, rfl⟩
  refine W_seqI (fun e' H'' => Keep 60 [3, 4, 5] e1 e' ∧ H1 = H'') ?_ ?_
  · have q5 := (k2 5 (by simp)).trans g5
    have h108 := fun (N : Nat) => c108 (N := N) (cap := kc) (ht.fr f1) htl hinc
    simp (disch := (first | (simp only [yk,seval]; done) | omega | (simp only [yz] <;> omega) | fail)) only [↓yp,yq0,yq1,yq2,yq3,yq4,yl,ys0,ys1,seval,zed,zee,zfr,zhw,ysu,yrg,ysv,ysw,ysx,ysz,ysa,q5,b5,h108]
    exact ⟨by (with_reducible (repeat (first | refine Keep.put ?_ (by decide) | refine Keep.none ?_ | assumption | exact Keep.refl _ _ _))), rfl⟩
  clear k2
  rintro e2 _ ⟨k2, rfl⟩
  have q3 := (k2 3 (by simp)).trans g3
  have q4 := (k2 4 (by simp)).trans g4
  have q5 := (k2 5 (by simp)).trans g5
  clear g3 g4 g5 k2
  obtain ⟨hc, hw, hd, hcs, hss, hms⟩ := asked_ok h0
  have g := good_of hc hd
  refine W_seqI (fun e' H'' => ∃ H3, Fr H1 H3 ∧ gt 60 e' 5 = .pointer (some ⟨H.size + 2, 0, none⟩) ∧ gt 60 e' 9 = .pointer (some ⟨H3.size, 0, none⟩) ∧ Fr H3 H'' ∧ H''.size = H3.size + 1 ∧ H''.get H3.size = .rw [.int .i64 C, .slice a l.length cap, .int .i64 w, .int .i64 ld, .int .i64 (-1)] 124 false []) ?_ ?_
  · simp (disch := (first | (simp only [yk,seval]; done) | omega | (simp only [yz] <;> omega) | fail)) only [↓yp,yq0,yq1,yq2,yq3,yq4,yl,ys0,ys1,seval,zed,zee,zfr,zhw,ysu,yrg,ysv,ysw,ysx,ysz,ysa,q3,q4,b3,b4]
    refine c83q (hs.fr f1).none_len (by (first | omega | (simp only [yz] <;> omega))) (by omega) ?_
    intro b' H3 f3
    have sz3 := f3.size
    simp (disch := (first | (simp only [yk,seval]; done) | omega | (simp only [yz] <;> omega) | fail)) only [↓yp,yq0,yq1,yq2,yq3,yq4,yl,ys0,ys1,seval,zed,zee,zfr,zhw,ysu,yrg,ysv,ysw,ysx,ysz,ysa,jobV]
    refine ⟨H3, f3, ?_, ?_, by (repeat (first | exact Fr.refl _ | assumption | refine Fr.allocd ?_ _ | refine Fr.put ?_ (by first | omega | (simp only [yz] <;> omega)) _)), by (first | omega | (simp only [yz] <;> omega)), ?_⟩ <;> simp (disch := (first | (simp only [yk,seval]; done) | omega | (simp only [yz] <;> omega) | fail)) only [yg,seval,q5]
  rintro e3 H4 ⟨H3, f3, r5, r9, f4, sz4, b9⟩
  have sz3 := f3.size
  clear q3 q4 q5
  refine W_seqI (fun e' H'' => gt 60 e' 5 = .pointer (some ⟨H.size + 2, 0, none⟩) ∧ gt 60 e' 9 = .pointer (some ⟨H3.size, 0, none⟩) ∧ gt 60 e' 10 = .pointer (some ⟨H3.size + 1, 0, none⟩) ∧ Fr H4 H'' ∧ H''.size = H3.size + 2 ∧ H''.get (H3.size + 1) = .rw [.slice none 0 0] 52 false []) ?_ ?_
  · simp (disch := (first | (simp only [yk,seval]; done) | omega | (simp only [yz] <;> omega) | fail)) only [↓yp,yq0,yq1,yq2,yq3,yq4,yl,ys0,ys1,seval,zed,zee,zfr,zhw,ysu,yrg,ysv,ysw,ysx,ysz,ysa]
    refine ⟨?_, ?_, ?_, by (repeat (first | exact Fr.refl _ | assumption | refine Fr.allocd ?_ _ | refine Fr.put ?_ (by first | omega | (simp only [yz] <;> omega)) _)), by (first | omega | (simp only [yz] <;> omega)), ?_⟩
    · simp (disch := (first | (simp only [yk,seval]; done) | omega | (simp only [yz] <;> omega) | fail)) only [yg,seval,r5]
    · simp (disch := (first | (simp only [yk,seval]; done) | omega | (simp only [yz] <;> omega) | fail)) only [yg,seval,r9]
    · simp (disch := (first | (simp only [yk,seval]; done) | omega | (simp only [yz] <;> omega) | fail)) only [yg,seval,sz4]
    · rw [zda (by omega)]
  clear r5 r9
  rintro e5 Hb ⟨r5, r9, r10, f5, szb, b10⟩
  have fb : Fr H Hb := ((f1.trans f3).trans f4).trans f5
  have b9' := (f5.same H3.size (by omega)).trans b9
  have b5' : Hb.get (H.size + 2) = .rw [.slice ac t.length kc] 52 false [] := (((f3.trans f4).trans f5).same _ (by omega)).trans b5
  have htb := ht.fr fb
  have hsb := hs.fr fb
  simp (disch := (first | (simp only [yk,seval]; done) | omega | (simp only [yz] <;> omega) | fail)) only [↓yp,yq0,yq1,yq2,yq3,yq4,yl,ys0,ys1,seval,zed,zee,zfr,zhw,ysu,yrg,ysv,ysw,ysx,ysz,ysa,r5,b5',lenV_slice zir]
  refine W_whileD 0 1000 (fun k e H' ds => ∃ i : Nat, k = t.length - i ∧ i ≤ t.length ∧ gt 60 e 31 = .int .i64 (i : Nat) ∧ gt 60 e 30 = .int .i64 t.length ∧ gt 60 e 29 = .slice ac t.length kc ∧ gt 60 e 5 = .pointer (some ⟨H.size + 2, 0, none⟩) ∧ gt 60 e 9 = .pointer (some ⟨H3.size, 0, none⟩) ∧ gt 60 e 10 = .pointer (some ⟨H3.size + 1, 0, none⟩) ∧ OI Hb H' ds)
    ?_ 18 t.length ⟨0, by omega, by omega, by simp (disch := (first | (simp only [yk,seval]; done) | omega | (simp only [yz] <;> omega) | fail)) only [yg,seval] <;> rfl, by simp (disch := (first | (simp only [yk,seval]; done) | omega | (simp only [yz] <;> omega) | fail)) only [yg,seval], by simp (disch := (first | (simp only [yk,seval]; done) | omega | (simp only [yz] <;> omega) | fail)) only [yg,seval], by simp (disch := (first | (simp only [yk,seval]; done) | omega | (simp only [yz] <;> omega) | fail)) only [yg,seval,r5], by simp (disch := (first | (simp only [yk,seval]; done) | omega | (simp only [yz] <;> omega) | fail)) only [yg,seval,r9], by simp (disch := (first | (simp only [yk,seval]; done) | omega | (simp only [yz] <;> omega) | fail)) only [yg,seval,r10], ⟨Fr.refl _, List.nodup_nil, fun k hk => by simp at hk⟩⟩ (by omega) (by omega)
  clear r5 r9 r10
  rintro M k e H' ds - ⟨i, rfl, hi, g31, g30, g29, g5, g9, g10, J⟩
  have szJ := J.fr.size
  have c9 := (J.fr.same H3.size (by omega)).trans b9'
  have c5 := (J.fr.same (H.size + 2) (by omega)).trans b5'
  have c10 := (J.fr.same (H3.size + 1) (by omega)).trans b10
  simp (disch := (first | (simp only [yk,seval]; done) | omega | (simp only [yz] <;> omega) | fail)) only [↓yp,yq0,yq1,yq2,yq3,yq4,yl,ys0,ys1,seval,zed,zee,zfr,zhw,ysu,yrg,ysv,ysw,ysx,ysz,ysa,g31,g30]
  refine ⟨fun hA => ?_, fun hA => ?_⟩
  rotate_left
  · simp (disch := (first | (simp only [yk,seval]; done) | omega | (simp only [yz] <;> omega) | fail)) only [↓yp,yq0,yq1,yq2,yq3,yq4,yl,ys0,ys1,seval,zed,zee,zfr,zhw,ysu,yrg,ysv,ysw,ysx,ysz,ysa,g10,c10,c109n]
    obtain ⟨H9, h9⟩ := atake_all ds H' J.nd fun k hk => (J.dd k hk).2.2
    refine ⟨fun k hk => by have := (J.dd k hk).1; omega, by show H.size ≤ H'.size; omega, H9, h9, ?_⟩
    refine ⟨_, ?_, rfl⟩
    simp (disch := (first | (simp only [yk,seval]; done) | omega | (simp only [yz] <;> omega) | fail)) only [↓yp,yq0,yq1,yq2,yq3,yq4,yl,ys0,ys1,seval,zed,zee,zfr,zhw,ysu,yrg,ysv,ysw,ysx,ysz,ysa,zcs]
  have hi' : i < t.length := by have := of_decide_eq_true hA; omega
  have hne : t ≠ [] := fun h => by rw [h] at hi'; simp at hi'
  obtain ⟨bb, o, c, rfl, hb1, hcc, hp⟩ := htb.get hne
  obtain ⟨x, hx⟩ : ∃ x, t[i]? = some x := ⟨t[i], by simp [hi']⟩
  have hxt := List.mem_of_getElem? hx
  have hpi := hp i x hx
  have hcc' : cellsOf (H'.get bb) = some c := by rw [J.fr.same bb hb1]; exact hcc
  have hw2 : w64 ((i : Int) + 1) = ((i + 1 : Nat) : Int) := by rw [w64_of (by omega)]; omega
  have h106 := fun (N : Nat) (H₁ : AHeap) (Q : Bool → Value → AHeap → Prop) (u : Value) (hu : u.cells.toList = [u]) (hL : H.size ≤ H₁.size) => c106 (N := N) (H := H₁) (Q := Q) (L := H.size) (C := C) (w := w) (ld := ld) (lf := -1) (x := x) (a := a) (n := l.length) (cap := cap) (u := u) hu hL
  simp only [jobG] at h106
  simp (disch := (first | (simp only [yk,seval]; done) | omega | (simp only [yz] <;> omega) | fail)) only [↓yp,yq0,yq1,yq2,yq3,yq4,yl,ys0,ys1,seval,zed,zee,zfr,zhw,ysu,yrg,ysv,ysw,ysx,ysz,ysa,g31,g29,g9,c9,A_indexSlice zir,hcc',hpi,Nat.mul_one]
  rw [h106 _ _ _ _ rfl (by omega)]
  simp (disch := (first | (simp only [yk,seval]; done) | omega | (simp only [yz] <;> omega) | fail)) only [↓yp,yq0,yq1,yq2,yq3,yq4,yl,ys0,ys1,seval,zed,zee,zfr,zhw,ysu,yrg,ysv,ysw,ysx,ysz,ysa]
  refine W_gen (fun e6 H6 => gt 60 e6 39 = .func (.func 123) ⟨[]⟩ ⟨[.pointer (some ⟨H'.size, 0, none⟩), .pointer (some ⟨H'.size + 1, 0, none⟩), .pointer (some ⟨H'.size + 1 + 1, 0, none⟩)]⟩ ∧ gt 60 e6 31 = .int .i64 (i : Nat) ∧ gt 60 e6 30 = .int .i64 t.length ∧ gt 60 e6 29 = .slice (some ⟨bb, o, none⟩) t.length kc ∧ gt 60 e6 5 = .pointer (some ⟨H.size + 2, 0, none⟩) ∧ gt 60 e6 9 = .pointer (some ⟨H3.size, 0, none⟩) ∧ gt 60 e6 10 = .pointer (some ⟨H3.size + 1, 0, none⟩) ∧
    Fr H' H6 ∧ H6.size = H'.size + 3 ∧ cellsOf (H6.get H'.size) = some [.int .i64 C, .slice a l.length cap, .int .i64 w, .int .i64 ld, .int .i64 (-1)] ∧ cellsOf (H6.get (H'.size + 1)) = some [.int .i64 x] ∧ cellsOf (H6.get (H'.size + 1 + 1)) = some [.func (.func 107) ⟨[jobG C a l.length cap w ld (-1)]⟩ ⟨[]⟩]) ⟨?_, ?_, ?_, ?_, ?_, ?_, ?_, ?_, ?_, ?_, ?_, ?_⟩ ?_
  · simp (disch := (first | (simp only [yk,seval]; done) | omega | (simp only [yz] <;> omega) | fail)) only [yg,seval]
  · simp (disch := (first | (simp only [yk,seval]; done) | omega | (simp only [yz] <;> omega) | fail)) only [yg,seval,g31]
  · simp (disch := (first | (simp only [yk,seval]; done) | omega | (simp only [yz] <;> omega) | fail)) only [yg,seval,g30]
  · simp (disch := (first | (simp only [yk,seval]; done) | omega | (simp only [yz] <;> omega) | fail)) only [yg,seval,g29]
  · simp (disch := (first | (simp only [yk,seval]; done) | omega | (simp only [yz] <;> omega) | fail)) only [yg,seval,g5]
  · simp (disch := (first | (simp only [yk,seval]; done) | omega | (simp only [yz] <;> omega) | fail)) only [yg,seval,g9]
  · simp (disch := (first | (simp only [yk,seval]; done) | omega | (simp only [yz] <;> omega) | fail)) only [yg,seval,g10]
  · (repeat (first | exact Fr.refl _ | assumption | refine Fr.allocd ?_ _ | refine Fr.put ?_ (by first | omega | (simp only [yz] <;> omega)) _))
  · (first | omega | (simp only [yz] <;> omega))
  · simp (disch := (first | (simp only [yk,seval]; done) | omega | (simp only [yz] <;> omega) | fail)) only [yg,seval]
  · simp (disch := (first | (simp only [yk,seval]; done) | omega | (simp only [yz] <;> omega) | fail)) only [yg,seval]
  · simp (disch := (first | (simp only [yk,seval]; done) | omega | (simp only [yz] <;> omega) | fail)) only [yg,seval,jobG]
  clear g31 g30 g29 g5 g9 g10
  rintro e6 H6 ⟨g39, g31, g30, g29, g5, g9, g10, f6, sz6, hjob, hcor, hsuit⟩
  have frH : ∀ H'' : AHeap, Fr H6 H'' → Fr H H'' := fun H'' f => (fb.trans (J.fr.trans f6)).trans f
  have k9 := (f6.same H3.size (by omega)).trans c9
  have k5 := (f6.same (H.size + 2) (by omega)).trans c5
  refine W_legs (J := fun (_ : Unit) H'' => Fr H6 H'' ∧ H6.size + 2 ≤ H''.size) (f := fun _ _ _ _ => ()) (K₀ := 500) (C := C) (w := w) (ld := ld) (lf := -1) (x := x) (a := a) (cap := cap) (b1 := H'.size) (b2 := H'.size + 1) (b3 := H'.size + 1 + 1) ()
    ⟨?_, ?_, fun st H'' h => h.2, ?_, ?_, ?_, ?_, ?_⟩ ?_ hl (by omega) (by omega) g39 ?_ ?_ (by omega) ?_
  · rintro st Ha Hb' ⟨h1, h2⟩ f
    exact ⟨h1.trans f, Nat.le_trans h2 f.size⟩
  · rintro st Ha Hb' ⟨h1, h2⟩ f hb
    exact ⟨⟨by omega, fun k hk => by rw [← f.same k (by omega)]; exact h1.same k hk⟩, hb⟩
  · rintro st Ha ⟨h1, h2⟩
    rw [h1.same _ (by omega)]; exact hjob
  · rintro st Ha ⟨h1, h2⟩
    rw [h1.same _ (by omega)]; exact hcor
  · rintro st Ha ⟨h1, h2⟩
    rw [h1.same _ (by omega)]; exact hsuit
  · rintro N' st Ha i' s b ⟨h1, h2⟩ hi'
    exact c94 (hs.fr (frH _ h1)) hi'
  · rintro N' st Ha i' s b ⟨h1, h2⟩ hi'
    exact c107 (hs.fr (frH _ h1)) hi'
  · rintro st Ha blk ⟨h1, h2⟩
    exact ⟨h1.put (by omega) _, by rw [zdf]; exact h2⟩
  · intro blk
    exact ⟨by (repeat (first | exact Fr.refl _ | assumption | refine Fr.allocd ?_ _ | refine Fr.put ?_ (by first | omega | (simp only [yz] <;> omega)) _)), by (first | omega | (simp only [yz] <;> omega))⟩
  · rintro M2 hM2 st Ha i' s b e' ⟨h1, h2⟩ hi2 hm hn hlb hdf ge ge'
    obtain ⟨M2, rfl⟩ : ∃ M', M2 = M' + 500 := ⟨M2 - 500, by omega⟩
    have e9 := (ge' 9 (by decide)).trans g9
    have e5 := (ge' 5 (by decide)).trans g5
    have a9 := (h1.same H3.size (by omega)).trans k9
    have a5 := (h1.same (H.size + 2) (by omega)).trans k5
    simp only [legV] at ge
    simp (disch := (first | (simp only [yk,seval]; done) | omega | (simp only [yz] <;> omega) | fail)) only [↓yp,yq0,yq1,yq2,yq3,yq4,yl,ys0,ys1,seval,zed,zee,zfr,zhw,ysu,yrg,ysv,ysw,ysx,ysz,ysa,ge]
    refine midY_gen (by simp (disch := (first | (simp only [yk,seval]; done) | omega | (simp only [yz] <;> omega) | fail)) only [yg,seval]; exact hlb) ?_
    intro bz hbz
    have h94 := fun (N : Nat) (H'' : AHeap) (f : Fr H6 H'') => c94 (N := N) (C := C) (w := w) (ld := ld) (cap := cap) (b := b) (hs.fr (frH _ f)) hi2
    have h57 := fun (N : Nat) (H'' : AHeap) (f : Fr H6 H'') => c57 (N := N) (cap := kc) (x := farL s b) (ht.fr (frH _ f)) htl (hcl x hxt i' s b hi2 hm hn)
    simp only [jobV,legV] at h94
    have fY : Fr H6 (((Ha.alloc (.rw [.int .i64 0, .bool false] 28 false [])).put Ha.size (.rw [.int .i64 (i' : Nat), .bool b] 28 false [])).put (H6.size + 1) bz) := Fr.put (Fr.put (h1.allocd _) (by omega) _) (by omega) _
    simp (disch := (first | (simp only [yk,seval]; done) | omega | (simp only [yz] <;> omega) | fail)) only [↓yp,yq0,yq1,yq2,yq3,yq4,yl,ys0,ys1,seval,zed,zee,zfr,zhw,ysu,yrg,ysv,ysw,ysx,ysz,ysa,e9,a9]
    rw [h94 _ _ fY]
    simp (disch := (first | (simp only [yk,seval]; done) | omega | (simp only [yz] <;> omega) | fail)) only [↓yp,yq0,yq1,yq2,yq3,yq4,yl,ys0,ys1,seval,zed,zee,zfr,zhw,ysu,yrg,ysv,ysw,ysx,ysz,ysa,e5,a5]
    rw [h57 _ _ fY]
    simp (disch := (first | (simp only [yk,seval]; done) | omega | (simp only [yz] <;> omega) | fail)) only [↓yp,yq0,yq1,yq2,yq3,yq4,yl,ys0,ys1,seval,zed,zee,zfr,zhw,ysu,yrg,ysv,ysw,ysx,ysz,ysa]
    refine endY_normal (by simp (disch := (first | (simp only [yk,seval]; done) | omega | (simp only [yz] <;> omega) | fail)) only [yg,seval]; exact hbz) ?_
    unfold roundQ
    refine ⟨rfl, ?_, ?_, fY.put (by omega) _, by (first | omega | (simp only [yz] <;> omega))⟩
    · simp (disch := (first | (simp only [yk,seval]; done) | omega | (simp only [yz] <;> omega) | fail)) only [yg,seval]
    · simp (disch := (first | (simp only [yk,seval]; done) | omega | (simp only [yz] <;> omega) | fail)) only [yg,seval]; exact hdf
  · rintro H'' blk ⟨h1, h2⟩ hdf
    simp (disch := (first | (simp only [yk,seval]; done) | omega | (simp only [yz] <;> omega) | fail)) only [↓yp,yq0,yq1,yq2,yq3,yq4,yl,ys0,ys1,seval,zed,zee,zfr,zhw,ysu,yrg,ysv,ysw,ysx,ysz,ysa,g31,hw2]
    refine ⟨t.length - (i + 1), by omega, i + 1, rfl, by omega, ?_, ?_, ?_, ?_, ?_, ?_, ⟨?_, ?_, ?_⟩⟩
    · simp (disch := (first | (simp only [yk,seval]; done) | omega | (simp only [yz] <;> omega) | fail)) only [yg,seval]
    · simp (disch := (first | (simp only [yk,seval]; done) | omega | (simp only [yz] <;> omega) | fail)) only [yg,seval,g30]
    · simp (disch := (first | (simp only [yk,seval]; done) | omega | (simp only [yz] <;> omega) | fail)) only [yg,seval,g29]
    · simp (disch := (first | (simp only [yk,seval]; done) | omega | (simp only [yz] <;> omega) | fail)) only [yg,seval,g5]
    · simp (disch := (first | (simp only [yk,seval]; done) | omega | (simp only [yz] <;> omega) | fail)) only [yg,seval,g9]
    · simp (disch := (first | (simp only [yk,seval]; done) | omega | (simp only [yz] <;> omega) | fail)) only [yg,seval,g10]
    · exact Fr.put ((J.fr.trans f6).trans h1) (by omega) _
    · refine List.nodup_cons.2 ⟨fun hm => ?_, J.nd⟩
      have := (J.dd _ hm).2.1
      omega
    · intro k hk
      rcases List.mem_cons.1 hk with rfl | hk
      · exact ⟨by omega, by (first | omega | (simp only [yz] <;> omega)), by simp (disch := (first | (simp only [yk,seval]; done) | omega | (simp only [yz] <;> omega) | fail)) only [yg,seval]; exact hdf⟩
      · obtain ⟨d1, d2, d3⟩ := J.dd k hk
        exact ⟨d1, by (first | omega | (simp only [yz] <;> omega)), by simp (disch := (first | (simp only [yk,seval]; done) | omega | (simp only [yz] <;> omega) | fail)) only [yg,seval]; rw [h1.same _ (by omega), f6.same _ d2]; exact d3⟩
end
end Go.Am
