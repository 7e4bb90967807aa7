import Derived.Test.YtaieoelbpnjoiaaT34
import Derived.Test.YtaieoelbpnjoiaaT25
set_option linter.unusedSimpArgs false
set_option linter.unusedVariables false
namespace Go.Am
open Go.Proofs
variable {T : Tab} {P : Program} {N L : Nat} {H : AHeap} {Q : Bool → Value → AHeap → Prop}
section
variable {k cap gc i j : Nat} {a ga : Option Addr} {bs : List Int} {C m : Int} {l : List Str} {H' H'' : AHeap} {e e' : VT}
theorem bad2_of {f t mi up wi be lo hi : Int} {bk : Bool} (h1 : 1 ≤ mi ∧ mi ≤ 30) (h2 : 0 ≤ up ∧ up ≤ 3) (h3 : 1 ≤ wi ∧ wi ≤ 9) (h4 : 0 ≤ be ∧ be ≤ 9) (h5 : 0 ≤ lo ∧ lo ≤ 239) (h6 : 0 ≤ hi ∧ hi ≤ 239) : bad2 ⟨f, t, mi, up, wi, be, bk, lo, hi⟩ = false := by
 unfold bad2
 rw [off_iff.2 h1, off_iff.2 h2, off_iff.2 h3, off_iff.2 h4, off_iff.2 h5, off_iff.2 h6]
 rfl
set_option maxHeartbeats 1000000 in
theorem c49a (hk : k < H.size) (hL : L ≤ k) (hC : 2 ≤ C ∧ C ≤ 8) (I : MI H H' k a bs cap C m i l ga gc e) :
  W tabA Try.prog (N + 600) none (sub [true, true, false, true, false, false, true, true, false, false, true, false] (bodyOf Try.f49)) L ⟨98, e, H', []⟩ (endK 98 [] fun e' H'' => ∃ s : Str, MI H H'' k a bs cap C m i l ga gc e' ∧ gt 98 e' 8 = gt 98 e 8 ∧ gt 98 e' 9 = .pointer (some ⟨H'.size, 0, none⟩) ∧ H'.size < H''.size ∧ H''.get H'.size = .rw s.enc 45 false [] ∧ (0 ≤ s.fr ∧ s.fr < C) ∧ bad2 s = false) := by
 have sz := I.sz
 have b7 := I.b7
 have g7 := I.g7
 have g0 := I.g0
 simp only [Try.f49,bodyOf,sub_nil,sub_seq0,sub_seq1,sub_block,sub_loop,sub_cond0,sub_cond1]
 simp (disch:=first|(simp only [yk,seval];done)|omega|(simp only [yz]<;>omega)|fail) only [↓yp,yq0,yq1,yq2,yq3,yq4,yl,ys0,ys1,seval,zed,zee,zfr,zhw,ysu,yrg,ysv,g0,g7,b7]
 refine c51 I.chu hL (by omega) (by omega) ?_
 rintro f1 n1 H1 - ⟨p1, p1'⟩ hc1 hx1 hs1
 simp (disch:=first|(simp only [yk,seval];done)|omega|(simp only [yz]<;>omega)|fail) only [↓yp,yq0,yq1,yq2,yq3,yq4,yl,ys0,ys1,seval,zed,zee,zfr,zhw,ysu,yrg,ysv,g0]
 refine c59 hc1 hL (by omega) (by omega) ?_
 rintro f2 n2 H2 - p2 p2' hc2 hx2 hs2
 simp (disch:=first|(simp only [yk,seval];done)|omega|(simp only [yz]<;>omega)|fail) only [↓yp,yq0,yq1,yq2,yq3,yq4,yl,ys0,ys1,seval,zed,zee,zfr,zhw,ysu,yrg,ysv,g0]
 refine c51 hc2 hL (by omega) (by omega) ?_
 rintro f3 n3 H3 - ⟨p3, p3'⟩ hc3 hx3 hs3
 simp (disch:=first|(simp only [yk,seval];done)|omega|(simp only [yz]<;>omega)|fail) only [↓yp,yq0,yq1,yq2,yq3,yq4,yl,ys0,ys1,seval,zed,zee,zfr,zhw,ysu,yrg,ysv,g0]
 refine c59 hc3 hL (by omega) (by omega) ?_
 rintro f4 n4 H4 - p4 p4' hc4 hx4 hs4
 simp (disch:=first|(simp only [yk,seval];done)|omega|(simp only [yz]<;>omega)|fail) only [↓yp,yq0,yq1,yq2,yq3,yq4,yl,ys0,ys1,seval,zed,zee,zfr,zhw,ysu,yrg,ysv,g0]
 refine c59 hc4 hL (by omega) (by omega) ?_
 rintro f5 n5 H5 - p5 p5' hc5 hx5 hs5
 simp (disch:=first|(simp only [yk,seval];done)|omega|(simp only [yz]<;>omega)|fail) only [↓yp,yq0,yq1,yq2,yq3,yq4,yl,ys0,ys1,seval,zed,zee,zfr,zhw,ysu,yrg,ysv,g0]
 refine c96 hc5 hL (by omega) (by omega) ?_
 rintro f6 q6 H6 hc6 hx6 hs6
 simp (disch:=first|(simp only [yk,seval];done)|omega|(simp only [yz]<;>omega)|fail) only [↓yp,yq0,yq1,yq2,yq3,yq4,yl,ys0,ys1,seval,zed,zee,zfr,zhw,ysu,yrg,ysv,A_build zin,A_build st_bdS_45]
 have e6 : H6.size = H'.size := by omega
 have n1lt : n1 < C := by omega
 have hx := ((((hx1.trans hx2).trans hx3).trans hx4).trans hx5).trans hx6
 refine ⟨⟨n1, 0, n2, n3, n4, n5, !q6, 1, 0⟩, ((I.frx hk hc6 hx (by (with_reducible repeat first|refine Keep.put ?_ (by decide)|refine Keep.none ?_|assumption|exact Keep.refl _ _ _))).fr' hk (Fr.alloc _ _) (Keep.refl _ _ _)).put hk (j := H6.size) (c := [.int .i64 0, .int .i64 0, .int .i64 0, .int .i64 0, .int .i64 0, .int .i64 0, .bool false, .int .i64 0, .int .i64 0]) (ty := 45) (al := []) (by omega) zcz _, ?_, ?_, by (first | omega | (simp only [yz] <;> omega)), ?_, ⟨p1, n1lt⟩, ?_⟩
 ·simp (disch:=first|(simp only [yk,seval];done)|omega|(simp only [yz]<;>omega)|fail) only [yg,seval]
 ·rw [← e6]; simp (disch:=first|(simp only [yk,seval];done)|omega|(simp only [yz]<;>omega)|fail) only [yg,seval]
 ·rw [← e6]; exact zdc (by first|omega|(simp only [yz]<;>omega))
 ·exact bad2_of (by omega) (by omega) (by omega) (by omega) (by omega) (by omega)
set_option maxHeartbeats 1000000 in
theorem c49b {s : Str} (hk : k < H.size) (hL : L ≤ k) (hC : 2 ≤ C ∧ C ≤ 8) (I : MI H H' k a bs cap C m i l ga gc e) (g9 : gt 98 e 9 = .pointer (some ⟨j, 0, none⟩)) (hj : H.size + 1 < j) (hjs : j < H'.size) (hb : H'.get j = .rw s.enc 45 false []) (hf : 0 ≤ s.fr ∧ s.fr < C) (h2 : bad2 s = false) :
  W tabA Try.prog (N + 600) none (sub [true, true, false, true, false, false, true, true, false, false, true, true, false] (bodyOf Try.f49)) L ⟨98, e, H', []⟩ (endK 98 [] fun e' H'' => ∃ s : Str, MI H H'' k a bs cap C m i l ga gc e' ∧ gt 98 e' 8 = gt 98 e 8 ∧ gt 98 e' 9 = .pointer (some ⟨j, 0, none⟩) ∧ j < H''.size ∧ H''.get j = .rw s.enc 45 false [] ∧ OkS C s) := by
 have sz := I.sz
 have b7 := I.b7
 have g7 := I.g7
 have g0 := I.g0
 have w1 : w64 (C - 1) = C - 1 := w64_of (by omega)
 simp only [Str.enc] at hb
 simp only [Try.f49,bodyOf,sub_nil,sub_seq0,sub_seq1,sub_block,sub_loop,sub_cond0,sub_cond1]
 obtain ⟨fl, v, H1, mm, hres, hLm, d, rfl, hd1, hd2, hff, hc1, hx1, hs1⟩ := resK_elim (Q := fun f v H'' => ∃ d : Int, v = .int .i64 d ∧ 1 ≤ d ∧ d ≤ C - 1 ∧ (f = true → H'' = H') ∧ Chu H'' k a bs cap ∧ FrX k H' H'' ∧ H''.size = H'.size) (c59 (M := N + 599) (lo := 1) (hi := C - 1) I.chu hL (by omega) (by omega) fun f v H'' h0 h1 h2 h3 h4 h5 => ⟨v, rfl, h1, h2, h0, h3, h4, h5⟩)
 have w2 : w64 (s.fr + d) = s.fr + d := w64_of (by omega)
 obtain ⟨o1, o2, o3⟩ := other_corner hC.1 hf ⟨hd1, hd2⟩
 have hrem := fun (x y : Operand) (z : Int) => i64_rem (T := tabA) (P := Try.prog) (ty := 3) (x := x) (y := y) (a := z) (b := C) (by omega)
 have hb1 : H1.get j = .rw [.int .i64 s.fr, .int .i64 s.to, .int .i64 s.mi, .int .i64 s.up, .int .i64 s.wi, .int .i64 s.be, .bool s.bk, .int .i64 s.lo, .int .i64 s.hi] 45 false [] := by
  rw [hx1.same j hjs (by omega)]; exact hb
 have b71 : H1.get (H.size + 1) = .rw [.int .i64 C, .slice ga i gc] 24 false [] := by
  rw [hx1.same _ sz (by omega)]; exact b7
 have okS : OkS C ⟨s.fr, (s.fr + d).tmod C, s.mi, s.up, s.wi, s.be, s.bk, s.lo, s.hi⟩ := by
  refine ⟨?_, h2⟩
  unfold bad1
  rw [off_iff.2 (by show 0 ≤ s.fr ∧ s.fr ≤ C - 1; omega), off_iff.2 (by show 0 ≤ (s.fr + d).tmod C ∧ (s.fr + d).tmod C ≤ C - 1; omega)]
  simp only [Bool.false_or,decide_eq_false_iff_not]
  exact fun h => o3 h.symm
 have fin : ∀ e', Keep 98 [0, 6, 7, 19, 20] e e' → MI H (H1.put j (.rw [.int .i64 s.fr, .int .i64 ((s.fr + d).tmod C), .int .i64 s.mi, .int .i64 s.up, .int .i64 s.wi, .int .i64 s.be, .bool s.bk, .int .i64 s.lo, .int .i64 s.hi] 45 false [])) k a bs cap C m i l ga gc e' := fun e' hke => (I.frx hk hc1 hx1 hke).put hk hj hb1 _
 cases fl
 ·refine W_drawR (pl := []) [6, 12] [] (planB_of rfl (by decide) (by decide) rfl) (by kernel_rfl) (by kernel_rfl) (by kernel_rfl) (by first|omega|(simp only [yz]<;>omega)) ?_
  simp (disch:=first|(simp only [yk,seval];done)|omega|(simp only [yz]<;>omega)|fail) only [↓yp,yq0,yq1,yq2,yq3,yq4,yl,ys0,ys1,seval,zed,zee,zfr,zhw,ysu,yrg,ysv,g0,g7,g9,b7,b71,hb,hb1,w1,w2,hres,hrem]
  refine ⟨⟨s.fr, (s.fr + d).tmod C, s.mi, s.up, s.wi, s.be, s.bk, s.lo, s.hi⟩, fin _ (by (with_reducible repeat first|refine Keep.put ?_ (by decide)|refine Keep.none ?_|assumption|exact Keep.refl _ _ _)), ?_, ?_, by (first | omega | (simp only [yz] <;> omega)), ?_, okS⟩
  ·simp (disch:=first|(simp only [yk,seval];done)|omega|(simp only [yz]<;>omega)|fail) only [yg,seval]
  ·simp (disch:=first|(simp only [yk,seval];done)|omega|(simp only [yz]<;>omega)|fail) only [yg,seval,g9]
  ·exact zdc (by omega)
 ·obtain rfl := hff rfl
  refine W_drawR (pl := []) [12] [(6, 1)] (planB_of rfl (by decide) (by decide) rfl) (by kernel_rfl) (by kernel_rfl) (by kernel_rfl) (by first|omega|(simp only [yz]<;>omega)) ?_
  simp (disch:=first|(simp only [yk,seval];done)|omega|(simp only [yz]<;>omega)|fail) only [↓yp,yq0,yq1,yq2,yq3,yq4,yl,ys0,ys1,seval,zed,zee,zfr,zhw,ysu,yrg,ysv,g0,g7,g9,b7,hb,w1,w2,hres,hrem]
  refine ⟨⟨s.fr, (s.fr + d).tmod C, s.mi, s.up, s.wi, s.be, s.bk, s.lo, s.hi⟩, fin _ (by (with_reducible repeat first|refine Keep.put ?_ (by decide)|refine Keep.none ?_|assumption|exact Keep.refl _ _ _)), ?_, ?_, by (first | omega | (simp only [yz] <;> omega)), ?_, okS⟩
  ·simp (disch:=first|(simp only [yk,seval];done)|omega|(simp only [yz]<;>omega)|fail) only [yg,seval]
  ·simp (disch:=first|(simp only [yk,seval];done)|omega|(simp only [yz]<;>omega)|fail) only [yg,seval,g9]
  ·exact zdc (by omega)
set_option maxHeartbeats 1000000 in
theorem c49r {s : Str} (hk : k < H.size) (hL : L ≤ k) (hC : 2 ≤ C ∧ C ≤ 8) (I : MI H H' k a bs cap C m i l ga gc e) (g9 : gt 98 e 9 = .pointer (some ⟨j, 0, none⟩)) (hj : H.size + 1 < j) (hjs : j < H'.size) (hb : H'.get j = .rw s.enc 45 false []) (hf : 0 ≤ s.fr ∧ s.fr < C) (h2 : bad2 s = false) :
  W tabA Try.prog (N + 600) none (sub [true, true, false, true, false, false, true, true, false, false, true, true, true, false, true, false, true] (bodyOf Try.f49)) L ⟨98, e, H', []⟩ (endK 98 [] fun e' H'' => ∃ s : Str, MI H H'' k a bs cap C m i l ga gc e' ∧ gt 98 e' 8 = gt 98 e 8 ∧ gt 98 e' 9 = .pointer (some ⟨j, 0, none⟩) ∧ j < H''.size ∧ H''.get j = .rw s.enc 45 false [] ∧ OkS C s) := by
 have sz := I.sz
 have b7 := I.b7
 have g7 := I.g7
 have g0 := I.g0
 have w1 : w64 (C - 1) = C - 1 := w64_of (by omega)
 simp only [Str.enc] at hb
 simp only [Try.f49,bodyOf,sub_nil,sub_seq0,sub_seq1,sub_block,sub_loop,sub_cond0,sub_cond1]
 obtain ⟨fl, v, H1, mm, hres, hLm, d, rfl, hd1, hd2, hff, hc1, hx1, hs1⟩ := resK_elim (Q := fun f v H'' => ∃ d : Int, v = .int .i64 d ∧ 1 ≤ d ∧ d ≤ C - 1 ∧ (f = true → H'' = H') ∧ Chu H'' k a bs cap ∧ FrX k H' H'' ∧ H''.size = H'.size) (c59 (M := N + 599) (lo := 1) (hi := C - 1) I.chu hL (by omega) (by omega) fun f v H'' h0 h1 h2 h3 h4 h5 => ⟨v, rfl, h1, h2, h0, h3, h4, h5⟩)
 have w2 : w64 (s.fr + d) = s.fr + d := w64_of (by omega)
 obtain ⟨o1, o2, o3⟩ := other_corner hC.1 hf ⟨hd1, hd2⟩
 have hrem := fun (x y : Operand) (z : Int) => i64_rem (T := tabA) (P := Try.prog) (ty := 3) (x := x) (y := y) (a := z) (b := C) (by omega)
 have hb1 : H1.get j = .rw [.int .i64 s.fr, .int .i64 s.to, .int .i64 s.mi, .int .i64 s.up, .int .i64 s.wi, .int .i64 s.be, .bool s.bk, .int .i64 s.lo, .int .i64 s.hi] 45 false [] := by
  rw [hx1.same j hjs (by omega)]; exact hb
 have b71 : H1.get (H.size + 1) = .rw [.int .i64 C, .slice ga i gc] 24 false [] := by
  rw [hx1.same _ sz (by omega)]; exact b7
 have okS : OkS C ⟨s.fr, (s.fr + d).tmod C, s.mi, s.up, s.wi, s.be, s.bk, s.lo, s.hi⟩ := by
  refine ⟨?_, h2⟩
  unfold bad1
  rw [off_iff.2 (by show 0 ≤ s.fr ∧ s.fr ≤ C - 1; omega), off_iff.2 (by show 0 ≤ (s.fr + d).tmod C ∧ (s.fr + d).tmod C ≤ C - 1; omega)]
  simp only [Bool.false_or,decide_eq_false_iff_not]
  exact fun h => o3 h.symm
 have fin : ∀ e', Keep 98 [0, 6, 7, 19, 20] e e' → MI H (H1.put j (.rw [.int .i64 s.fr, .int .i64 ((s.fr + d).tmod C), .int .i64 s.mi, .int .i64 s.up, .int .i64 s.wi, .int .i64 s.be, .bool s.bk, .int .i64 s.lo, .int .i64 s.hi] 45 false [])) k a bs cap C m i l ga gc e' := fun e' hke => (I.frx hk hc1 hx1 hke).put hk hj hb1 _
 cases fl
 ·refine W_drawR (pl := []) [6, 12] [] (planB_of rfl (by decide) (by decide) rfl) (by kernel_rfl) (by kernel_rfl) (by kernel_rfl) (by first|omega|(simp only [yz]<;>omega)) ?_
  simp (disch:=first|(simp only [yk,seval];done)|omega|(simp only [yz]<;>omega)|fail) only [↓yp,yq0,yq1,yq2,yq3,yq4,yl,ys0,ys1,seval,zed,zee,zfr,zhw,ysu,yrg,ysv,g0,g7,g9,b7,b71,hb,hb1,w1,w2,hres,hrem]
  refine ⟨⟨s.fr, (s.fr + d).tmod C, s.mi, s.up, s.wi, s.be, s.bk, s.lo, s.hi⟩, fin _ (by (with_reducible repeat first|refine Keep.put ?_ (by decide)|refine Keep.none ?_|assumption|exact Keep.refl _ _ _)), ?_, ?_, by (first | omega | (simp only [yz] <;> omega)), ?_, okS⟩
  ·simp (disch:=first|(simp only [yk,seval];done)|omega|(simp only [yz]<;>omega)|fail) only [yg,seval]
  ·simp (disch:=first|(simp only [yk,seval];done)|omega|(simp only [yz]<;>omega)|fail) only [yg,seval,g9]
  ·exact zdc (by omega)
 ·obtain rfl := hff rfl
  refine W_drawR (pl := []) [12] [(6, 1)] (planB_of rfl (by decide) (by decide) rfl) (by kernel_rfl) (by kernel_rfl) (by kernel_rfl) (by first|omega|(simp only [yz]<;>omega)) ?_
  simp (disch:=first|(simp only [yk,seval];done)|omega|(simp only [yz]<;>omega)|fail) only [↓yp,yq0,yq1,yq2,yq3,yq4,yl,ys0,ys1,seval,zed,zee,zfr,zhw,ysu,yrg,ysv,g0,g7,g9,b7,hb,w1,w2,hres,hrem]
  refine ⟨⟨s.fr, (s.fr + d).tmod C, s.mi, s.up, s.wi, s.be, s.bk, s.lo, s.hi⟩, fin _ (by (with_reducible repeat first|refine Keep.put ?_ (by decide)|refine Keep.none ?_|assumption|exact Keep.refl _ _ _)), ?_, ?_, by (first | omega | (simp only [yz] <;> omega)), ?_, okS⟩
  ·simp (disch:=first|(simp only [yk,seval];done)|omega|(simp only [yz]<;>omega)|fail) only [yg,seval]
  ·simp (disch:=first|(simp only [yk,seval];done)|omega|(simp only [yz]<;>omega)|fail) only [yg,seval,g9]
  ·exact zdc (by omega)
set_option maxHeartbeats 1000000 in
theorem c49c {s : Str} (hk : k < H.size) (hL : L ≤ k) (hC : 2 ≤ C ∧ C ≤ 8) (I : MI H H' k a bs cap C m i l ga gc e) (g9 : gt 98 e 9 = .pointer (some ⟨j, 0, none⟩)) (hj : H.size + 1 < j) (hjs : j < H'.size) (hb : H'.get j = .rw s.enc 45 false []) (ho : OkS C s) (g8 : gt 98 e 8 = .int .i64 (i : Nat)) (hi : i ≤ 20) :
  W tabA Try.prog (N + 700) none (sub [true, true, false, true, false, false, true, true, false, false, true, true, true, false] (bodyOf Try.f49)) L ⟨98, e, H', []⟩ (endK 98 [] fun e' H'' => ∃ s : Str, MI H H'' k a bs cap C m i l ga gc e' ∧ gt 98 e' 8 = gt 98 e 8 ∧ gt 98 e' 9 = .pointer (some ⟨j, 0, none⟩) ∧ j < H''.size ∧ H''.get j = .rw s.enc 45 false [] ∧ OkS C s) := by
 have sz := I.sz
 have b7 := I.b7
 have g7 := I.g7
 have g0 := I.g0
 have he := hb
 simp only [Str.enc] at hb
 simp only [Try.f49,bodyOf,sub_nil,sub_seq0,sub_seq1,sub_block,sub_loop,sub_cond0,sub_cond1]
 cases hA : decide ((0 : Int) < (i : Int))
 ·simp (disch:=first|(simp only [yk,seval];done)|omega|(simp only [yz]<;>omega)|fail) only [↓yp,yq0,yq1,yq2,yq3,yq4,yl,ys0,ys1,seval,zed,zee,zfr,zhw,ysu,yrg,ysv,g8,hA]
  refine ⟨s, I.fr' hk (Fr.refl _) (by (with_reducible repeat first|refine Keep.put ?_ (by decide)|refine Keep.none ?_|assumption|exact Keep.refl _ _ _)), ?_, ?_, hjs, he, ho⟩
  ·simp (disch:=first|(simp only [yk,seval];done)|omega|(simp only [yz]<;>omega)|fail) only [yg,seval,g8]
  ·simp (disch:=first|(simp only [yk,seval];done)|omega|(simp only [yz]<;>omega)|fail) only [yg,seval,g9]
 have hi0 : 0 < i := by have := of_decide_eq_true hA; omega
 simp (disch:=first|(simp only [yk,seval];done)|omega|(simp only [yz]<;>omega)|fail) only [↓yp,yq0,yq1,yq2,yq3,yq4,yl,ys0,ys1,seval,zed,zee,zfr,zhw,ysu,yrg,ysv,g8,g0,hA]
 refine c96 I.chu hL (by omega) (by omega) ?_
 rintro f1 v H1 hc1 hx1 hs1
 have hb1 : H1.get j = .rw [.int .i64 s.fr, .int .i64 s.to, .int .i64 s.mi, .int .i64 s.up, .int .i64 s.wi, .int .i64 s.be, .bool s.bk, .int .i64 s.lo, .int .i64 s.hi] 45 false [] := by
  rw [hx1.same j hjs (by omega)]; exact hb
 have b71 : H1.get (H.size + 1) = .rw [.int .i64 C, .slice ga i gc] 24 false [] := by
  rw [hx1.same _ sz (by omega)]; exact b7
 cases v
 ·simp (disch:=first|(simp only [yk,seval];done)|omega|(simp only [yz]<;>omega)|fail) only [↓yp,yq0,yq1,yq2,yq3,yq4,yl,ys0,ys1,seval,zed,zee,zfr,zhw,ysu,yrg,ysv]
  refine ⟨s, I.frx hk hc1 hx1 (by (with_reducible repeat first|refine Keep.put ?_ (by decide)|refine Keep.none ?_|assumption|exact Keep.refl _ _ _)), ?_, ?_, by omega, hb1, ho⟩
  ·simp (disch:=first|(simp only [yk,seval];done)|omega|(simp only [yz]<;>omega)|fail) only [yg,seval,g8]
  ·simp (disch:=first|(simp only [yk,seval];done)|omega|(simp only [yz]<;>omega)|fail) only [yg,seval,g9]
 obtain ⟨q, rfl⟩ : ∃ q, i = q + 1 := ⟨i - 1, by omega⟩
 have hlen := I.len
 obtain ⟨z, hz⟩ : ∃ z, l[q]? = some z := ⟨l[q]'(by omega), by simp [show q < l.length by omega]⟩
 have hzo := I.ok z (List.mem_of_getElem? hz)
 have hzt : 0 ≤ z.to ∧ z.to < C := by
  have h1 := hzo.1
  unfold bad1 at h1
  simp only [Bool.or_eq_false_iff] at h1
  have := off_iff.1 h1.2.1
  omega
 have I1 : MI H H1 k a bs cap C m (q + 1) l ga gc e := I.frx hk hc1 hx1 (Keep.refl _ _ _)
 obtain ⟨bb, al, hv, k1, k2, k3, k4⟩ := I1.gw.cons (by omega)
 obtain ⟨rfl, hgc⟩ : ga = some ⟨bb, 0, none⟩ ∧ gc = OPEN + 9 := by
  cases hv; exact ⟨rfl, rfl⟩
 have hto : (flat l)[q * 9 + 1]? = some (.int .i64 z.to) := cell_in 1 (part_flat hz) (by omega)
 have wq : w64 (((q + 1 : Nat) : Int) - 1) = (q : Int) := by rw [w64_of (by omega)]; omega
 simp (disch:=first|(simp only [yk,seval];done)|omega|(simp only [yz]<;>omega)|fail) only [↓yp,yq0,yq1,yq2,yq3,yq4,yl,ys0,ys1,seval,zed,zee,zfr,zhw,ysu,yrg,ysv,g8,g7,g9,b71,wq,A_indexSlice zio,k3,hto,hb1]
 have J : MI H (H1.put j (.rw [.int .i64 z.to, .int .i64 s.to, .int .i64 s.mi, .int .i64 s.up, .int .i64 s.wi, .int .i64 s.be, .bool s.bk, .int .i64 s.lo, .int .i64 s.hi] 45 false [])) k a bs cap C m (q + 1) l (some ⟨bb, 0, none⟩) gc e := I1.put hk hj hb1 _
 refine W_end (c49r (s := ⟨z.to, s.to, s.mi, s.up, s.wi, s.be, s.bk, s.lo, s.hi⟩) hk hL hC (J.fr' hk (Fr.refl _) (by (with_reducible repeat first|refine Keep.put ?_ (by decide)|refine Keep.none ?_|assumption|exact Keep.refl _ _ _))) ?_ hj (by first|omega|(simp only [yz]<;>omega)) (zdc (by omega)) hzt ho.2) ?_
 ·simp (disch:=first|(simp only [yk,seval];done)|omega|(simp only [yz]<;>omega)|fail) only [yg,seval,g9]
 ·rintro e' H2 ⟨s', h1, h2, h3, h4, h5, h6⟩
  simp (disch:=first|(simp only [yk,seval];done)|omega|(simp only [yz]<;>omega)|fail) only [endK_normal]
  refine ⟨s', h1, h2.trans ?_, h3, h4, h5, h6⟩
  simp (disch:=first|(simp only [yk,seval];done)|omega|(simp only [yz]<;>omega)|fail) only [yg,seval,g8]
set_option maxHeartbeats 1000000 in
theorem c49d {s : Str} (hk : k < H.size) (hL : L ≤ k) (hC : 2 ≤ C ∧ C ≤ 8) (I : MI H H' k a bs cap C m i l ga gc e) (g9 : gt 98 e 9 = .pointer (some ⟨j, 0, none⟩)) (hj : H.size + 1 < j) (hjs : j < H'.size) (hb : H'.get j = .rw s.enc 45 false []) (ho : OkS C s) :
  W tabA Try.prog (N + 700) none (sub [true, true, false, true, false, false, true, true, false, false, true, true, true, true, false] (bodyOf Try.f49)) L ⟨98, e, H', []⟩ (endK 98 [] fun e' H'' => ∃ s : Str, MI H H'' k a bs cap C m i l ga gc e' ∧ gt 98 e' 8 = gt 98 e 8 ∧ gt 98 e' 9 = .pointer (some ⟨j, 0, none⟩) ∧ j < H''.size ∧ H''.get j = .rw s.enc 45 false [] ∧ OkS C s) := by
 have sz := I.sz
 have b7 := I.b7
 have g7 := I.g7
 have g0 := I.g0
 have he := hb
 simp only [Str.enc] at hb
 simp only [Try.f49,bodyOf,sub_nil,sub_seq0,sub_seq1,sub_block,sub_loop,sub_cond0,sub_cond1]
 simp (disch:=first|(simp only [yk,seval];done)|omega|(simp only [yz]<;>omega)|fail) only [↓yp,yq0,yq1,yq2,yq3,yq4,yl,ys0,ys1,seval,zed,zee,zfr,zhw,ysu,yrg,ysv,g0]
 refine c96 I.chu hL (by omega) (by omega) ?_
 rintro f1 v H1 hc1 hx1 hs1
 have hb1 : H1.get j = .rw [.int .i64 s.fr, .int .i64 s.to, .int .i64 s.mi, .int .i64 s.up, .int .i64 s.wi, .int .i64 s.be, .bool s.bk, .int .i64 s.lo, .int .i64 s.hi] 45 false [] := by
  rw [hx1.same j hjs (by omega)]; exact hb
 cases v
 ·simp (disch:=first|(simp only [yk,seval];done)|omega|(simp only [yz]<;>omega)|fail) only [↓yp,yq0,yq1,yq2,yq3,yq4,yl,ys0,ys1,seval,zed,zee,zfr,zhw,ysu,yrg,ysv]
  refine ⟨s, I.frx hk hc1 hx1 (by (with_reducible repeat first|refine Keep.put ?_ (by decide)|refine Keep.none ?_|assumption|exact Keep.refl _ _ _)), ?_, ?_, by omega, hb1, ho⟩
  ·simp (disch:=first|(simp only [yk,seval];done)|omega|(simp only [yz]<;>omega)|fail) only [yg,seval]
  ·simp (disch:=first|(simp only [yk,seval];done)|omega|(simp only [yz]<;>omega)|fail) only [yg,seval,g9]
 simp (disch:=first|(simp only [yk,seval];done)|omega|(simp only [yz]<;>omega)|fail) only [↓yp,yq0,yq1,yq2,yq3,yq4,yl,ys0,ys1,seval,zed,zee,zfr,zhw,ysu,yrg,ysv,g0]
 refine c51 hc1 hL (by omega) (by omega) ?_
 rintro f2 lo H2 - ⟨p1, p2⟩ hc2 hx2 hs2
 simp (disch:=first|(simp only [yk,seval];done)|omega|(simp only [yz]<;>omega)|fail) only [↓yp,yq0,yq1,yq2,yq3,yq4,yl,ys0,ys1,seval,zed,zee,zfr,zhw,ysu,yrg,ysv,g0]
 refine c51 hc2 hL (by omega) (by omega) ?_
 rintro f3 d H3 - ⟨p3, p4⟩ hc3 hx3 hs3
 have w1 : w64 (lo + d) = lo + d := w64_of (by omega)
 have hx := (hx1.trans hx2).trans hx3
 have hb3 : H3.get j = .rw [.int .i64 s.fr, .int .i64 s.to, .int .i64 s.mi, .int .i64 s.up, .int .i64 s.wi, .int .i64 s.be, .bool s.bk, .int .i64 s.lo, .int .i64 s.hi] 45 false [] := by
  rw [hx.same j hjs (by omega)]; exact hb
 have I3 : MI H H3 k a bs cap C m i l ga gc e := I.frx hk hc3 hx (Keep.refl _ _ _)
 obtain ⟨hi, hhi⟩ : ∃ hi, (if lo + d < 239 then lo + d else 239) = hi := ⟨_, rfl⟩
 have hhi2 : 0 ≤ hi ∧ hi ≤ 239 := by rw [← hhi]; split <;> omega
 simp (disch:=first|(simp only [yk,seval];done)|omega|(simp only [yz]<;>omega)|fail) only [↓yp,yq0,yq1,yq2,yq3,yq4,yl,ys0,ys1,seval,zed,zee,zfr,zhw,ysu,yrg,ysv,g9,hb3,w1,A_min,mm_min,A_build zin,hhi]
 have J := I3.put hk hj hb3 (.rw [.int .i64 s.fr, .int .i64 s.to, .int .i64 s.mi, .int .i64 s.up, .int .i64 s.wi, .int .i64 s.be, .bool s.bk, .int .i64 lo, .int .i64 hi] 45 false [])
 refine ⟨⟨s.fr, s.to, s.mi, s.up, s.wi, s.be, s.bk, lo, hi⟩, J.fr' hk (Fr.refl _) (by (with_reducible repeat first|refine Keep.put ?_ (by decide)|refine Keep.none ?_|assumption|exact Keep.refl _ _ _)), ?_, ?_, by (first | omega | (simp only [yz] <;> omega)), zdc (by omega), ho.1, ?_⟩
 ·simp (disch:=first|(simp only [yk,seval];done)|omega|(simp only [yz]<;>omega)|fail) only [yg,seval]
 ·simp (disch:=first|(simp only [yk,seval];done)|omega|(simp only [yz]<;>omega)|fail) only [yg,seval,g9]
 ·have h2 := ho.2
  unfold bad2 at h2
  simp only [Bool.or_eq_false_iff] at h2
  exact bad2_of (off_iff.1 h2.1) (off_iff.1 h2.2.1) (off_iff.1 h2.2.2.1) (off_iff.1 h2.2.2.2.1) (by omega) hhi2
end
end Go.Am
namespace Go.Am
open Go.Proofs
variable {T : Tab} {P : Program} {N L : Nat} {H : AHeap} {Q : Bool → Value → AHeap → Prop}
theorem OkS.ok {C : Int} {s : Str} (h : OkS C s) (hC : C ≤ 8) : s.Ok := by
 have h1 := h.1
 have h2 := h.2
 unfold bad1 at h1
 unfold bad2 at h2
 simp only [Bool.or_eq_false_iff] at h1 h2
 have a1 := off_iff.1 h1.1
 have a2 := off_iff.1 h1.2.1
 have b1 := off_iff.1 h2.1
 have b2 := off_iff.1 h2.2.1
 have b3 := off_iff.1 h2.2.2.1
 have b4 := off_iff.1 h2.2.2.2.1
 have b5 := off_iff.1 h2.2.2.2.2.1
 have b6 := off_iff.1 h2.2.2.2.2.2
 exact ⟨okI_of (by omega), okI_of (by omega), okI_of (by omega), okI_of (by omega), okI_of (by omega), okI_of (by omega), okI_of (by omega), okI_of (by omega)⟩
theorem flat_append : ∀ (l l' : List Str), flat (l ++ l') = flat l ++ flat l'
 | [], _ => rfl
 | s :: l, l' => by simp only [List.cons_append,flat,flat_append l l',List.append_assoc]
section
variable {k cap gc i j : Nat} {a ga : Option Addr} {bs : List Int} {C m : Int} {l : List Str} {H' H'' : AHeap} {e e' : VT}
theorem Chu.again (h : Chu H k a bs cap) (f : FrX k H H'') (hb : ∃ u s : Int, H''.get k = .rw [.slice a bs.length cap, .int .i64 u, .int .u64 s] 140 false [] ∧ 0 ≤ u ∧ u ≤ bs.length ∧ 0 ≤ s ∧ s < 18446744073709551616) : Chu H'' k a bs cap where
 lt := Nat.lt_of_lt_of_le h.lt f.size
 blk := hb
 row hne := by
  obtain ⟨b, o, c, h1, h2, h3, h4⟩ := h.row hne
  obtain ⟨u, s, h5, _⟩ := h.blk
  exact ⟨b, o, c, h1, Nat.lt_of_lt_of_le h2 f.size, by rw [f.same b h2 (fun e => by subst e; rw [h5] at h3; cases h3)]; exact h3, h4⟩
 byte := h.byte
 len := h.len
set_option maxHeartbeats 1000000 in
theorem c49e {s : Str} (h0 : Chu H k a bs cap) (hk : k < H.size) (hL : L ≤ k) (I : MI H H' k a bs cap C m i l ga gc e) (g9 : gt 98 e 9 = .pointer (some ⟨j, 0, none⟩)) (hb : H'.get j = .rw s.enc 45 false []) (ho : OkS C s) (hi : i ≤ 20) :
  W tabA Try.prog (N + 700) none (sub [true, true, false, true, false, false, true, true, false, false, true, true, true, true, true] (bodyOf Try.f49)) L ⟨98, e, H', []⟩ (endK 98 [] fun e' H'' => ∃ ga' gc', (∀ e'', Keep 98 [0, 6, 7, 19] e' e'' → gt 98 e'' 20 = .int .i64 ((i + 1 : Nat) : Int) → MI H H'' k a bs cap C m (i + 1) (l ++ [s]) ga' gc' e'') ∧ gt 98 e' 20 = .int .i64 (i : Nat)) := by
 have sz := I.sz
 have b7 := I.b7
 have g7 := I.g7
 have g20 := I.g20
 simp only [Str.enc] at hb
 simp only [Try.f49,bodyOf,sub_nil,sub_seq0,sub_seq1,sub_block,sub_loop,sub_cond0,sub_cond1]
 simp (disch:=first|(simp only [yk,seval];done)|omega|(simp only [yz]<;>omega)|fail) only [↓yp,yq0,yq1,yq2,yq3,yq4,yl,ys0,ys1,seval,zed,zee,zfr,zhw,ysu,yrg,ysv,g7,g9,b7,hb,A_buildSlice st_brS_22_1]
 refine grow_append (i := i) (cs := flat l) (news := s.enc) st_apS_22 (I.gw.fr (by repeat first|exact Fr.refl _|assumption|refine Fr.allocd ?_ _|refine Fr.put ?_ (by first|omega|(simp only [yz]<;>omega)) _)) (by first|omega|(simp only [yz]<;>omega)) (by rw [flat_length, I.len]) (by unfold srcCells; simp (disch:=first|(simp only [yk,seval];done)|omega|(simp only [yz]<;>omega)|fail) only [yg,seval] <;> rfl) (by omega) (by omega) rfl (by omega) ?_
 intro a' c' H₂ fu gw'
 have u0 := fu.size
 have us := fu.same
 simp only [zde,zdf] at u0
 have b72 : H₂.get (H.size + 1) = .rw [.int .i64 C, .slice ga i gc] 24 false [] := by
  rw [us _ (by omega), zdb sz]; exact b7
 simp (disch:=first|(simp only [yk,seval];done)|omega|(simp only [yz]<;>omega)|fail) only [↓yp,yq0,yq1,yq2,yq3,yq4,yl,ys0,ys1,seval,zed,zee,zfr,zhw,ysu,yrg,ysv,g7,b72]
 have hck : H'.get k = H₂.get k := by rw [us _ (by omega), zdb (by omega)]
 have old : ∀ q, q < H'.size → q ≤ H.size + 1 → H₂.get q = H'.get q := fun q h1 h2 => by rw [us _ (by omega), zdb h1]
 have fx : FrX k H (H₂.put (H.size + 1) (.rw [.int .i64 C, .slice a' (i + 1) c'] 24 false [])) := ⟨by (first | omega | (simp only [yz] <;> omega)), fun q h1 h2 => by rw [zdd (by omega), old q (by omega) (by omega)]; exact I.fr.same q h1 h2⟩
 refine ⟨a', c', fun e'' hk2 h20 => ⟨h20, (hk2 19 (by decide)).trans ?_, (hk2 7 (by decide)).trans ?_, (hk2 6 (by decide)).trans ?_, (hk2 0 (by decide)).trans ?_, ?_, ?_, by (first | omega | (simp only [yz] <;> omega)), ?_, ?_, ?_, ?_, ?_⟩, ?_⟩
 ·simp (disch:=first|(simp only [yk,seval];done)|omega|(simp only [yz]<;>omega)|fail) only [yg,seval,I.g19]
 ·simp (disch:=first|(simp only [yk,seval];done)|omega|(simp only [yz]<;>omega)|fail) only [yg,seval,g7]
 ·simp (disch:=first|(simp only [yk,seval];done)|omega|(simp only [yz]<;>omega)|fail) only [yg,seval,I.g6]
 ·simp (disch:=first|(simp only [yk,seval];done)|omega|(simp only [yz]<;>omega)|fail) only [yg,seval,I.g0]
 ·refine h0.again fx ?_
  rw [zdd (by omega), ← hck]
  exact I.chu.blk
 ·exact fx
 ·exact zdc (by omega)
 ·rw [zdd (by omega), old _ (by omega) (by omega)]; exact I.b6
 ·rw [flat_append]
  simp only [flat,List.append_nil]
  exact gw'.put (by omega)
 ·rw [List.length_append, I.len]; rfl
 ·intro z hz
  rcases List.mem_append.1 hz with h | h
  ·exact I.ok z h
  ·rw [List.mem_singleton.1 h]; exact ho
 ·simp (disch:=first|(simp only [yk,seval];done)|omega|(simp only [yz]<;>omega)|fail) only [yg,seval,g20]
theorem Grow.sl22 {tb c : Nat} {a : Option Addr} {l : List Str} (g : Grow H tb (.slice a l.length c) l.length (flat l) 45 9) : Sl H a l := g.sl
set_option maxHeartbeats 1000000 in
theorem c49 {corners many : Int} (h : Chu H k a bs cap) (hc : 2 ≤ corners ∧ corners ≤ 8) (hm : 0 ≤ many ∧ many ≤ 14) (hL : L ≤ k) {M : Nat} (hM : 2000 ≤ M)
  (hq : ∀ f a' cap' C l H', 2 ≤ C → C ≤ corners → (l.length : Int) ≤ many → (∀ s ∈ l, OkS C s) → (a' = none → cap' = 0) → Sl H' a' l → Chu H' k a bs cap → FrX k H H' → Q f (.agg ⟨[.int .i64 C, .slice a' l.length cap']⟩) H') :
  resK (acall tabA (aexec tabA Try.prog M) 49 [.pointer (some ⟨k, 0, none⟩), .int .i64 corners, .int .i64 many] H) L Q := by
 obtain ⟨N, rfl⟩ : ∃ N, M = N + 2000 := ⟨M - 2000, by omega⟩
 have hlt := h.lt
 refine call_keep tabA_fr (k := 98) (rs := [.cell 6 24]) (R := fun v H' => ∃ a' cap' C l, v = .agg ⟨[.int .i64 C, .slice a' l.length cap']⟩ ∧ 2 ≤ C ∧ C ≤ corners ∧ (l.length : Int) ≤ many ∧ (∀ s ∈ l, OkS C s) ∧ (a' = none → cap' = 0) ∧ Sl H' a' l ∧ Chu H' k a bs cap ∧ FrX k H H') rfl fn_49 rfl rfl rfl (by omega) ?_
  (by rintro v H' ⟨a', cap', C, l, rfl, h1, h2, h3, h4, h5, h6, h7, h8⟩; exact hq _ _ _ _ _ _ h1 h2 h3 h4 h5 h6 h7 h8) ?_
 rotate_left
 ·rintro v H' ⟨a', cap', C, l, rfl, h1, h2, h3, h4, h5, h6, h7, h8⟩ hg _
  have hnil : l = [] := Classical.byContradiction fun hne => by
   obtain ⟨b, o, c, rfl, _⟩ := h6.get hne
   simp [gr, ground] at hg
  subst hnil
  exact hq _ _ _ _ _ _ h1 h2 h3 h4 h5 ⟨fun h => absurd rfl h, fun _ _ _ _ h => absurd rfl h⟩ h (FrX.refl _ _)
 obtain ⟨c2, hc2⟩ : ∃ c2, (if corners > 2 then corners else 2) = c2 := ⟨_, rfl⟩
 have hc3 : 2 ≤ c2 ∧ c2 ≤ corners := by rw [← hc2]; split <;> omega
 have w1 : w64 (many + 1) = many + 1 := w64_of (by omega)
 simp (disch:=first|(simp only [yk,seval];done)|omega|(simp only [yz]<;>omega)|fail) only [↓yp,yq0,yq1,yq2,yq3,yq4,yl,ys0,ys1,seval,zed,zee,zfr,zhw,ysu,yrg,ysv,A_max,mm_max,hc2]
 refine c59 (h.fr (by repeat first|exact Fr.refl _|assumption|refine Fr.allocd ?_ _|refine Fr.put ?_ (by first|omega|(simp only [yz]<;>omega)) _)) hL (by omega) (by omega) ?_
 rintro f1 C H1 - p1 p2 hc1 hx1 hs1
 simp only [zde] at hs1
 have s1 := hx1.same H.size (by first|omega|(simp only [yz]<;>omega)) (by omega)
 rw [zda rfl] at s1
 simp (disch:=first|(simp only [yk,seval];done)|omega|(simp only [yz]<;>omega)|fail) only [↓yp,yq0,yq1,yq2,yq3,yq4,yl,ys0,ys1,seval,zed,zee,zfr,zhw,ysu,yrg,ysv,A_build zil,w1]
 have e1 : H1.size = H.size + 1 := by omega
 have hc1' : Chu ((H1.alloc (.rw [.int .i64 0, .slice none 0 0] 24 false [])).put H1.size (.rw [.int .i64 C, .slice none 0 0] 24 false [])) k a bs cap := (hc1.fr (Fr.alloc _ _)).other (by omega) (fun c e => by rw [zda rfl] at e; cases e)
 refine c51 hc1' hL (by omega) (by omega) ?_
 rintro f2 m H2 - ⟨p3, p4⟩ hc2' hx2 hs2
 simp only [zde,zdf] at hs2
 simp (disch:=first|(simp only [yk,seval];done)|omega|(simp only [yz]<;>omega)|fail) only [↓yp,yq0,yq1,yq2,yq3,yq4,yl,ys0,ys1,seval,zed,zee,zfr,zhw,ysu,yrg,ysv]
 have t1 : H2.get (H.size + 1) = .rw [.int .i64 C, .slice none 0 0] 24 false [] := by
  rw [hx2.same _ (by first|omega|(simp only [yz]<;>omega)) (by omega), ← e1]
  exact zdc (by first|omega|(simp only [yz]<;>omega))
 have t0 : H2.get H.size = .rw [.int .i64 0, .slice none 0 0] 24 false [] := by
  rw [hx2.same _ (by first|omega|(simp only [yz]<;>omega)) (by omega), zdd (by omega), zdb (by omega)]; exact s1
 have fx : FrX k H H2 := ⟨by omega, fun q h1 h2 => by
  rw [hx2.same q (by first|omega|(simp only [yz]<;>omega)) h2, zdd (by omega), zdb (by omega), hx1.same q (by first|omega|(simp only [yz]<;>omega)) h2, zdb h1]⟩
 refine W_while (n := 98) 1000 (fun j e' H' => ∃ (i : Nat) (l : List Str) (ga : Option Addr) (gc : Nat), j = (m - i).toNat ∧ (i : Int) ≤ m ∧ MI H H' k a bs cap C m i l ga gc e')
  ?_ 14 m.toNat ⟨0, [], none, 0, by omega, by omega, ?_⟩ (by omega) (by omega)
 rotate_left
 ·refine ⟨?_, ?_, ?_, ?_, ?_, hc2', fx, by omega, t1, t0, ⟨fun _ => rfl, fun h => absurd rfl h⟩, rfl, fun s hs => by simp at hs⟩
  ·simp (disch:=first|(simp only [yk,seval];done)|omega|(simp only [yz]<;>omega)|fail) only [yg,seval] <;> rfl
  ·simp (disch:=first|(simp only [yk,seval];done)|omega|(simp only [yz]<;>omega)|fail) only [yg,seval]
  ·simp (disch:=first|(simp only [yk,seval];done)|omega|(simp only [yz]<;>omega)|fail) only [yg,seval,e1]
  ·simp (disch:=first|(simp only [yk,seval];done)|omega|(simp only [yz]<;>omega)|fail) only [yg,seval]
  ·simp (disch:=first|(simp only [yk,seval];done)|omega|(simp only [yz]<;>omega)|fail) only [yg,seval]
 clear t1 t0 fx hs2 hx2 hc2' hc1' s1 hs1 hx1 hc1
 rintro M1 k1 e H' ⟨i, l, ga, gc, rfl, hi, I⟩
 have sz := I.sz
 have g20 := I.g20
 have g19 := I.g19
 simp (disch:=first|(simp only [yk,seval];done)|omega|(simp only [yz]<;>omega)|fail) only [↓yp,yq0,yq1,yq2,yq3,yq4,yl,ys0,ys1,seval,zed,zee,zfr,zhw,ysu,yrg,ysv,g20,g19]
 refine ⟨fun hA => ?_, fun hA => ?_⟩
 ·have hi' : (i : Int) < m := by simpa using hA
  have hi20 : i ≤ 20 := by omega
  have hC8 : 2 ≤ C ∧ C ≤ 8 := by omega
  have hw2 : w64 ((i : Int) + 1) = ((i + 1 : Nat) : Int) := by rw [w64_of (by omega)]; omega
  refine W_skipI (by omega) ?_
  rw [zag, zah]
  refine W_seqI (fun e' H'' => MI H H'' k a bs cap C m i l ga gc e' ∧ gt 98 e' 8 = .int .i64 (i : Nat)) ?_ ?_
  ·simp (disch:=first|(simp only [yk,seval];done)|omega|(simp only [yz]<;>omega)|fail) only [↓yp,yq0,yq1,yq2,yq3,yq4,yl,ys0,ys1,seval,zed,zee,zfr,zhw,ysu,yrg,ysv,g20]
   refine ⟨I.fr' hlt (Fr.refl _) (by (with_reducible repeat first|refine Keep.put ?_ (by decide)|refine Keep.none ?_|assumption|exact Keep.refl _ _ _)), ?_⟩
   simp (disch:=first|(simp only [yk,seval];done)|omega|(simp only [yz]<;>omega)|fail) only [yg,seval]
  clear sz g20 g19 I
  rintro e H' ⟨I, g8⟩
  have sz := I.sz
  refine W_seqI (fun e' H'' => ∃ (s : Str) (j : Nat), MI H H'' k a bs cap C m i l ga gc e' ∧ gt 98 e' 8 = .int .i64 (i : Nat) ∧ gt 98 e' 9 = .pointer (some ⟨j, 0, none⟩) ∧ H.size + 1 < j ∧ j < H''.size ∧ H''.get j = .rw s.enc 45 false [] ∧ (0 ≤ s.fr ∧ s.fr < C) ∧ bad2 s = false) (W_end (c49a hlt hL hC8 I) ?_) ?_
  ·rintro e' H'' ⟨s, h1, h2, h3, h4, h5, h6, h7⟩
   exact ⟨rfl, rfl, s, _, h1, h2.trans g8, h3, sz, h4, h5, h6, h7⟩
  clear sz g8 I
  rintro e H' ⟨s, j, I, g8, g9, hj, hjs, hb, hf, h2⟩
  have sz := I.sz
  refine W_seqI (fun e' H'' => ∃ (s : Str), MI H H'' k a bs cap C m i l ga gc e' ∧ gt 98 e' 8 = .int .i64 (i : Nat) ∧ gt 98 e' 9 = .pointer (some ⟨j, 0, none⟩) ∧ j < H''.size ∧ H''.get j = .rw s.enc 45 false [] ∧ OkS C s) (W_end (c49b hlt hL hC8 I g9 hj hjs hb hf h2) ?_) ?_
  ·rintro e' H'' ⟨s, h1, h2, h3, h4, h5, h6⟩
   exact ⟨rfl, rfl, s, h1, h2.trans g8, h3, h4, h5, h6⟩
  clear sz g8 g9 hjs hb hf h2 I s
  rintro e H' ⟨s, I, g8, g9, hjs, hb, ho⟩
  refine W_seqI (fun e' H'' => ∃ (s : Str), MI H H'' k a bs cap C m i l ga gc e' ∧ gt 98 e' 9 = .pointer (some ⟨j, 0, none⟩) ∧ j < H''.size ∧ H''.get j = .rw s.enc 45 false [] ∧ OkS C s) (W_end (c49c hlt hL hC8 I g9 hj hjs hb ho g8 hi20) ?_) ?_
  ·rintro e' H'' ⟨s, h1, h2, h3, h4, h5, h6⟩
   exact ⟨rfl, rfl, s, h1, h3, h4, h5, h6⟩
  clear g8 g9 hjs hb ho I s
  rintro e H' ⟨s, I, g9, hjs, hb, ho⟩
  refine W_seqI (fun e' H'' => ∃ (s : Str), MI H H'' k a bs cap C m i l ga gc e' ∧ gt 98 e' 9 = .pointer (some ⟨j, 0, none⟩) ∧ j < H''.size ∧ H''.get j = .rw s.enc 45 false [] ∧ OkS C s) (W_end (c49d hlt hL hC8 I g9 hj hjs hb ho) ?_) ?_
  ·rintro e' H'' ⟨s, h1, h2, h3, h4, h5, h6⟩
   exact ⟨rfl, rfl, s, h1, h3, h4, h5, h6⟩
  clear g9 hjs hb ho I s
  rintro e H' ⟨s, I, g9, hjs, hb, ho⟩
  refine W_end (c49e h hlt hL I g9 hb ho hi20) ?_
  rintro e' H'' ⟨ga', gc', hI, g20⟩
  have hmi : ∀ e'', Keep 98 [0, 6, 7, 19] e' e'' → gt 98 e'' 20 = .int .i64 ((i + 1 : Nat) : Int) → MI H H'' k a bs cap C m (i + 1) (l ++ [s]) ga' gc' e'' := hI
  have sz : H.size + 1 < H''.size := (hI ((e'.put (some 20) (.int .i64 ((i + 1 : Nat) : Int)))) (by (with_reducible repeat first|refine Keep.put ?_ (by decide)|refine Keep.none ?_|assumption|exact Keep.refl _ _ _)) (by simp (disch:=first|(simp only [yk,seval];done)|omega|(simp only [yz]<;>omega)|fail) only [yg,seval])).sz
  simp (disch:=first|(simp only [yk,seval];done)|omega|(simp only [yz]<;>omega)|fail) only [↓yp,yq0,yq1,yq2,yq3,yq4,yl,ys0,ys1,seval,zed,zee,zfr,zhw,ysu,yrg,ysv,g20,hw2]
  refine ⟨(m - (i + 1 : Nat)).toNat, by omega, i + 1, l ++ [s], ga', gc', rfl, by omega, hmi _ (by (with_reducible repeat first|refine Keep.put ?_ (by decide)|refine Keep.none ?_|assumption|exact Keep.refl _ _ _)) ?_⟩
  simp (disch:=first|(simp only [yk,seval];done)|omega|(simp only [yz]<;>omega)|fail) only [yg,seval]
 ·have hil : (i : Int) = m := by have := of_decide_eq_false hA; omega
  have g7 := I.g7
  have g6 := I.g6
  have b7 := I.b7
  have b6 := I.b6
  simp (disch:=first|(simp only [yk,seval];done)|omega|(simp only [yz]<;>omega)|fail) only [↓yp,yq0,yq1,yq2,yq3,yq4,yl,ys0,ys1,seval,zed,zee,zfr,zhw,ysu,yrg,ysv,g7,g6,b7,b6]
  have hlen := I.len
  refine ⟨ga, gc, C, l, by rw [hlen], p1, by omega, by omega, I.ok, ?_, ?_, ?_, ?_⟩
  ·intro hn
   by_cases h0 : i = 0
   ·have := I.gw.nil h0
    cases this; rfl
   ·obtain ⟨bb, al, hv, _⟩ := I.gw.cons h0
    cases hv
    cases hn
  ·have gs := I.gw
   rw [← hlen] at gs
   exact (gs.ne b6 _).sl22
  ·exact I.chu.other (by omega) (fun c e => by rw [b6] at e; cases e)
  ·exact ⟨by rw [zdf]; exact I.fr.size, fun q h1 h2 => by rw [zdd (by omega)]; exact I.fr.same q h1 h2⟩
end
end Go.Am
