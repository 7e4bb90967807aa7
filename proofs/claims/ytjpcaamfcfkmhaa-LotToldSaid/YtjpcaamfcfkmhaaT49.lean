import Derived.Test.YtjpcaamfcfkmhaaT48
set_option linter.unusedSimpArgs false
set_option linter.unusedVariables false
namespace Go.Am.K
open Go.Proofs
variable {T : Tab} {P : Program} {N L : Nat} {H H' H'' : AHeap} {Q : Bool → Value → AHeap → Prop}
def InB (p : Pk) (n f x : Int) : Prop := 0 ≤ x ∧ f - (p.s - n) ≤ x ∧ x ≤ n ∧ x ≤ f
structure MT (H H' : AHeap) (k : Nat) (a : Option Addr) (bs : List Int) (cap : Nat) (ps : List Pk) (pa : Option Addr) (pc : Nat) (al af : Option Addr) (cl cf : Nat) (l fl : List Int) (i : Nat) (il : List Int) (S : Nat → Prop) (v : Value) (e : VT) : Prop where
 g15 : gt 49 e 15 = .int .i64 (i : Nat)
 g14 : gt 49 e 14 = .int .i64 ps.length
 g13 : gt 49 e 13 = .slice pa ps.length pc
 g9 : gt 49 e 9 = v
 g3 : gt 49 e 3 = .slice af fl.length cf
 g2 : gt 49 e 2 = .slice al l.length cl
 g0 : gt 49 e 0 = .pointer (some ⟨k, 0, none⟩)
 chu : Chu H' k a bs cap
 fr : FrX k H H'
 sz : H.size < H'.size
 r : Gw H' H.size S v i (intE.fl il) 3 1
 len : il.length = i
 ok : ∀ (j : Nat) (p : Pk) (n f x : Int), ps[j]? = some p → l[j]? = some n → fl[j]? = some f → il[j]? = some x → InB p n f x
section
variable {k cap pc cap' cl cf : Nat} {a pa pa' al af : Option Addr} {bs l fl : List Int} {ps : List Pk} {lots : Value}
set_option maxHeartbeats 4000000 in
theorem c44 (h : Chu H k a bs cap) (hs : Rx k pkE H pa ps) (h1 : 1 ≤ ps.length) (h4 : ps.length ≤ 4) (hk : ∀ p ∈ ps, 0 ≤ p.s ∧ p.s ≤ 6) (hl : Rx k intE H al l) (hlo : LotOk ps l) (hf : Rx k intE H af fl) (hfl : fl.length = ps.length) (hfo : ∀ (j : Nat) (p : Pk) (f : Int), ps[j]? = some p → fl[j]? = some f → 0 ≤ f ∧ f ≤ p.s) (hL : L ≤ k) {n' : Nat} {M : Nat} (hM : 1000 ≤ M)
  (hq : ∀ b c il H', il.length = ps.length → (∀ (j : Nat) (p : Pk) (n f x : Int), ps[j]? = some p → l[j]? = some n → fl[j]? = some f → il[j]? = some x → InB p n f x) → Rx k intE H' (some ⟨b, 0, none⟩) il → Chu H' k a bs cap → FrX k H H' → Q false (.slice (some ⟨b, 0, none⟩) il.length c) H') :
  resK (acall tabA (aexec tabA Try.prog M) 44 [.pointer (some ⟨k, 0, none⟩), .agg ⟨[.slice pa ps.length pc, .slice pa' n' cap', lots]⟩, .slice al l.length cl, .slice af fl.length cf] H) L Q := by
 obtain ⟨N, rfl⟩ : ∃ N, M = N + 1000 := ⟨M - 1000, by omega⟩
 have hlt := h.lt
 have hll := hlo.len
 refine call_keep tabA_fr (k := 49) (rs := [.tmp 8]) (R := fun v H' => ∃ b c il, v = .slice (some ⟨b, 0, none⟩) il.length c ∧ il.length = ps.length ∧ (∀ (j : Nat) (p : Pk) (n f x : Int), ps[j]? = some p → l[j]? = some n → fl[j]? = some f → il[j]? = some x → InB p n f x) ∧ Rx k intE H' (some ⟨b, 0, none⟩) il ∧ Chu H' k a bs cap ∧ FrX k H H') rfl fn_44 rfl rfl rfl (by omega) ?_ ?_ ?_
 rotate_left
 ·rintro v H' ⟨b, c, il, rfl, h1, h2, h3, h4, h5⟩
  exact hq _ _ _ _ h1 h2 h3 h4 h5
 ·rintro v H' ⟨b, c, l, rfl, -⟩ hg _; cases hg
 simp (disch:=first|(simp only [yk,seval];done)|omega|(simp only [yz]<;>omega)|fail) only [↓yp,yq0,yq1,yq2,yq3,yq4,yl,ys0,ys1,seval,fitB,newC,endD,endR,yrg,lenV_slice st_esS_22]
 refine W_while (n := 49) 500 (fun q e' H' => ∃ (i : Nat) (il : List Int) (S : Nat → Prop) (v : Value), q = ps.length - i ∧ i ≤ ps.length ∧ MT H H' k a bs cap ps pa pc al af cl cf l fl i il S v e')
  ?_ 4 ps.length ⟨0, [], fun _ => False, .slice none 0 0, by omega, by omega, ?_⟩ (by omega) (by omega)
 rotate_left
 ·refine ⟨?_, ?_, ?_, ?_, ?_, ?_, ?_, h.fr (by repeat first|exact Fr.refl _|assumption|refine Fr.allocd ?_ _|refine Fr.put ?_ (by first|omega|(simp only [yz]<;>omega)) _), FrX.of (by repeat first|exact Fr.refl _|assumption|refine Fr.allocd ?_ _|refine Fr.put ?_ (by first|omega|(simp only [yz]<;>omega)) _), by (first | omega | (simp only [yz] <;> omega)), Gw.none, rfl, fun _ _ _ _ _ _ _ _ h => by simp at h⟩
  ·simp (disch:=first|(simp only [yk,seval];done)|omega|(simp only [yz]<;>omega)|fail) only [yg,seval] <;> rfl
  ·simp (disch:=first|(simp only [yk,seval];done)|omega|(simp only [yz]<;>omega)|fail) only [yg,seval]
  ·simp (disch:=first|(simp only [yk,seval];done)|omega|(simp only [yz]<;>omega)|fail) only [yg,seval]
  ·simp (disch:=first|(simp only [yk,seval];done)|omega|(simp only [yz]<;>omega)|fail) only [yg,seval]
  ·simp (disch:=first|(simp only [yk,seval];done)|omega|(simp only [yz]<;>omega)|fail) only [yg,seval]
  ·simp (disch:=first|(simp only [yk,seval];done)|omega|(simp only [yz]<;>omega)|fail) only [yg,seval]
  ·simp (disch:=first|(simp only [yk,seval];done)|omega|(simp only [yz]<;>omega)|fail) only [yg,seval]
 rintro M1 q e H' ⟨i, il, S, v, rfl, hi, I⟩
 have sz := I.sz
 have g15 := I.g15
 have g14 := I.g14
 have g13 := I.g13
 have g9 := I.g9
 have g3 := I.g3
 have g2 := I.g2
 have g0 := I.g0
 have f0 := I.fr.size
 simp (disch:=first|(simp only [yk,seval];done)|omega|(simp only [yz]<;>omega)|fail) only [↓yp,yq0,yq1,yq2,yq3,yq4,yl,ys0,ys1,seval,fitB,newC,endD,endR,yrg,g15,g14]
 refine ⟨fun hA => ?_, fun hA => ?_⟩
 ·have hi' : i < ps.length := by simpa using hA
  have hl1 : i < l.length := by omega
  have hl2 : i < fl.length := by omega
  obtain ⟨p, hp⟩ : ∃ p, ps[i]? = some p := ⟨ps[i], by simp [hi']⟩
  obtain ⟨n, hn⟩ : ∃ n, l[i]? = some n := ⟨l[i], by simp [hl1]⟩
  obtain ⟨f, hff⟩ : ∃ f, fl[i]? = some f := ⟨fl[i], by simp [hl2]⟩
  have hps := hk p (List.mem_of_getElem? hp)
  have hno := hlo.ok i n p hn hp
  have hfp := hfo i p f hp hff
  obtain ⟨b, o, c, rfl, hb, hc, hq0⟩ := (hs.frx I.fr).rw.at_ hp
  have q0 : part c (o + i * 4) 5 = some (.agg ⟨p.enc⟩) := part_of hq0 rfl
  obtain ⟨b1, o1, c1, rfl, hb1, hc1, hq1⟩ := (hl.frx I.fr).rw.at_ hn
  have q1 := cell_of hq1
  obtain ⟨b2, o2, c2, rfl, hb2, hc2, hq2⟩ := (hf.frx I.fr).rw.at_ hff
  have q2 := cell_of hq2
  rw [show i * intE.z = i * 1 from rfl, Nat.mul_one] at q1 q2
  simp only [Pk.enc] at q0
  have hw2 : w64 ((i : Int) + 1) = ((i + 1 : Nat) : Int) := by rw [w64_of (by omega)]; omega
  have w1 : w64 (p.s - n) = p.s - n := w64_of (by omega)
  have w2 : w64 (f - (p.s - n)) = f - (p.s - n) := w64_of (by omega)
  obtain ⟨lo, hlo'⟩ : ∃ lo, (if f - (p.s - n) > 0 then f - (p.s - n) else 0) = lo := ⟨_, rfl⟩
  obtain ⟨hh, hhh⟩ : ∃ hh, (if f < n then f else n) = hh := ⟨_, rfl⟩
  have hlh : 0 ≤ lo ∧ f - (p.s - n) ≤ lo ∧ hh ≤ n ∧ hh ≤ f ∧ lo ≤ hh ∧ hh ≤ 6 := by
   rw [← hlo', ← hhh]; split <;> split <;> omega
  have hck : Chu ((H'.alloc (.rw [.int .i64 0, .int .i64 0, .int .i64 0, .int .i64 0] 87 false [])).put H'.size (.rw p.enc 87 false [])) k a bs cap := (I.chu.fr (Fr.alloc _ _)).other (by omega) (fun c e => by rw [get_alloc_eq rfl] at e; cases e)
  obtain ⟨fg, v1, H1, mm, hres, hLm, x, rfl, hx1, hx2, hff', hcu, hxx, hss⟩ := resK_elim (Q := fun f v H'' => ∃ d : Int, v = .int .i64 d ∧ lo ≤ d ∧ d ≤ hh ∧ (f = true → H'' = ((H'.alloc (.rw [.int .i64 0, .int .i64 0, .int .i64 0, .int .i64 0] 87 false [])).put H'.size (.rw p.enc 87 false []))) ∧ Chu H'' k a bs cap ∧ FrX k ((H'.alloc (.rw [.int .i64 0, .int .i64 0, .int .i64 0, .int .i64 0] 87 false [])).put H'.size (.rw p.enc 87 false [])) H'' ∧ H''.size = ((H'.alloc (.rw [.int .i64 0, .int .i64 0, .int .i64 0, .int .i64 0] 87 false [])).put H'.size (.rw p.enc 87 false [])).size)
   (c51 (M := M1 + 494) (lo := lo) (hi := hh) hck hL (by omega) (by omega) fun f v H'' h0 h1 h2 h3 h4 h5 => ⟨v, rfl, h1, h2, h0, h3, h4, h5⟩)
  simp only [size_put,size_alloc] at hss
  simp only [Pk.enc] at hres
  have x1 : FrX k H' H1 := ⟨by omega, fun q h1 h2 => by rw [hxx.same q (by first|omega|(simp only [yz]<;>omega)) h2, get_put_ne (by omega), get_alloc_lt h1]⟩
  have r1 := I.r.frx (fun h => by have := (I.r.own _ h).1; omega) x1
  -- what is left to say, whatever the call was
  have fin : ∀ (e' : VT) (H2 : AHeap) (a2 : Option Addr) (c2 : Nat), H1.size + 1 < H2.size → (∀ j, j < H1.size + 1 → ¬ S j → H2.get j = (H1.alloc (.rw [.int .i64 x] 3 false [])).get j) → Gw H2 H.size (fun j => S j ∨ j = H1.size + 1) (.slice a2 (i + 1) c2) (i + 1) (intE.fl il ++ [.int .i64 x]) 3 1 → Keep 49 [0, 2, 3, 13, 14] e e' → gt 49 e' 15 = .int .i64 ((i + 1 : Nat) : Int) → gt 49 e' 9 = .slice a2 (i + 1) c2 →
    nextK (fun q e' H' => ∃ (i : Nat) (il : List Int) (S : Nat → Prop) (v : Value), q = ps.length - i ∧ i ≤ ps.length ∧ MT H H' k a bs cap ps (some ⟨b, o, none⟩) pc (some ⟨b1, o1, none⟩) (some ⟨b2, o2, none⟩) cl cf l fl i il S v e') (ps.length - i) e' H2 := by
   intro e' H2 a2 c2 hs2 fs2 gw kp k15 k9
   have x2 : FrX k H H2 := ⟨by omega, fun q h1 h2 => by
    rw [fs2 q (by omega) (fun h => by have := (I.r.own _ h).1; omega), get_alloc_lt (by omega), x1.same q (by omega) h2, I.fr.same q h1 h2]⟩
   have cu : Chu H2 k a bs cap := h.again x2 (by
    rw [fs2 k (by omega) (fun h => by have := (I.r.own _ h).1; omega), get_alloc_lt (by omega)]
    exact hcu.blk)
   refine ⟨ps.length - (i + 1), by omega, i + 1, il ++ [x], fun j => S j ∨ j = H1.size + 1, .slice a2 (i + 1) c2, rfl, by omega, k15, (kp 14 (by decide)).trans g14, (kp 13 (by decide)).trans g13, k9, (kp 3 (by decide)).trans g3, (kp 2 (by decide)).trans g2, (kp 0 (by decide)).trans g0, cu, x2, by omega, ?_, ?_, ?_⟩
   ·rw [fl_app]
    have : intE.fl [x] = [.int .i64 x] := rfl
    rw [this]
    exact gw
   ·rw [List.length_append, I.len]; rfl
   ·intro j p' n' f' x' e1 e2 e3 e4
    have hl := I.len
    by_cases hj : j < i
    ·rw [List.getElem?_append_left (by omega)] at e4
     exact I.ok j p' n' f' x' e1 e2 e3 e4
    ·have e5 := (List.getElem?_eq_some_iff.1 e4).1
     rw [List.length_append, hl] at e5
     simp only [List.length_cons,List.length_nil] at e5
     have : j = i := by omega
     subst this
     rw [List.getElem?_append_right (by omega), hl, Nat.sub_self] at e4
     simp only [List.getElem?_cons_zero,Option.some.injEq] at e4
     rw [hp] at e1
     rw [hn] at e2
     rw [hff] at e3
     cases e1
     cases e2
     cases e3
     subst e4
     unfold InB
     omega
  simp (disch:=first|(simp only [yk,seval];done)|omega|(simp only [yz]<;>omega)|fail) only [↓yp,yq0,yq1,yq2,yq3,yq4,yl,ys0,ys1,seval,fitB,newC,endD,endR,yrg,g15,g13,A_indexSlice st_esS_22,hc,q0]
  have sv := I.r.sv (n := 5)
  cases fg
  ·refine W_drawR (pl := []) [24, 25, 26] [(5, 1), (5, 2), (5, 3), (7, 1), (7, 2), (7, 3), (11, 1), (11, 2), (11, 3), (18, 1), (18, 2), (18, 3), (22, 1), (22, 2), (22, 3)] (planK_of rfl) (by kernel_rfl) (by kernel_rfl) (by kernel_rfl) (by first|omega|(simp only [yz]<;>omega)) ?_
   simp (disch:=first|(simp only [yk,seval];done)|omega|(simp only [yz]<;>omega)|fail) only [↓yp,yq0,yq1,yq2,yq3,yq4,yl,ys0,ys1,seval,fitB,newC,endD,endR,yrg,g15,g9,g3,g2,g0,A_indexSlice st_esS_49,hc1,hc2,q1,q2,w1,w2,A_max,mm_max,hlo',A_min,mm_min,hhh,hres,A_buildSlice st_brS_49_1]
   refine gw_append (i := i) (cs := intE.fl il) (news := [.int .i64 x]) st_apS_49 (r1.fr (by repeat first|exact Fr.refl _|assumption|refine Fr.allocd ?_ _|refine Fr.put ?_ (by first|omega|(simp only [yz]<;>omega)) _)) (by first|omega|(simp only [yz]<;>omega)) (by rw [fl_length, I.len]; rfl) (by unfold srcCells; simp (disch:=first|(simp only [yk,seval];done)|omega|(simp only [yz]<;>omega)|fail) only [yg,seval] <;> rfl) (by omega) (by omega) rfl (by omega) ?_
   intro a2 c2 H2 hs2 fs2 gw
   simp only [size_alloc] at hs2 fs2 gw
   simp (disch:=first|(simp only [yk,seval];done)|omega|(simp only [yz]<;>omega)|fail) only [↓yp,yq0,yq1,yq2,yq3,yq4,yl,ys0,ys1,seval,fitB,newC,endD,endR,yrg,g15,g9,g3,g2,g0,hc1,hc2,q1,q2,w1,w2,A_indexSlice st_esS_49,A_max,mm_max,hlo',A_min,mm_min,hhh,hw2,sv]
   refine fin _ _ a2 c2 hs2 fs2 gw (by (with_reducible repeat first|refine Keep.put ?_ (by decide)|refine Keep.none ?_|assumption|exact Keep.refl _ _ _)) ?_ ?_
   ·simp (disch:=first|(simp only [yk,seval];done)|omega|(simp only [yz]<;>omega)|fail) only [yg,seval]
   ·simp (disch:=first|(simp only [yk,seval];done)|omega|(simp only [yz]<;>omega)|fail) only [yg,seval]
  ·have hH1 := hff' rfl
   simp only [Pk.enc] at hH1
   rw [← hH1] at hres ⊢
   refine W_drawR (pl := []) [25, 26] [(24, 1), (24, 2), (5, 1), (5, 2), (7, 1), (7, 2), (11, 1), (11, 2), (18, 1), (18, 2), (22, 1), (22, 2)] (planK_of rfl) (by kernel_rfl) (by kernel_rfl) (by kernel_rfl) (by omega) ?_
   have hc1' : cellsOf (H1.get b1) = some c1 := by
    rw [hH1, get_put_ne (by omega), get_alloc_lt hb1]; exact hc1
   have hc2' : cellsOf (H1.get b2) = some c2 := by
    rw [hH1, get_put_ne (by omega), get_alloc_lt hb2]; exact hc2
   have hb3 : H1.get H'.size = .rw [.int .i64 p.s, .int .i64 p.w, .int .i64 p.o, .int .i64 p.f] 87 false [] := by
    rw [hH1]; exact get_put_same (by first|omega|(simp only [yz]<;>omega))
   simp (disch:=first|(simp only [yk,seval];done)|omega|(simp only [yz]<;>omega)|fail) only [↓yp,yq0,yq1,yq2,yq3,yq4,yl,ys0,ys1,seval,fitB,newC,endD,endR,yrg,g15,g9,g3,g2,g0,A_indexSlice st_esS_49,hc1',hc2',hb3,q1,q2,w1,w2,A_max,mm_max,hlo',A_min,mm_min,hhh,hres,A_buildSlice st_brS_49_1]
   refine gw_append (i := i) (cs := intE.fl il) (news := [.int .i64 x]) st_apS_49 (r1.fr (by repeat first|exact Fr.refl _|assumption|refine Fr.allocd ?_ _|refine Fr.put ?_ (by first|omega|(simp only [yz]<;>omega)) _)) (by first|omega|(simp only [yz]<;>omega)) (by rw [fl_length, I.len]; rfl) (by unfold srcCells; simp (disch:=first|(simp only [yk,seval];done)|omega|(simp only [yz]<;>omega)|fail) only [yg,seval] <;> rfl) (by omega) (by omega) rfl (by omega) ?_
   intro a2 c2 H2 hs2 fs2 gw
   simp only [size_alloc] at hs2 fs2 gw
   simp (disch:=first|(simp only [yk,seval];done)|omega|(simp only [yz]<;>omega)|fail) only [↓yp,yq0,yq1,yq2,yq3,yq4,yl,ys0,ys1,seval,fitB,newC,endD,endR,yrg,g15,g9,g3,g2,g0,hc1',hc2',hb3,q1,q2,w1,w2,A_indexSlice st_esS_49,A_max,mm_max,hlo',A_min,mm_min,hhh,hw2,sv,hres]
   refine fin _ _ a2 c2 hs2 fs2 gw (by (with_reducible repeat first|refine Keep.put ?_ (by decide)|refine Keep.none ?_|assumption|exact Keep.refl _ _ _)) ?_ ?_
   ·simp (disch:=first|(simp only [yk,seval];done)|omega|(simp only [yz]<;>omega)|fail) only [yg,seval]
   ·simp (disch:=first|(simp only [yk,seval];done)|omega|(simp only [yz]<;>omega)|fail) only [yg,seval]
 ·have hi' : i = ps.length := by have := of_decide_eq_false hA; omega
  obtain ⟨b, al, rfl, s1, k1, -⟩ := I.r.cons (by omega)
  simp (disch:=first|(simp only [yk,seval];done)|omega|(simp only [yz]<;>omega)|fail) only [↓yp,yq0,yq1,yq2,yq3,yq4,yl,ys0,ys1,seval,fitB,newC,endD,endR,yrg,g9]
  refine ⟨b, OPEN + 1, il, by rw [I.len], by rw [I.len]; exact hi', I.ok, ?_, I.chu, I.fr⟩
  have := I.r
  rw [← I.len] at this
  exact this.rx (fun h => by have := (I.r.own _ h).1; omega)
end
end Go.Am.K
namespace Go.Am.K
open Go.Proofs
variable {T : Tab} {P : Program} {N L : Nat} {H H' H'' : AHeap} {Q : Bool → Value → AHeap → Prop}
theorem binV_nil_some {ty : TypeId} {x y : Operand} {l c z : Nat} {a : Addr} (h : esS T ty = some z) : binV T P .eql ty x y (.slice (some a) l c) (.slice none 0 0) = some (.bool false) := by
 unfold esS at h
 unfold binV nilV
 rw [show gr (.slice (some a) l c) = false from rfl]
 simp only [Bool.false_and,cond_false]
 cases hu : T.und ty with
 | none => rw [hu] at h; cases h
 | some d => cases d <;> first | rfl | (rw [hu] at h; cases h)
section
variable {a a' : Option Addr} {cap cap' : Nat} {ps : List Pk} {gs : List Gd} {lots : Int}
theorem c127 (hs : Rw pkE H a ps) (hne : ps ≠ []) (hl : ps.length ≤ 65) (hL : L ≤ H.size) {M : Nat} (hM : 60 ≤ M)
  (hq : ∀ k cap' H', Fr H H' → H.size ≤ k → k < H'.size → H'.get k = .rw (pkE.fl ps) 87 true [] → Q false (.slice (some ⟨k, 0, none⟩) ps.length cap') H') : resK (acall tabA (aexec tabA Try.prog M) 127 [.slice a ps.length cap] H) L Q := by
 obtain ⟨N, rfl⟩ : ∃ N, M = N + 60 := ⟨M - 60, by omega⟩
 obtain ⟨b, o, c, rfl, -⟩ := hs.get hne
 refine call_fls (R := fun v H' => ∃ k cap', v = .slice (some ⟨k, 0, none⟩) ps.length cap' ∧ Fr H H' ∧ H.size ≤ k ∧ k < H'.size ∧ H'.get k = .rw (pkE.fl ps) 87 true []) (k := 8) (rs := [.tmp 2]) rfl fn_127 rfl rfl rfl hL ?_ ?_ ?_
 ·have hpos : 0 < ps.length := List.length_pos_iff.2 hne
  simp (disch:=first|(simp only [yk,seval];done)|omega|(simp only [yz]<;>omega)|fail) only [↓yp,yq0,yq1,yq2,yq3,yq4,yl,ys0,ys1,seval,fitB,newC,endD,endR,yrg,binV_nil_some st_esS_22,A_buildSlice st_brS_22_0]
  rw [apK_empty (H := _) (n := ps.length) st_apS_22 ((hs.fr (Fr.alloc _ _)).src hne) hpos (by omega) (by omega) (one_fl ps) (c₀ := []) (by simp (disch:=first|(simp only [yk,seval];done)|omega|(simp only [yz]<;>omega)|fail) only [yg,seval])]
  simp (disch:=first|(simp only [yk,seval];done)|omega|(simp only [yz]<;>omega)|fail) only [↓yp,yq0,yq1,yq2,yq3,yq4,yl,ys0,ys1,seval,fitB,newC,endD,endR,yrg]
  exact ⟨_, _, rfl, by (repeat (first | exact Fr.refl _ | assumption | refine Fr.allocd ?_ _ | refine Fr.put ?_ (by first | omega | (simp only [yz] <;> omega)) _)), by (first | omega | (simp only [yz] <;> omega)), by (first | omega | (simp only [yz] <;> omega)), by simp (disch:=first|(simp only [yk,seval];done)|omega|(simp only [yz]<;>omega)|fail) only [yg,seval]⟩
 ·rintro v H' ⟨k, cap', rfl, -⟩; rfl
 ·rintro v H' ⟨k, cap', rfl, h1, h2, h3, h4⟩
  exact hq _ _ _ h1 h2 h3 h4
theorem c128 (hs : Rw gdE H a gs) (hne : gs ≠ []) (hl : gs.length ≤ 65) (hL : L ≤ H.size) {M : Nat} (hM : 60 ≤ M)
  (hq : ∀ k cap' H', Fr H H' → H.size ≤ k → k < H'.size → H'.get k = .rw (gdE.fl gs) 77 true [] → Q false (.slice (some ⟨k, 0, none⟩) gs.length cap') H') : resK (acall tabA (aexec tabA Try.prog M) 128 [.slice a gs.length cap] H) L Q := by
 obtain ⟨N, rfl⟩ : ∃ N, M = N + 60 := ⟨M - 60, by omega⟩
 obtain ⟨b, o, c, rfl, -⟩ := hs.get hne
 refine call_fls (R := fun v H' => ∃ k cap', v = .slice (some ⟨k, 0, none⟩) gs.length cap' ∧ Fr H H' ∧ H.size ≤ k ∧ k < H'.size ∧ H'.get k = .rw (gdE.fl gs) 77 true []) (k := 8) (rs := [.tmp 2]) rfl fn_128 rfl rfl rfl hL ?_ ?_ ?_
 ·have hpos : 0 < gs.length := List.length_pos_iff.2 hne
  simp (disch:=first|(simp only [yk,seval];done)|omega|(simp only [yz]<;>omega)|fail) only [↓yp,yq0,yq1,yq2,yq3,yq4,yl,ys0,ys1,seval,fitB,newC,endD,endR,yrg,binV_nil_some st_esS_23,A_buildSlice st_brS_23_0]
  rw [apK_empty (H := _) (n := gs.length) st_apS_23 ((hs.fr (Fr.alloc _ _)).src hne) hpos (by omega) (by omega) (one_fl gs) (c₀ := []) (by simp (disch:=first|(simp only [yk,seval];done)|omega|(simp only [yz]<;>omega)|fail) only [yg,seval])]
  simp (disch:=first|(simp only [yk,seval];done)|omega|(simp only [yz]<;>omega)|fail) only [↓yp,yq0,yq1,yq2,yq3,yq4,yl,ys0,ys1,seval,fitB,newC,endD,endR,yrg]
  exact ⟨_, _, rfl, by (repeat (first | exact Fr.refl _ | assumption | refine Fr.allocd ?_ _ | refine Fr.put ?_ (by first | omega | (simp only [yz] <;> omega)) _)), by (first | omega | (simp only [yz] <;> omega)), by (first | omega | (simp only [yz] <;> omega)), by simp (disch:=first|(simp only [yk,seval];done)|omega|(simp only [yz]<;>omega)|fail) only [yg,seval]⟩
 ·rintro v H' ⟨k, cap', rfl, -⟩; rfl
 ·rintro v H' ⟨k, cap', rfl, h1, h2, h3, h4⟩
  exact hq _ _ _ h1 h2 h3 h4
theorem Rw.put' {α : Type} {E : Enc α} {b j : Nat} {l : List α} {blk : ABlk} (h : Rw E H (some ⟨b, 0, none⟩) l) (hne : j ≠ b) : Rw E (H.put j blk) (some ⟨b, 0, none⟩) l := ⟨fun hl => by
 obtain ⟨b', o, c, e1, h2, h3, h4⟩ := h.get hl
 cases e1
 exact ⟨b, 0, c, rfl, by rw [size_put]; exact h2, by rw [get_put_ne (Ne.symm hne)]; exact h3, h4⟩⟩
def kn (p : Pk) (n : Int) : Pk := ⟨p.s, p.s, p.s, n⟩
theorem c129 {p : Pk} {n : Int} : acall tabA (aexec tabA Try.prog (N + 30)) 129 [.agg ⟨p.enc⟩, .int .i64 n] H = some (true, .agg ⟨(kn p n).enc⟩, H, H.size) := by
 refine call_quiet (k := 13) (rs := [.cell 4 87]) rfl fn_129 rfl rfl rfl ?_ rfl
 simp (disch:=first|(simp only [yk,seval];done)|omega|(simp only [yz]<;>omega)|fail) only [↓yp,yq0,yq1,yq2,yq3,yq4,yl,ys0,ys1,seval,fitB,newC,endD,endR,yrg,Pk.enc,kn,A_build st_bdS_87]
set_option maxHeartbeats 2000000 in
theorem c114 {i : Nat} {p : Pk} (hs : Rw pkE H a ps) (hg : Rw gdE H a' gs) (hp1 : ps ≠ []) (hg1 : gs ≠ []) (hp4 : ps.length ≤ 6) (hg4 : gs.length ≤ 6) (hi : i < ps.length) (hL : L ≤ H.size) {M : Nat} (hM : 200 ≤ M)
  (hq : ∀ k c k' c' H', Fr H H' → H.size ≤ k → H.size ≤ k' → Rw pkE H' (some ⟨k, 0, none⟩) (ps.set i p) → Rw gdE H' (some ⟨k', 0, none⟩) gs → Q false (.agg ⟨[.slice (some ⟨k, 0, none⟩) ps.length c, .slice (some ⟨k', 0, none⟩) gs.length c', .int .i64 lots]⟩) H') :
  resK (acall tabA (aexec tabA Try.prog M) 114 [.agg ⟨[.slice a ps.length cap, .slice a' gs.length cap', .int .i64 lots]⟩, .int .i64 (i : Nat), .agg ⟨p.enc⟩] H) L Q := by
 obtain ⟨N, rfl⟩ : ∃ N, M = N + 200 := ⟨M - 200, by omega⟩
 refine call_fls (R := fun v H' => ∃ k c k' c', v = .agg ⟨[.slice (some ⟨k, 0, none⟩) ps.length c, .slice (some ⟨k', 0, none⟩) gs.length c', .int .i64 lots]⟩ ∧ Fr H H' ∧ H.size ≤ k ∧ H.size ≤ k' ∧ Rw pkE H' (some ⟨k, 0, none⟩) (ps.set i p) ∧ Rw gdE H' (some ⟨k', 0, none⟩) gs) (k := 21) (rs := [.cell 6 25]) rfl fn_114 rfl rfl rfl hL ?_ ?_ ?_
 rotate_left
 ·rintro v H' ⟨k, c, k', c', rfl, -⟩; rfl
 ·rintro v H' ⟨k, c, k', c', rfl, h1, h2, h3, h4, h5⟩
  exact hq _ _ _ _ _ h1 h2 h3 h4 h5
 have fr0 : Fr H (((H.alloc (.rw [.slice a ps.length cap, .slice a' gs.length cap', .int .i64 lots] 25 false [])).alloc (.rw p.enc 87 false [])).alloc (.rw [.slice none 0 0, .slice none 0 0, .int .i64 0] 25 false [])) := by (repeat (first | exact Fr.refl _ | assumption | refine Fr.allocd ?_ _ | refine Fr.put ?_ (by first | omega | (simp only [yz] <;> omega)) _))
 simp only [Pk.enc] at fr0
 simp (disch:=first|(simp only [yk,seval];done)|omega|(simp only [yz]<;>omega)|fail) only [↓yp,yq0,yq1,yq2,yq3,yq4,yl,ys0,ys1,seval,fitB,newC,endD,endR,yrg,Pk.enc]
 refine W_drawR (pl := []) [2, 5, 7, 9] [(1, 1), (1, 2), (1, 3), (1, 4), (4, 2), (4, 3), (4, 4)] (planK_of rfl) (by kernel_rfl) (by kernel_rfl) (by kernel_rfl) (by first|omega|(simp only [yz]<;>omega)) ?_
 simp (disch:=first|(simp only [yk,seval];done)|omega|(simp only [yz]<;>omega)|fail) only [↓yp,yq0,yq1,yq2,yq3,yq4,yl,ys0,ys1,seval,fitB,newC,endD,endR,yrg]
 refine c127 (hs.fr fr0) hp1 (by omega) (by first|omega|(simp only [yz]<;>omega)) (by omega) ?_
 intro k cc H1 fr1 k1 k2 k3
 have f1 := fr1.size
 have s1 := fr1.same
 simp only [size_alloc] at f1 s1 k1
 simp (disch:=first|(simp only [yk,seval];done)|omega|(simp only [yz]<;>omega)|fail) only [↓yp,yq0,yq1,yq2,yq3,yq4,yl,ys0,ys1,seval,fitB,newC,endD,endR,yrg,s1]
 refine c128 (hg.fr (fr0.trans fr1)) hg1 (by omega) (by first|omega|(simp only [yz]<;>omega)) (by omega) ?_
 intro k' cc' H2 fr2 k1' k2' k3'
 have f2 := fr2.size
 have s2 := fr2.same
 have hH1 : k < H2.size := by omega
 have k32 : H2.get k = .rw (pkE.fl ps) 87 true [] := (s2 k k2).trans k3
 have hset : newC (i * 4) p.enc (pkE.fl ps) = pkE.fl (ps.set i p) := newC_fl (E := pkE) hi
 have hfit : decide (i * 4 + 4 ≤ (pkE.fl ps).length) = true := by
  rw [fl_length]
  simp only [decide_eq_true_eq]
  show i * 4 + 4 ≤ ps.length * 4
  omega
 simp only [Pk.enc] at hset
 simp (disch:=first|(simp only [yk,seval];done)|omega|(simp only [yz]<;>omega)|fail) only [↓yp,yq0,yq1,yq2,yq3,yq4,yl,ys0,ys1,seval,fitB,newC,endD,endR,yrg,s2,s1]
 simp (disch:=first|(simp only [yk,seval];done)|omega|(simp only [yz]<;>omega)|fail) only [↓yp,yq0,yq1,yq2,yq3,yq4,yl,ys0,ys1,seval,fitB,newC,endD,endR,yrg,s2,s1,A_indexSlice st_esS_22,k3,hset,hfit]
 refine ⟨k, cc, k', cc', rfl, ?_, by omega, by omega, ?_, ?_⟩
 ·have h12 : Fr H H2 := (fr0.trans fr1).trans fr2
  exact Fr.put (Fr.put (Fr.put (Fr.put h12 (by omega) _) (by omega) _) (by omega) _) (by omega) _
 ·refine Rw.of (r := []) (c := pkE.fl (ps.set i p)) (by first|omega|(simp only [yz]<;>omega)) ?_ (by rw [List.append_nil])
  rw [get_put_ne (by omega), get_put_same (by first|omega|(simp only [yz]<;>omega)), ← hset]
  rfl
 ·refine (Rw.of (r := []) (c := gdE.fl gs) (by first|omega|(simp only [yz]<;>omega)) ?_ (by rw [List.append_nil]))
  rw [get_put_ne (by omega), get_put_ne (by omega), get_put_ne (by omega), get_put_ne (by omega), k3']
  rfl
end
end Go.Am.K
