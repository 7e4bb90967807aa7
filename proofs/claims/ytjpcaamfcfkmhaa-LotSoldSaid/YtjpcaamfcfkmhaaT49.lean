import Derived.Test.YtjpcaamfcfkmhaaT48
set_option linter.unusedSimpArgs false
set_option linter.unusedVariables false
namespace Go.Am.K
open Go.Proofs
variable {T : Tab} {P : Program} {N L : Nat} {H H' H'' : AHeap} {Q : Bool → Value → AHeap → Prop}
def InB (p : Pk) (n f x : Int) : Prop := 0 ≤ x ∧ f - (p.s - n) ≤ x ∧ x ≤ n ∧ x ≤ f
structure MT (H H' : AHeap) (k : Nat) (a : Option Addr) (bs : List Int) (cap : Nat) (ps : List Pk) (pa : Option Addr) (pc : Nat) (al af : Option Addr) (cl cf : Nat) (l fl : List Int) (i : Nat) (il : List Int) (S : Nat → Prop) (v : Value) (e : VT) : Prop where
 g15 : gt 49 e 15 = .int .i64 (i : Nat)
 g14 : gt 49 e 14 = .int .i64 ps.length
 g13 : gt 49 e 13 = .slice pa ps.length pc
 g9 : gt 49 e 9 = v
 g3 : gt 49 e 3 = .slice af fl.length cf
 g2 : gt 49 e 2 = .slice al l.length cl
 g0 : gt 49 e 0 = .pointer (some ⟨k, 0, none⟩)
 chu : Chu H' k a bs cap
 fr : FrX k H H'
 sz : H.size < H'.size
 r : Gw H' H.size S v i (intE.fl il) 3 1
 len : il.length = i
 ok : ∀ (j : Nat) (p : Pk) (n f x : Int), ps[j]? = some p → l[j]? = some n → fl[j]? = some f → il[j]? = some x → InB p n f x
section
variable {k cap pc cap' cl cf : Nat} {a pa pa' al af : Option Addr} {bs l fl : List Int} {ps : List Pk} {lots : Value}
set_option maxHeartbeats 4000000 in
theorem c44 (h : Chu H k a bs cap) (hs : Rx k pkE H pa ps) (h1 : 1 ≤ ps.length) (h4 : ps.length ≤ 4) (hk : ∀ p ∈ ps, 0 ≤ p.s ∧ p.s ≤ 6) (hl : Rx k intE H al l) (hlo : LotOk ps l) (hf : Rx k intE H af fl) (hfl : fl.length = ps.length) (hfo : ∀ (j : Nat) (p : Pk) (f : Int), ps[j]? = some p → fl[j]? = some f → 0 ≤ f ∧ f ≤ p.s) (hL : L ≤ k) {n' : Nat} {M : Nat} (hM : 1000 ≤ M)
  (hq : ∀ b c il H', il.length = ps.length → (∀ (j : Nat) (p : Pk) (n f x : Int), ps[j]? = some p → l[j]? = some n → fl[j]? = some f → il[j]? = some x → InB p n f x) → Rx k intE H' (some ⟨b, 0, none⟩) il → Chu H' k a bs cap → FrX k H H' → Q false (.slice (some ⟨b, 0, none⟩) il.length c) H') :
  resK (acall tabA (aexec tabA Try.prog M) 44 [.pointer (some ⟨k, 0, none⟩), .agg ⟨[.slice pa ps.length pc, .slice pa' n' cap', lots]⟩, .slice al l.length cl, .slice af fl.length cf] H) L Q := by
 obtain ⟨N, rfl⟩ : ∃ N, M = N + 1000 := ⟨M - 1000, by omega⟩
 have hlt := h.lt
 have hll := hlo.len
 refine call_keep tabA_fr (k := 49) (rs := [.tmp 8]) (R := fun v H' => ∃ b c il, v = .slice (some ⟨b, 0, none⟩) il.length c ∧ il.length = ps.length ∧ (∀ (j : Nat) (p : Pk) (n f x : Int), ps[j]? = some p → l[j]? = some n → fl[j]? = some f → il[j]? = some x → InB p n f x) ∧ Rx k intE H' (some ⟨b, 0, none⟩) il ∧ Chu H' k a bs cap ∧ FrX k H H') rfl fn_44 rfl rfl rfl (by omega) ?_ ?_ ?_
 rotate_left
 ·rintro v H' ⟨b, c, il, rfl, h1, h2, h3, h4, h5⟩
  exact hq _ _ _ _ h1 h2 h3 h4 h5
 ·rintro v H' ⟨b, c, l, rfl, -⟩ hg _; cases hg
 simp (disch:=first|(simp only [yk,seval];done)|omega|(simp only [yz]<;>omega)|fail) only [↓yp,yq0,yq1,yq2,yq3,yq4,yl,ys0,ys1,seval,fitB,newC,endD,endR,yrg,lenV_slice st_esS_22]
 refine W_while (n := 49) 500 (fun q e' H' => ∃ (i : Nat) (il : List Int) (S : Nat → Prop) (v : Value), q = ps.length - i ∧ i ≤ ps.length ∧ MT H H' k a bs cap ps pa pc al af cl cf l fl i il S v e')
  ?_ 4 ps.length ⟨0, [], fun _ => False, .slice none 0 0, by omega, by omega, ?_⟩ (by omega) (by omega)
 rotate_left
 ·refine ⟨?_, ?_, ?_, ?_, ?_, ?_, ?_, h.fr (by repeat first|exact Fr.refl _|assumption|refine Fr.allocd ?_ _|refine Fr.put ?_ (by first|omega|(simp only [yz]<;>omega)) _), FrX.of (by repeat first|exact Fr.refl _|assumption|refine Fr.allocd ?_ _|refine Fr.put ?_ (by first|omega|(simp only [yz]<;>omega)) _), by (first | omega | (simp only [yz] <;> omega)), Gw.none, rfl, fun _ _ _ _ _ _ _ _ h => by simp at h⟩
  ·simp (disch:=first|(simp only [yk,seval];done)|omega|(simp only [yz]<;>omega)|fail) only [yg,seval] <;> rfl
  ·simp (disch:=first|(simp only [yk,seval];done)|omega|(simp only [yz]<;>omega)|fail) only [yg,seval]
  ·simp (disch:=first|(simp only [yk,seval];done)|omega|(simp only [yz]<;>omega)|fail) only [yg,seval]
  ·simp (disch:=first|(simp only [yk,seval];done)|omega|(simp only [yz]<;>omega)|fail) only [yg,seval]
  ·simp (disch:=first|(simp only [yk,seval];done)|omega|(simp only [yz]<;>omega)|fail) only [yg,seval]
  ·simp (disch:=first|(simp only [yk,seval];done)|omega|(simp only [yz]<;>omega)|fail) only [yg,seval]
  ·simp (disch:=first|(simp only [yk,seval];done)|omega|(simp only [yz]<;>omega)|fail) only [yg,seval]
 rintro M1 q e H' ⟨i, il, S, v, rfl, hi, I⟩
 have sz := I.sz
 have g15 := I.g15
 have g14 := I.g14
 have g13 := I.g13
 have g9 := I.g9
 have g3 := I.g3
 have g2 := I.g2
 have g0 := I.g0
 have f0 := I.fr.size
 simp (disch:=first|(simp only [yk,seval];done)|omega|(simp only [yz]<;>omega)|fail) only [↓yp,yq0,yq1,yq2,yq3,yq4,yl,ys0,ys1,seval,fitB,newC,endD,endR,yrg,g15,g14]
 refine ⟨fun hA => ?_, fun hA => ?_⟩
 ·have hi' : i < ps.length := by simpa using hA
  have hl1 : i < l.length := by omega
  have hl2 : i < fl.length := by omega
  obtain ⟨p, hp⟩ : ∃ p, ps[i]? = some p := ⟨ps[i], by simp [hi']⟩
  obtain ⟨n, hn⟩ : ∃ n, l[i]? = some n := ⟨l[i], by simp [hl1]⟩
  obtain ⟨f, hff⟩ : ∃ f, fl[i]? = some f := ⟨fl[i], by simp [hl2]⟩
  have hps := hk p (List.mem_of_getElem? hp)
  have hno := hlo.ok i n p hn hp
  have hfp := hfo i p f hp hff
  obtain ⟨b, o, c, rfl, hb, hc, hq0⟩ := (hs.frx I.fr).rw.at_ hp
  have q0 : part c (o + i * 4) 5 = some (.agg ⟨p.enc⟩) := part_of hq0 rfl
  obtain ⟨b1, o1, c1, rfl, hb1, hc1, hq1⟩ := (hl.frx I.fr).rw.at_ hn
  have q1 := cell_of hq1
  obtain ⟨b2, o2, c2, rfl, hb2, hc2, hq2⟩ := (hf.frx I.fr).rw.at_ hff
  have q2 := cell_of hq2
  rw [show i * intE.z = i * 1 from rfl, Nat.mul_one] at q1 q2
  simp only [Pk.enc] at q0
  have hw2 : w64 ((i : Int) + 1) = ((i + 1 : Nat) : Int) := by rw [w64_of (by omega)]; omega
  have w1 : w64 (p.s - n) = p.s - n := w64_of (by omega)
  have w2 : w64 (f - (p.s - n)) = f - (p.s - n) := w64_of (by omega)
  obtain ⟨lo, hlo'⟩ : ∃ lo, (if f - (p.s - n) > 0 then f - (p.s - n) else 0) = lo := ⟨_, rfl⟩
  obtain ⟨hh, hhh⟩ : ∃ hh, (if f < n then f else n) = hh := ⟨_, rfl⟩
  have hlh : 0 ≤ lo ∧ f - (p.s - n) ≤ lo ∧ hh ≤ n ∧ hh ≤ f ∧ lo ≤ hh ∧ hh ≤ 6 := by
   rw [← hlo', ← hhh]; split <;> split <;> omega
  have hck : Chu ((H'.alloc (.rw [.int .i64 0, .int .i64 0, .int .i64 0, .int .i64 0] 87 false [])).put H'.size (.rw p.enc 87 false [])) k a bs cap := (I.chu.fr (Fr.alloc _ _)).other (by omega) (fun c e => by rw [get_alloc_eq rfl] at e; cases e)
  obtain ⟨fg, v1, H1, mm, hres, hLm, x, rfl, hx1, hx2, hff', hcu, hxx, hss⟩ := resK_elim (Q := fun f v H'' => ∃ d : Int, v = .int .i64 d ∧ lo ≤ d ∧ d ≤ hh ∧ (f = true → H'' = ((H'.alloc (.rw [.int .i64 0, .int .i64 0, .int .i64 0, .int .i64 0] 87 false [])).put H'.size (.rw p.enc 87 false []))) ∧ Chu H'' k a bs cap ∧ FrX k ((H'.alloc (.rw [.int .i64 0, .int .i64 0, .int .i64 0, .int .i64 0] 87 false [])).put H'.size (.rw p.enc 87 false [])) H'' ∧ H''.size = ((H'.alloc (.rw [.int .i64 0, .int .i64 0, .int .i64 0, .int .i64 0] 87 false [])).put H'.size (.rw p.enc 87 false [])).size)
   (c51 (M := M1 + 494) (lo := lo) (hi := hh) hck hL (by omega) (by omega) fun f v H'' h0 h1 h2 h3 h4 h5 => ⟨v, rfl, h1, h2, h0, h3, h4, h5⟩)
  simp only [size_put,size_alloc] at hss
  simp only [Pk.enc] at hres
  have x1 : FrX k H' H1 := ⟨by omega, fun q h1 h2 => by rw [hxx.same q (by first|omega|(simp only [yz]<;>omega)) h2, get_put_ne (by omega), get_alloc_lt h1]⟩
  have r1 := I.r.frx (fun h => by have := (I.r.own _ h).1; omega) x1
  -- what is left to say, whatever the call was
  have fin : ∀ (e' : VT) (H2 : AHeap) (a2 : Option Addr) (c2 : Nat), H1.size + 1 < H2.size → (∀ j, j < H1.size + 1 → ¬ S j → H2.get j = (H1.alloc (.rw [.int .i64 x] 3 false [])).get j) → Gw H2 H.size (fun j => S j ∨ j = H1.size + 1) (.slice a2 (i + 1) c2) (i + 1) (intE.fl il ++ [.int .i64 x]) 3 1 → Keep 49 [0, 2, 3, 13, 14] e e' → gt 49 e' 15 = .int .i64 ((i + 1 : Nat) : Int) → gt 49 e' 9 = .slice a2 (i + 1) c2 →
    nextK (fun q e' H' => ∃ (i : Nat) (il : List Int) (S : Nat → Prop) (v : Value), q = ps.length - i ∧ i ≤ ps.length ∧ MT H H' k a bs cap ps (some ⟨b, o, none⟩) pc (some ⟨b1, o1, none⟩) (some ⟨b2, o2, none⟩) cl cf l fl i il S v e') (ps.length - i) e' H2 := by
   intro e' H2 a2 c2 hs2 fs2 gw kp k15 k9
   have x2 : FrX k H H2 := ⟨by omega, fun q h1 h2 => by
    rw [fs2 q (by omega) (fun h => by have := (I.r.own _ h).1; omega), get_alloc_lt (by omega), x1.same q (by omega) h2, I.fr.same q h1 h2]⟩
   have cu : Chu H2 k a bs cap := h.again x2 (by
    rw [fs2 k (by omega) (fun h => by have := (I.r.own _ h).1; omega), get_alloc_lt (by omega)]
    exact hcu.blk)
   refine ⟨ps.length - (i + 1), by omega, i + 1, il ++ [x], fun j => S j ∨ j = H1.size + 1, .slice a2 (i + 1) c2, rfl, by omega, k15, (kp 14 (by decide)).trans g14, (kp 13 (by decide)).trans g13, k9, (kp 3 (by decide)).trans g3, (kp 2 (by decide)).trans g2, (kp 0 (by decide)).trans g0, cu, x2, by omega, ?_, ?_, ?_⟩
   ·rw [fl_app]
    have : intE.fl [x] = [.int .i64 x] := rfl
    rw [this]
    exact gw
   ·rw [List.length_append, I.len]; rfl
   ·intro j p' n' f' x' e1 e2 e3 e4
    have hl := I.len
    by_cases hj : j < i
    ·rw [List.getElem?_append_left (by omega)] at e4
     exact I.ok j p' n' f' x' e1 e2 e3 e4
    ·have e5 := (List.getElem?_eq_some_iff.1 e4).1
     rw [List.length_append, hl] at e5
     simp only [List.length_cons,List.length_nil] at e5
     have : j = i := by omega
     subst this
     rw [List.getElem?_append_right (by omega), hl, Nat.sub_self] at e4
     simp only [List.getElem?_cons_zero,Option.some.injEq] at e4
     rw [hp] at e1
     rw [hn] at e2
     rw [hff] at e3
     cases e1
     cases e2
     cases e3
     subst e4
     unfold InB
     omega
  simp (disch:=first|(simp only [yk,seval];done)|omega|(simp only [yz]<;>omega)|fail) only [↓yp,yq0,yq1,yq2,yq3,yq4,yl,ys0,ys1,seval,fitB,newC,endD,endR,yrg,g15,g13,A_indexSlice st_esS_22,hc,q0]
  have sv := I.r.sv (n := 5)
  cases fg
  ·refine W_drawR (pl := []) [24, 25, 26] [(5, 1), (5, 2), (5, 3), (7, 1), (7, 2), (7, 3), (11, 1), (11, 2), (11, 3), (18, 1), (18, 2), (18, 3), (22, 1), (22, 2), (22, 3)] (planK_of rfl) (by kernel_rfl) (by kernel_rfl) (by kernel_rfl) (by first|omega|(simp only [yz]<;>omega)) ?_
   simp (disch:=first|(simp only [yk,seval];done)|omega|(simp only [yz]<;>omega)|fail) only [↓yp,yq0,yq1,yq2,yq3,yq4,yl,ys0,ys1,seval,fitB,newC,endD,endR,yrg,g15,g9,g3,g2,g0,A_indexSlice st_esS_49,hc1,hc2,q1,q2,w1,w2,A_max,mm_max,hlo',A_min,mm_min,hhh,hres,A_buildSlice st_brS_49_1]
   refine gw_append (i := i) (cs := intE.fl il) (news := [.int .i64 x]) st_apS_49 (r1.fr (by repeat first|exact Fr.refl _|assumption|refine Fr.allocd ?_ _|refine Fr.put ?_ (by first|omega|(simp only [yz]<;>omega)) _)) (by first|omega|(simp only [yz]<;>omega)) (by rw [fl_length, I.len]; rfl) (by unfold srcCells; simp (disch:=first|(simp only [yk,seval];done)|omega|(simp only [yz]<;>omega)|fail) only [yg,seval] <;> rfl) (by omega) (by omega) rfl (by omega) ?_
   intro a2 c2 H2 hs2 fs2 gw
   simp only [size_alloc] at hs2 fs2 gw
   simp (disch:=first|(simp only [yk,seval];done)|omega|(simp only [yz]<;>omega)|fail) only [↓yp,yq0,yq1,yq2,yq3,yq4,yl,ys0,ys1,seval,fitB,newC,endD,endR,yrg,g15,g9,g3,g2,g0,hc1,hc2,q1,q2,w1,w2,A_indexSlice st_esS_49,A_max,mm_max,hlo',A_min,mm_min,hhh,hw2,sv]
   refine fin _ _ a2 c2 hs2 fs2 gw (by (with_reducible repeat first|refine Keep.put ?_ (by decide)|refine Keep.none ?_|assumption|exact Keep.refl _ _ _)) ?_ ?_
   ·simp (disch:=first|(simp only [yk,seval];done)|omega|(simp only [yz]<;>omega)|fail) only [yg,seval]
   ·simp (disch:=first|(simp only [yk,seval];done)|omega|(simp only [yz]<;>omega)|fail) only [yg,seval]
  ·have hH1 := hff' rfl
   simp only [Pk.enc] at hH1
   rw [← hH1] at hres ⊢
   refine W_drawR (pl := []) [25, 26] [(24, 1), (24, 2), (5, 1), (5, 2), (7, 1), (7, 2), (11, 1), (11, 2), (18, 1), (18, 2), (22, 1), (22, 2)] (planK_of rfl) (by kernel_rfl) (by kernel_rfl) (by kernel_rfl) (by omega) ?_
   have hc1' : cellsOf (H1.get b1) = some c1 := by
    rw [hH1, get_put_ne (by omega), get_alloc_lt hb1]; exact hc1
   have hc2' : cellsOf (H1.get b2) = some c2 := by
    rw [hH1, get_put_ne (by omega), get_alloc_lt hb2]; exact hc2
   have hb3 : H1.get H'.size = .rw [.int .i64 p.s, .int .i64 p.w, .int .i64 p.o, .int .i64 p.f] 87 false [] := by
    rw [hH1]; exact get_put_same (by first|omega|(simp only [yz]<;>omega))
   simp (disch:=first|(simp only [yk,seval];done)|omega|(simp only [yz]<;>omega)|fail) only [↓yp,yq0,yq1,yq2,yq3,yq4,yl,ys0,ys1,seval,fitB,newC,endD,endR,yrg,g15,g9,g3,g2,g0,A_indexSlice st_esS_49,hc1',hc2',hb3,q1,q2,w1,w2,A_max,mm_max,hlo',A_min,mm_min,hhh,hres,A_buildSlice st_brS_49_1]
   refine gw_append (i := i) (cs := intE.fl il) (news := [.int .i64 x]) st_apS_49 (r1.fr (by repeat first|exact Fr.refl _|assumption|refine Fr.allocd ?_ _|refine Fr.put ?_ (by first|omega|(simp only [yz]<;>omega)) _)) (by first|omega|(simp only [yz]<;>omega)) (by rw [fl_length, I.len]; rfl) (by unfold srcCells; simp (disch:=first|(simp only [yk,seval];done)|omega|(simp only [yz]<;>omega)|fail) only [yg,seval] <;> rfl) (by omega) (by omega) rfl (by omega) ?_
   intro a2 c2 H2 hs2 fs2 gw
   simp only [size_alloc] at hs2 fs2 gw
   simp (disch:=first|(simp only [yk,seval];done)|omega|(simp only [yz]<;>omega)|fail) only [↓yp,yq0,yq1,yq2,yq3,yq4,yl,ys0,ys1,seval,fitB,newC,endD,endR,yrg,g15,g9,g3,g2,g0,hc1',hc2',hb3,q1,q2,w1,w2,A_indexSlice st_esS_49,A_max,mm_max,hlo',A_min,mm_min,hhh,hw2,sv,hres]
   refine fin _ _ a2 c2 hs2 fs2 gw (by (with_reducible repeat first|refine Keep.put ?_ (by decide)|refine Keep.none ?_|assumption|exact Keep.refl _ _ _)) ?_ ?_
   ·simp (disch:=first|(simp only [yk,seval];done)|omega|(simp only [yz]<;>omega)|fail) only [yg,seval]
   ·simp (disch:=first|(simp only [yk,seval];done)|omega|(simp only [yz]<;>omega)|fail) only [yg,seval]
 ·have hi' : i = ps.length := by have := of_decide_eq_false hA; omega
  obtain ⟨b, al, rfl, s1, k1, -⟩ := I.r.cons (by omega)
  simp (disch:=first|(simp only [yk,seval];done)|omega|(simp only [yz]<;>omega)|fail) only [↓yp,yq0,yq1,yq2,yq3,yq4,yl,ys0,ys1,seval,fitB,newC,endD,endR,yrg,g9]
  refine ⟨b, OPEN + 1, il, by rw [I.len], by rw [I.len]; exact hi', I.ok, ?_, I.chu, I.fr⟩
  have := I.r
  rw [← I.len] at this
  exact this.rx (fun h => by have := (I.r.own _ h).1; omega)
end
end Go.Am.K
namespace Go.Am.K
open Go.Proofs
variable {T : Tab} {P : Program} {N L : Nat} {H H' H'' : AHeap} {Q : Bool → Value → AHeap → Prop}
theorem Bts.fr {a : Option Addr} {bs : List Int} (h : Bts H a bs) (f : Fr H H') : Bts H' a bs := ⟨fun hne => by
 obtain ⟨b, o, c, h1, h2, h3, h4⟩ := h.row hne
 exact ⟨b, o, c, h1, Nat.lt_of_lt_of_le h2 f.size, by rw [f.same b h2]; exact h3, h4⟩, h.byte, h.len⟩
structure LS (H H' : AHeap) (n kq : Nat) (aq : Option Addr) (bq : List Int) (cq i5 b1 c1 b2 c2 b3 c3 : Nat) (ps : List Pk) (gs : List Gd) (rs : List Int) (lots : Int) (e : VT) : Prop where
 r1 : Rx kq pkE H' (some ⟨b1, 0, none⟩) ps
 r2 : Rx kq gdE H' (some ⟨b2, 0, none⟩) gs
 r3 : Rx kq intE H' (some ⟨b3, 0, none⟩) rs
 ok : chkS ps gs lots = 0
 g5 : gt n e 5 = .pointer (some ⟨i5, 0, none⟩)
 l5 : i5 < H'.size
 n5 : i5 ≠ kq
 b5 : H'.get i5 = .rw [.slice (some ⟨b1, 0, none⟩) ps.length c1, .slice (some ⟨b2, 0, none⟩) gs.length c2, .int .i64 lots] 25 false []
 g6 : gt n e 6 = .slice (some ⟨b3, 0, none⟩) rs.length c3
 g7 : gt n e 7 = .pointer (some ⟨kq, 0, none⟩)
 chu : Chu H' kq aq bq cq
 hk : H.size ≤ kq
structure LL (H' : AHeap) (n kq b4 c4 i10 : Nat) (ps : List Pk) (l : List Int) (lo hi sv : Int) (e : VT) : Prop where
 r4 : Rx kq intE H' (some ⟨b4, 0, none⟩) l
 lk : LotOk ps l
 g8 : gt n e 8 = .slice (some ⟨b4, 0, none⟩) l.length c4
 g9 : gt n e 9 = .int .i64 (isum l)
 g10 : gt n e 10 = .pointer (some ⟨i10, 0, none⟩)
 l10 : i10 < H'.size
 n10 : i10 ≠ kq
 b10 : H'.get i10 = .rw [.int .i64 lo, .int .i64 hi] 38 false []
 g12 : gt n e 12 = .int .i64 sv
section
variable {n kq cq i5 b1 c1 b2 c2 b3 c3 b4 c4 i10 : Nat} {aq : Option Addr} {bq rs l : List Int} {ps : List Pk} {gs : List Gd} {lots lo hi sv : Int} {e e' : VT}
theorem LS.next (I : LS H H' n kq aq bq cq i5 b1 c1 b2 c2 b3 c3 ps gs rs lots e) (hc : Chu H'' kq aq bq cq) (f : FrX kq H' H'') (h : Keep n [5, 6, 7] e e') : LS H H'' n kq aq bq cq i5 b1 c1 b2 c2 b3 c3 ps gs rs lots e' where
 r1 := I.r1.frx f
 r2 := I.r2.frx f
 r3 := I.r3.frx f
 ok := I.ok
 g5 := (h 5 (by decide)).trans I.g5
 l5 := Nat.lt_of_lt_of_le I.l5 f.size
 n5 := I.n5
 b5 := (f.same _ I.l5 I.n5).trans I.b5
 g6 := (h 6 (by decide)).trans I.g6
 g7 := (h 7 (by decide)).trans I.g7
 chu := hc
 hk := I.hk
theorem LS.fr (I : LS H H' n kq aq bq cq i5 b1 c1 b2 c2 b3 c3 ps gs rs lots e) (f : Fr H' H'') (h : Keep n [5, 6, 7] e e') : LS H H'' n kq aq bq cq i5 b1 c1 b2 c2 b3 c3 ps gs rs lots e' := I.next (I.chu.fr f) (FrX.of f) h
theorem LS.str (I : LS H H' n kq aq bq cq i5 b1 c1 b2 c2 b3 c3 ps gs rs lots e) : StR H' (some ⟨b1, 0, none⟩) (some ⟨b2, 0, none⟩) ps gs lots := ⟨I.r1.rw, I.r2.rw, I.ok⟩
theorem LS.lt (I : LS H H' n kq aq bq cq i5 b1 c1 b2 c2 b3 c3 ps gs rs lots e) : H.size < H'.size := Nat.lt_of_le_of_lt I.hk I.chu.lt
theorem LL.next (I : LL H' n kq b4 c4 i10 ps l lo hi sv e) (f : FrX kq H' H'') (h : Keep n [8, 9, 10, 12] e e') : LL H'' n kq b4 c4 i10 ps l lo hi sv e' where
 r4 := I.r4.frx f
 lk := I.lk
 g8 := (h 8 (by decide)).trans I.g8
 g9 := (h 9 (by decide)).trans I.g9
 g10 := (h 10 (by decide)).trans I.g10
 l10 := Nat.lt_of_lt_of_le I.l10 f.size
 n10 := I.n10
 b10 := (f.same _ I.l10 I.n10).trans I.b10
 g12 := (h 12 (by decide)).trans I.g12
theorem LL.ltr (J : LL H' n kq b4 c4 i10 ps l lo hi sv e) (I : LS H H' n kq aq bq cq i5 b1 c1 b2 c2 b3 c3 ps gs rs lots e') : LtR H' (some ⟨b1, 0, none⟩) (some ⟨b2, 0, none⟩) (some ⟨b4, 0, none⟩) ps gs lots l := ⟨I.str, J.r4.rw, J.lk⟩
structure Nw (H' : AHeap) (kq bf : Nat) (fl : List Int) : Prop where
 lt : bf < H'.size
 ne : bf ≠ kq
 get : H'.get bf = .rw (intE.fl fl) 3 true []
theorem Nw.rx {bf : Nat} {fl : List Int} (h : Nw H' kq bf fl) : Rx kq intE H' (some ⟨bf, 0, none⟩) fl := ⟨Rw.of (r := []) h.lt (by rw [h.get]; rfl) (by rw [List.append_nil]), fun _ b o s e => by cases e; exact h.ne⟩
theorem Nw.frx {bf : Nat} {fl : List Int} (h : Nw H' kq bf fl) (f : FrX kq H' H'') : Nw H'' kq bf fl := ⟨Nat.lt_of_lt_of_le h.lt f.size, h.ne, (f.same _ h.lt h.ne).trans h.get⟩
theorem LS.put {j : Nat} {c : List Value} {ty : TypeId} {o : Bool} {al : List Nat} (I : LS H H' n kq aq bq cq i5 b1 c1 b2 c2 b3 c3 ps gs rs lots e) (hj : H'.get j = .rw c ty o al) (n5 : j ≠ i5) (nk : j ≠ kq) (n1 : j ≠ b1) (n2 : j ≠ b2) (n3 : j ≠ b3) (blk : ABlk) : LS H (H'.put j blk) n kq aq bq cq i5 b1 c1 b2 c2 b3 c3 ps gs rs lots e := by
 have key : ∀ {α : Type} {E : Enc α} {b : Nat} {l : List α}, Rx kq E H' (some ⟨b, 0, none⟩) l → j ≠ b → Rx kq E (H'.put j blk) (some ⟨b, 0, none⟩) l := fun {α E b l} h hne => ⟨⟨fun hl => by
  obtain ⟨b', o, c, e1, h2, h3, h4⟩ := h.rw.get hl
  cases e1
  exact ⟨b, 0, c, rfl, by rw [size_put]; exact h2, by rw [get_put_ne (Ne.symm hne)]; exact h3, h4⟩⟩, h.ne⟩
 exact ⟨key I.r1 n1, key I.r2 n2, key I.r3 n3, I.ok, I.g5, by rw [size_put]; exact I.l5, I.n5, by rw [get_put_ne (Ne.symm n5)]; exact I.b5, I.g6, I.g7, I.chu.other nk (fun c' e => by rw [hj] at e; cases e), I.hk⟩
theorem LL.put {j : Nat} (I : LL H' n kq b4 c4 i10 ps l lo hi sv e) (n4 : j ≠ b4) (n10 : j ≠ i10) (blk : ABlk) : LL (H'.put j blk) n kq b4 c4 i10 ps l lo hi sv e where
 r4 := ⟨⟨fun hl => by
  obtain ⟨b', o, c, e1, h2, h3, h4⟩ := I.r4.rw.get hl
  cases e1
  exact ⟨b4, 0, c, rfl, by rw [size_put]; exact h2, by rw [get_put_ne (Ne.symm n4)]; exact h3, h4⟩⟩, I.r4.ne⟩
 lk := I.lk
 g8 := I.g8
 g9 := I.g9
 g10 := I.g10
 l10 := by rw [size_put]; exact I.l10
 n10 := I.n10
 b10 := by rw [get_put_ne (Ne.symm n10)]; exact I.b10
 g12 := I.g12
set_option maxHeartbeats 2000000 in
theorem c5A {bf cf g47 : Nat} {fl : List Int} {x178 : Value} (hL : L ≤ H.size) (I : LS H H' 268 kq aq bq cq i5 b1 c1 b2 c2 b3 c3 ps gs rs lots e) (J : LL H' 268 kq b4 c4 i10 ps l lo hi sv e) (F : Nw H' kq bf fl) (g25 : gt 268 e 25 = .slice (some ⟨bf, 0, none⟩) fl.length cf) (h8 : fl.length ≤ 8) (hbf : H.size ≤ bf) (nn : bf ≠ i5 ∧ bf ≠ b1 ∧ bf ≠ b2 ∧ bf ≠ b3 ∧ bf ≠ b4 ∧ bf ≠ i10) (h47 : gt 268 e 47 = .int .i64 (g47 : Nat)) (h178 : gt 268 e 178 = x178) :
  W tabA Try.prog (N + 700) none (sub ([true, true, true, true, false, true, false, false, true, true, false, false, true, true, true, true, true, true, true, true, true, true, true, true, true, false, false, true, true, false, false] ++ [true, false]) (bodyOf Try.f5)) L ⟨268, e, H', []⟩ (endK 268 [] fun e' H'' => ∃ fl' : List Int, fl'.length = fl.length ∧ LS H H'' 268 kq aq bq cq i5 b1 c1 b2 c2 b3 c3 ps gs rs lots e' ∧ LL H'' 268 kq b4 c4 i10 ps l lo hi sv e' ∧ Nw H'' kq bf fl' ∧ gt 268 e' 25 = .slice (some ⟨bf, 0, none⟩) fl'.length cf ∧ gt 268 e' 47 = .int .i64 (g47 : Nat) ∧ gt 268 e' 178 = x178) := by
 have ilt := I.lt
 simp only [Try.f5,bodyOf,List.cons_append,List.nil_append,sub_nil,sub_seq0,sub_seq1,sub_block,sub_loop,sub_cond0,sub_cond1]
 simp (disch:=first|(simp only [yk,seval];done)|omega|(simp only [yz]<;>omega)|fail) only [↓yp,yq0,yq1,yq2,yq3,yq4,yl,ys0,ys1,seval,fitB,newC,endD,endR,yrg,g25,lenV_slice st_esS_49]
 refine W_while (n := 268) 500 (fun q e' H'' => ∃ (i : Nat) (fl' : List Int), q = fl.length - i ∧ i ≤ fl.length ∧ fl'.length = fl.length ∧ LS H H'' 268 kq aq bq cq i5 b1 c1 b2 c2 b3 c3 ps gs rs lots e' ∧ LL H'' 268 kq b4 c4 i10 ps l lo hi sv e' ∧ Nw H'' kq bf fl' ∧ gt 268 e' 25 = .slice (some ⟨bf, 0, none⟩) fl'.length cf ∧ gt 268 e' 47 = .int .i64 (g47 : Nat) ∧ gt 268 e' 178 = x178 ∧ gt 268 e' 184 = .int .i64 (i : Nat) ∧ gt 268 e' 183 = .int .i64 fl.length)
  ?_ 8 fl.length ⟨0, fl, by omega, by omega, rfl, I.fr (Fr.refl _) (by (with_reducible repeat first|refine Keep.put ?_ (by decide)|refine Keep.none ?_|assumption|exact Keep.refl _ _ _)), J.next (FrX.refl _ _) (by (with_reducible repeat first|refine Keep.put ?_ (by decide)|refine Keep.none ?_|assumption|exact Keep.refl _ _ _)), F, ?_, ?_, ?_, ?_, ?_⟩ (by omega) (by omega)
 rotate_left
 ·simp (disch:=first|(simp only [yk,seval];done)|omega|(simp only [yz]<;>omega)|fail) only [yg,seval,g25]
 ·simp (disch:=first|(simp only [yk,seval];done)|omega|(simp only [yz]<;>omega)|fail) only [yg,seval,h47]
 ·simp (disch:=first|(simp only [yk,seval];done)|omega|(simp only [yz]<;>omega)|fail) only [yg,seval,h178]
 ·simp (disch:=first|(simp only [yk,seval];done)|omega|(simp only [yz]<;>omega)|fail) only [yg,seval] <;> rfl
 ·simp (disch:=first|(simp only [yk,seval];done)|omega|(simp only [yz]<;>omega)|fail) only [yg,seval]
 clear ilt h178 h47 g25 F J I
 rintro M1 q e H' ⟨i, fl', rfl, hi, hlen, I, J, F, g25, h47, h178, g184, g183⟩
 have ilt := I.lt
 have g7 := I.g7
 have hk := I.hk
 have cl := I.chu.lt
 simp (disch:=first|(simp only [yk,seval];done)|omega|(simp only [yz]<;>omega)|fail) only [↓yp,yq0,yq1,yq2,yq3,yq4,yl,ys0,ys1,seval,fitB,newC,endD,endR,yrg,g184,g183]
 refine ⟨fun hA => ?_, fun hA => ?_⟩
 ·have hi' : i < fl.length := by simpa using hA
  have hi2 : i < fl'.length := by omega
  have hw2 : w64 ((i : Int) + 1) = ((i + 1 : Nat) : Int) := by rw [w64_of (by omega)]; omega
  simp (disch:=first|(simp only [yk,seval];done)|omega|(simp only [yz]<;>omega)|fail) only [↓yp,yq0,yq1,yq2,yq3,yq4,yl,ys0,ys1,seval,fitB,newC,endD,endR,yrg,g184,g7]
  refine c42 I.chu (by omega) (by omega) (by omega) ?_
  rintro f1 n1 H1 - ⟨p1, p2⟩ hc1 hx1 hs1
  have I1 := I.next hc1 hx1 (Keep.refl _ _ _)
  have J1 := J.next hx1 (Keep.refl _ _ _)
  have F1 := F.frx hx1
  have b1' := F1.get
  have l1' := F1.lt
  cases hB : decide (n1 < 3)
  ·simp (disch:=first|(simp only [yk,seval];done)|omega|(simp only [yz]<;>omega)|fail) only [↓yp,yq0,yq1,yq2,yq3,yq4,yl,ys0,ys1,seval,fitB,newC,endD,endR,yrg,hB,g184,hw2]
   refine ⟨fl.length - (i + 1), by omega, i + 1, fl', rfl, by omega, hlen, I1.fr (Fr.refl _) (by (with_reducible repeat first|refine Keep.put ?_ (by decide)|refine Keep.none ?_|assumption|exact Keep.refl _ _ _)), J1.next (FrX.refl _ _) (by (with_reducible repeat first|refine Keep.put ?_ (by decide)|refine Keep.none ?_|assumption|exact Keep.refl _ _ _)), F1, ?_, ?_, ?_, ?_, ?_⟩
   ·simp (disch:=first|(simp only [yk,seval];done)|omega|(simp only [yz]<;>omega)|fail) only [yg,seval,g25]
   ·simp (disch:=first|(simp only [yk,seval];done)|omega|(simp only [yz]<;>omega)|fail) only [yg,seval,h47]
   ·simp (disch:=first|(simp only [yk,seval];done)|omega|(simp only [yz]<;>omega)|fail) only [yg,seval,h178]
   ·simp (disch:=first|(simp only [yk,seval];done)|omega|(simp only [yz]<;>omega)|fail) only [yg,seval]
   ·simp (disch:=first|(simp only [yk,seval];done)|omega|(simp only [yz]<;>omega)|fail) only [yg,seval,g183]
  ·have hset : newC i [.int .i64 n1] (intE.fl fl') = intE.fl (fl'.set i n1) := by
    have := newC_fl (E := intE) (s := n1) hi2
    rw [show i * intE.z = i * 1 from rfl, Nat.mul_one] at this
    exact this
   have hfit : decide (i + 1 ≤ (intE.fl fl').length) = true := by
    rw [fl_length]
    simp only [show intE.z = 1 from rfl,Nat.mul_one,decide_eq_true_eq]
    omega
   simp (disch:=first|(simp only [yk,seval];done)|omega|(simp only [yz]<;>omega)|fail) only [↓yp,yq0,yq1,yq2,yq3,yq4,yl,ys0,ys1,seval,fitB,newC,endD,endR,yrg,hB,g184,g25,A_indexSlice st_esS_49,b1',hset,hfit,hw2]
   refine ⟨fl.length - (i + 1), by omega, i + 1, fl'.set i n1, rfl, by omega, by rw [List.length_set]; exact hlen, (I1.put b1' nn.1 F1.ne nn.2.1 nn.2.2.1 nn.2.2.2.1 _).fr (Fr.refl _) (by (with_reducible repeat first|refine Keep.put ?_ (by decide)|refine Keep.none ?_|assumption|exact Keep.refl _ _ _)), (J1.put nn.2.2.2.2.1 nn.2.2.2.2.2 _).next (FrX.refl _ _) (by (with_reducible repeat first|refine Keep.put ?_ (by decide)|refine Keep.none ?_|assumption|exact Keep.refl _ _ _)), ⟨by (first | omega | (simp only [yz] <;> omega)), F1.ne, by rw [← hset]; exact get_put_same (by omega)⟩, ?_, ?_, ?_, ?_, ?_⟩
   ·rw [List.length_set]
    simp (disch:=first|(simp only [yk,seval];done)|omega|(simp only [yz]<;>omega)|fail) only [yg,seval,g25]
   ·simp (disch:=first|(simp only [yk,seval];done)|omega|(simp only [yz]<;>omega)|fail) only [yg,seval,h47]
   ·simp (disch:=first|(simp only [yk,seval];done)|omega|(simp only [yz]<;>omega)|fail) only [yg,seval,h178]
   ·simp (disch:=first|(simp only [yk,seval];done)|omega|(simp only [yz]<;>omega)|fail) only [yg,seval]
   ·simp (disch:=first|(simp only [yk,seval];done)|omega|(simp only [yz]<;>omega)|fail) only [yg,seval,g183]
 ·simp (disch:=first|(simp only [yk,seval];done)|omega|(simp only [yz]<;>omega)|fail) only [↓yp,yq0,yq1,yq2,yq3,yq4,yl,ys0,ys1,seval,fitB,newC,endD,endR,yrg]
  refine ⟨fl', hlen, I.fr (Fr.refl _) (by (with_reducible repeat first|refine Keep.put ?_ (by decide)|refine Keep.none ?_|assumption|exact Keep.refl _ _ _)), J.next (FrX.refl _ _) (by (with_reducible repeat first|refine Keep.put ?_ (by decide)|refine Keep.none ?_|assumption|exact Keep.refl _ _ _)), F, ?_, ?_, ?_⟩
  ·simp (disch:=first|(simp only [yk,seval];done)|omega|(simp only [yz]<;>omega)|fail) only [yg,seval,g25]
  ·simp (disch:=first|(simp only [yk,seval];done)|omega|(simp only [yz]<;>omega)|fail) only [yg,seval,h47]
  ·simp (disch:=first|(simp only [yk,seval];done)|omega|(simp only [yz]<;>omega)|fail) only [yg,seval,h178]
end
end Go.Am.K
