import Derived.Test.YtbofjfjopeaefaaT50
import Derived.Test.YtbofjfjopeaefaaT46
import Derived.Test.YtbofjfjopeaefaaT49
set_option linter.unusedSimpArgs false
set_option linter.unusedVariables false
namespace Go.Am.K
open Go.Proofs
variable {T : Tab} {P : Program} {N L : Nat} {H H' H'' : AHeap} {Q : Bool → Value → AHeap → Prop}
section
variable {a a' : Option Addr} {cap cap' : Nat} {ps : List Pk} {gs : List Gd} {lots : Int}
end
end Go.Am.K
namespace Go.Am.K
open Go.Proofs
variable {T : Tab} {P : Program} {N L : Nat} {H H' H'' : AHeap} {Q : Bool → Value → AHeap → Prop}
section
variable {a a' : Option Addr} {cap cap' : Nat} {ps : List Pk} {gs : List Gd} {lots : Int}
set_option maxHeartbeats 4000000 in
theorem c14o (hs : Rw pkE H a ps) (hg : Rw gdE H a' gs) (hl : ps.length ≤ 6) (hgl : gs.length ≤ 6) (hp1 : ps ≠ []) (hg1 : gs ≠ []) (hL : L ≤ H.size) {M : Nat} (hM : 200 ≤ M)
  (hq : ∀ k c k' c' H', Fr H H' → H.size ≤ k → k < k' → k' < H'.size → H'.get k = .rw (pkE.fl ps) 87 true [] → H'.get k' = .rw (gdE.fl gs) 77 true [] → Q false (.agg ⟨[.slice (some ⟨k, 0, none⟩) ps.length c, .slice (some ⟨k', 0, none⟩) gs.length c', .int .i64 lots]⟩) H') :
  resK (acall tabA (aexec tabA Try.prog M) 14 [.agg ⟨[.slice a ps.length cap, .slice a' gs.length cap', .int .i64 lots]⟩] H) L Q := by
 obtain ⟨N, rfl⟩ : ∃ N, M = N + 200 := ⟨M - 200, by omega⟩
 refine call_fls (R := fun v H' => ∃ k c k' c', v = .agg ⟨[.slice (some ⟨k, 0, none⟩) ps.length c, .slice (some ⟨k', 0, none⟩) gs.length c', .int .i64 lots]⟩ ∧ Fr H H' ∧ H.size ≤ k ∧ k < k' ∧ k' < H'.size ∧ H'.get k = .rw (pkE.fl ps) 87 true [] ∧ H'.get k' = .rw (gdE.fl gs) 77 true []) (k := 12) (rs := [.cell 2 25]) rfl fn_14 rfl rfl rfl hL ?_ ?_ ?_
 rotate_left
 ·rintro v H' ⟨k, c, k', c', rfl, -⟩; exact gr_two (.inl (by simp))
 ·rintro v H' ⟨k, c, k', c', rfl, h1, h2, h3, h4, h5, h6⟩
  exact hq _ _ _ _ _ h1 h2 h3 h4 h5 h6
 have fr0 : Fr H ((H.alloc (.rw [.slice a ps.length cap, .slice a' gs.length cap', .int .i64 lots] 25 false [])).alloc (.rw [.slice none 0 0, .slice none 0 0, .int .i64 0] 25 false [])) := by (repeat (first | exact Fr.refl _ | assumption | refine Fr.allocd ?_ _ | refine Fr.put ?_ (by first | omega | (simp only [yz] <;> omega)) _))
 simp (disch:=first|(simp only [yk,seval];done)|omega|(simp only [yz]<;>omega)|fail) only [↓yp,yA,ys0,ys1,seval,fitB,newC,endD,endR,yrg]
 refine W_drawR (pl := []) [2, 5, 7, 9] [(1, 1), (1, 2), (1, 3), (1, 4), (4, 2), (4, 3), (4, 4)] (planK_of rfl) (by kernel_rfl) (by kernel_rfl) (by kernel_rfl) (by first|omega|(simp only [yz]<;>omega)) ?_
 simp (disch:=first|(simp only [yk,seval];done)|omega|(simp only [yz]<;>omega)|fail) only [↓yp,yA,ys0,ys1,seval,fitB,newC,endD,endR,yrg]
 refine c56 (hs.fr fr0) hp1 (by omega) (by first|omega|(simp only [yz]<;>omega)) (by omega) ?_
 intro k cc H1 fr1 k1 k2 k3
 have f1 := fr1.size
 have s1 := fr1.same
 simp only [size_alloc] at f1 s1 k1
 simp (disch:=first|(simp only [yk,seval];done)|omega|(simp only [yz]<;>omega)|fail) only [↓yp,yA,ys0,ys1,seval,fitB,newC,endD,endR,yrg,s1]
 refine c57 (hg.fr (fr0.trans fr1)) hg1 (by omega) (by first|omega|(simp only [yz]<;>omega)) (by omega) ?_
 intro k' cc' H2 fr2 k1' k2' k3'
 have f2 := fr2.size
 have s2 := fr2.same
 simp (disch:=first|(simp only [yk,seval];done)|omega|(simp only [yz]<;>omega)|fail) only [↓yp,yA,ys0,ys1,seval,fitB,newC,endD,endR,yrg,s2,s1]
 refine ⟨k, cc, k', cc', rfl, ?_, by omega, by omega, by (first | omega | (simp only [yz] <;> omega)), ?_, ?_⟩
 ·exact Fr.put (Fr.put (Fr.put ((fr0.trans fr1).trans fr2) (by omega) _) (by omega) _) (by omega) _
 ·rw [get_put_ne (by omega), get_put_ne (by omega), get_put_ne (by omega), s2 _ k2, k3]
 ·rw [get_put_ne (by omega), get_put_ne (by omega), get_put_ne (by omega), k3']
end
end Go.Am.K
namespace Go.Am.K
open Go.Proofs
variable {T : Tab} {P : Program} {N L : Nat} {H H' H'' : AHeap} {Q : Bool → Value → AHeap → Prop}
section
variable {a a' : Option Addr} {cap cap' k : Nat} {ps : List Pk} {gs : List Gd}
theorem c45P (h : StR H a a' ps gs (k : Int)) (hL : L ≤ H.size) {M : Nat} (hM : 18200 ≤ M)
  (hq : ∀ f pa pc xs n H', Fr H H' → PlnR H' pa xs → xs.length ≤ k → (∀ x ∈ xs, LotOk ps x) → Pl (stk ps) k (xs.map mx) → totL (brg ps gs) (xs.map mx) = n → OptR (brg ps gs) (stk ps) k n → Q f (.tuple ⟨[.slice pa xs.length pc, .int .i64 n, .int .i64 0]⟩) H') :
  resK (acall tabA (aexec tabA Try.prog M) 45 [.agg ⟨[.slice a ps.length cap, .slice a' gs.length cap', .int .i64 (k : Int)]⟩] H) L Q := by
 obtain ⟨N, rfl⟩ : ∃ N, M = N + 18200 := ⟨M - 18200, by omega⟩
 have hst := h.st
 have hk3 := hst.lo
 refine resK_lowQ (c45 h.hs h.hg hst.l4 hst.l1 h.pk hst.g4 h.gd k (by omega) h.ok) hL ?_
 rintro b _ H2 ⟨-, Ls, w, n, rfl, fr, ⟨S, cs, gw, clen, cat⟩, hP, hT, hO⟩
 obtain ⟨rs, r1, r2, r3⟩ := rows_of (cs := cs) (R := fun j r => ∀ s, Ls[j]? = some s → r.2.1 = ps.length ∧ Rw intE H2 r.1 ((l4 s).take ps.length)) fun j hj => by
  obtain ⟨b, c, e1, e2, e3⟩ := cat j Ls[j] (List.getElem?_eq_getElem _)
  refine ⟨(some ⟨b, 0, none⟩, ps.length, c), e1, fun s hs => ?_⟩
  have : s = Ls[j] := by
   have hjl : j < Ls.length := by omega
   rw [List.getElem?_eq_getElem hjl] at hs
   exact (Option.some.inj hs).symm
  subst this
  exact ⟨rfl, e3⟩
 have hl4 := hst.l4
 have hlv : ∀ s ∈ Ls, LV (stk ps) (l4 s) := fun s hs => Pl_mem hP (List.mem_map.2 ⟨s, hs, rfl⟩)
 have hPl := Pl_len hP
 rw [List.length_map] at hPl
 obtain ⟨x, c, e, rw1⟩ := (show Gw H2 H.size S w Ls.length (rowE.fl rs) 49 rowE.z by rw [r2]; exact gw).sl (by omega)
 subst e
 obtain ⟨xs, hxs⟩ : ∃ xs, Ls.map (fun s => (l4 s).take ps.length) = xs := ⟨_, rfl⟩
 have hxl : xs.length = Ls.length := by rw [← hxs, List.length_map]
 have hxm : xs.map mx = Ls.map l4 := by
  rw [← hxs, List.map_map]
  exact List.map_congr_left fun s hs => (LV_cut hl4 (hlv s hs)).2
 rw [← hxl]
 refine hq _ _ _ _ _ _ fr ⟨rs, by omega, rw1, fun j r x' hr hx => ?_⟩ (by omega) (fun x' hx => ?_) (by rw [hxm]; exact hP) (by rw [hxm]; exact hT) hO
 ·rw [← hxs, List.getElem?_map] at hx
  cases hs : Ls[j]? with
  | none => rw [hs] at hx; cases hx
  | some s =>
   rw [hs] at hx
   have hx' : (l4 s).take ps.length = x' := Option.some.inj hx
   obtain ⟨e1, e2⟩ := r3 j r hr s hs
   subst hx'
   have hlo := (LV_cut hl4 (hlv s (List.mem_of_getElem? hs))).1.len
   exact ⟨by omega, e2⟩
 ·rw [← hxs] at hx
  obtain ⟨s, hs, rfl⟩ := List.mem_map.1 hx
  exact (LV_cut hl4 (hlv s hs)).1
end
section
variable {k cap pc cap' : Nat} {a pa pa' : Option Addr} {bs : List Int} {ps : List Pk} {lots : Value}
set_option maxHeartbeats 2000000 in
theorem c35f (h : Chu H k a bs cap) (hs : Rx k pkE H pa ps) (h1 : 1 ≤ ps.length) (h4 : ps.length ≤ 4) (hk : ∀ p ∈ ps, 0 ≤ p.s ∧ p.s ≤ 6) (hL : L ≤ k) {n' : Nat} {M : Nat} (hM : 1000 ≤ M)
  (hq : ∀ b c l H', LotOk ps l → Rx k intE H' (some ⟨b, 0, none⟩) l → Chu H' k a bs cap → FrX k H H' → (H.size < b ∧ b < H'.size) → Q false (.slice (some ⟨b, 0, none⟩) l.length c) H') :
  resK (acall tabA (aexec tabA Try.prog M) 35 [.pointer (some ⟨k, 0, none⟩), .agg ⟨[.slice pa ps.length pc, .slice pa' n' cap', lots]⟩] H) L Q := by
 obtain ⟨N, rfl⟩ : ∃ N, M = N + 1000 := ⟨M - 1000, by omega⟩
 have hlt := h.lt
 refine call_keep tabA_fr (k := 25) (rs := [.tmp 4]) (R := fun v H' => ∃ b c l, v = .slice (some ⟨b, 0, none⟩) l.length c ∧ LotOk ps l ∧ Rx k intE H' (some ⟨b, 0, none⟩) l ∧ Chu H' k a bs cap ∧ FrX k H H' ∧ (H.size < b ∧ b < H'.size)) rfl fn_35 rfl rfl rfl (by omega) ?_ ?_ ?_
 rotate_left
 ·rintro v H' ⟨b, c, l, rfl, h1, h2, h3, h4, h5⟩
  exact hq _ _ _ _ h1 h2 h3 h4 h5
 ·rintro v H' ⟨b, c, l, rfl, -⟩ hg _; cases hg
 simp (disch:=first|(simp only [yk,seval];done)|omega|(simp only [yz]<;>omega)|fail) only [↓yp,yA,ys0,ys1,seval,fitB,newC,endD,endR,yrg,lenV_slice st_esS_22]
 refine W_while (n := 25) 500 (fun q e' H' => ∃ (i : Nat) (l : List Int) (S : Nat → Prop) (v : Value), q = ps.length - i ∧ i ≤ ps.length ∧ ML H H' k a bs cap ps pa pc i l S v e')
  ?_ 4 ps.length ⟨0, [], fun _ => False, .slice none 0 0, by omega, by omega, ?_⟩ (by omega) (by omega)
 rotate_left
 ·refine ⟨?_, ?_, ?_, ?_, ?_, h.fr (by repeat first|exact Fr.refl _|assumption|refine Fr.allocd ?_ _|refine Fr.put ?_ (by first|omega|(simp only [yz]<;>omega)) _), FrX.of (by repeat first|exact Fr.refl _|assumption|refine Fr.allocd ?_ _|refine Fr.put ?_ (by first|omega|(simp only [yz]<;>omega)) _), by (first | omega | (simp only [yz] <;> omega)), Gw.none, rfl, fun _ _ _ h => by simp at h⟩
  ·simp (disch:=first|(simp only [yk,seval];done)|omega|(simp only [yz]<;>omega)|fail) only [yg,seval] <;> rfl
  ·simp (disch:=first|(simp only [yk,seval];done)|omega|(simp only [yz]<;>omega)|fail) only [yg,seval]
  ·simp (disch:=first|(simp only [yk,seval];done)|omega|(simp only [yz]<;>omega)|fail) only [yg,seval]
  ·simp (disch:=first|(simp only [yk,seval];done)|omega|(simp only [yz]<;>omega)|fail) only [yg,seval]
  ·simp (disch:=first|(simp only [yk,seval];done)|omega|(simp only [yz]<;>omega)|fail) only [yg,seval]
 rintro M1 q e H' ⟨i, l, S, v, rfl, hi, I⟩
 have sz := I.sz
 have g11 := I.g11
 have g10 := I.g10
 have g9 := I.g9
 have g5 := I.g5
 have g0 := I.g0
 have f0 := I.fr.size
 simp (disch:=first|(simp only [yk,seval];done)|omega|(simp only [yz]<;>omega)|fail) only [↓yp,yA,ys0,ys1,seval,fitB,newC,endD,endR,yrg,g11,g10]
 refine ⟨fun hA => ?_, fun hA => ?_⟩
 ·have hi' : i < ps.length := by simpa using hA
  obtain ⟨p, hp⟩ : ∃ p, ps[i]? = some p := ⟨ps[i], by simp [hi']⟩
  have hps := hk p (List.mem_of_getElem? hp)
  have hsr := hs.frx I.fr
  obtain ⟨b, o, c, rfl, hb, hc, hq⟩ := hsr.rw.at_ hp
  have q : part c (o + i * 4) 5 = some (.agg ⟨p.enc⟩) := part_of hq rfl
  simp only [Pk.enc] at q
  have w1 : w64 (p.s + 1) = p.s + 1 := w64_of (by omega)
  have hw2 : w64 ((i : Int) + 1) = ((i + 1 : Nat) : Int) := by rw [w64_of (by omega)]; omega
  simp (disch:=first|(simp only [yk,seval];done)|omega|(simp only [yz]<;>omega)|fail) only [↓yp,yA,ys0,ys1,seval,fitB,newC,endD,endR,yrg,g11,g9,g5,g0,A_indexSlice st_esS_22,hc,q,w1]
  refine c42 ((I.chu.fr (Fr.alloc _ _)).other (j := H'.size) (by omega) (fun c e => by rw [get_alloc_eq rfl] at e; cases e)) hL (by omega) (by omega) ?_
  rintro f1 n H1 - ⟨p1, p2⟩ hc1 hx1 hs1
  simp only [size_put,size_alloc] at hs1
  have x1 : FrX k H' H1 := ⟨by omega, fun q h1 h2 => by rw [hx1.same q (by first|omega|(simp only [yz]<;>omega)) h2, get_put_ne (by omega), get_alloc_lt h1]⟩
  simp (disch:=first|(simp only [yk,seval];done)|omega|(simp only [yz]<;>omega)|fail) only [↓yp,yA,ys0,ys1,seval,fitB,newC,endD,endR,yrg,A_buildSlice st_brS_49_1]
  have r1 := I.r.frx (fun h => by have := (I.r.own _ h).1; omega) x1
  refine gw_append (i := i) (cs := intE.fl l) (news := [.int .i64 n]) st_apS_49 (r1.fr (by repeat first|exact Fr.refl _|assumption|refine Fr.allocd ?_ _|refine Fr.put ?_ (by first|omega|(simp only [yz]<;>omega)) _)) (by first|omega|(simp only [yz]<;>omega)) (by rw [fl_length, I.len]; rfl) (by unfold srcCells; simp (disch:=first|(simp only [yk,seval];done)|omega|(simp only [yz]<;>omega)|fail) only [yg,seval] <;> rfl) (by omega) (by omega) rfl (by omega) ?_
  intro a2 c2 H2 hs2 fs2 gw
  simp only [size_alloc] at hs2 fs2 gw
  have x2 : FrX k H H2 := ⟨by omega, fun q h1 h2 => by
   rw [fs2 q (by omega) (fun h => by have := (I.r.own _ h).1; omega), get_alloc_lt (by omega), x1.same q (by omega) h2, I.fr.same q h1 h2]⟩
  have cu : Chu H2 k a bs cap := h.again x2 (by
   rw [fs2 k (by omega) (fun h => by have := (I.r.own _ h).1; omega), get_alloc_lt (by omega)]
   exact hc1.blk)
  simp (disch:=first|(simp only [yk,seval];done)|omega|(simp only [yz]<;>omega)|fail) only [↓yp,yA,ys0,ys1,seval,fitB,newC,endD,endR,yrg,g11,hw2]
  refine ⟨ps.length - (i + 1), by omega, i + 1, l ++ [n], fun j => S j ∨ j = H1.size + 1, .slice a2 (i + 1) c2, rfl, by omega, ?_, ?_, ?_, ?_, ?_, cu, x2, by omega, ?_, ?_, ?_⟩
  ·simp (disch:=first|(simp only [yk,seval];done)|omega|(simp only [yz]<;>omega)|fail) only [yg,seval]
  ·simp (disch:=first|(simp only [yk,seval];done)|omega|(simp only [yz]<;>omega)|fail) only [yg,seval,g10]
  ·simp (disch:=first|(simp only [yk,seval];done)|omega|(simp only [yz]<;>omega)|fail) only [yg,seval,g9]
  ·simp (disch:=first|(simp only [yk,seval];done)|omega|(simp only [yz]<;>omega)|fail) only [yg,seval]
  ·simp (disch:=first|(simp only [yk,seval];done)|omega|(simp only [yz]<;>omega)|fail) only [yg,seval,g0]
  ·rw [fl_app]
   have : intE.fl [n] = [.int .i64 n] := rfl
   rw [this]
   exact gw
  ·rw [List.length_append, I.len]; rfl
  ·intro j x y hx hy
   have hl := I.len
   by_cases hj : j < i
   ·rw [List.getElem?_append_left (by omega)] at hx
    exact I.ok j x y hx hy
   ·have e1 := (List.getElem?_eq_some_iff.1 hx).1
    rw [List.length_append, hl] at e1
    simp only [List.length_cons,List.length_nil] at e1
    have : j = i := by omega
    subst this
    rw [List.getElem?_append_right (by omega), hl, Nat.sub_self] at hx
    simp only [List.getElem?_cons_zero,Option.some.injEq] at hx
    rw [hp] at hy
    cases hy
    subst hx
    omega
 ·have hi' : i = ps.length := by have := of_decide_eq_false hA; omega
  obtain ⟨b, al, rfl, s1, k1, -⟩ := I.r.cons (by omega)
  simp (disch:=first|(simp only [yk,seval];done)|omega|(simp only [yz]<;>omega)|fail) only [↓yp,yA,ys0,ys1,seval,fitB,newC,endD,endR,yrg,g5]
  refine ⟨b, OPEN + 1, l, by rw [I.len], ⟨by rw [I.len]; exact hi', I.ok⟩, ?_, I.chu, I.fr, I.r.own _ s1⟩
  have := I.r
  rw [← I.len] at this
  exact this.rx (fun h => by have := (I.r.own _ h).1; omega)
end
theorem newC_s {ps : List Pk} {k : Nat} {p : Pk} {v : Int} (hk : ps[k]? = some p) : newC (k * 4) [.int .i64 v] (pkE.fl ps) = pkE.fl (ps.set k ⟨v, p.w, p.o, p.f⟩) := by
 obtain ⟨h, hr⟩ := List.getElem?_eq_some_iff.1 hk
 have e : ps = ps.take k ++ (p :: ps.drop (k + 1)) := by
  rw [← hr, List.getElem_cons_drop, List.take_append_drop]
 have hk : (pkE.fl (ps.take k)).length = k * 4 := by rw [fl_length, List.length_take]; show _ * 4 = _; congr 1; omega
 have e2 : pkE.fl ps = pkE.fl (ps.take k) ++ (pkE.f p ++ pkE.fl (ps.drop (k + 1))) := by
  conv => lhs; rw [e]
  rw [fl_app]; rfl
 have e3 : pkE.fl (ps.set k ⟨v, p.w, p.o, p.f⟩) = pkE.fl (ps.take k) ++ (pkE.f ⟨v, p.w, p.o, p.f⟩ ++ pkE.fl (ps.drop (k + 1))) := by
  rw [List.set_eq_take_append_cons_drop, if_pos h, fl_app]; rfl
 have hz : k * 4 = (pkE.fl (ps.take k)).length + 0 := by omega
 rw [e2, e3, hz, newC_app, newC_pre (by show 0 + 1 ≤ 4; omega)]
 rfl
theorem stk_sub {left left' : List Pk} {l : List Int} (h4 : left.length ≤ 4) (hl : LotOk left l) (hll : left'.length = left.length) (h : ∀ (i : Nat) (q : Pk) (n : Int), left[i]? = some q → l[i]? = some n → left'[i]? = some ⟨q.s - n, q.w, q.o, q.f⟩) : stk left' = sbL (stk left) (mx l) := by
 have hlv := lot_LV h4 hl
 have hln := hl.len
 have key : ∀ {r x : List Int} {i : Nat} {a b : Int}, LV r x → r[i]? = some a → x[i]? = some b → (sbL r x)[i]? = some (a - b) := by
  intro r
  induction r with
  | nil => intro x i a b _ h1 _; simp at h1
  | cons m ms ih =>
   intro x i a b hv h1 h2
   match x, hv with
   | y :: ys, hv =>
    cases i with
    | zero =>
     simp only [List.getElem?_cons_zero,Option.some.injEq] at h1 h2
     subst h1 h2
     rfl
    | succ i => exact ih (x := ys) (i := i) hv.2 (by simpa using h1) (by simpa using h2)
 apply List.ext_getElem?
 intro i
 by_cases hi : i < 4
 ·obtain ⟨a, ha⟩ : ∃ a, (stk left)[i]? = some a := ⟨(stk left)[i]'(by rw [stk_len h4]; exact hi), List.getElem?_eq_getElem _⟩
  obtain ⟨b, hb⟩ : ∃ b, (mx l)[i]? = some b := ⟨(mx l)[i]'(by rw [mx_len (by omega)]; exact hi), List.getElem?_eq_getElem _⟩
  rw [key hlv ha hb]
  by_cases hin : i < left.length
  ·have hq : left[i]? = some left[i] := by simp [hin]
   have hn : l[i]? = some (l[i]'(by omega)) := List.getElem?_eq_getElem _
   rw [stk_lt (by omega) (h i _ _ hq hn)]
   rw [stk_lt h4 hq] at ha
   rw [mx_lt (by omega), hn] at hb
   cases ha
   cases hb
   rfl
  ·obtain ⟨c, hc⟩ : ∃ c, (stk left')[i]? = some c := ⟨(stk left')[i]'(by rw [stk_len (by omega)]; exact hi), List.getElem?_eq_getElem _⟩
   have e1 := stk_ge h4 (by omega) ha
   have e2 := mx_ge (by omega) hb
   have e3 := stk_ge (by omega) (by omega) hc
   rw [hc]
   congr 1
   omega
 ·rw [List.getElem?_eq_none (by rw [stk_len (by omega)]; omega), List.getElem?_eq_none (by rw [sbL_len hlv, stk_len h4]; omega)]
theorem Chu.keep {k cap : Nat} {a : Option Addr} {bs : List Int} (h : Chu H k a bs cap) (hz : H.size ≤ H'.size) (hk : H'.get k = H.get k) (ha : bs ≠ [] → ∀ b o, a = some ⟨b, o, none⟩ → b ≠ k → H'.get b = H.get b) : Chu H' k a bs cap where
 lt := by have := h.lt; omega
 blk := by rw [hk]; exact h.blk
 row := fun hne => by
  obtain ⟨b, o, c, e, w1, w2, w3⟩ := h.row hne
  have hbk : b ≠ k := by
   rintro rfl
   obtain ⟨u, s, hb, -⟩ := h.blk
   rw [hb] at w2
   cases w2
  exact ⟨b, o, c, e, by omega, by rw [ha hne b o e hbk]; exact w2, w3⟩
 byte := h.byte
 len := h.len
structure EA (z kq : Nat) (aq : Option Addr) (bq : List Int) (cq i5 b1 c1 b2 c2 k : Nat) (ps : List Pk) (gs : List Gd) (n : Int) (H' : AHeap) (e : VT) : Prop where
 st : StR H' (some ⟨b1, 0, none⟩) (some ⟨b2, 0, none⟩) ps gs (k : Int)
 gn : gs ≠ []
 opt : OptR (brg ps gs) (stk ps) k n
 chu : Chu H' kq aq bq cq
 zs : b1 < z ∧ b2 < z ∧ i5 < z ∧ kq < z ∧ z ≤ H'.size
 ne : b1 ≠ kq ∧ b2 ≠ kq ∧ i5 ≠ kq
 al : bq ≠ [] → ∀ b o, aq = some ⟨b, o, none⟩ → b < z
 b5 : H'.get i5 = .rw [.slice (some ⟨b1, 0, none⟩) ps.length c1, .slice (some ⟨b2, 0, none⟩) gs.length c2, .int .i64 (k : Int)] 25 false []
 g5 : gt 175 e 5 = .pointer (some ⟨i5, 0, none⟩)
 g7 : gt 175 e 7 = .pointer (some ⟨kq, 0, none⟩)
 g9 : gt 175 e 9 = .int .i64 n
section
variable {z kq cq i5 b1 c1 b2 c2 k : Nat} {aq : Option Addr} {bq : List Int} {ps : List Pk} {gs : List Gd} {n : Int} {e e' : VT}
theorem EA.next (I : EA z kq aq bq cq i5 b1 c1 b2 c2 k ps gs n H e) (hz : H.size ≤ H'.size) (hs : ∀ j, j < z → j ≠ kq → H'.get j = H.get j) (hc : Chu H' kq aq bq cq) (h : Keep 175 [5, 7, 9] e e') : EA z kq aq bq cq i5 b1 c1 b2 c2 k ps gs n H' e' where
 st := ⟨rw_same I.st.hs hz (hs _ I.zs.1 I.ne.1), rw_same I.st.hg hz (hs _ I.zs.2.1 I.ne.2.1), I.st.ok⟩
 gn := I.gn
 opt := I.opt
 chu := hc
 zs := by have := I.zs; omega
 ne := I.ne
 al := I.al
 b5 := (hs _ I.zs.2.2.1 I.ne.2.2).trans I.b5
 g5 := (h 5 (by decide)).trans I.g5
 g7 := (h 7 (by decide)).trans I.g7
 g9 := (h 9 (by decide)).trans I.g9
end
structure EI (z kq : Nat) (aq : Option Addr) (bq : List Int) (cq i5 b1 c1 b2 c2 k i16 bL cL bG cG : Nat) (ps : List Pk) (gs : List Gd) (n : Int) (t : Nat) (left : List Pk) (xs : List (List Int)) (rs : List (Option Addr × Nat × Nat)) (S : Nat → Prop) (v17 : Value) (H' : AHeap) (e : VT) : Prop where
 ea : EA z kq aq bq cq i5 b1 c1 b2 c2 k ps gs n H' e
 b16 : H'.get i16 = .rw [.slice (some ⟨bL, 0, none⟩) ps.length cL, .slice (some ⟨bG, 0, none⟩) gs.length cG, .int .i64 (k : Int)] 25 false []
 bl : H'.get bL = .rw (pkE.fl left) 87 true []
 g16 : gt 175 e 16 = .pointer (some ⟨i16, 0, none⟩)
 g17 : gt 175 e 17 = v17
 gw : Gw H' i16 S v17 t (rowE.fl rs) 49 1
 rl : rs.length = t
 xl : xs.length = t
 rows : ∀ (j : Nat) (r : Option Addr × Nat × Nat) (x : List Int), rs[j]? = some r → xs[j]? = some x → r.2.1 = x.length ∧ ∃ b, r.1 = some ⟨b, 0, none⟩ ∧ i16 < b ∧ b < H'.size ∧ ¬ S b ∧ Rw intE H' r.1 x
 ll : left.length = ps.length
 le : ∀ (i : Nat) (p q : Pk), left[i]? = some q → ps[i]? = some p → 0 ≤ q.s ∧ q.s ≤ p.s
 pl : ∀ (m : Nat) (M : List (List Int)), Pl (stk left) m M → Pl (stk ps) (t + m) (xs.map mx ++ M)
 lo : ∀ x ∈ xs, LotOk ps x
 zz : z ≤ bL ∧ bL < i16 ∧ i16 < H'.size
end Go.Am.K
namespace Go.Am.K
open Go.Proofs
variable {T : Tab} {P : Program} {N L : Nat} {H H' H'' : AHeap} {Q : Bool → Value → AHeap → Prop}
section
variable {z kq cq i5 b1 c1 b2 c2 k i16 bL cL bG cG t : Nat} {aq : Option Addr} {bq : List Int} {ps left : List Pk} {gs : List Gd} {n : Int} {xs : List (List Int)} {rs : List (Option Addr × Nat × Nat)} {S : Nat → Prop} {v17 : Value} {e e' : VT}
set_option maxHeartbeats 16000000 in
set_option maxRecDepth 10000 in
theorem c6S (hL : L ≤ kq) (I : EI z kq aq bq cq i5 b1 c1 b2 c2 k i16 bL cL bG cG ps gs n t left xs rs S v17 H e) (ht : t ≤ 4) :
  W tabA Try.prog (N + 1600) none (sub [true, true, true, true, true, true, true, true, true, true, true, true, false, true, false, false, true, true, false, false, true, true, false, true, false, false, true, true, false, false] (bodyOf Try.f6)) L ⟨175, e, H, []⟩ (endK 175 [] fun e' H' => ∃ left' xs' rs' S' v', EI z kq aq bq cq i5 b1 c1 b2 c2 k i16 bL cL bG cG ps gs n (t + 1) left' xs' rs' S' v' H' e' ∧ Keep 175 [123, 131, 132] e e' ∧ H.size ≤ H'.size ∧ ∀ j, j < z → j ≠ kq → H'.get j = H.get j) := by
 obtain ⟨TL, hTL⟩ : ∃ c, sub ([true, true, true, true, true, true, true, true, true, true, true, true, false, true, false, false, true, true, false, false, true, true, false, true, false, false, true, true, false, false] ++ [true, true]) (bodyOf Try.f6) = c := ⟨_, rfl⟩
 have hTL0 := hTL
 simp only [Try.f6,bodyOf,List.cons_append,List.nil_append,sub_nil,sub_seq0,sub_seq1,sub_block,sub_loop,sub_cond0,sub_cond1] at hTL ⊢
 rw [hTL]
 have A := I.ea
 have hst := A.st.st
 have hp4 := hst.l4
 have hp1 := hst.l1
 have hpk := A.st.pk
 have zs := A.zs
 have zz := I.zz
 have ll := I.ll
 have g7 := A.g7
 have g16 := I.g16
 have b16 := I.b16
 rw [← ll] at b16
 have rxl : Rx kq pkE H (some ⟨bL, 0, none⟩) left := ⟨Rw.of (r := []) (by omega) (by rw [I.bl]; rfl) (by rw [List.append_nil]), fun _ b o s e => by cases e; omega⟩
 have hk6 : ∀ p ∈ left, 0 ≤ p.s ∧ p.s ≤ 6 := fun q hq => by
  obtain ⟨i, hi⟩ := List.getElem?_of_mem hq
  have hil := (List.getElem?_eq_some_iff.1 hi).1
  have h1 := I.le i (ps[i]'(by omega)) q hi (List.getElem?_eq_getElem _)
  have h2 := (hpk _ (List.getElem_mem (show i < ps.length by omega))).s
  omega
 simp (disch:=first|(simp only [yk,seval];done)|omega|(simp only [yz]<;>omega)|fail) only [↓yp,yA,ys0,ys1,seval,fitB,newC,endD,endR,yrg,g7,g16,b16]
 refine c35f A.chu rxl (by omega) (by omega) hk6 hL (by omega) ?_
 intro b4 c4 l H1 lok r4 hc1 hx1 hb4
 have s1 := hx1.size
 have o1 := hx1.same
 have lln := lok.len
 have b161 := (o1 i16 (by omega) (by omega)).trans b16
 have bl1 := (o1 bL (by omega) (by omega)).trans I.bl
 simp (disch:=first|(simp only [yk,seval];done)|omega|(simp only [yz]<;>omega)|fail) only [↓yp,yA,ys0,ys1,seval,fitB,newC,endD,endR,yrg,lenV_slice st_esS_49]
 refine W_while (n := 175) 400 (fun q e' H' => ∃ (i : Nat) (qs : List Pk), q = l.length - i ∧ i ≤ l.length ∧ Keep 175 [5, 7, 9, 16, 17, 123, 131, 132] e e' ∧ gt 175 e' 139 = .int .i64 (i : Nat) ∧ gt 175 e' 138 = .int .i64 (l.length : Nat) ∧ gt 175 e' 137 = .slice (some ⟨b4, 0, none⟩) l.length c4 ∧ gt 175 e' 18 = .slice (some ⟨b4, 0, none⟩) l.length c4 ∧ H'.size = H1.size ∧ (∀ j, j < H1.size → j ≠ bL → H'.get j = H1.get j) ∧ H'.get bL = .rw (pkE.fl qs) 87 true [] ∧ qs.length = left.length ∧ (∀ (j : Nat) (q : Pk) (m : Int), j < i → left[j]? = some q → l[j]? = some m → qs[j]? = some ⟨q.s - m, q.w, q.o, q.f⟩) ∧ ∀ j, i ≤ j → qs[j]? = left[j]?)
  ?_ 9 l.length ⟨0, left, by omega, by omega, by (with_reducible repeat first|refine Keep.put ?_ (by decide)|refine Keep.none ?_|assumption|exact Keep.refl _ _ _), ?_, ?_, ?_, ?_, rfl, fun _ _ _ => rfl, bl1, rfl, fun j q m h => by omega, fun _ _ => rfl⟩ (by omega) (by omega)
 rotate_left
 ·simp (disch:=first|(simp only [yk,seval];done)|omega|(simp only [yz]<;>omega)|fail) only [yg,seval] <;> rfl
 ·simp (disch:=first|(simp only [yk,seval];done)|omega|(simp only [yz]<;>omega)|fail) only [yg,seval]
 ·simp (disch:=first|(simp only [yk,seval];done)|omega|(simp only [yz]<;>omega)|fail) only [yg,seval]
 ·simp (disch:=first|(simp only [yk,seval];done)|omega|(simp only [yz]<;>omega)|fail) only [yg,seval]
 rintro M1 q e' H2 ⟨i, qs, rfl, hi, kp, g139, g138, g137, g18, s2, o2, bl2, ql, new, old⟩
 have g16' := (kp 16 (by decide)).trans g16
 have b162 := (o2 i16 (by omega) (by omega)).trans b161
 have rl2 : Rw intE H2 (some ⟨b4, 0, none⟩) l := rw_same r4.rw (by omega) (o2 b4 (by omega) (by omega))
 simp (disch:=first|(simp only [yk,seval];done)|omega|(simp only [yz]<;>omega)|fail) only [↓yp,yA,ys0,ys1,seval,fitB,newC,endD,endR,yrg,g139,g138]
 refine ⟨fun hT => ?_, fun hT => ?_⟩
 ·have hlt : i < l.length := by have := of_decide_eq_true hT; omega
  have hw2 : w64 ((i : Int) + 1) = ((i + 1 : Nat) : Int) := by rw [w64_of (by omega)]; omega
  obtain ⟨m, hm⟩ : ∃ m, l[i]? = some m := ⟨l[i], by simp [hlt]⟩
  obtain ⟨p, hp⟩ : ∃ p, left[i]? = some p := ⟨left[i]'(by omega), List.getElem?_eq_getElem _⟩
  have hqp := (old i (Nat.le_refl _)).trans hp
  have hmp := lok.ok i m p hm hp
  have hp6 := hk6 p (List.mem_of_getElem? hp)
  obtain ⟨b', o', cl, ex, hbl, hcl, hql⟩ := rl2.at_ hm
  cases ex
  have hl1 : cl[i]? = some (.int .i64 m) := by
   have := cell_of (k := 0 + i * 1) hql
   rwa [Nat.mul_one, Nat.zero_add] at this
  have hce : (pkE.fl qs)[i * 4]? = some (.int .i64 p.s) := by
   have h0 : ((pkE.fl qs).drop (i * 4)).take 4 = pkE.f p := fl_at (E := pkE) hqp
   have h1 : (((pkE.fl qs).drop (i * 4)).take 4)[0]? = some (.int .i64 p.s) := by rw [h0]; rfl
   rw [List.getElem?_take, if_pos (by omega), List.getElem?_drop, Nat.add_zero] at h1
   exact h1
  have w1 : w64 (p.s - m) = p.s - m := w64_of (by omega)
  have hset : newC (i * 4) [.int .i64 (p.s - m)] (pkE.fl qs) = pkE.fl (qs.set i ⟨p.s - m, p.w, p.o, p.f⟩) := newC_s hqp
  have hfl : (pkE.fl qs).length = left.length * 4 := by rw [fl_length, ql]; rfl
  have hfit : decide (i * 4 + 1 ≤ left.length * 4) = true := decide_eq_true (by omega)
  obtain ⟨qf, hqf⟩ : ∃ f, pkE.fl qs = f := ⟨_, rfl⟩
  obtain ⟨qf', hqf'⟩ : ∃ f, pkE.fl (qs.set i ⟨p.s - m, p.w, p.o, p.f⟩) = f := ⟨_, rfl⟩
  rw [hqf] at bl2 hset hfl hce
  rw [hqf'] at hset
  have hset' : List.take (i * 4) qf ++ [.int .i64 (p.s - m)] ++ List.drop (i * 4 + 1) qf = qf' := hset
  have hil : decide ((i : Int) < (left.length : Int)) = true := decide_eq_true (by omega)
  simp (disch:=first|(simp only [yk,seval];done)|omega|(simp only [yz]<;>omega)|fail) only [↓yp,yA,ys0,ys1,seval,fitB,newC,endD,endR,yrg,g139,g138,g137,g16',b162,A_indexSlice st_esS_49,A_indexSlice st_esS_22,hcl,hl1,bl2,hce,w1,hfl,hfit,hset',Nat.mul_one,Nat.zero_add,Nat.add_zero,hw2]
  refine ⟨l.length - (i + 1), by omega, i + 1, qs.set i ⟨p.s - m, p.w, p.o, p.f⟩, rfl, by omega, Keep.trans kp (by (with_reducible repeat first|refine Keep.put ?_ (by decide)|refine Keep.none ?_|assumption|exact Keep.refl _ _ _)), ?_, ?_, ?_, ?_, by (first | omega | (simp only [yz] <;> omega)), fun j h1 h2 => ?_, ?_, by rw [List.length_set]; exact ql, fun j q m' hj hq hm' => ?_, fun j hj => ?_⟩
  ·simp (disch:=first|(simp only [yk,seval];done)|omega|(simp only [yz]<;>omega)|fail) only [yg,seval]
  ·simp (disch:=first|(simp only [yk,seval];done)|omega|(simp only [yz]<;>omega)|fail) only [yg,seval,g138]
  ·simp (disch:=first|(simp only [yk,seval];done)|omega|(simp only [yz]<;>omega)|fail) only [yg,seval,g137]
  ·simp (disch:=first|(simp only [yk,seval];done)|omega|(simp only [yz]<;>omega)|fail) only [yg,seval,g18]
  ·rw [get_put_ne h2]; exact o2 j h1 h2
  ·rw [hqf']; exact get_put_same (by omega)
  ·by_cases hji : j = i
   ·subst hji
    rw [hp] at hq
    rw [hm] at hm'
    cases hq
    cases hm'
    exact List.getElem?_set_self (by omega)
   ·rw [List.getElem?_set_ne (Ne.symm hji)]
    exact new j q m' (by omega) hq hm'
  ·rw [List.getElem?_set_ne (by omega)]
   exact old j (by omega)
 have hie : i = l.length := by have := of_decide_eq_false hT; omega
 subst hie
 simp (disch:=first|(simp only [yk,seval];done)|omega|(simp only [yz]<;>omega)|fail) only [↓yp,yA,ys0,ys1,seval,fitB,newC,endD,endR,yrg]
 rw [← hTL]
 have g17' := (kp 17 (by decide)).trans I.g17
 have st82 : apS tabA 82 = some (49, 1, 24) := by kernel_rfl
 have low : ∀ q, q ≤ i16 → ¬ S q := fun q hq hS => by have := (I.gw.own q hS).1; omega
 have gw2 : Gw H2 i16 S v17 t (rowE.fl rs) 49 1 := I.gw.same (by omega) fun q hq => by
  have := I.gw.own q hq
  rw [o2 q (by omega) (by omega)]
  exact o1 q this.2 (by omega)
 simp (disch:=first|(simp only [yk,seval];done)|omega|(simp only [yz]<;>omega)|fail) only [↓yp,yA,ys0,ys1,seval,fitB,newC,endD,endR,yrg,g17',g18,A_buildSlice st_brS_82_1]
 refine gw_append (i := t) (cs := rowE.fl rs) (news := [.slice (some ⟨b4, 0, none⟩) l.length c4]) st82 (gw2.fr (Fr.alloc _ _)) (by first|omega|(simp only [yz]<;>omega)) (by rw [fl_length, I.rl]; rfl) (by unfold srcCells; simp (disch:=first|(simp only [yk,seval];done)|omega|(simp only [yz]<;>omega)|fail) only [yg,seval] <;> rfl) (by omega) (by omega) rfl (by omega) ?_
 intro a8 c8 H3 hs8 fs8 gw8
 simp only [size_alloc] at hs8 fs8 gw8
 have hf8 : rowE.fl rs ++ [.slice (some ⟨b4, 0, none⟩) l.length c4] = rowE.fl (rs ++ [(some ⟨b4, 0, none⟩, l.length, c4)]) := by rw [fl_app]; rfl
 rw [hf8] at gw8
 have o3 : ∀ q, q < H2.size → ¬ S q → H3.get q = H2.get q := fun q hq hn => by rw [fs8 q (by omega) hn, get_alloc_lt hq]
 have oz : ∀ q, q < H.size → q ≠ kq → q ≠ bL → ¬ S q → H3.get q = H.get q := fun q h1 h2 h3 h4 => by rw [o3 q (by omega) h4, o2 q (by omega) h3]; exact o1 q h1 h2
 have sub : stk qs = sbL (stk left) (mx l) := stk_sub (by omega) lok ql fun i q m hq hm => new i q m (List.getElem?_eq_some_iff.1 hm).1 hq hm
 have lokp : LotOk ps l := ⟨by omega, fun j m p hm hp => by
  have hj := (List.getElem?_eq_some_iff.1 hp).1
  have hq : left[j]? = some (left[j]'(by omega)) := List.getElem?_eq_getElem _
  have h1 := lok.ok j m _ hm hq
  have h2 := I.le j p _ hq hp
  omega⟩
 have chu3 : Chu H3 kq aq bq cq := hc1.keep (by omega) (by rw [o3 kq (by omega) (low kq (by omega)), o2 kq (by omega) (by omega)]) fun hne b o e hb => by
  have := A.al hne b o e
  rw [o3 b (by omega) (low b (by omega)), o2 b (by omega) (by omega)]
 simp (disch:=first|(simp only [yk,seval];done)|omega|(simp only [yz]<;>omega)|fail) only [↓yp,yA,ys0,ys1,seval,fitB,newC,endD,endR,yrg]
 refine ⟨qs, xs ++ [l], rs ++ [(some ⟨b4, 0, none⟩, l.length, c4)], fun j => S j ∨ j = H2.size + 1, .slice a8 (t + 1) c8, ⟨A.next (by omega) (fun j h1 h2 => oz j (by omega) h2 (by omega) (low j (by omega))) chu3 (Keep.trans (fun j hj => kp j (by revert hj; simp; omega)) (by (with_reducible repeat first|refine Keep.put ?_ (by decide)|refine Keep.none ?_|assumption|exact Keep.refl _ _ _))), ?_, ?_, ?_, ?_, gw8, ?_, ?_, fun j r x hr hx => ?_, by omega, fun i p q hq hp => ?_, fun m M hM => ?_, fun x hx => ?_, by omega⟩, Keep.trans (fun j hj => kp j (by revert hj; simp; omega)) (by (with_reducible repeat first|refine Keep.put ?_ (by decide)|refine Keep.none ?_|assumption|exact Keep.refl _ _ _)), by omega, fun j h1 h2 => oz j (by omega) h2 (by omega) (low j (by omega))⟩
 ·rw [oz i16 (by omega) (by omega) (by omega) (low i16 (Nat.le_refl _))]; exact I.b16
 ·rw [o3 bL (by omega) (low bL (by omega))]; exact bl2
 ·simp (disch:=first|(simp only [yk,seval];done)|omega|(simp only [yz]<;>omega)|fail) only [yg,seval,g16',(kp 16 (by decide)).trans g16]
 ·simp (disch:=first|(simp only [yk,seval];done)|omega|(simp only [yz]<;>omega)|fail) only [yg,seval]
 ·rw [List.length_append, I.rl]; rfl
 ·rw [List.length_append, I.xl]; rfl
 ·have hj := (List.getElem?_eq_some_iff.1 hr).1
  rw [List.length_append, I.rl] at hj
  by_cases hjt : j < t
  ·rw [List.getElem?_append_left (by rw [I.rl]; exact hjt)] at hr
   rw [List.getElem?_append_left (by rw [I.xl]; exact hjt)] at hx
   obtain ⟨h1, b, h2, h3, h4, h5, h6⟩ := I.rows j r x hr hx
   refine ⟨h1, b, h2, h3, by omega, fun hS => ?_, ?_⟩
   ·rcases hS with hS | hS
    ·exact h5 hS
    ·omega
   ·rw [h2] at h6 ⊢
    exact rw_same h6 (by omega) (oz b h4 (by omega) (by omega) h5)
  ·obtain rfl : j = t := by simp at hj; omega
   rw [List.getElem?_append_right (by rw [I.rl]; exact Nat.le_refl _), I.rl, Nat.sub_self] at hr
   rw [List.getElem?_append_right (by rw [I.xl]; exact Nat.le_refl _), I.xl, Nat.sub_self] at hx
   cases hr
   cases hx
   have hnS : ¬ S b4 := fun hS => by have := (I.gw.own b4 hS).2; omega
   refine ⟨rfl, b4, rfl, by omega, by omega, fun hS => ?_, rw_same rl2 (by omega) (o3 b4 (by omega) hnS)⟩
   rcases hS with hS | hS
   ·exact hnS hS
   ·omega
 ·have hil := (List.getElem?_eq_some_iff.1 hq).1
  have hql : left[i]? = some (left[i]'(by omega)) := List.getElem?_eq_getElem _
  have hml : l[i]? = some (l[i]'(by omega)) := List.getElem?_eq_getElem _
  have h1 := new i _ _ (by omega) hql hml
  rw [hq] at h1
  cases h1
  have h2 := I.le i p _ hql hp
  have h3 := lok.ok i _ _ hml hql
  show 0 ≤ _ - _ ∧ _ - _ ≤ _
  omega
 ·have h1 := I.pl (m + 1) (mx l :: M) ⟨lot_LV (by omega) lok, by rw [← sub]; exact hM⟩
  rw [show t + 1 + m = t + (m + 1) by omega, List.map_append, List.append_assoc]
  exact h1
 ·rcases List.mem_append.1 hx with hx | hx
  ·exact I.lo x hx
  ·simp only [List.mem_singleton] at hx
   subst hx
   exact lokp
end
end Go.Am.K
