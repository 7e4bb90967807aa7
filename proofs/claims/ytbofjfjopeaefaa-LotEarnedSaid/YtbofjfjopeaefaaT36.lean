import Derived.Test.YtbofjfjopeaefaaT35
import Derived.Test.YtbofjfjopeaefaaT16
import Derived.Test.YtbofjfjopeaefaaT33
set_option linter.unusedSimpArgs false
set_option linter.unusedVariables false
namespace Go.Am.K
open Go.Proofs
variable {T : Tab} {P : Program} {N L : Nat} {H H' H'' : AHeap} {Q : Bool → Value → AHeap → Prop}
theorem W_gen {r : Option Nat} {c : Code} {n : Nat} {e : VT} {ds : List Nat} {Q : Exit → ES → Prop} (I : VT → AHeap → Prop) (hi : I e H) (h : ∀ e H, I e H → W T P N r c L ⟨n, e, H, ds⟩ Q) : W T P N r c L ⟨n, e, H, ds⟩ Q := h e H hi
section
variable {k cap i j np : Nat} {a : Option Addr} {bs : List Int} {M n m fo pr : Int} {ps : List Pk} {rs : List Int} {gs : List Gd} {S1 S2 S3 : Nat → Prop} {v1 v2 v3 : Value} {e e' : VT}
theorem MP.mg (I : MP H H' k a bs cap M n i ps rs S1 S2 v1 v2 e) (hk : k < H.size) (hc : Chu H'' k a bs cap) (f : FrX k H' H'') (h : Keep 120 [0, 6, 8, 9] e e') (h95 : gt 120 e' 95 = .int .i64 m) (h96 : gt 120 e' 96 = .int .i64 ((0 : Nat) : Int)) : MG H H'' k a bs cap M m 0 i ps rs [] S1 S2 (fun _ => False) v1 v2 (.slice none 0 0) e' where
 g96 := h96
 g95 := h95
 g9 := (h 9 (by decide)).trans I.g9
 g8 := (h 8 (by decide)).trans I.g8
 g6 := (h 6 (by decide)).trans I.g6
 g0 := (h 0 (by decide)).trans I.g0
 chu := hc
 fr := I.fr.trans f
 sz := Nat.lt_of_lt_of_le I.sz f.size
 b8 := (f.same _ I.sz (by omega)).trans I.b8
 b6 := (f.same _ (by have := I.sz; omega) (by omega)).trans I.b6
 r1 := I.r1.frx (fun h => by have := (I.r1.own _ h).1; omega) f
 r2 := I.r2.frx (fun h => by have := (I.r2.own _ h).1; omega) f
 r3 := Gw.none
 d13 _ _ h := h
 d23 _ _ h := h
 l1 := I.l1
 l2 := I.l2
 ok := I.ok
structure Mk (k : Nat) (P M : Int) (ps : List Pk) (gs : List Gd) (rs : List Int) (lots : Int) : Prop where
 l1 : 1 ≤ ps.length
 lP : (ps.length : Int) ≤ P
 lr : rs.length = ps.length
 ok : ∀ (j : Nat) (p : Pk) (r : Int), ps[j]? = some p → rs[j]? = some r → PkIn M p r
 g1 : 1 ≤ gs.length
 g3 : gs.length ≤ 3
 ord : ordB gs = true
 gok : ∀ g ∈ gs, (0 ≤ g.fo ∧ g.fo ≤ 100) ∧ (1 ≤ g.pr ∧ g.pr ≤ 100)
 lots : 1 ≤ lots ∧ lots ≤ 3
 fst : ∀ g, gs[0]? = some g → 40 ≤ g.pr
set_option maxHeartbeats 4000000 in
theorem c33 {P M : Int} (h : Chu H k a bs cap) (hP : 1 ≤ P ∧ P ≤ 4) (hM : 1 ≤ M ∧ M ≤ 6) (hL : L ≤ k) {F : Nat} (hF : 3000 ≤ F)
  (hq : ∀ b1 c1 b2 c2 b3 c3 ps gs rs lots H', Mk k P M ps gs rs lots → Rx k pkE H' (some ⟨b1, 0, none⟩) ps → Rx k gdE H' (some ⟨b2, 0, none⟩) gs → Rx k intE H' (some ⟨b3, 0, none⟩) rs → Chu H' k a bs cap → FrX k H H' →
   Q false (.tuple ⟨[.agg ⟨[.slice (some ⟨b1, 0, none⟩) ps.length c1, .slice (some ⟨b2, 0, none⟩) gs.length c2, .int .i64 lots]⟩, .slice (some ⟨b3, 0, none⟩) rs.length c3]⟩) H') :
  resK (acall tabA (aexec tabA Try.prog F) 33 [.pointer (some ⟨k, 0, none⟩), .int .i64 P, .int .i64 M] H) L Q := by
 obtain ⟨N, rfl⟩ : ∃ N, F = N + 3000 := ⟨F - 3000, by omega⟩
 have hlt := h.lt
 refine call_keep tabA_fr (k := 120) (rs := [.cell 6 25, .tmp 7]) (R := fun v H' => ∃ b1 c1 b2 c2 b3 c3 ps gs rs lots, v = .tuple ⟨[.agg ⟨[.slice (some ⟨b1, 0, none⟩) ps.length c1, .slice (some ⟨b2, 0, none⟩) gs.length c2, .int .i64 lots]⟩, .slice (some ⟨b3, 0, none⟩) rs.length c3]⟩ ∧ Mk k P M ps gs rs lots ∧ Rx k pkE H' (some ⟨b1, 0, none⟩) ps ∧ Rx k gdE H' (some ⟨b2, 0, none⟩) gs ∧ Rx k intE H' (some ⟨b3, 0, none⟩) rs ∧ Chu H' k a bs cap ∧ FrX k H H') rfl fn_33 rfl rfl rfl (by omega) ?_ ?_ ?_
 rotate_left
 ·rintro v H' ⟨b1, c1, b2, c2, b3, c3, ps, gs, rs, lots, rfl, h1, h2, h3, h4, h5, h6⟩
  exact hq _ _ _ _ _ _ _ _ _ _ _ h1 h2 h3 h4 h5 h6
 ·rintro v H' ⟨b1, c1, b2, c2, b3, c3, ps, gs, rs, lots, rfl, -⟩ hg _; cases hg
 simp (disch:=first|(simp only [yk,seval];done)|omega|(simp only [yz]<;>omega)|fail) only [↓yp,yA,ys0,ys1,seval,fitB,newC,endD,endR,yrg]
 refine c51 (h.fr (by repeat first|exact Fr.refl _|assumption|refine Fr.allocd ?_ _|refine Fr.put ?_ (by first|omega|(simp only [yz]<;>omega)) _)) hL (by omega) (by omega) ?_
 rintro f1 n H1 - p1 p2 hc1 hx1 hs1
 simp only [size_alloc] at hs1
 have t6 := hx1.same H.size (by first|omega|(simp only [yz]<;>omega)) (by omega)
 have t8 := hx1.same (H.size + 1) (by first|omega|(simp only [yz]<;>omega)) (by omega)
 rw [get_alloc_eq (by first|omega|(simp only [yz]<;>omega))] at t8
 rw [get_alloc_lt (by first|omega|(simp only [yz]<;>omega)), get_alloc_eq rfl] at t6
 have fx : FrX k H H1 := ⟨by omega, fun q h1 h2 => by rw [hx1.same q (by first|omega|(simp only [yz]<;>omega)) h2, get_alloc_lt (by first|omega|(simp only [yz]<;>omega)), get_alloc_lt h1]⟩
 simp (disch:=first|(simp only [yk,seval];done)|omega|(simp only [yz]<;>omega)|fail) only [↓yp,yA,ys0,ys1,seval,fitB,newC,endD,endR,yrg]
 refine W_while (n := 120) 800 (fun q e' H' => ∃ (i : Nat) (ps : List Pk) (rs : List Int) (S1 S2 : Nat → Prop) (v1 v2 : Value), q = (n - i).toNat ∧ (i : Int) ≤ n ∧ MP H H' k a bs cap M n i ps rs S1 S2 v1 v2 e')
  ?_ 4 n.toNat ⟨0, [], [], fun _ => False, fun _ => False, .slice none 0 0, .slice none 0 0, by omega, by omega, ?_⟩ (by omega) (by omega)
 rotate_left
 ·refine ⟨?_, ?_, ?_, ?_, ?_, ?_, ?_, hc1, fx, by omega, t8, t6, Gw.none, Gw.none, fun _ h => h.elim, rfl, rfl, fun _ _ _ h => by simp at h⟩
  ·simp (disch:=first|(simp only [yk,seval];done)|omega|(simp only [yz]<;>omega)|fail) only [yg,seval] <;> rfl
  ·simp (disch:=first|(simp only [yk,seval];done)|omega|(simp only [yz]<;>omega)|fail) only [yg,seval]
  ·simp (disch:=first|(simp only [yk,seval];done)|omega|(simp only [yz]<;>omega)|fail) only [yg,seval]
  ·simp (disch:=first|(simp only [yk,seval];done)|omega|(simp only [yz]<;>omega)|fail) only [yg,seval]
  ·simp (disch:=first|(simp only [yk,seval];done)|omega|(simp only [yz]<;>omega)|fail) only [yg,seval]
  ·simp (disch:=first|(simp only [yk,seval];done)|omega|(simp only [yz]<;>omega)|fail) only [yg,seval]
  ·simp (disch:=first|(simp only [yk,seval];done)|omega|(simp only [yz]<;>omega)|fail) only [yg,seval]
 clear t6 t8 fx hs1 hx1 hc1
 rintro M1 q e H' ⟨i, ps, rs, S1, S2, v1, v2, rfl, hi, I⟩
 have sz := I.sz
 have g19 := I.g19
 have g18 := I.g18
 simp (disch:=first|(simp only [yk,seval];done)|omega|(simp only [yz]<;>omega)|fail) only [↓yp,yA,ys0,ys1,seval,fitB,newC,endD,endR,yrg,g19,g18]
 refine ⟨fun hA => ?_, fun hA => ?_⟩
 ·have hi' : (i : Int) < n := by simpa using hA
  have hw2 : w64 ((i : Int) + 1) = ((i + 1 : Nat) : Int) := by rw [w64_of (by omega)]; omega
  refine W_skipI (by omega) ?_
  rw [W_seq, W_block]
  refine W_seqI (fun e' H'' => ∃ (s : Int) (j : Nat), MP H H'' k a bs cap M n i ps rs S1 S2 v1 v2 e' ∧ gt 120 e' 10 = .pointer (some ⟨j, 0, none⟩) ∧ H.size + 1 < j ∧ ¬ S1 j ∧ ¬ S2 j ∧ j < H''.size ∧ H''.get j = .rw [.int .i64 s, .int .i64 0, .int .i64 0, .int .i64 0] 87 false [] ∧ 1 ≤ s ∧ s ≤ M) (W_end (c33a hlt hL hM (I.fr' hlt (Fr.refl _) (by (with_reducible repeat first|refine Keep.put ?_ (by decide)|refine Keep.none ?_|assumption|exact Keep.refl _ _ _)))) ?_) ?_
  ·rintro e' H'' ⟨s, h1, h2, h3, h4, h5, h6⟩
   have hn := I.new (j := H'.size) (Nat.le_refl _)
   exact ⟨rfl, rfl, s, _, h1, h2, sz, hn.1, hn.2, h3, h4, h5, h6⟩
  clear sz g19 g18 I
  rintro e H' ⟨s, j, I, g10, hj, n1, n2, hjs, hb, p5, p6⟩
  refine W_seqI (fun e' H'' => ∃ w : Int, MP H H'' k a bs cap M n i ps rs S1 S2 v1 v2 e' ∧ gt 120 e' 10 = .pointer (some ⟨j, 0, none⟩) ∧ j < H''.size ∧ H''.get j = .rw [.int .i64 s, .int .i64 w, .int .i64 0, .int .i64 0] 87 false [] ∧ 0 ≤ w ∧ w ≤ s ∧ w ≤ 3) (W_end (c33b hlt hL (by omega) I g10 hj hjs n1 n2 hb) ?_) ?_
  ·rintro e' H'' ⟨w, h1⟩
   exact ⟨rfl, rfl, w, h1⟩
  clear g10 hjs hb I
  rintro e H' ⟨w, I, g10, hjs, hb, hw⟩
  refine W_seqI (fun e' H'' => ∃ r : Int, MP H H'' k a bs cap M n i ps rs S1 S2 v1 v2 e' ∧ gt 120 e' 10 = .pointer (some ⟨j, 0, none⟩) ∧ j < H''.size ∧ H''.get j = .rw [.int .i64 s, .int .i64 w, .int .i64 0, .int .i64 0] 87 false [] ∧ gt 120 e' 11 = .int .i64 r ∧ 0 ≤ r ∧ r ≤ w) (W_end (c33c hlt hL (by omega) I g10 hj hjs hb) ?_) ?_
  ·rintro e' H'' ⟨r, h1⟩
   exact ⟨rfl, rfl, r, h1⟩
  clear g10 hjs hb I
  rintro e H' ⟨r, I, g10, hjs, hb, g11, hr⟩
  refine W_seqI (fun e' H'' => ∃ p : Pk, MP H H'' k a bs cap M n i ps rs S1 S2 v1 v2 e' ∧ gt 120 e' 10 = .pointer (some ⟨j, 0, none⟩) ∧ gt 120 e' 11 = .int .i64 r ∧ j < H''.size ∧ H''.get j = .rw p.enc 87 false [] ∧ PkIn M p r) (W_end (c33d hlt hL ⟨p5, p6⟩ hM.2 hw hr I g10 hj hjs n1 n2 hb g11) ?_) ?_
  ·rintro e' H'' ⟨p, h1⟩
   exact ⟨rfl, rfl, p, h1⟩
  clear g10 hjs hb I g11
  rintro e H' ⟨p, I, g10, g11, hjs, hb, hp⟩
  refine W_end (c33e h hlt hL (by omega) I g10 g11 hb hp) ?_
  rintro e' H'' ⟨sz, g19, S1', S2', v1', v2', hI⟩
  simp (disch:=first|(simp only [yk,seval];done)|omega|(simp only [yz]<;>omega)|fail) only [↓yp,yA,ys0,ys1,seval,fitB,newC,endD,endR,yrg,g19,hw2]
  refine ⟨(n - (i + 1 : Nat)).toNat, by omega, i + 1, ps ++ [p], rs ++ [r], S1', S2', v1', v2', rfl, by omega, hI _ (by (with_reducible repeat first|refine Keep.put ?_ (by decide)|refine Keep.none ?_|assumption|exact Keep.refl _ _ _)) ?_⟩
  simp (disch:=first|(simp only [yk,seval];done)|omega|(simp only [yz]<;>omega)|fail) only [yg,seval]
 have hin : (i : Int) = n := by have := of_decide_eq_false hA; omega
 have g0 := I.g0
 simp (disch:=first|(simp only [yk,seval];done)|omega|(simp only [yz]<;>omega)|fail) only [↓yp,yA,ys0,ys1,seval,fitB,newC,endD,endR,yrg,g0]
 refine c42 I.chu hL (by omega) (by omega) ?_
 rintro f2 fo H2 - ⟨q1, q2⟩ hc2 hx2 hs2
 simp (disch:=first|(simp only [yk,seval];done)|omega|(simp only [yz]<;>omega)|fail) only [↓yp,yA,ys0,ys1,seval,fitB,newC,endD,endR,yrg,g0]
 refine c51 hc2 hL (by omega) (by omega) ?_
 rintro f3 pr H3 - q3 q4 hc3 hx3 hs3
 simp (disch:=first|(simp only [yk,seval];done)|omega|(simp only [yz]<;>omega)|fail) only [↓yp,yA,ys0,ys1,seval,fitB,newC,endD,endR,yrg,g0]
 refine c51 hc3 hL (by omega) (by omega) ?_
 rintro f4 m H4 - q5 q6 hc4 hx4 hs4
 simp (disch:=first|(simp only [yk,seval];done)|omega|(simp only [yz]<;>omega)|fail) only [↓yp,yA,ys0,ys1,seval,fitB,newC,endD,endR,yrg]
 refine W_while (n := 120) 800 (fun q e' H'' => ∃ (i' : Nat) (gs : List Gd) (S3 : Nat → Prop) (v3 : Value) (fo pr : Int), q = (m - i').toNat ∧ (i' : Int) ≤ m ∧ MG H H'' k a bs cap M m i' i ps rs gs S1 S2 S3 v1 v2 v3 e' ∧ GI gs fo pr i' ∧ gt 120 e' 14 = .int .i64 fo ∧ gt 120 e' 15 = .int .i64 pr)
  ?_ 3 m.toNat ⟨0, [], fun _ => False, .slice none 0 0, fo, pr, by omega, by omega, I.mg hlt hc4 ((hx2.trans hx3).trans hx4) (by (with_reducible repeat first|refine Keep.put ?_ (by decide)|refine Keep.none ?_|assumption|exact Keep.refl _ _ _)) ?_ ?_, ⟨rfl, rfl, fun g h => by simp at h, by omega, by omega, fun g h => by simp at h⟩, ?_, ?_⟩ (by omega) (by omega)
 rotate_left
 ·simp (disch:=first|(simp only [yk,seval];done)|omega|(simp only [yz]<;>omega)|fail) only [yg,seval]
 ·simp (disch:=first|(simp only [yk,seval];done)|omega|(simp only [yz]<;>omega)|fail) only [yg,seval] <;> rfl
 ·simp (disch:=first|(simp only [yk,seval];done)|omega|(simp only [yz]<;>omega)|fail) only [yg,seval]
 ·simp (disch:=first|(simp only [yk,seval];done)|omega|(simp only [yz]<;>omega)|fail) only [yg,seval]
 have il1 := I.l1
 have il2 := I.l2
 clear hs4 hx4 hc4 hs3 hx3 hc3 hs2 hx2 hc2 g0 g18 g19 sz I q1 q2 q3 q4
 rintro M2 q e H' ⟨i', gs, S3, v3, fo, pr, rfl, hi2, I, G, g14, g15⟩
 have sz := I.sz
 have g96 := I.g96
 have g95 := I.g95
 simp (disch:=first|(simp only [yk,seval];done)|omega|(simp only [yz]<;>omega)|fail) only [↓yp,yA,ys0,ys1,seval,fitB,newC,endD,endR,yrg,g96,g95]
 refine ⟨fun hB => ?_, fun hB => ?_⟩
 ·have hi' : (i' : Int) < m := by simpa using hB
  have hw2 : w64 ((i' : Int) + 1) = ((i' + 1 : Nat) : Int) := by rw [w64_of (by omega)]; omega
  have hfo := G.fo
  have hpr := G.pr
  refine W_skipI (by omega) ?_
  rw [W_seq, W_block]
  refine W_seqI (fun e' H'' => k < H''.size ∧ gt 120 e' 96 = .int .i64 (i' : Nat) ∧ gt 120 e' 14 = .int .i64 fo ∧ gt 120 e' 15 = .int .i64 pr ∧ gt 120 e' 0 = .pointer (some ⟨k, 0, none⟩) ∧ Chu H'' k a bs cap ∧ ∃ (S3' : Nat → Prop) (v3' : Value), ∀ e'' G, Chu G k a bs cap → FrX k H'' G → Keep 120 [0, 6, 8, 9, 95] e' e'' → gt 120 e'' 96 = .int .i64 ((i' + 1 : Nat) : Int) → MG H G k a bs cap M m (i' + 1) i ps rs (gs ++ [⟨fo, pr⟩]) S1 S2 S3' v1 v2 v3' e'') (W_end (c33f h hlt hL (by omega) (I.next I.chu hlt (FrX.refl _ _) (by (with_reducible repeat first|refine Keep.put ?_ (by decide)|refine Keep.none ?_|assumption|exact Keep.refl _ _ _))) G (by simp (disch:=first|(simp only [yk,seval];done)|omega|(simp only [yz]<;>omega)|fail) only [yg,seval,g14]) (by simp (disch:=first|(simp only [yk,seval];done)|omega|(simp only [yz]<;>omega)|fail) only [yg,seval,g15])) ?_) ?_
  ·rintro e' H'' ⟨h1, h2⟩
   exact ⟨rfl, rfl, by show k < H''.size; omega, h2⟩
  clear sz g96 g95 I g14 g15
  rintro e H' ⟨sz, g96, g14, g15, g0, hc, S3', v3', hI⟩
  refine W_end (c33g hL sz hc g0 (by omega) (by omega) g14 g15) ?_
  rintro e' H'' ⟨kp, hc', hx', x, y, g14', g15', hx, hy⟩
  have g96' := (kp 96 (by decide)).trans g96
  have sz' := hx'.size
  simp (disch:=first|(simp only [yk,seval];done)|omega|(simp only [yz]<;>omega)|fail) only [↓yp,yA,ys0,ys1,seval,fitB,newC,endD,endR,yrg,g96',hw2]
  refine ⟨(m - (i' + 1 : Nat)).toNat, by omega, i' + 1, gs ++ [⟨fo, pr⟩], S3', v3', fo + x, pr - y, rfl, by omega, hI _ _ hc' hx' (Keep.trans (fun j hj => kp j (by revert hj; simp; omega)) (by (with_reducible repeat first|refine Keep.put ?_ (by decide)|refine Keep.none ?_|assumption|exact Keep.refl _ _ _))) ?_, ⟨?_, ?_, ?_, by omega, by omega, fun g hg => ?_⟩, ?_, ?_⟩
  ·simp (disch:=first|(simp only [yk,seval];done)|omega|(simp only [yz]<;>omega)|fail) only [yg,seval]
  ·rw [List.length_append, G.len]; rfl
  ·exact ordB_snoc G.ord fun g hg => by
    have := G.all g hg
    exact ⟨this.2.1, this.2.2.1⟩
  ·intro g hg
   rcases List.mem_append.1 hg with hg | hg
   ·have := G.all g hg
    omega
   ·rw [List.mem_singleton.1 hg]
    show 0 ≤ fo ∧ fo < fo + x ∧ pr - y < pr ∧ pr ≤ 60
    omega
  ·cases gs with
   | nil =>
    have h0 := G.len
    simp only [List.length_nil] at h0
    simp only [List.nil_append,List.getElem?_cons_zero,Option.some.injEq] at hg
    subst hg
    show 40 ≤ pr
    omega
   | cons x gs => exact G.fst g hg
  ·simp (disch:=first|(simp only [yk,seval];done)|omega|(simp only [yz]<;>omega)|fail) only [yg,seval,g14']
  ·simp (disch:=first|(simp only [yk,seval];done)|omega|(simp only [yz]<;>omega)|fail) only [yg,seval,g15']
 have him : (i' : Int) = m := by have := of_decide_eq_false hB; omega
 have g0 := I.g0
 have g6 := I.g6
 have g8 := I.g8
 have g9 := I.g9
 have b6 := I.b6
 have b8 := I.b8
 simp (disch:=first|(simp only [yk,seval];done)|omega|(simp only [yz]<;>omega)|fail) only [↓yp,yA,ys0,ys1,seval,fitB,newC,endD,endR,yrg,g0]
 refine c51 I.chu hL (by omega) (by omega) ?_
 rintro f5 lots H5 - q1 q2 hc5 hx5 hs5
 have b85 := (hx5.same _ sz (by omega)).trans b8
 have b65 := (hx5.same _ (by omega : H.size < H'.size) (by omega)).trans b6
 obtain ⟨b1, al1, rfl, s1, k1, -⟩ := I.r1.cons (by omega)
 obtain ⟨b2, al2, rfl, s2, k2, -⟩ := I.r2.cons (by omega)
 obtain ⟨b3, al3, rfl, s3, k3, -⟩ := I.r3.cons (by omega)
 simp (disch:=first|(simp only [yk,seval];done)|omega|(simp only [yz]<;>omega)|fail) only [↓yp,yA,ys0,ys1,seval,fitB,newC,endD,endR,yrg,g6,g8,g9,b85,b65]
 have glen := G.len
 have r1 := (I.r1.frx (fun h => by have := (I.r1.own _ h).1; omega) hx5)
 have r2 := (I.r2.frx (fun h => by have := (I.r2.own _ h).1; omega) hx5)
 have r3 := (I.r3.frx (fun h => by have := (I.r3.own _ h).1; omega) hx5)
 refine ⟨b1, OPEN + 4, b3, OPEN + 2, b2, OPEN + 1, ps, gs, rs, lots, ?_, ⟨by omega, by omega, by omega, I.ok, by omega, by omega, G.ord, fun g hg => ?_, ⟨q1, q2⟩, G.fst⟩, ?_, ?_, ?_, ?_, ?_⟩
 ·rw [il1, il2, glen]
 ·have := G.all g hg
  have := G.fo
  have := G.pr
  omega
 ·have := ((r1.put (j := H.size + 1) (fun h => by have := (I.r1.own _ h).1; omega) (.rw [.slice (some ⟨b1, 0, none⟩) i (OPEN + 4), .slice (some ⟨b3, 0, none⟩) i' (OPEN + 2), .int .i64 lots] 25 false [])).put (j := H.size) (fun h => by have := (I.r1.own _ h).1; omega) (.rw [.slice (some ⟨b1, 0, none⟩) i (OPEN + 4), .slice (some ⟨b3, 0, none⟩) i' (OPEN + 2), .int .i64 lots] 25 false []))
  rw [← il1] at this ⊢
  exact this.rx (fun h => by have := (I.r1.own _ h).1; omega)
 ·have := ((r3.put (j := H.size + 1) (fun h => by have := (I.r3.own _ h).1; omega) (.rw [.slice (some ⟨b1, 0, none⟩) i (OPEN + 4), .slice (some ⟨b3, 0, none⟩) i' (OPEN + 2), .int .i64 lots] 25 false [])).put (j := H.size) (fun h => by have := (I.r3.own _ h).1; omega) (.rw [.slice (some ⟨b1, 0, none⟩) i (OPEN + 4), .slice (some ⟨b3, 0, none⟩) i' (OPEN + 2), .int .i64 lots] 25 false []))
  rw [← glen] at this ⊢
  exact this.rx (fun h => by have := (I.r3.own _ h).1; omega)
 ·have := ((r2.put (j := H.size + 1) (fun h => by have := (I.r2.own _ h).1; omega) (.rw [.slice (some ⟨b1, 0, none⟩) i (OPEN + 4), .slice (some ⟨b3, 0, none⟩) i' (OPEN + 2), .int .i64 lots] 25 false [])).put (j := H.size) (fun h => by have := (I.r2.own _ h).1; omega) (.rw [.slice (some ⟨b1, 0, none⟩) i (OPEN + 4), .slice (some ⟨b3, 0, none⟩) i' (OPEN + 2), .int .i64 lots] 25 false []))
  rw [← il2] at this ⊢
  exact this.rx (fun h => by have := (I.r2.own _ h).1; omega)
 ·exact (hc5.other (by omega) (fun c e => by rw [b85] at e; cases e)).other (by omega) (fun c e => by rw [get_put_ne (by omega), b65] at e; cases e)
 ·exact ⟨by rw [size_put, size_put]; exact Nat.le_trans I.fr.size hx5.size, fun q h1 h2 => by rw [get_put_ne (by omega), get_put_ne (by omega), hx5.same q (Nat.lt_of_lt_of_le h1 I.fr.size) h2]; exact I.fr.same q h1 h2⟩
end
end Go.Am.K
namespace Go.Am.K
open Go.Proofs
variable {T : Tab} {P : Program} {N L : Nat} {H : AHeap} {Q : Bool → Value → AHeap → Prop}
section
variable {a b c d : Int}
end
theorem und119 : tabA.und 119 = some (.array 4 3) := by kernel_rfl
theorem und122 : tabA.und 122 = some (.map 119 3) := by kernel_rfl
theorem nfind_key {a b c d : Int} {es : List (Value × Value × Nat)} {q : Option Int} (h : nfind a b c d es = some q) : ∃ j, aFindKey tabA Try.prog 119 (.agg ⟨tv [a, b, c, d]⟩) es = some (q.map fun n => (j, .int .i64 n)) := by
 unfold aFindKey
 rw [und119]
 cases es with
 | nil => cases h; exact ⟨0, rfl⟩
 | cons e es =>
  have : aFindNow (.array 4 3) (.agg ⟨tv [a, b, c, d]⟩) (e :: es) 0 = none := rfl
  simp only [this]
  exact nfind_ok 0 h
theorem inf3 : ∃ i z, tabA.inf 3 = some i ∧ i.zero = some z ∧ z = .int .i64 0 := ⟨Try.t3, .int .i64 0, by kernel_rfl, by kernel_rfl, rfl⟩
section
variable {ex : Exec} {t : Operand → Option Value} {x ix y : Operand} {k j : Nat} {s : List Int} {es : List (Value × Value × Nat)} {clock : Nat}
theorem A_lookN {q : Option Int} (hx : t x = some (.map (some k))) (hi : t ix = some (.agg ⟨tv s⟩)) (hb : H.get k = .map es clock) (hs4 : s.length = 4) (hk : aFindKey tabA Try.prog 119 (.agg ⟨tv s⟩) es = some (q.map fun n => (j, .int .i64 n))) (hL : L ≤ H.size) (hq : Q true (.tuple ⟨[.int .i64 (q.getD 0), .bool q.isSome]⟩) H) :
  A tabA Try.prog ex t H L (.lookup 122 x ix true) Q := by
 obtain ⟨i, z, z1, z2, z3⟩ := inf3
 have hgz : gr z = true := by rw [z3]; rfl
 unfold A
 show (match still (aLookup tabA Try.prog t H 122 x ix true) with
  | some (b, v, H', m) => L ≤ m ∧ Q b v H'
  | none => False)
 have hgk : gr (.agg ⟨tv s⟩) = true := gr_tv _
 unfold aLookup
 simp only [und122,hx,hi,aMapOf,hb,hgk,cond_true,ckTv hs4,hk]
 cases q with
 | none =>
  simp only [Option.map_none,z1,z2,hgz,cond_true]
  exact ⟨hL, by rw [z3]; exact hq⟩
 | some n => exact ⟨hL, hq⟩
theorem A_updN {n : Int} (hx : t x = some (.map (some k))) (hi : t ix = some (.agg ⟨tv s⟩)) (hy : t y = some (.int .i64 n)) (hb : H.get k = .map es clock) (hs4 : s.length = 4) (hk : aFindKey tabA Try.prog 119 (.agg ⟨tv s⟩) es = some none) (hL : L ≤ k) (hq : Q false undef (H.put k (.map (es ++ [(.agg ⟨tv s⟩, .int .i64 n, clock)]) (clock + 1)))) :
  A tabA Try.prog ex t H L (.mapUpdate 122 x ix y) Q := by
 unfold A
 show (match moves (aUpdate tabA Try.prog t H 122 x ix y) with
  | some (b, v, H', m) => L ≤ m ∧ Q b v H'
  | none => False)
 have hgk : gr (.agg ⟨tv s⟩) = true := gr_tv _
 unfold aUpdate
 simp only [und122,hx,hi,hy,hb,hgk,cond_true,ckTv hs4,hk]
 exact ⟨hL, hq⟩
end
end Go.Am.K
namespace Go.Am.K
open Go.Proofs
variable {T : Tab} {P : Program} {N L : Nat} {H : AHeap} {Q : Bool → Value → AHeap → Prop}
def flK (v : Value) (H : AHeap) (L : Nat) (Q : Bool → Value → AHeap → Prop) (_ : Tag Q := .mk) : Prop := match still (aField tabA (fun _ => some v) H 77 (.tmp 0) 1) with
 | some (b, v, H', m) => L ≤ m ∧ Q b v H'
 | none => False
theorem A_fld {ex : Exec} {t : Operand → Option Value} {x : Operand} : A tabA Try.prog ex t H L (.field 77 x 1) Q = optK (t x) fun v => flK v H L Q := by
 unfold A
 show (match still (aField tabA t H 77 x 1) with
  | some (b, v, H', m) => L ≤ m ∧ Q b v H'
  | none => False) = _
 cases hs : t x with
 | none =>
  have : aField tabA t H 77 x 1 = none := by unfold aField; rw [hs]
  rw [this]; rfl
 | some v =>
  have : aField tabA t H 77 x 1 = aField tabA (fun _ => some v) H 77 (.tmp 0) 1 := by unfold aField; rw [hs]
  rw [this]; rfl
theorem flK_of {u w : Int} : flK (.agg ⟨[.int .i64 u, .int .i64 w]⟩) H L Q = andK (L ≤ H.size) (Q true (.int .i64 w) H) := by
 have : aField tabA (fun _ => some (.agg ⟨[.int .i64 u, .int .i64 w]⟩)) H 77 (.tmp 0) 1 = some (.int .i64 w, H, H.size) := by kernel_rfl
 unfold flK
 rw [this]; rfl
section
variable {a a' : Option Addr} {cap cap' k clock : Nat} {ps : List Pk} {gs : List Gd} {m : List Int} {lo : Value} {es : List (Value × Value × Nat)} {n : Int} {j : Nat}
theorem c93k (hm : m.length = 4) (hb : H.get k = .map es clock) (hk : k < H.size) (hf : aFindKey tabA Try.prog 119 (.agg ⟨tv m⟩) es = some (some (j, .int .i64 n))) :
  acall tabA (aexec tabA Try.prog (N + 800)) 93 [.agg ⟨[.slice a ps.length cap, .slice a' gs.length cap', lo, .map (some k)]⟩, .agg ⟨tv m⟩] H = some (true, .int .i64 n, H, H.size) := by
 refine call_quiet (k := 28) (rs := [.tmp 4]) rfl fn_93 rfl rfl rfl ?_ rfl
 have hmp : part (tv m) 0 5 = some (.agg ⟨tv m⟩) := part_tv hm
 simp (disch:=first|(simp only [yk,seval];done)|omega|(simp only [yz]<;>omega)|fail) only [↓yp,yA,ys0,ys1,seval,fitB,newC,endD,endR,st_faS_124_1,st_ldS_122,hmp]
 refine A_lookN (es := es) (clock := clock) (q := some n) (j := j) (s := m) (k := k) (by simp (disch:=first|(simp only [yk,seval];done)|omega|(simp only [yz]<;>omega)|fail) only [↓yp,yA,ys0,ys1,seval,fitB,newC,endD,endR]) (by simp (disch:=first|(simp only [yk,seval];done)|omega|(simp only [yz]<;>omega)|fail) only [↓yp,yA,ys0,ys1,seval,fitB,newC,endD,endR]) (by rw [get_alloc_lt (by first|omega|(simp only [yz]<;>omega)), get_alloc_lt (by first|omega|(simp only [yz]<;>omega))]; exact hb) hm hf (by first|omega|(simp only [yz]<;>omega)) ?_
 simp (disch:=first|(simp only [yk,seval];done)|omega|(simp only [yz]<;>omega)|fail) only [↓yp,yA,ys0,ys1,seval,fitB,newC,endD,endR,st_faS_124_1,st_ldS_122,Option.getD_some,Option.isSome_some]
theorem c93n (hs : Rw pkE H a ps) (hl : ps.length ≤ 4) (hpk : ∀ p ∈ ps, p.Ok) (hgs : Rw gdE H a' gs) (hgl : gs.length ≤ 4) (hgk : ∀ g ∈ gs, g.Ok) (hm : m.length = 4) (hmb : ∀ n ∈ m, 0 ≤ n ∧ n ≤ 6) (ho : sameV 5 lo lo = true) (hb : H.get k = .map es clock) (hk : k < H.size) (hf : aFindKey tabA Try.prog 119 (.agg ⟨tv m⟩) es = some none) :
  resK (acall tabA (aexec tabA Try.prog (N + 800)) 93 [.agg ⟨[.slice a ps.length cap, .slice a' gs.length cap', lo, .map (some k)]⟩, .agg ⟨tv m⟩] H) k fun _ v H' => v = .int .i64 (isum m * (grd ps gs m).pr) ∧ H' = ((H.alloc (.rw [.slice a ps.length cap, .slice a' gs.length cap', lo, .map (some k)] 124 false [])).alloc (.rw (tv m) 119 false [])).put k (.map (es ++ [(.agg ⟨tv m⟩, .int .i64 (isum m * (grd ps gs m).pr), clock)]) (clock + 1)) := by
 refine call_keep tabA_fr (R := fun v H' => v = .int .i64 (isum m * (grd ps gs m).pr) ∧ H' = ((H.alloc (.rw [.slice a ps.length cap, .slice a' gs.length cap', lo, .map (some k)] 124 false [])).alloc (.rw (tv m) 119 false [])).put k (.map (es ++ [(.agg ⟨tv m⟩, .int .i64 (isum m * (grd ps gs m).pr), clock)]) (clock + 1))) (k := 28) (rs := [.tmp 4]) rfl fn_93 rfl rfl rfl (by omega) ?_ (fun v H' h => h) ?_
 rotate_left
 ·rintro v H' ⟨rfl, rfl⟩ _ fr
  have h1 := fr.same k hk
  rw [get_put_same (by first|omega|(simp only [yz]<;>omega)), hb] at h1
  simp only [ABlk.map.injEq] at h1
  have h2 := congrArg List.length h1.1
  simp at h2
 have hmp : part (tv m) 0 5 = some (.agg ⟨tv m⟩) := part_tv hm
 have hst := fun n => sl_tv (n := n) m
 have fr : Fr H ((H.alloc (.rw [.slice a ps.length cap, .slice a' gs.length cap', lo, .map (some k)] 124 false [])).alloc (.rw (tv m) 119 false [])) := by (repeat (first | exact Fr.refl _ | assumption | refine Fr.allocd ?_ _ | refine Fr.put ?_ (by first | omega | (simp only [yz] <;> omega)) _))
 have h76 := fun (N : Nat) (H : AHeap) => c76 (N := N) (H := H) (t := m) hm fun x hx => by have := hmb x hx; omega
 have h92 := fun (N : Nat) => c92 (N := N) (cap := cap) (cap' := cap') (lo := lo) (mp := .map (some k)) (hs.fr fr) hl hpk (hgs.fr fr) hgl hgk hm hmb ho sv_map
 simp (disch:=first|(simp only [yk,seval];done)|omega|(simp only [yz]<;>omega)|fail) only [↓yp,yA,ys0,ys1,seval,fitB,newC,endD,endR,st_faS_124_1,st_ldS_122,hmp]
 refine A_lookN (es := es) (clock := clock) (q := none) (j := 0) (s := m) (k := k) (by simp (disch:=first|(simp only [yk,seval];done)|omega|(simp only [yz]<;>omega)|fail) only [↓yp,yA,ys0,ys1,seval,fitB,newC,endD,endR]) (by simp (disch:=first|(simp only [yk,seval];done)|omega|(simp only [yz]<;>omega)|fail) only [↓yp,yA,ys0,ys1,seval,fitB,newC,endD,endR]) (by rw [get_alloc_lt (by first|omega|(simp only [yz]<;>omega)), get_alloc_lt (by first|omega|(simp only [yz]<;>omega))]; exact hb) hm hf (by first|omega|(simp only [yz]<;>omega)) ?_
 simp (disch:=first|(simp only [yk,seval];done)|omega|(simp only [yz]<;>omega)|fail) only [↓yp,yA,ys0,ys1,seval,fitB,newC,endD,endR,st_faS_124_1,st_ldS_122,Option.getD_none,Option.isSome_none]
 simp only [Gd.enc] at h92
 have hp := grd_ok (ps := ps) (m := m) hgk
 have hi := m_sum hm hmb
 have hmul : 0 ≤ isum m * (grd ps gs m).pr ∧ isum m * (grd ps gs m).pr ≤ 2400 := ⟨Int.mul_nonneg hi.1 hp.1, by have := Int.mul_le_mul hi.2 hp.2 hp.1 (by omega : (0:Int) ≤ 24); omega⟩
 have hw : w64 (isum m * (grd ps gs m).pr) = isum m * (grd ps gs m).pr := w64_of (by omega)
 refine W_draw [] rfl (by kernel_rfl) (by kernel_rfl) (by first|omega|(simp only [yz]<;>omega)) ?_
 simp (disch:=first|(simp only [yk,seval];done)|omega|(simp only [yz]<;>omega)|fail) only [↓yp,yA,ys0,ys1,seval,fitB,newC,endD,endR,st_faS_124_1,st_ldS_122,hmp,h76,h92,hst,ho,sv_map,hw,A_fld,flK_of]
 refine A_updN (es := es) (clock := clock) (s := m) (k := k) (n := isum m * (grd ps gs m).pr) (by simp (disch:=first|(simp only [yk,seval];done)|omega|(simp only [yz]<;>omega)|fail) only [↓yp,yA,ys0,ys1,seval,fitB,newC,endD,endR]) (by simp (disch:=first|(simp only [yk,seval];done)|omega|(simp only [yz]<;>omega)|fail) only [↓yp,yA,ys0,ys1,seval,fitB,newC,endD,endR]) (by simp (disch:=first|(simp only [yk,seval];done)|omega|(simp only [yz]<;>omega)|fail) only [↓yp,yA,ys0,ys1,seval,fitB,newC,endD,endR]) (by rw [get_alloc_lt (by first|omega|(simp only [yz]<;>omega)), get_alloc_lt (by first|omega|(simp only [yz]<;>omega))]; exact hb) hm hf (by first|omega|(simp only [yz]<;>omega)) ?_
 simp (disch:=first|(simp only [yk,seval];done)|omega|(simp only [yz]<;>omega)|fail) only [↓yp,yA,ys0,ys1,seval,fitB,newC,endD,endR]
end
end Go.Am.K
namespace Go.Am.K
open Go.Proofs
variable {T : Tab} {P : Program} {N L : Nat} {H H' H'' : AHeap} {Q : Bool → Value → AHeap → Prop}
section
variable {ex : Exec} {t : Operand → Option Value}
theorem A_copy_of {ty : TypeId} {tys : List TypeId} {d s : Operand} {z b o dl dc sl sc : Nat} {sp : Option Nat} {sa : Addr} {l c : List Value} {e : TypeId} {op : Bool} (hz : esS T ty = some z) (hd : t d = some (.slice (some ⟨b, o, sp⟩) dl dc)) (hs : t s = some (.slice (some sa) sl sc))
  (hsrc : srcCells H sa (Nat.min sl dl * z) = some l) (hb : H.get b = .rw c e op []) (hf : o + l.length ≤ c.length) (h1 : oneCells l = true) (hL : L ≤ b) (hq : Q false (.int .i64 (Int.ofNat (Nat.min sl dl))) (H.put b (.rw (newC o l c) e op []))) : A T P ex t H L (.call ⟨.builtin .copy, [d, s].toArray, (ty :: tys).toArray⟩) Q := by
 unfold A
 show (match moves (aCopy T t H (ty :: tys).toArray [d, s].toArray) with
  | some (b, v, H', m) => L ≤ m ∧ Q b v H'
  | none => False)
 unfold esS at hz
 unfold aCopy
 simp only
 cases hu : T.und ty with
 | none => rw [hu] at hz; cases hz
 | some dd =>
  rw [hu] at hz
  cases dd with
  | slice el =>
   simp only at hz
   unfold inS at hz
   cases hi : T.inf el with
   | none => rw [hi] at hz; cases hz
   | some i =>
    rw [hi] at hz
    simp only [Option.some.injEq] at hz
    subst hz
    simp only [hd,hs,hi,hsrc]
    unfold aWrite
    rw [hb]
    have hle : Nat.ble (o + l.length) c.length = true := Nat.ble_eq_true_of_le hf
    simp only [hle,h1,Bool.and_self,cond_true]
    exact ⟨hL, hq⟩
  | _ => cases hz
theorem A_mkMap {r : Nat} : A T P ex t H L (.makeMap r none) Q = andK (L ≤ H.size) (Q false (.map (some H.size)) (H.alloc (.map [] 0))) := by
 unfold A
 show (match fresh H (newMap none) with
  | some (b, v, H', m) => L ≤ m ∧ Q b v H'
  | none => False) = _
 rfl
end
structure LotOk (ps : List Pk) (l : List Int) : Prop where
 len : l.length = ps.length
 ok : ∀ (j : Nat) (n : Int) (p : Pk), l[j]? = some n → ps[j]? = some p → 0 ≤ n ∧ n ≤ p.s
structure ML (H H' : AHeap) (k : Nat) (a : Option Addr) (bs : List Int) (cap : Nat) (ps : List Pk) (pa : Option Addr) (pc i : Nat) (l : List Int) (S : Nat → Prop) (v : Value) (e : VT) : Prop where
 g11 : gt 25 e 11 = .int .i64 (i : Nat)
 g10 : gt 25 e 10 = .int .i64 ps.length
 g9 : gt 25 e 9 = .slice pa ps.length pc
 g5 : gt 25 e 5 = v
 g0 : gt 25 e 0 = .pointer (some ⟨k, 0, none⟩)
 chu : Chu H' k a bs cap
 fr : FrX k H H'
 sz : H.size < H'.size
 r : Gw H' H.size S v i (intE.fl l) 3 1
 len : l.length = i
 ok : ∀ (j : Nat) (n : Int) (p : Pk), l[j]? = some n → ps[j]? = some p → 0 ≤ n ∧ n ≤ p.s
section
variable {k cap pc cap' : Nat} {a pa pa' : Option Addr} {bs : List Int} {ps : List Pk} {lots : Value}
end
end Go.Am.K
