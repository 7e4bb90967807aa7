import Derived.Test.YtbofjfjopeaefaaT44
import Derived.Test.YtbofjfjopeaefaaT41
import Derived.Test.YtbofjfjopeaefaaT43
set_option linter.unusedSimpArgs false
set_option linter.unusedVariables false
namespace Go.Am.K
open Go.Proofs
variable {T : Tab} {P : Program} {N L : Nat} {H H' H'' : AHeap} {Q : Bool → Value → AHeap → Prop}
variable {ps : List Pk} {gs : List Gd} {a a' : Option Addr} {cap cap' : Nat} {mk : Nat}
theorem st_apS_82 : apS tabA 82 = some (49, 1, 24) := by kernel_rfl
theorem rw_same {α : Type} {E : Enc α} {b : Nat} {l : List α} (h : Rw E H (some ⟨b, 0, none⟩) l) (hz : H.size ≤ H'.size) (hs : H'.get b = H.get b) : Rw E H' (some ⟨b, 0, none⟩) l := ⟨fun hl => by
 obtain ⟨b', o, c, e1, e2, e3, e4⟩ := h.get hl
 cases e1
 exact ⟨b, 0, c, rfl, by omega, by rw [hs]; exact e3, e4⟩⟩
theorem c98n {l : List Int} {n : Nat} (hl : l.length = 4) (h1 : 1 ≤ n) (h4 : n ≤ 4) (hL : L ≤ H.size) {M : Nat} (hM : 90 ≤ M)
  (hq : ∀ k cap' H', Fr H H' → H.size < k → k < H'.size → Rw intE H' (some ⟨k, 0, none⟩) (l.take n) → Q false (.slice (some ⟨k, 0, none⟩) n cap') H') : resK (acall tabA (aexec tabA Try.prog M) 98 [.agg ⟨tv l⟩, .int .i64 (n : Nat)] H) L Q := by
 obtain ⟨N, rfl⟩ : ∃ N, M = N + 90 := ⟨M - 90, by omega⟩
 refine call_fls (R := fun v H' => ∃ k cap', v = .slice (some ⟨k, 0, none⟩) n cap' ∧ Fr H H' ∧ (H.size < k ∧ k < H'.size) ∧ Rw intE H' (some ⟨k, 0, none⟩) (l.take n)) (k := 8) (rs := [.tmp 4]) rfl fn_98 rfl rfl rfl hL ?_ ?_ ?_
 rotate_left
 ·rintro v H' ⟨k, cap', rfl, -⟩; rfl
 ·rintro v H' ⟨k, cap', rfl, h1, h2, h3⟩
  exact hq _ _ _ h1 h2.1 h2.2 h3
 have hlt : (l.take n).length = n := by rw [List.length_take]; omega
 simp (disch:=first|(simp only [yk,seval];done)|omega|(simp only [yz]<;>omega)|fail) only [↓yp,yq0,yq1,yq2,yq3,yq4,yl,ys0,ys1,seval,fitB,newC,endD,endR,yrg]
 refine A_cut4 (b := H.size) (o := 0) (n := n) (sp := none) (by simp (disch:=first|(simp only [yk,seval];done)|omega|(simp only [yz]<;>omega)|fail) only [↓yp,yq0,yq1,yq2,yq3,yq4,yl,ys0,ys1,seval,fitB,newC,endD,endR,yrg]) (by simp (disch:=first|(simp only [yk,seval];done)|omega|(simp only [yz]<;>omega)|fail) only [↓yp,yq0,yq1,yq2,yq3,yq4,yl,ys0,ys1,seval,fitB,newC,endD,endR,yrg]) h4 (by first|omega|(simp only [yz]<;>omega)) ?_
 simp (disch:=first|(simp only [yk,seval];done)|omega|(simp only [yz]<;>omega)|fail) only [↓yp,yq0,yq1,yq2,yq3,yq4,yl,ys0,ys1,seval,fitB,newC,endD,endR,yrg]
 have hr : Rw intE (H.alloc (.rw (tv l) 119 false [])) (some ⟨H.size, 0, none⟩) (l.take n) := Rw.of (r := tv (l.drop n)) (c := tv l) (by first|omega|(simp only [yz]<;>omega)) (by rw [get_alloc_same]; rfl) (by rw [fl_int]; unfold tv; rw [← List.map_append, List.take_append_drop])
 have h125 := fun (M : Nat) (hM : 60 ≤ M) (Q : Bool → Value → AHeap → Prop) => c125 (Q := Q) (L := H.size) (cap := 4) hr (by intro h; rw [h] at hlt; simp at hlt; omega) (by omega) (by first|omega|(simp only [yz]<;>omega)) hM
 rw [hlt] at h125
 refine h125 _ (by omega) _ ?_
 intro k c H1 fr1 k1 k2 k3
 have f1 := fr1.size
 simp only [size_alloc] at f1
 simp (disch:=first|(simp only [yk,seval];done)|omega|(simp only [yz]<;>omega)|fail) only [↓yp,yq0,yq1,yq2,yq3,yq4,yl,ys0,ys1,seval,fitB,newC,endD,endR,yrg]
 exact ⟨k, c, rfl, Fr.trans (Fr.alloc _ _) fr1, ⟨by simp only [size_alloc] at k1; omega, k2⟩, Rw.of (r := []) k2 (by rw [k3]; rfl) (by rw [List.append_nil])⟩
def LsR (tb n : Nat) (H : AHeap) (v : Value) (Ls : List K4) : Prop := ∃ (S : Nat → Prop) (cs : List Value), Gw H tb S v Ls.length cs 49 1 ∧ cs.length = Ls.length ∧ ∀ (j : Nat) (s : K4), Ls[j]? = some s → ∃ b c, cs[j]? = some (Value.slice (some ⟨b, 0, none⟩) n c) ∧ ¬ S b ∧ Rw intE H (some ⟨b, 0, none⟩) ((l4 s).take n)
def B45 (ps : List Pk) (gs : List Gd) (k : Nat) (H : AHeap) (v : Value) (H' : AHeap) : Prop := ∃ (Ls : List K4) (w : Value) (n : Int), v = .tuple ⟨[w, .int .i64 n, .int .i64 0]⟩ ∧ Fr H H' ∧ LsR H.size ps.length H' w Ls ∧ Pl (stk ps) k (Ls.map l4) ∧ totL (brg ps gs) (Ls.map l4) = n ∧ OptR (brg ps gs) (stk ps) k n
theorem c97M (hs : Rw pkE H a ps) (hg : Rw gdE H a' gs) (hl : ps.length ≤ 4) (hpk : ∀ p ∈ ps, p.Ok) (hgl : gs.length ≤ 4) (hgk : ∀ g ∈ gs, g.Ok) (k : Nat) (hk : k ≤ 3) (hmk : mk < H.size) (hbr : BrI ps gs (H.get mk)) (hL : L ≤ mk) {M : Nat} (hM : 18000 ≤ M) :
  resK (acall tabA (aexec tabA Try.prog M) 97 [.agg ⟨[.slice a ps.length cap, .slice a' gs.length cap', .int .i64 (k : Int), .map (some mk)]⟩] H) L fun b v H' => (b = true → H' = H) ∧ BeR ps gs mk k H v H' := by
 obtain ⟨N, rfl⟩ : ∃ N, M = N + 18000 := ⟨M - 18000, by omega⟩
 exact c97 hs hg hl hpk hgl hgk k hk hmk hbr hL
set_option maxHeartbeats 4000000 in
set_option maxRecDepth 10000 in
theorem c45 (hs : Rw pkE H a ps) (hg : Rw gdE H a' gs) (hl : ps.length ≤ 4) (hl1 : 1 ≤ ps.length) (hpk : ∀ p ∈ ps, p.Ok) (hgl : gs.length ≤ 4) (hgk : ∀ g ∈ gs, g.Ok) (k : Nat) (hk : k ≤ 3) (hok : chkS ps gs (k : Int) = 0) :
  resK (acall tabA (aexec tabA Try.prog (N + 18200)) 45 [.agg ⟨[.slice a ps.length cap, .slice a' gs.length cap', .int .i64 (k : Int)]⟩] H) H.size fun b v H' => (b = true → H' = H) ∧ B45 ps gs k H v H' := by
 refine call_keep tabA_fr (R := B45 ps gs k H) (k := 39) (rs := [.tmp 2, .tmp 3, .tmp 4]) rfl fn_45 rfl rfl rfl (by omega) ?_ (fun v H' h => ⟨fun h => (by cases h), h⟩) ?_
 rotate_left
 ·rintro v H' ⟨Ls, w, n, rfl, h1, ⟨S, cs, g, g2, g3⟩, h3, h4, h5⟩ hgr fr
  refine ⟨fun _ => rfl, Ls, w, n, rfl, Fr.refl _, ?_, h3, h4, h5⟩
  by_cases hn : Ls = []
  ·subst hn
   have := g.nil rfl
   subst this
   exact ⟨_, [], Gw.none, rfl, fun j s h => by simp at h⟩
  ·obtain ⟨b, al, rfl, -⟩ := g.cons (by simpa using hn)
   cases hgr
 have fr0 : Fr H (H.alloc (.rw [.slice a ps.length cap, .slice a' gs.length cap', .int .i64 (k : Int)] 25 false [])) := by (repeat (first | exact Fr.refl _ | assumption | refine Fr.allocd ?_ _ | refine Fr.put ?_ (by first | omega | (simp only [yz] <;> omega)) _))
 have h16 := fun (N : Nat) => c16 (N := N) (cap := cap) (cap' := cap') (lots := (k : Int)) (hs.fr fr0) (hg.fr fr0)
 rw [hok] at h16
 have hd0 : decide ((0 : Int) = 0) = true := rfl
 simp (disch:=first|(simp only [yk,seval];done)|omega|(simp only [yz]<;>omega)|fail) only [↓yp,yq0,yq1,yq2,yq3,yq4,yl,ys0,ys1,seval,fitB,newC,endD,endR,yrg,h16,hd0]
 refine c77 (by first|omega|(simp only [yz]<;>omega)) (by omega) ?_
 intro mk H1 fr1 k1 k2 k3
 have f1 := fr1.size
 have s1 := fr1.same
 simp only [size_alloc] at f1 s1 k1
 have fr01 : Fr H H1 := Fr.trans fr0 fr1
 simp (disch:=first|(simp only [yk,seval];done)|omega|(simp only [yz]<;>omega)|fail) only [↓yp,yq0,yq1,yq2,yq3,yq4,yl,ys0,ys1,seval,fitB,newC,endD,endR,yrg]
 refine resK_mono (c97M (hs.fr fr01) (hg.fr fr01) hl hpk hgl hgk k hk k2 (by rw [k3]; exact BrI.nil) (by omega) (by omega)) ?_
 rintro b _ H2 ⟨-, Ls, pa, c, n, rfl, rl, rs, hP, hT, hO, sz2, sm2, br2⟩
 have hz12 : H.size ≤ H2.size := by omega
 have bw : H2.get H.size = .rw [.slice a ps.length cap, .slice a' gs.length cap', .int .i64 (k : Int)] 25 false [] := by
  rw [sm2 _ (by omega) (by omega), s1 _ (by omega)]; exact get_alloc_same
 have frH : Fr H H2 := ⟨hz12, fun i hi => by rw [sm2 i (by omega) (by omega), s1 i (by omega), get_alloc_lt hi]⟩
 have hlen : Ls.length ≤ 3 := by
  have := Pl_len hP
  rw [List.length_map] at this
  omega
 simp (disch:=first|(simp only [yk,seval];done)|omega|(simp only [yz]<;>omega)|fail) only [↓yp,yq0,yq1,yq2,yq3,yq4,yl,ys0,ys1,seval,fitB,newC,endD,endR,yrg,lenV_slice st_esS_152]
 refine W_while (n := 39) 300 (fun q e' H' => ∃ (i : Nat) (v : Value) (S : Nat → Prop) (cs : List Value), q = Ls.length - i ∧ i ≤ Ls.length ∧ gt 39 e' 24 = .int .i64 (i : Nat) ∧ gt 39 e' 23 = .int .i64 (Ls.length : Nat) ∧ gt 39 e' 22 = .slice pa Ls.length c ∧ gt 39 e' 8 = v ∧ gt 39 e' 1 = .pointer (some ⟨H.size, 0, none⟩) ∧ gt 39 e' 7 = .int .i64 n ∧ Fr H2 H' ∧ Gw H' H2.size S v i cs 49 1 ∧ cs.length = i ∧ ∀ (j : Nat) (s : K4), j < i → Ls[j]? = some s → ∃ b c, cs[j]? = some (Value.slice (some ⟨b, 0, none⟩) ps.length c) ∧ b < H'.size ∧ ¬ S b ∧ Rw intE H' (some ⟨b, 0, none⟩) ((l4 s).take ps.length))
  ?_ 4 Ls.length ⟨0, .slice none 0 0, fun _ => False, [], by omega, by omega, ?_, ?_, ?_, ?_, ?_, ?_, Fr.refl _, Gw.none, rfl, fun j s h => by omega⟩ (by omega) (by omega)
 rotate_left
 ·simp (disch:=first|(simp only [yk,seval];done)|omega|(simp only [yz]<;>omega)|fail) only [yg,seval] <;> rfl
 ·simp (disch:=first|(simp only [yk,seval];done)|omega|(simp only [yz]<;>omega)|fail) only [yg,seval]
 ·simp (disch:=first|(simp only [yk,seval];done)|omega|(simp only [yz]<;>omega)|fail) only [yg,seval]
 ·simp (disch:=first|(simp only [yk,seval];done)|omega|(simp only [yz]<;>omega)|fail) only [yg,seval]
 ·simp (disch:=first|(simp only [yk,seval];done)|omega|(simp only [yz]<;>omega)|fail) only [yg,seval]
 ·simp (disch:=first|(simp only [yk,seval];done)|omega|(simp only [yz]<;>omega)|fail) only [yg,seval]
 rintro M1 q e H3 ⟨i, v, S, cs, rfl, hi, g24, g23, g22, g8, g1, g7, fr3, gw, clen, cat⟩
 have f3 := fr3.size
 have bw3 := (fr3.same _ (by omega)).trans bw
 simp (disch:=first|(simp only [yk,seval];done)|omega|(simp only [yz]<;>omega)|fail) only [↓yp,yq0,yq1,yq2,yq3,yq4,yl,ys0,ys1,seval,fitB,newC,endD,endR,yrg,g24,g23]
 refine ⟨fun hT' => ?_, fun hT' => ?_⟩
 rotate_left
 ·have hie : i = Ls.length := by have := of_decide_eq_false hT'; omega
  subst hie
  simp (disch:=first|(simp only [yk,seval];done)|omega|(simp only [yz]<;>omega)|fail) only [↓yp,yq0,yq1,yq2,yq3,yq4,yl,ys0,ys1,seval,fitB,newC,endD,endR,yrg,g8,g7]
  refine ⟨Ls, v, n, rfl, frH.trans fr3, ⟨S, cs, ⟨gw.nil, gw.cons, fun j hj => by have := gw.own j hj; omega⟩, clen, fun j s hj => ?_⟩, hP, hT, hO⟩
  obtain ⟨b, c, w1, w2, w3, w4⟩ := cat j s (by have := (List.getElem?_eq_some_iff.1 hj).1; exact this) hj
  exact ⟨b, c, w1, w3, w4⟩
 have hlt : i < Ls.length := by have := of_decide_eq_true hT'; omega
 obtain ⟨s, hsi⟩ : ∃ s, Ls[i]? = some s := ⟨Ls[i], by simp [hlt]⟩
 have hw2 : w64 ((i : Int) + 1) = ((i + 1 : Nat) : Int) := by rw [w64_of (by omega)]; omega
 obtain ⟨b, o, cc, eb, hb, hc, hqq⟩ := (rl.fr fr3).at_ hsi
 have qp : part cc (o + i * 4) 5 = some (.agg ⟨[.int .i64 s.1, .int .i64 s.2.1, .int .i64 s.2.2.1, .int .i64 s.2.2.2]⟩) := part_of hqq rfl
 subst eb
 simp (disch:=first|(simp only [yk,seval];done)|omega|(simp only [yz]<;>omega)|fail) only [↓yp,yq0,yq1,yq2,yq3,yq4,yl,ys0,ys1,seval,fitB,newC,endD,endR,yrg,g22,g24,A_indexSlice st_esS_152,hc,qp,g8,g1,bw3,lenV_slice st_esS_22]
 refine c98n (l := l4 s) (n := ps.length) rfl hl1 hl (by first|omega|(simp only [yz]<;>omega)) (by omega) ?_
 intro kb cb H4 fr4 kb1 kb2 rb
 have f4 := fr4.size
 simp only [size_alloc,size_put] at f4 kb1
 have o4 : ∀ j, j < H3.size → H4.get j = H3.get j := fun j hj => by rw [fr4.same j (by simp only [size_alloc,size_put]; omega), get_put_ne (by omega), get_alloc_lt hj]
 have gw4 : Gw H4 H2.size S v i cs 49 1 := gw.same (by omega) fun j hj => o4 j (gw.own j hj).2
 simp (disch:=first|(simp only [yk,seval];done)|omega|(simp only [yz]<;>omega)|fail) only [↓yp,yq0,yq1,yq2,yq3,yq4,yl,ys0,ys1,seval,fitB,newC,endD,endR,yrg,A_buildSlice st_brS_82_1]
 refine gw_append (i := i) (cs := cs) (news := [.slice (some ⟨kb, 0, none⟩) ps.length cb]) st_apS_82 (gw4.fr (by repeat first|exact Fr.refl _|assumption|refine Fr.allocd ?_ _|refine Fr.put ?_ (by first|omega|(simp only [yz]<;>omega)) _)) (by first|omega|(simp only [yz]<;>omega)) (by rw [clen]; omega) (by unfold srcCells; simp (disch:=first|(simp only [yk,seval];done)|omega|(simp only [yz]<;>omega)|fail) only [yg,seval] <;> rfl) (by omega) (by omega) rfl (by omega) ?_
 intro a1 c1 H5 hs5 fs5 gw5
 simp only [size_alloc] at hs5 fs5 gw5
 have old : ∀ q, q < H4.size → ¬ S q → H5.get q = H4.get q := fun q h1 h2 => by rw [fs5 q (by omega) h2, get_alloc_lt h1]
 have low : ∀ j, j ≤ H2.size → ¬ S j := fun j hj h => by have := (gw.own j h).1; omega
 simp (disch:=first|(simp only [yk,seval];done)|omega|(simp only [yz]<;>omega)|fail) only [↓yp,yq0,yq1,yq2,yq3,yq4,yl,ys0,ys1,seval,fitB,newC,endD,endR,yrg,g24,hw2]
 refine ⟨Ls.length - (i + 1), by omega, i + 1, .slice a1 (i + 1) c1, fun j => S j ∨ j = H4.size + 1, cs ++ [.slice (some ⟨kb, 0, none⟩) ps.length cb], rfl, by omega, ?_, ?_, ?_, ?_, ?_, ?_, ⟨by omega, fun j hj => ?_⟩, gw5, by rw [List.length_append, clen]; rfl, fun j s' hj hs' => ?_⟩
 ·simp (disch:=first|(simp only [yk,seval];done)|omega|(simp only [yz]<;>omega)|fail) only [yg,seval]
 ·simp (disch:=first|(simp only [yk,seval];done)|omega|(simp only [yz]<;>omega)|fail) only [yg,seval,g23]
 ·simp (disch:=first|(simp only [yk,seval];done)|omega|(simp only [yz]<;>omega)|fail) only [yg,seval,g22]
 ·simp (disch:=first|(simp only [yk,seval];done)|omega|(simp only [yz]<;>omega)|fail) only [yg,seval]
 ·simp (disch:=first|(simp only [yk,seval];done)|omega|(simp only [yz]<;>omega)|fail) only [yg,seval,g1]
 ·simp (disch:=first|(simp only [yk,seval];done)|omega|(simp only [yz]<;>omega)|fail) only [yg,seval,g7]
 ·rw [old j (by omega) (low j (by omega)), o4 j (by omega)]; exact fr3.same j hj
 ·by_cases hji : j < i
  ·obtain ⟨b', c', w1, w2, w3, w4⟩ := cat j s' hji hs'
   refine ⟨b', c', by rw [List.getElem?_append_left (by omega)]; exact w1, by omega, fun h => ?_, rw_same w4 (by omega) (by rw [old b' (by omega) w3, o4 b' w2])⟩
   rcases h with h | h
   ·exact w3 h
   ·omega
  ·obtain rfl : j = i := by omega
   rw [hsi] at hs'
   cases hs'
   refine ⟨kb, cb, by rw [List.getElem?_append_right (by omega), clen, Nat.sub_self]; rfl, by omega, fun h => ?_, rw_same rb (by omega) (by rw [old kb kb2 fun h => by have := (gw.own _ h).2; omega])⟩
   rcases h with h | h
   ·have := (gw.own _ h).2; omega
   ·omega
end Go.Am.K
namespace Go.Am.K
open Go.Proofs
variable {T : Tab} {P : Program} {N L : Nat} {H H' H'' : AHeap} {Q : Bool → Value → AHeap → Prop}
theorem StOk.chk {ps : List Pk} {gs : List Gd} {lots : Int} (h : StOk ps gs lots) : chkS ps gs lots = 0 := by
 have e1 : chk1 ps gs = false := by
  unfold chk1 wi
  simp only [Bool.or_eq_false_iff,Bool.not_eq_false',Bool.and_eq_true,decide_eq_true_eq,decide_eq_false_iff_not]
  have := h.l1
  have := h.l4
  have := h.g4
  omega
 have e4 : chk2 ps gs lots = false := by
  unfold chk2 wi
  rw [h.pb, h.gb]
  have := h.lo
  simp only [Bool.not_true,Bool.or_self,Bool.false_or,Bool.not_eq_false',Bool.and_eq_true,decide_eq_true_eq]
  omega
 have e5 : (ps.all fun p => !decide (p.hi < p.f)) = true := List.all_eq_true.2 fun p hp => by
  have := h.sp p hp
  simp only [Bool.not_eq_true',decide_eq_false_iff_not]
  omega
 unfold chkS
 rw [e1, e4, h.od, e5]; rfl
section
variable {a a' al : Option Addr} {cap cap' cl mk i : Nat} {ps : List Pk} {gs : List Gd} {lots : Int} {l : List Int} {op fd n : Int} {p : Pk}
def nonE (ps : List Pk) (l : List Int) (op fd : Int) (i : Nat) (p : Pk) (n : Int) : Bool := !decide (lfHi (ps.set i (kn p n)) l op fd < lfLo (ps.set i (kn p n)) l fd)
def tellS (P : Int → Bool) (x : Int × Int) (n : Int) : Int × Int := bif P n then (if n < x.1 then n else x.1, if n > x.2 then n else x.2) else x
def tellF (P : Int → Bool) (f b : Int) : Nat → Int × Int
 | 0 => (b, f)
 | k + 1 => tellS P (tellF P f b k) (f + k)
end
end Go.Am.K
namespace Go.Am.K
open Go.Proofs
variable {b b' : List Int → Int}
structure Mv (σ : List Nat) (ps ps' : List Pk) : Prop where
 pm : σ.Perm (List.range ps.length)
 len : ps'.length = ps.length
 at_ : ∀ i v : Nat, σ[i]? = some v → ps'[v]? = ps[i]?
section
variable {σ : List Nat} {ps ps' : List Pk} {gs : List Gd}
theorem Mv.sl (h : Mv σ ps ps') : σ.length = ps.length := by rw [h.pm.length_eq, List.length_range]
theorem Mv.lt (h : Mv σ ps ps') {v : Nat} (hv : v ∈ σ) : v < ps.length := List.mem_range.1 (h.pm.mem_iff.1 hv)
theorem Mv.get (h : Mv σ ps ps') {i : Nat} (hi : i < ps.length) : ∃ v, σ[i]? = some v ∧ v < ps.length := by
 have hs := h.sl
 refine ⟨σ[i]'(by omega), by simp [hs, hi], h.lt (List.getElem_mem _)⟩
theorem Mv.all (h : Mv σ ps ps') {p : Pk} (hp : p ∈ ps') : p ∈ ps := by
 obtain ⟨v, hv⟩ := List.getElem?_of_mem hp
 have hvl := (List.getElem?_eq_some_iff.1 hv).1
 have hm : v ∈ σ := h.pm.mem_iff.2 (List.mem_range.2 (by rw [← h.len]; exact hvl))
 obtain ⟨i, hi⟩ := List.getElem?_of_mem hm
 have := h.at_ i v hi
 rw [hv] at this
 exact List.mem_of_getElem? this.symm
end
theorem ord_first : ∀ {gs : List Gd} {g0 : Gd}, ordB gs = true → gs[0]? = some g0 → ∀ g ∈ gs, g.pr ≤ g0.pr
 | [], _, _, h, _, _ => by simp at h
 | [g], g0, _, h, x, hx => by
  simp only [List.getElem?_cons_zero,Option.some.injEq] at h
  subst h
  simp only [List.mem_singleton] at hx
  subst hx
  exact Int.le_refl _
 | g :: g' :: l, g0, ho, h, x, hx => by
  simp only [List.getElem?_cons_zero,Option.some.injEq] at h
  subst h
  unfold ordB at ho
  simp only [Bool.and_eq_true,decide_eq_true_eq] at ho
  rcases List.mem_cons.1 hx with rfl | hx
  ·exact Int.le_refl _
  ·have := ord_first ho.2 (g0 := g') rfl x hx
   omega
end Go.Am.K
