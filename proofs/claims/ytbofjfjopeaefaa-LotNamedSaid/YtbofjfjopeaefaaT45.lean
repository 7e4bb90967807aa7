import Derived.Test.YtbofjfjopeaefaaT44
import Derived.Test.YtbofjfjopeaefaaT41
import Derived.Test.YtbofjfjopeaefaaT43
set_option linter.unusedSimpArgs false
set_option linter.unusedVariables false
namespace Go.Am.K
open Go.Proofs
variable {T : Tab} {P : Program} {N L : Nat} {H H' H'' : AHeap} {Q : Bool → Value → AHeap → Prop}
variable {ps : List Pk} {gs : List Gd} {a a' : Option Addr} {cap cap' : Nat} {mk : Nat}
theorem st_apS_82 : apS tabA 82 = some (49, 1, 24) := by kernel_rfl
theorem rw_same {α : Type} {E : Enc α} {b : Nat} {l : List α} (h : Rw E H (some ⟨b, 0, none⟩) l) (hz : H.size ≤ H'.size) (hs : H'.get b = H.get b) : Rw E H' (some ⟨b, 0, none⟩) l := ⟨fun hl => by
 obtain ⟨b', o, c, e1, e2, e3, e4⟩ := h.get hl
 cases e1
 exact ⟨b, 0, c, rfl, by omega, by rw [hs]; exact e3, e4⟩⟩
theorem c98n {l : List Int} {n : Nat} (hl : l.length = 4) (h1 : 1 ≤ n) (h4 : n ≤ 4) (hL : L ≤ H.size) {M : Nat} (hM : 90 ≤ M)
  (hq : ∀ k cap' H', Fr H H' → H.size < k → k < H'.size → Rw intE H' (some ⟨k, 0, none⟩) (l.take n) → Q false (.slice (some ⟨k, 0, none⟩) n cap') H') : resK (acall tabA (aexec tabA Try.prog M) 98 [.agg ⟨tv l⟩, .int .i64 (n : Nat)] H) L Q := by
 obtain ⟨N, rfl⟩ : ∃ N, M = N + 90 := ⟨M - 90, by omega⟩
 refine call_fls (R := fun v H' => ∃ k cap', v = .slice (some ⟨k, 0, none⟩) n cap' ∧ Fr H H' ∧ (H.size < k ∧ k < H'.size) ∧ Rw intE H' (some ⟨k, 0, none⟩) (l.take n)) (k := 8) (rs := [.tmp 4]) rfl fn_98 rfl rfl rfl hL ?_ ?_ ?_
 rotate_left
 ·rintro v H' ⟨k, cap', rfl, -⟩; rfl
 ·rintro v H' ⟨k, cap', rfl, h1, h2, h3⟩
  exact hq _ _ _ h1 h2.1 h2.2 h3
 have hlt : (l.take n).length = n := by rw [List.length_take]; omega
 simp (disch:=first|(simp only [yk,seval];done)|omega|(simp only [yz]<;>omega)|fail) only [↓yp,yq0,yq1,yq2,yq3,yq4,yl,ys0,ys1,seval,fitB,newC,endD,endR,yrg]
 refine A_cut4 (b := H.size) (o := 0) (n := n) (sp := none) (by simp (disch:=first|(simp only [yk,seval];done)|omega|(simp only [yz]<;>omega)|fail) only [↓yp,yq0,yq1,yq2,yq3,yq4,yl,ys0,ys1,seval,fitB,newC,endD,endR,yrg]) (by simp (disch:=first|(simp only [yk,seval];done)|omega|(simp only [yz]<;>omega)|fail) only [↓yp,yq0,yq1,yq2,yq3,yq4,yl,ys0,ys1,seval,fitB,newC,endD,endR,yrg]) h4 (by first|omega|(simp only [yz]<;>omega)) ?_
 simp (disch:=first|(simp only [yk,seval];done)|omega|(simp only [yz]<;>omega)|fail) only [↓yp,yq0,yq1,yq2,yq3,yq4,yl,ys0,ys1,seval,fitB,newC,endD,endR,yrg]
 have hr : Rw intE (H.alloc (.rw (tv l) 119 false [])) (some ⟨H.size, 0, none⟩) (l.take n) := Rw.of (r := tv (l.drop n)) (c := tv l) (by first|omega|(simp only [yz]<;>omega)) (by rw [get_alloc_same]; rfl) (by rw [fl_int]; unfold tv; rw [← List.map_append, List.take_append_drop])
 have h125 := fun (M : Nat) (hM : 60 ≤ M) (Q : Bool → Value → AHeap → Prop) => c125 (Q := Q) (L := H.size) (cap := 4) hr (by intro h; rw [h] at hlt; simp at hlt; omega) (by omega) (by first|omega|(simp only [yz]<;>omega)) hM
 rw [hlt] at h125
 refine h125 _ (by omega) _ ?_
 intro k c H1 fr1 k1 k2 k3
 have f1 := fr1.size
 simp only [size_alloc] at f1
 simp (disch:=first|(simp only [yk,seval];done)|omega|(simp only [yz]<;>omega)|fail) only [↓yp,yq0,yq1,yq2,yq3,yq4,yl,ys0,ys1,seval,fitB,newC,endD,endR,yrg]
 exact ⟨k, c, rfl, Fr.trans (Fr.alloc _ _) fr1, ⟨by simp only [size_alloc] at k1; omega, k2⟩, Rw.of (r := []) k2 (by rw [k3]; rfl) (by rw [List.append_nil])⟩
def LsR (tb n : Nat) (H : AHeap) (v : Value) (Ls : List K4) : Prop := ∃ (S : Nat → Prop) (cs : List Value), Gw H tb S v Ls.length cs 49 1 ∧ cs.length = Ls.length ∧ ∀ (j : Nat) (s : K4), Ls[j]? = some s → ∃ b c, cs[j]? = some (Value.slice (some ⟨b, 0, none⟩) n c) ∧ ¬ S b ∧ Rw intE H (some ⟨b, 0, none⟩) ((l4 s).take n)
def B45 (ps : List Pk) (gs : List Gd) (k : Nat) (H : AHeap) (v : Value) (H' : AHeap) : Prop := ∃ (Ls : List K4) (w : Value) (n : Int), v = .tuple ⟨[w, .int .i64 n, .int .i64 0]⟩ ∧ Fr H H' ∧ LsR H.size ps.length H' w Ls ∧ Pl (stk ps) k (Ls.map l4) ∧ totL (brg ps gs) (Ls.map l4) = n ∧ OptR (brg ps gs) (stk ps) k n
theorem c97M (hs : Rw pkE H a ps) (hg : Rw gdE H a' gs) (hl : ps.length ≤ 4) (hpk : ∀ p ∈ ps, p.Ok) (hgl : gs.length ≤ 4) (hgk : ∀ g ∈ gs, g.Ok) (k : Nat) (hk : k ≤ 3) (hmk : mk < H.size) (hbr : BrI ps gs (H.get mk)) (hL : L ≤ mk) {M : Nat} (hM : 18000 ≤ M) :
  resK (acall tabA (aexec tabA Try.prog M) 97 [.agg ⟨[.slice a ps.length cap, .slice a' gs.length cap', .int .i64 (k : Int), .map (some mk)]⟩] H) L fun b v H' => (b = true → H' = H) ∧ BeR ps gs mk k H v H' := by
 obtain ⟨N, rfl⟩ : ∃ N, M = N + 18000 := ⟨M - 18000, by omega⟩
 exact c97 hs hg hl hpk hgl hgk k hk hmk hbr hL
set_option maxHeartbeats 4000000 in
set_option maxRecDepth 10000 in
theorem c45 (hs : Rw pkE H a ps) (hg : Rw gdE H a' gs) (hl : ps.length ≤ 4) (hl1 : 1 ≤ ps.length) (hpk : ∀ p ∈ ps, p.Ok) (hgl : gs.length ≤ 4) (hgk : ∀ g ∈ gs, g.Ok) (k : Nat) (hk : k ≤ 3) (hok : chkS ps gs (k : Int) = 0) :
  resK (acall tabA (aexec tabA Try.prog (N + 18200)) 45 [.agg ⟨[.slice a ps.length cap, .slice a' gs.length cap', .int .i64 (k : Int)]⟩] H) H.size fun b v H' => (b = true → H' = H) ∧ B45 ps gs k H v H' := by
 refine call_keep tabA_fr (R := B45 ps gs k H) (k := 39) (rs := [.tmp 2, .tmp 3, .tmp 4]) rfl fn_45 rfl rfl rfl (by omega) ?_ (fun v H' h => ⟨fun h => (by cases h), h⟩) ?_
 rotate_left
 ·rintro v H' ⟨Ls, w, n, rfl, h1, ⟨S, cs, g, g2, g3⟩, h3, h4, h5⟩ hgr fr
  refine ⟨fun _ => rfl, Ls, w, n, rfl, Fr.refl _, ?_, h3, h4, h5⟩
  by_cases hn : Ls = []
  ·subst hn
   have := g.nil rfl
   subst this
   exact ⟨_, [], Gw.none, rfl, fun j s h => by simp at h⟩
  ·obtain ⟨b, al, rfl, -⟩ := g.cons (by simpa using hn)
   cases hgr
 have fr0 : Fr H (H.alloc (.rw [.slice a ps.length cap, .slice a' gs.length cap', .int .i64 (k : Int)] 25 false [])) := by (repeat (first | exact Fr.refl _ | assumption | refine Fr.allocd ?_ _ | refine Fr.put ?_ (by first | omega | (simp only [yz] <;> omega)) _))
 have h16 := fun (N : Nat) => c16 (N := N) (cap := cap) (cap' := cap') (lots := (k : Int)) (hs.fr fr0) (hg.fr fr0)
 rw [hok] at h16
 have hd0 : decide ((0 : Int) = 0) = true := rfl
 simp (disch:=first|(simp only [yk,seval];done)|omega|(simp only [yz]<;>omega)|fail) only [↓yp,yq0,yq1,yq2,yq3,yq4,yl,ys0,ys1,seval,fitB,newC,endD,endR,yrg,h16,hd0]
 refine c77 (by first|omega|(simp only [yz]<;>omega)) (by omega) ?_
 intro mk H1 fr1 k1 k2 k3
 have f1 := fr1.size
 have s1 := fr1.same
 simp only [size_alloc] at f1 s1 k1
 have fr01 : Fr H H1 := Fr.trans fr0 fr1
 simp (disch:=first|(simp only [yk,seval];done)|omega|(simp only [yz]<;>omega)|fail) only [↓yp,yq0,yq1,yq2,yq3,yq4,yl,ys0,ys1,seval,fitB,newC,endD,endR,yrg]
 refine resK_mono (c97M (hs.fr fr01) (hg.fr fr01) hl hpk hgl hgk k hk k2 (by rw [k3]; exact BrI.nil) (by omega) (by omega)) ?_
 rintro b _ H2 ⟨-, Ls, pa, c, n, rfl, rl, rs, hP, hT, hO, sz2, sm2, br2⟩
 have hz12 : H.size ≤ H2.size := by omega
 have bw : H2.get H.size = .rw [.slice a ps.length cap, .slice a' gs.length cap', .int .i64 (k : Int)] 25 false [] := by
  rw [sm2 _ (by omega) (by omega), s1 _ (by omega)]; exact get_alloc_same
 have frH : Fr H H2 := ⟨hz12, fun i hi => by rw [sm2 i (by omega) (by omega), s1 i (by omega), get_alloc_lt hi]⟩
 have hlen : Ls.length ≤ 3 := by
  have := Pl_len hP
  rw [List.length_map] at this
  omega
 simp (disch:=first|(simp only [yk,seval];done)|omega|(simp only [yz]<;>omega)|fail) only [↓yp,yq0,yq1,yq2,yq3,yq4,yl,ys0,ys1,seval,fitB,newC,endD,endR,yrg,lenV_slice st_esS_152]
 refine W_while (n := 39) 300 (fun q e' H' => ∃ (i : Nat) (v : Value) (S : Nat → Prop) (cs : List Value), q = Ls.length - i ∧ i ≤ Ls.length ∧ gt 39 e' 24 = .int .i64 (i : Nat) ∧ gt 39 e' 23 = .int .i64 (Ls.length : Nat) ∧ gt 39 e' 22 = .slice pa Ls.length c ∧ gt 39 e' 8 = v ∧ gt 39 e' 1 = .pointer (some ⟨H.size, 0, none⟩) ∧ gt 39 e' 7 = .int .i64 n ∧ Fr H2 H' ∧ Gw H' H2.size S v i cs 49 1 ∧ cs.length = i ∧ ∀ (j : Nat) (s : K4), j < i → Ls[j]? = some s → ∃ b c, cs[j]? = some (Value.slice (some ⟨b, 0, none⟩) ps.length c) ∧ b < H'.size ∧ ¬ S b ∧ Rw intE H' (some ⟨b, 0, none⟩) ((l4 s).take ps.length))
  ?_ 4 Ls.length ⟨0, .slice none 0 0, fun _ => False, [], by omega, by omega, ?_, ?_, ?_, ?_, ?_, ?_, Fr.refl _, Gw.none, rfl, fun j s h => by omega⟩ (by omega) (by omega)
 rotate_left
 ·simp (disch:=first|(simp only [yk,seval];done)|omega|(simp only [yz]<;>omega)|fail) only [yg,seval] <;> rfl
 ·simp (disch:=first|(simp only [yk,seval];done)|omega|(simp only [yz]<;>omega)|fail) only [yg,seval]
 ·simp (disch:=first|(simp only [yk,seval];done)|omega|(simp only [yz]<;>omega)|fail) only [yg,seval]
 ·simp (disch:=first|(simp only [yk,seval];done)|omega|(simp only [yz]<;>omega)|fail) only [yg,seval]
 ·simp (disch:=first|(simp only [yk,seval];done)|omega|(simp only [yz]<;>omega)|fail) only [yg,seval]
 ·simp (disch:=first|(simp only [yk,seval];done)|omega|(simp only [yz]<;>omega)|fail) only [yg,seval]
 rintro M1 q e H3 ⟨i, v, S, cs, rfl, hi, g24, g23, g22, g8, g1, g7, fr3, gw, clen, cat⟩
 have f3 := fr3.size
 have bw3 := (fr3.same _ (by omega)).trans bw
 simp (disch:=first|(simp only [yk,seval];done)|omega|(simp only [yz]<;>omega)|fail) only [↓yp,yq0,yq1,yq2,yq3,yq4,yl,ys0,ys1,seval,fitB,newC,endD,endR,yrg,g24,g23]
 refine ⟨fun hT' => ?_, fun hT' => ?_⟩
 rotate_left
 ·have hie : i = Ls.length := by have := of_decide_eq_false hT'; omega
  subst hie
  simp (disch:=first|(simp only [yk,seval];done)|omega|(simp only [yz]<;>omega)|fail) only [↓yp,yq0,yq1,yq2,yq3,yq4,yl,ys0,ys1,seval,fitB,newC,endD,endR,yrg,g8,g7]
  refine ⟨Ls, v, n, rfl, frH.trans fr3, ⟨S, cs, ⟨gw.nil, gw.cons, fun j hj => by have := gw.own j hj; omega⟩, clen, fun j s hj => ?_⟩, hP, hT, hO⟩
  obtain ⟨b, c, w1, w2, w3, w4⟩ := cat j s (by have := (List.getElem?_eq_some_iff.1 hj).1; exact this) hj
  exact ⟨b, c, w1, w3, w4⟩
 have hlt : i < Ls.length := by have := of_decide_eq_true hT'; omega
 obtain ⟨s, hsi⟩ : ∃ s, Ls[i]? = some s := ⟨Ls[i], by simp [hlt]⟩
 have hw2 : w64 ((i : Int) + 1) = ((i + 1 : Nat) : Int) := by rw [w64_of (by omega)]; omega
 obtain ⟨b, o, cc, eb, hb, hc, hqq⟩ := (rl.fr fr3).at_ hsi
 have qp : part cc (o + i * 4) 5 = some (.agg ⟨[.int .i64 s.1, .int .i64 s.2.1, .int .i64 s.2.2.1, .int .i64 s.2.2.2]⟩) := part_of hqq rfl
 subst eb
 simp (disch:=first|(simp only [yk,seval];done)|omega|(simp only [yz]<;>omega)|fail) only [↓yp,yq0,yq1,yq2,yq3,yq4,yl,ys0,ys1,seval,fitB,newC,endD,endR,yrg,g22,g24,A_indexSlice st_esS_152,hc,qp,g8,g1,bw3,lenV_slice st_esS_22]
 refine c98n (l := l4 s) (n := ps.length) rfl hl1 hl (by first|omega|(simp only [yz]<;>omega)) (by omega) ?_
 intro kb cb H4 fr4 kb1 kb2 rb
 have f4 := fr4.size
 simp only [size_alloc,size_put] at f4 kb1
 have o4 : ∀ j, j < H3.size → H4.get j = H3.get j := fun j hj => by rw [fr4.same j (by simp only [size_alloc,size_put]; omega), get_put_ne (by omega), get_alloc_lt hj]
 have gw4 : Gw H4 H2.size S v i cs 49 1 := gw.same (by omega) fun j hj => o4 j (gw.own j hj).2
 simp (disch:=first|(simp only [yk,seval];done)|omega|(simp only [yz]<;>omega)|fail) only [↓yp,yq0,yq1,yq2,yq3,yq4,yl,ys0,ys1,seval,fitB,newC,endD,endR,yrg,A_buildSlice st_brS_82_1]
 refine gw_append (i := i) (cs := cs) (news := [.slice (some ⟨kb, 0, none⟩) ps.length cb]) st_apS_82 (gw4.fr (by repeat first|exact Fr.refl _|assumption|refine Fr.allocd ?_ _|refine Fr.put ?_ (by first|omega|(simp only [yz]<;>omega)) _)) (by first|omega|(simp only [yz]<;>omega)) (by rw [clen]; omega) (by unfold srcCells; simp (disch:=first|(simp only [yk,seval];done)|omega|(simp only [yz]<;>omega)|fail) only [yg,seval] <;> rfl) (by omega) (by omega) rfl (by omega) ?_
 intro a1 c1 H5 hs5 fs5 gw5
 simp only [size_alloc] at hs5 fs5 gw5
 have old : ∀ q, q < H4.size → ¬ S q → H5.get q = H4.get q := fun q h1 h2 => by rw [fs5 q (by omega) h2, get_alloc_lt h1]
 have low : ∀ j, j ≤ H2.size → ¬ S j := fun j hj h => by have := (gw.own j h).1; omega
 simp (disch:=first|(simp only [yk,seval];done)|omega|(simp only [yz]<;>omega)|fail) only [↓yp,yq0,yq1,yq2,yq3,yq4,yl,ys0,ys1,seval,fitB,newC,endD,endR,yrg,g24,hw2]
 refine ⟨Ls.length - (i + 1), by omega, i + 1, .slice a1 (i + 1) c1, fun j => S j ∨ j = H4.size + 1, cs ++ [.slice (some ⟨kb, 0, none⟩) ps.length cb], rfl, by omega, ?_, ?_, ?_, ?_, ?_, ?_, ⟨by omega, fun j hj => ?_⟩, gw5, by rw [List.length_append, clen]; rfl, fun j s' hj hs' => ?_⟩
 ·simp (disch:=first|(simp only [yk,seval];done)|omega|(simp only [yz]<;>omega)|fail) only [yg,seval]
 ·simp (disch:=first|(simp only [yk,seval];done)|omega|(simp only [yz]<;>omega)|fail) only [yg,seval,g23]
 ·simp (disch:=first|(simp only [yk,seval];done)|omega|(simp only [yz]<;>omega)|fail) only [yg,seval,g22]
 ·simp (disch:=first|(simp only [yk,seval];done)|omega|(simp only [yz]<;>omega)|fail) only [yg,seval]
 ·simp (disch:=first|(simp only [yk,seval];done)|omega|(simp only [yz]<;>omega)|fail) only [yg,seval,g1]
 ·simp (disch:=first|(simp only [yk,seval];done)|omega|(simp only [yz]<;>omega)|fail) only [yg,seval,g7]
 ·rw [old j (by omega) (low j (by omega)), o4 j (by omega)]; exact fr3.same j hj
 ·by_cases hji : j < i
  ·obtain ⟨b', c', w1, w2, w3, w4⟩ := cat j s' hji hs'
   refine ⟨b', c', by rw [List.getElem?_append_left (by omega)]; exact w1, by omega, fun h => ?_, rw_same w4 (by omega) (by rw [old b' (by omega) w3, o4 b' w2])⟩
   rcases h with h | h
   ·exact w3 h
   ·omega
  ·obtain rfl : j = i := by omega
   rw [hsi] at hs'
   cases hs'
   refine ⟨kb, cb, by rw [List.getElem?_append_right (by omega), clen, Nat.sub_self]; rfl, by omega, fun h => ?_, rw_same rb (by omega) (by rw [old kb kb2 fun h => by have := (gw.own _ h).2; omega])⟩
   rcases h with h | h
   ·have := (gw.own _ h).2; omega
   ·omega
end Go.Am.K
namespace Go.Am.K
open Go.Proofs
variable {T : Tab} {P : Program} {N L : Nat} {H H' H'' : AHeap} {Q : Bool → Value → AHeap → Prop}
theorem StOk.chk {ps : List Pk} {gs : List Gd} {lots : Int} (h : StOk ps gs lots) : chkS ps gs lots = 0 := by
 have e1 : chk1 ps gs = false := by
  unfold chk1 wi
  simp only [Bool.or_eq_false_iff,Bool.not_eq_false',Bool.and_eq_true,decide_eq_true_eq,decide_eq_false_iff_not]
  have := h.l1
  have := h.l4
  have := h.g4
  omega
 have e4 : chk2 ps gs lots = false := by
  unfold chk2 wi
  rw [h.pb, h.gb]
  have := h.lo
  simp only [Bool.not_true,Bool.or_self,Bool.false_or,Bool.not_eq_false',Bool.and_eq_true,decide_eq_true_eq]
  omega
 have e5 : (ps.all fun p => !decide (p.hi < p.f)) = true := List.all_eq_true.2 fun p hp => by
  have := h.sp p hp
  simp only [Bool.not_eq_true',decide_eq_false_iff_not]
  omega
 unfold chkS
 rw [e1, e4, h.od, e5]; rfl
section
variable {a a' al : Option Addr} {cap cap' cl mk i : Nat} {ps : List Pk} {gs : List Gd} {lots : Int} {l : List Int} {op fd n : Int} {p : Pk}
end
end Go.Am.K
namespace Go.Am.K
open Go.Proofs
variable {b b' : List Int → Int}
theorem isum_perm {l l' : List Int} (h : l.Perm l') : isum l = isum l' := by
 induction h with
 | nil => rfl
 | cons x _ ih => show x + _ = x + _; rw [ih]
 | swap x y l => show y + (x + isum l) = x + (y + isum l); omega
 | trans _ _ ih1 ih2 => rw [ih1, ih2]
theorem rd_len {σ : List Nat} {x : List Int} : (rd σ x).length = σ.length := by unfold rd; rw [List.length_map]
theorem rd_at {σ : List Nat} {x : List Int} {i v : Nat} (h : σ[i]? = some v) : (rd σ x)[i]? = some (x[v]?.getD 0) := by unfold rd; rw [List.getElem?_map, h]; rfl
theorem rd_perm {σ : List Nat} {n : Nat} (h : σ.Perm (List.range n)) {y : List Int} (hy : y.length = n) : (rd σ y).Perm y := by
 have e : (List.range n).map (fun i => y[i]?.getD 0) = y := by
  apply List.ext_getElem?
  intro j
  rw [List.getElem?_map]
  by_cases hj : j < n
  ·rw [List.getElem?_range hj, List.getElem?_eq_getElem (by omega)]; simp [hy, hj]
  ·rw [List.getElem?_eq_none (by simpa using hj), List.getElem?_eq_none (by omega)]; rfl
 have := h.map (fun i => y[i]?.getD 0)
 rw [e] at this
 exact this
theorem isum_rd {σ : List Nat} {n : Nat} (h : σ.Perm (List.range n)) {y : List Int} (hy : y.length = n) : isum (rd σ y) = isum y := isum_perm (rd_perm h hy)
theorem idx_self {σ : List Nat} (hn : σ.Nodup) {i v : Nat} (h : σ[i]? = some v) : σ.idxOf v = i := by
 obtain ⟨hi, rfl⟩ := List.getElem?_eq_some_iff.1 h
 exact hn.idxOf_getElem i hi
theorem idx_at {σ : List Nat} {v : Nat} (h : v ∈ σ) : σ[σ.idxOf v]? = some v := by
 rw [List.getElem?_eq_getElem (List.idxOf_lt_length_of_mem h)]
 simp
theorem rd_inv {σ : List Nat} {n : Nat} (h : σ.Perm (List.range n)) : ∃ τ : List Nat, τ.length = n ∧ (∀ i ∈ τ, i < n) ∧ ∀ x : List Int, x.length = n → rd τ (rd σ x) = x ∧ rd σ (rd τ x) = x := by
 have hl : σ.length = n := by rw [h.length_eq, List.length_range]
 have hm : ∀ v, v < n → v ∈ σ := fun v hv => h.mem_iff.2 (List.mem_range.2 hv)
 have hnd : σ.Nodup := h.nodup_iff.2 List.nodup_range
 have hτ : ∀ v, v < n → ((List.range n).map fun j => σ.idxOf j)[v]? = some (σ.idxOf v) := fun v hv => by rw [List.getElem?_map, List.getElem?_range hv]; rfl
 refine ⟨(List.range n).map fun j => σ.idxOf j, by simp, fun i hi => ?_, fun x hx => ⟨?_, ?_⟩⟩
 ·obtain ⟨v, hv, rfl⟩ := List.mem_map.1 hi
  rw [← hl]
  exact List.idxOf_lt_length_of_mem (hm v (List.mem_range.1 hv))
 ·apply List.ext_getElem?
  intro j
  by_cases hj : j < n
  ·rw [rd_at (hτ j hj), rd_at (idx_at (hm j hj))]
   rw [List.getElem?_eq_getElem (by omega)]; rfl
  ·rw [List.getElem?_eq_none (by rw [rd_len]; simpa using hj), List.getElem?_eq_none (by omega)]
 ·apply List.ext_getElem?
  intro i
  by_cases hi : i < n
  ·obtain ⟨v, hv⟩ : ∃ v, σ[i]? = some v := ⟨σ[i]'(by omega), by simp [hl, hi]⟩
   have hvn : v < n := List.mem_range.1 (h.mem_iff.1 (List.mem_of_getElem? hv))
   rw [rd_at hv, rd_at (hτ v hvn), idx_self hnd hv]
   rw [List.getElem?_eq_getElem (by omega)]; rfl
  ·rw [List.getElem?_eq_none (by rw [rd_len]; omega), List.getElem?_eq_none (by omega)]
structure Mv (σ : List Nat) (ps ps' : List Pk) : Prop where
 pm : σ.Perm (List.range ps.length)
 len : ps'.length = ps.length
 at_ : ∀ i v : Nat, σ[i]? = some v → ps'[v]? = ps[i]?
section
variable {σ : List Nat} {ps ps' : List Pk} {gs : List Gd}
theorem Mv.sl (h : Mv σ ps ps') : σ.length = ps.length := by rw [h.pm.length_eq, List.length_range]
theorem Mv.lt (h : Mv σ ps ps') {v : Nat} (hv : v ∈ σ) : v < ps.length := List.mem_range.1 (h.pm.mem_iff.1 hv)
theorem Mv.get (h : Mv σ ps ps') {i : Nat} (hi : i < ps.length) : ∃ v, σ[i]? = some v ∧ v < ps.length := by
 have hs := h.sl
 refine ⟨σ[i]'(by omega), by simp [hs, hi], h.lt (List.getElem_mem _)⟩
theorem fo_rd {s : Bool} {τ : List Nat} (h : Mv σ ps ps') (hτ : ∀ i, i < ps.length → τ[i]? = σ[i]?) {x : List Int} (hx : ps.length ≤ x.length) (hl : ps.length ≤ τ.length) : fo s ps (rd τ x) = rd σ (fo s ps' x) := by
 have hs := h.sl
 have h2 := h.len
 apply List.ext_getElem?
 intro i
 by_cases hi : i < ps.length
 ·obtain ⟨v, hv, hvl⟩ := h.get hi
  have hp : ps[i]? = some ps[i] := by simp [hi]
  have hxv : x[v]? = some (x[v]'(by omega)) := List.getElem?_eq_getElem _
  rw [rd_at hv, fo_get hp (rd_at ((hτ i hi).trans hv)), fo_get ((h.at_ i v hv).trans hp) hxv, hxv]; rfl
 ·rw [List.getElem?_eq_none (by rw [fo_len (by rw [rd_len]; exact hl)]; omega), List.getElem?_eq_none (by rw [rd_len]; omega)]
theorem fo_mv {s : Bool} {τ : List Nat} (h : Mv σ ps ps') (hτ : ∀ i, i < ps.length → τ[i]? = σ[i]?) {x : List Int} (hx : ps.length ≤ x.length) (hl : ps.length ≤ τ.length) : isum (fo s ps (rd τ x)) = isum (fo s ps' x) := by
 rw [fo_rd h hτ hx hl, isum_rd h.pm (by rw [fo_len (by rw [h.len]; exact hx), h.len])]
def ext4 (σ : List Nat) : List Nat := σ ++ (List.range 4).drop σ.length
theorem ext4_at {i : Nat} (hi : i < σ.length) : (ext4 σ)[i]? = σ[i]? := by unfold ext4; rw [List.getElem?_append_left hi]
theorem ext4_pm {n : Nat} (hn : n ≤ 4) (h : σ.Perm (List.range n)) : (ext4 σ).Perm (List.range 4) := by
 have hl : σ.length = n := by rw [h.length_eq, List.length_range]
 unfold ext4
 rw [hl]
 have e : List.range n ++ (List.range 4).drop n = List.range 4 := by
  have : n = 0 ∨ n = 1 ∨ n = 2 ∨ n = 3 ∨ n = 4 := by omega
  rcases this with rfl | rfl | rfl | rfl | rfl <;> rfl
 have := h.append_right ((List.range 4).drop n)
 rw [e] at this
 exact this
theorem brg_rd (h : Mv σ ps ps') (h4 : ps.length ≤ 4) {x : List Int} (hx : x.length = 4) : brg ps gs (rd (ext4 σ) x) = brg ps' gs x := by
 have hs := h.sl
 have h1 := isum_rd (ext4_pm h4 h.pm) hx
 have h2 := fo_mv (s := false) h (τ := ext4 σ) (fun i hi => ext4_at (by omega)) (x := x) (by omega) (by unfold ext4; rw [List.length_append]; omega)
 unfold brg grd
 rw [h1, h2]
theorem pt_at {l : List Int} {i j : Nat} (hi : i ≤ l.length) (_ : j < 4) : (pt l i)[j]?.getD 0 = if j < i then l[j]?.getD 0 else 0 := by
 unfold pt
 split
 ·rename_i h
  rw [List.getElem?_append_left (by rw [List.length_take]; omega), List.getElem?_take_of_lt h]
 ·rw [List.getElem?_append_right (by rw [List.length_take]; omega), List.length_take, List.getElem?_replicate]
  split <;> rfl
theorem stk_rd (h : Mv σ ps ps') (h4 : ps.length ≤ 4) : rd (ext4 σ) (stk ps') = stk ps := by
 have hs := h.sl
 have hl := h.len
 have hpm := ext4_pm h4 h.pm
 have hel : (ext4 σ).length = 4 := by rw [hpm.length_eq]; rfl
 apply List.ext_getElem?
 intro i
 by_cases hi : i < 4
 ·obtain ⟨v, hv⟩ : ∃ v, (ext4 σ)[i]? = some v := ⟨(ext4 σ)[i]'(by omega), List.getElem?_eq_getElem _⟩
  have hv4 : v < 4 := List.mem_range.1 (hpm.mem_iff.1 (List.mem_of_getElem? hv))
  have e : (stk ps)[i]? = some ((stk ps)[i]?.getD 0) := by
   rw [List.getElem?_eq_getElem (by rw [stk_len h4]; exact hi)]; rfl
  rw [rd_at hv, e]
  unfold stk
  rw [pt_at (by rw [List.length_map]; omega) hv4, pt_at (by rw [List.length_map]; omega) hi]
  by_cases hin : i < ps.length
  ·rw [ext4_at (by omega)] at hv
   have hvn := h.lt (List.mem_of_getElem? hv)
   rw [if_pos (by omega), if_pos hin, List.getElem?_map, List.getElem?_map, h.at_ i v hv]
  ·rw [if_neg hin]
   have hvn : ¬ v < ps'.length := by
    intro hvn
    unfold ext4 at hv
    rw [List.getElem?_append_right (by omega), List.getElem?_drop] at hv
    have hv2 := hv
    rw [List.getElem?_range (by omega)] at hv2
    simp only [Option.some.injEq] at hv2
    omega
   rw [if_neg hvn]
 ·rw [List.getElem?_eq_none (by rw [rd_len]; omega), List.getElem?_eq_none (by rw [stk_len h4]; omega)]
theorem Pl_lens {r : List Int} : ∀ {k : Nat} {L : List (List Int)}, Pl r k L → ∀ x ∈ L, x.length = r.length := by
 intro k L
 induction L generalizing r k with
 | nil => intro _ x hx; simp at hx
 | cons l L ih =>
  intro h x hx
  match k, h with
  | k + 1, h =>
   rcases List.mem_cons.1 hx with rfl | hx
   ·exact LV_len h.1
   ·rw [ih h.2 x hx, sbL_len h.1]
theorem totL_map {f : List Int → List Int} : ∀ {L : List (List Int)}, (∀ x ∈ L, b' (f x) = b x) → totL b' (L.map f) = totL b L
 | [], _ => rfl
 | x :: L, h => by
  show b' (f x) + totL b' (L.map f) = b x + totL b L
  rw [h x (by simp), totL_map fun y hy => h y (by simp [hy])]
theorem opt_mv {k : Nat} {v : Int} (h : Mv σ ps ps') (h4 : ps.length ≤ 4) (ho : OptR (brg ps gs) (stk ps) k v) : OptR (brg ps' gs) (stk ps') k v := by
 have hpm := ext4_pm h4 h.pm
 obtain ⟨τ, t1, t2, t3⟩ := rd_inv hpm
 have hl := h.len
 have l1 := stk_len (ps := ps) h4
 have l2 := stk_len (ps := ps') (by omega)
 have hst := stk_rd h h4
 refine OptR.map ho (fun L hL => ⟨L.map (rd τ), ?_, ?_⟩) (fun M hM => ⟨M.map (rd (ext4 σ)), ?_, ?_⟩)
 ·have := Pl_rd (σ := τ) hL (by rw [l1]; exact t2)
  rw [← hst, (t3 _ l2).1] at this
  exact this
 ·refine totL_map fun x hx => ?_
  have hx4 := (Pl_lens hL x hx).trans l1
  rw [← brg_rd h h4 (by rw [rd_len]; exact t1), (t3 x hx4).2]
 ·have := Pl_rd (σ := ext4 σ) hM (by rw [l2]; exact fun i hi => List.mem_range.1 (hpm.mem_iff.1 hi))
  rw [hst] at this
  exact this
 ·exact totL_map fun x hx => brg_rd h h4 ((Pl_lens hM x hx).trans l2)
theorem sure_mv (h : Mv σ ps ps') {l l' : List Int} (hl : l'.length = ps.length) (he : rd σ l' = l) : sureV ps gs l = sureV ps' gs l' := by
 have h1 := isum_rd h.pm hl
 have h2 := fo_mv (s := false) h (τ := σ) (fun i hi => rfl) (x := l') (by omega) (by rw [h.sl]; omega)
 rw [he] at h1 h2
 unfold sureV
 rw [h1, h2]
theorem span_mv {s : Bool} (h : Mv σ ps ps') {l l' : List Int} (hl : l'.length = ps.length) (he : rd σ l' = l) : isum (fo s ps l) = isum (fo s ps' l') := by
 have h2 := fo_mv (s := s) h (τ := σ) (fun i hi => rfl) (x := l') (by omega) (by rw [h.sl]; omega)
 rw [he] at h2
 exact h2
theorem Mv.all (h : Mv σ ps ps') {p : Pk} (hp : p ∈ ps') : p ∈ ps := by
 obtain ⟨v, hv⟩ := List.getElem?_of_mem hp
 have hvl := (List.getElem?_eq_some_iff.1 hv).1
 have hm : v ∈ σ := h.pm.mem_iff.2 (List.mem_range.2 (by rw [← h.len]; exact hvl))
 obtain ⟨i, hi⟩ := List.getElem?_of_mem hm
 have := h.at_ i v hi
 rw [hv] at this
 exact List.mem_of_getElem? this.symm
def dearG (t : Int) (gs : List Gd) : List Gd := gs.map fun g => ⟨g.fo, t * g.pr⟩
theorem grd_dear {t : Int} {x : List Int} : (grd ps (dearG t gs) x).pr = t * (grd ps gs x).pr := by
 unfold grd dearG
 rw [List.find?_map]
 have : (hasG (isum x) (isum (fo false ps x)) ∘ fun g : Gd => ({ fo := g.fo, pr := t * g.pr } : Gd)) = hasG (isum x) (isum (fo false ps x)) := rfl
 rw [this]
 cases gs.find? (hasG (isum x) (isum (fo false ps x))) with
 | none => show (0 : Int) = t * 0; omega
 | some g => rfl
theorem brg_dear {t : Int} {x : List Int} : brg ps (dearG t gs) x = t * brg ps gs x := by
 unfold brg
 rw [grd_dear, ← Int.mul_assoc, ← Int.mul_assoc, Int.mul_comm (isum x) t]
end
theorem chk_mv {σ : List Nat} {ps ps' : List Pk} {gs : List Gd} {lots : Int} (h : Mv σ ps ps') (ho : StOk ps gs lots) : StOk ps' gs lots where
 l1 := by rw [h.len]; exact ho.l1
 l4 := by rw [h.len]; exact ho.l4
 g4 := ho.g4
 pb := List.all_eq_true.2 fun p hp => List.all_eq_true.1 ho.pb p (h.all hp)
 gb := ho.gb
 lo := ho.lo
 od := ho.od
 sp := fun p hp => ho.sp p (h.all hp)
theorem dear_at {t : Int} {gs : List Gd} {i : Nat} {g : Gd} (h : (dearG t gs)[i]? = some g) : ∃ g', gs[i]? = some g' ∧ g = ⟨g'.fo, t * g'.pr⟩ := by
 unfold dearG at h
 rw [List.getElem?_map] at h
 cases hg : gs[i]? with
 | none => rw [hg] at h; cases h
 | some g' => rw [hg] at h; cases h; exact ⟨g', rfl, rfl⟩
theorem ord_first : ∀ {gs : List Gd} {g0 : Gd}, ordB gs = true → gs[0]? = some g0 → ∀ g ∈ gs, g.pr ≤ g0.pr
 | [], _, _, h, _, _ => by simp at h
 | [g], g0, _, h, x, hx => by
  simp only [List.getElem?_cons_zero,Option.some.injEq] at h
  subst h
  simp only [List.mem_singleton] at hx
  subst hx
  exact Int.le_refl _
 | g :: g' :: l, g0, ho, h, x, hx => by
  simp only [List.getElem?_cons_zero,Option.some.injEq] at h
  subst h
  unfold ordB at ho
  simp only [Bool.and_eq_true,decide_eq_true_eq] at ho
  rcases List.mem_cons.1 hx with rfl | hx
  ·exact Int.le_refl _
  ·have := ord_first ho.2 (g0 := g') rfl x hx
   omega
theorem chk_dear {t : Int} {ps : List Pk} {gs : List Gd} {lots : Int} {g0 : Gd} (ht : 1 ≤ t) (h0 : gs[0]? = some g0) (hp : t * g0.pr ≤ 100) (ho : StOk ps gs lots) : StOk ps (dearG t gs) lots where
 l1 := ho.l1
 l4 := ho.l4
 g4 := by unfold dearG; rw [List.length_map]; exact ho.g4
 pb := ho.pb
 gb := List.all_eq_true.2 fun g hg => by
  obtain ⟨i, hi⟩ := List.getElem?_of_mem hg
  obtain ⟨g', h1, rfl⟩ := dear_at hi
  have hm := List.mem_of_getElem? h1
  have hb := List.all_eq_true.1 ho.gb g' hm
  have hle := ord_first ho.od h0 g' hm
  have h2 : t * g'.pr ≤ t * g0.pr := Int.mul_le_mul_of_nonneg_left hle (by omega)
  unfold Gd.isB wi at hb ⊢
  simp only [Bool.and_eq_true,decide_eq_true_eq] at hb ⊢
  have h3 : 1 * g'.pr ≤ t * g'.pr := Int.mul_le_mul_of_nonneg_right ht (by omega)
  omega
 lo := ho.lo
 od := ordB_at.2 fun i g g' hg hg' => by
  obtain ⟨x, h1, rfl⟩ := dear_at hg
  obtain ⟨y, h2, rfl⟩ := dear_at hg'
  have := ordB_at.1 ho.od i x y h1 h2
  exact ⟨this.1, Int.mul_lt_mul_of_pos_left this.2 (by omega)⟩
 sp := ho.sp
end Go.Am.K
