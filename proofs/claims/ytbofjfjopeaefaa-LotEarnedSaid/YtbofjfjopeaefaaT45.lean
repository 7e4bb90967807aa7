import Derived.Test.YtbofjfjopeaefaaT44
import Derived.Test.YtbofjfjopeaefaaT43
import Derived.Test.YtbofjfjopeaefaaT42
set_option linter.unusedSimpArgs false
set_option linter.unusedVariables false
namespace Go.Am.K
open Go.Proofs
variable {T : Tab} {P : Program} {N L : Nat} {H H' H'' : AHeap} {Q : Bool → Value → AHeap → Prop}
variable {ps : List Pk} {gs : List Gd} {a a' : Option Addr} {cap cap' : Nat} {mk : Nat}
theorem st_apS_82 : apS tabA 82 = some (49, 1, 24) := by kernel_rfl
theorem rw_same {α : Type} {E : Enc α} {b : Nat} {l : List α} (h : Rw E H (some ⟨b, 0, none⟩) l) (hz : H.size ≤ H'.size) (hs : H'.get b = H.get b) : Rw E H' (some ⟨b, 0, none⟩) l := ⟨fun hl => by
 obtain ⟨b', o, c, e1, e2, e3, e4⟩ := h.get hl
 cases e1
 exact ⟨b, 0, c, rfl, by omega, by rw [hs]; exact e3, e4⟩⟩
theorem c98n {l : List Int} {n : Nat} (hl : l.length = 4) (h1 : 1 ≤ n) (h4 : n ≤ 4) (hL : L ≤ H.size) {M : Nat} (hM : 90 ≤ M)
  (hq : ∀ k cap' H', Fr H H' → H.size < k → k < H'.size → Rw intE H' (some ⟨k, 0, none⟩) (l.take n) → Q false (.slice (some ⟨k, 0, none⟩) n cap') H') : resK (acall tabA (aexec tabA Try.prog M) 98 [.agg ⟨tv l⟩, .int .i64 (n : Nat)] H) L Q := by
 obtain ⟨N, rfl⟩ : ∃ N, M = N + 90 := ⟨M - 90, by omega⟩
 refine call_fls (R := fun v H' => ∃ k cap', v = .slice (some ⟨k, 0, none⟩) n cap' ∧ Fr H H' ∧ (H.size < k ∧ k < H'.size) ∧ Rw intE H' (some ⟨k, 0, none⟩) (l.take n)) (k := 8) (rs := [.tmp 4]) rfl fn_98 rfl rfl rfl hL ?_ ?_ ?_
 rotate_left
 ·rintro v H' ⟨k, cap', rfl, -⟩; rfl
 ·rintro v H' ⟨k, cap', rfl, h1, h2, h3⟩
  exact hq _ _ _ h1 h2.1 h2.2 h3
 have hlt : (l.take n).length = n := by rw [List.length_take]; omega
 simp (disch:=first|(simp only [yk,seval];done)|omega|(simp only [yz]<;>omega)|fail) only [↓yp,yA,ys0,ys1,seval,fitB,newC,endD,endR,yrg]
 refine A_cut4 (b := H.size) (o := 0) (n := n) (sp := none) (by simp (disch:=first|(simp only [yk,seval];done)|omega|(simp only [yz]<;>omega)|fail) only [↓yp,yA,ys0,ys1,seval,fitB,newC,endD,endR,yrg]) (by simp (disch:=first|(simp only [yk,seval];done)|omega|(simp only [yz]<;>omega)|fail) only [↓yp,yA,ys0,ys1,seval,fitB,newC,endD,endR,yrg]) h4 (by first|omega|(simp only [yz]<;>omega)) ?_
 simp (disch:=first|(simp only [yk,seval];done)|omega|(simp only [yz]<;>omega)|fail) only [↓yp,yA,ys0,ys1,seval,fitB,newC,endD,endR,yrg]
 have hr : Rw intE (H.alloc (.rw (tv l) 119 false [])) (some ⟨H.size, 0, none⟩) (l.take n) := Rw.of (r := tv (l.drop n)) (c := tv l) (by first|omega|(simp only [yz]<;>omega)) (by rw [get_alloc_same]; rfl) (by rw [fl_int]; unfold tv; rw [← List.map_append, List.take_append_drop])
 have h125 := fun (M : Nat) (hM : 60 ≤ M) (Q : Bool → Value → AHeap → Prop) => c125 (Q := Q) (L := H.size) (cap := 4) hr (by intro h; rw [h] at hlt; simp at hlt; omega) (by omega) (by first|omega|(simp only [yz]<;>omega)) hM
 rw [hlt] at h125
 refine h125 _ (by omega) _ ?_
 intro k c H1 fr1 k1 k2 k3
 have f1 := fr1.size
 simp only [size_alloc] at f1
 simp (disch:=first|(simp only [yk,seval];done)|omega|(simp only [yz]<;>omega)|fail) only [↓yp,yA,ys0,ys1,seval,fitB,newC,endD,endR,yrg]
 exact ⟨k, c, rfl, Fr.trans (Fr.alloc _ _) fr1, ⟨by simp only [size_alloc] at k1; omega, k2⟩, Rw.of (r := []) k2 (by rw [k3]; rfl) (by rw [List.append_nil])⟩
def LsR (tb n : Nat) (H : AHeap) (v : Value) (Ls : List K4) : Prop := ∃ (S : Nat → Prop) (cs : List Value), Gw H tb S v Ls.length cs 49 1 ∧ cs.length = Ls.length ∧ ∀ (j : Nat) (s : K4), Ls[j]? = some s → ∃ b c, cs[j]? = some (Value.slice (some ⟨b, 0, none⟩) n c) ∧ ¬ S b ∧ Rw intE H (some ⟨b, 0, none⟩) ((l4 s).take n)
def B45 (ps : List Pk) (gs : List Gd) (k : Nat) (H : AHeap) (v : Value) (H' : AHeap) : Prop := ∃ (Ls : List K4) (w : Value) (n : Int), v = .tuple ⟨[w, .int .i64 n, .int .i64 0]⟩ ∧ Fr H H' ∧ LsR H.size ps.length H' w Ls ∧ Pl (stk ps) k (Ls.map l4) ∧ totL (brg ps gs) (Ls.map l4) = n ∧ OptR (brg ps gs) (stk ps) k n
theorem c97M (hs : Rw pkE H a ps) (hg : Rw gdE H a' gs) (hl : ps.length ≤ 4) (hpk : ∀ p ∈ ps, p.Ok) (hgl : gs.length ≤ 4) (hgk : ∀ g ∈ gs, g.Ok) (k : Nat) (hk : k ≤ 3) (hmk : mk < H.size) (hbr : BrI ps gs (H.get mk)) (hL : L ≤ mk) {M : Nat} (hM : 18000 ≤ M) :
  resK (acall tabA (aexec tabA Try.prog M) 97 [.agg ⟨[.slice a ps.length cap, .slice a' gs.length cap', .int .i64 (k : Int), .map (some mk)]⟩] H) L fun b v H' => (b = true → H' = H) ∧ BeR ps gs mk k H v H' := by
 obtain ⟨N, rfl⟩ : ∃ N, M = N + 18000 := ⟨M - 18000, by omega⟩
 exact c97 hs hg hl hpk hgl hgk k hk hmk hbr hL
set_option maxHeartbeats 4000000 in
set_option maxRecDepth 10000 in
theorem c45 (hs : Rw pkE H a ps) (hg : Rw gdE H a' gs) (hl : ps.length ≤ 4) (hl1 : 1 ≤ ps.length) (hpk : ∀ p ∈ ps, p.Ok) (hgl : gs.length ≤ 4) (hgk : ∀ g ∈ gs, g.Ok) (k : Nat) (hk : k ≤ 3) (hok : chkS ps gs (k : Int) = 0) :
  resK (acall tabA (aexec tabA Try.prog (N + 18200)) 45 [.agg ⟨[.slice a ps.length cap, .slice a' gs.length cap', .int .i64 (k : Int)]⟩] H) H.size fun b v H' => (b = true → H' = H) ∧ B45 ps gs k H v H' := by
 refine call_keep tabA_fr (R := B45 ps gs k H) (k := 39) (rs := [.tmp 2, .tmp 3, .tmp 4]) rfl fn_45 rfl rfl rfl (by omega) ?_ (fun v H' h => ⟨fun h => (by cases h), h⟩) ?_
 rotate_left
 ·rintro v H' ⟨Ls, w, n, rfl, h1, ⟨S, cs, g, g2, g3⟩, h3, h4, h5⟩ hgr fr
  refine ⟨fun _ => rfl, Ls, w, n, rfl, Fr.refl _, ?_, h3, h4, h5⟩
  by_cases hn : Ls = []
  ·subst hn
   have := g.nil rfl
   subst this
   exact ⟨_, [], Gw.none, rfl, fun j s h => by simp at h⟩
  ·obtain ⟨b, al, rfl, -⟩ := g.cons (by simpa using hn)
   cases hgr
 have fr0 : Fr H (H.alloc (.rw [.slice a ps.length cap, .slice a' gs.length cap', .int .i64 (k : Int)] 25 false [])) := by (repeat (first | exact Fr.refl _ | assumption | refine Fr.allocd ?_ _ | refine Fr.put ?_ (by first | omega | (simp only [yz] <;> omega)) _))
 have h16 := fun (N : Nat) => c16 (N := N) (cap := cap) (cap' := cap') (lots := (k : Int)) (hs.fr fr0) (hg.fr fr0)
 rw [hok] at h16
 have hd0 : decide ((0 : Int) = 0) = true := rfl
 simp (disch:=first|(simp only [yk,seval];done)|omega|(simp only [yz]<;>omega)|fail) only [↓yp,yA,ys0,ys1,seval,fitB,newC,endD,endR,yrg,h16,hd0]
 refine c77 (by first|omega|(simp only [yz]<;>omega)) (by omega) ?_
 intro mk H1 fr1 k1 k2 k3
 have f1 := fr1.size
 have s1 := fr1.same
 simp only [size_alloc] at f1 s1 k1
 have fr01 : Fr H H1 := Fr.trans fr0 fr1
 simp (disch:=first|(simp only [yk,seval];done)|omega|(simp only [yz]<;>omega)|fail) only [↓yp,yA,ys0,ys1,seval,fitB,newC,endD,endR,yrg]
 refine resK_mono (c97M (hs.fr fr01) (hg.fr fr01) hl hpk hgl hgk k hk k2 (by rw [k3]; exact BrI.nil) (by omega) (by omega)) ?_
 rintro b _ H2 ⟨-, Ls, pa, c, n, rfl, rl, rs, hP, hT, hO, sz2, sm2, br2⟩
 have hz12 : H.size ≤ H2.size := by omega
 have bw : H2.get H.size = .rw [.slice a ps.length cap, .slice a' gs.length cap', .int .i64 (k : Int)] 25 false [] := by
  rw [sm2 _ (by omega) (by omega), s1 _ (by omega)]; exact get_alloc_same
 have frH : Fr H H2 := ⟨hz12, fun i hi => by rw [sm2 i (by omega) (by omega), s1 i (by omega), get_alloc_lt hi]⟩
 have hlen : Ls.length ≤ 3 := by
  have := Pl_len hP
  rw [List.length_map] at this
  omega
 simp (disch:=first|(simp only [yk,seval];done)|omega|(simp only [yz]<;>omega)|fail) only [↓yp,yA,ys0,ys1,seval,fitB,newC,endD,endR,yrg,lenV_slice st_esS_152]
 refine W_while (n := 39) 300 (fun q e' H' => ∃ (i : Nat) (v : Value) (S : Nat → Prop) (cs : List Value), q = Ls.length - i ∧ i ≤ Ls.length ∧ gt 39 e' 24 = .int .i64 (i : Nat) ∧ gt 39 e' 23 = .int .i64 (Ls.length : Nat) ∧ gt 39 e' 22 = .slice pa Ls.length c ∧ gt 39 e' 8 = v ∧ gt 39 e' 1 = .pointer (some ⟨H.size, 0, none⟩) ∧ gt 39 e' 7 = .int .i64 n ∧ Fr H2 H' ∧ Gw H' H2.size S v i cs 49 1 ∧ cs.length = i ∧ ∀ (j : Nat) (s : K4), j < i → Ls[j]? = some s → ∃ b c, cs[j]? = some (Value.slice (some ⟨b, 0, none⟩) ps.length c) ∧ b < H'.size ∧ ¬ S b ∧ Rw intE H' (some ⟨b, 0, none⟩) ((l4 s).take ps.length))
  ?_ 4 Ls.length ⟨0, .slice none 0 0, fun _ => False, [], by omega, by omega, ?_, ?_, ?_, ?_, ?_, ?_, Fr.refl _, Gw.none, rfl, fun j s h => by omega⟩ (by omega) (by omega)
 rotate_left
 ·simp (disch:=first|(simp only [yk,seval];done)|omega|(simp only [yz]<;>omega)|fail) only [yg,seval] <;> rfl
 ·simp (disch:=first|(simp only [yk,seval];done)|omega|(simp only [yz]<;>omega)|fail) only [yg,seval]
 ·simp (disch:=first|(simp only [yk,seval];done)|omega|(simp only [yz]<;>omega)|fail) only [yg,seval]
 ·simp (disch:=first|(simp only [yk,seval];done)|omega|(simp only [yz]<;>omega)|fail) only [yg,seval]
 ·simp (disch:=first|(simp only [yk,seval];done)|omega|(simp only [yz]<;>omega)|fail) only [yg,seval]
 ·simp (disch:=first|(simp only [yk,seval];done)|omega|(simp only [yz]<;>omega)|fail) only [yg,seval]
 rintro M1 q e H3 ⟨i, v, S, cs, rfl, hi, g24, g23, g22, g8, g1, g7, fr3, gw, clen, cat⟩
 have f3 := fr3.size
 have bw3 := (fr3.same _ (by omega)).trans bw
 simp (disch:=first|(simp only [yk,seval];done)|omega|(simp only [yz]<;>omega)|fail) only [↓yp,yA,ys0,ys1,seval,fitB,newC,endD,endR,yrg,g24,g23]
 refine ⟨fun hT' => ?_, fun hT' => ?_⟩
 rotate_left
 ·have hie : i = Ls.length := by have := of_decide_eq_false hT'; omega
  subst hie
  simp (disch:=first|(simp only [yk,seval];done)|omega|(simp only [yz]<;>omega)|fail) only [↓yp,yA,ys0,ys1,seval,fitB,newC,endD,endR,yrg,g8,g7]
  refine ⟨Ls, v, n, rfl, frH.trans fr3, ⟨S, cs, ⟨gw.nil, gw.cons, fun j hj => by have := gw.own j hj; omega⟩, clen, fun j s hj => ?_⟩, hP, hT, hO⟩
  obtain ⟨b, c, w1, w2, w3, w4⟩ := cat j s (by have := (List.getElem?_eq_some_iff.1 hj).1; exact this) hj
  exact ⟨b, c, w1, w3, w4⟩
 have hlt : i < Ls.length := by have := of_decide_eq_true hT'; omega
 obtain ⟨s, hsi⟩ : ∃ s, Ls[i]? = some s := ⟨Ls[i], by simp [hlt]⟩
 have hw2 : w64 ((i : Int) + 1) = ((i + 1 : Nat) : Int) := by rw [w64_of (by omega)]; omega
 obtain ⟨b, o, cc, eb, hb, hc, hqq⟩ := (rl.fr fr3).at_ hsi
 have qp : part cc (o + i * 4) 5 = some (.agg ⟨[.int .i64 s.1, .int .i64 s.2.1, .int .i64 s.2.2.1, .int .i64 s.2.2.2]⟩) := part_of hqq rfl
 subst eb
 simp (disch:=first|(simp only [yk,seval];done)|omega|(simp only [yz]<;>omega)|fail) only [↓yp,yA,ys0,ys1,seval,fitB,newC,endD,endR,yrg,g22,g24,A_indexSlice st_esS_152,hc,qp,g8,g1,bw3,lenV_slice st_esS_22]
 refine c98n (l := l4 s) (n := ps.length) rfl hl1 hl (by first|omega|(simp only [yz]<;>omega)) (by omega) ?_
 intro kb cb H4 fr4 kb1 kb2 rb
 have f4 := fr4.size
 simp only [size_alloc,size_put] at f4 kb1
 have o4 : ∀ j, j < H3.size → H4.get j = H3.get j := fun j hj => by rw [fr4.same j (by simp only [size_alloc,size_put]; omega), get_put_ne (by omega), get_alloc_lt hj]
 have gw4 : Gw H4 H2.size S v i cs 49 1 := gw.same (by omega) fun j hj => o4 j (gw.own j hj).2
 simp (disch:=first|(simp only [yk,seval];done)|omega|(simp only [yz]<;>omega)|fail) only [↓yp,yA,ys0,ys1,seval,fitB,newC,endD,endR,yrg,A_buildSlice st_brS_82_1]
 refine gw_append (i := i) (cs := cs) (news := [.slice (some ⟨kb, 0, none⟩) ps.length cb]) st_apS_82 (gw4.fr (by repeat first|exact Fr.refl _|assumption|refine Fr.allocd ?_ _|refine Fr.put ?_ (by first|omega|(simp only [yz]<;>omega)) _)) (by first|omega|(simp only [yz]<;>omega)) (by rw [clen]; omega) (by unfold srcCells; simp (disch:=first|(simp only [yk,seval];done)|omega|(simp only [yz]<;>omega)|fail) only [yg,seval] <;> rfl) (by omega) (by omega) rfl (by omega) ?_
 intro a1 c1 H5 hs5 fs5 gw5
 simp only [size_alloc] at hs5 fs5 gw5
 have old : ∀ q, q < H4.size → ¬ S q → H5.get q = H4.get q := fun q h1 h2 => by rw [fs5 q (by omega) h2, get_alloc_lt h1]
 have low : ∀ j, j ≤ H2.size → ¬ S j := fun j hj h => by have := (gw.own j h).1; omega
 simp (disch:=first|(simp only [yk,seval];done)|omega|(simp only [yz]<;>omega)|fail) only [↓yp,yA,ys0,ys1,seval,fitB,newC,endD,endR,yrg,g24,hw2]
 refine ⟨Ls.length - (i + 1), by omega, i + 1, .slice a1 (i + 1) c1, fun j => S j ∨ j = H4.size + 1, cs ++ [.slice (some ⟨kb, 0, none⟩) ps.length cb], rfl, by omega, ?_, ?_, ?_, ?_, ?_, ?_, ⟨by omega, fun j hj => ?_⟩, gw5, by rw [List.length_append, clen]; rfl, fun j s' hj hs' => ?_⟩
 ·simp (disch:=first|(simp only [yk,seval];done)|omega|(simp only [yz]<;>omega)|fail) only [yg,seval]
 ·simp (disch:=first|(simp only [yk,seval];done)|omega|(simp only [yz]<;>omega)|fail) only [yg,seval,g23]
 ·simp (disch:=first|(simp only [yk,seval];done)|omega|(simp only [yz]<;>omega)|fail) only [yg,seval,g22]
 ·simp (disch:=first|(simp only [yk,seval];done)|omega|(simp only [yz]<;>omega)|fail) only [yg,seval]
 ·simp (disch:=first|(simp only [yk,seval];done)|omega|(simp only [yz]<;>omega)|fail) only [yg,seval,g1]
 ·simp (disch:=first|(simp only [yk,seval];done)|omega|(simp only [yz]<;>omega)|fail) only [yg,seval,g7]
 ·rw [old j (by omega) (low j (by omega)), o4 j (by omega)]; exact fr3.same j hj
 ·by_cases hji : j < i
  ·obtain ⟨b', c', w1, w2, w3, w4⟩ := cat j s' hji hs'
   refine ⟨b', c', by rw [List.getElem?_append_left (by omega)]; exact w1, by omega, fun h => ?_, rw_same w4 (by omega) (by rw [old b' (by omega) w3, o4 b' w2])⟩
   rcases h with h | h
   ·exact w3 h
   ·omega
  ·obtain rfl : j = i := by omega
   rw [hsi] at hs'
   cases hs'
   refine ⟨kb, cb, by rw [List.getElem?_append_right (by omega), clen, Nat.sub_self]; rfl, by omega, fun h => ?_, rw_same rb (by omega) (by rw [old kb kb2 fun h => by have := (gw.own _ h).2; omega])⟩
   rcases h with h | h
   ·have := (gw.own _ h).2; omega
   ·omega
end Go.Am.K
namespace Go.Am.K
open Go.Proofs
variable {T : Tab} {P : Program} {N L : Nat} {H H' H'' : AHeap} {Q : Bool → Value → AHeap → Prop}
theorem fn_101 : tabA.fn 101 = some Try.f101 := by kernel_rfl
def sum4 (Ls : List K4) : List Int := [isum (Ls.map (·.1)), isum (Ls.map (·.2.1)), isum (Ls.map (·.2.2.1)), isum (Ls.map (·.2.2.2))]
theorem map_take_isum {f : K4 → Int} {Ls : List K4} {i : Nat} {s : K4} (h : Ls[i]? = some s) : isum ((Ls.take (i + 1)).map f) = isum ((Ls.take i).map f) + f s := by
 rw [List.take_add_one, h, List.map_append, isum_app]
 show _ + (f s + 0) = _
 omega
section
variable {pa : Option Addr} {pc : Nat} {Ls : List K4}
set_option maxHeartbeats 4000000 in
set_option maxRecDepth 10000 in
theorem c100 (hs : Rw k4E H pa Ls) (hl : Ls.length ≤ 3) (hb : ∀ s ∈ Ls, ∀ n ∈ l4 s, 0 ≤ n ∧ n ≤ 6) :
  acall tabA (aexec tabA Try.prog (N + 300)) 100 [.slice pa Ls.length pc] H = some (true, .agg ⟨tv (sum4 Ls)⟩, H, H.size) := by
 refine call_quiet (k := 28) (rs := [.cell 2 119]) rfl fn_100 rfl rfl rfl ?_ (gr_tv _)
 simp (disch:=first|(simp only [yk,seval];done)|omega|(simp only [yz]<;>omega)|fail) only [↓yp,yA,ys0,ys1,seval,fitB,newC,endD,endR,yrg,lenV_slice st_esS_152]
 refine W_while (n := 28) 200 (fun q e' H' => ∃ (i : Nat) (a0 a1 a2 a3 : Int), q = Ls.length - i ∧ i ≤ Ls.length ∧ gt 28 e' 10 = .int .i64 (i : Nat) ∧ gt 28 e' 9 = .int .i64 (Ls.length : Nat) ∧ gt 28 e' 8 = .slice pa Ls.length pc ∧ gt 28 e' 2 = .pointer (some ⟨H.size, 0, none⟩) ∧ gt 28 e' 3 = .pointer (some ⟨H.size + 1, 0, none⟩) ∧ Fr H H' ∧ H.size + 1 < H'.size ∧ H'.get H.size = .rw [.int .i64 0, .int .i64 0, .int .i64 0, .int .i64 0] 119 false [] ∧ H'.get (H.size + 1) = .rw [.int .i64 a0, .int .i64 a1, .int .i64 a2, .int .i64 a3] 119 false [] ∧ [a0, a1, a2, a3] = sum4 (Ls.take i) ∧ (0 ≤ a0 ∧ a0 ≤ 6 * i) ∧ (0 ≤ a1 ∧ a1 ≤ 6 * i) ∧ (0 ≤ a2 ∧ a2 ≤ 6 * i) ∧ (0 ≤ a3 ∧ a3 ≤ 6 * i))
  ?_ 9 Ls.length ⟨0, 0, 0, 0, 0, by omega, by omega, ?_, ?_, ?_, ?_, ?_, by (repeat (first | exact Fr.refl _ | assumption | refine Fr.allocd ?_ _ | refine Fr.put ?_ (by first | omega | (simp only [yz] <;> omega)) _)), by (first | omega | (simp only [yz] <;> omega)), ?_, ?_, rfl, by omega, by omega, by omega, by omega⟩ (by omega) (by omega)
 rotate_left
 ·simp (disch:=first|(simp only [yk,seval];done)|omega|(simp only [yz]<;>omega)|fail) only [yg,seval] <;> rfl
 ·simp (disch:=first|(simp only [yk,seval];done)|omega|(simp only [yz]<;>omega)|fail) only [yg,seval]
 ·simp (disch:=first|(simp only [yk,seval];done)|omega|(simp only [yz]<;>omega)|fail) only [yg,seval]
 ·simp (disch:=first|(simp only [yk,seval];done)|omega|(simp only [yz]<;>omega)|fail) only [yg,seval]
 ·simp (disch:=first|(simp only [yk,seval];done)|omega|(simp only [yz]<;>omega)|fail) only [yg,seval]
 ·simp (disch:=first|(simp only [yk,seval];done)|omega|(simp only [yz]<;>omega)|fail) only [yg,seval]
 ·simp (disch:=first|(simp only [yk,seval];done)|omega|(simp only [yz]<;>omega)|fail) only [yg,seval]
 rintro M1 q e H1 ⟨i, a0, a1, a2, a3, rfl, hi, g10, g9, g8, g2, g3, fr, sz, b2, b3, hsum, k0, k1, k2, k3⟩
 simp (disch:=first|(simp only [yk,seval];done)|omega|(simp only [yz]<;>omega)|fail) only [↓yp,yA,ys0,ys1,seval,fitB,newC,endD,endR,yrg,g10,g9]
 refine ⟨fun hT => ?_, fun hT => ?_⟩
 ·have hlt : i < Ls.length := by have := of_decide_eq_true hT; omega
  have hw2 : w64 ((i : Int) + 1) = ((i + 1 : Nat) : Int) := by rw [w64_of (by omega)]; omega
  obtain ⟨s, hsi⟩ : ∃ s, Ls[i]? = some s := ⟨Ls[i], by simp [hlt]⟩
  obtain ⟨y0, y1, y2, y3⟩ := s
  have hy := hb _ (List.mem_of_getElem? hsi)
  have v0 := hy y0 (by simp [l4])
  have v1 := hy y1 (by simp [l4])
  have v2 := hy y2 (by simp [l4])
  have v3 := hy y3 (by simp [l4])
  obtain ⟨b, o, cc, rfl, hbl, hc, hqq⟩ := hs.at_ hsi
  have hc' : cellsOf (H1.get b) = some cc := by rw [fr.same b hbl]; exact hc
  have qp : part cc (o + i * 4) 5 = some (.agg ⟨[.int .i64 y0, .int .i64 y1, .int .i64 y2, .int .i64 y3]⟩) := part_of hqq rfl
  have u0 : w64 (a0 + y0) = a0 + y0 := w64_of (by omega)
  have u1 : w64 (a1 + y1) = a1 + y1 := w64_of (by omega)
  have u2 : w64 (a2 + y2) = a2 + y2 := w64_of (by omega)
  have u3 : w64 (a3 + y3) = a3 + y3 := w64_of (by omega)
  simp (disch:=first|(simp only [yk,seval];done)|omega|(simp only [yz]<;>omega)|fail) only [↓yp,yA,ys0,ys1,seval,fitB,newC,endD,endR,yrg,g10,g9,g8,A_indexSlice st_esS_152,hc',qp]
  have x1 : w64 1 = 1 := w64_of (by omega)
  have x2 : w64 2 = 2 := w64_of (by omega)
  have x3 : w64 3 = 3 := w64_of (by omega)
  have x4 : w64 4 = 4 := w64_of (by omega)
  rw [W_loop]
  simp (disch:=first|(simp only [yk,seval];done)|omega|(simp only [yz]<;>omega)|fail) only [↓yp,yA,ys0,ys1,seval,fitB,newC,endD,endR,yrg]
  refine A_index_of (k := .i64) (cs := [.int .i64 y0, .int .i64 y1, .int .i64 y2, .int .i64 y3]) (i := 0) st_ixV_119 (by simp (disch:=first|(simp only [yk,seval];done)|omega|(simp only [yz]<;>omega)|fail) only [↓yp,yA,ys0,ys1,seval,fitB,newC,endD,endR,yrg]) (by simp (disch:=first|(simp only [yk,seval];done)|omega|(simp only [yz]<;>omega)|fail) only [↓yp,yA,ys0,ys1,seval,fitB,newC,endD,endR,yrg]) ⟨by omega, by omega⟩ rfl (by first|omega|(simp only [yz]<;>omega)) ?_
  simp (disch:=first|(simp only [yk,seval];done)|omega|(simp only [yz]<;>omega)|fail) only [↓yp,yA,ys0,ys1,seval,fitB,newC,endD,endR,yrg,A_indexArr st_arS_119,g3,b3,u0,x1]
  rw [W_loop]
  simp (disch:=first|(simp only [yk,seval];done)|omega|(simp only [yz]<;>omega)|fail) only [↓yp,yA,ys0,ys1,seval,fitB,newC,endD,endR,yrg]
  refine A_index_of (k := .i64) (cs := [.int .i64 y0, .int .i64 y1, .int .i64 y2, .int .i64 y3]) (i := 1) st_ixV_119 (by simp (disch:=first|(simp only [yk,seval];done)|omega|(simp only [yz]<;>omega)|fail) only [↓yp,yA,ys0,ys1,seval,fitB,newC,endD,endR,yrg]) (by simp (disch:=first|(simp only [yk,seval];done)|omega|(simp only [yz]<;>omega)|fail) only [↓yp,yA,ys0,ys1,seval,fitB,newC,endD,endR,yrg]) ⟨by omega, by omega⟩ rfl (by first|omega|(simp only [yz]<;>omega)) ?_
  simp (disch:=first|(simp only [yk,seval];done)|omega|(simp only [yz]<;>omega)|fail) only [↓yp,yA,ys0,ys1,seval,fitB,newC,endD,endR,yrg,A_indexArr st_arS_119,g3,b3,u1,x2]
  rw [W_loop]
  simp (disch:=first|(simp only [yk,seval];done)|omega|(simp only [yz]<;>omega)|fail) only [↓yp,yA,ys0,ys1,seval,fitB,newC,endD,endR,yrg]
  refine A_index_of (k := .i64) (cs := [.int .i64 y0, .int .i64 y1, .int .i64 y2, .int .i64 y3]) (i := 2) st_ixV_119 (by simp (disch:=first|(simp only [yk,seval];done)|omega|(simp only [yz]<;>omega)|fail) only [↓yp,yA,ys0,ys1,seval,fitB,newC,endD,endR,yrg]) (by simp (disch:=first|(simp only [yk,seval];done)|omega|(simp only [yz]<;>omega)|fail) only [↓yp,yA,ys0,ys1,seval,fitB,newC,endD,endR,yrg]) ⟨by omega, by omega⟩ rfl (by first|omega|(simp only [yz]<;>omega)) ?_
  simp (disch:=first|(simp only [yk,seval];done)|omega|(simp only [yz]<;>omega)|fail) only [↓yp,yA,ys0,ys1,seval,fitB,newC,endD,endR,yrg,A_indexArr st_arS_119,g3,b3,u2,x3]
  rw [W_loop]
  simp (disch:=first|(simp only [yk,seval];done)|omega|(simp only [yz]<;>omega)|fail) only [↓yp,yA,ys0,ys1,seval,fitB,newC,endD,endR,yrg]
  refine A_index_of (k := .i64) (cs := [.int .i64 y0, .int .i64 y1, .int .i64 y2, .int .i64 y3]) (i := 3) st_ixV_119 (by simp (disch:=first|(simp only [yk,seval];done)|omega|(simp only [yz]<;>omega)|fail) only [↓yp,yA,ys0,ys1,seval,fitB,newC,endD,endR,yrg]) (by simp (disch:=first|(simp only [yk,seval];done)|omega|(simp only [yz]<;>omega)|fail) only [↓yp,yA,ys0,ys1,seval,fitB,newC,endD,endR,yrg]) ⟨by omega, by omega⟩ rfl (by first|omega|(simp only [yz]<;>omega)) ?_
  simp (disch:=first|(simp only [yk,seval];done)|omega|(simp only [yz]<;>omega)|fail) only [↓yp,yA,ys0,ys1,seval,fitB,newC,endD,endR,yrg,A_indexArr st_arS_119,g3,b3,u3,x4]
  rw [W_loop]
  simp (disch:=first|(simp only [yk,seval];done)|omega|(simp only [yz]<;>omega)|fail) only [↓yp,yA,ys0,ys1,seval,fitB,newC,endD,endR,yrg,g10,hw2]
  refine ⟨Ls.length - (i + 1), by omega, i + 1, a0 + y0, a1 + y1, a2 + y2, a3 + y3, rfl, by omega, ?_, ?_, ?_, ?_, ?_, ?_, by (first | omega | (simp only [yz] <;> omega)), ?_, ?_, ?_, by omega, by omega, by omega, by omega⟩
  ·simp (disch:=first|(simp only [yk,seval];done)|omega|(simp only [yz]<;>omega)|fail) only [yg,seval]
  ·simp (disch:=first|(simp only [yk,seval];done)|omega|(simp only [yz]<;>omega)|fail) only [yg,seval,g9]
  ·simp (disch:=first|(simp only [yk,seval];done)|omega|(simp only [yz]<;>omega)|fail) only [yg,seval,g8]
  ·simp (disch:=first|(simp only [yk,seval];done)|omega|(simp only [yz]<;>omega)|fail) only [yg,seval,g2]
  ·simp (disch:=first|(simp only [yk,seval];done)|omega|(simp only [yz]<;>omega)|fail) only [yg,seval,g3]
  ·(repeat (first | exact Fr.refl _ | assumption | refine Fr.allocd ?_ _ | refine Fr.put ?_ (by first | omega | (simp only [yz] <;> omega)) _))
  ·simp (disch:=first|(simp only [yk,seval];done)|omega|(simp only [yz]<;>omega)|fail) only [yg,seval,b2]
  ·simp (disch:=first|(simp only [yk,seval];done)|omega|(simp only [yz]<;>omega)|fail) only [yg,seval]
  ·unfold sum4 at hsum ⊢
   simp only [List.cons.injEq,and_true] at hsum
   obtain ⟨e0, e1, e2, e3⟩ := hsum
   rw [map_take_isum (f := fun s : K4 => s.1) hsi, map_take_isum (f := fun s : K4 => s.2.1) hsi, map_take_isum (f := fun s : K4 => s.2.2.1) hsi, map_take_isum (f := fun s : K4 => s.2.2.2) hsi, ← e0, ← e1, ← e2, ← e3]
 ·have hie : i = Ls.length := by have := of_decide_eq_false hT; omega
  subst hie
  rw [List.take_length] at hsum
  have hsv : tv (sum4 Ls) = [.int .i64 a0, .int .i64 a1, .int .i64 a2, .int .i64 a3] := by rw [← hsum]; rfl
  rw [hsv]
  simp (disch:=first|(simp only [yk,seval];done)|omega|(simp only [yz]<;>omega)|fail) only [↓yp,yA,ys0,ys1,seval,fitB,newC,endD,endR,yrg,g2,g3,b2,b3]
set_option maxHeartbeats 4000000 in
theorem c101 {x0 x1 x2 x3 y0 y1 y2 y3 : Int} (h0 : x0 ≤ y0) (h1 : x1 ≤ y1) (h2 : x2 ≤ y2) (h3 : x3 ≤ y3) :
  acall tabA (aexec tabA Try.prog (N + 80)) 101 [.agg ⟨[.int .i64 x0, .int .i64 x1, .int .i64 x2, .int .i64 x3]⟩, .agg ⟨[.int .i64 y0, .int .i64 y1, .int .i64 y2, .int .i64 y3]⟩] H = some (true, .bool true, H, H.size) := by
 refine call_quiet (k := 18) (rs := [.tmp 4]) rfl fn_101 rfl rfl rfl ?_ rfl
 have w1 : w64 1 = 1 := w64_of (by omega)
 have w2 : w64 2 = 2 := w64_of (by omega)
 have w3 : w64 3 = 3 := w64_of (by omega)
 have w4 : w64 4 = 4 := w64_of (by omega)
 have d0 : decide (y0 < x0) = false := by simp; omega
 have d1 : decide (y1 < x1) = false := by simp; omega
 have d2 : decide (y2 < x2) = false := by simp; omega
 have d3 : decide (y3 < x3) = false := by simp; omega
 clear h0 h1 h2 h3
 simp (disch:=first|(simp only [yk,seval];done)|omega|(simp only [yz]<;>omega)|fail) only [↓yp,yA,ys0,ys1,seval,fitB,newC,endD,endR,yrg]
 rw [W_loop]
 simp (disch:=first|(simp only [yk,seval];done)|omega|(simp only [yz]<;>omega)|fail) only [↓yp,yA,ys0,ys1,seval,fitB,newC,endD,endR,yrg]
 refine A_index_of (k := .i64) (cs := [.int .i64 x0, .int .i64 x1, .int .i64 x2, .int .i64 x3]) (i := 0) st_ixV_119 (by simp (disch:=first|(simp only [yk,seval];done)|omega|(simp only [yz]<;>omega)|fail) only [↓yp,yA,ys0,ys1,seval,fitB,newC,endD,endR,yrg]) (by simp (disch:=first|(simp only [yk,seval];done)|omega|(simp only [yz]<;>omega)|fail) only [↓yp,yA,ys0,ys1,seval,fitB,newC,endD,endR,yrg]) ⟨by omega, by omega⟩ rfl (by first|omega|(simp only [yz]<;>omega)) ?_
 simp (disch:=first|(simp only [yk,seval];done)|omega|(simp only [yz]<;>omega)|fail) only [↓yp,yA,ys0,ys1,seval,fitB,newC,endD,endR,yrg,A_indexArr st_arS_119,d0,w1]
 rw [W_loop]
 simp (disch:=first|(simp only [yk,seval];done)|omega|(simp only [yz]<;>omega)|fail) only [↓yp,yA,ys0,ys1,seval,fitB,newC,endD,endR,yrg]
 refine A_index_of (k := .i64) (cs := [.int .i64 x0, .int .i64 x1, .int .i64 x2, .int .i64 x3]) (i := 1) st_ixV_119 (by simp (disch:=first|(simp only [yk,seval];done)|omega|(simp only [yz]<;>omega)|fail) only [↓yp,yA,ys0,ys1,seval,fitB,newC,endD,endR,yrg]) (by simp (disch:=first|(simp only [yk,seval];done)|omega|(simp only [yz]<;>omega)|fail) only [↓yp,yA,ys0,ys1,seval,fitB,newC,endD,endR,yrg]) ⟨by omega, by omega⟩ rfl (by first|omega|(simp only [yz]<;>omega)) ?_
 simp (disch:=first|(simp only [yk,seval];done)|omega|(simp only [yz]<;>omega)|fail) only [↓yp,yA,ys0,ys1,seval,fitB,newC,endD,endR,yrg,A_indexArr st_arS_119,d1,w2]
 rw [W_loop]
 simp (disch:=first|(simp only [yk,seval];done)|omega|(simp only [yz]<;>omega)|fail) only [↓yp,yA,ys0,ys1,seval,fitB,newC,endD,endR,yrg]
 refine A_index_of (k := .i64) (cs := [.int .i64 x0, .int .i64 x1, .int .i64 x2, .int .i64 x3]) (i := 2) st_ixV_119 (by simp (disch:=first|(simp only [yk,seval];done)|omega|(simp only [yz]<;>omega)|fail) only [↓yp,yA,ys0,ys1,seval,fitB,newC,endD,endR,yrg]) (by simp (disch:=first|(simp only [yk,seval];done)|omega|(simp only [yz]<;>omega)|fail) only [↓yp,yA,ys0,ys1,seval,fitB,newC,endD,endR,yrg]) ⟨by omega, by omega⟩ rfl (by first|omega|(simp only [yz]<;>omega)) ?_
 simp (disch:=first|(simp only [yk,seval];done)|omega|(simp only [yz]<;>omega)|fail) only [↓yp,yA,ys0,ys1,seval,fitB,newC,endD,endR,yrg,A_indexArr st_arS_119,d2,w3]
 rw [W_loop]
 simp (disch:=first|(simp only [yk,seval];done)|omega|(simp only [yz]<;>omega)|fail) only [↓yp,yA,ys0,ys1,seval,fitB,newC,endD,endR,yrg]
 refine A_index_of (k := .i64) (cs := [.int .i64 x0, .int .i64 x1, .int .i64 x2, .int .i64 x3]) (i := 3) st_ixV_119 (by simp (disch:=first|(simp only [yk,seval];done)|omega|(simp only [yz]<;>omega)|fail) only [↓yp,yA,ys0,ys1,seval,fitB,newC,endD,endR,yrg]) (by simp (disch:=first|(simp only [yk,seval];done)|omega|(simp only [yz]<;>omega)|fail) only [↓yp,yA,ys0,ys1,seval,fitB,newC,endD,endR,yrg]) ⟨by omega, by omega⟩ rfl (by first|omega|(simp only [yz]<;>omega)) ?_
 simp (disch:=first|(simp only [yk,seval];done)|omega|(simp only [yz]<;>omega)|fail) only [↓yp,yA,ys0,ys1,seval,fitB,newC,endD,endR,yrg,A_indexArr st_arS_119,d3,w4]
 rw [W_loop]
 simp (disch:=first|(simp only [yk,seval];done)|omega|(simp only [yz]<;>omega)|fail) only [↓yp,yA,ys0,ys1,seval,fitB,newC,endD,endR,yrg]
end
theorem Pl_sum : ∀ {Ls : List K4} {r0 r1 r2 r3 : Int} {k : Nat}, Pl [r0, r1, r2, r3] k (Ls.map l4) → 0 ≤ r0 → 0 ≤ r1 → 0 ≤ r2 → 0 ≤ r3 → isum (Ls.map (·.1)) ≤ r0 ∧ isum (Ls.map (·.2.1)) ≤ r1 ∧ isum (Ls.map (·.2.2.1)) ≤ r2 ∧ isum (Ls.map (·.2.2.2)) ≤ r3
 | [], _, _, _, _, _, _, h0, h1, h2, h3 => ⟨h0, h1, h2, h3⟩
 | (s0, s1, s2, s3) :: Ls, r0, r1, r2, r3, k, h, h0, h1, h2, h3 => by
  match k, h with
  | k + 1, h =>
   obtain ⟨hv, hp⟩ := h
   have hv' : (0 ≤ s0 ∧ s0 ≤ r0) ∧ (0 ≤ s1 ∧ s1 ≤ r1) ∧ (0 ≤ s2 ∧ s2 ≤ r2) ∧ (0 ≤ s3 ∧ s3 ≤ r3) ∧ True := hv
   obtain ⟨k0, k1, k2, k3, -⟩ := hv'
   have hp' : Pl [r0 - s0, r1 - s1, r2 - s2, r3 - s3] k (Ls.map l4) := hp
   have ih := Pl_sum hp' (by omega) (by omega) (by omega) (by omega)
   show s0 + isum (Ls.map (·.1)) ≤ r0 ∧ s1 + isum (Ls.map (·.2.1)) ≤ r1 ∧ s2 + isum (Ls.map (·.2.2.1)) ≤ r2 ∧ s3 + isum (Ls.map (·.2.2.2)) ≤ r3
   omega
  | 0, h => exact h.elim
end Go.Am.K
namespace Go.Am.K
open Go.Proofs
variable {T : Tab} {P : Program} {N L : Nat} {H : AHeap} {Q : Bool → Value → AHeap → Prop}
section
variable {a a' : Option Addr} {cap cap' k clock : Nat} {ps : List Pk} {gs : List Gd} {m : List Int} {lo : Value} {es : List (Value × Value × Nat)} {n : Int} {j : Nat}
set_option maxHeartbeats 4000000 in
theorem c93f (hs : Rw pkE H a ps) (hl : ps.length ≤ 4) (hpk : ∀ p ∈ ps, p.Ok) (hgs : Rw gdE H a' gs) (hgl : gs.length ≤ 4) (hgk : ∀ g ∈ gs, g.Ok) (hm : m.length = 4) (hmb : ∀ n ∈ m, 0 ≤ n ∧ n ≤ 6) (ho : sameV 5 lo lo = true) (hb : H.get k = .map es clock) (hk : k < H.size) (hf : aFindKey tabA Try.prog 119 (.agg ⟨tv m⟩) es = some none) :
  resK (acall tabA (aexec tabA Try.prog (N + 800)) 93 [.agg ⟨[.slice a ps.length cap, .slice a' gs.length cap', lo, .map (some k)]⟩, .agg ⟨tv m⟩] H) k fun b v H' => b = false ∧ v = .int .i64 (isum m * (grd ps gs m).pr) ∧ H' = ((H.alloc (.rw [.slice a ps.length cap, .slice a' gs.length cap', lo, .map (some k)] 124 false [])).alloc (.rw (tv m) 119 false [])).put k (.map (es ++ [(.agg ⟨tv m⟩, .int .i64 (isum m * (grd ps gs m).pr), clock)]) (clock + 1)) := by
 refine call_keep tabA_fr (R := fun v H' => v = .int .i64 (isum m * (grd ps gs m).pr) ∧ H' = ((H.alloc (.rw [.slice a ps.length cap, .slice a' gs.length cap', lo, .map (some k)] 124 false [])).alloc (.rw (tv m) 119 false [])).put k (.map (es ++ [(.agg ⟨tv m⟩, .int .i64 (isum m * (grd ps gs m).pr), clock)]) (clock + 1))) (k := 28) (rs := [.tmp 4]) rfl fn_93 rfl rfl rfl (by omega) ?_ (fun v H' h => ⟨rfl, h⟩) ?_
 rotate_left
 ·rintro v H' ⟨rfl, rfl⟩ _ fr
  have h1 := fr.same k hk
  rw [get_put_same (by first|omega|(simp only [yz]<;>omega)), hb] at h1
  simp only [ABlk.map.injEq] at h1
  have h2 := congrArg List.length h1.1
  simp at h2
 have hmp : part (tv m) 0 5 = some (.agg ⟨tv m⟩) := part_tv hm
 have hst := fun n => sl_tv (n := n) m
 have fr : Fr H ((H.alloc (.rw [.slice a ps.length cap, .slice a' gs.length cap', lo, .map (some k)] 124 false [])).alloc (.rw (tv m) 119 false [])) := by (repeat (first | exact Fr.refl _ | assumption | refine Fr.allocd ?_ _ | refine Fr.put ?_ (by first | omega | (simp only [yz] <;> omega)) _))
 have h76 := fun (N : Nat) (H : AHeap) => c76 (N := N) (H := H) (t := m) hm fun x hx => by have := hmb x hx; omega
 have h92 := fun (N : Nat) => c92 (N := N) (cap := cap) (cap' := cap') (lo := lo) (mp := .map (some k)) (hs.fr fr) hl hpk (hgs.fr fr) hgl hgk hm hmb ho sv_map
 simp (disch:=first|(simp only [yk,seval];done)|omega|(simp only [yz]<;>omega)|fail) only [↓yp,yA,ys0,ys1,seval,fitB,newC,endD,endR,yrg,st_faS_124_1,st_ldS_122,hmp]
 refine A_lookN (es := es) (clock := clock) (q := none) (j := 0) (s := m) (k := k) (by simp (disch:=first|(simp only [yk,seval];done)|omega|(simp only [yz]<;>omega)|fail) only [↓yp,yA,ys0,ys1,seval,fitB,newC,endD,endR,yrg]) (by simp (disch:=first|(simp only [yk,seval];done)|omega|(simp only [yz]<;>omega)|fail) only [↓yp,yA,ys0,ys1,seval,fitB,newC,endD,endR,yrg]) (by rw [get_alloc_lt (by first|omega|(simp only [yz]<;>omega)), get_alloc_lt (by first|omega|(simp only [yz]<;>omega))]; exact hb) hm hf (by first|omega|(simp only [yz]<;>omega)) ?_
 simp (disch:=first|(simp only [yk,seval];done)|omega|(simp only [yz]<;>omega)|fail) only [↓yp,yA,ys0,ys1,seval,fitB,newC,endD,endR,yrg,st_faS_124_1,st_ldS_122,Option.getD_none,Option.isSome_none]
 simp only [Gd.enc] at h92
 have hp := grd_ok (ps := ps) (m := m) hgk
 have hi := m_sum hm hmb
 have hmul : 0 ≤ isum m * (grd ps gs m).pr ∧ isum m * (grd ps gs m).pr ≤ 2400 := ⟨Int.mul_nonneg hi.1 hp.1, by have := Int.mul_le_mul hi.2 hp.2 hp.1 (by omega : (0:Int) ≤ 24); omega⟩
 have hw : w64 (isum m * (grd ps gs m).pr) = isum m * (grd ps gs m).pr := w64_of (by omega)
 refine W_draw [] rfl (by kernel_rfl) (by kernel_rfl) (by first|omega|(simp only [yz]<;>omega)) ?_
 simp (disch:=first|(simp only [yk,seval];done)|omega|(simp only [yz]<;>omega)|fail) only [↓yp,yA,ys0,ys1,seval,fitB,newC,endD,endR,yrg,st_faS_124_1,st_ldS_122,hmp,h76,h92,hst,ho,sv_map,hw,A_fld,flK_of]
 refine A_updN (es := es) (clock := clock) (s := m) (k := k) (n := isum m * (grd ps gs m).pr) (by simp (disch:=first|(simp only [yk,seval];done)|omega|(simp only [yz]<;>omega)|fail) only [↓yp,yA,ys0,ys1,seval,fitB,newC,endD,endR,yrg]) (by simp (disch:=first|(simp only [yk,seval];done)|omega|(simp only [yz]<;>omega)|fail) only [↓yp,yA,ys0,ys1,seval,fitB,newC,endD,endR,yrg]) (by simp (disch:=first|(simp only [yk,seval];done)|omega|(simp only [yz]<;>omega)|fail) only [↓yp,yA,ys0,ys1,seval,fitB,newC,endD,endR,yrg]) (by rw [get_alloc_lt (by first|omega|(simp only [yz]<;>omega)), get_alloc_lt (by first|omega|(simp only [yz]<;>omega))]; exact hb) hm hf (by first|omega|(simp only [yz]<;>omega)) ?_
 simp (disch:=first|(simp only [yk,seval];done)|omega|(simp only [yz]<;>omega)|fail) only [↓yp,yA,ys0,ys1,seval,fitB,newC,endD,endR,yrg]
theorem c93d {s : K4} (hs : Rw pkE H a ps) (hl : ps.length ≤ 4) (hpk : ∀ p ∈ ps, p.Ok) (hgs : Rw gdE H a' gs) (hgl : gs.length ≤ 4) (hgk : ∀ g ∈ gs, g.Ok) (hmb : ∀ n ∈ l4 s, 0 ≤ n ∧ n ≤ 6) (ho : sameV 5 lo lo = true) (hb : BrI ps gs (H.get k)) (hk : k < H.size) :
  (∀ (N : Nat) (H' : AHeap), H'.get k = H.get k → k < H'.size → acall tabA (aexec tabA Try.prog (N + 800)) 93 [.agg ⟨[.slice a ps.length cap, .slice a' gs.length cap', lo, .map (some k)]⟩, .agg ⟨tv (l4 s)⟩] H' = some (true, .int .i64 (brg ps gs (l4 s)), H', H'.size)) ∨
  (∀ N : Nat, resK (acall tabA (aexec tabA Try.prog (N + 800)) 93 [.agg ⟨[.slice a ps.length cap, .slice a' gs.length cap', lo, .map (some k)]⟩, .agg ⟨tv (l4 s)⟩] H) k fun b v H' => b = false ∧ v = .int .i64 (brg ps gs (l4 s)) ∧ H.size ≤ H'.size ∧ (∀ i, i < H.size → i ≠ k → H'.get i = H.get i) ∧ BrI ps gs (H'.get k)) := by
 obtain ⟨F, ⟨es, clock, h1, h2⟩, h3⟩ := hb
 have hf := aFindKey_kv mapL (s := s) h2
 cases hx : fix vI F s 0 with
 | none =>
  rw [hx] at hf
  refine .inr fun N => resK_mono (c93f hs hl hpk hgs hgl hgk rfl hmb ho h1 hk hf) ?_
  rintro q v H' ⟨rfl, rfl, rfl⟩
  refine ⟨rfl, rfl, by (first | omega | (simp only [yz] <;> omega)), fun i hi hn => ?_, F ++ [(s, brg ps gs (l4 s))], ⟨_, _, get_put_same (by first|omega|(simp only [yz]<;>omega)), ?_⟩, fun p hp => ?_⟩
  ·rw [get_put_ne hn, get_alloc_lt (by first|omega|(simp only [yz]<;>omega)), get_alloc_lt (by first|omega|(simp only [yz]<;>omega))]
  ·rw [List.map_append, List.map_append, h2]; rfl
  ·rcases List.mem_append.1 hp with hp | hp
   ·exact h3 p hp
   ·rw [List.mem_singleton.1 hp]
 | some p =>
  obtain ⟨j, v⟩ := p
  obtain ⟨-, n, g1, rfl, -⟩ := fix_some hx
  rw [hx] at hf
  have hn : n = brg ps gs (l4 s) := h3 _ (flk_mem g1)
  refine .inl fun N H' e hk' => ?_
  rw [c93k (n := n) (m := l4 s) rfl (e.trans h1) hk' hf, hn]
end
end Go.Am.K
namespace Go.Am.K
open Go.Proofs
variable {b b' : List Int → Int}
end Go.Am.K
