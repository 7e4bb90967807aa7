import Derived.Test.YtehkjjgpgnejnaaT45
import Derived.Test.YtehkjjgpgnejnaaT44
set_option linter.unusedSimpArgs false
set_option linter.unusedVariables false
namespace Go.Am.K
open Go.Proofs
variable {T : Tab} {P : Program} {N L : Nat} {H H' H'' : AHeap} {Q : Bool → Value → AHeap → Prop}
section
variable {a a' : Option Addr} {cap cap' : Nat} {ps : List Pk} {gs : List Gd} {lots : Int}
set_option maxHeartbeats 2000000 in
theorem c14n : acall tabA (aexec tabA Try.prog (N + 200)) 14 [.agg ⟨[.slice a 0 cap, .slice a' 0 cap', .int .i64 lots]⟩] H = some (true, .agg ⟨[.slice none 0 0, .slice none 0 0, .int .i64 lots]⟩, H, H.size) := by
 refine call_quiet (k := 12) (rs := [.cell 2 25]) rfl fn_14 rfl rfl rfl ?_ rfl
 have h56 := fun (N : Nat) (H : AHeap) => c56n (N := N) (H := H) (a := a) (cap := cap)
 have h57 := fun (N : Nat) (H : AHeap) => c57n (N := N) (H := H) (a := a') (cap := cap')
 simp (disch:=first|(simp only [yk,seval];done)|omega|(simp only [yz]<;>omega)|fail) only [↓yp,yq0,yq1,yq2,yq3,yq4,yl,ys0,ys1,seval,fitB,newC,endD,endR,yrg]
 refine W_drawR (pl := []) [7, 9] [(1, 1), (1, 2), (2, 1), (2, 2), (4, 2), (5, 2)] (planK_of rfl) (by kernel_rfl) (by kernel_rfl) (by kernel_rfl) (by first|omega|(simp only [yz]<;>omega)) ?_
 simp (disch:=first|(simp only [yk,seval];done)|omega|(simp only [yz]<;>omega)|fail) only [↓yp,yq0,yq1,yq2,yq3,yq4,yl,ys0,ys1,seval,fitB,newC,endD,endR,yrg,h56,h57]
set_option maxHeartbeats 4000000 in
theorem c14 (hs : Rw pkE H a ps) (hg : Rw gdE H a' gs) (hl : ps.length ≤ 6) (hgl : gs.length ≤ 6) (hne : ps ≠ [] ∨ gs ≠ []) (hL : L ≤ H.size) {M : Nat} (hM : 200 ≤ M)
  (hq : ∀ x c x' c' H', Fr H H' → (x ≠ none ∨ x' ≠ none) → (gs = [] → x' = none ∧ c' = 0) → Up H.size x → Up H.size x' → Rw pkE H' x ps → Rw gdE H' x' gs → Q false (.agg ⟨[.slice x ps.length c, .slice x' gs.length c', .int .i64 lots]⟩) H') :
  resK (acall tabA (aexec tabA Try.prog M) 14 [.agg ⟨[.slice a ps.length cap, .slice a' gs.length cap', .int .i64 lots]⟩] H) L Q := by
 obtain ⟨N, rfl⟩ : ∃ N, M = N + 200 := ⟨M - 200, by omega⟩
 refine call_fls (R := fun v H' => ∃ x c x' c', v = .agg ⟨[.slice x ps.length c, .slice x' gs.length c', .int .i64 lots]⟩ ∧ Fr H H' ∧ (x ≠ none ∨ x' ≠ none) ∧ (gs = [] → x' = none ∧ c' = 0) ∧ Up H.size x ∧ Up H.size x' ∧ Rw pkE H' x ps ∧ Rw gdE H' x' gs) (k := 12) (rs := [.cell 2 25]) rfl fn_14 rfl rfl rfl hL ?_ ?_ ?_
 rotate_left
 ·rintro v H' ⟨x, c, x', c', rfl, -, h, -⟩; exact gr_two h
 ·rintro v H' ⟨x, c, x', c', rfl, h1, h2, h3, h4, h5, h6, h7⟩
  exact hq _ _ _ _ _ h1 h2 h3 h4 h5 h6 h7
 have h56 := fun (N : Nat) (H : AHeap) => c56n (N := N) (H := H) (a := a) (cap := cap)
 have h57 := fun (N : Nat) (H : AHeap) => c57n (N := N) (H := H) (a := a') (cap := cap')
 have fr0 : Fr H ((H.alloc (.rw [.slice a ps.length cap, .slice a' gs.length cap', .int .i64 lots] 25 false [])).alloc (.rw [.slice none 0 0, .slice none 0 0, .int .i64 0] 25 false [])) := by (repeat (first | exact Fr.refl _ | assumption | refine Fr.allocd ?_ _ | refine Fr.put ?_ (by first | omega | (simp only [yz] <;> omega)) _))
 by_cases hp1 : ps = []
 ·have hg1 : gs ≠ [] := by
   rcases hne with h | h
   ·exact absurd hp1 h
   ·exact h
  subst hp1
  simp only [List.length_nil] at fr0 ⊢
  simp (disch:=first|(simp only [yk,seval];done)|omega|(simp only [yz]<;>omega)|fail) only [↓yp,yq0,yq1,yq2,yq3,yq4,yl,ys0,ys1,seval,fitB,newC,endD,endR,yrg]
  refine W_drawR (pl := []) [5, 7, 9] [(1, 2), (1, 3), (2, 2), (2, 3), (4, 1), (4, 2), (4, 3)] (planK_of rfl) (by kernel_rfl) (by kernel_rfl) (by kernel_rfl) (by first|omega|(simp only [yz]<;>omega)) ?_
  simp (disch:=first|(simp only [yk,seval];done)|omega|(simp only [yz]<;>omega)|fail) only [↓yp,yq0,yq1,yq2,yq3,yq4,yl,ys0,ys1,seval,fitB,newC,endD,endR,yrg,h56]
  refine c57 (hg.fr fr0) hg1 (by omega) (by first|omega|(simp only [yz]<;>omega)) (by omega) ?_
  intro k' cc' H2 fr2 k1' k2' k3'
  have f2 := fr2.size
  have s2 := fr2.same
  simp only [size_alloc] at f2 s2 k1'
  simp (disch:=first|(simp only [yk,seval];done)|omega|(simp only [yz]<;>omega)|fail) only [↓yp,yq0,yq1,yq2,yq3,yq4,yl,ys0,ys1,seval,fitB,newC,endD,endR,yrg,s2,h56]
  refine ⟨none, 0, some ⟨k', 0, none⟩, cc', rfl, ?_, .inr (by simp), fun h => absurd h hg1, Up.none, Up.some (by omega), Rw.nil, ?_⟩
  ·exact Fr.put (Fr.put (Fr.put (fr0.trans fr2) (by omega) _) (by omega) _) (by omega) _
  ·refine (Rw.of (r := []) (c := gdE.fl gs) (by first|omega|(simp only [yz]<;>omega)) ?_ (by rw [List.append_nil]))
   rw [get_put_ne (by omega), get_put_ne (by omega), get_put_ne (by omega), k3']
   rfl
 by_cases hg1 : gs = []
 ·subst hg1
  simp only [List.length_nil] at fr0 ⊢
  simp (disch:=first|(simp only [yk,seval];done)|omega|(simp only [yz]<;>omega)|fail) only [↓yp,yq0,yq1,yq2,yq3,yq4,yl,ys0,ys1,seval,fitB,newC,endD,endR,yrg]
  refine W_drawR (pl := []) [2, 7, 9] [(1, 1), (1, 2), (1, 3), (4, 3), (5, 3)] (planK_of rfl) (by kernel_rfl) (by kernel_rfl) (by kernel_rfl) (by first|omega|(simp only [yz]<;>omega)) ?_
  simp (disch:=first|(simp only [yk,seval];done)|omega|(simp only [yz]<;>omega)|fail) only [↓yp,yq0,yq1,yq2,yq3,yq4,yl,ys0,ys1,seval,fitB,newC,endD,endR,yrg]
  refine c56 (hs.fr fr0) hp1 (by omega) (by first|omega|(simp only [yz]<;>omega)) (by omega) ?_
  intro k cc H1 fr1 k1 k2 k3
  have f1 := fr1.size
  have s1 := fr1.same
  simp only [size_alloc] at f1 s1 k1
  simp (disch:=first|(simp only [yk,seval];done)|omega|(simp only [yz]<;>omega)|fail) only [↓yp,yq0,yq1,yq2,yq3,yq4,yl,ys0,ys1,seval,fitB,newC,endD,endR,yrg,s1,h57]
  refine ⟨some ⟨k, 0, none⟩, cc, none, 0, rfl, ?_, .inl (by simp), fun _ => ⟨rfl, rfl⟩, Up.some (by omega), Up.none, ?_, Rw.nil⟩
  ·exact Fr.put (Fr.put (Fr.put (fr0.trans fr1) (by omega) _) (by omega) _) (by omega) _
  ·refine (Rw.of (r := []) (c := pkE.fl ps) (by first|omega|(simp only [yz]<;>omega)) ?_ (by rw [List.append_nil]))
   rw [get_put_ne (by omega), get_put_ne (by omega), get_put_ne (by omega), k3]
   rfl
 simp (disch:=first|(simp only [yk,seval];done)|omega|(simp only [yz]<;>omega)|fail) only [↓yp,yq0,yq1,yq2,yq3,yq4,yl,ys0,ys1,seval,fitB,newC,endD,endR,yrg]
 refine W_drawR (pl := []) [2, 5, 7, 9] [(1, 1), (1, 2), (1, 3), (1, 4), (4, 2), (4, 3), (4, 4)] (planK_of rfl) (by kernel_rfl) (by kernel_rfl) (by kernel_rfl) (by first|omega|(simp only [yz]<;>omega)) ?_
 simp (disch:=first|(simp only [yk,seval];done)|omega|(simp only [yz]<;>omega)|fail) only [↓yp,yq0,yq1,yq2,yq3,yq4,yl,ys0,ys1,seval,fitB,newC,endD,endR,yrg]
 refine c56 (hs.fr fr0) hp1 (by omega) (by first|omega|(simp only [yz]<;>omega)) (by omega) ?_
 intro k cc H1 fr1 k1 k2 k3
 have f1 := fr1.size
 have s1 := fr1.same
 simp only [size_alloc] at f1 s1 k1
 simp (disch:=first|(simp only [yk,seval];done)|omega|(simp only [yz]<;>omega)|fail) only [↓yp,yq0,yq1,yq2,yq3,yq4,yl,ys0,ys1,seval,fitB,newC,endD,endR,yrg,s1]
 refine c57 (hg.fr (fr0.trans fr1)) hg1 (by omega) (by first|omega|(simp only [yz]<;>omega)) (by omega) ?_
 intro k' cc' H2 fr2 k1' k2' k3'
 have f2 := fr2.size
 have s2 := fr2.same
 simp (disch:=first|(simp only [yk,seval];done)|omega|(simp only [yz]<;>omega)|fail) only [↓yp,yq0,yq1,yq2,yq3,yq4,yl,ys0,ys1,seval,fitB,newC,endD,endR,yrg,s2,s1]
 refine ⟨some ⟨k, 0, none⟩, cc, some ⟨k', 0, none⟩, cc', rfl, ?_, .inl (by simp), fun h => absurd h hg1, Up.some (by omega), Up.some (by omega), ?_, ?_⟩
 ·exact Fr.put (Fr.put (Fr.put ((fr0.trans fr1).trans fr2) (by omega) _) (by omega) _) (by omega) _
 ·refine (Rw.of (r := []) (c := pkE.fl ps) (by first|omega|(simp only [yz]<;>omega)) ?_ (by rw [List.append_nil]))
  rw [get_put_ne (by omega), get_put_ne (by omega), get_put_ne (by omega), s2 _ k2, k3]
  rfl
 ·refine (Rw.of (r := []) (c := gdE.fl gs) (by first|omega|(simp only [yz]<;>omega)) ?_ (by rw [List.append_nil]))
  rw [get_put_ne (by omega), get_put_ne (by omega), get_put_ne (by omega), k3']
  rfl
end
end Go.Am.K
namespace Go.Am.K
open Go.Proofs
variable {T : Tab} {P : Program} {N L : Nat} {H H' H'' : AHeap} {Q : Bool → Value → AHeap → Prop}
section
variable {a a' al : Option Addr} {cap cap' cl : Nat} {ps : List Pk} {gs : List Gd} {lots op fd : Int} {l : List Int}
theorem Td.eq {tl tl' : List (Int × Int)} (h : Td ps l op fd ps.length tl) (h' : Td ps l op fd ps.length tl') : tl = tl' := by
 apply List.ext_getElem?
 intro j
 by_cases hj : j < ps.length
 ·have hp : ps[j]? = some ps[j] := by simp [hj]
  rw [h.at_ j _ hj hp, h'.at_ j _ hj hp]
 ·rw [List.getElem?_eq_none (by rw [h.len]; omega), List.getElem?_eq_none (by rw [h'.len]; omega)]
set_option maxHeartbeats 4000000 in
theorem c30e (hs : Rw pkE H a ps) (hgs : Rw gdE H a' gs) (hl : Rw intE H al l) (hll : l.length ≤ 8) (hb : byE ps gs lots l op fd ≠ 0) :
  acall tabA (aexec tabA Try.prog (N + 3500)) 30 [.agg ⟨[.slice a ps.length cap, .slice a' gs.length cap', .int .i64 lots]⟩, .slice al l.length cl, .int .i64 op, .int .i64 fd] H = some (true, .tuple ⟨[.slice none 0 0, .int .i64 (byE ps gs lots l op fd)]⟩, H, H.size) := by
 have fr : Fr H (H.alloc (.rw [.slice a ps.length cap, .slice a' gs.length cap', .int .i64 lots] 32 false [])) := by (repeat (first | exact Fr.refl _ | assumption | refine Fr.allocd ?_ _ | refine Fr.put ?_ (by first | omega | (simp only [yz] <;> omega)) _))
 refine call_quiet (k := 69) (rs := [.tmp 8, .tmp 9]) rfl fn_30 rfl rfl rfl ?_ rfl
 have hB : decide (byE ps gs lots l op fd = 0) = false := by simp [hb]
 by_cases he : lotE ps gs lots l = 0
 ·have h28 := fun (N : Nat) => c28 (N := N) (cap := cap) (cap' := cap') (cl := cl) (op := op) (fd := fd) (hs.fr fr) (hgs.fr fr) (hl.fr fr) he
  rw [hB, cond_false] at h28
  simp (disch:=first|(simp only [yk,seval];done)|omega|(simp only [yz]<;>omega)|fail) only [↓yp,yq0,yq1,yq2,yq3,yq4,yl,ys0,ys1,seval,fitB,newC,endD,endR,yrg,h28,hB]
 ·have h28 := fun (N : Nat) => c28e (N := N) (cap := cap) (cap' := cap') (cl := cl) (op := op) (fd := fd) (hs.fr fr) (hgs.fr fr) (hl.fr fr) hll he
  rw [byE_bad he] at hB ⊢
  simp (disch:=first|(simp only [yk,seval];done)|omega|(simp only [yz]<;>omega)|fail) only [↓yp,yq0,yq1,yq2,yq3,yq4,yl,ys0,ys1,seval,fitB,newC,endD,endR,yrg,h28,hB]
set_option maxHeartbeats 8000000 in
theorem c30 (hs : Rw pkE H a ps) (hgs : Rw gdE H a' gs) (hl : Rw intE H al l) (he : byE ps gs lots l op fd = 0) (hL : L ≤ H.size) {M : Nat} (hM : 3500 ≤ M)
  (hq : ∀ b c tl H', Fr H H' → Td ps l op fd ps.length tl → Rw spE H' (some ⟨b, 0, none⟩) tl → Q false (.tuple ⟨[.slice (some ⟨b, 0, none⟩) ps.length c, .int .i64 0]⟩) H') :
  resK (acall tabA (aexec tabA Try.prog M) 30 [.agg ⟨[.slice a ps.length cap, .slice a' gs.length cap', .int .i64 lots]⟩, .slice al l.length cl, .int .i64 op, .int .i64 fd] H) L Q := by
 obtain ⟨N, rfl⟩ : ∃ N, M = N + 3500 := ⟨M - 3500, by omega⟩
 obtain ⟨hlE, hop, hfd, hne⟩ := byE_ok he
 obtain ⟨hst, hck, ho⟩ := lotE_ok hlE
 refine call_fls (R := fun v H' => ∃ b c tl, v = .tuple ⟨[.slice (some ⟨b, 0, none⟩) ps.length c, .int .i64 0]⟩ ∧ Fr H H' ∧ Td ps l op fd ps.length tl ∧ Rw spE H' (some ⟨b, 0, none⟩) tl) (k := 69) (rs := [.tmp 8, .tmp 9]) rfl fn_30 rfl rfl rfl hL ?_ ?_ ?_
 rotate_left
 ·rintro v H' ⟨b, c, tl, rfl, -⟩; rfl
 ·rintro v H' ⟨b, c, tl, rfl, h1, h2, h3⟩
  exact hq _ _ _ _ h1 h2 h3
 have hlen := ho.len
 have hl4 := hst.l4
 have hl1 := hst.l1
 have fr0 : Fr H (H.alloc (.rw [.slice a ps.length cap, .slice a' gs.length cap', .int .i64 lots] 32 false [])) := by (repeat (first | exact Fr.refl _ | assumption | refine Fr.allocd ?_ _ | refine Fr.put ?_ (by first | omega | (simp only [yz] <;> omega)) _))
 have h28 := fun (N : Nat) => c28 (N := N) (cap := cap) (cap' := cap') (cl := cl) (op := op) (fd := fd) (hs.fr fr0) (hgs.fr fr0) (hl.fr fr0) hlE
 have hd0 : decide ((0 : Int) = 0) = true := rfl
 rw [he, hd0, cond_true] at h28
 simp (disch:=first|(simp only [yk,seval];done)|omega|(simp only [yz]<;>omega)|fail) only [↓yp,yq0,yq1,yq2,yq3,yq4,yl,ys0,ys1,seval,fitB,newC,endD,endR,yrg,h28,hd0]
 refine W_while (n := 69) 2300 (fun q e' H' => ∃ (i : Nat) (v : Value) (S : Nat → Prop) (tl : List (Int × Int)), q = l.length - i ∧ i ≤ l.length ∧ gt 69 e' 13 = .int .i64 (i : Nat) ∧ gt 69 e' 12 = v ∧ gt 69 e' 1 = .slice al l.length cl ∧ gt 69 e' 2 = .int .i64 op ∧ gt 69 e' 3 = .int .i64 fd ∧ gt 69 e' 4 = .pointer (some ⟨H.size, 0, none⟩) ∧ Fr H H' ∧ H.size + 1 < H'.size ∧ H'.get H.size = .rw [.slice a ps.length cap, .slice a' gs.length cap', .int .i64 lots] 32 false [] ∧ Gw H' (H.size + 1) S v i (spE.fl tl) 38 2 ∧ tl.length = i ∧ ∀ (j : Nat) (p : Pk), j < i → ps[j]? = some p → tl[j]? = some (toldV ps l op fd j p))
  ?_ 4 l.length ⟨0, .slice none 0 0, fun _ => False, [], by omega, by omega, ?_, ?_, ?_, ?_, ?_, ?_, by (repeat (first | exact Fr.refl _ | assumption | refine Fr.allocd ?_ _ | refine Fr.put ?_ (by first | omega | (simp only [yz] <;> omega)) _)), by (first | omega | (simp only [yz] <;> omega)), ?_, Gw.none, rfl, fun j p h => by omega⟩ (by omega) (by omega)
 rotate_left
 ·simp (disch:=first|(simp only [yk,seval];done)|omega|(simp only [yz]<;>omega)|fail) only [yg,seval] <;> rfl
 ·simp (disch:=first|(simp only [yk,seval];done)|omega|(simp only [yz]<;>omega)|fail) only [yg,seval]
 ·simp (disch:=first|(simp only [yk,seval];done)|omega|(simp only [yz]<;>omega)|fail) only [yg,seval]
 ·simp (disch:=first|(simp only [yk,seval];done)|omega|(simp only [yz]<;>omega)|fail) only [yg,seval]
 ·simp (disch:=first|(simp only [yk,seval];done)|omega|(simp only [yz]<;>omega)|fail) only [yg,seval]
 ·simp (disch:=first|(simp only [yk,seval];done)|omega|(simp only [yz]<;>omega)|fail) only [yg,seval]
 ·simp (disch:=first|(simp only [yk,seval];done)|omega|(simp only [yz]<;>omega)|fail) only [yg,seval]
 rintro M1 q e H1 ⟨i, v, S, tl, rfl, hi, g13, g12, g1, g2, g3, g4, fr, lt, b4, gw, tlen, tat⟩
 have f0 := fr.size
 simp (disch:=first|(simp only [yk,seval];done)|omega|(simp only [yz]<;>omega)|fail) only [↓yp,yq0,yq1,yq2,yq3,yq4,yl,ys0,ys1,seval,fitB,newC,endD,endR,yrg,g13,g1,lenV_slice st_esS_49]
 refine ⟨fun hT => ?_, fun hT => ?_⟩
 rotate_left
 ·have hie : i = l.length := by have := of_decide_eq_false hT; omega
  subst hie
  obtain ⟨b, al', rfl, s1, k1, -⟩ := gw.cons (by omega)
  simp (disch:=first|(simp only [yk,seval];done)|omega|(simp only [yz]<;>omega)|fail) only [↓yp,yq0,yq1,yq2,yq3,yq4,yl,ys0,ys1,seval,fitB,newC,endD,endR,yrg,g12]
  refine ⟨b, _, tl, by rw [hlen], fr, ⟨by omega, fun j p hj hp => tat j p (by omega) hp⟩, Rw.of (r := []) (gw.own _ s1).2 (by rw [k1]; rfl) (by rw [List.append_nil])⟩
 have hlt : i < l.length := by have := of_decide_eq_true hT; omega
 have hlt2 : i < ps.length := by omega
 obtain ⟨p, hp⟩ : ∃ p, ps[i]? = some p := ⟨ps[i], by simp [hlt2]⟩
 obtain ⟨m, hm⟩ : ∃ m, l[i]? = some m := ⟨l[i], by simp [hlt]⟩
 have hok : p.Ok := Pk.isB_ok (List.all_eq_true.1 hst.pb p (List.mem_of_getElem? hp))
 have hsp := hst.sp p (List.mem_of_getElem? hp)
 have hw2 : w64 ((i : Int) + 1) = ((i + 1 : Nat) : Int) := by rw [w64_of (by omega)]; omega
 obtain ⟨b, o, c, eb, hb, hc, hqq⟩ := (hs.fr fr).at_ hp
 have qp : part c (o + i * 4) 5 = some (.agg ⟨p.enc⟩) := part_of hqq rfl
 subst eb
 simp only [Pk.enc] at qp
 obtain ⟨mb1, mb2⟩ := made_bo7
 obtain ⟨TL, hTL⟩ : ∃ c, sub [true, true, true, false, true, false, false, true, false, false, true, false, true] (bodyOf Try.f30) = c := ⟨_, rfl⟩
 have hTL0 := hTL
 simp only [Try.f30,bodyOf,sub_nil,sub_seq0,sub_seq1,sub_block,sub_loop,sub_cond0,sub_cond1] at hTL
 rw [hTL]
 clear hTL
 simp (disch:=first|(simp only [yk,seval];done)|omega|(simp only [yz]<;>omega)|fail) only [↓yp,yq0,yq1,yq2,yq3,yq4,yl,ys0,ys1,seval,fitB,newC,endD,endR,yrg]
 refine A_make_of (m := 7) st_mkS_138 (by simp (disch:=first|(simp only [yk,seval];done)|omega|(simp only [yz]<;>omega)|fail) only [↓yp,yq0,yq1,yq2,yq3,yq4,yl,ys0,ys1,seval,fitB,newC,endD,endR,yrg]) (by omega) (by omega) (by omega) mb2 (by first|omega|(simp only [yz]<;>omega)) ?_
 rw [show (7 : Int).toNat * 1 = 7 * 1 from rfl, show (7 : Int).toNat = 7 from rfl, mb1]
 simp (disch:=first|(simp only [yk,seval];done)|omega|(simp only [yz]<;>omega)|fail) only [↓yp,yq0,yq1,yq2,yq3,yq4,yl,ys0,ys1,seval,fitB,newC,endD,endR,yrg,g4,b4,g13,A_indexSlice st_esS_29,hc,qp]
 have h68 : ∀ {H : AHeap} {L M : Nat} {Q : Bool → Value → AHeap → Prop}, L ≤ H.size → 150 ≤ M → (∀ b c H', Fr H H' → H.size < b → Rw intE H' (some ⟨b, 0, none⟩) (rng p.f (p.hi + 1 - p.f).toNat) → Q false (.slice (some ⟨b, 0, none⟩) (p.hi + 1 - p.f).toNat c) H') → resK (acall tabA (aexec tabA Try.prog M) 68 [.agg ⟨[.int .i64 p.s, .int .i64 p.w, .int .i64 p.o, .int .i64 p.f]⟩] H) L Q := fun h1 h2 h3 => c68 (p := p) hok hsp h1 h2 h3
 refine h68 (by first|omega|(simp only [yz]<;>omega)) (by omega) ?_
 intro bf cf H2 fr2 hbf rf
 have f2 := fr2.size
 have s2 := fr2.same
 simp only [size_alloc] at f2 s2 hbf
 have rl : (rng p.f (p.hi + 1 - p.f).toNat).length = (p.hi + 1 - p.f).toNat := rng_len
 have hKp : (rng p.f (p.hi + 1 - p.f).toNat) ≠ [] := by intro h; rw [h] at rl; simp at rl; omega
 obtain ⟨b', o', c', e', lf, -⟩ := rf.get hKp
 cases e'
 obtain ⟨K, hK⟩ : ∃ K, (p.hi + 1 - p.f).toNat = K := ⟨_, rfl⟩
 rw [hK] at rf
 have bT : H2.get H1.size = .rw (boE.fl (tdB (nonE ps l op fd i p) p.f 0)) 4 false [] := by rw [s2 _ (by omega), tdB_zero]; exact get_alloc_same
 have o2 : ∀ j, j < H1.size → H2.get j = H1.get j := fun j hj => by rw [s2 _ (by omega), get_alloc_lt hj]
 have frI : Fr H H2 := ⟨by omega, fun j hj => by rw [o2 j (by omega)]; exact fr.same j hj⟩
 simp (disch:=first|(simp only [yk,seval];done)|omega|(simp only [yz]<;>omega)|fail) only [↓yp,yq0,yq1,yq2,yq3,yq4,yl,ys0,ys1,seval,fitB,newC,endD,endR,yrg,lenV_slice st_esS_49,hK]
 rw [← hTL0]
 refine W_end (c30i (N := M1 + 294) (cl := cl) (bt := H1.size) (bf := bf) (cf := cf) (i := i) (K := K) hs hl hst ho hp hop hfd frI ?k4 ((o2 _ (by omega)).trans b4) (by omega) ?k13 ?k1 ?k2 ?k3 ?k14 (by omega) (by omega) bT hK.symm ?k40 rf (by omega) lf ?k41 ?k42) ?fin
 case k4 => simp (disch:=first|(simp only [yk,seval];done)|omega|(simp only [yz]<;>omega)|fail) only [yg,seval,g4]
 case k13 => simp (disch:=first|(simp only [yk,seval];done)|omega|(simp only [yz]<;>omega)|fail) only [yg,seval,g13]
 case k1 => simp (disch:=first|(simp only [yk,seval];done)|omega|(simp only [yz]<;>omega)|fail) only [yg,seval,g1]
 case k2 => simp (disch:=first|(simp only [yk,seval];done)|omega|(simp only [yz]<;>omega)|fail) only [yg,seval,g2]
 case k3 => simp (disch:=first|(simp only [yk,seval];done)|omega|(simp only [yz]<;>omega)|fail) only [yg,seval,g3]
 case k14 => simp (disch:=first|(simp only [yk,seval];done)|omega|(simp only [yz]<;>omega)|fail) only [yg,seval]
 case k40 => simp (disch:=first|(simp only [yk,seval];done)|omega|(simp only [yz]<;>omega)|fail) only [yg,seval]
 case k41 => simp (disch:=first|(simp only [yk,seval];done)|omega|(simp only [yz]<;>omega)|fail) only [yg,seval]
 case k42 => simp (disch:=first|(simp only [yk,seval];done)|omega|(simp only [yz]<;>omega)|fail) only [yg,seval]
 case fin =>
  rintro e' H3 ⟨kp3, fr3, hs3, ho3, hb3⟩
  have m1 := kp3 1 (by decide)
  have m2 := kp3 2 (by decide)
  have m3 := kp3 3 (by decide)
  have m4 := kp3 4 (by decide)
  have m12 := kp3 12 (by decide)
  have m13 := kp3 13 (by decide)
  have m14 := kp3 14 (by decide)
  simp (disch:=first|(simp only [yk,seval];done)|omega|(simp only [yz]<;>omega)|fail) only [yg,seval,g1] at m1
  simp (disch:=first|(simp only [yk,seval];done)|omega|(simp only [yz]<;>omega)|fail) only [yg,seval,g2] at m2
  simp (disch:=first|(simp only [yk,seval];done)|omega|(simp only [yz]<;>omega)|fail) only [yg,seval,g3] at m3
  simp (disch:=first|(simp only [yk,seval];done)|omega|(simp only [yz]<;>omega)|fail) only [yg,seval,g4] at m4
  simp (disch:=first|(simp only [yk,seval];done)|omega|(simp only [yz]<;>omega)|fail) only [yg,seval,g12] at m12
  simp (disch:=first|(simp only [yk,seval];done)|omega|(simp only [yz]<;>omega)|fail) only [yg,seval,g13] at m13
  simp (disch:=first|(simp only [yk,seval];done)|omega|(simp only [yz]<;>omega)|fail) only [yg,seval] at m14
  obtain ⟨hE, hE0⟩ := tdB_iv hst ho hp hm hop hfd (of_decide_eq_false hne)
  rw [hK] at hE
  have hr : Rw boE H3 (some ⟨H1.size, 0, none⟩) (tdB (nonE ps l op fd i p) p.f K) := Rw.of (r := []) (by omega) (by rw [hb3]; rfl) (by rw [List.append_nil])
  have h85 := fun (N : Nat) => c85 (N := N) (cap := 7) hr (by rw [tdB_len]; omega)
  simp only [tdB_len] at h85
  rw [hE] at h85
  obtain ⟨t, ht⟩ : ∃ t, toldV ps l op fd i p = t := ⟨_, rfl⟩
  rw [ht] at h85
  have gw3 : Gw H3 (H.size + 1) S v i (spE.fl tl) 38 2 := gw.same (by omega) fun j hj => by have := (gw.own j hj).2; rw [ho3 _ (by omega) (by omega)]; exact o2 j (by omega)
  simp (disch:=first|(simp only [yk,seval];done)|omega|(simp only [yz]<;>omega)|fail) only [↓yp,yq0,yq1,yq2,yq3,yq4,yl,ys0,ys1,seval,fitB,newC,endD,endR,yrg,m12,m14,h85,A_buildSlice st_brS_56_1]
  refine gw_append (i := i) (cs := spE.fl tl) (news := spE.f t) st_apS_56 (gw3.fr (by repeat first|exact Fr.refl _|assumption|refine Fr.allocd ?_ _|refine Fr.put ?_ (by first|omega|(simp only [yz]<;>omega)) _)) (by first|omega|(simp only [yz]<;>omega)) (by rw [fl_length, tlen]; rfl) (by unfold srcCells; simp (disch:=first|(simp only [yk,seval];done)|omega|(simp only [yz]<;>omega)|fail) only [yg,seval] <;> rfl) (by omega) (by omega) rfl (by omega) ?_
  intro a1 c1 H4 hs4 fs4 gw4
  simp only [size_alloc] at hs4 fs4 gw4
  have old : ∀ q, q < H3.size → ¬ S q → H4.get q = H3.get q := fun q h1 h2 => by rw [fs4 q (by omega) h2, get_alloc_lt h1]
  have low := gw3.low
  simp (disch:=first|(simp only [yk,seval];done)|omega|(simp only [yz]<;>omega)|fail) only [↓yp,yq0,yq1,yq2,yq3,yq4,yl,ys0,ys1,seval,fitB,newC,endD,endR,yrg,m13,hw2]
  refine ⟨l.length - (i + 1), by omega, i + 1, .slice a1 (i + 1) c1, fun j => S j ∨ j = H3.size + 1, tl ++ [t], rfl, by omega, ?_, ?_, ?_, ?_, ?_, ?_, ⟨by omega, fun j hj => ?_⟩, by omega, ?_, ?_, ?_, ?_⟩
  ·simp (disch:=first|(simp only [yk,seval];done)|omega|(simp only [yz]<;>omega)|fail) only [yg,seval]
  ·simp (disch:=first|(simp only [yk,seval];done)|omega|(simp only [yz]<;>omega)|fail) only [yg,seval]
  ·simp (disch:=first|(simp only [yk,seval];done)|omega|(simp only [yz]<;>omega)|fail) only [yg,seval,m1]
  ·simp (disch:=first|(simp only [yk,seval];done)|omega|(simp only [yz]<;>omega)|fail) only [yg,seval,m2]
  ·simp (disch:=first|(simp only [yk,seval];done)|omega|(simp only [yz]<;>omega)|fail) only [yg,seval,m3]
  ·simp (disch:=first|(simp only [yk,seval];done)|omega|(simp only [yz]<;>omega)|fail) only [yg,seval,m4]
  ·rw [old j (by omega) (low j (by omega))]; exact fr3.same j hj
  ·rw [old _ (by omega) (low _ (by omega)), ho3 _ (by omega) (by omega), o2 _ (by omega)]; exact b4
  ·rw [fl_app]
   have : spE.fl [t] = spE.f t := by show spE.f t ++ [] = _; rw [List.append_nil]
   rw [this]
   exact gw4
  ·rw [List.length_append, tlen]; rfl
  ·intro j q hj hq
   by_cases hji : j < i
   ·rw [List.getElem?_append_left (by omega)]
    exact tat j q hji hq
   ·have : j = i := by omega
    subst this
    rw [hp] at hq
    cases hq
    rw [List.getElem?_append_right (by omega), tlen, Nat.sub_self, ← ht]; rfl
end
end Go.Am.K
namespace Go.Am.K
open Go.Proofs
variable {T : Tab} {P : Program} {N L : Nat} {H H' H'' : AHeap} {Q : Bool → Value → AHeap → Prop}
section
variable {a a' : Option Addr} {cap cap' : Nat} {ps : List Pk} {gs : List Gd} {lots n : Int}
end
end Go.Am.K
namespace Go.Am.K
open Go.Proofs
variable {T : Tab} {P : Program} {N L : Nat} {H H' H'' : AHeap} {Q : Bool → Value → AHeap → Prop}
structure Ob {α : Type} (E : Enc α) (ty tb : Nat) (H : AHeap) (x : Option Addr) (l : List α) : Prop where
 cons : l ≠ [] → ∃ k, x = some ⟨k, 0, none⟩ ∧ tb ≤ k ∧ k < H.size ∧ H.get k = .rw (E.fl l) ty true []
theorem Ob.fr {α : Type} {E : Enc α} {ty tb : Nat} {x : Option Addr} {l : List α} (h : Ob E ty tb H x l) (f : Fr H H') : Ob E ty tb H' x l := ⟨fun hl => by
 obtain ⟨k, h1, h2, h3, h4⟩ := h.cons hl
 exact ⟨k, h1, h2, Nat.lt_of_lt_of_le h3 f.size, (f.same k h3).trans h4⟩⟩
theorem Ob.low {α : Type} {E : Enc α} {ty tb tb' : Nat} {x : Option Addr} {l : List α} (h : Ob E ty tb H x l) (hb : tb' ≤ tb) : Ob E ty tb' H x l := ⟨fun hl => by
 obtain ⟨k, h1, h2, h3, h4⟩ := h.cons hl
 exact ⟨k, h1, Nat.le_trans hb h2, h3, h4⟩⟩
theorem Ob.put {α : Type} {E : Enc α} {ty tb j : Nat} {x : Option Addr} {l : List α} {blk : ABlk} (h : Ob E ty tb H x l) (hj : j < tb) : Ob E ty tb (H.put j blk) x l := ⟨fun hl => by
 obtain ⟨k, h1, h2, h3, h4⟩ := h.cons hl
 exact ⟨k, h1, h2, by rw [size_put]; exact h3, by rw [get_put_ne (by omega)]; exact h4⟩⟩
theorem Ob.rw {α : Type} {E : Enc α} {ty tb : Nat} {x : Option Addr} {l : List α} (h : Ob E ty tb H x l) : Rw E H x l := ⟨fun hl => by
 obtain ⟨k, h1, h2, h3, h4⟩ := h.cons hl
 exact ((h1 ▸ Rw.of (r := []) h3 (by rw [h4]; rfl) (by rw [List.append_nil])) : Rw E H x l).get hl⟩
theorem nil23 : binV tabA Try.prog .eql 23 (.tmp 3) (.const (.slice none 0 0)) (.slice none 0 0) (.slice none 0 0) = some (.bool true) := by kernel_rfl
section
variable {a a' : Option Addr} {cap cap' : Nat} {ps : List Pk} {gs : List Gd} {lots n : Int}
set_option maxHeartbeats 4000000 in
theorem c114x {i : Nat} {p : Pk} (hs : Rw pkE H a ps) (hg : Rw gdE H a' gs) (hgn : gs = [] → a' = none ∧ cap' = 0) (hp4 : ps.length ≤ 6) (hg4 : gs.length ≤ 6) (hi : i < ps.length) (hL : L ≤ H.size) {M : Nat} (hM : 200 ≤ M)
  (hq : ∀ k c x' c' H', Fr H H' → Ob pkE 87 H.size H' (some ⟨k, 0, none⟩) (ps.set i p) → Ob gdE 77 H.size H' x' gs → Q false (.agg ⟨[.slice (some ⟨k, 0, none⟩) ps.length c, .slice x' gs.length c', .int .i64 lots]⟩) H') :
  resK (acall tabA (aexec tabA Try.prog M) 114 [.agg ⟨[.slice a ps.length cap, .slice a' gs.length cap', .int .i64 lots]⟩, .int .i64 (i : Nat), .agg ⟨p.enc⟩] H) L Q := by
 obtain ⟨N, rfl⟩ : ∃ N, M = N + 200 := ⟨M - 200, by omega⟩
 refine call_fls (R := fun v H' => ∃ k c x' c', v = .agg ⟨[.slice (some ⟨k, 0, none⟩) ps.length c, .slice x' gs.length c', .int .i64 lots]⟩ ∧ Fr H H' ∧ Ob pkE 87 H.size H' (some ⟨k, 0, none⟩) (ps.set i p) ∧ Ob gdE 77 H.size H' x' gs) (k := 21) (rs := [.cell 6 25]) rfl fn_114 rfl rfl rfl hL ?_ ?_ ?_
 rotate_left
 ·rintro v H' ⟨k, c, k', c', rfl, -⟩; rfl
 ·rintro v H' ⟨k, c, k', c', rfl, h1, h2, h3⟩
  exact hq _ _ _ _ _ h1 h2 h3
 have hp1 : ps ≠ [] := by rintro rfl; simp at hi
 have fr0 : Fr H (((H.alloc (.rw [.slice a ps.length cap, .slice a' gs.length cap', .int .i64 lots] 25 false [])).alloc (.rw p.enc 87 false [])).alloc (.rw [.slice none 0 0, .slice none 0 0, .int .i64 0] 25 false [])) := by (repeat (first | exact Fr.refl _ | assumption | refine Fr.allocd ?_ _ | refine Fr.put ?_ (by first | omega | (simp only [yz] <;> omega)) _))
 have hset : newC (i * 4) p.enc (pkE.fl ps) = pkE.fl (ps.set i p) := newC_fl (E := pkE) hi
 have hfit : decide (i * 4 + 4 ≤ (pkE.fl ps).length) = true := by
  rw [fl_length]
  simp only [decide_eq_true_eq]
  show i * 4 + 4 ≤ ps.length * 4
  omega
 simp only [Pk.enc] at fr0 hset
 by_cases hg1 : gs = []
 ·obtain ⟨rfl, rfl⟩ := hgn hg1
  subst hg1
  have h128 : ∀ {N : Nat} {H : AHeap}, acall tabA (aexec tabA Try.prog (N + 60)) 128 [.slice none 0 0] H = some (true, .slice none 0 0, H, H.size) := by
   intro N H
   refine call_quiet (k := 8) (rs := [.tmp 2]) rfl fn_128 rfl rfl rfl ?_ rfl
   simp (disch:=first|(simp only [yk,seval];done)|omega|(simp only [yz]<;>omega)|fail) only [↓yp,yq0,yq1,yq2,yq3,yq4,yl,ys0,ys1,seval,fitB,newC,endD,endR,yrg,nil23]
  simp only [List.length_nil] at fr0 ⊢
  simp (disch:=first|(simp only [yk,seval];done)|omega|(simp only [yz]<;>omega)|fail) only [↓yp,yq0,yq1,yq2,yq3,yq4,yl,ys0,ys1,seval,fitB,newC,endD,endR,yrg,Pk.enc]
  refine W_drawR (pl := []) [2, 7, 9] [(1, 1), (1, 2), (1, 3), (4, 3), (5, 3)] (planK_of rfl) (by kernel_rfl) (by kernel_rfl) (by kernel_rfl) (by first|omega|(simp only [yz]<;>omega)) ?_
  simp (disch:=first|(simp only [yk,seval];done)|omega|(simp only [yz]<;>omega)|fail) only [↓yp,yq0,yq1,yq2,yq3,yq4,yl,ys0,ys1,seval,fitB,newC,endD,endR,yrg]
  refine c127 (hs.fr fr0) hp1 (by omega) (by first|omega|(simp only [yz]<;>omega)) (by omega) ?_
  intro k cc H1 fr1 k1 k2 k3
  have f1 := fr1.size
  have s1 := fr1.same
  simp only [size_alloc] at f1 s1 k1
  simp (disch:=first|(simp only [yk,seval];done)|omega|(simp only [yz]<;>omega)|fail) only [↓yp,yq0,yq1,yq2,yq3,yq4,yl,ys0,ys1,seval,fitB,newC,endD,endR,yrg,s1,h128]
  simp (disch:=first|(simp only [yk,seval];done)|omega|(simp only [yz]<;>omega)|fail) only [↓yp,yq0,yq1,yq2,yq3,yq4,yl,ys0,ys1,seval,fitB,newC,endD,endR,yrg,s1,A_indexSlice st_esS_22,k3,hset,hfit]
  refine ⟨k, cc, none, 0, rfl, ?_, ⟨fun _ => ⟨k, rfl, by omega, by (first | omega | (simp only [yz] <;> omega)), ?_⟩⟩, ⟨fun h => absurd rfl h⟩⟩
  ·have h12 : Fr H H1 := fr0.trans fr1
   exact Fr.put (Fr.put (Fr.put (Fr.put h12 (by omega) _) (by omega) _) (by omega) _) (by omega) _
  ·rw [get_put_ne (by omega), get_put_same (by first|omega|(simp only [yz]<;>omega)), ← hset]; rfl
 simp (disch:=first|(simp only [yk,seval];done)|omega|(simp only [yz]<;>omega)|fail) only [↓yp,yq0,yq1,yq2,yq3,yq4,yl,ys0,ys1,seval,fitB,newC,endD,endR,yrg,Pk.enc]
 refine W_drawR (pl := []) [2, 5, 7, 9] [(1, 1), (1, 2), (1, 3), (1, 4), (4, 2), (4, 3), (4, 4)] (planK_of rfl) (by kernel_rfl) (by kernel_rfl) (by kernel_rfl) (by first|omega|(simp only [yz]<;>omega)) ?_
 simp (disch:=first|(simp only [yk,seval];done)|omega|(simp only [yz]<;>omega)|fail) only [↓yp,yq0,yq1,yq2,yq3,yq4,yl,ys0,ys1,seval,fitB,newC,endD,endR,yrg]
 refine c127 (hs.fr fr0) hp1 (by omega) (by first|omega|(simp only [yz]<;>omega)) (by omega) ?_
 intro k cc H1 fr1 k1 k2 k3
 have f1 := fr1.size
 have s1 := fr1.same
 simp only [size_alloc] at f1 s1 k1
 simp (disch:=first|(simp only [yk,seval];done)|omega|(simp only [yz]<;>omega)|fail) only [↓yp,yq0,yq1,yq2,yq3,yq4,yl,ys0,ys1,seval,fitB,newC,endD,endR,yrg,s1]
 refine c128 (hg.fr (fr0.trans fr1)) hg1 (by omega) (by first|omega|(simp only [yz]<;>omega)) (by omega) ?_
 intro k' cc' H2 fr2 k1' k2' k3'
 have f2 := fr2.size
 have s2 := fr2.same
 have hH1 : k < H2.size := by omega
 have k32 : H2.get k = .rw (pkE.fl ps) 87 true [] := (s2 k k2).trans k3
 simp (disch:=first|(simp only [yk,seval];done)|omega|(simp only [yz]<;>omega)|fail) only [↓yp,yq0,yq1,yq2,yq3,yq4,yl,ys0,ys1,seval,fitB,newC,endD,endR,yrg,s2,s1]
 simp (disch:=first|(simp only [yk,seval];done)|omega|(simp only [yz]<;>omega)|fail) only [↓yp,yq0,yq1,yq2,yq3,yq4,yl,ys0,ys1,seval,fitB,newC,endD,endR,yrg,s2,s1,A_indexSlice st_esS_22,k3,hset,hfit]
 refine ⟨k, cc, some ⟨k', 0, none⟩, cc', rfl, ?_, ⟨fun _ => ⟨k, rfl, by omega, by (first | omega | (simp only [yz] <;> omega)), ?_⟩⟩, ⟨fun _ => ⟨k', rfl, by omega, by (first | omega | (simp only [yz] <;> omega)), ?_⟩⟩⟩
 ·have h12 : Fr H H2 := (fr0.trans fr1).trans fr2
  exact Fr.put (Fr.put (Fr.put (Fr.put h12 (by omega) _) (by omega) _) (by omega) _) (by omega) _
 ·rw [get_put_ne (by omega), get_put_same (by first|omega|(simp only [yz]<;>omega)), ← hset]; rfl
 ·rw [get_put_ne (by omega), get_put_ne (by omega), get_put_ne (by omega), get_put_ne (by omega), k3']
def opn (p : Pk) (y z : Int) : Pk := ⟨p.s, p.w, p.o + y, p.f + z⟩
end
end Go.Am.K
