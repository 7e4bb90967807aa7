import Derived.Test.YtbofjfjopeaefaaGreatT47
import Derived.Test.YtbofjfjopeaefaaGreatT43
import Derived.Test.YtbofjfjopeaefaaGreatT42
set_option linter.unusedSimpArgs false
set_option linter.unusedVariables false
namespace Go.Am.K
open Go.Proofs
variable {T : Tab} {P : Program} {N L : Nat} {H H' H'' : AHeap} {Q : Bool → Value → AHeap → Prop}
section
variable {a a' : Option Addr} {cap cap' : Nat} {l : List Int} {tl : List (Int × Int)}
theorem c24n : acall tabA (aexec tabA Tryz.prog (N + 60)) 12 [.slice a 0 cap] H = some (true, .slice none 0 0, H, H.size) := by
 refine call_quiet (k := 9) (rs := [.tmp 2]) rfl fn_12 rfl rfl rfl ?_ rfl
 simp (disch:=first|(simp only [yk,seval];done)|omega|(simp only [yz]<;>omega)|fail) only [↓yp,yA,ys0,ys1,seval,fitB,newC,endD,endR,yrg,lenV_slice st_esS_26,Int.natCast_zero]
theorem c32 (hs : Rw intE H a l) (hs' : Rw intE H a' l) (hl : l.length ≤ 65) : acall tabA (aexec tabA Tryz.prog (N + 150)) 24 [.slice a l.length cap, .slice a' l.length cap'] H = some (true, .bool true, H, H.size) := by
 refine call_quiet (k := 26) (rs := [.tmp 4]) rfl fn_24 rfl rfl rfl ?_ rfl
 have hll : decide ((l.length : Int) = (l.length : Int)) = true := by simp
 simp (disch:=first|(simp only [yk,seval];done)|omega|(simp only [yz]<;>omega)|fail) only [↓yp,yA,ys0,ys1,seval,fitB,newC,endD,endR,yrg,lenV_slice st_esS_26,hll]
 refine W_while (n := 26) 70 (fun k e H' => ∃ i, k = l.length - i ∧ i ≤ l.length ∧ gt 26 e 14 = .int .i64 (i : Nat) ∧ gt 26 e 13 = .int .i64 l.length ∧ gt 26 e 12 = .slice a l.length cap ∧ gt 26 e 1 = .slice a' l.length cap' ∧ H' = H)
  ?_ 65 l.length ⟨0, by omega, by omega, by simp (disch:=first|(simp only [yk,seval];done)|omega|(simp only [yz]<;>omega)|fail) only [yg,seval] <;> rfl, by simp (disch:=first|(simp only [yk,seval];done)|omega|(simp only [yz]<;>omega)|fail) only [yg,seval], by simp (disch:=first|(simp only [yk,seval];done)|omega|(simp only [yz]<;>omega)|fail) only [yg,seval], by simp (disch:=first|(simp only [yk,seval];done)|omega|(simp only [yz]<;>omega)|fail) only [yg,seval], rfl⟩ (by omega) (by omega)
 rintro M k e H' ⟨i, rfl, hi, g14, g13, g12, g1, rfl⟩
 simp (disch:=first|(simp only [yk,seval];done)|omega|(simp only [yz]<;>omega)|fail) only [↓yp,yA,ys0,ys1,seval,fitB,newC,endD,endR,yrg,g14,g13,g12,g1]
 refine ⟨fun hlt => ?_, fun hlt => ?_⟩
 ·have hi' : i < l.length := by simpa using hlt
  obtain ⟨x, hx⟩ : ∃ x, l[i]? = some x := ⟨l[i], by simp [hi']⟩
  obtain ⟨b, o, c, rfl, hb, hc, hp⟩ := hs.at_ hx
  obtain ⟨b', o', c', rfl, hb', hc', hp'⟩ := hs'.at_ hx
  have q := cell_of hp
  have q' := cell_of hp'
  rw [show i * intE.z = i * 1 from rfl, Nat.mul_one] at q q'
  have hw2 : w64 ((i : Int) + 1) = ((i + 1 : Nat) : Int) := by rw [w64_of (by omega)]; omega
  have hxx : decide (x = x) = true := by simp
  simp (disch:=first|(simp only [yk,seval];done)|omega|(simp only [yz]<;>omega)|fail) only [↓yp,yA,ys0,ys1,seval,fitB,newC,endD,endR,yrg,g14,g13,g12,g1,A_indexSlice st_esS_26,hc,q,hc',q',hxx,hw2]
  refine ⟨l.length - (i + 1), by omega, i + 1, rfl, by omega, ?_, ?_, ?_, ?_, rfl⟩
  ·simp (disch:=first|(simp only [yk,seval];done)|omega|(simp only [yz]<;>omega)|fail) only [yg,seval]
  ·simp (disch:=first|(simp only [yk,seval];done)|omega|(simp only [yz]<;>omega)|fail) only [yg,seval,g13]
  ·simp (disch:=first|(simp only [yk,seval];done)|omega|(simp only [yz]<;>omega)|fail) only [yg,seval,g12]
  ·simp (disch:=first|(simp only [yk,seval];done)|omega|(simp only [yz]<;>omega)|fail) only [yg,seval,g1]
 ·simp (disch:=first|(simp only [yk,seval];done)|omega|(simp only [yz]<;>omega)|fail) only [↓yp,yA,ys0,ys1,seval,fitB,newC,endD,endR,yrg]
end
end Go.Am.K
namespace Go.Am.K
open Go.Proofs
variable {T : Tab} {P : Program} {N L : Nat} {H H' H'' : AHeap} {Q : Bool → Value → AHeap → Prop}
structure FD (H H' : AHeap) (a : Option Addr) (cap : Nat) (a' : Option Addr) (cap' : Nat) (al : Option Addr) (cl : Nat) (x : Option Addr) (c : Nat) (x' : Option Addr) (c' : Nat) (w : Option Addr) (cw : Nat) (u : Option Addr) (d : Nat) (u' : Option Addr) (d' : Nat) (ps : List Pk) (gs : List Gd) (lots : Int) (l : List Int) (af : Option Addr) (cf : Nat) (fl : List Int) (ai : Option Addr) (ci : Nat) (il : List Int) (e : VT) : Prop where
 fr : Fr H H'
 s : Rw pkE H' a ps
 s' : Rw gdE H' a' gs
 t : Rw intE H' al l
 o : Rw pkE H' x ps
 o' : Rw gdE H' x' gs
 m : Rw intE H' w l
 r : Rw pkE H' u ps
 r' : Rw gdE H' u' gs
 on : gs = [] → x' = none ∧ c' = 0
 sz : H.size + 1 + 1 < H'.size
 b4 : H'.get H.size = .rw [.slice a ps.length cap, .slice a' gs.length cap', .int .i64 lots] 25 false []
 b9 : H'.get (H.size + 1) = .rw [.slice x ps.length c, .slice x' gs.length c', .int .i64 lots] 25 false []
 b11 : H'.get (H.size + 1 + 1) = .rw [.slice u ps.length d, .slice u' gs.length d', .int .i64 lots] 34 false []
 g1 : gt 218 e 1 = .slice al l.length cl
 g2 : gt 218 e 2 = .slice af fl.length cf
 g3 : gt 218 e 3 = .slice ai il.length ci
 g4 : gt 218 e 4 = .pointer (some ⟨H.size, 0, none⟩)
 g9 : gt 218 e 9 = .pointer (some ⟨H.size + 1, 0, none⟩)
 g10 : gt 218 e 10 = .slice w l.length cw
 g11 : gt 218 e 11 = .pointer (some ⟨H.size + 1 + 1, 0, none⟩)
section
variable {a a' al af ai x x' w u u' : Option Addr} {cap cap' cl cf ci c c' cw d d' : Nat} {ps : List Pk} {gs : List Gd} {lots : Int} {l fl il : List Int} {e e' : VT}
theorem FD.next (I : FD H H' a cap a' cap' al cl x c x' c' w cw u d u' d' ps gs lots l af cf fl ai ci il e) (f : Fr H' H'') (h : Keep 218 [1, 2, 3, 4, 9, 10, 11] e e') : FD H H'' a cap a' cap' al cl x c x' c' w cw u d u' d' ps gs lots l af cf fl ai ci il e' where
 fr := I.fr.trans f
 s := I.s.fr f
 s' := I.s'.fr f
 t := I.t.fr f
 o := I.o.fr f
 o' := I.o'.fr f
 m := I.m.fr f
 r := I.r.fr f
 r' := I.r'.fr f
 on := I.on
 sz := Nat.lt_of_lt_of_le I.sz f.size
 b4 := (f.same _ (by have := I.sz; omega)).trans I.b4
 b9 := (f.same _ (by have := I.sz; omega)).trans I.b9
 b11 := (f.same _ I.sz).trans I.b11
 g1 := (h 1 (by decide)).trans I.g1
 g2 := (h 2 (by decide)).trans I.g2
 g3 := (h 3 (by decide)).trans I.g3
 g4 := (h 4 (by decide)).trans I.g4
 g9 := (h 9 (by decide)).trans I.g9
 g10 := (h 10 (by decide)).trans I.g10
 g11 := (h 11 (by decide)).trans I.g11
set_option maxHeartbeats 8000000 in
set_option maxRecDepth 10000 in
theorem c3z (hs : Rw pkE H a ps) (hgs : Rw gdE H a' gs) (hlr : Rw intE H al l)
  (hend0 : ps.length ≤ 6 → gs.length ≤ 6 → l.length ≤ 8 → fl.length ≤ 8 → il.length ≤ 8 → ∀ (N : Nat) (H' : AHeap) (e : VT) (x : Option Addr) (c : Nat) (x' : Option Addr) (c' : Nat) (w : Option Addr) (cw : Nat) (u : Option Addr) (d : Nat) (u' : Option Addr) (d' : Nat), FD H H' a cap a' cap' al cl x c x' c' w cw u d u' d' ps gs lots l af cf fl ai ci il e → W tabA Tryz.prog (N + 9000) none (sub [true, true, true] (bodyOf Tryz.f3)) H.size ⟨218, e, H', []⟩ (retK tabA H.size [.tmp 8] fun u _ => u = .bool true)) :
  acall tabA (aexec tabA Tryz.prog (N + 9100)) 3 [.agg ⟨[.slice a ps.length cap, .slice a' gs.length cap', .int .i64 lots]⟩, .slice al l.length cl, .slice af fl.length cf, .slice ai il.length ci] H = some (true, .bool true, H, H.size) := by
 refine call_quiet (k := 218) (rs := [.tmp 8]) rfl fn_3 rfl rfl rfl ?_ rfl
 have haw := fun (N : Nat) (H : AHeap) => awake_known (ex := aexec tabA Tryz.prog N) (H := H)
 have h12 := fun (N : Nat) (H : AHeap) => c12 (N := N) (H := H) (a := a) (a' := a') (cap := cap) (cap' := cap') (ps := ps) (gs := gs) (lo := .int .i64 lots)
 cases hlong : decide (6 < (ps.length : Int)) || decide (6 < (gs.length : Int))
 rotate_left
 ·rw [hlong] at h12
  simp (disch:=first|(simp only [yk,seval];done)|omega|(simp only [yz]<;>omega)|fail) only [↓yp,yA,ys0,ys1,seval,fitB,newC,endD,endR,yrg,h12,haw]
 rw [hlong] at h12
 simp only [Bool.or_eq_false_iff,decide_eq_false_iff_not] at hlong
 cases h8 : decide (8 < (l.length : Int))
 rotate_left
 ·simp (disch:=first|(simp only [yk,seval];done)|omega|(simp only [yz]<;>omega)|fail) only [↓yp,yA,ys0,ys1,seval,fitB,newC,endD,endR,yrg,h12,lenV_slice st_esS_26,h8,haw]
 have h8' := of_decide_eq_false h8
 cases h9 : decide (8 < (fl.length : Int))
 rotate_left
 ·simp (disch:=first|(simp only [yk,seval];done)|omega|(simp only [yz]<;>omega)|fail) only [↓yp,yA,ys0,ys1,seval,fitB,newC,endD,endR,yrg,h12,lenV_slice st_esS_26,h8,h9,haw]
 cases h10 : decide (8 < (il.length : Int))
 rotate_left
 ·simp (disch:=first|(simp only [yk,seval];done)|omega|(simp only [yz]<;>omega)|fail) only [↓yp,yA,ys0,ys1,seval,fitB,newC,endD,endR,yrg,h12,lenV_slice st_esS_26,h8,h9,h10,haw]
 have h9' := of_decide_eq_false h9
 have h10' := of_decide_eq_false h10
 have hl : ps.length ≤ 6 := by omega
 have hgl : gs.length ≤ 6 := by omega
 have hll : l.length ≤ 8 := by omega
 obtain ⟨TL, hTL⟩ : ∃ c, sub [true, true, true] (bodyOf Tryz.f3) = c := ⟨_, rfl⟩
 have hend := hend0 hl hgl hll (by omega) (by omega) (N + 97)
 rw [hTL] at hend
 simp only [Tryz.f3,bodyOf,sub_nil,sub_seq0,sub_seq1,sub_block,sub_loop,sub_cond0,sub_cond1] at hTL
 rw [hTL]
 clear hTL
 have fr0 : Fr H (((H.alloc (.rw [.slice a ps.length cap, .slice a' gs.length cap', .int .i64 lots] 25 false [])).alloc (.rw [.slice none 0 0, .slice none 0 0, .int .i64 0] 25 false [])).alloc (.rw [.slice none 0 0, .slice none 0 0, .int .i64 0] 34 false [])) := by (repeat (first | exact Fr.refl _ | assumption | refine Fr.allocd ?_ _ | refine Fr.put ?_ (by first | omega | (simp only [yz] <;> omega)) _))
 by_cases hne : ps = [] ∧ gs = []
 ·obtain ⟨rfl, rfl⟩ := hne
  have h14 := fun (N : Nat) (H : AHeap) => c14n (N := N) (H := H) (a := a) (a' := a') (cap := cap) (cap' := cap') (lots := lots)
  have h15 := fun (N : Nat) (H : AHeap) => c15n (N := N) (H := H) (a := a) (a' := a') (cap := cap) (cap' := cap') (lots := lots)
  simp only [List.length_nil] at h12 fr0 ⊢
  by_cases hl0 : l = []
  ·subst hl0
   have h24 := fun (N : Nat) (H : AHeap) => c24n (N := N) (H := H) (a := al) (cap := cl)
   simp only [List.length_nil] at h8 ⊢
   simp (disch:=first|(simp only [yk,seval];done)|omega|(simp only [yz]<;>omega)|fail) only [↓yp,yA,ys0,ys1,seval,fitB,newC,endD,endR,yrg,h12,lenV_slice st_esS_26,h8,h9,h10]
   refine W_drawR (pl := [(6, .rw [.slice none 0 0, .slice none 0 0, .int .i64 0] 25 false []), (7, .rw [.slice none 0 0, .slice none 0 0, .int .i64 0] 34 false [])]) [8, 10] [(0, 1), (0, 2), (1, 1), (1, 2), (4, 2), (5, 2), (6, 1), (6, 2), (7, 2)] (planK_of rfl) (by kernel_rfl) (by kernel_rfl) (by kernel_rfl) (by first|omega|(simp only [yz]<;>omega)) ?_
   simp (disch:=first|(simp only [yk,seval];done)|omega|(simp only [yz]<;>omega)|fail) only [↓yp,yA,ys0,ys1,seval,fitB,newC,endD,endR,yrg,h14,h15,h24]
   refine hend _ _ none 0 none 0 none 0 none 0 none 0 ⟨(by repeat first|exact Fr.refl _|assumption|refine Fr.allocd ?_ _|refine Fr.put ?_ (by first|omega|(simp only [yz]<;>omega)) _), Rw.nil, Rw.nil, Rw.nil, Rw.nil, Rw.nil, Rw.nil, Rw.nil, Rw.nil, fun _ => ⟨rfl, rfl⟩, by (first | omega | (simp only [yz] <;> omega)), ?_, ?_, ?_, ?_, ?_, ?_, ?_, ?_, ?_, ?_⟩
   all_goals simp (disch:=first|(simp only [yk,seval];done)|omega|(simp only [yz]<;>omega)|fail) only [yg,seval,List.length_nil]
  simp (disch:=first|(simp only [yk,seval];done)|omega|(simp only [yz]<;>omega)|fail) only [↓yp,yA,ys0,ys1,seval,fitB,newC,endD,endR,yrg,h12,lenV_slice st_esS_26,h8,h9,h10]
  refine W_drawR (pl := [(6, .rw [.slice none 0 0, .slice none 0 0, .int .i64 0] 25 false []), (7, .rw [.slice none 0 0, .slice none 0 0, .int .i64 0] 34 false [])]) [3, 8, 10] [(0, 1), (0, 2), (0, 3), (1, 1), (1, 2), (1, 3), (4, 3), (5, 3), (6, 2), (6, 3), (7, 3)] (planK_of rfl) (by kernel_rfl) (by kernel_rfl) (by kernel_rfl) (by first|omega|(simp only [yz]<;>omega)) ?_
  simp (disch:=first|(simp only [yk,seval];done)|omega|(simp only [yz]<;>omega)|fail) only [↓yp,yA,ys0,ys1,seval,fitB,newC,endD,endR,yrg,h14,h15]
  refine c24 (hlr.fr fr0) hl0 (by omega) (by first|omega|(simp only [yz]<;>omega)) (by omega) ?_
  intro k cw H1 fr1 k1 k2 k3
  have f1 := fr1.size
  have s1 := fr1.same
  simp only [size_alloc] at f1 s1 k1
  simp (disch:=first|(simp only [yk,seval];done)|omega|(simp only [yz]<;>omega)|fail) only [↓yp,yA,ys0,ys1,seval,fitB,newC,endD,endR,yrg,s1,h14,h15,newK_alloc]
  have hF : Fr H ((H1.put (H.size + 1) (.rw [.slice none 0 0, .slice none 0 0, .int .i64 lots] 25 false [])).put (H.size + 1 + 1) (.rw [.slice none 0 0, .slice none 0 0, .int .i64 lots] 34 false [])) := Fr.put (Fr.put (fr0.trans fr1) (by omega) _) (by omega) _
  refine hend _ _ none 0 none 0 (some ⟨k, 0, none⟩) cw none 0 none 0 ⟨hF, Rw.nil, Rw.nil, hlr.fr hF, Rw.nil, Rw.nil, Rw.putU (Rw.putU (Rw.of (r := []) k2 (by rw [k3]; rfl) (by rw [List.append_nil])) (Up.some k1) (by omega)) (Up.some k1) (by omega), Rw.nil, Rw.nil, fun _ => ⟨rfl, rfl⟩, by (first | omega | (simp only [yz] <;> omega)), ?_, ?_, ?_, ?_, ?_, ?_, ?_, ?_, ?_, ?_⟩
  ·rw [get_put_ne (by omega), get_put_ne (by omega), s1 _ (by omega)]; simp (disch:=first|(simp only [yk,seval];done)|omega|(simp only [yz]<;>omega)|fail) only [yg,seval,List.length_nil]
  ·rw [get_put_ne (by omega), get_put_same (by omega)]; rfl
  ·rw [get_put_same (by first|omega|(simp only [yz]<;>omega))]; rfl
  all_goals simp (disch:=first|(simp only [yk,seval];done)|omega|(simp only [yz]<;>omega)|fail) only [yg,seval,List.length_nil]
 have hne' : ps ≠ [] ∨ gs ≠ [] := by
  by_cases h : ps = []
  ·exact .inr fun h' => hne ⟨h, h'⟩
  ·exact .inl h
 by_cases hl0 : l = []
 ·subst hl0
  have h24 := fun (N : Nat) (H : AHeap) => c24n (N := N) (H := H) (a := al) (cap := cl)
  simp only [List.length_nil] at h8 ⊢
  simp (disch:=first|(simp only [yk,seval];done)|omega|(simp only [yz]<;>omega)|fail) only [↓yp,yA,ys0,ys1,seval,fitB,newC,endD,endR,yrg,h12,lenV_slice st_esS_26,h8,h9,h10]
  refine W_drawR (pl := [(6, .rw [.slice none 0 0, .slice none 0 0, .int .i64 0] 25 false []), (7, .rw [.slice none 0 0, .slice none 0 0, .int .i64 0] 34 false [])]) [1, 5, 8, 10] [(0, 1), (0, 2), (0, 3), (0, 4), (4, 2), (4, 3), (4, 4), (6, 3), (6, 4), (7, 4)] (planK_of rfl) (by kernel_rfl) (by kernel_rfl) (by kernel_rfl) (by first|omega|(simp only [yz]<;>omega)) ?_
  simp (disch:=first|(simp only [yk,seval];done)|omega|(simp only [yz]<;>omega)|fail) only [↓yp,yA,ys0,ys1,seval,fitB,newC,endD,endR,yrg]
  refine c14 (hs.fr (by repeat first|exact Fr.refl _|assumption|refine Fr.allocd ?_ _|refine Fr.put ?_ (by first|omega|(simp only [yz]<;>omega)) _)) (hgs.fr (by repeat first|exact Fr.refl _|assumption|refine Fr.allocd ?_ _|refine Fr.put ?_ (by first|omega|(simp only [yz]<;>omega)) _)) hl hgl hne' (by first|omega|(simp only [yz]<;>omega)) (by omega) ?_
  intro x c x' c' H1 fr1 hx on ux ux' o o'
  have f1 := fr1.size
  have s1 := fr1.same
  simp only [size_alloc] at f1 s1
  have h1 : oneCells [.slice x ps.length c, .slice x' gs.length c', .int .i64 lots] = true := by cases x <;> cases x' <;> rfl
  have f01 : Fr H H1 := fr0.trans fr1
  simp (disch:=first|(simp only [yk,seval];done)|omega|(simp only [yz]<;>omega)|fail) only [↓yp,yA,ys0,ys1,seval,fitB,newC,endD,endR,yrg,s1,h1,h24]
  refine c15 (hs.fr f01) (hgs.fr f01) hl hgl hne' (by first|omega|(simp only [yz]<;>omega)) (by omega) ?_
  intro u d u' d' H2 fr2 hu uu uu' r r'
  have f2 := fr2.size
  have s2 := fr2.same
  have h2 : oneCells [.slice u ps.length d, .slice u' gs.length d', .int .i64 lots] = true := by cases u <;> cases u' <;> rfl
  simp (disch:=first|(simp only [yk,seval];done)|omega|(simp only [yz]<;>omega)|fail) only [↓yp,yA,ys0,ys1,seval,fitB,newC,endD,endR,yrg,s2,s1,h1,h2,h24,newK_alloc]
  simp only [size_alloc] at ux ux'
  have hF : Fr H ((H2.put (H.size + 1) (.rw [.slice x ps.length c, .slice x' gs.length c', .int .i64 lots] 25 false [])).put (H.size + 1 + 1) (.rw [.slice u ps.length d, .slice u' gs.length d', .int .i64 lots] 34 false [])) := Fr.put (Fr.put (f01.trans fr2) (by omega) _) (by omega) _
  refine hend _ _ x c x' c' none 0 u d u' d' ⟨hF, hs.fr hF, hgs.fr hF, Rw.nil, Rw.putU (Rw.putU (o.fr fr2) ux (by omega)) ux (by omega), Rw.putU (Rw.putU (o'.fr fr2) ux' (by omega)) ux' (by omega), Rw.nil, Rw.putU (Rw.putU r uu (by omega)) uu (by omega), Rw.putU (Rw.putU r' uu' (by omega)) uu' (by omega), on, by (first | omega | (simp only [yz] <;> omega)), ?_, ?_, ?_, ?_, ?_, ?_, ?_, ?_, ?_, ?_⟩
  ·rw [get_put_ne (by omega), get_put_ne (by omega), s2 _ (by omega), s1 _ (by omega)]; simp (disch:=first|(simp only [yk,seval];done)|omega|(simp only [yz]<;>omega)|fail) only [yg,seval]
  ·rw [get_put_ne (by omega), get_put_same (by omega)]
  ·rw [get_put_same (by first|omega|(simp only [yz]<;>omega))]
  all_goals simp (disch:=first|(simp only [yk,seval];done)|omega|(simp only [yz]<;>omega)|fail) only [yg,seval,List.length_nil]
 simp (disch:=first|(simp only [yk,seval];done)|omega|(simp only [yz]<;>omega)|fail) only [↓yp,yA,ys0,ys1,seval,fitB,newC,endD,endR,yrg,h12,lenV_slice st_esS_26,h8,h9,h10]
 refine W_drawR (pl := [(6, .rw [.slice none 0 0, .slice none 0 0, .int .i64 0] 25 false []), (7, .rw [.slice none 0 0, .slice none 0 0, .int .i64 0] 34 false [])]) [1, 3, 5, 8, 10] [(0, 1), (0, 2), (0, 3), (0, 4), (0, 5), (4, 3), (4, 4), (4, 5), (6, 4), (6, 5), (7, 5)] (planK_of rfl) (by kernel_rfl) (by kernel_rfl) (by kernel_rfl) (by first|omega|(simp only [yz]<;>omega)) ?_
 simp (disch:=first|(simp only [yk,seval];done)|omega|(simp only [yz]<;>omega)|fail) only [↓yp,yA,ys0,ys1,seval,fitB,newC,endD,endR,yrg]
 refine c14 (hs.fr (by repeat first|exact Fr.refl _|assumption|refine Fr.allocd ?_ _|refine Fr.put ?_ (by first|omega|(simp only [yz]<;>omega)) _)) (hgs.fr (by repeat first|exact Fr.refl _|assumption|refine Fr.allocd ?_ _|refine Fr.put ?_ (by first|omega|(simp only [yz]<;>omega)) _)) hl hgl hne' (by first|omega|(simp only [yz]<;>omega)) (by omega) ?_
 intro x c x' c' H1 fr1 hx on ux ux' o o'
 have f1 := fr1.size
 have s1 := fr1.same
 simp only [size_alloc] at f1 s1
 have h1 : oneCells [.slice x ps.length c, .slice x' gs.length c', .int .i64 lots] = true := by cases x <;> cases x' <;> rfl
 have f01 : Fr H H1 := fr0.trans fr1
 simp (disch:=first|(simp only [yk,seval];done)|omega|(simp only [yz]<;>omega)|fail) only [↓yp,yA,ys0,ys1,seval,fitB,newC,endD,endR,yrg,s1,h1]
 refine c24 (hlr.fr f01) hl0 (by omega) (by first|omega|(simp only [yz]<;>omega)) (by omega) ?_
 intro k cw H3 fr3 k1 k2 k3
 have f3 := fr3.size
 have s3 := fr3.same
 have f03 : Fr H H3 := f01.trans fr3
 simp (disch:=first|(simp only [yk,seval];done)|omega|(simp only [yz]<;>omega)|fail) only [↓yp,yA,ys0,ys1,seval,fitB,newC,endD,endR,yrg,s3,s1,h1]
 refine c15 (hs.fr f03) (hgs.fr f03) hl hgl hne' (by first|omega|(simp only [yz]<;>omega)) (by omega) ?_
 intro u d u' d' H2 fr2 hu uu uu' r r'
 have f2 := fr2.size
 have s2 := fr2.same
 have h2 : oneCells [.slice u ps.length d, .slice u' gs.length d', .int .i64 lots] = true := by cases u <;> cases u' <;> rfl
 simp (disch:=first|(simp only [yk,seval];done)|omega|(simp only [yz]<;>omega)|fail) only [↓yp,yA,ys0,ys1,seval,fitB,newC,endD,endR,yrg,s2,s3,s1,h1,h2,newK_alloc]
 simp only [size_alloc] at ux ux'
 have hF : Fr H ((H2.put (H.size + 1) (.rw [.slice x ps.length c, .slice x' gs.length c', .int .i64 lots] 25 false [])).put (H.size + 1 + 1) (.rw [.slice u ps.length d, .slice u' gs.length d', .int .i64 lots] 34 false [])) := Fr.put (Fr.put (f03.trans fr2) (by omega) _) (by omega) _
 refine hend _ _ x c x' c' (some ⟨k, 0, none⟩) cw u d u' d' ⟨hF, hs.fr hF, hgs.fr hF, hlr.fr hF, Rw.putU (Rw.putU ((o.fr fr3).fr fr2) ux (by omega)) ux (by omega), Rw.putU (Rw.putU ((o'.fr fr3).fr fr2) ux' (by omega)) ux' (by omega), Rw.putU (Rw.putU (((Rw.of (r := []) k2 (by rw [k3]; rfl) (by rw [List.append_nil])) : Rw intE H3 (some ⟨k, 0, none⟩) l).fr fr2) (Up.some k1) (by omega)) (Up.some k1) (by omega), Rw.putU (Rw.putU r uu (by omega)) uu (by omega), Rw.putU (Rw.putU r' uu' (by omega)) uu' (by omega), on, by (first | omega | (simp only [yz] <;> omega)), ?_, ?_, ?_, ?_, ?_, ?_, ?_, ?_, ?_, ?_⟩
 ·rw [get_put_ne (by omega), get_put_ne (by omega), s2 _ (by omega), s3 _ (by omega), s1 _ (by omega)]; simp (disch:=first|(simp only [yk,seval];done)|omega|(simp only [yz]<;>omega)|fail) only [yg,seval]
 ·rw [get_put_ne (by omega), get_put_same (by omega)]
 ·rw [get_put_same (by first|omega|(simp only [yz]<;>omega))]
 all_goals simp (disch:=first|(simp only [yk,seval];done)|omega|(simp only [yz]<;>omega)|fail) only [yg,seval]
end
end Go.Am.K
namespace Go.Am.K
open Go.Proofs
variable {T : Tab} {P : Program} {N L : Nat} {H H' H'' : AHeap} {Q : Bool → Value → AHeap → Prop}
section
variable {a a' al af ai x x' w u u' f2 i2 : Option Addr} {cap cap' cl cf ci c c' cw d d' cf2 ci2 : Nat} {ps : List Pk} {gs : List Gd} {lots : Int} {l fl il : List Int} {e e' : VT}
set_option maxHeartbeats 8000000 in
set_option maxRecDepth 10000 in
theorem c3x (I : FD H H' a cap a' cap' al cl x c x' c' w cw u d u' d' ps gs lots l af cf fl ai ci il e) (hl : ps.length ≤ 6) (hgl : gs.length ≤ 6) (hll : l.length ≤ 8) (hfl : fl.length ≤ 8) (hil : il.length ≤ 8)
  (hfr : Rw intE H af fl) (hir : Rw intE H ai il) (rf : Rw intE H' f2 fl) (ri : Rw intE H' i2 il) (g23 : gt 218 e 23 = .slice f2 fl.length cf2) (g24 : gt 218 e 24 = .slice i2 il.length ci2) :
  W tabA Tryz.prog (N + 8000) none (sub [true, true, true, true, true, true, true, true, true, true] (bodyOf Tryz.f3)) H.size ⟨218, e, H', []⟩ (retK tabA H.size [.tmp 8] fun u _ => u = .bool true) := by
 have sz := I.sz
 have g1 := I.g1
 have g2 := I.g2
 have g3 := I.g3
 have g4 := I.g4
 have g9 := I.g9
 have g10 := I.g10
 have g11 := I.g11
 have b4 := I.b4
 have b9 := I.b9
 have b11 := I.b11
 have sf := hfr.fr I.fr
 have si := hir.fr I.fr
 obtain ⟨kb, er, h18, h17⟩ : ∃ (kb : Bool) (er : Int), (∀ N, acall tabA (aexec tabA Tryz.prog (N + 800)) 18 [.agg ⟨[.slice x ps.length c, .slice x' gs.length c', .int .i64 lots]⟩, .slice w l.length cw, .slice f2 fl.length cf2, .slice i2 il.length ci2] H' = some (true, .tuple ⟨[.bool kb, .int .i64 er]⟩, H', H'.size)) ∧ ∀ N, acall tabA (aexec tabA Tryz.prog (N + 6000)) 17 [.agg ⟨[.slice u ps.length d, .slice u' gs.length d', .int .i64 lots]⟩, .slice al l.length cl, .slice af fl.length cf, .slice ai il.length ci] H' = some (true, .tuple ⟨[.bool kb, .int .i64 er]⟩, H', H'.size) := by
  by_cases he : lotE ps gs lots l = 0
  ·by_cases hn : fl.length = ps.length ∧ il.length = ps.length
   ·exact ⟨_, _, fun N => c41g (LtR.of I.o I.o' I.m he) rf ri hn.1 hn.2, fun N => z17 I.r I.r' I.t hll he sf si hn.1 hn.2⟩
   ·exact ⟨_, _, fun N => c41n (LtR.of I.o I.o' I.m he) hn, fun N => z17n (N := N + 5300) I.r I.r' I.t hll he hn⟩
  ·exact ⟨_, _, fun N => c41e (N := N + 300) I.o I.o' I.m hll he, fun N => z17e (N := N + 5300) I.r I.r' I.t hll he⟩
 obtain ⟨n1, er1, h19, h20⟩ : ∃ (n1 er1 : Int), (∀ N, acall tabA (aexec tabA Tryz.prog (N + 800)) 19 [.agg ⟨[.slice x ps.length c, .slice x' gs.length c', .int .i64 lots]⟩, .slice w l.length cw] H' = some (true, .tuple ⟨[.int .i64 n1, .int .i64 er1]⟩, H', H'.size)) ∧ ∀ N, acall tabA (aexec tabA Tryz.prog (N + 1700)) 20 [.agg ⟨[.slice u ps.length d, .slice u' gs.length d', .int .i64 lots]⟩, .slice al l.length cl] H' = some (true, .tuple ⟨[.int .i64 n1, .int .i64 er1]⟩, H', H'.size) := by
  by_cases he : lotE ps gs lots l = 0
  ·exact ⟨_, _, fun N => c38 (LtR.of I.o I.o' I.m he), fun N => z20 I.r I.r' I.t hll he⟩
  ·exact ⟨_, _, fun N => c38e (N := N + 300) I.o I.o' I.m hll he, fun N => z20e (N := N + 1000) I.r I.r' I.t hll he⟩
 obtain ⟨n2, er2, h21, h22⟩ : ∃ (n2 er2 : Int), (∀ N, acall tabA (aexec tabA Tryz.prog (N + 1000)) 21 [.agg ⟨[.slice x ps.length c, .slice x' gs.length c', .int .i64 lots]⟩, .slice w l.length cw] H' = some (true, .tuple ⟨[.int .i64 n2, .int .i64 er2]⟩, H', H'.size)) ∧ ∀ N, acall tabA (aexec tabA Tryz.prog (N + 1800)) 22 [.agg ⟨[.slice u ps.length d, .slice u' gs.length d', .int .i64 lots]⟩, .slice al l.length cl] H' = some (true, .tuple ⟨[.int .i64 n2, .int .i64 er2]⟩, H', H'.size) := by
  by_cases he : lotE ps gs lots l = 0
  ·exact ⟨_, _, fun N => c39 (LtR.of I.o I.o' I.m he), fun N => z22 I.r I.r' I.t hll he⟩
  ·exact ⟨_, _, fun N => c39e (N := N + 500) I.o I.o' I.m hll he, fun N => z22e (N := N + 1100) I.r I.r' I.t hll he⟩
 have hre : ∀ z : Int, decide (z = z) = true := fun z => by simp
 have r0 := hre er
 have r1 := hre er1
 have r2 := hre er2
 have r3 := hre n1
 have r4 := hre n2
 have h23 := fun (N : Nat) => c22 (N := N) (cap := c) (cap' := cap) (c1 := c') (c2 := cap') (lots := lots) I.o I.s I.o' I.s' (by omega) (by omega)
 have hm := fun (N : Nat) => c32 (N := N) (cap := cw) (cap' := cl) I.m I.t (by omega)
 have hmf := fun (N : Nat) => c32 (N := N) (cap := cf2) (cap' := cf) rf sf (by omega)
 have hmi := fun (N : Nat) => c32 (N := N) (cap := ci2) (cap' := ci) ri si (by omega)
 have haw := fun (N : Nat) (H : AHeap) => awake_known (ex := aexec tabA Tryz.prog N) (H := H)
 simp only [Tryz.f3,bodyOf,sub_nil,sub_seq0,sub_seq1,sub_block,sub_loop,sub_cond0,sub_cond1]
 simp (disch:=first|(simp only [yk,seval];done)|omega|(simp only [yz]<;>omega)|fail) only [↓yp,yA,ys0,ys1,seval,fitB,newC,endD,endR,yrg,g1,g2,g3,g4,g9,g10,g11,g23,g24,b9,b11,h18,h17,neB,r0]
 simp (disch:=first|(simp only [yk,seval];done)|omega|(simp only [yz]<;>omega)|fail) only [↓yp,yA,ys0,ys1,seval,fitB,newC,endD,endR,yrg,g1,g2,g3,g4,g9,g10,g11,g23,g24,b9,b11,h19,h20,r1,r3]
 simp (disch:=first|(simp only [yk,seval];done)|omega|(simp only [yz]<;>omega)|fail) only [↓yp,yA,ys0,ys1,seval,fitB,newC,endD,endR,yrg,g1,g2,g3,g4,g9,g10,g11,g23,g24,b4,b9,b11,h21,h22,r2,r4,h23,hm,hmf,hmi,haw]
end
end Go.Am.K
namespace Go.Am.K
open Go.Proofs
variable {T : Tab} {P : Program} {N L : Nat} {H H' H'' : AHeap} {Q : Bool → Value → AHeap → Prop}
section
variable {a a' al af ai x x' w u u' f2 i2 : Option Addr} {cap cap' cl cf ci c c' cw d d' cf2 ci2 : Nat} {ps : List Pk} {gs : List Gd} {lots : Int} {l fl il : List Int} {e e' : VT}
theorem FD.z (I : FD H H' a cap a' cap' al cl x c x' c' w cw u d u' d' ps gs lots l af cf fl ai ci il e) (f : Fr H' H'') (h : Keep 218 [1, 2, 3, 4, 9, 10, 11] e e') : FD H H'' a cap a' cap' al cl x c x' c' w cw u d u' d' ps gs lots l af cf fl ai ci il e' := I.next f h
set_option maxHeartbeats 8000000 in
set_option maxRecDepth 10000 in
theorem c3y (I : FD H H' a cap a' cap' al cl x c x' c' w cw u d u' d' ps gs lots l af cf fl ai ci il e) (hl : ps.length ≤ 6) (hgl : gs.length ≤ 6) (hll : l.length ≤ 8) (hfl : fl.length ≤ 8) (hil : il.length ≤ 8)
  (hfr : Rw intE H af fl) (hir : Rw intE H ai il) :
  W tabA Tryz.prog (N + 8100) none (sub [true, true, true, true, true, true, true, true, true] (bodyOf Tryz.f3)) H.size ⟨218, e, H', []⟩ (retK tabA H.size [.tmp 8] fun u _ => u = .bool true) := by
 have sz := I.sz
 have g2 := I.g2
 have g3 := I.g3
 have sf := hfr.fr I.fr
 have si := hir.fr I.fr
 obtain ⟨TL, hTL⟩ : ∃ c, sub [true, true, true, true, true, true, true, true, true, true] (bodyOf Tryz.f3) = c := ⟨_, rfl⟩
 have hend := fun (N : Nat) (H2 : AHeap) (e2 : VT) (f2 : Option Addr) (cf2 : Nat) (i2 : Option Addr) (ci2 : Nat) (I2 : FD H H2 a cap a' cap' al cl x c x' c' w cw u d u' d' ps gs lots l af cf fl ai ci il e2) (rf : Rw intE H2 f2 fl) (ri : Rw intE H2 i2 il) (g23 : gt 218 e2 23 = .slice f2 fl.length cf2) (g24 : gt 218 e2 24 = .slice i2 il.length ci2) => c3x (N := N) I2 hl hgl hll hfl hil hfr hir rf ri g23 g24
 rw [hTL] at hend
 simp only [Tryz.f3,bodyOf,sub_nil,sub_seq0,sub_seq1,sub_block,sub_loop,sub_cond0,sub_cond1] at hTL ⊢
 rw [hTL]
 clear hTL
 by_cases hf0 : fl = []
 ·subst hf0
  have h24 := fun (N : Nat) (H : AHeap) => c24n (N := N) (H := H) (a := af) (cap := cf)
  simp only [List.length_nil] at g2 hend
  by_cases hi0 : il = []
  ·subst hi0
   have h24' := fun (N : Nat) (H : AHeap) => c24n (N := N) (H := H) (a := ai) (cap := ci)
   simp only [List.length_nil] at g3 hend
   simp (disch:=first|(simp only [yk,seval];done)|omega|(simp only [yz]<;>omega)|fail) only [↓yp,yA,ys0,ys1,seval,fitB,newC,endD,endR,yrg,g2,g3,h24,h24']
   exact hend _ _ _ none 0 none 0 (I.z (by repeat first|exact Fr.refl _|assumption|refine Fr.allocd ?_ _|refine Fr.put ?_ (by first|omega|(simp only [yz]<;>omega)) _) (by (with_reducible repeat first|refine Keep.put ?_ (by decide)|refine Keep.none ?_|assumption|exact Keep.refl _ _ _))) Rw.nil Rw.nil (by simp (disch:=first|(simp only [yk,seval];done)|omega|(simp only [yz]<;>omega)|fail) only [yg,seval]) (by simp (disch:=first|(simp only [yk,seval];done)|omega|(simp only [yz]<;>omega)|fail) only [yg,seval])
  ·simp (disch:=first|(simp only [yk,seval];done)|omega|(simp only [yz]<;>omega)|fail) only [↓yp,yA,ys0,ys1,seval,fitB,newC,endD,endR,yrg,g2,g3,h24]
   refine c24 si hi0 (by omega) (by first|omega|(simp only [yz]<;>omega)) (by omega) ?_
   intro k ck H1 fr1 k1 k2 k3
   have f1 := fr1.size
   simp (disch:=first|(simp only [yk,seval];done)|omega|(simp only [yz]<;>omega)|fail) only [↓yp,yA,ys0,ys1,seval,fitB,newC,endD,endR,yrg]
   exact hend _ _ _ none 0 (some ⟨k, 0, none⟩) ck (I.z fr1 (by (with_reducible repeat first|refine Keep.put ?_ (by decide)|refine Keep.none ?_|assumption|exact Keep.refl _ _ _))) Rw.nil (Rw.of (r := []) k2 (by rw [k3]; rfl) (by rw [List.append_nil])) (by simp (disch:=first|(simp only [yk,seval];done)|omega|(simp only [yz]<;>omega)|fail) only [yg,seval]) (by simp (disch:=first|(simp only [yk,seval];done)|omega|(simp only [yz]<;>omega)|fail) only [yg,seval])
 ·simp (disch:=first|(simp only [yk,seval];done)|omega|(simp only [yz]<;>omega)|fail) only [↓yp,yA,ys0,ys1,seval,fitB,newC,endD,endR,yrg,g2,g3]
  refine c24 sf hf0 (by omega) (by first|omega|(simp only [yz]<;>omega)) (by omega) ?_
  intro k ck H1 fr1 k1 k2 k3
  have f1 := fr1.size
  have rk : Rw intE H1 (some ⟨k, 0, none⟩) fl := Rw.of (r := []) k2 (by rw [k3]; rfl) (by rw [List.append_nil])
  by_cases hi0 : il = []
  ·subst hi0
   have h24' := fun (N : Nat) (H : AHeap) => c24n (N := N) (H := H) (a := ai) (cap := ci)
   simp only [List.length_nil] at g3 hend
   simp (disch:=first|(simp only [yk,seval];done)|omega|(simp only [yz]<;>omega)|fail) only [↓yp,yA,ys0,ys1,seval,fitB,newC,endD,endR,yrg,g2,g3,h24',List.length_nil]
   exact hend _ _ _ (some ⟨k, 0, none⟩) ck none 0 (I.z fr1 (by (with_reducible repeat first|refine Keep.put ?_ (by decide)|refine Keep.none ?_|assumption|exact Keep.refl _ _ _))) rk Rw.nil (by simp (disch:=first|(simp only [yk,seval];done)|omega|(simp only [yz]<;>omega)|fail) only [yg,seval]) (by simp (disch:=first|(simp only [yk,seval];done)|omega|(simp only [yz]<;>omega)|fail) only [yg,seval])
  ·simp (disch:=first|(simp only [yk,seval];done)|omega|(simp only [yz]<;>omega)|fail) only [↓yp,yA,ys0,ys1,seval,fitB,newC,endD,endR,yrg,g2,g3]
   refine c24 (si.fr fr1) hi0 (by omega) (by first|omega|(simp only [yz]<;>omega)) (by omega) ?_
   intro k' ck' H2 fr2 k1' k2' k3'
   have f2 := fr2.size
   simp (disch:=first|(simp only [yk,seval];done)|omega|(simp only [yz]<;>omega)|fail) only [↓yp,yA,ys0,ys1,seval,fitB,newC,endD,endR,yrg]
   exact hend _ _ _ (some ⟨k, 0, none⟩) ck (some ⟨k', 0, none⟩) ck' (I.z (fr1.trans fr2) (by (with_reducible repeat first|refine Keep.put ?_ (by decide)|refine Keep.none ?_|assumption|exact Keep.refl _ _ _))) (rk.fr fr2) (Rw.of (r := []) k2' (by rw [k3']; rfl) (by rw [List.append_nil])) (by simp (disch:=first|(simp only [yk,seval];done)|omega|(simp only [yz]<;>omega)|fail) only [yg,seval]) (by simp (disch:=first|(simp only [yk,seval];done)|omega|(simp only [yz]<;>omega)|fail) only [yg,seval])
end
end Go.Am.K
namespace Go.Am.K
open Go.Proofs
variable {T : Tab} {P : Program} {N L : Nat} {H H' H'' : AHeap} {Q : Bool → Value → AHeap → Prop}
theorem tru_bad {ps : List Pk} {l : List Int} (hlo : LotOk ps l) (hk : ∀ p ∈ ps, p.Ok) (hs : ∀ p ∈ ps, p.f ≤ p.hi) : Tru ps l (ps.map Pk.hi) (fo false ps l) := by
 refine ⟨by simp, fo_len (by rw [hlo.len]; exact Nat.le_refl _), fun j p n f i a1 a2 a3 a4 => ?_⟩
 rw [List.getElem?_map, a1] at a3
 rw [fo_get a1 a2] at a4
 cases a3
 cases a4
 have h1 := hlo.ok j n p a2 a1
 obtain ⟨z1, z2, z3, z4⟩ := hk p (List.mem_of_getElem? a1)
 have h2 := hs p (List.mem_of_getElem? a1)
 have h3 : p.hi ≤ p.s := by unfold Pk.hi; split <;> omega
 show (p.f ≤ p.hi ∧ p.hi ≤ p.hi) ∧ (0 ≤ p.ih n ∧ p.ih n ≤ n) ∧ (0 ≤ p.hi - p.ih n ∧ p.hi - p.ih n ≤ p.s - n)
 unfold Pk.ih
 split <;> omega
section
variable {kq cq i5 b1 c1 b2 c2 b3 c3 b4 c4 i10 : Nat} {aq : Option Addr} {bq rs l : List Int} {ps : List Pk} {gs : List Gd} {lots lo hi sv : Int} {e e' : VT}
end
end Go.Am.K
