import Derived.Test.YtehkjjgpgnejnaaT47
set_option linter.unusedSimpArgs false
set_option linter.unusedVariables false
namespace Go.Am.K
open Go.Proofs
variable {T : Tab} {P : Program} {N L : Nat} {H H' H'' : AHeap} {Q : Bool → Value → AHeap → Prop}
section
variable {a a' al : Option Addr} {cap cap' cl : Nat} {ps : List Pk} {gs : List Gd} {lots y z : Int} {l : List Int}
set_option maxHeartbeats 8000000 in
set_option maxRecDepth 10000 in
theorem c4 (hs : Rw pkE H a ps) (hgs : Rw gdE H a' gs) (hlr : Rw intE H al l) :
  acall tabA (aexec tabA Try.prog (N + 4700)) 4 [.agg ⟨[.slice a ps.length cap, .slice a' gs.length cap', .int .i64 lots]⟩, .slice al l.length cl, .int .i64 y, .int .i64 z] H = some (true, .bool true, H, H.size) := by
 refine call_quiet (k := 119) (rs := [.tmp 8]) rfl fn_4 rfl rfl rfl ?_ rfl
 have haw := fun (N : Nat) (H : AHeap) => awake_known (ex := aexec tabA Try.prog N) (H := H)
 have h12 := fun (N : Nat) (H : AHeap) => c12 (N := N) (H := H) (a := a) (a' := a') (cap := cap) (cap' := cap') (ps := ps) (gs := gs) (lo := .int .i64 lots)
 cases hlong : decide (6 < (ps.length : Int)) || decide (6 < (gs.length : Int))
 rotate_left
 ·rw [hlong] at h12
  simp (disch:=first|(simp only [yk,seval];done)|omega|(simp only [yz]<;>omega)|fail) only [↓yp,yq0,yq1,yq2,yq3,yq4,yl,ys0,ys1,seval,fitB,newC,endD,endR,yrg,h12,haw]
 rw [hlong] at h12
 simp only [Bool.or_eq_false_iff,decide_eq_false_iff_not] at hlong
 cases h8 : decide (8 < (l.length : Int))
 rotate_left
 ·simp (disch:=first|(simp only [yk,seval];done)|omega|(simp only [yz]<;>omega)|fail) only [↓yp,yq0,yq1,yq2,yq3,yq4,yl,ys0,ys1,seval,fitB,newC,endD,endR,yrg,h12,lenV_slice st_esS_49,h8,haw]
 have h8' := of_decide_eq_false h8
 have hl : ps.length ≤ 6 := by omega
 have hgl : gs.length ≤ 6 := by omega
 have hll : l.length ≤ 8 := by omega
 obtain ⟨TL, hTL⟩ : ∃ c, sub [true, true, true] (bodyOf Try.f4) = c := ⟨_, rfl⟩
 have hend := fun (H' : AHeap) (e : VT) (x : Option Addr) (c : Nat) (x' : Option Addr) (c' : Nat) (w : Option Addr) (cw : Nat) (u : Option Addr) (d : Nat) (u' : Option Addr) (d' : Nat) (I : BD H H' a cap a' cap' al cl x c x' c' w cw u d u' d' ps gs lots l y z e) => c4b (N := N + 97) I hl hgl hll
 rw [hTL] at hend
 simp only [Try.f4,bodyOf,sub_nil,sub_seq0,sub_seq1,sub_block,sub_loop,sub_cond0,sub_cond1] at hTL
 rw [hTL]
 clear hTL
 have fr0 : Fr H (((H.alloc (.rw [.slice a ps.length cap, .slice a' gs.length cap', .int .i64 lots] 25 false [])).alloc (.rw [.slice none 0 0, .slice none 0 0, .int .i64 0] 25 false [])).alloc (.rw [.slice none 0 0, .slice none 0 0, .int .i64 0] 32 false [])) := by (repeat (first | exact Fr.refl _ | assumption | refine Fr.allocd ?_ _ | refine Fr.put ?_ (by first | omega | (simp only [yz] <;> omega)) _))
 by_cases hne : ps = [] ∧ gs = []
 ·obtain ⟨rfl, rfl⟩ := hne
  have h14 := fun (N : Nat) (H : AHeap) => c14n (N := N) (H := H) (a := a) (a' := a') (cap := cap) (cap' := cap') (lots := lots)
  have h15 := fun (N : Nat) (H : AHeap) => c15n (N := N) (H := H) (a := a) (a' := a') (cap := cap) (cap' := cap') (lots := lots)
  simp only [List.length_nil] at h12 fr0 ⊢
  by_cases hl0 : l = []
  ·subst hl0
   have h24 := fun (N : Nat) (H : AHeap) => c24n (N := N) (H := H) (a := al) (cap := cl)
   simp only [List.length_nil] at h8 ⊢
   simp (disch:=first|(simp only [yk,seval];done)|omega|(simp only [yz]<;>omega)|fail) only [↓yp,yq0,yq1,yq2,yq3,yq4,yl,ys0,ys1,seval,fitB,newC,endD,endR,yrg,h12,lenV_slice st_esS_49,h8]
   refine W_drawR (pl := [(6, .rw [.slice none 0 0, .slice none 0 0, .int .i64 0] 25 false []), (7, .rw [.slice none 0 0, .slice none 0 0, .int .i64 0] 32 false [])]) [8, 10] [(0, 1), (0, 2), (1, 1), (1, 2), (4, 2), (5, 2), (6, 1), (6, 2), (7, 2)] (planK_of rfl) (by kernel_rfl) (by kernel_rfl) (by kernel_rfl) (by first|omega|(simp only [yz]<;>omega)) ?_
   simp (disch:=first|(simp only [yk,seval];done)|omega|(simp only [yz]<;>omega)|fail) only [↓yp,yq0,yq1,yq2,yq3,yq4,yl,ys0,ys1,seval,fitB,newC,endD,endR,yrg,h14,h15,h24]
   refine hend _ _ none 0 none 0 none 0 none 0 none 0 ⟨Rw.nil, Rw.nil, Rw.nil, Rw.nil, Rw.nil, Rw.nil, Rw.nil, Rw.nil, fun _ => ⟨rfl, rfl⟩, by (first | omega | (simp only [yz] <;> omega)), ?_, ?_, ?_, ?_, ?_, ?_, ?_, ?_, ?_, ?_⟩
   all_goals simp (disch:=first|(simp only [yk,seval];done)|omega|(simp only [yz]<;>omega)|fail) only [yg,seval,List.length_nil]
  simp (disch:=first|(simp only [yk,seval];done)|omega|(simp only [yz]<;>omega)|fail) only [↓yp,yq0,yq1,yq2,yq3,yq4,yl,ys0,ys1,seval,fitB,newC,endD,endR,yrg,h12,lenV_slice st_esS_49,h8]
  refine W_drawR (pl := [(6, .rw [.slice none 0 0, .slice none 0 0, .int .i64 0] 25 false []), (7, .rw [.slice none 0 0, .slice none 0 0, .int .i64 0] 32 false [])]) [3, 8, 10] [(0, 1), (0, 2), (0, 3), (1, 1), (1, 2), (1, 3), (4, 3), (5, 3), (6, 2), (6, 3), (7, 3)] (planK_of rfl) (by kernel_rfl) (by kernel_rfl) (by kernel_rfl) (by first|omega|(simp only [yz]<;>omega)) ?_
  simp (disch:=first|(simp only [yk,seval];done)|omega|(simp only [yz]<;>omega)|fail) only [↓yp,yq0,yq1,yq2,yq3,yq4,yl,ys0,ys1,seval,fitB,newC,endD,endR,yrg,h14,h15]
  refine c24 (hlr.fr fr0) hl0 (by omega) (by first|omega|(simp only [yz]<;>omega)) (by omega) ?_
  intro k cw H1 fr1 k1 k2 k3
  have f1 := fr1.size
  have s1 := fr1.same
  simp only [size_alloc] at f1 s1 k1
  simp (disch:=first|(simp only [yk,seval];done)|omega|(simp only [yz]<;>omega)|fail) only [↓yp,yq0,yq1,yq2,yq3,yq4,yl,ys0,ys1,seval,fitB,newC,endD,endR,yrg,s1,h14,h15,newK_alloc]
  have hF : Fr H ((H1.put (H.size + 1) (.rw [.slice none 0 0, .slice none 0 0, .int .i64 lots] 25 false [])).put (H.size + 1 + 1) (.rw [.slice none 0 0, .slice none 0 0, .int .i64 lots] 32 false [])) := Fr.put (Fr.put (fr0.trans fr1) (by omega) _) (by omega) _
  refine hend _ _ none 0 none 0 (some ⟨k, 0, none⟩) cw none 0 none 0 ⟨Rw.nil, Rw.nil, hlr.fr hF, Rw.nil, Rw.nil, Rw.putU (Rw.putU (Rw.of (r := []) k2 (by rw [k3]; rfl) (by rw [List.append_nil])) (Up.some k1) (by omega)) (Up.some k1) (by omega), Rw.nil, Rw.nil, fun _ => ⟨rfl, rfl⟩, by (first | omega | (simp only [yz] <;> omega)), ?_, ?_, ?_, ?_, ?_, ?_, ?_, ?_, ?_, ?_⟩
  ·rw [get_put_ne (by omega), get_put_ne (by omega), s1 _ (by omega)]; simp (disch:=first|(simp only [yk,seval];done)|omega|(simp only [yz]<;>omega)|fail) only [yg,seval,List.length_nil]
  ·rw [get_put_ne (by omega), get_put_same (by omega)]; rfl
  ·rw [get_put_same (by first|omega|(simp only [yz]<;>omega))]; rfl
  all_goals simp (disch:=first|(simp only [yk,seval];done)|omega|(simp only [yz]<;>omega)|fail) only [yg,seval,List.length_nil]
 have hne' : ps ≠ [] ∨ gs ≠ [] := by
  by_cases h : ps = []
  ·exact .inr fun h' => hne ⟨h, h'⟩
  ·exact .inl h
 by_cases hl0 : l = []
 ·subst hl0
  have h24 := fun (N : Nat) (H : AHeap) => c24n (N := N) (H := H) (a := al) (cap := cl)
  simp only [List.length_nil] at h8 ⊢
  simp (disch:=first|(simp only [yk,seval];done)|omega|(simp only [yz]<;>omega)|fail) only [↓yp,yq0,yq1,yq2,yq3,yq4,yl,ys0,ys1,seval,fitB,newC,endD,endR,yrg,h12,lenV_slice st_esS_49,h8]
  refine W_drawR (pl := [(6, .rw [.slice none 0 0, .slice none 0 0, .int .i64 0] 25 false []), (7, .rw [.slice none 0 0, .slice none 0 0, .int .i64 0] 32 false [])]) [1, 5, 8, 10] [(0, 1), (0, 2), (0, 3), (0, 4), (4, 2), (4, 3), (4, 4), (6, 3), (6, 4), (7, 4)] (planK_of rfl) (by kernel_rfl) (by kernel_rfl) (by kernel_rfl) (by first|omega|(simp only [yz]<;>omega)) ?_
  simp (disch:=first|(simp only [yk,seval];done)|omega|(simp only [yz]<;>omega)|fail) only [↓yp,yq0,yq1,yq2,yq3,yq4,yl,ys0,ys1,seval,fitB,newC,endD,endR,yrg]
  refine c14 (hs.fr (by repeat first|exact Fr.refl _|assumption|refine Fr.allocd ?_ _|refine Fr.put ?_ (by first|omega|(simp only [yz]<;>omega)) _)) (hgs.fr (by repeat first|exact Fr.refl _|assumption|refine Fr.allocd ?_ _|refine Fr.put ?_ (by first|omega|(simp only [yz]<;>omega)) _)) hl hgl hne' (by first|omega|(simp only [yz]<;>omega)) (by omega) ?_
  intro x c x' c' H1 fr1 hx on ux ux' o o'
  have f1 := fr1.size
  have s1 := fr1.same
  simp only [size_alloc] at f1 s1
  have h1 : oneCells [.slice x ps.length c, .slice x' gs.length c', .int .i64 lots] = true := by cases x <;> cases x' <;> rfl
  have f01 : Fr H H1 := fr0.trans fr1
  simp (disch:=first|(simp only [yk,seval];done)|omega|(simp only [yz]<;>omega)|fail) only [↓yp,yq0,yq1,yq2,yq3,yq4,yl,ys0,ys1,seval,fitB,newC,endD,endR,yrg,s1,h1,h24]
  refine c15 (hs.fr f01) (hgs.fr f01) hl hgl hne' (by first|omega|(simp only [yz]<;>omega)) (by omega) ?_
  intro u d u' d' H2 fr2 hu uu uu' r r'
  have f2 := fr2.size
  have s2 := fr2.same
  have h2 : oneCells [.slice u ps.length d, .slice u' gs.length d', .int .i64 lots] = true := by cases u <;> cases u' <;> rfl
  simp (disch:=first|(simp only [yk,seval];done)|omega|(simp only [yz]<;>omega)|fail) only [↓yp,yq0,yq1,yq2,yq3,yq4,yl,ys0,ys1,seval,fitB,newC,endD,endR,yrg,s2,s1,h1,h2,h24,newK_alloc]
  simp only [size_alloc] at ux ux'
  have hF : Fr H ((H2.put (H.size + 1) (.rw [.slice x ps.length c, .slice x' gs.length c', .int .i64 lots] 25 false [])).put (H.size + 1 + 1) (.rw [.slice u ps.length d, .slice u' gs.length d', .int .i64 lots] 32 false [])) := Fr.put (Fr.put (f01.trans fr2) (by omega) _) (by omega) _
  refine hend _ _ x c x' c' none 0 u d u' d' ⟨hs.fr hF, hgs.fr hF, Rw.nil, Rw.putU (Rw.putU (o.fr fr2) ux (by omega)) ux (by omega), Rw.putU (Rw.putU (o'.fr fr2) ux' (by omega)) ux' (by omega), Rw.nil, Rw.putU (Rw.putU r uu (by omega)) uu (by omega), Rw.putU (Rw.putU r' uu' (by omega)) uu' (by omega), on, by (first | omega | (simp only [yz] <;> omega)), ?_, ?_, ?_, ?_, ?_, ?_, ?_, ?_, ?_, ?_⟩
  ·rw [get_put_ne (by omega), get_put_ne (by omega), s2 _ (by omega), s1 _ (by omega)]; simp (disch:=first|(simp only [yk,seval];done)|omega|(simp only [yz]<;>omega)|fail) only [yg,seval]
  ·rw [get_put_ne (by omega), get_put_same (by omega)]
  ·rw [get_put_same (by first|omega|(simp only [yz]<;>omega))]
  all_goals simp (disch:=first|(simp only [yk,seval];done)|omega|(simp only [yz]<;>omega)|fail) only [yg,seval,List.length_nil]
 simp (disch:=first|(simp only [yk,seval];done)|omega|(simp only [yz]<;>omega)|fail) only [↓yp,yq0,yq1,yq2,yq3,yq4,yl,ys0,ys1,seval,fitB,newC,endD,endR,yrg,h12,lenV_slice st_esS_49,h8]
 refine W_drawR (pl := [(6, .rw [.slice none 0 0, .slice none 0 0, .int .i64 0] 25 false []), (7, .rw [.slice none 0 0, .slice none 0 0, .int .i64 0] 32 false [])]) [1, 3, 5, 8, 10] [(0, 1), (0, 2), (0, 3), (0, 4), (0, 5), (4, 3), (4, 4), (4, 5), (6, 4), (6, 5), (7, 5)] (planK_of rfl) (by kernel_rfl) (by kernel_rfl) (by kernel_rfl) (by first|omega|(simp only [yz]<;>omega)) ?_
 simp (disch:=first|(simp only [yk,seval];done)|omega|(simp only [yz]<;>omega)|fail) only [↓yp,yq0,yq1,yq2,yq3,yq4,yl,ys0,ys1,seval,fitB,newC,endD,endR,yrg]
 refine c14 (hs.fr (by repeat first|exact Fr.refl _|assumption|refine Fr.allocd ?_ _|refine Fr.put ?_ (by first|omega|(simp only [yz]<;>omega)) _)) (hgs.fr (by repeat first|exact Fr.refl _|assumption|refine Fr.allocd ?_ _|refine Fr.put ?_ (by first|omega|(simp only [yz]<;>omega)) _)) hl hgl hne' (by first|omega|(simp only [yz]<;>omega)) (by omega) ?_
 intro x c x' c' H1 fr1 hx on ux ux' o o'
 have f1 := fr1.size
 have s1 := fr1.same
 simp only [size_alloc] at f1 s1
 have h1 : oneCells [.slice x ps.length c, .slice x' gs.length c', .int .i64 lots] = true := by cases x <;> cases x' <;> rfl
 have f01 : Fr H H1 := fr0.trans fr1
 simp (disch:=first|(simp only [yk,seval];done)|omega|(simp only [yz]<;>omega)|fail) only [↓yp,yq0,yq1,yq2,yq3,yq4,yl,ys0,ys1,seval,fitB,newC,endD,endR,yrg,s1,h1]
 refine c24 (hlr.fr f01) hl0 (by omega) (by first|omega|(simp only [yz]<;>omega)) (by omega) ?_
 intro k cw H3 fr3 k1 k2 k3
 have f3 := fr3.size
 have s3 := fr3.same
 have f03 : Fr H H3 := f01.trans fr3
 simp (disch:=first|(simp only [yk,seval];done)|omega|(simp only [yz]<;>omega)|fail) only [↓yp,yq0,yq1,yq2,yq3,yq4,yl,ys0,ys1,seval,fitB,newC,endD,endR,yrg,s3,s1,h1]
 refine c15 (hs.fr f03) (hgs.fr f03) hl hgl hne' (by first|omega|(simp only [yz]<;>omega)) (by omega) ?_
 intro u d u' d' H2 fr2 hu uu uu' r r'
 have f2 := fr2.size
 have s2 := fr2.same
 have h2 : oneCells [.slice u ps.length d, .slice u' gs.length d', .int .i64 lots] = true := by cases u <;> cases u' <;> rfl
 simp (disch:=first|(simp only [yk,seval];done)|omega|(simp only [yz]<;>omega)|fail) only [↓yp,yq0,yq1,yq2,yq3,yq4,yl,ys0,ys1,seval,fitB,newC,endD,endR,yrg,s2,s3,s1,h1,h2,newK_alloc]
 simp only [size_alloc] at ux ux'
 have hF : Fr H ((H2.put (H.size + 1) (.rw [.slice x ps.length c, .slice x' gs.length c', .int .i64 lots] 25 false [])).put (H.size + 1 + 1) (.rw [.slice u ps.length d, .slice u' gs.length d', .int .i64 lots] 32 false [])) := Fr.put (Fr.put (f03.trans fr2) (by omega) _) (by omega) _
 refine hend _ _ x c x' c' (some ⟨k, 0, none⟩) cw u d u' d' ⟨hs.fr hF, hgs.fr hF, hlr.fr hF, Rw.putU (Rw.putU ((o.fr fr3).fr fr2) ux (by omega)) ux (by omega), Rw.putU (Rw.putU ((o'.fr fr3).fr fr2) ux' (by omega)) ux' (by omega), Rw.putU (Rw.putU (((Rw.of (r := []) k2 (by rw [k3]; rfl) (by rw [List.append_nil])) : Rw intE H3 (some ⟨k, 0, none⟩) l).fr fr2) (Up.some k1) (by omega)) (Up.some k1) (by omega), Rw.putU (Rw.putU r uu (by omega)) uu (by omega), Rw.putU (Rw.putU r' uu' (by omega)) uu' (by omega), on, by (first | omega | (simp only [yz] <;> omega)), ?_, ?_, ?_, ?_, ?_, ?_, ?_, ?_, ?_, ?_⟩
 ·rw [get_put_ne (by omega), get_put_ne (by omega), s2 _ (by omega), s3 _ (by omega), s1 _ (by omega)]; simp (disch:=first|(simp only [yk,seval];done)|omega|(simp only [yz]<;>omega)|fail) only [yg,seval]
 ·rw [get_put_ne (by omega), get_put_same (by omega)]
 ·rw [get_put_same (by first|omega|(simp only [yz]<;>omega))]
 all_goals simp (disch:=first|(simp only [yk,seval];done)|omega|(simp only [yz]<;>omega)|fail) only [yg,seval]
end
end Go.Am.K
