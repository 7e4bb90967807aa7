import Derived.Test.YtjpcaamfcfkmhaaT48
set_option linter.unusedSimpArgs false
set_option linter.unusedVariables false
namespace Go.Am.K
open Go.Proofs
variable {T : Tab} {P : Program} {N L : Nat} {H H' H'' : AHeap} {Q : Bool → Value → AHeap → Prop}
section
variable {a a' x x' u u' : Option Addr} {cap cap' c c' d d' : Nat} {ps : List Pk} {gs : List Gd} {lots n y z : Int} {e e' : VT}
set_option maxHeartbeats 8000000 in
set_option maxRecDepth 10000 in
theorem c3b (I : SD H H' a cap a' cap' x c x' c' u d u' d' ps gs lots n y z e) (hl : ps.length ≤ 6) (hgl : gs.length ≤ 6) :
  W tabA Try.prog (N + 1900) none (sub [true, true, true] (bodyOf Try.f3)) H.size ⟨85, e, H', []⟩ (retK tabA H.size [.tmp 8] fun u _ => u = .bool true) := by
 have sz := I.sz
 have g1 := I.g1
 have g2 := I.g2
 have g3 := I.g3
 have g4 := I.g4
 have g9 := I.g9
 have g10 := I.g10
 have b4 := I.b4
 have b9 := I.b9
 have b10 := I.b10
 have h16 := fun (N : Nat) => c16 (N := N) (cap := c) (cap' := c') (lots := lots) I.o I.o'
 have h17 := fun (N : Nat) => c17 (N := N) (cap := d) (cap' := d') (lots := lots) I.r I.r'
 obtain ⟨lo, hi, er, h18, h19⟩ : ∃ lo hi er : Int, (∀ (N : Nat) (H2 : AHeap), Fr H' H2 → acall tabA (aexec tabA Try.prog (N + 450)) 18 [.agg ⟨[.slice x ps.length c, .slice x' gs.length c', .int .i64 lots]⟩, .int .i64 n] H2 = some (true, .tuple ⟨[.agg ⟨[.int .i64 lo, .int .i64 hi]⟩, .int .i64 er]⟩, H2, H2.size)) ∧ ∀ (N : Nat) (H2 : AHeap), Fr H' H2 → acall tabA (aexec tabA Try.prog (N + 600)) 19 [.agg ⟨[.slice u ps.length d, .slice u' gs.length d', .int .i64 lots]⟩, .int .i64 n] H2 = some (true, .tuple ⟨[.agg ⟨[.int .i64 lo, .int .i64 hi]⟩, .int .i64 er]⟩, H2, H2.size) := by
  by_cases he : askP ps gs lots n = 0
  ·obtain ⟨hA, hB⟩ := askP_ok he
   have hst := chkS_ok (of_decide_eq_true hA)
   unfold wi at hB
   simp only [Bool.and_eq_true,decide_eq_true_eq] at hB
   obtain ⟨i, rfl⟩ : ∃ i : Nat, n = i := ⟨n.toNat, by omega⟩
   have hi : i < ps.length := by omega
   have hp : ps[i]? = some ps[i] := by simp [hi]
   have hok : (ps[i]).Ok := Pk.isB_ok (List.all_eq_true.1 hst.pb _ (List.getElem_mem hi))
   exact ⟨_, _, _, fun N H2 f => K.c18 (I.o.fr f) (I.o'.fr f) (by omega) he hp hok, fun N H2 f => c19 (I.r.fr f) (I.r'.fr f) (by omega) he hp hok (hst.sp _ (List.getElem_mem hi))⟩
  ·exact ⟨_, _, _, fun N H2 f => c18e (I.o.fr f) (I.o'.fr f) (by omega) he, fun N H2 f => c19e (I.r.fr f) (I.r'.fr f) (by omega) he⟩
 have hre : decide (er = er) = true := by simp
 have hck : decide (chkS ps gs lots = chkS ps gs lots) = true := by simp
 simp only [Try.f3,bodyOf,sub_nil,sub_seq0,sub_seq1,sub_block,sub_loop,sub_cond0,sub_cond1]
 obtain ⟨TL, hTL⟩ : ∃ c, sub [true, true, true, true, true, true, true] (bodyOf Try.f3) = c := ⟨_, rfl⟩
 simp only [Try.f3,bodyOf,sub_nil,sub_seq0,sub_seq1,sub_block,sub_loop,sub_cond0,sub_cond1] at hTL
 rw [hTL]
 simp (disch:=first|(simp only [yk,seval];done)|omega|(simp only [yz]<;>omega)|fail) only [↓yp,yq0,yq1,yq2,yq3,yq4,yl,ys0,ys1,seval,fitB,newC,endD,endR,yrg,g9,g10]
 refine W_draw [] rfl (by kernel_rfl) (by kernel_rfl) (by first|omega|(simp only [yz]<;>omega)) ?_
 simp (disch:=first|(simp only [yk,seval];done)|omega|(simp only [yz]<;>omega)|fail) only [↓yp,yq0,yq1,yq2,yq3,yq4,yl,ys0,ys1,seval,fitB,newC,endD,endR,yrg,g1,g9,g10,b9,b10,h16,h17,hck]
 rw [h18 _ _ (by repeat first|exact Fr.refl _|assumption|refine Fr.allocd ?_ _|refine Fr.put ?_ (by first|omega|(simp only [yz]<;>omega)) _)]
 simp (disch:=first|(simp only [yk,seval];done)|omega|(simp only [yz]<;>omega)|fail) only [↓yp,yq0,yq1,yq2,yq3,yq4,yl,ys0,ys1,seval,fitB,newC,endD,endR,yrg,g10,b10,g1]
 rw [h19 _ _ (by repeat first|exact Fr.refl _|assumption|refine Fr.allocd ?_ _|refine Fr.put ?_ (by first|omega|(simp only [yz]<;>omega)) _)]
 simp (disch:=first|(simp only [yk,seval];done)|omega|(simp only [yz]<;>omega)|fail) only [↓yp,yq0,yq1,yq2,yq3,yq4,yl,ys0,ys1,seval,fitB,newC,endD,endR,yrg,neq38,hre,g1,g2,g3,g9,b9]
 subst hTL
 by_cases he : askP ps gs lots n = 0
 ·obtain ⟨hA, hB⟩ := askP_ok he
  have hst := chkS_ok (of_decide_eq_true hA)
  unfold wi at hB
  simp only [Bool.and_eq_true,decide_eq_true_eq] at hB
  obtain ⟨i, rfl⟩ : ∃ i : Nat, n = i := ⟨n.toNat, by omega⟩
  have hi : i < ps.length := by omega
  have hp : ps[i]? = some ps[i] := by simp [hi]
  have hok : (ps[i]).Ok := Pk.isB_ok (List.all_eq_true.1 hst.pb _ (List.getElem_mem hi))
  cases hyz : wi y 0 (ps[i].s - ps[i].o) && wi z 0 y
  ·exact c3e (N := N + 96) (I.next (by repeat first|exact Fr.refl _|assumption|refine Fr.allocd ?_ _|refine Fr.put ?_ (by first|omega|(simp only [yz]<;>omega)) _) (by (with_reducible repeat first|refine Keep.put ?_ (by decide)|refine Keep.none ?_|assumption|exact Keep.refl _ _ _))) hl hgl (fun N H2 f => c20b ((I.o.fr (by repeat first|exact Fr.refl _|assumption|refine Fr.allocd ?_ _|refine Fr.put ?_ (by first|omega|(simp only [yz]<;>omega)) _)).fr f) ((I.o'.fr (by repeat first|exact Fr.refl _|assumption|refine Fr.allocd ?_ _|refine Fr.put ?_ (by first|omega|(simp only [yz]<;>omega)) _)).fr f) hl he hp hok hyz) (fun N H2 f => c21b ((I.r.fr (by repeat first|exact Fr.refl _|assumption|refine Fr.allocd ?_ _|refine Fr.put ?_ (by first|omega|(simp only [yz]<;>omega)) _)).fr f) ((I.r'.fr (by repeat first|exact Fr.refl _|assumption|refine Fr.allocd ?_ _|refine Fr.put ?_ (by first|omega|(simp only [yz]<;>omega)) _)).fr f) hl he hp hok hyz)
  ·rw [Bool.and_eq_true] at hyz
   by_cases hd : (opn ps[i] y z).hi < (opn ps[i] y z).f
   ·exact c3e (N := N + 96) (I.next (by repeat first|exact Fr.refl _|assumption|refine Fr.allocd ?_ _|refine Fr.put ?_ (by first|omega|(simp only [yz]<;>omega)) _) (by (with_reducible repeat first|refine Keep.put ?_ (by decide)|refine Keep.none ?_|assumption|exact Keep.refl _ _ _))) hl hgl (fun N H2 f => c20d ((I.o.fr (by repeat first|exact Fr.refl _|assumption|refine Fr.allocd ?_ _|refine Fr.put ?_ (by first|omega|(simp only [yz]<;>omega)) _)).fr f) ((I.o'.fr (by repeat first|exact Fr.refl _|assumption|refine Fr.allocd ?_ _|refine Fr.put ?_ (by first|omega|(simp only [yz]<;>omega)) _)).fr f) I.on hl hgl he hp hok hyz.1 hyz.2 hd) (fun N H2 f => c21d ((I.r.fr (by repeat first|exact Fr.refl _|assumption|refine Fr.allocd ?_ _|refine Fr.put ?_ (by first|omega|(simp only [yz]<;>omega)) _)).fr f) ((I.r'.fr (by repeat first|exact Fr.refl _|assumption|refine Fr.allocd ?_ _|refine Fr.put ?_ (by first|omega|(simp only [yz]<;>omega)) _)).fr f) hl hgl he hp hok hyz.1 hyz.2 hd)
   ·exact c3o (N := N + 96) (I.next (by repeat first|exact Fr.refl _|assumption|refine Fr.allocd ?_ _|refine Fr.put ?_ (by first|omega|(simp only [yz]<;>omega)) _) (by (with_reducible repeat first|refine Keep.put ?_ (by decide)|refine Keep.none ?_|assumption|exact Keep.refl _ _ _))) hl hgl he hp hok hyz.1 hyz.2 hd
 ·exact c3e (N := N + 96) (I.next (by repeat first|exact Fr.refl _|assumption|refine Fr.allocd ?_ _|refine Fr.put ?_ (by first|omega|(simp only [yz]<;>omega)) _) (by (with_reducible repeat first|refine Keep.put ?_ (by decide)|refine Keep.none ?_|assumption|exact Keep.refl _ _ _))) hl hgl (fun N H2 f => c20a ((I.o.fr (by repeat first|exact Fr.refl _|assumption|refine Fr.allocd ?_ _|refine Fr.put ?_ (by first|omega|(simp only [yz]<;>omega)) _)).fr f) ((I.o'.fr (by repeat first|exact Fr.refl _|assumption|refine Fr.allocd ?_ _|refine Fr.put ?_ (by first|omega|(simp only [yz]<;>omega)) _)).fr f) hl he) (fun N H2 f => c21a ((I.r.fr (by repeat first|exact Fr.refl _|assumption|refine Fr.allocd ?_ _|refine Fr.put ?_ (by first|omega|(simp only [yz]<;>omega)) _)).fr f) ((I.r'.fr (by repeat first|exact Fr.refl _|assumption|refine Fr.allocd ?_ _|refine Fr.put ?_ (by first|omega|(simp only [yz]<;>omega)) _)).fr f) hl he)
set_option maxHeartbeats 8000000 in
set_option maxRecDepth 10000 in
theorem c3 (hs : Rw pkE H a ps) (hgs : Rw gdE H a' gs) :
  acall tabA (aexec tabA Try.prog (N + 2000)) 3 [.agg ⟨[.slice a ps.length cap, .slice a' gs.length cap', .int .i64 lots]⟩, .int .i64 n, .int .i64 y, .int .i64 z] H = some (true, .bool true, H, H.size) := by
 refine call_quiet (k := 85) (rs := [.tmp 8]) rfl fn_3 rfl rfl rfl ?_ rfl
 have haw := fun (N : Nat) (H : AHeap) => awake_known (ex := aexec tabA Try.prog N) (H := H)
 have h12 := fun (N : Nat) (H : AHeap) => c12 (N := N) (H := H) (a := a) (a' := a') (cap := cap) (cap' := cap') (ps := ps) (gs := gs) (lo := .int .i64 lots)
 cases hlong : decide (6 < (ps.length : Int)) || decide (6 < (gs.length : Int))
 rotate_left
 ·rw [hlong] at h12
  simp (disch:=first|(simp only [yk,seval];done)|omega|(simp only [yz]<;>omega)|fail) only [↓yp,yq0,yq1,yq2,yq3,yq4,yl,ys0,ys1,seval,fitB,newC,endD,endR,yrg,h12,haw]
 rw [hlong] at h12
 simp only [Bool.or_eq_false_iff,decide_eq_false_iff_not] at hlong
 have hl : ps.length ≤ 6 := by omega
 have hgl : gs.length ≤ 6 := by omega
 obtain ⟨TL, hTL⟩ : ∃ c, sub [true, true, true] (bodyOf Try.f3) = c := ⟨_, rfl⟩
 have hend := fun (H' : AHeap) (e : VT) (x : Option Addr) (c : Nat) (x' : Option Addr) (c' : Nat) (u : Option Addr) (d : Nat) (u' : Option Addr) (d' : Nat) (I : SD H H' a cap a' cap' x c x' c' u d u' d' ps gs lots n y z e) => c3b (N := N + 97) I hl hgl
 rw [hTL] at hend
 simp only [Try.f3,bodyOf,sub_nil,sub_seq0,sub_seq1,sub_block,sub_loop,sub_cond0,sub_cond1] at hTL
 rw [hTL]
 clear hTL
 have fr0 : Fr H (((H.alloc (.rw [.slice a ps.length cap, .slice a' gs.length cap', .int .i64 lots] 25 false [])).alloc (.rw [.slice none 0 0, .slice none 0 0, .int .i64 0] 25 false [])).alloc (.rw [.slice none 0 0, .slice none 0 0, .int .i64 0] 32 false [])) := by (repeat (first | exact Fr.refl _ | assumption | refine Fr.allocd ?_ _ | refine Fr.put ?_ (by first | omega | (simp only [yz] <;> omega)) _))
 by_cases hne : ps = [] ∧ gs = []
 ·obtain ⟨rfl, rfl⟩ := hne
  have h14 := fun (N : Nat) (H : AHeap) => c14n (N := N) (H := H) (a := a) (a' := a') (cap := cap) (cap' := cap') (lots := lots)
  have h15 := fun (N : Nat) (H : AHeap) => c15n (N := N) (H := H) (a := a) (a' := a') (cap := cap) (cap' := cap') (lots := lots)
  simp only [List.length_nil] at h12 ⊢
  simp (disch:=first|(simp only [yk,seval];done)|omega|(simp only [yz]<;>omega)|fail) only [↓yp,yq0,yq1,yq2,yq3,yq4,yl,ys0,ys1,seval,fitB,newC,endD,endR,yrg,h12]
  refine W_drawR (pl := [(4, .rw [.slice none 0 0, .slice none 0 0, .int .i64 0] 25 false []), (5, .rw [.slice none 0 0, .slice none 0 0, .int .i64 0] 32 false [])]) [6, 7] [(0, 1), (0, 2), (1, 1), (1, 2), (2, 2), (3, 2), (4, 1), (4, 2), (5, 2)] (planK_of rfl) (by kernel_rfl) (by kernel_rfl) (by kernel_rfl) (by first|omega|(simp only [yz]<;>omega)) ?_
  simp (disch:=first|(simp only [yk,seval];done)|omega|(simp only [yz]<;>omega)|fail) only [↓yp,yq0,yq1,yq2,yq3,yq4,yl,ys0,ys1,seval,fitB,newC,endD,endR,yrg,h14,h15]
  refine hend _ _ none 0 none 0 none 0 none 0 ⟨Rw.nil, Rw.nil, Rw.nil, Rw.nil, Rw.nil, Rw.nil, fun _ => ⟨rfl, rfl⟩, by (first | omega | (simp only [yz] <;> omega)), ?_, ?_, ?_, ?_, ?_, ?_, ?_, ?_, ?_⟩
  all_goals simp (disch:=first|(simp only [yk,seval];done)|omega|(simp only [yz]<;>omega)|fail) only [yg,seval,List.length_nil]
 have hne' : ps ≠ [] ∨ gs ≠ [] := by
  by_cases h : ps = []
  ·exact .inr fun h' => hne ⟨h, h'⟩
  ·exact .inl h
 simp (disch:=first|(simp only [yk,seval];done)|omega|(simp only [yz]<;>omega)|fail) only [↓yp,yq0,yq1,yq2,yq3,yq4,yl,ys0,ys1,seval,fitB,newC,endD,endR,yrg,h12]
 refine W_drawR (pl := [(4, .rw [.slice none 0 0, .slice none 0 0, .int .i64 0] 25 false []), (5, .rw [.slice none 0 0, .slice none 0 0, .int .i64 0] 32 false [])]) [1, 3, 6, 7] [(0, 1), (0, 2), (0, 3), (0, 4), (2, 2), (2, 3), (2, 4), (4, 3), (4, 4), (5, 4)] (planK_of rfl) (by kernel_rfl) (by kernel_rfl) (by kernel_rfl) (by first|omega|(simp only [yz]<;>omega)) ?_
 simp (disch:=first|(simp only [yk,seval];done)|omega|(simp only [yz]<;>omega)|fail) only [↓yp,yq0,yq1,yq2,yq3,yq4,yl,ys0,ys1,seval,fitB,newC,endD,endR,yrg]
 refine c14 (hs.fr (by repeat first|exact Fr.refl _|assumption|refine Fr.allocd ?_ _|refine Fr.put ?_ (by first|omega|(simp only [yz]<;>omega)) _)) (hgs.fr (by repeat first|exact Fr.refl _|assumption|refine Fr.allocd ?_ _|refine Fr.put ?_ (by first|omega|(simp only [yz]<;>omega)) _)) hl hgl hne' (by first|omega|(simp only [yz]<;>omega)) (by omega) ?_
 intro x c x' c' H1 fr1 hx on ux ux' o o'
 have f1 := fr1.size
 have s1 := fr1.same
 simp only [size_alloc] at f1 s1
 have h1 : oneCells [.slice x ps.length c, .slice x' gs.length c', .int .i64 lots] = true := by cases x <;> cases x' <;> rfl
 have f01 : Fr H H1 := fr0.trans fr1
 simp (disch:=first|(simp only [yk,seval];done)|omega|(simp only [yz]<;>omega)|fail) only [↓yp,yq0,yq1,yq2,yq3,yq4,yl,ys0,ys1,seval,fitB,newC,endD,endR,yrg,s1,h1]
 refine c15 (hs.fr f01) (hgs.fr f01) hl hgl hne' (by first|omega|(simp only [yz]<;>omega)) (by omega) ?_
 intro u d u' d' H2 fr2 hu uu uu' r r'
 have f2 := fr2.size
 have s2 := fr2.same
 have h2 : oneCells [.slice u ps.length d, .slice u' gs.length d', .int .i64 lots] = true := by cases u <;> cases u' <;> rfl
 simp (disch:=first|(simp only [yk,seval];done)|omega|(simp only [yz]<;>omega)|fail) only [↓yp,yq0,yq1,yq2,yq3,yq4,yl,ys0,ys1,seval,fitB,newC,endD,endR,yrg,s2,s1,h1,h2,newK_alloc]
 simp only [size_alloc] at ux ux'
 have hF : Fr H ((H2.put (H.size + 1) (.rw [.slice x ps.length c, .slice x' gs.length c', .int .i64 lots] 25 false [])).put (H.size + 1 + 1) (.rw [.slice u ps.length d, .slice u' gs.length d', .int .i64 lots] 32 false [])) := Fr.put (Fr.put (f01.trans fr2) (by omega) _) (by omega) _
 refine hend _ _ x c x' c' u d u' d' ⟨hs.fr hF, hgs.fr hF, Rw.putU (Rw.putU (o.fr fr2) ux (by omega)) ux (by omega), Rw.putU (Rw.putU (o'.fr fr2) ux' (by omega)) ux' (by omega), Rw.putU (Rw.putU r uu (by omega)) uu (by omega), Rw.putU (Rw.putU r' uu' (by omega)) uu' (by omega), on, by (first | omega | (simp only [yz] <;> omega)), ?_, ?_, ?_, ?_, ?_, ?_, ?_, ?_, ?_⟩
 ·rw [get_put_ne (by omega), get_put_ne (by omega), s2 _ (by omega), s1 _ (by omega)]; simp (disch:=first|(simp only [yk,seval];done)|omega|(simp only [yz]<;>omega)|fail) only [yg,seval]
 ·rw [get_put_ne (by omega), get_put_same (by omega)]
 ·rw [get_put_same (by first|omega|(simp only [yz]<;>omega))]
 all_goals simp (disch:=first|(simp only [yk,seval];done)|omega|(simp only [yz]<;>omega)|fail) only [yg,seval]
end
end Go.Am.K
