import Derived.Test.YtehkjjgpgnejnaaT43
set_option linter.unusedSimpArgs false
set_option linter.unusedVariables false
namespace Go.Am.K
open Go.Proofs
variable {T : Tab} {P : Program} {N L : Nat} {H H' H'' : AHeap} {Q : Bool → Value → AHeap → Prop}
def SzR (ps : List Pk) (g : Gd) (sz : Int) : Prop := (sz = 0 ∧ ∀ x, LotOk ps x → hasM ps g x = false) ∨ ∃ l, MostR ps g l ∧ isum l = sz
theorem hasM_pos {ps : List Pk} {g : Gd} {l : List Int} (h : hasM ps g l = true) : 0 < isum l := by
 unfold hasM hasG at h
 simp only [Bool.and_eq_true,decide_eq_true_eq] at h
 exact h.1
theorem hasM_mono {ps : List Pk} {g g' : Gd} {l : List Int} (hg : g.fo ≤ g'.fo) (h : hasM ps g l = true) : hasM ps g' l = true := by
 have hp := hasM_pos h
 unfold hasM hasG at *
 simp only [Bool.and_eq_true,decide_eq_true_eq] at *
 have := Int.mul_le_mul_of_nonneg_right hg (show 0 ≤ isum l by omega)
 omega
theorem SzR.nn {ps : List Pk} {g : Gd} {sz : Int} (h : SzR ps g sz) : 0 ≤ sz := by
 rcases h with ⟨rfl, -⟩ | ⟨l, hl, rfl⟩
 ·exact Int.le_refl _
 ·have := hasM_pos hl.2.1; omega
theorem SzR.mono {ps : List Pk} {g g' : Gd} {sz sz' : Int} (hg : g.fo ≤ g'.fo) (h : SzR ps g sz) (h' : SzR ps g' sz') : sz ≤ sz' := by
 rcases h with ⟨rfl, -⟩ | ⟨l, hl, rfl⟩
 ·exact h'.nn
 ·have hm := hasM_mono hg hl.2.1
  rcases h' with ⟨-, hn⟩ | ⟨l', hl', rfl⟩
  ·rw [hn l hl.1] at hm; cases hm
  ·exact hl'.2.2 l hl.1 hm
theorem SzR.all {ps : List Pk} {g : Gd} {sz : Int} (h : SzR ps g sz) : ∀ x, LotOk ps x → hasM ps g x = true → isum x ≤ sz := fun x hx hh => by
 rcases h with ⟨-, hn⟩ | ⟨l, hl, rfl⟩
 ·rw [hn x hx] at hh; cases hh
 ·exact hl.2.2 x hx hh
section
variable {kq cq i5 b1 c1 b2 c2 b3 c3 k : Nat} {aq : Option Addr} {bq rs : List Int} {ps : List Pk} {gs : List Gd} {lots size : Int} {e : VT} {g : Gd}
set_option maxHeartbeats 8000000 in
set_option maxRecDepth 10000 in
theorem c10L (hL : L ≤ H.size) (I : LS H H' 214 kq aq bq cq i5 b1 c1 b2 c2 b3 c3 ps gs rs lots e) (hst : StOk ps gs lots) (g9 : gt 214 e 9 = .int .i64 (k : Nat)) (g12 : gt 214 e 12 = .int .i64 size) (g77 : gt 214 e 77 = .int .i64 0) (hg : gs[k]? = some g) (hsz : ∀ x, LotOk ps x → hasM ps g x = true → isum x ≤ size) :
  W tabA Try.prog (N + 2800) none (sub [true, true, true, true, false, true, false, false, true, true, false, false, true, true, true, true, true, true, true] (bodyOf Try.f10)) L ⟨214, e, H', []⟩ (endK 214 [] fun e' H'' => LS H H'' 214 kq aq bq cq i5 b1 c1 b2 c2 b3 c3 ps gs rs lots e' ∧ Keep 214 [8, 9, 12, 36, 37] e e') := by
 obtain ⟨TL, hTL⟩ : ∃ c, sub ([true, true, true, true, false, true, false, false, true, true, false, false, true, true, true, true, true, true, true] ++ [false, false, true, true, false, false]) (bodyOf Try.f10) = c := ⟨_, rfl⟩
 have hTL0 := hTL
 simp only [Try.f10,bodyOf,List.cons_append,List.nil_append,sub_nil,sub_seq0,sub_seq1,sub_block,sub_loop,sub_cond0,sub_cond1] at hTL ⊢
 rw [hTL]
 clear hTL
 simp (disch:=first|(simp only [yk,seval];done)|omega|(simp only [yz]<;>omega)|fail) only [↓yp,yq0,yq1,yq2,yq3,yq4,yl,ys0,ys1,seval,fitB,newC,endD,endR,yrg]
 refine W_while (n := 214) 2700 (fun q e' H'' => ∃ j : Nat, q = 4 - j ∧ j ≤ 4 ∧ LS H H'' 214 kq aq bq cq i5 b1 c1 b2 c2 b3 c3 ps gs rs lots e' ∧ Keep 214 [8, 9, 12, 36, 37] e e' ∧ gt 214 e' 77 = .int .i64 (j : Nat))
  ?_ 4 4 ⟨0, by omega, by omega, I, by (with_reducible repeat first|refine Keep.put ?_ (by decide)|refine Keep.none ?_|assumption|exact Keep.refl _ _ _), by simp (disch:=first|(simp only [yk,seval];done)|omega|(simp only [yz]<;>omega)|fail) only [g77]; rfl⟩ (by omega) (by omega)
 clear I g77
 rintro M1 q e' H1 ⟨j, rfl, hj, I, kp, k77⟩
 have ilt := I.lt
 have k9 := (kp 9 (by decide)).trans g9
 have k12 := (kp 12 (by decide)).trans g12
 simp (disch:=first|(simp only [yk,seval];done)|omega|(simp only [yz]<;>omega)|fail) only [↓yp,yq0,yq1,yq2,yq3,yq4,yl,ys0,ys1,seval,fitB,newC,endD,endR,yrg,k77]
 refine ⟨fun hT => ?_, fun hT => ?_⟩
 ·have hlt : (j : Int) < 4 := of_decide_eq_true hT
  have hw2 : w64 ((j : Int) + 1) = ((j + 1 : Nat) : Int) := by rw [w64_of (by omega)]; omega
  simp (disch:=first|(simp only [yk,seval];done)|omega|(simp only [yz]<;>omega)|fail) only [↓yp,yq0,yq1,yq2,yq3,yq4,yl,ys0,ys1,seval,fitB,newC,endD,endR,yrg]
  rw [← hTL0]
  refine W_end (c10Z (N := M1 + 96) hL (I.fr (Fr.refl _) (by (with_reducible repeat first|refine Keep.put ?_ (by decide)|refine Keep.none ?_|assumption|exact Keep.refl _ _ _))) hst ?k9 ?k12 hg hsz) ?fin
  case k9 => simp (disch:=first|(simp only [yk,seval];done)|omega|(simp only [yz]<;>omega)|fail) only [yg,seval,k9]
  case k12 => simp (disch:=first|(simp only [yk,seval];done)|omega|(simp only [yz]<;>omega)|fail) only [yg,seval,k12]
  case fin =>
   rintro e'' H'' ⟨I', kp'⟩
   have ilt' := I'.lt
   have m77 := kp' 77 (by decide)
   simp (disch:=first|(simp only [yk,seval];done)|omega|(simp only [yz]<;>omega)|fail) only [yg,seval,k77] at m77
   simp (disch:=first|(simp only [yk,seval];done)|omega|(simp only [yz]<;>omega)|fail) only [↓yp,yq0,yq1,yq2,yq3,yq4,yl,ys0,ys1,seval,fitB,newC,endD,endR,yrg,m77,hw2]
   have kq' : Keep 214 [8, 9, 12, 36, 37] _ e'' := fun i hi => kp' i (by revert hi; simp; omega)
   refine ⟨4 - (j + 1), by omega, j + 1, rfl, by omega, I'.fr (Fr.refl _) (by (with_reducible repeat first|refine Keep.put ?_ (by decide)|refine Keep.none ?_|assumption|exact Keep.refl _ _ _)), Keep.put (Keep.put (Keep.trans (Keep.trans kp ?_) kq') (by decide)) (by decide), ?_⟩
   ·(with_reducible repeat first|refine Keep.put ?_ (by decide)|refine Keep.none ?_|assumption|exact Keep.refl _ _ _)
   ·simp (disch:=first|(simp only [yk,seval];done)|omega|(simp only [yz]<;>omega)|fail) only [yg,seval]
 ·simp (disch:=first|(simp only [yk,seval];done)|omega|(simp only [yz]<;>omega)|fail) only [↓yp,yq0,yq1,yq2,yq3,yq4,yl,ys0,ys1,seval,fitB,newC,endD,endR,yrg]
  exact ⟨I.fr (Fr.refl _) (by (with_reducible repeat first|refine Keep.put ?_ (by decide)|refine Keep.none ?_|assumption|exact Keep.refl _ _ _)), Keep.trans kp (by (with_reducible repeat first|refine Keep.put ?_ (by decide)|refine Keep.none ?_|assumption|exact Keep.refl _ _ _))⟩
end
section
variable {a a2 : Option Addr} {cap cap2 : Nat} {bs bs2 : List Int}
set_option maxHeartbeats 8000000 in
set_option maxRecDepth 10000 in
theorem c10 (hb : Bts H a bs) (hb2 : Bts H a2 bs2) :
  acall tabA (aexec tabA Try.prog (N + 8000)) 10 [.slice a bs.length cap, .slice a2 bs2.length cap2] H = some (true, .bool true, H, H.size) := by
 refine call_quiet (k := 214) (rs := [.tmp 4]) rfl fn_10 rfl rfl rfl ?_ rfl
 obtain ⟨TL, hTL⟩ : ∃ c, sub [true, true, true, true, false, true, false, false, true, true, false, false, true, true, true, true, true, true, true] (bodyOf Try.f10) = c := ⟨_, rfl⟩
 have hTL0 := hTL
 simp only [Try.f10,bodyOf,sub_nil,sub_seq0,sub_seq1,sub_block,sub_loop,sub_cond0,sub_cond1] at hTL ⊢
 rw [hTL]
 clear hTL
 simp (disch:=first|(simp only [yk,seval];done)|omega|(simp only [yz]<;>omega)|fail) only [↓yp,yq0,yq1,yq2,yq3,yq4,yl,ys0,ys1,seval,fitB,newC,endD,endR,yrg]
 refine c34 hb (Nat.le_refl _) (by omega) ?_
 intro H1 fr1 hs1 hc1
 simp (disch:=first|(simp only [yk,seval];done)|omega|(simp only [yz]<;>omega)|fail) only [↓yp,yq0,yq1,yq2,yq3,yq4,yl,ys0,ys1,seval,fitB,newC,endD,endR,yrg]
 refine c33 hc1 (by omega) (by omega) (Nat.le_refl _) (by omega) ?_
 intro b1 c1 b2 c2 b3 c3 ps gs rs lots H2 mk r1 r2 r3 hc2 hx2
 have sz2 := hx2.size
 simp (disch:=first|(simp only [yk,seval];done)|omega|(simp only [yz]<;>omega)|fail) only [↓yp,yq0,yq1,yq2,yq3,yq4,yl,ys0,ys1,seval,fitB,newC,endD,endR,yrg]
 have fr2 : Fr H H2 := hx2.above fr1 (by omega)
 have hok := mk.chk (by omega) (by omega)
 have hst := chkS_ok hok
 have frm : Fr H2 ((H2.alloc (.rw [.slice none 0 0, .slice none 0 0, .int .i64 0] 25 false [])).put H2.size (.rw [.slice (some ⟨b1, 0, none⟩) ps.length c1, .slice (some ⟨b2, 0, none⟩) gs.length c2, .int .i64 lots] 25 false [])) := by (repeat (first | exact Fr.refl _ | assumption | refine Fr.allocd ?_ _ | refine Fr.put ?_ (by first | omega | (simp only [yz] <;> omega)) _))
 refine c34 (hb2.fr (Fr.trans fr2 frm)) (by first|omega|(simp only [yz]<;>omega)) (by omega) ?_
 intro H3 fr3 hs3 hc3
 simp only [size_put,size_alloc] at hs3 hc3
 have s3 := fr3.same
 simp only [size_put,size_alloc] at s3
 have b53 : H3.get H2.size = .rw [.slice (some ⟨b1, 0, none⟩) ps.length c1, .slice (some ⟨b2, 0, none⟩) gs.length c2, .int .i64 lots] 25 false [] := by
  rw [s3 _ (by omega)]; exact get_put_same (by first|omega|(simp only [yz]<;>omega))
 have fr23 : Fr H2 H3 := frm.trans fr3
 have bl1 : b1 < H2.size := by
  obtain ⟨b, o, c, e1, l1, -⟩ := r1.rw.get (by rintro rfl; have := mk.l1; simp at this)
  cases e1; exact l1
 have bl2 : b2 < H2.size := by
  obtain ⟨b, o, c, e1, l1, -⟩ := r2.rw.get (by rintro rfl; have := mk.g1; simp at this)
  cases e1; exact l1
 have bl3 : b3 < H2.size := by
  obtain ⟨b, o, c, e1, l1, -⟩ := r3.rw.get (by rintro rfl; have := mk.l1; have := mk.lr; simp at this; omega)
  cases e1; exact l1
 simp (disch:=first|(simp only [yk,seval];done)|omega|(simp only [yz]<;>omega)|fail) only [↓yp,yq0,yq1,yq2,yq3,yq4,yl,ys0,ys1,seval,fitB,newC,endD,endR,yrg,b53,lenV_slice st_esS_23]
 refine W_while (n := 214) 5000 (fun q e' H' => ∃ (k : Nat) (last : Int), q = gs.length - k ∧ k ≤ gs.length ∧ LS H H' 214 (H2.size + 1) a2 bs2 cap2 H2.size b1 c1 b2 c2 b3 c3 ps gs rs lots e' ∧ gt 214 e' 37 = .int .i64 (k : Nat) ∧ gt 214 e' 36 = .int .i64 gs.length ∧ gt 214 e' 8 = .int .i64 last ∧ ∀ g, gs[k]? = some g → ∀ sz, SzR ps g sz → last ≤ sz)
  ?_ 4 gs.length ⟨0, -1, by omega, by omega, ⟨⟨r1.rw.fr fr23, fun _ b o s e => by cases e; omega⟩, ⟨r2.rw.fr fr23, fun _ b o s e => by cases e; omega⟩, ⟨r3.rw.fr fr23, fun _ b o s e => by cases e; omega⟩, hok, ?_, by omega, by omega, b53, ?_, ?_, hc3, by omega⟩, ?_, ?_, ?_, fun g hg sz h => by have := h.nn; omega⟩ (by have := hst.g4; omega) (by omega)
 rotate_left
 ·simp (disch:=first|(simp only [yk,seval];done)|omega|(simp only [yz]<;>omega)|fail) only [yg,seval]
 ·simp (disch:=first|(simp only [yk,seval];done)|omega|(simp only [yz]<;>omega)|fail) only [yg,seval]
 ·simp (disch:=first|(simp only [yk,seval];done)|omega|(simp only [yz]<;>omega)|fail) only [yg,seval]
 ·simp (disch:=first|(simp only [yk,seval];done)|omega|(simp only [yz]<;>omega)|fail) only [yg,seval] <;> rfl
 ·simp (disch:=first|(simp only [yk,seval];done)|omega|(simp only [yz]<;>omega)|fail) only [yg,seval]
 ·simp (disch:=first|(simp only [yk,seval];done)|omega|(simp only [yz]<;>omega)|fail) only [yg,seval]
 have hH2 : H.size ≤ H2.size := fr2.size
 clear bl3 bl2 bl1 fr23 b53 s3 hc3 hs3 fr3 frm fr2 sz2 hx2 hc2 r3 r2 r1 hc1 hs1 fr1 H3 H1 hb hb2
 generalize H2.size + 1 = kq
 generalize H2.size = i5 at *
 have hpk := fun p hp => Pk.isB_ok (List.all_eq_true.1 hst.pb p hp)
 have hg4 := hst.g4
 rintro M1 q e H' ⟨k, last, rfl, hk', I, g37, g36, g8, hlast⟩
 have ilt := I.lt
 have g5 := I.g5
 have b5 := I.b5
 simp (disch:=first|(simp only [yk,seval];done)|omega|(simp only [yz]<;>omega)|fail) only [↓yp,yq0,yq1,yq2,yq3,yq4,yl,ys0,ys1,seval,fitB,newC,endD,endR,yrg,g37,g36]
 refine ⟨fun hA => ?_, fun hA => ?_⟩
 rotate_left
 ·have haw := fun (N : Nat) (H : AHeap) => awake_known (ex := aexec tabA Try.prog N) (H := H)
  simp (disch:=first|(simp only [yk,seval];done)|omega|(simp only [yz]<;>omega)|fail) only [↓yp,yq0,yq1,yq2,yq3,yq4,yl,ys0,ys1,seval,fitB,newC,endD,endR,yrg,haw]
 have hlt : k < gs.length := by have := of_decide_eq_true hA; omega
 have hw2 : w64 ((k : Int) + 1) = ((k + 1 : Nat) : Int) := by rw [w64_of (by omega)]; omega
 obtain ⟨g, hg⟩ : ∃ g, gs[k]? = some g := ⟨gs[k], by simp [hlt]⟩
 have h00 : decide ((0 : Int) = 0) = true := rfl
 have h10 : decide ((1 : Int) = 0) = false := rfl
 have h11 : decide ((1 : Int) = 1) = true := rfl
 -- the rest of the round
 have tail : ∀ (N : Nat) (e' : VT) (H1 : AHeap) (size : Int), SzR ps g size → LS H H1 214 kq a2 bs2 cap2 i5 b1 c1 b2 c2 b3 c3 ps gs rs lots e' → gt 214 e' 9 = .int .i64 (k : Nat) → gt 214 e' 12 = .int .i64 size → gt 214 e' 77 = .int .i64 0 → W tabA Try.prog (N + 2800) none TL H.size ⟨214, e', H1, []⟩ (endK 214 [] fun e'' H'' => LS H H'' 214 kq a2 bs2 cap2 i5 b1 c1 b2 c2 b3 c3 ps gs rs lots e'' ∧ Keep 214 [8, 9, 12, 36, 37] e' e'') := fun N e' H1 size hsz I' k9 k12 k77 => by
  rw [← hTL0]
  exact c10L (N := N) (Nat.le_refl _) I' hst k9 k12 k77 hg hsz.all
 have nextL : ∀ size, SzR ps g size → ∀ g', gs[k + 1]? = some g' → ∀ sz, SzR ps g' sz → size ≤ sz := fun size hs g' hg' sz hs' => hs.mono (ordB_mono hst.od (by omega) hg hg') hs'
 simp (disch:=first|(simp only [yk,seval];done)|omega|(simp only [yz]<;>omega)|fail) only [↓yp,yq0,yq1,yq2,yq3,yq4,yl,ys0,ys1,seval,fitB,newC,endD,endR,yrg,g37,g5,b5]
 refine c52 (cap := c1) (cap' := c2) I.str hg (by omega) (by omega) ?_ ?_
 ·intro f H1 fr hno
  have hsz : SzR ps g 0 := .inl ⟨rfl, hno⟩
  have hl0 := hlast g hg 0 hsz
  have d1 : decide (0 < last) = false := by simp; omega
  have ilt1 := (I.fr fr (Keep.refl _ _ _)).lt
  simp (disch:=first|(simp only [yk,seval];done)|omega|(simp only [yz]<;>omega)|fail) only [↓yp,yq0,yq1,yq2,yq3,yq4,yl,ys0,ys1,seval,fitB,newC,endD,endR,yrg,g8,h10,h11,d1]
  refine W_end (tail _ _ H1 0 hsz (I.fr fr (by (with_reducible repeat first|refine Keep.put ?_ (by decide)|refine Keep.none ?_|assumption|exact Keep.refl _ _ _))) ?_ ?_ ?_) ?_
  ·simp (disch:=first|(simp only [yk,seval];done)|omega|(simp only [yz]<;>omega)|fail) only [yg,seval]
  ·simp (disch:=first|(simp only [yk,seval];done)|omega|(simp only [yz]<;>omega)|fail) only [yg,seval]
  ·simp (disch:=first|(simp only [yk,seval];done)|omega|(simp only [yz]<;>omega)|fail) only [yg,seval]
  rintro e'' H'' ⟨I', kp⟩
  have ilt' := I'.lt
  have m8 := kp 8 (by decide)
  have m36 := kp 36 (by decide)
  have m37 := kp 37 (by decide)
  simp (disch:=first|(simp only [yk,seval];done)|omega|(simp only [yz]<;>omega)|fail) only [yg,seval] at m8
  simp (disch:=first|(simp only [yk,seval];done)|omega|(simp only [yz]<;>omega)|fail) only [yg,seval,g36] at m36
  simp (disch:=first|(simp only [yk,seval];done)|omega|(simp only [yz]<;>omega)|fail) only [yg,seval,g37] at m37
  simp (disch:=first|(simp only [yk,seval];done)|omega|(simp only [yz]<;>omega)|fail) only [↓yp,yq0,yq1,yq2,yq3,yq4,yl,ys0,ys1,seval,fitB,newC,endD,endR,yrg,m37,hw2]
  refine ⟨gs.length - (k + 1), by omega, k + 1, 0, rfl, by omega, I'.fr (Fr.refl _) (by (with_reducible repeat first|refine Keep.put ?_ (by decide)|refine Keep.none ?_|assumption|exact Keep.refl _ _ _)), ?_, ?_, ?_, nextL 0 hsz⟩
  ·simp (disch:=first|(simp only [yk,seval];done)|omega|(simp only [yz]<;>omega)|fail) only [yg,seval]
  ·simp (disch:=first|(simp only [yk,seval];done)|omega|(simp only [yz]<;>omega)|fail) only [yg,seval,m36]
  ·simp (disch:=first|(simp only [yk,seval];done)|omega|(simp only [yz]<;>omega)|fail) only [yg,seval,m8]
 ·intro b c l H1 fr hm hr
  have hsz : SzR ps g (isum l) := .inr ⟨l, hm, rfl⟩
  have hl0 := hlast g hg _ hsz
  have hpos := hasM_pos hm.2.1
  have d1 : decide (isum l < last) = false := by simp; omega
  have I1 := I.fr fr (Keep.refl _ _ _)
  have ilt1 := I1.lt
  have b51 := I1.b5
  have lt1 : LtR H1 (some ⟨b1, 0, none⟩) (some ⟨b2, 0, none⟩) (some ⟨b, 0, none⟩) ps gs lots l := ⟨I1.str, hr, hm.1⟩
  have h36 := fun (N : Nat) => c36 (N := N) (cap := c) hr (by have := lt1.l4; omega) fun x hx => by have := lt1.lo.in lt1.st.pk x hx; omega
  have h38 := fun (N : Nat) => c38 (N := N) (cap := c1) (cap' := c2) (cl := c) lt1
  have hkv : hasM ps g l = (decide (0 ≤ sureV ps gs l) && decide (sureV ps gs l ≤ (k : Int))) := keepV hst.od lt1.st.gd (by omega) hg
  rw [hm.2.1] at hkv
  have hkv' := hkv.symm
  simp only [Bool.and_eq_true,decide_eq_true_eq] at hkv'
  obtain ⟨sv, hsv⟩ : ∃ sv, sureV ps gs l = sv := ⟨_, rfl⟩
  rw [hsv] at h38 hkv'
  have d2 : decide (sv < 0) = false := by simp; omega
  have d3 : decide ((k : Int) < sv) = false := by simp; omega
  have d4 : decide (isum l = 0) = false := by simp; omega
  simp (disch:=first|(simp only [yk,seval];done)|omega|(simp only [yz]<;>omega)|fail) only [↓yp,yq0,yq1,yq2,yq3,yq4,yl,ys0,ys1,seval,fitB,newC,endD,endR,yrg,g5,b51,g8,h00,h36,h38,d1,d2,d3,d4]
  refine W_end (tail _ _ H1 (isum l) hsz (I.fr fr (by (with_reducible repeat first|refine Keep.put ?_ (by decide)|refine Keep.none ?_|assumption|exact Keep.refl _ _ _))) ?_ ?_ ?_) ?_
  ·simp (disch:=first|(simp only [yk,seval];done)|omega|(simp only [yz]<;>omega)|fail) only [yg,seval]
  ·simp (disch:=first|(simp only [yk,seval];done)|omega|(simp only [yz]<;>omega)|fail) only [yg,seval]
  ·simp (disch:=first|(simp only [yk,seval];done)|omega|(simp only [yz]<;>omega)|fail) only [yg,seval]
  rintro e'' H'' ⟨I', kp⟩
  have ilt' := I'.lt
  have m8 := kp 8 (by decide)
  have m36 := kp 36 (by decide)
  have m37 := kp 37 (by decide)
  simp (disch:=first|(simp only [yk,seval];done)|omega|(simp only [yz]<;>omega)|fail) only [yg,seval] at m8
  simp (disch:=first|(simp only [yk,seval];done)|omega|(simp only [yz]<;>omega)|fail) only [yg,seval,g36] at m36
  simp (disch:=first|(simp only [yk,seval];done)|omega|(simp only [yz]<;>omega)|fail) only [yg,seval,g37] at m37
  simp (disch:=first|(simp only [yk,seval];done)|omega|(simp only [yz]<;>omega)|fail) only [↓yp,yq0,yq1,yq2,yq3,yq4,yl,ys0,ys1,seval,fitB,newC,endD,endR,yrg,m37,hw2]
  refine ⟨gs.length - (k + 1), by omega, k + 1, isum l, rfl, by omega, I'.fr (Fr.refl _) (by (with_reducible repeat first|refine Keep.put ?_ (by decide)|refine Keep.none ?_|assumption|exact Keep.refl _ _ _)), ?_, ?_, ?_, nextL _ hsz⟩
  ·simp (disch:=first|(simp only [yk,seval];done)|omega|(simp only [yz]<;>omega)|fail) only [yg,seval]
  ·simp (disch:=first|(simp only [yk,seval];done)|omega|(simp only [yz]<;>omega)|fail) only [yg,seval,m36]
  ·simp (disch:=first|(simp only [yk,seval];done)|omega|(simp only [yz]<;>omega)|fail) only [yg,seval,m8]
end
end Go.Am.K
