import Derived.Test.YtbofjfjopeaefaaT50
set_option linter.unusedSimpArgs false
set_option linter.unusedVariables false
namespace Go.Am.K
open Go.Proofs
variable {T : Tab} {P : Program} {N L : Nat} {H H' H'' : AHeap} {Q : Bool → Value → AHeap → Prop}
theorem lot_opn {ps : List Pk} {l : List Int} {i : Nat} {p : Pk} {y z : Int} (h : LotOk ps l) (hp : ps[i]? = some p) : LotOk (ps.set i (opn p y z)) l := by
 refine ⟨by rw [List.length_set]; exact h.len, fun j n q hn hq => ?_⟩
 by_cases hj : i = j
 ·subst hj
  rw [List.getElem?_set_self (List.getElem?_eq_some_iff.1 hp).1] at hq
  cases hq
  exact h.ok i n p hn hp
 ·rw [List.getElem?_set_ne hj] at hq
  exact h.ok j n q hn hq
structure LM (B : Int → Int → Prop) (C : Int → Prop) (j ls gr : Int) (met : Bool) : Prop where
 el : met = true → ∃ z, (0 ≤ z ∧ z < j) ∧ B z ls
 all : ∀ z n, (0 ≤ z ∧ z < j) → B z n → ls ≤ n ∧ n ≤ gr
 eg : gr = 0 ∨ ∃ z, (0 ≤ z ∧ z < j) ∧ B z gr
 g0 : 0 ≤ gr
 mt : ∀ z, (0 ≤ z ∧ z < j) → ¬ C z → met = true
 bc : ∀ z n, B z n → ¬ C z ∧ 0 ≤ n
theorem LM.skip {B : Int → Int → Prop} {C : Int → Prop} {j ls gr : Int} {met : Bool} (h : LM B C j ls gr met) (hc : C j) : LM B C (j + 1) ls gr met where
 el := fun hm => by obtain ⟨z, hz, hb⟩ := h.el hm; exact ⟨z, by omega, hb⟩
 all := fun z n hz hb => by
  by_cases hj : z = j
  ·subst hj; exact absurd hc (h.bc _ _ hb).1
  ·exact h.all z n (by omega) hb
 eg := by
  rcases h.eg with e | ⟨z, hz, hb⟩
  ·exact .inl e
  ·exact .inr ⟨z, by omega, hb⟩
 g0 := h.g0
 mt := fun z hz hn => by
  by_cases hj : z = j
  ·subst hj; exact absurd hc hn
  ·exact h.mt z (by omega) hn
 bc := h.bc
theorem LM.take {B : Int → Int → Prop} {C : Int → Prop} {j ls gr n ls' gr' : Int} {met : Bool} (h : LM B C j ls gr met) (h0 : 0 ≤ j) (hb : B j n) (hu : ∀ m, B j m → m = n) (hl : ls' = if met = false ∨ n < ls then n else ls) (hg : gr' = if n > gr then n else gr) : LM B C (j + 1) ls' gr' true where
 el := fun _ => by
  by_cases hc : met = false ∨ n < ls
  ·rw [if_pos hc] at hl; subst hl; exact ⟨j, by omega, hb⟩
  ·rw [if_neg hc] at hl; subst hl
   obtain ⟨z, hz, hb⟩ := h.el (by cases met <;> simp_all)
   exact ⟨z, by omega, hb⟩
 all := fun z m hz hm => by
  by_cases hj : z = j
  ·subst hj
   rw [hu m hm]
   subst hl hg
   constructor
   ·split
    ·exact Int.le_refl _
    ·rename_i hc; simp only [not_or] at hc; omega
   ·split <;> omega
  ·obtain ⟨a1, a2⟩ := h.all z m (by omega) hm
   have hmt := h.mt z (by omega) (h.bc _ _ hm).1
   subst hl hg
   constructor
   ·split
    ·rename_i hc
     rcases hc with hc | hc
     ·rw [hmt] at hc; cases hc
     ·omega
    ·exact a1
   ·split <;> omega
 eg := by
  subst hg
  split
  ·exact .inr ⟨j, by omega, hb⟩
  ·rcases h.eg with e | ⟨z, hz, hb⟩
   ·exact .inl e
   ·exact .inr ⟨z, by omega, hb⟩
 g0 := by subst hg; have := h.g0; split <;> omega
 mt := fun _ _ _ => rfl
 bc := h.bc
theorem LM.py {B : Int → Int → Prop} {C : Int → Prop} {y ls gr lo hi : Int} {met : Bool} (h : LM B C (y + 1) ls gr met) (hp : PyR B y lo hi) : met = true ∧ ls = lo ∧ gr = hi := by
 obtain ⟨z1, hz1, hb1⟩ := hp.elo
 obtain ⟨z2, hz2, hb2⟩ := hp.ehi
 have hm := h.mt z1 (by omega) (h.bc _ _ hb1).1
 obtain ⟨z3, hz3, hb3⟩ := h.el hm
 have a1 := h.all z1 lo (by omega) hb1
 have a2 := hp.all z3 ls (by omega) hb3
 have a3 := h.all z2 hi (by omega) hb2
 have a4 := (h.bc _ _ hb2).2
 refine ⟨hm, by omega, ?_⟩
 rcases h.eg with e | ⟨z4, hz4, hb4⟩
 ·omega
 ·have := hp.all z4 gr (by omega) hb4
  omega
theorem c45N {k : Nat} {a a' : Option Addr} {cap cap' n : Nat} {ps : List Pk} {gs : List Gd} (hn : ps.length = n) (h : StOk ps gs (k : Int)) (hs : Rw pkE H a ps) (hg : Rw gdE H a' gs) (hL : L ≤ H.size) {M : Nat} (hM : 18200 ≤ M)
  (hq : ∀ f w m H', Fr H H' → OptR (brg ps gs) (stk ps) k m → Q f (.tuple ⟨[w, .int .i64 m, .int .i64 0]⟩) H') :
  resK (acall tabA (aexec tabA Try.prog M) 45 [.agg ⟨[.slice a n cap, .slice a' gs.length cap', .int .i64 (k : Int)]⟩] H) L Q := by
 subst hn
 have hs' : StR H a a' ps gs (k : Int) := ⟨hs, hg, h.chk⟩
 exact c45M hs hg h.l4 h.l1 hs'.pk h.g4 hs'.gd k (by have := h.lo; omega) h.chk hL hM hq
section
variable {i8 i11 i17 i19 b1 c1 b2 c2 b3 c3 b4 c4 i k : Nat} {ps : List Pk} {gs : List Gd} {rs l : List Int} {p : Pk} {r y lo hi sa sb su : Int} {e e' : VT}
set_option maxHeartbeats 16000000 in
set_option maxRecDepth 10000 in
theorem c7L (hL : L ≤ H.size) (I : LP H i8 i11 i17 i19 b1 c1 b2 c2 b3 c3 b4 c4 i k ps gs rs l p r y lo hi sa sb su e) :
  W tabA Try.prog (N + 19400) none (sub [true, true, true, true, true, true, true, true, true, true, true, true] (bodyOf Try.f7)) L ⟨243, e, H, []⟩ (retK tabA L [.tmp 6] fun u _ => u = .bool true) := by
 obtain ⟨TL, hTL⟩ : ∃ c, sub [true, true, true, true, true, true, true, true, true, true, true, true, true, true] (bodyOf Try.f7) = c := ⟨_, rfl⟩
 have hTL0 := hTL
 simp only [Try.f7,bodyOf,sub_nil,sub_seq0,sub_seq1,sub_block,sub_loop,sub_cond0,sub_cond1] at hTL ⊢
 rw [hTL]
 clear hTL
 have hst := I.lt.st.st
 have hok := I.lt.st.pk p (List.mem_of_getElem? I.hp)
 have p1 := hok.s
 have p3 := hok.o
 have hy := I.hy
 have w1 : w64 (y + 1) = y + 1 := w64_of (by omega)
 have g12 := I.g12
 simp (disch:=first|(simp only [yk,seval];done)|omega|(simp only [yz]<;>omega)|fail) only [↓yp,yq0,yq1,yq2,yq3,yq4,yl,ys0,ys1,seval,fitB,newC,endD,endR,yrg,g12,w1]
 have hLM0 : LM (Bv ps gs i p y k) (Cl p y) 0 0 0 false := ⟨fun h => by simp at h, fun z n h => by omega, .inl rfl, Int.le_refl _, fun z h => by omega, fun z n hb => ⟨hb.1, hb.2.nn⟩⟩
 refine W_while (n := 243) 19100 (fun q e' H' => ∃ (j : Nat) (ls gr : Int) (met : Bool), q = (y + 1 - j).toNat ∧ (j : Int) ≤ y + 1 ∧ Keep 243 [8, 9, 10, 11, 12, 13, 17, 19, 21] e e' ∧ gt 243 e' 120 = .int .i64 (j : Nat) ∧ gt 243 e' 119 = .int .i64 (y + 1) ∧ gt 243 e' 23 = .int .i64 ls ∧ gt 243 e' 24 = .int .i64 gr ∧ gt 243 e' 25 = .bool met ∧ Fr H H' ∧ LM (Bv ps gs i p y k) (Cl p y) (j : Int) ls gr met)
  ?_ 9 (y + 1).toNat ⟨0, 0, 0, false, by omega, by omega, by (with_reducible repeat first|refine Keep.put ?_ (by decide)|refine Keep.none ?_|assumption|exact Keep.refl _ _ _), ?_, ?_, ?_, ?_, ?_, Fr.refl _, hLM0⟩ (by omega) (by omega)
 rotate_left
 ·simp (disch:=first|(simp only [yk,seval];done)|omega|(simp only [yz]<;>omega)|fail) only [yg,seval] <;> rfl
 ·simp (disch:=first|(simp only [yk,seval];done)|omega|(simp only [yz]<;>omega)|fail) only [yg,seval]
 ·simp (disch:=first|(simp only [yk,seval];done)|omega|(simp only [yz]<;>omega)|fail) only [yg,seval]
 ·simp (disch:=first|(simp only [yk,seval];done)|omega|(simp only [yz]<;>omega)|fail) only [yg,seval]
 ·simp (disch:=first|(simp only [yk,seval];done)|omega|(simp only [yz]<;>omega)|fail) only [yg,seval]
 rintro M1 q e' H1 ⟨j, ls, gr, met, rfl, hj, kp, g120, g119, g23, g24, g25, fr, lm⟩
 have J := I.next fr kp
 have f1 := fr.size
 simp (disch:=first|(simp only [yk,seval];done)|omega|(simp only [yz]<;>omega)|fail) only [↓yp,yq0,yq1,yq2,yq3,yq4,yl,ys0,ys1,seval,fitB,newC,endD,endR,yrg,g120,g119]
 refine ⟨fun hT => ?_, fun hT => ?_⟩
 rotate_left
 ·have hjy : (j : Int) = y + 1 := by have := of_decide_eq_false hT; omega
  rw [hjy] at lm
  obtain ⟨rfl, rfl, rfl⟩ := lm.py I.py
  simp (disch:=first|(simp only [yk,seval];done)|omega|(simp only [yz]<;>omega)|fail) only [↓yp,yq0,yq1,yq2,yq3,yq4,yl,ys0,ys1,seval,fitB,newC,endD,endR,yrg]
  rw [← hTL0]
  refine c7E (by omega) (J.next (Fr.refl _) (by (with_reducible repeat first|refine Keep.put ?_ (by decide)|refine Keep.none ?_|assumption|exact Keep.refl _ _ _))) ?_ ?_ ?_
  ·simp (disch:=first|(simp only [yk,seval];done)|omega|(simp only [yz]<;>omega)|fail) only [yg,seval,g23]
  ·simp (disch:=first|(simp only [yk,seval];done)|omega|(simp only [yz]<;>omega)|fail) only [yg,seval,g24]
  ·simp (disch:=first|(simp only [yk,seval];done)|omega|(simp only [yz]<;>omega)|fail) only [yg,seval,g25]
 have hlt : (j : Int) < y + 1 := of_decide_eq_true hT
 have hw2 : w64 ((j : Int) + 1) = ((j + 1 : Nat) : Int) := by rw [w64_of (by omega)]; omega
 have hz : 0 ≤ (j : Int) ∧ (j : Int) ≤ y := by omega
 have hwy := wi_of hy
 have hwz : wi (j : Int) 0 y = true := wi_of hz
 have hask : askP ps gs (k : Int) i = 0 := askP_of I.lt.st.ok (List.getElem?_eq_some_iff.1 I.hp).1
 have zs := J.zs
 have hj1 : ((j + 1 : Nat) : Int) = (j : Int) + 1 := by omega
 by_cases hcl : Cl p y (j : Int)
 ·have h20 := fun (N : Nat) => c20d (N := N) (cap := c1) (cap' := c2) (z := (j : Nat)) J.lt.st.hs J.lt.st.hg (fun e => absurd e I.gn) (by have := hst.l4; omega) (by have := hst.g4; omega) hask I.hp hok hwy hwz hcl
  have J8 := J.b8
  have Jg8 := J.g8
  have Jg10 := J.g10
  have Jg12 := J.g12
  have d77 : decide ((7 : Int) = 7) = true := rfl
  simp (disch:=first|(simp only [yk,seval];done)|omega|(simp only [yz]<;>omega)|fail) only [↓yp,yq0,yq1,yq2,yq3,yq4,yl,ys0,ys1,seval,fitB,newC,endD,endR,yrg,g120,Jg8,Jg10,Jg12,J8,h20,hw2,d77]
  refine ⟨(y + 1 - (j + 1 : Nat)).toNat, by omega, j + 1, ls, gr, met, rfl, by omega, Keep.trans kp (by (with_reducible repeat first|refine Keep.put ?_ (by decide)|refine Keep.none ?_|assumption|exact Keep.refl _ _ _)), ?_, ?_, ?_, ?_, ?_, fr.trans (by repeat first|exact Fr.refl _|assumption|refine Fr.allocd ?_ _|refine Fr.put ?_ (by first|omega|(simp only [yz]<;>omega)) _), by rw [hj1]; exact lm.skip hcl⟩
  ·simp (disch:=first|(simp only [yk,seval];done)|omega|(simp only [yz]<;>omega)|fail) only [yg,seval]
  ·simp (disch:=first|(simp only [yk,seval];done)|omega|(simp only [yz]<;>omega)|fail) only [yg,seval,g119]
  ·simp (disch:=first|(simp only [yk,seval];done)|omega|(simp only [yz]<;>omega)|fail) only [yg,seval,g23]
  ·simp (disch:=first|(simp only [yk,seval];done)|omega|(simp only [yz]<;>omega)|fail) only [yg,seval,g24]
  ·simp (disch:=first|(simp only [yk,seval];done)|omega|(simp only [yz]<;>omega)|fail) only [yg,seval,g25]
 ·have J8 := J.b8
  have Jg8 := J.g8
  have Jg10 := J.g10
  have Jg12 := J.g12
  simp (disch:=first|(simp only [yk,seval];done)|omega|(simp only [yz]<;>omega)|fail) only [↓yp,yq0,yq1,yq2,yq3,yq4,yl,ys0,ys1,seval,fitB,newC,endD,endR,yrg,g120,Jg8,Jg10,Jg12,J8]
  refine c20 J.lt.st.hs J.lt.st.hg (fun e => absurd e I.gn) (by have := hst.l4; omega) (by have := hst.g4; omega) hask I.hp hok hwy hwz hcl (by omega) (by omega) ?_
  intro k1 x1 a2 x2 H2 fr2 ob og
  have s2 := fr2.size
  simp (disch:=first|(simp only [yk,seval];done)|omega|(simp only [yz]<;>omega)|fail) only [↓yp,yq0,yq1,yq2,yq3,yq4,yl,ys0,ys1,seval,fitB,newC,endD,endR,yrg]
  have hst' := chkS_ok (opn_chk hst I.hp hok hy hz hcl)
  have hln : (ps.set i (opn p y j)).length = ps.length := List.length_set ..
  have fr2G : Fr H2 ((H2.alloc (.rw [.slice none 0 0, .slice none 0 0, .int .i64 0] 25 false [])).put H2.size (.rw [.slice (some ⟨k1, 0, none⟩) ps.length x1, .slice a2 gs.length x2, .int .i64 (k : Int)] 25 false [])) := by (repeat (first | exact Fr.refl _ | assumption | refine Fr.allocd ?_ _ | refine Fr.put ?_ (by first | omega | (simp only [yz] <;> omega)) _))
  refine c45N hln hst' (ob.rw.fr fr2G) (og.rw.fr fr2G) (by first|omega|(simp only [yz]<;>omega)) (by omega) ?_
  intro f w n H3 fr3 o1
  rw [stk_opn I.hp] at o1
  have s3 := fr3.size
  have o3 := fr3.same
  simp only [size_put,size_alloc] at s3 o3
  have b27 : H3.get H2.size = .rw [.slice (some ⟨k1, 0, none⟩) ps.length x1, .slice a2 gs.length x2, .int .i64 (k : Int)] 25 false [] := by
   rw [o3 _ (by omega)]; exact get_put_same (by first|omega|(simp only [yz]<;>omega))
  have fr23 : Fr H2 H3 := fr2G.trans fr3
  have fr13 : Fr H1 H3 := fr2.trans fr23
  have fr03 : Fr H H3 := fr.trans fr13
  have lt' : LtR H3 (some ⟨k1, 0, none⟩) a2 (some ⟨b4, 0, none⟩) (ps.set i (opn p y j)) gs (k : Int) l := ⟨⟨ob.rw.fr fr23, og.rw.fr fr23, hst'.chk⟩, J.lt.rl.fr fr13, lot_opn J.lt.lo I.hp⟩
  have hlv : ∃ m, l[i]? = some m := by
   have h1 := (List.getElem?_eq_some_iff.1 I.hp).1
   have h2 := I.lt.lo.len
   exact ⟨l[i]'(by omega), List.getElem?_eq_getElem _⟩
  obtain ⟨m, hm⟩ := hlv
  obtain ⟨sp1, sp2⟩ := span_opn I.hp hm hz
  have hsu := sure_opn (gs := gs) I.hp hm hz
  have h37 := fun (N : Nat) => c37 (N := N) (cap := x1) (cap' := x2) (cl := c4) lt'
  rw [I.spa] at sp1
  rw [I.spb] at sp2
  rw [I.sur] at hsu
  obtain ⟨na, hna⟩ : ∃ x, isum (fo true (ps.set i (opn p y j)) l) = x := ⟨_, rfl⟩
  obtain ⟨nb, hnb⟩ : ∃ x, isum (fo false (ps.set i (opn p y j)) l) = x := ⟨_, rfl⟩
  obtain ⟨ns, hns⟩ : ∃ x, sureV (ps.set i (opn p y j)) gs l = x := ⟨_, rfl⟩
  rw [hna] at sp1 h37
  rw [hnb] at sp2 h37
  rw [hns] at hsu
  have h38 := fun (N : Nat) => c38 (N := N) (cap := x1) (cap' := x2) (cl := c4) (lt'.fr (H' := (H3.alloc (.rw [.int .i64 0, .int .i64 0] 38 false [])).put H3.size (.rw [.int .i64 na, .int .i64 nb] 38 false [])) (by repeat first|exact Fr.refl _|assumption|refine Fr.allocd ?_ _|refine Fr.put ?_ (by first|omega|(simp only [yz]<;>omega)) _))
  rw [hns] at h38
  simp only [hln] at h37 h38
  have J13 := J.g13
  have J19 := J.g19
  have J21 := J.g21
  have b19 := (fr13.same _ zs.2.2.2).trans J.b19
  have hd1 : decide (na < sa) = false := by simp; omega
  have hd2 : decide (sb < nb) = false := by simp; omega
  have hd3 : (decide (0 ≤ su) = true → decide (ns < 0) = false ∧ decide (su < ns) = false) := fun h => by
   have := hsu (of_decide_eq_true h)
   simp; omega
  have d00 : decide ((0 : Int) = 0) = true := rfl
  have d07 : decide ((0 : Int) = 7) = false := rfl
  have hB : Bv ps gs i p y k (j : Int) n := ⟨hcl, o1⟩
  have hBu : ∀ m, Bv ps gs i p y k (j : Int) m → m = n := fun m hm => hm.2.uniq o1
  have step : ∀ ls' gr', ls' = (if met = false ∨ n < ls then n else ls) → gr' = (if n > gr then n else gr) → LM (Bv ps gs i p y k) (Cl p y) ((j + 1 : Nat) : Int) ls' gr' true := fun ls' gr' h1 h2 => by rw [hj1]; exact lm.take hz.1 hB hBu h1 h2
  obtain ⟨gr', hgr⟩ : ∃ v, (if n > gr then n else gr) = v := ⟨_, rfl⟩
  have fin : ∀ (e'' : VT) (ls' : Int), ls' = (if met = false ∨ n < ls then n else ls) → Keep 243 [8, 9, 10, 11, 12, 13, 17, 19, 21] e e'' → gt 243 e'' 120 = .int .i64 ((j + 1 : Nat) : Int) → gt 243 e'' 119 = .int .i64 (y + 1) → gt 243 e'' 23 = .int .i64 ls' → gt 243 e'' 24 = .int .i64 gr' → gt 243 e'' 25 = .bool true →
    ∃ q', q' < (y + 1 - (j : Int)).toNat ∧ ∃ (j' : Nat) (ls gr : Int) (met : Bool), q' = (y + 1 - j').toNat ∧ (j' : Int) ≤ y + 1 ∧ Keep 243 [8, 9, 10, 11, 12, 13, 17, 19, 21] e e'' ∧ gt 243 e'' 120 = .int .i64 (j' : Nat) ∧ gt 243 e'' 119 = .int .i64 (y + 1) ∧ gt 243 e'' 23 = .int .i64 ls ∧ gt 243 e'' 24 = .int .i64 gr ∧ gt 243 e'' 25 = .bool met ∧ Fr H ((H3.alloc (.rw [.int .i64 0, .int .i64 0] 38 false [])).put H3.size (.rw [.int .i64 na, .int .i64 nb] 38 false [])) ∧ LM (Bv ps gs i p y k) (Cl p y) (j' : Int) ls gr met :=
   fun e'' ls' h1 h2 h3 h4 h5 h6 h7 => ⟨(y + 1 - (j + 1 : Nat)).toNat, by omega, j + 1, ls', gr', true, rfl, by omega, h2, h3, h4, h5, h6, h7, fr03.trans (by repeat first|exact Fr.refl _|assumption|refine Fr.allocd ?_ _|refine Fr.put ?_ (by first|omega|(simp only [yz]<;>omega)) _), step ls' gr' h1 hgr.symm⟩
  cases hd0 : decide (0 ≤ su)
  ·skip
   cases met
   ·simp (disch:=first|(simp only [yk,seval];done)|omega|(simp only [yz]<;>omega)|fail) only [↓yp,yq0,yq1,yq2,yq3,yq4,yl,ys0,ys1,seval,fitB,newC,endD,endR,yrg,g120,g119,g23,g24,g25,Jg8,Jg10,Jg12,J13,J19,J21,b27,h37,h38,b19,hd0,hd1,hd2,d00,d07,hw2,A_max,mm_max,hgr]
    refine fin _ n (by simp) (Keep.trans kp (by (with_reducible repeat first|refine Keep.put ?_ (by decide)|refine Keep.none ?_|assumption|exact Keep.refl _ _ _))) ?_ ?_ ?_ ?_ ?_
    ·simp (disch:=first|(simp only [yk,seval];done)|omega|(simp only [yz]<;>omega)|fail) only [yg,seval]
    ·simp (disch:=first|(simp only [yk,seval];done)|omega|(simp only [yz]<;>omega)|fail) only [yg,seval,g119]
    ·simp (disch:=first|(simp only [yk,seval];done)|omega|(simp only [yz]<;>omega)|fail) only [yg,seval]
    ·simp (disch:=first|(simp only [yk,seval];done)|omega|(simp only [yz]<;>omega)|fail) only [yg,seval]
    ·simp (disch:=first|(simp only [yk,seval];done)|omega|(simp only [yz]<;>omega)|fail) only [yg,seval]
   ·cases hnl : decide (n < ls)
    ·have hx := of_decide_eq_false hnl
     simp (disch:=first|(simp only [yk,seval];done)|omega|(simp only [yz]<;>omega)|fail) only [↓yp,yq0,yq1,yq2,yq3,yq4,yl,ys0,ys1,seval,fitB,newC,endD,endR,yrg,g120,g119,g23,g24,g25,Jg8,Jg10,Jg12,J13,J19,J21,b27,h37,h38,b19,hd0,hd1,hd2,d00,d07,hw2,A_max,mm_max,hgr,hnl]
     refine fin _ ls (by rw [if_neg (by simp; omega)]) (Keep.trans kp (by (with_reducible repeat first|refine Keep.put ?_ (by decide)|refine Keep.none ?_|assumption|exact Keep.refl _ _ _))) ?_ ?_ ?_ ?_ ?_
     ·simp (disch:=first|(simp only [yk,seval];done)|omega|(simp only [yz]<;>omega)|fail) only [yg,seval]
     ·simp (disch:=first|(simp only [yk,seval];done)|omega|(simp only [yz]<;>omega)|fail) only [yg,seval,g119]
     ·simp (disch:=first|(simp only [yk,seval];done)|omega|(simp only [yz]<;>omega)|fail) only [yg,seval,g23]
     ·simp (disch:=first|(simp only [yk,seval];done)|omega|(simp only [yz]<;>omega)|fail) only [yg,seval]
     ·simp (disch:=first|(simp only [yk,seval];done)|omega|(simp only [yz]<;>omega)|fail) only [yg,seval]
    ·have hx := of_decide_eq_true hnl
     simp (disch:=first|(simp only [yk,seval];done)|omega|(simp only [yz]<;>omega)|fail) only [↓yp,yq0,yq1,yq2,yq3,yq4,yl,ys0,ys1,seval,fitB,newC,endD,endR,yrg,g120,g119,g23,g24,g25,Jg8,Jg10,Jg12,J13,J19,J21,b27,h37,h38,b19,hd0,hd1,hd2,d00,d07,hw2,A_max,mm_max,hgr,hnl]
     refine fin _ n (by rw [if_pos (.inr hx)]) (Keep.trans kp (by (with_reducible repeat first|refine Keep.put ?_ (by decide)|refine Keep.none ?_|assumption|exact Keep.refl _ _ _))) ?_ ?_ ?_ ?_ ?_
     ·simp (disch:=first|(simp only [yk,seval];done)|omega|(simp only [yz]<;>omega)|fail) only [yg,seval]
     ·simp (disch:=first|(simp only [yk,seval];done)|omega|(simp only [yz]<;>omega)|fail) only [yg,seval,g119]
     ·simp (disch:=first|(simp only [yk,seval];done)|omega|(simp only [yz]<;>omega)|fail) only [yg,seval]
     ·simp (disch:=first|(simp only [yk,seval];done)|omega|(simp only [yz]<;>omega)|fail) only [yg,seval]
     ·simp (disch:=first|(simp only [yk,seval];done)|omega|(simp only [yz]<;>omega)|fail) only [yg,seval]
  ·obtain ⟨hd4, hd5⟩ := hd3 hd0
   cases met
   ·simp (disch:=first|(simp only [yk,seval];done)|omega|(simp only [yz]<;>omega)|fail) only [↓yp,yq0,yq1,yq2,yq3,yq4,yl,ys0,ys1,seval,fitB,newC,endD,endR,yrg,g120,g119,g23,g24,g25,Jg8,Jg10,Jg12,J13,J19,J21,b27,h37,h38,b19,hd0,hd1,hd2,d00,d07,hw2,A_max,mm_max,hgr,hd4,hd5]
    refine fin _ n (by simp) (Keep.trans kp (by (with_reducible repeat first|refine Keep.put ?_ (by decide)|refine Keep.none ?_|assumption|exact Keep.refl _ _ _))) ?_ ?_ ?_ ?_ ?_
    ·simp (disch:=first|(simp only [yk,seval];done)|omega|(simp only [yz]<;>omega)|fail) only [yg,seval]
    ·simp (disch:=first|(simp only [yk,seval];done)|omega|(simp only [yz]<;>omega)|fail) only [yg,seval,g119]
    ·simp (disch:=first|(simp only [yk,seval];done)|omega|(simp only [yz]<;>omega)|fail) only [yg,seval]
    ·simp (disch:=first|(simp only [yk,seval];done)|omega|(simp only [yz]<;>omega)|fail) only [yg,seval]
    ·simp (disch:=first|(simp only [yk,seval];done)|omega|(simp only [yz]<;>omega)|fail) only [yg,seval]
   ·cases hnl : decide (n < ls)
    ·have hx := of_decide_eq_false hnl
     simp (disch:=first|(simp only [yk,seval];done)|omega|(simp only [yz]<;>omega)|fail) only [↓yp,yq0,yq1,yq2,yq3,yq4,yl,ys0,ys1,seval,fitB,newC,endD,endR,yrg,g120,g119,g23,g24,g25,Jg8,Jg10,Jg12,J13,J19,J21,b27,h37,h38,b19,hd0,hd1,hd2,d00,d07,hw2,A_max,mm_max,hgr,hd4,hd5,hnl]
     refine fin _ ls (by rw [if_neg (by simp; omega)]) (Keep.trans kp (by (with_reducible repeat first|refine Keep.put ?_ (by decide)|refine Keep.none ?_|assumption|exact Keep.refl _ _ _))) ?_ ?_ ?_ ?_ ?_
     ·simp (disch:=first|(simp only [yk,seval];done)|omega|(simp only [yz]<;>omega)|fail) only [yg,seval]
     ·simp (disch:=first|(simp only [yk,seval];done)|omega|(simp only [yz]<;>omega)|fail) only [yg,seval,g119]
     ·simp (disch:=first|(simp only [yk,seval];done)|omega|(simp only [yz]<;>omega)|fail) only [yg,seval,g23]
     ·simp (disch:=first|(simp only [yk,seval];done)|omega|(simp only [yz]<;>omega)|fail) only [yg,seval]
     ·simp (disch:=first|(simp only [yk,seval];done)|omega|(simp only [yz]<;>omega)|fail) only [yg,seval]
    ·have hx := of_decide_eq_true hnl
     simp (disch:=first|(simp only [yk,seval];done)|omega|(simp only [yz]<;>omega)|fail) only [↓yp,yq0,yq1,yq2,yq3,yq4,yl,ys0,ys1,seval,fitB,newC,endD,endR,yrg,g120,g119,g23,g24,g25,Jg8,Jg10,Jg12,J13,J19,J21,b27,h37,h38,b19,hd0,hd1,hd2,d00,d07,hw2,A_max,mm_max,hgr,hd4,hd5,hnl]
     refine fin _ n (by rw [if_pos (.inr hx)]) (Keep.trans kp (by (with_reducible repeat first|refine Keep.put ?_ (by decide)|refine Keep.none ?_|assumption|exact Keep.refl _ _ _))) ?_ ?_ ?_ ?_ ?_
     ·simp (disch:=first|(simp only [yk,seval];done)|omega|(simp only [yz]<;>omega)|fail) only [yg,seval]
     ·simp (disch:=first|(simp only [yk,seval];done)|omega|(simp only [yz]<;>omega)|fail) only [yg,seval,g119]
     ·simp (disch:=first|(simp only [yk,seval];done)|omega|(simp only [yz]<;>omega)|fail) only [yg,seval]
     ·simp (disch:=first|(simp only [yk,seval];done)|omega|(simp only [yz]<;>omega)|fail) only [yg,seval]
     ·simp (disch:=first|(simp only [yk,seval];done)|omega|(simp only [yz]<;>omega)|fail) only [yg,seval]
end
end Go.Am.K
namespace Go.Am.K
open Go.Proofs
variable {T : Tab} {P : Program} {N L : Nat} {H H' H'' : AHeap} {Q : Bool → Value → AHeap → Prop}
section
variable {a : Option Addr} {cap : Nat} {bs : List Int}
set_option maxHeartbeats 16000000 in
set_option maxRecDepth 10000 in
theorem c7 {x0 y0 : Int} (hb : Bts H a bs) :
  acall tabA (aexec tabA Try.prog (N + 24000)) 7 [.slice a bs.length cap, .int .i64 x0, .int .i64 y0] H = some (true, .bool true, H, H.size) := by
 refine call_quiet (k := 243) (rs := [.tmp 6]) rfl fn_7 rfl rfl rfl ?_ rfl
 obtain ⟨TL, hTL⟩ : ∃ c, sub [true, true, true, true, true, true, true, true, true, true, true, true] (bodyOf Try.f7) = c := ⟨_, rfl⟩
 have hTL0 := hTL
 simp only [Try.f7,bodyOf,sub_nil,sub_seq0,sub_seq1,sub_block,sub_loop,sub_cond0,sub_cond1] at hTL ⊢
 rw [hTL]
 clear hTL
 simp (disch:=first|(simp only [yk,seval];done)|omega|(simp only [yz]<;>omega)|fail) only [↓yp,yq0,yq1,yq2,yq3,yq4,yl,ys0,ys1,seval,fitB,newC,endD,endR,yrg]
 refine c34 hb (Nat.le_refl _) (by omega) ?_
 intro H1 fr1 hs1 hc1
 simp (disch:=first|(simp only [yk,seval];done)|omega|(simp only [yz]<;>omega)|fail) only [↓yp,yq0,yq1,yq2,yq3,yq4,yl,ys0,ys1,seval,fitB,newC,endD,endR,yrg]
 refine c33 hc1 (by omega) (by omega) (Nat.le_refl _) (by omega) ?_
 intro b1 c1 b2 c2 b3 c3 ps gs rs lots H2 mk r1 r2 r3 hc2 hx2
 have sz2 := hx2.size
 have hlots := mk.lots
 obtain ⟨k, rfl⟩ : ∃ k : Nat, lots = (k : Int) := ⟨lots.toNat, by omega⟩
 have hok := mk.chk (by omega) (by omega)
 have hst := chkS_ok hok
 have hpk : ∀ p ∈ ps, p.Ok := fun p hp => Pk.isB_ok (List.all_eq_true.1 hst.pb p hp)
 have hl1 := hst.l1
 have hl4 := hst.l4
 have h48 := fun (N : Nat) (H : AHeap) => c48 (N := N) (H := H) (v := x0) (n := ps.length) (by omega)
 have hwi := wrapV_in (v := x0) (n := ps.length) (by omega)
 obtain ⟨w, hw⟩ : ∃ w, wrapV x0 ps.length = w := ⟨_, rfl⟩
 rw [hw] at h48 hwi
 obtain ⟨i, rfl⟩ : ∃ i : Nat, w = (i : Int) := ⟨w.toNat, by omega⟩
 have hil : i < ps.length := by omega
 obtain ⟨p, hp⟩ : ∃ p, ps[i]? = some p := ⟨ps[i], by simp [hil]⟩
 obtain ⟨r, hr⟩ : ∃ r, rs[i]? = some r := ⟨rs[i]'(by rw [mk.lr]; exact hil), List.getElem?_eq_getElem _⟩
 have hpin := mk.ok i p r hp hr
 have pok := hpk p (List.mem_of_getElem? hp)
 have p1 := pok.s
 have p3 := pok.o
 have w1 : w64 (p.s - p.o) = p.s - p.o := w64_of (by omega)
 have w2 : w64 (p.s - p.o + 1) = p.s - p.o + 1 := w64_of (by omega)
 have h48' := fun (N : Nat) (H : AHeap) => c48 (N := N) (H := H) (v := y0) (n := p.s - p.o + 1) (by omega)
 have hyi := wrapV_in (v := y0) (n := p.s - p.o + 1) (by omega)
 obtain ⟨y, hyy⟩ : ∃ y, wrapV y0 (p.s - p.o + 1) = y := ⟨_, rfl⟩
 rw [hyy] at h48' hyi
 have frm : Fr H2 ((H2.alloc (.rw [.slice none 0 0, .slice none 0 0, .int .i64 0] 25 false [])).put H2.size (.rw [.slice (some ⟨b1, 0, none⟩) ps.length c1, .slice (some ⟨b2, 0, none⟩) gs.length c2, .int .i64 (k : Int)] 25 false [])) := by (repeat (first | exact Fr.refl _ | assumption | refine Fr.allocd ?_ _ | refine Fr.put ?_ (by first | omega | (simp only [yz] <;> omega)) _))
 obtain ⟨b', o', cx, ex, hbx, hcx, hqx⟩ := r1.rw.at_ hp
 cases ex
 have hp1 : part cx (i * 4) 5 = some (.agg ⟨[.int .i64 p.s, .int .i64 p.w, .int .i64 p.o, .int .i64 p.f]⟩) := by
  have := part_of hqx rfl
  rwa [show 0 + i * pkE.z = i * 4 from Nat.zero_add _] at this
 simp (disch:=first|(simp only [yk,seval];done)|omega|(simp only [yz]<;>omega)|fail) only [↓yp,yq0,yq1,yq2,yq3,yq4,yl,ys0,ys1,seval,fitB,newC,endD,endR,yrg,lenV_slice st_esS_22,h48,A_indexSlice st_esS_22,hcx,hp1,Nat.zero_add,w1,w2,h48']
 obtain ⟨G, hG⟩ : ∃ G, (((H2.alloc (.rw [.slice none 0 0, .slice none 0 0, .int .i64 0] 25 false [])).put H2.size (.rw [.slice (some ⟨b1, 0, none⟩) ps.length c1, .slice (some ⟨b2, 0, none⟩) gs.length c2, .int .i64 (k : Int)] 25 false [])).alloc (.rw [.int .i64 0, .int .i64 0, .int .i64 0, .int .i64 0] 87 false [])).put (H2.size + 1) (.rw [.int .i64 p.s, .int .i64 p.w, .int .i64 p.o, .int .i64 p.f] 87 false []) = G := ⟨_, rfl⟩
 have frG : Fr H2 G := by rw [← hG]; (repeat (first | exact Fr.refl _ | assumption | refine Fr.allocd ?_ _ | refine Fr.put ?_ (by first | omega | (simp only [yz] <;> omega)) _))
 have sG : G.size = H2.size + 1 + 1 := by rw [← hG]; (first | omega | (simp only [yz] <;> omega))
 have b8G : G.get H2.size = .rw [.slice (some ⟨b1, 0, none⟩) ps.length c1, .slice (some ⟨b2, 0, none⟩) gs.length c2, .int .i64 (k : Int)] 25 false [] := by rw [← hG, get_put_ne (by omega), get_alloc_lt (by first|omega|(simp only [yz]<;>omega))]; exact get_put_same (by first|omega|(simp only [yz]<;>omega))
 have b11G : G.get (H2.size + 1) = .rw [.int .i64 p.s, .int .i64 p.w, .int .i64 p.o, .int .i64 p.f] 87 false [] := by rw [← hG]; exact get_put_same (by first|omega|(simp only [yz]<;>omega))
 rw [hG]
 refine c35 (hc2.fr frG) (r1.fr frG) hst.l1 hst.l4 (fun p hp => (hpk p hp).s) (Nat.le_refl _) (by omega) ?_
 intro b4 c4 l H3 lok r4 hc3 hx3
 have sz3 := hx3.size
 have pne : ps ≠ [] := by rintro rfl; simp at hl1
 have gne : gs ≠ [] := by rintro rfl; have := mk.g1; simp at this
 have b83 := (hx3.same _ (by omega) (by omega)).trans b8G
 have b113 := (hx3.same _ (by omega) (by omega)).trans b11G
 have lt3 : LtR H3 (some ⟨b1, 0, none⟩) (some ⟨b2, 0, none⟩) (some ⟨b4, 0, none⟩) ps gs (k : Int) l := ⟨⟨((r1.fr frG).frx hx3).rw, ((r2.fr frG).frx hx3).rw, hok⟩, r4.rw, lok⟩
 have rr3 := ((r3.fr frG).frx hx3).rw
 have fr3 : Fr H H3 := hx3.above ((hx2.above fr1 (by omega)).trans frG) (by omega)
 have s03 := fr3.size
 simp (disch:=first|(simp only [yk,seval];done)|omega|(simp only [yz]<;>omega)|fail) only [↓yp,yq0,yq1,yq2,yq3,yq4,yl,ys0,ys1,seval,fitB,newC,endD,endR,yrg,b83]
 refine c45N rfl hst lt3.st.hs lt3.st.hg (by omega) (by omega) ?_
 intro f w3 n H4 fr4 o4
 have s4 := fr4.size
 have lt4 := lt3.fr fr4
 have b84 := (fr4.same _ (by omega)).trans b83
 simp (disch:=first|(simp only [yk,seval];done)|omega|(simp only [yz]<;>omega)|fail) only [↓yp,yq0,yq1,yq2,yq3,yq4,yl,ys0,ys1,seval,fitB,newC,endD,endR,yrg,b84]
 refine c49 lt4.st gne hp (by omega) (by omega) (by omega) ?_
 intro f5 lo hi H5 fr5 py
 have s5 := fr5.size
 have b85 := (fr5.same _ (by omega)).trans b84
 have lt5 := lt4.fr fr5
 obtain ⟨sa, hsa⟩ : ∃ x, isum (fo true ps l) = x := ⟨_, rfl⟩
 obtain ⟨sb, hsb⟩ : ∃ x, isum (fo false ps l) = x := ⟨_, rfl⟩
 obtain ⟨su, hsu⟩ : ∃ x, sureV ps gs l = x := ⟨_, rfl⟩
 have fE1 : Fr H5 ((H5.alloc (.rw [.int .i64 0, .int .i64 0] 38 false [])).put H5.size (.rw [.int .i64 lo, .int .i64 hi] 38 false [])) := by (repeat (first | exact Fr.refl _ | assumption | refine Fr.allocd ?_ _ | refine Fr.put ?_ (by first | omega | (simp only [yz] <;> omega)) _))
 have fE2 : Fr H5 ((((H5.alloc (.rw [.int .i64 0, .int .i64 0] 38 false [])).put H5.size (.rw [.int .i64 lo, .int .i64 hi] 38 false [])).alloc (.rw [.int .i64 0, .int .i64 0] 38 false [])).put (H5.size + 1) (.rw [.int .i64 sa, .int .i64 sb] 38 false [])) := by (repeat (first | exact Fr.refl _ | assumption | refine Fr.allocd ?_ _ | refine Fr.put ?_ (by first | omega | (simp only [yz] <;> omega)) _))
 have h37 := fun (N : Nat) => c37 (N := N) (cap := c1) (cap' := c2) (cl := c4) (lt5.fr fE1)
 rw [hsa, hsb] at h37
 have h38 := fun (N : Nat) => c38 (N := N) (cap := c1) (cap' := c2) (cl := c4) (lt5.fr fE2)
 rw [hsu] at h38
 have hd1 : decide (lo < n) = false := by
  obtain ⟨z, hz, hb⟩ := py.elo
  have := opt_opn hp hst.l4 hpk hz hst.od lt3.st.gd o4 hb.2
  simp; omega
 have hd2 : decide (hi < lo) = false := by
  obtain ⟨z, hz, hb⟩ := py.elo
  have := py.all z lo hz hb
  simp; omega
 have d00 : decide ((0 : Int) = 0) = true := rfl
 simp (disch:=first|(simp only [yk,seval];done)|omega|(simp only [yz]<;>omega)|fail) only [↓yp,yq0,yq1,yq2,yq3,yq4,yl,ys0,ys1,seval,fitB,newC,endD,endR,yrg,b85,h37,h38,hd1,hd2,d00]
 rw [← hTL0]
 have f3E := (fr4.trans fr5).trans fE2
 have i8l : H2.size < H3.size := by omega
 have b17E : ((((H5.alloc (.rw [.int .i64 0, .int .i64 0] 38 false [])).put H5.size (.rw [.int .i64 lo, .int .i64 hi] 38 false [])).alloc (.rw [.int .i64 0, .int .i64 0] 38 false [])).put (H5.size + 1) (.rw [.int .i64 sa, .int .i64 sb] 38 false [])).get H5.size = .rw [.int .i64 lo, .int .i64 hi] 38 false [] := by
  rw [get_put_ne (by omega), get_alloc_lt (by first|omega|(simp only [yz]<;>omega))]; exact get_put_same (by first|omega|(simp only [yz]<;>omega))
 have b19E : ((((H5.alloc (.rw [.int .i64 0, .int .i64 0] 38 false [])).put H5.size (.rw [.int .i64 lo, .int .i64 hi] 38 false [])).alloc (.rw [.int .i64 0, .int .i64 0] 38 false [])).put (H5.size + 1) (.rw [.int .i64 sa, .int .i64 sb] 38 false [])).get (H5.size + 1) = .rw [.int .i64 sa, .int .i64 sb] 38 false [] := get_put_same (by first|omega|(simp only [yz]<;>omega))
 refine c7L (i8 := H2.size) (i11 := H2.size + 1) (i17 := H5.size) (i19 := H5.size + 1) (b1 := b1) (c1 := c1) (b2 := b2) (c2 := c2) (b3 := b3) (c3 := c3) (b4 := b4) (c4 := c4) (i := i) (k := k) (ps := ps) (gs := gs) (rs := rs) (l := l) (p := p) (r := r) (y := y) (lo := lo) (hi := hi) (sa := sa) (sb := sb) (su := su) (by first|omega|(simp only [yz]<;>omega))
  ⟨lt5.fr fE2, rr3.fr f3E, gne, hp, hr, hpin, by omega, py, hsa, hsb, hsu, ⟨by (first | omega | (simp only [yz] <;> omega)), by (first | omega | (simp only [yz] <;> omega)), by (first | omega | (simp only [yz] <;> omega)), by (first | omega | (simp only [yz] <;> omega))⟩, (f3E.same _ i8l).trans b83, (f3E.same _ (by omega)).trans b113, b17E, b19E, ?_, ?_, ?_, ?_, ?_, ?_, ?_, ?_, ?_⟩
 ·simp (disch:=first|(simp only [yk,seval];done)|omega|(simp only [yz]<;>omega)|fail) only [yg,seval]
 ·simp (disch:=first|(simp only [yk,seval];done)|omega|(simp only [yz]<;>omega)|fail) only [yg,seval]
 ·simp (disch:=first|(simp only [yk,seval];done)|omega|(simp only [yz]<;>omega)|fail) only [yg,seval]
 ·simp (disch:=first|(simp only [yk,seval];done)|omega|(simp only [yz]<;>omega)|fail) only [yg,seval]
 ·simp (disch:=first|(simp only [yk,seval];done)|omega|(simp only [yz]<;>omega)|fail) only [yg,seval]
 ·simp (disch:=first|(simp only [yk,seval];done)|omega|(simp only [yz]<;>omega)|fail) only [yg,seval]
 ·simp (disch:=first|(simp only [yk,seval];done)|omega|(simp only [yz]<;>omega)|fail) only [yg,seval]
 ·simp (disch:=first|(simp only [yk,seval];done)|omega|(simp only [yz]<;>omega)|fail) only [yg,seval]
 ·simp (disch:=first|(simp only [yk,seval];done)|omega|(simp only [yz]<;>omega)|fail) only [yg,seval]
end
end Go.Am.K
