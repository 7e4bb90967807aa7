import Derived.Test.YtbofjfjopeaefaaT52
set_option linter.unusedSimpArgs false
set_option linter.unusedVariables false
namespace Go.Am.K
open Go.Proofs
variable {T : Tab} {P : Program} {N L : Nat} {H H' H'' : AHeap} {Q : Bool → Value → AHeap → Prop}
section
variable {z kq cq i5 b1 c1 b2 c2 k : Nat} {aq : Option Addr} {bq : List Int} {ps : List Pk} {gs : List Gd} {n : Int} {e e' : VT} {g0 : Gd}
set_option maxHeartbeats 16000000 in
set_option maxRecDepth 10000 in
theorem c6A (hL : L ≤ kq) (hLz : L ≤ z - 1) (hz1 : 1 ≤ z) (I : EA z kq aq bq cq i5 b1 c1 b2 c2 k ps gs n H e) (hg0 : gs[0]? = some g0) (hf : 40 ≤ g0.pr) :
  W tabA Try.prog (N + 6500) none (sub [true, true, true, true, true, true] (bodyOf Try.f6)) L ⟨175, e, H, []⟩ (retK tabA L [.tmp 4] fun u _ => u = .bool true) := by
 obtain ⟨TL, hTL⟩ : ∃ c, sub [true, true, true, true, true, true, true, true, true, true] (bodyOf Try.f6) = c := ⟨_, rfl⟩
 have hTL0 := hTL
 simp only [Try.f6,bodyOf,sub_nil,sub_seq0,sub_seq1,sub_block,sub_loop,sub_cond0,sub_cond1] at hTL ⊢
 rw [hTL]
 clear hTL
 have hst := I.st.st
 have hk3 := hst.lo
 have hl4 := hst.l4
 have hl1 := hst.l1
 have zs0 := I.zs
 have hgd := I.st.gd g0 (List.mem_of_getElem? hg0)
 have hgp := hgd.p
 have g5 := I.g5
 have b5 := I.b5
 simp (disch:=first|(simp only [yk,seval];done)|omega|(simp only [yz]<;>omega)|fail) only [↓yp,yA,ys0,ys1,seval,fitB,newC,endD,endR,yrg,g5,b5,lenV_slice st_esS_22]
 refine W_while (n := 175) 6200 (fun q e' H' => ∃ (i : Nat) (v13 : Value) (S : Nat → Prop) (pr : List Int), q = ps.length - i ∧ i ≤ ps.length ∧ EA z kq aq bq cq i5 b1 c1 b2 c2 k ps gs n H' e' ∧ gt 175 e' 68 = .int .i64 (i : Nat) ∧ gt 175 e' 67 = .int .i64 (ps.length : Nat) ∧ gt 175 e' 13 = v13 ∧ Gw H' (z - 1) S v13 i (intE.fl pr) 3 1 ∧ pr.length = i ∧ ∀ v ∈ pr, v = g0.pr)
  ?_ 9 ps.length ⟨0, .slice none 0 0, fun _ => False, [], by omega, by omega, I.next (Nat.le_refl _) (fun _ _ _ => rfl) I.chu (by (with_reducible repeat first|refine Keep.put ?_ (by decide)|refine Keep.none ?_|assumption|exact Keep.refl _ _ _)), ?_, ?_, ?_, Gw.none, rfl, fun v hv => by simp at hv⟩ (by omega) (by omega)
 rotate_left
 ·simp (disch:=first|(simp only [yk,seval];done)|omega|(simp only [yz]<;>omega)|fail) only [yg,seval] <;> rfl
 ·simp (disch:=first|(simp only [yk,seval];done)|omega|(simp only [yz]<;>omega)|fail) only [yg,seval]
 ·simp (disch:=first|(simp only [yk,seval];done)|omega|(simp only [yz]<;>omega)|fail) only [yg,seval]
 clear I g5 b5
 rintro M1 q e H1 ⟨i, v13, S, pr, rfl, hi, I, g68, g67, g13, gw, hpl, hpr⟩
 have zs := I.zs
 have g5 := I.g5
 have b5 := I.b5
 simp (disch:=first|(simp only [yk,seval];done)|omega|(simp only [yz]<;>omega)|fail) only [↓yp,yA,ys0,ys1,seval,fitB,newC,endD,endR,yrg,g68,g67]
 refine ⟨fun hT => ?_, fun hT => ?_⟩
 ·have hlt : i < ps.length := by have := of_decide_eq_true hT; omega
  have hw2 : w64 ((i : Int) + 1) = ((i + 1 : Nat) : Int) := by rw [w64_of (by omega)]; omega
  obtain ⟨b', o', cg, ex, hbg, hcg, hqg⟩ := I.st.hg.at_ hg0
  cases ex
  have hce : cg[0 + 1]? = some (.int .i64 g0.pr) := by
   have h0 : (cg.drop 0).take 2 = gdE.f g0 := by
    have := hqg
    rwa [show 0 + 0 * gdE.z = 0 from rfl] at this
   have h1 : ((cg.drop 0).take 2)[1]? = some (.int .i64 g0.pr) := by rw [h0]; rfl
   rw [List.getElem?_take, if_pos (by omega), List.getElem?_drop] at h1
   exact h1
  have hgl0 : decide ((0 : Int) < (gs.length : Int)) = true := decide_eq_true (by have := (List.getElem?_eq_some_iff.1 hg0).1; omega)
  have hgl : 0 < gs.length := (List.getElem?_eq_some_iff.1 hg0).1
  simp (disch:=first|(simp only [yk,seval];done)|omega|(simp only [yz]<;>omega)|fail) only [↓yp,yA,ys0,ys1,seval,fitB,newC,endD,endR,yrg,g5,g13,b5,A_indexSlice st_esS_23,hcg,hce,hgl0,A_buildSlice st_brS_49_1]
  refine gw_append (i := i) (cs := intE.fl pr) (news := [.int .i64 g0.pr]) st_apS_49 (gw.fr (Fr.alloc _ _)) (by first|omega|(simp only [yz]<;>omega)) (by rw [fl_length, hpl]; rfl) (by unfold srcCells; simp (disch:=first|(simp only [yk,seval];done)|omega|(simp only [yz]<;>omega)|fail) only [yg,seval] <;> rfl) (by omega) (by omega) rfl hLz ?_
  intro a8 c8 H2 hs8 fs8 gw8
  simp only [size_alloc] at hs8 fs8 gw8
  have hf8 : intE.fl pr ++ [.int .i64 g0.pr] = intE.fl (pr ++ [g0.pr]) := by rw [fl_app]; rfl
  rw [hf8] at gw8
  have o2 : ∀ q, q < z → H2.get q = H1.get q := fun q hq => by rw [fs8 q (by omega) fun hS => by have := (gw.own q hS).1; omega, get_alloc_lt (by omega)]
  simp (disch:=first|(simp only [yk,seval];done)|omega|(simp only [yz]<;>omega)|fail) only [↓yp,yA,ys0,ys1,seval,fitB,newC,endD,endR,yrg,g68,hw2]
  refine ⟨ps.length - (i + 1), by omega, i + 1, .slice a8 (i + 1) c8, fun j => S j ∨ j = H1.size + 1, pr ++ [g0.pr], rfl, by omega, I.next (by omega) (fun j h1 _ => o2 j h1) (I.chu.keep (by omega) (o2 kq (by omega)) fun hne b o e hb => o2 b (I.al hne b o e)) (by (with_reducible repeat first|refine Keep.put ?_ (by decide)|refine Keep.none ?_|assumption|exact Keep.refl _ _ _)), ?_, ?_, ?_, gw8, by rw [List.length_append, hpl]; rfl, fun v hv => ?_⟩
  ·simp (disch:=first|(simp only [yk,seval];done)|omega|(simp only [yz]<;>omega)|fail) only [yg,seval]
  ·simp (disch:=first|(simp only [yk,seval];done)|omega|(simp only [yz]<;>omega)|fail) only [yg,seval,g67]
  ·simp (disch:=first|(simp only [yk,seval];done)|omega|(simp only [yz]<;>omega)|fail) only [yg,seval]
  ·rcases List.mem_append.1 hv with hv | hv
   ·exact hpr v hv
   ·simpa using hv
 have hie : i = ps.length := by have := of_decide_eq_false hT; omega
 subst hie
 obtain ⟨b, al, rfl, s1, bb, hal⟩ := gw.cons (by omega)
 have hob := gw.own b s1
 have rq : Rw intE H1 (some ⟨b, 0, none⟩) pr := Rw.of (r := []) hob.2 (by rw [bb]; rfl) (by rw [List.append_nil])
 have hq100 : ∀ x ∈ pr, 0 ≤ x ∧ x ≤ 100 := fun x hx => by rw [hpr x hx]; omega
 have g9 := I.g9
 simp (disch:=first|(simp only [yk,seval];done)|omega|(simp only [yz]<;>omega)|fail) only [↓yp,yA,ys0,ys1,seval,fitB,newC,endD,endR,yrg,g5,g13,b5]
 have h47 := fun {M : Nat} (hM : 5000 ≤ M) (Q : Bool → Value → AHeap → Prop) => c47 (Q := Q) (L := L) (M := M) (cap := c1) (cap' := c2) (pc := OPEN + 1) I.st rq hpl hq100 (by omega) hM
 rw [hpl] at h47
 refine h47 (by omega) _ ?_
 intro f bo H2 fr2 hb
 have s2 := fr2.size
 have hno := first_ok hl4 I.st.pk hst.od I.st.gd hg0 hpl hpr
 have hbo : bo = false := by
  cases bo
  ·rfl
  ·exact absurd (hb.1 rfl) hno
 subst hbo
 have hn := opt_cst (gs := gs) I.st.pk (fun v hv => (hq100 v hv).1) I.opt hno
 obtain ⟨cv, hcv⟩ : ∃ v, cst (stk ps) pr = v := ⟨_, rfl⟩
 unfold bndV
 rw [hcv] at hn ⊢
 have dn : decide (cv < n) = false := by simp; omega
 have d00 : decide ((0 : Int) = 0) = true := rfl
 simp (disch:=first|(simp only [yk,seval];done)|omega|(simp only [yz]<;>omega)|fail) only [↓yp,yA,ys0,ys1,seval,fitB,newC,endD,endR,yrg,cond_false,g9,d00,dn]
 rw [← hTL0]
 refine c6B (bp := b) (cp := OPEN + 1) (al := al) (pr := pr) hL (by omega) (I.next s2 (fun j h1 _ => fr2.same j (by omega)) (I.chu.fr fr2) (by (with_reducible repeat first|refine Keep.put ?_ (by decide)|refine Keep.none ?_|assumption|exact Keep.refl _ _ _))) ?_ ((fr2.same b hob.2).trans bb) (by omega) (fun x hx => by have := (gw.own x (hal x hx)).1; omega) hpl fun v hv => by rw [hpr v hv]; omega
 simp (disch:=first|(simp only [yk,seval];done)|omega|(simp only [yz]<;>omega)|fail) only [yg,seval,g13]
end
end Go.Am.K
namespace Go.Am.K
open Go.Proofs
variable {T : Tab} {P : Program} {N L : Nat} {H H' H'' : AHeap} {Q : Bool → Value → AHeap → Prop}
section
variable {a a2 : Option Addr} {cap cap2 : Nat} {bs bs2 : List Int}
set_option maxHeartbeats 16000000 in
set_option maxRecDepth 10000 in
theorem c6 (hb : Bts H a bs) (hb2 : Bts H a2 bs2) :
  acall tabA (aexec tabA Try.prog (N + 24000)) 6 [.slice a bs.length cap, .slice a2 bs2.length cap2] H = some (true, .bool true, H, H.size) := by
 refine call_quiet (k := 175) (rs := [.tmp 4]) rfl fn_6 rfl rfl rfl ?_ rfl
 obtain ⟨TL, hTL⟩ : ∃ c, sub [true, true, true, true, true, true] (bodyOf Try.f6) = c := ⟨_, rfl⟩
 have hTL0 := hTL
 simp only [Try.f6,bodyOf,sub_nil,sub_seq0,sub_seq1,sub_block,sub_loop,sub_cond0,sub_cond1] at hTL ⊢
 rw [hTL]
 clear hTL
 simp (disch:=first|(simp only [yk,seval];done)|omega|(simp only [yz]<;>omega)|fail) only [↓yp,yA,ys0,ys1,seval,fitB,newC,endD,endR,yrg]
 refine c34 hb (Nat.le_refl _) (by omega) ?_
 intro H1 fr1 hs1 hc1
 simp (disch:=first|(simp only [yk,seval];done)|omega|(simp only [yz]<;>omega)|fail) only [↓yp,yA,ys0,ys1,seval,fitB,newC,endD,endR,yrg]
 refine c33 hc1 (by omega) (by omega) (Nat.le_refl _) (by omega) ?_
 intro b1 c1 b2 c2 b3 c3 ps gs rs lots H2 mk r1 r2 r3 hc2 hx2
 have sz2 := hx2.size
 have hlots := mk.lots
 obtain ⟨k, rfl⟩ : ∃ k : Nat, lots = (k : Int) := ⟨lots.toNat, by omega⟩
 have hok := mk.chk (by omega) (by omega)
 have hst := chkS_ok hok
 have hl1 := hst.l1
 have pne : ps ≠ [] := by rintro rfl; simp at hl1
 have gne : gs ≠ [] := by rintro rfl; have := mk.g1; simp at this
 have fr2 : Fr H H2 := hx2.above fr1 (by omega)
 have frm : Fr H2 ((H2.alloc (.rw [.slice none 0 0, .slice none 0 0, .int .i64 0] 25 false [])).put H2.size (.rw [.slice (some ⟨b1, 0, none⟩) ps.length c1, .slice (some ⟨b2, 0, none⟩) gs.length c2, .int .i64 (k : Int)] 25 false [])) := by (repeat (first | exact Fr.refl _ | assumption | refine Fr.allocd ?_ _ | refine Fr.put ?_ (by first | omega | (simp only [yz] <;> omega)) _))
 simp (disch:=first|(simp only [yk,seval];done)|omega|(simp only [yz]<;>omega)|fail) only [↓yp,yA,ys0,ys1,seval,fitB,newC,endD,endR,yrg]
 refine c34 (hb2.fr (fr2.trans frm)) (by first|omega|(simp only [yz]<;>omega)) (by omega) ?_
 intro H3 fr3 hs3 hc3
 simp only [size_put,size_alloc] at hs3 hc3
 have s3 := fr3.same
 simp only [size_put,size_alloc] at s3
 have b53 : H3.get H2.size = .rw [.slice (some ⟨b1, 0, none⟩) ps.length c1, .slice (some ⟨b2, 0, none⟩) gs.length c2, .int .i64 (k : Int)] 25 false [] := by
  rw [s3 _ (by omega)]; exact get_put_same (by first|omega|(simp only [yz]<;>omega))
 have fr23 : Fr H2 H3 := frm.trans fr3
 have bl1 : b1 < H2.size := by
  obtain ⟨b, o, c, e1, l1, -⟩ := r1.rw.get pne
  cases e1; exact l1
 have bl2 : b2 < H2.size := by
  obtain ⟨b, o, c, e1, l1, -⟩ := r2.rw.get gne
  cases e1; exact l1
 have st3 : StR H3 (some ⟨b1, 0, none⟩) (some ⟨b2, 0, none⟩) ps gs (k : Int) := ⟨r1.rw.fr fr23, r2.rw.fr fr23, hok⟩
 have f03 : Fr H H3 := fr2.trans fr23
 have s03 := f03.size
 simp (disch:=first|(simp only [yk,seval];done)|omega|(simp only [yz]<;>omega)|fail) only [↓yp,yA,ys0,ys1,seval,fitB,newC,endD,endR,yrg,b53]
 refine c45P st3 (by omega) (by omega) ?_
 intro f4 pa pc xs n H4 fr4 pln hxk hlo hpl htot hopt
 have s4 := fr4.size
 have b54 := (fr4.same _ (by omega)).trans b53
 have st4 := st3.fr fr4
 simp (disch:=first|(simp only [yk,seval];done)|omega|(simp only [yz]<;>omega)|fail) only [↓yp,yA,ys0,ys1,seval,fitB,newC,endD,endR,yrg,b54]
 refine c46M rfl st4 pln hxk hlo hpl (by omega) (by omega) ?_
 intro f5 H5 fr5
 have s5 := fr5.size
 have b55 := (fr5.same _ (by omega)).trans b54
 have d00 : decide ((0 : Int) = 0) = true := rfl
 have dnn : decide (n = n) = true := by simp
 have dkk : decide ((k : Int) < (xs.length : Int)) = false := by simp; omega
 have dn0 : decide (n < 0) = false := by have := hopt.nn; simp; omega
 rw [htot]
 simp (disch:=first|(simp only [yk,seval];done)|omega|(simp only [yz]<;>omega)|fail) only [↓yp,yA,ys0,ys1,seval,fitB,newC,endD,endR,yrg,d00,dnn,dkk,dn0,b55,lenV_slice st_esS_82]
 rw [← hTL0]
 obtain ⟨g0, hg0⟩ : ∃ g, gs[0]? = some g := by
  cases gs with
  | nil => exact absurd rfl gne
  | cons g gs => exact ⟨g, rfl⟩
 refine c6A (z := H5.size) (kq := H2.size + 1) (aq := a2) (bq := bs2) (cq := cap2) (i5 := H2.size) (b1 := b1) (c1 := c1) (b2 := b2) (c2 := c2) (k := k) (ps := ps) (gs := gs) (n := n) (g0 := g0) (by omega) (by omega) (by omega)
  ⟨(st4.fr fr5), gne, hopt, (hc3.fr fr4).fr fr5, by omega, by omega, fun hne b o e => ?_, b55, ?_, ?_, ?_⟩ hg0 (mk.fst g0 hg0)
 ·obtain ⟨b', o', c', e1, l1, -⟩ := hb2.row hne
  rw [e] at e1
  cases e1
  omega
 ·simp (disch:=first|(simp only [yk,seval];done)|omega|(simp only [yz]<;>omega)|fail) only [yg,seval]
 ·simp (disch:=first|(simp only [yk,seval];done)|omega|(simp only [yz]<;>omega)|fail) only [yg,seval]
 ·simp (disch:=first|(simp only [yk,seval];done)|omega|(simp only [yz]<;>omega)|fail) only [yg,seval]
end
end Go.Am.K
