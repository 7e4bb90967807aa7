import Derived.Test.YtjpcaamfcfkmhaaT44
set_option linter.unusedSimpArgs false
set_option linter.unusedVariables false
namespace Go.Am.K
open Go.Proofs
variable {T : Tab} {P : Program} {N L : Nat} {H H' H'' : AHeap} {Q : Bool → Value → AHeap → Prop}
section
variable {ex : Exec} {t : Operand → Option Value}
theorem A_copy_of {ty : TypeId} {tys : List TypeId} {d s : Operand} {z b o dl dc sl sc : Nat} {sp : Option Nat} {sa : Addr} {l c : List Value} {e : TypeId} {op : Bool} (hz : esS T ty = some z) (hd : t d = some (.slice (some ⟨b, o, sp⟩) dl dc)) (hs : t s = some (.slice (some sa) sl sc))
  (hsrc : srcCells H sa (Nat.min sl dl * z) = some l) (hb : H.get b = .rw c e op []) (hf : o + l.length ≤ c.length) (h1 : oneCells l = true) (hL : L ≤ b) (hq : Q false (.int .i64 (Int.ofNat (Nat.min sl dl))) (H.put b (.rw (newC o l c) e op []))) : A T P ex t H L (.call ⟨.builtin .copy, [d, s].toArray, (ty :: tys).toArray⟩) Q := by
 unfold A
 show (match moves (aCopy T t H (ty :: tys).toArray [d, s].toArray) with
  | some (b, v, H', m) => L ≤ m ∧ Q b v H'
  | none => False)
 unfold esS at hz
 unfold aCopy
 simp only
 cases hu : T.und ty with
 | none => rw [hu] at hz; cases hz
 | some dd =>
  rw [hu] at hz
  cases dd with
  | slice el =>
   simp only at hz
   unfold inS at hz
   cases hi : T.inf el with
   | none => rw [hi] at hz; cases hz
   | some i =>
    rw [hi] at hz
    simp only [Option.some.injEq] at hz
    subst hz
    simp only [hd,hs,hi,hsrc]
    unfold aWrite
    rw [hb]
    have hle : Nat.ble (o + l.length) c.length = true := Nat.ble_eq_true_of_le hf
    simp only [hle,h1,Bool.and_self,cond_true]
    exact ⟨hL, hq⟩
  | _ => cases hz
theorem A_mkMap {r : Nat} : A T P ex t H L (.makeMap r none) Q = andK (L ≤ H.size) (Q false (.map (some H.size)) (H.alloc (.map [] 0))) := by
 unfold A
 show (match fresh H (newMap none) with
  | some (b, v, H', m) => L ≤ m ∧ Q b v H'
  | none => False) = _
 rfl
end
theorem c36 {a : Option Addr} {cap : Nat} {t : List Int} (hs : Rw intE H a t) (hl : t.length ≤ 64) (hb : ∀ x ∈ t, 0 ≤ x ∧ x ≤ 1000000) :
  acall tabA (aexec tabA Try.prog (N + 150)) 36 [.slice a t.length cap] H = some (true, .int .i64 (isum t), H, H.size) := by
 refine call_quiet (k := 17) (rs := [.tmp 2]) rfl fn_36 rfl rfl rfl ?_ rfl
 simp (disch:=first|(simp only [yk,seval];done)|omega|(simp only [yz]<;>omega)|fail) only [↓yp,yq0,yq1,yq2,yq3,yq4,yl,ys0,ys1,seval,fitB,newC,endD,endR,yrg,lenV_slice st_esS_49]
 refine W_while (n := 17) 40 (fun k e H' => ∃ i : Nat, k = t.length - i ∧ i ≤ t.length ∧ gt 17 e 8 = .int .i64 (i : Nat) ∧ gt 17 e 7 = .int .i64 t.length ∧ gt 17 e 6 = .slice a t.length cap ∧ gt 17 e 3 = .int .i64 (isum (t.take i)) ∧ H' = H)
  ?_ 64 t.length ⟨0, by omega, by omega, by simp (disch:=first|(simp only [yk,seval];done)|omega|(simp only [yz]<;>omega)|fail) only [yg,seval] <;> rfl, by simp (disch:=first|(simp only [yk,seval];done)|omega|(simp only [yz]<;>omega)|fail) only [yg,seval], by simp (disch:=first|(simp only [yk,seval];done)|omega|(simp only [yz]<;>omega)|fail) only [yg,seval], by simp (disch:=first|(simp only [yk,seval];done)|omega|(simp only [yz]<;>omega)|fail) only [yg,seval] <;> rfl, rfl⟩ (by omega) (by omega)
 rintro M k e H' ⟨i, rfl, hi, g8, g7, g6, g3, rfl⟩
 simp (disch:=first|(simp only [yk,seval];done)|omega|(simp only [yz]<;>omega)|fail) only [↓yp,yq0,yq1,yq2,yq3,yq4,yl,ys0,ys1,seval,fitB,newC,endD,endR,yrg,g8,g7]
 refine ⟨fun hA => ?_, fun hA => ?_⟩
 ·have hi' : i < t.length := by simpa using hA
  obtain ⟨v, hv⟩ : ∃ v, t[i]? = some v := ⟨t[i], by simp [hi']⟩
  obtain ⟨b, o, c, rfl, hb', hc, hp⟩ := hs.at_ hv
  have q := cell_of hp
  rw [show i * intE.z = i * 1 from rfl, Nat.mul_one] at q
  have hv2 := hb v (List.mem_of_getElem? hv)
  have hs1 := isum_le (l := t.take i) (m := 1000000) fun x hx => hb x (List.mem_of_mem_take hx)
  have hl1 : (t.take i).length ≤ 64 := by rw [List.length_take]; omega
  have e1 : isum (t.take i) + v = isum (t.take (i + 1)) := by
   rw [List.take_add_one, hv, isum_app]; show _ = _ + (v + 0); omega
  have hw : w64 (isum (t.take i) + v) = isum (t.take (i + 1)) := by rw [w64_of (by omega), e1]
  have hw2 : w64 ((i : Int) + 1) = ((i + 1 : Nat) : Int) := by rw [w64_of (by omega)]; omega
  simp (disch:=first|(simp only [yk,seval];done)|omega|(simp only [yz]<;>omega)|fail) only [↓yp,yq0,yq1,yq2,yq3,yq4,yl,ys0,ys1,seval,fitB,newC,endD,endR,yrg,g8,g7,g6,g3,A_indexSlice st_esS_49,hc,q,hw,hw2]
  exact ⟨t.length - (i + 1), by omega, i + 1, rfl, by omega, by simp (disch:=first|(simp only [yk,seval];done)|omega|(simp only [yz]<;>omega)|fail) only [yg,seval], by simp (disch:=first|(simp only [yk,seval];done)|omega|(simp only [yz]<;>omega)|fail) only [yg,seval,g7], by simp (disch:=first|(simp only [yk,seval];done)|omega|(simp only [yz]<;>omega)|fail) only [yg,seval,g6], by simp (disch:=first|(simp only [yk,seval];done)|omega|(simp only [yz]<;>omega)|fail) only [yg,seval], rfl⟩
 ·have hi' : i = t.length := by
   have : ¬ ((i : Int) < t.length) := by simpa using hA
   omega
  subst hi'
  rw [List.take_length] at g3
  simp (disch:=first|(simp only [yk,seval];done)|omega|(simp only [yz]<;>omega)|fail) only [↓yp,yq0,yq1,yq2,yq3,yq4,yl,ys0,ys1,seval,fitB,newC,endD,endR,yrg,g3]
def wrapV (v n : Int) : Int := if v.tmod n < 0 then v.tmod n + n else v.tmod n
theorem wrapV_in {v n : Int} (hn : 1 ≤ n) : 0 ≤ wrapV v n ∧ wrapV v n < n := by
 have h1 := Int.tmod_lt_of_pos v (show 0 < n by omega)
 have h2 : -n < v.tmod n := by
  have := Int.tmod_lt_of_pos (-v) (show 0 < n by omega)
  rw [Int.neg_tmod] at this
  omega
 unfold wrapV
 split <;> omega
theorem c48 {v n : Int} (hn : 1 ≤ n ∧ n ≤ 1000) : acall tabA (aexec tabA Try.prog (N + 40)) 48 [.int .i64 v, .int .i64 n] H = some (true, .int .i64 (wrapV v n), H, H.size) := by
 refine call_quiet (k := 16) (rs := [.tmp 4]) rfl fn_48 rfl rfl rfl ?_ rfl
 have h1 : decide (n < 1) = false := by simp; omega
 have hrem := fun (x y : Operand) => i64_rem (T := tabA) (P := Try.prog) (ty := 3) (x := x) (y := y) (a := v) (b := n) (by omega)
 have h2 := Int.tmod_lt_of_pos v (show 0 < n by omega)
 have h3 : -n < v.tmod n := by
  have := Int.tmod_lt_of_pos (-v) (show 0 < n by omega)
  rw [Int.neg_tmod] at this
  omega
 have w1 : w64 (v.tmod n + n) = v.tmod n + n := w64_of (by omega)
 unfold wrapV
 cases hA : decide (v.tmod n < 0)
 ·have hA' := of_decide_eq_false hA
  rw [if_neg hA']
  simp (disch:=first|(simp only [yk,seval];done)|omega|(simp only [yz]<;>omega)|fail) only [↓yp,yq0,yq1,yq2,yq3,yq4,yl,ys0,ys1,seval,fitB,newC,endD,endR,yrg,h1,hrem,hA]
 ·have hA' := of_decide_eq_true hA
  rw [if_pos hA']
  simp (disch:=first|(simp only [yk,seval];done)|omega|(simp only [yz]<;>omega)|fail) only [↓yp,yq0,yq1,yq2,yq3,yq4,yl,ys0,ys1,seval,fitB,newC,endD,endR,yrg,h1,hrem,hA,w1]
structure LotOk (ps : List Pk) (l : List Int) : Prop where
 len : l.length = ps.length
 ok : ∀ (j : Nat) (n : Int) (p : Pk), l[j]? = some n → ps[j]? = some p → 0 ≤ n ∧ n ≤ p.s
structure ML (H H' : AHeap) (k : Nat) (a : Option Addr) (bs : List Int) (cap : Nat) (ps : List Pk) (pa : Option Addr) (pc i : Nat) (l : List Int) (S : Nat → Prop) (v : Value) (e : VT) : Prop where
 g11 : gt 25 e 11 = .int .i64 (i : Nat)
 g10 : gt 25 e 10 = .int .i64 ps.length
 g9 : gt 25 e 9 = .slice pa ps.length pc
 g5 : gt 25 e 5 = v
 g0 : gt 25 e 0 = .pointer (some ⟨k, 0, none⟩)
 chu : Chu H' k a bs cap
 fr : FrX k H H'
 sz : H.size < H'.size
 r : Gw H' H.size S v i (intE.fl l) 3 1
 len : l.length = i
 ok : ∀ (j : Nat) (n : Int) (p : Pk), l[j]? = some n → ps[j]? = some p → 0 ≤ n ∧ n ≤ p.s
section
variable {k cap pc cap' : Nat} {a pa pa' : Option Addr} {bs : List Int} {ps : List Pk} {lots : Value}
set_option maxHeartbeats 2000000 in
theorem c35 (h : Chu H k a bs cap) (hs : Rx k pkE H pa ps) (h1 : 1 ≤ ps.length) (h4 : ps.length ≤ 4) (hk : ∀ p ∈ ps, 0 ≤ p.s ∧ p.s ≤ 6) (hL : L ≤ k) {n' : Nat} {M : Nat} (hM : 1000 ≤ M)
  (hq : ∀ b c l H', LotOk ps l → Rx k intE H' (some ⟨b, 0, none⟩) l → Chu H' k a bs cap → FrX k H H' → Q false (.slice (some ⟨b, 0, none⟩) l.length c) H') :
  resK (acall tabA (aexec tabA Try.prog M) 35 [.pointer (some ⟨k, 0, none⟩), .agg ⟨[.slice pa ps.length pc, .slice pa' n' cap', lots]⟩] H) L Q := by
 obtain ⟨N, rfl⟩ : ∃ N, M = N + 1000 := ⟨M - 1000, by omega⟩
 have hlt := h.lt
 refine call_keep tabA_fr (k := 25) (rs := [.tmp 4]) (R := fun v H' => ∃ b c l, v = .slice (some ⟨b, 0, none⟩) l.length c ∧ LotOk ps l ∧ Rx k intE H' (some ⟨b, 0, none⟩) l ∧ Chu H' k a bs cap ∧ FrX k H H') rfl fn_35 rfl rfl rfl (by omega) ?_ ?_ ?_
 rotate_left
 ·rintro v H' ⟨b, c, l, rfl, h1, h2, h3, h4⟩
  exact hq _ _ _ _ h1 h2 h3 h4
 ·rintro v H' ⟨b, c, l, rfl, -⟩ hg _; cases hg
 simp (disch:=first|(simp only [yk,seval];done)|omega|(simp only [yz]<;>omega)|fail) only [↓yp,yq0,yq1,yq2,yq3,yq4,yl,ys0,ys1,seval,fitB,newC,endD,endR,yrg,lenV_slice st_esS_22]
 refine W_while (n := 25) 500 (fun q e' H' => ∃ (i : Nat) (l : List Int) (S : Nat → Prop) (v : Value), q = ps.length - i ∧ i ≤ ps.length ∧ ML H H' k a bs cap ps pa pc i l S v e')
  ?_ 4 ps.length ⟨0, [], fun _ => False, .slice none 0 0, by omega, by omega, ?_⟩ (by omega) (by omega)
 rotate_left
 ·refine ⟨?_, ?_, ?_, ?_, ?_, h.fr (by repeat first|exact Fr.refl _|assumption|refine Fr.allocd ?_ _|refine Fr.put ?_ (by first|omega|(simp only [yz]<;>omega)) _), FrX.of (by repeat first|exact Fr.refl _|assumption|refine Fr.allocd ?_ _|refine Fr.put ?_ (by first|omega|(simp only [yz]<;>omega)) _), by (first | omega | (simp only [yz] <;> omega)), Gw.none, rfl, fun _ _ _ h => by simp at h⟩
  ·simp (disch:=first|(simp only [yk,seval];done)|omega|(simp only [yz]<;>omega)|fail) only [yg,seval] <;> rfl
  ·simp (disch:=first|(simp only [yk,seval];done)|omega|(simp only [yz]<;>omega)|fail) only [yg,seval]
  ·simp (disch:=first|(simp only [yk,seval];done)|omega|(simp only [yz]<;>omega)|fail) only [yg,seval]
  ·simp (disch:=first|(simp only [yk,seval];done)|omega|(simp only [yz]<;>omega)|fail) only [yg,seval]
  ·simp (disch:=first|(simp only [yk,seval];done)|omega|(simp only [yz]<;>omega)|fail) only [yg,seval]
 rintro M1 q e H' ⟨i, l, S, v, rfl, hi, I⟩
 have sz := I.sz
 have g11 := I.g11
 have g10 := I.g10
 have g9 := I.g9
 have g5 := I.g5
 have g0 := I.g0
 have f0 := I.fr.size
 simp (disch:=first|(simp only [yk,seval];done)|omega|(simp only [yz]<;>omega)|fail) only [↓yp,yq0,yq1,yq2,yq3,yq4,yl,ys0,ys1,seval,fitB,newC,endD,endR,yrg,g11,g10]
 refine ⟨fun hA => ?_, fun hA => ?_⟩
 ·have hi' : i < ps.length := by simpa using hA
  obtain ⟨p, hp⟩ : ∃ p, ps[i]? = some p := ⟨ps[i], by simp [hi']⟩
  have hps := hk p (List.mem_of_getElem? hp)
  have hsr := hs.frx I.fr
  obtain ⟨b, o, c, rfl, hb, hc, hq⟩ := hsr.rw.at_ hp
  have q : part c (o + i * 4) 5 = some (.agg ⟨p.enc⟩) := part_of hq rfl
  simp only [Pk.enc] at q
  have w1 : w64 (p.s + 1) = p.s + 1 := w64_of (by omega)
  have hw2 : w64 ((i : Int) + 1) = ((i + 1 : Nat) : Int) := by rw [w64_of (by omega)]; omega
  simp (disch:=first|(simp only [yk,seval];done)|omega|(simp only [yz]<;>omega)|fail) only [↓yp,yq0,yq1,yq2,yq3,yq4,yl,ys0,ys1,seval,fitB,newC,endD,endR,yrg,g11,g9,g5,g0,A_indexSlice st_esS_22,hc,q,w1]
  refine c42 ((I.chu.fr (Fr.alloc _ _)).other (j := H'.size) (by omega) (fun c e => by rw [get_alloc_eq rfl] at e; cases e)) hL (by omega) (by omega) ?_
  rintro f1 n H1 - ⟨p1, p2⟩ hc1 hx1 hs1
  simp only [size_put,size_alloc] at hs1
  have x1 : FrX k H' H1 := ⟨by omega, fun q h1 h2 => by rw [hx1.same q (by first|omega|(simp only [yz]<;>omega)) h2, get_put_ne (by omega), get_alloc_lt h1]⟩
  simp (disch:=first|(simp only [yk,seval];done)|omega|(simp only [yz]<;>omega)|fail) only [↓yp,yq0,yq1,yq2,yq3,yq4,yl,ys0,ys1,seval,fitB,newC,endD,endR,yrg,A_buildSlice st_brS_49_1]
  have r1 := I.r.frx (fun h => by have := (I.r.own _ h).1; omega) x1
  refine gw_append (i := i) (cs := intE.fl l) (news := [.int .i64 n]) st_apS_49 (r1.fr (by repeat first|exact Fr.refl _|assumption|refine Fr.allocd ?_ _|refine Fr.put ?_ (by first|omega|(simp only [yz]<;>omega)) _)) (by first|omega|(simp only [yz]<;>omega)) (by rw [fl_length, I.len]; rfl) (by unfold srcCells; simp (disch:=first|(simp only [yk,seval];done)|omega|(simp only [yz]<;>omega)|fail) only [yg,seval] <;> rfl) (by omega) (by omega) rfl (by omega) ?_
  intro a2 c2 H2 hs2 fs2 gw
  simp only [size_alloc] at hs2 fs2 gw
  have x2 : FrX k H H2 := ⟨by omega, fun q h1 h2 => by
   rw [fs2 q (by omega) (fun h => by have := (I.r.own _ h).1; omega), get_alloc_lt (by omega), x1.same q (by omega) h2, I.fr.same q h1 h2]⟩
  have cu : Chu H2 k a bs cap := h.again x2 (by
   rw [fs2 k (by omega) (fun h => by have := (I.r.own _ h).1; omega), get_alloc_lt (by omega)]
   exact hc1.blk)
  simp (disch:=first|(simp only [yk,seval];done)|omega|(simp only [yz]<;>omega)|fail) only [↓yp,yq0,yq1,yq2,yq3,yq4,yl,ys0,ys1,seval,fitB,newC,endD,endR,yrg,g11,hw2]
  refine ⟨ps.length - (i + 1), by omega, i + 1, l ++ [n], fun j => S j ∨ j = H1.size + 1, .slice a2 (i + 1) c2, rfl, by omega, ?_, ?_, ?_, ?_, ?_, cu, x2, by omega, ?_, ?_, ?_⟩
  ·simp (disch:=first|(simp only [yk,seval];done)|omega|(simp only [yz]<;>omega)|fail) only [yg,seval]
  ·simp (disch:=first|(simp only [yk,seval];done)|omega|(simp only [yz]<;>omega)|fail) only [yg,seval,g10]
  ·simp (disch:=first|(simp only [yk,seval];done)|omega|(simp only [yz]<;>omega)|fail) only [yg,seval,g9]
  ·simp (disch:=first|(simp only [yk,seval];done)|omega|(simp only [yz]<;>omega)|fail) only [yg,seval]
  ·simp (disch:=first|(simp only [yk,seval];done)|omega|(simp only [yz]<;>omega)|fail) only [yg,seval,g0]
  ·rw [fl_app]
   have : intE.fl [n] = [.int .i64 n] := rfl
   rw [this]
   exact gw
  ·rw [List.length_append, I.len]; rfl
  ·intro j x y hx hy
   have hl := I.len
   by_cases hj : j < i
   ·rw [List.getElem?_append_left (by omega)] at hx
    exact I.ok j x y hx hy
   ·have e1 := (List.getElem?_eq_some_iff.1 hx).1
    rw [List.length_append, hl] at e1
    simp only [List.length_cons,List.length_nil] at e1
    have : j = i := by omega
    subst this
    rw [List.getElem?_append_right (by omega), hl, Nat.sub_self] at hx
    simp only [List.getElem?_cons_zero,Option.some.injEq] at hx
    rw [hp] at hy
    cases hy
    subst hx
    omega
 ·have hi' : i = ps.length := by have := of_decide_eq_false hA; omega
  obtain ⟨b, al, rfl, s1, k1, -⟩ := I.r.cons (by omega)
  simp (disch:=first|(simp only [yk,seval];done)|omega|(simp only [yz]<;>omega)|fail) only [↓yp,yq0,yq1,yq2,yq3,yq4,yl,ys0,ys1,seval,fitB,newC,endD,endR,yrg,g5]
  refine ⟨b, OPEN + 1, l, by rw [I.len], ⟨by rw [I.len]; exact hi', I.ok⟩, ?_, I.chu, I.fr⟩
  have := I.r
  rw [← I.len] at this
  exact this.rx (fun h => by have := (I.r.own _ h).1; omega)
end
end Go.Am.K
namespace Go.Am.K
open Go.Proofs
variable {T : Tab} {P : Program} {N L : Nat} {H H' H'' : AHeap} {Q : Bool → Value → AHeap → Prop}
structure StR (H : AHeap) (a a' : Option Addr) (ps : List Pk) (gs : List Gd) (lots : Int) : Prop where
 hs : Rw pkE H a ps
 hg : Rw gdE H a' gs
 ok : chkS ps gs lots = 0
section
variable {a a' al : Option Addr} {cap cap' cl : Nat} {ps : List Pk} {gs : List Gd} {lots : Int} {l : List Int}
theorem StR.fr (h : StR H a a' ps gs lots) (f : Fr H H') : StR H' a a' ps gs lots := ⟨h.hs.fr f, h.hg.fr f, h.ok⟩
theorem StR.st (h : StR H a a' ps gs lots) : StOk ps gs lots := chkS_ok h.ok
theorem StR.pk (h : StR H a a' ps gs lots) : ∀ p ∈ ps, p.Ok := fun p hp => Pk.isB_ok (List.all_eq_true.1 h.st.pb p hp)
theorem StR.gd (h : StR H a a' ps gs lots) : ∀ g ∈ gs, g.Ok := fun g hg => by
 have := List.all_eq_true.1 h.st.gb g hg
 unfold Gd.isB wi at this
 simp only [Bool.and_eq_true,decide_eq_true_eq] at this
 exact ⟨this.1, by omega⟩
theorem LotOk.in (h : LotOk ps l) (hk : ∀ p ∈ ps, p.Ok) : ∀ n ∈ l, 0 ≤ n ∧ n ≤ 6 := fun n hn => by
 obtain ⟨j, hj⟩ := List.getElem?_of_mem hn
 have hlt := (List.getElem?_eq_some_iff.1 hj).1
 obtain ⟨p, hp⟩ : ∃ p, ps[j]? = some p := ⟨ps[j]'(by rw [← h.len]; exact hlt), by simp [show j < ps.length by rw [← h.len]; exact hlt]⟩
 have h1 := h.ok j n p hj hp
 have h2 := (hk p (List.mem_of_getElem? hp)).s
 omega
def mx (l : List Int) : List Int := pt l l.length
theorem mx_len (h : l.length ≤ 4) : (mx l).length = 4 := pt_len (Nat.le_refl _) h
theorem mx_in (h : ∀ n ∈ l, 0 ≤ n ∧ n ≤ 6) : ∀ n ∈ mx l, 0 ≤ n ∧ n ≤ 6 := fun n hn => by
 unfold mx pt at hn
 rw [List.take_length] at hn
 rcases List.mem_append.1 hn with hn | hn
 ·exact h n hn
 ·have := List.eq_of_mem_replicate hn; omega
theorem mx_sum : isum (mx l) = isum l := isum_pt
theorem fo_mx {s : Bool} : ∀ {ps : List Pk} {l r : List Int}, l.length = ps.length → fo s ps (l ++ r) = fo s ps l
 | [], [], _, _ => by simp [fo]
 | [], _ :: _, _, h => by simp at h
 | _ :: _, [], _, h => by simp at h
 | p :: ps, n :: l, r, h => by
  simp only [List.cons_append,fo]
  rw [fo_mx (by simpa using h)]
theorem fo_pad {s : Bool} (h : l.length = ps.length) : fo s ps (mx l) = fo s ps l := by
 unfold mx pt
 rw [List.take_length]
 exact fo_mx h
set_option maxHeartbeats 1000000 in
theorem c99 {x y : Value} (hs : Rw pkE H a ps) (hl : Rw intE H al l) (ho : LotOk ps l) (h4 : ps.length ≤ 4) :
  acall tabA (aexec tabA Try.prog (N + 250)) 99 [.agg ⟨[.slice a ps.length cap, x, y]⟩, .slice al l.length cl] H = some (true, .int .i64 0, H, H.size) := by
 refine call_quiet (k := 30) (rs := [.tmp 4]) rfl fn_99 rfl rfl rfl ?_ rfl
 have hll : decide ((l.length : Int) = (ps.length : Int)) = true := by rw [ho.len]; simp
 simp (disch:=first|(simp only [yk,seval];done)|omega|(simp only [yz]<;>omega)|fail) only [↓yp,yq0,yq1,yq2,yq3,yq4,yl,ys0,ys1,seval,fitB,newC,endD,endR,yrg,lenV_slice st_esS_22,lenV_slice st_esS_49,hll]
 refine W_while (n := 30) 100 (fun q e' H' => ∃ i : Nat, q = ps.length - i ∧ i ≤ ps.length ∧ gt 30 e' 16 = .int .i64 (i : Nat) ∧ gt 30 e' 15 = .int .i64 ps.length ∧ gt 30 e' 14 = .slice a ps.length cap ∧ gt 30 e' 1 = .slice al l.length cl ∧ gt 30 e' 4 = .int .i64 0 ∧ Fr H H')
  ?_ 4 ps.length ⟨0, by omega, by omega, by simp (disch:=first|(simp only [yk,seval];done)|omega|(simp only [yz]<;>omega)|fail) only [yg,seval] <;> rfl, by simp (disch:=first|(simp only [yk,seval];done)|omega|(simp only [yz]<;>omega)|fail) only [yg,seval], by simp (disch:=first|(simp only [yk,seval];done)|omega|(simp only [yz]<;>omega)|fail) only [yg,seval], by simp (disch:=first|(simp only [yk,seval];done)|omega|(simp only [yz]<;>omega)|fail) only [yg,seval], by simp (disch:=first|(simp only [yk,seval];done)|omega|(simp only [yz]<;>omega)|fail) only [yg,seval], by (repeat (first | exact Fr.refl _ | assumption | refine Fr.allocd ?_ _ | refine Fr.put ?_ (by first | omega | (simp only [yz] <;> omega)) _))⟩ (by omega) (by omega)
 rintro M1 q e H' ⟨i, rfl, hi, g16, g15, g14, g1, g4, fr⟩
 have f0 := fr.size
 have fs := fr.same
 simp (disch:=first|(simp only [yk,seval];done)|omega|(simp only [yz]<;>omega)|fail) only [↓yp,yq0,yq1,yq2,yq3,yq4,yl,ys0,ys1,seval,fitB,newC,endD,endR,yrg,g16,g15]
 refine ⟨fun hA => ?_, fun hA => ?_⟩
 ·have hi' : i < ps.length := by simpa using hA
  obtain ⟨p, hp⟩ : ∃ p, ps[i]? = some p := ⟨ps[i], by simp [hi']⟩
  obtain ⟨n, hn⟩ : ∃ n, l[i]? = some n := ⟨l[i]'(by rw [ho.len]; exact hi'), by simp [show i < l.length by rw [ho.len]; exact hi']⟩
  have hnp := ho.ok i n p hn hp
  have hil : i < l.length := by rw [ho.len]; exact hi'
  obtain ⟨b, o, c, rfl, hb, hc, hq⟩ := (hs.fr fr).at_ hp
  have q : part c (o + i * 4) 5 = some (.agg ⟨p.enc⟩) := part_of hq rfl
  obtain ⟨b2, o2, c2, rfl, hb2, hc2, hq2⟩ := (hl.fr fr).at_ hn
  have q2 := cell_of hq2
  rw [show i * intE.z = i * 1 from rfl, Nat.mul_one] at q2
  have hw2 : w64 ((i : Int) + 1) = ((i + 1 : Nat) : Int) := by rw [w64_of (by omega)]; omega
  have h58 := fun (N : Nat) (H : AHeap) => c58 (N := N) (H := H) (n := n) (lo := 0) (hi := p.s)
  have hwi : wi n 0 p.s = true := by unfold wi; simp; omega
  rw [hwi] at h58
  simp only [Pk.enc] at q
  simp (disch:=first|(simp only [yk,seval];done)|omega|(simp only [yz]<;>omega)|fail) only [↓yp,yq0,yq1,yq2,yq3,yq4,yl,ys0,ys1,seval,fitB,newC,endD,endR,yrg,g16,g14,A_indexSlice st_esS_22,hc,q]
  refine W_draw [] rfl (by kernel_rfl) (by kernel_rfl) (by first|omega|(simp only [yz]<;>omega)) ?_
  simp (disch:=first|(simp only [yk,seval];done)|omega|(simp only [yz]<;>omega)|fail) only [↓yp,yq0,yq1,yq2,yq3,yq4,yl,ys0,ys1,seval,fitB,newC,endD,endR,yrg,g16,g15,g14,g1,g4,A_indexSlice st_esS_49,hc2,q2,h58,hw2]
  refine ⟨ps.length - (i + 1), by omega, i + 1, rfl, by omega, ?_, ?_, ?_, ?_, ?_, by (repeat (first | exact Fr.refl _ | assumption | refine Fr.allocd ?_ _ | refine Fr.put ?_ (by first | omega | (simp only [yz] <;> omega)) _))⟩
  ·simp (disch:=first|(simp only [yk,seval];done)|omega|(simp only [yz]<;>omega)|fail) only [yg,seval]
  ·simp (disch:=first|(simp only [yk,seval];done)|omega|(simp only [yz]<;>omega)|fail) only [yg,seval,g15]
  ·simp (disch:=first|(simp only [yk,seval];done)|omega|(simp only [yz]<;>omega)|fail) only [yg,seval,g14]
  ·simp (disch:=first|(simp only [yk,seval];done)|omega|(simp only [yz]<;>omega)|fail) only [yg,seval,g1]
  ·simp (disch:=first|(simp only [yk,seval];done)|omega|(simp only [yz]<;>omega)|fail) only [yg,seval,g4]
 ·simp (disch:=first|(simp only [yk,seval];done)|omega|(simp only [yz]<;>omega)|fail) only [↓yp,yq0,yq1,yq2,yq3,yq4,yl,ys0,ys1,seval,fitB,newC,endD,endR,yrg,g4]
theorem c74 (h : StR H a a' ps gs lots) (hl : Rw intE H al l) (ho : LotOk ps l) :
  acall tabA (aexec tabA Try.prog (N + 400)) 74 [.agg ⟨[.slice a ps.length cap, .slice a' gs.length cap', .int .i64 lots]⟩, .slice al l.length cl] H = some (true, .int .i64 0, H, H.size) := by
 refine call_quiet (k := 14) (rs := [.tmp 4]) rfl fn_74 rfl rfl rfl ?_ rfl
 have fr : Fr H (H.alloc (.rw [.slice a ps.length cap, .slice a' gs.length cap', .int .i64 lots] 25 false [])) := by (repeat (first | exact Fr.refl _ | assumption | refine Fr.allocd ?_ _ | refine Fr.put ?_ (by first | omega | (simp only [yz] <;> omega)) _))
 have h16 := fun (N : Nat) => c16 (N := N) (cap := cap) (cap' := cap') (lots := lots) (h.hs.fr fr) (h.hg.fr fr)
 rw [h.ok] at h16
 have h99 := fun (N : Nat) => c99 (N := N) (cap := cap) (cl := cl) (x := .slice a' gs.length cap') (y := .int .i64 lots) (h.hs.fr fr) (hl.fr fr) ho h.st.l4
 simp (disch:=first|(simp only [yk,seval];done)|omega|(simp only [yz]<;>omega)|fail) only [↓yp,yq0,yq1,yq2,yq3,yq4,yl,ys0,ys1,seval,fitB,newC,endD,endR,yrg,h16,h99]
theorem mx_cells (h : l.length ≤ 4) : newC 0 (tv l) [Value.int .i64 0, .int .i64 0, .int .i64 0, .int .i64 0] = tv (mx l) := by
 match l, h with
 | [], _ => rfl
 | [_], _ => rfl
 | [_, _], _ => rfl
 | [_, _, _], _ => rfl
 | [_, _, _, _], _ => rfl
theorem c75 (hl : Rw intE H al l) (h1 : 1 ≤ l.length) (h4 : l.length ≤ 4) : acall tabA (aexec tabA Try.prog (N + 40)) 75 [.slice al l.length cl] H = some (true, .agg ⟨tv (mx l)⟩, H, H.size) := by
 refine call_quiet (k := 8) (rs := [.cell 2 119]) rfl fn_75 rfl rfl rfl ?_ (gr_tv _)
 obtain ⟨b, o, c, rfl, hb, hc, hq⟩ := hl.get (by rintro rfl; simp at h1)
 have hmin : Nat.min l.length 4 = l.length := Nat.min_eq_left h4
 have hsrc : ∀ H', Fr H H' → srcCells H' ⟨b, o, none⟩ (Nat.min l.length 4 * 1) = some (tv l) := fun H' f => by
  rw [hmin]
  have := (hl.fr f).src (by rintro rfl; simp at h1)
  rw [fl_int] at this
  exact this
 simp (disch:=first|(simp only [yk,seval];done)|omega|(simp only [yz]<;>omega)|fail) only [↓yp,yq0,yq1,yq2,yq3,yq4,yl,ys0,ys1,seval,fitB,newC,endD,endR,yrg,A_all st_arS_119 (by unfold OPEN; omega) (by omega)]
 refine A_copy_of (z := 1) (b := H.size + 1) (o := 0) (sp := none) (dc := 4) (sc := cl) (l := tv l) (c := [.int .i64 0, .int .i64 0, .int .i64 0, .int .i64 0]) (e := 119) (op := false) (dl := 4) (sl := l.length) (sa := ⟨b, o, none⟩) st_esS_49 (by simp (disch:=first|(simp only [yk,seval];done)|omega|(simp only [yz]<;>omega)|fail) only [↓yp,yq0,yq1,yq2,yq3,yq4,yl,ys0,ys1,seval,fitB,newC,endD,endR,yrg]) (by simp (disch:=first|(simp only [yk,seval];done)|omega|(simp only [yz]<;>omega)|fail) only [↓yp,yq0,yq1,yq2,yq3,yq4,yl,ys0,ys1,seval,fitB,newC,endD,endR,yrg]) (hsrc _ (by repeat first|exact Fr.refl _|assumption|refine Fr.allocd ?_ _|refine Fr.put ?_ (by first|omega|(simp only [yz]<;>omega)) _)) (by simp (disch:=first|(simp only [yk,seval];done)|omega|(simp only [yz]<;>omega)|fail) only [yg,seval]) (by rw [tv_len]; show 0 + l.length ≤ 4; omega) (one_tv _) (by omega) ?_
 rw [mx_cells h4]
 have hmp : part (tv (mx l)) 0 5 = some (.agg ⟨tv (mx l)⟩) := part_tv (mx_len h4)
 have hl4 : (tv (mx l)).length = 4 := by rw [tv_len, mx_len h4]
 have h0 : newC 0 (tv (mx l)) [Value.int .i64 0, .int .i64 0, .int .i64 0, .int .i64 0] = tv (mx l) := by
  unfold newC
  rw [hl4]
  simp
 simp (disch:=first|(simp only [yk,seval];done)|omega|(simp only [yz]<;>omega)|fail) only [↓yp,yq0,yq1,yq2,yq3,yq4,yl,ys0,ys1,seval,fitB,newC,endD,endR,yrg,hmp,hl4,one_tv,h0]
theorem one_map' {m : Nat} {c : List Value} : oneCells (.map (some m) :: c) = oneCells c := nr rfl
theorem cells_map' {p : Option Nat} : (Value.map p).cells.toList = [.map p] := nr rfl
theorem c77 {n n' : Nat} (hL : L ≤ H.size) {M : Nat} (hM : 30 ≤ M) (hq : ∀ mk H', Fr H H' → H.size ≤ mk → mk < H'.size → H'.get mk = .map [] 0 → Q false (.agg ⟨[.slice a n cap, .slice a' n' cap', .int .i64 lots, .map (some mk)]⟩) H') :
  resK (acall tabA (aexec tabA Try.prog M) 77 [.agg ⟨[.slice a n cap, .slice a' n' cap', .int .i64 lots]⟩] H) L Q := by
 obtain ⟨N, rfl⟩ : ∃ N, M = N + 30 := ⟨M - 30, by omega⟩
 refine call_fls (R := fun v H' => ∃ mk, v = .agg ⟨[.slice a n cap, .slice a' n' cap', .int .i64 lots, .map (some mk)]⟩ ∧ Fr H H' ∧ H.size ≤ mk ∧ mk < H'.size ∧ H'.get mk = .map [] 0) (k := 6) (rs := [.cell 2 124]) rfl fn_77 rfl rfl rfl hL ?_ ?_ ?_
 rotate_left
 ·rintro v H' ⟨mk, rfl, -⟩
  simp [gr, ground]
 ·rintro v H' ⟨mk, rfl, h1, h2, h3, h4⟩
  exact hq _ _ h1 h2 h3 h4
 simp (disch:=first|(simp only [yk,seval];done)|omega|(simp only [yz]<;>omega)|fail) only [↓yp,yq0,yq1,yq2,yq3,yq4,yl,ys0,ys1,seval,fitB,newC,endD,endR,yrg,A_mkMap,A_build st_bdS_124,one_map',cells_map']
 exact ⟨H.size + 1 + 1, by simp only [yg,seval], by (repeat (first | exact Fr.refl _ | assumption | refine Fr.allocd ?_ _ | refine Fr.put ?_ (by first | omega | (simp only [yz] <;> omega)) _)), by (first | omega | (simp only [yz] <;> omega)), by (first | omega | (simp only [yz] <;> omega)), by simp (disch:=first|(simp only [yk,seval];done)|omega|(simp only [yz]<;>omega)|fail) only [yg,seval]⟩
end
end Go.Am.K
